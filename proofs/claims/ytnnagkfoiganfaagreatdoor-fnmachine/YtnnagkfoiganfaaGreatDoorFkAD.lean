import Derived.Test.YtnnagkfoiganfaaGreatDoorFkAA
import Derived.Deep.CutBlock
namespace Go.Proofs.YtnnagkfoiganfaaGreatDoor
open Go.ChangeShapes Go.WideShapes Go.ChangeAt Go.RowKit Go.Deep XD XI XU XG XP XK XW XT XF XE XH _root_.List _root_.Nat XY Go.Proofs.Tryz
open _root_.Array renaming replicate->AV
open _root_.BitVec renaming ofInt->Aa
open _root_.Bool renaming and_eq_true->AF,or_eq_true->AS,eq_iff_iff->AW
open _root_.Go renaming mem_ready->AU,YieldsIf->Ab,getD_set_ne->Au,ready_mono->Aw,Ending->Ax,Program->Az,about_put->A0,wpIn_region_any->A9,wp_region_any->BD
open _root_.Go.Oper renaming uponIn->AY,semAt_none->Ai,wp->Ak,wpIn->As
open _root_.Go.Region renaming ready->AA,Mode->AI,wanted->AM,noSelect->AO,noSelect_spec->AR,free->AT,binds->AZ,free_spec->Aq
open _root_.Go.Value renaming ownBlock->AX
open _root_.Go.World.ownsRow renaming cellAt->AB,frozenAt->AE,lt->AK,stored->AQ
open _root_.Int renaming eq_ofNat_of_zero_le->Al,emod_lt_of_pos->Ar,emod_nonneg->Av
open _root_.List renaming append_assoc->AD,cons_append->AH,length->AN,all_eq_true->Ac,getElem?_take->Ad,getElem?_drop->Ae,nil_append->Af,append_cancel_left->Ag,range->Aj,getElem?_eq_getElem->Ap,range_succ->Ay,getElem?_eq_none->A8
open _root_.List.cons renaming injEq->AC
open _root_.Nat renaming zero_le->AJ,lt_of_lt_of_le->AP,le_refl->Ah,add_zero->Am,le_trans->An,mul_le_mul_right->Ao,lt_or_ge->A6,le_of_lt->A7,add_mul->BA
open _root_.Prod.mk renaming injEq->AG
open _root_.Sum.inl renaming injEq->AL
set_option linter.unusedVariables false
set_option linter.unusedSimpArgs false
set_option maxRecDepth 100000
set_option maxHeartbeats 64000000
variable {oj o oi:Oper} {listed:Array Bool} {Y:Act->Prop} {wo:Nat->(Act->Ww->Prop)->Act->Ww->Prop} {v:Vv} {b:Bool} {c id L j fuel n m:Nat} {f F:Nat->Nat->Bool} {Q:Exit->Act->Ww->Prop} {rest:List Oper} {W wr w:Ww} {S:Ww->Prop} {s:Prop} {md:Region.Mode} {ys zs xs:List U8} {ts:List Pat} {ρ' γ':Nat->Nat} {t t':Pat} {A B:List U8->Pat->Prop} {os us:List (List Pat)} {R:U8->Prop} {x:Ent} {a' a:Act} {hh:Int} {row:Option Nat} {P:Program} {X:List Nat}
section
section
variable {ops:Array Oper}
def AnyG(wo:Nat->(Act->Ww->Prop)->Act->Ww->Prop)(md:AI)(ops:Array Oper)(Q:Exit->Act->Ww->Prop)(W:Nat->Prop)(S:Ww->Prop):Nat->Array Bool->Act->Ww->Prop
 |0,listed,a,w=>AA md ops listed= []/\Q .normal a w
 |fuel+1,listed,a,w=>(AA md ops listed= []->Q .normal a w)/\∀i∈AA md ops listed,wo i (λa' w'=>(W i\/S w')/\AnyG wo md ops Q W S fuel (listed.setIfInBounds i true) a' w') a w
def AnyT(P:Az)(md:AI)(ops:Array Oper)(Q:Exit->Act->Ww->Prop)(S:Ww->Prop)(L:Nat):Nat->Array Bool->Act->Ww->Prop:=AnyG (wpOp P ops Q) md ops Q (λi=>i=L) S
theorem yJ2{W:Nat->Prop}:∀(fuel:Nat)(listed:Array Bool)(a:Act)(w:Ww),AnyG (wpOp P ops Q) md ops Q W S fuel listed a w->wpAny P md ops Q fuel listed a w
 |0,_,_,_,h=>h
 |fuel+1,_,_,_,h=>⟨h.1,λi hi=>wpOp_mono (λa' w' h'=>yJ2 fuel _ a' w' h'.2) (h.2 i hi)⟩
def yGt(md:AI)(ops:Array Oper)(L i:Nat):Bool:=((ops[L]?).map (λo=>o.after.any λe=>AZ md e && e.on==i)).getD false
theorem yYp{i:Nat}(ho:ops[L]?=some o)(h:yGt md ops L i=true):∃e∈o.after,AZ md e=true/\e.on=i:=by unfold yGt at h;rw[ho]at h;simp only[Option.map_some,Option.getD_some,Array.any_eq_true]at h;have⟨k,hk,hb⟩:=h;rw[AF,beq_iff_eq]at hb;exact⟨_,Array.getElem_mem hk,hb.1,hb.2⟩
theorem yUm{k:Nat}(hj:j∈AA md ops listed)(h0:listed.getD k true=false)(a1:ops[j]?=some oj):∀e∈oj.after,AZ md e=true->e.on≠k:=λe he hb heq=>by
 obtain⟨_,o,a2,aa⟩:=AU.1 hj;cases a1.symm.trans a2;have h1:=aa e he hb;rw[heq]at h1;rcases A6 k listed.size with h'|h'
 .simp[h']at h0 h1;rw[h0]at h1;cases h1
 .simp[Array.getElem?_eq_none h']at h1
theorem yFs{p:Nat}(h:yGt md ops j p=true)(hun:listed.getD p true=false):¬j∈AA md ops listed:=λhj=>by obtain⟨_,oj,a1,_⟩:=AU.1 hj;obtain⟨e,he,hb,a2⟩:=yYp a1 h;exact yUm hj hun a1 e he hb a2
section
variable {W:Nat->Prop} {I:Array Bool->Prop} {T:Ww->Prop} {i:Nat}
theorem yNm(hi:ops[i]?=some oi)(hm:∀{j:Nat}{K K':Act->Ww->Prop}{a:Act}{w:Ww},(∀a w,K a w->K' a w)->wo j K a w->wo j K' a w)
  (h1:∀{K:Act->Ww->Prop}{a:Act}{w:Ww},Y a->T w->K (a.put oi.dst v) w->wo i K a w)
  (h2:∀{j:Nat}{oj:Oper}{K:Act->Ww->Prop}{a:Act}{w:Ww},ops[j]?=some oj->oi.apart ops oj=true->Y a->wo j K (a.put oi.dst v) w->wo j (λa' w'=>Y a'/\K (a'.put oi.dst v) w') a w)
  (hT:∀w,T w->W i\/S w) (hI:∀listed,I listed->i∈AA md ops listed->∀j∈AA md ops listed,j≠i->(∀w,W j\/S w->T w)/\I (listed.setIfInBounds j true)):
  ∀(fuel:Nat)(listed:Array Bool)(a:Act)(w:Ww),I listed->(∀j oj,ops[j]?=some oj->j≠i->listed.getD j true=false->(∀e∈oj.after,AZ md e=true->e.on≠i)->oi.apart ops oj=true)->i∈AA md ops listed->Y a->T w->
   AnyG wo md ops Q W S fuel (listed.setIfInBounds i true) (a.put oi.dst v) w->AnyG wo md ops Q W S (fuel+1) listed a w:=by
 intro fuel;induction fuel with
 |zero=>
  intro listed a w _ _ hr hy hS H;refine⟨λh=>(by rw[h]at hr;cases hr),λj hj=>?_⟩;by_cases hji:j=i
  .subst hji;exact h1 hy hS ⟨hT _ hS,H⟩
  .have:=Aw hj hji;rw[H.1]at this;cases this
 |succ fuel ih=>
  intro listed a w hX a7 hr hy hS H;refine⟨λh=>(by rw[h]at hr;cases hr),λj hj=>?_⟩;by_cases hji:j=i
  .subst hji;exact h1 hy hS ⟨hT _ hS,H⟩
  .obtain⟨a3,oj,a1,aa⟩:=AU.1 hj;obtain⟨b1,b2⟩:=hI listed hX hr j hj hji;refine hm (λa' w' h3=>⟨h3.2.1,ih _ a' w' b2 (λk ok hk hki a0 hno=>a7 k ok hk hki ?_ hno) (Aw hr (Ne.symm hji)) h3.1 (b1 _ h3.2.1) ?_⟩) (h2 a1 (a7 j oj a1 hji a3 (yUm hj (AU.1 hr).1 a1)) hy (H.2 j (Aw hj hji)))
   .by_cases hjk:j=k
    .subst hjk;exact a3
    .rw[Au true hjk]at a0;exact a0
   .rw[Array.setIfInBounds_comm _ _ hji];exact h3.2.2
theorem yEu(hi:ops[i]?=some oi)(hs:AO ops=true)(hf:AT md ops listed i=true)(hr:(AA md ops listed).contains i=true)(hQ:∀c a w,Q (.panic c) (a.put oi.dst v) w->Q (.panic c) a w)(hT:∀w,T w->W i\/S w)(hI:∀listed,I listed->i∈AA md ops listed->∀j∈AA md ops listed,j≠i->(∀w,W j\/S w->T w)/\I (listed.setIfInBounds j true))
  (h0:I listed) (hy:Ab P ops T oi v a) (hS:T w) (h:AnyG (wpOp P ops Q) md ops Q W S fuel (listed.setIfInBounds i true) (a.put oi.dst v) w):AnyG (wpOp P ops Q) md ops Q W S (fuel+1) listed a w:=
 yNm (wo:=wpOp P ops Q) (Y:=Ab P ops T oi v) hi wpOp_mono (λhy h k=>hy.wpOp hi h k) (λa1 ap hy h=>wpOp_putIf a1 ap (λcs b=>AR hs i oi cs b hi) (λcs b=>AR hs _ _ cs b a1) hQ hy h) hT hI fuel listed a w h0 (Aq hi hf) (by simpa using hr) hy hS h
end
theorem yCi{i:Nat}(hi:ops[i]?=some oi)
  (hs:AO ops=true) (hf:AT md ops listed i=true) (hr:(AA md ops listed).contains i=true) (hL:yGt md ops L i=true) (hne:i≠L)
  (hQ:∀c a w,Q (.panic c) (a.put oi.dst v) w->Q (.panic c) a w) (hy:Ab P ops S oi v a) (hS:S w)
  (h:AnyT P md ops Q S L fuel (listed.setIfInBounds i true) (a.put oi.dst v) w):AnyT P md ops Q S L (fuel+1) listed a w:=
 yEu (I:=λ_=>True) hi hs hf hr hQ (λ_ h=>.inr h) (λl _ h1 j hj _=>⟨λw h=>h.resolve_left λq=>yFs hL (AU.1 h1).1 (q▸hj),trivial⟩) trivial hy hS h
theorem yPo{i:Nat}(hr:AA md ops listed= [i])(ho:ops[i]?=some o)
  (h:∀K':Act->Ww->Prop,Shut (∀a w,(i=L\/S w)->AnyT P md ops Q S L fuel (listed.setIfInBounds i true) a w->K' a w)->if AM o (yielded ops a.tmps)=true then Ak P o a w K' Q else K' (a.put o.dst undef) w):
  AnyT P md ops Q S L (fuel+1) listed a w:=by
 exact xJ6
theorem yC{i:Nat}{q:Oper}(hr:AA md ops listed= [i,j])(ho:ops[i]?=some o)(hq:ops[j]?=some q)
  (h:∀K':Act->Ww->Prop,Shut (∀a w,(i=L\/S w)->AnyT P md ops Q S L fuel (listed.setIfInBounds i true) a w->K' a w)->if AM o (yielded ops a.tmps)=true then Ak P o a w K' Q else K' (a.put o.dst undef) w)
  (h':∀K':Act->Ww->Prop,Shut (∀a w,(j=L\/S w)->AnyT P md ops Q S L fuel (listed.setIfInBounds j true) a w->K' a w)->if AM q (yielded ops a.tmps)=true then Ak P q a w K' Q else K' (a.put q.dst undef) w):
  AnyT P md ops Q S L (fuel+1) listed a w:=by
 refine⟨λh0=>(by rw[hr]at h0;cases h0),λk hk=>?_⟩;rw[hr]at hk;simp at hk;rcases hk with rfl|rfl
 .exact wpOp_step ho (λK' hK=>h K' (λa w hS hW=>hK a w ⟨hS,hW⟩))
 .exact wpOp_step hq (λK' hK=>h' K' (λa w hS hW=>hK a w ⟨hS,hW⟩))
theorem xCa(hr:AA md ops listed= [])(h:Q .normal a w):AnyT P md ops Q S L fuel listed a w:=by exact xGq
theorem yAe(L:Nat)(S:Ww->Prop)(hm:P.follows .mixedOrders=true)
  (h:AnyT P .any ops Q S L ops.size (AV ops.size false) a w.drew):(Code.region id ops true).wp P Q a w:=
 BD hm (yJ2 _ _ _ _ h)
end
end
abbrev slV(r n c:Nat):Vv:=(xg r n c)
def bsV(N:Nat)(f:Nat->Bool):List Vv:=(Aj N).map (λj=>(f j))
theorem yT6(N:Nat)(f:Nat->Bool):(bsV N f).length=N:=by simp[bsV]
variable {N:Nat}
theorem yT7{f:Nat->Bool}(h:j<N):(bsV N f)[j]?=some (.bool (f j)):=by simp[bsV,h]
def upd1(f:Nat->Bool)(j:Nat)(b:Bool):Nat->Bool:=λx=>if x=j then b else f x
def upd2(f:Nat->Nat->Bool)(i j:Nat)(b:Bool):Nat->Nat->Bool:=λx y=>if x=i/\y=j then b else f x y
theorem xIz{f:Nat->Bool}(h:j<N):(bsV N f).set j b=bsV N (upd1 f j b):=by
 apply ext_getElem?;intro i;rcases A6 i N with hi|hi
 .rw[yT7 hi];by_cases e:i=j
  .subst e;rw[getElem?_set_self (by rw[yT6];exact hi)];simp[upd1]
  .rw[getElem?_set_ne (λq=>e q.symm),yT7 hi];simp[upd1,e]
 .rw[A8 (by simp[yT6];exact hi),A8 (by simp[yT6];exact hi)]
def BRow(w:Ww)(O r c N:Nat)(f:Nat->Bool):Prop:=w.ownsRow O 4 1 (slV r N c) N (bsV N f)
def yP3(N k:Nat)(ρ γ:Nat->Nat):List Vv:=(Aj k).map (λi=>slV (ρ i) N (γ i))
def ORow(w:Ww)(O g cp N k:Nat)(ρ γ:Nat->Nat):Prop:=w.ownsRow O 118 1 (slV g k cp) k (yP3 N k ρ γ)
variable {O r:Nat}
theorem BRow.lt{f:Nat->Bool}(h:BRow w O r c N f):O<=r/\r<w.heap.size:=AK h r rfl
variable {cp:Nat} {ρ γ:Nat->Nat}
theorem ORow.lt{g k:Nat}(h:ORow w O g cp N k ρ γ):O<=g/\g<w.heap.size:=AK h g rfl
variable {w':Ww}
theorem BRow.i{S:Nat->Prop}{f:Nat->Bool}(h:BRow w O r c N f)(hc:Chg S w w')(hn:¬S r):BRow w' O r c N f:=yAh h hc (λk hk=>by simp[AX]at hk;subst hk;exact hn)
theorem ORow.i{S:Nat->Prop}{g k:Nat}(h:ORow w O g cp N k ρ γ)(hc:Chg S w w')(hn:¬S g):ORow w' O g cp N k ρ γ:=yAh h hc (λk hk=>by simp[AX]at hk;subst hk;exact hn)
theorem BRow.off{base' g N' k:Nat}{f:Nat->Bool}(h:BRow w O r c N f)(h':ORow w base' g cp N' k ρ γ):r≠g:=λq=>yAc h h' qj r rfl (by rw[q];rfl)
theorem BRow.caps{f:Nat->Bool}(h:BRow w O r c N f):N<=c/\c<=maxLen:=by exact yNn
theorem ORow.caps{g k:Nat}(h:ORow w O g cp N k ρ γ):k<=cp/\cp<=maxLen:=by exact yNn
structure MatO(w:Ww)(O g cp N k:Nat)(ρ γ:Nat->Nat)(f:Nat->Nat->Bool):Prop where
 out:ORow w O g cp N k ρ γ
 j:∀i,i<k->BRow w O (ρ i) (γ i) N (f i)
 inj:∀i j,i<k->j<k->i≠j->ρ i≠ρ j
theorem MatO.i{S:Nat->Prop}{g k:Nat}(h:MatO w O g cp N k ρ γ f)(hc:Chg S w w')(h1:¬S g)(h2:∀i,i<k->¬S (ρ i)):MatO w' O g cp N k ρ γ f:=
 ⟨h.out.i hc h1,λi hi=>(h.j i hi).i hc (h2 i hi),h.inj⟩
theorem MatO.k{g k:Nat}(h:MatO w O g cp N k ρ γ f)(hb:Below w w w'):MatO w' O g cp N k ρ γ f:=h.i (S:=λ_=>False) (Chg.h hb) (λq=>q) (λ_ _ q=>q)
theorem MatO.z{g k:Nat}(h:MatO w O g cp N k ρ γ f){i:Nat}(hi:i<k):(xk w g i (slV (ρ i) N (γ i)):Prop):=by rw[AB h.out i qo];simp[yP3,hi]
theorem BRow.z{f:Nat->Bool}(h:BRow w O r c N f)(hj:j<N):w.cell? (xd r j)=some (.bool (f j)):=by rw[AB h j qo,yT7 hj]
theorem BRow.set{f:Nat->Bool}(h:BRow w O r c N f)(hj:j<N)(b:Bool):BRow (xt w r j b) O r c N (upd1 f j b):=by have:=(AQ h j b).1;rw[xIz hj]at this;exact this
theorem MatO.set{g k:Nat}(h:MatO w O g cp N k ρ γ f){i:Nat}(hi:i<k)(hj:j<N)(b:Bool):MatO (xt w (ρ i) j b) O g cp N k ρ γ (upd2 f i j b):=by
 have a0:Chg (λx=>x=ρ i) w (xt w (ρ i) j b):=Chg.D _ _ _ _ rfl;refine⟨h.out.i a0 (λq=>(h.j i hi).off h.out q.symm),λx hx=>?_,h.inj⟩;by_cases e:x=i
 .subst e;have h9:=(h.j x hx).set hj b;have e2:upd1 (f x) j b=upd2 f x j b x:=by funext y;simp[upd1,upd2]
  rw[e2]at h9;exact h9
 .have h9:=(h.j x hx).i a0 (h.inj x i hx hi e);have e2:f x=upd2 f i j b x:=by funext y;simp[upd2,e]
  rw[e2]at h9;exact h9
structure MatR(w:Ww)(g N:Nat)(ρ γ:Nat->Nat)(f:Nat->Nat->Bool):Prop where
 lt:g<w.heap.size
 out:∀i,i<N->(xk w g i (slV (ρ i) N (γ i)):Prop)
 rlt:∀i,i<N->ρ i<w.heap.size
 j:∀i j,i<N->j<N->(xk w (ρ i) j (f i j):Prop)
 cap:∀i,i<N->N<=γ i/\γ i<=maxLen
theorem MatO.read{g:Nat}(h:MatO w O g cp N N ρ γ f):MatR w g N ρ γ f:=
 ⟨h.out.lt.2,λi hi=>h.z hi,λi hi=>(h.j i hi).lt.2,λi j hi hj=>(h.j i hi).z hj,λi hi=>(h.j i hi).caps⟩
theorem MatR.k{B:Nat}{g:Nat}(h:MatR w g N ρ γ f)(hb:Below B w w')(hB:w.heap.size<=B):MatR w' g N ρ γ f:=
 ⟨AP h.lt hb.size,λi hi=>by rw[hb.cell (p:=(xd g i)) (AP h.lt hB)];exact h.out i hi,λi hi=>AP (h.rlt i hi) hb.size,λi j hi hj=>by rw[hb.cell (p:=(xd (ρ i) j)) (AP (h.rlt i hi) hB)];exact h.j i j hi hj,h.cap⟩
def MaP(N:Nat)(f:Nat->Nat->Bool)(w:Ww)(r:Ax)(w':Ww):Prop:=∃g cp ρ γ,r=.returned (slV g N cp)/\Hid (MatO w' w g cp N N ρ γ f)/\Below w w w'
theorem Tryz.infoBo:(prog.info? 4).map (λi=>(i.zero,i.size,i.bytes))=some (some (.bool false),1,1):=qk
theorem Tryz.infoBoS:(prog.info? 118).map (λi=>(i.zero,i.size,i.bytes))=some (some (.slice none 0 0),1,24):=qk
theorem yJg{ops:Array Oper}(w:Ww)(hgd:o.guard=none) s x
  (ho:o.op=.call {callee:=.builtin .append,args:=#[s,x],argTypes:=#[118,118]})
  (O r c k b cx:Nat) (f:Nat->Bool) (v:Bool) (hs:a.eval s=slV r k c) (hx:a.eval x=(xg b 1 cx)) (hO:BRow w O r c k f)
  (hc:(xk w b 0 v:Prop)) (hf:f k=v) (hlen:k<=2^20) (hbase:O<=w.heap.size)
  (h:∀r' c' w',BRow w' O r' c' (k+1) f->w.grownBy w' (some r)->(r'=r\/r'=w.heap.size)->wpList prog ops Q rest (a.put o.dst (slV r' (k+1) c')) w'):wpList prog ops Q (o::rest) a w:=by
 exact wpA hgd (apY ⟨underlying118,_,_,Tryz.infoBo,rfl,qj,qj⟩ ho O hs hx hO (vs:=[v]) rfl (atV1 hc rfl) (by omega) hbase λg' c' w' h1=>h g' c' w' (by have e:bsV k f++ [.bool v]=bsV (k+1) f:=(by simp[bsV,Ay,hf]);rw[e]at h1;exact h1))
theorem yH1{ops:Array Oper}(w:Ww)(hgd:o.guard=none) s x
  (ho:o.op=.call {callee:=.builtin .append,args:=#[s,x],argTypes:=#[295,295]})
  (O g cp N k b cx r c:Nat) (ρ γ:Nat->Nat) (hs:a.eval s=slV g k cp) (hx:a.eval x=(xg b 1 cx)) (hO:ORow w O g cp N k ρ γ)
  (hc:(xk w b 0 (slV r N c):Prop)) (hr:ρ k=r) (hg:γ k=c) (hlen:k<=2^20) (hbase:O<=w.heap.size)
  (h:∀g' cp' w',ORow w' O g' cp' N (k+1) ρ γ->w.grownBy w' (some g)->(g'=g\/g'=w.heap.size)->wpList prog ops Q rest (a.put o.dst (slV g' (k+1) cp')) w'):wpList prog ops Q (o::rest) a w:=by
 exact wpA hgd (apY ⟨underlying295,_,_,Tryz.infoBoS,rfl,qj,qj⟩ ho O hs hx hO (vs:=[slV r N c]) rfl (atV1 hc rfl) (by omega) hbase λg' c' w' h1=>h g' c' w' (by have e:yP3 N k ρ γ++ [slV r N c]=yP3 N (k+1) ρ γ:=(by simp[yP3,Ay,hr,hg]);rw[e]at h1;exact h1))
section
section
variable {ops:Array Oper}
theorem yGk{i:Nat}(hi:ops[i]?=some oi)
  (hs:AO ops=true) (hf:AT md ops listed i=true) (hr:(AA md ops listed).contains i=true) (hL:ops[L]?=none)
  (hQ:∀c a w,Q (.panic c) (a.put oi.dst v) w->Q (.panic c) a w) (hy:Ab P ops S oi v a) (hS:S w)
  (h:AnyT P md ops Q S L fuel (listed.setIfInBounds i true) (a.put oi.dst v) w):AnyT P md ops Q S L (fuel+1) listed a w:=
 yEu (I:=λ_=>True) hi hs hf hr hQ (λ_ h=>.inr h) (λl _ h1 j hj _=>⟨λw h=>h.resolve_left λq=>(by obtain⟨_,oj,a1,_⟩:=AU.1 hj;rw[q,hL]at a1;cases a1),trivial⟩) trivial hy hS h
end
end
section
variable {p:Prop}
theorem jS{q:Prop}(k:q)(h:q->p:=by intro z;(try simp only[qA,getElem_toArray,getElem_cons_zero,getElem_cons_succ]);exact z):p:=h k
theorem jz(h:p:=by intro z;(try simp only[qA,getElem_toArray,getElem_cons_zero,getElem_cons_succ]);exact z):p:=h
theorem jx(h:p:=by exact⟨rfl,by kernel_rfl,by kernel_rfl,by kernel_rfl,(by first|exact Or.inl (by rfl)|exact Or.inr ⟨by kernel_rfl,by decide⟩),λ_ _ _ h=>h⟩):p:=h
theorem jy(h:p:=by first|exact Or.inr ⟨by rfl,rfl⟩|exact Or.inl ⟨by rfl,by (intro wz hSw;(repeat with_reducible refine And.elim (λ_ hSw=>?_) hSw);(try have hlk:=hSw.look_t S HH.out);(try have hlk:=hSw.look_f S HH.out);go_simp;(try simp only[hd1]);(try simp only[hd2]);(try simp only[wo]);(try simp only[z46]);(try simp only[zq,zr,zs,zwi,zwn,HW.1]);(try with_reducible rfl))⟩):p:=h
theorem jy9(h:p:=by first|exact Or.inr ⟨by rfl,rfl⟩|exact Or.inl ⟨by rfl,by (intro wz hSw;obtain⟨d0,d1,⟨d2,d3,d4,d5⟩,d6,d7,d8,d9⟩:=hSw;go_simp;(try with_reducible rfl))⟩):p:=h
def SW(S:Ww->Prop)(W:Ww):Prop:=S W
theorem SWm(_:SW S W)(W2:Ww)(h:SW S W2):SW S W2:=h
theorem wpR{ops:Array Oper}(L:Nat)(hS:SW S W)(h:AnyT P .any ops Q S L ops.size (Array.replicate ops.size false) a w.drew)(hm:P.follows .mixedOrders=true:=by kernel_rfl):(Code.region id ops true).wp P Q a w:=yAe L S hm h
section
variable {ops:Array Oper} {q:Prop}
abbrev VX(ops:Array Oper)(Q:Exit->Act->Ww->Prop)(md:AI)(L i:Nat)(v:Vv)(oi:Oper)(listed:Array Bool):Prop:=ops[i]?=some oi/\AO ops=true/\AT md ops listed i=true/\(AA md ops listed).contains i=true/\(ops[L]?=none\/yGt md ops L i=true/\i≠L)/\∀c a w,Q (.panic c) (a.put oi.dst v) w->Q (.panic c) a w
theorem jT{i:Nat}(hx:VX ops Q md L i v oi listed)(hy:Ab P ops S oi v a)(hS:S w)(h:AnyT P md ops Q S L fuel (listed.setIfInBounds i true) (a.put oi.dst v) w):AnyT P md ops Q S L (fuel+1) listed a w:=hx.2.2.2.2.1.elim (λz=>yGk hx.1 hx.2.1 hx.2.2.1 hx.2.2.2.1 z hx.2.2.2.2.2 hy hS h) (λz=>yCi hx.1 hx.2.1 hx.2.2.1 hx.2.2.2.1 z.1 z.2 hx.2.2.2.2.2 hy hS h)
theorem kO(i:Nat)(hs:s)(k:q)(ho:ops[i]?=some o:=by rfl)(h:Hid s->q->∀K':Act->Ww->Prop,Shut (∀a w,(i=L\/S w)->AnyT P md ops Q S L fuel (listed.setIfInBounds i true) a w->K' a w)->if Region.wanted o (yielded ops a.tmps)=true then Oper.wp P o a w K' Q else K' (a.put o.dst undef) w:=by intro hs z K hK;go_simp;refine hK.out _ _ (.inr hs.out) ?_;refine jS ?_;exact z)(hr:Region.ready md ops listed= [i]:=by kernel_rfl):AnyT P md ops Q S L (fuel+1) listed a w:=yPo hr ho (h hs k)
theorem kL(i:Nat)(k:q)(ho:ops[i]?=some o:=by rfl)(h:q->∀K':Act->Ww->Prop,Shut (∀a w,(i=L\/S w)->AnyT P md ops Q S L fuel (listed.setIfInBounds i true) a w->K' a w)->if Region.wanted o (yielded ops a.tmps)=true then Oper.wp P o a w K' Q else K' (a.put o.dst undef) w:=by intro z K hK;go_simp;refine hK.out _ _ (.inl rfl) ?_;refine jS ?_;exact z)(hr:Region.ready md ops listed= [i]:=by kernel_rfl):AnyT P md ops Q S L (fuel+1) listed a w:=yPo hr ho (h k)
theorem ja(i:Nat)(hS:S w)(k:q)(hx:VX ops Q md L i v oi listed:=by exact jx)(hy:YieldsIf P ops S oi v a:=by exact jy)(h:q->AnyT P md ops Q S L fuel (listed.setIfInBounds i true) (a.put oi.dst v) w:=by exact jz):AnyT P md ops Q S L (fuel+1) listed a w:=jT hx hy hS (h k)
theorem jb(hS:S w)(k:q)(hx:VX ops Q md L (j+1) v oi (listed.setIfInBounds j true):=by exact jx)(hy:YieldsIf P ops S oi v a:=by exact jy)(h:q->AnyT P md ops Q S L fuel ((listed.setIfInBounds j true).setIfInBounds (j+1) true) (a.put oi.dst v) w:=by exact jz):AnyT P md ops Q S L (fuel+1) (listed.setIfInBounds j true) a w:=jT hx hy hS (h k)
theorem j9a(i:Nat)(hS:S w)(k:q)(hx:VX ops Q md L i v oi listed:=by exact jx)(hy:YieldsIf P ops S oi v a:=by exact jy9)(h:q->AnyT P md ops Q S L fuel (listed.setIfInBounds i true) (a.put oi.dst v) w:=by exact jz):AnyT P md ops Q S L (fuel+1) listed a w:=jT hx hy hS (h k)
theorem j9b(hS:S w)(k:q)(hx:VX ops Q md L (j+1) v oi (listed.setIfInBounds j true):=by exact jx)(hy:YieldsIf P ops S oi v a:=by exact jy9)(h:q->AnyT P md ops Q S L fuel ((listed.setIfInBounds j true).setIfInBounds (j+1) true) (a.put oi.dst v) w:=by exact jz):AnyT P md ops Q S L (fuel+1) (listed.setIfInBounds j true) a w:=jT hx hy hS (h k)
end
end
theorem qT{ops:Array Oper}(i:Nat)(v:Vv)(hi:ops[i]?=some oi)
  (hy:∀w,S w->(execOp a.eval oi).run P w=.ok (.value v) w) (hS:S w)
  (h:AnyT P md ops Q S L fuel (listed.setIfInBounds i true) (a.put oi.dst v) w)
  (hs:Region.noSelect ops=true:=by kernel_rfl) (hf:Region.free md ops listed i=true:=by kernel_rfl) (hr:(Region.ready md ops listed).contains i=true:=by kernel_rfl) (hL:ops[L]?=none:=by rfl)
  (hQ:∀c a w,Q (.panic c) (a.put oi.dst v) w->Q (.panic c) a w:=by exact λ_ _ _ h=>h) (hw:Region.wanted oi (yielded ops a.tmps)=true:=by rfl):AnyT P md ops Q S L (fuel+1) listed a w:=
 yGk hi hs hf hr hL hQ (Or.inl ⟨hw,hy⟩) hS h
theorem qO{ops:Array Oper}(i:Nat)(ho:ops[i]?=some o)
  (h:∀K':Act->Ww->Prop,Shut (∀a w,(i=L\/S w)->AnyT P md ops Q S L fuel (listed.setIfInBounds i true) a w->K' a w)->if Region.wanted o (yielded ops a.tmps)=true then Oper.wp P o a w K' Q else K' (a.put o.dst undef) w)
  (hr:Region.ready md ops listed= [i]:=by kernel_rfl):AnyT P md ops Q S L (fuel+1) listed a w:=yPo hr ho h
theorem qD{ops:Array Oper}(h:Q .normal a w)(hr:Region.ready md ops listed= []:=by kernel_rfl):AnyT P md ops Q S L fuel listed a w:=xCa hr h
variable {p q:List U8}
theorem yLm{i k:Nat}{c:U8}(h:chM p i=(c,k,true))(ha:∀t,i+t<k->q[j+t]?=p[i+t]?):chM q j=(c,j+(k-i),true):=by
 have hg:=yFi h;have h0:=ha 0 qo;simp only[Am]at h0;unfold chM at h|-;rw[h0];split at h
 .cases h
 .next d hd=>
  split at h
  .cases h
  .next hn=>
   rw[iA hn];split at h
   .next h92=>
    rw[iB h92];split at h
    .cases h
    .next e he=>
     simp only[AG,and_true]at h;obtain⟨rfl,rfl⟩:=h;have h1:=ha 1 qo;rw[h1,he];simp only[AG,and_true,true_and];omega
   .next h92=>
    rw[iA h92];simp only[AG,and_true]at h;obtain⟨rfl,rfl⟩:=h;simp only[AG,and_true,true_and];omega
theorem yTn{i k:Nat}{a b:U8}(h:yB2 p i=.inl (a,b,k))(ha:∀t,i+t<=k->q[j+t]?=p[i+t]?):yB2 q j=.inl (a,b,j+(k-i)):=by
 unfold yB2 at h|-;split at h
 .cases h
 .next lo k1 hk1=>
  have hg:=yFi hk1;split at h
  .next h45=>
   split at h
   .cases h
   .next hi m hm=>
    have a0:=yFi hm;split at h
    .cases h
    .next hle=>
     simp only[AL,AG]at h;obtain⟨rfl,rfl,rfl⟩:=h;have e1:=yLm (q:=q) (j:=j) hk1 (λt ht=>ha t (by omega));have e2:q[j+(k1-i)]?=some 45:=by rw[ha (k1-i) (by omega),show i+(k1-i)=k1 by omega];exact h45
     have e3:=yLm (q:=q) (j:=j+(k1-i)+1) hm (λt ht=>by have:=ha (k1-i+1+t) qo;rw[show j+(k1-i)+1+t=j+(k1-i+1+t)by omega,this];congr 1;omega);rw[e1];simp only[];rw[iB e2,e3];simp only[];rw[iA hle];exact xGi
  .next h45=>
   simp only[AL,AG]at h;obtain⟨rfl,rfl,rfl⟩:=h;have e1:=yLm (q:=q) (j:=j) hk1 (λt ht=>ha t (by omega));have e2:¬q[j+(k1-i)]?=some 45:=by rw[ha (k1-i) (by omega),show i+(k1-i)=k1 by omega];exact h45
   rw[e1];simp only[];rw[iA e2]
theorem yIj:∀(n:Nat){p q:List U8}{i j k:Nat}{b:Bool}{f g:U8->Bool},p.length-i<=n->clsM p i b f=.inl (g,k)->(∀t,i+t<k->q[j+t]?=p[i+t]?)->clsM q j b f=.inl (g,j+(k-i))
 |n,p,q,i,j,k,b,f,g,hn,h,ha=>by
  have hg:=yIi _ qr h
  have h0:=ha 0 (by omega)
  simp only[Am]at h0
  rw[clsM]at h
  split at h
  .next hi=>
   have hj:j<q.length:=by rw[Ap hi]at h0;exact yAt h0
   rw[clsM,dif_pos hj,h0]
   split at h
   .next he=>
    rw[iB he];simp only[AL,AG]at h;obtain⟨rfl,rfl⟩:=h;simp only[AL,AG,true_and];omega
   .next he=>
    rw[iA he];split at h
    .cases h
    .next a b' k' hk=>
     have h1:=yGd hk;have h2:=yIi _ qr h;have e1:=yTn (q:=q) (j:=j) hk (λt ht=>ha t (by omega));match n,hn with
     |0,hn=>omega
     |n+1,hn=>
      have e2:=yIj n (q:=q) (j:=j+(k'-i)) (by omega) h (λt ht=>by have:=ha (k'-i+t) (by omega);rw[show j+(k'-i)+t=j+(k'-i+t)by omega,this];congr 1;omega);split
      .next e hh=>rw[e1]at hh;cases hh
      .next a2 b2 k2 hh=>
       rw[e1]at hh;simp only[AL,AG]at hh;obtain⟨rfl,rfl,rfl⟩:=hh;rw[e2];simp only[AL,AG,true_and];omega
  .cases h
theorem yF0{i k:Nat}{g:U8->Bool}(h:yAw p i=.inl (g,k))(ha:∀t,i+t<k->q[j+t]?=p[i+t]?):yAw q j=.inl (g,j+(k-i)):=by
 have hg:=yBk h;have h0:=ha 0 (by omega);simp only[Am]at h0;unfold yAw at h|-;rw[h0];split at h
 .next h94=>
  rw[iB h94];split at h
  .next f k' hc=>
   have a0:=yIi _ qr hc;simp only[AL,AG]at h;obtain⟨rfl,rfl⟩:=h;have e:=yIj _ qr (q:=q) (j:=j+1) hc (λt ht=>by have:=ha (1+t) (by omega);rw[show j+1+t=j+(1+t)by omega,this];congr 1;omega);rw[e];exact xGi
  .cases h
 .next h94=>
  rw[iA h94];exact yIj _ qr h ha
section
section
variable {ops:Array Oper} {l:Nat}
theorem xHu{K:Act->Ww->Prop}(hd:∀c,o.op≠ .defer c)(h:o.wp P a w K Q):o.wpIn (Fence.wide.inRound l) n P a w K Q:=by
 refine⟨λ_ _=>trivial,?_⟩;rw[Oper.semAt_eq _ _ _ hd];unfold Ak at h;generalize (execOp a.eval o).run P w=r at*;cases r with
 |ok x w'=>
  cases x with
  |value v|skip|defer d=>exact h
  |enter f args=>exact⟨λq=>by simp[Fence.wide]at q,CallsIn.inRound l (callsIn_wide.2 h)⟩
  |row row args=>exact⟨λq=>by simp[Fence.wide]at q,λc cs hr=>let ⟨v,w'',r,s⟩:=h c cs;⟨v,w'',r,stepsIn_wide.2 s⟩⟩
  |_=>exact h.elim
 |halt x w'=>cases x<;>exact h
def yOl(ops:Array Oper):Bool:=ops.all (λo=>match o.op with| .defer _=>false|_=>true)
theorem yQg(h:yOl ops=true){i:Nat}(ho:ops[i]?=some o)(c:Call):o.op≠ .defer c:=by intro q;unfold yOl at h;rw[Array.all_eq_true]at h;have⟨hi,he⟩:=Array.getElem?_eq_some_iff.1 ho;have:=h i hi;rw[he,q]at this;cases this
theorem yJ3(hd:yOl ops=true)(hno:¬LetsOut Q):∀(fuel:Nat)(listed:Array Bool)(a:Act)(w:Ww),wpAny P md ops Q fuel listed a w->wpAnyIn (Fence.wide.inRound l) n P md ops Q fuel listed a w
 |0,_,_,_,h=>h
 |fuel+1,listed,a,w,h=>by
  refine⟨h.1,λi hi=>?_⟩
  have h1:=h.2 i hi
  unfold wpOp at h1
  unfold wpOpIn
  cases ho:ops[i]? with
  |none=>
   rw[ho]at h1
   exact yJ3 hd hno fuel _ a w h1
  |some o=>
   rw[ho]at h1
   simp only at h1|-
   split
   .next hw=>
    rw[iB hw]at h1
    rcases h1 with h1|⟨_,h1⟩
    .exact Oper.wpIn_mono (λa w q=>yJ3 hd hno fuel _ a w q) (xHu (yQg hd ho) h1)
    .exact(hno h1).elim
   .next hw=>
    rw[iA hw]at h1
    exact⟨λ_ _=>trivial,yJ3 hd hno fuel _ _ w h1⟩
theorem yG9(L:Nat)(S:Ww->Prop)(hm:P.follows .mixedOrders=true)(hd:yOl ops=true)(hno:¬LetsOut Q)
  (h:AnyT P .any ops Q S L ops.size (AV ops.size false) a w.drew):(Code.region id ops true).wpIn (Fence.wide.inRound l) n P Q a w:=
 A9 hm (yJ3 hd hno _ _ _ _ (yJ2 _ _ _ _ h))
end
end
section
inductive TokG(A:List U8->Pat->Prop):List U8->Prop
 |nil:TokG A []
 |sign {c:U8} {zs:List U8} (hc:c=124\/isOp c) (h:TokG A zs):TokG A (c::zs)
 |atom {xs zs:List U8} {t:Pat} (ha:A xs t) (h:TokG A zs):TokG A (xs++zs)
theorem TokG.cat(h:TokG A xs)(k:TokG A ys):TokG A (xs++ys):=by
 induction h with
 |nil=>exact k
 |sign hc _ ih=>exact .sign hc ih
 |atom ha _ ih=>rw[AD];exact .atom ha ih
theorem TokG.ops:∀{l:List U8},(∀c∈l,isOp c)->TokG A l
 | [],_=>.nil
 |c::l,h=>.sign (.inr (h c (by simp))) (TokG.ops (λd hd=>h d (by simp[hd])))
theorem RepG.tok:RepG A xs t->TokG A xs
 |⟨ys,ops,a,h1,h2,h3,_⟩=>h1▸(.atom h2 (TokG.ops h3))
theorem SeqG.tok:∀{ts:List Pat}{xs:List U8},SeqG A ts xs->TokG A xs
 | [],_,h=>by rw[show _= []from h];exact .nil
 |_::_,_,⟨ys,zs,h1,h2,h3⟩=>h1▸(h2.tok.cat (SeqG.tok h3))
theorem AltG.tok:∀{os:List (List Pat)}{xs:List U8},AltG A os xs->TokG A xs
 | [],_,h=>h.elim
 | [_],_,h=>SeqG.tok h
 |_::_::_,_,⟨ys,zs,h1,h2,h3⟩=>h1▸(h2.tok.cat (.sign (.inl rfl) (AltG.tok h3)))
theorem yAu.first:∀{n:Nat}{xs:List U8}{t:Pat},yAu n xs t->∃c ys,xs=c::ys/\¬c=41/\¬c=124/\¬isOp c
 |0,_,_,h=>h.elim
 |n+1,xs,t,h=>by
  rcases h with⟨c,rfl,hs,_⟩|⟨rfl,_⟩|⟨c,rfl,_⟩|⟨ys,os,rfl,_,_⟩|⟨p,i,k,f,h1,h2,rfl,_⟩
  .exact⟨c,[],rfl,λq=>hs (.inl (.inr (.inr (.inl q)))),λq=>hs (.inl (.inr (.inl q))),λq=>hs (.inl (.inl q))⟩
  .exact⟨46,[],rfl,qj,qj,by decide⟩
  .exact⟨92,[c],rfl,by decide,by decide,by decide⟩
  .exact⟨40,ys++ [41],rfl,by decide,by decide,by decide⟩
  .have hg:=yBk h2
   refine⟨91,cut p (i+1) k,?_,by decide,by decide,by decide⟩
   rw[yBs (show i<=i+1 by omega) (show i+1<=k by omega),yCl h1]
   rfl
theorem yNk{i k:Nat}{f:U8->Bool}(h1:q[j]?=some 91)(h2:yAw q (j+1)=.inl (f,m))(hc:cut p i k=cut q j m)(hk:k<=p.length)(hik:i<k):p[i]?=some 91/\yAw p (i+1)=.inl (f,k):=by
 have hg:=yBk h2;have hl:k-i=m-j:=by have h3:=congrArg AN hc;rw[yA5 hk,yA5 hg.2]at h3;exact h3
 have a0:∀t,t<k-i->p[i+t]?=q[j+t]?:=λt ht=>by have h3:=congrArg (λl=>l[t]?) hc;simp only[cut,Ad,Ae]at h3;rw[iB ht,iB (by omega)]at h3;exact h3
 refine⟨by have:=a0 0 (by omega);simpa [h1]using this,?_⟩;have e:=yF0 (q:=p) (j:=i+1) h2 (λt ht=>by have:=a0 (1+t) (by omega);rw[show i+1+t=i+(1+t)by omega,this];congr 1;omega);rw[e];exact xGi
end
section
def yCy:List Pat->List U8×Bool
 | []=>([],true)
 | .byte c::ts=>(c::(yCy ts).1,(yCy ts).2)
 | .cls _::_| .rep _ _ _::_| .alt _::_=>([],false)
def yM0:List (List Pat)->List U8×Bool
 | [ts]=>yCy ts
 |_=>([],false)
def yQ3:Pat->Prop
 | .byte _=>True
 |_=>False
theorem yKo(h:¬yQ3 t)(ts:List Pat):yCy (t::ts)=([],false):=by
 cases t with
 |byte b=>exact(h trivial).elim
 |_=>rfl
inductive TokN(A:List U8->Pat->Prop):Nat->List U8->Prop
 |nil:TokN A 0 []
 |bar {k:Nat} {zs:List U8} (h:TokN A k zs):TokN A (k+1) (124::zs)
 |op {k:Nat} {c:U8} {zs:List U8} (hc:isOp c) (h:TokN A k zs):TokN A k (c::zs)
 |atom {k:Nat} {xs zs:List U8} {t:Pat} (ha:A xs t) (h:TokN A k zs):TokN A k (xs++zs)
theorem TokN.cat{k:Nat}(h:TokN A k xs)(q:TokN A m ys):TokN A (k+m) (xs++ys):=by
 induction h with
 |nil=>simpa using q
 |bar _ ih=>rw[show∀k,k+1+m=(k+m)+1 from λk=>qo];exact .bar ih
 |op hc _ ih=>exact .op hc ih
 |atom ha _ ih=>rw[AD];exact .atom ha ih
theorem TokN.ops:∀{l:List U8},(∀c∈l,isOp c)->TokN A 0 l
 | [],_=>.nil
 |c::l,h=>.op (h c (by simp)) (TokN.ops (λd hd=>h d (by simp[hd])))
theorem RepG.tokn:RepG A xs t->TokN A 0 xs
 |⟨ys,ops,a,h1,h2,h3,_⟩=>h1▸(.atom h2 (TokN.ops h3))
theorem SeqG.tokn:∀{ts:List Pat}{xs:List U8},SeqG A ts xs->TokN A 0 xs
 | [],_,h=>by rw[show _= []from h];exact .nil
 |_::_,_,⟨ys,zs,h1,h2,h3⟩=>by rw[h1];simpa using h2.tokn.cat (SeqG.tokn h3)
theorem AltG.tokn:∀{os:List (List Pat)}{xs:List U8},AltG A os xs->∃k,os.length=k+1/\TokN A k xs
 | [],_,h=>h.elim
 | [_],_,h=>⟨0,rfl,SeqG.tokn h⟩
 |_::o::os,_,⟨ys,zs,h1,h2,h3⟩=>by
  have⟨k,hk,hT⟩:=AltG.tokn h3
  refine⟨k+1,by simp at hk|-;omega,?_⟩
  rw[h1]
  have:=h2.tokn.cat (TokN.bar hT)
  simpa using this
theorem yYt{k:Nat}(h:TokN A k xs):(xs= []/\k=0)\/(∃m zs,xs=124::zs/\k=m+1/\TokN A m zs)\/(∃c zs,xs=c::zs/\isOp c/\TokN A k zs)\/(∃ys zs t,xs=ys++zs/\A ys t/\TokN A k zs):=by
 cases h with
 |nil=>exact .inl ⟨rfl,rfl⟩
 |bar h=>exact .inr (.inl ⟨_,_,rfl,rfl,h⟩)
 |op hc h=>exact .inr (.inr (.inl ⟨_,_,rfl,hc,h⟩))
 |atom ha h=>exact .inr (.inr (.inr ⟨_,_,_,rfl,ha,h⟩))
theorem yIe{c:U8}(h:cut p j m=c::zs)(hm:m<=p.length):p[j]?=some c/\cut p (j+1) m=zs/\j<m:=by exact xKg
theorem yRn(h:cut p j m=xs++zs)(hm:m<=p.length)(hjm:j<=m):cut p j (j+xs.length)=xs/\cut p (j+xs.length) m=zs/\j+xs.length<=m:=by have hl:=congrArg AN h;rw[yA5 hm,length_append]at hl;exact xKc
theorem yAu.byte:∀{n:Nat}{xs:List U8}{t:Pat},yAu n xs t->∃c ys,xs=c::ys/\((∃b,t=.byte b/\xs.getLast?=some b/\(¬yCr c\/c=92))\/(¬yQ3 t/\yCr c/\¬c=92))
 |0,_,_,h=>h.elim
 |n+1,xs,t,h=>by
  rcases h with⟨c,rfl,hs,rfl⟩|⟨rfl,rfl⟩|⟨c,rfl,rfl⟩|⟨ys,os,rfl,_,rfl⟩|⟨p,i,k,f,h1,h2,rfl,rfl⟩
  .exact⟨c,[],rfl,.inl ⟨c,rfl,rfl,.inl hs⟩⟩
  .exact⟨46,[],rfl,.inr ⟨λh=>h,by decide,by decide⟩⟩
  .exact⟨92,[c],rfl,.inl ⟨c,rfl,rfl,.inr rfl⟩⟩
  .exact⟨40,ys++ [41],rfl,.inr ⟨λh=>h,by decide,by decide⟩⟩
  .have hg:=yBk h2
   refine⟨91,cut p (i+1) k,?_,.inr ⟨λh=>h,by decide,by decide⟩⟩
   rw[yBs (show i<=i+1 by omega) (show i+1<=k by omega),yCl h1]
   rfl
structure xI4(n:Nat)(p:List U8)(i m j:Nat)(c:U8)(a t:Pat)(ts:List Pat):Prop where
 atom:yAu n (cut p i j) a
 lt:i<j
 le:j<=m
 at0:p[i]?=some c
 what:(∃b,t=.byte b/\(¬yCr c\/c=92)/\(∀d,p[j]?=some d->j<m->¬isOp d)/\p[j-1]?=some b/\SeqG (yAu n) ts (cut p j m))\/(¬yQ3 t/\((yCr c/\¬c=92)\/((¬yCr c\/c=92)/\∃d,p[j]?=some d/\isOp d/\j<m)))
theorem yU0{i:Nat}(h:SeqG (yAu n) ts (cut p i m))(hm:m<=p.length)(him:i<m):∃t ts' j c a,ts=t::ts'/\xI4 n p i m j c a t ts':=by
 cases ts with
 |nil=>
  have hl:=yA5 (p:=p) (i:=i) hm;rw[show cut p i m= []from h]at hl;simp at hl;omega
 |cons t ts'=>
  have⟨ys,zs,h1,⟨xa,ops,a,h2,h3,h4,h5⟩,h6⟩:=h;rw[h2,AD]at h1;have⟨c1,c2,c3⟩:=yRn h1 hm (by omega);have⟨c,xb,hc,hw⟩:=h3.byte;have ab:0<xa.length:=by rw[hc];simp
  have⟨p0,_,_⟩:=yIe (c1.trans hc) (by omega);refine⟨t,ts',i+xa.length,c,a,rfl,⟨by rw[c1];exact h3,by omega,c3,p0,?_⟩⟩;cases ops with
  |nil=>
   have a5:t=a:=h5;subst a5;rw[Af]at c2;rcases hw with⟨b,hb,a0,hs⟩|⟨hb,hs⟩
   .left;refine⟨b,hb,hs,?_,?_,by rw[c2];exact h6⟩
    .intro d hd aa;cases ts' with
     |nil=>
      have hl:=yA5 (p:=p) (i:=i+xa.length) hm;rw[c2,show zs= []from h6]at hl;simp at hl;omega
     |cons t2 ts2=>
      have⟨a8,a1,e1,⟨a9,a4,a2,e2,e3,_,_⟩,_⟩:=h6;have⟨a7,a3,hc2,_,_,hn⟩:=e3.first;rw[e1,e2,hc2]at c2;have:=(yIe (p:=p) (c:=a7) (zs:=a3++a4++a1) (by rw[c2];simp) hm).1;rw[hd]at this;rw[Option.some.inj this];exact hn
    .have hg:xa[xa.length-1]?=some b:=by rw[<-getLast?_eq_getElem?];exact a0
     have e:=congrArg (λl=>l[xa.length-1]?) c1;simp only[cut,Ad,Ae]at e;rw[iB qo,hg]at e;rw[show i+xa.length-1=i+(xa.length-1)by omega];exact e
   .exact .inr ⟨hb,.inl hs⟩
  |cons o ops=>
   right;have a6:¬yQ3 t:=by rw[h5,iA (by simp)];exact λh=>h
   refine⟨a6,?_⟩;obtain⟨q1,_,q3⟩:=yIe (p:=p) (c:=o) (zs:=ops++zs) (by rw[c2];simp) hm;rcases hw with⟨b,hb,a0,hs⟩|⟨hb,hs⟩
   .exact .inr ⟨hs,o,q1,h4 o (by simp),q3⟩
   .exact .inl hs
theorem yU2(h:SeqG (yAu n) ts (cut p m m))(hm:m<=p.length):ts= []:=by
 cases ts with
 |nil=>rfl
 |cons t ts=>
  have⟨ys,zs,h1,⟨xa,ops,a,h2,h3,_,_⟩,_⟩:=h;have⟨c,xb,hc,_⟩:=h3.first;rw[yFy,h2,hc]at h1;simp at h1
end
theorem ySo{k:Nat}(h:∀i,i<k->ρ' i=ρ i/\γ' i=γ i):yP3 N k ρ' γ'=yP3 N k ρ γ:=by unfold yP3;apply map_congr_left;intro i hi;rw[mem_range]at hi;rw[(h i hi).1,(h i hi).2]
def updN(ρ:Nat->Nat)(k r:Nat):Nat->Nat:=λi=>if i=k then r else ρ i
theorem yFl(ρ:Nat->Nat)(k r:Nat){i:Nat}(h:i<k):updN ρ k r i=ρ i:=by simp[updN,ne_of_lt h]
theorem yH4(ρ:Nat->Nat)(k r:Nat):updN ρ k r k=r:=by simp[updN]
structure RowJ(w wi:Ww)(n g cp k r c j:Nat)(ρ γ:Nat->Nat):Prop where
 j:BRow wi w r c j (λ_=>false)
 mat:MatO wi w g cp (n+1) k ρ γ (λ_ _=>false)
 off:∀i,i<k->ρ i≠r
 k:Below w w wi
variable {wi:Ww}
theorem RowJ.K{g k:Nat}(h:RowJ w wi n g cp k r c j ρ γ)(hb:Below wi wi w'):RowJ w w' n g cp k r c j ρ γ:=
 ⟨h.j.i (S:=λ_=>False) (Chg.h hb) (λq=>q),h.mat.k hb,h.off,h.k.trans (hb.mono h.k.size)⟩
theorem RowJ.next{g k r' c':Nat}(h:RowJ w wi n g cp k r c j ρ γ)(hr:BRow w' w r' c' (j+1) (λ_=>false))(hg:wi.grownBy w' (some r))(hat:r'=r\/r'=wi.heap.size):RowJ w w' n g cp k r' c' (j+1) ρ γ:=by
 have a0:Chg (λb=>b=r) wi w':=Chg.M hg (λb hb=>by cases hb;rfl);have a1:=h.j.lt;refine⟨hr,h.mat.i a0 (λq=>(h.j.off h.mat.out) q.symm) (λi hi=>h.off i hi),λi hi=>?_,Chg.k h.k a0 h.k.size (λb hb=>by omega)⟩;rcases hat with q|q
 .rw[q];exact h.off i hi
 .rw[q];have:=(h.mat.j i hi).lt.2;omega
theorem RowJ.done{g k g' cp':Nat}(h:RowJ w wi n g cp k r c (n+1) ρ γ)(ho:ORow w' w g' cp' (n+1) (k+1) (updN ρ k r) (updN γ k c))(hg:wi.grownBy w' (some g)):
  MatO w' w g' cp' (n+1) (k+1) (updN ρ k r) (updN γ k c) (λ_ _=>false)/\Below w w w':=by
 have a0:Chg (λb=>b=g) wi w':=Chg.M hg (λb hb=>by cases hb;rfl);have a1:=h.mat.out.lt;refine⟨⟨ho,λi hi=>?_,λi j hi hj hne=>?_⟩,Chg.k h.k a0 h.k.size (λb hb=>by omega)⟩
 .by_cases e:i=k
  .subst e;rw[yH4,yH4];exact h.j.i a0 (λq=>h.j.off h.mat.out q)
  .rw[yFl _ _ _ qo,yFl _ _ _ qo];exact(h.mat.j i qo).i a0 (λq=>(h.mat.j i qo).off h.mat.out q)
 .by_cases e:i=k
  .subst e;rw[yH4,yFl _ _ _ qo];exact λq=>h.off j qo q.symm
  .by_cases e':j=k
   .subst e';rw[yH4,yFl _ _ _ qo];exact h.off i qo
   .rw[yFl _ _ _ qo,yFl _ _ _ qo];exact h.mat.inj i j qo qo hne
theorem yC4(n:Nat)(hn:n<=1000) w:Calls prog 223 #[xi n] w (MaP (n+1) (λ_ _=>false) w):=by
 have⟨W0,a4⟩:=qE (xw w #[] 118:Ww);have ab:Hid (MatO W0 w w 0 (n+1) 0 (λ_=>0) (λ_=>0) (λ_ _=>false)/\Below w w W0):=a4▸⟨⟨World.ownsRow_lit w #[] 0 qr qj qj,λi hi=>qo,λi j hi=>qo⟩,qB⟩
 go_enter func223,ntmps223;go_upto_region 2 with fail;rw[<-a4];clear a4;go_wp2;go_loopw[3,4] (λov iv wr=>∃(k g cp:Nat)(ρ γ:Nat->Nat),k<=n+1/\iv=(xi k)/\ov=slV g k cp/\Hid (MatO wr w g cp (n+1) k ρ γ (λ_ _=>false)/\Below w w wr)) (λ_ iv _=>n+1-(intOf iv).toNat);case atStart=>exact⟨0,_,0,_,_,AJ _,rfl,rfl,ab.out⟩
 case round=>
  obtain⟨k,g,cp,ρ,γ,hk,rfl,rfl,HM⟩:=hrel;have⟨Wr,a8⟩:=qE (wr:Ww);subst a8;by_cases hlt:k<=n
  .have zk:(k:Int)<=(n:Int):=qo
   have⟨W1,a2⟩:=qE (xw Wr #[] 4:Ww);have⟨r0,a3⟩:=qE Wr.heap.size;have ad:Hid (RowJ w W1 n g cp k r0 0 0 ρ γ):=by
    have a7:=qN a2
    refine⟨?_,HM.1.k a7,λi hi q=>?_,HM.2.trans (a7.mono HM.2.size)⟩
    .rw[a2,a3];exact World.ownsRow_lit Wr #[] 0 HM.2.size qj qj
    .have:=(HM.1.j i hi).lt.2;omega
   go_upto_region 6 with fail;rw[<-a2,<-a3];clear a2 a3;go_wp2_with fail;go_loopw[5,6] (λrv jv wi=>∃(j r c:Nat),j<=n+1/\jv=(xi j)/\rv=slV r j c/\Hid (RowJ w wi n g cp k r c j ρ γ)) (λ_ jv _=>n+1-(intOf jv).toNat);case atStart=>exact⟨0,r0,0,AJ _,rfl,rfl,ad.out⟩
   case round=>
    obtain⟨j,r,c,hj,rfl,rfl,HJ⟩:=hrel;by_cases hlj:j<=n
    .have zj:(j:Int)<=(n:Int):=qo
     have HA:Hid (RowJ w (xw wr #[false] 4) n g cp k r c j ρ γ/\w.heap.size<=(wr.alloc (Obj.cells #[false] 4)).heap.size):=by have h1:=HJ.K ((Below.refl wr wr).alloc qr (Obj.cells #[false] 4));exact⟨h1,h1.k.size⟩
     go_wp2_with (at_builtin;refine yJg _ rfl _ _ rfl w r c j wr 1 (λ_=>false) false rfl rfl HA.1.j (by simp[go_sem]) rfl qo HA.2 ?_);intro r' c' w' a5 a0 a1;have ac:=qH1 (HA.1.next a5 a0 (by simpa using a1));clear a5 a0 a1;refine zY ?_;exact⟨j+1,r',c',qo,by go_num,rfl,ac.out⟩
    .obtain rfl:j=n+1:=qo
     have zj:¬(((n+1:Nat):Int))<=(n:Int):=qo
     have HA:Hid (RowJ w (xw wr #[slV r (n+1) c] 118) n g cp k r c (n+1) ρ γ/\w.heap.size<=(wr.alloc (Obj.cells #[slV r (n+1) c] 118)).heap.size/\ORow (xw wr #[slV r (n+1) c] 118) w g cp (n+1) k (updN ρ k r) (updN γ k c)):=by have h1:=HJ.K ((Below.refl wr wr).alloc qr (Obj.cells #[slV r (n+1) c] 118));refine⟨h1,h1.k.size,?_⟩;have h2:=h1.mat.out;unfold ORow at h2|-;rw[ySo (λi hi=>⟨yFl ρ k r hi,yFl γ k c hi⟩)];exact h2
     go_wp2_with (at_builtin;refine yH1 _ rfl _ _ rfl w g cp (n+1) k wr 1 r c (updN ρ k r) (updN γ k c) rfl rfl HA.2.2 (by simp[go_sem]) (yH4 _ _ _) (yH4 _ _ _) qo HA.2.1 ?_);intro g' a9 w' a6 a0 a1;have aa:=qH1 (HA.1.done a6 a0);clear a6 a0 a1;refine zY ?_;exact⟨k+1,g',a9,updN ρ k r,updN γ k c,qo,by go_num,rfl,aa.out⟩
  .obtain rfl:k=n+1:=qo
   have zk:¬(((n+1:Nat):Int))<=(n:Int):=qo
   go_wp2_with fail;go_ret;exact⟨g,cp,ρ,γ,rfl,HM.1,HM.2⟩
inductive Tag(n:Nat):U8->List U8->Pat->Prop
 |plain {c:U8} (h:¬yCr c):Tag n c [] (.byte c)
 |dot:Tag n 46 [] (.cls (λ_=>true))
 |esc {d:U8}:Tag n 92 [d] (.byte d)
 |group {ys:List U8} {os:List (List Pat)} (h:AltG (yAu n) os ys):Tag n 40 (ys++ [41]) (.alt os)
 |cls {zs:List U8} {f:U8->Bool} (h:∀r,yAw (91::zs++r) 1=.inl (f,zs.length+1)):Tag n 91 zs (.cls f)
theorem yAu.tag(h:yAu (n+1) xs t):∃c zs,xs=c::zs/\Tag n c zs t:=by
 rcases h with⟨c,rfl,hs,rfl⟩|⟨rfl,rfl⟩|⟨c,rfl,rfl⟩|⟨ys,os,rfl,ho,rfl⟩|⟨p,i,k,f,h1,h2,rfl,rfl⟩
 .exact⟨c,[],rfl,.plain hs⟩
 .exact⟨46,[],rfl,.dot⟩
 .exact⟨92,[c],rfl,.esc⟩
 .exact⟨40,ys++ [41],rfl,.group ho⟩
 .have hg:=yBk h2;have e:cut p i k=91::cut p (i+1) k:=by rw[yBs (show i<=i+1 by omega) (show i+1<=k by omega),yCl h1];rfl
  refine⟨91,_,e,.cls λr=>?_⟩;have hl:=congrArg AN e;rw[length_cons]at hl;have h3:=yNk (p:=91::cut p (i+1) k++r) (i:=0) (k:=(cut p (i+1) k).length+1) h1 h2 ?_ (by simp) (by omega)
  .exact h3.2
  .rw[<-hl,<-e];show(List.drop 0 (cut p i k++r)).take ((cut p i k).length-0)=_;rw[drop_zero,Nat.sub_zero,take_left]
theorem xG5(hA:∀ys t,A ys t->∃c zs,ys=c::zs/\¬c=41/\¬c=124/\¬isOp c)(hB:∀ys t,B ys t->∃c zs,ys=c::zs/\¬c=41/\¬c=124/\¬isOp c)
  (U:∀xs ys t t' r r',A xs t->B ys t'->xs++r=ys++r'->xs=ys) {xs:List U8} (h:TokG A xs):∀{ys r r':List U8},TokG B ys->xs++41::r=ys++41::r'->xs=ys:=by
 induction h with
 |nil=>
  intro ys r r' k e;cases k with
  |nil=>rfl
  |sign hc _=>
   simp at e;exfalso;rw[<-e.1]at hc;rcases hc with q|q|q|q<;>exact absurd q qj
  |atom ha _=>
   obtain⟨c,zs,rfl,a1,_⟩:=hB _ _ ha;simp at e;exact absurd e.1.symm a1
 | @sign c zs hc h ih=>
   intro ys r r' k e;cases k with
   |nil=>
    simp at e;exfalso;rw[e.1]at hc;rcases hc with q|q|q|q<;>exact absurd q qj
   |sign hc' k'=>
    simp at e;rw[e.1,ih k' e.2]
   |atom ha _=>
    obtain⟨c,zs,rfl,_,a2,a0⟩:=hB _ _ ha;simp at e;rw[e.1]at hc;exact absurd hc (λq=>q.elim a2 a0)
 | @atom us zs t ha h ih=>
   intro ys r r' k e;cases k with
   |nil=>
    obtain⟨c,zs,rfl,a1,_⟩:=hA _ _ ha;simp at e;exact absurd e.1 a1
   |sign hc' k'=>
    obtain⟨c,zs,rfl,_,a2,a0⟩:=hA _ _ ha;simp at e;rw[<-e.1]at hc';exact absurd hc' (λq=>q.elim a2 a0)
   |atom hb k'=>
    rw[AD,AD]at e;have q:=U _ _ _ _ _ _ ha hb e;subst q;rw[ih k' (Ag e)]
theorem yJ1:∀{n m:Nat}{xs ys:List U8}{t t':Pat}{r r':List U8},yAu n xs t->yAu m ys t'->xs++r=ys++r'->xs=ys
 |0,_,_,_,_,_,_,_,h,_,_|_+1,0,_,_,_,_,_,_,_,h,_=>h.elim
 |n+1,m+1,xs,ys,t,t',r,r',h,k,e=>by
  obtain⟨c,zs,rfl,hT⟩:=h.tag
  obtain⟨c',zs',rfl,hT'⟩:=k.tag
  simp only[AH,AC]at e
  obtain⟨rfl,e⟩:=e
  congr 1
  cases hT with
  |plain h1=>
   cases hT' with
   |plain _|dot=>rfl
   |esc|group _|cls _=>exact absurd h1 qj
  |dot=>
   cases hT' with
   |plain _|dot=>rfl
  |esc=>
   cases hT' with
   |plain h1=>exact absurd h1 qj
   |esc=>simp at e;rw[e.1]
  |group h1=>
   cases hT' with
   |plain h1=>exact absurd h1 qj
   |group h2=>
    rw[AD,AD]at e
    rw[xG5 (λys t q=>q.first) (λys t q=>q.first) (λxs ys t t' r r' a b e=>yJ1 a b e) h1.tok h2.tok e]
  |cls h1=>
   cases hT' with
   |plain h1=>exact absurd h1 qj
   |cls h2=>
    have a:=h1 r
    have b:=h2 r'
    rw[AH,e]at a
    rw[AH,a]at b
    simp at b
    exact(append_inj e b.2).1
theorem xC0{k:Nat}(h:TokN (yAu n) k xs):∀{j:Nat}{ys:List U8},TokN (yAu m) j ys->xs=ys->k=j:=by
 induction h with
 |nil=>
  intro j ys q e;cases q with
  |nil=>rfl
  |bar _|op _ _=>cases e
  |atom ha _=>obtain⟨c,zs,rfl,_⟩:=ha.first;cases e
 |bar h ih=>
  intro j ys q e;cases q with
  |nil=>cases e
  |bar q'=>simp at e;rw[ih q' e]
  |op hc _=>simp at e;rw[<-e.1]at hc;exact absurd hc qj
  |atom ha _=>obtain⟨c,zs,rfl,_,a1,_⟩:=ha.first;simp at e;exact absurd e.1.symm a1
 |op hc h ih=>
  intro j ys q e;cases q with
  |nil=>cases e
  |bar _=>simp at e;rw[e.1]at hc;exact absurd hc qj
  |op hc' q'=>simp at e;exact ih q' e.2
  |atom ha _=>obtain⟨c,zs,rfl,_,_,a0⟩:=ha.first;simp at e;rw[e.1]at hc;exact absurd hc a0
 |atom ha h ih=>
  intro j ys q e;cases q with
  |nil=>obtain⟨c,zs,rfl,_⟩:=ha.first;cases e
  |bar _=>obtain⟨c,zs,rfl,_,a1,_⟩:=ha.first;simp at e;exact absurd e.1 a1
  |op hc _=>obtain⟨c,zs,rfl,_,_,a0⟩:=ha.first;simp at e;rw[<-e.1]at hc;exact absurd hc a0
  |atom hb q'=>
   have u:=yJ1 ha hb e;subst u;exact ih q' (Ag e)
theorem yP8:∀{ts us:List Pat}{i:Nat},i<=p.length->SeqG (yAu n) ts (cut p i p.length)->SeqG (yAu m) us (cut p i p.length)->yCy ts=yCy us
 | [],us,i,hi,h,k=>by
   have hip:i=p.length:=by have hl:=yA5 (p:=p) (i:=i) qr;rw[show cut p i p.length= []from h]at hl;simp at hl;omega
   subst hip
   rw[yU2 k qr]
 |t::ts,us,i,hi,h,k=>by
  have him:i<p.length:=by refine Nat.lt_of_le_of_ne hi λq=>?_;subst q;exact absurd (yU2 h qr) (by simp)
  have⟨t1,a3,j,c,a,e1,h1⟩:=yU0 h qr him;obtain⟨rfl,rfl⟩:t1=t/\a3=ts:=by simpa using e1.symm
  obtain⟨u1,a6,j',c',a',rfl,k1⟩:=yU0 k qr him;have e2:=yJ1 (r:=cut p j p.length) (r':=cut p j' p.length) h1.atom k1.atom (by rw[<-yBs (A7 h1.lt) h1.le,<-yBs (A7 k1.lt) k1.le]);have e3:j=j':=by have hl:=congrArg AN e2;rw[yA5 h1.le,yA5 k1.le]at hl;have:=h1.lt;have:=k1.lt;omega
  subst e3;obtain rfl:c=c':=Option.some.inj (h1.at0.symm.trans k1.at0);rcases h1.what with⟨b,rfl,hs,hn,hb,hS⟩|⟨a5,hw⟩
  .rcases k1.what with⟨b',rfl,_,_,a2,kS⟩|⟨_,(⟨s1,s2⟩|⟨_,d,hd,a0,a1⟩)⟩
   .obtain rfl:b=b':=Option.some.inj (hb.symm.trans a2);simp only[yCy];rw[yP8 h1.le hS kS]
   .exact absurd hs (λq=>q.elim (λz=>z s1) s2)
   .exact absurd a0 (hn d hd a1)
  .rw[yKo a5];rcases k1.what with⟨b',rfl,hs,hn,a2,kS⟩|⟨a4,_⟩
   .rcases hw with⟨s1,s2⟩|⟨_,d,hd,a0,a1⟩
    .exact absurd hs (λq=>q.elim (λz=>z s1) s2)
    .exact absurd a0 (hn d hd a1)
   .rw[yKo a4]
theorem yWy(h:yDz p 0 0 p.length os)(k:yDz p 0 0 p.length us):yM0 os=yM0 us:=by
 have⟨n,h1⟩:=h.gr;have⟨m,k1⟩:=k.gr;have⟨j,hj,hT⟩:=h1.tokn;have⟨j',a0,kT⟩:=k1.tokn;have e:=xC0 hT kT rfl;match os,us,h1,k1,hj,a0 with
 | [ts],[us],h1,k1,_,_=>exact yP8 (AJ _) h1 k1
 | [ts],u::v::us,h1,k1,hj,a0|t::v::ts,[us],h1,k1,hj,a0=>simp at hj a0;omega
 |t::v::ts,u::x::us,h1,k1,hj,a0=>rfl
def MaF(N:Nat)(F:Nat->Nat->Bool)(w:Ww)(r:Ax)(w':Ww):Prop:=∃g cp ρ γ f,r=.returned (slV g N cp)/\Hid (MatO w' w g cp N N ρ γ f/\∀i j,i<=j->j<N->f i j=F i j)/\Below w w w'
theorem yQz(n:Nat)(hn:n<=1000) w:Calls prog 239 #[xi n] w (MaF (n+1) (λi j=>i==j) w):=by
 go_enter func239,ntmps239;go_wp2_with fail;apply (yC4 n hn w).mono;rintro r w1 ⟨g,cp,ρ,γ,rfl,HM,a1⟩;have a4:=HM.out.out.caps;go_wp2;go_loopw[4] (λiv wr=>∃(k:Nat)(f:Nat->Nat->Bool),k<=n+1/\iv=(xi k)/\Hid (MatO wr w g cp (n+1) (n+1) ρ γ f/\(∀i j,i<=j->j<n+1->f i j=(i==j && decide (i<k)))/\Below w w wr)) (λiv _=>n+1-(intOf iv).toNat);case atStart=>exact⟨0,_,AJ _,rfl,HM.out,λi j _ _=>by simp,a1⟩
 case round=>
  obtain⟨k,f,hk,rfl,HJ⟩:=hrel;by_cases hlt:k<=n
  .have zk:(k:Int)<=(n:Int):=qo
   have a0:k<n+1:=qo
   have c0:=HJ.1.z a0;have c1:=(HJ.1.j k a0).z a0;have z1:wr.frozen? (xd (ρ k) k)=false:=AE (HJ.1.j k a0) _;have a3:=(HJ.1.j k a0).caps;have a2:Hid (MatO (xt wr (ρ k) k true) w g cp (n+1) (n+1) ρ γ (upd2 f k k true)/\(∀i j,i<=j->j<n+1->upd2 f k k true i j=(i==j && decide (i<k+1)))/\Below w w (xt wr (ρ k) k true)):=by
    refine⟨HJ.1.set a0 a0 true,λi j hij hj=>?_,yAb HJ.2.2 (HJ.1.j k a0).lt.1 _ _⟩;unfold upd2;by_cases e:i=k/\j=k
    .rw[iB e];simp[e.1,e.2]
    .rw[iA e,HJ.2.1 i j hij hj];exact zzU8
   have zr:(k:Int)<(((n+1:Nat)):Int):=qo
   refine zY ?_;exact⟨k+1,upd2 f k k true,qo,by go_num,a2.out⟩
  .obtain rfl:k=n+1:=qo
   have zk:¬(((n+1:Nat):Int))<=(n:Int):=qo
   go_wp2;go_ret;refine⟨g,cp,ρ,γ,f,rfl,⟨HJ.1,λi j hij hj=>?_⟩,HJ.2.2⟩;rw[HJ.2.1 i j hij hj];have:i<n+1:=qo
   simp[this]
def orF(fa fb:Nat->Nat->Bool)(k j:Nat):Nat->Nat->Bool:=λx y=>(fa x y || fb x y) && (decide (x<k) || (x==k && decide (y<j)))
variable {p:Prop}
theorem zOr (h:p:=by
 refine wpR 22 hSd ?_;refine ja 0 hSd ?_;iterate 20 refine jb hSd ?_
 refine kO 21 hSd ?_;refine kL 22 ?_;refine qD ?_;unfold SW at hSd;refine zY ?_;exact⟨j+1,qo,qo,by go_num,_,HJ2.out _ rfl⟩):p:=h
theorem yQx(n ga ca gb cb:Nat)(ρa γa ρb γb:Nat->Nat)(fa fb:Nat->Nat->Bool) w (hn:n<=1000) (ha:MatR w ga (n+1) ρa γa fa) (hb:MatR w gb (n+1) ρb γb fb) (hca:n+1<=ca) (hcb:n+1<=cb):Calls prog 224 #[slV ga (n+1) ca,slV gb (n+1) cb] w (MaF (n+1) (λi j=>fa i j || fb i j) w):=by
 have HR:=qH2 ha hb;go_enter func224,ntmps224;go_wp2_with fail;apply (yC4 n hn w).mono;rintro r w1 ⟨g,cp,ρ,γ,rfl,HM,ac⟩;have ag:=HM.out.out.caps;go_wp2;go_loopw[6] (λiv wr=>∃(k:Nat)(f:Nat->Nat->Bool),k<=n+1/\iv=(xi k)/\Hid (MatO wr w g cp (n+1) (n+1) ρ γ f/\(∀i j,i<=j->j<n+1->f i j=orF fa fb k 0 i j)/\Below w w wr)) (λiv _=>n+1-(intOf iv).toNat);case atStart=>exact⟨0,_,AJ _,rfl,HM.out,λi j _ _=>by simp[orF],ac⟩
 case round=>
  obtain⟨k,f0,hk,rfl,a4⟩:=hrel;have⟨Wr,ad⟩:=qW wr;subst ad;by_cases hlt:k<n+1
  .have zk:(k:Int)<((n+1:Nat):Int):=qo
   go_wp2;go_loopw[7] (λjv wr=>∃(j:Nat)(f:Nat->Nat->Bool),k<=j/\j<=n+1/\jv=(xi j)/\Hid (MatO wr w g cp (n+1) (n+1) ρ γ f/\(∀x y,x<=y->y<n+1->f x y=orF fa fb k j x y)/\Below w w wr)) (λjv _=>n+1-(intOf jv).toNat);case atStart=>exact⟨k,f0,Ah _,qo,rfl,a4.1,λx y hxy hy=>by
    rw[a4.2.1 x y hxy hy]
    unfold orF
    congr 1
    rw[AW];simp only[AS,AF,decide_eq_true_eq,beq_iff_eq];omega,a4.2.2⟩
   case round=>
    obtain⟨j,f,af,hj,rfl,HJ⟩:=hrel;by_cases hlj:j<n+1
    .have zj:(j:Int)<((n+1:Nat):Int):=qo
     have a7:=HR.1.k HJ.2.2 qr;have a6:=HR.2.k HJ.2.2 qr;have c0:=HJ.1.z hlt;have c1:=(HJ.1.j k hlt).z hlj;have z1:wr.frozen? (xd (ρ k) j)=false:=AE (HJ.1.j k hlt) _;have ae:=(HJ.1.j k hlt).caps;have a0:=a7.out k hlt;have a1:=a7.j k j hlt hlj;have b0:=a6.out k hlt;have b1:=a6.j k j hlt hlj;have ah:=HR.1.cap k hlt;have hc2:=HR.2.cap k hlt;have HJ2:Hid (∀v:Bool,v=(fa k j || fb k j)->Hid (MatO (wr.setCell (xd (ρ k) j) v).drew w g cp (n+1) (n+1) ρ γ (upd2 f k j v)/\(∀x y,x<=y->y<n+1->upd2 f k j v x y=orF fa fb k (j+1) x y)/\Below w w (wr.setCell (xd (ρ k) j) v).drew)):=λv hv=>by
      refine⟨(HJ.1.set hlt hlj v).k ((Below.refl _ _).drew),λx y hxy hy=>?_,(yAb HJ.2.2 (HJ.1.j k hlt).lt.1 _ _).drew⟩;unfold upd2;by_cases e:x=k/\y=j
      .rw[iB e,hv];simp[orF,e.1,e.2]
      .rw[iA e,HJ.2.1 x y hxy hy];unfold orF;congr 1;exact zzU8
     obtain⟨aa,a9⟩:∃aa,fa k j=aa:=⟨_,rfl⟩;obtain⟨a2,a8⟩:∃a2,fb k j=a2:=⟨_,rfl⟩;rw[a9]at a1 HJ2;rw[a8]at b1 HJ2;clear a7 a6 a9 a8;have hSd:SW (λw':Ww=>xk w' g k (slV (ρ k) (n+1) (γ k))/\xk w' ga k (slV (ρa k) (n+1) (γa k))/\xk w' (ρa k) j aa/\xk w' gb k (slV (ρb k) (n+1) (γb k))/\xk w' (ρb k) j a2) wr.drew:=⟨c0,a0,a1,b0,b1⟩;go_upto_region 8 with fail;cases aa<;>exact zOr
    .obtain rfl:j=n+1:=qo
     have zj:¬((n+1:Nat):Int)<((n+1:Nat):Int):=qo
     have a5:Hid (MatO wr w g cp (n+1) (n+1) ρ γ f/\(∀x y,x<=y->y<n+1->f x y=orF fa fb (k+1) 0 x y)/\Below w w wr):=by refine⟨HJ.1,λx y hxy hy=>?_,HJ.2.2⟩;rw[HJ.2.1 x y hxy hy];unfold orF;congr 1;rw[AW];simp only[AS,AF,decide_eq_true_eq,beq_iff_eq];omega
     refine zY ?_;exact⟨k+1,f,qo,by go_num,a5.out⟩
  .obtain rfl:k=n+1:=qo
   have zk:¬((n+1:Nat):Int)<((n+1:Nat):Int):=qo
   go_wp2;go_ret;refine⟨g,cp,ρ,γ,f0,rfl,⟨a4.1,λi j hij hj=>?_⟩,a4.2.2⟩;rw[a4.2.1 i j hij hj];have:i<n+1:=qo
   simp[orF,this]
def thF(fa fb:Nat->Nat->Bool)(i j K:Nat):Bool:=(Aj K).any (λk=>decide (i<=k) && decide (k<=j) && fa i k && fb k j)
theorem yUr(fa fb:Nat->Nat->Bool)(i j k:Nat):thF fa fb i j (k+1)=(thF fa fb i j k || (decide (i<=k) && decide (k<=j) && fa i k && fb k j)):=by simp[thF,Ay,any_append]
variable {fa fb:Nat->Nat->Bool}
theorem yNt{i k:Nat}(h:¬i<=k\/¬k<=j\/fa i k=false):thF fa fb i j (k+1)=thF fa fb i j k:=by rw[yUr];rcases h with h|h|h<;>simp[h]
theorem yJq{i:Nat}:∀(k:Nat),k<=i->thF fa fb i j k=false
 |0,_=>rfl
 |k+1,h=>by rw[yNt (.inl qo),yJq k qo]
theorem xG6{i K:Nat}:thF fa fb i j K=true↔∃k,k<K/\i<=k/\k<=j/\fa i k=true/\fb k j=true:=by
 simp only[thF,any_eq_true,mem_range,AF,decide_eq_true_eq];constructor
 .rintro⟨k,h0,⟨⟨h1,h2⟩,h3⟩,h4⟩;exact⟨k,h0,h1,h2,h3,h4⟩
 .rintro⟨k,h0,h1,h2,h3,h4⟩;exact⟨k,h0,⟨⟨h1,h2⟩,h3⟩,h4⟩
def stF(fa fb:Nat->Nat->Bool)(N i k j x y:Nat):Bool:=if x<i then thF fa fb x y N else if x=i then thF fa fb i y (if y<j then k+1 else k)else false
theorem yTe(n ga ca gb cb:Nat)(ρa γa ρb γb:Nat->Nat)(fa fb:Nat->Nat->Bool) w (hn:n<=1000) (ha:MatR w ga (n+1) ρa γa fa) (hb:MatR w gb (n+1) ρb γb fb) (hca:n+1<=ca) (hcb:n+1<=cb):Calls prog 242 #[slV ga (n+1) ca,slV gb (n+1) cb] w (MaF (n+1) (λi j=>thF fa fb i j (n+1)) w):=by
 have HR:=qH2 ha hb;go_enter func242,ntmps242;go_wp2_with fail;apply (yC4 n hn w).mono;rintro r w1 ⟨g,cp,ρ,γ,rfl,HM,ai⟩;have am:=HM.out.out.caps;go_wp2;go_loopw[6] (λiv wr=>∃(i:Nat)(f:Nat->Nat->Bool),i<=n+1/\iv=(xi i)/\Hid (MatO wr w g cp (n+1) (n+1) ρ γ f/\(∀x y,x<=y->y<n+1->f x y=stF fa fb (n+1) i 0 0 x y)/\Below w w wr)) (λiv _=>n+1-(intOf iv).toNat);case atStart=>exact⟨0,_,AJ _,rfl,HM.out,λx y _ _=>by
  unfold stF
  rw[iA qo]
  split
  .rw[iA qo];rfl
  .rfl,ai⟩
 case round=>
  obtain⟨i,f0,hi,rfl,a6⟩:=hrel;have⟨Wr,ak⟩:=qE (wr:Ww);subst ak;by_cases hli:i<n+1
  .have zi:(i:Int)<((n+1:Nat):Int):=qo
   go_wp2;go_loopw[7] (λkv wr=>∃(k:Nat)(f:Nat->Nat->Bool),i<=k/\k<=n+1/\kv=(xi k)/\Hid (MatO wr w g cp (n+1) (n+1) ρ γ f/\(∀x y,x<=y->y<n+1->f x y=stF fa fb (n+1) i k 0 x y)/\Below w w wr)) (λkv _=>n+1-(intOf kv).toNat);case atStart=>exact⟨i,f0,Ah _,qo,rfl,a6.1,λx y hxy hy=>by
    rw[a6.2.1 x y hxy hy]
    unfold stF
    split
    .rfl
    .split
     .rw[iA qo,iA qo,yJq 0 qo,yJq i qr]
     .rfl,a6.2.2⟩
   case round=>
    obtain⟨k,f1,ag,hk,rfl,a3⟩:=hrel;have⟨Ws,aj⟩:=qE (wr:Ww);subst aj;by_cases hlk:k<n+1
    .have zk:(k:Int)<((n+1:Nat):Int):=qo
     have a8:=HR.1.k a3.2.2 qr;have a0:=a8.out i hli;have a1:=a8.j i k hli hlk;have ah:=HR.1.cap i hli;obtain⟨ac,ab⟩:∃ac,fa i k=ac:=⟨_,rfl⟩;rw[ab]at a1;have ae:=qH1 ab;cases ac
     case false=>
      have a2:Hid (MatO Ws w g cp (n+1) (n+1) ρ γ f1/\(∀x y,x<=y->y<n+1->f1 x y=stF fa fb (n+1) i (k+1) 0 x y)/\Below w w Ws):=by
       refine⟨a3.1,λx y hxy hy=>?_,a3.2.2⟩;rw[a3.2.1 x y hxy hy];unfold stF;split
       .rfl
       .split
        .rw[iA qo,iA qo,yNt (.inr (.inr ae.out))]
        .rfl
      go_wp2;go_roundw;case rel=>first|exact⟨k+1,qo,qo,by go_num,f1,a2.out⟩|exact⟨k+1,qo,qo,qo,by go_num,f1,a2.out⟩|exact⟨k+1,f1,qo,qo,by go_num,a2.out⟩
      case measure=>simp[intOf];omega
     case true=>
     go_wp2_with fail;clear a0 a1 ah;go_loopw[8] (λjv wr=>∃(j:Nat)(f:Nat->Nat->Bool),k<=j/\j<=n+1/\jv=(xi j)/\Hid (MatO wr w g cp (n+1) (n+1) ρ γ f/\(∀x y,x<=y->y<n+1->f x y=stF fa fb (n+1) i k j x y)/\Below w w wr)) (λjv _=>n+1-(intOf jv).toNat);case atStart=>exact⟨k,f1,Ah _,qo,rfl,a3.1,λx y hxy hy=>by
      rw[a3.2.1 x y hxy hy]
      unfold stF
      split
      .rfl
      .split
       .rw[iA qo]
        split
        .rw[yNt (.inr (.inl qo))]
        .rfl
       .rfl,a3.2.2⟩
     case round=>
      obtain⟨j,f,af,hj,rfl,HJ⟩:=hrel;by_cases hlj:j<n+1
      .have zj:(j:Int)<((n+1:Nat):Int):=qo
       have a7:=HR.2.k HJ.2.2 qr;have c0:=HJ.1.z hli;have c1:=(HJ.1.j i hli).z hlj;have z1:wr.frozen? (xd (ρ i) j)=false:=AE (HJ.1.j i hli) _;have al:=(HJ.1.j i hli).caps;have b0:=a7.out k hlk;have b1:=a7.j k j hlk hlj;have hc2:=HR.2.cap k hlk;have HJ2:Hid (∀v:Bool,v=(f i j || fb k j)->Hid (MatO (wr.setCell (xd (ρ i) j) v).drew w g cp (n+1) (n+1) ρ γ (upd2 f i j v)/\(∀x y,x<=y->y<n+1->upd2 f i j v x y=stF fa fb (n+1) i k (j+1) x y)/\Below w w (wr.setCell (xd (ρ i) j) v).drew)):=λv hv=>by
        refine⟨(HJ.1.set hli hlj v).k ((Below.refl _ _).drew),λx y hxy hy=>?_,(yAb HJ.2.2 (HJ.1.j i hli).lt.1 _ _).drew⟩;unfold upd2;by_cases e:x=i/\y=j
        .rw[iB e,hv,HJ.2.1 i j qo hlj,e.1,e.2];unfold stF;rw[iA qo,iB rfl,iA qo,iA qo,iB rfl,iB qo,yUr,ae.out];have h1:=ag;simp[h1,af]
        .rw[iA e,HJ.2.1 x y hxy hy];unfold stF;split
         .rfl
         .split
          .have h1:y≠j:=λq=>e ⟨by assumption,q⟩;by_cases h2:y<j
           .rw[iB h2,iB qo]
           .rw[iA h2,iA qo]
          .rfl
       obtain⟨ov,a9⟩:∃ov,f i j=ov:=⟨_,rfl⟩;obtain⟨a4,aa⟩:∃a4,fb k j=a4:=⟨_,rfl⟩;rw[a9]at c1 HJ2;rw[aa]at b1 HJ2;clear a7 a9 aa;have hSd:SW (λw':Ww=>xk w' g i (slV (ρ i) (n+1) (γ i))/\xk w' (ρ i) j ov/\xk w' gb k (slV (ρb k) (n+1) (γb k))/\xk w' (ρb k) j a4) wr.drew:=⟨c0,c1,b0,b1⟩;go_upto_region 12 with fail;cases ov<;>exact zOr
      .obtain rfl:j=n+1:=qo
       have zj:¬((n+1:Nat):Int)<((n+1:Nat):Int):=qo
       have a2:Hid (MatO wr w g cp (n+1) (n+1) ρ γ f/\(∀x y,x<=y->y<n+1->f x y=stF fa fb (n+1) i (k+1) 0 x y)/\Below w w wr):=by
        refine⟨HJ.1,λx y hxy hy=>?_,HJ.2.2⟩;rw[HJ.2.1 x y hxy hy];unfold stF;split
        .rfl
        .split
         .first|rw[iB hy,iA qo]|rw[iA qo]
         .rfl
       refine zX ?_;first|exact⟨k+1,qo,qo,by go_num,f,a2.out⟩|exact⟨k+1,qo,qo,qo,by go_num,f,a2.out⟩|exact⟨k+1,f,qo,qo,by go_num,a2.out⟩
    .obtain rfl:k=n+1:=qo
     have zk:¬((n+1:Nat):Int)<((n+1:Nat):Int):=qo
     have a2:Hid (MatO Ws w g cp (n+1) (n+1) ρ γ f1/\(∀x y,x<=y->y<n+1->f1 x y=stF fa fb (n+1) (i+1) 0 0 x y)/\Below w w Ws):=by
      refine⟨a3.1,λx y hxy hy=>?_,a3.2.2⟩;rw[a3.2.1 x y hxy hy];unfold stF;by_cases h1:x<i
      .rw[iB h1,iB qo]
      .by_cases h2:x=i
       .rw[iA h1,iB h2,iA qo,iB qo,h2]
       .rw[iA h1,iA h2,iA qo];split
        .rw[iA qo,yJq 0 qo]
        .rfl
     refine zX ?_;first|exact⟨i+1,f1,qo,by go_num,a2.out⟩|exact⟨i+1,qo,by go_num,f1,a2.out⟩
  .obtain rfl:i=n+1:=qo
   have zi:¬((n+1:Nat):Int)<((n+1:Nat):Int):=qo
   go_wp2_with fail;go_ret;refine⟨g,cp,ρ,γ,f0,rfl,⟨a6.1,λx y hxy hy=>?_⟩,a6.2.2⟩;rw[a6.2.1 x y hxy hy];unfold stF;rw[iB qo]
def plK(fa:Nat->Nat->Bool):Nat->Nat->Nat->Bool
 |0=>fa
 |K+1=>λi j=>plK fa K i j || (decide (i<=K) && decide (K<=j) && plK fa K i K && plK fa K K j)
def MaG(N:Nat)(F:Nat->Nat->Bool)(w:Ww)(r:Ax)(w':Ww):Prop:=∃g cp ρ γ f,r=.returned (slV g N cp)/\N<=cp/\Hid (MatR w' g N ρ γ f/\∀i j,i<=j->j<N->f i j=F i j)/\Below w w w'
theorem MaF.g{r:Ax}(h:MaF N F w r w'):MaG N F w r w':=by have⟨g,cp,ρ,γ,f,h1,h2,h3⟩:=h;exact⟨g,cp,ρ,γ,f,h1,h2.out.1.out.caps.1,⟨h2.out.1.read,h2.out.2⟩,h3⟩
def viaF(fo:Nat->Nat->Bool)(k:Nat):Nat->Nat->Bool:=λx y=>decide (x<=k) && decide (k<=y) && fo x k && fo k y
theorem zPe (h:p:=by
 refine qO 40 rfl λK hK=>?_;go_simp;refine hK.out _ _ (.inr hSd) (jS ?_);clear hK;refine qO 41 rfl λK hK=>?_;go_simp;refine hK.out _ _ (.inl rfl) (jS ?_);clear hK;refine qD ?_;obtain⟨v,hv⟩:=qE (fo i j || viaF fo k i j);have HJ3:=HJ2.out v hv;rw[HV.1]at hv;unfold viaF at hv;rw[HV.2.1,HV.2.2]at hv;(try simp[hik]at hv);(try simp[hkj]at hv);(try simp at hv);subst hv;unfold SW at hSd;refine zX ?_;first|exact⟨j+1,by omega,by omega,by go_num,_,HJ3⟩|exact⟨j+1,_,by omega,by omega,by go_num,HJ3⟩):p:=h
theorem zPi {q:Prop} (k:q) (h:q->p:=by
 intro zz;refine wpR 41 hSd ?_;refine ja 0 hSd ?_;iterate 14 refine jb hSd ?_
 refine ja 15 hSd (v:=true) ?_;iterate 3 refine jb hSd ?_
 exact zz):p:=h k
theorem zPf (h:p:=by
 refine zPi ?_;refine ja 19 hSd (v:=true) ?_;iterate 20 refine jb hSd ?_
 exact zPe):p:=h
theorem yTf(n ga ca:Nat)(ρa γa:Nat->Nat)(fa:Nat->Nat->Bool) w (hn:n<=1000) (ha:MatR w ga (n+1) ρa γa fa) (hca:n+1<=ca):Calls prog 241 #[slV ga (n+1) ca] w (MaG (n+1) (plK fa (n+1)) w):=by
 have HR:=qH1 ha;clear ha;go_enter func241,ntmps241;go_wp2_with fail;go_loopw[3,4] (λov kv wr=>∃(k go co:Nat)(ρo γo:Nat->Nat)(fo:Nat->Nat->Bool),k<=n+1/\kv=(xi k)/\ov=slV go (n+1) co/\n+1<=co/\Hid (MatR wr go (n+1) ρo γo fo/\(∀x y,x<=y->y<n+1->fo x y=plK fa k x y)/\Below w w wr)) (λ_ kv _=>n+1-(intOf kv).toNat);case atStart=>exact⟨0,ga,ca,ρa,γa,fa,AJ _,rfl,rfl,hca,HR.out,λ_ _ _ _=>rfl,Below.refl _ _⟩
 case round=>
  obtain⟨k,go,co,ρo,γo,fo,hk,rfl,rfl,af,HO⟩:=hrel;obtain⟨Wk,ai⟩:=qE (wr:Ww);subst ai;by_cases hlk:k<n+1
  .have zk:(k:Int)<((n+1:Nat):Int):=qo
   go_wp2_with fail;refine(yC4 n hn Wk).mono ?_;rintro r w1 ⟨g,cp,ρ,γ,rfl,HM,ag⟩;have ad:=HM.out.out.caps;go_wp2_with fail;go_loopw[6] (λiv wr=>∃(i:Nat)(f:Nat->Nat->Bool),i<=n+1/\iv=(xi i)/\Hid (MatO wr Wk g cp (n+1) (n+1) ρ γ f/\(∀x y,x<=y->y<n+1->f x y=orF fo (viaF fo k) i 0 x y)/\Below Wk Wk wr)) (λiv _=>n+1-(intOf iv).toNat);case atStart=>exact⟨0,_,AJ _,rfl,HM.out,λx y _ _=>by simp[orF],ag⟩
   case round=>
    obtain⟨i,f0,hi,rfl,a6⟩:=hrel;obtain⟨Wr,ah⟩:=qE (wr:Ww);subst ah;by_cases hlt:i<n+1
    .have zi:(i:Int)<((n+1:Nat):Int):=qo
     go_wp2_with fail;go_loopw[7] (λjv wr=>∃(j:Nat)(f:Nat->Nat->Bool),i<=j/\j<=n+1/\jv=(xi j)/\Hid (MatO wr Wk g cp (n+1) (n+1) ρ γ f/\(∀x y,x<=y->y<n+1->f x y=orF fo (viaF fo k) i j x y)/\Below Wk Wk wr)) (λjv _=>n+1-(intOf jv).toNat);case atStart=>exact⟨i,f0,Ah _,qo,rfl,a6.1,λx y hxy hy=>by
      rw[a6.2.1 x y hxy hy]
      unfold orF
      congr 1
      rw[AW];simp only[AS,AF,decide_eq_true_eq,beq_iff_eq];omega,a6.2.2⟩
     case round=>
      obtain⟨j,f,hij,hj,rfl,HJ⟩:=hrel;by_cases hlj:j<n+1
      .have zj:(j:Int)<((n+1:Nat):Int):=qo
       have a5:=HO.1.k HJ.2.2 qr;have c0:=HJ.1.z hlt;have c1:=(HJ.1.j i hlt).z hlj;have z1:wr.frozen? (xd (ρ i) j)=false:=AE (HJ.1.j i hlt) _;have aj:=(HJ.1.j i hlt).caps;have a0:=a5.out i hlt;have a1:=a5.j i j hlt hlj;have a2:=a5.j i k hlt hlk;have a3:=a5.out k hlk;have a4:=a5.j k j hlk hlj;have ak:=HO.1.cap i hlt;have hc2:=HO.1.cap k hlk;have HJ2:Hid (∀v:Bool,v=(fo i j || viaF fo k i j)->Hid (MatO (wr.setCell (xd (ρ i) j) v).drew Wk g cp (n+1) (n+1) ρ γ (upd2 f i j v)/\(∀x y,x<=y->y<n+1->upd2 f i j v x y=orF fo (viaF fo k) i (j+1) x y)/\Below Wk Wk (wr.setCell (xd (ρ i) j) v).drew)):=λv hv=>by
        refine⟨(HJ.1.set hlt hlj v).k ((Below.refl _ _).drew),λx y hxy hy=>?_,(yAb HJ.2.2 (HJ.1.j i hlt).lt.1 _ _).drew⟩;unfold upd2;by_cases e:x=i/\y=j
        .rw[iB e,hv];simp[orF,e.1,e.2]
        .rw[iA e,HJ.2.1 x y hxy hy];unfold orF;congr 1;exact zzU8
       obtain⟨a7,aa⟩:∃a7,fo i j=a7:=⟨_,rfl⟩;obtain⟨a8,ac⟩:∃a8,fo i k=a8:=⟨_,rfl⟩;obtain⟨a9,ab⟩:∃a9,fo k j=a9:=⟨_,rfl⟩;have HV:=qH3 aa ac ab;rw[aa]at a1;rw[ac]at a2;rw[ab]at a4;clear a5 aa ac ab c1;have c1:=(HJ.1.j i hlt).z hlj;have hSd:SW (λw':Ww=>xk w' g i (slV (ρ i) (n+1) (γ i))/\xk w' go i (slV (ρo i) (n+1) (γo i))/\xk w' (ρo i) j a7/\xk w' (ρo i) k a8/\xk w' go k (slV (ρo k) (n+1) (γo k))/\xk w' (ρo k) j a9) wr.drew:=⟨c0,a0,a1,a2,a3,a4⟩;go_upto_region 12 with fail;cases a7
       case true=>
        refine wpR 41 hSd ?_;refine ja 0 hSd ?_;iterate 39 refine jb hSd ?_
        exact zPe
       case false=>
        by_cases hik:i<=k
        .have hd1:decide ((i:Int)<=(k:Int))=true:=by simp;omega
         by_cases hkj:k<=j
         .have hd2:decide ((k:Int)<=(j:Int))=true:=by simp;omega
          cases a8<;>exact zPf
         .have hd2:decide ((k:Int)<=(j:Int))=false:=by simp;omega
          refine zPi ?_;refine ja 19 hSd (v:=false) ?_;iterate 20 refine jb hSd ?_
          exact zPe
        .have hd1:decide ((i:Int)<=(k:Int))=false:=by simp;omega
         refine wpR 41 hSd ?_;refine ja 0 hSd ?_;iterate 14 refine jb hSd ?_
         refine ja 15 hSd (v:=false) ?_;iterate 24 refine jb hSd ?_
         exact zPe
      .obtain rfl:j=n+1:=qo
       have zj:¬((n+1:Nat):Int)<((n+1:Nat):Int):=qo
       have HJ2:Hid (MatO wr Wk g cp (n+1) (n+1) ρ γ f/\(∀x y,x<=y->y<n+1->f x y=orF fo (viaF fo k) (i+1) 0 x y)/\Below Wk Wk wr):=by refine⟨HJ.1,λx y hxy hy=>?_,HJ.2.2⟩;rw[HJ.2.1 x y hxy hy];unfold orF;congr 1;rw[AW];simp only[AS,AF,decide_eq_true_eq,beq_iff_eq];omega
       refine zX ?_;first|exact⟨i+1,f,qo,by go_num,HJ2.out⟩|exact⟨i+1,qo,by go_num,f,HJ2.out⟩
    .obtain rfl:i=n+1:=qo
     have zi:¬((n+1:Nat):Int)<((n+1:Nat):Int):=qo
     have ae:Hid (MatR Wr g (n+1) ρ γ f0/\(∀x y,x<=y->y<n+1->f0 x y=plK fa (k+1) x y)/\Below w w Wr):=by
      refine⟨a6.1.read,λx y hxy hy=>?_,HO.2.2.trans (a6.2.2.mono HO.2.2.size)⟩;rw[a6.2.1 x y hxy hy];have hx:x<n+1:=qo
      simp only[orF,viaF,plK,hx,decide_true,Bool.true_or,Bool.and_true];rw[HO.2.1 x y hxy hy];by_cases h1:x<=k
      .by_cases h2:k<=y
       .rw[HO.2.1 x k h1 hlk,HO.2.1 k y h2 hy]
       .simp[h2]
      .simp[h1]
     refine zX ?_;first|exact⟨k+1,g,cp,ρ,γ,f0,qo,by go_num,rfl,ad.1,ae.out⟩|exact⟨k+1,qo,by go_num,g,cp,rfl,ad.1,ρ,γ,f0,ae.out⟩|exact⟨k+1,g,cp,qo,by go_num,rfl,ad.1,ρ,γ,f0,ae.out⟩
  .obtain rfl:k=n+1:=qo
   have zk:¬((n+1:Nat):Int)<((n+1:Nat):Int):=qo
   go_wp2_with fail;go_ret;exact⟨go,co,ρo,γo,fo,rfl,af,⟨HO.1,HO.2.1⟩,HO.2.2⟩
section
def Hd(Q:U8->Prop)(r:List U8):Prop:=r= []\/∃c zs,r=c::zs/\Q c
theorem Hd.mono{Q:U8->Prop}(h:∀c,Q c->R c){r:List U8}:Hd Q r->Hd R r
 | .inl q=>.inl q
 | .inr ⟨c,zs,h1,h2⟩=>.inr ⟨c,zs,h1,h c h2⟩
theorem yZy:∀(a b:List U8){r r':List U8},(∀c∈a,isOp c)->(∀c∈b,isOp c)->Hd (λc=>¬isOp c) r->Hd (λc=>¬isOp c) r'->a++r=b++r'->a=b/\r=r'
 | [],[],r,r',_,_,_,_,h=>⟨rfl,by simpa using h⟩
 |x::a,[],r,r',ha,_,_,hr',h=>by
  rcases hr' with rfl|⟨c,zs,rfl,hc⟩
  .cases h
  .simp only[AH,Af,AC]at h
   exact absurd (h.1▸ha x (by simp)) hc
 | [],y::b,r,r',_,hb,hr,_,h=>by
   rcases hr with rfl|⟨c,zs,rfl,hc⟩
   .cases h
   .simp only[AH,Af,AC]at h
    exact absurd (h.1▸hb y (by simp)) hc
 |x::a,y::b,r,r',ha,hb,hr,hr',h=>by
  simp only[AH,AC]at h
  have⟨h1,h2⟩:=yZy a b (λc hc=>ha c (by simp[hc])) (λc hc=>hb c (by simp[hc])) hr hr' h.2
  exact⟨by rw[h.1,h1],h2⟩
theorem yVv(zs:List U8):Hd (λc=>c=41\/c=124) (124::zs):=.inr ⟨124,zs,rfl,.inr rfl⟩
section
variable (hU:∀xs t t',yAu n xs t->yAu m xs t'->t=t')
include hU
theorem xHk{r r':List U8}(h:RepG (yAu n) xs t)(k:RepG (yAu m) ys t')(hr:Hd (λc=>¬isOp c) r)(hr':Hd (λc=>¬isOp c) r')(e:xs++r=ys++r'):xs=ys/\t=t'/\r=r':=by obtain⟨a,o,u,rfl,h2,h3,rfl⟩:=h;obtain⟨a',o',u',rfl,k2,k3,rfl⟩:=k;rw[AD,AD]at e;have ea:=yJ1 h2 k2 e;subst ea;obtain rfl:=hU _ _ _ h2 k2;obtain⟨rfl,rfl⟩:=yZy o o' h3 k3 hr hr' (Ag e);exact⟨rfl,rfl,rfl⟩
theorem yKk:∀{ts us:List Pat}{xs ys r r':List U8},SeqG (yAu n) ts xs->SeqG (yAu m) us ys->Hd (λc=>c=41\/c=124) r->Hd (λc=>c=41\/c=124) r'->xs++r=ys++r'->ts=us/\xs=ys/\r=r'
 | [],[],xs,ys,r,r',h,k,hr,hr',e=>by
   have h:=h
   have k:=k
   subst h k
   exact⟨rfl,rfl,by simpa using e⟩
 |t::ts,[],xs,ys,r,r',h,k,hr,hr',e=>by
  have k:=k
  subst k
  obtain⟨as_,zs,rfl,⟨a,o,u,rfl,h2,h3,_⟩,h4⟩:=h
  obtain⟨c,yt,rfl,n1,n2,n3⟩:=h2.first
  rcases hr' with rfl|⟨c',zs',rfl,hc⟩
  .simp at e
  .simp only[AH,Af,AC]at e
   rcases hc with q|q
   .exact absurd (e.1.trans q) n1
   .exact absurd (e.1.trans q) n2
 | [],u::us,xs,ys,r,r',h,k,hr,hr',e=>by
   have h:=h
   subst h
   obtain⟨as_,zs,rfl,⟨a,o,u',rfl,h2,h3,_⟩,h4⟩:=k
   obtain⟨c,yt,rfl,n1,n2,n3⟩:=h2.first
   rcases hr with rfl|⟨c',zs',rfl,hc⟩
   .simp at e
   .simp only[AH,Af,AC]at e
    rcases hc with q|q
    .exact absurd (e.1.symm.trans q) n1
    .exact absurd (e.1.symm.trans q) n2
 |t::ts,u::us,xs,ys,r,r',h,k,hr,hr',e=>by
  obtain⟨as_,zs,rfl,h2,h3⟩:=h
  obtain⟨bs,ws,rfl,k2,k3⟩:=k
  have hd:∀{j:Nat}{vs:List Pat}{qs rr:List U8},SeqG (yAu j) vs qs->Hd (λc=>c=41\/c=124) rr->Hd (λc=>¬isOp c) (qs++rr):=λ{j vs qs rr} hq hrr=>by
   cases vs with
   |nil=>
    have hq:=hq
    subst hq
    refine hrr.mono (λc hc=>?_)
    rcases hc with rfl|rfl
    .unfold isOp;decide
    .unfold isOp;decide
   |cons v vs=>
    obtain⟨a1,z1,rfl,⟨a,o,u',rfl,g2,g3,_⟩,g4⟩:=hq
    obtain⟨c,yt,rfl,n1,n2,n3⟩:=g2.first
    exact .inr ⟨c,_,by simp only[AH];rfl,n3⟩
  rw[AD,AD]at e
  obtain⟨rfl,rfl,e2⟩:=xHk hU h2 k2 (hd h3 hr) (hd k3 hr') e
  obtain⟨rfl,rfl,e3⟩:=yKk h3 k3 hr hr' e2
  exact⟨rfl,rfl,e3⟩
theorem yUa:∀{os us:List (List Pat)}{xs ys r r':List U8},AltG (yAu n) os xs->AltG (yAu m) us ys->Hd (λc=>c=41) r->Hd (λc=>c=41) r'->xs++r=ys++r'->os=us/\xs=ys
 | [],_,_,_,_,_,h,_,_,_,_=>h.elim
 |_::_,[],_,_,_,_,_,k,_,_,_=>k.elim
 | [ts],[us],xs,ys,r,r',h,k,hr,hr',e=>by
   obtain⟨rfl,rfl,_⟩:=yKk hU (ts:=ts) (us:=us) h k (hr.mono (λc q=>.inl q)) (hr'.mono (λc q=>.inl q)) e
   exact⟨rfl,rfl⟩
 | [ts],u1::u2::us,xs,ys,r,r',h,⟨a,z,k1,k2,k3⟩,hr,hr',e=>by
   subst k1
   rw[AD,AH]at e
   have⟨_,_,e3⟩:=yKk hU (ts:=ts) (us:=u1) h k2 (hr.mono (λc q=>.inl q)) (yVv _) e
   rcases hr with rfl|⟨c,zs,rfl,hc⟩
   .cases e3
   .simp only[AC]at e3
    rw[hc]at e3
    exact absurd e3.1 qj
 |t1::t2::ts,[us],xs,ys,r,r',⟨a,z,h1,h2,h3⟩,k,hr,hr',e=>by
  subst h1
  rw[AD,AH]at e
  have⟨_,_,e3⟩:=yKk hU (ts:=t1) (us:=us) h2 k (yVv _) (hr'.mono (λc q=>.inl q)) e
  rcases hr' with rfl|⟨c,zs,rfl,hc⟩
  .cases e3
  .simp only[AC]at e3
   rw[hc]at e3
   exact absurd e3.1 qj
 |t1::t2::ts,u1::u2::us,xs,ys,r,r',⟨a,z,h1,h2,h3⟩,⟨b,y,k1,k2,k3⟩,hr,hr',e=>by
  subst h1 k1
  rw[AD,AD,AH,AH]at e
  obtain⟨rfl,rfl,e3⟩:=yKk hU h2 k2 (yVv _) (yVv _) e
  simp only[AC,true_and]at e3
  obtain⟨e4,rfl⟩:=yUa h3 k3 hr hr' e3
  exact⟨by rw[e4],rfl⟩
end
theorem yV5:∀(n:Nat){m:Nat}(xs:List U8)(t t':Pat),yAu n xs t->yAu m xs t'->t=t'
 |0,_,_,_,_,h,_=>h.elim
 |n+1,0,_,_,_,_,k=>k.elim
 |n+1,m+1,xs,t,t',h,k=>by
  have hu:∀xs t t',yAu n xs t->yAu m xs t'->t=t':=λxs t t' p q=>yV5 n xs t t' p q
  have hc91:∀{p:List U8}{i k:Nat}{f:U8->Bool},p[i]?=some 91->yAw p (i+1)=.inl (f,k)->∃zs,cut p i k=91::zs:=λ{p i k f} h1 h2=>by
   have hg:=yBk h2
   have:=yBs (p:=p) (i:=i) (j:=i+1) (k:=k) (by omega) (by omega)
   rw[yCl h1]at this
   exact⟨_,this⟩
  rcases h with⟨c,rfl,hs,rfl⟩|⟨rfl,rfl⟩|⟨c,rfl,rfl⟩|⟨ys,os,rfl,h2,rfl⟩|⟨p,i,j,f,h1,h2,h3,rfl⟩<;>
   rcases k with⟨c',k1,ks,rfl⟩|⟨k1,rfl⟩|⟨c',k1,rfl⟩|⟨zs,us,k1,k2,rfl⟩|⟨p',i',j',f',k1,k2,k3,rfl⟩
  .simp at k1;rw[k1]
  .simp at k1;subst k1;exact absurd (by unfold yCr;simp) hs
  .simp at k1
  .have:=congrArg AN k1;simp at this
  .have⟨zs,hz⟩:=hc91 k1 k2
   rw[hz]at k3;simp at k3;rw[k3.1]at hs;exact absurd (by unfold yCr;simp) hs
  .simp at k1;subst k1;exact absurd (by unfold yCr;simp) ks
  .rfl
  .simp at k1
  .have:=congrArg AN k1;simp at this
  .have⟨zs,hz⟩:=hc91 k1 k2
   rw[hz]at k3;simp at k3
  .simp at k1
  .simp at k1
  .simp at k1;rw[k1]
  .simp at k1
  .have⟨zs,hz⟩:=hc91 k1 k2
   rw[hz]at k3;simp at k3
  .have:=congrArg AN k1;simp at this
  .have:=congrArg AN k1;simp at this
  .simp at k1
  .simp only[AH,AC,true_and]at k1
   obtain⟨rfl,_⟩:=yUa hu h2 k2 (.inr ⟨41,[],rfl,rfl⟩) (.inr ⟨41,[],rfl,rfl⟩) k1
   rfl
  .have⟨zs,hz⟩:=hc91 k1 k2
   rw[hz]at k3;simp at k3
  .have⟨zs,hz⟩:=hc91 h1 h2
   rw[hz,k1]at h3;simp at h3;rw[h3.1]at ks;exact absurd (by unfold yCr;simp) ks
  .have⟨zs,hz⟩:=hc91 h1 h2
   rw[hz,k1]at h3;simp at h3
  .have⟨zs,hz⟩:=hc91 h1 h2
   rw[hz,k1]at h3;simp at h3
  .have⟨zs,hz⟩:=hc91 h1 h2
   rw[hz,k1]at h3;simp at h3
  .have hg:=yBk h2
   have hg':=yBk k2
   have hcut:cut p i j=cut p' i' j':=h3.symm.trans k3
   have hl:j-i=j'-i':=by have:=congrArg AN hcut;rwa [yA5 hg.2,yA5 hg'.2]at this
   have a0:∀t,i+t<j->p'[i'+t]?=p[i+t]?:=λt ht=>by
    have e1:(cut p i j)[t]?=p[i+t]?:=by unfold cut;rw[Ad,iB (by omega),Ae]
    have e2:(cut p' i' j')[t]?=p'[i'+t]?:=by unfold cut;rw[Ad,iB (by omega),Ae]
    rw[<-e1,<-e2,hcut]
   have e:=yF0 (q:=p') (j:=i'+1) h2 (λt ht=>by
    have:=a0 (1+t) (by omega)
    rw[show i'+1+t=i'+(1+t)by omega,show i+1+t=i+(1+t)by omega];exact this)
   rw[e]at k2
   simp only[AL,AG]at k2
   rw[k2.1]
theorem yZq(h:AltG (yAu n) os xs)(k:AltG (yAu m) us xs):os=us:=
 (yUa (λxs t t' p q=>yV5 n xs t t' p q) h k (.inl rfl) (.inl rfl) rfl).1
end
section
section
variable {ops:Array Oper}
def yV4(md:AI)(ops:Array Oper):List Nat->Nat->Nat->Bool
 | [],i,L=>yGt md ops L i
 |m::ms,i,L=>yGt md ops m i && yV4 md ops ms m L
theorem yRv{listed:Array Bool}:∀(ms:List Nat)(i:Nat),yV4 md ops ms i L=true->listed.getD i true=false->(∀m∈ms,listed.getD m true=false)->∀j∈AA md ops listed,¬j∈ms/\j≠L
 | [],i,h,hi,_,j,hj=>⟨by simp,λq=>yFs h hi (q▸hj)⟩
 |m::ms,i,h,hi,hm,j,hj=>by
  unfold yV4 at h
  rw[AF]at h
  have⟨h1,h2⟩:=yRv ms m h.2 (hm m (by simp)) (λx hx=>hm x (by simp[hx])) j hj
  refine⟨λq=>?_,h2⟩
  rcases mem_cons.1 q with rfl|q
  .exact yFs h.1 hi hj
  .exact h1 q
theorem yAi(ms:List Nat)(i:Nat)(v:Vv)(hi:ops[i]?=some oi)
  (hy:∀w,S w->(execOp a.eval oi).run P w=.ok (.value v) w) (hS:S w)
  (h:AnyT P md ops Q S L fuel (listed.setIfInBounds i true) (a.put oi.dst v) w)
  (hs:Region.noSelect ops=true:=by kernel_rfl) (hf:Region.free md ops listed i=true:=by kernel_rfl) (hr:(Region.ready md ops listed).contains i=true:=by kernel_rfl) (hL:yV4 md ops ms i L=true:=by kernel_rfl)
  (hm:(ms.all λm=> !listed.getD m true)=true:=by kernel_rfl)
  (hQ:∀c a w,Q (.panic c) (a.put oi.dst v) w->Q (.panic c) a w:=by exact λ_ _ _ h=>h) (hw:Region.wanted oi (yielded ops a.tmps)=true:=by rfl):AnyT P md ops Q S L (fuel+1) listed a w:=
 yEu (I:=λl=>∀m∈ms,l.getD m true=false) hi hs hf hr hQ (λ_ h=>.inr h) (λl a1 h1 j hj _=>by obtain⟨a6,a8⟩:=yRv ms i hL (mem_ready.1 h1).1 a1 j hj;exact⟨λw h=>h.resolve_left a8,λm hm=>by rw[getD_set_ne true (λq:j=m=>a6 (by rw[q];exact hm))];exact a1 m hm⟩) (λm hx=>by have:=all_eq_true.1 hm m hx;simpa using this) (Or.inl ⟨hw,hy⟩) hS h
end
end
section
section
variable {ops:Array Oper}
def AnyX(P:Az)(md:AI)(ops:Array Oper)(Q:Exit->Act->Ww->Prop)(S:Ww->Prop)(X:List Nat):Nat->Array Bool->Act->Ww->Prop:=AnyG (wpOp P ops Q) md ops Q (λi=>i∈X) S
def yUk(md:AI)(ops:Array Oper)(Y:List Nat)(listed:Array Bool)(i:Nat):Bool:=Y.all λL=>listed.getD L true==false && (yGt md ops L i || Y.any λL'=>yGt md ops L L')
def cloX(md:AI)(ops:Array Oper)(listed:Array Bool):Nat->List Nat->List Nat
 |0,Y=>Y
 |n+1,Y=>cloX md ops listed n (Y++(Aj ops.size).filter λL=> !Y.contains L && listed.getD L true==false && Y.any λL'=>yGt md ops L L')
def yYo(md:AI)(ops:Array Oper)(X:List Nat)(listed:Array Bool)(i:Nat):Bool:=
 let Y:=(cloX md ops listed 6 [i]).erase i
 yUk md ops Y listed i && X.all λL=>listed.getD L true || Y.contains L
theorem yYq{i:Nat}{Y:List Nat}(l:Array Bool)(H:yUk md ops Y l i=true/\∀L∈X,l.getD L true=true\/L∈Y)(hr:i∈AA md ops l)(j:Nat)(hj:j∈AA md ops l)(_:j≠i):(∀w,j∈X\/S w->S w)/\yUk md ops Y (l.setIfInBounds j true) i=true/\∀L∈X,(l.setIfInBounds j true).getD L true=true\/L∈Y:=by
 obtain⟨hX,a8⟩:=H;have a5:j∉Y:=λq=>by
  have h2:=Ac.1 hX j q;rw[AF,AS]at h2;rcases h2.2 with h3|h3
  .exact yFs h3 (AU.1 hr).1 hj
  .obtain⟨L',ad,h4⟩:=any_eq_true.1 h3;have h5:=Ac.1 hX L' ad;rw[AF]at h5;exact yFs h4 (by simpa using h5.1) hj
 have a6:j∉X:=λq=>(a8 j q).elim (λz=>by rw[(AU.1 hj).1]at z;cases z) a5
 refine⟨λw h=>h.resolve_left a6,Ac.2 λL hL=>?_,λL hL=>(a8 L hL).imp (λz=>by rw[Au true (λq:j=L=>a6 (by rw[q];exact hL))];exact z) id⟩;have h2:=Ac.1 hX L hL;rw[Au true (λq:j=L=>a5 (by rw[q];exact hL))];exact h2
theorem yUn{i:Nat}(h:yYo md ops X listed i=true):yUk md ops ((cloX md ops listed 6 [i]).erase i) listed i=true/\∀L∈X,listed.getD L true=true\/L∈(cloX md ops listed 6 [i]).erase i:=by unfold yYo at h;rw[AF]at h;exact⟨h.1,λL hL=>by simpa using Ac.1 h.2 L hL⟩
theorem yB9{i:Nat}(hr:AA md ops listed= [i])(ho:ops[i]?=some o)
  (h:∀K':Act->Ww->Prop,Shut (∀a w,(i∈X\/S w)->AnyX P md ops Q S X fuel (listed.setIfInBounds i true) a w->K' a w)->if AM o (yielded ops a.tmps)=true then Ak P o a w K' Q else K' (a.put o.dst undef) w):
  AnyX P md ops Q S X (fuel+1) listed a w:=by
 exact xJ6
theorem yHz(hr:AA md ops listed= [])(h:Q .normal a w):AnyX P md ops Q S X fuel listed a w:=by exact xGq
theorem yEx(X:List Nat)(S:Ww->Prop)(hm:P.follows .mixedOrders=true)
  (h:AnyX P .any ops Q S X ops.size (AV ops.size false) a w.drew):(Code.region id ops true).wp P Q a w:=
 BD hm (yJ2 _ _ _ _ h)
end
theorem txx(h:p:=by exact⟨rfl,qk,qk,qk,qk,λ_ _ _ h=>h⟩):p:=h
section
variable {ops:Array Oper} {q:Prop}
abbrev TxX(ops:Array Oper)(Q:Exit->Act->Ww->Prop)(md:AI)(X:List Nat)(i:Nat)(v:Vv)(oi:Oper)(listed:Array Bool):Prop:=
 ops[i]?=some oi/\AO ops=true/\AT md ops listed i=true/\(AA md ops listed).contains i=true/\yYo md ops X listed i=true/\∀c a w,Q (.panic c) (a.put oi.dst v) w->Q (.panic c) a w
theorem txT{i:Nat}(hx:TxX ops Q md X i v oi listed)(hy:Ab P ops S oi v a)(hS:S w)(h:AnyX P md ops Q S X fuel (listed.setIfInBounds i true) (a.put oi.dst v) w):AnyX P md ops Q S X (fuel+1) listed a w:=
 yEu hx.1 hx.2.1 hx.2.2.1 hx.2.2.2.1 hx.2.2.2.2.2 (λ_ h=>.inr h) yYq (yUn hx.2.2.2.2.1) hy hS h
theorem tyyN(h:p:=by first|exact Or.inr ⟨by rfl,rfl⟩|exact Or.inl ⟨by rfl,by(intro wz hSw;go_simp;(try with_reducible rfl))⟩):p:=h
abbrev TnX(ops:Array Oper)(Q:Exit->Act->Ww->Prop)(md:AI)(X:List Nat)(i:Nat)(v:Vv)(oi:Oper)(listed:Array Bool):Prop:=
 ops[i]?=some oi/\AO ops=true/\AT md ops listed i=true/\(AA md ops listed).contains i=true/\∀c a w,Q (.panic c) (a.put oi.dst v) w->Q (.panic c) a w
theorem txnn(h:p:=by exact⟨rfl,qk,qk,qk,λ_ _ _ h=>h⟩):p:=h
theorem txna(i:Nat)(hS:i∈X\/S w)(hX:∀j,j∈X->j≠i->i∈X)(k:q)(hx:TnX ops Q md X i v oi listed:=by exact txnn)(hy:YieldsIf P ops (λ_=>True) oi v a:=by exact tyyN)(h:q->AnyX P md ops Q S X fuel (listed.setIfInBounds i true) (a.put oi.dst v) w:=by exact jz):AnyX P md ops Q S X (fuel+1) listed a w:=
 yEu (I:=λ_=>True) (T:=λw=>i∈X\/S w) hx.1 hx.2.1 hx.2.2.1 hx.2.2.2.1 hx.2.2.2.2 (λ_ h=>h) (λl _ _ j hj hji=>⟨λw h=>h.imp (λq=>hX j q hji) id,trivial⟩) trivial (hy.imp (λh=>⟨h.1,λw _=>h.2 w trivial⟩) id) hS (h k)
theorem txa(i:Nat)(hS:S w)(k:q)(hx:TxX ops Q md X i v oi listed:=by exact txx)(hy:YieldsIf P ops S oi v a:=by exact jy)(h:q->AnyX P md ops Q S X fuel (listed.setIfInBounds i true) (a.put oi.dst v) w:=by exact jz):AnyX P md ops Q S X (fuel+1) listed a w:=txT hx hy hS (h k)
theorem txb(hS:S w)(k:q)(hx:TxX ops Q md X (j+1) v oi (listed.setIfInBounds j true):=by exact txx)(hy:YieldsIf P ops S oi v a:=by exact jy)(h:q->AnyX P md ops Q S X fuel ((listed.setIfInBounds j true).setIfInBounds (j+1) true) (a.put oi.dst v) w:=by exact jz):AnyX P md ops Q S X (fuel+1) (listed.setIfInBounds j true) a w:=txT hx hy hS (h k)
end
end
theorem zzT0 (h:p:=by
 intro k hk;match k,hk with
 |0,_|1,_|2,_|3,_|4,_=>exact⟨_,by simp;rfl,by decide⟩
 |5,_=>exact⟨_,by simp;rfl,by decide⟩):p:=h
theorem zzT1(h:p:=by rintro e w3 ⟨s,rfl,hs,hD3,hC3⟩;have H3:Hid (yAo O cb bv n w3/\Chg (λk=>k=cb) w w3):=⟨hD3,H1.2.trans hC3⟩;clear hD3 hC3;go_wp2_with fail;go_ret;exact⟨s,rfl,by omega,H3.1,H3.2⟩):p:=h
theorem zzT2 (h:p:=by
 clear c0 c1 c2 c3 c4 c5 c6 c7 c8 c9 c10;obtain⟨c0,c1,c2,c3,c4,c5,c6,c7,c8,c9,c10⟩:=(B0.k k3).c11;rcases hA with⟨hc,h0,h1⟩|⟨hc,rfl⟩
 .obtain rfl:q=true:=hq.2 hc;clear hq;go_wp2_with fail;go_ret;exact⟨by simp[h1],HE.out⟩
 .obtain rfl:q=false:=by cases q;rfl;exact absurd (hq.1 rfl) hc
  clear hq;go_wp2_with fail;go_ret;exact⟨rfl,HE.out⟩):p:=h
theorem zzT3 (h:p:=by
 have hj:=(List.getElem?_eq_some_iff.1 he).1;have:xs=xs.take j++e::xs.drop (j+1):=by
  conv=>lhs;rw[<-List.take_append_drop j xs,List.drop_eq_getElem_cons hj]
  rw[show xs[j]=e from Option.some.inj ((List.getElem?_eq_getElem hj).symm.trans he)]
 rw[this,yD5,h];simp only[Option.bind_some,yB8,yWj];rw[iB hl];rfl):p:=h
theorem zzT4 (h:p:=by
 have zk:¬(k:Int)<(l.length:Int):=by omega
 obtain rfl:k=l.length:=by omega
 obtain⟨-,-,-,-,-,ds',h1,h2⟩:=HG.out;rw[HJ.1]at h1;cases h1
 have hdl:=(yTr HJ.1).X;obtain⟨e0,e1⟩:=HJ.2.z h2;have HB:=hidO (hb0.trans (hb.mono hb0.size));clear h2;go_wp2_with fail;go_ret;exact⟨rfl,HB.out⟩):p:=h
theorem zzT5 (h:p:=by
 go_wp2_with fail;go_roundw;case rel=>exact⟨k+1,by omega,by go_num,kb3⟩
 case measure=>simp[intOf];omega):p:=h
theorem zzT6(h:p:=by rintro e w3 ⟨s,rfl,hs,hD3,hC3⟩;have H3:Hid (yAo O cb bv n w3/\Chg (λk=>k=cb) w w3):=⟨hD3,(H1.2.alloc_new _).trans hC3⟩;clear hD3 hC3;go_wp2_with fail;go_ret;exact⟨s,rfl,by omega,H3.1,H3.2⟩):p:=h
theorem zzT7(h:p:=by rintro e w3 ⟨s,rfl,hs,hD3,hC3⟩;have H3:Hid (yAo O cb bv n w3/\Chg (λk=>k=cb) w w3):=⟨hD3,(H1.2.alloc_new _).trans hC3⟩;clear hD3 hC3;go_wp2_with fail;go_ret;exact⟨s,rfl,hs,H3.1,H3.2⟩):p:=h
theorem zzT8(h:p:=by go_upto_region 3 with fail;go_quiet (fail);go_wp2_with fail;go_ret;exact⟨x0,rfl,hx1.1,hx1.2,HD.1.k (below_drewN (Below.refl _ _) _),HD.2.trans (Chg.h (below_drewN (Below.refl _ _) _))⟩):p:=h
theorem zzT9 (h:p:=by
 intro k hk;match k,hk with
 |0,_|1,_|2,_=>exact⟨_,by simp;rfl,by decide⟩
 |3,_=>exact⟨_,by simp;rfl,by decide⟩):p:=h
theorem xJ1 (h:p:=by
 refine⟨h.1,?_⟩;rcases h.2 with hn|⟨g',cap',cur,hv,h1,rest⟩
 .exact .inl hn
 .exact .inr ⟨g',cap',cur,hv,Nat.le_trans hb h1,rest⟩):p:=h
theorem xJ0 (h:p:=by
 go_wp2_with fail;go_roundw;case rel=>exact⟨k+1,_,by omega,by go_num,rfl,e1.out,H3.out⟩
 case measure=>go_light;simp[intOf];omega):p:=h
theorem xJz (h:p:=by
 clear h0;go_wp2_with fail;go_roundw;case rel=>exact⟨m+1,_,by omega,by go_num,HN3,kb5⟩
 case measure=>simp[intOf];omega):p:=h
theorem xJy(h:p:=by rw[List.take_add_one,he,yD5,h];simp only[Option.toList,Option.bind_some,yB8,yWj];rw[iA (by omega)];rfl):p:=h
theorem xJx (h:p:=by
 intro j y hy;obtain rfl:j=0:=by have:=(List.getElem?_eq_some_iff.1 hy).1;simpa using this
 simp at hy;subst hy;simp):p:=h
theorem yVz{b off:Nat}{L:List Ent}(h:yBx w b off L)(hb:b<w.heap.size)(hx:L[j]?=some x):
  (∀n:Out w,(xk n.u b (off+j*6) x.j:Prop))/\(∀n:Out w,(xk n.u b (off+j*6+1) x.E:Prop))/\(∀n:Out w,(xk n.u b (off+j*6+2) x.C:Prop))/\
  (∀n:Out w,(xk n.u b (off+j*6+3) (xu x.ts):Prop))/\(∀n:Out w,(xk n.u b (off+j*6+4) (xi x.f):Prop))/\(∀n:Out w,(xk n.u b (off+j*6+5) x.val:Prop)):=
 ⟨λn=>(h.k n.out hb j x hx).1,λn=>(h.k n.out hb j x hx).2.1,λn=>(h.k n.out hb j x hx).2.2.1,λn=>(h.k n.out hb j x hx).2.2.2.1,λn=>(h.k n.out hb j x hx).2.2.2.2.1,λn=>(h.k n.out hb j x hx).2.2.2.2.2⟩
section
section
variable {F:Fence} {ops:Array Oper}
def YifI(P:Az)(ops:Array Oper)(S:Ww->Prop)(o:Oper)(v:Vv)(a:Act):Prop:=Ab P ops S o v a/\∀w,o.about P w a.eval=none
theorem YifI.same(hy:YifI P ops S o v a)(he:execOp a'.eval o=execOp a.eval o)(hw:AM o (yielded ops a'.tmps)=AM o (yielded ops a.tmps))(hb:∀w,o.about P w a'.eval=o.about P w a.eval):YifI P ops S o v a':=
 ⟨hy.1.of_same he hw,λw=>(hb w).trans (hy.2 w)⟩
theorem YifI.op{i:Nat}(hro:F.round=none)(hi:ops[i]?=some o)(hy:YifI P ops S o v a){K:Act->Ww->Prop}(hS:S w)(h:K (a.put o.dst v) w):wpOpIn F n P ops Q i K a w:=by
 unfold wpOpIn;simp only[hi];have a0:∀f,o.about P w a.eval=some f->F.fn f:=λf hf=>by rw[hy.2 w]at hf;cases hf
 rcases hy.1 with⟨hw,hv⟩|⟨hw,rfl⟩
 .simp only[hw,if_true,As,hro,Ai,hv w hS,AY];exact⟨a0,h⟩
 .simp only[hw,Bool.false_eq_true,if_false];exact⟨a0,h⟩
theorem yW1(hro:F.round=none)(hj:ops[j]?=some oj)(hap:oi.apart ops oj=true)
  (hsi:∀cs b,oi.op≠ .select cs b) (hsj:∀cs b,oj.op≠ .select cs b)
  (hQ:∀c a w,Q (.panic c) (a.put oi.dst v) w->Q (.panic c) a w) {K:Act->Ww->Prop} {a:Act} {w:Ww}
  (hy:YifI P ops S oi v a) (h:wpOpIn F n P ops Q j K (a.put oi.dst v) w):wpOpIn F n P ops Q j (λa' w'=>YifI P ops S oi v a'/\K (a'.put oi.dst v) w') a w:=by
 have⟨h1,h2,h3⟩:=Oper.apart_spec hap;have kp:∀(b:Act),YifI P ops S oi v b->∀u,YifI P ops S oi v (b.put oj.dst u):=λb hb u=>hb.same (execOp_put oi hsi b oj.dst u h3) (wanted_put oi b oj.dst u h3) (λw=>A0 oi w b oj.dst u h3);have fin:∀(u:Vv)(w':Ww),K ((a.put oi.dst v).put oj.dst u) w'->YifI P ops S oi v (a.put oj.dst u)/\K ((a.put oj.dst u).put oi.dst v) w':=λu w' hk=>⟨kp a hy u,by rw[<-Act.put_comm a v u h2];exact hk⟩;unfold wpOpIn at*;simp only[hj]at*;rw[wanted_put oj a oi.dst v h1,A0 oj w a oi.dst v h1]at h;by_cases hw:AM oj (yielded ops a.tmps)=true
 .rw[iB hw]at h|-;unfold As at*;rw[A0 oj w a oi.dst v h1,hro,Ai,execOp_put oj hsj a oi.dst v h1]at h;rw[hro,Ai];refine⟨h.1,?_⟩;have hh:=h.2;generalize (execOp a.eval oj).run P w=r at*;cases r with
  |ok x w'=>
   cases x with
   |value u=>exact fin u w' hh
   |skip=>exact fin undef w' hh
   |defer d=>
    simp only[AY]at hh|-;refine⟨kp {a with defers:=d::a.defers} (hy.same rfl rfl (λ_=>rfl)) undef,?_⟩;rw[<-Act.put_comm _ v undef h2,<-Act.put_defers];exact hh
   |enter f args=>
    simp only[AY]at hh|-;refine⟨hh.1,CallsIn.mono hh.2 λe w'' he=>?_⟩;cases e with
    |returned u=>exact fin u w'' he
    |panicked c=>exact hQ _ _ _ he
    |outgrown=>exact he
   |row row args=>
    simp only[AY]at hh|-;exact⟨hh.1,RowsIn.mono hh.2 λu w'' he=>fin u w'' he⟩
   |round l f tmps assign body=>
    simp only[AY]at hh|-;refine⟨hh.1,RoundIn.mono hh.2 λe w'' he=>?_⟩;cases e with
    |returned u=>exact fin u w'' he
    |panicked c=>exact hQ _ _ _ he
    |outgrown=>exact he
   |_=>exact hh
  |halt x w'=>
   cases x with
   |panic u=>exact hQ _ _ _ hh
   |_=>exact hh
 .rw[iA hw]at h|-;exact⟨h.1,fin undef w h.2⟩
def AnyI(F:Fence)(n:Nat)(P:Az)(md:AI)(ops:Array Oper)(Q:Exit->Act->Ww->Prop)(S:Ww->Prop)(X:List Nat):Nat->Array Bool->Act->Ww->Prop:=AnyG (wpOpIn F n P ops Q) md ops Q (λi=>i∈X) S
theorem yV7:∀(fuel:Nat)(listed:Array Bool)(a:Act)(w:Ww),AnyI F n P md ops Q S X fuel listed a w->wpAnyIn F n P md ops Q fuel listed a w
 |0,_,_,_,h=>h
 |fuel+1,_,_,_,h=>⟨h.1,λi hi=>wpOpIn_mono (λa' w' h'=>yV7 fuel _ a' w' h'.2) (h.2 i hi)⟩
theorem yFd{i:Nat}(hr:AA md ops listed= [i])(ho:ops[i]?=some o)
  (h:∀K':Act->Ww->Prop,Shut (∀a w,(i∈X\/S w)->AnyI F n P md ops Q S X fuel (listed.setIfInBounds i true) a w->K' a w)->if AM o (yielded ops a.tmps)=true then As F n P o a w K' Q else(∀f,o.about P w a.eval=some f->F.fn f)/\K' (a.put o.dst undef) w):
  AnyI F n P md ops Q S X (fuel+1) listed a w:=by
 refine⟨λh0=>(by rw[hr]at h0;cases h0),λj hj=>?_⟩;rw[hr]at hj;simp at hj;subst hj;exact wpOpIn_step ho (λK' hK=>h K' (λa w hS hW=>hK a w ⟨hS,hW⟩))
theorem yLu(hr:AA md ops listed= [])(h:Q .normal a w):AnyI F n P md ops Q S X fuel listed a w:=by exact xGq
theorem yEy(X:List Nat)(S:Ww->Prop)(hm:P.follows .mixedOrders=true)
  (h:AnyI F n P .any ops Q S X ops.size (AV ops.size false) a w.drew):(Code.region id ops true).wpIn F n P Q a w:=
 A9 hm (yV7 _ _ _ _ h)
end
theorem xMo(h:p:=by exact⟨(by exact jy),λ_=>rfl⟩):p:=h
section
variable {F:Fence} {ops:Array Oper} {q:Prop}
theorem tiT{i:Nat}(hro:F.round=none)(hx:TxX ops Q md X i v oi listed)(hy:YifI P ops S oi v a)(hS:S w)(h:AnyI F n P md ops Q S X fuel (listed.setIfInBounds i true) (a.put oi.dst v) w):AnyI F n P md ops Q S X (fuel+1) listed a w:=
 yNm (wo:=wpOpIn F n P ops Q) (Y:=YifI P ops S oi v) hx.1 wpOpIn_mono (λhy h k=>hy.op hro hx.1 h k) (λa1 ap hy h=>yW1 hro a1 ap (λcs b=>AR hx.2.1 i oi cs b hx.1) (λcs b=>AR hx.2.1 _ _ cs b a1) hx.2.2.2.2.2 hy h) (λ_ h=>.inr h) yYq fuel listed a w (yUn hx.2.2.2.2.1) (Aq hx.1 hx.2.2.1) (by simpa using hx.2.2.2.1) hy hS h
theorem yL4(i:Nat)(hro:F.round=none)(hS:S w)(k:q)(hx:TxX ops Q md X i v oi listed:=by exact txx)(hy:YifI P ops S oi v a:=by exact xMo)(h:q->AnyI F n P md ops Q S X fuel (listed.setIfInBounds i true) (a.put oi.dst v) w:=by exact jz):AnyI F n P md ops Q S X (fuel+1) listed a w:=tiT hro hx hy hS (h k)
end
end
def yDx(w:Ww)(O:Nat)(bv:Vv)(n:Nat):Prop:=
 n<=1048576/\((∃a cap,bv=.slice a 0 cap/\n=0)\/∃b off cap,bv=(xy b off n cap)/\b<O/\∀k,k<n->∃x:Int,xk w b (off+k) (.int .u8 x)/\0<=x/\x<256)
def OwnL(w:Ww)(O cb:Nat)(vs:List Vv):Prop:=w.ownsRow O 134 3 (xg cb 1 1) 1 vs
structure yAo(O cb:Nat)(bv:Vv)(n:Nat)(w:Ww):Prop where
 Z:∃(i:Nat)(h:Int),i<=n/\OwnL w O cb [bv,xi i,xi h]
 code:yDx w O bv n
 O:O<=w
theorem xGa(x:Int):0<=bits .and .i64 x 255/\bits .and .i64 x 255<256:=by
 have h:(Aa 64 x &&& Aa 64 255).toNat<=255:=by rw[BitVec.toNat_and];exact An Nat.and_le_right qj
 have e:bits .and .i64 x 255=IntKind.i64.wrap ((Aa 64 x &&& Aa 64 255).toNat:Int):=rfl;rw[e,IntKind.wrap_i64];omega
variable {T:Nat->Prop} {bv:Vv}
theorem yDx.i(h:yDx w O bv n)(hc:Chg T w w')(hb:O<=w)(hT:∀k,T k->O<=k):yDx w' O bv n:=by
 refine⟨h.1,?_⟩;rcases h.2 with h|⟨b,off,cap,hv,hlt,hx⟩
 .exact .inl h
 .refine .inr ⟨b,off,cap,hv,hlt,λk hk=>?_⟩;have⟨x,h1,h2⟩:=hx k hk;exact⟨x,by rw[hc.z (p:=(xd b (off+k))) (by show b<w;omega) (λq=>by have q1:O<=b:=hT _ q;omega)];exact h1,h2⟩
variable {cb:Nat}
theorem yAo.i(h:yAo O cb bv n w)(hc:Chg T w w')(hn:¬T cb)(hT:∀k,T k->O<=k):yAo O cb bv n w':=by have⟨i,hh,h1,h2⟩:=h.Z;exact⟨⟨i,hh,h1,yAh h2 hc (λk q=>by simp[AX]at q;subst q;exact hn)⟩,h.code.i hc h.O hT,qv hc.size h.O⟩
theorem yAo.k(h:yAo O cb bv n w)(hb:Below w w w'):yAo O cb bv n w':=
 h.i (T:=λ_=>False) (Chg.h hb) (λq=>q) (λk q=>q.elim)
theorem yAo.lt(h:yAo O cb bv n w):O<=cb/\cb<w:=by have⟨i,hh,h1,h2⟩:=h.Z;exact AK h2 cb rfl
theorem yAo.setH{i:Nat}(hi:i<=n)(h:OwnL w O cb [bv,xi i,xi hh])(hc:yDx w O bv n)(hb:O<=w)(h':Int):yAo O cb bv n (xt w cb 2 (xi h')):=by have hl:=AK h cb rfl;refine⟨⟨i,h',hi,(AQ h 2 _).1⟩,hc.i (Chg.D (S:=λk=>k=cb) w cb 2 _ rfl) hb (λk q=>qo),?_⟩;have:=(Chg.D (S:=λk=>k=cb) w cb 2 (xi h') rfl).size;omega
theorem yAo.setI{i:Nat}(hi:i+1<=n)(h:OwnL w O cb [bv,xi i,xi hh])(hc:yDx w O bv n)(hb:O<=w):yAo O cb bv n (xt w cb 1 (xi (i+1:Nat))):=by have hl:=AK h cb rfl;refine⟨⟨i+1,hh,hi,(AQ h 1 _).1⟩,hc.i (Chg.D (S:=λk=>k=cb) w cb 1 _ rfl) hb (λk q=>qo),?_⟩;have:=(Chg.D (S:=λk=>k=cb) w cb 1 (xi (i+1:Nat)) rfl).size;omega
theorem yHy(O cb:Nat)(bv:Vv)(n:Nat) w (h:yAo O cb bv n w):
  Calls prog 131 #[xp cb] w λe w'=>∃x:Int,e=.returned (xi x)/\0<=x/\x<256/\yAo O cb bv n w'/\Chg (λk=>k=cb) w w':=by
 have⟨i,hh,hin,hO⟩:=h.Z;have c0:=AB hO 0 qj;have c1:=AB hO 1 qj;have c2:=AB hO 2 qj;have f1:=AE hO 1;have f2:=AE hO 2;have⟨h1,hh1⟩:=qE (wrap64 (wrap64 (hh*6364136223846793005)+1442695040888963407));have⟨W1,hW1⟩:=qW (xt w cb 2 (xi h1));have hC1:Chg (λk=>k=cb) w W1:=hW1▸(Chg.D _ _ _ _ rfl)
 have HO1:Hid (OwnL W1 O cb [bv,xi i,xi h1]):=by show OwnL W1 _ _ _;rw[hW1];exact(AQ hO 2 _).1
 have hD1:yAo O cb bv n W1:=hW1▸(yAo.setH hin hO h.code h.O h1)
 have HD:=qH2 hD1 hC1;clear hD1 hC1;have hcode:=h.code;have hn:=hcode.1;clear h hO;go_enter func131,ntmps131;go_upto_region 2 with fail;rw[<-hh1,<-hW1];have d0:=AB HO1 0 qj;have d1:=AB HO1 1 qj;have d2:=AB HO1 2 qj;have e1:=AE HO1 1;clear hh1 hW1 c0 c1 c2 f1 f2;go_quiet (fail);have⟨x0,hx0⟩:=qE (bits BinOp.and IntKind.i64 (bits BinOp.xor IntKind.i64 (h1/8589934592) (h1/35184372088832)) 255);have hx1:0<=x0/\x0<256:=hx0▸(xGa _)
 rw[<-hx0];clear hx0;rcases HD.1.code.2 with⟨a,cap,rfl,rfl⟩|⟨b,off,cap,rfl,hlt,hx⟩
 .have z:¬(i:Int)<0:=qo
  exact zzT8
 .by_cases hi:i<n
  .have⟨x,hc,hxa,hxb⟩:=hx i hi;have z:(i:Int)<(n:Int):=qo
   go_upto_region 3 with fail;go_quiet (fail);go_upto_region 4 with fail;go_quiet (fail);have⟨x2,hx2⟩:=qE (bits BinOp.and IntKind.i64 (x0+x) 255);have hx3:0<=x2/\x2<256:=hx2▸(xGa _)
   rw[<-hx2];clear hx2;go_wp2;go_ret;refine⟨x2,rfl,hx3.1,hx3.2,?_,?_⟩
   .have hb:=λq=>below_drewN (Below.refl W1 W1) q;exact yAo.setI qo (yAh (S:=λ_=>False) HO1 (Chg.h (hb _)) (λk _ q=>q)) (HD.1.k (hb _)).code (HD.1.k (hb _)).O
   .exact(HD.2.trans (Chg.h (below_drewN (Below.refl _ _) _))).trans (Chg.D (S:=λk=>k=cb) _ _ _ _ rfl)
  .have z:¬(i:Int)<(n:Int):=qo
   exact zzT8
abbrev Drew(O cb:Nat)(bv:Vv)(n:Nat)(w w':Ww):Prop:=yAo O cb bv n w'/\Chg (λk=>k=cb) w w'
theorem yAs(O cb:Nat)(bv:Vv)(n:Nat)(m:Int) w (h:yAo O cb bv n w) (hm:1<=m) (hm2:m<=1048576):
  Calls prog 74 #[xp cb,xi m] w λe w'=>∃x:Int,e=.returned (xi x)/\0<=x/\x<m/\Drew O cb bv n w w':=by
 have HD:=qH1 h;clear h;by_cases hs:m<=256
 .go_enter func74,ntmps74;go_wp2_with fail;apply (yHy O cb bv n _ HD.out).mono;rintro e w1 ⟨x,rfl,hx0,hx1,hD1,hC1⟩;have H1:=qH2 hD1 hC1;clear hD1 hC1;go_wp2;go_ret;exact⟨x%m,rfl,Av _ qo,Ar _ qo,H1.1,H1.2⟩
 .go_enter func74,ntmps74;go_wp2_with fail;apply (yHy O cb bv n _ HD.out).mono;rintro e w1 ⟨x,rfl,hx0,hx1,hD1,hC1⟩;have H1:=qH2 hD1 hC1;clear hD1 hC1;go_wp2_with fail;apply (yHy O cb bv n _ H1.1).mono;rintro e w2 ⟨y,rfl,hy0,hy1,hD2,hC2⟩;have H2:=qH2 hD2 (H1.2.trans hC2);clear hD2 hC2;go_wp2_with fail;apply (yHy O cb bv n _ H2.1).mono;rintro e w3 ⟨z,rfl,hz0,hz1,hD3,hC3⟩;have H3:=qH2 hD3 (H2.2.trans hC3);clear hD3 hC3;go_wp2;go_ret;exact⟨(x*65536+y*256+z)%m,rfl,Av _ qo,Ar _ qo,H3.1,H3.2⟩
theorem yBh(O cb:Nat)(bv:Vv)(n:Nat)(m:Int) w (h:yAo O cb bv n w) (hm:1<=m) (hm2:m<=1048576):
  Calls prog 31 #[xp cb,xi m] w λe w'=>∃v:Vv,e=.returned v/\(v=.bool true\/v=false)/\Drew O cb bv n w w':=by
 have HD:=qH1 h;clear h;go_enter func31,ntmps31;go_wp2_with fail;apply (yAs O cb bv n m _ HD.out hm hm2).mono;rintro e w1 ⟨x,rfl,hx0,hx1,hD1,hC1⟩;have H1:=qH2 hD1 hC1;clear hD1 hC1;cases hx:(x==0)
 .go_wp2;go_ret;exact⟨_,rfl,.inr rfl,H1.1,H1.2⟩
 .go_wp2_with fail;go_ret;exact⟨_,rfl,.inl rfl,H1.1,H1.2⟩
theorem Chg.grown_new(h:Chg T w wr)(hg:wr.grownBy w' row)(hr:∀k,row=some k->w<=k):Chg T w w':=
 ⟨hg.os.trans h.os,hg.tape.trans h.tape,hg.output.trans h.output,An h.size hg.size,λk hk hn=>(hg.block k (AP hk h.size) (λq=>qw (hr k q.symm))).trans (h.block k hk hn)⟩
theorem Chg.alloc_new(h:Chg T w wr)(o:Obj):Chg T w (wr.alloc o):=h.trans (Chg.h (qB))
abbrev u8v(z:U8):Vv:=.int .u8 (z.toNat:Int)
def OwnB(w:Ww)(O g cap:Nat)(zs:List U8):Prop:=w.ownsRow O 5 1 (xg g zs.length cap) zs.length (zs.map u8v)
theorem Tryz.infoU8:(prog.info? 5).map (λi=>(i.zero,i.size,i.bytes))=some (some (.int .u8 0),1,1):=qk
theorem apB:ApT 22 5 1 (λl=>l.map u8v) OwnB (λw b off l=>AtV w b off (l.map u8v)):=⟨⟨underlying22,_,_,Tryz.infoU8,rfl,qj,qj⟩,λ_ _=>List.map_append,λ_=>by simp,Iff.rfl,id⟩
theorem yVg(w:Ww)(O:Nat)(hb:O<=w):OwnB (xw w #[] 5) O w 0 []:=World.ownsRow_made w #[] 0 hb (AJ _) (by simp)
theorem yV2{g cap:Nat}(h:OwnB w O g cap zs):(convert 22 9 (xg g zs.length cap)).run prog w=.ok (.string ⟨zs.toArray⟩) w:=by apply run_convert_bytes_back (P:=prog) w 22 9 5 (xd g 0) cap zs underlying22 underlying5 underlying9;intro i hi;have:=AB h i qo;rw[Addr.add_mid,Nat.zero_add,this,List.getElem?_map,Ap hi];rfl
theorem yBm(O cb:Nat)(bv:Vv)(n:Nat)(a b:Int) w (h:yAo O cb bv n w) (ha:0<=a) (hab:a<=b) (hb:b<=100):
  Calls prog 178 #[xp cb,xi a,xi b] w λe w'=>∃s:Ba,e=.returned s/\s.size<=100/\Drew O cb bv n w w':=by
 have HD:=qH1 h;have hbase:=h.O;have hcb:=h.lt;clear h;go_enter func178,ntmps178;go_wp2_with fail;apply (yAs O cb bv n (b-a+1) _ HD.out qo qo).mono;rintro e w1 ⟨x,rfl,hx0,hx1,hD1,hC1⟩;have s1:=hC1.size;have H1:=qH2 hD1 hC1;clear hD1 hC1;have⟨W2,hW2⟩:=qE (xw w1 #[] 5:Ww);have hb2:=qN hW2
 have HB2:Hid (OwnB W2 w w1 0 []/\yAo O cb bv n W2/\Chg (λk=>k=cb) w W2):=by refine⟨?_,H1.1.k hb2,H1.2.trans (Chg.h hb2)⟩;rw[hW2];exact yVg w1 w s1
 obtain⟨m,hm⟩:∃m:Nat,a+x=(m:Int):=⟨(a+x).toNat,qo⟩;have hm2:m<=100:=qo
 go_wp2_with fail;rw[<-hW2];clear hW2 hm hb2;go_loopw[8,9] (λo i wr=>∃(k g cp:Nat)(zs:List U8),k<=m/\i=(xi k)/\o=(xg g k cp)/\zs.length=k/\OwnB wr w g cp zs/\yAo O cb bv n wr/\Chg (λk=>k=cb) w wr) (λ_ i _=>m-(intOf i).toNat);case atStart=>exact⟨0,_,0,[],AJ _,rfl,rfl,rfl,HB2.1,HB2.2.1,HB2.2.2⟩
 case round=>
  obtain⟨k,g,cp,zs,hk,rfl,rfl,hzl,hO,hD,hC⟩:=hrel;have HI:=qH4 hzl hO hD hC;have hgl:=AK hO g rfl;clear hzl hO hD hC;by_cases hlt:k<m
  .have zk:(k:Int)<(m:Int):=qo
   go_wp2_with fail;apply (yAs O cb bv n 3 _ HI.2.2.1 qo qo).mono;rintro e w3 ⟨y,rfl,hy0,hy1,hD3,hC3⟩;have s3:=hC3.size;have HO3:=qH3 (yAh HI.2.1 hC3 (λk q=>by simp[AX]at q;subst q;omega)) hD3 (HI.2.2.2.trans hC3);clear hD3 hC3;obtain⟨z,hz⟩:∃z:U8,(97:Int)+y=(z.toNat:Int):=⟨UInt8.ofNat (97+y.toNat),by rw[UInt8.toNat_ofNat'];omega⟩;have HZ:=qH1 hz;have HKl:=qH1 HI.1.symm;have s4:=HO3.2.2.size;clear hz;go_wp2_with (at_builtin;refine wpA rfl (apK apB rfl w zs [z] rfl rfl HKl rfl ?hO (atV1 ?hc rfl) (lN ?hl) ?hb ?_));case hO=>exact yAh (S:=λ_=>False) HO3.1 (Chg.h (qB)) (λk _ q=>q)
   case hc=>unfold u8v;rw[<-HZ];simp
   case hl=>rw[<-HKl];omega
   case hb=>simp;omega
   intro g' cp' w' hO' hgr _;have HN:Hid ((zs++ [z]).length=k+1/\OwnB w' w g' cp' (zs++ [z])/\yAo O cb bv n w'/\Chg (λk=>k=cb) w w'):=by
    refine⟨by simp[HI.1],hO',?_,?_⟩
    .have hd:=HO3.2.1.k ((Below.refl w3 w3).alloc qr (Obj.cells #[.int .u8 (97+y)] 5));exact hd.i (Chg.M (S:=λk=>k=g) hgr (λk hk=>by cases hk;rfl)) qo (λk q=>qo)
    .exact Chg.grown_new (HO3.2.2.alloc_new _) hgr (λk hk=>by cases hk;omega)
   clear hO' hgr;go_wp2_with fail;go_roundw;case rel=>exact⟨k+1,g',cp',zs++ [z],qo,by go_num,rfl,HN.1,HN.2.1,HN.2.2.1,HN.2.2.2⟩
   case measure=>go_light;simp[intOf];omega
  .have zk:¬(k:Int)<(m:Int):=qo
   have hcv:=yV2 HI.2.1;rw[HI.1]at hcv;have HS:Hid ((⟨zs.toArray⟩:Ba).size<=100):=by show(⟨zs.toArray⟩:Ba).size<=100;have:=HI.1;simp[ByteArray.size];omega
   go_wp2_with fail;go_ret;exact⟨_,rfl,HS,HI.2.2.1,HI.2.2.2⟩
theorem xEs(c:U8)(w:Ww):∃cx w',(convert 9 22 (.string ⟨#[c]⟩)).run prog w=.ok (xg w 1 cx) w'/\Below w w w'/\xk w' w 0 (.int .u8 (c.toNat:Int)):=by
 refine⟨_,_,run_bytes_of_string (P:=prog) w 9 22 5 ⟨#[c]⟩ underlying9 underlying22 underlying5,((Below.refl _ _).drew).alloc qr _,?_⟩;have hb:∀O:Obj,(w.drew.alloc O).heap[w.heap.size]?=some O:=λO=>by show(w.heap.push O)[w.heap.size]?=_;simp
 unfold World.cell?;rw[hb];simp[bytesRow];rw[Array.getElem?_append_left (by simp)];rfl
theorem yK2(c:U8)(m:Nat)(w:Ww)(hm:m<=1000):
  Calls prog 133 #[.string ⟨#[c]⟩,xi m] w λe w'=>∃s:Ba,e=.returned s/\s.size<=1000/\Below w w w':=by
 obtain⟨W2,hW2⟩:=qW (xw w #[] 5);have hb2:=qN hW2
 have HB2:Hid (OwnB W2 w w 0 []):=by show OwnB W2 _ _ _ _;rw[hW2];exact yVg w w qr
 go_enter func133,ntmps133;go_wp2_with fail;rw[<-hW2];clear hW2;go_loopw[5,6] (λo i wr=>∃(k g cp:Nat)(zs:List U8),k<=m/\i=(xi k)/\o=(xg g k cp)/\zs.length=k/\OwnB wr w g cp zs/\Below w w wr) (λ_ i _=>m-(intOf i).toNat);case atStart=>exact⟨0,_,0,[],AJ _,rfl,rfl,rfl,HB2.out,hb2⟩
 case round=>
  obtain⟨k,g,cp,zs,hk,rfl,rfl,hzl,hO,hb⟩:=hrel;have HI:=qH2 hzl hO;have hgl:=AK hO g rfl;have hs:=hb.size;clear hzl hO;by_cases hlt:k<m
  .have zk:(k:Int)<(m:Int):=qo
   have HKl:=qH1 HI.1.symm;obtain⟨cx,W3,hrun,hb3,hc3⟩:=xEs c wr;have hs3:=hb3.size;go_wp2_with (at_builtin;refine wpA rfl (apK apB rfl w zs [c] rfl rfl HKl.out rfl ?hO (atV1 ?hc rfl) (lN ?hl) ?hb ?_));case hO=>exact yAh (S:=λ_=>False) HI.2 (Chg.h hb3) (λk _ q=>q)
   case hc=>exact hc3
   case hl=>rw[<-HKl.out];omega
   case hb=>omega
   intro g' cp' w' hO' hgr _;have HN:=qH2 (by simp[HI.1]:(zs++ [c]).length=k+1) hO';have hb':=(hb.trans (hb3.mono hs)).grown hgr qo (λj hj=>by cases hj;omega);clear hO' hgr hrun;go_wp2;go_roundw;case rel=>exact⟨k+1,g',cp',zs++ [c],qo,by go_num,rfl,HN.1,HN.2,hb'⟩
   case measure=>go_light;simp[intOf];omega
  .have zk:¬(k:Int)<(m:Int):=qo
   have hcv:=yV2 HI.2;rw[HI.1]at hcv;have HS:Hid ((⟨zs.toArray⟩:Ba).size<=1000):=by show(⟨zs.toArray⟩:Ba).size<=1000;have:=HI.1;simp[ByteArray.size];omega
   go_wp2;go_ret;exact⟨_,rfl,HS.out,hb⟩
theorem yDr(O cb:Nat)(bv:Vv)(n blk nw:Nat)(w:Ww)(h:yAo O cb bv n w)(h1:1<=nw)(h2:nw<=100)(hne:¬blk=cb)(hlt:blk<w.heap.size)(hw:∀k,k<nw->∃s:Ba,xk w blk k s/\s.size<=1000):
  Calls prog 177 #[xp cb,xg blk nw nw] w λe w'=>∃s:Ba,e=.returned s/\s.size<=1000/\Drew O cb bv n w w':=by
 have HD:Hid (yAo O cb bv n w/\∀k,k<nw->∃s:Ba,xk w blk k s/\s.size<=1000):=⟨h,hw⟩;clear h hw;go_enter func177,ntmps177;go_wp2_with fail;refine(yAs O cb bv n (nw:Int) _ HD.1 qo qo).mono ?_;rintro e w1 ⟨x,rfl,hx0,hx1,hD1,hC1⟩;obtain⟨k,rfl⟩:=Al hx0;obtain⟨s,hs,hsz⟩:=HD.2 k qo;have c1:(xk w1 blk k s:Prop):=by rw[hC1.z (p:=(xd blk k)) hlt hne];exact hs
 have H1:=qH2 hD1 hC1;clear hD1 hC1 hs;go_wp2;go_ret;exact⟨s,rfl,hsz,H1.1,H1.2⟩
theorem xDe(O cb:Nat)(bv:Vv)(n:Nat) w (h:yAo O cb bv n w):
  Calls prog 179 #[xp cb] w λe w'=>∃s:Ba,e=.returned s/\s.size<=1000/\Drew O cb bv n w w':=by
 have HD:=qH1 h;clear h;go_enter func179,ntmps179;go_wp2_with fail;refine(yBh O cb bv n 40 _ HD.out qo qo).mono ?_;rintro e w1 ⟨v,rfl,hv,hD1,hC1⟩;have H1:=qH2 hD1 hC1;clear hD1 hC1;rcases hv with rfl|rfl
 .go_wp2_with fail;refine(yK2 97 64 _ qo).mono ?_;rintro e w2 ⟨s,rfl,hs,hb2⟩;have H2:=qH2 (H1.1.k hb2) (H1.2.trans (Chg.h hb2));go_wp2_with fail;go_ret;exact⟨s,rfl,hs,H2.1,H2.2⟩
 .go_wp2_with fail;refine(yBh O cb bv n 25 _ H1.1 qo qo).mono ?_;rintro e w2 ⟨v,rfl,hv,hD2,hC2⟩;have H2:=qH2 hD2 (H1.2.trans hC2);clear hD2 hC2;have hcl:=H2.1.lt.2;rcases hv with rfl|rfl
  .go_wp2_with fail;refine(yDr O cb bv n _ 6 _ (H2.1.k (qB)) qo qo qo (by simp) ?_).mono ?_
   .exact zzT0
   .rintro e w3 ⟨s,rfl,hs,hD3,hC3⟩;have H3:=qH2 hD3 ((H2.2.alloc_new _).trans hC3);clear hD3 hC3;go_wp2_with fail;go_ret;exact⟨s,rfl,hs,H3.1,H3.2⟩
  .go_wp2_with fail;refine(yBm O cb bv n 1 2 _ H2.1 qo qo qo).mono ?_;rintro e w3 ⟨s,rfl,hs,hD3,hC3⟩;have H3:=qH2 hD3 (H2.2.trans hC3);clear hD3 hC3;go_wp2_with fail;go_ret;exact⟨s,rfl,qo,H3.1,H3.2⟩
theorem xEn(O cb:Nat)(bv:Vv)(n:Nat) w (h:yAo O cb bv n w):
  Calls prog 180 #[xp cb] w λe w'=>∃s:Ba,e=.returned s/\s.size<=1000/\Drew O cb bv n w w':=by
 have HD:=qH1 h;clear h;go_enter func180,ntmps180;go_wp2_with fail;refine(yBh O cb bv n 3 _ HD.out qo qo).mono ?_;rintro e w1 ⟨v,rfl,hv,hD1,hC1⟩;have H1:=qH2 hD1 hC1;clear hD1 hC1;have hcl:=H1.1.lt.2;rcases hv with rfl|rfl
 .go_wp2;go_ret;exact⟨_,rfl,qj,H1.1,H1.2⟩
 .go_wp2_with fail;refine(yDr O cb bv n _ 6 _ (H1.1.k (qB)) qo qo qo (by simp) ?_).mono ?_
  .exact zzT0
  .exact zzT7
theorem yZh(O cb:Nat)(bv:Vv)(n:Nat) w (h:yAo O cb bv n w):
  Calls prog 181 #[xp cb] w λe w'=>∃s:Ba,e=.returned s/\s.size<=1000/\Drew O cb bv n w w':=by
 have HD:=qH1 h;clear h;go_enter func181,ntmps181;go_wp2_with fail;refine(yBh O cb bv n 12 _ HD.out qo qo).mono ?_;rintro e w1 ⟨v,rfl,hv,hD1,hC1⟩;have H1:=qH2 hD1 hC1;clear hD1 hC1;have hcl:=H1.1.lt.2;rcases hv with rfl|rfl
 .go_wp2_with fail;refine(yDr O cb bv n _ 4 _ (H1.1.k (qB)) qo qo qo (by simp) ?_).mono ?_
  .exact zzT9
  .exact zzT7
 .go_wp2_with fail;refine(yBm O cb bv n 1 2 _ H1.1 qo qo qo).mono ?_;exact zzT1
theorem xG3(O cb:Nat)(bv:Vv)(n:Nat) w (h:yAo O cb bv n w):
  Calls prog 182 #[xp cb] w λe w'=>∃t:Int,e=.returned (xu t)/\(0<=t/\t<=18446744073709551615)/\Drew O cb bv n w w':=by
 have HD:=qH1 h;clear h;go_enter func182,ntmps182;go_wp2_with fail;refine(yBh O cb bv n 30 _ HD.out qo qo).mono ?_;rintro e w1 ⟨v,rfl,hv,hD1,hC1⟩;have H1:=qH2 hD1 hC1;clear hD1 hC1;rcases hv with rfl|rfl
 .go_wp2;go_ret;exact⟨_,rfl,⟨qo,qo⟩,H1.1,H1.2⟩
 .go_wp2_with fail;refine(yAs O cb bv n 6 _ H1.1 qo qo).mono ?_;rintro e w2 ⟨x,rfl,hx0,hx1,hD2,hC2⟩;have H2:=qH2 hD2 (H1.2.trans hC2);clear hD2 hC2;go_wp2_with fail;go_ret;exact⟨x,rfl,⟨qo,qo⟩,H2.1,H2.2⟩
theorem xD2(bv:Vv)(n:Nat)(w:Ww)(h:yDx w w bv n):
  Calls prog 29 #[bv] w λe w'=>e=.returned (xp w)/\yAo w w bv n w'/\Below w w w':=by
 have HC:Hid (yDx w w bv n):=h;have hn:=h.1;have fin:∀x:Int,yAo w w bv n (xw w #[bv,xi 0,xi x] 134)/\Below w w (xw w #[bv,xi 0,xi x] 134):=λx=>by have hb:Below w w (xw w #[bv,xi 0,xi x] 134):=qB;refine⟨⟨⟨0,x,AJ _,?_⟩,HC.i (T:=λ_=>False) (Chg.h hb) qr (λk q=>q.elim),hb.size⟩,hb⟩;exact World.ownsRow_lit (base:=w.heap.size) (e:=134) (size:=3) w #[bv,xi 0,xi x] 1 qr qj rfl
 have HF:=qH1 fin;clear fin;rcases h.2 with⟨a,cap,rfl,rfl⟩|⟨b,off,cap,rfl,hlt,hx⟩
 .go_enter func29,ntmps29;go_wp2;go_loopw[3,4] (λh i wr=>(∃x:Int,h=(xi x))/\i=(xi 0)/\wr=w) (λ_ _ _=>0);case atStart=>exact⟨⟨_,rfl⟩,rfl,rfl⟩
  case round=>obtain⟨⟨x,rfl⟩,rfl,rfl⟩:=hrel;go_wp2;go_ret;exact⟨rfl,(HF.out x).1,(HF.out x).2⟩
 .have HX:=qH1 hx;clear hx h;go_enter func29,ntmps29;go_wp2;go_loopw[3,4] (λh i wr=>∃(k:Nat)(x:Int),k<=n/\h=(xi x)/\i=(xi k)/\wr=w) (λ_ i _=>n-(intOf i).toNat);case atStart=>exact⟨0,_,AJ _,rfl,rfl,rfl⟩
  case round=>
   obtain⟨k,x,hk,rfl,rfl,rfl⟩:=hrel;by_cases hkn:k<n
   .obtain⟨y,hc,hy0,hy1⟩:=HX.out k hkn;have zk:(k:Int)<(n:Int):=qo
    go_wp2;go_roundw;case rel=>exact⟨k+1,_,qo,rfl,by go_num,trivial⟩
    case measure=>go_light;simp[intOf];omega
   .have zk:¬(k:Int)<(n:Int):=qo
    go_wp2;go_ret;exact⟨rfl,(HF.out x).1,(HF.out x).2⟩
def TxtP(O cb:Nat)(bv:Vv)(n m:Nat)(w:Ww)(e:Ax)(w':Ww):Prop:=∃s:Ba,e=.returned s/\s.size<=m/\Drew O cb bv n w w'
def xCi(O cb:Nat)(bv:Vv)(n d m:Nat):Prop:=∀w,yAo O cb bv n w->Calls prog 211 #[xp cb,xi d] w (TxtP O cb bv n m w)
def xGd(O cb:Nat)(bv:Vv)(n d m:Nat):Prop:=∀w,yAo O cb bv n w->Calls prog 226 #[xp cb,xi d] w (TxtP O cb bv n m w)
theorem yD1(a b:Ba):(a++b).size=a.size+b.size:=ByteArray.size_append
theorem yOd(O cb:Nat)(bv:Vv)(n d m:Nat)(hm:m<=100000)(hd:d<=5)(HT0:0<d->xCi O cb bv n (d-1) m):xGd O cb bv n d (m+1002):=by
 intro w h;have HT:=qH1 HT0;have HD:=qH1 h;have hcl0:=h.lt.2;clear h HT0;go_enter func226,ntmps226;go_wp2_with fail;refine(yAs O cb bv n 14 _ HD.out qo qo).mono ?_;rintro e w1 ⟨x,rfl,hx0,hx1,hD1,hC1⟩;have H1:=qH2 hD1 hC1;have hcl:=hD1.lt.2;clear hD1 hC1;by_cases hk:x<6\/d=0
 .have hq:=qH1 hk;by_cases h6:x<6
  .exact xJf
  .obtain rfl:d=0:=qo
   exact xJf
 have h6:¬x<6:=λq=>hk (.inl q);have hd0:=Nat.pos_of_ne_zero λq=>hk (.inr q);have hdz:((d:Int)==0)=false:=by rw[iC];omega
 clear hk;by_cases h7:x=6
 .subst h7;go_wp2_with fail;go_ret;exact⟨_,rfl,by show 1<=_;omega,H1.1,H1.2⟩
 have b6:(x==6)=false:=by rw[iC];exact h7
 by_cases h8:x=7
 .subst h8;go_wp2_with fail;refine(yDr O cb bv n _ 6 _ ((H1.1).k (qB)) qo qo qo (by simp) ?_).mono ?_
  .exact zzT0
  .exact zzT6
 have b7:(x==7)=false:=by rw[iC];exact h8
 by_cases h9:x=8
 .subst h9;go_wp2_with fail;refine(yDr O cb bv n _ 4 _ ((H1.1).k (qB)) qo qo qo (by simp) ?_).mono ?_
  .exact zzT9
  .exact zzT6
 have b8:(x==8)=false:=by rw[iC];exact h9
 have ed:Hid (((d:Int)-1)=((d-1:Nat):Int)):=by show(d:Int)-1=_;omega
 go_wp2_with fail;rw[ed.out];refine(HT.out hd0 w1 H1.1).mono ?_;rintro e w3 ⟨s,rfl,hs,hD3,hC3⟩;have H3:=qH2 hD3 (H1.2.trans hC3);clear hD3 hC3;go_wp2_with fail;go_ret;exact⟨_,rfl,by simp only[yD1];show 1+s.size+1<=_;omega,H3.1,H3.2⟩
theorem yOb(O cb:Nat)(bv:Vv)(n d m:Nat)(hm:m<=100000)(hd:d<=5)(HP0:xGd O cb bv n d m):xCi O cb bv n d (3*m+10):=by
 intro w h;have HP:=qH1 HP0;have HD:=qH1 h;clear h HP0;go_enter func211,ntmps211;go_wp2_with fail;refine(yAs O cb bv n 4 _ HD.out qo qo).mono ?_;rintro e w1 ⟨y,rfl,hy0,hy1,hD1,hC1⟩;have H1:=qH2 hD1 hC1;clear hD1 hC1;obtain⟨q,rfl⟩:=Al hy0;go_wp2_with fail;go_loopw[5,7] (λo i wr=>∃(k:Nat)(s:Ba),k<=q/\i=(xi k)/\o=s/\Hid (s.size<=k*(m+2))/\Hid (yAo O cb bv n wr/\Chg (λk=>k=cb) w wr)) (λ_ i _=>q-(intOf i).toNat);case atStart=>exact⟨0,_,AJ _,rfl,rfl,Nat.le_of_eq (by simp[ByteArray.size]),H1.out⟩
 case round=>
  obtain⟨k,s,hk,rfl,rfl,HS,HI⟩:=hrel;have hsz:s.size<=400000:=by have a1:=HS.out;have a2:k*(m+2)<=3*(m+2):=Ao _ qo;omega
  by_cases hlt:k<q
  .have zk:(k:Int)<(q:Int):=qo
   go_wp2_with fail;refine(HP.out _ HI.1).mono ?_;rintro e w2 ⟨t,rfl,ht,hD2,hC2⟩;have H2:=qH2 hD2 (HI.2.trans hC2);have HTZ:=qH1 ht;have htz:t.size<=100000:=qo
   have hst:(s++t).size<=500000:=by rw[yD1];omega
   clear hD2 hC2 ht;go_wp2_with fail;refine(yAs O cb bv n 9 _ H2.1 qo qo).mono ?_;rintro e w3 ⟨x,rfl,hx0,hx1,hD3,hC3⟩;have H3:=qH2 hD3 (H2.2.trans hC3);clear hD3 hC3;have e1:Hid ((s++t).size<=(k+1)*(m+2)):=by show _<=_;have a1:=HS.out;have a2:=HTZ.out;rw[yD1,BA];omega
   have e2:Hid (∀c:U8,(s++t++(⟨#[c]⟩:Ba)).size<=(k+1)*(m+2)):=by intro c;have a1:=HS.out;have a2:=HTZ.out;rw[yD1,yD1,BA];show s.size+t.size+1<=_;omega
   by_cases h0:x=0
   .subst h0;go_wp2_with fail;go_roundw;case rel=>exact⟨k+1,_,qo,by go_num,rfl,e2.out 42,H3.out⟩
    case measure=>go_light;simp[intOf];omega
   have b0:(x==0)=false:=by rw[iC];exact h0
   by_cases h1:x=1
   .subst h1;go_wp2_with fail;go_roundw;case rel=>exact⟨k+1,_,qo,by go_num,rfl,e2.out 43,H3.out⟩
    case measure=>go_light;simp[intOf];omega
   have b1:(x==1)=false:=by rw[iC];exact h1
   by_cases h2:x=2
   .subst h2;go_wp2_with fail;go_roundw;case rel=>exact⟨k+1,_,qo,by go_num,rfl,e2.out 63,H3.out⟩
    case measure=>go_light;simp[intOf];omega
   have b2:(x==2)=false:=by rw[iC];exact h2
   by_cases h3:x=3
   .subst h3;by_cases hn:k+1<q
    .have hn2:((k:Int)+1<(q:Int)):=qo
     go_wp2_with fail;go_roundw;case rel=>exact⟨k+1,_,qo,by go_num,rfl,e2.out 124,H3.out⟩
     case measure=>go_light;simp[intOf];omega
    .have hn2:¬((k:Int)+1<(q:Int)):=qo
     exact xJ0
   have b3:(x==3)=false:=by rw[iC];exact h3
   exact xJ0
  .have zk:¬(k:Int)<(q:Int):=qo
   have HS2:Hid (s.size<=3*m+6):=by show _<=_;have a1:=HS.out;have a2:k*(m+2)<=3*(m+2):=Ao _ qo;omega
   go_wp2_with fail;refine(yBh O cb bv n 14 _ HI.1 qo qo).mono ?_;rintro e w2 ⟨v,rfl,hv,hD2,hC2⟩;have H2:=qH2 hD2 (HI.2.trans hC2);clear hD2 hC2;rcases hv with rfl|rfl
   .go_wp2_with fail;go_ret;exact⟨_,rfl,by rw[yD1];have:=HS2.out;show s.size+1<=_;omega,H2.out⟩
   .go_wp2_with fail;go_ret;exact⟨_,rfl,by have:=HS2.out;omega,H2.out⟩
theorem yWx(O cb:Nat)(bv:Vv)(n:Nat):xCi O cb bv n 0 3016:=yOb O cb bv n 0 1002 qo qo (yOd O cb bv n 0 0 qo qo (λq=>absurd q qo))
theorem yZk(O cb:Nat)(bv:Vv)(n:Nat):xCi O cb bv n 1 12064:=yOb O cb bv n 1 4018 qo qo (yOd O cb bv n 1 3016 qo qo (λ_=>yWx O cb bv n))
theorem yZj(O cb:Nat)(bv:Vv)(n:Nat):xCi O cb bv n 2 39208:=yOb O cb bv n 2 13066 qo qo (yOd O cb bv n 2 12064 qo qo (λ_=>yZk O cb bv n))
theorem yDx.slice(h:yDx w O bv n):∃a cap,bv=.slice a n cap:=by
 exact xJi
theorem yDx.up(h:yDx w w bv n)(hb:Below w w w'):yDx w' w' bv n:=by
 refine⟨h.1,?_⟩;rcases h.2 with h|⟨b,off,cap,rfl,hlt,hc⟩
 .exact .inl h
 .refine .inr ⟨b,off,cap,rfl,qw hb.size,λk hk=>?_⟩;obtain⟨x,h1,h2⟩:=hc k hk;exact⟨x,by rw[hb.cell (p:=(xd b (off+k))) hlt];exact h1,h2⟩
def yG7(w:Ww)(v:Vv)(n:Nat):Prop:=
 n<=maxLen/\((∃a cap,v=.slice a 0 cap/\n=0)\/∃b off cap,v=(xy b off n cap)/\b<w.heap.size/\∀k,k<n->∃x:Int,xk w b (off+k) (.int .u8 x)/\0<=x/\x<256)
theorem yG7.slice(h:yG7 w v n):∃a cap,v=.slice a n cap:=by
 exact xJi
theorem yG7.code(h:yG7 w v n)(hn:n<=1048576):yDx w w v n:=⟨hn,h.2⟩
theorem yPl{H:Type}{enc:TypeId×Vv->H}{x:DataW H×List MemPlace}
  (h:DataW.trod enc prog w 0 (λ_=>true) true fuel 22 [v]=some x) (hlt:∀p∈x.2,p.block<w.heap.size):∃n,yG7 w v n:=by
 have hc:prog.cellsOf 5=1:=qk
 rcases open_ints underlying22 underlying5 hc h with⟨hcs,hx⟩|⟨a,len,cap,zs,hcs,_,hl,hm,hz,hx,hcell,hwz⟩
 .simp only[AC,and_true]at hcs;exact⟨0,AJ _,.inl ⟨none,0,hcs,rfl⟩⟩
 .simp only[AC,and_true]at hcs;simp only[if_true]at hz;refine⟨len,An hl hm,?_⟩;by_cases h0:len=0
  .subst h0;exact .inl ⟨some a,cap,hcs,rfl⟩
  .obtain⟨ab,ao,spot⟩:=a;have hspot:spot=none:=by simpa [Addr.add]using World.cell?_spot (hcell 0 qo)
   subst hspot;refine .inr ⟨ab,ao,cap,hcs,?_,λk hk=>?_⟩
   .rw[hx]at hlt;exact hlt (.cell ab (ao+0)) (by simp only[MemPlace.row,List.mem_map,List.mem_range];exact⟨0,qo,rfl⟩)
   .have h1:=hcell k qo;rw[Addr.add_lit]at h1;have hb:=range_u8 hwz k;rw[List.getD_eq_getElem?_getD]at h1;exact⟨_,h1,hb.1,qo⟩
end Go.Proofs.YtnnagkfoiganfaaGreatDoor
