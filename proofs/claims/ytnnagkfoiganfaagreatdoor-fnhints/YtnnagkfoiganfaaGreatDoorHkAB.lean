import Derived.Test.YtnnagkfoiganfaaGreatDoorHkAA
import Derived.Deep.CutBlock
namespace Go.Proofs.YtnnagkfoiganfaaGreatDoor
open Go.ChangeShapes Go.WideShapes Go.ChangeAt Go.RowKit Go.Deep XD XI XU XG XP XK XW XT XF XE XH _root_.List _root_.Nat XY Go.Proofs.Tryz
open _root_.Array renaming replicate->AQ
open _root_.Bool renaming and_eq_true->AL
open _root_.Go renaming mem_ready->AP,YieldsIf->AU,getD_set_ne->Aj,ready_mono->Al,Program->Ao,about_put->Aq,wpIn_region_any->As,wp_region_any->Aw
open _root_.Go.Oper renaming uponIn->AS,semAt_none->Ac,wp->Af,wpIn->Ai
open _root_.Go.Region renaming ready->AA,Mode->AF,wanted->AH,noSelect->AJ,noSelect_spec->AK,free->AM,binds->AT,free_spec->Ah
open _root_.Go.World.ownsRow renaming cellAt->AO,lt->AR
open _root_.List renaming append_assoc->AB,length_append->AC,cons_append->AE,length->AG,length_singleton->AI,length_cons->AV,all_eq_true->AW,getElem?_take->AY,getElem?_drop->AZ,nil_append->Aa,append_cancel_left->Ab,mem_cons->Ad,take_append_drop->Ae,drop_eq_getElem_cons->Ak,all_append->An,mem_of_getElem?->Au,length_flatten->Av,getElem?_map->Ax,flatten_cons->Ay
open _root_.List.cons renaming injEq->AD
open _root_.Nat renaming zero_le->AX,le_refl->Ag,add_assoc->Ap,le_of_lt->Ar
open _root_.Option.some renaming inj->AN
set_option linter.unusedVariables false
set_option linter.unusedSimpArgs false
set_option maxRecDepth 100000
set_option maxHeartbeats 64000000
variable {oj o oi:Oper} {listed:Array Bool} {Y:Act->Prop} {wo:Nat->(Act->Ww->Prop)->Act->Ww->Prop} {q s:Prop} {W wr w:Ww} {S:Ww->Prop} {Q:Exit->Act->Ww->Prop} {P:Program} {md:Region.Mode} {ys zs r:List U8} {c:U8} {ts:List Pat} {B A:List U8->Pat->Prop} {g off id L j fuel n m:Nat} {t' t:Pat} {a' a:Act} {F:Fence}
section
section
variable {ops:Array Oper}
def AnyG(wo:Nat->(Act->Ww->Prop)->Act->Ww->Prop)(md:AF)(ops:Array Oper)(Q:Exit->Act->Ww->Prop)(W:Nat->Prop)(S:Ww->Prop):Nat->Array Bool->Act->Ww->Prop
 |0,listed,a,w=>AA md ops listed= []/\Q .normal a w
 |fuel+1,listed,a,w=>(AA md ops listed= []->Q .normal a w)/\∀i∈AA md ops listed,wo i (λa' w'=>(W i\/S w')/\AnyG wo md ops Q W S fuel (listed.setIfInBounds i true) a' w') a w
def AnyT(P:Ao)(md:AF)(ops:Array Oper)(Q:Exit->Act->Ww->Prop)(S:Ww->Prop)(L:Nat):Nat->Array Bool->Act->Ww->Prop:=AnyG (wpOp P ops Q) md ops Q (λi=>i=L) S
theorem yI6{W:Nat->Prop}:∀(fuel:Nat)(listed:Array Bool)(a:Act)(w:Ww),AnyG (wpOp P ops Q) md ops Q W S fuel listed a w->wpAny P md ops Q fuel listed a w
 |0,_,_,_,h=>h
 |fuel+1,_,_,_,h=>⟨h.1,λi hi=>wpOp_mono (λa' w' h'=>yI6 fuel _ a' w' h'.2) (h.2 i hi)⟩
def yG(md:AF)(ops:Array Oper)(L i:Nat):Bool:=((ops[L]?).map (λo=>o.after.any λe=>AT md e && e.on==i)).getD false
theorem yV9{i:Nat}(ho:ops[L]?=some o)(h:yG md ops L i=true):∃e∈o.after,AT md e=true/\e.on=i:=by unfold yG at h;rw[ho]at h;simp only[Option.map_some,Option.getD_some,Array.any_eq_true]at h;have⟨k,hk,hb⟩:=h;rw[AL,beq_iff_eq]at hb;exact⟨_,Array.getElem_mem hk,hb.1,hb.2⟩
theorem ySm{k:Nat}(hj:j∈AA md ops listed)(h0:listed.getD k true=false)(a1:ops[j]?=some oj):∀e∈oj.after,AT md e=true->e.on≠k:=λe he hb heq=>by
 obtain⟨_,o,a2,aa⟩:=AP.1 hj;cases a1.symm.trans a2;have h1:=aa e he hb;rw[heq]at h1;rcases Nat.lt_or_ge k listed.size with h'|h'
 .simp[h']at h0 h1;rw[h0]at h1;cases h1
 .simp[Array.getElem?_eq_none h']at h1
theorem yFe{p:Nat}(h:yG md ops j p=true)(hun:listed.getD p true=false):¬j∈AA md ops listed:=λhj=>by obtain⟨_,oj,a1,_⟩:=AP.1 hj;obtain⟨e,he,hb,a2⟩:=yV9 a1 h;exact ySm hj hun a1 e he hb a2
section
variable {W:Nat->Prop} {I:Array Bool->Prop} {T:Ww->Prop} {i:Nat} {v:Vv}
theorem yL6(hi:ops[i]?=some oi)(hm:∀{j:Nat}{K K':Act->Ww->Prop}{a:Act}{w:Ww},(∀a w,K a w->K' a w)->wo j K a w->wo j K' a w)
  (h1:∀{K:Act->Ww->Prop}{a:Act}{w:Ww},Y a->T w->K (a.put oi.dst v) w->wo i K a w)
  (h2:∀{j:Nat}{oj:Oper}{K:Act->Ww->Prop}{a:Act}{w:Ww},ops[j]?=some oj->oi.apart ops oj=true->Y a->wo j K (a.put oi.dst v) w->wo j (λa' w'=>Y a'/\K (a'.put oi.dst v) w') a w)
  (hT:∀w,T w->W i\/S w) (hI:∀listed,I listed->i∈AA md ops listed->∀j∈AA md ops listed,j≠i->(∀w,W j\/S w->T w)/\I (listed.setIfInBounds j true)):
  ∀(fuel:Nat)(listed:Array Bool)(a:Act)(w:Ww),I listed->(∀j oj,ops[j]?=some oj->j≠i->listed.getD j true=false->(∀e∈oj.after,AT md e=true->e.on≠i)->oi.apart ops oj=true)->i∈AA md ops listed->Y a->T w->
   AnyG wo md ops Q W S fuel (listed.setIfInBounds i true) (a.put oi.dst v) w->AnyG wo md ops Q W S (fuel+1) listed a w:=by
 intro fuel;induction fuel with
 |zero=>
  intro listed a w _ _ hr hy hS H;refine⟨λh=>(by rw[h]at hr;cases hr),λj hj=>?_⟩;by_cases hji:j=i
  .subst hji;exact h1 hy hS ⟨hT _ hS,H⟩
  .have:=Al hj hji;rw[H.1]at this;cases this
 |succ fuel ih=>
  intro listed a w hX a7 hr hy hS H;refine⟨λh=>(by rw[h]at hr;cases hr),λj hj=>?_⟩;by_cases hji:j=i
  .subst hji;exact h1 hy hS ⟨hT _ hS,H⟩
  .obtain⟨a3,oj,a1,aa⟩:=AP.1 hj;obtain⟨b1,b2⟩:=hI listed hX hr j hj hji;refine hm (λa' w' h3=>⟨h3.2.1,ih _ a' w' b2 (λk ok hk hki a0 hno=>a7 k ok hk hki ?_ hno) (Al hr (Ne.symm hji)) h3.1 (b1 _ h3.2.1) ?_⟩) (h2 a1 (a7 j oj a1 hji a3 (ySm hj (AP.1 hr).1 a1)) hy (H.2 j (Al hj hji)))
   .by_cases hjk:j=k
    .subst hjk;exact a3
    .rw[Aj true hjk]at a0;exact a0
   .rw[Array.setIfInBounds_comm _ _ hji];exact h3.2.2
theorem yEf(hi:ops[i]?=some oi)(hs:AJ ops=true)(hf:AM md ops listed i=true)(hr:(AA md ops listed).contains i=true)(hQ:∀c a w,Q (.panic c) (a.put oi.dst v) w->Q (.panic c) a w)(hT:∀w,T w->W i\/S w)(hI:∀listed,I listed->i∈AA md ops listed->∀j∈AA md ops listed,j≠i->(∀w,W j\/S w->T w)/\I (listed.setIfInBounds j true))
  (h0:I listed) (hy:AU P ops T oi v a) (hS:T w) (h:AnyG (wpOp P ops Q) md ops Q W S fuel (listed.setIfInBounds i true) (a.put oi.dst v) w):AnyG (wpOp P ops Q) md ops Q W S (fuel+1) listed a w:=
 yL6 (wo:=wpOp P ops Q) (Y:=AU P ops T oi v) hi wpOp_mono (λhy h k=>hy.wpOp hi h k) (λa1 ap hy h=>wpOp_putIf a1 ap (λcs b=>AK hs i oi cs b hi) (λcs b=>AK hs _ _ cs b a1) hQ hy h) hT hI fuel listed a w h0 (Ah hi hf) (by simpa using hr) hy hS h
end
theorem yB8{i:Nat}{v:Vv}(hi:ops[i]?=some oi)
  (hs:AJ ops=true) (hf:AM md ops listed i=true) (hr:(AA md ops listed).contains i=true) (hL:yG md ops L i=true) (hne:i≠L)
  (hQ:∀c a w,Q (.panic c) (a.put oi.dst v) w->Q (.panic c) a w) (hy:AU P ops S oi v a) (hS:S w)
  (h:AnyT P md ops Q S L fuel (listed.setIfInBounds i true) (a.put oi.dst v) w):AnyT P md ops Q S L (fuel+1) listed a w:=
 yEf (I:=λ_=>True) hi hs hf hr hQ (λ_ h=>.inr h) (λl _ h1 j hj _=>⟨λw h=>h.resolve_left λq=>yFe hL (AP.1 h1).1 (q▸hj),trivial⟩) trivial hy hS h
theorem yNy{i:Nat}(hr:AA md ops listed= [i])(ho:ops[i]?=some o)
  (h:∀K':Act->Ww->Prop,Shut (∀a w,(i=L\/S w)->AnyT P md ops Q S L fuel (listed.setIfInBounds i true) a w->K' a w)->if AH o (yielded ops a.tmps)=true then Af P o a w K' Q else K' (a.put o.dst undef) w):
  AnyT P md ops Q S L (fuel+1) listed a w:=by
 exact xF0
theorem yB0{i:Nat}{q:Oper}(hr:AA md ops listed= [i,j])(ho:ops[i]?=some o)(hq:ops[j]?=some q)
  (h:∀K':Act->Ww->Prop,Shut (∀a w,(i=L\/S w)->AnyT P md ops Q S L fuel (listed.setIfInBounds i true) a w->K' a w)->if AH o (yielded ops a.tmps)=true then Af P o a w K' Q else K' (a.put o.dst undef) w)
  (h':∀K':Act->Ww->Prop,Shut (∀a w,(j=L\/S w)->AnyT P md ops Q S L fuel (listed.setIfInBounds j true) a w->K' a w)->if AH q (yielded ops a.tmps)=true then Af P q a w K' Q else K' (a.put q.dst undef) w):
  AnyT P md ops Q S L (fuel+1) listed a w:=by
 refine⟨λh0=>(by rw[hr]at h0;cases h0),λk hk=>?_⟩;rw[hr]at hk;simp at hk;rcases hk with rfl|rfl
 .exact wpOp_step ho (λK' hK=>h K' (λa w hS hW=>hK a w ⟨hS,hW⟩))
 .exact wpOp_step hq (λK' hK=>h' K' (λa w hS hW=>hK a w ⟨hS,hW⟩))
theorem yZe(hr:AA md ops listed= [])(h:Q .normal a w):AnyT P md ops Q S L fuel listed a w:=by exact xCy
theorem yAf(L:Nat)(S:Ww->Prop)(hm:P.follows .mixedOrders=true)
  (h:AnyT P .any ops Q S L ops.size (AQ ops.size false) a w.drew):(Code.region id ops true).wp P Q a w:=
 Aw hm (yI6 _ _ _ _ h)
end
end
section
section
variable {ops:Array Oper}
theorem yF2{i:Nat}{v:Vv}(hi:ops[i]?=some oi)
  (hs:AJ ops=true) (hf:AM md ops listed i=true) (hr:(AA md ops listed).contains i=true) (hL:ops[L]?=none)
  (hQ:∀c a w,Q (.panic c) (a.put oi.dst v) w->Q (.panic c) a w) (hy:AU P ops S oi v a) (hS:S w)
  (h:AnyT P md ops Q S L fuel (listed.setIfInBounds i true) (a.put oi.dst v) w):AnyT P md ops Q S L (fuel+1) listed a w:=
 yEf (I:=λ_=>True) hi hs hf hr hQ (λ_ h=>.inr h) (λl _ h1 j hj _=>⟨λw h=>h.resolve_left λq=>(by obtain⟨_,oj,a1,_⟩:=AP.1 hj;rw[q,hL]at a1;cases a1),trivial⟩) trivial hy hS h
end
end
section
variable {p:Prop}
theorem jS(k:q)(h:q->p:=by intro z;(try simp only[qA,getElem_toArray,getElem_cons_zero,getElem_cons_succ]);exact z):p:=h k
theorem jz(h:p:=by intro z;(try simp only[qA,getElem_toArray,getElem_cons_zero,getElem_cons_succ]);exact z):p:=h
theorem jx(h:p:=by exact⟨rfl,by kernel_rfl,by kernel_rfl,by kernel_rfl,(by first|exact Or.inl (by rfl)|exact Or.inr ⟨by kernel_rfl,by decide⟩),λ_ _ _ h=>h⟩):p:=h
theorem jy(h:p:=by first|exact Or.inr ⟨by rfl,rfl⟩|exact Or.inl ⟨by rfl,by (intro wz hSw;(repeat with_reducible refine And.elim (λ_ hSw=>?_) hSw);(try have hlk:=hSw.look_t S HH.out);(try have hlk:=hSw.look_f S HH.out);go_simp;(try simp only[hd1]);(try simp only[hd2]);(try simp only[wo]);(try simp only[z46]);(try simp only[zq,zr,zs,zwi,zwn,HW.1]);(try with_reducible rfl))⟩):p:=h
theorem jy9(h:p:=by first|exact Or.inr ⟨by rfl,rfl⟩|exact Or.inl ⟨by rfl,by (intro wz hSw;obtain⟨d0,d1,⟨d2,d3,d4,d5⟩,d6,d7,d8,d9⟩:=hSw;go_simp;(try with_reducible rfl))⟩):p:=h
def SW(S:Ww->Prop)(W:Ww):Prop:=S W
theorem SWm(_:SW S W)(W2:Ww)(h:SW S W2):SW S W2:=h
theorem wpR{ops:Array Oper}(L:Nat)(hS:SW S W)(h:AnyT P .any ops Q S L ops.size (Array.replicate ops.size false) a w.drew)(hm:P.follows .mixedOrders=true:=by kernel_rfl):(Code.region id ops true).wp P Q a w:=yAf L S hm h
section
variable {ops:Array Oper} {v:Vv}
abbrev VX(ops:Array Oper)(Q:Exit->Act->Ww->Prop)(md:AF)(L i:Nat)(v:Vv)(oi:Oper)(listed:Array Bool):Prop:=ops[i]?=some oi/\AJ ops=true/\AM md ops listed i=true/\(AA md ops listed).contains i=true/\(ops[L]?=none\/yG md ops L i=true/\i≠L)/\∀c a w,Q (.panic c) (a.put oi.dst v) w->Q (.panic c) a w
theorem jT{i:Nat}(hx:VX ops Q md L i v oi listed)(hy:AU P ops S oi v a)(hS:S w)(h:AnyT P md ops Q S L fuel (listed.setIfInBounds i true) (a.put oi.dst v) w):AnyT P md ops Q S L (fuel+1) listed a w:=hx.2.2.2.2.1.elim (λz=>yF2 hx.1 hx.2.1 hx.2.2.1 hx.2.2.2.1 z hx.2.2.2.2.2 hy hS h) (λz=>yB8 hx.1 hx.2.1 hx.2.2.1 hx.2.2.2.1 z.1 z.2 hx.2.2.2.2.2 hy hS h)
theorem kO(i:Nat)(hs:s)(k:q)(ho:ops[i]?=some o:=by rfl)(h:Hid s->q->∀K':Act->Ww->Prop,Shut (∀a w,(i=L\/S w)->AnyT P md ops Q S L fuel (listed.setIfInBounds i true) a w->K' a w)->if Region.wanted o (yielded ops a.tmps)=true then Oper.wp P o a w K' Q else K' (a.put o.dst undef) w:=by intro hs z K hK;go_simp;refine hK.out _ _ (.inr hs.out) ?_;refine jS ?_;exact z)(hr:Region.ready md ops listed= [i]:=by kernel_rfl):AnyT P md ops Q S L (fuel+1) listed a w:=yNy hr ho (h hs k)
theorem kL(i:Nat)(k:q)(ho:ops[i]?=some o:=by rfl)(h:q->∀K':Act->Ww->Prop,Shut (∀a w,(i=L\/S w)->AnyT P md ops Q S L fuel (listed.setIfInBounds i true) a w->K' a w)->if Region.wanted o (yielded ops a.tmps)=true then Oper.wp P o a w K' Q else K' (a.put o.dst undef) w:=by intro z K hK;go_simp;refine hK.out _ _ (.inl rfl) ?_;refine jS ?_;exact z)(hr:Region.ready md ops listed= [i]:=by kernel_rfl):AnyT P md ops Q S L (fuel+1) listed a w:=yNy hr ho (h k)
theorem ja(i:Nat)(hS:S w)(k:q)(hx:VX ops Q md L i v oi listed:=by exact jx)(hy:YieldsIf P ops S oi v a:=by exact jy)(h:q->AnyT P md ops Q S L fuel (listed.setIfInBounds i true) (a.put oi.dst v) w:=by exact jz):AnyT P md ops Q S L (fuel+1) listed a w:=jT hx hy hS (h k)
theorem jb(hS:S w)(k:q)(hx:VX ops Q md L (j+1) v oi (listed.setIfInBounds j true):=by exact jx)(hy:YieldsIf P ops S oi v a:=by exact jy)(h:q->AnyT P md ops Q S L fuel ((listed.setIfInBounds j true).setIfInBounds (j+1) true) (a.put oi.dst v) w:=by exact jz):AnyT P md ops Q S L (fuel+1) (listed.setIfInBounds j true) a w:=jT hx hy hS (h k)
theorem j9a(i:Nat)(hS:S w)(k:q)(hx:VX ops Q md L i v oi listed:=by exact jx)(hy:YieldsIf P ops S oi v a:=by exact jy9)(h:q->AnyT P md ops Q S L fuel (listed.setIfInBounds i true) (a.put oi.dst v) w:=by exact jz):AnyT P md ops Q S L (fuel+1) listed a w:=jT hx hy hS (h k)
theorem j9b(hS:S w)(k:q)(hx:VX ops Q md L (j+1) v oi (listed.setIfInBounds j true):=by exact jx)(hy:YieldsIf P ops S oi v a:=by exact jy9)(h:q->AnyT P md ops Q S L fuel ((listed.setIfInBounds j true).setIfInBounds (j+1) true) (a.put oi.dst v) w:=by exact jz):AnyT P md ops Q S L (fuel+1) (listed.setIfInBounds j true) a w:=jT hx hy hS (h k)
end
end
theorem qT{ops:Array Oper}(i:Nat)(v:Vv)(hi:ops[i]?=some oi)
  (hy:∀w,S w->(execOp a.eval oi).run P w=.ok (.value v) w) (hS:S w)
  (h:AnyT P md ops Q S L fuel (listed.setIfInBounds i true) (a.put oi.dst v) w)
  (hs:Region.noSelect ops=true:=by kernel_rfl) (hf:Region.free md ops listed i=true:=by kernel_rfl) (hr:(Region.ready md ops listed).contains i=true:=by kernel_rfl) (hL:ops[L]?=none:=by rfl)
  (hQ:∀c a w,Q (.panic c) (a.put oi.dst v) w->Q (.panic c) a w:=by exact λ_ _ _ h=>h) (hw:Region.wanted oi (yielded ops a.tmps)=true:=by rfl):AnyT P md ops Q S L (fuel+1) listed a w:=
 yF2 hi hs hf hr hL hQ (Or.inl ⟨hw,hy⟩) hS h
theorem qO{ops:Array Oper}(i:Nat)(ho:ops[i]?=some o)
  (h:∀K':Act->Ww->Prop,Shut (∀a w,(i=L\/S w)->AnyT P md ops Q S L fuel (listed.setIfInBounds i true) a w->K' a w)->if Region.wanted o (yielded ops a.tmps)=true then Oper.wp P o a w K' Q else K' (a.put o.dst undef) w)
  (hr:Region.ready md ops listed= [i]:=by kernel_rfl):AnyT P md ops Q S L (fuel+1) listed a w:=yNy hr ho h
theorem qD{ops:Array Oper}(h:Q .normal a w)(hr:Region.ready md ops listed= []:=by kernel_rfl):AnyT P md ops Q S L fuel listed a w:=yZe hr h
section
section
variable {ops:Array Oper} {l:Nat}
theorem xDx{K:Act->Ww->Prop}(hd:∀c,o.op≠ .defer c)(h:o.wp P a w K Q):o.wpIn (Fence.wide.inRound l) n P a w K Q:=by
 refine⟨λ_ _=>trivial,?_⟩;rw[Oper.semAt_eq _ _ _ hd];unfold Af at h;generalize (execOp a.eval o).run P w=r at*;cases r with
 |ok x w'=>
  cases x with
  |value v|skip|defer d=>exact h
  |enter f args=>exact⟨λq=>by simp[Fence.wide]at q,CallsIn.inRound l (callsIn_wide.2 h)⟩
  |row row args=>exact⟨λq=>by simp[Fence.wide]at q,λc cs hr=>let ⟨v,w'',r,s⟩:=h c cs;⟨v,w'',r,stepsIn_wide.2 s⟩⟩
  |_=>exact h.elim
 |halt x w'=>cases x<;>exact h
def yM3(ops:Array Oper):Bool:=ops.all (λo=>match o.op with| .defer _=>false|_=>true)
theorem yOu(h:yM3 ops=true){i:Nat}(ho:ops[i]?=some o)(c:Call):o.op≠ .defer c:=by intro q;unfold yM3 at h;rw[Array.all_eq_true]at h;have⟨hi,he⟩:=Array.getElem?_eq_some_iff.1 ho;have:=h i hi;rw[he,q]at this;cases this
theorem yI7(hd:yM3 ops=true)(hno:¬LetsOut Q):∀(fuel:Nat)(listed:Array Bool)(a:Act)(w:Ww),wpAny P md ops Q fuel listed a w->wpAnyIn (Fence.wide.inRound l) n P md ops Q fuel listed a w
 |0,_,_,_,h=>h
 |fuel+1,listed,a,w,h=>by
  refine⟨h.1,λi hi=>?_⟩
  have h1:=h.2 i hi
  unfold wpOp at h1
  unfold wpOpIn
  cases ho:ops[i]? with
  |none=>
   rw[ho]at h1
   exact yI7 hd hno fuel _ a w h1
  |some o=>
   rw[ho]at h1
   simp only at h1|-
   split
   .next hw=>
    rw[iB hw]at h1
    rcases h1 with h1|⟨_,h1⟩
    .exact Oper.wpIn_mono (λa w q=>yI7 hd hno fuel _ a w q) (xDx (yOu hd ho) h1)
    .exact(hno h1).elim
   .next hw=>
    rw[iA hw]at h1
    exact⟨λ_ _=>trivial,yI7 hd hno fuel _ _ w h1⟩
theorem yGr(L:Nat)(S:Ww->Prop)(hm:P.follows .mixedOrders=true)(hd:yM3 ops=true)(hno:¬LetsOut Q)
  (h:AnyT P .any ops Q S L ops.size (AQ ops.size false) a w.drew):(Code.region id ops true).wpIn (Fence.wide.inRound l) n P Q a w:=
 As hm (yI7 hd hno _ _ _ _ (yI6 _ _ _ _ h))
end
end
section
inductive TokG(A:List U8->Pat->Prop):List U8->Prop
 |nil:TokG A []
 |sign {c:U8} {zs:List U8} (hc:c=124\/isOp c) (h:TokG A zs):TokG A (c::zs)
 |atom {xs zs:List U8} {t:Pat} (ha:A xs t) (h:TokG A zs):TokG A (xs++zs)
variable {xs:List U8}
theorem TokG.cat(h:TokG A xs)(k:TokG A ys):TokG A (xs++ys):=by
 induction h with
 |nil=>exact k
 |sign hc _ ih=>exact .sign hc ih
 |atom ha _ ih=>rw[AB];exact .atom ha ih
theorem TokG.ops:∀{l:List U8},(∀c∈l,isOp c)->TokG A l
 | [],_=>.nil
 |c::l,h=>.sign (.inr (h c (by simp))) (TokG.ops (λd hd=>h d (by simp[hd])))
theorem RepG.tok:RepG A xs t->TokG A xs
 |⟨ys,ops,a,h1,h2,h3,_⟩=>h1▸(.atom h2 (TokG.ops h3))
theorem SeqG.tok:∀{ts:List Pat}{xs:List U8},SeqG A ts xs->TokG A xs
 | [],_,h=>by rw[show _= []from h];exact .nil
 |_::_,_,⟨ys,zs,h1,h2,h3⟩=>h1▸(h2.tok.cat (SeqG.tok h3))
theorem AltG.tok:∀{os:List (List Pat)}{xs:List U8},AltG A os xs->TokG A xs
 | [],_,h=>h.elim
 | [_],_,h=>SeqG.tok h
 |_::_::_,_,⟨ys,zs,h1,h2,h3⟩=>h1▸(h2.tok.cat (.sign (.inl rfl) (AltG.tok h3)))
theorem yAn.first:∀{n:Nat}{xs:List U8}{t:Pat},yAn n xs t->∃c ys,xs=c::ys/\¬c=41/\¬c=124/\¬isOp c
 |0,_,_,h=>h.elim
 |n+1,xs,t,h=>by
  rcases h with⟨c,rfl,hs,_⟩|⟨rfl,_⟩|⟨c,rfl,_⟩|⟨ys,os,rfl,_,_⟩|⟨p,i,k,f,h1,h2,rfl,_⟩
  .exact⟨c,[],rfl,λq=>hs (.inl (.inr (.inr (.inl q)))),λq=>hs (.inl (.inr (.inl q))),λq=>hs (.inl (.inl q))⟩
  .exact⟨46,[],rfl,qj,qj,by decide⟩
  .exact⟨92,[c],rfl,by decide,by decide,by decide⟩
  .exact⟨40,ys++ [41],rfl,by decide,by decide,by decide⟩
  .have hg:=yBe h2
   refine⟨91,cut p (i+1) k,?_,by decide,by decide,by decide⟩
   rw[yBq (show i<=i+1 by omega) (show i+1<=k by omega),yCb h1]
   rfl
variable {p:List U8}
theorem yL0{i k:Nat}{q:List U8}{f:U8->Bool}(h1:q[j]?=some 91)(h2:yAt q (j+1)=.inl (f,m))(hc:cut p i k=cut q j m)(hk:k<=p.length)(hik:i<k):p[i]?=some 91/\yAt p (i+1)=.inl (f,k):=by
 have hg:=yBe h2;have hl:k-i=m-j:=by have h3:=congrArg AG hc;rw[yAx hk,yAx hg.2]at h3;exact h3
 have a0:∀t,t<k-i->p[i+t]?=q[j+t]?:=λt ht=>by have h3:=congrArg (λl=>l[t]?) hc;simp only[cut,AY,AZ]at h3;rw[iB ht,iB (by omega)]at h3;exact h3
 refine⟨by have:=a0 0 (by omega);simpa [h1]using this,?_⟩;have e:=yFl (q:=p) (j:=i+1) h2 (λt ht=>by have:=a0 (1+t) (by omega);rw[show i+1+t=i+(1+t)by omega,this];congr 1;omega);rw[e];exact xCs
end
section
def yBa:List Pat->List U8×Bool
 | []=>([],true)
 | .byte c::ts=>(c::(yBa ts).1,(yBa ts).2)
 | .cls _::_| .rep _ _ _::_| .alt _::_=>([],false)
def yS7:List (List Pat)->List U8×Bool
 | [ts]=>yBa ts
 |_=>([],false)
def yPc:Pat->Prop
 | .byte _=>True
 |_=>False
theorem yG2(h:¬yPc t)(ts:List Pat):yBa (t::ts)=([],false):=by
 cases t with
 |byte b=>exact(h trivial).elim
 |_=>rfl
inductive TokN(A:List U8->Pat->Prop):Nat->List U8->Prop
 |nil:TokN A 0 []
 |bar {k:Nat} {zs:List U8} (h:TokN A k zs):TokN A (k+1) (124::zs)
 |op {k:Nat} {c:U8} {zs:List U8} (hc:isOp c) (h:TokN A k zs):TokN A k (c::zs)
 |atom {k:Nat} {xs zs:List U8} {t:Pat} (ha:A xs t) (h:TokN A k zs):TokN A k (xs++zs)
variable {xs:List U8}
theorem TokN.cat{k:Nat}(h:TokN A k xs)(q:TokN A m ys):TokN A (k+m) (xs++ys):=by
 induction h with
 |nil=>simpa using q
 |bar _ ih=>rw[show∀k,k+1+m=(k+m)+1 from λk=>qo];exact .bar ih
 |op hc _ ih=>exact .op hc ih
 |atom ha _ ih=>rw[AB];exact .atom ha ih
theorem TokN.ops:∀{l:List U8},(∀c∈l,isOp c)->TokN A 0 l
 | [],_=>.nil
 |c::l,h=>.op (h c (by simp)) (TokN.ops (λd hd=>h d (by simp[hd])))
theorem RepG.tokn:RepG A xs t->TokN A 0 xs
 |⟨ys,ops,a,h1,h2,h3,_⟩=>h1▸(.atom h2 (TokN.ops h3))
theorem SeqG.tokn:∀{ts:List Pat}{xs:List U8},SeqG A ts xs->TokN A 0 xs
 | [],_,h=>by rw[show _= []from h];exact .nil
 |_::_,_,⟨ys,zs,h1,h2,h3⟩=>by rw[h1];simpa using h2.tokn.cat (SeqG.tokn h3)
theorem AltG.tokn:∀{os:List (List Pat)}{xs:List U8},AltG A os xs->∃k,os.length=k+1/\TokN A k xs
 | [],_,h=>h.elim
 | [_],_,h=>⟨0,rfl,SeqG.tokn h⟩
 |_::o::os,_,⟨ys,zs,h1,h2,h3⟩=>by
  have⟨k,hk,hT⟩:=AltG.tokn h3
  refine⟨k+1,by simp at hk|-;omega,?_⟩
  rw[h1]
  have:=h2.tokn.cat (TokN.bar hT)
  simpa using this
theorem yJb{k:Nat}(h:TokN A k xs):(xs= []/\k=0)\/(∃m zs,xs=124::zs/\k=m+1/\TokN A m zs)\/(∃c zs,xs=c::zs/\isOp c/\TokN A k zs)\/(∃ys zs t,xs=ys++zs/\A ys t/\TokN A k zs):=by
 cases h with
 |nil=>exact .inl ⟨rfl,rfl⟩
 |bar h=>exact .inr (.inl ⟨_,_,rfl,rfl,h⟩)
 |op hc h=>exact .inr (.inr (.inl ⟨_,_,rfl,hc,h⟩))
 |atom ha h=>exact .inr (.inr (.inr ⟨_,_,_,rfl,ha,h⟩))
variable {p:List U8}
theorem yHw(h:cut p j m=c::zs)(hm:m<=p.length):p[j]?=some c/\cut p (j+1) m=zs/\j<m:=by exact xG
theorem yPt(h:cut p j m=xs++zs)(hm:m<=p.length)(hjm:j<=m):cut p j (j+xs.length)=xs/\cut p (j+xs.length) m=zs/\j+xs.length<=m:=by have hl:=congrArg AG h;rw[yAx hm,AC]at hl;exact xF6
theorem yAn.byte:∀{n:Nat}{xs:List U8}{t:Pat},yAn n xs t->∃c ys,xs=c::ys/\((∃b,t=.byte b/\xs.getLast?=some b/\(¬yB3 c\/c=92))\/(¬yPc t/\yB3 c/\¬c=92))
 |0,_,_,h=>h.elim
 |n+1,xs,t,h=>by
  rcases h with⟨c,rfl,hs,rfl⟩|⟨rfl,rfl⟩|⟨c,rfl,rfl⟩|⟨ys,os,rfl,_,rfl⟩|⟨p,i,k,f,h1,h2,rfl,rfl⟩
  .exact⟨c,[],rfl,.inl ⟨c,rfl,rfl,.inl hs⟩⟩
  .exact⟨46,[],rfl,.inr ⟨λh=>h,by decide,by decide⟩⟩
  .exact⟨92,[c],rfl,.inl ⟨c,rfl,rfl,.inr rfl⟩⟩
  .exact⟨40,ys++ [41],rfl,.inr ⟨λh=>h,by decide,by decide⟩⟩
  .have hg:=yBe h2
   refine⟨91,cut p (i+1) k,?_,.inr ⟨λh=>h,by decide,by decide⟩⟩
   rw[yBq (show i<=i+1 by omega) (show i+1<=k by omega),yCb h1]
   rfl
structure xE5(n:Nat)(p:List U8)(i m j:Nat)(c:U8)(a t:Pat)(ts:List Pat):Prop where
 atom:yAn n (cut p i j) a
 lt:i<j
 le:j<=m
 at0:p[i]?=some c
 what:(∃b,t=.byte b/\(¬yB3 c\/c=92)/\(∀d,p[j]?=some d->j<m->¬isOp d)/\p[j-1]?=some b/\SeqG (yAn n) ts (cut p j m))\/(¬yPc t/\((yB3 c/\¬c=92)\/((¬yB3 c\/c=92)/\∃d,p[j]?=some d/\isOp d/\j<m)))
theorem yMn{i:Nat}(h:SeqG (yAn n) ts (cut p i m))(hm:m<=p.length)(him:i<m):∃t ts' j c a,ts=t::ts'/\xE5 n p i m j c a t ts':=by
 cases ts with
 |nil=>
  have hl:=yAx (p:=p) (i:=i) hm;rw[show cut p i m= []from h]at hl;simp at hl;omega
 |cons t ts'=>
  have⟨ys,zs,h1,⟨xa,ops,a,h2,h3,h4,h5⟩,h6⟩:=h;rw[h2,AB]at h1;have⟨c1,c2,c3⟩:=yPt h1 hm (by omega);have⟨c,xb,hc,hw⟩:=h3.byte;have ab:0<xa.length:=by rw[hc];simp
  have⟨p0,_,_⟩:=yHw (c1.trans hc) (by omega);refine⟨t,ts',i+xa.length,c,a,rfl,⟨by rw[c1];exact h3,by omega,c3,p0,?_⟩⟩;cases ops with
  |nil=>
   have a5:t=a:=h5;subst a5;rw[Aa]at c2;rcases hw with⟨b,hb,a0,hs⟩|⟨hb,hs⟩
   .left;refine⟨b,hb,hs,?_,?_,by rw[c2];exact h6⟩
    .intro d hd aa;cases ts' with
     |nil=>
      have hl:=yAx (p:=p) (i:=i+xa.length) hm;rw[c2,show zs= []from h6]at hl;simp at hl;omega
     |cons t2 ts2=>
      have⟨a8,a1,e1,⟨a9,a4,a2,e2,e3,_,_⟩,_⟩:=h6;have⟨a7,a3,hc2,_,_,hn⟩:=e3.first;rw[e1,e2,hc2]at c2;have:=(yHw (p:=p) (c:=a7) (zs:=a3++a4++a1) (by rw[c2];simp) hm).1;rw[hd]at this;rw[AN this];exact hn
    .have hg:xa[xa.length-1]?=some b:=by rw[<-getLast?_eq_getElem?];exact a0
     have e:=congrArg (λl=>l[xa.length-1]?) c1;simp only[cut,AY,AZ]at e;rw[iB qo,hg]at e;rw[show i+xa.length-1=i+(xa.length-1)by omega];exact e
   .exact .inr ⟨hb,.inl hs⟩
  |cons o ops=>
   right;have a6:¬yPc t:=by rw[h5,iA (by simp)];exact λh=>h
   refine⟨a6,?_⟩;obtain⟨q1,_,q3⟩:=yHw (p:=p) (c:=o) (zs:=ops++zs) (by rw[c2];simp) hm;rcases hw with⟨b,hb,a0,hs⟩|⟨hb,hs⟩
   .exact .inr ⟨hs,o,q1,h4 o (by simp),q3⟩
   .exact .inl hs
theorem yMo(h:SeqG (yAn n) ts (cut p m m))(hm:m<=p.length):ts= []:=by
 cases ts with
 |nil=>rfl
 |cons t ts=>
  have⟨ys,zs,h1,⟨xa,ops,a,h2,h3,_,_⟩,_⟩:=h;have⟨c,xb,hc,_⟩:=h3.first;rw[yDm,h2,hc]at h1;simp at h1
end
mutual
def wtP:Pat->Nat
 | .byte _| .cls _=>1
 | .rep t _ _=>wtP t
 | .alt os=>wtA os+1
def wtA:List (List Pat)->Nat
 | []=>0
 |ts::os=>wtS ts+1+wtA os
def wtS:List Pat->Nat
 | []=>0
 |t::ts=>wtP t+wtS ts
end
theorem yV4:∀t:Pat,1<=wtP t
 | .byte _| .cls _=>by simp[wtP]
 | .rep t _ _=>by simp only[wtP];exact yV4 t
 | .alt os=>by simp[wtP]
theorem yQa:∀ts:List Pat,ts.length<=wtS ts
 | []=>by simp[wtS]
 |t::ts=>by have:=yQa ts;have:=yV4 t;simp only[wtS,AV];omega
theorem yQd:∀os:List (List Pat),os.length<=wtA os
 | []=>by simp[wtA]
 |t::ts=>by have:=yQd ts;simp only[wtA,AV];omega
theorem yQ:∀{ts:List Pat}{t:Pat},t∈ts->wtP t<=wtS ts
 |s::ts,t,h=>by
  rcases Ad.1 h with rfl|q
  .simp only[wtS];omega
  .have:=yQ q;simp only[wtS];omega
theorem yQc:∀{os:List (List Pat)}{ts:List Pat},ts∈os->wtS ts<=wtA os
 |s::os,ts,h=>by
  rcases Ad.1 h with rfl|q
  .simp only[wtA];omega
  .have:=yQc q;simp only[wtA];omega
variable {xs:List U8}
theorem xGs(hA:∀xs t,A xs t->wtP t<=xs.length):RepG A xs t->wtP t<=xs.length
 |⟨ys,ops,a,h1,h2,h3,h4⟩=>by
  have:=hA _ _ h2
  rw[h1,h4]
  split
  .simp;omega
  .simp only[wtP,AC];omega
theorem yV1(hA:∀xs t,A xs t->wtP t<=xs.length):∀{ts:List Pat}{xs:List U8},SeqG A ts xs->wtS ts<=xs.length
 | [],_,h=>by simp[wtS]
 |t::ts,xs,⟨ys,zs,h1,h2,h3⟩=>by
  have:=xGs hA h2
  have:=yV1 hA h3
  rw[h1];simp only[wtS,AC];omega
theorem yV3(hA:∀xs t,A xs t->wtP t<=xs.length):∀{os:List (List Pat)}{xs:List U8},AltG A os xs->wtA os<=xs.length+1
 | [],_,h=>h.elim
 | [ts],xs,h=>by have:=yV1 hA (ts:=ts) (xs:=xs) h;simp only[wtA];omega
 |ts::t2::os,xs,⟨ys,zs,h1,h2,h3⟩=>by
  have:=yV1 hA h2
  have:=yV3 hA (os:=t2::os) h3
  rw[h1];rw[show wtA (ts::t2::os)=wtS ts+1+wtA (t2::os)from rfl];simp only[AC,AV];omega
theorem yV2:∀(n:Nat)(xs:List U8)(t:Pat),yAn n xs t->wtP t<=xs.length
 |0,_,_,h=>h.elim
 |n+1,xs,t,h=>by
  rcases h with⟨c,rfl,_,rfl⟩|⟨rfl,rfl⟩|⟨c,rfl,rfl⟩|⟨ys,os,rfl,h2,rfl⟩|⟨p,i,k,f,h1,h2,rfl,rfl⟩
  .simp[wtP]
  .simp[wtP]
  .simp[wtP]
  .have:=yV3 (λxs t q=>yV2 n xs t q) h2
   simp only[wtP,AC,AV,length_nil];omega
  .have hg:=yBe h2
   rw[yAx hg.2];simp only[wtP];omega
mutual
theorem nx_P:∀(t:Pat)(a:Nat),(lyP t a).nx<=a+wtP t
 | .byte _,a| .cls _,a=>by simp[lyP,wtP]
 | .rep t _ _,a=>by simp only[lyP,wtP,Lay.rep];exact nx_P t a
 | .alt os,a=>by have:=nx_A os (Lay.no a);simp only[lyP,wtP,Lay.no]at*;omega
theorem nx_A:∀(os:List (List Pat))(g:Lay),(lyA os g).nx<=g.nx+wtA os
 | [],g=>by simp[lyA,wtA]
 |ts::os,g=>by
  have h1:=nx_A os (g.alt (lyS ts true (Lay.no g.nx)))
  have h2:=nx_S ts true (Lay.no g.nx)
  simp only[lyA,wtA,Lay.alt,Lay.no]at*;omega
theorem nx_S:∀(ts:List Pat)(em:Bool)(g:Lay),(lyS ts em g).nx<=g.nx+wtS ts
 | [],em,g=>by simp[lyS,wtS]
 |t::ts,em,g=>by
  have h1:=nx_S ts (em && nulB t) (g.seq em (nulB t) (lyP t g.nx))
  have h2:=nx_P t g.nx
  simp only[lyS,wtS,Lay.seq]at*;omega
end
inductive Tag(n:Nat):U8->List U8->Pat->Prop
 |plain {c:U8} (h:¬yB3 c):Tag n c [] (.byte c)
 |dot:Tag n 46 [] (.cls (λ_=>true))
 |esc {d:U8}:Tag n 92 [d] (.byte d)
 |group {ys:List U8} {os:List (List Pat)} (h:AltG (yAn n) os ys):Tag n 40 (ys++ [41]) (.alt os)
 |cls {zs:List U8} {f:U8->Bool} (h:∀r,yAt (91::zs++r) 1=.inl (f,zs.length+1)):Tag n 91 zs (.cls f)
theorem yAn.tag(h:yAn (n+1) xs t):∃c zs,xs=c::zs/\Tag n c zs t:=by
 rcases h with⟨c,rfl,hs,rfl⟩|⟨rfl,rfl⟩|⟨c,rfl,rfl⟩|⟨ys,os,rfl,ho,rfl⟩|⟨p,i,k,f,h1,h2,rfl,rfl⟩
 .exact⟨c,[],rfl,.plain hs⟩
 .exact⟨46,[],rfl,.dot⟩
 .exact⟨92,[c],rfl,.esc⟩
 .exact⟨40,ys++ [41],rfl,.group ho⟩
 .have hg:=yBe h2;have e:cut p i k=91::cut p (i+1) k:=by rw[yBq (show i<=i+1 by omega) (show i+1<=k by omega),yCb h1];rfl
  refine⟨91,_,e,.cls λr=>?_⟩;have hl:=congrArg AG e;rw[AV]at hl;have h3:=yL0 (p:=91::cut p (i+1) k++r) (i:=0) (k:=(cut p (i+1) k).length+1) h1 h2 ?_ (by simp) (by omega)
  .exact h3.2
  .rw[<-hl,<-e];show(List.drop 0 (cut p i k++r)).take ((cut p i k).length-0)=_;rw[drop_zero,Nat.sub_zero,take_left]
theorem xDb(hA:∀ys t,A ys t->∃c zs,ys=c::zs/\¬c=41/\¬c=124/\¬isOp c)(hB:∀ys t,B ys t->∃c zs,ys=c::zs/\¬c=41/\¬c=124/\¬isOp c)
  (U:∀xs ys t t' r r',A xs t->B ys t'->xs++r=ys++r'->xs=ys) {xs:List U8} (h:TokG A xs):∀{ys r r':List U8},TokG B ys->xs++41::r=ys++41::r'->xs=ys:=by
 induction h with
 |nil=>
  intro ys r r' k e;cases k with
  |nil=>rfl
  |sign hc _=>
   simp at e;exfalso;rw[<-e.1]at hc;rcases hc with q|q|q|q<;>exact absurd q qj
  |atom ha _=>
   obtain⟨c,zs,rfl,a1,_⟩:=hB _ _ ha;simp at e;exact absurd e.1.symm a1
 | @sign c zs hc h ih=>
   intro ys r r' k e;cases k with
   |nil=>
    simp at e;exfalso;rw[e.1]at hc;rcases hc with q|q|q|q<;>exact absurd q qj
   |sign hc' k'=>
    simp at e;rw[e.1,ih k' e.2]
   |atom ha _=>
    obtain⟨c,zs,rfl,_,a2,a0⟩:=hB _ _ ha;simp at e;rw[e.1]at hc;exact absurd hc (λq=>q.elim a2 a0)
 | @atom us zs t ha h ih=>
   intro ys r r' k e;cases k with
   |nil=>
    obtain⟨c,zs,rfl,a1,_⟩:=hA _ _ ha;simp at e;exact absurd e.1 a1
   |sign hc' k'=>
    obtain⟨c,zs,rfl,_,a2,a0⟩:=hA _ _ ha;simp at e;rw[<-e.1]at hc';exact absurd hc' (λq=>q.elim a2 a0)
   |atom hb k'=>
    rw[AB,AB]at e;have q:=U _ _ _ _ _ _ ha hb e;subst q;rw[ih k' (Ab e)]
theorem yI5:∀{n m:Nat}{xs ys:List U8}{t t':Pat}{r r':List U8},yAn n xs t->yAn m ys t'->xs++r=ys++r'->xs=ys
 |0,_,_,_,_,_,_,_,h,_,_|_+1,0,_,_,_,_,_,_,_,h,_=>h.elim
 |n+1,m+1,xs,ys,t,t',r,r',h,k,e=>by
  obtain⟨c,zs,rfl,hT⟩:=h.tag
  obtain⟨c',zs',rfl,hT'⟩:=k.tag
  simp only[AE,AD]at e
  obtain⟨rfl,e⟩:=e
  congr 1
  cases hT with
  |plain h1=>
   cases hT' with
   |plain _|dot=>rfl
   |esc|group _|cls _=>exact absurd h1 qj
  |dot=>
   cases hT' with
   |plain _|dot=>rfl
  |esc=>
   cases hT' with
   |plain h1=>exact absurd h1 qj
   |esc=>simp at e;rw[e.1]
  |group h1=>
   cases hT' with
   |plain h1=>exact absurd h1 qj
   |group h2=>
    rw[AB,AB]at e
    rw[xDb (λys t q=>q.first) (λys t q=>q.first) (λxs ys t t' r r' a b e=>yI5 a b e) h1.tok h2.tok e]
  |cls h1=>
   cases hT' with
   |plain h1=>exact absurd h1 qj
   |cls h2=>
    have a:=h1 r
    have b:=h2 r'
    rw[AE,e]at a
    rw[AE,a]at b
    simp at b
    exact(append_inj e b.2).1
theorem yZ1{k:Nat}(h:TokN (yAn n) k xs):∀{j:Nat}{ys:List U8},TokN (yAn m) j ys->xs=ys->k=j:=by
 induction h with
 |nil=>
  intro j ys q e;cases q with
  |nil=>rfl
  |bar _|op _ _=>cases e
  |atom ha _=>obtain⟨c,zs,rfl,_⟩:=ha.first;cases e
 |bar h ih=>
  intro j ys q e;cases q with
  |nil=>cases e
  |bar q'=>simp at e;rw[ih q' e]
  |op hc _=>simp at e;rw[<-e.1]at hc;exact absurd hc qj
  |atom ha _=>obtain⟨c,zs,rfl,_,a1,_⟩:=ha.first;simp at e;exact absurd e.1.symm a1
 |op hc h ih=>
  intro j ys q e;cases q with
  |nil=>cases e
  |bar _=>simp at e;rw[e.1]at hc;exact absurd hc qj
  |op hc' q'=>simp at e;exact ih q' e.2
  |atom ha _=>obtain⟨c,zs,rfl,_,_,a0⟩:=ha.first;simp at e;rw[e.1]at hc;exact absurd hc a0
 |atom ha h ih=>
  intro j ys q e;cases q with
  |nil=>obtain⟨c,zs,rfl,_⟩:=ha.first;cases e
  |bar _=>obtain⟨c,zs,rfl,_,a1,_⟩:=ha.first;simp at e;exact absurd e.1 a1
  |op hc _=>obtain⟨c,zs,rfl,_,_,a0⟩:=ha.first;simp at e;rw[<-e.1]at hc;exact absurd hc a0
  |atom hb q'=>
   have u:=yI5 ha hb e;subst u;exact ih q' (Ab e)
theorem yOn{p:List U8}:∀{ts us:List Pat}{i:Nat},i<=p.length->SeqG (yAn n) ts (cut p i p.length)->SeqG (yAn m) us (cut p i p.length)->yBa ts=yBa us
 | [],us,i,hi,h,k=>by
   have hip:i=p.length:=by have hl:=yAx (p:=p) (i:=i) qr;rw[show cut p i p.length= []from h]at hl;simp at hl;omega
   subst hip
   rw[yMo k qr]
 |t::ts,us,i,hi,h,k=>by
  have him:i<p.length:=by refine Nat.lt_of_le_of_ne hi λq=>?_;subst q;exact absurd (yMo h qr) (by simp)
  have⟨t1,a3,j,c,a,e1,h1⟩:=yMn h qr him;obtain⟨rfl,rfl⟩:t1=t/\a3=ts:=by simpa using e1.symm
  obtain⟨u1,a6,j',c',a',rfl,k1⟩:=yMn k qr him;have e2:=yI5 (r:=cut p j p.length) (r':=cut p j' p.length) h1.atom k1.atom (by rw[<-yBq (Ar h1.lt) h1.le,<-yBq (Ar k1.lt) k1.le]);have e3:j=j':=by have hl:=congrArg AG e2;rw[yAx h1.le,yAx k1.le]at hl;have:=h1.lt;have:=k1.lt;omega
  subst e3;obtain rfl:c=c':=AN (h1.at0.symm.trans k1.at0);rcases h1.what with⟨b,rfl,hs,hn,hb,hS⟩|⟨a5,hw⟩
  .rcases k1.what with⟨b',rfl,_,_,a2,kS⟩|⟨_,(⟨s1,s2⟩|⟨_,d,hd,a0,a1⟩)⟩
   .obtain rfl:b=b':=AN (hb.symm.trans a2);simp only[yBa];rw[yOn h1.le hS kS]
   .exact absurd hs (λq=>q.elim (λz=>z s1) s2)
   .exact absurd a0 (hn d hd a1)
  .rw[yG2 a5];rcases k1.what with⟨b',rfl,hs,hn,a2,kS⟩|⟨a4,_⟩
   .rcases hw with⟨s1,s2⟩|⟨_,d,hd,a0,a1⟩
    .exact absurd hs (λq=>q.elim (λz=>z s1) s2)
    .exact absurd a0 (hn d hd a1)
   .rw[yG2 a4]
theorem yUn{p:List U8}{os us:List (List Pat)}(h:yE8 p 0 0 p.length os)(k:yE8 p 0 0 p.length us):yS7 os=yS7 us:=by
 have⟨n,h1⟩:=h.gr;have⟨m,k1⟩:=k.gr;have⟨j,hj,hT⟩:=h1.tokn;have⟨j',a0,kT⟩:=k1.tokn;have e:=yZ1 hT kT rfl;match os,us,h1,k1,hj,a0 with
 | [ts],[us],h1,k1,_,_=>exact yOn (AX _) h1 k1
 | [ts],u::v::us,h1,k1,hj,a0|t::v::ts,[us],h1,k1,hj,a0=>simp at hj a0;omega
 |t::v::ts,u::x::us,h1,k1,hj,a0=>rfl
def OwnY(w:Ww)(O g cp:Nat)(xs:List U8):Prop:=w.ownsRow O 5 1 (xg g xs.length cp) xs.length (xs.map ub)
variable {O cp:Nat}
theorem OwnY.lt(h:OwnY w O g cp xs):O<=g/\g<w.heap.size:=AR h g rfl
variable {w':Ww}
theorem OwnY.i{S:Nat->Prop}(h:OwnY w O g cp xs)(hc:Chg S w w')(hn:¬S g):OwnY w' O g cp xs:=yAg h hc (λk q=>by simp[Value.ownBlock]at q;subst q;exact hn)
theorem OwnY.k(h:OwnY w O g cp xs)(hb:Below w w w'):OwnY w' O g cp xs:=h.i (Chg.h hb) (S:=λ_=>False) (λq=>q)
theorem OwnY.at(h:OwnY w O g cp xs):xBm w g 0 xs:=by intro k x hx;have hk:=qf hx;rw[Nat.zero_add,AO h k qo,Ax,hx];rfl
theorem xB5(xs:List U8):∀u∈xs.map ub,u.oneCell'=true:=by intro u hu;obtain⟨r,_,rfl⟩:=List.mem_map.1 hu;rfl
theorem Tryz.infoByte:(prog.info? 5).map (λi=>(i.zero,i.size,i.bytes))=some (some (.int .u8 0),1,1):=qk
theorem xIv:ApT 22 5 1 (λl=>l.map ub) OwnY xBm:=⟨⟨underlying22,_,_,Tryz.infoByte,rfl,qj,qj⟩,λ_ _=>map_append,λ_=>by simp,Iff.rfl,λh=>⟨λj u hu=>by
 rw[Ax]at hu;obtain⟨r,hr,rfl⟩:=Option.map_eq_some_iff.1 hu;exact h j r hr,xB5 _⟩⟩
theorem yT(w:Ww)(hb:O<=w.heap.size):OwnY (xw w #[] 5) O w 0 []:=
 World.ownsRow_made w #[] 0 hb (AX _) (by simp)
theorem yG3(w:Ww)(hb:O<=w.heap.size)(x:U8){v:Int}(hv:v=(x.toNat:Int)):OwnY (xw w #[.int .u8 v] 5) O w 1 [x]:=by subst hv;exact World.ownsRow_lit w #[ub x] 1 hb qj rfl
section
structure Nd where
 f:Int
 s:Ba
 hi:Bool
 t:Ba
 lo:Int
 up:Int
 n:Int
def yAl(k:Int):Nat:=if k=14\/k=15 then 2 else if k=16 then 3 else 0
theorem yHi(k:Int):yAl k<=3:=by unfold yAl;split<;>(try split)<;>omega
inductive IsT:Nat->List Nd->Prop
 |nil:IsT 0 []
 |snoc {k:Nat} {xs:List Nd} (n:Nd) (h:IsT (k+yAl n.f) xs):IsT (k+1) (xs++ [n])
variable {xs ys:List Nd}
theorem IsT.inv_snoc{k:Nat}{n:Nd}(h:IsT k ys)(e:ys=xs++ [n]):∃j,k=j+1/\IsT (j+yAl n.f) xs:=by
 cases h with
 |nil=>simp at e
 |snoc m h=>
  have:=append_inj' e rfl;obtain⟨rfl,h2⟩:=this;simp at h2;subst h2;exact⟨_,rfl,h⟩
theorem IsT.zero(h:IsT 0 xs):xs= []:=by
 cases h with
 |nil=>rfl
theorem IsT.X{k:Nat}(h:IsT k xs):k<=xs.length:=by
 induction h with
 |nil=>exact Ag _
 |snoc n h ih=>simp;omega
inductive Sc:Nat->List Nd->Prop
 |nil:Sc 1 []
 |cons {m:Nat} {ys:List Nd} (n:Nd) (h:Sc (m+1) ys):Sc (m+yAl n.f) (n::ys)
theorem Sc.inv{n:Nd}(h:Sc m (n::ys)):∃q,m=q+yAl n.f/\Sc (q+1) ys:=by
 cases h with
 |cons _ h=>exact⟨_,rfl,h⟩
theorem Sc.one:∀{ys:List Nd}{m k:Nat},Sc m ys->Sc k ys->m=k
 | [],_,_,.nil,.nil=>rfl
 |n::ys,m,k,h,g=>by
  obtain⟨a,rfl,ha⟩:=h.inv
  obtain⟨b,rfl,hb⟩:=g.inv
  have:=Sc.one ha hb
  omega
theorem Sc.tree:∀{ys:List Nd}{m:Nat},Sc m ys->∀{pre:List Nd},IsT m pre↔IsT 1 (pre++ys)
 | [],_,.nil,pre=>by simp
 |n::ys,m,h,pre=>by
  obtain⟨q,rfl,hq⟩:=h.inv
  have ih:=Sc.tree hq (pre:=pre++ [n])
  rw[AB]at ih
  rw[show pre++n::ys=pre++([n]++ys)from rfl,<-ih]
  constructor
  .intro h;exact .snoc n h
  .intro h
   have⟨j,hj,h2⟩:=h.inv_snoc rfl
   rw[show q=j by omega];exact h2
theorem IsT.sc{b:List Nd}(h:IsT j b):∀{m:Nat}{ys:List Nd},Sc (m+j) ys->Sc m (b++ys):=by
 induction h with
 |nil=>intro m ys h;exact h
 | @snoc k xs n h ih=>
   intro m ys hs;rw[AB];apply ih;show Sc (m+(k+yAl n.f)) (n::ys);rw[<-Ap];exact .cons n hs
theorem IsT.sc0{b:List Nd}(h:IsT 1 b):Sc 0 b:=by have:=h.sc (m:=0) (ys:= []) .nil;simpa using this
theorem yMc{i:Nat}(hi:IsT 1 (xs.drop i))(hj:IsT 1 (xs.drop j))(hij:i<=j)(hjl:j<=xs.length):i=j:=by
 have h0:=hj.sc0;have e:xs.drop i=(xs.drop i).take (j-i)++xs.drop j:=by
  conv=>lhs;rw[<-Ae (j-i) (xs.drop i)]
  rw[drop_drop,show i+(j-i)=j by omega]
 rw[e]at hi;have h1:=(h0.tree.2 hi).zero;have h2:=congrArg AG h1;simp at h2;omega
theorem xDf:∀{i m:Nat},Sc (m+1) (xs.drop i)->∀j,i<=j->j<=xs.length->¬IsT 1 (xs.drop j):=by
 intro i m h j hij a0 ht;obtain⟨d,rfl⟩:∃d,j=i+d:=⟨j-i,by omega⟩;clear hij;induction d generalizing i m with
 |zero=>have:=h.one ht.sc0;omega
 |succ d ih=>
  rw[Ak (by omega)]at h;have⟨q,_,hq⟩:=h.inv;exact ih (i:=i+1) (m:=q) hq (by omega) (by rw[show i+1+d=i+(d+1)by omega];exact ht)
structure yAy where
 valid:Bool
 f:Int
 nest:Nat
def yCd(k:Int):Nat:=if k=15 then 1 else if k=14 then 2 else 3
def yC1(op:Int)(i:Nat)(kid:Int):Bool:=decide (op=16) || (if i=0 then decide (yCd kid<yCd op)else decide (yCd kid<=yCd op))
def yA4(op:Int):Nat->Nat->List yAy->Nat
 |_,a,[]=>a
 |i,a,o::os=>yA4 op (i+1) (max a (o.nest+if yC1 op i o.f then 1 else 0)) os
variable (G:Nd->Bool)
def yD5(n:Nd)(os:List yAy):yAy:=⟨G n && os.all (·.valid),n.f,yA4 n.f 0 0 os⟩
def yU(st:List yAy)(n:Nd):Option (List yAy):=
 if st.length<yAl n.f then none else some (st.take (st.length-yAl n.f)++ [yD5 G n (st.drop (st.length-yAl n.f))])
def yC3(st:List yAy):List Nd->Option (List yAy)
 | []=>some st
 |n::ns=>match yU G st n with
  |none=>none
  |some st'=>yC3 st' ns
theorem yFi(st:List yAy) xs ys:yC3 G st (xs++ys)=(yC3 G st xs).bind (λs=>yC3 G s ys):=by
 induction xs generalizing st with
 |nil=>rfl
 |cons x xs ih=>
  simp only[AE,yC3];cases yU G st x with
  |none=>rfl
  |some s=>exact ih s
inductive ShT:List yAy->List Nd->Prop
 |nil:ShT [] []
 |snoc {ss os:List yAy} {xs:List Nd} (n:Nd) (ho:os.length=yAl n.f) (h:ShT (ss++os) xs):ShT (ss++ [yD5 G n os]) (xs++ [n])
theorem IsT.shapes{k:Nat}(h:IsT k xs):∃ss,ss.length=k/\ShT G ss xs:=by
 induction h with
 |nil=>exact⟨[],rfl,.nil⟩
 | @snoc k xs n h ih=>
   have⟨ss,hl,hs⟩:=ih;refine⟨ss.take k++ [yD5 G n (ss.drop k)],by simp;omega,.snoc n (by simp;omega) ?_⟩;rw[Ae];exact hs
variable {ss:List yAy}
theorem ShT.tree(h:ShT G ss xs):IsT ss.length xs:=by exact xFx
theorem ShT.fold(h:ShT G ss xs):∀st,yC3 G st xs=some (st++ss):=by
 induction h with
 |nil=>intro st;simp[yC3]
 | @snoc ss os xs n ho h ih=>
   intro st;rw[yFi,ih];simp only[Option.bind_some,yC3,yU];rw[iA (by simp;omega)];have hl:(st++(ss++os)).length-yAl n.f=(st++ss).length:=by simp;omega
   rw[hl,<-AB,take_left,drop_left,AB]
theorem yPj:∀{xs pre:List Nd}{st ss:List yAy},ShT G st pre->yC3 G st xs=some ss->ShT G ss (pre++xs)
 | [],pre,st,ss,h,e=>by simp[yC3]at e;subst e;simpa using h
 |n::xs,pre,st,ss,h,e=>by
  simp only[yC3,yU]at e
  by_cases hl:st.length<yAl n.f
  .rw[iB hl]at e;cases e
  .rw[iA hl]at e
   have h1:ShT G (st.take (st.length-yAl n.f)++ [yD5 G n (st.drop (st.length-yAl n.f))]) (pre++ [n]):=by refine .snoc n (by simp;omega) ?_;rw[Ae];exact h
   have h2:=yPj h1 e
   rw[AB]at h2
   exact h2
theorem yPi(h:yC3 G [] xs=some ss):ShT G ss xs:=by simpa using yPj G (pre:= []) .nil h
theorem ShT.valid(h:ShT G ss xs):ss.all (·.valid)=xs.all G:=by
 induction h with
 |nil=>rfl
 | @snoc ss os xs n ho h ih=>
   rw[An,An,<-ih,An];simp[yD5];cases G n<;>cases ss.all (·.valid)<;>cases os.all (·.valid)<;>rfl
theorem ShT.split(h:ShT G ss xs):∀{a b:List yAy},ss=a++b->∃ys zs,xs=ys++zs/\ShT G a ys/\ShT G b zs:=by
 induction h with
 |nil=>intro a b e;obtain⟨rfl,rfl⟩:a= []/\b= []:=by simpa using e.symm
       exact⟨[],[],rfl,.nil,.nil⟩
 | @snoc ss os xs n ho h ih=>
   intro a b e;exact zzU4
theorem ShT.inv{s:yAy}(h:ShT G [s] xs):∃ys n os,xs=ys++ [n]/\os.length=yAl n.f/\ShT G os ys/\s=yD5 G n os:=by exact xF8
inductive Kids:List yAy->List (List Nd)->Prop
 |nil:Kids [] []
 |cons {o:yAy} {os:List yAy} {k:List Nd} {ks:List (List Nd)} (h:ShT G [o] k) (t:Kids os ks):Kids (o::os) (k::ks)
theorem ShT.kids:∀{os:List yAy}{ys:List Nd},ShT G os ys->∃ks,ys=ks.flatten/\Kids G os ks
 | [],ys,h=>by
   have:=h.tree.zero
   subst this
   exact⟨[],rfl,.nil⟩
 |o::os,ys,h=>by
  obtain⟨a,b,rfl,h1,h2⟩:=ShT.split G h (a:= [o]) (b:=os) rfl
  obtain⟨ks,rfl,hk⟩:=ShT.kids h2
  exact⟨a::ks,rfl,.cons h1 hk⟩
variable {os:List yAy} {ks:List (List Nd)}
theorem Kids.length(h:Kids G os ks):os.length=ks.length:=by
 induction h with
 |nil=>rfl
 |cons _ _ ih=>simp[ih]
theorem Kids.tree(h:Kids G os ks):∀k∈ks,IsT 1 k:=by exact xGp
theorem Kids.nth(h:Kids G os ks):∀{j:Nat}{k:List Nd},ks[j]?=some k->∃o,os[j]?=some o/\ShT G [o] k:=by
 induction h with
 |nil=>intro j k hk;simp at hk
 |cons h1 _ ih=>
  intro j k hk;cases j with
  |zero=>simp at hk;subst hk;exact⟨_,rfl,h1⟩
  |succ j=>simp at hk;simpa using ih hk
theorem yJr(op:Int)(B:Nat):∀{os:List yAy}{i a:Nat},a<=B->(∀o∈os,o.nest+1<=B)->yA4 op i a os<=B
 | [],i,a,h,_=>h
 |o::os,i,a,h,g=>by
  unfold yA4
  apply yJr op B
  .have:=g o (by simp)
   split<;>omega
  .exact λo' ho=>g o' (by simp[ho])
theorem yRl(h:Kids G os ks){o:yAy}(ho:o∈os):∃k∈ks,ShT G [o] k:=by
 induction h with
 |nil=>cases ho
 |cons h1 _ ih=>
  rcases Ad.1 ho with rfl|ho
  .exact⟨_,by simp,h1⟩
  .have⟨k,hk,h2⟩:=ih ho;exact⟨k,by simp[hk],h2⟩
theorem yEp{k:List Nd}(h:k∈ks):k.length<=ks.flatten.length:=by
 induction ks with
 |nil=>cases h
 |cons a ks ih=>
  simp only[Ay,AC];rcases Ad.1 h with rfl|h
  .omega
  .have:=ih h;omega
theorem yM4:∀(n:Nat){s:yAy}{xs:List Nd},xs.length<=n->ShT G [s] xs->s.nest<=xs.length
 |0,s,xs,hn,h=>by
  obtain⟨ys,e,os,rfl,_⟩:=h.inv
  simp at hn
 |n+1,s,xs,hn,h=>by
  obtain⟨ys,e,os,rfl,_,h2,rfl⟩:=h.inv
  obtain⟨ks,rfl,hK⟩:=h2.kids
  simp only[AC,AI]at hn|-
  refine yJr e.f _ (AX _) λo ho=>?_
  have⟨k,hk,h3⟩:=yRl G hK ho
  have h4:=yEp hk
  have h5:=yM4 n qo h3
  omega
end
structure Nd.ok(e:Nd):Prop where
 s:e.s.size<=maxLen
 t:e.t.size<=maxLen
 f:(Lit.int .i64 e.f).wf=true
 lo:(Lit.int .u64 e.lo).wf=true
 up:(Lit.int .u64 e.up).wf=true
 n:(Lit.int .i64 e.n).wf=true
abbrev Nd.seven(e:Nd):List Vv:= [.int .i64 e.f,.string e.s,.bool e.hi,.string e.t,.int .u64 e.lo,.int .u64 e.up,.int .i64 e.n]
abbrev Nd.v(e:Nd):Vv:=.agg #[xi e.f,e.s,e.hi,e.t,xu e.lo,xu e.up,xi e.n]
def yA3:Nd:=⟨0,⟨#[]⟩,false,⟨#[]⟩,0,0,0⟩
def yL3(es:List Nd):List Vv:=es.flatMap Nd.seven
theorem yVm es:∀(k:Nat)(e:Nd),es[k]?=some e->∀j,j<7->(yL3 es)[k*7+j]?=e.seven[j]?:=yB6 (f:=Nd.seven) (λ_=>rfl) es
def yD1(w:Ww)(b off:Nat)(es:List Nd):Prop:=
 ∀i e,es[i]?=some e->xk w b (off+i*7) (xi e.f)/\xk w b (off+i*7+1) e.s/\xk w b (off+i*7+2) e.hi/\xk w b (off+i*7+3) e.t/\xk w b (off+i*7+4) (xu e.lo)/\xk w b (off+i*7+5) (xu e.up)/\xk w b (off+i*7+6) (xi e.n)
variable {b:Nat} {es:List Nd}
theorem yD1.k{B:Nat}(h:yD1 w b off es)(hb:Below B w w')(hlt:b<B):yD1 w' b off es:=by have c:=λo=>hb.cell (p:=(xd b o)) hlt;intro i e he;simpa only[c]using h i e he
def yC4(w:Ww)(O g cap:Nat)(es:List Nd):Prop:=w.ownsRow O 83 7 (xg g es.length cap) es.length (yL3 es)
variable {cap:Nat}
theorem yC4.at(h:yC4 w O g cap es):yD1 w g 0 es:=by
 intro i e he;have hi:=qf he;have c:=λj (hj:j<7)=>(AO h (i*7+j) qo).trans (yVm es i e he j hj);refine⟨?_,?_,?_,?_,?_,?_,?_⟩
 .simpa using c 0 qo
 .simpa using c 1 qo
 .simpa using c 2 qo
 .simpa using c 3 qo
 .simpa using c 4 qo
 .simpa using c 5 qo
 .simpa using c 6 qo
theorem yC4.lt(h:yC4 w O g cap es):O<=g/\g<w.heap.size:=AR h g rfl
theorem yC4.mono{base':Nat}(h:yC4 w O g cap es)(hb:base'<=O):yC4 w base' g cap es:=by exact yT8
variable {R:List Nd}
theorem yC4.caps(h:yC4 w O g cp R):R.length<=cp/\cp<=maxLen:=by exact yL7
theorem yIe(k:Int) w:Calls prog 144 #[xi k] w λe w'=>e=.returned (xi (yAl k))/\w'=w:=by
 by_cases h14:k=14
 .subst h14;exact xCv
 by_cases h15:k=15
 .subst h15;exact xCv
 by_cases h16:k=16
 .subst h16;exact xCv
 have a2:(k==14)=false:=by simpa using h14
 have a1:(k==15)=false:=by simpa using h15
 have a0:(k==16)=false:=by simpa using h16
 have H:Hid (yAl k=0):=by show yAl k=0;unfold yAl;rw[iA qo,iA h16]
 go_enter func144,ntmps144;go_wp2;go_ret;exact⟨by rw[H.out];rfl,rfl⟩
theorem yJv(k:Int) w:Calls prog 145 #[xi k] w λe w'=>e=.returned (xi (yCd k))/\w'=w:=by
 by_cases h15:k=15
 .subst h15;go_enter func145,ntmps145;go_wp2;go_ret;exact⟨rfl,rfl⟩
 by_cases h14:k=14
 .subst h14;go_enter func145,ntmps145;go_wp2;go_ret;exact⟨rfl,rfl⟩
 have a1:(k==14)=false:=by simpa using h14
 have a0:(k==15)=false:=by simpa using h15
 have H:Hid (yCd k=3):=by show yCd k=3;unfold yCd;rw[iA h15,iA h14]
 go_enter func145,ntmps145;go_wp2;go_ret;exact⟨by rw[H.out];rfl,rfl⟩
theorem yKw(op:Int)(i:Nat)(kid:Int) w (hop:¬op=16):Calls prog 93 #[xi op,xi i,xi kid] w λe w'=>e=.returned (yC1 op i kid)/\w'=w:=by
 have a0:(op==16)=false:=by simpa using hop
 by_cases hi:i=0
 .subst hi;have HL:Hid (yC1 op 0 kid=decide (yCd kid<yCd op)):=by show yC1 op 0 kid=_;unfold yC1;simp[hop]
  exact xF1
 .have zi:((i:Int)==0)=false:=by simpa using hi
  have HL:Hid (yC1 op i kid=decide (yCd kid<=yCd op)):=by show yC1 op i kid=_;unfold yC1;simp[hop,hi]
  exact xF1
structure Win(w:Ww)(b off cap:Nat)(xs:List Nd):Prop where
 U:yD1 w b off xs
 lt:b<w.heap.size
 X:xs.length<=cap
 cap:cap<=9223372036854775807
 sm:xs.length<=281474976710656
variable {xs:List Nd}
theorem Win.k(h:Win w b off cap xs)(hb:Below w w w'):Win w' b off cap xs:=
 ⟨h.U.k hb h.lt,qv hb.size h.lt,h.X,h.cap,h.sm⟩
variable {e:Nd}
theorem Win.f(h:Win w b off cap xs){i:Nat}(he:xs[i]?=some e):(xk w b (off+i*7) (xi e.f):Prop):=(h.U i e he).1
theorem yD8(h:Win w b off cap (xs++ [e])):Calls prog 91 #[(xy b off (xs.length+1) cap)] w λr w'=>r=.returned (xi e.f)/\w'=w:=by have hk:=h.f (i:=xs.length) (e:=e) (by simp);have⟨n,hn⟩:=qE xs.length;have h1:=h.X;have h2:=h.cap;rw[AC,AI]at h1;rw[<-hn]at hk h1|-;clear h hn;go_enter func91,ntmps91;go_wp2;go_ret;exact⟨rfl,rfl⟩
def yT5(xs:List Nd)(w:Ww)(r:Ending)(w':Ww):Prop:=w'=w/\((∃i:Nat,r=.returned (xi i)/\i<=xs.length/\IsT 1 (xs.drop i))\/(r=.returned (xi (-1))/\∀j,j<=xs.length->¬IsT 1 (xs.drop j)))
theorem yJw(h:Win w b off cap xs):Calls prog 90 #[(xy b off xs.length cap)] w (yT5 xs w):=by
 have HW:=qH1 h;have h1:=h.X;have h2:=h.cap;have h3:=h.sm;have⟨n,hn⟩:=qE xs.length;have HN:=qH1 hn;rw[<-hn]at h1 h3|-;clear h hn;go_enter func90,ntmps90;go_wp2;go_loopw[3,4] (λnv iv wr=>∃(i m:Nat),iv=(xi i)/\nv=(xi m)/\i<=n/\m<=1+3*(n-i)/\Sc m (xs.drop i)/\wr=w) (λ_ iv _=>(intOf iv).toNat);case atStart=>exact⟨n,1,rfl,rfl,Ag _,qo,by rw[HN.out,drop_length];exact .nil,rfl⟩
 case round=>
  obtain⟨i,m,rfl,rfl,hi,hm,hS,rfl⟩:=hrel;have HS:=qH1 hS;by_cases hm0:m=0
  .subst hm0;go_wp2;go_ret;refine⟨rfl,.inl ⟨i,rfl,qw HN.out,?_⟩⟩;have:=HS.tree (pre:= []);exact this.1 .nil
  .obtain⟨m',rfl⟩:∃m',m=m'+1:=⟨m-1,qo⟩;have zm:(0:Int)<(m':Int)+1:=qo
   by_cases hi0:i=0
   .subst hi0;go_wp2;go_ret;exact⟨rfl,.inr ⟨rfl,λj hj=>xDf HS.out j (AX _) hj⟩⟩
   .obtain⟨i',rfl⟩:∃i',i=i'+1:=⟨i-1,qo⟩;obtain⟨e,he⟩:∃e,xs[i']?=some e:=qg (qw HN.out);have hk:=HW.f he;have a0:i'<xs.length:=qw HN.out
    have a2:Hid (Sc (m'+yAl e.f) (xs.drop i')):=by show Sc _ _;rw[Ak a0,show xs[i']=e from AN ((getElem?_eq_getElem a0).symm.trans he)];exact .cons e HS.out
    have ha:=yHi e.f;have zi:¬(i':Int)<0:=qo
    go_wp2_with fail;refine(yIe e.f _).mono ?_;rintro r w2 ⟨rfl,a1⟩;rw[a1];clear a1;go_wp2;go_roundw;case rel=>exact⟨i',m'+yAl e.f,by go_num,by go_num,qo,qo,a2.out,by first|rfl|trivial⟩
    case measure=>simp[intOf]<;>omega
theorem yRf(h:Win w b off cap xs):Calls prog 41 #[(xy b off xs.length cap)] w λr w'=>w'=w/\((r=.returned true/\IsT 1 xs)\/(r=.returned false/\¬IsT 1 xs)):=by
 have HW:=qH1 h;have h1:=h.X;have h2:=h.cap;have h3:=h.sm;have⟨n,hn⟩:=qE xs.length;have HN:=qH1 hn;have HF:Hid (Calls prog 90 #[(xy b off n cap)] w (yT5 xs w)):=hn▸(yJw h)
 rw[<-hn]at h1 h3|-;clear h hn;by_cases hn0:n=0
 .subst hn0;have HE:Hid (¬IsT 1 xs):=λq=>qv q.X HN.out
  go_enter func41,ntmps41;go_wp2;go_ret;exact⟨rfl,.inr ⟨rfl,HE.out⟩⟩
 .have zn:(0:Int)<(n:Int):=qo
  go_enter func41,ntmps41;go_wp2_with fail;apply HF.mono;rintro r w2 ⟨a0,(⟨i,rfl,hi,hT⟩|⟨rfl,hT⟩)⟩
  .rw[a0];have HT:=qH2 hi hT;by_cases hi0:i=0
   .subst hi0;go_wp2;go_ret;exact⟨rfl,.inl ⟨rfl,by simpa using HT.2⟩⟩
   .have zi:((i:Int)==0)=false:=by simpa using hi0
    go_wp2;go_ret;refine⟨rfl,.inr ⟨rfl,λq=>hi0 ?_⟩⟩;exact(yMc (xs:=xs) (i:=0) (j:=i) (by simpa using q) HT.2 (AX _) HT.1).symm
  .rw[a0];have HT:Hid (¬IsT 1 xs):=λq=>hT 0 (AX _) (by simpa using q);go_wp2;go_ret;exact⟨rfl,.inr ⟨rfl,HT.out⟩⟩
def OwnV(w:Ww)(O g cp:Nat)(us:List Vv):Prop:=w.ownsRow O 23 1 (xg g us.length cp) us.length us
variable {us:List Vv}
theorem OwnV.lt(h:OwnV w O g cp us):O<=g/\g<w:=AR h g rfl
theorem OwnV.k(h:OwnV w O g cp us)(hb:Below w w w'):OwnV w' O g cp us:=yAg h (Chg.h hb) (S:=λ_=>False) (λk q z=>z)
theorem OwnV.z(h:OwnV w O g cp us){v:Vv}(hv:us[j]?=some v):(xk w g j v:Prop):=by have hj:=qf hv;rw[AO h j qo,hv]
theorem OwnV.caps(h:OwnV w O g cp us):us.length<=cp/\cp<=maxLen:=by exact yL7
theorem xAo(w:Ww)(hb:O<=w):OwnV (xw w #[] 23) O w 0 []:=
 World.ownsRow_made w #[] 0 hb (AX _) (by simp)
theorem xAn(w:Ww)(hb:O<=w)(v:Vv):OwnV (xw w #[v] 23) O w 1 [v]:=
 World.ownsRow_lit w #[v] 1 hb qj rfl
theorem Tryz.infoNds:(prog.info? 23).map (λi=>(i.zero,i.size,i.bytes))=some (some (.slice none 0 0),1,24):=qk
theorem xIu:ApT 161 23 1 (λl=>l) OwnV AtV:=apTV ⟨underlying161,_,_,Tryz.infoNds,rfl,qj,qj⟩ Iff.rfl
def yFg(b:Nat):Nat->Nat->List (List Nd)->List Vv
 |_,_,[]=> []
 |o,cap,k::ks=>(xy b o k.length cap)::yFg b (o+k.length*7) (cap-k.length) ks
theorem yE(b:Nat):∀(o cap:Nat)(ks:List (List Nd)),(yFg b o cap ks).length=ks.length
 |_,_,[]=>rfl
 |o,cap,k::ks=>by simp[yFg,yE]
theorem yO9(b:Nat):∀(o cap:Nat)(ks:List (List Nd)),∀v∈yFg b o cap ks,v.oneCell'=true
 |_,_,[],v,h=>by cases h
 |o,cap,k::ks,v,h=>by
  rcases Ad.1 h with rfl|h
  .rfl
  .exact yO9 b _ _ ks v h
theorem yD1.part{o:Nat}{ys:List Nd}(h:yD1 w b o (xs++ys)):yD1 w b o xs/\yD1 w b (o+xs.length*7) ys:=by refine⟨λi e he=>h i e (by rw[getElem?_append_left (qf he)];exact he),λi e he=>?_⟩;have:=h (xs.length+i) e (by rw[getElem?_append_right qo,Nat.add_sub_cancel_left];exact he);rw[Nat.add_mul,<-Ap]at this;exact this
theorem yFf:∀{ks:List (List Nd)}{o cap:Nat}{rest:List Nd},Win w b o cap (ks.flatten++rest)->∀{j:Nat}{k:List Nd},ks[j]?=some k->∃o' cap',(yFg b o cap ks)[j]?=some (.slice (some ⟨b,o',none⟩) k.length cap')/\Win w b o' cap' k
 | [],_,_,_,_,j,k,h=>by simp at h
 |a::ks,o,cap,rest,hW,j,k,h=>by
  simp only[Ay,AB]at hW
  have hp:=hW.U.part
  have hl:=hW.X
  have hc:=hW.cap
  have hs:=hW.sm
  simp only[AC]at hl hs
  cases j with
  |zero=>
   simp at h
   subst h
   exact⟨o,cap,rfl,hp.1,hW.lt,qo,hc,qo⟩
  |succ j=>
   simp at h
   exact yFf (ks:=ks) (o:=o+a.length*7) (cap:=cap-a.length) (rest:=rest) ⟨hp.2,hW.lt,by simp only[AC];omega,qo,by simp only[AC];omega⟩ h
structure KiJ(w:Ww)(b o cap:Nat)(pre suf:List (List Nd))(g cp:Nat)(wr:Ww):Prop where
 Z:OwnV wr w g cp (yFg b (o+pre.flatten.length*7) (cap-pre.flatten.length) suf)
 k:Below w w wr
theorem yEq{o:Nat}{ks:List (List Nd)}(h:Win w b o cap (ks.flatten++ [e]))(hk:ks.length=yAl e.f)(hT:∀k∈ks,IsT 1 k):
  Calls prog 92 #[(xy b o (ks.flatten.length+1) cap)] w λr w'=>∃g cp,r=.returned (xg g ks.length cp)/\OwnV w' w g cp (yFg b o cap ks)/\Below w w w':=by
 have HW:=qH2 h hT;have ab:=h.f (i:=ks.flatten.length) (e:=e) (by simp);have h1:=h.X;have h2:=h.cap;have h3:=h.sm;have⟨n,hn⟩:=qE ks.flatten.length;have HN:=qH1 hn;rw[AC,AI]at h1 h3;rw[<-hn]at ab h1 h3|-;have ha:=yHi e.f;have HA:=qH1 hk;have⟨W0,af⟩:=qW (xw w #[] 23);have ah:Hid (KiJ w b o cap ks [] w 0 W0):=af▸⟨xAo w qr,qB⟩
 have av:(xk W0 b (o+n*7) (xi e.f):Prop):=by rw[(Chg.h ah.k (S:=λ_=>False)).z (p:=(xd b (o+n*7))) h.lt (λq=>q)];exact ab
 have⟨a,a5⟩:=qE (yAl e.f);have aq:Hid (Calls prog 144 #[xi e.f] W0 λr w'=>r=.returned (xi a)/\w'=W0):=a5▸(yIe e.f W0)
 have ay:Hid (ks.length=a):=a5▸hk
 rw[hk,<-a5];rw[<-a5]at ha;clear h hn hT hk ab HA a5;go_enter func92,ntmps92;go_upto_region 3 with fail;rw[<-af];clear af;go_wp2_with fail;apply aq.mono;rintro r w1 ⟨rfl,aj⟩;rw[aj];clear aj av aq;go_wp2;go_loopw[3,4,5] (λrv ov kv wr=>∃(c m g cp:Nat)(pre suf:List (List Nd)),ks=pre++suf/\pre.length=c/\suf.length+c=a/\m=pre.flatten.length/\m<=n/\kv=(xi c)/\rv=(xy b o m cap)/\ov=(xg g suf.length cp)/\KiJ w b o cap pre suf g cp wr) (λ_ _ kv _=>(intOf kv).toNat);case atStart=>exact⟨a,n,_,0,ks,[],by simp,ay,by simp,HN,Ag _,rfl,rfl,rfl,ah⟩
 case round=>
  obtain⟨c,m,g,cp,pre,suf,an,al,ar,hm,aA,rfl,rfl,rfl,hJ⟩:=hrel;have HJ:=qH4 hJ an hm al;have aC:=hJ.Z.lt;have ak:=hJ.k.size;clear hJ an hm al ah;have⟨q,hq⟩:=qE suf.length;have HQ:=qH1 hq;rw[<-hq]at ar|-;clear hq;by_cases hc0:c=0
  .subst hc0;have HF:=qH2 (length_eq_zero_iff.1 HJ.2.2.2) (by omega:q=a);go_wp2;go_ret;have hp:=HF.1;have hj:=HJ.1.Z;have hs:=HJ.2.1;rw[hp]at hj hs;simp at hj hs;refine⟨g,cp,by rw[<-HF.2];rfl,by rw[hs];exact hj,HJ.1.k⟩
  .obtain⟨c',rfl⟩:∃c',c=c'+1:=⟨c-1,qo⟩;have zc:(0:Int)<(c':Int)+1:=qo
   obtain⟨a0,k,a1⟩:∃a0 k,pre=a0++ [k]:=by
    rcases eq_nil_or_concat pre with h|⟨p',k,h⟩
    .have:=HJ.2.2.2;rw[h]at this;simp at this
    .exact⟨p',k,by rw[h,concat_eq_append]⟩
   have⟨m',a2⟩:=qE a0.flatten.length;have am:m=m'+k.length:=by rw[HJ.2.2.1,a1,a2];simp
   have a3:=HW.2 k (by rw[HJ.2.1,a1];simp);have aw:=a3.X;have ai:Win wr b o cap pre.flatten:=by have hw:=HW.1;rw[HJ.2.1]at hw;simp only[flatten_append,AB]at hw;have h8:=hw.X;have h9:=hw.sm;simp only[AC]at h8 h9;exact Win.k ⟨hw.U.part.1,hw.lt,qo,hw.cap,qo⟩ HJ.1.k
   have HC:Hid (Calls prog 90 #[(xy b o m cap)] wr λr w'=>r=.returned (xi m')/\w'=wr):=by
    have hf:=yJw ai;rw[<-HJ.2.2.1]at hf;apply hf.mono;have ad:pre.flatten.drop m'=k:=by rw[a1,a2];simp
    rintro r w2 ⟨a8,(⟨i,rfl,hi,a9⟩|⟨rfl,a9⟩)⟩
    .refine⟨?_,a8⟩;have au:m'<=pre.flatten.length:=by rw[a1,a2];simp
     have:i=m':=by
      rcases Nat.le_total i m' with aa|aa
      .exact yMc a9 (ad▸a3) aa au
      .exact(yMc (ad▸a3) a9 aa hi).symm
     rw[this]
    .exact absurd (ad▸a3) (a9 m' (by rw[a1,a2];simp))
   have HP:=qH4 a1 a2 a3 am;have aB:m'<=m:=qo
   have z1:(m':Int)<=(m:Int):=qo
   have z2:(m:Int)<=(cap:Int):=qo
   have z3:(m':Int)<=(cap:Int):=qo
   clear ai a3 a1 a2 am aw;go_wp2_with fail;apply HC.mono;rintro r w2 ⟨rfl,a8⟩;rw[a8];clear a8 HC;have⟨W5,a4⟩:=qW (xw wr #[(xy b (o+m'*7) (m-m') (cap-m'))] 23);have ae:=qN a4
   have az:=qS a4
   have ag:Hid (OwnV W5 w wr 1 [(xy b (o+m'*7) (m-m') (cap-m'))]/\OwnV W5 w g cp (yFg b (o+pre.flatten.length*7) (cap-pre.flatten.length) suf)/\Below w w W5):=by refine⟨?_,HJ.1.Z.k ae,HJ.1.k.trans (ae.mono ak)⟩;rw[a4];exact xAn wr ak _
   go_wp2_with (at_builtin;rw[<-a4];refine wpA rfl (apK xIu rfl w [(xy b (o+m'*7) (m-m') (cap-m'))] (yFg b (o+pre.flatten.length*7) (cap-pre.flatten.length) suf) rfl rfl rfl ?hm ?hO (atV0 ?hc ?hy) (lT ?hl) ?hb ?_));case hm=>rw[yE];exact HQ
   case hO=>exact ag.1
   case hc=>exact λj v hv=>ag.2.1.z hv
   case hy=>exact yO9 _ _ _ _
   case hl=>rw[yE,<-HQ];simp;omega
   case hb=>omega
   intro g' ao w' a6 ac ax;rw[<-a4]at ac;have a7:Hid (KiJ w b o cap a0 (k::suf) g' ao w'/\ks=a0++(k::suf)/\a0.length=c'/\(k::suf).length=q+1):=by
    have hP:=HP.out;refine⟨⟨?_,ag.2.2.grown ac qo (λj hj=>by cases hj;omega)⟩,by rw[HJ.2.1,hP.1];simp,?_,by rw[HQ];rfl⟩
    .have e1:(List.map AG pre).sum=m'+k.length:=by rw[<-Av,<-HJ.2.2.1];exact hP.2.2.2
     rw[e1]at a6;have e2:m-m'=k.length:=qo
     rw[e2]at a6;have e3:o+(m'+k.length)*7=o+m'*7+k.length*7:=qo
     have e4:cap-(m'+k.length)=cap-m'-k.length:=qo
     rw[e3,e4]at a6;rw[<-hP.2.1];exact a6
    .have:=HJ.2.2.2;rw[hP.1]at this;simpa using this
   clear a6 ac ax a4 ae;go_wp2;go_roundw;case rel=>exact⟨c',m',g',ao,a0,k::suf,a7.2.1,a7.2.2.1,qw a7.2.2.2,HP.2.1,qo,by go_num,rfl,by rw[a7.2.2.2];go_num,a7.1⟩
   case measure=>simp[intOf]<;>omega
section
variable (G:Nd->Bool)
def xE7(n:Nat):Prop:=∀(w:Ww)(b o cap:Nat)(xs:List Nd)(s:yAy),xs.length<=n->Win w b o cap xs->ShT G [s] xs->(xf 42 #[(xy b o xs.length cap)] w (xi s.nest):Prop)
theorem yM5(op:Int){os:List yAy}{a:Nat}{o:yAy}(h:os[j]?=some o):yA4 op j a (os.drop j)=yA4 op (j+1) (max a (o.nest+if yC1 op j o.f then 1 else 0)) (os.drop (j+1)):=by exact xFz
structure NeJ(w:Ww)(b o cap:Nat)(ks:List (List Nd))(g cp:Nat)(wr:Ww):Prop where
 Z:OwnV wr w g cp (yFg b o cap ks)
 k:Below w w wr
theorem NeJ.K{o:Nat}{ks:List (List Nd)}(h:NeJ w b o cap ks g cp wr)(hb:Below wr wr w'):NeJ w b o cap ks g cp w':=⟨h.Z.k hb,h.k.trans (hb.mono h.k.size)⟩
theorem xD5(H:xE7 G n):xE7 G (n+1):=by
 intro w b o cap xs s hn hW hS;obtain⟨ys,e,os,rfl,ax,ak,hs⟩:=ShT.inv G hS;obtain⟨ks,rfl,hK⟩:=ShT.kids G ak;have ad:=Kids.length G hK;have HF:=qH6 hW hK hs ad (by simp at hn;rw[Av];omega:ks.flatten.length<=n) H;have au:=yHi e.f;have⟨a3,a5⟩:=qE ks.length;have HA:=qH1 a5;have aB:a3<=3:=qo
 have aC:=hW.cap;have ar:ks.flatten.length+1<=281474976710656:=by have:=hW.sm;rw[AC,AI]at this;exact this
 have aw:ks.flatten.length+1<=cap:=by have:=hW.X;rw[AC,AI]at this;exact this
 have HT:=qH1 (yD8 hW);have aa:Hid (Calls prog 92 #[(xy b o (ks.flatten.length+1) cap)] w λr w'=>∃g cp,r=.returned (xg g a3 cp)/\OwnV w' w g cp (yFg b o cap ks)/\Below w w w'):=a5▸(yEq hW qo (Kids.tree G hK))
 have HB:Hid (∀o∈os,o.nest<=281474976710656):=λo' ho=>by have⟨k,hk,h3⟩:=yRl G hK ho;have h4:=yEp hk;have h5:=yM4 G _ qr h3;omega
 have ao:Hid (yA4 e.f 0 0 os=s.nest):=by show _=_;rw[hs];rfl
 rw[AC,AI];have⟨m,hm⟩:=qE ks.flatten.length;rw[<-hm]at HT aa aw ar|-;have⟨sn,a2⟩:=qE s.nest;have an:Hid (yA4 e.f 0 0 os=sn):=a2▸ao
 rw[<-a2];clear hW hS ak hK hs ax ad H a5 hm hn a2 ao au;go_enter func42,ntmps42;go_wp2_with fail;refine HT.mono ?_;rintro r w1 ⟨rfl,ac⟩;rw[ac];clear ac HT;go_wp2_with fail;refine aa.mono ?_;rintro r w1 ⟨g,cp,rfl,hO,ai⟩;have al:Hid (NeJ w b o cap ks g cp w1):=⟨hO,ai⟩;clear hO ai aa;go_wp2;go_loopw[5,6] (λmv iv wr=>∃(j a:Nat),iv=(xi j)/\mv=(xi a)/\j<=a3/\a<=999999999999999/\yA4 e.f j a (os.drop j)=sn/\NeJ w b o cap ks g cp wr) (λ_ iv _=>a3-(intOf iv).toNat);case atStart=>exact⟨0,0,rfl,rfl,AX _,qo,an.out,al.out⟩
 case round=>
  obtain⟨j,a,rfl,rfl,hj,ha,hN,hJ⟩:=hrel;have HJ:=qH2 hN hJ;have av:=hJ.Z.lt;have az:=hJ.k.size;clear hN hJ al an;by_cases hlt:j<a3
  .have zj:(j:Int)<(a3:Int):=qo
   obtain⟨k,hk⟩:∃k,ks[j]?=some k:=qg (qw HA.out);obtain⟨os1,a4,a7⟩:=Kids.nth G HF.2.1 hk;obtain⟨o',a8,hv,aj⟩:=yFf HF.1 hk;have hc:=HJ.2.Z.z hv;have af:k.length<=n:=qv (yEp (Au hk)) HF.2.2.2.2.1
   have a6:=aj.k HJ.2.k;have ab:=qH1 (HF.2.2.2.2.2 wr b o' a8 k os1 af a6 a7);obtain⟨ky,ke,ko,rfl,_,_,ae⟩:=ShT.inv G a7;have ah:os1.f=ke.f:=by rw[ae];rfl
   have a9:Hid (∀w2,Below wr wr w2->Calls prog 91 #[(xy b o' (ky++ [ke]).length a8)] w2 λr w'=>r=.returned (xi os1.f)/\w'=w2):=λw2 hb2=>by have:=yD8 (a6.k hb2);rw[AC,AI,ah];exact this
   have aA:=HB.out os1 (Au a4);have ay:Hid (yA4 e.f (j+1) (max a (os1.nest+if yC1 e.f j os1.f then 1 else 0)) (os.drop (j+1))=sn):=by show _=_;rw[<-yM5 e.f a4];exact HJ.1
   obtain⟨kl,ag⟩:=qE ((ky++ [ke]).length);rw[<-ag]at hc ab a9;clear hk a4 a7 hv aj af a6 ae ah ag;go_wp2_with fail;refine ab.mono ?_;rintro r w2 ⟨rfl,hb2⟩;have HJ2:=qH1 (HJ.2.K hb2);have hc2:(xk w2 g j (xy b o' kl a8):Prop):=by rw[(Chg.h hb2 (S:=λ_=>False)).z (p:=(xd g j)) av.2 (λq=>q)];exact hc
   have am:=qH1 (a9.out w2 hb2);clear hc hb2 a9 ab;have fin:∀(x:Nat),x=os1.nest+(if yC1 e.f j os1.f then 1 else 0)->x<=281474976710657->Hid (∀y:Nat,y=max a x->yA4 e.f (j+1) y (os.drop (j+1))=sn):=λx hx _ y hy=>by rw[hy,hx];exact ay.out
   by_cases h16:e.f=16
   .have a0:yC1 e.f j os1.f=true:=by unfold yC1;rw[h16];rfl
    rw[a0]at fin;have HFin:=fin (os1.nest+1) rfl qo;have aq:(e.f==16)=true:=by simpa using h16
    clear fin a0 h16;exact xGh
   .have aq:(e.f==16)=false:=by simpa using h16
    go_wp2_with fail;refine am.mono ?_;rintro r w3 ⟨rfl,a1⟩;rw[a1];clear a1 am;go_wp2_with fail;refine(yKw e.f j os1.f _ h16).mono ?_;rintro r w3 ⟨rfl,a1⟩;rw[a1];clear a1;cases a0:yC1 e.f j os1.f
    .rw[a0]at fin;have HFin:=fin os1.nest rfl qo;clear fin a0;by_cases hgt:a<os1.nest
     .have zg:(a:Int)<(os1.nest:Int):=qo
      refine zY ?_;exact⟨j+1,os1.nest,by go_num,rfl,qo,qo,HFin.out _ qo,HJ2.out⟩
     .have zg:¬(a:Int)<(os1.nest:Int):=qo
      refine zY ?_;exact⟨j+1,a,by go_num,rfl,qo,qo,HFin.out _ qo,HJ2.out⟩
    .rw[a0]at fin;have HFin:=fin (os1.nest+1) rfl qo;clear fin a0;exact xGh
  .have zj:¬(j:Int)<(a3:Int):=qo
   have hd:a=sn:=by have:=HJ.1;rw[drop_eq_nil_of_le (qv HA.out HF.2.2.2.1)]at this;exact this
   subst hd;go_wp2;go_ret;exact⟨rfl,HJ.2.k⟩
theorem yTf:∀n,xE7 G n
 |0=>λw b o cap xs s hn hW hS=>by
  obtain⟨ys,e,os,rfl,_⟩:=ShT.inv G hS
  simp at hn
 |n+1=>xD5 G (yTf n)
end
section
def Hd(Q:U8->Prop)(r:List U8):Prop:=r= []\/∃c zs,r=c::zs/\Q c
theorem Hd.mono{Q R:U8->Prop}(h:∀c,Q c->R c):Hd Q r->Hd R r
 | .inl q=>.inl q
 | .inr ⟨c,zs,h1,h2⟩=>.inr ⟨c,zs,h1,h c h2⟩
theorem yW7:∀(a b:List U8){r r':List U8},(∀c∈a,isOp c)->(∀c∈b,isOp c)->Hd (λc=>¬isOp c) r->Hd (λc=>¬isOp c) r'->a++r=b++r'->a=b/\r=r'
 | [],[],r,r',_,_,_,_,h=>⟨rfl,by simpa using h⟩
 |x::a,[],r,r',ha,_,_,hr',h=>by
  rcases hr' with rfl|⟨c,zs,rfl,hc⟩
  .cases h
  .simp only[AE,Aa,AD]at h
   exact absurd (h.1▸ha x (by simp)) hc
 | [],y::b,r,r',_,hb,hr,_,h=>by
   rcases hr with rfl|⟨c,zs,rfl,hc⟩
   .cases h
   .simp only[AE,Aa,AD]at h
    exact absurd (h.1▸hb y (by simp)) hc
 |x::a,y::b,r,r',ha,hb,hr,hr',h=>by
  simp only[AE,AD]at h
  have⟨h1,h2⟩:=yW7 a b (λc hc=>ha c (by simp[hc])) (λc hc=>hb c (by simp[hc])) hr hr' h.2
  exact⟨by rw[h.1,h1],h2⟩
theorem yTo(zs:List U8):Hd (λc=>c=41\/c=124) (124::zs):=.inr ⟨124,zs,rfl,.inr rfl⟩
section
variable (hU:∀xs t t',yAn n xs t->yAn m xs t'->t=t')
include hU
theorem xDn{xs r':List U8}(h:RepG (yAn n) xs t)(k:RepG (yAn m) ys t')(hr:Hd (λc=>¬isOp c) r)(hr':Hd (λc=>¬isOp c) r')(e:xs++r=ys++r'):xs=ys/\t=t'/\r=r':=by obtain⟨a,o,u,rfl,h2,h3,rfl⟩:=h;obtain⟨a',o',u',rfl,k2,k3,rfl⟩:=k;rw[AB,AB]at e;have ea:=yI5 h2 k2 e;subst ea;obtain rfl:=hU _ _ _ h2 k2;obtain⟨rfl,rfl⟩:=yW7 o o' h3 k3 hr hr' (Ab e);exact⟨rfl,rfl,rfl⟩
theorem yJm:∀{ts us:List Pat}{xs ys r r':List U8},SeqG (yAn n) ts xs->SeqG (yAn m) us ys->Hd (λc=>c=41\/c=124) r->Hd (λc=>c=41\/c=124) r'->xs++r=ys++r'->ts=us/\xs=ys/\r=r'
 | [],[],xs,ys,r,r',h,k,hr,hr',e=>by
   have h:=h
   have k:=k
   subst h k
   exact⟨rfl,rfl,by simpa using e⟩
 |t::ts,[],xs,ys,r,r',h,k,hr,hr',e=>by
  have k:=k
  subst k
  obtain⟨as_,zs,rfl,⟨a,o,u,rfl,h2,h3,_⟩,h4⟩:=h
  obtain⟨c,yt,rfl,n1,n2,n3⟩:=h2.first
  rcases hr' with rfl|⟨c',zs',rfl,hc⟩
  .simp at e
  .simp only[AE,Aa,AD]at e
   rcases hc with q|q
   .exact absurd (e.1.trans q) n1
   .exact absurd (e.1.trans q) n2
 | [],u::us,xs,ys,r,r',h,k,hr,hr',e=>by
   have h:=h
   subst h
   obtain⟨as_,zs,rfl,⟨a,o,u',rfl,h2,h3,_⟩,h4⟩:=k
   obtain⟨c,yt,rfl,n1,n2,n3⟩:=h2.first
   rcases hr with rfl|⟨c',zs',rfl,hc⟩
   .simp at e
   .simp only[AE,Aa,AD]at e
    rcases hc with q|q
    .exact absurd (e.1.symm.trans q) n1
    .exact absurd (e.1.symm.trans q) n2
 |t::ts,u::us,xs,ys,r,r',h,k,hr,hr',e=>by
  obtain⟨as_,zs,rfl,h2,h3⟩:=h
  obtain⟨bs,ws,rfl,k2,k3⟩:=k
  have hd:∀{j:Nat}{vs:List Pat}{qs rr:List U8},SeqG (yAn j) vs qs->Hd (λc=>c=41\/c=124) rr->Hd (λc=>¬isOp c) (qs++rr):=λ{j vs qs rr} hq hrr=>by
   cases vs with
   |nil=>
    have hq:=hq
    subst hq
    refine hrr.mono (λc hc=>?_)
    rcases hc with rfl|rfl
    .unfold isOp;decide
    .unfold isOp;decide
   |cons v vs=>
    obtain⟨a1,z1,rfl,⟨a,o,u',rfl,g2,g3,_⟩,g4⟩:=hq
    obtain⟨c,yt,rfl,n1,n2,n3⟩:=g2.first
    exact .inr ⟨c,_,by simp only[AE];rfl,n3⟩
  rw[AB,AB]at e
  obtain⟨rfl,rfl,e2⟩:=xDn hU h2 k2 (hd h3 hr) (hd k3 hr') e
  obtain⟨rfl,rfl,e3⟩:=yJm h3 k3 hr hr' e2
  exact⟨rfl,rfl,e3⟩
theorem ySb:∀{os us:List (List Pat)}{xs ys r r':List U8},AltG (yAn n) os xs->AltG (yAn m) us ys->Hd (λc=>c=41) r->Hd (λc=>c=41) r'->xs++r=ys++r'->os=us/\xs=ys
 | [],_,_,_,_,_,h,_,_,_,_=>h.elim
 |_::_,[],_,_,_,_,_,k,_,_,_=>k.elim
 | [ts],[us],xs,ys,r,r',h,k,hr,hr',e=>by
   obtain⟨rfl,rfl,_⟩:=yJm hU (ts:=ts) (us:=us) h k (hr.mono (λc q=>.inl q)) (hr'.mono (λc q=>.inl q)) e
   exact⟨rfl,rfl⟩
 | [ts],u1::u2::us,xs,ys,r,r',h,⟨a,z,k1,k2,k3⟩,hr,hr',e=>by
   subst k1
   rw[AB,AE]at e
   have⟨_,_,e3⟩:=yJm hU (ts:=ts) (us:=u1) h k2 (hr.mono (λc q=>.inl q)) (yTo _) e
   rcases hr with rfl|⟨c,zs,rfl,hc⟩
   .cases e3
   .simp only[AD]at e3
    rw[hc]at e3
    exact absurd e3.1 qj
 |t1::t2::ts,[us],xs,ys,r,r',⟨a,z,h1,h2,h3⟩,k,hr,hr',e=>by
  subst h1
  rw[AB,AE]at e
  have⟨_,_,e3⟩:=yJm hU (ts:=t1) (us:=us) h2 k (yTo _) (hr'.mono (λc q=>.inl q)) e
  rcases hr' with rfl|⟨c,zs,rfl,hc⟩
  .cases e3
  .simp only[AD]at e3
   rw[hc]at e3
   exact absurd e3.1 qj
 |t1::t2::ts,u1::u2::us,xs,ys,r,r',⟨a,z,h1,h2,h3⟩,⟨b,y,k1,k2,k3⟩,hr,hr',e=>by
  subst h1 k1
  rw[AB,AB,AE,AE]at e
  obtain⟨rfl,rfl,e3⟩:=yJm hU h2 k2 (yTo _) (yTo _) e
  simp only[AD,true_and]at e3
  obtain⟨e4,rfl⟩:=ySb h3 k3 hr hr' e3
  exact⟨by rw[e4],rfl⟩
end
theorem yT0:∀(n:Nat){m:Nat}(xs:List U8)(t t':Pat),yAn n xs t->yAn m xs t'->t=t'
 |0,_,_,_,_,h,_=>h.elim
 |n+1,0,_,_,_,_,k=>k.elim
 |n+1,m+1,xs,t,t',h,k=>by
  have hu:∀xs t t',yAn n xs t->yAn m xs t'->t=t':=λxs t t' p q=>yT0 n xs t t' p q
  have hc91:∀{p:List U8}{i k:Nat}{f:U8->Bool},p[i]?=some 91->yAt p (i+1)=.inl (f,k)->∃zs,cut p i k=91::zs:=λ{p i k f} h1 h2=>by
   have hg:=yBe h2
   have:=yBq (p:=p) (i:=i) (j:=i+1) (k:=k) (by omega) (by omega)
   rw[yCb h1]at this
   exact⟨_,this⟩
  rcases h with⟨c,rfl,hs,rfl⟩|⟨rfl,rfl⟩|⟨c,rfl,rfl⟩|⟨ys,os,rfl,h2,rfl⟩|⟨p,i,j,f,h1,h2,h3,rfl⟩<;>
   rcases k with⟨c',k1,ks,rfl⟩|⟨k1,rfl⟩|⟨c',k1,rfl⟩|⟨zs,us,k1,k2,rfl⟩|⟨p',i',j',f',k1,k2,k3,rfl⟩
  .simp at k1;rw[k1]
  .simp at k1;subst k1;exact absurd (by unfold yB3;simp) hs
  .simp at k1
  .have:=congrArg AG k1;simp at this
  .have⟨zs,hz⟩:=hc91 k1 k2
   rw[hz]at k3;simp at k3;rw[k3.1]at hs;exact absurd (by unfold yB3;simp) hs
  .simp at k1;subst k1;exact absurd (by unfold yB3;simp) ks
  .rfl
  .simp at k1
  .have:=congrArg AG k1;simp at this
  .have⟨zs,hz⟩:=hc91 k1 k2
   rw[hz]at k3;simp at k3
  .simp at k1
  .simp at k1
  .simp at k1;rw[k1]
  .simp at k1
  .have⟨zs,hz⟩:=hc91 k1 k2
   rw[hz]at k3;simp at k3
  .have:=congrArg AG k1;simp at this
  .have:=congrArg AG k1;simp at this
  .simp at k1
  .simp only[AE,AD,true_and]at k1
   obtain⟨rfl,_⟩:=ySb hu h2 k2 (.inr ⟨41,[],rfl,rfl⟩) (.inr ⟨41,[],rfl,rfl⟩) k1
   rfl
  .have⟨zs,hz⟩:=hc91 k1 k2
   rw[hz]at k3;simp at k3
  .have⟨zs,hz⟩:=hc91 h1 h2
   rw[hz,k1]at h3;simp at h3;rw[h3.1]at ks;exact absurd (by unfold yB3;simp) ks
  .have⟨zs,hz⟩:=hc91 h1 h2
   rw[hz,k1]at h3;simp at h3
  .have⟨zs,hz⟩:=hc91 h1 h2
   rw[hz,k1]at h3;simp at h3
  .have⟨zs,hz⟩:=hc91 h1 h2
   rw[hz,k1]at h3;simp at h3
  .have hg:=yBe h2
   have hg':=yBe k2
   have hcut:cut p i j=cut p' i' j':=h3.symm.trans k3
   have hl:j-i=j'-i':=by have:=congrArg AG hcut;rwa [yAx hg.2,yAx hg'.2]at this
   have a0:∀t,i+t<j->p'[i'+t]?=p[i+t]?:=λt ht=>by
    have e1:(cut p i j)[t]?=p[i+t]?:=by unfold cut;rw[AY,iB (by omega),AZ]
    have e2:(cut p' i' j')[t]?=p'[i'+t]?:=by unfold cut;rw[AY,iB (by omega),AZ]
    rw[<-e1,<-e2,hcut]
   have e:=yFl (q:=p') (j:=i'+1) h2 (λt ht=>by
    have:=a0 (1+t) (by omega)
    rw[show i'+1+t=i'+(1+t)by omega,show i+1+t=i+(1+t)by omega];exact this)
   rw[e]at k2
   simp only[Sum.inl.injEq,Prod.mk.injEq]at k2
   rw[k2.1]
theorem xDv{os us:List (List Pat)}{xs:List U8}(h:AltG (yAn n) os xs)(k:AltG (yAn m) us xs):os=us:=
 (ySb (λxs t t' p q=>yT0 n xs t t' p q) h k (.inl rfl) (.inl rfl) rfl).1
end
section
section
variable {ops:Array Oper}
def yTy(md:AF)(ops:Array Oper):List Nat->Nat->Nat->Bool
 | [],i,L=>yG md ops L i
 |m::ms,i,L=>yG md ops m i && yTy md ops ms m L
theorem yPz{listed:Array Bool}:∀(ms:List Nat)(i:Nat),yTy md ops ms i L=true->listed.getD i true=false->(∀m∈ms,listed.getD m true=false)->∀j∈AA md ops listed,¬j∈ms/\j≠L
 | [],i,h,hi,_,j,hj=>⟨by simp,λq=>yFe h hi (q▸hj)⟩
 |m::ms,i,h,hi,hm,j,hj=>by
  unfold yTy at h
  rw[AL]at h
  have⟨h1,h2⟩:=yPz ms m h.2 (hm m (by simp)) (λx hx=>hm x (by simp[hx])) j hj
  refine⟨λq=>?_,h2⟩
  rcases Ad.1 q with rfl|q
  .exact yFe h.1 hi hj
  .exact h1 q
theorem yAi(ms:List Nat)(i:Nat)(v:Vv)(hi:ops[i]?=some oi)
  (hy:∀w,S w->(execOp a.eval oi).run P w=.ok (.value v) w) (hS:S w)
  (h:AnyT P md ops Q S L fuel (listed.setIfInBounds i true) (a.put oi.dst v) w)
  (hs:Region.noSelect ops=true:=by kernel_rfl) (hf:Region.free md ops listed i=true:=by kernel_rfl) (hr:(Region.ready md ops listed).contains i=true:=by kernel_rfl) (hL:yTy md ops ms i L=true:=by kernel_rfl)
  (hm:(ms.all λm=> !listed.getD m true)=true:=by kernel_rfl)
  (hQ:∀c a w,Q (.panic c) (a.put oi.dst v) w->Q (.panic c) a w:=by exact λ_ _ _ h=>h) (hw:Region.wanted oi (yielded ops a.tmps)=true:=by rfl):AnyT P md ops Q S L (fuel+1) listed a w:=
 yEf (I:=λl=>∀m∈ms,l.getD m true=false) hi hs hf hr hQ (λ_ h=>.inr h) (λl a1 h1 j hj _=>by obtain⟨a6,a8⟩:=yPz ms i hL (mem_ready.1 h1).1 a1 j hj;exact⟨λw h=>h.resolve_left a8,λm hm=>by rw[getD_set_ne true (λq:j=m=>a6 (by rw[q];exact hm))];exact a1 m hm⟩) (λm hx=>by have:=all_eq_true.1 hm m hx;simpa using this) (Or.inl ⟨hw,hy⟩) hS h
end
end
variable {p:Prop}
theorem zzT0 (h:p:=by
 intro k hk;match k,hk with
 |0,_|1,_|2,_|3,_|4,_=>exact⟨_,by simp;rfl,by decide⟩
 |5,_=>exact⟨_,by simp;rfl,by decide⟩):p:=h
theorem zzT1(h:p:=by rintro e w3 ⟨s,rfl,hs,hD3,hC3⟩;have H3:Hid (yAm O cb bv n w3/\Chg (λk=>k=cb) w w3):=⟨hD3,H1.2.trans hC3⟩;clear hD3 hC3;go_wp2_with fail;go_ret;exact⟨s,rfl,by omega,H3.1,H3.2⟩):p:=h
theorem zzT2 (h:p:=by
 clear c0 c1 c2 c3 c4 c5 c6 c7 c8 c9 c10;obtain⟨c0,c1,c2,c3,c4,c5,c6,c7,c8,c9,c10⟩:=(B0.k k3).c11;rcases hA with⟨hc,h0,h1⟩|⟨hc,rfl⟩
 .obtain rfl:q=true:=hq.2 hc;clear hq;go_wp2_with fail;go_ret;exact⟨by simp[h1],HE.out⟩
 .obtain rfl:q=false:=by cases q;rfl;exact absurd (hq.1 rfl) hc
  clear hq;go_wp2_with fail;go_ret;exact⟨rfl,HE.out⟩):p:=h
theorem zzT3 (h:p:=by
 have hj:=(List.getElem?_eq_some_iff.1 he).1;have:xs=xs.take j++e::xs.drop (j+1):=by
  conv=>lhs;rw[<-List.take_append_drop j xs,List.drop_eq_getElem_cons hj]
  rw[show xs[j]=e from Option.some.inj ((List.getElem?_eq_getElem hj).symm.trans he)]
 rw[this,yFh,h];simp only[Option.bind_some,yE6,yWf];rw[iB hl];rfl):p:=h
theorem zzT4 (h:p:=by
 have zk:¬(k:Int)<(l.length:Int):=by omega
 obtain rfl:k=l.length:=by omega
 obtain⟨-,-,-,-,-,ds',h1,h2⟩:=HG.out;rw[HJ.1]at h1;cases h1
 have hdl:=(yRv HJ.1).X;obtain⟨e0,e1⟩:=HJ.2.z h2;have HB:=hidO (hb0.trans (hb.mono hb0.size));clear h2;go_wp2_with fail;go_ret;exact⟨rfl,HB.out⟩):p:=h
theorem zzT5 (h:p:=by
 go_wp2_with fail;go_roundw;case rel=>exact⟨k+1,by omega,by go_num,kb3⟩
 case measure=>simp[intOf];omega):p:=h
theorem zzT6(h:p:=by rintro e w3 ⟨s,rfl,hs,hD3,hC3⟩;have H3:Hid (yAm O cb bv n w3/\Chg (λk=>k=cb) w w3):=⟨hD3,(H1.2.alloc_new _).trans hC3⟩;clear hD3 hC3;go_wp2_with fail;go_ret;exact⟨s,rfl,by omega,H3.1,H3.2⟩):p:=h
theorem zzT7(h:p:=by rintro e w3 ⟨s,rfl,hs,hD3,hC3⟩;have H3:Hid (yAm O cb bv n w3/\Chg (λk=>k=cb) w w3):=⟨hD3,(H1.2.alloc_new _).trans hC3⟩;clear hD3 hC3;go_wp2_with fail;go_ret;exact⟨s,rfl,hs,H3.1,H3.2⟩):p:=h
theorem zzT8(h:p:=by go_upto_region 3 with fail;go_quiet (fail);go_wp2_with fail;go_ret;exact⟨x0,rfl,hx1.1,hx1.2,HD.1.k (below_drewN (Below.refl _ _) _),HD.2.trans (Chg.h (below_drewN (Below.refl _ _) _))⟩):p:=h
theorem zzT9 (h:p:=by
 intro k hk;match k,hk with
 |0,_|1,_|2,_=>exact⟨_,by simp;rfl,by decide⟩
 |3,_=>exact⟨_,by simp;rfl,by decide⟩):p:=h
theorem xFv (h:p:=by
 refine⟨h.1,?_⟩;rcases h.2 with hn|⟨g',cap',cur,hv,h1,rest⟩
 .exact .inl hn
 .exact .inr ⟨g',cap',cur,hv,Nat.le_trans hb h1,rest⟩):p:=h
theorem xFu (h:p:=by
 go_wp2_with fail;go_roundw;case rel=>exact⟨k+1,_,by omega,by go_num,rfl,e1.out,H3.out⟩
 case measure=>go_light;simp[intOf];omega):p:=h
theorem xFt (h:p:=by
 clear h0;go_wp2_with fail;go_roundw;case rel=>exact⟨m+1,_,by omega,by go_num,HN3,kb5⟩
 case measure=>simp[intOf];omega):p:=h
theorem xIa(h:p:=by rw[List.take_add_one,he,yFh,h];simp only[Option.toList,Option.bind_some,yE6,yWf];rw[iA (by omega)];rfl):p:=h
theorem xFs (h:p:=by
 intro j y hy;obtain rfl:j=0:=by have:=(List.getElem?_eq_some_iff.1 hy).1;simpa using this
 simp at hy;subst hy;simp):p:=h
section
section
variable {ops:Array Oper} {X:List Nat}
def AnyX(P:Ao)(md:AF)(ops:Array Oper)(Q:Exit->Act->Ww->Prop)(S:Ww->Prop)(X:List Nat):Nat->Array Bool->Act->Ww->Prop:=AnyG (wpOp P ops Q) md ops Q (λi=>i∈X) S
def ySl(md:AF)(ops:Array Oper)(Y:List Nat)(listed:Array Bool)(i:Nat):Bool:=Y.all λL=>listed.getD L true==false && (yG md ops L i || Y.any λL'=>yG md ops L L')
def cloX(md:AF)(ops:Array Oper)(listed:Array Bool):Nat->List Nat->List Nat
 |0,Y=>Y
 |n+1,Y=>cloX md ops listed n (Y++(List.range ops.size).filter λL=> !Y.contains L && listed.getD L true==false && Y.any λL'=>yG md ops L L')
def yV8(md:AF)(ops:Array Oper)(X:List Nat)(listed:Array Bool)(i:Nat):Bool:=
 let Y:=(cloX md ops listed 6 [i]).erase i
 ySl md ops Y listed i && X.all λL=>listed.getD L true || Y.contains L
theorem yW{i:Nat}{Y:List Nat}(l:Array Bool)(H:ySl md ops Y l i=true/\∀L∈X,l.getD L true=true\/L∈Y)(hr:i∈AA md ops l)(j:Nat)(hj:j∈AA md ops l)(_:j≠i):(∀w,j∈X\/S w->S w)/\ySl md ops Y (l.setIfInBounds j true) i=true/\∀L∈X,(l.setIfInBounds j true).getD L true=true\/L∈Y:=by
 obtain⟨hX,a8⟩:=H;have a5:j∉Y:=λq=>by
  have h2:=AW.1 hX j q;rw[AL,Bool.or_eq_true]at h2;rcases h2.2 with h3|h3
  .exact yFe h3 (AP.1 hr).1 hj
  .obtain⟨L',ad,h4⟩:=any_eq_true.1 h3;have h5:=AW.1 hX L' ad;rw[AL]at h5;exact yFe h4 (by simpa using h5.1) hj
 have a6:j∉X:=λq=>(a8 j q).elim (λz=>by rw[(AP.1 hj).1]at z;cases z) a5
 refine⟨λw h=>h.resolve_left a6,AW.2 λL hL=>?_,λL hL=>(a8 L hL).imp (λz=>by rw[Aj true (λq:j=L=>a6 (by rw[q];exact hL))];exact z) id⟩;have h2:=AW.1 hX L hL;rw[Aj true (λq:j=L=>a5 (by rw[q];exact hL))];exact h2
theorem ySn{i:Nat}(h:yV8 md ops X listed i=true):ySl md ops ((cloX md ops listed 6 [i]).erase i) listed i=true/\∀L∈X,listed.getD L true=true\/L∈(cloX md ops listed 6 [i]).erase i:=by unfold yV8 at h;rw[AL]at h;exact⟨h.1,λL hL=>by simpa using AW.1 h.2 L hL⟩
theorem yA1{i:Nat}(hr:AA md ops listed= [i])(ho:ops[i]?=some o)
  (h:∀K':Act->Ww->Prop,Shut (∀a w,(i∈X\/S w)->AnyX P md ops Q S X fuel (listed.setIfInBounds i true) a w->K' a w)->if AH o (yielded ops a.tmps)=true then Af P o a w K' Q else K' (a.put o.dst undef) w):
  AnyX P md ops Q S X (fuel+1) listed a w:=by
 exact xF0
theorem yEe(hr:AA md ops listed= [])(h:Q .normal a w):AnyX P md ops Q S X fuel listed a w:=by exact xCy
theorem yCp(X:List Nat)(S:Ww->Prop)(hm:P.follows .mixedOrders=true)
  (h:AnyX P .any ops Q S X ops.size (AQ ops.size false) a w.drew):(Code.region id ops true).wp P Q a w:=
 Aw hm (yI6 _ _ _ _ h)
end
theorem txx(h:p:=by exact⟨rfl,qk,qk,qk,qk,λ_ _ _ h=>h⟩):p:=h
section
variable {ops:Array Oper} {X:List Nat} {v:Vv}
abbrev TxX(ops:Array Oper)(Q:Exit->Act->Ww->Prop)(md:AF)(X:List Nat)(i:Nat)(v:Vv)(oi:Oper)(listed:Array Bool):Prop:=
 ops[i]?=some oi/\AJ ops=true/\AM md ops listed i=true/\(AA md ops listed).contains i=true/\yV8 md ops X listed i=true/\∀c a w,Q (.panic c) (a.put oi.dst v) w->Q (.panic c) a w
theorem txT{i:Nat}(hx:TxX ops Q md X i v oi listed)(hy:AU P ops S oi v a)(hS:S w)(h:AnyX P md ops Q S X fuel (listed.setIfInBounds i true) (a.put oi.dst v) w):AnyX P md ops Q S X (fuel+1) listed a w:=
 yEf hx.1 hx.2.1 hx.2.2.1 hx.2.2.2.1 hx.2.2.2.2.2 (λ_ h=>.inr h) yW (ySn hx.2.2.2.2.1) hy hS h
theorem tyyN(h:p:=by first|exact Or.inr ⟨by rfl,rfl⟩|exact Or.inl ⟨by rfl,by(intro wz hSw;go_simp;(try with_reducible rfl))⟩):p:=h
abbrev TnX(ops:Array Oper)(Q:Exit->Act->Ww->Prop)(md:AF)(X:List Nat)(i:Nat)(v:Vv)(oi:Oper)(listed:Array Bool):Prop:=
 ops[i]?=some oi/\AJ ops=true/\AM md ops listed i=true/\(AA md ops listed).contains i=true/\∀c a w,Q (.panic c) (a.put oi.dst v) w->Q (.panic c) a w
theorem txnn(h:p:=by exact⟨rfl,qk,qk,qk,λ_ _ _ h=>h⟩):p:=h
theorem txna(i:Nat)(hS:i∈X\/S w)(hX:∀j,j∈X->j≠i->i∈X)(k:q)(hx:TnX ops Q md X i v oi listed:=by exact txnn)(hy:YieldsIf P ops (λ_=>True) oi v a:=by exact tyyN)(h:q->AnyX P md ops Q S X fuel (listed.setIfInBounds i true) (a.put oi.dst v) w:=by exact jz):AnyX P md ops Q S X (fuel+1) listed a w:=
 yEf (I:=λ_=>True) (T:=λw=>i∈X\/S w) hx.1 hx.2.1 hx.2.2.1 hx.2.2.2.1 hx.2.2.2.2 (λ_ h=>h) (λl _ _ j hj hji=>⟨λw h=>h.imp (λq=>hX j q hji) id,trivial⟩) trivial (hy.imp (λh=>⟨h.1,λw _=>h.2 w trivial⟩) id) hS (h k)
theorem txa(i:Nat)(hS:S w)(k:q)(hx:TxX ops Q md X i v oi listed:=by exact txx)(hy:YieldsIf P ops S oi v a:=by exact jy)(h:q->AnyX P md ops Q S X fuel (listed.setIfInBounds i true) (a.put oi.dst v) w:=by exact jz):AnyX P md ops Q S X (fuel+1) listed a w:=txT hx hy hS (h k)
theorem txb(hS:S w)(k:q)(hx:TxX ops Q md X (j+1) v oi (listed.setIfInBounds j true):=by exact txx)(hy:YieldsIf P ops S oi v a:=by exact jy)(h:q->AnyX P md ops Q S X fuel ((listed.setIfInBounds j true).setIfInBounds (j+1) true) (a.put oi.dst v) w:=by exact jz):AnyX P md ops Q S X (fuel+1) (listed.setIfInBounds j true) a w:=txT hx hy hS (h k)
end
end
section
section
variable {ops:Array Oper} {X:List Nat}
def YifI(P:Ao)(ops:Array Oper)(S:Ww->Prop)(o:Oper)(v:Vv)(a:Act):Prop:=AU P ops S o v a/\∀w,o.about P w a.eval=none
theorem YifI.same{v:Vv}(hy:YifI P ops S o v a)(he:execOp a'.eval o=execOp a.eval o)(hw:AH o (yielded ops a'.tmps)=AH o (yielded ops a.tmps))(hb:∀w,o.about P w a'.eval=o.about P w a.eval):YifI P ops S o v a':=
 ⟨hy.1.of_same he hw,λw=>(hb w).trans (hy.2 w)⟩
theorem YifI.op{i:Nat}{v:Vv}(hro:F.round=none)(hi:ops[i]?=some o)(hy:YifI P ops S o v a){K:Act->Ww->Prop}(hS:S w)(h:K (a.put o.dst v) w):wpOpIn F n P ops Q i K a w:=by
 unfold wpOpIn;simp only[hi];have a0:∀f,o.about P w a.eval=some f->F.fn f:=λf hf=>by rw[hy.2 w]at hf;cases hf
 rcases hy.1 with⟨hw,hv⟩|⟨hw,rfl⟩
 .simp only[hw,if_true,Ai,hro,Ac,hv w hS,AS];exact⟨a0,h⟩
 .simp only[hw,Bool.false_eq_true,if_false];exact⟨a0,h⟩
theorem yUp{v:Vv}(hro:F.round=none)(hj:ops[j]?=some oj)(hap:oi.apart ops oj=true)
  (hsi:∀cs b,oi.op≠ .select cs b) (hsj:∀cs b,oj.op≠ .select cs b)
  (hQ:∀c a w,Q (.panic c) (a.put oi.dst v) w->Q (.panic c) a w) {K:Act->Ww->Prop} {a:Act} {w:Ww}
  (hy:YifI P ops S oi v a) (h:wpOpIn F n P ops Q j K (a.put oi.dst v) w):wpOpIn F n P ops Q j (λa' w'=>YifI P ops S oi v a'/\K (a'.put oi.dst v) w') a w:=by
 have⟨h1,h2,h3⟩:=Oper.apart_spec hap;have kp:∀(b:Act),YifI P ops S oi v b->∀u,YifI P ops S oi v (b.put oj.dst u):=λb hb u=>hb.same (execOp_put oi hsi b oj.dst u h3) (wanted_put oi b oj.dst u h3) (λw=>Aq oi w b oj.dst u h3);have fin:∀(u:Vv)(w':Ww),K ((a.put oi.dst v).put oj.dst u) w'->YifI P ops S oi v (a.put oj.dst u)/\K ((a.put oj.dst u).put oi.dst v) w':=λu w' hk=>⟨kp a hy u,by rw[<-Act.put_comm a v u h2];exact hk⟩;unfold wpOpIn at*;simp only[hj]at*;rw[wanted_put oj a oi.dst v h1,Aq oj w a oi.dst v h1]at h;by_cases hw:AH oj (yielded ops a.tmps)=true
 .rw[iB hw]at h|-;unfold Ai at*;rw[Aq oj w a oi.dst v h1,hro,Ac,execOp_put oj hsj a oi.dst v h1]at h;rw[hro,Ac];refine⟨h.1,?_⟩;have hh:=h.2;generalize (execOp a.eval oj).run P w=r at*;cases r with
  |ok x w'=>
   cases x with
   |value u=>exact fin u w' hh
   |skip=>exact fin undef w' hh
   |defer d=>
    simp only[AS]at hh|-;refine⟨kp {a with defers:=d::a.defers} (hy.same rfl rfl (λ_=>rfl)) undef,?_⟩;rw[<-Act.put_comm _ v undef h2,<-Act.put_defers];exact hh
   |enter f args=>
    simp only[AS]at hh|-;refine⟨hh.1,CallsIn.mono hh.2 λe w'' he=>?_⟩;cases e with
    |returned u=>exact fin u w'' he
    |panicked c=>exact hQ _ _ _ he
    |outgrown=>exact he
   |row row args=>
    simp only[AS]at hh|-;exact⟨hh.1,RowsIn.mono hh.2 λu w'' he=>fin u w'' he⟩
   |round l f tmps assign body=>
    simp only[AS]at hh|-;refine⟨hh.1,RoundIn.mono hh.2 λe w'' he=>?_⟩;cases e with
    |returned u=>exact fin u w'' he
    |panicked c=>exact hQ _ _ _ he
    |outgrown=>exact he
   |_=>exact hh
  |halt x w'=>
   cases x with
   |panic u=>exact hQ _ _ _ hh
   |_=>exact hh
 .rw[iA hw]at h|-;exact⟨h.1,fin undef w h.2⟩
def AnyI(F:Fence)(n:Nat)(P:Ao)(md:AF)(ops:Array Oper)(Q:Exit->Act->Ww->Prop)(S:Ww->Prop)(X:List Nat):Nat->Array Bool->Act->Ww->Prop:=AnyG (wpOpIn F n P ops Q) md ops Q (λi=>i∈X) S
theorem yT1:∀(fuel:Nat)(listed:Array Bool)(a:Act)(w:Ww),AnyI F n P md ops Q S X fuel listed a w->wpAnyIn F n P md ops Q fuel listed a w
 |0,_,_,_,h=>h
 |fuel+1,_,_,_,h=>⟨h.1,λi hi=>wpOpIn_mono (λa' w' h'=>yT1 fuel _ a' w' h'.2) (h.2 i hi)⟩
theorem yE0{i:Nat}(hr:AA md ops listed= [i])(ho:ops[i]?=some o)
  (h:∀K':Act->Ww->Prop,Shut (∀a w,(i∈X\/S w)->AnyI F n P md ops Q S X fuel (listed.setIfInBounds i true) a w->K' a w)->if AH o (yielded ops a.tmps)=true then Ai F n P o a w K' Q else(∀f,o.about P w a.eval=some f->F.fn f)/\K' (a.put o.dst undef) w):
  AnyI F n P md ops Q S X (fuel+1) listed a w:=by
 refine⟨λh0=>(by rw[hr]at h0;cases h0),λj hj=>?_⟩;rw[hr]at hj;simp at hj;subst hj;exact wpOpIn_step ho (λK' hK=>h K' (λa w hS hW=>hK a w ⟨hS,hW⟩))
theorem yKh(hr:AA md ops listed= [])(h:Q .normal a w):AnyI F n P md ops Q S X fuel listed a w:=by exact xCy
theorem yEk(X:List Nat)(S:Ww->Prop)(hm:P.follows .mixedOrders=true)
  (h:AnyI F n P .any ops Q S X ops.size (AQ ops.size false) a w.drew):(Code.region id ops true).wpIn F n P Q a w:=
 As hm (yT1 _ _ _ _ h)
end
theorem xIl(h:p:=by exact⟨(by exact jy),λ_=>rfl⟩):p:=h
section
variable {ops:Array Oper} {X:List Nat} {v:Vv}
theorem tiT{i:Nat}(hro:F.round=none)(hx:TxX ops Q md X i v oi listed)(hy:YifI P ops S oi v a)(hS:S w)(h:AnyI F n P md ops Q S X fuel (listed.setIfInBounds i true) (a.put oi.dst v) w):AnyI F n P md ops Q S X (fuel+1) listed a w:=
 yL6 (wo:=wpOpIn F n P ops Q) (Y:=YifI P ops S oi v) hx.1 wpOpIn_mono (λhy h k=>hy.op hro hx.1 h k) (λa1 ap hy h=>yUp hro a1 ap (λcs b=>AK hx.2.1 i oi cs b hx.1) (λcs b=>AK hx.2.1 _ _ cs b a1) hx.2.2.2.2.2 hy h) (λ_ h=>.inr h) yW fuel listed a w (ySn hx.2.2.2.2.1) (Ah hx.1 hx.2.2.1) (by simpa using hx.2.2.2.1) hy hS h
theorem yKr(i:Nat)(hro:F.round=none)(hS:S w)(k:q)(hx:TxX ops Q md X i v oi listed:=by exact txx)(hy:YifI P ops S oi v a:=by exact xIl)(h:q->AnyI F n P md ops Q S X fuel (listed.setIfInBounds i true) (a.put oi.dst v) w:=by exact jz):AnyI F n P md ops Q S X (fuel+1) listed a w:=tiT hro hx hy hS (h k)
end
end
theorem zzV1(h:p:=by go_simp;refine hK.out _ _ (.inr hS5) ?_;clear hK;refine jS ?_;refine qD ?_;go_wp2_with fail;go_meet;exact⟨g3,p3,n3,rfl,HO3,hbb3⟩):p:=h
theorem zzV2(h:p:=by intro v' w' hA;obtain⟨g',cp',rfl⟩:=hA.some;have hC':=hC.app hsz (hD.each.low h01) hD.view hA;exact h g' _ cp' _ w' hC' hC'.k):p:=h
end Go.Proofs.YtnnagkfoiganfaaGreatDoor
