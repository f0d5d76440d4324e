import Derived.Test.YtnnagkfoiganfaaGreatDoorHkAE
import Derived.Test.YtnnagkfoiganfaaGreatDoorHkAF
namespace Go.Proofs.YtnnagkfoiganfaaGreatDoor
open Go.ChangeShapes Go.WideShapes Go.ChangeAt Go.RowKit Go.Deep XD XI XU XG XP XK XW XT XF XE XH _root_.List _root_.Nat Go.Shelf XY Go.Maps Go.Proofs.Tryz
open _root_.Array renaming getElem?_eq_some_iff->AB,replicate_succ->AQ,replicate_zero->AR,replicate->AZ
open _root_.Bool renaming or_assoc->AD,eq_iff_iff->AI,and_eq_true->An
open _root_.Go renaming bodyPost_ret->AT,callsIn_of_wp_marks->AW,wp_region_noPanic->Aa,callsIn_wide->Aj,Ending->Ak,zero_of_info->Al,NoPanic->Aw,wpIn_wide->A0,DataW->A8
open _root_.Go.Maps renaming has->AN,has_put_other->Af,size->A9
open _root_.Go.Value renaming ownBlock->AM,cells->Av
open _root_.Go.World.ownsRow renaming stored->AF,lt->Ax,cellAt->Ay,frozenAt->Az
open _root_.Int.ofNat renaming inj->AP
open _root_.List renaming mem_range->AG,getElem?_eq_none->AJ,cons_append->AK,any_eq_true->AL,range->AU,range_succ->AY,take_append_drop->Ab,append_toArray->Ad,size_toArray->Ag,push_toArray->Ah,take_add_one->Ai,length_cons->Ao,take_length->Ap,length_nil->Aq,nil_append->Ar,getElem_cons_zero->As,getElem_cons_succ->Au,mem_of_getElem?->A6,getElem_toArray->A7,ext_getElem?->BA
open _root_.Nat renaming lt_of_lt_of_le->AA,le_trans->AC,le_refl->AE,reduceAdd->AH,zero_add->AO,lt_of_le_of_lt->AV,le_of_lt->AX,reduceSub->Ac,mul_comm->Ae,zero_le->BD
open _root_.UInt8 renaming ofNat->AS
set_option linter.unusedVariables false
set_option linter.unusedSimpArgs false
set_option maxRecDepth 100000
set_option maxHeartbeats 64000000
variable {f:Nat->Vv} {v:Vv} {xs us:List Vv} {g e size b G' a' a t M G1 cp1 nx g0 cp0 sz d m n' b5 O n cp G mp:Nat} {S Z lo:Nat->Prop} {w1 w6 X X' w w':Ww} {T' E' T E:Nat->PS} {en' A en F L:PS} {Q:Exit->Act->Ww->Prop} {o:Oper} {rest:List Oper} {ops:Array Oper} {l:Lay} {em nt:Bool} {ts:List Pat} {ps:List MemPlace} {x D D':DataW Vv} {p:Prop} {es:List Ent}
section
def rngV(N:Nat)(f:Nat->Vv):List Vv:=(AU N).map f
theorem yIy(N:Nat)(f:Nat->Vv):(rngV N f).length=N:=by simp[rngV]
variable {N j:Nat}
theorem yDs(h:j<N):(rngV N f)[j]?=some (f j):=by simp[rngV,h]
theorem yCe{g:Nat->Vv}(h:∀i,i<N->f i=g i):rngV N f=rngV N g:=by unfold rngV;refine map_congr_left (λi hi=>h i (by simpa using hi))
theorem yG1(h:j<N):(rngV N f).set j v=rngV N (λi=>if i=j then v else f i):=by
 refine BA (λi=>?_);by_cases hi:i<N
 .rw[yDs hi];by_cases e:i=j
  .subst e;rw[getElem?_set_self (by rw[yIy];exact hi)];simp
  .rw[getElem?_set_ne (λq=>e q.symm),yDs hi];simp[e]
 .rw[AJ (by simp[yIy];omega),AJ (by simp[yIy];omega)]
def set4(w:Ww)(g o:Nat)(S:PS):Ww:=(xt (((w.setCell (xd g o) (xu (wdN S 0))).setCell (xd g (o+1)) (xu (wdN S 1))).setCell (xd g (o+2)) (xu (wdN S 2))) g (o+3) (xu (wdN S 3)))
def yUe(vs:List Vv)(o:Nat)(S:PS):List Vv:=(((vs.set o (xu (wdN S 0))).set (o+1) (xu (wdN S 1))).set (o+2) (xu (wdN S 2))).set (o+3) (xu (wdN S 3))
theorem yJk{o:Nat} S (h:o+4<=N):yUe (rngV N f) o S=rngV N (λi=>if o<=i/\i<o+4 then (xu (wdN S (i-o)))else f i):=by
 unfold yUe;rw[yG1 qo,yG1 qo,yG1 qo,yG1 qo];refine yCe (λi hi=>?_);by_cases h1:o<=i/\i<o+4
 .rw[iB h1];rcases(by omega:i=o\/i=o+1\/i=o+2\/i=o+3)with rfl|rfl|rfl|rfl
  .simp
  .simp
  .simp
  .simp
 .rw[iA h1,iA qo,iA qo,iA qo,iA qo]
theorem yFv(h:w.ownsRow O e size (xg g n cp) n xs)(o:Nat) S:(set4 w g o S).ownsRow O e size (xg g n cp) n (yUe xs o S):=
 (AF (AF (AF (AF h o _).1 (o+1) _).1 (o+2) _).1 (o+3) _).1
theorem yBk(w:Ww)(g o:Nat) X (hs:S g):Chg S w (set4 w g o X):=
 (((Chg.D w g o _ hs).trans (Chg.D _ g (o+1) _ hs)).trans (Chg.D _ g (o+2) _ hs)).trans (Chg.D _ g (o+3) _ hs)
def eV(E:Nat->PS)(i:Nat):Vv:=(xu (wdN (E (i/4)) (i%4)))
def mV(T:Nat->PS)(fv:Vv)(en:PS)(mp:Nat)(i:Nat):Vv:=if i<1024 then eV T i else if i=1024 then fv else if i<1029 then (xu (wdN en (i-1025)))else .map (some mp)
def updE(E:Nat->PS)(p:Nat)(S:PS):Nat->PS:=λq=>if q=p then S else E q
theorem xCg(E:Nat->PS)(p:Nat) S (i:Nat):(if 4*p<=i/\i<4*p+4 then Value.int .u64 (wdN S (i-4*p):Int)else eV E i)=eV (updE E p S) i:=by
 unfold eV updE;by_cases h:4*p<=i/\i<4*p+4
 .rw[iB h,iB (by omega),show i-4*p=i%4 by omega]
 .rw[iA h,iA (by omega)]
structure MtrI(w:Ww)(O M:Nat)(T:Nat->PS)(G cp a:Nat)(E:Nat->PS)(en:PS)(mp:Nat):Prop where
 A:yA w O 338 1030 M (rngV 1030 (mV T (xg G a cp) en mp))
 j:w.ownsRow O 328 4 (xg G a cp) a (rngV (4*a) (eV E))
 new:∀p,a<=p->∀q,E p q=false
 tab:TabD w
 low:1<O
section
theorem MtrI.ltM(h:MtrI w O M T G cp a E en mp):O<=M/\M<w:=h.A.lt
theorem MtrI.ltG(h:MtrI w O M T G cp a E en mp):O<=G/\G<w:=Ax h.j G rfl
theorem MtrI.ne(h:MtrI w O M T G cp a E en mp):¬G=M:=λq=>yAb h.j h.A qj G rfl (by rw[q];rfl)
theorem MtrI.caps(h:MtrI w O M T G cp a E en mp):a<=cp/\cp<=maxLen:=by
 rcases h.j.2 with⟨h0,_⟩|⟨g',a1,cur,hv,_,_,hn,a0,_,_⟩
 .cases h0
 .simp at hv;obtain⟨rfl,rfl⟩:=hv;exact⟨hn,a0⟩
theorem TabD.i(h:TabD w)(hc:Chg S w w')(hn:¬S 1):TabD w':=λj hj=>by rw[hc.z (p:=(xd 1 j)) h.lt hn];exact h j hj
theorem MtrI.i(h:MtrI w O M T G cp a E en mp)(hc:Chg S w w')(hM:¬S M)(hG:¬S G)(h0:∀k,S k->O<=k):MtrI w' O M T G cp a E en mp:=
 ⟨h.A.i hc hM,yAg h.j hc (λk q=>by simp[AM]at q;subst q;exact hG),h.new,h.tab.i hc (λq=>qv (h0 _ q) h.low),h.low⟩
theorem MtrI.k(h:MtrI w O M T G cp a E en mp)(hb:Below w w w'):MtrI w' O M T G cp a E en mp:=h.i (S:=λ_=>False) (Chg.h hb) (λq=>q) (λq=>q) (λ_ q=>q.elim)
theorem MtrI.tk(h:MtrI w O M T G cp a E en mp)(hb:b<256)(hj:j<4):(xk w M (4*b+j) (xu (wdN (T b) j)):Prop):=by rw[h.A.z (yDs (by omega))];unfold mV eV;rw[iB (by omega),show(4*b+j)/4=b by omega,show(4*b+j)%4=j by omega]
theorem MtrI.fol(h:MtrI w O M T G cp a E en mp):(xk w M 1024 (xg G a cp):Prop):=by rw[h.A.z (yDs qo)];rfl
theorem MtrI.ends(h:MtrI w O M T G cp a E en mp)(hj:j<4):(xk w M (1025+j) (xu (wdN en j)):Prop):=by rw[h.A.z (yDs qo)];unfold mV;rw[iA qo,iA (by omega),iB (by omega),show 1025+j-1025=j by omega]
theorem MtrI.map(h:MtrI w O M T G cp a E en mp):(xk w M 1029 (.map (some mp)):Prop):=by rw[h.A.z (yDs qo)];rfl
variable {p:Nat}
theorem MtrI.edge(h:MtrI w O M T G cp a E en mp)(hp:p<a)(hj:j<4):(xk w G (4*p+j) (xu (wdN (E p) j)):Prop):=by rw[Ay h.j (4*p+j) (by omega),yDs (by omega)];unfold eV;rw[show(4*p+j)/4=p by omega,show(4*p+j)%4=j by omega]
theorem MtrI.frzM(h:MtrI w O M T G cp a E en mp)(j:Nat):w.frozen? (xd M j)=false:=h.A.frozen j
theorem MtrI.frzG(h:MtrI w O M T G cp a E en mp)(j:Nat):w.frozen? (xd G j)=false:=Az h.j j
theorem MtrI.setT(h:MtrI w O M T G cp a E en mp)(hb:b<256) S:MtrI (set4 w M (4*b) S) O M (updE T b S) G cp a E en mp:=by
 have hc:Chg (λk=>k=M) w (set4 w M (4*b) S):=yBk w M (4*b) S rfl;refine⟨?_,yAg h.j hc (λk q=>by simp[AM]at q;subst q;exact h.ne),h.new,h.tab.i hc (λq=>qv h.ltM.1 h.low),h.low⟩;have h1:=yFv h.A (4*b) S;rw[yJk S qo]at h1;have e:rngV 1030 (λi=>if 4*b<=i/\i<4*b+4 then (xu (wdN S (i-4*b)))else mV T (xg G a cp) en mp i)=rngV 1030 (mV (updE T b S) (xg G a cp) en mp):=by
  refine yCe (λi hi=>?_);unfold mV;by_cases h1:i<1024
  .rw[iB h1,iB h1];exact xCg T b S i
  .rw[iA h1,iA h1,iA qo]
 rw[e]at h1;exact h1
theorem MtrI.setE(h:MtrI w O M T G cp a E en mp)(hp:p<a) S:MtrI (set4 w G (4*p) S) O M T G cp a (updE E p S) en mp:=by have hc:Chg (λk=>k=G) w (set4 w G (4*p) S):=yBk w G (4*p) S rfl;refine⟨h.A.i hc (λq=>h.ne q.symm),?_,λq hq r=>by unfold updE;rw[iA qo];exact h.new q hq r,h.tab.i hc (λq=>qv h.ltG.1 h.low),h.low⟩;have h1:=yFv h.j (4*p) S;rw[yJk S qo,yCe (λi _=>xCg E p S i)]at h1;exact h1
theorem MtrI.setEn(h:MtrI w O M T G cp a E en mp) S:MtrI (set4 w M 1025 S) O M T G cp a E S mp:=by
 have hc:Chg (λk=>k=M) w (set4 w M 1025 S):=yBk w M 1025 S rfl;refine⟨?_,yAg h.j hc (λk q=>by simp[AM]at q;subst q;exact h.ne),h.new,h.tab.i hc (λq=>qv h.ltM.1 h.low),h.low⟩;have h1:=yFv h.A 1025 S;rw[yJk S qo]at h1;have e:rngV 1030 (λi=>if 1025<=i/\i<1025+4 then (xu (wdN S (i-1025)))else mV T (xg G a cp) en mp i)=rngV 1030 (mV T (xg G a cp) S mp):=by
  refine yCe (λi hi=>?_);unfold mV;by_cases h1:i<1024
  .rw[iA qo,iB h1,iB h1]
  .by_cases h2:i=1024
   .rw[iA qo,iA h1,iA h1,iB h2,iB h2]
   .by_cases h3:i<1029
    .rw[iB qo,iA h1,iA h2,iB h3]
    .rw[iA qo,iA h1,iA h1,iA h2,iA h2,iA h3,iA h3]
 rw[e]at h1;exact h1
theorem MtrI.grow(h:MtrI w O M T G cp a E en mp){cp':Nat}(hg:w.grownBy w1 (some G))(hr:w1.ownsRow O 328 4 (xg G' a' cp') a' (rngV (4*a') (eV E)))(ha:a<=a'):MtrI (xt w1 M 1024 (xg G' a' cp')) O M T G' cp' a' E en mp:=by
 have hc:Chg (λk=>k=G) w w1:=Chg.M hg (λk q=>by cases q;rfl);have hb:=h.A.i hc (λq=>h.ne q.symm);have a0:¬G'=M:=λq=>yAb hr hb (by decide) G' rfl (by rw[q];rfl);have hc2:Chg (λk=>k=M) w1 (xt w1 M 1024 (xg G' a' cp')):=Chg.D w1 M 1024 _ rfl;refine⟨?_,yAg hr hc2 (λk q=>by simp[AM]at q;subst q;exact a0),λp hp=>h.new p (by omega),(h.tab.i hc (λq=>qv h.ltG.1 h.low)).i hc2 (λq=>qv h.ltM.1 h.low),h.low⟩;have h1:=hb.set 1024 (xg G' a' cp');rw[yG1 (by omega)]at h1;have e:rngV 1030 (λi=>if i=1024 then (xg G' a' cp') else mV T (xg G a cp) en mp i)=rngV 1030 (mV T (xg G' a' cp') en mp):=by
  refine yCe (λi hi=>?_);unfold mV;by_cases h1:i<1024
  .rw[iA (by omega),iB h1,iB h1]
  .by_cases h2:i=1024
   .rw[iB h2,iA h1,iB h2]
   .rw[iA h2,iA h1,iA h1,iA h2,iA h2]
 rw[e]at h1;exact h1
theorem MtrI.iff(h:MtrI w O M T G cp a E en mp)(hT:∀b p,b<256->p<256->T' b p=T b p)(hE:∀q p,q<a->p<256->E' q p=E q p)(hn:∀p,a<=p->∀q,E' p q=false):MtrI w O M T' G cp a E' en mp:=by
 refine⟨?_,?_,hn,h.tab,h.low⟩
 .have e:rngV 1030 (mV T' (xg G a cp) en mp)=rngV 1030 (mV T (xg G a cp) en mp):=by
   refine yCe (λi hi=>?_);unfold mV;by_cases h1:i<1024
   .rw[iB h1,iB h1];unfold eV;rw[yDe (λp hp=>hT (i/4) p qo hp) qo]
   .rw[iA h1,iA h1]
  rw[e];exact h.A
 .have e:rngV (4*a) (eV E')=rngV (4*a) (eV E):=by refine yCe (λi hi=>?_);unfold eV;rw[yDe (λp hp=>hE (i/4) p qo hp) qo]
  rw[e];exact h.j
theorem MtrI.iffEn(h:MtrI w O M T G cp a E en mp)(he:∀p,p<256->en' p=en p):MtrI w O M T G cp a E en' mp:=by
 refine⟨?_,h.j,h.new,h.tab,h.low⟩;have e:rngV 1030 (mV T (xg G a cp) en' mp)=rngV 1030 (mV T (xg G a cp) en mp):=by
  refine yCe (λi hi=>?_);unfold mV;by_cases h1:i<1024
  .rw[iB h1,iB h1]
  .by_cases h2:i=1024
   .rw[iA h1,iB h2,iA h1,iB h2]
   .by_cases h3:i<1029
    .rw[iA h1,iA h2,iB h3,iA h1,iA h2,iB h3,yDe he qo]
    .rw[iA h1,iA h2,iA h3,iA h1,iA h2,iA h3]
 rw[e];exact h.A
end
theorem Tryz.infoPs:(prog.info? 328).map (λi=>(i.zero,i.size,i.bytes))=some (some (.agg #[xu 0,xu 0,xu 0,xu 0]),4,32):=qk
theorem yYn(hE:∀q,E a q=false):rngV (4*a) (eV E)++z4.toList=rngV (4*(a+1)) (eV E):=by
 have hw:∀i,wdN (E a) i=0:=λi=>by have:wdN (E a) i=wdN sNo i:=yG5 (λj _=>hE _);rw[this,yF8]
 have e:∀j,j<4->eV E (4*a+j)=(xu 0):=λj hj=>by unfold eV;rw[show(4*a+j)/4=a by omega,hw];rfl
 have h4:4*(a+1)=4*a+1+1+1+1:=qo
 unfold rngV;rw[h4,AY,AY,AY,AY];simp[e 0 qo,e 1 qo,e 2 (by omega),e 3 (by omega),show 4*a+1+1=4*a+2 by omega,show 4*a+1+1+1=4*a+3 by omega];have:=e 0 (by omega);simpa using this.symm
theorem yIn{a:Act}(w:Ww)(hgd:o.guard=none) s x
  (ho:o.op=.call {callee:=.builtin .append,args:=#[s,x],argTypes:=#[335,335]})
  (O r c k b cx:Nat) (E:Nat->PS) (hs:a.eval s=(xg r k c)) (hx:a.eval x=(xg b 1 cx)) (hO:w.ownsRow O 328 4 (xg r k c) k (rngV (4*k) (eV E)))
  (hc:∀j,j<4->(xk w b j (xu 0):Prop)) (hE:∀q,E k q=false) (hlen:k<=2^20) (hbase:O<=w)
  (h:∀r' c' w',w'.ownsRow O 328 4 (xg r' (k+1) c') (k+1) (rngV (4*(k+1)) (eV E))->w.grownBy w' (some r)->(r'=r\/r'=w)->wpList prog ops Q rest (a.put o.dst (xg r' (k+1) c')) w'):wpList prog ops Q (o::rest) a w:=by
 exact wpA hgd (apY ⟨underlying335,_,_,Tryz.infoPs,rfl,qj,qj⟩ ho O hs hx hO (vs:=z4.toList) rfl (atV0 (λj u hu=>by
 have a6:j<4:=by simpa using qf hu
 rcases(by omega:j=0\/j=1\/j=2\/j=3)with rfl|rfl|rfl|rfl<;>(simp at hu;subst hu;exact hc _ a6)) (λu hu=>by simp at hu;subst hu;rfl)) (by omega) hbase λr' c' w' h1=>h r' c' w' (by rw[yYn hE]at h1;exact h1))
end
abbrev spV(F L:PS):Vv:=.agg #[xu (wdN F 0),xu (wdN F 1),xu (wdN F 2),xu (wdN F 3),xu (wdN L 0),xu (wdN L 1),xu (wdN L 2),xu (wdN L 3)]
def spL(F L:PS):List Vv:= [.int .u64 (wdN F 0:Int),.int .u64 (wdN F 1:Int),.int .u64 (wdN F 2:Int),.int .u64 (wdN F 3:Int),.int .u64 (wdN L 0:Int),.int .u64 (wdN L 1:Int),.int .u64 (wdN L 2:Int),.int .u64 (wdN L 3:Int)]
def setSp(w:Ww)(g:Nat)(F L:PS):Ww:=(xt (((((((w.setCell (xd g 0) (xu (wdN F 0))).setCell (xd g 1) (xu (wdN F 1))).setCell (xd g 2) (xu (wdN F 2))).setCell (xd g 3) (xu (wdN F 3))).setCell (xd g 4) (xu (wdN L 0))).setCell (xd g 5) (xu (wdN L 1))).setCell (xd g 6) (xu (wdN L 2))) g 7 (xu (wdN L 3)))
theorem yUd(w:Ww)(g:Nat) F L:(setSp w g F L).heap.size=w.heap.size:=by unfold setSp;simp only[yZ5]
variable {vs:List Vv}
theorem yA.setSp(h:yA w O t 8 g vs) F L:yA (Go.Proofs.YtnnagkfoiganfaaGreatDoor.setSp w g F L) O t 8 g (spL F L):=by
 have h1:=(((((((h.set 0 (xu (wdN F 0))).set 1 (xu (wdN F 1))).set 2 (xu (wdN F 2))).set 3 (xu (wdN F 3))).set 4 (xu (wdN L 0))).set 5 (xu (wdN L 1))).set 6 (xu (wdN L 2))).set 7 (xu (wdN L 3));have hl:=h.X;match vs,hl with
 | [_,_,_,_,_,_,_,_],_=>exact h1
variable {w0:Ww}
theorem yA.below_setSp{B:Nat}(h:yA w O t 8 g vs)(hb:Below B w0 w)(hB:B<=g) F L:Below B w0 (Go.Proofs.YtnnagkfoiganfaaGreatDoor.setSp w g F L):=by unfold Go.Proofs.YtnnagkfoiganfaaGreatDoor.setSp;exact yAc (yAc (yAc (yAc (yAc (yAc (yAc (yAc hb hB _ _) hB _ _) hB _ _) hB _ _) hB _ _) hB _ _) hB _ _) hB _ _
theorem yK(w:Ww)(g:Nat) F L (hs:S g):Chg S w (setSp w g F L):=
 (((((((Chg.D w g 0 _ hs).trans (Chg.D _ g 1 _ hs)).trans (Chg.D _ g 2 _ hs)).trans (Chg.D _ g 3 _ hs)).trans (Chg.D _ g 4 _ hs)).trans (Chg.D _ g 5 _ hs)).trans (Chg.D _ g 6 _ hs)).trans (Chg.D _ g 7 _ hs)
variable {tmps:Array Vv}
theorem yQo(ht:tmps[2]?.getD undef=(xp g))(h:yA w O 343 8 g (spL F L)):(results Tryz.f250 tmps).run prog w=.ok (spV F L) w:=by have⟨p0,p1,p2,p3,p4,p5,p6,p7⟩:=h.c8;simp[results,results250,ht,go_sem,p0,p1,p2,p3,p4,p5,p6,p7]
theorem yEm(ht:tmps[4]?.getD undef=(xp g))(h:yA w O 343 8 g (spL F L)):(results Tryz.f237 tmps).run prog w=.ok (spV F L) w:=by have⟨p0,p1,p2,p3,p4,p5,p6,p7⟩:=h.c8;simp[results,results237,ht,go_sem,p0,p1,p2,p3,p4,p5,p6,p7]
theorem yJh(ht:tmps[4]?.getD undef=(xp g))(h:yA w O 343 8 g (spL F L)):(results Tryz.f252 tmps).run prog w=.ok (spV F L) w:=by have⟨p0,p1,p2,p3,p4,p5,p6,p7⟩:=h.c8;simp[results,results252,ht,go_sem,p0,p1,p2,p3,p4,p5,p6,p7]
theorem yQn(ht:tmps[4]?.getD undef=(xp g))(h:yA w O 343 8 g (spL F L)):(results Tryz.f253 tmps).run prog w=.ok (spV F L) w:=by have⟨p0,p1,p2,p3,p4,p5,p6,p7⟩:=h.c8;simp[results,results253,ht,go_sem,p0,p1,p2,p3,p4,p5,p6,p7]
theorem yWx:psV sNo=.agg #[xu 0,xu 0,xu 0,xu 0]:=by simp only[psV,yF8];rfl
theorem yE2(w:Ww)(h:MtrI w O M T G cp a E en mp)(ha:a<=300):Calls prog 249 #[xp M] w λe w'=>∃G' cp',e=.returned (xi a)/\Hid (MtrI w' O M T G' cp' (a+1) E en mp/\Chg (λk=>k=M\/k=G) w w'/\(G'=G\/w.heap.size<=G')):=by
 have HM:=qH1 h;have c0:=h.fol;have a7:=h.caps;have a4:=h.ltM;have a5:=h.ltG;have a2:=h.ne;go_enter func249,ntmps249;go_wp2_with (at_builtin;refine yIn _ rfl _ _ rfl O G cp a w 1 E rfl rfl ?hO ?hc (HM.new a qr) qo ?hb ?_);case hO=>exact(HM.k (qB)).j
 case hc=>intro j hj;rcases(by omega:j=0\/j=1\/j=2\/j=3)with rfl|rfl|rfl|rfl<;>simp
 case hb=>simp;omega
 intro G' cp' w2 hO a1 a3;have hI:MtrI (xw w z4 328) O M T G cp a E en mp:=HM.k (qB);have a0:Chg (λk=>k=G) (xw w z4 328) w2:=Chg.M a1 (λk q=>by cases q;rfl);have d0:(xk w2 M 1024 (xg G a cp):Prop):=by rw[a0.z (p:=(xd M 1024)) hI.ltM.2 (λq=>a2 q.symm)];exact hI.fol
 have d1:w2.frozen? (xd M 1024)=false:=by rw[a0.frozen (p:=(xd M 1024)) hI.ltM.2 (λq=>a2 q.symm)];exact hI.frzM 1024
 have HF:Hid (MtrI (xt w2 M 1024 (xg G' (a+1) cp')) O M T G' cp' (a+1) E en mp/\Chg (λk=>k=M\/k=G) w (xt w2 M 1024 (xg G' (a+1) cp'))/\(G'=G\/w.heap.size<=G')):=by refine⟨hI.grow a1 hO (by omega),?_,by rcases a3 with q|q;exact .inl q;right;omega⟩;have k1:Chg (λk=>k=M\/k=G) w (xw w z4 328):=Chg.h (qB);exact(k1.trans (a0.mono (λk q=>.inr q))).trans (Chg.D w2 M 1024 _ (.inl rfl))
 have a6:=HF.1.caps;have e0:=HF.1.fol;go_wp2;go_ret;refine⟨G',cp',?_,HF⟩;go_num
theorem yFc(a:Nat)(ha:a<256)(w:Ww):(xf 250 #[xi a] w (spV (sOne a) (sOne a)):Prop):=by
 have hS:sOr sNo (sOne a)=sOne a:=by funext p;simp[sOr,sNo]
 have HW:Hid (∀wx:Ww,(xf 233 #[.agg #[xu 0,xu 0,xu 0,xu 0],xi a] wx (psV (sOne a)):Prop)):=λwx=>by have:=yF sNo a ha wx;rw[hS]at this;rwa [yWx]at this
 go_enter func250,ntmps250;go_wp2_with fail;apply (HW.out _).mono;rintro e w1 ⟨rfl,a1⟩;have⟨W0,a2⟩:=qW (xw w #[xu 0,xu 0,xu 0,xu 0,xu 0,xu 0,xu 0,xu 0] 343);have a4:yA W0 w 343 8 w [xu 0,xu 0,xu 0,xu 0,xu 0,xu 0,xu 0,xu 0]:=a2▸(yAa w _ qr rfl)
 have a3:=qN a2
 rw[<-a2]at a1;have a0:=a4.k a1;have HK:=qH1 (a3.trans (a1.mono a3.size));obtain⟨r0,r1,r2,r3,r4,r5,r6,r7⟩:=a0.c8;obtain⟨f0,f1,f2,f3,f4,f5,f6,f7⟩:=a0.f8;have a5:=a0.lt.2;have HB:=qH1 a0;clear a4 a3 a1 a2 a0;go_wp2;refine AT (v:=spV (sOne a) (sOne a)) (yQo (O:=w.heap.size) (g:=w.heap.size) rfl ((HB.setSp (sOne a) (sOne a)).k (qB))) rfl ⟨rfl,?_⟩;exact(HB.below_setSp HK.out qr (sOne a) (sOne a)).alloc (by rw[yUd];exact AX a5) _
section
attribute [local go_sem] Oper.semAt_some
theorem MtrI.edge4(h:MtrI w O M T G cp a E en mp){p:Nat}(hp:p<a):xk w G (p*4) (xu (wdN (E p) 0))/\xk w G (p*4+1) (xu (wdN (E p) 1))/\xk w G (p*4+2) (xu (wdN (E p) 2))/\xk w G (p*4+3) (xu (wdN (E p) 3))/\w.frozen? (xd G (p*4))=false/\w.frozen? (xd G (p*4+1))=false/\w.frozen? (xd G (p*4+2))=false/\w.frozen? (xd G (p*4+3))=false:=by rw[Ae p 4];exact⟨h.edge hp (j:=0) qo,h.edge hp qo,h.edge hp qo,h.edge hp qo,h.frzG _,h.frzG _,h.frzG _,h.frzG _⟩
def conE(E:Nat->PS)(F X:PS)(k:Nat):Nat->PS:=λp=>if p<k then(λq=>E p q || (F p && X q))else E p
def CoB(w:Ww)(h M:Nat)(F X:PS)(W:Ww):Prop:=yA W h 284 1 h [xp M]/\yA W h 328 4 (h+1) (psL F)/\yA W h 328 4 (h+1+1) (psL X)
def CoI(w:Ww)(O M:Nat)(T:Nat->PS)(G cp a:Nat)(E:Nat->PS)(en:PS)(mp:Nat)(F X:PS)(k:Nat)(W:Ww):Prop:=
 MtrI W O M T G cp a (conE E F X k) en mp/\CoB w w M F X W/\Chg (λj=>j=G) w W
theorem yIi F X w (h:MtrI w O M T G cp a E en mp) (hF:∀p,F p=true->p<a) (ha:a<=256):
  Calls prog 251 #[xp M,psV F,psV X] w λe w'=>(∃v,e=.returned v)/\Hid (MtrI w' O M T G cp a (λp q=>E p q || (F p && X q)) en mp/\Chg (λk=>k=G) w w'):=by
 have⟨W0,a8⟩:=qW (xw ((w.alloc (.cells #[xp M] 284)).alloc (.cells (psL F).toArray 328)) (psL X).toArray 328);have ah:Hid (CoI w O M T G cp a E en mp F X 0 W0/\W0.heap.size=w.heap.size+3):=by
  have⟨b1,b2,b3,k0⟩:=box3 a8;have e:conE E F X 0=E:=by funext p q;simp[conE]
  unfold CoI CoB;rw[e];exact⟨⟨h.k k0,⟨b1,b2,b3⟩,Chg.h k0⟩,by rw[a8];simp⟩
 have HF:Hid (∀p,F p=true->p<a):=hF;have aj:G<w.heap.size:=h.ltG.2;have aq:M<w.heap.size:=h.ltM.2;have al:prog.follows Departure.mixedOrders=true:=qk
 apply (Aj (n:=9)).1;refine AW func251 rfl trivial ?_ rfl;simp only[ntmps251,Ag,Ao,Aq,AH,Ac,AQ,AR,Ah,Ad,Ar,AK];gi_wp2;have ab:=a8;simp only[psL]at ab;rw[<-ab];have z0:=ah.2
 refine yH8 qj F rfl rfl (λk W=>CoI w O M T G cp a E en mp F X k W/\W0.heap.size<=W.heap.size) ?hI ?hIt ?hIs ⟨ah.1,AE _⟩
  (λx=>{tmps:=#[.pointer (some ⟨M,0,none⟩),psV F,psV X,.pointer (some ⟨w,0,none⟩),.pointer (some ⟨w+1,0,none⟩),.pointer (some ⟨w+1+1,0,none⟩),.int .i64 (x:Int),psV F,.func (.func 246) #[psV F] #[],.int .i64 (x:Int),undef,undef,undef,undef,undef,undef,undef,undef,undef,undef,undef,undef,undef,undef,undef],defers:= []}) ?assign ?body ?done
 case hI=>rintro k A B row ⟨⟨hM,hB,hC⟩,a1⟩ hg hr;have hc:Chg (λj=>row=some j) A B:=Chg.M hg (λj q=>q);have a6:∀j,row=some j->W0.heap.size<=j:=λj q=>(hr j q).1;have hb:∀{t sz g:Nat}{vs:List Vv},g<W0.heap.size->yA A w t sz g vs->yA B w t sz g vs:=λhg h=>h.i hc (λq=>qw (a6 _ q));refine⟨⟨hM.i hc (λq=>qw (a6 _ q)) (λq=>qw (a6 _ q)) (λj q=>qv (a6 _ q) hM.ltG.1),⟨hb qo hB.1,hb qo hB.2.1,hb qo hB.2.2⟩,?_⟩,AC a1 hc.size⟩;exact⟨hc.os.trans hC.os,hc.tape.trans hC.tape,hc.output.trans hC.output,AC hC.size hc.size,λj hj hn=>(hc.block j (AA hj hC.size) (λq=>qw (a6 _ q))).trans (hC.block j hj hn)⟩
 case hIt=>exact λk W h=>h.1.1.tab
 case hIs=>
  rintro k k' W ⟨⟨hM,hB,hC⟩,a1⟩ hk ai;refine⟨⟨hM.iff (λ_ _ _ _=>rfl) (λq p hq hp=>?_) (λp hp q=>?_),hB,hC⟩,a1⟩
  .unfold conE;by_cases h3:q<k
   .rw[iB h3,iB qo]
   .rw[iA h3];by_cases h4:q<k'
    .rw[iB h4,ai q qo h4];simp
    .rw[iA h4]
  .have h5:=hM.new p hp q;unfold conE at h5|-;have a7:F p=false:=by
    cases hf:F p with
    |false=>rfl
    |true=>have:=HF.out p hf;omega
   rw[a7]at h5|-;by_cases h3:p<k
   .rw[iB h3]at h5;rw[iB (by omega)];exact h5
   .rw[iA h3]at h5;by_cases h4:p<k'
    .rw[iB h4];simp[h5]
    .rw[iA h4];exact h5
 case assign=>intro l x W K hK;gi_wp2;exact hK
 case body=>
  rintro l k x W ⟨⟨hM,hB,hC⟩,a1⟩ an hx hS ad;have a4:=HF.out x hS;have m0:=hB.1.z (j:=0) rfl;have⟨t0,t1,t2,t3⟩:=hB.2.2.c4;have c0:=hM.fol;have ao:=hM.caps;have a5:conE E F X k x=E x:=by unfold conE;rw[iA (by omega)]
  have e0:(xk W G (x*4) (xu (wdN (E x) 0)):Prop):=by have:=hM.edge a4 (j:=0) (by omega);rwa [a5,show 4*x+0=x*4 by omega]at this
  have e1:(xk W G (x*4+1) (xu (wdN (E x) 1)):Prop):=by have:=hM.edge a4 (j:=1) (by omega);rwa [a5,show 4*x+1=x*4+1 by omega]at this
  have e2:(xk W G (x*4+2) (xu (wdN (E x) 2)):Prop):=by have:=hM.edge a4 (j:=2) (by omega);rwa [a5,show 4*x+2=x*4+2 by omega]at this
  have e3:(xk W G (x*4+3) (xu (wdN (E x) 3)):Prop):=by have:=hM.edge a4 (j:=3) (by omega);rwa [a5,show 4*x+3=x*4+3 by omega]at this
  have zx:(x:Int)<(a:Int):=by omega
  have HB:Hid (MtrI W O M T G cp a (conE E F X k) en mp/\CoB w w M F X W/\Chg (λj=>j=G) w W/\W0.heap.size<=W.heap.size/\conE E F X k x=E x/\F x=true/\(∀j,k<=j->j<x->F j=false)):=⟨hM,hB,hC,a1,a5,hS,ad⟩;have HU:Hid (∀wx:Ww,(xf 247 #[psV (E x),psV X] wx (psV (sOr (E x) X)):Prop)):=λwx=>yDd (E x) X wx;have am:=hM.ltG;have ag:Hid (xk W.drew w 0 (xp M)/\xk W.drew M 1024 (xg G a cp)/\(xk W.drew G (x*4) (xu (wdN (E x) 0))/\xk W.drew G (x*4+1) (xu (wdN (E x) 1))/\xk W.drew G (x*4+2) (xu (wdN (E x) 2))/\xk W.drew G (x*4+3) (xu (wdN (E x) 3)))/\xk W.drew (w+1+1) 0 (xu (wdN X 0))/\xk W.drew (w+1+1) 1 (xu (wdN X 1))/\xk W.drew (w+1+1) 2 (xu (wdN X 2))/\xk W.drew (w+1+1) 3 (xu (wdN X 3))):=⟨m0,c0,⟨e0,e1,e2,e3⟩,t0,t1,t2,t3⟩;gi_wp2;refine yGr 15 (λwz=>xk wz w 0 (xp M)/\xk wz M 1024 (xg G a cp)/\(xk wz G (x*4) (xu (wdN (E x) 0))/\xk wz G (x*4+1) (xu (wdN (E x) 1))/\xk wz G (x*4+2) (xu (wdN (E x) 2))/\xk wz G (x*4+3) (xu (wdN (E x) 3)))/\xk wz (w+1+1) 0 (xu (wdN X 0))/\xk wz (w+1+1) 1 (xu (wdN X 1))/\xk wz (w+1+1) 2 (xu (wdN X 2))/\xk wz (w+1+1) 3 (xu (wdN X 3))) (by kernel_rfl) (by kernel_rfl) ?hlet ?_;case hlet=>rintro⟨a0,w0,hq⟩;exact nomatch (show Exit.outgrown=Exit.normal from hq.1)
  apply j9a 0 ag.out;iterate 12 apply j9b ag.out
  refine qO 13 rfl λK hK=>?_;go_simp;apply (HU.out _).mono;rintro r v3 ⟨rfl,ae⟩;have HV:Hid (Below W W v3):=((Below.refl W W).drew).trans ae;have aa:Hid (MtrI v3 O M T G cp a (conE E F X k) en mp):=HB.1.k HV.out;have a3:CoB w w M F X v3:=⟨HB.2.1.1.k HV.out,HB.2.1.2.1.k HV.out,HB.2.1.2.2.k HV.out⟩;have⟨g0,g1,g2,g3,y0,y1,y2,y3⟩:=aa.edge4 a4;rw[HB.2.2.2.2.1]at g0 g1 g2 g3;have af:Hid (xk v3 w 0 (xp M)/\xk v3 M 1024 (xg G a cp)/\(xk v3 G (x*4) (xu (wdN (E x) 0))/\xk v3 G (x*4+1) (xu (wdN (E x) 1))/\xk v3 G (x*4+2) (xu (wdN (E x) 2))/\xk v3 G (x*4+3) (xu (wdN (E x) 3)))/\xk v3 (w+1+1) 0 (xu (wdN X 0))/\xk v3 (w+1+1) 1 (xu (wdN X 1))/\xk v3 (w+1+1) 2 (xu (wdN X 2))/\xk v3 (w+1+1) 3 (xu (wdN X 3))):=⟨a3.1.z (j:=0) rfl,aa.fol,⟨g0,g1,g2,g3⟩,a3.2.2.z (j:=0) rfl,a3.2.2.z (j:=1) rfl,a3.2.2.z (j:=2) rfl,a3.2.2.z (j:=3) rfl⟩;have ac:Hid (CoB w w M F X v3):=a3;apply hK.out _ _ (.inr af.out);refine jS ?_;apply j9a 14 af.out;apply kL 15;refine qD ?_;have a9:Chg (λj=>j=G) W (set4 v3 G (x*4) (sOr (E x) X)):=(Chg.h HV.out).trans (yBk v3 G (x*4) _ rfl);have ar:G<w.heap.size:=aj;refine⟨rfl,⟨a9.size,λj o hj ho _=>(a9.block j (AB.1 ho).1 (by omega)).trans ho⟩,⟨?_,?_,HB.2.2.1.trans a9⟩,AC HB.2.2.2.1 a9.size⟩
  .have h1:=aa.setE a4 (sOr (E x) X);rw[Ae 4 x]at h1;refine h1.iff (λ_ _ _ _=>rfl) (λq p hq hp=>?_) (λp hp q=>?_)
   .unfold updE conE;by_cases h2:q=x
    .subst h2;rw[iB rfl,iB (by omega),HB.2.2.2.2.2.1];simp[sOr]
    .rw[iA h2];by_cases h3:q<k
     .rw[iB h3,iB (by omega)]
     .rw[iA h3];by_cases h4:q<x+1
      .rw[iB h4,HB.2.2.2.2.2.2 q (by omega) (by omega)];simp
      .rw[iA h4]
   .have h5:=aa.new p hp q;unfold conE at h5|-;have a7:F p=false:=by
     cases hf:F p with
     |false=>rfl
     |true=>have:=HF.out p hf;omega
    rw[a7]at h5|-;by_cases h3:p<k
    .rw[iB h3]at h5;rw[iB (by omega)];exact h5
    .rw[iA h3]at h5;by_cases h4:p<x+1
     .rw[iB h4];simp[h5]
     .rw[iA h4];exact h5
  .have hb:∀{t sz g:Nat}{vs:List Vv},yA v3 w t sz g vs->yA (set4 v3 G (x*4) (sOr (E x) X)) w t sz g vs:=λh=>h.i (S:=λj=>j=G) (yBk v3 G (x*4) _ rfl) (qw h.lt.1);exact⟨hb ac.1,hb ac.2.1,hb ac.2.2⟩
 case done=>
  rintro D W hD ⟨⟨hM,hB,hC⟩,a1⟩ hK;have a2:Chg (λj=>j=D) W (W.putObj D (.deferred none)):=Chg.M (grownBy_putObj' W D _) (λj q=>by cases q;rfl);have ak:Hid (MtrI (W.putObj D (.deferred none)) O M T G cp a (λp q=>E p q || (F p && X q)) en mp/\Chg (λk=>k=G) w (W.putObj D (.deferred none))):=by
   refine⟨(hM.i a2 (by omega) (by omega) (λj q=>qw hM.ltG.1)).iff (λ_ _ _ _=>rfl) (λq p hq hp=>?_) (λp hp q=>?_),?_⟩
   .unfold conE;rw[iB (by omega)]
   .have h5:=hM.new p hp q;unfold conE at h5;have a7:F p=false:=by
     cases hf:F p with
     |false=>rfl
     |true=>have:=HF.out p hf;omega
    rw[a7]at h5|-;by_cases h3:p<256
    .rw[iB h3]at h5;exact h5
    .rw[iA h3]at h5;simp[h5]
   .exact⟨a2.os.trans hC.os,a2.tape.trans hC.tape,a2.output.trans hC.output,AC hC.size a2.size,λj hj hn=>(a2.block j (AA hj hC.size) (by omega)).trans (hC.block j hj hn)⟩
  clear hM hB hC a2;gi_wp2;refine⟨by simp,.inl ⟨_,_,rfl,run_takeDeferred hK,?_⟩⟩;exact⟨_,results_none rfl _ _ _,⟨_,rfl⟩,ak⟩
end
def yCr(T:Nat->PS)(l:Lay):Nat->PS:=λb p=>T b p || l.tk p (AS b)
def yBn(E:Nat->PS)(l:Lay):Nat->PS:=λp q=>E p q || l.ed p q
def LayR(O M:Nat)(T:Nat->PS)(G:Nat)(E:Nat->PS)(en:PS)(mp:Nat)(l:Lay)(w:Ww)(e:Ak)(w':Ww):Prop:=
 ∃G' cp',e=.returned (spV l.fst l.P)/\Hid (MtrI w' O M (yCr T l) G' cp' l.nx (yBn E l) en mp/\Chg (λk=>k=M\/k=G) w w'/\(G'=G\/w.heap.size<=G'))
abbrev zsA:Array Vv:=#[.int .u64 0,.int .u64 0,.int .u64 0,.int .u64 0,.int .u64 0,.int .u64 0,.int .u64 0,.int .u64 0]
theorem MtrI.taken4(h:MtrI w O M T G cp a E en mp){p:Nat}(hp:p<256):xk w M (p*4) (xu (wdN (T p) 0))/\xk w M (p*4+1) (xu (wdN (T p) 1))/\xk w M (p*4+2) (xu (wdN (T p) 2))/\xk w M (p*4+3) (xu (wdN (T p) 3))/\w.frozen? (xd M (p*4))=false/\w.frozen? (xd M (p*4+1))=false/\w.frozen? (xd M (p*4+2))=false/\w.frozen? (xd M (p*4+3))=false:=by rw[Ae p 4];exact⟨h.tk hp (j:=0) qo,h.tk hp qo,h.tk hp qo,h.tk hp qo,h.frzM _,h.frzM _,h.frzM _,h.frzM _⟩
theorem xA1(b:U8) w (h:MtrI w O M T G cp a E en mp) (ha:a<256):
  Calls prog 237 #[xp M,yP0 b] w (LayR O M T G E en mp (lyP (.byte b) a) w):=by
 have⟨W0,a3⟩:=qW (xw (w.alloc (.cells zsA 343)) #[.int .u8 (b.toNat:Int)] 348);have HW0:Hid (yA W0 w 343 8 w zsA.toList/\yA W0 w 348 1 (w+1) [.int .u8 (b.toNat:Int)]/\Below w w W0/\MtrI W0 O M T G cp a E en mp):=by
  have⟨b1,b2,k0⟩:=box2 a3;exact⟨b1,b2,k0,h.k k0⟩
 have HN:=qH1 (yE2 W0 HW0.2.2.2 qo);have a9:=h.ltM;have aa:=h.ltG;have a5:=asBB #[.int .u8 (b.toNat:Int)];go_enter func237,ntmps237;go_wp2_with fail;rw[<-a3];refine HN.mono ?_;rintro e w1 ⟨G1,cp1,rfl,H1⟩;have a1:=qH2 (HW0.1.i H1.2.1 qo) (HW0.2.1.i H1.2.1 qo);have r0:=a1.2.z (j:=0) rfl;have hlB:=b.toNat_lt;obtain⟨bn,a2⟩:=qE b.toNat;rw[<-a2]at r0 hlB;obtain⟨e0,e1,e2,e3,y0,y1,y2,y3⟩:=H1.1.taken4 hlB;have a8:=H1.1.ltM;have a6:=H1.1.ne;have a7:=H1.2.1.size;have zb:(bn:Int)<256:=qo
 have a4:Hid (∀wx:Ww,(xf 233 #[psV (T bn),xi a] wx (psV (sOr (T bn) (sOne a))):Prop)):=λwx=>yF (T bn) a ha wx;have HBn:=qH1 a2;clear a2;go_upto_region 5 with fail;have HS0:=qH5 r0 e0 e1 e2 e3;refine yAf 15 (λwz=>xk wz (w+1) 0 (.int .u8 (bn:Int))/\xk wz M (bn*4) (xu (wdN (T bn) 0))/\xk wz M (bn*4+1) (xu (wdN (T bn) 1))/\xk wz M (bn*4+2) (xu (wdN (T bn) 2))/\xk wz M (bn*4+3) (xu (wdN (T bn) 3))) qk ?_;refine ja 0 HS0.out ?_;iterate 10 refine jb HS0.out ?_
 refine yB0 (i:=11) (j:=12) qk rfl rfl (λK hK=>?_) (λK hK=>?_)
 .go_simp;refine(a4.out _).mono ?_;rintro r v3 ⟨rfl,a0⟩;have HV:=qH1 (((Below.refl w1 w1).drew).trans a0);have HM3:=qH1 (H1.1.k HV.out);have HB3:=qH2 (a1.1.k HV.out) (a1.2.k HV.out);clear e0 e1 e2 e3 y0 y1 y2 y3;obtain⟨g0,g1,g2,g3,y0,y1,y2,y3⟩:=HM3.taken4 hlB;have HS3:=qH5 (by rw[HBn.out];exact HB3.2.z (j:=0) rfl:(xk v3 (w+1) 0 (.int .u8 (bn:Int)):Prop)) g0 g1 g2 g3;refine hK.out _ _ (.inr HS3.out) (jS ?_);clear hK a0;refine kO 12 HS3.out ?_;exact xFg
 .go_simp;refine hK.out _ _ (.inr HS0.out) (jS ?_);clear hK;refine yB0 (i:=11) (j:=13) qk rfl rfl (λK hK=>?_) (λK hK=>?_)
  .go_simp;refine(a4.out _).mono ?_;rintro r v3 ⟨rfl,a0⟩;have HV:=qH1 (((Below.refl w1 w1).drew).trans a0);have HM3:=qH1 (H1.1.k HV.out);have HB3:=qH2 (a1.1.k HV.out) (a1.2.k HV.out);clear e0 e1 e2 e3 y0 y1 y2 y3;obtain⟨g0,g1,g2,g3,y0,y1,y2,y3⟩:=HM3.taken4 hlB;have HS3:=qH5 (by rw[HBn.out];exact HB3.2.z (j:=0) rfl:(xk v3 (w+1) 0 (.int .u8 (bn:Int)):Prop)) g0 g1 g2 g3;refine hK.out _ _ (.inr HS3.out) (jS ?_);clear hK a0;exact xFg
  .go_simp;refine hK.out _ _ (.inr HS0.out) (jS ?_);clear hK;refine qO 11 rfl λK hK=>?_;go_simp;refine(a4.out _).mono ?_;rintro r v3 ⟨rfl,a0⟩;have HV:=qH1 (((Below.refl w1 w1).drew).trans a0);have HM3:=qH1 (H1.1.k HV.out);have HB3:=qH2 (a1.1.k HV.out) (a1.2.k HV.out);clear e0 e1 e2 e3 y0 y1 y2 y3;obtain⟨g0,g1,g2,g3,y0,y1,y2,y3⟩:=HM3.taken4 hlB;have HS3:=qH5 (by rw[HBn.out];exact HB3.2.z (j:=0) rfl:(xk v3 (w+1) 0 (.int .u8 (bn:Int)):Prop)) g0 g1 g2 g3;refine hK.out _ _ (.inr HS3.out) ?_;clear hK a0;exact zzQ2
theorem yPd:(prog.info? 360).map (λi=>(i.zero,i.size))=some (some (.agg (AZ 256 false)),256):=qk
theorem yWk(f:U8->Bool){k:Nat}(hk:k<256)(w:Ww):(Instr.index 358 (.agg (setA f)) (xi k)).run prog w=.ok (f (AS k)) w:=by
 have h1:=yWl f k hk;have h2:=yAh f;have z:(k:Int)<256:=qo
 unfold Instr.index;simp[go_sem,h1];intro q;omega
def clsT(T:Nat->PS)(f:U8->Bool)(a k:Nat):Nat->PS:=λb p=>T b p || (decide (b<k) && (p==a && f (AS b)))
structure ClI(w:Ww)(O M:Nat)(T:Nat->PS)(f:U8->Bool)(G cp a:Nat)(E:Nat->PS)(en:PS)(mp k:Nat)(w1 W:Ww):Prop where
 mtr:MtrI W O M (clsT T f a k) G cp (a+1) E en mp
 A:yA W w 343 8 w zsA.toList
 i:Chg (λj=>j=M) w1 W
theorem xEh(f:U8->Bool) w (h:MtrI w O M T G cp a E en mp) (ha:a<256):
  Calls prog 237 #[xp M,clsV f] w (LayR O M T G E en mp (lyP (.cls f) a) w):=by
 have⟨W0,aa⟩:=qW (xw (w.alloc (.cells zsA 343)) (setA f) 360);have a5:Hid (yA W0 w 343 8 w zsA.toList/\yA W0 w 360 256 (w+1) (setA f).toList/\Below w w W0/\MtrI W0 O M T G cp a E en mp):=by
  have⟨b1,b2,k0⟩:=box2 aa;rw[yAh]at b2;exact⟨b1,b2,k0,h.k k0⟩
 have HN:=qH1 (yE2 W0 a5.2.2.2 qo);have ar:=h.ltM;have au:=h.ltG;have ak:=asCB (setA f);have aj:=asCC (setA f);have ag:=(Al yPd).1;have ah:=yAh f;have ad:=run_storeCells_new (P:=prog) (xw w zsA 343) 360 (AZ 256 false) (setA f) (by rw[yAh];exact(Al yPd).2) (by rw[yAh];simp) (yFu f);simp only[zsA,World.size_alloc]at ad;go_enter func237,ntmps237;go_wp2_with fail;have a9:=aa;simp only[zsA]at a9;rw[<-a9];clear aa a9 ak aj ag ad ah;refine HN.mono ?_;rintro e w1 ⟨G1,a2,rfl,H1⟩;have af:=qH2 (a5.1.i H1.2.1 qo) (a5.2.1.i H1.2.1 qo);have h0:w1.heap[w.heap.size+1]?=some (.cells (setA f) 360 (0,0)):=by have:=af.2.heap;simpa using this
 have hi:=(Al yDb).2;have aq:=H1.1.ltM;have am:=H1.1.ne;have an:=H1.2.1.size;have q0:=a5.2.2.1.size;go_wp2_with (refine wpList_load_row rfl 358 _ rfl (w+1) rfl 360 (setA f) (0,0) _ h0 underlying358 rfl (by rw[yAh];exact hi) ?_);clear h0 hi;go_loopw[45] (λiv wr=>∃k:Nat,k<=256/\iv=(xi k)/\Hid (ClI w O M T f G1 a2 a E en mp k w1 wr)) (λiv _=>256-(intOf iv).toNat);case atStart=>exact⟨0,qo,rfl,H1.1.iff (λb p _ _=>by simp[clsT]) (λ_ _ _ _=>rfl) H1.1.new,af.1,Chg.refl _ _⟩
 case round=>
  obtain⟨k,hk,rfl,HJ⟩:=hrel;by_cases hlt:k<256
  .have zk:(k:Int)<256:=qo
   have ae:=λw=>yWk f hlt w;cases hfk:f (AS k)with
   |false=>
    rw[hfk]at ae;have a1:Hid (ClI w O M T f G1 a2 a E en mp (k+1) w1 wr):=by
     refine⟨HJ.mtr.iff (λb p hb hp=>?_) (λ_ _ _ _=>rfl) HJ.mtr.new,HJ.A,HJ.i⟩;unfold clsT;by_cases e:b=k
     .subst e;simp[hfk]
     .have:decide (b<k+1)=decide (b<k):=by rw[decide_eq_decide];omega
      rw[this]
    clear hfk;refine zY ?_;exact⟨k+1,qo,by go_num,a1⟩
   |true=>
    rw[hfk]at ae;obtain⟨e0,e1,e2,e3,y0,y1,y2,y3⟩:=HJ.mtr.taken4 hlt;have ao:=HJ.mtr.ltM;have ab:Hid (∀wx:Ww,(xf 233 #[psV (clsT T f a k k),xi a] wx (psV (sOr (clsT T f a k k) (sOne a))):Prop)):=λwx=>yF (clsT T f a k k) a ha wx;have ac:=qH1 hfk;clear hfk;go_upto_region 14 with fail;have a8:=qH4 e0 e1 e2 e3;refine yAf 13 (λwz=>xk wz M (k*4) (xu (wdN (clsT T f a k k) 0))/\xk wz M (k*4+1) (xu (wdN (clsT T f a k k) 1))/\xk wz M (k*4+2) (xu (wdN (clsT T f a k k) 2))/\xk wz M (k*4+3) (xu (wdN (clsT T f a k k) 3))) qk ?_;refine ja 0 a8.out ?_;iterate 8 refine jb a8.out ?_
    refine yB0 (i:=9) (j:=10) qk rfl rfl (λK hK=>?_) (λK hK=>?_)
    .go_simp;refine(ab.out _).mono ?_;rintro r v3 ⟨rfl,a3⟩;have HV:=qH1 (((Below.refl wr wr).drew).trans a3);have a4:=qH1 (HJ.mtr.k HV.out);clear e0 e1 e2 e3 y0 y1 y2 y3;obtain⟨g0,g1,g2,g3,y0,y1,y2,y3⟩:=a4.taken4 hlt;have a0:=qH4 g0 g1 g2 g3;refine hK.out _ _ (.inr a0.out) (jS ?_);clear hK a3;refine kO 10 a0.out ?_;refine kO 11 a0.out ?_;exact zzU0
    .go_simp;refine hK.out _ _ (.inr a8.out) (jS ?_);clear hK;refine yB0 (i:=9) (j:=11) qk rfl rfl (λK hK=>?_) (λK hK=>?_)
     .go_simp;refine(ab.out _).mono ?_;rintro r v3 ⟨rfl,a3⟩;have HV:=qH1 (((Below.refl wr wr).drew).trans a3);have a4:=qH1 (HJ.mtr.k HV.out);clear e0 e1 e2 e3 y0 y1 y2 y3;obtain⟨g0,g1,g2,g3,y0,y1,y2,y3⟩:=a4.taken4 hlt;have a0:=qH4 g0 g1 g2 g3;refine hK.out _ _ (.inr a0.out) (jS ?_);clear hK a3;refine kO 11 a0.out ?_;exact zzU0
     .go_simp;refine hK.out _ _ (.inr a8.out) (jS ?_);clear hK;refine qO 9 rfl λK hK=>?_;go_simp;refine(ab.out _).mono ?_;rintro r v3 ⟨rfl,a3⟩;have HV:=qH1 (((Below.refl wr wr).drew).trans a3);have a4:=qH1 (HJ.mtr.k HV.out);clear e0 e1 e2 e3 y0 y1 y2 y3;obtain⟨g0,g1,g2,g3,y0,y1,y2,y3⟩:=a4.taken4 hlt;have a0:=qH4 g0 g1 g2 g3;refine hK.out _ _ (.inr a0.out) (jS ?_);clear hK a3;exact zzU0
  .obtain rfl:k=256:=qo
   have zk:¬(256:Int)<256:=qo
   have al:Hid (∀wx:Ww,(xf 250 #[xi a] wx (spV (sOne a) (sOne a)):Prop)):=λwx=>yFc a ha wx;go_wp2_with fail;refine(al.out _).mono ?_;rintro e w5 ⟨rfl,a7⟩;have a6:=HJ.A.k a7;obtain⟨r0,r1,r2,r3,r4,r5,r6,r7⟩:=a6.c8;obtain⟨f0,f1,f2,f3,f4,f5,f6,f7⟩:=a6.f8;have HF:Hid (LayR O M T G E en mp (lyP (.cls f) a) w (.returned (spV (sOne a) (sOne a))) (setSp w5 w (sOne a) (sOne a))/\yA (setSp w5 w (sOne a) (sOne a)) w 343 8 w (spL (sOne a) (sOne a))):=by
    have h5:=HJ.mtr.k a7;have hc:Chg (λk=>k=w.heap.size) w5 (setSp w5 w (sOne a) (sOne a)):=yK w5 _ _ _ rfl;have ai:¬G1=w.heap.size:=λq=>yAb h5.j a6 qj G1 rfl (by rw[q];rfl);have k0:Chg (λk=>k=M\/k=G) w W0:=Chg.h a5.2.2.1;have hx:=((k0.trans H1.2.1).trans (HJ.i.mono (λk q=>.inl q))).trans (Chg.h a7);refine⟨⟨G1,a2,rfl,⟨(h5.i hc qo ai (λk q=>qo)).iff (λb p hb hp=>?_) (λq p hq hp=>by simp[yBn,lyP]) (λp hp q=>by have:=h5.new p hp q;simp[yBn,lyP,this]),?_,?_⟩⟩,a6.setSp _ _⟩
    .unfold yCr clsT;simp[lyP,hb]
    .exact⟨hc.os.trans hx.os,hc.tape.trans hx.tape,hc.output.trans hx.output,AC hx.size hc.size,λj hj hn=>(hc.block j (AA hj hx.size) qo).trans (hx.block j hj hn)⟩
    .rcases H1.2.2 with q|q
     .exact .inl q
     .exact .inr qo
   clear a6 a7;go_wp2;exact AT (v:=spV (sOne a) (sOne a)) (yEm (O:=w.heap.size) (g:=w.heap.size) rfl HF.2) rfl HF.1
def LyC(O:Nat)(w0:Ww)(t:Pat)(v:Vv):Prop:=∀(M:Nat)(T:Nat->PS)(G cp a:Nat)(E:Nat->PS)(en:PS)(mp:Nat)(w:Ww),MtrI w O M T G cp a E en mp->Below O w0 w->a+wtP t<=256->
 Calls prog 237 #[xp M,v] w (LayR O M T G E en mp (lyP t a) w)
variable {w5:Ww}
theorem yY5(hx:Chg S w w5)(hc:Chg (λk=>w.heap.size<=k) w5 w6):Chg S w w6:=
 ⟨hc.os.trans hx.os,hc.tape.trans hx.tape,hc.output.trans hx.output,AC hx.size hc.size,λj hj hn=>(hc.block j (AA hj hx.size) qo).trans (hx.block j hj hn)⟩
theorem yHt(hm:MtrI w5 O M T G1 cp1 nx E en mp)(hb:yA w5 w 343 8 g vs)(hx:Chg (λk=>k=M\/k=G) w w5) F L:
  MtrI (setSp w5 g F L) O M T G1 cp1 nx E en mp/\yA (setSp w5 g F L) w 343 8 g (spL F L)/\Chg (λk=>k=M\/k=G) w (setSp w5 g F L):=by
 have hc:Chg (λk=>k=g) w5 (setSp w5 g F L):=yK w5 _ _ _ rfl;have a1:¬G1=g:=λq=>yAb hm.j hb qj G1 rfl (by rw[q];rfl);have a0:¬M=g:=λq=>yAb hm.A hb qj M rfl (by rw[q];rfl);have h1:=hb.lt.1;refine⟨⟨hm.A.i hc a0,yAg hm.j hc (λk q=>by simp[AM]at q;subst q;exact a1),hm.new,hm.tab.i hc (λq=>?_),hm.low⟩,hb.setSp _ _,yY5 hx (hc.mono (λk q=>by omega))⟩;have h2:=hm.tab;have h3:w5.heap[g]?=some (.cells vs.toArray 343 (0,0)):=hb.heap;have h4:=h2 8 (by omega);rw[q]at h4;have h5:=hb.X;rw[World.cell?,h3]at h4;simp[AJ (show vs.length<=8 by omega)]at h4
variable {u:Vv}
theorem xEg{t:Pat}(hu:∃X c,u=.iface X (.agg c))(H:LyC O w0 t u)(o r:Bool):LyC O w0 (.rep t o r) (.iface 362 (.agg #[u,o,r])):=by
 intro M T G cp a E en mp w h ab aa;obtain⟨ux,uc,rfl⟩:=hu;have⟨l,hl⟩:=qE (lyP t a);have a4:=(yR1 t a).spt;have ac:=nx_P t a;simp only[wtP]at aa;rw[<-hl]at a4 ac;have⟨W0,a7⟩:=qW (xw (w.alloc (.cells zsA 343)) #[.iface ux (.agg uc),o,r] 362);have a1:Hid (yA W0 w 343 8 w zsA.toList/\yA W0 w 362 3 (w+1) [.iface ux (.agg uc),o,r]/\Below w w W0/\MtrI W0 O M T G cp a E en mp):=by
  have⟨b1,b2,k0⟩:=box2 a7;exact⟨b1,b2,k0,h.k k0⟩
 have am:=h.ltM;have an:=h.ltG;have ak:=h.ne;have HL:Hid (Calls prog 237 #[xp M,.iface ux (.agg uc)] W0 (LayR O M T G E en mp l W0)):=hl▸(H M T G cp a E en mp W0 a1.2.2.2 (ab.trans (a1.2.2.1.mono qo)) aa)
 have a8:=qH3 a4 (by omega:l.nx<=256) hl;clear h H hl a4 ac ab;have ai:=asRB #[.iface ux (.agg uc),o,r];have ah:=asRC #[.iface ux (.agg uc),o,r];have ag:=asRR #[.iface ux (.agg uc),o,r];go_enter func237,ntmps237;go_wp2_with fail;have a6:=a7;simp only[zsA]at a6;rw[<-a6];refine HL.mono ?_;rintro e w1 ⟨G1,ad,rfl,H1⟩;have q0:=a1.2.2.1.size;have al:=H1.2.1.size;obtain⟨W2,a2⟩:=qW (xw w1 (spL l.fst l.P).toArray 343);have k2:=qN a2
 have a0:Hid (yA W2 w 343 8 w zsA.toList/\yA W2 w 362 3 (w+1) [.iface ux (.agg uc),o,r]/\yA W2 w 343 8 w1 (spL l.fst l.P)/\MtrI W2 O M (yCr T l) G1 ad l.nx (yBn E l) en mp/\Chg (λk=>k=M\/k=G) w W2/\(G1=G\/w.heap.size<=G1)):=by
  refine⟨(a1.1.i H1.2.1 qo).k k2,(a1.2.1.i H1.2.1 qo).k k2,?_,H1.1.k k2,((Chg.h a1.2.2.1).trans H1.2.1).trans (Chg.h k2),?_⟩
  .rw[a2];exact yAa w1 _ qo rfl
  .rcases H1.2.2 with q|q
   .exact .inl q
   .exact .inr qo
 have b2:=a0.2.1.z (j:=2) rfl;obtain⟨s0,s1,s2,s3,s4,s5,s6,s7⟩:=a0.2.2.1.c8;obtain⟨g0,g1,g2,g3,g4,g5,g6,g7⟩:=a0.2.2.1.f8;go_upto_region 20 with fail;have a5:=a2;simp only[spL]at a5;rw[<-a5];clear a2 a5;cases r
 .obtain⟨r0,r1,r2,r3,r4,r5,r6,r7⟩:=a0.1.c8;obtain⟨f0,f1,f2,f3,f4,f5,f6,f7⟩:=a0.1.f8;have HF:Hid (LayR O M T G E en mp (lyP (.rep t o false) a) w (.returned (spV l.fst l.P)) (setSp W2 w l.fst l.P)/\yA (setSp W2 w l.fst l.P) w 343 8 w (spL l.fst l.P)):=by
   obtain⟨f1,f2,f3⟩:=yHt a0.2.2.2.1 a0.1 a0.2.2.2.2.1 l.fst l.P;have e1:(lyP (.rep t o false) a)=l.rep false:=by rw[a8.2.2];rfl
   rw[e1];refine⟨⟨G1,ad,rfl,⟨f1.iff (λb p _ _=>rfl) (λq p _ _=>?_) (λp hp q=>?_),f3,a0.2.2.2.2.2⟩⟩,f2⟩
   .simp[yBn,Lay.rep]
   .have:=f1.new p hp q;simpa [yBn,Lay.rep]using this
  exact xGc
 .have aj:=qH1 (yIi l.P l.fst W2 a0.2.2.2.1 (λp hp=>(a8.1.P p hp).2) a8.2.1);go_wp2_with fail;refine aj.mono ?_;rintro e w5 ⟨⟨v,rfl⟩,H5⟩;have af:¬G1=w.heap.size:=λq=>yAb a0.2.2.2.1.j a0.1 qj G1 rfl (by rw[q];rfl);have ae:¬G1=w1.heap.size:=λq=>yAb a0.2.2.2.1.j a0.2.2.1 qj G1 rfl (by rw[q];rfl);have a3:=a0.1.i H5.2 (λq=>af q.symm);have a9:=a0.2.2.1.i H5.2 (λq=>ae q.symm);clear s0 g0;clear s1 g1;clear s2 g2;clear s3 g3;clear s4 g4;clear s5 g5;clear s6 g6;clear s7 g7;obtain⟨r0,r1,r2,r3,r4,r5,r6,r7⟩:=a3.c8;obtain⟨f0,f1,f2,f3,f4,f5,f6,f7⟩:=a3.f8;obtain⟨s0,s1,s2,s3,s4,s5,s6,s7⟩:=a9.c8;obtain⟨g0,g1,g2,g3,g4,g5,g6,g7⟩:=a9.f8;have HF:Hid (LayR O M T G E en mp (lyP (.rep t o true) a) w (.returned (spV l.fst l.P)) (setSp w5 w l.fst l.P)/\yA (setSp w5 w l.fst l.P) w 343 8 w (spL l.fst l.P)):=by
   have hx:Chg (λk=>k=M\/k=G) w w5:=by
    have h2:=a0.2.2.2.2.1;have h3:=H5.2;refine⟨h3.os.trans h2.os,h3.tape.trans h2.tape,h3.output.trans h2.output,AC h2.size h3.size,λj hj hn=>(h3.block j (AA hj h2.size) (λq=>?_)).trans (h2.block j hj hn)⟩;rcases a0.2.2.2.2.2 with z|z
    .exact hn (.inr qo)
    .omega
   obtain⟨f1,f2,f3⟩:=yHt H5.1 a3 hx l.fst l.P;have e1:(lyP (.rep t o true) a)=l.rep true:=by rw[a8.2.2];rfl
   rw[e1];refine⟨⟨G1,ad,rfl,⟨f1.iff (λb p _ _=>rfl) (λq p _ _=>?_) (λp hp q=>?_),f3,a0.2.2.2.2.2⟩⟩,f2⟩
   .simp[yBn,Lay.rep,AD]
   .have:=f1.new p hp q;simpa [yBn,Lay.rep,AD]using this
  clear a3 a9;exact xGc
section
theorem yTj:∀(ts:List Pat)(t:Pat)(em:Bool)(g:Lay),lyS (ts++ [t]) em g=(lyS ts em g).seq (em && nulS ts) (nulB t) (lyP t (lyS ts em g).nx)
 | [],t,em,g=>by simp[lyS,nulS]
 |s::ts,t,em,g=>by simp only[AK,lyS,yTj ts t,nulS,Bool.and_assoc]
theorem yXd(ts:List Pat)(t:Pat):nulS (ts++ [t])=(nulS ts && nulB t):=by rw[yG6,yG6,all_append];simp
theorem yQb:∀(l m:List Pat),wtS (l++m)=wtS l+wtS m
 | [],m=>by simp[wtS]
 |t::l,m=>by simp only[AK,wtS,yQb l m];omega
structure SqB(w X:Ww)(nt:Nat)(uv:Vv)(O M:Nat)(T:Nat->PS)(G cp a:Nat)(E:Nat->PS)(en:PS)(mp:Nat)(F L:PS)(G0:Nat):Prop where
 mtr:MtrI X O M T G cp a E en mp
 node:yA X w nt 1 w [uv]
 ans:yA X w 343 8 (w+1) zsA.toList
 sofar:yA X w 343 8 (w+1+1) (spL F L)
 i:Chg (λk=>k=M\/k=G0) w X
 U:G=G0\/w<=G
section
variable {nt:Nat} {uv:Vv} {G0:Nat}
theorem SqB.k(h:SqB w X nt uv O M T G cp a E en mp F L G0)(hb:Below X X X'):SqB w X' nt uv O M T G cp a E en mp F L G0:=
 ⟨h.mtr.k hb,h.node.k hb,h.ans.k hb,h.sofar.k hb,h.i.trans (Chg.h hb),h.U⟩
theorem SqB.gs(h:SqB w X nt uv O M T G cp a E en mp F L G0)(hnt:nt≠328):¬G=w/\¬G=w+1/\¬G=w+1+1:=
 ⟨λq=>yAb h.mtr.j h.node (λe=>hnt e.symm) G rfl (by rw[q];rfl),λq=>yAb h.mtr.j h.ans qj G rfl (by rw[q];rfl),λq=>yAb h.mtr.j h.sofar qj G rfl (by rw[q];rfl)⟩
theorem SqB.laid(h:SqB w X nt uv O M T G cp a E en mp F L G0)(hnt:nt≠328)(hM:M<w)(hm:MtrI X' O M (yCr T l) G1 cp1 l.nx (yBn E l) en mp)(hc:Chg (λk=>k=M\/k=G) X X')(ha:G1=G\/X<=G1):SqB w X' nt uv O M (yCr T l) G1 cp1 l.nx (yBn E l) en mp F L G0:=by
 have⟨g1,g2,g3⟩:=h.gs hnt;refine⟨hm,h.node.i hc qo,h.ans.i hc qo,h.sofar.i hc qo,?_,?_⟩
 .refine⟨hc.os.trans h.i.os,hc.tape.trans h.i.tape,hc.output.trans h.i.output,AC h.i.size hc.size,λj hj hn=>(hc.block j (AA hj h.i.size) (λq=>?_)).trans (h.i.block j hj hn)⟩;rcases q with q|q
  .exact hn (.inl q)
  .rcases h.U with z|z
   .exact hn (.inr qo)
   .omega
 .have:=h.i.size;rcases ha with q|q
  .rw[q];exact h.U
  .exact .inr qo
theorem SqB.conn(h:SqB w X nt uv O M T G cp a E en mp F L G0)(hnt:nt≠328)(hm:MtrI X' O M T G cp a E' en mp)(hc:Chg (λk=>k=G) X X'):SqB w X' nt uv O M T G cp a E' en mp F L G0:=by
 have⟨g1,g2,g3⟩:=h.gs hnt;refine⟨hm,h.node.i hc qo,h.ans.i hc qo,h.sofar.i hc qo,?_,h.U⟩;refine⟨hc.os.trans h.i.os,hc.tape.trans h.i.tape,hc.output.trans h.i.output,AC h.i.size hc.size,λj hj hn=>(hc.block j (AA hj h.i.size) (λq=>?_)).trans (h.i.block j hj hn)⟩;rcases h.U with z|z
 .exact hn (.inr qo)
 .omega
theorem SqB.set(h:SqB w X nt uv O M T G cp a E en mp F L G0)(hM:M<w)(hnt:nt≠328){o:Nat} S {F' L':PS} (he:yUe (spL F L) o S=spL F' L') (hlow:O<=w):SqB w (set4 X (w+1+1) o S) nt uv O M T G cp a E en mp F' L' G0:=by have⟨g1,g2,g3⟩:=h.gs hnt;have hc:Chg (λk=>k=w+1+1) X (set4 X (w+1+1) o S):=yBk X _ _ _ rfl;refine⟨h.mtr.i hc qo g3 (λk q=>qo),h.node.i hc (by omega),h.ans.i hc (by omega),?_,yY5 h.i (hc.mono (λk q=>by omega)),h.U⟩;have h1:=yFv h.sofar o S;rw[he]at h1;exact h1
end
theorem yOd F L S:yUe (spL F L) 0 S=spL S L:=rfl
theorem yMj F L S:yUe (spL F L) 4 S=spL F S:=rfl
def LqC(O:Nat)(w0:Ww)(ts:List Pat)(u:Vv):Prop:=∃(sa:Option Addr)(sn sc:Nat),u=.slice sa sn sc/\∀(M:Nat)(T:Nat->PS)(G cp a:Nat)(E:Nat->PS)(en:PS)(mp:Nat)(w:Ww),MtrI w O M T G cp a E en mp->Below O w0 w->a+wtS ts<=256->
 Calls prog 252 #[xp M,.agg #[.slice sa sn sc]] w (LayR O M T G E en mp (lyS ts true (Lay.no a)) w)
def SqI(w X:Ww)(uv:Vv)(O M:Nat)(T:Nat->PS)(G cp:Nat)(E:Nat->PS)(en:PS)(mp:Nat)(g:Lay)(G0:Nat):Prop:=SqB w X 316 uv O M (yCr T g) G cp g.nx (yBn E g) en mp g.fst g.P G0
theorem yMg{w W0 O M T G cp a E en mp v t}(h:MtrI w O M T G cp a E en mp)(hW0:W0=((w.alloc (.cells #[v] t)).alloc (.cells zsA 343)).alloc (.cells zsA 343)):SqB w W0 t v O M (yCr T (Lay.no a)) G cp a (yBn E (Lay.no a)) en mp (Lay.no a).fst (Lay.no a).P G:=by
 have⟨b1,b2,b3,k0⟩:=box3 hW0;have hz:spL (Lay.no a).fst (Lay.no a).P=zsA.toList:=by show spL sNo sNo=_;simp only[spL,yF8];rfl
 exact⟨(h.k k0).iff (λb p _ _=>by simp[yCr,Lay.no]) (λq p _ _=>by simp[yBn,Lay.no]) (λp hp q=>by have:=h.new p hp q;simp[yBn,Lay.no,this]),b1,b2,by rw[hz];exact b3,Chg.h k0,.inl rfl⟩
theorem yU2(O:Nat)(w0:Ww):LqC O w0 [] xh:=by
 refine⟨none,0,0,rfl,λM T G cp a E en mp w h hw0 hwt=>?_⟩;have⟨W0,a1⟩:=qE (xw ((w.alloc (.cells #[xh] 316)).alloc (.cells zsA 343)) zsA 343:Ww);have a4:=h.ltM;have a3:=AX (AV h.ltM.1 h.ltM.2);have a5:=qH1 h.ltG.1;have a2:=qH1 (yMg h a1)
 go_enter func252,ntmps252;go_wp2;have a0:=a1;simp only[zsA]at a0;rw[<-a0];clear a1 a0;go_loopw[14] (λiv wr=>iv=(xi 0)/\wr=W0) (λ_ _=>0);case atStart=>exact⟨rfl,rfl⟩
 case round=>
  obtain⟨rfl,rfl⟩:=hrel;have HJ:=a2;have⟨s0,s1,s2,s3,s4,s5,s6,s7⟩:=HJ.sofar.c8;have⟨r0,r1,r2,r3,r4,r5,r6,r7⟩:=HJ.ans.c8;have⟨f0,f1,f2,f3,f4,f5,f6,f7⟩:=HJ.ans.f8;have HF:Hid (LayR O M T G E en mp (lyS [] true (Lay.no a)) w (.returned (spV (lyS [] true (Lay.no a)).fst (lyS [] true (Lay.no a)).P)) (setSp wr (w.heap.size+1) (lyS [] true (Lay.no a)).fst (lyS [] true (Lay.no a)).P)/\yA (setSp wr (w.heap.size+1) (lyS [] true (Lay.no a)).fst (lyS [] true (Lay.no a)).P) w.heap.size 343 8 (w.heap.size+1) (spL (lyS [] true (Lay.no a)).fst (lyS [] true (Lay.no a)).P)):=by have⟨f1,f2,f3⟩:=yHt HJ.mtr HJ.ans HJ.i (lyS [] true (Lay.no a)).fst (lyS [] true (Lay.no a)).P;exact⟨⟨_,_,rfl,⟨f1,f3,HJ.U⟩⟩,f2⟩
  go_wp2;exact AT (v:=spV (lyS [] true (Lay.no a)).fst (lyS [] true (Lay.no a)).P) (yJh (O:=w.heap.size) (g:=w.heap.size+1) rfl HF.2) rfl HF.1
theorem xG4{w W v O M T G1 cp1 E en mp G}{gk L:Lay}(hL:L=gk.seq em nt l)(h8:SqB w W 316 v O M (yCr (yCr T gk) l) G1 cp1 l.nx (λp q=>yBn (yBn E gk) l p q || (gk.P p && l.fst q)) en mp (gk.seq em nt l).fst (gk.seq em nt l).P G):SqI w W v O M T G1 cp1 E en mp L G:=by
 subst hL;refine⟨h8.mtr.iff (λb p _ _=>by simp[yCr,Lay.seq,AD]) (λq p _ _=>by simp[yBn,Lay.seq,AD]) (λp hp q=>?_),h8.node,h8.ans,h8.sofar,h8.i,h8.U⟩;have:=h8.mtr.new p hp q;simpa [yBn,Lay.seq,AD]using this
theorem zNw(h:p:=by have HW8:=qH1 (xG4 HNz.1 h8);clear h8;simp only[set4]at HW8;go_wp2_with fail;refine⟨⟨k+1,G1,cp1,by omega,by go_num,by rw[HNz.2]<;>rfl,HW8⟩,?_⟩;go_light;simp[intOf];omega):p:=h
theorem zNf(h:p:=by go_wp2_with fail;apply HCf.mono;rintro e w6 ⟨rfl,hb6⟩;have HW6:=qH2 (HW4.1.k hb6) (HW4.2.k hb6);have⟨_,_,_,_,s4,s5,s6,s7⟩:=HW6.1.sofar.c8;have⟨_,_,_,_,f4,f5,f6,f7⟩:=HW6.1.sofar.f8;have⟨_,_,_,_,ee4,ee5,ee6,ee7⟩:=HW6.2.c8;have h8:=HW6.1.set hM0.2 (by decide) l.P (yMj _ _ _) hlow;exact zNw):p:=h
theorem zNt(h:p:=by go_wp2;apply HCf.mono;rintro e w6 ⟨rfl,hb6⟩;have HW6:=qH2 (HW4.1.k hb6) (HW4.2.k hb6);have⟨_,_,_,_,s4,s5,s6,s7⟩:=HW6.1.sofar.c8;have⟨_,_,_,_,f4,f5,f6,f7⟩:=HW6.1.sofar.f8;have⟨_,_,_,_,ee4,ee5,ee6,ee7⟩:=HW6.2.c8;go_wp2_with fail;apply (HUl.out _).mono;rintro e w7 ⟨rfl,hb7⟩;clear s4 s5 s6 s7 f4 f5 f6 f7;have HB7:=HW6.1.sofar.k hb7;have⟨_,_,_,_,s4,s5,s6,s7⟩:=HB7.c8;have⟨_,_,_,_,f4,f5,f6,f7⟩:=HB7.f8;have h8:=(HW6.1.k hb7).set hM0.2 (by decide) (sOr gk.P l.P) (yMj _ _ _) hlow;clear HB7 hb7;exact zNw):p:=h
theorem zNs (h:p:=by
 cases hnb:nulB t<;>rw[hnb]at HCe<;>have HNz:=qH1 (HNx _ hnb.symm)<;>have HCf:=qH1 HCe<;>clear hnb HCe<;>rcases hT with⟨rfl,rfl⟩|⟨rfl,rfl⟩|⟨rfl,rfl⟩|⟨rfl,rfl⟩
 iterate 4 exact zNf
 iterate 4 exact zNt):p:=h
theorem yRc(hul:us.length=ts.length)(hV:yC8 w0 lo g0 us)(hlo:g0<O)(hN:∀(i:Nat) x t,us[i]?=some x->ts[i]?=some t->LyC O w0 t x/\NulV w0 t x)(hw5:O=w0):LqC O w0 ts (xg g0 ts.length cp0):=by
 refine⟨_,_,_,rfl,λM T G cp a E en mp w h hw0 a4=>?_⟩;have⟨n,hn⟩:=qE ts.length;have aD:n<=256:=by have:=yQa ts;omega
 rw[<-hn];have⟨W0,aj⟩:=qE (xw ((w.alloc (.cells #[xg g0 n cp0] 316)).alloc (.cells zsA 343)) zsA 343:Ww);have hM0:=h.ltM;have hlow:=AX (AV h.ltM.1 h.ltM.2);have av:=qH1 h.ltG.1;have aq:=qH1 (yMg h aj)
 have HH:=qH7 hn (hn▸hul:us.length=n) hV hw0 hN a4 hw5;clear h hul hV hN hw0 hn a4 hw5;go_enter func252,ntmps252;go_wp2_with fail;have ai:=aj;simp only[zsA]at ai;rw[<-ai];clear aj ai;go_loopw[6,14] (λev iv wr=>∃(k Gk ck:Nat),k<=n/\iv=(xi k)/\ev=(nulS (ts.take k))/\Hid (SqI w wr (xg g0 n cp0) O M T Gk ck E en mp (lyS (ts.take k) true (Lay.no a)) G)) (λ_ iv _=>n-(intOf iv).toNat);case atStart=>exact⟨0,G,cp,BD _,rfl,rfl,aq⟩
 case round=>
  clear aq;obtain⟨k,Gk,ck,hk,rfl,rfl,HJ⟩:=hrel;by_cases hlt:k<n
  .have zk:(k:Int)<(n:Int):=qo
   obtain⟨x,hx⟩:∃x,us[k]?=some x:=qg (by rw[HH.2.1];exact hlt);obtain⟨t,ht⟩:∃t,ts[k]?=some t:=qg (by rw[<-HH.1];exact hlt);obtain⟨au,X,c,f,rfl,hT,HC⟩:=HH.2.2.2.2.1 k x t hx ht;have a5:=Chg.k HH.2.2.2.1 HJ.i hlow (λj q=>by rcases q with q|q;omega;have:=av.out;omega);have c0:(xk wr g0 k (.iface X (.agg c)):Prop):=by rw[a5.cell (p:=(xd g0 k)) hlo];exact HH.2.2.1.val k _ hx
   have⟨gk,a3⟩:=qE (lyS (ts.take k) true (Lay.no a));have⟨l,hl⟩:=qE (lyP t gk.nx);have⟨em,af⟩:=qE (nulS (ts.take k));have ae:ts.take (k+1)=ts.take k++ [t]:=by rw[Ai,ht];rfl
   have ax:wtS (ts.take k)+wtP t<=wtS ts:=by have h1:ts=ts.take (k+1)++ts.drop (k+1):=(Ab _ _).symm;have h2:=congrArg wtS h1;rw[yQb,ae,yQb]at h2;simp only[wtS]at h2;omega
   have az:gk.nx<=a+wtS (ts.take k):=by rw[a3];have:=nx_S (ts.take k) true (Lay.no a);simpa [Lay.no]using this
   have a4:=HH.2.2.2.2.2.1;have am:Spt a gk:=a3▸((xEr (ts.take k) a (Lay.no a) (λx=>x= []) true (yYs a)).spt)
   have al:Spt gk.nx l:=hl▸((yR1 t gk.nx).spt)
   have an:l.nx<=256:=by have:=nx_P t gk.nx;rw[hl];omega
   rw[<-a3]at HJ;have HNx:Hid (∀nt,nt=nulB t->lyS (ts.take (k+1)) true (Lay.no a)=gk.seq em nt l/\nulS (ts.take (k+1))=(em && nt)):=λnt hnt=>by rw[ae,yTj,yXd,<-a3,<-af,<-hl,hnt];exact⟨by simp,rfl⟩
   have HL:Hid (Calls prog 237 #[xp M,.iface X (.agg c)] wr (LayR O M (yCr T gk) Gk (yBn E gk) en mp l wr)):=hl▸(au M (yCr T gk) Gk ck gk.nx (yBn E gk) en mp wr HJ.mtr a5 qo)
   have ad:=qH4 am al an (λwx hq=>by rw[<-HH.2.2.2.2.2.2];exact hq:(∀wx,Below O w0 wx->Below w0 w0 wx));have aE:=qH1 a5;rw[<-af];clear hx ht au a5 a3 hl af ae ax az a4 am al an;go_wp2_with fail;apply HL.mono;rintro e w1 ⟨G1,cp1,rfl,H1⟩;clear c0 HL;have⟨W2,a7⟩:=qE (xw w1 (spL l.fst l.P).toArray 343:Ww);have k2:=qN a7
   have a8:=HJ.laid qj hM0.2 H1.1 H1.2.1 H1.2.2;have ay:=a8.i.size;have a0:=qH2 (a8.k k2) (by rw[a7];exact yAa w1 _ ay rfl:yA W2 w 343 8 w1.heap.size (spL l.fst l.P));have aC:=a8.sofar.lt.2;have⟨s0,s1,s2,s3,s4,s5,s6,s7⟩:=a0.1.sofar.c8;have⟨ac,ab,aa,a9,ee4,ee5,ee6,ee7⟩:=a0.2.c8;have aw:=qH1 (yIi gk.P l.fst W2 a0.1.mtr (λp hp=>by have h1:=(ad.1.P p hp).2;have h2:=ad.2.1.le;omega) ad.2.2.1);clear a8 k2 H1;go_upto_region 7 with fail;have ah:=a7;simp only[spL]at ah;rw[<-ah];clear a7 ah;go_wp2_with fail;apply aw.mono;rintro e w3 ⟨⟨v,rfl⟩,H3⟩;have aA:¬G1=w1:=λq=>yAb a0.1.mtr.j a0.2 qj G1 rfl (by rw[q];rfl);have a2:=qH2 (a0.1.conn qj H3.1 H3.2) (a0.2.i H3.2 (λq=>aA q.symm));clear H3 aw a0;clear s0 s1 s2 s3 s4 s5 s6 s7 ac ab aa a9 ee4 ee5 ee6 ee7;have⟨s0,s1,s2,s3,s4,s5,s6,s7⟩:=a2.1.sofar.c8;have⟨f0,f1,f2,f3,f4,f5,f6,f7⟩:=a2.1.sofar.f8;have⟨ac,ab,aa,a9,ee4,ee5,ee6,ee7⟩:=a2.2.c8;have aB:Hid (∀wx:Ww,Calls prog 247 #[psV gk.fst,psV l.fst] wx λe w'=>e=.returned (psV (sOr gk.fst l.fst))/\Below wx wx w'):=λwx=>yDd gk.fst l.fst wx;have HUl:Hid (∀wx:Ww,Calls prog 247 #[psV gk.P,psV l.P] wx λe w'=>e=.returned (psV (sOr gk.P l.P))/\Below wx wx w'):=λwx=>yDd gk.P l.P wx;have ar:Hid (∀wx,Chg (λk=>k=M\/k=G) w wx->Below w0.heap.size w0 wx):=λwx hq=>ad.2.2.2 wx (Chg.k HH.2.2.2.1 hq hlow (λj q=>by rcases q with q|q;omega;have:=av.out;omega));cases em with
   |true=>
    go_wp2_with fail;apply (aB.out _).mono;rintro e w4 ⟨rfl,a6⟩;have HW4:Hid (SqB w (set4 w4 (w.heap.size+1+1) 0 (sOr gk.fst l.fst)) 316 (xg g0 n cp0) O M (yCr (yCr T gk) l) G1 cp1 l.nx (λp q=>yBn (yBn E gk) l p q || (gk.P p && l.fst q)) en mp (sOr gk.fst l.fst) gk.P G/\yA (set4 w4 (w.heap.size+1+1) 0 (sOr gk.fst l.fst)) w.heap.size 343 8 w1.heap.size (spL l.fst l.P)):=⟨(a2.1.k a6).set hM0.2 qj _ (yOd _ _ _) hlow,(a2.2.k a6).i (yBk (S:=λj=>j=w+1+1) w4 _ _ _ rfl) qo⟩;have ak:=a2.1.sofar.k a6;clear s0 s1 s2 s3 s4 s5 s6 s7 f0 f1 f2 f3 f4 f5 f6 f7 ac ab aa a9 ee4 ee5 ee6 ee7;have⟨s0,s1,s2,s3,s4,s5,s6,s7⟩:=ak.c8;have⟨f0,f1,f2,f3,f4,f5,f6,f7⟩:=ak.f8;clear ak a6;go_upto_region 10 with fail;have⟨W5,a1⟩:=qE (set4 w4 (w.heap.size+1+1) 0 (sOr gk.fst l.fst):Ww);have ag:=a1;simp only[set4,AO]at ag;rw[<-ag];rw[<-a1]at HW4;clear a1 ag;clear s0 s1 s2 s3 s4 s5 s6 s7 f0 f1 f2 f3 f4 f5 f6 f7;have HCe:=HC.out W5 (ar W5 HW4.1.i);exact zNs
   |false=>
    go_upto_region 10 with fail;have⟨W5,a1⟩:=qE (w3:Ww);have HW4:=a2;rw[<-a1]at HW4;rw[<-a1];clear s0 s1 s2 s3 s4 s5 s6 s7 f0 f1 f2 f3 f4 f5 f6 f7 ac ab aa a9 ee4 ee5 ee6 ee7;clear a1;have HCe:=HC.out W5 (ar W5 HW4.1.i);exact zNs
  .obtain rfl:k=n:=qo
   have zk:¬(k:Int)<(k:Int):=qo
   have ao:ts.take k=ts:=by rw[HH.1,Ap]
   rw[ao]at HJ;clear ao;have⟨s0,s1,s2,s3,s4,s5,s6,s7⟩:=HJ.sofar.c8;have⟨r0,r1,r2,r3,r4,r5,r6,r7⟩:=HJ.ans.c8;have⟨f0,f1,f2,f3,f4,f5,f6,f7⟩:=HJ.ans.f8;have HF:Hid (LayR O M T G E en mp (lyS ts true (Lay.no a)) w (.returned (spV (lyS ts true (Lay.no a)).fst (lyS ts true (Lay.no a)).P)) (setSp wr (w.heap.size+1) (lyS ts true (Lay.no a)).fst (lyS ts true (Lay.no a)).P)/\yA (setSp wr (w.heap.size+1) (lyS ts true (Lay.no a)).fst (lyS ts true (Lay.no a)).P) w.heap.size 343 8 (w.heap.size+1) (spL (lyS ts true (Lay.no a)).fst (lyS ts true (Lay.no a)).P)):=by have⟨f1,f2,f3⟩:=yHt HJ.mtr HJ.ans HJ.i (lyS ts true (Lay.no a)).fst (lyS ts true (Lay.no a)).P;exact⟨⟨_,_,rfl,⟨f1,f3,HJ.U⟩⟩,f2⟩
   go_wp2_with fail;exact AT (v:=spV (lyS ts true (Lay.no a)).fst (lyS ts true (Lay.no a)).P) (yJh (O:=w.heap.size) (g:=w.heap.size+1) rfl HF.2) rfl HF.1
end
theorem yTk:∀(os:List (List Pat))(ts:List Pat)(g:Lay),lyA (os++ [ts]) g=(lyA os g).alt (lyS ts true (Lay.no (lyA os g).nx))
 | [],ts,g=>by simp[lyA]
 |o::os,ts,g=>by simp only[AK,lyA,yTk os ts]
theorem yQe:∀(l m:List (List Pat)),wtA (l++m)=wtA l+wtA m
 | [],m=>by simp[wtA]
 |t::l,m=>by simp only[AK,wtA,yQe l m];omega
theorem yR(h:LqC O w0 ts u):∃(sa:Option Addr)(sn sc:Nat),u=.slice sa sn sc/\∀(M:Nat)(T:Nat->PS)(G cp a:Nat)(E:Nat->PS)(en:PS)(mp:Nat)(w:Ww),MtrI w O M T G cp a E en mp->Below O w0 w->a+wtS ts<=256->
 Calls prog 237 #[xp M,.iface 316 (.agg #[.slice sa sn sc])] w (LayR O M T G E en mp (lyS ts true (Lay.no a)) w):=by
 obtain⟨sa,sn,sc,rfl,H⟩:=h;refine⟨sa,sn,sc,rfl,λM T G cp a E en mp w h hw0 hwt=>?_⟩;have⟨l,hl⟩:=qE (lyS ts true (Lay.no a));have⟨W0,a0⟩:=qW (xw (w.alloc (.cells zsA 343)) #[.slice sa sn sc] 316);have HW0:Hid (yA W0 w 343 8 w zsA.toList/\Below w w W0/\MtrI W0 O M T G cp a E en mp):=by
  exact xFr
 have a6:=h.ltM;have a7:=h.ltG;have HL:Hid (Calls prog 252 #[xp M,.agg #[.slice sa sn sc]] W0 (LayR O M T G E en mp l W0)):=hl▸(H M T G cp a E en mp W0 HW0.2.2 (hw0.trans (HW0.2.1.mono qo)) hwt)
 rw[<-hl];clear h H hl hw0;have a5:=asSB #[.slice sa sn sc];have a4:=asSC #[.slice sa sn sc];have a3:=asSR #[.slice sa sn sc];have a2:=asSS #[.slice sa sn sc];go_enter func237,ntmps237;go_wp2_with fail;have a1:=a0;simp only[zsA]at a1;rw[<-a1];clear a0 a1 a5 a4 a3 a2;apply HL.mono;rintro e w5 ⟨G1,cp1,rfl,H1⟩;have q0:=HW0.2.1.size;have HB5:=HW0.1.i H1.2.1 qo;have⟨r0,r1,r2,r3,r4,r5,r6,r7⟩:=HB5.c8;have⟨f0,f1,f2,f3,f4,f5,f6,f7⟩:=HB5.f8;exact xGj
def AlI(w X:Ww)(uv:Vv)(O M:Nat)(T:Nat->PS)(G cp:Nat)(E:Nat->PS)(en:PS)(mp:Nat)(g:Lay)(G0:Nat):Prop:=SqB w X 304 uv O M (yCr T g) G cp g.nx (yBn E g) en mp g.fst g.P G0
variable {os:List (List Pat)}
theorem yRd(hul:us.length=os.length)(hV:yC8 w0 lo g0 us)(hlo:g0<O)(hN:∀(i:Nat) x t,us[i]?=some x->os[i]?=some t->LqC O w0 t x)(M:Nat)(T:Nat->PS)(G cp a:Nat)(E:Nat->PS) en (mp:Nat) w (h:MtrI w O M T G cp a E en mp) (hw0:Below O w0 w) (hwt:a+wtA os<=256):
 Calls prog 253 #[xp M,.agg #[xg g0 os.length cp0]] w (LayR O M T G E en mp (lyA os (Lay.no a)) w):=by
 have⟨n,hn⟩:=qE os.length;have aH:n<=256:=qw (yQd os)
 rw[<-hn];have⟨W0,ae⟩:=qW (xw ((w.alloc (.cells #[xg g0 n cp0] 304)).alloc (.cells zsA 343)) zsA 343);have af:=h.ltM;have a7:=AX (AV h.ltM.1 h.ltM.2);have aF:=qH1 h.ltG.1;have aw:=qH1 (yMg h ae)
 have HH:=qH6 hn (hn▸hul:us.length=n) hV hw0 hN hwt;clear h hul hV hN hw0 hn hwt;go_enter func253,ntmps253;go_wp2_with fail;have ad:=ae;simp only[zsA]at ad;rw[<-ad];clear ae ad;go_loopw[13] (λiv wr=>∃(k Gk ck:Nat),k<=n/\iv=(xi k)/\Hid (AlI w wr (xg g0 n cp0) O M T Gk ck E en mp (lyA (os.take k) (Lay.no a)) G)) (λiv _=>n-(intOf iv).toNat);case atStart=>exact⟨0,G,cp,BD _,rfl,aw⟩
 case round=>
  clear aw;obtain⟨k,Gk,ck,hk,rfl,HJ⟩:=hrel;by_cases hlt:k<n
  .have zk:(k:Int)<(n:Int):=qo
   obtain⟨x,hx⟩:∃x,us[k]?=some x:=qg (by rw[HH.2.1];exact hlt);obtain⟨t,ht⟩:∃t,os[k]?=some t:=qg (by rw[<-HH.1];exact hlt);obtain⟨sa,sn,sc,rfl,ax⟩:=yR (HH.2.2.2.2.1 k x t hx ht);have a8:=Chg.k HH.2.2.2.1 HJ.i a7 (λj q=>by rcases q with q|q;omega;have:=aF.out;omega);have c0:(xk wr g0 k (.slice sa sn sc):Prop):=by rw[a8.cell (p:=(xd g0 k)) hlo];exact HH.2.2.1.val k _ hx
   have⟨gk,a2⟩:=qE (lyA (os.take k) (Lay.no a));have⟨l,hl⟩:=qE (lyS t true (Lay.no gk.nx));have a6:os.take (k+1)=os.take k++ [t]:=by rw[Ai,ht];rfl
   have az:wtA (os.take k)+wtS t<=wtA os:=by have h1:os=os.take (k+1)++os.drop (k+1):=(Ab _ _).symm;have h2:=congrArg wtA h1;rw[yQe,a6,yQe]at h2;simp only[wtA]at h2;omega
   have aB:gk.nx<=a+wtA (os.take k):=by rw[a2];have:=nx_A (os.take k) (Lay.no a);simpa [Lay.no]using this
   have hwt:=HH.2.2.2.2.2;rw[<-a2]at HJ;have aE:Hid (lyA (os.take (k+1)) (Lay.no a)=gk.alt l):=by show _=_;rw[a6,yTk,<-a2,<-hl]
   have k0:∀o:Obj,Below wr wr (wr.alloc o):=λo=>qB;have ay:Hid (∀o:Obj,SqB w (wr.alloc o) 304 (xg g0 n cp0) O M (yCr T gk) Gk ck gk.nx (yBn E gk) en mp gk.fst gk.P G):=λo=>SqB.k HJ (k0 o);have HL:Hid (∀o:Obj,Calls prog 237 #[xp M,.iface 316 (.agg #[.slice sa sn sc])] (wr.alloc o) (LayR O M (yCr T gk) Gk (yBn E gk) en mp l (wr.alloc o))):=λo=>hl▸(ax M (yCr T gk) Gk ck gk.nx (yBn E gk) en mp _ (ay.out o).mtr (a8.trans ((k0 o).mono (qw HJ.i.size))) qo)
   clear hx ht ax a8 a2 hl a6 az aB hwt k0;go_wp2_with fail;apply (HL.out _).mono;rintro e w1 ⟨G1,ao,rfl,H1⟩;clear c0 HL;have⟨W2,a4⟩:=qW (xw w1 (spL l.fst l.P).toArray 343);have k2:=qN a4
   have a5:=(ay _).laid qj af.2 H1.1 H1.2.1 H1.2.2;have aA:=a5.i.size;have a1:=qH2 (a5.k k2) (by rw[a4];exact yAa w1 _ aA rfl:yA W2 w 343 8 w1 (spL l.fst l.P));have aG:=a5.sofar.lt.2;have⟨s0,s1,s2,s3,s4,s5,s6,s7⟩:=a1.1.sofar.c8;have⟨f0,f1,f2,f3,f4,f5,f6,f7⟩:=a1.1.sofar.f8;have⟨an,am,al,ak,aj,ai,ah,ag⟩:=a1.2.c8;have aD:Hid (∀wx:Ww,(xf 247 #[psV gk.fst,psV l.fst] wx (psV (sOr gk.fst l.fst)):Prop)):=λwx=>yDd gk.fst l.fst wx;have aC:Hid (∀wx:Ww,(xf 247 #[psV gk.P,psV l.P] wx (psV (sOr gk.P l.P)):Prop)):=λwx=>yDd gk.P l.P wx;clear a5 k2 H1;go_upto_region 6 with fail;have ac:=a4;simp only[spL]at ac;rw[<-ac];clear a4 ac;go_wp2_with fail;apply (aD.out _).mono;rintro e w4 ⟨rfl,a3⟩;have a0:Hid (SqB w (set4 w4 (w+1+1) 0 (sOr gk.fst l.fst)) 304 (xg g0 n cp0) O M (yCr (yCr T gk) l) G1 ao l.nx (yBn (yBn E gk) l) en mp (sOr gk.fst l.fst) gk.P G/\yA (set4 w4 (w+1+1) 0 (sOr gk.fst l.fst)) w 343 8 w1 (spL l.fst l.P)):=⟨(a1.1.k a3).set af.2 qj _ (yOd _ _ _) a7,(a1.2.k a3).i (yBk (S:=λj=>j=w+1+1) w4 _ _ _ rfl) qo⟩;have au:=a1.1.sofar.k a3;clear s0 s1 s2 s3 s4 s5 s6 s7 f0 f1 f2 f3 f4 f5 f6 f7 an am al ak aj ai ah ag;have⟨s0,s1,s2,s3,s4,s5,s6,s7⟩:=au.c8;have⟨f0,f1,f2,f3,f4,f5,f6,f7⟩:=au.f8;clear au a3;go_upto_region 7 with fail;have⟨W5,ab⟩:=qW (set4 w4 (w+1+1) 0 (sOr gk.fst l.fst));have aa:=ab;simp only[set4,AO]at aa;rw[<-aa];rw[<-ab]at a0;clear ab aa;clear s0 s1 s2 s3 s4 s5 s6 s7 f0 f1 f2 f3 f4 f5 f6 f7;have⟨s0,s1,s2,s3,s4,s5,s6,s7⟩:=a0.1.sofar.c8;have⟨f0,f1,f2,f3,f4,f5,f6,f7⟩:=a0.1.sofar.f8;have⟨an,am,al,ak,aj,ai,ah,ag⟩:=a0.2.c8;go_wp2_with fail;apply (aC.out _).mono;rintro e w7 ⟨rfl,a9⟩;clear s0 s1 s2 s3 s4 s5 s6 s7 f0 f1 f2 f3 f4 f5 f6 f7 an am al ak aj ai ah ag;have ar:=a0.1.sofar.k a9;have⟨s0,s1,s2,s3,s4,s5,s6,s7⟩:=ar.c8;have⟨f0,f1,f2,f3,f4,f5,f6,f7⟩:=ar.f8;have aq:Hid (AlI w (set4 w7 (w+1+1) 4 (sOr gk.P l.P)) (xg g0 n cp0) O M T G1 ao E en mp (gk.alt l) G):=by have h8:=(a0.1.k a9).set af.2 qj (sOr gk.P l.P) (yMj _ _ _) a7;refine⟨h8.mtr.iff (λb p _ _=>by simp[yCr,Lay.alt,AD]) (λq p _ _=>by simp[yBn,Lay.alt,AD]) (λp hp q=>?_),h8.node,h8.ans,h8.sofar,h8.i,h8.U⟩;have:=h8.mtr.new p hp q;simpa [yBn,Lay.alt,AD]using this
   rw[<-aE]at aq;simp only[set4]at aq;clear ar a9;go_wp2_with fail;refine⟨⟨k+1,G1,ao,qo,by go_num,aq⟩,?_⟩;go_light;simp[intOf];omega
  .obtain rfl:k=n:=qo
   have zk:¬(k:Int)<(k:Int):=qo
   have av:os.take k=os:=by rw[HH.1,Ap]
   rw[av]at HJ;clear av;have⟨s0,s1,s2,s3,s4,s5,s6,s7⟩:=HJ.sofar.c8;have⟨r0,r1,r2,r3,r4,r5,r6,r7⟩:=HJ.ans.c8;have⟨f0,f1,f2,f3,f4,f5,f6,f7⟩:=HJ.ans.f8;have HF:Hid (LayR O M T G E en mp (lyA os (Lay.no a)) w (.returned (spV (lyA os (Lay.no a)).fst (lyA os (Lay.no a)).P)) (setSp wr (w+1) (lyA os (Lay.no a)).fst (lyA os (Lay.no a)).P)/\yA (setSp wr (w+1) (lyA os (Lay.no a)).fst (lyA os (Lay.no a)).P) w 343 8 (w+1) (spL (lyA os (Lay.no a)).fst (lyA os (Lay.no a)).P)):=by have⟨f1,f2,f3⟩:=yHt HJ.mtr HJ.ans HJ.i (lyA os (Lay.no a)).fst (lyA os (Lay.no a)).P;exact⟨⟨_,_,rfl,⟨f1,f3,HJ.U⟩⟩,f2⟩
   go_wp2;exact AT (v:=spV (lyA os (Lay.no a)).fst (lyA os (Lay.no a)).P) (yQn (O:=w.heap.size) (g:=w.heap.size+1) rfl HF.2) rfl HF.1
theorem xHe:laidOutB prog=true:=qk
theorem xHa:(328:TypeId)<prog.types.size:=of_decide_eq_true qk
theorem xGy:(match prog.underlying 328 with|some (.array _ _)|some (.struct _)=>true|_=>false)=true:=qk
theorem yXw:Keyed prog 328:=Keyed.of_law (deep_law_laid xHe (m:=2) qo xHa qk xGy)
theorem xDs:∃n,prog.types.size=n+1:=⟨prog.types.size-1,by have h:(328:Nat)<prog.types.size:=xHa;omega⟩
def psK(S:PS):Lit:=.string (keyBytes [.int .u64 (wdN S 0:Int),.int .u64 (wdN S 1:Int),.int .u64 (wdN S 2:Int),.int .u64 (wdN S 3:Int)])
theorem yKo S (i:Nat):(Lit.int .u64 (wdN S i:Int)).wf=true:=by have:=yF9 S i;simp[Lit.wf,IntKind.min,IntKind.max,IntKind.signed,IntKind.bits];omega
theorem yXz(S:PS):keyOf prog 328 (psV S)=some (psK S):=by
 have h1:prog.keyType 328=true:=qk
 have h2:prog.cellsOf 328=4:=qk
 have h3:prog.cellsOf 68=1:=qk
 have h4:AU 4= [0,1,2,3]:=rfl;have w0:=yKo S 0;have w1:=yKo S 1;have w2:=yKo S 2;have w3:=yKo S 3;have⟨n,hn⟩:=xDs;unfold keyOf;rw[underlying328];simp only[h1,Value.formed,underlying328,h2,hn];simp[Program.keyLits,underlying328,underlying68,h2,h3,h4,Av,psK,w0,w1,w2,w3]
variable {S':PS}
theorem xDt{S:PS}(h:psK S=psK S')(p:Nat)(hp:p<256):S p=S' p:=by
 unfold psK at h;simp only[Lit.string.injEq]at h;have e:=keyBytes_inj (l:= [.int .u64 (wdN S 0:Int),.int .u64 (wdN S 1:Int),.int .u64 (wdN S 2:Int),.int .u64 (wdN S 3:Int)]) (l':= [.int .u64 (wdN S' 0:Int),.int .u64 (wdN S' 1:Int),.int .u64 (wdN S' 2:Int),.int .u64 (wdN S' 3:Int)]) ⟨rfl,rfl,rfl,rfl,trivial⟩ (λa ha=>by
  simp only[mem_cons,not_mem_nil,or_false]at ha
  rcases ha with rfl|rfl|rfl|rfl<;>exact yKo S _) (λa ha=>by
  simp only[mem_cons,not_mem_nil,or_false]at ha
  rcases ha with rfl|rfl|rfl|rfl<;>exact yKo S' _) h
 simp at e;refine yN2 (λi hi=>?_) p hp;rcases(by omega:i=0\/i=1\/i=2\/i=3)with rfl|rfl|rfl|rfl
 .exact AP e.1
 .exact AP e.2.1
 .exact AP e.2.2.1
 .exact AP e.2.2.2
abbrev stV(A:PS)(b:Bool):Vv:=.agg #[xu (wdN A 0),xu (wdN A 1),xu (wdN A 2),xu (wdN A 3),b]
def ahdT(E:Nat->PS)(S:PS)(k:Nat):PS:=λq=>(AU k).any (λp=>S p && E p q)
def ahd(E:Nat->PS)(S:PS):PS:=ahdT E S 256
def acc(en S:PS):Bool:=(AU 256).any (λp=>S p && en p)
def RhS:Vv->Option (A8 Vv×List MemPlace):=λv=>some (.held v,[])
theorem xCq(h:RhS v=some (x,ps)):x=.held v/\ps= []:=by unfold RhS at h;simp at h;exact⟨h.1.symm,h.2⟩
def StI(w:Ww)(mp n:Nat)(E:Nat->PS)(en:PS):Prop:=∃D,w.ownsMap prog 328 RhS mp n D/\∀S,AN D (psK S)=false\/(AN D (psK S)=true/\∀z,D.atKey (psK S) z=.held (stV (ahd E S) (acc en S)))
theorem StI.made(h:w.heap[mp]?=some (.map #[] 0)):StI w mp 0 E en:=by
 refine⟨.map [],⟨#[],0,h,?_,by simp,by simp⟩,λS=>.inl rfl⟩;have⟨es,c,he,hf,_⟩:=World.ownsMap_made (H:=Vv) w prog 328 RhS;rw[World.alloc_heap_new]at he;cases he
 exact hf
theorem StI.i(h:StI w mp n E en)(hc:Chg S w w')(hn:¬S mp):StI w' mp n E en:=by have⟨D,⟨es,c,h1,h2,h3,h4⟩,hk⟩:=h;exact⟨D,⟨es,c,(hc.block mp (AB.1 h1).1 hn).trans h1,h2,h3,h4⟩,hk⟩
theorem yZk{S:PS}(h:∀p,p<256->S p=S' p)(k:Nat)(hk:k<=256):ahdT E S k=ahdT E S' k:=by
 funext q;unfold ahdT;rw[AI,AL,AL];constructor
 .rintro⟨p,hp,hx⟩;exact⟨p,hp,by rw[<-h p (by have:=AG.1 hp;omega)];exact hx⟩
 .rintro⟨p,hp,hx⟩;exact⟨p,hp,by rw[h p (by have:=AG.1 hp;omega)];exact hx⟩
theorem yZm{S:PS}(h:∀p,p<256->S p=S' p):acc en S=acc en S':=by
 unfold acc;rw[AI,AL,AL];constructor
 .rintro⟨p,hp,hx⟩;exact⟨p,hp,by rw[<-h p (AG.1 hp)];exact hx⟩
 .rintro⟨p,hp,hx⟩;exact⟨p,hp,by rw[h p (AG.1 hp)];exact hx⟩
theorem xB3(w:Ww):(zeroValue 330).run prog w=.ok (.agg #[xu 0,xu 0,xu 0,xu 0,false]) w:=qk
def StD(w:Ww)(mp n:Nat)(D:A8 Vv)(E:Nat->PS)(en:PS):Prop:=w.ownsMap prog 328 RhS mp n D/\∀S,AN D (psK S)=false\/(AN D (psK S)=true/\∀z,D.atKey (psK S) z=.held (stV (ahd E S) (acc en S)))
theorem StD.i(h:StD w mp n D E en)(hc:Chg S w w')(hn:¬S mp):StD w' mp n D E en:=by have⟨⟨es,c,h1,h2,h3,h4⟩,hk⟩:=h;exact⟨⟨es,c,(hc.block mp (AB.1 h1).1 hn).trans h1,h2,h3,h4⟩,hk⟩
theorem StD.lt(h:StD w mp n D E en):mp<w.heap.size:=by have⟨⟨es,c,h1,h2,h3,h4⟩,hk⟩:=h;exact(AB.1 h1).1
theorem StD.ne(h:StD w mp n D E en){k:Nat}(hb:w.ownsRow O t sz (xg g k cp) k vs):¬mp=g:=λq=>by
 have⟨⟨es,c,h1,h2,h3,h4⟩,hk⟩:=h
 rcases hb.2 with⟨h0,_⟩|⟨g',cap',cur,hv,_,hh,_⟩
 .cases h0
 .simp at hv
  rw[<-hv.1,<-q,h1]at hh
  cases hh
theorem StD.look_t(h:StD w mp n D E en) S (hh:AN D (psK S)=true):(Instr.lookup 336 (.map (some mp)) (psV S) true).run prog w=.ok (.tuple #[stV (ahd E S) (acc en S),true]) w:=by
 have⟨hD,hv⟩:=h;have⟨v,ps,a1,hR⟩:=hD.look_ok yXw underlying336 (xB3 w) (zd:=.held (.agg #[xu 0,xu 0,xu 0,xu 0,false])) (zp:= []) rfl (yXz S);have a0:=(xCq hR).1;rcases hv S with h2|⟨h2,h3⟩
 .rw[hh]at h2;cases h2
 .rw[h3]at a0;simp only[DataW.held.injEq]at a0;rw[<-a0,h2]at a1;exact a1
theorem StD.look_f(h:StD w mp n D E en) S (hh:AN D (psK S)=false):(Instr.lookup 336 (.map (some mp)) (psV S) true).run prog w=.ok (.tuple #[.agg #[xu 0,xu 0,xu 0,xu 0,false],false]) w:=by have⟨hD,hv⟩:=h;have⟨v,ps,a1,hR⟩:=hD.look_ok yXw underlying336 (xB3 w) (zd:=.held (.agg #[xu 0,xu 0,xu 0,xu 0,false])) (zp:= []) rfl (yXz S);have a0:=(xCq hR).1;rw[Maps.atKey_of_not_has hh]at a0;simp only[DataW.held.injEq]at a0;rw[<-a0,hh]at a1;exact a1
theorem StI.put(h:StI w mp n E en)(hn:n<maxLen) S:∃w',(Instr.mapUpdate 336 (.map (some mp)) (psV S) (stV (ahd E S) (acc en S))).run prog w=.ok () w'/\StI w' mp (n+1) E en/\Chg (λk=>k=mp) w w':=by
 have⟨D,hD,hv⟩:=h;have⟨w',a0,ho,hg⟩:=hD.store yXw underlying336 hn (yXz S) (val:=stV (ahd E S) (acc en S)) (d:=.held (stV (ahd E S) (acc en S))) (ps:= []) rfl;refine⟨w',a0,⟨_,ho,λS'=>?_⟩,Chg.M hg.grown (λk q=>by cases q;rfl)⟩;by_cases he:psK S'=psK S
 .have hp:=xDt he;rw[he,show ahd E S'=ahd E S from yZk hp 256 qo,yZm hp];exact .inr ⟨Maps.has_put_same hD.isMap (yXw.key (yXz S)) _,λz=>Maps.atKey_put_same hD.isMap (yXw.key (yXz S)) _ z⟩
 .rcases hv S' with h2|⟨h2,h3⟩
  .exact .inl (by rw[Af he];exact h2)
  .exact .inr ⟨by rw[Af he];exact h2,λz=>by rw[Maps.atKey_put_other he];exact h3 z⟩
theorem yRa (H:∀(M:Nat)(T:Nat->PS)(G cp a:Nat)(E:Nat->PS)(en:PS)(mp:Nat)(w:Ww),MtrI w O M T G cp a E en mp->Below O w0 w->a+wtA os<=256->
 Calls prog 253 #[xp M,.agg #[xg g0 n cp0]] w (LayR O M T G E en mp (lyA os (Lay.no a)) w)):LyC O w0 (.alt os) (.iface 304 (.agg #[xg g0 n cp0])):=by
 intro M T G cp a E en mp w h a2 a3;have⟨l,hl⟩:=qE (lyA os (Lay.no a));have hl2:lyP (.alt os) a=l:=by rw[hl];simp only[lyP]
 simp only[wtP]at a3;have⟨W0,a0⟩:=qW (xw (w.alloc (.cells zsA 343)) #[xg g0 n cp0] 304);have HW0:Hid (yA W0 w 343 8 w zsA.toList/\Below w w W0/\MtrI W0 O M T G cp a E en mp):=by
  exact xFr
 have a9:=h.ltM;have aa:=h.ltG;have HL:Hid (Calls prog 253 #[xp M,.agg #[xg g0 n cp0]] W0 (LayR O M T G E en mp l W0)):=hl▸(H M T G cp a E en mp W0 HW0.2.2 (a2.trans (HW0.2.1.mono qo)) qo)
 rw[hl2];clear h H hl hl2 a2;have a8:=asAB #[xg g0 n cp0];have a7:=asAC #[xg g0 n cp0];have a6:=asAR #[xg g0 n cp0];have a5:=asAS #[xg g0 n cp0];have a4:=asAA #[xg g0 n cp0];go_enter func237,ntmps237;go_wp2_with fail;have a1:=a0;simp only[zsA]at a1;rw[<-a1];apply HL.mono;rintro e w5 ⟨G1,cp1,rfl,H1⟩;have q0:=HW0.2.1.size;have HB5:=HW0.1.i H1.2.1 qo;have r0:=HB5.z (j:=0) rfl;have f0:=HB5.frozen 0;have r1:=HB5.z (j:=1) rfl;have f1:=HB5.frozen 1;have r2:=HB5.z (j:=2) rfl;have f2:=HB5.frozen 2;have r3:=HB5.z (j:=3) rfl;have f3:=HB5.frozen 3;have r4:=HB5.z (j:=4) rfl;have f4:=HB5.frozen 4;have r5:=HB5.z (j:=5) rfl;have f5:=HB5.frozen 5;have r6:=HB5.z (j:=6) rfl;have f6:=HB5.frozen 6;have r7:=HB5.z (j:=7) rfl;have f7:=HB5.frozen 7;exact xGj
theorem xA0(hlo:∀k,lo k->k<O)(hw5:O=w0.heap.size)(h:yP8 (λt v=>wtP t<=500->LyC O w0 t v/\NulV w0 t v) w0 lo ts u)(hwt:wtS ts<=500):LqC O w0 ts u:=by
 rcases h with⟨rfl,rfl⟩|⟨g,cp,us,rfl,a0,hV,hN⟩
 .exact yU2 O w0
 .exact yRc a0 hV (hlo g hV.blk) (λi x t hx ht=>hN i x t hx ht (AC (yQ (A6 ht)) hwt)) hw5
theorem yRb(hlo:∀k,lo k->k<O)(hw5:O=w0.heap.size):∀(n:Nat){t:Pat}{v:Vv},yDo n w0 lo t v->wtP t<=500->LyC O w0 t v
 |0,_,_,h,_=>h.elim
 |n+1,.byte b,v,h,_=>by
  rw[show v=yP0 b from h]
  intro M T G cp a E en mp w hm _ hwt
  simp only[wtP]at hwt
  exact xA1 b w hm qo
 |n+1,.cls f,v,h,_=>by
  rw[show v=clsV f from h]
  intro M T G cp a E en mp w hm _ hwt
  simp only[wtP]at hwt
  exact xEh f w hm qo
 |n+1,.rep t o r,v,⟨u,h1,h2⟩,hw=>by
  rw[h1]
  exact xEg (yBt.iface ⟨n,h2⟩) (yRb hlo hw5 n h2 (by simpa only[wtP]using hw)) o r
 |n+1,.alt os,v,⟨u,h1,⟨g,cp,us,h2,h3,h4,h5⟩⟩,hw=>by
  rw[h1,h2]
  simp only[wtP]at hw
  refine yRa (λM T G cp' a E en mp w hm hw0 hwt=>yRd h3 h4 (hlo g h4.blk) (λi x ts hx hts=>?_) M T G cp' a E en mp w hm hw0 hwt)
  exact xA0 hlo hw5 ((h5 i x ts hx hts).mono (λt v q hq=>⟨yRb hlo hw5 n q hq,yMz n q hq⟩) (λ_ _ q=>q)) (qw (yQc (A6 hts)))
def mtrZ(fv mv:Vv):Array Vv:=(AZ 1024 (.int .u64 0))++#[fv,xu 0,xu 0,xu 0,xu 0,mv]
theorem yVp(a:Option Addr)(n c:Nat)(m:Option Nat)(w:Ww):(Instr.build 338 #[(1,.slice a n c),(3,.map m)]).run prog w=.ok (.agg (mtrZ (.slice a n c) (.map m))) w:=qk
theorem yOv:∃F:Vv->Vv->Array Vv,∀fv mv,F fv mv=mtrZ fv mv:=⟨_,λ_ _=>rfl⟩
noncomputable def mtrA(fv mv:Vv):Array Vv:=Classical.choose yOv fv mv
theorem yQ2(fv mv:Vv):mtrA fv mv=mtrZ fv mv:=Classical.choose_spec yOv fv mv
theorem yP2(a:Option Addr)(n c:Nat)(m:Option Nat)(w:Ww):(Instr.build 338 #[(1,.slice a n c),(3,.map m)]).run prog w=.ok (.agg (mtrA (.slice a n c) (.map m))) w:=by rw[yQ2];exact yVp a n c m w
theorem yOw(fv mv:Vv):(mtrA fv mv).size=1030:=by rw[yQ2];simp[mtrZ]
theorem yXi(fv:Vv)(mp:Nat):(mtrA fv (.map (some mp))).toList=rngV 1030 (mV (λ_=>sNo) fv sNo mp):=by
 rw[yQ2];refine BA (λi=>?_);by_cases hi:i<1030
 .rw[yDs hi];unfold mtrZ mV eV;rw[Array.toList_append,Array.toList_replicate];by_cases h1:i<1024
  .rw[getElem?_append_left (by simpa using h1),iB h1,yF8];rw[getElem?_replicate,iB h1];rfl
  .rw[getElem?_append_right (by simpa using h1),iA h1];simp only[length_replicate,yF8];rcases(by omega:i=1024\/i=1025\/i=1026\/i=1027\/i=1028\/i=1029)with rfl|rfl|rfl|rfl|rfl|rfl<;>rfl
 .rw[AJ (by simp[mtrZ];omega),AJ (by rw[yIy];omega)]
theorem xAu(w:Ww)(hT:TabD w)(u:Vv):MtrI (xw (((w.alloc (.cells #[u] 304)).alloc (.cells z4 328)).alloc (.map #[] 0)) (mtrA (xg (w+1) 1 1) (.map (some (w+1+1)))) 338) w (w+1+1+1) (λ_=>sNo) (w+1) 1 1 (λ_=>sNo) sNo (w+1+1):=by
 have⟨W1,a2⟩:=qE (xw w #[u] 304:Ww);have k1:∀(x:Ww)(o:Obj),Below x x (x.alloc o):=λx o=>qB;have z1:=qS a2
 rw[<-a2];have⟨W2,a0⟩:=qE (xw W1 z4 328:Ww);have z2:W2.heap.size=w.heap.size+1+1:=by rw[a0];simp[z1]
 have r2:W2.ownsRow w 328 4 (xg (w+1) 1 1) 1 z4.toList:=by have:=World.ownsRow_lit W1 (base:=w.heap.size) (e:=328) (size:=4) z4 1 qo qj rfl;rw[z1]at this;rw[a0];exact this
 rw[<-a0];have⟨W3,a1⟩:=qE (W2.alloc (.map #[] 0):Ww);have z3:W3.heap.size=w.heap.size+1+1+1:=by rw[a1];simp[z2]
 rw[<-a1];have h3:Below W2 W2 W3:=a1▸(k1 _ _)
 have b4:=yAa W3 (O:=w.heap.size) (t:=338) (sz:=1030) (mtrA (xg (w+1) 1 1) (.map (some (w+1+1)))) qo (yOw _ _);rw[yXi,z3]at b4;have hw:Below w w W1:=a2▸(k1 _ _)
 have a3:Below W1 W1 W2:=a0▸(k1 _ _)
 refine⟨b4,?_,λp _ q=>rfl,?_,hT.lt⟩
 .have r4:=yAg (yAg r2 (Chg.h h3 (S:=λ_=>False)) (λ_ _ q=>q)) (Chg.h (k1 W3 (.cells (mtrA (xg (w+1) 1 1) (.map (some (w+1+1)))) 338)) (S:=λ_=>False)) (λ_ _ q=>q);have e:rngV (4*1) (eV (λ_=>sNo))=z4.toList:=by have:=yYn (E:=λ_=>sNo) (a:=0) (λ_=>rfl);rw[<-this];rfl
  rw[e];exact r4
 .exact(((hT.i (Chg.h hw (S:=λ_=>False)) (λq=>q)).i (Chg.h a3 (S:=λ_=>False)) (λq=>q)).i (Chg.h h3 (S:=λ_=>False)) (λq=>q)).i (Chg.h (k1 W3 _) (S:=λ_=>False)) (λq=>q)
def mkE(l:Lay):Nat->PS:=λp q=>l.ed p q || (p==0 && l.fst q)
def mkT(l:Lay):Nat->PS:=λb p=>l.tk p (AS b)
def mkN(l:Lay)(em:Bool):PS:=λp=>l.P p || (em && p==0)
def MkR(os:List (List Pat))(w:Ww)(e:Ak)(w':Ww):Prop:=∃M G cp mp,e=.returned (xp M)/\
 Hid (MtrI w' w M (mkT (lyA os (Lay.no 1))) G cp (lyA os (Lay.no 1)).nx (mkE (lyA os (Lay.no 1))) (mkN (lyA os (Lay.no 1)) (nulA os)) mp/\w'.heap[mp]?=some (.map #[] 0)/\w<=mp/\Below w w w')
theorem MtrI.ends4(h:MtrI w O M T G cp a E en mp):xk w M 1025 (xu (wdN en 0))/\xk w M 1026 (xu (wdN en 1))/\xk w M 1027 (xu (wdN en 2))/\xk w M 1028 (xu (wdN en 3))/\w.frozen? (xd M 1025)=false/\w.frozen? (xd M 1026)=false/\w.frozen? (xd M 1027)=false/\w.frozen? (xd M 1028)=false:=
 ⟨h.ends (j:=0) qo,h.ends (j:=1) qo,h.ends (j:=2) qo,h.ends (j:=3) qo,h.frzM _,h.frzM _,h.frzM _,h.frzM _⟩
theorem yGn(h:w.heap[mp]?=some (.map #[] 0))(hc:Chg S w w')(hn:¬S mp):w'.heap[mp]?=some (.map #[] 0):=(hc.block mp (AB.1 h).1 hn).trans h
theorem xDl(h:w.ownsRow O e size (xg g n cp) n vs)(hm:w.heap[mp]?=some (.map #[] 0)):¬mp=g:=λq=>by
 rcases h.2 with⟨h0,_⟩|⟨g',cap',cur,hv,_,hh,_⟩
 .cases h0
 .simp at hv
  rw[<-hv.1,<-q,hm]at hh
  cases hh
theorem xEb(w:Ww):(Instr.makeSlice 335 (xi 1) (xi 1)).run prog w=.ok (xg w 1 1) (xw w z4 328):=qk
theorem xEc(w:Ww):(Instr.makeMap 336 none).run prog w=.ok (.map (some w)) (w.alloc (.map #[] 0)):=qk
theorem yIm{a:Act}(w:Ww)(hgd:o.guard=none) x y (ho:o.op=.build 338 #[(1,x),(3,y)]) {b:Option Addr} {n c:Nat} {m:Option Nat} (hx:a.eval x=.slice b n c) (hy:a.eval y=.map m)
  (h:wpList prog ops Q rest (a.put o.dst (.agg (mtrA (.slice b n c) (.map m)))) w):wpList prog ops Q (o::rest) a w:=by
 refine wpList_plain hgd λK hK=>?_;have hb:=yP2 b n c m w;unfold Oper.wp execOp;simp only[ho,Sem.run_bind,Sem.run_pure,Result.andThen_ok,map_toArray,map_cons,map_nil,hx,hy,hb];exact hK _ _ h
theorem yIs(w:Ww)(hT:TabD w)(hlo:∀k,lo k->k<w.heap.size)(hA:ySk (yDo d w lo) w lo os u)(hwt:wtA os<=250):∃(sa:Option Addr)(sn sc:Nat),u=.slice sa sn sc/\Calls prog 221 #[.agg #[.slice sa sn sc]] w (MkR os w):=by
 have am:=hA;obtain⟨g,a1,us,rfl,h3,h4,h5⟩:=hA;refine⟨_,_,_,rfl,?_⟩;have⟨n,hn⟩:=qE os.length;have al:=yRb hlo rfl (d+1) (t:=.alt os) ⟨_,rfl,am⟩ (by simp only[wtP];omega);have⟨T0,c0,f0,hv,ar,HC⟩:=yMz (d+1) (w:=w) (lo:=lo) (t:=.alt os) (v:=.iface 304 (.agg #[xg g os.length a1])) ⟨_,rfl,am⟩ (by simp only[wtP];omega);simp only[Value.iface.injEq,Value.agg.injEq]at hv;obtain⟨rfl,rfl⟩:=hv;have ay:f0=238:=by
  rcases ar with⟨q,_⟩|⟨q,_⟩|⟨q,_⟩|⟨_,q⟩
  .exact absurd q qj
  .exact absurd q qj
  .exact absurd q qj
  .exact q
 subst ay;rw[<-hn]at al HC|-;have⟨l,hl⟩:=qE (lyA os (Lay.no 1));have hl2:lyP (.alt os) 1=l:=by rw[hl];simp only[lyP]
 have⟨em,ag⟩:=qE (nulA os);have aC:Hid (∀w',Below w w w'->Calls prog 238 #[.agg #[xg g n a1]] w' λe w''=>e=.returned em/\Below w' w' w''):=λw' hw=>by have:=HC.out w' hw;rw[ag];simpa only[nulB]using this
 have⟨W0,a5⟩:=qW (xw (((w.alloc (.cells #[(xg g n a1)] 304)).alloc (.cells z4 328)).alloc (.map #[] 0)) (mtrA (xg (w.heap.size+1) 1 1) (.map (some (w.heap.size+1+1)))) 338);have k0:Below w.heap.size w W0:=by rw[a5];exact(((qB).alloc (by simp) _).alloc (by simp;omega) _).alloc (by simp;omega) _
 have af:=xAu w hT (xg g n a1);rw[<-a5]at af;have aq:W0.heap[w.heap.size+1+1]?=some (.map #[] 0):=by
  rw[a5];have z:(((w.alloc (.cells #[(xg g n a1)] 304)).alloc (.cells z4 328))).heap.size=w.heap.size+1+1:=by simp
  rw[<-z];exact(Below.heap_alloc _ _ _ (by simp)).trans (World.alloc_heap_new _ _)
 have ae:yA W0 w 304 1 w [xg g n a1]:=by have k1:∀(x:Ww)(o:Obj),Below x x (x.alloc o):=λx o=>qB;have b1:=yAa w (O:=w.heap.size) (t:=304) (sz:=1) #[xg g n a1] qr rfl;rw[a5];exact((b1.k (k1 _ _)).k (k1 _ _)).k (k1 _ _)
 have HL:Hid (Calls prog 237 #[xp (w+1+1+1),.iface 304 (.agg #[xg g n a1])] W0 (LayR w (w+1+1+1) (λ_=>sNo) (w+1) (λ_=>sNo) sNo (w+1+1) l W0)):=by rw[<-hl2];exact al _ _ _ _ _ _ _ _ W0 af k0 (by simp only[wtP];omega)
 have ad:=qH3 aq ae k0;have ao:Spt 1 l:=by rw[<-hl2];exact(yR1 (.alt os) 1).spt
 have a8:=qH3 ao hl ag;have az:=yP2 (some ⟨w+1,0,none⟩) 1 1 (some (w+1+1));have b0:=ae.z (j:=0) rfl;have au:=yOw (xg (w+1) 1 1) (.map (some (w+1+1)));clear am h3 h4 h5 al HC ar hl hl2 ag af aq ae k0 ao hlo hT hn;have ax:=xEb;have aw:=xEc;go_enter func221,ntmps221;go_upto_region 2 with(refine yIm _ rfl _ _ rfl rfl rfl ?_);rw[<-a5];clear a5 az au ax aw;go_wp2_with fail;refine HL.mono ?_;rintro e w1 ⟨G1,a6,rfl,H1⟩;obtain⟨W2,ac⟩:=qW (xw w1 (spL l.fst l.P).toArray 343);have k2:=qN ac
 have a0:Hid (MtrI W2 w (w+1+1+1) (yCr (λ_=>sNo) l) G1 a6 l.nx (yBn (λ_=>sNo) l) sNo (w+1+1)/\yA W2 w 304 1 w [xg g n a1]/\yA W2 w 343 8 w1 (spL l.fst l.P)/\W2.heap[w.heap.size+1+1]?=some (.map #[] 0)/\Below w w W2):=by have q1:=ad.2.2.size;have q2:=H1.2.1.size;have av:=ad.2.1.i H1.2.1 qo;have a4:=yGn ad.1 H1.2.1 qo;have aA:=Chg.k ad.2.2 H1.2.1 q1 (λk q=>by omega);exact⟨H1.1.k k2,av.k k2,by rw[ac];exact yAa w1 _ qo rfl,yGn a4 (Chg.h k2 (S:=λ_=>False)) (λq=>q),aA.trans (k2.mono qo)⟩
 have aE:=a8.1.le;have aF:=a0.1.caps;have z0:(0:Int)<(l.nx:Int):=qo
 have aD:0<l.nx:=qo
 have c0:=a0.1.fol;obtain⟨g0,g1,g2,g3,g4,g5,g6,g7⟩:=a0.2.2.1.c8;obtain⟨e0,e1,e2,e3,y0,y1,y2,y3⟩:=a0.1.edge4 (p:=0) qo;simp only[Nat.zero_mul,AO]at e0 e1 e2 e3 y0 y1 y2 y3;clear b0 HL H1;go_upto_region 3 with fail;have ak:=ac;simp only[spL]at ak;rw[<-ak];clear ac ak k2;have an:=qH5 c0 g0 g1 g2 g3;refine yAf 7 (λwz=>xk wz (w+1+1+1) 1024 (xg G1 l.nx a6)/\xk wz w1 0 (xu (wdN l.fst 0))/\xk wz w1 1 (xu (wdN l.fst 1))/\xk wz w1 2 (xu (wdN l.fst 2))/\xk wz w1 3 (xu (wdN l.fst 3))) qk ?_;refine ja 0 an.out ?_;iterate 6 refine jb an.out ?_
 refine kL 7 ?_;refine qD ?_;obtain⟨W3,aj⟩:=qW ((set4 W2 G1 0 l.fst).drew);have aG:=a0.1.ltG.1;have a2:Hid (MtrI W3 w (w+1+1+1) (yCr (λ_=>sNo) l) G1 a6 l.nx (updE (yBn (λ_=>sNo) l) 0 l.fst) sNo (w+1+1)/\yA W3 w 304 1 w [xg g n a1]/\yA W3 w 343 8 w1 (spL l.fst l.P)/\W3.heap[w.heap.size+1+1]?=some (.map #[] 0)/\Below w w W3):=by
  have kd:Below (set4 W2 G1 0 l.fst).heap.size (set4 W2 G1 0 l.fst) W3:=aj▸((Below.refl _ _).drew)
  have hc:=(yBk (S:=λk=>k=G1) W2 G1 0 l.fst rfl).trans (Chg.h kd);have hm:=a0.1.setE (p:=0) qo l.fst;simp only[Nat.mul_zero]at hm;have hm:=hm.k kd;have hb:∀{t sz g:Nat}{vs:List Vv},t≠328->yA W2 w t sz g vs->yA W3 w t sz g vs:=λhne h=>h.i hc (λq=>yAb a0.1.j h (λe=>hne e.symm) G1 rfl (by rw[<-q];rfl));have a4:=a0.2.2.2.1;exact⟨hm,hb qj a0.2.1,hb qj a0.2.2.1,yGn a4 hc (xDl a0.1.j a4),Chg.k a0.2.2.2.2 hc a0.2.2.2.2.size (λk q=>qo)⟩
 have ai:=aj;simp only[set4,AO]at ai;rw[<-ai];clear aj ai an c0 e0 e1 e2 e3 y0 y1 y2 y3 g0 g1 g2 g3 g4 g5 g6 g7;have⟨e0,e1,e2,e3,y0,y1,y2,y3⟩:=a2.1.ends4;have g4:=a2.2.2.1.z (j:=4) rfl;have g5:=a2.2.2.1.z (j:=5) rfl;have g6:=a2.2.2.1.z (j:=6) rfl;have g7:=a2.2.2.1.z (j:=7) rfl;go_upto_region 5 with fail;have⟨W4,ab⟩:=qW (set4 W3 (w+1+1+1) 1025 l.P);have a7:Hid (MtrI W4 w (w+1+1+1) (mkT l) G1 a6 l.nx (mkE l) l.P (w+1+1)/\yA W4 w 304 1 w [xg g n a1]/\W4.heap[w.heap.size+1+1]?=some (.map #[] 0)/\Below w w W4):=by
  have hc:Chg (λk=>k=(w+1+1+1)) W3 W4:=ab▸(yBk _ _ _ _ rfl)
  have hm:=a2.1.setEn l.P;rw[<-ab]at hm;refine⟨hm.iff (λb p _ _=>by simp[mkT,yCr,sNo]) (λq p _ _=>?_) (λp hp q=>?_),a2.2.1.i hc qo,yGn a2.2.2.2.1 hc qo,Chg.k a2.2.2.2.2 hc a2.2.2.2.2.size (λk q=>qo)⟩
  .unfold mkE updE;by_cases h0:q=0
   .subst h0;have he:l.ed 0 p=false:=by
     cases hx:l.ed 0 p with
     |false=>rfl
     |true=>have:=(a8.1.ed 0 p hx).1.1;omega
    simp[he]
   .rw[iA h0];simp[yBn,sNo,h0]
  .have h0:¬p=0:=qo
   have:=hm.new p hp q;unfold updE at this;rw[iA h0]at this;simp[yBn,sNo]at this;simp[mkE,this,h0]
 have ah:=ab;simp only[set4,AH]at ah;rw[<-ah];clear ab ah e0 e1 e2 e3 y0 y1 y2 y3 g4 g5 g6 g7;have b0:=a7.2.1.z (j:=0) rfl;go_wp2_with fail;apply (aC.out _ a7.2.2.2).mono;rintro e w5 ⟨rfl,aa⟩;have a3:=qH3 (a7.1.k aa) (yGn a7.2.2.1 (Chg.h aa (S:=λ_=>False)) (λq=>q)) (a7.2.2.2.trans (aa.mono a7.2.2.2.size));clear aa b0;cases em with
 |false=>
  go_wp2;go_ret;refine⟨_,G1,a6,w+1+1,rfl,?_⟩;rw[<-a8.2.1,<-a8.2.2];exact⟨a3.1.iffEn (λp _=>by simp[mkN]),a3.2.1,qo,a3.2.2⟩
 |true=>
  have⟨e0,e1,e2,e3,y0,y1,y2,y3⟩:=a3.1.ends4;have aB:Hid (∀wx:Ww,(xf 233 #[psV l.P,xi 0] wx (psV (sOr l.P (sOne 0))):Prop)):=λwx=>yF l.P 0 qo wx;go_wp2_with fail;apply (aB.out _).mono;rintro e w6 ⟨rfl,a9⟩;have h6:=a3.1.k a9;clear e0 e1 e2 e3 y0 y1 y2 y3;have⟨e0,e1,e2,e3,y0,y1,y2,y3⟩:=h6.ends4;have HF:Hid (MkR os w (.returned (xp (w+1+1+1))) (set4 w6 (w+1+1+1) 1025 (sOr l.P (sOne 0)))):=by have hc:Chg (λk=>k=(w+1+1+1)) w6 (set4 w6 (w+1+1+1) 1025 (sOr l.P (sOne 0))):=yBk _ _ _ _ rfl;have hb:=a3.2.2.trans (a9.mono a3.2.2.size);have a4:=yGn a3.2.1 (Chg.h a9 (S:=λ_=>False)) (λq=>q);refine⟨_,G1,a6,w+1+1,rfl,?_⟩;rw[<-a8.2.1,<-a8.2.2];exact⟨(h6.setEn _).iffEn (λp _=>by simp[mkN,sOr,sOne]),yGn a4 hc qo,qo,Chg.k hb hc hb.size (λk q=>qo)⟩
  simp only[set4,AH]at HF;clear h6 a9;go_wp2;go_ret;exact HF
section
def noE(X:PS):Bool:=decide (wdN X 0=0) && decide (wdN X 1=0) && decide (wdN X 2=0) && decide (wdN X 3=0)
theorem yS6 X (w:Ww):(Op.equalIn 10000 328 (psV X) (.agg #[xu 0,xu 0,xu 0,xu 0])).run prog w=.ok (noE X) w:=by
 have h:=run_equalIn_deep (P:=prog) 9998 2 328 qk;have h2:prog.cellsOf 328=4:=qk
 have h3:prog.cellsOf 68=1:=qk
 have h4:AU 4= [0,1,2,3]:=rfl;have k:∀S:PS,prog.keyLits 2 328 (psV S).cells.toList=some [.int .u64 (wdN S 0:Int),.int .u64 (wdN S 1:Int),.int .u64 (wdN S 2:Int),.int .u64 (wdN S 3:Int)]:=λS=>by have w0:=yKo S 0;have w1:=yKo S 1;have w2:=yKo S 2;have w3:=yKo S 3;simp[Program.keyLits,underlying328,underlying68,h2,h3,h4,Av,w0,w1,w2,w3]
 have hz:=yWx.symm;rw[hz];have⟨r,hr,hi⟩:=h w 2 2 (psV X) (psV sNo) _ _ qk qk (k X) (k sNo);rw[show(10000:Nat)=9998+2 from rfl,hr];congr 1;rw[AI,hi];unfold noE;simp only[yF8];simp[and_assoc]
theorem yXg X:noE X=false↔∃p,p<256/\X p=true:=by
 constructor
 .intro h;apply Classical.byContradiction;intro hn;have hx:∀p,p<256->X p=sNo p:=λp hp=>by
   cases hc:X p with
   |false=>rfl
   |true=>exact absurd ⟨p,hp,hc⟩ hn
  have:noE X=true:=by unfold noE;simp[yDe hx (i:=0) qo,yDe hx (i:=1) qo,yDe hx (i:=2) qo,yDe hx (i:=3) qo,yF8]
  rw[h]at this;cases this
 .rintro⟨p,hp,hx⟩;cases he:noE X with
  |false=>rfl
  |true=>
   unfold noE at he;simp at he;have h0:X p=sNo p:=yN2 (λi hi=>by
    rw[yF8]
    rcases(by omega:i=0\/i=1\/i=2\/i=3)with rfl|rfl|rfl|rfl
    .exact he.1.1.1
    .exact he.1.1.2
    .exact he.1.2
    .exact he.2) p hp
   rw[hx]at h0;cases h0
theorem xE3 en S:(!noE (sAnd S en))=acc en S:=by
 rw[AI];unfold acc;rw[AL,Bool.not_eq_true',yXg];constructor
 .rintro⟨p,hp,hx⟩;exact⟨p,AG.2 hp,hx⟩
 .rintro⟨p,hp,hx⟩;exact⟨p,AG.1 hp,hx⟩
abbrev z5:Array Vv:=#[.int .u64 0,.int .u64 0,.int .u64 0,.int .u64 0,.bool false]
def stL(A:PS)(b:Bool):List Vv:= [.int .u64 (wdN A 0:Int),.int .u64 (wdN A 1:Int),.int .u64 (wdN A 2:Int),.int .u64 (wdN A 3:Int),.bool b]
structure StB(w X:Ww)(O M:Nat)(T:Nat->PS)(G cp a:Nat)(E:Nat->PS)(en:PS)(mp n:Nat)(D:A8 Vv)(S:PS):Prop where
 mtr:MtrI X O M T G cp a E en mp
 ptr:yA X w 284 1 w [xp M]
 set:yA X w 328 4 (w+1) (psL S)
 ans:yA X w 330 5 (w+1+1) z5.toList
 map:StD X mp n D E en
section
variable {S:PS}
theorem StB.k(h:StB w X O M T G cp a E en mp n D S)(hb:Below X X X'):StB w X' O M T G cp a E en mp n D S:=
 ⟨h.mtr.k hb,h.ptr.k hb,h.set.k hb,h.ans.k hb,h.map.i (S:=λ_=>False) (Chg.h hb) (λq=>q)⟩
theorem StB.i(h:StB w X O M T G cp a E en mp n D S)(hc:Chg Z X X')(hM:¬Z M)(hG:¬Z G)(hp:¬Z mp)(hb:∀k,Z k->O<=k/\w.heap.size+1+1<k):StB w X' O M T G cp a E en mp n D S:=
 ⟨h.mtr.i hc hM hG (λk q=>(hb k q).1),h.ptr.i hc (λq=>by have:=(hb _ q).2;omega),h.set.i hc (λq=>by have:=(hb _ q).2;omega),h.ans.i hc (λq=>by have:=(hb _ q).2;omega),h.map.i hc hp⟩
end
def StP(O M:Nat)(T:Nat->PS)(G cp a:Nat)(E:Nat->PS)(en:PS)(mp n:Nat)(S:PS)(w:Ww)(e:Ak)(w':Ww):Prop:=
 e=.returned (stV (ahd E S) (acc en S))/\Hid (MtrI w' O M T G cp a E en mp/\StI w' mp (n+1) E en/\Chg (λk=>k=mp) w w')
theorem xB6{b:Bool}(ht:tmps[4]?.getD undef=(xp g))(h:yA w O 330 5 g (stL A b)):(results Tryz.f232 tmps).run prog w=.ok (stV A b) w:=by have⟨p0,p1,p2,p3,p4⟩:=h.c5;simp[results,results232,ht,go_sem,p0,p1,p2,p3,p4]
def set5(w:Ww)(g:Nat)(A:PS)(b:Bool):Ww:=(xt ((((w.setCell (xd g 0) (xu (wdN A 0))).setCell (xd g 1) (xu (wdN A 1))).setCell (xd g 2) (xu (wdN A 2))).setCell (xd g 3) (xu (wdN A 3))) g 4 b)
theorem yA.set5(h:yA w O t 5 g vs) A (b:Bool):yA (Go.Proofs.YtnnagkfoiganfaaGreatDoor.set5 w g A b) O t 5 g (stL A b):=by
 have h1:=((((h.set 0 (xu (wdN A 0))).set 1 (xu (wdN A 1))).set 2 (xu (wdN A 2))).set 3 (xu (wdN A 3))).set 4 b;have hl:=h.X;match vs,hl with
 | [_,_,_,_,_],_=>exact h1
theorem yI3(w:Ww)(g:Nat) A (b:Bool) (hs:Z g):Chg Z w (set5 w g A b):=
 ((((Chg.D w g 0 _ hs).trans (Chg.D _ g 1 _ hs)).trans (Chg.D _ g 2 _ hs)).trans (Chg.D _ g 3 _ hs)).trans (Chg.D _ g 4 _ hs)
end
theorem ySr S (w:Ww) (h:MtrI w O M T G cp a E en mp) (hm:StD w mp n D E en):StB w (xw ((w.alloc (.cells #[xp M] 284)).alloc (.cells (psL S).toArray 328)) z5 330) O M T G cp a E en mp n D S/\Below w w (xw ((w.alloc (.cells #[xp M] 284)).alloc (.cells (psL S).toArray 328)) z5 330):=by have⟨b1,b2,b3,k0⟩:=box3 (w:=w) (a:=#[.pointer (some ⟨M,0,none⟩)]) (s:=284) (b:=(psL S).toArray) (t:=328) (c:=z5) (u:=330) rfl;exact⟨⟨h.k k0,b1,b2,b3,hm.i (S:=λ_=>False) (Chg.h k0) (λq=>q)⟩,k0⟩
theorem yQk S w (h:MtrI w O M T G cp a E en mp) (hm:StD w mp n D E en) (hh:AN D (psK S)=true):Calls prog 232 #[xp M,psV S] w (StP O M T G cp a E en mp n S w):=by
 have⟨W0,ab⟩:=qW (xw ((w.alloc (.cells #[xp M] 284)).alloc (.cells (psL S).toArray 328)) z5 330);have a6:Hid (StB w W0 O M T G cp a E en mp n D S/\Below w w W0):=ab▸(ySr S w h hm)
 have HH:=qH1 hh;have ad:Hid (O<=w.heap.size+1+1):=by show _<=_;have:=h.ltM;omega
 apply (Aj (n:=9)).1;refine AW func232 rfl trivial ?_ rfl;simp only[ntmps232,Ag,Ao,Aq,AH,Ac,AQ,AR,Ah,Ad,Ar,AK];gi_wp2;have aa:=ab;simp only[psL,z5]at aa;rw[<-aa];clear ab aa;have ac:∀X,StB w X O M T G cp a E en mp n D S->(xk X w 0 (xp M)/\xk X M 1029 (.map (some mp))/\xk X (w+1) 0 (xu (wdN S 0))/\xk X (w+1) 1 (xu (wdN S 1))/\xk X (w+1) 2 (xu (wdN S 2))/\xk X (w+1) 3 (xu (wdN S 3))/\StD X mp n D E en):=λX h=>⟨h.ptr.z (j:=0) rfl,h.mtr.map,h.set.z (j:=0) rfl,h.set.z (j:=1) rfl,h.set.z (j:=2) rfl,h.set.z (j:=3) rfl,h.map⟩;have a7:=qH1 ac;have HD:=qH1 (a6.1.k ((Below.refl _ _).drew));apply A0.2;apply Aa;refine yAf 99 (λwz=>xk wz w 0 (xp M)/\xk wz M 1029 (.map (some mp))/\xk wz (w+1) 0 (xu (wdN S 0))/\xk wz (w+1) 1 (xu (wdN S 1))/\xk wz (w+1) 2 (xu (wdN S 2))/\xk wz (w+1) 3 (xu (wdN S 3))/\StD wz mp n D E en) qk ?_;apply ja 0 (a7.out _ HD.out);iterate 8 apply jb (a7.out _ HD.out)
 refine qO 9 rfl λK hK=>?_;go_simp;refine hK.out _ _ (.inr (a7.out _ (a6.1.k (by repeat (first|exact Below.refl _ _|refine Below.drew ?_|refine Below.alloc ?_ qr _|refine yAc ?_ qr _ _))))) ?_;clear hK;refine jS ?_;refine qO 10 rfl λK hK=>?_;go_simp;refine hK.out _ _ (.inr (a7.out _ (a6.1.k (by repeat (first|exact Below.refl _ _|refine Below.drew ?_|refine Below.alloc ?_ qr _|refine yAc ?_ qr _ _))))) ?_;clear hK;refine jS ?_;refine qO 11 rfl λK hK=>?_;go_simp;refine hK.out _ _ (.inr (a7.out _ (a6.1.k (by repeat (first|exact Below.refl _ _|refine Below.drew ?_|refine Below.alloc ?_ qr _|refine yAc ?_ qr _ _))))) ?_;clear hK;refine jS ?_;refine qD ?_;dsimp only[Aw];obtain⟨W1,a8⟩:=qW ((W0.alloc (.cells (stL (ahd E S) (acc en S)).toArray 330)).drew);have k1:Below W0 W0 W1:=by rw[a8];exact(qB).drew
 have s0:=a6.2.size;have a5:Hid (StB w W1 O M T G cp a E en mp n D S/\yA W1 w 330 5 W0 (stL (ahd E S) (acc en S))/\Below w w W1):=by refine⟨a6.1.k k1,?_,a6.2.trans (k1.mono s0)⟩;have b1:=yAa W0 (O:=w.heap.size) (t:=330) (sz:=5) (stL (ahd E S) (acc en S)).toArray s0 rfl;rw[a8];exact b1.k ((Below.refl _ _).drew)
 have a9:=a8;simp only[stL]at a9;rw[<-a9];clear a8 a9 k1 HD a7;have r0:=a5.2.1.z (j:=0) rfl;have a0:=a5.1.ans.z (j:=0) rfl;have f0:=a5.1.ans.frozen 0;have r1:=a5.2.1.z (j:=1) rfl;have a1:=a5.1.ans.z (j:=1) rfl;have f1:=a5.1.ans.frozen 1;have r2:=a5.2.1.z (j:=2) rfl;have a2:=a5.1.ans.z (j:=2) rfl;have f2:=a5.1.ans.frozen 2;have r3:=a5.2.1.z (j:=3) rfl;have a3:=a5.1.ans.z (j:=3) rfl;have f3:=a5.1.ans.frozen 3;have r4:=a5.2.1.z (j:=4) rfl;have a4:=a5.1.ans.z (j:=4) rfl;have f4:=a5.1.ans.frozen 4;have HF:Hid (StP O M T G cp a E en mp n S w (.returned (stV (ahd E S) (acc en S))) (set5 W1 (w+1+1) (ahd E S) (acc en S))/\yA (set5 W1 (w+1+1) (ahd E S) (acc en S)) w 330 5 (w+1+1) (stL (ahd E S) (acc en S))):=by have hc:Chg (λk=>k=w.heap.size+1+1) W1 (set5 W1 (w+1+1) (ahd E S) (acc en S)):=yI3 _ _ _ _ rfl;have hB:=a5.1;have hM:¬M=w.heap.size+1+1:=λq=>yAb hB.mtr.A hB.ans qj M rfl (by rw[q];rfl);have hG:¬G=w.heap.size+1+1:=λq=>yAb hB.mtr.j hB.ans qj G rfl (by rw[q];rfl);have hp:=hB.map.ne hB.ans;have ae:=ad.out;have hD:=hB.map.i hc hp;refine⟨⟨rfl,hB.mtr.i hc hM hG (λk q=>qo),⟨D,hD.1.mono (le_succ n),hD.2⟩,?_⟩,hB.ans.set5 _ _⟩;have hx:Chg (λk=>k=mp) w W1:=Chg.h a5.2.2;exact⟨hc.os.trans hx.os,hc.tape.trans hx.tape,hc.output.trans hx.output,AC hx.size hc.size,λj hj hn=>(hc.block j (AA hj hx.size) qo).trans (hx.block j hj hn)⟩
 gi_wp2;exact⟨_,xB6 (O:=w.heap.size) (g:=w.heap.size+1+1) rfl HF.2,HF.1⟩
def stp(E T:Nat->PS)(S:PS)(c:U8):PS:=sAnd (ahd E S) (T c.toNat)
def runS(E T:Nat->PS):PS->List U8->PS
 |S,[]=>S
 |S,c::xs=>runS E T (stp E T S c) xs
theorem yOg(E T:Nat->PS):∀(S:PS)(xs:List U8)(c:U8),runS E T S (xs++ [c])=stp E T (runS E T S xs) c
 |S,[],c=>rfl
 |S,x::xs,c=>yOg E T (stp E T S x) xs c
theorem yZj(E:Nat->PS) S (q:Nat):ahd E S q=true↔∃p,p<256/\S p=true/\E p q=true:=by
 unfold ahd ahdT;exact zzU9
theorem yJc(l:Lay) S (c:U8) (q:Nat):stp (mkE l) (mkT l) S c q=true↔(∃p,p<256/\S p=true/\mkE l p q=true)/\l.tk q c=true:=by
 unfold stp sAnd;rw[An,yZj];have:mkT l c.toNat q=l.tk q c:=by unfold mkT;congr 1;simp
 rw[this]
theorem yMq(l:Lay)(hs:Spt a l)(ha:1<=a)(hn:l.nx<=256):∀(xs:List U8)(S:PS),(∀p,S p=true->1<=p/\p<256)->∀q,runS (mkE l) (mkT l) S xs q=true↔∃p,S p=true/\Pth l p xs q
 | [],S,hS,q=>by
   constructor
   .exact λh=>⟨q,h,.nil q⟩
   .rintro⟨p,hp,h⟩;cases h;exact hp
 |c::xs,S,hS,q=>by
  have hS':∀p,stp (mkE l) (mkT l) S c p=true->1<=p/\p<256:=λp hp=>by
   have:=hs.tk p c ((yJc l S c p).1 hp).2
   omega
  show runS (mkE l) (mkT l) (stp (mkE l) (mkT l) S c) xs q=true↔_
  rw[yMq l hs ha hn xs _ hS' q]
  constructor
  .rintro⟨p',hp',hP⟩
   have⟨⟨p,_,hp,he⟩,ht⟩:=(yJc l S c p').1 hp'
   have h1:=(hS p hp).1
   have he':l.ed p p'=true:=by
    unfold mkE at he;have:(p==0)=false:=by rw[iC];omega
    simpa [this]using he
   exact⟨p,hp,.step he' ht hP⟩
  .rintro⟨p,hp,hP⟩;cases hP with
   |step he ht hP=>
    refine⟨_,(yJc l S c _).2 ⟨⟨p,(hS p hp).2,hp,?_⟩,ht⟩,hP⟩;unfold mkE;rw[he];rfl
theorem xDh(l:Lay)(hs:Spt 1 l)(hn:l.nx<=256)(em:Bool)(xs:List U8):acc (mkN l em) (runS (mkE l) (mkT l) (sOne 0) xs)=true↔(xs= []/\em=true)\/Wd l xs:=by
 have a2:∀S:PS,acc (mkN l em) S=true↔∃p,p<256/\S p=true/\mkN l em p=true:=λS=>by
  unfold acc;exact zzU9
 rw[a2];cases xs with
 |nil=>
  constructor
  .rintro⟨p,_,hp,hN⟩;have h0:p=0:=by simpa [runS,sOne]using hp
   subst h0;unfold mkN at hN;have hl:l.P 0=false:=by
    cases hx:l.P 0 with
    |false=>rfl
    |true=>have:=(hs.P 0 hx).1;omega
   rw[hl]at hN;exact .inl ⟨rfl,by simpa using hN⟩
  .rintro(⟨_,h⟩|h)
   .exact⟨0,qo,rfl,by simp[mkN,h]⟩
   .exact(xG0 h).elim
 |cons c xs=>
  have a1:∀p,stp (mkE l) (mkT l) (sOne 0) c p=true->1<=p/\p<256:=λp hp=>qw (hs.tk p c ((yJc l _ c p).1 hp).2)
  have a0:∀p,stp (mkE l) (mkT l) (sOne 0) c p=true↔l.fst p=true/\l.tk p c=true:=λp=>by
   rw[yJc];constructor
   .rintro⟨⟨p0,_,h0,he⟩,ht⟩;have:p0=0:=by simpa [sOne]using h0
    subst this;refine⟨?_,ht⟩;have hl:l.ed 0 p=false:=by
     cases hx:l.ed 0 p with
     |false=>rfl
     |true=>have:=(hs.ed 0 p hx).1.1;omega
    simpa [mkE,hl]using he
   .rintro⟨h1,h2⟩;exact⟨⟨0,qo,rfl,by simp[mkE,h1]⟩,h2⟩
  constructor
  .rintro⟨q,_,hq,hN⟩;have⟨p,hp,hP⟩:=(yMq l hs qr hn xs _ a1 q).1 hq;have⟨h1,h2⟩:=(a0 p).1 hp;have a4:=(Pth.in hs hP (hs.fst p h1)).1;have hl:l.P q=true:=by
    unfold mkN at hN;have:(q==0)=false:=by rw[iC];omega
    simpa [this]using hN
   exact .inr ⟨c,xs,p,q,rfl,h1,h2,hP,hl⟩
  .rintro(⟨h,_⟩|⟨c',a3,p,q,he,h1,h2,h3,h4⟩)
   .cases h
   .cases he
    refine⟨q,qw ((hs.P q h4).2),?_,by simp[mkN,h4]⟩;exact(yMq l hs qr hn xs _ a1 q).2 ⟨p,(a0 p).2 ⟨h1,h2⟩,h3⟩
theorem yWn(os:List (List Pat))(hn:(lyA os (Lay.no 1)).nx<=256)(xs:List U8):acc (mkN (lyA os (Lay.no 1)) (nulA os)) (runS (mkE (lyA os (Lay.no 1))) (mkT (lyA os (Lay.no 1))) (sOne 0) xs)=true↔LgA os xs:=by
 have hc:=yR1 (.alt os) 1;have e1:lyP (.alt os) 1=lyA os (Lay.no 1):=by simp only[lyP]
 have e2:nulB (.alt os)=nulA os:=by simp only[nulB]
 rw[e1,e2]at hc;rw[xDh _ hc.spt hn,<-hc.wd];simp only[Lg]
theorem yOh(E T:Nat->PS):∀(xs:List U8)(S:PS),(∀p,p<256->S p=false)->∀p,p<256->runS E T S xs p=false
 | [],S,h,p,hp=>h p hp
 |c::xs,S,h,p,hp=>by
  refine yOh E T xs (stp E T S c) (λq hq=>?_) p hp
  cases hx:stp E T S c q with
  |false=>rfl
  |true=>
   unfold stp sAnd at hx
   rw[An,yZj]at hx
   have⟨⟨r,hr,h1,_⟩,_⟩:=hx
   rw[h r hr]at h1
   cases h1
section
attribute [local go_sem] Oper.semAt_some
theorem yP5{S:PS}{k k':Nat}(hk:k<=k')(h:∀j,k<=j->j<k'->S j=false):ahdT E S k'=ahdT E S k:=by
 funext q;unfold ahdT;rw[AI,AL,AL];constructor
 .rintro⟨p,hp,hx⟩;have hp:=AG.1 hp;refine⟨p,AG.2 ?_,hx⟩;apply Classical.byContradiction;intro hn;rw[h p qo hp]at hx;cases hx
 .rintro⟨p,hp,hx⟩;exact⟨p,AG.2 (qw (AG.1 hp)),hx⟩
theorem yZl{S:PS}{k x:Nat}(hk:k<=x)(hS:S x=true)(h:∀j,k<=j->j<x->S j=false):ahdT E S (x+1)=sOr (ahdT E S k) (E x):=by rw[<-yP5 hk h];funext q;simp[ahdT,sOr,AY,any_append,hS]
theorem yEw(h:StD w mp n D E en)(hb:yA w O t sz g vs):¬g=mp:=λq=>h.ne hb q.symm
theorem yI4(hx:Chg Z w w5)(hc:Chg (λk=>w.heap.size<=k) w5 w6):Chg Z w w6:=
 ⟨hc.os.trans hx.os,hc.tape.trans hx.tape,hc.output.trans hx.output,AC hx.size hc.size,λj hj hn=>(hc.block j (AA hj hx.size) qo).trans (hx.block j hj hn)⟩
structure RaI(w:Ww)(O M:Nat)(T:Nat->PS)(G cp a:Nat)(E:Nat->PS)(en:PS)(mp n:Nat)(D:A8 Vv)(S:PS)(b7 k:Nat)(W4 W:Ww):Prop where
 st:StB w W O M T G cp a E en mp n D S
 made:yA W w 330 5 b7 (stL (ahdT E S k) (acc en S))
 low:Below w w W
 size:W4.heap.size<=W.heap.size
end
theorem ySz(E T:Nat->PS):∀(S:PS)(xs ys:List U8),runS E T S (xs++ys)=runS E T (runS E T S xs) ys
 |S,[],ys=>rfl
 |S,x::xs,ys=>ySz E T (stp E T S x) xs ys
theorem yOx(M:Nat)(s:Ba)(hs:200<s.size) w:Calls prog 218 #[xp M,s] w λe w'=>e=.returned false/\w'=w:=by
 have zs:(200:Int)<(s.size:Int):=qo
 go_enter func218,ntmps218;go_wp2;go_ret;exact⟨rfl,rfl⟩
section
attribute [local go_sem] Oper.semAt_some
theorem StI.mono(h:StI w mp n E en)(hm:n<=m):StI w mp m E en:=by have⟨D,h1,h2⟩:=h;exact⟨D,h1.mono hm,h2⟩
theorem StD.tight(h:StD w mp n D E en):StD w mp (A9 D) D E en:=by have⟨⟨es,c,h1,h2,h3,h4⟩,hk⟩:=h;refine⟨⟨es,c,h1,h2,?_,h4⟩,hk⟩;rw[h4];simp[A9,length_sorted]
theorem StD.clear(h:StD w mp n D E en):∃w',(∀ty,(Builtin.clear_ #[336] ty #[.map (some mp)]).run prog w=.ok (.tuple #[]) w')/\StD w' mp 0 (.map []) E en/\Chg (λk=>k=mp) w w':=by
 have⟨⟨es,c,h1,h2,h3,h4⟩,hk⟩:=h;have hl:=(AB.1 h1).1;refine⟨{w with heap:=w.heap.setIfInBounds mp (.map #[] c)},λty=>?_,⟨⟨#[],c,?_,⟨by simp,MapKept.stamped_empty c,by simp⟩,AE _,rfl⟩,λS=>.inl rfl⟩,⟨rfl,rfl,rfl,?_,λk hk hn=>?_⟩⟩
 .simp[Builtin.clear_,run_underlying underlying336,MapKept.run_getObj_map h1,MapKept.run_setObj_map _ h1,Result.andThen]
 .simp[hl]
 .simp
 .show(w.heap.setIfInBounds mp _)[k]?=_;rw[Array.getElem?_setIfInBounds_ne (λq=>hn q.symm)]
def StQ(O M:Nat)(T:Nat->PS)(G cp a:Nat)(E:Nat->PS)(en:PS)(mp:Nat)(S:PS)(w:Ww)(e:Ak)(w':Ww):Prop:=
 e=.returned (stV (ahd E S) (acc en S))/\Hid (MtrI w' O M T G cp a E en mp/\StI w' mp 1000 E en/\Chg (λk=>k=mp) w w')
structure RaJ(w:Ww)(O M:Nat)(T:Nat->PS)(G cp a:Nat)(E:Nat->PS)(en:PS)(mp n:Nat)(D:A8 Vv)(S:PS)(b7 k:Nat)(W4 W:Ww):Prop where
 st:StB w W O M T G cp a E en mp n D S
 made:yA W w 330 5 b7 (stL (ahdT E S k) (acc en S))
 low:Chg (λk=>k=mp) w W
 size:W4.heap.size<=W
theorem StB.chgM{S:PS}(h:StB w X O M T G cp a E en mp n D S)(hc:Chg (λk=>k=mp) X X')(hm:StD X' mp n' D' E en)(hbm:O<=mp):StB w X' O M T G cp a E en mp n' D' S:=
 ⟨h.mtr.i hc (yEw h.map h.mtr.A) (λq=>h.map.ne h.mtr.j q.symm) (λk q=>qo),h.ptr.i hc (yEw h.map h.ptr),h.set.i hc (yEw h.map h.set),h.ans.i hc (yEw h.map h.ans),hm⟩
theorem zSB (h:p:=by
 have⟨w6,hput,hst6,hc6⟩:=StI.put (S:=S) ⟨_,hAd⟩ (by unfold maxLen;omega)
 have kd:Chg (λk=>k=mp) W W.drew:=Chg.h ((Below.refl _ _).drew)
 have HA:=qH5 HRJ hKj (hst6.mono (m:=1000) (by omega)) (kd.trans hc6) hD
 clear hA hK hst6 hc6 hAd m0 q0 q1 q2 q3 HRJ hKj htt kd
 (try clear hst9 hc9);gi_wp2;clear hlen
 (try clear hclr)
 have HS10:Hid (xk W.drew w 0 (xp M)/\xk W.drew M 1029 (.map (some mp))/\xk W.drew (w+1) 0 (xu (wdN S 0))/\xk W.drew (w+1) 1 (xu (wdN S 1))/\xk W.drew (w+1) 2 (xu (wdN S 2))/\xk W.drew (w+1) 3 (xu (wdN S 3))/\xk W.drew b7 0 (xu (wdN (ahd E S) 0))/\xk W.drew b7 1 (xu (wdN (ahd E S) 1))/\xk W.drew b7 2 (.int .u64 (wdN (ahd E S) 2:Int))/\xk W.drew b7 3 (.int .u64 (wdN (ahd E S) 3:Int))/\xk W.drew b7 4 (acc en S)):=by have h:=HA.1;exact⟨h.st.ptr.z (j:=0) rfl,h.st.mtr.map,h.st.set.z (j:=0) rfl,h.st.set.z (j:=1) rfl,h.st.set.z (j:=2) rfl,h.st.set.z (j:=3) rfl,h.made.z (j:=0) rfl,h.made.z (j:=1) rfl,h.made.z (j:=2) rfl,h.made.z (j:=3) rfl,h.made.z (j:=4) rfl⟩
 refine wpIn_wide.2 ?_;apply wp_region_noPanic;refine yAf 6 (λwz=>xk wz w 0 (xp M)/\xk wz M 1029 (.map (some mp))/\xk wz (w+1) 0 (xu (wdN S 0))/\xk wz (w+1) 1 (xu (wdN S 1))/\xk wz (w+1) 2 (xu (wdN S 2))/\xk wz (w+1) 3 (xu (wdN S 3))/\xk wz b7 0 (xu (wdN (ahd E S) 0))/\xk wz b7 1 (xu (wdN (ahd E S) 1))/\xk wz b7 2 (xu (wdN (ahd E S) 2))/\xk wz b7 3 (xu (wdN (ahd E S) 3))/\xk wz b7 4 (acc en S)) qk ?_;apply ja 0 HS10.out;iterate 5 apply jb HS10.out
 refine qO 6 rfl λK hK=>?_;go_simp;apply hK.out _ _ (.inl rfl);refine jS ?_;refine qD ?_;dsimp only[NoPanic];have hp:¬mp=b7:=HA.1.st.map.ne HA.1.made;have ha2:¬mp=w.heap.size+1+1:=HA.1.st.map.ne HA.1.st.ans;have hB6:yA w6 w 330 5 b7 (stL (ahd E S) (acc en S)):=HA.1.made.i HA.2.2.2.1 (λq=>hp q.symm);have hA6:=HA.1.st.ans.i HA.2.2.2.1 (λq=>ha2 q.symm);
 obtain⟨r0,r1,r2,r3,r4⟩:=hB6.c5;obtain⟨a0,a1,a2,a3,a4⟩:=hA6.c5;obtain⟨f0,f1,f2,f3,f4⟩:=hA6.f5
 obtain⟨W7,hW7⟩:=qE (set5 w6 (w+1+1) (ahd E S) (acc en S):Ww);have h:=HA.1;have hc7:Chg (λk=>k=w.heap.size+1+1) w6 W7:=by rw[hW7];exact yI3 _ _ _ _ rfl
 have hLo:=HLo.out;have hM6:=h.st.mtr.A.i HA.2.2.2.1 (λq=>yEw h.st.map h.st.mtr.A q);have hDm:¬Dd=mp:=λq=>by obtain⟨⟨es,c,h1,_⟩,_⟩:=h.st.map;rw[<-q,HA.2.1]at h1;cases h1
 have hKD:W7.heap[Dd]?=some (.deferred (some [])):=by have hl:Dd<_:=(Array.getElem?_eq_some_iff.1 HA.2.1).1;rw[hc7.block Dd (Nat.lt_of_lt_of_le hl HA.2.2.2.1.size) (by have:=HA.2.2.2.2;omega),HA.2.2.2.1.block Dd hl hDm];exact HA.2.1
 exact zzQ5):p:=h
theorem zSA (h:p:=by
 have m0:=HR4.1.st.ptr.z (j:=0) rfl;obtain⟨q0,q1,q2,q3⟩:=HR4.1.st.set.c4;gi_wp2;have hbz:w.heap.size+1+1<W4.heap.size:=HR4.1.st.ans.lt.2;have hMz:=HR4.1.st.mtr.ltM;have hGz:=HR4.1.st.mtr.ltG;have hpz:=HR4.1.st.map.lt
 refine yH8 qj S rfl rfl (λk W=>RaI w O M T G cp a E en mp n D S b7 k W4 W) ?hI ?hIt ?hIs HR4.1
  (λx=>{tmps:=#[.pointer (some ⟨M,0,none⟩),psV S,.pointer (some ⟨w,0,none⟩),.pointer (some ⟨w+1,0,none⟩),.pointer (some ⟨w+1+1,0,none⟩),.pointer (some ⟨W0,0,none⟩),.bool false,.pointer (some ⟨b7,0,none⟩),.int .i64 (x:Int),.tuple #[.agg #[xu 0,xu 0,xu 0,xu 0,false],false],.pointer (some ⟨M,0,none⟩),.pointer (some ⟨M,0,none⟩),.pointer (some ⟨M,1029,none⟩),.map (some mp),psV S,.tuple #[.agg #[xu 0,xu 0,xu 0,xu 0,false],false],.agg #[xu 0,xu 0,xu 0,xu 0,false],.bool false,.bool false,undef,psV S,.pointer (some ⟨M,0,none⟩),.pointer (some ⟨M,0,none⟩),.pointer (some ⟨M,1025,none⟩),psV en,psV (sAnd S en),.agg #[xu 0,xu 0,xu 0,xu 0],.bool (acc en S),.agg #[xu 0,xu 0,xu 0,xu 0,(acc en S)],psV S,.func (.func 246) #[psV S] #[],.int .i64 (x:Int),undef,undef,undef,undef,undef,undef,undef,undef,undef,undef,undef,undef,undef,undef,undef,undef,undef,undef,undef,undef,undef,undef,undef,undef,undef,undef,undef,undef],defers:= []}) ?assign ?body ?done
 case hI=>exact xIf
 case hIt=>exact λk W hA=>hA.st.mtr.tab
 case hIs=>intro k k' W hA hk hno;exact⟨hA.st,by rw[yP5 hk hno];exact hA.made,hA.low,hA.size⟩
 case assign=>intro l x W K hK;gi_wp2;exact hK
 case body=>
  intro l k x W hA hkx hx hSx hbet;have hxa:=HS.out x hSx;have zx:(x:Int)<(a:Int):=qo
  have hcap:=hA.st.mtr.caps;have HA:Hid (RaI w O M T G cp a E en mp n D S b7 k W4 W/\S x=true/\(∀j,k<=j->j<x->S j=false)):=⟨hA,hSx,hbet⟩;have HU:Hid (∀wx:Ww,(xf 247 #[psV (ahdT E S k),psV (E x)] wx (psV (sOr (ahdT E S k) (E x))):Prop)):=λwx=>yDd _ _ wx;have HS7:Hid (∀X,RaI w O M T G cp a E en mp n D S b7 k W4 X->(xk X w 0 (.pointer (some ⟨M,0,none⟩))/\X.cell? (xd M 1024)=some (.slice (some ⟨G,0,none⟩) a cp)/\X.cell? (xd b7 0)=some (.int .u64 (wdN (ahdT E S k) 0:Int))/\X.cell? (xd b7 1)=some (.int .u64 (wdN (ahdT E S k) 1:Int))/\X.cell? (xd b7 2)=some (.int .u64 (wdN (ahdT E S k) 2:Int))/\X.cell? (xd b7 3)=some (.int .u64 (wdN (ahdT E S k) 3:Int))/\X.cell? (xd G (x*4))=some (.int .u64 (wdN (E x) 0:Int))/\X.cell? (xd G (x*4+1))=some (.int .u64 (wdN (E x) 1:Int))/\X.cell? (xd G (x*4+2))=some (.int .u64 (wdN (E x) 2:Int))/\X.cell? (xd G (x*4+3))=some (.int .u64 (wdN (E x) 3:Int)))):=λX h=>by have⟨g0,g1,g2,g3,_⟩:=h.st.mtr.edge4 hxa;exact⟨h.st.ptr.z (j:=0) rfl,h.st.mtr.fol,h.made.z (j:=0) rfl,h.made.z (j:=1) rfl,h.made.z (j:=2) rfl,h.made.z (j:=3) rfl,g0,g1,g2,g3⟩
  have HBl:Hid (∀X,Below W.heap.size W X->RaI w O M T G cp a E en mp n D S b7 k W4 X):=λX hb=>⟨HA.1.st.k hb,HA.1.made.k hb,HA.1.low.trans (hb.mono HA.1.low.size),Nat.le_trans HA.1.size hb.size⟩;clear hA hSx hbet;gi_wp2;refine yGr 11 (λwz=>wz.cell? (xd w.heap.size 0)=some (.pointer (some ⟨M,0,none⟩))/\wz.cell? (xd M 1024)=some (.slice (some ⟨G,0,none⟩) a cp)/\wz.cell? (xd b7 0)=some (.int .u64 (wdN (ahdT E S k) 0:Int))/\wz.cell? (xd b7 1)=some (.int .u64 (wdN (ahdT E S k) 1:Int))/\wz.cell? (xd b7 2)=some (.int .u64 (wdN (ahdT E S k) 2:Int))/\wz.cell? (xd b7 3)=some (.int .u64 (wdN (ahdT E S k) 3:Int))/\wz.cell? (xd G (x*4))=some (.int .u64 (wdN (E x) 0:Int))/\wz.cell? (xd G (x*4+1))=some (.int .u64 (wdN (E x) 1:Int))/\wz.cell? (xd G (x*4+2))=some (.int .u64 (wdN (E x) 2:Int))/\wz.cell? (xd G (x*4+3))=some (.int .u64 (wdN (E x) 3:Int))) qk qk ?hlet ?_;case hlet=>rintro⟨a0,w0,hq⟩;exact nomatch (show Exit.outgrown=Exit.normal from hq.1)
  exact xIh
 case done=>
  rintro Dd W hD hA hK;have m1:=hA.st.ptr.z (j:=0) rfl;have m2:=hA.st.mtr.map;obtain⟨kk,hkk,hlen,htt⟩:∃kk:Nat,kk<=n/\(∀ty,(Builtin.len_ #[336] ty #[.map (some mp)]).run prog W=.ok (.int .i64 (kk:Int)) W)/\StD W mp kk D E en:=⟨_,hA.st.map.1.size_le,λty=>hA.st.map.1.len underlying336 ty,hA.st.map.tight⟩;by_cases hq:kk<1000
  .have zk:¬(1000:Int)<=(kk:Int):=by omega
   have HRJ:RaJ w O M T G cp a E en mp n D S b7 256 W4 W:=⟨hA.st,hA.made,Chg.h hA.low,hA.size⟩;have hKj:=hK;have hAd:=htt.i (S:=λ_=>False) (Chg.h ((Below.refl _ _).drew)) (λq=>q);exact zSB
  .have zk:(1000:Int)<=(kk:Int):=by omega
   obtain⟨W,hclr,hst9,hc9⟩:=hA.st.map.clear;have HRJ:RaJ w O M T G cp a E en mp 0 (.map []) S b7 256 W4 W:=⟨hA.st.chgM hc9 hst9 HLp.out,hA.made.i hc9 (yEw hA.st.map hA.made),(Chg.h hA.low).trans hc9,Nat.le_trans hA.size hc9.size⟩;have hKj:=(hc9.block Dd (Array.getElem?_eq_some_iff.1 hK).1 (λq=>by have⟨⟨es,c,h1,_⟩,_⟩:=hA.st.map;rw[<-q,hK]at h1;cases h1)).trans hK;have hAd:=hst9.i (S:=λ_=>False) (Chg.h ((Below.refl _ _).drew)) (λq=>q);exact zSB):p:=h
theorem yWg S w (h:MtrI w O M T G cp a E en mp) (hm:StD w mp n D E en) (hh:AN D (psK S)=false) (hS:∀p,S p=true->p<a) (ha:a<=256) (hbm:O<=mp):Calls prog 232 #[xp M,psV S] w (StQ O M T G cp a E en mp S w):=by
 have⟨W0,aj⟩:=qE (xw ((w.alloc (.cells #[xp M] 284)).alloc (.cells (psL S).toArray 328)) z5 330:Ww);have ab:Hid (StB w W0 O M T G cp a E en mp n D S/\Below w w W0):=aj▸(ySr S w h hm)
 have HH:=qH1 hh;have HLo:Hid (O<=w.heap.size):=by show _<=_;have:=h.ltM;omega
 have HS:=qH1 hS;have HLp:=qH1 hbm;apply (Aj (n:=9)).1;refine AW func232 rfl trivial ?_ rfl;simp only[ntmps232,Ag,Ao,Aq,AH,Ac,AQ,AR,Ah,Ad,Ar,AK];gi_wp2;have ai:=aj;simp only[psL,z5]at ai;rw[<-ai];clear aj ai;have ak:∀X,StB w X O M T G cp a E en mp n D S->(xk X w 0 (xp M)/\xk X M 1029 (.map (some mp))/\xk X (w+1) 0 (xu (wdN S 0))/\xk X (w+1) 1 (xu (wdN S 1))/\xk X (w+1) 2 (xu (wdN S 2))/\xk X (w+1) 3 (xu (wdN S 3))/\StD X mp n D E en):=λX h=>⟨h.ptr.z (j:=0) rfl,h.mtr.map,h.set.z (j:=0) rfl,h.set.z (j:=1) rfl,h.set.z (j:=2) rfl,h.set.z (j:=3) rfl,h.map⟩;have ad:=qH1 ak;have HD:=qH1 (ab.1.k ((Below.refl _ _).drew));apply A0.2;refine Aa ?_;refine yAf 99 (λwz=>xk wz w 0 (xp M)/\xk wz M 1029 (.map (some mp))/\xk wz (w+1) 0 (xu (wdN S 0))/\xk wz (w+1) 1 (xu (wdN S 1))/\xk wz (w+1) 2 (xu (wdN S 2))/\xk wz (w+1) 3 (xu (wdN S 3))/\StD wz mp n D E en) qk ?_;refine ja 0 (ad.out _ HD.out) ?_;iterate 8 refine jb (ad.out _ HD.out) ?_
 refine qO 9 rfl λK hK=>?_;go_simp;refine hK.out _ _ (.inr (ad.out _ (ab.1.k (by repeat (first|exact Below.refl _ _|refine Below.drew ?_|refine Below.alloc ?_ qr _|refine yAc ?_ qr _ _))))) ?_;clear hK;refine jS ?_;refine qO 10 rfl λK hK=>?_;go_simp;refine hK.out _ _ (.inr (ad.out _ (ab.1.k (by repeat (first|exact Below.refl _ _|refine Below.drew ?_|refine Below.alloc ?_ qr _|refine yAc ?_ qr _ _))))) ?_;clear hK;refine jS ?_;refine qO 11 rfl λK hK=>?_;go_simp;refine hK.out _ _ (.inr (ad.out _ (ab.1.k (by repeat (first|exact Below.refl _ _|refine Below.drew ?_|refine Below.alloc ?_ qr _|refine yAc ?_ qr _ _))))) ?_;clear hK;refine jS ?_;refine qD ?_;dsimp only[Aw];obtain⟨W1,ah⟩:=qE ((W0.alloc (.cells z5 330)).drew:Ww);have k1:Below W0 W0 W1:=by rw[ah];exact(qB).drew
 have s0:=ab.2.size;have a9:=qH2 (ab.1.k k1) (ab.2.trans (k1.mono s0));have ag:=ah;simp only[z5]at ag;rw[<-ag];clear ah ag k1 HD ad;have an:=yS6 (sAnd S en);have am:Hid (∀wx:Ww,(xf 234 #[psV S,psV en] wx (psV (sAnd S en)):Prop)):=λwx=>yJ7 S en wx;have a7:Hid (∀X,StB w X O M T G cp a E en mp n D S->(xk X w 0 (.pointer (some ⟨M,0,none⟩))/\xk X (w+1) 0 (xu (wdN S 0))/\xk X (w+1) 1 (xu (wdN S 1))/\X.cell? (xd (w.heap.size+1) 2)=some (.int .u64 (wdN S 2:Int))/\X.cell? (xd (w.heap.size+1) 3)=some (.int .u64 (wdN S 3:Int))/\X.cell? (xd M 1025)=some (.int .u64 (wdN en 0:Int))/\X.cell? (xd M 1026)=some (.int .u64 (wdN en 1:Int))/\X.cell? (xd M 1027)=some (.int .u64 (wdN en 2:Int))/\X.cell? (xd M 1028)=some (.int .u64 (wdN en 3:Int)))):=λX h=>⟨h.ptr.z (j:=0) rfl,h.set.z (j:=0) rfl,h.set.z (j:=1) rfl,h.set.z (j:=2) rfl,h.set.z (j:=3) rfl,h.mtr.ends (j:=0) qo,h.mtr.ends (j:=1) qo,h.mtr.ends (j:=2) qo,h.mtr.ends (j:=3) qo⟩;have HD:=qH1 (a9.1.k ((Below.refl _ _).drew));gi_wp2;refine A0.2 ?_;refine Aa ?_;refine yAf 99 (λwz=>wz.cell? (xd w.heap.size 0)=some (.pointer (some ⟨M,0,none⟩))/\wz.cell? (xd (w.heap.size+1) 0)=some (.int .u64 (wdN S 0:Int))/\wz.cell? (xd (w.heap.size+1) 1)=some (.int .u64 (wdN S 1:Int))/\wz.cell? (xd (w.heap.size+1) 2)=some (.int .u64 (wdN S 2:Int))/\wz.cell? (xd (w.heap.size+1) 3)=some (.int .u64 (wdN S 3:Int))/\wz.cell? (xd M 1025)=some (.int .u64 (wdN en 0:Int))/\wz.cell? (xd M 1026)=some (.int .u64 (wdN en 1:Int))/\wz.cell? (xd M 1027)=some (.int .u64 (wdN en 2:Int))/\wz.cell? (xd M 1028)=some (.int .u64 (wdN en 3:Int))) qk ?_;refine ja 0 (a7.out _ HD.out) ?_;iterate 4 refine jb (a7.out _ HD.out) ?_
 refine ja 6 (a7.out _ HD.out) ?_;refine yB0 (i:=5) (j:=9) qk rfl rfl (λK hK=>?_) (λK hK=>?_)
 .go_simp;refine(am.out _).mono ?_;rintro r v3 ⟨rfl,aa⟩;have HV:=qH1 (((Below.refl W1.heap.size W1).drew).trans aa);have a5:Hid (StB w v3 O M T G cp a E en mp n D S):=a9.1.k HV.out;refine hK.out _ _ (.inr (a7.out _ a5.out)) ?_;clear hK aa;refine jS ?_;refine yF2 (i:=7) (v:=.bool (acc en S)) rfl qk qk qk (by rfl) (λ_ _ _ h=>h) (Or.inl ⟨by rfl,?yqa7⟩) (a7.out _ a5.out) ?_;case yqa7=>exact zzR5
  try simp only[qA,A7,As,Au]
  refine jb (a7.out _ a5.out) ?_;refine qO 9 rfl λK hK=>?_;go_simp;refine hK.out _ _ (.inr (a7.out _ (a5.k (by repeat (first|exact Below.refl _ _|refine Below.drew ?_|refine Below.alloc ?_ (AE _) _|refine yAc ?_ (AE _) _ _))))) ?_;clear hK;refine jS ?_;refine qO 10 rfl λK hK=>?_;go_simp;refine hK.out _ _ (.inr (a7.out _ (a5.k (by repeat (first|exact Below.refl _ _|refine Below.drew ?_|refine Below.alloc ?_ (AE _) _|refine yAc ?_ (AE _) _ _))))) ?_;clear hK;refine jS ?_;refine qD ?_;dsimp only[Aw];obtain⟨b7,hb7⟩:=qE v3.heap.size;obtain⟨W4,a8⟩:=qE (v3.alloc (.cells #[.int .u64 0,.int .u64 0,.int .u64 0,.int .u64 0,.bool (acc en S)] 330):Ww);have k4:Below v3 v3 W4:=by rw[a8];exact qB
  have s3:=HV.size;have s1:=a9.2.size;have HR4:Hid (RaI w O M T G cp a E en mp n D S b7 0 W4 W4/\b7<W4.heap.size):=by
   have e0:(stL (ahdT E S 0) (acc en S))= [.int .u64 0,.int .u64 0,.int .u64 0,.int .u64 0,.bool (acc en S)]:=by show stL sNo _=_;simp only[stL,yF8];rfl
   have b4:=yAa v3 (O:=w.heap.size) (t:=330) (sz:=5) #[.int .u64 0,.int .u64 0,.int .u64 0,.int .u64 0,.bool (acc en S)] qo rfl;refine⟨⟨a5.k k4,by rw[e0,hb7,a8];exact b4,(a9.2.trans (HV.mono s1)).trans (k4.mono qo),AE _⟩,by rw[hb7,a8];simp⟩
  have HGt:Hid (w.heap.size+1+1<b7):=by show _<_;rw[hb7];exact a5.ans.lt.2
  rw[<-a8,<-hb7];clear a8 hb7 k4;exact zSA
 .go_simp;refine hK.out _ _ (.inr (a7.out _ (a9.1.k (by repeat (first|exact Below.refl _ _|refine Below.drew ?_|refine Below.alloc ?_ (AE _) _))))) ?_;clear hK;refine jS ?_;have hX:Below W1.heap.size W1 (W1.alloc (.cells z5 330)).drew:=(qB).drew;have al:yA (W1.alloc (.cells z5 330)).drew w.heap.size 330 5 W1.heap.size z5.toList:=by exact(yAa W1 z5 a9.2.size rfl).k ((Below.refl _ _).drew)
  have HGt:Hid (w.heap.size+1+1<W1.heap.size):=by show _<_;exact a9.1.ans.lt.2
  refine qO 5 rfl λK hK=>?_;go_simp;refine(am.out _).mono ?_;rintro r v3 ⟨rfl,aa⟩;have HV:=qH2 (hX.trans (aa.mono hX.size)) (a9.2.trans ((hX.trans (aa.mono hX.size)).mono a9.2.size));have a5:Hid (StB w v3 O M T G cp a E en mp n D S):=a9.1.k HV.1;have a6:Hid (yA v3 w.heap.size 330 5 W1.heap.size z5.toList):=al.k aa;have ac:Hid (¬M=W1.heap.size/\¬G=W1.heap.size/\¬mp=W1.heap.size):=⟨λq=>yAb a5.mtr.A a6.out qj M rfl (by rw[q];rfl),λq=>yAb a5.mtr.j a6.out qj G rfl (by rw[q];rfl),a5.map.ne a6.out⟩;have y0:=a6.z (j:=0) rfl;have o0:=a6.frozen 0;have y1:=a6.z (j:=1) rfl;have o1:=a6.frozen 1;have y2:=a6.z (j:=2) rfl;have o2:=a6.frozen 2;have y3:=a6.z (j:=3) rfl;have o3:=a6.frozen 3;have y4:=a6.z (j:=4) rfl;have o4:=a6.frozen 4;refine hK.out _ _ (.inr (a7.out _ a5.out)) ?_;clear hK aa hX al;refine jS ?_;refine yF2 (i:=7) (v:=.bool (acc en S)) rfl qk qk qk (by rfl) (λ_ _ _ h=>h) (Or.inl ⟨by rfl,?yqb7⟩) (a7.out _ a5.out) ?_;case yqb7=>exact zzR5
  try simp only[qA,A7,As,Au]
  refine jb (a7.out _ a5.out) ?_;refine qO 10 rfl λK hK=>?_;go_simp;refine hK.out _ _ (.inr (a7.out _ (a5.i (Z:=λk=>k=W1.heap.size) (((((Chg.D (S:=λk=>k=W1.heap.size) _ W1.heap.size 0 _ rfl).trans (Chg.D (S:=λk=>k=W1.heap.size) _ W1.heap.size 1 _ rfl)).trans (Chg.D (S:=λk=>k=W1.heap.size) _ W1.heap.size 2 _ rfl)).trans (Chg.D (S:=λk=>k=W1.heap.size) _ W1.heap.size 3 _ rfl)).trans (Chg.D (S:=λk=>k=W1.heap.size) _ W1.heap.size 4 _ rfl)) (by have:=ac.out;omega) (by have:=ac.out;omega) (by have:=ac.out;omega) (λk q=>by have:=HGt.out;have:=HLo.out;omega)))) ?_;clear hK;refine jS ?_;refine qD ?_;dsimp only[Aw];have⟨b7,hb7⟩:=qE W1.heap.size;rw[<-hb7]at a6 ac HGt|-;have⟨W4,a8⟩:=qE (set5 v3 b7 sNo (acc en S):Ww);have af:Chg (λk=>k=b7) v3 W4:=a8▸(yI3 _ _ _ _ rfl)
  have HR4:Hid (RaI w O M T G cp a E en mp n D S b7 0 W4 W4/\b7<W4):=by have b4:=a6.set5 sNo (acc en S);rw[<-a8]at b4;refine⟨⟨a5.i af (by have:=ac.out;omega) (by have:=ac.out;omega) (by have:=ac.out;omega) (λk q=>by have:=HGt.out;have:=HLo.out;omega),b4,Chg.k HV.2 af HV.2.size (λk q=>by have:=HGt.out;omega),AE _⟩,b4.lt.2⟩
  have ae:=a8;simp only[set5,yF8]at ae;simp only[Int.ofNat_zero,Int.natCast_zero]at ae;rw[<-ae];clear a8 ae af hb7 y0 y1 y2 y3 y4 o0 o1 o2 o3 o4;exact zSA
end
def StU(w:Ww)(mp:Nat)(E:Nat->PS)(en:PS):Prop:=∃n,StI w mp n E en
theorem StU.i(h:StU w mp E en)(hc:Chg S w w')(hn:¬S mp):StU w' mp E en:=by have⟨n,h⟩:=h;exact⟨n,h.i hc hn⟩
def StW(O M:Nat)(T:Nat->PS)(G cp a:Nat)(E:Nat->PS)(en:PS)(mp:Nat)(S:PS)(w:Ww)(e:Ak)(w':Ww):Prop:=
 e=.returned (stV (ahd E S) (acc en S))/\Hid (MtrI w' O M T G cp a E en mp/\StU w' mp E en/\Chg (λk=>k=mp) w w')
theorem yN9 S w (h:MtrI w O M T G cp a E en mp) (hm:StU w mp E en) (hS:∀p,S p=true->p<a) (ha:a<=256) (hbm:O<=mp):Calls prog 232 #[xp M,psV S] w (StW O M T G cp a E en mp S w):=by
 have⟨n,D,hD⟩:=hm;cases hh:AN D (psK S)with
 |true=>
  apply (yQk S w h hD hh).mono;rintro e w' ⟨rfl,H⟩;exact⟨rfl,H.1,⟨_,H.2.1⟩,H.2.2⟩
 |false=>
  apply (yWg S w h hD hh hS ha hbm).mono;rintro e w' ⟨rfl,H⟩;exact⟨rfl,H.1,⟨_,H.2.1⟩,H.2.2⟩
structure MaU(w:Ww)(O M:Nat)(T:Nat->PS)(G cp a:Nat)(E:Nat->PS)(en:PS)(mp b5:Nat)(S:PS)(X:Ww):Prop where
 mtr:MtrI X O M T G cp a E en mp
 map:StU X mp E en
 A:yA X w 330 5 b5 (stL (ahd E S) (acc en S))
 i:Chg (λk=>k=mp) w X
theorem MaU.k{S:PS}(h:MaU w O M T G cp a E en mp b5 S X)(hb:Below X X X'):MaU w O M T G cp a E en mp b5 S X':=
 ⟨h.mtr.k hb,h.map.i (S:=λ_=>False) (Chg.h hb) (λq=>q),h.A.k hb,h.i.trans (Chg.h hb)⟩
theorem MaU.ne{S:PS}(h:MaU w O M T G cp a E en mp b5 S X):¬M=b5/\¬G=b5/\¬mp=b5/\¬M=mp/\¬G=mp:=by have⟨n,D,hD⟩:=h.map;exact⟨λq=>yAb h.mtr.A h.A qj M rfl (by rw[q];rfl),λq=>yAb h.mtr.j h.A qj G rfl (by rw[q];rfl),StD.ne hD h.A,λq=>StD.ne hD h.mtr.A q.symm,λq=>StD.ne hD h.mtr.j q.symm⟩
def MaP3(O M:Nat)(T:Nat->PS)(G cp a:Nat)(E:Nat->PS)(en:PS)(mp:Nat)(s:Ba)(w:Ww)(e:Ak)(w':Ww):Prop:=∃b:Bool,e=.returned b/\Hid ((b=true↔acc en (runS E T (sOne 0) (sb s))=true)/\MtrI w' O M T G cp a E en mp/\StU w' mp E en/\Chg (λk=>k=mp) w w')
theorem yQ5(s:Ba)(hs:s.size<=200) w (h:MtrI w O M T G cp a E en mp) (hm:StU w mp E en) (hT:∀b p,T b p=true->p<a) (ha0:0<a) (ha:a<=256) (hbm:O<=mp):Calls prog 218 #[xp M,s] w (MaP3 O M T G cp a E en mp s w):=by
 have HI:=qH3 h hm (by have:=h.ltM;omega:O<=w.heap.size);have HT:=qH1 hT;have ai:Hid (∀wx:Ww,(xf 233 #[.agg #[xu 0,xu 0,.int .u64 0,.int .u64 0],.int .i64 0] wx (psV (sOne 0)):Prop)):=λwx=>by have:=yF sNo 0 qo wx;rw[show sOr sNo (sOne 0)=sOne 0 by funext p;simp[sOr,sNo],yWx]at this;exact this
 have zs:¬(200:Int)<(s.size:Int):=qo
 have ah:∀p,sOne 0 p=true->p<a:=λp hp=>by
  have h0:p=0:=by simpa [sOne]using hp
  omega
 go_enter func218,ntmps218;go_wp2_with fail;apply (ai.out _).mono;rintro e w1 ⟨rfl,a5⟩;have HSt:=qH1 (yN9 (sOne 0) w1 (HI.1.k a5) (HI.2.1.i (S:=λ_=>False) (Chg.h a5) (λq=>q)) ah ha hbm);go_wp2_with fail;refine HSt.mono ?_;rintro e w2 ⟨rfl,H2⟩;obtain⟨W3,a6⟩:=qW (w2.alloc (.cells (stL (ahd E (sOne 0)) (acc en (sOne 0))).toArray 330));have k3:Below w2 w2 W3:=by rw[a6];exact qB
 have ab:=AC a5.size H2.2.2.size;have aa:=(Chg.h a5).trans H2.2.2;obtain⟨b5,a7⟩:=qE w2.heap.size;have HW3:Hid (MaU w O M T G cp a E en mp b5 (sOne 0) W3/\w.heap.size<=b5):=by have b3:=yAa w2 (O:=w.heap.size) (t:=330) (sz:=5) (stL (ahd E (sOne 0)) (acc en (sOne 0))).toArray ab rfl;exact⟨⟨H2.1.k k3,H2.2.1.i (S:=λ_=>False) (Chg.h k3) (λq=>q),by rw[a6,a7];exact b3,aa.trans (Chg.h k3)⟩,qo⟩
 go_upto_region 4 with fail;have a8:=a6;simp only[stL]at a8;rw[<-a8,<-a7];clear a6 a8 k3 ab aa a7 H2 HSt a5;go_wp2;go_loopw[6] (λiv wr=>∃k:Nat,k<=s.size/\iv=(xi k)/\Hid (MaU w O M T G cp a E en mp b5 (runS E T (sOne 0) ((sb s).take k)) wr)) (λiv _=>s.size-(intOf iv).toNat);case atStart=>exact⟨0,BD _,rfl,HW3.1⟩
 case round=>
  obtain⟨k,hk,rfl,HJ⟩:=hrel;by_cases hlt:k<s.size
  .have zk:(k:Int)<(s.size:Int):=qo
   obtain⟨x,hx⟩:∃x,(sb s)[k]?=some x:=qg (by rw[yAe];exact hlt);obtain⟨_,gx⟩:=yAw hx;obtain⟨Sk,a9⟩:=qE (runS E T (sOne 0) ((sb s).take k));have ag:=x.toNat_lt;rw[<-a9]at HJ;have HN:Hid (runS E T (sOne 0) ((sb s).take (k+1))=stp E T Sk x/\True/\runS E T (sOne 0) (sb s)=runS E T (stp E T Sk x) ((sb s).drop (k+1))):=by
    have h1:(sb s).take (k+1)=(sb s).take k++ [x]:=by rw[Ai,hx];rfl
    have h2:runS E T (sOne 0) ((sb s).take (k+1))=stp E T Sk x:=by rw[h1,yOg,<-a9]
    refine⟨h2,trivial,?_⟩;rw[<-h2,<-ySz,Ab]
   have a2:Hid (∀X,MaU w O M T G cp a E en mp b5 Sk X->(xk X b5 0 (xu (wdN (ahd E Sk) 0))/\xk X b5 1 (xu (wdN (ahd E Sk) 1))/\xk X b5 2 (xu (wdN (ahd E Sk) 2))/\xk X b5 3 (xu (wdN (ahd E Sk) 3))/\xk X M (x.toNat*4) (xu (wdN (T x.toNat) 0))/\xk X M (x.toNat*4+1) (xu (wdN (T x.toNat) 1))/\xk X M (x.toNat*4+2) (xu (wdN (T x.toNat) 2))/\xk X M (x.toNat*4+3) (xu (wdN (T x.toNat) 3)))):=λX h=>by obtain⟨g0,g1,g2,g3,_⟩:=h.mtr.taken4 ag;exact⟨h.A.z (j:=0) rfl,h.A.z (j:=1) rfl,h.A.z (j:=2) rfl,h.A.z (j:=3) rfl,g0,g1,g2,g3⟩
   have af:Hid (∀wx:Ww,(xf 234 #[psV (ahd E Sk),psV (T x.toNat)] wx (psV (stp E T Sk x)):Prop)):=λwx=>by have:=yJ7 (ahd E Sk) (T x.toNat) wx;unfold stp;exact this
   have zx:(x.toNat:Int)<256:=qo
   have HX:=qH1 hx;clear hx a9;go_upto_region 7 with fail;refine yAf 99 (λwz=>xk wz b5 0 (xu (wdN (ahd E Sk) 0))/\xk wz b5 1 (xu (wdN (ahd E Sk) 1))/\xk wz b5 2 (xu (wdN (ahd E Sk) 2))/\xk wz b5 3 (xu (wdN (ahd E Sk) 3))/\xk wz M (x.toNat*4) (xu (wdN (T x.toNat) 0))/\xk wz M (x.toNat*4+1) (xu (wdN (T x.toNat) 1))/\xk wz M (x.toNat*4+2) (xu (wdN (T x.toNat) 2))/\xk wz M (x.toNat*4+3) (xu (wdN (T x.toNat) 3))) qk ?_;refine ja 0 (a2.out _ (HJ.k ((Below.refl _ _).drew))) ?_;iterate 9 refine jb (a2.out _ (HJ.k ((Below.refl _ _).drew))) ?_
   refine yB0 (i:=10) (j:=11) qk rfl rfl (λK hK=>?_) (λK hK=>?_)
   .go_simp;refine(af.out _).mono ?_;rintro r v3 ⟨rfl,a4⟩;have HV:=qH1 (HJ.k (((Below.refl wr wr).drew).trans a4));refine hK.out _ _ (.inr (a2.out _ HV.out)) (jS ?_);clear hK a4;refine qO 11 rfl λK hK=>?_;go_simp;refine hK.out _ _ (.inr (a2.out _ (HV.k (by repeat (first|exact Below.refl _ _|refine Below.drew ?_|refine Below.alloc ?_ qr _|refine yAc ?_ qr _ _))))) ?_;clear hK;refine jS ?_;refine qO 12 rfl λK hK=>?_;go_simp;refine hK.out _ _ (.inr (a2.out _ (HV.k (by repeat (first|exact Below.refl _ _|refine Below.drew ?_|refine Below.alloc ?_ qr _|refine yAc ?_ qr _ _))))) ?_;clear hK;refine jS ?_;refine qD ?_;obtain⟨W4,a1⟩:=qW (xw v3 (psL (stp E T Sk x)).toArray 328);have k4:=qN a1
    have HW4:Hid (MaU w O M T G cp a E en mp b5 Sk W4/\yA W4 w 328 4 v3 (psL (stp E T Sk x))):=by have b4:=yAa v3 (O:=w.heap.size) (t:=328) (sz:=4) (psL (stp E T Sk x)).toArray HV.i.size rfl;exact⟨HV.k k4,by rw[a1];exact b4⟩
    have a3:=a1;simp only[psL]at a3;rw[<-a3];clear a1 a3 k4;exact xGq
   .go_simp;refine hK.out _ _ (.inr (a2.out _ (HJ.k (by repeat (first|exact Below.refl _ _|refine Below.drew ?_|refine Below.alloc ?_ qr _|refine yAc ?_ qr _ _))))) ?_;clear hK;refine jS ?_;have hX:Below wr wr (wr.alloc (.cells z4 328)).drew:=(qB).drew;have ad:yA (wr.alloc (.cells z4 328)).drew w 328 4 wr z4.toList:=(yAa wr z4 HJ.i.size rfl).k ((Below.refl _ _).drew);refine qO 10 rfl λK hK=>?_;go_simp;refine(af.out _).mono ?_;rintro r v3 ⟨rfl,a4⟩;have HV:=qH1 (HJ.k (hX.trans (a4.mono hX.size)));have a0:=qH1 (ad.k a4);have y0:=a0.z (j:=0) rfl;have o0:=a0.frozen 0;have y1:=a0.z (j:=1) rfl;have o1:=a0.frozen 1;have y2:=a0.z (j:=2) rfl;have o2:=a0.frozen 2;have y3:=a0.z (j:=3) rfl;have o3:=a0.frozen 3;have ac:∀cs:Ww,Chg (λj=>j=wr.heap.size) v3 cs->MaU w O M T G cp a E en mp b5 Sk cs:=λcs hc=>by
     have h:=HV.out;have hbs:=HI.2.2;have ak:=HJ.i.size;obtain⟨_,D,hD⟩:=h.map;have n1:¬M=wr.heap.size:=qw HJ.mtr.ltM.2
     have n2:¬G=wr.heap.size:=qw HJ.mtr.ltG.2
     have n3:=StD.ne hD a0.out;have n4:¬b5=wr.heap.size:=qw HJ.A.lt.2
     exact⟨h.mtr.i hc n1 n2 (λj q=>qo),h.map.i hc n3,h.A.i hc n4,yI4 h.i (hc.mono (λj q=>qo))⟩
    have ae:=qH1 ac;refine hK.out _ _ (.inr (a2.out _ HV.out)) (jS ?_);clear hK a4 hX ad ac;refine kO 12 (a2.out _ (ae.out _ ((((Chg.D (S:=λj=>j=wr.heap.size) _ wr 0 _ rfl).trans (Chg.D (S:=λj=>j=wr.heap.size) _ wr 1 _ rfl)).trans (Chg.D (S:=λj=>j=wr.heap.size) _ wr 2 _ rfl)).trans (Chg.D (S:=λj=>j=wr.heap.size) _ wr 3 _ rfl)))) ?_;refine qD ?_;obtain⟨W4,a1⟩:=qW (set4 v3 wr 0 (stp E T Sk x));have HW4:Hid (MaU w O M T G cp a E en mp b5 Sk W4/\yA W4 w 328 4 wr (psL (stp E T Sk x))):=by
     have hc:Chg (λj=>j=wr.heap.size) v3 W4:=by rw[a1];exact yBk _ _ _ _ rfl
     have b4:=yFv a0.out 0 (stp E T Sk x);rw[<-a1]at b4;exact⟨ae.out _ hc,b4⟩
    have a3:=a1;simp only[set4,AO]at a3;rw[<-a3];clear a1 a3 y0 y1 y2 y3 o0 o1 o2 o3;exact xGq
  .obtain rfl:k=s.size:=qo
   have zk:¬(s.size:Int)<(s.size:Int):=qo
   have r4:=HJ.A.z (j:=4) rfl;have aj:Hid ((sb s).take s.size=sb s):=by show _=_;rw[<-yAe,Ap]
   go_wp2;go_ret;exact⟨_,rfl,by rw[aj.out],HJ.mtr,HJ.map,HJ.i⟩
theorem OwnC.put{cap:Nat}(h:OwnC w O g cap es)(k:Nat)(f e:Ent)(hk:es[k]?=some f):
  OwnC (xt ((((w.setCell (xd g (k*5)) e.j).setCell (xd g (k*5+1)) e.E).setCell (xd g (k*5+2)) e.C).setCell (xd g (k*5+3)) (xu e.ts)) g (k*5+4) e.val) O g cap (es.set k e):=by have h1:=OwnG.setAll (f:=Ent.five) (λ_=>rfl) h (e:=e) (qf hk);simp only[setCs,Nat.add_zero,Nat.add_assoc,AH]at h1;exact h1
end Go.Proofs.YtnnagkfoiganfaaGreatDoor
