import Derived.Test.YtnnagkfoiganfaaGreatDoorHkAA
namespace Go.Proofs.YtnnagkfoiganfaaGreatDoor
open XD XI XU XG XP XK XW XT XF XE XH _root_.List _root_.Nat Go.ChangeShapes Go.WideShapes Go.ChangeAt Go.RowKit Go.Deep Go.Shelf XY Go.Maps Go.Proofs.Tryz
open _root_.Array renaming getElem?_eq_some_iff->AG,getD_eq_getD_getElem?->AK
open _root_.Go renaming bodyPost_ret->AB,bits_and_u64_nat->AX,wpQuiet_nil->Ad,bits_or_u64_nat->An,Ending->Ar
open _root_.Go.ByteArray renaming toList_eq->AE
open _root_.Go.IntKind renaming wrap_u64->AO,u64->Ae
open _root_.Go.Lib renaming compareBytes->AA,ctz->AH,ctzFrom->Ao
open _root_.Go.Obj renaming cells->AI
open _root_.Go.Op renaming bytesLess->AC
open _root_.Go.World renaming ownsRow_lit->AM,putObj_heap_other->AQ,cell?_setCell_same->AY,putObj_heap_same->AZ,alloc_heap_new->Aa,ownsRow_made->Ab
open _root_.Go.World.ownsRow renaming cellAt->AP,lt->AR,frozenAt->AT,kept->AW,stored->Ak
open _root_.List renaming getElem?_eq_none->AJ,mem_of_getElem?->AS,length_map->AU,pairwise_cons->Ac,take_of_length_le->Ag,mem_map->Ah,range->Ap,take_add_one->Ax,getElem?_map->Ay
open _root_.Nat renaming lt_of_lt_of_le->AD,zero_le->AL,testBit_or->Af,zero_add->Ai,le_trans->Aj,testBit_two_pow->Al,and_lt_two_pow->Aq,or_lt_two_pow->Au,zero_testBit->Av,testBit_succ->Aw
open _root_.Option.some renaming inj->AN,injEq->As
open _root_.UInt8 renaming lt_iff_toNat_lt->AF,toNat_inj->AV
set_option linter.unusedVariables false
set_option linter.unusedSimpArgs false
set_option maxRecDepth 100000
set_option maxHeartbeats 64000000
variable {f:Nat->Bool} {g base' rb g7 cp7 g5 cp5 ov:Nat} {S:Nat->Prop} {Q:Exit->Act->Ww->Prop} {o:Oper} {rest:List Oper} {ops:Array Oper} {assign body:Code} {ρ' γ':Nat->Nat} {wr wA w7:Ww} {R:List Ent} {ps:List MemPlace} {v:Vv} {x:Ent}
def ofB(f:Nat->Bool):Nat->Nat
 |0=>0
 |n+1=>ofB f n |||(if f n=true then 2^n else 0)
theorem yCt(f:Nat->Bool):∀(n j:Nat),(ofB f n).testBit j=(decide (j<n) && f j)
 |0,j=>by simp[ofB]
 |n+1,j=>by
  unfold ofB
  rw[Af,yCt f n j]
  by_cases hf:f n=true
  .rw[iB hf,Al]
   by_cases h:j=n
   .subst h;simp[hf]
   .have h1:decide (n=j)=false:=by simp;omega
    have h2:decide (j<n+1)=decide (j<n):=by rw[decide_eq_decide];omega
    rw[h1,h2];simp
  .rw[iA hf,Av]
   by_cases h:j=n
   .subst h;simp[hf]
   .have h2:decide (j<n+1)=decide (j<n):=by rw[decide_eq_decide];omega
    rw[h2];simp
theorem yXc(f:Nat->Bool)(n:Nat):ofB f n<2^n:=by
 refine lt_pow_two_of_testBit _ (λi hi=>?_);rw[yCt];have:decide (i<n)=false:=by simp;omega
 rw[this];rfl
variable {n:Nat}
theorem yLw{x:Nat}(hx:x<2^n)(h:∀j,j<n->x.testBit j=f j):x=ofB f n:=by
 refine eq_of_testBit_eq (λj=>?_);rw[yCt];by_cases hj:j<n
 .rw[h j hj];simp[hj]
 .rw[testBit_lt_two_pow (AD hx (Nat.pow_le_pow_right qj qo))];simp[hj]
theorem yG5{g:Nat->Bool}(h:∀j,j<n->f j=g j):ofB f n=ofB g n:=yLw (yXc f n) (λj hj=>by rw[yCt,h j hj];simp[hj])
def wdF(S:PS)(i b:Nat):Nat:=ofB (λj=>S (64*i+j) && decide (b<=j)) 64
def wdN(S:PS)(i:Nat):Nat:=ofB (λj=>S (64*i+j)) 64
theorem yZx S (i:Nat):wdF S i 0=wdN S i:=yG5 (λj _=>by simp)
theorem yF9 S (i:Nat):wdN S i<18446744073709551616:=yXc _ 64
theorem xB4 S (i b:Nat):wdF S i b<18446744073709551616:=yXc _ 64
def sAnd(F G:PS):PS:=λi=>F i && G i
theorem xIi S T (i:Nat):bits .or .u64 (wdN S i:Int) (wdN T i:Int)=((wdN (sOr S T) i:Nat):Int):=by rw[An _ _ (yF9 _ _) (yF9 _ _)];congr 1;refine yLw (Au (yF9 _ _) (yF9 _ _)) (λj hj=>?_);rw[Af];unfold wdN;rw[yCt,yCt];simp[hj,sOr]
theorem xG1 S T (i:Nat):bits .and .u64 (wdN S i:Int) (wdN T i:Int)=((wdN (sAnd S T) i:Nat):Int):=by rw[AX _ _ (yF9 _ _) (yF9 _ _)];congr 1;refine yLw (Aq _ (yF9 _ _)) (λj hj=>?_);rw[testBit_and];unfold wdN;rw[yCt,yCt];simp[hj,sAnd]
theorem yL8 S (a i:Nat) (hi:i=a/64):bits .or .u64 (wdN S i:Int) ((2^(a%64):Nat):Int)=((wdN (sOr S (sOne a)) i:Nat):Int):=by
 have hp:=Nat.pow_lt_pow_right (a:=2) qj (mod_lt a qj:a%64<64);rw[An _ _ (yF9 _ _) hp];congr 1;refine yLw (Au (yF9 _ _) hp) (λj hj=>?_);rw[Af,Al];unfold wdN;rw[yCt];have h:decide (a%64=j)=(64*i+j==a):=by rw[Bool.eq_iff_iff,decide_eq_true_eq,beq_iff_eq];omega
 simp only[hj,decide_true,Bool.true_and,sOr,sOne,h]
theorem yB S (a i:Nat) (hi:¬i=a/64):wdN (sOr S (sOne a)) i=wdN S i:=by
 refine yG5 (λj hj=>?_);have h:(64*i+j==a)=false:=by rw[iC];omega
 simp only[sOr,sOne,h,Bool.or_false]
theorem xEd(x:Nat)(h0:x≠0)(hx:x<18446744073709551616):AH 64 x<64/\x.testBit (AH 64 x)=true/\(∀j,j<AH 64 x->x.testBit j=false)/\∀j,(x &&& (x-1)).testBit j=(decide (AH 64 x<j) && x.testBit j):=by
 have⟨m,hm,hk⟩:=Lib.ctzFrom_spec 64 x (by omega) hx;have e:AH 64 x=Ao 64 x:=by simp[AH,h0]
 rw[e];generalize Ao 64 x=k at hm hk;have hb:∀j,x.testBit j=(decide (k<=j) && (2*m+1).testBit (j-k)):=λj=>by rw[hm,Nat.mul_comm,testBit_mul_two_pow]
 have hp:0<2^k:=Nat.pow_pos qj;have hd:(x-1)/2^k=2*m:=by
  have h1:x-1=2^k*(2*m)+(2^k-1):=by rw[hm,Nat.mul_add];omega
  rw[h1,mul_add_div hp,div_eq_of_lt (by omega),Nat.add_zero]
 have a0:∀j,k<=j->(x-1).testBit j=(2*m).testBit (j-k):=λj hj=>by rw[<-hd,testBit_div_two_pow];congr 1;omega
 refine⟨hk,by rw[hb];simp,λj hj=>by rw[hb];have:decide (k<=j)=false:=(by simp;omega);rw[this];rfl,λj=>?_⟩
 rw[testBit_and,hb j];by_cases h1:k<=j
 .rw[a0 j h1];by_cases h2:j=k
  .subst h2;simp
  .obtain⟨t,rfl⟩:∃t,j=k+(t+1):=⟨j-k-1,by omega⟩;have e3:k+(t+1)-k=t+1:=by omega
   have e4:decide (k<k+(t+1))=true:=by simp
   have d1:(2*m+1)/2=m:=by omega
   have d2:(2*m)/2=m:=by omega
   rw[e3,e4,Aw,Aw,d1,d2];simp
 .have h2:decide (k<=j)=false:=by simp;omega
  have h3:decide (k<j)=false:=by simp;omega
  rw[h2,h3];simp
theorem xC6{S:PS}{i b x:Nat}(hx:x=wdF S i b)(h0:x≠0):AH 64 x<64/\S (64*i+AH 64 x)=true/\b<=AH 64 x/\(∀j,b<=j->j<AH 64 x->S (64*i+j)=false)/\x &&& (x-1)=wdF S i (AH 64 x+1):=by
 have hl:x<18446744073709551616:=hx▸(xB4 _ _ _)
 have⟨h1,h2,h3,h4⟩:=xEd x h0 hl;generalize AH 64 x=k at h1 h2 h3 h4;have hb:∀j,j<64->x.testBit j=(S (64*i+j) && decide (b<=j)):=λj hj=>by rw[hx];unfold wdF;rw[yCt];simp[hj]
 rw[hb k h1,Bool.and_eq_true,decide_eq_true_eq]at h2;refine⟨h1,h2.1,h2.2,λj hbj hj=>?_,?_⟩
 .have:=h3 j hj;rw[hb j qo]at this;simpa [hbj]using this
 .refine yLw (Aq _ qo) (λj hj=>?_);rw[h4 j,hb j hj];by_cases q:k<j
  .have q1:decide (k+1<=j)=true:=by simp;omega
   have q2:decide (b<=j)=true:=by have:=h2.2;simp;omega
   rw[q1,q2];simp[q]
  .have q1:decide (k+1<=j)=false:=by simp;omega
   rw[q1];simp[q]
theorem yZy{S:PS}{i b:Nat}(h:wdF S i b=0)(j:Nat)(hb:b<=j)(hj:j<64):S (64*i+j)=false:=by
 have h1:(wdF S i b).testBit j=(S (64*i+j) && decide (b<=j)):=by unfold wdF;rw[yCt];simp[hj]
 rw[h,Av]at h1;simpa [hb]using h1.symm
theorem yQi(x:Nat)(h0:x≠0)(hx:x<18446744073709551616):bits .and .u64 (x:Int) (IntKind.u64.wrap ((x:Int)-1))=((x &&& (x-1):Nat):Int):=by
 have e1:IntKind.u64.wrap ((x:Int)-1)=((x-1:Nat):Int):=by rw[AO];omega
 rw[e1,AX x _ hx qo]
def psL(S:PS):List Vv:= [.int .u64 (wdN S 0:Int),.int .u64 (wdN S 1:Int),.int .u64 (wdN S 2:Int),.int .u64 (wdN S 3:Int)]
abbrev psV(S:PS):Vv:=.agg #[xu (wdN S 0),xu (wdN S 1),xu (wdN S 2),xu (wdN S 3)]
variable {T:PS}
theorem yDe{S:PS}(h:∀p,p<256->S p=T p){i:Nat}(hi:i<4):wdN S i=wdN T i:=yG5 (λj hj=>h _ qo)
theorem yF8(i:Nat):wdN sNo i=0:=by refine(yLw qj (λj _=>?_)).symm;simp[sNo]
theorem xC5{S:PS}{i:Nat}(h:wdN S i=wdN T i)(j:Nat)(hj:j<64):S (64*i+j)=T (64*i+j):=by
 have h1:(wdN S i).testBit j=S (64*i+j):=by unfold wdN;rw[yCt];simp[hj]
 have h2:(wdN T i).testBit j=T (64*i+j):=by unfold wdN;rw[yCt];simp[hj]
 rw[<-h1,<-h2,h]
theorem yN2{S:PS}(h:∀i,i<4->wdN S i=wdN T i)(p:Nat)(hp:p<256):S p=T p:=by have:=xC5 (h (p/64) (by omega)) (p%64) (by omega);rwa [show 64*(p/64)+p%64=p by omega]at this
abbrev slV(r n c:Nat):Vv:=(xg r n c)
def bsV(N:Nat)(f:Nat->Bool):List Vv:=(Ap N).map (λj=>(f j))
theorem yR8(N:Nat)(f:Nat->Bool):(bsV N f).length=N:=by simp[bsV]
variable {N j:Nat}
theorem yR9(h:j<N):(bsV N f)[j]?=some (.bool (f j)):=by simp[bsV,h]
def upd1(f:Nat->Bool)(j:Nat)(b:Bool):Nat->Bool:=λx=>if x=j then b else f x
def upd2(f:Nat->Nat->Bool)(i j:Nat)(b:Bool):Nat->Nat->Bool:=λx y=>if x=i/\y=j then b else f x y
theorem xEz{b:Bool}(h:j<N):(bsV N f).set j b=bsV N (upd1 f j b):=by
 apply ext_getElem?;intro i;rcases Nat.lt_or_ge i N with hi|hi
 .rw[yR9 hi];by_cases e:i=j
  .subst e;rw[getElem?_set_self (by rw[yR8];exact hi)];simp[upd1]
  .rw[getElem?_set_ne (λq=>e q.symm),yR9 hi];simp[upd1,e]
 .rw[AJ (by simp[yR8];exact hi),AJ (by simp[yR8];exact hi)]
def BRow(w:Ww)(O r c N:Nat)(f:Nat->Bool):Prop:=w.ownsRow O 4 1 (slV r N c) N (bsV N f)
def yOi(N k:Nat)(ρ γ:Nat->Nat):List Vv:=(Ap k).map (λi=>slV (ρ i) N (γ i))
def ORow(w:Ww)(O g cp N k:Nat)(ρ γ:Nat->Nat):Prop:=w.ownsRow O 118 1 (slV g k cp) k (yOi N k ρ γ)
variable {w:Ww} {O r:Nat}
theorem BRow.lt{c:Nat}(h:BRow w O r c N f):O<=r/\r<w.heap.size:=AR h r rfl
variable {cp:Nat} {ρ γ:Nat->Nat}
theorem ORow.lt{k:Nat}(h:ORow w O g cp N k ρ γ):O<=g/\g<w.heap.size:=AR h g rfl
variable {w':Ww}
theorem BRow.i{c:Nat}(h:BRow w O r c N f)(hc:Chg S w w')(hn:¬S r):BRow w' O r c N f:=yAg h hc (λk hk=>by simp[Value.ownBlock]at hk;subst hk;exact hn)
theorem ORow.i{k:Nat}(h:ORow w O g cp N k ρ γ)(hc:Chg S w w')(hn:¬S g):ORow w' O g cp N k ρ γ:=yAg h hc (λk hk=>by simp[Value.ownBlock]at hk;subst hk;exact hn)
theorem BRow.off{c N' k:Nat}(h:BRow w O r c N f)(h':ORow w base' g cp N' k ρ γ):r≠g:=λq=>yAb h h' qj r rfl (by rw[q];rfl)
theorem BRow.caps{c:Nat}(h:BRow w O r c N f):N<=c/\c<=maxLen:=by exact yL7
theorem ORow.caps{k:Nat}(h:ORow w O g cp N k ρ γ):k<=cp/\cp<=maxLen:=by exact yL7
structure MatO(w:Ww)(O g cp N k:Nat)(ρ γ:Nat->Nat)(f:Nat->Nat->Bool):Prop where
 out:ORow w O g cp N k ρ γ
 j:∀i,i<k->BRow w O (ρ i) (γ i) N (f i)
 inj:∀i j,i<k->j<k->i≠j->ρ i≠ρ j
theorem MatO.i{k:Nat}{f:Nat->Nat->Bool}(h:MatO w O g cp N k ρ γ f)(hc:Chg S w w')(h1:¬S g)(h2:∀i,i<k->¬S (ρ i)):MatO w' O g cp N k ρ γ f:=
 ⟨h.out.i hc h1,λi hi=>(h.j i hi).i hc (h2 i hi),h.inj⟩
theorem MatO.k{k:Nat}{f:Nat->Nat->Bool}(h:MatO w O g cp N k ρ γ f)(hb:Below w w w'):MatO w' O g cp N k ρ γ f:=h.i (S:=λ_=>False) (Chg.h hb) (λq=>q) (λ_ _ q=>q)
theorem MatO.z{k:Nat}{f:Nat->Nat->Bool}(h:MatO w O g cp N k ρ γ f){i:Nat}(hi:i<k):(xk w g i (slV (ρ i) N (γ i)):Prop):=by rw[AP h.out i qo];simp[yOi,hi]
theorem BRow.z{c:Nat}(h:BRow w O r c N f)(hj:j<N):w.cell? (xd r j)=some (.bool (f j)):=by rw[AP h j qo,yR9 hj]
theorem BRow.set{c:Nat}(h:BRow w O r c N f)(hj:j<N)(b:Bool):BRow (xt w r j b) O r c N (upd1 f j b):=by have:=(Ak h j b).1;rw[xEz hj]at this;exact this
theorem MatO.set{k:Nat}{f:Nat->Nat->Bool}(h:MatO w O g cp N k ρ γ f){i:Nat}(hi:i<k)(hj:j<N)(b:Bool):MatO (xt w (ρ i) j b) O g cp N k ρ γ (upd2 f i j b):=by
 have a0:Chg (λx=>x=ρ i) w (xt w (ρ i) j b):=Chg.D _ _ _ _ rfl;refine⟨h.out.i a0 (λq=>(h.j i hi).off h.out q.symm),λx hx=>?_,h.inj⟩;by_cases e:x=i
 .subst e;have h9:=(h.j x hx).set hj b;have e2:upd1 (f x) j b=upd2 f x j b x:=by funext y;simp[upd1,upd2]
  rw[e2]at h9;exact h9
 .have h9:=(h.j x hx).i a0 (h.inj x i hx hi e);have e2:f x=upd2 f i j b x:=by funext y;simp[upd2,e]
  rw[e2]at h9;exact h9
structure MatR(w:Ww)(g N:Nat)(ρ γ:Nat->Nat)(f:Nat->Nat->Bool):Prop where
 lt:g<w.heap.size
 out:∀i,i<N->(xk w g i (slV (ρ i) N (γ i)):Prop)
 rlt:∀i,i<N->ρ i<w.heap.size
 j:∀i j,i<N->j<N->(xk w (ρ i) j (f i j):Prop)
 cap:∀i,i<N->N<=γ i/\γ i<=maxLen
theorem MatO.read{f:Nat->Nat->Bool}(h:MatO w O g cp N N ρ γ f):MatR w g N ρ γ f:=
 ⟨h.out.lt.2,λi hi=>h.z hi,λi hi=>(h.j i hi).lt.2,λi j hi hj=>(h.j i hi).z hj,λi hi=>(h.j i hi).caps⟩
variable {B:Nat}
theorem MatR.k{f:Nat->Nat->Bool}(h:MatR w g N ρ γ f)(hb:Below B w w')(hB:w.heap.size<=B):MatR w' g N ρ γ f:=
 ⟨AD h.lt hb.size,λi hi=>by rw[hb.cell (p:=(xd g i)) (AD h.lt hB)];exact h.out i hi,λi hi=>AD (h.rlt i hi) hb.size,λi j hi hj=>by rw[hb.cell (p:=(xd (ρ i) j)) (AD (h.rlt i hi) hB)];exact h.j i j hi hj,h.cap⟩
def MaP(N:Nat)(f:Nat->Nat->Bool)(w:Ww)(r:Ar)(w':Ww):Prop:=∃g cp ρ γ,r=.returned (slV g N cp)/\Hid (MatO w' w g cp N N ρ γ f)/\Below w w w'
theorem Tryz.infoBo:(prog.info? 4).map (λi=>(i.zero,i.size,i.bytes))=some (some (.bool false),1,1):=qk
theorem Tryz.infoBoS:(prog.info? 118).map (λi=>(i.zero,i.size,i.bytes))=some (some (.slice none 0 0),1,24):=qk
variable {a:Act}
theorem yIp(w:Ww)(hgd:o.guard=none) s x
  (ho:o.op=.call {callee:=.builtin .append,args:=#[s,x],argTypes:=#[118,118]})
  (O r c k b cx:Nat) (f:Nat->Bool) (v:Bool) (hs:a.eval s=slV r k c) (hx:a.eval x=(xg b 1 cx)) (hO:BRow w O r c k f)
  (hc:(xk w b 0 v:Prop)) (hf:f k=v) (hlen:k<=2^20) (hbase:O<=w.heap.size)
  (h:∀r' c' w',BRow w' O r' c' (k+1) f->w.grownBy w' (some r)->(r'=r\/r'=w.heap.size)->wpList prog ops Q rest (a.put o.dst (slV r' (k+1) c')) w'):wpList prog ops Q (o::rest) a w:=by
 exact wpA hgd (apY ⟨underlying118,_,_,Tryz.infoBo,rfl,qj,qj⟩ ho O hs hx hO (vs:=[v]) rfl (atV1 hc rfl) (by omega) hbase λg' c' w' h1=>h g' c' w' (by have e:bsV k f++ [.bool v]=bsV (k+1) f:=(by simp[bsV,range_succ,hf]);rw[e]at h1;exact h1))
theorem yHk(w:Ww)(hgd:o.guard=none) s x
  (ho:o.op=.call {callee:=.builtin .append,args:=#[s,x],argTypes:=#[295,295]})
  (O g cp N k b cx r c:Nat) (ρ γ:Nat->Nat) (hs:a.eval s=slV g k cp) (hx:a.eval x=(xg b 1 cx)) (hO:ORow w O g cp N k ρ γ)
  (hc:(xk w b 0 (slV r N c):Prop)) (hr:ρ k=r) (hg:γ k=c) (hlen:k<=2^20) (hbase:O<=w.heap.size)
  (h:∀g' cp' w',ORow w' O g' cp' N (k+1) ρ γ->w.grownBy w' (some g)->(g'=g\/g'=w.heap.size)->wpList prog ops Q rest (a.put o.dst (slV g' (k+1) cp')) w'):wpList prog ops Q (o::rest) a w:=by
 exact wpA hgd (apY ⟨underlying295,_,_,Tryz.infoBoS,rfl,qj,qj⟩ ho O hs hx hO (vs:=[slV r N c]) rfl (atV1 hc rfl) (by omega) hbase λg' c' w' h1=>h g' c' w' (by have e:yOi N k ρ γ++ [slV r N c]=yOi N (k+1) ρ γ:=(by simp[yOi,range_succ,hr,hg]);rw[e]at h1;exact h1))
def TabD(w:Ww):Prop:=∀j,j<64->(xk w 1 j (.int .u8 (Lib.deBruijn64tab.getD j 0)):Prop)
theorem TabD.lt(h:TabD w):1<w.heap.size:=by have h0:=h 0 qo;apply Classical.byContradiction;intro hn;rw[World.cell?,Array.getElem?_eq_none (by simp only;omega)]at h0;simp at h0
theorem xD6(x a:Nat)(hx:x<18446744073709551616)(hx0:x≠0)(hlow:x &&& (18446744073709551616-x)=a):
  IntKind.u64.wrap (bits BinOp.and Ae (x:Int) (IntKind.u64.wrap (-(x:Int)))*285870213051353865)/288230376151711744=((a*285870213051353865%18446744073709551616/288230376151711744:Nat):Int):=by
 have e1:IntKind.u64.wrap (-(x:Int))=((18446744073709551616-x:Nat):Int):=by rw[AO];omega
 rw[e1,AX x _ hx qo,hlow,AO];omega
theorem xIj(x k idx:Nat)(w:Ww)(hx0:((x:Int)==0)=false)
  (key:IntKind.u64.wrap (bits BinOp.and Ae (x:Int) (IntKind.u64.wrap (-(x:Int)))*285870213051353865)/288230376151711744=(idx:Int))
  (hi:idx<64) (hk:k<64) (hcell:(xk w 1 idx (.int .u8 k):Prop)):
  Calls prog 258 #[xu x] w λe w'=>e=.returned (xi k)/\w'=w:=by
 go_enter func258,ntmps258;go_wp2_with (simp only[key]);go_ret;exact⟨rfl,rfl⟩
theorem xC9(x:Nat)(hx:x<18446744073709551616)(hx0:x≠0) w (hT:TabD w):Calls prog 258 #[xu x] w λe w'=>e=.returned (xi (AH 64 x))/\w'=w:=by have⟨a2,hk⟩:=Lib.lowest_bit 64 x hx0 hx;have⟨hi,a1⟩:=Lib.deBruijn64_at _ hk;have a0:=hT _ hi;rw[a1]at a0;exact xIj x _ _ w (by simp;omega) (xD6 x _ hx hx0 a2) hi hk a0
theorem xAj S {k:Nat} (hk:k<4) (w:Ww):(Instr.index 328 (psV S) (xi k)).run prog w=.ok (xu (wdN S k)) w:=by rcases(by omega:k=0\/k=1\/k=2\/k=3)with rfl|rfl|rfl|rfl<;>kernel_rfl
theorem yUz S (l m:Nat) (hm:1<=m) (J:Nat->Ww->Prop)
  (hY:∀k x W,J k W->k<=x->x<256->S x=true->(∀j,k<=j->j<x->S j=false)->YieldAt Fence.wide (m-1) prog l #[xi x] W λe W'=>e=.returned true/\J (x+1) W')
  (hJs:∀k k' W,J k W->k<=k'->(∀j,k<=j->j<k'->S j=false)->J k' W) (hJd:∀k W,J k W->J k W.drew) (hJa:∀k W (o:Obj),J k W->J k (W.alloc o)) (hJt:∀k W,J k W->TabD W) (W:Ww) (h0:J 0 W):
  CallsIn Fence.wide m prog 246 #[psV S,.func (.yield l) #[] #[]] W λe W'=>(∃v,e=.returned v)/\J 256 W':=by
 have aa:Hid (J 0 (xw W (psL S).toArray 328)):=hJa _ _ _ h0;refine callsIn_of_wp func246 rfl trivial ?_ rfl;simp only[ntmps246,size_toArray,length_cons,length_nil,Nat.reduceAdd,Nat.reduceSub,Array.replicate_succ,Array.replicate_zero,push_toArray,append_toArray,nil_append,cons_append];gi_wp2;gi_loopw [7] (λiv wr=>∃i:Nat,i<=4/\iv=(xi i)/\J (64*i) wr) (λiv _=>4-(intOf iv).toNat);case atStart=>exact⟨0,by omega,rfl,aa⟩
 case round=>
  obtain⟨i,hi,rfl,a2⟩:=hrel;by_cases hlt:i<4
  .have zi:(i:Int)<4:=by omega
   have ab:=λw=>xAj S hlt w;have a3:Hid (J (64*i) wr):=a2;gi_wp2;gi_loopw [5] (λxv wr=>∃x b:Nat,xv=(xu x)/\Hid (x=wdF S i b)/\b<=64/\Hid (J (64*i+b) wr)) (λxv _=>(intOf xv).toNat);case atStart=>exact⟨wdN S i,0,rfl,(yZx S i).symm,by omega,a3⟩
   case round=>
    obtain⟨x,b,rfl,HX,hb,a0⟩:=hrel;by_cases hx0:x=0
    .subst hx0;have hn:Hid (J (64*(i+1)) wr):=hJs _ _ _ a0 (by omega) (λj h1 h2=>by
      have:=yZy HX.symm (j-64*i) (by omega) (by omega)
      rwa [show 64*i+(j-64*i)=j by omega]at this)
     gi_wp2;go_roundw;case rel=>exact⟨i+1,qo,by go_num,hn⟩
     case measure=>simp[intOf];omega
    .have a5:x<18446744073709551616:=by rw[HX];exact xB4 _ _ _
     have⟨h1,h2,h3,h4,h5⟩:=xC6 HX hx0;have HT:=xC9 x a5 hx0 wr (hJt _ _ a0);have⟨k,hk⟩:=qE (AH 64 x);rw[<-hk]at h1 h2 h3 h4 h5 HT;have⟨fn,tmps,assign,body,hy,hR⟩:=hY _ (64*i+k) wr a0 qo (by omega) h2 (λj q1 q2=>by
      have:=h4 (j-64*i) (by omega) (by omega)
      rwa [show 64*i+(j-64*i)=j by omega]at this)
     have e0:((64*i+k:Nat):Int)=(i:Int)*64+(k:Int):=by omega
     rw[e0]at hy;have zx:((x:Int)==0)=false:=by simp;omega
     have HN:Hid (x &&& (x-1)=wdF S i (k+1)/\x &&& (x-1)<x):=⟨h5,qw (and_le_right (n:=x) (m:=x-1))⟩;have a1:bits .and .u64 (x:Int) ((x:Int)-1)=((x &&& (x-1):Nat):Int):=by have:=yQi x hx0 a5;rwa [AO,Int.emod_eq_of_lt (by omega) (by omega)]at this
     have a8:Hid (Calls prog 258 #[xu x] wr λe w'=>e=.returned (xi k)/\w'=wr):=HT;have⟨y,a4⟩:=qE (x &&& (x-1));rw[<-a4]at a1 HN;clear HT hk h2 h3 h4 h5 a3 a0 e0 a4;gi_wp2;refine⟨trivial,(callsIn_wide.2 a8).mono ?_⟩;rintro e w' ⟨rfl,a6⟩;rw[a6];gi_wp2;apply hR.mono;rintro e W3 ⟨rfl,a7⟩;have a9:Hid (J (64*i+(k+1)) W3):=a7;gi_wp2_with (simp only[a1]);go_roundw;case rel=>exact⟨y,k+1,by first|rfl|rw[a1],HN.1,by omega,a9⟩
     case measure=>have:=HN.2;simp[intOf,a1];omega
  .obtain rfl:i=4:=by omega
   gi_wp2;go_end0;exact⟨⟨_,rfl⟩,a2⟩
theorem yH8{g:Operand}{ps:Array Tmp}(h1:2<=n)(S:PS)
  (hg:a.eval g=.func (.func 246) #[psV S] #[]) (hps:ps.size=1) (I:Nat->Ww->Prop) (hI:OwnFrom w.heap.size I) (hIt:∀k W,I k W->TabD W)
  (hIs:∀k k' W,I k W->k<=k'->(∀j,k<=j->j<k'->S j=false)->I k' W) (h0:I 0 w) (a₁:Nat->Act)
  (hassign:∀(l x:Nat)(W:Ww)(K:Act->Ww->Prop),K (a₁ x) W->assign.wpIn (Fence.wide.inRound l) (n-1-1) prog (Exit.then K (λ_ _ _=>False)) {tmps:=(ps.zip #[.int .i64 (x:Int)]).foldl (λt (p,v)=>t.setIfInBounds p v) a.tmps,defers:= []} W)
  (hbody:∀(l k x:Nat)(W:Ww),I k W->k<=x->x<256->S x=true->(∀j,k<=j->j<x->S j=false)->body.wpIn (Fence.wide.inRound l) (n-1-1) prog (λe _ W'=>e=.normal/\KeepsFrom w W W'/\I (x+1) W') (a₁ x) W)
  (hdone:∀(D:Nat)(W:Ww),w<=D->I 256 W->W.heap[D]?=some (.deferred (some []))->Q .normal {a with defers:={target:=.collected D,args:=#[]}::a.defers} W):
  (Code.rangeFunc g ps assign body).wpIn Fence.wide n prog Q a w:=by
 apply wpIn_rangeFunc;intro fn aa;obtain⟨rec,a0⟩:∃rec:LoopState->Option Code->Loop,rec=λst pe=>{state:=st,pending:=pe,fn,tmps:=a.tmps,params:=ps,assign,body,defers:=w.heap.size}:=⟨_,rfl⟩;obtain⟨W1,a2⟩:∃W1,(w.alloc (.deferred (some []))).alloc (.loop (rec .ready none))=W1:=⟨_,rfl⟩;have ac:W1.heap[w.heap.size+1]?=some (.loop (rec .ready none)):=by rw[<-a2];have:=Aa (w.alloc (.deferred (some []))) (.loop (rec .ready none));rwa [World.size_alloc]at this
 have ad:W1.heap[w.heap.size]?=some (.deferred (some [])):=by rw[<-a2];exact(Below.heap_alloc _ _ _ (by simp)).trans (Aa w _)
 have ae:I 0 W1:=by rw[<-a2];exact hI.alloc _ (hI.alloc _ h0)
 refine⟨w+1,[{target:=.collected w.heap.size,args:=#[]}],W1,{target:=.fn (.func 246) #[],args:=#[psV S,.func (.yield (w.heap.size+1)) #[] #[]]},W1,246,
  #[psV S,.func (.yield (w.heap.size+1)) #[] #[]],W1,?_,?_,λ_ _=>trivial,?_,λ_=>qo,?_⟩
 .rw[<-a2,a0];exact run_enterLoop_outer _ _ _ _ _
 .simp only[resolve,hg];simp[go_sem]
 .simp[invoke,go_sem]
 .have a4:∀(k:Nat){A B:Ww}{row:Option Nat},(I k A/\A.heap[w.heap.size+1]?=some (.loop (rec .ready none))/\A.heap[w.heap.size]?=some (.deferred (some [])))->A.grownBy B none->(I k B/\B.heap[w.heap.size+1]?=some (.loop (rec .ready none))/\B.heap[w.heap.size]?=some (.deferred (some []))):=λk A B row h hgr=>
   ⟨hI k A B none h.1 hgr (λr e=>by cases e),(hgr.block _ (AG.1 h.2.1).1 (by simp)).trans h.2.1,(hgr.block _ (AG.1 h.2.2).1 (by simp)).trans h.2.2⟩
  refine(yUz S (w.heap.size+1) (n-1) qo (λk W=>I k W/\W.heap[w.heap.size+1]?=some (.loop (rec .ready none))/\W.heap[w.heap.size]?=some (.deferred (some []))) ?_ (λk k' W h q1 q2=>⟨hIs k k' W h.1 q1 q2,h.2⟩) (λk W h=>a4 k (row:=none) h ⟨rfl,rfl,rfl,Nat.le_refl _,λ_ _ _=>rfl⟩) (λk W o h=>a4 k (row:=none) h (World.grownBy_alloc W o none)) (λk W h=>hIt k W h.1) W1 ⟨ae,ac,ad⟩).mono ?_
  .rintro k x W ⟨hi,hl,hk⟩ a7 hx hS ab;have a6:=(AG.1 hl).1;have hy:=run_yield (P:=prog) (args:=#[.int .i64 (x:Int)]) hl (a0▸hps.symm);rw[a0]at hy;refine⟨fn,_,assign,body,hy,roundIn_of_wpIn aa (hassign _ x W _ ⟨_,run_beginRound hl (by rw[a0]),?_⟩)⟩;have hl2:(W.putObj (w+1) (.loop {rec .ready none with state:=.busy})).heap[w.heap.size+1]?=some (.loop {rec .ready none with state:=.busy}):=AZ a6;have a8:(W.putObj (w+1) (.loop {rec .ready none with state:=.busy})).heap[w.heap.size]?=some (.deferred (some [])):=(AQ qo).trans hk;apply wpIn_mono (hbody _ k x _ (hI.putObj _ hi qo hl rfl) a7 hx hS ab);rintro e a3 W3 ⟨rfl,a5,a9⟩;have a1:=a5.same _ _ qo hl2 rfl;have hr:=run_endRound (P:=prog) none a1;rw[a0]at hr a1;refine⟨_,_,hr,rfl,hI.putObj _ a9 qo a1 rfl,?_,(AQ qo).trans (a5.same _ _ qr a8 rfl)⟩;rw[a0];exact AZ (AG.1 a1).1
  .rintro e W2 ⟨⟨v,rfl⟩,hi,hl,hk⟩;exact⟨none,_,by have:=run_endLoop (P:=prog) hl (by rw[a0];simp);rw[a0]at this;exact this,hdone _ _ qr (hI.putObj _ hi qo hl rfl) ((AQ qo).trans hk)⟩
theorem yQr{k:Nat}(h:∀i,i<k->ρ' i=ρ i/\γ' i=γ i):yOi N k ρ' γ'=yOi N k ρ γ:=by unfold yOi;apply map_congr_left;intro i hi;rw[mem_range]at hi;rw[(h i hi).1,(h i hi).2]
def updN(ρ:Nat->Nat)(k r:Nat):Nat->Nat:=λi=>if i=k then r else ρ i
theorem yFa(ρ:Nat->Nat)(k r:Nat){i:Nat}(h:i<k):updN ρ k r i=ρ i:=by simp[updN,ne_of_lt h]
theorem yHo(ρ:Nat->Nat)(k r:Nat):updN ρ k r k=r:=by simp[updN]
structure RowJ(w wi:Ww)(n g cp k r c j:Nat)(ρ γ:Nat->Nat):Prop where
 j:BRow wi w r c j (λ_=>false)
 mat:MatO wi w g cp (n+1) k ρ γ (λ_ _=>false)
 off:∀i,i<k->ρ i≠r
 k:Below w w wi
variable {wi:Ww}
theorem RowJ.K{k c:Nat}(h:RowJ w wi n g cp k r c j ρ γ)(hb:Below wi wi w'):RowJ w w' n g cp k r c j ρ γ:=
 ⟨h.j.i (S:=λ_=>False) (Chg.h hb) (λq=>q),h.mat.k hb,h.off,h.k.trans (hb.mono h.k.size)⟩
theorem RowJ.next{k c r' c':Nat}(h:RowJ w wi n g cp k r c j ρ γ)(hr:BRow w' w r' c' (j+1) (λ_=>false))(hg:wi.grownBy w' (some r))(hat:r'=r\/r'=wi.heap.size):RowJ w w' n g cp k r' c' (j+1) ρ γ:=by
 have a0:Chg (λb=>b=r) wi w':=Chg.M hg (λb hb=>by cases hb;rfl);have a1:=h.j.lt;refine⟨hr,h.mat.i a0 (λq=>(h.j.off h.mat.out) q.symm) (λi hi=>h.off i hi),λi hi=>?_,Chg.k h.k a0 h.k.size (λb hb=>by omega)⟩;rcases hat with q|q
 .rw[q];exact h.off i hi
 .rw[q];have:=(h.mat.j i hi).lt.2;omega
theorem RowJ.done{k c g' cp':Nat}(h:RowJ w wi n g cp k r c (n+1) ρ γ)(ho:ORow w' w g' cp' (n+1) (k+1) (updN ρ k r) (updN γ k c))(hg:wi.grownBy w' (some g)):
  MatO w' w g' cp' (n+1) (k+1) (updN ρ k r) (updN γ k c) (λ_ _=>false)/\Below w w w':=by
 have a0:Chg (λb=>b=g) wi w':=Chg.M hg (λb hb=>by cases hb;rfl);have a1:=h.mat.out.lt;refine⟨⟨ho,λi hi=>?_,λi j hi hj hne=>?_⟩,Chg.k h.k a0 h.k.size (λb hb=>by omega)⟩
 .by_cases e:i=k
  .subst e;rw[yHo,yHo];exact h.j.i a0 (λq=>h.j.off h.mat.out q)
  .rw[yFa _ _ _ qo,yFa _ _ _ qo];exact(h.mat.j i qo).i a0 (λq=>(h.mat.j i qo).off h.mat.out q)
 .by_cases e:i=k
  .subst e;rw[yHo,yFa _ _ _ qo];exact λq=>h.off j qo q.symm
  .by_cases e':j=k
   .subst e';rw[yHo,yFa _ _ _ qo];exact h.off i qo
   .rw[yFa _ _ _ qo,yFa _ _ _ qo];exact h.mat.inj i j qo qo hne
theorem yCu(n:Nat)(hn:n<=1000) w:Calls prog 223 #[xi n] w (MaP (n+1) (λ_ _=>false) w):=by
 have⟨W0,a4⟩:=qE (xw w #[] 118:Ww);have ab:Hid (MatO W0 w w 0 (n+1) 0 (λ_=>0) (λ_=>0) (λ_ _=>false)/\Below w w W0):=a4▸⟨⟨AM w #[] 0 qr qj qj,λi hi=>qo,λi j hi=>qo⟩,qB⟩
 go_enter func223,ntmps223;go_upto_region 2 with fail;rw[<-a4];clear a4;go_wp2;go_loopw[3,4] (λov iv wr=>∃(k g cp:Nat)(ρ γ:Nat->Nat),k<=n+1/\iv=(xi k)/\ov=slV g k cp/\Hid (MatO wr w g cp (n+1) k ρ γ (λ_ _=>false)/\Below w w wr)) (λ_ iv _=>n+1-(intOf iv).toNat);case atStart=>exact⟨0,_,0,_,_,AL _,rfl,rfl,ab.out⟩
 case round=>
  obtain⟨k,g,cp,ρ,γ,hk,rfl,rfl,HM⟩:=hrel;have⟨Wr,a8⟩:=qE (wr:Ww);subst a8;by_cases hlt:k<=n
  .have zk:(k:Int)<=(n:Int):=qo
   have⟨W1,a2⟩:=qE (xw Wr #[] 4:Ww);have⟨r0,a3⟩:=qE Wr.heap.size;have ad:Hid (RowJ w W1 n g cp k r0 0 0 ρ γ):=by
    have a7:=qN a2
    refine⟨?_,HM.1.k a7,λi hi q=>?_,HM.2.trans (a7.mono HM.2.size)⟩
    .rw[a2,a3];exact AM Wr #[] 0 HM.2.size qj qj
    .have:=(HM.1.j i hi).lt.2;omega
   go_upto_region 6 with fail;rw[<-a2,<-a3];clear a2 a3;go_wp2_with fail;go_loopw[5,6] (λrv jv wi=>∃(j r c:Nat),j<=n+1/\jv=(xi j)/\rv=slV r j c/\Hid (RowJ w wi n g cp k r c j ρ γ)) (λ_ jv _=>n+1-(intOf jv).toNat);case atStart=>exact⟨0,r0,0,AL _,rfl,rfl,ad.out⟩
   case round=>
    obtain⟨j,r,c,hj,rfl,rfl,HJ⟩:=hrel;by_cases hlj:j<=n
    .have zj:(j:Int)<=(n:Int):=qo
     have HA:Hid (RowJ w (xw wr #[false] 4) n g cp k r c j ρ γ/\w.heap.size<=(wr.alloc (AI #[false] 4)).heap.size):=by have h1:=HJ.K ((Below.refl wr wr).alloc qr (AI #[false] 4));exact⟨h1,h1.k.size⟩
     go_wp2_with (at_builtin;refine yIp _ rfl _ _ rfl w r c j wr 1 (λ_=>false) false rfl rfl HA.1.j (by simp[go_sem]) rfl qo HA.2 ?_);intro r' c' w' a5 a0 a1;have ac:=qH1 (HA.1.next a5 a0 (by simpa using a1));clear a5 a0 a1;refine zY ?_;exact⟨j+1,r',c',qo,by go_num,rfl,ac.out⟩
    .obtain rfl:j=n+1:=qo
     have zj:¬(((n+1:Nat):Int))<=(n:Int):=qo
     have HA:Hid (RowJ w (xw wr #[slV r (n+1) c] 118) n g cp k r c (n+1) ρ γ/\w.heap.size<=(wr.alloc (AI #[slV r (n+1) c] 118)).heap.size/\ORow (xw wr #[slV r (n+1) c] 118) w g cp (n+1) k (updN ρ k r) (updN γ k c)):=by have h1:=HJ.K ((Below.refl wr wr).alloc qr (AI #[slV r (n+1) c] 118));refine⟨h1,h1.k.size,?_⟩;have h2:=h1.mat.out;unfold ORow at h2|-;rw[yQr (λi hi=>⟨yFa ρ k r hi,yFa γ k c hi⟩)];exact h2
     go_wp2_with (at_builtin;refine yHk _ rfl _ _ rfl w g cp (n+1) k wr 1 r c (updN ρ k r) (updN γ k c) rfl rfl HA.2.2 (by simp[go_sem]) (yHo _ _ _) (yHo _ _ _) qo HA.2.1 ?_);intro g' a9 w' a6 a0 a1;have aa:=qH1 (HA.1.done a6 a0);clear a6 a0 a1;refine zY ?_;exact⟨k+1,g',a9,updN ρ k r,updN γ k c,qo,by go_num,rfl,aa.out⟩
  .obtain rfl:k=n+1:=qo
   have zk:¬(((n+1:Nat):Int))<=(n:Int):=qo
   go_wp2_with fail;go_ret;exact⟨g,cp,ρ,γ,rfl,HM.1,HM.2⟩
theorem yA7{x c:U8}(h:¬x=c):¬(x.toNat:Int)=(c.toNat:Int):=λq=>h (AV.1 qo)
theorem yD9(p:Ba)(i:Nat) w (hp:p.size<=200) (hi:i<=300) (c:U8) (k:Nat) (b:Bool) (h:chM (sb p) i=(c,k,b)):
  Calls prog 186 #[p,xi i] w λe w'=>e=.returned (.tuple #[.int .u8 (c.toNat:Int),xi k,b])/\w'=w:=by
 have HM:=qH1 h;by_cases hlt:i<p.size
 .obtain⟨x,hx⟩:∃x,(sb p)[i]?=some x:=qg (by rw[yAe];exact hlt);have⟨_,gx⟩:=yAw hx;have z1:(i:Int)<(p.size:Int):=qo
  have a1:¬p.size<=i:=qo
  have HX:=qH1 hx;by_cases hend:x=93\/x=45
  .have HF:c=0/\k=i/\b=false:=by
    have h1:chM (sb p) i=(0,i,false):=by unfold chM;rw[HX.out];simp only[];rw[iB hend]
    rw[HM.out]at h1;simpa using h1
   obtain⟨rfl,rfl,rfl⟩:=HF;rcases hend with rfl|rfl;all_goals go_enter func186,ntmps186
   all_goals go_wp2
   all_goals refine AB (v:=.tuple #[.int .u8 0,xi k,false]) (by simp[results,results186,go_sem]) rfl ⟨rfl,rfl⟩
  have a2:((x.toNat:Int)==93)=false:=iC.2 (yA7 (c:=93) (λq=>hend (.inl q)));have a3:((x.toNat:Int)==45)=false:=iC.2 (yA7 (c:=45) (λq=>hend (.inr q)));by_cases h92:x=92
  .subst h92;by_cases hl2:i+1<p.size
   .obtain⟨y,hy⟩:∃y,(sb p)[i+1]?=some y:=qg (by rw[yAe];exact hl2);obtain⟨_,gy⟩:=yAw hy;have HF:c=y/\k=i+2/\b=true:=by
     have h1:chM (sb p) i=(y,i+2,true):=by rw[yY6 HX.out,hy]
     rw[HM.out]at h1;simpa using h1
    obtain⟨rfl,rfl,rfl⟩:=HF;have z2:(i:Int)+1<(p.size:Int):=qo
    clear hy;go_enter func186,ntmps186;go_wp2;refine AB (v:=.tuple #[.int .u8 (c.toNat:Int),xi (i+2:Nat),true]) (by simp[results,results186,go_sem]) rfl ⟨rfl,rfl⟩
   .have HF:c=0/\k=i+1/\b=false:=by
     have h1:chM (sb p) i=(0,i+1,false):=by rw[yY6 HX.out,AJ (by rw[yAe];omega)]
     rw[HM.out]at h1;simpa using h1
    obtain⟨rfl,rfl,rfl⟩:=HF;have z2:¬(i:Int)+1<(p.size:Int):=qo
    go_enter func186,ntmps186;go_wp2;refine AB (v:=.tuple #[.int .u8 0,xi (i+1:Nat),false]) (by simp[results,results186,go_sem]) rfl ⟨rfl,rfl⟩
  .have a0:((x.toNat:Int)==92)=false:=iC.2 (yA7 (c:=92) h92);have HF:c=x/\k=i+1/\b=true:=by
    have h1:chM (sb p) i=(x,i+1,true):=by unfold chM;rw[HX.out];simp only[];rw[iA hend,iA h92]
    rw[HM.out]at h1;simpa using h1
   obtain⟨rfl,rfl,rfl⟩:=HF;go_enter func186,ntmps186;go_wp2;refine AB (v:=.tuple #[.int .u8 (c.toNat:Int),xi (i+1:Nat),true]) (by simp[results,results186,go_sem]) rfl ⟨rfl,rfl⟩
 .have HF:c=0/\k=i/\b=false:=by have h1:chM (sb p) i=(0,i,false):=yY7 (AJ (by rw[yAe];omega));rw[HM.out]at h1;simpa using h1
  obtain⟨rfl,rfl,rfl⟩:=HF;have z1:¬(k:Int)<(p.size:Int):=qo
  have z2:(p.size:Int)<=(k:Int):=qo
  go_enter func186,ntmps186;go_wp2;refine AB (v:=.tuple #[.int .u8 0,xi k,false]) (by simp[results,results186,go_sem]) rfl ⟨rfl,rfl⟩
theorem yBd(c:U8) w:Calls prog 142 #[.int .u8 (c.toNat:Int)] w λe w'=>e=.returned (decide (isOp c))/\w'=w:=by
 by_cases h42:c=42
 .subst h42;exact xCw
 by_cases h43:c=43
 .subst h43;exact xCw
 by_cases h63:c=63
 .subst h63;exact xCw
 have z1:((c.toNat:Int)==42)=false:=iC.2 (yA7 (c:=42) h42);have z2:((c.toNat:Int)==43)=false:=iC.2 (yA7 (c:=43) h43);have z3:((c.toNat:Int)==63)=false:=iC.2 (yA7 (c:=63) h63);have H:Hid (decide (isOp c)=false):=decide_eq_false (λq=>q.elim h42 (λq=>q.elim h43 h63));go_enter func142,ntmps142;go_wp2;go_ret;exact⟨by rw[H.out];(first|rfl|simp[z3]),rfl⟩
theorem xCk{p:List U8}{b:Bool}{f:U8->Bool}(hj:j<=p.length)(h:¬(p[j]?=some 93/\b=true)):clsM p j b f=match yCh p j with| .inr e=>.inr e| .inl (a,b,k)=>clsM p k true (wider f a b):=by
 cases b
 .exact yY2 hj
 .exact xBd hj (λq=>h ⟨q,rfl⟩)
def xI(p:Ba)(i:Nat)(e:Ar):Prop:=
 (∃f k,yAt (sb p) i=.inl (f,k)/\e=.returned (.tuple #[xi k,.agg #[xi 0,xi 0]]))\/(∃c k,yAt (sb p) i=.inr (c,k)/\e=.returned (.tuple #[xi 0,.agg #[xi c,xi k]]))
theorem yB7{x y z:Vv}(hx:a.tmps.getD 4 undef=x)(ht:a.tmps.getD 5 undef=(xp rb))(he:yA w O 158 2 rb [y,z]):
  (results Tryz.f143 a.tmps).run prog w=.ok (.tuple #[x,.agg #[y,z]]) w:=by
 have⟨q0,q1⟩:=he.c2;have h1:a.tmps[4]?.getD undef=x:=by rw[<-AK];exact hx
 have h2:a.tmps[5]?.getD undef=(xp rb):=by rw[<-AK];exact ht
 simp[results,results143,go_sem,h1,h2,q0,q1]
theorem yIf(p:Ba)(i:Nat)(w:Ww)(hp:p.size<=200)(hi:i<p.size):
  Calls prog 143 #[p,xi i] w λe w'=>xI p (i+1) e/\Below w w w':=by
 have⟨W0,a2⟩:=qE (xw w #[xi 0,xi 0] 158:Ww);have a1:Hid (yA W0 w 158 2 w [xi 0,xi 0]/\Below w w W0):=a2▸⟨yAa w _ qr rfl,qB⟩
 have HS:Hid (∀a b:Vv,yA (xt (W0.setCell (xd w 0) a) w 1 b) w 158 2 w [a,b]/\Below w w (xt (W0.setCell (xd w 0) a) w 1 b)):=λa b=>⟨(a1.1.set 0 a).set 1 b,yAc (yAc a1.2 qr 0 _) qr 1 _⟩;have⟨r0,r1⟩:=a1.1.c2;have⟨f0,f1⟩:=a1.1.f2;obtain⟨ng,j0,a4,hj0,a3⟩:∃(ng:Bool)(j0:Nat),j0=(if ng=true then i+2 else i+1)/\j0<=p.size/\(yEi (sb p) (i+1) ng j0 false (λ_=>false)/\(ng=true↔(sb p)[i+1]?=some 94)):=by
  by_cases hx:(sb p)[i+1]?=some 94
  .refine⟨true,i+2,rfl,by have:=yAq hx;rw[yAe]at this;omega,?_,⟨λ_=>hx,λ_=>rfl⟩⟩;unfold yEi yAt;rw[iB hx];rfl
  .refine⟨false,i+1,rfl,qo,?_,⟨λq=>(by cases q),λq=>absurd q hx⟩⟩;unfold yEi yAt;rw[iA hx];generalize clsM (sb p) (i+1) false (λ_=>false)=r;cases r<;>rfl
 have HM0:=qH1 a3.1;have HNG:=qH1 a3.2;have HJ0:=qH1 a4;clear a3 a4;go_enter func143,ntmps143;go_upto_region 1 with fail;rw[<-a2];clear a2;by_cases hi1:i+1<p.size
 .obtain⟨x0,a0⟩:∃x,(sb p)[i+1]?=some x:=qg (by rw[yAe];exact hi1);obtain⟨_,a8⟩:=yAw a0;have a5:(i:Int)+1<(p.size:Int):=qo
  cases ng
  .have a7:((x0.toNat:Int)==94)=false:=iC.2 (yA7 (c:=94) (λq=>by have h1:=HNG.2 (by rw[a0,q]);cases h1));clear a0;exact zzQ1
  .have a6:x0=94:=by have h1:=HNG.1 rfl;rw[a0]at h1;exact AN h1
   subst a6;clear a0;go_wp2_with fail;go_loopw[6,7] (λjv nv wr=>∃(j n:Nat)(f:U8->Bool),j<=p.size/\n<=j/\jv=(xi j)/\nv=(xi n)/\yEi (sb p) (i+1) true j (decide (0<n)) f/\wr=W0) (λjv _ _=>p.size-(intOf jv).toNat);case atStart=>exact⟨j0,0,λ_=>false,hj0,AL _,congrArg (Value.int .i64) (by rw[HJ0.out];simp<;>omega),rfl,HM0.out,rfl⟩
   case round=>
    obtain⟨j,n,f,hj,hnj,rfl,rfl,hE,hwr⟩:=hrel;have HE:=qH1 hE;rw[hwr];clear hE hwr HM0 HJ0 HNG;by_cases hlt:j<p.size
    .obtain⟨x,hx⟩:∃x,(sb p)[j]?=some x:=qg (by rw[yAe];exact hlt);obtain⟨_,gx⟩:=yAw hx;have HX:=qH1 hx;have zj:(j:Int)<(p.size:Int):=qo
     clear hx;by_cases hend:x=93/\0<n
     .obtain⟨rfl,hn0⟩:=hend;have zn:(0:Int)<(n:Int):=qo
      have HF:Hid (∃f',yAt (sb p) (i+1)=.inl (f',j+1)):=by refine⟨if true=true then λc=> !f c else f,?_⟩;rw[HE.eq,decide_eq_true hn0,yTu HX.out]
      obtain⟨f',hf'⟩:=HF.out;have HF':=qH1 hf';clear hf' HF;go_wp2_with fail;exact AB (v:=.tuple #[xi (j+1:Nat),.agg #[xi 0,xi 0]]) (yB7 rfl rfl (HS.out (xi 0) (xi 0)).1) rfl ⟨.inl ⟨f',j+1,HF'.out,rfl⟩,(HS.out (xi 0) (xi 0)).2⟩
     .have HG:Hid (clsM (sb p) j (decide (0<n)) f=match yCh (sb p) j with| .inr e=>.inr e| .inl (a,b,k)=>clsM (sb p) k true (wider f a b)):=xCk (by rw[yAe];omega) (λq=>hend ⟨by have h1:=q.1;rw[HX.out]at h1;exact AN h1,by simpa using q.2⟩);obtain⟨lo,k,b,hch⟩:∃lo k b,chM (sb p) j=(lo,k,b):=⟨_,_,_,rfl⟩;have HCh:=qH1 hch;have hkl:b=true->k<=p.size/\j<k:=λq=>by subst q;have:=yFn hch;rw[yAe]at this;omega
      clear hch;have hpick:((x.toNat:Int)==93)=false\/(¬(0:Int)<(n:Int)):=by
       by_cases h93:x=93
       .exact .inr (λq=>hend ⟨h93,qo⟩)
       .exact .inl (iC.2 (yA7 (c:=93) h93))
      clear hend;have hpk:(((x.toNat:Int)==93)=false)\/(((x.toNat:Int)==93)=true/\n=0):=by
       rcases hpick with q|q
       .exact .inl q
       .cases hq:((x.toNat:Int)==93)
        .exact .inl rfl
        .exact .inr ⟨rfl,qo⟩
      clear hpick;rcases hpk with h93|⟨h93,hn0⟩;case' inr=>
       have zn:¬(0:Int)<(n:Int):=qo
       clear hn0
      all_goals
       go_wp2_with fail
       refine(yD9 p j W0 hp qo lo k b HCh.out).mono ?_
       rintro e w1 ⟨rfl,hw1⟩
       rw[hw1]
       clear hw1
       cases b
       case false=>
        have HF:Hid (yAt (sb p) (i+1)=.inr (2,k)):=by show yAt (sb p) (i+1)=_;rw[HE.eq,HG.out];unfold yCh;rw[HCh.out]
        go_wp2_with fail;exact AB (v:=.tuple #[xi 0,.agg #[xi 2,xi k]]) (yB7 rfl rfl (HS.out (xi 2) (xi k)).1) rfl ⟨.inr ⟨2,k,HF.out,rfl⟩,(HS.out (xi 2) (xi k)).2⟩
       obtain⟨hks,hjk⟩:=hkl rfl
       clear hkl
       by_cases h45:(sb p)[k]?=some 45
       .obtain⟨hk2,gk⟩:=yAw h45;have HK:=qH1 h45;have zk:(k:Int)<(p.size:Int):=qo
        obtain⟨hh,m,b2,hch2⟩:∃hh m b2,chM (sb p) (k+1)=(hh,m,b2):=⟨_,_,_,rfl⟩;have HCh2:=qH1 hch2;have hml:b2=true->m<=p.size/\k<m:=λq=>by subst q;have:=yFn hch2;rw[yAe]at this;omega
        clear hch2 h45;go_wp2_with fail;refine(yD9 p (k+1) W0 hp qo hh m b2 HCh2.out).mono ?_;rintro e w2 ⟨rfl,hw2⟩;rw[hw2];clear hw2;cases b2
        .have HF:Hid (yAt (sb p) (i+1)=.inr (2,m)):=by show yAt (sb p) (i+1)=_;rw[HE.eq,HG.out];unfold yCh;rw[HCh.out];simp only[];rw[iB HK.out,HCh2.out]
         go_wp2_with fail;exact AB (v:=.tuple #[xi 0,.agg #[xi 2,xi m]]) (yB7 rfl rfl (HS.out (xi 2) (xi m)).1) rfl ⟨.inr ⟨2,m,HF.out,rfl⟩,(HS.out (xi 2) (xi m)).2⟩
        .obtain⟨hms,hkm⟩:=hml rfl;clear hml;by_cases hlo:hh<lo
         .have zlo:(hh.toNat:Int)<(lo.toNat:Int):=by have:=AF.1 hlo;omega
          have HF:Hid (yAt (sb p) (i+1)=.inr (4,j)):=by show yAt (sb p) (i+1)=_;rw[HE.eq,HG.out];unfold yCh;rw[HCh.out];simp only[];rw[iB HK.out,HCh2.out];simp only[];rw[iB hlo]
          go_wp2_with fail;exact AB (v:=.tuple #[xi 0,.agg #[xi 4,xi j]]) (yB7 rfl rfl (HS.out (xi 4) (xi j)).1) rfl ⟨.inr ⟨4,j,HF.out,rfl⟩,(HS.out (xi 4) (xi j)).2⟩
         .have zlo:(lo.toNat:Int)<=(hh.toNat:Int):=by have:=UInt8.le_iff_toNat_le.1 (UInt8.not_lt.1 hlo);omega
          have HF:Hid (yEi (sb p) (i+1) true m true (wider f lo hh)):=by show yEi _ _ _ _ _ _;unfold yEi;rw[HE.eq,HG.out];unfold yCh;rw[HCh.out];simp only[];rw[iB HK.out,HCh2.out];simp only[];rw[iA hlo]
          clear hlo;go_wp2;go_roundw;case rel=>exact⟨m,n+1,wider f lo hh,hms,qo,rfl,by go_num,by rw[decide_eq_true (succ_pos n)];exact HF.out,trivial⟩
          case measure=>simp[intOf];omega
       .have HK:=qH1 h45;have HF:Hid (yEi (sb p) (i+1) true k true (wider f lo lo)):=by show yEi _ _ _ _ _ _;unfold yEi;rw[HE.eq,HG.out];unfold yCh;rw[HCh.out];simp only[];rw[iA HK.out]
        clear h45;by_cases hke:k<p.size
        .obtain⟨y,hy⟩:∃y,(sb p)[k]?=some y:=qg (by rw[yAe];exact hke);obtain⟨_,gy⟩:=yAw hy;have zk:(k:Int)<(p.size:Int):=qo
         have zy:((y.toNat:Int)==45)=false:=iC.2 (yA7 (c:=45) (λq=>HK.out (by rw[hy,q])));clear hy;exact xFq
        .have zk:¬(k:Int)<(p.size:Int):=qo
         exact xFq
    .have HF:Hid (yAt (sb p) (i+1)=.inr (2,p.size)):=by show yAt (sb p) (i+1)=_;rw[HE.eq,clsM,dif_neg (by rw[yAe];exact hlt),yAe]
     have zj:¬(j:Int)<(p.size:Int):=qo
     go_wp2_with fail;exact AB (v:=.tuple #[xi 0,.agg #[xi 2,xi p.size]]) (yB7 rfl rfl (HS.out (xi 2) (xi p.size)).1) rfl ⟨.inr ⟨2,p.size,HF.out,rfl⟩,(HS.out (xi 2) (xi p.size)).2⟩
 .have a5:¬(i:Int)+1<(p.size:Int):=qo
  cases ng
  case true=>exact absurd (HNG.1 rfl) (by rw[AJ (by rw[yAe];omega)];exact λq=>by cases q)
  exact zzQ1
def yBf(p:List U8):Int×Nat:=if 200<p.length then(1,0)else chkM p 0 0 false
theorem xEu{y z:Vv}(ht:a.tmps.getD 2 undef=(xp rb))(he:yA w O 158 2 rb [y,z]):
  (results Tryz.f89 a.tmps).run prog w=.ok (.agg #[y,z]) w:=by
 have⟨q0,q1⟩:=he.c2;have h2:a.tmps[2]?.getD undef=(xp rb):=by rw[<-AK];exact ht
 simp[results,results89,go_sem,h2,q0,q1]
def ChkP(p:Ba)(w:Ww)(e:Ar)(w':Ww):Prop:=e=.returned (.agg #[xi (yBf (sb p)).1,xi (yBf (sb p)).2])/\Below w w w'
theorem yR5{p:Ba}{c:Int}{k:Nat}(hM:yBf (sb p)=(c,k))(hd:a.defers= [])(ht:a.tmps.getD 2 undef=(xp w))(hx:yA wr w 158 2 w [xi 0,xi 0])(hb:Below w w wr):
  bodyPost prog Tryz.f89 (ChkP p w) .ret a (xt (wr.setCell (xd w 0) (xi c)) w 1 (xi k)):=
 AB (v:=.agg #[xi c,xi k]) (xEu ht ((hx.set 0 _).set 1 _)) hd ⟨by rw[hM],yAc (yAc hb qr 0 _) qr 1 _⟩
theorem yBm(p:Ba) w (hpm:p.size<=maxLen):Calls prog 89 #[p] w (ChkP p w):=by
 have⟨W0,a4⟩:=qE (xw w #[xi 0,xi 0] 158:Ww);have a1:Hid (yA W0 w 158 2 w [xi 0,xi 0]/\Below w w W0):=a4▸⟨yAa w _ qr rfl,qB⟩
 unfold maxLen at hpm;by_cases hp:200<p.size
 .have HM:Hid (yBf (sb p)=(1,0)):=by show yBf (sb p)=_;unfold yBf;rw[iB (by rw[yAe];exact hp)]
  have z2:(200:Int)<(p.size:Int):=qo
  have⟨r0,r1⟩:=a1.1.c2;have⟨f0,f1⟩:=a1.1.f2;go_enter func89,ntmps89;go_upto_region 1 with fail;rw[<-a4];clear a4;go_wp2_with fail;exact yR5 HM.out rfl rfl a1.1 a1.2
 have a9:p.size<=200:=qo
 have HM:Hid (yBf (sb p)=chkM (sb p) 0 0 false):=by show yBf (sb p)=_;unfold yBf;rw[iA (by rw[yAe];exact hp)]
 have z2:¬(200:Int)<(p.size:Int):=qo
 go_enter func89,ntmps89;go_upto_region 1 with fail;rw[<-a4];clear a4 hp;go_wp2_with fail;go_loopw[3,4,5] (λov av iv wr=>∃(i o:Nat)(a:Bool),i<=p.size/\o<=i/\ov=(xi o)/\av=a/\iv=(xi i)/\yBf (sb p)=chkM (sb p) i o a/\Below W0 W0 wr) (λ_ _ iv _=>p.size-(intOf iv).toNat);case atStart=>exact⟨0,0,false,AL _,AL _,rfl,rfl,rfl,HM.out,Below.refl _ _⟩
 case round=>
  obtain⟨i,o,a,hi,aj,rfl,rfl,rfl,hE,hb⟩:=hrel;have HE:=qH1 hE;have HX:=qH2 (a1.1.k hb) (a1.2.trans (hb.mono a1.2.size));have HB:=qH1 hb;obtain⟨r0,r1⟩:=HX.1.c2;obtain⟨f0,f1⟩:=HX.1.f2;clear hE hb HM;by_cases hlt:i<p.size
  .obtain⟨c,hc⟩:∃x,(sb p)[i]?=some x:=qg (by rw[yAe];exact hlt);obtain⟨_,gc⟩:=yAw hc;have HC:Hid ((sb p)[i]?=some c):=hc;have zi:(i:Int)<(p.size:Int):=qo
   clear hc;by_cases h40:c=40
   .subst h40;by_cases ho:o=20
    .subst ho;have HF:Hid (yBf (sb p)=(3,i)):=by show yBf (sb p)=_;rw[HE.out,yF1 HC.out,iB rfl]
     exact zzU5
    .have zo:¬(o:Int)=20:=qo
     have HF:Hid (yBf (sb p)=chkM (sb p) (i+1) (o+1) false):=by show yBf (sb p)=_;rw[HE.out,yF1 HC.out,iA ho]
     go_wp2;go_roundw;case rel=>exact⟨i+1,o+1,false,qo,qo,by go_num,rfl,by go_num,HF.out,HB.out⟩
     case measure=>simp[intOf];omega
   have ag:((c.toNat:Int)==40)=false:=iC.2 (yA7 (c:=40) h40);by_cases h41:c=41
   .subst h41;by_cases ho:o=0
    .subst ho;have HF:Hid (yBf (sb p)=(2,i)):=by show yBf (sb p)=_;rw[HE.out,yEb HC.out,iB rfl]
     exact zzU5
    .have zo:¬(o:Int)=0:=qo
     have HF:Hid (yBf (sb p)=chkM (sb p) (i+1) (o-1) true):=by show yBf (sb p)=_;rw[HE.out,yEb HC.out,iA ho]
     go_wp2;go_roundw;case rel=>exact⟨i+1,o-1,true,qo,qo,congrArg (Value.int .i64) qo,rfl,by go_num,HF.out,HB.out⟩
     case measure=>simp[intOf];omega
   have af:((c.toNat:Int)==41)=false:=iC.2 (yA7 (c:=41) h41);by_cases h124:c=124
   .subst h124;have HF:Hid (yBf (sb p)=chkM (sb p) (i+1) o false):=by show yBf (sb p)=_;rw[HE.out,yJ9 HC.out]
    refine zX ?_;exact⟨i+1,o,false,qo,qo,rfl,rfl,by go_num,HF.out,HB.out⟩
   have ah:((c.toNat:Int)==124)=false:=iC.2 (yA7 (c:=124) h124);have HL:Hid (∀q:Bool,decide (isOp c)=q->Calls prog 142 #[.int .u8 (c.toNat:Int)] wr λe w'=>e=.returned q/\w'=wr):=λq hq=>by rw[<-hq];exact yBd c wr
   by_cases hop:isOp c
   .go_wp2_with fail;refine(HL.out true (decide_eq_true hop)).mono ?_;rintro e w3 ⟨rfl,a3⟩;rw[a3];clear a3 HL;cases a
    .have HF:Hid (yBf (sb p)=(2,i)):=by show yBf (sb p)=_;rw[HE.out,yTw HC.out hop];rfl
     clear hop;exact zzU5
    .have HF:Hid (yBf (sb p)=chkM (sb p) (i+1) o true):=by show yBf (sb p)=_;rw[HE.out,yTw HC.out hop,iB rfl]
     clear hop;exact xB0
   go_wp2_with fail;refine(HL.out false (decide_eq_false hop)).mono ?_;rintro e w3 ⟨rfl,a3⟩;rw[a3];have ab:=qH1 hop;clear a3 HL hop;by_cases h91:c=91
   .subst h91;go_wp2_with fail;refine(yIf p i wr a9 hlt).mono ?_;rintro e w4 ⟨hP,a2⟩;have a5:Below W0 W0 w4:=HB.trans (a2.mono HB.size);have ai:=a2.size;have a8:=HX.2.size;rcases hP with⟨f,k,hk,rfl⟩|⟨c4,k,hk,rfl⟩
    .have a6:=yBe hk;rw[yAe]at a6;obtain⟨W5,a0⟩:=qE (xw w4 #[xi 0,xi 0] 158:Ww);have HF:Hid (yBf (sb p)=chkM (sb p) k o true/\Below W0 W0 W5):=by refine⟨by rw[HE.out,yEc HC.out,hk],?_⟩;rw[a0];exact a5.trans ((Below.refl _ _).alloc (by have:=HB.size;omega) _)
     clear hk a2 a5 r0 r1 f0 f1;go_wp2_with fail;rw[<-a0];go_roundw;case rel=>exact⟨k,o,true,a6.2,qo,rfl,rfl,rfl,HF.1,HF.2⟩
     case measure=>simp[intOf];omega
    .have aa:=yL1 hk;obtain⟨W5,a0⟩:=qE (xw w4 #[xi c4,xi k] 158:Ww);have HF:Hid (yBf (sb p)=(c4,k)/\yA W5 w 158 2 w [xi 0,xi 0]/\Below w w W5/\yA W5 w 158 2 w4 [xi c4,xi k]):=by
      have a7:=qN a0
      refine⟨by rw[HE.out,yEc HC.out,hk],(HX.1.k a2).k a7,(HX.2.trans (a2.mono a8)).trans (a7.mono qo),?_⟩;rw[a0];exact yAa w4 _ qo rfl
     have ak:(c4 != 0)=true:=by simpa using aa
     clear hk a2 a5 r0 r1 f0 f1;go_upto_region 29 with fail;rw[<-a0];clear a0;obtain⟨b0,b1⟩:=HF.2.2.2.c2;obtain⟨r0,r1⟩:=HF.2.1.c2;obtain⟨f0,f1⟩:=HF.2.1.f2;go_wp2_with fail;exact yR5 HF.1 rfl rfl HF.2.1 HF.2.2.1
   have ae:((c.toNat:Int)==91)=false:=iC.2 (yA7 (c:=91) h91);by_cases h93:c=93
   .subst h93;have HF:Hid (yBf (sb p)=(2,i)):=by show yBf (sb p)=_;rw[HE.out,yTv HC.out]
    exact zzU5
   have ac:((c.toNat:Int)==93)=false:=iC.2 (yA7 (c:=93) h93);by_cases h92:c=92
   .subst h92;by_cases hl1:i+1=p.size
    .have HF:Hid (yBf (sb p)=(2,p.size)):=by show yBf (sb p)=_;rw[HE.out,yH3 HC.out,iB (by rw[yAe];exact hl1),yAe]
     have zl:(i:Int)+1=(p.size:Int):=qo
     exact zzU5
    .have HF:Hid (yBf (sb p)=chkM (sb p) (i+2) o true):=by show yBf (sb p)=_;rw[HE.out,yH3 HC.out,iA (by rw[yAe];exact hl1)]
     have zl:¬(i:Int)+1=(p.size:Int):=qo
     go_wp2;go_roundw;case rel=>exact⟨i+2,o,true,qo,qo,rfl,rfl,by go_num,HF.out,HB.out⟩
     case measure=>simp[intOf];omega
   have ad:((c.toNat:Int)==92)=false:=iC.2 (yA7 (c:=92) h92);have HF:Hid (yBf (sb p)=chkM (sb p) (i+1) o true):=by show yBf (sb p)=_;rw[HE.out,yFm HC.out (λq=>q.elim ab.out (λq=>q.elim h124 (λq=>q.elim h41 h93))) h40 h91 h92]
   exact xB0
  .have zi:¬(i:Int)<(p.size:Int):=qo
   by_cases ho:0<o
   .have HF:Hid (yBf (sb p)=(2,p.size)):=by show yBf (sb p)=_;rw[HE.out,yJ8 (by rw[yAe];exact hlt),iB ho,yAe]
    have zo:(0:Int)<(o:Int):=qo
    exact zzU5
   .have HF:Hid (yBf (sb p)=(0,0)):=by show yBf (sb p)=_;rw[HE.out,yJ8 (by rw[yAe];exact hlt),iA ho]
    have zo:¬(0:Int)<(o:Int):=qo
    exact zzU5
def cB(a b:Ba):Int:=AA a.data.toList b.data.toList
theorem yCy:∀a b:List U8,AC a b=true->AA a b= -1
 | [],[]=>by simp[AC]
 | [],_::_=>by simp[AA]
 |_::_,[]=>by simp[AC]
 |a::x,b::y=>by
  intro h
  simp only[AC,Bool.or_eq_true,decide_eq_true_eq,Bool.and_eq_true,beq_iff_eq]at h
  unfold AA
  rcases h with h|⟨rfl,h⟩
  .rw[iB h]
  .have hn:¬a<a:=by simp
   rw[iA hn,iA hn];exact yCy x y h
theorem yCw:∀a:List U8,AA a a=0
 | []=>rfl
 |a::x=>by
  unfold AA
  have hn:¬a<a:=by simp
  rw[iA hn,iA hn];exact yCw x
theorem yCx:∀a b:List U8,AC a b=false->(a==b)=false->AA a b=1
 | [],[]=>by simp
 | [],_::_=>by simp[AC]
 |_::_,[]=>by simp[AA]
 |a::x,b::y=>by
  intro h h2
  simp only[AC,Bool.or_eq_false_iff,decide_eq_false_iff_not]at h
  unfold AA
  rw[iA h.1]
  by_cases hb:b<a
  .rw[iB hb]
  .rw[iA hb]
   have hab:a=b:=by have h1:=h.1;rw[AF]at h1 hb;exact AV.1 qo
   subst hab
   refine yCx x y ?_ ?_
   .simpa using h.2
   .simpa using h2
theorem yHz(a b:List U8):AA a b= -1\/AA a b=0\/AA a b=1:=by
 cases h:AC a b
 .cases h2:(a==b)
  .exact .inr (.inr (yCx a b h h2))
  .rw[beq_iff_eq]at h2;subst h2;exact .inr (.inl (yCw a))
 .exact .inl (yCy a b h)
theorem yEv(a b:Ba):cB a b= -1\/cB a b=0\/cB a b=1:=yHz _ _
variable {a b:Ba}
theorem yNt(h:AC a.toList b.toList=true):cB a b= -1:=by rw[AE,AE]at h;exact yCy _ _ h
theorem yNs(h:AC a.toList b.toList=false)(h2:(a.toList==b.toList)=false):cB a b=1:=by rw[AE,AE]at h h2;exact yCx _ _ h h2
theorem xEy(h2:(a.toList==b.toList)=true):cB a b=0:=by rw[AE,AE,beq_iff_eq]at h2;unfold cB;rw[h2];exact yCw _
def yAs(a b:Int):Int:=if a=0 then b else a
def yBo(k l:Int):Int:=if k=2 then(if l=2 then 0 else-1)else(if l=2 then 1 else 0)
def yGg(t u:Int):Int:=if u<t then-1 else if t<u then 1 else 0
def yAr(a b:Ent):Int:=yAs (cB a.j b.j) (yAs (cB a.E b.E) (yAs (cB a.C b.C) (yAs (yBo a.f b.f) (yGg a.ts b.ts))))
theorem yMt{k:IntKind}{a b:Int}(h:a=b):Ending.returned (.int k a)=.returned (.int k b):=by rw[h]
theorem yXy(a b:Ba) w:
  Calls prog 147 #[a,b] w λe w'=>e=.returned (xi (cB a b))/\w'=w:=by
 cases h:AC a.toList b.toList
 .cases h2:(a.toList==b.toList)
  .have H:=qH1 (yNs h h2);exact xCx
  .have H:=qH1 (xEy h2);exact xCx
 .have H:=qH1 (yNt h);exact xCx
theorem yRk(a b:Int) w:
  Calls prog 146 #[xi a,xi b] w λe w'=>e=.returned (xi (yAs a b))/\w'=w:=by
 unfold yAs;by_cases h:a=0
 .have h':(a != 0)=false:=by simp[h]
  rw[iB h];go_enter func146,ntmps146;go_wp2;go_ret;exact⟨rfl,rfl⟩
 .have h':(a != 0)=true:=by simp[h]
  rw[iA h];go_enter func146,ntmps146;go_wp2;go_ret;exact⟨rfl,rfl⟩
set_option maxRecDepth 100000 in
theorem yHy(a b:Ba) w:
  Calls prog 231 #[a,b] w λe w'=>e=.returned (xi (cB a b))/\w'=w:=by
 go_enter func231,ntmps231;go_wp2;rw[run_callFunc_extern func245 qk qk qk (e:=Extern.BytealgCompare.compare) qk,Lib.run_compareString];simp only[Result.andThen];rw[Oper.upon_value];go_wp2;go_ret;exact⟨rfl,rfl⟩
theorem yGv(a b:Ba) w:
  Calls prog 213 #[a,b] w λe w'=>e=.returned (xi (cB a b))/\w'=w:=by
 go_enter func213,ntmps213;go_wp2_with (go_at_call 231;apply (yHy _ _ _).mono;rintro e w' ⟨rfl,rfl⟩);go_ret;exact⟨rfl,rfl⟩
theorem yVi(a b:Int) w:
  Calls prog 188 #[xu a,xu b] w λe w'=>e=.returned (xi (yGg b a))/\w'=w:=by
 unfold yGg;by_cases h:a<b
 .rw[iB h];exact xCu
 .rw[iA h];by_cases h2:b<a
  .rw[iB h2];exact xCu
  .rw[iA h2];exact xCu
def tri(x:Int):Prop:=x= -1\/x=0\/x=1
theorem yGs{a b:Int}(h:tri a)(k:tri b):tri (yAs a b):=by
 unfold yAs;split
 .exact k
 .exact h
theorem yMb(k l:Int):tri (yBo k l):=by
 unfold yBo tri;repeat' split
 all_goals omega
theorem xG2(k l:Int):tri (yGg k l):=by
 unfold yGg tri;repeat' split
 all_goals omega
theorem yJx a b:yAr a b= -1\/yAr a b=0\/yAr a b=1:=
 yGs (yEv _ _) (yGs (yEv _ _) (yGs (yEv _ _) (yGs (yMb _ _) (xG2 _ _))))
def yE3(a b:Ent):Int:=yAs (cB a.j b.j) (yAs (cB a.E b.E) (cB a.C b.C))
theorem yBs(a b:Ent)(w:Ww):
  (xf 187 #[a.v,b.v] w (xi (yE3 a b)):Prop):=by
 unfold yE3 yAs Ent.v;by_cases h1:cB a.j b.j=0
 .have g1:(cB a.j b.j != 0)=false:=by simp[h1]
  rw[iB h1];by_cases h2:cB a.E b.E=0
  .have g2:(cB a.E b.E != 0)=false:=by simp[h2]
   rw[iB h2];exact xC2
  .have g2:(cB a.E b.E != 0)=true:=by simp[h2]
   rw[iA h2];exact xC2
 .have g1:(cB a.j b.j != 0)=true:=by simp[h1]
  rw[iA h1];exact xC2
theorem yHd(a b c:Int):yAs (yAs a b) c=yAs a (yAs b c):=by
 unfold yAs;by_cases h:a=0
 .simp[h]
 .simp[h]
theorem yFx(a b:Ent):yAr a b=yAs (yE3 a b) (yAs (yBo a.f b.f) (yGg a.ts b.ts)):=by unfold yAr yE3;rw[yHd,yHd]
variable {a b:Ent}
theorem yX1(h:¬yE3 a b=0):yAr a b=yE3 a b:=by rw[yFx];unfold yAs;rw[iA h]
theorem yRn(h:yE3 a b=0)(h1:a.f=2)(h2:¬b.f=2):yAr a b= -1:=by rw[yFx];unfold yAs yBo;simp[h,h1,h2]
theorem yRm(h:yE3 a b=0)(h1:¬a.f=2)(h2:b.f=2):yAr a b=1:=by rw[yFx];unfold yAs yBo;simp[h,h1,h2]
theorem yX0(h:yE3 a b=0)(h1:(a.f=2)↔(b.f=2)):yAr a b=yGg a.ts b.ts:=by
 rw[yFx];unfold yAs yBo;by_cases h2:a.f=2
 .simp[h,h2,h1.1 h2]
 .have h3:¬b.f=2:=λx=>h2 (h1.2 x);simp[h,h2,h3]
theorem yR3(a b:Ent)(w:Ww):
  (xf 148 #[a.v,b.v] w (xi (yAr a b)):Prop):=by
 by_cases h1:yE3 a b=0
 .have g1:(yE3 a b != 0)=false:=by simp[h1]
  by_cases ha:a.f=2
  .have ga:(a.f==2)=true:=by simp[ha]
   by_cases hb:b.f=2
   .have gb:(b.f==2)=true:=by simp[hb]
    exact xGi
   .have gb:(b.f==2)=false:=by simp[hb]
    have H:=qH1 (yRn h1 ha hb);clear h1 ha hb;go_enter func148,ntmps148;go_wp2_with fail;apply (yBs a b _).mono;rintro e w1 ⟨rfl,hb1⟩;exact xFm
  .have ga:(a.f==2)=false:=by simp[ha]
   by_cases hb:b.f=2
   .have gb:(b.f==2)=true:=by simp[hb]
    have H:=qH1 (yRm h1 ha hb);clear h1 ha hb;go_enter func148,ntmps148;go_wp2_with fail;refine(yBs a b _).mono ?_;rintro e w1 ⟨rfl,hb1⟩;exact xFm
   .have gb:(b.f==2)=false:=by simp[hb]
    exact xGi
 .have g1:(yE3 a b != 0)=true:=by simp[h1]
  have H:=qH1 (yX1 h1);clear h1;go_enter func148,ntmps148;go_wp2_with fail;refine(yBs a b _).mono ?_;rintro e w1 ⟨rfl,hb1⟩;exact xGg
def kt(a b:Ent)(K T:Int):Prop:=yAr a b=yAs (cB a.j b.j) (yAs (cB a.E b.E) (yAs (cB a.C b.C) (yAs K T)))
theorem xIq{K T:Int}(hk:yBo a.f b.f=K)(ht:yGg a.ts b.ts=T):kt a b K T:=by unfold kt yAr;rw[hk,ht]
theorem kinds(a b:Ent):
  ((a.f==2)=true/\(a.f != 2)=false/\(b.f==2)=true/\(b.f != 2)=false/\yBo a.f b.f=0)\/
  ((a.f==2)=true/\(a.f != 2)=false/\(b.f==2)=false/\(b.f != 2)=true/\yBo a.f b.f= -1)\/
  ((a.f==2)=false/\(a.f != 2)=true/\(b.f==2)=true/\(b.f != 2)=false/\yBo a.f b.f=1)\/
  ((a.f==2)=false/\(a.f != 2)=true/\(b.f==2)=false/\(b.f != 2)=true/\yBo a.f b.f=0):=by
 unfold yBo;by_cases ha:a.f=2<;>by_cases hb:b.f=2<;>simp[ha,hb]
theorem tss(a b:Ent):
  (b.ts<a.ts/\¬a.ts<b.ts/\yGg a.ts b.ts= -1)\/(¬b.ts<a.ts/\a.ts<b.ts/\yGg a.ts b.ts=1)\/(¬b.ts<a.ts/\¬a.ts<b.ts/\yGg a.ts b.ts=0):=by
 unfold yGg;by_cases h1:b.ts<a.ts
 .exact .inl ⟨h1,qo,by simp[h1]⟩
 .by_cases h2:a.ts<b.ts
  .exact .inr (.inl ⟨h1,h2,by simp[h1,h2]⟩)
  .exact .inr (.inr ⟨h1,h2,by simp[h1,h2]⟩)
theorem yDg(a b:Ent)(w:Ww):
  (xf 95 #[a.v,b.v] w (xi (yAr a b)):Prop):=by
 unfold Ent.v;rcases kinds a b with⟨ga,a1,gb,a0,hk⟩|⟨ga,a1,gb,a0,hk⟩|⟨ga,a1,gb,a0,hk⟩|⟨ga,a1,gb,a0,hk⟩;all_goals rcases tss a b with⟨h1,h2,ht⟩|⟨h1,h2,ht⟩|⟨h1,h2,ht⟩
 all_goals
  have H:=xIq hk ht
  clear hk ht
  go_enter func95,ntmps95
  go_wp2
  go_quiet ((first|(go_at_call 147;exact Calls.quiet_of_same (yXy _ _ _))|(go_at_call 146;exact Calls.quiet_of_same (yRk _ _ _))))
  go_wp2
  go_ret
  exact⟨yMt H.symm,below_drewN ((qB).alloc (by simp) _) _⟩
def Ent.vld(e:Ent):Bool:=vE e.j e.E e.C e.f e.val
def yEo(a b:Ent):Bool:=(a.j.toList==b.j.toList) && ((a.E.toList==b.E.toList) && (a.C.toList==b.C.toList))
theorem yDy(a b:Ent)(w:Ww):
  (xf 96 #[a.v,b.v] w (yEo a b):Prop):=by
 unfold yEo Ent.v;cases h1:(a.j.toList==b.j.toList)
 .exact xCz
 .cases h2:(a.E.toList==b.E.toList)
  .exact xCz
  .exact xCz
theorem yH0(a:Ent)(w:Ww):
  (xf 216 #[a.v] w (.agg #[a.j,a.E,a.C]):Prop):=by
 unfold Ent.v;go_enter func216,ntmps216;go_wp2;refine AB (v:=.agg #[a.j,a.E,a.C]) (by simp[results,results216,go_sem]) rfl ⟨rfl,?_⟩;exact(qB).alloc (by simp) _
def yCf(p e:Ent):Bool:=(yAr p e== -1) && !((p.f==2) && ((e.f==2) && yEo p e))
def xI0(es:List Ent):Prop:=es.length<=10000/\∀e∈es,e.vld=true
def xH6(es:List Ent):Prop:=∀i p e,es[i]?=some p->es[i+1]?=some e->yCf p e=true
def yC6(es:List Ent):Prop:=xI0 es/\xH6 es
theorem iffF{p:Prop}(h:¬p):(false=true↔p):=⟨λx=>Bool.noConfusion x,λx=>absurd x h⟩
theorem iffT{p:Prop}(h:p):(true=true↔p):=⟨λ_=>h,λ_=>rfl⟩
variable {es:List Ent} {e:Ent}
theorem yQf{k:Nat}(h:∀x∈es.take k,x.vld=true)(he:es[k]?=some e)(hv:e.vld=true):∀x∈es.take (k+1),x.vld=true:=by
 intro x hx;rw[Ax,he]at hx;simp at hx;rcases hx with hx|rfl
 .exact h x hx
 .exact hv
def yKl(es:List Ent)(k:Nat):Prop:=∀i p e,i+1<k->es[i]?=some p->es[i+1]?=some e->yCf p e=true
variable {m:Nat} {p:Ent}
theorem yIb(h:yKl es (m+1))(hp:es[m]?=some p)(he:es[m+1]?=some e)(ho:yCf p e=true):yKl es (m+1+1):=by
 intro i p' e' hi h1 h2;by_cases hm:i=m
 .subst hm;rw[hp]at h1;rw[he]at h2;simp at h1 h2;subst h1 h2;exact ho
 .exact h i p' e' qo h1 h2
theorem yQz{k:Nat}(h:yKl es k)(hk:es.length<=k):xH6 es:=by intro i p e h1 h2;have:=qf h2;exact h i p e qo h1 h2
def yE5(e:Ent):List Ent->Bool->List Ent
 | [],done=>if done then []else [e]
 |x::r,done=>
  if yAr x e= -1 then x::yE5 e r done
  else if yAr x e=0 then(if done then yE5 e r true else e::yE5 e r true)
  else(if done then x::yE5 e r true else e::x::yE5 e r true)
def into(L:List Ent)(e:Ent):List Ent:=yE5 e L false
theorem yPx:∀a b:List U8,AA a b=0↔a=b
 | [],[]| [],_::_|_::_,[]=>by simp[AA]
 |a::x,b::y=>by
  unfold AA
  by_cases h1:a<b
  .rw[iB h1]
   constructor
   .intro h;cases h
   .intro h
    simp at h
    rw[h.1]at h1
    simp at h1
  .rw[iA h1]
   by_cases h2:b<a
   .rw[iB h2]
    constructor
    .intro h;cases h
    .intro h
     simp at h
     rw[h.1]at h2
     simp at h2
   .rw[iA h2,yPx x y]
    have hab:a=b:=by rw[AF]at h1 h2;exact AV.1 qo
    simp[hab]
theorem yTt:∀a b:List U8,AA b a= -AA a b
 | [],[]| [],_::_|_::_,[]=>by simp[AA]
 |a::x,b::y=>by
  unfold AA
  have:=yTt x y
  simp only[AF]
  by_cases h1:a.toNat<b.toNat
  .have h2:¬b.toNat<a.toNat:=qo
   simp[h1,h2]
  .by_cases h2:b.toNat<a.toNat
   .simp[h1,h2]
   .simp[h1,h2,this]
theorem yLz:∀a b c:List U8,AA a b= -1->AA b c= -1->AA a c= -1
 | [],[],_| [],_::_,[]| [],_::_,_::_|_::_,[],_|_::_,_::_,[]=>by simp[AA]
 |a::x,b::y,c::z=>by
  have ih:=yLz x y z
  unfold AA
  simp only[AF]
  intro h1 h2
  by_cases h3:a.toNat<c.toNat
  .simp[h3]
  .by_cases p1:a.toNat<b.toNat
   .by_cases p2:b.toNat<c.toNat
    .omega
    .by_cases p3:c.toNat<b.toNat
     .simp[p2,p3]at h2
     .omega
   .by_cases p2:b.toNat<a.toNat
    .simp[p1,p2]at h1
    .by_cases q1:b.toNat<c.toNat
     .omega
     .by_cases q2:c.toNat<b.toNat
      .simp[q1,q2]at h2
      .simp[p1,p2]at h1
       simp[q1,q2]at h2
       have r1:¬c.toNat<a.toNat:=qo
       simp[h3,r1]
       exact ih h1 h2
theorem yD0{a b:Ba}:cB a b=0↔a=b:=by
 unfold cB;rw[yPx];constructor
 .intro h;cases a;cases b;simp at h;simpa using h
 .intro h;rw[h]
theorem yY9(a b:Ba):cB b a= -cB a b:=yTt _ _
theorem yTz{a b c:Ba}(h:cB a b= -1)(k:cB b c= -1):cB a c= -1:=yLz _ _ _ h k
theorem yDc{a b c a' b' c':Int}(h0:a=0->b=0->c=0)(h1:a= -1->b= -1->c= -1)(h2:a= -1->b=0->c= -1)(h3:a=0->b= -1->c= -1)
  (ta:tri a) (tb:tri b) (k:a'= -1->b'= -1->c'= -1) (x:yAs a a'= -1) (y:yAs b b'= -1):yAs c c'= -1:=by
 unfold yAs at*;unfold tri at*;by_cases ha:a=0
 .rw[iB ha]at x;by_cases hb:b=0
  .rw[iB hb]at y;rw[iB (h0 ha hb)];exact k x y
  .rw[iA hb]at y;have:=h3 ha y;rw[iA qo];exact this
 .rw[iA ha]at x;by_cases hb:b=0
  .have:=h2 x hb;rw[iA qo];exact this
  .rw[iA hb]at y;have:=h1 x y;rw[iA qo];exact this
theorem yR7(a b c:Ba):(cB a b=0->cB b c=0->cB a c=0)/\(cB a b= -1->cB b c= -1->cB a c= -1)/\(cB a b= -1->cB b c=0->cB a c= -1)/\(cB a b=0->cB b c= -1->cB a c= -1):=by
 refine⟨λh k=>?_,λh k=>yTz h k,λh k=>?_,λh k=>?_⟩
 .rw[yD0]at*;rw[h,k]
 .rw[yD0]at k;rw[<-k];exact h
 .rw[yD0]at h;rw[h];exact k
theorem yP{c:Ent}(h:yAr a b= -1)(k:yAr b c= -1):yAr a c= -1:=by
 have⟨r0,r1,r2,r3⟩:=yR7 a.j b.j c.j;have⟨f0,f1,f2,f3⟩:=yR7 a.E b.E c.E;have⟨q0,q1,q2,q3⟩:=yR7 a.C b.C c.C;refine yDc r0 r1 r2 r3 (yEv _ _) (yEv _ _) (λh k=>?_) h k;refine yDc f0 f1 f2 f3 (yEv _ _) (yEv _ _) (λh k=>?_) h k;refine yDc q0 q1 q2 q3 (yEv _ _) (yEv _ _) (λh k=>?_) h k;refine yDc ?_ ?_ ?_ ?_ (yMb _ _) (yMb _ _) (λh k=>?_) h k
 .unfold yBo;(repeat' split)<;>omega
 .unfold yBo;(repeat' split)<;>omega
 .unfold yBo;(repeat' split)<;>omega
 .unfold yBo;(repeat' split)<;>omega
 .unfold yGg at*;(repeat' split at h)<;>(repeat' split at k)<;>(repeat' split)<;>omega
def Ord(l:List Ent):Prop:=l.Pairwise λa b=>yAr a b= -1
abbrev Ent.five(e:Ent):List Vv:= [.string e.j,.string e.E,.string e.C,.int .u64 e.ts,.string e.val]
abbrev Ent.c(e:Ent):Vv:=.agg #[e.j,e.E,e.C,xu e.ts,e.val]
def yC7(es:List Ent):List Vv:=es.flatMap Ent.five
theorem yEu es fs:yC7 (es++fs)=yC7 es++yC7 fs:=by simp[yC7]
theorem yDa(es:List Ent):(yC7 es).length=es.length*5:=yBv (f:=Ent.five) (λ_=>rfl) es
theorem yL4 es:∀(k:Nat)(e:Ent),es[k]?=some e->∀j,j<5->(yC7 es)[k*5+j]?=e.five[j]?:=yB6 (f:=Ent.five) (λ_=>rfl) es
def yA6(w:Ww)(b off:Nat)(es:List Ent):Prop:=
 ∀i e,es[i]?=some e->xk w b (off+i*5) e.j/\xk w b (off+i*5+1) e.E/\xk w b (off+i*5+2) e.C/\
  xk w b (off+i*5+3) (xu e.ts)/\xk w b (off+i*5+4) e.val
theorem yA6.k{b off:Nat}(h:yA6 w b off es)(hb:Below B w w')(hlt:b<B):yA6 w' b off es:=by have c:=λo=>hb.cell (p:=(xd b o)) hlt;intro i e he;simpa only[c]using h i e he
def OwnC(w:Ww)(O g cap:Nat)(es:List Ent):Prop:=w.ownsRow O 70 5 (xg g es.length cap) es.length (yC7 es)
variable {cap:Nat}
theorem OwnC.at(h:OwnC w O g cap es):yA6 w g 0 es:=by
 intro i e he;have hi:=qf he;have c:=λj (hj:j<5)=>(AP h (i*5+j) qo).trans (yL4 es i e he j hj);refine⟨?_,?_,?_,?_,?_⟩
 .simpa using c 0 qo
 .simpa using c 1 qo
 .simpa using c 2 qo
 .simpa using c 3 qo
 .simpa using c 4 qo
theorem OwnC.lt(h:OwnC w O g cap es):O<=g/\g<w.heap.size:=AR h g rfl
theorem OwnC.k(h:OwnC w O g cap es)(hb:Below B w w')(hg:g<B):OwnC w' O g cap es:=by exact xGl
theorem OwnC.mono(h:OwnC w O g cap es)(hb:base'<=O):OwnC w base' g cap es:=by exact yT8
theorem OwnC.caps(h:OwnC w O g cp R):R.length<=cp/\cp<=maxLen:=by exact yL7
theorem yTb(w:Ww):OwnC (xw w #[] 70) w w 0 []:=Ab w #[] 0 qr (AL _) (by simp)
theorem Tryz.infoCel:(prog.info? 70).map (λi=>(i.zero,i.size,i.bytes))=some (some (.agg #[xe,xe,xe,xu 0,xe]),5,72):=qk
theorem yNq(wx:Ww)(f:Ent):yA6 (xw wx #[f.j,f.E,f.C,xu f.ts,f.val] 70) wx 0 [f]:=by exact xBo
theorem yNh(e:Ent):∀u∈e.five,u.oneCell'=true:=by intro u h;simp at h;rcases h with rfl|rfl|rfl|rfl|rfl<;>rfl
theorem xE1:ApT 26 70 5 yC7 OwnC yA6:=apTG ⟨underlying26,_,_,Tryz.infoCel,rfl,qj,qj⟩ (λ_=>rfl) Iff.rfl λh=>yLv (f:=Ent.five) (sz:=5) (λ_=>rfl) qj (λi e he j u hu=>by
 obtain⟨c0,c1,c2,c3,c4⟩:=h i e he;match j,hu with
 |0,hu=>cases hu;exact c0
 |1,hu=>cases hu;exact c1
 |2,hu=>cases hu;exact c2
 |3,hu=>cases hu;exact c3
 |4,hu=>cases hu;exact c4) λx _=>yNh x
theorem xEa:laidOutB prog=true:=qk
def Rh:Vv->Option (DataW Vv×List MemPlace):=λv=>some (.held v,[])
theorem xIy{x:DataW Vv}(h:Rh v=some (x,ps)):x=.held v/\ps= []:=by unfold Rh at h;simp at h;exact⟨h.1.symm,h.2⟩
theorem xA7(w:Ww)(e:Ent):yBu (xw w #[e.j,e.E,e.C,xu e.ts,xi e.f,e.val] 165) w 0 [e]:=by exact xBo
def putE(x:Ent):Ent:={x with f:=0}
theorem yQl(e:Ent)(w:Ww):
  (xf 97 #[.agg #[e.j,e.E,e.C,xu e.ts,e.val]] w (putE e).v:Prop):=by
 go_enter func97,ntmps97;go_wp2;refine AB (v:=(putE e).v) (by simp[results,results97,go_sem,putE]) rfl ⟨rfl,?_⟩;exact(qB).alloc (by simp) _
theorem yCv(e:Ent)(w:Ww):
  (xf 99 #[.agg #[e.j,e.E,e.C,xu e.ts,e.val]] w (putE e).v:Prop):=by
 go_enter func99,ntmps99;go_wp2;refine AB (v:=(putE e).v) (by simp[results,results99,go_sem,putE]) rfl ⟨rfl,?_⟩;exact(qB).alloc (by simp) _
def yE1(L:List Ent)(m:Nat):List Ent:=(L.take m).map putE
variable {L:List Ent}
theorem yQw(h:L[m]?=some x):yE1 L (m+1)=yE1 L m++ [putE x]:=by unfold yE1;rw[Ax,h];simp
theorem yUk(h:m<=L.length):(yE1 L m).length=m:=by simp[yE1];omega
theorem yUl(h:L.length<=m):yE1 L m=L.map putE:=by unfold yE1;rw[Ag h]
structure PInv(w:Ww)(ov:Nat)(L:List Ent)(m g5 cp5:Nat)(wr:Ww):Prop where
 hdr:(xk wr ov 0 (xg g5 m cp5):Prop)
 free:wr.frozen? (xd ov 0)=false
 lt:ov<wr.heap.size
 Z:w.heap.size<ov
 j:OwnE wr w g5 cp5 (yE1 L m)
 ne:¬g5=ov
 new:w.heap.size<g5
 res:(xk wr w 0 xh:Prop)
 rfree:wr.frozen? (xd w 0)=false
 k:Below w w wr
theorem PInv.step{ov:Nat}{g5 cp5:Nat}{wr:Ww}(h:PInv w ov L m g5 cp5 wr)(hb:Below wr wr w'):PInv w ov L m g5 cp5 w' where
 hdr:=by rw[hb.cell (p:=(xd ov 0)) h.lt];exact h.hdr
 free:=by rw[hb.frozen (p:=(xd ov 0)) h.lt];exact h.free
 lt:=qv hb.size h.lt
 Z:=h.Z
 j:=h.j.k hb h.j.lt.2
 ne:=h.ne
 new:=h.new
 res:=by rw[hb.cell (p:=(xd w 0)) (by have:=h.Z;have:=h.lt;show w.heap.size<wr.heap.size;omega)];exact h.res
 rfree:=by rw[hb.frozen (p:=(xd w 0)) (by have:=h.Z;have:=h.lt;show w.heap.size<wr.heap.size;omega)];exact h.rfree
 k:=h.k.trans (hb.mono h.k.size)
theorem PInv.push(h:PInv w ov L m g5 cp5 wA)(hx:L[m]?=some x)(hO:OwnE w7 w g7 cp7 (yE1 L m++ [putE x]))(hgr:wA.grownBy w7 (some g5))(hgg:g5=g7\/g7=wA.heap.size):
  PInv w ov L (m+1) g7 cp7 (xt w7 ov 0 (xg g7 (m+1) cp7))/\xk w7 ov 0 (xg g5 m cp5)/\w7.frozen? (xd ov 0)=false:=by
 have a0:Chg (λk=>k=g5) wA w7:=Chg.M hgr (λk hk=>by cases hk;rfl);have a1:Chg (λk=>k=ov) w7 (xt w7 ov 0 (xg g7 (m+1) cp7)):=Chg.D _ _ _ _ rfl;have s7:=a0.size;have s8:=a1.size;have hl:=h.lt;have ho:=h.Z;have hn:=h.new;have c7:(xk w7 ov 0 (xg g5 m cp5):Prop):=by rw[a0.z (p:=(xd ov 0)) hl (λq=>h.ne q.symm)];exact h.hdr
 have f7:w7.frozen? (xd ov 0)=false:=by rw[a0.frozen (p:=(xd ov 0)) hl (λq=>h.ne q.symm)];exact h.free
 have a2:¬g7=ov:=by
  rcases hgg with q|q
  .rw[<-q];exact h.ne
  .omega
 refine⟨?_,c7,f7⟩
 exact {
  hdr:=AY _ _ _ c7
  free:=by rw[World.frozen?_setCell];exact f7
  lt:=qo
  Z:=ho
  j:=by
   rw[yQw hx]
   exact AW hO (yDj w7 ov 0 _) (.inr (λq=>a2 (AN q)))
  ne:=a2
  new:=by
   rcases hgg with q|q
   .rw[<-q];exact hn
   .omega
  res:=by
   rw[a1.z (p:=(xd w 0)) (by show w.heap.size<w7.heap.size;omega) (by show¬w.heap.size=ov;omega),a0.z (p:=(xd w 0)) (by show w.heap.size<wA.heap.size;omega) (by show¬w.heap.size=g5;omega)]
   exact h.res
  rfree:=by
   rw[a1.frozen (p:=(xd w 0)) (by show w.heap.size<w7.heap.size;omega) (by show¬w.heap.size=ov;omega),a0.frozen (p:=(xd w 0)) (by show w.heap.size<wA.heap.size;omega) (by show¬w.heap.size=g5;omega)]
   exact h.rfree
  k:=Chg.k (Chg.k h.k a0 h.k.size (λk q=>by omega)) a1 (by omega) (λk q=>by omega)}
theorem yWu(g cap:Nat)(L:List Ent)(O:Nat)(w:Ww)(hC:OwnC w O g cap L)(hn:L.length<=1048576):
  Calls prog 44 #[xg g L.length cap] w λr w'=>
   ∃g' cp,r=.returned (.agg #[xg g' L.length cp])/\OwnE w' w g' cp (L.map putE)/\Below w w w':=by
 have HC:=qH1 hC;have ac:=hC.lt.2;have⟨Wa,a2⟩:=qW (xw w #[xh] 89);have af:=qN a2
 have a9:=qS a2
 have⟨Wb,a3⟩:=qW (xw Wa #[] 165);have ae:=qN a3
 have a6:Wb.heap.size=w.heap.size+1+1:=by rw[a3];simp[a9]
 have⟨Wc,a1⟩:=qW (xw Wb #[xg (w+1) 0 0] 89);have a7:=qN a1
 have ar:Wc.heap.size=w.heap.size+1+1+1:=by rw[a1];simp[a6]
 have HP:Hid (PInv w (w+1+1) L 0 (w+1) 0 Wc):=by
  have k1:=ae.trans (a7.mono qo)
  exact {
   hdr:=by rw[a1,<-a6];simp
   free:=by
    rw[a1,<-a6]
    exact AT (AM (base:=0) (e:=89) (size:=1) Wb #[xg (w+1) 0 0] 1 (AL _) qj rfl) 0
   lt:=qo
   Z:=qo
   j:=by
    have h0:OwnE Wb w (w+1) 0 []:=by
     rw[a3,<-a9]
     exact Ab Wa #[] 0 qo (AL _) (by simp)
    exact h0.k a7 qo
   ne:=qo
   new:=qo
   res:=by rw[k1.cell (p:=(xd w 0)) (by show w.heap.size<Wa.heap.size;omega),a2];simp
   rfree:=by
    rw[k1.frozen (p:=(xd w 0)) (by show w.heap.size<Wa.heap.size;omega),a2]
    exact AT (AM (base:=0) (e:=89) (size:=1) w #[xh] 1 (AL _) qj rfl) 0
   k:=af.trans (k1.mono qo)}
 go_enter func44,ntmps44;go_wp2;rw[<-a2,<-a3,<-a1];generalize w.heap.size+1+1=ov at*;generalize w.heap.size+1=g0 at*;go_loopw[4] (λi wr=>∃(m g5 cp5:Nat),m<=L.length/\i=(xi m)/\PInv w ov L m g5 cp5 wr) (λi _=>L.length-(intOf i).toNat);case atStart=>exact⟨0,_,_,AL _,rfl,HP.out⟩
 case round=>
  obtain⟨m,g5,cp5,hm,rfl,hI⟩:=hrel;have HI:=qH1 hI;have a5:=hI.k;have ai:=a5.size;have h0:=hI.hdr;have aw:=hI.free;have al:=hI.j.lt.2;have ak:=hI.lt;by_cases hlt:m<L.length
  .obtain⟨x,hx⟩:∃x,L[m]?=some x:=qg hlt;have⟨c0,c1,c2,c3,c4⟩:=(HC.k a5 ac).at m x hx;simp only[Ai,Nat.zero_mul]at c0 c1 c2 c3 c4;have HX:=qH2 hx ((HC.k a5 ac).at);have ah:Hid (m=(yE1 L m).length):=(yUk hm).symm;have aj:(yE1 L m).length<=2^30:=by rw[<-ah.out];omega
   have zm:(m:Int)<(L.length:Int):=qo
   have ao:g≠ov:=qw HI.Z
   have av:g<wr.heap.size:=qo
   go_upto_region 5 with fail
   go_region_law ((first
        |(go_simp;go_at_call 97;apply (yQl x _).mono;rintro e' w6 ⟨rfl,am⟩;have a0:Below wr wr w6:=((Below.refl wr wr).drew).trans am;have m6:=(HI.step a0).hdr;have aq:∀o,(xk (w6.alloc o) ov 0 (xg g5 m cp5):Prop):=λo=>by {rw[((Below.refl w6 w6).alloc qr o).cell (p:=(xd ov 0)) (AD ak a0.size)];exact m6})
        |(refine stA (by rfl) (apK yNx (by rfl) w (yE1 L m) [putE x] (by rfl) (by rfl) ah.out rfl ?hO ?hc (lN aj) ?hb ?_)
          case hO=>exact(HI.step a0).j.k (qB) (AD al a0.size)
          case hc=>exact xA7 w6 (putE x)
          case hb=>exact Aj ai (Aj a0.size (by simp))
          intro g7 a8 w7 ag ab ad
          have a4:=((HI.step a0).step ((Below.refl w6 w6).alloc qr (AI #[(putE x).j,(putE x).E,(putE x).C,xu (putE x).ts,xi (putE x).f,(putE x).val] 165))).push HX.1 ag ab (ad.imp Eq.symm λq=>by simpa using q)
          have an:Hid (PInv w ov L (m+1) g7 a8 (xt w7 ov 0 (xg g7 (m+1) a8))):=a4.1
          have m7:=a4.2.1
          have f7:=a4.2.2
          clear a4 ag ab ad)))
   all_goals go_wp2
   all_goals go_roundw
   all_goals first
    |exact⟨m+1,g7,a8,qo,by go_num,an.out⟩
    |(go_light;simp[intOf];omega)
  .have aa:m=L.length:=qo
   have HF:Hid (OwnE wr w g5 cp5 (L.map putE)):=by have:=HI.j;rw[yUl qo]at this;exact this
   have r0:=HI.res;have rf:=HI.rfree;have HM:Hid (m=L.length):=aa;have zm:¬(m:Int)<(L.length:Int):=qo
   have au:=HI.new;clear aa;go_wp2;refine AB (v:=.agg #[xg g5 m cp5]) (by simp[results,results44,go_sem,AY _ _ _ r0]) rfl ⟨g5,cp5,by rw[HM.out],?_,?_⟩
   .exact AW HF.out (yDj wr w 0 _) (.inr (λq=>by have h2:g5=w.heap.size:=AN q;omega))
   .exact a5.setCell qr _
theorem yXb(h:(yAr p e != -1)=true):yCf p e=false:=by unfold yCf;simp at h;simp[h]
theorem yXa(h:(yAr p e != -1)=false)(h2:(p.f==2)=false):yCf p e=true:=by unfold yCf;simp at h;simp[h,h2]
theorem yX(h:(yAr p e != -1)=false)(h2:(e.f==2)=false):yCf p e=true:=by unfold yCf;simp at h;simp[h,h2]
theorem yTd(h:(yAr p e != -1)=false)(h2:(p.f==2)=true)(h3:(e.f==2)=true):yCf p e= !yEo p e:=by unfold yCf;simp at h;simp[h,h2,h3]
theorem yW2(p e:Ent):
  ((yAr p e != -1)=true/\yCf p e=false)\/((yAr p e != -1)=false/\(p.f==2)=false/\yCf p e=true)\/
  ((yAr p e != -1)=false/\(p.f==2)=true/\(e.f==2)=false/\yCf p e=true)\/
  ((yAr p e != -1)=false/\(p.f==2)=true/\(e.f==2)=true/\yEo p e=true/\yCf p e=false)\/
  ((yAr p e != -1)=false/\(p.f==2)=true/\(e.f==2)=true/\yEo p e=false/\yCf p e=true):=by
 cases h1:(yAr p e != -1)
 .cases h2:(p.f==2)
  .exact .inr (.inl ⟨rfl,rfl,yXa h1 h2⟩)
  .cases h3:(e.f==2)
   .exact .inr (.inr (.inl ⟨rfl,rfl,rfl,yX h1 h3⟩))
   .cases h4:yEo p e
    .exact .inr (.inr (.inr (.inr ⟨rfl,rfl,rfl,rfl,by rw[yTd h1 h2 h3,h4];rfl⟩)))
    .exact .inr (.inr (.inr (.inl ⟨rfl,rfl,rfl,rfl,by rw[yTd h1 h2 h3,h4];rfl⟩)))
 .exact .inl ⟨rfl,yXb h1⟩
theorem yHp(b off cap:Nat)(es:List Ent)(w:Ww)(hE:yBu w b off es)(hok:∀e∈es,e.ok)(hB:b<w.heap.size)(hlen:es.length<=cap)(hcap:cap<=maxLen):
  Calls prog 43 #[.agg #[(xy b off es.length cap)]] w λe w'=>
   ∃r:Bool,e=.returned r/\(r=true↔yC6 es)/\Below w w w':=by
 have⟨W0,a1⟩:=qW (xw w #[(xy b off es.length cap)] 89);have a0:=qN a1
 have ab:w.heap.size<W0.heap.size:=by rw[a1];simp
 have ca:(xk W0 w 0 (xy b off es.length cap):Prop):=by rw[a1];simp
 have HE:=qH1 (hE.k a0 hB);have HO:=qH1 hok;unfold maxLen at hcap;by_cases hbig:10000<es.length
 .have H:Hid (¬yC6 es):=λh=>qw h.1.1
  go_enter func43,ntmps43;go_wp2;go_ret;exact⟨_,rfl,iffF H.out,qB⟩
 go_enter func43,ntmps43;go_wp2;rw[<-a1];go_loopw[3] (λi wr=>∃(k:Nat),k<=es.length/\i=(xi k)/\(∀x∈es.take k,x.vld=true)/\yKl es k/\Below W0 W0 wr) (λi _=>es.length-(intOf i).toNat);case atStart=>exact⟨0,AL _,rfl,by simp,λi p e hi=>qo,Below.refl _ _⟩
 case round=>
  obtain⟨k,hk,rfl,hv,hP,hb⟩:=hrel;have HV:=qH2 hv hP;have ac:=hb.size;have a8:(xk wr w 0 (xy b off es.length cap):Prop):=by rw[hb.cell (p:=(xd w 0)) (by show w.heap.size<_;omega)];exact ca
  by_cases hlt:k<es.length
  .obtain⟨e,he⟩:∃e,es[k]?=some e:=qg hlt;have a6:=HE.k hb qo;have⟨c0,c1,c2,c3,c4,c5⟩:=a6 k e he;have HK:=qH3 (HO.out e (AS he)) he a6;go_wp2_with fail;apply (yGa e.j e.E e.C e.val e.ts e.f _ HK.1.j HK.1.E HK.1.C HK.1.val).mono;rintro e' w1 ⟨rfl,a2⟩;obtain⟨ag,ae⟩:=yVr a2;have aa:wr.heap.size<w1.heap.size:=by have:=a2.size;simp at this;omega
   have hb2:=(hb.alloc hb.size (AI #[e.j,e.E,e.C,xu e.ts,xi e.f,e.val] 165)).trans (a2.mono (by simp;omega));clear c0 c1 c2 c3 c4 c5;cases hv:vE e.j e.E e.C e.f e.val
   .have H:Hid (¬yC6 es):=λh=>by have:=h.1.2 e (AS HK.2.1);unfold Ent.vld at this;rw[hv]at this;cases this
    go_wp2;go_ret;exact⟨_,rfl,iffF H.out,a0.trans (hb2.mono qo)⟩
   .have H:=qH1 (yQf HV.1 HK.2.1 hv);by_cases hk0:k=0
    .subst hk0;refine zY ?_;exact⟨0+1,qo,by go_num,H.out,λi p e hi=>qo,hb2⟩
    .obtain⟨m,rfl⟩:∃m,k=m+1:=⟨k-1,qo⟩;obtain⟨p,hp⟩:∃e,es[m]?=some e:=qg qo;have a7:=((Below.refl _ _).alloc qr (AI #[e.j,e.E,e.C,xu e.ts,xi e.f,e.val] 165)).trans (a2.mono (by simp));have ah:(xk w1 w 0 (xy b off es.length cap):Prop):=by rw[a7.cell (p:=(xd w 0)) (by show w.heap.size<_;omega)];exact a8
     obtain⟨d0,d1,d2,d3,d4,d5⟩:=HK.2.2.k a7 qo m p hp;have HKp:=qH1 hp;clear hp;have hw:IntKind.i64.wrap (m:Int)=(m:Int):=Go.IntWalk.i64_in _ qo;go_wp2_with fail;refine(yDg p e _).mono ?_;rintro e' w2 ⟨rfl,a5⟩;obtain⟨af,ad⟩:=yVr a5;have a9:w1.heap.size<w2.heap.size:=by have:=a5.size;simp at this;omega
     have hb4:=(hb2.alloc hb2.size (AI #[p.j,p.E,p.C,xu p.ts,xi p.f,p.val] 165)).trans (a5.mono (by have:=hb2.size;simp;omega));clear d0 d1 d2 d3 d4 d5;rcases yW2 p e with⟨g1,ho⟩|⟨g1,g2,ho⟩|⟨g1,g2,g3,ho⟩|⟨g1,g2,g3,g4,ho⟩|⟨g1,g2,g3,g4,ho⟩
     .have H2:Hid (¬yC6 es):=λh=>by have:=h.2 m p e HKp.out HK.2.1;rw[ho]at this;cases this
      go_wp2;go_ret;exact⟨_,rfl,iffF H2.out,a0.trans (hb4.mono qo)⟩
     .exact xF5
     .exact xF5
     .have H2:Hid (¬yC6 es):=λh=>by have:=h.2 m p e HKp.out HK.2.1;rw[ho]at this;cases this
      go_wp2_with fail;refine(yDy p e _).mono ?_;rintro e' w3 ⟨rfl,a4⟩;have a3:=hb4.trans (a4.mono hb4.size);go_wp2;go_ret;exact⟨_,rfl,iffF H2.out,a0.trans (a3.mono qo)⟩
     .have H2:=qH1 (yIb HV.2 HKp.out HK.2.1 ho);go_wp2_with fail;refine(yDy p e _).mono ?_;rintro e' w3 ⟨rfl,a4⟩;have a3:=hb4.trans (a4.mono hb4.size);refine zY ?_;exact⟨m+1+1,qo,by go_num,H.out,H2.out,a3⟩
  .go_wp2;go_ret;refine⟨_,rfl,iffT ⟨⟨qo,λe he=>?_⟩,yQz HV.2 qo⟩,a0.trans (hb.mono qo)⟩;have:=HV.1;rw[Ag qo]at this;exact this e he
theorem xDr(h:e.ok):(putE e).ok:=⟨h.j,h.E,h.C,h.val,h.ts,(show(Lit.int .i64 0).wf=true by decide)⟩
theorem yUr a b:yCf (putE a) (putE b)=(yAr (putE a) (putE b)== -1):=by unfold yCf putE;simp
theorem yKc(a b:Ent)(w:Ww):
  (xf 100 #[a.c,b.c] w (xi (yAr (putE a) (putE b))):Prop):=by
 unfold Ent.c;have⟨W0,a5⟩:=qW (xw (w.alloc (AI #[a.j,a.E,a.C,xu a.ts,a.val] 70)) #[b.j,b.E,b.C,xu b.ts,b.val] 70);have a6:=a5▸((qB).alloc (by simp) _)
 have a7:W0.heap.size=w+2:=by rw[a5];simp
 have HA:Hid (yA6 W0 w 0 [a]/\yA6 W0 (w+1) 0 [b]):=by rw[a5];refine⟨(yNq w a).k (qB) (by simp),?_⟩;have:=yNq (xw w #[a.j,a.E,a.C,xu a.ts,a.val] 70) b;simpa using this
 have q:∀n:Out W0,yA6 n.u w 0 [a]/\yA6 n.u (w+1) 0 [b]:=λn=>⟨HA.1.k n.out qo,HA.2.k n.out qo⟩;have a0:∀n:Out W0,(xk n.u w 0 a.j:Prop):=λn=>by simpa using ((q n).1 0 a rfl).1
 have a1:∀n:Out W0,(xk n.u w 1 a.E:Prop):=λn=>by simpa using ((q n).1 0 a rfl).2.1
 have a2:∀n:Out W0,(xk n.u w 2 a.C:Prop):=λn=>by simpa using ((q n).1 0 a rfl).2.2.1
 have a3:∀n:Out W0,(xk n.u w 3 (xu a.ts):Prop):=λn=>by simpa using ((q n).1 0 a rfl).2.2.2.1
 have a4:∀n:Out W0,(xk n.u w 4 a.val:Prop):=λn=>by simpa using ((q n).1 0 a rfl).2.2.2.2
 have b0:∀n:Out W0,(xk n.u (w+1) 0 b.j:Prop):=λn=>by simpa using ((q n).2 0 b rfl).1
 have b1:∀n:Out W0,(xk n.u (w+1) 1 b.E:Prop):=λn=>by simpa using ((q n).2 0 b rfl).2.1
 have b2:∀n:Out W0,(xk n.u (w+1) 2 b.C:Prop):=λn=>by simpa using ((q n).2 0 b rfl).2.2.1
 have b3:∀n:Out W0,(xk n.u (w+1) 3 (xu b.ts):Prop):=λn=>by simpa using ((q n).2 0 b rfl).2.2.2.1
 have b4:∀n:Out W0,(xk n.u (w+1) 4 b.val:Prop):=λn=>by simpa using ((q n).2 0 b rfl).2.2.2.2
 go_enter func100,ntmps100;go_upto_region 1 with fail;rw[<-a5];have a9:Nonempty (Out W0):=⟨⟨W0,Below.refl _ _⟩⟩;apply yAv qk qk;repeat (go_big_quiet_step ((first|(go_at_call 99;exact Calls.out_of (yCv _ _))|(go_at_call 148;exact Calls.out_of (yR3 (putE a) (putE b) _)))))
 apply Ad;rintro w1 ⟨⟨wx,a8⟩,rfl⟩;go_wp2;go_ret;exact⟨rfl,a6.trans (a8.mono a6.size)⟩
def yKi(P:Prop)(w:Ww)(e:Ar)(w':Ww):Prop:=∃r:Bool,e=.returned r/\(r=true↔P)/\Below w w w'
theorem yPf{i:Nat}{c:Ent}(h:yC6 (L.map putE))(hp:L[i]?=some p)(hc:L[i+1]?=some c):yAr (putE p) (putE c)= -1:=by have h1:=h.2 i (putE p) (putE c) (by rw[Ay,hp];rfl) (by rw[Ay,hc];rfl);rw[yUr]at h1;simpa using h1
theorem yKz(g cap:Nat)(L:List Ent)(O:Nat) w (hC:OwnC w O g cap L) (hok:∀e∈L,e.ok) (hG:yC6 (L.map putE)):(xf 45 #[xg g L.length cap] w true:Prop):=by
 have HC:=qH3 hC hok hG;have ai:=hC.lt.2;have hl:=hG.1.1;rw[AU]at hl;clear hC hok hG;have z:=qo
 go_enter func45,ntmps45;go_wp2;go_loopw[10] (λiv wr=>∃(k:Nat),k<=L.length/\iv=(xi k)/\Below w w wr) (λiv _=>L.length-(intOf iv).toNat);case atStart=>exact⟨0,AL _,rfl,Below.refl _ _⟩
 case round=>
  obtain⟨k,hk,rfl,hb⟩:=hrel;have hs:=hb.size;by_cases hlt:k<L.length
  .obtain⟨c,hc⟩:∃c,L[k]?=some c:=qg hlt;have a5:=qH2 hc (HC.2.1 c (AS hc));have HR:=qH1 (HC.1.at.k hb ai);have⟨c0,c1,c2,c3,c4⟩:=HR k c hc;simp only[Ai]at c0 c1 c2 c3 c4;have zk:=qo
   have⟨W1,a6⟩:=qW (xw wr #[c.j,c.E,c.C,xu c.ts,c.val] 70);have HW1:Hid (yA6 W1 wr 0 [c]/\yA6 W1 g 0 L/\Below w w W1/\W1.heap.size=wr+1):=by
    have ab:=qN a6
    refine⟨by rw[a6];exact yNq wr c,HR.k ab qo,hb.trans (ab.mono hs),by rw[a6];simp⟩
   go_upto_region 6 with fail;rw[<-a6];clear a6 c0 c1 c2 c3 c4 HR;have ag:=HW1.2.2.2;have q:∀n:Out W1,yA6 n.u wr 0 [c]:=λn=>HW1.1.k n.out qo;have a0:∀n:Out W1,(xk n.u wr 0 c.j:Prop):=λn=>by simpa using ((q n) 0 c rfl).1
   have a1:∀n:Out W1,(xk n.u wr 1 c.E:Prop):=λn=>by simpa using ((q n) 0 c rfl).2.1
   have a2:∀n:Out W1,(xk n.u wr 2 c.C:Prop):=λn=>by simpa using ((q n) 0 c rfl).2.2.1
   have a3:∀n:Out W1,(xk n.u wr 3 (xu c.ts):Prop):=λn=>by simpa using ((q n) 0 c rfl).2.2.2.1
   have a4:∀n:Out W1,(xk n.u wr 4 c.val:Prop):=λn=>by simpa using ((q n) 0 c rfl).2.2.2.2
   have al:Nonempty (Out W1):=⟨⟨W1,Below.refl _ _⟩⟩;have a7:Hid (∀n:Out W1,(xf 98 #[(putE c).v] n.u true:Prop)):=λn=>HC.2.2.1.2 _ (Ah.2 ⟨c,AS a5.1,rfl⟩)▸(yKx _ _ _ _ _ _ n.u a5.2.j a5.2.E a5.2.C a5.2.val)
   by_cases hk0:k=0
   .subst hk0;apply yAv qk qk;repeat (go_big_quiet_step ((first|(go_at_call 99;exact Calls.out_of (yCv _ _))|(go_at_call 98;exact Calls.out_of (a7 _)))))
    apply Ad;rintro w2 ⟨⟨wx,hb2⟩,rfl⟩;refine zY ?_;exact⟨1,qo,by go_num,HW1.2.2.1.trans (hb2.mono HW1.2.2.1.size)⟩
   obtain⟨m,rfl⟩:∃m,k=m+1:=⟨k-1,qo⟩;obtain⟨p,hp⟩:∃p,L[m]?=some p:=qg qo;have ad:=qH1 hp;have q:∀n:Out W1,yA6 n.u g 0 L:=λn=>HW1.2.1.k n.out (qw HW1.2.2.2);have p0:∀n:Out W1,(xk n.u g (m*5) p.j:Prop):=λn=>by simpa using ((q n) m p hp).1
   have p1:∀n:Out W1,(xk n.u g (m*5+1) p.E:Prop):=λn=>by simpa using ((q n) m p hp).2.1
   have p2:∀n:Out W1,(xk n.u g (m*5+2) p.C:Prop):=λn=>by simpa using ((q n) m p hp).2.2.1
   have p3:∀n:Out W1,(xk n.u g (m*5+3) (xu p.ts):Prop):=λn=>by simpa using ((q n) m p hp).2.2.2.1
   have p4:∀n:Out W1,(xk n.u g (m*5+4) p.val:Prop):=λn=>by simpa using ((q n) m p hp).2.2.2.2
   clear q hp;have⟨kc,a8⟩:=qE (yAr (putE p) (putE c));have ae:Hid (∀n:Out W1,(xf 100 #[p.c,c.c] n.u (xi kc):Prop)):=λn=>a8▸(yKc p c n.u)
   have hneg:¬0<=kc:=by rw[a8,yPf HC.2.2 ad a5.1];decide
   have zm:=qo
   have ak:=qo
   clear a8
   apply yAv qk qk;repeat (go_big_quiet_step ((first|(go_at_call 99;exact Calls.out_of (yCv _ _))|(go_at_call 98;exact Calls.out_of (a7 _))|(go_at_call 100;exact Calls.out_of (ae _)))))
   apply Ad;rintro w2 ⟨⟨wx,hb2⟩,rfl⟩;refine zY ?_;exact⟨m+1+1,qo,by go_num,HW1.2.2.1.trans (hb2.mono HW1.2.2.1.size)⟩
  .have zk:=qo
   go_wp2;go_ret;exact⟨rfl,hb⟩
theorem yGb(g cap:Nat)(L:List Ent)(O:Nat) w (hC:OwnC w O g cap L) (hok:∀e∈L,e.ok) (hn:L.length<=1048576):
  Calls prog 9 #[xg g L.length cap] w (yKi (yC6 (L.map putE)) w):=by
 have HC:Hid (OwnC w O g cap L/\∀e∈L,e.ok):=⟨hC,hok⟩;go_enter func9,ntmps9;go_wp2_with fail;apply (yWu g cap L O w HC.1 hn).mono;rintro e w1 ⟨g1,a0,rfl,a1,a2⟩;have HO:Hid (OwnE w1 w g1 a0 (L.map putE)/\a0<=maxLen/\L.length<=a0):=by
  refine⟨a1,?_⟩;rcases a1.2 with⟨h0,_⟩|⟨g',a4,cur,hv,_,_,hn,a3,_,_⟩
  .cases h0
  .simp only[Value.slice.injEq,As,Addr.mk.injEq,and_true,true_and]at hv;obtain⟨rfl,rfl⟩:=hv;rw[AU]at hn;exact⟨a3,hn⟩
 have hl:L.length=(L.map putE).length:=(AU ..).symm;have HV:Hid (Calls prog 43 #[.agg #[xg g1 L.length a0]] w1 λe w'=>∃r:Bool,e=.returned r/\(r=true↔yC6 (L.map putE))/\Below w1 w1 w'):=by show Calls _ _ _ _ _;have:=yHp g1 0 a0 (L.map putE) w1 HO.1.at (λe he=>by obtain⟨x,hx,rfl⟩:=Ah.1 he;exact xDr (HC.2 x hx)) HO.1.lt.2 (by rw[AU];exact HO.2.2) HO.2.1;rw[AU]at this;exact this
 clear a1 hl;go_wp2_with fail;apply HV.mono;rintro e w2 ⟨r,rfl,hr,hb2⟩;have HR:Hid (r=true↔yC6 (L.map putE)):=hr;clear hr;go_wp2;go_ret;exact⟨r,rfl,HR,a2.trans (hb2.mono a2.size)⟩
theorem yUs(h:yCf p e=true):yAr p e= -1:=by
 unfold yCf at h;simp only[Bool.and_eq_true,decide_eq_true_eq,Bool.not_eq_true',beq_iff_eq]at h
 first
  |exact h.1
  |exact h.2
  |(have h1:=h.1;have h2:=h.2;rcases yJx p e with q|q|q<;>simp_all)
theorem yLj:∀(l:List Ent),(∀i p e,l[i]?=some p->l[i+1]?=some e->yAr p e= -1)->Ord l
 | [],_=>List.Pairwise.nil
 | [a],_=>by simp[Ord]
 |a::b::r,h=>by
  have ih:=yLj (b::r) (λi p e h1 h2=>h (i+1) p e (by simpa using h1) (by simpa using h2))
  have hab:=h 0 a b rfl rfl
  refine Ac.2 ⟨λx hx=>?_,ih⟩
  rcases mem_cons.1 hx with rfl|hx
  .exact hab
  .exact yP hab ((Ac.1 ih).1 x hx)
theorem yQ0(h:yC6 es):Ord es:=yLj es (λi p e h1 h2=>yUs (h.2 i p e h1 h2))
end Go.Proofs.YtnnagkfoiganfaaGreatDoor
