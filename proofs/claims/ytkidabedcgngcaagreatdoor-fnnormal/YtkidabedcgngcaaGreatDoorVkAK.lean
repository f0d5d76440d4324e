import Derived.Test.YtkidabedcgngcaaGreatDoorVkAB
import Derived.Test.YtkidabedcgngcaaGreatDoorVkAA
import Derived.Test.YtkidabedcgngcaaGreatDoorVkAJ
import Derived.Test.YtkidabedcgngcaaGreatDoorVkAI
import Derived.Deep.RegionLaw
import Derived.Maps.AppendAt
import Derived.Test.YtkidabedcgngcaaGreatDoorVkAE
import Derived.Test.YtkidabedcgngcaaGreatDoorVkAF
import Derived.Deep.AppendLies
import Derived.Test.YtkidabedcgngcaaGreatDoorVkAD
import Derived.Deep.DeepCutAuto
import Derived.Deep.RegionWith
import Derived.Lib.AppendZeros
namespace Go.Proofs.YtkidabedcgngcaaGreatDoor
open Go.RowKit Go.ChangeShapes Go.WideShapes Go.ChangeAt Go.Deep Go.Shelf Go.Maps
set_option linter.unusedVariables false
set_option linter.unusedSimpArgs false
set_option maxRecDepth 100000
set_option maxHeartbeats 40000000
def FRow (w:World) (base g cp:Nat) (ps:List (Nat×Array Value)):Prop:=w.ownsRow base 58 1 (.slice (some ⟨g,0,none⟩) ps.length cp) ps.length (ps.map fvC)
variable {w:World} {base cp:Nat} {ps:List (Nat×Array Value)}
theorem FRow.lt {g:Nat} (h:FRow w base g cp ps):base≤g∧g<w.heap.size:=World.ownsRow.lt h g rfl
variable {S:Nat→Prop} {w':World}
theorem FRow.chg {g:Nat} (h:FRow w base g cp ps) (hc:Chg S w w') (hn:¬S g):FRow w' base g cp ps:=yAp h hc (fun k q=>by simp[Value.ownBlock]at q;subst q;exact hn)
variable {j:Nat}
theorem FRow.cell {g:Nat} (h:FRow w base g cp ps) {p:Nat×Array Value} (hp:ps[j]?=some p):w.cell? ⟨g,j,none⟩=some (fvC p):=by have:=World.ownsRow.cellAt h j (by have:=(List.getElem?_eq_some_iff.1 hp).1;omega);rw[this,List.getElem?_map,hp];rfl
theorem FRow.caps {g:Nat} (h:FRow w base g cp ps):ps.length≤cp∧cp≤maxLen:=by
 rcases h.2 with⟨h0,_⟩|⟨g',cap',cur,hv,_,_,hn,hcap,_,_⟩
 ·cases h0
 ·simp at hv;obtain⟨_,rfl⟩:=hv;exact⟨hn,hcap⟩
theorem FRow.take {g:Nat} (h:FRow w base g cp ps) {k:Nat} (hk:k≤ps.length):FRow w base g cp (ps.take k):=by
 obtain⟨h1,h2⟩:=h;rcases h2 with⟨h0,_⟩|⟨g',cap',cur,hv,ha,hb,hn,hcap,hd,he⟩
 ·cases h0
 ·simp only[Value.slice.injEq,Option.some.injEq,Addr.mk.injEq]at hv;obtain⟨⟨rfl,_⟩,_,rfl⟩:=hv;have hl:(ps.take k).length=k:=by rw[List.length_take];omega
  unfold FRow;rw[hl];refine⟨by simp;omega,.inr ⟨_,_,cur,rfl,ha,hb,by omega,hcap,hd,?_⟩⟩;rw[List.map_take,←he,List.take_take];congr 1;omega
theorem Tryz.infoFs:(Tryz.prog.info? 58).map (fun i=>(i.zero,i.size,i.bytes))=some (some .nilFunc,1,8):=by kernel_rfl
structure AppF (w w':World) (base g n cp:Nat) (ps qs:List (Nat×Array Value)) (g' cp':Nat):Prop where
 own:FRow w' base g' cp' (ps++qs)
 grown:w.grownBy w' (some g)
 at_:g'=g∨g'=w.heap.size
theorem yVn {v':Value} {g m:Nat} {qs:List (Nat×Array Value)} (hO':w'.ownsRow base 58 1 v' (ps.length+m) (ps.map fvC++qs.map fvC)) (hm:m=qs.length) (hgr:w.grownBy w' (some g)) (hnil:v'=.slice none 0 0↔(Value.slice (some ⟨g,0,none⟩) ps.length cp)=.slice none 0 0∧m=0) (hat:v'.ownBlock=some g∨v'.ownBlock=some w.heap.size):∃g' cp',v'=.slice (some ⟨g',0,none⟩) (ps.length+m) cp'∧AppF w w' base g ps.length cp ps qs g' cp':=by
 subst hm;rcases hO'.2 with⟨h0,_⟩|⟨g',cap',cur,hv,_,_,hn,hcap,_,_⟩
 ·have:=(hnil.1 h0).1;cases this
 ·subst hv;refine⟨g',cap',rfl,⟨?_,hgr,?_⟩⟩
  ·unfold FRow;rw[List.length_append,List.map_append];exact hO'
  ·simp[Value.ownBlock]at hat;exact hat
theorem one_fv (qs:List (Nat×Array Value)):∀u∈qs.map fvC,u.oneCell'=true:=by intro u hu;obtain⟨p,_,rfl⟩:=List.mem_map.1 hu;rfl
theorem yIo {ops:Array Oper} {rest:List Oper} {o:Oper} {a:Act} {Q:Exit→Act→World→Prop} (w:World) (hgd:o.guard=none) (s x:Operand)
  (ho:o.op=.call {callee:=.builtin .append,args:=#[s,x],argTypes:=#[105,105]})
  (base g cp n b off m cx:Nat) (ps qs:List (Nat×Array Value)) (hs:a.eval s=.slice (some ⟨g,0,none⟩) n cp) (hx:a.eval x=.slice (some ⟨b,off,none⟩) m cx) (hn:n=ps.length) (hm:m=qs.length) (hO:FRow w base g cp ps)
  (hc:∀j p,qs[j]?=some p→w.cell? ⟨b,off+j,none⟩=some (fvC p)) (hlen:ps.length+qs.length≤2^30) (hbase:base≤w.heap.size)
  (h:∀g' cp' w',AppF w w' base g n cp ps qs g' cp'→wpList Tryz.prog ops Q rest (a.put o.dst (.slice (some ⟨g',0,none⟩) (n+m) cp')) w'):wpList Tryz.prog ops Q (o::rest) a w:=by
 subst hn;obtain⟨i,hi,hz0,hz1,hz2⟩:=info_parts Tryz.infoFs;refine wpList_append_own_at w hgd s x 105 ho base 58 i _ 1 8 Tryz.underlying105 hi hz0 hz1 hz2 rfl (by decide) (.slice (some ⟨g,0,none⟩) ps.length cp) ps.length (ps.map fvC) hs hO ⟨b,off,none⟩ m cx (qs.map fvC) hx (by simp[hm]) (fun j u hu=>?_) (one_fv qs) ?_ ?_ hbase ?_
 ·rw[List.getElem?_map]at hu;rw[Addr.add_mid];cases hq:qs[j]? with
  |none=>rw[hq]at hu;cases hu
  |some p=>rw[hq]at hu;cases hu;exact hc j p hq
 ·unfold maxLen;omega
 ·omega
 ·intro v' w' hO' hgr hnil hat;obtain⟨g',cp',rfl,hA⟩:=yVn hO' hm hgr hnil hat;exact h g' cp' w' hA
structure Stps (lo g:Nat) (ps:List (Nat×Array Value)) (ts:List CT) (Rs:List (Nat→Prop)) (w:World):Prop where
 l1:ps.length=ts.length
 l2:ps.length=Rs.length
 step:∀(i:Nat) (p:Nat×Array Value) (t:CT) (R:Nat→Prop),ps[i]?=some p→ts[i]?=some t→Rs[i]?=some R→yA3 w t R (fvC p)
 bnd:∀(i:Nat) (R:Nat→Prop),Rs[i]?=some R→∀k,R k→lo≤k∧k<w.heap.size∧¬k=g
 disj:∀(i j:Nat) (R Q:Nat→Prop),Rs[i]?=some R→Rs[j]?=some Q→¬i=j→∀k,R k→¬Q k
variable {lo g':Nat} {ts:List CT} {Rs:List (Nat→Prop)}
theorem Stps.chg {g:Nat} (h:Stps lo g ps ts Rs w) (hc:Chg (fun k=>k=g) w w') (hV:¬1=g) (hg:g'=g∨w.heap.size≤g'):Stps lo g' ps ts Rs w':=by refine⟨h.l1,h.l2,fun i p t R h1 h2 h3=>(h.step i p t R h1 h2 h3).chg hc hV (fun k q z=>(h.bnd i R h3 k z).2.2 q),fun i R h1 k z=>?_,h.disj⟩;have h9:=h.bnd i R h1 k z;exact⟨h9.1,Nat.lt_of_lt_of_le h9.2.1 hc.size,by omega⟩
theorem Stps.below {g:Nat} (h:Stps lo g ps ts Rs w) (hb:Below w.heap.size w w'):Stps lo g ps ts Rs w':=by refine⟨h.l1,h.l2,fun i p t R h1 h2 h3=>(h.step i p t R h1 h2 h3).below hb,fun i R h1 k z=>?_,h.disj⟩;have h9:=h.bnd i R h1 k z;exact⟨h9.1,Nat.lt_of_lt_of_le h9.2.1 hb.size,h9.2.2⟩
variable {t:CT}
theorem Stps.push {g fr:Nat} {X:World} (h:Stps lo g ps ts Rs X) (hb:Below X.heap.size X w) (hfr:fr≤ps.length) (hlo:lo≤X.heap.size) (hg:g<X.heap.size) {f:Nat×Array Value} {R:Nat→Prop} (hS:yA3 w t R (fvC f)) (hR:∀k,R k→(∃(i:Nat) (Q:Nat→Prop),fr≤i∧Rs[i]?=some Q∧Q k)∨(X.heap.size≤k∧k<w.heap.size)):Stps lo g (ps.take fr++ [f]) (ts.take fr++ [t]) (Rs.take fr++ [R]) w:=by
 have hW:=h.below hb;have e1:=h.l1;have e2:=h.l2;have lp:(ps.take fr).length=fr:=by rw[List.length_take];omega
 have lt:(ts.take fr).length=fr:=by rw[List.length_take];omega
 have lr:(Rs.take fr).length=fr:=by rw[List.length_take];omega
 have bR:∀k,R k→lo≤k∧k<w.heap.size∧¬k=g:=fun k z=>by
  rcases hR k z with⟨i,Q,_,hQ,hk⟩|q
  ·exact hW.bnd i Q hQ k hk
  ·exact⟨by omega,q.2,by omega⟩
 have dR:∀(i:Nat) (Q:Nat→Prop),i<fr→Rs[i]?=some Q→∀k,R k→¬Q k:=fun i Q hi hQ k z y=>by
  rcases hR k z with⟨i',Q',hi',hQ',hk⟩|q
  ·exact h.disj i' i Q' Q hQ' hQ (by omega) k hk y
  ·have:=(h.bnd i Q hQ k y).2.1;omega
 refine⟨by simp only[List.length_append,lp,lt];rfl,by simp only[List.length_append,lp,lr];rfl,fun i p u Q h1 h2 h3=>?_,fun i Q h1 k z=>?_,fun i j A B h1 h2 hij k z y=>?_⟩
 ·by_cases hi:i<fr
  ·rw[List.getElem?_append_left (by omega),List.getElem?_take,if_pos hi]at h1 h2 h3;exact hW.step i p u Q h1 h2 h3
  ·by_cases hi2:i=fr
   ·subst hi2;rw[List.getElem?_append_right (by omega)]at h1 h2 h3;rw[lp,Nat.sub_self]at h1;rw[lt,Nat.sub_self]at h2;rw[lr,Nat.sub_self]at h3;cases h1;cases h2;cases h3
    exact hS
   ·rw[List.getElem?_eq_none (by rw[List.length_append,lp];simp;omega)]at h1;cases h1
 ·by_cases hi:i<fr
  ·rw[List.getElem?_append_left (by omega),List.getElem?_take,if_pos hi]at h1;exact hW.bnd i Q h1 k z
  ·by_cases hi2:i=fr
   ·subst hi2;rw[List.getElem?_append_right (by omega),lr,Nat.sub_self]at h1;cases h1
    exact bR k z
   ·rw[List.getElem?_eq_none (by rw[List.length_append,lr];simp;omega)]at h1;cases h1
 ·have gt:∀(i:Nat) (A:Nat→Prop),(Rs.take fr++ [R])[i]?=some A→(i<fr∧Rs[i]?=some A)∨(i=fr∧A=R):=fun i A h1=>by
   by_cases hi:i<fr
   ·rw[List.getElem?_append_left (by omega),List.getElem?_take,if_pos hi]at h1;exact .inl ⟨hi,h1⟩
   ·by_cases hi2:i=fr
    ·subst hi2;rw[List.getElem?_append_right (by omega),lr,Nat.sub_self]at h1;cases h1
     exact .inr ⟨rfl,rfl⟩
    ·rw[List.getElem?_eq_none (by rw[List.length_append,lr];simp;omega)]at h1;cases h1
  rcases gt i A h1 with⟨hi,hA⟩|⟨hi,rfl⟩
  ·rcases gt j B h2 with⟨hj,hB⟩|⟨hj,rfl⟩
   ·exact h.disj i j A B hA hB hij k z y
   ·exact dR i A hi hA k y z
  ·rcases gt j B h2 with⟨hj,hB⟩|⟨hj,rfl⟩
   ·exact dR j B hj hB k z y
   ·omega
theorem SoP.mono {Q Q':Nat→Prop} {e:Ending} (h:SoP t Q w e w') (hq:∀k,Q k→Q' k):SoP t Q' w e w':=by
 obtain⟨f,h1,H⟩:=h;obtain⟨R,h2,h3,h4⟩:=H.out;refine⟨f,h1,R,h2,fun k z=>?_,h4⟩;rcases h3 k z with q|q
 ·exact .inl (hq k q)
 ·exact .inr q
theorem yTl (e:Nd) (hg:yAe e) (b off cx m lo g:Nat) (ps:List (Nat×Array Value)) (ts:List CT) (Rs:List (Nat→Prop)) (X:World) (hT:TabD X) (h:Stps lo g ps ts Rs X) (hm:m=ps.length) (ha:ps.length=yAk e.kind) (hb:b<X.heap.size) (hc:∀(i:Nat) (p:Nat×Array Value),ps[i]?=some p→X.cell? ⟨b,off+i,none⟩=some (fvC p)):Calls Tryz.prog 31 #[e.v,.slice (some ⟨b,off,none⟩) m cx] X (SoP (ctV e ts) (fun k=>∃(i:Nat) (Q:Nat→Prop),Rs[i]?=some Q∧Q k) X):=by
 have e1:=h.l1;have e2:=h.l2;by_cases h14:e.kind=14
 ·have h2:yAk e.kind=2:=by unfold yAk;rw[if_pos (.inl h14)]
  rw[h2]at ha;match ps,ts,Rs,ha,e1,e2,h,hm,hc with
  | [fa,fb],[ta,tb],[A,B],_,_,_,h,hm,hc=>
    subst hm;have ev:ctV e [ta,tb]=.chain e ta tb:=if_pos h14;rw[ev];refine(yTk e h14 b off cx fa fb ta tb A B X (hc 0 fa rfl) (hc 1 fb rfl) hb (h.step 0 fa ta A rfl rfl rfl) (h.step 1 fb tb B rfl rfl rfl) (h.disj 0 1 A B rfl rfl (by omega)) (fun k z=>(h.bnd 0 A rfl k z).2.1) (fun k z=>(h.bnd 1 B rfl k z).2.1)).mono fun r w' hr=>hr.mono fun k z=>?_;rcases z with z|z
    ·exact⟨0,A,rfl,z⟩
    ·exact⟨1,B,rfl,z⟩
 ·by_cases h15:e.kind=15
  ·have h2:yAk e.kind=2:=by unfold yAk;rw[if_pos (.inr h15)]
   rw[h2]at ha;match ps,ts,Rs,ha,e1,e2,h,hm,hc with
   | [fa,fb],[ta,tb],[A,B],_,_,_,h,hm,hc=>
     subst hm;have ev:ctV e [ta,tb]=.inter e ta tb:=if_neg h14;rw[ev];refine(yTj e h15 b off cx fa fb ta tb A B X (hc 0 fa rfl) (hc 1 fb rfl) hb (h.step 0 fa ta A rfl rfl rfl) (h.step 1 fb tb B rfl rfl rfl) (h.disj 0 1 A B rfl rfl (by omega)) (fun k z=>(h.bnd 0 A rfl k z).2.1) (fun k z=>(h.bnd 1 B rfl k z).2.1)).mono fun r w' hr=>hr.mono fun k z=>?_;rcases z with z|z
     ·exact⟨0,A,rfl,z⟩
     ·exact⟨1,B,rfl,z⟩
  ·by_cases h16:e.kind=16
   ·have h2:yAk e.kind=3:=by unfold yAk;rw[if_neg (by omega),if_pos h16]
    rw[h2]at ha;match ps,ts,Rs,ha,e1,e2,h,hm,hc with
    | [fp,fa,fb],[tp,ta,tb],[P,A,B],_,_,_,h,hm,hc=>
      subst hm;refine(yWe e h16 b off cx fp fa fb tp ta tb P A B X (hc 0 fp rfl) (hc 1 fa rfl) (hc 2 fb rfl) hb (h.step 0 fp tp P rfl rfl rfl) (h.step 1 fa ta A rfl rfl rfl) (h.step 2 fb tb B rfl rfl rfl) (h.disj 0 1 P A rfl rfl (by omega)) (h.disj 0 2 P B rfl rfl (by omega)) (h.disj 1 2 A B rfl rfl (by omega)) (fun k z=>(h.bnd 0 P rfl k z).2.1) (fun k z=>(h.bnd 1 A rfl k z).2.1) (fun k z=>(h.bnd 2 B rfl k z).2.1)).mono fun r w' hr=>hr.mono fun k z=>?_;rcases z with z|z|z
      ·exact⟨0,P,rfl,z⟩
      ·exact⟨1,A,rfl,z⟩
      ·exact⟨2,B,rfl,z⟩
   ·have h2:yAk e.kind=0:=by unfold yAk;rw[if_neg (by omega),if_neg h16]
    rw[h2]at ha;match ps,ts,Rs,ha,e1,e2,hm with
    | [],[],[],_,_,_,hm=>
      exact(yWd e hg h2 b off cx m X hT).mono fun r w' hr=>hr.mono fun k z=>z.elim
structure FsJ (w:World) (xs:List Nd) (j g cp:Nat) (ps:List (Nat×Array Value)) (ts:List CT) (Rs:List (Nat→Prop)) (wr:World):Prop where
 fold:yB3 ctV [] (xs.take j)=some ts
 own:FRow wr w.heap.size g cp ps
 stp:Stps w.heap.size g ps ts Rs wr
 tab:TabD w
 below:Below w.heap.size w wr
variable {xs:List Nd} {wr:World}
theorem FsJ.move {g:Nat} (h:FsJ w xs j g cp ps ts Rs wr) (hb:Below wr.heap.size wr w'):FsJ w xs j g cp ps ts Rs w':=
 ⟨h.fold,h.own.chg (S:=fun _=>False) (Chg.of_below hb) (fun q=>q),h.stp.below hb,h.tab,h.below.trans (hb.mono h.below.size)⟩
theorem FsJ.tabD {g:Nat} (h:FsJ w xs j g cp ps ts Rs wr):TabD wr:=h.tab.chg (S:=fun _=>False) (Chg.of_below h.below) (fun q=>q)
def yVw (t:CT) (w:World) (r:Ending) (w':World):Prop:=∃(p:Nat×Array Value),r=.returned (.tuple #[fvC p,.bool true])∧Hid (∃R:Nat→Prop,yA3 w' t R (fvC p)∧(∀k,R k→w.heap.size≤k∧k<w'.heap.size)∧Below w.heap.size w w')
theorem yMr {gN cpN:Nat} (h:yAy w gN 0 xs) (hg:gN<w.heap.size) (hT:yCj xs t) (hl:xs.length≤200) (hG:∀e∈xs,yAe e) (hTb:TabD w):
  Calls Tryz.prog 30 #[.slice (some ⟨gN,0,none⟩) xs.length cpN,.func (Fn.func 31) #[] #[]] w (yVw t w):=by
 have hF:yB3 ctV [] xs=some [t]:=by have h9:=TrV.fold _ hT [];simpa using h9
 have HF:Hid (yAy w gN 0 xs∧yB3 ctV [] xs=some [t]∧xs.length≤200∧(∀e∈xs,yAe e)):=⟨h,hF,hl,hG⟩;have HTb:Hid (TabD w):=hTb;obtain⟨n,hn⟩:=qE xs.length;have HL:Hid (n=xs.length):=hn;rw[←hn]at hl⊢;clear h hF hT hn hG hTb;obtain⟨W0,hW0⟩:=qE (w.alloc (Obj.cells #[] 58):World);have HW0:Hid (FsJ w xs 0 w.heap.size 0 [] [] [] W0):=by rw[hW0];exact⟨rfl,World.ownsRow_lit w #[] 0 (Nat.le_refl _) (by decide) (by decide),⟨rfl,rfl,fun i p t R h1=>by simp at h1,fun i R h1=>by simp at h1,fun i j R Q h1=>by simp at h1⟩,HTb.out,qB⟩
 go_enter Tryz.func30,Tryz.ntmps30;go_upto_region 2 with fail;rw[←hW0];clear hW0;go_wp2_with fail;go_loopw[4,6,14] (fun wv sv iv wr=>∃(j m g cp:Nat) (ps:List (Nat×Array Value)) (ts:List CT) (Rs:List (Nat→Prop)),wv=.nilFunc∧iv=.int .i64 (j:Int)∧j≤n∧m=ps.length∧m≤j∧m≤cp∧sv=.slice (some ⟨g,0,none⟩) m cp∧FsJ w xs j g cp ps ts Rs wr) (fun _ _ iv _=>n-(intOf iv).toNat);case atStart=>exact⟨0,0,_,0,[],[],[],rfl,rfl,Nat.zero_le _,rfl,Nat.le_refl _,Nat.zero_le _,rfl,HW0.out⟩
 case round=>
  obtain⟨j,m,g,cp,ps,ts,Rs,rfl,rfl,hj,hm,hmj,hmc,rfl,hJ⟩:=hrel;have HJ:Hid (m=ps.length∧FsJ w xs j g cp ps ts Rs wr):=⟨hm,hJ⟩;have hgl:=hJ.own.lt;have hcp:cp≤9223372036854775807:=by have:=hJ.own.caps.2;unfold maxLen at this;omega
  have hsz:=hJ.below.size;clear hm hJ HW0;by_cases hlt:j<n
  ·have zj:(j:Int)<(n:Int):=by omega
   obtain⟨e,he⟩:∃e,xs[j]?=some e:=⟨_,List.getElem?_eq_getElem (by have:=HL.out;omega)⟩;obtain⟨d0,d1,d2,d3,d4,d5,d6⟩:=(HF.1.below HJ.2.below hg) j e he;simp only[Nat.zero_add]at d0 d1 d2 d3 d4 d5 d6;have HE:Hid (xs[j]?=some e):=he;clear he;obtain⟨W1,hW1⟩:=qE (wr.alloc (Obj.cells #[.int .i64 e.kind,.string e.s,.bool e.hi,.string e.t,.int .u64 e.lo,.int .u64 e.up,.int .i64 e.n] 75):World);have hb1:Below wr.heap.size wr W1:=by rw[hW1];exact qB
   have hz1:wr.heap.size<W1.heap.size:=by rw[hW1];simp
   have HJ1:Hid (m=ps.length∧FsJ w xs j g cp ps ts Rs W1∧yA W1 w.heap.size 75 7 wr.heap.size [.int .i64 e.kind,.string e.s,.bool e.hi,.string e.t,.int .u64 e.lo,.int .u64 e.up,.int .i64 e.n]):=by refine⟨HJ.1,HJ.2.move hb1,?_⟩;rw[hW1];exact yAa wr _ hsz rfl
   go_upto_region 5 with fail;rw[←hW1];clear hW1 d0 d1 d2 d3 d4 d5 d6 HJ hb1;obtain⟨c0,c1,c2,c3,c4,c5,c6⟩:=HJ1.2.2.c7;obtain⟨a,ha⟩:=qE (yAk e.kind);have ha3:a≤3:=by rw[ha];exact yF5 _
   have HAr:Hid (Calls Tryz.prog 61 #[.int .i64 e.kind] W1 fun r w'=>r=.returned (.int .i64 (a:Int))∧w'=W1):=by rw[ha];exact yCx e.kind W1
   have HAk:Hid (a=yAk e.kind):=ha;clear ha;go_wp2_with fail;refine HAr.mono ?_;rintro r w9 ⟨rfl,hw9⟩;rw[hw9];clear hw9 HAr;have hfr:¬m<a:=fun q=>by have h1:=ySp ctV HJ1.2.1.fold HE.out (by rw[←HJ1.2.1.stp.l1,←HJ1.1,←HAk.out];exact q);rw[HF.2.1]at h1;cases h1
   obtain⟨fr,hfrm⟩:∃fr:Nat,(m:Int)-(a:Int)=(fr:Int):=⟨m-a,by omega⟩;have hfrle:fr≤m:=by omega
   have HFr:Hid (fr=ts.length-yAk e.kind∧yAk e.kind≤ts.length):=by have h1:=HJ1.1;have h2:=HAk.out;have h3:=HJ1.2.1.stp.l1;exact⟨by omega,by omega⟩
   have zf:¬(fr:Int)<0:=by omega
   have z2:(fr:Int)≤(m:Int):=by omega
   have z3:(m:Int)≤(cp:Int):=by omega
   have HY:Hid (yB3 ctV [] (xs.take (j+1))=some (ts.take fr++ [ctV e (ts.drop fr)])):=by show _=_;rw[HFr.1];exact ySq ctV HJ1.2.1.fold HE.out HFr.2
   obtain⟨ad,had⟩:∃ad:Option Addr,(if cp=fr then some (⟨g,0,none⟩:Addr)else some ⟨g,fr,none⟩)=ad:=⟨_,rfl⟩;have HSh:Hid (∀X,Below W1.heap.size W1 X→Calls Tryz.prog 31 #[.agg #[.int .i64 e.kind,.string e.s,.bool e.hi,.string e.t,.int .u64 e.lo,.int .u64 e.up,.int .i64 e.n],.slice ad (m-fr) (cp-fr)] X (SoP (ctV e (ts.drop fr)) (fun k=>∃(i:Nat) (Q:Nat→Prop),(Rs.drop fr)[i]?=some Q∧Q k) X)):=fun X hX=>by
    have hJX:=HJ1.2.1.move hX;have hlen:m-fr=(ps.drop fr).length:=by rw[List.length_drop,←HJ1.1]
    have hst:Stps w.heap.size g (ps.drop fr) (ts.drop fr) (Rs.drop fr) X:=by
     have s:=hJX.stp;have e1:=s.l1;have e2:=s.l2;refine⟨by simp only[List.length_drop];omega,by simp only[List.length_drop];omega,fun i p t R h1 h2 h3=>?_,fun i R h1 k z=>?_,fun i j A B h1 h2 hij k z=>?_⟩
     ·rw[List.getElem?_drop]at h1 h2 h3;exact s.step _ p t R h1 h2 h3
     ·rw[List.getElem?_drop]at h1;exact s.bnd _ R h1 k z
     ·rw[List.getElem?_drop]at h1 h2;exact s.disj _ _ A B h1 h2 (by omega) k z
    have hge:yAe e:=HF.2.2.2 e (List.mem_of_getElem? HE.out);have har:(ps.drop fr).length=yAk e.kind:=by rw[List.length_drop];have h1:=HFr.out;have h3:=HJ1.2.1.stp.l1;omega
    rw[←had];by_cases hcf:cp=fr
    ·rw[if_pos hcf];have hnil:ps.drop fr= []:=List.length_eq_zero_iff.1 (by rw[←hlen];omega);exact yTl e hge g 0 (cp-fr) (m-fr) w.heap.size g (ps.drop fr) (ts.drop fr) (Rs.drop fr) X hJX.tabD hst hlen har hJX.own.lt.2 (by rw[hnil];intro i u hu;simp at hu)
    ·rw[if_neg hcf];exact yTl e hge g fr (cp-fr) (m-fr) w.heap.size g (ps.drop fr) (ts.drop fr) (Rs.drop fr) X hJX.tabD hst hlen har hJX.own.lt.2 (by intro i u hu;rw[List.getElem?_drop]at hu;exact hJX.own.cell hu)
   clear hfr;go_upto_region 8 with fail;go_cut[10] (fun sv wx=>∃(X:World) (p:Nat×Array Value),Hid (Below W1.heap.size W1 X∧Below X.heap.size X wx∧∃R:Nat→Prop,yA3 wx (ctV e (ts.drop fr)) R (fvC p)∧(∀k,R k→(∃(i:Nat) (Q:Nat→Prop),(Rs.drop fr)[i]?=some Q∧Q k)∨(X.heap.size≤k∧k<wx.heap.size)))∧sv=fvC p);case first=>
    go_region_law ((go_simp;go_at_call 31;refine(HSh.out _ ?hX).mono ?_;(case hX=>(repeat (first|exact Below.refl _ _|refine Below.drew ?_)));rintro r w' ⟨p7,rfl,H7⟩));all_goals go_wp2_with fail
    all_goals go_meet
    all_goals exact⟨_,p7,(by obtain⟨R,q1,q2,q3⟩:=H7.out;exact⟨(by(repeat (first|exact Below.refl _ _|refine Below.drew ?_))),q3,R,q1,q2⟩),rfl⟩
   case rest=>
   obtain⟨X,p,HK,rfl⟩:=hcut;obtain⟨w4,hw4⟩:=qE (wc:World);subst hw4;have hb14:Below W1.heap.size W1 w4:=HK.1.trans (HK.2.1.mono HK.1.size);have HK2:Hid (FsJ w xs j g cp ps ts Rs w4):=HJ1.2.1.move hb14;have hgl2:=HK2.own.lt;have hsz2:=HK2.below.size;have hfl:fr≤ps.length:=by rw[←HJ1.1];exact hfrle
   obtain⟨pk,pc⟩:=p;have HSeg:Hid (∃R,Stps w.heap.size g (ps.take fr++ [(pk,pc)]) (ts.take fr++ [ctV e (ts.drop fr)]) (Rs.take fr++ [R]) w4):=by
    have hJX:=HJ1.2.1.move HK.1;obtain⟨R,q1,q2⟩:=HK.2.2;refine⟨R,hJX.stp.push HK.2.1 hfl hJX.below.size hJX.own.lt.2 q1 (fun k z=>?_)⟩;rcases q2 k z with⟨i,Q,h1,h2⟩|q
    ·rw[List.getElem?_drop]at h1;exact .inl ⟨fr+i,Q,by omega,h1,h2⟩
    ·exact .inr q
   have HM:Hid (fr=(ps.take fr).length):=by show fr=_;rw[List.length_take];omega
   have HO2:Hid (FRow (w4.alloc (Obj.cells #[fvC (pk,pc)] 58)) w.heap.size g cp (ps.take fr)):=(HK2.own.take hfl).chg (S:=fun _=>False) (Chg.of_below (qB)) (fun q=>q);have HC2:Hid (∀i v,[(pk,pc)][i]?=some v→(w4.alloc (Obj.cells #[fvC (pk,pc)] 58)).cell? ⟨w4.heap.size,0+i,none⟩=some (fvC v)):=fun i v hv=>by
    match i,hv with
    |0,hv=>cases hv;simp[go_sem]
   have z4:(fr:Int)≤(cp:Int):=by omega
   clear c0 c1 c2 c3 c4 c5 c6 HSh;go_wp2_with (at_builtin;refine yIo _ rfl _ _ rfl w.heap.size g cp fr w4.heap.size 0 1 1 (ps.take fr) [(pk,pc)] rfl rfl HM.out rfl HO2.out HC2.out (by rw[←HM.out];simp;omega) (by simp;omega) ?_);intro g' cp' w' hA';have fin:Hid (∃Rs',FsJ w xs (j+1) g' cp' (ps.take fr++ [(pk,pc)]) (ts.take fr++ [ctV e (ts.drop fr)]) Rs' w'):=by
    obtain⟨R,hs⟩:=HSeg.out;have hbX:Below w4.heap.size w4 (w4.alloc (Obj.cells #[fvC (pk,pc)] 58)):=qB;have hsX:(w4.alloc (Obj.cells #[fvC (pk,pc)] 58)).heap.size=w4.heap.size+1:=by simp
    have hC:Chg (fun k=>k=g) (w4.alloc (Obj.cells #[fvC (pk,pc)] 58)) w':=Chg.of_grown hA'.grown (fun k hk=>by cases hk;rfl);have hC2:Chg (fun k=>k=g) w4 w':=(Chg.of_below hbX).trans hC;have hv:=HTb.lt;refine⟨Rs.take fr++ [R],HY.out,hA'.own,hs.chg hC2 (by omega) ?_,HTb.out,Chg.below HK2.below hC2 hsz2 (fun k hk=>by omega)⟩;rcases hA'.at_ with q|q
    ·exact .inl q
    ·exact .inr (by omega)
   have hcp':fr+1≤cp':=by have h8:=hA'.own.caps.1;rw[List.length_append,←HM.out]at h8;exact h8
   clear hA';go_wp2_with fail;go_roundw;case rel=>
    obtain⟨Rs',hfin⟩:=fin.out;exact⟨j+1,fr+1,g',cp',ps.take fr++ [(pk,pc)],ts.take fr++ [ctV e (ts.drop fr)],Rs',rfl,by go_num,by omega,by rw[List.length_append,List.length_singleton,←HM.out],by omega,hcp',rfl,hfin⟩
   case measure=>simp[intOf];omega
  ·have zj:¬(j:Int)<(n:Int):=by omega
   have hFo:ts= [t]:=by have h1:=HJ.2.fold;rw[List.take_of_length_le (by have:=HL.out;omega),HF.2.1]at h1;exact(Option.some.inj h1).symm
   subst hFo;have hm1:m=1:=by rw[HJ.1,HJ.2.stp.l1];rfl
   subst hm1;obtain⟨p,rfl⟩:∃p,ps= [p]:=by
    have h1:=HJ.1;match ps,h1 with
    | [p],_=>exact⟨p,rfl⟩
   have e0:wr.cell? ⟨g,0,none⟩=some (fvC p):=HJ.2.own.cell (j:=0) rfl;obtain⟨pk,pc⟩:=p;have HR:Hid (yVw t w (.returned (.tuple #[fvC (pk,pc),.bool true])) wr):=by
    have s:=HJ.2.stp;have e2:=s.l2;match Rs,e2,s with
    | [R],_,s=>exact⟨_,rfl,R,s.step 0 _ t R rfl rfl rfl,fun k z=>⟨(s.bnd 0 R rfl k z).1,(s.bnd 0 R rfl k z).2.1⟩,HJ.2.below⟩
   go_wp2_with fail;exact bodyPost_ret (v:=.tuple #[fvC (pk,pc),.bool true]) (by simp[results,Tryz.results30,go_sem]) rfl HR.out
structure RwI (p b off cap:Nat) (es:List Ent) (W:World):Prop where
 box:W.cell? ⟨p,0,none⟩=some (.slice (some ⟨b,off,none⟩) es.length cap)
 sl:CSl W b off cap es
theorem yY3 (es:List Ent) (p b off cap:Nat) (hN0:es.length≤10000) (l m:Nat) (hm:1≤m) (J:Nat→World→Prop)
  (hY:∀i j W,J i W→yIy es i j→YieldAt Fence.wide (m-1) Tryz.prog l #[segV b off cap (i,j)] W fun e W'=>e=.returned (.bool true)∧J j W')
  (hJd:∀k W,J k W→J k W.drew) (hJr:∀k W,J k W→RwI p b off cap es W) (W:World) (h0:J 0 W):
  CallsIn Fence.wide m Tryz.prog 75 #[.func (.yield l) #[] #[],ptrC p] W fun e W'=>(∃v,e=.returned v)∧J es.length W':=by
 obtain⟨N,hN⟩:=qE es.length;have HN:Hid (N=es.length):=hN;have HJ0:Hid (J 0 W):=h0;have HR:Hid (∀k W,J k W→W.cell? ⟨p,0,none⟩=some (.slice (some ⟨b,off,none⟩) N cap)∧CSl W b off cap es):=fun k W h=>by rw[hN];exact⟨(hJr k W h).box,(hJr k W h).sl⟩
 have hcap:=(hJr 0 W h0).sl.len;have hcm:cap≤9223372036854775807:=by have:=(hJr 0 W h0).sl.cap;unfold maxLen at this;omega
 have HY:Hid (∀i j W,J i W→yIy es i j→YieldAt Fence.wide (m-1) Tryz.prog l #[segV b off cap (i,j)] W fun e W'=>e=.returned (.bool true)∧J j W'):=hY;rw[←hN]at hN0 hcap⊢;clear hN h0 hJr hY;refine callsIn_of_wp Tryz.func75 rfl trivial ?_ rfl;simp only[Tryz.ntmps75,List.size_toArray,List.length_cons,List.length_nil,Nat.reduceAdd,Nat.reduceSub,Array.replicate_succ,Array.replicate_zero,List.push_toArray,List.append_toArray,List.nil_append,List.cons_append];gi_wp2;gi_loopw [3] (fun iv wr=>∃i:Nat,i≤N∧iv=.int .i64 (i:Int)∧Hid (J i wr)) (fun iv _=>N-(intOf iv).toNat);case atStart=>exact⟨0,Nat.zero_le _,rfl,HJ0.out⟩
 case round=>
  obtain⟨i,hiN,rfl,HJ⟩:=hrel;have x0:=(HR.out i wr HJ.out).1;by_cases hlt:i<N
  ·have zi:(i:Int)<(N:Int):=by omega
   obtain⟨c,hc⟩:∃c,es[i]?=some c:=⟨_,List.getElem?_eq_getElem (by have:=HN.out;omega)⟩;have HCi:Hid (es[i]?=some c):=hc;clear hc;obtain⟨wo,hwo⟩:=qE (wr:World);subst hwo;gi_wp2;clear x0;gi_loopw [4] (fun jv wx=>∃j:Nat,i<j∧j≤N∧jv=.int .i64 (j:Int)∧Hid ((∀k,i≤k→k<j→yEt es i k=true)∧J i wx)) (fun jv _=>N-(intOf jv).toNat);case atStart=>exact⟨i+1,by omega,by omega,by go_num,fun k h1 h2=>by rw[show k=i by omega];simp[yEt],HJ.out⟩
   case round=>
    obtain⟨j,hij,hjN,rfl,HQ⟩:=hrel;have hRr:=HR.out i wr HQ.2;by_cases hjl:j<N
    ·have zj:(j:Int)<(N:Int):=by omega
     obtain⟨x,hx⟩:∃x,es[j]?=some x:=⟨_,List.getElem?_eq_getElem (by have:=HN.out;omega)⟩;have f0:=(hRr.2.at_ j x hx).1;have f1:=(hRr.2.at_ i c HCi.out).1;have hS0:(fun w':World=>w'.cell? ⟨p,0,none⟩=some (.slice (some ⟨b,off,none⟩) N cap)∧w'.cell? ⟨b,off+j*5,none⟩=some (.string x.row)∧w'.cell? ⟨b,off+i*5,none⟩=some (.string c.row)) wr.drew:=⟨hRr.1,f0,f1⟩;have HJd:Hid (J i wr.drew):=hJd _ _ HQ.2;have HSame:Hid (yEt es i j=(x.row.toList==c.row.toList)):=by show yEt es i j=_;unfold yEt;rw[hx,HCi.out];rfl
     clear f0 f1 hx hRr;cases hr:(x.row.toList==c.row.toList)
     ·have HE:Hid (yIy es i j):=by have h0:=HSame.out;rw[hr]at h0;exact⟨hij,by rw[←HN.out];omega,HQ.1,fun _=>h0⟩
      gi_wp2;refine wpIn_wide.2 ?_;refine wp_region_noPanic ?_;refine yAb 99 (fun w':World=>w'.cell? ⟨p,0,none⟩=some (.slice (some ⟨b,off,none⟩) N cap)∧w'.cell? ⟨b,off+j*5,none⟩=some (.string x.row)∧w'.cell? ⟨b,off+i*5,none⟩=some (.string c.row)) (by kernel_rfl) ?_;refine j5a 0 hS0 ?_;iterate 16 refine j5b hS0 ?_
      refine qD ?_;dsimp only[NoPanic];clear hS0;exact zzQ49
     ·have HS2:Hid (∀k,i≤k→k<j+1→yEt es i k=true):=fun k h1 h2=>by
       by_cases hk:k=j
       ·rw[hk,HSame.out];exact hr
       ·exact HQ.1 k h1 (by omega)
      gi_wp2;refine wpIn_wide.2 ?_;refine wp_region_noPanic ?_;refine yAb 99 (fun w':World=>w'.cell? ⟨p,0,none⟩=some (.slice (some ⟨b,off,none⟩) N cap)∧w'.cell? ⟨b,off+j*5,none⟩=some (.string x.row)∧w'.cell? ⟨b,off+i*5,none⟩=some (.string c.row)) (by kernel_rfl) ?_;refine j5a 0 hS0 ?_;iterate 16 refine j5b hS0 ?_
      refine qD ?_;dsimp only[NoPanic];clear hS0;gi_wp2;go_roundw;case rel=>exact⟨j+1,by omega,by omega,by go_num,HS2.out,HJd.out⟩
      case measure=>simp[intOf];omega
    ·have zj:¬(j:Int)<(N:Int):=by omega
     have HE:Hid (yIy es i j):=⟨hij,by rw[←HN.out];omega,HQ.1,fun q=>by rw[←HN.out]at q;omega⟩;have HJd:Hid (J i wr.drew):=hJd _ _ HQ.2;have hS0:(fun w':World=>w'.cell? ⟨p,0,none⟩=some (.slice (some ⟨b,off,none⟩) N cap)) wr.drew:=hRr.1;clear hRr;gi_wp2;refine wpIn_wide.2 ?_;refine wp_region_noPanic ?_;refine yAb 99 (fun w':World=>w'.cell? ⟨p,0,none⟩=some (.slice (some ⟨b,off,none⟩) N cap)) (by kernel_rfl) ?_;refine j3a 0 hS0 ?_;iterate 2 refine j3b hS0 ?_
     refine qT 3 (.bool false) rfl ?yqc3 hS0 ?_;case yqc3=>(intro wz hSw;obtain hz0:=hSw;go_simp;(try simp);(try omega);(try with_reducible rfl))
     try simp only[qA,List.getElem_toArray,List.getElem_cons_zero,List.getElem_cons_succ]
     refine j3a 4 hS0 (v:=(.bool false)) ?_;iterate 12 refine j3b hS0 ?_
     refine qD ?_;dsimp only[NoPanic];clear hS0 zj;exact zzQ49
  ·have hin:i=N:=by omega
   have zi:¬(i:Int)<(N:Int):=by omega
   have HF:Hid (J N wr):=by rw[←hin];exact HJ.out
   clear HJ;gi_wp2;go_end0;exact⟨⟨_,rfl⟩,HF.out⟩
variable {Q:Exit→Act→World→Prop}
theorem yLs {g:Operand} {ps:Array Tmp} {assign body:Code} {a:Act} {n:Nat} (h1:2≤n) (es:List Ent) (p b off cap:Nat) (hN0:es.length≤10000)
  (hg:a.eval g=.func (.func 75) #[] #[ptrC p]) (hps:ps.size=1) (I:Nat→World→Prop) (hI:OwnFrom w.heap.size I) (hIt:∀k W,I k W→RwI p b off cap es W)
  (h0:I 0 w) (a₁:Nat→Nat→Act)
  (hassign:∀(l i j:Nat) (W:World) (K:Act→World→Prop),K (a₁ i j) W→assign.wpIn (Fence.wide.inRound l) (n-1-1) Tryz.prog (Exit.then K (fun _ _ _=>False)) {tmps:=(ps.zip #[segV b off cap (i,j)]).foldl (fun t (p,v)=>t.setIfInBounds p v) a.tmps,defers:= []} W)
  (hbody:∀(l i j:Nat) (W:World),I i W→yIy es i j→body.wpIn (Fence.wide.inRound l) (n-1-1) Tryz.prog (fun e _ W'=>e=.normal∧KeepsFrom w.heap.size W W'∧I j W') (a₁ i j) W)
  (hdone:∀(D:Nat) (W:World),w.heap.size≤D→I es.length W→W.heap[D]?=some (.deferred (some []))→Q .normal {a with defers:={target:=.collected D,args:=#[]}::a.defers} W):
  (Code.rangeFunc g ps assign body).wpIn Fence.wide n Tryz.prog Q a w:=by
 refine wpIn_rangeFunc ?_;intro fn hfn;obtain⟨rec,hrec⟩:∃rec:LoopState→Option Code→Loop,rec=fun st pe=>{state:=st,pending:=pe,fn,tmps:=a.tmps,params:=ps,assign,body,defers:=w.heap.size}:=⟨_,rfl⟩;obtain⟨W1,hW1⟩:∃W1,(w.alloc (.deferred (some []))).alloc (.loop (rec .ready none))=W1:=⟨_,rfl⟩;have hL1:W1.heap[w.heap.size+1]?=some (.loop (rec .ready none)):=by rw[←hW1];have:=World.alloc_heap_new (w.alloc (.deferred (some []))) (.loop (rec .ready none));rwa [World.size_alloc]at this
 have hK1:W1.heap[w.heap.size]?=some (.deferred (some [])):=by rw[←hW1];exact(Below.heap_alloc _ _ _ (by simp)).trans (World.alloc_heap_new w _)
 have hI1:I 0 W1:=by rw[←hW1];exact hI.alloc _ (hI.alloc _ h0)
 refine⟨w.heap.size+1,[{target:=.collected w.heap.size,args:=#[]}],W1,{target:=.fn (.func 75) #[ptrC p],args:=#[.func (.yield (w.heap.size+1)) #[] #[]]},W1,75,
  #[.func (.yield (w.heap.size+1)) #[] #[],ptrC p],W1,?_,?_,fun _ _=>trivial,?_,fun _=>by omega,?_⟩
 ·rw[←hW1,hrec];exact run_enterLoop_outer _ _ _ _ _
 ·simp only[resolve,hg];simp[go_sem]
 ·simp[invoke,go_sem]
 ·have hkeep:∀(k:Nat) {A B:World} {row:Option Nat},(I k A∧A.heap[w.heap.size+1]?=some (.loop (rec .ready none))∧A.heap[w.heap.size]?=some (.deferred (some [])))→A.grownBy B none→(I k B∧B.heap[w.heap.size+1]?=some (.loop (rec .ready none))∧B.heap[w.heap.size]?=some (.deferred (some []))):=fun k A B row h hgr=>
   ⟨hI k A B none h.1 hgr (fun r e=>by cases e),(hgr.block _ (Array.getElem?_eq_some_iff.1 h.2.1).1 (by simp)).trans h.2.1,(hgr.block _ (Array.getElem?_eq_some_iff.1 h.2.2).1 (by simp)).trans h.2.2⟩
  refine(yY3 es p b off cap hN0 (w.heap.size+1) (n-1) (by omega) (fun k W=>I k W∧W.heap[w.heap.size+1]?=some (.loop (rec .ready none))∧W.heap[w.heap.size]?=some (.deferred (some []))) ?_ (fun k W h=>hkeep k (row:=none) h ⟨rfl,rfl,rfl,Nat.le_refl _,fun _ _ _=>rfl⟩) (fun k W h=>hIt k W h.1) W1 ⟨hI1,hL1,hK1⟩).mono ?_
  ·rintro i j W ⟨hi,hl,hk⟩ hE;have hlt:w.heap.size+1<W.heap.size:=(Array.getElem?_eq_some_iff.1 hl).1;have hy:=run_yield (P:=Tryz.prog) (args:=#[segV b off cap (i,j)]) hl (by rw[hrec];exact hps.symm);rw[hrec]at hy;refine⟨fn,_,assign,body,hy,roundIn_of_wpIn hfn (hassign _ i j W _ ⟨_,run_beginRound hl (by rw[hrec]),?_⟩)⟩;have hl2:(W.putObj (w.heap.size+1) (.loop {rec .ready none with state:=.busy})).heap[w.heap.size+1]?=some (.loop {rec .ready none with state:=.busy}):=World.putObj_heap_same hlt;have hk2:(W.putObj (w.heap.size+1) (.loop {rec .ready none with state:=.busy})).heap[w.heap.size]?=some (.deferred (some [])):=(World.putObj_heap_other (by omega)).trans hk;refine wpIn_mono (hbody _ i j _ (hI.putObj _ hi (by omega) hl rfl) hE) ?_;exact zzQ57
  ·exact zzQ69
def SoA (w:World) (e:Nd) (W0:World):Prop:=yA W0 w.heap.size 75 7 w.heap.size e.seven∧yA W0 w.heap.size 96 3 (w.heap.size+1) [.bool false,.int .i64 0,.int .i64 0]∧Below w.heap.size w W0∧W0.heap.size=w.heap.size+2
variable {e:Nd}
theorem yWf {W0:World} {gd:Bool} (hA:SoA w e W0) (hb:Below W0.drew.heap.size W0.drew w'):SoJ w e w'.heap.size gd 0 (w'.alloc (Obj.cells #[.bool gd,.int .i64 e.kind,.int .i64 0] 96)):=by have h1:Below W0.heap.size W0 w':=((Below.refl W0.heap.size W0).drew).trans hb;have h2:=h1.size;have h3:Below W0.heap.size W0 (w'.alloc (Obj.cells #[.bool gd,.int .i64 e.kind,.int .i64 0] 96)):=h1.alloc h2 _;have h4:=hA.2.2.2;exact⟨hA.1.below h3,hA.2.1.below h3,yAa w' _ (by omega) rfl,by omega,hA.2.2.1.trans (h3.mono (by omega))⟩
theorem yTq {W0:World} {gd:Bool} (hA:SoA w e W0) (hb:Below (W0.drew.alloc (Obj.cells #[.bool false,.int .i64 0,.int .i64 0] 96)).heap.size (W0.drew.alloc (Obj.cells #[.bool false,.int .i64 0,.int .i64 0] 96)) w'):
  SoJ w e (w.heap.size+2) gd 0 (((w'.setCell ⟨w.heap.size+2,0,none⟩ (.bool gd)).setCell ⟨w.heap.size+2,1,none⟩ (.int .i64 e.kind)).setCell ⟨w.heap.size+2,2,none⟩ (.int .i64 0)):=by
 have h4:=hA.2.2.2;have hd:W0.drew.heap.size=W0.heap.size:=by simp
 have h0:Below W0.heap.size W0 (W0.drew.alloc (Obj.cells #[.bool false,.int .i64 0,.int .i64 0] 96)):=((Below.refl W0.heap.size W0).drew).alloc (by simp) _;have h1:Below W0.heap.size W0 w':=h0.trans (hb.mono (by simp));have hB:yA w' w.heap.size 96 3 (w.heap.size+2) [.bool false,.int .i64 0,.int .i64 0]:=by have:=yAa W0.drew (base:=w.heap.size) (t:=96) (sz:=3) #[.bool false,.int .i64 0,.int .i64 0] (by simp;omega) rfl;rw[hd,h4]at this;exact this.below hb
 refine⟨(((hA.1.below h1).beside (by omega) 0 _).beside (by omega) 1 _).beside (by omega) 2 _,(((hA.2.1.below h1).beside (by omega) 0 _).beside (by omega) 1 _).beside (by omega) 2 _,((hB.set 0 _).set 1 _).set 2 _,Nat.le_refl _,?_⟩;exact yAc (yAc (yAc (hA.2.2.1.trans (h1.mono (by omega))) (by omega) 0 _) (by omega) 1 _) (by omega) 2 _
structure SoK (w:World) (e:Nd) (WB OB:Nat) (v:Bool) (a:Nat) (x:yAx) (q:Nat) (wr:World):Prop where
 so:SoJ w e WB v a wr
 ob:yA wr w.heap.size 96 3 OB [.bool x.valid,.int .i64 x.kind,.int .i64 (q:Int)]
 ne:¬OB=WB
 ge:w.heap.size+2≤OB
variable {WB a:Nat}
theorem SoJ.round {v:Bool} (h:SoJ w e WB v a wr) (x:yAx):SoK w e WB wr.heap.size v a x x.nest (wr.alloc (Obj.cells #[.bool x.valid,.int .i64 x.kind,.int .i64 (x.nest:Int)] 96)):=by have hb:Below wr.heap.size wr (wr.alloc (Obj.cells #[.bool x.valid,.int .i64 x.kind,.int .i64 (x.nest:Int)] 96)):=qB;have h1:=h.whole.lt.2;have h2:=h.ne;exact⟨h.move hb,yAa wr _ h.below.size rfl,by omega,by omega⟩
variable {OB q:Nat} {x:yAx}
theorem SoK.valid {v:Bool} (h:SoK w e WB OB v a x q wr) (v2:Bool):SoK w e WB OB v2 a x q (wr.setCell ⟨WB,0,none⟩ (.bool v2)):=by have h2:=h.so.ne;exact⟨⟨h.so.node.beside (by omega) 0 _,h.so.res.beside (by omega) 0 _,h.so.whole.set 0 _,h2,yAc h.so.below (by omega) 0 _⟩,h.ob.beside h.ne 0 _,h.ne,h.ge⟩
theorem SoK.more {v:Bool} (h:SoK w e WB OB v a x q wr) (q2:Nat):SoK w e WB OB v a x q2 (wr.setCell ⟨OB,2,none⟩ (.int .i64 (q2:Int))):=by have h2:=h.so.ne;have h3:=h.ge;have h4:=h.ne;exact⟨⟨h.so.node.beside (by omega) 2 _,h.so.res.beside (by omega) 2 _,h.so.whole.beside (by omega) 2 _,h2,yAc h.so.below (by omega) 2 _⟩,h.ob.set 2 _,h.ne,h.ge⟩
theorem SoK.done {v:Bool} (h:SoK w e WB OB v a x q wr) (a2:Nat):SoJ w e WB v a2 (wr.setCell ⟨WB,2,none⟩ (.int .i64 (a2:Int))):=by have h2:=h.so.ne;exact⟨h.so.node.beside (by omega) 2 _,h.so.res.beside (by omega) 2 _,h.so.whole.set 2 _,h2,yAc h.so.below (by omega) 2 _⟩
variable {os:List yAx}
theorem yQf (h:os[j]?=some x):(os.take (j+1)).all (·.valid)=((os.take j).all (·.valid) && x.valid):=by rw[List.take_add_one,h];simp
theorem yJq (op:Int) {o:yAx} (h:os[j]?=some o):yAn op j a (os.drop j)=yAn op (j+1) (max a (o.nest+if yBs op j o.kind then 1 else 0)) (os.drop (j+1)):=by exact zzQ88
theorem yIc {b o cap:Nat} (e:Nd) (h:yKo w b o os) (hbl:b<w.heap.size) (hl:os.length≤cap) (h3:os.length≤3) (hcap:cap≤9223372036854775807) (hN:∀x∈os,x.nest≤1000) (hs:e.s.size≤maxLen) (ht:e.t.size≤maxLen):
  Calls Tryz.prog 57 #[e.v,.slice (some ⟨b,o,none⟩) os.length cap] w fun r w'=>r=.returned (.agg #[.bool (yBc goodB e os).valid,.int .i64 e.kind,.int .i64 ((yBc goodB e os).nest:Int)])∧Below w.heap.size w w':=by
 have HF:Hid (yKo w b o os∧(∀x∈os,x.nest≤1000)∧e.s.size≤maxLen∧e.t.size≤maxLen):=⟨h,hN,hs,ht⟩;obtain⟨n,hn⟩:=qE os.length;have HL:Hid (n=os.length):=hn;rw[←hn]at hl h3⊢;clear h hN hs ht hn;obtain⟨gd,hgd⟩:=qE (goodB e);have HG:Hid (gd=goodB e):=hgd;have HVal:Hid (∀w,Calls Tryz.prog 99 #[.agg #[.int .i64 e.kind,.string e.s,.bool e.hi,.string e.t,.int .u64 e.lo,.int .u64 e.up,.int .i64 e.n]] w fun r w'=>r=.returned (.bool gd)∧Below w.heap.size w w'):=fun w=>by rw[hgd];exact yV8 e w HF.2.2.1 HF.2.2.2
 clear hgd;obtain⟨W0,hW0⟩:=qE ((w.alloc (Obj.cells #[.int .i64 e.kind,.string e.s,.bool e.hi,.string e.t,.int .u64 e.lo,.int .u64 e.up,.int .i64 e.n] 75)).alloc (Obj.cells #[.bool false,.int .i64 0,.int .i64 0] 96):World);have HW0:Hid (yA W0 w.heap.size 75 7 w.heap.size e.seven∧yA W0 w.heap.size 96 3 (w.heap.size+1) [.bool false,.int .i64 0,.int .i64 0]∧Below w.heap.size w W0∧W0.heap.size=w.heap.size+2):=by rw[hW0];exact⟨yA.ofHeap (vs:=#[.int .i64 e.kind,.string e.s,.bool e.hi,.string e.t,.int .u64 e.lo,.int .u64 e.up,.int .i64 e.n]) (heap_alloc2_old w _ _) (Nat.le_refl _) rfl,yA.ofHeap (vs:=#[.bool false,.int .i64 0,.int .i64 0]) (heap_alloc2_new w _ _) (by omega) rfl,(qB).alloc (by simp) _,by simp⟩
 obtain⟨c0,c1,c2,c3,c4,c5,c6⟩:=HW0.1.c7;have hz:=HW0.2.2.2;obtain⟨tot,htot⟩:=qE ((yBc goodB e os).nest);have HT:Hid (yAn e.kind 0 0 os=tot):=by rw[htot];exact(rfl:yAn e.kind 0 0 os=_)
 have HV:Hid ((yBc goodB e os).valid=(gd && os.all (·.valid))):=by show(yBc goodB e os).valid=_;rw[HG.out];rfl
 rw[←htot];clear htot;go_enter Tryz.func57,Tryz.ntmps57;go_upto_region 1 with fail;rw[←hW0];clear hW0;go_cut[5] (fun s wx=>∃WB,s=.pointer (some ⟨WB,0,none⟩)∧SoJ w e WB gd 0 wx);case first=>
  have hlt0:w.heap.size<W0.heap.size:=by omega
  have c0a:∀o,(W0.alloc o).cell? ⟨w.heap.size,0,none⟩=some (.int .i64 e.kind):=fun o=>by rw[((Below.refl W0.heap.size W0).alloc (Nat.le_refl _) o).cell (p:=⟨w.heap.size,0,none⟩) hlt0];exact c0
  go_region_law ((go_simp;go_at_call 99;refine(HVal.out _).mono ?_;rintro r w' ⟨rfl,hbb⟩;obtain⟨hcc,hff⟩:=yP8 hbb;have hsz':=hbb.size;have k0:w'.cell? ⟨w.heap.size,0,none⟩=some (.int .i64 e.kind):=by {rw[hcc w.heap.size 0 (by simp;omega)];first|exact c0|(simp;first|exact c0|exact c0a _)};have kl:w.heap.size<w'.heap.size:=by {simp at hsz';omega};have k0a:∀o,(w'.alloc o).cell? ⟨w.heap.size,0,none⟩=some (.int .i64 e.kind):=fun o=>by {rw[((Below.refl w'.heap.size w').alloc (Nat.le_refl _) o).cell (p:=⟨w.heap.size,0,none⟩) kl];exact k0}));all_goals go_wp2_with fail
  all_goals go_meet
  all_goals first
   |exact⟨_,rfl,yWf HW0.out hbb⟩
   |exact⟨_,rfl,yTq HW0.out hbb⟩
 case rest=>
 obtain⟨WB,rfl,hJ⟩:=hcut;have HJ0:Hid (SoJ w e WB gd 0 wc):=hJ;clear hJ c0 c1 c2 c3 c4 c5 c6 hz HW0 HVal;go_wp2_with fail;go_loopw[15] (fun iv wr=>∃(j a:Nat) (v:Bool),iv=.int .i64 (j:Int)∧j≤n∧a≤2000∧v=(gd && (os.take j).all (·.valid))∧yAn e.kind j a (os.drop j)=tot∧SoJ w e WB v a wr) (fun iv _=>n-(intOf iv).toNat);case atStart=>exact⟨0,0,gd,rfl,Nat.zero_le _,Nat.zero_le _,by simp,HT.out,HJ0.out⟩
 case round=>
  obtain⟨j,a,v,rfl,hj,ha,hv,hN,hJ⟩:=hrel;have HJ:Hid (v=(gd && (os.take j).all (·.valid))∧yAn e.kind j a (os.drop j)=tot∧SoJ w e WB v a wr):=⟨hv,hN,hJ⟩;have hWB:=hJ.whole.lt;have hWn:=hJ.ne;clear hv hN hJ HJ0 HT;by_cases hlt:j<n
  ·have zj:(j:Int)<(n:Int):=by omega
   obtain⟨x,hx⟩:∃x,os[j]?=some x:=⟨_,List.getElem?_eq_getElem (by have:=HL.out;omega)⟩;obtain⟨d0,d1,d2⟩:=(HF.1.below HJ.2.2.below hbl) j x hx;have hxn:=HF.2.1 x (List.mem_of_getElem? hx);have HX:Hid (os[j]?=some x):=hx;obtain⟨W1,hW1⟩:=qE (wr.alloc (Obj.cells #[.bool x.valid,.int .i64 x.kind,.int .i64 (x.nest:Int)] 96):World);have HK1:Hid (SoK w e WB wr.heap.size v a x x.nest W1):=by rw[hW1];exact HJ.2.2.round x
   clear hx;go_upto_region 5 with fail;rw[←hW1];clear hW1 d0 d1 d2;obtain⟨v0,hv0⟩:=qE v;have HV0:Hid (v0=(gd && (os.take j).all (·.valid))):=by rw[hv0];exact HJ.1
   have HN0:Hid (yAn e.kind j a (os.drop j)=tot):=HJ.2.1;clear HJ;have w0:=HK1.so.whole.cell (j:=0) rfl;have w0f:=HK1.so.whole.frozen 0;have o0:=HK1.ob.cell (j:=0) rfl;have hne:=HK1.ne;have hge:=HK1.ge;cases v
   ·have hv0':v0=false:=hv0;clear hv0;obtain⟨W2,hW2⟩:=qE (W1.setCell ⟨WB,0,none⟩ (.bool false):World);have HK2:Hid (SoK w e WB wr.heap.size false a x x.nest W2):=by rw[hW2];exact HK1.valid false
    have HVn:Hid (false=(gd && (os.take (j+1)).all (·.valid))):=by show false=_;rw[yQf HX.out,←Bool.and_assoc,←HV0.out,hv0'];simp
    go_upto_region 6 with fail;rw[←hW2];clear hW2 w0 w0f o0 HK1 HV0;have m0:=HK2.so.node.cell (j:=0) rfl;have o1:=HK2.ob.cell (j:=1) rfl;have o2:=HK2.ob.cell (j:=2) rfl;have o2f:=HK2.ob.frozen 2;have w2:=HK2.so.whole.cell (j:=2) rfl;have w2f:=HK2.so.whole.frozen 2;have fin:∀(y:Nat),y=max a (x.nest+(if yBs e.kind j x.kind then 1 else 0))→yAn e.kind (j+1) y (os.drop (j+1))=tot:=fun y hy=>by rw[hy,←yJq e.kind HX.out];exact HN0.out
    by_cases h16:e.kind=16
    ·have hlv:yBs e.kind j x.kind=true:=by unfold yBs;rw[h16];rfl
     have z16:(e.kind==16)=true:=by simpa using h16
     clear h16;exact zzQ27
    ·have z16:(e.kind==16)=false:=by simpa using h16
     go_wp2_with fail;refine(yHb e.kind j x.kind _ h16).mono ?_;rintro r w9 ⟨rfl,hw9⟩;rw[hw9];clear hw9 h16;cases hlv:yBs e.kind j x.kind
     ·skip;obtain⟨a2,ha2⟩:=qE (max a (x.nest));have HFin:Hid (yAn e.kind (j+1) a2 (os.drop (j+1))=tot∧a2≤2000):=⟨fin a2 (by rw[ha2,hlv];rfl),by omega⟩;have ha3:max (a:Int) ((x.nest:Int))=(a2:Int):=by omega
      clear fin hlv ha2;go_wp2_with fail;go_roundw;case rel=>
       refine⟨j+1,a2,false,by go_num,by omega,HFin.2,HVn.out,HFin.1,?_⟩;exact HK2.done a2
      case measure=>simp[intOf];omega
     ·skip;exact zzQ27
   ·have hv0':v0=true:=hv0;clear hv0;obtain⟨W2,hW2⟩:=qE (W1.setCell ⟨WB,0,none⟩ (.bool x.valid):World);have HK2:Hid (SoK w e WB wr.heap.size x.valid a x x.nest W2):=by rw[hW2];exact HK1.valid x.valid
    have HVn:Hid (x.valid=(gd && (os.take (j+1)).all (·.valid))):=by show x.valid=_;rw[yQf HX.out,←Bool.and_assoc,←HV0.out,hv0'];simp
    go_upto_region 6 with fail;rw[←hW2];clear hW2 w0 w0f o0 HK1 HV0;have m0:=HK2.so.node.cell (j:=0) rfl;have o1:=HK2.ob.cell (j:=1) rfl;have o2:=HK2.ob.cell (j:=2) rfl;have o2f:=HK2.ob.frozen 2;have w2:=HK2.so.whole.cell (j:=2) rfl;have w2f:=HK2.so.whole.frozen 2;have fin:∀(y:Nat),y=max a (x.nest+(if yBs e.kind j x.kind then 1 else 0))→yAn e.kind (j+1) y (os.drop (j+1))=tot:=fun y hy=>by rw[hy,←yJq e.kind HX.out];exact HN0.out
    by_cases h16:e.kind=16
    ·have hlv:yBs e.kind j x.kind=true:=by unfold yBs;rw[h16];rfl
     have z16:(e.kind==16)=true:=by simpa using h16
     clear h16;exact zzQ26
    ·have z16:(e.kind==16)=false:=by simpa using h16
     go_wp2_with fail;refine(yHb e.kind j x.kind _ h16).mono ?_;rintro r w9 ⟨rfl,hw9⟩;rw[hw9];clear hw9 h16;cases hlv:yBs e.kind j x.kind
     ·skip;obtain⟨a2,ha2⟩:=qE (max a (x.nest));have HFin:Hid (yAn e.kind (j+1) a2 (os.drop (j+1))=tot∧a2≤2000):=⟨fin a2 (by rw[ha2,hlv];rfl),by omega⟩;have ha3:max (a:Int) ((x.nest:Int))=(a2:Int):=by omega
      clear fin hlv ha2;go_wp2_with fail;go_roundw;case rel=>
       refine⟨j+1,a2,x.valid,by go_num,by omega,HFin.2,HVn.out,HFin.1,?_⟩;exact HK2.done a2
      case measure=>simp[intOf];omega
     ·skip;exact zzQ26
  ·have zj:¬(j:Int)<(n:Int):=by omega
   have HFi:Hid (a=tot∧v=(yBc goodB e os).valid):=by show _∧_;have h1:=HJ.2.1;have h2:=HJ.1;have hln:=HL.out;rw[List.drop_eq_nil_of_le (by omega)]at h1;rw[List.take_of_length_le (by omega)]at h2;exact⟨h1,by rw[h2,HV.out]⟩
   obtain⟨w0,w1,w2⟩:=HJ.2.2.whole.c3;obtain⟨r0,r1,r2⟩:=HJ.2.2.res.c3;obtain⟨f0,f1,f2⟩:=HJ.2.2.res.f3;obtain⟨W9,hW9⟩:=qE (set3 wr (w.heap.size+1) (.bool v) (.int .i64 e.kind) (.int .i64 (a:Int)):World);have HW9:Hid (yA W9 w.heap.size 96 3 (w.heap.size+1) [.bool v,.int .i64 e.kind,.int .i64 (a:Int)]∧Below w.heap.size w W9):=by rw[hW9];exact⟨HJ.2.2.res.set3 _ _ _,yF3 HJ.2.2.below (by omega) _ _ _⟩
   obtain⟨p0,p1,p2⟩:=HW9.1.c3;unfold set3 at hW9;go_wp2_with fail;rw[←hW9];obtain⟨rfl,hvv⟩:=HFi.out;rw[←hvv];refine bodyPost_ret (v:=.agg #[.bool v,.int .i64 e.kind,.int .i64 (a:Int)]) (by simp[results,Tryz.results57,go_sem,p0,p1,p2]) rfl ⟨rfl,HW9.2⟩
theorem Tryz.infoSh:(Tryz.prog.info? 96).map (fun i=>(i.zero,i.size,i.bytes))=some (some (.agg #[.bool false,.int .i64 0,.int .i64 0]),3,24):=by kernel_rfl
variable {a:Act}
theorem yHr {ops:Array Oper} {oo:Oper} {K:Act→World→Prop} {E:Prop} (w:World) (hgd:oo.guard=none) (s x:Operand)
  (ho:oo.op=.call {callee:=.builtin .append,args:=#[s,x],argTypes:=#[138,138]})
  (base n g cp blk:Nat) (ss:List yAx) (y:yAx) (hn:n=ss.length) (hs:a.eval s=.slice (some ⟨g,0,none⟩) n cp) (hx:a.eval x=.slice (some ⟨blk,0,none⟩) 1 1) (hO:yE0 w base g cp ss)
  (hc:yKo w blk 0 [y]) (hlen:ss.length≤1000) (hbase:base≤w.heap.size)
  (h:∀g' cp' w',yE0 w' base g' cp' (ss++ [y])→w.grownBy w' (some g)→(g=g'∨g'=w.heap.size)→K (a.put oo.dst (.slice (some ⟨g',0,none⟩) (n+1) cp')) w'):if Region.wanted oo (yielded ops a.tmps)=true then Oper.wp Tryz.prog oo a w K Q else E:=by
 subst hn;obtain⟨i,hi,hz0,hz1,hz2⟩:=info_parts Tryz.infoSh;obtain⟨c0,c1,c2⟩:=hc 0 y rfl;refine step_append_lies w hgd s x 138 ho base 96 i _ 3 24 Tryz.underlying138 hi hz0 hz1 hz2 rfl (by decide) (.slice (some ⟨g,0,none⟩) ss.length cp) ss.length (yBo ss) hs hO ⟨blk,0,none⟩ 1 1 (yBo [y]) hx rfl ?_ ?_ (by decide) ?_ ?_ hbase w.heap.size rfl ?_
 ·intro j u hu;have hj:j<3:=by have:=(List.getElem?_eq_some_iff.1 hu).1;rw[yG9]at this;simpa using this
  rw[Addr.add_mid];have hcs:yBo [y]=y.three:=by simp[yBo]
  rw[hcs]at hu;match j,hj with
  |0,_=>simp at hu;rw[←hu];simpa using c0
  |1,_=>simp at hu;rw[←hu];simpa using c1
  |2,_=>simp at hu;rw[←hu];simpa using c2
 ·intro u hu;have hcs:yBo [y]=y.three:=by simp[yBo]
  rw[hcs]at hu;simp at hu;rcases hu with rfl|rfl|rfl<;>rfl
 ·unfold maxLen;omega
 ·omega
 ·intro g' cp' w' hO' hgr hat hlt;refine h g' cp' w' ?_ hgr ?_
  ·unfold yE0;rw[List.length_append,yMz];exact hO'
  ·simp[Value.ownBlock]at hat;exact hat
variable {ss:List yAx}
theorem yVa (h:yDb goodB [] xs=some ss):∀s∈ss,s.nest≤xs.length:=by intro s hs;obtain⟨ks,rfl,hK⟩:=ShT.kids goodB (yN4 goodB h);obtain⟨k,hk,h3⟩:=yPr goodB hK hs;have h4:=yD5 hk;have h5:=yMj goodB _ (Nat.le_refl _) h3;omega
structure FoJ (w:World) (xs:List Nd) (j g cp:Nat) (ss:List yAx) (wr:World):Prop where
 fold:yDb goodB [] (xs.take j)=some ss
 own:yE0 wr (w.heap.size+1) g cp ss
 res:yA wr w.heap.size 96 3 w.heap.size [.bool false,.int .i64 0,.int .i64 0]
 below:Below w.heap.size w wr
theorem FoJ.move {g:Nat} (h:FoJ w xs j g cp ss wr) (hb:Below wr.heap.size wr w'):FoJ w xs j g cp ss w':=
 ⟨h.fold,h.own.below hb,h.res.below hb,h.below.trans (hb.mono h.below.size)⟩
theorem yV (h:yDb goodB [] (xs.take j)=some ss) (he:xs[j]?=some e) (hl:yAk e.kind≤ss.length):yDb goodB [] (xs.take (j+1))=some (ss.take (ss.length-yAk e.kind)++ [yBc goodB e (ss.drop (ss.length-yAk e.kind))]):=by rw[List.take_add_one,he,yFl,h];simp only[Option.toList,Option.bind_some,yDb,yR2];rw[if_neg (by omega)]
theorem yU9 (h:yDb goodB [] (xs.take j)=some ss) (he:xs[j]?=some e) (hl:ss.length<yAk e.kind):yDb goodB [] xs=none:=by
 have hj:=(List.getElem?_eq_some_iff.1 he).1;have:xs=xs.take j++e::xs.drop (j+1):=by
  conv=>lhs;rw[←List.take_append_drop j xs,List.drop_eq_getElem_cons hj]
  rw[show xs[j]=e from Option.some.inj ((List.getElem?_eq_getElem hj).symm.trans he)]
 rw[this,yFl,h];simp only[Option.bind_some,yDb,yR2];rw[if_pos hl]
def yRm (xs:List Nd) (w:World) (r:Ending) (w':World):Prop:=Below w.heap.size w w'∧((∃s,yDb goodB [] xs=some [s]∧r=.returned (.tuple #[.agg #[.bool s.valid,.int .i64 s.kind,.int .i64 (s.nest:Int)],.bool true]))∨((∀s,¬yDb goodB [] xs=some [s])∧r=.returned (.tuple #[.agg #[.bool false,.int .i64 0,.int .i64 0],.bool false])))
structure FoK (w:World) (xs:List Nd) (j g cp:Nat) (ss:List yAx) (SB:Nat) (y:yAx) (wr:World):Prop where
 fo:FoJ w xs j g cp ss wr
 box:yA wr w.heap.size 96 3 SB y.three
 ne:¬SB=g
 ge:w.heap.size+1≤SB
theorem yW5 {g:Nat} {W1:World} (y:yAx) (h:FoJ w xs j g cp ss W1) (hb:Below W1.drew.heap.size W1.drew w'):FoK w xs j g cp ss w'.heap.size y (w'.alloc (Obj.cells #[.bool y.valid,.int .i64 y.kind,.int .i64 (y.nest:Int)] 96)):=by have h1:Below W1.heap.size W1 w':=((Below.refl W1.heap.size W1).drew).trans hb;have h2:=h1.size;have h3:Below W1.heap.size W1 (w'.alloc (Obj.cells #[.bool y.valid,.int .i64 y.kind,.int .i64 (y.nest:Int)] 96)):=h1.alloc h2 _;have h4:=h.own.lt;have h5:=h.below.size;have h6:=h.res.lt;exact⟨h.move h3,yAa w' _ (by omega) rfl,by omega,by omega⟩
theorem yVb {g:Nat} {W1:World} (y:yAx) (h:FoJ w xs j g cp ss W1) (hb:Below (W1.drew.alloc (Obj.cells #[.bool false,.int .i64 0,.int .i64 0] 96)).heap.size (W1.drew.alloc (Obj.cells #[.bool false,.int .i64 0,.int .i64 0] 96)) w'):
  FoK w xs j g cp ss W1.heap.size y (((w'.setCell ⟨W1.heap.size,0,none⟩ (.bool y.valid)).setCell ⟨W1.heap.size,1,none⟩ (.int .i64 y.kind)).setCell ⟨W1.heap.size,2,none⟩ (.int .i64 (y.nest:Int))):=by
 have hd:W1.drew.heap.size=W1.heap.size:=by simp
 have h0:Below W1.heap.size W1 (W1.drew.alloc (Obj.cells #[.bool false,.int .i64 0,.int .i64 0] 96)):=((Below.refl W1.heap.size W1).drew).alloc (by simp) _;have h1:Below W1.heap.size W1 w':=h0.trans (hb.mono (by simp));have h4:=h.own.lt;have h5:=h.below.size;have h6:=h.res.lt;have hB:yA w' w.heap.size 96 3 W1.heap.size [.bool false,.int .i64 0,.int .i64 0]:=by have:=yAa W1.drew (base:=w.heap.size) (t:=96) (sz:=3) #[.bool false,.int .i64 0,.int .i64 0] (by simp;omega) rfl;rw[hd]at this;exact this.below hb
 have hJ:=h.move h1;have hC:Chg (fun k=>k=W1.heap.size) w' (((w'.setCell ⟨W1.heap.size,0,none⟩ (.bool y.valid)).setCell ⟨W1.heap.size,1,none⟩ (.int .i64 y.kind)).setCell ⟨W1.heap.size,2,none⟩ (.int .i64 (y.nest:Int))):=
  ((Chg.of_set w' W1.heap.size 0 _ (S:=fun k=>k=W1.heap.size) rfl).trans (Chg.of_set _ W1.heap.size 1 _ (S:=fun k=>k=W1.heap.size) rfl)).trans (Chg.of_set _ W1.heap.size 2 _ (S:=fun k=>k=W1.heap.size) rfl)
 refine⟨⟨hJ.fold,yAp hJ.own hC (fun k q=>by simp[Value.ownBlock]at q;omega),hJ.res.chg hC (by omega),?_⟩,((hB.set 0 _).set 1 _).set 2 _,by omega,by omega⟩;exact yAc (yAc (yAc hJ.below (by omega) 0 _) (by omega) 1 _) (by omega) 2 _
theorem sh_new (X:World) (y:yAx) (B:Nat) (hB:X.heap.size=B):yKo (X.alloc (Obj.cells #[.bool y.valid,.int .i64 y.kind,.int .i64 (y.nest:Int)] 96)) B 0 [y]:=by
 subst hB;intro i s hs;have hi:i=0:=by have:=(List.getElem?_eq_some_iff.1 hs).1;simpa using this
 subst hi;simp at hs;subst hs;exact⟨by simp,by simp,by simp⟩
theorem yZx {wc X:World} {g cp' fr:Nat} {y:yAx} (h:FoJ w xs j g cp ss wc) (hX:Below wc.heap.size wc X) (hY:yDb goodB [] (xs.take (j+1))=some (ss.take fr++ [y])) (hO:yE0 w' (w.heap.size+1) g' cp' (ss.take fr++ [y])) (hgr:X.grownBy w' (some g)) (hm:fr=(ss.take fr).length):FoJ w xs (j+1) g' cp' (ss.take fr++ [y]) w'∧fr+1≤cp':=by have hJ:=h.move hX;have h1:=hJ.own.lt;have hC:Chg (fun k=>k=g) X w':=Chg.of_grown hgr (fun k hk=>by cases hk;rfl);refine⟨⟨hY,hO,hJ.res.chg hC (by omega),Chg.below hJ.below hC hJ.below.size (fun k q=>by omega)⟩,?_⟩;have:=hO.caps.1;rw[List.length_append,List.length_singleton,←hm]at this;exact this
theorem yN6 {gN oN cpN:Nat} (h:yAy w gN oN xs) (hg:gN<w.heap.size) (hok:∀e∈xs,e.ok) (hl:xs.length≤200):
  Calls Tryz.prog 56 #[.slice (some ⟨gN,oN,none⟩) xs.length cpN,.func (Fn.func 57) #[] #[]] w (yRm xs w):=by
 have HF:Hid (yAy w gN oN xs∧∀e∈xs,e.ok):=⟨h,hok⟩;obtain⟨n,hn⟩:=qE xs.length;have HL:Hid (n=xs.length):=hn;rw[←hn]at hl⊢;clear h hok hn;obtain⟨W0,hW0⟩:=qE ((w.alloc (Obj.cells #[.bool false,.int .i64 0,.int .i64 0] 96)).alloc (Obj.cells #[] 96):World);have HW0:Hid (FoJ w xs 0 (w.heap.size+1) 0 [] W0):=by
  obtain⟨V,hV⟩:=qE (w.alloc (Obj.cells #[.bool false,.int .i64 0,.int .i64 0] 96):World);have hz:V.heap.size=w.heap.size+1:=by rw[hV];simp
  have hb:Below V.heap.size V W0:=by rw[hW0,←hV];exact qB
  have hbV:Below w.heap.size w V:=by rw[hV];exact qB
  have hB:yA V w.heap.size 96 3 w.heap.size [.bool false,.int .i64 0,.int .i64 0]:=by rw[hV];exact yAa w _ (Nat.le_refl _) rfl
  refine⟨rfl,?_,hB.below hb,hbV.trans (hb.mono (by omega))⟩;rw[hW0,←hV,←hz];exact yT8 V (Nat.le_refl _)
 go_enter Tryz.func56,Tryz.ntmps56;go_upto_region 2 with fail;rw[←hW0];clear hW0;go_wp2_with fail;go_loopw[6,14] (fun sv iv wr=>∃(j m g cp:Nat) (ss:List yAx),iv=.int .i64 (j:Int)∧j≤n∧m=ss.length∧m≤j∧m≤cp∧sv=.slice (some ⟨g,0,none⟩) m cp∧FoJ w xs j g cp ss wr) (fun _ iv _=>n-(intOf iv).toNat);case atStart=>exact⟨0,0,_,0,[],rfl,Nat.zero_le _,rfl,Nat.le_refl _,Nat.zero_le _,rfl,HW0.out⟩
 case round=>
  obtain⟨j,m,g,cp,ss,rfl,hj,hm,hmj,hmc,rfl,hJ⟩:=hrel;have HJ:Hid (m=ss.length∧FoJ w xs j g cp ss wr):=⟨hm,hJ⟩;have hgl:=hJ.own.lt;have hcp:cp≤9223372036854775807:=by have:=hJ.own.caps.2;unfold maxLen at this;omega
  have hsz:=hJ.below.size;have hrl:=hJ.res.lt.2;obtain⟨r0,r1,r2⟩:=hJ.res.c3;obtain⟨f0,f1,f2⟩:=hJ.res.f3;clear hm hJ HW0;by_cases hlt:j<n
  ·have zj:(j:Int)<(n:Int):=by omega
   obtain⟨e,he⟩:∃e,xs[j]?=some e:=⟨_,List.getElem?_eq_getElem (by have:=HL.out;omega)⟩;obtain⟨d0,d1,d2,d3,d4,d5,d6⟩:=(HF.1.below HJ.2.below hg) j e he;have ok:=HF.2 e (List.mem_of_getElem? he);have HE:Hid (xs[j]?=some e∧e.s.size≤maxLen∧e.t.size≤maxLen):=⟨he,ok.s,ok.t⟩;clear ok he;obtain⟨W1,hW1⟩:=qE (wr.alloc (Obj.cells #[.int .i64 e.kind,.string e.s,.bool e.hi,.string e.t,.int .u64 e.lo,.int .u64 e.up,.int .i64 e.n] 75):World);have hb1:Below wr.heap.size wr W1:=by rw[hW1];exact qB
   have hz1:W1.heap.size=wr.heap.size+1:=by rw[hW1];simp
   have HJ1:Hid (m=ss.length∧FoJ w xs j g cp ss W1∧yA W1 w.heap.size 75 7 wr.heap.size e.seven):=by refine⟨HJ.1,HJ.2.move hb1,?_⟩;rw[hW1];exact yAa wr _ hsz rfl
   go_upto_region 5 with fail;rw[←hW1];clear hW1 d0 d1 d2 d3 d4 d5 d6 r0 r1 r2 f0 f1 f2 HJ hb1;obtain⟨c0,c1,c2,c3,c4,c5,c6⟩:=HJ1.2.2.c7;obtain⟨a,ha⟩:=qE (yAk e.kind);have ha3:a≤3:=by rw[ha];exact yF5 _
   have HAr:Hid (Calls Tryz.prog 61 #[.int .i64 e.kind] W1 fun r w'=>r=.returned (.int .i64 (a:Int))∧w'=W1):=by rw[ha];exact yCx e.kind W1
   have HAk:Hid (a=yAk e.kind):=ha;clear ha;go_wp2_with fail;refine HAr.mono ?_;rintro r w9 ⟨rfl,hw9⟩;rw[hw9];clear hw9 HAr;by_cases hfr:m<a
   ·have zf:(m:Int)-(a:Int)<0:=by omega
    obtain⟨r0,r1,r2⟩:=HJ1.2.1.res.c3;obtain⟨f0,f1,f2⟩:=HJ1.2.1.res.f3;have HS:Hid (yDb goodB [] xs=none):=yU9 HJ1.2.1.fold HE.1 (by rw[←HJ1.1,←HAk.out];exact hfr);obtain⟨W9,hW9⟩:=qE (set3 W1 w.heap.size (.bool false) (.int .i64 0) (.int .i64 0):World);have HW9:Hid (yA W9 w.heap.size 96 3 w.heap.size [.bool false,.int .i64 0,.int .i64 0]∧Below w.heap.size w W9):=by rw[hW9];exact⟨HJ1.2.1.res.set3 _ _ _,yF3 HJ1.2.1.below (Nat.le_refl _) _ _ _⟩
    obtain⟨p0,p1,p2⟩:=HW9.1.c3;unfold set3 at hW9;go_wp2_with fail;rw[←hW9];refine bodyPost_ret (v:=.tuple #[.agg #[.bool false,.int .i64 0,.int .i64 0],.bool false]) (by simp[results,Tryz.results56,go_sem,p0,p1,p2]) rfl ⟨HW9.2,.inr ⟨fun s q=>(by rw[HS.out]at q;cases q),rfl⟩⟩
   ·obtain⟨fr,hfrm⟩:∃fr:Nat,(m:Int)-(a:Int)=(fr:Int):=⟨m-a,by omega⟩;have hfrle:fr≤m:=by omega
    have HFr:Hid (fr=ss.length-yAk e.kind∧yAk e.kind≤ss.length):=by have h1:=HJ1.1;have h2:=HAk.out;exact⟨by omega,by omega⟩
    have zf:¬(fr:Int)<0:=by omega
    have z2:(fr:Int)≤(m:Int):=by omega
    have z3:(m:Int)≤(cp:Int):=by omega
    obtain⟨y,hy⟩:=qE (yBc goodB e (ss.drop fr));have HY:Hid (yDb goodB [] (xs.take (j+1))=some (ss.take fr++ [y])):=by show _=_;rw[hy,HFr.1];exact yV HJ1.2.1.fold HE.1 HFr.2
    obtain⟨ad,had⟩:∃ad:Option Addr,(if cp=fr then some (⟨g,0,none⟩:Addr)else some ⟨g,fr*3,none⟩)=ad:=⟨_,rfl⟩;have HSh:Hid (∀X,Below W1.heap.size W1 X→Calls Tryz.prog 57 #[.agg #[.int .i64 e.kind,.string e.s,.bool e.hi,.string e.t,.int .u64 e.lo,.int .u64 e.up,.int .i64 e.n],.slice ad (m-fr) (cp-fr)] X fun r w'=>r=.returned (.agg #[.bool y.valid,.int .i64 y.kind,.int .i64 (y.nest:Int)])∧Below X.heap.size X w'):=fun X hX=>by
     have hs1:=HJ1.2.1.own.at.below hX HJ1.2.1.own.lt.2;have hs2:=hs1.drop fr;rw[Nat.zero_add]at hs2;have hlen:(ss.drop fr).length=m-fr:=by rw[List.length_drop,←HJ1.1]
     have hX2:=hX.size;have hg2:=HJ1.2.1.own.lt.2;have hnest:∀x∈ss.drop fr,x.nest≤1000:=fun x hx=>by have h1:=yVa HJ1.2.1.fold x (List.mem_of_mem_drop hx);rw[List.length_take]at h1;omega
     have hos:(ss.drop fr).length≤3:=by rw[hlen];have:=HFr.1;have:=HAk.out;have:=HJ1.1;omega
     rw[hy,←had];by_cases hcf:cp=fr
     ·rw[if_pos hcf];have hnil:ss.drop fr= []:=List.length_eq_zero_iff.1 (by rw[hlen];omega);have h9:=yIc (w:=X) (b:=g) (o:=0) (cap:=cp-fr) (os:=ss.drop fr) e (by rw[hnil];intro i s hs;simp at hs) (by omega) (by rw[hlen];omega) hos (by omega) hnest HE.2.1 HE.2.2;rw[hlen]at h9;exact h9
     ·rw[if_neg hcf];have h9:=yIc (w:=X) (b:=g) (o:=fr*3) (cap:=cp-fr) (os:=ss.drop fr) e hs2 (by omega) (by rw[hlen];omega) hos (by omega) hnest HE.2.1 HE.2.2;rw[hlen]at h9;exact h9
    clear hy hfr;go_upto_region 8 with fail;go_cut[10] (fun sv wx=>∃SB,sv=.pointer (some ⟨SB,0,none⟩)∧FoK w xs j g cp ss SB y wx);case first=>
     go_region_law ((go_simp;go_at_call 57;refine(HSh.out _ ?hX).mono ?_;(case hX=>(repeat (first|exact Below.refl _ _|refine Below.drew ?_|refine Below.alloc ?_ (by simp) _)));rintro r w' ⟨rfl,hbb⟩;obtain⟨hcc,hff⟩:=yP8 hbb;have hsz':=hbb.size));all_goals go_wp2_with fail
     all_goals go_meet
     all_goals first
      |exact⟨_,rfl,yW5 y HJ1.2.1 hbb⟩
      |exact⟨_,rfl,by have h9:=yVb y HJ1.2.1 hbb;rw[hz1]at h9;exact h9⟩
    case rest=>
    obtain⟨SB,rfl,hK⟩:=hcut;have HK:Hid (FoK w xs j g cp ss SB y wc):=hK;obtain⟨b0,b1,b2⟩:=hK.box.c3;have hgl2:=hK.fo.own.lt;have hsb:=hK.box.lt.2;have hnsb:=hK.ne;have hsz2:=hK.fo.below.size;have HM:Hid (fr=(ss.take fr).length):=by show fr=_;rw[List.length_take,←HJ1.1];omega
    clear hK c0 c1 c2 c3 c4 c5 c6 HSh;go_upto_region 9 with fail;have hfl:fr≤ss.length:=by rw[←HJ1.1];exact hfrle
    have z4:(fr:Int)≤(cp:Int):=by omega
    have z5:fr≤cp:=by omega
    go_region_law ((refine yHr _ (by rfl) _ _ (by rfl) (w.heap.size+1) fr g cp wc.heap.size (ss.take fr) y HM.out (by rfl) (by rfl) ?hO ?hc ?hl ?hb ?_
                    case hO=>(refine yE0.below (HK.fo.own.take hfl) ?_;repeat (first|exact Below.refl _ _|refine Below.drew ?_|refine Below.alloc ?_ (by simp) _))
                    case hc=>exact sh_new _ y _ (by simp)
                    case hl=>rw[←HM.out];omega
                    case hb=>simp;omega
                    intro g' cp' w' hO' hgr' hat'
                    have fin:Hid (FoJ w xs (j+1) g' cp' (ss.take fr++ [y]) w'∧fr+1≤cp'):=yZx HK.fo (by repeat (first|exact Below.refl _ _|refine Below.drew ?_|refine Below.alloc ?_ (by simp) _)) HY.out hO' hgr' HM.out
                    clear hO' hgr' hat'))
    all_goals go_wp2_with fail
    all_goals go_roundw
    all_goals first
     |exact⟨j+1,fr+1,g',cp',ss.take fr++ [y],by go_num,by omega,by rw[List.length_append,List.length_singleton,←HM.out],by omega,fin.out.2,rfl,fin.out.1⟩
     |(simp[intOf];omega)
  ·have zj:¬(j:Int)<(n:Int):=by omega
   have HFo:Hid (yDb goodB [] xs=some ss):=by have h1:=HJ.2.fold;rw[List.take_of_length_le (by have:=HL.out;omega)]at h1;exact h1
   by_cases hm1:m=1
   ·subst hm1;obtain⟨s,rfl⟩:∃s,ss= [s]:=by
     have h1:=HJ.1;match ss,h1 with
     | [s],_=>exact⟨s,rfl⟩
    obtain⟨e0,e1,e2⟩:=HJ.2.own.at 0 s rfl;simp only[Nat.zero_add,Nat.zero_mul]at e0 e1 e2;obtain⟨W9,hW9⟩:=qE (set3 wr w.heap.size (.bool s.valid) (.int .i64 s.kind) (.int .i64 (s.nest:Int)):World);have HW9:Hid (yA W9 w.heap.size 96 3 w.heap.size [.bool s.valid,.int .i64 s.kind,.int .i64 (s.nest:Int)]∧Below w.heap.size w W9):=by rw[hW9];exact⟨HJ.2.res.set3 _ _ _,yF3 HJ.2.below (Nat.le_refl _) _ _ _⟩
    obtain⟨p0,p1,p2⟩:=HW9.1.c3;unfold set3 at hW9;go_wp2_with fail;rw[←hW9];refine bodyPost_ret (v:=.tuple #[.agg #[.bool s.valid,.int .i64 s.kind,.int .i64 (s.nest:Int)],.bool true]) (by simp[results,Tryz.results56,go_sem,p0,p1,p2]) rfl ⟨HW9.2,.inl ⟨s,HFo.out,rfl⟩⟩
   ·have zm:((m:Int) != 1)=true:=by have:¬(m:Int)=1:=(by omega);simpa using this
    obtain⟨W9,hW9⟩:=qE (set3 wr w.heap.size (.bool false) (.int .i64 0) (.int .i64 0):World);have HW9:Hid (yA W9 w.heap.size 96 3 w.heap.size [.bool false,.int .i64 0,.int .i64 0]∧Below w.heap.size w W9):=by rw[hW9];exact⟨HJ.2.res.set3 _ _ _,yF3 HJ.2.below (Nat.le_refl _) _ _ _⟩
    obtain⟨p0,p1,p2⟩:=HW9.1.c3;unfold set3 at hW9;go_wp2_with fail;rw[←hW9];refine bodyPost_ret (v:=.tuple #[.agg #[.bool false,.int .i64 0,.int .i64 0],.bool false]) (by simp[results,Tryz.results56,go_sem,p0,p1,p2]) rfl ⟨HW9.2,.inr ⟨fun s q=>?_,rfl⟩⟩;rw[HFo.out]at q;have h1:=HJ.1;rw[Option.some.inj q]at h1;exact hm1 h1
theorem yGc {g o:Nat} (h:WdN w g o cp xs) (hok:∀e∈xs,e.ok):Calls Tryz.prog 28 #[.agg #[.slice (some ⟨g,o,none⟩) xs.length cp]] w (yGp xs w):=by
 have HO:Hid (WdN w g o cp xs∧∀e∈xs,e.ok):=⟨h,hok⟩;have hg:=h.lt;obtain⟨n,hn⟩:=qE xs.length;have HN:Hid (n=xs.length):=hn;have hcp:=h.caps;rw[←hn]at hcp⊢;unfold maxLen at hcp;clear h hok hn;obtain⟨W0,hW0⟩:=qE (w.alloc (Obj.cells #[.slice (some ⟨g,o,none⟩) n cp] 32):World);have HW0:Hid (yA W0 w.heap.size 32 1 w.heap.size [.slice (some ⟨g,o,none⟩) n cp]∧Below w.heap.size w W0):=by rw[hW0];exact⟨yAa w _ (Nat.le_refl _) rfl,qB⟩
 have c0:=HW0.1.cell (j:=0) rfl;have s0:=HW0.2.size;go_enter Tryz.func28,Tryz.ntmps28;go_upto_region 1 with fail;rw[←hW0];clear hW0;by_cases hbig:200<n
 ·exact zzQ86
 have zb:¬(200:Int)<(n:Int):=by omega
 have HC:Hid (Calls Tryz.prog 56 #[.slice (some ⟨g,o,none⟩) n cp,.func (Fn.func 57) #[] #[]] W0 (yRm xs W0)):=by
  have hl:xs.length≤200:=by rw[←HN.out];omega
  have:=yN6 (w:=W0) (gN:=g) (oN:=o) (cpN:=cp) (HO.1.at.below HW0.2 hg) (by omega) HO.2 hl;rw[←HN.out]at this;exact this
 go_wp2_with fail;refine HC.mono ?_;rintro r w2 ⟨hb2,(⟨s,hs,rfl⟩|⟨hs,rfl⟩)⟩
 ·have HF:Hid (yCk xs↔(s.valid=true∧s.nest≤20)):=by
   show yCk xs↔_;have hsh:=yN4 goodB hs;constructor
   ·rintro⟨_,t,ht,hv,hn⟩;rw[yTs hsh ht];exact⟨hv,hn⟩
   ·rintro⟨hv,hn⟩;exact⟨by have:=HN.out;omega,s,hsh,hv,hn⟩
  have HB:Hid (Below w.heap.size w w2):=HW0.2.trans (hb2.mono s0);obtain⟨v,hv⟩:=qE s.valid;obtain⟨k,hk⟩:=qE s.nest;obtain⟨kd,hkd⟩:=qE s.kind;rw[←hv,←hk]at HF;rw[←hv,←hk,←hkd];clear hs hb2 c0 HC hv hk hkd;cases v
  ·go_wp2_with fail;go_ret;exact⟨_,rfl,by rw[HF.out];simp,HB.trans ((Below.refl _ _).alloc HB.size _)⟩
  ·go_wp2_with fail;go_ret;exact⟨_,rfl,by rw[HF.out];simp<;>omega,HB.trans ((Below.refl _ _).alloc HB.size _)⟩
 ·have HF:Hid (¬yCk xs):=fun q=>by obtain⟨_,s,hsh,_⟩:=q;have:=ShT.fold goodB hsh [];exact hs s (by simpa using this)
  have HB:Hid (Below w.heap.size w w2):=HW0.2.trans (hb2.mono s0);clear hs hb2 c0 HC;go_wp2_with fail;go_ret;exact⟨_,rfl,by simp[HF.out],HB.trans ((Below.refl _ _).alloc HB.size _)⟩
theorem yJ4 {g:Nat} (h:yAm w base g cp xs) (hok:∀e∈xs,e.ok):Calls Tryz.prog 28 #[.agg #[.slice (some ⟨g,0,none⟩) xs.length cp]] w (yGp xs w):=yGc h.wd hok
section
attribute [local go_sem] Oper.semAt_some yId
theorem yIr {ops:Array Oper} {oo:Oper} {K:Act→World→Prop} {E:Prop} (w:World) (hgd:oo.guard=none) (s x:Operand)
  (ho:oo.op=.call {callee:=.builtin .append,args:=#[s,x],argTypes:=#[28,28]})
  (base g cp n b off m cx:Nat) (fs es:List Ent) (hs:a.eval s=.slice (some ⟨g,0,none⟩) n cp) (hx:a.eval x=.slice (some ⟨b,off,none⟩) m cx) (hn:n=fs.length) (hm:m=es.length) (hO:OwnC w base g cp fs)
  (hc:yBd w b off es) (hlen:fs.length+es.length≤2^30) (hbase:base≤w.heap.size)
  (h:∀g' cp' w',OwnC w' base g' cp' (fs++es)→w.grownBy w' (some g)→(g'=g∨g'=w.heap.size)→K (a.put oo.dst (.slice (some ⟨g',0,none⟩) (n+m) cp')) w'):if Region.wanted oo (yielded ops a.tmps)=true then Oper.wp Tryz.prog oo a w K Q else E:=by
 have hw:Region.wanted oo (yielded ops a.tmps)=true:=by simp[Region.wanted,hgd]
 rw[if_pos hw];subst hn;subst hm;obtain⟨i,hi,hz0,hz1,hz2⟩:=info_parts Tryz.infoCel;obtain⟨v',w',hr,hO',hgr,hnil,hat⟩:=run_append_own_at (P:=Tryz.prog) w base 28 oo.type 55 i _ 5 72 Tryz.underlying28 hi hz0 hz1 hz2 rfl (by decide) (.slice (some ⟨g,0,none⟩) fs.length cp) fs.length (yBp fs) hO ⟨b,off,none⟩ es.length cx (yBp es) (yDg es) (fun j u hu=>by rw[Addr.add_mid];exact hc.flat j u hu) (yRb es) (by unfold maxLen;omega) (by omega) hbase;rw[←yEz]at hO';have hlen':(fs++es).length=fs.length+es.length:=by simp
 rcases hO'.2 with⟨hv,_⟩|⟨g',cap',cur,hv,h1,h2,h3⟩
 ·have:=(hnil.1 hv).1;simp at this
 ·subst hv;have hfin:=h g' cap' w' (by unfold OwnC;rw[hlen'];exact hO') hgr (by simp[Value.ownBlock]at hat;exact hat);unfold Oper.wp;simp[execOp,ho,resolve,invoke,builtin,hs,hx,hr,Result.andThen];exact hfin
structure MiI (w:World) (es:List Ent) (t:CT) (gc cc sb fk:Nat) (fc:Array Value) (R:Nat→Prop) (i:Nat) (W:World):Prop where
 told:∃(P:List (Nat×Nat)) (g cp:Nat),allC es 0=P++allC es i∧yA W w.heap.size 28 1 (w.heap.size+1+1) [.slice (some ⟨g,0,none⟩) (P.flatMap fun q=>mean t (segE es q)).length cp]∧OwnC W w.heap.size g cp (P.flatMap fun q=>mean t (segE es q))∧(g=w.heap.size+1∨sb+1<g)
 stp:yA W w.heap.size 58 1 sb [.func (Fn.func fk) #[] fc]
 step:yA3 W t R (.func (Fn.func fk) #[] fc)
 row:RwI (sb+1) gc 0 cc es W
 below:Below w.heap.size w W
structure MiS (w:World) (gc sb:Nat) (R:Nat→Prop):Prop where
 aR:∀k,R k→w.heap.size+1+1<k∧k<sb
 aS:w.heap.size+1+1<sb
 aG:gc<w.heap.size
 aV:1<w.heap.size
variable {es:List Ent} {W:World}
theorem RwI.chg {p b off cap:Nat} {W':World} (h:RwI p b off cap es W) (hc:Chg S W W') (h1:¬S p) (h2:¬S b):RwI p b off cap es W':=by
 refine⟨?_,h.sl.chg hc h2⟩;rw[hc.cell (p:=⟨p,0,none⟩) (by
    have:=h.box
    unfold World.cell? at this
    by_cases q:p<W.heap.size
    ·exact q
    ·rw[Array.getElem?_eq_none (by show W.heap.size≤p;omega)]at this;simp at this) h1]
 exact h.box
variable {gc cc:Nat}
theorem MiI.grow {sb fk:Nat} {fc:Array Value} {R:Nat→Prop} {i:Nat} {W':World} (h:MiI w es t gc cc sb fk fc R i W) (hs:MiS w gc sb R) {row:Option Nat} (hg:W.grownBy W' row) (hr:∀r,row=some r→sb+1<r∧∃o:Obj,W.heap[r]?=some o∧o.isCells=false):MiI w es t gc cc sb fk fc R i W':=by
 have hc:Chg (fun j=>row=some j) W W':=Chg.of_grown hg (fun j q=>q);have hl:∀j,row=some j→sb+1<j:=fun j q=>(hr j q).1;have s1:=hs.aS;have s6:=hs.aG;have s7:=hs.aV;obtain⟨P,g,cp,h1,h2,h3,h4⟩:=h.told;have hng:¬row=some g:=fun q=>by
  obtain⟨_,o,ho,hoc⟩:=hr g q;rcases h3.2 with⟨q,_⟩|⟨g',cap',cur,hv,_,hh,_⟩
  ·cases q
  ·simp at hv;rw[←hv.1,ho]at hh;cases hh
   simp[Obj.isCells]at hoc
 exact⟨⟨P,g,cp,h1,h2.chg hc (fun q=>by have:=hl _ q;omega),yAp h3 hc (fun k q z=>by simp[Value.ownBlock]at q;subst q;exact hng z),h4⟩,h.stp.chg hc (fun q=>by have:=hl _ q;omega),h.step.chg hc (fun q=>by have:=hl _ q;omega) (fun k q z=>by have:=hl _ q;have:=(hs.aR k z).2;omega),h.row.chg hc (fun q=>by have:=hl _ q;omega) (fun q=>by have:=hl _ q;omega),Chg.below h.below hc h.below.size (fun k q=>by have:=hl _ q;omega)⟩
theorem yW8 {i:Nat} (h:yIy es i j):yGn (segE es (i,j)):=by
 have hx:∀x∈segE es (i,j),(es[i]?.map fun x=>x.row.toList)=some x.row.toList:=fun x hx=>by
  obtain⟨k,hk⟩:=List.mem_iff_getElem?.1 hx;unfold segE at hk;rw[List.getElem?_drop,List.getElem?_take]at hk;split at hk
  ·rename_i hlt;have h9:=h.same (i+k) (by omega) hlt;unfold yEt at h9;simp only[hk]at h9;have h10:=eq_of_beq h9;rw[←h10];rfl
  ·cases hk
 intro x h1 y h2;have q:=(hx x h1).symm.trans (hx y h2);have q2:x.row.toList=y.row.toList:=by simpa using q
 cases hxr:x.row with
 |mk a=>cases hyr:y.row with
  |mk b=>
   rw[hxr,hyr]at q2;have:a.toList=b.toList:=by simpa [ByteArray.toList_eq]using q2
   rw[Array.toList_inj.1 this]
theorem yO4 {N:Nat}:Calls Tryz.prog 32 #[.slice (some ⟨gc,0,none⟩) N cc] w fun e w'=>e=.returned (.func (Fn.func 75) #[] #[ptrC w.heap.size])∧w'=w.alloc (Obj.cells #[.slice (some ⟨gc,0,none⟩) N cc] 28):=by go_enter Tryz.func32,Tryz.ntmps32;go_wp2_with fail;go_ret;exact⟨rfl,rfl⟩
theorem yIv {g:Nat} (h:yAm w base g cp xs) (hok:∀e∈xs,e.ok) {bc:Nat} (hC:OwnC w bc gc cc es) (hoe:∀e∈es,e.ok) (hk:∀e∈es,e.kind=0) (hl:es.length≤1048576) (hT:TabD w):
  Calls Tryz.prog 10 #[.agg #[.slice (some ⟨g,0,none⟩) xs.length cp],.slice (some ⟨gc,0,none⟩) es.length cc] w (MeaP xs es w):=by
 have HO:Hid (yAm w base g cp xs∧(∀e∈xs,e.ok)∧OwnC w bc gc cc es∧(∀e∈es,e.ok)∧(∀e∈es,e.kind=0)∧TabD w):=⟨h,hok,hC,hoe,hk,hT⟩;obtain⟨n,hn⟩:=qE xs.length;obtain⟨N,hN⟩:=qE es.length;have HN:Hid (n=xs.length∧N=es.length):=⟨hn,hN⟩;obtain⟨W0,hW0⟩:=qE (((w.alloc (Obj.cells #[.slice (some ⟨g,0,none⟩) n cp] 32)).alloc (Obj.cells #[] 55)).alloc (Obj.cells #[.slice (some ⟨w.heap.size+1,0,none⟩) 0 0] 28):World);have HB0:Hid (yA W0 w.heap.size 32 1 w.heap.size [.slice (some ⟨g,0,none⟩) n cp]∧OwnC W0 w.heap.size (w.heap.size+1) 0 []∧yA W0 w.heap.size 28 1 (w.heap.size+1+1) [.slice (some ⟨w.heap.size+1,0,none⟩) 0 0]∧Below w.heap.size w W0):=by
  have b1:=yAa w (base:=w.heap.size) (t:=32) (sz:=1) #[.slice (some ⟨g,0,none⟩) n cp] (Nat.le_refl _) rfl;obtain⟨X1,hX1⟩:∃X,X=w.alloc (Obj.cells #[.slice (some ⟨g,0,none⟩) n cp] 32):=⟨_,rfl⟩;have z1:X1.heap.size=w.heap.size+1:=by rw[hX1];simp
  have k1:Below w.heap.size w X1:=by rw[hX1];exact qB
  rw[←hX1]at b1 hW0;have b2:=(yC7 X1).mono (base':=w.heap.size) (by omega);obtain⟨X2,hX2⟩:∃X,X=X1.alloc (Obj.cells #[] 55):=⟨_,rfl⟩;have z2:X2.heap.size=w.heap.size+1+1:=by rw[hX2];simp[z1]
  have k2:Below X1.heap.size X1 X2:=by rw[hX2];exact qB
  rw[←hX2]at b2 hW0;have b3:=yAa X2 (base:=w.heap.size) (t:=28) (sz:=1) #[.slice (some ⟨w.heap.size+1,0,none⟩) 0 0] (by omega) rfl;have k3:Below X2.heap.size X2 W0:=by rw[hW0];exact qB
  rw[←hW0,z2]at b3;rw[z1]at b2;exact⟨(b1.below k2).below k3,b2.below k3 b2.lt.2,b3,(k1.trans (k2.mono (by omega))).trans (k3.mono (by omega))⟩
 have HF:Hid (Calls Tryz.prog 28 #[.agg #[.slice (some ⟨g,0,none⟩) n cp]] W0 (yGp xs W0)):=by rw[hn];exact yJ4 (h.below HB0.2.2.2 h.lt.2) hok
 have HV:Hid (∀wx,Below w.heap.size w wx→Calls Tryz.prog 29 #[.slice (some ⟨gc,0,none⟩) N cc] wx (yH8 (yC4 es) wx)):=fun wx hx=>by have h9:=yK2 gc cc es bc wx (hC.below hx hC.lt.2) hoe hl;rw[yQt hk]at h9;rw[hN];exact h9
 rw[←hn,←hN];rw[←hN]at hl;clear h hok hC hoe hk hn hN hT;have c0:=HB0.1.cell (j:=0) rfl;refine(callsIn_wide (n:=9)).1 ?_;refine callsIn_of_wp_marks Tryz.func10 rfl trivial ?_ rfl;simp only[Tryz.ntmps10,List.size_toArray,List.length_cons,List.length_nil,Nat.reduceAdd,Nat.reduceSub,Array.replicate_succ,Array.replicate_zero,List.push_toArray,List.append_toArray,List.nil_append,List.cons_append];gi_wp2;rw[←hW0];clear hW0 c0;refine⟨trivial,(callsIn_wide.2 HF.out).mono ?_⟩;rintro e w1 ⟨r,rfl,hr,hb1⟩;have HR1:Hid ((r=true↔yCk xs)∧yA w1 w.heap.size 32 1 w.heap.size [.slice (some ⟨g,0,none⟩) n cp]∧OwnC w1 w.heap.size (w.heap.size+1) 0 []∧yA w1 w.heap.size 28 1 (w.heap.size+1+1) [.slice (some ⟨w.heap.size+1,0,none⟩) 0 0]∧Below w.heap.size w w1):=⟨hr,HB0.1.below hb1,HB0.2.1.below hb1 HB0.2.1.lt.2,HB0.2.2.1.below hb1,HB0.2.2.2.trans (hb1.mono HB0.2.2.2.size)⟩;clear hr hb1 HF HB0;cases r
 case false=>have c5:=HR1.2.2.2.1.cell (j:=0) rfl;have HE:Hid (yEg xs es []∧OwnC w1 w.heap.size (w.heap.size+1) 0 []∧Below w.heap.size w w1):=⟨.inl ⟨fun q=>Bool.noConfusion (HR1.1.2 q.1),rfl⟩,HR1.2.2.1,HR1.2.2.2.2⟩;gi_wp2;refine⟨trivial,?_⟩;gi_wp2;exact⟨_,results_tmp rfl _ _ _,w.heap.size+1,0,[],rfl,HE.out⟩
 case true=>
 have hgf:yCk xs:=by have h9:=HR1.1;simpa using h9
 have HV1:Hid (Calls Tryz.prog 29 #[.slice (some ⟨gc,0,none⟩) N cc] w1 (yH8 (yC4 es) w1)):=HV.out w1 HR1.2.2.2.2;have HGF:Hid (yCk xs):=hgf;clear hgf;gi_wp2;refine⟨trivial,(callsIn_wide.2 HV1.out).mono ?_⟩;rintro e w2 ⟨r2,rfl,hr2,hb2⟩;have HR2:Hid ((r2=true↔yC4 es)∧yA w2 w.heap.size 32 1 w.heap.size [.slice (some ⟨g,0,none⟩) n cp]∧OwnC w2 w.heap.size (w.heap.size+1) 0 []∧yA w2 w.heap.size 28 1 (w.heap.size+1+1) [.slice (some ⟨w.heap.size+1,0,none⟩) 0 0]∧Below w.heap.size w w2):=⟨hr2,HR1.2.1.below hb2,HR1.2.2.1.below hb2 HR1.2.2.1.lt.2,HR1.2.2.2.1.below hb2,HR1.2.2.2.2.trans (hb2.mono HR1.2.2.2.2.size)⟩;clear hr2 hb2 HV1 HR1;cases r2
 case false=>have c5:=HR2.2.2.2.1.cell (j:=0) rfl;have HE:Hid (yEg xs es []∧OwnC w2 w.heap.size (w.heap.size+1) 0 []∧Below w.heap.size w w2):=⟨.inl ⟨fun q=>Bool.noConfusion (HR2.1.2 q.2),rfl⟩,HR2.2.2.1,HR2.2.2.2.2⟩;gi_wp2;exact⟨_,results_tmp rfl _ _ _,w.heap.size+1,0,[],rfl,HE.out⟩
 case true=>
 have hgr:yC4 es:=by have h9:=HR2.1;simpa using h9
 obtain⟨t,ht⟩:=yHz HGF.out;have HT:Hid (yEg xs es (meanAll t es)∧yC4 es∧Sub es es):=⟨.inr ⟨⟨HGF.out,hgr⟩,t,ht,rfl⟩,hgr,yLz hgr HO.2.2.2.2.1 HO.2.2.2.1⟩;have hN10:N≤10000:=by rw[HN.2];exact hgr.1.1
 have HFo:Hid (Calls Tryz.prog 30 #[.slice (some ⟨g,0,none⟩) n cp,.func (Fn.func 31) #[] #[]] w2 (yVw t w2)):=by rw[HN.1];have hNd:=HO.1.below HR2.2.2.2.2 HO.1.lt.2;exact yMr hNd.at hNd.lt.2 ht HGF.1 (yHd HGF.out) (HO.2.2.2.2.2.chg (S:=fun _=>False) (Chg.of_below HR2.2.2.2.2) (fun q=>q))
 have c0:=HR2.2.1.cell (j:=0) rfl;clear hgr ht;gi_wp2;refine⟨trivial,(callsIn_wide.2 HFo.out).mono ?_⟩;rintro e w3 ⟨⟨fk,fc⟩,rfl,H3⟩;clear HFo c0;obtain⟨R,hSt,hRb,hb3⟩:=H3.out;clear H3;obtain⟨W4,hW4⟩:=qE (w3.alloc (Obj.cells #[.func (Fn.func fk) #[] fc] 58):World);have hb4:Below w3.heap.size w3 W4:=by rw[hW4];exact qB
 have hz4:W4.heap.size=w3.heap.size+1:=by rw[hW4];simp
 have hz3:=hb3.size;have hb5:Below W4.heap.size W4 (W4.alloc (Obj.cells #[.slice (some ⟨gc,0,none⟩) N cc] 28)):=qB;obtain⟨sb,hsb⟩:=qE w3.heap.size;obtain⟨W5,hW5⟩:=qE (W4.alloc (Obj.cells #[.slice (some ⟨gc,0,none⟩) N cc] 28):World);rw[←hW5]at hb5;have hz5:W5.heap.size=sb+1+1:=by rw[hW5,hsb];simp[hz4]
 have HM:Hid (MiI w es t gc cc sb fk fc R 0 W5∧MiS w gc sb R∧yGf fk):=by
  have k24:Below w2.heap.size w2 W4:=hb3.trans (hb4.mono hz3);have k25:Below w2.heap.size w2 W5:=k24.trans (hb5.mono (by omega));have s2:=HR2.2.2.2.2.size;have b2:=HR2.2.2.2.1.lt.2;have hbb:Below w.heap.size w W5:=HR2.2.2.2.2.trans (k25.mono s2);refine⟨⟨⟨[],w.heap.size+1,0,rfl,HR2.2.2.2.1.below k25,HR2.2.2.1.below k25 HR2.2.2.1.lt.2,.inl rfl⟩,?_,(hSt.below hb4).below hb5,⟨?_,(HO.2.2.1.sl).below hbb⟩,hbb⟩,⟨fun k z=>by have:=hRb k z;omega,by omega,HO.2.2.1.lt.2,HO.2.2.2.2.2.lt⟩,hSt.callOk⟩
  ·have h9:=yAa w3 (base:=w.heap.size) (t:=58) (sz:=1) #[.func (Fn.func fk) #[] fc] (by omega) rfl;rw[←hW4,←hsb]at h9;exact h9.below hb5
  ·have h9:=yAa W4 (base:=w.heap.size) (t:=28) (sz:=1) #[.slice (some ⟨gc,0,none⟩) N cc] (by omega) rfl;rw[←hW5,hz4,←hsb]at h9;rw[←HN.2];exact h9.cell (j:=0) rfl
 have HW5:Hid (W5.heap.size=sb+1+1):=hz5;have hp4:W4.heap.size=sb+1:=by omega
 clear hSt hRb hb3 hb4 hb5 hz4 hz3 hz5 HR2;gi_wp2;rw[←hW4,←hsb];refine⟨trivial,(callsIn_wide.2 (yO4 (w:=W4) (gc:=gc) (N:=N) (cc:=cc))).mono ?_⟩;rintro e w5 ⟨rfl,rfl⟩;rw[←hW5,hp4];clear hW5 hW4 hp4 hsb;gi_wp2;refine yLs (by decide) es (sb+1) gc 0 cc (by rw[←HN.2];exact hN10) rfl rfl (fun i W=>MiI w es t gc cc sb fk fc R i W) ?hI ?hIt HM.1 (fun i j=>{tmps:=#[.agg #[.slice (some ⟨g,0,none⟩) n cp],.slice (some ⟨gc,0,none⟩) N cc,.pointer (some ⟨w.heap.size,0,none⟩),undef,.slice none 0 0,.pointer (some ⟨w.heap.size+1+1,0,none⟩),.pointer (some ⟨sb,0,none⟩),.bool true,segV gc 0 cc (i,j),.slice (some ⟨w.heap.size+1,0,none⟩) 0 0,.agg #[.slice (some ⟨g,0,none⟩) n cp],.bool true,.bool false,.bool false,.slice (some ⟨gc,0,none⟩) N cc,.bool true,.bool false,.bool false,undef,.tuple #[fvC (fk,fc),.bool true],.pointer (some ⟨w.heap.size,0,none⟩),.slice (some ⟨g,0,none⟩) n cp,.tuple #[fvC (fk,fc),.bool true],fvC (fk,fc),.bool true,.slice (some ⟨gc,0,none⟩) N cc,.func (Fn.func 75) #[] #[ptrC (sb+1)],segV gc 0 cc (i,j),undef,undef,undef,undef,undef,undef],defers:= []}) ?assign ?body ?done;case hI=>
  rintro k A B row hA hg hr;exact hA.grow HM.2.1 hg (fun r q=>by have:=hr r q;have hz:=HW5.out;exact⟨by omega,this.2⟩)
 case hIt=>exact fun k W hA=>hA.row
 case assign=>intro l i j W K hK;gi_wp2;exact hK
 case body=>
  intro l i j W hA hE;obtain⟨P,gt,ct,hP,hB,hO,hgt⟩:=hA.told;have hel:es.length≤10000:=by rw[←HN.2];exact hN10
  have hmt:(P.flatMap fun q=>mean t (segE es q)).length≤100000000:=by refine Nat.le_trans (yMt HT.2.2 hel _) ?_;have h8:(allC es 0).length≤es.length:=yKc es _ 0;rw[hP,List.length_append]at h8;omega
  have hseg:=yGy HT.2.2 (i,j);have hsl:(segE es (i,j)).length=j-i:=yQl hE.le;have hml:(mean t (segE es (i,j))).length≤10000:=by have h8:=(yA1 t hseg).len hseg.ord;rw[hsl]at h8;have:=hE.le;omega
  have hd:Below W.heap.size W W.drew:=(Below.refl _ _).drew;have sS:=HM.2.1;have sbl:=hA.stp.lt.2;have HCall:Hid (Calls Tryz.prog fk (#[.slice (some ⟨gc,i*5,none⟩) (j-i) (cc-i)]++fc) W.drew (StpP t R (.func (Fn.func fk) #[] fc) gc (segE es (i,j)) W.drew)):=by have h9:=yDz t W.drew R fk fc gc (0+i*5) (cc-i) (segE es (i,j)) (hA.step.below hd) (fun k z=>by have:=(sS.aR k z).2;show k<W.drew.heap.size;have:W.drew.heap.size=W.heap.size:=rfl;omega) (fun z=>by have:=(sS.aR _ z).1;have:=sS.aV;omega) ⟨(hA.row.sl.below hd).seg (Nat.le_of_lt hE.lt) hE.le,fun z=>by have:=(sS.aR _ z).1;have:=sS.aG;omega,hseg,yW8 hE,by rw[hsl];have:=hE.le;omega⟩;rw[hsl,Nat.zero_add]at h9;exact h9
  obtain⟨m,hm⟩:=qE ((P.flatMap fun q=>mean t (segE es q)).length);rw[←hm]at hB hmt;have HA:Hid (MiI w es t gc cc sb fk fc R i W∧yIy es i j∧allC es 0=P++allC es i∧yA W w.heap.size 28 1 (w.heap.size+1+1) [.slice (some ⟨gt,0,none⟩) m ct]∧OwnC W w.heap.size gt ct (P.flatMap fun q=>mean t (segE es q))∧(gt=w.heap.size+1∨sb+1<gt)∧m=(P.flatMap fun q=>mean t (segE es q)).length):=⟨hA,hE,hP,hB,hO,hgt,hm⟩;have hS0:(fun w':World=>w'.cell? ⟨w.heap.size+1+1,0,none⟩=some (.slice (some ⟨gt,0,none⟩) m ct)∧w'.cell? ⟨sb,0,none⟩=some (.func (Fn.func fk) #[] fc)) W.drew:=⟨hB.cell (j:=0) rfl,hA.stp.cell (j:=0) rfl⟩;have HMl:Hid ((mean t (segE es (i,j))).length≤10000):=hml;have hka:∀(args:Array Value) (w:World),(callFunc fk args).run Tryz.prog w=.ok (.enter fk args) w:=HM.2.2;have hsg:segV gc 0 cc (i,j)=.slice (some ⟨gc,i*5,none⟩) (j-i) (cc-i):=by unfold segV;simp only[Nat.zero_add]
  rw[hsg];clear hA hE hP hB hO hgt hm hel hseg hsl hml hd sS sbl hsg;gi_wp2;refine yDc 5 (fun w':World=>w'.cell? ⟨w.heap.size+1+1,0,none⟩=some (.slice (some ⟨gt,0,none⟩) m ct)∧w'.cell? ⟨sb,0,none⟩=some (.func (Fn.func fk) #[] fc)) (by kernel_rfl) (by kernel_rfl) ?hlet ?_;case hlet=>rintro⟨a0,w0,hq⟩;exact nomatch (show Exit.outgrown=Exit.normal from hq.1)
  refine j2a 0 hS0 ?_;iterate 2 refine j2b hS0 ?_
  refine qO 3 rfl fun K hK=>?_;go_simp;refine HCall.mono ?_;rintro e v5 ⟨b5,o5,c5,rfl,H5⟩;have HV:Hid (yA v5 w.heap.size 28 1 (w.heap.size+1+1) [.slice (some ⟨gt,0,none⟩) m ct]∧OwnC v5 w.heap.size gt ct (P.flatMap fun q=>mean t (segE es q))∧yA v5 w.heap.size 58 1 sb [.func (Fn.func fk) #[] fc]∧RwI (sb+1) gc 0 cc es v5∧Below w.heap.size w v5∧Chg R W v5):=by have hc5:Chg R W v5:=(Chg.of_below ((Below.refl W.heap.size W).drew)).trans H5.2.2.2;have sS:=HM.2.1;have hA:=HA.out;have s1:=sS.aS;have s2:=sS.aG;have s3:=hA.2.2.2.2.2.1;refine⟨hA.2.2.2.1.chg hc5 (fun z=>by have:=sS.aR _ z;omega),yAp hA.2.2.2.2.1 hc5 (fun k q z=>by simp[Value.ownBlock]at q;have:=sS.aR _ z;omega),hA.1.stp.chg hc5 (fun z=>by have:=sS.aR _ z;omega),hA.1.row.chg hc5 (fun z=>by have:=sS.aR _ z;omega) (fun z=>by have:=sS.aR _ z;omega),Chg.below hA.1.below hc5 hA.1.below.size (fun k z=>by have:=sS.aR _ z;omega),hc5⟩
  have hS5:(fun w':World=>w'.cell? ⟨w.heap.size+1+1,0,none⟩=some (.slice (some ⟨gt,0,none⟩) m ct)∧w'.cell? ⟨sb,0,none⟩=some (.func (Fn.func fk) #[] fc)) v5:=⟨HV.1.cell (j:=0) rfl,HV.2.2.1.cell (j:=0) rfl⟩;refine hK.out _ _ (.inr hS5) ?_;clear hK HCall hS0 hka;refine jS ?_;refine qO 4 rfl fun K hK=>?_;refine yIr v5 rfl _ _ rfl w.heap.size gt ct m b5 o5 _ c5 (P.flatMap fun q=>mean t (segE es q)) (mean t (segE es (i,j))) rfl rfl HA.2.2.2.2.2.2 rfl HV.2.1 H5.1.at_ (by have:=HA.2.2.2.2.2.2;have:=HMl.out;omega) HV.2.2.2.2.1.size (fun g6 c6 v6 hO6 hg6 ha6=>?_);have HV6:Hid (yA v6 w.heap.size 28 1 (w.heap.size+1+1) [.slice (some ⟨gt,0,none⟩) m ct]∧OwnC v6 w.heap.size g6 c6 ((P.flatMap fun q=>mean t (segE es q))++mean t (segE es (i,j)))∧yA v6 w.heap.size 58 1 sb [.func (Fn.func fk) #[] fc]∧RwI (sb+1) gc 0 cc es v6∧Below w.heap.size w v6∧Chg (fun k=>R k∨k=gt) W v6∧yA3 v6 t R (.func (Fn.func fk) #[] fc)∧(g6=w.heap.size+1∨sb+1<g6)):=by
   have hc6:Chg (fun k=>k=gt) v5 v6:=Chg.of_grown hg6 (fun k q=>by cases q;rfl);have sS:=HM.2.1;have s1:=sS.aS;have s2:=sS.aG;have s4:=sS.aV;have s3:=HA.2.2.2.2.2.1;have s5:=HV.2.1.lt.1;have s6:=HV.2.2.2.1.sl.lt;have s7:sb+1<v5.heap.size:=by
    have hz:=HV.2.2.2.1.box;unfold World.cell? at hz;by_cases q:sb+1<v5.heap.size
    ·exact q
    ·rw[Array.getElem?_eq_none (by show v5.heap.size≤sb+1;omega)]at hz;simp at hz
   refine⟨HV.1.chg hc6 (by omega),hO6,HV.2.2.1.chg hc6 (by omega),HV.2.2.2.1.chg hc6 (by omega) (by omega),Chg.below HV.2.2.2.2.1 hc6 HV.2.2.2.2.1.size (fun k z=>by omega),⟨hc6.os.trans HV.2.2.2.2.2.os,hc6.tape.trans HV.2.2.2.2.2.tape,hc6.output.trans HV.2.2.2.2.2.output,Nat.le_trans HV.2.2.2.2.2.size hc6.size,fun k hk hn=>(hc6.block k (Nat.lt_of_lt_of_le hk HV.2.2.2.2.2.size) (fun z=>hn (.inr z))).trans (HV.2.2.2.2.2.block k hk (fun z=>hn (.inl z)))⟩,H5.2.2.1.chg hc6 (by omega) (fun k z y=>by have:=sS.aR _ y;omega),?_⟩;rcases ha6 with z|z
   ·rw[z];exact s3
   ·right;omega
  have hS6:(fun w':World=>w'.cell? ⟨w.heap.size+1+1,0,none⟩=some (.slice (some ⟨gt,0,none⟩) m ct)∧w'.cell? ⟨sb,0,none⟩=some (.func (Fn.func fk) #[] fc)) v6:=⟨HV6.1.cell (j:=0) rfl,HV6.2.2.1.cell (j:=0) rfl⟩;obtain⟨m6,hm6⟩:=qE (m+(mean t (segE es (i,j))).length);have HM6:Hid (m6=((P++ [(i,j)]).flatMap fun q=>mean t (segE es q)).length):=by show _=_;rw[List.flatMap_append,List.length_append,hm6,HA.2.2.2.2.2.2];simp
  rw[←hm6];refine hK.out _ _ (.inr hS6) ?_;clear hK hS5 HV hO6 hg6 ha6 hm6;have o6:=HV6.1.frozen 0;have y6:=HV6.1.cell (j:=0) rfl;refine jS ?_;refine qO 5 rfl fun K hK=>?_;go_simp;refine hK.out _ _ (.inl rfl) ?_;clear hK;refine jS ?_;refine qD ?_;have hc7:Chg (fun k=>k=w.heap.size+1+1) v6 (v6.setCell ⟨w.heap.size+1+1,0,none⟩ (.slice (some ⟨g6,0,none⟩) m6 c6)):=Chg.of_set v6 _ 0 _ rfl;have h6:=HV6.out;have sS:=HM.2.1;have s1:=sS.aS;have s2:=sS.aG;have s4:=sS.aV;have hz:=HW5.out;have h7:=h6.1.set 0 (.slice (some ⟨g6,0,none⟩) m6 c6);refine⟨rfl,⟨Nat.le_trans h6.2.2.2.2.2.1.size hc7.size,fun k o hk ho hoc=>(hc7.block k (Nat.lt_of_lt_of_le (Array.getElem?_eq_some_iff.1 ho).1 h6.2.2.2.2.2.1.size) (by omega)).trans ((h6.2.2.2.2.2.1.block k (Array.getElem?_eq_some_iff.1 ho).1 (fun z=>?_)).trans ho)⟩,?_⟩
  ·rcases z with z|z
   ·have:=sS.aR k z;omega
   ·subst z;rcases HA.2.2.2.2.1.2 with⟨q,_⟩|⟨g',cap',cur,hv,_,hh,_⟩
    ·cases q
    ·simp at hv;rw[←hv.1,ho]at hh;cases hh
     simp[Obj.isCells]at hoc
  ·refine⟨⟨P++ [(i,j)],g6,c6,?_,?_,?_,h6.2.2.2.2.2.2.2⟩,h6.2.2.1.chg hc7 (by omega),h6.2.2.2.2.2.2.1.chg hc7 (by omega) (fun k z y=>by have:=sS.aR k y;omega),h6.2.2.2.1.chg hc7 (by omega) (by omega),Chg.below h6.2.2.2.2.1 hc7 h6.2.2.2.2.1.size (fun k z=>by omega)⟩
   ·rw[HA.2.2.1,yKm HA.2.1];simp
   ·rw[←HM6.out];exact h7
   ·have h8:=yAp h6.2.1 hc7 (fun k q z=>by simp[Value.ownBlock]at q;have:=h6.2.2.2.2.2.2.2;omega);rw[List.flatMap_append];simpa [OwnC]using h8
 case done=>
  rintro Dd W hD hA hKD;obtain⟨P,gt,ct,hP,hB,hO,hgt⟩:=hA.told;rw[yOj (Nat.le_refl _),List.append_nil]at hP;have HE:Hid (yEg xs es (meanAll t es)∧OwnC (W.putObj Dd (.deferred none)) w.heap.size gt ct (meanAll t es)∧Below w.heap.size w (W.putObj Dd (.deferred none))):=by
   have hc8:Chg (fun k=>k=Dd) W (W.putObj Dd (.deferred none)):=Chg.of_grown (grownBy_putObj' W Dd _) (fun j q=>by cases q;rfl);have hz:=HW5.out;have s1:=HM.2.1.aS;refine⟨HT.1,?_,Chg.below hA.below hc8 hA.below.size (fun k z=>by omega)⟩;unfold meanAll;rw[hP];refine yAp hO hc8 (fun k q z=>?_);simp[Value.ownBlock]at q;subst q;subst z;rcases hO.2 with⟨q,_⟩|⟨g',cap',cur,hv,_,hh,_⟩
   ·cases q
   ·simp at hv;rw[←hv.1,hKD]at hh;cases hh
  have hme:(P.flatMap fun q=>mean t (segE es q))=meanAll t es:=by unfold meanAll;rw[hP]
  rw[hme]at hB;have c9:=hB.cell (j:=0) rfl;obtain⟨m,hm⟩:=qE ((meanAll t es).length);have HMm:Hid (m=(meanAll t es).length):=hm;rw[←hm]at c9;clear hA hP hB hO hgt hme hm;gi_wp2;refine⟨by simp,.inl ⟨_,_,rfl,run_takeDeferred hKD,?_⟩⟩;exact⟨_,results_tmp rfl _ _ _,gt,ct,meanAll t es,by rw[←HMm.out];rfl,HE⟩
end
theorem yNp (b off cap b' off' cap':Nat) (es:List Ent) (w:World) (hE:yBd w b off es) (hE':yBd w b' off' es) (hB:b<w.heap.size) (hB':b'<w.heap.size) (hlen:es.length≤maxLen):
  Calls Tryz.prog 21 #[.slice (some ⟨b,off,none⟩) es.length cap,.slice (some ⟨b',off',none⟩) es.length cap'] w fun e w'=>e=.returned (.bool true)∧Below w.heap.size w w':=by
 have HE:Hid (yBd w b off es∧yBd w b' off' es):=⟨hE,hE'⟩;clear hE hE';unfold maxLen at hlen;go_enter Tryz.func21,Tryz.ntmps21;go_wp2;go_loopw[5] (fun i wr=>∃(k:Nat),k≤es.length∧i=.int .i64 k∧Below w.heap.size w wr) (fun i _=>es.length-(intOf i).toNat);case atStart=>exact⟨0,Nat.zero_le _,rfl,Below.refl _ _⟩
 case round=>
  obtain⟨k,hk,rfl,hb⟩:=hrel;have hs2:=hb.size;by_cases hlt:k<es.length
  ·obtain⟨e,he⟩:∃e,es[k]?=some e:=⟨_,List.getElem?_eq_getElem hlt⟩;obtain⟨c0,c1,c2,c3,c4⟩:=HE.1.below hb hB k e he;obtain⟨d0,d1,d2,d3,d4⟩:=HE.2.below hb hB' k e he;clear he;go_upto_region 6 with fail;go_cut[25] (fun s wx=>s=.bool false∧Below w.heap.size w wx);case first=>
    have z2:(k:Int)<(es.length:Int):=by omega
    go_region;all_goals go_wp2_with fail
    all_goals go_meet
    all_goals exact⟨rfl,hb.drew⟩
   case rest=>
   obtain⟨rfl,h3⟩:=hcut;clear c0 c1 c2 c3 c4 d0 d1 d2 d3 d4;go_wp2_with fail;go_roundw;case rel=>exact⟨k+1,by omega,by go_num,h3⟩
   case measure=>simp[intOf];omega
  ·go_wp2_with fail;go_ret;exact⟨rfl,hb⟩
theorem yJt {g base' cp':Nat} {es:List Ent} (h:OwnC w base g cp es) (h':OwnC w base' g' cp' es):
  Calls Tryz.prog 21 #[.slice (some ⟨g,0,none⟩) es.length cp,.slice (some ⟨g',0,none⟩) es.length cp'] w fun e w'=>e=.returned (.bool true)∧Below w.heap.size w w':=
 yNp g 0 cp g' 0 cp' es w h.at h'.at h.lt.2 h'.lt.2 (Nat.le_trans h.caps.1 h.caps.2)
theorem yBu (v:Value) (xs:List Nd) (k:Int) (w:World) (h:yK8 w v xs) (hl:xs.length≤1000000):Calls Tryz.prog 116 #[v,.int .i64 k] w fun r w'=>r=.returned (.bool (isKB xs k))∧w'=w:=by
 obtain⟨a,c,rfl,hf⟩:=h.form;obtain⟨B,hB⟩:=qE (isKB xs k);rw[←hB];have HB:Hid (B=isKB xs k):=hB;clear hB h;by_cases h1:xs.length=1
 ·obtain⟨n,rfl⟩:∃n,xs= [n]:=List.length_eq_one_iff.1 h1;obtain⟨b,o,rfl,hE,_⟩:=hf (by simp);obtain⟨c0,_⟩:=hE 0 n rfl;simp only[Nat.zero_mul,Nat.add_zero]at c0;clear hf hE h1;by_cases hk:n.kind=k
  ·have hb:B=true:=by rw[HB.out];exact(yB9 _ _).2 ⟨n,rfl,hk⟩
   subst hb;go_enter Tryz.func116,Tryz.ntmps116;go_wp2_with fail;go_ret;exact⟨by simp[hk],rfl⟩
  ·have hb:B=false:=by rw[HB.out];exact yC0 (fun⟨m,q,r⟩=>by cases q;exact hk r)
   subst hb;go_enter Tryz.func116,Tryz.ntmps116;go_wp2_with fail;go_ret;exact⟨by simp[hk],rfl⟩
 ·have hb:B=false:=by rw[HB.out];exact yC0 (fun⟨m,q,r⟩=>by rw[q]at h1;simp at h1)
  subst hb;have z1:((xs.length:Int)==1)=false:=by rw[beq_eq_false_iff_ne];omega
  clear hf;go_enter Tryz.func116,Tryz.ntmps116;go_wp2_with fail;go_ret;exact⟨rfl,rfl⟩
theorem yJ9 (v v':Value) (xs ys:List Nd) (w:World) (h:yK8 w v xs) (h':yK8 w v' ys) (hl:xs.length≤1000000) (hl':ys.length≤1000000):Calls Tryz.prog 118 #[v,v'] w fun r w'=>r=.returned (.bool (sameB xs ys))∧∃m,w'=w.drewN m:=by
 obtain⟨a,c,rfl,hf⟩:=h.form;obtain⟨a',c',rfl,hf'⟩:=h'.form;obtain⟨B,hB⟩:=qE (sameB xs ys);rw[←hB];have HB:Hid (B=sameB xs ys):=hB;have HF:Hid ((xs≠ []→∃b o,a=some ⟨b,o,none⟩∧yAy w b o xs∧b<w.heap.size∧xs.length≤c∧c≤maxLen)∧(ys≠ []→∃b o,a'=some ⟨b,o,none⟩∧yAy w b o ys∧b<w.heap.size∧ys.length≤c'∧c'≤maxLen)):=⟨hf,hf'⟩;clear hB h h' hf hf';by_cases hle:xs.length=ys.length;case neg=>
  have hb:B=false:=by rw[HB.out];exact yI0 (fun q=>hle (by rw[q]))
  subst hb;have z1:((xs.length:Int) != (ys.length:Int))=true:=bne_iff_ne.2 (by omega);go_enter Tryz.func118,Tryz.ntmps118;go_wp2_with fail;go_ret;exact⟨rfl,0,rfl⟩
 obtain⟨n,hn⟩:=qE xs.length;have HN:Hid (n=xs.length∧n=ys.length):=⟨hn,by omega⟩;rw[←hle,←hn];have hn1:n≤1000000:=by omega
 clear hn hle hl hl';go_enter Tryz.func118,Tryz.ntmps118;go_wp2_with fail;go_loopw[13] (fun i wr=>∃(k m:Nat),k≤n∧i=.int .i64 k∧Hid (xs.take k=ys.take k)∧wr=w.drewN m) (fun i _=>n-(intOf i).toNat);case atStart=>exact⟨0,0,Nat.zero_le _,rfl,rfl,rfl⟩
 case round=>
  obtain⟨k,m,hk,rfl,HT,rfl⟩:=hrel;by_cases hlt:k<n
  ·have zk:(k:Int)<(n:Int):=by omega
   obtain⟨x,hx⟩:∃x,xs[k]?=some x:=⟨_,List.getElem?_eq_getElem (by have:=HN.1;omega)⟩;obtain⟨y,hy⟩:∃y,ys[k]?=some y:=⟨_,List.getElem?_eq_getElem (by have:=HN.2;omega)⟩;obtain⟨b,o,hab,hE,_⟩:=HF.1 (by rintro rfl;simp at hx);obtain⟨b',o',hab',hE',_⟩:=HF.2 (by rintro rfl;simp at hy);obtain⟨c0,c1,c2,c3,c4,c5,c6⟩:=hE k x hx;obtain⟨d0,d1,d2,d3,d4,d5,d6⟩:=hE' k y hy;obtain⟨Q,hQ,hq⟩:=yQ1 x y;have HX:Hid (xs[k]?=some x∧ys[k]?=some y∧(Q=false↔x=y)):=⟨hx,hy,hQ⟩;subst hab hab';clear hx hy hE hE' hQ HF;cases Q
   case true=>
    have hb:B=false:=by rw[HB.out];refine yI0 (fun q=>?_);have h1:=HX.1;rw[q,HX.2.1]at h1;have:=HX.2.2.2 (Option.some.inj h1).symm;cases this
    subst hb;go_wp2_with fail;go_quiet (fail);go_wp2_with fail;go_ret;exact⟨rfl,_,World.drewN_drewN ..⟩
   case false=>
    have HT2:Hid (xs.take (k+1)=ys.take (k+1)):=by show _=_;rw[List.take_add_one,List.take_add_one,HT.out,HX.1,HX.2.1,HX.2.2.1 rfl]
    go_wp2_with fail;go_quiet (fail);go_wp2_with fail;go_roundw;case rel=>exact⟨k+1,_,by omega,by go_num,HT2,rfl⟩
    case measure=>simp[intOf];omega
  ·have zk:¬(k:Int)<(n:Int):=by omega
   have hb:B=true:=by rw[HB.out];refine(yGz _ _).2 ?_;have:=HT.out;rw[List.take_of_length_le (by have:=HN.1;omega),List.take_of_length_le (by have:=HN.2;omega)]at this;exact this
   subst hb;go_wp2_with fail;go_ret;exact⟨rfl,m,rfl⟩
theorem yHp {ops:Array Oper} {rest:List Oper} {o:Oper} (w:World) (hgd:o.guard=none) (s x:Operand)
  (ho:o.op=.call {callee:=.builtin .append,args:=#[s,x],argTypes:=#[30,30]})
  (base:Nat) (v:Value) (b off m cx:Nat) (fs es:List Nd) (hs:a.eval s=v) (hx:a.eval x=.slice (some ⟨b,off,none⟩) m cx) (hm:m=es.length) (hO:w.ownsRow base 75 7 v fs.length (yBr fs))
  (hc:yAy w b off es) (hlen:fs.length+es.length≤2^30) (hbase:base≤w.heap.size)
  (h:∀v' w',w'.ownsRow base 75 7 v' (fs++es).length (yBr (fs++es))→w.grownBy w' v.ownBlock→wpList Tryz.prog ops Q rest (a.put o.dst v') w'):wpList Tryz.prog ops Q (o::rest) a w:=by
 subst hm;obtain⟨i,hi,hz0,hz1,hz2⟩:=info_parts Tryz.infoNd;refine wpList_append_own_at w hgd s x 30 ho base 75 i _ 7 72 Tryz.underlying30 hi hz0 hz1 hz2 rfl (by decide) v fs.length (yBr fs) hs hO ⟨b,off,none⟩ es.length cx (yBr es) hx (yDf es) (yNj hc) (yUn es) ?_ ?_ hbase ?_
 ·unfold maxLen;omega
 ·omega
 ·intro v' w' hO' hgr hnil hat;refine h v' w' ?_ hgr;rw[List.length_append,yHi];exact hO'
theorem yU6 (w:World) (t:TypeId) (z:Array Value) (size n c:Nat) (hz:z.size=size) (hn:n≤c) (hc:c≤maxLen):
  (w.drew.alloc (.cells (Builtin.zeroCells z n++Builtin.zeroCells z (c-n)) t)).ownsRow w.heap.size t size (.slice (some ⟨w.heap.size,0,none⟩) 0 c) 0 []:=by
 refine⟨by simp,.inr ⟨w.heap.size,c,_,rfl,Nat.le_refl _,heap_alloc_new w.drew _,Nat.zero_le _,hc,?_,by simp⟩⟩;rw[Array.size_append,size_zeroCells,size_zeroCells,hz,←Nat.add_mul];congr 1;omega
def GrowN (w:World) (r:Ending) (w':World):Prop:=∃v:Value,r=.returned v∧w'.ownsRow w.heap.size 75 7 v 0 []∧Below w.heap.size w w'
theorem ySm (n:Nat) (w:World) (hn:n≤2^30):
  Calls Tryz.prog 146 #[.slice none 0 0,.int .i64 n] w fun r w'=>GrowN w r w':=by
 obtain⟨i,hi,hz0,hz1,hz2⟩:=info_parts Tryz.infoNd;by_cases h0:n=0
 ·subst h0;go_enter Tryz.func146,Tryz.ntmps146;go_wp2_with fail;go_ret;exact⟨_,rfl,World.ownsRow_nil ..,Below.refl _ _⟩
 ·have hp:0<n:=by omega
  have HG:Hid (n≤grownCap w n 0 75∧grownCap w n 0 75≤maxLen):=⟨grownCap_ge w n 0 _,grownCap_le_maxLen w n 0 _ (by unfold maxLen;omega)⟩;have HRun:Hid (∀ty,(Builtin.append_ #[30,3] ty #[.slice none 0 0,.int .i64 n]).run Tryz.prog w=.ok (.slice (some ⟨w.heap.size,0,none⟩) n (grownCap w n 0 75)) (w.drew.alloc (.cells (Builtin.zeroCells #[.int .i64 0,.string ⟨#[]⟩,.bool false,.string ⟨#[]⟩,.int .u64 0,.int .u64 0,.int .i64 0] n++Builtin.zeroCells #[.int .i64 0,.string ⟨#[]⟩,.bool false,.string ⟨#[]⟩,.int .u64 0,.int .u64 0,.int .i64 0] (grownCap w n 0 75-n)) 75))):=fun ty=>
   Go.Lib.run_append_nil_zeros w 30 3 ty 75 i (.agg #[.int .i64 0,.string ⟨#[]⟩,.bool false,.string ⟨#[]⟩,.int .u64 0,.int .u64 0,.int .i64 0]) .i64 .i64 Tryz.underlying30 Tryz.underlying3 hi hz0 n hp (by omega) (by omega) (by rw[hz2];omega)
  obtain⟨c,hc⟩:=qE (grownCap w n 0 75);rw[←hc]at HG HRun;have hcm:=HG.2;have hcn:=HG.1;unfold maxLen at hcm;have zp:(0:Int)<(n:Int):=by omega
  clear h0 hc hi hz0 hz1 hz2;go_enter Tryz.func146,Tryz.ntmps146;go_wp2_with (at_builtin;refine Go.Lib.wpList_append_run _ rfl _ _ _ _ rfl _ _ rfl rfl _ _ (HRun.out _) ?_);obtain⟨W1,hW1⟩:=qE ((w.drew.alloc (.cells (Builtin.zeroCells #[.int .i64 0,.string ⟨#[]⟩,.bool false,.string ⟨#[]⟩,.int .u64 0,.int .u64 0,.int .i64 0] n++Builtin.zeroCells #[.int .i64 0,.string ⟨#[]⟩,.bool false,.string ⟨#[]⟩,.int .u64 0,.int .u64 0,.int .i64 0] (c-n)) 75)):World);have HO:Hid (W1.ownsRow w.heap.size 75 7 (.slice (some ⟨w.heap.size,0,none⟩) 0 c) 0 []∧Below w.heap.size w W1):=by rw[hW1];exact⟨yU6 w _ _ 7 n c rfl hcn (by unfold maxLen;omega),(Below.refl _ _).drew.alloc (by simp) _⟩
  go_ret;rw[hW1]at HO;exact⟨_,rfl,HO.1,HO.2⟩
def CatN (w:World) (xs:List Nd) (r:Ending) (w':World):Prop:=∃v:Value,r=.returned v∧w'.ownsRow w.heap.size 75 7 v xs.length (yBr xs)∧Below w.heap.size w w'
structure yOn (w:World) (sb:Nat) (ns:List (List Nd)):Prop where
 lt:sb<w.heap.size
 at_:∀(j:Nat) (y:List Nd),ns[j]?=some y→∃b o c,w.cell? ⟨sb,j,none⟩=some (.slice (some ⟨b,o,none⟩) y.length c)∧yAy w b o y∧b<w.heap.size
variable {ns:List (List Nd)}
theorem yOn.below {sb:Nat} (h:yOn w sb ns) (hb:Below w.heap.size w w'):yOn w' sb ns:=by refine⟨by have:=hb.size;have:=h.lt;omega,fun j y hy=>?_⟩;obtain⟨b,o,c,h1,h2,h3⟩:=h.at_ j y hy;exact⟨b,o,c,by rw[hb.cell (p:=⟨sb,j,none⟩) h.lt];exact h1,h2.below hb h3,by have:=hb.size;omega⟩
theorem yFn (sb n:Nat) (ns:List (List Nd)) (w:World) (h:yOn w sb ns) (hn:ns.flatten.length≤1000000) (hm:n=ns.length) (hn2:n≤1000):
  Calls Tryz.prog 117 #[.slice (some ⟨sb,0,none⟩) n n] w (CatN w ns.flatten):=by
 have HP:Hid (yOn w sb ns∧n=ns.length∧ns.flatten.length≤1000000):=⟨h,hm,hn⟩;clear h hm hn;go_enter Tryz.func117,Tryz.ntmps117;go_wp2_with fail;go_loopw[3,11] (fun s i wr=>∃(k x:Nat),k≤n∧i=.int .i64 k∧s=.int .i64 x∧Hid (x=(ns.take k).flatten.length)∧x≤1000000∧Below w.heap.size w wr) (fun _ i _=>n-(intOf i).toNat);case atStart=>exact⟨0,0,Nat.zero_le _,rfl,rfl,rfl,by omega,Below.refl _ _⟩
 case round=>
  obtain⟨k,x,hk,rfl,rfl,HX,hxl,hb0⟩:=hrel;have hs0:=hb0.size;by_cases hlt:k<n
  ·obtain⟨y,hy⟩:∃y,ns[k]?=some y:=⟨_,List.getElem?_eq_getElem (by have:=HP.2.1;omega)⟩;obtain⟨b,o,c,c0,_⟩:=(HP.1.below hb0).at_ k y hy;have HX2:Hid (x+y.length=(ns.take (k+1)).flatten.length):=by show _=_;rw[yJ8 hy,List.length_append,←HX.out]
   have hx2:x+y.length≤1000000:=by have h1:=HX2.out;have h2:=yVc ns (k+1);have h3:=HP.2.2;omega
   clear hy;have zk:(k:Int)<(n:Int):=by omega
   have zz:¬(x:Int)+(y.length:Int)<0:=by omega
   go_wp2_with fail;go_roundw;case rel=>exact⟨k+1,x+y.length,by omega,by go_num,by go_num,HX2,hx2,hb0⟩
   case measure=>simp[intOf];omega
  ·have zk:¬(k:Int)<(n:Int):=by omega
   go_wp2_with fail;refine(ySm x _ (by omega)).mono ?_;rintro e w1 ⟨v,rfl,hO1,hb1⟩;have HO1:Hid (w1.ownsRow wr.heap.size 75 7 v 0 []∧Below w.heap.size w w1):=⟨hO1,hb0.trans (hb1.mono hs0)⟩;have hs1:=hb1.size;clear hO1 hb1;obtain⟨B0,hB0⟩:=qE wr.heap.size;rw[←hB0]at HO1;have hB1:w.heap.size≤B0∧B0≤w1.heap.size:=by omega
   clear hB0;go_wp2_with fail;go_loopw[6,27] (fun ov i wr=>∃(k:Nat) (v:Value),k≤n∧i=.int .i64 k∧ov=v∧Hid (wr.ownsRow B0 75 7 v ((ns.take k).flatten).length (yBr ((ns.take k).flatten)))∧B0≤wr.heap.size∧Below w.heap.size w wr) (fun _ i _=>n-(intOf i).toNat);case atStart=>exact⟨0,v,Nat.zero_le _,rfl,rfl,HO1.1,hB1.2,HO1.2⟩
   case round=>
    obtain⟨v0,hv0⟩:=qE (u6:Value);subst hv0;obtain⟨k,v,hk,rfl,hov,HO,hBr,hb⟩:=hrel;rw[←hov]at HO;clear hov;have hs:=hb.size;by_cases hlt:k<n
    ·obtain⟨y,hy⟩:∃y,ns[k]?=some y:=⟨_,List.getElem?_eq_getElem (by have:=HP.2.1;omega)⟩;obtain⟨b,o,c,c0,hE,_⟩:=(HP.1.below hb).at_ k y hy;have HD:Hid (ns[k]?=some y∧yAy wr b o y∧((ns.take k).flatten).length+y.length≤2^30):=by refine⟨hy,hE,?_⟩;have h1:=yVc ns (k+1);rw[yJ8 hy,List.length_append]at h1;have:=HP.2.2;omega
     clear hy hE;have zk:(k:Int)<(n:Int):=by omega
     go_wp2_with (at_builtin;refine yHp _ rfl _ _ rfl B0 v0 b o y.length c ((ns.take k).flatten) y rfl rfl rfl HO.out HD.2.1 HD.2.2 ?hb ?_);case hb=>omega
     intro v' w2 hO' hgr;have HN:Hid (w2.ownsRow B0 75 7 v' ((ns.take (k+1)).flatten).length (yBr ((ns.take (k+1)).flatten))):=by show World.ownsRow _ _ _ _ _ _ _;rw[yJ8 HD.1];simpa using hO'
     have hb2:Below w.heap.size w w2:=hb.grown hgr hs (fun q hq=>by have:=(World.ownsRow.lt HO.out q hq).1;omega);have hB2:B0≤w2.heap.size:=by have:=hgr.size;omega
     clear hO' hgr;go_wp2_with fail;go_roundw;case rel=>exact⟨k+1,v',by omega,by go_num,rfl,HN,hB2,hb2⟩
     case measure=>simp[intOf];omega
    ·have zk:¬(k:Int)<(n:Int):=by omega
     have HF:Hid (wr.ownsRow w.heap.size 75 7 v0 ns.flatten.length (yBr ns.flatten)):=by
      have h1:=HO.out;rw[List.take_of_length_le (by have:=HP.2.1;omega)]at h1;refine⟨h1.1,?_⟩;rcases h1.2 with q|⟨g',cap',cur,hv,h2,rest⟩
      ·exact .inl q
      ·exact .inr ⟨g',cap',cur,hv,by omega,rest⟩
     go_wp2_with fail;go_ret;exact⟨v0,rfl,HF.out,hb⟩
def yI (w:World) (v:Value) (y:List Nd):Prop:=∃g cp,v=.slice (some ⟨g,0,none⟩) y.length cp∧yAm w 0 g cp y
variable {y:List Nd}
theorem yI.ins {v:Value} (h:yI w v y):yK8 w v y:=by obtain⟨g,cp,rfl,h⟩:=h;exact yK8.own h rfl
theorem yI.below {v:Value} (h:yI w v y) (hb:Below w.heap.size w w'):yI w' v y:=by obtain⟨g,cp,rfl,h⟩:=h;exact⟨g,cp,rfl,h.below hb h.lt.2⟩
def NmI (S:Nat→Prop) (y:List Nd) (w:World) (r:Ending) (w':World):Prop:=∃v,r=.returned v∧yI w' v y∧(∀a n c,v=.slice (some a) n c→S a.block∨w.heap.size≤a.block)∧Below w.heap.size w w'
structure Opd (S:Nat→Prop) (w:World) (u:Value) (x:List Nd):Prop where
 own:yI w u x
 ne:x≠ []
 blk:∀a n c,u=.slice (some a) n c→S a.block
 good:∀e∈x,yAe e
 len:x.length≤1000
variable {u:Value} {x:List Nd}
theorem Opd.ins (h:Opd S w u x):yK8 w u x:=h.own.ins
theorem Opd.form (h:Opd S w u x):∃b o c,u=.slice (some ⟨b,o,none⟩) x.length c∧yAy w b o x∧b<w.heap.size:=by obtain⟨a,c,rfl,hf⟩:=h.ins.form;obtain⟨b,o,rfl,hE,hlt,_⟩:=hf h.ne;exact⟨b,o,c,rfl,hE,hlt⟩
theorem Opd.ret (h:Opd S w u x):NmI S x w (.returned u) w:=⟨u,rfl,h.own,fun a n c hq=>.inl (h.blk a n c hq),Below.refl _ _⟩
theorem yZw {k l:Int} (h:isK x k) (g:isK x l):k=l:=by
 obtain⟨n,rfl,rfl⟩:=h;obtain⟨m,hm,rfl⟩:=g;cases hm
 rfl
theorem yM0 {W:World} {r:Ending} (hb:Below w.heap.size w W) (hne:y≠ []) (h:CatN W y r w'):NmI S y w r w':=by
 obtain⟨v,rfl,hO,hb2⟩:=h;have hb3:=hb.trans (hb2.mono hb.size);rcases hO.2 with⟨_,q⟩|⟨g,cap,cur,rfl,h1,_⟩
 ·exact absurd (List.length_eq_zero_iff.1 q) hne
 ·refine⟨_,rfl,⟨g,cap,rfl,yAm.mono (show yAm w' W.heap.size g cap y from hO) (Nat.zero_le _)⟩,fun a n c hq=>?_,hb3⟩;cases hq
  exact .inr (by have:=hb.size;show w.heap.size≤g;omega)
theorem yG2 (w:World) (e:Nd):yAm (w.alloc (Obj.cells #[.int .i64 e.kind,.string e.s,.bool e.hi,.string e.t,.int .u64 e.lo,.int .u64 e.up,.int .i64 e.n] 75)) w.heap.size w.heap.size 1 [e]:=
 World.ownsRow_lit w #[.int .i64 e.kind,.string e.s,.bool e.hi,.string e.t,.int .u64 e.lo,.int .u64 e.up,.int .i64 e.n] 1 (Nat.le_refl _) (by decide) rfl
theorem yIt (S:Nat→Prop) (u0 u1:Value) (x0 x1:List Nd) (w:World) (h0:Opd S w u0 x0) (h1:Opd S w u1 x1):Calls Tryz.prog 84 #[u0,u1] w (NmI S (normOf (yAw 14) [x0,x1]) w):=by
 obtain⟨y,hy⟩:=qE (normOf (yAw 14) [x0,x1]);rw[←hy];have HY0:Hid (y=normOf (yAw 14) [x0,x1]):=hy;clear hy;obtain⟨b0,o0,c0,rfl,hE0,hl0⟩:=h0.form;have HO0:Hid (Opd S w (.slice (some ⟨b0,o0,none⟩) x0.length c0) x0∧yAy w b0 o0 x0∧b0<w.heap.size):=⟨h0,hE0,hl0⟩;have HIs0:Hid (∀(k:Int) (B:Bool),B=isKB x0 k→Calls Tryz.prog 116 #[.slice (some ⟨b0,o0,none⟩) x0.length c0,.int .i64 k] w fun r w'=>r=.returned (.bool B)∧w'=w):=fun k B hB=>by rw[hB];exact yBu _ x0 k w HO0.1.ins (by have:=HO0.1.len;omega)
 clear h0 hE0;obtain⟨b1,o1,c1,rfl,hE1,hl1⟩:=h1.form;have HO1:Hid (Opd S w (.slice (some ⟨b1,o1,none⟩) x1.length c1) x1∧yAy w b1 o1 x1∧b1<w.heap.size):=⟨h1,hE1,hl1⟩;have HIs1:Hid (∀(k:Int) (B:Bool),B=isKB x1 k→Calls Tryz.prog 116 #[.slice (some ⟨b1,o1,none⟩) x1.length c1,.int .i64 k] w fun r w'=>r=.returned (.bool B)∧w'=w):=fun k B hB=>by rw[hB];exact yBu _ x1 k w HO1.1.ins (by have:=HO1.1.len;omega)
 clear h1 hE1;go_enter Tryz.func84,Tryz.ntmps84;by_cases q01:isK x0 1;case pos=>
  have hB01:Hid (true=isKB x0 1):=((yB9 _ _).2 q01).symm;go_wp2_with fail;refine(HIs0.out 1 true hB01.out).mono ?_;rintro r w2 ⟨rfl,hw2⟩;rw[hw2];clear hw2;have HR:Hid (NmI S y w (.returned (.slice (some ⟨b1,o1,none⟩) x1.length c1)) w):=by rw[show y=x1 by rw[HY0.out];simp only[normOf,yAw];rw[if_pos trivial,if_pos (.inl q01)]];exact HO1.1.ret
  go_wp2_with fail;go_ret;exact HR.out
 have hB01:Hid (false=isKB x0 1):=(yC0 q01).symm;go_wp2_with fail;refine(HIs0.out 1 false hB01.out).mono ?_;rintro r w2 ⟨rfl,hw2⟩;rw[hw2];clear hw2;by_cases q11:isK x1 1;case pos=>
  have hB11:Hid (true=isKB x1 1):=((yB9 _ _).2 q11).symm;go_wp2_with fail;refine(HIs1.out 1 true hB11.out).mono ?_;rintro r w2 ⟨rfl,hw2⟩;rw[hw2];clear hw2;have HR:Hid (NmI S y w (.returned (.slice (some ⟨b0,o0,none⟩) x0.length c0)) w):=by rw[show y=x0 by rw[HY0.out];simp only[normOf,yAw];rw[if_pos trivial,if_neg (fun z=>z.elim q01 (fun z=>by have:=yZw q11 z;omega)),if_pos (.inl q11)]];exact HO0.1.ret
  go_wp2_with fail;go_ret;exact HR.out
 have hB11:Hid (false=isKB x1 1):=(yC0 q11).symm;go_wp2_with fail;refine(HIs1.out 1 false hB11.out).mono ?_;rintro r w2 ⟨rfl,hw2⟩;rw[hw2];clear hw2;by_cases q02:isK x0 2;case pos=>
  have hB02:Hid (true=isKB x0 2):=((yB9 _ _).2 q02).symm;go_wp2_with fail;refine(HIs0.out 2 true hB02.out).mono ?_;rintro r w2 ⟨rfl,hw2⟩;rw[hw2];clear hw2;have HE:Hid (y=x0):=by
   show y=x0;rw[HY0.out];simp only[normOf,yAw];rw[if_pos trivial];by_cases q12:isK x1 2
   ·rw[if_pos (.inr q12),yQ8 q12 HO1.1.good (by omega),yQ8 q02 HO0.1.good (by omega)]
   ·rw[if_neg (fun z=>z.elim q01 q12),if_pos (.inr (.inl q02))]
  have HR:Hid (NmI S y w (.returned (.slice (some ⟨b0,o0,none⟩) x0.length c0)) w):=by rw[show y=x0 by exact HE.out];exact HO0.1.ret
  go_wp2_with fail;go_ret;exact HR.out
 have hB02:Hid (false=isKB x0 2):=(yC0 q02).symm;go_wp2_with fail;refine(HIs0.out 2 false hB02.out).mono ?_;rintro r w2 ⟨rfl,hw2⟩;rw[hw2];clear hw2;by_cases q12:isK x1 2;case pos=>
  have hB12:Hid (true=isKB x1 2):=((yB9 _ _).2 q12).symm;go_wp2_with fail;refine(HIs1.out 2 true hB12.out).mono ?_;rintro r w2 ⟨rfl,hw2⟩;rw[hw2];clear hw2;have HR:Hid (NmI S y w (.returned (.slice (some ⟨b1,o1,none⟩) x1.length c1)) w):=by rw[show y=x1 by rw[HY0.out];simp only[normOf,yAw];rw[if_pos trivial,if_pos (.inr q12)]];exact HO1.1.ret
  go_wp2_with fail;go_ret;exact HR.out
 have hB12:Hid (false=isKB x1 2):=(yC0 q12).symm;go_wp2_with fail;refine(HIs1.out 2 false hB12.out).mono ?_;rintro r w2 ⟨rfl,hw2⟩;rw[hw2];clear hw2;by_cases q03:isK x0 3;case pos=>
  have hB03:Hid (true=isKB x0 3):=((yB9 _ _).2 q03).symm;go_wp2_with fail;refine(HIs0.out 3 true hB03.out).mono ?_;rintro r w2 ⟨rfl,hw2⟩;rw[hw2];clear hw2;by_cases q13:isK x1 3;case pos=>
   have hB13:Hid (true=isKB x1 3):=((yB9 _ _).2 q13).symm;go_wp2_with fail;refine(HIs1.out 3 true hB13.out).mono ?_;rintro r w2 ⟨rfl,hw2⟩;rw[hw2];clear hw2;have HR:Hid (NmI S y w (.returned (.slice (some ⟨b0,o0,none⟩) x0.length c0)) w):=by rw[show y=x0 by rw[HY0.out];simp only[normOf,yAw];rw[if_pos trivial,if_neg (fun z=>z.elim q01 q12),if_pos (.inr (.inr ⟨q03,q13⟩))]];exact HO0.1.ret
   go_wp2_with fail;go_ret;exact HR.out
  have hB13:Hid (false=isKB x1 3):=(yC0 q13).symm;go_wp2_with fail;refine(HIs1.out 3 false hB13.out).mono ?_;rintro r w2 ⟨rfl,hw2⟩;rw[hw2];clear hw2;have HY:Hid (y=x0++x1++ [yAw 14]):=by show y=_;rw[HY0.out];simp only[normOf,yAw];rw[if_pos trivial,if_neg (fun z=>z.elim q01 q12),if_neg (fun z=>z.elim q11 (fun z=>z.elim q02 (fun z=>q13 z.2)))]
  exact zzQ12
 have hB03:Hid (false=isKB x0 3):=(yC0 q03).symm;go_wp2_with fail;refine(HIs0.out 3 false hB03.out).mono ?_;rintro r w2 ⟨rfl,hw2⟩;rw[hw2];clear hw2;have HY:Hid (y=x0++x1++ [yAw 14]):=by show y=_;rw[HY0.out];simp only[normOf,yAw];rw[if_pos trivial,if_neg (fun z=>z.elim q01 q12),if_neg (fun z=>z.elim q11 (fun z=>z.elim q02 (fun z=>q03 z.1)))]
 exact zzQ12
theorem yIs (S:Nat→Prop) (u0 u1:Value) (x0 x1:List Nd) (w:World) (h0:Opd S w u0 x0) (h1:Opd S w u1 x1):Calls Tryz.prog 85 #[u0,u1] w (NmI S (normOf (yAw 15) [x0,x1]) w):=by
 obtain⟨y,hy⟩:=qE (normOf (yAw 15) [x0,x1]);rw[←hy];have HY0:Hid (y=normOf (yAw 15) [x0,x1]):=hy;clear hy;obtain⟨b0,o0,c0,rfl,hE0,hl0⟩:=h0.form;have HO0:Hid (Opd S w (.slice (some ⟨b0,o0,none⟩) x0.length c0) x0∧yAy w b0 o0 x0∧b0<w.heap.size):=⟨h0,hE0,hl0⟩;have HIs0:Hid (∀(k:Int) (B:Bool),B=isKB x0 k→Calls Tryz.prog 116 #[.slice (some ⟨b0,o0,none⟩) x0.length c0,.int .i64 k] w fun r w'=>r=.returned (.bool B)∧w'=w):=fun k B hB=>by rw[hB];exact yBu _ x0 k w HO0.1.ins (by have:=HO0.1.len;omega)
 clear h0 hE0;obtain⟨b1,o1,c1,rfl,hE1,hl1⟩:=h1.form;have HO1:Hid (Opd S w (.slice (some ⟨b1,o1,none⟩) x1.length c1) x1∧yAy w b1 o1 x1∧b1<w.heap.size):=⟨h1,hE1,hl1⟩;have HIs1:Hid (∀(k:Int) (B:Bool),B=isKB x1 k→Calls Tryz.prog 116 #[.slice (some ⟨b1,o1,none⟩) x1.length c1,.int .i64 k] w fun r w'=>r=.returned (.bool B)∧w'=w):=fun k B hB=>by rw[hB];exact yBu _ x1 k w HO1.1.ins (by have:=HO1.1.len;omega)
 clear h1 hE1;have HSm:Hid (∀(B:Bool),B=sameB x0 x1→Calls Tryz.prog 118 #[.slice (some ⟨b0,o0,none⟩) x0.length c0,.slice (some ⟨b1,o1,none⟩) x1.length c1] w fun r w'=>r=.returned (.bool B)∧∃m,w'=w.drewN m):=fun B hB=>by rw[hB];exact yJ9 _ _ x0 x1 w HO0.1.ins HO1.1.ins (by have:=HO0.1.len;omega) (by have:=HO1.1.len;omega)
 go_enter Tryz.func85,Tryz.ntmps85;by_cases q02:isK x0 2;case pos=>
  have hB02:Hid (true=isKB x0 2):=((yB9 _ _).2 q02).symm;go_wp2_with fail;refine(HIs0.out 2 true hB02.out).mono ?_;rintro r w2 ⟨rfl,hw2⟩;rw[hw2];clear hw2;have HR:Hid (NmI S y w (.returned (.slice (some ⟨b1,o1,none⟩) x1.length c1)) w):=by rw[show y=x1 by rw[HY0.out];simp only[normOf];rw[if_neg (show¬(yAw 15).kind=14 from(by show¬(15:Int)=14;omega)),if_pos q02]];exact HO1.1.ret
  go_wp2_with fail;go_ret;exact HR.out
 have hB02:Hid (false=isKB x0 2):=(yC0 q02).symm;go_wp2_with fail;refine(HIs0.out 2 false hB02.out).mono ?_;rintro r w2 ⟨rfl,hw2⟩;rw[hw2];clear hw2;by_cases q12:isK x1 2;case pos=>
  have hB12:Hid (true=isKB x1 2):=((yB9 _ _).2 q12).symm;go_wp2_with fail;refine(HIs1.out 2 true hB12.out).mono ?_;rintro r w2 ⟨rfl,hw2⟩;rw[hw2];clear hw2;have HR:Hid (NmI S y w (.returned (.slice (some ⟨b0,o0,none⟩) x0.length c0)) w):=by rw[show y=x0 by rw[HY0.out];simp only[normOf];rw[if_neg (show¬(yAw 15).kind=14 from(by show¬(15:Int)=14;omega)),if_neg q02,if_pos (.inl q12)]];exact HO0.1.ret
  go_wp2_with fail;go_ret;exact HR.out
 have hB12:Hid (false=isKB x1 2):=(yC0 q12).symm;go_wp2_with fail;refine(HIs1.out 2 false hB12.out).mono ?_;rintro r w2 ⟨rfl,hw2⟩;rw[hw2];clear hw2;by_cases q01:isK x0 1;case pos=>
  have hB01:Hid (true=isKB x0 1):=((yB9 _ _).2 q01).symm;go_wp2_with fail;refine(HIs0.out 1 true hB01.out).mono ?_;rintro r w2 ⟨rfl,hw2⟩;rw[hw2];clear hw2;have HR:Hid (NmI S y w (.returned (.slice (some ⟨b0,o0,none⟩) x0.length c0)) w):=by rw[show y=x0 by rw[HY0.out];simp only[normOf];rw[if_neg (show¬(yAw 15).kind=14 from(by show¬(15:Int)=14;omega)),if_neg q02,if_pos (.inr (.inl q01))]];exact HO0.1.ret
  go_wp2_with fail;go_ret;exact HR.out
 have hB01:Hid (false=isKB x0 1):=(yC0 q01).symm;go_wp2_with fail;refine(HIs0.out 1 false hB01.out).mono ?_;rintro r w2 ⟨rfl,hw2⟩;rw[hw2];clear hw2;by_cases qs:x0=x1;case pos=>
  have hBs:Hid (true=sameB x0 x1):=((yGz _ _).2 qs).symm;have HQs:Hid (x0=x1):=qs;clear qs;go_wp2_with fail;refine(HSm.out true hBs.out).mono ?_;rintro r w2 ⟨rfl,m2,hw2⟩;rw[hw2];clear hw2;have HR:Hid (∀m,NmI S y w (.returned (.slice (some ⟨b0,o0,none⟩) x0.length c0)) (w.drewN m)):=fun m=>by rw[show y=x0 by rw[HY0.out];simp only[normOf];rw[if_neg (show¬(yAw 15).kind=14 from(by show¬(15:Int)=14;omega)),if_neg q02,if_pos (.inr (.inr HQs.out))]];obtain⟨v,hv,h1,h2,h3⟩:=HO0.1.ret;exact⟨v,hv,h1.below (below_drewN (Below.refl _ _) m),h2,below_drewN h3 m⟩
  go_wp2_with fail;go_ret;exact HR.out _
 have hBs:Hid (false=sameB x0 x1):=(yI0 qs).symm;go_wp2_with fail;refine(HSm.out false hBs.out).mono ?_;rintro r w2 ⟨rfl,m2,hw2⟩;rw[hw2];clear hw2;have HNq:Hid (¬x0=x1):=qs;clear qs;have HY:Hid (y=x0++x1++ [yAw 15]):=by show y=_;rw[HY0.out];simp only[normOf];rw[if_neg (show¬(yAw 15).kind=14 from(by show¬(15:Int)=14;omega)),if_neg q02,if_neg (fun z=>z.elim q12 (fun z=>z.elim q01 HNq.out))]
 obtain⟨V,hV⟩:=qE (w.drewN m2:World);have hbV:Below w.heap.size w V:=by rw[hV];exact below_drewN (Below.refl _ _) _
 rw[←hV];clear hV;obtain⟨V1,hV1⟩:=qE (V.alloc (Obj.cells #[.int .i64 15,.string ⟨#[]⟩,.bool false,.string ⟨#[]⟩,.int .u64 0,.int .u64 0,.int .i64 0] 75):World);obtain⟨V2,hV2⟩:=qE (V1.alloc (Obj.cells #[.slice (some ⟨b0,o0,none⟩) x0.length c0,.slice (some ⟨b1,o1,none⟩) x1.length c1,.slice (some ⟨V.heap.size,0,none⟩) 1 1] 30):World);have hb1:Below V.heap.size V V1:=by rw[hV1];exact qB
 have hb2:Below V1.heap.size V1 V2:=by rw[hV2];exact qB
 have hz1:V1.heap.size=V.heap.size+1:=by rw[hV1];simp
 have hz2:V2.heap.size=V.heap.size+1+1:=by rw[hV2];simp[hz1]
 have kb:Below w.heap.size w V2:=(hbV.trans (hb1.mono hbV.size)).trans (hb2.mono (by have:=hbV.size;omega));have HCt:Hid (Calls Tryz.prog 117 #[.slice (some ⟨V.heap.size+1,0,none⟩) 3 3] V2 (NmI S y w)):=by
  have hN:yAy V2 V.heap.size 0 [yAw 15]:=by
   have h9:yAy V1 V.heap.size 0 [yAw 15]:=by rw[hV1];exact(yG2 V (yAw 15)).at
   exact h9.below hb2 (by omega)
  have hP:yOn V2 (V.heap.size+1) [x0,x1,[yAw 15]]:=by
   refine⟨by omega,fun j y hy=>?_⟩;match j,hy with
   |0,hy=>
    obtain rfl:=Option.some.inj hy;exact⟨b0,o0,c0,by rw[hV2,←hz1];simp,HO0.2.1.below kb HO0.2.2,by have:=kb.size;have:=HO0.2.2;omega⟩
   |1,hy=>
    obtain rfl:=Option.some.inj hy;exact⟨b1,o1,c1,by rw[hV2,←hz1];simp,HO1.2.1.below kb HO1.2.2,by have:=kb.size;have:=HO1.2.2;omega⟩
   |2,hy=>
    obtain rfl:=Option.some.inj hy;exact⟨V.heap.size,0,1,by rw[hV2,←hz1];simp,hN,by omega⟩
   |m+3,hy=>simp at hy
  have hc:=yFn (V.heap.size+1) 3 _ V2 hP (by simp;have:=HO0.1.len;have:=HO1.1.len;omega) rfl (by omega);refine hc.mono ?_;intro r w' hr;rw[show [x0,x1,[yAw 15]].flatten=y by rw[HY.out];simp]at hr;exact yM0 kb (by rw[HY.out];simp) hr
 exact zzQ30
theorem yMh (S:Nat→Prop) (u0 u1 u2:Value) (x0 x1 x2:List Nd) (w:World) (h0:Opd S w u0 x0) (h1:Opd S w u1 x1) (h2:Opd S w u2 x2):Calls Tryz.prog 86 #[u0,u1,u2] w (NmI S (normOf (yAw 16) [x0,x1,x2]) w):=by
 obtain⟨y,hy⟩:=qE (normOf (yAw 16) [x0,x1,x2]);rw[←hy];have HY0:Hid (y=normOf (yAw 16) [x0,x1,x2]):=hy;clear hy;obtain⟨b0,o0,c0,rfl,hE0,hl0⟩:=h0.form;have HO0:Hid (Opd S w (.slice (some ⟨b0,o0,none⟩) x0.length c0) x0∧yAy w b0 o0 x0∧b0<w.heap.size):=⟨h0,hE0,hl0⟩;have HIs0:Hid (∀(k:Int) (B:Bool),B=isKB x0 k→Calls Tryz.prog 116 #[.slice (some ⟨b0,o0,none⟩) x0.length c0,.int .i64 k] w fun r w'=>r=.returned (.bool B)∧w'=w):=fun k B hB=>by rw[hB];exact yBu _ x0 k w HO0.1.ins (by have:=HO0.1.len;omega)
 clear h0 hE0;obtain⟨b1,o1,c1,rfl,hE1,hl1⟩:=h1.form;have HO1:Hid (Opd S w (.slice (some ⟨b1,o1,none⟩) x1.length c1) x1∧yAy w b1 o1 x1∧b1<w.heap.size):=⟨h1,hE1,hl1⟩;have HIs1:Hid (∀(k:Int) (B:Bool),B=isKB x1 k→Calls Tryz.prog 116 #[.slice (some ⟨b1,o1,none⟩) x1.length c1,.int .i64 k] w fun r w'=>r=.returned (.bool B)∧w'=w):=fun k B hB=>by rw[hB];exact yBu _ x1 k w HO1.1.ins (by have:=HO1.1.len;omega)
 clear h1 hE1;obtain⟨b2,o2,c2,rfl,hE2,hl2⟩:=h2.form;have HO2:Hid (Opd S w (.slice (some ⟨b2,o2,none⟩) x2.length c2) x2∧yAy w b2 o2 x2∧b2<w.heap.size):=⟨h2,hE2,hl2⟩;have HIs2:Hid (∀(k:Int) (B:Bool),B=isKB x2 k→Calls Tryz.prog 116 #[.slice (some ⟨b2,o2,none⟩) x2.length c2,.int .i64 k] w fun r w'=>r=.returned (.bool B)∧w'=w):=fun k B hB=>by rw[hB];exact yBu _ x2 k w HO2.1.ins (by have:=HO2.1.len;omega)
 clear h2 hE2;have HSm:Hid (∀(B:Bool),B=sameB x1 x2→Calls Tryz.prog 118 #[.slice (some ⟨b1,o1,none⟩) x1.length c1,.slice (some ⟨b2,o2,none⟩) x2.length c2] w fun r w'=>r=.returned (.bool B)∧∃m,w'=w.drewN m):=fun B hB=>by rw[hB];exact yJ9 _ _ x1 x2 w HO1.1.ins HO2.1.ins (by have:=HO1.1.len;omega) (by have:=HO2.1.len;omega)
 go_enter Tryz.func86,Tryz.ntmps86;by_cases q01:isK x0 1;case pos=>
  have hB01:Hid (true=isKB x0 1):=((yB9 _ _).2 q01).symm;go_wp2_with fail;refine(HIs0.out 1 true hB01.out).mono ?_;rintro r w2 ⟨rfl,hw2⟩;rw[hw2];clear hw2;have HR:Hid (NmI S y w (.returned (.slice (some ⟨b1,o1,none⟩) x1.length c1)) w):=by rw[show y=x1 by rw[HY0.out];simp only[normOf,yAw];rw[if_pos q01]];exact HO1.1.ret
  go_wp2_with fail;go_ret;exact HR.out
 have hB01:Hid (false=isKB x0 1):=(yC0 q01).symm;go_wp2_with fail;refine(HIs0.out 1 false hB01.out).mono ?_;rintro r w2 ⟨rfl,hw2⟩;rw[hw2];clear hw2;by_cases q02:isK x0 2;case pos=>
  have hB02:Hid (true=isKB x0 2):=((yB9 _ _).2 q02).symm;go_wp2_with fail;refine(HIs0.out 2 true hB02.out).mono ?_;rintro r w2 ⟨rfl,hw2⟩;rw[hw2];clear hw2;have HR:Hid (NmI S y w (.returned (.slice (some ⟨b2,o2,none⟩) x2.length c2)) w):=by rw[show y=x2 by rw[HY0.out];simp only[normOf,yAw];rw[if_neg q01,if_pos q02]];exact HO2.1.ret
  go_wp2_with fail;go_ret;exact HR.out
 have hB02:Hid (false=isKB x0 2):=(yC0 q02).symm;go_wp2_with fail;refine(HIs0.out 2 false hB02.out).mono ?_;rintro r w2 ⟨rfl,hw2⟩;rw[hw2];clear hw2;by_cases qs:x1=x2;case pos=>
  have hBs:Hid (true=sameB x1 x2):=((yGz _ _).2 qs).symm;have HQs:Hid (x1=x2):=qs;clear qs;go_wp2_with fail;refine(HSm.out true hBs.out).mono ?_;rintro r w2 ⟨rfl,m2,hw2⟩;rw[hw2];clear hw2;have HR:Hid (∀m,NmI S y w (.returned (.slice (some ⟨b1,o1,none⟩) x1.length c1)) (w.drewN m)):=fun m=>by rw[show y=x1 by rw[HY0.out];simp only[normOf,yAw];rw[if_neg q01,if_neg q02,if_pos HQs.out]];obtain⟨v,hv,h1,h2,h3⟩:=HO1.1.ret;exact⟨v,hv,h1.below (below_drewN (Below.refl _ _) m),h2,below_drewN h3 m⟩
  go_wp2_with fail;go_ret;exact HR.out _
 have hBs:Hid (false=sameB x1 x2):=(yI0 qs).symm;go_wp2_with fail;refine(HSm.out false hBs.out).mono ?_;rintro r w2 ⟨rfl,m2,hw2⟩;rw[hw2];clear hw2;have HNq:Hid (¬x1=x2):=qs;clear qs;have HY:Hid (y=x0++x1++x2++ [yAw 16]):=by show y=_;rw[HY0.out];simp only[normOf,yAw];rw[if_neg q01,if_neg q02,if_neg HNq.out]
 obtain⟨V,hV⟩:=qE (w.drewN m2:World);have hbV:Below w.heap.size w V:=by rw[hV];exact below_drewN (Below.refl _ _) _
 rw[←hV];clear hV;obtain⟨V1,hV1⟩:=qE (V.alloc (Obj.cells #[.int .i64 16,.string ⟨#[]⟩,.bool false,.string ⟨#[]⟩,.int .u64 0,.int .u64 0,.int .i64 0] 75):World);obtain⟨V2,hV2⟩:=qE (V1.alloc (Obj.cells #[.slice (some ⟨b0,o0,none⟩) x0.length c0,.slice (some ⟨b1,o1,none⟩) x1.length c1,.slice (some ⟨b2,o2,none⟩) x2.length c2,.slice (some ⟨V.heap.size,0,none⟩) 1 1] 30):World);have hb1:Below V.heap.size V V1:=by rw[hV1];exact qB
 have hb2:Below V1.heap.size V1 V2:=by rw[hV2];exact qB
 have hz1:V1.heap.size=V.heap.size+1:=by rw[hV1];simp
 have hz2:V2.heap.size=V.heap.size+1+1:=by rw[hV2];simp[hz1]
 have kb:Below w.heap.size w V2:=(hbV.trans (hb1.mono hbV.size)).trans (hb2.mono (by have:=hbV.size;omega));have HCt:Hid (Calls Tryz.prog 117 #[.slice (some ⟨V.heap.size+1,0,none⟩) 4 4] V2 (NmI S y w)):=by
  have hN:yAy V2 V.heap.size 0 [yAw 16]:=by
   have h9:yAy V1 V.heap.size 0 [yAw 16]:=by rw[hV1];exact(yG2 V (yAw 16)).at
   exact h9.below hb2 (by omega)
  have hP:yOn V2 (V.heap.size+1) [x0,x1,x2,[yAw 16]]:=by
   refine⟨by omega,fun j y hy=>?_⟩;match j,hy with
   |0,hy=>
    obtain rfl:=Option.some.inj hy;exact⟨b0,o0,c0,by rw[hV2,←hz1];simp,HO0.2.1.below kb HO0.2.2,by have:=kb.size;have:=HO0.2.2;omega⟩
   |1,hy=>
    obtain rfl:=Option.some.inj hy;exact⟨b1,o1,c1,by rw[hV2,←hz1];simp,HO1.2.1.below kb HO1.2.2,by have:=kb.size;have:=HO1.2.2;omega⟩
   |2,hy=>
    obtain rfl:=Option.some.inj hy;exact⟨b2,o2,c2,by rw[hV2,←hz1];simp,HO2.2.1.below kb HO2.2.2,by have:=kb.size;have:=HO2.2.2;omega⟩
   |3,hy=>
    obtain rfl:=Option.some.inj hy;exact⟨V.heap.size,0,1,by rw[hV2,←hz1];simp,hN,by omega⟩
   |m+4,hy=>simp at hy
  have hc:=yFn (V.heap.size+1) 4 _ V2 hP (by simp;have:=HO0.1.len;have:=HO1.1.len;have:=HO2.1.len;omega) rfl (by omega);refine hc.mono ?_;intro r w' hr;rw[show [x0,x1,x2,[yAw 16]].flatten=y by rw[HY.out];simp]at hr;exact yM0 kb (by rw[HY.out];simp) hr
 exact zzQ30
theorem Opd.below (h:Opd S w u x) (hb:Below w.heap.size w w'):Opd S w' u x:=⟨h.own.below hb,h.ne,h.blk,h.good,h.len⟩
theorem NmI.back {w1:World} {r:Ending} (hb:Below w.heap.size w w1) (h:NmI S y w1 r w'):NmI S y w r w':=by
 obtain⟨v,hv,h1,h2,h3⟩:=h;refine⟨v,hv,h1,fun a n c hq=>?_,hb.trans (h3.mono hb.size)⟩;rcases h2 a n c hq with q|q
 ·exact .inl q
 ·exact .inr (by have:=hb.size;omega)
theorem yFj (S:Nat→Prop) (e:Nd) (g f c:Nat) (us:List Value) (xs:List (List Nd)) (w:World) (hg:yAe e) (hgl:g<w.heap.size) (hl:xs.length=yAk e.kind) (hul:us.length=xs.length) (hc:∀(j:Nat) (u:Value),us[j]?=some u→w.cell? ⟨g,f+j,none⟩=some u) (hO:∀(j:Nat) (u:Value) (x:List Nd),us[j]?=some u→xs[j]?=some x→Opd S w u x):
  Calls Tryz.prog 46 #[e.v,.slice (some ⟨g,f,none⟩) xs.length c] w (NmI S (normOf e xs) w):=by
 obtain⟨y,hy⟩:=qE (normOf e xs);rw[←hy];have HH:Hid (y=normOf e xs∧yAe e∧xs.length=yAk e.kind∧us.length=xs.length∧(∀(j:Nat) (u:Value),us[j]?=some u→w.cell? ⟨g,f+j,none⟩=some u)∧(∀(j:Nat) (u:Value) (x:List Nd),us[j]?=some u→xs[j]?=some x→Opd S w u x)):=⟨hy,hg,hl,hul,hc,hO⟩;obtain⟨W0,hW0⟩:=qE (w.alloc (Obj.cells #[.int .i64 e.kind,.string e.s,.bool e.hi,.string e.t,.int .u64 e.lo,.int .u64 e.up,.int .i64 e.n] 75):World);have hb0:Below w.heap.size w W0:=by rw[hW0];exact qB
 obtain⟨d0,d1,d2,d3,d4,d5,d6⟩:W0.cell? ⟨w.heap.size,0,none⟩=some (.int .i64 e.kind)∧W0.cell? ⟨w.heap.size,1,none⟩=some (.string e.s)∧W0.cell? ⟨w.heap.size,2,none⟩=some (.bool e.hi)∧W0.cell? ⟨w.heap.size,3,none⟩=some (.string e.t)∧W0.cell? ⟨w.heap.size,4,none⟩=some (.int .u64 e.lo)∧W0.cell? ⟨w.heap.size,5,none⟩=some (.int .u64 e.up)∧W0.cell? ⟨w.heap.size,6,none⟩=some (.int .i64 e.n):=by rw[hW0];refine⟨?_,?_,?_,?_,?_,?_,?_⟩<;>simp
 clear hy hg hc hO;go_enter Tryz.func46,Tryz.ntmps46;go_upto_region 1 with fail;rw[←hW0];clear hW0;by_cases hk14:e.kind=14;case pos=>
  have hxl:xs.length=2:=by rw[HH.2.2.1,hk14];rfl
  obtain⟨x0,x1,hxs⟩:∃x0 x1,xs= [x0,x1]:=by
   match xs,hxl with
   | [x0,x1],_=>exact⟨x0,x1,rfl⟩
  have hul2:us.length=2:=by rw[HH.2.2.2.1];exact hxl
  obtain⟨u0,u1,hus⟩:∃u0 u1,us= [u0,u1]:=by
   match us,hul2 with
   | [u0,u1],_=>exact⟨u0,u1,rfl⟩
  have hp0:Opd S w u0 x0:=HH.2.2.2.2.2 0 u0 x0 (by rw[hus];rfl) (by rw[hxs];rfl);obtain⟨b0,o0,c0,hu0,_,_⟩:=hp0.form;have m0:W0.cell? ⟨g,f,none⟩=some u0:=by rw[hb0.cell (p:=⟨g,f,none⟩) hgl];exact HH.2.2.2.2.1 0 u0 (by rw[hus];rfl)
  have hp1:Opd S w u1 x1:=HH.2.2.2.2.2 1 u1 x1 (by rw[hus];rfl) (by rw[hxs];rfl);obtain⟨b1,o1,c1,hu1,_,_⟩:=hp1.form;have m1:W0.cell? ⟨g,f+1,none⟩=some u1:=by rw[hb0.cell (p:=⟨g,f+1,none⟩) hgl];exact HH.2.2.2.2.1 1 u1 (by rw[hus];rfl)
  have HC:Hid (∀wx,Below W0.heap.size W0 wx→Calls Tryz.prog 84 #[.slice (some ⟨b0,o0,none⟩) x0.length c0,.slice (some ⟨b1,o1,none⟩) x1.length c1] wx (NmI S y w)):=by intro wx hx;have hbx:=hb0.trans (hx.mono hb0.size);have h9:=yIt S u0 u1 x0 x1 wx (hp0.below hbx) (hp1.below hbx);refine Calls.mono (by rw[hu0,hu1]at h9;exact h9) ?_;intro r w' hr;rw[show y=normOf (yAw 14) [x0,x1]by rw[HH.1,hxs,yHc HH.2.1 (by omega),hk14]];exact hr.back hbx
  rw[hu0]at m0;rw[hu1]at m1;rw[hxs];try simp only[List.length_cons,List.length_nil,Nat.zero_add,Nat.reduceAdd]
  clear hxl hul2 hus hxs hul hl d1 d2 d3 d4 d5 d6 hp0 hu0 hp1 hu1;have hS:(fun w':World=>w'.cell? ⟨g,f,none⟩=some (.slice (some ⟨b0,o0,none⟩) x0.length c0)∧w'.cell? ⟨g,f+1,none⟩=some (.slice (some ⟨b1,o1,none⟩) x1.length c1)) W0.drew:=⟨m0,m1⟩;go_upto_region 3 with fail;refine yAb 7 (fun w':World=>w'.cell? ⟨g,f,none⟩=some (.slice (some ⟨b0,o0,none⟩) x0.length c0)∧w'.cell? ⟨g,f+1,none⟩=some (.slice (some ⟨b1,o1,none⟩) x1.length c1)) (by kernel_rfl) ?_;refine qU 0 ?vq14x0 rfl ?yq14x0 hS ?_;case yq14x0=>exact zzR0
  try simp only[qA]
  refine qU 1 ?vq14x1 rfl ?yq14x1 hS ?_;case yq14x1=>exact zzR0
  try simp only[qA]
  refine qU 2 ?vq14x2 rfl ?yq14x2 hS ?_;case yq14x2=>exact zzR0
  try simp only[qA]
  refine qU 3 ?vq14x3 rfl ?yq14x3 hS ?_;case yq14x3=>exact zzR0
  try simp only[qA]
  refine qU 4 ?vq14x4 rfl ?yq14x4 hS ?_;case yq14x4=>exact zzR0
  try simp only[qA]
  refine qU 5 ?vq14x5 rfl ?yq14x5 hS ?_;case yq14x5=>exact zzR0
  try simp only[qA]
  refine qO 6 rfl fun K hK=>?_;go_simp;go_at_call 84;exact zzQ29
 by_cases hk15:e.kind=15;case pos=>
  have hxl:xs.length=2:=by rw[HH.2.2.1,hk15];rfl
  obtain⟨x0,x1,hxs⟩:∃x0 x1,xs= [x0,x1]:=by
   match xs,hxl with
   | [x0,x1],_=>exact⟨x0,x1,rfl⟩
  have hul2:us.length=2:=by rw[HH.2.2.2.1];exact hxl
  obtain⟨u0,u1,hus⟩:∃u0 u1,us= [u0,u1]:=by
   match us,hul2 with
   | [u0,u1],_=>exact⟨u0,u1,rfl⟩
  have hp0:Opd S w u0 x0:=HH.2.2.2.2.2 0 u0 x0 (by rw[hus];rfl) (by rw[hxs];rfl);obtain⟨b0,o0,c0,hu0,_,_⟩:=hp0.form;have m0:W0.cell? ⟨g,f,none⟩=some u0:=by rw[hb0.cell (p:=⟨g,f,none⟩) hgl];exact HH.2.2.2.2.1 0 u0 (by rw[hus];rfl)
  have hp1:Opd S w u1 x1:=HH.2.2.2.2.2 1 u1 x1 (by rw[hus];rfl) (by rw[hxs];rfl);obtain⟨b1,o1,c1,hu1,_,_⟩:=hp1.form;have m1:W0.cell? ⟨g,f+1,none⟩=some u1:=by rw[hb0.cell (p:=⟨g,f+1,none⟩) hgl];exact HH.2.2.2.2.1 1 u1 (by rw[hus];rfl)
  have HC:Hid (∀wx,Below W0.heap.size W0 wx→Calls Tryz.prog 85 #[.slice (some ⟨b0,o0,none⟩) x0.length c0,.slice (some ⟨b1,o1,none⟩) x1.length c1] wx (NmI S y w)):=by intro wx hx;have hbx:=hb0.trans (hx.mono hb0.size);have h9:=yIs S u0 u1 x0 x1 wx (hp0.below hbx) (hp1.below hbx);refine Calls.mono (by rw[hu0,hu1]at h9;exact h9) ?_;intro r w' hr;rw[show y=normOf (yAw 15) [x0,x1]by rw[HH.1,hxs,yHc HH.2.1 (by omega),hk15]];exact hr.back hbx
  rw[hu0]at m0;rw[hu1]at m1;rw[hxs];try simp only[List.length_cons,List.length_nil,Nat.zero_add,Nat.reduceAdd]
  clear hxl hul2 hus hxs hul hl d1 d2 d3 d4 d5 d6 hp0 hu0 hp1 hu1;have hS:(fun w':World=>w'.cell? ⟨g,f,none⟩=some (.slice (some ⟨b0,o0,none⟩) x0.length c0)∧w'.cell? ⟨g,f+1,none⟩=some (.slice (some ⟨b1,o1,none⟩) x1.length c1)) W0.drew:=⟨m0,m1⟩;go_upto_region 5 with fail;refine yAb 7 (fun w':World=>w'.cell? ⟨g,f,none⟩=some (.slice (some ⟨b0,o0,none⟩) x0.length c0)∧w'.cell? ⟨g,f+1,none⟩=some (.slice (some ⟨b1,o1,none⟩) x1.length c1)) (by kernel_rfl) ?_;refine qU 0 ?vq15x0 rfl ?yq15x0 hS ?_;case yq15x0=>exact zzR0
  try simp only[qA]
  refine qU 1 ?vq15x1 rfl ?yq15x1 hS ?_;case yq15x1=>exact zzR0
  try simp only[qA]
  refine qU 2 ?vq15x2 rfl ?yq15x2 hS ?_;case yq15x2=>exact zzR0
  try simp only[qA]
  refine qU 3 ?vq15x3 rfl ?yq15x3 hS ?_;case yq15x3=>exact zzR0
  try simp only[qA]
  refine qU 4 ?vq15x4 rfl ?yq15x4 hS ?_;case yq15x4=>exact zzR0
  try simp only[qA]
  refine qU 5 ?vq15x5 rfl ?yq15x5 hS ?_;case yq15x5=>exact zzR0
  try simp only[qA]
  refine qO 6 rfl fun K hK=>?_;go_simp;go_at_call 85;exact zzQ29
 by_cases hk16:e.kind=16;case pos=>
  have hxl:xs.length=3:=by rw[HH.2.2.1,hk16];rfl
  obtain⟨x0,x1,x2,hxs⟩:∃x0 x1 x2,xs= [x0,x1,x2]:=by
   match xs,hxl with
   | [x0,x1,x2],_=>exact⟨x0,x1,x2,rfl⟩
  have hul2:us.length=3:=by rw[HH.2.2.2.1];exact hxl
  obtain⟨u0,u1,u2,hus⟩:∃u0 u1 u2,us= [u0,u1,u2]:=by
   match us,hul2 with
   | [u0,u1,u2],_=>exact⟨u0,u1,u2,rfl⟩
  have hp0:Opd S w u0 x0:=HH.2.2.2.2.2 0 u0 x0 (by rw[hus];rfl) (by rw[hxs];rfl);obtain⟨b0,o0,c0,hu0,_,_⟩:=hp0.form;have m0:W0.cell? ⟨g,f,none⟩=some u0:=by rw[hb0.cell (p:=⟨g,f,none⟩) hgl];exact HH.2.2.2.2.1 0 u0 (by rw[hus];rfl)
  have hp1:Opd S w u1 x1:=HH.2.2.2.2.2 1 u1 x1 (by rw[hus];rfl) (by rw[hxs];rfl);obtain⟨b1,o1,c1,hu1,_,_⟩:=hp1.form;have m1:W0.cell? ⟨g,f+1,none⟩=some u1:=by rw[hb0.cell (p:=⟨g,f+1,none⟩) hgl];exact HH.2.2.2.2.1 1 u1 (by rw[hus];rfl)
  have hp2:Opd S w u2 x2:=HH.2.2.2.2.2 2 u2 x2 (by rw[hus];rfl) (by rw[hxs];rfl);obtain⟨b2,o2,c2,hu2,_,_⟩:=hp2.form;have m2:W0.cell? ⟨g,f+2,none⟩=some u2:=by rw[hb0.cell (p:=⟨g,f+2,none⟩) hgl];exact HH.2.2.2.2.1 2 u2 (by rw[hus];rfl)
  have HC:Hid (∀wx,Below W0.heap.size W0 wx→Calls Tryz.prog 86 #[.slice (some ⟨b0,o0,none⟩) x0.length c0,.slice (some ⟨b1,o1,none⟩) x1.length c1,.slice (some ⟨b2,o2,none⟩) x2.length c2] wx (NmI S y w)):=by intro wx hx;have hbx:=hb0.trans (hx.mono hb0.size);have h9:=yMh S u0 u1 u2 x0 x1 x2 wx (hp0.below hbx) (hp1.below hbx) (hp2.below hbx);refine Calls.mono (by rw[hu0,hu1,hu2]at h9;exact h9) ?_;intro r w' hr;rw[show y=normOf (yAw 16) [x0,x1,x2]by rw[HH.1,hxs,yHc HH.2.1 (by omega),hk16]];exact hr.back hbx
  rw[hu0]at m0;rw[hu1]at m1;rw[hu2]at m2;rw[hxs];try simp only[List.length_cons,List.length_nil,Nat.zero_add,Nat.reduceAdd]
  clear hxl hul2 hus hxs hul hl d1 d2 d3 d4 d5 d6 hp0 hu0 hp1 hu1 hp2 hu2;have hS:(fun w':World=>w'.cell? ⟨g,f,none⟩=some (.slice (some ⟨b0,o0,none⟩) x0.length c0)∧w'.cell? ⟨g,f+1,none⟩=some (.slice (some ⟨b1,o1,none⟩) x1.length c1)∧w'.cell? ⟨g,f+2,none⟩=some (.slice (some ⟨b2,o2,none⟩) x2.length c2)) W0.drew:=⟨m0,m1,m2⟩;go_upto_region 7 with fail;refine yAb 10 (fun w':World=>w'.cell? ⟨g,f,none⟩=some (.slice (some ⟨b0,o0,none⟩) x0.length c0)∧w'.cell? ⟨g,f+1,none⟩=some (.slice (some ⟨b1,o1,none⟩) x1.length c1)∧w'.cell? ⟨g,f+2,none⟩=some (.slice (some ⟨b2,o2,none⟩) x2.length c2)) (by kernel_rfl) ?_;refine qU 0 ?vq16x0 rfl ?yq16x0 hS ?_;case yq16x0=>exact zzR0
  try simp only[qA]
  refine qU 1 ?vq16x1 rfl ?yq16x1 hS ?_;case yq16x1=>exact zzR0
  try simp only[qA]
  refine qU 2 ?vq16x2 rfl ?yq16x2 hS ?_;case yq16x2=>exact zzR0
  try simp only[qA]
  refine qU 3 ?vq16x3 rfl ?yq16x3 hS ?_;case yq16x3=>exact zzR0
  try simp only[qA]
  refine qU 4 ?vq16x4 rfl ?yq16x4 hS ?_;case yq16x4=>exact zzR0
  try simp only[qA]
  refine qU 5 ?vq16x5 rfl ?yq16x5 hS ?_;case yq16x5=>exact zzR0
  try simp only[qA]
  refine qU 6 ?vq16x6 rfl ?yq16x6 hS ?_;case yq16x6=>exact zzR0
  try simp only[qA]
  refine qU 7 ?vq16x7 rfl ?yq16x7 hS ?_;case yq16x7=>exact zzR0
  try simp only[qA]
  refine qU 8 ?vq16x8 rfl ?yq16x8 hS ?_;case yq16x8=>exact zzR0
  try simp only[qA]
  refine qO 9 rfl fun K hK=>?_;go_simp;go_at_call 86;refine(HC.out W0.drew (Below.refl _ _).drew).mono ?_;rintro r w3 hr3;have HR3:Hid (NmI S y w r w3):=hr3;obtain⟨v3,rfl,_,_,hb3⟩:=hr3;obtain⟨t0,t1,t2⟩:(fun w':World=>w'.cell? ⟨g,f,none⟩=some (.slice (some ⟨b0,o0,none⟩) x0.length c0)∧w'.cell? ⟨g,f+1,none⟩=some (.slice (some ⟨b1,o1,none⟩) x1.length c1)∧w'.cell? ⟨g,f+2,none⟩=some (.slice (some ⟨b2,o2,none⟩) x2.length c2)) w3:=by
   refine⟨?_,?_,?_⟩
   ·rw[hb3.cell (p:=⟨g,f,none⟩) hgl,←hb0.cell (p:=⟨g,f,none⟩) hgl];exact m0
   ·rw[hb3.cell (p:=⟨g,f+1,none⟩) hgl,←hb0.cell (p:=⟨g,f+1,none⟩) hgl];exact m1
   ·rw[hb3.cell (p:=⟨g,f+2,none⟩) hgl,←hb0.cell (p:=⟨g,f+2,none⟩) hgl];exact m2
  refine hK.out _ _ (.inr ⟨t0,t1,t2⟩) ?_;clear hK;try simp only[qA]
  refine qO 10 rfl fun K hK=>?_;go_simp;refine hK.out _ _ (.inl rfl) ?_;clear hK;try simp only[qA]
  refine qD ?_;go_wp2_with fail;go_ret;exact HR3.out
 have hxl:xs= []:=List.length_eq_zero_iff.1 (by rw[HH.2.2.1];unfold yAk;rw[if_neg (by omega),if_neg hk16]);have z14:(e.kind==14)=false:=by rw[beq_eq_false_iff_ne];exact hk14
 have z15:(e.kind==15)=false:=by rw[beq_eq_false_iff_ne];exact hk15
 have z16:(e.kind==16)=false:=by rw[beq_eq_false_iff_ne];exact hk16
 have HR:Hid (NmI S y w (.returned (.slice (some ⟨W0.heap.size,0,none⟩) 1 1)) (W0.alloc (Obj.cells #[.int .i64 e.kind,.string e.s,.bool e.hi,.string e.t,.int .u64 e.lo,.int .u64 e.up,.int .i64 e.n] 75))):=by
  have hO9:=yG2 W0 e;refine⟨_,rfl,?_,fun a n c hq=>?_,hb0.trans ((qB).mono hb0.size)⟩
  ·rw[HH.1,hxl];exact⟨_,_,rfl,yAm.mono hO9 (Nat.zero_le _)⟩
  ·cases hq;exact .inr (by have:=hb0.size;show w.heap.size≤W0.heap.size;omega)
 clear hxl;go_wp2_with fail;go_ret;exact HR.out
theorem yRa {T:Type} (V:Nd→List T→T):∀(k:Nat) (xs:List Nd) (ss:List T),xs.length=k→yB3 V [] xs=some ss→TrV V ss xs
 |0,xs,ss,hk,h=>by
  obtain rfl:=List.length_eq_zero_iff.1 hk
  simp only[yB3,Option.some.injEq]at h
  subst h
  exact .nil
 |k+1,xs,ss,hk,h=>by
  rcases List.eq_nil_or_concat xs with rfl|⟨ys,n,rfl⟩
  ·simp at hk
  ·rw[List.concat_eq_append]at hk h⊢
   rw[yD8]at h
   cases hy:yB3 V [] ys with
   |none=>rw[hy]at h;cases h
   |some st=>
    have ih:=yRa V k ys st (by simp at hk;exact hk) hy
    rw[hy]at h
    simp only[Option.bind_some,yB3,yR1]at h
    split at h
    ·cases h
    ·rename_i hn
     simp only[Option.bind_some,yB3,Option.some.injEq]at h
     subst h
     refine .snoc n (by rw[List.length_drop];omega) ?_
     rw[List.take_append_drop];exact ih
theorem yW4 (h:yB3 normOf [] xs=some ns):∀y∈ns,y≠ []∧(∀e∈y,e∈xs)∧y.length≤xs.length:=by
 intro y hy;obtain⟨ks,hxs,hK⟩:=TrV.kids normOf (yRa normOf _ xs ns rfl h);obtain⟨j,hj⟩:=List.getElem?_of_mem hy;have hjl:=(List.getElem?_eq_some_iff.1 hj).1;obtain⟨k,hk⟩:∃k,ks[j]?=some k:=⟨_,List.getElem?_eq_getElem (by have:=KidV.length _ hK;omega)⟩;obtain⟨o',ho',ht⟩:=KidV.nth _ hK hk;rw[hj]at ho';cases ho'
 have hm:=List.mem_of_getElem? hk;obtain⟨h1,h2⟩:=yI8 _ (Nat.le_refl _) ht;refine⟨yXy ht,fun e he=>?_,?_⟩
 ·rw[hxs];exact List.mem_flatten.2 ⟨k,hm,h1 e he⟩
 ·rw[hxs];have:=yD5 hm;omega
theorem ySo (h:yB3 normOf [] (xs.take j)=some ns) (he:xs[j]?=some e) (hl:yAk e.kind≤ns.length):yB3 normOf [] (xs.take (j+1))=some (ns.take (ns.length-yAk e.kind)++ [normOf e (ns.drop (ns.length-yAk e.kind))]):=by exact yXq
theorem ySn (h:yB3 normOf [] (xs.take j)=some ns) (he:xs[j]?=some e) (hl:ns.length<yAk e.kind):yB3 normOf [] xs=none:=by exact zzQ63
theorem yI.chg {v:Value} (h:yI w v y) (hc:Chg S w w') (hv:∀a n c,v=.slice (some a) n c→¬S a.block):yI w' v y:=by obtain⟨g,cp,rfl,h⟩:=h;exact⟨g,cp,rfl,yAp h hc (fun k q=>by simp[Value.ownBlock]at q;subst q;exact hv _ _ _ rfl)⟩
theorem Opd.move {S':Nat→Prop} (h:Opd S w u x) (hb:Chg S' w w') (hd:∀k,S k→¬S' k):Opd S w' u x:=⟨h.own.chg hb (fun a n c q=>hd _ (h.blk a n c q)),h.ne,h.blk,h.good,h.len⟩
theorem Opd.weak {S':Nat→Prop} (h:Opd S w u x) (hd:∀k,k<w.heap.size→S k→S' k):Opd S' w u x:=⟨h.own,h.ne,fun a n c q=>by
 refine hd _ ?_ (h.blk a n c q)
 obtain⟨g,cp,rfl,ho⟩:=h.own
 cases q
 exact ho.lt.2,h.good,h.len⟩
theorem OwnV.take {g:Nat} {us:List Value} (h:OwnV w base g cp us) {k:Nat} (hk:k≤us.length):OwnV w base g cp (us.take k):=by
 rcases h.2 with⟨h0,_⟩|⟨g',cap',cur,hv,h1,h2,h3,h4,h5,h6⟩
 ·cases h0
 ·simp only[Value.slice.injEq,Option.some.injEq,Addr.mk.injEq,and_true,true_and]at hv;obtain⟨rfl,rfl⟩:=hv;have hl:(us.take k).length=k:=by rw[List.length_take];omega
  refine⟨by rw[Nat.mul_one],.inr ⟨g,cp,cur,rfl,h1,h2,by omega,h4,h5,?_⟩⟩;rw[hl,←h6,List.take_take];congr 1;omega
end Go.Proofs.YtkidabedcgngcaaGreatDoor
