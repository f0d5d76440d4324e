import Derived.Test.YtgnpcenpcmdlfaaGreatDoorTkAA
import Derived.Test.YtgnpcenpcmdlfaaGreatDoorTkAC
import Derived.Maps.AppendAt
import Derived.Test.YtgnpcenpcmdlfaaGreatDoorTkAB
import Derived.BigQuiet
import Derived.Deep.QuietTactic
import Derived.Lib.ConvBytes
import Derived.Lib.Bytealg
import Derived.Lib.Slices
import Derived.Lib.Walk
import Derived.Deep.DeepCutAuto
import Derived.Deep.RegionWith
import Derived.ArgAppend
import Derived.Lib.SlBytesConst
import Derived.Lib.ItoaNum
import Derived.Deep.RegionHeld3
namespace Go.Proofs.YtgnpcenpcmdlfaaGreatDoor
open Go.ChangeShapes Go.WideShapes Go.ChangeAt Go.RowKit Go.Deep
set_option linter.unusedVariables false
set_option linter.unusedSimpArgs false
set_option maxRecDepth 100000
set_option maxHeartbeats 32000000
def OwnV (w:World) (base g cp:Nat) (us:List Value):Prop:=w.ownsRow base 23 1 (.slice (some ⟨g,0,none⟩) us.length cp) us.length us
variable {w:World} {base g cp:Nat} {us:List Value}
theorem OwnV.lt (h:OwnV w base g cp us):base≤g∧g<w.heap.size:=World.ownsRow.lt h g rfl
variable {w':World}
theorem OwnV.below (h:OwnV w base g cp us) (hb:Below w.heap.size w w'):OwnV w' base g cp us:=yA2 h (Chg.of_below hb) (S:=fun _=>False) (fun k q z=>z)
theorem OwnV.cell (h:OwnV w base g cp us) {j:Nat} {v:Value} (hv:us[j]?=some v):w.cell? ⟨g,j,none⟩=some v:=by have hj:=(List.getElem?_eq_some_iff.1 hv).1;rw[World.ownsRow.cellAt h j (by omega),hv]
theorem OwnV.caps (h:OwnV w base g cp us):us.length≤cp∧cp≤maxLen:=by exact yP3
theorem yU4 (w:World) (hb:base≤w.heap.size):OwnV (w.alloc (Obj.cells #[] 23)) base w.heap.size 0 []:=
 World.ownsRow_made w #[] 0 hb (Nat.zero_le _) (by simp)
theorem yU3 (w:World) (hb:base≤w.heap.size) (v:Value):OwnV (w.alloc (Obj.cells #[v] 23)) base w.heap.size 1 [v]:=
 World.ownsRow_lit w #[v] 1 hb (by decide) rfl
theorem Tryz.infoNds:(Tryz.prog.info? 23).map (fun i=>(i.zero,i.size,i.bytes))=some (some (.slice none 0 0),1,24):=by kernel_rfl
variable {ops:Array Oper} {rest:List Oper} {Q:Exit→Act→World→Prop}
theorem yH2 {oo:Oper} {a:Act} (w:World) (hgd:oo.guard=none) (s x:Operand)
  (ho:oo.op=.call {callee:=.builtin .append,args:=#[s,x],argTypes:=#[128,128]})
  (base gq cp n b m cx:Nat) (us vs:List Value) (hs:a.eval s=.slice (some ⟨gq,0,none⟩) n cp) (hx:a.eval x=.slice (some ⟨b,0,none⟩) m cx) (hn:n=us.length) (hm:m=vs.length) (hO:OwnV w base gq cp us)
  (hc:∀(j:Nat) v,vs[j]?=some v→w.cell? ⟨b,j,none⟩=some v) (hy:∀v∈vs,v.oneCell'=true) (hlen:us.length+vs.length≤1000) (hbase:base≤w.heap.size)
  (h:∀g' cp' w',OwnV w' base g' cp' (us++vs)→w.grownBy w' (some gq)→(g'=gq∨g'=w.heap.size)→wpList Tryz.prog ops Q rest (a.put oo.dst (.slice (some ⟨g',0,none⟩) (n+m) cp')) w'):wpList Tryz.prog ops Q (oo::rest) a w:=by
 subst hn hm;obtain⟨i,hi,hz0,hz1,hz2⟩:=info_parts Tryz.infoNds;refine wpList_append_own_at w hgd s x 128 ho base 23 i _ 1 24 Tryz.underlying128 hi hz0 hz1 hz2 rfl (by decide) (.slice (some ⟨gq,0,none⟩) us.length cp) us.length us hs hO ⟨b,0,none⟩ vs.length cx vs hx (by simp) ?_ hy ?_ ?_ hbase ?_
 ·intro j u hu;rw[Addr.add_mid,Nat.zero_add];exact hc j u hu
 ·unfold maxLen;omega
 ·omega
 ·intro v' w' hO' hgr hnil hat;rcases hO'.2 with⟨h0,_⟩|⟨g',cap',cur,hv,_,_,hn,hcap,_,_⟩
  ·have:=(hnil.1 h0).1;cases this
  ·subst hv;refine h g' cap' w' ?_ hgr ?_
   ·unfold OwnV;rw[List.length_append];exact hO'
   ·simp[Value.ownBlock]at hat;exact hat
def yE3 (b:Nat):Nat→Nat→List (List Nd)→List Value
 |_,_,[]=> []
 |o,cap,k::ks=>.slice (some ⟨b,o,none⟩) k.length cap::yE3 b (o+k.length*7) (cap-k.length) ks
theorem yJl (b:Nat):∀(o cap:Nat) (ks:List (List Nd)),(yE3 b o cap ks).length=ks.length
 |_,_,[]=>rfl
 |o,cap,k::ks=>by simp[yE3,yJl]
theorem yM6 (b:Nat):∀(o cap:Nat) (ks:List (List Nd)),∀v∈yE3 b o cap ks,v.oneCell'=true
 |_,_,[],v,h=>by cases h
 |o,cap,k::ks,v,h=>by
  rcases List.mem_cons.1 h with rfl|h
  ·rfl
  ·exact yM6 b _ _ ks v h
variable {b o:Nat} {xs:List Nd}
theorem yBj.part {ys:List Nd} (h:yBj w b o (xs++ys)):yBj w b o xs∧yBj w b (o+xs.length*7) ys:=by refine⟨fun i e he=>h i e (by rw[List.getElem?_append_left (List.getElem?_eq_some_iff.1 he).1];exact he),fun i e he=>?_⟩;have:=h (xs.length+i) e (by rw[List.getElem?_append_right (by omega),Nat.add_sub_cancel_left];exact he);rw[Nat.add_mul,←Nat.add_assoc]at this;exact this
theorem yM7:∀{ks:List (List Nd)} {o cap:Nat} {rest:List Nd},Win w b o cap (ks.flatten++rest)→∀{j:Nat} {k:List Nd},ks[j]?=some k→∃o' cap',(yE3 b o cap ks)[j]?=some (.slice (some ⟨b,o',none⟩) k.length cap')∧Win w b o' cap' k
 | [],_,_,_,_,j,k,h=>by simp at h
 |a::ks,o,cap,rest,hW,j,k,h=>by
  simp only[List.flatten_cons,List.append_assoc]at hW
  have hp:=hW.at_.part
  have hl:=hW.len
  have hc:=hW.cap
  have hs:=hW.sm
  simp only[List.length_append]at hl hs
  cases j with
  |zero=>
   simp at h
   subst h
   exact⟨o,cap,rfl,hp.1,hW.lt,by omega,hc,by omega⟩
  |succ j=>
   simp at h
   exact yM7 (ks:=ks) (o:=o+a.length*7) (cap:=cap-a.length) (rest:=rest) ⟨hp.2,hW.lt,by simp only[List.length_append];omega,by omega,by simp only[List.length_append];omega⟩ h
structure KiJ (w:World) (b o cap:Nat) (pre suf:List (List Nd)) (g cp:Nat) (wr:World):Prop where
 own:OwnV wr w.heap.size g cp (yE3 b (o+pre.flatten.length*7) (cap-pre.flatten.length) suf)
 below:Below w.heap.size w wr
variable {cap:Nat} {ks:List (List Nd)}
theorem yOd {e:Nd} (h:Win w b o cap (ks.flatten++ [e])) (hk:ks.length=yAo e.kind) (hT:∀k∈ks,IsT 1 k):
  Calls Tryz.prog 81 #[.slice (some ⟨b,o,none⟩) (ks.flatten.length+1) cap] w fun r w'=>∃g cp,r=.returned (.slice (some ⟨g,0,none⟩) ks.length cp)∧OwnV w' w.heap.size g cp (yE3 b o cap ks)∧Below w.heap.size w w':=by
 have HW:Hid (Win w b o cap (ks.flatten++ [e])∧∀k∈ks,IsT 1 k):=⟨h,hT⟩;have hkind:=h.kind (i:=ks.flatten.length) (e:=e) (by simp);have h1:=h.len;have h2:=h.cap;have h3:=h.sm;obtain⟨n,hn⟩:=qE ks.flatten.length;have HN:Hid (n=ks.flatten.length):=hn;rw[List.length_append,List.length_singleton]at h1 h3;rw[←hn]at hkind h1 h3⊢;have ha:=yFb e.kind;have HA:Hid (ks.length=yAo e.kind):=hk;obtain⟨W0,hW0⟩:=qE (w.alloc (Obj.cells #[] 23):World);have HW0:Hid (KiJ w b o cap ks [] w.heap.size 0 W0):=by rw[hW0];exact⟨yU4 w (Nat.le_refl _),qB⟩
 have hkind0:W0.cell? ⟨b,o+n*7,none⟩=some (.int .i64 e.kind):=by rw[(Chg.of_below HW0.below (S:=fun _=>False)).cell (p:=⟨b,o+n*7,none⟩) h.lt (fun q=>q)];exact hkind
 obtain⟨a,hak⟩:=qE (yAo e.kind);have HAr:Hid (Calls Tryz.prog 108 #[.int .i64 e.kind] W0 fun r w'=>r=.returned (.int .i64 (a:Int))∧w'=W0):=by rw[hak];exact yIm e.kind W0
 have HAk:Hid (ks.length=a):=by rw[hak];exact hk
 rw[hk,←hak];rw[←hak]at ha;clear h hn hT hk hkind HA hak;go_enter Tryz.func81,Tryz.ntmps81;go_upto_region 3 with fail;rw[←hW0];clear hW0;go_wp2_with fail;refine HAr.mono ?_;rintro r w1 ⟨rfl,hw1⟩;rw[hw1];clear hw1 hkind0 HAr;go_wp2_with fail;go_loopw[3,4,5] (fun rv ov kv wr=>∃(c m g cp:Nat) (pre suf:List (List Nd)),ks=pre++suf∧pre.length=c∧suf.length+c=a∧m=pre.flatten.length∧m≤n∧kv=.int .i64 (c:Int)∧rv=.slice (some ⟨b,o,none⟩) m cap∧ov=.slice (some ⟨g,0,none⟩) suf.length cp∧KiJ w b o cap pre suf g cp wr) (fun _ _ kv _=>(intOf kv).toNat);case atStart=>exact⟨a,n,_,0,ks,[],by simp,HAk.out,by simp,HN.out,Nat.le_refl _,rfl,rfl,rfl,HW0.out⟩
 case round=>
  obtain⟨c,m,g,cp,pre,suf,hks,hpl,hsl,hm,hmn,rfl,rfl,rfl,hJ⟩:=hrel;have HJ:Hid (KiJ w b o cap pre suf g cp wr∧ks=pre++suf∧m=pre.flatten.length∧pre.length=c):=⟨hJ,hks,hm,hpl⟩;have hgl:=hJ.own.lt;have hsz:=hJ.below.size;clear hJ hks hm hpl HW0;obtain⟨q,hq⟩:=qE suf.length;have HQ:Hid (q=suf.length):=hq;rw[←hq]at hsl⊢;clear hq;by_cases hc0:c=0
  ·subst hc0;have HF:Hid (pre= []∧q=a):=⟨List.length_eq_zero_iff.1 HJ.2.2.2,by omega⟩;go_wp2_with fail;go_ret;have hp:=HF.1;have hj:=HJ.1.own;have hs:=HJ.2.1;rw[hp]at hj hs;simp at hj hs;refine⟨g,cp,by rw[←HF.2];rfl,by rw[hs];exact hj,HJ.1.below⟩
  ·obtain⟨c',rfl⟩:∃c',c=c'+1:=⟨c-1,by omega⟩;have zc:(0:Int)<(c':Int)+1:=by omega
   obtain⟨pre',k,hpre⟩:∃pre' k,pre=pre'++ [k]:=by
    rcases List.eq_nil_or_concat pre with h|⟨p',k,h⟩
    ·have:=HJ.2.2.2;rw[h]at this;simp at this
    ·exact⟨p',k,by rw[h,List.concat_eq_append]⟩
   obtain⟨m',hm'⟩:=qE pre'.flatten.length;have hmm:m=m'+k.length:=by rw[HJ.2.2.1,hpre,hm'];simp
   have hkT:IsT 1 k:=HW.2 k (by rw[HJ.2.1,hpre];simp);have hk1:=hkT.len;have hwin:Win wr b o cap pre.flatten:=by have hw:=HW.1;rw[HJ.2.1]at hw;simp only[List.flatten_append,List.append_assoc]at hw;have h8:=hw.len;have h9:=hw.sm;simp only[List.length_append]at h8 h9;exact Win.below ⟨hw.at_.part.1,hw.lt,by omega,hw.cap,by omega⟩ HJ.1.below
   have HC:Hid (Calls Tryz.prog 79 #[.slice (some ⟨b,o,none⟩) m cap] wr fun r w'=>r=.returned (.int .i64 (m':Int))∧w'=wr):=by
    have hf:=yOe hwin;rw[←HJ.2.2.1]at hf;refine hf.mono ?_;have hdrop:pre.flatten.drop m'=k:=by rw[hpre,hm'];simp
    rintro r w2 ⟨hw2,(⟨i,rfl,hi,hTi⟩|⟨rfl,hTi⟩)⟩
    ·refine⟨?_,hw2⟩;have hml:m'≤pre.flatten.length:=by rw[hpre,hm'];simp
     have:i=m':=by
      rcases Nat.le_total i m' with hle|hle
      ·exact yOx hTi (by rw[hdrop];exact hkT) hle hml
      ·exact(yOx (by rw[hdrop];exact hkT) hTi hle hi).symm
     rw[this]
    ·exact absurd (by rw[hdrop];exact hkT) (hTi m' (by rw[hpre,hm'];simp))
   have HP:Hid (pre=pre'++ [k]∧m'=pre'.flatten.length∧IsT 1 k∧m=m'+k.length):=⟨hpre,hm',hkT,hmm⟩;have hmle:m'≤m:=by omega
   have z1:(m':Int)≤(m:Int):=by omega
   have z2:(m:Int)≤(cap:Int):=by omega
   have z3:(m':Int)≤(cap:Int):=by omega
   clear hwin hkT hpre hm' hmm hk1;go_wp2_with fail;refine HC.mono ?_;rintro r w2 ⟨rfl,hw2⟩;rw[hw2];clear hw2 HC;obtain⟨W5,hW5⟩:=qE (wr.alloc (Obj.cells #[.slice (some ⟨b,o+m'*7,none⟩) (m-m') (cap-m')] 23):World);have hb5:Below wr.heap.size wr W5:=by rw[hW5];exact qB
   have hz5:W5.heap.size=wr.heap.size+1:=by rw[hW5];simp
   have HW5:Hid (OwnV W5 w.heap.size wr.heap.size 1 [.slice (some ⟨b,o+m'*7,none⟩) (m-m') (cap-m')]∧OwnV W5 w.heap.size g cp (yE3 b (o+pre.flatten.length*7) (cap-pre.flatten.length) suf)∧Below w.heap.size w W5):=by refine⟨?_,HJ.1.own.below hb5,HJ.1.below.trans (hb5.mono hsz)⟩;rw[hW5];exact yU3 wr hsz _
   go_wp2_with (at_builtin;rw[←hW5];refine yH2 _ rfl _ _ rfl w.heap.size wr.heap.size 1 1 g q cp [.slice (some ⟨b,o+m'*7,none⟩) (m-m') (cap-m')] (yE3 b (o+pre.flatten.length*7) (cap-pre.flatten.length) suf) rfl rfl rfl ?hm ?hO ?hc ?hy ?hl ?hb ?_);case hm=>rw[yJl];exact HQ.out
   case hO=>exact HW5.1
   case hc=>exact fun j v hv=>HW5.2.1.cell hv
   case hy=>exact yM6 _ _ _ _
   case hl=>rw[yJl,←HQ.out];simp;omega
   case hb=>omega
   intro g' cp' w' hO' hgr hat;rw[←hW5]at hgr;have HJ6:Hid (KiJ w b o cap pre' (k::suf) g' cp' w'∧ks=pre'++(k::suf)∧pre'.length=c'∧(k::suf).length=q+1):=by
    have hP:=HP.out;refine⟨⟨?_,HW5.2.2.grown hgr (by omega) (fun j hj=>by cases hj;omega)⟩,by rw[HJ.2.1,hP.1];simp,?_,by rw[HQ.out];rfl⟩
    ·have e1:(List.map List.length pre).sum=m'+k.length:=by rw[←List.length_flatten,←HJ.2.2.1];exact hP.2.2.2
     rw[e1]at hO';have e2:m-m'=k.length:=by omega
     rw[e2]at hO';have e3:o+(m'+k.length)*7=o+m'*7+k.length*7:=by omega
     have e4:cap-(m'+k.length)=cap-m'-k.length:=by omega
     rw[e3,e4]at hO';rw[←hP.2.1];exact hO'
    ·have:=HJ.2.2.2;rw[hP.1]at this;simpa using this
   clear hO' hgr hat hW5 hb5;go_wp2_with fail;go_roundw;case rel=>exact⟨c',m',g',cp',pre',k::suf,HJ6.2.1,HJ6.2.2.1,by have:=HJ6.2.2.2;omega,HP.2.1,by omega,by go_num,rfl,by rw[HJ6.2.2.2];go_num,HJ6.1⟩
   case measure=>simp[intOf]<;>omega
section
variable (G:Nd→Bool)
end
def yKo (w:World) (v:Value) (es:List Nd):Prop:=
 (∃a cap,v=.slice a 0 cap∧es= [])∨
 ∃b off cap,v=.slice (some ⟨b,off,none⟩) es.length cap∧yBj w b off es∧b<w.heap.size∧es.length≤cap∧cap≤maxLen
variable {B:Nat} {es:List Nd}
theorem yKo.below {v:Value} (h:yKo w v es) (hb:Below B w w') (hB:w.heap.size≤B):yKo w' v es:=by exact zzQ75
variable {n:Nat}
theorem yKo.own (h:yAu w base g cap es) (hn:n=es.length):yKo w (.slice (some ⟨g,0,none⟩) n cap) es:=by subst hn;exact .inr ⟨g,0,cap,rfl,h.at,h.lt.2,h.caps.1,h.caps.2⟩
open Classical in
noncomputable def goodB (e:Nd):Bool:=decide (yAj e)
theorem yFw (e:Nd):goodB e=true↔yAj e:=by unfold goodB;simp
def yEu (xs:List Nd):Prop:=xs.length≤200∧∃s,ShT goodB [s] xs∧s.valid=true∧s.nest≤20
theorem yHt (h:yEu xs):∀e∈xs,yAj e:=by obtain⟨_,s,hs,hv,_⟩:=h;have:=ShT.valid goodB hs;simp[hv]at this;exact fun e he=>(yFw e).1 (this e he)
theorem yW8 {s t:yAx} (h:ShT goodB [s] xs) (k:ShT goodB [t] xs):s=t:=by have a:=ShT.fold goodB h [];have b:=ShT.fold goodB k [];rw[a]at b;simpa using b
def xAf (xs:List Nd) (w:World) (r:Ending) (w':World):Prop:=∃b,r=.returned (.bool b)∧(b=true↔yEu xs)∧Below w.heap.size w w'
structure WdN (w:World) (g o cp:Nat) (xs:List Nd):Prop where
 nds:yBj w g o xs
 lt:g<w.heap.size
 caps:xs.length≤cp∧cp≤maxLen
theorem WdN.at (h:WdN w g o cp xs):yBj w g o xs:=h.nds
theorem WdN.below (h:WdN w g o cp xs) (hb:Below B w w') (hg:g<B):WdN w' g o cp xs:=
 ⟨h.at.below hb hg,by have:=hb.size;have:=h.lt;omega,h.caps⟩
theorem yAu.wd (h:yAu w base g cp xs):WdN w g 0 cp xs:=⟨h.at,h.lt.2,h.caps⟩
section
section
variable {T:Type} (V:Nd→List T→T)
inductive TrV:List T→List Nd→Prop
 |nil:TrV [] []
 |snoc {ss os:List T} {xs:List Nd} (n:Nd) (ho:os.length=yAo n.kind) (h:TrV (ss++os) xs):TrV (ss++ [V n os]) (xs++ [n])
def yQa (st:List T) (n:Nd):Option (List T):=
 if st.length<yAo n.kind then none else some (st.take (st.length-yAo n.kind)++ [V n (st.drop (st.length-yAo n.kind))])
def yDy (st:List T):List Nd→Option (List T)
 | []=>some st
 |n::ns=>(yQa V st n).bind fun s=>yDy s ns
theorem yD9 (st:List T) (xs ys:List Nd):yDy V st (xs++ys)=(yDy V st xs).bind (fun s=>yDy V s ys):=by
 induction xs generalizing st with
 |nil=>rfl
 |cons x xs ih=>
  simp only[List.cons_append,yDy];cases yQa V st x with
  |none=>rfl
  |some s=>exact ih s
theorem IsT.trv {k:Nat} (h:IsT k xs):∃ss,ss.length=k∧TrV V ss xs:=by
 induction h with
 |nil=>exact⟨[],rfl,.nil⟩
 | @snoc k xs n h ih=>
   obtain⟨ss,hl,hs⟩:=ih;refine⟨ss.take k++ [V n (ss.drop k)],by simp;omega,.snoc n (by simp;omega) ?_⟩;rw[List.take_append_drop];exact hs
theorem TrV.tree {ss:List T} (h:TrV V ss xs):IsT ss.length xs:=by exact zzQ71
theorem TrV.fold {ss:List T} (h:TrV V ss xs):∀st,yDy V st xs=some (st++ss):=by
 induction h with
 |nil=>intro st;simp[yDy]
 | @snoc ss os xs n ho h ih=>
   intro st;rw[yD9,ih];simp only[Option.bind_some,yDy,yQa];rw[if_neg (by simp;omega)];have hl:(st++(ss++os)).length-yAo n.kind=(st++ss).length:=by simp;omega
   rw[hl,←List.append_assoc,List.take_left,List.drop_left,List.append_assoc];simp
theorem TrV.one {ss ts:List T} (h:TrV V ss xs) (k:TrV V ts xs):ss=ts:=by have a:=h.fold V [];have b:=k.fold V [];rw[a]at b;simpa using b
theorem TrV.split {ss:List T} (h:TrV V ss xs):∀{a b:List T},ss=a++b→∃ys zs,xs=ys++zs∧TrV V a ys∧TrV V b zs:=by
 induction h with
 |nil=>intro a b e;obtain⟨rfl,rfl⟩:a= []∧b= []:=by simpa using e.symm
       exact⟨[],[],rfl,.nil,.nil⟩
 | @snoc ss os xs n ho h ih=>
   intro a b e;rcases List.eq_nil_or_concat b with rfl|⟨b',z,rfl⟩
   ·simp at e;subst e;exact⟨xs++ [n],[],by simp,.snoc n ho h,.nil⟩
   ·rw[List.concat_eq_append,←List.append_assoc]at e;have e2:=List.append_inj' e rfl;obtain⟨e3,e4⟩:=e2;simp at e4;subst e3 e4;obtain⟨ys,zs,rfl,h1,h2⟩:=ih (a:=a) (b:=b'++os) (by simp);refine⟨ys,zs++ [n],by simp,h1,?_⟩;rw[List.concat_eq_append];exact .snoc n ho h2
theorem TrV.inv {s:T} (h:TrV V [s] xs):∃ys n os,xs=ys++ [n]∧os.length=yAo n.kind∧TrV V os ys∧s=V n os:=by exact zzQ54
inductive KidV:List T→List (List Nd)→Prop
 |nil:KidV [] []
 |cons {o:T} {os:List T} {k:List Nd} {ks:List (List Nd)} (h:TrV V [o] k) (t:KidV os ks):KidV (o::os) (k::ks)
theorem TrV.kids:∀{os:List T} {ys:List Nd},TrV V os ys→∃ks,ys=ks.flatten∧KidV V os ks
 | [],ys,h=>by
   have:=(TrV.tree V h).zero
   subst this
   exact⟨[],rfl,.nil⟩
 |o::os,ys,h=>by
  obtain⟨a,b,rfl,h1,h2⟩:=TrV.split V h (a:= [o]) (b:=os) rfl
  obtain⟨ks,rfl,hk⟩:=TrV.kids h2
  exact⟨a::ks,rfl,.cons h1 hk⟩
theorem KidV.length {os:List T} (h:KidV V os ks):os.length=ks.length:=by
 induction h with
 |nil=>rfl
 |cons _ _ ih=>simp[ih]
theorem KidV.tree {os:List T} (h:KidV V os ks):∀k∈ks,IsT 1 k:=by
 induction h with
 |nil=>intro k hk;cases hk
 |cons h1 _ ih=>
  intro k hk;rcases List.mem_cons.1 hk with rfl|hk
  ·exact h1.tree
  ·exact ih k hk
theorem KidV.nth {os:List T} (h:KidV V os ks):∀{j:Nat} {k:List Nd},ks[j]?=some k→∃o,os[j]?=some o∧TrV V [o] k:=by
 induction h with
 |nil=>intro j k hk;simp at hk
 |cons h1 _ ih=>
  intro j k hk;cases j with
  |zero=>simp at hk;subst hk;exact⟨_,rfl,h1⟩
  |succ j=>simp at hk;simpa using ih hk
end
theorem baInj {a b:ByteArray} (h:a.toList=b.toList):a=b:=by
 rw[ByteArray.toList_eq,ByteArray.toList_eq]at h;cases a with
 |mk a=>cases b with
  |mk b=>
   simp only at h;congr 1;exact Array.toList_inj.1 h
end
theorem yKo.form {v:Value} (h:yKo w v xs):∃a c,v=.slice a xs.length c∧(xs≠ []→∃b o,a=some ⟨b,o,none⟩∧yBj w b o xs∧b<w.heap.size∧xs.length≤c∧c≤maxLen):=by
 rcases h with⟨a,cap,rfl,rfl⟩|⟨b,off,cap,rfl,hE,hlt,h1,h2⟩
 ·exact⟨a,cap,rfl,fun q=>absurd rfl q⟩
 ·exact⟨_,cap,rfl,fun _=>⟨b,off,rfl,hE,hlt,h1,h2⟩⟩
theorem yVb (x y:Nd):∃B:Bool,(B=false↔x=y)∧∀wx,(binOp .neq 65 (.agg #[.int .i64 x.kind,.string x.s,.bool x.hi,.string x.t,.int .u64 x.lo,.int .u64 x.up,.int .i64 x.n]) (.agg #[.int .i64 y.kind,.string y.s,.bool y.hi,.string y.t,.int .u64 y.lo,.int .u64 y.up,.int .i64 y.n])).run Tryz.prog wx=.ok (.bool B) wx:=by
 obtain⟨k,s,h,t,l,u,n⟩:=x;obtain⟨k',s',h',t',l',u',n'⟩:=y;refine⟨! decide (k=k'∧s.toList=s'.toList∧h=h'∧t.toList=t'.toList∧l=l'∧u=u'∧n=n'),?_,fun wx=>?_⟩
 ·rw[Bool.not_eq_eq_eq_not,Bool.not_false,decide_eq_true_eq];constructor
  ·rintro⟨rfl,h1,rfl,h2,rfl,rfl,rfl⟩;rw[baInj h1,baInj h2]
  ·intro q;cases q
   exact⟨rfl,rfl,rfl,rfl,rfl,rfl,rfl⟩
 ·go_simp;repeat' split
  all_goals simp_all
theorem yFa (es fs:List Nd):yBn (es++fs)=yBn es++yBn fs:=by simp[yBn]
variable {off:Nat}
theorem yJf (h:yBj w b off es):∀j u,(yBn es)[j]?=some u→w.cell? ((⟨b,off,none⟩:Addr).add j)=some u:=by
 intro j u hu;have hj:j<es.length*7:=by rw[←yC8];exact(List.getElem?_eq_some_iff.1 hu).1
 obtain⟨e,he⟩:∃e,es[j/7]?=some e:=⟨_,List.getElem?_eq_getElem (by omega)⟩;have hg:=yLa es (j/7) e he (j%7) (Nat.mod_lt _ (by omega));rw[show j/7*7+j%7=j by omega,hu]at hg;obtain⟨c0,c1,c2,c3,c4,c5,c6⟩:=h (j/7) e he;rw[Addr.add_mid,show off+j=off+j/7*7+j%7 by omega];have hm:j%7<7:=Nat.mod_lt _ (by omega);generalize j%7=m at*;match m,hm,hg with
 |0,_,hg=>rw[Nat.add_zero,c0,hg];rfl
 |1,_,hg=>rw[c1,hg];rfl
 |2,_,hg=>rw[c2,hg];rfl
 |3,_,hg=>rw[c3,hg];rfl
 |4,_,hg=>rw[c4,hg];rfl
 |5,_,hg=>rw[c5,hg];rfl
 |6,_,hg=>rw[c6,hg];rfl
theorem yOa (es:List Nd):∀u∈yBn es,u.oneCell'=true:=by intro u hu;unfold yBn at hu;obtain⟨e,_,he⟩:=List.mem_flatMap.1 hu;simp at he;rcases he with rfl|rfl|rfl|rfl|rfl|rfl|rfl<;>rfl
variable {o:Oper} {a:Act}
theorem yAg (w:World) (hgd:o.guard=none) (s x:Operand)
  (ho:o.op=.call {callee:=.builtin .append,args:=#[s,x],argTypes:=#[23,23]})
  (base g cp n b off m cx:Nat) (fs es:List Nd) (hs:a.eval s=.slice (some ⟨g,0,none⟩) n cp) (hx:a.eval x=.slice (some ⟨b,off,none⟩) m cx) (hn:n=fs.length) (hm:m=es.length) (hO:yAu w base g cp fs)
  (hc:yBj w b off es) (hlen:fs.length+es.length≤2^30) (hbase:base≤w.heap.size)
  (h:∀g' cp' w',yAu w' base g' cp' (fs++es)→w.grownBy w' (some g)→(g'=g∨g'=w.heap.size)→wpList Tryz.prog ops Q rest (a.put o.dst (.slice (some ⟨g',0,none⟩) (n+m) cp')) w'):wpList Tryz.prog ops Q (o::rest) a w:=by
 subst hn hm;obtain⟨i,hi,hz0,hz1,hz2⟩:=info_parts Tryz.infoNd;refine wpList_append_own_at w hgd s x 23 ho base 65 i _ 7 72 Tryz.underlying23 hi hz0 hz1 hz2 rfl (by decide) (.slice (some ⟨g,0,none⟩) fs.length cp) fs.length (yBn fs) hs hO ⟨b,off,none⟩ es.length cx (yBn es) hx (yC8 es) (yJf hc) (yOa es) ?_ ?_ hbase ?_
 ·unfold maxLen;omega
 ·omega
 ·intro v' w' hO' hgr hnil hat;rcases hO'.2 with⟨h0,_⟩|⟨g',cap',cur,hv,_,_,hn,hcap,_,_⟩
  ·have:=(hnil.1 h0).1;cases this
  ·subst hv;refine h g' cap' w' ?_ hgr ?_
   ·unfold yAu;rw[List.length_append,yFa];exact hO'
   ·simp[Value.ownBlock]at hat;exact hat
structure DInv (base cb:Nat) (bv:Value) (n:Nat) (w wr:World):Prop where
 d:yGw base cb bv n wr
 c:Chg (fun k=>k=cb) w wr
 lt:cb<w.heap.size
 hb:base≤w.heap.size
variable {cb:Nat} {bv:Value} {w1:World}
theorem DInv.below {wr:World} (h:DInv base cb bv n w wr) (hd:Below wr.heap.size wr w1):DInv base cb bv n w w1:=⟨h.d.below hd,h.c.trans (Chg.of_below hd),h.lt,h.hb⟩
variable {S:Nat→Prop}
theorem yAu.chg (h:yAu w base g cap es) (hc:Chg S w w') (hn:¬S g):yAu w' base g cap es:=yA2 h hc (fun k q=>by simp[Value.ownBlock]at q;subst q;exact hn)
theorem yD1 (w:World) (base:Nat) (f:Nd) (hb:base≤w.heap.size):yAu (w.alloc (Obj.cells #[.int .i64 f.kind,.string f.s,.bool f.hi,.string f.t,.int .u64 f.lo,.int .u64 f.up,.int .i64 f.n] 65)) base w.heap.size 1 [f]:=
 World.ownsRow_lit (base:=base) (e:=65) (size:=7) w #[.int .i64 f.kind,.string f.s,.bool f.hi,.string f.t,.int .u64 f.lo,.int .u64 f.up,.int .i64 f.n] 1 hb (by decide) rfl
def TreP (base cb:Nat) (bv:Value) (n m:Nat) (w:World) (e:Ending) (w':World):Prop:=∃(g cp:Nat) (xs:List Nd),e=.returned (.slice (some ⟨g,0,none⟩) xs.length cp)∧xs.length≤m∧0<xs.length∧Hid ((∀e∈xs,e.small)∧yAu w' w.heap.size g cp xs∧DInv base cb bv n w w')
theorem yCh (k:Int) (h:0≤k∧k≤100000):(⟨k,⟨#[]⟩,false,⟨#[]⟩,0,0,0⟩:Nd).small:=⟨Nat.zero_le _,Nat.zero_le _,(by show(0:Int)≤0∧(0:Int)≤100000;omega),(by show(0:Int)≤0∧(0:Int)≤100000;omega),(by show(0:Int)≤0∧(0:Int)≤100000;omega),h⟩
variable {m:Nat}
theorem TreP.up {m':Nat} {e:Ending} (h:TreP base cb bv n m w e w') (hm:m≤m'):TreP base cb bv n m' w e w':=by obtain⟨g,cp,xs,h1,h2,h3,h4⟩:=h;exact⟨g,cp,xs,h1,by omega,h3,h4⟩
structure Two (base cb:Nat) (bv:Value) (n:Nat) (w:World) (ga ca gb cc:Nat) (A B:List Nd) (wr:World):Prop where
 a:yAu wr w.heap.size ga ca A
 b:yAu wr w.heap.size gb cc B
 ne:¬ga=gb
 d:DInv base cb bv n w wr
 sa:∀e∈A,e.small
 sb:∀e∈B,e.small
structure DIF (xs:List Int) (s:Dst) (base cb:Nat) (bv:Value) (w wr:World):Prop where
 d:yA5 xs s base cb bv wr
 c:Chg (fun k=>k=cb) w wr
 lt:cb<w.heap.size
 hb:base≤w.heap.size
variable {xs:List Int} {s:Dst}
theorem DIF.start (h:yA5 xs s base cb bv w):DIF xs s base cb bv w w:=⟨h,Chg.of_below (Below.refl _ _),h.lt.2,h.base⟩
theorem DIF.call {s1:Dst} {wr:World} (h:DIF xs s base cb bv w wr) (hd:yBq xs s1 base cb bv wr w1):DIF xs s1 base cb bv w w1:=⟨hd.1,h.c.trans hd.2,h.lt,h.hb⟩
theorem DIF.below {wr:World} (h:DIF xs s base cb bv w wr) (hd:Below wr.heap.size wr w1):DIF xs s base cb bv w w1:=⟨h.d.below hd,h.c.trans (Chg.of_below hd),h.lt,h.hb⟩
theorem DIF.grow {wr:World} (h:DIF xs s base cb bv w wr) {row:Option Nat} (hg:wr.grownBy w1 row) (hr:∀k,row=some k→w.heap.size≤k):DIF xs s base cb bv w w1:=by have hc:Chg (fun k=>row=some k) wr w1:=Chg.of_grown hg (fun k q=>q);have hl:=h.lt;have hbb:=h.hb;exact⟨h.d.chg hc (fun q=>by have:=hr _ q;omega) (fun k q=>by have:=hr _ q;omega),Chg.grown_new h.c hg hr,h.lt,h.hb⟩
def TreF (xs:List Int) (Tr:Dst→List Nd×Dst) (s:Dst) (base cb:Nat) (bv:Value) (m:Nat) (w:World) (e:Ending) (w':World):Prop:=∃(g cp:Nat) (L:List Nd) (s':Dst),e=.returned (.slice (some ⟨g,0,none⟩) L.length cp)∧Hid (Tr s=(L,s'))∧L.length≤m∧0<L.length∧Hid ((∀e∈L,e.small)∧yAu w' w.heap.size g cp L∧DIF xs s' base cb bv w w')
def TreK (xs:List Int) (Tr:Dst→List Nd×Dst) (z:Int) (m:Nat):Prop:=∀(s:Dst) (base cb:Nat) (bv:Value) w,yA5 xs s base cb bv w→Calls Tryz.prog 99 #[.pointer (some ⟨cb,0,none⟩),.int .i64 z] w (TreF xs Tr s base cb bv m w)
structure TwoF (xs:List Int) (s:Dst) (base cb:Nat) (bv:Value) (w:World) (ga ca gb cc:Nat) (A B:List Nd) (wr:World):Prop where
 a:yAu wr w.heap.size ga ca A
 b:yAu wr w.heap.size gb cc B
 ne:¬ga=gb
 d:DIF xs s base cb bv w wr
 sa:∀e∈A,e.small
 sb:∀e∈B,e.small
def yDd (xs:List Int) (Tr:Dst→List Nd×Dst) (z:Int) (s:Dst):List Nd×Dst:=
 if z=0∨(belF xs 10 s).1<2 then([(yBl xs (belF xs 10 s).2).1],(yBl xs (belF xs 10 s).2).2)
 else if(belF xs 10 s).1<6 then((Tr (belF xs 10 s).2).1++(Tr (Tr (belF xs 10 s).2).2).1++ [ndK 14],(Tr (Tr (belF xs 10 s).2).2).2)
 else if(belF xs 10 s).1<8 then((Tr (belF xs 10 s).2).1++(Tr (Tr (belF xs 10 s).2).2).1++ [ndK 15],(Tr (Tr (belF xs 10 s).2).2).2)
 else if(belF xs 10 s).1=8 then
  (if((belF xs 3 (Tr (Tr (belF xs 10 s).2).2).2).1==0)=true then((Tr (belF xs 10 s).2).1++(Tr (belF xs 10 s).2).1++ [ndK 15],(belF xs 3 (Tr (Tr (belF xs 10 s).2).2).2).2)
   else((Tr (belF xs 10 s).2).1++(Tr (Tr (belF xs 10 s).2).2).1++(Tr (belF xs 3 (Tr (Tr (belF xs 10 s).2).2).2).2).1++ [ndK 16],(Tr (belF xs 3 (Tr (Tr (belF xs 10 s).2).2).2).2).2))
 else((Tr (belF xs 10 s).2).1++(Tr (Tr (belF xs 10 s).2).2).1++(Tr (Tr (Tr (belF xs 10 s).2).2).2).1++ [ndK 16],(Tr (Tr (Tr (belF xs 10 s).2).2).2).2)
theorem yIq (xs:List Int) (Tr:Dst→List Nd×Dst) (z:Int) (m:Nat) (hz0:0≤z) (hz1:z≤100) (hm:m≤10000) (HT0:0<z→TreK xs Tr (z-1) m):TreK xs (yDd xs Tr z) z (3*m+1):=by
 intro s base cb bv w h;have HT:Hid (0<z→TreK xs Tr (z-1) m):=HT0;have HD:Hid (DIF xs s base cb bv w w):=DIF.start h;clear h HT0;have leafArm:∀(ux:Dst) (wx:World),DIF xs ux base cb bv w wx→Calls Tryz.prog 118 #[.pointer (some ⟨cb,0,none⟩)] wx (LefF xs ux base cb bv wx):=fun ux wx hx=>yVj xs ux base cb bv wx hx.d;have HL:Hid (∀(ux:Dst) (wx:World),DIF xs ux base cb bv w wx→Calls Tryz.prog 118 #[.pointer (some ⟨cb,0,none⟩)] wx (LefF xs ux base cb bv wx)):=leafArm;clear leafArm;go_enter Tryz.func99,Tryz.ntmps99;go_wp2_with fail;obtain⟨x,u1,hxE⟩:∃x u1,belF xs 10 s=(x,u1):=⟨_,_,rfl⟩;obtain⟨hx0,hx1⟩:0≤x∧x<10:=by have h9:=yAm xs (m:=10) (by omega) s;rw[hxE]at h9;exact h9
 have HX:Hid (belF xs 10 s=(x,u1)):=hxE;clear hxE;refine(yAr HD.d (by omega) (by omega) HX.out).mono ?_;rintro e w1 ⟨rfl,hd1⟩;have H1:Hid (DIF xs u1 base cb bv w w1):=HD.call hd1;have hs1:=hd1.2.size;clear hd1;by_cases hz:z=0∨x<2
 ·have fin:∀(ux:Dst) (wx wy:World) (f:Nd),yBl xs u1=(f,ux)→DIF xs ux base cb bv w wx→f.small→wy=wx.alloc (Obj.cells #[.int .i64 f.kind,.string f.s,.bool f.hi,.string f.t,.int .u64 f.lo,.int .u64 f.up,.int .i64 f.n] 65)→TreF xs (yDd xs Tr z) s base cb bv (3*m+1) w (.returned (.slice (some ⟨wx.heap.size,0,none⟩) 1 1)) wy:=fun ux wx wy f hE hx hf hy=>by subst hy;refine⟨wx.heap.size,1,[f],ux,rfl,(by show yDd xs Tr z s=_;simp only[yDd,HX.out,hE];rw[if_pos hz]),by simp,by simp,fun e he=>by simp at he;subst he;exact hf,yD1 wx _ f hx.c.size,hx.below (qB)⟩
  have HF:Hid (∀(ux:Dst) (wx wy:World) (f:Nd),yBl xs u1=(f,ux)→DIF xs ux base cb bv w wx→f.small→wy=wx.alloc (Obj.cells #[.int .i64 f.kind,.string f.s,.bool f.hi,.string f.t,.int .u64 f.lo,.int .u64 f.up,.int .i64 f.n] 65)→TreF xs (yDd xs Tr z) s base cb bv (3*m+1) w (.returned (.slice (some ⟨wx.heap.size,0,none⟩) 1 1)) wy):=fin;clear fin;by_cases hz':z=0
  ·subst hz';exact zzQ45
  ·have hx2:x<2:=by omega
   have hzb:(z==0)=false:=by rw[beq_eq_false_iff_ne];exact hz'
   exact zzQ45
 ·have hzb:(z==0)=false:=by rw[beq_eq_false_iff_ne];omega
  have hx2:¬x<2:=by omega
  have HZ:Hid (¬(z=0∨x<2)):=hz;have HC:Hid (∀ux wx,DIF xs ux base cb bv w wx→Calls Tryz.prog 99 #[.pointer (some ⟨cb,0,none⟩),.int .i64 (z-1)] wx (TreF xs Tr ux base cb bv m wx)):=fun ux wx hx=>HT.out (by omega) ux base cb bv wx hx.d;have hzw:1≤z:=by omega
  clear hz;go_wp2_with fail;refine(HC.out _ _ H1.out).mono ?_;rintro e w2 ⟨ga,ca,A,uA,rfl,EA,hAl,hA0,K2⟩;have H2:Hid (DIF xs uA base cb bv w w2):=⟨K2.out.2.2.d,H1.c.trans K2.out.2.2.c,H1.lt,H1.hb⟩;have hs2:=K2.out.2.2.c.size;have hga:=K2.out.2.1.lt;go_wp2_with fail;refine(HC.out _ _ H2.out).mono ?_;rintro e w3 ⟨gb,cc,B,uB,rfl,EB,hBl,hB0,K3⟩;have hs3:=K3.out.2.2.c.size;have hgb:=K3.out.2.1.lt;have H3:Hid (TwoF xs uB base cb bv w ga ca gb cc A B w3):=by have hcl:=H1.lt;refine⟨(K2.out.2.1.mono (by omega)).chg K3.out.2.2.c (by omega),K3.out.2.1.mono (by omega),by omega,⟨K3.out.2.2.d,H2.c.trans K3.out.2.2.c,H1.lt,H1.hb⟩,K2.out.1,K3.out.1⟩
  clear K2 K3 H2 HD;by_cases hx6:x<6
  ·skip;go_wp2_with (at_builtin;refine yAg _ rfl _ _ rfl w.heap.size ga ca A.length gb 0 B.length cc A B rfl rfl rfl rfl H3.a H3.b.at ?hl1 ?hb1 ?_);case hl1=>omega
   case hb1=>exact H3.d.c.size
   intro g4 c4 w4 hO4 hgr4 hat4;obtain⟨Q,hQ⟩:=qE (A++B);rw[←hQ]at hO4;have HQe:Hid (Q=A++B):=hQ;have HQ:Hid (Q.length=A.length+B.length):=by show _=_;rw[hQ];simp
   have H4:Hid (yAu w4 w.heap.size g4 c4 Q∧DIF xs uB base cb bv w w4∧(∀e∈Q,e.small)):=⟨hO4,H3.d.grow hgr4 (fun k q=>by cases q;exact H3.a.lt.1),fun e he=>by rw[hQ]at he;exact(List.mem_append.1 he).elim (fun q=>H3.sa e q) (fun q=>H3.sb e q)⟩;clear hO4 hgr4 hat4 hQ;obtain⟨W5,hW5⟩:=qE (w4.alloc (Obj.cells #[.int .i64 14,.string ⟨#[]⟩,.bool false,.string ⟨#[]⟩,.int .u64 0,.int .u64 0,.int .i64 0] 65):World);have H5:Hid (yAu W5 w.heap.size g4 c4 Q∧DIF xs uB base cb bv w W5∧yBj W5 w4.heap.size 0 [(⟨14,⟨#[]⟩,false,⟨#[]⟩,0,0,0⟩:Nd)]):=by
    have hb5:Below w4.heap.size w4 W5:=by rw[hW5];exact qB
    exact⟨H4.1.below hb5 H4.1.lt.2,H4.2.1.below hb5,by rw[hW5];exact(yD1 w4 w.heap.size ⟨14,⟨#[]⟩,false,⟨#[]⟩,0,0,0⟩ H4.2.1.c.size).at⟩
   have HW5:Hid (W5=w4.alloc (Obj.cells #[.int .i64 14,.string ⟨#[]⟩,.bool false,.string ⟨#[]⟩,.int .u64 0,.int .u64 0,.int .i64 0] 65)):=hW5;clear hW5;go_wp2_with (at_builtin;rw[←HW5.out];refine yAg _ rfl _ _ rfl w.heap.size g4 c4 (A.length+B.length) w4.heap.size 0 1 1 Q [(⟨14,⟨#[]⟩,false,⟨#[]⟩,0,0,0⟩:Nd)] rfl rfl HQ.symm rfl H5.1 H5.2.2 ?hl2 ?hb2 ?_);case hl2=>rw[HQ.out];simp;omega
   case hb2=>exact H5.2.1.c.size
   intro g6 c6 w6 hO6 hgr6 hat6;have H6:Hid (TreF xs (yDd xs Tr z) s base cb bv (3*m+1) w (.returned (.slice (some ⟨g6,0,none⟩) (A.length+B.length+1) c6)) w6):=by
    have hq:=HQ.out;refine⟨g6,c6,Q++ [(⟨14,⟨#[]⟩,false,⟨#[]⟩,0,0,0⟩:Nd)],uB,by rw[List.length_append,hq];rfl,(by show yDd xs Tr z s=_;simp only[yDd,HX.out,EA.out,EB.out];rw[if_neg HZ.out];simp[hx6,EA.out,EB.out,HQe.out]),by rw[List.length_append,hq];simp;omega,by simp,fun e he=>?_,hO6,H5.2.1.grow hgr6 (fun k q=>by cases q;exact H5.1.lt.1)⟩;rcases List.mem_append.1 he with q|q
    ·exact H4.2.2 e q
    ·simp at q;subst q;exact yCh 14 (by omega)
   clear hO6 hgr6 hat6 HW5;go_wp2_with fail;go_ret;exact H6.out
  ·by_cases hx8:x<8
   ·skip;go_wp2_with (at_builtin;refine yAg _ rfl _ _ rfl w.heap.size ga ca A.length gb 0 B.length cc A B rfl rfl rfl rfl H3.a H3.b.at ?hl1 ?hb1 ?_);case hl1=>omega
    case hb1=>exact H3.d.c.size
    intro g4 c4 w4 hO4 hgr4 hat4;obtain⟨Q,hQ⟩:=qE (A++B);rw[←hQ]at hO4;have HQe:Hid (Q=A++B):=hQ;have HQ:Hid (Q.length=A.length+B.length):=by show _=_;rw[hQ];simp
    have H4:Hid (yAu w4 w.heap.size g4 c4 Q∧DIF xs uB base cb bv w w4∧(∀e∈Q,e.small)):=⟨hO4,H3.d.grow hgr4 (fun k q=>by cases q;exact H3.a.lt.1),fun e he=>by rw[hQ]at he;exact(List.mem_append.1 he).elim (fun q=>H3.sa e q) (fun q=>H3.sb e q)⟩;clear hO4 hgr4 hat4 hQ;obtain⟨W5,hW5⟩:=qE (w4.alloc (Obj.cells #[.int .i64 15,.string ⟨#[]⟩,.bool false,.string ⟨#[]⟩,.int .u64 0,.int .u64 0,.int .i64 0] 65):World);have H5:Hid (yAu W5 w.heap.size g4 c4 Q∧DIF xs uB base cb bv w W5∧yBj W5 w4.heap.size 0 [(⟨15,⟨#[]⟩,false,⟨#[]⟩,0,0,0⟩:Nd)]):=by
     have hb5:Below w4.heap.size w4 W5:=by rw[hW5];exact qB
     exact⟨H4.1.below hb5 H4.1.lt.2,H4.2.1.below hb5,by rw[hW5];exact(yD1 w4 w.heap.size ⟨15,⟨#[]⟩,false,⟨#[]⟩,0,0,0⟩ H4.2.1.c.size).at⟩
    have HW5:Hid (W5=w4.alloc (Obj.cells #[.int .i64 15,.string ⟨#[]⟩,.bool false,.string ⟨#[]⟩,.int .u64 0,.int .u64 0,.int .i64 0] 65)):=hW5;clear hW5;go_wp2_with (at_builtin;rw[←HW5.out];refine yAg _ rfl _ _ rfl w.heap.size g4 c4 (A.length+B.length) w4.heap.size 0 1 1 Q [(⟨15,⟨#[]⟩,false,⟨#[]⟩,0,0,0⟩:Nd)] rfl rfl HQ.symm rfl H5.1 H5.2.2 ?hl2 ?hb2 ?_);case hl2=>rw[HQ.out];simp;omega
    case hb2=>exact H5.2.1.c.size
    intro g6 c6 w6 hO6 hgr6 hat6;have H6:Hid (TreF xs (yDd xs Tr z) s base cb bv (3*m+1) w (.returned (.slice (some ⟨g6,0,none⟩) (A.length+B.length+1) c6)) w6):=by
     have hq:=HQ.out;refine⟨g6,c6,Q++ [(⟨15,⟨#[]⟩,false,⟨#[]⟩,0,0,0⟩:Nd)],uB,by rw[List.length_append,hq];rfl,(by show yDd xs Tr z s=_;simp only[yDd,HX.out,EA.out,EB.out];rw[if_neg HZ.out];simp[hx6,hx8,EA.out,EB.out,HQe.out]),by rw[List.length_append,hq];simp;omega,by simp,fun e he=>?_,hO6,H5.2.1.grow hgr6 (fun k q=>by cases q;exact H5.1.lt.1)⟩;rcases List.mem_append.1 he with q|q
     ·exact H4.2.2 e q
     ·simp at q;subst q;exact yCh 15 (by omega)
    clear hO6 hgr6 hat6 HW5;go_wp2_with fail;go_ret;exact H6.out
   ·by_cases hx9:x=8
    ·subst hx9;obtain⟨o1,uo,hoE⟩:∃o1 uo,belF xs 3 uB=(o1,uo):=⟨_,_,rfl⟩;obtain⟨v,hvE⟩:∃v,(o1==0)=v:=⟨_,rfl⟩;have HO1:Hid (belF xs 3 uB=(o1,uo)):=hoE;have HV1:Hid ((o1==0)=v):=hvE;clear hoE hvE;have HON:Hid (∀wx,DIF xs uB base cb bv w wx→Calls Tryz.prog 33 #[.pointer (some ⟨cb,0,none⟩),.int .i64 3] wx fun e w'=>e=.returned (.bool v)∧yBq xs uo base cb bv wx w'):=fun wx hx=>yC6 hx.d (by omega) (by omega) HO1.out HV1.out;go_wp2_with fail;refine(HON.out _ H3.d).mono ?_;rintro e w3' ⟨rfl,hd⟩;have H3b:Hid (TwoF xs uo base cb bv w ga ca gb cc A B w3'):=by have hcl:=H1.lt;exact⟨H3.a.chg hd.2 (by have:=H3.a.lt.1;omega),H3.b.chg hd.2 (by have:=H3.b.lt.1;omega),H3.ne,H3.d.call hd,H3.sa,H3.sb⟩
     clear H3 hd HON;rcases(show v=true∨v=false by cases v<;>simp)with rfl|rfl
     ·skip;go_wp2_with (at_builtin;refine yAg _ rfl _ _ rfl w.heap.size ga ca A.length ga 0 A.length ca A A rfl rfl rfl rfl H3b.a H3b.a.at ?hl1 ?hb1 ?_);case hl1=>omega
      case hb1=>exact H3b.d.c.size
      intro g4 c4 w4 hO4 hgr4 hat4;obtain⟨Q,hQ⟩:=qE (A++A);rw[←hQ]at hO4;have HQe:Hid (Q=A++A):=hQ;have HQ:Hid (Q.length=A.length+A.length):=by show _=_;rw[hQ];simp
      have H4:Hid (yAu w4 w.heap.size g4 c4 Q∧DIF xs uo base cb bv w w4∧(∀e∈Q,e.small)):=⟨hO4,H3b.d.grow hgr4 (fun k q=>by cases q;exact H3b.a.lt.1),fun e he=>by rw[hQ]at he;exact(List.mem_append.1 he).elim (fun q=>H3b.sa e q) (fun q=>H3b.sa e q)⟩;clear hO4 hgr4 hat4 hQ;obtain⟨W5,hW5⟩:=qE (w4.alloc (Obj.cells #[.int .i64 15,.string ⟨#[]⟩,.bool false,.string ⟨#[]⟩,.int .u64 0,.int .u64 0,.int .i64 0] 65):World);have H5:Hid (yAu W5 w.heap.size g4 c4 Q∧DIF xs uo base cb bv w W5∧yBj W5 w4.heap.size 0 [(⟨15,⟨#[]⟩,false,⟨#[]⟩,0,0,0⟩:Nd)]):=by
       have hb5:Below w4.heap.size w4 W5:=by rw[hW5];exact qB
       exact⟨H4.1.below hb5 H4.1.lt.2,H4.2.1.below hb5,by rw[hW5];exact(yD1 w4 w.heap.size ⟨15,⟨#[]⟩,false,⟨#[]⟩,0,0,0⟩ H4.2.1.c.size).at⟩
      have HW5:Hid (W5=w4.alloc (Obj.cells #[.int .i64 15,.string ⟨#[]⟩,.bool false,.string ⟨#[]⟩,.int .u64 0,.int .u64 0,.int .i64 0] 65)):=hW5;clear hW5;go_wp2_with (at_builtin;rw[←HW5.out];refine yAg _ rfl _ _ rfl w.heap.size g4 c4 (A.length+A.length) w4.heap.size 0 1 1 Q [(⟨15,⟨#[]⟩,false,⟨#[]⟩,0,0,0⟩:Nd)] rfl rfl HQ.symm rfl H5.1 H5.2.2 ?hl2 ?hb2 ?_);case hl2=>rw[HQ.out];simp;omega
      case hb2=>exact H5.2.1.c.size
      intro g6 c6 w6 hO6 hgr6 hat6;have H6:Hid (TreF xs (yDd xs Tr z) s base cb bv (3*m+1) w (.returned (.slice (some ⟨g6,0,none⟩) (A.length+A.length+1) c6)) w6):=by
       have hq:=HQ.out;refine⟨g6,c6,Q++ [(⟨15,⟨#[]⟩,false,⟨#[]⟩,0,0,0⟩:Nd)],uo,by rw[List.length_append,hq];rfl,(by show yDd xs Tr z s=_;simp only[yDd,HX.out,EA.out,EB.out,HO1.out];rw[if_neg HZ.out];simp[EA.out,EB.out,HO1.out,HV1.out,HQe.out]),by rw[List.length_append,hq];simp;omega,by simp,fun e he=>?_,hO6,H5.2.1.grow hgr6 (fun k q=>by cases q;exact H5.1.lt.1)⟩;rcases List.mem_append.1 he with q|q
       ·exact H4.2.2 e q
       ·simp at q;subst q;exact yCh 15 (by omega)
      clear hO6 hgr6 hat6 HW5;go_wp2_with fail;go_ret;exact H6.out
     ·skip;have H3d:Hid (DIF xs uo base cb bv w w3'):=H3b.d;go_wp2_with fail;refine(HC.out _ _ H3d.out).mono ?_;rintro e w7 ⟨gc,cd,C,uC,rfl,EC,hCl,hC0,K7⟩;have hs7:=K7.out.2.2.c.size;have hgc:=K7.out.2.1.lt;have H7:Hid (TwoF xs uC base cb bv w ga ca gb cc A B w7∧yAu w7 w.heap.size gc cd C∧(∀e∈C,e.small)∧¬gc=ga):=by have hcl:=H1.lt;have hza:=H3b.a.lt;have hzw:=H3b.d.c.size;exact⟨⟨H3b.a.chg K7.out.2.2.c (by omega),H3b.b.chg K7.out.2.2.c (by have:=H3b.b.lt.1;omega),H3b.ne,⟨K7.out.2.2.d,H3b.d.c.trans K7.out.2.2.c,H1.lt,H1.hb⟩,H3b.sa,H3b.sb⟩,K7.out.2.1.mono (by omega),K7.out.1,by omega⟩
      clear K7 H3d H3b;go_wp2_with (at_builtin;refine yAg _ rfl _ _ rfl w.heap.size ga ca A.length gb 0 B.length cc A B rfl rfl rfl rfl H7.1.a H7.1.b.at ?hl1 ?hb1 ?_);case hl1=>omega
      case hb1=>exact H7.1.d.c.size
      intro g4 c4 w4 hO4 hgr4 hat4;obtain⟨Q,hQ⟩:=qE (A++B);rw[←hQ]at hO4;have HQe:Hid (Q=A++B):=hQ;have HQ:Hid (Q.length=A.length+B.length):=by show _=_;rw[hQ];simp
      have H4:Hid (yAu w4 w.heap.size g4 c4 Q∧DIF xs uC base cb bv w w4∧(∀e∈Q,e.small)∧yAu w4 w.heap.size gc cd C):=⟨hO4,H7.1.d.grow hgr4 (fun k q=>by cases q;exact H7.1.a.lt.1),fun e he=>by rw[hQ]at he;exact(List.mem_append.1 he).elim (fun q=>H7.1.sa e q) (fun q=>H7.1.sb e q),H7.2.1.chg (Chg.of_grown (S:=fun k=>k=ga) hgr4 (fun k q=>by cases q;rfl)) H7.2.2.2⟩;clear hO4 hgr4 hat4 hQ;go_wp2_with (at_builtin;refine yAg _ rfl _ _ rfl w.heap.size g4 c4 (A.length+B.length) gc 0 C.length cd Q C rfl rfl HQ.symm rfl H4.1 H4.2.2.2.at ?hl2 ?hb2 ?_);case hl2=>rw[HQ.out];omega
      case hb2=>exact H4.2.1.c.size
      intro g8 c8 w8 hO8 hgr8 hat8;obtain⟨T,hTq⟩:=qE (Q++C);rw[←hTq]at hO8;have HTe:Hid (T=Q++C):=hTq;have HTl:Hid (T.length=A.length+B.length+C.length):=by show _=_;rw[hTq,List.length_append,HQ.out]
      have H8:Hid (yAu w8 w.heap.size g8 c8 T∧DIF xs uC base cb bv w w8∧(∀e∈T,e.small)):=⟨hO8,H4.2.1.grow hgr8 (fun k q=>by cases q;exact H4.1.lt.1),fun e he=>by rw[hTq]at he;exact(List.mem_append.1 he).elim (fun q=>H4.2.2.1 e q) (fun q=>H7.2.2.1 e q)⟩;clear hO8 hgr8 hat8 hTq;obtain⟨W5,hW5⟩:=qE (w8.alloc (Obj.cells #[.int .i64 16,.string ⟨#[]⟩,.bool false,.string ⟨#[]⟩,.int .u64 0,.int .u64 0,.int .i64 0] 65):World);have H5:Hid (yAu W5 w.heap.size g8 c8 T∧DIF xs uC base cb bv w W5∧yBj W5 w8.heap.size 0 [(⟨16,⟨#[]⟩,false,⟨#[]⟩,0,0,0⟩:Nd)]):=by
       have hb5:Below w8.heap.size w8 W5:=by rw[hW5];exact qB
       exact⟨H8.1.below hb5 H8.1.lt.2,H8.2.1.below hb5,by rw[hW5];exact(yD1 w8 w.heap.size ⟨16,⟨#[]⟩,false,⟨#[]⟩,0,0,0⟩ H8.2.1.c.size).at⟩
      have HW5:Hid (W5=w8.alloc (Obj.cells #[.int .i64 16,.string ⟨#[]⟩,.bool false,.string ⟨#[]⟩,.int .u64 0,.int .u64 0,.int .i64 0] 65)):=hW5;clear hW5;go_wp2_with (at_builtin;rw[←HW5.out];refine yAg _ rfl _ _ rfl w.heap.size g8 c8 (A.length+B.length+C.length) w8.heap.size 0 1 1 T [(⟨16,⟨#[]⟩,false,⟨#[]⟩,0,0,0⟩:Nd)] rfl rfl HTl.symm rfl H5.1 H5.2.2 ?hl3 ?hb3 ?_);case hl3=>rw[HTl.out];simp;omega
      case hb3=>exact H5.2.1.c.size
      intro g6 c6 w6 hO6 hgr6 hat6;have H6:Hid (TreF xs (yDd xs Tr z) s base cb bv (3*m+1) w (.returned (.slice (some ⟨g6,0,none⟩) (A.length+B.length+C.length+1) c6)) w6):=by
       have hq:=HTl.out;refine⟨g6,c6,T++ [(⟨16,⟨#[]⟩,false,⟨#[]⟩,0,0,0⟩:Nd)],uC,by rw[List.length_append,hq];rfl,(by show yDd xs Tr z s=_;simp only[yDd,HX.out,EA.out,EB.out,HO1.out,EC.out];rw[if_neg HZ.out];simp[EA.out,EB.out,HO1.out,HV1.out,EC.out,HQe.out,HTe.out]),by rw[List.length_append,hq];simp;omega,by simp,fun e he=>?_,hO6,H5.2.1.grow hgr6 (fun k q=>by cases q;exact H5.1.lt.1)⟩;rcases List.mem_append.1 he with q|q
       ·exact H8.2.2 e q
       ·simp at q;subst q;exact yCh 16 (by omega)
      clear hO6 hgr6 hat6 HW5;go_wp2_with fail;go_ret;exact H6.out
    ·have hxb:(x==8)=false:=by rw[beq_eq_false_iff_ne];exact hx9
     have H3d:Hid (DIF xs uB base cb bv w w3):=H3.d;go_wp2_with fail;refine(HC.out _ _ H3d.out).mono ?_;rintro e w7 ⟨gc,cd,C,uC,rfl,EC,hCl,hC0,K7⟩;have hs7:=K7.out.2.2.c.size;have hgc:=K7.out.2.1.lt;have H7:Hid (TwoF xs uC base cb bv w ga ca gb cc A B w7∧yAu w7 w.heap.size gc cd C∧(∀e∈C,e.small)∧¬gc=ga):=by have hcl:=H1.lt;have hza:=H3.a.lt;have hzw:=H3.d.c.size;exact⟨⟨H3.a.chg K7.out.2.2.c (by omega),H3.b.chg K7.out.2.2.c (by have:=H3.b.lt.1;omega),H3.ne,⟨K7.out.2.2.d,H3.d.c.trans K7.out.2.2.c,H1.lt,H1.hb⟩,H3.sa,H3.sb⟩,K7.out.2.1.mono (by omega),K7.out.1,by omega⟩
     clear K7 H3d H3;go_wp2_with (at_builtin;refine yAg _ rfl _ _ rfl w.heap.size ga ca A.length gb 0 B.length cc A B rfl rfl rfl rfl H7.1.a H7.1.b.at ?hl1 ?hb1 ?_);case hl1=>omega
     case hb1=>exact H7.1.d.c.size
     intro g4 c4 w4 hO4 hgr4 hat4;obtain⟨Q,hQ⟩:=qE (A++B);rw[←hQ]at hO4;have HQe:Hid (Q=A++B):=hQ;have HQ:Hid (Q.length=A.length+B.length):=by show _=_;rw[hQ];simp
     have H4:Hid (yAu w4 w.heap.size g4 c4 Q∧DIF xs uC base cb bv w w4∧(∀e∈Q,e.small)∧yAu w4 w.heap.size gc cd C):=⟨hO4,H7.1.d.grow hgr4 (fun k q=>by cases q;exact H7.1.a.lt.1),fun e he=>by rw[hQ]at he;exact(List.mem_append.1 he).elim (fun q=>H7.1.sa e q) (fun q=>H7.1.sb e q),H7.2.1.chg (Chg.of_grown (S:=fun k=>k=ga) hgr4 (fun k q=>by cases q;rfl)) H7.2.2.2⟩;clear hO4 hgr4 hat4 hQ;go_wp2_with (at_builtin;refine yAg _ rfl _ _ rfl w.heap.size g4 c4 (A.length+B.length) gc 0 C.length cd Q C rfl rfl HQ.symm rfl H4.1 H4.2.2.2.at ?hl2 ?hb2 ?_);case hl2=>rw[HQ.out];omega
     case hb2=>exact H4.2.1.c.size
     intro g8 c8 w8 hO8 hgr8 hat8;obtain⟨T,hTq⟩:=qE (Q++C);rw[←hTq]at hO8;have HTe:Hid (T=Q++C):=hTq;have HTl:Hid (T.length=A.length+B.length+C.length):=by show _=_;rw[hTq,List.length_append,HQ.out]
     have H8:Hid (yAu w8 w.heap.size g8 c8 T∧DIF xs uC base cb bv w w8∧(∀e∈T,e.small)):=⟨hO8,H4.2.1.grow hgr8 (fun k q=>by cases q;exact H4.1.lt.1),fun e he=>by rw[hTq]at he;exact(List.mem_append.1 he).elim (fun q=>H4.2.2.1 e q) (fun q=>H7.2.2.1 e q)⟩;clear hO8 hgr8 hat8 hTq;obtain⟨W5,hW5⟩:=qE (w8.alloc (Obj.cells #[.int .i64 16,.string ⟨#[]⟩,.bool false,.string ⟨#[]⟩,.int .u64 0,.int .u64 0,.int .i64 0] 65):World);have H5:Hid (yAu W5 w.heap.size g8 c8 T∧DIF xs uC base cb bv w W5∧yBj W5 w8.heap.size 0 [(⟨16,⟨#[]⟩,false,⟨#[]⟩,0,0,0⟩:Nd)]):=by
      have hb5:Below w8.heap.size w8 W5:=by rw[hW5];exact qB
      exact⟨H8.1.below hb5 H8.1.lt.2,H8.2.1.below hb5,by rw[hW5];exact(yD1 w8 w.heap.size ⟨16,⟨#[]⟩,false,⟨#[]⟩,0,0,0⟩ H8.2.1.c.size).at⟩
     have HW5:Hid (W5=w8.alloc (Obj.cells #[.int .i64 16,.string ⟨#[]⟩,.bool false,.string ⟨#[]⟩,.int .u64 0,.int .u64 0,.int .i64 0] 65)):=hW5;clear hW5;go_wp2_with (at_builtin;rw[←HW5.out];refine yAg _ rfl _ _ rfl w.heap.size g8 c8 (A.length+B.length+C.length) w8.heap.size 0 1 1 T [(⟨16,⟨#[]⟩,false,⟨#[]⟩,0,0,0⟩:Nd)] rfl rfl HTl.symm rfl H5.1 H5.2.2 ?hl3 ?hb3 ?_);case hl3=>rw[HTl.out];simp;omega
     case hb3=>exact H5.2.1.c.size
     intro g6 c6 w6 hO6 hgr6 hat6;have H6:Hid (TreF xs (yDd xs Tr z) s base cb bv (3*m+1) w (.returned (.slice (some ⟨g6,0,none⟩) (A.length+B.length+C.length+1) c6)) w6):=by
      have hq:=HTl.out;refine⟨g6,c6,T++ [(⟨16,⟨#[]⟩,false,⟨#[]⟩,0,0,0⟩:Nd)],uC,by rw[List.length_append,hq];rfl,(by show yDd xs Tr z s=_;simp only[yDd,HX.out,EA.out,EB.out,EC.out];rw[if_neg HZ.out,if_neg (show¬x<6 by omega),if_neg (show¬x<8 by omega),if_neg hx9];simp[EA.out,EB.out,EC.out,HQe.out,HTe.out]),by rw[List.length_append,hq];simp;omega,by simp,fun e he=>?_,hO6,H5.2.1.grow hgr6 (fun k q=>by cases q;exact H5.1.lt.1)⟩;rcases List.mem_append.1 he with q|q
      ·exact H8.2.2 e q
      ·simp at q;subst q;exact yCh 16 (by omega)
     clear hO6 hgr6 hat6 HW5;go_wp2_with fail;go_ret;exact H6.out
def yUk (xs:List Int):Dst→List Nd×Dst:=yDd xs (fun s=>([],s)) 0
def yRk (xs:List Int):Dst→List Nd×Dst:=yDd xs (yUk xs) 1
def yRi (xs:List Int):Dst→List Nd×Dst:=yDd xs (yRk xs) 2
def yUj (xs:List Int):Dst→List Nd×Dst:=yDd xs (yRi xs) 3
theorem yYa (xs:List Int):TreK xs (yUk xs) 0 1:=yIq xs _ 0 0 (by omega) (by omega) (by omega) (fun q=>absurd q (by omega))
theorem yRj (xs:List Int):TreK xs (yRk xs) 1 4:=yIq xs _ 1 1 (by omega) (by omega) (by omega) (fun _=>yYa xs)
theorem yRh (xs:List Int):TreK xs (yRi xs) 2 13:=yIq xs _ 2 4 (by omega) (by omega) (by omega) (fun _=>yRj xs)
theorem yY (xs:List Int):TreK xs (yUj xs) 3 40:=yIq xs _ 3 13 (by omega) (by omega) (by omega) (fun _=>yRh xs)
theorem yC0 (w:World) (base:Nat) (es:List Nd) (cs:Array Value) (hcs:cs.toList=yBn es) (hb:base≤w.heap.size) (hl:es.length≤maxLen):yAu (w.alloc (Obj.cells cs 65)) base w.heap.size es.length es:=by have h:=World.ownsRow_lit (base:=base) (e:=65) (size:=7) w cs es.length hb hl (by rw[←Array.length_toList,hcs,yC8]);unfold yAu;rw[←hcs];exact h
abbrev limN:Nd:=⟨11,⟨#[]⟩,false,⟨#[]⟩,0,0,2⟩
theorem yDp:limN.small:=⟨by decide,by decide,by decide,by decide,by decide,by decide⟩
def FilF (xs:List Int) (Tr:Dst→List Nd×Dst) (s:Dst) (base cb:Nat) (bv:Value) (m:Nat) (w:World) (e:Ending) (w':World):Prop:=∃(g cp:Nat) (L:List Nd) (s':Dst),e=.returned (.agg #[.slice (some ⟨g,0,none⟩) L.length cp])∧Hid (Tr s=(L,s'))∧L.length≤m∧0<L.length∧Hid ((∀e∈L,e.small)∧yAu w' w.heap.size g cp L∧DIF xs s' base cb bv w w')
def filF (xs:List Int) (s:Dst):List Nd×Dst:=if(belF xs 3 s).1=0 then yRk xs (belF xs 3 s).2 else if(belF xs 3 s).1=1 then yRi xs (belF xs 3 s).2 else yUj xs (belF xs 3 s).2
theorem TreF.up {Tr Tq:Dst→List Nd×Dst} {sq:Dst} {m':Nat} {e:Ending} (h:TreF xs Tr s base cb bv m w e w') (hm:m≤m') (hq:Tq sq=Tr s):TreF xs Tq sq base cb bv m' w e w':=by obtain⟨g,cp,L,s',h1,hE,h2,h3,h4⟩:=h;exact⟨g,cp,L,s',h1,(by rw[hq];exact hE.out),by omega,h3,h4⟩
theorem yQv (xs:List Int) (s:Dst) (base cb:Nat) (bv:Value) (w:World) (h:yA5 xs s base cb bv w):
  Calls Tryz.prog 69 #[.pointer (some ⟨cb,0,none⟩)] w (FilF xs (filF xs) s base cb bv 40 w):=by
 obtain⟨Wa,hWa⟩:=qE (w.alloc (Obj.cells #[.slice none 0 0] 25):World);have hba:Below w.heap.size w Wa:=by rw[hWa];exact qB
 have HA:Hid (DIF xs s base cb bv w Wa∧yA Wa w.heap.size 25 1 w.heap.size [.slice none 0 0]):=⟨(DIF.start h).below hba,by rw[hWa];exact yAb w #[.slice none 0 0] (Nat.le_refl _) rfl⟩;clear h hba;obtain⟨x,u1,hxE⟩:∃x u1,belF xs 3 s=(x,u1):=⟨_,_,rfl⟩;obtain⟨hx0,hx1⟩:0≤x∧x<3:=by have h9:=yAm xs (m:=3) (by omega) s;rw[hxE]at h9;exact h9
 have HX:Hid (belF xs 3 s=(x,u1)):=hxE;clear hxE;go_enter Tryz.func69,Tryz.ntmps69;go_wp2_with fail;rw[←hWa];clear hWa;refine(yAr HA.1.d (by omega) (by omega) HX.out).mono ?_;rintro e w1 ⟨rfl,hd1⟩;have H1:Hid (DIF xs u1 base cb bv w w1∧yA w1 w.heap.size 25 1 w.heap.size [.slice none 0 0]):=⟨HA.1.call hd1,HA.2.chg hd1.2 (by have:=HA.1.lt;omega)⟩;clear hd1 HA;have HC:Hid (Calls Tryz.prog 99 #[.pointer (some ⟨cb,0,none⟩),.int .i64 (1+x)] w1 (TreF xs (fun _=>filF xs s) u1 base cb bv 40 w1)):=by
  have hz:x=0∨x=1∨x=2:=by omega
  rcases hz with rfl|rfl|rfl
  ·exact(yRj xs u1 base cb bv w1 H1.1.d).mono fun e w' h=>h.up (by omega) (by simp[filF,HX.out])
  ·exact(yRh xs u1 base cb bv w1 H1.1.d).mono fun e w' h=>h.up (by omega) (by simp[filF,HX.out])
  ·exact(yY xs u1 base cb bv w1 H1.1.d).mono fun e w' h=>h.up (by omega) (by simp[filF,HX.out])
 go_wp2_with fail;refine HC.mono ?_;rintro e w2 ⟨g,cp,L,u2,rfl,EL,hl,h0,K2⟩;have H2:Hid (yA w2 w.heap.size 25 1 w.heap.size [.slice none 0 0]):=H1.2.chg K2.out.2.2.c (by have:=H1.1.lt;omega);obtain⟨N,hN⟩:=qE L.length;have HN:Hid (N=L.length):=hN;rw[←hN]at hl h0⊢;clear hN;obtain⟨W3,hW3⟩:=qE (w2.setCell ⟨w.heap.size,0,none⟩ (.slice (some ⟨g,0,none⟩) N cp):World);have H3:Hid (FilF xs (filF xs) s base cb bv 40 w (.returned (.agg #[.slice (some ⟨g,0,none⟩) N cp])) W3):=by
  have hgl:=K2.out.2.1.lt;have hz1:=H1.2.lt.2;have hc3:Chg (fun k=>k=w.heap.size) w2 W3:=by rw[hW3];exact Chg.of_set _ _ _ _ rfl
  refine⟨g,cp,L,u2,by rw[HN.out],EL.out,by rw[←HN.out];exact hl,by rw[←HN.out];exact h0,K2.out.1,(K2.out.2.1.mono (by omega)).chg hc3 (by omega),?_⟩;have hd2:DIF xs u2 base cb bv w w2:=⟨K2.out.2.2.d,H1.1.c.trans K2.out.2.2.c,H1.1.lt,H1.1.hb⟩;rw[hW3];exact hd2.grow (yEq w2 w.heap.size 0 _) (fun k q=>by cases q;exact Nat.le_refl _)
 have p0:W3.cell? ⟨w.heap.size,0,none⟩=some (.slice (some ⟨g,0,none⟩) N cp):=by rw[hW3];exact(H2.set 0 (.slice (some ⟨g,0,none⟩) N cp)).cell (j:=0) rfl
 have c0:=H2.cell (j:=0) rfl;have f0:=H2.frozen 0;clear K2 HC EL;go_wp2_with fail;rw[←hW3];exact bodyPost_ret (by simp[results,Tryz.results69,go_sem,p0]) rfl H3.out
def yCs (f:List Nd→List Nd):Nat→List Nd→List Nd
 |0,l=>l
 |i+1,l=>f (yCs f i l)
def fCh (l:List Nd):List Nd:=l++ [limN,ndK 14]
def fIn (l:List Nd):List Nd:= [limN]++l++ [ndK 15]
def fIf (l:List Nd):List Nd:=l++ [limN,limN,ndK 16]
def limA (k y:Int):List Nd:=
 if k=3 then yCs fCh 98 [limN,limN,limN,ndK 16]else if k=4 then [⟨12,⟨#[]⟩,false,⟨#[]⟩,0,0,1000+y⟩]
 else if k=5 then [⟨9,⟨(List.replicate (200+y).toNat 97).toArray⟩,false,⟨#[]⟩,0,0,0⟩]else if k=0 then yCs fCh (99+y).toNat [limN]
 else if k=1 then yCs fIn (21+y).toNat [limN]else yCs fIf (20+y).toNat [limN]
def limF (xs:List Int) (s:Dst):List Nd×Dst:=(limA (belF xs 6 s).1 (belF xs 2 (belF xs 6 s).2).1,(belF xs 2 (belF xs 6 s).2).2)
structure LimF (xs:List Int) (s:Dst) (L:List Nd) (base cb:Nat) (bv:Value) (w:World) (eb g cp len:Nat) (wr:World):Prop where
 row:len=L.length∧(∀e∈L,e.small)∧yAu wr w.heap.size g cp L
 leaf:yA wr w.heap.size 65 7 eb limN.seven
 res:yA wr w.heap.size 25 1 w.heap.size [.slice none 0 0]
 d:DIF xs s base cb bv w wr
 ne:¬g=eb∧w.heap.size<eb
theorem LimF.app {L0:List Nd} {eb len:Nat} {wr wx:World} (h:LimF xs s L0 base cb bv w eb g cp len wr) (hx:Below wr.heap.size wr wx) {g' cp':Nat} {L:List Nd} (hxs:∀e∈L,e.small) (hes:∀e∈es,e.small) (hO:yAu w' w.heap.size g' cp' (L++es)) (hgr:wx.grownBy w' (some g)) (hat:g'=g∨g'=wx.heap.size) (hg:w.heap.size<g):LimF xs s (L++es) base cb bv w eb g' cp' (L++es).length w':=by
 have hc:Chg (fun k=>k=g) wx w':=Chg.of_grown hgr (fun k q=>by cases q;rfl);have hl:=h.leaf.lt.2;have hz:=hx.size;have hr:=h.res.lt.2;refine⟨⟨rfl,fun e he=>(List.mem_append.1 he).elim (fun q=>hxs e q) (fun q=>hes e q),hO⟩,(h.leaf.below hx).chg hc (fun q=>h.ne.1 q.symm),(h.res.below hx).chg hc (by omega),(h.d.below hx).grow hgr (fun k q=>by cases q;omega),?_,h.ne.2⟩;rcases hat with q|q
 ·rw[q];exact h.ne.1
 ·omega
theorem LimF.fin {L0:List Nd} {eb len:Nat} {wr:World} (h:LimF xs s L0 base cb bv w eb g cp len wr) (hg:w.heap.size<g) (hl:len≤1000) (h0:0<len) {s0:Dst} (hE:limF xs s0=(L0,s)) (W9:World) (h9:W9=wr.setCell ⟨w.heap.size,0,none⟩ (.slice (some ⟨g,0,none⟩) len cp)):
  W9.cell? ⟨w.heap.size,0,none⟩=some (.slice (some ⟨g,0,none⟩) len cp)∧FilF xs (limF xs) s0 base cb bv 1000 w (.returned (.agg #[.slice (some ⟨g,0,none⟩) len cp])) W9:=by
 obtain⟨rfl,hs,hO⟩:=h.row;have hc3:Chg (fun k=>k=w.heap.size) wr W9:=by rw[h9];exact Chg.of_set _ _ _ _ rfl
 refine⟨by rw[h9];exact(h.res.set 0 (.slice (some ⟨g,0,none⟩) L0.length cp)).cell (j:=0) rfl,g,cp,L0,s,rfl,hE,hl,h0,hs,hO.chg hc3 (by omega),?_⟩;rw[h9];exact h.d.grow (yEq wr w.heap.size 0 _) (fun k q=>by cases q;exact Nat.le_refl _)
theorem ySl (xs:List Int) (s:Dst) (base cb:Nat) (bv:Value) (w:World) (h:yA5 xs s base cb bv w):
  Calls Tryz.prog 68 #[.pointer (some ⟨cb,0,none⟩)] w (FilF xs (limF xs) s base cb bv 1000 w):=by
 obtain⟨Wa,hWa⟩:=qE (w.alloc (Obj.cells #[.slice none 0 0] 25):World);have hba:Below w.heap.size w Wa:=by rw[hWa];exact qB
 have HA:Hid (DIF xs s base cb bv w Wa∧yA Wa w.heap.size 25 1 w.heap.size [.slice none 0 0]):=⟨(DIF.start h).below hba,by rw[hWa];exact yAb w #[.slice none 0 0] (Nat.le_refl _) rfl⟩;clear h hba;go_enter Tryz.func68,Tryz.ntmps68;go_wp2_with fail;rw[←hWa];clear hWa;obtain⟨x,u1,hxE⟩:∃x u1,belF xs 6 s=(x,u1):=⟨_,_,rfl⟩;obtain⟨hx0,hx1⟩:0≤x∧x<6:=by have h9:=yAm xs (m:=6) (by omega) s;rw[hxE]at h9;exact h9
 have HX:Hid (belF xs 6 s=(x,u1)):=hxE;clear hxE;refine(yAr HA.1.d (by omega) (by omega) HX.out).mono ?_;rintro e w1 ⟨rfl,hd1⟩;have H1:Hid (DIF xs u1 base cb bv w w1∧yA w1 w.heap.size 25 1 w.heap.size [.slice none 0 0]):=⟨HA.1.call hd1,HA.2.chg hd1.2 (by have:=HA.1.lt;omega)⟩;clear hd1 HA;go_wp2_with fail;obtain⟨y,u2,hxE⟩:∃y u2,belF xs 2 u1=(y,u2):=⟨_,_,rfl⟩;obtain⟨hy0,hy1⟩:0≤y∧y<2:=by have h9:=yAm xs (m:=2) (by omega) u1;rw[hxE]at h9;exact h9
 have HY:Hid (belF xs 2 u1=(y,u2)):=hxE;clear hxE;refine(yAr H1.1.d (by omega) (by omega) HY.out).mono ?_;rintro e w2 ⟨rfl,hd2⟩;have H2:Hid (DIF xs u2 base cb bv w w2∧yA w2 w.heap.size 25 1 w.heap.size [.slice none 0 0]):=⟨H1.1.call hd2,H1.2.chg hd2.2 (by have:=H1.1.lt;omega)⟩;clear hd2 H1;obtain⟨eb,heb⟩:=qE w2.heap.size;obtain⟨W3,hW3⟩:=qE (w2.alloc (Obj.cells #[.int .i64 11,.string ⟨#[]⟩,.bool false,.string ⟨#[]⟩,.int .u64 0,.int .u64 0,.int .i64 2] 65):World);obtain⟨W4,hW4⟩:=qE (W3.alloc (Obj.cells #[.int .i64 11,.string ⟨#[]⟩,.bool false,.string ⟨#[]⟩,.int .u64 0,.int .u64 0,.int .i64 2] 65):World);have hz3:W3.heap.size=eb+1:=by rw[hW3,heb];simp
 have hz4:W4.heap.size=eb+2:=by rw[hW4];simp[hz3]
 have H4:Hid (LimF xs u2 [limN] base cb bv w eb (eb+1) 1 1 W4):=by
  have k3:Below w2.heap.size w2 W3:=by rw[hW3];exact qB
  have k4:Below W3.heap.size W3 W4:=by rw[hW4];exact qB
  have hr:=H2.2.lt.2;have b3:yA W3 w.heap.size 65 7 eb limN.seven:=by rw[hW3,heb];exact yAb w2 #[.int .i64 11,.string ⟨#[]⟩,.bool false,.string ⟨#[]⟩,.int .u64 0,.int .u64 0,.int .i64 2] (by omega) rfl
  have o4:yAu W4 w.heap.size W3.heap.size 1 [limN]:=by rw[hW4];exact yD1 W3 w.heap.size limN (by omega)
  rw[hz3]at o4;exact⟨⟨rfl,fun e he=>by simp at he;subst he;exact yDp,o4⟩,b3.below k4,(H2.2.below k3).below k4,(H2.1.below k3).below k4,by omega,by omega⟩
 clear H2;go_upto_region 5 with fail;rw[←hW3,←heb,←hW4];clear hW3 hW4 heb;by_cases x3:x=3
 ·subst x3;obtain⟨W5,hW5⟩:=qE (W4.alloc (Obj.cells #[.int .i64 11,.string ⟨#[]⟩,.bool false,.string ⟨#[]⟩,.int .u64 0,.int .u64 0,.int .i64 2,.int .i64 11,.string ⟨#[]⟩,.bool false,.string ⟨#[]⟩,.int .u64 0,.int .u64 0,.int .i64 2,.int .i64 11,.string ⟨#[]⟩,.bool false,.string ⟨#[]⟩,.int .u64 0,.int .u64 0,.int .i64 2,.int .i64 16,.string ⟨#[]⟩,.bool false,.string ⟨#[]⟩,.int .u64 0,.int .u64 0,.int .i64 0] 65):World);have H5:Hid (LimF xs u2 [limN,limN,limN,ndK 16] base cb bv w eb (eb+2) 4 4 W5):=by
   have k5:Below W4.heap.size W4 W5:=by rw[hW5];exact qB
   have o5:yAu W5 w.heap.size W4.heap.size 4 [limN,limN,limN,(⟨16,⟨#[]⟩,false,⟨#[]⟩,0,0,0⟩:Nd)]:=by rw[hW5];exact yC0 W4 w.heap.size [limN,limN,limN,(⟨16,⟨#[]⟩,false,⟨#[]⟩,0,0,0⟩:Nd)] #[.int .i64 11,.string ⟨#[]⟩,.bool false,.string ⟨#[]⟩,.int .u64 0,.int .u64 0,.int .i64 2,.int .i64 11,.string ⟨#[]⟩,.bool false,.string ⟨#[]⟩,.int .u64 0,.int .u64 0,.int .i64 2,.int .i64 11,.string ⟨#[]⟩,.bool false,.string ⟨#[]⟩,.int .u64 0,.int .u64 0,.int .i64 2,.int .i64 16,.string ⟨#[]⟩,.bool false,.string ⟨#[]⟩,.int .u64 0,.int .u64 0,.int .i64 0] rfl H4.d.c.size (by decide)
   rw[hz4]at o5;exact⟨⟨rfl,fun e he=>by simp at he;rcases he with rfl|rfl<;>first|exact yDp|exact yCh _ (by omega),o5⟩,H4.leaf.below k5,H4.res.below k5,H4.d.below k5,by omega,H4.ne.2⟩
  obtain⟨b0,b1,b2,b3,b4,b5,b6⟩:=H4.leaf.c7;simp only at b0 b1 b2 b3 b4 b5 b6;go_upto_region 7 with fail;rw[←hW5];clear hW5 b0 b1 b2 b3 b4 b5 b6;go_wp2_with fail;go_loopw[6,7] (fun nv iv wr=>∃(i g cp len:Nat),(i:Int)≤(98:Int)∧iv=.int .i64 (i:Int)∧nv=.slice (some ⟨g,0,none⟩) len cp∧(len≤4+2*i∧0<len)∧w.heap.size<g∧Hid (LimF xs u2 (yCs fCh i [limN,limN,limN,ndK 16]) base cb bv w eb g cp len wr)) (fun _ iv _=>((98:Int)).toNat-(intOf iv).toNat);case atStart=>exact⟨0,eb+2,4,4,by omega,rfl,rfl,⟨by omega,by omega⟩,by have:=H5.ne.2;omega,H5.out⟩
  case round=>
   obtain⟨i,g,cp,len,hi,rfl,rfl,hlen,hgw,HJ⟩:=hrel;by_cases hlt:(i:Int)<(98:Int)
   ·obtain⟨L,hL⟩:=qE (yCs fCh i [limN,limN,limN,ndK 16]);rw[←hL]at HJ;have HLe:Hid (L=yCs fCh i [limN,limN,limN,ndK 16]):=hL;clear hL;obtain⟨hxl,hxs,hxO⟩:=HJ.row;have HX:Hid (len=L.length∧(∀e∈L,e.small)∧yAu wr w.heap.size g cp L):=⟨hxl,hxs,hxO⟩;clear hxl hxs hxO;obtain⟨b0,b1,b2,b3,b4,b5,b6⟩:=HJ.leaf.c7;simp only at b0 b1 b2 b3 b4 b5 b6;obtain⟨WX,hWX⟩:=qE (wr.alloc (Obj.cells #[.int .i64 11,.string ⟨#[]⟩,.bool false,.string ⟨#[]⟩,.int .u64 0,.int .u64 0,.int .i64 2,.int .i64 14,.string ⟨#[]⟩,.bool false,.string ⟨#[]⟩,.int .u64 0,.int .u64 0,.int .i64 0] 65):World);have HWX:Hid (Below wr.heap.size wr WX∧yBj WX wr.heap.size 0 [limN,(⟨14,⟨#[]⟩,false,⟨#[]⟩,0,0,0⟩:Nd)]∧WX=wr.alloc (Obj.cells #[.int .i64 11,.string ⟨#[]⟩,.bool false,.string ⟨#[]⟩,.int .u64 0,.int .u64 0,.int .i64 2,.int .i64 14,.string ⟨#[]⟩,.bool false,.string ⟨#[]⟩,.int .u64 0,.int .u64 0,.int .i64 0] 65)):=⟨by rw[hWX];exact qB,by rw[hWX];exact(yC0 wr w.heap.size [limN,(⟨14,⟨#[]⟩,false,⟨#[]⟩,0,0,0⟩:Nd)] #[.int .i64 11,.string ⟨#[]⟩,.bool false,.string ⟨#[]⟩,.int .u64 0,.int .u64 0,.int .i64 2,.int .i64 14,.string ⟨#[]⟩,.bool false,.string ⟨#[]⟩,.int .u64 0,.int .u64 0,.int .i64 0] rfl HJ.d.c.size (by decide)).at,hWX⟩;clear hWX;go_wp2_with (at_builtin;rw[←HWX.2.2];refine yAg _ rfl _ _ rfl w.heap.size g cp len wr.heap.size 0 2 2 L [limN,(⟨14,⟨#[]⟩,false,⟨#[]⟩,0,0,0⟩:Nd)] rfl rfl HX.1 rfl (HX.2.2.below HWX.1 HX.2.2.lt.2) HWX.2.1 ?hl ?hb ?_);case hl=>rw[←HX.1];simp;omega
    case hb=>have h1:=HJ.d.c.size;have h2:=HWX.1.size;omega
    intro g' cp' w' hO' hgr hat;have HN:Hid (LimF xs u2 (yCs fCh (i+1) [limN,limN,limN,ndK 16]) base cb bv w eb g' cp' (len+2) w'∧w.heap.size<g'):=by
     have h8:=HJ.app HWX.1 HX.2.1 (es:= [limN,(⟨14,⟨#[]⟩,false,⟨#[]⟩,0,0,0⟩:Nd)]) (fun e he=>by simp at he;rcases he with rfl|rfl<;>first|exact yDp|exact yCh _ (by omega)) hO' hgr hat hgw;have h9:(L++ [limN,(⟨14,⟨#[]⟩,false,⟨#[]⟩,0,0,0⟩:Nd)]).length=len+2:=by rw[List.length_append,←HX.1];rfl
     rw[h9]at h8;have e8:L++ [limN,(⟨14,⟨#[]⟩,false,⟨#[]⟩,0,0,0⟩:Nd)]=yCs fCh (i+1) [limN,limN,limN,ndK 16]:=by rw[HLe.out];rfl
     rw[e8]at h8;refine⟨h8,?_⟩;rcases hat with q|q
     ·rw[q];exact hgw
     ·have h1:=HJ.d.c.size;have h2:=HWX.1.size;have h3:=HJ.res.lt.2;omega
    exact zzQ60
   ·obtain⟨WF,hWF⟩:=qE (wr.setCell ⟨w.heap.size,0,none⟩ (.slice (some ⟨g,0,none⟩) (len) cp):World);obtain⟨p0,HRes⟩:=HJ.fin (by omega) (by omega) (by omega) (s0:=s) (show limF xs s=(yCs fCh i [limN,limN,limN,ndK 16],u2)by rw[show i=98 by omega];unfold limF;rw[HX.out];simp only[];rw[HY.out];simp[limA]) WF hWF;exact yT9
 by_cases x4:x=4
 ·subst x4;obtain⟨WQ,hWQ⟩:=qE W4;rw[←hWQ];have HQ:Hid (LimF xs u2 [limN] base cb bv w eb (eb+1) 1 1 WQ):=by rw[hWQ];exact H4.out
  clear hWQ H4 hz4;have hsm:(⟨12,⟨#[]⟩,false,⟨#[]⟩,0,0,1000+y⟩:Nd).small:=⟨Nat.zero_le _,Nat.zero_le _,(by show(0:Int)≤0∧(0:Int)≤100000;omega),(by show(0:Int)≤0∧(0:Int)≤100000;omega),(by show 0≤1000+y∧1000+y≤100000;omega),(by show(0:Int)≤12∧(12:Int)≤100000;omega)⟩;obtain⟨W5,hW5⟩:=qE (WQ.alloc (Obj.cells #[.int .i64 12,.string ⟨#[]⟩,.bool false,.string ⟨#[]⟩,.int .u64 0,.int .u64 0,.int .i64 (1000+y)] 65):World);have H5:Hid (LimF xs u2 [⟨12,⟨#[]⟩,false,⟨#[]⟩,0,0,1000+y⟩] base cb bv w eb WQ.heap.size 1 1 W5):=by
   have k5:Below WQ.heap.size WQ W5:=by rw[hW5];exact qB
   have o5:yAu W5 w.heap.size WQ.heap.size 1 [(⟨12,⟨#[]⟩,false,⟨#[]⟩,0,0,1000+y⟩:Nd)]:=by rw[hW5];exact yC0 WQ w.heap.size [(⟨12,⟨#[]⟩,false,⟨#[]⟩,0,0,1000+y⟩:Nd)] #[.int .i64 12,.string ⟨#[]⟩,.bool false,.string ⟨#[]⟩,.int .u64 0,.int .u64 0,.int .i64 (1000+y)] rfl HQ.d.c.size (by show 1≤maxLen;decide)
   have hlb:=HQ.leaf.lt.2;exact⟨⟨rfl,fun e he=>by simp at he;subst he;exact hsm,o5⟩,HQ.leaf.below k5,HQ.res.below k5,HQ.d.below k5,by omega,HQ.ne.2⟩
  have hgq:w.heap.size<WQ.heap.size:=by have h1:=HQ.leaf.lt.2;have h2:=HQ.ne.2;omega
  obtain⟨WF,hWF⟩:=qE (W5.setCell ⟨w.heap.size,0,none⟩ (.slice (some ⟨WQ.heap.size,0,none⟩) (1) 1):World);obtain⟨p0,HRes⟩:=H5.fin (by omega) (by omega) (by omega) (s0:=s) (show limF xs s=(_,u2)by unfold limF;rw[HX.out];simp only[];rw[HY.out];simp[limA]) WF hWF;have HRH:Hid (FilF xs (limF xs) s base cb bv 1000 w (.returned (.agg #[.slice (some ⟨WQ.heap.size,0,none⟩) (1) 1])) WF):=HRes;have r0:=H5.res.cell (j:=0) rfl;have rf:=H5.res.frozen 0;clear HRes;rw[hW5]at r0 rf;have HWE:Hid ((WQ.setCell ⟨w.heap.size,0,none⟩ (.slice (some ⟨WQ.heap.size,0,none⟩) 1 1)).alloc (Obj.cells #[.int .i64 12,.string ⟨#[]⟩,.bool false,.string ⟨#[]⟩,.int .u64 0,.int .u64 0,.int .i64 (1000+y)] 65)=WF):=by show _=_;rw[hWF,hW5];go_simp
  exact zzQ89
 by_cases x5:x=5
 ·subst x5;obtain⟨yn,rfl⟩:∃k:Nat,y=(k:Int):=⟨y.toNat,by omega⟩;obtain⟨st,hst⟩:=qE (⟨(List.replicate (200+yn) 97).toArray⟩:ByteArray);have hs:st.size≤1000:=by rw[hst];show(List.replicate (200+yn) 97).toArray.size≤1000;simp;omega
  have HST:Hid (st=⟨(List.replicate (200+(yn:Int)).toNat 97).toArray⟩):=by show _=_;rw[hst,show(200+(yn:Int)).toNat=200+yn by omega]
  have HMy:Hid (Calls Tryz.prog 42 #[.string ⟨#[97]⟩,.int .i64 (200+(yn:Int))] W4 fun e w'=>e=.returned (.string st)∧Below W4.heap.size W4 w'):=by
   have h9:=yIt 97 (200+yn) W4 (by omega);rw[←hst]at h9;have e9:((200+yn:Nat):Int)=200+(yn:Int):=by omega
   rw[e9]at h9;exact h9
  go_wp2_with fail;refine HMy.mono ?_;rintro e WQ ⟨rfl,hbq⟩;clear hst;have HQ:Hid (LimF xs u2 [limN] base cb bv w eb (eb+1) 1 1 WQ):=by obtain⟨h1,h2,h3⟩:=H4.row;exact⟨⟨h1,h2,h3.below hbq h3.lt.2⟩,H4.leaf.below hbq,H4.res.below hbq,H4.d.below hbq,H4.ne⟩
  clear hbq H4 hz4;have hsm:(⟨9,st,false,⟨#[]⟩,0,0,0⟩:Nd).small:=⟨(by show st.size≤200000;omega),Nat.zero_le _,(by show(0:Int)≤0∧(0:Int)≤100000;omega),(by show(0:Int)≤0∧(0:Int)≤100000;omega),(by show(0:Int)≤0∧(0:Int)≤100000;omega),(by show(0:Int)≤9∧(9:Int)≤100000;omega)⟩;obtain⟨W5,hW5⟩:=qE (WQ.alloc (Obj.cells #[.int .i64 9,.string st,.bool false,.string ⟨#[]⟩,.int .u64 0,.int .u64 0,.int .i64 0] 65):World);have H5:Hid (LimF xs u2 [⟨9,st,false,⟨#[]⟩,0,0,0⟩] base cb bv w eb WQ.heap.size 1 1 W5):=by
   have k5:Below WQ.heap.size WQ W5:=by rw[hW5];exact qB
   have o5:yAu W5 w.heap.size WQ.heap.size 1 [(⟨9,st,false,⟨#[]⟩,0,0,0⟩:Nd)]:=by rw[hW5];exact yC0 WQ w.heap.size [(⟨9,st,false,⟨#[]⟩,0,0,0⟩:Nd)] #[.int .i64 9,.string st,.bool false,.string ⟨#[]⟩,.int .u64 0,.int .u64 0,.int .i64 0] rfl HQ.d.c.size (by show 1≤maxLen;decide)
   have hlb:=HQ.leaf.lt.2;exact⟨⟨rfl,fun e he=>by simp at he;subst he;exact hsm,o5⟩,HQ.leaf.below k5,HQ.res.below k5,HQ.d.below k5,by omega,HQ.ne.2⟩
  have hgq:w.heap.size<WQ.heap.size:=by have h1:=HQ.leaf.lt.2;have h2:=HQ.ne.2;omega
  obtain⟨WF,hWF⟩:=qE (W5.setCell ⟨w.heap.size,0,none⟩ (.slice (some ⟨WQ.heap.size,0,none⟩) (1) 1):World);obtain⟨p0,HRes⟩:=H5.fin (by omega) (by omega) (by omega) (s0:=s) (show limF xs s=(_,u2)by unfold limF;rw[HX.out];simp only[];rw[HY.out];simp[limA,HST.out]) WF hWF;have HRH:Hid (FilF xs (limF xs) s base cb bv 1000 w (.returned (.agg #[.slice (some ⟨WQ.heap.size,0,none⟩) (1) 1])) WF):=HRes;have r0:=H5.res.cell (j:=0) rfl;have rf:=H5.res.frozen 0;clear HRes;rw[hW5]at r0 rf;have HWE:Hid ((WQ.setCell ⟨w.heap.size,0,none⟩ (.slice (some ⟨WQ.heap.size,0,none⟩) 1 1)).alloc (Obj.cells #[.int .i64 9,.string st,.bool false,.string ⟨#[]⟩,.int .u64 0,.int .u64 0,.int .i64 0] 65)=WF):=by show _=_;rw[hWF,hW5];go_simp
  exact zzQ89
 by_cases x0:x=0
 ·subst x0;go_wp2_with fail;go_loopw[6,8] (fun nv iv wr=>∃(i g cp len:Nat),(i:Int)≤99+y∧iv=.int .i64 (i:Int)∧nv=.slice (some ⟨g,0,none⟩) len cp∧(len≤1+2*i∧0<len)∧w.heap.size<g∧Hid (LimF xs u2 (yCs fCh i [limN]) base cb bv w eb g cp len wr)) (fun _ iv _=>(99+y).toNat-(intOf iv).toNat);case atStart=>exact⟨0,eb+1,1,1,by omega,rfl,rfl,⟨by omega,by omega⟩,by have:=H4.ne.2;omega,H4.out⟩
  case round=>
   obtain⟨i,g,cp,len,hi,rfl,rfl,hlen,hgw,HJ⟩:=hrel;by_cases hlt:(i:Int)<99+y
   ·obtain⟨L,hL⟩:=qE (yCs fCh i [limN]);rw[←hL]at HJ;have HLe:Hid (L=yCs fCh i [limN]):=hL;clear hL;obtain⟨hxl,hxs,hxO⟩:=HJ.row;have HX:Hid (len=L.length∧(∀e∈L,e.small)∧yAu wr w.heap.size g cp L):=⟨hxl,hxs,hxO⟩;clear hxl hxs hxO;obtain⟨b0,b1,b2,b3,b4,b5,b6⟩:=HJ.leaf.c7;simp only at b0 b1 b2 b3 b4 b5 b6;obtain⟨WX,hWX⟩:=qE (wr.alloc (Obj.cells #[.int .i64 11,.string ⟨#[]⟩,.bool false,.string ⟨#[]⟩,.int .u64 0,.int .u64 0,.int .i64 2,.int .i64 14,.string ⟨#[]⟩,.bool false,.string ⟨#[]⟩,.int .u64 0,.int .u64 0,.int .i64 0] 65):World);have HWX:Hid (Below wr.heap.size wr WX∧yBj WX wr.heap.size 0 [limN,(⟨14,⟨#[]⟩,false,⟨#[]⟩,0,0,0⟩:Nd)]∧WX=wr.alloc (Obj.cells #[.int .i64 11,.string ⟨#[]⟩,.bool false,.string ⟨#[]⟩,.int .u64 0,.int .u64 0,.int .i64 2,.int .i64 14,.string ⟨#[]⟩,.bool false,.string ⟨#[]⟩,.int .u64 0,.int .u64 0,.int .i64 0] 65)):=⟨by rw[hWX];exact qB,by rw[hWX];exact(yC0 wr w.heap.size [limN,(⟨14,⟨#[]⟩,false,⟨#[]⟩,0,0,0⟩:Nd)] #[.int .i64 11,.string ⟨#[]⟩,.bool false,.string ⟨#[]⟩,.int .u64 0,.int .u64 0,.int .i64 2,.int .i64 14,.string ⟨#[]⟩,.bool false,.string ⟨#[]⟩,.int .u64 0,.int .u64 0,.int .i64 0] rfl HJ.d.c.size (by decide)).at,hWX⟩;clear hWX;go_wp2_with (at_builtin;rw[←HWX.2.2];refine yAg _ rfl _ _ rfl w.heap.size g cp len wr.heap.size 0 2 2 L [limN,(⟨14,⟨#[]⟩,false,⟨#[]⟩,0,0,0⟩:Nd)] rfl rfl HX.1 rfl (HX.2.2.below HWX.1 HX.2.2.lt.2) HWX.2.1 ?hl ?hb ?_);case hl=>rw[←HX.1];simp;omega
    case hb=>have h1:=HJ.d.c.size;have h2:=HWX.1.size;omega
    intro g' cp' w' hO' hgr hat;have HN:Hid (LimF xs u2 (yCs fCh (i+1) [limN]) base cb bv w eb g' cp' (len+2) w'∧w.heap.size<g'):=by
     have h8:=HJ.app HWX.1 HX.2.1 (es:= [limN,(⟨14,⟨#[]⟩,false,⟨#[]⟩,0,0,0⟩:Nd)]) (fun e he=>by simp at he;rcases he with rfl|rfl<;>first|exact yDp|exact yCh _ (by omega)) hO' hgr hat hgw;have h9:(L++ [limN,(⟨14,⟨#[]⟩,false,⟨#[]⟩,0,0,0⟩:Nd)]).length=len+2:=by rw[List.length_append,←HX.1];rfl
     rw[h9]at h8;have e8:L++ [limN,(⟨14,⟨#[]⟩,false,⟨#[]⟩,0,0,0⟩:Nd)]=yCs fCh (i+1) [limN]:=by rw[HLe.out];rfl
     rw[e8]at h8;refine⟨h8,?_⟩;rcases hat with q|q
     ·rw[q];exact hgw
     ·have h1:=HJ.d.c.size;have h2:=HWX.1.size;have h3:=HJ.res.lt.2;omega
    exact zzQ60
   ·obtain⟨WF,hWF⟩:=qE (wr.setCell ⟨w.heap.size,0,none⟩ (.slice (some ⟨g,0,none⟩) (len) cp):World);obtain⟨p0,HRes⟩:=HJ.fin (by omega) (by omega) (by omega) (s0:=s) (show limF xs s=(yCs fCh i [limN],u2)by rw[show i=(99+y).toNat by omega];unfold limF;rw[HX.out];simp only[];rw[HY.out];simp[limA]) WF hWF;exact yT9
 by_cases x1:x=1
 ·subst x1;go_wp2_with fail;go_loopw[6,9] (fun nv iv wr=>∃(i g cp len:Nat),(i:Int)≤21+y∧iv=.int .i64 (i:Int)∧nv=.slice (some ⟨g,0,none⟩) len cp∧(len≤1+2*i∧0<len)∧w.heap.size<g∧Hid (LimF xs u2 (yCs fIn i [limN]) base cb bv w eb g cp len wr)) (fun _ iv _=>(21+y).toNat-(intOf iv).toNat);case atStart=>exact⟨0,eb+1,1,1,by omega,rfl,rfl,⟨by omega,by omega⟩,by have:=H4.ne.2;omega,H4.out⟩
  case round=>
   obtain⟨i,g,cp,len,hi,rfl,rfl,hlen,hgw,HJ⟩:=hrel;by_cases hlt:(i:Int)<21+y
   ·obtain⟨L,hL⟩:=qE (yCs fIn i [limN]);rw[←hL]at HJ;have HLe:Hid (L=yCs fIn i [limN]):=hL;clear hL;obtain⟨hxl,hxs,hxO⟩:=HJ.row;have HX:Hid (len=L.length∧(∀e∈L,e.small)∧yAu wr w.heap.size g cp L):=⟨hxl,hxs,hxO⟩;clear hxl hxs hxO;obtain⟨b0,b1,b2,b3,b4,b5,b6⟩:=HJ.leaf.c7;simp only at b0 b1 b2 b3 b4 b5 b6;obtain⟨WX,hWX⟩:=qE (wr.alloc (Obj.cells #[.int .i64 11,.string ⟨#[]⟩,.bool false,.string ⟨#[]⟩,.int .u64 0,.int .u64 0,.int .i64 2] 65):World);have HWX:Hid (Below wr.heap.size wr WX∧yAu WX w.heap.size wr.heap.size 1 [limN]∧WX=wr.alloc (Obj.cells #[.int .i64 11,.string ⟨#[]⟩,.bool false,.string ⟨#[]⟩,.int .u64 0,.int .u64 0,.int .i64 2] 65)):=⟨by rw[hWX];exact qB,by rw[hWX];exact yC0 wr w.heap.size [limN] #[.int .i64 11,.string ⟨#[]⟩,.bool false,.string ⟨#[]⟩,.int .u64 0,.int .u64 0,.int .i64 2] rfl HJ.d.c.size (by decide),hWX⟩;clear hWX;go_wp2_with (at_builtin;rw[←HWX.2.2];refine yAg _ rfl _ _ rfl w.heap.size wr.heap.size 1 1 g 0 len cp [limN] L rfl rfl rfl HX.1 HWX.2.1 (HX.2.2.below HWX.1 HX.2.2.lt.2).at ?hl ?hb ?_);case hl=>rw[←HX.1];simp;omega
    case hb=>have h1:=HJ.d.c.size;have h2:=HWX.1.size;omega
    intro g4 c4 w4 hO4 hgr4 hat4;obtain⟨Q,hQ⟩:=qE ([limN]++L);rw[show limN::L=Q from hQ.symm]at hO4;have HN4:Hid (yAu w4 w.heap.size g4 c4 Q∧(∀e∈Q,e.small)∧Q.length=1+len∧LimF xs u2 Q base cb bv w eb g4 c4 Q.length w4∧w.heap.size<g4∧Q= [limN]++L):=by
     have hJx:LimF xs u2 [limN] base cb bv w eb wr.heap.size 1 1 WX:=by have h1:=HJ.leaf.lt.2;exact⟨⟨rfl,fun e he=>by simp at he;subst he;exact yDp,HWX.2.1⟩,HJ.leaf.below HWX.1,HJ.res.below HWX.1,HJ.d.below HWX.1,by omega,HJ.ne.2⟩
     have hrr:=HJ.res.lt.2;have h8:=hJx.app (Below.refl _ _) (L:= [limN]) (es:=L) (fun e he=>by simp at he;subst he;exact yDp) HX.2.1 (by rw[←hQ];exact hO4) hgr4 hat4 hrr;rw[←hQ]at h8;have hsm:∀e∈Q,e.small:=fun e he=>by
      rw[hQ]at he;rcases List.mem_append.1 he with q|q
      ·simp at q;subst q;exact yDp
      ·exact HX.2.1 e q
     refine⟨hO4,hsm,by rw[hQ,List.length_append,←HX.1];rfl,h8,?_,hQ⟩;rcases hat4 with q|q
     ·rw[q];exact hrr
     ·have h2:=HWX.1.size;omega
    clear hO4 hgr4 hat4 hQ b0 b1 b2 b3 b4 b5 b6;obtain⟨WY,hWY⟩:=qE (w4.alloc (Obj.cells #[.int .i64 15,.string ⟨#[]⟩,.bool false,.string ⟨#[]⟩,.int .u64 0,.int .u64 0,.int .i64 0] 65):World);have HWY:Hid (Below w4.heap.size w4 WY∧yBj WY w4.heap.size 0 [(⟨15,⟨#[]⟩,false,⟨#[]⟩,0,0,0⟩:Nd)]∧WY=w4.alloc (Obj.cells #[.int .i64 15,.string ⟨#[]⟩,.bool false,.string ⟨#[]⟩,.int .u64 0,.int .u64 0,.int .i64 0] 65)):=⟨by rw[hWY];exact qB,by rw[hWY];exact(yC0 w4 w.heap.size [(⟨15,⟨#[]⟩,false,⟨#[]⟩,0,0,0⟩:Nd)] #[.int .i64 15,.string ⟨#[]⟩,.bool false,.string ⟨#[]⟩,.int .u64 0,.int .u64 0,.int .i64 0] rfl HN4.2.2.2.1.d.c.size (by decide)).at,hWY⟩;clear hWY;go_wp2_with (at_builtin;rw[←HWY.2.2];refine yAg _ rfl _ _ rfl w.heap.size g4 c4 (1+len) w4.heap.size 0 1 1 Q [(⟨15,⟨#[]⟩,false,⟨#[]⟩,0,0,0⟩:Nd)] rfl rfl HN4.2.2.1.symm rfl (HN4.1.below HWY.1 HN4.1.lt.2) HWY.2.1 ?hl9 ?hb9 ?_);case hl9=>rw[HN4.2.2.1];simp;omega
    case hb9=>have h1:=HN4.2.2.2.1.d.c.size;have h2:=HWY.1.size;omega
    intro g' cp' w' hO' hgr hat;have HN:Hid (LimF xs u2 (yCs fIn (i+1) [limN]) base cb bv w eb g' cp' (1+len+1) w'∧w.heap.size<g'):=by
     have h8:=HN4.2.2.2.1.app HWY.1 HN4.2.1 (es:= [(⟨15,⟨#[]⟩,false,⟨#[]⟩,0,0,0⟩:Nd)]) (fun e he=>by simp at he;subst he;exact yCh _ (by omega)) hO' hgr hat HN4.2.2.2.2.1;have h9:(Q++ [(⟨15,⟨#[]⟩,false,⟨#[]⟩,0,0,0⟩:Nd)]).length=1+len+1:=by rw[List.length_append,HN4.2.2.1];rfl
     rw[h9]at h8;have e8:Q++ [(⟨15,⟨#[]⟩,false,⟨#[]⟩,0,0,0⟩:Nd)]=yCs fIn (i+1) [limN]:=by rw[HN4.2.2.2.2.2,HLe.out];rfl
     rw[e8]at h8;refine⟨h8,?_⟩;rcases hat with q|q
     ·rw[q];exact HN4.2.2.2.2.1
     ·have h1:=HN4.2.2.2.1.d.c.size;have h2:=HWY.1.size;have h3:=HN4.2.2.2.1.res.lt.2;omega
    clear hO' hgr hat;go_wp2_with fail;go_roundw;case rel=>exact⟨i+1,g',cp',1+len+1,by omega,by go_num,rfl,⟨by omega,by omega⟩,HN.2,HN.1⟩
    case measure=>simp[intOf];omega
   ·obtain⟨WF,hWF⟩:=qE (wr.setCell ⟨w.heap.size,0,none⟩ (.slice (some ⟨g,0,none⟩) (len) cp):World);obtain⟨p0,HRes⟩:=HJ.fin (by omega) (by omega) (by omega) (s0:=s) (show limF xs s=(yCs fIn i [limN],u2)by rw[show i=(21+y).toNat by omega];unfold limF;rw[HX.out];simp only[];rw[HY.out];simp[limA]) WF hWF;exact yT9
 ·obtain rfl:x=2:=by omega
  go_wp2_with fail;go_loopw[6,10] (fun nv iv wr=>∃(i g cp len:Nat),(i:Int)≤20+y∧iv=.int .i64 (i:Int)∧nv=.slice (some ⟨g,0,none⟩) len cp∧(len≤1+3*i∧0<len)∧w.heap.size<g∧Hid (LimF xs u2 (yCs fIf i [limN]) base cb bv w eb g cp len wr)) (fun _ iv _=>(20+y).toNat-(intOf iv).toNat);case atStart=>exact⟨0,eb+1,1,1,by omega,rfl,rfl,⟨by omega,by omega⟩,by have:=H4.ne.2;omega,H4.out⟩
  case round=>
   obtain⟨i,g,cp,len,hi,rfl,rfl,hlen,hgw,HJ⟩:=hrel;by_cases hlt:(i:Int)<20+y
   ·obtain⟨L,hL⟩:=qE (yCs fIf i [limN]);rw[←hL]at HJ;have HLe:Hid (L=yCs fIf i [limN]):=hL;clear hL;obtain⟨hxl,hxs,hxO⟩:=HJ.row;have HX:Hid (len=L.length∧(∀e∈L,e.small)∧yAu wr w.heap.size g cp L):=⟨hxl,hxs,hxO⟩;clear hxl hxs hxO;obtain⟨b0,b1,b2,b3,b4,b5,b6⟩:=HJ.leaf.c7;simp only at b0 b1 b2 b3 b4 b5 b6;obtain⟨WX,hWX⟩:=qE (wr.alloc (Obj.cells #[.int .i64 11,.string ⟨#[]⟩,.bool false,.string ⟨#[]⟩,.int .u64 0,.int .u64 0,.int .i64 2,.int .i64 11,.string ⟨#[]⟩,.bool false,.string ⟨#[]⟩,.int .u64 0,.int .u64 0,.int .i64 2,.int .i64 16,.string ⟨#[]⟩,.bool false,.string ⟨#[]⟩,.int .u64 0,.int .u64 0,.int .i64 0] 65):World);have HWX:Hid (Below wr.heap.size wr WX∧yBj WX wr.heap.size 0 [limN,limN,(⟨16,⟨#[]⟩,false,⟨#[]⟩,0,0,0⟩:Nd)]∧WX=wr.alloc (Obj.cells #[.int .i64 11,.string ⟨#[]⟩,.bool false,.string ⟨#[]⟩,.int .u64 0,.int .u64 0,.int .i64 2,.int .i64 11,.string ⟨#[]⟩,.bool false,.string ⟨#[]⟩,.int .u64 0,.int .u64 0,.int .i64 2,.int .i64 16,.string ⟨#[]⟩,.bool false,.string ⟨#[]⟩,.int .u64 0,.int .u64 0,.int .i64 0] 65)):=⟨by rw[hWX];exact qB,by rw[hWX];exact(yC0 wr w.heap.size [limN,limN,(⟨16,⟨#[]⟩,false,⟨#[]⟩,0,0,0⟩:Nd)] #[.int .i64 11,.string ⟨#[]⟩,.bool false,.string ⟨#[]⟩,.int .u64 0,.int .u64 0,.int .i64 2,.int .i64 11,.string ⟨#[]⟩,.bool false,.string ⟨#[]⟩,.int .u64 0,.int .u64 0,.int .i64 2,.int .i64 16,.string ⟨#[]⟩,.bool false,.string ⟨#[]⟩,.int .u64 0,.int .u64 0,.int .i64 0] rfl HJ.d.c.size (by decide)).at,hWX⟩;clear hWX;go_wp2_with (at_builtin;rw[←HWX.2.2];refine yAg _ rfl _ _ rfl w.heap.size g cp len wr.heap.size 0 3 3 L [limN,limN,(⟨16,⟨#[]⟩,false,⟨#[]⟩,0,0,0⟩:Nd)] rfl rfl HX.1 rfl (HX.2.2.below HWX.1 HX.2.2.lt.2) HWX.2.1 ?hl ?hb ?_);case hl=>rw[←HX.1];simp;omega
    case hb=>have h1:=HJ.d.c.size;have h2:=HWX.1.size;omega
    intro g' cp' w' hO' hgr hat;have HN:Hid (LimF xs u2 (yCs fIf (i+1) [limN]) base cb bv w eb g' cp' (len+3) w'∧w.heap.size<g'):=by
     have h8:=HJ.app HWX.1 HX.2.1 (es:= [limN,limN,(⟨16,⟨#[]⟩,false,⟨#[]⟩,0,0,0⟩:Nd)]) (fun e he=>by simp at he;rcases he with rfl|rfl<;>first|exact yDp|exact yCh _ (by omega)) hO' hgr hat hgw;have h9:(L++ [limN,limN,(⟨16,⟨#[]⟩,false,⟨#[]⟩,0,0,0⟩:Nd)]).length=len+3:=by rw[List.length_append,←HX.1];rfl
     rw[h9]at h8;have e8:L++ [limN,limN,(⟨16,⟨#[]⟩,false,⟨#[]⟩,0,0,0⟩:Nd)]=yCs fIf (i+1) [limN]:=by rw[HLe.out];rfl
     rw[e8]at h8;refine⟨h8,?_⟩;rcases hat with q|q
     ·rw[q];exact hgw
     ·have h1:=HJ.d.c.size;have h2:=HWX.1.size;have h3:=HJ.res.lt.2;omega
    clear hO' hgr hat b0 b1 b2 b3 b4 b5 b6;go_wp2_with fail;go_roundw;case rel=>exact⟨i+1,g',cp',len+3,by omega,by go_num,rfl,⟨by omega,by omega⟩,HN.2,HN.1⟩
    case measure=>simp[intOf];omega
   ·obtain⟨WF,hWF⟩:=qE (wr.setCell ⟨w.heap.size,0,none⟩ (.slice (some ⟨g,0,none⟩) (len) cp):World);obtain⟨p0,HRes⟩:=HJ.fin (by omega) (by omega) (by omega) (s0:=s) (show limF xs s=(yCs fIf i [limN],u2)by rw[show i=(20+y).toNat by omega];unfold limF;rw[HX.out];simp only[];rw[HY.out];simp[limA]) WF hWF;exact yT9
def byt (n:Nat):UInt8:=UInt8.ofNat n
def num (n:Nat):List UInt8:=if n<128 then [byt n]else byt (128+n%128)::num (n/128)
termination_by n
decreasing_by omega
def yPm:List UInt8→Option (Nat×List UInt8)
 | []=>none
 |x::t=>if x.toNat<128 then some (x.toNat,t)else
  match yPm t with
  |none=>none
  |some (n,u)=>if n=0 then none else some (x.toNat-128+128*n,u)
def yXe (xs:List UInt8):Option (Nat×List UInt8):=
 match yPm xs with
 |none=>none
 |some (n,t)=>if n<2^64 then some (n,t)else none
def strB (s:List UInt8):List UInt8:=num s.length++s
def shared:List UInt8→List UInt8→Nat
 |x::s,y::t=>if x=y then shared s t+1 else 0
 |_,_=>0
def sh (c:BitVec 32):BitVec 32:=if c.toNat%2=1 then(c>>>1)^^^3988292384#32 else c>>>1
abbrev ub (x:UInt8):Value:=.int .u8 (x.toNat:Int)
def yAe (w:World) (b off:Nat) (xs:List UInt8):Prop:=∀i x,xs[i]?=some x→w.cell? ⟨b,off+i,none⟩=some (ub x)
variable {xs:List UInt8}
theorem yAe.below (h:yAe w b off xs) (hb:Below B w w') (hlt:b<B):yAe w' b off xs:=by intro i x hx;rw[hb.cell (p:=⟨b,off+i,none⟩) hlt];exact h i x hx
def OwnY (w:World) (base g cp:Nat) (xs:List UInt8):Prop:=w.ownsRow base 5 1 (.slice (some ⟨g,0,none⟩) xs.length cp) xs.length (xs.map ub)
theorem OwnY.lt (h:OwnY w base g cp xs):base≤g∧g<w.heap.size:=World.ownsRow.lt h g rfl
theorem OwnY.chg (h:OwnY w base g cp xs) (hc:Chg S w w') (hn:¬S g):OwnY w' base g cp xs:=yA2 h hc (fun k q=>by simp[Value.ownBlock]at q;subst q;exact hn)
theorem OwnY.below (h:OwnY w base g cp xs) (hb:Below w.heap.size w w'):OwnY w' base g cp xs:=h.chg (Chg.of_below hb) (S:=fun _=>False) (fun q=>q)
theorem OwnY.at (h:OwnY w base g cp xs):yAe w g 0 xs:=by intro k x hx;have hk:=(List.getElem?_eq_some_iff.1 hx).1;rw[Nat.zero_add,World.ownsRow.cellAt h k (by omega),List.getElem?_map,hx];rfl
theorem OwnY.caps (h:OwnY w base g cp xs):xs.length≤cp∧cp≤maxLen:=by exact yP3
theorem OwnY.mono {base':Nat} (h:OwnY w base g cp xs) (hb:base'≤base):OwnY w base' g cp xs:=by exact yT7
theorem yRg (xs:List UInt8):∀u∈xs.map ub,u.oneCell'=true:=by intro u hu;obtain⟨r,_,rfl⟩:=List.mem_map.1 hu;rfl
theorem Tryz.infoByte:(Tryz.prog.info? 5).map (fun i=>(i.zero,i.size,i.bytes))=some (some (.int .u8 0),1,1):=by kernel_rfl
theorem yH3 (w:World) (hgd:o.guard=none) (s x:Operand)
  (ho:o.op=.call {callee:=.builtin .append,args:=#[s,x],argTypes:=#[22,22]})
  (base g cp n b off m cx:Nat) (l k:List UInt8) (hs:a.eval s=.slice (some ⟨g,0,none⟩) n cp) (hx:a.eval x=.slice (some ⟨b,off,none⟩) m cx) (hn:n=l.length) (hm:m=k.length) (hO:OwnY w base g cp l)
  (hc:yAe w b off k) (hlen:l.length+k.length≤2^30) (hbase:base≤w.heap.size)
  (h:∀g' cp' w',OwnY w' base g' cp' (l++k)→w.grownBy w' (some g)→(g'=g∨g'=w.heap.size)→wpList Tryz.prog ops Q rest (a.put o.dst (.slice (some ⟨g',0,none⟩) (n+m) cp')) w'):wpList Tryz.prog ops Q (o::rest) a w:=by
 subst hn hm;obtain⟨i,hi,hz0,hz1,hz2⟩:=info_parts Tryz.infoByte;refine wpList_append_own_at w hgd s x 22 ho base 5 i _ 1 1 Tryz.underlying22 hi hz0 hz1 hz2 rfl (by decide) (.slice (some ⟨g,0,none⟩) l.length cp) l.length (l.map ub) hs hO ⟨b,off,none⟩ k.length cx (k.map ub) hx (by simp) ?_ (yRg k) ?_ ?_ hbase ?_
 ·intro j u hu;rw[List.getElem?_map]at hu;cases hk:k[j]? with
  |none=>rw[hk]at hu;cases hu
  |some r=>
   rw[hk]at hu;simp at hu;rw[Addr.add_mid,hc j r hk,←hu]
 ·unfold maxLen;omega
 ·omega
 ·intro v' w' hO' hgr hnil hat;rcases hO'.2 with⟨h0,_⟩|⟨g',cap',cur,hv,_,_,hn,hcap,_,_⟩
  ·have:=(hnil.1 h0).1;cases this
  ·subst hv;refine h g' cap' w' ?_ hgr ?_
   ·unfold OwnY;rw[List.length_append,List.map_append];exact hO'
   ·simp[Value.ownBlock]at hat;exact hat
theorem yHd (w:World) (hb:base≤w.heap.size):OwnY (w.alloc (Obj.cells #[] 5)) base w.heap.size 0 []:=
 World.ownsRow_made w #[] 0 hb (Nat.zero_le _) (by simp)
theorem yLl (w:World) (hb:base≤w.heap.size) (x:UInt8) {v:Int} (hv:v=(x.toNat:Int)):OwnY (w.alloc (Obj.cells #[.int .u8 v] 5)) base w.heap.size 1 [x]:=by subst hv;exact World.ownsRow_lit w #[ub x] 1 hb (by decide) rfl
def cB (a b:ByteArray):Int:=Lib.compareBytes a.data.toList b.data.toList
def yFz (a b:Int):Int:=if a=0 then b else a
def yI (k l:Int):Int:=if k=2 then(if l=2 then 0 else-1)else(if l=2 then 1 else 0)
def tsCmp (t u:Int):Int:=if u<t then-1 else if t<u then 1 else 0
def keyCmp (a b:Ent):Int:=yFz (cB a.row b.row) (yFz (cB a.fam b.fam) (yFz (cB a.qual b.qual) (yFz (yI a.kind b.kind) (tsCmp a.ts b.ts))))
def kt (a b:Ent) (K T:Int):Prop:=keyCmp a b=yFz (cB a.row b.row) (yFz (cB a.fam b.fam) (yFz (cB a.qual b.qual) (yFz K T)))
theorem kinds (a b:Ent):
  ((a.kind==2)=true∧(a.kind != 2)=false∧(b.kind==2)=true∧(b.kind != 2)=false∧yI a.kind b.kind=0)∨
  ((a.kind==2)=true∧(a.kind != 2)=false∧(b.kind==2)=false∧(b.kind != 2)=true∧yI a.kind b.kind= -1)∨
  ((a.kind==2)=false∧(a.kind != 2)=true∧(b.kind==2)=true∧(b.kind != 2)=false∧yI a.kind b.kind=1)∨
  ((a.kind==2)=false∧(a.kind != 2)=true∧(b.kind==2)=false∧(b.kind != 2)=true∧yI a.kind b.kind=0):=by
 unfold yI;by_cases ha:a.kind=2<;>by_cases hb:b.kind=2<;>simp[ha,hb]
abbrev bl (s:ByteArray):List UInt8:=s.data.toList
theorem yBb (s:ByteArray):(bl s).length=s.size:=by simp[bl]
theorem yW5 {t:Int} (h:(Lit.int .u64 t).wf=true):0≤t∧t<2^64:=by simp only[Lit.wf,Bool.and_eq_true,decide_eq_true_eq]at h;have h1:IntKind.u64.min=0:=rfl;have h2:IntKind.u64.max=18446744073709551615:=rfl;omega
def entB (before:List UInt8) (e:Ent):List UInt8:=
 num (shared before (bl e.row))++strB ((bl e.row).drop (shared before (bl e.row)))++strB (bl e.fam)++strB (bl e.qual)++num e.ts.toNat++num e.kind.toNat++strB (bl e.val)
def body:List UInt8→List Ent→List UInt8
 |_,[]=> []
 |b,e::es=>entB b e++body (bl e.row) es
theorem yCy (w:World) (s:ByteArray):Below w.heap.size w (Lib.bytesWorld w 5 s):=
 ⟨rfl,rfl,rfl,by rw[Lib.bytesWorld_size];omega,fun k hk=>Lib.bytesWorld_at_old w _ s k hk⟩
theorem yHw (w:World) (s:ByteArray):yAe (Lib.bytesWorld w 5 s) w.heap.size 0 (bl s):=by intro i x hx;have hi:=(List.getElem?_eq_some_iff.1 hx).1;rw[Nat.zero_add,Lib.bytesWorld_cell w _ s i (by rw[←yBb];exact hi),List.getD_eq_getElem?_getD,hx];rfl
structure WrB (w:World) (base g cp:Nat) (xs:List UInt8):Prop where
 le:base≤g
 lt:g<w.heap.size
 at_:yAe w g 0 xs
 len:xs.length≤cp
 cap:cp≤maxLen
 room:∀j,xs.length≤j→j<cp→(w.cell? ⟨g,j,none⟩).isSome=true∧w.frozen? ⟨g,j,none⟩=false
theorem WrB.chg (h:WrB w base g cp xs) (hc:Chg S w w') (hn:¬S g):WrB w' base g cp xs:=by
 refine⟨h.le,by have:=hc.size;have:=h.lt;omega,?_,h.len,h.cap,fun j h1 h2=>?_⟩
 ·intro i x hx;rw[hc.cell (p:=⟨g,0+i,none⟩) h.lt hn];exact h.at_ i x hx
 ·rw[hc.cell (p:=⟨g,j,none⟩) h.lt hn,hc.frozen (p:=⟨g,j,none⟩) h.lt hn];exact h.room j h1 h2
theorem WrB.below (h:WrB w base g cp xs) (hb:Below w.heap.size w w'):WrB w' base g cp xs:=h.chg (Chg.of_below hb) (S:=fun _=>False) (fun q=>q)
theorem WrB.mono {base':Nat} (h:WrB w base g cp xs) (hb:base'≤base):WrB w base' g cp xs:=⟨Nat.le_trans hb h.le,h.lt,h.at_,h.len,h.cap,h.room⟩
theorem OwnY.wr (h:OwnY w base g cp xs):WrB w base g cp xs:=by
 refine⟨h.lt.1,h.lt.2,h.at,h.caps.1,h.caps.2,fun j h1 h2=>⟨?_,World.ownsRow.frozenAt h j⟩⟩;rcases h.2 with⟨h0,_⟩|⟨g',cap',cur,hv,_,hg,hn,hcap,hcs,_⟩
 ·cases h0
 ·simp only[Value.slice.injEq,Option.some.injEq,Addr.mk.injEq,and_true,true_and]at hv;obtain⟨rfl,rfl⟩:=hv;rw[cell_of_row w g j cur _ _ hg];have hj:j<cur.size:=by rw[hcs];omega
  simp[hj]
theorem yG1 (w:World) (s:ByteArray) (hs:s.size≤2^30):WrB (Lib.bytesWorld w 5 s) w.heap.size w.heap.size (grownCap w s.size 0 5) (bl s):=by
 have hge:=grownCap_ge w s.size 0 5;have hsz:(Lib.bytesCells w 5 s).size=grownCap w s.size 0 5:=by simp only[Lib.bytesCells,Array.size_append,Array.size_map,Array.size_replicate];show s.size+_=_;omega
 refine⟨Nat.le_refl _,by rw[Lib.bytesWorld_size];omega,yHw w s,by rw[yBb];exact hge,grownCap_le_maxLen w s.size 0 _ (by unfold maxLen;omega),fun j h1 h2=>?_⟩;have hn:=Lib.bytesWorld_at_new w 5 s;constructor
 ·rw[cell_of_row _ _ _ _ _ _ hn];have hj:j<(Lib.bytesCells w 5 s).size:=by omega
  simp[hj]
 ·simp only[World.frozen?,hn,Bool.and_eq_false_iff,decide_eq_false_iff_not];left;omega
theorem WrB.full (h1:base≤g) (h2:g<w.heap.size) (h3:yAe w g 0 xs) (h4:xs.length≤2^30):WrB w base g xs.length xs:=
 ⟨h1,h2,h3,Nat.le_refl _,by unfold maxLen;omega,fun j a b=>by omega⟩
theorem yG7 (b:Nat):∀(vs:List Value) (o:Nat) (w:World),w.grownBy (w.setCells b o vs) (some b)
 | [],_,w=>yGt (Below.refl _ _) _
 |v::r,o,w=>(yEq w b o v).trans (yG7 b r (o+1) _)
theorem yH (w:World) (ty:TypeId) (base g cp b off cx:Nat) (l k:List UInt8) (hO:WrB w base g cp l)
  (hc:yAe w b off k) (hlen:l.length+k.length≤2^30) (hbase:base≤w.heap.size):
  ∃g' cp' w',(Builtin.append_ #[22,22] ty #[.slice (some ⟨g,0,none⟩) l.length cp,.slice (some ⟨b,off,none⟩) k.length cx]).run Tryz.prog w=.ok (.slice (some ⟨g',0,none⟩) (l.length+k.length) cp') w'∧WrB w' base g' cp' (l++k)∧w.grownBy w' (some g)∧(g'=g∨w.heap.size≤g'):=by
 obtain⟨i,hi,hz0,hz1,hz2⟩:=info_parts Tryz.infoByte;have hcc:∀(j:Nat) (u:Value),(k.map ub)[j]?=some u→w.cell? ((⟨b,off,none⟩:Addr).add j)=some u:=by
  intro j u hu;rw[List.getElem?_map]at hu;cases hk:k[j]? with
  |none=>rw[hk]at hu;cases hu
  |some r=>
   rw[hk]at hu;simp at hu;rw[Addr.add_mid,hc j r hk,←hu]
 have hll:(l++k).length=l.length+k.length:=List.length_append;by_cases hroom:l.length+k.length≤cp
 ·have hr:=run_append_room_cells (P:=Tryz.prog) w 22 ty 5 i Tryz.underlying22 hi g 0 l.length cp ⟨b,off,none⟩ k.length cx (k.map ub) (by rw[List.length_map,hz1,Nat.mul_one]) hcc (yRg k) hroom
   (fun j hj=>by rw[hz1,Nat.mul_one,Nat.zero_add];rw[List.length_map]at hj;exact(hO.room _ (by omega) (by omega)).1)
   (fun j hj=>by rw[hz1,Nat.mul_one,Nat.zero_add];rw[List.length_map]at hj;exact(hO.room _ (by omega) (by omega)).2)
  rw[hz1,Nat.mul_one,Nat.zero_add]at hr;have hgr:=yG7 g (k.map ub) l.length w;have hW:WrB (w.setCells g l.length (k.map ub)) base g cp (l++k):=by
   refine⟨hO.le,by have:=hgr.size;have:=hO.lt;omega,?_,by rw[hll];exact hroom,hO.cap,fun j h1 h2=>?_⟩
   ·intro j x hx;rw[Nat.zero_add];by_cases hj:j<l.length
    ·rw[List.getElem?_append_left hj]at hx;rw[World.cell?_setCells_out g _ _ _ _ (fun _ _=>.inl hj)];have:=hO.at_ j x hx;rwa [Nat.zero_add]at this
    ·rw[List.getElem?_append_right (by omega)]at hx;have hjk:=(List.getElem?_eq_some_iff.1 hx).1;have h9:=World.cell?_setCells_in g (k.map ub) l.length w (fun j hj=>by rw[List.length_map]at hj;exact(hO.room _ (by omega) (by omega)).1) (j-l.length) (by rw[List.length_map];exact hjk);rw[show l.length+(j-l.length)=j by omega]at h9;rw[h9,List.getElem_map];congr 1;rw[List.getElem?_eq_getElem hjk]at hx;rw[Option.some.inj hx]
   ·rw[hll]at h1;rw[World.cell?_setCells_out g _ _ _ _ (fun _ _=>.inr (by rw[List.length_map];exact h1)),World.frozen?_setCells];exact hO.room j (by omega) h2
  exact⟨g,cp,_,hr,hW,hgr,.inl rfl⟩
 ·obtain⟨v',w',hr,hO',hgr⟩:=run_append_arg_grows (P:=Tryz.prog) w 22 ty 5 i _ 1 1 Tryz.underlying22 hi hz0 hz1 hz2 rfl (by decide) ⟨g,0,none⟩ l.length cp (l.map ub) (by simp) (fun j u hu=>by
        rw[List.getElem?_map]at hu
        cases hk:l[j]? with
        |none=>rw[hk]at hu;cases hu
        |some r=>
         rw[hk]at hu
         simp at hu
         rw[Addr.add_mid,hO.at_ j r hk,←hu]) ⟨b,off,none⟩ k.length cx (k.map ub) (by simp) hcc (by omega) (by unfold maxLen;omega) (by omega)
  rcases hO'.2 with⟨h0,h00⟩|⟨g',cap',cur,hv,hb',hrest⟩
  ·have h1:=hO.len;omega
  ·subst hv;have hW:WrB w' base g' cap' (l++k):=by refine(OwnY.wr (base:=w.heap.size) ?_).mono hbase;unfold OwnY;rw[hll,List.map_append];exact hO'
   exact⟨g',cap',w',hr,hW,⟨hgr.os,hgr.tape,hgr.output,hgr.size,fun k hk _=>hgr.block k hk (fun q=>by cases q)⟩,.inr hb'⟩
theorem yAa (w:World) (hgd:o.guard=none) (s x:Operand)
  (ho:o.op=.call {callee:=.builtin .append,args:=#[s,x],argTypes:=#[22,22]})
  (base g cp n b off m cx:Nat) (l k:List UInt8) (hs:a.eval s=.slice (some ⟨g,0,none⟩) n cp) (hx:a.eval x=.slice (some ⟨b,off,none⟩) m cx) (hn:n=l.length) (hm:m=k.length) (hO:WrB w base g cp l)
  (hc:yAe w b off k) (hlen:l.length+k.length≤2^30) (hbase:base≤w.heap.size)
  (h:∀g' cp' w',WrB w' base g' cp' (l++k)→w.grownBy w' (some g)→(g'=g∨w.heap.size≤g')→wpList Tryz.prog ops Q rest (a.put o.dst (.slice (some ⟨g',0,none⟩) (n+m) cp')) w'):wpList Tryz.prog ops Q (o::rest) a w:=by
 subst hn hm;refine wpList_plain hgd fun K hK=>?_;obtain⟨g',cp',w',hr,h1,h2,h3⟩:=yH w o.type base g cp b off cx l k hO hc hlen hbase;unfold Oper.wp execOp;simp only[ho,resolve,invoke,builtin,Sem.run_bind,Sem.run_pure,Result.andThen_ok,List.map_toArray,List.map_cons,List.map_nil,hs,hx,hr];exact hK _ _ (h g' cp' w' h1 h2 h3)
theorem yBz {oo:Oper} {K:Act→World→Prop} {E:Prop} (w:World) (hgd:oo.guard=none) (s x:Operand)
  (ho:oo.op=.call {callee:=.builtin .append,args:=#[s,x],argTypes:=#[22,22]})
  (base g cp n b off m cx:Nat) (l k:List UInt8) (hs:a.eval s=.slice (some ⟨g,0,none⟩) n cp) (hx:a.eval x=.slice (some ⟨b,off,none⟩) m cx) (hn:n=l.length) (hm:m=k.length) (hO:WrB w base g cp l)
  (hc:yAe w b off k) (hlen:l.length+k.length≤2^30) (hbase:base≤w.heap.size)
  (h:∀g' cp' w',WrB w' base g' cp' (l++k)→w.grownBy w' (some g)→(g'=g∨w.heap.size≤g')→K (a.put oo.dst (.slice (some ⟨g',0,none⟩) (n+m) cp')) w'):if Region.wanted oo (yielded ops a.tmps)=true then Oper.wp Tryz.prog oo a w K Q else E:=by
 subst hn hm;obtain⟨g',cp',w',hr,h1,h2,h3⟩:=yH w oo.type base g cp b off cx l k hO hc hlen hbase;rw[if_pos (by simp[Region.wanted,hgd])];unfold Oper.wp execOp;simp only[ho,resolve,invoke,builtin,Sem.run_bind,Sem.run_pure,Result.andThen_ok,List.map_toArray,List.map_cons,List.map_nil,hs,hx,hr];exact h g' cp' w' h1 h2 h3
theorem WrB.next {w0:World} (h:Below base w0 w) (hb:base≤w.heap.size) (hg:base≤g) (hgr:w.grownBy w' (some g)):Below base w0 w':=h.grown hgr hb (fun j hj=>by cases hj;exact hg)
def hexB (n:Nat):UInt8:=if n<10 then UInt8.ofNat (48+n)else UInt8.ofNat (87+n)
def yEk (b:UInt8):List UInt8:=if b.toNat=34∨b.toNat=92 then [92,b]else if 32≤b.toNat∧b.toNat≤126 then [b]else [92,120,hexB (b.toNat/16),hexB (b.toNat%16)]
theorem yR1 (b:UInt8):(yEk b).length≤4:=by
 unfold yEk;split
 ·simp
 ·split<;>simp
def quoL (s:List UInt8):List UInt8:=s.flatMap yEk
theorem yUt (s:List UInt8):(quoL s).length≤4*s.length:=by
 induction s with
 |nil=>simp[quoL]
 |cons b s ih=>unfold quoL at ih⊢;rw[List.flatMap_cons,List.length_append,List.length_cons];have:=yR1 b;omega
theorem yMn (s:List UInt8) (b:UInt8):quoL (s++ [b])=quoL s++yEk b:=by simp[quoL]
def quoM (s:List UInt8):List UInt8:= [34]++quoL s++ [34]
theorem yD5 (s:List UInt8):(quoM s).length≤4*s.length+2:=by unfold quoM;have:=yUt s;simp;omega
def yA8 (k:Int):ByteArray:=
 if k=1 then⟨#[112,97,115,115]⟩else if k=2 then⟨#[98,108,111,99,107]⟩else if k=3 then⟨#[115,116,114,105,112]⟩else if k=4 then⟨#[114,111,119]⟩
 else if k=5 then⟨#[102,97,109]⟩else if k=6 then⟨#[113,117,97,108]⟩else if k=7 then⟨#[118,97,108]⟩else if k=8 then⟨#[114,111,119,115]⟩
 else if k=9 then⟨#[113,117,97,108,115]⟩else if k=10 then⟨#[116,115]⟩else if k=11 then⟨#[118,101,114,115,105,111,110,115]⟩else if k=12 then⟨#[99,101,108,108,115]⟩
 else if k=13 then⟨#[115,107,105,112]⟩else⟨#[]⟩
theorem yCk (k:Int):(bl (yA8 k)).length≤8:=by
 rw[yBb];have gen:∀(p:Prop) [Decidable p] (a b:ByteArray),a.size≤8→b.size≤8→(if p then a else b).size≤8:=by
  intro p _ a b ha hb;split
  ·exact ha
  ·exact hb
 unfold yA8;repeat' (first|(apply gen)|decide)
def endM (t:List UInt8) (n:Int):List UInt8:=if t= []then(if n=0 then []else Lib.decDigits n.toNat)else quoM t
def yEd (e:Nd):List UInt8:=
 if e.kind=4∨e.kind=5∨e.kind=6∨e.kind=7 then [32]++quoM (bl e.s)
 else if e.kind=8∨e.kind=9∨e.kind=10 then [32]++endM (bl e.s) e.lo++ [46,46]++endM (bl e.t) e.up
 else if e.kind=11∨e.kind=12∨e.kind=13 then [32]++Lib.decDigits e.n.toNat else []
def yBi (e:Nd):List UInt8:=bl (yA8 e.kind)++yEd e
theorem yHu:∀(f n:Nat),n<10^(f+1)→(Lib.decDigits n).length≤f+1
 |0,n,h=>by rw[Lib.decDigits,dif_pos (by simpa using h)];simp
 |f+1,n,h=>by
  rw[Lib.decDigits]
  split
  ·simp
  ·have:=yHu f (n/10) (by rw[Nat.div_lt_iff_lt_mul (by omega),←Nat.pow_succ];exact h)
   rw[List.length_append,List.length_singleton]
   omega
theorem yD (h:n<2^64):(Lib.decDigits n).length≤20:=yHu 19 n (Nat.lt_trans h (by decide))
theorem yDu {s:ByteArray}:bl s= []↔s.toList= []:=by rw[ByteArray.toList_eq]
structure NumN (e:Nd):Prop where
 lo0:0≤e.lo
 lo1:e.lo<2^64
 up0:0≤e.up
 up1:e.up<2^64
theorem yL2 {t:List UInt8} {n:Int} (ht:t.length≤200) (h0:0≤n) (h1:n<2^64):(endM t n).length≤802:=by
 unfold endM;split
 ·split
  ·simp
  ·have:=yD (n:=n.toNat) (by omega);omega
 ·have:=yD5 t;omega
theorem ySs {e:Nd} (h:yAj e) (hn:NumN e):(yBi e).length≤2000:=by
 have hs:(bl e.s).length≤200:=by rw[yBb];exact h.1
 have ht:(bl e.t).length≤200:=by rw[yBb];exact h.2.1
 have h1:=yCk e.kind;have h2:=yD5 (bl e.s);have h3:=yL2 hs hn.lo0 hn.lo1;have h4:=yL2 ht hn.up0 hn.up1;have h5:(yEd e).length≤1700:=by
  unfold yEd;split
  ·simp;omega
  ·split
   ·simp;omega
   ·split
    ·rename_i q1 q2 q3;have h9:e.n≤1000∧1≤e.n:=by obtain⟨_,_,_,h4⟩:=h;omega
     have:=yD (n:=e.n.toNat) (by omega);simp;omega
    ·simp
 unfold yBi;rw[List.length_append];omega
abbrev PT:=Int×List UInt8
def yGx (op:Int) (i:Nat) (kid:Int):Bool:=if op=16 then false else yBf op i kid
def yAw (op:Int) (i:Nat) (x:PT):List UInt8:=if yGx op i x.1=true then [40]++x.2++ [41]else x.2
theorem yDl (op:Int) (i:Nat) (x:PT):(yAw op i x).length≤x.2.length+2:=by
 unfold yAw;split
 ·simp
 ·omega
def sepM (k:Int):List UInt8:=if k=16 then [44,32]else if k=15 then [32,124,32]else [32,62,32]
def yBx (k:Int):Nat→List PT→List UInt8
 |_,[]=> []
 |i,x::xs=>(if i=0 then []else sepM k)++yAw k i x++yBx k (i+1) xs
def yA4 (e:Nd) (os:List PT):PT:=(e.kind,if os= []then yBi e else(if e.kind=16 then [105,102,40]else [])++yBx e.kind 0 os++(if e.kind=16 then [41]else []))
def yCw (ss:List PT):Nat:=(ss.map (·.2.length)).sum
theorem yCz (a b:List PT):yCw (a++b)=yCw a+yCw b:=by simp[yCw]
theorem yEo (k:Int):∀(i:Nat) (os:List PT),(yBx k i os).length≤yCw os+5*os.length
 |_,[]=>by simp[yBx]
 |i,x::xs=>by
  have h1:=yEo k (i+1) xs
  have h2:=yDl k i x
  have h3:(if i=0 then []else sepM k).length≤3:=by
   unfold sepM;repeat' split
   all_goals simp
  simp only[yBx,List.length_append,yCw,List.map_cons,List.sum_cons,List.length_cons]
  unfold yCw at h1
  omega
variable {xs:List Nd}
theorem yMo {ss:List PT} (h:TrV yA4 ss xs) (hg:∀e∈xs,yAj e∧NumN e):yCw ss≤2000*xs.length:=by
 induction h with
 |nil=>simp[yCw]
 | @snoc ss os xs n ho h ih=>
   have h1:=ih (fun e he=>hg e (by simp[he]));rw[yCz]at h1⊢;have h2:(yA4 n os).2.length≤yCw os+2000:=by
    unfold yA4;simp only;split
    ·have:=ySs (hg n (by simp)).1 (hg n (by simp)).2;omega
    ·have h3:=yEo n.kind 0 os;have h4:os.length≤3:=by rw[ho];exact yFb _
     have h5:(if n.kind=16 then [105,102,40]else([]:List UInt8)).length≤3:=by split<;>simp
     have h6:(if n.kind=16 then [41]else([]:List UInt8)).length≤1:=by split<;>simp
     simp only[List.length_append];omega
   have h7:yCw [yA4 n os]=(yA4 n os).2.length:=by simp[yCw]
   rw[List.length_append,List.length_singleton,h7];omega
theorem yK6 (k:Int):∀(i:Nat) (os:List PT) (x:PT),yBx k i (os++ [x])=yBx k i os++((if i+os.length=0 then []else sepM k)++yAw k (i+os.length) x)
 |i,[],x=>by simp[yBx]
 |i,y::os,x=>by
  rw[List.cons_append,yBx,yK6 k (i+1) os x,yBx,List.length_cons]
  rw[show i+1+os.length=i+(os.length+1)by omega]
  simp only[List.append_assoc]
def yHy (xs:List Nd) (y:PT):Prop:=TrV yA4 [y] xs
theorem yMh {y z:PT} (h:yHy xs y) (k:yHy xs z):y=z:=by have:=TrV.one _ h k;simpa using this
theorem yO0 (h:IsT 1 xs):∃y,yHy xs y:=by
 obtain⟨ss,hl,hs⟩:=IsT.trv yA4 h;match ss,hl with
 | [y],_=>exact⟨y,hs⟩
theorem yRr {y:PT} (h:yHy xs y) (hg:∀e∈xs,yAj e∧NumN e):y.2.length≤2000*xs.length:=by have:=yMo h hg;simpa [yCw]using this
theorem yLv:∀(f n:Nat) (w:World),n<10^(f+1)→n<2^64→
  Calls Tryz.prog 111 #[.int .u64 (n:Int)] w fun e w'=>∃g cp,e=.returned (.slice (some ⟨g,0,none⟩) (Lib.decDigits n).length cp)∧OwnY w' w.heap.size g cp (Lib.decDigits n)∧Below w.heap.size w w':=by
 intro f;induction f with
 |zero=>
  intro n w h1 h2;have hs:(n:Int)<10:=by simp at h1;omega
  have hD:Hid (Lib.decDigits n= [UInt8.ofNat (48+n)]):=by show Lib.decDigits n=_;rw[Lib.decDigits,dif_pos (by omega)]
  go_enter Tryz.func111,Tryz.ntmps111;go_wp2_with fail;go_ret;refine⟨w.heap.size,1,?_,?_,qB⟩
  ·rw[hD.out];rfl
  ·rw[hD.out];exact yLl w (Nat.le_refl _) _ (by rw[UInt8.toNat_ofNat'];omega)
 |succ f ih=>
  intro n w h1 h2;by_cases hs:(n:Int)<10
  ·have hD:Hid (Lib.decDigits n= [UInt8.ofNat (48+n)]):=by show Lib.decDigits n=_;rw[Lib.decDigits,dif_pos (by omega)]
   go_enter Tryz.func111,Tryz.ntmps111;go_wp2_with fail;go_ret;refine⟨w.heap.size,1,?_,?_,qB⟩
   ·rw[hD.out];rfl
   ·rw[hD.out];exact yLl w (Nat.le_refl _) _ (by rw[UInt8.toNat_ofNat'];omega)
  ·obtain⟨d,hd⟩:=qE (UInt8.ofNat (48+n%10):UInt8);have hdn:Hid (48+(n:Int)%10=(d.toNat:Int)):=by show _=_;rw[hd,UInt8.toNat_ofNat'];omega
   have hD:Hid (Lib.decDigits n=Lib.decDigits (n/10)++ [d]):=by show Lib.decDigits n=_;rw[Lib.decDigits,dif_neg (by omega),hd]
   clear hd;have hc:=ih (n/10) w (by rw[Nat.div_lt_iff_lt_mul (by omega),←Nat.pow_succ];exact h1) (by omega);rw[show((n/10:Nat):Int)=(n:Int)/10 by omega]at hc;have hl:=yD (n:=n/10) (by omega);go_enter Tryz.func111,Tryz.ntmps111;go_wp2_with fail;refine hc.mono ?_;rintro e w2 ⟨g,cp,rfl,hO2,hb2⟩;obtain⟨W1,hW1⟩:=qE (w2.alloc (Obj.cells #[.int .u8 (48+(n:Int)%10)] 5):World);have hb1:Below w2.heap.size w2 W1:=by rw[hW1];exact qB
   have s2:=hb2.size;have s1:=hb1.size;have HO1:Hid (OwnY W1 w2.heap.size w2.heap.size 1 [d]∧OwnY W1 w.heap.size g cp (Lib.decDigits (n/10))):=by refine⟨?_,hO2.below hb1⟩;rw[hW1];exact yLl w2 (Nat.le_refl _) _ hdn.out
   have HB:Hid (Below w.heap.size w W1):=hb2.trans (hb1.mono s2);clear hc hO2 hb1 hb2;go_wp2_with (at_builtin;(try rw[←hW1]);refine yH3 _ rfl _ _ rfl w.heap.size g cp _ w2.heap.size 0 1 1 (Lib.decDigits (n/10)) [d] rfl rfl rfl rfl ?hO ?hc ?hl ?hb ?_);case hO=>exact HO1.2
   case hc=>exact HO1.1.at
   case hl=>simp;omega
   case hb=>omega
   intro g' cp' w3 hO' hgr hat;have hgr2:W1.grownBy w3 (some g):=by first|exact hgr|(rw[hW1];exact hgr)
   clear hgr hW1;go_wp2_with fail;go_ret;refine⟨g',cp',?_,?_,HB.grown hgr2 (by omega) (fun j hj=>by cases hj;exact HO1.2.lt.1)⟩
   ·rw[hD.out,List.length_append];rfl
   ·rw[hD.out];exact hO'
theorem yD8 (n:Nat) (w:World) (h:n<2^64):
  Calls Tryz.prog 111 #[.int .u64 (n:Int)] w fun e w'=>∃g cp,e=.returned (.slice (some ⟨g,0,none⟩) (Lib.decDigits n).length cp)∧OwnY w' w.heap.size g cp (Lib.decDigits n)∧Below w.heap.size w w':=
 yLv 19 n w (Nat.lt_trans h (by decide)) h
theorem yXk {s:ByteArray} {k:Nat} (h:k<s.size) {x:UInt8} (hx:(bl s)[k]?=some x):s[k]=x:=by have:=hx;rw[List.getElem?_eq_getElem (by rw[yBb];exact h)]at this;exact Option.some.inj this
theorem yAp (w:World) (cs:Array Value) (xs:List UInt8) (h:cs.toList=xs.map ub):yAe (w.alloc (Obj.cells cs 5)) w.heap.size 0 xs:=by exact zzQ80
theorem yHv (w:World) (cs:Array Value) (xs:List UInt8) (fz:Nat×Nat) (h:cs.toList=xs.map ub):yAe (w.alloc (Obj.cells cs 5 fz)) w.heap.size 0 xs:=by exact zzQ80
theorem yPl:∀(d:Nat) (h:d<16),(⟨#[48,49,50,51,52,53,54,55,56,57,97,98,99,100,101,102]⟩:ByteArray)[d]'h=hexB d:=by
 intro d h;have:∀d:Fin 16,(⟨#[48,49,50,51,52,53,54,55,56,57,97,98,99,100,101,102]⟩:ByteArray)[d.val]'d.isLt=hexB d.val:=by decide
 exact this ⟨d,h⟩
theorem yKq (x:UInt8):IntKind.u8.wrap ((x.toNat:Int)/16)=((x.toNat/16:Nat):Int):=by have:=x.toNat_lt;simp only[IntKind.wrap,IntKind.bits,IntKind.signed,Bool.false_and,Bool.false_eq_true,if_false];omega
theorem tmod16 (x:UInt8):(x.toNat:Int).tmod 16=((x.toNat%16:Nat):Int):=by rw[Int.tmod_eq_emod_of_nonneg (by omega)];omega
theorem yD7 (s:ByteArray) (w:World) (hs:s.size≤1000000):
  Calls Tryz.prog 110 #[.string s] w fun e w'=>∃g cp,e=.returned (.slice (some ⟨g,0,none⟩) (quoM (bl s)).length cp)∧WrB w' w.heap.size g cp (quoM (bl s))∧Below w.heap.size w w':=by
 have kc:=fun(w:World) (C:Array Value) (n c:Nat)=>Lib.run_convert_bytes_const (P:=Tryz.prog) w 22 5 C n c Tryz.underlying22 Tryz.underlying5;obtain⟨W1,hW1⟩:=qE (w.alloc (Obj.cells #[.int .u8 34] 5 (1,2)):World);have hb1:Below w.heap.size w W1:=by rw[hW1];exact qB
 have z1:w.heap.size<W1.heap.size:=by rw[hW1];simp
 have HO1:Hid (WrB W1 w.heap.size w.heap.size 1 [34]∧Below w.heap.size w W1):=by refine⟨WrB.full (xs:= [34]) (Nat.le_refl _) z1 ?_ (by simp),hb1⟩;rw[hW1];exact yHv w _ [34] _ rfl
 clear hb1;go_enter Tryz.func110,Tryz.ntmps110;go_upto_region 2 with fail;rw[←hW1];clear hW1 kc;go_wp2_with fail;go_loopw[3,4] (fun o iv wr=>∃(k g cp n:Nat) (X:List UInt8),k≤s.size∧iv=.int .i64 k∧o=.slice (some ⟨g,0,none⟩) n cp∧n=X.length∧n≤4*k+1∧Hid (X= [34]++quoL ((bl s).take k))∧WrB wr w.heap.size g cp X∧Below w.heap.size w wr) (fun _ iv _=>s.size-(intOf iv).toNat);case atStart=>exact⟨0,_,1,1,[34],Nat.zero_le _,rfl,rfl,rfl,by omega,rfl,HO1.1,HO1.2⟩
 case round=>
  clear HO1;obtain⟨k,g,cp,n,X,hk,rfl,rfl,hn,hn4,HX,hW,hb⟩:=hrel;have HW:Hid (WrB wr w.heap.size g cp X∧Below w.heap.size w wr∧n=X.length):=⟨hW,hb,hn⟩;have hgl:=hW.lt;have hge:=hW.le;have sr:=hb.size;clear hW hb hn;by_cases hlt:k<s.size
  ·have z:(k:Int)<(s.size:Int):=by omega
   obtain⟨x,hx⟩:∃x,(bl s)[k]?=some x:=⟨_,List.getElem?_eq_getElem (by rw[yBb];exact hlt)⟩;have gx:=yXk hlt hx;have HX2:Hid ([34]++quoL ((bl s).take (k+1))=X++yEk x):=by show _=_;rw[List.take_add_one,hx,HX.out,Option.toList,yMn,List.append_assoc]
   have hx8:x.toNat<256:=x.toNat_lt;clear hx;by_cases h34:x.toNat=34
   ·obtain rfl:x=34:=UInt8.toNat_inj.1 h34;have HQ:Hid (yEk 34= [92,34]):=by show _=_;decide
    obtain⟨W2,hW2⟩:=qE (wr.alloc (Obj.cells #[.int .u8 92,.int .u8 34] 5):World);have hb2:Below wr.heap.size wr W2:=by rw[hW2];exact qB
    have s2:=hb2.size;have HW2:Hid (WrB W2 w.heap.size g cp X∧Below w.heap.size w W2∧yAe W2 wr.heap.size 0 [92,34]):=by refine⟨HW.1.below hb2,HW.2.1.trans (hb2.mono sr),?_⟩;rw[hW2];exact yAp wr _ [92,34] rfl
    clear hb2;go_wp2_with (at_builtin;(try rw[←hW2]);refine yAa _ rfl _ _ rfl w.heap.size g cp n wr.heap.size 0 2 2 X [92,34] rfl rfl HW.2.2 rfl HW2.1 HW2.2.2 ?hl ?hb ?_);case hl=>rw[←HW.2.2];show n+2≤_;omega
    case hb=>omega
    intro g' cp' w' hW' hgr hat;have hgr2:W2.grownBy w' (some g):=by first|exact hgr|(rw[hW2];exact hgr)
    have HR:Hid (WrB w' w.heap.size g' cp' (X++ [92,34])∧Below w.heap.size w w'∧n+2=(X++ [92,34]).length∧X++ [92,34]= [34]++quoL ((bl s).take (k+1))):=⟨hW',WrB.next HW2.2.1 (by omega) hge hgr2,by rw[List.length_append,←HW.2.2];rfl,by rw[HX2.out,HQ.out]⟩;clear hW' hgr hgr2 hat hW2;go_wp2_with fail;go_roundw;case rel=>exact⟨k+1,g',cp',n+2,X++ [92,34],by omega,by go_num,rfl,HR.2.2.1,by omega,HR.2.2.2,HR.1,HR.2.1⟩
    case measure=>simp[intOf];omega
   by_cases h92:x.toNat=92
   ·obtain rfl:x=92:=UInt8.toNat_inj.1 h92;have HQ:Hid (yEk 92= [92,92]):=by show _=_;decide
    obtain⟨W2,hW2⟩:=qE (wr.alloc (Obj.cells #[.int .u8 92,.int .u8 92] 5):World);have hb2:Below wr.heap.size wr W2:=by rw[hW2];exact qB
    have s2:=hb2.size;have HW2:Hid (WrB W2 w.heap.size g cp X∧Below w.heap.size w W2∧yAe W2 wr.heap.size 0 [92,92]):=by refine⟨HW.1.below hb2,HW.2.1.trans (hb2.mono sr),?_⟩;rw[hW2];exact yAp wr _ [92,92] rfl
    clear hb2;go_wp2_with (at_builtin;(try rw[←hW2]);refine yAa _ rfl _ _ rfl w.heap.size g cp n wr.heap.size 0 2 2 X [92,92] rfl rfl HW.2.2 rfl HW2.1 HW2.2.2 ?hl ?hb ?_);case hl=>rw[←HW.2.2];show n+2≤_;omega
    case hb=>omega
    intro g' cp' w' hW' hgr hat;have hgr2:W2.grownBy w' (some g):=by first|exact hgr|(rw[hW2];exact hgr)
    have HR:Hid (WrB w' w.heap.size g' cp' (X++ [92,92])∧Below w.heap.size w w'∧n+2=(X++ [92,92]).length∧X++ [92,92]= [34]++quoL ((bl s).take (k+1))):=⟨hW',WrB.next HW2.2.1 (by omega) hge hgr2,by rw[List.length_append,←HW.2.2];rfl,by rw[HX2.out,HQ.out]⟩;clear hW' hgr hgr2 hat hW2;go_wp2_with fail;go_roundw;case rel=>exact⟨k+1,g',cp',n+2,X++ [92,92],by omega,by go_num,rfl,HR.2.2.1,by omega,HR.2.2.2,HR.1,HR.2.1⟩
    case measure=>simp[intOf];omega
   have z34:((x.toNat:Int)==34)=false:=by rw[beq_eq_false_iff_ne];omega
   have z92:((x.toNat:Int)==92)=false:=by rw[beq_eq_false_iff_ne];omega
   by_cases h2:32≤x.toNat∧x.toNat≤126
   ·have z32:(32:Int)≤(x.toNat:Int):=by omega
    have z126:(x.toNat:Int)≤126:=by omega
    have HQ:Hid (yEk x= [x]):=by show _=_;unfold yEk;rw[if_neg (by omega),if_pos h2]
    obtain⟨W2,hW2⟩:=qE (wr.alloc (Obj.cells #[.int .u8 (x.toNat:Int)] 5):World);have hb2:Below wr.heap.size wr W2:=by rw[hW2];exact qB
    have s2:=hb2.size;have HW2:Hid (WrB W2 w.heap.size g cp X∧Below w.heap.size w W2∧yAe W2 wr.heap.size 0 [x]):=by refine⟨HW.1.below hb2,HW.2.1.trans (hb2.mono sr),?_⟩;rw[hW2];exact yAp wr _ [x] rfl
    clear hb2;go_wp2_with (at_builtin;(try rw[←hW2]);refine yAa _ rfl _ _ rfl w.heap.size g cp n wr.heap.size 0 1 1 X [x] rfl rfl HW.2.2 rfl HW2.1 HW2.2.2 ?hl ?hb ?_);case hl=>first|omega|(rw[←HW.2.2];first|(show n+1≤_;omega)|omega)
    case hb=>omega
    intro g' cp' w' hW' hgr hat;have hgr2:W2.grownBy w' (some g):=by first|exact hgr|(rw[hW2];exact hgr)
    have HR:Hid (WrB w' w.heap.size g' cp' (X++ [x])∧Below w.heap.size w w'∧n+1=(X++ [x]).length∧X++ [x]= [34]++quoL ((bl s).take (k+1))):=⟨hW',WrB.next HW2.2.1 (by omega) hge hgr2,by rw[List.length_append,←HW.2.2];rfl,by rw[HX2.out,HQ.out]⟩;clear hW' hgr hgr2 hat hW2;go_wp2_with fail;go_roundw;case rel=>exact⟨k+1,g',cp',n+1,X++ [x],by omega,by go_num,rfl,HR.2.2.1,by omega,HR.2.2.2,HR.1,HR.2.1⟩
    case measure=>simp[intOf];omega
   obtain⟨d,hd⟩:=qE (x.toNat/16);obtain⟨f,hf⟩:=qE (x.toNat%16);have hdl:d<16:=by omega
   have hfl:f<16:=by omega
   have zdl:(d:Int)<16:=by omega
   have zfl:(f:Int)<16:=by omega
   obtain⟨d1,hd1⟩:=qE (hexB d);obtain⟨d2,hd2⟩:=qE (hexB f);have HD:Hid (IntKind.u8.wrap ((x.toNat:Int)/16)=(d:Int)∧(x.toNat:Int).tmod 16=(f:Int)∧(⟨#[48,49,50,51,52,53,54,55,56,57,97,98,99,100,101,102]⟩:ByteArray)[d]'hdl=d1∧(⟨#[48,49,50,51,52,53,54,55,56,57,97,98,99,100,101,102]⟩:ByteArray)[f]'hfl=d2):=⟨by rw[yKq,hd],by rw[tmod16,hf],by rw[yPl,hd1],by rw[yPl,hd2]⟩;have HQ:Hid (yEk x= [92,120,d1,d2]):=by show _=_;unfold yEk;rw[if_neg (by omega),if_neg h2,←hd,←hf,hd1,hd2]
   obtain⟨W2,hW2⟩:=qE ((wr.alloc (Obj.cells #[.int .u8 92,.int .u8 120,.int .u8 (d1.toNat:Int),.int .u8 (d2.toNat:Int)] 5)).drew:World);have hb2:Below wr.heap.size wr W2:=by rw[hW2];exact(qB).drew
   have s2:=hb2.size;have HW2:Hid (WrB W2 w.heap.size g cp X∧Below w.heap.size w W2∧yAe W2 wr.heap.size 0 [92,120,d1,d2]):=by refine⟨HW.1.below hb2,HW.2.1.trans (hb2.mono sr),?_⟩;rw[hW2];exact fun i y hy=>yAp wr _ [92,120,d1,d2] rfl i y hy
   clear hb2 hd hf hd1 hd2;by_cases h3:32≤x.toNat
   ·have z3:(32:Int)≤(x.toNat:Int):=by omega
    have z4:¬(x.toNat:Int)≤126:=by omega
    clear h2;go_upto_region 11 with fail;refine yCa 11 (fun _=>True) (by kernel_rfl) ?_;refine qU 0 ?vp0 rfl ?yp0 trivial ?_;case yp0=>exact zzR0
    try simp only[qA]
    refine qU 1 ?vp1 rfl ?yp1 trivial ?_;case yp1=>exact zzR0
    try simp only[qA]
    refine qU 2 ?vp2 rfl ?yp2 trivial ?_;case yp2=>exact zzR0
    try simp only[qA]
    refine qU 3 (.int .u8 (d:Int)) rfl ?yp3 trivial ?_;case yp3=>(intro wz _;go_simp;first|exact HD.1|rw[HD.1])
    try simp only[qA]
    refine qU 4 (.int .u8 (d1.toNat:Int)) rfl ?yp4 trivial ?_;case yp4=>exact zzR1
    try simp only[qA]
    refine qU 5 ?vp5 rfl ?yp5 trivial ?_;case yp5=>exact zzR0
    try simp only[qA]
    refine qU 6 ?vp6 rfl ?yp6 trivial ?_;case yp6=>exact zzR0
    try simp only[qA]
    refine qU 7 (.int .u8 (f:Int)) rfl ?yp7 trivial ?_;case yp7=>exact zzR2
    try simp only[qA]
    refine qU 8 (.int .u8 (d2.toNat:Int)) rfl ?yp8 trivial ?_;case yp8=>exact zzR3
    try simp only[qA]
    refine qO 9 rfl fun K hK=>?_;go_simp;try rw[←hW2]
    refine hK.out _ _ (.inr trivial) ?_;clear hK;try simp only[qA]
    refine qO 10 rfl fun K hK=>?_;refine yBz _ rfl _ _ rfl w.heap.size g cp n wr.heap.size 0 4 4 X [92,120,d1,d2] rfl rfl HW.2.2 rfl HW2.1 HW2.2.2 ?hl ?hb ?_;case hl=>rw[←HW.2.2];show n+4≤_;omega
    case hb=>omega
    exact zzQ28
   ·have z3:¬(32:Int)≤(x.toNat:Int):=by omega
    clear h2;go_upto_region 11 with fail;refine yCa 11 (fun _=>True) (by kernel_rfl) ?_;refine qU 0 ?vq0 rfl ?yq0 trivial ?_;case yq0=>exact zzR0
    try simp only[qA]
    refine qU 1 ?vq1 rfl ?yq1 trivial ?_;case yq1=>exact zzR0
    try simp only[qA]
    refine qU 2 ?vq2 rfl ?yq2 trivial ?_;case yq2=>exact zzR0
    try simp only[qA]
    refine qU 3 (.int .u8 (d:Int)) rfl ?yq3 trivial ?_;case yq3=>(intro wz _;go_simp;first|exact HD.1|rw[HD.1])
    try simp only[qA]
    refine qU 4 (.int .u8 (d1.toNat:Int)) rfl ?yq4 trivial ?_;case yq4=>exact zzR1
    try simp only[qA]
    refine qU 5 ?vq5 rfl ?yq5 trivial ?_;case yq5=>exact zzR0
    try simp only[qA]
    refine qU 6 ?vq6 rfl ?yq6 trivial ?_;case yq6=>exact zzR0
    try simp only[qA]
    refine qU 7 (.int .u8 (f:Int)) rfl ?yq7 trivial ?_;case yq7=>exact zzR2
    try simp only[qA]
    refine qU 8 (.int .u8 (d2.toNat:Int)) rfl ?yq8 trivial ?_;case yq8=>exact zzR3
    try simp only[qA]
    refine qO 9 rfl fun K hK=>?_;go_simp;try rw[←hW2]
    refine hK.out _ _ (.inr trivial) ?_;clear hK;try simp only[qA]
    refine qO 10 rfl fun K hK=>?_;refine yBz _ rfl _ _ rfl w.heap.size g cp n wr.heap.size 0 4 4 X [92,120,d1,d2] rfl rfl HW.2.2 rfl HW2.1 HW2.2.2 ?hl ?hb ?_;case hl=>rw[←HW.2.2];show n+4≤_;omega
    case hb=>omega
    exact zzQ28
  ·have z:¬(k:Int)<(s.size:Int):=by omega
   have HX2:Hid (quoM (bl s)=X++ [34]):=by show _=_;have:=HX.out;rw[List.take_of_length_le (by rw[yBb];omega)]at this;rw[quoM,this]
   obtain⟨W2,hW2⟩:=qE (wr.alloc (Obj.cells #[.int .u8 34] 5):World);have hb2:Below wr.heap.size wr W2:=by rw[hW2];exact qB
   have s2:=hb2.size;have HW2:Hid (WrB W2 w.heap.size g cp X∧Below w.heap.size w W2∧yAe W2 wr.heap.size 0 [34]):=by refine⟨HW.1.below hb2,HW.2.1.trans (hb2.mono sr),?_⟩;rw[hW2];exact yAp wr _ [34] rfl
   clear hb2;go_wp2_with (at_builtin;(try rw[←hW2]);refine yAa _ rfl _ _ rfl w.heap.size g cp n wr.heap.size 0 1 1 X [34] rfl rfl HW.2.2 rfl HW2.1 HW2.2.2 ?hl ?hb ?_);case hl=>first|omega|(rw[←HW.2.2];first|(show n+1≤_;omega)|omega)
   case hb=>omega
   intro g' cp' w' hW' hgr hat;have hgr2:W2.grownBy w' (some g):=by first|exact hgr|(rw[hW2];exact hgr)
   have HR:Hid (WrB w' w.heap.size g' cp' (quoM (bl s))∧Below w.heap.size w w'∧n+1=(quoM (bl s)).length):=⟨by rw[HX2.out];exact hW',WrB.next HW2.2.1 (by omega) hge hgr2,by rw[HX2.out,List.length_append,←HW.2.2];rfl⟩;clear hW' hgr hgr2 hat hW2;go_wp2_with fail;go_ret;exact⟨g',cp',by rw[←HR.2.2];rfl,HR.1,HR.2.1⟩
def loP (k:Int) (d:UInt8):List UInt8:=if k=0 then [32,32]else if k<4∧¬(97≤d.toNat∧d.toNat≤122)then []else [32]
def loQ (c pr:UInt8) (q:Bool):Bool:=if c=34∧¬pr=92 then !q else q
def loS (xs:List Int) (c pr:UInt8) (nx:Option UInt8) (t:List UInt8×Bool×Dst):List UInt8×Bool×Dst:=
 match nx with
 |some d=>if c=32∧loQ c pr t.2.1=false then(t.1++loP (belF xs 6 t.2.2).1 d,loQ c pr t.2.1,(belF xs 6 t.2.2).2)else(t.1++ [c],loQ c pr t.2.1,t.2.2)
 |none=>(t.1++ [c],loQ c pr t.2.1,t.2.2)
def looI (xs:List Int) (b:List UInt8) (s:Dst):Nat→List UInt8×Bool×Dst
 |0=>([],false,s)
 |i+1=>loS xs (b[i]?.getD 0) (if i=0 then 0 else b[i-1]?.getD 0) b[i+1]? (looI xs b s i)
def looF (xs:List Int) (b:List UInt8) (s:Dst):List UInt8×Dst:=((looI xs b s b.length).1,(looI xs b s b.length).2.2)
theorem yZg (k:Int) (d:UInt8):(loP k d).length≤2:=by
 unfold loP;split
 ·simp
 ·split<;>simp
theorem yLq (xs:List Int) (b:List UInt8) (s:Dst):∀i,(looI xs b s i).1.length≤2*i
 |0=>by simp[looI]
 |i+1=>by
  have ih:=yLq xs b s i
  have hp:=fun d=>yZg (belF xs 6 (looI xs b s i).2.2).1 d
  unfold looI loS
  split
  ·rename_i d _
   have:=hp d
   split
   ·split
    ·simp only[List.length_append];omega
    ·simp;omega
   ·split
    ·simp only[List.length_append];omega
    ·simp;omega
  ·simp;omega
theorem yI0 {xs:List UInt8} (h:yAe w b off xs) (hc:Chg S w w') (hlt:b<w.heap.size) (hn:¬S b):yAe w' b off xs:=fun i x hx=>by rw[hc.cell (p:=⟨b,off+i,none⟩) hlt hn];exact h i x hx
structure LoJ (xs:List Int) (u:Dst) (base cb:Nat) (bv:Value) (w:World) (gb ob:Nat) (b:List UInt8) (g cp n:Nat) (X:List UInt8) (wr:World):Prop where
 out:WrB wr w.heap.size g cp X
 d:DIF xs u base cb bv w wr
 by_:yAe wr gb ob b
 len:n=X.length
 gl:gb<w.heap.size∧¬gb=cb
variable {xs:List Int} {u:Dst} {gb ob:Nat} {b X:List UInt8}
theorem LoJ.below {wr:World} (h:LoJ xs u base cb bv w gb ob b g cp n X wr) (hb:Below wr.heap.size wr w1):LoJ xs u base cb bv w gb ob b g cp n X w1:=
 ⟨h.out.below hb,h.d.below hb,yI0 h.by_ (S:=fun _=>False) (Chg.of_below hb) (by have:=h.d.c.size;have:=h.gl.1;omega) (fun q=>q),h.len,h.gl⟩
theorem LoJ.call {u1:Dst} {wr:World} (h:LoJ xs u base cb bv w gb ob b g cp n X wr) (hd:yBq xs u1 base cb bv wr w1):LoJ xs u1 base cb bv w gb ob b g cp n X w1:=
 ⟨h.out.chg hd.2 (by have:=h.out.le;have:=h.d.lt;omega),h.d.call hd,yI0 h.by_ hd.2 (by have:=h.d.c.size;have:=h.gl.1;omega) h.gl.2,h.len,h.gl⟩
theorem LoJ.app {wr:World} (h:LoJ xs u base cb bv w gb ob b g cp n X wr) {g' cp':Nat} {Y:List UInt8} (hW:WrB w1 w.heap.size g' cp' Y) (hgr:wr.grownBy w1 (some g)) (hm:m=Y.length):LoJ xs u base cb bv w gb ob b g' cp' m Y w1:=
 ⟨hW,h.d.grow hgr (fun k q=>by cases q;exact h.out.le),yI0 h.by_ (S:=fun k=>k=g) (Chg.of_grown hgr (fun k q=>by cases q;rfl)) (by have:=h.d.c.size;have:=h.gl.1;omega) (by have:=h.out.le;have:=h.gl.1;omega),hm,h.gl⟩
def LoP (xs:List Int) (R:List UInt8) (s':Dst) (base cb:Nat) (bv:Value) (w:World) (e:Ending) (w':World):Prop:=∃g cp,e=.returned (.slice (some ⟨g,0,none⟩) R.length cp)∧WrB w' w.heap.size g cp R∧DIF xs s' base cb bv w w'
theorem ySj (xs:List Int) (s:Dst) (base cb:Nat) (bv:Value) (b:List UInt8) (gb ob cb2 N:Nat) (w:World) (h:yA5 xs s base cb bv w) (hby:yAe w gb ob b) (hN:N=b.length) (hl:N≤450000000) (hg:gb<w.heap.size∧¬gb=cb) {R:List UInt8} {s':Dst} (hE:looF xs b s=(R,s')):
  Calls Tryz.prog 85 #[.pointer (some ⟨cb,0,none⟩),.slice (some ⟨gb,ob,none⟩) N cb2] w (LoP xs R s' base cb bv w):=by
 obtain⟨W1,hW1⟩:=qE (w.alloc (Obj.cells #[] 5):World);have z1:w.heap.size<W1.heap.size:=by rw[hW1];simp
 have HS:Hid (LoJ xs s base cb bv w gb ob b w.heap.size 0 0 [] W1):=by
  have hb1:Below w.heap.size w W1:=by rw[hW1];exact qB
  refine⟨WrB.full (xs:= []) (Nat.le_refl _) z1 (fun i x hx=>by simp at hx) (by simp),(DIF.start h).below hb1,yI0 hby (S:=fun _=>False) (Chg.of_below hb1) hg.1 (fun q=>q),rfl,hg⟩
 have HN:Hid (N=b.length):=hN;have HE:Hid (looF xs b s=(R,s')):=hE;clear h hby hN hE hg z1;go_enter Tryz.func85,Tryz.ntmps85;go_upto_region 2 with fail;rw[←hW1];clear hW1;go_wp2_with fail;go_loopw[5,6,7] (fun ov qv iv wr=>∃(i g cp n:Nat) (X:List UInt8) (q:Bool) (u:Dst),i≤N∧iv=.int .i64 i∧qv=.bool q∧ov=.slice (some ⟨g,0,none⟩) n cp∧n≤2*i∧Hid (looI xs b s i=(X,q,u))∧Hid (LoJ xs u base cb bv w gb ob b g cp n X wr)) (fun _ _ iv _=>N-(intOf iv).toNat);case atStart=>exact⟨0,_,0,0,[],false,s,Nat.zero_le _,rfl,rfl,rfl,by omega,rfl,HS.out⟩
 case round=>
  clear HS;obtain⟨i,g,cp,n,X,q,u,hi,rfl,rfl,rfl,hn,HI,HJ⟩:=hrel;have hgl:=HJ.out.out.lt;have hge:=HJ.out.out.le;have sr:=HJ.d.c.size;by_cases hlt:i<N
  ·have z:(i:Int)<(N:Int):=by omega
   obtain⟨c,hc⟩:∃c,b[i]?=some c:=⟨_,List.getElem?_eq_getElem (by rw[←HN.out];exact hlt)⟩;have HC:Hid (b[i]?=some c):=hc;clear hc;have c0:wr.cell? ⟨gb,ob+i,none⟩=some (.int .u8 (c.toNat:Int)):=HJ.by_ i c HC.out;have hc8:c.toNat<256:=c.toNat_lt;by_cases h34:c.toNat=34
   ·obtain rfl:c=34:=UInt8.toNat_inj.1 h34;by_cases hi0:i=0
    ·have zi0:((i:Int)==0)=true:=by simp[hi0]
     have HI0:Hid (i=0):=hi0;clear hi0;have HQ:Hid (looI xs b s (i+1)=(X++ [34], !q,u)):=by show _=_;rw[looI,HI.out,HC.out,if_pos HI0.out];simp only[loS,loQ];split<;>simp
     go_upto_region 8 with fail;clear zi0;obtain⟨W2,hW2⟩:=qE (wr.alloc (Obj.cells #[.int .u8 34] 5):World);have hb2:Below wr.heap.size wr W2:=by rw[hW2];exact qB
     have s2:=hb2.size;have HW2:Hid (LoJ xs u base cb bv w gb ob b g cp n X W2∧yAe W2 wr.heap.size 0 [34]):=by refine⟨HJ.below hb2,?_⟩;rw[hW2];exact yAp wr _ [34] rfl
     have hge2:=HW2.1.out.le;clear hb2;go_wp2_with (at_builtin;(try rw[←hW2]);refine yAa _ rfl _ _ rfl w.heap.size g cp n wr.heap.size 0 1 1 X [34] rfl rfl HJ.len rfl HW2.1.out HW2.2 ?hl ?hb ?_);case hl=>first|omega|(rw[←HJ.len];first|(show n+1≤_;omega)|omega)|(simp;rw[←HJ.len];omega)
     case hb=>first|omega|(have h9:=HW2.1.d.c.size;omega)
     exact zzQ33
    ·obtain⟨j,hj⟩:∃j,i=j+1:=⟨i-1,by omega⟩;obtain⟨d,hd⟩:∃d,b[j]?=some d:=⟨_,List.getElem?_eq_getElem (by have:=HN.out;omega)⟩;have c1:wr.cell? ⟨gb,ob+j,none⟩=some (.int .u8 (d.toNat:Int)):=HJ.by_ j d hd;have HD:Hid (b[i-1]?=some d):=by show _=_;rw[hj];exact hd
     have hd8:d.toNat<256:=d.toNat_lt;have zi:(i:Int)-1=(j:Int):=by omega
     have zi0:((i:Int)==0)=false:=by rw[beq_eq_false_iff_ne];omega
     have hjN:j<N:=by omega
     have HJi:Hid (i=j+1):=hj;clear hj hd;by_cases h92:d.toNat=92
     ·obtain rfl:d=92:=UInt8.toNat_inj.1 h92;have HQ:Hid (looI xs b s (i+1)=(X++ [34],q,u)):=by show _=_;rw[looI,HI.out,HC.out,if_neg hi0,HD.out];simp only[loS,loQ];split<;>simp
      go_upto_region 8 with fail;clear zi zi0 c1;obtain⟨W2,hW2⟩:=qE (wr.alloc (Obj.cells #[.int .u8 34] 5):World);have hb2:Below wr.heap.size wr W2:=by rw[hW2];exact qB
      have s2:=hb2.size;have HW2:Hid (LoJ xs u base cb bv w gb ob b g cp n X W2∧yAe W2 wr.heap.size 0 [34]):=by refine⟨HJ.below hb2,?_⟩;rw[hW2];exact yAp wr _ [34] rfl
      have hge2:=HW2.1.out.le;clear hb2;go_wp2_with (at_builtin;(try rw[←hW2]);refine yAa _ rfl _ _ rfl w.heap.size g cp n wr.heap.size 0 1 1 X [34] rfl rfl HJ.len rfl HW2.1.out HW2.2 ?hl ?hb ?_);case hl=>first|omega|(rw[←HJ.len];first|(show n+1≤_;omega)|omega)|(simp;rw[←HJ.len];omega)
      case hb=>first|omega|(have h9:=HW2.1.d.c.size;omega)
      intro g' cp' w' hW' hgr hat;have hgr2:W2.grownBy w' (some g):=by first|exact hgr|(rw[hW2];exact hgr)
      have HR:Hid (LoJ xs u base cb bv w gb ob b g' cp' (n+1) (X++ [34]) w'∧looI xs b s (i+1)=(X++ [34],q,u)):=⟨HW2.1.app (by first|exact hW'|(rw[List.append_nil];exact hW')) hgr2 (by rw[List.length_append,←HJ.len];rfl),HQ.out⟩;clear hW' hgr hgr2 hat hW2;go_wp2_with fail;go_roundw;case rel=>exact⟨i+1,g',cp',n+1,X++ [34],q,u,by omega,by first|rfl|go_num|(congr 1;omega),rfl,rfl,by omega,HR.2,HR.1⟩
      case measure=>simp[intOf];omega
     ·have z92:((d.toNat:Int)==92)=false:=by rw[beq_eq_false_iff_ne];omega
      have hdn:¬d=92:=fun q=>h92 (by rw[q];rfl);have HQ:Hid (looI xs b s (i+1)=(X++ [34], !q,u)):=by show _=_;rw[looI,HI.out,HC.out,if_neg hi0,HD.out];simp only[loS,loQ];split<;>simp[hdn]
      go_upto_region 8 with fail;clear zi zi0 c1 z92;obtain⟨W2,hW2⟩:=qE (wr.alloc (Obj.cells #[.int .u8 34] 5):World);have hb2:Below wr.heap.size wr W2:=by rw[hW2];exact qB
      have s2:=hb2.size;have HW2:Hid (LoJ xs u base cb bv w gb ob b g cp n X W2∧yAe W2 wr.heap.size 0 [34]):=by refine⟨HJ.below hb2,?_⟩;rw[hW2];exact yAp wr _ [34] rfl
      have hge2:=HW2.1.out.le;clear hb2;go_wp2_with (at_builtin;(try rw[←hW2]);refine yAa _ rfl _ _ rfl w.heap.size g cp n wr.heap.size 0 1 1 X [34] rfl rfl HJ.len rfl HW2.1.out HW2.2 ?hl ?hb ?_);case hl=>first|omega|(rw[←HJ.len];first|(show n+1≤_;omega)|omega)|(simp;rw[←HJ.len];omega)
      case hb=>first|omega|(have h9:=HW2.1.d.c.size;omega)
      exact zzQ33
   have z34:((c.toNat:Int)==34)=false:=by rw[beq_eq_false_iff_ne];omega
   have hc34:¬c=34:=fun q=>h34 (by rw[q];rfl);by_cases h32:c.toNat=32
   ·obtain rfl:c=32:=UInt8.toNat_inj.1 h32;cases q
    ·by_cases hnx:i+1<N
     ·obtain⟨j,hj⟩:=qE (i+1);obtain⟨d,hd⟩:∃d,b[j]?=some d:=⟨_,List.getElem?_eq_getElem (by have:=HN.out;omega)⟩;have c1:wr.cell? ⟨gb,ob+j,none⟩=some (.int .u8 (d.toNat:Int)):=HJ.by_ j d hd;have HD:Hid (b[i+1]?=some d):=by show _=_;rw[←hj];exact hd
      have hd8:d.toNat<256:=d.toNat_lt;have zj:(i:Int)+1=(j:Int):=by omega
      have zjN:(j:Int)<(N:Int):=by omega
      have hjN:j<N:=by omega
      obtain⟨k,u1,hk⟩:∃k u1,belF xs 6 u=(k,u1):=⟨_,_,rfl⟩;obtain⟨hk0,hk1⟩:0≤k∧k<6:=by have h9:=yAm xs (m:=6) (by omega) u;rw[hk]at h9;exact h9
      have HK:Hid (belF xs 6 u=(k,u1)):=hk;have HQ:Hid (looI xs b s (i+1)=(X++loP k d,false,u1)):=by show _=_;rw[looI,HI.out,HC.out,HD.out];simp[loS,loQ,HK.out]
      have HJi:Hid (j=i+1):=hj;clear hj hd hk;obtain⟨wb,hwb⟩:=qE (decide (97≤d.toNat∧d.toNat≤122):Bool);have HWB:Hid (wb=decide (97≤d.toNat∧d.toNat≤122)):=hwb;clear hwb;by_cases hw1:97≤d.toNat
      ·have y1:(97:Int)≤(d.toNat:Int):=by omega
       by_cases hw2:d.toNat≤122
       ·have y2:(d.toNat:Int)≤122:=by omega
        have HWv:Hid (wb=true):=by show _=_;rw[HWB.out];simp[hw1,hw2]
        clear HWB;go_upto_region 10 with fail;clear zjN c1;go_wp2_with fail;refine(yAr HJ.d.d (by omega) (by omega) HK.out).mono ?_;rintro e w5 ⟨rfl,hd5⟩;have HJ5:Hid (LoJ xs u1 base cb bv w gb ob b g cp n X w5):=HJ.call hd5;have s5:=hd5.2.size;have hgl5:=HJ5.out.out.lt;clear hd5 hgl;by_cases k0:k=0
        ·subst k0;have HQ2:Hid (looI xs b s (i+1)=(X++ [32,32],false,u1)):=by show _=_;rw[HQ.out];simp[loP]
         obtain⟨W2,hW2⟩:=qE (w5.alloc (Obj.cells #[.int .u8 32,.int .u8 32] 5):World);have hb2:Below w5.heap.size w5 W2:=by rw[hW2];exact qB
         have s2:=hb2.size;have HW2:Hid (LoJ xs u1 base cb bv w gb ob b g cp n X W2∧yAe W2 w5.heap.size 0 [32,32]):=by refine⟨HJ5.below hb2,?_⟩;rw[hW2];exact yAp w5 _ [32,32] rfl
         have hge2:=HW2.1.out.le;clear hb2;go_wp2_with (at_builtin;(try rw[←hW2]);refine yAa _ rfl _ _ rfl w.heap.size g cp n w5.heap.size 0 2 2 X [32,32] rfl rfl HJ.len rfl HW2.1.out HW2.2 ?hl ?hb ?_);case hl=>first|omega|(rw[←HJ.len];first|(show n+2≤_;omega)|omega)|(simp;rw[←HJ.len];omega)
         case hb=>first|omega|(have h9:=HW2.1.d.c.size;omega)
         exact yX2
        have k0b:(k==0)=false:=by rw[beq_eq_false_iff_ne];exact k0
        have HQ2:Hid (looI xs b s (i+1)=(X++ [32],false,u1)):=by show _=_;rw[HQ.out];simp[loP,k0,hw1,hw2]
        by_cases k4:k<4
        ·skip;obtain⟨W2,hW2⟩:=qE (w5.alloc (Obj.cells #[.int .u8 32] 5):World);have hb2:Below w5.heap.size w5 W2:=by rw[hW2];exact qB
         have s2:=hb2.size;have HW2:Hid (LoJ xs u1 base cb bv w gb ob b g cp n X W2∧yAe W2 w5.heap.size 0 [32]):=by refine⟨HJ5.below hb2,?_⟩;rw[hW2];exact yAp w5 _ [32] rfl
         have hge2:=HW2.1.out.le;clear hb2;go_wp2_with (at_builtin;(try rw[←hW2]);refine yAa _ rfl _ _ rfl w.heap.size g cp n w5.heap.size 0 1 1 X [32] rfl rfl HJ.len rfl HW2.1.out HW2.2 ?hl ?hb ?_);case hl=>first|omega|(rw[←HJ.len];first|(show n+1≤_;omega)|omega)|(simp;rw[←HJ.len];omega)
         case hb=>first|omega|(have h9:=HW2.1.d.c.size;omega)
         exact yUa
        ·skip;obtain⟨W2,hW2⟩:=qE (w5.alloc (Obj.cells #[.int .u8 32] 5):World);have hb2:Below w5.heap.size w5 W2:=by rw[hW2];exact qB
         have s2:=hb2.size;have HW2:Hid (LoJ xs u1 base cb bv w gb ob b g cp n X W2∧yAe W2 w5.heap.size 0 [32]):=by refine⟨HJ5.below hb2,?_⟩;rw[hW2];exact yAp w5 _ [32] rfl
         have hge2:=HW2.1.out.le;clear hb2;go_wp2_with (at_builtin;(try rw[←hW2]);refine yAa _ rfl _ _ rfl w.heap.size g cp n w5.heap.size 0 1 1 X [32] rfl rfl HJ.len rfl HW2.1.out HW2.2 ?hl ?hb ?_);case hl=>first|omega|(rw[←HJ.len];first|(show n+1≤_;omega)|omega)|(simp;rw[←HJ.len];omega)
         case hb=>first|omega|(have h9:=HW2.1.d.c.size;omega)
         exact yUa
       ·have y2:¬(d.toNat:Int)≤122:=by omega
        have HWv:Hid (wb=false):=by show _=_;rw[HWB.out];simp[hw2]
        clear HWB;go_upto_region 10 with fail;clear zjN c1;go_wp2_with fail;refine(yAr HJ.d.d (by omega) (by omega) HK.out).mono ?_;rintro e w5 ⟨rfl,hd5⟩;have HJ5:Hid (LoJ xs u1 base cb bv w gb ob b g cp n X w5):=HJ.call hd5;have s5:=hd5.2.size;have hgl5:=HJ5.out.out.lt;clear hd5 hgl;by_cases k0:k=0
        ·subst k0;have HQ2:Hid (looI xs b s (i+1)=(X++ [32,32],false,u1)):=by show _=_;rw[HQ.out];simp[loP]
         obtain⟨W2,hW2⟩:=qE (w5.alloc (Obj.cells #[.int .u8 32,.int .u8 32] 5):World);have hb2:Below w5.heap.size w5 W2:=by rw[hW2];exact qB
         have s2:=hb2.size;have HW2:Hid (LoJ xs u1 base cb bv w gb ob b g cp n X W2∧yAe W2 w5.heap.size 0 [32,32]):=by refine⟨HJ5.below hb2,?_⟩;rw[hW2];exact yAp w5 _ [32,32] rfl
         have hge2:=HW2.1.out.le;clear hb2;go_wp2_with (at_builtin;(try rw[←hW2]);refine yAa _ rfl _ _ rfl w.heap.size g cp n w5.heap.size 0 2 2 X [32,32] rfl rfl HJ.len rfl HW2.1.out HW2.2 ?hl ?hb ?_);case hl=>first|omega|(rw[←HJ.len];first|(show n+2≤_;omega)|omega)|(simp;rw[←HJ.len];omega)
         case hb=>first|omega|(have h9:=HW2.1.d.c.size;omega)
         exact yX2
        have k0b:(k==0)=false:=by rw[beq_eq_false_iff_ne];exact k0
        by_cases k4:k<4
        ·skip;have HQ2:Hid (looI xs b s (i+1)=(X++ [],false,u1)):=by show _=_;rw[HQ.out];simp[loP,k0,k4,hw2]
         have kc:=fun(w:World) (C:Array Value) (n c:Nat)=>Lib.run_convert_bytes_const (P:=Tryz.prog) w 22 5 C n c Tryz.underlying22 Tryz.underlying5;obtain⟨W2,hW2⟩:=qE (w5.alloc (Obj.cells #[] 5 (0,1)):World);have hb2:Below w5.heap.size w5 W2:=by rw[hW2];exact qB
         have s2:=hb2.size;have HW2:Hid (LoJ xs u1 base cb bv w gb ob b g cp n X W2∧yAe W2 w5.heap.size 0 []):=by refine⟨HJ5.below hb2,?_⟩;exact fun i x hx=>by simp at hx
         have hge2:=HW2.1.out.le;clear hb2;go_wp2_with (at_builtin;(try rw[←hW2]);refine yAa _ rfl _ _ rfl w.heap.size g cp n w5.heap.size 0 0 0 X [] rfl rfl HJ.len rfl HW2.1.out HW2.2 ?hl ?hb ?_);case hl=>first|omega|(rw[←HJ.len];first|(show n+0≤_;omega)|omega)|(simp;rw[←HJ.len];omega)
         case hb=>first|omega|(have h9:=HW2.1.d.c.size;omega)
         exact zzQ34
        ·skip;have HQ2:Hid (looI xs b s (i+1)=(X++ [32],false,u1)):=by show _=_;rw[HQ.out];simp[loP,k0,k4]
         obtain⟨W2,hW2⟩:=qE (w5.alloc (Obj.cells #[.int .u8 32] 5):World);have hb2:Below w5.heap.size w5 W2:=by rw[hW2];exact qB
         have s2:=hb2.size;have HW2:Hid (LoJ xs u1 base cb bv w gb ob b g cp n X W2∧yAe W2 w5.heap.size 0 [32]):=by refine⟨HJ5.below hb2,?_⟩;rw[hW2];exact yAp w5 _ [32] rfl
         have hge2:=HW2.1.out.le;clear hb2;go_wp2_with (at_builtin;(try rw[←hW2]);refine yAa _ rfl _ _ rfl w.heap.size g cp n w5.heap.size 0 1 1 X [32] rfl rfl HJ.len rfl HW2.1.out HW2.2 ?hl ?hb ?_);case hl=>first|omega|(rw[←HJ.len];first|(show n+1≤_;omega)|omega)|(simp;rw[←HJ.len];omega)
         case hb=>first|omega|(have h9:=HW2.1.d.c.size;omega)
         exact yUa
      ·have y1:¬(97:Int)≤(d.toNat:Int):=by omega
       have HWv:Hid (wb=false):=by show _=_;rw[HWB.out];simp[hw1]
       clear HWB;go_upto_region 10 with fail;clear zjN c1;go_wp2_with fail;refine(yAr HJ.d.d (by omega) (by omega) HK.out).mono ?_;rintro e w5 ⟨rfl,hd5⟩;have HJ5:Hid (LoJ xs u1 base cb bv w gb ob b g cp n X w5):=HJ.call hd5;have s5:=hd5.2.size;have hgl5:=HJ5.out.out.lt;clear hd5 hgl;by_cases k0:k=0
       ·subst k0;have HQ2:Hid (looI xs b s (i+1)=(X++ [32,32],false,u1)):=by show _=_;rw[HQ.out];simp[loP]
        obtain⟨W2,hW2⟩:=qE (w5.alloc (Obj.cells #[.int .u8 32,.int .u8 32] 5):World);have hb2:Below w5.heap.size w5 W2:=by rw[hW2];exact qB
        have s2:=hb2.size;have HW2:Hid (LoJ xs u1 base cb bv w gb ob b g cp n X W2∧yAe W2 w5.heap.size 0 [32,32]):=by refine⟨HJ5.below hb2,?_⟩;rw[hW2];exact yAp w5 _ [32,32] rfl
        have hge2:=HW2.1.out.le;clear hb2;go_wp2_with (at_builtin;(try rw[←hW2]);refine yAa _ rfl _ _ rfl w.heap.size g cp n w5.heap.size 0 2 2 X [32,32] rfl rfl HJ.len rfl HW2.1.out HW2.2 ?hl ?hb ?_);case hl=>first|omega|(rw[←HJ.len];first|(show n+2≤_;omega)|omega)|(simp;rw[←HJ.len];omega)
        case hb=>first|omega|(have h9:=HW2.1.d.c.size;omega)
        exact yX2
       have k0b:(k==0)=false:=by rw[beq_eq_false_iff_ne];exact k0
       by_cases k4:k<4
       ·skip;have HQ2:Hid (looI xs b s (i+1)=(X++ [],false,u1)):=by show _=_;rw[HQ.out];simp[loP,k0,k4,hw1]
        have kc:=fun(w:World) (C:Array Value) (n c:Nat)=>Lib.run_convert_bytes_const (P:=Tryz.prog) w 22 5 C n c Tryz.underlying22 Tryz.underlying5;obtain⟨W2,hW2⟩:=qE (w5.alloc (Obj.cells #[] 5 (0,1)):World);have hb2:Below w5.heap.size w5 W2:=by rw[hW2];exact qB
        have s2:=hb2.size;have HW2:Hid (LoJ xs u1 base cb bv w gb ob b g cp n X W2∧yAe W2 w5.heap.size 0 []):=by refine⟨HJ5.below hb2,?_⟩;exact fun i x hx=>by simp at hx
        have hge2:=HW2.1.out.le;clear hb2;go_wp2_with (at_builtin;(try rw[←hW2]);refine yAa _ rfl _ _ rfl w.heap.size g cp n w5.heap.size 0 0 0 X [] rfl rfl HJ.len rfl HW2.1.out HW2.2 ?hl ?hb ?_);case hl=>first|omega|(rw[←HJ.len];first|(show n+0≤_;omega)|omega)|(simp;rw[←HJ.len];omega)
        case hb=>first|omega|(have h9:=HW2.1.d.c.size;omega)
        exact zzQ34
       ·skip;have HQ2:Hid (looI xs b s (i+1)=(X++ [32],false,u1)):=by show _=_;rw[HQ.out];simp[loP,k0,k4]
        obtain⟨W2,hW2⟩:=qE (w5.alloc (Obj.cells #[.int .u8 32] 5):World);have hb2:Below w5.heap.size w5 W2:=by rw[hW2];exact qB
        have s2:=hb2.size;have HW2:Hid (LoJ xs u1 base cb bv w gb ob b g cp n X W2∧yAe W2 w5.heap.size 0 [32]):=by refine⟨HJ5.below hb2,?_⟩;rw[hW2];exact yAp w5 _ [32] rfl
        have hge2:=HW2.1.out.le;clear hb2;go_wp2_with (at_builtin;(try rw[←hW2]);refine yAa _ rfl _ _ rfl w.heap.size g cp n w5.heap.size 0 1 1 X [32] rfl rfl HJ.len rfl HW2.1.out HW2.2 ?hl ?hb ?_);case hl=>first|omega|(rw[←HJ.len];first|(show n+1≤_;omega)|omega)|(simp;rw[←HJ.len];omega)
        case hb=>first|omega|(have h9:=HW2.1.d.c.size;omega)
        exact yUa
     ·have zj:¬(i:Int)+1<(N:Int):=by omega
      have HQ:Hid (looI xs b s (i+1)=(X++ [32],false,u)):=by show _=_;rw[looI,HI.out,HC.out,show b[i+1]?=none from List.getElem?_eq_none (by have:=HN.out;omega)];simp[loS,loQ]
      obtain⟨W2,hW2⟩:=qE (wr.alloc (Obj.cells #[.int .u8 32] 5):World);have hb2:Below wr.heap.size wr W2:=by rw[hW2];exact qB
      have s2:=hb2.size;have HW2:Hid (LoJ xs u base cb bv w gb ob b g cp n X W2∧yAe W2 wr.heap.size 0 [32]):=by refine⟨HJ.below hb2,?_⟩;rw[hW2];exact yAp wr _ [32] rfl
      have hge2:=HW2.1.out.le;clear hb2;go_wp2_with (at_builtin;(try rw[←hW2]);refine yAa _ rfl _ _ rfl w.heap.size g cp n wr.heap.size 0 1 1 X [32] rfl rfl HJ.len rfl HW2.1.out HW2.2 ?hl ?hb ?_);case hl=>first|omega|(rw[←HJ.len];first|(show n+1≤_;omega)|omega)|(simp;rw[←HJ.len];omega)
      case hb=>first|omega|(have h9:=HW2.1.d.c.size;omega)
      intro g' cp' w' hW' hgr hat;have hgr2:W2.grownBy w' (some g):=by first|exact hgr|(rw[hW2];exact hgr)
      have HR:Hid (LoJ xs u base cb bv w gb ob b g' cp' (n+1) (X++ [32]) w'∧looI xs b s (i+1)=(X++ [32],false,u)):=⟨HW2.1.app (by first|exact hW'|(rw[List.append_nil];exact hW')) hgr2 (by rw[List.length_append,←HJ.len];rfl),HQ.out⟩;clear hW' hgr hgr2 hat hW2;go_wp2_with fail;go_roundw;case rel=>exact⟨i+1,g',cp',n+1,X++ [32],false,u,by omega,by first|rfl|go_num|(congr 1;omega),rfl,rfl,by omega,HR.2,HR.1⟩
      case measure=>simp[intOf];omega
    ·have HQ:Hid (looI xs b s (i+1)=(X++ [32],true,u)):=by show _=_;rw[looI,HI.out,HC.out];simp only[loS,loQ];split<;>simp
     obtain⟨W2,hW2⟩:=qE (wr.alloc (Obj.cells #[.int .u8 32] 5):World);have hb2:Below wr.heap.size wr W2:=by rw[hW2];exact qB
     have s2:=hb2.size;have HW2:Hid (LoJ xs u base cb bv w gb ob b g cp n X W2∧yAe W2 wr.heap.size 0 [32]):=by refine⟨HJ.below hb2,?_⟩;rw[hW2];exact yAp wr _ [32] rfl
     have hge2:=HW2.1.out.le;clear hb2;go_wp2_with (at_builtin;(try rw[←hW2]);refine yAa _ rfl _ _ rfl w.heap.size g cp n wr.heap.size 0 1 1 X [32] rfl rfl HJ.len rfl HW2.1.out HW2.2 ?hl ?hb ?_);case hl=>first|omega|(rw[←HJ.len];first|(show n+1≤_;omega)|omega)|(simp;rw[←HJ.len];omega)
     case hb=>first|omega|(have h9:=HW2.1.d.c.size;omega)
     intro g' cp' w' hW' hgr hat;have hgr2:W2.grownBy w' (some g):=by first|exact hgr|(rw[hW2];exact hgr)
     have HR:Hid (LoJ xs u base cb bv w gb ob b g' cp' (n+1) (X++ [32]) w'∧looI xs b s (i+1)=(X++ [32],true,u)):=⟨HW2.1.app (by first|exact hW'|(rw[List.append_nil];exact hW')) hgr2 (by rw[List.length_append,←HJ.len];rfl),HQ.out⟩;clear hW' hgr hgr2 hat hW2;go_wp2_with fail;go_roundw;case rel=>exact⟨i+1,g',cp',n+1,X++ [32],true,u,by omega,by first|rfl|go_num|(congr 1;omega),rfl,rfl,by omega,HR.2,HR.1⟩
     case measure=>simp[intOf];omega
   have z32:((c.toNat:Int)==32)=false:=by rw[beq_eq_false_iff_ne];omega
   have hc32:¬c=32:=fun q=>h32 (by rw[q];rfl);have HQ:Hid (looI xs b s (i+1)=(X++ [c],q,u)):=by show _=_;rw[looI,HI.out,HC.out];simp only[loS,loQ];split<;>simp[hc34,hc32]
   obtain⟨W2,hW2⟩:=qE (wr.alloc (Obj.cells #[.int .u8 (c.toNat:Int)] 5):World);have hb2:Below wr.heap.size wr W2:=by rw[hW2];exact qB
   have s2:=hb2.size;have HW2:Hid (LoJ xs u base cb bv w gb ob b g cp n X W2∧yAe W2 wr.heap.size 0 [c]):=by refine⟨HJ.below hb2,?_⟩;rw[hW2];exact yAp wr _ [c] rfl
   have hge2:=HW2.1.out.le;clear hb2;go_wp2_with (at_builtin;(try rw[←hW2]);refine yAa _ rfl _ _ rfl w.heap.size g cp n wr.heap.size 0 1 1 X [c] rfl rfl HJ.len rfl HW2.1.out HW2.2 ?hl ?hb ?_);case hl=>first|omega|(rw[←HJ.len];first|(show n+1≤_;omega)|omega)|(simp;rw[←HJ.len];omega)
   case hb=>first|omega|(have h9:=HW2.1.d.c.size;omega)
   intro g' cp' w' hW' hgr hat;have hgr2:W2.grownBy w' (some g):=by first|exact hgr|(rw[hW2];exact hgr)
   have HR:Hid (LoJ xs u base cb bv w gb ob b g' cp' (n+1) (X++ [c]) w'∧looI xs b s (i+1)=(X++ [c],q,u)):=⟨HW2.1.app (by first|exact hW'|(rw[List.append_nil];exact hW')) hgr2 (by rw[List.length_append,←HJ.len];rfl),HQ.out⟩;clear hW' hgr hgr2 hat hW2;go_wp2_with fail;go_roundw;case rel=>exact⟨i+1,g',cp',n+1,X++ [c],q,u,by omega,by first|rfl|go_num|(congr 1;omega),rfl,rfl,by omega,HR.2,HR.1⟩
   case measure=>simp[intOf];omega
  ·have z:¬(i:Int)<(N:Int):=by omega
   have hiN:i=N:=by omega
   have HF:Hid (X=R∧u=s'∧n=R.length):=by have h9:=HE.out;unfold looF at h9;rw[←HN.out,←hiN,HI.out]at h9;simp only[Prod.mk.injEq]at h9;refine⟨h9.1,h9.2,?_⟩;rw[←h9.1];exact HJ.len
   clear hiN;go_wp2_with fail;go_ret;obtain⟨rfl,rfl,hnR⟩:=HF.out;exact⟨g,cp,(by first|rfl|(rw[hnR];rfl)),HJ.out.out,HJ.d⟩
end Go.Proofs.YtgnpcenpcmdlfaaGreatDoor
