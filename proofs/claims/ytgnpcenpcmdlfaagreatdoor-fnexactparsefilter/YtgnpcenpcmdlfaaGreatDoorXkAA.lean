import Derived.Deep.RegionHeld3
import Derived.Test.YtgnpcenpcmdlfaaGreatDoorRows
import Derived.WalkKit
import Derived.ProofKit
import Derived.OpenShut
import Derived.ShutString
import Derived.ChangeOld
import Derived.Below
import Derived.WalkSpells
import Derived.WalkLawsBesides
import Derived.Outline
import Derived.Deep.Light
import Derived.Lib.SmallJoins
import Derived.OwnWalk
import Derived.Deep.MidRow
import Derived.Deep.DeepCutAuto
import Derived.Deep.RegionWith
import Derived.Deep.QuietTactic
import Derived.BigQuiet
import Derived.Lib.Bytealg
import Derived.Lib.Slices
import Derived.Lib.Walk
import Derived.Laws.Tables
import Derived.Laws.Rows
import Derived.Deep.WholeRow
namespace Go.Proofs.YtgnpcenpcmdlfaaGreatDoor
open Go.RowKit
set_option linter.unusedVariables false
theorem qA:(∀(a:Act) (n:Nat) (v:Value),a.put (some n) v={a with tmps:=a.tmps.setIfInBounds n v})∧(∀(a:Act) (v:Value),a.put none v=a)∧(∀(l:List Value) (i:Nat) (v:Value),l.toArray.setIfInBounds i v=(l.set i v).toArray)∧
  (∀(x v:Value) (l:List Value),(x::l).set 0 v=v::l)∧(∀(x v:Value) (l:List Value) (i:Nat),(x::l).set (i+1) v=x::l.set i v):=
 ⟨fun _ _ _=>rfl,fun _ _=>rfl,fun _ _ _=>by simp,fun _ _ _=>rfl,fun _ _ _ _=>rfl⟩
theorem qE {α:Sort _} (x:α):∃y,y=x:=⟨x,rfl⟩
theorem qB {w:World} {o:Obj}:Below w.heap.size w (w.alloc o):=(Below.refl _ _).alloc (Nat.le_refl _) _
end Go.Proofs.YtgnpcenpcmdlfaaGreatDoor
namespace Go.Proofs.YtgnpcenpcmdlfaaGreatDoor
set_option linter.unusedVariables false
set_option linter.unusedSimpArgs false
inductive Pat where
 |byte (b:UInt8)
 |cls (f:UInt8→Bool)
 |rep (t:Pat) (opt rpt:Bool)
 |alt (os:List (List Pat))
abbrev isOp (c:UInt8):Prop:=c=42∨c=43∨c=63
abbrev isEnd (c:UInt8):Prop:=isOp c∨c=124∨c=41∨c=93
def chM (p:List UInt8) (i:Nat):UInt8×Nat×Bool:=
 match p[i]? with
 |none=>(0,i,false)
 |some c=>if c=93∨c=45 then(0,i,false)else if c=92 then(match p[i+1]? with|none=>(0,i+1,false)|some d=>(d,i+2,true))else(c,i+1,true)
theorem chM_gt {p:List UInt8} {i k:Nat} {c:UInt8} (h:chM p i=(c,k,true)):i<k∧k≤p.length:=by
 unfold chM at h
 split at h
 ·cases h
 ·next c' hc=>
  have h0:=(List.getElem?_eq_some_iff.1 hc).1
  split at h
  ·cases h
  ·split at h
   ·split at h
    ·cases h
    ·next d hd=>
     have h1:=(List.getElem?_eq_some_iff.1 hd).1
     simp only[Prod.mk.injEq]at h
     omega
   ·simp only[Prod.mk.injEq]at h
    omega
def itemM (p:List UInt8) (j:Nat):(UInt8×UInt8×Nat) ⊕ (Int×Nat):=
 match chM p j with
 |(_,k,false)=>.inr (2,k)
 |(lo,k,true)=>
  if p[k]?=some 45 then
   match chM p (k+1)with
   |(_,m,false)=>.inr (2,m)
   |(hi,m,true)=>if hi<lo then .inr (4,j)else .inl (lo,hi,m)
  else .inl (lo,lo,k)
theorem itemM_gt {p:List UInt8} {j k:Nat} {a b:UInt8} (h:itemM p j=.inl (a,b,k)):j<k∧k≤p.length∧a≤b:=by
 unfold itemM at h
 split at h
 ·cases h
 ·next lo k' hk=>
  have h1:=chM_gt hk
  split at h
  ·split at h
   ·cases h
   ·next hi m hm=>
    have h2:=chM_gt hm
    split at h
    ·cases h
    ·next hle=>
     simp only[Sum.inl.injEq,Prod.mk.injEq]at h
     obtain⟨rfl,rfl,rfl⟩:=h
     exact⟨by omega,by omega,UInt8.not_lt.1 hle⟩
  ·simp only[Sum.inl.injEq,Prod.mk.injEq]at h
   obtain⟨rfl,rfl,rfl⟩:=h
   exact⟨by omega,by omega,UInt8.le_refl _⟩
def clsM (p:List UInt8) (j:Nat) (items:Bool) (f:UInt8→Bool):((UInt8→Bool)×Nat) ⊕ (Int×Nat):=
 if h:j<p.length then
  if p[j]?=some 93∧items=true then .inl (f,j+1)
  else match hi:itemM p j with
   | .inr e=>.inr e
   | .inl (a,b,k)=>clsM p k true (fun c=>f c || (decide (a≤c) && decide (c≤b)))
 else .inr (2,p.length)
termination_by p.length-j
decreasing_by have:=itemM_gt hi;omega
def classM (p:List UInt8) (i:Nat):((UInt8→Bool)×Nat) ⊕ (Int×Nat):=
 if p[i]?=some 94 then(match clsM p (i+1) false (fun _=>false)with| .inl (f,k)=>.inl (fun c=> !f c,k)| .inr e=>.inr e)
 else clsM p i false (fun _=>false)
theorem clsM_gt:∀(n:Nat) {p:List UInt8} {j:Nat} {b:Bool} {f g:UInt8→Bool} {k:Nat},p.length-j≤n→clsM p j b f=.inl (g,k)→j<k∧k≤p.length
 |n,p,j,b,f,g,k,hn,h=>by
  unfold clsM at h
  split at h
  ·next hj=>
   split at h
   ·simp only[Sum.inl.injEq,Prod.mk.injEq]at h
    omega
   ·split at h
    ·cases h
    ·next a b' k' hk=>
     have h1:=itemM_gt hk
     match n,hn with
     |0,hn=>omega
     |n+1,hn=>
      have h2:=clsM_gt n (by omega) h
      omega
  ·cases h
theorem classM_gt {p:List UInt8} {i:Nat} {g:UInt8→Bool} {k:Nat} (h:classM p i=.inl (g,k)):i<k∧k≤p.length:=by
 unfold classM at h
 split at h
 ·split at h
  ·next hc=>
   have:=clsM_gt _ (Nat.le_refl _) hc
   simp only[Sum.inl.injEq,Prod.mk.injEq]at h
   omega
  ·cases h
 ·exact clsM_gt _ (Nat.le_refl _) h
theorem itemM_err {p:List UInt8} {j:Nat} {c:Int} {k:Nat} (h:itemM p j=.inr (c,k)):¬c=0:=by
 unfold itemM at h
 split at h
 ·simp only[Sum.inr.injEq,Prod.mk.injEq]at h;omega
 ·split at h
  ·split at h
   ·simp only[Sum.inr.injEq,Prod.mk.injEq]at h;omega
   ·split at h
    ·simp only[Sum.inr.injEq,Prod.mk.injEq]at h;omega
    ·cases h
  ·cases h
theorem clsM_err:∀(n:Nat) {p:List UInt8} {j:Nat} {b:Bool} {f:UInt8→Bool} {c:Int} {k:Nat},p.length-j≤n→clsM p j b f=.inr (c,k)→¬c=0
 |n,p,j,b,f,c,k,hn,h=>by
  unfold clsM at h
  split at h
  ·split at h
   ·cases h
   ·split at h
    ·next e he=>
     simp only[Sum.inr.injEq]at h
     subst h
     exact itemM_err he
    ·next a b' k' hk=>
     have h1:=itemM_gt hk
     match n,hn with
     |0,hn=>omega
     |n+1,hn=>exact clsM_err n (by omega) h
  ·simp only[Sum.inr.injEq,Prod.mk.injEq]at h;omega
theorem classM_err {p:List UInt8} {i:Nat} {c:Int} {k:Nat} (h:classM p i=.inr (c,k)):¬c=0:=by
 unfold classM at h
 split at h
 ·split at h
  ·cases h
  ·next e he=>
   simp only[Sum.inr.injEq]at h
   subst h
   exact clsM_err _ (Nat.le_refl _) he
 ·exact clsM_err _ (Nat.le_refl _) h
def chkM (p:List UInt8) (i o:Nat) (a:Bool):Int×Nat:=
 if h:i<p.length then
  if p[i]=40 then(if o=20 then(3,i)else chkM p (i+1) (o+1) false)
  else if p[i]=41 then(if o=0 then(2,i)else chkM p (i+1) (o-1) true)
  else if p[i]=124 then chkM p (i+1) o false
  else if p[i]=42∨p[i]=43∨p[i]=63 then(if a=true then chkM p (i+1) o true else(2,i))
  else if p[i]=91 then(match hc:classM p (i+1)with| .inr e=>e| .inl (f,k)=>chkM p k o true)
  else if p[i]=93 then(2,i)
  else if p[i]=92 then(if i+1=p.length then(2,p.length)else chkM p (i+2) o true)
  else chkM p (i+1) o true
 else if 0<o then(2,p.length)else(0,0)
termination_by p.length-i
decreasing_by
 all_goals first
  |(have:=classM_gt hc;omega)
  |omega
variable {p:List UInt8} {i o:Nat} {a:Bool} {c:UInt8}
theorem lt_of_at (h:p[i]?=some c):i<p.length:=(List.getElem?_eq_some_iff.1 h).1
theorem get_of_at (h:p[i]?=some c):p[i]'(lt_of_at h)=c:=(List.getElem?_eq_some_iff.1 h).2
theorem chk_end (h:¬i<p.length):chkM p i o a=if 0<o then(2,p.length)else(0,0):=by rw[chkM,dif_neg h]
theorem chk_open (h:p[i]?=some 40):chkM p i o a=if o=20 then(3,i)else chkM p (i+1) (o+1) false:=by
 rw[chkM,dif_pos (lt_of_at h),if_pos (get_of_at h)]
theorem chk_close (h:p[i]?=some 41):chkM p i o a=if o=0 then(2,i)else chkM p (i+1) (o-1) true:=by
 rw[chkM,dif_pos (lt_of_at h),get_of_at h];simp
theorem chk_bar (h:p[i]?=some 124):chkM p i o a=chkM p (i+1) o false:=by
 rw[chkM,dif_pos (lt_of_at h),get_of_at h];simp
theorem chk_op (h:p[i]?=some c) (hc:isOp c):chkM p i o a=if a=true then chkM p (i+1) o true else(2,i):=by
 rw[chkM,dif_pos (lt_of_at h),get_of_at h]
 rcases hc with rfl|rfl|rfl<;>simp
theorem chk_rb (h:p[i]?=some 93):chkM p i o a=(2,i):=by
 rw[chkM,dif_pos (lt_of_at h),get_of_at h];simp
theorem chk_class (h:p[i]?=some 91):chkM p i o a=match classM p (i+1)with| .inr e=>e| .inl (f,k)=>chkM p k o true:=by
 rw[chkM,dif_pos (lt_of_at h),get_of_at h]
 simp only[show¬(91:UInt8)=40 by decide,show¬(91:UInt8)=41 by decide,show¬(91:UInt8)=124 by decide,show¬((91:UInt8)=42∨(91:UInt8)=43∨(91:UInt8)=63)by decide,if_false,if_true]
 split<;>(next hc=>rw[hc])
theorem chk_esc (h:p[i]?=some 92):chkM p i o a=if i+1=p.length then(2,p.length)else chkM p (i+2) o true:=by
 rw[chkM,dif_pos (lt_of_at h),get_of_at h];simp
theorem chk_plain (h:p[i]?=some c) (h1:¬isEnd c) (h2:¬c=40) (h3:¬c=91) (h4:¬c=92):chkM p i o a=chkM p (i+1) o true:=by
 rw[chkM,dif_pos (lt_of_at h),get_of_at h]
 unfold isEnd isOp at h1
 simp only[not_or]at h1
 obtain⟨⟨g1,g2,g3⟩,g4,g5,g6⟩:=h1
 simp[h2,h3,h4,g1,g2,g3,g4,g5,g6]
theorem chk_flag (h:∀c,p[i]?=some c→¬isOp c) (a b:Bool):chkM p i o a=chkM p i o b:=by
 by_cases hi:i<p.length
 ·obtain⟨c,hc⟩:∃c,p[i]?=some c:=⟨_,List.getElem?_eq_getElem hi⟩
  have hn:=h c hc
  by_cases h1:c=40
  ·subst h1;rw[chk_open hc,chk_open hc]
  by_cases h2:c=41
  ·subst h2;rw[chk_close hc,chk_close hc]
  by_cases h3:c=124
  ·subst h3;rw[chk_bar hc,chk_bar hc]
  by_cases h4:c=93
  ·subst h4;rw[chk_rb hc,chk_rb hc]
  by_cases h5:c=91
  ·subst h5;rw[chk_class hc,chk_class hc]
  by_cases h6:c=92
  ·subst h6;rw[chk_esc hc,chk_esc hc]
  have he:¬isEnd c:=fun q=>q.elim hn (fun q=>q.elim h3 (fun q=>q.elim h2 h4))
  rw[chk_plain hc he h1 h5 h6,chk_plain hc he h1 h5 h6]
 ·rw[chk_end hi,chk_end hi]
structure Nd where
 kind:Int
 s:ByteArray
 hi:Bool
 t:ByteArray
 lo:Int
 up:Int
 n:Int
def arity (k:Int):Nat:=if k=14∨k=15 then 2 else if k=16 then 3 else 0
inductive IsT:Nat→List Nd→Prop
 |nil:IsT 0 []
 |snoc {k:Nat} {xs:List Nd} (n:Nd) (h:IsT (k+arity n.kind) xs):IsT (k+1) (xs++ [n])
theorem IsT.len {k:Nat} {xs:List Nd} (h:IsT k xs):k≤xs.length:=by
 induction h with
 |nil=>exact Nat.le_refl _
 |snoc n h ih=>simp;omega
inductive Sc:Nat→List Nd→Prop
 |nil:Sc 1 []
 |cons {m:Nat} {ys:List Nd} (n:Nd) (h:Sc (m+1) ys):Sc (m+arity n.kind) (n::ys)
theorem Sc.inv {m:Nat} {n:Nd} {ys:List Nd} (h:Sc m (n::ys)):∃q,m=q+arity n.kind∧Sc (q+1) ys:=by
 cases h with
 |cons _ h=>exact⟨_,rfl,h⟩
theorem Sc.one:∀{ys:List Nd} {m k:Nat},Sc m ys→Sc k ys→m=k
 | [],_,_,.nil,.nil=>rfl
 |n::ys,m,k,h,g=>by
  obtain⟨a,rfl,ha⟩:=h.inv
  obtain⟨b,rfl,hb⟩:=g.inv
  have:=Sc.one ha hb
  omega
structure Shape where
 valid:Bool
 kind:Int
 nest:Nat
def strong (k:Int):Nat:=if k=15 then 1 else if k=14 then 2 else 3
def level (op:Int) (i:Nat) (kid:Int):Bool:=decide (op=16) || (if i=0 then decide (strong kid<strong op)else decide (strong kid≤strong op))
def nestFrom (op:Int):Nat→Nat→List Shape→Nat
 |_,a,[]=>a
 |i,a,o::os=>nestFrom op (i+1) (max a (o.nest+if level op i o.kind then 1 else 0)) os
variable (G:Nd→Bool)
def shapeM (n:Nd) (os:List Shape):Shape:=⟨G n && os.all (·.valid),n.kind,nestFrom n.kind 0 0 os⟩
def stepM (st:List Shape) (n:Nd):Option (List Shape):=
 if st.length<arity n.kind then none else some (st.take (st.length-arity n.kind)++ [shapeM G n (st.drop (st.length-arity n.kind))])
def foldM (st:List Shape):List Nd→Option (List Shape)
 | []=>some st
 |n::ns=>match stepM G st n with
  |none=>none
  |some st'=>foldM st' ns
theorem foldM_append (st:List Shape) (xs ys:List Nd):foldM G st (xs++ys)=(foldM G st xs).bind (fun s=>foldM G s ys):=by
 induction xs generalizing st with
 |nil=>rfl
 |cons x xs ih=>
  simp only[List.cons_append,foldM]
  cases stepM G st x with
  |none=>rfl
  |some s=>exact ih s
inductive ShT:List Shape→List Nd→Prop
 |nil:ShT [] []
 |snoc {ss os:List Shape} {xs:List Nd} (n:Nd) (ho:os.length=arity n.kind) (h:ShT (ss++os) xs):ShT (ss++ [shapeM G n os]) (xs++ [n])
theorem ShT.tree {ss:List Shape} {xs:List Nd} (h:ShT G ss xs):IsT ss.length xs:=by
 induction h with
 |nil=>exact .nil
 | @snoc ss os xs n ho h ih=>
   rw[List.length_append]
   refine IsT.snoc n ?_
   rw[←ho,←List.length_append];exact ih
theorem ShT.fold {ss:List Shape} {xs:List Nd} (h:ShT G ss xs):∀st,foldM G st xs=some (st++ss):=by
 induction h with
 |nil=>intro st;simp[foldM]
 | @snoc ss os xs n ho h ih=>
   intro st
   rw[foldM_append,ih]
   simp only[Option.bind_some,foldM,stepM]
   rw[if_neg (by simp;omega)]
   have hl:(st++(ss++os)).length-arity n.kind=(st++ss).length:=by simp;omega
   rw[hl,←List.append_assoc,List.take_left,List.drop_left,List.append_assoc]
theorem ShT.inv {s:Shape} {xs:List Nd} (h:ShT G [s] xs):∃ys n os,xs=ys++ [n]∧os.length=arity n.kind∧ShT G os ys∧s=shapeM G n os:=by
 generalize hs: [s]=ss at h
 cases h with
 |nil=>cases hs
 | @snoc ss os xs n ho h=>
   have e:=List.append_inj' (s₁:= []) (t₁:= [s]) hs rfl
   obtain⟨e1,e2⟩:=e
   subst e1
   simp at e2
   exact⟨xs,n,os,rfl,ho,h,e2⟩
inductive Kids:List Shape→List (List Nd)→Prop
 |nil:Kids [] []
 |cons {o:Shape} {os:List Shape} {k:List Nd} {ks:List (List Nd)} (h:ShT G [o] k) (t:Kids os ks):Kids (o::os) (k::ks)
theorem Kids.length {os:List Shape} {ks:List (List Nd)} (h:Kids G os ks):os.length=ks.length:=by
 induction h with
 |nil=>rfl
 |cons _ _ ih=>simp[ih]
end Go.Proofs.YtgnpcenpcmdlfaaGreatDoor
namespace Go.Proofs.YtgnpcenpcmdlfaaGreatDoor
open Go.ChangeShapes Go.WideShapes Go.ChangeAt Go.RowKit
open Go.ChangeMaps (open_string shut_string)
structure Ent where
 row:ByteArray
 fam:ByteArray
 qual:ByteArray
 ts:Int
 kind:Int
 val:ByteArray
structure Ent.ok (e:Ent):Prop where
 row:e.row.size≤maxLen
 fam:e.fam.size≤maxLen
 qual:e.qual.size≤maxLen
 val:e.val.size≤maxLen
 ts:(Lit.int .u64 e.ts).wf=true
 kind:(Lit.int .i64 e.kind).wf=true
end Go.Proofs.YtgnpcenpcmdlfaaGreatDoor
namespace Go.Proofs.YtgnpcenpcmdlfaaGreatDoor
open Go.ChangeShapes Go.WideShapes Go.ChangeAt Go.RowKit Go.Deep
end Go.Proofs.YtgnpcenpcmdlfaaGreatDoor
namespace Go.Proofs.YtgnpcenpcmdlfaaGreatDoor
open Go.ChangeShapes Go.WideShapes Go.ChangeAt Go.RowKit Go.Deep
set_option linter.unusedVariables false
def digF:Nat→Nat→List UInt8
 |0,_=> []
 |f+1,k=>if k=0 then []else digF f (k/10)++ [UInt8.ofNat (48+k%10)]
theorem digF_zero (f:Nat):digF f 0= []:=by cases f<;>simp[digF]
theorem digF_more:∀(f k:Nat),k≤f→digF f k=digF k k
 |0,k,h=>by rw[show k=0 by omega]
 |f+1,k,h=>by
  by_cases h0:k=0
  ·subst h0;rw[digF_zero,digF_zero]
  ·obtain⟨j,rfl⟩:∃j,k=j+1:=⟨k-1,by omega⟩
   have h1:(j+1)/10≤j:=by omega
   unfold digF
   rw[if_neg h0,if_neg h0,digF_more f _ (by omega),digF_more j _ h1]
def dig (k:Nat):List UInt8:=digF k k
theorem dig_step {k:Nat} (h:0<k):dig k=dig (k/10)++ [UInt8.ofNat (48+k%10)]:=by
 obtain⟨j,rfl⟩:∃j,k=j+1:=⟨k-1,by omega⟩
 show digF (j+1) (j+1)=_
 rw[digF,if_neg (by omega),digF_more j _ (by omega)];rfl
def mText (k:Nat):ByteArray:=⟨(109::dig k).toArray⟩
theorem mText_eq {k:Nat} {out:ByteArray} (h:dig k=out.data.toList):mText k=⟨#[109]⟩++out:=by
 obtain⟨a⟩:=out
 unfold mText
 rw[ByteArray.mk_append_mk,h]
 simp
set_option maxHeartbeats 400000 in
set_option maxRecDepth 100000 in
theorem markText_nat (k:Nat) (w:World) (h0:0<k) (h1:k≤2^40):
  Calls Tryz.prog 98 #[.int .i64 k] w fun e w'=>e=.returned (.string (mText k))∧Below w.heap.size w w':=by
 go_enter Tryz.func98,Tryz.ntmps98
 go_wp2
 go_loopw[0,3] (fun c o wr=>∃(j:Nat) (out:ByteArray),c=.int .i64 j∧j+out.size≤k∧o=.string out∧dig k=dig j++out.data.toList∧Below w.heap.size w wr) (fun c _ _=>(intOf c).toNat)
 case atStart=>exact⟨k,⟨#[]⟩,rfl,Nat.le_refl _,rfl,by simp,Below.refl _ _⟩
 case round=>
  obtain⟨j,out,rfl,hj,rfl,hd,hb⟩:=hrel
  have HD:Hid (dig k=dig j++out.data.toList):=hd
  clear hd
  by_cases hp:0<j
  ·obtain⟨d,hd⟩:=qE (UInt8.ofNat (48+j%10):UInt8)
   have hdn:(d.toNat:Int)=48+(j:Int)%10:=by
    rw[hd,UInt8.toNat_ofNat']
    omega
   have hcv:((convert 22 9 (.slice (some ⟨wr.heap.size,0,none⟩) 1 1)).run Tryz.prog (wr.alloc (Obj.cells #[.int .u8 (48+(j:Int)%10)] 5)))=.ok (.string ⟨#[d]⟩) (wr.alloc (Obj.cells #[.int .u8 (48+(j:Int)%10)] 5)):=by
    refine run_convert_bytes_back (P:=Tryz.prog) (wr.alloc (Obj.cells #[.int .u8 (48+(j:Int)%10)] 5)) 22 9 5 ⟨wr.heap.size,0,none⟩ 1 [d] Tryz.underlying22 Tryz.underlying5 Tryz.underlying9 ?_
    intro i hi
    obtain rfl:i=0:=by simpa using hi
    simp[Addr.add,hdn]
   have HN:Hid (d=UInt8.ofNat (48+j%10)):=hd
   clear hd hdn
   go_wp2_with fail
   refine⟨⟨j/10,⟨#[d]⟩++out,by go_num,?_,rfl,?_,hb.alloc hb.size _⟩,?_⟩
   ·go_light
    rw[ByteArray.size_append]
    show j/10+(1+out.size)≤k
    omega
   ·go_light
    rw[HD.out,dig_step hp,HN.out]
    simp
   ·go_light
    simp[intOf];omega
  ·go_wp2_with fail
   go_ret
   refine⟨?_,hb⟩
   have e:mText k=⟨#[109]⟩++out:=mText_eq (by rw[HD.out,show j=0 by omega];rfl)
   rw[e];rfl
theorem markText_any (a:Int) (w:World) (h0:0<a) (h1:a≤2^40):
  Calls Tryz.prog 98 #[.int .i64 a] w fun e w'=>e=.returned (.string (mText a.toNat))∧Below w.heap.size w w':=by
 obtain⟨k,rfl⟩:=Int.eq_ofNat_of_zero_le (by omega:0≤a)
 rw[Int.toNat_natCast]
 exact markText_nat k w (by omega) (by omega)
def mEnt (k:Int):Ent:=⟨mText k.toNat,mText (k+1).toNat,mText (k+1+1).toNat,k+1+1+1,k+1+1+1+1,mText (k+1+1+1+1+1).toNat⟩
def marked (k:Int) (es:List Ent) (i:Nat):Prop:=∀j:Nat,j<i→es[j]?=some (mEnt (k+j*6))
theorem grown_of_below {w w':World} (h:Below w.heap.size w w') (r:Option Nat):w.grownBy w' r:=⟨h.os,h.tape,h.output,h.size,fun k hk _=>h.block k hk⟩
theorem grown_set (w:World) (g o:Nat) (u:Value):w.grownBy (w.setCell ⟨g,o,none⟩ u) (some g):=by
 have h:Below g w (w.setCell ⟨g,o,none⟩ u):=(Below.refl g w).setCell (Nat.le_refl _) u
 exact⟨h.os,h.tape,h.output,h.size,fun k hk hne=>Below.heap_setCell w ⟨g,o,none⟩ u k (fun e=>hne (by rw[e]))⟩
end Go.Proofs.YtgnpcenpcmdlfaaGreatDoor
namespace Go.Proofs.YtgnpcenpcmdlfaaGreatDoor
open Go.ChangeShapes Go.WideShapes Go.ChangeAt Go.RowKit Go.Deep
set_option linter.unusedVariables false
set_option linter.unusedSimpArgs false
structure Chg (S:Nat→Prop) (w w':World):Prop where
 os:w'.os=w.os
 tape:w'.tape=w.tape
 output:w'.output=w.output
 size:w.heap.size≤w'.heap.size
 block:∀k,k<w.heap.size→¬S k→w'.heap[k]?=w.heap[k]?
theorem Chg.refl (S:Nat→Prop) (w:World):Chg S w w:=⟨rfl,rfl,rfl,Nat.le_refl _,fun _ _ _=>rfl⟩
theorem Chg.trans {S:Nat→Prop} {a b c:World} (h:Chg S a b) (k:Chg S b c):Chg S a c:=
 ⟨k.os.trans h.os,k.tape.trans h.tape,k.output.trans h.output,Nat.le_trans h.size k.size,fun i hi hn=>(k.block i (Nat.lt_of_lt_of_le hi h.size) hn).trans (h.block i hi hn)⟩
theorem Chg.mono {S T:Nat→Prop} {w w':World} (h:Chg S w w') (hs:∀k,S k→T k):Chg T w w':=⟨h.os,h.tape,h.output,h.size,fun k hk hn=>h.block k hk (fun q=>hn (hs k q))⟩
theorem Chg.of_below {S:Nat→Prop} {w w':World} (h:Below w.heap.size w w'):Chg S w w':=⟨h.os,h.tape,h.output,h.size,fun k hk _=>h.block k hk⟩
theorem Chg.of_grown {S:Nat→Prop} {w w':World} {row:Option Nat} (h:w.grownBy w' row) (hs:∀k,row=some k→S k):Chg S w w':=
 ⟨h.os,h.tape,h.output,h.size,fun k hk hn=>h.block k hk (fun q=>hn (hs k q.symm))⟩
theorem Chg.of_set {S:Nat→Prop} (w:World) (g o:Nat) (u:Value) (hs:S g):Chg S w (w.setCell ⟨g,o,none⟩ u):=Chg.of_grown (grown_set w g o u) (fun k hk=>by cases hk;exact hs)
theorem Chg.below {S:Nat→Prop} {B:Nat} {a w w':World} (h:Below B a w) (k:Chg S w w') (hB:B≤w.heap.size) (hs:∀k,S k→B≤k):Below B a w':=
 h.trans ⟨k.os,k.tape,k.output,k.size,fun i hi=>k.block i (by omega) (fun q=>by have:=hs i q;omega)⟩
theorem Chg.cell {S:Nat→Prop} {w w':World} (h:Chg S w w') {p:Addr} (hp:p.block<w.heap.size) (hn:¬S p.block):w'.cell? p=w.cell? p:=World.cell?_of_block (w:=w) (h.block p.block hp hn)
theorem Chg.frozen {S:Nat→Prop} {w w':World} (h:Chg S w w') {p:Addr} (hp:p.block<w.heap.size) (hn:¬S p.block):w'.frozen? p=w.frozen? p:=World.frozen?_of_block (w:=w) (h.block p.block hp hn)
theorem own_chg {S:Nat→Prop} {w w':World} {base e size:Nat} {v:Value} {n:Nat} {xs:List Value} (h:w.ownsRow base e size v n xs) (hb:Chg S w w') (hn:∀k,v.ownBlock=some k→¬S k):w'.ownsRow base e size v n xs:=by
 refine⟨h.1,?_⟩
 rcases h.2 with hz|⟨g,cap,cur,rfl,h1,hg,rest⟩
 ·exact .inl hz
 ·refine .inr ⟨g,cap,cur,rfl,h1,?_,rest⟩
  have hlt:g<w.heap.size:=by
   rcases Nat.lt_or_ge g w.heap.size with q|q
   ·exact q
   ·rw[Array.getElem?_eq_none q]at hg;cases hg
  rw[hb.block g hlt (hn g rfl)];exact hg
end Go.Proofs.YtgnpcenpcmdlfaaGreatDoor
namespace Go.Proofs.YtgnpcenpcmdlfaaGreatDoor
open Go.ChangeShapes Go.WideShapes Go.ChangeAt Go.RowKit Go.Deep
set_option linter.unusedVariables false
def BoxAt (w:World) (base t sz g:Nat) (vs:List Value):Prop:=w.ownsRow base t sz (.slice (some ⟨g,0,none⟩) 1 1) 1 vs
theorem BoxAt.len {w:World} {base t sz g:Nat} {vs:List Value} (h:BoxAt w base t sz g vs):vs.length=sz:=by have:=h.1;omega
theorem BoxAt.lt {w:World} {base t sz g:Nat} {vs:List Value} (h:BoxAt w base t sz g vs):base≤g∧g<w.heap.size:=World.ownsRow.lt h g rfl
theorem BoxAt.chg {S:Nat→Prop} {w w':World} {base t sz g:Nat} {vs:List Value} (h:BoxAt w base t sz g vs) (hc:Chg S w w') (hn:¬S g):BoxAt w' base t sz g vs:=own_chg h hc (fun k q=>by simp[Value.ownBlock]at q;subst q;exact hn)
theorem BoxAt.below {w w':World} {base t sz g:Nat} {vs:List Value} (h:BoxAt w base t sz g vs) (hb:Below w.heap.size w w'):BoxAt w' base t sz g vs:=h.chg (Chg.of_below hb) (S:=fun _=>False) (fun q=>q)
theorem BoxAt.cell {w:World} {base t sz g:Nat} {vs:List Value} (h:BoxAt w base t sz g vs) {j:Nat} {v:Value} (hv:vs[j]?=some v):w.cell? ⟨g,j,none⟩=some v:=by
 have hj:=(List.getElem?_eq_some_iff.1 hv).1
 rw[World.ownsRow.cellAt h j (by have:=h.len;omega),hv]
theorem BoxAt.frozen {w:World} {base t sz g:Nat} {vs:List Value} (h:BoxAt w base t sz g vs) (j:Nat):w.frozen? ⟨g,j,none⟩=false:=World.ownsRow.frozenAt h j
theorem BoxAt.set {w:World} {base t sz g:Nat} {vs:List Value} (h:BoxAt w base t sz g vs) (j:Nat) (u:Value):BoxAt (w.setCell ⟨g,j,none⟩ u) base t sz g (vs.set j u):=(World.ownsRow.stored h j u).1
theorem BoxAt.beside {w:World} {base t sz g:Nat} {vs:List Value} (h:BoxAt w base t sz g vs) {k:Nat} (hk:¬g=k) (j:Nat) (u:Value):BoxAt (w.setCell ⟨k,j,none⟩ u) base t sz g vs:=h.chg (Chg.of_set w k j u (S:=fun q=>q=k) rfl) hk
theorem boxAt_new (w:World) {base t sz:Nat} (cs:Array Value) (hb:base≤w.heap.size) (hs:cs.size=sz):BoxAt (w.alloc (.cells cs t)) base t sz w.heap.size cs.toList:=
 World.ownsRow_lit w cs 1 hb (by decide) (by omega)
theorem below_set {B:Nat} {a w:World} (h:Below B a w) {k:Nat} (hk:B≤k) (j:Nat) (u:Value):Below B a (w.setCell ⟨k,j,none⟩ u):=h.setCell (p:=⟨k,j,none⟩) hk u
theorem BoxAt.c2 {w:World} {base t sz g:Nat} {v0 v1:Value} {r:List Value} (h:BoxAt w base t sz g (v0::v1::r)):w.cell? ⟨g,0,none⟩=some v0∧w.cell? ⟨g,1,none⟩=some v1:=
 ⟨h.cell (j:=0) rfl,h.cell (j:=1) rfl⟩
theorem BoxAt.c3 {w:World} {base t sz g:Nat} {v0 v1 v2:Value} {r:List Value} (h:BoxAt w base t sz g (v0::v1::v2::r)):w.cell? ⟨g,0,none⟩=some v0∧w.cell? ⟨g,1,none⟩=some v1∧w.cell? ⟨g,2,none⟩=some v2:=
 ⟨h.cell (j:=0) rfl,h.cell (j:=1) rfl,h.cell (j:=2) rfl⟩
theorem BoxAt.c4 {w:World} {base t sz g:Nat} {v0 v1 v2 v3:Value} {r:List Value} (h:BoxAt w base t sz g (v0::v1::v2::v3::r)):w.cell? ⟨g,0,none⟩=some v0∧w.cell? ⟨g,1,none⟩=some v1∧w.cell? ⟨g,2,none⟩=some v2∧w.cell? ⟨g,3,none⟩=some v3:=
 ⟨h.cell (j:=0) rfl,h.cell (j:=1) rfl,h.cell (j:=2) rfl,h.cell (j:=3) rfl⟩
theorem BoxAt.c5 {w:World} {base t sz g:Nat} {v0 v1 v2 v3 v4:Value} {r:List Value} (h:BoxAt w base t sz g (v0::v1::v2::v3::v4::r)):w.cell? ⟨g,0,none⟩=some v0∧w.cell? ⟨g,1,none⟩=some v1∧w.cell? ⟨g,2,none⟩=some v2∧w.cell? ⟨g,3,none⟩=some v3∧w.cell? ⟨g,4,none⟩=some v4:=
 ⟨h.cell (j:=0) rfl,h.cell (j:=1) rfl,h.cell (j:=2) rfl,h.cell (j:=3) rfl,h.cell (j:=4) rfl⟩
theorem BoxAt.c6 {w:World} {base t sz g:Nat} {v0 v1 v2 v3 v4 v5:Value} {r:List Value} (h:BoxAt w base t sz g (v0::v1::v2::v3::v4::v5::r)):w.cell? ⟨g,0,none⟩=some v0∧w.cell? ⟨g,1,none⟩=some v1∧w.cell? ⟨g,2,none⟩=some v2∧w.cell? ⟨g,3,none⟩=some v3∧w.cell? ⟨g,4,none⟩=some v4∧w.cell? ⟨g,5,none⟩=some v5:=
 ⟨h.cell (j:=0) rfl,h.cell (j:=1) rfl,h.cell (j:=2) rfl,h.cell (j:=3) rfl,h.cell (j:=4) rfl,h.cell (j:=5) rfl⟩
theorem BoxAt.c7 {w:World} {base t sz g:Nat} {v0 v1 v2 v3 v4 v5 v6:Value} {r:List Value} (h:BoxAt w base t sz g (v0::v1::v2::v3::v4::v5::v6::r)):w.cell? ⟨g,0,none⟩=some v0∧w.cell? ⟨g,1,none⟩=some v1∧w.cell? ⟨g,2,none⟩=some v2∧w.cell? ⟨g,3,none⟩=some v3∧w.cell? ⟨g,4,none⟩=some v4∧w.cell? ⟨g,5,none⟩=some v5∧w.cell? ⟨g,6,none⟩=some v6:=
 ⟨h.cell (j:=0) rfl,h.cell (j:=1) rfl,h.cell (j:=2) rfl,h.cell (j:=3) rfl,h.cell (j:=4) rfl,h.cell (j:=5) rfl,h.cell (j:=6) rfl⟩
theorem BoxAt.c8 {w:World} {base t sz g:Nat} {v0 v1 v2 v3 v4 v5 v6 v7:Value} {r:List Value} (h:BoxAt w base t sz g (v0::v1::v2::v3::v4::v5::v6::v7::r)):w.cell? ⟨g,0,none⟩=some v0∧w.cell? ⟨g,1,none⟩=some v1∧w.cell? ⟨g,2,none⟩=some v2∧w.cell? ⟨g,3,none⟩=some v3∧w.cell? ⟨g,4,none⟩=some v4∧w.cell? ⟨g,5,none⟩=some v5∧w.cell? ⟨g,6,none⟩=some v6∧w.cell? ⟨g,7,none⟩=some v7:=
 ⟨h.cell (j:=0) rfl,h.cell (j:=1) rfl,h.cell (j:=2) rfl,h.cell (j:=3) rfl,h.cell (j:=4) rfl,h.cell (j:=5) rfl,h.cell (j:=6) rfl,h.cell (j:=7) rfl⟩
theorem BoxAt.c9 {w:World} {base t sz g:Nat} {v0 v1 v2 v3 v4 v5 v6 v7 v8:Value} {r:List Value} (h:BoxAt w base t sz g (v0::v1::v2::v3::v4::v5::v6::v7::v8::r)):w.cell? ⟨g,0,none⟩=some v0∧w.cell? ⟨g,1,none⟩=some v1∧w.cell? ⟨g,2,none⟩=some v2∧w.cell? ⟨g,3,none⟩=some v3∧w.cell? ⟨g,4,none⟩=some v4∧w.cell? ⟨g,5,none⟩=some v5∧w.cell? ⟨g,6,none⟩=some v6∧w.cell? ⟨g,7,none⟩=some v7∧w.cell? ⟨g,8,none⟩=some v8:=
 ⟨h.cell (j:=0) rfl,h.cell (j:=1) rfl,h.cell (j:=2) rfl,h.cell (j:=3) rfl,h.cell (j:=4) rfl,h.cell (j:=5) rfl,h.cell (j:=6) rfl,h.cell (j:=7) rfl,h.cell (j:=8) rfl⟩
theorem BoxAt.c10 {w:World} {base t sz g:Nat} {v0 v1 v2 v3 v4 v5 v6 v7 v8 v9:Value} {r:List Value} (h:BoxAt w base t sz g (v0::v1::v2::v3::v4::v5::v6::v7::v8::v9::r)):w.cell? ⟨g,0,none⟩=some v0∧w.cell? ⟨g,1,none⟩=some v1∧w.cell? ⟨g,2,none⟩=some v2∧w.cell? ⟨g,3,none⟩=some v3∧w.cell? ⟨g,4,none⟩=some v4∧w.cell? ⟨g,5,none⟩=some v5∧w.cell? ⟨g,6,none⟩=some v6∧w.cell? ⟨g,7,none⟩=some v7∧w.cell? ⟨g,8,none⟩=some v8∧w.cell? ⟨g,9,none⟩=some v9:=
 ⟨h.cell (j:=0) rfl,h.cell (j:=1) rfl,h.cell (j:=2) rfl,h.cell (j:=3) rfl,h.cell (j:=4) rfl,h.cell (j:=5) rfl,h.cell (j:=6) rfl,h.cell (j:=7) rfl,h.cell (j:=8) rfl,h.cell (j:=9) rfl⟩
theorem BoxAt.c11 {w:World} {base t sz g:Nat} {v0 v1 v2 v3 v4 v5 v6 v7 v8 v9 v10:Value} {r:List Value} (h:BoxAt w base t sz g (v0::v1::v2::v3::v4::v5::v6::v7::v8::v9::v10::r)):w.cell? ⟨g,0,none⟩=some v0∧w.cell? ⟨g,1,none⟩=some v1∧w.cell? ⟨g,2,none⟩=some v2∧w.cell? ⟨g,3,none⟩=some v3∧w.cell? ⟨g,4,none⟩=some v4∧w.cell? ⟨g,5,none⟩=some v5∧w.cell? ⟨g,6,none⟩=some v6∧w.cell? ⟨g,7,none⟩=some v7∧w.cell? ⟨g,8,none⟩=some v8∧w.cell? ⟨g,9,none⟩=some v9∧w.cell? ⟨g,10,none⟩=some v10:=
 ⟨h.cell (j:=0) rfl,h.cell (j:=1) rfl,h.cell (j:=2) rfl,h.cell (j:=3) rfl,h.cell (j:=4) rfl,h.cell (j:=5) rfl,h.cell (j:=6) rfl,h.cell (j:=7) rfl,h.cell (j:=8) rfl,h.cell (j:=9) rfl,h.cell (j:=10) rfl⟩
theorem BoxAt.c12 {w:World} {base t sz g:Nat} {v0 v1 v2 v3 v4 v5 v6 v7 v8 v9 v10 v11:Value} {r:List Value} (h:BoxAt w base t sz g (v0::v1::v2::v3::v4::v5::v6::v7::v8::v9::v10::v11::r)):w.cell? ⟨g,0,none⟩=some v0∧w.cell? ⟨g,1,none⟩=some v1∧w.cell? ⟨g,2,none⟩=some v2∧w.cell? ⟨g,3,none⟩=some v3∧w.cell? ⟨g,4,none⟩=some v4∧w.cell? ⟨g,5,none⟩=some v5∧w.cell? ⟨g,6,none⟩=some v6∧w.cell? ⟨g,7,none⟩=some v7∧w.cell? ⟨g,8,none⟩=some v8∧w.cell? ⟨g,9,none⟩=some v9∧w.cell? ⟨g,10,none⟩=some v10∧w.cell? ⟨g,11,none⟩=some v11:=
 ⟨h.cell (j:=0) rfl,h.cell (j:=1) rfl,h.cell (j:=2) rfl,h.cell (j:=3) rfl,h.cell (j:=4) rfl,h.cell (j:=5) rfl,h.cell (j:=6) rfl,h.cell (j:=7) rfl,h.cell (j:=8) rfl,h.cell (j:=9) rfl,h.cell (j:=10) rfl,h.cell (j:=11) rfl⟩
end Go.Proofs.YtgnpcenpcmdlfaaGreatDoor
namespace Go.Proofs.YtgnpcenpcmdlfaaGreatDoor
open Go.ChangeShapes Go.WideShapes Go.ChangeAt Go.RowKit Go.Deep
set_option linter.unusedVariables false
set_option linter.unusedSimpArgs false
set_option maxRecDepth 100000
structure Nd.ok (e:Nd):Prop where
 s:e.s.size≤maxLen
 t:e.t.size≤maxLen
 kind:(Lit.int .i64 e.kind).wf=true
 lo:(Lit.int .u64 e.lo).wf=true
 up:(Lit.int .u64 e.up).wf=true
 n:(Lit.int .i64 e.n).wf=true
abbrev Nd.seven (e:Nd):List Value:= [.int .i64 e.kind,.string e.s,.bool e.hi,.string e.t,.int .u64 e.lo,.int .u64 e.up,.int .i64 e.n]
abbrev Nd.v (e:Nd):Value:=.agg #[.int .i64 e.kind,.string e.s,.bool e.hi,.string e.t,.int .u64 e.lo,.int .u64 e.up,.int .i64 e.n]
def cellsN (es:List Nd):List Value:=es.flatMap Nd.seven
theorem cellsN_cons (e:Nd) (es:List Nd):cellsN (e::es)=e.seven++cellsN es:=by simp[cellsN]
theorem length_cellsN (es:List Nd):(cellsN es).length=es.length*7:=by
 induction es with
 |nil=>rfl
 |cons e es ih=>rw[cellsN_cons,List.length_append,ih];simp;omega
theorem cellsN_get (es:List Nd):∀(k:Nat) (e:Nd),es[k]?=some e→∀j,j<7→(cellsN es)[k*7+j]?=e.seven[j]?:=by
 induction es with
 |nil=>intro k e h;simp at h
 |cons f es ih=>
  intro k e h j hj
  rw[cellsN_cons]
  cases k with
  |zero=>
   simp at h;subst h
   rw[List.getElem?_append_left (by show 0*7+j<7;omega)]
   simp
  |succ k=>
   simp at h
   rw[List.getElem?_append_right (by show 7≤(k+1)*7+j;omega)]
   have:(k+1)*7+j-f.seven.length=k*7+j:=by show(k+1)*7+j-7=_;omega
   rw[this];exact ih k e h j hj
theorem cellsN_set (es:List Nd):∀(k:Nat) (e e':Nd) (u:Value) (j:Nat),es[k]?=some e→j<7→e'.seven=e.seven.set j u→(cellsN es).set (k*7+j) u=cellsN (es.set k e'):=by
 induction es with
 |nil=>intro k e e' u j h;simp at h
 |cons f es ih=>
  intro k e e' u j h hj hc
  rw[cellsN_cons]
  cases k with
  |zero=>
   simp at h;subst h
   rw[List.set_append_left _ _ (by show 0*7+j<7;omega),List.set_cons_zero,cellsN_cons,hc]
   simp
  |succ k=>
   simp at h
   rw[List.set_append_right _ _ (by show 7≤(k+1)*7+j;omega),List.set_cons_succ,cellsN_cons]
   have:(k+1)*7+j-f.seven.length=k*7+j:=by show(k+1)*7+j-7=_;omega
   rw[this,ih k e e' u j h hj hc]
def NdsAt (w:World) (b off:Nat) (es:List Nd):Prop:=
 ∀i e,es[i]?=some e→w.cell? ⟨b,off+i*7,none⟩=some (.int .i64 e.kind)∧w.cell? ⟨b,off+i*7+1,none⟩=some (.string e.s)∧w.cell? ⟨b,off+i*7+2,none⟩=some (.bool e.hi)∧w.cell? ⟨b,off+i*7+3,none⟩=some (.string e.t)∧w.cell? ⟨b,off+i*7+4,none⟩=some (.int .u64 e.lo)∧w.cell? ⟨b,off+i*7+5,none⟩=some (.int .u64 e.up)∧w.cell? ⟨b,off+i*7+6,none⟩=some (.int .i64 e.n)
theorem NdsAt.below {B:Nat} {w w':World} {b off:Nat} {es:List Nd} (h:NdsAt w b off es) (hb:Below B w w') (hlt:b<B):NdsAt w' b off es:=by
 intro i e he
 have:=h i e he
 refine⟨?_,?_,?_,?_,?_,?_,?_⟩
 all_goals rw[hb.cell (by exact hlt)]
 ·exact this.1
 ·exact this.2.1
 ·exact this.2.2.1
 ·exact this.2.2.2.1
 ·exact this.2.2.2.2.1
 ·exact this.2.2.2.2.2.1
 ·exact this.2.2.2.2.2.2
def OwnNd (w:World) (base g cap:Nat) (es:List Nd):Prop:=w.ownsRow base 65 7 (.slice (some ⟨g,0,none⟩) es.length cap) es.length (cellsN es)
theorem OwnNd.at {w:World} {base g cap:Nat} {es:List Nd} (h:OwnNd w base g cap es):NdsAt w g 0 es:=by
 intro i e he
 have hi:i<es.length:=(List.getElem?_eq_some_iff.1 he).1
 have c:=fun j (hj:j<7)=>(World.ownsRow.cellAt h (i*7+j) (by omega)).trans (cellsN_get es i e he j hj)
 refine⟨?_,?_,?_,?_,?_,?_,?_⟩
 ·simpa using c 0 (by omega)
 ·simpa using c 1 (by omega)
 ·simpa using c 2 (by omega)
 ·simpa using c 3 (by omega)
 ·simpa using c 4 (by omega)
 ·simpa using c 5 (by omega)
 ·simpa using c 6 (by omega)
theorem OwnNd.lt {w:World} {base g cap:Nat} {es:List Nd} (h:OwnNd w base g cap es):base≤g∧g<w.heap.size:=World.ownsRow.lt h g rfl
theorem OwnNd.below {B:Nat} {w w':World} {base g cap:Nat} {es:List Nd} (h:OwnNd w base g cap es) (hb:Below B w w') (hg:g<B):OwnNd w' base g cap es:=by
 refine⟨h.1,?_⟩
 rcases h.2 with hn|⟨g',cap',cur,hv,h1,h2,rest⟩
 ·exact .inl hn
 ·simp only[Value.slice.injEq,Option.some.injEq,Addr.mk.injEq,and_true,true_and]at hv
  obtain⟨rfl,rfl⟩:=hv
  exact .inr ⟨g,cap,cur,rfl,h1,by rw[hb.block g hg];exact h2,rest⟩
theorem OwnNd.mono {w:World} {base base' g cap:Nat} {es:List Nd} (h:OwnNd w base g cap es) (hb:base'≤base):OwnNd w base' g cap es:=by
 refine⟨h.1,?_⟩
 rcases h.2 with hn|⟨g',cap',cur,hv,h1,rest⟩
 ·exact .inl hn
 ·exact .inr ⟨g',cap',cur,hv,Nat.le_trans hb h1,rest⟩
theorem OwnNd.caps {w:World} {base g cp:Nat} {R:List Nd} (h:OwnNd w base g cp R):R.length≤cp∧cp≤maxLen:=by
 rcases h.2 with⟨h0,_⟩|⟨g',cap',cur,hv,_,_,hn,hcap,_,_⟩
 ·cases h0
 ·simp only[Value.slice.injEq,Option.some.injEq,Addr.mk.injEq,and_true,true_and]at hv
  obtain⟨rfl,rfl⟩:=hv
  exact⟨hn,hcap⟩
theorem OwnNd.set {w:World} {base g cap:Nat} {es:List Nd} (h:OwnNd w base g cap es) (k j:Nat) (e e':Nd) (u:Value) (hk:es[k]?=some e) (hj:j<7) (hc:e'.seven=e.seven.set j u):
  OwnNd (w.setCell ⟨g,k*7+j,none⟩ u) base g cap (es.set k e'):=by
 have:=(World.ownsRow.stored h (k*7+j) u).1
 rw[cellsN_set es k e e' u j hk hj hc]at this
 unfold OwnNd
 rw[List.length_set]
 exact this
theorem Tryz.infoNd:(Tryz.prog.info? 65).map (fun i=>(i.zero,i.size,i.bytes))=some (some (.agg #[.int .i64 0,.string ⟨#[]⟩,.bool false,.string ⟨#[]⟩,.int .u64 0,.int .u64 0,.int .i64 0]),7,72):=by kernel_rfl
set_option maxHeartbeats 400000 in
theorem eqNode_same (e:Nd) (w:World):Calls Tryz.prog 97 #[e.v,e.v] w fun r w'=>r=.returned (.bool true)∧Below w.heap.size w w':=by
 go_enter Tryz.func97,Tryz.ntmps97
 go_wp2
 go_ret
 exact⟨rfl,(qB).alloc (by simp) _⟩
end Go.Proofs.YtgnpcenpcmdlfaaGreatDoor
namespace Go.Proofs.YtgnpcenpcmdlfaaGreatDoor
open Go.ChangeShapes Go.WideShapes Go.ChangeAt Go.RowKit Go.Deep
set_option linter.unusedVariables false
set_option linter.unusedSimpArgs false
variable {P:Program} {C:World→Prop}
def fk (m:Value) (o:Oper):Oper:={o with op:=.move (.const m)}
def waitsB (pre:List Oper) (o:Oper) (tl:List Oper) (d:Tmp) (sl:List Tmp):Bool:=
 sl.all (fun s=>s != d && ((List.range pre.length).all (fun i=>match pre[i]? with
  |some oi=>oi.dst != some s || o.after.any (fun e=>Region.binds .any e && e.on==i)
  |none=>true) && tl.all (fun oi=>oi.dst != some s))) && pre.all (fun oi=>oi.dst != some d) && tl.all (fun oi=>oi.dst != some d && oi.after.any (fun e=>Region.binds .any e && Nat.ble pre.length e.on))
theorem get_part (pre tl:List Oper) (i:Nat):(pre++tl).toArray[i]?=if i<pre.length then pre[i]? else tl[i-pre.length]?:=by
 rw[List.getElem?_toArray]
 by_cases h:i<pre.length
 ·rw[if_pos h,List.getElem?_append_left h]
 ·rw[if_neg h,List.getElem?_append_right (by omega)]
theorem ready_fk (m:Value) (pre tl:List Oper) (listed:Array Bool):Region.ready .any (pre++tl.map (fk m)).toArray listed=Region.ready .any (pre++tl).toArray listed:=by
 unfold Region.ready
 have hz:(pre++tl.map (fk m)).toArray.size=(pre++tl).toArray.size:=by simp
 rw[hz]
 congr 1
 funext i
 rw[get_part,get_part]
 by_cases h:i<pre.length
 ·rw[if_pos h,if_pos h]
 ·rw[if_neg h,if_neg h,List.getElem?_map]
  cases tl[i-pre.length]?<;>rfl
theorem yielded_fk (m:Value) (pre tl:List Oper) (tmps:Array Value):yielded (pre++tl.map (fk m)).toArray tmps=yielded (pre++tl).toArray tmps:=by
 funext j
 unfold yielded
 rw[get_part,get_part]
 by_cases h:j<pre.length
 ·rw[if_pos h,if_pos h]
 ·rw[if_neg h,if_neg h,List.getElem?_map]
  cases tl[j-pre.length]?<;>rfl
theorem put_getD (a:Act) (dst:Option Tmp) (v:Value) (s:Tmp) (h:dst≠some s):(a.put dst v).tmps.getD s undef=a.tmps.getD s undef:=by
 cases dst with
 |none=>rfl
 |some t=>
  have hts:t≠s:=fun q=>h (by rw[q])
  show(a.tmps.setIfInBounds t v).getD s undef=_
  rw[Array.getD_eq_getD_getElem?,Array.getD_eq_getD_getElem?,Array.getElem?_setIfInBounds_ne hts]
theorem put_defers (a:Act) (dst:Option Tmp) (v:Value):(a.put dst v).defers=a.defers:=by cases dst<;>rfl
theorem listed_set (listed:Array Bool) (i j:Nat) (d:Bool) (h:listed.getD j d=true):(listed.setIfInBounds i true).getD j d=true:=by
 rw[Array.getD_eq_getD_getElem?]at h⊢
 by_cases q:i=j
 ·subst q
  rw[Array.getElem?_setIfInBounds_self]
  split
  ·rfl
  ·next hl=>rw[Array.getElem?_eq_none (by omega)]at h;exact h
 ·rw[Array.getElem?_setIfInBounds_ne q];exact h
theorem slot_end {ops:Array Oper} {Q:Act→Prop} (s:Tmp) (x:Value) (hQ:∀a,Q a→a.tmps.getD s undef=x):∀(fuel:Nat) (listed:Array Bool) (a:Act),wpAnyQ P .any ops C Q fuel listed a→
  (∀i oi,ops[i]?=some oi→oi.dst=some s→listed.getD i true=true)→a.tmps.getD s undef=x
 |0,listed,a,h,_=>hQ a h.2
 |fuel+1,listed,a,h,hl=>by
  cases hr:Region.ready .any ops listed with
  |nil=>exact hQ a (h.1 hr)
  |cons i rest=>
   have hi:i∈Region.ready .any ops listed:=by rw[hr];simp
   have hq:=h.2 i hi
   obtain⟨hun,oi,hoi,_⟩:=mem_ready.1 hi
   have hd:oi.dst≠some s:=fun e=>by
    have:=hl i oi hoi e
    rw[hun]at this;cases this
   have hl':∀j oj,ops[j]?=some oj→oj.dst=some s→(listed.setIfInBounds i true).getD j true=true:=fun j oj hj e=>listed_set _ _ _ _ (hl j oj hj e)
   unfold qOp at hq
   simp only[hoi]at hq
   split at hq
   ·obtain⟨v,_,h2⟩:=hq
    have:=slot_end s x hQ fuel _ _ h2 hl'
    rwa [put_getD _ _ _ _ hd]at this
   ·have:=slot_end s x hQ fuel _ _ hq hl'
    rwa [put_getD _ _ _ _ hd]at this
theorem any_of_fk {m:Value} {Q:Exit→Act→World→Prop} {pre tl:List Oper} {o:Oper} {D:List Deferred} (d:Tmp) (sl:List (Tmp×Value)) (hB2:waitsB pre o tl d (sl.map (·.1))=true) (hdst:o.dst=some d) (hg:o.guard=none)
  (hop:∀(a':Act) (w':World) (K:Act→World→Prop),C w'→a'.defers=D→(∀p∈sl,a'.tmps.getD p.1 undef=p.2)→o.wp P a' w' K Q):
  ∀(fuel:Nat) (listed:Array Bool) (a:Act) (w:World),wpAnyQ P .any (pre++(o::tl).map (fk m)).toArray C (fun a'=>a'.tmps.getD d undef=m∧∀p∈sl,a'.tmps.getD p.1 undef=p.2) fuel listed a→C w→
   a.tmps.getD d undef≠m→a.defers=D→(∀j,pre.length≤j→listed.getD j false=false)→wpAny P .any (pre++o::tl).toArray Q fuel listed a w
 |0,listed,a,w,h,_,hm,_,_=>absurd h.2.1 hm
 |fuel+1,listed,a,w,h,hw,hm,hD,hJ=>by
  have hB3:=hB2
  simp only[waitsB,Bool.and_eq_true,List.all_eq_true]at hB2
  obtain⟨⟨hS,hP⟩,hT⟩:=hB2
  refine⟨fun hr=>absurd (h.1 (by rw[ready_fk];exact hr)).1 hm,fun i hi=>?_⟩
  have hq:=h.2 i (by rw[ready_fk];exact hi)
  obtain⟨hun,oi,hoi,hdep⟩:=mem_ready.1 hi
  rw[get_part]at hoi
  unfold wpOp
  unfold qOp at hq
  rw[get_part]at hq⊢
  by_cases hlt:i<pre.length
  ·rw[if_pos hlt]at hoi hq⊢
   have hne:oi.dst≠some d:=by
    have:=hP oi (List.mem_of_getElem? hoi)
    simpa using this
   have hJ':∀j,pre.length≤j→(listed.setIfInBounds i true).getD j false=false:=by
    intro j hj
    have:=hJ j hj
    rw[Array.getD_eq_getD_getElem?]at this⊢
    rw[Array.getElem?_setIfInBounds_ne (by omega)]
    exact this
   simp only[hoi]at hq⊢
   rw[yielded_fk]at hq
   split
   ·next hwt=>
    rw[if_pos hwt]at hq
    obtain⟨v,h1,h2⟩:=hq
    refine .inl (Oper.wp_of_quiet (K:=fun a'=>wpAnyQ P .any (pre++(o::tl).map (fk m)).toArray C (fun a'=>a'.tmps.getD d undef=m∧∀p∈sl,a'.tmps.getD p.1 undef=p.2) fuel (listed.setIfInBounds i true) a'∧a'.tmps.getD d undef≠m∧a'.defers=D) hw ?_ ⟨v,h1,h2,by rw[put_getD _ _ _ _ hne];exact hm,by rw[put_defers];exact hD⟩)
    intro a' w' hw' hk
    exact any_of_fk d sl hB3 hdst hg hop fuel _ a' w' hk.1 hw' hk.2.1 hk.2.2 hJ'
   ·next hwt=>
    rw[if_neg hwt]at hq
    exact any_of_fk d sl hB3 hdst hg hop fuel _ _ w hq hw (by rw[put_getD _ _ _ _ hne];exact hm) (by rw[put_defers];exact hD) hJ'
  ·rw[if_neg hlt]at hoi hq⊢
   by_cases hn:i=pre.length
   ·rw[hn,Nat.sub_self]at hoi hq⊢
    simp only[List.getElem?_cons_zero,List.map_cons,Option.some.injEq]at hoi hq⊢
    have hw1:∀y,Region.wanted o y=true:=fun y=>by unfold Region.wanted;rw[hg]
    have hw2:∀y,Region.wanted (fk m o) y=true:=fun y=>by unfold Region.wanted;show(match o.guard with|none=>true|some (j,want)=>y j==some want)=true;rw[hg]
    simp only[hw1,hw2,if_true]at hq⊢
    obtain⟨v,_,h2⟩:=hq
    refine .inl (hop a w _ hw hD fun p hp=>?_)
    have hps:=hS p.1 (List.mem_map.2 ⟨p,hp,rfl⟩)
    have hpd:(some d:Option Tmp)≠some p.1:=by
     have:=hps.1
     intro q
     cases q
     simp at this
    have h3:=slot_end (C:=C) p.1 p.2 (fun a' h=>h.2 p hp) fuel _ _ h2 (by
     intro j oj hj e
     rw[get_part]at hj
     by_cases hjl:j<pre.length
     ·rw[if_pos hjl]at hj
      have h4:=hps.2.1 j (List.mem_range.2 hjl)
      simp only[hj,Bool.or_eq_true]at h4
      rcases h4 with h4|h4
      ·rw[e]at h4;simp at h4
      ·rw[Array.any_eq_true']at h4
       obtain⟨ed,hed,h5⟩:=h4
       simp only[Bool.and_eq_true,beq_iff_eq]at h5
       have h6:=hdep ed (by rw[←hoi];exact hed) h5.1
       rw[h5.2]at h6
       refine listed_set _ _ _ _ ?_
       rw[Array.getD_eq_getD_getElem?]at h6⊢
       cases hx:listed[j]? with
       |none=>rfl
       |some y=>rw[hx]at h6;exact h6
     ·rw[if_neg hjl]at hj
      obtain⟨k,hk⟩:∃k,j-pre.length=k:=⟨_,rfl⟩
      rw[hk,←List.map_cons,List.getElem?_map]at hj
      cases k with
      |zero=>
       simp only[List.getElem?_cons_zero,Option.map_some,Option.some.injEq]at hj
       rw[←hj]at e
       exact absurd (hdst.symm.trans e) hpd
      |succ k=>
       simp only[List.getElem?_cons_succ]at hj
       cases ht:tl[k]? with
       |none=>rw[ht]at hj;cases hj
       |some ot=>
        rw[ht]at hj
        simp only[Option.map_some,Option.some.injEq]at hj
        have h7:=hps.2.2 ot (List.mem_of_getElem? ht)
        rw[←hj]at e
        have e2:ot.dst=some p.1:=e
        rw[e2]at h7
        simp at h7)
    have hfd:(fk m o).dst=some d:=hdst
    rwa [hfd,put_getD _ _ _ _ hpd]at h3
   ·exfalso
    obtain⟨k,hk⟩:∃k,i-pre.length=k+1:=⟨i-pre.length-1,by omega⟩
    rw[hk]at hoi
    simp only[List.getElem?_cons_succ]at hoi
    have h8:=hT oi (List.mem_of_getElem? hoi)
    rw[Array.any_eq_true']at h8
    obtain⟨ed,hed,h9⟩:=h8.2
    simp only[Bool.and_eq_true]at h9
    have h10:=hdep ed hed h9.1
    rw[hJ ed.on (Nat.le_of_ble_eq_true h9.2)]at h10
    cases h10
theorem wp_region_dies {id:Nat} {Q:Exit→Act→World→Prop} {a:Act} {w:World} (pre:List Oper) (o:Oper) (tl:List Oper) (d:Tmp) (sl:List (Tmp×Value)) (l:List Oper) (hl:l=pre++o::tl) (hm:P.follows .mixedOrders=true) (hB:∀m,Region.lexB .any (pre++(o::tl).map (fk m)).toArray=true)
  (hB2:waitsB pre o tl d (sl.map (·.1))=true) (hdst:o.dst=some d) (hg:o.guard=none) (hC:C {w with drawn:=w.drawn+1})
  (h:∀m,wpQuiet P (pre++(o::tl).map (fk m)).toArray C (fun a'=>a'.tmps.getD d undef=m∧∀p∈sl,a'.tmps.getD p.1 undef=p.2) (pre++(o::tl).map (fk m)) a)
  (hop:∀(a':Act) (w':World) (K:Act→World→Prop),C w'→a'.defers=a.defers→(∀p∈sl,a'.tmps.getD p.1 undef=p.2)→o.wp P a' w' K Q):(Code.region id l.toArray true).wp P Q a w:=by
 subst hl
 obtain⟨m,h0⟩:∃m,a.tmps.getD d undef≠m:=by
  by_cases q:a.tmps.getD d undef=.bool true
  ·exact⟨.bool false,by rw[q];intro e;cases e⟩
  ·exact⟨.bool true,q⟩
 have hBm:=hB m
 simp only[Region.lexB,Bool.and_eq_true]at hBm
 refine wp_region_any hm ?_
 have h1:=wpAnyQ_lex (C:=C) (md:=.any) hBm.1 (pre++(o::tl).map (fk m)) 0 (Array.replicate (pre++(o::tl).map (fk m)).toArray.size false) a (by simp) (by simpa using hBm.2) (h m)
 have hz:(pre++o::tl).toArray.size=(pre++(o::tl).map (fk m)).length:=by simp
 rw[hz]
 have hz2:(pre++(o::tl).map (fk m)).toArray.size=(pre++(o::tl).map (fk m)).length:=by simp
 rw[hz2]at h1
 refine any_of_fk d sl hB2 hdst hg hop _ _ _ _ h1 hC h0 rfl ?_
 intro j _
 rw[Array.getD_eq_getD_getElem?,Array.getElem?_replicate]
 split<;>rfl
end Go.Proofs.YtgnpcenpcmdlfaaGreatDoor
namespace Go.Proofs.YtgnpcenpcmdlfaaGreatDoor
open Go.ChangeShapes Go.WideShapes Go.ChangeAt Go.RowKit Go.Deep
set_option linter.unusedVariables false
structure Out (w:World) where
 u:World
 out:Below w.heap.size w u
theorem wp_region_out {id:Nat} {Q:Exit→Act→World→Prop} {a:Act} {w:World} {l:List Oper} (hm:Tryz.prog.follows .mixedOrders=true) (hB:Region.lexB .any l.toArray=true)
  (h:wpQuiet Tryz.prog l.toArray (fun w'=>∃n:Out w,w'=n.u) (fun a'=>∀w',(∃n:Out w,w'=n.u)→Q .normal a' w') l a):(Code.region id l.toArray true).wp Tryz.prog Q a w:=
 wp_region_quiet (C:=fun w'=>∃n:Out w,w'=n.u) hm hB ⟨⟨_,(Below.refl _ _).drew⟩,rfl⟩ (by simpa using h)
theorem Calls.out_of {f:FuncId} {args:Array Value} {w:World} {n:Out w} {v:Value}
  (h:Calls Tryz.prog f args n.u fun e w'=>e=.returned v∧Below n.u.heap.size n.u w'):Calls Tryz.prog f args n.u fun e w''=>e=.returned v∧∃m:Out w,w''=m.u:=
 h.mono fun _ w' ⟨he,hb⟩=>⟨he,⟨w',n.out.trans (hb.mono n.out.size)⟩,rfl⟩
end Go.Proofs.YtgnpcenpcmdlfaaGreatDoor
namespace Go.Proofs.YtgnpcenpcmdlfaaGreatDoor
open Go.ChangeShapes Go.WideShapes Go.ChangeAt Go.RowKit Go.Deep
set_option linter.unusedVariables false
set_option linter.unusedSimpArgs false
set_option maxRecDepth 100000
abbrev pfV (c a:Int):Value:=.iface 46 (.agg #[.int .i64 c,.int .i64 a])
abbrev Pf (c a:Int):Ending:=.panicked [{v:=pfV c a,recovered:=false}]
abbrev sb (s:ByteArray):List UInt8:=s.data.toList
theorem sb_len (s:ByteArray):(sb s).length=s.size:=by simp[sb]
theorem sb_get {s:ByteArray} {i:Nat} {x:UInt8} (h:(sb s)[i]?=some x):∃hi:i<s.size,s[i]=x:=by
 have hi:=(List.getElem?_eq_some_iff.1 h).1
 rw[sb_len]at hi
 refine⟨hi,?_⟩
 rw[List.getElem?_eq_getElem (by rw[sb_len];exact hi)]at h
 exact Option.some.inj h
set_option maxHeartbeats 1000000 in
theorem stringsIndexByte_any (s:ByteArray) (c:UInt8) (w:World):
  Calls Tryz.prog 61 #[.string s,.int .u8 (c.toNat:Int)] w fun e w'=>e=.returned (.int .i64 (Lib.indexByte (sb s) c))∧w'=w:=by
 have H:Calls Tryz.prog 94 #[.string s,.int .u8 (c.toNat:Int)] w fun e w'=>e=.returned (.int .i64 (Lib.indexByte (sb s) c))∧w'=w:=by
  go_enter Tryz.func94,Tryz.ntmps94
  go_wp2
  rw[run_callFunc_extern Tryz.func113 (by kernel_rfl) (by kernel_rfl) (by kernel_rfl) (e:=Extern.BytealgIndexByte.indexByte) (by kernel_rfl),Lib.run_indexByteString]
  simp only[Result.andThen]
  rw[Oper.upon_value]
  go_wp2
  go_ret
  exact⟨by simp,rfl⟩
 go_enter Tryz.func61,Tryz.ntmps61
 go_wp2_with (go_at_call 94;refine H.mono ?_;rintro e w' ⟨rfl,rfl⟩)
 go_ret
 exact⟨rfl,rfl⟩
theorem indexByte_neg:∀(l:List UInt8) (c:UInt8),-1≤Lib.indexByte l c∧(0≤Lib.indexByte l c↔c∈l)
 | [],c=>by simp[Lib.indexByte]
 |b::l,c=>by
  have ih:=indexByte_neg l c
  unfold Lib.indexByte
  by_cases h:b=c
  ·subst h;simp
  ·have h2:¬c=b:=fun q=>h q.symm
   by_cases h3:Lib.indexByte l c= -1
   ·have h4:¬c∈l:=fun q=>by have:=ih.2.2 q;omega
    simp[h,h2,h3,h4]
   ·have h4:c∈l:=ih.2.1 (by omega)
    simp[h,h2,h3,h4]
    omega
abbrev PrAt (w:World) (base g:Nat) (p:ByteArray) (i o:Nat):Prop:=BoxAt w base 181 3 g [.string p,.int .i64 (i:Int),.int .i64 (o:Int)]
set_option maxHeartbeats 1000000 in
theorem pdem_yes (v:Value) (w:World):Calls Tryz.prog 143 #[v,.bool true] w fun e w'=>e=.returned (.tuple #[])∧w'=w:=by
 go_enter Tryz.func143,Tryz.ntmps143
 go_wp2_with fail
 go_end0
 exact⟨rfl,rfl⟩
set_option maxHeartbeats 1000000 in
theorem pdem_no {base g i o:Nat} {p:ByteArray} {w:World} (h:PrAt w base g p i o):Calls Tryz.prog 143 #[.pointer (some ⟨g,0,none⟩),.bool false] w fun e w'=>e=Pf 2 i∧w'=w:=by
 have c1:=h.cell (j:=1) rfl
 clear h
 go_enter Tryz.func143,Tryz.ntmps143
 go_wp2_with fail
 exact⟨rfl,rfl,rfl⟩
theorem pdem_core (c:Bool) {base g i o:Nat} {p:ByteArray} {w:World} (h:PrAt w base g p i o):Calls Tryz.prog 143 #[.pointer (some ⟨g,0,none⟩),.bool c] w fun e w'=>w'=w∧((c=true∧e=.returned (.tuple #[]))∨(c=false∧e=Pf 2 i)):=by
 cases c with
 |true=>exact(pdem_yes _ w).mono fun e w' ⟨he,hw⟩=>⟨hw,.inl ⟨rfl,he⟩⟩
 |false=>exact(pdem_no h).mono fun e w' ⟨he,hw⟩=>⟨hw,.inr ⟨rfl,he⟩⟩
def inB (p:List UInt8) (i:Nat) (l:List UInt8):Bool:=match p[i]? with|some c=>decide (c∈l)|none=>false
set_option maxHeartbeats 2000000 in
theorem pnextIn_core {base g i o:Nat} {p:ByteArray} (s:ByteArray) {w:World} (h:PrAt w base g p i o) (hp:p.size≤200):
  Calls Tryz.prog 160 #[.pointer (some ⟨g,0,none⟩),.string s] w fun e w'=>e=.returned (.bool (inB (sb p) i (sb s)))∧Below w.heap.size w w':=by
 have hlt:=h.lt.2
 obtain⟨c0,c1⟩:=h.c2
 have e0:∀n:Out w,n.u.cell? ⟨g,0,none⟩=some (.string p):=fun n=>(n.out.cell (p:=⟨g,0,none⟩) hlt).trans c0
 have e1:∀n:Out w,n.u.cell? ⟨g,1,none⟩=some (.int .i64 (i:Int)):=fun n=>(n.out.cell (p:=⟨g,1,none⟩) hlt).trans c1
 clear h c0 c1
 by_cases hi:i<p.size
 ·obtain⟨x,hx⟩:∃x,(sb p)[i]?=some x:=⟨_,List.getElem?_eq_getElem (by rw[sb_len];exact hi)⟩
  obtain⟨_,gx⟩:=sb_get hx
  have z1:(i:Int)<(p.size:Int):=by omega
  obtain⟨r,hr⟩:=qE (Lib.indexByte (sb s) x)
  have HR:Hid (r=Lib.indexByte (sb s) x∧inB (sb p) i (sb s)=decide (0≤r)):=by
   refine⟨hr,?_⟩
   unfold inB
   rw[hx,hr]
   exact decide_eq_decide.2 (indexByte_neg _ _).2.symm
  have HI:Hid (∀n:Out w,Calls Tryz.prog 61 #[.string s,.int .u8 (x.toNat:Int)] n.u fun e w'=>e=.returned (.int .i64 r)∧Below n.u.heap.size n.u w'):=fun n=>by
   rw[HR.1]
   exact(stringsIndexByte_any s x n.u).mono fun e w' ⟨he,hw⟩=>⟨he,hw▸Below.refl _ _⟩
  rw[HR.2]
  clear hx hr
  go_enter Tryz.func160,Tryz.ntmps160
  go_upto_region 1 with fail
  refine wp_region_out (by kernel_rfl) (by kernel_rfl) ?_
  repeat (go_big_quiet_step ((first|rfl|(go_at_call 61;exact Calls.out_of (HI.out _)))))
  refine wpQuiet_nil ?_
  rintro w1 ⟨⟨wx,hb1⟩,rfl⟩
  go_wp2_with fail
  go_ret
  exact⟨rfl,hb1⟩
 ·have z1:¬(i:Int)<(p.size:Int):=by omega
  have HR:inB (sb p) i (sb s)=false:=by
   unfold inB
   rw[List.getElem?_eq_none (by rw[sb_len];omega)]
  rw[HR]
  clear HR
  go_enter Tryz.func160,Tryz.ntmps160
  go_upto_region 1 with fail
  refine wp_region_out (by kernel_rfl) (by kernel_rfl) ?_
  repeat (go_big_quiet_step (rfl))
  refine wpQuiet_nil ?_
  rintro w1 ⟨⟨wx,hb1⟩,rfl⟩
  go_wp2_with fail
  go_ret
  exact⟨rfl,hb1⟩
theorem PrAt.next {w:World} {base g i o:Nat} {p:ByteArray} (h:PrAt w base g p i o):PrAt (w.setCell ⟨g,1,none⟩ (.int .i64 ((i:Int)+1))) base g p (i+1) o:=BoxAt.set h 1 (.int .i64 ((i:Int)+1))
set_option maxHeartbeats 2000000 in
theorem ptake_yes {base g i o:Nat} {p:ByteArray} {x:UInt8} {w:World} (h:PrAt w base g p i o) (hp:p.size≤200) (hx:(sb p)[i]?=some x):
  Calls Tryz.prog 166 #[.pointer (some ⟨g,0,none⟩)] w fun e w'=>e=.returned (.int .u8 (x.toNat:Int))∧PrAt w' base g p (i+1) o∧Chg (fun k=>k=g) w w':=by
 have HP:Hid (PrAt w base g p i o):=h
 obtain⟨hi,gx⟩:=sb_get hx
 obtain⟨c0,c1⟩:=h.c2
 have f1:=h.frozen 1
 have z1:(i:Int)<(p.size:Int):=by omega
 clear h hx
 go_enter Tryz.func166,Tryz.ntmps166
 go_upto_region 1 with fail
 go_quiet ((go_at_call 143;exact Calls.quiet_of_same (pdem_yes _ _)))
 go_upto_region 2 with fail
 obtain⟨W1,hW1⟩:=qE (w.drewN nq:World)
 have hb1:Below w.heap.size w W1:=by rw[hW1];exact below_drewN (Below.refl _ _) _
 have HP1:Hid (PrAt W1 base g p i o):=HP.below hb1
 rw[←hW1]
 clear hW1 c0 c1 f1
 obtain⟨c0,c1⟩:=HP1.c2
 have f1:=HP1.frozen 1
 go_quiet (rfl)
 go_wp2_with fail
 go_ret
 have hb2:Below w.heap.size w (W1.drewN nq):=hb1.trans ((below_drewN (Below.refl _ _) _).mono hb1.size)
 exact⟨rfl,PrAt.next (BoxAt.below HP.out hb2),(Chg.of_below hb2).trans (Chg.of_set _ g 1 _ rfl)⟩
theorem wp_region_pdem {id:Nat} {Q:Exit→Act→World→Prop} {a:Act} {w:World} {l:List Oper} {base g i o:Nat} {p:ByteArray} (d s c:Tmp) {tys:Array TypeId} {ty:TypeId} {pos:String} {aft:Array Edge} (hP:PrAt w base g p i o)
  (ho:l.getLast?=some ⟨some d,.call {callee:=.value (.func 143),args:=#[.tmp s,.tmp c],argTypes:=tys},ty,pos,aft,none⟩)
  (hB:∀m,Region.lexB .any (l.dropLast++ [fk m ⟨some d,.call {callee:=.value (.func 143),args:=#[.tmp s,.tmp c],argTypes:=tys},ty,pos,aft,none⟩]).toArray=true)
  (hB2:waitsB l.dropLast ⟨some d,.call {callee:=.value (.func 143),args:=#[.tmp s,.tmp c],argTypes:=tys},ty,pos,aft,none⟩ [] d [s,c]=true)
  (hQ:∀(a':Act) (w':World),Below w.heap.size w w'→a'.defers=a.defers→Q (.panic [{v:=pfV 2 i,recovered:=false}]) a' w')
  (h:∀m,wpQuiet Tryz.prog (l.dropLast++ [fk m ⟨some d,.call {callee:=.value (.func 143),args:=#[.tmp s,.tmp c],argTypes:=tys},ty,pos,aft,none⟩]).toArray (fun w'=>∃n:Out w,w'=n.u) (fun a'=>a'.tmps.getD d undef=m∧∀q∈ [(s,Value.pointer (some ⟨g,0,none⟩)),(c,.bool false)],a'.tmps.getD q.1 undef=q.2) (l.dropLast++ [fk m ⟨some d,.call {callee:=.value (.func 143),args:=#[.tmp s,.tmp c],argTypes:=tys},ty,pos,aft,none⟩]) a):
  (Code.region id l.toArray true).wp Tryz.prog Q a w:=by
 have hl:l=l.dropLast++ [⟨some d,.call {callee:=.value (.func 143),args:=#[.tmp s,.tmp c],argTypes:=tys},ty,pos,aft,none⟩]:=by
  obtain⟨l',hl'⟩:=List.getLast?_eq_some_iff.1 ho
  rw[hl'];simp
 refine wp_region_dies (C:=fun w'=>∃n:Out w,w'=n.u) l.dropLast _ [] d [(s,Value.pointer (some ⟨g,0,none⟩)),(c,.bool false)] l hl (by kernel_rfl) hB hB2 rfl rfl ⟨⟨_,(Below.refl _ _).drew⟩,rfl⟩ h ?_
 rintro a' w' K ⟨n,rfl⟩ hd hp
 have h1:a'.tmps.getD s undef=.pointer (some ⟨g,0,none⟩):=hp (s,_) (by simp)
 have h2:a'.tmps.getD c undef=.bool false:=hp (c,_) (by simp)
 have h3:a'.tmps[s]?.getD undef=.pointer (some ⟨g,0,none⟩):=by rw[←Array.getD_eq_getD_getElem?];exact h1
 have h4:a'.tmps[c]?.getD undef=.bool false:=by rw[←Array.getD_eq_getD_getElem?];exact h2
 unfold Oper.wp
 have hrun:(execOp a'.eval ⟨some d,.call {callee:=.value (.func 143),args:=#[.tmp s,.tmp c],argTypes:=tys},ty,pos,aft,none⟩).run Tryz.prog n.u=.ok (.enter 143 #[.pointer (some ⟨g,0,none⟩),.bool false]) n.u:=by
  simp[execOp,h3,h4,go_sem,Act.eval,Tryz.func143]
 rw[hrun,Oper.upon_enter]
 refine(pdem_no (BoxAt.below hP n.out)).mono ?_
 rintro e w'' ⟨rfl,rfl⟩
 exact hQ a' n.u n.out hd
theorem pslots2 {a':Act} {s t:Tmp} {x y:Value} (h:a'.tmps.getD s undef=x) (h2:a'.tmps.getD t undef=y):∀p∈ [(s,x),(t,y)],a'.tmps.getD p.1 undef=p.2:=by
 intro p hp
 rcases List.mem_cons.1 hp with rfl|hp
 ·exact h
 ·rcases List.mem_cons.1 hp with rfl|hp
  ·exact h2
  ·cases hp
set_option maxHeartbeats 2000000 in
theorem ptake_no {base g i o:Nat} {p:ByteArray} {w:World} (h:PrAt w base g p i o) (hp:p.size≤200) (hx:¬i<p.size):
  Calls Tryz.prog 166 #[.pointer (some ⟨g,0,none⟩)] w fun e w'=>e=Pf 2 i∧Below w.heap.size w w':=by
 have HP:Hid (PrAt w base g p i o):=h
 have hlt:=h.lt.2
 obtain⟨c0,c1⟩:=h.c2
 have e0:∀n:Out w,n.u.cell? ⟨g,0,none⟩=some (.string p):=fun n=>(n.out.cell (p:=⟨g,0,none⟩) hlt).trans c0
 have e1:∀n:Out w,n.u.cell? ⟨g,1,none⟩=some (.int .i64 (i:Int)):=fun n=>(n.out.cell (p:=⟨g,1,none⟩) hlt).trans c1
 have z1:¬(i:Int)<(p.size:Int):=by omega
 clear h c0 c1
 go_enter Tryz.func166,Tryz.ntmps166
 go_upto_region 1 with fail
 refine wp_region_pdem 15 4 14 HP.out rfl (fun m=>by kernel_rfl) (by kernel_rfl) ?q ?_
 case q=>exact fun a' w' hb hd=>⟨hd,rfl,hb⟩
 intro m
 dsimp only[List.dropLast,fk,List.cons_append,List.nil_append]
 repeat (go_big_quiet_step (rfl))
 refine wpQuiet_nil ?_
 exact⟨rfl,pslots2 rfl rfl⟩
theorem ptake_core {base g i o:Nat} {p:ByteArray} {w:World} (h:PrAt w base g p i o) (hp:p.size≤200) (hi:i≤p.size):
  Calls Tryz.prog 166 #[.pointer (some ⟨g,0,none⟩)] w fun e w'=>Chg (fun k=>k=g) w w'∧
   ((∃x:UInt8,(sb p)[i]?=some x∧e=.returned (.int .u8 (x.toNat:Int))∧PrAt w' base g p (i+1) o)∨((sb p)[i]?=none∧e=Pf 2 i)):=by
 by_cases hx:i<p.size
 ·obtain⟨x,hx⟩:∃x,(sb p)[i]?=some x:=⟨_,List.getElem?_eq_getElem (by rw[sb_len];exact hx)⟩
  exact(ptake_yes h hp hx).mono fun e w' ⟨he,h1,h2⟩=>⟨h2,.inl ⟨x,hx,he,h1⟩⟩
 ·exact(ptake_no h hp hx).mono fun e w' ⟨he,h1⟩=>⟨Chg.of_below h1,.inr ⟨List.getElem?_eq_none (by rw[sb_len];omega),he⟩⟩
set_option maxHeartbeats 2000000 in
theorem pskip_core {base g i o:Nat} {p:ByteArray} (c:UInt8) {w:World} (h:PrAt w base g p i o) (hp:p.size≤200):
  Calls Tryz.prog 153 #[.pointer (some ⟨g,0,none⟩),.int .u8 (c.toNat:Int)] w fun e w'=>Chg (fun k=>k=g) w w'∧
   (((sb p)[i]?=some c∧e=.returned (.bool true)∧PrAt w' base g p (i+1) o)∨(¬(sb p)[i]?=some c∧e=.returned (.bool false)∧PrAt w' base g p i o)):=by
 have HP:Hid (PrAt w base g p i o):=h
 have hlt:=h.lt.2
 obtain⟨c0,c1⟩:=h.c2
 have e0:∀n:Out w,n.u.cell? ⟨g,0,none⟩=some (.string p):=fun n=>(n.out.cell (p:=⟨g,0,none⟩) hlt).trans c0
 have e1:∀n:Out w,n.u.cell? ⟨g,1,none⟩=some (.int .i64 (i:Int)):=fun n=>(n.out.cell (p:=⟨g,1,none⟩) hlt).trans c1
 clear h c0 c1
 by_cases hi:i<p.size
 ·obtain⟨x,hx⟩:∃x,(sb p)[i]?=some x:=⟨_,List.getElem?_eq_getElem (by rw[sb_len];exact hi)⟩
  obtain⟨_,gx⟩:=sb_get hx
  have z1:(i:Int)<(p.size:Int):=by omega
  by_cases hxc:x=c
  ·subst hxc
   have HF:Hid ((sb p)[i]?=some x):=hx
   clear hx
   go_enter Tryz.func153,Tryz.ntmps153
   go_upto_region 1 with fail
   refine wp_region_out (by kernel_rfl) (by kernel_rfl) ?_
   repeat (go_big_quiet_step (rfl))
   refine wpQuiet_nil ?_
   rintro w1 ⟨⟨wx,hb1⟩,rfl⟩
   have HP1:Hid (PrAt w1 base g p i o):=BoxAt.below HP.out hb1
   have c1:=HP1.cell (j:=1) rfl
   have f1:=HP1.frozen 1
   clear e0 e1
   go_wp2_with fail
   go_ret
   exact⟨(Chg.of_below hb1).trans (Chg.of_set _ g 1 _ rfl),.inl ⟨HF.out,rfl,PrAt.next HP1.out⟩⟩
  ·have HF:Hid (¬(sb p)[i]?=some c):=by
    show¬(sb p)[i]?=some c
    rw[hx]
    exact fun q=>hxc (Option.some.inj q)
   have z2:¬(x.toNat:Int)=(c.toNat:Int):=fun q=>hxc (UInt8.toNat_inj.1 (by omega))
   clear hx hxc
   go_enter Tryz.func153,Tryz.ntmps153
   go_upto_region 1 with fail
   refine wp_region_out (by kernel_rfl) (by kernel_rfl) ?_
   repeat (go_big_quiet_step (rfl))
   refine wpQuiet_nil ?_
   rintro w1 ⟨⟨wx,hb1⟩,rfl⟩
   have HP1:Hid (PrAt w1 base g p i o):=BoxAt.below HP.out hb1
   clear e0 e1
   go_wp2_with fail
   go_ret
   exact⟨Chg.of_below hb1,.inr ⟨HF.out,congrArg (fun b=>Ending.returned (.bool b)) (beq_eq_false_iff_ne.2 z2),HP1.out⟩⟩
 ·have z1:¬(i:Int)<(p.size:Int):=by omega
  have HF:Hid (¬(sb p)[i]?=some c):=by
   show¬(sb p)[i]?=some c
   rw[List.getElem?_eq_none (by rw[sb_len];omega)]
   exact fun q=>by cases q
  go_enter Tryz.func153,Tryz.ntmps153
  go_upto_region 1 with fail
  refine wp_region_out (by kernel_rfl) (by kernel_rfl) ?_
  repeat (go_big_quiet_step (rfl))
  refine wpQuiet_nil ?_
  rintro w1 ⟨⟨wx,hb1⟩,rfl⟩
  have HP1:Hid (PrAt w1 base g p i o):=BoxAt.below HP.out hb1
  clear e0 e1
  go_wp2_with fail
  go_ret
  first
   |exact⟨Chg.of_below hb1,.inr ⟨HF.out,rfl,HP1.out⟩⟩
   |exact⟨Chg.of_below hb1,rfl,HP1.out⟩
theorem setA_some:∃F:(UInt8→Bool)→Array Value,∀f,F f=Array.ofFn (n:=256) fun i=>.bool (f (UInt8.ofNat i.val)):=⟨_,fun _=>rfl⟩
noncomputable def setA (f:UInt8→Bool):Array Value:=Classical.choose setA_some f
theorem setA_eq (f:UInt8→Bool):setA f=Array.ofFn (n:=256) fun i=>.bool (f (UInt8.ofNat i.val)):=Classical.choose_spec setA_some f
theorem setA_size (f:UInt8→Bool):(setA f).size=256:=by rw[setA_eq];simp
theorem info_set:(Tryz.prog.info? 219).map (fun i=>(i.zero,i.size))=some (some (.agg (Array.replicate 256 (.bool false))),256):=by kernel_rfl
theorem setA_none:setA (fun _=>false)=Array.replicate 256 (.bool false):=by
 rw[setA_eq]
 apply Array.ext
 ·simp
 ·intro i h1 h2
  simp
theorem setA_at (f:UInt8→Bool) (i:Nat) (h:i<256):(setA f)[i]?=some (.bool (f (UInt8.ofNat i))):=by
 rw[setA_eq,Array.getElem?_eq_getElem (by simp;exact h)]
 simp only[Array.getElem_ofFn]
theorem setA_one (f:UInt8→Bool):(setA f).all (·.oneCell')=true:=by
 rw[setA_eq,Array.all_eq_true_iff_forall_mem]
 intro v hv
 obtain⟨i,hi,rfl⟩:=Array.getElem_of_mem hv
 simp only[Array.getElem_ofFn]
 rfl
theorem BoxAt.heap {w:World} {base t sz g:Nat} {vs:List Value} (h:BoxAt w base t sz g vs):w.heap[g]?=some (.cells vs.toArray t (0,0)):=by
 rcases h.2 with⟨h0,_⟩|⟨g',cap,cur,hv,_,hc,_,_,hsz,htk⟩
 ·cases h0
 ·simp only[Value.slice.injEq,Option.some.injEq,Addr.mk.injEq,and_true,true_and]at hv
  obtain⟨rfl,rfl⟩:=hv
  rw[hc]
  rw[List.take_of_length_le (by simp[hsz])]at htk
  rw[←htk]
theorem BoxAt.ofHeap {w:World} {base t sz g:Nat} {vs:Array Value} (h:w.heap[g]?=some (.cells vs t (0,0))) (hb:base≤g) (hs:vs.size=sz):BoxAt w base t sz g vs.toList:=by
 refine⟨by simp[hs],.inr ⟨g,1,vs,rfl,hb,h,Nat.le_refl _,by decide,by omega,?_⟩⟩
 rw[List.take_of_length_le (by simp[hs])]
abbrev SetAt (w:World) (base g:Nat) (f:UInt8→Bool):Prop:=BoxAt w base 219 256 g (setA f).toList
theorem SetAt.heap {w:World} {base g:Nat} {f:UInt8→Bool} (h:SetAt w base g f):w.heap[g]?=some (.cells (setA f) 219 (0,0)):=by
 have h1:=BoxAt.heap h
 rw[Array.toArray_toList]at h1
 exact h1
theorem SetAt.ext {w:World} {base g:Nat} {f f':UInt8→Bool} (h:SetAt w base g f) (he:∀c,f c=f' c):SetAt w base g f':=by
 rw[show f'=f from funext fun c=>(he c).symm];exact h
theorem setA_get (f:UInt8→Bool) (k:Nat) (h:k<256):(setA f).toList[k]?=some (.bool (f (UInt8.ofNat k))):=by
 rw[Array.getElem?_toList];exact setA_at f k h
theorem ofNat_eq {i k:Nat} (hi:i<256) (hk:k<256) (h:UInt8.ofNat i=UInt8.ofNat k):i=k:=by
 have:=congrArg UInt8.toNat h
 rw[UInt8.toNat_ofNat',UInt8.toNat_ofNat']at this
 omega
theorem setA_set (f:UInt8→Bool) (k:Nat) (b:Bool) (hk:k<256):(setA f).toList.set k (.bool b)=(setA (fun c=>if c=UInt8.ofNat k then b else f c)).toList:=by
 apply List.ext_getElem?
 intro i
 rw[List.getElem?_set]
 by_cases h:k=i
 ·subst h
  rw[if_pos rfl,if_pos (by simp[setA_size];exact hk),setA_get _ _ hk,if_pos rfl]
 ·rw[if_neg h]
  by_cases hi:i<256
  ·rw[setA_get _ _ hi,setA_get _ _ hi,if_neg (fun q=>h (ofNat_eq hi hk q).symm)]
  ·rw[List.getElem?_eq_none (by simp[setA_size];omega),List.getElem?_eq_none (by simp[setA_size];omega)]
theorem Below.setRow' {B:Nat} {a w:World} (h:Below B a w) {g:Nat} (hg:B≤g) (cs:Array Value):Below B a (w.setRow g cs):=
 h.trans ⟨rfl,rfl,rfl,by simp,fun k hk=>setRow_other w g k cs (by omega)⟩
set_option maxHeartbeats 2000000 in
theorem opposite_core (f:UInt8→Bool) (w:World):
  Calls Tryz.prog 167 #[.agg (setA f)] w fun e w'=>e=.returned (.agg (setA (fun c=> !f c)))∧Below w.heap.size w w':=by
 have hzv:=(zero_of_info info_set).1
 go_enter Tryz.func167,Tryz.ntmps167
 go_wp2_with fail
 clear hzv
 rw[←setA_none]
 obtain⟨W,hW⟩:=qE ((w.alloc (.cells (setA f) 219)).alloc (.cells (setA (fun _=>false)) 219))
 have HW:Hid (SetAt W w.heap.size w.heap.size f∧SetAt W w.heap.size (w.heap.size+1) (fun _=>false)∧Below w.heap.size w W):=by
  rw[hW]
  refine⟨BoxAt.ofHeap (heap_alloc2_old w _ _) (Nat.le_refl _) (setA_size _),BoxAt.ofHeap (heap_alloc2_new w _ _) (by omega) (setA_size _),(qB).alloc (by simp) _⟩
 rw[←hW]
 clear hW
 go_loopw[4] (fun i wr=>∃(k:Nat),k≤256∧i=.int .i64 k∧SetAt wr w.heap.size w.heap.size (fun c=>if c.toNat<k then !f c else f c)∧SetAt wr w.heap.size (w.heap.size+1) (fun _=>false)∧Below w.heap.size w wr) (fun i _=>256-(intOf i).toNat)
 case atStart=>
  refine⟨0,Nat.zero_le _,rfl,?_,HW.2.1,HW.2.2⟩
  exact SetAt.ext HW.1 (fun c=>by rw[if_neg (by omega)])
 case round=>
  obtain⟨k,hk,rfl,h1,h2,h3⟩:=hrel
  have HR:Hid (SetAt wr w.heap.size w.heap.size (fun c=>if c.toNat<k then !f c else f c)∧SetAt wr w.heap.size (w.heap.size+1) (fun _=>false)∧Below w.heap.size w wr):=⟨h1,h2,h3⟩
  clear h1 h2 h3 HW
  by_cases hlt:k<256
  ·have z:(k:Int)<256:=by omega
   obtain⟨b,hb⟩:=qE (f (UInt8.ofNat k))
   have hn:(UInt8.ofNat k).toNat=k:=by rw[UInt8.toNat_ofNat'];omega
   have d0:wr.cell? ⟨w.heap.size,k,none⟩=some (.bool b):=by
    have:=HR.1.cell (setA_get _ k hlt)
    rw[hn,if_neg (Nat.lt_irrefl _),←hb]at this
    exact this
   have f0:=HR.1.frozen k
   have HN:Hid (SetAt (wr.setCell ⟨w.heap.size,k,none⟩ (.bool (!b))) w.heap.size w.heap.size (fun c=>if c.toNat<k+1 then !f c else f c)∧SetAt (wr.setCell ⟨w.heap.size,k,none⟩ (.bool (!b))) w.heap.size (w.heap.size+1) (fun _=>false)∧Below w.heap.size w (wr.setCell ⟨w.heap.size,k,none⟩ (.bool (!b)))):=by
    refine⟨?_,HR.2.1.beside (by omega) k _,below_set HR.2.2 (Nat.le_refl _) k _⟩
    have h4:=HR.1.set k (.bool (!b))
    rw[setA_set _ k (!b) hlt]at h4
    refine SetAt.ext h4 ?_
    ·intro c
     by_cases hc:c=UInt8.ofNat k
     ·rw[if_pos hc,hc,hn,if_pos (by omega),hb]
     ·rw[if_neg hc]
      have:¬c.toNat=k:=fun q=>hc (UInt8.toNat_inj.1 (by rw[hn];exact q))
      by_cases h5:c.toNat<k
      ·rw[if_pos h5,if_pos (by omega)]
      ·rw[if_neg h5,if_neg (by omega)]
   clear hb hn HR
   go_wp2_with fail
   go_roundw
   case rel=>exact⟨k+1,by omega,by go_num,HN.1,HN.2.1,HN.2.2⟩
   case measure=>simp[intOf];omega
  ·obtain rfl:k=256:=by omega
   have h0:=SetAt.heap (SetAt.ext HR.1 (f':=fun c=> !f c) (fun c=>if_pos (UInt8.toNat_lt c)))
   have h1:=SetAt.heap HR.2.1
   have hB:Below w.heap.size w (wr.setRow (w.heap.size+1) (setA (fun c=> !f c))):=Below.setRow' HR.2.2 (by omega) _
   have hi:(Tryz.prog.info? 219).map (·.size)=some 256:=(zero_of_info info_set).2
   clear HR
   go_upto_region 6 with fail
   apply wp_region_list
   refine wpList_load_row rfl 219 _ rfl w.heap.size rfl 219 (setA (fun c=> !f c)) (0,0) _ h0 Tryz.underlying219 rfl (by rw[setA_size];exact hi) ?_
   refine wpList_store_row rfl 219 _ _ rfl (w.heap.size+1) (setA (fun c=> !f c)) rfl rfl 219 (setA (fun _=>false)) h1 (by rw[setA_size];exact hi) (by rw[setA_size,setA_size]) (setA_one _) ?_
   have hr:=setRow_heap _ _ _ (setA (fun c=> !f c)) _ _ h1
   obtain⟨W2,hW2⟩:=qE (wr.setRow (w.heap.size+1) (setA (fun c=> !f c)))
   rw[←hW2]at hB hr⊢
   clear hW2 h0 h1
   apply wpList_nil
   go_wp2_with fail
   refine bodyPost_ret (v:=.agg (setA (fun c=> !f c))) (results_cell_row rfl _ _ (w.heap.size+1) _ _ _ _ rfl hr Tryz.underlying219 rfl (by rw[setA_size];exact hi)) rfl ⟨rfl,hB⟩
theorem chM_in {p:List UInt8} {i:Nat} (h:inB p i [93,45]=true):chM p i=(0,i,false):=by
 unfold inB at h
 unfold chM
 split at h
 ·next c hc=>
  rw[hc]
  have:c=93∨c=45:=by simpa using h
  simp only[]
  rw[if_pos this]
 ·cases h
theorem chM_end {p:List UInt8} {i:Nat} (h:p[i]?=none):chM p i=(0,i,false):=by
 unfold chM;rw[h]
theorem chM_esc {p:List UInt8} {i:Nat} (h:p[i]?=some 92):chM p i=match p[i+1]? with|none=>(0,i+1,false)|some d=>(d,i+2,true):=by
 unfold chM;rw[h];rfl
theorem chM_plain {p:List UInt8} {i:Nat} {c:UInt8} (h:p[i]?=some c) (h1:inB p i [93,45]=false) (h2:¬c=92):chM p i=(c,i+1,true):=by
 unfold inB at h1
 unfold chM
 rw[h]at h1⊢
 have:¬(c=93∨c=45):=by simpa using h1
 simp only[]
 rw[if_neg this,if_neg h2]
set_option maxHeartbeats 2000000 in
theorem classByte_core {base g i o:Nat} {p:ByteArray} {w:World} (h:PrAt w base g p i o) (hp:p.size≤200) (hi:i≤p.size):
  Calls Tryz.prog 171 #[.pointer (some ⟨g,0,none⟩)] w fun e w'=>Chg (fun k=>k=g) w w'∧
   ((∃(x:UInt8) (k:Nat),chM (sb p) i=(x,k,true)∧e=.returned (.int .u8 (x.toNat:Int))∧PrAt w' base g p k o)∨(∃(x:UInt8) (k:Nat),chM (sb p) i=(x,k,false)∧e=Pf 2 k)):=by
 have HP:Hid (PrAt w base g p i o):=h
 clear h
 go_enter Tryz.func171,Tryz.ntmps171
 go_wp2_with fail
 refine(pnextIn_core ⟨#[93,45]⟩ HP.out hp).mono ?_
 rintro e w1 ⟨rfl,hb1⟩
 have HP1:Hid (PrAt w1 base g p i o∧Chg (fun k=>k=g) w w1):=⟨BoxAt.below HP.out hb1,Chg.of_below hb1⟩
 obtain⟨q,hq⟩:=qE (inB (sb p) i (sb ⟨#[93,45]⟩))
 have HQ:Hid (inB (sb p) i [93,45]=q):=hq.symm
 rw[←hq]
 clear hb1 hq HP
 go_wp2_with fail
 refine(pdem_core (!q) HP1.1).mono ?_
 rintro e w2 ⟨rfl,(⟨hc,rfl⟩|⟨hc,rfl⟩)⟩
 case inr=>
  have hq:q=true:=by simpa using hc
  refine⟨rfl,HP1.2,.inr ⟨0,i,chM_in (by rw[HQ.out,hq]),rfl⟩⟩
 have hq:q=false:=by simpa using hc
 subst hq
 clear hc
 go_wp2_with fail
 refine(ptake_core HP1.1 hp hi).mono ?_
 rintro e w3 ⟨hC3,(⟨x,hx,rfl,hP3⟩|⟨hx,rfl⟩)⟩
 case inr=>exact⟨rfl,HP1.2.trans hC3,.inr ⟨0,i,chM_end hx,rfl⟩⟩
 have HP3:Hid (PrAt w3 base g p (i+1) o∧Chg (fun k=>k=g) w w3∧(sb p)[i]?=some x):=⟨hP3,HP1.2.trans hC3,hx⟩
 have hi1:i+1≤p.size:=by
  have:=(List.getElem?_eq_some_iff.1 hx).1
  rw[sb_len]at this;omega
 clear hC3 hx hP3 HP1
 by_cases h92:x=92
 ·subst h92
  go_wp2_with fail
  refine(ptake_core HP3.1 hp hi1).mono ?_
  rintro e w4 ⟨hC4,(⟨y,hy,rfl,hP4⟩|⟨hy,rfl⟩)⟩
  case inr=>exact⟨rfl,HP3.2.1.trans hC4,.inr ⟨0,i+1,by rw[chM_esc HP3.2.2,hy],rfl⟩⟩
  have HF:Hid (Chg (fun k=>k=g) w w4∧chM (sb p) i=(y,i+2,true)∧PrAt w4 base g p (i+2) o):=⟨HP3.2.1.trans hC4,by rw[chM_esc HP3.2.2,hy],hP4⟩
  clear hC4 hy hP4
  go_wp2_with fail
  go_ret
  exact⟨HF.1,.inl ⟨y,i+2,HF.2.1,rfl,HF.2.2⟩⟩
 ·have z:¬(x.toNat:Int)=92:=fun q=>h92 (UInt8.toNat_inj.1 (by show x.toNat=92;omega))
  go_wp2_with fail
  go_ret
  exact⟨HP3.2.1,.inl ⟨x,i+1,chM_plain HP3.2.2 HQ.out h92,rfl,HP3.1⟩⟩
def wider (f:UInt8→Bool) (a b:UInt8):UInt8→Bool:=fun c=>f c || (decide (a≤c) && decide (c≤b))
theorem Chg.absorb {S T:Nat→Prop} {w w1 w2:World} (h:Chg S w w1) (k:Chg T w1 w2) (hT:∀j,T j→S j∨w.heap.size≤j):Chg S w w2:=
 ⟨k.os.trans h.os,k.tape.trans h.tape,k.output.trans h.output,Nat.le_trans h.size k.size,fun i hi hn=>(k.block i (Nat.lt_of_lt_of_le hi h.size) (fun q=>by rcases hT i q with q|q;exact hn q;omega)).trans (h.block i hi hn)⟩
theorem wrap64_u8 (a:UInt8):wrap64 (a.toNat:Int)=(a.toNat:Int):=by
 have:=UInt8.toNat_lt a
 unfold wrap64
 omega
theorem chg_setRow (w:World) (g:Nat) (cs:Array Value):Chg (fun k=>k=g) w (w.setRow g cs):=⟨rfl,rfl,rfl,by simp,fun k hk hn=>setRow_other w g k cs hn⟩
set_option maxHeartbeats 8000000 in
theorem item_core {base g i o:Nat} {p:ByteArray} (f:UInt8→Bool) {w:World} (h:PrAt w base g p i o) (hp:p.size≤200) (hi:i≤p.size):
  Calls Tryz.prog 170 #[.pointer (some ⟨g,0,none⟩),.agg (setA f)] w fun e w'=>Chg (fun k=>k=g) w w'∧
   ((∃(a b:UInt8) (k:Nat),itemM (sb p) i=.inl (a,b,k)∧e=.returned (.agg (setA (wider f a b)))∧PrAt w' base g p k o)∨(∃(c:Int) (k:Nat),itemM (sb p) i=.inr (c,k)∧e=Pf c k)):=by
 have hgl:=h.lt.2
 obtain⟨W0,hW0⟩:=qE ((w.alloc (.cells (setA f) 219)).alloc (.cells (setA (fun _=>false)) 219))
 have HW:Hid (SetAt W0 w.heap.size w.heap.size f∧SetAt W0 w.heap.size (w.heap.size+1) (fun _=>false)∧PrAt W0 base g p i o∧Chg (fun k=>k=g) w W0):=by
  rw[hW0]
  have hb:Below w.heap.size w ((w.alloc (.cells (setA f) 219)).alloc (.cells (setA (fun _=>false)) 219)):=(qB).alloc (by simp) _
  refine⟨BoxAt.ofHeap (heap_alloc2_old w _ _) (Nat.le_refl _) (setA_size _),BoxAt.ofHeap (heap_alloc2_new w _ _) (by omega) (setA_size _),BoxAt.below h hb,Chg.of_below hb⟩
 have hzv:=(zero_of_info info_set).1
 rw[setA_none]at hW0
 have c1:=HW.2.2.1.cell (j:=1) rfl
 clear h
 go_enter Tryz.func170,Tryz.ntmps170
 go_upto_region 1 with fail
 rw[←hW0]
 clear hW0 hzv
 go_wp2_with fail
 clear c1
 refine(classByte_core HW.2.2.1 hp hi).mono ?_
 rintro e w1 ⟨hC1,(⟨a,k1,hk1,rfl,hP1⟩|⟨x,k,hk,rfl⟩)⟩
 case inr=>
  refine⟨rfl,HW.2.2.2.trans hC1,.inr ⟨2,k,?_,rfl⟩⟩
  unfold itemM;rw[hk]
 have HW1:Hid (SetAt w1 w.heap.size w.heap.size f∧SetAt w1 w.heap.size (w.heap.size+1) (fun _=>false)∧PrAt w1 base g p k1 o∧Chg (fun k=>k=g) w w1):=⟨BoxAt.chg HW.1 hC1 (by omega),BoxAt.chg HW.2.1 hC1 (by omega),hP1,HW.2.2.2.trans hC1⟩
 have HK1:Hid (chM (sb p) i=(a,k1,true)):=hk1
 have hk1p:k1≤p.size:=by have:=(chM_gt hk1).2;rw[sb_len]at this;exact this
 clear hC1 hk1 hP1 HW
 go_wp2_with fail
 refine(pskip_core 45 HW1.2.2.1 hp).mono ?_
 rintro e w2 ⟨hC2,h2⟩
 have HW2:Hid (SetAt w2 w.heap.size w.heap.size f∧SetAt w2 w.heap.size (w.heap.size+1) (fun _=>false)∧Chg (fun k=>k=g) w w2):=⟨BoxAt.chg HW1.1 hC2 (by omega),BoxAt.chg HW1.2.1 hC2 (by omega),HW1.2.2.2.trans hC2⟩
 clear hC2 HW1
 rcases h2 with⟨hx,rfl,hP2⟩|⟨hx,rfl,hP2⟩
 case' inl=>
  have HP2:Hid (PrAt w2 base g p (k1+1) o∧(sb p)[k1]?=some 45):=⟨hP2,hx⟩
  have hk2:k1+1≤p.size:=by have:=(List.getElem?_eq_some_iff.1 hx).1;rw[sb_len]at this;omega
  clear hP2 hx
  go_wp2_with fail
  refine(classByte_core HP2.1 hp hk2).mono ?_
  rintro e w5 ⟨hC5,h5⟩
  have HW5:Hid (SetAt w5 w.heap.size w.heap.size f∧SetAt w5 w.heap.size (w.heap.size+1) (fun _=>false)∧Chg (fun k=>k=g) w w5):=⟨BoxAt.chg HW2.1 hC5 (by omega),BoxAt.chg HW2.2.1 hC5 (by omega),HW2.2.2.trans hC5⟩
  clear hC5 HW2
  rcases h5 with⟨b,k5,hk5,rfl,hP5⟩|⟨x,k,hk,rfl⟩
  case inr=>
   refine⟨rfl,HW5.2.2,.inr ⟨2,k,?_,rfl⟩⟩
   unfold itemM;rw[HK1.out];simp only[];rw[if_pos HP2.2,hk]
  have HI:Hid (PrAt w5 base g p k5 o∧itemM (sb p) i=if b<a then .inr (4,i)else .inl (a,b,k5)):=by
   refine⟨hP5,?_⟩
   unfold itemM;rw[HK1.out];simp only[];rw[if_pos HP2.2,hk5]
  clear hk5 hP5 HP2 hk2
 case' inr=>
  obtain⟨w5,hw5⟩:=qE w2
  obtain⟨k5,hk5⟩:=qE (k1:Nat)
  have HW5:Hid (SetAt w5 w.heap.size w.heap.size f∧SetAt w5 w.heap.size (w.heap.size+1) (fun _=>false)∧Chg (fun k=>k=g) w w5):=by rw[hw5];exact HW2.out
  have HI2:Hid (PrAt w5 base g p k5 o∧itemM (sb p) i=.inl (a,a,k5)):=by
   rw[hw5,hk5]
   refine⟨hP2,?_⟩
   unfold itemM;rw[HK1.out];simp only[];rw[if_neg hx]
  rw[←hw5]
  clear hw5 hP2 hx HW2 hk5
 case inl=>
  clear HK1 hk1p
  by_cases hba:b<a
  ·have z:(b.toNat:Int)<(a.toNat:Int):=by have:=UInt8.lt_iff_toNat_lt.1 hba;omega
   go_wp2_with fail
   exact⟨rfl,HW5.2.2,.inr ⟨4,i,by rw[HI.2,if_pos hba],rfl⟩⟩
  ·have z:(a.toNat:Int)≤(b.toNat:Int):=by have:=UInt8.le_iff_toNat_le.1 (UInt8.not_lt.1 hba);omega
   have HI2:Hid (PrAt w5 base g p k5 o∧itemM (sb p) i=.inl (a,b,k5)):=⟨HI.1,by rw[HI.2,if_neg hba]⟩
   clear HI hba
   go_wp2_with fail
   go_loopw[8] (fun bv wr=>∃(k:Nat),a.toNat≤k∧k≤b.toNat+1∧bv=.int .i64 k∧SetAt wr w.heap.size w.heap.size (fun c=>f c || (decide (a≤c) && decide (c.toNat<k)))∧SetAt wr w.heap.size (w.heap.size+1) (fun _=>false)∧PrAt wr base g p k5 o∧Chg (fun k=>k=g) w wr) (fun bv _=>256-(intOf bv).toNat)
   case atStart=>
    refine⟨a.toNat,Nat.le_refl _,by omega,congrArg (Value.int .i64) (wrap64_u8 a),SetAt.ext HW5.1 (fun c=>?_),HW5.2.1,HI2.1,HW5.2.2⟩
    by_cases q:a≤c
    ·have:=UInt8.le_iff_toNat_le.1 q
     rw[decide_eq_false (show¬c.toNat<a.toNat by omega)];simp
    ·rw[decide_eq_false q];simp
   case round=>
    obtain⟨k,hk0,hk1,rfl,h1,h2,h3,h4⟩:=hrel
    have HR:Hid (SetAt wr w.heap.size w.heap.size (fun c=>f c || (decide (a≤c) && decide (c.toNat<k)))∧SetAt wr w.heap.size (w.heap.size+1) (fun _=>false)∧PrAt wr base g p k5 o∧Chg (fun k=>k=g) w wr):=⟨h1,h2,h3,h4⟩
    clear h1 h2 h3 h4 HW5
    have hb256:=UInt8.toNat_lt b
    by_cases hlt:k≤b.toNat
    ·have z2:(k:Int)≤(b.toNat:Int):=by omega
     have z3:(k:Int)<256:=by omega
     obtain⟨v,hv⟩:∃v,(setA (fun c=>f c || (decide (a≤c) && decide (c.toNat<k)))).toList[k]?=some v:=⟨_,setA_get _ k (by omega)⟩
     have d0:=HR.1.cell hv
     have f0:=HR.1.frozen k
     have HN:Hid (SetAt (wr.setCell ⟨w.heap.size,k,none⟩ (.bool true)) w.heap.size w.heap.size (fun c=>f c || (decide (a≤c) && decide (c.toNat<k+1)))∧SetAt (wr.setCell ⟨w.heap.size,k,none⟩ (.bool true)) w.heap.size (w.heap.size+1) (fun _=>false)∧PrAt (wr.setCell ⟨w.heap.size,k,none⟩ (.bool true)) base g p k5 o∧Chg (fun k=>k=g) w (wr.setCell ⟨w.heap.size,k,none⟩ (.bool true))):=by
      refine⟨?_,BoxAt.beside HR.2.1 (by omega) k _,BoxAt.beside HR.2.2.1 (by omega) k _,HR.2.2.2.absorb (Chg.of_set wr w.heap.size k _ (S:=fun q=>q=w.heap.size) rfl) (fun j q=>.inr (by omega))⟩
      have h5:=HR.1.set k (.bool true)
      rw[setA_set _ k true (by omega)]at h5
      have hn:(UInt8.ofNat k).toNat=k:=by rw[UInt8.toNat_ofNat'];omega
      refine SetAt.ext h5 (fun c=>?_)
      by_cases hc:c=UInt8.ofNat k
      ·have h6:a≤c:=UInt8.le_iff_toNat_le.2 (by rw[hc,hn];exact hk0)
       rw[if_pos hc,decide_eq_true h6,decide_eq_true (show c.toNat<k+1 by rw[hc,hn];omega)];simp
      ·rw[if_neg hc]
       have h6:¬c.toNat=k:=fun q=>hc (UInt8.toNat_inj.1 (by rw[hn];exact q))
       rw[show decide (c.toNat<k+1)=decide (c.toNat<k)from decide_eq_decide.2 ⟨fun q=>by omega,fun q=>by omega⟩]
     clear hv HR
     go_wp2_with fail
     go_roundw
     case rel=>exact⟨k+1,by omega,by omega,by go_num,HN.1,HN.2.1,HN.2.2.1,HN.2.2.2⟩
     case measure=>simp[intOf];omega
    ·obtain rfl:k=b.toNat+1:=by omega
     have z2:¬((b.toNat:Int)+1)≤(b.toNat:Int):=by omega
     have h0:=SetAt.heap (SetAt.ext HR.1 (f':=wider f a b) (fun c=>by
      unfold wider
      rw[show decide (c.toNat<b.toNat+1)=decide (c≤b)from decide_eq_decide.2 ⟨fun q=>UInt8.le_iff_toNat_le.2 (by omega),fun q=>by have:=UInt8.le_iff_toNat_le.1 q;omega⟩]))
     have h1:=SetAt.heap HR.2.1
     have HC:Hid (Chg (fun k=>k=g) w (wr.setRow (w.heap.size+1) (setA (wider f a b)))∧PrAt (wr.setRow (w.heap.size+1) (setA (wider f a b))) base g p k5 o):=by
      have hc:=chg_setRow wr (w.heap.size+1) (setA (wider f a b))
      exact⟨HR.2.2.2.absorb hc (fun j q=>.inr (by omega)),BoxAt.chg HR.2.2.1 hc (by omega)⟩
     have hi:(Tryz.prog.info? 219).map (·.size)=some 256:=(zero_of_info info_set).2
     clear HR
     go_upto_region 12 with fail
     apply wp_region_list
     refine wpList_load_row rfl 219 _ rfl w.heap.size rfl 219 (setA (wider f a b)) (0,0) _ h0 Tryz.underlying219 rfl (by rw[setA_size];exact hi) ?_
     refine wpList_store_row rfl 219 _ _ rfl (w.heap.size+1) (setA (wider f a b)) rfl rfl 219 (setA (fun _=>false)) h1 (by rw[setA_size];exact hi) (by rw[setA_size,setA_size]) (setA_one _) ?_
     have hr:=setRow_heap _ _ _ (setA (wider f a b)) _ _ h1
     obtain⟨W2,hW2⟩:=qE (wr.setRow (w.heap.size+1) (setA (wider f a b)))
     rw[←hW2]at HC hr⊢
     clear hW2 h0 h1
     apply wpList_nil
     go_wp2_with fail
     refine bodyPost_ret (v:=.agg (setA (wider f a b))) (results_cell_row rfl _ _ (w.heap.size+1) _ _ _ _ rfl hr Tryz.underlying219 rfl (by rw[setA_size];exact hi)) rfl ⟨HC.1,.inl ⟨a,b,k5,HI2.2,rfl,HC.2⟩⟩
 case inr=>
  clear HK1 hk1p
  go_wp2_with fail
  go_loopw[8] (fun bv wr=>∃(k:Nat),a.toNat≤k∧k≤a.toNat+1∧bv=.int .i64 k∧SetAt wr w.heap.size w.heap.size (fun c=>f c || (decide (a≤c) && decide (c.toNat<k)))∧SetAt wr w.heap.size (w.heap.size+1) (fun _=>false)∧PrAt wr base g p k5 o∧Chg (fun k=>k=g) w wr) (fun bv _=>256-(intOf bv).toNat)
  case atStart=>
   refine⟨a.toNat,Nat.le_refl _,by omega,congrArg (Value.int .i64) (wrap64_u8 a),SetAt.ext HW5.1 (fun c=>?_),HW5.2.1,HI2.1,HW5.2.2⟩
   by_cases q:a≤c
   ·have:=UInt8.le_iff_toNat_le.1 q
    rw[decide_eq_false (show¬c.toNat<a.toNat by omega)];simp
   ·rw[decide_eq_false q];simp
  case round=>
   obtain⟨k,hk0,hk1,rfl,h1,h2,h3,h4⟩:=hrel
   have HR:Hid (SetAt wr w.heap.size w.heap.size (fun c=>f c || (decide (a≤c) && decide (c.toNat<k)))∧SetAt wr w.heap.size (w.heap.size+1) (fun _=>false)∧PrAt wr base g p k5 o∧Chg (fun k=>k=g) w wr):=⟨h1,h2,h3,h4⟩
   clear h1 h2 h3 h4 HW5
   have hb256:=UInt8.toNat_lt a
   by_cases hlt:k≤a.toNat
   ·have z2:(k:Int)≤(a.toNat:Int):=by omega
    have z3:(k:Int)<256:=by omega
    obtain⟨v,hv⟩:∃v,(setA (fun c=>f c || (decide (a≤c) && decide (c.toNat<k)))).toList[k]?=some v:=⟨_,setA_get _ k (by omega)⟩
    have d0:=HR.1.cell hv
    have f0:=HR.1.frozen k
    have HN:Hid (SetAt (wr.setCell ⟨w.heap.size,k,none⟩ (.bool true)) w.heap.size w.heap.size (fun c=>f c || (decide (a≤c) && decide (c.toNat<k+1)))∧SetAt (wr.setCell ⟨w.heap.size,k,none⟩ (.bool true)) w.heap.size (w.heap.size+1) (fun _=>false)∧PrAt (wr.setCell ⟨w.heap.size,k,none⟩ (.bool true)) base g p k5 o∧Chg (fun k=>k=g) w (wr.setCell ⟨w.heap.size,k,none⟩ (.bool true))):=by
     refine⟨?_,BoxAt.beside HR.2.1 (by omega) k _,BoxAt.beside HR.2.2.1 (by omega) k _,HR.2.2.2.absorb (Chg.of_set wr w.heap.size k _ (S:=fun q=>q=w.heap.size) rfl) (fun j q=>.inr (by omega))⟩
     have h5:=HR.1.set k (.bool true)
     rw[setA_set _ k true (by omega)]at h5
     have hn:(UInt8.ofNat k).toNat=k:=by rw[UInt8.toNat_ofNat'];omega
     refine SetAt.ext h5 (fun c=>?_)
     by_cases hc:c=UInt8.ofNat k
     ·have h6:a≤c:=UInt8.le_iff_toNat_le.2 (by rw[hc,hn];exact hk0)
      rw[if_pos hc,decide_eq_true h6,decide_eq_true (show c.toNat<k+1 by rw[hc,hn];omega)];simp
     ·rw[if_neg hc]
      have h6:¬c.toNat=k:=fun q=>hc (UInt8.toNat_inj.1 (by rw[hn];exact q))
      rw[show decide (c.toNat<k+1)=decide (c.toNat<k)from decide_eq_decide.2 ⟨fun q=>by omega,fun q=>by omega⟩]
    clear hv HR
    go_wp2_with fail
    go_roundw
    case rel=>exact⟨k+1,by omega,by omega,by go_num,HN.1,HN.2.1,HN.2.2.1,HN.2.2.2⟩
    case measure=>simp[intOf];omega
   ·obtain rfl:k=a.toNat+1:=by omega
    have z2:¬((a.toNat:Int)+1)≤(a.toNat:Int):=by omega
    have h0:=SetAt.heap (SetAt.ext HR.1 (f':=wider f a a) (fun c=>by
     unfold wider
     rw[show decide (c.toNat<a.toNat+1)=decide (c≤a)from decide_eq_decide.2 ⟨fun q=>UInt8.le_iff_toNat_le.2 (by omega),fun q=>by have:=UInt8.le_iff_toNat_le.1 q;omega⟩]))
    have h1:=SetAt.heap HR.2.1
    have HC:Hid (Chg (fun k=>k=g) w (wr.setRow (w.heap.size+1) (setA (wider f a a)))∧PrAt (wr.setRow (w.heap.size+1) (setA (wider f a a))) base g p k5 o):=by
     have hc:=chg_setRow wr (w.heap.size+1) (setA (wider f a a))
     exact⟨HR.2.2.2.absorb hc (fun j q=>.inr (by omega)),BoxAt.chg HR.2.2.1 hc (by omega)⟩
    have hi:(Tryz.prog.info? 219).map (·.size)=some 256:=(zero_of_info info_set).2
    clear HR
    go_upto_region 12 with fail
    apply wp_region_list
    refine wpList_load_row rfl 219 _ rfl w.heap.size rfl 219 (setA (wider f a a)) (0,0) _ h0 Tryz.underlying219 rfl (by rw[setA_size];exact hi) ?_
    refine wpList_store_row rfl 219 _ _ rfl (w.heap.size+1) (setA (wider f a a)) rfl rfl 219 (setA (fun _=>false)) h1 (by rw[setA_size];exact hi) (by rw[setA_size,setA_size]) (setA_one _) ?_
    have hr:=setRow_heap _ _ _ (setA (wider f a a)) _ _ h1
    obtain⟨W2,hW2⟩:=qE (wr.setRow (w.heap.size+1) (setA (wider f a a)))
    rw[←hW2]at HC hr⊢
    clear hW2 h0 h1
    apply wpList_nil
    go_wp2_with fail
    refine bodyPost_ret (v:=.agg (setA (wider f a a))) (results_cell_row rfl _ _ (w.heap.size+1) _ _ _ _ rfl hr Tryz.underlying219 rfl (by rw[setA_size];exact hi)) rfl ⟨HC.1,.inl ⟨a,a,k5,HI2.2,rfl,HC.2⟩⟩
theorem cls_first {p:List UInt8} {j:Nat} {f:UInt8→Bool} (hj:j≤p.length):clsM p j false f=match itemM p j with| .inr e=>.inr e| .inl (a,b,k)=>clsM p k true (wider f a b):=by
 by_cases h:j<p.length
 ·rw[clsM,dif_pos h,if_neg (by simp)]
  split<;>(next hc=>(rw[hc];first|done|rfl))
 ·rw[clsM,dif_neg h]
  have h0:j=p.length:=by omega
  have:itemM p j=.inr (2,p.length):=by
   unfold itemM
   rw[chM_end (List.getElem?_eq_none (by omega)),h0]
  rw[this]
theorem cls_shut {p:List UInt8} {j:Nat} {f:UInt8→Bool} (h:p[j]?=some 93):clsM p j true f=.inl (f,j+1):=by
 rw[clsM,dif_pos (lt_of_at h),if_pos ⟨h,rfl⟩]
theorem cls_more {p:List UInt8} {j:Nat} {f:UInt8→Bool} (hj:j≤p.length) (h:¬p[j]?=some 93):clsM p j true f=match itemM p j with| .inr e=>.inr e| .inl (a,b,k)=>clsM p k true (wider f a b):=by
 by_cases h1:j<p.length
 ·rw[clsM,dif_pos h1,if_neg (fun q=>h q.1)]
  split<;>(next hc=>(rw[hc];first|done|rfl))
 ·rw[clsM,dif_neg h1]
  have h0:j=p.length:=by omega
  have:itemM p j=.inr (2,p.length):=by
   unfold itemM
   rw[chM_end (List.getElem?_eq_none (by omega)),h0]
  rw[this]
noncomputable abbrev clsV (f:UInt8→Bool):Value:=.iface 222 (.agg (setA f))
theorem info_cls:(Tryz.prog.info? 222).map (fun i=>(i.zero,i.size))=some (some (.agg (Array.replicate 256 (.bool false))),256):=by kernel_rfl
theorem places_cls:(match Tryz.prog.underlying 222 with|some (.struct fs)=>fs.toList.mapM (fun f=>(Tryz.prog.info? f.type).map fun i=>(f.offset,i.size))|_=>none)=some [(0,256)]:=by kernel_rfl
theorem built_set:Tryz.prog.built 219 []=some (setA (fun _=>false)):=by rw[setA_none];kernel_rfl
theorem fold_fillP:∀(l:List Value) (k:Nat) (z:List Value),k+l.length≤z.length→(l.zipIdx k).foldl (fun(cs:Array Value) (p:Value×Nat)=>cs.setIfInBounds (0+p.2) p.1) z.toArray=(z.take k++l++z.drop (k+l.length)).toArray
 | [],k,z,h=>by simp
 |x::l,k,z,h=>by
  simp only[List.zipIdx_cons,List.foldl_cons,Nat.zero_add,List.setIfInBounds_toArray]
  have h2:=fold_fillP l (k+1) (z.set k x) (by simp at h⊢;omega)
  simp only[Nat.zero_add]at h2
  rw[h2]
  congr 1
  have hk:k<z.length:=by simp at h;omega
  rw[List.take_add_one,List.take_set_of_le (Nat.le_refl _),List.getElem?_set_self hk]
  have h3:(z.set k x).drop (k+1+l.length)=z.drop (k+(x::l).length):=by
   rw[List.drop_set_of_lt (by omega)]
   congr 1
   simp;omega
  rw[h3]
  simp
theorem built_cls (c:Array Value) (hc:c.size=256):Tryz.prog.built 222 [(0,.agg c)]=some c:=by
 have hp:=places_cls
 cases hi:Tryz.prog.info? 222 with
 |none=>have:=info_cls;rw[hi]at this;cases this
 |some it=>
  have h1:=info_cls
  rw[hi]at h1
  simp only[Option.map_some,Option.some.injEq,Prod.mk.injEq]at h1
  cases hu:Tryz.prog.underlying 222 with
  |none=>rw[hu]at hp;cases hp
  |some d=>
   rw[hu]at hp
   cases d<;>try (cases hp;done)
   case struct fs=>
    simp only[]at hp
    unfold Program.built
    rw[hi,hu]
    simp only[]
    rw[h1.1,hp]
    simp only[]
    show Instr.fill _ (Array.replicate 256 (.bool false)) [(0,.agg c)]=_
    unfold Instr.fill
    have hv:(Value.agg c).cells=c:=rfl
    simp only[List.getElem?_toArray,List.getElem?_cons_zero,hv,hc]
    have hz:(Array.replicate 256 (Value.bool false)).size=256:=by simp
    rw[if_neg (by simp[hz])]
    unfold Instr.fill
    congr 1
    have h3:=fold_fillP c.toList 0 (Array.replicate 256 (Value.bool false)).toList (by simp[hc])
    rw[←Array.foldl_toList,Array.toList_zipIdx]
    have h4:(Array.replicate 256 (Value.bool false)).toList.toArray=Array.replicate 256 (Value.bool false):=Array.toArray_toList
    rw[h4]at h3
    refine Eq.trans h3 ?_
    have h5:(Array.replicate 256 (Value.bool false)).toList.drop (0+c.toList.length)= []:=by
     simp[hc]
    rw[h5]
    apply Array.ext'
    simp
theorem wpList_build_cells {ops:Array Oper} {rest:List Oper} {o:Oper} {a:Act} {w:World} {Q:Exit→Act→World→Prop} (hg:o.guard=none) (t:TypeId) (parts:Array (Nat×Operand)) (ho:o.op=.build t parts) (cells:Array Value)
  (hb:Tryz.prog.built t (parts.map fun(i,x)=>(i,a.eval x)).toList=some cells) (h:wpList Tryz.prog ops Q rest (a.put o.dst (.agg cells)) w):wpList Tryz.prog ops Q (o::rest) a w:=by
 refine wpList_build hg t parts ho (by rw[hb];rfl) ?_
 rw[hb]
 exact h
theorem wpList_call_of {ops:Array Oper} {rest:List Oper} {o:Oper} {a:Act} {w:World} {Q:Exit→Act→World→Prop} (hgd:o.guard=none) (F:FuncId) (vals:Array Value) (hrun:(execOp a.eval o).run Tryz.prog w=.ok (.enter F vals) w)
  (h:Calls Tryz.prog F vals w fun e w'=>match e with| .returned v=>wpList Tryz.prog ops Q rest (a.put o.dst v) w'| .panicked chain=>Q (.panic chain) a w'| .outgrown=>False):wpList Tryz.prog ops Q (o::rest) a w:=by
 refine wpList_plain hgd fun K hK=>?_
 unfold Oper.wp
 rw[hrun,Oper.upon_enter]
 refine h.mono ?_
 intro e w' he
 cases e with
 |returned v=>exact hK _ _ he
 |panicked chain=>exact he
 |outgrown=>exact he.elim
theorem wpList_moveS {ops:Array Oper} {rest:List Oper} {o:Oper} {a:Act} {w:World} {Q:Exit→Act→World→Prop} (hg:o.guard=none) (x:Operand) (ho:o.op=.move x) (h:wpList Tryz.prog ops Q rest (a.put o.dst (a.eval x)) w):wpList Tryz.prog ops Q (o::rest) a w:=by
 refine wpList_plain hg fun K hK=>?_
 unfold Oper.wp execOp
 simp only[ho,Sem.run_pure]
 exact hK _ _ h
def ClsEq (p:List UInt8) (i:Nat) (ng:Bool) (k:Nat) (b:Bool) (f:UInt8→Bool):Prop:=classM p i=(match clsM p k b f with| .inl (f,k)=>.inl ((if ng=true then fun c=> !f c else f),k)| .inr e=>.inr e)
theorem ClsEq.eq {p:List UInt8} {i:Nat} {ng:Bool} {k:Nat} {b:Bool} {f:UInt8→Bool} (h:ClsEq p i ng k b f):classM p i=(match clsM p k b f with| .inl (f,k)=>.inl ((if ng=true then fun c=> !f c else f),k)| .inr e=>.inr e):=h
def atOf (w:World) (g:Nat):Nat:=match w.cell? ⟨g,1,none⟩with|some v=>(intOf v).toNat|none=>0
theorem atOf_pr {w:World} {base g i o:Nat} {p:ByteArray} (h:PrAt w base g p i o):atOf w g=i:=by
 unfold atOf;rw[h.cell (j:=1) rfl];simp[intOf]
set_option maxHeartbeats 8000000 in
theorem class_core {base g i o:Nat} {p:ByteArray} {w:World} (h:PrAt w base g p i o) (hp:p.size≤200) (hi:i≤p.size):
  Calls Tryz.prog 169 #[.pointer (some ⟨g,0,none⟩)] w fun e w'=>Chg (fun k=>k=g) w w'∧
   ((∃(f:UInt8→Bool) (k:Nat),classM (sb p) i=.inl (f,k)∧e=.returned (clsV f)∧PrAt w' base g p k o)∨(∃(c:Int) (k:Nat),classM (sb p) i=.inr (c,k)∧e=Pf c k)):=by
 have hgl:=h.lt.2
 have HP:Hid (PrAt w base g p i o):=h
 clear h
 go_enter Tryz.func169,Tryz.ntmps169
 go_wp2_with fail
 refine(pskip_core 94 HP.out hp).mono ?_
 rintro e w1 ⟨hC1,h1⟩
 obtain⟨ng,j,rfl,hj,hP1,hM⟩:∃(ng:Bool) (j:Nat),e=.returned (.bool ng)∧j≤p.size∧PrAt w1 base g p j o∧ClsEq (sb p) i ng j false (fun _=>false):=by
  rcases h1 with⟨hx,rfl,hP⟩|⟨hx,rfl,hP⟩
  ·refine⟨true,i+1,rfl,by have:=(List.getElem?_eq_some_iff.1 hx).1;rw[sb_len]at this;omega,hP,?_⟩
   unfold ClsEq classM;rw[if_pos hx];rfl
  ·refine⟨false,i,rfl,hi,hP,?_⟩
   unfold ClsEq classM;rw[if_neg hx]
   generalize clsM (sb p) i false (fun _=>false)=r
   cases r<;>rfl
 have HW1:Hid (PrAt w1 base g p j o∧Chg (fun k=>k=g) w w1∧ClsEq (sb p) i ng j false (fun _=>false)):=⟨hP1,hC1,hM⟩
 clear h1 hC1 hP1 hM HP
 go_upto_region 2 with fail
 apply wp_region_list
 refine wpList_moveS rfl _ rfl ?_
 refine wpList_build_cells rfl _ _ rfl (setA (fun _=>false)) (by simp;exact built_set) ?_
 simp only[Act.put,Act.eval,List.setIfInBounds_toArray,List.set_cons_succ,List.set_cons_zero]
 refine wpList_call_of rfl 170 #[.pointer (some ⟨g,0,none⟩),.agg (setA (fun _=>false))] (by simp[execOp,go_sem,Act.eval,Tryz.func170]) ?_
 refine(item_core (fun _=>false) HW1.1 hp hj).mono ?_
 rintro e w2 ⟨hC2,(⟨a,b,k,hk,rfl,hP2⟩|⟨c,k,hk,rfl⟩)⟩
 case inr=>
  refine⟨rfl,HW1.2.1.trans hC2,.inr ⟨c,k,?_,rfl⟩⟩
  rw[HW1.2.2.eq,cls_first (by rw[sb_len];exact hj),hk]
 obtain⟨fs,hfs⟩:=qE (wider (fun _=>false) a b)
 have hkp:k≤p.size:=by have:=(itemM_gt hk).2.1;rw[sb_len]at this;exact this
 have HW2:Hid (PrAt w2 base g p k o∧Chg (fun k=>k=g) w w2∧ClsEq (sb p) i ng k true fs):=by
  refine⟨hP2,HW1.2.1.trans hC2,?_⟩
  unfold ClsEq
  rw[HW1.2.2.eq,cls_first (by rw[sb_len];exact hj),hk,hfs]
 rw[←hfs]
 clear hC2 hk hP2 HW1 hfs
 simp only[Act.put,List.setIfInBounds_toArray,List.set_cons_succ,List.set_cons_zero]
 have hs2:=HW2.2.1.size
 have hzv:=(zero_of_info info_set).1
 have hsz:=setA_size fs
 have hsc:=run_storeCells_new (P:=Tryz.prog) w2 219 (Array.replicate 256 (.bool false)) (setA fs) (by rw[setA_size];exact(zero_of_info info_set).2) (by rw[setA_size];simp) (setA_one fs)
 obtain⟨W3,hW3⟩:=qE (w2.alloc (.cells (setA fs) 219))
 have HW3:Hid (PrAt W3 base g p k o∧Chg (fun k=>k=g) w W3∧SetAt W3 w.heap.size w2.heap.size fs∧w.heap.size≤w2.heap.size):=by
  rw[hW3]
  have hb:Below w2.heap.size w2 (w2.alloc (.cells (setA fs) 219)):=qB
  exact⟨BoxAt.below HW2.1 hb,HW2.2.1.trans (Chg.of_below hb),BoxAt.ofHeap (heap_alloc_last w2 _) hs2 (setA_size fs),hs2⟩
 have HM:Hid (ClsEq (sb p) i ng k true fs):=HW2.2.2
 go_wp2_with fail
 rw[←hW3]
 obtain⟨SB,hSB⟩:=qE w2.heap.size
 rw[←hSB]at HW3
 rw[←hSB]
 have hsbl:w.heap.size≤SB:=by omega
 clear hW3 hsc hzv hsz HW2 hSB hs2
 have hgsb:¬g=SB:=by omega
 go_loopw[] (fun wr=>∃(k:Nat) (f:UInt8→Bool),k≤p.size∧PrAt wr base g p k o∧Chg (fun k=>k=g) w wr∧SetAt wr w.heap.size SB f∧ClsEq (sb p) i ng k true f) (fun wr=>p.size-atOf wr g)
 case atStart=>exact⟨k,fs,hkp,HW3.1,HW3.2.1,HW3.2.2.1,HM.out⟩
 case round=>
  clear HW3 HM
  obtain⟨k,f,hk,h1,h2,h3,h4⟩:=hrel
  have HR:Hid (PrAt wr base g p k o∧Chg (fun k=>k=g) w wr∧SetAt wr w.heap.size SB f∧ClsEq (sb p) i ng k true f):=⟨h1,h2,h3,h4⟩
  have HA:Hid (atOf wr g=k):=atOf_pr h1
  clear h1 h2 h3 h4 hkp
  go_wp2_with fail
  refine(pskip_core 93 HR.1 hp).mono ?_
  rintro e w5 ⟨hC5,(⟨hx,rfl,hP5⟩|⟨hx,rfl,hP5⟩)⟩
  ·
   have HF:Hid (PrAt w5 base g p (k+1) o∧Chg (fun k=>k=g) w w5∧SetAt w5 w.heap.size SB f∧classM (sb p) i=.inl ((if ng=true then fun c=> !f c else f),k+1)):=by
    refine⟨hP5,HR.2.1.trans hC5,BoxAt.chg HR.2.2.1 hC5 (by omega),?_⟩
    rw[HR.2.2.2.eq,cls_shut hx]
   clear hC5 hx hP5 HR HA
   have hi2:(Tryz.prog.info? 219).map (·.size)=some 256:=(zero_of_info info_set).2
   cases ng
   ·have h0:=SetAt.heap HF.2.2.1
    go_upto_region 7 with fail
    apply wp_region_list
    refine wpList_load_row rfl 219 _ rfl SB rfl 219 (setA f) (0,0) _ h0 Tryz.underlying219 rfl (by rw[setA_size];exact hi2) ?_
    simp only[Act.put,Act.eval,List.setIfInBounds_toArray,List.set_cons_succ,List.set_cons_zero]
    refine wpList_build_cells rfl _ _ rfl (setA f) (by simp[Act.eval];exact built_cls _ (setA_size f)) ?_
    simp only[Act.put,Act.eval,List.setIfInBounds_toArray,List.set_cons_succ,List.set_cons_zero]
    clear h0
    go_wp2_with fail
    go_ret
    exact⟨HF.2.1,.inl ⟨f,k+1,HF.2.2.2,rfl,HF.1⟩⟩
   ·have h0:=SetAt.heap HF.2.2.1
    go_upto_region 6 with fail
    apply wp_region_list
    refine wpList_load_row rfl 219 _ rfl SB rfl 219 (setA f) (0,0) _ h0 Tryz.underlying219 rfl (by rw[setA_size];exact hi2) ?_
    simp only[Act.put,Act.eval,List.setIfInBounds_toArray,List.set_cons_succ,List.set_cons_zero]
    refine wpList_call_of rfl 167 #[.agg (setA f)] (by simp[execOp,go_sem,Act.eval,Tryz.func167]) ?_
    refine(opposite_core f w5).mono ?_
    rintro e w6 ⟨rfl,hb6⟩
    simp only[Act.put,Act.eval,List.setIfInBounds_toArray,List.set_cons_succ,List.set_cons_zero]
    have HF6:Hid (PrAt w6 base g p (k+1) o∧Chg (fun k=>k=g) w w6∧SetAt w6 w.heap.size SB f):=⟨BoxAt.below HF.1 hb6,HF.2.1.trans (Chg.of_below hb6),BoxAt.below HF.2.2.1 hb6⟩
    have h6:=SetAt.heap HF6.2.2
    refine wpList_store_row rfl 219 _ _ rfl SB (setA (fun c=> !f c)) rfl rfl 219 (setA f) h6 (by rw[setA_size];exact hi2) (by rw[setA_size,setA_size]) (setA_one _) ?_
    have h7:=setRow_heap _ _ _ (setA (fun c=> !f c)) _ _ h6
    obtain⟨W7,hW7⟩:=qE (w6.setRow SB (setA (fun c=> !f c)))
    have HF7:Hid (PrAt W7 base g p (k+1) o∧Chg (fun k=>k=g) w W7):=by
     have hc:=chg_setRow w6 SB (setA (fun c=> !f c))
     rw[hW7]
     exact⟨BoxAt.chg HF6.1 hc (by omega),HF6.2.1.absorb hc (fun j q=>.inr (by omega))⟩
    rw[←hW7]at h7⊢
    clear hW7 h6 h0 hb6
    apply wpList_nil
    go_upto_region 7 with fail
    apply wp_region_list
    refine wpList_load_row rfl 219 _ rfl SB rfl 219 (setA (fun c=> !f c)) (0,0) _ h7 Tryz.underlying219 rfl (by rw[setA_size];exact hi2) ?_
    simp only[Act.put,Act.eval,List.setIfInBounds_toArray,List.set_cons_succ,List.set_cons_zero]
    refine wpList_build_cells rfl _ _ rfl (setA (fun c=> !f c)) (by simp[Act.eval];exact built_cls _ (setA_size _)) ?_
    simp only[Act.put,Act.eval,List.setIfInBounds_toArray,List.set_cons_succ,List.set_cons_zero]
    clear h7
    go_wp2_with fail
    go_ret
    exact⟨HF7.2,.inl ⟨fun c=> !f c,k+1,HF.2.2.2,rfl,HF7.1⟩⟩
  ·have HF:Hid (PrAt w5 base g p k o∧Chg (fun k=>k=g) w w5∧SetAt w5 w.heap.size SB f∧¬(sb p)[k]?=some 93):=⟨hP5,HR.2.1.trans hC5,BoxAt.chg HR.2.2.1 hC5 (by omega),hx⟩
   have HM:Hid (ClsEq (sb p) i ng k true f):=HR.2.2.2
   clear hC5 hx hP5 HR
   have hi2:(Tryz.prog.info? 219).map (·.size)=some 256:=(zero_of_info info_set).2
   have h0:=SetAt.heap HF.2.2.1
   go_upto_region 4 with fail
   apply wp_region_list
   refine wpList_moveS rfl _ rfl ?_
   refine wpList_load_row rfl 219 _ rfl SB rfl 219 (setA f) (0,0) _ h0 Tryz.underlying219 rfl (by rw[setA_size];exact hi2) ?_
   simp only[Act.put,Act.eval,List.setIfInBounds_toArray,List.set_cons_succ,List.set_cons_zero]
   refine wpList_call_of rfl 170 #[.pointer (some ⟨g,0,none⟩),.agg (setA f)] (by simp[execOp,go_sem,Act.eval,Tryz.func170]) ?_
   refine(item_core f HF.1 hp hk).mono ?_
   rintro e w6 ⟨hC6,(⟨a,b,k6,hk6,rfl,hP6⟩|⟨c,k6,hk6,rfl⟩)⟩
   case inr=>
    refine⟨rfl,HF.2.1.trans hC6,.inr ⟨c,k6,?_,rfl⟩⟩
    rw[HM.eq,cls_more (by rw[sb_len];exact hk) HF.2.2.2,hk6]
   have HF6:Hid (PrAt w6 base g p k6 o∧Chg (fun k=>k=g) w w6∧SetAt w6 w.heap.size SB f):=⟨hP6,HF.2.1.trans hC6,BoxAt.chg HF.2.2.1 hC6 (by omega)⟩
   have hgt:=itemM_gt hk6
   rw[sb_len]at hgt
   have HM6:Hid (ClsEq (sb p) i ng k6 true (wider f a b)):=by
    show ClsEq _ _ _ _ _ _
    unfold ClsEq
    rw[HM.eq,cls_more (by rw[sb_len];exact hk) HF.2.2.2,hk6]
   clear hC6 hk6 hP6 h0 HM HF
   simp only[Act.put,Act.eval,List.setIfInBounds_toArray,List.set_cons_succ,List.set_cons_zero]
   have h6:=SetAt.heap HF6.2.2
   refine wpList_store_row rfl 219 _ _ rfl SB (setA (wider f a b)) rfl rfl 219 (setA f) h6 (by rw[setA_size];exact hi2) (by rw[setA_size,setA_size]) (setA_one _) ?_
   have h7:=setRow_heap _ _ _ (setA (wider f a b)) _ _ h6
   obtain⟨W7,hW7⟩:=qE (w6.setRow SB (setA (wider f a b)))
   have HF7:Hid (PrAt W7 base g p k6 o∧Chg (fun k=>k=g) w W7∧SetAt W7 w.heap.size SB (wider f a b)):=by
    have hc:=chg_setRow w6 SB (setA (wider f a b))
    rw[←hW7]at h7
    refine⟨?_,?_,BoxAt.ofHeap h7 hsbl (setA_size _)⟩
    ·rw[hW7];exact BoxAt.chg HF6.1 hc (by omega)
    ·rw[hW7];exact HF6.2.1.absorb hc (fun j q=>.inr (by omega))
   rw[←hW7]
   clear hW7 h6 h7
   apply wpList_nil
   go_wp2_with fail
   go_roundw
   case rel=>
    exact⟨_,_,_,_,_,_,⟨k6,wider f a b,hgt.2.1,HF7.1,HF7.2.1,HF7.2.2,HM6.out⟩,rfl⟩
   case measure=>rw[HA.out,atOf_pr HF7.1];omega
theorem ne_u8 {x c:UInt8} (h:¬x=c):¬(x.toNat:Int)=(c.toNat:Int):=fun q=>h (UInt8.toNat_inj.1 (by omega))
set_option maxHeartbeats 2000000 in
theorem l4Ch_core (p:ByteArray) (i:Nat) (w:World) (hp:p.size≤200) (hi:i≤300) (c:UInt8) (k:Nat) (b:Bool) (h:chM (sb p) i=(c,k,b)):
  Calls Tryz.prog 124 #[.string p,.int .i64 (i:Int)] w fun e w'=>e=.returned (.tuple #[.int .u8 (c.toNat:Int),.int .i64 (k:Int),.bool b])∧w'=w:=by
 have HM:Hid (chM (sb p) i=(c,k,b)):=h
 clear h
 by_cases hlt:i<p.size
 ·obtain⟨x,hx⟩:∃x,(sb p)[i]?=some x:=⟨_,List.getElem?_eq_getElem (by rw[sb_len];exact hlt)⟩
  obtain⟨_,gx⟩:=sb_get hx
  have z1:(i:Int)<(p.size:Int):=by omega
  have hle:¬p.size≤i:=by omega
  have HX:Hid ((sb p)[i]?=some x):=hx
  clear hx
  by_cases hend:x=93∨x=45
  ·have HF:c=0∧k=i∧b=false:=by
    have h1:chM (sb p) i=(0,i,false):=by unfold chM;rw[HX.out];simp only[];rw[if_pos hend]
    rw[HM.out]at h1
    simpa using h1
   obtain⟨rfl,rfl,rfl⟩:=HF
   rcases hend with rfl|rfl
   all_goals go_enter Tryz.func124,Tryz.ntmps124
   all_goals go_wp2_with fail
   all_goals refine bodyPost_ret (v:=.tuple #[.int .u8 0,.int .i64 (k:Int),.bool false]) (by simp[results,Tryz.results124,go_sem]) rfl ⟨rfl,rfl⟩
  have h93:((x.toNat:Int)==93)=false:=beq_eq_false_iff_ne.2 (ne_u8 (c:=93) (fun q=>hend (.inl q)))
  have h45:((x.toNat:Int)==45)=false:=beq_eq_false_iff_ne.2 (ne_u8 (c:=45) (fun q=>hend (.inr q)))
  by_cases h92:x=92
  ·subst h92
   by_cases hl2:i+1<p.size
   ·obtain⟨y,hy⟩:∃y,(sb p)[i+1]?=some y:=⟨_,List.getElem?_eq_getElem (by rw[sb_len];exact hl2)⟩
    obtain⟨_,gy⟩:=sb_get hy
    have HF:c=y∧k=i+2∧b=true:=by
     have h1:chM (sb p) i=(y,i+2,true):=by rw[chM_esc HX.out,hy]
     rw[HM.out]at h1
     simpa using h1
    obtain⟨rfl,rfl,rfl⟩:=HF
    have z2:(i:Int)+1<(p.size:Int):=by omega
    clear hy
    go_enter Tryz.func124,Tryz.ntmps124
    go_wp2_with fail
    refine bodyPost_ret (v:=.tuple #[.int .u8 (c.toNat:Int),.int .i64 ((i+2:Nat):Int),.bool true]) (by simp[results,Tryz.results124,go_sem]) rfl ⟨rfl,rfl⟩
   ·have HF:c=0∧k=i+1∧b=false:=by
     have h1:chM (sb p) i=(0,i+1,false):=by rw[chM_esc HX.out,List.getElem?_eq_none (by rw[sb_len];omega)]
     rw[HM.out]at h1
     simpa using h1
    obtain⟨rfl,rfl,rfl⟩:=HF
    have z2:¬(i:Int)+1<(p.size:Int):=by omega
    go_enter Tryz.func124,Tryz.ntmps124
    go_wp2_with fail
    refine bodyPost_ret (v:=.tuple #[.int .u8 0,.int .i64 ((i+1:Nat):Int),.bool false]) (by simp[results,Tryz.results124,go_sem]) rfl ⟨rfl,rfl⟩
  ·have z92:((x.toNat:Int)==92)=false:=beq_eq_false_iff_ne.2 (ne_u8 (c:=92) h92)
   have HF:c=x∧k=i+1∧b=true:=by
    have h1:chM (sb p) i=(x,i+1,true):=by unfold chM;rw[HX.out];simp only[];rw[if_neg hend,if_neg h92]
    rw[HM.out]at h1
    simpa using h1
   obtain⟨rfl,rfl,rfl⟩:=HF
   go_enter Tryz.func124,Tryz.ntmps124
   go_wp2_with fail
   refine bodyPost_ret (v:=.tuple #[.int .u8 (c.toNat:Int),.int .i64 ((i+1:Nat):Int),.bool true]) (by simp[results,Tryz.results124,go_sem]) rfl ⟨rfl,rfl⟩
 ·have HF:c=0∧k=i∧b=false:=by
   have h1:chM (sb p) i=(0,i,false):=chM_end (List.getElem?_eq_none (by rw[sb_len];omega))
   rw[HM.out]at h1
   simpa using h1
  obtain⟨rfl,rfl,rfl⟩:=HF
  have z1:¬(k:Int)<(p.size:Int):=by omega
  have z2:(p.size:Int)≤(k:Int):=by omega
  go_enter Tryz.func124,Tryz.ntmps124
  go_wp2_with fail
  refine bodyPost_ret (v:=.tuple #[.int .u8 0,.int .i64 (k:Int),.bool false]) (by simp[results,Tryz.results124,go_sem]) rfl ⟨rfl,rfl⟩
set_option maxHeartbeats 1000000 in
theorem l4Op_core (c:UInt8) (w:World):Calls Tryz.prog 106 #[.int .u8 (c.toNat:Int)] w fun e w'=>e=.returned (.bool (decide (isOp c)))∧w'=w:=by
 by_cases h42:c=42
 ·subst h42
  go_enter Tryz.func106,Tryz.ntmps106
  go_wp2_with fail
  go_ret
  exact⟨rfl,rfl⟩
 by_cases h43:c=43
 ·subst h43
  go_enter Tryz.func106,Tryz.ntmps106
  go_wp2_with fail
  go_ret
  exact⟨rfl,rfl⟩
 by_cases h63:c=63
 ·subst h63
  go_enter Tryz.func106,Tryz.ntmps106
  go_wp2_with fail
  go_ret
  exact⟨rfl,rfl⟩
 have z1:((c.toNat:Int)==42)=false:=beq_eq_false_iff_ne.2 (ne_u8 (c:=42) h42)
 have z2:((c.toNat:Int)==43)=false:=beq_eq_false_iff_ne.2 (ne_u8 (c:=43) h43)
 have z3:((c.toNat:Int)==63)=false:=beq_eq_false_iff_ne.2 (ne_u8 (c:=63) h63)
 have H:Hid (decide (isOp c)=false):=decide_eq_false (fun q=>q.elim h42 (fun q=>q.elim h43 h63))
 go_enter Tryz.func106,Tryz.ntmps106
 go_wp2_with fail
 go_ret
 exact⟨by rw[H.out];(first|rfl|simp[z3]),rfl⟩
theorem cls_go {p:List UInt8} {j:Nat} {b:Bool} {f:UInt8→Bool} (hj:j≤p.length) (h:¬(p[j]?=some 93∧b=true)):clsM p j b f=match itemM p j with| .inr e=>.inr e| .inl (a,b,k)=>clsM p k true (wider f a b):=by
 cases b
 ·exact cls_first hj
 ·exact cls_more hj (fun q=>h ⟨q,rfl⟩)
def ClassP (p:ByteArray) (i:Nat) (e:Ending):Prop:=
 (∃f k,classM (sb p) i=.inl (f,k)∧e=.returned (.tuple #[.int .i64 (k:Int),.agg #[.int .i64 0,.int .i64 0]]))∨(∃c k,classM (sb p) i=.inr (c,k)∧e=.returned (.tuple #[.int .i64 0,.agg #[.int .i64 c,.int .i64 (k:Int)]]))
theorem class_ret {base rb:Nat} {w:World} {a:Act} {x y z:Value} (hx:a.tmps.getD 4 undef=x) (ht:a.tmps.getD 5 undef=.pointer (some ⟨rb,0,none⟩)) (he:BoxAt w base 125 2 rb [y,z]):
  (results Tryz.f107 a.tmps).run Tryz.prog w=.ok (.tuple #[x,.agg #[y,z]]) w:=by
 obtain⟨q0,q1⟩:=he.c2
 have h1:a.tmps[4]?.getD undef=x:=by rw[←Array.getD_eq_getD_getElem?];exact hx
 have h2:a.tmps[5]?.getD undef=.pointer (some ⟨rb,0,none⟩):=by rw[←Array.getD_eq_getD_getElem?];exact ht
 simp[results,Tryz.results107,go_sem,h1,h2,q0,q1]
set_option maxHeartbeats 8000000 in
theorem l4Class_core (p:ByteArray) (i:Nat) (w:World) (hp:p.size≤200) (hi:i<p.size):
  Calls Tryz.prog 107 #[.string p,.int .i64 (i:Int)] w fun e w'=>ClassP p (i+1) e∧Below w.heap.size w w':=by
 obtain⟨W0,hW0⟩:=qE (w.alloc (Obj.cells #[.int .i64 0,.int .i64 0] 125):World)
 have HW0:Hid (BoxAt W0 w.heap.size 125 2 w.heap.size [.int .i64 0,.int .i64 0]∧Below w.heap.size w W0):=by
  rw[hW0];exact⟨boxAt_new w _ (Nat.le_refl _) rfl,qB⟩
 have HS:Hid (∀a b:Value,BoxAt ((W0.setCell ⟨w.heap.size,0,none⟩ a).setCell ⟨w.heap.size,1,none⟩ b) w.heap.size 125 2 w.heap.size [a,b]∧Below w.heap.size w ((W0.setCell ⟨w.heap.size,0,none⟩ a).setCell ⟨w.heap.size,1,none⟩ b)):=fun a b=>⟨(HW0.1.set 0 a).set 1 b,below_set (below_set HW0.2 (Nat.le_refl _) 0 _) (Nat.le_refl _) 1 _⟩
 obtain⟨r0,r1⟩:=HW0.1.c2
 have f0:=HW0.1.frozen 0
 have f1:=HW0.1.frozen 1
 clear HW0
 obtain⟨ng,j0,hng,hj0,hM0⟩:∃(ng:Bool) (j0:Nat),j0=(if ng=true then i+2 else i+1)∧j0≤p.size∧(ClsEq (sb p) (i+1) ng j0 false (fun _=>false)∧(ng=true↔(sb p)[i+1]?=some 94)):=by
  by_cases hx:(sb p)[i+1]?=some 94
  ·refine⟨true,i+2,rfl,by have:=lt_of_at hx;rw[sb_len]at this;omega,?_,⟨fun _=>hx,fun _=>rfl⟩⟩
   unfold ClsEq classM;rw[if_pos hx];rfl
  ·refine⟨false,i+1,rfl,by omega,?_,⟨fun q=>(by cases q),fun q=>absurd q hx⟩⟩
   unfold ClsEq classM;rw[if_neg hx]
   generalize clsM (sb p) (i+1) false (fun _=>false)=r
   cases r<;>rfl
 have HM0:Hid (ClsEq (sb p) (i+1) ng j0 false (fun _=>false)):=hM0.1
 have HNG:Hid (ng=true↔(sb p)[i+1]?=some 94):=hM0.2
 have HJ0:Hid (j0=if ng=true then i+2 else i+1):=hng
 clear hM0 hng
 go_enter Tryz.func107,Tryz.ntmps107
 go_upto_region 1 with fail
 rw[←hW0]
 clear hW0
 by_cases hi1:i+1<p.size
 ·obtain⟨x0,hx0⟩:∃x,(sb p)[i+1]?=some x:=⟨_,List.getElem?_eq_getElem (by rw[sb_len];exact hi1)⟩
  obtain⟨_,gx0⟩:=sb_get hx0
  have zi1:(i:Int)+1<(p.size:Int):=by omega
  cases ng
  ·have z94:((x0.toNat:Int)==94)=false:=beq_eq_false_iff_ne.2 (ne_u8 (c:=94) (fun q=>by have h1:=HNG.2 (by rw[hx0,q]);cases h1))
   clear hx0
   go_wp2_with fail
   go_loopw[6,7] (fun jv nv wr=>∃(j n:Nat) (f:UInt8→Bool),j≤p.size∧n≤j∧jv=.int .i64 (j:Int)∧nv=.int .i64 (n:Int)∧ClsEq (sb p) (i+1) false j (decide (0<n)) f∧wr=W0) (fun jv _ _=>p.size-(intOf jv).toNat)
   case atStart=>exact⟨j0,0,fun _=>false,hj0,Nat.zero_le _,congrArg (Value.int .i64) (by rw[HJ0.out];simp<;>omega),rfl,HM0.out,rfl⟩
   case round=>
    obtain⟨j,n,f,hj,hnj,rfl,rfl,hE,hwr⟩:=hrel
    have HE:Hid (ClsEq (sb p) (i+1) false j (decide (0<n)) f):=hE
    rw[hwr]
    clear hE hwr HM0 HJ0 HNG
    by_cases hlt:j<p.size
    ·obtain⟨x,hx⟩:∃x,(sb p)[j]?=some x:=⟨_,List.getElem?_eq_getElem (by rw[sb_len];exact hlt)⟩
     obtain⟨_,gx⟩:=sb_get hx
     have HX:Hid ((sb p)[j]?=some x):=hx
     have zj:(j:Int)<(p.size:Int):=by omega
     clear hx
     by_cases hend:x=93∧0<n
     ·obtain⟨rfl,hn0⟩:=hend
      have zn:(0:Int)<(n:Int):=by omega
      have HF:Hid (∃f',classM (sb p) (i+1)=.inl (f',j+1)):=by
       refine⟨if false=true then fun c=> !f c else f,?_⟩
       rw[HE.eq,decide_eq_true hn0,cls_shut HX.out]
      obtain⟨f',hf'⟩:=HF.out
      have HF':Hid (classM (sb p) (i+1)=.inl (f',j+1)):=hf'
      clear hf' HF
      go_wp2_with fail
      exact bodyPost_ret (v:=.tuple #[.int .i64 ((j+1:Nat):Int),.agg #[.int .i64 0,.int .i64 0]]) (class_ret rfl rfl (HS.out (.int .i64 0) (.int .i64 0)).1) rfl ⟨.inl ⟨f',j+1,HF'.out,rfl⟩,(HS.out (.int .i64 0) (.int .i64 0)).2⟩
     ·have HG:Hid (clsM (sb p) j (decide (0<n)) f=match itemM (sb p) j with| .inr e=>.inr e| .inl (a,b,k)=>clsM (sb p) k true (wider f a b)):=cls_go (by rw[sb_len];omega) (fun q=>hend ⟨by have h1:=q.1;rw[HX.out]at h1;exact Option.some.inj h1,by simpa using q.2⟩)
      obtain⟨lo,k,b,hch⟩:∃lo k b,chM (sb p) j=(lo,k,b):=⟨_,_,_,rfl⟩
      have HCh:Hid (chM (sb p) j=(lo,k,b)):=hch
      have hkl:b=true→k≤p.size∧j<k:=fun q=>by
       subst q
       have:=chM_gt hch
       rw[sb_len]at this
       omega
      clear hch
      have hpick:((x.toNat:Int)==93)=false∨(¬(0:Int)<(n:Int)):=by
       by_cases h93:x=93
       ·exact .inr (fun q=>hend ⟨h93,by omega⟩)
       ·exact .inl (beq_eq_false_iff_ne.2 (ne_u8 (c:=93) h93))
      clear hend
      have hpk:(((x.toNat:Int)==93)=false)∨(((x.toNat:Int)==93)=true∧n=0):=by
       rcases hpick with q|q
       ·exact .inl q
       ·cases hq:((x.toNat:Int)==93)
        ·exact .inl rfl
        ·exact .inr ⟨rfl,by omega⟩
      clear hpick
      rcases hpk with h93|⟨h93,hn0⟩
      case' inr=>
       have zn:¬(0:Int)<(n:Int):=by omega
       clear hn0
      all_goals
       go_wp2_with fail
       refine(l4Ch_core p j W0 hp (by omega) lo k b HCh.out).mono ?_
       rintro e w1 ⟨rfl,hw1⟩
       rw[hw1]
       clear hw1
       cases b
       case false=>
        have HF:Hid (classM (sb p) (i+1)=.inr (2,k)):=by
         show classM (sb p) (i+1)=_
         rw[HE.eq,HG.out]
         unfold itemM
         rw[HCh.out]
        go_wp2_with fail
        exact bodyPost_ret (v:=.tuple #[.int .i64 0,.agg #[.int .i64 2,.int .i64 (k:Int)]]) (class_ret rfl rfl (HS.out (.int .i64 2) (.int .i64 (k:Int))).1) rfl ⟨.inr ⟨2,k,HF.out,rfl⟩,(HS.out (.int .i64 2) (.int .i64 (k:Int))).2⟩
       obtain⟨hks,hjk⟩:=hkl rfl
       clear hkl
       by_cases h45:(sb p)[k]?=some 45
       ·obtain⟨hk2,gk⟩:=sb_get h45
        have HK:Hid ((sb p)[k]?=some 45):=h45
        have zk:(k:Int)<(p.size:Int):=by omega
        obtain⟨hh,m,b2,hch2⟩:∃hh m b2,chM (sb p) (k+1)=(hh,m,b2):=⟨_,_,_,rfl⟩
        have HCh2:Hid (chM (sb p) (k+1)=(hh,m,b2)):=hch2
        have hml:b2=true→m≤p.size∧k<m:=fun q=>by
         subst q
         have:=chM_gt hch2
         rw[sb_len]at this
         omega
        clear hch2 h45
        go_wp2_with fail
        refine(l4Ch_core p (k+1) W0 hp (by omega) hh m b2 HCh2.out).mono ?_
        rintro e w2 ⟨rfl,hw2⟩
        rw[hw2]
        clear hw2
        cases b2
        ·have HF:Hid (classM (sb p) (i+1)=.inr (2,m)):=by
          show classM (sb p) (i+1)=_
          rw[HE.eq,HG.out]
          unfold itemM
          rw[HCh.out]
          simp only[]
          rw[if_pos HK.out,HCh2.out]
         go_wp2_with fail
         exact bodyPost_ret (v:=.tuple #[.int .i64 0,.agg #[.int .i64 2,.int .i64 (m:Int)]]) (class_ret rfl rfl (HS.out (.int .i64 2) (.int .i64 (m:Int))).1) rfl ⟨.inr ⟨2,m,HF.out,rfl⟩,(HS.out (.int .i64 2) (.int .i64 (m:Int))).2⟩
        ·obtain⟨hms,hkm⟩:=hml rfl
         clear hml
         by_cases hlo:hh<lo
         ·have zlo:(hh.toNat:Int)<(lo.toNat:Int):=by have:=UInt8.lt_iff_toNat_lt.1 hlo;omega
          have HF:Hid (classM (sb p) (i+1)=.inr (4,j)):=by
           show classM (sb p) (i+1)=_
           rw[HE.eq,HG.out]
           unfold itemM
           rw[HCh.out]
           simp only[]
           rw[if_pos HK.out,HCh2.out]
           simp only[]
           rw[if_pos hlo]
          go_wp2_with fail
          exact bodyPost_ret (v:=.tuple #[.int .i64 0,.agg #[.int .i64 4,.int .i64 (j:Int)]]) (class_ret rfl rfl (HS.out (.int .i64 4) (.int .i64 (j:Int))).1) rfl ⟨.inr ⟨4,j,HF.out,rfl⟩,(HS.out (.int .i64 4) (.int .i64 (j:Int))).2⟩
         ·have zlo:(lo.toNat:Int)≤(hh.toNat:Int):=by have:=UInt8.le_iff_toNat_le.1 (UInt8.not_lt.1 hlo);omega
          have HF:Hid (ClsEq (sb p) (i+1) false m true (wider f lo hh)):=by
           show ClsEq _ _ _ _ _ _
           unfold ClsEq
           rw[HE.eq,HG.out]
           unfold itemM
           rw[HCh.out]
           simp only[]
           rw[if_pos HK.out,HCh2.out]
           simp only[]
           rw[if_neg hlo]
          clear hlo
          go_wp2_with fail
          go_roundw
          case rel=>exact⟨m,n+1,wider f lo hh,hms,by omega,rfl,by go_num,by rw[decide_eq_true (Nat.succ_pos n)];exact HF.out,trivial⟩
          case measure=>simp[intOf];omega
       ·have HK:Hid (¬(sb p)[k]?=some 45):=h45
        have HF:Hid (ClsEq (sb p) (i+1) false k true (wider f lo lo)):=by
         show ClsEq _ _ _ _ _ _
         unfold ClsEq
         rw[HE.eq,HG.out]
         unfold itemM
         rw[HCh.out]
         simp only[]
         rw[if_neg HK.out]
        clear h45
        by_cases hke:k<p.size
        ·obtain⟨y,hy⟩:∃y,(sb p)[k]?=some y:=⟨_,List.getElem?_eq_getElem (by rw[sb_len];exact hke)⟩
         obtain⟨_,gy⟩:=sb_get hy
         have zk:(k:Int)<(p.size:Int):=by omega
         have zy:((y.toNat:Int)==45)=false:=beq_eq_false_iff_ne.2 (ne_u8 (c:=45) (fun q=>HK.out (by rw[hy,q])))
         clear hy
         go_wp2_with fail
         go_roundw
         case rel=>exact⟨k,n+1,wider f lo lo,hks,by omega,rfl,by go_num,by rw[decide_eq_true (Nat.succ_pos n)];exact HF.out,trivial⟩
         case measure=>simp[intOf];omega
        ·have zk:¬(k:Int)<(p.size:Int):=by omega
         go_wp2_with fail
         go_roundw
         case rel=>exact⟨k,n+1,wider f lo lo,hks,by omega,rfl,by go_num,by rw[decide_eq_true (Nat.succ_pos n)];exact HF.out,trivial⟩
         case measure=>simp[intOf];omega
    ·have HF:Hid (classM (sb p) (i+1)=.inr (2,p.size)):=by
      show classM (sb p) (i+1)=_
      rw[HE.eq,clsM,dif_neg (by rw[sb_len];exact hlt),sb_len]
     have zj:¬(j:Int)<(p.size:Int):=by omega
     go_wp2_with fail
     exact bodyPost_ret (v:=.tuple #[.int .i64 0,.agg #[.int .i64 2,.int .i64 (p.size:Int)]]) (class_ret rfl rfl (HS.out (.int .i64 2) (.int .i64 (p.size:Int))).1) rfl ⟨.inr ⟨2,p.size,HF.out,rfl⟩,(HS.out (.int .i64 2) (.int .i64 (p.size:Int))).2⟩
  ·have h94:x0=94:=by have h1:=HNG.1 rfl;rw[hx0]at h1;exact Option.some.inj h1
   subst h94
   clear hx0
   go_wp2_with fail
   go_loopw[6,7] (fun jv nv wr=>∃(j n:Nat) (f:UInt8→Bool),j≤p.size∧n≤j∧jv=.int .i64 (j:Int)∧nv=.int .i64 (n:Int)∧ClsEq (sb p) (i+1) true j (decide (0<n)) f∧wr=W0) (fun jv _ _=>p.size-(intOf jv).toNat)
   case atStart=>exact⟨j0,0,fun _=>false,hj0,Nat.zero_le _,congrArg (Value.int .i64) (by rw[HJ0.out];simp<;>omega),rfl,HM0.out,rfl⟩
   case round=>
    obtain⟨j,n,f,hj,hnj,rfl,rfl,hE,hwr⟩:=hrel
    have HE:Hid (ClsEq (sb p) (i+1) true j (decide (0<n)) f):=hE
    rw[hwr]
    clear hE hwr HM0 HJ0 HNG
    by_cases hlt:j<p.size
    ·obtain⟨x,hx⟩:∃x,(sb p)[j]?=some x:=⟨_,List.getElem?_eq_getElem (by rw[sb_len];exact hlt)⟩
     obtain⟨_,gx⟩:=sb_get hx
     have HX:Hid ((sb p)[j]?=some x):=hx
     have zj:(j:Int)<(p.size:Int):=by omega
     clear hx
     by_cases hend:x=93∧0<n
     ·obtain⟨rfl,hn0⟩:=hend
      have zn:(0:Int)<(n:Int):=by omega
      have HF:Hid (∃f',classM (sb p) (i+1)=.inl (f',j+1)):=by
       refine⟨if true=true then fun c=> !f c else f,?_⟩
       rw[HE.eq,decide_eq_true hn0,cls_shut HX.out]
      obtain⟨f',hf'⟩:=HF.out
      have HF':Hid (classM (sb p) (i+1)=.inl (f',j+1)):=hf'
      clear hf' HF
      go_wp2_with fail
      exact bodyPost_ret (v:=.tuple #[.int .i64 ((j+1:Nat):Int),.agg #[.int .i64 0,.int .i64 0]]) (class_ret rfl rfl (HS.out (.int .i64 0) (.int .i64 0)).1) rfl ⟨.inl ⟨f',j+1,HF'.out,rfl⟩,(HS.out (.int .i64 0) (.int .i64 0)).2⟩
     ·have HG:Hid (clsM (sb p) j (decide (0<n)) f=match itemM (sb p) j with| .inr e=>.inr e| .inl (a,b,k)=>clsM (sb p) k true (wider f a b)):=cls_go (by rw[sb_len];omega) (fun q=>hend ⟨by have h1:=q.1;rw[HX.out]at h1;exact Option.some.inj h1,by simpa using q.2⟩)
      obtain⟨lo,k,b,hch⟩:∃lo k b,chM (sb p) j=(lo,k,b):=⟨_,_,_,rfl⟩
      have HCh:Hid (chM (sb p) j=(lo,k,b)):=hch
      have hkl:b=true→k≤p.size∧j<k:=fun q=>by
       subst q
       have:=chM_gt hch
       rw[sb_len]at this
       omega
      clear hch
      have hpick:((x.toNat:Int)==93)=false∨(¬(0:Int)<(n:Int)):=by
       by_cases h93:x=93
       ·exact .inr (fun q=>hend ⟨h93,by omega⟩)
       ·exact .inl (beq_eq_false_iff_ne.2 (ne_u8 (c:=93) h93))
      clear hend
      have hpk:(((x.toNat:Int)==93)=false)∨(((x.toNat:Int)==93)=true∧n=0):=by
       rcases hpick with q|q
       ·exact .inl q
       ·cases hq:((x.toNat:Int)==93)
        ·exact .inl rfl
        ·exact .inr ⟨rfl,by omega⟩
      clear hpick
      rcases hpk with h93|⟨h93,hn0⟩
      case' inr=>
       have zn:¬(0:Int)<(n:Int):=by omega
       clear hn0
      all_goals
       go_wp2_with fail
       refine(l4Ch_core p j W0 hp (by omega) lo k b HCh.out).mono ?_
       rintro e w1 ⟨rfl,hw1⟩
       rw[hw1]
       clear hw1
       cases b
       case false=>
        have HF:Hid (classM (sb p) (i+1)=.inr (2,k)):=by
         show classM (sb p) (i+1)=_
         rw[HE.eq,HG.out]
         unfold itemM
         rw[HCh.out]
        go_wp2_with fail
        exact bodyPost_ret (v:=.tuple #[.int .i64 0,.agg #[.int .i64 2,.int .i64 (k:Int)]]) (class_ret rfl rfl (HS.out (.int .i64 2) (.int .i64 (k:Int))).1) rfl ⟨.inr ⟨2,k,HF.out,rfl⟩,(HS.out (.int .i64 2) (.int .i64 (k:Int))).2⟩
       obtain⟨hks,hjk⟩:=hkl rfl
       clear hkl
       by_cases h45:(sb p)[k]?=some 45
       ·obtain⟨hk2,gk⟩:=sb_get h45
        have HK:Hid ((sb p)[k]?=some 45):=h45
        have zk:(k:Int)<(p.size:Int):=by omega
        obtain⟨hh,m,b2,hch2⟩:∃hh m b2,chM (sb p) (k+1)=(hh,m,b2):=⟨_,_,_,rfl⟩
        have HCh2:Hid (chM (sb p) (k+1)=(hh,m,b2)):=hch2
        have hml:b2=true→m≤p.size∧k<m:=fun q=>by
         subst q
         have:=chM_gt hch2
         rw[sb_len]at this
         omega
        clear hch2 h45
        go_wp2_with fail
        refine(l4Ch_core p (k+1) W0 hp (by omega) hh m b2 HCh2.out).mono ?_
        rintro e w2 ⟨rfl,hw2⟩
        rw[hw2]
        clear hw2
        cases b2
        ·have HF:Hid (classM (sb p) (i+1)=.inr (2,m)):=by
          show classM (sb p) (i+1)=_
          rw[HE.eq,HG.out]
          unfold itemM
          rw[HCh.out]
          simp only[]
          rw[if_pos HK.out,HCh2.out]
         go_wp2_with fail
         exact bodyPost_ret (v:=.tuple #[.int .i64 0,.agg #[.int .i64 2,.int .i64 (m:Int)]]) (class_ret rfl rfl (HS.out (.int .i64 2) (.int .i64 (m:Int))).1) rfl ⟨.inr ⟨2,m,HF.out,rfl⟩,(HS.out (.int .i64 2) (.int .i64 (m:Int))).2⟩
        ·obtain⟨hms,hkm⟩:=hml rfl
         clear hml
         by_cases hlo:hh<lo
         ·have zlo:(hh.toNat:Int)<(lo.toNat:Int):=by have:=UInt8.lt_iff_toNat_lt.1 hlo;omega
          have HF:Hid (classM (sb p) (i+1)=.inr (4,j)):=by
           show classM (sb p) (i+1)=_
           rw[HE.eq,HG.out]
           unfold itemM
           rw[HCh.out]
           simp only[]
           rw[if_pos HK.out,HCh2.out]
           simp only[]
           rw[if_pos hlo]
          go_wp2_with fail
          exact bodyPost_ret (v:=.tuple #[.int .i64 0,.agg #[.int .i64 4,.int .i64 (j:Int)]]) (class_ret rfl rfl (HS.out (.int .i64 4) (.int .i64 (j:Int))).1) rfl ⟨.inr ⟨4,j,HF.out,rfl⟩,(HS.out (.int .i64 4) (.int .i64 (j:Int))).2⟩
         ·have zlo:(lo.toNat:Int)≤(hh.toNat:Int):=by have:=UInt8.le_iff_toNat_le.1 (UInt8.not_lt.1 hlo);omega
          have HF:Hid (ClsEq (sb p) (i+1) true m true (wider f lo hh)):=by
           show ClsEq _ _ _ _ _ _
           unfold ClsEq
           rw[HE.eq,HG.out]
           unfold itemM
           rw[HCh.out]
           simp only[]
           rw[if_pos HK.out,HCh2.out]
           simp only[]
           rw[if_neg hlo]
          clear hlo
          go_wp2_with fail
          go_roundw
          case rel=>exact⟨m,n+1,wider f lo hh,hms,by omega,rfl,by go_num,by rw[decide_eq_true (Nat.succ_pos n)];exact HF.out,trivial⟩
          case measure=>simp[intOf];omega
       ·have HK:Hid (¬(sb p)[k]?=some 45):=h45
        have HF:Hid (ClsEq (sb p) (i+1) true k true (wider f lo lo)):=by
         show ClsEq _ _ _ _ _ _
         unfold ClsEq
         rw[HE.eq,HG.out]
         unfold itemM
         rw[HCh.out]
         simp only[]
         rw[if_neg HK.out]
        clear h45
        by_cases hke:k<p.size
        ·obtain⟨y,hy⟩:∃y,(sb p)[k]?=some y:=⟨_,List.getElem?_eq_getElem (by rw[sb_len];exact hke)⟩
         obtain⟨_,gy⟩:=sb_get hy
         have zk:(k:Int)<(p.size:Int):=by omega
         have zy:((y.toNat:Int)==45)=false:=beq_eq_false_iff_ne.2 (ne_u8 (c:=45) (fun q=>HK.out (by rw[hy,q])))
         clear hy
         go_wp2_with fail
         go_roundw
         case rel=>exact⟨k,n+1,wider f lo lo,hks,by omega,rfl,by go_num,by rw[decide_eq_true (Nat.succ_pos n)];exact HF.out,trivial⟩
         case measure=>simp[intOf];omega
        ·have zk:¬(k:Int)<(p.size:Int):=by omega
         go_wp2_with fail
         go_roundw
         case rel=>exact⟨k,n+1,wider f lo lo,hks,by omega,rfl,by go_num,by rw[decide_eq_true (Nat.succ_pos n)];exact HF.out,trivial⟩
         case measure=>simp[intOf];omega
    ·have HF:Hid (classM (sb p) (i+1)=.inr (2,p.size)):=by
      show classM (sb p) (i+1)=_
      rw[HE.eq,clsM,dif_neg (by rw[sb_len];exact hlt),sb_len]
     have zj:¬(j:Int)<(p.size:Int):=by omega
     go_wp2_with fail
     exact bodyPost_ret (v:=.tuple #[.int .i64 0,.agg #[.int .i64 2,.int .i64 (p.size:Int)]]) (class_ret rfl rfl (HS.out (.int .i64 2) (.int .i64 (p.size:Int))).1) rfl ⟨.inr ⟨2,p.size,HF.out,rfl⟩,(HS.out (.int .i64 2) (.int .i64 (p.size:Int))).2⟩
 ·have zi1:¬(i:Int)+1<(p.size:Int):=by omega
  cases ng
  case true=>exact absurd (HNG.1 rfl) (by rw[List.getElem?_eq_none (by rw[sb_len];omega)];exact fun q=>by cases q)
  go_wp2_with fail
  go_loopw[6,7] (fun jv nv wr=>∃(j n:Nat) (f:UInt8→Bool),j≤p.size∧n≤j∧jv=.int .i64 (j:Int)∧nv=.int .i64 (n:Int)∧ClsEq (sb p) (i+1) false j (decide (0<n)) f∧wr=W0) (fun jv _ _=>p.size-(intOf jv).toNat)
  case atStart=>exact⟨j0,0,fun _=>false,hj0,Nat.zero_le _,congrArg (Value.int .i64) (by rw[HJ0.out];simp<;>omega),rfl,HM0.out,rfl⟩
  case round=>
   obtain⟨j,n,f,hj,hnj,rfl,rfl,hE,hwr⟩:=hrel
   have HE:Hid (ClsEq (sb p) (i+1) false j (decide (0<n)) f):=hE
   rw[hwr]
   clear hE hwr HM0 HJ0 HNG
   by_cases hlt:j<p.size
   ·obtain⟨x,hx⟩:∃x,(sb p)[j]?=some x:=⟨_,List.getElem?_eq_getElem (by rw[sb_len];exact hlt)⟩
    obtain⟨_,gx⟩:=sb_get hx
    have HX:Hid ((sb p)[j]?=some x):=hx
    have zj:(j:Int)<(p.size:Int):=by omega
    clear hx
    by_cases hend:x=93∧0<n
    ·obtain⟨rfl,hn0⟩:=hend
     have zn:(0:Int)<(n:Int):=by omega
     have HF:Hid (∃f',classM (sb p) (i+1)=.inl (f',j+1)):=by
      refine⟨if false=true then fun c=> !f c else f,?_⟩
      rw[HE.eq,decide_eq_true hn0,cls_shut HX.out]
     obtain⟨f',hf'⟩:=HF.out
     have HF':Hid (classM (sb p) (i+1)=.inl (f',j+1)):=hf'
     clear hf' HF
     go_wp2_with fail
     exact bodyPost_ret (v:=.tuple #[.int .i64 ((j+1:Nat):Int),.agg #[.int .i64 0,.int .i64 0]]) (class_ret rfl rfl (HS.out (.int .i64 0) (.int .i64 0)).1) rfl ⟨.inl ⟨f',j+1,HF'.out,rfl⟩,(HS.out (.int .i64 0) (.int .i64 0)).2⟩
    ·have HG:Hid (clsM (sb p) j (decide (0<n)) f=match itemM (sb p) j with| .inr e=>.inr e| .inl (a,b,k)=>clsM (sb p) k true (wider f a b)):=cls_go (by rw[sb_len];omega) (fun q=>hend ⟨by have h1:=q.1;rw[HX.out]at h1;exact Option.some.inj h1,by simpa using q.2⟩)
     obtain⟨lo,k,b,hch⟩:∃lo k b,chM (sb p) j=(lo,k,b):=⟨_,_,_,rfl⟩
     have HCh:Hid (chM (sb p) j=(lo,k,b)):=hch
     have hkl:b=true→k≤p.size∧j<k:=fun q=>by
      subst q
      have:=chM_gt hch
      rw[sb_len]at this
      omega
     clear hch
     have hpick:((x.toNat:Int)==93)=false∨(¬(0:Int)<(n:Int)):=by
      by_cases h93:x=93
      ·exact .inr (fun q=>hend ⟨h93,by omega⟩)
      ·exact .inl (beq_eq_false_iff_ne.2 (ne_u8 (c:=93) h93))
     clear hend
     have hpk:(((x.toNat:Int)==93)=false)∨(((x.toNat:Int)==93)=true∧n=0):=by
      rcases hpick with q|q
      ·exact .inl q
      ·cases hq:((x.toNat:Int)==93)
       ·exact .inl rfl
       ·exact .inr ⟨rfl,by omega⟩
     clear hpick
     rcases hpk with h93|⟨h93,hn0⟩
     case' inr=>
      have zn:¬(0:Int)<(n:Int):=by omega
      clear hn0
     all_goals
      go_wp2_with fail
      refine(l4Ch_core p j W0 hp (by omega) lo k b HCh.out).mono ?_
      rintro e w1 ⟨rfl,hw1⟩
      rw[hw1]
      clear hw1
      cases b
      case false=>
       have HF:Hid (classM (sb p) (i+1)=.inr (2,k)):=by
        show classM (sb p) (i+1)=_
        rw[HE.eq,HG.out]
        unfold itemM
        rw[HCh.out]
       go_wp2_with fail
       exact bodyPost_ret (v:=.tuple #[.int .i64 0,.agg #[.int .i64 2,.int .i64 (k:Int)]]) (class_ret rfl rfl (HS.out (.int .i64 2) (.int .i64 (k:Int))).1) rfl ⟨.inr ⟨2,k,HF.out,rfl⟩,(HS.out (.int .i64 2) (.int .i64 (k:Int))).2⟩
      obtain⟨hks,hjk⟩:=hkl rfl
      clear hkl
      by_cases h45:(sb p)[k]?=some 45
      ·obtain⟨hk2,gk⟩:=sb_get h45
       have HK:Hid ((sb p)[k]?=some 45):=h45
       have zk:(k:Int)<(p.size:Int):=by omega
       obtain⟨hh,m,b2,hch2⟩:∃hh m b2,chM (sb p) (k+1)=(hh,m,b2):=⟨_,_,_,rfl⟩
       have HCh2:Hid (chM (sb p) (k+1)=(hh,m,b2)):=hch2
       have hml:b2=true→m≤p.size∧k<m:=fun q=>by
        subst q
        have:=chM_gt hch2
        rw[sb_len]at this
        omega
       clear hch2 h45
       go_wp2_with fail
       refine(l4Ch_core p (k+1) W0 hp (by omega) hh m b2 HCh2.out).mono ?_
       rintro e w2 ⟨rfl,hw2⟩
       rw[hw2]
       clear hw2
       cases b2
       ·have HF:Hid (classM (sb p) (i+1)=.inr (2,m)):=by
         show classM (sb p) (i+1)=_
         rw[HE.eq,HG.out]
         unfold itemM
         rw[HCh.out]
         simp only[]
         rw[if_pos HK.out,HCh2.out]
        go_wp2_with fail
        exact bodyPost_ret (v:=.tuple #[.int .i64 0,.agg #[.int .i64 2,.int .i64 (m:Int)]]) (class_ret rfl rfl (HS.out (.int .i64 2) (.int .i64 (m:Int))).1) rfl ⟨.inr ⟨2,m,HF.out,rfl⟩,(HS.out (.int .i64 2) (.int .i64 (m:Int))).2⟩
       ·obtain⟨hms,hkm⟩:=hml rfl
        clear hml
        by_cases hlo:hh<lo
        ·have zlo:(hh.toNat:Int)<(lo.toNat:Int):=by have:=UInt8.lt_iff_toNat_lt.1 hlo;omega
         have HF:Hid (classM (sb p) (i+1)=.inr (4,j)):=by
          show classM (sb p) (i+1)=_
          rw[HE.eq,HG.out]
          unfold itemM
          rw[HCh.out]
          simp only[]
          rw[if_pos HK.out,HCh2.out]
          simp only[]
          rw[if_pos hlo]
         go_wp2_with fail
         exact bodyPost_ret (v:=.tuple #[.int .i64 0,.agg #[.int .i64 4,.int .i64 (j:Int)]]) (class_ret rfl rfl (HS.out (.int .i64 4) (.int .i64 (j:Int))).1) rfl ⟨.inr ⟨4,j,HF.out,rfl⟩,(HS.out (.int .i64 4) (.int .i64 (j:Int))).2⟩
        ·have zlo:(lo.toNat:Int)≤(hh.toNat:Int):=by have:=UInt8.le_iff_toNat_le.1 (UInt8.not_lt.1 hlo);omega
         have HF:Hid (ClsEq (sb p) (i+1) false m true (wider f lo hh)):=by
          show ClsEq _ _ _ _ _ _
          unfold ClsEq
          rw[HE.eq,HG.out]
          unfold itemM
          rw[HCh.out]
          simp only[]
          rw[if_pos HK.out,HCh2.out]
          simp only[]
          rw[if_neg hlo]
         clear hlo
         go_wp2_with fail
         go_roundw
         case rel=>exact⟨m,n+1,wider f lo hh,hms,by omega,rfl,by go_num,by rw[decide_eq_true (Nat.succ_pos n)];exact HF.out,trivial⟩
         case measure=>simp[intOf];omega
      ·have HK:Hid (¬(sb p)[k]?=some 45):=h45
       have HF:Hid (ClsEq (sb p) (i+1) false k true (wider f lo lo)):=by
        show ClsEq _ _ _ _ _ _
        unfold ClsEq
        rw[HE.eq,HG.out]
        unfold itemM
        rw[HCh.out]
        simp only[]
        rw[if_neg HK.out]
       clear h45
       by_cases hke:k<p.size
       ·obtain⟨y,hy⟩:∃y,(sb p)[k]?=some y:=⟨_,List.getElem?_eq_getElem (by rw[sb_len];exact hke)⟩
        obtain⟨_,gy⟩:=sb_get hy
        have zk:(k:Int)<(p.size:Int):=by omega
        have zy:((y.toNat:Int)==45)=false:=beq_eq_false_iff_ne.2 (ne_u8 (c:=45) (fun q=>HK.out (by rw[hy,q])))
        clear hy
        go_wp2_with fail
        go_roundw
        case rel=>exact⟨k,n+1,wider f lo lo,hks,by omega,rfl,by go_num,by rw[decide_eq_true (Nat.succ_pos n)];exact HF.out,trivial⟩
        case measure=>simp[intOf];omega
       ·have zk:¬(k:Int)<(p.size:Int):=by omega
        go_wp2_with fail
        go_roundw
        case rel=>exact⟨k,n+1,wider f lo lo,hks,by omega,rfl,by go_num,by rw[decide_eq_true (Nat.succ_pos n)];exact HF.out,trivial⟩
        case measure=>simp[intOf];omega
   ·have HF:Hid (classM (sb p) (i+1)=.inr (2,p.size)):=by
     show classM (sb p) (i+1)=_
     rw[HE.eq,clsM,dif_neg (by rw[sb_len];exact hlt),sb_len]
    have zj:¬(j:Int)<(p.size:Int):=by omega
    go_wp2_with fail
    exact bodyPost_ret (v:=.tuple #[.int .i64 0,.agg #[.int .i64 2,.int .i64 (p.size:Int)]]) (class_ret rfl rfl (HS.out (.int .i64 2) (.int .i64 (p.size:Int))).1) rfl ⟨.inr ⟨2,p.size,HF.out,rfl⟩,(HS.out (.int .i64 2) (.int .i64 (p.size:Int))).2⟩
def specM (p:List UInt8):Int×Nat:=if 200<p.length then(1,0)else chkM p 0 0 false
theorem chk_ret {base rb:Nat} {w:World} {a:Act} {y z:Value} (ht:a.tmps.getD 2 undef=.pointer (some ⟨rb,0,none⟩)) (he:BoxAt w base 125 2 rb [y,z]):
  (results Tryz.f78 a.tmps).run Tryz.prog w=.ok (.agg #[y,z]) w:=by
 obtain⟨q0,q1⟩:=he.c2
 have h2:a.tmps[2]?.getD undef=.pointer (some ⟨rb,0,none⟩):=by rw[←Array.getD_eq_getD_getElem?];exact ht
 simp[results,Tryz.results78,go_sem,h2,q0,q1]
def ChkP (p:ByteArray) (w:World) (e:Ending) (w':World):Prop:=e=.returned (.agg #[.int .i64 (specM (sb p)).1,.int .i64 ((specM (sb p)).2:Int)])∧Below w.heap.size w w'
theorem chk_fin {p:ByteArray} {w wr:World} {a:Act} {c:Int} {k:Nat} (hM:specM (sb p)=(c,k)) (hd:a.defers= []) (ht:a.tmps.getD 2 undef=.pointer (some ⟨w.heap.size,0,none⟩)) (hx:BoxAt wr w.heap.size 125 2 w.heap.size [.int .i64 0,.int .i64 0]) (hb:Below w.heap.size w wr):
  bodyPost Tryz.prog Tryz.f78 (ChkP p w) .ret a ((wr.setCell ⟨w.heap.size,0,none⟩ (.int .i64 c)).setCell ⟨w.heap.size,1,none⟩ (.int .i64 (k:Int))):=
 bodyPost_ret (v:=.agg #[.int .i64 c,.int .i64 (k:Int)]) (chk_ret ht ((hx.set 0 _).set 1 _)) hd ⟨by rw[hM],below_set (below_set hb (Nat.le_refl _) 0 _) (Nat.le_refl _) 1 _⟩
set_option maxHeartbeats 8000000 in
theorem specCheck_core (p:ByteArray) (w:World) (hpm:p.size≤maxLen):Calls Tryz.prog 78 #[.string p] w (ChkP p w):=by
 obtain⟨W0,hW0⟩:=qE (w.alloc (Obj.cells #[.int .i64 0,.int .i64 0] 125):World)
 have HW0:Hid (BoxAt W0 w.heap.size 125 2 w.heap.size [.int .i64 0,.int .i64 0]∧Below w.heap.size w W0):=by
  rw[hW0];exact⟨boxAt_new w _ (Nat.le_refl _) rfl,qB⟩
 unfold maxLen at hpm
 by_cases hp:200<p.size
 ·have HM:Hid (specM (sb p)=(1,0)):=by
   show specM (sb p)=_
   unfold specM;rw[if_pos (by rw[sb_len];exact hp)]
  have z2:(200:Int)<(p.size:Int):=by omega
  obtain⟨r0,r1⟩:=HW0.1.c2
  have f0:=HW0.1.frozen 0
  have f1:=HW0.1.frozen 1
  go_enter Tryz.func78,Tryz.ntmps78
  go_upto_region 1 with fail
  rw[←hW0]
  clear hW0
  go_wp2_with fail
  exact chk_fin HM.out rfl rfl HW0.1 HW0.2
 have hp2:p.size≤200:=by omega
 have HM:Hid (specM (sb p)=chkM (sb p) 0 0 false):=by
  show specM (sb p)=_
  unfold specM;rw[if_neg (by rw[sb_len];exact hp)]
 have z2:¬(200:Int)<(p.size:Int):=by omega
 go_enter Tryz.func78,Tryz.ntmps78
 go_upto_region 1 with fail
 rw[←hW0]
 clear hW0 hp
 go_wp2_with fail
 go_loopw[3,4,5] (fun ov av iv wr=>∃(i o:Nat) (a:Bool),i≤p.size∧o≤i∧ov=.int .i64 (o:Int)∧av=.bool a∧iv=.int .i64 (i:Int)∧specM (sb p)=chkM (sb p) i o a∧Below W0.heap.size W0 wr) (fun _ _ iv _=>p.size-(intOf iv).toNat)
 case atStart=>exact⟨0,0,false,Nat.zero_le _,Nat.zero_le _,rfl,rfl,rfl,HM.out,Below.refl _ _⟩
 case round=>
  obtain⟨i,o,a,hi,hoi,rfl,rfl,rfl,hE,hb⟩:=hrel
  have HE:Hid (specM (sb p)=chkM (sb p) i o a):=hE
  have HX:Hid (BoxAt wr w.heap.size 125 2 w.heap.size [.int .i64 0,.int .i64 0]∧Below w.heap.size w wr):=⟨HW0.1.below hb,HW0.2.trans (hb.mono HW0.2.size)⟩
  have HB:Hid (Below W0.heap.size W0 wr):=hb
  obtain⟨r0,r1⟩:=HX.1.c2
  have f0:=HX.1.frozen 0
  have f1:=HX.1.frozen 1
  clear hE hb HM
  by_cases hlt:i<p.size
  ·obtain⟨c,hc⟩:∃x,(sb p)[i]?=some x:=⟨_,List.getElem?_eq_getElem (by rw[sb_len];exact hlt)⟩
   obtain⟨_,gc⟩:=sb_get hc
   have HC:Hid ((sb p)[i]?=some c):=hc
   have zi:(i:Int)<(p.size:Int):=by omega
   clear hc
   by_cases h40:c=40
   ·subst h40
    by_cases ho:o=20
    ·subst ho
     have HF:Hid (specM (sb p)=(3,i)):=by
      show specM (sb p)=_
      rw[HE.out,chk_open HC.out,if_pos rfl]
     go_wp2_with fail
     exact chk_fin HF.out rfl rfl HX.1 HX.2
    ·have zo:¬(o:Int)=20:=by omega
     have HF:Hid (specM (sb p)=chkM (sb p) (i+1) (o+1) false):=by
      show specM (sb p)=_
      rw[HE.out,chk_open HC.out,if_neg ho]
     go_wp2_with fail
     go_roundw
     case rel=>exact⟨i+1,o+1,false,by omega,by omega,by go_num,rfl,by go_num,HF.out,HB.out⟩
     case measure=>simp[intOf];omega
   have z40:((c.toNat:Int)==40)=false:=beq_eq_false_iff_ne.2 (ne_u8 (c:=40) h40)
   by_cases h41:c=41
   ·subst h41
    by_cases ho:o=0
    ·subst ho
     have HF:Hid (specM (sb p)=(2,i)):=by
      show specM (sb p)=_
      rw[HE.out,chk_close HC.out,if_pos rfl]
     go_wp2_with fail
     exact chk_fin HF.out rfl rfl HX.1 HX.2
    ·have zo:¬(o:Int)=0:=by omega
     have HF:Hid (specM (sb p)=chkM (sb p) (i+1) (o-1) true):=by
      show specM (sb p)=_
      rw[HE.out,chk_close HC.out,if_neg ho]
     go_wp2_with fail
     go_roundw
     case rel=>exact⟨i+1,o-1,true,by omega,by omega,congrArg (Value.int .i64) (by omega),rfl,by go_num,HF.out,HB.out⟩
     case measure=>simp[intOf];omega
   have z41:((c.toNat:Int)==41)=false:=beq_eq_false_iff_ne.2 (ne_u8 (c:=41) h41)
   by_cases h124:c=124
   ·subst h124
    have HF:Hid (specM (sb p)=chkM (sb p) (i+1) o false):=by
     show specM (sb p)=_
     rw[HE.out,chk_bar HC.out]
    go_wp2_with fail
    go_roundw
    case rel=>exact⟨i+1,o,false,by omega,by omega,rfl,rfl,by go_num,HF.out,HB.out⟩
    case measure=>simp[intOf];omega
   have z124:((c.toNat:Int)==124)=false:=beq_eq_false_iff_ne.2 (ne_u8 (c:=124) h124)
   have HL:Hid (∀q:Bool,decide (isOp c)=q→Calls Tryz.prog 106 #[.int .u8 (c.toNat:Int)] wr fun e w'=>e=.returned (.bool q)∧w'=wr):=fun q hq=>by rw[←hq];exact l4Op_core c wr
   by_cases hop:isOp c
   ·go_wp2_with fail
    refine(HL.out true (decide_eq_true hop)).mono ?_
    rintro e w3 ⟨rfl,hw3⟩
    rw[hw3]
    clear hw3 HL
    cases a
    ·have HF:Hid (specM (sb p)=(2,i)):=by
      show specM (sb p)=_
      rw[HE.out,chk_op HC.out hop];rfl
     clear hop
     go_wp2_with fail
     exact chk_fin HF.out rfl rfl HX.1 HX.2
    ·have HF:Hid (specM (sb p)=chkM (sb p) (i+1) o true):=by
      show specM (sb p)=_
      rw[HE.out,chk_op HC.out hop,if_pos rfl]
     clear hop
     go_wp2_with fail
     go_roundw
     case rel=>exact⟨i+1,o,true,by omega,by omega,rfl,rfl,by go_num,HF.out,HB.out⟩
     case measure=>simp[intOf];omega
   go_wp2_with fail
   refine(HL.out false (decide_eq_false hop)).mono ?_
   rintro e w3 ⟨rfl,hw3⟩
   rw[hw3]
   have HOp:Hid (¬isOp c):=hop
   clear hw3 HL hop
   by_cases h91:c=91
   ·subst h91
    go_wp2_with fail
    refine(l4Class_core p i wr hp2 hlt).mono ?_
    rintro e w4 ⟨hP,hb4⟩
    have hB4:Below W0.heap.size W0 w4:=HB.trans (hb4.mono HB.size)
    have hs4:=hb4.size
    have hsw:=HX.2.size
    rcases hP with⟨f,k,hk,rfl⟩|⟨c4,k,hk,rfl⟩
    ·have hkp:=classM_gt hk
     rw[sb_len]at hkp
     obtain⟨W5,hW5⟩:=qE (w4.alloc (Obj.cells #[.int .i64 0,.int .i64 0] 125):World)
     have HF:Hid (specM (sb p)=chkM (sb p) k o true∧Below W0.heap.size W0 W5):=by
      refine⟨by rw[HE.out,chk_class HC.out,hk],?_⟩
      rw[hW5];exact hB4.trans ((Below.refl _ _).alloc (by have:=HB.size;omega) _)
     clear hk hb4 hB4 r0 r1 f0 f1
     go_wp2_with fail
     rw[←hW5]
     go_roundw
     case rel=>exact⟨k,o,true,hkp.2,by omega,rfl,rfl,rfl,HF.1,HF.2⟩
     case measure=>simp[intOf];omega
    ·have hc4:=classM_err hk
     obtain⟨W5,hW5⟩:=qE (w4.alloc (Obj.cells #[.int .i64 c4,.int .i64 (k:Int)] 125):World)
     have HF:Hid (specM (sb p)=(c4,k)∧BoxAt W5 w.heap.size 125 2 w.heap.size [.int .i64 0,.int .i64 0]∧Below w.heap.size w W5∧BoxAt W5 w.heap.size 125 2 w4.heap.size [.int .i64 c4,.int .i64 (k:Int)]):=by
      have hb5:Below w4.heap.size w4 W5:=by rw[hW5];exact qB
      refine⟨by rw[HE.out,chk_class HC.out,hk],(HX.1.below hb4).below hb5,(HX.2.trans (hb4.mono hsw)).trans (hb5.mono (by omega)),?_⟩
      rw[hW5];exact boxAt_new w4 _ (by omega) rfl
     have hc4':(c4 != 0)=true:=by simpa using hc4
     clear hk hb4 hB4 r0 r1 f0 f1
     go_upto_region 29 with fail
     rw[←hW5]
     clear hW5
     obtain⟨b0,b1⟩:=HF.2.2.2.c2
     obtain⟨r0,r1⟩:=HF.2.1.c2
     have f0:=HF.2.1.frozen 0
     have f1:=HF.2.1.frozen 1
     go_wp2_with fail
     exact chk_fin HF.1 rfl rfl HF.2.1 HF.2.2.1
   have z91:((c.toNat:Int)==91)=false:=beq_eq_false_iff_ne.2 (ne_u8 (c:=91) h91)
   by_cases h93:c=93
   ·subst h93
    have HF:Hid (specM (sb p)=(2,i)):=by
     show specM (sb p)=_
     rw[HE.out,chk_rb HC.out]
    go_wp2_with fail
    exact chk_fin HF.out rfl rfl HX.1 HX.2
   have z93:((c.toNat:Int)==93)=false:=beq_eq_false_iff_ne.2 (ne_u8 (c:=93) h93)
   by_cases h92:c=92
   ·subst h92
    by_cases hl1:i+1=p.size
    ·have HF:Hid (specM (sb p)=(2,p.size)):=by
      show specM (sb p)=_
      rw[HE.out,chk_esc HC.out,if_pos (by rw[sb_len];exact hl1),sb_len]
     have zl:(i:Int)+1=(p.size:Int):=by omega
     go_wp2_with fail
     exact chk_fin HF.out rfl rfl HX.1 HX.2
    ·have HF:Hid (specM (sb p)=chkM (sb p) (i+2) o true):=by
      show specM (sb p)=_
      rw[HE.out,chk_esc HC.out,if_neg (by rw[sb_len];exact hl1)]
     have zl:¬(i:Int)+1=(p.size:Int):=by omega
     go_wp2_with fail
     go_roundw
     case rel=>exact⟨i+2,o,true,by omega,by omega,rfl,rfl,by go_num,HF.out,HB.out⟩
     case measure=>simp[intOf];omega
   have z92:((c.toNat:Int)==92)=false:=beq_eq_false_iff_ne.2 (ne_u8 (c:=92) h92)
   have HF:Hid (specM (sb p)=chkM (sb p) (i+1) o true):=by
    show specM (sb p)=_
    rw[HE.out,chk_plain HC.out (fun q=>q.elim HOp.out (fun q=>q.elim h124 (fun q=>q.elim h41 h93))) h40 h91 h92]
   go_wp2_with fail
   go_roundw
   case rel=>exact⟨i+1,o,true,by omega,by omega,rfl,rfl,by go_num,HF.out,HB.out⟩
   case measure=>simp[intOf];omega
  ·have zi:¬(i:Int)<(p.size:Int):=by omega
   by_cases ho:0<o
   ·have HF:Hid (specM (sb p)=(2,p.size)):=by
     show specM (sb p)=_
     rw[HE.out,chk_end (by rw[sb_len];exact hlt),if_pos ho,sb_len]
    have zo:(0:Int)<(o:Int):=by omega
    go_wp2_with fail
    exact chk_fin HF.out rfl rfl HX.1 HX.2
   ·have HF:Hid (specM (sb p)=(0,0)):=by
     show specM (sb p)=_
     rw[HE.out,chk_end (by rw[sb_len];exact hlt),if_neg ho]
    have zo:¬(0:Int)<(o:Int):=by omega
    go_wp2_with fail
    exact chk_fin HF.out rfl rfl HX.1 HX.2
end Go.Proofs.YtgnpcenpcmdlfaaGreatDoor
