import Derived.Test.YtgnpcenpcmdlfaaGreatDoorWkAA
import Derived.Test.YtgnpcenpcmdlfaaGreatDoorWkAC
import Derived.Test.YtgnpcenpcmdlfaaGreatDoorWkAD
import Derived.Lib.SlBytesRow
import Derived.Test.YtgnpcenpcmdlfaaGreatDoorWkAB
import Derived.BigQuiet
import Derived.Deep.CutBlock
namespace Go.Proofs.YtgnpcenpcmdlfaaGreatDoor
set_option linter.unusedVariables false
set_option linter.unusedSimpArgs false
inductive TkK where
 |word (k:Int)
 |num (n:Int)
 |str (s:ByteArray)
 |sign (b:UInt8)
 |fin
 |bad
structure Tk where
 k:TkK
 pos:Nat
def TkK.isBad:TkK→Bool
 | .bad=>true
 |_=>false
def TkK.isFin:TkK→Bool
 | .fin=>true
 |_=>false
def TkK.isSign (b:UInt8):TkK→Bool
 | .sign c=>c==b
 |_=>false
def TkK.isSort (strs:Bool):TkK→Bool
 | .str _=>strs
 | .num _=> !strs
 |_=>false
def noS:ByteArray:=⟨#[]⟩
def TkK.txt:TkK→ByteArray
 | .str s=>s
 |_=>noS
def TkK.nm:TkK→Int
 | .num n=>n
 |_=>0
abbrev PE:=Int×Nat
abbrev PR (α:Type):=Except PE α
structure Ps where
 ks:List Tk
 made:Nat
 out:List Nd
def hdK:List Tk→TkK
 | []=>.fin
 |k::_=>k.k
def hdA:List Tk→Nat
 | []=>0
 |k::_=>k.pos
def takeF (ks:List Tk):PR (List Tk):=if(hdK ks.tail).isBad=true then .error (2,hdA ks.tail)else .ok ks.tail
def expectF (b:UInt8) (ks:List Tk):PR (List Tk):=if(hdK ks).isSign b=true then takeF ks else .error (3,hdA ks)
def leafN (k:Int):Nd:=⟨k,noS,false,noS,0,0,0⟩
def patN (k:Int) (s:ByteArray):Nd:=⟨k,s,false,noS,0,0,0⟩
def cntN (k:Int) (n:Int):Nd:=⟨k,noS,false,noS,0,0,n⟩
def Ps.to (s:Ps) (r:PR (List Tk)):PR Ps:=match r with
 | .error e=>.error e
 | .ok ks=>.ok {s with ks:=ks}
def Ps.add (s:Ps) (n:Nd):Ps:={s with out:=s.out++ [n]}
def makerF (s:Ps):PR Ps:=if s.made<200 then Ps.to {s with made:=s.made+1} (takeF s.ks)else .error (5,hdA s.ks)
def enterF (d:Nat) (s:Ps):PR Ps:=if(hdK s.ks).isSign 40=true then(if d=0 then .error (4,hdA s.ks)else s.to (takeF s.ks))else .error (3,hdA s.ks)
def leaveF (s:Ps):PR Ps:=s.to (expectF 41 s.ks)
def commaF (s:Ps):PR Ps:=s.to (expectF 44 s.ks)
def upF (k:Int) (strs:Bool) (a:TkK) (ks:List Tk):PR (List Tk×Nd):=
 if(hdK ks).isSort strs=true then
  (if less a.txt (hdK ks).txt∨a.nm<(hdK ks).nm then(match takeF ks with
   | .error e=>.error e
   | .ok k2=>.ok (k2,⟨k,a.txt,true,(hdK ks).txt,a.nm,(hdK ks).nm,0⟩))else .error (7,hdA ks))
 else .ok (ks,⟨k,a.txt,false,noS,a.nm,0,0⟩)
def dotsF (k:Int) (strs:Bool) (a:TkK) (ks:List Tk):PR (List Tk×Nd):=match expectF 46 ks with
 | .error e=>.error e
 | .ok k2=>upF k strs a k2
def rangeF (k:Int) (strs:Bool) (ks:List Tk):PR (List Tk×Nd):=
 if(hdK ks).isSort strs=true then(match takeF ks with
  | .error e=>.error e
  | .ok k2=>dotsF k strs (hdK ks) k2)else dotsF k strs .fin ks
def argsF (k:Int) (ks:List Tk):PR (List Tk×Nd):=
 if k≤3 then .ok (ks,leafN k)
 else if k≤7 then(match hdK ks with
  | .str s=>if(checkM (sb s)).1=0 then(match takeF ks with
    | .error e=>.error e
    | .ok k2=>.ok (k2,patN k s))else .error (6,hdA ks)
  |_=>.error (3,hdA ks))
 else if k≤9 then rangeF k true ks
 else if k≤10 then rangeF k false ks
 else(match hdK ks with
  | .num n=>if 1≤n∧n≤1000 then(match takeF ks with
    | .error e=>.error e
    | .ok k2=>.ok (k2,cntN k n))else .error (8,hdA ks)
  |_=>.error (3,hdA ks))
def argF (k:Int) (s:Ps):PR Ps:=match argsF k s.ks with
 | .error e=>.error e
 | .ok (ks,n)=>.ok {s with ks:=ks,out:=s.out++ [n]}
def bindR {α β γ:Type} (A:α→PR β→Prop) (B:β→PR γ→Prop) (s:α) (r:PR γ):Prop:=(∃e,A s (.error e)∧r=.error e)∨∃s1,A s (.ok s1)∧B s1 r
def fnR {α β:Type} (f:α→PR β) (s:α) (r:PR β):Prop:=r=f s
inductive LoopR (sg:UInt8) (kd:Int) (R:Ps→PR Ps→Prop):Ps→PR Ps→Prop
 |stop {s:Ps} (h:(hdK s.ks).isSign sg=false):LoopR sg kd R s (.ok s)
 |e1 {s:Ps} {e:PE} (h:(hdK s.ks).isSign sg=true) (h1:makerF s=.error e):LoopR sg kd R s (.error e)
 |e2 {s s1:Ps} {e:PE} (h:(hdK s.ks).isSign sg=true) (h1:makerF s=.ok s1) (h2:R s1 (.error e)):LoopR sg kd R s (.error e)
 |more {s s1 s2:Ps} {r:PR Ps} (h:(hdK s.ks).isSign sg=true) (h1:makerF s=.ok s1) (h2:R s1 (.ok s2)) (h3:LoopR sg kd R (s2.add (leafN kd)) r):LoopR sg kd R s r
def JoinR (sg:UInt8) (kd:Int) (R:Ps→PR Ps→Prop):Ps→PR Ps→Prop:=bindR R (LoopR sg kd R)
def BranR (F:Ps→PR Ps→Prop) (d:Nat):Ps→PR Ps→Prop:=
 bindR (fnR (enterF d)) (bindR F (bindR (fnR commaF) (bindR F (bindR (fnR commaF) (bindR F (fnR leaveF))))))
def PrimR (F:Ps→PR Ps→Prop) (d:Nat) (s:Ps) (r:PR Ps):Prop:=
 ((hdK s.ks).isSign 40=true∧bindR (fnR (enterF d)) (bindR F (fnR leaveF)) s r)∨
 (hdK s.ks=.word 16∧bindR (fnR makerF) (bindR (BranR F d) (fnR fun s=>.ok (s.add (leafN 16)))) s r)∨
 (∃k,hdK s.ks=.word k∧¬k=16∧bindR (fnR makerF) (fnR (argF k)) s r)∨
 ((hdK s.ks).isSign 40=false∧(∀k,¬hdK s.ks=.word k)∧r=.error (3,hdA s.ks))
def ChaR (F:Ps→PR Ps→Prop) (d:Nat):Ps→PR Ps→Prop:=JoinR 62 14 (PrimR F d)
def FilR:Nat→Ps→PR Ps→Prop
 |0=>JoinR 124 15 (ChaR (fun _ _=>False) 0)
 |d+1=>JoinR 124 15 (ChaR (FilR d) (d+1))
def endF (s:Ps):PR Ps:=if(hdK s.ks).isFin=true then .ok s else .error (3,hdA s.ks)
def ParR (ks:List Tk) (r:PR Ps):Prop:=((hdK ks).isBad=true∧r=.error (2,hdA ks))∨((hdK ks).isBad=false∧bindR (FilR 20) (fnR endF) ⟨ks,0,[]⟩ r)
structure Ms where
 ks:List Tk
 made:Nat
 out:List Nd
 st:List (Int×Nat)
 want:Bool
def failF {α:Type} (c:Int) (ks:List Tk):PR α:=.error (if(hdK ks).isBad=true then 2 else c,hdA ks)
def drainF (all:Bool):List (Int×Nat)→List Nd→List (Int×Nat)×List Nd
 | [],out=>([],out)
 |(k,l)::st,out=>if k=1∨(all=true∧k=2)then drainF all st (out++ [leafN (if k=2 then 15 else 14)])else((k,l)::st,out)
def openF:List (Int×Nat)→Nat
 | []=>0
 |(k,_)::st=>openF st+if 2<k then 1 else 0
def upM (k:Int) (strs:Bool) (a:TkK) (ks:List Tk):PR (List Tk×Nd):=
 if(hdK ks).isSort strs=true then
  (if less a.txt (hdK ks).txt∨a.nm<(hdK ks).nm then .ok (ks.tail,⟨k,a.txt,true,(hdK ks).txt,a.nm,(hdK ks).nm,0⟩)else failF 7 ks)
 else .ok (ks,⟨k,a.txt,false,noS,a.nm,0,0⟩)
def dotsM (k:Int) (strs:Bool) (a:TkK) (ks:List Tk):PR (List Tk×Nd):=if(hdK ks).isSign 46=true then upM k strs a ks.tail else failF 3 ks
def rangeM (k:Int) (strs:Bool) (ks:List Tk):PR (List Tk×Nd):=if(hdK ks).isSort strs=true then dotsM k strs (hdK ks) ks.tail else dotsM k strs .fin ks
def argsM (k:Int) (ks:List Tk):PR (List Tk×Nd):=
 if k≤3 then .ok (ks,leafN k)
 else if k≤7 then(match hdK ks with
  | .str s=>if(checkM (sb s)).1=0 then .ok (ks.tail,patN k s)else failF 6 ks
  |_=>failF 3 ks)
 else if k≤9 then rangeM k true ks
 else if k≤10 then rangeM k false ks
 else(match hdK ks with
  | .num n=>if 1≤n∧n≤1000 then .ok (ks.tail,cntN k n)else failF 8 ks
  |_=>failF 3 ks)
abbrev Mr:=Ms ⊕ PR (List Nd)
def stepIf (m:Ms):Mr:=
 if m.made<200 then
  (if(hdK m.ks.tail).isSign 40=true then
   (if openF m.st=20 then .inr (.error (4,hdA m.ks.tail))else .inl {m with ks:=m.ks.tail.tail,made:=m.made+1,st:=(4,2)::m.st})
  else .inr (failF 3 m.ks.tail))
 else .inr (.error (5,hdA m.ks))
def stepLeaf (k:Int) (m:Ms):Mr:=
 if m.made<200 then(match argsM k m.ks.tail with
  | .error e=>.inr (.error e)
  | .ok (ks,n)=>.inl {m with ks:=ks,made:=m.made+1,out:=m.out++ [n],want:=false})
 else .inr (.error (5,hdA m.ks))
def stepWant (m:Ms):Mr:=match hdK m.ks with
 | .word k=>if k=16 then stepIf m else stepLeaf k m
 |t=>if t.isSign 40=true then(if openF m.st=20 then .inr (.error (4,hdA m.ks))else .inl {m with ks:=m.ks.tail,st:=(3,0)::m.st})else .inr (.error (3,hdA m.ks))
def stepOp (all:Bool) (k:Int) (m:Ms):Mr:=
 if m.made<200 then .inl ⟨m.ks.tail,m.made+1,(drainF all m.st m.out).2,(k,0)::(drainF all m.st m.out).1,true⟩else .inr (.error (5,hdA m.ks))
def stepClose (m:Ms) (st:List (Int×Nat)) (out:List Nd):Mr:=match st with
 | []=>if(hdK m.ks).isFin=true then .inr (.ok out)else .inr (.error (3,hdA m.ks))
 |(k,l)::st2=>
  if k=4∧0<l∧(hdK m.ks).isSign 44=true then .inl ⟨m.ks.tail,m.made,out,(k,l-1)::st2,true⟩
  else if l=0∧(hdK m.ks).isSign 41=true then .inl ⟨m.ks.tail,m.made,if k=4 then out++ [leafN 16]else out,st2,false⟩
  else .inr (.error (3,hdA m.ks))
def mStep (m:Ms):Mr:=
 if(hdK m.ks).isBad=true then .inr (.error (2,hdA m.ks))
 else if m.want=true then stepWant m
 else if(hdK m.ks).isSign 62=true then stepOp false 1 m
 else if(hdK m.ks).isSign 124=true then stepOp true 2 m
 else stepClose m (drainF true m.st m.out).1 (drainF true m.st m.out).2
inductive MEnds:Ms→PR (List Nd)→Prop
 |fin {m:Ms} {r:PR (List Nd)} (h:mStep m=.inr r):MEnds m r
 |step {m m':Ms} {r:PR (List Nd)} (h:mStep m=.inl m') (k:MEnds m' r):MEnds m r
theorem MEnds.one {m:Ms} {r r':PR (List Nd)} (h:MEnds m r) (k:MEnds m r'):r=r':=by
 induction h with
 |fin h=>cases k with
  |fin k=>exact Sum.inr.inj (h.symm.trans k)
  |step k _=>rw[h]at k;cases k
 |step h _ ih=>cases k with
  |fin k=>rw[h]at k;cases k
  |step k k2=>obtain rfl:=Sum.inl.inj (h.symm.trans k);exact ih k2
theorem MEnds.bad {m:Ms} (h:(hdK m.ks).isBad=true):MEnds m (.error (2,hdA m.ks)):=.fin (by unfold mStep;rw[if_pos h])
theorem TkK.isSign_eq {t:TkK} {b:UInt8} (h:t.isSign b=true):t=.sign b:=by
 cases t<;>simp[TkK.isSign]at h
 rw[h]
theorem drainF_cons (all:Bool) (k:Int) (l:Nat) (st:List (Int×Nat)) (out:List Nd):drainF all ((k,l)::st) out=if k=1∨(all=true∧k=2)then drainF all st (out++ [leafN (if k=2 then 15 else 14)])else((k,l)::st,out):=by conv=>lhs;unfold drainF
theorem drain_false_true:∀(st:List (Int×Nat)) (out:List Nd),drainF true (drainF false st out).1 (drainF false st out).2=drainF true st out
 | [],out=>rfl
 |(k,l)::st,out=>by
  rw[drainF_cons false]
  by_cases h:k=1
  ·subst h;simp only[true_or,if_true];rw[drain_false_true st,drainF_cons true];simp only[true_or,if_true]
  ·rw[if_neg (by simp[h])]
def TopNo (all:Bool):List (Int×Nat)→Prop
 | []=>True
 |(k,_)::_=>¬(k=1∨(all=true∧k=2))
theorem TopNo.drain {all:Bool}:∀{st:List (Int×Nat)} {out:List Nd},TopNo all st→drainF all st out=(st,out)
 | [],out,_=>rfl
 |(k,l)::st,out,h=>by unfold drainF;rw[if_neg h]
abbrev mOf (s:Ps) (st:List (Int×Nat)) (out:List Nd) (want:Bool):Ms:=⟨s.ks,s.made,out,st,want⟩
def Sim (lazy:Option Bool) (A:Ps→PR Ps→Prop) (st:List (Int×Nat)) (s:Ps) (m:Ms):Prop:=∀r,A s r→match r with
 | .error e=>MEnds m (.error e)
 | .ok s1=>(hdK s1.ks).isBad=false∧(match lazy with
   |none=>∀R,MEnds (mOf s1 st s1.out false) R→MEnds m R
   |some all=>(hdK s1.ks).isSign 62=false∧(all=true→(hdK s1.ks).isSign 124=false)∧∀R,(∀st2 out2,drainF all st2 out2=(st,s1.out)→MEnds (mOf s1 st2 out2 false) R)→MEnds m R)
theorem take_cases (ks:List Tk):((hdK ks.tail).isBad=true∧takeF ks=.error (2,hdA ks.tail))∨((hdK ks.tail).isBad=false∧takeF ks=.ok ks.tail):=by
 unfold takeF
 cases h:(hdK ks.tail).isBad
 ·exact .inr ⟨rfl,by simp⟩
 ·exact .inl ⟨rfl,by simp⟩
theorem failF_ok {α:Type} {c:Int} {ks:List Tk} (h:(hdK ks).isBad=false):(failF c ks:PR α)=.error (c,hdA ks):=by unfold failF;simp[h]
theorem failF_bad {α:Type} {c:Int} {ks:List Tk} (h:(hdK ks).isBad=true):(failF c ks:PR α)=.error (2,hdA ks):=by unfold failF;simp[h]
theorem bad_sign {t:TkK} (h:t.isBad=true) (b:UInt8):t.isSign b=false:=by cases t<;>simp[TkK.isBad]at h;rfl
theorem bad_sort {t:TkK} (h:t.isBad=true) (b:Bool):t.isSort b=false:=by cases t<;>simp[TkK.isBad]at h;rfl
def ArgSame (A:PR (List Tk×Nd)) (B:PR (List Tk×Nd)):Prop:=match A with
 | .error e=>B=.error e∨∃ks n,B=.ok (ks,n)∧(hdK ks).isBad=true∧e=(2,hdA ks)
 | .ok (ks,n)=>B=.ok (ks,n)∧(hdK ks).isBad=false
theorem argSame_take {ks:List Tk} {n:Nd}:ArgSame (match takeF ks with
  | .error e=>.error e
  | .ok k2=>.ok (k2,n)) (.ok (ks.tail,n)):=by
 rcases take_cases ks with⟨h,q⟩|⟨h,q⟩
 ·rw[q];exact .inr ⟨_,_,rfl,h,rfl⟩
 ·rw[q];exact⟨rfl,h⟩
theorem argSame_fail {ks:List Tk} (h:(hdK ks).isBad=false) (c:Int):ArgSame (.error (c,hdA ks)) (failF c ks):=.inl (failF_ok h)
theorem up_same (k:Int) (strs:Bool) (a:TkK) (ks:List Tk) (h:(hdK ks).isBad=false):ArgSame (upF k strs a ks) (upM k strs a ks):=by
 unfold upF upM
 split
 ·split
  ·exact argSame_take
  ·exact argSame_fail h 7
 ·exact⟨rfl,h⟩
theorem up_bad (k:Int) (strs:Bool) (a:TkK) (ks:List Tk) (h:(hdK ks).isBad=true):∃n,upM k strs a ks=.ok (ks,n):=by
 unfold upM
 rw[if_neg (by rw[bad_sort h];simp)]
 exact⟨_,rfl⟩
theorem dots_same (k:Int) (strs:Bool) (a:TkK) (ks:List Tk) (h:(hdK ks).isBad=false):ArgSame (dotsF k strs a ks) (dotsM k strs a ks):=by
 unfold dotsF dotsM expectF
 by_cases hs:(hdK ks).isSign 46=true
 ·rw[if_pos hs,if_pos hs]
  rcases take_cases ks with⟨hb,q⟩|⟨hb,q⟩
  ·rw[q]
   obtain⟨n,hn⟩:=up_bad k strs a ks.tail hb
   exact .inr ⟨_,_,hn,hb,rfl⟩
  ·rw[q]
   exact up_same k strs a _ hb
 ·rw[if_neg hs,if_neg hs]
  exact argSame_fail h 3
theorem range_same (k:Int) (strs:Bool) (ks:List Tk) (h:(hdK ks).isBad=false):ArgSame (rangeF k strs ks) (rangeM k strs ks):=by
 unfold rangeF rangeM
 by_cases hs:(hdK ks).isSort strs=true
 ·rw[if_pos hs,if_pos hs]
  rcases take_cases ks with⟨hb,q⟩|⟨hb,q⟩
  ·rw[q]
   refine .inl ?_
   unfold dotsM
   rw[if_neg (by rw[bad_sign hb];simp)]
   exact failF_bad hb
  ·rw[q]
   exact dots_same k strs _ _ hb
 ·rw[if_neg hs,if_neg hs]
  exact dots_same k strs _ _ h
theorem args_same (k:Int) (ks:List Tk) (h:(hdK ks).isBad=false):ArgSame (argsF k ks) (argsM k ks):=by
 unfold argsF argsM
 split
 ·exact⟨rfl,h⟩
 ·split
  ·split
   ·split
    ·exact argSame_take
    ·exact argSame_fail h 6
   ·exact argSame_fail h 3
  ·split
   ·exact range_same k true ks h
   ·split
    ·exact range_same k false ks h
    ·split
     ·split
      ·exact argSame_take
      ·exact argSame_fail h 8
     ·exact argSame_fail h 3
theorem args_bad (k:Int) (ks:List Tk) (h:(hdK ks).isBad=true):argsM k ks=.error (2,hdA ks)∨∃n,argsM k ks=.ok (ks,n):=by
 have hd:∀strs a,dotsM k strs a ks=.error (2,hdA ks):=fun strs a=>by
  unfold dotsM
  rw[if_neg (by rw[bad_sign h];simp)]
  exact failF_bad h
 have hr:∀strs,rangeM k strs ks=.error (2,hdA ks):=fun strs=>by
  unfold rangeM
  rw[if_neg (by rw[bad_sort h];simp)]
  exact hd _ _
 obtain⟨t,ht⟩:=qE (hdK ks)
 unfold argsM
 rw[←ht]
 split
 ·exact .inr ⟨_,rfl⟩
 ·split
  ·split
   ·rw[←ht]at h;cases h
   ·exact .inl (failF_bad h)
  ·split
   ·exact .inl (hr _)
   ·split
    ·exact .inl (hr _)
    ·split
     ·rw[←ht]at h;cases h
     ·exact .inl (failF_bad h)
theorem mStep_want {s:Ps} {st:List (Int×Nat)} {out:List Nd} (hb:(hdK s.ks).isBad=false):mStep (mOf s st out Bool.true)=stepWant (mOf s st out Bool.true):=by
 unfold mStep
 rw[if_neg (by show¬(hdK s.ks).isBad=true;rw[hb];simp),if_pos rfl]
theorem prim_sim {F:Ps→PR Ps→Prop} {d:Nat} {st:List (Int×Nat)} (ho:openF st+d=20)
  (HF:0<d→∀k l s,2<k→(hdK s.ks).isBad=false→Sim (some true) F ((k,l)::st) s (mOf s ((k,l)::st) s.out true)):
  ∀s,(hdK s.ks).isBad=false→Sim none (PrimR F d) st s (mOf s st s.out true):=by
 have enter:∀(s:Ps) (k:Int) (l:Nat),2<k→(hdK s.ks).isBad=false→(hdK s.ks).isSign 40=true→¬d=0→∀(B:Ps→PR Ps→Prop) (m:Ms) (r:PR Ps),(∀R,MEnds ⟨s.ks.tail,s.made,s.out,(k,l)::st,true⟩ R→MEnds m R)→
   bindR (fnR (enterF d)) (bindR F B) s r→(∀s1,(hdK s1.ks).isBad=false→(hdK s1.ks).isSign 62=false→(hdK s1.ks).isSign 124=false→(∀R,(∀st2 out2,drainF true st2 out2=((k,l)::st,s1.out)→MEnds (mOf s1 st2 out2 false) R)→MEnds m R)→B s1 r→(match r with
    | .error e=>MEnds m (.error e)
    | .ok s2=>(hdK s2.ks).isBad=false∧∀R,MEnds (mOf s2 st s2.out false) R→MEnds m R))→(match r with
    | .error e=>MEnds m (.error e)
    | .ok s2=>(hdK s2.ks).isBad=false∧∀R,MEnds (mOf s2 st s2.out false) R→MEnds m R):=by
  intro s k l hk hb hs hd B m r hm hr hB
  rcases hr with⟨e,h,rfl⟩|⟨s1,h,hr⟩
  ·have h':Except.error e=enterF d s:=h
   unfold enterF at h'
   rw[if_pos hs,if_neg hd]at h'
   rcases take_cases s.ks with⟨hb2,q⟩|⟨hb2,q⟩
   ·rw[q]at h'
    cases h'
    exact hm _ (MEnds.bad hb2)
   ·rw[q]at h';cases h'
  ·have h':Except.ok s1=enterF d s:=h
   unfold enterF at h'
   rw[if_pos hs,if_neg hd]at h'
   rcases take_cases s.ks with⟨hb2,q⟩|⟨hb2,q⟩
   ·rw[q]at h';cases h'
   ·rw[q]at h'
    cases h'
    have hF:=HF (by omega) k l {s with ks:=s.ks.tail} hk hb2
    rcases hr with⟨e,h,rfl⟩|⟨s1,h,hr⟩
    ·exact hm _ (hF _ h)
    ·obtain⟨h1,h2,h3,h4⟩:=hF _ h
     exact hB s1 h1 h2 (h3 rfl) (fun R hR=>hm _ (h4 R hR)) hr
 have dead:∀(s:Ps),(hdK s.ks).isSign 40=true→d=0→enterF d s=.error (4,hdA s.ks):=fun s hs hd=>by unfold enterF;rw[if_pos hs,if_pos hd]
 have hop:d=0→openF st=20:=fun h=>by omega
 have hon:¬d=0→¬openF st=20:=fun h=>by omega
 have close:∀(k:Int) (l:Nat) (s1:Ps) (st2:List (Int×Nat)) (out2:List Nd),(hdK s1.ks).isBad=false→(hdK s1.ks).isSign 62=false→(hdK s1.ks).isSign 124=false→drainF true st2 out2=((k,l)::st,s1.out)→mStep (mOf s1 st2 out2 false)=stepClose (mOf s1 st2 out2 false) ((k,l)::st) s1.out:=by
  intro k l s1 st2 out2 h1 h2 h3 hd
  unfold mStep
  rw[if_neg (by show¬(hdK s1.ks).isBad=true;rw[h1];simp),if_neg (by simp),if_neg (by show¬(hdK s1.ks).isSign 62=true;rw[h2];simp),if_neg (by show¬(hdK s1.ks).isSign 124=true;rw[h3];simp)]
  show stepClose _ (drainF true st2 out2).1 (drainF true st2 out2).2=_
  rw[hd]
 intro s hb r hr
 rcases hr with⟨hs,hr⟩|⟨hw,hr⟩|⟨k,hw,hk,hr⟩|⟨hs,hw,rfl⟩
 ·
  have hstep:mStep (mOf s st s.out true)=if openF st=20 then .inr (.error (4,hdA s.ks))else .inl ⟨s.ks.tail,s.made,s.out,(3,0)::st,true⟩:=by
   rw[mStep_want hb]
   unfold stepWant
   show(match hdK s.ks with
    | .word k=>_
    |t=>_)=_
   rw[TkK.isSign_eq hs]
   rfl
  by_cases hd:d=0
  ·rcases hr with⟨e,h,rfl⟩|⟨s1,h,hr⟩
   ·have h':Except.error e=enterF d s:=h
    rw[dead s hs hd]at h'
    cases h'
    exact .fin (by rw[hstep,if_pos (hop hd)])
   ·have h':Except.ok s1=enterF d s:=h
    rw[dead s hs hd]at h'
    cases h'
  ·rw[if_neg (hon hd)]at hstep
   refine enter s 3 0 (by omega) hb hs hd _ _ r (fun R hR=>.step hstep hR) hr ?_
   intro s1 h1 h2 h3 h4 hB
   have hB':r=leaveF s1:=hB
   unfold leaveF expectF at hB'
   by_cases h41:(hdK s1.ks).isSign 41=true
   ·rw[if_pos h41]at hB'
    have hc:∀st2 out2,drainF true st2 out2=((3,0)::st,s1.out)→mStep (mOf s1 st2 out2 false)=.inl ⟨s1.ks.tail,s1.made,s1.out,st,false⟩:=fun st2 out2 hq=>by
     rw[close 3 0 s1 st2 out2 h1 h2 h3 hq]
     unfold stepClose
     simp[h41]
    rcases take_cases s1.ks with⟨hb2,q⟩|⟨hb2,q⟩
    ·rw[q]at hB'
     subst hB'
     exact h4 _ (fun st2 out2 hq=>.step (hc st2 out2 hq) (MEnds.bad hb2))
    ·rw[q]at hB'
     subst hB'
     exact⟨hb2,fun R hR=>h4 _ (fun st2 out2 hq=>.step (hc st2 out2 hq) hR)⟩
   ·rw[if_neg h41]at hB'
    subst hB'
    refine h4 _ (fun st2 out2 hq=>.fin ?_)
    rw[close 3 0 s1 st2 out2 h1 h2 h3 hq]
    unfold stepClose
    simp[h41]
 ·
  have hstep:mStep (mOf s st s.out true)=stepIf (mOf s st s.out true):=by
   rw[mStep_want hb]
   unfold stepWant
   show(match hdK s.ks with
    | .word k=>_
    |t=>_)=_
   rw[hw]
   rfl
  unfold stepIf at hstep
  by_cases hm:s.made<200
  ·rw[if_pos (show(mOf s st s.out true).made<200 from hm)]at hstep
   have hmk:makerF s=Ps.to {s with made:=s.made+1} (takeF s.ks):=by unfold makerF;rw[if_pos hm]
   rcases hr with⟨e,h,rfl⟩|⟨s1,h,hr⟩
   ·have h':Except.error e=makerF s:=h
    rw[hmk]at h'
    rcases take_cases s.ks with⟨hb2,q⟩|⟨hb2,q⟩
    ·rw[q]at h'
     cases h'
     refine .fin ?_
     rw[hstep,if_neg (by show¬(hdK s.ks.tail).isSign 40=true;rw[bad_sign hb2];simp)]
     show Sum.inr (failF 3 s.ks.tail)=_
     rw[failF_bad hb2]
    ·rw[q]at h';cases h'
   ·have h':Except.ok s1=makerF s:=h
    rw[hmk]at h'
    rcases take_cases s.ks with⟨hb2,q⟩|⟨hb2,q⟩
    ·rw[q]at h';cases h'
    rw[q]at h'
    cases h'
    have hr2:bindR (fnR (enterF d)) (bindR F (fun s r=>bindR (bindR (fnR commaF) (bindR F (bindR (fnR commaF) (bindR F (fnR leaveF))))) (fnR fun s=>.ok (s.add (leafN 16))) s r)) {ks:=s.ks.tail,made:=s.made+1,out:=s.out} r:=by
     rcases hr with⟨e,h,rfl⟩|⟨s1,h,hr⟩
     ·rcases h with⟨e,h,h2⟩|⟨s2,h,h2⟩
      ·cases h2;exact .inl ⟨_,h,rfl⟩
      ·rcases h2 with⟨e,h2,h3⟩|⟨s3,h2,h3⟩
       ·cases h3;exact .inr ⟨_,h,.inl ⟨_,h2,rfl⟩⟩
       ·exact .inr ⟨_,h,.inr ⟨_,h2,.inl ⟨_,h3,rfl⟩⟩⟩
     ·rcases h with⟨e,h,h2⟩|⟨s2,h,h2⟩
      ·cases h2
      ·rcases h2 with⟨e,h2,h3⟩|⟨s3,h2,h3⟩
       ·cases h3
       ·exact .inr ⟨_,h,.inr ⟨_,h2,.inr ⟨_,h3,hr⟩⟩⟩
    clear hr
    by_cases hs:(hdK s.ks.tail).isSign 40=true
    ·rw[if_pos (show(hdK (mOf s st s.out true).ks.tail).isSign 40=true from hs)]at hstep
     by_cases hd:d=0
     ·rw[if_pos (show openF (mOf s st s.out true).st=20 from hop hd)]at hstep
      rcases hr2 with⟨e,h,rfl⟩|⟨s1,h,hr⟩
      ·have h':Except.error e=enterF d _:=h
       rw[dead _ hs hd]at h'
       cases h'
       exact .fin hstep
      ·have h':Except.ok s1=enterF d _:=h
       rw[dead _ hs hd]at h'
       cases h'
     ·rw[if_neg (show¬openF (mOf s st s.out true).st=20 from hon hd)]at hstep
      refine enter {ks:=s.ks.tail,made:=s.made+1,out:=s.out} 4 2 (by omega) hb2 hs hd _ _ r (fun R hR=>.step hstep hR) hr2 ?_
      have comma:∀(l:Nat) (s1:Ps) (m:Ms) (B:Ps→PR Ps→Prop) (r:PR Ps),(hdK s1.ks).isBad=false→(hdK s1.ks).isSign 62=false→(hdK s1.ks).isSign 124=false→(∀R,(∀st2 out2,drainF true st2 out2=((4,l+1)::st,s1.out)→MEnds (mOf s1 st2 out2 false) R)→MEnds m R)→
        bindR (fnR commaF) (bindR F B) s1 r→(∀s2,(hdK s2.ks).isBad=false→(hdK s2.ks).isSign 62=false→(hdK s2.ks).isSign 124=false→(∀R,(∀st2 out2,drainF true st2 out2=((4,l)::st,s2.out)→MEnds (mOf s2 st2 out2 false) R)→MEnds m R)→B s2 r→(match r with
         | .error e=>MEnds m (.error e)
         | .ok s2=>(hdK s2.ks).isBad=false∧∀R,MEnds (mOf s2 st (s2.out++ [leafN 16]) false) R→MEnds m R))→(match r with
         | .error e=>MEnds m (.error e)
         | .ok s2=>(hdK s2.ks).isBad=false∧∀R,MEnds (mOf s2 st (s2.out++ [leafN 16]) false) R→MEnds m R):=by
       intro l s1 m B r h1 h2 h3 h4 hB hnext
       by_cases h44:(hdK s1.ks).isSign 44=true
       ·have hc:∀st2 out2,drainF true st2 out2=((4,l+1)::st,s1.out)→mStep (mOf s1 st2 out2 false)=.inl ⟨s1.ks.tail,s1.made,s1.out,(4,l)::st,true⟩:=fun st2 out2 hq=>by
         rw[close 4 (l+1) s1 st2 out2 h1 h2 h3 hq]
         unfold stepClose
         simp[h44]
        have hcf:commaF s1=s1.to (takeF s1.ks):=by unfold commaF expectF;rw[if_pos h44]
        rcases take_cases s1.ks with⟨hb2,q⟩|⟨hb2,q⟩
        ·rw[q]at hcf
         rcases hB with⟨e,h,rfl⟩|⟨s2,h,hB⟩
         ·have h':Except.error e=commaF s1:=h
          rw[hcf]at h'
          cases h'
          exact h4 _ (fun st2 out2 hq=>.step (hc st2 out2 hq) (MEnds.bad hb2))
         ·have h':Except.ok s2=commaF s1:=h
          rw[hcf]at h'
          cases h'
        ·rw[q]at hcf
         rcases hB with⟨e,h,rfl⟩|⟨s2,h,hB⟩
         ·have h':Except.error e=commaF s1:=h
          rw[hcf]at h'
          cases h'
         ·have h':Except.ok s2=commaF s1:=h
          rw[hcf]at h'
          cases h'
          have hF:=HF (by omega) 4 l {s1 with ks:=s1.ks.tail} (by omega) hb2
          rcases hB with⟨e,h,rfl⟩|⟨s3,h,hB⟩
          ·exact h4 _ (fun st2 out2 hq=>.step (hc st2 out2 hq) (hF _ h))
          ·obtain⟨g1,g2,g3,g4⟩:=hF _ h
           exact hnext s3 g1 g2 (g3 rfl) (fun R hR=>h4 _ (fun st2 out2 hq=>.step (hc st2 out2 hq) (g4 R hR))) hB
       ·have hcf:commaF s1=.error (3,hdA s1.ks):=by unfold commaF expectF;rw[if_neg h44];rfl
        rcases hB with⟨e,h,rfl⟩|⟨s2,h,hB⟩
        ·have h':Except.error e=commaF s1:=h
         rw[hcf]at h'
         cases h'
         refine h4 _ (fun st2 out2 hq=>.fin ?_)
         rw[close 4 (l+1) s1 st2 out2 h1 h2 h3 hq]
         unfold stepClose
         simp[h44]
        ·have h':Except.ok s2=commaF s1:=h
         rw[hcf]at h'
         cases h'
      intro s1 h1 h2 h3 h4 hB
      obtain⟨r9,h9⟩:∃r9:PR Ps,bindR (fnR commaF) (bindR F (bindR (fnR commaF) (bindR F (fnR leaveF)))) s1 r9∧r=(match r9 with
        | .error e=>.error e
        | .ok s=>.ok (s.add (leafN 16))):=by
       rcases hB with⟨e,h,rfl⟩|⟨s2,h,hB⟩
       ·exact⟨_,h,rfl⟩
       ·exact⟨_,h,hB⟩
      have key:=comma 1 s1 (mOf s st s.out true) _ r9 h1 h2 h3 h4 h9.1 (fun s2 g1 g2 g3 g4 hB2=>comma 0 s2 (mOf s st s.out true) _ r9 g1 g2 g3 g4 hB2 (fun s3 f1 f2 f3 f4 hB3=>by
       have hB':r9=leaveF s3:=hB3
       unfold leaveF expectF at hB'
       by_cases h41:(hdK s3.ks).isSign 41=true
       ·rw[if_pos h41]at hB'
        have hn44:(hdK s3.ks).isSign 44=false:=by rw[TkK.isSign_eq h41];rfl
        have hc:∀st2 out2,drainF true st2 out2=((4,0)::st,s3.out)→mStep (mOf s3 st2 out2 false)=.inl ⟨s3.ks.tail,s3.made,s3.out++ [leafN 16],st,false⟩:=fun st2 out2 hq=>by
         rw[close 4 0 s3 st2 out2 f1 f2 f3 hq]
         unfold stepClose
         simp[h41]
        rcases take_cases s3.ks with⟨hb2,q⟩|⟨hb2,q⟩
        ·rw[q]at hB'
         subst hB'
         exact f4 _ (fun st2 out2 hq=>.step (hc st2 out2 hq) (MEnds.bad hb2))
        ·rw[q]at hB'
         subst hB'
         exact⟨hb2,fun R hR=>f4 _ (fun st2 out2 hq=>.step (hc st2 out2 hq) hR)⟩
       ·rw[if_neg h41]at hB'
        subst hB'
        refine f4 _ (fun st2 out2 hq=>.fin ?_)
        rw[close 4 0 s3 st2 out2 f1 f2 f3 hq]
        unfold stepClose
        simp[h41]))
      rw[h9.2]
      cases r9 with
      |error e=>exact key
      |ok s9=>exact key
    ·rw[if_neg (show¬(hdK (mOf s st s.out true).ks.tail).isSign 40=true from hs)]at hstep
     have hde:enterF d {ks:=s.ks.tail,made:=s.made+1,out:=s.out}=.error (3,hdA s.ks.tail):=by unfold enterF;rw[if_neg hs]
     rcases hr2 with⟨e,h,rfl⟩|⟨s1,h,hr⟩
     ·have h':Except.error e=enterF d _:=h
      rw[hde]at h'
      cases h'
      refine .fin ?_
      rw[hstep]
      show Sum.inr (failF 3 s.ks.tail)=_
      rw[failF_ok hb2]
     ·have h':Except.ok s1=enterF d _:=h
      rw[hde]at h'
      cases h'
  ·exact zzQ43
 ·
  have hstep:mStep (mOf s st s.out true)=stepLeaf k (mOf s st s.out true):=by
   rw[mStep_want hb]
   unfold stepWant
   show(match hdK s.ks with
    | .word k=>_
    |t=>_)=_
   rw[hw]
   exact if_neg hk
  unfold stepLeaf at hstep
  by_cases hm:s.made<200
  ·rw[if_pos (show(mOf s st s.out true).made<200 from hm)]at hstep
   have hmk:makerF s=Ps.to {s with made:=s.made+1} (takeF s.ks):=by unfold makerF;rw[if_pos hm]
   rcases hr with⟨e,h,rfl⟩|⟨s1,h,hr⟩
   ·have h':Except.error e=makerF s:=h
    rw[hmk]at h'
    rcases take_cases s.ks with⟨hb2,q⟩|⟨hb2,q⟩
    ·rw[q]at h'
     cases h'
     rcases args_bad k s.ks.tail hb2 with q2|⟨n,q2⟩
     ·refine .fin ?_
      rw[hstep]
      show(match argsM k s.ks.tail with
       | .error e=>_
       | .ok (ks,n)=>_)=_
      rw[q2]
     ·refine .step (m':=⟨s.ks.tail,s.made+1,s.out++ [n],st,false⟩) ?_ (MEnds.bad hb2)
      rw[hstep]
      show(match argsM k s.ks.tail with
       | .error e=>_
       | .ok (ks,n)=>_)=_
      rw[q2]
    ·rw[q]at h';cases h'
   ·have h':Except.ok s1=makerF s:=h
    rw[hmk]at h'
    rcases take_cases s.ks with⟨hb2,q⟩|⟨hb2,q⟩
    ·rw[q]at h';cases h'
    rw[q]at h'
    cases h'
    have hr':r=argF k {ks:=s.ks.tail,made:=s.made+1,out:=s.out}:=hr
    have hA:=args_same k s.ks.tail hb2
    unfold argF at hr'
    have hst:mStep (mOf s st s.out true)=(match argsM k s.ks.tail with
     | .error e=>.inr (.error e)
     | .ok (ks,n)=>.inl ⟨ks,s.made+1,s.out++ [n],st,false⟩):=hstep
    cases hq:argsF k s.ks.tail with
    |error e=>
     rw[hq]at hA
     have hr2:r=.error e:=by rw[hr'];show(match argsF k s.ks.tail with
      | .error e=>_
      | .ok (ks,n)=>_)=_
                             rw[hq]
     subst hr2
     rcases hA with q2|⟨ks,n,q2,hbb,rfl⟩
     ·exact .fin (by rw[hst,q2])
     ·exact .step (m':=⟨ks,s.made+1,s.out++ [n],st,false⟩) (by rw[hst,q2]) (MEnds.bad hbb)
    |ok p=>
     obtain⟨ks,n⟩:=p
     rw[hq]at hA
     have hr2:r=.ok ⟨ks,s.made+1,s.out++ [n]⟩:=by rw[hr'];show(match argsF k s.ks.tail with
      | .error e=>_
      | .ok (ks,n)=>_)=_
                                                  rw[hq]
     subst hr2
     exact⟨hA.2,fun R hR=>.step (m':=⟨ks,s.made+1,s.out++ [n],st,false⟩) (by rw[hst,hA.1]) hR⟩
  ·exact zzQ43
 ·
  refine .fin ?_
  rw[mStep_want hb]
  unfold stepWant
  show(match hdK s.ks with
   | .word k=>_
   |t=>_)=_
  obtain⟨t,ht⟩:=qE (hdK s.ks)
  rw[←ht]at hs hw⊢
  cases t with
  |word k=>exact absurd rfl (hw k)
  |sign c=>show(if(TkK.sign c).isSign 40=true then _ else _)=_;rw[if_neg (by rw[hs];simp)]
  |num n=>rfl
  |str s=>rfl
  |fin=>rfl
  |bad=>rfl
theorem mStep_op {s:Ps} {st2:List (Int×Nat)} {out2:List Nd} (hb:(hdK s.ks).isBad=false):((hdK s.ks).isSign 62=true→mStep (mOf s st2 out2 Bool.false)=stepOp false 1 (mOf s st2 out2 Bool.false))∧((hdK s.ks).isSign 62=false→(hdK s.ks).isSign 124=true→mStep (mOf s st2 out2 Bool.false)=stepOp true 2 (mOf s st2 out2 Bool.false)):=by
 have h0:¬(hdK (mOf s st2 out2 Bool.false).ks).isBad=true:=by show¬(hdK s.ks).isBad=true;rw[hb];simp
 constructor
 ·intro h
  unfold mStep
  rw[if_neg h0,if_neg (by simp),if_pos h]
 ·intro h h2
  unfold mStep
  rw[if_neg h0,if_neg (by simp),if_neg (by show¬(hdK s.ks).isSign 62=true;rw[h];simp),if_pos h2]
theorem loop_sim (all:Bool) (sg:UInt8) (kd pk:Int) (low:Ps→Prop) {R:Ps→PR Ps→Prop} {st:List (Int×Nat)}
  (hstep:∀s st2 out2,(hdK s.ks).isBad=false→low s→(hdK s.ks).isSign sg=true→drainF all st2 out2=(st,s.out)→mStep (mOf s st2 out2 Bool.false)=if s.made<200 then .inl ⟨s.ks.tail,s.made+1,s.out,(pk,0)::st,true⟩else .inr (.error (5,hdA s.ks)))
  (hadd:∀s n,low s→low (s.add n))
  (HOp:∀s,(hdK s.ks).isBad=false→∀r,R s r→match r with
   | .error e=>MEnds (mOf s ((pk,0)::st) s.out Bool.true) (.error e)
   | .ok s2=>(hdK s2.ks).isBad=false∧low s2∧∀Q,(∀st2 out2,drainF all st2 out2=(st,s2.out++ [leafN kd])→MEnds (mOf s2 st2 out2 Bool.false) Q)→MEnds (mOf s ((pk,0)::st) s.out Bool.true) Q):
  ∀s r,LoopR sg kd R s r→(hdK s.ks).isBad=false→low s→match r with
   | .error e=>∀st2 out2,drainF all st2 out2=(st,s.out)→MEnds (mOf s st2 out2 Bool.false) (.error e)
   | .ok s1=>(hdK s1.ks).isBad=false∧(hdK s1.ks).isSign sg=false∧low s1∧∀Q,(∀st2 out2,drainF all st2 out2=(st,s1.out)→MEnds (mOf s1 st2 out2 Bool.false) Q)→∀st2 out2,drainF all st2 out2=(st,s.out)→MEnds (mOf s st2 out2 Bool.false) Q:=by
 intro s r h
 have mk:∀(s:Ps),makerF s=if s.made<200 then(if(hdK s.ks.tail).isBad=true then .error (2,hdA s.ks.tail)else .ok ⟨s.ks.tail,s.made+1,s.out⟩)else .error (5,hdA s.ks):=fun s=>by
  unfold makerF takeF
  split
  ·split<;>rfl
  ·rfl
 induction h with
 |stop h=>intro hb hl;exact⟨hb,h,hl,fun Q hQ st2 out2 hd=>hQ st2 out2 hd⟩
 | @e1 s e h h1=>
   intro hb hl st2 out2 hd
   have hs:=hstep s st2 out2 hb hl h hd
   rw[mk]at h1
   by_cases hm:s.made<200
   ·rw[if_pos hm]at hs h1
    by_cases hbb:(hdK s.ks.tail).isBad=true
    ·rw[if_pos hbb]at h1
     cases h1
     exact .step hs (MEnds.bad hbb)
    ·rw[if_neg hbb]at h1;cases h1
   ·rw[if_neg hm]at hs h1
    cases h1
    exact .fin hs
 | @e2 s s1 e h h1 h2=>
   intro hb hl st2 out2 hd
   have hs:=hstep s st2 out2 hb hl h hd
   rw[mk]at h1
   by_cases hm:s.made<200
   ·rw[if_pos hm]at hs h1
    by_cases hbb:(hdK s.ks.tail).isBad=true
    ·rw[if_pos hbb]at h1;cases h1
    ·rw[if_neg hbb]at h1
     cases h1
     exact .step hs (HOp _ (by simpa using hbb) _ h2)
   ·rw[if_neg hm]at h1;cases h1
 | @more s s1 s2 r h h1 h2 h3 ih=>
   intro hb hl
   rw[mk]at h1
   by_cases hm:s.made<200
   ·rw[if_pos hm]at h1
    by_cases hbb:(hdK s.ks.tail).isBad=true
    ·rw[if_pos hbb]at h1;cases h1
    ·rw[if_neg hbb]at h1
     cases h1
     obtain⟨g1,g2,g3⟩:=HOp _ (by simpa using hbb) _ h2
     have hi:=ih g1 (hadd _ _ g2)
     have hs:=fun st2 out2 hd=>hstep s st2 out2 hb hl h hd
     simp only[if_pos hm]at hs
     cases r with
     |error e=>exact fun st2 out2 hd=>.step (hs st2 out2 hd) (g3 _ (fun st3 out3 hd3=>hi st3 out3 hd3))
     |ok s9=>exact⟨hi.1,hi.2.1,hi.2.2.1,fun Q hQ st2 out2 hd=>.step (hs st2 out2 hd) (g3 _ (fun st3 out3 hd3=>hi.2.2.2 Q hQ st3 out3 hd3))⟩
   ·rw[if_neg hm]at h1;cases h1
theorem cha_sim {F:Ps→PR Ps→Prop} {d:Nat} {st:List (Int×Nat)} (hT:TopNo false st)
  (HP:∀st',(st'=st∨st'=(1,0)::st)→∀s,(hdK s.ks).isBad=false→Sim none (PrimR F d) st' s (mOf s st' s.out Bool.true)):
  ∀s,(hdK s.ks).isBad=false→Sim (some false) (ChaR F d) st s (mOf s st s.out Bool.true):=by
 have hL:=loop_sim false 62 14 1 (fun _=>True) (R:=PrimR F d) (st:=st) (fun s st2 out2 hb _ hsg hd=>by
  rw[(mStep_op hb).1 hsg]
  unfold stepOp
  show(if s.made<200 then _ else _)=_
  simp only[hd]) (fun _ _ _=>trivial) (fun s hb r hr=>by
   have h9:=HP _ (.inr rfl) s hb r hr
   cases r with
   |error e=>exact h9
   |ok s2=>exact⟨h9.1,trivial,fun Q hQ=>h9.2 Q (hQ _ _ (by rw[drainF_cons,if_pos (.inl rfl)];simp only[show¬((1:Int)=2)by omega,if_false];exact hT.drain))⟩)
 intro s hb r hr
 have hP:=HP st (.inl rfl) s hb
 rcases hr with⟨e,h,rfl⟩|⟨s1,h,hr⟩
 ·exact hP _ h
 ·obtain⟨h1,h2⟩:=hP _ h
  have h9:=hL s1 r hr h1 trivial
  cases r with
  |error e=>exact h2 _ (h9 st s1.out hT.drain)
  |ok s2=>exact⟨h9.1,h9.2.1,fun q=>(by cases q),fun Q hQ=>h2 _ (h9.2.2.2 Q hQ st s1.out hT.drain)⟩
theorem TopNo.weak {st:List (Int×Nat)} (h:TopNo true st):TopNo false st:=by
 cases st with
 |nil=>trivial
 |cons x st=>obtain⟨k,l⟩:=x;exact fun q=>h (q.elim .inl (fun z=>by cases z.1))
theorem join_sim {F:Ps→PR Ps→Prop} {d:Nat} {st:List (Int×Nat)} (hT:TopNo true st)
  (HP:∀st',openF st'=openF st→∀s,(hdK s.ks).isBad=false→Sim none (PrimR F d) st' s (mOf s st' s.out Bool.true)):
  ∀s,(hdK s.ks).isBad=false→Sim (some true) (JoinR 124 15 (ChaR F d)) st s (mOf s st s.out Bool.true):=by
 have o1:openF ((1,0)::st)=openF st:=by simp[openF]
 have o2:openF ((2,0)::st)=openF st:=by simp[openF]
 have o3:openF ((1,0)::(2,0)::st)=openF st:=by simp[openF]
 have hC1:=cha_sim hT.weak (fun st' q=>HP st' (by rcases q with rfl|rfl<;>first|rfl|exact o1))
 have hC2:=cha_sim (st:=(2,0)::st) (F:=F) (d:=d) (by intro q;rcases q with q|q<;>simp at q) (fun st' q=>HP st' (by rcases q with rfl|rfl<;>first|exact o2|exact o3))
 have hL:=loop_sim true 124 15 2 (fun s=>(hdK s.ks).isSign 62=false) (R:=ChaR F d) (st:=st) (fun s st2 out2 hb hl hsg hd=>by
  rw[(mStep_op hb).2 hl hsg]
  unfold stepOp
  show(if s.made<200 then _ else _)=_
  simp only[hd]) (fun _ _ h=>h) (fun s hb r hr=>by
   have h9:=hC2 s hb r hr
   cases r with
   |error e=>exact h9
   |ok s2=>exact⟨h9.1,h9.2.1,fun Q hQ=>h9.2.2.2 Q (fun st2 out2 hd=>hQ _ _ (by
     rw[←drain_false_true,hd]
     show drainF true ((2,0)::st) s2.out=_
     rw[drainF_cons,if_pos (.inr ⟨rfl,rfl⟩)]
     simp only[if_true]
     exact hT.drain))⟩)
 intro s hb r hr
 have hP:=hC1 s hb
 rcases hr with⟨e,h,rfl⟩|⟨s1,h,hr⟩
 ·exact hP _ h
 ·obtain⟨h1,h2,_,h3⟩:=hP _ h
  have h9:=hL s1 r hr h1 h2
  have hdr:∀st2 out2,drainF false st2 out2=(st,s1.out)→drainF true st2 out2=(st,s1.out):=fun st2 out2 hd=>by
   rw[←drain_false_true,hd]
   exact hT.drain
  cases r with
  |error e=>exact h3 _ (fun st2 out2 hd=>h9 st2 out2 (hdr _ _ hd))
  |ok s2=>exact⟨h9.1,h9.2.2.1,fun _=>h9.2.1,fun Q hQ=>h3 _ (fun st2 out2 hd=>h9.2.2.2 Q hQ st2 out2 (hdr _ _ hd))⟩
theorem fil_sim:∀(d:Nat) (st:List (Int×Nat)),openF st+d=20→TopNo true st→∀s,(hdK s.ks).isBad=false→Sim (some true) (FilR d) st s (mOf s st s.out Bool.true)
 |0,st,ho,hT=>join_sim hT (fun st' ho'=>prim_sim (by omega) (fun q=>by omega))
 |d+1,st,ho,hT=>join_sim hT (fun st' ho'=>prim_sim (by omega) (fun _ k l s hk hb=>fil_sim d ((k,l)::st') (by
   have:openF ((k,l)::st')=openF st'+1:=by simp[openF,hk]
   omega) (by intro q;rcases q with q|q<;>omega) s hb))
def outOf (r:PR Ps):PR (List Nd):=match r with
 | .error e=>.error e
 | .ok s=>.ok s.out
theorem par_same {ks:List Tk} {r:PR Ps} (h:ParR ks r):MEnds ⟨ks,0,[],[],true⟩ (outOf r):=by
 rcases h with⟨hb,rfl⟩|⟨hb,h⟩
 ·exact MEnds.bad hb
 ·have hF:=fil_sim 20 [] rfl trivial ⟨ks,0,[]⟩ hb
  rcases h with⟨e,h,rfl⟩|⟨s1,h,h2⟩
  ·exact hF _ h
  ·obtain⟨h1,h3,h4,h5⟩:=hF _ h
   have h2':r=endF s1:=h2
   subst h2'
   refine h5 _ (fun st2 out2 hd=>.fin ?_)
   unfold mStep
   rw[if_neg (by show¬(hdK s1.ks).isBad=true;rw[h1];simp),if_neg (by simp),if_neg (by show¬(hdK s1.ks).isSign 62=true;rw[h3];simp),if_neg (by show¬(hdK s1.ks).isSign 124=true;rw[h4 rfl];simp)]
   show stepClose _ (drainF true st2 out2).1 (drainF true st2 out2).2=_
   rw[hd]
   show(if(hdK s1.ks).isFin=true then _ else _)=_
   unfold endF
   split<;>rfl
def isLet (b:UInt8):Bool:=decide (97≤b.toNat∧b.toNat≤122)
def isDig (b:UInt8):Bool:=decide (48≤b.toNat∧b.toNat≤57)
def isPla (b:UInt8):Bool:=decide (32≤b.toNat∧b.toNat≤126)
def WordK (l:List UInt8) (k:Int):Prop:=(1≤k∧k≤13∧bl (wordA k)=l)∨(k=16∧l= [105,102])
def kwF (l:List UInt8):Option Int:=
 if l= [112,97,115,115]then some 1 else if l= [98,108,111,99,107]then some 2 else if l= [115,116,114,105,112]then some 3 else if l= [114,111,119]then some 4
 else if l= [102,97,109]then some 5 else if l= [113,117,97,108]then some 6 else if l= [118,97,108]then some 7 else if l= [114,111,119,115]then some 8
 else if l= [113,117,97,108,115]then some 9 else if l= [116,115]then some 10 else if l= [118,101,114,115,105,111,110,115]then some 11 else if l= [99,101,108,108,115]then some 12
 else if l= [115,107,105,112]then some 13 else if l= [105,102]then some 16 else none
theorem cases13 {k:Int} (h1:1≤k) (h2:k≤13):k=1∨k=2∨k=3∨k=4∨k=5∨k=6∨k=7∨k=8∨k=9∨k=10∨k=11∨k=12∨k=13:=by omega
theorem kwF_word {l:List UInt8} {k:Int} (h:WordK l k):kwF l=some k:=by
 rcases h with⟨h1,h2,rfl⟩|⟨rfl,rfl⟩
 ·rcases cases13 h1 h2 with rfl|rfl|rfl|rfl|rfl|rfl|rfl|rfl|rfl|rfl|rfl|rfl|rfl<;>decide
 ·decide
theorem ifS {p:Prop} [Decidable p] {a b:Option Int} {k:Int} (h:(if p then a else b)=some k):(p∧a=some k)∨b=some k:=by
 by_cases q:p
 ·rw[if_pos q]at h;exact .inl ⟨q,h⟩
 ·rw[if_neg q]at h;exact .inr h
theorem kwF_some {l:List UInt8} {k:Int} (h:kwF l=some k):WordK l k:=by
 unfold kwF at h
 rcases ifS h with⟨rfl,h⟩|h
 ·cases h;exact .inl ⟨by omega,by omega,by decide⟩
 rcases ifS h with⟨rfl,h⟩|h
 ·cases h;exact .inl ⟨by omega,by omega,by decide⟩
 rcases ifS h with⟨rfl,h⟩|h
 ·cases h;exact .inl ⟨by omega,by omega,by decide⟩
 rcases ifS h with⟨rfl,h⟩|h
 ·cases h;exact .inl ⟨by omega,by omega,by decide⟩
 rcases ifS h with⟨rfl,h⟩|h
 ·cases h;exact .inl ⟨by omega,by omega,by decide⟩
 rcases ifS h with⟨rfl,h⟩|h
 ·cases h;exact .inl ⟨by omega,by omega,by decide⟩
 rcases ifS h with⟨rfl,h⟩|h
 ·cases h;exact .inl ⟨by omega,by omega,by decide⟩
 rcases ifS h with⟨rfl,h⟩|h
 ·cases h;exact .inl ⟨by omega,by omega,by decide⟩
 rcases ifS h with⟨rfl,h⟩|h
 ·cases h;exact .inl ⟨by omega,by omega,by decide⟩
 rcases ifS h with⟨rfl,h⟩|h
 ·cases h;exact .inl ⟨by omega,by omega,by decide⟩
 rcases ifS h with⟨rfl,h⟩|h
 ·cases h;exact .inl ⟨by omega,by omega,by decide⟩
 rcases ifS h with⟨rfl,h⟩|h
 ·cases h;exact .inl ⟨by omega,by omega,by decide⟩
 rcases ifS h with⟨rfl,h⟩|h
 ·cases h;exact .inl ⟨by omega,by omega,by decide⟩
 rcases ifS h with⟨rfl,h⟩|h
 ·cases h;exact .inr ⟨rfl,rfl⟩
 ·cases h
theorem wordK_range {l:List UInt8} {k:Int} (h:WordK l k):(1≤k∧k≤13)∨k=16:=by
 rcases h with⟨h1,h2,_⟩|⟨h,_⟩
 ·exact .inl ⟨h1,h2⟩
 ·exact .inr h
def decV (d:List UInt8):Nat:=d.foldl (fun n b=>10*n+(b.toNat-48)) 0
def numM (d:List UInt8):Option Nat:=if 1<d.length∧d.head?=some 48 then none else if decV d<2^64 then some (decV d)else none
def hexV (b:UInt8):Option Nat:=if 48≤b.toNat∧b.toNat≤57 then some (b.toNat-48)else if 97≤b.toNat∧b.toNat≤102 then some (b.toNat-87)else none
def strM:List UInt8→Option (List UInt8×Nat)
 | []=>none
 |b::r=>if b=34 then some ([],1)
  else if b=92 then(match r with
   | []=>none
   |c::r2=>if c=34∨c=92 then(strM r2).map (fun x=>(c::x.1,x.2+2))
    else if c=120 then(match r2 with
     |h::l::r3=>(match hexV h,hexV l with
      |some x,some y=>(strM r3).map (fun z=>(UInt8.ofNat (16*x+y)::z.1,z.2+4))
      |_,_=>none)
     |_=>none)
    else none)
  else if isPla b=true then(strM r).map (fun x=>(b::x.1,x.2+1))else none
def tokF (l:List UInt8):Option (TkK×Nat):=match l with
 | []=>none
 |b::r=>
  if isLet b=true then(kwF (l.takeWhile isLet)).map (fun k=>(.word k,(l.takeWhile isLet).length))
  else if isDig b=true then(numM (l.takeWhile isDig)).map (fun n=>(.num (n:Int),(l.takeWhile isDig).length))
  else if b=34 then(match strM r with
   |some (c,n)=>if c.length≤200 then some (.str ⟨c.toArray⟩,n+1)else none
   |none=>none)
  else if b=46∧r.head?=some 46 then some (.sign 46,2)
  else if b=40∨b=41∨b=44∨b=62∨b=124 then some (.sign b,1)
  else none
inductive LexR:List UInt8→Nat→List Tk→Prop
 |fin {i:Nat}:LexR [] i [⟨.fin,i⟩]
 |space {l:List UInt8} {i:Nat} {ks:List Tk} (h:LexR l (i+1) ks):LexR (32::l) i ks
 |bad {b:UInt8} {l:List UInt8} {i:Nat} (hb:¬b=32) (h:tokF (b::l)=none):LexR (b::l) i [⟨.bad,i⟩]
 |tok {b:UInt8} {l:List UInt8} {i:Nat} {k:TkK} {n:Nat} {ks:List Tk} (hb:¬b=32) (h:tokF (b::l)=some (k,n)) (ht:LexR ((b::l).drop n) (i+n) ks):LexR (b::l) i (⟨k,i⟩::ks)
theorem takeWhile_len {α:Type} (p:α→Bool) (l:List α):(l.takeWhile p).length≤l.length:=by
 induction l with
 |nil=>simp
 |cons a l ih=>rw[List.takeWhile_cons];split<;>simp<;>omega
theorem strM_len:∀(m:Nat) (l:List UInt8),l.length≤m→∀x,strM l=some x→1≤x.2∧x.2≤l.length∧x.1.length<x.2
 |0,l,hl,x,h=>by
  obtain rfl:=List.length_eq_zero_iff.1 (Nat.le_zero.1 hl)
  unfold strM at h;cases h
 |m+1,[],hl,x,h=>by unfold strM at h;cases h
 |m+1,b::r,hl,x,h=>by
  rw[List.length_cons]at hl⊢
  unfold strM at h
  split at h
  ·cases h;exact⟨Nat.le_refl _,by omega,by simp⟩
  split at h
  ·cases r with
   |nil=>cases h
   |cons c r2=>
    rw[List.length_cons]at hl⊢
    dsimp only at h
    split at h
    ·obtain⟨y,hy,rfl⟩:=Option.map_eq_some_iff.1 h
     have:=strM_len m r2 (by omega) y hy
     simp only[List.length_cons]
     omega
    split at h
    ·cases r2 with
     |nil=>cases h
     |cons a r3=>cases r3 with
      |nil=>cases h
      |cons e r4=>
       dsimp only at h
       split at h
       ·obtain⟨y,hy,rfl⟩:=Option.map_eq_some_iff.1 h
        simp only[List.length_cons]at hl⊢
        have:=strM_len m r4 (by omega) y hy
        omega
       ·cases h
    ·cases h
  ·split at h
   ·obtain⟨y,hy,rfl⟩:=Option.map_eq_some_iff.1 h
    have:=strM_len m r (by omega) y hy
    simp only[List.length_cons]
    omega
   ·cases h
def TkK.good:TkK→Prop
 | .word k=>(1≤k∧k≤13)∨k=16
 | .num n=>0≤n∧n<2^64
 | .str s=>s.size≤200
 | .sign b=>b=40∨b=41∨b=44∨b=62∨b=124∨b=46
 |_=>False
theorem tokF_some {l:List UInt8} {k:TkK} {n:Nat} (h:tokF l=some (k,n)):1≤n∧n≤l.length∧k.good:=by
 unfold tokF at h
 cases l with
 |nil=>cases h
 |cons b r=>
  dsimp only at h
  split at h
  ·rename_i hb
   obtain⟨y,hy,hq⟩:=Option.map_eq_some_iff.1 h
   cases hq
   refine⟨?_,takeWhile_len _ _,wordK_range (kwF_some hy)⟩
   rw[List.takeWhile_cons,if_pos hb];simp
  split at h
  ·rename_i hb
   obtain⟨y,hy,hq⟩:=Option.map_eq_some_iff.1 h
   cases hq
   refine⟨?_,takeWhile_len _ _,?_⟩
   ·rw[List.takeWhile_cons,if_pos hb];simp
   ·unfold numM at hy
    split at hy
    ·cases hy
    ·split at hy
     ·cases hy
      rename_i h64
      exact⟨by omega,by omega⟩
     ·cases hy
  split at h
  ·cases hs:strM r with
   |none=>rw[hs]at h;cases h
   |some x=>
    rw[hs]at h
    obtain⟨c,m⟩:=x
    dsimp only at h
    split at h
    ·rename_i hc
     cases h
     have:=strM_len r.length r (Nat.le_refl _) _ hs
     refine⟨by omega,by simp only[List.length_cons];omega,?_⟩
     show(⟨c.toArray⟩:ByteArray).size≤200
     show c.toArray.size≤200
     simpa using hc
    ·cases h
  split at h
  ·rename_i hd
   cases h
   refine⟨by omega,?_,by simp[TkK.good]⟩
   cases r with
   |nil=>simp at hd
   |cons c r=>simp
  split at h
  ·rename_i hd
   cases h
   exact⟨Nat.le_refl _,by simp,by rcases hd with rfl|rfl|rfl|rfl|rfl<;>simp[TkK.good]⟩
  ·cases h
theorem lexR_ex:∀(m:Nat) (l:List UInt8) (i:Nat),l.length≤m→∃ks,LexR l i ks
 |0,l,i,h=>by
  obtain rfl:=List.length_eq_zero_iff.1 (Nat.le_zero.1 h)
  exact⟨_,.fin⟩
 |m+1,[],i,h=>⟨_,.fin⟩
 |m+1,b::l,i,h=>by
  by_cases hb:b=32
  ·subst hb
   obtain⟨ks,hk⟩:=lexR_ex m l (i+1) (by simp at h;omega)
   exact⟨ks,.space hk⟩
  ·cases ht:tokF (b::l)with
   |none=>exact⟨_,.bad hb ht⟩
   |some x=>
    obtain⟨k,n⟩:=x
    have hn:=tokF_some ht
    obtain⟨ks,hk⟩:=lexR_ex m ((b::l).drop n) (i+n) (by rw[List.length_drop];omega)
    exact⟨_,.tok hb ht hk⟩
theorem LexR.one {l:List UInt8} {i:Nat} {ks ks':List Tk} (h:LexR l i ks) (h':LexR l i ks'):ks=ks':=by
 induction h generalizing ks' with
 |fin=>cases h' with
  |fin=>rfl
 |space h ih=>cases h' with
  |space h'=>exact ih h'
  |bad hb _=>exact absurd rfl hb
  |tok hb _ _=>exact absurd rfl hb
 |bad hb h=>cases h' with
  |space h'=>exact absurd rfl hb
  |bad _ _=>rfl
  |tok _ h' _=>rw[h]at h';cases h'
 |tok hb h ht ih=>cases h' with
  |space h'=>exact absurd rfl hb
  |bad _ h'=>rw[h]at h';cases h'
  |tok _ h' ht'=>
   rw[h]at h'
   cases h'
   rw[ih ht']
inductive Toks:List Tk→Prop
 |last (k:Tk) (h:k.k=.fin∨k.k=.bad):Toks [k]
 |more (k:Tk) (h:k.k.good) {ks:List Tk} (t:Toks ks):Toks (k::ks)
theorem LexR.toks {l:List UInt8} {i:Nat} {ks:List Tk} (h:LexR l i ks):Toks ks:=by
 induction h with
 |fin=>exact .last _ (.inl rfl)
 |space _ ih=>exact ih
 |bad _ _=>exact .last _ (.inr rfl)
 |tok _ h _ ih=>exact .more _ (tokF_some h).2.2 ih
theorem LexR.len {l:List UInt8} {i:Nat} {ks:List Tk} (h:LexR l i ks):ks.length≤l.length+1∧∀k∈ks,k.pos≤i+l.length:=by
 induction h with
 |fin=>exact⟨by simp,fun k hk=>by simp at hk;subst hk;simp⟩
 |space _ ih=>exact⟨by have:=ih.1;simp;omega,fun k hk=>by have:=ih.2 k hk;simp;omega⟩
 |bad _ _=>exact⟨by simp,fun k hk=>by simp at hk;subst hk;simp⟩
 | @tok b l i k n ks hb h _ ih=>
   have hn:=tokF_some h
   rw[List.length_drop]at ih
   refine⟨by have:=ih.1;simp at this⊢;simp at hn;omega,fun q hq=>?_⟩
   rcases List.mem_cons.1 hq with rfl|hq
   ·show i≤_;omega
   ·have:=ih.2 q hq;omega
theorem Toks.tail {k:Tk} {ks:List Tk} (h:Toks (k::ks)) (hb:k.k.isBad=false) (hf:k.k.isFin=false):Toks ks∧k.k.good:=by
 cases h with
 |last _ h=>
  rcases h with h|h
  ·rw[h]at hf;cases hf
  ·rw[h]at hb;cases hb
 |more _ h t=>exact⟨t,h⟩
end Go.Proofs.YtgnpcenpcmdlfaaGreatDoor
namespace Go.Proofs.YtgnpcenpcmdlfaaGreatDoor
open Go.ChangeShapes Go.WideShapes Go.ChangeAt Go.RowKit Go.Deep
set_option linter.unusedVariables false
set_option linter.unusedSimpArgs false
set_option maxRecDepth 100000
section
variable {α:Type} {f:α→List Value} {sz:Nat}
variable {ty:Nat}
end
theorem par_boxes {w W0:World} (v u:List Value) {t:Nat} (h:W0=(w.alloc (Obj.cells v.toArray t)).alloc (Obj.cells u.toArray t)):BoxAt W0 w.heap.size t v.length w.heap.size v∧BoxAt W0 w.heap.size t u.length (w.heap.size+1) u∧Below w.heap.size w W0:=by
 obtain⟨X,hX⟩:=qE (w.alloc (Obj.cells v.toArray t):World)
 have z:X.heap.size=w.heap.size+1:=by rw[hX];simp
 have b1:=boxAt_new w (base:=w.heap.size) (t:=t) (sz:=v.length) v.toArray (Nat.le_refl _) (by simp)
 have k1:Below w.heap.size w X:=by rw[hX];exact qB
 rw[←hX]at b1 h
 have k2:Below X.heap.size X W0:=by rw[h];exact qB
 have b2:=boxAt_new X (base:=w.heap.size) (t:=t) (sz:=u.length) u.toArray (by omega) (by simp)
 rw[←h,z]at b2
 exact⟨b1.below k2,b2,k1.trans (k2.mono (by omega))⟩
def setP (w:World) (g:Nat) (a b c d e:Value):World:=((((w.setCell ⟨g,0,none⟩ a).setCell ⟨g,1,none⟩ b).setCell ⟨g,2,none⟩ c).setCell ⟨g,3,none⟩ d).setCell ⟨g,4,none⟩ e
theorem BoxAt.setP {w:World} {base t g:Nat} {vs:List Value} (h:BoxAt w base t 5 g vs) (a b c d e:Value):BoxAt (Go.Proofs.YtgnpcenpcmdlfaaGreatDoor.setP w g a b c d e) base t 5 g [a,b,c,d,e]:=by
 have h1:=((((h.set 0 a).set 1 b).set 2 c).set 3 d).set 4 e
 have hl:=h.len
 match vs,hl with
 | [_,_,_,_,_],_=>exact h1
abbrev strL (l:List UInt8):ByteArray:=⟨l.toArray⟩
theorem strL_bl (s:ByteArray):strL (bl s)=s:=by cases s;simp[strL]
theorem bysL_bytes {w:World} {b off:Nat} {xs:List UInt8} (h:BysAt w b off xs):Lib.Bytes w b off (strL xs):=by
 intro i hi
 have hi':i<xs.length:=by have:(strL xs).size=xs.length:=(by show xs.toArray.size=_;simp);omega
 have h1:=h i xs[i] (List.getElem?_eq_getElem hi')
 rw[h1]
 rfl
theorem conv_win {w:World} {b off:Nat} {xs:List UInt8} (h:BysAt w b off xs) (i m c:Nat) (hm:i+m≤xs.length):
  (convert 22 9 (.slice (some ⟨b,off+i,none⟩) m c)).run Tryz.prog w=.ok (.string (strL ((xs.drop i).take m))) w:=by
 have hsz:(strL xs).size=xs.length:=by show xs.toArray.size=_;simp
 have h1:=Lib.run_convert_window (P:=Tryz.prog) w 22 5 9 Tryz.underlying22 Tryz.underlying5 Tryz.underlying9 b off (strL xs) (bysL_bytes h) i m c (by omega)
 rw[h1]
 have h2:(strL xs).extract i (i+m)=strL ((xs.drop i).take m):=by
  rw[←strL_bl ((strL xs).extract i (i+m))]
  congr 1
  show((strL xs).extract i (i+m)).data.toList=_
  rw[Lib.extract_data,Nat.add_sub_cancel_left]
 rw[h2]
def hexI (b:UInt8):Int:=match hexV b with
 |some v=>(v:Int)
 |none=> -1
theorem foldl_dec_le:∀(l:List UInt8) (n:Nat),n≤l.foldl (fun n b=>10*n+(b.toNat-48)) n
 | [],n=>Nat.le_refl _
 |b::l,n=>by rw[List.foldl_cons];exact Nat.le_trans (by omega) (foldl_dec_le l _)
end Go.Proofs.YtgnpcenpcmdlfaaGreatDoor
namespace Go.Proofs.YtgnpcenpcmdlfaaGreatDoor
set_option linter.unusedVariables false
set_option linter.unusedSimpArgs false
theorem str_nil:strM []=none:=by unfold strM;rfl
theorem str_quo (r:List UInt8):strM (34::r)=some ([],1):=by unfold strM;rw[if_pos rfl]
theorem str_pla {b:UInt8} {r:List UInt8} (h1:¬b=34) (h2:¬b=92) (h3:isPla b=true):strM (b::r)=(strM r).map (fun x=>(b::x.1,x.2+1)):=by
 conv=>lhs;unfold strM
 rw[if_neg h1,if_neg h2,if_pos h3]
theorem str_not {b:UInt8} {r:List UInt8} (h1:¬b=34) (h2:¬b=92) (h3:¬isPla b=true):strM (b::r)=none:=by
 conv=>lhs;unfold strM
 rw[if_neg h1,if_neg h2,if_neg h3]
theorem str_esc {c:UInt8} {r:List UInt8} (h:c=34∨c=92):strM (92::c::r)=(strM r).map (fun x=>(c::x.1,x.2+2)):=by
 conv=>lhs;unfold strM
 rw[if_neg (by decide),if_pos rfl]
 dsimp only
 rw[if_pos h]
theorem str_odd {c:UInt8} {r:List UInt8} (h:¬(c=34∨c=92)) (h2:¬c=120):strM (92::c::r)=none:=by
 conv=>lhs;unfold strM
 rw[if_neg (by decide),if_pos rfl]
 dsimp only
 rw[if_neg h,if_neg h2]
theorem str_x (r:List UInt8):strM (92::120::r)=(match r with
     |h::l::r3=>(match hexV h,hexV l with
      |some x,some y=>(strM r3).map (fun z=>(UInt8.ofNat (16*x+y)::z.1,z.2+4))
      |_,_=>none)
     |_=>none):=by
 conv=>lhs;unfold strM
 rw[if_neg (by decide),if_pos rfl]
 dsimp only
 rewrite [if_neg (by decide),if_pos rfl]
 cases r with
 |nil=>rfl
 |cons h r=>cases r with
  |nil=>rfl
  |cons l r=>dsimp only<;>(cases hexV h<;>cases hexV l<;>rfl)
theorem dropT_cons {t:List UInt8} {j:Nat} {x:UInt8} (h:t[j]?=some x):t.drop j=x::t.drop (j+1):=by
 have hj:=(List.getElem?_eq_some_iff.1 h).1
 rw[List.drop_eq_getElem_cons hj,show t[j]=x from Option.some.inj ((List.getElem?_eq_getElem hj).symm.trans h)]
def QuS (t:List UInt8) (i j:Nat) (X:List UInt8):Prop:=i+1≤j∧strM (t.drop (i+1))=(strM (t.drop j)).map (fun z=>(X++z.1,z.2+(j-(i+1))))
theorem QuS.start (t:List UInt8) (i:Nat):QuS t i (i+1) []:=by
 refine⟨Nat.le_refl _,?_⟩
 cases strM (t.drop (i+1))with
 |none=>rfl
 |some z=>simp
theorem QuS.next {t:List UInt8} {i j k:Nat} {X:List UInt8} {b:UInt8} (h:QuS t i j X) (hs:strM (t.drop j)=(strM (t.drop (j+k))).map (fun z=>(b::z.1,z.2+k))):QuS t i (j+k) (X++ [b]):=by
 refine⟨by have:=h.1;omega,?_⟩
 rw[h.2,hs,Option.map_map]
 congr 1
 funext z
 have:=h.1
 simp
 omega
theorem QuS.none {t:List UInt8} {i j:Nat} {X:List UInt8} (h:QuS t i j X) (hs:strM (t.drop j)=none):strM (t.drop (i+1))=none:=by rw[h.2,hs];rfl
theorem QuS.done {t:List UInt8} {i j:Nat} {X:List UInt8} (h:QuS t i j X) (hs:t[j]?=some 34):strM (t.drop (i+1))=some (X,j+1-(i+1)):=by
 rw[h.2,dropT_cons hs,str_quo]
 have:=h.1
 simp
 omega
theorem u8_ne {a b:UInt8} (h:¬a.toNat=b.toNat):¬a=b:=fun q=>h (by rw[q])
theorem hexV_lt {b:UInt8} {x:Nat} (h:hexV b=some x):x<16:=by
 unfold hexV at h
 split at h
 ·cases h;omega
 ·split at h
  ·cases h;omega
  ·cases h
theorem hexI_some {b:UInt8} {x:Nat} (h:hexV b=some x):hexI b=(x:Int):=by unfold hexI;rw[h]
theorem hexI_none {b:UInt8} (h:hexV b=none):hexI b= -1:=by unfold hexI;rw[h]
end Go.Proofs.YtgnpcenpcmdlfaaGreatDoor
namespace Go.Proofs.YtgnpcenpcmdlfaaGreatDoor
open Go.ChangeShapes Go.WideShapes Go.ChangeAt Go.RowKit Go.Deep
set_option linter.unusedVariables false
set_option linter.unusedSimpArgs false
set_option maxRecDepth 100000
def quF (l:List UInt8):Option (List UInt8×Nat):=match strM l with
 |some (c,n)=>if c.length≤200 then some (c,n)else none
 |none=>none
theorem quF_none {l:List UInt8} (h:strM l=none):quF l=none:=by unfold quF;rw[h]
theorem quF_long {l c:List UInt8} {n:Nat} (h:strM l=some (c,n)) (hc:¬c.length≤200):quF l=none:=by unfold quF;rw[h];exact if_neg hc
theorem quF_some {l c:List UInt8} {n:Nat} (h:strM l=some (c,n)) (hc:c.length≤200):quF l=some (c,n):=by unfold quF;rw[h];exact if_pos hc
theorem wrap64 {x:Int} (h1: -9223372036854775808≤x) (h2:x≤9223372036854775807):IntKind.i64.wrap x=x:=by
 simp only[IntKind.wrap,IntKind.bits,IntKind.signed,Bool.true_and]
 split<;>simp_all<;>omega
end Go.Proofs.YtgnpcenpcmdlfaaGreatDoor
namespace Go.Proofs.YtgnpcenpcmdlfaaGreatDoor
open Go.ChangeShapes Go.WideShapes Go.ChangeAt Go.RowKit Go.Deep
set_option linter.unusedVariables false
set_option linter.unusedSimpArgs false
theorem tw_eq (p:UInt8→Bool):∀(l:List UInt8) (k:Nat),k≤l.length→(∀j x,j<k→l[j]?=some x→p x=true)→(∀x,l[k]?=some x→p x=false)→l.takeWhile p=l.take k
 |l,0,_,_,h=>by
  cases l with
  |nil=>rfl
  |cons x l=>rw[List.takeWhile_cons,if_neg (by rw[h x rfl];simp)];rfl
 | [],k+1,hk,_,_=>by simp at hk
 |x::l,k+1,hk,ha,hz=>by
  rw[List.takeWhile_cons,if_pos (ha 0 x (by omega) rfl),List.take_succ_cons,tw_eq p l k (by simpa using hk) (fun j y hj hy=>ha (j+1) y (by omega) (by simpa using hy)) (fun y hy=>hz y (by simpa using hy))]
theorem tw_at {t:List UInt8} {p:UInt8→Bool} {i j:Nat} (hij:i≤j) (hj:j≤t.length) (ha:∀k x,i≤k→k<j→t[k]?=some x→p x=true) (hz:∀x,t[j]?=some x→p x=false):(t.drop i).takeWhile p=(t.drop i).take (j-i):=
 tw_eq p _ _ (by rw[List.length_drop];omega) (fun k x hk hx=>ha (i+k) x (by omega) (by omega) (by rw[List.getElem?_drop]at hx;exact hx)) (fun x hx=>hz x (by rw[List.getElem?_drop,Nat.add_sub_cancel' hij]at hx;exact hx))
theorem isDig_iff (b:UInt8):isDig b=true↔48≤b.toNat∧b.toNat≤57:=by unfold isDig;simp
theorem tok_let {t:List UInt8} {i:Nat} {x:UInt8} (hx:t[i]?=some x) (h:isLet x=true):tokF (t.drop i)=(kwF ((t.drop i).takeWhile isLet)).map (fun k=>(.word k,((t.drop i).takeWhile isLet).length)):=by
 rw[dropT_cons hx];conv=>lhs;unfold tokF
 dsimp only
 rw[if_pos h]
theorem tok_dig {t:List UInt8} {i:Nat} {x:UInt8} (hx:t[i]?=some x) (h0:¬isLet x=true) (h:isDig x=true):tokF (t.drop i)=(numM ((t.drop i).takeWhile isDig)).map (fun(n:Nat)=>(TkK.num (n:Int),((t.drop i).takeWhile isDig).length)):=by
 rw[dropT_cons hx];conv=>lhs;unfold tokF
 dsimp only
 rw[if_neg h0,if_pos h]
 cases numM ((x::t.drop (i+1)).takeWhile isDig)<;>rfl
theorem tok_str {t:List UInt8} {i:Nat} (hx:t[i]?=some 34):tokF (t.drop i)=(quF (t.drop (i+1))).map (fun z=>(.str (strL z.1),z.2+1)):=by
 rw[dropT_cons hx];conv=>lhs;unfold tokF
 dsimp only
 rw[if_neg (by decide),if_neg (by decide),if_pos rfl]
 unfold quF
 cases strM (t.drop (i+1))with
 |none=>rfl
 |some z=>
  obtain⟨c,n⟩:=z
  dsimp only
  split<;>rfl
theorem tok_rest {t:List UInt8} {i:Nat} {x:UInt8} (hx:t[i]?=some x) (h0:¬isLet x=true) (h1:¬isDig x=true) (h2:¬x=34):tokF (t.drop i)=if x=46∧t[i+1]?=some 46 then some (.sign 46,2)else if x=40∨x=41∨x=44∨x=62∨x=124 then some (.sign x,1)else none:=by
 rw[dropT_cons hx];conv=>lhs;unfold tokF
 dsimp only
 rw[if_neg h0,if_neg h1,if_neg h2]
 have:(t.drop (i+1)).head?=t[i+1]?:=by rw[List.head?_drop]
 rw[this]
end Go.Proofs.YtgnpcenpcmdlfaaGreatDoor
namespace Go.Proofs.YtgnpcenpcmdlfaaGreatDoor
open Go.ChangeShapes Go.WideShapes Go.ChangeAt Go.RowKit Go.Deep
set_option linter.unusedVariables false
set_option linter.unusedSimpArgs false
set_option maxRecDepth 100000
abbrev FsAt (w:World) (base g b off n cap i:Nat) (vs:List Value):Prop:=BoxAt w base 54 10 g (.slice (some ⟨b,off,none⟩) n cap:: .int .i64 (i:Int)::vs)
theorem FsAt.move {w:World} {base g b off n cap i:Nat} {vs:List Value} (h:FsAt w base g b off n cap i vs) (j:Nat) (u:Value) (hu:u=.int .i64 (j:Int)):FsAt (w.setCell ⟨g,1,none⟩ u) base g b off n cap j vs:=by
 subst hu
 exact BoxAt.set h 1 (.int .i64 (j:Int))
set_option maxHeartbeats 1000000 in
theorem sdem_yes (v:Value) (w:World):Calls Tryz.prog 62 #[v,.bool true] w fun e w'=>e=.returned (.tuple #[])∧w'=w:=by
 go_enter Tryz.func62,Tryz.ntmps62
 go_wp2_with fail
 go_end0
 exact⟨rfl,rfl⟩
set_option maxHeartbeats 1000000 in
theorem sdem_no {base g b off n cap i:Nat} {vs:List Value} {w:World} (h:FsAt w base g b off n cap i vs):Calls Tryz.prog 62 #[.pointer (some ⟨g,0,none⟩),.bool false] w fun e w'=>e=Pf 2 i∧w'=w:=by
 have c1:=h.cell (j:=1) rfl
 clear h
 go_enter Tryz.func62,Tryz.ntmps62
 go_wp2_with fail
 exact⟨rfl,rfl,rfl⟩
set_option maxHeartbeats 1000000 in
theorem isLetter_core (x:UInt8) (w:World):Calls Tryz.prog 55 #[.int .u8 (x.toNat:Int)] w fun e w'=>e=.returned (.bool (isLet x))∧w'=w:=by
 have hx:x.toNat<256:=x.toNat_lt
 obtain⟨n,hn⟩:=qE x.toNat
 have HP:Hid (isLet x=decide (97≤n∧n≤122)):=by show _=_;rw[hn];rfl
 rw[←hn]at hx⊢
 clear hn
 by_cases h1:97≤n
 ·have z1:(97:Int)≤(n:Int):=by omega
  by_cases h2:n≤122
  ·have z2:(n:Int)≤122:=by omega
   go_enter Tryz.func55,Tryz.ntmps55
   go_wp2_with fail
   go_ret
   exact⟨by rw[HP.out,decide_eq_true (⟨h1,h2⟩:97≤n∧n≤122)];rfl,rfl⟩
  ·have z2:¬(n:Int)≤122:=by omega
   go_enter Tryz.func55,Tryz.ntmps55
   go_wp2_with fail
   go_ret
   exact⟨by rw[HP.out,decide_eq_false (fun q:97≤n∧n≤122=>h2 q.2)];rfl,rfl⟩
 ·have z1:¬(97:Int)≤(n:Int):=by omega
  go_enter Tryz.func55,Tryz.ntmps55
  go_wp2_with fail
  go_ret
  exact⟨by rw[HP.out,decide_eq_false (fun q:97≤n∧n≤122=>h1 q.1)];rfl,rfl⟩
set_option maxHeartbeats 1000000 in
theorem isDigit_core (x:UInt8) (w:World):Calls Tryz.prog 57 #[.int .u8 (x.toNat:Int)] w fun e w'=>e=.returned (.bool (isDig x))∧w'=w:=by
 have hx:x.toNat<256:=x.toNat_lt
 obtain⟨n,hn⟩:=qE x.toNat
 have HP:Hid (isDig x=decide (48≤n∧n≤57)):=by show _=_;rw[hn];rfl
 rw[←hn]at hx⊢
 clear hn
 by_cases h1:48≤n
 ·have z1:(48:Int)≤(n:Int):=by omega
  by_cases h2:n≤57
  ·have z2:(n:Int)≤57:=by omega
   go_enter Tryz.func57,Tryz.ntmps57
   go_wp2_with fail
   go_ret
   exact⟨by rw[HP.out,decide_eq_true (⟨h1,h2⟩:48≤n∧n≤57)];rfl,rfl⟩
  ·have z2:¬(n:Int)≤57:=by omega
   go_enter Tryz.func57,Tryz.ntmps57
   go_wp2_with fail
   go_ret
   exact⟨by rw[HP.out,decide_eq_false (fun q:48≤n∧n≤57=>h2 q.2)];rfl,rfl⟩
 ·have z1:¬(48:Int)≤(n:Int):=by omega
  go_enter Tryz.func57,Tryz.ntmps57
  go_wp2_with fail
  go_ret
  exact⟨by rw[HP.out,decide_eq_false (fun q:48≤n∧n≤57=>h1 q.1)];rfl,rfl⟩
set_option maxHeartbeats 1000000 in
theorem isPlainB_core (x:UInt8) (w:World):Calls Tryz.prog 92 #[.int .u8 (x.toNat:Int)] w fun e w'=>e=.returned (.bool (isPla x))∧w'=w:=by
 have hx:x.toNat<256:=x.toNat_lt
 obtain⟨n,hn⟩:=qE x.toNat
 have HP:Hid (isPla x=decide (32≤n∧n≤126)):=by show _=_;rw[hn];rfl
 rw[←hn]at hx⊢
 clear hn
 by_cases h1:32≤n
 ·have z1:(32:Int)≤(n:Int):=by omega
  by_cases h2:n≤126
  ·have z2:(n:Int)≤126:=by omega
   go_enter Tryz.func92,Tryz.ntmps92
   go_wp2_with fail
   go_ret
   exact⟨by rw[HP.out,decide_eq_true (⟨h1,h2⟩:32≤n∧n≤126)];rfl,rfl⟩
  ·have z2:¬(n:Int)≤126:=by omega
   go_enter Tryz.func92,Tryz.ntmps92
   go_wp2_with fail
   go_ret
   exact⟨by rw[HP.out,decide_eq_false (fun q:32≤n∧n≤126=>h2 q.2)];rfl,rfl⟩
 ·have z1:¬(32:Int)≤(n:Int):=by omega
  go_enter Tryz.func92,Tryz.ntmps92
  go_wp2_with fail
  go_ret
  exact⟨by rw[HP.out,decide_eq_false (fun q:32≤n∧n≤126=>h1 q.1)];rfl,rfl⟩
set_option maxHeartbeats 8000000 in
theorem run_let {base g b off n cap i:Nat} {vs:List Value} {w:World} {t:List UInt8} (h:FsAt w base g b off n cap i vs) (hT:BysAt w b off t) (hn:n=t.length) (hl:n≤100000) (hc:n≤cap) (hcm:cap≤maxLen) (hi:i<n):
  Calls Tryz.prog 89 #[.pointer (some ⟨g,0,none⟩),.func (Fn.func 55) #[] #[]] w fun e w'=>e=.returned (.string (strL ((t.drop i).takeWhile isLet)))∧Below w.heap.size w w':=by
 have HT:Hid (FsAt w base g b off n cap i vs∧BysAt w b off t):=⟨h,hT⟩
 have HN:Hid (n=t.length):=hn
 have hgl:=h.lt.2
 have c0:=h.cell (j:=0) rfl
 have c1:=h.cell (j:=1) rfl
 unfold maxLen at hcm
 clear h hT hn
 go_enter Tryz.func89,Tryz.ntmps89
 go_wp2_with fail
 go_loopw[5] (fun jv wr=>∃(j:Nat),jv=.int .i64 (j:Int)∧i≤j∧j≤n∧(∀k y,i≤k→k<j→t[k]?=some y→isLet y=true)∧wr=w) (fun jv _=>n-(intOf jv).toNat)
 case atStart=>exact⟨i,rfl,Nat.le_refl _,by omega,fun k y h1 h2=>by omega,rfl⟩
 case round=>
  obtain⟨j,rfl,hij,hjn,hA0,hwx⟩:=hrel
  rw[hwx]
  clear hwx
  have HA0:Hid (∀k y,i≤k→k<j→t[k]?=some y→isLet y=true):=hA0
  clear hA0
  have fin:(∀z,t[j]?=some z→isLet z=false)→Hid ((t.drop i).takeWhile isLet=(t.drop i).take (j-i)):=fun hz=>tw_at hij (by have:=HN.out;omega) HA0.out hz
  by_cases hj:j<n
  ·have zj:(j:Int)<(n:Int):=by omega
   obtain⟨y,hy⟩:∃y,t[j]?=some y:=⟨_,List.getElem?_eq_getElem (by have:=HN.out;omega)⟩
   have cy:w.cell? ⟨b,off+j,none⟩=some (.int .u8 (y.toNat:Int)):=HT.2 j y hy
   cases hp:isLet y
   case true=>
    have HY:Hid (∀k z,i≤k→k<j+1→t[k]?=some z→isLet z=true):=fun k z h1 h2 h3=>by
     by_cases q:k<j
     ·exact HA0.out k z h1 q h3
     ·obtain rfl:k=j:=by omega
      rw[hy]at h3
      cases h3
      exact hp
    have HC:Hid (Calls Tryz.prog 55 #[.int .u8 (y.toNat:Int)] w fun e w'=>e=.returned (.bool true)∧w'=w):=by rw[←hp];exact isLetter_core y w
    exact zzQ50
   case false=>
    have HW0:=fin (fun z hz=>by rw[hy]at hz;cases hz;exact hp)
    have HC:Hid (Calls Tryz.prog 55 #[.int .u8 (y.toNat:Int)] w fun e w'=>e=.returned (.bool false)∧w'=w):=by rw[←hp];exact isLetter_core y w
    clear hy hp fin
    obtain⟨wd,hwd⟩:=qE ((t.drop i).take (j-i))
    have HW:Hid ((t.drop i).take (j-i)=wd):=hwd.symm
    have HWF:Hid ((t.drop i).takeWhile isLet=wd):=HW0.trans hwd.symm
    clear hwd HW0
    go_wp2_with fail
    refine HC.mono ?_
    rintro e w1 ⟨rfl,hw1⟩
    rw[hw1]
    clear hw1
    go_upto_region 4 with fail
    have hci:¬cap=i:=by omega
    have zij:(i:Int)≤(j:Int):=by omega
    have zjc:(j:Int)≤(cap:Int):=by omega
    have hS0:(fun w':World=>w'.cell? ⟨g,0,none⟩=some (.slice (some ⟨b,off,none⟩) n cap)∧w'.cell? ⟨g,1,none⟩=some (.int .i64 (i:Int))∧BysAt w' b off t) w.drew:=⟨c0,c1,HT.2⟩
    refine wp_region_T 99 (fun w':World=>w'.cell? ⟨g,0,none⟩=some (.slice (some ⟨b,off,none⟩) n cap)∧w'.cell? ⟨g,1,none⟩=some (.int .i64 (i:Int))∧BysAt w' b off t) (by kernel_rfl) ?_
    refine qT 0 ?vrletx0 rfl ?yrletx0 hS0 ?_
    case yrletx0=>exact zzR2
    try simp only[qA,List.getElem_toArray,List.getElem_cons_zero,List.getElem_cons_succ]
    refine qT 1 ?vrletx1 rfl ?yrletx1 hS0 ?_
    case yrletx1=>exact zzR2
    try simp only[qA,List.getElem_toArray,List.getElem_cons_zero,List.getElem_cons_succ]
    refine qT 2 ?vrletx2 rfl ?yrletx2 hS0 ?_
    case yrletx2=>exact zzR2
    try simp only[qA,List.getElem_toArray,List.getElem_cons_zero,List.getElem_cons_succ]
    refine qT 3 ?vrletx3 rfl ?yrletx3 hS0 ?_
    case yrletx3=>exact zzR2
    try simp only[qA,List.getElem_toArray,List.getElem_cons_zero,List.getElem_cons_succ]
    refine qT 4 ?vrletx4 rfl ?yrletx4 hS0 ?_
    case yrletx4=>exact zzR2
    try simp only[qA,List.getElem_toArray,List.getElem_cons_zero,List.getElem_cons_succ]
    refine qT 5 ?vrletx5 rfl ?yrletx5 hS0 ?_
    case yrletx5=>exact zzR2
    try simp only[qA,List.getElem_toArray,List.getElem_cons_zero,List.getElem_cons_succ]
    refine qT 6 ?vrletx6 rfl ?yrletx6 hS0 ?_
    case yrletx6=>exact zzR2
    try simp only[qA,List.getElem_toArray,List.getElem_cons_zero,List.getElem_cons_succ]
    refine qT 7 ?vrletx7 rfl ?yrletx7 hS0 ?_
    case yrletx7=>exact zzR2
    try simp only[qA,List.getElem_toArray,List.getElem_cons_zero,List.getElem_cons_succ]
    refine qT 8 ?vrletx8 rfl ?yrletx8 hS0 ?_
    case yrletx8=>exact zzR2
    try simp only[qA,List.getElem_toArray,List.getElem_cons_zero,List.getElem_cons_succ]
    refine qT 9 (.slice (some ⟨b,off+i,none⟩) (j-i) (cap-i)) rfl ?yrletx9 hS0 ?_
    case yrletx9=>exact zzR2
    try simp only[qA,List.getElem_toArray,List.getElem_cons_zero,List.getElem_cons_succ]
    refine qT 10 (.string (strL wd)) rfl ?yrletx10 hS0 ?_
    case yrletx10=>exact zzR8
    try simp only[qA,List.getElem_toArray,List.getElem_cons_zero,List.getElem_cons_succ]
    refine qT 11 ?vrletx11 rfl ?yrletx11 hS0 ?_
    case yrletx11=>exact zzR2
    exact zzQ28
  ·have zj:¬(j:Int)<(n:Int):=by omega
   have HW0:=fin (fun z hz=>by rw[List.getElem?_eq_none (by have:=HN.out;omega)]at hz;cases hz)
   clear fin
   obtain⟨wd,hwd⟩:=qE ((t.drop i).take (j-i))
   have HW:Hid ((t.drop i).take (j-i)=wd):=hwd.symm
   have HWF:Hid ((t.drop i).takeWhile isLet=wd):=HW0.trans hwd.symm
   clear hwd HW0
   go_upto_region 4 with fail
   have hci:¬cap=i:=by omega
   have zij:(i:Int)≤(j:Int):=by omega
   have zjc:(j:Int)≤(cap:Int):=by omega
   have hS0:(fun w':World=>w'.cell? ⟨g,0,none⟩=some (.slice (some ⟨b,off,none⟩) n cap)∧w'.cell? ⟨g,1,none⟩=some (.int .i64 (i:Int))∧BysAt w' b off t) w.drew:=⟨c0,c1,HT.2⟩
   refine wp_region_T 99 (fun w':World=>w'.cell? ⟨g,0,none⟩=some (.slice (some ⟨b,off,none⟩) n cap)∧w'.cell? ⟨g,1,none⟩=some (.int .i64 (i:Int))∧BysAt w' b off t) (by kernel_rfl) ?_
   refine qT 0 ?vzletx0 rfl ?yzletx0 hS0 ?_
   case yzletx0=>exact zzR2
   try simp only[qA,List.getElem_toArray,List.getElem_cons_zero,List.getElem_cons_succ]
   refine qT 1 ?vzletx1 rfl ?yzletx1 hS0 ?_
   case yzletx1=>exact zzR2
   try simp only[qA,List.getElem_toArray,List.getElem_cons_zero,List.getElem_cons_succ]
   refine qT 2 ?vzletx2 rfl ?yzletx2 hS0 ?_
   case yzletx2=>exact zzR2
   try simp only[qA,List.getElem_toArray,List.getElem_cons_zero,List.getElem_cons_succ]
   refine qT 3 ?vzletx3 rfl ?yzletx3 hS0 ?_
   case yzletx3=>exact zzR2
   try simp only[qA,List.getElem_toArray,List.getElem_cons_zero,List.getElem_cons_succ]
   refine qT 4 ?vzletx4 rfl ?yzletx4 hS0 ?_
   case yzletx4=>exact zzR2
   try simp only[qA,List.getElem_toArray,List.getElem_cons_zero,List.getElem_cons_succ]
   refine qT 5 ?vzletx5 rfl ?yzletx5 hS0 ?_
   case yzletx5=>exact zzR2
   try simp only[qA,List.getElem_toArray,List.getElem_cons_zero,List.getElem_cons_succ]
   refine qT 6 ?vzletx6 rfl ?yzletx6 hS0 ?_
   case yzletx6=>exact zzR2
   try simp only[qA,List.getElem_toArray,List.getElem_cons_zero,List.getElem_cons_succ]
   refine qT 7 ?vzletx7 rfl ?yzletx7 hS0 ?_
   case yzletx7=>exact zzR2
   try simp only[qA,List.getElem_toArray,List.getElem_cons_zero,List.getElem_cons_succ]
   refine qT 8 ?vzletx8 rfl ?yzletx8 hS0 ?_
   case yzletx8=>exact zzR2
   try simp only[qA,List.getElem_toArray,List.getElem_cons_zero,List.getElem_cons_succ]
   refine qT 9 (.slice (some ⟨b,off+i,none⟩) (j-i) (cap-i)) rfl ?yzletx9 hS0 ?_
   case yzletx9=>exact zzR2
   try simp only[qA,List.getElem_toArray,List.getElem_cons_zero,List.getElem_cons_succ]
   refine qT 10 (.string (strL wd)) rfl ?yzletx10 hS0 ?_
   case yzletx10=>exact zzR8
   try simp only[qA,List.getElem_toArray,List.getElem_cons_zero,List.getElem_cons_succ]
   refine qT 11 ?vzletx11 rfl ?yzletx11 hS0 ?_
   case yzletx11=>exact zzR2
   exact zzQ28
set_option maxHeartbeats 8000000 in
theorem run_dig {base g b off n cap i:Nat} {vs:List Value} {w:World} {t:List UInt8} (h:FsAt w base g b off n cap i vs) (hT:BysAt w b off t) (hn:n=t.length) (hl:n≤100000) (hc:n≤cap) (hcm:cap≤maxLen) (hi:i<n):
  Calls Tryz.prog 89 #[.pointer (some ⟨g,0,none⟩),.func (Fn.func 57) #[] #[]] w fun e w'=>e=.returned (.string (strL ((t.drop i).takeWhile isDig)))∧Below w.heap.size w w':=by
 have HT:Hid (FsAt w base g b off n cap i vs∧BysAt w b off t):=⟨h,hT⟩
 have HN:Hid (n=t.length):=hn
 have hgl:=h.lt.2
 have c0:=h.cell (j:=0) rfl
 have c1:=h.cell (j:=1) rfl
 unfold maxLen at hcm
 clear h hT hn
 go_enter Tryz.func89,Tryz.ntmps89
 go_wp2_with fail
 go_loopw[5] (fun jv wr=>∃(j:Nat),jv=.int .i64 (j:Int)∧i≤j∧j≤n∧(∀k y,i≤k→k<j→t[k]?=some y→isDig y=true)∧wr=w) (fun jv _=>n-(intOf jv).toNat)
 case atStart=>exact⟨i,rfl,Nat.le_refl _,by omega,fun k y h1 h2=>by omega,rfl⟩
 case round=>
  obtain⟨j,rfl,hij,hjn,hA0,hwx⟩:=hrel
  rw[hwx]
  clear hwx
  have HA0:Hid (∀k y,i≤k→k<j→t[k]?=some y→isDig y=true):=hA0
  clear hA0
  have fin:(∀z,t[j]?=some z→isDig z=false)→Hid ((t.drop i).takeWhile isDig=(t.drop i).take (j-i)):=fun hz=>tw_at hij (by have:=HN.out;omega) HA0.out hz
  by_cases hj:j<n
  ·have zj:(j:Int)<(n:Int):=by omega
   obtain⟨y,hy⟩:∃y,t[j]?=some y:=⟨_,List.getElem?_eq_getElem (by have:=HN.out;omega)⟩
   have cy:w.cell? ⟨b,off+j,none⟩=some (.int .u8 (y.toNat:Int)):=HT.2 j y hy
   cases hp:isDig y
   case true=>
    have HY:Hid (∀k z,i≤k→k<j+1→t[k]?=some z→isDig z=true):=fun k z h1 h2 h3=>by
     by_cases q:k<j
     ·exact HA0.out k z h1 q h3
     ·obtain rfl:k=j:=by omega
      rw[hy]at h3
      cases h3
      exact hp
    have HC:Hid (Calls Tryz.prog 57 #[.int .u8 (y.toNat:Int)] w fun e w'=>e=.returned (.bool true)∧w'=w):=by rw[←hp];exact isDigit_core y w
    exact zzQ50
   case false=>
    have HW0:=fin (fun z hz=>by rw[hy]at hz;cases hz;exact hp)
    have HC:Hid (Calls Tryz.prog 57 #[.int .u8 (y.toNat:Int)] w fun e w'=>e=.returned (.bool false)∧w'=w):=by rw[←hp];exact isDigit_core y w
    clear hy hp fin
    obtain⟨wd,hwd⟩:=qE ((t.drop i).take (j-i))
    have HW:Hid ((t.drop i).take (j-i)=wd):=hwd.symm
    have HWF:Hid ((t.drop i).takeWhile isDig=wd):=HW0.trans hwd.symm
    clear hwd HW0
    go_wp2_with fail
    refine HC.mono ?_
    rintro e w1 ⟨rfl,hw1⟩
    rw[hw1]
    clear hw1
    go_upto_region 4 with fail
    have hci:¬cap=i:=by omega
    have zij:(i:Int)≤(j:Int):=by omega
    have zjc:(j:Int)≤(cap:Int):=by omega
    have hS0:(fun w':World=>w'.cell? ⟨g,0,none⟩=some (.slice (some ⟨b,off,none⟩) n cap)∧w'.cell? ⟨g,1,none⟩=some (.int .i64 (i:Int))∧BysAt w' b off t) w.drew:=⟨c0,c1,HT.2⟩
    refine wp_region_T 99 (fun w':World=>w'.cell? ⟨g,0,none⟩=some (.slice (some ⟨b,off,none⟩) n cap)∧w'.cell? ⟨g,1,none⟩=some (.int .i64 (i:Int))∧BysAt w' b off t) (by kernel_rfl) ?_
    refine qT 0 ?vrdigx0 rfl ?yrdigx0 hS0 ?_
    case yrdigx0=>exact zzR2
    try simp only[qA,List.getElem_toArray,List.getElem_cons_zero,List.getElem_cons_succ]
    refine qT 1 ?vrdigx1 rfl ?yrdigx1 hS0 ?_
    case yrdigx1=>exact zzR2
    try simp only[qA,List.getElem_toArray,List.getElem_cons_zero,List.getElem_cons_succ]
    refine qT 2 ?vrdigx2 rfl ?yrdigx2 hS0 ?_
    case yrdigx2=>exact zzR2
    try simp only[qA,List.getElem_toArray,List.getElem_cons_zero,List.getElem_cons_succ]
    refine qT 3 ?vrdigx3 rfl ?yrdigx3 hS0 ?_
    case yrdigx3=>exact zzR2
    try simp only[qA,List.getElem_toArray,List.getElem_cons_zero,List.getElem_cons_succ]
    refine qT 4 ?vrdigx4 rfl ?yrdigx4 hS0 ?_
    case yrdigx4=>exact zzR2
    try simp only[qA,List.getElem_toArray,List.getElem_cons_zero,List.getElem_cons_succ]
    refine qT 5 ?vrdigx5 rfl ?yrdigx5 hS0 ?_
    case yrdigx5=>exact zzR2
    try simp only[qA,List.getElem_toArray,List.getElem_cons_zero,List.getElem_cons_succ]
    refine qT 6 ?vrdigx6 rfl ?yrdigx6 hS0 ?_
    case yrdigx6=>exact zzR2
    try simp only[qA,List.getElem_toArray,List.getElem_cons_zero,List.getElem_cons_succ]
    refine qT 7 ?vrdigx7 rfl ?yrdigx7 hS0 ?_
    case yrdigx7=>exact zzR2
    try simp only[qA,List.getElem_toArray,List.getElem_cons_zero,List.getElem_cons_succ]
    refine qT 8 ?vrdigx8 rfl ?yrdigx8 hS0 ?_
    case yrdigx8=>exact zzR2
    try simp only[qA,List.getElem_toArray,List.getElem_cons_zero,List.getElem_cons_succ]
    refine qT 9 (.slice (some ⟨b,off+i,none⟩) (j-i) (cap-i)) rfl ?yrdigx9 hS0 ?_
    case yrdigx9=>exact zzR2
    try simp only[qA,List.getElem_toArray,List.getElem_cons_zero,List.getElem_cons_succ]
    refine qT 10 (.string (strL wd)) rfl ?yrdigx10 hS0 ?_
    case yrdigx10=>exact zzR8
    try simp only[qA,List.getElem_toArray,List.getElem_cons_zero,List.getElem_cons_succ]
    refine qT 11 ?vrdigx11 rfl ?yrdigx11 hS0 ?_
    case yrdigx11=>exact zzR2
    exact zzQ28
  ·have zj:¬(j:Int)<(n:Int):=by omega
   have HW0:=fin (fun z hz=>by rw[List.getElem?_eq_none (by have:=HN.out;omega)]at hz;cases hz)
   clear fin
   obtain⟨wd,hwd⟩:=qE ((t.drop i).take (j-i))
   have HW:Hid ((t.drop i).take (j-i)=wd):=hwd.symm
   have HWF:Hid ((t.drop i).takeWhile isDig=wd):=HW0.trans hwd.symm
   clear hwd HW0
   go_upto_region 4 with fail
   have hci:¬cap=i:=by omega
   have zij:(i:Int)≤(j:Int):=by omega
   have zjc:(j:Int)≤(cap:Int):=by omega
   have hS0:(fun w':World=>w'.cell? ⟨g,0,none⟩=some (.slice (some ⟨b,off,none⟩) n cap)∧w'.cell? ⟨g,1,none⟩=some (.int .i64 (i:Int))∧BysAt w' b off t) w.drew:=⟨c0,c1,HT.2⟩
   refine wp_region_T 99 (fun w':World=>w'.cell? ⟨g,0,none⟩=some (.slice (some ⟨b,off,none⟩) n cap)∧w'.cell? ⟨g,1,none⟩=some (.int .i64 (i:Int))∧BysAt w' b off t) (by kernel_rfl) ?_
   refine qT 0 ?vzdigx0 rfl ?yzdigx0 hS0 ?_
   case yzdigx0=>exact zzR2
   try simp only[qA,List.getElem_toArray,List.getElem_cons_zero,List.getElem_cons_succ]
   refine qT 1 ?vzdigx1 rfl ?yzdigx1 hS0 ?_
   case yzdigx1=>exact zzR2
   try simp only[qA,List.getElem_toArray,List.getElem_cons_zero,List.getElem_cons_succ]
   refine qT 2 ?vzdigx2 rfl ?yzdigx2 hS0 ?_
   case yzdigx2=>exact zzR2
   try simp only[qA,List.getElem_toArray,List.getElem_cons_zero,List.getElem_cons_succ]
   refine qT 3 ?vzdigx3 rfl ?yzdigx3 hS0 ?_
   case yzdigx3=>exact zzR2
   try simp only[qA,List.getElem_toArray,List.getElem_cons_zero,List.getElem_cons_succ]
   refine qT 4 ?vzdigx4 rfl ?yzdigx4 hS0 ?_
   case yzdigx4=>exact zzR2
   try simp only[qA,List.getElem_toArray,List.getElem_cons_zero,List.getElem_cons_succ]
   refine qT 5 ?vzdigx5 rfl ?yzdigx5 hS0 ?_
   case yzdigx5=>exact zzR2
   try simp only[qA,List.getElem_toArray,List.getElem_cons_zero,List.getElem_cons_succ]
   refine qT 6 ?vzdigx6 rfl ?yzdigx6 hS0 ?_
   case yzdigx6=>exact zzR2
   try simp only[qA,List.getElem_toArray,List.getElem_cons_zero,List.getElem_cons_succ]
   refine qT 7 ?vzdigx7 rfl ?yzdigx7 hS0 ?_
   case yzdigx7=>exact zzR2
   try simp only[qA,List.getElem_toArray,List.getElem_cons_zero,List.getElem_cons_succ]
   refine qT 8 ?vzdigx8 rfl ?yzdigx8 hS0 ?_
   case yzdigx8=>exact zzR2
   try simp only[qA,List.getElem_toArray,List.getElem_cons_zero,List.getElem_cons_succ]
   refine qT 9 (.slice (some ⟨b,off+i,none⟩) (j-i) (cap-i)) rfl ?yzdigx9 hS0 ?_
   case yzdigx9=>exact zzR2
   try simp only[qA,List.getElem_toArray,List.getElem_cons_zero,List.getElem_cons_succ]
   refine qT 10 (.string (strL wd)) rfl ?yzdigx10 hS0 ?_
   case yzdigx10=>exact zzR8
   try simp only[qA,List.getElem_toArray,List.getElem_cons_zero,List.getElem_cons_succ]
   refine qT 11 ?vzdigx11 rfl ?yzdigx11 hS0 ?_
   case yzdigx11=>exact zzR2
   exact zzQ28
def nodeW (k:Nat):ByteArray:=if k=14 then⟨#[62]⟩else if k=15 then⟨#[124]⟩else if k=16 then⟨#[105,102]⟩else wordA k
def WdsAt (w:World):Prop:=∀k:Nat,k≤16→w.cell? ⟨0,k,none⟩=some (.string (nodeW k))
theorem WdsAt.chg {S:Nat→Prop} {w w':World} (h:WdsAt w) (hc:Chg S w w') (hn:¬S 0):WdsAt w':=fun k hk=>by
 have h1:=h k hk
 have hlt:0<w.heap.size:=by
  unfold World.cell? at h1
  by_cases q:0<w.heap.size
  ·exact q
  ·rw[Array.getElem?_eq_none (by show w.heap.size≤0;omega)]at h1;simp at h1
 rw[hc.cell (p:=⟨0,k,none⟩) hlt hn]
 exact h1
def nodeA:Array Value:=#[.string ⟨#[]⟩,.string ⟨#[112,97,115,115]⟩,.string ⟨#[98,108,111,99,107]⟩,.string ⟨#[115,116,114,105,112]⟩,.string ⟨#[114,111,119]⟩,.string ⟨#[102,97,109]⟩,.string ⟨#[113,117,97,108]⟩,.string ⟨#[118,97,108]⟩,.string ⟨#[114,111,119,115]⟩,.string ⟨#[113,117,97,108,115]⟩,.string ⟨#[116,115]⟩,.string ⟨#[118,101,114,115,105,111,110,115]⟩,.string ⟨#[99,101,108,108,115]⟩,.string ⟨#[115,107,105,112]⟩,.string ⟨#[62]⟩,.string ⟨#[124]⟩,.string ⟨#[105,102]⟩]
theorem nodeA_get:∀k:Nat,k<17→nodeA[k]?=some (.string (nodeW k)):=by
 exact zzQ52
theorem nodeA_run (w:World):∀k:Nat,k<17→(Instr.index 119 (.agg nodeA) (.int .i64 (k:Int))).run Tryz.prog w=.ok (.string (nodeW k)) w:=by
 exact zzQ52
theorem nodeW_kw {l:List UInt8} (hne:l≠ []) (hl:∀x∈l,isLet x=true) {k:Nat} (hk:k≤16) (h:bl (nodeW k)=l):kwF l=some (k:Int):=by
 refine kwF_word ?_
 by_cases h0:k=0
 ·subst h0;exact absurd h.symm hne
 by_cases h14:k=14
 ·subst h14
  rw[←h]at hl
  have:=hl 62 (by decide)
  exact absurd this (by decide)
 by_cases h15:k=15
 ·subst h15
  rw[←h]at hl
  have:=hl 124 (by decide)
  exact absurd this (by decide)
 by_cases h16:k=16
 ·subst h16
  exact .inr ⟨rfl,h.symm⟩
 refine .inl ⟨by omega,by omega,?_⟩
 unfold nodeW at h
 rw[if_neg h14,if_neg h15,if_neg h16]at h
 exact h
theorem nodeW_none {l:List UInt8} (h:∀k:Nat,k≤16→¬bl (nodeW k)=l):kwF l=none:=by
 cases hq:kwF l with
 |none=>rfl
 |some k=>
  exfalso
  rcases kwF_some hq with⟨h1,h2,h3⟩|⟨rfl,rfl⟩
  ·refine h k.toNat (by omega) ?_
   unfold nodeW
   rw[if_neg (by omega),if_neg (by omega),if_neg (by omega),show((k.toNat:Nat):Int)=k by omega]
   exact h3
  ·exact h 16 (by omega) rfl
def WrdP (base g b off n cap i:Nat) (vs:List Value) (wd:List UInt8) (w:World) (e:Ending) (w':World):Prop:=Hid (Chg (fun k=>k=g) w w')∧((∃k:Int,kwF wd=some k∧e=.returned (.int .i64 k)∧FsAt w' base g b off n cap (i+wd.length) vs)∨(kwF wd=none∧e=Pf 2 i))
set_option maxHeartbeats 8000000 in
theorem word_core {base g b off n cap i:Nat} {vs:List Value} {w:World} {t:List UInt8} (h:FsAt w base g b off n cap i vs) (hT:BysAt w b off t) (hn:n=t.length) (hl:n≤100000) (hc:n≤cap) (hcm:cap≤maxLen) (hi:i<n) (hx:∀x,t[i]?=some x→isLet x=true) (hW:WdsAt w):
  Calls Tryz.prog 56 #[.pointer (some ⟨g,0,none⟩)] w (WrdP base g b off n cap i vs ((t.drop i).takeWhile isLet) w):=by
 obtain⟨wd,hwd⟩:=qE ((t.drop i).takeWhile isLet)
 have hne:wd≠ []:=by
  obtain⟨x,hxx⟩:∃x,t[i]?=some x:=⟨_,List.getElem?_eq_getElem (by omega)⟩
  rw[hwd,dropT_cons hxx,List.takeWhile_cons,if_pos (hx x hxx)];simp
 have hlt:∀x∈wd,isLet x=true:=fun x hm=>by
  rw[hwd]at hm
  exact List.all_eq_true.1 (List.all_takeWhile (p:=isLet) (l:=t.drop i)) x hm
 have hwl:wd.length≤n:=by
  rw[hwd,hn]
  exact Nat.le_trans (takeWhile_len _ _) (by rw[List.length_drop];omega)
 have HR:Hid (Calls Tryz.prog 89 #[.pointer (some ⟨g,0,none⟩),.func (Fn.func 55) #[] #[]] w fun e w'=>e=.returned (.string (strL wd))∧Below w.heap.size w w'):=by
  rw[hwd];exact run_let h hT hn hl hc hcm hi
 rw[←hwd]
 have H0:Hid (FsAt w base g b off n cap i vs∧WdsAt w∧wd≠ []∧(∀x∈wd,isLet x=true)):=⟨h,hW,hne,hlt⟩
 obtain⟨sw,hsw⟩:=qE (strL wd)
 have HSW:Hid (bl sw=wd∧sw.size=wd.length):=⟨by rw[hsw],by rw[hsw];show wd.toArray.size=_;simp⟩
 rw[←hsw]at HR
 have hsl:sw.size≤n:=by rw[HSW.2];exact hwl
 clear hsw hwl
 clear h hT hn hx hW hne hlt hwd hc hcm
 go_enter Tryz.func56,Tryz.ntmps56
 go_wp2_with fail
 refine HR.mono ?_
 rintro e w1 ⟨rfl,hb1⟩
 have H1:Hid (FsAt w1 base g b off n cap i vs∧Chg (fun k=>k=g) w w1):=⟨BoxAt.below H0.1 hb1,Chg.of_below hb1⟩
 have hW1:WdsAt w1:=H0.2.1.chg (S:=fun _=>False) (Chg.of_below hb1) (fun q=>q)
 have d0:w1.cell? ⟨0,0,none⟩=some (.string ⟨#[]⟩):=hW1 0 (by omega)
 have d1:w1.cell? ⟨0,1,none⟩=some (.string ⟨#[112,97,115,115]⟩):=hW1 1 (by omega)
 have d2:w1.cell? ⟨0,2,none⟩=some (.string ⟨#[98,108,111,99,107]⟩):=hW1 2 (by omega)
 have d3:w1.cell? ⟨0,3,none⟩=some (.string ⟨#[115,116,114,105,112]⟩):=hW1 3 (by omega)
 have d4:w1.cell? ⟨0,4,none⟩=some (.string ⟨#[114,111,119]⟩):=hW1 4 (by omega)
 have d5:w1.cell? ⟨0,5,none⟩=some (.string ⟨#[102,97,109]⟩):=hW1 5 (by omega)
 have d6:w1.cell? ⟨0,6,none⟩=some (.string ⟨#[113,117,97,108]⟩):=hW1 6 (by omega)
 have d7:w1.cell? ⟨0,7,none⟩=some (.string ⟨#[118,97,108]⟩):=hW1 7 (by omega)
 have d8:w1.cell? ⟨0,8,none⟩=some (.string ⟨#[114,111,119,115]⟩):=hW1 8 (by omega)
 have d9:w1.cell? ⟨0,9,none⟩=some (.string ⟨#[113,117,97,108,115]⟩):=hW1 9 (by omega)
 have d10:w1.cell? ⟨0,10,none⟩=some (.string ⟨#[116,115]⟩):=hW1 10 (by omega)
 have d11:w1.cell? ⟨0,11,none⟩=some (.string ⟨#[118,101,114,115,105,111,110,115]⟩):=hW1 11 (by omega)
 have d12:w1.cell? ⟨0,12,none⟩=some (.string ⟨#[99,101,108,108,115]⟩):=hW1 12 (by omega)
 have d13:w1.cell? ⟨0,13,none⟩=some (.string ⟨#[115,107,105,112]⟩):=hW1 13 (by omega)
 have d14:w1.cell? ⟨0,14,none⟩=some (.string ⟨#[62]⟩):=hW1 14 (by omega)
 have d15:w1.cell? ⟨0,15,none⟩=some (.string ⟨#[124]⟩):=hW1 15 (by omega)
 have d16:w1.cell? ⟨0,16,none⟩=some (.string ⟨#[105,102]⟩):=hW1 16 (by omega)
 have c1:=H1.1.cell (j:=1) rfl
 have f1:=H1.1.frozen 1
 clear hb1 hW1 HR
 go_upto_block 0 with fail
 have harr:Value.agg #[.string ⟨#[]⟩,.string ⟨#[112,97,115,115]⟩,.string ⟨#[98,108,111,99,107]⟩,.string ⟨#[115,116,114,105,112]⟩,.string ⟨#[114,111,119]⟩,.string ⟨#[102,97,109]⟩,.string ⟨#[113,117,97,108]⟩,.string ⟨#[118,97,108]⟩,.string ⟨#[114,111,119,115]⟩,.string ⟨#[113,117,97,108,115]⟩,.string ⟨#[116,115]⟩,.string ⟨#[118,101,114,115,105,111,110,115]⟩,.string ⟨#[99,101,108,108,115]⟩,.string ⟨#[115,107,105,112]⟩,.string ⟨#[62]⟩,.string ⟨#[124]⟩,.string ⟨#[105,102]⟩]=.agg nodeA:=rfl
 rw[harr]
 clear d0 d1 d2 d3 d4 d5 d6 d7 d8 d9 d10 d11 d12 d13 d14 d15 d16 harr
 obtain⟨A,hA⟩:=qE nodeA
 have HA:Hid (∀k:Nat,k<17→(Instr.index 119 (.agg A) (.int .i64 (k:Int))).run Tryz.prog w1=.ok (.string (nodeW k)) w1):=by rw[hA];exact nodeA_run w1
 rw[←hA]
 clear hA
 go_wp2_with fail
 go_loopw[4,5,9] (fun _ _ kv wr=>∃(k:Nat),kv=.int .i64 (k:Int)∧k≤17∧(∀j:Nat,j<k→¬bl (nodeW j)=wd)∧wr=w1) (fun _ _ kv _=>17-(intOf kv).toNat)
 case atStart=>exact⟨0,rfl,by omega,fun j hj=>by omega,rfl⟩
 case round=>
  obtain⟨k,rfl,hk,hJ,hwx⟩:=hrel
  rw[hwx]
  clear hwx
  have HJ:Hid (∀j:Nat,j<k→¬bl (nodeW j)=wd):=hJ
  clear hJ
  by_cases hk17:k<17
  ·have zk:(k:Int)<17:=by omega
   have hg:=HA.out k hk17
   by_cases he:bl (nodeW k)=wd
   ·have zt:(sw.toList==(nodeW k).toList)=true:=by rw[ByteArray.toList_eq,ByteArray.toList_eq];exact beq_iff_eq.2 (HSW.1.trans he.symm)
    have HE:Hid (kwF wd=some (k:Int)):=nodeW_kw H0.2.2.1 H0.2.2.2 (by omega) he
    clear he
    have zw:IntKind.i64.wrap ((i:Int)+(sw.size:Int))=(i:Int)+(sw.size:Int):=wrap64 (by omega) (by omega)
    have HF:Hid (FsAt (w1.setCell ⟨g,1,none⟩ (.int .i64 ((i:Int)+(sw.size:Int)))) base g b off n cap (i+wd.length) vs∧Chg (fun k=>k=g) w (w1.setCell ⟨g,1,none⟩ (.int .i64 ((i:Int)+(sw.size:Int))))):=⟨by have h9:=H1.1.move (i+wd.length) (.int .i64 ((i:Int)+(sw.size:Int))) (by rw[HSW.2];congr 1);exact h9,H1.2.trans (Chg.of_set _ _ _ _ rfl)⟩
    go_wp2_with fail
    go_ret
    exact⟨HF.2,.inl ⟨(k:Int),HE.out,rfl,HF.1⟩⟩
   ·have zt:(sw.toList==(nodeW k).toList)=false:=by rw[ByteArray.toList_eq,ByteArray.toList_eq];exact beq_eq_false_iff_ne.2 (fun q=>he (q.symm.trans HSW.1))
    go_wp2_with fail
    go_roundw
    case rel=>exact⟨k+1,by go_num,by omega,fun j hj=>by
     by_cases q:j<k
     ·exact HJ.out j q
     ·rw[show j=k by omega];exact he,by first|rfl|trivial⟩
    case measure=>simp[intOf];omega
  ·have zk:¬(k:Int)<17:=by omega
   have HE:Hid (kwF wd=none):=nodeW_none (fun j hj=>HJ.out j (by omega))
   go_wp2_with fail
   refine(sdem_no H1.1).mono ?_
   rintro e w2 ⟨rfl,hw2⟩
   rw[hw2]
   clear hw2
   exact⟨rfl,H1.2,.inr ⟨HE.out,rfl⟩⟩
end Go.Proofs.YtgnpcenpcmdlfaaGreatDoor
