import Derived.Test.YtgnpcenpcmdlfaaGreatDoorTkAD
import Derived.Test.YtgnpcenpcmdlfaaGreatDoorTkAA
import Derived.Test.YtgnpcenpcmdlfaaGreatDoorTkAB
import Derived.Test.YtgnpcenpcmdlfaaGreatDoorTkAC
namespace Go.Proofs.YtgnpcenpcmdlfaaGreatDoor
open Go.ChangeShapes Go.WideShapes Go.ChangeAt Go.RowKit Go.Deep
set_option linter.unusedVariables false
set_option linter.unusedSimpArgs false
set_option maxRecDepth 100000
set_option maxHeartbeats 32000000
def LooN (e:Nd):Prop:=e.s.size≤50000∧e.t.size≤50000∧(e.hi=false→e.t.toList= []∧e.up=0)∧
 (((e.kind=4∨e.kind=5∨e.kind=6∨e.kind=7)∧(e.hi=false∧e.t.toList= []∧e.lo=0∧e.up=0∧e.n=0)∧True)∨
  ((e.kind=8∨e.kind=9)∧(e.lo=0∧e.up=0∧e.n=0)∧(e.hi=true→less e.s e.t))∨
  (e.kind=10∧(e.s.toList= []∧e.t.toList= []∧e.n=0)∧(e.hi=true→e.lo<e.up))∨
  ((e.kind=11∨e.kind=12∨e.kind=13)∧(e.s.toList= []∧e.hi=false∧e.t.toList= []∧e.lo=0∧e.up=0)∧1≤e.n∧e.n≤100000)∨
  ((e.kind=1∨e.kind=2∨e.kind=3∨e.kind=14∨e.kind=15∨e.kind=16)∧(e.s.toList= []∧e.hi=false∧e.t.toList= []∧e.lo=0∧e.up=0∧e.n=0)))
variable {n:Int}
theorem yNl {t:List UInt8} (ht:t.length≤50000) (h0:0≤n) (h1:n<2^64):(endM t n).length≤200002:=by
 unfold endM;split
 ·split
  ·simp
  ·have:=yD (n:=n.toNat) (by omega);omega
 ·have:=yD5 t;omega
variable {e:Nd}
theorem yQm (h:LooN e) (hn:NumN e):(yBi e).length≤410000:=by
 have hs:(bl e.s).length≤50000:=by rw[yBb];exact h.1
 have ht:(bl e.t).length≤50000:=by rw[yBb];exact h.2.1
 have h1:=yCk e.kind;have h2:=yD5 (bl e.s);have h3:=yNl hs hn.lo0 hn.lo1;have h4:=yNl ht hn.up0 hn.up1;have h5:(yEd e).length≤409000:=by
  unfold yEd;split
  ·simp;omega
  ·split
   ·simp;omega
   ·split
    ·rename_i q1 q2 q3;have h9:e.n≤100000∧1≤e.n:=by obtain⟨_,_,_,h4⟩:=h;omega
     have:=yD (n:=e.n.toNat) (by omega);simp;omega
    ·simp
 unfold yBi;rw[List.length_append];omega
theorem yKz {ss:List PT} {xs:List Nd} (h:TrV yA4 ss xs) (hg:∀e∈xs,LooN e∧NumN e):yCw ss≤410000*xs.length:=by
 induction h with
 |nil=>simp[yCw]
 | @snoc ss os xs n ho h ih=>
   have h1:=ih (fun e he=>hg e (by simp[he]));rw[yCz]at h1⊢;have h2:(yA4 n os).2.length≤yCw os+410000:=by
    unfold yA4;simp only;split
    ·have:=yQm (hg n (by simp)).1 (hg n (by simp)).2;omega
    ·have h3:=yEo n.kind 0 os;have h4:os.length≤3:=by rw[ho];exact yFb _
     have h5:(if n.kind=16 then [105,102,40]else([]:List UInt8)).length≤3:=by split<;>simp
     have h6:(if n.kind=16 then [41]else([]:List UInt8)).length≤1:=by split<;>simp
     simp only[List.length_append];omega
   have h7:yCw [yA4 n os]=(yA4 n os).2.length:=by simp[yCw]
   rw[List.length_append,List.length_singleton,h7];omega
theorem yKs {xs:List Nd} {y:PT} (h:yHy xs y) (hg:∀e∈xs,LooN e∧NumN e):y.2.length≤410000*xs.length:=by have:=yKz h hg;simpa [yCw]using this
variable {j:Nat} {b:List Nd}
theorem yOh (hb:IsT j b):∀{k:Nat} {a:List Nd},IsT k a→IsT (k+j) (a++b):=by
 induction hb with
 |nil=>intro k a ha;simpa using ha
 | @snoc j xs n h ih=>
   intro k a ha;have h1:=ih ha;rw[←Nat.add_assoc]at h1;rw[←List.append_assoc];exact IsT.snoc n h1
theorem yVu (h:yAo e.kind=0):IsT 1 [e]:=IsT.snoc (k:=0) (xs:= []) e (by rw[h];exact .nil)
theorem yZl {a:List Nd} (ha:IsT 1 a) (hb:IsT 1 b) (h:yAo e.kind=2):IsT 1 (a++b++ [e]):=IsT.snoc (k:=0) e (by rw[h];exact yOh hb ha)
theorem yS3 {a c:List Nd} (ha:IsT 1 a) (hb:IsT 1 b) (hc:IsT 1 c) (h:yAo e.kind=3):IsT 1 (a++b++c++ [e]):=IsT.snoc (k:=0) e (by rw[h];exact yOh hc (yOh hb ha))
variable {k:Int} {s t:ByteArray}
theorem num0 {hi:Bool}:NumN ⟨k,s,hi,t,0,0,n⟩:=⟨by show(0:Int)≤0;omega,by show(0:Int)<2^64;omega,by show(0:Int)≤0;omega,by show(0:Int)<2^64;omega⟩
theorem nilL:(⟨#[]⟩:ByteArray).toList= []:=by rw[ByteArray.toList_eq]
abbrev PrN (e:Nd):Prop:=LooN e∧NumN e
theorem yQf (hk:k=1∨k=2∨k=3∨k=14∨k=15∨k=16):PrN (ndK k):=
 ⟨⟨Nat.zero_le _,Nat.zero_le _,fun _=>⟨nilL,rfl⟩,.inr (.inr (.inr (.inr ⟨hk,nilL,rfl,nilL,rfl,rfl,rfl⟩)))⟩,num0⟩
theorem yLi (hk:k=4∨k=5∨k=6∨k=7) (hs:s.size≤50000):PrN ⟨k,s,false,⟨#[]⟩,0,0,0⟩:=
 ⟨⟨hs,Nat.zero_le _,fun _=>⟨nilL,rfl⟩,.inl ⟨hk,⟨rfl,nilL,rfl,rfl,rfl⟩,trivial⟩⟩,num0⟩
theorem yP (hk:k=8∨k=9) (hs:s.size≤50000):PrN ⟨k,s,false,⟨#[]⟩,0,0,0⟩:=
 ⟨⟨hs,Nat.zero_le _,fun _=>⟨nilL,rfl⟩,.inr (.inl ⟨hk,⟨rfl,rfl,rfl⟩,fun q=>by cases q⟩)⟩,num0⟩
theorem yY2 (hk:k=8∨k=9) (hs:s.size≤50000) (ht:t.size≤50000) (hl:less s t):PrN ⟨k,s,true,t,0,0,0⟩:=
 ⟨⟨hs,ht,(fun q=>by cases q),.inr (.inl ⟨hk,⟨rfl,rfl,rfl⟩,fun _=>hl⟩)⟩,num0⟩
theorem yH9 (hk:k=11∨k=12∨k=13) (h1:1≤n) (h2:n≤100000):PrN ⟨k,⟨#[]⟩,false,⟨#[]⟩,0,0,n⟩:=
 ⟨⟨Nat.zero_le _,Nat.zero_le _,fun _=>⟨nilL,rfl⟩,.inr (.inr (.inr (.inl ⟨hk,⟨nilL,rfl,nilL,rfl,rfl⟩,h1,h2⟩)))⟩,num0⟩
variable {a:Int}
theorem yY1 (h0:0≤a) (h1:a≤100000):PrN ⟨10,⟨#[]⟩,false,⟨#[]⟩,a,0,0⟩:=
 ⟨⟨Nat.zero_le _,Nat.zero_le _,fun _=>⟨nilL,rfl⟩,.inr (.inr (.inl ⟨rfl,⟨nilL,nilL,rfl⟩,fun q=>by cases q⟩))⟩,⟨h0,by show a<_;omega,by show(0:Int)≤0;omega,by show(0:Int)<2^64;omega⟩⟩
theorem prn_ts {b:Int} (h0:0≤a) (h1:b≤100000) (h2:a<b):PrN ⟨10,⟨#[]⟩,true,⟨#[]⟩,a,b,0⟩:=
 ⟨⟨Nat.zero_le _,Nat.zero_le _,(fun q=>by cases q),.inr (.inr (.inl ⟨rfl,⟨nilL,nilL,rfl⟩,fun _=>h2⟩))⟩,⟨h0,by show a<_;omega,by show 0≤b;omega,by show b<_;omega⟩⟩
theorem yNw:∀(a b:List UInt8),b≠ []→Op.bytesLess a (a++b)=true
 | [],[],h=>absurd rfl h
 | [],_::_,_=>rfl
 |x::a,b,h=>by
  have ih:=yNw a b h
  simp only[List.cons_append,Op.bytesLess,ih]
  simp
theorem yVi (h:0<t.size):less s (s++t):=by
 show Op.bytesLess s.toList (s++t).toList=true;rw[ByteArray.toList_eq,ByteArray.toList_eq,ByteArray.data_append,Array.toList_append];refine yNw _ _ (fun q=>?_);have:t.data.toList.length=0:=by rw[q];rfl
 rw[Array.length_toList]at this;have h2:t.size=t.data.size:=rfl;omega
theorem ySo (xs:List Int) {b:Int} (ha:1≤a) (hab:a≤b) (s:Dst):0<(yB7 xs a b s).1.size:=by have h1:=yAm xs (m:=b-a+1) (by omega) s;unfold yB7;simp only;rw[yJ4,yJi];omega
theorem yO6 (xs:List Int) (hk:k=8∨k=9) (u:Dst):PrN (rngF xs k u).1∧(rngF xs k u).1.kind=k:=by
 have h1:=yB4 xs (a:=0) (b:=2) (by omega) (by omega) (by omega) u;unfold rngF;split
 ·have h2:=yB4 xs (a:=1) (b:=2) (by omega) (by omega) (by omega) (belF xs 2 (yB7 xs 0 2 u).2).2;have h3:=ySo xs (a:=1) (b:=2) (by omega) (by omega) (belF xs 2 (yB7 xs 0 2 u).2).2;exact⟨yY2 hk (by omega) (by rw[yBk];omega) (yVi h3),rfl⟩
 ·exact⟨yP hk (by omega),rfl⟩
theorem yX9 (xs:List Int) (u:Dst):PrN (tsF xs u).1∧(tsF xs u).1.kind=10:=by
 have h1:=yAm xs (m:=4) (by omega) u;unfold tsF;split
 ·have h2:=yAm xs (m:=4) (by omega) (belF xs 2 (belF xs 4 u).2).2;exact⟨prn_ts h1.1 (by omega) (by omega),rfl⟩
 ·exact⟨yY1 h1.1 (by omega),rfl⟩
theorem ySt (xs:List Int) (k:Int) (u:Dst):PrN (yDq xs k u).1∧yAo (yDq xs k u).1.kind=0:=by
 have hp:=yFo xs u;have h2:=yAm xs (m:=2) (by omega) u;have h3:=yAm xs (m:=3) (by omega) u;have h4:=yAm xs (m:=4) (by omega) u;have r8:=yO6 xs (k:=8) (by omega) u;have r9:=yO6 xs (k:=9) (by omega) u;have r10:=yX9 xs u;unfold yDq;by_cases h0:k=0
 ·rw[if_pos h0];exact⟨yQf (by omega),rfl⟩
 rw[if_neg h0];by_cases h1:k=1
 ·rw[if_pos h1];split
  ·exact⟨yQf (by omega),rfl⟩
  ·exact⟨yQf (by omega),rfl⟩
 rw[if_neg h1];by_cases h2:k=2
 ·rw[if_pos h2];exact⟨yLi (by omega) (by omega),by show yAo 4=0;decide⟩
 rw[if_neg h2];by_cases h3:k=3
 ·rw[if_pos h3];refine⟨yLi (by omega) ?_,by show yAo 5=0;decide⟩;have h9:=yDn xs (ws:=wsF) (by decide) (patF xs u).2;have hq:∀t∈wsF,t.size≤10:=by decide
  have:=hq _ h9;omega
 rw[if_neg h3];by_cases h4:k=4
 ·rw[if_pos h4];exact⟨yLi (by omega) (by omega),by show yAo 6=0;decide⟩
 rw[if_neg h4];by_cases h5:k=5
 ·rw[if_pos h5];exact⟨yLi (by omega) (by omega),by show yAo 7=0;decide⟩
 rw[if_neg h5];by_cases h6:k=6
 ·rw[if_pos h6];exact⟨r8.1,by rw[r8.2];decide⟩
 rw[if_neg h6];by_cases h7:k=7
 ·rw[if_pos h7];exact⟨r9.1,by rw[r9.2];decide⟩
 rw[if_neg h7];by_cases h8:k=8
 ·rw[if_pos h8];exact⟨r9.1,by rw[r9.2];decide⟩
 rw[if_neg h8];by_cases h9:k=9
 ·rw[if_pos h9];exact⟨r10.1,by rw[r10.2];decide⟩
 rw[if_neg h9];by_cases h10:k=10
 ·rw[if_pos h10];exact⟨r10.1,by rw[r10.2];decide⟩
 rw[if_neg h10];by_cases h11:k=11
 ·rw[if_pos h11];exact⟨yH9 (by omega) (by omega) (by omega),by show yAo 11=0;decide⟩
 rw[if_neg h11];by_cases h12:k=12
 ·rw[if_pos h12];exact⟨yH9 (by omega) (by omega) (by omega),by show yAo 11=0;decide⟩
 rw[if_neg h12];by_cases h13:k=13
 ·rw[if_pos h13];exact⟨yH9 (by omega) (by omega) (by omega),by show yAo 12=0;decide⟩
 rw[if_neg h13];by_cases h14:k=14
 ·rw[if_pos h14];exact⟨yH9 (by omega) (by omega) (by omega),by show yAo 13=0;decide⟩
 rw[if_neg h14];exact⟨yQf (by omega),rfl⟩
def PrT1 (L:List Nd):Prop:=IsT 1 L∧∀e∈L,PrN e
theorem PrT1.leaf (h:PrN e) (ha:yAo e.kind=0):PrT1 [e]:=⟨yVu ha,fun x hx=>by simp at hx;subst hx;exact h⟩
theorem PrT1.two {a:List Nd} (ha:PrT1 a) (hb:PrT1 b) (h:k=14∨k=15):PrT1 (a++b++ [ndK k]):=
 ⟨yZl ha.1 hb.1 (by show yAo k=2;unfold yAo;rw[if_pos h]),fun x hx=>by
  simp only[List.mem_append,List.mem_singleton]at hx
  rcases hx with(q|q)|q
  ·exact ha.2 x q
  ·exact hb.2 x q
  ·subst q;exact yQf (by omega)⟩
theorem PrT1.three {a c:List Nd} (ha:PrT1 a) (hb:PrT1 b) (hc:PrT1 c):PrT1 (a++b++c++ [ndK 16]):=
 ⟨yS3 ha.1 hb.1 hc.1 (by decide),fun x hx=>by
  simp only[List.mem_append,List.mem_singleton]at hx
  rcases hx with((q|q)|q)|q
  ·exact ha.2 x q
  ·exact hb.2 x q
  ·exact hc.2 x q
  ·subst q;exact yQf (by omega)⟩
theorem yG2 (xs:List Int) (Tr:Dst→List Nd×Dst) (z:Int) (h:z=0∨∀u,PrT1 (Tr u).1) (s:Dst):PrT1 (yDd xs Tr z s).1:=by
 have hl:=fun u=>ySt xs (belF xs 16 u).1 (belF xs 16 u).2;unfold yDd;split
 ·exact PrT1.leaf (hl _).1 (hl _).2
 rename_i hz;have ht:∀u,PrT1 (Tr u).1:=h.resolve_left (fun q=>hz (.inl q));split
 ·exact(ht _).two (ht _) (.inl rfl)
 split
 ·exact(ht _).two (ht _) (.inr rfl)
 split
 ·split
  ·exact(ht _).two (ht _) (.inr rfl)
  ·exact(ht _).three (ht _) (ht _)
 ·exact(ht _).three (ht _) (ht _)
theorem yV4 (xs:List Int) (s:Dst):PrT1 (filF xs s).1:=by
 have t0:∀u,PrT1 (yUk xs u).1:=fun u=>yG2 xs _ 0 (.inl rfl) u;have t1:∀u,PrT1 (yRk xs u).1:=fun u=>yG2 xs _ 1 (.inr t0) u;have t2:∀u,PrT1 (yRi xs u).1:=fun u=>yG2 xs _ 2 (.inr t1) u;have t3:∀u,PrT1 (yUj xs u).1:=fun u=>yG2 xs _ 3 (.inr t2) u;unfold filF;split
 ·exact t1 _
 split
 ·exact t2 _
 ·exact t3 _
theorem yEf:PrT1 [limN]:=PrT1.leaf (yH9 (by omega) (by omega) (by omega)) (by decide)
variable {l:List Nd}
theorem yHp {f:List Nd→List Nd} (hf:∀l,PrT1 l→PrT1 (f l)) (hl:PrT1 l):∀i,PrT1 (yCs f i l)
 |0=>hl
 |i+1=>hf _ (yHp hf hl i)
theorem yTd (h:PrT1 l):PrT1 (fCh l):=by have:=h.two yEf (k:=14) (.inl rfl);rw[List.append_assoc]at this;exact this
theorem yZt (h:PrT1 l):PrT1 (fIn l):=yEf.two h (.inr rfl)
theorem yZu (h:PrT1 l):PrT1 (fIf l):=by have:=h.three yEf yEf;rw[List.append_assoc,List.append_assoc]at this;exact this
theorem yVg (k y:Int) (hy:0≤y∧y<2):PrT1 (limA k y):=by
 unfold limA;split
 ·exact yHp (fun l h=>yTd h) (yEf.three yEf yEf) _
 split
 ·exact PrT1.leaf (yH9 (by omega) (by omega) (by omega)) (by show yAo 12=0;decide)
 split
 ·refine PrT1.leaf (yP (by omega) ?_) (by show yAo 9=0;decide);rw[yJ4,List.length_replicate];omega
 split
 ·exact yHp (fun l h=>yTd h) yEf _
 split
 ·exact yHp (fun l h=>yZt h) yEf _
 ·exact yHp (fun l h=>yZu h) yEf _
variable {base:Nat} {w:World}
theorem yTn {xs:List Int} {s:Dst} {cb:Nat} {bv:Value} (h:yA5 xs s base cb bv w) {m:Int} (hm:1≤m) (hm2:m≤4611686018427387904) {x:Int} {s':Dst} (he:belF xs m s=(x,s')):
  Calls Tryz.prog 43 #[.pointer (some ⟨cb,0,none⟩),.int .i64 m] w fun e w'=>e=.returned (.int .i64 x)∧yBq xs s' base cb bv w w':=by
 by_cases hs:m≤256
 ·exact yAr h hm (by omega) he
 ·have HD:Hid (yA5 xs s base cb bv w):=h;clear h;obtain⟨x1,s1,h1⟩:∃x1 s1,byF xs s=(x1,s1):=⟨_,_,rfl⟩;have hx1:=yMb xs s;rw[h1]at hx1;exact zzQ21
structure LtJ (w:World) (vs:List Value) (g cp:Nat) (X:List UInt8) (wr:World):Prop where
 out:WrB wr (w.heap.size+1) g cp X
 box:yA wr w.heap.size 65 7 w.heap.size vs
 below:Below w.heap.size w wr
variable {vs:List Value} {g cp:Nat} {X:List UInt8} {w':World}
theorem LtJ.move {wr:World} (h:LtJ w vs g cp X wr) (hb:Below wr.heap.size wr w'):LtJ w vs g cp X w':=
 ⟨h.out.below hb,h.box.below hb,h.below.trans (hb.mono h.below.size)⟩
theorem LtJ.app {g' cp':Nat} {X':List UInt8} {wr:World} (h:LtJ w vs g cp X wr) (hW:WrB w' (w.heap.size+1) g' cp' X') (hgr:wr.grownBy w' (some g)):LtJ w vs g' cp' X' w':=by have hle:=h.out.le;have hC:Chg (fun k=>k=g) wr w':=Chg.of_grown hgr (fun k hk=>by cases hk;rfl);exact⟨hW,h.box.chg hC (by omega),Chg.below h.below hC h.below.size (fun k q=>by omega)⟩
def LtP (X:List UInt8) (w:World) (r:Ending) (w':World):Prop:=∃g cp,r=.returned (.slice (some ⟨g,0,none⟩) X.length cp)∧WrB w' w.heap.size g cp X∧Below w.heap.size w w'
theorem LtJ.done {n:Nat} {Y:List UInt8} {wr:World} (h:LtJ w vs g cp X wr) (hn:n=X.length) (hY:Y=X):LtP Y w (.returned (.slice (some ⟨g,0,none⟩) n cp)) wr:=by subst hY hn;exact⟨g,cp,rfl,h.out.mono (by omega),h.below⟩
theorem yEj (hk:k=1∨k=2∨k=3∨k=4∨k=5∨k=6∨k=7∨k=8∨k=9∨k=10∨k=11∨k=12∨k=13) (w:World):
  Calls Tryz.prog 87 #[.int .i64 k] w fun e w'=>e=.returned (.string (yA8 k))∧w'=w:=by
 rcases hk with rfl|rfl|rfl|rfl|rfl|rfl|rfl|rfl|rfl|rfl|rfl|rfl|rfl<;>(go_enter Tryz.func87,Tryz.ntmps87;go_wp2_with fail;go_ret;exact⟨rfl,rfl⟩)
structure LtS (w:World) (vs:List Value) (W0 W1:World) (B:ByteArray) (cp1 N1:Nat) (X1:List UInt8):Prop where
 x:X1=bl B
 n:N1=X1.length
 le:N1≤8
 cv:Sem.run Tryz.prog (convert 9 22 (.string B)) W0=.ok (.slice (some ⟨W0.heap.size,0,none⟩) N1 cp1) W1
 j:LtJ w vs W0.heap.size cp1 X1 W1
theorem yHi (w:World) (vs:List Value) (hv:vs.length=7) (B:ByteArray) (hB:B.size≤8) (W0:World) (hW0:W0=w.alloc (Obj.cells vs.toArray 65)):
  W0.heap.size=w.heap.size+1∧yA W0 w.heap.size 65 7 w.heap.size vs∧∃W1 cp1 N1 X1,LtS w vs W0 W1 B cp1 N1 X1:=by
 have hb0:Below w.heap.size w W0:=by rw[hW0];exact qB
 have z0:W0.heap.size=w.heap.size+1:=by rw[hW0];simp
 have HB0:yA W0 w.heap.size 65 7 w.heap.size vs:=by rw[hW0];exact yAb w _ (Nat.le_refl _) (by simpa using hv)
 have hbb:=yCy W0 B;refine⟨z0,HB0,Lib.bytesWorld W0 5 B,grownCap W0 B.size 0 5,B.size,bl B,rfl,(yBb B).symm,hB,?_,?_,HB0.below hbb,hb0.trans (hbb.mono (by omega))⟩
 ·exact Lib.run_convert_string_bytes (P:=Tryz.prog) W0 9 22 5 B Tryz.underlying9 Tryz.underlying22 Tryz.underlying5
 ·exact(yG1 W0 B (by omega)).mono (base':=w.heap.size+1) (by omega)
def LtC (k:Int):Prop:=∀(s:ByteArray) (hi:Bool) (t:ByteArray) (lo up n:Int) (w:World),LooN ⟨k,s,hi,t,lo,up,n⟩→NumN ⟨k,s,hi,t,lo,up,n⟩→
    Calls Tryz.prog 83 #[.agg #[.int .i64 k,.string s,.bool hi,.string t,.int .u64 lo,.int .u64 up,.int .i64 n]] w (LtP (yBi ⟨k,s,hi,t,lo,up,n⟩) w)
variable {p:Prop}
theorem zLta (h:p:=by
 intro s hi t lo up n w hg hn;have HG:Hid (LooN ⟨k,s,hi,t,lo,up,n⟩∧NumN ⟨k,s,hi,t,lo,up,n⟩):=⟨hg,hn⟩;have g0:s.size≤50000:=hg.1;have g1:t.size≤50000:=hg.2.1;obtain⟨Y,hY⟩:=qE (yBi ⟨k,s,hi,t,lo,up,n⟩);rw[←hY];have HY0:Hid (Y=yBi ⟨k,s,hi,t,lo,up,n⟩):=hY;clear hY hg hn;have hwd:=yEj (k:=k) (by omega);obtain⟨B,hB⟩:=qE (yA8 k);have HB:Hid (B=yA8 k):=hB;rw[←hB]at hwd;obtain⟨W0,hW0⟩:=qE (w.alloc (Obj.cells #[.int .i64 k,.string s,.bool hi,.string t,.int .u64 lo,.int .u64 up,.int .i64 n] 65):World);obtain⟨vs,hvs⟩:∃vs:List Value,vs=(#[.int .i64 k,.string s,.bool hi,.string t,.int .u64 lo,.int .u64 up,.int .i64 n]).toList:=⟨_,rfl⟩;obtain⟨z0,hB0,W1,cp1,N1,X1,HS⟩:=yHi w vs (by rw[hvs];rfl) B (by have:=yCk k;rw[yBb]at this;rw[hB];exact this) W0 (by rw[hW0,hvs]);have hv0:vs[0]?=some (.int .i64 k):=by rw[hvs];rfl
 have hv1:vs[1]?=some (.string s):=by rw[hvs];rfl
 have hv2:vs[2]?=some (.bool hi):=by rw[hvs];rfl
 have hv3:vs[3]?=some (.string t):=by rw[hvs];rfl
 have hv4:vs[4]?=some (.int .u64 lo):=by rw[hvs];rfl
 have hv5:vs[5]?=some (.int .u64 up):=by rw[hvs];rfl
 have hv6:vs[6]?=some (.int .i64 n):=by rw[hvs];rfl
 clear hvs hB;have c0:=hB0.cell (j:=0) hv0;obtain⟨hx,hN,n8,hcv,hj⟩:=HS;have HJ1:Hid (LtJ w vs W0.heap.size cp1 X1 W1):=hj;have HX1:Hid (X1=bl B):=hx;have HN1:Hid (N1=X1.length):=hN;have x1':X1.length≤8:=by omega
 obtain⟨G1,hG1⟩:=qE W0.heap.size;rw[←hG1]at hcv HJ1;clear hx hN hj hB0;have q0:=HJ1.box.cell (j:=0) hv0;have zs1:=HJ1.below.size;subst hk;go_enter Tryz.func83,Tryz.ntmps83;go_upto_region 1 with fail;rw[←hW0];clear hW0;go_wp2_with fail;refine(hwd W0).mono ?_;rintro r w9 ⟨rfl,hw9⟩;rw[hw9];clear hw9 c0 hG1 z0;have HY:Hid (Y=X1):=by show _=_;rw[HY0.out,HX1.out,HB.out];simp[yBi,yEd]
 go_wp2_with fail;go_ret;exact HJ1.done HN1.out HY.out):p:=h
theorem yVs (hk:k=1):LtC k:=by exact zLta
theorem yVr (hk:k=2):LtC k:=by exact zLta
theorem yVq (hk:k=3):LtC k:=by exact zLta
theorem zLtb (h:p:=by
 intro s hi t lo up n w hg hn;have HG:Hid (LooN ⟨k,s,hi,t,lo,up,n⟩∧NumN ⟨k,s,hi,t,lo,up,n⟩):=⟨hg,hn⟩;have g0:s.size≤50000:=hg.1;have g1:t.size≤50000:=hg.2.1;obtain⟨Y,hY⟩:=qE (yBi ⟨k,s,hi,t,lo,up,n⟩);rw[←hY];have HY0:Hid (Y=yBi ⟨k,s,hi,t,lo,up,n⟩):=hY;clear hY hg hn;have hwd:=yEj (k:=k) (by omega);obtain⟨B,hB⟩:=qE (yA8 k);have HB:Hid (B=yA8 k):=hB;rw[←hB]at hwd;obtain⟨W0,hW0⟩:=qE (w.alloc (Obj.cells #[.int .i64 k,.string s,.bool hi,.string t,.int .u64 lo,.int .u64 up,.int .i64 n] 65):World);obtain⟨vs,hvs⟩:∃vs:List Value,vs=(#[.int .i64 k,.string s,.bool hi,.string t,.int .u64 lo,.int .u64 up,.int .i64 n]).toList:=⟨_,rfl⟩;obtain⟨z0,hB0,W1,cp1,N1,X1,HS⟩:=yHi w vs (by rw[hvs];rfl) B (by have:=yCk k;rw[yBb]at this;rw[hB];exact this) W0 (by rw[hW0,hvs]);have hv0:vs[0]?=some (.int .i64 k):=by rw[hvs];rfl
 have hv1:vs[1]?=some (.string s):=by rw[hvs];rfl
 have hv2:vs[2]?=some (.bool hi):=by rw[hvs];rfl
 have hv3:vs[3]?=some (.string t):=by rw[hvs];rfl
 have hv4:vs[4]?=some (.int .u64 lo):=by rw[hvs];rfl
 have hv5:vs[5]?=some (.int .u64 up):=by rw[hvs];rfl
 have hv6:vs[6]?=some (.int .i64 n):=by rw[hvs];rfl
 clear hvs hB;have c0:=hB0.cell (j:=0) hv0;obtain⟨hx,hN,n8,hcv,hj⟩:=HS;have HJ1:Hid (LtJ w vs W0.heap.size cp1 X1 W1):=hj;have HX1:Hid (X1=bl B):=hx;have HN1:Hid (N1=X1.length):=hN;have x1':X1.length≤8:=by omega
 obtain⟨G1,hG1⟩:=qE W0.heap.size;rw[←hG1]at hcv HJ1;clear hx hN hj hB0;have q0:=HJ1.box.cell (j:=0) hv0;have zs1:=HJ1.below.size;subst hk;go_enter Tryz.func83,Tryz.ntmps83;go_upto_region 1 with fail;rw[←hW0];clear hW0;go_wp2_with fail;refine(hwd W0).mono ?_;rintro r w9 ⟨rfl,hw9⟩;rw[hw9];clear hw9 c0 hG1 z0;have HY:Hid (Y=X1++ [32]++quoM (bl s)):=by show _=_;rw[HY0.out,HX1.out,HB.out];simp[yBi,yEd]
 have hql:=yD5 (bl s);rw[yBb]at hql;obtain⟨QL,hQL⟩:∃QL:List UInt8,QL=quoM (bl s):=⟨_,rfl⟩;rw[←hQL]at HY hql;have HQL:Hid (QL=quoM (bl s)):=hQL;clear hQL;have m1a:W1.cell? ⟨w.heap.size,1,none⟩=some (.string s):=HJ1.box.cell (j:=1) hv1;have hS:SW (fun w':World=>w'.cell? ⟨w.heap.size,1,none⟩=some (.string s)) W1.drew:=m1a;have HJd:Hid (LtJ w vs G1 cp1 X1 W1.drew):=HJ1.move ((Below.refl _ _).drew);have zd:W1.drew.heap.size=W1.heap.size:=by simp
 go_upto_region 7 with fail;refine wpR 7 hS ?_;refine j2a 0 hS ?_;refine j2a 3 hS ?_;refine j2b hS ?_;obtain⟨V1,hV1⟩:=qE ((W1.alloc (Obj.cells #[.int .u8 32] 5)).drew:World);have hbV:Below W1.heap.size W1 V1:=by rw[hV1];exact(qB).drew
 have HV1:Hid (LtJ w vs G1 cp1 X1 V1∧yAe V1 W1.heap.size 0 [32]∧W1.heap.size<V1.heap.size):=by refine⟨HJ1.move hbV,?_,by rw[hV1];simp⟩;rw[hV1];exact fun i y hy=>yAp W1 _ [32] rfl i y hy
 have zV:=HV1.1.out.lt;have yV:=HV1.1.out.le;have gV:V1.cell? ⟨w.heap.size,1,none⟩=some (.string s):=HV1.1.box.cell (j:=1) hv1;clear hbV;refine qO 1 rfl fun K hK=>?_;go_simp;rw[←hV1];clear hV1;refine hK.out _ _ (.inr gV) ?_;clear hK;refine jS ?_;refine qO 2 rfl fun K hK=>?_;refine yBz _ rfl _ _ rfl (w.heap.size+1) G1 cp1 N1 W1.heap.size 0 1 1 X1 [32] rfl rfl HN1.out rfl HV1.1.out HV1.2.1 ?hlay ?hbay ?_;case hlay=>first|omega|(show X1.length+1≤_;omega)
 case hbay=>omega
 intro g2a c2a w2a hW2 hgr2 hat2;have HAa:Hid (LtJ w vs g2a c2a (X1++ [32]) w2a):=HV1.1.app hW2 hgr2;have s2:=hgr2.size;have ga:w2a.cell? ⟨w.heap.size,1,none⟩=some (.string s):=HAa.box.cell (j:=1) hv1;obtain⟨X2,hX2⟩:∃X2:List UInt8,X2=X1++ [32]:=⟨_,rfl⟩;rw[←hX2]at HAa;have x2:X2.length=X1.length+1:=by rw[hX2,List.length_append];rfl
 have x2b:X2.length≤8+1:=by omega
 have HX2:Hid (X2=X1++ [32]):=hX2;have HJan:Hid (N1+1=X2.length):=by show _=_;rw[x2,←HN1.out]
 clear hX2 hW2 hgr2 hat2 x2;refine hK.out _ _ (.inr ga) ?_;clear hK;refine jS ?_;refine qO 5 rfl fun K hK=>?_;go_simp;go_at_call 110;refine(yD7 s w2a (by omega)).mono ?_;rintro r qwa ⟨qg,qc,rfl,hqW,hqb⟩;rw[←HQL.out];have HJa:Hid (LtJ w vs g2a c2a X2 qwa∧WrB qwa w2a.heap.size qg qc QL∧w2a.heap.size≤qwa.heap.size):=⟨HAa.move hqb,by first|exact hqW|(rw[HQL.out];exact hqW),hqb.size⟩;have HJax:Hid (X2=X1++ [32]):=HX2;have gq:qwa.cell? ⟨w.heap.size,1,none⟩=some (.string s):=HJa.1.box.cell (j:=1) hv1;clear hqb;refine hK.out _ _ (.inr gq) ?_;clear hK;refine jS ?_;refine qO 6 rfl fun K hK=>?_;refine yBz _ rfl _ _ rfl (w.heap.size+1) g2a c2a (N1+1) qg 0 QL.length qc X2 QL rfl rfl HJan.out rfl HJa.1.out HJa.2.1.at_ ?hlaz ?hbaz ?_;case hlaz=>omega
 case hbaz=>have:=HJa.1.out.lt;have:=HJa.1.out.le;omega
 intro gza cza wza hWz hgrz hatz;have HR:Hid (LtP Y w (.returned (.slice (some ⟨gza,0,none⟩) ((N1+1)+QL.length) cza)) wza):=(HJa.1.app hWz hgrz).done (by rw[List.length_append,←HJan.out]) (by rw[HY.out,HJax.out]);have gs:wza.cell? ⟨w.heap.size,1,none⟩=some (.string s):=(HJa.1.app hWz hgrz).box.cell (j:=1) hv1;clear hWz hgrz hatz;refine hK.out _ _ (.inr gs) ?_;clear hK;refine jS ?_;refine qO 7 rfl fun K hK=>?_;exact zzQ88):p:=h
theorem yVp (hk:k=4):LtC k:=by exact zLtb
theorem yVo (hk:k=5):LtC k:=by exact zLtb
theorem yVn (hk:k=6):LtC k:=by exact zLtb
theorem yVm (hk:k=7):LtC k:=by exact zLtb
theorem zLtc (h:p:=by
 intro s hi t lo up n w hg hn;have HG:Hid (LooN ⟨k,s,hi,t,lo,up,n⟩∧NumN ⟨k,s,hi,t,lo,up,n⟩):=⟨hg,hn⟩;have g0:s.size≤50000:=hg.1;have g1:t.size≤50000:=hg.2.1;obtain⟨Y,hY⟩:=qE (yBi ⟨k,s,hi,t,lo,up,n⟩);rw[←hY];have HY0:Hid (Y=yBi ⟨k,s,hi,t,lo,up,n⟩):=hY;clear hY hg hn;have hwd:=yEj (k:=k) (by omega);obtain⟨B,hB⟩:=qE (yA8 k);have HB:Hid (B=yA8 k):=hB;rw[←hB]at hwd;obtain⟨W0,hW0⟩:=qE (w.alloc (Obj.cells #[.int .i64 k,.string s,.bool hi,.string t,.int .u64 lo,.int .u64 up,.int .i64 n] 65):World);obtain⟨vs,hvs⟩:∃vs:List Value,vs=(#[.int .i64 k,.string s,.bool hi,.string t,.int .u64 lo,.int .u64 up,.int .i64 n]).toList:=⟨_,rfl⟩;obtain⟨z0,hB0,W1,cp1,N1,X1,HS⟩:=yHi w vs (by rw[hvs];rfl) B (by have:=yCk k;rw[yBb]at this;rw[hB];exact this) W0 (by rw[hW0,hvs]);have hv0:vs[0]?=some (.int .i64 k):=by rw[hvs];rfl
 have hv1:vs[1]?=some (.string s):=by rw[hvs];rfl
 have hv2:vs[2]?=some (.bool hi):=by rw[hvs];rfl
 have hv3:vs[3]?=some (.string t):=by rw[hvs];rfl
 have hv4:vs[4]?=some (.int .u64 lo):=by rw[hvs];rfl
 have hv5:vs[5]?=some (.int .u64 up):=by rw[hvs];rfl
 have hv6:vs[6]?=some (.int .i64 n):=by rw[hvs];rfl
 clear hvs hB;have c0:=hB0.cell (j:=0) hv0;obtain⟨hx,hN,n8,hcv,hj⟩:=HS;have HJ1:Hid (LtJ w vs W0.heap.size cp1 X1 W1):=hj;have HX1:Hid (X1=bl B):=hx;have HN1:Hid (N1=X1.length):=hN;have x1':X1.length≤8:=by omega
 obtain⟨G1,hG1⟩:=qE W0.heap.size;rw[←hG1]at hcv HJ1;clear hx hN hj hB0;have q0:=HJ1.box.cell (j:=0) hv0;have zs1:=HJ1.below.size;subst hk;go_enter Tryz.func83,Tryz.ntmps83;go_upto_region 1 with fail;rw[←hW0];clear hW0;go_wp2_with fail;refine(hwd W0).mono ?_;rintro r w9 ⟨rfl,hw9⟩;rw[hw9];clear hw9 c0 hG1 z0;have hz:lo=0∧up=0∧(hi=true→less s t)∧(hi=false→t.toList= []):=by
  obtain⟨⟨_,_,g2,g3⟩,_⟩:=HG.out;simp only at g2 g3;refine⟨by omega,by omega,?_,fun q=>(g2 q).1⟩;rcases g3 with⟨q,_⟩|⟨_,_,q⟩|⟨q,_⟩|⟨q,_⟩|⟨q,_⟩
  ·omega
  ·exact q
  ·omega
  ·omega
  ·omega
 obtain⟨hlo,hup,hls,hlt⟩:=hz;subst hlo hup;have HLS:Hid ((hi=true→less s t)∧(hi=false→t.toList= [])):=⟨hls,hlt⟩;clear hls hlt;obtain⟨V1,hV1⟩:=qE (W1.alloc (Obj.cells #[.int .u8 32] 5):World);have hb1:Below W1.heap.size W1 V1:=by rw[hV1];exact qB
 have HV1:Hid (LtJ w vs G1 cp1 X1 V1∧yAe V1 W1.heap.size 0 [32]):=by refine⟨HJ1.move hb1,?_⟩;rw[hV1];exact yAp W1 _ [32] rfl
 have zV1:=HV1.1.out.lt;have yV1:=HV1.1.out.le;clear hb1;go_wp2_with (at_builtin;(try rw[←hV1]);refine yAa _ rfl _ _ rfl (w.heap.size+1) G1 cp1 N1 W1.heap.size 0 1 1 X1 [32] rfl rfl HN1.out rfl HV1.1.out HV1.2 ?hl ?hb ?_);case hl=>first|omega|(show X1.length+1≤_;omega)
 case hb=>omega
 intro G2 cp2 W2 hW2 hgr2' hat;have hgr2:V1.grownBy W2 (some G1):=by first|exact hgr2'|(rw[hV1];exact hgr2')
 obtain⟨X2,hX2⟩:∃X2:List UInt8,X2=X1++ [32]:=⟨_,rfl⟩;have HX2:Hid (X2=X1++ [32]):=hX2;have x2':X2.length≤8+1:=by rw[hX2,List.length_append];exact Nat.add_le_add_right x1' _
 have HJ2:Hid (LtJ w vs G2 cp2 X2 W2):=HV1.1.app (by rw[hX2];exact hW2) hgr2;have HN2:Hid (N1+1=X2.length):=by show _=_;rw[hX2,List.length_append,←HN1.out];rfl
 clear hW2 hgr2 hat hX2;try clear hgr2'
 try clear hV1
 try clear q0
 have e1:=HJ2.box.cell (j:=1) hv1;by_cases hs:bl s= []
 ·have zs:(s.toList==([]:List UInt8))=true:=by rw[yDu.1 hs];rfl
  have zs2:s.toList= []:=yDu.1 hs;have HE1:Hid (endM (bl s) 0= []):=by show _=_;unfold endM;rw[if_pos hs,if_pos rfl]
  obtain⟨V2,hV2⟩:=qE (W2.alloc (Obj.cells #[.int .u8 46,.int .u8 46] 5):World);have hb2:Below W2.heap.size W2 V2:=by rw[hV2];exact qB
  have HV2:Hid (LtJ w vs G2 cp2 X2 V2∧yAe V2 W2.heap.size 0 [46,46]):=by refine⟨HJ2.move hb2,?_⟩;rw[hV2];exact yAp W2 _ [46,46] rfl
  have zV2:=HV2.1.out.lt;have yV2:=HV2.1.out.le;clear hb2;go_wp2_with (at_builtin;(try rw[←hV2]);refine yAa _ rfl _ _ rfl (w.heap.size+1) G2 cp2 (N1+1) W2.heap.size 0 2 2 X2 [46,46] rfl rfl HN2.out rfl HV2.1.out HV2.2 ?hl ?hb ?_);case hl=>first|omega|(show X2.length+2≤_;omega)
  case hb=>omega
  intro G3 cp3 W3 hW3 hgr3' hat;have hgr3:V2.grownBy W3 (some G2):=by first|exact hgr3'|(rw[hV2];exact hgr3')
  obtain⟨X3,hX3⟩:∃X3:List UInt8,X3=X2++ [46,46]:=⟨_,rfl⟩;have HX3:Hid (X3=X2++ [46,46]):=hX3;have x3':X3.length≤X2.length+2:=by rw[hX3,List.length_append];exact Nat.le_refl _
  have HJ3:Hid (LtJ w vs G3 cp3 X3 W3):=HV2.1.app (by rw[hX3];exact hW3) hgr3;have HN3:Hid (N1+1+2=X3.length):=by show _=_;rw[hX3,List.length_append,←HN2.out];rfl
  clear hW3 hgr3 hat hX3;try clear hgr3'
  try clear hV2
  try clear q0
  have eh:=HJ3.box.cell (j:=2) hv2;cases hi
  case true=>
   have HE2:Hid (endM (bl t) 0=quoM (bl t)):=by show _=_;unfold endM;rw[if_neg (fun q=>?_)];have h9:=HLS.1 rfl;have h8:=yDu.1 q;unfold less at h9;rw[h8]at h9;exact absurd h9 (by cases s.toList<;>simp[Op.bytesLess])
   have eu1:=HJ3.box.cell (j:=3) hv3;obtain⟨QLu1,hQLu1⟩:∃QL:List UInt8,QL=quoM (bl t):=⟨_,rfl⟩;have HQLu1:Hid (QLu1=quoM (bl t)):=hQLu1;have hqlu1:QLu1.length≤300000:=by rw[hQLu1];have:=yD5 (bl t);rw[yBb]at this;omega
   clear hQLu1;go_wp2_with fail;refine(yD7 t W3 (by omega)).mono ?_;rintro r Qu1 ⟨qgu1,qcu1,rfl,hqW,hqb⟩;rw[←HQLu1.out];obtain⟨qlu1,hqu1⟩:∃ql,ql=QLu1.length:=⟨_,rfl⟩;rw[←hqu1];have HQu1:Hid (LtJ w vs G3 cp3 X3 Qu1∧WrB Qu1 W3.heap.size qgu1 qcu1 QLu1∧qlu1=QLu1.length):=⟨HJ3.move hqb,by first|exact hqW|(rw[HQLu1.out];exact hqW),hqu1⟩;exact zzQ19
  case false=>
   have HE2:Hid (endM (bl t) 0= []):=by show _=_;unfold endM;rw[if_pos (yDu.2 (HLS.2 rfl)),if_pos rfl]
   exact zzQ55
 ·have zs:(s.toList==([]:List UInt8))=false:=by rw[beq_eq_false_iff_ne];exact fun q=>hs (yDu.2 q)
  have zs2:¬s.toList= []:=fun q=>hs (yDu.2 q);have HE1:Hid (endM (bl s) 0=quoM (bl s)):=by show _=_;unfold endM;rw[if_neg hs]
  have es1:=HJ2.box.cell (j:=1) hv1;obtain⟨QLs1,hQLs1⟩:∃QL:List UInt8,QL=quoM (bl s):=⟨_,rfl⟩;have HQLs1:Hid (QLs1=quoM (bl s)):=hQLs1;have hqls1:QLs1.length≤300000:=by rw[hQLs1];have:=yD5 (bl s);rw[yBb]at this;omega
  clear hQLs1;go_wp2_with fail;refine(yD7 s W2 (by omega)).mono ?_;rintro r Qs1 ⟨qgs1,qcs1,rfl,hqW,hqb⟩;rw[←HQLs1.out];obtain⟨qls1,hqs1⟩:∃ql,ql=QLs1.length:=⟨_,rfl⟩;rw[←hqs1];have HQs1:Hid (LtJ w vs G2 cp2 X2 Qs1∧WrB Qs1 W2.heap.size qgs1 qcs1 QLs1∧qls1=QLs1.length):=⟨HJ2.move hqb,by first|exact hqW|(rw[HQLs1.out];exact hqW),hqs1⟩;have zqs1:=HQs1.1.out.lt;have yqs1:=HQs1.1.out.le;clear hqb hqW hqs1 es1;go_wp2_with (at_builtin;refine yAa _ rfl _ _ rfl (w.heap.size+1) G2 cp2 (N1+1) qgs1 0 qls1 qcs1 X2 QLs1 rfl rfl HN2.out HQs1.2.2 HQs1.1.out HQs1.2.1.at_ ?hls1 ?hbs1 ?_);case hls1=>omega
  case hbs1=>omega
  intro G3 cp3 W3 hW3 hgr3 hat;obtain⟨X3,hX3⟩:∃X3:List UInt8,X3=X2++QLs1:=⟨_,rfl⟩;have HX3:Hid (X3=X2++QLs1):=hX3;have x3':X3.length≤X2.length+300000:=by rw[hX3,List.length_append];omega
  have HJ3:Hid (LtJ w vs G3 cp3 X3 W3):=HQs1.1.app (by rw[hX3];exact hW3) hgr3;obtain⟨n3,hn3⟩:=qE X3.length;have HN3:Hid (n3=X3.length):=hn3;have he3:N1+1+qls1=n3:=by rw[hn3,hX3,List.length_append,←HN2.out,←HQs1.2.2]
  try rw[he3]
  clear hW3 hgr3 hat hX3 hn3 he3;obtain⟨V3,hV3⟩:=qE (W3.alloc (Obj.cells #[.int .u8 46,.int .u8 46] 5):World);have hb3:Below W3.heap.size W3 V3:=by rw[hV3];exact qB
  have HV3:Hid (LtJ w vs G3 cp3 X3 V3∧yAe V3 W3.heap.size 0 [46,46]):=by refine⟨HJ3.move hb3,?_⟩;rw[hV3];exact yAp W3 _ [46,46] rfl
  have zV3:=HV3.1.out.lt;have yV3:=HV3.1.out.le;clear hb3;go_wp2_with (at_builtin;(try rw[←hV3]);refine yAa _ rfl _ _ rfl (w.heap.size+1) G3 cp3 n3 W3.heap.size 0 2 2 X3 [46,46] rfl rfl HN3.out rfl HV3.1.out HV3.2 ?hl ?hb ?_);case hl=>first|omega|(show X3.length+2≤_;omega)
  case hb=>omega
  intro G4 cp4 W4 hW4 hgr4' hat;have hgr4:V3.grownBy W4 (some G3):=by first|exact hgr4'|(rw[hV3];exact hgr4')
  obtain⟨X4,hX4⟩:∃X4:List UInt8,X4=X3++ [46,46]:=⟨_,rfl⟩;have HX4:Hid (X4=X3++ [46,46]):=hX4;have x4':X4.length≤X3.length+2:=by rw[hX4,List.length_append];exact Nat.le_refl _
  have HJ4:Hid (LtJ w vs G4 cp4 X4 W4):=HV3.1.app (by rw[hX4];exact hW4) hgr4;obtain⟨n4,hn4⟩:=qE X4.length;have HN4:Hid (n4=X4.length):=hn4;have he4:n3+2=n4:=by rw[hn4,hX4,List.length_append,←HN3.out];rfl
  try rw[he4]
  clear hn4 he4;clear hW4 hgr4 hat hX4;try clear hgr4'
  try clear hV3
  try clear q0
  have eh:=HJ4.box.cell (j:=2) hv2;cases hi
  case true=>
   have HE2:Hid (endM (bl t) 0=quoM (bl t)):=by show _=_;unfold endM;rw[if_neg (fun q=>?_)];have h9:=HLS.1 rfl;have h8:=yDu.1 q;unfold less at h9;rw[h8]at h9;exact absurd h9 (by cases s.toList<;>simp[Op.bytesLess])
   have eu2:=HJ4.box.cell (j:=3) hv3;obtain⟨QLu2,hQLu2⟩:∃QL:List UInt8,QL=quoM (bl t):=⟨_,rfl⟩;have HQLu2:Hid (QLu2=quoM (bl t)):=hQLu2;have hqlu2:QLu2.length≤300000:=by rw[hQLu2];have:=yD5 (bl t);rw[yBb]at this;omega
   clear hQLu2;go_wp2_with fail;refine(yD7 t W4 (by omega)).mono ?_;rintro r Qu2 ⟨qgu2,qcu2,rfl,hqW,hqb⟩;rw[←HQLu2.out];obtain⟨qlu2,hqu2⟩:∃ql,ql=QLu2.length:=⟨_,rfl⟩;rw[←hqu2];have HQu2:Hid (LtJ w vs G4 cp4 X4 Qu2∧WrB Qu2 W4.heap.size qgu2 qcu2 QLu2∧qlu2=QLu2.length):=⟨HJ4.move hqb,by first|exact hqW|(rw[HQLu2.out];exact hqW),hqu2⟩;exact zzQ18
  case false=>
   have HE2:Hid (endM (bl t) 0= []):=by show _=_;unfold endM;rw[if_pos (yDu.2 (HLS.2 rfl)),if_pos rfl]
   exact zzQ52):p:=h
theorem yVl (hk:k=8):LtC k:=by exact zLtc
theorem yVk (hk:k=9):LtC k:=by exact zLtc
theorem zLtd (h:p:=by
 intro s hi t lo up n w hg hn;have HG:Hid (LooN ⟨k,s,hi,t,lo,up,n⟩∧NumN ⟨k,s,hi,t,lo,up,n⟩):=⟨hg,hn⟩;have g0:s.size≤50000:=hg.1;have g1:t.size≤50000:=hg.2.1;obtain⟨Y,hY⟩:=qE (yBi ⟨k,s,hi,t,lo,up,n⟩);rw[←hY];have HY0:Hid (Y=yBi ⟨k,s,hi,t,lo,up,n⟩):=hY;clear hY hg hn;have hwd:=yEj (k:=k) (by omega);obtain⟨B,hB⟩:=qE (yA8 k);have HB:Hid (B=yA8 k):=hB;rw[←hB]at hwd;obtain⟨W0,hW0⟩:=qE (w.alloc (Obj.cells #[.int .i64 k,.string s,.bool hi,.string t,.int .u64 lo,.int .u64 up,.int .i64 n] 65):World);obtain⟨vs,hvs⟩:∃vs:List Value,vs=(#[.int .i64 k,.string s,.bool hi,.string t,.int .u64 lo,.int .u64 up,.int .i64 n]).toList:=⟨_,rfl⟩;obtain⟨z0,hB0,W1,cp1,N1,X1,HS⟩:=yHi w vs (by rw[hvs];rfl) B (by have:=yCk k;rw[yBb]at this;rw[hB];exact this) W0 (by rw[hW0,hvs]);have hv0:vs[0]?=some (.int .i64 k):=by rw[hvs];rfl
 have hv1:vs[1]?=some (.string s):=by rw[hvs];rfl
 have hv2:vs[2]?=some (.bool hi):=by rw[hvs];rfl
 have hv3:vs[3]?=some (.string t):=by rw[hvs];rfl
 have hv4:vs[4]?=some (.int .u64 lo):=by rw[hvs];rfl
 have hv5:vs[5]?=some (.int .u64 up):=by rw[hvs];rfl
 have hv6:vs[6]?=some (.int .i64 n):=by rw[hvs];rfl
 clear hvs hB;have c0:=hB0.cell (j:=0) hv0;obtain⟨hx,hN,n8,hcv,hj⟩:=HS;have HJ1:Hid (LtJ w vs W0.heap.size cp1 X1 W1):=hj;have HX1:Hid (X1=bl B):=hx;have HN1:Hid (N1=X1.length):=hN;have x1':X1.length≤8:=by omega
 obtain⟨G1,hG1⟩:=qE W0.heap.size;rw[←hG1]at hcv HJ1;clear hx hN hj hB0;have q0:=HJ1.box.cell (j:=0) hv0;have zs1:=HJ1.below.size;subst hk;go_enter Tryz.func83,Tryz.ntmps83;go_upto_region 1 with fail;rw[←hW0];clear hW0;go_wp2_with fail;refine(hwd W0).mono ?_;rintro r w9 ⟨rfl,hw9⟩;rw[hw9];clear hw9 c0 hG1 z0;have hz:s.toList= []∧t.toList= []∧(hi=true→lo<up)∧(hi=false→up=0):=by
  obtain⟨⟨_,_,g2,g3⟩,_⟩:=HG.out;simp only at g2 g3;rcases g3 with⟨q,_⟩|⟨q,_⟩|⟨_,q,q2⟩|⟨q,_⟩|⟨q,_⟩
  ·omega
  ·omega
  ·exact⟨q.1,q.2.1,q2,fun z=>(g2 z).2⟩
  ·omega
  ·omega
 have hz2:=HG.2;obtain⟨l0,l1,u0,u1⟩:=hz2;simp only at l0 l1 u0 u1;obtain⟨lm,rfl⟩:=Int.eq_ofNat_of_zero_le l0;obtain⟨um,rfl⟩:=Int.eq_ofNat_of_zero_le u0;have HLS:Hid (bl s= []∧bl t= []∧(hi=true→(lm:Int)<um)∧(hi=false→(um:Int)=0)):=⟨yDu.2 hz.1,yDu.2 hz.2.1,hz.2.2⟩;have lm1:lm<2^64:=by omega
 have um1:um<2^64:=by omega
 clear hz l0 l1 u0 u1;obtain⟨V1,hV1⟩:=qE (W1.alloc (Obj.cells #[.int .u8 32] 5):World);have hb1:Below W1.heap.size W1 V1:=by rw[hV1];exact qB
 have HV1:Hid (LtJ w vs G1 cp1 X1 V1∧yAe V1 W1.heap.size 0 [32]):=by refine⟨HJ1.move hb1,?_⟩;rw[hV1];exact yAp W1 _ [32] rfl
 have zV1:=HV1.1.out.lt;have yV1:=HV1.1.out.le;clear hb1;go_wp2_with (at_builtin;(try rw[←hV1]);refine yAa _ rfl _ _ rfl (w.heap.size+1) G1 cp1 N1 W1.heap.size 0 1 1 X1 [32] rfl rfl HN1.out rfl HV1.1.out HV1.2 ?hl ?hb ?_);case hl=>first|omega|(show X1.length+1≤_;omega)
 case hb=>omega
 intro G2 cp2 W2 hW2 hgr2' hat;have hgr2:V1.grownBy W2 (some G1):=by first|exact hgr2'|(rw[hV1];exact hgr2')
 obtain⟨X2,hX2⟩:∃X2:List UInt8,X2=X1++ [32]:=⟨_,rfl⟩;have HX2:Hid (X2=X1++ [32]):=hX2;have x2':X2.length≤8+1:=by rw[hX2,List.length_append];exact Nat.add_le_add_right x1' _
 have HJ2:Hid (LtJ w vs G2 cp2 X2 W2):=HV1.1.app (by rw[hX2];exact hW2) hgr2;have HN2:Hid (N1+1=X2.length):=by show _=_;rw[hX2,List.length_append,←HN1.out];rfl
 clear hW2 hgr2 hat hX2;try clear hgr2'
 try clear hV1
 try clear q0
 have e1:=HJ2.box.cell (j:=4) hv4;by_cases hs:lm=0
 ·subst hs;have HE1:Hid (endM (bl s) ((0:Nat):Int)= []):=by show _=_;unfold endM;rw[if_pos HLS.1];rfl
  obtain⟨V2,hV2⟩:=qE (W2.alloc (Obj.cells #[.int .u8 46,.int .u8 46] 5):World);have hb2:Below W2.heap.size W2 V2:=by rw[hV2];exact qB
  have HV2:Hid (LtJ w vs G2 cp2 X2 V2∧yAe V2 W2.heap.size 0 [46,46]):=by refine⟨HJ2.move hb2,?_⟩;rw[hV2];exact yAp W2 _ [46,46] rfl
  have zV2:=HV2.1.out.lt;have yV2:=HV2.1.out.le;clear hb2;go_wp2_with (at_builtin;(try rw[←hV2]);refine yAa _ rfl _ _ rfl (w.heap.size+1) G2 cp2 (N1+1) W2.heap.size 0 2 2 X2 [46,46] rfl rfl HN2.out rfl HV2.1.out HV2.2 ?hl ?hb ?_);case hl=>first|omega|(show X2.length+2≤_;omega)
  case hb=>omega
  intro G3 cp3 W3 hW3 hgr3' hat;have hgr3:V2.grownBy W3 (some G2):=by first|exact hgr3'|(rw[hV2];exact hgr3')
  obtain⟨X3,hX3⟩:∃X3:List UInt8,X3=X2++ [46,46]:=⟨_,rfl⟩;have HX3:Hid (X3=X2++ [46,46]):=hX3;have x3':X3.length≤X2.length+2:=by rw[hX3,List.length_append];exact Nat.le_refl _
  have HJ3:Hid (LtJ w vs G3 cp3 X3 W3):=HV2.1.app (by rw[hX3];exact hW3) hgr3;have HN3:Hid (N1+1+2=X3.length):=by show _=_;rw[hX3,List.length_append,←HN2.out];rfl
  clear hW3 hgr3 hat hX3;try clear hgr3'
  try clear hV2
  try clear q0
  have eh:=HJ3.box.cell (j:=2) hv2;cases hi
  case true=>
   have HE2:Hid (endM (bl t) (um:Int)=Lib.decDigits um):=by show _=_;have h9:=HLS.2.2.1 rfl;unfold endM;rw[if_pos HLS.2.1,if_neg (by omega),Int.toNat_natCast]
   have eu1:=HJ3.box.cell (j:=5) hv5;obtain⟨QLu1,hQLu1⟩:∃QL:List UInt8,QL=Lib.decDigits um:=⟨_,rfl⟩;have HQLu1:Hid (QLu1=Lib.decDigits um):=hQLu1;have hqlu1:QLu1.length≤300000:=by rw[hQLu1];have:=yD (n:=um) (by omega);omega
   clear hQLu1;go_wp2_with fail;refine(yD8 um W3 (by omega)).mono ?_;rintro r Qu1 ⟨qgu1,qcu1,rfl,hqW,hqb⟩;rw[←HQLu1.out];obtain⟨qlu1,hqu1⟩:∃ql,ql=QLu1.length:=⟨_,rfl⟩;rw[←hqu1];have HQu1:Hid (LtJ w vs G3 cp3 X3 Qu1∧WrB Qu1 W3.heap.size qgu1 qcu1 QLu1∧qlu1=QLu1.length):=⟨HJ3.move hqb,by first|exact hqW.wr|(rw[HQLu1.out];exact hqW.wr),hqu1⟩;exact zzQ19
  case false=>
   have HE2:Hid (endM (bl t) (um:Int)= []):=by show _=_;unfold endM;rw[if_pos HLS.2.1,if_pos (HLS.2.2.2 rfl)]
   exact zzQ55
 ·have zs:((lm:Int)==0)=false:=by rw[beq_eq_false_iff_ne];omega
  have HE1:Hid (endM (bl s) (lm:Int)=Lib.decDigits lm):=by show _=_;unfold endM;rw[if_pos HLS.1,if_neg (by omega),Int.toNat_natCast]
  have es1:=HJ2.box.cell (j:=4) hv4;obtain⟨QLs1,hQLs1⟩:∃QL:List UInt8,QL=Lib.decDigits lm:=⟨_,rfl⟩;have HQLs1:Hid (QLs1=Lib.decDigits lm):=hQLs1;have hqls1:QLs1.length≤300000:=by rw[hQLs1];have:=yD (n:=lm) (by omega);omega
  clear hQLs1;go_wp2_with fail;refine(yD8 lm W2 (by omega)).mono ?_;rintro r Qs1 ⟨qgs1,qcs1,rfl,hqW,hqb⟩;rw[←HQLs1.out];obtain⟨qls1,hqs1⟩:∃ql,ql=QLs1.length:=⟨_,rfl⟩;rw[←hqs1];have HQs1:Hid (LtJ w vs G2 cp2 X2 Qs1∧WrB Qs1 W2.heap.size qgs1 qcs1 QLs1∧qls1=QLs1.length):=⟨HJ2.move hqb,by first|exact hqW.wr|(rw[HQLs1.out];exact hqW.wr),hqs1⟩;have zqs1:=HQs1.1.out.lt;have yqs1:=HQs1.1.out.le;clear hqb hqW hqs1 es1;go_wp2_with (at_builtin;refine yAa _ rfl _ _ rfl (w.heap.size+1) G2 cp2 (N1+1) qgs1 0 qls1 qcs1 X2 QLs1 rfl rfl HN2.out HQs1.2.2 HQs1.1.out HQs1.2.1.at_ ?hls1 ?hbs1 ?_);case hls1=>omega
  case hbs1=>omega
  intro G3 cp3 W3 hW3 hgr3 hat;obtain⟨X3,hX3⟩:∃X3:List UInt8,X3=X2++QLs1:=⟨_,rfl⟩;have HX3:Hid (X3=X2++QLs1):=hX3;have x3':X3.length≤X2.length+300000:=by rw[hX3,List.length_append];omega
  have HJ3:Hid (LtJ w vs G3 cp3 X3 W3):=HQs1.1.app (by rw[hX3];exact hW3) hgr3;obtain⟨n3,hn3⟩:=qE X3.length;have HN3:Hid (n3=X3.length):=hn3;have he3:N1+1+qls1=n3:=by rw[hn3,hX3,List.length_append,←HN2.out,←HQs1.2.2]
  try rw[he3]
  clear hW3 hgr3 hat hX3 hn3 he3;obtain⟨V3,hV3⟩:=qE (W3.alloc (Obj.cells #[.int .u8 46,.int .u8 46] 5):World);have hb3:Below W3.heap.size W3 V3:=by rw[hV3];exact qB
  have HV3:Hid (LtJ w vs G3 cp3 X3 V3∧yAe V3 W3.heap.size 0 [46,46]):=by refine⟨HJ3.move hb3,?_⟩;rw[hV3];exact yAp W3 _ [46,46] rfl
  have zV3:=HV3.1.out.lt;have yV3:=HV3.1.out.le;clear hb3;go_wp2_with (at_builtin;(try rw[←hV3]);refine yAa _ rfl _ _ rfl (w.heap.size+1) G3 cp3 n3 W3.heap.size 0 2 2 X3 [46,46] rfl rfl HN3.out rfl HV3.1.out HV3.2 ?hl ?hb ?_);case hl=>first|omega|(show X3.length+2≤_;omega)
  case hb=>omega
  intro G4 cp4 W4 hW4 hgr4' hat;have hgr4:V3.grownBy W4 (some G3):=by first|exact hgr4'|(rw[hV3];exact hgr4')
  obtain⟨X4,hX4⟩:∃X4:List UInt8,X4=X3++ [46,46]:=⟨_,rfl⟩;have HX4:Hid (X4=X3++ [46,46]):=hX4;have x4':X4.length≤X3.length+2:=by rw[hX4,List.length_append];exact Nat.le_refl _
  have HJ4:Hid (LtJ w vs G4 cp4 X4 W4):=HV3.1.app (by rw[hX4];exact hW4) hgr4;obtain⟨n4,hn4⟩:=qE X4.length;have HN4:Hid (n4=X4.length):=hn4;have he4:n3+2=n4:=by rw[hn4,hX4,List.length_append,←HN3.out];rfl
  try rw[he4]
  clear hn4 he4;clear hW4 hgr4 hat hX4;try clear hgr4'
  try clear hV3
  try clear q0
  have eh:=HJ4.box.cell (j:=2) hv2;cases hi
  case true=>
   have HE2:Hid (endM (bl t) (um:Int)=Lib.decDigits um):=by show _=_;have h9:=HLS.2.2.1 rfl;unfold endM;rw[if_pos HLS.2.1,if_neg (by omega),Int.toNat_natCast]
   have eu2:=HJ4.box.cell (j:=5) hv5;obtain⟨QLu2,hQLu2⟩:∃QL:List UInt8,QL=Lib.decDigits um:=⟨_,rfl⟩;have HQLu2:Hid (QLu2=Lib.decDigits um):=hQLu2;have hqlu2:QLu2.length≤300000:=by rw[hQLu2];have:=yD (n:=um) (by omega);omega
   clear hQLu2;go_wp2_with fail;refine(yD8 um W4 (by omega)).mono ?_;rintro r Qu2 ⟨qgu2,qcu2,rfl,hqW,hqb⟩;rw[←HQLu2.out];obtain⟨qlu2,hqu2⟩:∃ql,ql=QLu2.length:=⟨_,rfl⟩;rw[←hqu2];have HQu2:Hid (LtJ w vs G4 cp4 X4 Qu2∧WrB Qu2 W4.heap.size qgu2 qcu2 QLu2∧qlu2=QLu2.length):=⟨HJ4.move hqb,by first|exact hqW.wr|(rw[HQLu2.out];exact hqW.wr),hqu2⟩;exact zzQ18
  case false=>
   have HE2:Hid (endM (bl t) (um:Int)= []):=by show _=_;unfold endM;rw[if_pos HLS.2.1,if_pos (HLS.2.2.2 rfl)]
   exact zzQ52):p:=h
theorem ySy (hk:k=10):LtC k:=by exact zLtd
theorem zLte (h:p:=by
 intro s hi t lo up n w hg hn;have HG:Hid (LooN ⟨k,s,hi,t,lo,up,n⟩∧NumN ⟨k,s,hi,t,lo,up,n⟩):=⟨hg,hn⟩;have g0:s.size≤50000:=hg.1;have g1:t.size≤50000:=hg.2.1;obtain⟨Y,hY⟩:=qE (yBi ⟨k,s,hi,t,lo,up,n⟩);rw[←hY];have HY0:Hid (Y=yBi ⟨k,s,hi,t,lo,up,n⟩):=hY;clear hY hg hn;have hwd:=yEj (k:=k) (by omega);obtain⟨B,hB⟩:=qE (yA8 k);have HB:Hid (B=yA8 k):=hB;rw[←hB]at hwd;obtain⟨W0,hW0⟩:=qE (w.alloc (Obj.cells #[.int .i64 k,.string s,.bool hi,.string t,.int .u64 lo,.int .u64 up,.int .i64 n] 65):World);obtain⟨vs,hvs⟩:∃vs:List Value,vs=(#[.int .i64 k,.string s,.bool hi,.string t,.int .u64 lo,.int .u64 up,.int .i64 n]).toList:=⟨_,rfl⟩;obtain⟨z0,hB0,W1,cp1,N1,X1,HS⟩:=yHi w vs (by rw[hvs];rfl) B (by have:=yCk k;rw[yBb]at this;rw[hB];exact this) W0 (by rw[hW0,hvs]);have hv0:vs[0]?=some (.int .i64 k):=by rw[hvs];rfl
 have hv1:vs[1]?=some (.string s):=by rw[hvs];rfl
 have hv2:vs[2]?=some (.bool hi):=by rw[hvs];rfl
 have hv3:vs[3]?=some (.string t):=by rw[hvs];rfl
 have hv4:vs[4]?=some (.int .u64 lo):=by rw[hvs];rfl
 have hv5:vs[5]?=some (.int .u64 up):=by rw[hvs];rfl
 have hv6:vs[6]?=some (.int .i64 n):=by rw[hvs];rfl
 clear hvs hB;have c0:=hB0.cell (j:=0) hv0;obtain⟨hx,hN,n8,hcv,hj⟩:=HS;have HJ1:Hid (LtJ w vs W0.heap.size cp1 X1 W1):=hj;have HX1:Hid (X1=bl B):=hx;have HN1:Hid (N1=X1.length):=hN;have x1':X1.length≤8:=by omega
 obtain⟨G1,hG1⟩:=qE W0.heap.size;rw[←hG1]at hcv HJ1;clear hx hN hj hB0;have q0:=HJ1.box.cell (j:=0) hv0;have zs1:=HJ1.below.size;subst hk;go_enter Tryz.func83,Tryz.ntmps83;go_upto_region 1 with fail;rw[←hW0];clear hW0;go_wp2_with fail;refine(hwd W0).mono ?_;rintro r w9 ⟨rfl,hw9⟩;rw[hw9];clear hw9 c0 hG1 z0;have hn1:1≤n∧n≤100000:=by obtain⟨⟨_,_,_,g3⟩,_⟩:=HG.out;simp only at g3;omega
 obtain⟨m,rfl⟩:=Int.eq_ofNat_of_zero_le (show 0≤n by omega);have HY:Hid (Y=X1++ [32]++Lib.decDigits m):=by show _=_;rw[HY0.out,HX1.out,HB.out];simp[yBi,yEd]
 have hql:=yD (n:=m) (by omega);obtain⟨QL,hQL⟩:∃QL:List UInt8,QL=Lib.decDigits m:=⟨_,rfl⟩;rw[←hQL]at HY hql;have HQL:Hid (QL=Lib.decDigits m):=hQL;clear hQL;have m1a:W1.cell? ⟨w.heap.size,6,none⟩=some (.int .i64 (m:Int)):=HJ1.box.cell (j:=6) hv6;have hS:SW (fun w':World=>w'.cell? ⟨w.heap.size,6,none⟩=some (.int .i64 (m:Int))) W1.drew:=m1a;have HJd:Hid (LtJ w vs G1 cp1 X1 W1.drew):=HJ1.move ((Below.refl _ _).drew);have zd:W1.drew.heap.size=W1.heap.size:=by simp
 go_upto_region 26 with fail;refine wpR 8 hS ?_;refine j2a 0 hS ?_;refine j2a 3 hS ?_;refine j2b hS ?_;refine qU 5 (.int .u64 (m:Int)) rfl ?yz115 hS ?_;case yz115=>(intro wz hSw;(try dsimp only at hSw);go_simp;first|done|rfl|(rw[IntKind.wrap_u64];omega)|(congr 3;rw[IntKind.wrap_u64];omega)|(trace_state;omega))
 try simp only[qA,List.getElem_toArray,List.getElem_cons_zero,List.getElem_cons_succ]
 obtain⟨V1,hV1⟩:=qE ((W1.alloc (Obj.cells #[.int .u8 32] 5)).drew:World);have hbV:Below W1.heap.size W1 V1:=by rw[hV1];exact(qB).drew
 have HV1:Hid (LtJ w vs G1 cp1 X1 V1∧yAe V1 W1.heap.size 0 [32]∧W1.heap.size<V1.heap.size):=by refine⟨HJ1.move hbV,?_,by rw[hV1];simp⟩;rw[hV1];exact fun i y hy=>yAp W1 _ [32] rfl i y hy
 have zV:=HV1.1.out.lt;have yV:=HV1.1.out.le;have gV:V1.cell? ⟨w.heap.size,6,none⟩=some (.int .i64 (m:Int)):=HV1.1.box.cell (j:=6) hv6;clear hbV;refine qO 1 rfl fun K hK=>?_;go_simp;rw[←hV1];clear hV1;refine hK.out _ _ (.inr gV) ?_;clear hK;refine jS ?_;refine qO 2 rfl fun K hK=>?_;refine yBz _ rfl _ _ rfl (w.heap.size+1) G1 cp1 N1 W1.heap.size 0 1 1 X1 [32] rfl rfl HN1.out rfl HV1.1.out HV1.2.1 ?hlay ?hbay ?_;case hlay=>first|omega|(show X1.length+1≤_;omega)
 case hbay=>omega
 intro g2a c2a w2a hW2 hgr2 hat2;have HAa:Hid (LtJ w vs g2a c2a (X1++ [32]) w2a):=HV1.1.app hW2 hgr2;have s2:=hgr2.size;have ga:w2a.cell? ⟨w.heap.size,6,none⟩=some (.int .i64 (m:Int)):=HAa.box.cell (j:=6) hv6;obtain⟨X2,hX2⟩:∃X2:List UInt8,X2=X1++ [32]:=⟨_,rfl⟩;rw[←hX2]at HAa;have x2:X2.length=X1.length+1:=by rw[hX2,List.length_append];rfl
 have x2b:X2.length≤8+1:=by omega
 have HX2:Hid (X2=X1++ [32]):=hX2;have HJan:Hid (N1+1=X2.length):=by show _=_;rw[x2,←HN1.out]
 clear hX2 hW2 hgr2 hat2 x2;refine hK.out _ _ (.inr ga) ?_;clear hK;refine jS ?_;refine qO 6 rfl fun K hK=>?_;go_simp;go_at_call 111;refine(yD8 m w2a (by omega)).mono ?_;rintro r qwa ⟨qg,qc,rfl,hqO,hqb⟩;rw[←HQL.out];have HJa:Hid (LtJ w vs g2a c2a X2 qwa∧WrB qwa w2a.heap.size qg qc QL∧w2a.heap.size≤qwa.heap.size):=⟨HAa.move hqb,by first|exact hqO.wr|(rw[HQL.out];exact hqO.wr),hqb.size⟩;have HJax:Hid (X2=X1++ [32]):=HX2;have gq:qwa.cell? ⟨w.heap.size,6,none⟩=some (.int .i64 (m:Int)):=HJa.1.box.cell (j:=6) hv6;clear hqb;refine hK.out _ _ (.inr gq) ?_;clear hK;refine jS ?_;refine qO 7 rfl fun K hK=>?_;refine yBz _ rfl _ _ rfl (w.heap.size+1) g2a c2a (N1+1) qg 0 QL.length qc X2 QL rfl rfl HJan.out rfl HJa.1.out HJa.2.1.at_ ?hlaz ?hbaz ?_;case hlaz=>omega
 case hbaz=>have:=HJa.1.out.lt;have:=HJa.1.out.le;omega
 intro gza cza wza hWz hgrz hatz;have HR:Hid (LtP Y w (.returned (.slice (some ⟨gza,0,none⟩) ((N1+1)+QL.length) cza)) wza):=(HJa.1.app hWz hgrz).done (by rw[List.length_append,←HJan.out]) (by rw[HY.out,HJax.out]);have gs:wza.cell? ⟨w.heap.size,6,none⟩=some (.int .i64 (m:Int)):=(HJa.1.app hWz hgrz).box.cell (j:=6) hv6;clear hWz hgrz hatz;refine hK.out _ _ (.inr gs) ?_;clear hK;refine jS ?_;refine qO 8 rfl fun K hK=>?_;exact zzQ88):p:=h
theorem ySx (hk:k=11):LtC k:=by exact zLte
theorem ySw (hk:k=12):LtC k:=by exact zLte
theorem ySv (hk:k=13):LtC k:=by exact zLte
theorem yJk (e:Nd) (w:World) (hg:LooN e) (hn:NumN e) (hk:yAo e.kind=0):Calls Tryz.prog 83 #[e.v] w (LtP (yBi e) w):=by
 obtain⟨kind,s,hi,t,lo,up,n⟩:=e;have h13:kind=1∨kind=2∨kind=3∨kind=4∨kind=5∨kind=6∨kind=7∨kind=8∨kind=9∨kind=10∨kind=11∨kind=12∨kind=13:=by
  obtain⟨_,_,_,h⟩:=hg;simp only at h hk;unfold yAo at hk;by_cases q14:kind=14∨kind=15
  ·rw[if_pos q14]at hk;cases hk
  ·by_cases q16:kind=16
   ·rw[if_neg q14,if_pos q16]at hk;cases hk
   ·omega
 rcases h13 with rfl|rfl|rfl|rfl|rfl|rfl|rfl|rfl|rfl|rfl|rfl|rfl|rfl
 ·exact yVs rfl s hi t lo up n w hg hn
 ·exact yVr rfl s hi t lo up n w hg hn
 ·exact yVq rfl s hi t lo up n w hg hn
 ·exact yVp rfl s hi t lo up n w hg hn
 ·exact yVo rfl s hi t lo up n w hg hn
 ·exact yVn rfl s hi t lo up n w hg hn
 ·exact yVm rfl s hi t lo up n w hg hn
 ·exact yVl rfl s hi t lo up n w hg hn
 ·exact yVk rfl s hi t lo up n w hg hn
 ·exact ySy rfl s hi t lo up n w hg hn
 ·exact ySx rfl s hi t lo up n w hg hn
 ·exact ySw rfl s hi t lo up n w hg hn
 ·exact ySv rfl s hi t lo up n w hg hn
def TxP (X:List UInt8) (w:World) (r:Ending) (w':World):Prop:=∃g cp,r=.returned (.slice (some ⟨g,0,none⟩) X.length cp)∧WrB w' w.heap.size g cp X∧Below w.heap.size w w'
def TxC (n:Nat):Prop:=∀(w:World) (b o cap:Nat) (xs:List Nd) (y:PT),xs.length≤n→xs.length≤1000→Win w b o cap xs→yHy xs y→(∀e∈xs,LooN e∧NumN e)→Calls Tryz.prog 41 #[.slice (some ⟨b,o,none⟩) xs.length cap] w (TxP y.2 w)
def yGl (w:World) (base g cp:Nat) (us:List Value):Prop:=w.ownsRow base 22 1 (.slice (some ⟨g,0,none⟩) us.length cp) us.length us
variable {us:List Value}
theorem yGl.lt (h:yGl w base g cp us):base≤g∧g<w.heap.size:=World.ownsRow.lt h g rfl
theorem yGl.chg {S:Nat→Prop} (h:yGl w base g cp us) (hc:Chg S w w') (hn:¬S g):yGl w' base g cp us:=yA2 h hc (fun k q=>by simp[Value.ownBlock]at q;subst q;exact hn)
theorem yGl.below (h:yGl w base g cp us) (hb:Below w.heap.size w w'):yGl w' base g cp us:=h.chg (Chg.of_below hb) (S:=fun _=>False) (fun z=>z)
theorem yGl.cell (h:yGl w base g cp us) {v:Value} (hv:us[j]?=some v):w.cell? ⟨g,j,none⟩=some v:=by have hj:=(List.getElem?_eq_some_iff.1 hv).1;rw[World.ownsRow.cellAt h j (by omega),hv]
theorem ySb (w:World) (hb:base≤w.heap.size):yGl (w.alloc (Obj.cells #[] 22)) base w.heap.size 0 []:=
 World.ownsRow_made w #[] 0 hb (Nat.zero_le _) (by simp)
theorem Tryz.infoBs:(Tryz.prog.info? 22).map (fun i=>(i.zero,i.size,i.bytes))=some (some (.slice none 0 0),1,24):=by kernel_rfl
theorem yFf {ops:Array Oper} {rest:List Oper} {oo:Oper} {a:Act} {Q:Exit→Act→World→Prop} (w:World) (hgd:oo.guard=none) (s x:Operand)
  (ho:oo.op=.call {callee:=.builtin .append,args:=#[s,x],argTypes:=#[120,120]})
  (base gq cp n b:Nat) (us:List Value) (v:Value) (hs:a.eval s=.slice (some ⟨gq,0,none⟩) n cp) (hx:a.eval x=.slice (some ⟨b,0,none⟩) 1 1) (hn:n=us.length) (hO:yGl w base gq cp us)
  (hc:w.cell? ⟨b,0,none⟩=some v) (hy:v.oneCell'=true) (hlen:us.length+1≤1000) (hbase:base≤w.heap.size)
  (h:∀g' cp' w',yGl w' base g' cp' (us++ [v])→w.grownBy w' (some gq)→(g'=gq∨g'=w.heap.size)→wpList Tryz.prog ops Q rest (a.put oo.dst (.slice (some ⟨g',0,none⟩) (n+1) cp')) w'):wpList Tryz.prog ops Q (oo::rest) a w:=by
 subst hn;obtain⟨i,hi,hz0,hz1,hz2⟩:=info_parts Tryz.infoBs;refine wpList_append_own_at w hgd s x 120 ho base 22 i _ 1 24 Tryz.underlying120 hi hz0 hz1 hz2 rfl (by decide) (.slice (some ⟨gq,0,none⟩) us.length cp) us.length us hs hO ⟨b,0,none⟩ 1 1 [v] hx (by simp) ?_ (by intro u hu;simp at hu;subst hu;exact hy) ?_ ?_ hbase ?_
 ·intro j u hu;have hj:j=0:=by have:=(List.getElem?_eq_some_iff.1 hu).1;simpa using this
  subst hj;simp at hu;subst hu;rw[Addr.add_mid];exact hc
 ·unfold maxLen;omega
 ·omega
 ·intro v' w' hO' hgr hnil hat;rcases hO'.2 with⟨h0,_⟩|⟨g',cap',cur,hv,_,_,hn,hcap,_,_⟩
  ·have:=(hnil.1 h0).1;cases this
  ·subst hv;refine h g' cap' w' ?_ hgr ?_
   ·unfold yGl;rw[List.length_append];exact hO'
   ·simp[Value.ownBlock]at hat;exact hat
structure TxJ (w:World) (k:Int) (os:List PT) (kg kc:Nat) (kv:List Value) (i g cp:Nat) (us:List Value) (wr:World):Prop where
 kids:OwnV wr w.heap.size kg kc kv
 own:yGl wr w.heap.size g cp us
 ne:¬kg=g
 len:us.length=i
 txt:∀(j:Nat) (x:PT),j<i→os[j]?=some x→∃b c,us[j]?=some (.slice (some ⟨b,0,none⟩) (yAw k j x).length c)∧yAe wr b 0 (yAw k j x)∧w.heap.size≤b∧b<wr.heap.size∧¬b=g
 below:Below w.heap.size w wr
variable {os:List PT} {i:Nat}
theorem TxJ.move {kg kc:Nat} {kv:List Value} {wr:World} (h:TxJ w k os kg kc kv i g cp us wr) (hb:Below wr.heap.size wr w'):TxJ w k os kg kc kv i g cp us w':=by have hs:=hb.size;refine⟨h.kids.below hb,h.own.below hb,h.ne,h.len,fun j x hj hx=>?_,h.below.trans (hb.mono h.below.size)⟩;obtain⟨b,c,h1,h2,h3,h4,h5⟩:=h.txt j x hj hx;exact⟨b,c,h1,h2.below hb h4,h3,by omega,h5⟩
variable {x:PT}
theorem TxJ.push {kg kc:Nat} {kv:List Value} {g' cp':Nat} {wr:World} {b c:Nat} (h:TxJ w k os kg kc kv i g cp us wr) (hO:yGl w' w.heap.size g' cp' (us++ [.slice (some ⟨b,0,none⟩) (yAw k i x).length c])) (hgr:wr.grownBy w' (some g)) (hat:g'=g∨g'=wr.heap.size) (hx:os[i]?=some x) (hE:yAe wr b 0 (yAw k i x)) (hb1:w.heap.size≤b) (hb2:b<wr.heap.size) (hb3:¬b=g):TxJ w k os kg kc kv (i+1) g' cp' (us++ [.slice (some ⟨b,0,none⟩) (yAw k i x).length c]) w':=by
 have hC:Chg (fun q=>q=g) wr w':=Chg.of_grown hgr (fun q hq=>by cases hq;rfl);have hs:=hgr.size;have hgl:=h.own.lt;have hkl:=h.kids.lt;refine⟨yA2 h.kids hC (fun q hq=>by simp[Value.ownBlock]at hq;subst hq;exact h.ne),hO,by rcases hat with q|q;rw[q];exact h.ne;omega,by rw[List.length_append,h.len];rfl,fun j y hj hy=>?_,Chg.below h.below hC h.below.size (fun q e=>by omega)⟩;by_cases e:j=i
 ·subst e;rw[hx]at hy;cases hy
  refine⟨b,c,by rw[List.getElem?_append_right (by rw[h.len];exact Nat.le_refl _),h.len];simp,fun q z hz=>by rw[hC.cell (p:=⟨b,0+q,none⟩) hb2 hb3];exact hE q z hz,hb1,by omega,?_⟩;rcases hat with q|q
  ·rw[q];exact hb3
  ·omega
 ·obtain⟨b',c',h1,h2,h3,h4,h5⟩:=h.txt j y (by omega) hy;refine⟨b',c',by rw[List.getElem?_append_left (by rw[h.len];omega)];exact h1,fun q z hz=>by rw[hC.cell (p:=⟨b',0+q,none⟩) h4 h5];exact h2 q z hz,h3,by omega,?_⟩;rcases hat with q|q
  ·rw[q];exact h5
  ·omega
theorem yM3 (op:Int) (i:Nat) (kid:Int) (w:World):Calls Tryz.prog 82 #[.int .i64 op,.int .i64 (i:Int),.int .i64 kid] w fun e w'=>e=.returned (.bool (yGx op i kid))∧w'=w:=by
 by_cases h16:op=16
 ·subst h16;have H:Hid (yGx 16 i kid=false):=by show _=_;unfold yGx;rw[if_pos rfl]
  go_enter Tryz.func82,Tryz.ntmps82;go_wp2_with fail;go_ret;exact⟨by rw[H.out];rfl,rfl⟩
 ·have:=yKi op i kid w h16;rw[show yGx op i kid=yBf op i kid by unfold yGx;rw[if_neg h16]];exact this
theorem yZk {k:List Nd} (h:TrV yA4 [x] k):∃ys n,k=ys++ [n]∧x.1=n.kind:=by obtain⟨ys,n,os,rfl,_,_,hx⟩:=TrV.inv _ h;exact⟨ys,n,rfl,by rw[hx];rfl⟩
theorem yVt {ks:List (List Nd)} (h:KidV yA4 os ks) (hg:∀e∈ks.flatten,LooN e∧NumN e):yCw os≤410000*ks.flatten.length:=by
 induction h with
 |nil=>simp[yCw]
 | @cons o os k ks h1 t ih=>
   have h2:=yKz h1 (fun e he=>hg e (by simp[he]));have h3:=ih (fun e he=>hg e (by simp only[List.flatten_cons,List.mem_append];exact .inr he));have h4:yCw (o::os)=yCw [o]+yCw os:=yCz [o] os;simp only[List.flatten_cons,List.length_append];omega
theorem yIr (h:os[j]?=some x):x.2.length≤yCw os:=by obtain⟨a,b,rfl⟩:=List.append_of_mem (List.mem_of_getElem? h);rw[yCz];simp[yCw];omega
theorem yIa (k:Int) (h:os[j]?=some x):yBx k 0 (os.take (j+1))=yBx k 0 (os.take j)++((if j=0 then []else sepM k)++yAw k j x):=by have hj:=(List.getElem?_eq_some_iff.1 h).1;rw[List.take_add_one,h];simp only[Option.toList];rw[yK6,List.length_take,Nat.min_eq_left (by omega),Nat.zero_add]
theorem yH7 (os:List PT) (j:Nat):yCw (os.take j)≤yCw os:=by
 conv=>rhs;rw[←List.take_append_drop j os,yCz]
 omega
theorem yYf {n:Nat} (H:TxC n):TxC (n+1):=by
 intro w b o cap xs y hn hn2 hW hS hG;obtain⟨ys,e,os,rfl,hal,hS2,hs⟩:=TrV.inv _ hS;obtain⟨ks,rfl,hK⟩:=TrV.kids _ hS2;have hlen:=KidV.length _ hK;obtain⟨m,hm⟩:=qE ks.flatten.length;obtain⟨a3,ha3⟩:=qE ks.length;have hk3:a3≤3:=by rw[ha3,←hlen,hal];exact yFb _
 simp only[List.length_append,List.length_singleton]at hn hn2;have hGe:=hG e (by simp);have hGk:∀q∈ks.flatten,LooN q∧NumN q:=fun q hq=>hG q (by simp[hq]);have hsz:=yVt hK hGk;obtain⟨Y,hY⟩:=qE y.2;have HF:Hid (Win w b o cap (ks.flatten++ [e])∧KidV yA4 os ks∧os.length=yAo e.kind∧os.length=ks.length∧a3=ks.length∧ks.flatten.length+1≤1000∧TxC n∧ks.flatten.length≤n∧(∀q∈ks.flatten,LooN q∧NumN q)∧LooN e∧NumN e∧yCw os≤500000000∧Y=(yA4 e os).2):=⟨hW,hK,hal,hlen,ha3,hn2,H,by omega,hGk,hGe.1,hGe.2,by omega,by rw[hY,hs]⟩;have hcap:=hW.cap;have hbw:=hW.lt;have hbig:m+1≤cap:=by have:=hW.len;rw[List.length_append,List.length_singleton]at this;omega
 have HT:Hid (∀wx,Below w.heap.size w wx→Calls Tryz.prog 80 #[.slice (some ⟨b,o,none⟩) (m+1) cap] wx fun r w'=>r=.returned (.int .i64 e.kind)∧w'=wx):=fun wx hx=>by rw[hm];exact yK5 (hW.below hx)
 have HKs:Hid (Calls Tryz.prog 81 #[.slice (some ⟨b,o,none⟩) (m+1) cap] w fun r w'=>∃g cp,r=.returned (.slice (some ⟨g,0,none⟩) a3 cp)∧OwnV w' w.heap.size g cp (yE3 b o cap ks)∧Below w.heap.size w w'):=by rw[ha3,hm];exact yOd hW (by omega) (KidV.tree _ hK)
 rw[List.length_append,List.length_singleton,←hm,←hY];have z1:(0:Int)≤(m:Int):=by omega
 have z3:(m:Int)+1≤(cap:Int):=by omega
 have hza:a3=yAo e.kind:=by rw[ha3,←hlen,hal]
 have HA:Hid (a3=yAo e.kind∧m=ks.flatten.length):=⟨hza,hm⟩;clear hW hS hS2 hK hs hal hlen H hm hn hn2 hGe hGk hsz hY hG ha3 hza;go_enter Tryz.func41,Tryz.ntmps41;go_wp2_with fail;refine(HT.out w (Below.refl _ _)).mono ?_;rintro r w1' ⟨rfl,hw1⟩;rw[hw1];clear hw1;go_wp2_with fail;refine HKs.mono ?_;rintro r w1 ⟨kg,kc,rfl,hO,hb1⟩;have s1:=hb1.size;by_cases hz:a3=0
 ·subst hz;obtain⟨rfl,rfl⟩:ks= []∧os= []:=by have h1:=HF.2.2.2.2.1;have h2:=HF.2.2.2.1;have h3:ks= []:=List.length_eq_zero_iff.1 h1.symm;rw[h3]at h2;exact⟨h3,List.length_eq_zero_iff.1 h2⟩
  have hm0:m=0:=HA.2;subst hm0;obtain⟨d0,d1,d2,d3,d4,d5,d6⟩:=(HF.1.at_.below hb1 hbw) 0 e rfl;simp only[Nat.zero_mul,Nat.add_zero]at d0 d1 d2 d3 d4 d5 d6;have HL:Hid (Calls Tryz.prog 83 #[.agg #[.int .i64 e.kind,.string e.s,.bool e.hi,.string e.t,.int .u64 e.lo,.int .u64 e.up,.int .i64 e.n]] w1 (LtP Y w1)):=by have h9:=yJk e w1 HF.2.2.2.2.2.2.2.2.2.1 HF.2.2.2.2.2.2.2.2.2.2.1 HA.1.symm;rw[show Y=yBi e by rw[HF.2.2.2.2.2.2.2.2.2.2.2.2];simp[yA4]];exact h9
  go_wp2_with fail;refine HL.mono ?_;rintro r w2 ⟨g2,c2,rfl,hW2,hb2⟩;have HR:Hid (TxP Y w (.returned (.slice (some ⟨g2,0,none⟩) Y.length c2)) w2):=⟨g2,c2,rfl,hW2.mono s1,hb1.trans (hb2.mono s1)⟩;clear hW2 hb2;go_wp2_with fail;go_ret;exact HR.out
 ·have za:((a3:Int)==0)=false:=by rw[beq_eq_false_iff_ne];omega
  obtain⟨W2,hW2⟩:=qE (w1.alloc (Obj.cells #[] 22):World);have hb2:Below w1.heap.size w1 W2:=by rw[hW2];exact qB
  have HJ0:Hid (TxJ w e.kind os kg kc (yE3 b o cap ks) 0 w1.heap.size 0 [] W2):=by refine⟨hO.below hb2,?_,by have:=hO.lt.2;omega,rfl,fun j x hj=>by omega,hb1.trans (hb2.mono s1)⟩;rw[hW2];exact ySb w1 s1
  clear hO hb1 HKs hb2 hz;go_upto_region 6 with fail;rw[←hW2];clear hW2;go_wp2_with fail;go_loopw[5,6] (fun pv iv wr=>∃(i g cp:Nat) (us:List Value),i≤a3∧iv=.int .i64 i∧pv=.slice (some ⟨g,0,none⟩) i cp∧Hid (TxJ w e.kind os kg kc (yE3 b o cap ks) i g cp us wr)) (fun _ iv _=>a3-(intOf iv).toNat);case atStart=>exact⟨0,_,0,[],Nat.zero_le _,rfl,rfl,HJ0⟩
  case round=>
   obtain⟨i,g,cp,us,hi,rfl,rfl,HJ⟩:=hrel;clear HJ0;have sr:=HJ.below.size;by_cases hlt:i<a3
   ·have zi:(i:Int)<(a3:Int):=by omega
    obtain⟨k,hk⟩:∃k,ks[i]?=some k:=⟨_,List.getElem?_eq_getElem (by have:=HF.2.2.2.2.1;omega)⟩;obtain⟨x,hx,hT⟩:=KidV.nth _ HF.2.1 hk;obtain⟨o',cap',hv,hWk⟩:=yM7 HF.1 hk;have hc:=HJ.kids.cell hv;have hkl:=yLs (List.mem_of_getElem? hk);obtain⟨kl,hkl2⟩:=qE k.length;rw[←hkl2]at hc;have hxl:=yIr hx;have HX:Hid (os[i]?=some x∧x.2.length≤500000000):=⟨hx,by have:=HF.2.2.2.2.2.2.2.2.2.2.2.1;omega⟩;have HC:Hid (Calls Tryz.prog 41 #[.slice (some ⟨b,o',none⟩) kl cap'] wr (TxP x.2 wr)):=by rw[hkl2];exact HF.2.2.2.2.2.2.1 wr b o' cap' k x (by have:=HF.2.2.2.2.2.2.2.1;omega) (by have:=HF.2.2.2.2.2.1;omega) (hWk.below HJ.below) hT (fun q hq=>HF.2.2.2.2.2.2.2.2.1 q (List.mem_flatten.2 ⟨k,List.mem_of_getElem? hk,hq⟩))
    have HTk:Hid (∀wx,Below wr.heap.size wr wx→Calls Tryz.prog 80 #[.slice (some ⟨b,o',none⟩) kl cap'] wx fun r w'=>r=.returned (.int .i64 x.1)∧w'=wx):=fun wx hxx=>by obtain⟨ys',n',hk',hx1⟩:=yZk hT;rw[hkl2,hx1];have hbx:=HJ.below.trans (hxx.mono HJ.below.size);subst hk';rw[List.length_append,List.length_singleton];exact yK5 (hWk.below hbx)
    clear hk hx hT hv hWk hkl hkl2 hxl;go_wp2_with fail;refine HC.mono ?_;rintro r w2 ⟨xg,xc,rfl,hxW,hb2⟩;obtain⟨xk,xt⟩:=x;obtain⟨xl,hxl⟩:=qE xt.length;simp only at hxW HX HTk⊢;rw[←hxl];have s2:=hb2.size;have hc2:w2.cell? ⟨kg,i,none⟩=some (.slice (some ⟨b,o',none⟩) kl cap'):=by rw[hb2.cell (p:=⟨kg,i,none⟩) HJ.kids.lt.2];exact hc
    have HJ2:Hid (TxJ w e.kind os kg kc (yE3 b o cap ks) i g cp us w2∧WrB w2 wr.heap.size xg xc xt∧xl=xt.length):=⟨HJ.move hb2,hxW,hxl⟩;have hxlb:xl≤500000000:=by rw[hxl];exact HX.2
    have hTc:=HTk.out w2 hb2;have HTc:Hid (Calls Tryz.prog 80 #[.slice (some ⟨b,o',none⟩) kl cap'] w2 fun r w'=>r=.returned (.int .i64 xk)∧w'=w2):=hTc;have hxg:=hxW.lt;have hxg2:=hxW.le;have hgg:=HJ.own.lt.2;clear hxW hc hb2 hxl hTc HTk;obtain⟨WB,hWB⟩:=qE (yGx e.kind i xk:Bool);have HWr:Hid (Calls Tryz.prog 82 #[.int .i64 e.kind,.int .i64 (i:Int),.int .i64 xk] w2 fun e w'=>e=.returned (.bool WB)∧w'=w2):=by rw[hWB];exact yM3 e.kind i xk w2
    have HWT:Hid (yAw e.kind i (xk,xt)=if WB=true then [40]++xt++ [41]else xt):=by show _=_;unfold yAw;rw[hWB]
    clear hWB;go_wp2_with fail;refine HTc.mono ?_;rintro r w3 ⟨rfl,hw3⟩;rw[hw3];clear hw3;go_wp2_with fail;refine HWr.mono ?_;rintro r w3 ⟨rfl,hw3⟩;rw[hw3];clear hw3 HTc HWr HC;cases WB
    case false=>
     have HWt:Hid (yAw e.kind i (xk,xt)=xt):=by show _=_;rw[HWT.out];rfl
     obtain⟨Vf,hVf⟩:=qE (w2.alloc (Obj.cells #[.slice (some ⟨xg,0,none⟩) xl xc] 22):World);have hbf:Below w2.heap.size w2 Vf:=by rw[hVf];exact qB
     have sVf:=hbf.size;have HVf:Hid (TxJ w e.kind os kg kc (yE3 b o cap ks) i g cp us Vf∧Vf.cell? ⟨w2.heap.size,0,none⟩=some (.slice (some ⟨xg,0,none⟩) xl xc)∧yAe Vf xg 0 (yAw e.kind i (xk,xt))∧xl=(yAw e.kind i (xk,xt)).length):=by
      refine⟨HJ2.1.move hbf,by rw[hVf];simp,?_,?_⟩
      ·rw[HWt.out];exact(HJ2.2.1.below hbf).at_
      ·rw[HWt.out];exact HJ2.2.2
     clear hbf;go_wp2_with (at_builtin;(try rw[←hVf]);refine yFf _ rfl _ _ rfl w.heap.size g cp i w2.heap.size us (.slice (some ⟨xg,0,none⟩) xl xc) rfl rfl HVf.1.len.symm HVf.1.own HVf.2.1 rfl ?hlf ?hbf ?_);case hlf=>rw[HVf.1.len];omega
     case hbf=>have:=HVf.1.below.size;omega
     intro g5 c5 w5 hO5 hgr5' hat5';have hgr5:Vf.grownBy w5 (some g):=by first|exact hgr5'|(rw[hVf];exact hgr5')
     have hat5:g5=g∨g5=Vf.heap.size:=by first|exact hat5'|(rw[hVf];simpa using hat5')
     have HJ5:Hid (TxJ w e.kind os kg kc (yE3 b o cap ks) (i+1) g5 c5 (us++ [.slice (some ⟨xg,0,none⟩) xl xc]) w5):=by have hE:=HVf.2.2.2;have h9:=HVf.1.push (b:=xg) (c:=xc) (x:=(xk,xt)) (g':=g5) (cp':=c5) (w':=w5) (by rw[←hE];exact hO5) hgr5 hat5 HX.1 HVf.2.2.1 (by omega) (by omega) (by omega);rw[←hE]at h9;exact h9
     clear hO5 hgr5 hat5;try clear hgr5'
     try clear hat5'
     try clear hVf
     exact zzQ79
    case true=>
     have HWt:Hid (yAw e.kind i (xk,xt)= [40]++xt++ [41]):=by show _=_;rw[HWT.out];rfl
     obtain⟨W3,hW3⟩:=qE (w2.alloc (Obj.cells #[.int .u8 40] 5 (1,2)):World);have kd:Sem.run Tryz.prog (convert 22 22 (.slice (some ⟨w2.heap.size,0,none⟩) 1 1)) (w2.alloc (Obj.cells #[.int .u8 40] 5))=.ok (.slice (some ⟨w2.heap.size,0,none⟩) 1 1) W3:=by rw[hW3];exact Lib.run_convert_bytes_const (P:=Tryz.prog) w2 22 5 #[.int .u8 40] 1 1 Tryz.underlying22 Tryz.underlying5
     have hb3:Below w2.heap.size w2 W3:=by rw[hW3];exact qB
     have HJ3:Hid (TxJ w e.kind os kg kc (yE3 b o cap ks) i g cp us W3∧WrB W3 wr.heap.size xg xc xt∧WrB W3 wr.heap.size w2.heap.size 1 [40]):=by refine⟨HJ2.1.move hb3,HJ2.2.1.below hb3,WrB.full (xs:= [40]) (by omega) (by rw[hW3];simp) ?_ (by simp)⟩;rw[hW3];exact yHv w2 _ [40] _ rfl
     have s3:=hb3.size;have HB3:Hid (Below w2.heap.size w2 W3):=hb3;clear hW3 hb3;go_wp2_with (at_builtin;refine yAa _ rfl _ _ rfl wr.heap.size w2.heap.size 1 1 xg 0 xl xc [40] xt rfl rfl rfl HJ2.2.2 HJ3.2.2 HJ3.2.1.at_ ?hla ?hba ?_);case hla=>rw[←HJ2.2.2];show 1+xl≤_;omega
     case hba=>omega
     intro g4 c4 W4 hW4 hgr4 hat4;have s4:=hgr4.size;have b24:Below w2.heap.size w2 W4:=HB3.grown hgr4 s3 (fun q hq=>by cases hq;exact Nat.le_refl _);have hg4:w2.heap.size≤g4:=by omega
     obtain⟨X4,hX4⟩:∃X4:List UInt8,X4= [40]++xt:=⟨_,rfl⟩;have HX4:Hid (X4= [40]++xt):=hX4;obtain⟨n4,hn4⟩:=qE (1+xl);have HN4:Hid (n4=X4.length):=by show n4=_;rw[hn4,hX4,List.length_append,←HJ2.2.2];rfl
     have hn4b:n4≤500000001:=by omega
     have x4b:X4.length≤500000001:=by rw[←HN4.out];exact hn4b
     try rw[←hn4]
     obtain⟨V4,hV4⟩:=qE (W4.alloc (Obj.cells #[.int .u8 41] 5):World);have hb4:Below W4.heap.size W4 V4:=by rw[hV4];exact qB
     have sv4:=hb4.size;have HJ4:Hid (WrB V4 wr.heap.size g4 c4 X4∧yAe V4 W4.heap.size 0 [41]∧Below w2.heap.size w2 V4):=by refine⟨by rw[hX4];exact hW4.below hb4,?_,b24.trans (hb4.mono (by omega))⟩;rw[hV4];exact yAp W4 _ [41] rfl
     clear hW4 hgr4 hat4 hX4 hb4 b24 kd hn4;go_wp2_with (at_builtin;(try rw[←hV4]);refine yAa _ rfl _ _ rfl wr.heap.size g4 c4 n4 W4.heap.size 0 1 1 X4 [41] rfl rfl HN4.out rfl HJ4.1 HJ4.2.1 ?hld ?hbd ?_);case hld=>first|omega|(show X4.length+1≤_;omega)
     case hbd=>omega
     intro g6 c6 W6 hW6 hgr6' hat6;have hgr6:V4.grownBy W6 (some g4):=by first|exact hgr6'|(rw[hV4];exact hgr6')
     have s6:=hgr6.size;have b26:Below w2.heap.size w2 W6:=HJ4.2.2.grown hgr6 (by omega) (fun q hq=>by cases hq;exact hg4);obtain⟨X6,hX6⟩:∃X6:List UInt8,X6=X4++ [41]:=⟨_,rfl⟩;obtain⟨n6,hn6⟩:=qE (n4+1);have HJ6:Hid (TxJ w e.kind os kg kc (yE3 b o cap ks) i g cp us W6∧WrB W6 wr.heap.size g6 c6 X6∧n6=X6.length∧ [40]++xt++ [41]=X6):=⟨HJ2.1.move b26,by rw[hX6];exact hW6,by rw[hn6,hX6,List.length_append,←HN4.out];rfl,by rw[hX6,HX4.out]⟩;have hg6:g6<W6.heap.size:=hW6.lt;have hg6b:wr.heap.size≤g6:=hW6.le;try rw[←hn6]
     clear hW6 hgr6 hat6 hX6 b26 hn6;try clear hgr6'
     try clear hV4
     obtain⟨Vt,hVt⟩:=qE (W6.alloc (Obj.cells #[.slice (some ⟨g6,0,none⟩) n6 c6] 22):World);have hbt:Below W6.heap.size W6 Vt:=by rw[hVt];exact qB
     have sVt:=hbt.size;have HVt:Hid (TxJ w e.kind os kg kc (yE3 b o cap ks) i g cp us Vt∧Vt.cell? ⟨W6.heap.size,0,none⟩=some (.slice (some ⟨g6,0,none⟩) n6 c6)∧yAe Vt g6 0 (yAw e.kind i (xk,xt))∧n6=(yAw e.kind i (xk,xt)).length):=by
      refine⟨HJ6.1.move hbt,by rw[hVt];simp,?_,?_⟩
      ·rw[HWt.out];exact((show WrB W6 wr.heap.size g6 c6 ([40]++xt++ [41])by rw[HJ6.2.2.2];exact HJ6.2.1).below hbt).at_
      ·rw[HWt.out];rw[HJ6.2.2.2];exact HJ6.2.2.1
     clear hbt;go_wp2_with (at_builtin;(try rw[←hVt]);refine yFf _ rfl _ _ rfl w.heap.size g cp i W6.heap.size us (.slice (some ⟨g6,0,none⟩) n6 c6) rfl rfl HVt.1.len.symm HVt.1.own HVt.2.1 rfl ?hlt ?hbt ?_);case hlt=>rw[HVt.1.len];omega
     case hbt=>have:=HVt.1.below.size;omega
     intro g5 c5 w5 hO5 hgr5' hat5';have hgr5:Vt.grownBy w5 (some g):=by first|exact hgr5'|(rw[hVt];exact hgr5')
     have hat5:g5=g∨g5=Vt.heap.size:=by first|exact hat5'|(rw[hVt];simpa using hat5')
     have HJ5:Hid (TxJ w e.kind os kg kc (yE3 b o cap ks) (i+1) g5 c5 (us++ [.slice (some ⟨g6,0,none⟩) n6 c6]) w5):=by have hE:=HVt.2.2.2;have h9:=HVt.1.push (b:=g6) (c:=c6) (x:=(xk,xt)) (g':=g5) (cp':=c5) (w':=w5) (by rw[←hE];exact hO5) hgr5 hat5 HX.1 HVt.2.2.1 (by omega) (by omega) (by omega);rw[←hE]at h9;exact h9
     clear hO5 hgr5 hat5;try clear hgr5'
     try clear hat5'
     try clear hVt
     exact zzQ79
   ·have zi:¬(i:Int)<(a3:Int):=by omega
    have hia:a3=i:=by omega
    subst hia;have hk3:e.kind=14∨e.kind=15∨e.kind=16:=by
     have h1:=HA.1;unfold yAo at h1;by_cases q:e.kind=14∨e.kind=15
     ·omega
     ·by_cases q2:e.kind=16
      ·exact .inr (.inr q2)
      ·rw[if_neg q,if_neg q2]at h1;exfalso;have:((a3:Int)==0)=true:=by rw[h1];rfl
       rw[za]at this;cases this
    obtain⟨W5,rfl⟩:=qE (wr:World);rcases hk3 with hkk|hkk|hkk
    ·have z15:(e.kind==15)=false:=by rw[hkk];decide
     have z16:(e.kind==16)=false:=by rw[hkk];decide
     have HKK:Hid (e.kind=14):=hkk;have HYY:Hid (Y=([]:List UInt8)++yBx e.kind 0 os++([]:List UInt8)):=by
      show Y=_;rw[HF.2.2.2.2.2.2.2.2.2.2.2.2];have hne:os≠ []:=fun q=>by have h1:=HF.2.2.2.1;have h2:=HF.2.2.2.2.1;rw[q]at h1;simp at h1;have h9:=beq_eq_false_iff_ne.1 za;omega
      simp only[yA4];rw[if_neg hne,hkk];simp
     clear hkk;obtain⟨V0,hV0⟩:=qE (W5.alloc (Obj.cells #[] 5):World);have hb0:Below W5.heap.size W5 V0:=by rw[hV0];exact qB
     have t0:=hb0.size;have HS:Hid (WrB V0 W5.heap.size W5.heap.size 0 []∧Below W5.heap.size W5 V0):=by refine⟨?_,hb0⟩;rw[hV0];exact(yHd W5 (Nat.le_refl _)).wr
     clear hb0;go_upto_region 15 with fail;rw[←hV0];clear hV0;go_wp2_with fail;go_loopw[9,10] (fun ov iv wr=>∃(j og oc nn:Nat) (X:List UInt8),j≤a3∧iv=.int .i64 j∧ov=.slice (some ⟨og,0,none⟩) nn oc∧nn=X.length∧Hid (X=([]:List UInt8)++yBx e.kind 0 (os.take j))∧Hid (WrB wr W5.heap.size og oc X∧Below W5.heap.size W5 wr)) (fun _ iv _=>a3-(intOf iv).toNat);case atStart=>exact⟨0,_,0,0,[],Nat.zero_le _,rfl,rfl,rfl,by show _=_;simp[yBx],HS⟩
     case round=>
      clear HS;obtain⟨j,og,oc,nn,X,hj,rfl,rfl,hnn,HX,HW⟩:=hrel;have HNN:Hid (nn=X.length):=hnn;have hxl:X.length≤500000020:=by
       rw[HX.out,List.length_append];have h1:=yEo e.kind 0 (os.take j);have h2:=yH7 os j;have h3:=HF.2.2.2.2.2.2.2.2.2.2.2.1;have h4:(os.take j).length≤3:=by rw[List.length_take];omega
       have h5:(([]:List UInt8)).length≤3:=by simp
       omega
      have hnl:nn≤500000020:=by omega
      have sq:=HW.2.size;have oql:=HW.1.lt;have oqe:=HW.1.le;clear hnn;by_cases hjl:j<a3
      ·have zj:(j:Int)<(a3:Int):=by omega
       obtain⟨x,hx⟩:∃x,os[j]?=some x:=⟨_,List.getElem?_eq_getElem (by have:=HF.2.2.2.1;have:=HF.2.2.2.2.1;omega)⟩;obtain⟨tb,tc,hu,hE,htb1,htb2,_⟩:=HJ.txt j x hjl hx;obtain⟨tl,htl⟩:=qE ((yAw e.kind j x).length);have hcell:wr.cell? ⟨g,j,none⟩=some (.slice (some ⟨tb,0,none⟩) tl tc):=by rw[HW.2.cell (p:=⟨g,j,none⟩) HJ.own.lt.2,HJ.own.cell hu,htl]
       have htlb:tl≤500000002:=by rw[htl];have h1:=yDl e.kind j x;have h2:=yIr hx;have h3:=HF.2.2.2.2.2.2.2.2.2.2.2.1;omega
       have HX2:Hid (([]:List UInt8)++yBx e.kind 0 (os.take (j+1))=X++((if j=0 then []else sepM e.kind)++yAw e.kind j x)):=by show _=_;rw[yIa e.kind hx,HX.out];simp only[List.append_assoc]
       obtain⟨T,hT⟩:∃T:List UInt8,T=yAw e.kind j x:=⟨_,rfl⟩;rw[←hT]at hE htl HX2;have HT2:Hid (yAe W5 tb 0 T∧tl=T.length):=⟨hE,htl⟩;clear hx hu hE htl hT;by_cases hj0:j=0
       ·have z0:¬(0:Int)<(j:Int):=by omega
        have HX3:Hid (([]:List UInt8)++yBx e.kind 0 (os.take (j+1))=X++T):=by show _=_;rw[HX2.out,if_pos hj0];rfl
        clear hj0;go_wp2_with (at_builtin;refine yAa _ rfl _ _ rfl W5.heap.size og oc nn tb 0 tl tc X T rfl rfl HNN.out HT2.2 HW.1 (HT2.1.below HW.2 htb2) ?hlA14 (by omega) ?_);case hlA14=>rw[←HT2.2];omega
        intro og3 oc3 W8 hW8 hgr8 hat8;obtain⟨n8,hn8⟩:=qE (nn+tl);have HR8:Hid (WrB W8 W5.heap.size og3 oc3 (X++T)∧Below W5.heap.size W5 W8):=⟨hW8,WrB.next HW.2 (by omega) (by omega) hgr8⟩;have HN8:Hid (n8=(X++T).length):=by show _=_;rw[hn8,List.length_append,←HNN.out,←HT2.2]
        obtain⟨X8,hX8⟩:∃X8:List UInt8,X8=X++T:=⟨_,rfl⟩;rw[←hX8]at HR8 HN8;have HX8:Hid (X8=([]:List UInt8)++yBx e.kind 0 (os.take (j+1))):=by show _=_;rw[hX8,HX3.out]
        exact yP2
       ·have z0:(0:Int)<(j:Int):=by omega
        have HX3:Hid (([]:List UInt8)++yBx e.kind 0 (os.take (j+1))=X++ [32,62,32]++T):=by show _=_;rw[HX2.out,if_neg hj0,HKK.out];simp[sepM]
        obtain⟨VS,hVS⟩:=qE (Lib.bytesWorld wr 5 ⟨#[32,62,32]⟩);obtain⟨cs,hcs⟩:=qE (grownCap wr 3 0 5);have hcv:Sem.run Tryz.prog (convert 9 22 (.string ⟨#[32,62,32]⟩)) wr=.ok (.slice (some ⟨wr.heap.size,0,none⟩) 3 cs) VS:=by rw[hVS,hcs];exact Lib.run_convert_string_bytes (P:=Tryz.prog) wr 9 22 5 ⟨#[32,62,32]⟩ Tryz.underlying9 Tryz.underlying22 Tryz.underlying5
        have hbs:=yCy wr ⟨#[32,62,32]⟩;rw[←hVS]at hbs;have svs:=hbs.size;have HVS:Hid (WrB VS W5.heap.size og oc X∧Below W5.heap.size W5 VS∧yAe VS wr.heap.size 0 [32,62,32]):=by refine⟨HW.1.below hbs,HW.2.trans (hbs.mono sq),?_⟩;rw[hVS];exact yHw wr ⟨#[32,62,32]⟩
        clear hVS hcs hbs;go_wp2_with (at_builtin;refine yAa _ rfl _ _ rfl W5.heap.size og oc nn wr.heap.size 0 3 cs X [32,62,32] rfl rfl HNN.out rfl HVS.1 HVS.2.2 ?hlS14 ?hbS14 ?_);case hlS14=>first|omega|(show X.length+3≤_;omega)
        case hbS14=>omega
        intro og2 oc2 W7 hW7 hgr7 hat7;have s7:=hgr7.size;obtain⟨X7,hX7⟩:∃X7:List UInt8,X7=X++ [32,62,32]:=⟨_,rfl⟩;obtain⟨n7,hn7⟩:=qE (nn+3);have HW7:Hid (WrB W7 W5.heap.size og2 oc2 X7∧Below W5.heap.size W5 W7):=⟨by rw[hX7];exact hW7,WrB.next HVS.2.1 (by omega) oqe hgr7⟩;have HN7:Hid (n7=X7.length):=by show _=_;rw[hn7,hX7,List.length_append,←HNN.out];rfl
        have HX7:Hid (([]:List UInt8)++yBx e.kind 0 (os.take (j+1))=X7++T):=by show _=_;rw[HX3.out,hX7]
        have x7:X7.length≤500000023:=by rw[hX7,List.length_append];show X.length+3≤_;omega
        have o7:=HW7.1.lt;have o7e:=HW7.1.le;have hcell7:W7.cell? ⟨g,j,none⟩=some (.slice (some ⟨tb,0,none⟩) tl tc):=by have h8:=HW7.2.cell (p:=⟨g,j,none⟩) HJ.own.lt.2;rw[h8,←HW.2.cell (p:=⟨g,j,none⟩) HJ.own.lt.2];exact hcell
        try rw[←hn7]
        clear hW7 hgr7 hat7 hX7 hn7 hcv hcell;go_wp2_with (at_builtin;refine yAa _ rfl _ _ rfl W5.heap.size og2 oc2 n7 tb 0 tl tc X7 T rfl rfl HN7.out HT2.2 HW7.1 (HT2.1.below HW7.2 htb2) ?hlB14 (by omega) ?_);case hlB14=>rw[←HT2.2];omega
        intro og3 oc3 W8 hW8 hgr8 hat8;obtain⟨n8,hn8⟩:=qE (n7+tl);have HR8:Hid (WrB W8 W5.heap.size og3 oc3 (X7++T)∧Below W5.heap.size W5 W8):=⟨hW8,WrB.next HW7.2 (by omega) (by omega) hgr8⟩;have HN8:Hid (n8=(X7++T).length):=by show _=_;rw[hn8,List.length_append,←HN7.out,←HT2.2]
        obtain⟨X8,hX8⟩:∃X8:List UInt8,X8=X7++T:=⟨_,rfl⟩;rw[←hX8]at HR8 HN8;have HX8:Hid (X8=([]:List UInt8)++yBx e.kind 0 (os.take (j+1))):=by show _=_;rw[hX8,HX7.out]
        exact yP2
      ·exact zzQ36
    ·have z15:(e.kind==15)=true:=by rw[hkk];decide
     have z16:(e.kind==16)=false:=by rw[hkk];decide
     have HKK:Hid (e.kind=15):=hkk;have HYY:Hid (Y=([]:List UInt8)++yBx e.kind 0 os++([]:List UInt8)):=by
      show Y=_;rw[HF.2.2.2.2.2.2.2.2.2.2.2.2];have hne:os≠ []:=fun q=>by have h1:=HF.2.2.2.1;have h2:=HF.2.2.2.2.1;rw[q]at h1;simp at h1;have h9:=beq_eq_false_iff_ne.1 za;omega
      simp only[yA4];rw[if_neg hne,hkk];simp
     clear hkk;obtain⟨V0,hV0⟩:=qE (W5.alloc (Obj.cells #[] 5):World);have hb0:Below W5.heap.size W5 V0:=by rw[hV0];exact qB
     have t0:=hb0.size;have HS:Hid (WrB V0 W5.heap.size W5.heap.size 0 []∧Below W5.heap.size W5 V0):=by refine⟨?_,hb0⟩;rw[hV0];exact(yHd W5 (Nat.le_refl _)).wr
     clear hb0;go_upto_region 15 with fail;rw[←hV0];clear hV0;go_wp2_with fail;go_loopw[9,10] (fun ov iv wr=>∃(j og oc nn:Nat) (X:List UInt8),j≤a3∧iv=.int .i64 j∧ov=.slice (some ⟨og,0,none⟩) nn oc∧nn=X.length∧Hid (X=([]:List UInt8)++yBx e.kind 0 (os.take j))∧Hid (WrB wr W5.heap.size og oc X∧Below W5.heap.size W5 wr)) (fun _ iv _=>a3-(intOf iv).toNat);case atStart=>exact⟨0,_,0,0,[],Nat.zero_le _,rfl,rfl,rfl,by show _=_;simp[yBx],HS⟩
     case round=>
      clear HS;obtain⟨j,og,oc,nn,X,hj,rfl,rfl,hnn,HX,HW⟩:=hrel;have HNN:Hid (nn=X.length):=hnn;have hxl:X.length≤500000020:=by
       rw[HX.out,List.length_append];have h1:=yEo e.kind 0 (os.take j);have h2:=yH7 os j;have h3:=HF.2.2.2.2.2.2.2.2.2.2.2.1;have h4:(os.take j).length≤3:=by rw[List.length_take];omega
       have h5:(([]:List UInt8)).length≤3:=by simp
       omega
      have hnl:nn≤500000020:=by omega
      have sq:=HW.2.size;have oql:=HW.1.lt;have oqe:=HW.1.le;clear hnn;by_cases hjl:j<a3
      ·have zj:(j:Int)<(a3:Int):=by omega
       obtain⟨x,hx⟩:∃x,os[j]?=some x:=⟨_,List.getElem?_eq_getElem (by have:=HF.2.2.2.1;have:=HF.2.2.2.2.1;omega)⟩;obtain⟨tb,tc,hu,hE,htb1,htb2,_⟩:=HJ.txt j x hjl hx;obtain⟨tl,htl⟩:=qE ((yAw e.kind j x).length);have hcell:wr.cell? ⟨g,j,none⟩=some (.slice (some ⟨tb,0,none⟩) tl tc):=by rw[HW.2.cell (p:=⟨g,j,none⟩) HJ.own.lt.2,HJ.own.cell hu,htl]
       have htlb:tl≤500000002:=by rw[htl];have h1:=yDl e.kind j x;have h2:=yIr hx;have h3:=HF.2.2.2.2.2.2.2.2.2.2.2.1;omega
       have HX2:Hid (([]:List UInt8)++yBx e.kind 0 (os.take (j+1))=X++((if j=0 then []else sepM e.kind)++yAw e.kind j x)):=by show _=_;rw[yIa e.kind hx,HX.out];simp only[List.append_assoc]
       obtain⟨T,hT⟩:∃T:List UInt8,T=yAw e.kind j x:=⟨_,rfl⟩;rw[←hT]at hE htl HX2;have HT2:Hid (yAe W5 tb 0 T∧tl=T.length):=⟨hE,htl⟩;clear hx hu hE htl hT;by_cases hj0:j=0
       ·have z0:¬(0:Int)<(j:Int):=by omega
        have HX3:Hid (([]:List UInt8)++yBx e.kind 0 (os.take (j+1))=X++T):=by show _=_;rw[HX2.out,if_pos hj0];rfl
        clear hj0;go_wp2_with (at_builtin;refine yAa _ rfl _ _ rfl W5.heap.size og oc nn tb 0 tl tc X T rfl rfl HNN.out HT2.2 HW.1 (HT2.1.below HW.2 htb2) ?hlA15 (by omega) ?_);case hlA15=>rw[←HT2.2];omega
        intro og3 oc3 W8 hW8 hgr8 hat8;obtain⟨n8,hn8⟩:=qE (nn+tl);have HR8:Hid (WrB W8 W5.heap.size og3 oc3 (X++T)∧Below W5.heap.size W5 W8):=⟨hW8,WrB.next HW.2 (by omega) (by omega) hgr8⟩;have HN8:Hid (n8=(X++T).length):=by show _=_;rw[hn8,List.length_append,←HNN.out,←HT2.2]
        obtain⟨X8,hX8⟩:∃X8:List UInt8,X8=X++T:=⟨_,rfl⟩;rw[←hX8]at HR8 HN8;have HX8:Hid (X8=([]:List UInt8)++yBx e.kind 0 (os.take (j+1))):=by show _=_;rw[hX8,HX3.out]
        exact yP2
       ·have z0:(0:Int)<(j:Int):=by omega
        have HX3:Hid (([]:List UInt8)++yBx e.kind 0 (os.take (j+1))=X++ [32,124,32]++T):=by show _=_;rw[HX2.out,if_neg hj0,HKK.out];simp[sepM]
        obtain⟨VS,hVS⟩:=qE (Lib.bytesWorld wr 5 ⟨#[32,124,32]⟩);obtain⟨cs,hcs⟩:=qE (grownCap wr 3 0 5);have hcv:Sem.run Tryz.prog (convert 9 22 (.string ⟨#[32,124,32]⟩)) wr=.ok (.slice (some ⟨wr.heap.size,0,none⟩) 3 cs) VS:=by rw[hVS,hcs];exact Lib.run_convert_string_bytes (P:=Tryz.prog) wr 9 22 5 ⟨#[32,124,32]⟩ Tryz.underlying9 Tryz.underlying22 Tryz.underlying5
        have hbs:=yCy wr ⟨#[32,124,32]⟩;rw[←hVS]at hbs;have svs:=hbs.size;have HVS:Hid (WrB VS W5.heap.size og oc X∧Below W5.heap.size W5 VS∧yAe VS wr.heap.size 0 [32,124,32]):=by refine⟨HW.1.below hbs,HW.2.trans (hbs.mono sq),?_⟩;rw[hVS];exact yHw wr ⟨#[32,124,32]⟩
        clear hVS hcs hbs;go_wp2_with (at_builtin;refine yAa _ rfl _ _ rfl W5.heap.size og oc nn wr.heap.size 0 3 cs X [32,124,32] rfl rfl HNN.out rfl HVS.1 HVS.2.2 ?hlS15 ?hbS15 ?_);case hlS15=>first|omega|(show X.length+3≤_;omega)
        case hbS15=>omega
        intro og2 oc2 W7 hW7 hgr7 hat7;have s7:=hgr7.size;obtain⟨X7,hX7⟩:∃X7:List UInt8,X7=X++ [32,124,32]:=⟨_,rfl⟩;obtain⟨n7,hn7⟩:=qE (nn+3);have HW7:Hid (WrB W7 W5.heap.size og2 oc2 X7∧Below W5.heap.size W5 W7):=⟨by rw[hX7];exact hW7,WrB.next HVS.2.1 (by omega) oqe hgr7⟩;have HN7:Hid (n7=X7.length):=by show _=_;rw[hn7,hX7,List.length_append,←HNN.out];rfl
        have HX7:Hid (([]:List UInt8)++yBx e.kind 0 (os.take (j+1))=X7++T):=by show _=_;rw[HX3.out,hX7]
        have x7:X7.length≤500000023:=by rw[hX7,List.length_append];show X.length+3≤_;omega
        have o7:=HW7.1.lt;have o7e:=HW7.1.le;have hcell7:W7.cell? ⟨g,j,none⟩=some (.slice (some ⟨tb,0,none⟩) tl tc):=by have h8:=HW7.2.cell (p:=⟨g,j,none⟩) HJ.own.lt.2;rw[h8,←HW.2.cell (p:=⟨g,j,none⟩) HJ.own.lt.2];exact hcell
        try rw[←hn7]
        clear hW7 hgr7 hat7 hX7 hn7 hcv hcell;go_wp2_with (at_builtin;refine yAa _ rfl _ _ rfl W5.heap.size og2 oc2 n7 tb 0 tl tc X7 T rfl rfl HN7.out HT2.2 HW7.1 (HT2.1.below HW7.2 htb2) ?hlB15 (by omega) ?_);case hlB15=>rw[←HT2.2];omega
        intro og3 oc3 W8 hW8 hgr8 hat8;obtain⟨n8,hn8⟩:=qE (n7+tl);have HR8:Hid (WrB W8 W5.heap.size og3 oc3 (X7++T)∧Below W5.heap.size W5 W8):=⟨hW8,WrB.next HW7.2 (by omega) (by omega) hgr8⟩;have HN8:Hid (n8=(X7++T).length):=by show _=_;rw[hn8,List.length_append,←HN7.out,←HT2.2]
        obtain⟨X8,hX8⟩:∃X8:List UInt8,X8=X7++T:=⟨_,rfl⟩;rw[←hX8]at HR8 HN8;have HX8:Hid (X8=([]:List UInt8)++yBx e.kind 0 (os.take (j+1))):=by show _=_;rw[hX8,HX7.out]
        exact yP2
      ·exact zzQ36
    ·have z15:(e.kind==15)=false:=by rw[hkk];decide
     have z16:(e.kind==16)=true:=by rw[hkk];decide
     have HKK:Hid (e.kind=16):=hkk;have HYY:Hid (Y= [105,102,40]++yBx e.kind 0 os++ [41]):=by
      show Y=_;rw[HF.2.2.2.2.2.2.2.2.2.2.2.2];have hne:os≠ []:=fun q=>by have h1:=HF.2.2.2.1;have h2:=HF.2.2.2.2.1;rw[q]at h1;simp at h1;have h9:=beq_eq_false_iff_ne.1 za;omega
      simp only[yA4];rw[if_neg hne,hkk];simp
     clear hkk;obtain⟨V0,hV0⟩:=qE (W5.alloc (Obj.cells #[] 5):World);have hb0:Below W5.heap.size W5 V0:=by rw[hV0];exact qB
     have t0:=hb0.size;obtain⟨V1,hV1⟩:=qE (V0.alloc (Obj.cells #[.int .u8 105,.int .u8 102,.int .u8 40] 5 (3,4)):World);have kd:Sem.run Tryz.prog (convert 22 22 (.slice (some ⟨V0.heap.size,0,none⟩) 3 3)) (V0.alloc (Obj.cells #[.int .u8 105,.int .u8 102,.int .u8 40] 5))=.ok (.slice (some ⟨V0.heap.size,0,none⟩) 3 3) V1:=by rw[hV1];exact Lib.run_convert_bytes_const (P:=Tryz.prog) V0 22 5 #[.int .u8 105,.int .u8 102,.int .u8 40] 3 3 Tryz.underlying22 Tryz.underlying5
     have hb1':Below V0.heap.size V0 V1:=by rw[hV1];exact qB
     have HS:Hid (WrB V1 W5.heap.size V0.heap.size 3 [105,102,40]∧Below W5.heap.size W5 V1):=by refine⟨WrB.full (xs:= [105,102,40]) t0 (by rw[hV1];simp) ?_ (by simp),hb0.trans (hb1'.mono t0)⟩;rw[hV1];exact yHv V0 _ [105,102,40] _ rfl
     clear hV1 hb1' hb0;go_upto_region 15 with fail;rw[←hV0];clear hV0;go_wp2_with fail;clear kd;go_loopw[9,10] (fun ov iv wr=>∃(j og oc nn:Nat) (X:List UInt8),j≤a3∧iv=.int .i64 j∧ov=.slice (some ⟨og,0,none⟩) nn oc∧nn=X.length∧Hid (X= [105,102,40]++yBx e.kind 0 (os.take j))∧Hid (WrB wr W5.heap.size og oc X∧Below W5.heap.size W5 wr)) (fun _ iv _=>a3-(intOf iv).toNat);case atStart=>exact⟨0,_,3,3,[105,102,40],Nat.zero_le _,rfl,rfl,rfl,by show _=_;simp[yBx],HS⟩
     case round=>
      clear HS;obtain⟨j,og,oc,nn,X,hj,rfl,rfl,hnn,HX,HW⟩:=hrel;have HNN:Hid (nn=X.length):=hnn;have hxl:X.length≤500000020:=by
       rw[HX.out,List.length_append];have h1:=yEo e.kind 0 (os.take j);have h2:=yH7 os j;have h3:=HF.2.2.2.2.2.2.2.2.2.2.2.1;have h4:(os.take j).length≤3:=by rw[List.length_take];omega
       have h5:([105,102,40]).length≤3:=by simp
       omega
      have hnl:nn≤500000020:=by omega
      have sq:=HW.2.size;have oql:=HW.1.lt;have oqe:=HW.1.le;clear hnn;by_cases hjl:j<a3
      ·have zj:(j:Int)<(a3:Int):=by omega
       obtain⟨x,hx⟩:∃x,os[j]?=some x:=⟨_,List.getElem?_eq_getElem (by have:=HF.2.2.2.1;have:=HF.2.2.2.2.1;omega)⟩;obtain⟨tb,tc,hu,hE,htb1,htb2,_⟩:=HJ.txt j x hjl hx;obtain⟨tl,htl⟩:=qE ((yAw e.kind j x).length);have hcell:wr.cell? ⟨g,j,none⟩=some (.slice (some ⟨tb,0,none⟩) tl tc):=by rw[HW.2.cell (p:=⟨g,j,none⟩) HJ.own.lt.2,HJ.own.cell hu,htl]
       have htlb:tl≤500000002:=by rw[htl];have h1:=yDl e.kind j x;have h2:=yIr hx;have h3:=HF.2.2.2.2.2.2.2.2.2.2.2.1;omega
       have HX2:Hid ([105,102,40]++yBx e.kind 0 (os.take (j+1))=X++((if j=0 then []else sepM e.kind)++yAw e.kind j x)):=by show _=_;rw[yIa e.kind hx,HX.out];simp only[List.append_assoc]
       obtain⟨T,hT⟩:∃T:List UInt8,T=yAw e.kind j x:=⟨_,rfl⟩;rw[←hT]at hE htl HX2;have HT2:Hid (yAe W5 tb 0 T∧tl=T.length):=⟨hE,htl⟩;clear hx hu hE htl hT;by_cases hj0:j=0
       ·have z0:¬(0:Int)<(j:Int):=by omega
        have HX3:Hid ([105,102,40]++yBx e.kind 0 (os.take (j+1))=X++T):=by show _=_;rw[HX2.out,if_pos hj0];rfl
        clear hj0;go_wp2_with (at_builtin;refine yAa _ rfl _ _ rfl W5.heap.size og oc nn tb 0 tl tc X T rfl rfl HNN.out HT2.2 HW.1 (HT2.1.below HW.2 htb2) ?hlA16 (by omega) ?_);case hlA16=>rw[←HT2.2];omega
        intro og3 oc3 W8 hW8 hgr8 hat8;obtain⟨n8,hn8⟩:=qE (nn+tl);have HR8:Hid (WrB W8 W5.heap.size og3 oc3 (X++T)∧Below W5.heap.size W5 W8):=⟨hW8,WrB.next HW.2 (by omega) (by omega) hgr8⟩;have HN8:Hid (n8=(X++T).length):=by show _=_;rw[hn8,List.length_append,←HNN.out,←HT2.2]
        obtain⟨X8,hX8⟩:∃X8:List UInt8,X8=X++T:=⟨_,rfl⟩;rw[←hX8]at HR8 HN8;have HX8:Hid (X8= [105,102,40]++yBx e.kind 0 (os.take (j+1))):=by show _=_;rw[hX8,HX3.out]
        exact yP2
       ·have z0:(0:Int)<(j:Int):=by omega
        have HX3:Hid ([105,102,40]++yBx e.kind 0 (os.take (j+1))=X++ [44,32]++T):=by show _=_;rw[HX2.out,if_neg hj0,HKK.out];simp[sepM]
        obtain⟨VS,hVS⟩:=qE (Lib.bytesWorld wr 5 ⟨#[44,32]⟩);obtain⟨cs,hcs⟩:=qE (grownCap wr 2 0 5);have hcv:Sem.run Tryz.prog (convert 9 22 (.string ⟨#[44,32]⟩)) wr=.ok (.slice (some ⟨wr.heap.size,0,none⟩) 2 cs) VS:=by rw[hVS,hcs];exact Lib.run_convert_string_bytes (P:=Tryz.prog) wr 9 22 5 ⟨#[44,32]⟩ Tryz.underlying9 Tryz.underlying22 Tryz.underlying5
        have hbs:=yCy wr ⟨#[44,32]⟩;rw[←hVS]at hbs;have svs:=hbs.size;have HVS:Hid (WrB VS W5.heap.size og oc X∧Below W5.heap.size W5 VS∧yAe VS wr.heap.size 0 [44,32]):=by refine⟨HW.1.below hbs,HW.2.trans (hbs.mono sq),?_⟩;rw[hVS];exact yHw wr ⟨#[44,32]⟩
        clear hVS hcs hbs;go_wp2_with (at_builtin;refine yAa _ rfl _ _ rfl W5.heap.size og oc nn wr.heap.size 0 2 cs X [44,32] rfl rfl HNN.out rfl HVS.1 HVS.2.2 ?hlS16 ?hbS16 ?_);case hlS16=>first|omega|(show X.length+2≤_;omega)
        case hbS16=>omega
        intro og2 oc2 W7 hW7 hgr7 hat7;have s7:=hgr7.size;obtain⟨X7,hX7⟩:∃X7:List UInt8,X7=X++ [44,32]:=⟨_,rfl⟩;obtain⟨n7,hn7⟩:=qE (nn+2);have HW7:Hid (WrB W7 W5.heap.size og2 oc2 X7∧Below W5.heap.size W5 W7):=⟨by rw[hX7];exact hW7,WrB.next HVS.2.1 (by omega) oqe hgr7⟩;have HN7:Hid (n7=X7.length):=by show _=_;rw[hn7,hX7,List.length_append,←HNN.out];rfl
        have HX7:Hid ([105,102,40]++yBx e.kind 0 (os.take (j+1))=X7++T):=by show _=_;rw[HX3.out,hX7]
        have x7:X7.length≤500000023:=by rw[hX7,List.length_append];show X.length+2≤_;omega
        have o7:=HW7.1.lt;have o7e:=HW7.1.le;have hcell7:W7.cell? ⟨g,j,none⟩=some (.slice (some ⟨tb,0,none⟩) tl tc):=by have h8:=HW7.2.cell (p:=⟨g,j,none⟩) HJ.own.lt.2;rw[h8,←HW.2.cell (p:=⟨g,j,none⟩) HJ.own.lt.2];exact hcell
        try rw[←hn7]
        clear hW7 hgr7 hat7 hX7 hn7 hcv hcell;go_wp2_with (at_builtin;refine yAa _ rfl _ _ rfl W5.heap.size og2 oc2 n7 tb 0 tl tc X7 T rfl rfl HN7.out HT2.2 HW7.1 (HT2.1.below HW7.2 htb2) ?hlB16 (by omega) ?_);case hlB16=>rw[←HT2.2];omega
        intro og3 oc3 W8 hW8 hgr8 hat8;obtain⟨n8,hn8⟩:=qE (n7+tl);have HR8:Hid (WrB W8 W5.heap.size og3 oc3 (X7++T)∧Below W5.heap.size W5 W8):=⟨hW8,WrB.next HW7.2 (by omega) (by omega) hgr8⟩;have HN8:Hid (n8=(X7++T).length):=by show _=_;rw[hn8,List.length_append,←HN7.out,←HT2.2]
        obtain⟨X8,hX8⟩:∃X8:List UInt8,X8=X7++T:=⟨_,rfl⟩;rw[←hX8]at HR8 HN8;have HX8:Hid (X8= [105,102,40]++yBx e.kind 0 (os.take (j+1))):=by show _=_;rw[hX8,HX7.out]
        exact yP2
      ·have zj:¬(j:Int)<(a3:Int):=by omega
       have HXE:Hid (Y=X++ [41]):=by show _=_;have h1:=HX.out;rw[List.take_of_length_le (by have:=HF.2.2.2.1;have:=HF.2.2.2.2.1;omega)]at h1;rw[HYY.out,h1]
       obtain⟨VE,hVE⟩:=qE (wr.alloc (Obj.cells #[.int .u8 41] 5):World);have hbE:Below wr.heap.size wr VE:=by rw[hVE];exact qB
       have sE:=hbE.size;have HVE:Hid (WrB VE W5.heap.size og oc X∧Below W5.heap.size W5 VE∧yAe VE wr.heap.size 0 [41]):=by refine⟨HW.1.below hbE,HW.2.trans (hbE.mono sq),?_⟩;rw[hVE];exact yAp wr _ [41] rfl
       clear hbE;go_wp2_with (at_builtin;(try rw[←hVE]);refine yAa _ rfl _ _ rfl W5.heap.size og oc nn wr.heap.size 0 1 1 X [41] rfl rfl HNN.out rfl HVE.1 HVE.2.2 ?hlE ?hbE ?_);case hlE=>first|omega|(show X.length+1≤_;omega)
       case hbE=>omega
       intro og9 oc9 W9 hW9 hgr9' hat9;have hgr9:VE.grownBy W9 (some og):=by first|exact hgr9'|(rw[hVE];exact hgr9')
       have HRE:Hid (TxP Y w (.returned (.slice (some ⟨og9,0,none⟩) (nn+1) oc9)) W9):=by refine⟨og9,oc9,by rw[HXE.out,List.length_append,←HNN.out];rfl,?_,HJ.below.trans ((WrB.next HVE.2.1 (by omega) oqe hgr9).mono sr)⟩;rw[HXE.out];exact hW9.mono sr
       clear hW9 hgr9 hat9;try clear hgr9'
       try clear hVE
       go_wp2_with fail;go_ret;exact HRE.out
theorem yOz:∀n,TxC n
 |0=>fun w b o cap xs y hn _ _ hS _=>by
  obtain⟨ys,e,os,rfl,_⟩:=TrV.inv _ hS
  simp at hn
 |n+1=>yYf (yOz n)
inductive TkK where
 |word (k:Int)
 |num (n:Int)
 |str (s:ByteArray)
 |sign (b:UInt8)
 |fin
 |bad
structure Tk where
 k:TkK
 pos:Nat
def TkK.isBad:TkK→Bool
 | .bad=>true
 |_=>false
def TkK.isFin:TkK→Bool
 | .fin=>true
 |_=>false
def TkK.isSign (b:UInt8):TkK→Bool
 | .sign c=>c==b
 |_=>false
def TkK.isSort (strs:Bool):TkK→Bool
 | .str _=>strs
 | .num _=> !strs
 |_=>false
def noS:ByteArray:=⟨#[]⟩
def TkK.txt:TkK→ByteArray
 | .str s=>s
 |_=>noS
def TkK.nm:TkK→Int
 | .num n=>n
 |_=>0
abbrev PE:=Int×Nat
abbrev PR (α:Type):=Except PE α
structure Ps where
 ks:List Tk
 made:Nat
 out:List Nd
def hdK:List Tk→TkK
 | []=>.fin
 |k::_=>k.k
def hdA:List Tk→Nat
 | []=>0
 |k::_=>k.pos
def yA9 (ks:List Tk):PR (List Tk):=if(hdK ks.tail).isBad=true then .error (2,hdA ks.tail)else .ok ks.tail
def yAs (b:UInt8) (ks:List Tk):PR (List Tk):=if(hdK ks).isSign b=true then yA9 ks else .error (3,hdA ks)
def yAc (k:Int):Nd:=⟨k,noS,false,noS,0,0,0⟩
def patN (k:Int) (s:ByteArray):Nd:=⟨k,s,false,noS,0,0,0⟩
def cntN (k:Int) (n:Int):Nd:=⟨k,noS,false,noS,0,0,n⟩
def Ps.to (s:Ps) (r:PR (List Tk)):PR Ps:=match r with
 | .error e=>.error e
 | .ok ks=>.ok {s with ks:=ks}
def Ps.add (s:Ps) (n:Nd):Ps:={s with out:=s.out++ [n]}
def yAy (s:Ps):PR Ps:=if s.made<200 then Ps.to {s with made:=s.made+1} (yA9 s.ks)else .error (5,hdA s.ks)
def yAz (d:Nat) (s:Ps):PR Ps:=if(hdK s.ks).isSign 40=true then(if d=0 then .error (4,hdA s.ks)else s.to (yA9 s.ks))else .error (3,hdA s.ks)
def yB5 (s:Ps):PR Ps:=s.to (yAs 41 s.ks)
def yC (s:Ps):PR Ps:=s.to (yAs 44 s.ks)
def upF (k:Int) (strs:Bool) (a:TkK) (ks:List Tk):PR (List Tk×Nd):=
 if(hdK ks).isSort strs=true then
  (if less a.txt (hdK ks).txt∨a.nm<(hdK ks).nm then(match yA9 ks with
   | .error e=>.error e
   | .ok k2=>.ok (k2,⟨k,a.txt,true,(hdK ks).txt,a.nm,(hdK ks).nm,0⟩))else .error (7,hdA ks))
 else .ok (ks,⟨k,a.txt,false,noS,a.nm,0,0⟩)
def yFj (k:Int) (strs:Bool) (a:TkK) (ks:List Tk):PR (List Tk×Nd):=match yAs 46 ks with
 | .error e=>.error e
 | .ok k2=>upF k strs a k2
def yB (k:Int) (strs:Bool) (ks:List Tk):PR (List Tk×Nd):=
 if(hdK ks).isSort strs=true then(match yA9 ks with
  | .error e=>.error e
  | .ok k2=>yFj k strs (hdK ks) k2)else yFj k strs .fin ks
def yDa (k:Int) (ks:List Tk):PR (List Tk×Nd):=
 if k≤3 then .ok (ks,yAc k)
 else if k≤7 then(match hdK ks with
  | .str s=>if(yBg (sb s)).1=0 then(match yA9 ks with
    | .error e=>.error e
    | .ok k2=>.ok (k2,patN k s))else .error (6,hdA ks)
  |_=>.error (3,hdA ks))
 else if k≤9 then yB k true ks
 else if k≤10 then yB k false ks
 else(match hdK ks with
  | .num n=>if 1≤n∧n≤1000 then(match yA9 ks with
    | .error e=>.error e
    | .ok k2=>.ok (k2,cntN k n))else .error (8,hdA ks)
  |_=>.error (3,hdA ks))
def argF (k:Int) (s:Ps):PR Ps:=match yDa k s.ks with
 | .error e=>.error e
 | .ok (ks,n)=>.ok {s with ks:=ks,out:=s.out++ [n]}
def yBp {α β γ:Type} (A:α→PR β→Prop) (B:β→PR γ→Prop) (s:α) (r:PR γ):Prop:=(∃e,A s (.error e)∧r=.error e)∨∃s1,A s (.ok s1)∧B s1 r
def fnR {α β:Type} (f:α→PR β) (s:α) (r:PR β):Prop:=r=f s
inductive yHz (sg:UInt8) (kd:Int) (R:Ps→PR Ps→Prop):Ps→PR Ps→Prop
 |stop {s:Ps} (h:(hdK s.ks).isSign sg=false):yHz sg kd R s (.ok s)
 |e1 {s:Ps} {e:PE} (h:(hdK s.ks).isSign sg=true) (h1:yAy s=.error e):yHz sg kd R s (.error e)
 |e2 {s s1:Ps} {e:PE} (h:(hdK s.ks).isSign sg=true) (h1:yAy s=.ok s1) (h2:R s1 (.error e)):yHz sg kd R s (.error e)
 |more {s s1 s2:Ps} {r:PR Ps} (h:(hdK s.ks).isSign sg=true) (h1:yAy s=.ok s1) (h2:R s1 (.ok s2)) (h3:yHz sg kd R (s2.add (yAc kd)) r):yHz sg kd R s r
def yDf (sg:UInt8) (kd:Int) (R:Ps→PR Ps→Prop):Ps→PR Ps→Prop:=yBp R (yHz sg kd R)
def yDc (F:Ps→PR Ps→Prop) (d:Nat):Ps→PR Ps→Prop:=
 yBp (fnR (yAz d)) (yBp F (yBp (fnR yC) (yBp F (yBp (fnR yC) (yBp F (fnR yB5))))))
def yDb (F:Ps→PR Ps→Prop) (d:Nat) (s:Ps) (r:PR Ps):Prop:=
 ((hdK s.ks).isSign 40=true∧yBp (fnR (yAz d)) (yBp F (fnR yB5)) s r)∨
 (hdK s.ks=.word 16∧yBp (fnR yAy) (yBp (yDc F d) (fnR fun s=>.ok (s.add (yAc 16)))) s r)∨
 (∃k,hdK s.ks=.word k∧¬k=16∧yBp (fnR yAy) (fnR (argF k)) s r)∨
 ((hdK s.ks).isSign 40=false∧(∀k,¬hdK s.ks=.word k)∧r=.error (3,hdA s.ks))
def ChaR (F:Ps→PR Ps→Prop) (d:Nat):Ps→PR Ps→Prop:=yDf 62 14 (yDb F d)
def FilR:Nat→Ps→PR Ps→Prop
 |0=>yDf 124 15 (ChaR (fun _ _=>False) 0)
 |d+1=>yDf 124 15 (ChaR (FilR d) (d+1))
def endF (s:Ps):PR Ps:=if(hdK s.ks).isFin=true then .ok s else .error (3,hdA s.ks)
def ParR (ks:List Tk) (r:PR Ps):Prop:=((hdK ks).isBad=true∧r=.error (2,hdA ks))∨((hdK ks).isBad=false∧yBp (FilR 20) (fnR endF) ⟨ks,0,[]⟩ r)
structure Ms where
 ks:List Tk
 made:Nat
 out:List Nd
 st:List (Int×Nat)
 want:Bool
def yBy {α:Type} (c:Int) (ks:List Tk):PR α:=.error (if(hdK ks).isBad=true then 2 else c,hdA ks)
def yAk (all:Bool):List (Int×Nat)→List Nd→List (Int×Nat)×List Nd
 | [],out=>([],out)
 |(k,l)::st,out=>if k=1∨(all=true∧k=2)then yAk all st (out++ [yAc (if k=2 then 15 else 14)])else((k,l)::st,out)
def yBr:List (Int×Nat)→Nat
 | []=>0
 |(k,_)::st=>yBr st+if 2<k then 1 else 0
def upM (k:Int) (strs:Bool) (a:TkK) (ks:List Tk):PR (List Tk×Nd):=
 if(hdK ks).isSort strs=true then
  (if less a.txt (hdK ks).txt∨a.nm<(hdK ks).nm then .ok (ks.tail,⟨k,a.txt,true,(hdK ks).txt,a.nm,(hdK ks).nm,0⟩)else yBy 7 ks)
 else .ok (ks,⟨k,a.txt,false,noS,a.nm,0,0⟩)
def yE9 (k:Int) (strs:Bool) (a:TkK) (ks:List Tk):PR (List Tk×Nd):=if(hdK ks).isSign 46=true then upM k strs a ks.tail else yBy 3 ks
def yFg (k:Int) (strs:Bool) (ks:List Tk):PR (List Tk×Nd):=if(hdK ks).isSort strs=true then yE9 k strs (hdK ks) ks.tail else yE9 k strs .fin ks
def yAv (k:Int) (ks:List Tk):PR (List Tk×Nd):=
 if k≤3 then .ok (ks,yAc k)
 else if k≤7 then(match hdK ks with
  | .str s=>if(yBg (sb s)).1=0 then .ok (ks.tail,patN k s)else yBy 6 ks
  |_=>yBy 3 ks)
 else if k≤9 then yFg k true ks
 else if k≤10 then yFg k false ks
 else(match hdK ks with
  | .num n=>if 1≤n∧n≤1000 then .ok (ks.tail,cntN k n)else yBy 8 ks
  |_=>yBy 3 ks)
abbrev Mr:=Ms ⊕ PR (List Nd)
def yMj (m:Ms):Mr:=
 if m.made<200 then
  (if(hdK m.ks.tail).isSign 40=true then
   (if yBr m.st=20 then .inr (.error (4,hdA m.ks.tail))else .inl {m with ks:=m.ks.tail.tail,made:=m.made+1,st:=(4,2)::m.st})
  else .inr (yBy 3 m.ks.tail))
 else .inr (.error (5,hdA m.ks))
def yG6 (k:Int) (m:Ms):Mr:=
 if m.made<200 then(match yAv k m.ks.tail with
  | .error e=>.inr (.error e)
  | .ok (ks,n)=>.inl {m with ks:=ks,made:=m.made+1,out:=m.out++ [n],want:=false})
 else .inr (.error (5,hdA m.ks))
def yCi (m:Ms):Mr:=match hdK m.ks with
 | .word k=>if k=16 then yMj m else yG6 k m
 |t=>if t.isSign 40=true then(if yBr m.st=20 then .inr (.error (4,hdA m.ks))else .inl {m with ks:=m.ks.tail,st:=(3,0)::m.st})else .inr (.error (3,hdA m.ks))
def yGo (all:Bool) (k:Int) (m:Ms):Mr:=
 if m.made<200 then .inl ⟨m.ks.tail,m.made+1,(yAk all m.st m.out).2,(k,0)::(yAk all m.st m.out).1,true⟩else .inr (.error (5,hdA m.ks))
def yBm (m:Ms) (st:List (Int×Nat)) (out:List Nd):Mr:=match st with
 | []=>if(hdK m.ks).isFin=true then .inr (.ok out)else .inr (.error (3,hdA m.ks))
 |(k,l)::st2=>
  if k=4∧0<l∧(hdK m.ks).isSign 44=true then .inl ⟨m.ks.tail,m.made,out,(k,l-1)::st2,true⟩
  else if l=0∧(hdK m.ks).isSign 41=true then .inl ⟨m.ks.tail,m.made,if k=4 then out++ [yAc 16]else out,st2,false⟩
  else .inr (.error (3,hdA m.ks))
def yDe (m:Ms):Mr:=
 if(hdK m.ks).isBad=true then .inr (.error (2,hdA m.ks))
 else if m.want=true then yCi m
 else if(hdK m.ks).isSign 62=true then yGo false 1 m
 else if(hdK m.ks).isSign 124=true then yGo true 2 m
 else yBm m (yAk true m.st m.out).1 (yAk true m.st m.out).2
inductive yAl:Ms→PR (List Nd)→Prop
 |fin {m:Ms} {r:PR (List Nd)} (h:yDe m=.inr r):yAl m r
 |step {m m':Ms} {r:PR (List Nd)} (h:yDe m=.inl m') (k:yAl m' r):yAl m r
theorem yAl.one {m:Ms} {r r':PR (List Nd)} (h:yAl m r) (k:yAl m r'):r=r':=by
 induction h with
 |fin h=>cases k with
  |fin k=>exact Sum.inr.inj (h.symm.trans k)
  |step k _=>rw[h]at k;cases k
 |step h _ ih=>cases k with
  |fin k=>rw[h]at k;cases k
  |step k k2=>obtain rfl:=Sum.inl.inj (h.symm.trans k);exact ih k2
theorem yAl.bad {m:Ms} (h:(hdK m.ks).isBad=true):yAl m (.error (2,hdA m.ks)):=.fin (by unfold yDe;rw[if_pos h])
variable {t:TkK}
theorem TkK.isSign_eq {b:UInt8} (h:t.isSign b=true):t=.sign b:=by
 cases t<;>simp[TkK.isSign]at h
 rw[h]
theorem yB1 (all:Bool) (k:Int) (l:Nat) (st:List (Int×Nat)) (out:List Nd):yAk all ((k,l)::st) out=if k=1∨(all=true∧k=2)then yAk all st (out++ [yAc (if k=2 then 15 else 14)])else((k,l)::st,out):=by conv=>lhs;unfold yAk
theorem yDv:∀(st:List (Int×Nat)) (out:List Nd),yAk true (yAk false st out).1 (yAk false st out).2=yAk true st out
 | [],out=>rfl
 |(k,l)::st,out=>by
  rw[yB1 false]
  by_cases h:k=1
  ·subst h;simp only[true_or,if_true];rw[yDv st,yB1 true];simp only[true_or,if_true]
  ·rw[if_neg (by simp[h])]
def yNy (all:Bool):List (Int×Nat)→Prop
 | []=>True
 |(k,_)::_=>¬(k=1∨(all=true∧k=2))
theorem yNy.drain {all:Bool}:∀{st:List (Int×Nat)} {out:List Nd},yNy all st→yAk all st out=(st,out)
 | [],out,_=>rfl
 |(k,l)::st,out,h=>by unfold yAk;rw[if_neg h]
abbrev mOf (s:Ps) (st:List (Int×Nat)) (out:List Nd) (want:Bool):Ms:=⟨s.ks,s.made,out,st,want⟩
def Sim (lazy:Option Bool) (A:Ps→PR Ps→Prop) (st:List (Int×Nat)) (s:Ps) (m:Ms):Prop:=∀r,A s r→match r with
 | .error e=>yAl m (.error e)
 | .ok s1=>(hdK s1.ks).isBad=false∧(match lazy with
   |none=>∀R,yAl (mOf s1 st s1.out false) R→yAl m R
   |some all=>(hdK s1.ks).isSign 62=false∧(all=true→(hdK s1.ks).isSign 124=false)∧∀R,(∀st2 out2,yAk all st2 out2=(st,s1.out)→yAl (mOf s1 st2 out2 false) R)→yAl m R)
theorem yBt (ks:List Tk):((hdK ks.tail).isBad=true∧yA9 ks=.error (2,hdA ks.tail))∨((hdK ks.tail).isBad=false∧yA9 ks=.ok ks.tail):=by
 unfold yA9;cases h:(hdK ks.tail).isBad
 ·exact .inr ⟨rfl,by simp⟩
 ·exact .inl ⟨rfl,by simp⟩
variable {α:Type} {ks:List Tk}
theorem yPn {c:Int} (h:(hdK ks).isBad=false):(yBy c ks:PR α)=.error (c,hdA ks):=by unfold yBy;simp[h]
theorem yF0 {c:Int} (h:(hdK ks).isBad=true):(yBy c ks:PR α)=.error (2,hdA ks):=by unfold yBy;simp[h]
theorem yMe (h:t.isBad=true) (b:UInt8):t.isSign b=false:=by cases t<;>simp[TkK.isBad]at h;rfl
theorem yPy (h:t.isBad=true) (b:Bool):t.isSort b=false:=by cases t<;>simp[TkK.isBad]at h;rfl
def yIh (A:PR (List Tk×Nd)) (B:PR (List Tk×Nd)):Prop:=match A with
 | .error e=>B=.error e∨∃ks n,B=.ok (ks,n)∧(hdK ks).isBad=true∧e=(2,hdA ks)
 | .ok (ks,n)=>B=.ok (ks,n)∧(hdK ks).isBad=false
theorem yF5 {n:Nd}:yIh (match yA9 ks with
  | .error e=>.error e
  | .ok k2=>.ok (k2,n)) (.ok (ks.tail,n)):=by
 rcases yBt ks with⟨h,q⟩|⟨h,q⟩
 ·rw[q];exact .inr ⟨_,_,rfl,h,rfl⟩
 ·rw[q];exact⟨rfl,h⟩
theorem yC1 (h:(hdK ks).isBad=false) (c:Int):yIh (.error (c,hdA ks)) (yBy c ks):=.inl (yPn h)
theorem yX6 (k:Int) (strs:Bool) (a:TkK) (ks:List Tk) (h:(hdK ks).isBad=false):yIh (upF k strs a ks) (upM k strs a ks):=by
 unfold upF upM;split
 ·split
  ·exact yF5
  ·exact yC1 h 7
 ·exact⟨rfl,h⟩
theorem up_bad (k:Int) (strs:Bool) (a:TkK) (ks:List Tk) (h:(hdK ks).isBad=true):∃n,upM k strs a ks=.ok (ks,n):=by unfold upM;rw[if_neg (by rw[yPy h];simp)];exact⟨_,rfl⟩
theorem yNn (k:Int) (strs:Bool) (a:TkK) (ks:List Tk) (h:(hdK ks).isBad=false):yIh (yFj k strs a ks) (yE9 k strs a ks):=by
 unfold yFj yE9 yAs;by_cases hs:(hdK ks).isSign 46=true
 ·rw[if_pos hs,if_pos hs];rcases yBt ks with⟨hb,q⟩|⟨hb,q⟩
  ·rw[q];obtain⟨n,hn⟩:=up_bad k strs a ks.tail hb;exact .inr ⟨_,_,hn,hb,rfl⟩
  ·rw[q];exact yX6 k strs a _ hb
 ·rw[if_neg hs,if_neg hs];exact yC1 h 3
theorem yKv (k:Int) (strs:Bool) (ks:List Tk) (h:(hdK ks).isBad=false):yIh (yB k strs ks) (yFg k strs ks):=by
 unfold yB yFg;by_cases hs:(hdK ks).isSort strs=true
 ·rw[if_pos hs,if_pos hs];rcases yBt ks with⟨hb,q⟩|⟨hb,q⟩
  ·rw[q];refine .inl ?_;unfold yE9;rw[if_neg (by rw[yMe hb];simp)];exact yF0 hb
  ·rw[q];exact yNn k strs _ _ hb
 ·rw[if_neg hs,if_neg hs];exact yNn k strs _ _ h
theorem yTt (k:Int) (ks:List Tk) (h:(hdK ks).isBad=false):yIh (yDa k ks) (yAv k ks):=by
 unfold yDa yAv;split
 ·exact⟨rfl,h⟩
 ·split
  ·split
   ·split
    ·exact yF5
    ·exact yC1 h 6
   ·exact yC1 h 3
  ·split
   ·exact yKv k true ks h
   ·split
    ·exact yKv k false ks h
    ·split
     ·split
      ·exact yF5
      ·exact yC1 h 8
     ·exact yC1 h 3
theorem yWq (k:Int) (ks:List Tk) (h:(hdK ks).isBad=true):yAv k ks=.error (2,hdA ks)∨∃n,yAv k ks=.ok (ks,n):=by
 have hd:∀strs a,yE9 k strs a ks=.error (2,hdA ks):=fun strs a=>by unfold yE9;rw[if_neg (by rw[yMe h];simp)];exact yF0 h
 have hr:∀strs,yFg k strs ks=.error (2,hdA ks):=fun strs=>by unfold yFg;rw[if_neg (by rw[yPy h];simp)];exact hd _ _
 obtain⟨t,ht⟩:=qE (hdK ks);unfold yAv;rw[←ht];split
 ·exact .inr ⟨_,rfl⟩
 ·split
  ·split
   ·rw[←ht]at h;cases h
   ·exact .inl (yF0 h)
  ·split
   ·exact .inl (hr _)
   ·split
    ·exact .inl (hr _)
    ·split
     ·rw[←ht]at h;cases h
     ·exact .inl (yF0 h)
variable {st:List (Int×Nat)}
theorem yGf {s:Ps} {out:List Nd} (hb:(hdK s.ks).isBad=false):yDe (mOf s st out Bool.true)=yCi (mOf s st out Bool.true):=by unfold yDe;rw[if_neg (by show¬(hdK s.ks).isBad=true;rw[hb];simp),if_pos rfl]
variable {F:Ps→PR Ps→Prop} {d:Nat}
theorem yPa (ho:yBr st+d=20)
  (HF:0<d→∀k l s,2<k→(hdK s.ks).isBad=false→Sim (some true) F ((k,l)::st) s (mOf s ((k,l)::st) s.out true)):
  ∀s,(hdK s.ks).isBad=false→Sim none (yDb F d) st s (mOf s st s.out true):=by
 have enter:∀(s:Ps) (k:Int) (l:Nat),2<k→(hdK s.ks).isBad=false→(hdK s.ks).isSign 40=true→¬d=0→∀(B:Ps→PR Ps→Prop) (m:Ms) (r:PR Ps),(∀R,yAl ⟨s.ks.tail,s.made,s.out,(k,l)::st,true⟩ R→yAl m R)→
   yBp (fnR (yAz d)) (yBp F B) s r→(∀s1,(hdK s1.ks).isBad=false→(hdK s1.ks).isSign 62=false→(hdK s1.ks).isSign 124=false→(∀R,(∀st2 out2,yAk true st2 out2=((k,l)::st,s1.out)→yAl (mOf s1 st2 out2 false) R)→yAl m R)→B s1 r→(match r with
    | .error e=>yAl m (.error e)
    | .ok s2=>(hdK s2.ks).isBad=false∧∀R,yAl (mOf s2 st s2.out false) R→yAl m R))→(match r with
    | .error e=>yAl m (.error e)
    | .ok s2=>(hdK s2.ks).isBad=false∧∀R,yAl (mOf s2 st s2.out false) R→yAl m R):=by
  intro s k l hk hb hs hd B m r hm hr hB;rcases hr with⟨e,h,rfl⟩|⟨s1,h,hr⟩
  ·have h':Except.error e=yAz d s:=h;unfold yAz at h';rw[if_pos hs,if_neg hd]at h';rcases yBt s.ks with⟨hb2,q⟩|⟨hb2,q⟩
   ·rw[q]at h';cases h'
    exact hm _ (yAl.bad hb2)
   ·rw[q]at h';cases h'
  ·have h':Except.ok s1=yAz d s:=h;unfold yAz at h';rw[if_pos hs,if_neg hd]at h';rcases yBt s.ks with⟨hb2,q⟩|⟨hb2,q⟩
   ·rw[q]at h';cases h'
   ·rw[q]at h';cases h'
    have hF:=HF (by omega) k l {s with ks:=s.ks.tail} hk hb2;rcases hr with⟨e,h,rfl⟩|⟨s1,h,hr⟩
    ·exact hm _ (hF _ h)
    ·obtain⟨h1,h2,h3,h4⟩:=hF _ h;exact hB s1 h1 h2 (h3 rfl) (fun R hR=>hm _ (h4 R hR)) hr
 have dead:∀(s:Ps),(hdK s.ks).isSign 40=true→d=0→yAz d s=.error (4,hdA s.ks):=fun s hs hd=>by unfold yAz;rw[if_pos hs,if_pos hd]
 have hop:d=0→yBr st=20:=fun h=>by omega
 have hon:¬d=0→¬yBr st=20:=fun h=>by omega
 have close:∀(k:Int) (l:Nat) (s1:Ps) (st2:List (Int×Nat)) (out2:List Nd),(hdK s1.ks).isBad=false→(hdK s1.ks).isSign 62=false→(hdK s1.ks).isSign 124=false→yAk true st2 out2=((k,l)::st,s1.out)→yDe (mOf s1 st2 out2 false)=yBm (mOf s1 st2 out2 false) ((k,l)::st) s1.out:=by intro k l s1 st2 out2 h1 h2 h3 hd;unfold yDe;rw[if_neg (by show¬(hdK s1.ks).isBad=true;rw[h1];simp),if_neg (by simp),if_neg (by show¬(hdK s1.ks).isSign 62=true;rw[h2];simp),if_neg (by show¬(hdK s1.ks).isSign 124=true;rw[h3];simp)];show yBm _ (yAk true st2 out2).1 (yAk true st2 out2).2=_;rw[hd]
 intro s hb r hr;rcases hr with⟨hs,hr⟩|⟨hw,hr⟩|⟨k,hw,hk,hr⟩|⟨hs,hw,rfl⟩
 ·have yC3:yDe (mOf s st s.out true)=if yBr st=20 then .inr (.error (4,hdA s.ks))else .inl ⟨s.ks.tail,s.made,s.out,(3,0)::st,true⟩:=by
   rw[yGf hb];unfold yCi
   show(match hdK s.ks with
    | .word k=>_
    |t=>_)=_
   rw[TkK.isSign_eq hs];rfl
  by_cases hd:d=0
  ·rcases hr with⟨e,h,rfl⟩|⟨s1,h,hr⟩
   ·have h':Except.error e=yAz d s:=h;rw[dead s hs hd]at h';cases h'
    exact .fin (by rw[yC3,if_pos (hop hd)])
   ·have h':Except.ok s1=yAz d s:=h;rw[dead s hs hd]at h';cases h'
  ·rw[if_neg (hon hd)]at yC3;refine enter s 3 0 (by omega) hb hs hd _ _ r (fun R hR=>.step yC3 hR) hr ?_;intro s1 h1 h2 h3 h4 hB;have hB':r=yB5 s1:=hB;unfold yB5 yAs at hB';by_cases h41:(hdK s1.ks).isSign 41=true
   ·rw[if_pos h41]at hB';have hc:∀st2 out2,yAk true st2 out2=((3,0)::st,s1.out)→yDe (mOf s1 st2 out2 false)=.inl ⟨s1.ks.tail,s1.made,s1.out,st,false⟩:=fun st2 out2 hq=>by rw[close 3 0 s1 st2 out2 h1 h2 h3 hq];unfold yBm;simp[h41]
    rcases yBt s1.ks with⟨hb2,q⟩|⟨hb2,q⟩
    ·rw[q]at hB';subst hB';exact h4 _ (fun st2 out2 hq=>.step (hc st2 out2 hq) (yAl.bad hb2))
    ·rw[q]at hB';subst hB';exact⟨hb2,fun R hR=>h4 _ (fun st2 out2 hq=>.step (hc st2 out2 hq) hR)⟩
   ·rw[if_neg h41]at hB';subst hB';refine h4 _ (fun st2 out2 hq=>.fin ?_);rw[close 3 0 s1 st2 out2 h1 h2 h3 hq];unfold yBm;simp[h41]
 ·have yC3:yDe (mOf s st s.out true)=yMj (mOf s st s.out true):=by
   rw[yGf hb];unfold yCi
   show(match hdK s.ks with
    | .word k=>_
    |t=>_)=_
   rw[hw];rfl
  unfold yMj at yC3;by_cases hm:s.made<200
  ·rw[if_pos (show(mOf s st s.out true).made<200 from hm)]at yC3;have hmk:yAy s=Ps.to {s with made:=s.made+1} (yA9 s.ks):=by unfold yAy;rw[if_pos hm]
   rcases hr with⟨e,h,rfl⟩|⟨s1,h,hr⟩
   ·have h':Except.error e=yAy s:=h;rw[hmk]at h';rcases yBt s.ks with⟨hb2,q⟩|⟨hb2,q⟩
    ·rw[q]at h';cases h'
     refine .fin ?_;rw[yC3,if_neg (by show¬(hdK s.ks.tail).isSign 40=true;rw[yMe hb2];simp)];show Sum.inr (yBy 3 s.ks.tail)=_;rw[yF0 hb2]
    ·rw[q]at h';cases h'
   ·have h':Except.ok s1=yAy s:=h;rw[hmk]at h';rcases yBt s.ks with⟨hb2,q⟩|⟨hb2,q⟩
    ·rw[q]at h';cases h'
    rw[q]at h';cases h'
    have hr2:yBp (fnR (yAz d)) (yBp F (fun s r=>yBp (yBp (fnR yC) (yBp F (yBp (fnR yC) (yBp F (fnR yB5))))) (fnR fun s=>.ok (s.add (yAc 16))) s r)) {ks:=s.ks.tail,made:=s.made+1,out:=s.out} r:=by
     rcases hr with⟨e,h,rfl⟩|⟨s1,h,hr⟩
     ·rcases h with⟨e,h,h2⟩|⟨s2,h,h2⟩
      ·cases h2;exact .inl ⟨_,h,rfl⟩
      ·rcases h2 with⟨e,h2,h3⟩|⟨s3,h2,h3⟩
       ·cases h3;exact .inr ⟨_,h,.inl ⟨_,h2,rfl⟩⟩
       ·exact .inr ⟨_,h,.inr ⟨_,h2,.inl ⟨_,h3,rfl⟩⟩⟩
     ·rcases h with⟨e,h,h2⟩|⟨s2,h,h2⟩
      ·cases h2
      ·rcases h2 with⟨e,h2,h3⟩|⟨s3,h2,h3⟩
       ·cases h3
       ·exact .inr ⟨_,h,.inr ⟨_,h2,.inr ⟨_,h3,hr⟩⟩⟩
    clear hr;by_cases hs:(hdK s.ks.tail).isSign 40=true
    ·rw[if_pos (show(hdK (mOf s st s.out true).ks.tail).isSign 40=true from hs)]at yC3;by_cases hd:d=0
     ·rw[if_pos (show yBr (mOf s st s.out true).st=20 from hop hd)]at yC3;rcases hr2 with⟨e,h,rfl⟩|⟨s1,h,hr⟩
      ·have h':Except.error e=yAz d _:=h;rw[dead _ hs hd]at h';cases h'
       exact .fin yC3
      ·have h':Except.ok s1=yAz d _:=h;rw[dead _ hs hd]at h';cases h'
     ·rw[if_neg (show¬yBr (mOf s st s.out true).st=20 from hon hd)]at yC3;refine enter {ks:=s.ks.tail,made:=s.made+1,out:=s.out} 4 2 (by omega) hb2 hs hd _ _ r (fun R hR=>.step yC3 hR) hr2 ?_
      have comma:∀(l:Nat) (s1:Ps) (m:Ms) (B:Ps→PR Ps→Prop) (r:PR Ps),(hdK s1.ks).isBad=false→(hdK s1.ks).isSign 62=false→(hdK s1.ks).isSign 124=false→(∀R,(∀st2 out2,yAk true st2 out2=((4,l+1)::st,s1.out)→yAl (mOf s1 st2 out2 false) R)→yAl m R)→
        yBp (fnR yC) (yBp F B) s1 r→(∀s2,(hdK s2.ks).isBad=false→(hdK s2.ks).isSign 62=false→(hdK s2.ks).isSign 124=false→(∀R,(∀st2 out2,yAk true st2 out2=((4,l)::st,s2.out)→yAl (mOf s2 st2 out2 false) R)→yAl m R)→B s2 r→(match r with
         | .error e=>yAl m (.error e)
         | .ok s2=>(hdK s2.ks).isBad=false∧∀R,yAl (mOf s2 st (s2.out++ [yAc 16]) false) R→yAl m R))→(match r with
         | .error e=>yAl m (.error e)
         | .ok s2=>(hdK s2.ks).isBad=false∧∀R,yAl (mOf s2 st (s2.out++ [yAc 16]) false) R→yAl m R):=by
       intro l s1 m B r h1 h2 h3 h4 hB hnext;by_cases h44:(hdK s1.ks).isSign 44=true
       ·have hc:∀st2 out2,yAk true st2 out2=((4,l+1)::st,s1.out)→yDe (mOf s1 st2 out2 false)=.inl ⟨s1.ks.tail,s1.made,s1.out,(4,l)::st,true⟩:=fun st2 out2 hq=>by rw[close 4 (l+1) s1 st2 out2 h1 h2 h3 hq];unfold yBm;simp[h44]
        have hcf:yC s1=s1.to (yA9 s1.ks):=by unfold yC yAs;rw[if_pos h44]
        rcases yBt s1.ks with⟨hb2,q⟩|⟨hb2,q⟩
        ·rw[q]at hcf;rcases hB with⟨e,h,rfl⟩|⟨s2,h,hB⟩
         ·have h':Except.error e=yC s1:=h;rw[hcf]at h';cases h'
          exact h4 _ (fun st2 out2 hq=>.step (hc st2 out2 hq) (yAl.bad hb2))
         ·have h':Except.ok s2=yC s1:=h;rw[hcf]at h';cases h'
        ·rw[q]at hcf;rcases hB with⟨e,h,rfl⟩|⟨s2,h,hB⟩
         ·have h':Except.error e=yC s1:=h;rw[hcf]at h';cases h'
         ·have h':Except.ok s2=yC s1:=h;rw[hcf]at h';cases h'
          have hF:=HF (by omega) 4 l {s1 with ks:=s1.ks.tail} (by omega) hb2;rcases hB with⟨e,h,rfl⟩|⟨s3,h,hB⟩
          ·exact h4 _ (fun st2 out2 hq=>.step (hc st2 out2 hq) (hF _ h))
          ·obtain⟨g1,g2,g3,g4⟩:=hF _ h;exact hnext s3 g1 g2 (g3 rfl) (fun R hR=>h4 _ (fun st2 out2 hq=>.step (hc st2 out2 hq) (g4 R hR))) hB
       ·have hcf:yC s1=.error (3,hdA s1.ks):=by unfold yC yAs;rw[if_neg h44];rfl
        rcases hB with⟨e,h,rfl⟩|⟨s2,h,hB⟩
        ·have h':Except.error e=yC s1:=h;rw[hcf]at h';cases h'
         refine h4 _ (fun st2 out2 hq=>.fin ?_);rw[close 4 (l+1) s1 st2 out2 h1 h2 h3 hq];unfold yBm;simp[h44]
        ·have h':Except.ok s2=yC s1:=h;rw[hcf]at h';cases h'
      intro s1 h1 h2 h3 h4 hB
      obtain⟨r9,h9⟩:∃r9:PR Ps,yBp (fnR yC) (yBp F (yBp (fnR yC) (yBp F (fnR yB5)))) s1 r9∧r=(match r9 with
        | .error e=>.error e
        | .ok s=>.ok (s.add (yAc 16))):=by
       rcases hB with⟨e,h,rfl⟩|⟨s2,h,hB⟩
       ·exact⟨_,h,rfl⟩
       ·exact⟨_,h,hB⟩
      have key:=comma 1 s1 (mOf s st s.out true) _ r9 h1 h2 h3 h4 h9.1 (fun s2 g1 g2 g3 g4 hB2=>comma 0 s2 (mOf s st s.out true) _ r9 g1 g2 g3 g4 hB2 (fun s3 f1 f2 f3 f4 hB3=>by
       have hB':r9=yB5 s3:=hB3
       unfold yB5 yAs at hB'
       by_cases h41:(hdK s3.ks).isSign 41=true
       ·rw[if_pos h41]at hB'
        have hn44:(hdK s3.ks).isSign 44=false:=by rw[TkK.isSign_eq h41];rfl
        have hc:∀st2 out2,yAk true st2 out2=((4,0)::st,s3.out)→yDe (mOf s3 st2 out2 false)=.inl ⟨s3.ks.tail,s3.made,s3.out++ [yAc 16],st,false⟩:=fun st2 out2 hq=>by
         rw[close 4 0 s3 st2 out2 f1 f2 f3 hq]
         unfold yBm
         simp[h41]
        rcases yBt s3.ks with⟨hb2,q⟩|⟨hb2,q⟩
        ·rw[q]at hB'
         subst hB'
         exact f4 _ (fun st2 out2 hq=>.step (hc st2 out2 hq) (yAl.bad hb2))
        ·rw[q]at hB'
         subst hB'
         exact⟨hb2,fun R hR=>f4 _ (fun st2 out2 hq=>.step (hc st2 out2 hq) hR)⟩
       ·rw[if_neg h41]at hB'
        subst hB'
        refine f4 _ (fun st2 out2 hq=>.fin ?_)
        rw[close 4 0 s3 st2 out2 f1 f2 f3 hq]
        unfold yBm
        simp[h41]))
      rw[h9.2];cases r9 with
      |error e=>exact key
      |ok s9=>exact key
    ·rw[if_neg (show¬(hdK (mOf s st s.out true).ks.tail).isSign 40=true from hs)]at yC3;have hde:yAz d {ks:=s.ks.tail,made:=s.made+1,out:=s.out}=.error (3,hdA s.ks.tail):=by unfold yAz;rw[if_neg hs]
     rcases hr2 with⟨e,h,rfl⟩|⟨s1,h,hr⟩
     ·have h':Except.error e=yAz d _:=h;rw[hde]at h';cases h'
      refine .fin ?_;rw[yC3];show Sum.inr (yBy 3 s.ks.tail)=_;rw[yPn hb2]
     ·have h':Except.ok s1=yAz d _:=h;rw[hde]at h';cases h'
  ·exact zzQ42
 ·have yC3:yDe (mOf s st s.out true)=yG6 k (mOf s st s.out true):=by
   rw[yGf hb];unfold yCi
   show(match hdK s.ks with
    | .word k=>_
    |t=>_)=_
   rw[hw];exact if_neg hk
  unfold yG6 at yC3;by_cases hm:s.made<200
  ·rw[if_pos (show(mOf s st s.out true).made<200 from hm)]at yC3;have hmk:yAy s=Ps.to {s with made:=s.made+1} (yA9 s.ks):=by unfold yAy;rw[if_pos hm]
   rcases hr with⟨e,h,rfl⟩|⟨s1,h,hr⟩
   ·have h':Except.error e=yAy s:=h;rw[hmk]at h';rcases yBt s.ks with⟨hb2,q⟩|⟨hb2,q⟩
    ·rw[q]at h';cases h'
     rcases yWq k s.ks.tail hb2 with q2|⟨n,q2⟩
     ·refine .fin ?_;rw[yC3]
      show(match yAv k s.ks.tail with
       | .error e=>_
       | .ok (ks,n)=>_)=_
      rw[q2]
     ·refine .step (m':=⟨s.ks.tail,s.made+1,s.out++ [n],st,false⟩) ?_ (yAl.bad hb2);rw[yC3]
      show(match yAv k s.ks.tail with
       | .error e=>_
       | .ok (ks,n)=>_)=_
      rw[q2]
    ·rw[q]at h';cases h'
   ·have h':Except.ok s1=yAy s:=h;rw[hmk]at h';rcases yBt s.ks with⟨hb2,q⟩|⟨hb2,q⟩
    ·rw[q]at h';cases h'
    rw[q]at h';cases h'
    have hr':r=argF k {ks:=s.ks.tail,made:=s.made+1,out:=s.out}:=hr;have hA:=yTt k s.ks.tail hb2;unfold argF at hr'
    have hst:yDe (mOf s st s.out true)=(match yAv k s.ks.tail with
     | .error e=>.inr (.error e)
     | .ok (ks,n)=>.inl ⟨ks,s.made+1,s.out++ [n],st,false⟩):=yC3
    cases hq:yDa k s.ks.tail with
    |error e=>
     rw[hq]at hA
     have hr2:r=.error e:=by rw[hr'];show(match yDa k s.ks.tail with
      | .error e=>_
      | .ok (ks,n)=>_)=_
                             rw[hq]
     subst hr2;rcases hA with q2|⟨ks,n,q2,hbb,rfl⟩
     ·exact .fin (by rw[hst,q2])
     ·exact .step (m':=⟨ks,s.made+1,s.out++ [n],st,false⟩) (by rw[hst,q2]) (yAl.bad hbb)
    |ok p=>
     obtain⟨ks,n⟩:=p;rw[hq]at hA
     have hr2:r=.ok ⟨ks,s.made+1,s.out++ [n]⟩:=by rw[hr'];show(match yDa k s.ks.tail with
      | .error e=>_
      | .ok (ks,n)=>_)=_
                                                  rw[hq]
     subst hr2;exact⟨hA.2,fun R hR=>.step (m':=⟨ks,s.made+1,s.out++ [n],st,false⟩) (by rw[hst,hA.1]) hR⟩
  ·exact zzQ42
 ·refine .fin ?_;rw[yGf hb];unfold yCi
  show(match hdK s.ks with
   | .word k=>_
   |t=>_)=_
  obtain⟨t,ht⟩:=qE (hdK s.ks);rw[←ht]at hs hw⊢;cases t with
  |word k=>exact absurd rfl (hw k)
  |sign c=>show(if(TkK.sign c).isSign 40=true then _ else _)=_;rw[if_neg (by rw[hs];simp)]
  |num n=>rfl
  |str s=>rfl
  |fin=>rfl
  |bad=>rfl
theorem yPf {s:Ps} {st2:List (Int×Nat)} {out2:List Nd} (hb:(hdK s.ks).isBad=false):((hdK s.ks).isSign 62=true→yDe (mOf s st2 out2 Bool.false)=yGo false 1 (mOf s st2 out2 Bool.false))∧((hdK s.ks).isSign 62=false→(hdK s.ks).isSign 124=true→yDe (mOf s st2 out2 Bool.false)=yGo true 2 (mOf s st2 out2 Bool.false)):=by
 have h0:¬(hdK (mOf s st2 out2 Bool.false).ks).isBad=true:=by show¬(hdK s.ks).isBad=true;rw[hb];simp
 constructor
 ·intro h;unfold yDe;rw[if_neg h0,if_neg (by simp),if_pos h]
 ·intro h h2;unfold yDe;rw[if_neg h0,if_neg (by simp),if_neg (by show¬(hdK s.ks).isSign 62=true;rw[h];simp),if_pos h2]
theorem yPh (all:Bool) (sg:UInt8) (kd pk:Int) (low:Ps→Prop) {R:Ps→PR Ps→Prop}
  (yC3:∀s st2 out2,(hdK s.ks).isBad=false→low s→(hdK s.ks).isSign sg=true→yAk all st2 out2=(st,s.out)→yDe (mOf s st2 out2 Bool.false)=if s.made<200 then .inl ⟨s.ks.tail,s.made+1,s.out,(pk,0)::st,true⟩else .inr (.error (5,hdA s.ks)))
  (hadd:∀s n,low s→low (s.add n))
  (HOp:∀s,(hdK s.ks).isBad=false→∀r,R s r→match r with
   | .error e=>yAl (mOf s ((pk,0)::st) s.out Bool.true) (.error e)
   | .ok s2=>(hdK s2.ks).isBad=false∧low s2∧∀Q,(∀st2 out2,yAk all st2 out2=(st,s2.out++ [yAc kd])→yAl (mOf s2 st2 out2 Bool.false) Q)→yAl (mOf s ((pk,0)::st) s.out Bool.true) Q):
  ∀s r,yHz sg kd R s r→(hdK s.ks).isBad=false→low s→match r with
   | .error e=>∀st2 out2,yAk all st2 out2=(st,s.out)→yAl (mOf s st2 out2 Bool.false) (.error e)
   | .ok s1=>(hdK s1.ks).isBad=false∧(hdK s1.ks).isSign sg=false∧low s1∧∀Q,(∀st2 out2,yAk all st2 out2=(st,s1.out)→yAl (mOf s1 st2 out2 Bool.false) Q)→∀st2 out2,yAk all st2 out2=(st,s.out)→yAl (mOf s st2 out2 Bool.false) Q:=by
 intro s r h;have mk:∀(s:Ps),yAy s=if s.made<200 then(if(hdK s.ks.tail).isBad=true then .error (2,hdA s.ks.tail)else .ok ⟨s.ks.tail,s.made+1,s.out⟩)else .error (5,hdA s.ks):=fun s=>by
  unfold yAy yA9;split
  ·split<;>rfl
  ·rfl
 induction h with
 |stop h=>intro hb hl;exact⟨hb,h,hl,fun Q hQ st2 out2 hd=>hQ st2 out2 hd⟩
 | @e1 s e h h1=>
   intro hb hl st2 out2 hd;have hs:=yC3 s st2 out2 hb hl h hd;rw[mk]at h1;by_cases hm:s.made<200
   ·rw[if_pos hm]at hs h1;by_cases hbb:(hdK s.ks.tail).isBad=true
    ·rw[if_pos hbb]at h1;cases h1
     exact .step hs (yAl.bad hbb)
    ·rw[if_neg hbb]at h1;cases h1
   ·rw[if_neg hm]at hs h1;cases h1
    exact .fin hs
 | @e2 s s1 e h h1 h2=>
   intro hb hl st2 out2 hd;have hs:=yC3 s st2 out2 hb hl h hd;rw[mk]at h1;by_cases hm:s.made<200
   ·rw[if_pos hm]at hs h1;by_cases hbb:(hdK s.ks.tail).isBad=true
    ·rw[if_pos hbb]at h1;cases h1
    ·rw[if_neg hbb]at h1;cases h1
     exact .step hs (HOp _ (by simpa using hbb) _ h2)
   ·rw[if_neg hm]at h1;cases h1
 | @more s s1 s2 r h h1 h2 h3 ih=>
   intro hb hl;rw[mk]at h1;by_cases hm:s.made<200
   ·rw[if_pos hm]at h1;by_cases hbb:(hdK s.ks.tail).isBad=true
    ·rw[if_pos hbb]at h1;cases h1
    ·rw[if_neg hbb]at h1;cases h1
     obtain⟨g1,g2,g3⟩:=HOp _ (by simpa using hbb) _ h2;have hi:=ih g1 (hadd _ _ g2);have hs:=fun st2 out2 hd=>yC3 s st2 out2 hb hl h hd;simp only[if_pos hm]at hs;cases r with
     |error e=>exact fun st2 out2 hd=>.step (hs st2 out2 hd) (g3 _ (fun st3 out3 hd3=>hi st3 out3 hd3))
     |ok s9=>exact⟨hi.1,hi.2.1,hi.2.2.1,fun Q hQ st2 out2 hd=>.step (hs st2 out2 hd) (g3 _ (fun st3 out3 hd3=>hi.2.2.2 Q hQ st3 out3 hd3))⟩
   ·rw[if_neg hm]at h1;cases h1
theorem yTl (hT:yNy false st)
  (HP:∀st',(st'=st∨st'=(1,0)::st)→∀s,(hdK s.ks).isBad=false→Sim none (yDb F d) st' s (mOf s st' s.out Bool.true)):
  ∀s,(hdK s.ks).isBad=false→Sim (some false) (ChaR F d) st s (mOf s st s.out Bool.true):=by
 have hL:=yPh false 62 14 1 (fun _=>True) (R:=yDb F d) (st:=st) (fun s st2 out2 hb _ hsg hd=>by
  rw[(yPf hb).1 hsg]
  unfold yGo
  show(if s.made<200 then _ else _)=_
  simp only[hd]) (fun _ _ _=>trivial) (fun s hb r hr=>by
   have h9:=HP _ (.inr rfl) s hb r hr
   cases r with
   |error e=>exact h9
   |ok s2=>exact⟨h9.1,trivial,fun Q hQ=>h9.2 Q (hQ _ _ (by rw[yB1,if_pos (.inl rfl)];simp only[show¬((1:Int)=2)by omega,if_false];exact hT.drain))⟩)
 intro s hb r hr;have hP:=HP st (.inl rfl) s hb;rcases hr with⟨e,h,rfl⟩|⟨s1,h,hr⟩
 ·exact hP _ h
 ·obtain⟨h1,h2⟩:=hP _ h;have h9:=hL s1 r hr h1 trivial;cases r with
  |error e=>exact h2 _ (h9 st s1.out hT.drain)
  |ok s2=>exact⟨h9.1,h9.2.1,fun q=>(by cases q),fun Q hQ=>h2 _ (h9.2.2.2 Q hQ st s1.out hT.drain)⟩
theorem yNy.weak (h:yNy true st):yNy false st:=by
 cases st with
 |nil=>trivial
 |cons x st=>obtain⟨k,l⟩:=x;exact fun q=>h (q.elim .inl (fun z=>by cases z.1))
theorem yPj (hT:yNy true st)
  (HP:∀st',yBr st'=yBr st→∀s,(hdK s.ks).isBad=false→Sim none (yDb F d) st' s (mOf s st' s.out Bool.true)):
  ∀s,(hdK s.ks).isBad=false→Sim (some true) (yDf 124 15 (ChaR F d)) st s (mOf s st s.out Bool.true):=by
 have o1:yBr ((1,0)::st)=yBr st:=by simp[yBr]
 have o2:yBr ((2,0)::st)=yBr st:=by simp[yBr]
 have o3:yBr ((1,0)::(2,0)::st)=yBr st:=by simp[yBr]
 have hC1:=yTl hT.weak (fun st' q=>HP st' (by rcases q with rfl|rfl<;>first|rfl|exact o1));have hC2:=yTl (st:=(2,0)::st) (F:=F) (d:=d) (by intro q;rcases q with q|q<;>simp at q) (fun st' q=>HP st' (by rcases q with rfl|rfl<;>first|exact o2|exact o3));have hL:=yPh true 124 15 2 (fun s=>(hdK s.ks).isSign 62=false) (R:=ChaR F d) (st:=st) (fun s st2 out2 hb hl hsg hd=>by
  rw[(yPf hb).2 hl hsg]
  unfold yGo
  show(if s.made<200 then _ else _)=_
  simp only[hd]) (fun _ _ h=>h) (fun s hb r hr=>by
   have h9:=hC2 s hb r hr
   cases r with
   |error e=>exact h9
   |ok s2=>exact⟨h9.1,h9.2.1,fun Q hQ=>h9.2.2.2 Q (fun st2 out2 hd=>hQ _ _ (by
     rw[←yDv,hd]
     show yAk true ((2,0)::st) s2.out=_
     rw[yB1,if_pos (.inr ⟨rfl,rfl⟩)]
     simp only[if_true]
     exact hT.drain))⟩)
 intro s hb r hr;have hP:=hC1 s hb;rcases hr with⟨e,h,rfl⟩|⟨s1,h,hr⟩
 ·exact hP _ h
 ·obtain⟨h1,h2,_,h3⟩:=hP _ h;have h9:=hL s1 r hr h1 h2;have hdr:∀st2 out2,yAk false st2 out2=(st,s1.out)→yAk true st2 out2=(st,s1.out):=fun st2 out2 hd=>by rw[←yDv,hd];exact hT.drain
  cases r with
  |error e=>exact h3 _ (fun st2 out2 hd=>h9 st2 out2 (hdr _ _ hd))
  |ok s2=>exact⟨h9.1,h9.2.2.1,fun _=>h9.2.1,fun Q hQ=>h3 _ (fun st2 out2 hd=>h9.2.2.2 Q hQ st2 out2 (hdr _ _ hd))⟩
theorem yTb:∀(d:Nat) (st:List (Int×Nat)),yBr st+d=20→yNy true st→∀s,(hdK s.ks).isBad=false→Sim (some true) (FilR d) st s (mOf s st s.out Bool.true)
 |0,st,ho,hT=>yPj hT (fun st' ho'=>yPa (by omega) (fun q=>by omega))
 |d+1,st,ho,hT=>yPj hT (fun st' ho'=>yPa (by omega) (fun _ k l s hk hb=>yTb d ((k,l)::st') (by
   have:yBr ((k,l)::st')=yBr st'+1:=by simp[yBr,hk]
   omega) (by intro q;rcases q with q|q<;>omega) s hb))
def outOf (r:PR Ps):PR (List Nd):=match r with
 | .error e=>.error e
 | .ok s=>.ok s.out
theorem yGc {r:PR Ps} (h:ParR ks r):yAl ⟨ks,0,[],[],true⟩ (outOf r):=by
 rcases h with⟨hb,rfl⟩|⟨hb,h⟩
 ·exact yAl.bad hb
 ·have hF:=yTb 20 [] rfl trivial ⟨ks,0,[]⟩ hb;rcases h with⟨e,h,rfl⟩|⟨s1,h,h2⟩
  ·exact hF _ h
  ·obtain⟨h1,h3,h4,h5⟩:=hF _ h;have h2':r=endF s1:=h2;subst h2';refine h5 _ (fun st2 out2 hd=>.fin ?_);unfold yDe;rw[if_neg (by show¬(hdK s1.ks).isBad=true;rw[h1];simp),if_neg (by simp),if_neg (by show¬(hdK s1.ks).isSign 62=true;rw[h3];simp),if_neg (by show¬(hdK s1.ks).isSign 124=true;rw[h4 rfl];simp)];show yBm _ (yAk true st2 out2).1 (yAk true st2 out2).2=_;rw[hd];show(if(hdK s1.ks).isFin=true then _ else _)=_;unfold endF;split<;>rfl
def yA7 (b:UInt8):Bool:=decide (97≤b.toNat∧b.toNat≤122)
def yA1 (b:UInt8):Bool:=decide (48≤b.toNat∧b.toNat≤57)
def yKj (b:UInt8):Bool:=decide (32≤b.toNat∧b.toNat≤126)
def yT2 (l:List UInt8) (k:Int):Prop:=(1≤k∧k≤13∧bl (yA8 k)=l)∨(k=16∧l= [105,102])
def kwF (l:List UInt8):Option Int:=
 if l= [112,97,115,115]then some 1 else if l= [98,108,111,99,107]then some 2 else if l= [115,116,114,105,112]then some 3 else if l= [114,111,119]then some 4
 else if l= [102,97,109]then some 5 else if l= [113,117,97,108]then some 6 else if l= [118,97,108]then some 7 else if l= [114,111,119,115]then some 8
 else if l= [113,117,97,108,115]then some 9 else if l= [116,115]then some 10 else if l= [118,101,114,115,105,111,110,115]then some 11 else if l= [99,101,108,108,115]then some 12
 else if l= [115,107,105,112]then some 13 else if l= [105,102]then some 16 else none
theorem yM (h1:1≤k) (h2:k≤13):k=1∨k=2∨k=3∨k=4∨k=5∨k=6∨k=7∨k=8∨k=9∨k=10∨k=11∨k=12∨k=13:=by omega
variable {l:List UInt8}
theorem yHo (h:yT2 l k):kwF l=some k:=by
 rcases h with⟨h1,h2,rfl⟩|⟨rfl,rfl⟩
 ·rcases yM h1 h2 with rfl|rfl|rfl|rfl|rfl|rfl|rfl|rfl|rfl|rfl|rfl|rfl|rfl<;>decide
 ·decide
theorem ifS [Decidable p] {a b:Option Int} (h:(if p then a else b)=some k):(p∧a=some k)∨b=some k:=by
 by_cases q:p
 ·rw[if_pos q]at h;exact .inl ⟨q,h⟩
 ·rw[if_neg q]at h;exact .inr h
theorem yIu (h:kwF l=some k):yT2 l k:=by
 unfold kwF at h;rcases ifS h with⟨rfl,h⟩|h
 ·cases h;exact .inl ⟨by omega,by omega,by decide⟩
 rcases ifS h with⟨rfl,h⟩|h
 ·cases h;exact .inl ⟨by omega,by omega,by decide⟩
 rcases ifS h with⟨rfl,h⟩|h
 ·cases h;exact .inl ⟨by omega,by omega,by decide⟩
 rcases ifS h with⟨rfl,h⟩|h
 ·cases h;exact .inl ⟨by omega,by omega,by decide⟩
 rcases ifS h with⟨rfl,h⟩|h
 ·cases h;exact .inl ⟨by omega,by omega,by decide⟩
 rcases ifS h with⟨rfl,h⟩|h
 ·cases h;exact .inl ⟨by omega,by omega,by decide⟩
 rcases ifS h with⟨rfl,h⟩|h
 ·cases h;exact .inl ⟨by omega,by omega,by decide⟩
 rcases ifS h with⟨rfl,h⟩|h
 ·cases h;exact .inl ⟨by omega,by omega,by decide⟩
 rcases ifS h with⟨rfl,h⟩|h
 ·cases h;exact .inl ⟨by omega,by omega,by decide⟩
 rcases ifS h with⟨rfl,h⟩|h
 ·cases h;exact .inl ⟨by omega,by omega,by decide⟩
 rcases ifS h with⟨rfl,h⟩|h
 ·cases h;exact .inl ⟨by omega,by omega,by decide⟩
 rcases ifS h with⟨rfl,h⟩|h
 ·cases h;exact .inl ⟨by omega,by omega,by decide⟩
 rcases ifS h with⟨rfl,h⟩|h
 ·cases h;exact .inl ⟨by omega,by omega,by decide⟩
 rcases ifS h with⟨rfl,h⟩|h
 ·cases h;exact .inr ⟨rfl,rfl⟩
 ·cases h
theorem yN0 (h:yT2 l k):(1≤k∧k≤13)∨k=16:=by
 rcases h with⟨h1,h2,_⟩|⟨h,_⟩
 ·exact .inl ⟨h1,h2⟩
 ·exact .inr h
def decV (d:List UInt8):Nat:=d.foldl (fun n b=>10*n+(b.toNat-48)) 0
def numM (d:List UInt8):Option Nat:=if 1<d.length∧d.head?=some 48 then none else if decV d<2^64 then some (decV d)else none
def hexV (b:UInt8):Option Nat:=if 48≤b.toNat∧b.toNat≤57 then some (b.toNat-48)else if 97≤b.toNat∧b.toNat≤102 then some (b.toNat-87)else none
def strM:List UInt8→Option (List UInt8×Nat)
 | []=>none
 |b::r=>if b=34 then some ([],1)
  else if b=92 then(match r with
   | []=>none
   |c::r2=>if c=34∨c=92 then(strM r2).map (fun x=>(c::x.1,x.2+2))
    else if c=120 then(match r2 with
     |h::l::r3=>(match hexV h,hexV l with
      |some x,some y=>(strM r3).map (fun z=>(UInt8.ofNat (16*x+y)::z.1,z.2+4))
      |_,_=>none)
     |_=>none)
    else none)
  else if yKj b=true then(strM r).map (fun x=>(b::x.1,x.2+1))else none
def tokF (l:List UInt8):Option (TkK×Nat):=match l with
 | []=>none
 |b::r=>
  if yA7 b=true then(kwF (l.takeWhile yA7)).map (fun k=>(.word k,(l.takeWhile yA7).length))
  else if yA1 b=true then(numM (l.takeWhile yA1)).map (fun n=>(.num (n:Int),(l.takeWhile yA1).length))
  else if b=34 then(match strM r with
   |some (c,n)=>if c.length≤200 then some (.str ⟨c.toArray⟩,n+1)else none
   |none=>none)
  else if b=46∧r.head?=some 46 then some (.sign 46,2)
  else if b=40∨b=41∨b=44∨b=62∨b=124 then some (.sign b,1)
  else none
inductive LexR:List UInt8→Nat→List Tk→Prop
 |fin {i:Nat}:LexR [] i [⟨.fin,i⟩]
 |space {l:List UInt8} {i:Nat} {ks:List Tk} (h:LexR l (i+1) ks):LexR (32::l) i ks
 |bad {b:UInt8} {l:List UInt8} {i:Nat} (hb:¬b=32) (h:tokF (b::l)=none):LexR (b::l) i [⟨.bad,i⟩]
 |tok {b:UInt8} {l:List UInt8} {i:Nat} {k:TkK} {n:Nat} {ks:List Tk} (hb:¬b=32) (h:tokF (b::l)=some (k,n)) (ht:LexR ((b::l).drop n) (i+n) ks):LexR (b::l) i (⟨k,i⟩::ks)
theorem yDw (p:α→Bool) (l:List α):(l.takeWhile p).length≤l.length:=by
 induction l with
 |nil=>simp
 |cons a l ih=>rw[List.takeWhile_cons];split<;>simp<;>omega
theorem yG5:∀(m:Nat) (l:List UInt8),l.length≤m→∀x,strM l=some x→1≤x.2∧x.2≤l.length∧x.1.length<x.2
 |0,l,hl,x,h=>by
  obtain rfl:=List.length_eq_zero_iff.1 (Nat.le_zero.1 hl)
  unfold strM at h;cases h
 |m+1,[],hl,x,h=>by unfold strM at h;cases h
 |m+1,b::r,hl,x,h=>by
  rw[List.length_cons]at hl⊢
  unfold strM at h
  split at h
  ·cases h;exact⟨Nat.le_refl _,by omega,by simp⟩
  split at h
  ·cases r with
   |nil=>cases h
   |cons c r2=>
    rw[List.length_cons]at hl⊢
    dsimp only at h
    split at h
    ·obtain⟨y,hy,rfl⟩:=Option.map_eq_some_iff.1 h
     have:=yG5 m r2 (by omega) y hy
     simp only[List.length_cons]
     omega
    split at h
    ·cases r2 with
     |nil=>cases h
     |cons a r3=>cases r3 with
      |nil=>cases h
      |cons e r4=>
       dsimp only at h
       split at h
       ·obtain⟨y,hy,rfl⟩:=Option.map_eq_some_iff.1 h
        simp only[List.length_cons]at hl⊢
        have:=yG5 m r4 (by omega) y hy
        omega
       ·cases h
    ·cases h
  ·split at h
   ·obtain⟨y,hy,rfl⟩:=Option.map_eq_some_iff.1 h
    have:=yG5 m r (by omega) y hy
    simp only[List.length_cons]
    omega
   ·cases h
def TkK.good:TkK→Prop
 | .word k=>(1≤k∧k≤13)∨k=16
 | .num n=>0≤n∧n<2^64
 | .str s=>s.size≤200
 | .sign b=>b=40∨b=41∨b=44∨b=62∨b=124∨b=46
 |_=>False
theorem yDz {k:TkK} {n:Nat} (h:tokF l=some (k,n)):1≤n∧n≤l.length∧k.good:=by
 unfold tokF at h;cases l with
 |nil=>cases h
 |cons b r=>
  dsimp only at h;split at h
  ·rename_i hb;obtain⟨y,hy,hq⟩:=Option.map_eq_some_iff.1 h;cases hq
   refine⟨?_,yDw _ _,yN0 (yIu hy)⟩;rw[List.takeWhile_cons,if_pos hb];simp
  split at h
  ·rename_i hb;obtain⟨y,hy,hq⟩:=Option.map_eq_some_iff.1 h;cases hq
   refine⟨?_,yDw _ _,?_⟩
   ·rw[List.takeWhile_cons,if_pos hb];simp
   ·unfold numM at hy;split at hy
    ·cases hy
    ·split at hy
     ·cases hy
      rename_i h64;exact⟨by omega,by omega⟩
     ·cases hy
  split at h
  ·cases hs:strM r with
   |none=>rw[hs]at h;cases h
   |some x=>
    rw[hs]at h;obtain⟨c,m⟩:=x;dsimp only at h;split at h
    ·rename_i hc;cases h
     have:=yG5 r.length r (Nat.le_refl _) _ hs;refine⟨by omega,by simp only[List.length_cons];omega,?_⟩;show(⟨c.toArray⟩:ByteArray).size≤200;show c.toArray.size≤200;simpa using hc
    ·cases h
  split at h
  ·rename_i hd;cases h
   refine⟨by omega,?_,by simp[TkK.good]⟩;cases r with
   |nil=>simp at hd
   |cons c r=>simp
  split at h
  ·rename_i hd;cases h
   exact⟨Nat.le_refl _,by simp,by rcases hd with rfl|rfl|rfl|rfl|rfl<;>simp[TkK.good]⟩
  ·cases h
theorem yOb:∀(m:Nat) (l:List UInt8) (i:Nat),l.length≤m→∃ks,LexR l i ks
 |0,l,i,h=>by
  obtain rfl:=List.length_eq_zero_iff.1 (Nat.le_zero.1 h)
  exact⟨_,.fin⟩
 |m+1,[],i,h=>⟨_,.fin⟩
 |m+1,b::l,i,h=>by
  by_cases hb:b=32
  ·subst hb
   obtain⟨ks,hk⟩:=yOb m l (i+1) (by simp at h;omega)
   exact⟨ks,.space hk⟩
  ·cases ht:tokF (b::l)with
   |none=>exact⟨_,.bad hb ht⟩
   |some x=>
    obtain⟨k,n⟩:=x
    have hn:=yDz ht
    obtain⟨ks,hk⟩:=yOb m ((b::l).drop n) (i+n) (by rw[List.length_drop];omega)
    exact⟨_,.tok hb ht hk⟩
theorem LexR.one {ks':List Tk} (h:LexR l i ks) (h':LexR l i ks'):ks=ks':=by
 induction h generalizing ks' with
 |fin=>cases h' with
  |fin=>rfl
 |space h ih=>cases h' with
  |space h'=>exact ih h'
  |bad hb _=>exact absurd rfl hb
  |tok hb _ _=>exact absurd rfl hb
 |bad hb h=>cases h' with
  |space h'=>exact absurd rfl hb
  |bad _ _=>rfl
  |tok _ h' _=>rw[h]at h';cases h'
 |tok hb h ht ih=>cases h' with
  |space h'=>exact absurd rfl hb
  |bad _ h'=>rw[h]at h';cases h'
  |tok _ h' ht'=>
   rw[h]at h';cases h'
   rw[ih ht']
inductive Toks:List Tk→Prop
 |last (k:Tk) (h:k.k=.fin∨k.k=.bad):Toks [k]
 |more (k:Tk) (h:k.k.good) {ks:List Tk} (t:Toks ks):Toks (k::ks)
theorem LexR.toks (h:LexR l i ks):Toks ks:=by
 induction h with
 |fin=>exact .last _ (.inl rfl)
 |space _ ih=>exact ih
 |bad _ _=>exact .last _ (.inr rfl)
 |tok _ h _ ih=>exact .more _ (yDz h).2.2 ih
theorem LexR.len (h:LexR l i ks):ks.length≤l.length+1∧∀k∈ks,k.pos≤i+l.length:=by
 induction h with
 |fin=>exact⟨by simp,fun k hk=>by simp at hk;subst hk;simp⟩
 |space _ ih=>exact⟨by have:=ih.1;simp;omega,fun k hk=>by have:=ih.2 k hk;simp;omega⟩
 |bad _ _=>exact⟨by simp,fun k hk=>by simp at hk;subst hk;simp⟩
 | @tok b l i k n ks hb h _ ih=>
   have hn:=yDz h;rw[List.length_drop]at ih;refine⟨by have:=ih.1;simp at this⊢;simp at hn;omega,fun q hq=>?_⟩;rcases List.mem_cons.1 hq with rfl|hq
   ·show i≤_;omega
   ·have:=ih.2 q hq;omega
theorem Toks.ne (h:Toks ks):ks≠ []:=by cases h<;>simp
theorem Toks.tail {k:Tk} (h:Toks (k::ks)) (hb:k.k.isBad=false) (hf:k.k.isFin=false):Toks ks∧k.k.good:=by
 cases h with
 |last _ h=>
  rcases h with h|h
  ·rw[h]at hf;cases hf
  ·rw[h]at hb;cases hb
 |more _ h t=>exact⟨t,h⟩
theorem yZc (w:World):Calls Tryz.prog 87 #[.int .i64 1] w fun e w'=>e=.returned (.string (yA8 1))∧w'=w:=by exact yH0
theorem yZb (w:World):Calls Tryz.prog 87 #[.int .i64 2] w fun e w'=>e=.returned (.string (yA8 2))∧w'=w:=by exact yH0
theorem yZa (w:World):Calls Tryz.prog 87 #[.int .i64 3] w fun e w'=>e=.returned (.string (yA8 3))∧w'=w:=by exact yH0
theorem yZ (w:World):Calls Tryz.prog 87 #[.int .i64 4] w fun e w'=>e=.returned (.string (yA8 4))∧w'=w:=by exact yH0
theorem yY9 (w:World):Calls Tryz.prog 87 #[.int .i64 5] w fun e w'=>e=.returned (.string (yA8 5))∧w'=w:=by exact yH0
theorem yY8 (w:World):Calls Tryz.prog 87 #[.int .i64 6] w fun e w'=>e=.returned (.string (yA8 6))∧w'=w:=by exact yH0
theorem yY7 (w:World):Calls Tryz.prog 87 #[.int .i64 7] w fun e w'=>e=.returned (.string (yA8 7))∧w'=w:=by exact yH0
theorem yY6 (w:World):Calls Tryz.prog 87 #[.int .i64 8] w fun e w'=>e=.returned (.string (yA8 8))∧w'=w:=by exact yH0
theorem yY5 (w:World):Calls Tryz.prog 87 #[.int .i64 9] w fun e w'=>e=.returned (.string (yA8 9))∧w'=w:=by exact yH0
theorem yU2 (w:World):Calls Tryz.prog 87 #[.int .i64 10] w fun e w'=>e=.returned (.string (yA8 10))∧w'=w:=by exact yH0
theorem yU1 (w:World):Calls Tryz.prog 87 #[.int .i64 11] w fun e w'=>e=.returned (.string (yA8 11))∧w'=w:=by exact yH0
theorem yU0 (w:World):Calls Tryz.prog 87 #[.int .i64 12] w fun e w'=>e=.returned (.string (yA8 12))∧w'=w:=by exact yH0
theorem yUz (w:World):Calls Tryz.prog 87 #[.int .i64 13] w fun e w'=>e=.returned (.string (yA8 13))∧w'=w:=by exact yH0
theorem ySa (k:Int) (w:World) (h1:1≤k) (h2:k≤13):Calls Tryz.prog 87 #[.int .i64 k] w fun e w'=>e=.returned (.string (yA8 k))∧w'=w:=by
 rcases yM h1 h2 with rfl|rfl|rfl|rfl|rfl|rfl|rfl|rfl|rfl|rfl|rfl|rfl|rfl
 ·exact yZc w
 ·exact yZb w
 ·exact yZa w
 ·exact yZ w
 ·exact yY9 w
 ·exact yY8 w
 ·exact yY7 w
 ·exact yY6 w
 ·exact yY5 w
 ·exact yU2 w
 ·exact yU1 w
 ·exact yU0 w
 ·exact yUz w
def LkP (l:ByteArray) (w:World) (e:Ending) (w':World):Prop:=∃k:Int,e=.returned (.int .i64 k)∧w'=w∧((1≤k∧k≤13∧bl (yA8 k)=bl l)∨(k=0∧∀j:Int,1≤j→j≤13→¬bl (yA8 j)=bl l))
theorem yHm (l:ByteArray) (w:World):Calls Tryz.prog 50 #[.string l] w (LkP l w):=by
 go_enter Tryz.func50,Tryz.ntmps50;go_wp2_with fail;go_loopw[3] (fun kv wr=>∃(j:Int),kv=.int .i64 j∧1≤j∧j≤14∧(∀i:Int,1≤i→i<j→¬bl (yA8 i)=bl l)∧wr=w) (fun kv _=>14-(intOf kv).toNat);case atStart=>exact⟨1,rfl,by omega,by omega,fun i _ _=>by omega,rfl⟩
 case round=>
  obtain⟨j,rfl,h1,h2,hJ,rfl⟩:=hrel;have HJ:Hid (∀i:Int,1≤i→i<j→¬bl (yA8 i)=bl l):=hJ;clear hJ;by_cases h13:j≤13
  ·go_wp2_with fail;refine(ySa j _ h1 h13).mono ?_;rintro e w1 ⟨rfl,hw1⟩;rw[hw1];clear hw1;by_cases he:bl (yA8 j)=bl l
   ·have zt:((yA8 j).toList==l.toList)=true:=by rw[ByteArray.toList_eq,ByteArray.toList_eq];exact beq_iff_eq.2 he
    go_wp2_with fail;go_ret;exact⟨j,rfl,rfl,.inl ⟨h1,h13,he⟩⟩
   ·have zt:((yA8 j).toList==l.toList)=false:=by rw[ByteArray.toList_eq,ByteArray.toList_eq];exact beq_eq_false_iff_ne.2 he
    go_wp2_with fail;go_roundw;case rel=>exact⟨j+1,by go_num,by omega,by omega,fun i hi hij=>by
     by_cases q:i<j
     ·exact HJ.out i hi q
     ·rw[show i=j by omega];exact he,by first|rfl|trivial⟩
    case measure=>simp[intOf];omega
  ·go_wp2_with fail;go_ret;exact⟨0,rfl,rfl,.inr ⟨rfl,fun i hi hij=>HJ.out i hi (by omega)⟩⟩
theorem yQp (l:ByteArray) (w:World):Calls Tryz.prog 52 #[.string l] w fun e w'=>∃b,e=.returned (.bool b)∧w'=w∧(b=true↔∃k,kwF (bl l)=some k):=by
 go_enter Tryz.func52,Tryz.ntmps52;go_wp2_with fail;refine(yHm l _).mono ?_;rintro e w1 ⟨k,rfl,hw1,hk⟩;rw[hw1];clear hw1;rcases hk with⟨h1,h2,h3⟩|⟨rfl,h2⟩
 ·have zk:(0:Int)<k:=by omega
  have H3:Hid (kwF (bl l)=some k):=yHo (.inl ⟨h1,h2,h3⟩);clear h3;go_wp2_with fail;go_ret;exact⟨_,rfl,rfl,by simp[H3.out]⟩
 ·have H2:Hid (∀j:Int,1≤j→j≤13→¬bl (yA8 j)=bl l):=h2;clear h2;by_cases hi:bl l= [105,102]
  ·have zi:(l.toList== [105,102])=true:=by rw[ByteArray.toList_eq];exact beq_iff_eq.2 hi
   have H3:Hid (kwF (bl l)=some 16):=yHo (.inr ⟨rfl,hi⟩);clear hi;go_wp2_with fail;go_ret;exact⟨_,rfl,rfl,by simp[H3.out,zi]⟩
  ·have zi:(l.toList== [105,102])=false:=by rw[ByteArray.toList_eq];exact beq_eq_false_iff_ne.2 hi
   have H3:Hid (∀k,¬kwF (bl l)=some k):=fun k q=>by
    rcases yIu q with⟨a,b,c⟩|⟨_,b⟩
    ·exact H2.out k a b c
    ·exact hi b
   clear hi;go_wp2_with fail;go_ret;exact⟨_,rfl,rfl,by simp[H3.out,zi]⟩
end Go.Proofs.YtgnpcenpcmdlfaaGreatDoor
