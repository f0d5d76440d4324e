import Derived.Test.YtgnpcenpcmdlfaaGreatDoorWkAA
import Derived.Test.YtgnpcenpcmdlfaaGreatDoorWkAB
import Derived.Test.YtgnpcenpcmdlfaaGreatDoorWkAC
import Derived.Lib.Bytealg
import Derived.Lib.Slices
import Derived.Lib.Walk
import Derived.Deep.QuietTactic
import Derived.BigQuiet
import Derived.Deep.DeepCutAuto
import Derived.Deep.RegionWith
import Derived.Lib.ItoaNum
import Derived.Maps.AppendAt
import Derived.Lib.ConvBytes
import Derived.ArgAppend
import Derived.Lib.SlBytesConst
import Derived.Deep.RegionHeld3
namespace Go.Proofs.YtgnpcenpcmdlfaaGreatDoor
open Go.ChangeShapes Go.WideShapes Go.ChangeAt Go.RowKit Go.Deep
set_option linter.unusedVariables false
set_option linter.unusedSimpArgs false
set_option maxRecDepth 100000
structure DInv (base cb:Nat) (bv:Value) (n:Nat) (w wr:World):Prop where
 d:DrawAt base cb bv n wr
 c:Chg (fun k=>k=cb) w wr
 lt:cb<w.heap.size
 hb:base≤w.heap.size
theorem DInv.start {base cb:Nat} {bv:Value} {n:Nat} {w:World} (h:DrawAt base cb bv n w):DInv base cb bv n w w:=⟨h,Chg.of_below (Below.refl _ _),h.lt.2,h.base⟩
theorem DInv.call {base cb:Nat} {bv:Value} {n:Nat} {w wr w1:World} (h:DInv base cb bv n w wr) (hd:Drew base cb bv n wr w1):DInv base cb bv n w w1:=⟨hd.1,h.c.trans hd.2,h.lt,h.hb⟩
theorem DInv.below {base cb:Nat} {bv:Value} {n:Nat} {w wr w1:World} (h:DInv base cb bv n w wr) (hd:Below wr.heap.size wr w1):DInv base cb bv n w w1:=⟨h.d.below hd,h.c.trans (Chg.of_below hd),h.lt,h.hb⟩
theorem DInv.grow {base cb:Nat} {bv:Value} {n:Nat} {w wr w1:World} (h:DInv base cb bv n w wr) {row:Option Nat} (hg:wr.grownBy w1 row) (hr:∀k,row=some k→w.heap.size≤k):DInv base cb bv n w w1:=by
 have hc:Chg (fun k=>row=some k) wr w1:=Chg.of_grown hg (fun k q=>q)
 have hl:=h.lt
 have hbb:=h.hb
 exact⟨h.d.chg hc (fun q=>by have:=hr _ q;omega) (fun k q=>by have:=hr _ q;omega),Chg.grown_new h.c hg hr,h.lt,h.hb⟩
theorem OwnNd.chg {S:Nat→Prop} {w w':World} {base g cap:Nat} {es:List Nd} (h:OwnNd w base g cap es) (hc:Chg S w w') (hn:¬S g):OwnNd w' base g cap es:=own_chg h hc (fun k q=>by simp[Value.ownBlock]at q;subst q;exact hn)
theorem ownNd_one (w:World) (base:Nat) (f:Nd) (hb:base≤w.heap.size):OwnNd (w.alloc (Obj.cells #[.int .i64 f.kind,.string f.s,.bool f.hi,.string f.t,.int .u64 f.lo,.int .u64 f.up,.int .i64 f.n] 65)) base w.heap.size 1 [f]:=
 World.ownsRow_lit (base:=base) (e:=65) (size:=7) w #[.int .i64 f.kind,.string f.s,.bool f.hi,.string f.t,.int .u64 f.lo,.int .u64 f.up,.int .i64 f.n] 1 hb (by decide) rfl
def TreP (base cb:Nat) (bv:Value) (n m:Nat) (w:World) (e:Ending) (w':World):Prop:=∃(g cp:Nat) (xs:List Nd),e=.returned (.slice (some ⟨g,0,none⟩) xs.length cp)∧xs.length≤m∧0<xs.length∧Hid ((∀e∈xs,e.small)∧OwnNd w' w.heap.size g cp xs∧DInv base cb bv n w w')
def TreC (base cb:Nat) (bv:Value) (n:Nat) (z:Int) (m:Nat):Prop:=∀w,DrawAt base cb bv n w→Calls Tryz.prog 99 #[.pointer (some ⟨cb,0,none⟩),.int .i64 z] w (TreP base cb bv n m w)
theorem small_kind (k:Int) (h:0≤k∧k≤100000):(⟨k,⟨#[]⟩,false,⟨#[]⟩,0,0,0⟩:Nd).small:=⟨Nat.zero_le _,Nat.zero_le _,(by show(0:Int)≤0∧(0:Int)≤100000;omega),(by show(0:Int)≤0∧(0:Int)≤100000;omega),(by show(0:Int)≤0∧(0:Int)≤100000;omega),h⟩
theorem TreP.up {base cb:Nat} {bv:Value} {n m m':Nat} {w:World} {e:Ending} {w':World} (h:TreP base cb bv n m w e w') (hm:m≤m'):TreP base cb bv n m' w e w':=by
 obtain⟨g,cp,xs,h1,h2,h3,h4⟩:=h
 exact⟨g,cp,xs,h1,by omega,h3,h4⟩
structure Two (base cb:Nat) (bv:Value) (n:Nat) (w:World) (ga ca gb cc:Nat) (A B:List Nd) (wr:World):Prop where
 a:OwnNd wr w.heap.size ga ca A
 b:OwnNd wr w.heap.size gb cc B
 ne:¬ga=gb
 d:DInv base cb bv n w wr
 sa:∀e∈A,e.small
 sb:∀e∈B,e.small
set_option maxHeartbeats 8000000 in
theorem tree_step (base cb:Nat) (bv:Value) (n:Nat) (z:Int) (m:Nat) (hz0:0≤z) (hz1:z≤100) (hm:m≤10000) (HT0:0<z→TreC base cb bv n (z-1) m):TreC base cb bv n z (3*m+1):=by
 intro w h
 have HT:Hid (0<z→TreC base cb bv n (z-1) m):=HT0
 have HD:Hid (DInv base cb bv n w w):=DInv.start h
 clear h HT0
 have leafArm:∀(wx:World),DInv base cb bv n w wx→Calls Tryz.prog 118 #[.pointer (some ⟨cb,0,none⟩)] wx (LefP base cb bv n wx):=fun wx hx=>drawLeaf_core base cb bv n wx hx.d
 have HL:Hid (∀(wx:World),DInv base cb bv n w wx→Calls Tryz.prog 118 #[.pointer (some ⟨cb,0,none⟩)] wx (LefP base cb bv n wx)):=leafArm
 clear leafArm
 go_enter Tryz.func99,Tryz.ntmps99
 go_wp2_with fail
 refine(below_core base cb bv n 10 _ HD.d (by omega) (by omega)).mono ?_
 rintro e w1 ⟨x,rfl,hx0,hx1,hd1⟩
 have H1:Hid (DInv base cb bv n w w1):=HD.call hd1
 have hs1:=hd1.2.size
 clear hd1
 by_cases hz:z=0∨x<2
 ·have fin:∀(wx wy:World) (f:Nd),DInv base cb bv n w wx→f.small→wy=wx.alloc (Obj.cells #[.int .i64 f.kind,.string f.s,.bool f.hi,.string f.t,.int .u64 f.lo,.int .u64 f.up,.int .i64 f.n] 65)→TreP base cb bv n (3*m+1) w (.returned (.slice (some ⟨wx.heap.size,0,none⟩) 1 1)) wy:=fun wx wy f hx hf hy=>by
   subst hy
   refine⟨wx.heap.size,1,[f],rfl,by simp,by simp,fun e he=>by simp at he;subst he;exact hf,ownNd_one wx _ f hx.c.size,hx.below (qB)⟩
  have HF:Hid (∀(wx wy:World) (f:Nd),DInv base cb bv n w wx→f.small→wy=wx.alloc (Obj.cells #[.int .i64 f.kind,.string f.s,.bool f.hi,.string f.t,.int .u64 f.lo,.int .u64 f.up,.int .i64 f.n] 65)→TreP base cb bv n (3*m+1) w (.returned (.slice (some ⟨wx.heap.size,0,none⟩) 1 1)) wy):=fin
  clear fin
  by_cases hz':z=0
  ·subst hz'
   exact zzQ54
  ·have hx2:x<2:=by omega
   have hzb:(z==0)=false:=by rw[beq_eq_false_iff_ne];exact hz'
   exact zzQ54
 ·have hzb:(z==0)=false:=by rw[beq_eq_false_iff_ne];omega
  have hx2:¬x<2:=by omega
  have HC:Hid (∀wx,DInv base cb bv n w wx→Calls Tryz.prog 99 #[.pointer (some ⟨cb,0,none⟩),.int .i64 (z-1)] wx (TreP base cb bv n m wx)):=fun wx hx=>HT.out (by omega) wx hx.d
  have hzw:1≤z:=by omega
  clear hz
  go_wp2_with fail
  refine(HC.out _ H1.out).mono ?_
  rintro e w2 ⟨ga,ca,A,rfl,hAl,hA0,K2⟩
  have H2:Hid (DInv base cb bv n w w2):=⟨K2.out.2.2.d,H1.c.trans K2.out.2.2.c,H1.lt,H1.hb⟩
  have hs2:=K2.out.2.2.c.size
  have hga:=K2.out.2.1.lt
  go_wp2_with fail
  refine(HC.out _ H2.out).mono ?_
  rintro e w3 ⟨gb,cc,B,rfl,hBl,hB0,K3⟩
  have hs3:=K3.out.2.2.c.size
  have hgb:=K3.out.2.1.lt
  have H3:Hid (Two base cb bv n w ga ca gb cc A B w3):=by
   have hcl:=H1.lt
   refine⟨(K2.out.2.1.mono (by omega)).chg K3.out.2.2.c (by omega),K3.out.2.1.mono (by omega),by omega,⟨K3.out.2.2.d,H2.c.trans K3.out.2.2.c,H1.lt,H1.hb⟩,K2.out.1,K3.out.1⟩
  clear K2 K3 H2 HD
  by_cases hx6:x<6
  ·skip
   go_wp2_with (at_builtin;refine wpList_append_nd _ rfl _ _ rfl w.heap.size ga ca A.length gb 0 B.length cc A B rfl rfl rfl rfl H3.a H3.b.at ?hl1 ?hb1 ?_)
   case hl1=>omega
   case hb1=>exact H3.d.c.size
   intro g4 c4 w4 hO4 hgr4 hat4
   obtain⟨Q,hQ⟩:=qE (A++B)
   rw[←hQ]at hO4
   have HQ:Hid (Q.length=A.length+B.length):=by show _=_;rw[hQ];simp
   have H4:Hid (OwnNd w4 w.heap.size g4 c4 Q∧DInv base cb bv n w w4∧(∀e∈Q,e.small)):=⟨hO4,H3.d.grow hgr4 (fun k q=>by cases q;exact H3.a.lt.1),fun e he=>by rw[hQ]at he;exact(List.mem_append.1 he).elim (fun q=>H3.sa e q) (fun q=>H3.sb e q)⟩
   clear hO4 hgr4 hat4 hQ
   obtain⟨W5,hW5⟩:=qE (w4.alloc (Obj.cells #[.int .i64 14,.string ⟨#[]⟩,.bool false,.string ⟨#[]⟩,.int .u64 0,.int .u64 0,.int .i64 0] 65):World)
   have H5:Hid (OwnNd W5 w.heap.size g4 c4 Q∧DInv base cb bv n w W5∧NdsAt W5 w4.heap.size 0 [(⟨14,⟨#[]⟩,false,⟨#[]⟩,0,0,0⟩:Nd)]):=by
    have hb5:Below w4.heap.size w4 W5:=by rw[hW5];exact qB
    exact⟨H4.1.below hb5 H4.1.lt.2,H4.2.1.below hb5,by rw[hW5];exact(ownNd_one w4 w.heap.size ⟨14,⟨#[]⟩,false,⟨#[]⟩,0,0,0⟩ H4.2.1.c.size).at⟩
   have HW5:Hid (W5=w4.alloc (Obj.cells #[.int .i64 14,.string ⟨#[]⟩,.bool false,.string ⟨#[]⟩,.int .u64 0,.int .u64 0,.int .i64 0] 65)):=hW5
   clear hW5
   go_wp2_with (at_builtin;rw[←HW5.out];refine wpList_append_nd _ rfl _ _ rfl w.heap.size g4 c4 (A.length+B.length) w4.heap.size 0 1 1 Q [(⟨14,⟨#[]⟩,false,⟨#[]⟩,0,0,0⟩:Nd)] rfl rfl HQ.symm rfl H5.1 H5.2.2 ?hl2 ?hb2 ?_)
   case hl2=>rw[HQ.out];simp;omega
   case hb2=>exact H5.2.1.c.size
   intro g6 c6 w6 hO6 hgr6 hat6
   have H6:Hid (TreP base cb bv n (3*m+1) w (.returned (.slice (some ⟨g6,0,none⟩) (A.length+B.length+1) c6)) w6):=by
    have hq:=HQ.out
    refine⟨g6,c6,Q++ [(⟨14,⟨#[]⟩,false,⟨#[]⟩,0,0,0⟩:Nd)],by rw[List.length_append,hq];rfl,by rw[List.length_append,hq];simp;omega,by simp,fun e he=>?_,hO6,H5.2.1.grow hgr6 (fun k q=>by cases q;exact H5.1.lt.1)⟩
    rcases List.mem_append.1 he with q|q
    ·exact H4.2.2 e q
    ·simp at q;subst q;exact small_kind 14 (by omega)
   clear hO6 hgr6 hat6 HW5
   go_wp2_with fail
   go_ret
   exact H6.out
  ·by_cases hx8:x<8
   ·skip
    go_wp2_with (at_builtin;refine wpList_append_nd _ rfl _ _ rfl w.heap.size ga ca A.length gb 0 B.length cc A B rfl rfl rfl rfl H3.a H3.b.at ?hl1 ?hb1 ?_)
    case hl1=>omega
    case hb1=>exact H3.d.c.size
    intro g4 c4 w4 hO4 hgr4 hat4
    obtain⟨Q,hQ⟩:=qE (A++B)
    rw[←hQ]at hO4
    have HQ:Hid (Q.length=A.length+B.length):=by show _=_;rw[hQ];simp
    have H4:Hid (OwnNd w4 w.heap.size g4 c4 Q∧DInv base cb bv n w w4∧(∀e∈Q,e.small)):=⟨hO4,H3.d.grow hgr4 (fun k q=>by cases q;exact H3.a.lt.1),fun e he=>by rw[hQ]at he;exact(List.mem_append.1 he).elim (fun q=>H3.sa e q) (fun q=>H3.sb e q)⟩
    clear hO4 hgr4 hat4 hQ
    obtain⟨W5,hW5⟩:=qE (w4.alloc (Obj.cells #[.int .i64 15,.string ⟨#[]⟩,.bool false,.string ⟨#[]⟩,.int .u64 0,.int .u64 0,.int .i64 0] 65):World)
    have H5:Hid (OwnNd W5 w.heap.size g4 c4 Q∧DInv base cb bv n w W5∧NdsAt W5 w4.heap.size 0 [(⟨15,⟨#[]⟩,false,⟨#[]⟩,0,0,0⟩:Nd)]):=by
     have hb5:Below w4.heap.size w4 W5:=by rw[hW5];exact qB
     exact⟨H4.1.below hb5 H4.1.lt.2,H4.2.1.below hb5,by rw[hW5];exact(ownNd_one w4 w.heap.size ⟨15,⟨#[]⟩,false,⟨#[]⟩,0,0,0⟩ H4.2.1.c.size).at⟩
    have HW5:Hid (W5=w4.alloc (Obj.cells #[.int .i64 15,.string ⟨#[]⟩,.bool false,.string ⟨#[]⟩,.int .u64 0,.int .u64 0,.int .i64 0] 65)):=hW5
    clear hW5
    go_wp2_with (at_builtin;rw[←HW5.out];refine wpList_append_nd _ rfl _ _ rfl w.heap.size g4 c4 (A.length+B.length) w4.heap.size 0 1 1 Q [(⟨15,⟨#[]⟩,false,⟨#[]⟩,0,0,0⟩:Nd)] rfl rfl HQ.symm rfl H5.1 H5.2.2 ?hl2 ?hb2 ?_)
    case hl2=>rw[HQ.out];simp;omega
    case hb2=>exact H5.2.1.c.size
    intro g6 c6 w6 hO6 hgr6 hat6
    have H6:Hid (TreP base cb bv n (3*m+1) w (.returned (.slice (some ⟨g6,0,none⟩) (A.length+B.length+1) c6)) w6):=by
     have hq:=HQ.out
     refine⟨g6,c6,Q++ [(⟨15,⟨#[]⟩,false,⟨#[]⟩,0,0,0⟩:Nd)],by rw[List.length_append,hq];rfl,by rw[List.length_append,hq];simp;omega,by simp,fun e he=>?_,hO6,H5.2.1.grow hgr6 (fun k q=>by cases q;exact H5.1.lt.1)⟩
     rcases List.mem_append.1 he with q|q
     ·exact H4.2.2 e q
     ·simp at q;subst q;exact small_kind 15 (by omega)
    clear hO6 hgr6 hat6 HW5
    go_wp2_with fail
    go_ret
    exact H6.out
   ·by_cases hx9:x=8
    ·subst hx9
     have HON:Hid (∀wx,DInv base cb bv n w wx→Calls Tryz.prog 33 #[.pointer (some ⟨cb,0,none⟩),.int .i64 3] wx fun e w'=>∃v:Value,e=.returned v∧(v=.bool true∨v=.bool false)∧Drew base cb bv n wx w'):=fun wx hx=>once_core base cb bv n 3 wx hx.d (by omega) (by omega)
     go_wp2_with fail
     refine(HON.out _ H3.d).mono ?_
     rintro e w3' ⟨v,rfl,hv,hd⟩
     have H3b:Hid (Two base cb bv n w ga ca gb cc A B w3'):=by
      have hcl:=H1.lt
      exact⟨H3.a.chg hd.2 (by have:=H3.a.lt.1;omega),H3.b.chg hd.2 (by have:=H3.b.lt.1;omega),H3.ne,H3.d.call hd,H3.sa,H3.sb⟩
     clear H3 hd HON
     rcases hv with rfl|rfl
     ·skip
      go_wp2_with (at_builtin;refine wpList_append_nd _ rfl _ _ rfl w.heap.size ga ca A.length ga 0 A.length ca A A rfl rfl rfl rfl H3b.a H3b.a.at ?hl1 ?hb1 ?_)
      case hl1=>omega
      case hb1=>exact H3b.d.c.size
      intro g4 c4 w4 hO4 hgr4 hat4
      obtain⟨Q,hQ⟩:=qE (A++A)
      rw[←hQ]at hO4
      have HQ:Hid (Q.length=A.length+A.length):=by show _=_;rw[hQ];simp
      have H4:Hid (OwnNd w4 w.heap.size g4 c4 Q∧DInv base cb bv n w w4∧(∀e∈Q,e.small)):=⟨hO4,H3b.d.grow hgr4 (fun k q=>by cases q;exact H3b.a.lt.1),fun e he=>by rw[hQ]at he;exact(List.mem_append.1 he).elim (fun q=>H3b.sa e q) (fun q=>H3b.sa e q)⟩
      clear hO4 hgr4 hat4 hQ
      obtain⟨W5,hW5⟩:=qE (w4.alloc (Obj.cells #[.int .i64 15,.string ⟨#[]⟩,.bool false,.string ⟨#[]⟩,.int .u64 0,.int .u64 0,.int .i64 0] 65):World)
      have H5:Hid (OwnNd W5 w.heap.size g4 c4 Q∧DInv base cb bv n w W5∧NdsAt W5 w4.heap.size 0 [(⟨15,⟨#[]⟩,false,⟨#[]⟩,0,0,0⟩:Nd)]):=by
       have hb5:Below w4.heap.size w4 W5:=by rw[hW5];exact qB
       exact⟨H4.1.below hb5 H4.1.lt.2,H4.2.1.below hb5,by rw[hW5];exact(ownNd_one w4 w.heap.size ⟨15,⟨#[]⟩,false,⟨#[]⟩,0,0,0⟩ H4.2.1.c.size).at⟩
      have HW5:Hid (W5=w4.alloc (Obj.cells #[.int .i64 15,.string ⟨#[]⟩,.bool false,.string ⟨#[]⟩,.int .u64 0,.int .u64 0,.int .i64 0] 65)):=hW5
      clear hW5
      go_wp2_with (at_builtin;rw[←HW5.out];refine wpList_append_nd _ rfl _ _ rfl w.heap.size g4 c4 (A.length+A.length) w4.heap.size 0 1 1 Q [(⟨15,⟨#[]⟩,false,⟨#[]⟩,0,0,0⟩:Nd)] rfl rfl HQ.symm rfl H5.1 H5.2.2 ?hl2 ?hb2 ?_)
      case hl2=>rw[HQ.out];simp;omega
      case hb2=>exact H5.2.1.c.size
      intro g6 c6 w6 hO6 hgr6 hat6
      have H6:Hid (TreP base cb bv n (3*m+1) w (.returned (.slice (some ⟨g6,0,none⟩) (A.length+A.length+1) c6)) w6):=by
       have hq:=HQ.out
       refine⟨g6,c6,Q++ [(⟨15,⟨#[]⟩,false,⟨#[]⟩,0,0,0⟩:Nd)],by rw[List.length_append,hq];rfl,by rw[List.length_append,hq];simp;omega,by simp,fun e he=>?_,hO6,H5.2.1.grow hgr6 (fun k q=>by cases q;exact H5.1.lt.1)⟩
       rcases List.mem_append.1 he with q|q
       ·exact H4.2.2 e q
       ·simp at q;subst q;exact small_kind 15 (by omega)
      clear hO6 hgr6 hat6 HW5
      go_wp2_with fail
      go_ret
      exact H6.out
     ·skip
      have H3d:Hid (DInv base cb bv n w w3'):=H3b.d
      go_wp2_with fail
      refine(HC.out _ H3d.out).mono ?_
      rintro e w7 ⟨gc,cd,C,rfl,hCl,hC0,K7⟩
      have hs7:=K7.out.2.2.c.size
      have hgc:=K7.out.2.1.lt
      have H7:Hid (Two base cb bv n w ga ca gb cc A B w7∧OwnNd w7 w.heap.size gc cd C∧(∀e∈C,e.small)∧¬gc=ga):=by
       have hcl:=H1.lt
       have hza:=H3b.a.lt
       have hzw:=H3b.d.c.size
       exact⟨⟨H3b.a.chg K7.out.2.2.c (by omega),H3b.b.chg K7.out.2.2.c (by have:=H3b.b.lt.1;omega),H3b.ne,⟨K7.out.2.2.d,H3b.d.c.trans K7.out.2.2.c,H1.lt,H1.hb⟩,H3b.sa,H3b.sb⟩,K7.out.2.1.mono (by omega),K7.out.1,by omega⟩
      clear K7 H3d H3b
      go_wp2_with (at_builtin;refine wpList_append_nd _ rfl _ _ rfl w.heap.size ga ca A.length gb 0 B.length cc A B rfl rfl rfl rfl H7.1.a H7.1.b.at ?hl1 ?hb1 ?_)
      case hl1=>omega
      case hb1=>exact H7.1.d.c.size
      intro g4 c4 w4 hO4 hgr4 hat4
      obtain⟨Q,hQ⟩:=qE (A++B)
      rw[←hQ]at hO4
      have HQ:Hid (Q.length=A.length+B.length):=by show _=_;rw[hQ];simp
      have H4:Hid (OwnNd w4 w.heap.size g4 c4 Q∧DInv base cb bv n w w4∧(∀e∈Q,e.small)∧OwnNd w4 w.heap.size gc cd C):=⟨hO4,H7.1.d.grow hgr4 (fun k q=>by cases q;exact H7.1.a.lt.1),fun e he=>by rw[hQ]at he;exact(List.mem_append.1 he).elim (fun q=>H7.1.sa e q) (fun q=>H7.1.sb e q),H7.2.1.chg (Chg.of_grown (S:=fun k=>k=ga) hgr4 (fun k q=>by cases q;rfl)) H7.2.2.2⟩
      clear hO4 hgr4 hat4 hQ
      go_wp2_with (at_builtin;refine wpList_append_nd _ rfl _ _ rfl w.heap.size g4 c4 (A.length+B.length) gc 0 C.length cd Q C rfl rfl HQ.symm rfl H4.1 H4.2.2.2.at ?hl2 ?hb2 ?_)
      case hl2=>rw[HQ.out];omega
      case hb2=>exact H4.2.1.c.size
      intro g8 c8 w8 hO8 hgr8 hat8
      obtain⟨T,hTq⟩:=qE (Q++C)
      rw[←hTq]at hO8
      have HTl:Hid (T.length=A.length+B.length+C.length):=by show _=_;rw[hTq,List.length_append,HQ.out]
      have H8:Hid (OwnNd w8 w.heap.size g8 c8 T∧DInv base cb bv n w w8∧(∀e∈T,e.small)):=⟨hO8,H4.2.1.grow hgr8 (fun k q=>by cases q;exact H4.1.lt.1),fun e he=>by rw[hTq]at he;exact(List.mem_append.1 he).elim (fun q=>H4.2.2.1 e q) (fun q=>H7.2.2.1 e q)⟩
      clear hO8 hgr8 hat8 hTq
      obtain⟨W5,hW5⟩:=qE (w8.alloc (Obj.cells #[.int .i64 16,.string ⟨#[]⟩,.bool false,.string ⟨#[]⟩,.int .u64 0,.int .u64 0,.int .i64 0] 65):World)
      have H5:Hid (OwnNd W5 w.heap.size g8 c8 T∧DInv base cb bv n w W5∧NdsAt W5 w8.heap.size 0 [(⟨16,⟨#[]⟩,false,⟨#[]⟩,0,0,0⟩:Nd)]):=by
       have hb5:Below w8.heap.size w8 W5:=by rw[hW5];exact qB
       exact⟨H8.1.below hb5 H8.1.lt.2,H8.2.1.below hb5,by rw[hW5];exact(ownNd_one w8 w.heap.size ⟨16,⟨#[]⟩,false,⟨#[]⟩,0,0,0⟩ H8.2.1.c.size).at⟩
      have HW5:Hid (W5=w8.alloc (Obj.cells #[.int .i64 16,.string ⟨#[]⟩,.bool false,.string ⟨#[]⟩,.int .u64 0,.int .u64 0,.int .i64 0] 65)):=hW5
      clear hW5
      go_wp2_with (at_builtin;rw[←HW5.out];refine wpList_append_nd _ rfl _ _ rfl w.heap.size g8 c8 (A.length+B.length+C.length) w8.heap.size 0 1 1 T [(⟨16,⟨#[]⟩,false,⟨#[]⟩,0,0,0⟩:Nd)] rfl rfl HTl.symm rfl H5.1 H5.2.2 ?hl3 ?hb3 ?_)
      case hl3=>rw[HTl.out];simp;omega
      case hb3=>exact H5.2.1.c.size
      exact zzQ30
    ·have hxb:(x==8)=false:=by rw[beq_eq_false_iff_ne];exact hx9
     have H3d:Hid (DInv base cb bv n w w3):=H3.d
     go_wp2_with fail
     refine(HC.out _ H3d.out).mono ?_
     rintro e w7 ⟨gc,cd,C,rfl,hCl,hC0,K7⟩
     have hs7:=K7.out.2.2.c.size
     have hgc:=K7.out.2.1.lt
     have H7:Hid (Two base cb bv n w ga ca gb cc A B w7∧OwnNd w7 w.heap.size gc cd C∧(∀e∈C,e.small)∧¬gc=ga):=by
      have hcl:=H1.lt
      have hza:=H3.a.lt
      have hzw:=H3.d.c.size
      exact⟨⟨H3.a.chg K7.out.2.2.c (by omega),H3.b.chg K7.out.2.2.c (by have:=H3.b.lt.1;omega),H3.ne,⟨K7.out.2.2.d,H3.d.c.trans K7.out.2.2.c,H1.lt,H1.hb⟩,H3.sa,H3.sb⟩,K7.out.2.1.mono (by omega),K7.out.1,by omega⟩
     clear K7 H3d H3
     go_wp2_with (at_builtin;refine wpList_append_nd _ rfl _ _ rfl w.heap.size ga ca A.length gb 0 B.length cc A B rfl rfl rfl rfl H7.1.a H7.1.b.at ?hl1 ?hb1 ?_)
     case hl1=>omega
     case hb1=>exact H7.1.d.c.size
     intro g4 c4 w4 hO4 hgr4 hat4
     obtain⟨Q,hQ⟩:=qE (A++B)
     rw[←hQ]at hO4
     have HQ:Hid (Q.length=A.length+B.length):=by show _=_;rw[hQ];simp
     have H4:Hid (OwnNd w4 w.heap.size g4 c4 Q∧DInv base cb bv n w w4∧(∀e∈Q,e.small)∧OwnNd w4 w.heap.size gc cd C):=⟨hO4,H7.1.d.grow hgr4 (fun k q=>by cases q;exact H7.1.a.lt.1),fun e he=>by rw[hQ]at he;exact(List.mem_append.1 he).elim (fun q=>H7.1.sa e q) (fun q=>H7.1.sb e q),H7.2.1.chg (Chg.of_grown (S:=fun k=>k=ga) hgr4 (fun k q=>by cases q;rfl)) H7.2.2.2⟩
     clear hO4 hgr4 hat4 hQ
     go_wp2_with (at_builtin;refine wpList_append_nd _ rfl _ _ rfl w.heap.size g4 c4 (A.length+B.length) gc 0 C.length cd Q C rfl rfl HQ.symm rfl H4.1 H4.2.2.2.at ?hl2 ?hb2 ?_)
     case hl2=>rw[HQ.out];omega
     case hb2=>exact H4.2.1.c.size
     intro g8 c8 w8 hO8 hgr8 hat8
     obtain⟨T,hTq⟩:=qE (Q++C)
     rw[←hTq]at hO8
     have HTl:Hid (T.length=A.length+B.length+C.length):=by show _=_;rw[hTq,List.length_append,HQ.out]
     have H8:Hid (OwnNd w8 w.heap.size g8 c8 T∧DInv base cb bv n w w8∧(∀e∈T,e.small)):=⟨hO8,H4.2.1.grow hgr8 (fun k q=>by cases q;exact H4.1.lt.1),fun e he=>by rw[hTq]at he;exact(List.mem_append.1 he).elim (fun q=>H4.2.2.1 e q) (fun q=>H7.2.2.1 e q)⟩
     clear hO8 hgr8 hat8 hTq
     obtain⟨W5,hW5⟩:=qE (w8.alloc (Obj.cells #[.int .i64 16,.string ⟨#[]⟩,.bool false,.string ⟨#[]⟩,.int .u64 0,.int .u64 0,.int .i64 0] 65):World)
     have H5:Hid (OwnNd W5 w.heap.size g8 c8 T∧DInv base cb bv n w W5∧NdsAt W5 w8.heap.size 0 [(⟨16,⟨#[]⟩,false,⟨#[]⟩,0,0,0⟩:Nd)]):=by
      have hb5:Below w8.heap.size w8 W5:=by rw[hW5];exact qB
      exact⟨H8.1.below hb5 H8.1.lt.2,H8.2.1.below hb5,by rw[hW5];exact(ownNd_one w8 w.heap.size ⟨16,⟨#[]⟩,false,⟨#[]⟩,0,0,0⟩ H8.2.1.c.size).at⟩
     have HW5:Hid (W5=w8.alloc (Obj.cells #[.int .i64 16,.string ⟨#[]⟩,.bool false,.string ⟨#[]⟩,.int .u64 0,.int .u64 0,.int .i64 0] 65)):=hW5
     clear hW5
     go_wp2_with (at_builtin;rw[←HW5.out];refine wpList_append_nd _ rfl _ _ rfl w.heap.size g8 c8 (A.length+B.length+C.length) w8.heap.size 0 1 1 T [(⟨16,⟨#[]⟩,false,⟨#[]⟩,0,0,0⟩:Nd)] rfl rfl HTl.symm rfl H5.1 H5.2.2 ?hl3 ?hb3 ?_)
     case hl3=>rw[HTl.out];simp;omega
     case hb3=>exact H5.2.1.c.size
     exact zzQ30
theorem tree_any (base cb:Nat) (bv:Value) (n:Nat) (z:Int) (h0:0≤z) (h3:z≤3):TreC base cb bv n z 40:=by
 have t0:TreC base cb bv n 0 1:=tree_step base cb bv n 0 0 (by omega) (by omega) (by omega) (fun q=>absurd q (by omega))
 have t1:TreC base cb bv n 1 4:=tree_step base cb bv n 1 1 (by omega) (by omega) (by omega) (fun _=>t0)
 have t2:TreC base cb bv n 2 13:=tree_step base cb bv n 2 4 (by omega) (by omega) (by omega) (fun _=>t1)
 have t3:TreC base cb bv n 3 40:=tree_step base cb bv n 3 13 (by omega) (by omega) (by omega) (fun _=>t2)
 have hz:z=0∨z=1∨z=2∨z=3:=by omega
 rcases hz with rfl|rfl|rfl|rfl
 ·exact fun w hw=>(t0 w hw).mono fun e w' h=>h.up (by omega)
 ·exact fun w hw=>(t1 w hw).mono fun e w' h=>h.up (by omega)
 ·exact fun w hw=>(t2 w hw).mono fun e w' h=>h.up (by omega)
 ·exact t3
def FilP (base cb:Nat) (bv:Value) (n m:Nat) (w:World) (e:Ending) (w':World):Prop:=∃(g cp:Nat) (xs:List Nd),e=.returned (.agg #[.slice (some ⟨g,0,none⟩) xs.length cp])∧xs.length≤m∧0<xs.length∧Hid ((∀e∈xs,e.small)∧OwnNd w' w.heap.size g cp xs∧DInv base cb bv n w w')
set_option maxHeartbeats 4000000 in
theorem drawFilter_core (base cb:Nat) (bv:Value) (n:Nat) (w:World) (h:DrawAt base cb bv n w):
  Calls Tryz.prog 69 #[.pointer (some ⟨cb,0,none⟩)] w (FilP base cb bv n 40 w):=by
 obtain⟨Wa,hWa⟩:=qE (w.alloc (Obj.cells #[.slice none 0 0] 25):World)
 have hba:Below w.heap.size w Wa:=by rw[hWa];exact qB
 have HA:Hid (DInv base cb bv n w Wa∧BoxAt Wa w.heap.size 25 1 w.heap.size [.slice none 0 0]):=⟨(DInv.start h).below hba,by rw[hWa];exact boxAt_new w #[.slice none 0 0] (Nat.le_refl _) rfl⟩
 clear h hba
 go_enter Tryz.func69,Tryz.ntmps69
 go_wp2_with fail
 rw[←hWa]
 clear hWa
 refine(below_core base cb bv n 3 _ HA.1.d (by omega) (by omega)).mono ?_
 rintro e w1 ⟨x,rfl,hx0,hx1,hd1⟩
 have H1:Hid (DInv base cb bv n w w1∧BoxAt w1 w.heap.size 25 1 w.heap.size [.slice none 0 0]):=⟨HA.1.call hd1,HA.2.chg hd1.2 (by have:=HA.1.lt;omega)⟩
 clear hd1 HA
 have HC:Hid (Calls Tryz.prog 99 #[.pointer (some ⟨cb,0,none⟩),.int .i64 (1+x)] w1 (TreP base cb bv n 40 w1)):=tree_any base cb bv n (1+x) (by omega) (by omega) w1 H1.1.d
 go_wp2_with fail
 refine HC.mono ?_
 rintro e w2 ⟨g,cp,xs,rfl,hl,h0,K2⟩
 have H2:Hid (BoxAt w2 w.heap.size 25 1 w.heap.size [.slice none 0 0]):=H1.2.chg K2.out.2.2.c (by have:=H1.1.lt;omega)
 obtain⟨N,hN⟩:=qE xs.length
 have HN:Hid (N=xs.length):=hN
 rw[←hN]at hl h0⊢
 clear hN
 obtain⟨W3,hW3⟩:=qE (w2.setCell ⟨w.heap.size,0,none⟩ (.slice (some ⟨g,0,none⟩) N cp):World)
 have H3:Hid (FilP base cb bv n 40 w (.returned (.agg #[.slice (some ⟨g,0,none⟩) N cp])) W3):=by
  have hgl:=K2.out.2.1.lt
  have hz1:=H1.2.lt.2
  have hc3:Chg (fun k=>k=w.heap.size) w2 W3:=by rw[hW3];exact Chg.of_set _ _ _ _ rfl
  refine⟨g,cp,xs,by rw[HN.out],by rw[←HN.out];exact hl,by rw[←HN.out];exact h0,K2.out.1,(K2.out.2.1.mono (by omega)).chg hc3 (by omega),?_⟩
  have hd2:DInv base cb bv n w w2:=⟨K2.out.2.2.d,H1.1.c.trans K2.out.2.2.c,H1.1.lt,H1.1.hb⟩
  rw[hW3]
  exact hd2.grow (grown_set w2 w.heap.size 0 _) (fun k q=>by cases q;exact Nat.le_refl _)
 have p0:W3.cell? ⟨w.heap.size,0,none⟩=some (.slice (some ⟨g,0,none⟩) N cp):=by
  rw[hW3];exact(H2.set 0 (.slice (some ⟨g,0,none⟩) N cp)).cell (j:=0) rfl
 have c0:=H2.cell (j:=0) rfl
 have f0:=H2.frozen 0
 clear K2 HC
 go_wp2_with fail
 rw[←hW3]
 exact bodyPost_ret (by simp[results,Tryz.results69,go_sem,p0]) rfl H3.out
theorem ownNd_lits (w:World) (base:Nat) (es:List Nd) (cs:Array Value) (hcs:cs.toList=cellsN es) (hb:base≤w.heap.size) (hl:es.length≤maxLen):OwnNd (w.alloc (Obj.cells cs 65)) base w.heap.size es.length es:=by
 have h:=World.ownsRow_lit (base:=base) (e:=65) (size:=7) w cs es.length hb hl (by rw[←Array.length_toList,hcs,length_cellsN])
 unfold OwnNd
 rw[←hcs]
 exact h
abbrev limN:Nd:=⟨11,⟨#[]⟩,false,⟨#[]⟩,0,0,2⟩
theorem lim_small:limN.small:=⟨by decide,by decide,by decide,by decide,by decide,by decide⟩
structure LimJ (base cb:Nat) (bv:Value) (n:Nat) (w:World) (eb g cp len:Nat) (wr:World):Prop where
 row:∃xs:List Nd,len=xs.length∧(∀e∈xs,e.small)∧OwnNd wr w.heap.size g cp xs
 leaf:BoxAt wr w.heap.size 65 7 eb limN.seven
 res:BoxAt wr w.heap.size 25 1 w.heap.size [.slice none 0 0]
 d:DInv base cb bv n w wr
 ne:¬g=eb∧w.heap.size<eb
theorem LimJ.app {base cb:Nat} {bv:Value} {n:Nat} {w:World} {eb g cp len:Nat} {wr wx w':World} (h:LimJ base cb bv n w eb g cp len wr) (hx:Below wr.heap.size wr wx) {g' cp':Nat} {xs es:List Nd} (hxs:∀e∈xs,e.small) (hes:∀e∈es,e.small) (hO:OwnNd w' w.heap.size g' cp' (xs++es)) (hgr:wx.grownBy w' (some g)) (hat:g'=g∨g'=wx.heap.size) (hg:w.heap.size<g):LimJ base cb bv n w eb g' cp' (xs++es).length w':=by
 have hc:Chg (fun k=>k=g) wx w':=Chg.of_grown hgr (fun k q=>by cases q;rfl)
 have hl:=h.leaf.lt.2
 have hz:=hx.size
 have hr:=h.res.lt.2
 refine⟨⟨xs++es,rfl,fun e he=>(List.mem_append.1 he).elim (fun q=>hxs e q) (fun q=>hes e q),hO⟩,(h.leaf.below hx).chg hc (fun q=>h.ne.1 q.symm),(h.res.below hx).chg hc (by omega),(h.d.below hx).grow hgr (fun k q=>by cases q;omega),?_,h.ne.2⟩
 rcases hat with q|q
 ·rw[q];exact h.ne.1
 ·omega
theorem LimJ.fin {base cb:Nat} {bv:Value} {n:Nat} {w:World} {eb g cp len:Nat} {wr:World} (h:LimJ base cb bv n w eb g cp len wr) (hg:w.heap.size<g) (hl:len≤1000) (h0:0<len) (W9:World) (h9:W9=wr.setCell ⟨w.heap.size,0,none⟩ (.slice (some ⟨g,0,none⟩) len cp)):
  W9.cell? ⟨w.heap.size,0,none⟩=some (.slice (some ⟨g,0,none⟩) len cp)∧FilP base cb bv n 1000 w (.returned (.agg #[.slice (some ⟨g,0,none⟩) len cp])) W9:=by
 obtain⟨xs,rfl,hs,hO⟩:=h.row
 have hc3:Chg (fun k=>k=w.heap.size) wr W9:=by rw[h9];exact Chg.of_set _ _ _ _ rfl
 refine⟨by rw[h9];exact(h.res.set 0 (.slice (some ⟨g,0,none⟩) xs.length cp)).cell (j:=0) rfl,g,cp,xs,rfl,hl,h0,hs,hO.chg hc3 (by omega),?_⟩
 rw[h9]
 exact h.d.grow (grown_set wr w.heap.size 0 _) (fun k q=>by cases q;exact Nat.le_refl _)
set_option maxHeartbeats 16000000 in
theorem drawLimit_core (base cb:Nat) (bv:Value) (n:Nat) (w:World) (h:DrawAt base cb bv n w):
  Calls Tryz.prog 68 #[.pointer (some ⟨cb,0,none⟩)] w (FilP base cb bv n 1000 w):=by
 obtain⟨Wa,hWa⟩:=qE (w.alloc (Obj.cells #[.slice none 0 0] 25):World)
 have hba:Below w.heap.size w Wa:=by rw[hWa];exact qB
 have HA:Hid (DInv base cb bv n w Wa∧BoxAt Wa w.heap.size 25 1 w.heap.size [.slice none 0 0]):=⟨(DInv.start h).below hba,by rw[hWa];exact boxAt_new w #[.slice none 0 0] (Nat.le_refl _) rfl⟩
 clear h hba
 go_enter Tryz.func68,Tryz.ntmps68
 go_wp2_with fail
 rw[←hWa]
 clear hWa
 refine(below_core base cb bv n 6 _ HA.1.d (by omega) (by omega)).mono ?_
 rintro e w1 ⟨x,rfl,hx0,hx1,hd1⟩
 have H1:Hid (DInv base cb bv n w w1∧BoxAt w1 w.heap.size 25 1 w.heap.size [.slice none 0 0]):=⟨HA.1.call hd1,HA.2.chg hd1.2 (by have:=HA.1.lt;omega)⟩
 clear hd1 HA
 go_wp2_with fail
 refine(below_core base cb bv n 2 _ H1.1.d (by omega) (by omega)).mono ?_
 rintro e w2 ⟨y,rfl,hy0,hy1,hd2⟩
 have H2:Hid (DInv base cb bv n w w2∧BoxAt w2 w.heap.size 25 1 w.heap.size [.slice none 0 0]):=⟨H1.1.call hd2,H1.2.chg hd2.2 (by have:=H1.1.lt;omega)⟩
 clear hd2 H1
 obtain⟨eb,heb⟩:=qE w2.heap.size
 obtain⟨W3,hW3⟩:=qE (w2.alloc (Obj.cells #[.int .i64 11,.string ⟨#[]⟩,.bool false,.string ⟨#[]⟩,.int .u64 0,.int .u64 0,.int .i64 2] 65):World)
 obtain⟨W4,hW4⟩:=qE (W3.alloc (Obj.cells #[.int .i64 11,.string ⟨#[]⟩,.bool false,.string ⟨#[]⟩,.int .u64 0,.int .u64 0,.int .i64 2] 65):World)
 have hz3:W3.heap.size=eb+1:=by rw[hW3,heb];simp
 have hz4:W4.heap.size=eb+2:=by rw[hW4];simp[hz3]
 have H4:Hid (LimJ base cb bv n w eb (eb+1) 1 1 W4):=by
  have k3:Below w2.heap.size w2 W3:=by rw[hW3];exact qB
  have k4:Below W3.heap.size W3 W4:=by rw[hW4];exact qB
  have hr:=H2.2.lt.2
  have b3:BoxAt W3 w.heap.size 65 7 eb limN.seven:=by rw[hW3,heb];exact boxAt_new w2 #[.int .i64 11,.string ⟨#[]⟩,.bool false,.string ⟨#[]⟩,.int .u64 0,.int .u64 0,.int .i64 2] (by omega) rfl
  have o4:OwnNd W4 w.heap.size W3.heap.size 1 [limN]:=by rw[hW4];exact ownNd_one W3 w.heap.size limN (by omega)
  rw[hz3]at o4
  exact⟨⟨[limN],rfl,fun e he=>by simp at he;subst he;exact lim_small,o4⟩,b3.below k4,(H2.2.below k3).below k4,(H2.1.below k3).below k4,by omega,by omega⟩
 clear H2
 go_upto_region 5 with fail
 rw[←hW3,←heb,←hW4]
 clear hW3 hW4 heb
 by_cases x3:x=3
 ·subst x3
  obtain⟨W5,hW5⟩:=qE (W4.alloc (Obj.cells #[.int .i64 11,.string ⟨#[]⟩,.bool false,.string ⟨#[]⟩,.int .u64 0,.int .u64 0,.int .i64 2,.int .i64 11,.string ⟨#[]⟩,.bool false,.string ⟨#[]⟩,.int .u64 0,.int .u64 0,.int .i64 2,.int .i64 11,.string ⟨#[]⟩,.bool false,.string ⟨#[]⟩,.int .u64 0,.int .u64 0,.int .i64 2,.int .i64 16,.string ⟨#[]⟩,.bool false,.string ⟨#[]⟩,.int .u64 0,.int .u64 0,.int .i64 0] 65):World)
  have H5:Hid (LimJ base cb bv n w eb (eb+2) 4 4 W5):=by
   have k5:Below W4.heap.size W4 W5:=by rw[hW5];exact qB
   have o5:OwnNd W5 w.heap.size W4.heap.size 4 [limN,limN,limN,(⟨16,⟨#[]⟩,false,⟨#[]⟩,0,0,0⟩:Nd)]:=by rw[hW5];exact ownNd_lits W4 w.heap.size [limN,limN,limN,(⟨16,⟨#[]⟩,false,⟨#[]⟩,0,0,0⟩:Nd)] #[.int .i64 11,.string ⟨#[]⟩,.bool false,.string ⟨#[]⟩,.int .u64 0,.int .u64 0,.int .i64 2,.int .i64 11,.string ⟨#[]⟩,.bool false,.string ⟨#[]⟩,.int .u64 0,.int .u64 0,.int .i64 2,.int .i64 11,.string ⟨#[]⟩,.bool false,.string ⟨#[]⟩,.int .u64 0,.int .u64 0,.int .i64 2,.int .i64 16,.string ⟨#[]⟩,.bool false,.string ⟨#[]⟩,.int .u64 0,.int .u64 0,.int .i64 0] rfl H4.d.c.size (by decide)
   rw[hz4]at o5
   exact⟨⟨_,rfl,fun e he=>by simp at he;rcases he with rfl|rfl<;>first|exact lim_small|exact small_kind _ (by omega),o5⟩,H4.leaf.below k5,H4.res.below k5,H4.d.below k5,by omega,H4.ne.2⟩
  obtain⟨b0,b1,b2,b3,b4,b5,b6⟩:=And.intro (H4.leaf.cell (j:=0) rfl) (And.intro (H4.leaf.cell (j:=1) rfl) (And.intro (H4.leaf.cell (j:=2) rfl) (And.intro (H4.leaf.cell (j:=3) rfl) (And.intro (H4.leaf.cell (j:=4) rfl) (And.intro (H4.leaf.cell (j:=5) rfl) (H4.leaf.cell (j:=6) rfl))))))
  simp only at b0 b1 b2 b3 b4 b5 b6
  go_upto_region 7 with fail
  rw[←hW5]
  clear hW5 b0 b1 b2 b3 b4 b5 b6
  go_wp2_with fail
  go_loopw[6,7] (fun nv iv wr=>∃(i g cp len:Nat),(i:Int)≤(98:Int)∧iv=.int .i64 (i:Int)∧nv=.slice (some ⟨g,0,none⟩) len cp∧(len≤4+2*i∧0<len)∧w.heap.size<g∧Hid (LimJ base cb bv n w eb g cp len wr)) (fun _ iv _=>((98:Int)).toNat-(intOf iv).toNat)
  case atStart=>exact⟨0,eb+2,4,4,by omega,rfl,rfl,⟨by omega,by omega⟩,by have:=H5.ne.2;omega,H5.out⟩
  case round=>
   obtain⟨i,g,cp,len,hi,rfl,rfl,hlen,hgw,HJ⟩:=hrel
   by_cases hlt:(i:Int)<(98:Int)
   ·obtain⟨xs,hxl,hxs,hxO⟩:=HJ.row
    have HX:Hid (len=xs.length∧(∀e∈xs,e.small)∧OwnNd wr w.heap.size g cp xs):=⟨hxl,hxs,hxO⟩
    clear hxl hxs hxO
    obtain⟨b0,b1,b2,b3,b4,b5,b6⟩:=And.intro (HJ.leaf.cell (j:=0) rfl) (And.intro (HJ.leaf.cell (j:=1) rfl) (And.intro (HJ.leaf.cell (j:=2) rfl) (And.intro (HJ.leaf.cell (j:=3) rfl) (And.intro (HJ.leaf.cell (j:=4) rfl) (And.intro (HJ.leaf.cell (j:=5) rfl) (HJ.leaf.cell (j:=6) rfl))))))
    simp only at b0 b1 b2 b3 b4 b5 b6
    obtain⟨WX,hWX⟩:=qE (wr.alloc (Obj.cells #[.int .i64 11,.string ⟨#[]⟩,.bool false,.string ⟨#[]⟩,.int .u64 0,.int .u64 0,.int .i64 2,.int .i64 14,.string ⟨#[]⟩,.bool false,.string ⟨#[]⟩,.int .u64 0,.int .u64 0,.int .i64 0] 65):World)
    have HWX:Hid (Below wr.heap.size wr WX∧NdsAt WX wr.heap.size 0 [limN,(⟨14,⟨#[]⟩,false,⟨#[]⟩,0,0,0⟩:Nd)]∧WX=wr.alloc (Obj.cells #[.int .i64 11,.string ⟨#[]⟩,.bool false,.string ⟨#[]⟩,.int .u64 0,.int .u64 0,.int .i64 2,.int .i64 14,.string ⟨#[]⟩,.bool false,.string ⟨#[]⟩,.int .u64 0,.int .u64 0,.int .i64 0] 65)):=⟨by rw[hWX];exact qB,by rw[hWX];exact(ownNd_lits wr w.heap.size [limN,(⟨14,⟨#[]⟩,false,⟨#[]⟩,0,0,0⟩:Nd)] #[.int .i64 11,.string ⟨#[]⟩,.bool false,.string ⟨#[]⟩,.int .u64 0,.int .u64 0,.int .i64 2,.int .i64 14,.string ⟨#[]⟩,.bool false,.string ⟨#[]⟩,.int .u64 0,.int .u64 0,.int .i64 0] rfl HJ.d.c.size (by decide)).at,hWX⟩
    clear hWX
    go_wp2_with (at_builtin;rw[←HWX.2.2];refine wpList_append_nd _ rfl _ _ rfl w.heap.size g cp len wr.heap.size 0 2 2 xs [limN,(⟨14,⟨#[]⟩,false,⟨#[]⟩,0,0,0⟩:Nd)] rfl rfl HX.1 rfl (HX.2.2.below HWX.1 HX.2.2.lt.2) HWX.2.1 ?hl ?hb ?_)
    case hl=>rw[←HX.1];simp;omega
    case hb=>have h1:=HJ.d.c.size;have h2:=HWX.1.size;omega
    exact zzQ21
   ·exact zzQ10
 by_cases x4:x=4
 ·subst x4
  obtain⟨WQ,hWQ⟩:=qE W4
  rw[←hWQ]
  have HQ:Hid (LimJ base cb bv n w eb (eb+1) 1 1 WQ):=by rw[hWQ];exact H4.out
  clear hWQ H4 hz4
  have hsm:(⟨12,⟨#[]⟩,false,⟨#[]⟩,0,0,1000+y⟩:Nd).small:=⟨Nat.zero_le _,Nat.zero_le _,(by show(0:Int)≤0∧(0:Int)≤100000;omega),(by show(0:Int)≤0∧(0:Int)≤100000;omega),(by show 0≤1000+y∧1000+y≤100000;omega),(by show(0:Int)≤12∧(12:Int)≤100000;omega)⟩
  obtain⟨W5,hW5⟩:=qE (WQ.alloc (Obj.cells #[.int .i64 12,.string ⟨#[]⟩,.bool false,.string ⟨#[]⟩,.int .u64 0,.int .u64 0,.int .i64 (1000+y)] 65):World)
  have H5:Hid (LimJ base cb bv n w eb WQ.heap.size 1 1 W5):=by
   have k5:Below WQ.heap.size WQ W5:=by rw[hW5];exact qB
   have o5:OwnNd W5 w.heap.size WQ.heap.size 1 [(⟨12,⟨#[]⟩,false,⟨#[]⟩,0,0,1000+y⟩:Nd)]:=by rw[hW5];exact ownNd_lits WQ w.heap.size [(⟨12,⟨#[]⟩,false,⟨#[]⟩,0,0,1000+y⟩:Nd)] #[.int .i64 12,.string ⟨#[]⟩,.bool false,.string ⟨#[]⟩,.int .u64 0,.int .u64 0,.int .i64 (1000+y)] rfl HQ.d.c.size (by show 1≤maxLen;decide)
   have hlb:=HQ.leaf.lt.2
   exact⟨⟨_,rfl,fun e he=>by simp at he;subst he;exact hsm,o5⟩,HQ.leaf.below k5,HQ.res.below k5,HQ.d.below k5,by omega,HQ.ne.2⟩
  have hgq:w.heap.size<WQ.heap.size:=by have h1:=HQ.leaf.lt.2;have h2:=HQ.ne.2;omega
  obtain⟨WF,hWF⟩:=qE (W5.setCell ⟨w.heap.size,0,none⟩ (.slice (some ⟨WQ.heap.size,0,none⟩) (1) 1):World)
  obtain⟨p0,HRes⟩:=H5.fin (by omega) (by omega) (by omega) WF hWF
  have HRH:Hid (FilP base cb bv n 1000 w (.returned (.agg #[.slice (some ⟨WQ.heap.size,0,none⟩) (1) 1])) WF):=HRes
  have r0:=H5.res.cell (j:=0) rfl
  have rf:=H5.res.frozen 0
  clear HRes
  rw[hW5]at r0 rf
  have HWE:Hid ((WQ.setCell ⟨w.heap.size,0,none⟩ (.slice (some ⟨WQ.heap.size,0,none⟩) 1 1)).alloc (Obj.cells #[.int .i64 12,.string ⟨#[]⟩,.bool false,.string ⟨#[]⟩,.int .u64 0,.int .u64 0,.int .i64 (1000+y)] 65)=WF):=by
   show _=_
   rw[hWF,hW5]
   go_simp
  exact zzQ87
 by_cases x5:x=5
 ·subst x5
  obtain⟨yn,rfl⟩:∃k:Nat,y=(k:Int):=⟨y.toNat,by omega⟩
  have HMy:Hid (Calls Tryz.prog 42 #[.string ⟨#[97]⟩,.int .i64 (200+(yn:Int))] W4 fun e w'=>∃s:ByteArray,e=.returned (.string s)∧s.size≤1000∧Below W4.heap.size W4 w'):=by
   have h9:=many_core 97 (200+yn) W4 (by omega)
   have e9:((200+yn:Nat):Int)=200+(yn:Int):=by omega
   rw[e9]at h9
   exact h9
  go_wp2_with fail
  refine HMy.mono ?_
  rintro e WQ ⟨s,rfl,hs,hbq⟩
  have HQ:Hid (LimJ base cb bv n w eb (eb+1) 1 1 WQ):=by
   obtain⟨xs,h1,h2,h3⟩:=H4.row
   exact⟨⟨xs,h1,h2,h3.below hbq h3.lt.2⟩,H4.leaf.below hbq,H4.res.below hbq,H4.d.below hbq,H4.ne⟩
  clear hbq H4 hz4
  have hsm:(⟨9,s,false,⟨#[]⟩,0,0,0⟩:Nd).small:=⟨(by show s.size≤200000;omega),Nat.zero_le _,(by show(0:Int)≤0∧(0:Int)≤100000;omega),(by show(0:Int)≤0∧(0:Int)≤100000;omega),(by show(0:Int)≤0∧(0:Int)≤100000;omega),(by show(0:Int)≤9∧(9:Int)≤100000;omega)⟩
  obtain⟨W5,hW5⟩:=qE (WQ.alloc (Obj.cells #[.int .i64 9,.string s,.bool false,.string ⟨#[]⟩,.int .u64 0,.int .u64 0,.int .i64 0] 65):World)
  have H5:Hid (LimJ base cb bv n w eb WQ.heap.size 1 1 W5):=by
   have k5:Below WQ.heap.size WQ W5:=by rw[hW5];exact qB
   have o5:OwnNd W5 w.heap.size WQ.heap.size 1 [(⟨9,s,false,⟨#[]⟩,0,0,0⟩:Nd)]:=by rw[hW5];exact ownNd_lits WQ w.heap.size [(⟨9,s,false,⟨#[]⟩,0,0,0⟩:Nd)] #[.int .i64 9,.string s,.bool false,.string ⟨#[]⟩,.int .u64 0,.int .u64 0,.int .i64 0] rfl HQ.d.c.size (by show 1≤maxLen;decide)
   have hlb:=HQ.leaf.lt.2
   exact⟨⟨_,rfl,fun e he=>by simp at he;subst he;exact hsm,o5⟩,HQ.leaf.below k5,HQ.res.below k5,HQ.d.below k5,by omega,HQ.ne.2⟩
  have hgq:w.heap.size<WQ.heap.size:=by have h1:=HQ.leaf.lt.2;have h2:=HQ.ne.2;omega
  obtain⟨WF,hWF⟩:=qE (W5.setCell ⟨w.heap.size,0,none⟩ (.slice (some ⟨WQ.heap.size,0,none⟩) (1) 1):World)
  obtain⟨p0,HRes⟩:=H5.fin (by omega) (by omega) (by omega) WF hWF
  have HRH:Hid (FilP base cb bv n 1000 w (.returned (.agg #[.slice (some ⟨WQ.heap.size,0,none⟩) (1) 1])) WF):=HRes
  have r0:=H5.res.cell (j:=0) rfl
  have rf:=H5.res.frozen 0
  clear HRes
  rw[hW5]at r0 rf
  have HWE:Hid ((WQ.setCell ⟨w.heap.size,0,none⟩ (.slice (some ⟨WQ.heap.size,0,none⟩) 1 1)).alloc (Obj.cells #[.int .i64 9,.string s,.bool false,.string ⟨#[]⟩,.int .u64 0,.int .u64 0,.int .i64 0] 65)=WF):=by
   show _=_
   rw[hWF,hW5]
   go_simp
  exact zzQ87
 by_cases x0:x=0
 ·subst x0
  go_wp2_with fail
  go_loopw[6,8] (fun nv iv wr=>∃(i g cp len:Nat),(i:Int)≤99+y∧iv=.int .i64 (i:Int)∧nv=.slice (some ⟨g,0,none⟩) len cp∧(len≤1+2*i∧0<len)∧w.heap.size<g∧Hid (LimJ base cb bv n w eb g cp len wr)) (fun _ iv _=>(99+y).toNat-(intOf iv).toNat)
  case atStart=>exact⟨0,eb+1,1,1,by omega,rfl,rfl,⟨by omega,by omega⟩,by have:=H4.ne.2;omega,H4.out⟩
  case round=>
   obtain⟨i,g,cp,len,hi,rfl,rfl,hlen,hgw,HJ⟩:=hrel
   by_cases hlt:(i:Int)<99+y
   ·obtain⟨xs,hxl,hxs,hxO⟩:=HJ.row
    have HX:Hid (len=xs.length∧(∀e∈xs,e.small)∧OwnNd wr w.heap.size g cp xs):=⟨hxl,hxs,hxO⟩
    clear hxl hxs hxO
    obtain⟨b0,b1,b2,b3,b4,b5,b6⟩:=And.intro (HJ.leaf.cell (j:=0) rfl) (And.intro (HJ.leaf.cell (j:=1) rfl) (And.intro (HJ.leaf.cell (j:=2) rfl) (And.intro (HJ.leaf.cell (j:=3) rfl) (And.intro (HJ.leaf.cell (j:=4) rfl) (And.intro (HJ.leaf.cell (j:=5) rfl) (HJ.leaf.cell (j:=6) rfl))))))
    simp only at b0 b1 b2 b3 b4 b5 b6
    obtain⟨WX,hWX⟩:=qE (wr.alloc (Obj.cells #[.int .i64 11,.string ⟨#[]⟩,.bool false,.string ⟨#[]⟩,.int .u64 0,.int .u64 0,.int .i64 2,.int .i64 14,.string ⟨#[]⟩,.bool false,.string ⟨#[]⟩,.int .u64 0,.int .u64 0,.int .i64 0] 65):World)
    have HWX:Hid (Below wr.heap.size wr WX∧NdsAt WX wr.heap.size 0 [limN,(⟨14,⟨#[]⟩,false,⟨#[]⟩,0,0,0⟩:Nd)]∧WX=wr.alloc (Obj.cells #[.int .i64 11,.string ⟨#[]⟩,.bool false,.string ⟨#[]⟩,.int .u64 0,.int .u64 0,.int .i64 2,.int .i64 14,.string ⟨#[]⟩,.bool false,.string ⟨#[]⟩,.int .u64 0,.int .u64 0,.int .i64 0] 65)):=⟨by rw[hWX];exact qB,by rw[hWX];exact(ownNd_lits wr w.heap.size [limN,(⟨14,⟨#[]⟩,false,⟨#[]⟩,0,0,0⟩:Nd)] #[.int .i64 11,.string ⟨#[]⟩,.bool false,.string ⟨#[]⟩,.int .u64 0,.int .u64 0,.int .i64 2,.int .i64 14,.string ⟨#[]⟩,.bool false,.string ⟨#[]⟩,.int .u64 0,.int .u64 0,.int .i64 0] rfl HJ.d.c.size (by decide)).at,hWX⟩
    clear hWX
    go_wp2_with (at_builtin;rw[←HWX.2.2];refine wpList_append_nd _ rfl _ _ rfl w.heap.size g cp len wr.heap.size 0 2 2 xs [limN,(⟨14,⟨#[]⟩,false,⟨#[]⟩,0,0,0⟩:Nd)] rfl rfl HX.1 rfl (HX.2.2.below HWX.1 HX.2.2.lt.2) HWX.2.1 ?hl ?hb ?_)
    case hl=>rw[←HX.1];simp;omega
    case hb=>have h1:=HJ.d.c.size;have h2:=HWX.1.size;omega
    exact zzQ21
   ·exact zzQ10
 by_cases x1:x=1
 ·subst x1
  go_wp2_with fail
  go_loopw[6,9] (fun nv iv wr=>∃(i g cp len:Nat),(i:Int)≤21+y∧iv=.int .i64 (i:Int)∧nv=.slice (some ⟨g,0,none⟩) len cp∧(len≤1+2*i∧0<len)∧w.heap.size<g∧Hid (LimJ base cb bv n w eb g cp len wr)) (fun _ iv _=>(21+y).toNat-(intOf iv).toNat)
  case atStart=>exact⟨0,eb+1,1,1,by omega,rfl,rfl,⟨by omega,by omega⟩,by have:=H4.ne.2;omega,H4.out⟩
  case round=>
   obtain⟨i,g,cp,len,hi,rfl,rfl,hlen,hgw,HJ⟩:=hrel
   by_cases hlt:(i:Int)<21+y
   ·obtain⟨xs,hxl,hxs,hxO⟩:=HJ.row
    have HX:Hid (len=xs.length∧(∀e∈xs,e.small)∧OwnNd wr w.heap.size g cp xs):=⟨hxl,hxs,hxO⟩
    clear hxl hxs hxO
    obtain⟨b0,b1,b2,b3,b4,b5,b6⟩:=And.intro (HJ.leaf.cell (j:=0) rfl) (And.intro (HJ.leaf.cell (j:=1) rfl) (And.intro (HJ.leaf.cell (j:=2) rfl) (And.intro (HJ.leaf.cell (j:=3) rfl) (And.intro (HJ.leaf.cell (j:=4) rfl) (And.intro (HJ.leaf.cell (j:=5) rfl) (HJ.leaf.cell (j:=6) rfl))))))
    simp only at b0 b1 b2 b3 b4 b5 b6
    obtain⟨WX,hWX⟩:=qE (wr.alloc (Obj.cells #[.int .i64 11,.string ⟨#[]⟩,.bool false,.string ⟨#[]⟩,.int .u64 0,.int .u64 0,.int .i64 2] 65):World)
    have HWX:Hid (Below wr.heap.size wr WX∧OwnNd WX w.heap.size wr.heap.size 1 [limN]∧WX=wr.alloc (Obj.cells #[.int .i64 11,.string ⟨#[]⟩,.bool false,.string ⟨#[]⟩,.int .u64 0,.int .u64 0,.int .i64 2] 65)):=⟨by rw[hWX];exact qB,by rw[hWX];exact ownNd_lits wr w.heap.size [limN] #[.int .i64 11,.string ⟨#[]⟩,.bool false,.string ⟨#[]⟩,.int .u64 0,.int .u64 0,.int .i64 2] rfl HJ.d.c.size (by decide),hWX⟩
    clear hWX
    go_wp2_with (at_builtin;rw[←HWX.2.2];refine wpList_append_nd _ rfl _ _ rfl w.heap.size wr.heap.size 1 1 g 0 len cp [limN] xs rfl rfl rfl HX.1 HWX.2.1 (HX.2.2.below HWX.1 HX.2.2.lt.2).at ?hl ?hb ?_)
    case hl=>rw[←HX.1];simp;omega
    case hb=>have h1:=HJ.d.c.size;have h2:=HWX.1.size;omega
    intro g4 c4 w4 hO4 hgr4 hat4
    obtain⟨Q,hQ⟩:=qE ([limN]++xs)
    rw[show limN::xs=Q from hQ.symm]at hO4
    have HN4:Hid (OwnNd w4 w.heap.size g4 c4 Q∧(∀e∈Q,e.small)∧Q.length=1+len∧LimJ base cb bv n w eb g4 c4 Q.length w4∧w.heap.size<g4):=by
     have hJx:LimJ base cb bv n w eb wr.heap.size 1 1 WX:=by
      have h1:=HJ.leaf.lt.2
      exact⟨⟨[limN],rfl,fun e he=>by simp at he;subst he;exact lim_small,HWX.2.1⟩,HJ.leaf.below HWX.1,HJ.res.below HWX.1,HJ.d.below HWX.1,by omega,HJ.ne.2⟩
     have hrr:=HJ.res.lt.2
     have h8:=hJx.app (Below.refl _ _) (xs:= [limN]) (es:=xs) (fun e he=>by simp at he;subst he;exact lim_small) HX.2.1 (by rw[←hQ];exact hO4) hgr4 hat4 hrr
     rw[←hQ]at h8
     obtain⟨xs',_,h9,_⟩:=h8.row
     have hsm:∀e∈Q,e.small:=fun e he=>by
      rw[hQ]at he
      rcases List.mem_append.1 he with q|q
      ·simp at q;subst q;exact lim_small
      ·exact HX.2.1 e q
     refine⟨hO4,hsm,by rw[hQ,List.length_append,←HX.1];rfl,h8,?_⟩
     rcases hat4 with q|q
     ·rw[q];exact hrr
     ·have h2:=HWX.1.size;omega
    clear hO4 hgr4 hat4 hQ b0 b1 b2 b3 b4 b5 b6
    obtain⟨WY,hWY⟩:=qE (w4.alloc (Obj.cells #[.int .i64 15,.string ⟨#[]⟩,.bool false,.string ⟨#[]⟩,.int .u64 0,.int .u64 0,.int .i64 0] 65):World)
    have HWY:Hid (Below w4.heap.size w4 WY∧NdsAt WY w4.heap.size 0 [(⟨15,⟨#[]⟩,false,⟨#[]⟩,0,0,0⟩:Nd)]∧WY=w4.alloc (Obj.cells #[.int .i64 15,.string ⟨#[]⟩,.bool false,.string ⟨#[]⟩,.int .u64 0,.int .u64 0,.int .i64 0] 65)):=⟨by rw[hWY];exact qB,by rw[hWY];exact(ownNd_lits w4 w.heap.size [(⟨15,⟨#[]⟩,false,⟨#[]⟩,0,0,0⟩:Nd)] #[.int .i64 15,.string ⟨#[]⟩,.bool false,.string ⟨#[]⟩,.int .u64 0,.int .u64 0,.int .i64 0] rfl HN4.2.2.2.1.d.c.size (by decide)).at,hWY⟩
    clear hWY
    go_wp2_with (at_builtin;rw[←HWY.2.2];refine wpList_append_nd _ rfl _ _ rfl w.heap.size g4 c4 (1+len) w4.heap.size 0 1 1 Q [(⟨15,⟨#[]⟩,false,⟨#[]⟩,0,0,0⟩:Nd)] rfl rfl HN4.2.2.1.symm rfl (HN4.1.below HWY.1 HN4.1.lt.2) HWY.2.1 ?hl9 ?hb9 ?_)
    case hl9=>rw[HN4.2.2.1];simp;omega
    case hb9=>have h1:=HN4.2.2.2.1.d.c.size;have h2:=HWY.1.size;omega
    intro g' cp' w' hO' hgr hat
    have HN:Hid (LimJ base cb bv n w eb g' cp' (1+len+1) w'∧w.heap.size<g'):=by
     have h8:=HN4.2.2.2.1.app HWY.1 HN4.2.1 (es:= [(⟨15,⟨#[]⟩,false,⟨#[]⟩,0,0,0⟩:Nd)]) (fun e he=>by simp at he;subst he;exact small_kind _ (by omega)) hO' hgr hat HN4.2.2.2.2
     have h9:(Q++ [(⟨15,⟨#[]⟩,false,⟨#[]⟩,0,0,0⟩:Nd)]).length=1+len+1:=by rw[List.length_append,HN4.2.2.1];rfl
     rw[h9]at h8
     refine⟨h8,?_⟩
     rcases hat with q|q
     ·rw[q];exact HN4.2.2.2.2
     ·have h1:=HN4.2.2.2.1.d.c.size;have h2:=HWY.1.size;have h3:=HN4.2.2.2.1.res.lt.2;omega
    clear hO' hgr hat
    go_wp2_with fail
    go_roundw
    case rel=>exact⟨i+1,g',cp',1+len+1,by omega,by go_num,rfl,⟨by omega,by omega⟩,HN.2,HN.1⟩
    case measure=>simp[intOf];omega
   ·exact zzQ10
 ·obtain rfl:x=2:=by omega
  go_wp2_with fail
  go_loopw[6,10] (fun nv iv wr=>∃(i g cp len:Nat),(i:Int)≤20+y∧iv=.int .i64 (i:Int)∧nv=.slice (some ⟨g,0,none⟩) len cp∧(len≤1+3*i∧0<len)∧w.heap.size<g∧Hid (LimJ base cb bv n w eb g cp len wr)) (fun _ iv _=>(20+y).toNat-(intOf iv).toNat)
  case atStart=>exact⟨0,eb+1,1,1,by omega,rfl,rfl,⟨by omega,by omega⟩,by have:=H4.ne.2;omega,H4.out⟩
  case round=>
   obtain⟨i,g,cp,len,hi,rfl,rfl,hlen,hgw,HJ⟩:=hrel
   by_cases hlt:(i:Int)<20+y
   ·obtain⟨xs,hxl,hxs,hxO⟩:=HJ.row
    have HX:Hid (len=xs.length∧(∀e∈xs,e.small)∧OwnNd wr w.heap.size g cp xs):=⟨hxl,hxs,hxO⟩
    clear hxl hxs hxO
    obtain⟨b0,b1,b2,b3,b4,b5,b6⟩:=And.intro (HJ.leaf.cell (j:=0) rfl) (And.intro (HJ.leaf.cell (j:=1) rfl) (And.intro (HJ.leaf.cell (j:=2) rfl) (And.intro (HJ.leaf.cell (j:=3) rfl) (And.intro (HJ.leaf.cell (j:=4) rfl) (And.intro (HJ.leaf.cell (j:=5) rfl) (HJ.leaf.cell (j:=6) rfl))))))
    simp only at b0 b1 b2 b3 b4 b5 b6
    obtain⟨WX,hWX⟩:=qE (wr.alloc (Obj.cells #[.int .i64 11,.string ⟨#[]⟩,.bool false,.string ⟨#[]⟩,.int .u64 0,.int .u64 0,.int .i64 2,.int .i64 11,.string ⟨#[]⟩,.bool false,.string ⟨#[]⟩,.int .u64 0,.int .u64 0,.int .i64 2,.int .i64 16,.string ⟨#[]⟩,.bool false,.string ⟨#[]⟩,.int .u64 0,.int .u64 0,.int .i64 0] 65):World)
    have HWX:Hid (Below wr.heap.size wr WX∧NdsAt WX wr.heap.size 0 [limN,limN,(⟨16,⟨#[]⟩,false,⟨#[]⟩,0,0,0⟩:Nd)]∧WX=wr.alloc (Obj.cells #[.int .i64 11,.string ⟨#[]⟩,.bool false,.string ⟨#[]⟩,.int .u64 0,.int .u64 0,.int .i64 2,.int .i64 11,.string ⟨#[]⟩,.bool false,.string ⟨#[]⟩,.int .u64 0,.int .u64 0,.int .i64 2,.int .i64 16,.string ⟨#[]⟩,.bool false,.string ⟨#[]⟩,.int .u64 0,.int .u64 0,.int .i64 0] 65)):=⟨by rw[hWX];exact qB,by rw[hWX];exact(ownNd_lits wr w.heap.size [limN,limN,(⟨16,⟨#[]⟩,false,⟨#[]⟩,0,0,0⟩:Nd)] #[.int .i64 11,.string ⟨#[]⟩,.bool false,.string ⟨#[]⟩,.int .u64 0,.int .u64 0,.int .i64 2,.int .i64 11,.string ⟨#[]⟩,.bool false,.string ⟨#[]⟩,.int .u64 0,.int .u64 0,.int .i64 2,.int .i64 16,.string ⟨#[]⟩,.bool false,.string ⟨#[]⟩,.int .u64 0,.int .u64 0,.int .i64 0] rfl HJ.d.c.size (by decide)).at,hWX⟩
    clear hWX
    go_wp2_with (at_builtin;rw[←HWX.2.2];refine wpList_append_nd _ rfl _ _ rfl w.heap.size g cp len wr.heap.size 0 3 3 xs [limN,limN,(⟨16,⟨#[]⟩,false,⟨#[]⟩,0,0,0⟩:Nd)] rfl rfl HX.1 rfl (HX.2.2.below HWX.1 HX.2.2.lt.2) HWX.2.1 ?hl ?hb ?_)
    case hl=>rw[←HX.1];simp;omega
    case hb=>have h1:=HJ.d.c.size;have h2:=HWX.1.size;omega
    intro g' cp' w' hO' hgr hat
    have HN:Hid (LimJ base cb bv n w eb g' cp' (len+3) w'∧w.heap.size<g'):=by
     have h8:=HJ.app HWX.1 HX.2.1 (es:= [limN,limN,(⟨16,⟨#[]⟩,false,⟨#[]⟩,0,0,0⟩:Nd)]) (fun e he=>by simp at he;rcases he with rfl|rfl<;>first|exact lim_small|exact small_kind _ (by omega)) hO' hgr hat hgw
     have h9:(xs++ [limN,limN,(⟨16,⟨#[]⟩,false,⟨#[]⟩,0,0,0⟩:Nd)]).length=len+3:=by rw[List.length_append,←HX.1];rfl
     rw[h9]at h8
     refine⟨h8,?_⟩
     rcases hat with q|q
     ·rw[q];exact hgw
     ·have h1:=HJ.d.c.size;have h2:=HWX.1.size;have h3:=HJ.res.lt.2;omega
    clear hO' hgr hat b0 b1 b2 b3 b4 b5 b6
    go_wp2_with fail
    go_roundw
    case rel=>exact⟨i+1,g',cp',len+3,by omega,by go_num,rfl,⟨by omega,by omega⟩,HN.2,HN.1⟩
    case measure=>simp[intOf];omega
   ·exact zzQ10
def AnyP (base cb:Nat) (bv:Value) (n:Nat) (w:World) (e:Ending) (w':World):Prop:=∃(b o c:Nat) (ys:List Nd),e=.returned (.agg #[.slice (some ⟨b,o,none⟩) ys.length c])∧ys.length≤1001∧Hid ((∀e∈ys,e.ok)∧NdsAt w' b o ys∧(w.heap.size≤b∧b<w'.heap.size)∧(ys.length≤c∧c≤maxLen)∧DInv base cb bv n w w')
theorem FilP.any {base cb:Nat} {bv:Value} {n m:Nat} {w:World} {e:Ending} {w':World} (h:FilP base cb bv n m w e w') (hm:m≤1001):AnyP base cb bv n w e w':=by
 obtain⟨g,cp,xs,rfl,hl,_,H⟩:=h
 exact⟨g,0,cp,xs,rfl,by omega,fun e he=>(H.1 e he).ok,H.2.1.at,H.2.1.lt,H.2.1.caps,H.2.2⟩
theorem wf_n {x:Int} (h:0≤x∧x≤100000):(Lit.int .i64 (x+1000)).wf=true:=by
 exact zzQ77
structure SpJ (base cb:Nat) (bv:Value) (n:Nat) (w:World) (eb g cp:Nat) (xs:List Nd) (f:Nd) (wr:World):Prop where
 row:OwnNd wr w.heap.size g cp xs
 e:BoxAt wr w.heap.size 65 7 eb f.seven
 res:BoxAt wr w.heap.size 25 1 (w.heap.size+1) [.slice none 0 0]
 d:DInv base cb bv n w wr
 ne:¬g=eb∧w.heap.size+1<g∧w.heap.size+1<eb
 ok:f.ok
theorem SpJ.call {base cb:Nat} {bv:Value} {n:Nat} {w:World} {eb g cp:Nat} {xs:List Nd} {f:Nd} {wr w1:World} (h:SpJ base cb bv n w eb g cp xs f wr) (hd:Drew base cb bv n wr w1):SpJ base cb bv n w eb g cp xs f w1:=by
 have hl:=h.d.lt
 have h1:=h.ne
 exact⟨h.row.chg hd.2 (by omega),h.e.chg hd.2 (by omega),h.res.chg hd.2 (by omega),h.d.call hd,h.ne,h.ok⟩
theorem SpJ.below {base cb:Nat} {bv:Value} {n:Nat} {w:World} {eb g cp:Nat} {xs:List Nd} {f:Nd} {wr w1:World} (h:SpJ base cb bv n w eb g cp xs f wr) (hd:Below wr.heap.size wr w1):SpJ base cb bv n w eb g cp xs f w1:=⟨h.row.below hd h.row.lt.2,h.e.below hd,h.res.below hd,h.d.below hd,h.ne,h.ok⟩
theorem SpJ.set {base cb:Nat} {bv:Value} {n:Nat} {w:World} {eb g cp:Nat} {xs:List Nd} {f:Nd} {wr:World} (h:SpJ base cb bv n w eb g cp xs f wr) (j:Nat) (f':Nd) (u:Value) (hc:f'.seven=f.seven.set j u) (ho:f'.ok):SpJ base cb bv n w eb g cp xs f' (wr.setCell ⟨eb,j,none⟩ u):=by
 have h1:=h.e.set j u
 rw[←hc]at h1
 have hn:=h.ne
 have hcg:Chg (fun k=>k=eb) wr (wr.setCell ⟨eb,j,none⟩ u):=Chg.of_set _ _ _ _ rfl
 exact⟨h.row.chg hcg hn.1,h1,h.res.chg hcg (by omega),h.d.grow (grown_set wr eb j u) (fun k q=>by cases q;omega),hn,ho⟩
theorem SpJ.back {base cb:Nat} {bv:Value} {n:Nat} {w:World} {eb g cp:Nat} {xs:List Nd} {f:Nd} {wr:World} (h:SpJ base cb bv n w eb g cp xs f wr) (hx:∀e∈xs,e.ok) (hl:xs.length≤1000) {i:Nat} {e0:Nd} (he:xs[i]?=some e0) (W9:World)
  (h9:W9=(((((((wr.setCell ⟨g,i*7,none⟩ (.int .i64 f.kind)).setCell ⟨g,i*7+1,none⟩ (.string f.s)).setCell ⟨g,i*7+2,none⟩ (.bool f.hi)).setCell ⟨g,i*7+3,none⟩ (.string f.t)).setCell ⟨g,i*7+4,none⟩ (.int .u64 f.lo)).setCell ⟨g,i*7+5,none⟩ (.int .u64 f.up)).setCell ⟨g,i*7+6,none⟩ (.int .i64 f.n))):
  BoxAt W9 w.heap.size 25 1 (w.heap.size+1) [.slice none 0 0]∧∀N WF,N=xs.length→WF=W9.setCell ⟨w.heap.size+1,0,none⟩ (.slice (some ⟨g,0,none⟩) N cp)→WF.cell? ⟨w.heap.size+1,0,none⟩=some (.slice (some ⟨g,0,none⟩) N cp)∧AnyP base cb bv n w (.returned (.agg #[.slice (some ⟨g,0,none⟩) N cp])) WF:=by
 have hn:=h.ne
 have hO9:=h.row.put i e0 f he
 rw[←h9]at hO9
 have hc9:Chg (fun k=>k=g) wr W9:=by
  rw[h9]
  exact((((((Chg.of_set (S:=fun k=>k=g) _ _ _ _ rfl).trans (Chg.of_set (S:=fun k=>k=g) _ _ _ _ rfl)).trans (Chg.of_set (S:=fun k=>k=g) _ _ _ _ rfl)).trans (Chg.of_set (S:=fun k=>k=g) _ _ _ _ rfl)).trans (Chg.of_set (S:=fun k=>k=g) _ _ _ _ rfl)).trans (Chg.of_set (S:=fun k=>k=g) _ _ _ _ rfl)).trans (Chg.of_set (S:=fun k=>k=g) _ _ _ _ rfl)
 have hr9:=h.res.chg hc9 (by omega)
 have hd9:DInv base cb bv n w W9:=by
  have hlt:=h.d.lt
  have hbb:=h.d.hb
  exact⟨h.d.d.chg hc9 (by omega) (fun k q=>by omega),⟨hc9.os.trans h.d.c.os,hc9.tape.trans h.d.c.tape,hc9.output.trans h.d.c.output,Nat.le_trans h.d.c.size hc9.size,fun k hk hnk=>(hc9.block k (Nat.lt_of_lt_of_le hk h.d.c.size) (by omega)).trans (h.d.c.block k hk hnk)⟩,hlt,hbb⟩
 refine⟨hr9,fun N WF hN hWF=>?_⟩
 subst hN
 have hcF:Chg (fun k=>k=w.heap.size+1) W9 WF:=by rw[hWF];exact Chg.of_set _ _ _ _ rfl
 have hOF:=hO9.chg hcF (by omega)
 refine⟨by rw[hWF];exact(hr9.set 0 (.slice (some ⟨g,0,none⟩) xs.length cp)).cell (j:=0) rfl,g,0,cp,xs.set i f,by rw[List.length_set],by rw[List.length_set];omega,fun e he=>?_,hOF.at,⟨by have:=hOF.lt.1;omega,hOF.lt.2⟩,by have h8:=hOF.caps;exact h8,?_⟩
 ·rcases List.mem_or_eq_of_mem_set he with q|q
  ·exact hx e q
  ·rw[q];exact h.ok
 ·rw[hWF]
  exact hd9.grow (grown_set W9 (w.heap.size+1) 0 _) (fun k q=>by cases q;omega)
theorem nds_drop {w:World} {b:Nat} {xs:List Nd} (h:NdsAt w b 0 xs):NdsAt w b 7 (xs.drop 1):=by
 intro i e he
 rw[List.getElem?_drop]at he
 have:=h (1+i) e he
 rw[show 0+(1+i)*7=7+i*7 by omega]at this
 exact this
theorem SpJ.cut {base cb:Nat} {bv:Value} {n:Nat} {w:World} {eb g cp:Nat} {xs:List Nd} {f:Nd} {wr:World} (h:SpJ base cb bv n w eb g cp xs f wr) (ys:List Nd) (o m c:Nat) (hy:NdsAt wr g o ys) (hok:∀e∈ys,e.ok) (hm:m=ys.length) (hl:m≤1001∧m≤c) (hc:c≤maxLen) (WF:World) (hWF:WF=wr.setCell ⟨w.heap.size+1,0,none⟩ (.slice (some ⟨g,o,none⟩) m c)):
  WF.cell? ⟨w.heap.size+1,0,none⟩=some (.slice (some ⟨g,o,none⟩) m c)∧AnyP base cb bv n w (.returned (.agg #[.slice (some ⟨g,o,none⟩) m c])) WF:=by
 subst hm
 have hn:=h.ne
 have hgl:=h.row.lt.2
 have hcF:Chg (fun k=>k=w.heap.size+1) wr WF:=by rw[hWF];exact Chg.of_set _ _ _ _ rfl
 refine⟨by rw[hWF];exact(h.res.set 0 (.slice (some ⟨g,o,none⟩) ys.length c)).cell (j:=0) rfl,g,o,c,ys,rfl,hl.1,hok,fun i e he=>?_,⟨by omega,Nat.lt_of_lt_of_le hgl hcF.size⟩,⟨hl.2,hc⟩,by rw[hWF];exact h.d.grow (grown_set wr (w.heap.size+1) 0 _) (fun k q=>by cases q;omega)⟩
 obtain⟨e0,e1,e2,e3,e4,e5,e6⟩:=hy i e he
 exact⟨(hcF.cell (p:=⟨g,o+i*7,none⟩) hgl (by show¬g=_;omega)).trans e0,(hcF.cell (p:=⟨g,o+i*7+1,none⟩) hgl (by show¬g=_;omega)).trans e1,(hcF.cell (p:=⟨g,o+i*7+2,none⟩) hgl (by show¬g=_;omega)).trans e2,(hcF.cell (p:=⟨g,o+i*7+3,none⟩) hgl (by show¬g=_;omega)).trans e3,(hcF.cell (p:=⟨g,o+i*7+4,none⟩) hgl (by show¬g=_;omega)).trans e4,(hcF.cell (p:=⟨g,o+i*7+5,none⟩) hgl (by show¬g=_;omega)).trans e5,(hcF.cell (p:=⟨g,o+i*7+6,none⟩) hgl (by show¬g=_;omega)).trans e6⟩
set_option maxHeartbeats 16000000 in
theorem drawSpoil_core (base cb:Nat) (bv:Value) (n:Nat) (w:World) (h:DrawAt base cb bv n w) {b0 g cp:Nat} {xs:List Nd} (hO:OwnNd w b0 g cp xs) (hs:∀e∈xs,e.small) (hl:xs.length≤1000) (h0:0<xs.length):
  Calls Tryz.prog 70 #[.pointer (some ⟨cb,0,none⟩),.agg #[.slice (some ⟨g,0,none⟩) xs.length cp]] w (AnyP base cb bv n w):=by
 have HX:Hid (OwnNd w b0 g cp xs∧(∀e∈xs,e.small)):=⟨hO,hs⟩
 obtain⟨N,hN⟩:=qE xs.length
 have HN:Hid (N=xs.length):=hN
 rw[←hN]at hl h0⊢
 have hcp:cp≤9223372036854775807:=by have:=hO.caps;unfold maxLen at this;omega
 have hNc:N≤cp:=by have:=hO.caps;omega
 obtain⟨W0,hW0⟩:=qE ((w.alloc (Obj.cells #[.slice (some ⟨g,0,none⟩) N cp] 25)).alloc (Obj.cells #[.slice none 0 0] 25):World)
 have hz0:W0.heap.size=w.heap.size+1+1:=by rw[hW0];simp
 have H0:Hid (DInv base cb bv n w W0∧BoxAt W0 w.heap.size 25 1 w.heap.size [.slice (some ⟨g,0,none⟩) N cp]∧BoxAt W0 w.heap.size 25 1 (w.heap.size+1) [.slice none 0 0]∧OwnNd W0 b0 g cp xs):=by
  have b1:=boxAt_new w (base:=w.heap.size) (t:=25) (sz:=1) #[.slice (some ⟨g,0,none⟩) N cp] (Nat.le_refl _) rfl
  obtain⟨X,hX⟩:=qE (w.alloc (Obj.cells #[.slice (some ⟨g,0,none⟩) N cp] 25))
  rw[←hX]at b1 hW0
  have zx:X.heap.size=w.heap.size+1:=by rw[hX];simp
  have k1:Below w.heap.size w X:=by rw[hX];exact qB
  have k2:Below X.heap.size X W0:=by rw[hW0];exact qB
  have b2:=boxAt_new X (base:=w.heap.size) (t:=25) (sz:=1) #[.slice none 0 0] (by omega) rfl
  rw[←hW0,zx]at b2
  exact⟨((DInv.start h).below k1).below k2,b1.below k2,b2,(hO.below k1 hO.lt.2).below k2 (by have:=hO.lt.2;omega)⟩
 clear h hO hs hN
 have hNb:((N:Int)==0)=false:=by rw[beq_eq_false_iff_ne];omega
 have c0:=H0.2.1.cell (j:=0) rfl
 go_enter Tryz.func70,Tryz.ntmps70
 go_upto_region 1 with fail
 rw[←hW0]
 clear hW0
 obtain⟨W1,hW1⟩:=qE (W0.alloc (Obj.cells #[] 65):World)
 have HW1:Hid (Below W0.heap.size W0 W1∧OwnNd W1 w.heap.size W0.heap.size 0 []∧W1=W0.alloc (Obj.cells #[] 65)):=⟨by rw[hW1];exact qB,by rw[hW1];exact ownNd_lits W0 w.heap.size [] #[] rfl (by omega) (by decide),hW1⟩
 clear hW1
 have HZ:Hid (W0.heap.size=w.heap.size+1+1):=hz0
 clear hz0
 go_upto_region 3 with fail
 clear c0
 have c1:(W0.alloc (Obj.cells #[] 65)).cell? ⟨w.heap.size,0,none⟩=some (.slice (some ⟨g,0,none⟩) N cp):=by
  rw[←HW1.2.2];exact(H0.2.1.below HW1.1).cell (j:=0) rfl
 go_wp2_with (at_builtin;rw[←HW1.2.2];refine wpList_append_nd _ rfl _ _ rfl w.heap.size W0.heap.size 0 0 g 0 N cp [] xs rfl rfl rfl HN.out HW1.2.1 (H0.2.2.2.below HW1.1 H0.2.2.2.lt.2).at ?hl ?hb ?_)
 case hl=>rw[←HN.out];simp;omega
 case hb=>have h1:=HW1.1.size;have h2:=HZ.out;omega
 intro g5 c5 w5 hO5 hgr5 hat5
 have H5:Hid (DInv base cb bv n w w5∧OwnNd w5 w.heap.size g5 c5 xs∧BoxAt w5 w.heap.size 25 1 (w.heap.size+1) [.slice none 0 0]∧w.heap.size+1<g5):=by
  have hz:=HZ.out
  have hc5:Chg (fun k=>k=W0.heap.size) W1 w5:=Chg.of_grown hgr5 (fun k q=>by cases q;rfl)
  refine⟨(H0.1.below HW1.1).grow hgr5 (fun k q=>by cases q;omega),by simpa using hO5,(H0.2.2.1.below HW1.1).chg hc5 (by omega),?_⟩
  rcases hat5 with q|q
  ·omega
  ·have:=HW1.1.size;omega
 have hg5:=H5.2.1.lt
 have hc5:N≤c5∧c5≤9223372036854775807:=by have:=H5.2.1.caps;unfold maxLen at this;have:=HN.out;omega
 clear hO5 hgr5 hat5 c1
 try simp only[Nat.zero_add]
 go_wp2_with fail
 refine(below_core base cb bv n (N:Int) _ H5.1.d (by omega) (by omega)).mono ?_
 rintro e w6 ⟨ii,rfl,hi0,hi1,hd6⟩
 obtain⟨i,rfl⟩:∃k:Nat,ii=(k:Int):=⟨ii.toNat,by omega⟩
 have hiN:i<N:=by omega
 obtain⟨f,hf⟩:∃f,xs[i]?=some f:=⟨_,List.getElem?_eq_getElem (by have:=HN.out;omega)⟩
 have H6:Hid (DInv base cb bv n w w6∧OwnNd w6 w.heap.size g5 c5 xs∧BoxAt w6 w.heap.size 25 1 (w.heap.size+1) [.slice none 0 0]∧xs[i]?=some f):=by
  have hcl:=H5.1.lt
  exact⟨H5.1.call hd6,H5.2.1.chg hd6.2 (by omega),H5.2.2.1.chg hd6.2 (by omega),hf⟩
 have hs6:=hd6.2.size
 obtain⟨d0,d1,d2,d3,d4,d5,d6⟩:=H6.2.1.at i f hf
 simp only[Nat.zero_add]at d0 d1 d2 d3 d4 d5 d6
 clear hd6 hf
 obtain⟨eb,heb⟩:=qE w6.heap.size
 obtain⟨W7,hW7⟩:=qE (w6.alloc (Obj.cells #[.int .i64 f.kind,.string f.s,.bool f.hi,.string f.t,.int .u64 f.lo,.int .u64 f.up,.int .i64 f.n] 65):World)
 have H7:Hid (SpJ base cb bv n w eb g5 c5 xs f W7):=by
  have k7:Below w6.heap.size w6 W7:=by rw[hW7];exact qB
  have b7:BoxAt W7 w.heap.size 65 7 eb f.seven:=by rw[hW7,heb];exact boxAt_new w6 #[.int .i64 f.kind,.string f.s,.bool f.hi,.string f.t,.int .u64 f.lo,.int .u64 f.up,.int .i64 f.n] H6.1.c.size rfl
  exact⟨H6.2.1.below k7 H6.2.1.lt.2,b7,H6.2.2.1.below k7,H6.1.below k7,⟨by omega,H5.2.2.2,by have:=H6.2.2.1.lt.2;omega⟩,(HX.2 f (List.mem_of_getElem? H6.2.2.2)).ok⟩
 have HSm:Hid (f.small∧xs[i]?=some f):=⟨HX.2 f (List.mem_of_getElem? H6.2.2.2),H6.2.2.2⟩
 go_upto_region 6 with fail
 rw[←hW7,←heb]
 clear hW7 heb d0 d1 d2 d3 d4 d5 d6 H6 H5 H0 HW1
 go_wp2_with fail
 refine(below_core base cb bv n 10 _ H7.d.d (by omega) (by omega)).mono ?_
 rintro e w8 ⟨x,rfl,hx0,hx1,hd8⟩
 have H8:Hid (SpJ base cb bv n w eb g5 c5 xs f w8):=H7.call hd8
 clear hd8 H7
 by_cases x0:x=0
 ·subst x0
  go_wp2_with fail
  refine(below_core base cb bv n 18 _ H8.d.d (by omega) (by omega)).mono ?_
  rintro e w9 ⟨q,rfl,hq0,hq1,hd9⟩
  have H9:Hid (SpJ base cb bv n w eb g5 c5 xs f w9):=H8.call hd9
  clear hd9
  have z1:=H9.e.cell (j:=0) rfl
  have z2:=H9.e.frozen 0
  obtain⟨WA,hWA⟩:=qE (w9.setCell ⟨eb,0,none⟩ (.int .i64 q):World)
  have HA:Hid (SpJ base cb bv n w eb g5 c5 xs (⟨q,f.s,f.hi,f.t,f.lo,f.up,f.n⟩:Nd) WA):=by rw[hWA];exact H9.set 0 _ _ rfl ⟨H8.ok.s,H8.ok.t,(wf_i64 (x:=q) ⟨hq0,by omega⟩),H8.ok.lo,H8.ok.up,H8.ok.n⟩
  go_upto_region 27 with fail
  rw[←hWA]
  clear hWA z1 z2
  obtain⟨k0,k1,k2,k3,k4,k5,k6⟩:=And.intro (HA.e.cell (j:=0) rfl) (And.intro (HA.e.cell (j:=1) rfl) (And.intro (HA.e.cell (j:=2) rfl) (And.intro (HA.e.cell (j:=3) rfl) (And.intro (HA.e.cell (j:=4) rfl) (And.intro (HA.e.cell (j:=5) rfl) (HA.e.cell (j:=6) rfl))))))
  simp only at k0 k1 k2 k3 k4 k5 k6
  obtain⟨d0,d1,d2,d3,d4,d5,d6⟩:=HA.row.at i _ HSm.2
  simp only[Nat.zero_add]at d0 d1 d2 d3 d4 d5 d6
  have hfz:=fun j=>World.ownsRow.frozenAt HA.row j
  obtain⟨WP,hWP⟩:=qE ((((((((WA.setCell ⟨g5,i*7,none⟩ (.int .i64 q)).setCell ⟨g5,i*7+1,none⟩ (.string f.s)).setCell ⟨g5,i*7+2,none⟩ (.bool f.hi)).setCell ⟨g5,i*7+3,none⟩ (.string f.t)).setCell ⟨g5,i*7+4,none⟩ (.int .u64 f.lo)).setCell ⟨g5,i*7+5,none⟩ (.int .u64 f.up)).setCell ⟨g5,i*7+6,none⟩ (.int .i64 f.n)):World)
  exact zzQ2
 by_cases x1:x=1
 ·subst x1
  have z1:=H8.e.cell (j:=1) rfl
  have z2:=H8.e.frozen 1
  obtain⟨WA,hWA⟩:=qE (w8.setCell ⟨eb,1,none⟩ (.string ⟨#[40,97]⟩):World)
  have HA:Hid (SpJ base cb bv n w eb g5 c5 xs (⟨f.kind,⟨#[40,97]⟩,f.hi,f.t,f.lo,f.up,f.n⟩:Nd) WA):=by rw[hWA];exact H8.set 1 _ _ rfl ⟨(by show(2:Nat)≤maxLen;decide),H8.ok.t,H8.ok.kind,H8.ok.lo,H8.ok.up,H8.ok.n⟩
  go_upto_region 27 with fail
  rw[←hWA]
  clear hWA z1 z2
  obtain⟨k0,k1,k2,k3,k4,k5,k6⟩:=And.intro (HA.e.cell (j:=0) rfl) (And.intro (HA.e.cell (j:=1) rfl) (And.intro (HA.e.cell (j:=2) rfl) (And.intro (HA.e.cell (j:=3) rfl) (And.intro (HA.e.cell (j:=4) rfl) (And.intro (HA.e.cell (j:=5) rfl) (HA.e.cell (j:=6) rfl))))))
  simp only at k0 k1 k2 k3 k4 k5 k6
  obtain⟨d0,d1,d2,d3,d4,d5,d6⟩:=HA.row.at i _ HSm.2
  simp only[Nat.zero_add]at d0 d1 d2 d3 d4 d5 d6
  have hfz:=fun j=>World.ownsRow.frozenAt HA.row j
  obtain⟨WP,hWP⟩:=qE ((((((((WA.setCell ⟨g5,i*7,none⟩ (.int .i64 f.kind)).setCell ⟨g5,i*7+1,none⟩ (.string ⟨#[40,97]⟩)).setCell ⟨g5,i*7+2,none⟩ (.bool f.hi)).setCell ⟨g5,i*7+3,none⟩ (.string f.t)).setCell ⟨g5,i*7+4,none⟩ (.int .u64 f.lo)).setCell ⟨g5,i*7+5,none⟩ (.int .u64 f.up)).setCell ⟨g5,i*7+6,none⟩ (.int .i64 f.n)):World)
  exact zzQ2
 by_cases x2:x=2
 ·subst x2
  have hfn:=HSm.1.n
  have z1:=H8.e.cell (j:=6) rfl
  have z2:=H8.e.frozen 6
  obtain⟨WA,hWA⟩:=qE (w8.setCell ⟨eb,6,none⟩ (.int .i64 (f.n+1000)):World)
  have HA:Hid (SpJ base cb bv n w eb g5 c5 xs (⟨f.kind,f.s,f.hi,f.t,f.lo,f.up,(f.n+1000)⟩:Nd) WA):=by rw[hWA];exact H8.set 6 _ _ rfl ⟨H8.ok.s,H8.ok.t,H8.ok.kind,H8.ok.lo,H8.ok.up,(wf_n hfn)⟩
  go_upto_region 27 with fail
  rw[←hWA]
  clear hWA z1 z2
  obtain⟨k0,k1,k2,k3,k4,k5,k6⟩:=And.intro (HA.e.cell (j:=0) rfl) (And.intro (HA.e.cell (j:=1) rfl) (And.intro (HA.e.cell (j:=2) rfl) (And.intro (HA.e.cell (j:=3) rfl) (And.intro (HA.e.cell (j:=4) rfl) (And.intro (HA.e.cell (j:=5) rfl) (HA.e.cell (j:=6) rfl))))))
  simp only at k0 k1 k2 k3 k4 k5 k6
  obtain⟨d0,d1,d2,d3,d4,d5,d6⟩:=HA.row.at i _ HSm.2
  simp only[Nat.zero_add]at d0 d1 d2 d3 d4 d5 d6
  have hfz:=fun j=>World.ownsRow.frozenAt HA.row j
  obtain⟨WP,hWP⟩:=qE ((((((((WA.setCell ⟨g5,i*7,none⟩ (.int .i64 f.kind)).setCell ⟨g5,i*7+1,none⟩ (.string f.s)).setCell ⟨g5,i*7+2,none⟩ (.bool f.hi)).setCell ⟨g5,i*7+3,none⟩ (.string f.t)).setCell ⟨g5,i*7+4,none⟩ (.int .u64 f.lo)).setCell ⟨g5,i*7+5,none⟩ (.int .u64 f.up)).setCell ⟨g5,i*7+6,none⟩ (.int .i64 (f.n+1000))):World)
  exact zzQ2
 by_cases x3:x=3
 ·subst x3
  have z1:=H8.e.cell (j:=2) rfl
  have z2:=H8.e.frozen 2
  obtain⟨WA,hWA⟩:=qE (w8.setCell ⟨eb,2,none⟩ (.bool (!f.hi)):World)
  have HA:Hid (SpJ base cb bv n w eb g5 c5 xs (⟨f.kind,f.s,(!f.hi),f.t,f.lo,f.up,f.n⟩:Nd) WA):=by rw[hWA];exact H8.set 2 _ _ rfl ⟨H8.ok.s,H8.ok.t,H8.ok.kind,H8.ok.lo,H8.ok.up,H8.ok.n⟩
  go_upto_region 27 with fail
  rw[←hWA]
  clear hWA z1 z2
  obtain⟨k0,k1,k2,k3,k4,k5,k6⟩:=And.intro (HA.e.cell (j:=0) rfl) (And.intro (HA.e.cell (j:=1) rfl) (And.intro (HA.e.cell (j:=2) rfl) (And.intro (HA.e.cell (j:=3) rfl) (And.intro (HA.e.cell (j:=4) rfl) (And.intro (HA.e.cell (j:=5) rfl) (HA.e.cell (j:=6) rfl))))))
  simp only at k0 k1 k2 k3 k4 k5 k6
  obtain⟨d0,d1,d2,d3,d4,d5,d6⟩:=HA.row.at i _ HSm.2
  simp only[Nat.zero_add]at d0 d1 d2 d3 d4 d5 d6
  have hfz:=fun j=>World.ownsRow.frozenAt HA.row j
  obtain⟨WP,hWP⟩:=qE ((((((((WA.setCell ⟨g5,i*7,none⟩ (.int .i64 f.kind)).setCell ⟨g5,i*7+1,none⟩ (.string f.s)).setCell ⟨g5,i*7+2,none⟩ (.bool (!f.hi))).setCell ⟨g5,i*7+3,none⟩ (.string f.t)).setCell ⟨g5,i*7+4,none⟩ (.int .u64 f.lo)).setCell ⟨g5,i*7+5,none⟩ (.int .u64 f.up)).setCell ⟨g5,i*7+6,none⟩ (.int .i64 f.n)):World)
  exact zzQ2
 by_cases x4:x=4
 ·subst x4
  have z3:=H8.e.cell (j:=4) rfl
  have z1:=H8.e.cell (j:=5) rfl
  have z2:=H8.e.frozen 5
  obtain⟨WA,hWA⟩:=qE (w8.setCell ⟨eb,5,none⟩ (.int .u64 f.lo):World)
  have HA:Hid (SpJ base cb bv n w eb g5 c5 xs (⟨f.kind,f.s,f.hi,f.t,f.lo,f.lo,f.n⟩:Nd) WA):=by rw[hWA];exact H8.set 5 _ _ rfl ⟨H8.ok.s,H8.ok.t,H8.ok.kind,H8.ok.lo,H8.ok.lo,H8.ok.n⟩
  go_upto_region 27 with fail
  rw[←hWA]
  clear hWA z1 z2 z3
  obtain⟨k0,k1,k2,k3,k4,k5,k6⟩:=And.intro (HA.e.cell (j:=0) rfl) (And.intro (HA.e.cell (j:=1) rfl) (And.intro (HA.e.cell (j:=2) rfl) (And.intro (HA.e.cell (j:=3) rfl) (And.intro (HA.e.cell (j:=4) rfl) (And.intro (HA.e.cell (j:=5) rfl) (HA.e.cell (j:=6) rfl))))))
  simp only at k0 k1 k2 k3 k4 k5 k6
  obtain⟨d0,d1,d2,d3,d4,d5,d6⟩:=HA.row.at i _ HSm.2
  simp only[Nat.zero_add]at d0 d1 d2 d3 d4 d5 d6
  have hfz:=fun j=>World.ownsRow.frozenAt HA.row j
  obtain⟨WP,hWP⟩:=qE ((((((((WA.setCell ⟨g5,i*7,none⟩ (.int .i64 f.kind)).setCell ⟨g5,i*7+1,none⟩ (.string f.s)).setCell ⟨g5,i*7+2,none⟩ (.bool f.hi)).setCell ⟨g5,i*7+3,none⟩ (.string f.t)).setCell ⟨g5,i*7+4,none⟩ (.int .u64 f.lo)).setCell ⟨g5,i*7+5,none⟩ (.int .u64 f.lo)).setCell ⟨g5,i*7+6,none⟩ (.int .i64 f.n)):World)
  exact zzQ2
 by_cases x5:x=5
 ·subst x5
  have z3:=H8.e.cell (j:=1) rfl
  have z1:=H8.e.cell (j:=3) rfl
  have z2:=H8.e.frozen 3
  obtain⟨WA,hWA⟩:=qE (w8.setCell ⟨eb,3,none⟩ (.string f.s):World)
  have HA:Hid (SpJ base cb bv n w eb g5 c5 xs (⟨f.kind,f.s,f.hi,f.s,f.lo,f.up,f.n⟩:Nd) WA):=by rw[hWA];exact H8.set 3 _ _ rfl ⟨H8.ok.s,H8.ok.s,H8.ok.kind,H8.ok.lo,H8.ok.up,H8.ok.n⟩
  go_upto_region 27 with fail
  rw[←hWA]
  clear hWA z1 z2 z3
  obtain⟨k0,k1,k2,k3,k4,k5,k6⟩:=And.intro (HA.e.cell (j:=0) rfl) (And.intro (HA.e.cell (j:=1) rfl) (And.intro (HA.e.cell (j:=2) rfl) (And.intro (HA.e.cell (j:=3) rfl) (And.intro (HA.e.cell (j:=4) rfl) (And.intro (HA.e.cell (j:=5) rfl) (HA.e.cell (j:=6) rfl))))))
  simp only at k0 k1 k2 k3 k4 k5 k6
  obtain⟨d0,d1,d2,d3,d4,d5,d6⟩:=HA.row.at i _ HSm.2
  simp only[Nat.zero_add]at d0 d1 d2 d3 d4 d5 d6
  have hfz:=fun j=>World.ownsRow.frozenAt HA.row j
  obtain⟨WP,hWP⟩:=qE ((((((((WA.setCell ⟨g5,i*7,none⟩ (.int .i64 f.kind)).setCell ⟨g5,i*7+1,none⟩ (.string f.s)).setCell ⟨g5,i*7+2,none⟩ (.bool f.hi)).setCell ⟨g5,i*7+3,none⟩ (.string f.s)).setCell ⟨g5,i*7+4,none⟩ (.int .u64 f.lo)).setCell ⟨g5,i*7+5,none⟩ (.int .u64 f.up)).setCell ⟨g5,i*7+6,none⟩ (.int .i64 f.n)):World)
  exact zzQ2
 by_cases x6:x=6
 ·subst x6
  have r0:=H8.res.cell (j:=0) rfl
  have rf:=H8.res.frozen 0
  go_upto_region 20 with fail
  by_cases hc1:c5=1
  ·obtain rfl:N=1:=by omega
   subst hc1
   obtain⟨WF,hWF⟩:=qE (w8.setCell ⟨w.heap.size+1,0,none⟩ (.slice (some ⟨g5,0,none⟩) 0 0):World)
   have HR:Hid (WF.cell? ⟨w.heap.size+1,0,none⟩=some (.slice (some ⟨g5,0,none⟩) 0 0)∧AnyP base cb bv n w (.returned (.agg #[.slice (some ⟨g5,0,none⟩) 0 0])) WF):=H8.cut [] 0 0 0 (fun i e he=>by simp at he) (fun e he=>by simp at he) rfl (by omega) (by omega) WF hWF
   exact zzQ12
  ·have zc:¬((c5:Int)-1=0):=by omega
   obtain⟨WF,hWF⟩:=qE (w8.setCell ⟨w.heap.size+1,0,none⟩ (.slice (some ⟨g5,7,none⟩) (N-1) (c5-1)):World)
   have HR:Hid (WF.cell? ⟨w.heap.size+1,0,none⟩=some (.slice (some ⟨g5,7,none⟩) (N-1) (c5-1))∧AnyP base cb bv n w (.returned (.agg #[.slice (some ⟨g5,7,none⟩) (N-1) (c5-1)])) WF):=H8.cut (xs.drop 1) 7 (N-1) (c5-1) (nds_drop H8.row.at) (fun e he=>(HX.2 e (List.mem_of_mem_drop he)).ok) (by rw[List.length_drop,←HN.out]) (by omega) (by unfold maxLen;omega) WF hWF
   exact zzQ12
 by_cases x7:x=7
 ·subst x7
  obtain⟨f0,hf0⟩:∃f0,xs[0]?=some f0:=⟨_,List.getElem?_eq_getElem (by have:=HN.out;omega)⟩
  obtain⟨d0,d1,d2,d3,d4,d5,d6⟩:=H8.row.at 0 f0 hf0
  simp only[Nat.zero_add,Nat.zero_mul]at d0 d1 d2 d3 d4 d5 d6
  have HF0:Hid (f0.ok):=(HX.2 f0 (List.mem_of_getElem? hf0)).ok
  clear hf0
  obtain⟨WX,hWX⟩:=qE (w8.alloc (Obj.cells #[.int .i64 f0.kind,.string f0.s,.bool f0.hi,.string f0.t,.int .u64 f0.lo,.int .u64 f0.up,.int .i64 f0.n] 65):World)
  have HWX:Hid (Below w8.heap.size w8 WX∧NdsAt WX w8.heap.size 0 [f0]∧WX=w8.alloc (Obj.cells #[.int .i64 f0.kind,.string f0.s,.bool f0.hi,.string f0.t,.int .u64 f0.lo,.int .u64 f0.up,.int .i64 f0.n] 65)):=⟨by rw[hWX];exact qB,by rw[hWX];exact(ownNd_one w8 w.heap.size f0 H8.d.c.size).at,hWX⟩
  clear hWX
  go_wp2_with (at_builtin;rw[←HWX.2.2];refine wpList_append_nd _ rfl _ _ rfl w.heap.size g5 c5 N w8.heap.size 0 1 1 xs [f0] rfl rfl HN.out rfl (H8.row.below HWX.1 H8.row.lt.2) HWX.2.1 ?hl7 ?hb7 ?_)
  case hl7=>rw[←HN.out];simp;omega
  case hb7=>have h1:=H8.d.c.size;have h2:=HWX.1.size;omega
  intro g9 c9 w9 hO9 hgr9 hat9
  have H9:Hid (OwnNd w9 w.heap.size g9 c9 (xs++ [f0])∧DInv base cb bv n w w9∧BoxAt w9 w.heap.size 25 1 (w.heap.size+1) [.slice none 0 0]∧w.heap.size+1<g9):=by
   have hz:=H8.d.c.size
   have hz2:=HWX.1.size
   have hne:=H8.ne
   have hrl:=H8.res.lt.2
   have hc9:Chg (fun k=>k=g5) WX w9:=Chg.of_grown hgr9 (fun k q=>by cases q;rfl)
   refine⟨hO9,(H8.d.below HWX.1).grow hgr9 (fun k q=>by cases q;omega),(H8.res.below HWX.1).chg hc9 (by omega),?_⟩
   rcases hat9 with q|q<;>omega
  clear hO9 hgr9 hat9 d0 d1 d2 d3 d4 d5 d6
  obtain⟨WF,hWF⟩:=qE (w9.setCell ⟨w.heap.size+1,0,none⟩ (.slice (some ⟨g9,0,none⟩) (N+1) c9):World)
  have HR:Hid (WF.cell? ⟨w.heap.size+1,0,none⟩=some (.slice (some ⟨g9,0,none⟩) (N+1) c9)∧AnyP base cb bv n w (.returned (.agg #[.slice (some ⟨g9,0,none⟩) (N+1) c9])) WF):=by
   have hl9:(xs++ [f0]).length=N+1:=by rw[List.length_append,←HN.out];rfl
   have hcF:Chg (fun k=>k=w.heap.size+1) w9 WF:=by rw[hWF];exact Chg.of_set _ _ _ _ rfl
   have hgl:=H9.2.2.2
   have hOF:=H9.1.chg hcF (by omega)
   refine⟨by rw[hWF];exact(H9.2.2.1.set 0 (.slice (some ⟨g9,0,none⟩) (N+1) c9)).cell (j:=0) rfl,g9,0,c9,xs++ [f0],by rw[hl9],by rw[hl9];omega,fun e he=>?_,hOF.at,hOF.lt,hOF.caps,by rw[hWF];exact H9.2.1.grow (grown_set w9 (w.heap.size+1) 0 _) (fun k q=>by cases q;omega)⟩
   rcases List.mem_append.1 he with q|q
   ·exact(HX.2 e q).ok
   ·simp at q;subst q;exact HF0.out
  have r0:=H9.2.2.1.cell (j:=0) rfl
  have rf:=H9.2.2.1.frozen 0
  exact zzQ12
 by_cases x8:x=8
 ·subst x8
  go_wp2_with fail
  refine(many_core 97 201 w8 (by omega)).mono ?_
  rintro e w9 ⟨q,rfl,hq,hb9⟩
  have H9:Hid (SpJ base cb bv n w eb g5 c5 xs f w9):=H8.below hb9
  clear hb9
  have z1:=H9.e.cell (j:=1) rfl
  have z2:=H9.e.frozen 1
  obtain⟨WA,hWA⟩:=qE (w9.setCell ⟨eb,1,none⟩ (.string q):World)
  have HA:Hid (SpJ base cb bv n w eb g5 c5 xs (⟨f.kind,q,f.hi,f.t,f.lo,f.up,f.n⟩:Nd) WA):=by rw[hWA];exact H9.set 1 _ _ rfl ⟨(Nat.le_trans hq (by decide)),H8.ok.t,H8.ok.kind,H8.ok.lo,H8.ok.up,H8.ok.n⟩
  go_upto_region 27 with fail
  rw[←hWA]
  clear hWA z1 z2
  obtain⟨k0,k1,k2,k3,k4,k5,k6⟩:=And.intro (HA.e.cell (j:=0) rfl) (And.intro (HA.e.cell (j:=1) rfl) (And.intro (HA.e.cell (j:=2) rfl) (And.intro (HA.e.cell (j:=3) rfl) (And.intro (HA.e.cell (j:=4) rfl) (And.intro (HA.e.cell (j:=5) rfl) (HA.e.cell (j:=6) rfl))))))
  simp only at k0 k1 k2 k3 k4 k5 k6
  obtain⟨d0,d1,d2,d3,d4,d5,d6⟩:=HA.row.at i _ HSm.2
  simp only[Nat.zero_add]at d0 d1 d2 d3 d4 d5 d6
  have hfz:=fun j=>World.ownsRow.frozenAt HA.row j
  obtain⟨WP,hWP⟩:=qE ((((((((WA.setCell ⟨g5,i*7,none⟩ (.int .i64 f.kind)).setCell ⟨g5,i*7+1,none⟩ (.string q)).setCell ⟨g5,i*7+2,none⟩ (.bool f.hi)).setCell ⟨g5,i*7+3,none⟩ (.string f.t)).setCell ⟨g5,i*7+4,none⟩ (.int .u64 f.lo)).setCell ⟨g5,i*7+5,none⟩ (.int .u64 f.up)).setCell ⟨g5,i*7+6,none⟩ (.int .i64 f.n)):World)
  exact zzQ2
 ·obtain rfl:x=9:=by omega
  have z1:=H8.e.cell (j:=6) rfl
  have z2:=H8.e.frozen 6
  obtain⟨WA,hWA⟩:=qE (w8.setCell ⟨eb,6,none⟩ (.int .i64 0):World)
  have HA:Hid (SpJ base cb bv n w eb g5 c5 xs (⟨f.kind,f.s,f.hi,f.t,f.lo,f.up,0⟩:Nd) WA):=by rw[hWA];exact H8.set 6 _ _ rfl ⟨H8.ok.s,H8.ok.t,H8.ok.kind,H8.ok.lo,H8.ok.up,(by show(Lit.int .i64 0).wf=true;decide)⟩
  go_upto_region 27 with fail
  rw[←hWA]
  clear hWA z1 z2
  obtain⟨k0,k1,k2,k3,k4,k5,k6⟩:=And.intro (HA.e.cell (j:=0) rfl) (And.intro (HA.e.cell (j:=1) rfl) (And.intro (HA.e.cell (j:=2) rfl) (And.intro (HA.e.cell (j:=3) rfl) (And.intro (HA.e.cell (j:=4) rfl) (And.intro (HA.e.cell (j:=5) rfl) (HA.e.cell (j:=6) rfl))))))
  simp only at k0 k1 k2 k3 k4 k5 k6
  obtain⟨d0,d1,d2,d3,d4,d5,d6⟩:=HA.row.at i _ HSm.2
  simp only[Nat.zero_add]at d0 d1 d2 d3 d4 d5 d6
  have hfz:=fun j=>World.ownsRow.frozenAt HA.row j
  obtain⟨WP,hWP⟩:=qE ((((((((WA.setCell ⟨g5,i*7,none⟩ (.int .i64 f.kind)).setCell ⟨g5,i*7+1,none⟩ (.string f.s)).setCell ⟨g5,i*7+2,none⟩ (.bool f.hi)).setCell ⟨g5,i*7+3,none⟩ (.string f.t)).setCell ⟨g5,i*7+4,none⟩ (.int .u64 f.lo)).setCell ⟨g5,i*7+5,none⟩ (.int .u64 f.up)).setCell ⟨g5,i*7+6,none⟩ (.int .i64 0)):World)
  exact zzQ2
theorem NdsAt.chg {S:Nat→Prop} {w w':World} {b off:Nat} {es:List Nd} (h:NdsAt w b off es) (hb:Chg S w w') (hlt:b<w.heap.size) (hn:¬S b):NdsAt w' b off es:=by
 intro i e he
 have:=h i e he
 refine⟨?_,?_,?_,?_,?_,?_,?_⟩
 all_goals rw[hb.cell (by exact hlt) (by exact hn)]
 ·exact this.1
 ·exact this.2.1
 ·exact this.2.2.1
 ·exact this.2.2.2.1
 ·exact this.2.2.2.2.1
 ·exact this.2.2.2.2.2.1
 ·exact this.2.2.2.2.2.2
theorem DInv.trans {base cb:Nat} {bv:Value} {n:Nat} {w w1 w2:World} (h:DInv base cb bv n w w1) (k:DInv base cb bv n w1 w2):DInv base cb bv n w w2:=⟨k.d,h.c.trans k.c,h.lt,h.hb⟩
theorem AnyP.out {base cb:Nat} {bv:Value} {n:Nat} {w w1 w2:World} {rb b o c:Nat} {ys:List Nd} (hd:DInv base cb bv n w w2) (hr:BoxAt w2 w.heap.size 25 1 rb [.slice none 0 0]) (hb:b<w2.heap.size) (hw:w.heap.size≤b) (hne:¬b=rb) (hy:NdsAt w2 b o ys) (hok:∀e∈ys,e.ok) (hl:ys.length≤1001) (hc:ys.length≤c∧c≤maxLen) (N:Nat) (hN:N=ys.length) (WF:World) (hWF:WF=w2.setCell ⟨rb,0,none⟩ (.slice (some ⟨b,o,none⟩) N c)):
  WF.cell? ⟨rb,0,none⟩=some (.slice (some ⟨b,o,none⟩) N c)∧AnyP base cb bv n w (.returned (.agg #[.slice (some ⟨b,o,none⟩) N c])) WF:=by
 subst hN
 have hcF:Chg (fun k=>k=rb) w2 WF:=by rw[hWF];exact Chg.of_set _ _ _ _ rfl
 refine⟨by rw[hWF];exact(hr.set 0 (.slice (some ⟨b,o,none⟩) ys.length c)).cell (j:=0) rfl,b,o,c,ys,rfl,hl,hok,hy.chg hcF hb hne,⟨hw,Nat.lt_of_lt_of_le hb hcF.size⟩,hc,?_⟩
 rw[hWF]
 exact hd.grow (grown_set w2 rb 0 _) (fun k q=>by cases q;exact hr.lt.1)
set_option maxHeartbeats 4000000 in
theorem drawAny_core (base cb:Nat) (bv:Value) (n:Nat) (w:World) (h:DrawAt base cb bv n w):
  Calls Tryz.prog 32 #[.pointer (some ⟨cb,0,none⟩)] w (AnyP base cb bv n w):=by
 obtain⟨Wa,hWa⟩:=qE (w.alloc (Obj.cells #[.slice none 0 0] 25):World)
 have hba:Below w.heap.size w Wa:=by rw[hWa];exact qB
 have HA:Hid (DInv base cb bv n w Wa∧BoxAt Wa w.heap.size 25 1 w.heap.size [.slice none 0 0]):=⟨(DInv.start h).below hba,by rw[hWa];exact boxAt_new w #[.slice none 0 0] (Nat.le_refl _) rfl⟩
 clear h hba
 go_enter Tryz.func32,Tryz.ntmps32
 go_wp2_with fail
 rw[←hWa]
 clear hWa
 refine(once_core base cb bv n 20 _ HA.1.d (by omega) (by omega)).mono ?_
 rintro e w1 ⟨v,rfl,hv,hd1⟩
 have H1:Hid (DInv base cb bv n w w1∧BoxAt w1 w.heap.size 25 1 w.heap.size [.slice none 0 0]):=⟨HA.1.call hd1,HA.2.chg hd1.2 (by have:=HA.1.lt;omega)⟩
 clear hd1 HA
 rcases hv with rfl|rfl
 ·go_wp2_with fail
  refine(drawLimit_core base cb bv n w1 H1.1.d).mono ?_
  rintro e w2 hP
  obtain⟨b,o,c,ys,rfl,hl,K2⟩:=hP.any (by omega)
  have H2:Hid (BoxAt w2 w.heap.size 25 1 w.heap.size [.slice none 0 0]):=H1.2.chg K2.out.2.2.2.2.c (by have:=H1.1.lt;omega)
  obtain⟨N,hN⟩:=qE ys.length
  have HN:Hid (N=ys.length):=hN
  rw[←hN]
  obtain⟨WF,hWF⟩:=qE (w2.setCell ⟨w.heap.size,0,none⟩ (.slice (some ⟨b,o,none⟩) N c):World)
  have HR:Hid (WF.cell? ⟨w.heap.size,0,none⟩=some (.slice (some ⟨b,o,none⟩) N c)∧AnyP base cb bv n w (.returned (.agg #[.slice (some ⟨b,o,none⟩) N c])) WF):=by
   have hz:=H1.2.lt.2
   have hb2:=K2.out.2.2.1
   exact AnyP.out (w1:=w1) (H1.1.trans K2.out.2.2.2.2) H2.out hb2.2 (by omega) (by omega) K2.out.2.1 K2.out.1 hl K2.out.2.2.2.1 N hN WF hWF
  have r0:=H2.cell (j:=0) rfl
  have rf:=H2.frozen 0
  have p0:=HR.1
  clear hN K2 hP
  exact zzQ60
 ·go_wp2_with fail
  refine(drawFilter_core base cb bv n w1 H1.1.d).mono ?_
  rintro e w2 ⟨g,cp,xs,rfl,hl,h0,K2⟩
  obtain⟨N,hN⟩:=qE xs.length
  have HN:Hid (N=xs.length):=hN
  rw[←hN]at hl h0⊢
  obtain⟨tb,htb⟩:=qE w2.heap.size
  obtain⟨W3,hW3⟩:=qE (w2.alloc (Obj.cells #[.slice (some ⟨g,0,none⟩) N cp] 25):World)
  have H3:Hid (DInv base cb bv n w W3∧BoxAt W3 w.heap.size 25 1 w.heap.size [.slice none 0 0]∧BoxAt W3 w.heap.size 25 1 tb [.slice (some ⟨g,0,none⟩) N cp]∧OwnNd W3 w1.heap.size g cp xs∧(w1.heap.size≤g∧g<tb∧w.heap.size<w1.heap.size)):=by
   have k3:Below w2.heap.size w2 W3:=by rw[hW3];exact qB
   have hd2:=H1.1.trans K2.out.2.2
   have hz:=H1.2.lt.2
   have hgl:=K2.out.2.1.lt
   exact⟨hd2.below k3,(H1.2.chg K2.out.2.2.c (by have:=H1.1.lt;omega)).below k3,by rw[hW3,htb];exact boxAt_new w2 #[.slice (some ⟨g,0,none⟩) N cp] hd2.c.size rfl,K2.out.2.1.below k3 hgl.2,hgl.1,by omega,hz⟩
  have HS:Hid (∀e∈xs,e.small):=K2.out.1
  clear K2 hN
  go_upto_region 4 with fail
  rw[←hW3,←htb]
  clear hW3 htb
  go_wp2_with fail
  refine(once_core base cb bv n 8 _ H3.1.d (by omega) (by omega)).mono ?_
  rintro e w4 ⟨v,rfl,hv,hd4⟩
  have H4:Hid (DInv base cb bv n w w4∧BoxAt w4 w.heap.size 25 1 w.heap.size [.slice none 0 0]∧BoxAt w4 w.heap.size 25 1 tb [.slice (some ⟨g,0,none⟩) N cp]∧OwnNd w4 w1.heap.size g cp xs∧(w1.heap.size≤g∧g<tb∧w.heap.size<w1.heap.size)∧tb<w4.heap.size):=by
   have hcl:=H3.1.lt
   have hg:=H3.2.2.2.2
   have htl:=H3.2.2.1.lt.2
   have hz4:=hd4.2.size
   exact⟨H3.1.call hd4,H3.2.1.chg hd4.2 (by omega),H3.2.2.1.chg hd4.2 (by omega),H3.2.2.2.1.chg hd4.2 (by omega),hg,by omega⟩
  clear hd4 H3
  rcases hv with rfl|rfl
  ·have c4:=H4.2.2.1.cell (j:=0) rfl
   have HSp:Hid (Calls Tryz.prog 70 #[.pointer (some ⟨cb,0,none⟩),.agg #[.slice (some ⟨g,0,none⟩) N cp]] w4 (AnyP base cb bv n w4)):=by
    have h9:=drawSpoil_core base cb bv n w4 H4.1.d H4.2.2.2.1 HS.out (by rw[←HN.out];omega) (by rw[←HN.out];exact h0)
    rw[←HN.out]at h9
    exact h9
   go_wp2_with fail
   refine HSp.mono ?_
   rintro e w5 ⟨b,o,c,ys,rfl,hl5,K5⟩
   obtain⟨M,hM⟩:=qE ys.length
   have HM:Hid (M=ys.length):=hM
   rw[←hM]
   obtain⟨W6,hW6⟩:=qE (w5.setCell ⟨tb,0,none⟩ (.slice (some ⟨b,o,none⟩) M c):World)
   have H5:Hid (BoxAt w5 w.heap.size 25 1 tb [.slice (some ⟨g,0,none⟩) N cp]):=H4.2.2.1.chg K5.out.2.2.2.2.c (by have:=H4.1.lt;have:=H4.2.2.1.lt.1;omega)
   have H6:Hid (DInv base cb bv n w W6∧BoxAt W6 w.heap.size 25 1 w.heap.size [.slice none 0 0]∧BoxAt W6 w.heap.size 25 1 tb [.slice (some ⟨b,o,none⟩) M c]∧NdsAt W6 b o ys∧(w.heap.size<b∧b<W6.heap.size∧¬b=tb)):=by
    have hd5:=H4.1.trans K5.out.2.2.2.2
    have hb5:=K5.out.2.2.1
    have ht:=H4.2.2.2.2.2
    have hg:=H4.2.2.2.2.1
    have hcl:=H4.1.lt
    have hc6:Chg (fun k=>k=tb) w5 W6:=by rw[hW6];exact Chg.of_set _ _ _ _ rfl
    refine⟨by rw[hW6];exact hd5.grow (grown_set w5 tb 0 _) (fun k q=>by cases q;omega),(H4.2.1.chg K5.out.2.2.2.2.c (by omega)).chg hc6 (by omega),by rw[hW6];exact H5.set 0 _,K5.out.2.1.chg hc6 hb5.2 (by omega),by omega,Nat.lt_of_lt_of_le hb5.2 hc6.size,by omega⟩
   obtain⟨WF,hWF⟩:=qE (W6.setCell ⟨w.heap.size,0,none⟩ (.slice (some ⟨b,o,none⟩) M c):World)
   have HR:Hid (WF.cell? ⟨w.heap.size,0,none⟩=some (.slice (some ⟨b,o,none⟩) M c)∧AnyP base cb bv n w (.returned (.agg #[.slice (some ⟨b,o,none⟩) M c])) WF):=by
    have hb6:=H6.2.2.2.2
    exact AnyP.out (w1:=w1) H6.1 H6.2.1 hb6.2.1 (by omega) (by omega) H6.2.2.2.1 K5.out.1 hl5 K5.out.2.2.2.1 M hM WF hWF
   have t0:=H5.cell (j:=0) rfl
   have tf:=H5.frozen 0
   clear hM K5 c4 HSp
   go_upto_region 6 with fail
   rw[←hW6]
   clear hW6 t0 tf
   have t6:=H6.2.2.1.cell (j:=0) rfl
   have r0:=H6.2.1.cell (j:=0) rfl
   have rf:=H6.2.1.frozen 0
   have p0:=HR.1
   exact zzQ60
  ·obtain⟨WF,hWF⟩:=qE (w4.setCell ⟨w.heap.size,0,none⟩ (.slice (some ⟨g,0,none⟩) N cp):World)
   have HR:Hid (WF.cell? ⟨w.heap.size,0,none⟩=some (.slice (some ⟨g,0,none⟩) N cp)∧AnyP base cb bv n w (.returned (.agg #[.slice (some ⟨g,0,none⟩) N cp])) WF):=by
    have hg:=H4.2.2.2.2.1
    exact AnyP.out (w1:=w1) H4.1 H4.2.1 H4.2.2.2.1.lt.2 (by omega) (by omega) H4.2.2.2.1.at (fun e he=>(HS.out e he).ok) (by rw[←HN.out];omega) H4.2.2.2.1.caps N HN.out WF hWF
   have t6:=H4.2.2.1.cell (j:=0) rfl
   have r0:=H4.2.1.cell (j:=0) rfl
   have rf:=H4.2.1.frozen 0
   have p0:=HR.1
   exact zzQ60
theorem CodeAt.slice {w:World} {base:Nat} {bv:Value} {n:Nat} (h:CodeAt w base bv n):∃a cap,bv=.slice a n cap:=by
 rcases h.2 with⟨a,cap,rfl,rfl⟩|⟨b,off,cap,rfl,_⟩
 ·exact⟨_,_,rfl⟩
 ·exact⟨_,_,rfl⟩
theorem CodeAt.up {w w':World} {bv:Value} {n:Nat} (h:CodeAt w w.heap.size bv n) (hb:Below w.heap.size w w'):CodeAt w' w'.heap.size bv n:=by
 refine⟨h.1,?_⟩
 rcases h.2 with h|⟨b,off,cap,rfl,hlt,hc⟩
 ·exact .inl h
 ·refine .inr ⟨b,off,cap,rfl,by have:=hb.size;omega,fun k hk=>?_⟩
  obtain⟨x,h1,h2⟩:=hc k hk
  exact⟨x,by rw[hb.cell (p:=⟨b,off+k,none⟩) hlt];exact h1,h2⟩
def BytesIn (w:World) (v:Value) (n:Nat):Prop:=
 n≤maxLen∧((∃a cap,v=.slice a 0 cap∧n=0)∨∃b off cap,v=.slice (some ⟨b,off,none⟩) n cap∧b<w.heap.size∧∀k,k<n→∃x:Int,w.cell? ⟨b,off+k,none⟩=some (.int .u8 x)∧0≤x∧x<256)
theorem BytesIn.slice {w:World} {v:Value} {n:Nat} (h:BytesIn w v n):∃a cap,v=.slice a n cap:=by
 rcases h.2 with⟨a,cap,rfl,rfl⟩|⟨b,off,cap,rfl,_⟩
 ·exact⟨_,_,rfl⟩
 ·exact⟨_,_,rfl⟩
theorem BytesIn.code {w:World} {v:Value} {n:Nat} (h:BytesIn w v n) (hn:n≤1048576):CodeAt w w.heap.size v n:=⟨hn,h.2⟩
theorem bytes_of_trod {H:Type} {enc:TypeId×Value→H} {w:World} {fuel:Nat} {v:Value} {x:DataW H×List MemPlace}
  (h:DataW.trod enc Tryz.prog w 0 (fun _=>true) true fuel 22 [v]=some x) (hlt:∀p∈x.2,p.block<w.heap.size):∃n,BytesIn w v n:=by
 have hc:Tryz.prog.cellsOf 5=1:=by kernel_rfl
 rcases open_ints Tryz.underlying22 Tryz.underlying5 hc h with⟨hcs,hx⟩|⟨a,len,cap,zs,hcs,_,hl,hm,hz,hx,hcell,hwz⟩
 ·simp only[List.cons.injEq,and_true]at hcs
  exact⟨0,Nat.zero_le _,.inl ⟨none,0,hcs,rfl⟩⟩
 ·simp only[List.cons.injEq,and_true]at hcs
  simp only[if_true]at hz
  refine⟨len,Nat.le_trans hl hm,?_⟩
  by_cases h0:len=0
  ·subst h0;exact .inl ⟨some a,cap,hcs,rfl⟩
  ·obtain⟨ab,ao,spot⟩:=a
   have hspot:spot=none:=by simpa [Addr.add]using World.cell?_spot (hcell 0 (by omega))
   subst hspot
   refine .inr ⟨ab,ao,cap,hcs,?_,fun k hk=>?_⟩
   ·rw[hx]at hlt
    exact hlt (.cell ab (ao+0)) (by simp only[MemPlace.row,List.mem_map,List.mem_range];exact⟨0,by omega,rfl⟩)
   ·have h1:=hcell k (by omega)
    rw[Addr.add_lit]at h1
    have hb:=range_u8 hwz k
    rw[List.getD_eq_getElem?_getD]at h1
    exact⟨_,h1,hb.1,by omega⟩
def DnoP (w:World) (e:Ending) (w':World):Prop:=∃(b o c:Nat) (ys:List Nd),e=.returned (.agg #[.slice (some ⟨b,o,none⟩) ys.length c])∧ys.length≤1001∧Hid (((∀e∈ys,e.ok)∧NdsAt w' b o ys∧(w.heap.size≤b∧b<w'.heap.size)∧(ys.length≤c∧c≤maxLen))∧Below w.heap.size w w')
structure DpI (cb:Nat) (bv:Value) (n:Nat) (w:World) (tb b o c N:Nat) (wr:World):Prop where
 row:∃ys:List Nd,N=ys.length∧ys.length≤1001∧(∀e∈ys,e.ok)∧NdsAt wr b o ys
 bl:w.heap.size+1<b∧b<wr.heap.size
 caps:N≤c∧c≤maxLen
 d:DrawAt cb cb bv n wr
 res:BoxAt wr w.heap.size 25 1 w.heap.size [.slice none 0 0]
 var:BoxAt wr w.heap.size 25 1 tb [.slice (some ⟨b,o,none⟩) N c]
 low:Below w.heap.size w wr
 ne:w.heap.size<tb∧cb<tb∧cb<b∧w.heap.size<cb∧¬tb=b
theorem DpI.call {cb:Nat} {bv:Value} {n:Nat} {w:World} {tb b o c N:Nat} {wr wx:World} (h:DpI cb bv n w tb b o c N wr) (hd:Drew cb cb bv n wr wx):DpI cb bv n w tb b o c N wx:=by
 obtain⟨ys,h1,h2,h3,h4⟩:=h.row
 have hn:=h.ne
 have hb:=h.bl
 exact⟨⟨ys,h1,h2,h3,h4.chg hd.2 hb.2 (by omega)⟩,⟨hb.1,Nat.lt_of_lt_of_le hb.2 hd.2.size⟩,h.caps,hd.1,h.res.chg hd.2 (by omega),h.var.chg hd.2 (by omega),Chg.below h.low hd.2 h.low.size (fun k q=>by omega),hn⟩
theorem DpI.fin {cb:Nat} {bv:Value} {n:Nat} {w:World} {tb b o c N:Nat} {wr:World} (h:DpI cb bv n w tb b o c N wr) {WF:World} (hWF:WF=wr.setCell ⟨w.heap.size,0,none⟩ (.slice (some ⟨b,o,none⟩) N c)):WF.cell? ⟨w.heap.size,0,none⟩=some (.slice (some ⟨b,o,none⟩) N c)∧DnoP w (.returned (.agg #[.slice (some ⟨b,o,none⟩) N c])) WF:=by
 obtain⟨ys,h1,h2,h3,h4⟩:=h.row
 have hn:=h.ne
 have hb:=h.bl
 have hcp:=h.caps
 have hcF:Chg (fun k=>k=w.heap.size) wr WF:=by rw[hWF];exact Chg.of_set _ _ _ _ rfl
 exact⟨by rw[hWF];exact(h.res.set 0 _).cell (j:=0) rfl,b,o,c,ys,by rw[h1],h2,⟨h3,h4.chg hcF hb.2 (by omega),⟨by omega,Nat.lt_of_lt_of_le hb.2 hcF.size⟩,by omega,hcp.2⟩,Chg.below h.low hcF h.low.size (fun k q=>by omega)⟩
set_option maxHeartbeats 8000000 in
theorem drawPrint_core (bv:Value) (n:Nat) (w:World) (h:CodeAt w w.heap.size bv n):Calls Tryz.prog 14 #[bv] w (DnoP w):=by
 obtain⟨a,cap,rfl⟩:=h.slice
 have hn:=h.1
 obtain⟨W0,hW0⟩:=qE (w.alloc (Obj.cells #[.slice none 0 0] 25):World)
 have hb0:Below w.heap.size w W0:=by rw[hW0];exact qB
 have hz0:W0.heap.size=w.heap.size+1:=by rw[hW0];simp
 have H0:Hid (CodeAt W0 W0.heap.size (.slice a n cap) n∧BoxAt W0 w.heap.size 25 1 w.heap.size [.slice none 0 0]∧Below w.heap.size w W0∧W0.heap.size=w.heap.size+1):=⟨h.up hb0,by rw[hW0];exact boxAt_new w #[.slice none 0 0] (Nat.le_refl _) rfl,hb0,hz0⟩
 clear h hb0 hz0
 go_enter Tryz.func14,Tryz.ntmps14
 go_wp2_with fail
 rw[←hW0]
 clear hW0
 refine(new_core _ n W0 H0.1).mono ?_
 rintro e wn ⟨rfl,hDn,hbn⟩
 obtain⟨cb,hcb⟩:=qE W0.heap.size
 rw[←hcb]at hDn⊢
 have HN0:Hid (DrawAt cb cb (.slice a n cap) n wn∧BoxAt wn w.heap.size 25 1 w.heap.size [.slice none 0 0]∧Below w.heap.size w wn∧cb=w.heap.size+1∧cb<wn.heap.size):=⟨hDn,H0.2.1.below hbn,H0.2.2.1.trans (hbn.mono H0.2.2.1.size),by have:=H0.2.2.2;omega,hDn.lt.2⟩
 clear hDn hbn hcb H0
 go_wp2_with fail
 refine(drawAny_core cb cb (.slice a n cap) n wn HN0.1).mono ?_
 rintro e w2 ⟨b,o,c,ys,rfl,hl,K2⟩
 obtain⟨N,hN⟩:=qE ys.length
 rw[←hN]
 obtain⟨W3,hW3⟩:=qE (w2.alloc (Obj.cells #[.slice (some ⟨b,o,none⟩) N c] 25):World)
 obtain⟨tb,htb⟩:=qE w2.heap.size
 have H3:Hid (DpI cb (.slice a n cap) n w tb b o c N W3):=by
  have hb3:Below w2.heap.size w2 W3:=by rw[hW3];exact qB
  have hc2:=K2.out.2.2.2.2.c
  have hbl:=K2.out.2.2.1
  have hcb:=HN0.2.2.2
  have hlow:=HN0.2.2.1
  have hs:=hlow.size
  have hs2:=hc2.size
  have hs3:=hb3.size
  have hl2:Below w.heap.size w w2:=Chg.below hlow hc2 hlow.size (fun k q=>by omega)
  exact⟨⟨ys,hN,hl,K2.out.1,K2.out.2.1.below hb3 hbl.2⟩,⟨by omega,by omega⟩,by rw[hN];exact K2.out.2.2.2.1,K2.out.2.2.2.2.d.below hb3,(HN0.2.1.chg hc2 (by omega)).below hb3,by rw[htb,hW3];exact boxAt_new w2 _ (by omega) rfl,hl2.trans (hb3.mono (by omega)),by omega,by omega,by omega,by omega,by omega⟩
 clear hN hl K2 HN0
 go_upto_region 3 with fail
 rw[←hW3,←htb]
 clear hW3 htb
 go_wp2_with fail
 refine(once_core cb cb (.slice a n cap) n 4 _ H3.d (by omega) (by omega)).mono ?_
 rintro e w4 ⟨v,rfl,hv,hd4⟩
 have H4:Hid (DpI cb (.slice a n cap) n w tb b o c N w4):=H3.call hd4
 clear hd4 H3
 rcases hv with rfl|rfl
 case inr=>
  obtain⟨WF,hWF⟩:=qE (w4.setCell ⟨w.heap.size,0,none⟩ (.slice (some ⟨b,o,none⟩) N c):World)
  have HR:Hid (WF.cell? ⟨w.heap.size,0,none⟩=some (.slice (some ⟨b,o,none⟩) N c)∧DnoP w (.returned (.agg #[.slice (some ⟨b,o,none⟩) N c])) WF):=H4.fin hWF
  have r0:=H4.res.cell (j:=0) rfl
  have rf:=H4.res.frozen 0
  have t0:=H4.var.cell (j:=0) rfl
  have p0:=HR.1
  go_wp2_with fail
  rw[←hWF]
  exact bodyPost_ret (by simp[results,Tryz.results14,go_sem,p0]) rfl HR.2
 case inl=>
  have hne:=H4.ne
  have hcl:cb<w4.heap.size:=H4.d.lt.2
  go_wp2_with fail
  refine(pick_core cb cb (.slice a n cap) n _ 6 _ (H4.d.below (qB)) (by omega) (by omega) (by omega) (by simp) ?_).mono ?_
  ·exact zzQ45
  rintro e w6 ⟨s,rfl,hs,hd⟩
  have hb5:=(Below.refl w4.heap.size w4).alloc (Nat.le_refl _) (Obj.cells #[.string ⟨#[34]⟩,.string ⟨#[92]⟩,.string ⟨#[0,255]⟩,.string ⟨#[97,32,98]⟩,.string ⟨#[126]⟩,.string ⟨#[127]⟩] 9)
  have H6:Hid (DrawAt cb cb (.slice a n cap) n w6∧BoxAt w6 w.heap.size 25 1 w.heap.size [.slice none 0 0]∧BoxAt w6 w.heap.size 25 1 tb [.slice (some ⟨b,o,none⟩) N c]∧Below w.heap.size w w6∧w.heap.size+1<w6.heap.size):=by
   have hl4:=H4.low.trans (hb5.mono H4.low.size)
   have hz:=hd.2.size
   have hz5:=hb5.size
   have hb:=H4.bl
   exact⟨hd.1,(H4.res.below hb5).chg hd.2 (by omega),(H4.var.below hb5).chg hd.2 (by omega),Chg.below hl4 hd.2 hl4.size (fun k q=>by omega),by omega⟩
  clear hd hb5
  obtain⟨nb,hnb⟩:=qE w6.heap.size
  obtain⟨W7,hW7⟩:∃V:World,V=w6.setCell ⟨tb,0,none⟩ (.slice (some ⟨nb,0,none⟩) 1 1):=⟨_,rfl⟩
  obtain⟨W8,hW8⟩:∃V:World,V=W7.alloc (Obj.cells #[.int .i64 9,.string s,.bool false,.string ⟨#[]⟩,.int .u64 0,.int .u64 0,.int .i64 0] 65):=⟨_,rfl⟩
  have H7:Hid (DpI cb (.slice a n cap) n w tb nb 0 1 1 W8):=by
   have hc7:Chg (fun k=>k=tb) w6 W7:=by rw[hW7];exact Chg.of_set _ _ _ _ rfl
   have hz7:W7.heap.size=w6.heap.size:=by rw[hW7];simp
   have hb8:Below W7.heap.size W7 W8:=by rw[hW8];exact qB
   have hz8:W7.heap.size<W8.heap.size:=by rw[hW8];simp
   have htl:=H6.2.2.1.lt.2
   have hv7:BoxAt W7 w.heap.size 25 1 tb [.slice (some ⟨nb,0,none⟩) 1 1]:=by rw[hW7];exact H6.2.2.1.set 0 _
   have hN8:NdsAt W8 nb 0 [(⟨9,s,false,⟨#[]⟩,0,0,0⟩:Nd)]:=by
    rw[hnb,←hz7,hW8]
    exact(ownNd_one W7 w.heap.size (⟨9,s,false,⟨#[]⟩,0,0,0⟩:Nd) (by have:=H6.2.2.2.2;omega)).at
   have hok:(⟨9,s,false,⟨#[]⟩,0,0,0⟩:Nd).ok:=Nd.small.ok ⟨by show s.size≤200000;omega,Nat.zero_le _,by show(0:Int)≤0∧(0:Int)≤100000;omega,by show(0:Int)≤0∧(0:Int)≤100000;omega,by show(0:Int)≤0∧(0:Int)≤100000;omega,by show(0:Int)≤9∧(9:Int)≤100000;omega⟩
   have hl6:=H6.2.2.2.1
   have hl7:Below w.heap.size w W7:=Chg.below hl6 hc7 hl6.size (fun k q=>by omega)
   have hcb6:=H6.1.lt.2
   have h65:=H6.2.2.2.2
   exact⟨⟨_,rfl,by simp,fun e he=>by rw[List.mem_singleton]at he;rw[he];exact hok,hN8⟩,⟨by omega,by omega⟩,⟨Nat.le_refl _,by unfold maxLen;omega⟩,(H6.1.chg hc7 (by omega) (fun k q=>by omega)).below hb8,(H6.2.1.chg hc7 (by omega)).below hb8,hv7.below hb8,hl7.trans (hb8.mono (by omega)),by omega,by omega,by omega,by omega,by omega⟩
  obtain⟨WF,hWF⟩:=qE (W8.setCell ⟨w.heap.size,0,none⟩ (.slice (some ⟨nb,0,none⟩) 1 1):World)
  have HR:Hid (WF.cell? ⟨w.heap.size,0,none⟩=some (.slice (some ⟨nb,0,none⟩) 1 1)∧DnoP w (.returned (.agg #[.slice (some ⟨nb,0,none⟩) 1 1])) WF):=H7.fin hWF
  have v0:=H6.2.2.1.cell (j:=0) rfl
  have vf:=H6.2.2.1.frozen 0
  have vl:=H6.2.2.1.lt.2
  have r0:=H7.res.cell (j:=0) rfl
  have rf:=H7.res.frozen 0
  have t0:=H7.var.cell (j:=0) rfl
  have p0:=HR.1
  clear H4 H6 hs
  go_upto_region 5 with fail
  rw[←hnb,←hW7,←hW8]
  clear hnb hW7 hW8 v0 vf vl
  go_wp2_with fail
  rw[←hWF]
  exact bodyPost_ret (by simp[results,Tryz.results14,go_sem,p0]) rfl HR.2
set_option maxHeartbeats 4000000 in
theorem lwFilter_same {w:World} {b o c b' o' c':Nat} {ys:List Nd} (h:NdsAt w b o ys) (hb:b<w.heap.size) (h':NdsAt w b' o' ys) (hb':b'<w.heap.size) (hl:ys.length≤1000000):
  Calls Tryz.prog 19 #[.agg #[.slice (some ⟨b,o,none⟩) ys.length c],.agg #[.slice (some ⟨b',o',none⟩) ys.length c']] w fun e w'=>e=.returned (.bool true)∧Below w.heap.size w w':=by
 obtain⟨N,hN⟩:=qE ys.length
 have HN:Hid (N=ys.length):=hN
 rw[←hN]at hl⊢
 obtain⟨W0,hW0⟩:=qE ((w.alloc (Obj.cells #[.slice (some ⟨b,o,none⟩) N c] 25)).alloc (Obj.cells #[.slice (some ⟨b',o',none⟩) N c'] 25):World)
 have H0:Hid (Below w.heap.size w W0∧BoxAt W0 w.heap.size 25 1 w.heap.size [.slice (some ⟨b,o,none⟩) N c]∧BoxAt W0 w.heap.size 25 1 (w.heap.size+1) [.slice (some ⟨b',o',none⟩) N c']∧NdsAt W0 b o ys∧NdsAt W0 b' o' ys∧(b<W0.heap.size∧b'<W0.heap.size)):=by
  have b1:=boxAt_new w (base:=w.heap.size) (t:=25) (sz:=1) #[.slice (some ⟨b,o,none⟩) N c] (Nat.le_refl _) rfl
  obtain⟨X,hX⟩:=qE (w.alloc (Obj.cells #[.slice (some ⟨b,o,none⟩) N c] 25))
  rw[←hX]at b1 hW0
  have zx:X.heap.size=w.heap.size+1:=by rw[hX];simp
  have k1:Below w.heap.size w X:=by rw[hX];exact qB
  have k2:Below X.heap.size X W0:=by rw[hW0];exact qB
  have b2:=boxAt_new X (base:=w.heap.size) (t:=25) (sz:=1) #[.slice (some ⟨b',o',none⟩) N c'] (by omega) rfl
  rw[←hW0,zx]at b2
  have k:=k1.trans (k2.mono (by omega))
  exact⟨k,b1.below k2,b2,h.below k hb,h'.below k hb',by have:=k.size;omega,by have:=k.size;omega⟩
 clear h h' hN
 have hS:∀wx,Below W0.heap.size W0 wx→wx.cell? ⟨w.heap.size,0,none⟩=some (.slice (some ⟨b,o,none⟩) N c)∧wx.cell? ⟨w.heap.size+1,0,none⟩=some (.slice (some ⟨b',o',none⟩) N c')∧NdsAt wx b o ys∧NdsAt wx b' o' ys:=fun wx hx=>⟨(H0.2.1.below hx).cell (j:=0) rfl,(H0.2.2.1.below hx).cell (j:=0) rfl,H0.2.2.2.1.below hx H0.2.2.2.2.2.1,H0.2.2.2.2.1.below hx H0.2.2.2.2.2.2⟩
 have HS:Hid (∀wx,Below W0.heap.size W0 wx→wx.cell? ⟨w.heap.size,0,none⟩=some (.slice (some ⟨b,o,none⟩) N c)∧wx.cell? ⟨w.heap.size+1,0,none⟩=some (.slice (some ⟨b',o',none⟩) N c')∧NdsAt wx b o ys∧NdsAt wx b' o' ys):=hS
 clear hS
 obtain⟨q0,q1,_⟩:=HS.out W0 (Below.refl _ _)
 go_enter Tryz.func19,Tryz.ntmps19
 go_upto_region 1 with fail
 rw[←hW0]
 clear hW0
 go_wp2_with fail
 clear q0 q1
 go_loopw[5] (fun iv wr=>∃i:Nat,i≤N∧iv=.int .i64 (i:Int)∧Below W0.heap.size W0 wr) (fun iv _=>N-(intOf iv).toNat)
 case atStart=>exact⟨0,Nat.zero_le _,rfl,Below.refl _ _⟩
 case round=>
  obtain⟨i,hi,rfl,hbr⟩:=hrel
  have q0:=(HS.out wr hbr).1
  by_cases hlt:i<N
  ·have zi:(i:Int)<(N:Int):=by omega
   obtain⟨x,hx⟩:∃x,ys[i]?=some x:=⟨_,List.getElem?_eq_getElem (by have:=HN.out;omega)⟩
   obtain⟨Q,hQ,hq⟩:=ndNe_any x x
   obtain rfl:Q=false:=hQ.2 rfl
   have hbd:Below W0.heap.size W0 wr.drew:=hbr.drew
   have hS0:(fun wz:World=>wz.cell? ⟨w.heap.size,0,none⟩=some (.slice (some ⟨b,o,none⟩) N c)∧wz.cell? ⟨w.heap.size+1,0,none⟩=some (.slice (some ⟨b',o',none⟩) N c')∧NdsAt wz b o ys∧NdsAt wz b' o' ys) wr.drew:=HS.out _ hbd
   have HXx:Hid (ys[i]?=some x):=hx
   clear hx hQ
   go_upto_region 6 with fail
   refine wp_region_T 99 (fun wz:World=>wz.cell? ⟨w.heap.size,0,none⟩=some (.slice (some ⟨b,o,none⟩) N c)∧wz.cell? ⟨w.heap.size+1,0,none⟩=some (.slice (some ⟨b',o',none⟩) N c')∧NdsAt wz b o ys∧NdsAt wz b' o' ys) (by kernel_rfl) ?_
   refine qT 0 ?vlw0 rfl ?ylw0 hS0 ?_
   case ylw0=>exact zzR5
   try simp only[qA,List.getElem_toArray,List.getElem_cons_zero,List.getElem_cons_succ]
   refine qT 1 ?vlw1 rfl ?ylw1 hS0 ?_
   case ylw1=>exact zzR5
   try simp only[qA,List.getElem_toArray,List.getElem_cons_zero,List.getElem_cons_succ]
   refine qT 2 ?vlw2 rfl ?ylw2 hS0 ?_
   case ylw2=>exact zzR5
   try simp only[qA,List.getElem_toArray,List.getElem_cons_zero,List.getElem_cons_succ]
   refine qT 3 ?vlw3 rfl ?ylw3 hS0 ?_
   case ylw3=>exact zzR5
   try simp only[qA,List.getElem_toArray,List.getElem_cons_zero,List.getElem_cons_succ]
   refine qT 4 ?vlw4 rfl ?ylw4 hS0 ?_
   case ylw4=>exact zzR5
   try simp only[qA,List.getElem_toArray,List.getElem_cons_zero,List.getElem_cons_succ]
   refine qT 5 ?vlw5 rfl ?ylw5 hS0 ?_
   case ylw5=>exact zzR5
   try simp only[qA,List.getElem_toArray,List.getElem_cons_zero,List.getElem_cons_succ]
   refine qT 6 ?vlw6 rfl ?ylw6 hS0 ?_
   case ylw6=>exact zzR5
   try simp only[qA,List.getElem_toArray,List.getElem_cons_zero,List.getElem_cons_succ]
   refine qT 7 ?vlw7 rfl ?ylw7 hS0 ?_
   case ylw7=>exact zzR5
   try simp only[qA,List.getElem_toArray,List.getElem_cons_zero,List.getElem_cons_succ]
   refine qT 8 ?vlw8 rfl ?ylw8 hS0 ?_
   case ylw8=>exact zzR5
   try simp only[qA,List.getElem_toArray,List.getElem_cons_zero,List.getElem_cons_succ]
   refine qT 9 ?vlw9 rfl ?ylw9 hS0 ?_
   case ylw9=>exact zzR5
   try simp only[qA,List.getElem_toArray,List.getElem_cons_zero,List.getElem_cons_succ]
   refine qT 10 (.bool false) rfl ?ylw10 hS0 ?_
   case ylw10=>exact zzR5
   try simp only[qA,List.getElem_toArray,List.getElem_cons_zero,List.getElem_cons_succ]
   refine anyT_done (by kernel_rfl) ?_
   clear hS0 hq
   go_wp2_with fail
   go_roundw
   case rel=>exact⟨i+1,by omega,by go_num,hbd⟩
   case measure=>simp[intOf];omega
  ·go_wp2_with fail
   go_ret
   exact⟨rfl,H0.1.trans (hbr.mono H0.1.size)⟩
end Go.Proofs.YtgnpcenpcmdlfaaGreatDoor
namespace Go.Proofs.YtgnpcenpcmdlfaaGreatDoor
set_option linter.unusedVariables false
set_option linter.unusedSimpArgs false
def byt (n:Nat):UInt8:=UInt8.ofNat n
def num (n:Nat):List UInt8:=if n<128 then [byt n]else byt (128+n%128)::num (n/128)
termination_by n
decreasing_by omega
def sh (c:BitVec 32):BitVec 32:=if c.toNat%2=1 then(c>>>1)^^^3988292384#32 else c>>>1
end Go.Proofs.YtgnpcenpcmdlfaaGreatDoor
namespace Go.Proofs.YtgnpcenpcmdlfaaGreatDoor
open Go.ChangeShapes Go.WideShapes Go.ChangeAt Go.RowKit Go.Deep
def kindCmp (k l:Int):Int:=if k=2 then(if l=2 then 0 else-1)else(if l=2 then 1 else 0)
theorem kinds (a b:Ent):
  ((a.kind==2)=true∧(a.kind != 2)=false∧(b.kind==2)=true∧(b.kind != 2)=false∧kindCmp a.kind b.kind=0)∨
  ((a.kind==2)=true∧(a.kind != 2)=false∧(b.kind==2)=false∧(b.kind != 2)=true∧kindCmp a.kind b.kind= -1)∨
  ((a.kind==2)=false∧(a.kind != 2)=true∧(b.kind==2)=true∧(b.kind != 2)=false∧kindCmp a.kind b.kind=1)∨
  ((a.kind==2)=false∧(a.kind != 2)=true∧(b.kind==2)=false∧(b.kind != 2)=true∧kindCmp a.kind b.kind=0):=by
 unfold kindCmp
 by_cases ha:a.kind=2<;>by_cases hb:b.kind=2<;>simp[ha,hb]
end Go.Proofs.YtgnpcenpcmdlfaaGreatDoor
namespace Go.Proofs.YtgnpcenpcmdlfaaGreatDoor
open Go.ChangeShapes Go.WideShapes Go.ChangeAt Go.RowKit Go.Deep
set_option linter.unusedVariables false
end Go.Proofs.YtgnpcenpcmdlfaaGreatDoor
namespace Go.Proofs.YtgnpcenpcmdlfaaGreatDoor
set_option linter.unusedVariables false
set_option linter.unusedSimpArgs false
abbrev bl (s:ByteArray):List UInt8:=s.data.toList
theorem bl_len (s:ByteArray):(bl s).length=s.size:=by simp[bl]
theorem wf_u64 {t:Int} (h:(Lit.int .u64 t).wf=true):0≤t∧t<2^64:=by
 simp only[Lit.wf,Bool.and_eq_true,decide_eq_true_eq]at h
 have h1:IntKind.u64.min=0:=rfl
 have h2:IntKind.u64.max=18446744073709551615:=rfl
 omega
end Go.Proofs.YtgnpcenpcmdlfaaGreatDoor
namespace Go.Proofs.YtgnpcenpcmdlfaaGreatDoor
open Go.ChangeShapes Go.WideShapes Go.ChangeAt Go.RowKit Go.Deep
set_option linter.unusedVariables false
set_option linter.unusedSimpArgs false
def hexB (n:Nat):UInt8:=if n<10 then UInt8.ofNat (48+n)else UInt8.ofNat (87+n)
def qByte (b:UInt8):List UInt8:=if b.toNat=34∨b.toNat=92 then [92,b]else if 32≤b.toNat∧b.toNat≤126 then [b]else [92,120,hexB (b.toNat/16),hexB (b.toNat%16)]
theorem qByte_len (b:UInt8):(qByte b).length≤4:=by
 unfold qByte
 split
 ·simp
 ·split<;>simp
def quoL (s:List UInt8):List UInt8:=s.flatMap qByte
theorem quoL_len (s:List UInt8):(quoL s).length≤4*s.length:=by
 induction s with
 |nil=>simp[quoL]
 |cons b s ih=>unfold quoL at ih⊢;rw[List.flatMap_cons,List.length_append,List.length_cons];have:=qByte_len b;omega
theorem quoL_snoc (s:List UInt8) (b:UInt8):quoL (s++ [b])=quoL s++qByte b:=by simp[quoL]
def quoM (s:List UInt8):List UInt8:= [34]++quoL s++ [34]
theorem quoM_len (s:List UInt8):(quoM s).length≤4*s.length+2:=by unfold quoM;have:=quoL_len s;simp;omega
def wordA (k:Int):ByteArray:=
 if k=1 then⟨#[112,97,115,115]⟩else if k=2 then⟨#[98,108,111,99,107]⟩else if k=3 then⟨#[115,116,114,105,112]⟩else if k=4 then⟨#[114,111,119]⟩
 else if k=5 then⟨#[102,97,109]⟩else if k=6 then⟨#[113,117,97,108]⟩else if k=7 then⟨#[118,97,108]⟩else if k=8 then⟨#[114,111,119,115]⟩
 else if k=9 then⟨#[113,117,97,108,115]⟩else if k=10 then⟨#[116,115]⟩else if k=11 then⟨#[118,101,114,115,105,111,110,115]⟩else if k=12 then⟨#[99,101,108,108,115]⟩
 else if k=13 then⟨#[115,107,105,112]⟩else⟨#[]⟩
theorem wordA_len (k:Int):(bl (wordA k)).length≤8:=by
 rw[bl_len]
 have gen:∀(p:Prop) [Decidable p] (a b:ByteArray),a.size≤8→b.size≤8→(if p then a else b).size≤8:=by
  intro p _ a b ha hb
  split
  ·exact ha
  ·exact hb
 unfold wordA
 repeat' (first|(apply gen)|decide)
def endM (t:List UInt8) (n:Int):List UInt8:=if t= []then(if n=0 then []else Lib.decDigits n.toNat)else quoM t
def tailM (e:Nd):List UInt8:=
 if e.kind=4∨e.kind=5∨e.kind=6∨e.kind=7 then [32]++quoM (bl e.s)
 else if e.kind=8∨e.kind=9∨e.kind=10 then [32]++endM (bl e.s) e.lo++ [46,46]++endM (bl e.t) e.up
 else if e.kind=11∨e.kind=12∨e.kind=13 then [32]++Lib.decDigits e.n.toNat else []
def leafM (e:Nd):List UInt8:=bl (wordA e.kind)++tailM e
theorem decDigits_len:∀(f n:Nat),n<10^(f+1)→(Lib.decDigits n).length≤f+1
 |0,n,h=>by
  rw[Lib.decDigits,dif_pos (by simpa using h)];simp
 |f+1,n,h=>by
  rw[Lib.decDigits]
  split
  ·simp
  ·have:=decDigits_len f (n/10) (by rw[Nat.div_lt_iff_lt_mul (by omega),←Nat.pow_succ];exact h)
   rw[List.length_append,List.length_singleton]
   omega
theorem dec64_len {n:Nat} (h:n<2^64):(Lib.decDigits n).length≤20:=decDigits_len 19 n (Nat.lt_trans h (by decide))
theorem bl_nil {s:ByteArray}:bl s= []↔s.toList= []:=by rw[ByteArray.toList_eq]
structure NumN (e:Nd):Prop where
 lo0:0≤e.lo
 lo1:e.lo<2^64
 up0:0≤e.up
 up1:e.up<2^64
theorem endM_len {t:List UInt8} {n:Int} (ht:t.length≤200) (h0:0≤n) (h1:n<2^64):(endM t n).length≤802:=by
 unfold endM
 split
 ·split
  ·simp
  ·have:=dec64_len (n:=n.toNat) (by omega);omega
 ·have:=quoM_len t;omega
theorem leafM_len {e:Nd} (h:GoodN e) (hn:NumN e):(leafM e).length≤2000:=by
 have hs:(bl e.s).length≤200:=by rw[bl_len];exact h.1
 have ht:(bl e.t).length≤200:=by rw[bl_len];exact h.2.1
 have h1:=wordA_len e.kind
 have h2:=quoM_len (bl e.s)
 have h3:=endM_len hs hn.lo0 hn.lo1
 have h4:=endM_len ht hn.up0 hn.up1
 have h5:(tailM e).length≤1700:=by
  unfold tailM
  split
  ·simp;omega
  ·split
   ·simp;omega
   ·split
    ·rename_i q1 q2 q3
     have h9:e.n≤1000∧1≤e.n:=by
      obtain⟨_,_,_,h4⟩:=h
      omega
     have:=dec64_len (n:=e.n.toNat) (by omega)
     simp;omega
    ·simp
 unfold leafM
 rw[List.length_append]
 omega
abbrev PT:=Int×List UInt8
def wrapB (op:Int) (i:Nat) (kid:Int):Bool:=if op=16 then false else level op i kid
def wrapT (op:Int) (i:Nat) (x:PT):List UInt8:=if wrapB op i x.1=true then [40]++x.2++ [41]else x.2
theorem wrapT_len (op:Int) (i:Nat) (x:PT):(wrapT op i x).length≤x.2.length+2:=by
 unfold wrapT
 split
 ·simp
 ·omega
def sepM (k:Int):List UInt8:=if k=16 then [44,32]else if k=15 then [32,124,32]else [32,62,32]
def joinM (k:Int):Nat→List PT→List UInt8
 |_,[]=> []
 |i,x::xs=>(if i=0 then []else sepM k)++wrapT k i x++joinM k (i+1) xs
def printV (e:Nd) (os:List PT):PT:=(e.kind,if os= []then leafM e else(if e.kind=16 then [105,102,40]else [])++joinM e.kind 0 os++(if e.kind=16 then [41]else []))
def sizeP (ss:List PT):Nat:=(ss.map (·.2.length)).sum
theorem sizeP_append (a b:List PT):sizeP (a++b)=sizeP a+sizeP b:=by simp[sizeP]
theorem joinM_len (k:Int):∀(i:Nat) (os:List PT),(joinM k i os).length≤sizeP os+5*os.length
 |_,[]=>by simp[joinM]
 |i,x::xs=>by
  have h1:=joinM_len k (i+1) xs
  have h2:=wrapT_len k i x
  have h3:(if i=0 then []else sepM k).length≤3:=by
   unfold sepM
   repeat' split
   all_goals simp
  simp only[joinM,List.length_append,sizeP,List.map_cons,List.sum_cons,List.length_cons]
  unfold sizeP at h1
  omega
theorem print_len {ss:List PT} {xs:List Nd} (h:TrV printV ss xs) (hg:∀e∈xs,GoodN e∧NumN e):sizeP ss≤2000*xs.length:=by
 induction h with
 |nil=>simp[sizeP]
 | @snoc ss os xs n ho h ih=>
   have h1:=ih (fun e he=>hg e (by simp[he]))
   rw[sizeP_append]at h1⊢
   have h2:(printV n os).2.length≤sizeP os+2000:=by
    unfold printV
    simp only
    split
    ·have:=leafM_len (hg n (by simp)).1 (hg n (by simp)).2
     omega
    ·have h3:=joinM_len n.kind 0 os
     have h4:os.length≤3:=by rw[ho];exact arity_le _
     have h5:(if n.kind=16 then [105,102,40]else([]:List UInt8)).length≤3:=by split<;>simp
     have h6:(if n.kind=16 then [41]else([]:List UInt8)).length≤1:=by split<;>simp
     simp only[List.length_append]
     omega
   have h7:sizeP [printV n os]=(printV n os).2.length:=by simp[sizeP]
   rw[List.length_append,List.length_singleton,h7]
   omega
theorem joinM_snoc (k:Int):∀(i:Nat) (os:List PT) (x:PT),joinM k i (os++ [x])=joinM k i os++((if i+os.length=0 then []else sepM k)++wrapT k (i+os.length) x)
 |i,[],x=>by simp[joinM]
 |i,y::os,x=>by
  rw[List.cons_append,joinM,joinM_snoc k (i+1) os x,joinM,List.length_cons]
  rw[show i+1+os.length=i+(os.length+1)by omega]
  simp only[List.append_assoc]
def TextF (xs:List Nd) (y:PT):Prop:=TrV printV [y] xs
theorem textF_one {xs:List Nd} {y z:PT} (h:TextF xs y) (k:TextF xs z):y=z:=by
 have:=TrV.one _ h k
 simpa using this
theorem textF_ex {xs:List Nd} (h:IsT 1 xs):∃y,TextF xs y:=by
 obtain⟨ss,hl,hs⟩:=IsT.trv printV h
 match ss,hl with
 | [y],_=>exact⟨y,hs⟩
theorem textF_len {xs:List Nd} {y:PT} (h:TextF xs y) (hg:∀e∈xs,GoodN e∧NumN e):y.2.length≤2000*xs.length:=by
 have:=print_len h hg
 simpa [sizeP]using this
end Go.Proofs.YtgnpcenpcmdlfaaGreatDoor
namespace Go.Proofs.YtgnpcenpcmdlfaaGreatDoor
open Go.ChangeShapes Go.WideShapes Go.ChangeAt Go.RowKit Go.Deep
set_option linter.unusedVariables false
set_option linter.unusedSimpArgs false
set_option maxRecDepth 100000
abbrev ub (x:UInt8):Value:=.int .u8 (x.toNat:Int)
def BysAt (w:World) (b off:Nat) (xs:List UInt8):Prop:=∀i x,xs[i]?=some x→w.cell? ⟨b,off+i,none⟩=some (ub x)
theorem BysAt.below {B:Nat} {w w':World} {b off:Nat} {xs:List UInt8} (h:BysAt w b off xs) (hb:Below B w w') (hlt:b<B):BysAt w' b off xs:=by
 intro i x hx
 rw[hb.cell (p:=⟨b,off+i,none⟩) hlt]
 exact h i x hx
def OwnY (w:World) (base g cp:Nat) (xs:List UInt8):Prop:=w.ownsRow base 5 1 (.slice (some ⟨g,0,none⟩) xs.length cp) xs.length (xs.map ub)
theorem OwnY.lt {w:World} {base g cp:Nat} {xs:List UInt8} (h:OwnY w base g cp xs):base≤g∧g<w.heap.size:=World.ownsRow.lt h g rfl
theorem OwnY.chg {S:Nat→Prop} {w w':World} {base g cp:Nat} {xs:List UInt8} (h:OwnY w base g cp xs) (hc:Chg S w w') (hn:¬S g):OwnY w' base g cp xs:=own_chg h hc (fun k q=>by simp[Value.ownBlock]at q;subst q;exact hn)
theorem OwnY.below {w w':World} {base g cp:Nat} {xs:List UInt8} (h:OwnY w base g cp xs) (hb:Below w.heap.size w w'):OwnY w' base g cp xs:=h.chg (Chg.of_below hb) (S:=fun _=>False) (fun q=>q)
theorem OwnY.at {w:World} {base g cp:Nat} {xs:List UInt8} (h:OwnY w base g cp xs):BysAt w g 0 xs:=by
 intro k x hx
 have hk:=(List.getElem?_eq_some_iff.1 hx).1
 rw[Nat.zero_add,World.ownsRow.cellAt h k (by omega),List.getElem?_map,hx];rfl
theorem OwnY.caps {w:World} {base g cp:Nat} {xs:List UInt8} (h:OwnY w base g cp xs):xs.length≤cp∧cp≤maxLen:=by
 exact zzQ26
theorem OwnY.mono {w:World} {base base' g cp:Nat} {xs:List UInt8} (h:OwnY w base g cp xs) (hb:base'≤base):OwnY w base' g cp xs:=by
 exact zzQ74
theorem ub_one (xs:List UInt8):∀u∈xs.map ub,u.oneCell'=true:=by
 intro u hu
 obtain⟨r,_,rfl⟩:=List.mem_map.1 hu
 rfl
theorem Tryz.infoByte:(Tryz.prog.info? 5).map (fun i=>(i.zero,i.size,i.bytes))=some (some (.int .u8 0),1,1):=by kernel_rfl
theorem wpList_append_bys {ops:Array Oper} {rest:List Oper} {o:Oper} {a:Act} {Q:Exit→Act→World→Prop} (w:World) (hgd:o.guard=none) (s x:Operand)
  (ho:o.op=.call {callee:=.builtin .append,args:=#[s,x],argTypes:=#[22,22]})
  (base g cp n b off m cx:Nat) (l k:List UInt8) (hs:a.eval s=.slice (some ⟨g,0,none⟩) n cp) (hx:a.eval x=.slice (some ⟨b,off,none⟩) m cx) (hn:n=l.length) (hm:m=k.length) (hO:OwnY w base g cp l)
  (hc:BysAt w b off k) (hlen:l.length+k.length≤2^30) (hbase:base≤w.heap.size)
  (h:∀g' cp' w',OwnY w' base g' cp' (l++k)→w.grownBy w' (some g)→(g'=g∨g'=w.heap.size)→wpList Tryz.prog ops Q rest (a.put o.dst (.slice (some ⟨g',0,none⟩) (n+m) cp')) w'):wpList Tryz.prog ops Q (o::rest) a w:=by
 subst hn hm
 obtain⟨i,hi,hz0,hz1,hz2⟩:=info_parts Tryz.infoByte
 refine wpList_append_own_at w hgd s x 22 ho base 5 i _ 1 1 Tryz.underlying22 hi hz0 hz1 hz2 rfl (by decide) (.slice (some ⟨g,0,none⟩) l.length cp) l.length (l.map ub) hs hO ⟨b,off,none⟩ k.length cx (k.map ub) hx (by simp) ?_ (ub_one k) ?_ ?_ hbase ?_
 ·intro j u hu
  rw[List.getElem?_map]at hu
  cases hk:k[j]? with
  |none=>rw[hk]at hu;cases hu
  |some r=>
   rw[hk]at hu
   simp at hu
   rw[Addr.add_mid,hc j r hk,←hu]
 ·unfold maxLen;omega
 ·omega
 ·intro v' w' hO' hgr hnil hat
  rcases hO'.2 with⟨h0,_⟩|⟨g',cap',cur,hv,_,_,hn,hcap,_,_⟩
  ·have:=(hnil.1 h0).1
   cases this
  ·subst hv
   refine h g' cap' w' ?_ hgr ?_
   ·unfold OwnY
    rw[List.length_append,List.map_append]
    exact hO'
   ·simp[Value.ownBlock]at hat
    exact hat
theorem ownY_new (w:World) {base:Nat} (hb:base≤w.heap.size):OwnY (w.alloc (Obj.cells #[] 5)) base w.heap.size 0 []:=
 World.ownsRow_made w #[] 0 hb (Nat.zero_le _) (by simp)
theorem ownY_one (w:World) {base:Nat} (hb:base≤w.heap.size) (x:UInt8) {v:Int} (hv:v=(x.toNat:Int)):OwnY (w.alloc (Obj.cells #[.int .u8 v] 5)) base w.heap.size 1 [x]:=by
 subst hv
 exact World.ownsRow_lit w #[ub x] 1 hb (by decide) rfl
theorem below_bytes (w:World) (s:ByteArray):Below w.heap.size w (Lib.bytesWorld w 5 s):=
 ⟨rfl,rfl,rfl,by rw[Lib.bytesWorld_size];omega,fun k hk=>Lib.bytesWorld_at_old w _ s k hk⟩
theorem bys_bytes (w:World) (s:ByteArray):BysAt (Lib.bytesWorld w 5 s) w.heap.size 0 (bl s):=by
 intro i x hx
 have hi:=(List.getElem?_eq_some_iff.1 hx).1
 rw[Nat.zero_add,Lib.bytesWorld_cell w _ s i (by rw[←bl_len];exact hi),List.getD_eq_getElem?_getD,hx]
 rfl
structure WrB (w:World) (base g cp:Nat) (xs:List UInt8):Prop where
 le:base≤g
 lt:g<w.heap.size
 at_:BysAt w g 0 xs
 len:xs.length≤cp
 cap:cp≤maxLen
 room:∀j,xs.length≤j→j<cp→(w.cell? ⟨g,j,none⟩).isSome=true∧w.frozen? ⟨g,j,none⟩=false
theorem WrB.chg {S:Nat→Prop} {w w':World} {base g cp:Nat} {xs:List UInt8} (h:WrB w base g cp xs) (hc:Chg S w w') (hn:¬S g):WrB w' base g cp xs:=by
 refine⟨h.le,by have:=hc.size;have:=h.lt;omega,?_,h.len,h.cap,fun j h1 h2=>?_⟩
 ·intro i x hx
  rw[hc.cell (p:=⟨g,0+i,none⟩) h.lt hn];exact h.at_ i x hx
 ·rw[hc.cell (p:=⟨g,j,none⟩) h.lt hn,hc.frozen (p:=⟨g,j,none⟩) h.lt hn];exact h.room j h1 h2
theorem WrB.below {w w':World} {base g cp:Nat} {xs:List UInt8} (h:WrB w base g cp xs) (hb:Below w.heap.size w w'):WrB w' base g cp xs:=h.chg (Chg.of_below hb) (S:=fun _=>False) (fun q=>q)
theorem WrB.mono {w:World} {base base' g cp:Nat} {xs:List UInt8} (h:WrB w base g cp xs) (hb:base'≤base):WrB w base' g cp xs:=⟨Nat.le_trans hb h.le,h.lt,h.at_,h.len,h.cap,h.room⟩
theorem OwnY.wr {w:World} {base g cp:Nat} {xs:List UInt8} (h:OwnY w base g cp xs):WrB w base g cp xs:=by
 refine⟨h.lt.1,h.lt.2,h.at,h.caps.1,h.caps.2,fun j h1 h2=>⟨?_,World.ownsRow.frozenAt h j⟩⟩
 rcases h.2 with⟨h0,_⟩|⟨g',cap',cur,hv,_,hg,hn,hcap,hcs,_⟩
 ·cases h0
 ·simp only[Value.slice.injEq,Option.some.injEq,Addr.mk.injEq,and_true,true_and]at hv
  obtain⟨rfl,rfl⟩:=hv
  rw[cell_of_row w g j cur _ _ hg]
  have hj:j<cur.size:=by rw[hcs];omega
  simp[hj]
theorem wrB_bytes (w:World) (s:ByteArray) (hs:s.size≤2^30):WrB (Lib.bytesWorld w 5 s) w.heap.size w.heap.size (grownCap w s.size 0 5) (bl s):=by
 have hge:=grownCap_ge w s.size 0 5
 have hsz:(Lib.bytesCells w 5 s).size=grownCap w s.size 0 5:=by
  simp only[Lib.bytesCells,Array.size_append,Array.size_map,Array.size_replicate]
  show s.size+_=_
  omega
 refine⟨Nat.le_refl _,by rw[Lib.bytesWorld_size];omega,bys_bytes w s,by rw[bl_len];exact hge,grownCap_le_maxLen w s.size 0 _ (by unfold maxLen;omega),fun j h1 h2=>?_⟩
 have hn:=Lib.bytesWorld_at_new w 5 s
 constructor
 ·rw[cell_of_row _ _ _ _ _ _ hn]
  have hj:j<(Lib.bytesCells w 5 s).size:=by omega
  simp[hj]
 ·simp only[World.frozen?,hn,Bool.and_eq_false_iff,decide_eq_false_iff_not]
  left
  omega
theorem WrB.full {w:World} {base g:Nat} {xs:List UInt8} (h1:base≤g) (h2:g<w.heap.size) (h3:BysAt w g 0 xs) (h4:xs.length≤2^30):WrB w base g xs.length xs:=
 ⟨h1,h2,h3,Nat.le_refl _,by unfold maxLen;omega,fun j a b=>by omega⟩
theorem setCells_heap (b:Nat):∀(vs:List Value) (o:Nat) (w:World),w.grownBy (w.setCells b o vs) (some b)
 | [],_,w=>grown_of_below (Below.refl _ _) _
 |v::r,o,w=>(grown_set w b o v).trans (setCells_heap b r (o+1) _)
theorem run_append_wr (w:World) (ty:TypeId) (base g cp b off cx:Nat) (l k:List UInt8) (hO:WrB w base g cp l)
  (hc:BysAt w b off k) (hlen:l.length+k.length≤2^30) (hbase:base≤w.heap.size):
  ∃g' cp' w',(Builtin.append_ #[22,22] ty #[.slice (some ⟨g,0,none⟩) l.length cp,.slice (some ⟨b,off,none⟩) k.length cx]).run Tryz.prog w=.ok (.slice (some ⟨g',0,none⟩) (l.length+k.length) cp') w'∧WrB w' base g' cp' (l++k)∧w.grownBy w' (some g)∧(g'=g∨w.heap.size≤g'):=by
 obtain⟨i,hi,hz0,hz1,hz2⟩:=info_parts Tryz.infoByte
 have hcc:∀(j:Nat) (u:Value),(k.map ub)[j]?=some u→w.cell? ((⟨b,off,none⟩:Addr).add j)=some u:=by
  intro j u hu
  rw[List.getElem?_map]at hu
  cases hk:k[j]? with
  |none=>rw[hk]at hu;cases hu
  |some r=>
   rw[hk]at hu
   simp at hu
   rw[Addr.add_mid,hc j r hk,←hu]
 have hll:(l++k).length=l.length+k.length:=List.length_append
 by_cases hroom:l.length+k.length≤cp
 ·have hr:=run_append_room_cells (P:=Tryz.prog) w 22 ty 5 i Tryz.underlying22 hi g 0 l.length cp ⟨b,off,none⟩ k.length cx (k.map ub) (by rw[List.length_map,hz1,Nat.mul_one]) hcc (ub_one k) hroom
   (fun j hj=>by rw[hz1,Nat.mul_one,Nat.zero_add];rw[List.length_map]at hj;exact(hO.room _ (by omega) (by omega)).1)
   (fun j hj=>by rw[hz1,Nat.mul_one,Nat.zero_add];rw[List.length_map]at hj;exact(hO.room _ (by omega) (by omega)).2)
  rw[hz1,Nat.mul_one,Nat.zero_add]at hr
  have hgr:=setCells_heap g (k.map ub) l.length w
  have hW:WrB (w.setCells g l.length (k.map ub)) base g cp (l++k):=by
   refine⟨hO.le,by have:=hgr.size;have:=hO.lt;omega,?_,by rw[hll];exact hroom,hO.cap,fun j h1 h2=>?_⟩
   ·intro j x hx
    rw[Nat.zero_add]
    by_cases hj:j<l.length
    ·rw[List.getElem?_append_left hj]at hx
     rw[World.cell?_setCells_out g _ _ _ _ (fun _ _=>.inl hj)]
     have:=hO.at_ j x hx
     rwa [Nat.zero_add]at this
    ·rw[List.getElem?_append_right (by omega)]at hx
     have hjk:=(List.getElem?_eq_some_iff.1 hx).1
     have h9:=World.cell?_setCells_in g (k.map ub) l.length w (fun j hj=>by rw[List.length_map]at hj;exact(hO.room _ (by omega) (by omega)).1) (j-l.length) (by rw[List.length_map];exact hjk)
     rw[show l.length+(j-l.length)=j by omega]at h9
     rw[h9,List.getElem_map]
     congr 1
     rw[List.getElem?_eq_getElem hjk]at hx
     rw[Option.some.inj hx]
   ·rw[hll]at h1
    rw[World.cell?_setCells_out g _ _ _ _ (fun _ _=>.inr (by rw[List.length_map];exact h1)),World.frozen?_setCells]
    exact hO.room j (by omega) h2
  exact⟨g,cp,_,hr,hW,hgr,.inl rfl⟩
 ·obtain⟨v',w',hr,hO',hgr⟩:=run_append_arg_grows (P:=Tryz.prog) w 22 ty 5 i _ 1 1 Tryz.underlying22 hi hz0 hz1 hz2 rfl (by decide) ⟨g,0,none⟩ l.length cp (l.map ub) (by simp) (fun j u hu=>by
        rw[List.getElem?_map]at hu
        cases hk:l[j]? with
        |none=>rw[hk]at hu;cases hu
        |some r=>
         rw[hk]at hu
         simp at hu
         rw[Addr.add_mid,hO.at_ j r hk,←hu]) ⟨b,off,none⟩ k.length cx (k.map ub) (by simp) hcc (by omega) (by unfold maxLen;omega) (by omega)
  rcases hO'.2 with⟨h0,h00⟩|⟨g',cap',cur,hv,hb',hrest⟩
  ·have h1:=hO.len
   omega
  ·subst hv
   have hW:WrB w' base g' cap' (l++k):=by
    refine(OwnY.wr (base:=w.heap.size) ?_).mono hbase
    unfold OwnY
    rw[hll,List.map_append]
    exact hO'
   exact⟨g',cap',w',hr,hW,⟨hgr.os,hgr.tape,hgr.output,hgr.size,fun k hk _=>hgr.block k hk (fun q=>by cases q)⟩,.inr hb'⟩
theorem wpList_append_wr {ops:Array Oper} {rest:List Oper} {o:Oper} {a:Act} {Q:Exit→Act→World→Prop} (w:World) (hgd:o.guard=none) (s x:Operand)
  (ho:o.op=.call {callee:=.builtin .append,args:=#[s,x],argTypes:=#[22,22]})
  (base g cp n b off m cx:Nat) (l k:List UInt8) (hs:a.eval s=.slice (some ⟨g,0,none⟩) n cp) (hx:a.eval x=.slice (some ⟨b,off,none⟩) m cx) (hn:n=l.length) (hm:m=k.length) (hO:WrB w base g cp l)
  (hc:BysAt w b off k) (hlen:l.length+k.length≤2^30) (hbase:base≤w.heap.size)
  (h:∀g' cp' w',WrB w' base g' cp' (l++k)→w.grownBy w' (some g)→(g'=g∨w.heap.size≤g')→wpList Tryz.prog ops Q rest (a.put o.dst (.slice (some ⟨g',0,none⟩) (n+m) cp')) w'):wpList Tryz.prog ops Q (o::rest) a w:=by
 subst hn hm
 refine wpList_plain hgd fun K hK=>?_
 obtain⟨g',cp',w',hr,h1,h2,h3⟩:=run_append_wr w o.type base g cp b off cx l k hO hc hlen hbase
 unfold Oper.wp execOp
 simp only[ho,resolve,invoke,builtin,Sem.run_bind,Sem.run_pure,Result.andThen_ok,List.map_toArray,List.map_cons,List.map_nil,hs,hx,hr]
 exact hK _ _ (h g' cp' w' h1 h2 h3)
theorem step_append_wr {ops:Array Oper} {oo:Oper} {a:Act} {K:Act→World→Prop} {Q:Exit→Act→World→Prop} {E:Prop} (w:World) (hgd:oo.guard=none) (s x:Operand)
  (ho:oo.op=.call {callee:=.builtin .append,args:=#[s,x],argTypes:=#[22,22]})
  (base g cp n b off m cx:Nat) (l k:List UInt8) (hs:a.eval s=.slice (some ⟨g,0,none⟩) n cp) (hx:a.eval x=.slice (some ⟨b,off,none⟩) m cx) (hn:n=l.length) (hm:m=k.length) (hO:WrB w base g cp l)
  (hc:BysAt w b off k) (hlen:l.length+k.length≤2^30) (hbase:base≤w.heap.size)
  (h:∀g' cp' w',WrB w' base g' cp' (l++k)→w.grownBy w' (some g)→(g'=g∨w.heap.size≤g')→K (a.put oo.dst (.slice (some ⟨g',0,none⟩) (n+m) cp')) w'):if Region.wanted oo (yielded ops a.tmps)=true then Oper.wp Tryz.prog oo a w K Q else E:=by
 subst hn hm
 obtain⟨g',cp',w',hr,h1,h2,h3⟩:=run_append_wr w oo.type base g cp b off cx l k hO hc hlen hbase
 rw[if_pos (by simp[Region.wanted,hgd])]
 unfold Oper.wp execOp
 simp only[ho,resolve,invoke,builtin,Sem.run_bind,Sem.run_pure,Result.andThen_ok,List.map_toArray,List.map_cons,List.map_nil,hs,hx,hr]
 exact h g' cp' w' h1 h2 h3
theorem WrB.next {w0 w w':World} {base g:Nat} (h:Below base w0 w) (hb:base≤w.heap.size) (hg:base≤g) (hgr:w.grownBy w' (some g)):Below base w0 w':=h.grown hgr hb (fun j hj=>by cases hj;exact hg)
set_option maxHeartbeats 2000000 in
theorem l5Digits_core:∀(f n:Nat) (w:World),n<10^(f+1)→n<2^64→
  Calls Tryz.prog 111 #[.int .u64 (n:Int)] w fun e w'=>∃g cp,e=.returned (.slice (some ⟨g,0,none⟩) (Lib.decDigits n).length cp)∧OwnY w' w.heap.size g cp (Lib.decDigits n)∧Below w.heap.size w w':=by
 intro f
 induction f with
 |zero=>
  intro n w h1 h2
  have hs:(n:Int)<10:=by simp at h1;omega
  have hD:Hid (Lib.decDigits n= [UInt8.ofNat (48+n)]):=by show Lib.decDigits n=_;rw[Lib.decDigits,dif_pos (by omega)]
  go_enter Tryz.func111,Tryz.ntmps111
  go_wp2_with fail
  go_ret
  refine⟨w.heap.size,1,?_,?_,qB⟩
  ·rw[hD.out];rfl
  ·rw[hD.out]
   exact ownY_one w (Nat.le_refl _) _ (by rw[UInt8.toNat_ofNat'];omega)
 |succ f ih=>
  intro n w h1 h2
  by_cases hs:(n:Int)<10
  ·have hD:Hid (Lib.decDigits n= [UInt8.ofNat (48+n)]):=by show Lib.decDigits n=_;rw[Lib.decDigits,dif_pos (by omega)]
   go_enter Tryz.func111,Tryz.ntmps111
   go_wp2_with fail
   go_ret
   refine⟨w.heap.size,1,?_,?_,qB⟩
   ·rw[hD.out];rfl
   ·rw[hD.out]
    exact ownY_one w (Nat.le_refl _) _ (by rw[UInt8.toNat_ofNat'];omega)
  ·obtain⟨d,hd⟩:=qE (UInt8.ofNat (48+n%10):UInt8)
   have hdn:Hid (48+(n:Int)%10=(d.toNat:Int)):=by show _=_;rw[hd,UInt8.toNat_ofNat'];omega
   have hD:Hid (Lib.decDigits n=Lib.decDigits (n/10)++ [d]):=by show Lib.decDigits n=_;rw[Lib.decDigits,dif_neg (by omega),hd]
   clear hd
   have hc:=ih (n/10) w (by rw[Nat.div_lt_iff_lt_mul (by omega),←Nat.pow_succ];exact h1) (by omega)
   rw[show((n/10:Nat):Int)=(n:Int)/10 by omega]at hc
   have hl:=dec64_len (n:=n/10) (by omega)
   go_enter Tryz.func111,Tryz.ntmps111
   go_wp2_with fail
   refine hc.mono ?_
   rintro e w2 ⟨g,cp,rfl,hO2,hb2⟩
   obtain⟨W1,hW1⟩:=qE (w2.alloc (Obj.cells #[.int .u8 (48+(n:Int)%10)] 5):World)
   have hb1:Below w2.heap.size w2 W1:=by rw[hW1];exact qB
   have s2:=hb2.size
   have s1:=hb1.size
   have HO1:Hid (OwnY W1 w2.heap.size w2.heap.size 1 [d]∧OwnY W1 w.heap.size g cp (Lib.decDigits (n/10))):=by
    refine⟨?_,hO2.below hb1⟩
    rw[hW1]
    exact ownY_one w2 (Nat.le_refl _) _ hdn.out
   have HB:Hid (Below w.heap.size w W1):=hb2.trans (hb1.mono s2)
   clear hc hO2 hb1 hb2
   go_wp2_with (at_builtin;(try rw[←hW1]);refine wpList_append_bys _ rfl _ _ rfl w.heap.size g cp _ w2.heap.size 0 1 1 (Lib.decDigits (n/10)) [d] rfl rfl rfl rfl ?hO ?hc ?hl ?hb ?_)
   case hO=>exact HO1.2
   case hc=>exact HO1.1.at
   case hl=>simp;omega
   case hb=>omega
   intro g' cp' w3 hO' hgr hat
   have hgr2:W1.grownBy w3 (some g):=by first|exact hgr|(rw[hW1];exact hgr)
   clear hgr hW1
   go_wp2_with fail
   go_ret
   refine⟨g',cp',?_,?_,HB.grown hgr2 (by omega) (fun j hj=>by cases hj;exact HO1.2.lt.1)⟩
   ·rw[hD.out,List.length_append];rfl
   ·rw[hD.out];exact hO'
theorem l5Digits_all (n:Nat) (w:World) (h:n<2^64):
  Calls Tryz.prog 111 #[.int .u64 (n:Int)] w fun e w'=>∃g cp,e=.returned (.slice (some ⟨g,0,none⟩) (Lib.decDigits n).length cp)∧OwnY w' w.heap.size g cp (Lib.decDigits n)∧Below w.heap.size w w':=
 l5Digits_core 19 n w (Nat.lt_trans h (by decide)) h
theorem bl_get {s:ByteArray} {k:Nat} (h:k<s.size) {x:UInt8} (hx:(bl s)[k]?=some x):s[k]=x:=by
 have:=hx
 rw[List.getElem?_eq_getElem (by rw[bl_len];exact h)]at this
 exact Option.some.inj this
theorem bys_new (w:World) (cs:Array Value) (xs:List UInt8) (h:cs.toList=xs.map ub):BysAt (w.alloc (Obj.cells cs 5)) w.heap.size 0 xs:=by
 exact zzQ80
theorem bys_mark (w:World) (cs:Array Value) (xs:List UInt8) (fz:Nat×Nat) (h:cs.toList=xs.map ub):BysAt (w.alloc (Obj.cells cs 5 fz)) w.heap.size 0 xs:=by
 exact zzQ80
theorem hex_at:∀(d:Nat) (h:d<16),(⟨#[48,49,50,51,52,53,54,55,56,57,97,98,99,100,101,102]⟩:ByteArray)[d]'h=hexB d:=by
 intro d h
 have:∀d:Fin 16,(⟨#[48,49,50,51,52,53,54,55,56,57,97,98,99,100,101,102]⟩:ByteArray)[d.val]'d.isLt=hexB d.val:=by decide
 exact this ⟨d,h⟩
theorem wrap_div16 (x:UInt8):IntKind.u8.wrap ((x.toNat:Int)/16)=((x.toNat/16:Nat):Int):=by
 have:=x.toNat_lt
 simp only[IntKind.wrap,IntKind.bits,IntKind.signed,Bool.false_and,Bool.false_eq_true,if_false]
 omega
theorem tmod16 (x:UInt8):(x.toNat:Int).tmod 16=((x.toNat%16:Nat):Int):=by
 rw[Int.tmod_eq_emod_of_nonneg (by omega)];omega
set_option maxHeartbeats 4000000 in
theorem l5Quote_core (s:ByteArray) (w:World) (hs:s.size≤1000000):
  Calls Tryz.prog 110 #[.string s] w fun e w'=>∃g cp,e=.returned (.slice (some ⟨g,0,none⟩) (quoM (bl s)).length cp)∧WrB w' w.heap.size g cp (quoM (bl s))∧Below w.heap.size w w':=by
 have kc:=fun(w:World) (C:Array Value) (n c:Nat)=>Lib.run_convert_bytes_const (P:=Tryz.prog) w 22 5 C n c Tryz.underlying22 Tryz.underlying5
 obtain⟨W1,hW1⟩:=qE (w.alloc (Obj.cells #[.int .u8 34] 5 (1,2)):World)
 have hb1:Below w.heap.size w W1:=by rw[hW1];exact qB
 have z1:w.heap.size<W1.heap.size:=by rw[hW1];simp
 have HO1:Hid (WrB W1 w.heap.size w.heap.size 1 [34]∧Below w.heap.size w W1):=by
  refine⟨WrB.full (xs:= [34]) (Nat.le_refl _) z1 ?_ (by simp),hb1⟩
  rw[hW1]
  exact bys_mark w _ [34] _ rfl
 clear hb1
 go_enter Tryz.func110,Tryz.ntmps110
 go_upto_region 2 with fail
 rw[←hW1]
 clear hW1 kc
 go_wp2_with fail
 go_loopw[3,4] (fun o iv wr=>∃(k g cp n:Nat) (X:List UInt8),k≤s.size∧iv=.int .i64 k∧o=.slice (some ⟨g,0,none⟩) n cp∧n=X.length∧n≤4*k+1∧Hid (X= [34]++quoL ((bl s).take k))∧WrB wr w.heap.size g cp X∧Below w.heap.size w wr) (fun _ iv _=>s.size-(intOf iv).toNat)
 case atStart=>exact⟨0,_,1,1,[34],Nat.zero_le _,rfl,rfl,rfl,by omega,rfl,HO1.1,HO1.2⟩
 case round=>
  clear HO1
  obtain⟨k,g,cp,n,X,hk,rfl,rfl,hn,hn4,HX,hW,hb⟩:=hrel
  have HW:Hid (WrB wr w.heap.size g cp X∧Below w.heap.size w wr∧n=X.length):=⟨hW,hb,hn⟩
  have hgl:=hW.lt
  have hge:=hW.le
  have sr:=hb.size
  clear hW hb hn
  by_cases hlt:k<s.size
  ·have z:(k:Int)<(s.size:Int):=by omega
   obtain⟨x,hx⟩:∃x,(bl s)[k]?=some x:=⟨_,List.getElem?_eq_getElem (by rw[bl_len];exact hlt)⟩
   have gx:=bl_get hlt hx
   have HX2:Hid ([34]++quoL ((bl s).take (k+1))=X++qByte x):=by
    show _=_
    rw[List.take_add_one,hx,HX.out,Option.toList,quoL_snoc,List.append_assoc]
   have hx8:x.toNat<256:=x.toNat_lt
   clear hx
   by_cases h34:x.toNat=34
   ·obtain rfl:x=34:=UInt8.toNat_inj.1 h34
    have HQ:Hid (qByte 34= [92,34]):=by show _=_;decide
    obtain⟨W2,hW2⟩:=qE (wr.alloc (Obj.cells #[.int .u8 92,.int .u8 34] 5):World)
    have hb2:Below wr.heap.size wr W2:=by rw[hW2];exact qB
    have s2:=hb2.size
    have HW2:Hid (WrB W2 w.heap.size g cp X∧Below w.heap.size w W2∧BysAt W2 wr.heap.size 0 [92,34]):=by
     refine⟨HW.1.below hb2,HW.2.1.trans (hb2.mono sr),?_⟩
     rw[hW2];exact bys_new wr _ [92,34] rfl
    clear hb2
    go_wp2_with (at_builtin;(try rw[←hW2]);refine wpList_append_wr _ rfl _ _ rfl w.heap.size g cp n wr.heap.size 0 2 2 X [92,34] rfl rfl HW.2.2 rfl HW2.1 HW2.2.2 ?hl ?hb ?_)
    case hl=>rw[←HW.2.2];show n+2≤_;omega
    case hb=>omega
    intro g' cp' w' hW' hgr hat
    have hgr2:W2.grownBy w' (some g):=by first|exact hgr|(rw[hW2];exact hgr)
    have HR:Hid (WrB w' w.heap.size g' cp' (X++ [92,34])∧Below w.heap.size w w'∧n+2=(X++ [92,34]).length∧X++ [92,34]= [34]++quoL ((bl s).take (k+1))):=⟨hW',WrB.next HW2.2.1 (by omega) hge hgr2,by rw[List.length_append,←HW.2.2];rfl,by rw[HX2.out,HQ.out]⟩
    clear hW' hgr hgr2 hat hW2
    go_wp2_with fail
    go_roundw
    case rel=>exact⟨k+1,g',cp',n+2,X++ [92,34],by omega,by go_num,rfl,HR.2.2.1,by omega,HR.2.2.2,HR.1,HR.2.1⟩
    case measure=>simp[intOf];omega
   by_cases h92:x.toNat=92
   ·obtain rfl:x=92:=UInt8.toNat_inj.1 h92
    have HQ:Hid (qByte 92= [92,92]):=by show _=_;decide
    obtain⟨W2,hW2⟩:=qE (wr.alloc (Obj.cells #[.int .u8 92,.int .u8 92] 5):World)
    have hb2:Below wr.heap.size wr W2:=by rw[hW2];exact qB
    have s2:=hb2.size
    have HW2:Hid (WrB W2 w.heap.size g cp X∧Below w.heap.size w W2∧BysAt W2 wr.heap.size 0 [92,92]):=by
     refine⟨HW.1.below hb2,HW.2.1.trans (hb2.mono sr),?_⟩
     rw[hW2];exact bys_new wr _ [92,92] rfl
    clear hb2
    go_wp2_with (at_builtin;(try rw[←hW2]);refine wpList_append_wr _ rfl _ _ rfl w.heap.size g cp n wr.heap.size 0 2 2 X [92,92] rfl rfl HW.2.2 rfl HW2.1 HW2.2.2 ?hl ?hb ?_)
    case hl=>rw[←HW.2.2];show n+2≤_;omega
    case hb=>omega
    intro g' cp' w' hW' hgr hat
    have hgr2:W2.grownBy w' (some g):=by first|exact hgr|(rw[hW2];exact hgr)
    have HR:Hid (WrB w' w.heap.size g' cp' (X++ [92,92])∧Below w.heap.size w w'∧n+2=(X++ [92,92]).length∧X++ [92,92]= [34]++quoL ((bl s).take (k+1))):=⟨hW',WrB.next HW2.2.1 (by omega) hge hgr2,by rw[List.length_append,←HW.2.2];rfl,by rw[HX2.out,HQ.out]⟩
    clear hW' hgr hgr2 hat hW2
    go_wp2_with fail
    go_roundw
    case rel=>exact⟨k+1,g',cp',n+2,X++ [92,92],by omega,by go_num,rfl,HR.2.2.1,by omega,HR.2.2.2,HR.1,HR.2.1⟩
    case measure=>simp[intOf];omega
   have z34:((x.toNat:Int)==34)=false:=by rw[beq_eq_false_iff_ne];omega
   have z92:((x.toNat:Int)==92)=false:=by rw[beq_eq_false_iff_ne];omega
   by_cases h2:32≤x.toNat∧x.toNat≤126
   ·have z32:(32:Int)≤(x.toNat:Int):=by omega
    have z126:(x.toNat:Int)≤126:=by omega
    have HQ:Hid (qByte x= [x]):=by show _=_;unfold qByte;rw[if_neg (by omega),if_pos h2]
    obtain⟨W2,hW2⟩:=qE (wr.alloc (Obj.cells #[.int .u8 (x.toNat:Int)] 5):World)
    have hb2:Below wr.heap.size wr W2:=by rw[hW2];exact qB
    have s2:=hb2.size
    have HW2:Hid (WrB W2 w.heap.size g cp X∧Below w.heap.size w W2∧BysAt W2 wr.heap.size 0 [x]):=by
     refine⟨HW.1.below hb2,HW.2.1.trans (hb2.mono sr),?_⟩
     rw[hW2];exact bys_new wr _ [x] rfl
    clear hb2
    go_wp2_with (at_builtin;(try rw[←hW2]);refine wpList_append_wr _ rfl _ _ rfl w.heap.size g cp n wr.heap.size 0 1 1 X [x] rfl rfl HW.2.2 rfl HW2.1 HW2.2.2 ?hl ?hb ?_)
    case hl=>first|omega|(rw[←HW.2.2];first|(show n+1≤_;omega)|omega)
    case hb=>omega
    intro g' cp' w' hW' hgr hat
    have hgr2:W2.grownBy w' (some g):=by first|exact hgr|(rw[hW2];exact hgr)
    have HR:Hid (WrB w' w.heap.size g' cp' (X++ [x])∧Below w.heap.size w w'∧n+1=(X++ [x]).length∧X++ [x]= [34]++quoL ((bl s).take (k+1))):=⟨hW',WrB.next HW2.2.1 (by omega) hge hgr2,by rw[List.length_append,←HW.2.2];rfl,by rw[HX2.out,HQ.out]⟩
    clear hW' hgr hgr2 hat hW2
    go_wp2_with fail
    go_roundw
    case rel=>exact⟨k+1,g',cp',n+1,X++ [x],by omega,by go_num,rfl,HR.2.2.1,by omega,HR.2.2.2,HR.1,HR.2.1⟩
    case measure=>simp[intOf];omega
   obtain⟨d,hd⟩:=qE (x.toNat/16)
   obtain⟨f,hf⟩:=qE (x.toNat%16)
   have hdl:d<16:=by omega
   have hfl:f<16:=by omega
   have zdl:(d:Int)<16:=by omega
   have zfl:(f:Int)<16:=by omega
   obtain⟨d1,hd1⟩:=qE (hexB d)
   obtain⟨d2,hd2⟩:=qE (hexB f)
   have HD:Hid (IntKind.u8.wrap ((x.toNat:Int)/16)=(d:Int)∧(x.toNat:Int).tmod 16=(f:Int)∧(⟨#[48,49,50,51,52,53,54,55,56,57,97,98,99,100,101,102]⟩:ByteArray)[d]'hdl=d1∧(⟨#[48,49,50,51,52,53,54,55,56,57,97,98,99,100,101,102]⟩:ByteArray)[f]'hfl=d2):=⟨by rw[wrap_div16,hd],by rw[tmod16,hf],by rw[hex_at,hd1],by rw[hex_at,hd2]⟩
   have HQ:Hid (qByte x= [92,120,d1,d2]):=by show _=_;unfold qByte;rw[if_neg (by omega),if_neg h2,←hd,←hf,hd1,hd2]
   obtain⟨W2,hW2⟩:=qE ((wr.alloc (Obj.cells #[.int .u8 92,.int .u8 120,.int .u8 (d1.toNat:Int),.int .u8 (d2.toNat:Int)] 5)).drew:World)
   have hb2:Below wr.heap.size wr W2:=by rw[hW2];exact(qB).drew
   have s2:=hb2.size
   have HW2:Hid (WrB W2 w.heap.size g cp X∧Below w.heap.size w W2∧BysAt W2 wr.heap.size 0 [92,120,d1,d2]):=by
    refine⟨HW.1.below hb2,HW.2.1.trans (hb2.mono sr),?_⟩
    rw[hW2];exact fun i y hy=>bys_new wr _ [92,120,d1,d2] rfl i y hy
   clear hb2 hd hf hd1 hd2
   by_cases h3:32≤x.toNat
   ·have z3:(32:Int)≤(x.toNat:Int):=by omega
    have z4:¬(x.toNat:Int)≤126:=by omega
    clear h2
    go_upto_region 11 with fail
    refine wp_region_T 11 (fun _=>True) (by kernel_rfl) ?_
    refine qU 0 ?vp0 rfl ?yp0 trivial ?_
    case yp0=>exact zzR4
    try simp only[qA]
    refine qU 1 ?vp1 rfl ?yp1 trivial ?_
    case yp1=>exact zzR4
    try simp only[qA]
    refine qU 2 ?vp2 rfl ?yp2 trivial ?_
    case yp2=>exact zzR4
    try simp only[qA]
    refine qU 3 (.int .u8 (d:Int)) rfl ?yp3 trivial ?_
    case yp3=>(intro wz _;go_simp;first|exact HD.1|rw[HD.1])
    try simp only[qA]
    refine qU 4 (.int .u8 (d1.toNat:Int)) rfl ?yp4 trivial ?_
    case yp4=>exact zzR9
    try simp only[qA]
    refine qU 5 ?vp5 rfl ?yp5 trivial ?_
    case yp5=>exact zzR4
    try simp only[qA]
    refine qU 6 ?vp6 rfl ?yp6 trivial ?_
    case yp6=>exact zzR4
    try simp only[qA]
    refine qU 7 (.int .u8 (f:Int)) rfl ?yp7 trivial ?_
    case yp7=>exact zzR10
    try simp only[qA]
    refine qU 8 (.int .u8 (d2.toNat:Int)) rfl ?yp8 trivial ?_
    case yp8=>exact zzR11
    try simp only[qA]
    refine anyT_one (i:=9) (by kernel_rfl) rfl (fun K hK=>?_)
    go_simp
    try rw[←hW2]
    refine hK.out _ _ (.inr trivial) ?_
    clear hK
    try simp only[qA]
    refine anyT_one (i:=10) (by kernel_rfl) rfl (fun K hK=>?_)
    refine step_append_wr _ rfl _ _ rfl w.heap.size g cp n wr.heap.size 0 4 4 X [92,120,d1,d2] rfl rfl HW.2.2 rfl HW2.1 HW2.2.2 ?hl ?hb ?_
    case hl=>rw[←HW.2.2];show n+4≤_;omega
    case hb=>omega
    exact zzQ24
   ·have z3:¬(32:Int)≤(x.toNat:Int):=by omega
    clear h2
    go_upto_region 11 with fail
    refine wp_region_T 11 (fun _=>True) (by kernel_rfl) ?_
    refine qU 0 ?vq0 rfl ?yq0 trivial ?_
    case yq0=>exact zzR4
    try simp only[qA]
    refine qU 1 ?vq1 rfl ?yq1 trivial ?_
    case yq1=>exact zzR4
    try simp only[qA]
    refine qU 2 ?vq2 rfl ?yq2 trivial ?_
    case yq2=>exact zzR4
    try simp only[qA]
    refine qU 3 (.int .u8 (d:Int)) rfl ?yq3 trivial ?_
    case yq3=>(intro wz _;go_simp;first|exact HD.1|rw[HD.1])
    try simp only[qA]
    refine qU 4 (.int .u8 (d1.toNat:Int)) rfl ?yq4 trivial ?_
    case yq4=>exact zzR9
    try simp only[qA]
    refine qU 5 ?vq5 rfl ?yq5 trivial ?_
    case yq5=>exact zzR4
    try simp only[qA]
    refine qU 6 ?vq6 rfl ?yq6 trivial ?_
    case yq6=>exact zzR4
    try simp only[qA]
    refine qU 7 (.int .u8 (f:Int)) rfl ?yq7 trivial ?_
    case yq7=>exact zzR10
    try simp only[qA]
    refine qU 8 (.int .u8 (d2.toNat:Int)) rfl ?yq8 trivial ?_
    case yq8=>exact zzR11
    try simp only[qA]
    refine anyT_one (i:=9) (by kernel_rfl) rfl (fun K hK=>?_)
    go_simp
    try rw[←hW2]
    refine hK.out _ _ (.inr trivial) ?_
    clear hK
    try simp only[qA]
    refine anyT_one (i:=10) (by kernel_rfl) rfl (fun K hK=>?_)
    refine step_append_wr _ rfl _ _ rfl w.heap.size g cp n wr.heap.size 0 4 4 X [92,120,d1,d2] rfl rfl HW.2.2 rfl HW2.1 HW2.2.2 ?hl ?hb ?_
    case hl=>rw[←HW.2.2];show n+4≤_;omega
    case hb=>omega
    exact zzQ24
  ·have z:¬(k:Int)<(s.size:Int):=by omega
   have HX2:Hid (quoM (bl s)=X++ [34]):=by
    show _=_
    have:=HX.out
    rw[List.take_of_length_le (by rw[bl_len];omega)]at this
    rw[quoM,this]
   obtain⟨W2,hW2⟩:=qE (wr.alloc (Obj.cells #[.int .u8 34] 5):World)
   have hb2:Below wr.heap.size wr W2:=by rw[hW2];exact qB
   have s2:=hb2.size
   have HW2:Hid (WrB W2 w.heap.size g cp X∧Below w.heap.size w W2∧BysAt W2 wr.heap.size 0 [34]):=by
    refine⟨HW.1.below hb2,HW.2.1.trans (hb2.mono sr),?_⟩
    rw[hW2];exact bys_new wr _ [34] rfl
   clear hb2
   go_wp2_with (at_builtin;(try rw[←hW2]);refine wpList_append_wr _ rfl _ _ rfl w.heap.size g cp n wr.heap.size 0 1 1 X [34] rfl rfl HW.2.2 rfl HW2.1 HW2.2.2 ?hl ?hb ?_)
   case hl=>first|omega|(rw[←HW.2.2];first|(show n+1≤_;omega)|omega)
   case hb=>omega
   intro g' cp' w' hW' hgr hat
   have hgr2:W2.grownBy w' (some g):=by first|exact hgr|(rw[hW2];exact hgr)
   have HR:Hid (WrB w' w.heap.size g' cp' (quoM (bl s))∧Below w.heap.size w w'∧n+1=(quoM (bl s)).length):=⟨by rw[HX2.out];exact hW',WrB.next HW2.2.1 (by omega) hge hgr2,by rw[HX2.out,List.length_append,←HW.2.2];rfl⟩
   clear hW' hgr hgr2 hat hW2
   go_wp2_with fail
   go_ret
   exact⟨g',cp',by rw[←HR.2.2];rfl,HR.1,HR.2.1⟩
end Go.Proofs.YtgnpcenpcmdlfaaGreatDoor
namespace Go.Proofs.YtgnpcenpcmdlfaaGreatDoor
open Go.ChangeShapes Go.WideShapes Go.ChangeAt Go.RowKit Go.Deep
set_option linter.unusedVariables false
set_option linter.unusedSimpArgs false
def LooN (e:Nd):Prop:=e.s.size≤50000∧e.t.size≤50000∧(e.hi=false→e.t.toList= []∧e.up=0)∧
 (((e.kind=4∨e.kind=5∨e.kind=6∨e.kind=7)∧(e.hi=false∧e.t.toList= []∧e.lo=0∧e.up=0∧e.n=0)∧True)∨
  ((e.kind=8∨e.kind=9)∧(e.lo=0∧e.up=0∧e.n=0)∧(e.hi=true→less e.s e.t))∨
  (e.kind=10∧(e.s.toList= []∧e.t.toList= []∧e.n=0)∧(e.hi=true→e.lo<e.up))∨
  ((e.kind=11∨e.kind=12∨e.kind=13)∧(e.s.toList= []∧e.hi=false∧e.t.toList= []∧e.lo=0∧e.up=0)∧1≤e.n∧e.n≤100000)∨
  ((e.kind=1∨e.kind=2∨e.kind=3∨e.kind=14∨e.kind=15∨e.kind=16)∧(e.s.toList= []∧e.hi=false∧e.t.toList= []∧e.lo=0∧e.up=0∧e.n=0)))
theorem GoodN.loo {e:Nd} (h:GoodN e):LooN e:=by
 obtain⟨h1,h2,h3,h4⟩:=h
 refine⟨by omega,by omega,h3,?_⟩
 rcases h4 with⟨a,b,c⟩|h|h|⟨a,b,c⟩|h
 ·exact .inl ⟨a,b,trivial⟩
 ·exact .inr (.inl h)
 ·exact .inr (.inr (.inl h))
 ·exact .inr (.inr (.inr (.inl ⟨a,b,by omega⟩)))
 ·exact .inr (.inr (.inr (.inr h)))
theorem endM_lenL {t:List UInt8} {n:Int} (ht:t.length≤50000) (h0:0≤n) (h1:n<2^64):(endM t n).length≤200002:=by
 unfold endM
 split
 ·split
  ·simp
  ·have:=dec64_len (n:=n.toNat) (by omega);omega
 ·have:=quoM_len t;omega
theorem leafM_lenL {e:Nd} (h:LooN e) (hn:NumN e):(leafM e).length≤410000:=by
 have hs:(bl e.s).length≤50000:=by rw[bl_len];exact h.1
 have ht:(bl e.t).length≤50000:=by rw[bl_len];exact h.2.1
 have h1:=wordA_len e.kind
 have h2:=quoM_len (bl e.s)
 have h3:=endM_lenL hs hn.lo0 hn.lo1
 have h4:=endM_lenL ht hn.up0 hn.up1
 have h5:(tailM e).length≤409000:=by
  unfold tailM
  split
  ·simp;omega
  ·split
   ·simp;omega
   ·split
    ·rename_i q1 q2 q3
     have h9:e.n≤100000∧1≤e.n:=by
      obtain⟨_,_,_,h4⟩:=h
      omega
     have:=dec64_len (n:=e.n.toNat) (by omega)
     simp;omega
    ·simp
 unfold leafM
 rw[List.length_append]
 omega
theorem print_lenL {ss:List PT} {xs:List Nd} (h:TrV printV ss xs) (hg:∀e∈xs,LooN e∧NumN e):sizeP ss≤410000*xs.length:=by
 induction h with
 |nil=>simp[sizeP]
 | @snoc ss os xs n ho h ih=>
   have h1:=ih (fun e he=>hg e (by simp[he]))
   rw[sizeP_append]at h1⊢
   have h2:(printV n os).2.length≤sizeP os+410000:=by
    unfold printV
    simp only
    split
    ·have:=leafM_lenL (hg n (by simp)).1 (hg n (by simp)).2
     omega
    ·have h3:=joinM_len n.kind 0 os
     have h4:os.length≤3:=by rw[ho];exact arity_le _
     have h5:(if n.kind=16 then [105,102,40]else([]:List UInt8)).length≤3:=by split<;>simp
     have h6:(if n.kind=16 then [41]else([]:List UInt8)).length≤1:=by split<;>simp
     simp only[List.length_append]
     omega
   have h7:sizeP [printV n os]=(printV n os).2.length:=by simp[sizeP]
   rw[List.length_append,List.length_singleton,h7]
   omega
end Go.Proofs.YtgnpcenpcmdlfaaGreatDoor
