import Derived.Test.YtkidabedcgngcaaGreatDoorVkAA
import Derived.Test.YtkidabedcgngcaaGreatDoorVkAD
import Derived.Test.YtkidabedcgngcaaGreatDoorVkAB
import Derived.Test.YtkidabedcgngcaaGreatDoorVkAC
import Derived.Lib.TrailingZeros
import Derived.Laws.Bits64b
import Derived.RangeFuncNested
import Derived.RangeFuncBound
import Derived.RangeFuncCalls
import Derived.RangeFuncLeaves
import Derived.Shelf.Abstract
import Derived.Shelf.RegionOpen
import Derived.WalkKit
import Derived.OwnWalkIn
import Derived.TacticsInMore
import Derived.LoopNIn
import Derived.LoopIn
import Derived.Maps.AppendAt
namespace Go.Proofs.YtkidabedcgngcaaGreatDoor
open Go.RowKit Go.ChangeShapes Go.WideShapes Go.ChangeAt Go.Deep Go.Shelf Go.Maps
set_option linter.unusedVariables false
set_option linter.unusedSimpArgs false
set_option maxRecDepth 100000
set_option maxHeartbeats 40000000
theorem yQd (base cb:Nat) (bv:Value) (n:Nat) (z:Int) (h0:0≤z) (h3:z≤3):TreC base cb bv n z 40:=by
 have t0:TreC base cb bv n 0 1:=yGs base cb bv n 0 0 (by omega) (by omega) (by omega) (fun q=>absurd q (by omega));have t1:TreC base cb bv n 1 4:=yGs base cb bv n 1 1 (by omega) (by omega) (by omega) (fun _=>t0);have t2:TreC base cb bv n 2 13:=yGs base cb bv n 2 4 (by omega) (by omega) (by omega) (fun _=>t1);have t3:TreC base cb bv n 3 40:=yGs base cb bv n 3 13 (by omega) (by omega) (by omega) (fun _=>t2);have hz:z=0∨z=1∨z=2∨z=3:=by omega
 rcases hz with rfl|rfl|rfl|rfl
 ·exact fun w hw=>(t0 w hw).mono fun e w' h=>h.up (by omega)
 ·exact fun w hw=>(t1 w hw).mono fun e w' h=>h.up (by omega)
 ·exact fun w hw=>(t2 w hw).mono fun e w' h=>h.up (by omega)
 ·exact t3
def FilP (base cb:Nat) (bv:Value) (n m:Nat) (w:World) (e:Ending) (w':World):Prop:=∃(g cp:Nat) (xs:List Nd),e=.returned (.agg #[.slice (some ⟨g,0,none⟩) xs.length cp])∧xs.length≤m∧0<xs.length∧Hid ((∀e∈xs,e.small)∧yAm w' w.heap.size g cp xs∧DInv base cb bv n w w')
theorem yFm (base cb:Nat) (bv:Value) (n:Nat) (w:World) (h:yAf base cb bv n w):
  Calls Tryz.prog 43 #[.pointer (some ⟨cb,0,none⟩)] w (FilP base cb bv n 40 w):=by
 obtain⟨Wa,hWa⟩:=qE (w.alloc (Obj.cells #[.slice none 0 0] 32):World);have hba:Below w.heap.size w Wa:=by rw[hWa];exact qB
 have HA:Hid (DInv base cb bv n w Wa∧yA Wa w.heap.size 32 1 w.heap.size [.slice none 0 0]):=⟨(DInv.start h).below hba,by rw[hWa];exact yAa w #[.slice none 0 0] (Nat.le_refl _) rfl⟩;clear h hba;go_enter Tryz.func43,Tryz.ntmps43;go_wp2_with fail;rw[←hWa];clear hWa;refine(yAl base cb bv n 3 _ HA.1.d (by omega) (by omega)).mono ?_;rintro e w1 ⟨x,rfl,hx0,hx1,hd1⟩;have H1:Hid (DInv base cb bv n w w1∧yA w1 w.heap.size 32 1 w.heap.size [.slice none 0 0]):=⟨HA.1.call hd1,HA.2.chg hd1.2 (by have:=HA.1.lt;omega)⟩;clear hd1 HA;have HC:Hid (Calls Tryz.prog 39 #[.pointer (some ⟨cb,0,none⟩),.int .i64 (1+x)] w1 (TreP base cb bv n 40 w1)):=yQd base cb bv n (1+x) (by omega) (by omega) w1 H1.1.d;go_wp2_with fail;refine HC.mono ?_;rintro e w2 ⟨g,cp,xs,rfl,hl,h0,K2⟩;have H2:Hid (yA w2 w.heap.size 32 1 w.heap.size [.slice none 0 0]):=H1.2.chg K2.out.2.2.c (by have:=H1.1.lt;omega);obtain⟨N,hN⟩:=qE xs.length;have HN:Hid (N=xs.length):=hN;rw[←hN]at hl h0⊢;clear hN;obtain⟨W3,hW3⟩:=qE (w2.setCell ⟨w.heap.size,0,none⟩ (.slice (some ⟨g,0,none⟩) N cp):World);have H3:Hid (FilP base cb bv n 40 w (.returned (.agg #[.slice (some ⟨g,0,none⟩) N cp])) W3):=by
  have hgl:=K2.out.2.1.lt;have hz1:=H1.2.lt.2;have hc3:Chg (fun k=>k=w.heap.size) w2 W3:=by rw[hW3];exact Chg.of_set _ _ _ _ rfl
  refine⟨g,cp,xs,by rw[HN.out],by rw[←HN.out];exact hl,by rw[←HN.out];exact h0,K2.out.1,(K2.out.2.1.mono (by omega)).chg hc3 (by omega),?_⟩;have hd2:DInv base cb bv n w w2:=⟨K2.out.2.2.d,H1.1.c.trans K2.out.2.2.c,H1.1.lt,H1.1.hb⟩;rw[hW3];exact hd2.grow (yBf w2 w.heap.size 0 _) (fun k q=>by cases q;exact Nat.le_refl _)
 have p0:W3.cell? ⟨w.heap.size,0,none⟩=some (.slice (some ⟨g,0,none⟩) N cp):=by rw[hW3];exact(H2.set 0 (.slice (some ⟨g,0,none⟩) N cp)).cell (j:=0) rfl
 have c0:=H2.cell (j:=0) rfl;have f0:=H2.frozen 0;clear K2 HC;go_wp2_with fail;rw[←hW3];exact bodyPost_ret (by simp[results,Tryz.results43,go_sem,p0]) rfl H3.out
theorem yB8 (w:World) (base:Nat) (es:List Nd) (cs:Array Value) (hcs:cs.toList=yBr es) (hb:base≤w.heap.size) (hl:es.length≤maxLen):yAm (w.alloc (Obj.cells cs 75)) base w.heap.size es.length es:=by have h:=World.ownsRow_lit (base:=base) (e:=75) (size:=7) w cs es.length hb hl (by rw[←Array.length_toList,hcs,yDf]);unfold yAm;rw[←hcs];exact h
abbrev limN:Nd:=⟨11,⟨#[]⟩,false,⟨#[]⟩,0,0,2⟩
theorem yDp:limN.small:=⟨by decide,by decide,by decide,by decide,by decide,by decide⟩
structure LimJ (base cb:Nat) (bv:Value) (n:Nat) (w:World) (eb g cp len:Nat) (wr:World):Prop where
 row:∃xs:List Nd,len=xs.length∧(∀e∈xs,e.small)∧yAm wr w.heap.size g cp xs
 leaf:yA wr w.heap.size 75 7 eb limN.seven
 res:yA wr w.heap.size 32 1 w.heap.size [.slice none 0 0]
 d:DInv base cb bv n w wr
 ne:¬g=eb∧w.heap.size<eb
variable {base cb n eb cp:Nat} {bv:Value} {w wr wx w':World} {xs:List Nd}
theorem LimJ.app {g len:Nat} (h:LimJ base cb bv n w eb g cp len wr) (hx:Below wr.heap.size wr wx) {g' cp':Nat} {es:List Nd} (hxs:∀e∈xs,e.small) (hes:∀e∈es,e.small) (hO:yAm w' w.heap.size g' cp' (xs++es)) (hgr:wx.grownBy w' (some g)) (hat:g'=g∨g'=wx.heap.size) (hg:w.heap.size<g):LimJ base cb bv n w eb g' cp' (xs++es).length w':=by
 have hc:Chg (fun k=>k=g) wx w':=Chg.of_grown hgr (fun k q=>by cases q;rfl);have hl:=h.leaf.lt.2;have hz:=hx.size;have hr:=h.res.lt.2;refine⟨⟨xs++es,rfl,fun e he=>(List.mem_append.1 he).elim (fun q=>hxs e q) (fun q=>hes e q),hO⟩,(h.leaf.below hx).chg hc (fun q=>h.ne.1 q.symm),(h.res.below hx).chg hc (by omega),(h.d.below hx).grow hgr (fun k q=>by cases q;omega),?_,h.ne.2⟩;rcases hat with q|q
 ·rw[q];exact h.ne.1
 ·omega
theorem LimJ.fin {g len:Nat} (h:LimJ base cb bv n w eb g cp len wr) (hg:w.heap.size<g) (hl:len≤1000) (h0:0<len) (W9:World) (h9:W9=wr.setCell ⟨w.heap.size,0,none⟩ (.slice (some ⟨g,0,none⟩) len cp)):
  W9.cell? ⟨w.heap.size,0,none⟩=some (.slice (some ⟨g,0,none⟩) len cp)∧FilP base cb bv n 1000 w (.returned (.agg #[.slice (some ⟨g,0,none⟩) len cp])) W9:=by
 obtain⟨xs,rfl,hs,hO⟩:=h.row;have hc3:Chg (fun k=>k=w.heap.size) wr W9:=by rw[h9];exact Chg.of_set _ _ _ _ rfl
 refine⟨by rw[h9];exact(h.res.set 0 (.slice (some ⟨g,0,none⟩) xs.length cp)).cell (j:=0) rfl,g,cp,xs,rfl,hl,h0,hs,hO.chg hc3 (by omega),?_⟩;rw[h9];exact h.d.grow (yBf wr w.heap.size 0 _) (fun k q=>by cases q;exact Nat.le_refl _)
theorem yK5 (base cb:Nat) (bv:Value) (n:Nat) (w:World) (h:yAf base cb bv n w):
  Calls Tryz.prog 79 #[.pointer (some ⟨cb,0,none⟩)] w (FilP base cb bv n 1000 w):=by
 obtain⟨Wa,hWa⟩:=qE (w.alloc (Obj.cells #[.slice none 0 0] 32):World);have hba:Below w.heap.size w Wa:=by rw[hWa];exact qB
 have HA:Hid (DInv base cb bv n w Wa∧yA Wa w.heap.size 32 1 w.heap.size [.slice none 0 0]):=⟨(DInv.start h).below hba,by rw[hWa];exact yAa w #[.slice none 0 0] (Nat.le_refl _) rfl⟩;clear h hba;go_enter Tryz.func79,Tryz.ntmps79;go_wp2_with fail;rw[←hWa];clear hWa;refine(yAl base cb bv n 6 _ HA.1.d (by omega) (by omega)).mono ?_;rintro e w1 ⟨x,rfl,hx0,hx1,hd1⟩;have H1:Hid (DInv base cb bv n w w1∧yA w1 w.heap.size 32 1 w.heap.size [.slice none 0 0]):=⟨HA.1.call hd1,HA.2.chg hd1.2 (by have:=HA.1.lt;omega)⟩;clear hd1 HA;go_wp2_with fail;refine(yAl base cb bv n 2 _ H1.1.d (by omega) (by omega)).mono ?_;rintro e w2 ⟨y,rfl,hy0,hy1,hd2⟩;have H2:Hid (DInv base cb bv n w w2∧yA w2 w.heap.size 32 1 w.heap.size [.slice none 0 0]):=⟨H1.1.call hd2,H1.2.chg hd2.2 (by have:=H1.1.lt;omega)⟩;clear hd2 H1;obtain⟨eb,heb⟩:=qE w2.heap.size;obtain⟨W3,hW3⟩:=qE (w2.alloc (Obj.cells #[.int .i64 11,.string ⟨#[]⟩,.bool false,.string ⟨#[]⟩,.int .u64 0,.int .u64 0,.int .i64 2] 75):World);obtain⟨W4,hW4⟩:=qE (W3.alloc (Obj.cells #[.int .i64 11,.string ⟨#[]⟩,.bool false,.string ⟨#[]⟩,.int .u64 0,.int .u64 0,.int .i64 2] 75):World);have hz3:W3.heap.size=eb+1:=by rw[hW3,heb];simp
 have hz4:W4.heap.size=eb+2:=by rw[hW4];simp[hz3]
 have H4:Hid (LimJ base cb bv n w eb (eb+1) 1 1 W4):=by
  have k3:Below w2.heap.size w2 W3:=by rw[hW3];exact qB
  have k4:Below W3.heap.size W3 W4:=by rw[hW4];exact qB
  have hr:=H2.2.lt.2;have b3:yA W3 w.heap.size 75 7 eb limN.seven:=by rw[hW3,heb];exact yAa w2 #[.int .i64 11,.string ⟨#[]⟩,.bool false,.string ⟨#[]⟩,.int .u64 0,.int .u64 0,.int .i64 2] (by omega) rfl
  have o4:yAm W4 w.heap.size W3.heap.size 1 [limN]:=by rw[hW4];exact yDa W3 w.heap.size limN (by omega)
  rw[hz3]at o4;exact⟨⟨[limN],rfl,fun e he=>by simp at he;subst he;exact yDp,o4⟩,b3.below k4,(H2.2.below k3).below k4,(H2.1.below k3).below k4,by omega,by omega⟩
 clear H2;go_upto_region 5 with fail;rw[←hW3,←heb,←hW4];clear hW3 hW4 heb;by_cases x3:x=3
 ·subst x3;obtain⟨W5,hW5⟩:=qE (W4.alloc (Obj.cells #[.int .i64 11,.string ⟨#[]⟩,.bool false,.string ⟨#[]⟩,.int .u64 0,.int .u64 0,.int .i64 2,.int .i64 11,.string ⟨#[]⟩,.bool false,.string ⟨#[]⟩,.int .u64 0,.int .u64 0,.int .i64 2,.int .i64 11,.string ⟨#[]⟩,.bool false,.string ⟨#[]⟩,.int .u64 0,.int .u64 0,.int .i64 2,.int .i64 16,.string ⟨#[]⟩,.bool false,.string ⟨#[]⟩,.int .u64 0,.int .u64 0,.int .i64 0] 75):World);have H5:Hid (LimJ base cb bv n w eb (eb+2) 4 4 W5):=by
   have k5:Below W4.heap.size W4 W5:=by rw[hW5];exact qB
   have o5:yAm W5 w.heap.size W4.heap.size 4 [limN,limN,limN,(⟨16,⟨#[]⟩,false,⟨#[]⟩,0,0,0⟩:Nd)]:=by rw[hW5];exact yB8 W4 w.heap.size [limN,limN,limN,(⟨16,⟨#[]⟩,false,⟨#[]⟩,0,0,0⟩:Nd)] #[.int .i64 11,.string ⟨#[]⟩,.bool false,.string ⟨#[]⟩,.int .u64 0,.int .u64 0,.int .i64 2,.int .i64 11,.string ⟨#[]⟩,.bool false,.string ⟨#[]⟩,.int .u64 0,.int .u64 0,.int .i64 2,.int .i64 11,.string ⟨#[]⟩,.bool false,.string ⟨#[]⟩,.int .u64 0,.int .u64 0,.int .i64 2,.int .i64 16,.string ⟨#[]⟩,.bool false,.string ⟨#[]⟩,.int .u64 0,.int .u64 0,.int .i64 0] rfl H4.d.c.size (by decide)
   rw[hz4]at o5;exact⟨⟨_,rfl,fun e he=>by simp at he;rcases he with rfl|rfl<;>first|exact yDp|exact yB6 _ (by omega),o5⟩,H4.leaf.below k5,H4.res.below k5,H4.d.below k5,by omega,H4.ne.2⟩
  obtain⟨b0,b1,b2,b3,b4,b5,b6⟩:=H4.leaf.c7;simp only at b0 b1 b2 b3 b4 b5 b6;go_upto_region 7 with fail;rw[←hW5];clear hW5 b0 b1 b2 b3 b4 b5 b6;go_wp2_with fail;go_loopw[6,7] (fun nv iv wr=>∃(i g cp len:Nat),(i:Int)≤(98:Int)∧iv=.int .i64 (i:Int)∧nv=.slice (some ⟨g,0,none⟩) len cp∧(len≤4+2*i∧0<len)∧w.heap.size<g∧Hid (LimJ base cb bv n w eb g cp len wr)) (fun _ iv _=>((98:Int)).toNat-(intOf iv).toNat);case atStart=>exact⟨0,eb+2,4,4,by omega,rfl,rfl,⟨by omega,by omega⟩,by have:=H5.ne.2;omega,H5.out⟩
  case round=>
   obtain⟨i,g,cp,len,hi,rfl,rfl,hlen,hgw,HJ⟩:=hrel;by_cases hlt:(i:Int)<(98:Int)
   ·obtain⟨xs,hxl,hxs,hxO⟩:=HJ.row;have HX:Hid (len=xs.length∧(∀e∈xs,e.small)∧yAm wr w.heap.size g cp xs):=⟨hxl,hxs,hxO⟩;clear hxl hxs hxO;obtain⟨b0,b1,b2,b3,b4,b5,b6⟩:=HJ.leaf.c7;simp only at b0 b1 b2 b3 b4 b5 b6;obtain⟨WX,hWX⟩:=qE (wr.alloc (Obj.cells #[.int .i64 11,.string ⟨#[]⟩,.bool false,.string ⟨#[]⟩,.int .u64 0,.int .u64 0,.int .i64 2,.int .i64 14,.string ⟨#[]⟩,.bool false,.string ⟨#[]⟩,.int .u64 0,.int .u64 0,.int .i64 0] 75):World);have HWX:Hid (Below wr.heap.size wr WX∧yAy WX wr.heap.size 0 [limN,(⟨14,⟨#[]⟩,false,⟨#[]⟩,0,0,0⟩:Nd)]∧WX=wr.alloc (Obj.cells #[.int .i64 11,.string ⟨#[]⟩,.bool false,.string ⟨#[]⟩,.int .u64 0,.int .u64 0,.int .i64 2,.int .i64 14,.string ⟨#[]⟩,.bool false,.string ⟨#[]⟩,.int .u64 0,.int .u64 0,.int .i64 0] 75)):=⟨by rw[hWX];exact qB,by rw[hWX];exact(yB8 wr w.heap.size [limN,(⟨14,⟨#[]⟩,false,⟨#[]⟩,0,0,0⟩:Nd)] #[.int .i64 11,.string ⟨#[]⟩,.bool false,.string ⟨#[]⟩,.int .u64 0,.int .u64 0,.int .i64 2,.int .i64 14,.string ⟨#[]⟩,.bool false,.string ⟨#[]⟩,.int .u64 0,.int .u64 0,.int .i64 0] rfl HJ.d.c.size (by decide)).at,hWX⟩;clear hWX;go_wp2_with (at_builtin;rw[←HWX.2.2];refine yAi _ rfl _ _ rfl w.heap.size g cp len wr.heap.size 0 2 2 xs [limN,(⟨14,⟨#[]⟩,false,⟨#[]⟩,0,0,0⟩:Nd)] rfl rfl HX.1 rfl (HX.2.2.below HWX.1 HX.2.2.lt.2) HWX.2.1 ?hl ?hb ?_);case hl=>rw[←HX.1];simp;omega
    case hb=>have h1:=HJ.d.c.size;have h2:=HWX.1.size;omega
    exact zzQ25
   ·exact yV4
 by_cases x4:x=4
 ·subst x4;obtain⟨WQ,hWQ⟩:=qE W4;rw[←hWQ];have HQ:Hid (LimJ base cb bv n w eb (eb+1) 1 1 WQ):=by rw[hWQ];exact H4.out
  clear hWQ H4 hz4;have hsm:(⟨12,⟨#[]⟩,false,⟨#[]⟩,0,0,1000+y⟩:Nd).small:=⟨Nat.zero_le _,Nat.zero_le _,(by show(0:Int)≤0∧(0:Int)≤100000;omega),(by show(0:Int)≤0∧(0:Int)≤100000;omega),(by show 0≤1000+y∧1000+y≤100000;omega),(by show(0:Int)≤12∧(12:Int)≤100000;omega)⟩;obtain⟨W5,hW5⟩:=qE (WQ.alloc (Obj.cells #[.int .i64 12,.string ⟨#[]⟩,.bool false,.string ⟨#[]⟩,.int .u64 0,.int .u64 0,.int .i64 (1000+y)] 75):World);have H5:Hid (LimJ base cb bv n w eb WQ.heap.size 1 1 W5):=by
   have k5:Below WQ.heap.size WQ W5:=by rw[hW5];exact qB
   have o5:yAm W5 w.heap.size WQ.heap.size 1 [(⟨12,⟨#[]⟩,false,⟨#[]⟩,0,0,1000+y⟩:Nd)]:=by rw[hW5];exact yB8 WQ w.heap.size [(⟨12,⟨#[]⟩,false,⟨#[]⟩,0,0,1000+y⟩:Nd)] #[.int .i64 12,.string ⟨#[]⟩,.bool false,.string ⟨#[]⟩,.int .u64 0,.int .u64 0,.int .i64 (1000+y)] rfl HQ.d.c.size (by show 1≤maxLen;decide)
   have hlb:=HQ.leaf.lt.2;exact⟨⟨_,rfl,fun e he=>by simp at he;subst he;exact hsm,o5⟩,HQ.leaf.below k5,HQ.res.below k5,HQ.d.below k5,by omega,HQ.ne.2⟩
  have hgq:w.heap.size<WQ.heap.size:=by have h1:=HQ.leaf.lt.2;have h2:=HQ.ne.2;omega
  obtain⟨WF,hWF⟩:=qE (W5.setCell ⟨w.heap.size,0,none⟩ (.slice (some ⟨WQ.heap.size,0,none⟩) (1) 1):World);obtain⟨p0,HRes⟩:=H5.fin (by omega) (by omega) (by omega) WF hWF;have HRH:Hid (FilP base cb bv n 1000 w (.returned (.agg #[.slice (some ⟨WQ.heap.size,0,none⟩) (1) 1])) WF):=HRes;have r0:=H5.res.cell (j:=0) rfl;have rf:=H5.res.frozen 0;clear HRes;rw[hW5]at r0 rf;have HWE:Hid ((WQ.setCell ⟨w.heap.size,0,none⟩ (.slice (some ⟨WQ.heap.size,0,none⟩) 1 1)).alloc (Obj.cells #[.int .i64 12,.string ⟨#[]⟩,.bool false,.string ⟨#[]⟩,.int .u64 0,.int .u64 0,.int .i64 (1000+y)] 75)=WF):=by show _=_;rw[hWF,hW5];go_simp
  exact yXo
 by_cases x5:x=5
 ·subst x5;obtain⟨yn,rfl⟩:∃k:Nat,y=(k:Int):=⟨y.toNat,by omega⟩;have HMy:Hid (Calls Tryz.prog 111 #[.string ⟨#[97]⟩,.int .i64 (200+(yn:Int))] W4 fun e w'=>∃s:ByteArray,e=.returned (.string s)∧s.size≤1000∧Below W4.heap.size W4 w'):=by
   have h9:=yJs 97 (200+yn) W4 (by omega);have e9:((200+yn:Nat):Int)=200+(yn:Int):=by omega
   rw[e9]at h9;exact h9
  go_wp2_with fail;refine HMy.mono ?_;rintro e WQ ⟨s,rfl,hs,hbq⟩;have HQ:Hid (LimJ base cb bv n w eb (eb+1) 1 1 WQ):=by obtain⟨xs,h1,h2,h3⟩:=H4.row;exact⟨⟨xs,h1,h2,h3.below hbq h3.lt.2⟩,H4.leaf.below hbq,H4.res.below hbq,H4.d.below hbq,H4.ne⟩
  clear hbq H4 hz4;have hsm:(⟨9,s,false,⟨#[]⟩,0,0,0⟩:Nd).small:=⟨(by show s.size≤200000;omega),Nat.zero_le _,(by show(0:Int)≤0∧(0:Int)≤100000;omega),(by show(0:Int)≤0∧(0:Int)≤100000;omega),(by show(0:Int)≤0∧(0:Int)≤100000;omega),(by show(0:Int)≤9∧(9:Int)≤100000;omega)⟩;obtain⟨W5,hW5⟩:=qE (WQ.alloc (Obj.cells #[.int .i64 9,.string s,.bool false,.string ⟨#[]⟩,.int .u64 0,.int .u64 0,.int .i64 0] 75):World);have H5:Hid (LimJ base cb bv n w eb WQ.heap.size 1 1 W5):=by
   have k5:Below WQ.heap.size WQ W5:=by rw[hW5];exact qB
   have o5:yAm W5 w.heap.size WQ.heap.size 1 [(⟨9,s,false,⟨#[]⟩,0,0,0⟩:Nd)]:=by rw[hW5];exact yB8 WQ w.heap.size [(⟨9,s,false,⟨#[]⟩,0,0,0⟩:Nd)] #[.int .i64 9,.string s,.bool false,.string ⟨#[]⟩,.int .u64 0,.int .u64 0,.int .i64 0] rfl HQ.d.c.size (by show 1≤maxLen;decide)
   have hlb:=HQ.leaf.lt.2;exact⟨⟨_,rfl,fun e he=>by simp at he;subst he;exact hsm,o5⟩,HQ.leaf.below k5,HQ.res.below k5,HQ.d.below k5,by omega,HQ.ne.2⟩
  have hgq:w.heap.size<WQ.heap.size:=by have h1:=HQ.leaf.lt.2;have h2:=HQ.ne.2;omega
  obtain⟨WF,hWF⟩:=qE (W5.setCell ⟨w.heap.size,0,none⟩ (.slice (some ⟨WQ.heap.size,0,none⟩) (1) 1):World);obtain⟨p0,HRes⟩:=H5.fin (by omega) (by omega) (by omega) WF hWF;have HRH:Hid (FilP base cb bv n 1000 w (.returned (.agg #[.slice (some ⟨WQ.heap.size,0,none⟩) (1) 1])) WF):=HRes;have r0:=H5.res.cell (j:=0) rfl;have rf:=H5.res.frozen 0;clear HRes;rw[hW5]at r0 rf;have HWE:Hid ((WQ.setCell ⟨w.heap.size,0,none⟩ (.slice (some ⟨WQ.heap.size,0,none⟩) 1 1)).alloc (Obj.cells #[.int .i64 9,.string s,.bool false,.string ⟨#[]⟩,.int .u64 0,.int .u64 0,.int .i64 0] 75)=WF):=by show _=_;rw[hWF,hW5];go_simp
  exact yXo
 by_cases x0:x=0
 ·subst x0;go_wp2_with fail;go_loopw[6,8] (fun nv iv wr=>∃(i g cp len:Nat),(i:Int)≤99+y∧iv=.int .i64 (i:Int)∧nv=.slice (some ⟨g,0,none⟩) len cp∧(len≤1+2*i∧0<len)∧w.heap.size<g∧Hid (LimJ base cb bv n w eb g cp len wr)) (fun _ iv _=>(99+y).toNat-(intOf iv).toNat);case atStart=>exact⟨0,eb+1,1,1,by omega,rfl,rfl,⟨by omega,by omega⟩,by have:=H4.ne.2;omega,H4.out⟩
  case round=>
   obtain⟨i,g,cp,len,hi,rfl,rfl,hlen,hgw,HJ⟩:=hrel;by_cases hlt:(i:Int)<99+y
   ·obtain⟨xs,hxl,hxs,hxO⟩:=HJ.row;have HX:Hid (len=xs.length∧(∀e∈xs,e.small)∧yAm wr w.heap.size g cp xs):=⟨hxl,hxs,hxO⟩;clear hxl hxs hxO;obtain⟨b0,b1,b2,b3,b4,b5,b6⟩:=HJ.leaf.c7;simp only at b0 b1 b2 b3 b4 b5 b6;obtain⟨WX,hWX⟩:=qE (wr.alloc (Obj.cells #[.int .i64 11,.string ⟨#[]⟩,.bool false,.string ⟨#[]⟩,.int .u64 0,.int .u64 0,.int .i64 2,.int .i64 14,.string ⟨#[]⟩,.bool false,.string ⟨#[]⟩,.int .u64 0,.int .u64 0,.int .i64 0] 75):World);have HWX:Hid (Below wr.heap.size wr WX∧yAy WX wr.heap.size 0 [limN,(⟨14,⟨#[]⟩,false,⟨#[]⟩,0,0,0⟩:Nd)]∧WX=wr.alloc (Obj.cells #[.int .i64 11,.string ⟨#[]⟩,.bool false,.string ⟨#[]⟩,.int .u64 0,.int .u64 0,.int .i64 2,.int .i64 14,.string ⟨#[]⟩,.bool false,.string ⟨#[]⟩,.int .u64 0,.int .u64 0,.int .i64 0] 75)):=⟨by rw[hWX];exact qB,by rw[hWX];exact(yB8 wr w.heap.size [limN,(⟨14,⟨#[]⟩,false,⟨#[]⟩,0,0,0⟩:Nd)] #[.int .i64 11,.string ⟨#[]⟩,.bool false,.string ⟨#[]⟩,.int .u64 0,.int .u64 0,.int .i64 2,.int .i64 14,.string ⟨#[]⟩,.bool false,.string ⟨#[]⟩,.int .u64 0,.int .u64 0,.int .i64 0] rfl HJ.d.c.size (by decide)).at,hWX⟩;clear hWX;go_wp2_with (at_builtin;rw[←HWX.2.2];refine yAi _ rfl _ _ rfl w.heap.size g cp len wr.heap.size 0 2 2 xs [limN,(⟨14,⟨#[]⟩,false,⟨#[]⟩,0,0,0⟩:Nd)] rfl rfl HX.1 rfl (HX.2.2.below HWX.1 HX.2.2.lt.2) HWX.2.1 ?hl ?hb ?_);case hl=>rw[←HX.1];simp;omega
    case hb=>have h1:=HJ.d.c.size;have h2:=HWX.1.size;omega
    exact zzQ25
   ·exact yV4
 by_cases x1:x=1
 ·subst x1;go_wp2_with fail;go_loopw[6,9] (fun nv iv wr=>∃(i g cp len:Nat),(i:Int)≤21+y∧iv=.int .i64 (i:Int)∧nv=.slice (some ⟨g,0,none⟩) len cp∧(len≤1+2*i∧0<len)∧w.heap.size<g∧Hid (LimJ base cb bv n w eb g cp len wr)) (fun _ iv _=>(21+y).toNat-(intOf iv).toNat);case atStart=>exact⟨0,eb+1,1,1,by omega,rfl,rfl,⟨by omega,by omega⟩,by have:=H4.ne.2;omega,H4.out⟩
  case round=>
   obtain⟨i,g,cp,len,hi,rfl,rfl,hlen,hgw,HJ⟩:=hrel;by_cases hlt:(i:Int)<21+y
   ·obtain⟨xs,hxl,hxs,hxO⟩:=HJ.row;have HX:Hid (len=xs.length∧(∀e∈xs,e.small)∧yAm wr w.heap.size g cp xs):=⟨hxl,hxs,hxO⟩;clear hxl hxs hxO;obtain⟨b0,b1,b2,b3,b4,b5,b6⟩:=HJ.leaf.c7;simp only at b0 b1 b2 b3 b4 b5 b6;obtain⟨WX,hWX⟩:=qE (wr.alloc (Obj.cells #[.int .i64 11,.string ⟨#[]⟩,.bool false,.string ⟨#[]⟩,.int .u64 0,.int .u64 0,.int .i64 2] 75):World);have HWX:Hid (Below wr.heap.size wr WX∧yAm WX w.heap.size wr.heap.size 1 [limN]∧WX=wr.alloc (Obj.cells #[.int .i64 11,.string ⟨#[]⟩,.bool false,.string ⟨#[]⟩,.int .u64 0,.int .u64 0,.int .i64 2] 75)):=⟨by rw[hWX];exact qB,by rw[hWX];exact yB8 wr w.heap.size [limN] #[.int .i64 11,.string ⟨#[]⟩,.bool false,.string ⟨#[]⟩,.int .u64 0,.int .u64 0,.int .i64 2] rfl HJ.d.c.size (by decide),hWX⟩;clear hWX;go_wp2_with (at_builtin;rw[←HWX.2.2];refine yAi _ rfl _ _ rfl w.heap.size wr.heap.size 1 1 g 0 len cp [limN] xs rfl rfl rfl HX.1 HWX.2.1 (HX.2.2.below HWX.1 HX.2.2.lt.2).at ?hl ?hb ?_);case hl=>rw[←HX.1];simp;omega
    case hb=>have h1:=HJ.d.c.size;have h2:=HWX.1.size;omega
    intro g4 c4 w4 hO4 hgr4 hat4;obtain⟨Q,hQ⟩:=qE ([limN]++xs);rw[show limN::xs=Q from hQ.symm]at hO4;have HN4:Hid (yAm w4 w.heap.size g4 c4 Q∧(∀e∈Q,e.small)∧Q.length=1+len∧LimJ base cb bv n w eb g4 c4 Q.length w4∧w.heap.size<g4):=by
     have hJx:LimJ base cb bv n w eb wr.heap.size 1 1 WX:=by have h1:=HJ.leaf.lt.2;exact⟨⟨[limN],rfl,fun e he=>by simp at he;subst he;exact yDp,HWX.2.1⟩,HJ.leaf.below HWX.1,HJ.res.below HWX.1,HJ.d.below HWX.1,by omega,HJ.ne.2⟩
     have hrr:=HJ.res.lt.2;have h8:=hJx.app (Below.refl _ _) (xs:= [limN]) (es:=xs) (fun e he=>by simp at he;subst he;exact yDp) HX.2.1 (by rw[←hQ];exact hO4) hgr4 hat4 hrr;rw[←hQ]at h8;obtain⟨xs',_,h9,_⟩:=h8.row;have hsm:∀e∈Q,e.small:=fun e he=>by
      rw[hQ]at he;rcases List.mem_append.1 he with q|q
      ·simp at q;subst q;exact yDp
      ·exact HX.2.1 e q
     refine⟨hO4,hsm,by rw[hQ,List.length_append,←HX.1];rfl,h8,?_⟩;rcases hat4 with q|q
     ·rw[q];exact hrr
     ·have h2:=HWX.1.size;omega
    clear hO4 hgr4 hat4 hQ b0 b1 b2 b3 b4 b5 b6;obtain⟨WY,hWY⟩:=qE (w4.alloc (Obj.cells #[.int .i64 15,.string ⟨#[]⟩,.bool false,.string ⟨#[]⟩,.int .u64 0,.int .u64 0,.int .i64 0] 75):World);have HWY:Hid (Below w4.heap.size w4 WY∧yAy WY w4.heap.size 0 [(⟨15,⟨#[]⟩,false,⟨#[]⟩,0,0,0⟩:Nd)]∧WY=w4.alloc (Obj.cells #[.int .i64 15,.string ⟨#[]⟩,.bool false,.string ⟨#[]⟩,.int .u64 0,.int .u64 0,.int .i64 0] 75)):=⟨by rw[hWY];exact qB,by rw[hWY];exact(yB8 w4 w.heap.size [(⟨15,⟨#[]⟩,false,⟨#[]⟩,0,0,0⟩:Nd)] #[.int .i64 15,.string ⟨#[]⟩,.bool false,.string ⟨#[]⟩,.int .u64 0,.int .u64 0,.int .i64 0] rfl HN4.2.2.2.1.d.c.size (by decide)).at,hWY⟩;clear hWY;go_wp2_with (at_builtin;rw[←HWY.2.2];refine yAi _ rfl _ _ rfl w.heap.size g4 c4 (1+len) w4.heap.size 0 1 1 Q [(⟨15,⟨#[]⟩,false,⟨#[]⟩,0,0,0⟩:Nd)] rfl rfl HN4.2.2.1.symm rfl (HN4.1.below HWY.1 HN4.1.lt.2) HWY.2.1 ?hl9 ?hb9 ?_);case hl9=>rw[HN4.2.2.1];simp;omega
    case hb9=>have h1:=HN4.2.2.2.1.d.c.size;have h2:=HWY.1.size;omega
    intro g' cp' w' hO' hgr hat;have HN:Hid (LimJ base cb bv n w eb g' cp' (1+len+1) w'∧w.heap.size<g'):=by
     have h8:=HN4.2.2.2.1.app HWY.1 HN4.2.1 (es:= [(⟨15,⟨#[]⟩,false,⟨#[]⟩,0,0,0⟩:Nd)]) (fun e he=>by simp at he;subst he;exact yB6 _ (by omega)) hO' hgr hat HN4.2.2.2.2;have h9:(Q++ [(⟨15,⟨#[]⟩,false,⟨#[]⟩,0,0,0⟩:Nd)]).length=1+len+1:=by rw[List.length_append,HN4.2.2.1];rfl
     rw[h9]at h8;refine⟨h8,?_⟩;rcases hat with q|q
     ·rw[q];exact HN4.2.2.2.2
     ·have h1:=HN4.2.2.2.1.d.c.size;have h2:=HWY.1.size;have h3:=HN4.2.2.2.1.res.lt.2;omega
    clear hO' hgr hat;go_wp2_with fail;go_roundw;case rel=>exact⟨i+1,g',cp',1+len+1,by omega,by go_num,rfl,⟨by omega,by omega⟩,HN.2,HN.1⟩
    case measure=>simp[intOf];omega
   ·exact yV4
 ·obtain rfl:x=2:=by omega
  go_wp2_with fail;go_loopw[6,10] (fun nv iv wr=>∃(i g cp len:Nat),(i:Int)≤20+y∧iv=.int .i64 (i:Int)∧nv=.slice (some ⟨g,0,none⟩) len cp∧(len≤1+3*i∧0<len)∧w.heap.size<g∧Hid (LimJ base cb bv n w eb g cp len wr)) (fun _ iv _=>(20+y).toNat-(intOf iv).toNat);case atStart=>exact⟨0,eb+1,1,1,by omega,rfl,rfl,⟨by omega,by omega⟩,by have:=H4.ne.2;omega,H4.out⟩
  case round=>
   obtain⟨i,g,cp,len,hi,rfl,rfl,hlen,hgw,HJ⟩:=hrel;by_cases hlt:(i:Int)<20+y
   ·obtain⟨xs,hxl,hxs,hxO⟩:=HJ.row;have HX:Hid (len=xs.length∧(∀e∈xs,e.small)∧yAm wr w.heap.size g cp xs):=⟨hxl,hxs,hxO⟩;clear hxl hxs hxO;obtain⟨b0,b1,b2,b3,b4,b5,b6⟩:=HJ.leaf.c7;simp only at b0 b1 b2 b3 b4 b5 b6;obtain⟨WX,hWX⟩:=qE (wr.alloc (Obj.cells #[.int .i64 11,.string ⟨#[]⟩,.bool false,.string ⟨#[]⟩,.int .u64 0,.int .u64 0,.int .i64 2,.int .i64 11,.string ⟨#[]⟩,.bool false,.string ⟨#[]⟩,.int .u64 0,.int .u64 0,.int .i64 2,.int .i64 16,.string ⟨#[]⟩,.bool false,.string ⟨#[]⟩,.int .u64 0,.int .u64 0,.int .i64 0] 75):World);have HWX:Hid (Below wr.heap.size wr WX∧yAy WX wr.heap.size 0 [limN,limN,(⟨16,⟨#[]⟩,false,⟨#[]⟩,0,0,0⟩:Nd)]∧WX=wr.alloc (Obj.cells #[.int .i64 11,.string ⟨#[]⟩,.bool false,.string ⟨#[]⟩,.int .u64 0,.int .u64 0,.int .i64 2,.int .i64 11,.string ⟨#[]⟩,.bool false,.string ⟨#[]⟩,.int .u64 0,.int .u64 0,.int .i64 2,.int .i64 16,.string ⟨#[]⟩,.bool false,.string ⟨#[]⟩,.int .u64 0,.int .u64 0,.int .i64 0] 75)):=⟨by rw[hWX];exact qB,by rw[hWX];exact(yB8 wr w.heap.size [limN,limN,(⟨16,⟨#[]⟩,false,⟨#[]⟩,0,0,0⟩:Nd)] #[.int .i64 11,.string ⟨#[]⟩,.bool false,.string ⟨#[]⟩,.int .u64 0,.int .u64 0,.int .i64 2,.int .i64 11,.string ⟨#[]⟩,.bool false,.string ⟨#[]⟩,.int .u64 0,.int .u64 0,.int .i64 2,.int .i64 16,.string ⟨#[]⟩,.bool false,.string ⟨#[]⟩,.int .u64 0,.int .u64 0,.int .i64 0] rfl HJ.d.c.size (by decide)).at,hWX⟩;clear hWX;go_wp2_with (at_builtin;rw[←HWX.2.2];refine yAi _ rfl _ _ rfl w.heap.size g cp len wr.heap.size 0 3 3 xs [limN,limN,(⟨16,⟨#[]⟩,false,⟨#[]⟩,0,0,0⟩:Nd)] rfl rfl HX.1 rfl (HX.2.2.below HWX.1 HX.2.2.lt.2) HWX.2.1 ?hl ?hb ?_);case hl=>rw[←HX.1];simp;omega
    case hb=>have h1:=HJ.d.c.size;have h2:=HWX.1.size;omega
    intro g' cp' w' hO' hgr hat;have HN:Hid (LimJ base cb bv n w eb g' cp' (len+3) w'∧w.heap.size<g'):=by
     have h8:=HJ.app HWX.1 HX.2.1 (es:= [limN,limN,(⟨16,⟨#[]⟩,false,⟨#[]⟩,0,0,0⟩:Nd)]) (fun e he=>by simp at he;rcases he with rfl|rfl<;>first|exact yDp|exact yB6 _ (by omega)) hO' hgr hat hgw;have h9:(xs++ [limN,limN,(⟨16,⟨#[]⟩,false,⟨#[]⟩,0,0,0⟩:Nd)]).length=len+3:=by rw[List.length_append,←HX.1];rfl
     rw[h9]at h8;refine⟨h8,?_⟩;rcases hat with q|q
     ·rw[q];exact hgw
     ·have h1:=HJ.d.c.size;have h2:=HWX.1.size;have h3:=HJ.res.lt.2;omega
    clear hO' hgr hat b0 b1 b2 b3 b4 b5 b6;go_wp2_with fail;go_roundw;case rel=>exact⟨i+1,g',cp',len+3,by omega,by go_num,rfl,⟨by omega,by omega⟩,HN.2,HN.1⟩
    case measure=>simp[intOf];omega
   ·exact yV4
def AnyP (base cb:Nat) (bv:Value) (n:Nat) (w:World) (e:Ending) (w':World):Prop:=∃(b o c:Nat) (ys:List Nd),e=.returned (.agg #[.slice (some ⟨b,o,none⟩) ys.length c])∧ys.length≤1001∧Hid ((∀e∈ys,e.ok)∧yAy w' b o ys∧(w.heap.size≤b∧b<w'.heap.size)∧(ys.length≤c∧c≤maxLen)∧DInv base cb bv n w w')
theorem FilP.any {m:Nat} {e:Ending} (h:FilP base cb bv n m w e w') (hm:m≤1001):AnyP base cb bv n w e w':=by obtain⟨g,cp,xs,rfl,hl,_,H⟩:=h;exact⟨g,0,cp,xs,rfl,by omega,fun e he=>(H.1 e he).ok,H.2.1.at,H.2.1.lt,H.2.1.caps,H.2.2⟩
theorem wf_n {x:Int} (h:0≤x∧x≤100000):(Lit.int .i64 (x+1000)).wf=true:=by exact yXu
structure SpJ (base cb:Nat) (bv:Value) (n:Nat) (w:World) (eb g cp:Nat) (xs:List Nd) (f:Nd) (wr:World):Prop where
 row:yAm wr w.heap.size g cp xs
 e:yA wr w.heap.size 75 7 eb f.seven
 res:yA wr w.heap.size 32 1 (w.heap.size+1) [.slice none 0 0]
 d:DInv base cb bv n w wr
 ne:¬g=eb∧w.heap.size+1<g∧w.heap.size+1<eb
 ok:f.ok
variable {f:Nd} {w1:World}
theorem SpJ.call {g:Nat} (h:SpJ base cb bv n w eb g cp xs f wr) (hd:Drew base cb bv n wr w1):SpJ base cb bv n w eb g cp xs f w1:=by have hl:=h.d.lt;have h1:=h.ne;exact⟨h.row.chg hd.2 (by omega),h.e.chg hd.2 (by omega),h.res.chg hd.2 (by omega),h.d.call hd,h.ne,h.ok⟩
theorem SpJ.below {g:Nat} (h:SpJ base cb bv n w eb g cp xs f wr) (hd:Below wr.heap.size wr w1):SpJ base cb bv n w eb g cp xs f w1:=⟨h.row.below hd h.row.lt.2,h.e.below hd,h.res.below hd,h.d.below hd,h.ne,h.ok⟩
theorem SpJ.set {g:Nat} (h:SpJ base cb bv n w eb g cp xs f wr) (j:Nat) (f':Nd) (u:Value) (hc:f'.seven=f.seven.set j u) (ho:f'.ok):SpJ base cb bv n w eb g cp xs f' (wr.setCell ⟨eb,j,none⟩ u):=by have h1:=h.e.set j u;rw[←hc]at h1;have hn:=h.ne;have hcg:Chg (fun k=>k=eb) wr (wr.setCell ⟨eb,j,none⟩ u):=Chg.of_set _ _ _ _ rfl;exact⟨h.row.chg hcg hn.1,h1,h.res.chg hcg (by omega),h.d.grow (yBf wr eb j u) (fun k q=>by cases q;omega),hn,ho⟩
variable {i:Nat}
theorem SpJ.back {g:Nat} (h:SpJ base cb bv n w eb g cp xs f wr) (hx:∀e∈xs,e.ok) (hl:xs.length≤1000) {e0:Nd} (he:xs[i]?=some e0) (W9:World)
  (h9:W9=(((((((wr.setCell ⟨g,i*7,none⟩ (.int .i64 f.kind)).setCell ⟨g,i*7+1,none⟩ (.string f.s)).setCell ⟨g,i*7+2,none⟩ (.bool f.hi)).setCell ⟨g,i*7+3,none⟩ (.string f.t)).setCell ⟨g,i*7+4,none⟩ (.int .u64 f.lo)).setCell ⟨g,i*7+5,none⟩ (.int .u64 f.up)).setCell ⟨g,i*7+6,none⟩ (.int .i64 f.n))):
  yA W9 w.heap.size 32 1 (w.heap.size+1) [.slice none 0 0]∧∀N WF,N=xs.length→WF=W9.setCell ⟨w.heap.size+1,0,none⟩ (.slice (some ⟨g,0,none⟩) N cp)→WF.cell? ⟨w.heap.size+1,0,none⟩=some (.slice (some ⟨g,0,none⟩) N cp)∧AnyP base cb bv n w (.returned (.agg #[.slice (some ⟨g,0,none⟩) N cp])) WF:=by
 have hn:=h.ne;have hO9:=h.row.put i e0 f he;rw[←h9]at hO9;have hc9:Chg (fun k=>k=g) wr W9:=by rw[h9];exact((((((Chg.of_set (S:=fun k=>k=g) _ _ _ _ rfl).trans (Chg.of_set (S:=fun k=>k=g) _ _ _ _ rfl)).trans (Chg.of_set (S:=fun k=>k=g) _ _ _ _ rfl)).trans (Chg.of_set (S:=fun k=>k=g) _ _ _ _ rfl)).trans (Chg.of_set (S:=fun k=>k=g) _ _ _ _ rfl)).trans (Chg.of_set (S:=fun k=>k=g) _ _ _ _ rfl)).trans (Chg.of_set (S:=fun k=>k=g) _ _ _ _ rfl)
 have hr9:=h.res.chg hc9 (by omega);have hd9:DInv base cb bv n w W9:=by have hlt:=h.d.lt;have hbb:=h.d.hb;exact⟨h.d.d.chg hc9 (by omega) (fun k q=>by omega),⟨hc9.os.trans h.d.c.os,hc9.tape.trans h.d.c.tape,hc9.output.trans h.d.c.output,Nat.le_trans h.d.c.size hc9.size,fun k hk hnk=>(hc9.block k (Nat.lt_of_lt_of_le hk h.d.c.size) (by omega)).trans (h.d.c.block k hk hnk)⟩,hlt,hbb⟩
 refine⟨hr9,fun N WF hN hWF=>?_⟩;subst hN;have hcF:Chg (fun k=>k=w.heap.size+1) W9 WF:=by rw[hWF];exact Chg.of_set _ _ _ _ rfl
 have hOF:=hO9.chg hcF (by omega);refine⟨by rw[hWF];exact(hr9.set 0 (.slice (some ⟨g,0,none⟩) xs.length cp)).cell (j:=0) rfl,g,0,cp,xs.set i f,by rw[List.length_set],by rw[List.length_set];omega,fun e he=>?_,hOF.at,⟨by have:=hOF.lt.1;omega,hOF.lt.2⟩,by have h8:=hOF.caps;exact h8,?_⟩
 ·rcases List.mem_or_eq_of_mem_set he with q|q
  ·exact hx e q
  ·rw[q];exact h.ok
 ·rw[hWF];exact hd9.grow (yBf W9 (w.heap.size+1) 0 _) (fun k q=>by cases q;omega)
variable {b:Nat}
theorem yWx (h:yAy w b 0 xs):yAy w b 7 (xs.drop 1):=by intro i e he;rw[List.getElem?_drop]at he;have:=h (1+i) e he;rw[show 0+(1+i)*7=7+i*7 by omega]at this;exact this
theorem SpJ.cut {g:Nat} (h:SpJ base cb bv n w eb g cp xs f wr) (ys:List Nd) (o m c:Nat) (hy:yAy wr g o ys) (hok:∀e∈ys,e.ok) (hm:m=ys.length) (hl:m≤1001∧m≤c) (hc:c≤maxLen) (WF:World) (hWF:WF=wr.setCell ⟨w.heap.size+1,0,none⟩ (.slice (some ⟨g,o,none⟩) m c)):
  WF.cell? ⟨w.heap.size+1,0,none⟩=some (.slice (some ⟨g,o,none⟩) m c)∧AnyP base cb bv n w (.returned (.agg #[.slice (some ⟨g,o,none⟩) m c])) WF:=by
 subst hm;have hn:=h.ne;have hgl:=h.row.lt.2;have hcF:Chg (fun k=>k=w.heap.size+1) wr WF:=by rw[hWF];exact Chg.of_set _ _ _ _ rfl
 refine⟨by rw[hWF];exact(h.res.set 0 (.slice (some ⟨g,o,none⟩) ys.length c)).cell (j:=0) rfl,g,o,c,ys,rfl,hl.1,hok,fun i e he=>?_,⟨by omega,Nat.lt_of_lt_of_le hgl hcF.size⟩,⟨hl.2,hc⟩,by rw[hWF];exact h.d.grow (yBf wr (w.heap.size+1) 0 _) (fun k q=>by cases q;omega)⟩;obtain⟨e0,e1,e2,e3,e4,e5,e6⟩:=hy i e he;exact⟨(hcF.cell (p:=⟨g,o+i*7,none⟩) hgl (by show¬g=_;omega)).trans e0,(hcF.cell (p:=⟨g,o+i*7+1,none⟩) hgl (by show¬g=_;omega)).trans e1,(hcF.cell (p:=⟨g,o+i*7+2,none⟩) hgl (by show¬g=_;omega)).trans e2,(hcF.cell (p:=⟨g,o+i*7+3,none⟩) hgl (by show¬g=_;omega)).trans e3,(hcF.cell (p:=⟨g,o+i*7+4,none⟩) hgl (by show¬g=_;omega)).trans e4,(hcF.cell (p:=⟨g,o+i*7+5,none⟩) hgl (by show¬g=_;omega)).trans e5,(hcF.cell (p:=⟨g,o+i*7+6,none⟩) hgl (by show¬g=_;omega)).trans e6⟩
theorem yK4 (base cb:Nat) (bv:Value) (n:Nat) (w:World) (h:yAf base cb bv n w) {b0 g:Nat} (hO:yAm w b0 g cp xs) (hs:∀e∈xs,e.small) (hl:xs.length≤1000) (h0:0<xs.length):
  Calls Tryz.prog 80 #[.pointer (some ⟨cb,0,none⟩),.agg #[.slice (some ⟨g,0,none⟩) xs.length cp]] w (AnyP base cb bv n w):=by
 have HX:Hid (yAm w b0 g cp xs∧(∀e∈xs,e.small)):=⟨hO,hs⟩;obtain⟨N,hN⟩:=qE xs.length;have HN:Hid (N=xs.length):=hN;rw[←hN]at hl h0⊢;have hcp:cp≤9223372036854775807:=by have:=hO.caps;unfold maxLen at this;omega
 have hNc:N≤cp:=by have:=hO.caps;omega
 obtain⟨W0,hW0⟩:=qE ((w.alloc (Obj.cells #[.slice (some ⟨g,0,none⟩) N cp] 32)).alloc (Obj.cells #[.slice none 0 0] 32):World);have hz0:W0.heap.size=w.heap.size+1+1:=by rw[hW0];simp
 have H0:Hid (DInv base cb bv n w W0∧yA W0 w.heap.size 32 1 w.heap.size [.slice (some ⟨g,0,none⟩) N cp]∧yA W0 w.heap.size 32 1 (w.heap.size+1) [.slice none 0 0]∧yAm W0 b0 g cp xs):=by
  have b1:=yAa w (base:=w.heap.size) (t:=32) (sz:=1) #[.slice (some ⟨g,0,none⟩) N cp] (Nat.le_refl _) rfl;obtain⟨X,hX⟩:=qE (w.alloc (Obj.cells #[.slice (some ⟨g,0,none⟩) N cp] 32));rw[←hX]at b1 hW0;have zx:X.heap.size=w.heap.size+1:=by rw[hX];simp
  have k1:Below w.heap.size w X:=by rw[hX];exact qB
  have k2:Below X.heap.size X W0:=by rw[hW0];exact qB
  have b2:=yAa X (base:=w.heap.size) (t:=32) (sz:=1) #[.slice none 0 0] (by omega) rfl;rw[←hW0,zx]at b2;exact⟨((DInv.start h).below k1).below k2,b1.below k2,b2,(hO.below k1 hO.lt.2).below k2 (by have:=hO.lt.2;omega)⟩
 clear h hO hs hN;have hNb:((N:Int)==0)=false:=by rw[beq_eq_false_iff_ne];omega
 have c0:=H0.2.1.cell (j:=0) rfl;go_enter Tryz.func80,Tryz.ntmps80;go_upto_region 1 with fail;rw[←hW0];clear hW0;obtain⟨W1,hW1⟩:=qE (W0.alloc (Obj.cells #[] 75):World);have HW1:Hid (Below W0.heap.size W0 W1∧yAm W1 w.heap.size W0.heap.size 0 []∧W1=W0.alloc (Obj.cells #[] 75)):=⟨by rw[hW1];exact qB,by rw[hW1];exact yB8 W0 w.heap.size [] #[] rfl (by omega) (by decide),hW1⟩;clear hW1;have HZ:Hid (W0.heap.size=w.heap.size+1+1):=hz0;clear hz0;go_upto_region 3 with fail;clear c0;have c1:(W0.alloc (Obj.cells #[] 75)).cell? ⟨w.heap.size,0,none⟩=some (.slice (some ⟨g,0,none⟩) N cp):=by rw[←HW1.2.2];exact(H0.2.1.below HW1.1).cell (j:=0) rfl
 go_wp2_with (at_builtin;rw[←HW1.2.2];refine yAi _ rfl _ _ rfl w.heap.size W0.heap.size 0 0 g 0 N cp [] xs rfl rfl rfl HN.out HW1.2.1 (H0.2.2.2.below HW1.1 H0.2.2.2.lt.2).at ?hl ?hb ?_);case hl=>rw[←HN.out];simp;omega
 case hb=>have h1:=HW1.1.size;have h2:=HZ.out;omega
 intro g5 c5 w5 hO5 hgr5 hat5;have H5:Hid (DInv base cb bv n w w5∧yAm w5 w.heap.size g5 c5 xs∧yA w5 w.heap.size 32 1 (w.heap.size+1) [.slice none 0 0]∧w.heap.size+1<g5):=by
  have hz:=HZ.out;have hc5:Chg (fun k=>k=W0.heap.size) W1 w5:=Chg.of_grown hgr5 (fun k q=>by cases q;rfl);refine⟨(H0.1.below HW1.1).grow hgr5 (fun k q=>by cases q;omega),by simpa using hO5,(H0.2.2.1.below HW1.1).chg hc5 (by omega),?_⟩;rcases hat5 with q|q
  ·omega
  ·have:=HW1.1.size;omega
 have hg5:=H5.2.1.lt;have hc5:N≤c5∧c5≤9223372036854775807:=by have:=H5.2.1.caps;unfold maxLen at this;have:=HN.out;omega
 clear hO5 hgr5 hat5 c1;try simp only[Nat.zero_add]
 go_wp2_with fail;refine(yAl base cb bv n (N:Int) _ H5.1.d (by omega) (by omega)).mono ?_;rintro e w6 ⟨ii,rfl,hi0,hi1,hd6⟩;obtain⟨i,rfl⟩:∃k:Nat,ii=(k:Int):=⟨ii.toNat,by omega⟩;have hiN:i<N:=by omega
 obtain⟨f,hf⟩:∃f,xs[i]?=some f:=⟨_,List.getElem?_eq_getElem (by have:=HN.out;omega)⟩;have H6:Hid (DInv base cb bv n w w6∧yAm w6 w.heap.size g5 c5 xs∧yA w6 w.heap.size 32 1 (w.heap.size+1) [.slice none 0 0]∧xs[i]?=some f):=by have hcl:=H5.1.lt;exact⟨H5.1.call hd6,H5.2.1.chg hd6.2 (by omega),H5.2.2.1.chg hd6.2 (by omega),hf⟩
 have hs6:=hd6.2.size;obtain⟨d0,d1,d2,d3,d4,d5,d6⟩:=H6.2.1.at i f hf;simp only[Nat.zero_add]at d0 d1 d2 d3 d4 d5 d6;clear hd6 hf;obtain⟨eb,heb⟩:=qE w6.heap.size;obtain⟨W7,hW7⟩:=qE (w6.alloc (Obj.cells #[.int .i64 f.kind,.string f.s,.bool f.hi,.string f.t,.int .u64 f.lo,.int .u64 f.up,.int .i64 f.n] 75):World);have H7:Hid (SpJ base cb bv n w eb g5 c5 xs f W7):=by
  have k7:Below w6.heap.size w6 W7:=by rw[hW7];exact qB
  have b7:yA W7 w.heap.size 75 7 eb f.seven:=by rw[hW7,heb];exact yAa w6 #[.int .i64 f.kind,.string f.s,.bool f.hi,.string f.t,.int .u64 f.lo,.int .u64 f.up,.int .i64 f.n] H6.1.c.size rfl
  exact⟨H6.2.1.below k7 H6.2.1.lt.2,b7,H6.2.2.1.below k7,H6.1.below k7,⟨by omega,H5.2.2.2,by have:=H6.2.2.1.lt.2;omega⟩,(HX.2 f (List.mem_of_getElem? H6.2.2.2)).ok⟩
 have HSm:Hid (f.small∧xs[i]?=some f):=⟨HX.2 f (List.mem_of_getElem? H6.2.2.2),H6.2.2.2⟩;go_upto_region 6 with fail;rw[←hW7,←heb];clear hW7 heb d0 d1 d2 d3 d4 d5 d6 H6 H5 H0 HW1;go_wp2_with fail;refine(yAl base cb bv n 10 _ H7.d.d (by omega) (by omega)).mono ?_;rintro e w8 ⟨x,rfl,hx0,hx1,hd8⟩;have H8:Hid (SpJ base cb bv n w eb g5 c5 xs f w8):=H7.call hd8;clear hd8 H7;by_cases x0:x=0
 ·subst x0;go_wp2_with fail;refine(yAl base cb bv n 18 _ H8.d.d (by omega) (by omega)).mono ?_;rintro e w9 ⟨q,rfl,hq0,hq1,hd9⟩;have H9:Hid (SpJ base cb bv n w eb g5 c5 xs f w9):=H8.call hd9;clear hd9;have z1:=H9.e.cell (j:=0) rfl;have z2:=H9.e.frozen 0;obtain⟨WA,hWA⟩:=qE (w9.setCell ⟨eb,0,none⟩ (.int .i64 q):World);have HA:Hid (SpJ base cb bv n w eb g5 c5 xs (⟨q,f.s,f.hi,f.t,f.lo,f.up,f.n⟩:Nd) WA):=by rw[hWA];exact H9.set 0 _ _ rfl ⟨H8.ok.s,H8.ok.t,(yTd (x:=q) ⟨hq0,by omega⟩),H8.ok.lo,H8.ok.up,H8.ok.n⟩
  go_upto_region 27 with fail;rw[←hWA];clear hWA z1 z2;obtain⟨k0,k1,k2,k3,k4,k5,k6⟩:=HA.e.c7;simp only at k0 k1 k2 k3 k4 k5 k6;obtain⟨d0,d1,d2,d3,d4,d5,d6⟩:=HA.row.at i _ HSm.2;simp only[Nat.zero_add]at d0 d1 d2 d3 d4 d5 d6;have hfz:=fun j=>World.ownsRow.frozenAt HA.row j;obtain⟨WP,hWP⟩:=qE ((((((((WA.setCell ⟨g5,i*7,none⟩ (.int .i64 q)).setCell ⟨g5,i*7+1,none⟩ (.string f.s)).setCell ⟨g5,i*7+2,none⟩ (.bool f.hi)).setCell ⟨g5,i*7+3,none⟩ (.string f.t)).setCell ⟨g5,i*7+4,none⟩ (.int .u64 f.lo)).setCell ⟨g5,i*7+5,none⟩ (.int .u64 f.up)).setCell ⟨g5,i*7+6,none⟩ (.int .i64 f.n)):World);exact zzQ6
 by_cases x1:x=1
 ·subst x1;have z1:=H8.e.cell (j:=1) rfl;have z2:=H8.e.frozen 1;obtain⟨WA,hWA⟩:=qE (w8.setCell ⟨eb,1,none⟩ (.string ⟨#[40,97]⟩):World);have HA:Hid (SpJ base cb bv n w eb g5 c5 xs (⟨f.kind,⟨#[40,97]⟩,f.hi,f.t,f.lo,f.up,f.n⟩:Nd) WA):=by rw[hWA];exact H8.set 1 _ _ rfl ⟨(by show(2:Nat)≤maxLen;decide),H8.ok.t,H8.ok.kind,H8.ok.lo,H8.ok.up,H8.ok.n⟩
  go_upto_region 27 with fail;rw[←hWA];clear hWA z1 z2;obtain⟨k0,k1,k2,k3,k4,k5,k6⟩:=HA.e.c7;simp only at k0 k1 k2 k3 k4 k5 k6;obtain⟨d0,d1,d2,d3,d4,d5,d6⟩:=HA.row.at i _ HSm.2;simp only[Nat.zero_add]at d0 d1 d2 d3 d4 d5 d6;have hfz:=fun j=>World.ownsRow.frozenAt HA.row j;obtain⟨WP,hWP⟩:=qE ((((((((WA.setCell ⟨g5,i*7,none⟩ (.int .i64 f.kind)).setCell ⟨g5,i*7+1,none⟩ (.string ⟨#[40,97]⟩)).setCell ⟨g5,i*7+2,none⟩ (.bool f.hi)).setCell ⟨g5,i*7+3,none⟩ (.string f.t)).setCell ⟨g5,i*7+4,none⟩ (.int .u64 f.lo)).setCell ⟨g5,i*7+5,none⟩ (.int .u64 f.up)).setCell ⟨g5,i*7+6,none⟩ (.int .i64 f.n)):World);exact zzQ6
 by_cases x2:x=2
 ·subst x2;have hfn:=HSm.1.n;have z1:=H8.e.cell (j:=6) rfl;have z2:=H8.e.frozen 6;obtain⟨WA,hWA⟩:=qE (w8.setCell ⟨eb,6,none⟩ (.int .i64 (f.n+1000)):World);have HA:Hid (SpJ base cb bv n w eb g5 c5 xs (⟨f.kind,f.s,f.hi,f.t,f.lo,f.up,(f.n+1000)⟩:Nd) WA):=by rw[hWA];exact H8.set 6 _ _ rfl ⟨H8.ok.s,H8.ok.t,H8.ok.kind,H8.ok.lo,H8.ok.up,(wf_n hfn)⟩
  go_upto_region 27 with fail;rw[←hWA];clear hWA z1 z2;obtain⟨k0,k1,k2,k3,k4,k5,k6⟩:=HA.e.c7;simp only at k0 k1 k2 k3 k4 k5 k6;obtain⟨d0,d1,d2,d3,d4,d5,d6⟩:=HA.row.at i _ HSm.2;simp only[Nat.zero_add]at d0 d1 d2 d3 d4 d5 d6;have hfz:=fun j=>World.ownsRow.frozenAt HA.row j;obtain⟨WP,hWP⟩:=qE ((((((((WA.setCell ⟨g5,i*7,none⟩ (.int .i64 f.kind)).setCell ⟨g5,i*7+1,none⟩ (.string f.s)).setCell ⟨g5,i*7+2,none⟩ (.bool f.hi)).setCell ⟨g5,i*7+3,none⟩ (.string f.t)).setCell ⟨g5,i*7+4,none⟩ (.int .u64 f.lo)).setCell ⟨g5,i*7+5,none⟩ (.int .u64 f.up)).setCell ⟨g5,i*7+6,none⟩ (.int .i64 (f.n+1000))):World);exact zzQ6
 by_cases x3:x=3
 ·subst x3;have z1:=H8.e.cell (j:=2) rfl;have z2:=H8.e.frozen 2;obtain⟨WA,hWA⟩:=qE (w8.setCell ⟨eb,2,none⟩ (.bool (!f.hi)):World);have HA:Hid (SpJ base cb bv n w eb g5 c5 xs (⟨f.kind,f.s,(!f.hi),f.t,f.lo,f.up,f.n⟩:Nd) WA):=by rw[hWA];exact H8.set 2 _ _ rfl ⟨H8.ok.s,H8.ok.t,H8.ok.kind,H8.ok.lo,H8.ok.up,H8.ok.n⟩
  go_upto_region 27 with fail;rw[←hWA];clear hWA z1 z2;obtain⟨k0,k1,k2,k3,k4,k5,k6⟩:=HA.e.c7;simp only at k0 k1 k2 k3 k4 k5 k6;obtain⟨d0,d1,d2,d3,d4,d5,d6⟩:=HA.row.at i _ HSm.2;simp only[Nat.zero_add]at d0 d1 d2 d3 d4 d5 d6;have hfz:=fun j=>World.ownsRow.frozenAt HA.row j;obtain⟨WP,hWP⟩:=qE ((((((((WA.setCell ⟨g5,i*7,none⟩ (.int .i64 f.kind)).setCell ⟨g5,i*7+1,none⟩ (.string f.s)).setCell ⟨g5,i*7+2,none⟩ (.bool (!f.hi))).setCell ⟨g5,i*7+3,none⟩ (.string f.t)).setCell ⟨g5,i*7+4,none⟩ (.int .u64 f.lo)).setCell ⟨g5,i*7+5,none⟩ (.int .u64 f.up)).setCell ⟨g5,i*7+6,none⟩ (.int .i64 f.n)):World);exact zzQ6
 by_cases x4:x=4
 ·subst x4;have z3:=H8.e.cell (j:=4) rfl;have z1:=H8.e.cell (j:=5) rfl;have z2:=H8.e.frozen 5;obtain⟨WA,hWA⟩:=qE (w8.setCell ⟨eb,5,none⟩ (.int .u64 f.lo):World);have HA:Hid (SpJ base cb bv n w eb g5 c5 xs (⟨f.kind,f.s,f.hi,f.t,f.lo,f.lo,f.n⟩:Nd) WA):=by rw[hWA];exact H8.set 5 _ _ rfl ⟨H8.ok.s,H8.ok.t,H8.ok.kind,H8.ok.lo,H8.ok.lo,H8.ok.n⟩
  go_upto_region 27 with fail;rw[←hWA];clear hWA z1 z2 z3;obtain⟨k0,k1,k2,k3,k4,k5,k6⟩:=HA.e.c7;simp only at k0 k1 k2 k3 k4 k5 k6;obtain⟨d0,d1,d2,d3,d4,d5,d6⟩:=HA.row.at i _ HSm.2;simp only[Nat.zero_add]at d0 d1 d2 d3 d4 d5 d6;have hfz:=fun j=>World.ownsRow.frozenAt HA.row j;obtain⟨WP,hWP⟩:=qE ((((((((WA.setCell ⟨g5,i*7,none⟩ (.int .i64 f.kind)).setCell ⟨g5,i*7+1,none⟩ (.string f.s)).setCell ⟨g5,i*7+2,none⟩ (.bool f.hi)).setCell ⟨g5,i*7+3,none⟩ (.string f.t)).setCell ⟨g5,i*7+4,none⟩ (.int .u64 f.lo)).setCell ⟨g5,i*7+5,none⟩ (.int .u64 f.lo)).setCell ⟨g5,i*7+6,none⟩ (.int .i64 f.n)):World);exact zzQ6
 by_cases x5:x=5
 ·subst x5;have z3:=H8.e.cell (j:=1) rfl;have z1:=H8.e.cell (j:=3) rfl;have z2:=H8.e.frozen 3;obtain⟨WA,hWA⟩:=qE (w8.setCell ⟨eb,3,none⟩ (.string f.s):World);have HA:Hid (SpJ base cb bv n w eb g5 c5 xs (⟨f.kind,f.s,f.hi,f.s,f.lo,f.up,f.n⟩:Nd) WA):=by rw[hWA];exact H8.set 3 _ _ rfl ⟨H8.ok.s,H8.ok.s,H8.ok.kind,H8.ok.lo,H8.ok.up,H8.ok.n⟩
  go_upto_region 27 with fail;rw[←hWA];clear hWA z1 z2 z3;obtain⟨k0,k1,k2,k3,k4,k5,k6⟩:=HA.e.c7;simp only at k0 k1 k2 k3 k4 k5 k6;obtain⟨d0,d1,d2,d3,d4,d5,d6⟩:=HA.row.at i _ HSm.2;simp only[Nat.zero_add]at d0 d1 d2 d3 d4 d5 d6;have hfz:=fun j=>World.ownsRow.frozenAt HA.row j;obtain⟨WP,hWP⟩:=qE ((((((((WA.setCell ⟨g5,i*7,none⟩ (.int .i64 f.kind)).setCell ⟨g5,i*7+1,none⟩ (.string f.s)).setCell ⟨g5,i*7+2,none⟩ (.bool f.hi)).setCell ⟨g5,i*7+3,none⟩ (.string f.s)).setCell ⟨g5,i*7+4,none⟩ (.int .u64 f.lo)).setCell ⟨g5,i*7+5,none⟩ (.int .u64 f.up)).setCell ⟨g5,i*7+6,none⟩ (.int .i64 f.n)):World);exact zzQ6
 by_cases x6:x=6
 ·subst x6;have r0:=H8.res.cell (j:=0) rfl;have rf:=H8.res.frozen 0;go_upto_region 20 with fail;by_cases hc1:c5=1
  ·obtain rfl:N=1:=by omega
   subst hc1;obtain⟨WF,hWF⟩:=qE (w8.setCell ⟨w.heap.size+1,0,none⟩ (.slice (some ⟨g5,0,none⟩) 0 0):World);have HR:Hid (WF.cell? ⟨w.heap.size+1,0,none⟩=some (.slice (some ⟨g5,0,none⟩) 0 0)∧AnyP base cb bv n w (.returned (.agg #[.slice (some ⟨g5,0,none⟩) 0 0])) WF):=H8.cut [] 0 0 0 (fun i e he=>by simp at he) (fun e he=>by simp at he) rfl (by omega) (by omega) WF hWF;exact yYp
  ·have zc:¬((c5:Int)-1=0):=by omega
   obtain⟨WF,hWF⟩:=qE (w8.setCell ⟨w.heap.size+1,0,none⟩ (.slice (some ⟨g5,7,none⟩) (N-1) (c5-1)):World);have HR:Hid (WF.cell? ⟨w.heap.size+1,0,none⟩=some (.slice (some ⟨g5,7,none⟩) (N-1) (c5-1))∧AnyP base cb bv n w (.returned (.agg #[.slice (some ⟨g5,7,none⟩) (N-1) (c5-1)])) WF):=H8.cut (xs.drop 1) 7 (N-1) (c5-1) (yWx H8.row.at) (fun e he=>(HX.2 e (List.mem_of_mem_drop he)).ok) (by rw[List.length_drop,←HN.out]) (by omega) (by unfold maxLen;omega) WF hWF;exact yYp
 by_cases x7:x=7
 ·subst x7;obtain⟨f0,hf0⟩:∃f0,xs[0]?=some f0:=⟨_,List.getElem?_eq_getElem (by have:=HN.out;omega)⟩;obtain⟨d0,d1,d2,d3,d4,d5,d6⟩:=H8.row.at 0 f0 hf0;simp only[Nat.zero_add,Nat.zero_mul]at d0 d1 d2 d3 d4 d5 d6;have HF0:Hid (f0.ok):=(HX.2 f0 (List.mem_of_getElem? hf0)).ok;clear hf0;obtain⟨WX,hWX⟩:=qE (w8.alloc (Obj.cells #[.int .i64 f0.kind,.string f0.s,.bool f0.hi,.string f0.t,.int .u64 f0.lo,.int .u64 f0.up,.int .i64 f0.n] 75):World);have HWX:Hid (Below w8.heap.size w8 WX∧yAy WX w8.heap.size 0 [f0]∧WX=w8.alloc (Obj.cells #[.int .i64 f0.kind,.string f0.s,.bool f0.hi,.string f0.t,.int .u64 f0.lo,.int .u64 f0.up,.int .i64 f0.n] 75)):=⟨by rw[hWX];exact qB,by rw[hWX];exact(yDa w8 w.heap.size f0 H8.d.c.size).at,hWX⟩;clear hWX;go_wp2_with (at_builtin;rw[←HWX.2.2];refine yAi _ rfl _ _ rfl w.heap.size g5 c5 N w8.heap.size 0 1 1 xs [f0] rfl rfl HN.out rfl (H8.row.below HWX.1 H8.row.lt.2) HWX.2.1 ?hl7 ?hb7 ?_);case hl7=>rw[←HN.out];simp;omega
  case hb7=>have h1:=H8.d.c.size;have h2:=HWX.1.size;omega
  intro g9 c9 w9 hO9 hgr9 hat9;have H9:Hid (yAm w9 w.heap.size g9 c9 (xs++ [f0])∧DInv base cb bv n w w9∧yA w9 w.heap.size 32 1 (w.heap.size+1) [.slice none 0 0]∧w.heap.size+1<g9):=by have hz:=H8.d.c.size;have hz2:=HWX.1.size;have hne:=H8.ne;have hrl:=H8.res.lt.2;have hc9:Chg (fun k=>k=g5) WX w9:=Chg.of_grown hgr9 (fun k q=>by cases q;rfl);refine⟨hO9,(H8.d.below HWX.1).grow hgr9 (fun k q=>by cases q;omega),(H8.res.below HWX.1).chg hc9 (by omega),?_⟩;rcases hat9 with q|q<;>omega
  clear hO9 hgr9 hat9 d0 d1 d2 d3 d4 d5 d6;obtain⟨WF,hWF⟩:=qE (w9.setCell ⟨w.heap.size+1,0,none⟩ (.slice (some ⟨g9,0,none⟩) (N+1) c9):World);have HR:Hid (WF.cell? ⟨w.heap.size+1,0,none⟩=some (.slice (some ⟨g9,0,none⟩) (N+1) c9)∧AnyP base cb bv n w (.returned (.agg #[.slice (some ⟨g9,0,none⟩) (N+1) c9])) WF):=by
   have hl9:(xs++ [f0]).length=N+1:=by rw[List.length_append,←HN.out];rfl
   have hcF:Chg (fun k=>k=w.heap.size+1) w9 WF:=by rw[hWF];exact Chg.of_set _ _ _ _ rfl
   have hgl:=H9.2.2.2;have hOF:=H9.1.chg hcF (by omega);refine⟨by rw[hWF];exact(H9.2.2.1.set 0 (.slice (some ⟨g9,0,none⟩) (N+1) c9)).cell (j:=0) rfl,g9,0,c9,xs++ [f0],by rw[hl9],by rw[hl9];omega,fun e he=>?_,hOF.at,hOF.lt,hOF.caps,by rw[hWF];exact H9.2.1.grow (yBf w9 (w.heap.size+1) 0 _) (fun k q=>by cases q;omega)⟩;rcases List.mem_append.1 he with q|q
   ·exact(HX.2 e q).ok
   ·simp at q;subst q;exact HF0.out
  have r0:=H9.2.2.1.cell (j:=0) rfl;have rf:=H9.2.2.1.frozen 0;exact yYp
 by_cases x8:x=8
 ·subst x8;go_wp2_with fail;refine(yJs 97 201 w8 (by omega)).mono ?_;rintro e w9 ⟨q,rfl,hq,hb9⟩;have H9:Hid (SpJ base cb bv n w eb g5 c5 xs f w9):=H8.below hb9;clear hb9;have z1:=H9.e.cell (j:=1) rfl;have z2:=H9.e.frozen 1;obtain⟨WA,hWA⟩:=qE (w9.setCell ⟨eb,1,none⟩ (.string q):World);have HA:Hid (SpJ base cb bv n w eb g5 c5 xs (⟨f.kind,q,f.hi,f.t,f.lo,f.up,f.n⟩:Nd) WA):=by rw[hWA];exact H9.set 1 _ _ rfl ⟨(Nat.le_trans hq (by decide)),H8.ok.t,H8.ok.kind,H8.ok.lo,H8.ok.up,H8.ok.n⟩
  go_upto_region 27 with fail;rw[←hWA];clear hWA z1 z2;obtain⟨k0,k1,k2,k3,k4,k5,k6⟩:=HA.e.c7;simp only at k0 k1 k2 k3 k4 k5 k6;obtain⟨d0,d1,d2,d3,d4,d5,d6⟩:=HA.row.at i _ HSm.2;simp only[Nat.zero_add]at d0 d1 d2 d3 d4 d5 d6;have hfz:=fun j=>World.ownsRow.frozenAt HA.row j;obtain⟨WP,hWP⟩:=qE ((((((((WA.setCell ⟨g5,i*7,none⟩ (.int .i64 f.kind)).setCell ⟨g5,i*7+1,none⟩ (.string q)).setCell ⟨g5,i*7+2,none⟩ (.bool f.hi)).setCell ⟨g5,i*7+3,none⟩ (.string f.t)).setCell ⟨g5,i*7+4,none⟩ (.int .u64 f.lo)).setCell ⟨g5,i*7+5,none⟩ (.int .u64 f.up)).setCell ⟨g5,i*7+6,none⟩ (.int .i64 f.n)):World);exact zzQ6
 ·obtain rfl:x=9:=by omega
  have z1:=H8.e.cell (j:=6) rfl;have z2:=H8.e.frozen 6;obtain⟨WA,hWA⟩:=qE (w8.setCell ⟨eb,6,none⟩ (.int .i64 0):World);have HA:Hid (SpJ base cb bv n w eb g5 c5 xs (⟨f.kind,f.s,f.hi,f.t,f.lo,f.up,0⟩:Nd) WA):=by rw[hWA];exact H8.set 6 _ _ rfl ⟨H8.ok.s,H8.ok.t,H8.ok.kind,H8.ok.lo,H8.ok.up,(by show(Lit.int .i64 0).wf=true;decide)⟩
  go_upto_region 27 with fail;rw[←hWA];clear hWA z1 z2;obtain⟨k0,k1,k2,k3,k4,k5,k6⟩:=HA.e.c7;simp only at k0 k1 k2 k3 k4 k5 k6;obtain⟨d0,d1,d2,d3,d4,d5,d6⟩:=HA.row.at i _ HSm.2;simp only[Nat.zero_add]at d0 d1 d2 d3 d4 d5 d6;have hfz:=fun j=>World.ownsRow.frozenAt HA.row j;obtain⟨WP,hWP⟩:=qE ((((((((WA.setCell ⟨g5,i*7,none⟩ (.int .i64 f.kind)).setCell ⟨g5,i*7+1,none⟩ (.string f.s)).setCell ⟨g5,i*7+2,none⟩ (.bool f.hi)).setCell ⟨g5,i*7+3,none⟩ (.string f.t)).setCell ⟨g5,i*7+4,none⟩ (.int .u64 f.lo)).setCell ⟨g5,i*7+5,none⟩ (.int .u64 f.up)).setCell ⟨g5,i*7+6,none⟩ (.int .i64 0)):World);exact zzQ6
theorem yAy.chg {S:Nat→Prop} {off:Nat} {es:List Nd} (h:yAy w b off es) (hb:Chg S w w') (hlt:b<w.heap.size) (hn:¬S b):yAy w' b off es:=by
 intro i e he;have:=h i e he;refine⟨?_,?_,?_,?_,?_,?_,?_⟩;all_goals rw[hb.cell (by exact hlt) (by exact hn)]
 ·exact this.1
 ·exact this.2.1
 ·exact this.2.2.1
 ·exact this.2.2.2.1
 ·exact this.2.2.2.2.1
 ·exact this.2.2.2.2.2.1
 ·exact this.2.2.2.2.2.2
theorem yXy {y:List Nd} (h:yGo xs y):y≠ []:=by
 have gen:∀(n:Nat) {y xs:List Nd},xs.length≤n→yGo xs y→y≠ []:=by
  intro n;induction n with
  |zero=>
   intro y xs hn h;obtain⟨ys,e,os,rfl,_⟩:=TrV.inv _ h;simp at hn
  |succ n ih=>
   intro y xs hn h;obtain⟨ys,e,os,rfl,_,h2,rfl⟩:=TrV.inv _ h;obtain⟨ks,rfl,hK⟩:=TrV.kids _ h2;simp only[List.length_append,List.length_singleton]at hn;have hne:∀x∈os,x≠ []:=fun x hx=>by
    obtain⟨j,hj⟩:=List.getElem?_of_mem hx;have hjl:=(List.getElem?_eq_some_iff.1 hj).1;obtain⟨k,hk⟩:∃k,ks[j]?=some k:=⟨_,List.getElem?_eq_getElem (by have:=KidV.length _ hK;omega)⟩;obtain⟨x',hx',ht⟩:=KidV.nth _ hK hk;rw[hj]at hx';cases hx'
    have:=yD5 (List.mem_of_getElem? hk);exact ih (by omega) ht
   unfold normOf;split
   ·rename_i a b;repeat' split
    all_goals first|(simp;done)|exact hne _ (by simp)
   ·rename_i p a b;repeat' split
    all_goals first|(simp;done)|exact hne _ (by simp)
   ·simp
 exact gen _ (Nat.le_refl _) h
theorem DInv.trans {w2:World} (h:DInv base cb bv n w w1) (k:DInv base cb bv n w1 w2):DInv base cb bv n w w2:=⟨k.d,h.c.trans k.c,h.lt,h.hb⟩
variable {o:Nat} {ys:List Nd}
theorem AnyP.out {w1 w2:World} {rb c:Nat} (hd:DInv base cb bv n w w2) (hr:yA w2 w.heap.size 32 1 rb [.slice none 0 0]) (hb:b<w2.heap.size) (hw:w.heap.size≤b) (hne:¬b=rb) (hy:yAy w2 b o ys) (hok:∀e∈ys,e.ok) (hl:ys.length≤1001) (hc:ys.length≤c∧c≤maxLen) (N:Nat) (hN:N=ys.length) (WF:World) (hWF:WF=w2.setCell ⟨rb,0,none⟩ (.slice (some ⟨b,o,none⟩) N c)):
  WF.cell? ⟨rb,0,none⟩=some (.slice (some ⟨b,o,none⟩) N c)∧AnyP base cb bv n w (.returned (.agg #[.slice (some ⟨b,o,none⟩) N c])) WF:=by
 subst hN;have hcF:Chg (fun k=>k=rb) w2 WF:=by rw[hWF];exact Chg.of_set _ _ _ _ rfl
 refine⟨by rw[hWF];exact(hr.set 0 (.slice (some ⟨b,o,none⟩) ys.length c)).cell (j:=0) rfl,b,o,c,ys,rfl,hl,hok,hy.chg hcF hb hne,⟨hw,Nat.lt_of_lt_of_le hb hcF.size⟩,hc,?_⟩;rw[hWF];exact hd.grow (yBf w2 rb 0 _) (fun k q=>by cases q;exact hr.lt.1)
theorem yIj (base cb:Nat) (bv:Value) (n:Nat) (w:World) (h:yAf base cb bv n w):
  Calls Tryz.prog 42 #[.pointer (some ⟨cb,0,none⟩)] w (AnyP base cb bv n w):=by
 obtain⟨Wa,hWa⟩:=qE (w.alloc (Obj.cells #[.slice none 0 0] 32):World);have hba:Below w.heap.size w Wa:=by rw[hWa];exact qB
 have HA:Hid (DInv base cb bv n w Wa∧yA Wa w.heap.size 32 1 w.heap.size [.slice none 0 0]):=⟨(DInv.start h).below hba,by rw[hWa];exact yAa w #[.slice none 0 0] (Nat.le_refl _) rfl⟩;clear h hba;go_enter Tryz.func42,Tryz.ntmps42;go_wp2_with fail;rw[←hWa];clear hWa;refine(yA5 base cb bv n 20 _ HA.1.d (by omega) (by omega)).mono ?_;rintro e w1 ⟨v,rfl,hv,hd1⟩;have H1:Hid (DInv base cb bv n w w1∧yA w1 w.heap.size 32 1 w.heap.size [.slice none 0 0]):=⟨HA.1.call hd1,HA.2.chg hd1.2 (by have:=HA.1.lt;omega)⟩;clear hd1 HA;rcases hv with rfl|rfl
 ·go_wp2_with fail;refine(yK5 base cb bv n w1 H1.1.d).mono ?_;rintro e w2 hP;obtain⟨b,o,c,ys,rfl,hl,K2⟩:=hP.any (by omega);have H2:Hid (yA w2 w.heap.size 32 1 w.heap.size [.slice none 0 0]):=H1.2.chg K2.out.2.2.2.2.c (by have:=H1.1.lt;omega);obtain⟨N,hN⟩:=qE ys.length;have HN:Hid (N=ys.length):=hN;rw[←hN];obtain⟨WF,hWF⟩:=qE (w2.setCell ⟨w.heap.size,0,none⟩ (.slice (some ⟨b,o,none⟩) N c):World);have HR:Hid (WF.cell? ⟨w.heap.size,0,none⟩=some (.slice (some ⟨b,o,none⟩) N c)∧AnyP base cb bv n w (.returned (.agg #[.slice (some ⟨b,o,none⟩) N c])) WF):=by have hz:=H1.2.lt.2;have hb2:=K2.out.2.2.1;exact AnyP.out (w1:=w1) (H1.1.trans K2.out.2.2.2.2) H2.out hb2.2 (by omega) (by omega) K2.out.2.1 K2.out.1 hl K2.out.2.2.2.1 N hN WF hWF
  have r0:=H2.cell (j:=0) rfl;have rf:=H2.frozen 0;have p0:=HR.1;clear hN K2 hP;exact yYe
 ·go_wp2_with fail;refine(yFm base cb bv n w1 H1.1.d).mono ?_;rintro e w2 ⟨g,cp,xs,rfl,hl,h0,K2⟩;obtain⟨N,hN⟩:=qE xs.length;have HN:Hid (N=xs.length):=hN;rw[←hN]at hl h0⊢;obtain⟨tb,htb⟩:=qE w2.heap.size;obtain⟨W3,hW3⟩:=qE (w2.alloc (Obj.cells #[.slice (some ⟨g,0,none⟩) N cp] 32):World);have H3:Hid (DInv base cb bv n w W3∧yA W3 w.heap.size 32 1 w.heap.size [.slice none 0 0]∧yA W3 w.heap.size 32 1 tb [.slice (some ⟨g,0,none⟩) N cp]∧yAm W3 w1.heap.size g cp xs∧(w1.heap.size≤g∧g<tb∧w.heap.size<w1.heap.size)):=by
   have k3:Below w2.heap.size w2 W3:=by rw[hW3];exact qB
   have hd2:=H1.1.trans K2.out.2.2;have hz:=H1.2.lt.2;have hgl:=K2.out.2.1.lt;exact⟨hd2.below k3,(H1.2.chg K2.out.2.2.c (by have:=H1.1.lt;omega)).below k3,by rw[hW3,htb];exact yAa w2 #[.slice (some ⟨g,0,none⟩) N cp] hd2.c.size rfl,K2.out.2.1.below k3 hgl.2,hgl.1,by omega,hz⟩
  have HS:Hid (∀e∈xs,e.small):=K2.out.1;clear K2 hN;go_upto_region 4 with fail;rw[←hW3,←htb];clear hW3 htb;go_wp2_with fail;refine(yA5 base cb bv n 8 _ H3.1.d (by omega) (by omega)).mono ?_;rintro e w4 ⟨v,rfl,hv,hd4⟩;have H4:Hid (DInv base cb bv n w w4∧yA w4 w.heap.size 32 1 w.heap.size [.slice none 0 0]∧yA w4 w.heap.size 32 1 tb [.slice (some ⟨g,0,none⟩) N cp]∧yAm w4 w1.heap.size g cp xs∧(w1.heap.size≤g∧g<tb∧w.heap.size<w1.heap.size)∧tb<w4.heap.size):=by have hcl:=H3.1.lt;have hg:=H3.2.2.2.2;have htl:=H3.2.2.1.lt.2;have hz4:=hd4.2.size;exact⟨H3.1.call hd4,H3.2.1.chg hd4.2 (by omega),H3.2.2.1.chg hd4.2 (by omega),H3.2.2.2.1.chg hd4.2 (by omega),hg,by omega⟩
  clear hd4 H3;rcases hv with rfl|rfl
  ·have c4:=H4.2.2.1.cell (j:=0) rfl;have HSp:Hid (Calls Tryz.prog 80 #[.pointer (some ⟨cb,0,none⟩),.agg #[.slice (some ⟨g,0,none⟩) N cp]] w4 (AnyP base cb bv n w4)):=by have h9:=yK4 base cb bv n w4 H4.1.d H4.2.2.2.1 HS.out (by rw[←HN.out];omega) (by rw[←HN.out];exact h0);rw[←HN.out]at h9;exact h9
   go_wp2_with fail;refine HSp.mono ?_;rintro e w5 ⟨b,o,c,ys,rfl,hl5,K5⟩;obtain⟨M,hM⟩:=qE ys.length;have HM:Hid (M=ys.length):=hM;rw[←hM];obtain⟨W6,hW6⟩:=qE (w5.setCell ⟨tb,0,none⟩ (.slice (some ⟨b,o,none⟩) M c):World);have H5:Hid (yA w5 w.heap.size 32 1 tb [.slice (some ⟨g,0,none⟩) N cp]):=H4.2.2.1.chg K5.out.2.2.2.2.c (by have:=H4.1.lt;have:=H4.2.2.1.lt.1;omega);have H6:Hid (DInv base cb bv n w W6∧yA W6 w.heap.size 32 1 w.heap.size [.slice none 0 0]∧yA W6 w.heap.size 32 1 tb [.slice (some ⟨b,o,none⟩) M c]∧yAy W6 b o ys∧(w.heap.size<b∧b<W6.heap.size∧¬b=tb)):=by
    have hd5:=H4.1.trans K5.out.2.2.2.2;have hb5:=K5.out.2.2.1;have ht:=H4.2.2.2.2.2;have hg:=H4.2.2.2.2.1;have hcl:=H4.1.lt;have hc6:Chg (fun k=>k=tb) w5 W6:=by rw[hW6];exact Chg.of_set _ _ _ _ rfl
    refine⟨by rw[hW6];exact hd5.grow (yBf w5 tb 0 _) (fun k q=>by cases q;omega),(H4.2.1.chg K5.out.2.2.2.2.c (by omega)).chg hc6 (by omega),by rw[hW6];exact H5.set 0 _,K5.out.2.1.chg hc6 hb5.2 (by omega),by omega,Nat.lt_of_lt_of_le hb5.2 hc6.size,by omega⟩
   obtain⟨WF,hWF⟩:=qE (W6.setCell ⟨w.heap.size,0,none⟩ (.slice (some ⟨b,o,none⟩) M c):World);have HR:Hid (WF.cell? ⟨w.heap.size,0,none⟩=some (.slice (some ⟨b,o,none⟩) M c)∧AnyP base cb bv n w (.returned (.agg #[.slice (some ⟨b,o,none⟩) M c])) WF):=by have hb6:=H6.2.2.2.2;exact AnyP.out (w1:=w1) H6.1 H6.2.1 hb6.2.1 (by omega) (by omega) H6.2.2.2.1 K5.out.1 hl5 K5.out.2.2.2.1 M hM WF hWF
   have t0:=H5.cell (j:=0) rfl;have tf:=H5.frozen 0;clear hM K5 c4 HSp;go_upto_region 6 with fail;rw[←hW6];clear hW6 t0 tf;have t6:=H6.2.2.1.cell (j:=0) rfl;have r0:=H6.2.1.cell (j:=0) rfl;have rf:=H6.2.1.frozen 0;have p0:=HR.1;exact yYe
  ·obtain⟨WF,hWF⟩:=qE (w4.setCell ⟨w.heap.size,0,none⟩ (.slice (some ⟨g,0,none⟩) N cp):World);have HR:Hid (WF.cell? ⟨w.heap.size,0,none⟩=some (.slice (some ⟨g,0,none⟩) N cp)∧AnyP base cb bv n w (.returned (.agg #[.slice (some ⟨g,0,none⟩) N cp])) WF):=by have hg:=H4.2.2.2.2.1;exact AnyP.out (w1:=w1) H4.1 H4.2.1 H4.2.2.2.1.lt.2 (by omega) (by omega) H4.2.2.2.1.at (fun e he=>(HS.out e he).ok) (by rw[←HN.out];omega) H4.2.2.2.1.caps N HN.out WF hWF
   have t6:=H4.2.2.1.cell (j:=0) rfl;have r0:=H4.2.1.cell (j:=0) rfl;have rf:=H4.2.1.frozen 0;have p0:=HR.1;exact yYe
theorem yCv.slice (h:yCv w base bv n):∃a cap,bv=.slice a n cap:=by
 rcases h.2 with⟨a,cap,rfl,rfl⟩|⟨b,off,cap,rfl,_⟩
 ·exact⟨_,_,rfl⟩
 ·exact⟨_,_,rfl⟩
theorem yCv.up (h:yCv w w.heap.size bv n) (hb:Below w.heap.size w w'):yCv w' w'.heap.size bv n:=by
 refine⟨h.1,?_⟩;rcases h.2 with h|⟨b,off,cap,rfl,hlt,hc⟩
 ·exact .inl h
 ·refine .inr ⟨b,off,cap,rfl,by have:=hb.size;omega,fun k hk=>?_⟩;obtain⟨x,h1,h2⟩:=hc k hk;exact⟨x,by rw[hb.cell (p:=⟨b,off+k,none⟩) hlt];exact h1,h2⟩
def yDx (w:World) (v:Value) (n:Nat):Prop:=
 n≤maxLen∧((∃a cap,v=.slice a 0 cap∧n=0)∨∃b off cap,v=.slice (some ⟨b,off,none⟩) n cap∧b<w.heap.size∧∀k,k<n→∃x:Int,w.cell? ⟨b,off+k,none⟩=some (.int .u8 x)∧0≤x∧x<256)
theorem yDx.slice {v:Value} (h:yDx w v n):∃a cap,v=.slice a n cap:=by
 rcases h.2 with⟨a,cap,rfl,rfl⟩|⟨b,off,cap,rfl,_⟩
 ·exact⟨_,_,rfl⟩
 ·exact⟨_,_,rfl⟩
theorem yDx.code {v:Value} (h:yDx w v n) (hn:n≤1048576):yCv w w.heap.size v n:=⟨hn,h.2⟩
theorem yHk {H:Type} {enc:TypeId×Value→H} {fuel:Nat} {v:Value} {x:DataW H×List MemPlace}
  (h:DataW.trod enc Tryz.prog w 0 (fun _=>true) true fuel 40 [v]=some x) (hlt:∀p∈x.2,p.block<w.heap.size):∃n,yDx w v n:=by
 have hc:Tryz.prog.cellsOf 5=1:=by kernel_rfl
 rcases open_ints Tryz.underlying40 Tryz.underlying5 hc h with⟨hcs,hx⟩|⟨a,len,cap,zs,hcs,_,hl,hm,hz,hx,hcell,hwz⟩
 ·simp only[List.cons.injEq,and_true]at hcs;exact⟨0,Nat.zero_le _,.inl ⟨none,0,hcs,rfl⟩⟩
 ·simp only[List.cons.injEq,and_true]at hcs;simp only[if_true]at hz;refine⟨len,Nat.le_trans hl hm,?_⟩;by_cases h0:len=0
  ·subst h0;exact .inl ⟨some a,cap,hcs,rfl⟩
  ·obtain⟨ab,ao,spot⟩:=a;have hspot:spot=none:=by simpa [Addr.add]using World.cell?_spot (hcell 0 (by omega))
   subst hspot;refine .inr ⟨ab,ao,cap,hcs,?_,fun k hk=>?_⟩
   ·rw[hx]at hlt;exact hlt (.cell ab (ao+0)) (by simp only[MemPlace.row,List.mem_map,List.mem_range];exact⟨0,by omega,rfl⟩)
   ·have h1:=hcell k (by omega);rw[Addr.add_lit]at h1;have hb:=range_u8 hwz k;rw[List.getD_eq_getElem?_getD]at h1;exact⟨_,h1,hb.1,by omega⟩
theorem OwnC.put {g cap:Nat} {es:List Ent} (h:OwnC w base g cap es) (k:Nat) (f e:Ent) (hk:es[k]?=some f):
  OwnC (((((w.setCell ⟨g,k*5,none⟩ (.string e.row)).setCell ⟨g,k*5+1,none⟩ (.string e.fam)).setCell ⟨g,k*5+2,none⟩ (.string e.qual)).setCell ⟨g,k*5+3,none⟩ (.int .u64 e.ts)).setCell ⟨g,k*5+4,none⟩ (.string e.val)) base g cap (es.set k e):=by
 have hlt:k<es.length:=(List.getElem?_eq_some_iff.1 hk).1;have g1:=h.set k 0 f {f with row:=e.row} (.string e.row) hk (by omega) rfl;have g2:=g1.set k 1 {f with row:=e.row} {f with row:=e.row,fam:=e.fam} (.string e.fam) (by simp[hlt]) (by omega) rfl;have g3:=g2.set k 2 {f with row:=e.row,fam:=e.fam} {f with row:=e.row,fam:=e.fam,qual:=e.qual} (.string e.qual) (by simp[hlt]) (by omega) rfl;have g4:=g3.set k 3 {f with row:=e.row,fam:=e.fam,qual:=e.qual} {f with row:=e.row,fam:=e.fam,qual:=e.qual,ts:=e.ts} (.int .u64 e.ts) (by simp[hlt]) (by omega) rfl;have g5:=g4.set k 4 {f with row:=e.row,fam:=e.fam,qual:=e.qual,ts:=e.ts} e (.string e.val) (by simp[hlt]) (by omega) rfl;simpa only[List.set_set,Nat.add_zero]using g5
def DmeP (w:World) (e:Ending) (w':World):Prop:=∃(b o c:Nat) (ys:List Nd) (g cp:Nat) (L:List Ent),e=.returned (.tuple #[.agg #[.slice (some ⟨b,o,none⟩) ys.length c],.slice (some ⟨g,0,none⟩) L.length cp])∧ys.length≤1001∧L.length≤100∧Hid (((∀e∈ys,e.ok)∧yAy w' b o ys∧(w.heap.size≤b∧b<w'.heap.size)∧(ys.length≤c∧c≤maxLen))∧(OwnC w' w.heap.size g cp L∧(∀e∈L,e.ok)∧(∀e∈L,e.kind=0))∧Below w.heap.size w w')
structure DmI (base cb:Nat) (bv:Value) (n:Nat) (w w1:World) (tb b o c:Nat) (ys:List Nd) (wr:World):Prop where
 d:DInv base cb bv n w1 wr
 low:Below w.heap.size w w1
 cb_:w.heap.size<cb
 res:yA wr w.heap.size 32 1 w.heap.size [.slice none 0 0]
 var:yA wr w.heap.size 32 1 tb [.slice (some ⟨b,o,none⟩) ys.length c]
 nds:yAy wr b o ys
 blk:w1.heap.size≤b∧b<wr.heap.size∧¬b=tb
 tb_:w1.heap.size≤tb
 ok:∀e∈ys,e.ok
 len:ys.length≤1001
 cap:ys.length≤c∧c≤maxLen
variable {tb:Nat}
theorem DmI.call {c:Nat} (h:DmI base cb bv n w w1 tb b o c ys wr) (hd:DInv base cb bv n wr wx):DmI base cb bv n w w1 tb b o c ys wx:=by have h1:=h.d.lt;have h2:=h.low.size;have h3:=h.blk;have h4:=h.tb_;have h5:=h.cb_;exact⟨h.d.trans hd,h.low,h.cb_,h.res.chg hd.c (by omega),h.var.chg hd.c (by omega),h.nds.chg hd.c h3.2.1 (by omega),⟨h3.1,Nat.lt_of_lt_of_le h3.2.1 hd.c.size,h3.2.2⟩,h4,h.ok,h.len,h.cap⟩
theorem yVi (h:DInv base cb bv n w1 wr) (hl:Below w.heap.size w w1) (hc:w.heap.size<cb):Below w.heap.size w wr:=Chg.below hl h.c hl.size (fun k q=>by omega)
theorem DmI.fin {c:Nat} (h:DmI base cb bv n w w1 tb b o c ys wr) {gl cl:Nat} {L:List Ent} (hO:OwnC wr w1.heap.size gl cl L) (hl:L.length≤100) (hok:∀e∈L,e.ok) (hk:∀e∈L,e.kind=0) (M K:Nat) (hM:M=ys.length) (hK:K=L.length) (WF:World) (hWF:WF=wr.setCell ⟨w.heap.size,0,none⟩ (.slice (some ⟨b,o,none⟩) M c)):
  WF.cell? ⟨w.heap.size,0,none⟩=some (.slice (some ⟨b,o,none⟩) M c)∧DmeP w (.returned (.tuple #[.agg #[.slice (some ⟨b,o,none⟩) M c],.slice (some ⟨gl,0,none⟩) K cl])) WF:=by
 subst hM hK;have h2:=h.low.size;have h3:=h.blk;have hr:=h.res.lt;have hgl:=hO.lt;have hw1:w.heap.size<w1.heap.size:=by have:=h.d.lt;have:=h.cb_;omega
 have hcF:Chg (fun k=>k=w.heap.size) wr WF:=by rw[hWF];exact Chg.of_set _ _ _ _ rfl
 refine⟨by rw[hWF];exact(h.res.set 0 (.slice (some ⟨b,o,none⟩) ys.length c)).cell (j:=0) rfl,b,o,c,ys,gl,cl,L,rfl,h.len,hl,⟨h.ok,h.nds.chg hcF h3.2.1 (by omega),⟨by omega,Nat.lt_of_lt_of_le h3.2.1 hcF.size⟩,h.cap⟩,⟨yAp (hO.mono h2) hcF (fun k q z=>by simp[Value.ownBlock]at q;omega),hok,hk⟩,Chg.below (yVi h.d h.low h.cb_) hcF (yVi h.d h.low h.cb_).size (fun k q=>by omega)⟩
theorem DmI.copy {c:Nat} (h:DmI base cb bv n w w1 tb b o c ys wr) {gl cl:Nat} {L:List Ent} (hO:OwnC wr w1.heap.size gl cl L) (hg:b<gl∧tb<gl) {x0 x1:Ent} (hx:L[0]?=some x0) (W9:World) (h9:W9=(((((wr.setCell ⟨gl,0,none⟩ (.string x1.row)).setCell ⟨gl,1,none⟩ (.string x1.fam)).setCell ⟨gl,2,none⟩ (.string x1.qual)).setCell ⟨gl,3,none⟩ (.int .u64 x1.ts)).setCell ⟨gl,4,none⟩ (.string x1.val))):
  DmI base cb bv n w w1 tb b o c ys W9∧OwnC W9 w1.heap.size gl cl (L.set 0 x1):=by
 have hp:=hO.put 0 x0 x1 hx;simp only[Nat.zero_mul,Nat.zero_add]at hp;rw[←h9]at hp;have hgl:=hO.lt;have h1:=h.d.lt;have h2:=h.low.size;have h5:=h.cb_;have h3:=h.blk;have hbb:=h.d.hb;have hc9:Chg (fun k=>k=gl) wr W9:=by rw[h9];exact((((Chg.of_set (S:=fun k=>k=gl) _ _ _ _ rfl).trans (Chg.of_set (S:=fun k=>k=gl) _ _ _ _ rfl)).trans (Chg.of_set (S:=fun k=>k=gl) _ _ _ _ rfl)).trans (Chg.of_set (S:=fun k=>k=gl) _ _ _ _ rfl)).trans (Chg.of_set (S:=fun k=>k=gl) _ _ _ _ rfl)
 refine⟨⟨⟨h.d.d.chg hc9 (by omega) (fun k q=>by omega),⟨hc9.os.trans h.d.c.os,hc9.tape.trans h.d.c.tape,hc9.output.trans h.d.c.output,Nat.le_trans h.d.c.size hc9.size,fun k hk hnk=>(hc9.block k (Nat.lt_of_lt_of_le hk h.d.c.size) (by omega)).trans (h.d.c.block k hk hnk)⟩,h1,hbb⟩,h.low,h5,h.res.chg hc9 (by omega),h.var.chg hc9 (by omega),h.nds.chg hc9 h3.2.1 (by omega),⟨h3.1,Nat.lt_of_lt_of_le h3.2.1 hc9.size,h3.2.2⟩,h.tb_,h.ok,h.len,h.cap⟩,hp⟩
theorem yIx (bv:Value) (n:Nat) (w:World) (h:yCv w w.heap.size bv n):Calls Tryz.prog 17 #[bv] w (DmeP w):=by
 obtain⟨a,cap,rfl⟩:=h.slice;have hn:=h.1;obtain⟨W0,hW0⟩:=qE (w.alloc (Obj.cells #[.slice none 0 0] 32):World);have hb0:Below w.heap.size w W0:=by rw[hW0];exact qB
 have hz0:W0.heap.size=w.heap.size+1:=by rw[hW0];simp
 have H0:Hid (yCv W0 W0.heap.size (.slice a n cap) n∧yA W0 w.heap.size 32 1 w.heap.size [.slice none 0 0]∧Below w.heap.size w W0∧W0.heap.size=w.heap.size+1):=⟨h.up hb0,by rw[hW0];exact yAa w #[.slice none 0 0] (Nat.le_refl _) rfl,hb0,hz0⟩;clear h hb0 hz0;go_enter Tryz.func17,Tryz.ntmps17;go_wp2_with fail;rw[←hW0];clear hW0;refine(yQz _ n W0 H0.1).mono ?_;rintro e w1 ⟨rfl,hD1,hb1⟩;obtain⟨cb,hcb⟩:=qE W0.heap.size;rw[←hcb]at hD1⊢;have H1:Hid (yAf cb cb (.slice a n cap) n w1∧yA w1 w.heap.size 32 1 w.heap.size [.slice none 0 0]∧Below w.heap.size w w1∧w.heap.size<cb):=⟨hD1,H0.2.1.below hb1,H0.2.2.1.trans (hb1.mono H0.2.2.1.size),by have:=H0.2.2.2;show _<_;omega⟩;clear hD1 hb1 hcb H0;go_wp2_with fail;refine(yFm cb cb (.slice a n cap) n w1 H1.1).mono ?_;rintro e w2 ⟨g,cp,xs,rfl,hl2,h02,K2⟩;obtain⟨N,hN⟩:=qE xs.length;have HN:Hid (N=xs.length):=hN;rw[←hN]at hl2 h02⊢;obtain⟨tb,htb⟩:=qE w2.heap.size;obtain⟨W3,hW3⟩:=qE (w2.alloc (Obj.cells #[.slice (some ⟨g,0,none⟩) N cp] 32):World);have H3:Hid (DmI cb cb (.slice a n cap) n w w1 tb g 0 cp xs W3):=by
  have k3:Below w2.heap.size w2 W3:=by rw[hW3];exact qB
  have hz:=H1.2.2.1.size;have hgl:=K2.out.2.1.lt;have hz2:=K2.out.2.2.c.size;have hcl:=K2.out.2.2.lt;have hcw:=H1.2.2.2;exact⟨K2.out.2.2.below k3,H1.2.2.1,hcw,(H1.2.1.chg K2.out.2.2.c (by omega)).below k3,by rw[hW3,htb,←hN];exact yAa w2 #[.slice (some ⟨g,0,none⟩) N cp] (by omega) rfl,(K2.out.2.1.below k3 hgl.2).at,⟨hgl.1,by have:=k3.size;omega,by omega⟩,by omega,fun e he=>(K2.out.1 e he).ok,by omega,K2.out.2.1.caps⟩
 clear K2 hN;go_upto_region 3 with fail;rw[←hW3,←htb];clear hW3 htb;go_wp2_with fail;refine(yA5 cb cb (.slice a n cap) n 12 _ H3.d.d (by omega) (by omega)).mono ?_;rintro e w4 ⟨v,rfl,hv,hd4⟩;have H4:Hid (DmI cb cb (.slice a n cap) n w w1 tb g 0 cp xs w4):=H3.call ((DInv.start H3.d.d).call hd4);clear hd4 H3;rcases hv with rfl|rfl
 ·go_wp2_with fail;refine(yIj cb cb (.slice a n cap) n w4 H4.d.d).mono ?_;rintro e w5 ⟨b,o,c,ys,rfl,hl5,K5⟩;obtain⟨M,hM⟩:=qE ys.length;have HM:Hid (M=ys.length):=hM;rw[←hM];obtain⟨W6,hW6⟩:=qE (w5.setCell ⟨tb,0,none⟩ (.slice (some ⟨b,o,none⟩) M c):World);have H5:Hid (DmI cb cb (.slice a n cap) n w w1 tb g 0 cp xs w5):=H4.call K5.out.2.2.2.2;have H6:Hid (DmI cb cb (.slice a n cap) n w w1 tb b o c ys W6):=by
   have hb5:=K5.out.2.2.1;have hz4:=H4.d.c.size;have htl:=H4.var.lt.2;have htb:=H4.tb_;have hlw:=H4.low.size;have hc6:Chg (fun k=>k=tb) w5 W6:=by rw[hW6];exact Chg.of_set _ _ _ _ rfl
   have hv6:yA W6 w.heap.size 32 1 tb [.slice (some ⟨b,o,none⟩) ys.length c]:=by rw[hW6,hM];exact H5.var.set 0 _
   have hw1:w.heap.size<w1.heap.size:=by have:=H4.d.lt;have:=H4.cb_;omega
   exact⟨by rw[hW6];exact H5.d.grow (yBf w5 tb 0 _) (fun k q=>by cases q;omega),H4.low,H4.cb_,H5.res.chg hc6 (by omega),hv6,K5.out.2.1.chg hc6 hb5.2 (by omega),⟨by omega,Nat.lt_of_lt_of_le hb5.2 hc6.size,by omega⟩,htb,K5.out.1,hl5,K5.out.2.2.2.1⟩
  have t0:=H5.var.cell (j:=0) rfl;have tf:=H5.var.frozen 0;clear hM K5;go_upto_region 5 with fail;rw[←hW6];clear hW6 t0 tf H5;go_wp2_with fail;refine(yGd cb cb a n cap _ H6.d.d hn).mono ?_;rintro e w7 ⟨gl,cl,L,rfl,hL,K7⟩;have H7:Hid (DmI cb cb (.slice a n cap) n w w1 tb b o c ys w7∧OwnC w7 w1.heap.size gl cl L∧(∀e∈L,e.ok)∧(∀e∈L,e.kind=0)):=⟨H6.call K7.out.2.1,K7.out.1.mono H6.d.c.size,K7.out.2.2.1,K7.out.2.2.2⟩;have HG:Hid (b<gl∧tb<gl):=by have h1:=K7.out.1.lt.1;have h2:=H6.blk.2.1;have h3:=H6.var.lt.2;exact⟨by omega,by omega⟩
  obtain⟨K,hK⟩:=qE L.length;have HK:Hid (K=L.length):=hK;rw[←hK]at hL⊢;clear K7 hK;have hclm:K≤cl∧cl≤9223372036854775807:=by have:=H7.2.1.caps;unfold maxLen at this;have:=HK.out;omega
  go_wp2_with fail;refine(yA5 cb cb (.slice a n cap) n 25 _ H7.1.d.d (by omega) (by omega)).mono ?_;rintro e w8 ⟨v,rfl,hv,hd8⟩;have H8:Hid (DmI cb cb (.slice a n cap) n w w1 tb b o c ys w8∧OwnC w8 w1.heap.size gl cl L):=by have hd:=(DInv.start H7.1.d.d).call hd8;have hcl:=H7.1.d.lt;have hgl:=H7.2.1.lt;exact⟨H7.1.call hd,yAp H7.2.1 hd.c (fun k q z=>by simp[Value.ownBlock]at q;omega)⟩
  clear hd8;rcases hv with rfl|rfl
  ·by_cases hK1:1<K
   ·have zk:(1:Int)<(K:Int):=by omega
    obtain⟨x0,hx0⟩:∃x,L[0]?=some x:=⟨_,List.getElem?_eq_getElem (by have:=HK.out;omega)⟩;obtain⟨x1,hx1⟩:∃x,L[1]?=some x:=⟨_,List.getElem?_eq_getElem (by have:=HK.out;omega)⟩;obtain⟨d0,d1,d2,d3,d4⟩:=H8.2.at 1 x1 hx1;obtain⟨e0,e1,e2,e3,e4⟩:=H8.2.at 0 x0 hx0;simp only[Nat.zero_add,Nat.zero_mul,Nat.one_mul]at d0 d1 d2 d3 d4 e0 e1 e2 e3 e4;have hfz:=fun j=>World.ownsRow.frozenAt H8.2 j;obtain⟨W9,hW9⟩:=qE ((((((w8.setCell ⟨gl,0,none⟩ (.string x1.row)).setCell ⟨gl,1,none⟩ (.string x1.fam)).setCell ⟨gl,2,none⟩ (.string x1.qual)).setCell ⟨gl,3,none⟩ (.int .u64 x1.ts)).setCell ⟨gl,4,none⟩ (.string x1.val)):World);have H9:Hid (DmI cb cb (.slice a n cap) n w w1 tb b o c ys W9∧OwnC W9 w1.heap.size gl cl (L.set 0 x1)):=H8.1.copy H8.2 HG.out hx0 W9 hW9;have HL9:Hid ((L.set 0 x1).length=K∧(∀e∈L.set 0 x1,e.ok)∧(∀e∈L.set 0 x1,e.kind=0)):=⟨by rw[List.length_set,HK.out],fun e he=>(List.mem_or_eq_of_mem_set he).elim (fun q=>H7.2.2.1 e q) (fun q=>by rw[q];exact H7.2.2.1 x1 (List.mem_of_getElem? hx1)),fun e he=>(List.mem_or_eq_of_mem_set he).elim (fun q=>H7.2.2.2 e q) (fun q=>by rw[q];exact H7.2.2.2 x1 (List.mem_of_getElem? hx1))⟩;clear hx0 hx1;go_upto_region 8 with fail;rw[←hW9];clear hW9 d0 d1 d2 d3 d4 e0 e1 e2 e3 e4 hfz;obtain⟨WF,hWF⟩:=qE (W9.setCell ⟨w.heap.size,0,none⟩ (.slice (some ⟨b,o,none⟩) M c):World);have HR:Hid (WF.cell? ⟨w.heap.size,0,none⟩=some (.slice (some ⟨b,o,none⟩) M c)∧DmeP w (.returned (.tuple #[.agg #[.slice (some ⟨b,o,none⟩) M c],.slice (some ⟨gl,0,none⟩) K cl])) WF):=H9.1.fin H9.2 (by rw[HL9.1];exact hL) HL9.2.1 HL9.2.2 M K HM.out (by rw[HL9.1]) WF hWF;have t6:W9.cell? ⟨tb,0,none⟩=some (.slice (some ⟨b,o,none⟩) M c):=by rw[HM.out];exact H9.1.var.cell (j:=0) rfl
    have r0:=H9.1.res.cell (j:=0) rfl;have rf:=H9.1.res.frozen 0;have p0:=HR.1;go_wp2_with fail;rw[←hWF];exact bodyPost_ret (v:=.tuple #[.agg #[.slice (some ⟨b,o,none⟩) M c],.slice (some ⟨gl,0,none⟩) K cl]) (by simp[results,Tryz.results17,go_sem,p0]) rfl HR.2
   ·have zk:¬(1:Int)<(K:Int):=by omega
    exact zzQ24
  ·exact zzQ24
 ·go_wp2_with fail;refine(yGd cb cb a n cap _ H4.d.d hn).mono ?_;rintro e w7 ⟨gl,cl,L,rfl,hL,K7⟩;have H7:Hid (DmI cb cb (.slice a n cap) n w w1 tb g 0 cp xs w7∧OwnC w7 w1.heap.size gl cl L∧(∀e∈L,e.ok)∧(∀e∈L,e.kind=0)):=⟨H4.call K7.out.2.1,K7.out.1.mono H4.d.c.size,K7.out.2.2.1,K7.out.2.2.2⟩;have HG:Hid (g<gl∧tb<gl):=by have h1:=K7.out.1.lt.1;have h2:=H4.blk.2.1;have h3:=H4.var.lt.2;exact⟨by omega,by omega⟩
  obtain⟨K,hK⟩:=qE L.length;have HK:Hid (K=L.length):=hK;rw[←hK]at hL⊢;clear K7 hK;have hclm:K≤cl∧cl≤9223372036854775807:=by have:=H7.2.1.caps;unfold maxLen at this;have:=HK.out;omega
  go_wp2_with fail;refine(yA5 cb cb (.slice a n cap) n 25 _ H7.1.d.d (by omega) (by omega)).mono ?_;rintro e w8 ⟨v,rfl,hv,hd8⟩;have H8:Hid (DmI cb cb (.slice a n cap) n w w1 tb g 0 cp xs w8∧OwnC w8 w1.heap.size gl cl L):=by have hd:=(DInv.start H7.1.d.d).call hd8;have hcl:=H7.1.d.lt;have hgl:=H7.2.1.lt;exact⟨H7.1.call hd,yAp H7.2.1 hd.c (fun k q z=>by simp[Value.ownBlock]at q;omega)⟩
  clear hd8;rcases hv with rfl|rfl
  ·by_cases hK1:1<K
   ·have zk:(1:Int)<(K:Int):=by omega
    obtain⟨x0,hx0⟩:∃x,L[0]?=some x:=⟨_,List.getElem?_eq_getElem (by have:=HK.out;omega)⟩;obtain⟨x1,hx1⟩:∃x,L[1]?=some x:=⟨_,List.getElem?_eq_getElem (by have:=HK.out;omega)⟩;obtain⟨d0,d1,d2,d3,d4⟩:=H8.2.at 1 x1 hx1;obtain⟨e0,e1,e2,e3,e4⟩:=H8.2.at 0 x0 hx0;simp only[Nat.zero_add,Nat.zero_mul,Nat.one_mul]at d0 d1 d2 d3 d4 e0 e1 e2 e3 e4;have hfz:=fun j=>World.ownsRow.frozenAt H8.2 j;obtain⟨W9,hW9⟩:=qE ((((((w8.setCell ⟨gl,0,none⟩ (.string x1.row)).setCell ⟨gl,1,none⟩ (.string x1.fam)).setCell ⟨gl,2,none⟩ (.string x1.qual)).setCell ⟨gl,3,none⟩ (.int .u64 x1.ts)).setCell ⟨gl,4,none⟩ (.string x1.val)):World);have H9:Hid (DmI cb cb (.slice a n cap) n w w1 tb g 0 cp xs W9∧OwnC W9 w1.heap.size gl cl (L.set 0 x1)):=H8.1.copy H8.2 HG.out hx0 W9 hW9;have HL9:Hid ((L.set 0 x1).length=K∧(∀e∈L.set 0 x1,e.ok)∧(∀e∈L.set 0 x1,e.kind=0)):=⟨by rw[List.length_set,HK.out],fun e he=>(List.mem_or_eq_of_mem_set he).elim (fun q=>H7.2.2.1 e q) (fun q=>by rw[q];exact H7.2.2.1 x1 (List.mem_of_getElem? hx1)),fun e he=>(List.mem_or_eq_of_mem_set he).elim (fun q=>H7.2.2.2 e q) (fun q=>by rw[q];exact H7.2.2.2 x1 (List.mem_of_getElem? hx1))⟩;clear hx0 hx1;go_upto_region 8 with fail;rw[←hW9];clear hW9 d0 d1 d2 d3 d4 e0 e1 e2 e3 e4 hfz;obtain⟨WF,hWF⟩:=qE (W9.setCell ⟨w.heap.size,0,none⟩ (.slice (some ⟨g,0,none⟩) N cp):World);have HR:Hid (WF.cell? ⟨w.heap.size,0,none⟩=some (.slice (some ⟨g,0,none⟩) N cp)∧DmeP w (.returned (.tuple #[.agg #[.slice (some ⟨g,0,none⟩) N cp],.slice (some ⟨gl,0,none⟩) K cl])) WF):=H9.1.fin H9.2 (by rw[HL9.1];exact hL) HL9.2.1 HL9.2.2 N K HN.out (by rw[HL9.1]) WF hWF;have t6:W9.cell? ⟨tb,0,none⟩=some (.slice (some ⟨g,0,none⟩) N cp):=by rw[HN.out];exact H9.1.var.cell (j:=0) rfl
    have r0:=H9.1.res.cell (j:=0) rfl;have rf:=H9.1.res.frozen 0;have p0:=HR.1;go_wp2_with fail;rw[←hWF];exact bodyPost_ret (v:=.tuple #[.agg #[.slice (some ⟨g,0,none⟩) N cp],.slice (some ⟨gl,0,none⟩) K cl]) (by simp[results,Tryz.results17,go_sem,p0]) rfl HR.2
   ·have zk:¬(1:Int)<(K:Int):=by omega
    exact zzQ23
  ·exact zzQ23
def DnoP (w:World) (e:Ending) (w':World):Prop:=∃(b o c:Nat) (ys:List Nd),e=.returned (.agg #[.slice (some ⟨b,o,none⟩) ys.length c])∧ys.length≤1001∧Hid (((∀e∈ys,e.ok)∧yAy w' b o ys∧(w.heap.size≤b∧b<w'.heap.size)∧(ys.length≤c∧c≤maxLen))∧Below w.heap.size w w')
structure DnI (cb:Nat) (bv:Value) (n:Nat) (w w1:World) (tb g cp N:Nat) (wr:World):Prop where
 row:∃xs:List Nd,N=xs.length∧(∀e∈xs,e.small)∧yAm wr w1.heap.size g cp xs
 d:DInv cb cb bv n w1 wr
 res:yA wr w.heap.size 32 1 w.heap.size [.slice none 0 0]
 var:yA wr w.heap.size 32 1 tb [.slice (some ⟨g,0,none⟩) N cp]
 ne:g<tb∧w1.heap.size≤g
variable {N:Nat}
theorem DnI.call {g:Nat} (h:DnI cb bv n w w1 tb g cp N wr) (hc:w.heap.size<cb) (hd:DInv cb cb bv n wr wx):DnI cb bv n w w1 tb g cp N wx:=by obtain⟨xs,h1,h2,h3⟩:=h.row;have hl:=h.d.lt;have hn:=h.ne;exact⟨⟨xs,h1,h2,h3.chg hd.c (by omega)⟩,h.d.trans hd,h.res.chg hd.c (by omega),h.var.chg hd.c (by omega),hn⟩
theorem DnI.put {g:Nat} (h:DnI cb bv n w w1 tb g cp N wr) (hc:w.heap.size<cb) (hi:i<N) (k:Int) (hk:0≤k∧k≤100000) (W9:World)
  (h9:W9=(((((((wr.setCell ⟨g,i*7,none⟩ (.int .i64 k)).setCell ⟨g,i*7+1,none⟩ (.string ⟨#[]⟩)).setCell ⟨g,i*7+2,none⟩ (.bool false)).setCell ⟨g,i*7+3,none⟩ (.string ⟨#[]⟩)).setCell ⟨g,i*7+4,none⟩ (.int .u64 0)).setCell ⟨g,i*7+5,none⟩ (.int .u64 0)).setCell ⟨g,i*7+6,none⟩ (.int .i64 0))):DnI cb bv n w w1 tb g cp N W9:=by
 obtain⟨xs,h1,h2,h3⟩:=h.row;obtain⟨e0,he⟩:∃e0,xs[i]?=some e0:=⟨_,List.getElem?_eq_getElem (by omega)⟩;have hO9:=h3.put i e0 ⟨k,⟨#[]⟩,false,⟨#[]⟩,0,0,0⟩ he;simp only at hO9;rw[←h9]at hO9;have hl:=h.d.lt;have hn:=h.ne;have hb:=h.d.hb;have hc9:Chg (fun k=>k=g) wr W9:=by rw[h9];exact((((((Chg.of_set (S:=fun k=>k=g) _ _ _ _ rfl).trans (Chg.of_set (S:=fun k=>k=g) _ _ _ _ rfl)).trans (Chg.of_set (S:=fun k=>k=g) _ _ _ _ rfl)).trans (Chg.of_set (S:=fun k=>k=g) _ _ _ _ rfl)).trans (Chg.of_set (S:=fun k=>k=g) _ _ _ _ rfl)).trans (Chg.of_set (S:=fun k=>k=g) _ _ _ _ rfl)).trans (Chg.of_set (S:=fun k=>k=g) _ _ _ _ rfl)
 refine⟨⟨xs.set i ⟨k,⟨#[]⟩,false,⟨#[]⟩,0,0,0⟩,by rw[List.length_set];exact h1,fun e he=>(List.mem_or_eq_of_mem_set he).elim (fun q=>h2 e q) (fun q=>by rw[q];exact yB6 k hk),hO9⟩,⟨h.d.d.chg hc9 (by omega) (fun k q=>by omega),⟨hc9.os.trans h.d.c.os,hc9.tape.trans h.d.c.tape,hc9.output.trans h.d.c.output,Nat.le_trans h.d.c.size hc9.size,fun k hk hnk=>(hc9.block k (Nat.lt_of_lt_of_le hk h.d.c.size) (by omega)).trans (h.d.c.block k hk hnk)⟩,hl,hb⟩,h.res.chg hc9 (by omega),h.var.chg hc9 (by omega),hn⟩
theorem DnI.cellAt {g:Nat} (h:DnI cb bv n w w1 tb g cp N wr) (hi:i<N):∃f:Nd,wr.cell? ⟨g,i*7,none⟩=some (.int .i64 f.kind)∧wr.cell? ⟨g,i*7+1,none⟩=some (.string f.s)∧wr.cell? ⟨g,i*7+2,none⟩=some (.bool f.hi)∧wr.cell? ⟨g,i*7+3,none⟩=some (.string f.t)∧wr.cell? ⟨g,i*7+4,none⟩=some (.int .u64 f.lo)∧wr.cell? ⟨g,i*7+5,none⟩=some (.int .u64 f.up)∧wr.cell? ⟨g,i*7+6,none⟩=some (.int .i64 f.n)∧∀j,wr.frozen? ⟨g,j,none⟩=false:=by obtain⟨xs,h1,h2,h3⟩:=h.row;obtain⟨f,hf⟩:∃f,xs[i]?=some f:=⟨_,List.getElem?_eq_getElem (by omega)⟩;obtain⟨d0,d1,d2,d3,d4,d5,d6⟩:=h3.at i f hf;simp only[Nat.zero_add]at d0 d1 d2 d3 d4 d5 d6;exact⟨f,d0,d1,d2,d3,d4,d5,d6,fun j=>World.ownsRow.frozenAt h3 j⟩
theorem yKb (bv:Value) (n:Nat) (w:World) (h:yCv w w.heap.size bv n):Calls Tryz.prog 16 #[bv] w (DnoP w):=by
 obtain⟨a,cap,rfl⟩:=h.slice;have hn:=h.1;obtain⟨W0,hW0⟩:=qE (w.alloc (Obj.cells #[.slice none 0 0] 32):World);have hb0:Below w.heap.size w W0:=by rw[hW0];exact qB
 have hz0:W0.heap.size=w.heap.size+1:=by rw[hW0];simp
 have H0:Hid (yCv W0 W0.heap.size (.slice a n cap) n∧yA W0 w.heap.size 32 1 w.heap.size [.slice none 0 0]∧Below w.heap.size w W0∧W0.heap.size=w.heap.size+1):=⟨h.up hb0,by rw[hW0];exact yAa w #[.slice none 0 0] (Nat.le_refl _) rfl,hb0,hz0⟩;clear h hb0 hz0;go_enter Tryz.func16,Tryz.ntmps16;go_wp2_with fail;rw[←hW0];clear hW0;refine(yQz _ n W0 H0.1).mono ?_;rintro e wn ⟨rfl,hDn,hbn⟩;obtain⟨cb,hcb⟩:=qE W0.heap.size;rw[←hcb]at hDn⊢;have HN0:Hid (yAf cb cb (.slice a n cap) n wn∧yA wn w.heap.size 32 1 w.heap.size [.slice none 0 0]∧Below w.heap.size w wn∧w.heap.size<cb):=⟨hDn,H0.2.1.below hbn,H0.2.2.1.trans (hbn.mono H0.2.2.1.size),by have:=H0.2.2.2;show _<_;omega⟩;clear hDn hbn hcb H0;go_wp2_with fail;refine(yA5 cb cb (.slice a n cap) n 3 _ HN0.1 (by omega) (by omega)).mono ?_;rintro e w1 ⟨v,rfl,hv,hd1⟩;have H1:Hid (yAf cb cb (.slice a n cap) n w1∧yA w1 w.heap.size 32 1 w.heap.size [.slice none 0 0]∧Below w.heap.size w w1∧w.heap.size<cb):=by have hcw:=HN0.2.2.2;exact⟨hd1.1,HN0.2.1.chg hd1.2 (by omega),Chg.below HN0.2.2.1 hd1.2 HN0.2.2.1.size (fun k q=>by omega),hcw⟩
 clear hd1 HN0;have hcw:=H1.2.2.2;have hwl:=H1.2.1.lt.2;have lowOf:∀wx,DInv cb cb (.slice a n cap) n w1 wx→Below w.heap.size w wx:=fun wx hx=>Chg.below H1.2.2.1 hx.c H1.2.2.1.size (fun k q=>by omega);have HLow:Hid (∀wx,DInv cb cb (.slice a n cap) n w1 wx→Below w.heap.size w wx):=lowOf;clear lowOf;rcases hv with rfl|rfl
 ·have HTr:Hid (Calls Tryz.prog 39 #[.pointer (some ⟨cb,0,none⟩),.int .i64 2] w1 (TreP cb cb (.slice a n cap) n 40 w1)):=yQd cb cb (.slice a n cap) n 2 (by omega) (by omega) w1 H1.1;go_wp2_with fail;refine HTr.mono ?_;rintro e w2 ⟨g,cp,xs,rfl,hl2,h02,K2⟩;obtain⟨N,hN⟩:=qE xs.length;rw[←hN]at hl2 h02⊢;obtain⟨tb,htb⟩:=qE w2.heap.size;obtain⟨W3,hW3⟩:=qE (w2.alloc (Obj.cells #[.slice (some ⟨g,0,none⟩) N cp] 32):World);have H3:Hid (DnI cb (.slice a n cap) n w w1 tb g cp N W3):=by
   have k3:Below w2.heap.size w2 W3:=by rw[hW3];exact qB
   have hgl:=K2.out.2.1.lt;have hz2:=K2.out.2.2.c.size;exact⟨⟨xs,hN,K2.out.1,K2.out.2.1.below k3 hgl.2⟩,K2.out.2.2.below k3,(H1.2.1.chg K2.out.2.2.c (by omega)).below k3,by rw[hW3,htb];exact yAa w2 #[.slice (some ⟨g,0,none⟩) N cp] (by omega) rfl,by omega,hgl.1⟩
  have hcpm:N≤cp∧cp≤9223372036854775807:=by have:=K2.out.2.1.caps;unfold maxLen at this;omega
  clear K2 hN HTr;go_upto_region 4 with fail;rw[←hW3,←htb];clear hW3 htb;go_wp2_with fail;go_loopw[5] (fun iv wr=>∃i:Nat,i≤N∧iv=.int .i64 (i:Int)∧Hid (DnI cb (.slice a n cap) n w w1 tb g cp N wr)) (fun iv _=>N-(intOf iv).toNat);case atStart=>exact⟨0,Nat.zero_le _,rfl,H3.out⟩
  case round=>
   obtain⟨i,hiN,rfl,HJ⟩:=hrel;have t0:=HJ.var.cell (j:=0) rfl;by_cases hlt:i<N
   ·have zi:(i:Int)<(N:Int):=by omega
    obtain⟨f,d0,_⟩:=HJ.cellAt hlt;by_cases ha:yAk f.kind=0
    ·have za:((yAk f.kind:Nat):Int)=0:=by omega
     have HAr:Hid (Calls Tryz.prog 40 #[.int .i64 f.kind] wr fun e w'=>e=.returned (.int .i64 0)∧w'=wr):=by have h9:=yD6 f.kind wr;rw[za]at h9;exact h9
     clear za;go_wp2_with fail;refine HAr.mono ?_;rintro e w4 ⟨rfl,rfl⟩;go_wp2_with fail;refine(yA5 cb cb (.slice a n cap) n 2 _ HJ.d.d (by omega) (by omega)).mono ?_;rintro e w5 ⟨v,rfl,hv,hd5⟩;have H5:Hid (DnI cb (.slice a n cap) n w w1 tb g cp N w5):=HJ.call hcw ((DInv.start HJ.d.d).call hd5);clear hd5 d0 t0 HAr;rcases hv with rfl|rfl
     ·go_upto_region 8 with fail;have HBl:Hid (Calls Tryz.prog 41 #[.pointer (some ⟨cb,0,none⟩),.int .i64 3] w5.drew fun e w'=>∃x:Int,e=.returned (.int .i64 x)∧0≤x∧x<3∧Drew cb cb (.slice a n cap) n w5.drew w'):=yAl cb cb (.slice a n cap) n 3 _ (H5.d.d.below ((Below.refl _ _).drew)) (by omega) (by omega);have hS0:(fun wz:World=>wz.cell? ⟨tb,0,none⟩=some (.slice (some ⟨g,0,none⟩) N cp)) w5.drew:=H5.var.cell (j:=0) rfl;refine yAb 8 (fun wz:World=>wz.cell? ⟨tb,0,none⟩=some (.slice (some ⟨g,0,none⟩) N cp)) (by kernel_rfl) ?_;refine j3a 0 hS0 ?_;iterate 3 refine j3b hS0 ?_
      refine qO 4 rfl fun K hK=>?_;go_simp;refine HBl.mono ?_;rintro e w6 ⟨y,rfl,hy0,hy1,hd6⟩;have H6:Hid (DnI cb (.slice a n cap) n w w1 tb g cp N w6):=H5.call hcw (((DInv.start H5.d.d).below ((Below.refl _ _).drew)).call hd6);clear hd6 HBl hS0;have hS0:(fun wz:World=>wz.cell? ⟨tb,0,none⟩=some (.slice (some ⟨g,0,none⟩) N cp)) w6:=H6.var.cell (j:=0) rfl;refine hK.out _ _ (.inr hS0) ?_;clear hK;refine jS ?_;refine j3a 5 hS0 ?_;iterate 2 refine j3b hS0 ?_
      obtain⟨f6,d0,d1,d2,d3,d4,d5,d6,hfz⟩:=H6.cellAt hlt;obtain⟨W9,hW9⟩:=qE ((((((((w6.setCell ⟨g,i*7,none⟩ (.int .i64 (1+y))).setCell ⟨g,i*7+1,none⟩ (.string ⟨#[]⟩)).setCell ⟨g,i*7+2,none⟩ (.bool false)).setCell ⟨g,i*7+3,none⟩ (.string ⟨#[]⟩)).setCell ⟨g,i*7+4,none⟩ (.int .u64 0)).setCell ⟨g,i*7+5,none⟩ (.int .u64 0)).setCell ⟨g,i*7+6,none⟩ (.int .i64 0)):World);have H9:Hid (DnI cb (.slice a n cap) n w w1 tb g cp N W9):=H6.put hcw hlt (1+y) (by omega) W9 hW9;refine qO 8 rfl fun K hK=>?_;go_simp;refine hK.out _ _ (.inl rfl) ?_;clear hK;refine jS ?_;refine qD ?_;have hwr:IntKind.i64.wrap (1+y)=1+y:=by rw[IntKind.wrap_i64];omega
      rw[hwr,←hW9];clear hW9 hwr d0 d1 d2 d3 d4 d5 d6 hfz hS0;go_wp2_with fail;go_roundw;case rel=>exact⟨i+1,by omega,by go_num,H9.out⟩
      case measure=>simp[intOf];omega
     ·go_wp2_with fail;go_roundw;case rel=>exact⟨i+1,by omega,by go_num,H5.out⟩
      case measure=>simp[intOf];omega
    ·have HAr:Hid (Calls Tryz.prog 40 #[.int .i64 f.kind] wr fun e w'=>e=.returned (.int .i64 (yAk f.kind:Int))∧w'=wr):=yD6 f.kind wr;obtain⟨q,hq⟩:=qE (yAk f.kind);have zq:((q:Int)==0)=false:=by rw[beq_eq_false_iff_ne];omega
     rw[←hq]at HAr;clear hq ha;go_wp2_with fail;refine HAr.mono ?_;rintro e w4 ⟨rfl,rfl⟩;go_wp2_with fail;go_roundw;case rel=>exact⟨i+1,by omega,by go_num,HJ.out⟩
     case measure=>simp[intOf];omega
   ·obtain⟨WF,hWF⟩:=qE (wr.setCell ⟨w.heap.size,0,none⟩ (.slice (some ⟨g,0,none⟩) N cp):World);have HR:Hid (WF.cell? ⟨w.heap.size,0,none⟩=some (.slice (some ⟨g,0,none⟩) N cp)∧DnoP w (.returned (.agg #[.slice (some ⟨g,0,none⟩) N cp])) WF):=by
     obtain⟨xs,h1,h2,h3⟩:=HJ.row;have hg:=HJ.ne;have hcF:Chg (fun k=>k=w.heap.size) wr WF:=by rw[hWF];exact Chg.of_set _ _ _ _ rfl
     have hOF:=h3.chg hcF (by omega);have hlw:=HLow.out wr HJ.d;refine⟨by rw[hWF];exact(HJ.res.set 0 _).cell (j:=0) rfl,g,0,cp,xs,by rw[h1],by omega,⟨fun e he=>(h2 e he).ok,hOF.at,⟨by omega,hOF.lt.2⟩,hOF.caps⟩,Chg.below hlw hcF hlw.size (fun k q=>by omega)⟩
    have r0:=HJ.res.cell (j:=0) rfl;have rf:=HJ.res.frozen 0;have p0:=HR.1;go_wp2_with fail;rw[←hWF];exact bodyPost_ret (by simp[results,Tryz.results16,go_sem,p0]) rfl HR.2
 ·go_wp2_with fail;refine(yIj cb cb (.slice a n cap) n w1 H1.1).mono ?_;rintro e w2 ⟨b,o,c,ys,rfl,hl,K2⟩;have H2:Hid (yA w2 w.heap.size 32 1 w.heap.size [.slice none 0 0]):=H1.2.1.chg K2.out.2.2.2.2.c (by omega);obtain⟨N,hN⟩:=qE ys.length;rw[←hN];obtain⟨WF,hWF⟩:=qE (w2.setCell ⟨w.heap.size,0,none⟩ (.slice (some ⟨b,o,none⟩) N c):World);have HR:Hid (WF.cell? ⟨w.heap.size,0,none⟩=some (.slice (some ⟨b,o,none⟩) N c)∧DnoP w (.returned (.agg #[.slice (some ⟨b,o,none⟩) N c])) WF):=by
   have hb2:=K2.out.2.2.1;have hcF:Chg (fun k=>k=w.heap.size) w2 WF:=by rw[hWF];exact Chg.of_set _ _ _ _ rfl
   have hlw:=HLow.out w2 K2.out.2.2.2.2;refine⟨by rw[hWF];exact(H2.set 0 _).cell (j:=0) rfl,b,o,c,ys,by rw[hN],hl,⟨K2.out.1,K2.out.2.1.chg hcF hb2.2 (by omega),⟨by omega,Nat.lt_of_lt_of_le hb2.2 hcF.size⟩,K2.out.2.2.2.1⟩,Chg.below hlw hcF hlw.size (fun k q=>by omega)⟩
  have r0:=H2.cell (j:=0) rfl;have rf:=H2.frozen 0;have p0:=HR.1;clear hN K2;go_wp2_with fail;rw[←hWF];exact bodyPost_ret (by simp[results,Tryz.results16,go_sem,p0]) rfl HR.2
theorem yMl {c b' o' c':Nat} (h:yAy w b o ys) (hb:b<w.heap.size) (h':yAy w b' o' ys) (hb':b'<w.heap.size) (hl:ys.length≤1000000):
  Calls Tryz.prog 20 #[.agg #[.slice (some ⟨b,o,none⟩) ys.length c],.agg #[.slice (some ⟨b',o',none⟩) ys.length c']] w fun e w'=>e=.returned (.bool true)∧Below w.heap.size w w':=by
 obtain⟨N,hN⟩:=qE ys.length;have HN:Hid (N=ys.length):=hN;rw[←hN]at hl⊢;obtain⟨W0,hW0⟩:=qE ((w.alloc (Obj.cells #[.slice (some ⟨b,o,none⟩) N c] 32)).alloc (Obj.cells #[.slice (some ⟨b',o',none⟩) N c'] 32):World);have H0:Hid (Below w.heap.size w W0∧yA W0 w.heap.size 32 1 w.heap.size [.slice (some ⟨b,o,none⟩) N c]∧yA W0 w.heap.size 32 1 (w.heap.size+1) [.slice (some ⟨b',o',none⟩) N c']∧yAy W0 b o ys∧yAy W0 b' o' ys∧(b<W0.heap.size∧b'<W0.heap.size)):=by
  have b1:=yAa w (base:=w.heap.size) (t:=32) (sz:=1) #[.slice (some ⟨b,o,none⟩) N c] (Nat.le_refl _) rfl;obtain⟨X,hX⟩:=qE (w.alloc (Obj.cells #[.slice (some ⟨b,o,none⟩) N c] 32));rw[←hX]at b1 hW0;have zx:X.heap.size=w.heap.size+1:=by rw[hX];simp
  have k1:Below w.heap.size w X:=by rw[hX];exact qB
  have k2:Below X.heap.size X W0:=by rw[hW0];exact qB
  have b2:=yAa X (base:=w.heap.size) (t:=32) (sz:=1) #[.slice (some ⟨b',o',none⟩) N c'] (by omega) rfl;rw[←hW0,zx]at b2;have k:=k1.trans (k2.mono (by omega));exact⟨k,b1.below k2,b2,h.below k hb,h'.below k hb',by have:=k.size;omega,by have:=k.size;omega⟩
 clear h h' hN;have hS:∀wx,Below W0.heap.size W0 wx→wx.cell? ⟨w.heap.size,0,none⟩=some (.slice (some ⟨b,o,none⟩) N c)∧wx.cell? ⟨w.heap.size+1,0,none⟩=some (.slice (some ⟨b',o',none⟩) N c')∧yAy wx b o ys∧yAy wx b' o' ys:=fun wx hx=>⟨(H0.2.1.below hx).cell (j:=0) rfl,(H0.2.2.1.below hx).cell (j:=0) rfl,H0.2.2.2.1.below hx H0.2.2.2.2.2.1,H0.2.2.2.2.1.below hx H0.2.2.2.2.2.2⟩;have HS:Hid (∀wx,Below W0.heap.size W0 wx→wx.cell? ⟨w.heap.size,0,none⟩=some (.slice (some ⟨b,o,none⟩) N c)∧wx.cell? ⟨w.heap.size+1,0,none⟩=some (.slice (some ⟨b',o',none⟩) N c')∧yAy wx b o ys∧yAy wx b' o' ys):=hS;clear hS;obtain⟨q0,q1,_⟩:=HS.out W0 (Below.refl _ _);go_enter Tryz.func20,Tryz.ntmps20;go_upto_region 1 with fail;rw[←hW0];clear hW0;go_wp2_with fail;clear q0 q1;go_loopw[5] (fun iv wr=>∃i:Nat,i≤N∧iv=.int .i64 (i:Int)∧Below W0.heap.size W0 wr) (fun iv _=>N-(intOf iv).toNat);case atStart=>exact⟨0,Nat.zero_le _,rfl,Below.refl _ _⟩
 case round=>
  obtain⟨i,hi,rfl,hbr⟩:=hrel;have q0:=(HS.out wr hbr).1;by_cases hlt:i<N
  ·have zi:(i:Int)<(N:Int):=by omega
   obtain⟨x,hx⟩:∃x,ys[i]?=some x:=⟨_,List.getElem?_eq_getElem (by have:=HN.out;omega)⟩;obtain⟨Q,hQ,hq⟩:=yQ1 x x;obtain rfl:Q=false:=hQ.2 rfl;have hbd:Below W0.heap.size W0 wr.drew:=hbr.drew;have hS0:(fun wz:World=>wz.cell? ⟨w.heap.size,0,none⟩=some (.slice (some ⟨b,o,none⟩) N c)∧wz.cell? ⟨w.heap.size+1,0,none⟩=some (.slice (some ⟨b',o',none⟩) N c')∧yAy wz b o ys∧yAy wz b' o' ys) wr.drew:=HS.out _ hbd;have HXx:Hid (ys[i]?=some x):=hx;clear hx hQ;go_upto_region 6 with fail;refine yAb 99 (fun wz:World=>wz.cell? ⟨w.heap.size,0,none⟩=some (.slice (some ⟨b,o,none⟩) N c)∧wz.cell? ⟨w.heap.size+1,0,none⟩=some (.slice (some ⟨b',o',none⟩) N c')∧yAy wz b o ys∧yAy wz b' o' ys) (by kernel_rfl) ?_;refine j11a 0 hS0 ?_;iterate 9 refine j11b hS0 ?_
   refine j11a 10 hS0 (v:=(.bool false)) ?_;refine qD ?_;clear hS0 hq;go_wp2_with fail;go_roundw;case rel=>exact⟨i+1,by omega,by go_num,hbd⟩
   case measure=>simp[intOf];omega
  ·go_wp2_with fail;go_ret;exact⟨rfl,H0.1.trans (hbr.mono H0.1.size)⟩
inductive CT where
 |leaf (n:Nd)
 |chain (n:Nd) (a b:CT)
 |inter (n:Nd) (a b:CT)
 |cond (n:Nd) (a b c:CT)
def ctV (n:Nd):List CT→CT
 | [a,b]=>if n.kind=14 then .chain n a b else .inter n a b
 | [a,b,c]=>.cond n a b c
 |_=>.leaf n
def yCj (xs:List Nd) (t:CT):Prop:=TrV ctV [t] xs
inductive Part:CT→List Nd→Prop
 |leaf (n:Nd) (h:yAk n.kind=0):Part (.leaf n) [n]
 |chain (n:Nd) {a b:CT} {ka kb:List Nd} (h:n.kind=14) (ha:yCj ka a) (hb:yCj kb b):Part (.chain n a b) (ka++kb++ [n])
 |inter (n:Nd) {a b:CT} {ka kb:List Nd} (h:n.kind=15) (ha:yCj ka a) (hb:yCj kb b):Part (.inter n a b) (ka++kb++ [n])
 |cond (n:Nd) {a b c:CT} {ka kb kc:List Nd} (h:n.kind=16) (ha:yCj ka a) (hb:yCj kb b) (hc:yCj kc c):Part (.cond n a b c) (ka++kb++kc++ [n])
variable {j:Nat}
theorem yEu {T:Type} {V:Nd→List T→T} {os:List T} {ks:List (List Nd)} {o:T} {k:List Nd} (h:KidV V os ks) (ho:os[j]?=some o) (hk:ks[j]?=some k):TrV V [o] k:=by
 obtain⟨o',h1,h2⟩:=KidV.nth _ h hk;rw[ho]at h1;cases h1
 exact h2
theorem yCj.part {t:CT} (h:yCj xs t):Part t xs:=by
 obtain⟨ys,n,os,rfl,hl,hT,rfl⟩:=TrV.inv _ h;obtain⟨ks,rfl,hK⟩:=TrV.kids _ hT;have hkl:=hK.length;by_cases h14:n.kind=14
 ·have ha:yAk n.kind=2:=by unfold yAk;rw[if_pos (.inl h14)]
  rw[ha]at hl;match os,ks,hl,hkl,hK with
  | [a,b],[ka,kb],_,_,hK=>
    have e1:ctV n [a,b]=.chain n a b:=if_pos h14;have e2: [ka,kb].flatten++ [n]=ka++kb++ [n]:=by simp
    rw[e1,e2];exact .chain n h14 (yEu hK (j:=0) rfl rfl) (yEu hK (j:=1) rfl rfl)
 ·by_cases h15:n.kind=15
  ·have ha:yAk n.kind=2:=by unfold yAk;rw[if_pos (.inr h15)]
   rw[ha]at hl;match os,ks,hl,hkl,hK with
   | [a,b],[ka,kb],_,_,hK=>
     have e1:ctV n [a,b]=.inter n a b:=if_neg h14;have e2: [ka,kb].flatten++ [n]=ka++kb++ [n]:=by simp
     rw[e1,e2];exact .inter n h15 (yEu hK (j:=0) rfl rfl) (yEu hK (j:=1) rfl rfl)
  ·by_cases h16:n.kind=16
   ·have ha:yAk n.kind=3:=by unfold yAk;rw[if_neg (by omega),if_pos h16]
    rw[ha]at hl;match os,ks,hl,hkl,hK with
    | [a,b,c],[ka,kb,kc],_,_,hK=>
      have e2: [ka,kb,kc].flatten++ [n]=ka++kb++kc++ [n]:=by simp
      rw[e2];exact .cond n h16 (yEu hK (j:=0) rfl rfl) (yEu hK (j:=1) rfl rfl) (yEu hK (j:=2) rfl rfl)
   ·have ha:yAk n.kind=0:=by unfold yAk;rw[if_neg (by omega),if_neg h16]
    have hos:os= []:=List.length_eq_zero_iff.1 (by omega);have hks:ks= []:=List.length_eq_zero_iff.1 (by omega);subst hos;subst hks;exact .leaf n ha
theorem yFe {t u:CT} (h:yCj xs t) (k:yCj xs u):t=u:=by have:=TrV.one _ h k;exact(List.cons.inj this).1
theorem yWa (h:IsT 1 xs):∃t,yCj xs t:=by
 obtain⟨ss,hl,hs⟩:=IsT.trv ctV h;match ss,hl,hs with
 | [t],_,hs=>exact⟨t,hs⟩
section
inductive Pls (P:List UInt8→Prop):List UInt8→Prop
 |one {x:List UInt8} (h:P x):Pls P x
 |more {x y:List UInt8} (h:P x) (k:Pls P y):Pls P (x++y)
def RepL (P:List UInt8→Prop) (o r:Bool) (x:List UInt8):Prop:=(o=true∧x= [])∨(if r=true then Pls P x else P x)
mutual
def Lg:Pat→List UInt8→Prop
 | .byte b=>fun x=>x= [b]
 | .cls f=>fun x=>∃c,x= [c]∧f c=true
 | .rep t o r=>RepL (Lg t) o r
 | .alt os=>LgA os
def LgA:List (List Pat)→List UInt8→Prop
 | []=>fun _=>False
 |ts::os=>fun x=>LgS ts x∨LgA os x
def LgS:List Pat→List UInt8→Prop
 | []=>fun x=>x= []
 |t::ts=>fun x=>∃y z,x=y++z∧Lg t y∧LgS ts z
end
theorem yQa:∀(os:List (List Pat)) (x:List UInt8),LgA os x↔∃ts∈os,LgS ts x
 | [],x=>by simp[LgA]
 |ts::os,x=>by simp[LgA,yQa os x]
mutual
def nulB:Pat→Bool
 | .byte _=>false
 | .cls _=>false
 | .rep t o _=>o || nulB t
 | .alt os=>nulA os
def nulA:List (List Pat)→Bool
 | []=>false
 |ts::os=>nulS ts || nulA os
def nulS:List Pat→Bool
 | []=>true
 |t::ts=>nulB t && nulS ts
end
abbrev PS:=Nat→Bool
def sOr (F G:PS):PS:=fun i=>F i || G i
def sOne (a:Nat):PS:=fun i=>i==a
def sNo:PS:=fun _=>false
structure Lay where
 nx:Nat
 fst:PS
 lst:PS
 tk:Nat→UInt8→Bool
 ed:Nat→Nat→Bool
def Lay.no (a:Nat):Lay:=⟨a,sNo,sNo,fun _ _=>false,fun _ _=>false⟩
def Lay.seq (g:Lay) (em nt:Bool) (l:Lay):Lay:=
 ⟨l.nx,if em=true then sOr g.fst l.fst else g.fst,if nt=true then sOr g.lst l.lst else l.lst,fun p c=>g.tk p c || l.tk p c,fun p q=>g.ed p q || l.ed p q || (g.lst p && l.fst q)⟩
def Lay.alt (g l:Lay):Lay:=⟨l.nx,sOr g.fst l.fst,sOr g.lst l.lst,fun p c=>g.tk p c || l.tk p c,fun p q=>g.ed p q || l.ed p q⟩
def Lay.rep (l:Lay) (r:Bool):Lay:=⟨l.nx,l.fst,l.lst,l.tk,fun p q=>l.ed p q || (r && l.lst p && l.fst q)⟩
mutual
def lyP:Pat→Nat→Lay
 | .byte b,a=>⟨a+1,sOne a,sOne a,fun p c=>p==a && c==b,fun _ _=>false⟩
 | .cls f,a=>⟨a+1,sOne a,sOne a,fun p c=>p==a && f c,fun _ _=>false⟩
 | .rep t _ r,a=>(lyP t a).rep r
 | .alt os,a=>lyA os (Lay.no a)
def lyA:List (List Pat)→Lay→Lay
 | [],g=>g
 |ts::os,g=>lyA os (g.alt (lyS ts true (Lay.no g.nx)))
def lyS:List Pat→Bool→Lay→Lay
 | [],_,g=>g
 |t::ts,em,g=>lyS ts (em && nulB t) (g.seq em (nulB t) (lyP t g.nx))
end
inductive Pth (l:Lay):Nat→List UInt8→Nat→Prop
 |nil (p:Nat):Pth l p [] p
 |step {p p' q:Nat} {c:UInt8} {xs:List UInt8} (he:l.ed p p'=true) (ht:l.tk p' c=true) (h:Pth l p' xs q):Pth l p (c::xs) q
def Wd (l:Lay) (x:List UInt8):Prop:=∃c xs p q,x=c::xs∧l.fst p=true∧l.tk p c=true∧Pth l p xs q∧l.lst q=true
structure Spt (a:Nat) (l:Lay):Prop where
 le:a≤l.nx
 fst:∀p,l.fst p=true→a≤p∧p<l.nx
 lst:∀p,l.lst p=true→a≤p∧p<l.nx
 tk:∀p c,l.tk p c=true→a≤p∧p<l.nx
 ed:∀p q,l.ed p q=true→(a≤p∧p<l.nx)∧a≤q∧q<l.nx
structure Cor (a:Nat) (l:Lay) (P:List UInt8→Prop) (em:Bool):Prop where
 spt:Spt a l
 wd:∀x,P x↔(x= []∧em=true)∨Wd l x
variable {a p q:Nat} {l:Lay} {xs:List UInt8}
theorem Pth.in (hs:Spt a l) (h:Pth l p xs q) (hp:a≤p∧p<l.nx):a≤q∧q<l.nx:=by
 induction h with
 |nil p=>exact hp
 |step he ht h ih=>exact ih (hs.ed _ _ he).2
theorem Pth.cat {r:Nat} {ys:List UInt8} (h:Pth l p xs q) (k:Pth l q ys r):Pth l p (xs++ys) r:=by
 induction h with
 |nil p=>exact k
 |step he ht h ih=>exact .step he ht (ih k)
theorem Pth.mono {m:Lay} (h1:∀p q,l.ed p q=true→m.ed p q=true) (h2:∀p c,l.tk p c=true→m.tk p c=true) (h:Pth l p xs q):Pth m p xs q:=by
 induction h with
 |nil p=>exact .nil p
 |step he ht h ih=>exact .step (h1 _ _ he) (h2 _ _ ht) ih
theorem wd_ne:¬Wd l []:=fun⟨c,xs,p,q,h,_⟩=>by cases h
variable {P:List UInt8→Prop} {em:Bool}
theorem Cor.nul (h:Cor a l P em):P []↔em=true:=by
 rw[h.wd];constructor
 ·rintro(⟨_,q⟩|q)
  ·exact q
  ·exact(wd_ne q).elim
 ·exact fun q=>.inl ⟨rfl,q⟩
theorem yVg (a:Nat):Cor a (Lay.no a) (fun x=>x= []) true:=by
 refine⟨⟨Nat.le_refl _,?_,?_,?_,?_⟩,fun x=>?_⟩
 ·intro p h;cases h
 ·intro p h;cases h
 ·intro p c h;cases h
 ·intro p q h;cases h
 ·constructor
  ·exact fun h=>.inl ⟨h,rfl⟩
  ·rintro(⟨h,_⟩|⟨c,xs,p,q,_,h,_⟩)
   ·exact h
   ·cases h
theorem yX (a:Nat):Cor a (Lay.no a) (fun _=>False) false:=by
 refine⟨(yVg a).spt,fun x=>?_⟩;constructor
 ·exact fun h=>h.elim
 ·rintro(⟨_,h⟩|⟨c,xs,p,q,_,h,_⟩)
  ·cases h
  ·cases h
theorem yVf (a:Nat) (f:UInt8→Bool) (T:Nat→UInt8→Bool) (hT:∀p c,T p c=(p==a && f c)):Cor a ⟨a+1,sOne a,sOne a,T,fun _ _=>false⟩ (fun x=>∃c,x= [c]∧f c=true) false:=by
 refine⟨⟨Nat.le_succ _,?_,?_,?_,?_⟩,fun x=>?_⟩
 ·intro p h;simp[sOne]at h;simp;omega
 ·intro p h;simp[sOne]at h;simp;omega
 ·intro p c h;simp[hT]at h;simp;omega
 ·intro p q h;cases h
 ·constructor
  ·rintro⟨c,rfl,hc⟩;exact .inr ⟨c,[],a,a,rfl,by simp[sOne],by simp[hT,hc],.nil a,by simp[sOne]⟩
  ·rintro(⟨_,h⟩|⟨c,xs,p,q,rfl,h1,h2,h3,_⟩)
   ·cases h
   ·cases h3 with
    |nil=>simp[hT]at h2;exact⟨c,rfl,h2.2⟩
    |step he _ _=>cases he
section
variable {a:Nat} {g l:Lay} {em nt:Bool}
theorem yQk (hg:Spt a g) (hl:Spt g.nx l) (h:Pth (g.seq em nt l) p xs q):
  ((g.nx≤p∧p<l.nx)→Pth l p xs q)∧((a≤p∧p<g.nx)→Pth g p xs q∨∃xs1 c xs2 p1 q1,xs=xs1++c::xs2∧Pth g p xs1 p1∧g.lst p1=true∧l.fst q1=true∧l.tk q1 c=true∧Pth l q1 xs2 q):=by
 induction h with
 |nil p=>exact⟨fun _=>.nil p,fun _=>.inl (.nil p)⟩
 | @step p p' q c xs he ht h ih=>
   simp only[Lay.seq,Bool.or_eq_true,Bool.and_eq_true]at he ht;refine⟨fun hp=>?_,fun hp=>?_⟩
   ·rcases he with(he|he)|he
    ·have:=(hg.ed _ _ he).1;omega
    ·have hp':=(hl.ed _ _ he).2;rcases ht with ht|ht
     ·have:=hg.tk _ _ ht;omega
     ·exact .step he ht (ih.1 hp')
    ·have:=hg.lst _ he.1;omega
   ·rcases he with(he|he)|he
    ·have hp':=(hg.ed _ _ he).2;rcases ht with ht|ht
     ·rcases ih.2 hp' with k|⟨xs1,c1,xs2,p1,q1,rfl,k1,k2⟩
      ·exact .inl (.step he ht k)
      ·exact .inr ⟨c::xs1,c1,xs2,p1,q1,rfl,.step he ht k1,k2⟩
     ·have:=hl.tk _ _ ht;omega
    ·have:=(hl.ed _ _ he).1;omega
    ·have hp':=hl.fst _ he.2;rcases ht with ht|ht
     ·have:=hg.tk _ _ ht;omega
     ·exact .inr ⟨[],c,xs,p,p',rfl,.nil p,he.1,he.2,ht,ih.1 hp'⟩
theorem seq_g (h:Pth g p xs q):Pth (g.seq em nt l) p xs q:=h.mono (fun p q h=>by simp[Lay.seq,h]) (fun p c h=>by simp[Lay.seq,h])
theorem seq_l (h:Pth l p xs q):Pth (g.seq em nt l) p xs q:=h.mono (fun p q h=>by simp[Lay.seq,h]) (fun p c h=>by simp[Lay.seq,h])
theorem yZz {G:List UInt8→Prop} (hg:Cor a g G em) (hl:Cor g.nx l P nt):Cor a (g.seq em nt l) (fun x=>∃y z,x=y++z∧G y∧P z) (em && nt):=by
 have sg:=hg.spt;have sl:=hl.spt;have hle:=sg.le;have hle2:=sl.le;have ff:∀p,(g.seq em nt l).fst p=true↔g.fst p=true∨(em=true∧l.fst p=true):=fun p=>by cases em<;>simp[Lay.seq,sOr]
 have fl:∀p,(g.seq em nt l).lst p=true↔(nt=true∧g.lst p=true)∨l.lst p=true:=fun p=>by cases nt<;>simp[Lay.seq,sOr]
 refine⟨⟨Nat.le_trans hle hle2,fun p h=>?_,fun p h=>?_,fun p c h=>?_,fun p q h=>?_⟩,fun x=>?_⟩
 ·show a≤p∧p<l.nx;rcases(ff p).1 h with h|⟨_,h⟩
  ·have:=sg.fst p h;omega
  ·have:=sl.fst p h;omega
 ·show a≤p∧p<l.nx;rcases(fl p).1 h with⟨_,h⟩|h
  ·have:=sg.lst p h;omega
  ·have:=sl.lst p h;omega
 ·show a≤p∧p<l.nx;simp only[Lay.seq,Bool.or_eq_true]at h;rcases h with h|h
  ·have:=sg.tk p c h;omega
  ·have:=sl.tk p c h;omega
 ·show(a≤p∧p<l.nx)∧a≤q∧q<l.nx;simp only[Lay.seq,Bool.or_eq_true,Bool.and_eq_true]at h;rcases h with(h|h)|⟨h,k⟩
  ·have:=sg.ed p q h;omega
  ·have:=sl.ed p q h;omega
  ·have:=sg.lst p h;have:=sl.fst q k;omega
 ·constructor
  ·rintro⟨y,z,rfl,hy,hz⟩;rcases(hg.wd y).1 hy with⟨rfl,e1⟩|⟨c,xs,p,q,rfl,h1,h2,h3,h4⟩
   ·rcases(hl.wd z).1 hz with⟨rfl,e2⟩|⟨c,xs,p,q,rfl,h1,h2,h3,h4⟩
    ·exact .inl ⟨rfl,by rw[e1,e2];rfl⟩
    ·exact .inr ⟨c,xs,p,q,rfl,(ff p).2 (.inr ⟨e1,h1⟩),by simp[Lay.seq,h2],seq_l h3,(fl q).2 (.inr h4)⟩
   ·rcases(hl.wd z).1 hz with⟨rfl,e2⟩|⟨c',xs',p',q',rfl,k1,k2,k3,k4⟩
    ·exact .inr ⟨c,xs,p,q,by simp,(ff p).2 (.inl h1),by simp[Lay.seq,h2],seq_g h3,(fl q).2 (.inl ⟨e2,h4⟩)⟩
    ·refine .inr ⟨c,xs++c'::xs',p,q',by simp,(ff p).2 (.inl h1),by simp[Lay.seq,h2],(seq_g h3).cat (.step ?_ (by simp[Lay.seq,k2]) (seq_l k3)),(fl q').2 (.inr k4)⟩;simp[Lay.seq,h4,k1]
  ·rintro(⟨rfl,e⟩|⟨c,xs,p,q,rfl,h1,h2,h3,h4⟩)
   ·simp only[Bool.and_eq_true]at e;exact⟨[],[],rfl,hg.nul.2 e.1,hl.nul.2 e.2⟩
   ·simp only[Lay.seq,Bool.or_eq_true]at h2;rcases(ff p).1 h1 with k1|⟨e1,k1⟩
    ·have hp:=sg.fst p k1;have t1:g.tk p c=true:=by
      rcases h2 with h2|h2
      ·exact h2
      ·have:=sl.tk p c h2;omega
     rcases(yQk sg sl h3).2 hp with k|⟨xs1,c1,xs2,p1,q1,rfl,k2,k3,k4,k5,k6⟩
     ·have hq:=k.in sg hp;rcases(fl q).1 h4 with⟨e2,h4⟩|h4
      ·exact⟨c::xs,[],by simp,(hg.wd _).2 (.inr ⟨c,xs,p,q,rfl,k1,t1,k,h4⟩),hl.nul.2 e2⟩
      ·have:=sl.lst q h4;omega
     ·have hq:=k6.in sl (sl.fst _ k4);rcases(fl q).1 h4 with⟨_,h4⟩|h4
      ·have:=sg.lst q h4;omega
      ·exact⟨c::xs1,c1::xs2,by simp,(hg.wd _).2 (.inr ⟨c,xs1,p,p1,rfl,k1,t1,k2,k3⟩),(hl.wd _).2 (.inr ⟨c1,xs2,q1,q,rfl,k4,k5,k6,h4⟩)⟩
    ·have hp:=sl.fst p k1;have t1:l.tk p c=true:=by
      rcases h2 with h2|h2
      ·have:=sg.tk p c h2;omega
      ·exact h2
     have k:=(yQk sg sl h3).1 hp;have hq:=k.in sl hp;rcases(fl q).1 h4 with⟨_,h4⟩|h4
     ·have:=sg.lst q h4;omega
     ·exact⟨[],c::xs,rfl,hg.nul.2 e1,(hl.wd _).2 (.inr ⟨c,xs,p,q,rfl,k1,t1,k,h4⟩)⟩
theorem yRk (hg:Spt a g) (hl:Spt g.nx l) (h:Pth (g.alt l) p xs q):
  ((g.nx≤p∧p<l.nx)→Pth l p xs q)∧((a≤p∧p<g.nx)→Pth g p xs q):=by
 induction h with
 |nil p=>exact⟨fun _=>.nil p,fun _=>.nil p⟩
 | @step p p' q c xs he ht h ih=>
   simp only[Lay.alt,Bool.or_eq_true]at he ht;refine⟨fun hp=>?_,fun hp=>?_⟩
   ·rcases he with he|he
    ·have:=(hg.ed _ _ he).1;omega
    ·have hp':=(hl.ed _ _ he).2;rcases ht with ht|ht
     ·have:=hg.tk _ _ ht;omega
     ·exact .step he ht (ih.1 hp')
   ·rcases he with he|he
    ·have hp':=(hg.ed _ _ he).2;rcases ht with ht|ht
     ·exact .step he ht (ih.2 hp')
     ·have:=hl.tk _ _ ht;omega
    ·have:=(hl.ed _ _ he).1;omega
theorem alt_g (h:Pth g p xs q):Pth (g.alt l) p xs q:=h.mono (fun p q h=>by simp[Lay.alt,h]) (fun p c h=>by simp[Lay.alt,h])
theorem alt_l (h:Pth l p xs q):Pth (g.alt l) p xs q:=h.mono (fun p q h=>by simp[Lay.alt,h]) (fun p c h=>by simp[Lay.alt,h])
theorem yZ1 {G:List UInt8→Prop} (hg:Cor a g G em) (hl:Cor g.nx l P nt):Cor a (g.alt l) (fun x=>G x∨P x) (em || nt):=by
 have sg:=hg.spt;have sl:=hl.spt;have hle:=sg.le;have hle2:=sl.le;refine⟨⟨Nat.le_trans hle hle2,fun p h=>?_,fun p h=>?_,fun p c h=>?_,fun p q h=>?_⟩,fun x=>?_⟩
 ·show a≤p∧p<l.nx;simp only[Lay.alt,sOr,Bool.or_eq_true]at h;rcases h with h|h
  ·have:=sg.fst p h;omega
  ·have:=sl.fst p h;omega
 ·show a≤p∧p<l.nx;simp only[Lay.alt,sOr,Bool.or_eq_true]at h;rcases h with h|h
  ·have:=sg.lst p h;omega
  ·have:=sl.lst p h;omega
 ·show a≤p∧p<l.nx;simp only[Lay.alt,Bool.or_eq_true]at h;rcases h with h|h
  ·have:=sg.tk p c h;omega
  ·have:=sl.tk p c h;omega
 ·show(a≤p∧p<l.nx)∧a≤q∧q<l.nx;simp only[Lay.alt,Bool.or_eq_true]at h;rcases h with h|h
  ·have:=sg.ed p q h;omega
  ·have:=sl.ed p q h;omega
 ·constructor
  ·rintro(h|h)
   ·rcases(hg.wd x).1 h with⟨rfl,e1⟩|⟨c,xs,p,q,rfl,h1,h2,h3,h4⟩
    ·exact .inl ⟨rfl,by rw[e1];rfl⟩
    ·exact .inr ⟨c,xs,p,q,rfl,by simp[Lay.alt,sOr,h1],by simp[Lay.alt,h2],alt_g h3,by simp[Lay.alt,sOr,h4]⟩
   ·rcases(hl.wd x).1 h with⟨rfl,e1⟩|⟨c,xs,p,q,rfl,h1,h2,h3,h4⟩
    ·exact .inl ⟨rfl,by rw[e1,Bool.or_true]⟩
    ·exact .inr ⟨c,xs,p,q,rfl,by simp[Lay.alt,sOr,h1],by simp[Lay.alt,h2],alt_l h3,by simp[Lay.alt,sOr,h4]⟩
  ·rintro(⟨rfl,e⟩|⟨c,xs,p,q,rfl,h1,h2,h3,h4⟩)
   ·simp only[Bool.or_eq_true]at e;rcases e with e|e
    ·exact .inl (hg.nul.2 e)
    ·exact .inr (hl.nul.2 e)
   ·simp only[Lay.alt,sOr,Bool.or_eq_true]at h1 h2 h4;rcases h1 with k1|k1
    ·have hp:=sg.fst p k1;have k:=(yRk sg sl h3).2 hp;have hq:=k.in sg hp;refine .inl ((hg.wd _).2 (.inr ⟨c,xs,p,q,rfl,k1,?_,k,?_⟩))
     ·rcases h2 with h2|h2
      ·exact h2
      ·have:=sl.tk p c h2;omega
     ·rcases h4 with h4|h4
      ·exact h4
      ·have:=sl.lst q h4;omega
    ·have hp:=sl.fst p k1;have k:=(yRk sg sl h3).1 hp;have hq:=k.in sl hp;refine .inr ((hl.wd _).2 (.inr ⟨c,xs,p,q,rfl,k1,?_,k,?_⟩))
     ·rcases h2 with h2|h2
      ·have:=sg.tk p c h2;omega
      ·exact h2
     ·rcases h4 with h4|h4
      ·have:=sg.lst q h4;omega
      ·exact h4
end
theorem yY8 {r:Bool} (h:Pth l p xs q):Pth (l.rep r) p xs q:=Pth.mono (l:=l) (m:=l.rep r) (fun p q k=>by simp[Lay.rep,k]) (fun p c k=>k) h
theorem yWm (h:Pth (l.rep true) p xs q):Pth l p xs q∨∃xs1 c xs2 p1 q1,xs=xs1++c::xs2∧Pth l p xs1 p1∧l.lst p1=true∧l.fst q1=true∧l.tk q1 c=true∧Pth (l.rep true) q1 xs2 q:=by
 induction h with
 |nil p=>exact .inl (.nil p)
 | @step p p' q c xs he ht h ih=>
   simp only[Lay.rep,Bool.or_eq_true,Bool.and_eq_true,true_and]at he ht;rcases he with he|he
   ·rcases ih with k|⟨xs1,c1,xs2,p1,q1,rfl,k1,k2⟩
    ·exact .inl (.step he ht k)
    ·exact .inr ⟨c::xs1,c1,xs2,p1,q1,rfl,.step he ht k1,k2⟩
   ·exact .inr ⟨[],c,xs,p,p',rfl,.nil p,he.1,he.2,ht,h⟩
theorem yNe (hw:∀x,Wd l x→P x):∀(n:Nat) {x:List UInt8},x.length≤n→Wd (l.rep true) x→Pls P x
 |0,x,hn,⟨c,xs,p,q,hx,_⟩=>by subst hx;simp at hn
 |n+1,x,hn,⟨c,xs,p,q,hx,h1,h2,h3,h4⟩=>by
  subst hx
  rcases yWm h3 with k|⟨xs1,c1,xs2,p1,q1,rfl,k1,k2,k3,k4,k5⟩
  ·exact .one (hw _ ⟨c,xs,p,q,rfl,h1,h2,k,h4⟩)
  ·have e:c::(xs1++c1::xs2)=(c::xs1)++(c1::xs2):=by simp
   rw[e]
   refine .more (hw _ ⟨c,xs1,p,p1,rfl,h1,h2,k1,k2⟩) (yNe hw n ?_ ⟨c1,xs2,q1,q,rfl,k3,k4,k5,h4⟩)
   simp at hn⊢;omega
theorem yZ0 (h:Cor a l P em) (o r:Bool):Cor a (l.rep r) (RepL P o r) (o || em):=by
 have s:=h.spt;refine⟨⟨s.le,s.fst,s.lst,s.tk,fun p q k=>?_⟩,fun x=>?_⟩
 ·simp only[Lay.rep,Bool.or_eq_true,Bool.and_eq_true]at k;rcases k with k|⟨⟨_,k1⟩,k2⟩
  ·exact s.ed p q k
  ·exact⟨s.lst p k1,s.fst q k2⟩
 ·cases r with
  |false=>
   have e:∀x,Wd (l.rep false) x↔Wd l x:=fun x=>by
    have:l.rep false=l:=by simp[Lay.rep]
    rw[this]
   unfold RepL;rw[if_neg (by decide),e,h.wd];cases o<;>cases em<;>simp
  |true=>
   unfold RepL;rw[if_pos rfl];constructor
   ·rintro(⟨rfl,rfl⟩|k)
    ·exact .inl ⟨rfl,rfl⟩
    ·induction k with
     |one hx=>
      rcases(h.wd _).1 hx with⟨rfl,e⟩|⟨c,xs,p,q,rfl,h1,h2,h3,h4⟩
      ·exact .inl ⟨rfl,by rw[e,Bool.or_true]⟩
      ·exact .inr ⟨c,xs,p,q,rfl,h1,h2,yY8 h3,h4⟩
     | @more x y hx k ih=>
       rcases(h.wd _).1 hx with⟨rfl,e⟩|⟨c,xs,p,q,rfl,h1,h2,h3,h4⟩
       ·exact ih
       ·rcases ih with⟨rfl,e⟩|⟨c',xs',p',q',rfl,k1,k2,k3,k4⟩
        ·exact .inr ⟨c,xs,p,q,by simp,h1,h2,yY8 h3,h4⟩
        ·refine .inr ⟨c,xs++c'::xs',p,q',by simp,h1,h2,(yY8 h3).cat (.step ?_ k2 k3),k4⟩;have k1':l.fst p'=true:=k1;simp[Lay.rep,h4,k1']
   ·rintro(⟨rfl,e⟩|k)
    ·simp only[Bool.or_eq_true]at e;rcases e with e|e
     ·exact .inl ⟨e,rfl⟩
     ·exact .inr (.one (h.nul.2 e))
    ·exact .inr (yNe (fun x hx=>(h.wd x).2 (.inr hx)) _ (Nat.le_refl _) k)
theorem Cor.iff {Q:List UInt8→Prop} (h:Cor a l P em) (hq:∀x,Q x↔P x):Cor a l Q em:=⟨h.spt,fun x=>(hq x).trans (h.wd x)⟩
mutual
theorem yOb:∀(t:Pat) (a:Nat),Cor a (lyP t a) (Lg t) (nulB t)
 | .byte b,a=>by
   refine(yVf a (fun c=>c==b) _ (fun p c=>rfl)).iff (fun x=>?_)
   simp[Lg]
 | .cls f,a=>by
   refine(yVf a f _ (fun p c=>rfl)).iff (fun x=>?_)
   simp[Lg]
 | .rep t o r,a=>by
   have:=yZ0 (yOb t a) o r
   simp only[lyP,nulB,Lg]
   exact this
 | .alt os,a=>by
   have:=cor_A os a (Lay.no a) _ _ (yX a)
   simp only[lyP,nulB,Lg]
   refine(show Cor a (lyA os (Lay.no a)) _ (nulA os)from ?_)
   rw[Bool.false_or]at this
   exact this.iff (fun x=>by simp)
theorem cor_A:∀(os:List (List Pat)) (a:Nat) (g:Lay) (G:List UInt8→Prop) (em:Bool),Cor a g G em→Cor a (lyA os g) (fun x=>G x∨LgA os x) (em || nulA os)
 | [],a,g,G,em,h=>by
   simp only[lyA,nulA,LgA,or_false,Bool.or_false]
   exact h
 |ts::os,a,g,G,em,h=>by
  have h1:=yZ2 ts g.nx (Lay.no g.nx) _ _ (yVg g.nx)
  rw[Bool.true_and]at h1
  have h2:=cor_A os a _ _ _ (yZ1 h h1)
  simp only[lyA,nulA,LgA,←Bool.or_assoc]
  refine h2.iff (fun x=>?_)
  have e:(∃y z,x=y++z∧y= []∧LgS ts z)↔LgS ts x:=by
   constructor
   ·rintro⟨y,z,rfl,rfl,h⟩;exact h
   ·exact fun h=>⟨[],x,rfl,rfl,h⟩
  rw[e,or_assoc]
theorem yZ2:∀(ts:List Pat) (a:Nat) (g:Lay) (G:List UInt8→Prop) (em:Bool),Cor a g G em→Cor a (lyS ts em g) (fun x=>∃y z,x=y++z∧G y∧LgS ts z) (em && nulS ts)
 | [],a,g,G,em,h=>by
   simp only[lyS,nulS,LgS,Bool.and_true]
   refine h.iff (fun x=>?_)
   constructor
   ·rintro⟨y,z,rfl,hy,rfl⟩;simpa using hy
   ·exact fun h=>⟨x,[],by simp,h,rfl⟩
 |t::ts,a,g,G,em,h=>by
  have h2:=yZ2 ts a _ _ _ (yZz h (yOb t g.nx))
  simp only[lyS,nulS,LgS,←Bool.and_assoc]
  refine h2.iff (fun x=>?_)
  constructor
  ·rintro⟨y,z,rfl,hy,u,v,rfl,hu,hv⟩;exact⟨y++u,v,by simp,⟨y,u,rfl,hy,hu⟩,hv⟩
  ·rintro⟨y,z,rfl,⟨u,v,rfl,hu,hv⟩,hz⟩;exact⟨u,v++z,by simp,hu,v,z,rfl,hv,hz⟩
end
end
def ofB (f:Nat→Bool):Nat→Nat
 |0=>0
 |n+1=>ofB f n |||(if f n=true then 2^n else 0)
theorem yCy (f:Nat→Bool):∀(n j:Nat),(ofB f n).testBit j=(decide (j<n) && f j)
 |0,j=>by simp[ofB]
 |n+1,j=>by
  unfold ofB
  rw[Nat.testBit_or,yCy f n j]
  by_cases hf:f n=true
  ·rw[if_pos hf,Nat.testBit_two_pow]
   by_cases h:j=n
   ·subst h;simp[hf]
   ·have h1:decide (n=j)=false:=by simp;omega
    have h2:decide (j<n+1)=decide (j<n):=by rw[decide_eq_decide];omega
    rw[h1,h2];simp
  ·rw[if_neg hf,Nat.zero_testBit]
   by_cases h:j=n
   ·subst h;simp[hf]
   ·have h2:decide (j<n+1)=decide (j<n):=by rw[decide_eq_decide];omega
    rw[h2];simp
theorem yUg (f:Nat→Bool) (n:Nat):ofB f n<2^n:=by
 refine Nat.lt_pow_two_of_testBit _ (fun i hi=>?_);rw[yCy];have:decide (i<n)=false:=by simp;omega
 rw[this];rfl
variable {f:Nat→Bool}
theorem yLl {x:Nat} (hx:x<2^n) (h:∀j,j<n→x.testBit j=f j):x=ofB f n:=by
 refine Nat.eq_of_testBit_eq (fun j=>?_);rw[yCy];by_cases hj:j<n
 ·rw[h j hj];simp[hj]
 ·rw[Nat.testBit_lt_two_pow (Nat.lt_of_lt_of_le hx (Nat.pow_le_pow_right (by decide) (by omega)))];simp[hj]
theorem yG4 {g:Nat→Bool} (h:∀j,j<n→f j=g j):ofB f n=ofB g n:=yLl (yUg f n) (fun j hj=>by rw[yCy,h j hj];simp[hj])
def wdF (S:PS) (i b:Nat):Nat:=ofB (fun j=>S (64*i+j) && decide (b≤j)) 64
def wdN (S:PS) (i:Nat):Nat:=ofB (fun j=>S (64*i+j)) 64
theorem yV6 (S:PS) (i:Nat):wdF S i 0=wdN S i:=yG4 (fun j _=>by simp)
theorem yG (S:PS) (i:Nat):wdN S i<18446744073709551616:=yUg _ 64
theorem yXw (S:PS) (i b:Nat):wdF S i b<18446744073709551616:=yUg _ 64
def sAnd (F G:PS):PS:=fun i=>F i && G i
theorem wd_or (S T:PS) (i:Nat):bits .or .u64 (wdN S i:Int) (wdN T i:Int)=((wdN (sOr S T) i:Nat):Int):=by rw[bits_or_u64_nat _ _ (yG _ _) (yG _ _)];congr 1;refine yLl (Nat.or_lt_two_pow (yG _ _) (yG _ _)) (fun j hj=>?_);rw[Nat.testBit_or];unfold wdN;rw[yCy,yCy];simp[hj,sOr]
theorem wd_and (S T:PS) (i:Nat):bits .and .u64 (wdN S i:Int) (wdN T i:Int)=((wdN (sAnd S T) i:Nat):Int):=by rw[bits_and_u64_nat _ _ (yG _ _) (yG _ _)];congr 1;refine yLl (Nat.and_lt_two_pow _ (yG _ _)) (fun j hj=>?_);rw[Nat.testBit_and];unfold wdN;rw[yCy,yCy];simp[hj,sAnd]
theorem yLt (S:PS) (a i:Nat) (hi:i=a/64):bits .or .u64 (wdN S i:Int) ((2^(a%64):Nat):Int)=((wdN (sOr S (sOne a)) i:Nat):Int):=by
 have hp:2^(a%64)<18446744073709551616:=Nat.pow_lt_pow_right (a:=2) (by decide) (Nat.mod_lt a (by decide):a%64<64);rw[bits_or_u64_nat _ _ (yG _ _) hp];congr 1;refine yLl (Nat.or_lt_two_pow (yG _ _) hp) (fun j hj=>?_);rw[Nat.testBit_or,Nat.testBit_two_pow];unfold wdN;rw[yCy];have h:decide (a%64=j)=(64*i+j==a):=by rw[Bool.eq_iff_iff,decide_eq_true_eq,beq_iff_eq];omega
 simp only[hj,decide_true,Bool.true_and,sOr,sOne,h]
theorem yBm (S:PS) (a i:Nat) (hi:¬i=a/64):wdN (sOr S (sOne a)) i=wdN S i:=by
 refine yG4 (fun j hj=>?_);have h:(64*i+j==a)=false:=by rw[beq_eq_false_iff_ne];omega
 simp only[sOr,sOne,h,Bool.or_false]
theorem yZs (x:Nat) (h0:x≠0) (hx:x<18446744073709551616):Lib.ctz 64 x<64∧x.testBit (Lib.ctz 64 x)=true∧(∀j,j<Lib.ctz 64 x→x.testBit j=false)∧∀j,(x &&& (x-1)).testBit j=(decide (Lib.ctz 64 x<j) && x.testBit j):=by
 obtain⟨m,hm,hk⟩:=Lib.ctzFrom_spec 64 x (by omega) hx;have e:Lib.ctz 64 x=Lib.ctzFrom 64 x:=by simp[Lib.ctz,h0]
 rw[e];generalize Lib.ctzFrom 64 x=k at hm hk;have hb:∀j,x.testBit j=(decide (k≤j) && (2*m+1).testBit (j-k)):=fun j=>by rw[hm,Nat.mul_comm,Nat.testBit_mul_two_pow]
 have hp:0<2^k:=Nat.pow_pos (by decide);have hd:(x-1)/2^k=2*m:=by
  have h1:x-1=2^k*(2*m)+(2^k-1):=by rw[hm,Nat.mul_add];omega
  rw[h1,Nat.mul_add_div hp,Nat.div_eq_of_lt (by omega),Nat.add_zero]
 have hb1:∀j,k≤j→(x-1).testBit j=(2*m).testBit (j-k):=fun j hj=>by rw[←hd,Nat.testBit_div_two_pow];congr 1;omega
 refine⟨hk,by rw[hb];simp,fun j hj=>by rw[hb];have:decide (k≤j)=false:=by simp;omega
                                       rw[this];rfl,fun j=>?_⟩
 rw[Nat.testBit_and,hb j];by_cases h1:k≤j
 ·rw[hb1 j h1];by_cases h2:j=k
  ·subst h2;simp
  ·obtain⟨t,rfl⟩:∃t,j=k+(t+1):=⟨j-k-1,by omega⟩;have e3:k+(t+1)-k=t+1:=by omega
   have e4:decide (k<k+(t+1))=true:=by simp
   have d1:(2*m+1)/2=m:=by omega
   have d2:(2*m)/2=m:=by omega
   rw[e3,e4,Nat.testBit_succ,Nat.testBit_succ,d1,d2];simp
 ·have h2:decide (k≤j)=false:=by simp;omega
  have h3:decide (k<j)=false:=by simp;omega
  rw[h2,h3];simp
variable {S:PS}
theorem yYt {x:Nat} (hx:x=wdF S i b) (h0:x≠0):Lib.ctz 64 x<64∧S (64*i+Lib.ctz 64 x)=true∧b≤Lib.ctz 64 x∧(∀j,b≤j→j<Lib.ctz 64 x→S (64*i+j)=false)∧x &&& (x-1)=wdF S i (Lib.ctz 64 x+1):=by
 have hl:x<18446744073709551616:=by rw[hx];exact yXw _ _ _
 obtain⟨h1,h2,h3,h4⟩:=yZs x h0 hl;generalize Lib.ctz 64 x=k at h1 h2 h3 h4;have hb:∀j,j<64→x.testBit j=(S (64*i+j) && decide (b≤j)):=fun j hj=>by rw[hx];unfold wdF;rw[yCy];simp[hj]
 rw[hb k h1,Bool.and_eq_true,decide_eq_true_eq]at h2;refine⟨h1,h2.1,h2.2,fun j hbj hj=>?_,?_⟩
 ·have:=h3 j hj;rw[hb j (by omega)]at this;simpa [hbj]using this
 ·refine yLl (Nat.and_lt_two_pow _ (by omega)) (fun j hj=>?_);rw[h4 j,hb j hj];by_cases q:k<j
  ·have q1:decide (k+1≤j)=true:=by simp;omega
   have q2:decide (b≤j)=true:=by have:=h2.2;simp;omega
   rw[q1,q2];simp[q]
  ·have q1:decide (k+1≤j)=false:=by simp;omega
   rw[q1];simp[q]
theorem yV7 (h:wdF S i b=0) (j:Nat) (hb:b≤j) (hj:j<64):S (64*i+j)=false:=by
 have h1:(wdF S i b).testBit j=(S (64*i+j) && decide (b≤j)):=by unfold wdF;rw[yCy];simp[hj]
 rw[h,Nat.zero_testBit]at h1;simpa [hb]using h1.symm
theorem yOw (x:Nat) (h0:x≠0) (hx:x<18446744073709551616):bits .and .u64 (x:Int) (IntKind.u64.wrap ((x:Int)-1))=((x &&& (x-1):Nat):Int):=by
 have e1:IntKind.u64.wrap ((x:Int)-1)=((x-1:Nat):Int):=by rw[IntKind.wrap_u64];omega
 rw[e1,bits_and_u64_nat x _ hx (by omega)]
def psL (S:PS):List Value:= [.int .u64 (wdN S 0:Int),.int .u64 (wdN S 1:Int),.int .u64 (wdN S 2:Int),.int .u64 (wdN S 3:Int)]
abbrev psV (S:PS):Value:=.agg #[.int .u64 (wdN S 0:Int),.int .u64 (wdN S 1:Int),.int .u64 (wdN S 2:Int),.int .u64 (wdN S 3:Int)]
variable {T:PS}
theorem yDl (h:∀p,p<256→S p=T p) (hi:i<4):wdN S i=wdN T i:=yG4 (fun j hj=>h _ (by omega))
theorem yE4 (i:Nat):wdN sNo i=0:=by refine(yLl (by decide) (fun j _=>?_)).symm;simp[sNo]
theorem yYs (h:wdN S i=wdN T i) (j:Nat) (hj:j<64):S (64*i+j)=T (64*i+j):=by
 have h1:(wdN S i).testBit j=S (64*i+j):=by unfold wdN;rw[yCy];simp[hj]
 have h2:(wdN T i).testBit j=T (64*i+j):=by unfold wdN;rw[yCy];simp[hj]
 rw[←h1,←h2,h]
theorem yM4 (h:∀i,i<4→wdN S i=wdN T i) (p:Nat) (hp:p<256):S p=T p:=by have:=yYs (h (p/64) (by omega)) (p%64) (by omega);rwa [show 64*(p/64)+p%64=p by omega]at this
def TabD (w:World):Prop:=∀j,j<64→w.cell? ⟨1,j,none⟩=some (.int .u8 (Lib.deBruijn64tab.getD j 0))
theorem TabD.lt (h:TabD w):1<w.heap.size:=by have h0:=h 0 (by omega);apply Classical.byContradiction;intro hn;rw[World.cell?,Array.getElem?_eq_none (by simp only;omega)]at h0;simp at h0
theorem yZo (x a:Nat) (hx:x<18446744073709551616) (hx0:x≠0) (hlow:x &&& (18446744073709551616-x)=a):
  IntKind.u64.wrap (bits BinOp.and IntKind.u64 (x:Int) (IntKind.u64.wrap (-(x:Int)))*285870213051353865)/288230376151711744=((a*285870213051353865%18446744073709551616/288230376151711744:Nat):Int):=by
 have e1:IntKind.u64.wrap (-(x:Int))=((18446744073709551616-x:Nat):Int):=by rw[IntKind.wrap_u64];omega
 rw[e1,bits_and_u64_nat x _ hx (by omega),hlow,IntKind.wrap_u64];omega
theorem tz_at (x k idx:Nat) (w:World) (hx0:((x:Int)==0)=false)
  (key:IntKind.u64.wrap (bits BinOp.and IntKind.u64 (x:Int) (IntKind.u64.wrap (-(x:Int)))*285870213051353865)/288230376151711744=(idx:Int))
  (hi:idx<64) (hk:k<64) (hcell:w.cell? ⟨1,idx,none⟩=some (.int .u8 k)):
  Calls Tryz.prog 167 #[.int .u64 x] w fun e w'=>e=.returned (.int .i64 k)∧w'=w:=by
 go_enter Tryz.func167,Tryz.ntmps167;go_wp2_with (simp only[key]);go_ret;exact⟨rfl,rfl⟩
theorem yYv (x:Nat) (hx:x<18446744073709551616) (hx0:x≠0) (w:World) (hT:TabD w):Calls Tryz.prog 167 #[.int .u64 x] w fun e w'=>e=.returned (.int .i64 (Lib.ctz 64 x))∧w'=w:=by obtain⟨hlow,hk⟩:=Lib.lowest_bit 64 x hx0 hx;obtain⟨hi,htab⟩:=Lib.deBruijn64_at _ hk;have hcell:=hT _ hi;rw[htab]at hcell;exact tz_at x _ _ w (by simp;omega) (yZo x _ hx hx0 hlow) hi hk hcell
variable {k:Nat}
theorem yWo (S:PS) (hk:k<4) (w:World):(Instr.index 178 (psV S) (.int .i64 (k:Int))).run Tryz.prog w=.ok (.int .u64 (wdN S k:Int)) w:=by rcases(by omega:k=0∨k=1∨k=2∨k=3)with rfl|rfl|rfl|rfl<;>kernel_rfl
theorem ySe (S:PS) (l m:Nat) (hm:1≤m) (J:Nat→World→Prop)
  (hY:∀k x W,J k W→k≤x→x<256→S x=true→(∀j,k≤j→j<x→S j=false)→YieldAt Fence.wide (m-1) Tryz.prog l #[.int .i64 (x:Int)] W fun e W'=>e=.returned (.bool true)∧J (x+1) W')
  (hJs:∀k k' W,J k W→k≤k'→(∀j,k≤j→j<k'→S j=false)→J k' W) (hJd:∀k W,J k W→J k W.drew) (hJa:∀k W (o:Obj),J k W→J k (W.alloc o)) (hJt:∀k W,J k W→TabD W) (W:World) (h0:J 0 W):
  CallsIn Fence.wide m Tryz.prog 160 #[psV S,.func (.yield l) #[] #[]] W fun e W'=>(∃v,e=.returned v)∧J 256 W':=by
 have HJ0:Hid (J 0 (W.alloc (.cells (psL S).toArray 178))):=hJa _ _ _ h0;refine callsIn_of_wp Tryz.func160 rfl trivial ?_ rfl;simp only[Tryz.ntmps160,List.size_toArray,List.length_cons,List.length_nil,Nat.reduceAdd,Nat.reduceSub,Array.replicate_succ,Array.replicate_zero,List.push_toArray,List.append_toArray,List.nil_append,List.cons_append];gi_wp2;gi_loopw [7] (fun iv wr=>∃i:Nat,i≤4∧iv=.int .i64 (i:Int)∧J (64*i) wr) (fun iv _=>4-(intOf iv).toNat);case atStart=>exact⟨0,by omega,rfl,HJ0.out⟩
 case round=>
  obtain⟨i,hi,rfl,hJi⟩:=hrel;by_cases hlt:i<4
  ·have zi:(i:Int)<4:=by omega
   have hix:=fun w=>yWo S hlt w;have HJi:Hid (J (64*i) wr):=hJi;clear hJi;gi_wp2;gi_loopw [5] (fun xv wr=>∃x b:Nat,xv=.int .u64 (x:Int)∧Hid (x=wdF S i b)∧b≤64∧Hid (J (64*i+b) wr)) (fun xv _=>(intOf xv).toNat);case atStart=>exact⟨wdN S i,0,rfl,(yV6 S i).symm,by omega,HJi.out⟩
   case round=>
    obtain⟨x,b,rfl,HX,hb,HJb⟩:=hrel;by_cases hx0:x=0
    ·subst hx0;have hn:Hid (J (64*(i+1)) wr):=hJs _ _ _ HJb.out (by omega) (fun j h1 h2=>by
      have:=yV7 HX.symm (j-64*i) (by omega) (by omega)
      rwa [show 64*i+(j-64*i)=j by omega]at this)
     clear HJb HX HJi;gi_wp2;go_roundw;case rel=>exact⟨i+1,by omega,by go_num,hn.out⟩
     case measure=>simp[intOf];omega
    ·have hxl:x<18446744073709551616:=by rw[HX.out];exact yXw _ _ _
     obtain⟨h1,h2,h3,h4,h5⟩:=yYt HX.out hx0;have HT:=yYv x hxl hx0 wr (hJt _ _ HJb.out);obtain⟨k,hk⟩:=qE (Lib.ctz 64 x);rw[←hk]at h1 h2 h3 h4 h5 HT;obtain⟨fn,tmps,assign,body,hy,hR⟩:=hY _ (64*i+k) wr HJb.out (by omega) (by omega) h2 (fun j q1 q2=>by
      have:=h4 (j-64*i) (by omega) (by omega)
      rwa [show 64*i+(j-64*i)=j by omega]at this)
     have e0:((64*i+k:Nat):Int)=(i:Int)*64+(k:Int):=by omega
     rw[e0]at hy;have zx:((x:Int)==0)=false:=by simp;omega
     have HN:Hid (x &&& (x-1)=wdF S i (k+1)∧x &&& (x-1)<x):=⟨h5,by have:=Nat.and_le_right (n:=x) (m:=x-1);omega⟩;have HS1:bits .and .u64 (x:Int) ((x:Int)-1)=((x &&& (x-1):Nat):Int):=by have:=yOw x hx0 hxl;rwa [IntKind.wrap_u64,Int.emod_eq_of_lt (by omega) (by omega)]at this
     have HHT:Hid (Calls Tryz.prog 167 #[.int .u64 (x:Int)] wr fun e w'=>e=.returned (.int .i64 (k:Int))∧w'=wr):=HT;obtain⟨y,hyy⟩:=qE (x &&& (x-1));rw[←hyy]at HS1 HN;clear HT hk h2 h3 h4 h5 HJi HJb e0 hyy;gi_wp2;refine⟨trivial,(callsIn_wide.2 HHT.out).mono ?_⟩;rintro e w' ⟨rfl,hw'⟩;rw[hw'];clear hw' HHT;gi_wp2;refine hR.mono ?_;rintro e W3 ⟨rfl,hJ3⟩;have HJ3:Hid (J (64*i+(k+1)) W3):=hJ3;clear hJ3 hR hy;gi_wp2_with (simp only[HS1]);go_roundw;case rel=>exact⟨y,k+1,by first|rfl|rw[HS1],HN.1,by omega,HJ3.out⟩
     case measure=>have:=HN.2;simp[intOf,HS1];omega
  ·obtain rfl:i=4:=by omega
   gi_wp2;go_end0;exact⟨⟨_,rfl⟩,hJi⟩
variable {Q:Exit→Act→World→Prop} {a:Act}
theorem yF {g:Operand} {ps:Array Tmp} {assign body:Code} (h1:2≤n) (S:PS)
  (hg:a.eval g=.func (.func 160) #[psV S] #[]) (hps:ps.size=1) (I:Nat→World→Prop) (hI:OwnFrom w.heap.size I) (hIt:∀k W,I k W→TabD W)
  (hIs:∀k k' W,I k W→k≤k'→(∀j,k≤j→j<k'→S j=false)→I k' W) (h0:I 0 w) (a₁:Nat→Act)
  (hassign:∀(l x:Nat) (W:World) (K:Act→World→Prop),K (a₁ x) W→assign.wpIn (Fence.wide.inRound l) (n-1-1) Tryz.prog (Exit.then K (fun _ _ _=>False)) {tmps:=(ps.zip #[.int .i64 (x:Int)]).foldl (fun t (p,v)=>t.setIfInBounds p v) a.tmps,defers:= []} W)
  (hbody:∀(l k x:Nat) (W:World),I k W→k≤x→x<256→S x=true→(∀j,k≤j→j<x→S j=false)→body.wpIn (Fence.wide.inRound l) (n-1-1) Tryz.prog (fun e _ W'=>e=.normal∧KeepsFrom w.heap.size W W'∧I (x+1) W') (a₁ x) W)
  (hdone:∀(D:Nat) (W:World),w.heap.size≤D→I 256 W→W.heap[D]?=some (.deferred (some []))→Q .normal {a with defers:={target:=.collected D,args:=#[]}::a.defers} W):
  (Code.rangeFunc g ps assign body).wpIn Fence.wide n Tryz.prog Q a w:=by
 refine wpIn_rangeFunc ?_;intro fn hfn;obtain⟨rec,hrec⟩:∃rec:LoopState→Option Code→Loop,rec=fun st pe=>{state:=st,pending:=pe,fn,tmps:=a.tmps,params:=ps,assign,body,defers:=w.heap.size}:=⟨_,rfl⟩;obtain⟨W1,hW1⟩:∃W1,(w.alloc (.deferred (some []))).alloc (.loop (rec .ready none))=W1:=⟨_,rfl⟩;have hL1:W1.heap[w.heap.size+1]?=some (.loop (rec .ready none)):=by rw[←hW1];have:=World.alloc_heap_new (w.alloc (.deferred (some []))) (.loop (rec .ready none));rwa [World.size_alloc]at this
 have hK1:W1.heap[w.heap.size]?=some (.deferred (some [])):=by rw[←hW1];exact(Below.heap_alloc _ _ _ (by simp)).trans (World.alloc_heap_new w _)
 have hI1:I 0 W1:=by rw[←hW1];exact hI.alloc _ (hI.alloc _ h0)
 refine⟨w.heap.size+1,[{target:=.collected w.heap.size,args:=#[]}],W1,{target:=.fn (.func 160) #[],args:=#[psV S,.func (.yield (w.heap.size+1)) #[] #[]]},W1,160,
  #[psV S,.func (.yield (w.heap.size+1)) #[] #[]],W1,?_,?_,fun _ _=>trivial,?_,fun _=>by omega,?_⟩
 ·rw[←hW1,hrec];exact run_enterLoop_outer _ _ _ _ _
 ·simp only[resolve,hg];simp[go_sem]
 ·simp[invoke,go_sem]
 ·have hkeep:∀(k:Nat) {A B:World} {row:Option Nat},(I k A∧A.heap[w.heap.size+1]?=some (.loop (rec .ready none))∧A.heap[w.heap.size]?=some (.deferred (some [])))→A.grownBy B none→(I k B∧B.heap[w.heap.size+1]?=some (.loop (rec .ready none))∧B.heap[w.heap.size]?=some (.deferred (some []))):=fun k A B row h hgr=>
   ⟨hI k A B none h.1 hgr (fun r e=>by cases e),(hgr.block _ (Array.getElem?_eq_some_iff.1 h.2.1).1 (by simp)).trans h.2.1,(hgr.block _ (Array.getElem?_eq_some_iff.1 h.2.2).1 (by simp)).trans h.2.2⟩
  refine(ySe S (w.heap.size+1) (n-1) (by omega) (fun k W=>I k W∧W.heap[w.heap.size+1]?=some (.loop (rec .ready none))∧W.heap[w.heap.size]?=some (.deferred (some []))) ?_ (fun k k' W h q1 q2=>⟨hIs k k' W h.1 q1 q2,h.2⟩) (fun k W h=>hkeep k (row:=none) h ⟨rfl,rfl,rfl,Nat.le_refl _,fun _ _ _=>rfl⟩) (fun k W o h=>hkeep k (row:=none) h (World.grownBy_alloc W o none)) (fun k W h=>hIt k W h.1) W1 ⟨hI1,hL1,hK1⟩).mono ?_
  ·rintro k x W ⟨hi,hl,hk⟩ hkx hx hS hbet;have hlt:w.heap.size+1<W.heap.size:=(Array.getElem?_eq_some_iff.1 hl).1;have hy:=run_yield (P:=Tryz.prog) (args:=#[.int .i64 (x:Int)]) hl (by rw[hrec];exact hps.symm);rw[hrec]at hy;refine⟨fn,_,assign,body,hy,roundIn_of_wpIn hfn (hassign _ x W _ ⟨_,run_beginRound hl (by rw[hrec]),?_⟩)⟩;have hl2:(W.putObj (w.heap.size+1) (.loop {rec .ready none with state:=.busy})).heap[w.heap.size+1]?=some (.loop {rec .ready none with state:=.busy}):=World.putObj_heap_same hlt;have hk2:(W.putObj (w.heap.size+1) (.loop {rec .ready none with state:=.busy})).heap[w.heap.size]?=some (.deferred (some [])):=(World.putObj_heap_other (by omega)).trans hk;refine wpIn_mono (hbody _ k x _ (hI.putObj _ hi (by omega) hl rfl) hkx hx hS hbet) ?_;exact zzQ57
  ·exact zzQ69
abbrev slV (r n c:Nat):Value:=.slice (some ⟨r,0,none⟩) n c
def bsV (N:Nat) (f:Nat→Bool):List Value:=(List.range N).map (fun j=>.bool (f j))
theorem yP5 (N:Nat) (f:Nat→Bool):(bsV N f).length=N:=by simp[bsV]
theorem yP6 (h:j<N):(bsV N f)[j]?=some (.bool (f j)):=by simp[bsV,h]
def upd1 (f:Nat→Bool) (j:Nat) (b:Bool):Nat→Bool:=fun x=>if x=j then b else f x
def upd2 (f:Nat→Nat→Bool) (i j:Nat) (b:Bool):Nat→Nat→Bool:=fun x y=>if x=i∧y=j then b else f x y
theorem xAe {b:Bool} (h:j<N):(bsV N f).set j (.bool b)=bsV N (upd1 f j b):=by
 apply List.ext_getElem?;intro i;rcases Nat.lt_or_ge i N with hi|hi
 ·rw[yP6 hi];by_cases e:i=j
  ·subst e;rw[List.getElem?_set_self (by rw[yP5];exact hi)];simp[upd1]
  ·rw[List.getElem?_set_ne (fun q=>e q.symm),yP6 hi];simp[upd1,e]
 ·rw[List.getElem?_eq_none (by simp[yP5];exact hi),List.getElem?_eq_none (by simp[yP5];exact hi)]
def BRow (w:World) (base r c N:Nat) (f:Nat→Bool):Prop:=w.ownsRow base 4 1 (slV r N c) N (bsV N f)
def yL8 (N k:Nat) (ρ γ:Nat→Nat):List Value:=(List.range k).map (fun i=>slV (ρ i) N (γ i))
def ORow (w:World) (base g cp N k:Nat) (ρ γ:Nat→Nat):Prop:=w.ownsRow base 225 1 (slV g k cp) k (yL8 N k ρ γ)
variable {r:Nat}
theorem BRow.lt {c:Nat} (h:BRow w base r c N f):base≤r∧r<w.heap.size:=World.ownsRow.lt h r rfl
variable {ρ γ:Nat→Nat}
theorem ORow.lt {g:Nat} (h:ORow w base g cp N k ρ γ):base≤g∧g<w.heap.size:=World.ownsRow.lt h g rfl
variable {S:Nat→Prop}
theorem BRow.chg {c:Nat} (h:BRow w base r c N f) (hc:Chg S w w') (hn:¬S r):BRow w' base r c N f:=yAp h hc (fun k hk=>by simp[Value.ownBlock]at hk;subst hk;exact hn)
theorem ORow.chg {g:Nat} (h:ORow w base g cp N k ρ γ) (hc:Chg S w w') (hn:¬S g):ORow w' base g cp N k ρ γ:=yAp h hc (fun k hk=>by simp[Value.ownBlock]at hk;subst hk;exact hn)
theorem BRow.off {c base' g N':Nat} (h:BRow w base r c N f) (h':ORow w base' g cp N' k ρ γ):r≠g:=fun q=>yAo h h' (by decide) r rfl (by rw[q];rfl)
theorem BRow.caps {c:Nat} (h:BRow w base r c N f):N≤c∧c≤maxLen:=by exact yRt
theorem ORow.caps {g:Nat} (h:ORow w base g cp N k ρ γ):k≤cp∧cp≤maxLen:=by exact yRt
structure MatO (w:World) (base g cp N k:Nat) (ρ γ:Nat→Nat) (f:Nat→Nat→Bool):Prop where
 out:ORow w base g cp N k ρ γ
 row:∀i,i<k→BRow w base (ρ i) (γ i) N (f i)
 inj:∀i j,i<k→j<k→i≠j→ρ i≠ρ j
variable {f:Nat→Nat→Bool}
theorem MatO.chg {g:Nat} (h:MatO w base g cp N k ρ γ f) (hc:Chg S w w') (h1:¬S g) (h2:∀i,i<k→¬S (ρ i)):MatO w' base g cp N k ρ γ f:=
 ⟨h.out.chg hc h1,fun i hi=>(h.row i hi).chg hc (h2 i hi),h.inj⟩
theorem MatO.below {g:Nat} (h:MatO w base g cp N k ρ γ f) (hb:Below w.heap.size w w'):MatO w' base g cp N k ρ γ f:=h.chg (S:=fun _=>False) (Chg.of_below hb) (fun q=>q) (fun _ _ q=>q)
theorem MatO.cell {g:Nat} (h:MatO w base g cp N k ρ γ f) (hi:i<k):w.cell? ⟨g,i,none⟩=some (slV (ρ i) N (γ i)):=by rw[World.ownsRow.cellAt h.out i (by omega)];simp[yL8,hi]
theorem BRow.cell {c:Nat} {f:Nat→Bool} (h:BRow w base r c N f) (hj:j<N):w.cell? ⟨r,j,none⟩=some (.bool (f j)):=by rw[World.ownsRow.cellAt h j (by omega),yP6 hj]
theorem BRow.set {c:Nat} {f:Nat→Bool} (h:BRow w base r c N f) (hj:j<N) (b:Bool):BRow (w.setCell ⟨r,j,none⟩ (.bool b)) base r c N (upd1 f j b):=by have:=(World.ownsRow.stored h j (.bool b)).1;rw[xAe hj]at this;exact this
theorem MatO.set {g:Nat} (h:MatO w base g cp N k ρ γ f) (hi:i<k) (hj:j<N) (b:Bool):MatO (w.setCell ⟨ρ i,j,none⟩ (.bool b)) base g cp N k ρ γ (upd2 f i j b):=by
 have hset:Chg (fun x=>x=ρ i) w (w.setCell ⟨ρ i,j,none⟩ (.bool b)):=Chg.of_set _ _ _ _ rfl;refine⟨h.out.chg hset (fun q=>(h.row i hi).off h.out q.symm),fun x hx=>?_,h.inj⟩;by_cases e:x=i
 ·subst e;have h9:=(h.row x hx).set hj b;have e2:upd1 (f x) j b=upd2 f x j b x:=by funext y;simp[upd1,upd2]
  rw[e2]at h9;exact h9
 ·have h9:=(h.row x hx).chg hset (h.inj x i hx hi e);have e2:f x=upd2 f i j b x:=by funext y;simp[upd2,e]
  rw[e2]at h9;exact h9
structure MatR (w:World) (g N:Nat) (ρ γ:Nat→Nat) (f:Nat→Nat→Bool):Prop where
 lt:g<w.heap.size
 out:∀i,i<N→w.cell? ⟨g,i,none⟩=some (slV (ρ i) N (γ i))
 rlt:∀i,i<N→ρ i<w.heap.size
 row:∀i j,i<N→j<N→w.cell? ⟨ρ i,j,none⟩=some (.bool (f i j))
 cap:∀i,i<N→N≤γ i∧γ i≤maxLen
theorem MatO.read {g:Nat} (h:MatO w base g cp N N ρ γ f):MatR w g N ρ γ f:=
 ⟨h.out.lt.2,fun i hi=>h.cell hi,fun i hi=>(h.row i hi).lt.2,fun i j hi hj=>(h.row i hi).cell hj,fun i hi=>(h.row i hi).caps⟩
theorem MatR.below {B:Nat} {g:Nat} (h:MatR w g N ρ γ f) (hb:Below B w w') (hB:w.heap.size≤B):MatR w' g N ρ γ f:=
 ⟨Nat.lt_of_lt_of_le h.lt hb.size,fun i hi=>by rw[hb.cell (p:=⟨g,i,none⟩) (Nat.lt_of_lt_of_le h.lt hB)];exact h.out i hi,fun i hi=>Nat.lt_of_lt_of_le (h.rlt i hi) hb.size,fun i j hi hj=>by rw[hb.cell (p:=⟨ρ i,j,none⟩) (Nat.lt_of_lt_of_le (h.rlt i hi) hB)];exact h.row i j hi hj,h.cap⟩
def MaP (N:Nat) (f:Nat→Nat→Bool) (w:World) (r:Ending) (w':World):Prop:=∃g cp ρ γ,r=.returned (slV g N cp)∧Hid (MatO w' w.heap.size g cp N N ρ γ f)∧Below w.heap.size w w'
theorem Tryz.infoBo:(Tryz.prog.info? 4).map (fun i=>(i.zero,i.size,i.bytes))=some (some (.bool false),1,1):=by kernel_rfl
theorem Tryz.infoBoS:(Tryz.prog.info? 225).map (fun i=>(i.zero,i.size,i.bytes))=some (some (.slice none 0 0),1,24):=by kernel_rfl
theorem yIp {ops:Array Oper} {rest:List Oper} {o:Oper} (w:World) (hgd:o.guard=none) (s x:Operand)
  (ho:o.op=.call {callee:=.builtin .append,args:=#[s,x],argTypes:=#[225,225]})
  (base r c k b cx:Nat) (f:Nat→Bool) (v:Bool) (hs:a.eval s=slV r k c) (hx:a.eval x=.slice (some ⟨b,0,none⟩) 1 cx) (hO:BRow w base r c k f)
  (hc:w.cell? ⟨b,0,none⟩=some (.bool v)) (hf:f k=v) (hlen:k≤2^20) (hbase:base≤w.heap.size)
  (h:∀r' c' w',BRow w' base r' c' (k+1) f→w.grownBy w' (some r)→(r'=r∨r'=w.heap.size)→wpList Tryz.prog ops Q rest (a.put o.dst (slV r' (k+1) c')) w'):wpList Tryz.prog ops Q (o::rest) a w:=by
 obtain⟨i,hi,hz0,hz1,hz2⟩:=info_parts Tryz.infoBo;refine wpList_append_own_at w hgd s x 225 ho base 4 i _ 1 1 Tryz.underlying225 hi hz0 hz1 hz2 rfl (by decide) (slV r k c) k (bsV k f) hs hO ⟨b,0,none⟩ 1 cx [.bool v] hx rfl (fun j u hu=>?_) (fun u hu=>by simp at hu;subst hu;rfl) ?_ ?_ hbase ?_
 ·match j,hu with
  |0,hu=>cases hu;exact hc
 ·unfold maxLen;omega
 ·omega
 ·intro v' w' hO' hgr hnil hat;rcases hO'.2 with⟨h0,_⟩|⟨g',cap',cur,hv,_,_,hn,hcap,_,_⟩
  ·have:=(hnil.1 h0).1;cases this
  ·subst hv;refine h g' cap' w' ?_ hgr ?_
   ·have e:bsV k f++ [.bool v]=bsV (k+1) f:=by simp[bsV,List.range_succ,hf]
    rw[e]at hO';exact hO'
   ·simp[Value.ownBlock]at hat;exact hat
theorem yHo {ops:Array Oper} {rest:List Oper} {o:Oper} (w:World) (hgd:o.guard=none) (s x:Operand)
  (ho:o.op=.call {callee:=.builtin .append,args:=#[s,x],argTypes:=#[226,226]})
  (base g cp N k b cx r c:Nat) (ρ γ:Nat→Nat) (hs:a.eval s=slV g k cp) (hx:a.eval x=.slice (some ⟨b,0,none⟩) 1 cx) (hO:ORow w base g cp N k ρ γ)
  (hc:w.cell? ⟨b,0,none⟩=some (slV r N c)) (hr:ρ k=r) (hg:γ k=c) (hlen:k≤2^20) (hbase:base≤w.heap.size)
  (h:∀g' cp' w',ORow w' base g' cp' N (k+1) ρ γ→w.grownBy w' (some g)→(g'=g∨g'=w.heap.size)→wpList Tryz.prog ops Q rest (a.put o.dst (slV g' (k+1) cp')) w'):wpList Tryz.prog ops Q (o::rest) a w:=by
 obtain⟨i,hi,hz0,hz1,hz2⟩:=info_parts Tryz.infoBoS;refine wpList_append_own_at w hgd s x 226 ho base 225 i _ 1 24 Tryz.underlying226 hi hz0 hz1 hz2 rfl (by decide) (slV g k cp) k (yL8 N k ρ γ) hs hO ⟨b,0,none⟩ 1 cx [slV r N c] hx rfl (fun j u hu=>?_) (fun u hu=>by simp at hu;subst hu;rfl) ?_ ?_ hbase ?_
 ·match j,hu with
  |0,hu=>cases hu;exact hc
 ·unfold maxLen;omega
 ·omega
 ·intro v' w' hO' hgr hnil hat;rcases hO'.2 with⟨h0,_⟩|⟨g',cap',cur,hv,_,_,hn,hcap,_,_⟩
  ·have:=(hnil.1 h0).1;cases this
  ·subst hv;refine h g' cap' w' ?_ hgr ?_
   ·have e:yL8 N k ρ γ++ [slV r N c]=yL8 N (k+1) ρ γ:=by simp[yL8,List.range_succ,hr,hg]
    rw[e]at hO';exact hO'
   ·simp[Value.ownBlock]at hat;exact hat
end Go.Proofs.YtkidabedcgngcaaGreatDoor
