import Derived.Test.YtkidabedcgngcaaGreatDoorVkAA
import Derived.Test.YtkidabedcgngcaaGreatDoorVkAB
import Derived.Deep.RegionLaw
import Derived.Deep.AppendLies
import Derived.Maps.AppendAt
import Derived.Recover
import Derived.RecoverIn
import Derived.Stop.Asserts
import Derived.Deep.DeepCutAuto
namespace Go.Proofs.YtkidabedcgngcaaGreatDoor
open Go.RowKit Go.ChangeShapes Go.WideShapes Go.ChangeAt Go.Deep Go.Shelf Go.Maps
set_option linter.unusedVariables false
set_option linter.unusedSimpArgs false
set_option maxRecDepth 100000
set_option maxHeartbeats 40000000
structure Nd.small (e:Nd):Prop where
 s:e.s.size≤200000
 t:e.t.size≤300000
 lo:0≤e.lo∧e.lo≤100000
 up:0≤e.up∧e.up≤100000
 n:0≤e.n∧e.n≤100000
 kind:0≤e.kind∧e.kind≤100000
theorem yTe {x:Int} (h:0≤x∧x≤100000):(Lit.int .u64 x).wf=true:=by
 have h1:IntKind.u64.min=0:=by decide
 have h2:IntKind.u64.max=18446744073709551615:=by decide
 simp[Lit.wf,h1,h2];omega
theorem yTd {x:Int} (h:0≤x∧x≤100000):(Lit.int .i64 x).wf=true:=by exact yXu
theorem yYr (x:Int) (h:0≤x∧x≤100000):IntKind.u64.wrap x=x:=by simp only[IntKind.wrap,IntKind.bits,IntKind.signed,Bool.false_and,Bool.false_eq_true,if_false];omega
variable {e:Nd}
theorem Nd.small.ok (h:e.small):e.ok:=⟨Nat.le_trans h.s (by decide),Nat.le_trans h.t (by decide),yTd h.kind,yTe h.lo,yTe h.up,yTd h.n⟩
theorem Nd.small_zero:yV5.small:=⟨by decide,by decide,by decide,by decide,by decide,by decide⟩
structure NInv (base cb:Nat) (bv:Value) (n:Nat) (w:World) (eb rb:Nat) (f:Nd) (wr:World):Prop where
 e:yA wr w.heap.size 75 7 eb f.seven
 r:yA wr w.heap.size 75 7 rb yV5.seven
 ne:¬eb=rb
 d:yAf base cb bv n wr
 c:Chg (fun k=>k=cb) w wr
 lt:cb<w.heap.size
 hb:base≤w.heap.size
 sm:f.small
variable {base cb n eb rb:Nat} {bv:Value} {w wr:World} {f:Nd}
theorem NInv.call {w1:World} (h:NInv base cb bv n w eb rb f wr) (hd:Drew base cb bv n wr w1):NInv base cb bv n w eb rb f w1:=
 ⟨h.e.chg hd.2 (by have:=h.e.lt.1;have:=h.lt;omega),h.r.chg hd.2 (by have:=h.r.lt.1;have:=h.lt;omega),h.ne,hd.1,h.c.trans hd.2,h.lt,h.hb,h.sm⟩
theorem NInv.drew (h:NInv base cb bv n w eb rb f wr):NInv base cb bv n w eb rb f wr.drew:=by have hd:Below wr.heap.size wr wr.drew:=(Below.refl _ _).drew;exact⟨h.e.below hd,h.r.below hd,h.ne,h.d.below hd,h.c.trans (Chg.of_below hd),h.lt,h.hb,h.sm⟩
theorem NInv.set (h:NInv base cb bv n w eb rb f wr) (j:Nat) (f':Nd) (u:Value) (hc:f'.seven=f.seven.set j u) (hs:f'.small):NInv base cb bv n w eb rb f' (wr.setCell ⟨eb,j,none⟩ u):=by have h1:=h.e.set j u;rw[←hc]at h1;have hl:=h.e.lt;have hcb:=h.lt;have hbb:=h.hb;have hcg:Chg (fun k=>k=eb) wr (wr.setCell ⟨eb,j,none⟩ u):=Chg.of_set _ _ _ _ rfl;refine⟨h1,h.r.chg hcg (fun q=>h.ne q.symm),h.ne,h.d.chg hcg (by omega) (fun k q=>by omega),?_,h.lt,h.hb,hs⟩;exact Chg.grown_new h.c (yBf wr eb j u) (fun k hk=>by cases hk;exact hl.1)
theorem NInv.alloc (h:NInv base cb bv n w eb rb f wr) (o:Obj):NInv base cb bv n w eb rb f (wr.alloc o):=by have hd:Below wr.heap.size wr (wr.alloc o):=qB;exact⟨h.e.below hd,h.r.below hd,h.ne,h.d.below hd,h.c.trans (Chg.of_below hd),h.lt,h.hb,h.sm⟩
def set7 (w:World) (g:Nat) (f:Nd):World:=((((((w.setCell ⟨g,0,none⟩ (.int .i64 f.kind)).setCell ⟨g,1,none⟩ (.string f.s)).setCell ⟨g,2,none⟩ (.bool f.hi)).setCell ⟨g,3,none⟩ (.string f.t)).setCell ⟨g,4,none⟩ (.int .u64 f.lo)).setCell ⟨g,5,none⟩ (.int .u64 f.up)).setCell ⟨g,6,none⟩ (.int .i64 f.n)
theorem yA.set7 {t g:Nat} (h:yA w base t 7 g e.seven) (f:Nd):yA (Go.Proofs.YtkidabedcgngcaaGreatDoor.set7 w g f) base t 7 g f.seven:=by have:=((((((h.set 0 (.int .i64 f.kind)).set 1 (.string f.s)).set 2 (.bool f.hi)).set 3 (.string f.t)).set 4 (.int .u64 f.lo)).set 5 (.int .u64 f.up)).set 6 (.int .i64 f.n);exact this
variable {S:Nat→Prop}
theorem yXd (w:World) (g:Nat) (f:Nd) (hs:S g):Chg S w (set7 w g f):=
 ((((((Chg.of_set w g 0 _ hs).trans (Chg.of_set _ g 1 _ hs)).trans (Chg.of_set _ g 2 _ hs)).trans (Chg.of_set _ g 3 _ hs)).trans (Chg.of_set _ g 4 _ hs)).trans (Chg.of_set _ g 5 _ hs)).trans (Chg.of_set _ g 6 _ hs)
def LefP (base cb:Nat) (bv:Value) (n:Nat) (w:World) (e:Ending) (w':World):Prop:=∃f:Nd,e=.returned f.v∧f.small∧Drew base cb bv n w w'
theorem NInv.fin (h:NInv base cb bv n w eb rb f wr):yA (set7 wr rb f) w.heap.size 75 7 rb f.seven∧LefP base cb bv n w (.returned f.v) (set7 wr rb f):=by have hcg:Chg (fun k=>k=rb) wr (set7 wr rb f):=yXd wr rb f rfl;have hl:=h.r.lt;have hcb:=h.lt;have hbb:=h.hb;refine⟨h.r.set7 f,f,rfl,h.sm,h.d.chg hcg (by omega) (fun k q=>by omega),?_⟩;exact⟨hcg.os.trans h.c.os,hcg.tape.trans h.c.tape,hcg.output.trans h.c.output,Nat.le_trans h.c.size hcg.size,fun k hk hn=>(hcg.block k (Nat.lt_of_lt_of_le hk h.c.size) (by omega)).trans (h.c.block k hk hn)⟩
theorem yMu (base cb:Nat) (bv:Value) (n:Nat) (w:World) (h:yAf base cb bv n w):
  Calls Tryz.prog 77 #[.pointer (some ⟨cb,0,none⟩)] w (LefP base cb bv n w):=by
 have hlt:=h.lt;have hbase:=h.base;obtain⟨Wa,hWa⟩:=qE (w.alloc (Obj.cells #[.int .i64 0,.string ⟨#[]⟩,.bool false,.string ⟨#[]⟩,.int .u64 0,.int .u64 0,.int .i64 0] 75):World);have hba:Below w.heap.size w Wa:=by rw[hWa];exact qB
 have HA:Hid (yAf base cb bv n Wa∧yA Wa w.heap.size 75 7 w.heap.size yV5.seven∧Below w.heap.size w Wa):=⟨h.below hba,by rw[hWa];exact yAa w #[.int .i64 0,.string ⟨#[]⟩,.bool false,.string ⟨#[]⟩,.int .u64 0,.int .u64 0,.int .i64 0] (Nat.le_refl _) rfl,hba⟩;clear h hba;go_enter Tryz.func77,Tryz.ntmps77;go_wp2_with fail;rw[←hWa];clear hWa;refine(yAl base cb bv n 16 _ HA.1 (by omega) (by omega)).mono ?_;rintro e w1 ⟨x,rfl,hx0,hx1,hd1⟩;obtain⟨eb,heb⟩:=qE w1.heap.size;obtain⟨W2,hW2⟩:=qE (w1.alloc (Obj.cells #[.int .i64 0,.string ⟨#[]⟩,.bool false,.string ⟨#[]⟩,.int .u64 0,.int .u64 0,.int .i64 0] 75):World);have H2:Hid (NInv base cb bv n w eb w.heap.size yV5 W2):=by
  have hb2:Below w1.heap.size w1 W2:=by rw[hW2];exact qB
  have hb1:=HA.2.2;have hz:=hd1.2.size;have hz0:=HA.2.1.lt.2;have hr1:=HA.2.1.chg hd1.2 (by omega);refine⟨by rw[hW2,heb];exact yAa w1 #[.int .i64 0,.string ⟨#[]⟩,.bool false,.string ⟨#[]⟩,.int .u64 0,.int .u64 0,.int .i64 0] (by have:=hb1.size;omega) rfl,hr1.below hb2,by have:=hr1.lt.2;omega,hd1.1.below hb2,((Chg.of_below hb1).trans hd1.2).trans (Chg.of_below hb2),hlt.2,hbase,Nd.small_zero⟩
 clear hd1 HA;go_upto_region 3 with fail;rw[←hW2,←heb];clear hW2 heb;by_cases x0:x=0
 ·subst x0;have c2_0:=H2.e.cell (j:=0) rfl;have z2_0:=H2.e.frozen 0;obtain⟨W3,hW3⟩:=qE (W2.setCell ⟨eb,0,none⟩ (.int .i64 1):World);have H3:Hid (NInv base cb bv n w eb w.heap.size (⟨1,⟨#[]⟩,false,⟨#[]⟩,0,0,0⟩:Nd) W3):=by rw[hW3];exact H2.set 0 _ _ rfl ⟨H2.sm.s,H2.sm.t,H2.sm.lo,H2.sm.up,H2.sm.n,(by show(0:Int)≤1∧(1:Int)≤100000;omega)⟩
  go_upto_region 49 with fail;rw[←hW3];clear hW3;obtain⟨k0,k1,k2,k3,k4,k5,k6⟩:=H3.e.c7;obtain⟨l0,l1,l2,l3,l4,l5,l6⟩:=H3.r.c7;have lf:=H3.r.frozen;obtain⟨WF,hWF⟩:=qE (set7 W3 w.heap.size (⟨1,⟨#[]⟩,false,⟨#[]⟩,0,0,0⟩:Nd):World);have hfin:=H3.fin;rw[←hWF]at hfin;obtain⟨hB9,HR⟩:=hfin;obtain⟨p0,p1,p2,p3,p4,p5,p6⟩:=hB9.c7;have HRH:Hid (LefP base cb bv n w (.returned (Nd.v (⟨1,⟨#[]⟩,false,⟨#[]⟩,0,0,0⟩:Nd))) WF):=HR;exact zzQ8
 by_cases x1:x=1
 ·subst x1;have c2_0:=H2.e.cell (j:=0) rfl;have z2_0:=H2.e.frozen 0;obtain⟨W3,hW3⟩:=qE (W2.setCell ⟨eb,0,none⟩ (.int .i64 2):World);have H3:Hid (NInv base cb bv n w eb w.heap.size (⟨2,⟨#[]⟩,false,⟨#[]⟩,0,0,0⟩:Nd) W3):=by rw[hW3];exact H2.set 0 _ _ rfl ⟨H2.sm.s,H2.sm.t,H2.sm.lo,H2.sm.up,H2.sm.n,(by show(0:Int)≤2∧(2:Int)≤100000;omega)⟩
  go_upto_region 9 with fail;rw[←hW3];clear hW3;go_wp2_with fail;refine(yA5 base cb bv n 2 _ H3.d (by omega) (by omega)).mono ?_;rintro e w4 ⟨v,rfl,hv,hd⟩;have H4w:Hid (NInv base cb bv n w eb w.heap.size (⟨2,⟨#[]⟩,false,⟨#[]⟩,0,0,0⟩:Nd) w4):=H3.call hd;clear hd;rcases hv with rfl|rfl
  ·have c4_0:=H4w.e.cell (j:=0) rfl;have z4_0:=H4w.e.frozen 0;obtain⟨W5,hW5⟩:=qE (w4.setCell ⟨eb,0,none⟩ (.int .i64 3):World);have H5:Hid (NInv base cb bv n w eb w.heap.size (⟨3,⟨#[]⟩,false,⟨#[]⟩,0,0,0⟩:Nd) W5):=by rw[hW5];exact H4w.set 0 _ _ rfl ⟨H4w.sm.s,H4w.sm.t,H4w.sm.lo,H4w.sm.up,H4w.sm.n,(by show(0:Int)≤3∧(3:Int)≤100000;omega)⟩
   go_upto_region 49 with fail;rw[←hW5];clear hW5;obtain⟨k0,k1,k2,k3,k4,k5,k6⟩:=H5.e.c7;obtain⟨l0,l1,l2,l3,l4,l5,l6⟩:=H5.r.c7;have lf:=H5.r.frozen;obtain⟨WF,hWF⟩:=qE (set7 W5 w.heap.size (⟨3,⟨#[]⟩,false,⟨#[]⟩,0,0,0⟩:Nd):World);have hfin:=H5.fin;rw[←hWF]at hfin;obtain⟨hB9,HR⟩:=hfin;obtain⟨p0,p1,p2,p3,p4,p5,p6⟩:=hB9.c7;have HRH:Hid (LefP base cb bv n w (.returned (Nd.v (⟨3,⟨#[]⟩,false,⟨#[]⟩,0,0,0⟩:Nd))) WF):=HR;exact zzQ8
  ·go_upto_region 49 with fail;obtain⟨k0,k1,k2,k3,k4,k5,k6⟩:=H4w.e.c7;obtain⟨l0,l1,l2,l3,l4,l5,l6⟩:=H4w.r.c7;have lf:=H4w.r.frozen;obtain⟨WF,hWF⟩:=qE (set7 w4 w.heap.size (⟨2,⟨#[]⟩,false,⟨#[]⟩,0,0,0⟩:Nd):World);have hfin:=H4w.fin;rw[←hWF]at hfin;obtain⟨hB9,HR⟩:=hfin;obtain⟨p0,p1,p2,p3,p4,p5,p6⟩:=hB9.c7;have HRH:Hid (LefP base cb bv n w (.returned (Nd.v (⟨2,⟨#[]⟩,false,⟨#[]⟩,0,0,0⟩:Nd))) WF):=HR;exact zzQ8
 by_cases x2:x=2
 ·subst x2;have c2_0:=H2.e.cell (j:=0) rfl;have z2_0:=H2.e.frozen 0;obtain⟨W3,hW3⟩:=qE (W2.setCell ⟨eb,0,none⟩ (.int .i64 4):World);have H3:Hid (NInv base cb bv n w eb w.heap.size (⟨4,⟨#[]⟩,false,⟨#[]⟩,0,0,0⟩:Nd) W3):=by rw[hW3];exact H2.set 0 _ _ rfl ⟨H2.sm.s,H2.sm.t,H2.sm.lo,H2.sm.up,H2.sm.n,(by show(0:Int)≤4∧(4:Int)≤100000;omega)⟩
  go_upto_region 16 with fail;rw[←hW3];clear hW3;go_wp2_with fail;refine(yD3 base cb bv n _ H3.d).mono ?_;rintro e w4 ⟨s1,rfl,hs1,hd⟩;have H4w:Hid (NInv base cb bv n w eb w.heap.size (⟨4,⟨#[]⟩,false,⟨#[]⟩,0,0,0⟩:Nd) w4):=H3.call hd;clear hd;have c4_1:=H4w.e.cell (j:=1) rfl;have z4_1:=H4w.e.frozen 1;obtain⟨W5,hW5⟩:=qE (w4.setCell ⟨eb,1,none⟩ (.string s1):World);have H5:Hid (NInv base cb bv n w eb w.heap.size (⟨4,s1,false,⟨#[]⟩,0,0,0⟩:Nd) W5):=by rw[hW5];exact H4w.set 1 _ _ rfl ⟨(by show s1.size≤200000;omega),H4w.sm.t,H4w.sm.lo,H4w.sm.up,H4w.sm.n,H4w.sm.kind⟩
  go_upto_region 49 with fail;rw[←hW5];clear hW5;obtain⟨k0,k1,k2,k3,k4,k5,k6⟩:=H5.e.c7;obtain⟨l0,l1,l2,l3,l4,l5,l6⟩:=H5.r.c7;have lf:=H5.r.frozen;obtain⟨WF,hWF⟩:=qE (set7 W5 w.heap.size (⟨4,s1,false,⟨#[]⟩,0,0,0⟩:Nd):World);have hfin:=H5.fin;rw[←hWF]at hfin;obtain⟨hB9,HR⟩:=hfin;obtain⟨p0,p1,p2,p3,p4,p5,p6⟩:=hB9.c7;have HRH:Hid (LefP base cb bv n w (.returned (Nd.v (⟨4,s1,false,⟨#[]⟩,0,0,0⟩:Nd))) WF):=HR;exact zzQ8
 by_cases x3:x=3
 ·subst x3;have c2_0:=H2.e.cell (j:=0) rfl;have z2_0:=H2.e.frozen 0;obtain⟨W3,hW3⟩:=qE (W2.setCell ⟨eb,0,none⟩ (.int .i64 5):World);have H3:Hid (NInv base cb bv n w eb w.heap.size (⟨5,⟨#[]⟩,false,⟨#[]⟩,0,0,0⟩:Nd) W3):=by rw[hW3];exact H2.set 0 _ _ rfl ⟨H2.sm.s,H2.sm.t,H2.sm.lo,H2.sm.up,H2.sm.n,(by show(0:Int)≤5∧(5:Int)≤100000;omega)⟩
  go_upto_region 16 with fail;rw[←hW3];clear hW3;go_wp2_with fail;refine(yD3 base cb bv n _ H3.d).mono ?_;rintro e w4 ⟨s1,rfl,hs1,hd⟩;have H4w:Hid (NInv base cb bv n w eb w.heap.size (⟨5,⟨#[]⟩,false,⟨#[]⟩,0,0,0⟩:Nd) w4):=H3.call hd;clear hd;have c4_1:=H4w.e.cell (j:=1) rfl;have z4_1:=H4w.e.frozen 1;obtain⟨W5,hW5⟩:=qE (w4.setCell ⟨eb,1,none⟩ (.string s1):World);have H5:Hid (NInv base cb bv n w eb w.heap.size (⟨5,s1,false,⟨#[]⟩,0,0,0⟩:Nd) W5):=by rw[hW5];exact H4w.set 1 _ _ rfl ⟨(by show s1.size≤200000;omega),H4w.sm.t,H4w.sm.lo,H4w.sm.up,H4w.sm.n,H4w.sm.kind⟩
  go_upto_region 18 with fail;rw[←hW5];clear hW5;go_wp2_with fail;obtain⟨hcl,hbl⟩:cb<W5.heap.size∧Below W5.heap.size W5 (W5.alloc (Obj.cells #[] 0)):=⟨H5.d.lt.2,qB⟩;refine(yDo base cb bv n _ 5 _ (H5.d.below (qB)) (by omega) (by omega) (by omega) (by simp) ?_).mono ?_
  ·intro k hk;match k,hk with
   |0,_=>exact⟨_,by simp;rfl,by decide⟩
   |1,_=>exact⟨_,by simp;rfl,by decide⟩
   |2,_=>exact⟨_,by simp;rfl,by decide⟩
   |3,_=>exact⟨_,by simp;rfl,by decide⟩
   |4,_=>exact⟨_,by simp;rfl,by decide⟩
  rintro e w6 ⟨s2,rfl,hs2,hd⟩;have H6w:Hid (NInv base cb bv n w eb w.heap.size (⟨5,s1,false,⟨#[]⟩,0,0,0⟩:Nd) w6):=(H5.alloc _).call hd;clear hd hbl hcl;have c6_1:=H6w.e.cell (j:=1) rfl;have z6_1:=H6w.e.frozen 1;obtain⟨W7,hW7⟩:=qE (w6.setCell ⟨eb,1,none⟩ (.string s2):World);have H7:Hid (NInv base cb bv n w eb w.heap.size (⟨5,s2,false,⟨#[]⟩,0,0,0⟩:Nd) W7):=by rw[hW7];exact H6w.set 1 _ _ rfl ⟨(by show s2.size≤200000;omega),H6w.sm.t,H6w.sm.lo,H6w.sm.up,H6w.sm.n,H6w.sm.kind⟩
  go_upto_region 49 with fail;rw[←hW7];clear hW7;obtain⟨k0,k1,k2,k3,k4,k5,k6⟩:=H7.e.c7;obtain⟨l0,l1,l2,l3,l4,l5,l6⟩:=H7.r.c7;have lf:=H7.r.frozen;obtain⟨WF,hWF⟩:=qE (set7 W7 w.heap.size (⟨5,s2,false,⟨#[]⟩,0,0,0⟩:Nd):World);have hfin:=H7.fin;rw[←hWF]at hfin;obtain⟨hB9,HR⟩:=hfin;obtain⟨p0,p1,p2,p3,p4,p5,p6⟩:=hB9.c7;have HRH:Hid (LefP base cb bv n w (.returned (Nd.v (⟨5,s2,false,⟨#[]⟩,0,0,0⟩:Nd))) WF):=HR;exact zzQ8
 by_cases x4:x=4
 ·subst x4;have c2_0:=H2.e.cell (j:=0) rfl;have z2_0:=H2.e.frozen 0;obtain⟨W3,hW3⟩:=qE (W2.setCell ⟨eb,0,none⟩ (.int .i64 6):World);have H3:Hid (NInv base cb bv n w eb w.heap.size (⟨6,⟨#[]⟩,false,⟨#[]⟩,0,0,0⟩:Nd) W3):=by rw[hW3];exact H2.set 0 _ _ rfl ⟨H2.sm.s,H2.sm.t,H2.sm.lo,H2.sm.up,H2.sm.n,(by show(0:Int)≤6∧(6:Int)≤100000;omega)⟩
  go_upto_region 16 with fail;rw[←hW3];clear hW3;go_wp2_with fail;refine(yD3 base cb bv n _ H3.d).mono ?_;rintro e w4 ⟨s1,rfl,hs1,hd⟩;have H4w:Hid (NInv base cb bv n w eb w.heap.size (⟨6,⟨#[]⟩,false,⟨#[]⟩,0,0,0⟩:Nd) w4):=H3.call hd;clear hd;have c4_1:=H4w.e.cell (j:=1) rfl;have z4_1:=H4w.e.frozen 1;obtain⟨W5,hW5⟩:=qE (w4.setCell ⟨eb,1,none⟩ (.string s1):World);have H5:Hid (NInv base cb bv n w eb w.heap.size (⟨6,s1,false,⟨#[]⟩,0,0,0⟩:Nd) W5):=by rw[hW5];exact H4w.set 1 _ _ rfl ⟨(by show s1.size≤200000;omega),H4w.sm.t,H4w.sm.lo,H4w.sm.up,H4w.sm.n,H4w.sm.kind⟩
  go_upto_region 49 with fail;rw[←hW5];clear hW5;obtain⟨k0,k1,k2,k3,k4,k5,k6⟩:=H5.e.c7;obtain⟨l0,l1,l2,l3,l4,l5,l6⟩:=H5.r.c7;have lf:=H5.r.frozen;obtain⟨WF,hWF⟩:=qE (set7 W5 w.heap.size (⟨6,s1,false,⟨#[]⟩,0,0,0⟩:Nd):World);have hfin:=H5.fin;rw[←hWF]at hfin;obtain⟨hB9,HR⟩:=hfin;obtain⟨p0,p1,p2,p3,p4,p5,p6⟩:=hB9.c7;have HRH:Hid (LefP base cb bv n w (.returned (Nd.v (⟨6,s1,false,⟨#[]⟩,0,0,0⟩:Nd))) WF):=HR;exact zzQ8
 by_cases x5:x=5
 ·subst x5;have c2_0:=H2.e.cell (j:=0) rfl;have z2_0:=H2.e.frozen 0;obtain⟨W3,hW3⟩:=qE (W2.setCell ⟨eb,0,none⟩ (.int .i64 7):World);have H3:Hid (NInv base cb bv n w eb w.heap.size (⟨7,⟨#[]⟩,false,⟨#[]⟩,0,0,0⟩:Nd) W3):=by rw[hW3];exact H2.set 0 _ _ rfl ⟨H2.sm.s,H2.sm.t,H2.sm.lo,H2.sm.up,H2.sm.n,(by show(0:Int)≤7∧(7:Int)≤100000;omega)⟩
  go_upto_region 16 with fail;rw[←hW3];clear hW3;go_wp2_with fail;refine(yD3 base cb bv n _ H3.d).mono ?_;rintro e w4 ⟨s1,rfl,hs1,hd⟩;have H4w:Hid (NInv base cb bv n w eb w.heap.size (⟨7,⟨#[]⟩,false,⟨#[]⟩,0,0,0⟩:Nd) w4):=H3.call hd;clear hd;have c4_1:=H4w.e.cell (j:=1) rfl;have z4_1:=H4w.e.frozen 1;obtain⟨W5,hW5⟩:=qE (w4.setCell ⟨eb,1,none⟩ (.string s1):World);have H5:Hid (NInv base cb bv n w eb w.heap.size (⟨7,s1,false,⟨#[]⟩,0,0,0⟩:Nd) W5):=by rw[hW5];exact H4w.set 1 _ _ rfl ⟨(by show s1.size≤200000;omega),H4w.sm.t,H4w.sm.lo,H4w.sm.up,H4w.sm.n,H4w.sm.kind⟩
  go_upto_region 49 with fail;rw[←hW5];clear hW5;obtain⟨k0,k1,k2,k3,k4,k5,k6⟩:=H5.e.c7;obtain⟨l0,l1,l2,l3,l4,l5,l6⟩:=H5.r.c7;have lf:=H5.r.frozen;obtain⟨WF,hWF⟩:=qE (set7 W5 w.heap.size (⟨7,s1,false,⟨#[]⟩,0,0,0⟩:Nd):World);have hfin:=H5.fin;rw[←hWF]at hfin;obtain⟨hB9,HR⟩:=hfin;obtain⟨p0,p1,p2,p3,p4,p5,p6⟩:=hB9.c7;have HRH:Hid (LefP base cb bv n w (.returned (Nd.v (⟨7,s1,false,⟨#[]⟩,0,0,0⟩:Nd))) WF):=HR;exact zzQ8
 by_cases x6:x=6
 ·subst x6;have c2_0:=H2.e.cell (j:=0) rfl;have z2_0:=H2.e.frozen 0;obtain⟨W3,hW3⟩:=qE (W2.setCell ⟨eb,0,none⟩ (.int .i64 8):World);have H3:Hid (NInv base cb bv n w eb w.heap.size (⟨8,⟨#[]⟩,false,⟨#[]⟩,0,0,0⟩:Nd) W3):=by rw[hW3];exact H2.set 0 _ _ rfl ⟨H2.sm.s,H2.sm.t,H2.sm.lo,H2.sm.up,H2.sm.n,(by show(0:Int)≤8∧(8:Int)≤100000;omega)⟩
  go_upto_region 21 with fail;rw[←hW3];clear hW3;go_wp2_with fail;refine(yA9 base cb bv n 0 2 _ H3.d (by omega) (by omega) (by omega)).mono ?_;rintro e w4 ⟨s1,rfl,hs1,hd⟩;have H4w:Hid (NInv base cb bv n w eb w.heap.size (⟨8,⟨#[]⟩,false,⟨#[]⟩,0,0,0⟩:Nd) w4):=H3.call hd;clear hd;have c4_1:=H4w.e.cell (j:=1) rfl;have z4_1:=H4w.e.frozen 1;obtain⟨W5,hW5⟩:=qE (w4.setCell ⟨eb,1,none⟩ (.string s1):World);have H5:Hid (NInv base cb bv n w eb w.heap.size (⟨8,s1,false,⟨#[]⟩,0,0,0⟩:Nd) W5):=by rw[hW5];exact H4w.set 1 _ _ rfl ⟨(by show s1.size≤200000;omega),H4w.sm.t,H4w.sm.lo,H4w.sm.up,H4w.sm.n,H4w.sm.kind⟩
  go_upto_region 22 with fail;rw[←hW5];clear hW5;go_wp2_with fail;refine(yA5 base cb bv n 2 _ H5.d (by omega) (by omega)).mono ?_;rintro e w6 ⟨v,rfl,hv,hd⟩;have H6w:Hid (NInv base cb bv n w eb w.heap.size (⟨8,s1,false,⟨#[]⟩,0,0,0⟩:Nd) w6):=H5.call hd;clear hd;rcases hv with rfl|rfl
  ·have c6_2:=H6w.e.cell (j:=2) rfl;have z6_2:=H6w.e.frozen 2;obtain⟨W7,hW7⟩:=qE (w6.setCell ⟨eb,2,none⟩ (.bool true):World);have H7:Hid (NInv base cb bv n w eb w.heap.size (⟨8,s1,true,⟨#[]⟩,0,0,0⟩:Nd) W7):=by rw[hW7];exact H6w.set 2 _ _ rfl ⟨H6w.sm.s,H6w.sm.t,H6w.sm.lo,H6w.sm.up,H6w.sm.n,H6w.sm.kind⟩
   go_upto_region 23 with fail;rw[←hW7];clear hW7;have cH:=H7.e.cell (j:=2) rfl;go_upto_region 24 with fail;clear cH;have HL:Hid (Calls Tryz.prog 110 #[.pointer (some ⟨cb,0,none⟩),.int .i64 1,.int .i64 2] W7.drew fun e w'=>∃s:ByteArray,e=.returned (.string s)∧s.size≤100∧Drew base cb bv n W7.drew w'):=yA9 base cb bv n 1 2 _ H7.drew.d (by omega) (by omega) (by omega);have hS0:(fun wz:World=>wz.cell? ⟨eb,1,none⟩=some (.string s1)) W7.drew:=H7.drew.e.cell (j:=1) rfl;refine yAb 6 (fun wz:World=>wz.cell? ⟨eb,1,none⟩=some (.string s1)) (by kernel_rfl) ?_;refine j3a 0 hS0 ?_;iterate 2 refine j3b hS0 ?_
   refine qO 3 rfl fun K hK=>?_;go_simp;refine HL.mono ?_;rintro e w8 ⟨s4,rfl,hs4,hd⟩;have H8w:Hid (NInv base cb bv n w eb w.heap.size (⟨8,s1,true,⟨#[]⟩,0,0,0⟩:Nd) w8):=H7.drew.call hd;clear hd HL hS0;have hS0:(fun wz:World=>wz.cell? ⟨eb,1,none⟩=some (.string s1)) w8:=H8w.e.cell (j:=1) rfl;refine hK.out _ _ (.inr hS0) ?_;clear hK;refine jS ?_;have hcat:¬9223372036854775807<s1.size+s4.size:=by omega
   refine j3a 4 hS0 ?_;clear hcat;refine j3a 5 hS0 ?_;have c8_3:=H8w.e.cell (j:=3) rfl;have z8_3:=H8w.e.frozen 3;obtain⟨W9,hW9⟩:=qE (w8.setCell ⟨eb,3,none⟩ (.string (s1++s4)):World);have H9:Hid (NInv base cb bv n w eb w.heap.size (⟨8,s1,true,(s1++s4),0,0,0⟩:Nd) W9):=by rw[hW9];exact H8w.set 3 _ _ rfl ⟨H8w.sm.s,(by show(s1++s4).size≤300000;rw[yDd];omega),H8w.sm.lo,H8w.sm.up,H8w.sm.n,H8w.sm.kind⟩
   refine qO 6 rfl fun K hK=>?_;go_simp;refine hK.out _ _ (.inl rfl) ?_;clear hK;refine jS ?_;refine qD ?_;rw[←hW9];clear hW9 hS0;go_upto_region 49 with fail;obtain⟨k0,k1,k2,k3,k4,k5,k6⟩:=H9.e.c7;obtain⟨l0,l1,l2,l3,l4,l5,l6⟩:=H9.r.c7;have lf:=H9.r.frozen;obtain⟨WF,hWF⟩:=qE (set7 W9 w.heap.size (⟨8,s1,true,(s1++s4),0,0,0⟩:Nd):World);have hfin:=H9.fin;rw[←hWF]at hfin;obtain⟨hB9,HR⟩:=hfin;obtain⟨p0,p1,p2,p3,p4,p5,p6⟩:=hB9.c7;have HRH:Hid (LefP base cb bv n w (.returned (Nd.v (⟨8,s1,true,(s1++s4),0,0,0⟩:Nd))) WF):=HR;exact zzQ8
  ·have c6_2:=H6w.e.cell (j:=2) rfl;have z6_2:=H6w.e.frozen 2;obtain⟨W7,hW7⟩:=qE (w6.setCell ⟨eb,2,none⟩ (.bool false):World);have H7:Hid (NInv base cb bv n w eb w.heap.size (⟨8,s1,false,⟨#[]⟩,0,0,0⟩:Nd) W7):=by rw[hW7];exact H6w.set 2 _ _ rfl ⟨H6w.sm.s,H6w.sm.t,H6w.sm.lo,H6w.sm.up,H6w.sm.n,H6w.sm.kind⟩
   go_upto_region 23 with fail;rw[←hW7];clear hW7;have cH:=H7.e.cell (j:=2) rfl;go_upto_region 49 with fail;clear cH;obtain⟨k0,k1,k2,k3,k4,k5,k6⟩:=H7.e.c7;obtain⟨l0,l1,l2,l3,l4,l5,l6⟩:=H7.r.c7;have lf:=H7.r.frozen;obtain⟨WF,hWF⟩:=qE (set7 W7 w.heap.size (⟨8,s1,false,⟨#[]⟩,0,0,0⟩:Nd):World);have hfin:=H7.fin;rw[←hWF]at hfin;obtain⟨hB9,HR⟩:=hfin;obtain⟨p0,p1,p2,p3,p4,p5,p6⟩:=hB9.c7;have HRH:Hid (LefP base cb bv n w (.returned (Nd.v (⟨8,s1,false,⟨#[]⟩,0,0,0⟩:Nd))) WF):=HR;exact zzQ8
 by_cases x7:x=7
 ·subst x7;exact zzQ7
 by_cases x8:x=8
 ·subst x8;exact zzQ7
 by_cases x9:x=9
 ·subst x9;exact zzQ5
 by_cases x10:x=10
 ·subst x10;exact zzQ5
 by_cases x11:x=11
 ·subst x11;have c2_0:=H2.e.cell (j:=0) rfl;have z2_0:=H2.e.frozen 0;obtain⟨W3,hW3⟩:=qE (W2.setCell ⟨eb,0,none⟩ (.int .i64 11):World);have H3:Hid (NInv base cb bv n w eb w.heap.size (⟨11,⟨#[]⟩,false,⟨#[]⟩,0,0,0⟩:Nd) W3):=by rw[hW3];exact H2.set 0 _ _ rfl ⟨H2.sm.s,H2.sm.t,H2.sm.lo,H2.sm.up,H2.sm.n,(by show(0:Int)≤11∧(11:Int)≤100000;omega)⟩
  go_upto_region 42 with fail;rw[←hW3];clear hW3;go_wp2_with fail;refine(yAl base cb bv n 2 _ H3.d (by omega) (by omega)).mono ?_;rintro e w4 ⟨y,rfl,hy0,hy1,hd⟩;have H4w:Hid (NInv base cb bv n w eb w.heap.size (⟨11,⟨#[]⟩,false,⟨#[]⟩,0,0,0⟩:Nd) w4):=H3.call hd;clear hd;have c4_6:=H4w.e.cell (j:=6) rfl;have z4_6:=H4w.e.frozen 6;obtain⟨W5,hW5⟩:=qE (w4.setCell ⟨eb,6,none⟩ (.int .i64 (1+y)):World);have H5:Hid (NInv base cb bv n w eb w.heap.size (⟨11,⟨#[]⟩,false,⟨#[]⟩,0,0,(1+y)⟩:Nd) W5):=by rw[hW5];exact H4w.set 6 _ _ rfl ⟨H4w.sm.s,H4w.sm.t,H4w.sm.lo,H4w.sm.up,(by show 0≤1+y∧1+y≤100000;omega),H4w.sm.kind⟩
  go_upto_region 49 with fail;rw[←hW5];clear hW5;obtain⟨k0,k1,k2,k3,k4,k5,k6⟩:=H5.e.c7;obtain⟨l0,l1,l2,l3,l4,l5,l6⟩:=H5.r.c7;have lf:=H5.r.frozen;obtain⟨WF,hWF⟩:=qE (set7 W5 w.heap.size (⟨11,⟨#[]⟩,false,⟨#[]⟩,0,0,(1+y)⟩:Nd):World);have hfin:=H5.fin;rw[←hWF]at hfin;obtain⟨hB9,HR⟩:=hfin;obtain⟨p0,p1,p2,p3,p4,p5,p6⟩:=hB9.c7;have HRH:Hid (LefP base cb bv n w (.returned (Nd.v (⟨11,⟨#[]⟩,false,⟨#[]⟩,0,0,(1+y)⟩:Nd))) WF):=HR;exact zzQ8
 by_cases x12:x=12
 ·subst x12;have c2_0:=H2.e.cell (j:=0) rfl;have z2_0:=H2.e.frozen 0;obtain⟨W3,hW3⟩:=qE (W2.setCell ⟨eb,0,none⟩ (.int .i64 11):World);have H3:Hid (NInv base cb bv n w eb w.heap.size (⟨11,⟨#[]⟩,false,⟨#[]⟩,0,0,0⟩:Nd) W3):=by rw[hW3];exact H2.set 0 _ _ rfl ⟨H2.sm.s,H2.sm.t,H2.sm.lo,H2.sm.up,H2.sm.n,(by show(0:Int)≤11∧(11:Int)≤100000;omega)⟩
  go_upto_region 42 with fail;rw[←hW3];clear hW3;go_wp2_with fail;refine(yAl base cb bv n 2 _ H3.d (by omega) (by omega)).mono ?_;rintro e w4 ⟨y,rfl,hy0,hy1,hd⟩;have H4w:Hid (NInv base cb bv n w eb w.heap.size (⟨11,⟨#[]⟩,false,⟨#[]⟩,0,0,0⟩:Nd) w4):=H3.call hd;clear hd;have c4_6:=H4w.e.cell (j:=6) rfl;have z4_6:=H4w.e.frozen 6;obtain⟨W5,hW5⟩:=qE (w4.setCell ⟨eb,6,none⟩ (.int .i64 (1+y)):World);have H5:Hid (NInv base cb bv n w eb w.heap.size (⟨11,⟨#[]⟩,false,⟨#[]⟩,0,0,(1+y)⟩:Nd) W5):=by rw[hW5];exact H4w.set 6 _ _ rfl ⟨H4w.sm.s,H4w.sm.t,H4w.sm.lo,H4w.sm.up,(by show 0≤1+y∧1+y≤100000;omega),H4w.sm.kind⟩
  go_upto_region 49 with fail;rw[←hW5];clear hW5;obtain⟨k0,k1,k2,k3,k4,k5,k6⟩:=H5.e.c7;obtain⟨l0,l1,l2,l3,l4,l5,l6⟩:=H5.r.c7;have lf:=H5.r.frozen;obtain⟨WF,hWF⟩:=qE (set7 W5 w.heap.size (⟨11,⟨#[]⟩,false,⟨#[]⟩,0,0,(1+y)⟩:Nd):World);have hfin:=H5.fin;rw[←hWF]at hfin;obtain⟨hB9,HR⟩:=hfin;obtain⟨p0,p1,p2,p3,p4,p5,p6⟩:=hB9.c7;have HRH:Hid (LefP base cb bv n w (.returned (Nd.v (⟨11,⟨#[]⟩,false,⟨#[]⟩,0,0,(1+y)⟩:Nd))) WF):=HR;exact zzQ8
 by_cases x13:x=13
 ·subst x13;have c2_0:=H2.e.cell (j:=0) rfl;have z2_0:=H2.e.frozen 0;obtain⟨W3,hW3⟩:=qE (W2.setCell ⟨eb,0,none⟩ (.int .i64 12):World);have H3:Hid (NInv base cb bv n w eb w.heap.size (⟨12,⟨#[]⟩,false,⟨#[]⟩,0,0,0⟩:Nd) W3):=by rw[hW3];exact H2.set 0 _ _ rfl ⟨H2.sm.s,H2.sm.t,H2.sm.lo,H2.sm.up,H2.sm.n,(by show(0:Int)≤12∧(12:Int)≤100000;omega)⟩
  go_upto_region 45 with fail;rw[←hW3];clear hW3;go_wp2_with fail;refine(yAl base cb bv n 4 _ H3.d (by omega) (by omega)).mono ?_;rintro e w4 ⟨y,rfl,hy0,hy1,hd⟩;have H4w:Hid (NInv base cb bv n w eb w.heap.size (⟨12,⟨#[]⟩,false,⟨#[]⟩,0,0,0⟩:Nd) w4):=H3.call hd;clear hd;have c4_6:=H4w.e.cell (j:=6) rfl;have z4_6:=H4w.e.frozen 6;obtain⟨W5,hW5⟩:=qE (w4.setCell ⟨eb,6,none⟩ (.int .i64 (1+y)):World);have H5:Hid (NInv base cb bv n w eb w.heap.size (⟨12,⟨#[]⟩,false,⟨#[]⟩,0,0,(1+y)⟩:Nd) W5):=by rw[hW5];exact H4w.set 6 _ _ rfl ⟨H4w.sm.s,H4w.sm.t,H4w.sm.lo,H4w.sm.up,(by show 0≤1+y∧1+y≤100000;omega),H4w.sm.kind⟩
  go_upto_region 49 with fail;rw[←hW5];clear hW5;obtain⟨k0,k1,k2,k3,k4,k5,k6⟩:=H5.e.c7;obtain⟨l0,l1,l2,l3,l4,l5,l6⟩:=H5.r.c7;have lf:=H5.r.frozen;obtain⟨WF,hWF⟩:=qE (set7 W5 w.heap.size (⟨12,⟨#[]⟩,false,⟨#[]⟩,0,0,(1+y)⟩:Nd):World);have hfin:=H5.fin;rw[←hWF]at hfin;obtain⟨hB9,HR⟩:=hfin;obtain⟨p0,p1,p2,p3,p4,p5,p6⟩:=hB9.c7;have HRH:Hid (LefP base cb bv n w (.returned (Nd.v (⟨12,⟨#[]⟩,false,⟨#[]⟩,0,0,(1+y)⟩:Nd))) WF):=HR;exact zzQ8
 by_cases x14:x=14
 ·subst x14;have c2_0:=H2.e.cell (j:=0) rfl;have z2_0:=H2.e.frozen 0;obtain⟨W3,hW3⟩:=qE (W2.setCell ⟨eb,0,none⟩ (.int .i64 13):World);have H3:Hid (NInv base cb bv n w eb w.heap.size (⟨13,⟨#[]⟩,false,⟨#[]⟩,0,0,0⟩:Nd) W3):=by rw[hW3];exact H2.set 0 _ _ rfl ⟨H2.sm.s,H2.sm.t,H2.sm.lo,H2.sm.up,H2.sm.n,(by show(0:Int)≤13∧(13:Int)≤100000;omega)⟩
  go_upto_region 48 with fail;rw[←hW3];clear hW3;go_wp2_with fail;refine(yAl base cb bv n 3 _ H3.d (by omega) (by omega)).mono ?_;rintro e w4 ⟨y,rfl,hy0,hy1,hd⟩;have H4w:Hid (NInv base cb bv n w eb w.heap.size (⟨13,⟨#[]⟩,false,⟨#[]⟩,0,0,0⟩:Nd) w4):=H3.call hd;clear hd;have c4_6:=H4w.e.cell (j:=6) rfl;have z4_6:=H4w.e.frozen 6;obtain⟨W5,hW5⟩:=qE (w4.setCell ⟨eb,6,none⟩ (.int .i64 (1+y)):World);have H5:Hid (NInv base cb bv n w eb w.heap.size (⟨13,⟨#[]⟩,false,⟨#[]⟩,0,0,(1+y)⟩:Nd) W5):=by rw[hW5];exact H4w.set 6 _ _ rfl ⟨H4w.sm.s,H4w.sm.t,H4w.sm.lo,H4w.sm.up,(by show 0≤1+y∧1+y≤100000;omega),H4w.sm.kind⟩
  go_upto_region 49 with fail;rw[←hW5];clear hW5;obtain⟨k0,k1,k2,k3,k4,k5,k6⟩:=H5.e.c7;obtain⟨l0,l1,l2,l3,l4,l5,l6⟩:=H5.r.c7;have lf:=H5.r.frozen;obtain⟨WF,hWF⟩:=qE (set7 W5 w.heap.size (⟨13,⟨#[]⟩,false,⟨#[]⟩,0,0,(1+y)⟩:Nd):World);have hfin:=H5.fin;rw[←hWF]at hfin;obtain⟨hB9,HR⟩:=hfin;obtain⟨p0,p1,p2,p3,p4,p5,p6⟩:=hB9.c7;have HRH:Hid (LefP base cb bv n w (.returned (Nd.v (⟨13,⟨#[]⟩,false,⟨#[]⟩,0,0,(1+y)⟩:Nd))) WF):=HR;exact zzQ8
 ·obtain rfl:x=15:=by omega
  have c2_0:=H2.e.cell (j:=0) rfl;have z2_0:=H2.e.frozen 0;obtain⟨W3,hW3⟩:=qE (W2.setCell ⟨eb,0,none⟩ (.int .i64 1):World);have H3:Hid (NInv base cb bv n w eb w.heap.size (⟨1,⟨#[]⟩,false,⟨#[]⟩,0,0,0⟩:Nd) W3):=by rw[hW3];exact H2.set 0 _ _ rfl ⟨H2.sm.s,H2.sm.t,H2.sm.lo,H2.sm.up,H2.sm.n,(by show(0:Int)≤1∧(1:Int)≤100000;omega)⟩
  go_upto_region 49 with fail;rw[←hW3];clear hW3;obtain⟨k0,k1,k2,k3,k4,k5,k6⟩:=H3.e.c7;obtain⟨l0,l1,l2,l3,l4,l5,l6⟩:=H3.r.c7;have lf:=H3.r.frozen;obtain⟨WF,hWF⟩:=qE (set7 W3 w.heap.size (⟨1,⟨#[]⟩,false,⟨#[]⟩,0,0,0⟩:Nd):World);have hfin:=H3.fin;rw[←hWF]at hfin;obtain⟨hB9,HR⟩:=hfin;obtain⟨p0,p1,p2,p3,p4,p5,p6⟩:=hB9.c7;have HRH:Hid (LefP base cb bv n w (.returned (Nd.v (⟨1,⟨#[]⟩,false,⟨#[]⟩,0,0,0⟩:Nd))) WF):=HR;exact zzQ8
def cut (p:List UInt8) (i k:Nat):List UInt8:=(p.drop i).take (k-i)
theorem yGl (p:List UInt8) (i:Nat):cut p i i= []:=by simp[cut]
variable {p:List UInt8} {i k:Nat}
theorem yBk (h:k≤p.length):(cut p i k).length=k-i:=by simp[cut];omega
variable {j:Nat}
theorem yCh (h1:i≤j) (h2:j≤k):cut p i k=cut p i j++cut p j k:=by
 unfold cut;have:k-i=(j-i)+(k-j):=by omega
 rw[this,List.take_add,List.drop_drop];congr 3;omega
theorem yCt {c:UInt8} (h:p[i]?=some c):cut p i (i+1)= [c]:=by have hi:=yAs h;unfold cut;rw[List.drop_eq_getElem_cons hi,Nat.add_sub_cancel_left,yCs h];simp
abbrev yEq (c:UInt8):Prop:=yFk c∨c=40∨c=91∨c=46∨c=92
def RepG (A:List UInt8→Pat→Prop) (xs:List UInt8) (t:Pat):Prop:=
 ∃(ys ops:List UInt8) (a:Pat),xs=ys++ops∧A ys a∧(∀c∈ops,isOp c)∧t=(if ops= []then a else .rep a (ops.any (· != 43)) (ops.any (· != 63)))
def SeqG (A:List UInt8→Pat→Prop):List Pat→List UInt8→Prop
 | [],xs=>xs= []
 |t::ts,xs=>∃ys zs,xs=ys++zs∧RepG A ys t∧SeqG A ts zs
def AltG (A:List UInt8→Pat→Prop):List (List Pat)→List UInt8→Prop
 | [],xs=>False
 | [ts],xs=>SeqG A ts xs
 |ts::os,xs=>∃ys zs,xs=ys++124::zs∧SeqG A ts ys∧AltG A os zs
def yAz:Nat→List UInt8→Pat→Prop
 |0,_,_=>False
 |n+1,xs,t=>(∃c,xs= [c]∧¬yEq c∧t=.byte c)∨(xs= [46]∧t=.cls (fun _=>true))∨(∃c,xs= [92,c]∧t=.byte c)∨
   (∃ys os,xs=40::ys++ [41]∧AltG (yAz n) os ys∧t=.alt os)∨(∃p i k f,p[i]?=some 91∧yAt p (i+1)=.inl (f,k)∧xs=cut p i k∧t=.cls f)
variable {A B:List UInt8→Pat→Prop} {t:Pat}
theorem RepG.mono (h:∀xs t,A xs t→B xs t) {xs:List UInt8}:RepG A xs t→RepG B xs t:=fun⟨ys,ops,a,h1,h2,h3,h4⟩=>⟨ys,ops,a,h1,h _ _ h2,h3,h4⟩
theorem SeqG.mono (h:∀xs t,A xs t→B xs t):∀{ts:List Pat} {xs:List UInt8},SeqG A ts xs→SeqG B ts xs
 | [],_,q=>q
 |_::_,_,⟨ys,zs,h1,h2,h3⟩=>⟨ys,zs,h1,h2.mono h,SeqG.mono h h3⟩
theorem AltG.mono (h:∀xs t,A xs t→B xs t):∀{os:List (List Pat)} {xs:List UInt8},AltG A os xs→AltG B os xs
 | [],_,q=>q
 | [_],_,q=>SeqG.mono h q
 |_::_::_,_,⟨ys,zs,h1,h2,h3⟩=>⟨ys,zs,h1,h2.mono h,AltG.mono h h3⟩
theorem yAz.mono:∀{n m:Nat} {xs:List UInt8} {t:Pat},n≤m→yAz n xs t→yAz m xs t
 |0,_,_,_,_,h=>h.elim
 |n+1,0,_,_,hm,_=>by omega
 |n+1,m+1,xs,t,hm,h=>by
  rcases h with h|h|h|⟨ys,os,h1,h2,h3⟩|h
  ·exact .inl h
  ·exact .inr (.inl h)
  ·exact .inr (.inr (.inl h))
  ·exact .inr (.inr (.inr (.inl ⟨ys,os,h1,h2.mono (fun _ _ q=>yAz.mono (by omega) q),h3⟩)))
  ·exact .inr (.inr (.inr (.inr h)))
theorem SeqG.snoc:∀{ts:List Pat} {xs ys:List UInt8} {t:Pat},SeqG A ts xs→RepG A ys t→SeqG A (ts++ [t]) (xs++ys)
 | [],xs,ys,t,h,k=>by subst h;exact⟨ys,[],by simp,k,rfl⟩
 |s::ts,xs,ys,t,⟨us,vs,h1,h2,h3⟩,k=>⟨us,vs++ys,by rw[h1];simp,h2,SeqG.snoc h3 k⟩
theorem AltG.snoc:∀{os:List (List Pat)} {xs ys:List UInt8} {ts:List Pat},AltG A os xs→SeqG A ts ys→AltG A (os++ [ts]) (xs++124::ys)
 | [],_,_,_,h,_=>h.elim
 | [s],xs,ys,ts,h,k=>⟨xs,ys,rfl,h,k⟩
 |s::o::os,xs,ys,ts,⟨us,vs,h1,h2,h3⟩,k=>⟨us,vs++124::ys,by rw[h1];simp,h2,AltG.snoc h3 k⟩
structure yB5 (p:List UInt8) (o i k:Nat) (t:Pat):Prop where
 lt:i<k
 le:k≤p.length
 chk:∀a,chkM p i o a=chkM p k o true
 gr:∃n,yAz n (cut p i k) t
structure yOm (p:List UInt8) (o i k:Nat) (t:Pat):Prop where
 lt:i<k
 le:k≤p.length
 chk:∀a,chkM p i o a=chkM p k o true
 next:∀c,p[k]?=some c→¬isOp c
 gr:∃n,RepG (yAz n) (cut p i k) t
structure yKp (p:List UInt8) (o i k:Nat) (ts:List Pat):Prop where
 lei:i≤k
 le:k≤p.length
 chk:chkM p i o false=chkM p k o false
 gr:∃n,SeqG (yAz n) ts (cut p i k)
structure yEp (p:List UInt8) (o i k:Nat) (os:List (List Pat)):Prop where
 lei:i≤k
 le:k≤p.length
 chk:chkM p i o false=chkM p k o false
 gr:∃n,AltG (yAz n) os (cut p i k)
variable {o:Nat}
theorem yKp.nil (h:i≤p.length):yKp p o i i []:=⟨Nat.le_refl _,h,rfl,0,yGl p i⟩
variable {ts:List Pat}
theorem yKp.more (h:yKp p o i j ts) (r:yOm p o j k t):yKp p o i k (ts++ [t]):=by
 obtain⟨n,hn⟩:=h.gr;obtain⟨m,hm⟩:=r.gr;refine⟨Nat.le_trans h.lei (Nat.le_of_lt r.lt),r.le,?_,max n m,?_⟩
 ·rw[h.chk,r.chk,yXb r.next]
 ·rw[yCh h.lei (Nat.le_of_lt r.lt)];exact yXs
theorem yEp.one (h:yKp p o i k ts):yEp p o i k [ts]:=⟨h.lei,h.le,h.chk,h.gr⟩
variable {os:List (List Pat)}
theorem yEp.more (h:yEp p o i j os) (hb:p[j]?=some 124) (s:yKp p o (j+1) k ts):yEp p o i k (os++ [ts]):=by
 obtain⟨n,hn⟩:=h.gr;obtain⟨m,hm⟩:=s.gr;have hl:=s.lei;refine⟨Nat.le_trans h.lei (by omega),s.le,?_,max n m,?_⟩
 ·rw[h.chk,yKf hb,s.chk]
 ·rw[yCh h.lei (show j≤k by omega),yCh (show j≤j+1 by omega) hl,yCt hb];exact yXs
theorem yB5.group (h:p[i]?=some 40) (ho:¬o=20) (a:yEp p (o+1) (i+1) j os) (hj:p[j]?=some 41):yB5 p o i (j+1) (.alt os):=by
 obtain⟨n,hn⟩:=a.gr;have hl:=a.lei;refine⟨by omega,yAs hj,fun b=>?_,n+1,.inr (.inr (.inr (.inl ⟨_,os,?_,hn,rfl⟩)))⟩
 ·rw[yEa h,if_neg ho,a.chk,yEn hj,if_neg (by omega),Nat.add_sub_cancel]
 ·rw[yCh (show i≤i+1 by omega) (show i+1≤j+1 by omega),yCt h,yCh hl (show j≤j+1 by omega),yCt hj];simp
theorem yB5.plain {c:UInt8} (h:p[i]?=some c) (hc:¬yEq c):yB5 p o i (i+1) (.byte c):=by refine⟨by omega,yAs h,fun a=>yFp h (fun q=>hc (.inl q)) (fun q=>hc (.inr (.inl q))) (fun q=>hc (.inr (.inr (.inl q)))) (fun q=>hc (.inr (.inr (.inr (.inr q))))),1,.inl ⟨c,yCt h,hc,rfl⟩⟩
theorem yB5.dot (h:p[i]?=some 46):yB5 p o i (i+1) (.cls (fun _=>true)):=by refine⟨by omega,yAs h,fun a=>yFp h (by decide) (by decide) (by decide) (by decide),1,.inr (.inl ⟨yCt h,rfl⟩)⟩
theorem yB5.esc {c:UInt8} (h:p[i]?=some 92) (hc:p[i+1]?=some c):yB5 p o i (i+1+1) (.byte c):=by have hl:=yAs hc;refine⟨by omega,hl,fun a=>by rw[yH5 h,if_neg (by omega)],1,.inr (.inr (.inl ⟨c,?_,rfl⟩))⟩;rw[yCh (show i≤i+1 by omega) (show i+1≤i+1+1 by omega),yCt h,yCt hc];rfl
theorem yB5.class {f:UInt8→Bool} (h:p[i]?=some 91) (hc:yAt p (i+1)=.inl (f,k)):yB5 p o i k (.cls f):=by have hl:=yBv hc;exact⟨by omega,hl.2,fun a=>by rw[yEo h,hc],1,.inr (.inr (.inr (.inr ⟨p,i,k,f,h,hc,rfl,rfl⟩)))⟩
structure yK6 (p:List UInt8) (o i j k:Nat) (a:Pat) (op rp:Bool):Prop where
 atom:yB5 p o i j a
 lt:j≤k
 le:k≤p.length
 chk:chkM p j o true=chkM p k o true
 ops:∀c∈cut p j k,isOp c
 opt:op=(cut p j k).any (· != 43)
 rpt:rp=(cut p j k).any (· != 63)
variable {a:Pat}
theorem yK6.zero (h:yB5 p o i j a):yK6 p o i j j a false false:=
 ⟨h,Nat.le_refl _,h.le,rfl,by rw[yGl];simp,by rw[yGl];rfl,by rw[yGl];rfl⟩
variable {op rp:Bool}
theorem yK6.more {c:UInt8} (h:yK6 p o i j k a op rp) (hc:p[k]?=some c) (hop:isOp c):yK6 p o i j (k+1) a (op || c != 43) (rp || c != 63):=by
 have hcut:cut p j (k+1)=cut p j k++ [c]:=by rw[yCh h.lt (show k≤k+1 by omega),yCt hc]
 refine⟨h.atom,by have:=h.lt;omega,yAs hc,?_,?_,?_,?_⟩
 ·rw[h.chk,yOe hc hop,if_pos rfl]
 ·rw[hcut];intro d hd;rcases List.mem_append.1 hd with hd|hd
  ·exact h.ops d hd
  ·simp at hd;subst hd;exact hop
 ·rw[hcut,List.any_append,←h.opt];simp
 ·rw[hcut,List.any_append,←h.rpt];simp
theorem yK6.rep (h:yK6 p o i j k a op rp) (hn:∀c,p[k]?=some c→¬isOp c):yOm p o i k (if j=k then a else .rep a op rp):=by
 obtain⟨n,hg⟩:=h.atom.gr;have h1:=h.atom.lt;have h2:=h.lt;refine⟨by omega,h.le,fun b=>by rw[h.atom.chk,h.chk],hn,n,cut p i j,cut p j k,a,yCh (by omega) h2,hg,h.ops,?_⟩;by_cases hjk:j=k
 ·subst hjk;rw[if_pos rfl,if_pos (yGl p j)]
 ·have:¬cut p j k= []:=fun q=>by have:=yBk (p:=p) (i:=j) h.le;rw[q]at this;simp at this;omega
  rw[if_neg hjk,if_neg this,←h.opt,←h.rpt]
abbrev ySy (b:UInt8):Value:=.iface 211 (.agg #[.int .u8 (b.toNat:Int)])
def Bet (a b:Nat):Nat→Prop:=fun k=>a≤k∧k<b
structure yCp (w:World) (R:Nat→Prop) (g:Nat) (vs:List Value):Prop where
 blk:R g
 lt:g<w.heap.size
 val:∀(i:Nat) v,vs[i]?=some v→w.cell? ⟨g,i,none⟩=some v
variable {w':World} {R:Nat→Prop}
theorem yCp.chg {g:Nat} {vs:List Value} (h:yCp w R g vs) (hc:Chg S w w') (hS:∀k,S k→¬R k):yCp w' R g vs:=
 ⟨h.blk,Nat.lt_of_lt_of_le h.lt hc.size,fun i v hv=>by rw[hc.cell (p:=⟨g,i,none⟩) h.lt (fun q=>hS g q h.blk)];exact h.val i v hv⟩
def yOl (N:Pat→Value→Prop) (w:World) (lo:Nat→Prop) (ts:List Pat) (u:Value):Prop:=
 (ts= []∧u=.slice none 0 0)∨∃(g cp:Nat) (us:List Value),u=.slice (some ⟨g,0,none⟩) ts.length cp∧us.length=ts.length∧yCp w lo g us∧∀(i:Nat) x t,us[i]?=some x→ts[i]?=some t→N t x
def yQb (N:Pat→Value→Prop) (w:World) (lo:Nat→Prop) (os:List (List Pat)) (u:Value):Prop:=
 ∃(g cp:Nat) (us:List Value),u=.slice (some ⟨g,0,none⟩) os.length cp∧us.length=os.length∧yCp w lo g us∧∀(i:Nat) x ts,us[i]?=some x→os[i]?=some ts→yOl N w lo ts x
def yDw:Nat→World→(Nat→Prop)→Pat→Value→Prop
 |0,_,_,_,_=>False
 |n+1,w,lo,.byte b,v=>v=ySy b
 |n+1,w,lo,.cls f,v=>v=clsV f
 |n+1,w,lo,.rep t o r,v=>∃u,v=.iface 219 (.agg #[u,.bool o,.bool r])∧yDw n w lo t u
 |n+1,w,lo,.alt os,v=>∃u,v=.iface 142 (.agg #[u])∧yQb (yDw n w lo) w lo os u
variable {lo lo':Nat→Prop} {u:Value}
theorem yOl.mono {N M:Pat→Value→Prop} (hN:∀t v,N t v→M t v) (hV:∀g vs,yCp w lo g vs→yCp w' lo' g vs):yOl N w lo ts u→yOl M w' lo' ts u
 | .inl h=>.inl h
 | .inr ⟨g,cp,us,h1,h2,h3,h4⟩=>.inr ⟨g,cp,us,h1,h2,hV _ _ h3,fun i x t hx ht=>hN _ _ (h4 i x t hx ht)⟩
theorem yQb.mono {N M:Pat→Value→Prop} (hN:∀t v,N t v→M t v) (hV:∀g vs,yCp w lo g vs→yCp w' lo' g vs):yQb N w lo os u→yQb M w' lo' os u
 |⟨g,cp,us,h1,h2,h3,h4⟩=>⟨g,cp,us,h1,h2,hV _ _ h3,fun i x t hx ht=>(h4 i x t hx ht).mono hN hV⟩
theorem yDw.mono:∀{n m:Nat} {w w':World} {lo lo':Nat→Prop} (hV:∀g vs,yCp w lo g vs→yCp w' lo' g vs) {t:Pat} {v:Value},n≤m→yDw n w lo t v→yDw m w' lo' t v
 |0,_,_,_,_,_,_,_,_,_,h=>h.elim
 |n+1,0,_,_,_,_,_,_,_,hm,_=>by omega
 |n+1,m+1,w,w',lo,lo',hV,.byte b,v,_,h=>h
 |n+1,m+1,w,w',lo,lo',hV,.cls f,v,_,h=>h
 |n+1,m+1,w,w',lo,lo',hV,.rep t o r,v,hm,⟨u,h1,h2⟩=>⟨u,h1,yDw.mono hV (by omega) h2⟩
 |n+1,m+1,w,w',lo,lo',hV,.alt os,v,hm,⟨u,h1,h2⟩=>⟨u,h1,h2.mono (fun t v q=>yDw.mono hV (by omega) q) hV⟩
def yCf (w:World) (lo:Nat→Prop) (t:Pat) (v:Value):Prop:=∃n,yDw n w lo t v
def yH9 (w:World) (lo:Nat→Prop) (ts:List Pat) (u:Value):Prop:=∃n,yOl (yDw n w lo) w lo ts u
def yE2 (w:World) (lo:Nat→Prop) (os:List (List Pat)) (u:Value):Prop:=∃n,yQb (yDw n w lo) w lo os u
theorem yI7 (hc:Chg S w w') (hS:∀k,S k→¬lo k) (hl:∀k,k<w.heap.size→lo k→lo' k):∀g vs,yCp w lo g vs→yCp w' lo' g vs:=fun g vs h=>by
 have h1:=h.chg hc hS
 exact⟨hl g h.lt h1.blk,h1.lt,h1.val⟩
theorem yCf.move {v:Value} (h:yCf w lo t v) (hc:Chg S w w') (hS:∀k,S k→¬lo k) (hl:∀k,k<w.heap.size→lo k→lo' k):yCf w' lo' t v:=by obtain⟨n,hn⟩:=h;exact⟨n,hn.mono (yI7 hc hS hl) (Nat.le_refl _)⟩
theorem yH9.move (h:yH9 w lo ts u) (hc:Chg S w w') (hS:∀k,S k→¬lo k) (hl:∀k,k<w.heap.size→lo k→lo' k):yH9 w' lo' ts u:=by exact yXp
theorem yE2.move (h:yE2 w lo os u) (hc:Chg S w w') (hS:∀k,S k→¬lo k) (hl:∀k,k<w.heap.size→lo k→lo' k):yE2 w' lo' os u:=by exact yXp
theorem yJn (w:World) (lo:Nat→Prop) (b:UInt8):yCf w lo (.byte b) (ySy b):=⟨1,rfl⟩
theorem yLe (w:World) (lo:Nat→Prop) (f:UInt8→Bool):yCf w lo (.cls f) (clsV f):=⟨1,rfl⟩
theorem ySc {v:Value} (h:yCf w lo t v) (o r:Bool):yCf w lo (.rep t o r) (.iface 219 (.agg #[v,.bool o,.bool r])):=by obtain⟨n,hn⟩:=h;exact⟨n+1,v,rfl,hn⟩
theorem ySd (h:yE2 w lo os u):yCf w lo (.alt os) (.iface 142 (.agg #[u])):=by obtain⟨n,hn⟩:=h;exact⟨n+1,u,rfl,hn⟩
theorem yNh:∀{ts:List Pat} {us:List Value},us.length=ts.length→(∀(i:Nat) x t,us[i]?=some x→ts[i]?=some t→yCf w lo t x)→∃n,∀(i:Nat) x t,us[i]?=some x→ts[i]?=some t→yDw n w lo t x
 | [],[],_,_=>⟨0,fun i x t hx=>by simp at hx⟩
 |t::ts,u::us,hl,h=>by
  obtain⟨n,hn⟩:=yNh (ts:=ts) (us:=us) (by simpa using hl) (fun i x t hx ht=>h (i+1) x t (by simpa using hx) (by simpa using ht))
  obtain⟨m,hm⟩:=h 0 u t rfl rfl
  refine⟨max n m,fun i x t' hx ht=>?_⟩
  cases i with
  |zero=>simp at hx ht;subst hx ht;exact hm.mono (fun _ _ q=>q) (Nat.le_max_right _ _)
  |succ i=>exact(hn i x t' (by simpa using hx) (by simpa using ht)).mono (fun _ _ q=>q) (Nat.le_max_left _ _)
theorem yQj:∀{os:List (List Pat)} {us:List Value},us.length=os.length→(∀(i:Nat) x ts,us[i]?=some x→os[i]?=some ts→yH9 w lo ts x)→∃n,∀(i:Nat) x ts,us[i]?=some x→os[i]?=some ts→yOl (yDw n w lo) w lo ts x
 | [],[],_,_=>⟨0,fun i x t hx=>by simp at hx⟩
 |t::ts,u::us,hl,h=>by
  obtain⟨n,hn⟩:=yQj (os:=ts) (us:=us) (by simpa using hl) (fun i x t hx ht=>h (i+1) x t (by simpa using hx) (by simpa using ht))
  obtain⟨m,hm⟩:=h 0 u t rfl rfl
  refine⟨max n m,fun i x t' hx ht=>?_⟩
  cases i with
  |zero=>simp at hx ht;subst hx ht;exact hm.mono (fun _ _ q=>q.mono (fun _ _ q=>q) (Nat.le_max_right _ _)) (fun _ _ q=>q)
  |succ i=>exact(hn i x t' (by simpa using hx) (by simpa using ht)).mono (fun _ _ q=>q.mono (fun _ _ q=>q) (Nat.le_max_left _ _)) (fun _ _ q=>q)
theorem yCf.iface {v:Value} (h:yCf w lo t v):∃T c,v=.iface T (.agg c):=by
 obtain⟨n,hn⟩:=h;cases n with
 |zero=>exact hn.elim
 |succ n=>
  cases t with
  |byte b=>exact⟨_,_,hn⟩
  |cls f=>exact⟨_,_,hn⟩
  |rep t o r=>obtain⟨u,h1,_⟩:=hn;exact⟨_,_,h1⟩
  |alt os=>obtain⟨u,h1,_⟩:=hn;exact⟨_,_,h1⟩
def OwnN (w:World) (base:Nat) (v:Value) (us:List Value):Prop:=w.ownsRow base 209 1 v us.length us
def OwnQ (w:World) (base g cp:Nat) (us:List Value):Prop:=w.ownsRow base 206 1 (.slice (some ⟨g,0,none⟩) us.length cp) us.length us
variable {cp:Nat} {us:List Value}
theorem OwnQ.lt {g:Nat} (h:OwnQ w base g cp us):base≤g∧g<w.heap.size:=World.ownsRow.lt h g rfl
theorem OwnQ.vals {g:Nat} (h:OwnQ w base g cp us) (hR:R g):yCp w R g us:=by refine⟨hR,h.lt.2,fun i v hv=>?_⟩;have hi:=(List.getElem?_eq_some_iff.1 hv).1;rw[World.ownsRow.cellAt h i (by omega),hv]
theorem OwnN.seq {v:Value} (h:OwnN w base v us) (hl:us.length=ts.length) (hN:∀(i:Nat) x t,us[i]?=some x→ts[i]?=some t→yCf w R t x) (hb:∀k,v.ownBlock=some k→R k):yH9 w R ts v:=by
 obtain⟨n,hn⟩:=yNh hl hN;refine⟨n,?_⟩;have h':=h;rcases h.2 with⟨rfl,h0⟩|⟨g,cap,cur,rfl,h1,h2,h3⟩
 ·left;refine⟨List.length_eq_zero_iff.1 (by omega),rfl⟩
 ·right;have hlt:=World.ownsRow.lt h' g rfl;refine⟨g,cap,us,by rw[hl],hl,⟨hb g rfl,hlt.2,fun i v hv=>?_⟩,hn⟩;have hi:=(List.getElem?_eq_some_iff.1 hv).1;rw[World.ownsRow.cellAt h' i (by omega),hv]
theorem Tryz.infoNode:(Tryz.prog.info? 209).map (fun i=>(i.zero,i.size,i.bytes))=some (some .nilIface,1,16):=by kernel_rfl
theorem Tryz.infoSeq:(Tryz.prog.info? 206).map (fun i=>(i.zero,i.size,i.bytes))=some (some (.agg #[.slice none 0 0]),1,24):=by kernel_rfl
def yI5 (p:ByteArray) (base g i o:Nat) (w:World) (R:Nat→Pat→Prop) (e:Ending) (w':World):Prop:=
 Chg (fun k=>k=g) w w'∧((∃(k:Nat) (t:Pat) (v:Value),R k t∧e=.returned v∧yCf w' (Bet w.heap.size w'.heap.size) t v∧PrAt w' base g p k o)∨(∃(c:Int) (k:Nat),¬c=0∧(∀a,chkM (sb p) i o a=(c,k))∧e=Pf c k))
def yVx (p:ByteArray) (base g i o:Nat) (w:World) (e:Ending) (w':World):Prop:=
 Chg (fun k=>k=g) w w'∧((∃(k:Nat) (os:List (List Pat)) (u:Value),yEp (sb p) o i k os∧(∀c,(sb p)[k]?=some c→yFk c∧¬c=124)∧e=.returned (.agg #[u])∧yE2 w' (Bet w.heap.size w'.heap.size) os u∧PrAt w' base g p k o)∨(∃(c:Int) (k:Nat),¬c=0∧chkM (sb p) i o false=(c,k)∧e=Pf c k))
def AltC (p:ByteArray) (m:Nat):Prop:=∀(base g i o:Nat) (w:World),p.size-i≤m→i≤p.size→o≤20→PrAt w base g p i o→Calls Tryz.prog 133 #[.pointer (some ⟨g,0,none⟩)] w (yVx p base g i o w)
def yXn (p:ByteArray) (m:Nat):Prop:=∀(base g i o:Nat) (w:World),p.size-i≤m→i<p.size→o≤20→(∀c,(sb p)[i]?=some c→¬yFk c)→PrAt w base g p i o→Calls Tryz.prog 174 #[.pointer (some ⟨g,0,none⟩)] w (yI5 p base g i o w (yB5 (sb p) o i))
variable {p:ByteArray}
theorem PrAt.open {g:Nat} (h:PrAt w base g p i o) (o':Nat):PrAt (w.setCell ⟨g,2,none⟩ (.int .i64 (o':Int))) base g p i o':=yA.set h 2 (.int .i64 (o':Int))
theorem yE2.slice (h:yE2 w lo os u):∃g n cp,u=.slice (some ⟨g,0,none⟩) n cp:=by obtain⟨n,g,cp,us,h1,_⟩:=h;exact⟨g,_,cp,h1⟩
variable {m:Nat}
theorem yW3 (H:AltC p m) (hp:p.size≤200) (base g q o:Nat) (w:World) (hm:p.size-(q+1)≤m) (hq:(sb p)[q]?=some 40) (ho:o≤20) (h:PrAt w base g p (q+1) o):
  Calls Tryz.prog 183 #[.pointer (some ⟨g,0,none⟩)] w (yI5 p base g q o w (yB5 (sb p) o q)):=by
 have HP:Hid (PrAt w base g p (q+1) o∧(sb p)[q]?=some 40):=⟨h,hq⟩;have hgl:=h.lt.2;have hqp:q+1≤p.size:=by have:=yAs hq;rw[yAd]at this;omega
 have c1:=h.cell (j:=1) rfl;have c2:=h.cell (j:=2) rfl;have f2:=h.frozen 2;clear h hq;by_cases ho20:o=20
 ·subst ho20;go_enter Tryz.func183,Tryz.ntmps183;go_wp2_with fail;exact⟨rfl,Chg.refl _ _,.inr ⟨3,q,by decide,fun a=>by rw[yEa HP.2,if_pos rfl],by first|rfl|simp⟩⟩
 have z20:¬(o:Int)=20:=by omega
 have HW:Hid (PrAt (w.setCell ⟨g,2,none⟩ (.int .i64 ((o+1:Nat):Int))) base g p (q+1) (o+1)∧Chg (fun k=>k=g) w (w.setCell ⟨g,2,none⟩ (.int .i64 ((o+1:Nat):Int)))):=⟨PrAt.open HP.1 (o+1),Chg.of_set w g 2 _ rfl⟩;obtain⟨W,hW⟩:=qE (w.setCell ⟨g,2,none⟩ (.int .i64 ((o+1:Nat):Int)):World);have hzW:W.heap.size=w.heap.size:=by rw[hW];simp[World.setCell]
 rw[←hW]at HW;have hW2:W=w.setCell ⟨g,2,none⟩ (.int .i64 ((o:Int)+1)):=hW;have HZ:Hid (W.heap.size=w.heap.size):=hzW;clear hW hzW;go_enter Tryz.func183,Tryz.ntmps183;go_upto_region 4 with fail;rw[←hW2];clear hW2 c1 c2 f2;go_wp2_with fail;refine(H base g (q+1) (o+1) W hm hqp (by omega) HW.1).mono ?_;rintro e w2 ⟨hC2,(⟨k,os,u,hA,hN,rfl,hU,hP2⟩|⟨c,k,hc0,hk,rfl⟩)⟩;case inr=>
  refine⟨rfl,HW.2.trans hC2,.inr ⟨c,k,hc0,fun a=>?_,rfl⟩⟩;rw[yEa HP.2,if_neg ho20,hk]
 obtain⟨gu,nu,cu,rfl⟩:=hU.slice;have hkp:k≤p.size:=by have:=hA.le;rw[yAd]at this;exact this
 have HA:Hid (yEp (sb p) (o+1) (q+1) k os∧(∀c,(sb p)[k]?=some c→yFk c∧¬c=124)):=⟨hA,hN⟩;have HW2:Hid (yE2 w2 (Bet w.heap.size w2.heap.size) os (.slice (some ⟨gu,0,none⟩) nu cu)∧PrAt w2 base g p k (o+1)∧Chg (fun k=>k=g) w w2):=⟨by rw[←HZ.out];exact hU,hP2,HW.2.trans hC2⟩;clear hC2 hA hN hU hP2 HW;obtain⟨W3,hW3⟩:=qE (w2.alloc (Obj.cells #[.slice (some ⟨gu,0,none⟩) nu cu] 142):World);have hs2:=HW2.2.2.size;have HW3:Hid (yE2 W3 (Bet w.heap.size w2.heap.size) os (.slice (some ⟨gu,0,none⟩) nu cu)∧PrAt W3 base g p k (o+1)∧Chg (fun k=>k=g) w W3∧yA W3 w.heap.size 142 1 w2.heap.size [.slice (some ⟨gu,0,none⟩) nu cu]):=by
  have hb:Below w2.heap.size w2 W3:=by rw[hW3];exact qB
  refine⟨HW2.1.move (S:=fun _=>False) (Chg.of_below hb) (fun k q=>q.elim) (fun k _ q=>q),yA.below HW2.2.1 hb,HW2.2.2.trans (Chg.of_below hb),?_⟩;rw[hW3];exact yAa w2 _ hs2 rfl
 clear HW2;go_upto_region 5 with fail;rw[←hW3];obtain⟨IB,hIB⟩:=qE w2.heap.size;rw[←hIB]at HW3;rw[←hIB];have hib:w.heap.size≤IB:=by omega
 clear hW3 hIB hs2;go_wp2_with fail;refine(yEj 41 HW3.2.1 hp).mono ?_;rintro e w4 ⟨hC4,(⟨hx,rfl,hP4⟩|⟨hx,rfl,hP4⟩)⟩;case inr=>
  have HF:Hid (PrAt w4 base g p k (o+1)∧Chg (fun k=>k=g) w w4∧¬(sb p)[k]?=some 41):=⟨hP4,HW3.2.2.1.trans hC4,hx⟩;clear hC4 hx hP4;go_wp2_with fail;refine(yO7 HF.1).mono ?_;rintro e w5 ⟨rfl,rfl⟩;refine⟨rfl,HF.2.1,.inr ⟨2,k,by decide,fun a=>?_,rfl⟩⟩;rw[yEa HP.2,if_neg ho20,HA.1.chk];by_cases hk:k<(sb p).length
  ·obtain⟨c,hc⟩:∃c,(sb p)[k]?=some c:=⟨_,List.getElem?_eq_getElem hk⟩;obtain⟨h1,h2⟩:=HA.2 c hc;rcases h1 with h1|h1|h1|h1
   ·rw[yOe hc h1];rfl
   ·exact absurd h1 h2
   ·subst h1;exact absurd hc HF.2.2
   ·subst h1;rw[yOd hc]
  ·rw[yH6 hk,if_pos (by omega)];have:=HA.1.le;rw[show k=(sb p).length by omega]
 have HF:Hid (yE2 w4 (Bet w.heap.size IB) os (.slice (some ⟨gu,0,none⟩) nu cu)∧PrAt w4 base g p (k+1) (o+1)∧Chg (fun k=>k=g) w w4∧yA w4 w.heap.size 142 1 IB [.slice (some ⟨gu,0,none⟩) nu cu]∧(sb p)[k]?=some 41):=
  ⟨HW3.1.move hC4 (fun k q=>by subst q;exact fun z=>by have:=z.1;omega) (fun k _ q=>q),hP4,HW3.2.2.1.trans hC4,yA.chg HW3.2.2.2 hC4 (by omega),hx⟩
 clear hC4 hx hP4 HW3;go_wp2_with fail;refine(yMc _ w4).mono ?_;rintro e w5 ⟨rfl,hw5⟩;rw[hw5];clear hw5;have d2:=HF.2.1.cell (j:=2) rfl;have g2:=HF.2.1.frozen 2;have HZ4:Hid (yE2 (w4.setCell ⟨g,2,none⟩ (.int .i64 (o:Int))) (Bet w.heap.size IB) os (.slice (some ⟨gu,0,none⟩) nu cu)∧PrAt (w4.setCell ⟨g,2,none⟩ (.int .i64 (o:Int))) base g p (k+1) o∧Chg (fun k=>k=g) w (w4.setCell ⟨g,2,none⟩ (.int .i64 (o:Int)))∧yA (w4.setCell ⟨g,2,none⟩ (.int .i64 (o:Int))) w.heap.size 142 1 IB [.slice (some ⟨gu,0,none⟩) nu cu]):=by have hc:=Chg.of_set w4 g 2 (.int .i64 (o:Int)) (S:=fun k=>k=g) rfl;exact⟨HF.1.move hc (fun k q=>by subst q;exact fun z=>by have:=z.1;omega) (fun k _ q=>q),PrAt.open HF.2.1 o,HF.2.2.1.trans hc,yA.chg HF.2.2.2.1 hc (by omega)⟩
 have HC:Hid (yB5 (sb p) o q (k+1) (.alt os)):=yB5.group HP.2 ho20 HA.1 HF.2.2.2.2;obtain⟨W6,hW6⟩:=qE (w4.setCell ⟨g,2,none⟩ (.int .i64 (o:Int)):World);rw[←hW6]at HZ4;clear HF HA;go_upto_region 7 with fail;rw[←hW6];clear hW6 d2 g2;have b0:=HZ4.2.2.2.cell (j:=0) rfl;go_wp2_with fail;go_ret;exact⟨HZ4.2.2.1,.inl ⟨k+1,.alt os,_,HC.out,rfl,ySd (HZ4.1.move (S:=fun _=>False) (Chg.refl _ _) (fun k q=>q.elim) (fun k hk q=>⟨q.1,hk⟩)),HZ4.2.1⟩⟩
theorem yG6 {x c:UInt8} (h:¬x=c):¬(x.toNat:Int)=(c.toNat:Int):=fun q=>h (UInt8.toNat_inj.1 (by omega))
theorem xAf (H:AltC p m) (hp:p.size≤200):yXn p (m+1):=by
 intro base g i o w hm hi ho he h;obtain⟨x,hx⟩:∃x,(sb p)[i]?=some x:=⟨_,List.getElem?_eq_getElem (by rw[yAd];exact hi)⟩;have HX:Hid ((sb p)[i]?=some x∧¬yFk x):=⟨hx,he x hx⟩;have HP:Hid (PrAt w base g p i o):=h;have hgl:=h.lt.2;clear h he hx;go_enter Tryz.func174,Tryz.ntmps174;go_wp2_with fail;refine(yJi HP.out hp HX.1).mono ?_;rintro e w1 ⟨rfl,hP1,hC1⟩;have HW1:Hid (PrAt w1 base g p (i+1) o∧Chg (fun k=>k=g) w w1):=⟨hP1,hC1⟩;have hs1:=hC1.size;clear hP1 hC1 HP;by_cases h46:x=46
 ·subst h46;go_upto_region 5 with fail;apply wp_region_list;refine yBh rfl _ _ rfl (setA (fun _=>false)) (by simp;exact yOg) ?_;simp only[Act.put,Act.eval,List.setIfInBounds_toArray,List.set_cons_succ,List.set_cons_zero];refine yC5 rfl 182 #[.agg (setA (fun _=>false))] (by simp[execOp,go_sem,Act.eval,Tryz.func182]) ?_;refine(yG3 (fun _=>false) w1).mono ?_;rintro e w2 ⟨rfl,hb2⟩;simp only[Act.put,Act.eval,List.setIfInBounds_toArray,List.set_cons_succ,List.set_cons_zero];refine yBh rfl _ _ rfl (setA (fun _=>true)) (by simp[Act.eval];exact yKi _ (yAg _)) ?_;simp only[Act.put,Act.eval,List.setIfInBounds_toArray,List.set_cons_succ,List.set_cons_zero];go_wp2_with fail;go_ret;exact⟨HW1.2.trans (Chg.of_below hb2),.inl ⟨i+1,_,_,yB5.dot HX.1,rfl,yLe _ _ _,yA.below HW1.1 hb2⟩⟩
 have z46:¬(x.toNat:Int)=46:=yG6 (c:=46) h46;by_cases h92:x=92
 ·subst h92;go_wp2_with fail;refine(yHv HW1.1 hp (by omega)).mono ?_;rintro e w2 ⟨hC2,(⟨y,hy,rfl,hP2⟩|⟨hy,rfl⟩)⟩;case inr=>
   refine⟨rfl,HW1.2.trans hC2,.inr ⟨2,i+1,by decide,fun a=>?_,rfl⟩⟩;have h1:=yAs HX.1;have h2:¬i+1<(sb p).length:=fun q=>by rw[List.getElem?_eq_getElem q]at hy;cases hy
   rw[yH5 HX.1,if_pos (by omega)];rw[show i+1=(sb p).length by omega]
  have HF:Hid (PrAt w2 base g p (i+1+1) o∧Chg (fun k=>k=g) w w2∧(sb p)[i+1]?=some y):=⟨hP2,HW1.2.trans hC2,hy⟩;clear hC2 hy hP2;go_wp2_with fail;go_ret;exact⟨HF.2.1,.inl ⟨i+1+1,_,_,yB5.esc HX.1 HF.2.2,rfl,yJn _ _ _,HF.1⟩⟩
 have z92:¬(x.toNat:Int)=92:=yG6 (c:=92) h92;by_cases h40:x=40
 ·subst h40;go_wp2_with fail;refine(yW3 H hp base g i o w1 (by omega) HX.1 ho HW1.1).mono ?_;rintro e w2 ⟨hC2,(⟨k,t,v,hR,rfl,hN,hP2⟩|⟨c,k,hc0,hk,rfl⟩)⟩;case inr=>exact⟨rfl,HW1.2.trans hC2,.inr ⟨c,k,hc0,hk,rfl⟩⟩
  have HF:Hid (yB5 (sb p) o i k t∧yCf w2 (Bet w.heap.size w2.heap.size) t v∧PrAt w2 base g p k o∧Chg (fun k=>k=g) w w2):=⟨hR,hN.move (S:=fun _=>False) (Chg.refl _ _) (fun k q=>q.elim) (fun k hk q=>⟨by have:=q.1;omega,hk⟩),hP2,HW1.2.trans hC2⟩;obtain⟨T,c,rfl⟩:=hN.iface;clear hC2 hR hN hP2;go_wp2_with fail;go_ret;exact⟨HF.2.2.2,.inl ⟨k,t,_,HF.1,rfl,HF.2.1,HF.2.2.1⟩⟩
 have z40:¬(x.toNat:Int)=40:=yG6 (c:=40) h40;by_cases h91:x=91
 ·subst h91;go_wp2_with fail;refine(ySs HW1.1 hp (by omega)).mono ?_;rintro e w2 ⟨hC2,(⟨f,k,hk,rfl,hP2⟩|⟨c,k,hk,rfl⟩)⟩;case inr=>exact⟨rfl,HW1.2.trans hC2,.inr ⟨c,k,yLp hk,fun a=>by rw[yEo HX.1,hk],rfl⟩⟩
  have HF:Hid (PrAt w2 base g p k o∧Chg (fun k=>k=g) w w2∧yAt (sb p) (i+1)=.inl (f,k)):=⟨hP2,HW1.2.trans hC2,hk⟩;clear hC2 hk hP2;go_wp2_with fail;go_ret;exact⟨HF.2.1,.inl ⟨k,_,_,yB5.class HX.1 HF.2.2,rfl,yLe _ _ _,HF.1⟩⟩
 have z91:¬(x.toNat:Int)=91:=yG6 (c:=91) h91;have HS:Hid (¬yEq x):=fun q=>by
  rcases q with q|q|q|q|q
  ·exact HX.2 q
  ·exact h40 q
  ·exact h91 q
  ·exact h46 q
  ·exact h92 q
 go_wp2_with fail;go_ret;exact⟨HW1.2,.inl ⟨i+1,_,_,yB5.plain HX.1 HS.out,rfl,yJn _ _ _,HW1.1⟩⟩
theorem yMq {p:List UInt8} {l:List UInt8} (h:inB p i l=true):∃c,p[i]?=some c∧c∈l:=by
 unfold inB at h;split at h
 ·next c hc=>exact⟨c,hc,by simpa using h⟩
 ·cases h
theorem yI2 {p:List UInt8} {l:List UInt8} (h:inB p i l=false):∀c,p[i]?=some c→¬c∈l:=by intro c hc;unfold inB at h;rw[hc]at h;simpa using h
theorem yNg {c:UInt8}:c∈([42,43,63]:List UInt8)↔isOp c:=by simp[isOp]
structure RepJ (p:ByteArray) (base g i o j:Nat) (a:Pat) (v:Value) (RB:Nat) (w:World) (k:Nat) (op rp:Bool) (wr:World):Prop where
 ops:yK6 (sb p) o i j k a op rp
 rd:PrAt wr base g p k o
 box:yA wr w.heap.size 219 3 RB [v,.bool op,.bool rp]
 node:yCf wr (Bet w.heap.size RB) a v
 chg:Chg (fun k=>k=g) w wr
theorem RepJ.move {g:Nat} {v:Value} {RB:Nat} (h:RepJ p base g i o j a v RB w k op rp wr) (hb:Below wr.heap.size wr w'):RepJ p base g i o j a v RB w k op rp w':=
 ⟨h.ops,yA.below h.rd hb,h.box.below hb,h.node.move (S:=fun _=>False) (Chg.of_below hb) (fun k q=>q.elim) (fun k _ q=>q),h.chg.trans (Chg.of_below hb)⟩
theorem RepJ.step {g:Nat} {v:Value} {RB:Nat} {c:UInt8} (h:RepJ p base g i o j a v RB w k op rp wr) (hg:g<w.heap.size) (hc:(sb p)[k]?=some c) (ho:isOp c) (hP:PrAt w' base g p (k+1) o) (hC:Chg (fun k=>k=g) wr w'):
  RepJ p base g i o j a v RB w (k+1) (op || c != 43) (rp || c != 63) ((w'.setCell ⟨RB,1,none⟩ (.bool (op || c != 43))).setCell ⟨RB,2,none⟩ (.bool (rp || c != 63))):=by
 have hr:=h.box.lt.1;have c1:=Chg.of_set w' RB 1 (.bool (op || c != 43)) (S:=fun k=>k=RB) rfl;have c2:=Chg.of_set (w'.setCell ⟨RB,1,none⟩ (.bool (op || c != 43))) RB 2 (.bool (rp || c != 63)) (S:=fun k=>k=RB) rfl;have c3:=c1.trans c2;refine⟨h.ops.more hc ho,yA.chg hP c3 (by omega),((h.box.chg hC (by omega)).set 1 _).set 2 _,?_,((h.chg.trans hC).absorb c3 (fun j q=>.inr (by omega)))⟩;exact(h.node.move hC (fun k q=>by subst q;exact fun z=>by have:=z.1;omega) (fun k _ q=>q)).move c3 (fun k q=>by subst q;exact fun z=>by have:=z.2;omega) (fun k _ q=>q)
def RepC (p:ByteArray) (m:Nat):Prop:=∀(base g i o:Nat) (w:World),p.size-i≤m→i<p.size→o≤20→(∀c,(sb p)[i]?=some c→¬yFk c)→PrAt w base g p i o→Calls Tryz.prog 166 #[.pointer (some ⟨g,0,none⟩)] w (yI5 p base g i o w (yOm (sb p) o i))
theorem yX0 (H:yXn p m) (hp:p.size≤200):RepC p m:=by
 intro base g i o w hm hi ho he h;have HP:Hid (PrAt w base g p i o):=h;have hgl:=h.lt.2;clear h;go_enter Tryz.func166,Tryz.ntmps166;go_wp2_with fail;refine(H base g i o w hm hi ho he HP.out).mono ?_;rintro e w1 ⟨hC1,(⟨j,a,v,hA,rfl,hN,hP1⟩|⟨c,k,hc0,hk,rfl⟩)⟩;case inr=>exact⟨rfl,hC1,.inr ⟨c,k,hc0,hk,rfl⟩⟩
 obtain⟨T,cs,rfl⟩:=hN.iface;have HW1:Hid (yB5 (sb p) o i j a∧yCf w1 (Bet w.heap.size w1.heap.size) a (.iface T (.agg cs))∧PrAt w1 base g p j o∧Chg (fun k=>k=g) w w1):=⟨hA,hN,hP1,hC1⟩;clear hC1 hA hN hP1 HP;go_wp2_with fail;refine(yD2 ⟨#[42,43,63]⟩ HW1.2.2.1 hp).mono ?_;rintro e w2 ⟨rfl,hb2⟩;have HW2:Hid (yCf w2 (Bet w.heap.size w2.heap.size) a (.iface T (.agg cs))∧PrAt w2 base g p j o∧Chg (fun k=>k=g) w w2):=
  ⟨HW1.2.1.move (S:=fun _=>False) (Chg.of_below hb2) (fun k q=>q.elim) (fun k hk q=>⟨q.1,by have:=hb2.size;omega⟩),yA.below HW1.2.2.1 hb2,HW1.2.2.2.trans (Chg.of_below hb2)⟩
 have HA:Hid (yB5 (sb p) o i j a):=HW1.1;obtain⟨q,hq⟩:=qE (inB (sb p) j (sb ⟨#[42,43,63]⟩));have HQ:Hid (inB (sb p) j [42,43,63]=q):=hq.symm;rw[←hq];clear hb2 hq HW1;cases q
 ·have HR:Hid (yOm (sb p) o i j a):=by have:=(yK6.zero HA.out).rep (fun c hc hop=>yI2 HQ.out c hc (yNg.2 hop));rw[if_pos rfl]at this;exact this
  go_wp2_with fail;go_ret;exact⟨HW2.2.2,.inl ⟨j,a,_,HR.out,rfl,HW2.1,HW2.2.1⟩⟩
 have hjp:j≤p.size:=by have:=HA.le;rw[yAd]at this;exact this
 obtain⟨W3,hW3⟩:=qE (w2.alloc (Obj.cells #[.iface T (.agg cs),.bool false,.bool false] 219):World);have hs2:=HW2.2.2.size;have HW3:Hid (RepJ p base g i o j a (.iface T (.agg cs)) w2.heap.size w j false false W3):=by
  have hb:Below w2.heap.size w2 W3:=by rw[hW3];exact qB
  refine⟨yK6.zero HA.out,yA.below HW2.2.1 hb,?_,HW2.1.move (S:=fun _=>False) (Chg.of_below hb) (fun k q=>q.elim) (fun k _ q=>q),HW2.2.2.trans (Chg.of_below hb)⟩;rw[hW3];exact yAa w2 _ hs2 rfl
 have HF0:Hid (∃c,(sb p)[j]?=some c∧isOp c):=by obtain⟨c,h1,h2⟩:=yMq HQ.out;exact⟨c,h1,yNg.1 h2⟩
 clear HW2;go_wp2_with fail;rw[←hW3];obtain⟨RB,hRB⟩:=qE w2.heap.size;rw[←hRB]at HW3;rw[←hRB];have hrb:w.heap.size≤RB:=by omega
 clear hW3 hRB hs2;go_loopw[5] (fun sg wr=>∃(k:Nat) (op rp:Bool),j≤k∧k≤p.size∧(k=j→∃c,(sb p)[j]?=some c∧isOp c)∧RepJ p base g i o j a (.iface T (.agg cs)) RB w k op rp wr) (fun _ wr=>p.size-atOf wr g);case atStart=>exact⟨j,false,false,Nat.le_refl _,hjp,fun _=>HF0.out,HW3.out⟩
 case round=>
  obtain⟨k,op,rp,hjk,hkp,hne,hJ⟩:=hrel;have HJ:Hid (RepJ p base g i o j a (.iface T (.agg cs)) RB w k op rp wr∧(k=j→∃c,(sb p)[j]?=some c∧isOp c)∧atOf wr g=k):=⟨hJ,hne,yFs hJ.rd⟩;clear hJ hne HW3;go_wp2_with fail;refine(yD2 ⟨#[42,43,63]⟩ HJ.1.rd hp).mono ?_;rintro e w5 ⟨rfl,hb5⟩;have HJ5:Hid (RepJ p base g i o j a (.iface T (.agg cs)) RB w k op rp w5):=HJ.1.move hb5;obtain⟨q,hq⟩:=qE (inB (sb p) k (sb ⟨#[42,43,63]⟩));have HQ5:Hid (inB (sb p) k [42,43,63]=q):=hq.symm;rw[←hq];clear hb5 hq;cases q
  ·have HR:Hid (yOm (sb p) o i k (.rep a op rp)):=by
    have h1:=HJ5.ops.rep (fun c hc hop=>yI2 HQ5.out c hc (yNg.2 hop));rw[if_neg (fun q=>by
     obtain⟨c,hc,hop⟩:=HJ.2.1 q.symm
     rw[q]at hc
     exact yI2 HQ5.out c hc (yNg.2 hop))]at h1
    exact h1
   obtain⟨b0,b1,b2⟩:=HJ5.box.c3;go_wp2_with fail;go_ret;exact⟨HJ5.chg,.inl ⟨k,_,_,HR.out,rfl,ySc (HJ5.node.move (S:=fun _=>False) (Chg.refl _ _) (fun k q=>q.elim) (fun k hk q=>⟨q.1,hk⟩)) op rp,HJ5.rd⟩⟩
  ·obtain⟨c,hc,hcm⟩:=yMq HQ5.out;have HC:Hid ((sb p)[k]?=some c∧isOp c):=⟨hc,yNg.1 hcm⟩;have hk1:k+1≤p.size:=by have:=yAs hc;rw[yAd]at this;omega
   clear hc hcm;go_wp2_with fail;refine(yJi HJ5.rd hp HC.1).mono ?_;rintro e w6 ⟨rfl,hP6,hC6⟩;have HJ6:=HJ5.step hgl HC.1 HC.2 hP6 hC6;have hbx:=HJ5.box.chg hC6 (show¬RB=g by omega);have b1:=hbx.cell (j:=1) rfl;have b2:=hbx.cell (j:=2) rfl;have g1:=hbx.frozen 1;have g2:=hbx.frozen 2;have HJN:Hid (RepJ p base g i o j a (.iface T (.agg cs)) RB w (k+1) (op || c != 43) (rp || c != 63) ((w6.setCell ⟨RB,1,none⟩ (.bool (op || c != 43))).setCell ⟨RB,2,none⟩ (.bool (rp || c != 63)))):=HJ6;have HAt:Hid (atOf wr g=k):=HJ.2.2;clear HJ6 hbx hP6 hC6 HJ5 HJ;rcases HC.2 with rfl|rfl|rfl<;>cases op<;>cases rp
   all_goals go_wp2_with fail
   all_goals go_roundw
   all_goals first
    |exact⟨k+1,_,_,by omega,hk1,fun q=>by omega,HJN.out⟩
    |exact Nat.lt_of_le_of_lt (Nat.le_of_eq (congrArg (p.size- ·) (yFs HJN.rd))) (by rw[HAt.out];omega)
section
def xAk (p:ByteArray) (base g i o:Nat) (w:World) (e:Ending) (w':World):Prop:=
 Chg (fun k=>k=g) w w'∧((∃(k:Nat) (ts:List Pat) (u:Value),yKp (sb p) o i k ts∧(∀c,(sb p)[k]?=some c→yFk c)∧e=.returned (.agg #[u])∧yH9 w' (Bet w.heap.size w'.heap.size) ts u∧PrAt w' base g p k o)∨(∃(c:Int) (k:Nat),¬c=0∧chkM (sb p) i o false=(c,k)∧e=Pf c k))
def SeqC (p:ByteArray) (m:Nat):Prop:=∀(base g i o:Nat) (w:World),p.size-i≤m→i≤p.size→o≤20→PrAt w base g p i o→Calls Tryz.prog 152 #[.pointer (some ⟨g,0,none⟩)] w (xAk p base g i o w)
def NR (lo:Nat) (v:Value):Nat→Prop:=fun k=>lo≤k∧¬v.ownBlock=some k
structure SeqJ (p:ByteArray) (base g i o:Nat) (w:World) (k:Nat) (ts:List Pat) (us:List Value) (v:Value) (wr:World):Prop where
 ok:yKp (sb p) o i k ts
 rd:PrAt wr base g p k o
 res:yA wr w.heap.size 206 1 w.heap.size [.slice none 0 0]
 box:yA wr w.heap.size 206 1 (w.heap.size+1) [v]
 row:OwnN wr (w.heap.size+2) v us
 len:us.length=ts.length
 nodes:∀(i:Nat) x t,us[i]?=some x→ts[i]?=some t→yCf wr (NR (w.heap.size+2) v) t x
 chg:Chg (fun k=>k=g) w wr
 glt:g<w.heap.size
theorem OwnN.chg {v:Value} (h:OwnN w base v us) (hc:Chg S w w') (hn:∀k,v.ownBlock=some k→¬S k):OwnN w' base v us:=yAp h hc hn
theorem OwnN.slice {v:Value} (h:OwnN w base v us):∃a cp,v=.slice a us.length cp:=by
 rcases h.2 with⟨rfl,h0⟩|⟨g,cap,cur,rfl,_⟩
 ·exact⟨none,0,by rw[h0]⟩
 ·exact⟨_,_,rfl⟩
variable {p:ByteArray} {base g i o:Nat} {w:World} {k:Nat} {ts:List Pat} {us:List Value} {v:Value} {wr:World}
theorem SeqJ.move (h:SeqJ p base g i o w k ts us v wr) (hb:Below wr.heap.size wr w'):SeqJ p base g i o w k ts us v w':=
 ⟨h.ok,yA.below h.rd hb,h.res.below hb,h.box.below hb,h.row.chg (S:=fun _=>False) (Chg.of_below hb) (fun _ _ q=>q),h.len,fun i x t hx ht=>(h.nodes i x t hx ht).move (S:=fun _=>False) (Chg.of_below hb) (fun k q=>q.elim) (fun k _ q=>q),h.chg.trans (Chg.of_below hb),h.glt⟩
structure SeqK (p:ByteArray) (base g i o:Nat) (w:World) (k:Nat) (ts:List Pat) (us:List Value) (v:Value) (t:Pat) (x:Value) (wr:World):Prop where
 ok:yKp (sb p) o i k (ts++ [t])
 rd:PrAt wr base g p k o
 res:yA wr w.heap.size 206 1 w.heap.size [.slice none 0 0]
 box:yA wr w.heap.size 206 1 (w.heap.size+1) [v]
 row:OwnN wr (w.heap.size+2) v us
 len:us.length=ts.length
 nodes:∀(i:Nat) y s,(us++ [x])[i]?=some y→(ts++ [t])[i]?=some s→yCf wr (NR (w.heap.size+2) v) s y
 chg:Chg (fun k=>k=g) w wr
 glt:g<w.heap.size
variable {x:Value}
theorem SeqK.move (h:SeqK p base g i o w k ts us v t x wr) (hb:Below wr.heap.size wr w'):SeqK p base g i o w k ts us v t x w':=
 ⟨h.ok,yA.below h.rd hb,h.res.below hb,h.box.below hb,h.row.chg (S:=fun _=>False) (Chg.of_below hb) (fun _ _ q=>q),h.len,fun i x t hx ht=>(h.nodes i x t hx ht).move (S:=fun _=>False) (Chg.of_below hb) (fun k q=>q.elim) (fun k _ q=>q),h.chg.trans (Chg.of_below hb),h.glt⟩
theorem yHt {α:Type} {l:List α} {a b:α} {i:Nat} (h:(l++ [a])[i]?=some b):l[i]?=some b∨(i=l.length∧b=a):=by
 by_cases hi:i<l.length
 ·rw[List.getElem?_append_left hi]at h;exact .inl h
 ·rw[List.getElem?_append_right (by omega)]at h;have h2:=(List.getElem?_eq_some_iff.1 h).1;simp at h2;have:i-l.length=0:=by omega
  rw[this]at h;simp at h;exact .inr ⟨by omega,h.symm⟩
theorem SeqJ.rep {w6:World} {k6:Nat} (h:SeqJ p base g i o w k ts us v wr) (hC:Chg (fun k=>k=g) wr w6) (hR:yOm (sb p) o k k6 t) (hN:yCf w6 (Bet wr.heap.size w6.heap.size) t x) (hP:PrAt w6 base g p k6 o):SeqK p base g i o w k6 ts us v t x w6:=by
 have hg:=h.glt;have hz:=h.chg.size;have hb1:=h.box.lt.2;have hv:∀j,v.ownBlock=some j→w.heap.size+2≤j∧j<wr.heap.size:=fun j hj=>World.ownsRow.lt h.row j hj;refine⟨h.ok.more hR,hP,h.res.chg hC (by omega),h.box.chg hC (by omega),h.row.chg hC (fun j hj q=>by have:=(hv j hj).1;omega),h.len,?_,h.chg.trans hC,hg⟩;intro j y s hy hs;rcases yHt hy with hy|⟨hj,rfl⟩
 ·rcases yHt hs with hs|⟨hj,rfl⟩
  ·exact(h.nodes j y s hy hs).move hC (fun q hq=>by subst hq;exact fun z=>by have:=z.1;omega) (fun q _ z=>z)
  ·have:=(List.getElem?_eq_some_iff.1 hy).1;have:=h.len;omega
 ·rcases yHt hs with hs|⟨_,rfl⟩
  ·have:=(List.getElem?_eq_some_iff.1 hs).1;have:=h.len;omega
  ·refine hN.move (S:=fun _=>False) (Chg.refl _ _) (fun q hq=>hq.elim) (fun q _ z=>⟨?_,fun e=>?_⟩)
   ·have:=z.1;omega
   ·have:=(hv q e).2;have:=z.1;omega
theorem SeqK.push {v':Value} (h:SeqK p base g i o w k ts us v t x wr) (hO:OwnN w' (w.heap.size+2) v' (us++ [x])) (hg:wr.grownBy w' v.ownBlock) (hat:∀j,v'.ownBlock=some j→v.ownBlock=some j∨j=wr.heap.size):
  SeqJ p base g i o w k (ts++ [t]) (us++ [x]) v' (w'.setCell ⟨w.heap.size+1,0,none⟩ v')∧w'.cell? ⟨w.heap.size+1,0,none⟩=some v∧w'.frozen? ⟨w.heap.size+1,0,none⟩=false:=by
 have hgl:=h.glt;have hv:∀j,v.ownBlock=some j→w.heap.size+2≤j∧j<wr.heap.size:=fun j hj=>World.ownsRow.lt h.row j hj;have hv':∀j,v'.ownBlock=some j→w.heap.size+2≤j∧j<w'.heap.size:=fun j hj=>World.ownsRow.lt hO j hj;have hc:Chg (fun j=>v.ownBlock=some j) wr w':=Chg.of_grown hg (fun j hj=>hj);have hs:Chg (fun j=>j=w.heap.size+1) w' (w'.setCell ⟨w.heap.size+1,0,none⟩ v'):=Chg.of_set w' (w.heap.size+1) 0 _ rfl;have hbx:=h.box.chg hc (fun q=>by have:=(hv _ q).1;omega);refine⟨⟨h.ok,?_,?_,hbx.set 0 _,hO.chg hs (fun j hj q=>by have:=(hv' j hj).1;omega),by rw[List.length_append,List.length_append,h.len];rfl,?_,?_,hgl⟩,hbx.cell (j:=0) rfl,hbx.frozen 0⟩
 ·exact yA.chg (yA.chg h.rd hc (fun q=>by have:=(hv _ q).1;omega)) hs (by omega)
 ·exact(h.res.chg hc (fun q=>by have:=(hv _ q).1;omega)).chg hs (by omega)
 ·intro j y s hy hs2;have h1:=(h.nodes j y s hy hs2).move hc (fun q hq z=>z.2 hq) (lo':=NR (w.heap.size+2) v') (fun q hq z=>⟨z.1,fun e=>by rcases hat q e with e|e;exact z.2 e;omega⟩);exact h1.move hs (fun q hq=>by subst hq;exact fun z=>by have:=z.1;omega) (fun q _ z=>z)
 ·exact(h.chg.absorb hc (fun j q=>.inr (by have:=(hv j q).1;omega))).absorb hs (fun j q=>.inr (by omega))
variable {oo:Oper} {a:Act} {Q:Exit→Act→World→Prop}
theorem yIq {ops:Array Oper} {K:Act→World→Prop} {E:Prop} (w:World) (hgd:oo.guard=none) (s x:Operand)
  (ho:oo.op=.call {callee:=.builtin .append,args:=#[s,x],argTypes:=#[204,204]})
  (base n blk:Nat) (v y:Value) (us:List Value) (hn:n=us.length) (hs:a.eval s=v) (hx:a.eval x=.slice (some ⟨blk,0,none⟩) 1 1) (hO:OwnN w base v us)
  (hc:w.cell? ⟨blk,0,none⟩=some y) (hy:y.oneCell'=true) (hlen:us.length≤1000) (hbase:base≤w.heap.size)
  (h:∀g' cp' w',OwnN w' base (.slice (some ⟨g',0,none⟩) (n+1) cp') (us++ [y])→w.grownBy w' v.ownBlock→(v.ownBlock=some g'∨g'=w.heap.size)→K (a.put oo.dst (.slice (some ⟨g',0,none⟩) (n+1) cp')) w'):if Region.wanted oo (yielded ops a.tmps)=true then Oper.wp Tryz.prog oo a w K Q else E:=by
 subst hn;obtain⟨i,hi,hz0,hz1,hz2⟩:=info_parts Tryz.infoNode;refine step_append_lies w hgd s x 204 ho base 209 i _ 1 16 Tryz.underlying204 hi hz0 hz1 hz2 rfl (by decide) v us.length us hs hO ⟨blk,0,none⟩ 1 1 [y] hx rfl ?_ ?_ (by decide) ?_ ?_ hbase w.heap.size rfl ?_
 ·exact yV0
 ·intro u hu;simp at hu;subst hu;exact hy
 ·unfold maxLen;omega
 ·omega
 ·intro g' cp' w' hO' hgr hat hlt;refine h g' cp' w' ?_ hgr hat;unfold OwnN;rw[List.length_append];exact hO'
variable {p:ByteArray}
theorem yXz (H:RepC p m) (hp:p.size≤200):SeqC p m:=by
 intro base g i o w hm hi ho h;have hgl:=h.lt.2;obtain⟨W0,hW0⟩:=qE ((w.alloc (Obj.cells #[.slice none 0 0] 206)).alloc (Obj.cells #[.slice none 0 0] 206):World);have HJ0:Hid (SeqJ p base g i o w i [] [] (.slice none 0 0) W0):=by
  have hb:Below w.heap.size w W0:=by rw[hW0];exact(qB).alloc (by simp) _
  have h1:yA W0 w.heap.size 206 1 w.heap.size [.slice none 0 0]:=by rw[hW0];exact yA.ofHeap (vs:=#[.slice none 0 0]) (heap_alloc2_old w _ _) (Nat.le_refl _) rfl
  have h2:yA W0 w.heap.size 206 1 (w.heap.size+1) [.slice none 0 0]:=by rw[hW0];exact yA.ofHeap (vs:=#[.slice none 0 0]) (heap_alloc2_new w _ _) (by omega) rfl
  exact⟨yKp.nil (by rw[yAd];exact hi),yA.below h hb,h1,h2,World.ownsRow_nil ..,rfl,fun i x t hx=>by simp at hx,Chg.of_below hb,hgl⟩
 clear h;go_enter Tryz.func152,Tryz.ntmps152;go_wp2_with fail;rw[←hW0];clear hW0;go_loopw[] (fun wr=>∃(k:Nat) (ts:List Pat) (us:List Value) (v:Value),i≤k∧k≤p.size∧us.length≤k∧SeqJ p base g i o w k ts us v wr) (fun wr=>p.size-atOf wr g);case atStart=>exact⟨i,[],[],_,Nat.le_refl _,hi,Nat.zero_le _,HJ0.out⟩
 case round=>
  obtain⟨k,ts,us,v,hik,hkp,hul,hJ⟩:=hrel;have HJ:Hid (SeqJ p base g i o w k ts us v wr∧atOf wr g=k):=⟨hJ,yFs hJ.rd⟩;obtain⟨va,vc,hva⟩:=hJ.row.slice;subst hva;clear hJ HJ0;have hlt:=HJ.1.rd.lt.2;obtain⟨c0,c1⟩:=HJ.1.rd.c2;have e0:∀n:Out wr,n.u.cell? ⟨g,0,none⟩=some (.string p):=fun n=>(n.out.cell (p:=⟨g,0,none⟩) hlt).trans c0;have e1:∀n:Out wr,n.u.cell? ⟨g,1,none⟩=some (.int .i64 (k:Int)):=fun n=>(n.out.cell (p:=⟨g,1,none⟩) hlt).trans c1;obtain⟨q,hq⟩:=qE (inB (sb p) k (sb ⟨#[42,43,63,124,41,93]⟩));have HQ:Hid (inB (sb p) k [42,43,63,124,41,93]=q):=hq.symm;have HI:Hid (∀n:Out wr,Calls Tryz.prog 165 #[.pointer (some ⟨g,0,none⟩),.string ⟨#[42,43,63,124,41,93]⟩] n.u fun e w'=>e=.returned (.bool q)∧Below n.u.heap.size n.u w'):=fun n=>by rw[hq];exact yD2 _ (yA.below HJ.1.rd n.out) hp
  clear c0 c1 hq;by_cases hgo:k<p.size∧q=false
  ·obtain⟨hks,rfl⟩:=hgo;have z1:(k:Int)<(p.size:Int):=by omega
   have HNe:Hid (∀c,(sb p)[k]?=some c→¬yFk c):=fun c hc he=>yI2 HQ.out c hc (by
    rcases he with(rfl|rfl|rfl)|rfl|rfl|rfl<;>simp)
   go_upto_region 2 with fail;refine yAv (by kernel_rfl) (by kernel_rfl) ?_;repeat (go_big_quiet_step ((first|rfl|(go_at_call 165;exact Calls.out_of (HI.out _)))))
   refine wpQuiet_nil ?_;rintro w1 ⟨⟨wx,hb1⟩,rfl⟩;have HJ1:Hid (SeqJ p base g i o w k ts us (.slice va us.length vc) w1):=HJ.1.move hb1;have HAt:Hid (atOf wr g=k):=HJ.2;have hs1:=hb1.size;clear e0 e1 HI hb1 HJ;have b0:=HJ1.box.cell (j:=0) rfl;have hob:=HJ1.box.lt.2;have HRep:Hid (∀w',Below w1.heap.size w1 w'→Calls Tryz.prog 166 #[.pointer (some ⟨g,0,none⟩)] w' (yI5 p base g k o w' (yOm (sb p) o k))):=fun w' hb=>H base g k o w' (by omega) hks ho HNe.out (yA.below HJ1.rd hb);go_upto_region 3 with fail;go_region_law ((first
                |(go_simp;go_at_call 166;refine(HRep.out _ (Below.refl _ _).drew).mono ?_;rintro e' w6 ⟨hC6,(⟨k6,t,x,hR6,rfl,hN6,hP6⟩|⟨c6,k6,hc60,hk6,rfl⟩)⟩;(case inr=>exact⟨rfl,(HJ1.move (Below.refl _ _).drew).chg.trans hC6,.inr ⟨c6,k6,hc60,by rw[HJ1.ok.chk,hk6],rfl⟩⟩);obtain⟨T6,cs6,rfl⟩:=hN6.iface;have HK6:Hid (SeqK p base g i o w k6 ts us (.slice va us.length vc) t (.iface T6 (.agg cs6)) w6∧yOm (sb p) o k k6 t):=⟨(HJ1.move (Below.refl _ _).drew).rep hC6 hR6 hN6 hP6,hR6⟩;have m6:=HK6.1.box.cell (j:=0) rfl;have m6l:=HK6.1.box.lt.2;have m6a:∀o,(w6.alloc o).cell? ⟨w.heap.size+1,0,none⟩=some (.slice va us.length vc):=fun o=>by {rw[((Below.refl w6.heap.size w6).alloc (Nat.le_refl _) o).cell (p:=⟨w.heap.size+1,0,none⟩) m6l];exact m6};clear hC6 hR6 hN6 hP6)
                |(refine yIq _ (by rfl) _ _ (by rfl) (w.heap.size+2) us.length w6.heap.size (.slice va us.length vc) (.iface T6 (.agg cs6)) us rfl (by rfl) (by rfl) ?hO ?hc rfl ?hl ?hb ?_
                  case hO=>exact(HK6.1.move (qB)).row
                  case hc=>simp
                  case hl=>omega
                  case hb=>have:=(HK6.1.move ((Below.refl _ _).alloc (Nat.le_refl _) (Obj.cells #[.iface T6 (.agg cs6)] 209))).box.lt.2;omega
                  intro g7 cp7 w7 hO7 hgr7 hgg7
                  have hpp:=(HK6.1.move ((Below.refl _ _).alloc (Nat.le_refl _) (Obj.cells #[.iface T6 (.agg cs6)] 209))).push hO7 hgr7 (fun j hj=>by have hj':g7=j:=by {simpa [Value.ownBlock]using hj};rw[←hj'];exact hgg7)
                  have fin7:Hid (SeqJ p base g i o w k6 (ts++ [t]) (us++ [.iface T6 (.agg cs6)]) (.slice (some ⟨g7,0,none⟩) (us.length+1) cp7) (w7.setCell ⟨w.heap.size+1,0,none⟩ (.slice (some ⟨g7,0,none⟩) (us.length+1) cp7))):=hpp.1
                  have m7:=hpp.2.1
                  have f7:=hpp.2.2
                  clear hpp hO7 hgr7 hgg7)))
   all_goals go_wp2_with fail
   all_goals go_roundw
   all_goals first
    |exact⟨k6,ts++ [t],us++ [.iface T6 (.agg cs6)],_,by have:=HK6.2.lt;omega,by have:=HK6.2.le;rw[yAd]at this;exact this,by have:=HK6.2.lt;rw[List.length_append];simp;omega,fin7.out⟩
    |(rw[HAt.out,yFs fin7.out.rd];have:=HK6.2.lt;omega)
  ·have HE:Hid (∀c,(sb p)[k]?=some c→yFk c):=by
    intro c hc;have hk:=yAs hc;rw[yAd]at hk;cases q
    ·exact absurd ⟨hk,rfl⟩ hgo
    ·obtain⟨d,hd,hm⟩:=yMq HQ.out;rw[hc]at hd;cases hd
     simp at hm;rcases hm with rfl|rfl|rfl|rfl|rfl|rfl<;>simp[yFk,isOp]
   have HX:Hid (SeqJ p base g i o w k ts us (.slice va us.length vc) wr):=HJ.1;clear HQ HJ;have fin:∀w1,Below wr.heap.size wr w1→Hid (SeqJ p base g i o w k ts us (.slice va us.length vc) w1):=fun w1 hb=>HX.move hb;by_cases hks:k<p.size
   ·have hq1:q=true:=by
     cases q
     ·exact absurd ⟨hks,rfl⟩ hgo
     ·rfl
    subst hq1;have z1:(k:Int)<(p.size:Int):=by omega
    clear hgo;go_upto_region 2 with fail;refine yAv (by kernel_rfl) (by kernel_rfl) ?_;repeat (go_big_quiet_step ((first|rfl|(go_at_call 165;exact Calls.out_of (HI.out _)))))
    exact zzQ20
   ·have z1:¬(k:Int)<(p.size:Int):=by omega
    clear hgo;go_upto_region 2 with fail;refine yAv (by kernel_rfl) (by kernel_rfl) ?_;repeat (go_big_quiet_step (rfl))
    exact zzQ20
end
section
structure AltJ (p:ByteArray) (base g i o:Nat) (w:World) (k:Nat) (os:List (List Pat)) (us:List Value) (gq cp:Nat) (wr:World):Prop where
 ok:yEp (sb p) o i k os
 nxt:∀c,(sb p)[k]?=some c→yFk c
 rd:PrAt wr base g p k o
 res:yA wr w.heap.size 142 1 w.heap.size [.slice none 0 0]
 row:OwnQ wr (w.heap.size+1) gq cp us
 len:us.length=os.length
 seqs:∀(i:Nat) x ts,us[i]?=some x→os[i]?=some ts→yH9 wr (fun j=>w.heap.size+1≤j∧¬j=gq) ts x
 chg:Chg (fun k=>k=g) w wr
 glt:g<w.heap.size
theorem OwnQ.chg {gq:Nat} (h:OwnQ w base gq cp us) (hc:Chg S w w') (hn:¬S gq):OwnQ w' base gq cp us:=yAp h hc (fun k q=>by simp[Value.ownBlock]at q;subst q;exact hn)
variable {p:ByteArray} {base g i o:Nat} {w:World} {k:Nat} {os:List (List Pat)} {us:List Value} {gq cp:Nat} {wr:World}
theorem AltJ.read {k':Nat} (h:AltJ p base g i o w k os us gq cp wr) (hC:Chg (fun k=>k=g) wr w') (hP:PrAt w' base g p k' o):
  yA w' w.heap.size 142 1 w.heap.size [.slice none 0 0]∧OwnQ w' (w.heap.size+1) gq cp us∧(∀(i:Nat) x ts,us[i]?=some x→os[i]?=some ts→yH9 w' (fun j=>w.heap.size+1≤j∧¬j=gq) ts x)∧Chg (fun k=>k=g) w w':=by
 have hg:=h.glt;have hq:=h.row.lt;exact⟨h.res.chg hC (by omega),h.row.chg hC (by omega),fun i x ts hx ht=>(h.seqs i x ts hx ht).move hC (fun q hq=>by subst hq;exact fun z=>by have:=z.1;omega) (fun q _ z=>z),h.chg.trans hC⟩
variable {a:Act}
theorem yHn {ops:Array Oper} {rest:List Oper} {oo:Oper} {Q:Exit→Act→World→Prop} (w:World) (hgd:oo.guard=none) (s x:Operand)
  (ho:oo.op=.call {callee:=.builtin .append,args:=#[s,x],argTypes:=#[140,140]})
  (base gq cp n b:Nat) (us:List Value) (y:Value) (hs:a.eval s=.slice (some ⟨gq,0,none⟩) n cp) (hx:a.eval x=.slice (some ⟨b,0,none⟩) 1 1) (hn:n=us.length) (hO:OwnQ w base gq cp us)
  (hc:w.cell? ⟨b,0,none⟩=some y) (hy:y.oneCell'=true) (hlen:us.length≤1000) (hbase:base≤w.heap.size)
  (h:∀g' cp' w',OwnQ w' base g' cp' (us++ [y])→w.grownBy w' (some gq)→(g'=gq∨g'=w.heap.size)→wpList Tryz.prog ops Q rest (a.put oo.dst (.slice (some ⟨g',0,none⟩) (n+1) cp')) w'):wpList Tryz.prog ops Q (oo::rest) a w:=by
 subst hn;obtain⟨i,hi,hz0,hz1,hz2⟩:=info_parts Tryz.infoSeq;refine wpList_append_own_at w hgd s x 140 ho base 206 i _ 1 24 Tryz.underlying140 hi hz0 hz1 hz2 rfl (by decide) (.slice (some ⟨gq,0,none⟩) us.length cp) us.length us hs hO ⟨b,0,none⟩ 1 1 [y] hx rfl ?_ ?_ ?_ ?_ hbase ?_
 ·exact yV0
 ·intro u hu;simp at hu;subst hu;exact hy
 ·unfold maxLen;omega
 ·omega
 ·intro v' w' hO' hgr hnil hat;rcases hO'.2 with⟨h0,_⟩|⟨g',cap',cur,hv,_,_,hn,hcap,_,_⟩
  ·have:=(hnil.1 h0).1;cases this
  ·subst hv;refine h g' cap' w' ?_ hgr ?_
   ·unfold OwnQ;rw[List.length_append];exact hO'
   ·simp[Value.ownBlock]at hat;exact hat
variable {w:World}
theorem yH9.slice (h:yH9 w R ts u):∃a n cp,u=.slice a n cp:=by
 obtain⟨n,h|⟨g,cp,us,h1,_⟩⟩:=h
 ·exact⟨_,_,_,h.2⟩
 ·exact⟨_,_,_,h1⟩
variable {p:ByteArray}
theorem yX6 (H:SeqC p m) (hp:p.size≤200):AltC p m:=by
 intro base g i o w hm hi ho h;have hgl:=h.lt.2;obtain⟨W0,hW0⟩:=qE (w.alloc (Obj.cells #[.slice none 0 0] 142):World);have HW0:Hid (PrAt W0 base g p i o∧yA W0 w.heap.size 142 1 w.heap.size [.slice none 0 0]∧Chg (fun k=>k=g) w W0∧W0.heap.size=w.heap.size+1):=by
  have hb:Below w.heap.size w W0:=by rw[hW0];exact qB
  refine⟨yA.below h hb,?_,Chg.of_below hb,by rw[hW0];simp⟩;rw[hW0];exact yAa w _ (Nat.le_refl _) rfl
 clear h;go_enter Tryz.func133,Tryz.ntmps133;go_upto_region 1 with fail;rw[←hW0];clear hW0;go_wp2_with fail;refine(H base g i o W0 hm hi ho HW0.1).mono ?_;rintro e w1 ⟨hC1,(⟨k,ts,u,hS,hE,rfl,hU,hP1⟩|⟨c,k,hc0,hk,rfl⟩)⟩;case inr=>exact⟨rfl,HW0.2.2.1.trans hC1,.inr ⟨c,k,hc0,hk,rfl⟩⟩
 obtain⟨ua,un,uc,rfl⟩:=hU.slice;have hkp:i≤k∧k≤p.size:=by have h1:=hS.le;have h2:=hS.lei;rw[yAd]at h1;exact⟨h2,h1⟩
 obtain⟨W2,hW2⟩:=qE (w1.alloc (Obj.cells #[.slice ua un uc] 206):World);have HJ0:Hid (AltJ p base g i o w k [ts] [.slice ua un uc] w1.heap.size 1 W2):=by
  have hb:Below w1.heap.size w1 W2:=by rw[hW2];exact qB
  have hz:=HW0.2.2.2;have hs:=hC1.size;refine⟨yEp.one hS,hE,yA.below hP1 hb,(HW0.2.1.chg hC1 (by omega)).below hb,?_,rfl,?_,(HW0.2.2.1.trans hC1).trans (Chg.of_below hb),hgl⟩
  ·rw[hW2];exact World.ownsRow_lit w1 #[.slice ua un uc] 1 (by omega) (by decide) rfl
  ·intro j x ss hx hss;have hj:j=0:=by have:=(List.getElem?_eq_some_iff.1 hx).1;simpa using this
   subst hj;simp at hx hss;subst hx hss;exact hU.move (S:=fun _=>False) (Chg.of_below hb) (fun q hq=>hq.elim) (fun q hq z=>⟨by have:=z.1;omega,by omega⟩)
 clear hC1 hS hE hU hP1 HW0;go_wp2_with fail;rw[←hW2];obtain⟨gq0,hgq0⟩:=qE w1.heap.size;rw[←hgq0]at HJ0;rw[←hgq0];clear hW2 hgq0;go_loopw[3] (fun sv wr=>∃(k gq cp:Nat) (os:List (List Pat)) (us:List Value),i≤k∧k≤p.size∧us.length≤k+1∧sv=.slice (some ⟨gq,0,none⟩) us.length cp∧AltJ p base g i o w k os us gq cp wr) (fun _ wr=>p.size-atOf wr g);case atStart=>exact⟨k,gq0,1,[ts],[.slice ua un uc],hkp.1,hkp.2,by simp,rfl,HJ0.out⟩
 case round=>
  obtain⟨k,gq,cp,os,us,hik,hkp,hul,rfl,hJ⟩:=hrel;have HJ:Hid (AltJ p base g i o w k os us gq cp wr∧atOf wr g=k):=⟨hJ,yFs hJ.rd⟩;clear hJ HJ0;go_wp2_with fail;refine(yEj 124 HJ.1.rd hp).mono ?_;rintro e w3 ⟨hC3,(⟨hx,rfl,hP3⟩|⟨hx,rfl,hP3⟩)⟩
  ·have hk1:k+1≤p.size:=by have:=yAs hx;rw[yAd]at this;omega
   have HX:Hid ((sb p)[k]?=some 124∧PrAt w3 base g p (k+1) o∧yA w3 w.heap.size 142 1 w.heap.size [.slice none 0 0]∧OwnQ w3 (w.heap.size+1) gq cp us∧(∀(i:Nat) x ts,us[i]?=some x→os[i]?=some ts→yH9 w3 (fun j=>w.heap.size+1≤j∧¬j=gq) ts x)∧Chg (fun k=>k=g) w w3):=⟨hx,hP3,HJ.1.read hC3 hP3⟩;have HOk:Hid (yEp (sb p) o i k os∧us.length=os.length∧atOf wr g=k):=⟨HJ.1.ok,HJ.1.len,HJ.2⟩;clear hC3 hx hP3 HJ;go_wp2_with fail;refine(H base g (k+1) o w3 (by omega) hk1 ho HX.2.1).mono ?_;rintro e w4 ⟨hC4,(⟨k4,ts4,u4,hS4,hE4,rfl,hU4,hP4⟩|⟨c,k4,hc0,hk4,rfl⟩)⟩;case inr=>
    refine⟨rfl,HX.2.2.2.2.2.trans hC4,.inr ⟨c,k4,hc0,?_,rfl⟩⟩;rw[HOk.1.chk,yKf HX.1,hk4]
   obtain⟨ua4,un4,uc4,rfl⟩:=hU4.slice;have hk4p:k+1≤k4∧k4≤p.size:=by have h1:=hS4.le;have h2:=hS4.lei;rw[yAd]at h1;exact⟨h2,h1⟩
   obtain⟨W5,hW5⟩:=qE (w4.alloc (Obj.cells #[.slice ua4 un4 uc4] 206):World);have HW5:Hid (yEp (sb p) o i k4 (os++ [ts4])∧(∀c,(sb p)[k4]?=some c→yFk c)∧PrAt W5 base g p k4 o∧yA W5 w.heap.size 142 1 w.heap.size [.slice none 0 0]∧OwnQ W5 (w.heap.size+1) gq cp us∧(∀(i:Nat) x ts,(us++ [.slice ua4 un4 uc4])[i]?=some x→(os++ [ts4])[i]?=some ts→yH9 W5 (fun j=>w.heap.size+1≤j∧¬j=gq) ts x)∧Chg (fun k=>k=g) w W5∧W5.cell? ⟨w4.heap.size,0,none⟩=some (.slice ua4 un4 uc4)∧w.heap.size+1≤W5.heap.size):=by
    have hb:Below w4.heap.size w4 W5:=by rw[hW5];exact qB
    have hq:=HX.2.2.2.1.lt;have hs4:=hC4.size;have hsb:=hb.size;have hc:Chg (fun k=>k=g) w3 W5:=hC4.trans (Chg.of_below hb);refine⟨yEp.more HOk.1 HX.1 hS4,hE4,yA.below hP4 hb,HX.2.2.1.chg hc (by omega),HX.2.2.2.1.chg hc (by omega),?_,HX.2.2.2.2.2.trans hc,by rw[hW5];simp,by omega⟩;intro j y s hy hs;rcases yHt hy with hy|⟨hj,rfl⟩
    ·rcases yHt hs with hs|⟨hj,rfl⟩
     ·exact(HX.2.2.2.2.1 j y s hy hs).move hc (fun q hq=>by subst hq;exact fun z=>by have:=z.1;omega) (fun q _ z=>z)
     ·have:=(List.getElem?_eq_some_iff.1 hy).1;have:=HOk.2.1;omega
    ·rcases yHt hs with hs|⟨_,rfl⟩
     ·have:=(List.getElem?_eq_some_iff.1 hs).1;have:=HOk.2.1;omega
     ·exact hU4.move (S:=fun _=>False) (Chg.of_below hb) (fun q hq=>hq.elim) (fun q _ z=>⟨by have:=z.1;omega,fun e=>by have:=z.1;omega⟩)
   clear hC4 hS4 hE4 hU4 hP4 HX;go_wp2_with (at_builtin;rw[←hW5];refine yHn _ rfl _ _ rfl (w.heap.size+1) gq cp us.length w4.heap.size us (.slice ua4 un4 uc4) rfl rfl rfl ?hO ?hc rfl ?hl ?hb ?_);case hO=>exact HW5.2.2.2.2.1
   case hc=>exact HW5.2.2.2.2.2.2.2.1
   case hl=>omega
   case hb=>exact HW5.2.2.2.2.2.2.2.2
   intro g6 cp6 w6 hO6 hgr6 hat6;rw[←hW5]at hgr6;have hz5:W5.heap.size=w4.heap.size+1:=by rw[hW5];simp
   have HJ6:Hid (AltJ p base g i o w k4 (os++ [ts4]) (us++ [.slice ua4 un4 uc4]) g6 cp6 w6):=by have hq:=HW5.2.2.2.2.1.lt;have hc:Chg (fun j=>j=gq) W5 w6:=Chg.of_grown hgr6 (fun j hj=>by cases hj;rfl);refine⟨HW5.1,HW5.2.1,yA.chg HW5.2.2.1 hc (by omega),HW5.2.2.2.1.chg hc (by omega),hO6,by rw[List.length_append,List.length_append,HOk.2.1];rfl,?_,HW5.2.2.2.2.2.2.1.absorb hc (fun j q=>.inr (by omega)),hgl⟩;intro j y s hy hs;exact(HW5.2.2.2.2.2.1 j y s hy hs).move hc (fun q hq z=>z.2 hq) (fun q hq z=>⟨z.1,fun e=>by rcases hat6 with r|r;exact z.2 (by omega);omega⟩)
   clear hO6 hgr6 hat6 hW5 HW5;go_wp2_with fail;go_roundw;case rel=>exact⟨k4,g6,cp6,os++ [ts4],us++ [.slice ua4 un4 uc4],by omega,hk4p.2,by rw[List.length_append];simp;omega,by rw[List.length_append];rfl,HJ6.out⟩
   case measure=>rw[HOk.2.2,yFs HJ6.rd];omega
  ·have HX:Hid (yEp (sb p) o i k os∧(∀c,(sb p)[k]?=some c→yFk c∧¬c=124)∧us.length=os.length):=⟨HJ.1.ok,fun c hc=>⟨HJ.1.nxt c hc,fun q=>by subst q;exact hx hc⟩,HJ.1.len⟩;have HR:=HJ.1.read hC3 hP3;have HF:Hid (PrAt w3 base g p k o∧yA w3 w.heap.size 142 1 w.heap.size [.slice none 0 0]∧OwnQ w3 (w.heap.size+1) gq cp us∧(∀(i:Nat) x ts,us[i]?=some x→os[i]?=some ts→yH9 w3 (fun j=>w.heap.size+1≤j∧¬j=gq) ts x)∧Chg (fun k=>k=g) w w3):=⟨hP3,HR⟩;clear HR hC3 hx hP3 HJ;have r0:=HF.2.1.cell (j:=0) rfl;have rf:=HF.2.1.frozen 0;go_wp2_with fail;refine bodyPost_ret (v:=.agg #[.slice (some ⟨gq,0,none⟩) us.length cp]) (by simp[results,Tryz.results133,go_sem,World.cell?_setCell_same _ _ _ r0]) rfl ?_;have hc:=Chg.of_set w3 w.heap.size 0 (.slice (some ⟨gq,0,none⟩) us.length cp) (S:=fun j=>j=w.heap.size) rfl;have hq:=HF.2.2.1.lt;refine⟨HF.2.2.2.2.absorb hc (fun j q=>.inr (by omega)),.inl ⟨k,os,_,HX.1,HX.2.1,rfl,?_,yA.chg HF.1 hc (by omega)⟩⟩;obtain⟨n,hn⟩:=yQj HX.2.2 (fun i x ts hx ht=>(HF.2.2.2.1 i x ts hx ht).move (S:=fun _=>False) (Chg.refl _ _) (fun _ q=>q.elim) (lo':=fun j=>w.heap.size+1≤j) (fun _ _ q=>q.1));have hA:yE2 w3 (fun j=>w.heap.size+1≤j) os (.slice (some ⟨gq,0,none⟩) us.length cp):=⟨n,gq,cp,us,by rw[HX.2.2],HX.2.2,HF.2.2.1.vals hq.1,hn⟩;exact hA.move hc (fun j q=>by subst q;exact fun z=>by omega) (fun j hj z=>⟨by omega,by have:=hc.size;omega⟩)
theorem yVq (hp:p.size≤200):∀m,yXn p m∧AltC p m
 |0=>by
  have h0:yXn p 0:=fun base g i o w hm hi=>by omega
  exact⟨h0,yX6 (yXz (yX0 h0 hp) hp) hp⟩
 |m+1=>by
  have h1:=xAf (yVq hp m).2 hp
  exact⟨h1,yX6 (yXz (yX0 h1 hp) hp) hp⟩
theorem yXj (hp:p.size≤200) (base g i o:Nat) (w:World) (hi:i≤p.size) (ho:o≤20) (h:PrAt w base g p i o):Calls Tryz.prog 133 #[.pointer (some ⟨g,0,none⟩)] w (yVx p base g i o w):=
 (yVq hp (p.size-i)).2 base g i o w (Nat.le_refl _) hi ho h
end
theorem yT6 (c a:Int) (w:World):(Instr.typeAssert (pfV c a) 20 169 true).run Tryz.prog w=.ok (.tuple #[.agg #[.int .i64 c,.int .i64 a],.bool true]) w:=by kernel_rfl
theorem yWp (w:World):Calls Tryz.prog 132 #[.nilIface] w fun e w'=>e=.returned (.agg #[.int .i64 0,.int .i64 0])∧Below w.heap.size w w':=by go_enter Tryz.func132,Tryz.ntmps132;go_wp2_with fail;refine bodyPost_ret (v:=.agg #[.int .i64 0,.int .i64 0]) (by simp[results,Tryz.results132,go_sem]) rfl ⟨rfl,?_⟩;exact qB
theorem yZf (c a:Int) (w:World):Calls Tryz.prog 132 #[pfV c a] w fun e w'=>e=.returned (.agg #[.int .i64 c,.int .i64 a])∧Below w.heap.size w w':=by
 have hta:=yT6;obtain⟨W,hW⟩:=qE (w.alloc (Obj.cells #[.int .i64 0,.int .i64 0] 169):World);have HW:Hid (yA W w.heap.size 169 2 w.heap.size [.int .i64 0,.int .i64 0]∧Below w.heap.size w W):=by rw[hW];exact⟨yAa w _ (Nat.le_refl _) rfl,qB⟩
 obtain⟨W2,hW2⟩:=qE (W.alloc (Obj.cells #[.int .i64 c,.int .i64 a] 169):World);have HW2:Hid (yA W2 w.heap.size 169 2 w.heap.size [.int .i64 0,.int .i64 0]∧yA W2 w.heap.size 169 2 W.heap.size [.int .i64 c,.int .i64 a]∧Below w.heap.size w W2):=by
  have hb:Below W.heap.size W W2:=by rw[hW2];exact qB
  refine⟨HW.1.below hb,?_,HW.2.trans (hb.mono HW.2.size)⟩;rw[hW2];exact yAa W _ HW.2.size rfl
 go_enter Tryz.func132,Tryz.ntmps132;go_upto_region 1 with fail;rw[←hW];clear hW;go_upto_region 7 with fail;rw[←hW2];clear hW2 hta;obtain⟨b0,b1⟩:=HW2.2.1.c2;obtain⟨r0,r1⟩:=HW2.1.c2;obtain⟨f0,f1⟩:=HW2.1.f2;have hbx:=(HW2.1.set 0 (.int .i64 c)).set 1 (.int .i64 a);obtain⟨p0,p1⟩:=hbx.c2;obtain⟨W3,hW3⟩:=qE ((W2.setCell ⟨w.heap.size,0,none⟩ (.int .i64 c)).setCell ⟨w.heap.size,1,none⟩ (.int .i64 a):World);rw[←hW3]at p0 p1;have HB3:Hid (Below w.heap.size w W3):=by show Below w.heap.size w W3;rw[hW3];exact yAc (yAc HW2.2.2 (Nat.le_refl _) 0 _) (Nat.le_refl _) 1 _
 clear hbx;go_wp2_with fail;rw[←hW3];refine bodyPost_ret (v:=.agg #[.int .i64 c,.int .i64 a]) (by simp[results,Tryz.results132,go_sem,p0,p1]) rfl ⟨rfl,HB3.out⟩
theorem yWj (base rb eb:Nat) (c a:Int) (older:List PanicEntry) (w:World) (hc:¬c=0) (x:Value) (hr:yA w base 142 1 rb [x]) (he:yA w base 129 2 eb [.int .i64 0,.int .i64 0]) (hne:¬rb=eb):
  CallsD Tryz.prog 131 #[.pointer (some ⟨rb,0,none⟩),.pointer (some ⟨eb,0,none⟩)] (.panicking ({v:=pfV c a,recovered:=false}::older)) w fun e u' w'=>
   e=.returned (.tuple #[])∧u'=.panicking ({v:=pfV c a,recovered:=true}::older)∧yA w' base 142 1 rb [.slice none 0 0]∧yA w' base 129 2 eb [.int .i64 c,.int .i64 a]∧Chg (fun k=>k=rb∨k=eb) w w':=by
 refine callsD_of_wpS Tryz.func131 rfl fun c₀ cs hu=>?_;apply wpS_seq;apply wpS_region;simp[wpOpsS,go_sem,recoverD,hu,Tryz.ntmps131,Exit.thenS];refine(yZf c a w).mono ?_;rintro e w1 ⟨rfl,hb1⟩;simp[wpOpsS,go_sem];have ht:#[Value.pointer (some ⟨rb,0,none⟩),Value.pointer (some ⟨eb,0,none⟩)]++(((Array.replicate 12 undef).setIfInBounds 1 (pfV c a)).setIfInBounds 2 (Value.agg #[Value.int IntKind.i64 c,Value.int IntKind.i64 a])).setIfInBounds 0 (Value.pointer (some ⟨w1.heap.size,0,none⟩))=#[.pointer (some ⟨rb,0,none⟩),.pointer (some ⟨eb,0,none⟩),.pointer (some ⟨w1.heap.size,0,none⟩),pfV c a,.agg #[.int .i64 c,.int .i64 a],undef,undef,undef,undef,undef,undef,undef,undef,undef]:=by rfl
 rw[ht];clear ht;obtain⟨W2,hW2⟩:=qE (w1.alloc (Obj.cells #[.int .i64 c,.int .i64 a] 169):World);have hb2:Below w1.heap.size w1 W2:=by rw[hW2];exact qB
 have HB:Hid (yA W2 base 142 1 rb [x]∧yA W2 base 129 2 eb [.int .i64 0,.int .i64 0]∧Chg (fun k=>k=rb∨k=eb) w W2):=
  ⟨(hr.below hb1).below hb2,(he.below hb1).below hb2,(Chg.of_below hb1).trans (Chg.of_below hb2)⟩
 have d0:W2.cell? ⟨w1.heap.size,0,none⟩=some (.int .i64 c):=by rw[hW2];simp
 have d1:W2.cell? ⟨w1.heap.size,1,none⟩=some (.int .i64 a):=by rw[hW2];simp
 have hrl:=(hr.below hb1).lt.2;have hel:=(he.below hb1).lt.2;obtain⟨FB,hFB⟩:=qE w1.heap.size;rw[←hW2];rw[←hFB]at d0 d1⊢;have n1:¬FB=rb:=by omega
 have n2:¬FB=eb:=by omega
 clear hW2 hFB hb1 hb2 hr he hrl hel;have r0:=HB.1.cell (j:=0) rfl;have rf:=HB.1.frozen 0;obtain⟨e0,e1⟩:=HB.2.1.c2;obtain⟨f0,f1⟩:=HB.2.1.f2;have n3:¬eb=rb:=fun q=>hne q.symm;have HF:∀w':World,Below W2.heap.size W2 w'→yA (((w'.setCell ⟨rb,0,none⟩ (.slice none 0 0)).setCell ⟨eb,0,none⟩ (.int .i64 c)).setCell ⟨eb,1,none⟩ (.int .i64 a)) base 142 1 rb [.slice none 0 0]∧yA (((w'.setCell ⟨rb,0,none⟩ (.slice none 0 0)).setCell ⟨eb,0,none⟩ (.int .i64 c)).setCell ⟨eb,1,none⟩ (.int .i64 a)) base 129 2 eb [.int .i64 c,.int .i64 a]∧Chg (fun k=>k=rb∨k=eb) w (((w'.setCell ⟨rb,0,none⟩ (.slice none 0 0)).setCell ⟨eb,0,none⟩ (.int .i64 c)).setCell ⟨eb,1,none⟩ (.int .i64 a)):=fun w' hb=>by refine⟨((((HB.1.below hb).set 0 _).beside hne 0 _).beside hne 1 _),((((HB.2.1.below hb).beside n3 0 _).set 0 _).set 1 _),((((HB.2.2.trans (Chg.of_below hb)).trans (Chg.of_set _ rb 0 _ (.inl rfl))).trans (Chg.of_set _ eb 0 _ (.inr rfl))).trans (Chg.of_set _ eb 1 _ (.inr rfl)))⟩
 have HFF:Hid (∀w':World,Below W2.heap.size W2 w'→yA (((w'.setCell ⟨rb,0,none⟩ (.slice none 0 0)).setCell ⟨eb,0,none⟩ (.int .i64 c)).setCell ⟨eb,1,none⟩ (.int .i64 a)) base 142 1 rb [.slice none 0 0]∧yA (((w'.setCell ⟨rb,0,none⟩ (.slice none 0 0)).setCell ⟨eb,0,none⟩ (.int .i64 c)).setCell ⟨eb,1,none⟩ (.int .i64 a)) base 129 2 eb [.int .i64 c,.int .i64 a]∧Chg (fun k=>k=rb∨k=eb) w (((w'.setCell ⟨rb,0,none⟩ (.slice none 0 0)).setCell ⟨eb,0,none⟩ (.int .i64 c)).setCell ⟨eb,1,none⟩ (.int .i64 a))):=HF;clear HF;refine wpS_of_wp ?_;go_upto_region 2 with fail;go_region;all_goals go_wp2_with fail
 have hfin:=HFF.out W2 (Below.refl _ _);have hdr:∀X:World,Below X.heap.size X X.drew:=fun X=>(Below.refl _ _).drew;exact⟨rfl,_,rfl,_,by simp[results,Tryz.results131],rfl,rfl,hfin.1.below (hdr _),hfin.2.1.below (hdr _),hfin.2.2.trans (Chg.of_below (hdr _))⟩
theorem yY1 (rb eb:Nat) (w:World):
  CallsD Tryz.prog 131 #[.pointer (some ⟨rb,0,none⟩),.pointer (some ⟨eb,0,none⟩)] .returning w fun e u' w'=>e=.returned (.tuple #[])∧u'=.returning∧Below w.heap.size w w':=by
 refine callsD_of_wpS Tryz.func131 rfl fun c₀ cs hu=>?_;apply wpS_seq;apply wpS_region;simp[wpOpsS,go_sem,recoverD,hu,Tryz.ntmps131,Exit.thenS];refine(yWp w).mono ?_;rintro e w1 ⟨rfl,hb1⟩;simp[wpOpsS,go_sem];have ht:#[Value.pointer (some ⟨rb,0,none⟩),Value.pointer (some ⟨eb,0,none⟩)]++(((Array.replicate 12 undef).setIfInBounds 1 .nilIface).setIfInBounds 2 (Value.agg #[Value.int IntKind.i64 0,Value.int IntKind.i64 0])).setIfInBounds 0 (Value.pointer (some ⟨w1.heap.size,0,none⟩))=#[.pointer (some ⟨rb,0,none⟩),.pointer (some ⟨eb,0,none⟩),.pointer (some ⟨w1.heap.size,0,none⟩),.nilIface,.agg #[.int .i64 0,.int .i64 0],undef,undef,undef,undef,undef,undef,undef,undef,undef]:=by rfl
 rw[ht];clear ht;have HB:Hid (Below w.heap.size w (w1.alloc (Obj.cells #[.int .i64 0,.int .i64 0] 169))):=hb1.trans ((Below.refl _ _).alloc hb1.size _);clear hb1;refine wpS_of_wp ?_;go_wp2_with fail;refine⟨rfl,.returning,?_,_,by simp[results,Tryz.results131],rfl,rfl,HB.out⟩;cases c₀
 simp_all
def yAr (p:List UInt8):Int×Nat:=if 200<p.length then(1,0)else chkM p 0 0 false
def yCg (p:ByteArray) (w:World) (e:Ending) (w':World):Prop:=
 ∃u:Value,e=.returned (.tuple #[.agg #[u],.agg #[.int .i64 (yAr (sb p)).1,.int .i64 ((yAr (sb p)).2:Int)]])∧Below w.heap.size w w'∧
  (((yAr (sb p)).1=0∧∃os,yEp (sb p) 0 0 p.size os∧yE2 w' (Bet w.heap.size w'.heap.size) os u)∨(¬(yAr (sb p)).1=0∧u=.slice none 0 0))
theorem yTx {a:Act} {x y:Value} (hu:u.oneCell'=true) (ht:a.tmps.getD 2 undef=.pointer (some ⟨rb,0,none⟩)) (ht2:a.tmps.getD 3 undef=.pointer (some ⟨eb,0,none⟩)) (hr:yA w base 142 1 rb [u]) (he:yA w base 129 2 eb [x,y]):
  (results Tryz.f104 a.tmps).run Tryz.prog w=.ok (.tuple #[.agg #[u],.agg #[x,y]]) w:=by
 have p0:=hr.cell (j:=0) rfl;obtain⟨q0,q1⟩:=he.c2;have h1:a.tmps[2]?.getD undef=.pointer (some ⟨rb,0,none⟩):=by rw[←Array.getD_eq_getD_getElem?];exact ht
 have h2:a.tmps[3]?.getD undef=.pointer (some ⟨eb,0,none⟩):=by rw[←Array.getD_eq_getD_getElem?];exact ht2
 simp[results,Tryz.results104,go_sem,h1,h2,p0,q0,q1]
theorem yTy (p:ByteArray) (w wq:World) (a:Act) (c:Int) (k rb eb:Nat) (x:Value) (hrb:w.heap.size≤rb) (heb:w.heap.size≤eb) (hne:¬rb=eb) (hd:a.defers= [{target:=Target.fn (Fn.func 131) #[.pointer (some ⟨rb,0,none⟩),.pointer (some ⟨eb,0,none⟩)],args:=#[]}])
  (ht:a.tmps.getD 2 undef=.pointer (some ⟨rb,0,none⟩)) (ht2:a.tmps.getD 3 undef=.pointer (some ⟨eb,0,none⟩)) (hM:yAr (sb p)=(c,k)) (hc:¬c=0) (hr:yA wq w.heap.size 142 1 rb [x]) (he:yA wq w.heap.size 129 2 eb [.int .i64 0,.int .i64 0]) (hB:Below w.heap.size w wq):
  bodyPostD Tryz.prog Tryz.f104 (fun e w'=>yCg p w e w') (.panic [{v:=pfV c k,recovered:=false}]) a wq:=by
 show Leaves Tryz.prog Tryz.f104 a.tmps (fun e w'=>yCg p w e w') a.defers (.panicking [{v:=pfV c k,recovered:=false}]) wq;rw[hd];refine leaves_cons (f:=131) (args:=#[.pointer (some ⟨rb,0,none⟩),.pointer (some ⟨eb,0,none⟩)]) (by simp) (by simp[go_sem]) ?_;refine(yWj w.heap.size rb eb c k [] wq hc x hr he hne).mono ?_;rintro e u' w'' ⟨rfl,rfl,hr2,he2,hC⟩;show Leaves Tryz.prog Tryz.f104 a.tmps (fun e w'=>yCg p w e w') [] (settle (.panicking [{v:=pfV c k,recovered:=true}])) _;refine⟨_,yTx rfl ht ht2 hr2 he2,.slice none 0 0,by rw[hM],Chg.below hB hC hB.size (fun j q=>by omega),.inr ⟨by rw[hM];exact hc,rfl⟩⟩
theorem yY2 (p:ByteArray) (w wq:World) (a:Act) (rb eb:Nat) (u:Value) (os:List (List Pat)) (hu:u.oneCell'=true) (hd:a.defers= [{target:=Target.fn (Fn.func 131) #[.pointer (some ⟨rb,0,none⟩),.pointer (some ⟨eb,0,none⟩)],args:=#[]}])
  (ht:a.tmps.getD 2 undef=.pointer (some ⟨rb,0,none⟩)) (ht2:a.tmps.getD 3 undef=.pointer (some ⟨eb,0,none⟩)) (hM:yAr (sb p)=(0,0)) (hA:yEp (sb p) 0 0 p.size os) (hU:yE2 wq (Bet w.heap.size wq.heap.size) os u) (hr:yA wq w.heap.size 142 1 rb [u]) (he:yA wq w.heap.size 129 2 eb [.int .i64 0,.int .i64 0]) (hB:Below w.heap.size w wq):
  bodyPostD Tryz.prog Tryz.f104 (fun e w'=>yCg p w e w') .ret a wq:=by
 show Leaves Tryz.prog Tryz.f104 a.tmps (fun e w'=>yCg p w e w') a.defers .returning wq;rw[hd];refine leaves_cons (f:=131) (args:=#[.pointer (some ⟨rb,0,none⟩),.pointer (some ⟨eb,0,none⟩)]) (by simp) (by simp[go_sem]) ?_;refine(yY1 rb eb wq).mono ?_;rintro e u' w'' ⟨rfl,rfl,hb⟩;show Leaves Tryz.prog Tryz.f104 a.tmps (fun e w'=>yCg p w e w') [] (settle .returning) w'';refine⟨_,yTx hu ht ht2 (hr.below hb) (he.below hb),u,by rw[hM];rfl,hB.trans (hb.mono hB.size),.inl ⟨by rw[hM],os,hA,hU.move (S:=fun _=>False) (Chg.of_below hb) (fun q hq=>hq.elim) (fun q hq z=>⟨z.1,by have:=hb.size;omega⟩)⟩⟩
theorem yBg (p:ByteArray) (w:World) (hpm:p.size≤maxLen):Calls Tryz.prog 104 #[.string p] w fun e w'=>yCg p w e w':=by
 have hmf:∀(fn:Fn) (first cap:Array Value) (w:World),(Instr.makeFunc fn first cap).run Tryz.prog w=.ok (.func fn first cap) w:=fun _ _ _ _=>rfl;obtain⟨W0,hW0⟩:=qE ((w.alloc (Obj.cells #[.slice none 0 0] 142)).alloc (Obj.cells #[.int .i64 0,.int .i64 0] 129):World);have HW0:Hid (yA W0 w.heap.size 142 1 w.heap.size [.slice none 0 0]∧yA W0 w.heap.size 129 2 (w.heap.size+1) [.int .i64 0,.int .i64 0]∧Below w.heap.size w W0∧W0.heap.size=w.heap.size+2):=by rw[hW0];refine⟨yA.ofHeap (vs:=#[.slice none 0 0]) (heap_alloc2_old w _ _) (Nat.le_refl _) rfl,yA.ofHeap (vs:=#[.int .i64 0,.int .i64 0]) (heap_alloc2_new w _ _) (by omega) rfl,(qB).alloc (by simp) _,by simp⟩
 unfold maxLen at hpm;by_cases hp:200<p.size
 ·have HM:Hid (yAr (sb p)=(1,0)):=by show yAr (sb p)=_;unfold yAr;rw[if_pos (by rw[yAd];exact hp)]
  have z:¬(p.size:Int)≤200:=by omega
  have z2:(200:Int)<(p.size:Int):=by omega
  go_enter_defers Tryz.func104,Tryz.ntmps104;go_upto_region 1 with fail;rw[←hW0];clear hW0;have r0:=HW0.1.cell (j:=0) rfl;have rf:=HW0.1.frozen 0;obtain⟨e0,e1⟩:=HW0.2.1.c2;obtain⟨f0,f1⟩:=HW0.2.1.f2;obtain⟨W1,hW1⟩:=qE (((W0.setCell ⟨w.heap.size,0,none⟩ (.slice none 0 0)).setCell ⟨w.heap.size+1,0,none⟩ (.int .i64 1)).setCell ⟨w.heap.size+1,1,none⟩ (.int .i64 0):World);have HW1:Hid (yA W1 w.heap.size 142 1 w.heap.size [.slice none 0 0]∧yA W1 w.heap.size 129 2 (w.heap.size+1) [.int .i64 1,.int .i64 0]∧Below w.heap.size w W1):=by rw[hW1];exact⟨(((HW0.1.set 0 _).beside (by omega) 0 _).beside (by omega) 1 _),(((HW0.2.1.beside (by omega) 0 _).set 0 _).set 1 _),yAc (yAc (yAc HW0.2.2.1 (Nat.le_refl _) 0 _) (by omega) 0 _) (by omega) 1 _⟩
  go_wp2_with fail;rw[←hW1];show Leaves Tryz.prog Tryz.f104 _ (fun e w'=>yCg p w e w') [] .returning W1;refine⟨_,yTx (a:={tmps:=_,defers:= []}) rfl rfl rfl HW1.1 HW1.2.1,.slice none 0 0,by rw[HM.out];rfl,HW1.2.2,.inr ⟨by rw[HM.out];decide,rfl⟩⟩
 have hp2:p.size≤200:=by omega
 have HM:Hid (yAr (sb p)=chkM (sb p) 0 0 false):=by show yAr (sb p)=_;unfold yAr;rw[if_neg (by rw[yAd];exact hp)]
 have z:(p.size:Int)≤200:=by omega
 obtain⟨W1,hW1⟩:=qE (W0.alloc (Obj.cells #[.string p,.int .i64 0,.int .i64 0] 172):World);have HW1:Hid (yA W1 w.heap.size 142 1 w.heap.size [.slice none 0 0]∧yA W1 w.heap.size 129 2 (w.heap.size+1) [.int .i64 0,.int .i64 0]∧PrAt W1 w.heap.size (w.heap.size+2) p 0 0∧Below w.heap.size w W1∧W1.heap.size=w.heap.size+3):=by
  have hb:Below W0.heap.size W0 W1:=by rw[hW1];exact qB
  have hz:=HW0.2.2.2;refine⟨HW0.1.below hb,HW0.2.1.below hb,?_,HW0.2.2.1.trans (hb.mono (by omega)),by rw[hW1];simp;omega⟩;rw[hW1,←hz];exact yAa W0 #[.string p,.int .i64 0,.int .i64 0] (by omega) rfl
 go_enter_defers Tryz.func104,Tryz.ntmps104;go_upto_region 1 with fail;rw[←hW0];have hz0:W0.heap.size=w.heap.size+2:=HW0.2.2.2;clear hW0 HW0;go_upto_region 5 with fail;rw[←hW1];clear hW1 hz0;go_wp2_with fail;refine(yXj hp2 w.heap.size (w.heap.size+2) 0 0 W1 (Nat.zero_le _) (Nat.zero_le _) HW1.2.2.1).mono ?_;rintro e w2 ⟨hC2,(⟨k,os,u,hA,hN,rfl,hU,hP2⟩|⟨c,k,hc,hk,rfl⟩)⟩;case inr=>
  have hb2:Below w.heap.size w w2:=Chg.below HW1.2.2.2.1 hC2 HW1.2.2.2.1.size (fun j q=>by omega);exact yTy p w w2 _ c k w.heap.size (w.heap.size+1) _ (Nat.le_refl _) (by omega) (by omega) rfl rfl rfl (by rw[HM.out,hk]) hc (HW1.1.chg hC2 (by omega)) (HW1.2.1.chg hC2 (by omega)) hb2
 obtain⟨gu,nu,cu,rfl⟩:=hU.slice;have hkp:k≤p.size:=by have:=hA.le;rw[yAd]at this;exact this
 have HA:Hid (yEp (sb p) 0 0 k os∧(∀c,(sb p)[k]?=some c→yFk c∧¬c=124)):=⟨hA,hN⟩;have HW2:Hid (yA w2 w.heap.size 142 1 w.heap.size [.slice none 0 0]∧yA w2 w.heap.size 129 2 (w.heap.size+1) [.int .i64 0,.int .i64 0]∧PrAt w2 w.heap.size (w.heap.size+2) p k 0∧Below w.heap.size w w2∧yE2 w2 (fun j=>w.heap.size+3≤j) os (.slice (some ⟨gu,0,none⟩) nu cu)):=by refine⟨HW1.1.chg hC2 (by omega),HW1.2.1.chg hC2 (by omega),hP2,Chg.below HW1.2.2.2.1 hC2 HW1.2.2.2.1.size (fun j q=>by omega),hU.move (S:=fun _=>False) (Chg.refl _ _) (fun q hq=>hq.elim) (fun q _ z=>by have h1:=z.1;rw[HW1.2.2.2.2]at h1;exact h1)⟩
 clear hC2 hA hN hU hP2 HW1;obtain⟨W3,hW3⟩:=qE (w2.setCell ⟨w.heap.size,0,none⟩ (.slice (some ⟨gu,0,none⟩) nu cu):World);have HW3:Hid (yA W3 w.heap.size 142 1 w.heap.size [.slice (some ⟨gu,0,none⟩) nu cu]∧yA W3 w.heap.size 129 2 (w.heap.size+1) [.int .i64 0,.int .i64 0]∧PrAt W3 w.heap.size (w.heap.size+2) p k 0∧Below w.heap.size w W3∧yE2 W3 (fun j=>w.heap.size+3≤j) os (.slice (some ⟨gu,0,none⟩) nu cu)):=by have hc:=Chg.of_set w2 w.heap.size 0 (.slice (some ⟨gu,0,none⟩) nu cu) (S:=fun j=>j=w.heap.size) rfl;rw[hW3];exact⟨HW2.1.set 0 _,HW2.2.1.chg hc (by omega),yA.chg HW2.2.2.1 hc (by omega),yAc HW2.2.2.2.1 (Nat.le_refl _) 0 _,HW2.2.2.2.2.move hc (fun q hq=>by subst hq;exact fun z=>by omega) (fun q _ z=>z)⟩
 have r0:=HW2.1.cell (j:=0) rfl;have rf:=HW2.1.frozen 0;clear HW2;go_upto_region 6 with fail;rw[←hW3];clear hW3 r0 rf;have c1:=HW3.2.2.1.cell (j:=1) rfl;by_cases hke:k=p.size
 ·have zk:(k:Int)=(p.size:Int):=by omega
  have HOk:Hid (yAr (sb p)=(0,0)∧yEp (sb p) 0 0 p.size os):=by refine⟨?_,by rw[←hke];exact HA.1⟩;rw[HM.out,HA.1.chk,yH6 (by rw[yAd];omega),if_neg (by omega)]
  clear HA hke;go_wp2_with fail;refine(yJj _ HW3.2.2.1).mono ?_;rintro e w5 ⟨hw5,(⟨hc,rfl⟩|⟨hc,rfl⟩)⟩;case inr=>exfalso;(simp at hc)<;>omega
  rw[hw5];clear hw5 hc c1;have r0:=HW3.1.cell (j:=0) rfl;have rf:=HW3.1.frozen 0;obtain⟨e0,e1⟩:=HW3.2.1.c2;obtain⟨f0,f1⟩:=HW3.2.1.f2;obtain⟨W6,hW6⟩:=qE (((W3.setCell ⟨w.heap.size,0,none⟩ (.slice (some ⟨gu,0,none⟩) nu cu)).setCell ⟨w.heap.size+1,0,none⟩ (.int .i64 0)).setCell ⟨w.heap.size+1,1,none⟩ (.int .i64 0):World);have HW6:Hid (yA W6 w.heap.size 142 1 w.heap.size [.slice (some ⟨gu,0,none⟩) nu cu]∧yA W6 w.heap.size 129 2 (w.heap.size+1) [.int .i64 0,.int .i64 0]∧Below w.heap.size w W6∧yE2 W6 (Bet w.heap.size W6.heap.size) os (.slice (some ⟨gu,0,none⟩) nu cu)):=by have c1:=Chg.of_set W3 w.heap.size 0 (.slice (some ⟨gu,0,none⟩) nu cu) (S:=fun j=>j=w.heap.size∨j=w.heap.size+1) (.inl rfl);have c2:=c1.trans (Chg.of_set _ (w.heap.size+1) 0 (.int .i64 0) (S:=fun j=>j=w.heap.size∨j=w.heap.size+1) (.inr rfl));have c3:=c2.trans (Chg.of_set _ (w.heap.size+1) 1 (.int .i64 0) (S:=fun j=>j=w.heap.size∨j=w.heap.size+1) (.inr rfl));rw[hW6];exact⟨(((HW3.1.set 0 _).beside (by omega) 0 _).beside (by omega) 1 _),(((HW3.2.1.beside (by omega) 0 _).set 0 _).set 1 _),yAc (yAc (yAc HW3.2.2.2.1 (Nat.le_refl _) 0 _) (by omega) 0 _) (by omega) 1 _,HW3.2.2.2.2.move c3 (fun q hq=>fun z=>by omega) (fun q hq z=>⟨by omega,by have:=c3.size;omega⟩)⟩
  go_wp2_with fail;rw[←hW6];exact yY2 p w W6 _ w.heap.size (w.heap.size+1) _ os rfl rfl rfl rfl HOk.1 HOk.2 HW6.2.2.2 HW6.1 HW6.2.1 HW6.2.2.1
 ·have zk:¬(k:Int)=(p.size:Int):=by omega
  have HOk:Hid (yAr (sb p)=(2,k)):=by
   show yAr (sb p)=_;obtain⟨c,hc⟩:∃c,(sb p)[k]?=some c:=⟨_,List.getElem?_eq_getElem (by rw[yAd];omega)⟩;obtain⟨h1,h2⟩:=HA.2 c hc;rw[HM.out,HA.1.chk];rcases h1 with h1|h1|h1|h1
   ·rw[yOe hc h1];rfl
   ·exact absurd h1 h2
   ·subst h1;rw[yEn hc,if_pos rfl]
   ·subst h1;rw[yOd hc]
  clear HA hke;go_wp2_with fail;refine(yJj _ HW3.2.2.1).mono ?_;rintro e w5 ⟨hw5,(⟨hc,rfl⟩|⟨hc,rfl⟩)⟩
  ·exfalso;(simp at hc)<;>omega
  rw[hw5];exact yTy p w W3 _ 2 k w.heap.size (w.heap.size+1) _ (Nat.le_refl _) (by omega) (by omega) rfl rfl rfl HOk.out (by decide) HW3.1 HW3.2.1 HW3.2.2.2.1
theorem yK1 (p:ByteArray) (w:World) (hpm:p.size≤maxLen):Calls Tryz.prog 126 #[.string p] w fun e w'=>e=.returned (.agg #[.int .i64 (yAr (sb p)).1,.int .i64 ((yAr (sb p)).2:Int)])∧Below w.heap.size w w':=by
 obtain⟨W0,hW0⟩:=qE (w.alloc (Obj.cells #[.int .i64 0,.int .i64 0] 129):World);have HW0:Hid (yA W0 w.heap.size 129 2 w.heap.size [.int .i64 0,.int .i64 0]∧Below w.heap.size w W0):=by rw[hW0];exact⟨yAa w _ (Nat.le_refl _) rfl,qB⟩
 obtain⟨c,hc⟩:=qE ((yAr (sb p)).1);obtain⟨k,hk⟩:=qE ((yAr (sb p)).2);rw[←hc,←hk];go_enter Tryz.func126,Tryz.ntmps126;go_upto_region 1 with fail;rw[←hW0];clear hW0;go_wp2_with fail;refine(yBg p W0 hpm).mono ?_;rintro e w1 ⟨u,rfl,hb1,hu⟩;rw[←hc,←hk];obtain⟨ua,un,uc,rfl⟩:∃a n cp,u=.slice a n cp:=by
  rcases hu with⟨_,os,_,hU⟩|⟨_,rfl⟩
  ·obtain⟨g,n,cp,rfl⟩:=hU.slice;exact⟨_,_,_,rfl⟩
  ·exact⟨_,_,_,rfl⟩
 clear hu hc hk;obtain⟨W2,hW2⟩:=qE ((w1.alloc (Obj.cells #[.slice ua un uc] 142)).alloc (Obj.cells #[.int .i64 c,.int .i64 (k:Int)] 129):World);have HW2:Hid (yA W2 w.heap.size 129 2 w.heap.size [.int .i64 0,.int .i64 0]∧yA W2 w.heap.size 129 2 (w1.heap.size+1) [.int .i64 c,.int .i64 (k:Int)]∧Below w.heap.size w W2):=by
  have hb2:Below w1.heap.size w1 W2:=by rw[hW2];exact(qB).alloc (by simp) _
  have h1:=HW0.2.size;have h2:=hb1.size;refine⟨(HW0.1.below hb1).below hb2,?_,(HW0.2.trans (hb1.mono h1)).trans (hb2.mono (by omega))⟩;rw[hW2];exact yA.ofHeap (vs:=#[.int .i64 c,.int .i64 (k:Int)]) (heap_alloc2_new w1 _ _) (by omega) rfl
 clear hb1 HW0;go_upto_region 2 with fail;rw[←hW2];clear hW2;obtain⟨b0,b1⟩:=HW2.2.1.c2;obtain⟨r0,r1⟩:=HW2.1.c2;obtain⟨f0,f1⟩:=HW2.1.f2;have hbx:=(HW2.1.set 0 (.int .i64 c)).set 1 (.int .i64 (k:Int));obtain⟨p0,p1⟩:=hbx.c2;have HB3:Hid (Below w.heap.size w ((W2.setCell ⟨w.heap.size,0,none⟩ (.int .i64 c)).setCell ⟨w.heap.size,1,none⟩ (.int .i64 (k:Int)))):=yAc (yAc HW2.2.2 (Nat.le_refl _) 0 _) (Nat.le_refl _) 1 _;obtain⟨W3,hW3⟩:=qE ((W2.setCell ⟨w.heap.size,0,none⟩ (.int .i64 c)).setCell ⟨w.heap.size,1,none⟩ (.int .i64 (k:Int)):World);rw[←hW3]at p0 p1 HB3;clear hbx;go_wp2_with fail;rw[←hW3];refine bodyPost_ret (v:=.agg #[.int .i64 c,.int .i64 (k:Int)]) (by simp[results,Tryz.results126,go_sem,p0,p1]) rfl ⟨rfl,HB3.out⟩
abbrev less (a b:ByteArray):Prop:=Op.bytesLess a.toList b.toList=true
theorem yWy (k:Int) (s:ByteArray) (h:Bool) (t:ByteArray) (l u n k':Int) (s':ByteArray) (h':Bool) (t':ByteArray) (l' u' n':Int) (wx:World):
  (binOp .eql 75 (.agg #[.int .i64 k,.string s,.bool h,.string t,.int .u64 l,.int .u64 u,.int .i64 n]) (.agg #[.int .i64 k',.string s',.bool h',.string t',.int .u64 l',.int .u64 u',.int .i64 n'])).run Tryz.prog wx=.ok (.bool (decide (k=k'∧s.toList=s'.toList∧h=h'∧t.toList=t'.toList∧l=l'∧u=u'∧n=n'))) wx:=by
 go_simp;repeat' split
 all_goals simp_all
theorem yF4 (e:Nd) (w:World):Calls Tryz.prog 87 #[e.v,.bool true,.bool false,.bool false,.bool false,.bool false] w fun r w'=>∃b,r=.returned (.bool b)∧(b=true↔e.hi=false∧e.t.toList= []∧e.lo=0∧e.up=0∧e.n=0)∧Below w.heap.size w w':=by exact yS6
theorem yKk (e:Nd) (w:World):Calls Tryz.prog 87 #[e.v,.bool true,.bool true,.bool true,.bool false,.bool false] w fun r w'=>∃b,r=.returned (.bool b)∧(b=true↔e.lo=0∧e.up=0∧e.n=0)∧Below w.heap.size w w':=by exact yS6
theorem yS2 (e:Nd) (w:World):Calls Tryz.prog 87 #[e.v,.bool false,.bool true,.bool false,.bool true,.bool false] w fun r w'=>∃b,r=.returned (.bool b)∧(b=true↔e.s.toList= []∧e.t.toList= []∧e.n=0)∧Below w.heap.size w w':=by exact yS6
theorem yH7 (e:Nd) (w:World):Calls Tryz.prog 87 #[e.v,.bool false,.bool false,.bool false,.bool false,.bool true] w fun r w'=>∃b,r=.returned (.bool b)∧(b=true↔e.s.toList= []∧e.hi=false∧e.t.toList= []∧e.lo=0∧e.up=0)∧Below w.heap.size w w':=by exact yS6
theorem yDk (e:Nd) (w:World):Calls Tryz.prog 87 #[e.v,.bool false,.bool false,.bool false,.bool false,.bool false] w fun r w'=>∃b,r=.returned (.bool b)∧(b=true↔e.s.toList= []∧e.hi=false∧e.t.toList= []∧e.lo=0∧e.up=0∧e.n=0)∧Below w.heap.size w w':=by exact yS6
theorem yKa (e:Nd) (w:World):Calls Tryz.prog 127 #[e.v] w fun r w'=>∃b,r=.returned (.bool b)∧(b=true↔((e.hi=false∧e.t.toList= []∧e.up=0)∨(e.hi=true∧(less e.s e.t∨e.lo<e.up))))∧Below w.heap.size w w':=by
 go_enter Tryz.func127,Tryz.ntmps127;go_wp2_with fail;all_goals go_ret
 all_goals exact⟨_,rfl,by simp_all[less],qB⟩
def yAe (e:Nd):Prop:=e.s.size≤200∧e.t.size≤200∧(e.hi=false→e.t.toList= []∧e.up=0)∧
 (((e.kind=4∨e.kind=5∨e.kind=6∨e.kind=7)∧(e.hi=false∧e.t.toList= []∧e.lo=0∧e.up=0∧e.n=0)∧(yAr (sb e.s)).1=0)∨
  ((e.kind=8∨e.kind=9)∧(e.lo=0∧e.up=0∧e.n=0)∧(e.hi=true→less e.s e.t))∨
  (e.kind=10∧(e.s.toList= []∧e.t.toList= []∧e.n=0)∧(e.hi=true→e.lo<e.up))∨
  ((e.kind=11∨e.kind=12∨e.kind=13)∧(e.s.toList= []∧e.hi=false∧e.t.toList= []∧e.lo=0∧e.up=0)∧1≤e.n∧e.n≤1000)∨
  ((e.kind=1∨e.kind=2∨e.kind=3∨e.kind=14∨e.kind=15∨e.kind=16)∧(e.s.toList= []∧e.hi=false∧e.t.toList= []∧e.lo=0∧e.up=0∧e.n=0)))
theorem yQo (c k:Int) (w:World):(Instr.field 129 (.agg #[.int .i64 c,.int .i64 k]) 0).run Tryz.prog w=.ok (.int .i64 c) w:=by kernel_rfl
def yX8 (e:Nd) (w:World) (r:Ending) (w':World):Prop:=∃b,r=.returned (.bool b)∧(b=true↔yAe e)∧Below w.heap.size w w'
theorem yU7 (e:Nd) (w:World) (hs:e.s.size≤maxLen) (ht:e.t.size≤maxLen):Calls Tryz.prog 47 #[e.v] w (yX8 e w):=by
 obtain⟨kind,s,hi,t,lo,up,n⟩:=e;have HS:Hid (s.size≤maxLen):=hs;unfold maxLen at hs ht;simp only[]at hs ht;obtain⟨W0,hW0⟩:=qE (w.alloc (Obj.cells #[.int .i64 kind,.string s,.bool hi,.string t,.int .u64 lo,.int .u64 up,.int .i64 n] 75):World);have HW0:Hid (yA W0 w.heap.size 75 7 w.heap.size [.int .i64 kind,.string s,.bool hi,.string t,.int .u64 lo,.int .u64 up,.int .i64 n]∧Below w.heap.size w W0):=by rw[hW0];exact⟨yAa w _ (Nat.le_refl _) rfl,qB⟩
 have hbw:=HW0.2.size;obtain⟨c0,c1,c2,c3,c4,c5,c6⟩:=HW0.1.c7;go_enter Tryz.func47,Tryz.ntmps47;go_upto_region 1 with fail;rw[←hW0];clear hW0;by_cases hgood:s.size≤200∧t.size≤200∧(hi=true∨(hi=false∧t.toList= []∧up=0));case neg=>
  have HG:Hid (¬yAe ⟨kind,s,hi,t,lo,up,n⟩):=fun q=>hgood ⟨q.1,q.2.1,by
   cases hi
   ·exact .inr ⟨rfl,q.2.2.1 rfl⟩
   ·exact .inl rfl⟩
  by_cases h1:s.size≤200
  ·have z1:¬(200:Int)<(s.size:Int):=by omega
   by_cases h2:t.size≤200
   ·have z2:¬(200:Int)<(t.size:Int):=by omega
    have hhi:hi=false:=by cases hi;rfl;exact absurd ⟨h1,h2,.inl rfl⟩ hgood
    subst hhi;by_cases h3:t.toList= []
    ·have h4:¬up=0:=fun q=>hgood ⟨h1,h2,.inr ⟨rfl,h3,q⟩⟩;exact yRo
    ·exact yRo
   ·have z2:(200:Int)<(t.size:Int):=by omega
    exact yRo
  ·have z1:(200:Int)<(s.size:Int):=by omega
   exact yRo
 have HG:Hid (s.size≤200∧t.size≤200∧(hi=false→t.toList= []∧up=0)):=⟨hgood.1,hgood.2.1,fun q=>hgood.2.2.elim (fun z=>by rw[q]at z;cases z) (fun z=>z.2)⟩;go_cut[27] (fun s wx=>s=.bool false∧wx=W0);case first=>
  have z1:¬(200:Int)<(s.size:Int):=by have:=HG.1;omega
  have z2:¬(200:Int)<(t.size:Int):=by have:=HG.2.1;omega
  rcases hgood.2.2 with rfl|⟨rfl,h3,rfl⟩
  ·go_wp2_with fail;go_meet;exact⟨rfl,rfl⟩
  ·go_wp2_with fail;go_meet;exact⟨rfl,rfl⟩
 case rest=>
 obtain⟨rfl,rfl⟩:=hcut;clear hgood hs ht;obtain⟨c,hc⟩:=qE ((yAr (sb s)).1);obtain⟨k,hk⟩:=qE (((yAr (sb s)).2:Int):Int);have HV:Hid (c=(yAr (sb s)).1):=hc;have HC:Hid (∀w,Calls Tryz.prog 88 #[.string s] w fun e w'=>e=.returned (.agg #[.int .i64 c,.int .i64 k])∧Below w.heap.size w w'):=fun w=>by rw[hc,hk];exact yCd s w HS.out
 clear hc hk;by_cases k4:kind=4
 ·subst k4;go_wp2_with fail;refine(yF4 ⟨4,s,hi,t,lo,up,n⟩ _).mono ?_;rintro r w1 ⟨b,rfl,hb,hb1⟩;have HB:Hid (b=true↔(hi=false∧t.toList= []∧lo=0∧up=0∧n=0)):=hb;have d0:=(HW0.1.below hb1).cell (j:=0) rfl;have d1:=(HW0.1.below hb1).cell (j:=1) rfl;have d2:=(HW0.1.below hb1).cell (j:=2) rfl;have d3:=(HW0.1.below hb1).cell (j:=3) rfl;have d4:=(HW0.1.below hb1).cell (j:=4) rfl;have d5:=(HW0.1.below hb1).cell (j:=5) rfl;have d6:=(HW0.1.below hb1).cell (j:=6) rfl;clear hb;cases b
  ·have HF:Hid (¬yAe ⟨4,s,hi,t,lo,up,n⟩):=by show¬yAe _;have hB:=HB.out;intro q;simp[yAe]at q hB;simp_all
   exact yGq
  ·exact yV3
 by_cases k5:kind=5
 ·subst k5;go_wp2_with fail;refine(yF4 ⟨5,s,hi,t,lo,up,n⟩ _).mono ?_;rintro r w1 ⟨b,rfl,hb,hb1⟩;have HB:Hid (b=true↔(hi=false∧t.toList= []∧lo=0∧up=0∧n=0)):=hb;have d0:=(HW0.1.below hb1).cell (j:=0) rfl;have d1:=(HW0.1.below hb1).cell (j:=1) rfl;have d2:=(HW0.1.below hb1).cell (j:=2) rfl;have d3:=(HW0.1.below hb1).cell (j:=3) rfl;have d4:=(HW0.1.below hb1).cell (j:=4) rfl;have d5:=(HW0.1.below hb1).cell (j:=5) rfl;have d6:=(HW0.1.below hb1).cell (j:=6) rfl;clear hb;cases b
  ·have HF:Hid (¬yAe ⟨5,s,hi,t,lo,up,n⟩):=by show¬yAe _;have hB:=HB.out;intro q;simp[yAe]at q hB;simp_all
   exact yGq
  ·exact yV3
 by_cases k6:kind=6
 ·subst k6;go_wp2_with fail;refine(yF4 ⟨6,s,hi,t,lo,up,n⟩ _).mono ?_;rintro r w1 ⟨b,rfl,hb,hb1⟩;have HB:Hid (b=true↔(hi=false∧t.toList= []∧lo=0∧up=0∧n=0)):=hb;have d0:=(HW0.1.below hb1).cell (j:=0) rfl;have d1:=(HW0.1.below hb1).cell (j:=1) rfl;have d2:=(HW0.1.below hb1).cell (j:=2) rfl;have d3:=(HW0.1.below hb1).cell (j:=3) rfl;have d4:=(HW0.1.below hb1).cell (j:=4) rfl;have d5:=(HW0.1.below hb1).cell (j:=5) rfl;have d6:=(HW0.1.below hb1).cell (j:=6) rfl;clear hb;cases b
  ·have HF:Hid (¬yAe ⟨6,s,hi,t,lo,up,n⟩):=by show¬yAe _;have hB:=HB.out;intro q;simp[yAe]at q hB;simp_all
   exact yGq
  ·exact yV3
 by_cases k7:kind=7
 ·subst k7;go_wp2_with fail;refine(yF4 ⟨7,s,hi,t,lo,up,n⟩ _).mono ?_;rintro r w1 ⟨b,rfl,hb,hb1⟩;have HB:Hid (b=true↔(hi=false∧t.toList= []∧lo=0∧up=0∧n=0)):=hb;have d0:=(HW0.1.below hb1).cell (j:=0) rfl;have d1:=(HW0.1.below hb1).cell (j:=1) rfl;have d2:=(HW0.1.below hb1).cell (j:=2) rfl;have d3:=(HW0.1.below hb1).cell (j:=3) rfl;have d4:=(HW0.1.below hb1).cell (j:=4) rfl;have d5:=(HW0.1.below hb1).cell (j:=5) rfl;have d6:=(HW0.1.below hb1).cell (j:=6) rfl;clear hb;cases b
  ·have HF:Hid (¬yAe ⟨7,s,hi,t,lo,up,n⟩):=by show¬yAe _;have hB:=HB.out;intro q;simp[yAe]at q hB;simp_all
   exact yGq
  ·exact yV3
 by_cases k8:kind=8
 ·subst k8;go_wp2_with fail;refine(yKk ⟨8,s,hi,t,lo,up,n⟩ _).mono ?_;rintro r w1 ⟨b,rfl,hb,hb1⟩;have HB:Hid (b=true↔(lo=0∧up=0∧n=0)):=hb;have d0:=(HW0.1.below hb1).cell (j:=0) rfl;have d1:=(HW0.1.below hb1).cell (j:=1) rfl;have d2:=(HW0.1.below hb1).cell (j:=2) rfl;have d3:=(HW0.1.below hb1).cell (j:=3) rfl;have d4:=(HW0.1.below hb1).cell (j:=4) rfl;have d5:=(HW0.1.below hb1).cell (j:=5) rfl;have d6:=(HW0.1.below hb1).cell (j:=6) rfl;clear hb;cases b
  ·have HF:Hid (¬yAe ⟨8,s,hi,t,lo,up,n⟩):=by show¬yAe _;have hB:=HB.out;intro q;simp[yAe]at q hB;simp_all
   exact yGq
  ·have HF:Hid (yAe ⟨8,s,hi,t,lo,up,n⟩↔(hi=true→less s t)):=by show yAe _↔_;have hB:=HB.out;have hG:=HG.out;simp at hB;simp[yAe];simp_all
   cases hi
   ·exact yGq
   ·go_wp2_with fail;go_ret;exact⟨_,rfl,by simp[HF.out,less],HW0.2.trans (hb1.mono hbw)⟩
 by_cases k9:kind=9
 ·subst k9;go_wp2_with fail;refine(yKk ⟨9,s,hi,t,lo,up,n⟩ _).mono ?_;rintro r w1 ⟨b,rfl,hb,hb1⟩;have HB:Hid (b=true↔(lo=0∧up=0∧n=0)):=hb;have d0:=(HW0.1.below hb1).cell (j:=0) rfl;have d1:=(HW0.1.below hb1).cell (j:=1) rfl;have d2:=(HW0.1.below hb1).cell (j:=2) rfl;have d3:=(HW0.1.below hb1).cell (j:=3) rfl;have d4:=(HW0.1.below hb1).cell (j:=4) rfl;have d5:=(HW0.1.below hb1).cell (j:=5) rfl;have d6:=(HW0.1.below hb1).cell (j:=6) rfl;clear hb;cases b
  ·have HF:Hid (¬yAe ⟨9,s,hi,t,lo,up,n⟩):=by show¬yAe _;have hB:=HB.out;intro q;simp[yAe]at q hB;simp_all
   exact yGq
  ·have HF:Hid (yAe ⟨9,s,hi,t,lo,up,n⟩↔(hi=true→less s t)):=by show yAe _↔_;have hB:=HB.out;have hG:=HG.out;simp at hB;simp[yAe];simp_all
   cases hi
   ·exact yGq
   ·go_wp2_with fail;go_ret;exact⟨_,rfl,by simp[HF.out,less],HW0.2.trans (hb1.mono hbw)⟩
 by_cases k10:kind=10
 ·subst k10;go_wp2_with fail;refine(yS2 ⟨10,s,hi,t,lo,up,n⟩ _).mono ?_;rintro r w1 ⟨b,rfl,hb,hb1⟩;have HB:Hid (b=true↔(s.toList= []∧t.toList= []∧n=0)):=hb;have d0:=(HW0.1.below hb1).cell (j:=0) rfl;have d1:=(HW0.1.below hb1).cell (j:=1) rfl;have d2:=(HW0.1.below hb1).cell (j:=2) rfl;have d3:=(HW0.1.below hb1).cell (j:=3) rfl;have d4:=(HW0.1.below hb1).cell (j:=4) rfl;have d5:=(HW0.1.below hb1).cell (j:=5) rfl;have d6:=(HW0.1.below hb1).cell (j:=6) rfl;clear hb;cases b
  ·have HF:Hid (¬yAe ⟨10,s,hi,t,lo,up,n⟩):=by show¬yAe _;have hB:=HB.out;intro q;simp[yAe]at q hB;simp_all
   exact yGq
  ·have HF:Hid (yAe ⟨10,s,hi,t,lo,up,n⟩↔(hi=true→lo<up)):=by show yAe _↔_;have hB:=HB.out;have hG:=HG.out;simp at hB;simp[yAe];simp_all
   cases hi
   ·exact yGq
   ·exact yGq
 by_cases k11:kind=11
 ·subst k11;go_wp2_with fail;refine(yH7 ⟨11,s,hi,t,lo,up,n⟩ _).mono ?_;rintro r w1 ⟨b,rfl,hb,hb1⟩;have HB:Hid (b=true↔(s.toList= []∧hi=false∧t.toList= []∧lo=0∧up=0)):=hb;have d0:=(HW0.1.below hb1).cell (j:=0) rfl;have d1:=(HW0.1.below hb1).cell (j:=1) rfl;have d2:=(HW0.1.below hb1).cell (j:=2) rfl;have d3:=(HW0.1.below hb1).cell (j:=3) rfl;have d4:=(HW0.1.below hb1).cell (j:=4) rfl;have d5:=(HW0.1.below hb1).cell (j:=5) rfl;have d6:=(HW0.1.below hb1).cell (j:=6) rfl;clear hb;cases b
  ·have HF:Hid (¬yAe ⟨11,s,hi,t,lo,up,n⟩):=by show¬yAe _;have hB:=HB.out;intro q;simp[yAe]at q hB;simp_all
   exact yGq
  ·have HF:Hid (yAe ⟨11,s,hi,t,lo,up,n⟩↔(1≤n∧n≤1000)):=by show yAe _↔_;have hB:=HB.out;have hG:=HG.out;simp at hB;simp[yAe];simp_all
   by_cases h1:1≤n
   ·exact yRq
   ·exact yRq
 by_cases k12:kind=12
 ·subst k12;go_wp2_with fail;refine(yH7 ⟨12,s,hi,t,lo,up,n⟩ _).mono ?_;rintro r w1 ⟨b,rfl,hb,hb1⟩;have HB:Hid (b=true↔(s.toList= []∧hi=false∧t.toList= []∧lo=0∧up=0)):=hb;have d0:=(HW0.1.below hb1).cell (j:=0) rfl;have d1:=(HW0.1.below hb1).cell (j:=1) rfl;have d2:=(HW0.1.below hb1).cell (j:=2) rfl;have d3:=(HW0.1.below hb1).cell (j:=3) rfl;have d4:=(HW0.1.below hb1).cell (j:=4) rfl;have d5:=(HW0.1.below hb1).cell (j:=5) rfl;have d6:=(HW0.1.below hb1).cell (j:=6) rfl;clear hb;cases b
  ·have HF:Hid (¬yAe ⟨12,s,hi,t,lo,up,n⟩):=by show¬yAe _;have hB:=HB.out;intro q;simp[yAe]at q hB;simp_all
   exact yGq
  ·have HF:Hid (yAe ⟨12,s,hi,t,lo,up,n⟩↔(1≤n∧n≤1000)):=by show yAe _↔_;have hB:=HB.out;have hG:=HG.out;simp at hB;simp[yAe];simp_all
   by_cases h1:1≤n
   ·exact yRq
   ·exact yRq
 by_cases k13:kind=13
 ·subst k13;go_wp2_with fail;refine(yH7 ⟨13,s,hi,t,lo,up,n⟩ _).mono ?_;rintro r w1 ⟨b,rfl,hb,hb1⟩;have HB:Hid (b=true↔(s.toList= []∧hi=false∧t.toList= []∧lo=0∧up=0)):=hb;have d0:=(HW0.1.below hb1).cell (j:=0) rfl;have d1:=(HW0.1.below hb1).cell (j:=1) rfl;have d2:=(HW0.1.below hb1).cell (j:=2) rfl;have d3:=(HW0.1.below hb1).cell (j:=3) rfl;have d4:=(HW0.1.below hb1).cell (j:=4) rfl;have d5:=(HW0.1.below hb1).cell (j:=5) rfl;have d6:=(HW0.1.below hb1).cell (j:=6) rfl;clear hb;cases b
  ·have HF:Hid (¬yAe ⟨13,s,hi,t,lo,up,n⟩):=by show¬yAe _;have hB:=HB.out;intro q;simp[yAe]at q hB;simp_all
   exact yGq
  ·have HF:Hid (yAe ⟨13,s,hi,t,lo,up,n⟩↔(1≤n∧n≤1000)):=by show yAe _↔_;have hB:=HB.out;have hG:=HG.out;simp at hB;simp[yAe];simp_all
   by_cases h1:1≤n
   ·exact yRq
   ·exact yRq
 by_cases k1:kind=1
 ·subst k1;go_wp2_with fail;refine(yDk ⟨1,s,hi,t,lo,up,n⟩ _).mono ?_;rintro r w1 ⟨b,rfl,hb,hb1⟩;have HB:Hid (b=true↔(s.toList= []∧hi=false∧t.toList= []∧lo=0∧up=0∧n=0)):=hb;have HF:Hid (b=true↔yAe ⟨1,s,hi,t,lo,up,n⟩):=by show b=true↔yAe _;have hB:=HB.out;have hG:=HG.out;rw[hB];simp[yAe];simp_all
  exact yRp
 by_cases k2:kind=2
 ·subst k2;go_wp2_with fail;refine(yDk ⟨2,s,hi,t,lo,up,n⟩ _).mono ?_;rintro r w1 ⟨b,rfl,hb,hb1⟩;have HB:Hid (b=true↔(s.toList= []∧hi=false∧t.toList= []∧lo=0∧up=0∧n=0)):=hb;have HF:Hid (b=true↔yAe ⟨2,s,hi,t,lo,up,n⟩):=by show b=true↔yAe _;have hB:=HB.out;have hG:=HG.out;rw[hB];simp[yAe];simp_all
  exact yRp
 by_cases k3:kind=3
 ·subst k3;go_wp2_with fail;refine(yDk ⟨3,s,hi,t,lo,up,n⟩ _).mono ?_;rintro r w1 ⟨b,rfl,hb,hb1⟩;have HB:Hid (b=true↔(s.toList= []∧hi=false∧t.toList= []∧lo=0∧up=0∧n=0)):=hb;have HF:Hid (b=true↔yAe ⟨3,s,hi,t,lo,up,n⟩):=by show b=true↔yAe _;have hB:=HB.out;have hG:=HG.out;rw[hB];simp[yAe];simp_all
  exact yRp
 by_cases k14:kind=14
 ·subst k14;go_wp2_with fail;refine(yDk ⟨14,s,hi,t,lo,up,n⟩ _).mono ?_;rintro r w1 ⟨b,rfl,hb,hb1⟩;have HB:Hid (b=true↔(s.toList= []∧hi=false∧t.toList= []∧lo=0∧up=0∧n=0)):=hb;have HF:Hid (b=true↔yAe ⟨14,s,hi,t,lo,up,n⟩):=by show b=true↔yAe _;have hB:=HB.out;have hG:=HG.out;rw[hB];simp[yAe];simp_all
  exact yRp
 by_cases k15:kind=15
 ·subst k15;go_wp2_with fail;refine(yDk ⟨15,s,hi,t,lo,up,n⟩ _).mono ?_;rintro r w1 ⟨b,rfl,hb,hb1⟩;have HB:Hid (b=true↔(s.toList= []∧hi=false∧t.toList= []∧lo=0∧up=0∧n=0)):=hb;have HF:Hid (b=true↔yAe ⟨15,s,hi,t,lo,up,n⟩):=by show b=true↔yAe _;have hB:=HB.out;have hG:=HG.out;rw[hB];simp[yAe];simp_all
  exact yRp
 by_cases k16:kind=16
 ·subst k16;go_wp2_with fail;refine(yDk ⟨16,s,hi,t,lo,up,n⟩ _).mono ?_;rintro r w1 ⟨b,rfl,hb,hb1⟩;have HB:Hid (b=true↔(s.toList= []∧hi=false∧t.toList= []∧lo=0∧up=0∧n=0)):=hb;have HF:Hid (b=true↔yAe ⟨16,s,hi,t,lo,up,n⟩):=by show b=true↔yAe _;have hB:=HB.out;have hG:=HG.out;rw[hB];simp[yAe];simp_all
  exact yRp
 have HF:Hid (¬yAe ⟨kind,s,hi,t,lo,up,n⟩):=by show¬yAe _;simp only[yAe];rintro⟨_,_,_,q⟩;omega
 have hkk:¬(1≤kind∧kind≤16):=by omega
 by_cases k0:1≤kind
 ·have k17:¬kind≤16:=fun q=>hkk ⟨k0,q⟩;go_wp2_with fail;go_ret;exact⟨_,rfl,by simp[HF.out],HW0.2⟩
 ·go_wp2_with fail;go_ret;exact⟨_,rfl,by simp[HF.out],HW0.2⟩
theorem yD6 (k:Int) (w:World):Calls Tryz.prog 40 #[.int .i64 k] w fun e w'=>e=.returned (.int .i64 (yAk k:Int))∧w'=w:=by
 by_cases h14:k=14
 ·subst h14;exact yY
 by_cases h15:k=15
 ·subst h15;exact yY
 by_cases h16:k=16
 ·subst h16;exact yY
 have z14:(k==14)=false:=by simpa using h14
 have z15:(k==15)=false:=by simpa using h15
 have z16:(k==16)=false:=by simpa using h16
 have H:Hid (yAk k=0):=by show yAk k=0;unfold yAk;rw[if_neg (by omega),if_neg h16]
 go_enter Tryz.func40,Tryz.ntmps40;go_wp2_with fail;go_ret;exact⟨by rw[H.out];rfl,rfl⟩
theorem yJy (k:Int) (w:World):Calls Tryz.prog 121 #[.int .i64 k] w fun e w'=>e=.returned (.int .i64 (yB0 k:Int))∧w'=w:=by
 by_cases h15:k=15
 ·subst h15;go_enter Tryz.func121,Tryz.ntmps121;go_wp2_with fail;go_ret;exact⟨rfl,rfl⟩
 by_cases h14:k=14
 ·subst h14;go_enter Tryz.func121,Tryz.ntmps121;go_wp2_with fail;go_ret;exact⟨rfl,rfl⟩
 have z14:(k==14)=false:=by simpa using h14
 have z15:(k==15)=false:=by simpa using h15
 have H:Hid (yB0 k=3):=by show yB0 k=3;unfold yB0;rw[if_neg h15,if_neg h14]
 go_enter Tryz.func121,Tryz.ntmps121;go_wp2_with fail;go_ret;exact⟨by rw[H.out];rfl,rfl⟩
theorem yKy (op:Int) (i:Nat) (kid:Int) (w:World) (hop:¬op=16):Calls Tryz.prog 92 #[.int .i64 op,.int .i64 (i:Int),.int .i64 kid] w fun e w'=>e=.returned (.bool (yBs op i kid))∧w'=w:=by
 have zop:(op==16)=false:=by simpa using hop
 by_cases hi:i=0
 ·subst hi;have HL:Hid (yBs op 0 kid=decide (yB0 kid<yB0 op)):=by show yBs op 0 kid=_;unfold yBs;simp[hop]
  exact zzQ85
 ·have zi:((i:Int)==0)=false:=by simpa using hi
  have HL:Hid (yBs op i kid=decide (yB0 kid≤yB0 op)):=by show yBs op i kid=_;unfold yBs;simp[hop,hi]
  exact zzQ85
structure Win (w:World) (b off cap:Nat) (xs:List Nd):Prop where
 at_:yAy w b off xs
 lt:b<w.heap.size
 len:xs.length≤cap
 cap:cap≤9223372036854775807
 sm:xs.length≤281474976710656
variable {b cap:Nat} {xs:List Nd}
theorem Win.below {off:Nat} (h:Win w b off cap xs) (hb:Below w.heap.size w w'):Win w' b off cap xs:=
 ⟨h.at_.below hb h.lt,by have:=hb.size;have:=h.lt;omega,h.len,h.cap,h.sm⟩
theorem Win.kind {off:Nat} (h:Win w b off cap xs) (he:xs[i]?=some e):w.cell? ⟨b,off+i*7,none⟩=some (.int .i64 e.kind):=(h.at_ i e he).1
theorem yDi {off:Nat} (h:Win w b off cap (xs++ [e])):Calls Tryz.prog 90 #[.slice (some ⟨b,off,none⟩) (xs.length+1) cap] w fun r w'=>r=.returned (.int .i64 e.kind)∧w'=w:=by have hk:=h.kind (i:=xs.length) (e:=e) (by simp);obtain⟨n,hn⟩:=qE xs.length;have h1:=h.len;have h2:=h.cap;rw[List.length_append,List.length_singleton]at h1;rw[←hn]at hk h1⊢;clear h hn;go_enter Tryz.func90,Tryz.ntmps90;go_wp2_with fail;go_ret;exact⟨rfl,rfl⟩
def yRl (xs:List Nd) (w:World) (r:Ending) (w':World):Prop:=w'=w∧((∃i:Nat,r=.returned (.int .i64 (i:Int))∧i≤xs.length∧IsT 1 (xs.drop i))∨(r=.returned (.int .i64 (-1))∧∀j,j≤xs.length→¬IsT 1 (xs.drop j)))
theorem yJz {off:Nat} (h:Win w b off cap xs):Calls Tryz.prog 89 #[.slice (some ⟨b,off,none⟩) xs.length cap] w (yRl xs w):=by
 have HW:Hid (Win w b off cap xs):=h;have h1:=h.len;have h2:=h.cap;have h3:=h.sm;obtain⟨n,hn⟩:=qE xs.length;have HN:Hid (n=xs.length):=hn;rw[←hn]at h1 h3⊢;clear h hn;go_enter Tryz.func89,Tryz.ntmps89;go_wp2_with fail;go_loopw[3,4] (fun nv iv wr=>∃(i m:Nat),iv=.int .i64 (i:Int)∧nv=.int .i64 (m:Int)∧i≤n∧m≤1+3*(n-i)∧Sc m (xs.drop i)∧wr=w) (fun _ iv _=>(intOf iv).toNat);case atStart=>exact⟨n,1,rfl,rfl,Nat.le_refl _,by omega,by rw[HN.out,List.drop_length];exact .nil,rfl⟩
 case round=>
  obtain⟨i,m,rfl,rfl,hi,hm,hS,rfl⟩:=hrel;have HS:Hid (Sc m (xs.drop i)):=hS;clear hS;by_cases hm0:m=0
  ·subst hm0;go_wp2_with fail;go_ret;refine⟨rfl,.inl ⟨i,rfl,by have:=HN.out;omega,?_⟩⟩;have:=HS.tree (pre:= []);exact this.1 .nil
  ·obtain⟨m',rfl⟩:∃m',m=m'+1:=⟨m-1,by omega⟩;have zm:(0:Int)<(m':Int)+1:=by omega
   by_cases hi0:i=0
   ·subst hi0;go_wp2_with fail;go_ret;exact⟨rfl,.inr ⟨rfl,fun j hj=>yYz HS.out j (Nat.zero_le _) hj⟩⟩
   ·obtain⟨i',rfl⟩:∃i',i=i'+1:=⟨i-1,by omega⟩;obtain⟨e,he⟩:∃e,xs[i']?=some e:=⟨_,List.getElem?_eq_getElem (by have:=HN.out;omega)⟩;have hk:=HW.kind he;have hlt:i'<xs.length:=by have:=HN.out;omega
    have HS2:Hid (Sc (m'+yAk e.kind) (xs.drop i')):=by show Sc _ _;rw[List.drop_eq_getElem_cons hlt,show xs[i']=e from Option.some.inj ((List.getElem?_eq_getElem hlt).symm.trans he)];exact .cons e HS.out
    have ha:=yF5 e.kind;have zi:¬(i':Int)<0:=by omega
    clear he hlt;go_wp2_with fail;refine(yD6 e.kind _).mono ?_;rintro r w2 ⟨rfl,hw2⟩;rw[hw2];clear hw2;go_wp2_with fail;go_roundw;case rel=>exact⟨i',m'+yAk e.kind,by go_num,by go_num,by omega,by omega,HS2.out,by first|rfl|trivial⟩
    case measure=>simp[intOf]<;>omega
theorem yPj {off:Nat} (h:Win w b off cap xs):Calls Tryz.prog 48 #[.slice (some ⟨b,off,none⟩) xs.length cap] w fun r w'=>w'=w∧((r=.returned (.bool true)∧IsT 1 xs)∨(r=.returned (.bool false)∧¬IsT 1 xs)):=by
 have HW:Hid (Win w b off cap xs):=h;have h1:=h.len;have h2:=h.cap;have h3:=h.sm;obtain⟨n,hn⟩:=qE xs.length;have HN:Hid (n=xs.length):=hn;have HF:Hid (Calls Tryz.prog 89 #[.slice (some ⟨b,off,none⟩) n cap] w (yRl xs w)):=by rw[hn];exact yJz h
 rw[←hn]at h1 h3⊢;clear h hn;by_cases hn0:n=0
 ·subst hn0;have HE:Hid (¬IsT 1 xs):=fun q=>by have:=q.len;have:=HN.out;omega
  go_enter Tryz.func48,Tryz.ntmps48;go_wp2_with fail;go_ret;exact⟨rfl,.inr ⟨rfl,HE.out⟩⟩
 ·have zn:(0:Int)<(n:Int):=by omega
  go_enter Tryz.func48,Tryz.ntmps48;go_wp2_with fail;refine HF.mono ?_;rintro r w2 ⟨hw2,(⟨i,rfl,hi,hT⟩|⟨rfl,hT⟩)⟩
  ·rw[hw2];clear hw2;have HT:Hid (i≤xs.length∧IsT 1 (xs.drop i)):=⟨hi,hT⟩;clear hi hT;by_cases hi0:i=0
   ·subst hi0;go_wp2_with fail;go_ret;exact⟨rfl,.inl ⟨rfl,by simpa using HT.2⟩⟩
   ·have zi:((i:Int)==0)=false:=by simpa using hi0
    go_wp2_with fail;go_ret;refine⟨rfl,.inr ⟨rfl,fun q=>hi0 ?_⟩⟩;exact(yLw (xs:=xs) (i:=0) (j:=i) (by simpa using q) HT.2 (Nat.zero_le _) HT.1).symm
  ·rw[hw2];clear hw2;have HT:Hid (¬IsT 1 xs):=fun q=>hT 0 (Nat.zero_le _) (by simpa using q);clear hT;go_wp2_with fail;go_ret;exact⟨rfl,.inr ⟨rfl,HT.out⟩⟩
def OwnV (w:World) (base g cp:Nat) (us:List Value):Prop:=w.ownsRow base 30 1 (.slice (some ⟨g,0,none⟩) us.length cp) us.length us
theorem OwnV.lt {g:Nat} (h:OwnV w base g cp us):base≤g∧g<w.heap.size:=World.ownsRow.lt h g rfl
theorem OwnV.below {g:Nat} (h:OwnV w base g cp us) (hb:Below w.heap.size w w'):OwnV w' base g cp us:=yAp h (Chg.of_below hb) (S:=fun _=>False) (fun k q z=>z)
theorem OwnV.cell {g:Nat} (h:OwnV w base g cp us) {v:Value} (hv:us[j]?=some v):w.cell? ⟨g,j,none⟩=some v:=by have hj:=(List.getElem?_eq_some_iff.1 hv).1;rw[World.ownsRow.cellAt h j (by omega),hv]
theorem OwnV.caps {g:Nat} (h:OwnV w base g cp us):us.length≤cp∧cp≤maxLen:=by exact yRt
theorem yQw (w:World) (hb:base≤w.heap.size):OwnV (w.alloc (Obj.cells #[] 30)) base w.heap.size 0 []:=
 World.ownsRow_made w #[] 0 hb (Nat.zero_le _) (by simp)
theorem yWq (w:World) (hb:base≤w.heap.size) (v:Value):OwnV (w.alloc (Obj.cells #[v] 30)) base w.heap.size 1 [v]:=
 World.ownsRow_lit w #[v] 1 hb (by decide) rfl
theorem Tryz.infoNds:(Tryz.prog.info? 30).map (fun i=>(i.zero,i.size,i.bytes))=some (some (.slice none 0 0),1,24):=by kernel_rfl
theorem yEi {ops:Array Oper} {rest:List Oper} {oo:Oper} {a:Act} {Q:Exit→Act→World→Prop} (w:World) (hgd:oo.guard=none) (s x:Operand)
  (ho:oo.op=.call {callee:=.builtin .append,args:=#[s,x],argTypes:=#[124,124]})
  (base gq cp n b m cx:Nat) (us vs:List Value) (hs:a.eval s=.slice (some ⟨gq,0,none⟩) n cp) (hx:a.eval x=.slice (some ⟨b,0,none⟩) m cx) (hn:n=us.length) (hm:m=vs.length) (hO:OwnV w base gq cp us)
  (hc:∀(j:Nat) v,vs[j]?=some v→w.cell? ⟨b,j,none⟩=some v) (hy:∀v∈vs,v.oneCell'=true) (hlen:us.length+vs.length≤1000) (hbase:base≤w.heap.size)
  (h:∀g' cp' w',OwnV w' base g' cp' (us++vs)→w.grownBy w' (some gq)→(g'=gq∨g'=w.heap.size)→wpList Tryz.prog ops Q rest (a.put oo.dst (.slice (some ⟨g',0,none⟩) (n+m) cp')) w'):wpList Tryz.prog ops Q (oo::rest) a w:=by
 subst hn hm;obtain⟨i,hi,hz0,hz1,hz2⟩:=info_parts Tryz.infoNds;refine wpList_append_own_at w hgd s x 124 ho base 30 i _ 1 24 Tryz.underlying124 hi hz0 hz1 hz2 rfl (by decide) (.slice (some ⟨gq,0,none⟩) us.length cp) us.length us hs hO ⟨b,0,none⟩ vs.length cx vs hx (by simp) ?_ hy ?_ ?_ hbase ?_
 ·intro j u hu;rw[Addr.add_mid,Nat.zero_add];exact hc j u hu
 ·unfold maxLen;omega
 ·omega
 ·intro v' w' hO' hgr hnil hat;rcases hO'.2 with⟨h0,_⟩|⟨g',cap',cur,hv,_,_,hn,hcap,_,_⟩
  ·have:=(hnil.1 h0).1;cases this
  ·subst hv;refine h g' cap' w' ?_ hgr ?_
   ·unfold OwnV;rw[List.length_append];exact hO'
   ·simp[Value.ownBlock]at hat;exact hat
def yE9 (b:Nat):Nat→Nat→List (List Nd)→List Value
 |_,_,[]=> []
 |o,cap,k::ks=>.slice (some ⟨b,o,none⟩) k.length cap::yE9 b (o+k.length*7) (cap-k.length) ks
theorem yJ0 (b:Nat):∀(o cap:Nat) (ks:List (List Nd)),(yE9 b o cap ks).length=ks.length
 |_,_,[]=>rfl
 |o,cap,k::ks=>by simp[yE9,yJ0]
theorem yNz (b:Nat):∀(o cap:Nat) (ks:List (List Nd)),∀v∈yE9 b o cap ks,v.oneCell'=true
 |_,_,[],v,h=>by cases h
 |o,cap,k::ks,v,h=>by
  rcases List.mem_cons.1 h with rfl|h
  ·rfl
  ·exact yNz b _ _ ks v h
theorem yAy.part {ys:List Nd} (h:yAy w b o (xs++ys)):yAy w b o xs∧yAy w b (o+xs.length*7) ys:=by refine⟨fun i e he=>h i e (by rw[List.getElem?_append_left (List.getElem?_eq_some_iff.1 he).1];exact he),fun i e he=>?_⟩;have:=h (xs.length+i) e (by rw[List.getElem?_append_right (by omega),Nat.add_sub_cancel_left];exact he);rw[Nat.add_mul,←Nat.add_assoc]at this;exact this
theorem yCr:∀{ks:List (List Nd)} {o cap:Nat} {rest:List Nd},Win w b o cap (ks.flatten++rest)→∀{j:Nat} {k:List Nd},ks[j]?=some k→∃o' cap',(yE9 b o cap ks)[j]?=some (.slice (some ⟨b,o',none⟩) k.length cap')∧Win w b o' cap' k
 | [],_,_,_,_,j,k,h=>by simp at h
 |a::ks,o,cap,rest,hW,j,k,h=>by
  simp only[List.flatten_cons,List.append_assoc]at hW
  have hp:=hW.at_.part
  have hl:=hW.len
  have hc:=hW.cap
  have hs:=hW.sm
  simp only[List.length_append]at hl hs
  cases j with
  |zero=>
   simp at h
   subst h
   exact⟨o,cap,rfl,hp.1,hW.lt,by omega,hc,by omega⟩
  |succ j=>
   simp at h
   exact yCr (ks:=ks) (o:=o+a.length*7) (cap:=cap-a.length) (rest:=rest) ⟨hp.2,hW.lt,by simp only[List.length_append];omega,by omega,by simp only[List.length_append];omega⟩ h
structure KiJ (w:World) (b o cap:Nat) (pre suf:List (List Nd)) (g cp:Nat) (wr:World):Prop where
 own:OwnV wr w.heap.size g cp (yE9 b (o+pre.flatten.length*7) (cap-pre.flatten.length) suf)
 below:Below w.heap.size w wr
theorem yDq {ks:List (List Nd)} (h:Win w b o cap (ks.flatten++ [e])) (hk:ks.length=yAk e.kind) (hT:∀k∈ks,IsT 1 k):
  Calls Tryz.prog 91 #[.slice (some ⟨b,o,none⟩) (ks.flatten.length+1) cap] w fun r w'=>∃g cp,r=.returned (.slice (some ⟨g,0,none⟩) ks.length cp)∧OwnV w' w.heap.size g cp (yE9 b o cap ks)∧Below w.heap.size w w':=by
 have HW:Hid (Win w b o cap (ks.flatten++ [e])∧∀k∈ks,IsT 1 k):=⟨h,hT⟩;have hkind:=h.kind (i:=ks.flatten.length) (e:=e) (by simp);have h1:=h.len;have h2:=h.cap;have h3:=h.sm;obtain⟨n,hn⟩:=qE ks.flatten.length;have HN:Hid (n=ks.flatten.length):=hn;rw[List.length_append,List.length_singleton]at h1 h3;rw[←hn]at hkind h1 h3⊢;have ha:=yF5 e.kind;have HA:Hid (ks.length=yAk e.kind):=hk;obtain⟨W0,hW0⟩:=qE (w.alloc (Obj.cells #[] 30):World);have HW0:Hid (KiJ w b o cap ks [] w.heap.size 0 W0):=by rw[hW0];exact⟨yQw w (Nat.le_refl _),qB⟩
 have hkind0:W0.cell? ⟨b,o+n*7,none⟩=some (.int .i64 e.kind):=by rw[(Chg.of_below HW0.below (S:=fun _=>False)).cell (p:=⟨b,o+n*7,none⟩) h.lt (fun q=>q)];exact hkind
 obtain⟨a,hak⟩:=qE (yAk e.kind);have HAr:Hid (Calls Tryz.prog 40 #[.int .i64 e.kind] W0 fun r w'=>r=.returned (.int .i64 (a:Int))∧w'=W0):=by rw[hak];exact yD6 e.kind W0
 have HAk:Hid (ks.length=a):=by rw[hak];exact hk
 rw[hk,←hak];rw[←hak]at ha;clear h hn hT hk hkind HA hak;go_enter Tryz.func91,Tryz.ntmps91;go_upto_region 3 with fail;rw[←hW0];clear hW0;go_wp2_with fail;refine HAr.mono ?_;rintro r w1 ⟨rfl,hw1⟩;rw[hw1];clear hw1 hkind0 HAr;go_wp2_with fail;go_loopw[3,4,5] (fun rv ov kv wr=>∃(c m g cp:Nat) (pre suf:List (List Nd)),ks=pre++suf∧pre.length=c∧suf.length+c=a∧m=pre.flatten.length∧m≤n∧kv=.int .i64 (c:Int)∧rv=.slice (some ⟨b,o,none⟩) m cap∧ov=.slice (some ⟨g,0,none⟩) suf.length cp∧KiJ w b o cap pre suf g cp wr) (fun _ _ kv _=>(intOf kv).toNat);case atStart=>exact⟨a,n,_,0,ks,[],by simp,HAk.out,by simp,HN.out,Nat.le_refl _,rfl,rfl,rfl,HW0.out⟩
 case round=>
  obtain⟨c,m,g,cp,pre,suf,hks,hpl,hsl,hm,hmn,rfl,rfl,rfl,hJ⟩:=hrel;have HJ:Hid (KiJ w b o cap pre suf g cp wr∧ks=pre++suf∧m=pre.flatten.length∧pre.length=c):=⟨hJ,hks,hm,hpl⟩;have hgl:=hJ.own.lt;have hsz:=hJ.below.size;clear hJ hks hm hpl HW0;obtain⟨q,hq⟩:=qE suf.length;have HQ:Hid (q=suf.length):=hq;rw[←hq]at hsl⊢;clear hq;by_cases hc0:c=0
  ·subst hc0;have HF:Hid (pre= []∧q=a):=⟨List.length_eq_zero_iff.1 HJ.2.2.2,by omega⟩;go_wp2_with fail;go_ret;have hp:=HF.1;have hj:=HJ.1.own;have hs:=HJ.2.1;rw[hp]at hj hs;simp at hj hs;refine⟨g,cp,by rw[←HF.2];rfl,by rw[hs];exact hj,HJ.1.below⟩
  ·obtain⟨c',rfl⟩:∃c',c=c'+1:=⟨c-1,by omega⟩;have zc:(0:Int)<(c':Int)+1:=by omega
   obtain⟨pre',k,hpre⟩:∃pre' k,pre=pre'++ [k]:=by
    rcases List.eq_nil_or_concat pre with h|⟨p',k,h⟩
    ·have:=HJ.2.2.2;rw[h]at this;simp at this
    ·exact⟨p',k,by rw[h,List.concat_eq_append]⟩
   obtain⟨m',hm'⟩:=qE pre'.flatten.length;have hmm:m=m'+k.length:=by rw[HJ.2.2.1,hpre,hm'];simp
   have hkT:IsT 1 k:=HW.2 k (by rw[HJ.2.1,hpre];simp);have hk1:=hkT.len;have hwin:Win wr b o cap pre.flatten:=by have hw:=HW.1;rw[HJ.2.1]at hw;simp only[List.flatten_append,List.append_assoc]at hw;have h8:=hw.len;have h9:=hw.sm;simp only[List.length_append]at h8 h9;exact Win.below ⟨hw.at_.part.1,hw.lt,by omega,hw.cap,by omega⟩ HJ.1.below
   have HC:Hid (Calls Tryz.prog 89 #[.slice (some ⟨b,o,none⟩) m cap] wr fun r w'=>r=.returned (.int .i64 (m':Int))∧w'=wr):=by
    have hf:=yJz hwin;rw[←HJ.2.2.1]at hf;refine hf.mono ?_;have hdrop:pre.flatten.drop m'=k:=by rw[hpre,hm'];simp
    rintro r w2 ⟨hw2,(⟨i,rfl,hi,hTi⟩|⟨rfl,hTi⟩)⟩
    ·refine⟨?_,hw2⟩;have hml:m'≤pre.flatten.length:=by rw[hpre,hm'];simp
     have:i=m':=by
      rcases Nat.le_total i m' with hle|hle
      ·exact yLw hTi (by rw[hdrop];exact hkT) hle hml
      ·exact(yLw (by rw[hdrop];exact hkT) hTi hle hi).symm
     rw[this]
    ·exact absurd (by rw[hdrop];exact hkT) (hTi m' (by rw[hpre,hm'];simp))
   have HP:Hid (pre=pre'++ [k]∧m'=pre'.flatten.length∧IsT 1 k∧m=m'+k.length):=⟨hpre,hm',hkT,hmm⟩;have hmle:m'≤m:=by omega
   have z1:(m':Int)≤(m:Int):=by omega
   have z2:(m:Int)≤(cap:Int):=by omega
   have z3:(m':Int)≤(cap:Int):=by omega
   clear hwin hkT hpre hm' hmm hk1;go_wp2_with fail;refine HC.mono ?_;rintro r w2 ⟨rfl,hw2⟩;rw[hw2];clear hw2 HC;obtain⟨W5,hW5⟩:=qE (wr.alloc (Obj.cells #[.slice (some ⟨b,o+m'*7,none⟩) (m-m') (cap-m')] 30):World);have hb5:Below wr.heap.size wr W5:=by rw[hW5];exact qB
   have hz5:W5.heap.size=wr.heap.size+1:=by rw[hW5];simp
   have HW5:Hid (OwnV W5 w.heap.size wr.heap.size 1 [.slice (some ⟨b,o+m'*7,none⟩) (m-m') (cap-m')]∧OwnV W5 w.heap.size g cp (yE9 b (o+pre.flatten.length*7) (cap-pre.flatten.length) suf)∧Below w.heap.size w W5):=by refine⟨?_,HJ.1.own.below hb5,HJ.1.below.trans (hb5.mono hsz)⟩;rw[hW5];exact yWq wr hsz _
   go_wp2_with (at_builtin;rw[←hW5];refine yEi _ rfl _ _ rfl w.heap.size wr.heap.size 1 1 g q cp [.slice (some ⟨b,o+m'*7,none⟩) (m-m') (cap-m')] (yE9 b (o+pre.flatten.length*7) (cap-pre.flatten.length) suf) rfl rfl rfl ?hm ?hO ?hc ?hy ?hl ?hb ?_);case hm=>rw[yJ0];exact HQ.out
   case hO=>exact HW5.1
   case hc=>exact fun j v hv=>HW5.2.1.cell hv
   case hy=>exact yNz _ _ _ _
   case hl=>rw[yJ0,←HQ.out];simp;omega
   case hb=>omega
   intro g' cp' w' hO' hgr hat;rw[←hW5]at hgr;have HJ6:Hid (KiJ w b o cap pre' (k::suf) g' cp' w'∧ks=pre'++(k::suf)∧pre'.length=c'∧(k::suf).length=q+1):=by
    have hP:=HP.out;refine⟨⟨?_,HW5.2.2.grown hgr (by omega) (fun j hj=>by cases hj;omega)⟩,by rw[HJ.2.1,hP.1];simp,?_,by rw[HQ.out];rfl⟩
    ·have e1:(List.map List.length pre).sum=m'+k.length:=by rw[←List.length_flatten,←HJ.2.2.1];exact hP.2.2.2
     rw[e1]at hO';have e2:m-m'=k.length:=by omega
     rw[e2]at hO';have e3:o+(m'+k.length)*7=o+m'*7+k.length*7:=by omega
     have e4:cap-(m'+k.length)=cap-m'-k.length:=by omega
     rw[e3,e4]at hO';rw[←hP.2.1];exact hO'
    ·have:=HJ.2.2.2;rw[hP.1]at this;simpa using this
   clear hO' hgr hat hW5 hb5;go_wp2_with fail;go_roundw;case rel=>exact⟨c',m',g',cp',pre',k::suf,HJ6.2.1,HJ6.2.2.1,by have:=HJ6.2.2.2;omega,HP.2.1,by omega,by go_num,rfl,by rw[HJ6.2.2.2];go_num,HJ6.1⟩
   case measure=>simp[intOf]<;>omega
end Go.Proofs.YtkidabedcgngcaaGreatDoor
