import Derived.Test.YtgnpcenpcmdlfaaGreatDoorTkAA
import Derived.Test.YtgnpcenpcmdlfaaGreatDoorTkAB
import Derived.Deep.RegionLaw
import Derived.Deep.AppendLies
import Derived.Maps.AppendAt
import Derived.Recover
import Derived.RecoverIn
import Derived.Stop.Asserts
import Derived.Deep.DeepCutAuto
namespace Go.Proofs.YtgnpcenpcmdlfaaGreatDoor
open Go.ChangeShapes Go.WideShapes Go.ChangeAt Go.RowKit Go.Deep
set_option linter.unusedVariables false
set_option linter.unusedSimpArgs false
set_option maxRecDepth 100000
set_option maxHeartbeats 32000000
def wsF:List ByteArray:= [⟨#[102]⟩,⟨#[103]⟩,⟨#[102,124,103]⟩,⟨#[104,46,42]⟩,⟨#[46]⟩]
abbrev ndK (k:Int):Nd:=⟨k,⟨#[]⟩,false,⟨#[]⟩,0,0,0⟩
def rngF (xs:List Int) (k:Int) (u:Dst):Nd×Dst:=
 if((belF xs 2 (yB7 xs 0 2 u).2).1==0)=true then(⟨k,(yB7 xs 0 2 u).1,true,(yB7 xs 0 2 u).1++(yB7 xs 1 2 (belF xs 2 (yB7 xs 0 2 u).2).2).1,0,0,0⟩,(yB7 xs 1 2 (belF xs 2 (yB7 xs 0 2 u).2).2).2)
 else(⟨k,(yB7 xs 0 2 u).1,false,⟨#[]⟩,0,0,0⟩,(belF xs 2 (yB7 xs 0 2 u).2).2)
def tsF (xs:List Int) (u:Dst):Nd×Dst:=
 if((belF xs 2 (belF xs 4 u).2).1==0)=true then(⟨10,⟨#[]⟩,true,⟨#[]⟩,(belF xs 4 u).1,(belF xs 4 u).1+1+(belF xs 4 (belF xs 2 (belF xs 4 u).2).2).1,0⟩,(belF xs 4 (belF xs 2 (belF xs 4 u).2).2).2)
 else(⟨10,⟨#[]⟩,false,⟨#[]⟩,(belF xs 4 u).1,0,0⟩,(belF xs 2 (belF xs 4 u).2).2)
def yDq (xs:List Int) (k:Int) (u:Dst):Nd×Dst:=
 if k=0 then(ndK 1,u)
 else if k=1 then(if((belF xs 2 u).1==0)=true then(ndK 3,(belF xs 2 u).2)else(ndK 2,(belF xs 2 u).2))
 else if k=2 then(⟨4,(patF xs u).1,false,⟨#[]⟩,0,0,0⟩,(patF xs u).2)
 else if k=3 then(⟨5,(yDo xs wsF (patF xs u).2).1,false,⟨#[]⟩,0,0,0⟩,(yDo xs wsF (patF xs u).2).2)
 else if k=4 then(⟨6,(patF xs u).1,false,⟨#[]⟩,0,0,0⟩,(patF xs u).2)
 else if k=5 then(⟨7,(patF xs u).1,false,⟨#[]⟩,0,0,0⟩,(patF xs u).2)
 else if k=6 then rngF xs 8 u
 else if k=7 then rngF xs 9 u
 else if k=8 then rngF xs 9 u
 else if k=9 then tsF xs u
 else if k=10 then tsF xs u
 else if k=11 then(⟨11,⟨#[]⟩,false,⟨#[]⟩,0,0,1+(belF xs 2 u).1⟩,(belF xs 2 u).2)
 else if k=12 then(⟨11,⟨#[]⟩,false,⟨#[]⟩,0,0,1+(belF xs 2 u).1⟩,(belF xs 2 u).2)
 else if k=13 then(⟨12,⟨#[]⟩,false,⟨#[]⟩,0,0,1+(belF xs 4 u).1⟩,(belF xs 4 u).2)
 else if k=14 then(⟨13,⟨#[]⟩,false,⟨#[]⟩,0,0,1+(belF xs 3 u).1⟩,(belF xs 3 u).2)
 else(ndK 1,u)
def yBl (xs:List Int) (s:Dst):Nd×Dst:=yDq xs (belF xs 16 s).1 (belF xs 16 s).2
variable {xs:List Int} {s:Dst} {base cb:Nat} {bv:Value} {w:World}
theorem yC6 (h:yA5 xs s base cb bv w) {m:Int} (hm:1≤m) (hm2:m≤1048576) {x:Int} {s':Dst} (he:belF xs m s=(x,s')) {b:Bool} (hb:(x==0)=b):
  Calls Tryz.prog 33 #[.pointer (some ⟨cb,0,none⟩),.int .i64 m] w fun e w'=>e=.returned (.bool b)∧yBq xs s' base cb bv w w':=by subst hb;exact yPd h hm hm2 he
structure NIf (xs:List Int) (s:Dst) (base cb:Nat) (bv:Value) (w:World) (eb rb:Nat) (f:Nd) (wr:World):Prop where
 e:yA wr w.heap.size 65 7 eb f.seven
 r:yA wr w.heap.size 65 7 rb yUc.seven
 ne:¬eb=rb
 d:yA5 xs s base cb bv wr
 c:Chg (fun k=>k=cb) w wr
 lt:cb<w.heap.size
 hb:base≤w.heap.size
 sm:f.small
variable {eb rb:Nat} {f:Nd}
theorem NIf.call {s1:Dst} {wr w1:World} (h:NIf xs s base cb bv w eb rb f wr) (hd:yBq xs s1 base cb bv wr w1):NIf xs s1 base cb bv w eb rb f w1:=
 ⟨h.e.chg hd.2 (by have:=h.e.lt.1;have:=h.lt;omega),h.r.chg hd.2 (by have:=h.r.lt.1;have:=h.lt;omega),h.ne,hd.1,h.c.trans hd.2,h.lt,h.hb,h.sm⟩
theorem NIf.drew {wr:World} (h:NIf xs s base cb bv w eb rb f wr):NIf xs s base cb bv w eb rb f wr.drew:=by have hd:Below wr.heap.size wr wr.drew:=(Below.refl _ _).drew;exact⟨h.e.below hd,h.r.below hd,h.ne,h.d.below hd,h.c.trans (Chg.of_below hd),h.lt,h.hb,h.sm⟩
theorem NIf.set {wr:World} (h:NIf xs s base cb bv w eb rb f wr) (j:Nat) (f':Nd) (u:Value) (hc:f'.seven=f.seven.set j u) (hs:f'.small):NIf xs s base cb bv w eb rb f' (wr.setCell ⟨eb,j,none⟩ u):=by have h1:=h.e.set j u;rw[←hc]at h1;have hl:=h.e.lt;have hcb:=h.lt;have hbb:=h.hb;have hcg:Chg (fun k=>k=eb) wr (wr.setCell ⟨eb,j,none⟩ u):=Chg.of_set _ _ _ _ rfl;refine⟨h1,h.r.chg hcg (fun q=>h.ne q.symm),h.ne,h.d.chg hcg (by omega) (fun k q=>by omega),?_,h.lt,h.hb,hs⟩;exact Chg.grown_new h.c (yEq wr eb j u) (fun k hk=>by cases hk;exact hl.1)
theorem NIf.alloc {wr:World} (h:NIf xs s base cb bv w eb rb f wr) (o:Obj):NIf xs s base cb bv w eb rb f (wr.alloc o):=by have hd:Below wr.heap.size wr (wr.alloc o):=qB;exact⟨h.e.below hd,h.r.below hd,h.ne,h.d.below hd,h.c.trans (Chg.of_below hd),h.lt,h.hb,h.sm⟩
def LefF (xs:List Int) (s:Dst) (base cb:Nat) (bv:Value) (w:World) (e:Ending) (w':World):Prop:=∃(f:Nd) (s':Dst),e=.returned f.v∧f.small∧yBl xs s=(f,s')∧yBq xs s' base cb bv w w'
theorem NIf.fin {s0:Dst} {wr:World} (h:NIf xs s base cb bv w eb rb f wr) (hl:yBl xs s0=(f,s)):yA (set7 wr rb f) w.heap.size 65 7 rb f.seven∧LefF xs s0 base cb bv w (.returned f.v) (set7 wr rb f):=by have hcg:Chg (fun k=>k=rb) wr (set7 wr rb f):=yWc wr rb f rfl;have hl2:=h.r.lt;have hcb:=h.lt;have hbb:=h.hb;refine⟨h.r.set7 f,f,s,rfl,h.sm,hl,h.d.chg hcg (by omega) (fun k q=>by omega),?_⟩;exact⟨hcg.os.trans h.c.os,hcg.tape.trans h.c.tape,hcg.output.trans h.c.output,Nat.le_trans h.c.size hcg.size,fun k hk hn=>(hcg.block k (Nat.lt_of_lt_of_le hk h.c.size) (by omega)).trans (h.c.block k hk hn)⟩
theorem yVj (xs:List Int) (s:Dst) (base cb:Nat) (bv:Value) (w:World) (h:yA5 xs s base cb bv w):
  Calls Tryz.prog 118 #[.pointer (some ⟨cb,0,none⟩)] w (LefF xs s base cb bv w):=by
 have hlt:=h.lt;have hbase:=h.base;obtain⟨Wa,hWa⟩:=qE (w.alloc (Obj.cells #[.int .i64 0,.string ⟨#[]⟩,.bool false,.string ⟨#[]⟩,.int .u64 0,.int .u64 0,.int .i64 0] 65):World);have hba:Below w.heap.size w Wa:=by rw[hWa];exact qB
 have HA:Hid (yA5 xs s base cb bv Wa∧yA Wa w.heap.size 65 7 w.heap.size yUc.seven∧Below w.heap.size w Wa):=⟨h.below hba,by rw[hWa];exact yAb w #[.int .i64 0,.string ⟨#[]⟩,.bool false,.string ⟨#[]⟩,.int .u64 0,.int .u64 0,.int .i64 0] (Nat.le_refl _) rfl,hba⟩;clear h hba;go_enter Tryz.func118,Tryz.ntmps118;go_wp2_with fail;rw[←hWa];clear hWa;obtain⟨x,u1,hxE⟩:∃x u1,belF xs 16 s=(x,u1):=⟨_,_,rfl⟩;obtain⟨hx0,hx1⟩:0≤x∧x<16:=by have h9:=yAm xs (m:=16) (by omega) s;rw[hxE]at h9;exact h9
 have HE1:Hid (belF xs 16 s=(x,u1)):=hxE;clear hxE;refine(yAr HA.1 (by omega) (by omega) HE1.out).mono ?_;rintro e w1 ⟨rfl,hd1⟩;obtain⟨eb,heb⟩:=qE w1.heap.size;obtain⟨W2,hW2⟩:=qE (w1.alloc (Obj.cells #[.int .i64 0,.string ⟨#[]⟩,.bool false,.string ⟨#[]⟩,.int .u64 0,.int .u64 0,.int .i64 0] 65):World);have H2:Hid (NIf xs u1 base cb bv w eb w.heap.size yUc W2):=by
  have hb2:Below w1.heap.size w1 W2:=by rw[hW2];exact qB
  have hb1:=HA.2.2;have hz:=hd1.2.size;have hz0:=HA.2.1.lt.2;have hr1:=HA.2.1.chg hd1.2 (by omega);refine⟨by rw[hW2,heb];exact yAb w1 #[.int .i64 0,.string ⟨#[]⟩,.bool false,.string ⟨#[]⟩,.int .u64 0,.int .u64 0,.int .i64 0] (by have:=hb1.size;omega) rfl,hr1.below hb2,by have:=hr1.lt.2;omega,hd1.1.below hb2,((Chg.of_below hb1).trans hd1.2).trans (Chg.of_below hb2),hlt.2,hbase,Nd.small_zero⟩
 clear hd1 HA;go_upto_region 3 with fail;rw[←hW2,←heb];clear hW2 heb;by_cases x0:x=0
 ·subst x0;have c2_0:=H2.e.cell (j:=0) rfl;have z2_0:=H2.e.frozen 0;obtain⟨W3,hW3⟩:=qE (W2.setCell ⟨eb,0,none⟩ (.int .i64 1):World);have H3:Hid (NIf xs u1 base cb bv w eb w.heap.size (⟨1,⟨#[]⟩,false,⟨#[]⟩,0,0,0⟩:Nd) W3):=by rw[hW3];exact H2.set 0 _ _ rfl ⟨H2.sm.s,H2.sm.t,H2.sm.lo,H2.sm.up,H2.sm.n,(by show(0:Int)≤1∧(1:Int)≤100000;omega)⟩
  go_upto_region 49 with fail;rw[←hW3];clear hW3;obtain⟨k0,k1,k2,k3,k4,k5,k6⟩:=H3.e.c7;obtain⟨l0,l1,l2,l3,l4,l5,l6⟩:=H3.r.c7;have lf:=H3.r.frozen;obtain⟨WF,hWF⟩:=qE (set7 W3 w.heap.size (⟨1,⟨#[]⟩,false,⟨#[]⟩,0,0,0⟩:Nd):World);have hfin:=H3.fin (s0:=s) (show yBl xs s=((⟨1,⟨#[]⟩,false,⟨#[]⟩,0,0,0⟩:Nd),u1)by simp[yBl,yDq,rngF,tsF,HE1.out]);rw[←hWF]at hfin;obtain⟨hB9,HR⟩:=hfin;obtain⟨p0,p1,p2,p3,p4,p5,p6⟩:=hB9.c7;have HRH:Hid (LefF xs s base cb bv w (.returned (Nd.v (⟨1,⟨#[]⟩,false,⟨#[]⟩,0,0,0⟩:Nd))) WF):=HR;exact zzQ8
 by_cases x1:x=1
 ·subst x1;have c2_0:=H2.e.cell (j:=0) rfl;have z2_0:=H2.e.frozen 0;obtain⟨W3,hW3⟩:=qE (W2.setCell ⟨eb,0,none⟩ (.int .i64 2):World);have H3:Hid (NIf xs u1 base cb bv w eb w.heap.size (⟨2,⟨#[]⟩,false,⟨#[]⟩,0,0,0⟩:Nd) W3):=by rw[hW3];exact H2.set 0 _ _ rfl ⟨H2.sm.s,H2.sm.t,H2.sm.lo,H2.sm.up,H2.sm.n,(by show(0:Int)≤2∧(2:Int)≤100000;omega)⟩
  go_upto_region 9 with fail;rw[←hW3];clear hW3;go_wp2_with fail;obtain⟨o1,u2,hoE⟩:∃o1 u2,belF xs 2 u1=(o1,u2):=⟨_,_,rfl⟩;obtain⟨v,hvE⟩:∃v,(o1==0)=v:=⟨_,rfl⟩;have HE2:Hid (belF xs 2 u1=(o1,u2)):=hoE;have HVHE2:Hid ((o1==0)=v):=hvE;clear hoE hvE;refine(yC6 H3.d (by omega) (by omega) HE2.out HVHE2.out).mono ?_;rintro e w4 ⟨rfl,hd⟩;have H4w:Hid (NIf xs u2 base cb bv w eb w.heap.size (⟨2,⟨#[]⟩,false,⟨#[]⟩,0,0,0⟩:Nd) w4):=H3.call hd;clear hd;rcases(show v=true∨v=false by cases v<;>simp)with rfl|rfl
  ·have c4_0:=H4w.e.cell (j:=0) rfl;have z4_0:=H4w.e.frozen 0;obtain⟨W5,hW5⟩:=qE (w4.setCell ⟨eb,0,none⟩ (.int .i64 3):World);have H5:Hid (NIf xs u2 base cb bv w eb w.heap.size (⟨3,⟨#[]⟩,false,⟨#[]⟩,0,0,0⟩:Nd) W5):=by rw[hW5];exact H4w.set 0 _ _ rfl ⟨H4w.sm.s,H4w.sm.t,H4w.sm.lo,H4w.sm.up,H4w.sm.n,(by show(0:Int)≤3∧(3:Int)≤100000;omega)⟩
   go_upto_region 49 with fail;rw[←hW5];clear hW5;obtain⟨k0,k1,k2,k3,k4,k5,k6⟩:=H5.e.c7;obtain⟨l0,l1,l2,l3,l4,l5,l6⟩:=H5.r.c7;have lf:=H5.r.frozen;obtain⟨WF,hWF⟩:=qE (set7 W5 w.heap.size (⟨3,⟨#[]⟩,false,⟨#[]⟩,0,0,0⟩:Nd):World);have hfin:=H5.fin (s0:=s) (show yBl xs s=((⟨3,⟨#[]⟩,false,⟨#[]⟩,0,0,0⟩:Nd),u2)by simp[yBl,yDq,rngF,tsF,HE1.out,HVHE2.out,HE2.out]);rw[←hWF]at hfin;obtain⟨hB9,HR⟩:=hfin;obtain⟨p0,p1,p2,p3,p4,p5,p6⟩:=hB9.c7;have HRH:Hid (LefF xs s base cb bv w (.returned (Nd.v (⟨3,⟨#[]⟩,false,⟨#[]⟩,0,0,0⟩:Nd))) WF):=HR;exact zzQ8
  ·go_upto_region 49 with fail;obtain⟨k0,k1,k2,k3,k4,k5,k6⟩:=H4w.e.c7;obtain⟨l0,l1,l2,l3,l4,l5,l6⟩:=H4w.r.c7;have lf:=H4w.r.frozen;obtain⟨WF,hWF⟩:=qE (set7 w4 w.heap.size (⟨2,⟨#[]⟩,false,⟨#[]⟩,0,0,0⟩:Nd):World);have hfin:=H4w.fin (s0:=s) (show yBl xs s=((⟨2,⟨#[]⟩,false,⟨#[]⟩,0,0,0⟩:Nd),u2)by simp[yBl,yDq,rngF,tsF,HE1.out,HVHE2.out,HE2.out]);rw[←hWF]at hfin;obtain⟨hB9,HR⟩:=hfin;obtain⟨p0,p1,p2,p3,p4,p5,p6⟩:=hB9.c7;have HRH:Hid (LefF xs s base cb bv w (.returned (Nd.v (⟨2,⟨#[]⟩,false,⟨#[]⟩,0,0,0⟩:Nd))) WF):=HR;exact zzQ8
 by_cases x2:x=2
 ·subst x2;have c2_0:=H2.e.cell (j:=0) rfl;have z2_0:=H2.e.frozen 0;obtain⟨W3,hW3⟩:=qE (W2.setCell ⟨eb,0,none⟩ (.int .i64 4):World);have H3:Hid (NIf xs u1 base cb bv w eb w.heap.size (⟨4,⟨#[]⟩,false,⟨#[]⟩,0,0,0⟩:Nd) W3):=by rw[hW3];exact H2.set 0 _ _ rfl ⟨H2.sm.s,H2.sm.t,H2.sm.lo,H2.sm.up,H2.sm.n,(by show(0:Int)≤4∧(4:Int)≤100000;omega)⟩
  go_upto_region 16 with fail;rw[←hW3];clear hW3;go_wp2_with fail;obtain⟨s1,u3,hsE⟩:∃s1 u3,patF xs u1=(s1,u3):=⟨_,_,rfl⟩;have hs1:s1.size≤40000:=by have h9:=yFo xs u1;rw[hsE]at h9;exact h9
  have HE3:Hid (patF xs u1=(s1,u3)):=hsE;clear hsE;refine(yEz H3.d HE3.out).mono ?_;rintro e w4 ⟨rfl,hd⟩;have H4w:Hid (NIf xs u3 base cb bv w eb w.heap.size (⟨4,⟨#[]⟩,false,⟨#[]⟩,0,0,0⟩:Nd) w4):=H3.call hd;clear hd;have c4_1:=H4w.e.cell (j:=1) rfl;have z4_1:=H4w.e.frozen 1;obtain⟨W5,hW5⟩:=qE (w4.setCell ⟨eb,1,none⟩ (.string s1):World);have H5:Hid (NIf xs u3 base cb bv w eb w.heap.size (⟨4,s1,false,⟨#[]⟩,0,0,0⟩:Nd) W5):=by rw[hW5];exact H4w.set 1 _ _ rfl ⟨(by show s1.size≤200000;omega),H4w.sm.t,H4w.sm.lo,H4w.sm.up,H4w.sm.n,H4w.sm.kind⟩
  go_upto_region 49 with fail;rw[←hW5];clear hW5;obtain⟨k0,k1,k2,k3,k4,k5,k6⟩:=H5.e.c7;obtain⟨l0,l1,l2,l3,l4,l5,l6⟩:=H5.r.c7;have lf:=H5.r.frozen;obtain⟨WF,hWF⟩:=qE (set7 W5 w.heap.size (⟨4,s1,false,⟨#[]⟩,0,0,0⟩:Nd):World);have hfin:=H5.fin (s0:=s) (show yBl xs s=((⟨4,s1,false,⟨#[]⟩,0,0,0⟩:Nd),u3)by simp[yBl,yDq,rngF,tsF,HE1.out,HE3.out]);rw[←hWF]at hfin;obtain⟨hB9,HR⟩:=hfin;obtain⟨p0,p1,p2,p3,p4,p5,p6⟩:=hB9.c7;have HRH:Hid (LefF xs s base cb bv w (.returned (Nd.v (⟨4,s1,false,⟨#[]⟩,0,0,0⟩:Nd))) WF):=HR;exact zzQ8
 by_cases x3:x=3
 ·subst x3;have c2_0:=H2.e.cell (j:=0) rfl;have z2_0:=H2.e.frozen 0;obtain⟨W3,hW3⟩:=qE (W2.setCell ⟨eb,0,none⟩ (.int .i64 5):World);have H3:Hid (NIf xs u1 base cb bv w eb w.heap.size (⟨5,⟨#[]⟩,false,⟨#[]⟩,0,0,0⟩:Nd) W3):=by rw[hW3];exact H2.set 0 _ _ rfl ⟨H2.sm.s,H2.sm.t,H2.sm.lo,H2.sm.up,H2.sm.n,(by show(0:Int)≤5∧(5:Int)≤100000;omega)⟩
  go_upto_region 16 with fail;rw[←hW3];clear hW3;go_wp2_with fail;obtain⟨s1,u4,hsE⟩:∃s1 u4,patF xs u1=(s1,u4):=⟨_,_,rfl⟩;have hs1:s1.size≤40000:=by have h9:=yFo xs u1;rw[hsE]at h9;exact h9
  have HE4:Hid (patF xs u1=(s1,u4)):=hsE;clear hsE;refine(yEz H3.d HE4.out).mono ?_;rintro e w4 ⟨rfl,hd⟩;have H4w:Hid (NIf xs u4 base cb bv w eb w.heap.size (⟨5,⟨#[]⟩,false,⟨#[]⟩,0,0,0⟩:Nd) w4):=H3.call hd;clear hd;have c4_1:=H4w.e.cell (j:=1) rfl;have z4_1:=H4w.e.frozen 1;obtain⟨W5,hW5⟩:=qE (w4.setCell ⟨eb,1,none⟩ (.string s1):World);have H5:Hid (NIf xs u4 base cb bv w eb w.heap.size (⟨5,s1,false,⟨#[]⟩,0,0,0⟩:Nd) W5):=by rw[hW5];exact H4w.set 1 _ _ rfl ⟨(by show s1.size≤200000;omega),H4w.sm.t,H4w.sm.lo,H4w.sm.up,H4w.sm.n,H4w.sm.kind⟩
  go_upto_region 18 with fail;rw[←hW5];clear hW5;go_wp2_with fail;obtain⟨hcl,hbl⟩:cb<W5.heap.size∧Below W5.heap.size W5 (W5.alloc (Obj.cells #[] 0)):=⟨H5.d.lt.2,qB⟩;obtain⟨s2,u5,hs2E⟩:∃s2 u5,yDo xs wsF u4=(s2,u5):=⟨_,_,rfl⟩;have hs2:s2.size≤10:=(show∀t∈wsF,t.size≤10 by decide) _ (by have h9:=yDn xs (ws:=wsF) (by decide) u4;rw[hs2E]at h9;exact h9);have HE5:Hid (yDo xs wsF u4=(s2,u5)):=hs2E;clear hs2E;refine(yJ (ws:=wsF) (H5.d.below (qB)) (by decide) (by decide) (by omega) (by simp) ?_ HE5.out).mono ?_
  ·intro k t ht;have hk:k<5:=(List.getElem?_eq_some_iff.1 ht).1;match k,hk,ht with
   |0,_,ht=>simp[wsF]at ht;subst ht;simp
   |1,_,ht=>simp[wsF]at ht;subst ht;simp
   |2,_,ht=>simp[wsF]at ht;subst ht;simp
   |3,_,ht=>simp[wsF]at ht;subst ht;simp
   |4,_,ht=>simp[wsF]at ht;subst ht;simp
  rintro e w6 ⟨rfl,hd⟩;have H6w:Hid (NIf xs u5 base cb bv w eb w.heap.size (⟨5,s1,false,⟨#[]⟩,0,0,0⟩:Nd) w6):=(H5.alloc _).call hd;clear hd hbl hcl;have c6_1:=H6w.e.cell (j:=1) rfl;have z6_1:=H6w.e.frozen 1;obtain⟨W7,hW7⟩:=qE (w6.setCell ⟨eb,1,none⟩ (.string s2):World);have H7:Hid (NIf xs u5 base cb bv w eb w.heap.size (⟨5,s2,false,⟨#[]⟩,0,0,0⟩:Nd) W7):=by rw[hW7];exact H6w.set 1 _ _ rfl ⟨(by show s2.size≤200000;omega),H6w.sm.t,H6w.sm.lo,H6w.sm.up,H6w.sm.n,H6w.sm.kind⟩
  go_upto_region 49 with fail;rw[←hW7];clear hW7;obtain⟨k0,k1,k2,k3,k4,k5,k6⟩:=H7.e.c7;obtain⟨l0,l1,l2,l3,l4,l5,l6⟩:=H7.r.c7;have lf:=H7.r.frozen;obtain⟨WF,hWF⟩:=qE (set7 W7 w.heap.size (⟨5,s2,false,⟨#[]⟩,0,0,0⟩:Nd):World);have hfin:=H7.fin (s0:=s) (show yBl xs s=((⟨5,s2,false,⟨#[]⟩,0,0,0⟩:Nd),u5)by simp[yBl,yDq,rngF,tsF,HE1.out,HE4.out,HE5.out]);rw[←hWF]at hfin;obtain⟨hB9,HR⟩:=hfin;obtain⟨p0,p1,p2,p3,p4,p5,p6⟩:=hB9.c7;have HRH:Hid (LefF xs s base cb bv w (.returned (Nd.v (⟨5,s2,false,⟨#[]⟩,0,0,0⟩:Nd))) WF):=HR;exact zzQ8
 by_cases x4:x=4
 ·subst x4;have c2_0:=H2.e.cell (j:=0) rfl;have z2_0:=H2.e.frozen 0;obtain⟨W3,hW3⟩:=qE (W2.setCell ⟨eb,0,none⟩ (.int .i64 6):World);have H3:Hid (NIf xs u1 base cb bv w eb w.heap.size (⟨6,⟨#[]⟩,false,⟨#[]⟩,0,0,0⟩:Nd) W3):=by rw[hW3];exact H2.set 0 _ _ rfl ⟨H2.sm.s,H2.sm.t,H2.sm.lo,H2.sm.up,H2.sm.n,(by show(0:Int)≤6∧(6:Int)≤100000;omega)⟩
  go_upto_region 16 with fail;rw[←hW3];clear hW3;go_wp2_with fail;obtain⟨s1,u6,hsE⟩:∃s1 u6,patF xs u1=(s1,u6):=⟨_,_,rfl⟩;have hs1:s1.size≤40000:=by have h9:=yFo xs u1;rw[hsE]at h9;exact h9
  have HE6:Hid (patF xs u1=(s1,u6)):=hsE;clear hsE;refine(yEz H3.d HE6.out).mono ?_;rintro e w4 ⟨rfl,hd⟩;have H4w:Hid (NIf xs u6 base cb bv w eb w.heap.size (⟨6,⟨#[]⟩,false,⟨#[]⟩,0,0,0⟩:Nd) w4):=H3.call hd;clear hd;have c4_1:=H4w.e.cell (j:=1) rfl;have z4_1:=H4w.e.frozen 1;obtain⟨W5,hW5⟩:=qE (w4.setCell ⟨eb,1,none⟩ (.string s1):World);have H5:Hid (NIf xs u6 base cb bv w eb w.heap.size (⟨6,s1,false,⟨#[]⟩,0,0,0⟩:Nd) W5):=by rw[hW5];exact H4w.set 1 _ _ rfl ⟨(by show s1.size≤200000;omega),H4w.sm.t,H4w.sm.lo,H4w.sm.up,H4w.sm.n,H4w.sm.kind⟩
  go_upto_region 49 with fail;rw[←hW5];clear hW5;obtain⟨k0,k1,k2,k3,k4,k5,k6⟩:=H5.e.c7;obtain⟨l0,l1,l2,l3,l4,l5,l6⟩:=H5.r.c7;have lf:=H5.r.frozen;obtain⟨WF,hWF⟩:=qE (set7 W5 w.heap.size (⟨6,s1,false,⟨#[]⟩,0,0,0⟩:Nd):World);have hfin:=H5.fin (s0:=s) (show yBl xs s=((⟨6,s1,false,⟨#[]⟩,0,0,0⟩:Nd),u6)by simp[yBl,yDq,rngF,tsF,HE1.out,HE6.out]);rw[←hWF]at hfin;obtain⟨hB9,HR⟩:=hfin;obtain⟨p0,p1,p2,p3,p4,p5,p6⟩:=hB9.c7;have HRH:Hid (LefF xs s base cb bv w (.returned (Nd.v (⟨6,s1,false,⟨#[]⟩,0,0,0⟩:Nd))) WF):=HR;exact zzQ8
 by_cases x5:x=5
 ·subst x5;have c2_0:=H2.e.cell (j:=0) rfl;have z2_0:=H2.e.frozen 0;obtain⟨W3,hW3⟩:=qE (W2.setCell ⟨eb,0,none⟩ (.int .i64 7):World);have H3:Hid (NIf xs u1 base cb bv w eb w.heap.size (⟨7,⟨#[]⟩,false,⟨#[]⟩,0,0,0⟩:Nd) W3):=by rw[hW3];exact H2.set 0 _ _ rfl ⟨H2.sm.s,H2.sm.t,H2.sm.lo,H2.sm.up,H2.sm.n,(by show(0:Int)≤7∧(7:Int)≤100000;omega)⟩
  go_upto_region 16 with fail;rw[←hW3];clear hW3;go_wp2_with fail;obtain⟨s1,u7,hsE⟩:∃s1 u7,patF xs u1=(s1,u7):=⟨_,_,rfl⟩;have hs1:s1.size≤40000:=by have h9:=yFo xs u1;rw[hsE]at h9;exact h9
  have HE7:Hid (patF xs u1=(s1,u7)):=hsE;clear hsE;refine(yEz H3.d HE7.out).mono ?_;rintro e w4 ⟨rfl,hd⟩;have H4w:Hid (NIf xs u7 base cb bv w eb w.heap.size (⟨7,⟨#[]⟩,false,⟨#[]⟩,0,0,0⟩:Nd) w4):=H3.call hd;clear hd;have c4_1:=H4w.e.cell (j:=1) rfl;have z4_1:=H4w.e.frozen 1;obtain⟨W5,hW5⟩:=qE (w4.setCell ⟨eb,1,none⟩ (.string s1):World);have H5:Hid (NIf xs u7 base cb bv w eb w.heap.size (⟨7,s1,false,⟨#[]⟩,0,0,0⟩:Nd) W5):=by rw[hW5];exact H4w.set 1 _ _ rfl ⟨(by show s1.size≤200000;omega),H4w.sm.t,H4w.sm.lo,H4w.sm.up,H4w.sm.n,H4w.sm.kind⟩
  go_upto_region 49 with fail;rw[←hW5];clear hW5;obtain⟨k0,k1,k2,k3,k4,k5,k6⟩:=H5.e.c7;obtain⟨l0,l1,l2,l3,l4,l5,l6⟩:=H5.r.c7;have lf:=H5.r.frozen;obtain⟨WF,hWF⟩:=qE (set7 W5 w.heap.size (⟨7,s1,false,⟨#[]⟩,0,0,0⟩:Nd):World);have hfin:=H5.fin (s0:=s) (show yBl xs s=((⟨7,s1,false,⟨#[]⟩,0,0,0⟩:Nd),u7)by simp[yBl,yDq,rngF,tsF,HE1.out,HE7.out]);rw[←hWF]at hfin;obtain⟨hB9,HR⟩:=hfin;obtain⟨p0,p1,p2,p3,p4,p5,p6⟩:=hB9.c7;have HRH:Hid (LefF xs s base cb bv w (.returned (Nd.v (⟨7,s1,false,⟨#[]⟩,0,0,0⟩:Nd))) WF):=HR;exact zzQ8
 by_cases x6:x=6
 ·subst x6;have c2_0:=H2.e.cell (j:=0) rfl;have z2_0:=H2.e.frozen 0;obtain⟨W3,hW3⟩:=qE (W2.setCell ⟨eb,0,none⟩ (.int .i64 8):World);have H3:Hid (NIf xs u1 base cb bv w eb w.heap.size (⟨8,⟨#[]⟩,false,⟨#[]⟩,0,0,0⟩:Nd) W3):=by rw[hW3];exact H2.set 0 _ _ rfl ⟨H2.sm.s,H2.sm.t,H2.sm.lo,H2.sm.up,H2.sm.n,(by show(0:Int)≤8∧(8:Int)≤100000;omega)⟩
  go_upto_region 21 with fail;rw[←hW3];clear hW3;go_wp2_with fail;obtain⟨s1,u8,hsE⟩:∃s1 u8,yB7 xs 0 2 u1=(s1,u8):=⟨_,_,rfl⟩;have hs1:s1.size≤100:=by have h9:=yB4 xs (a:=0) (b:=2) (by omega) (by omega) (by omega) u1;rw[hsE]at h9;exact h9
  have HE8:Hid (yB7 xs 0 2 u1=(s1,u8)):=hsE;clear hsE;refine(yCb H3.d (by omega) (by omega) (by omega) HE8.out).mono ?_;rintro e w4 ⟨rfl,hd⟩;have H4w:Hid (NIf xs u8 base cb bv w eb w.heap.size (⟨8,⟨#[]⟩,false,⟨#[]⟩,0,0,0⟩:Nd) w4):=H3.call hd;clear hd;have c4_1:=H4w.e.cell (j:=1) rfl;have z4_1:=H4w.e.frozen 1;obtain⟨W5,hW5⟩:=qE (w4.setCell ⟨eb,1,none⟩ (.string s1):World);have H5:Hid (NIf xs u8 base cb bv w eb w.heap.size (⟨8,s1,false,⟨#[]⟩,0,0,0⟩:Nd) W5):=by rw[hW5];exact H4w.set 1 _ _ rfl ⟨(by show s1.size≤200000;omega),H4w.sm.t,H4w.sm.lo,H4w.sm.up,H4w.sm.n,H4w.sm.kind⟩
  go_upto_region 22 with fail;rw[←hW5];clear hW5;go_wp2_with fail;obtain⟨o1,u9,hoE⟩:∃o1 u9,belF xs 2 u8=(o1,u9):=⟨_,_,rfl⟩;obtain⟨v,hvE⟩:∃v,(o1==0)=v:=⟨_,rfl⟩;have HE9:Hid (belF xs 2 u8=(o1,u9)):=hoE;have HVHE9:Hid ((o1==0)=v):=hvE;clear hoE hvE;refine(yC6 H5.d (by omega) (by omega) HE9.out HVHE9.out).mono ?_;rintro e w6 ⟨rfl,hd⟩;have H6w:Hid (NIf xs u9 base cb bv w eb w.heap.size (⟨8,s1,false,⟨#[]⟩,0,0,0⟩:Nd) w6):=H5.call hd;clear hd;rcases(show v=true∨v=false by cases v<;>simp)with rfl|rfl
  ·have c6_2:=H6w.e.cell (j:=2) rfl;have z6_2:=H6w.e.frozen 2;obtain⟨W7,hW7⟩:=qE (w6.setCell ⟨eb,2,none⟩ (.bool true):World);have H7:Hid (NIf xs u9 base cb bv w eb w.heap.size (⟨8,s1,true,⟨#[]⟩,0,0,0⟩:Nd) W7):=by rw[hW7];exact H6w.set 2 _ _ rfl ⟨H6w.sm.s,H6w.sm.t,H6w.sm.lo,H6w.sm.up,H6w.sm.n,H6w.sm.kind⟩
   go_upto_region 23 with fail;rw[←hW7];clear hW7;have cH:=H7.e.cell (j:=2) rfl;go_upto_region 24 with fail;clear cH;obtain⟨s4,u10,hs4E⟩:∃s4 u10,yB7 xs 1 2 u9=(s4,u10):=⟨_,_,rfl⟩;have hs4:s4.size≤100:=by have h9:=yB4 xs (a:=1) (b:=2) (by omega) (by omega) (by omega) u9;rw[hs4E]at h9;exact h9
   have HE10:Hid (yB7 xs 1 2 u9=(s4,u10)):=hs4E;clear hs4E;have HL:Hid (Calls Tryz.prog 131 #[.pointer (some ⟨cb,0,none⟩),.int .i64 1,.int .i64 2] W7.drew fun e w'=>e=.returned (.string s4)∧yBq xs u10 base cb bv W7.drew w'):=yCb H7.drew.d (by omega) (by omega) (by omega) HE10.out;have hS0:SW (fun wz:World=>wz.cell? ⟨eb,1,none⟩=some (.string s1)) W7.drew:=H7.drew.e.cell (j:=1) rfl;refine wpR 6 hS0 ?_;refine j1a 0 hS0 ?_;iterate 2 refine j1b hS0 ?_
   refine qO 3 rfl fun K hK=>?_;go_simp;refine HL.mono ?_;rintro e w8 ⟨rfl,hd⟩;have H8w:Hid (NIf xs u10 base cb bv w eb w.heap.size (⟨8,s1,true,⟨#[]⟩,0,0,0⟩:Nd) w8):=H7.drew.call hd;clear hd HL hS0;have hS0:(fun wz:World=>wz.cell? ⟨eb,1,none⟩=some (.string s1)) w8:=H8w.e.cell (j:=1) rfl;refine hK.out _ _ (.inr hS0) ?_;clear hK;refine jS ?_;have hcat:¬9223372036854775807<s1.size+s4.size:=by omega
   refine j1a 4 hS0 ?_;clear hcat;refine j1a 5 hS0 ?_;have c8_3:=H8w.e.cell (j:=3) rfl;have z8_3:=H8w.e.frozen 3;obtain⟨W9,hW9⟩:=qE (w8.setCell ⟨eb,3,none⟩ (.string (s1++s4)):World);have H9:Hid (NIf xs u10 base cb bv w eb w.heap.size (⟨8,s1,true,(s1++s4),0,0,0⟩:Nd) W9):=by rw[hW9];exact H8w.set 3 _ _ rfl ⟨H8w.sm.s,(by show(s1++s4).size≤300000;rw[yBk];omega),H8w.sm.lo,H8w.sm.up,H8w.sm.n,H8w.sm.kind⟩
   refine qO 6 rfl fun K hK=>?_;go_simp;refine hK.out _ _ (.inl rfl) ?_;clear hK;refine jS ?_;refine qD ?_;rw[←hW9];clear hW9 hS0;go_upto_region 49 with fail;obtain⟨k0,k1,k2,k3,k4,k5,k6⟩:=H9.e.c7;obtain⟨l0,l1,l2,l3,l4,l5,l6⟩:=H9.r.c7;have lf:=H9.r.frozen;obtain⟨WF,hWF⟩:=qE (set7 W9 w.heap.size (⟨8,s1,true,(s1++s4),0,0,0⟩:Nd):World);have hfin:=H9.fin (s0:=s) (show yBl xs s=((⟨8,s1,true,(s1++s4),0,0,0⟩:Nd),u10)by simp[yBl,yDq,rngF,tsF,HE1.out,HE8.out,HVHE9.out,HE9.out,HE10.out]);rw[←hWF]at hfin;obtain⟨hB9,HR⟩:=hfin;obtain⟨p0,p1,p2,p3,p4,p5,p6⟩:=hB9.c7;have HRH:Hid (LefF xs s base cb bv w (.returned (Nd.v (⟨8,s1,true,(s1++s4),0,0,0⟩:Nd))) WF):=HR;exact zzQ8
  ·have c6_2:=H6w.e.cell (j:=2) rfl;have z6_2:=H6w.e.frozen 2;obtain⟨W7,hW7⟩:=qE (w6.setCell ⟨eb,2,none⟩ (.bool false):World);have H7:Hid (NIf xs u9 base cb bv w eb w.heap.size (⟨8,s1,false,⟨#[]⟩,0,0,0⟩:Nd) W7):=by rw[hW7];exact H6w.set 2 _ _ rfl ⟨H6w.sm.s,H6w.sm.t,H6w.sm.lo,H6w.sm.up,H6w.sm.n,H6w.sm.kind⟩
   go_upto_region 23 with fail;rw[←hW7];clear hW7;have cH:=H7.e.cell (j:=2) rfl;go_upto_region 49 with fail;clear cH;obtain⟨k0,k1,k2,k3,k4,k5,k6⟩:=H7.e.c7;obtain⟨l0,l1,l2,l3,l4,l5,l6⟩:=H7.r.c7;have lf:=H7.r.frozen;obtain⟨WF,hWF⟩:=qE (set7 W7 w.heap.size (⟨8,s1,false,⟨#[]⟩,0,0,0⟩:Nd):World);have hfin:=H7.fin (s0:=s) (show yBl xs s=((⟨8,s1,false,⟨#[]⟩,0,0,0⟩:Nd),u9)by simp[yBl,yDq,rngF,tsF,HE1.out,HE8.out,HVHE9.out,HE9.out]);rw[←hWF]at hfin;obtain⟨hB9,HR⟩:=hfin;obtain⟨p0,p1,p2,p3,p4,p5,p6⟩:=hB9.c7;have HRH:Hid (LefF xs s base cb bv w (.returned (Nd.v (⟨8,s1,false,⟨#[]⟩,0,0,0⟩:Nd))) WF):=HR;exact zzQ8
 by_cases x7:x=7
 ·subst x7;have c2_0:=H2.e.cell (j:=0) rfl;have z2_0:=H2.e.frozen 0;obtain⟨W3,hW3⟩:=qE (W2.setCell ⟨eb,0,none⟩ (.int .i64 9):World);have H3:Hid (NIf xs u1 base cb bv w eb w.heap.size (⟨9,⟨#[]⟩,false,⟨#[]⟩,0,0,0⟩:Nd) W3):=by rw[hW3];exact H2.set 0 _ _ rfl ⟨H2.sm.s,H2.sm.t,H2.sm.lo,H2.sm.up,H2.sm.n,(by show(0:Int)≤9∧(9:Int)≤100000;omega)⟩
  go_upto_region 28 with fail;rw[←hW3];clear hW3;go_wp2_with fail;obtain⟨s1,u11,hsE⟩:∃s1 u11,yB7 xs 0 2 u1=(s1,u11):=⟨_,_,rfl⟩;have hs1:s1.size≤100:=by have h9:=yB4 xs (a:=0) (b:=2) (by omega) (by omega) (by omega) u1;rw[hsE]at h9;exact h9
  have HE11:Hid (yB7 xs 0 2 u1=(s1,u11)):=hsE;clear hsE;refine(yCb H3.d (by omega) (by omega) (by omega) HE11.out).mono ?_;rintro e w4 ⟨rfl,hd⟩;have H4w:Hid (NIf xs u11 base cb bv w eb w.heap.size (⟨9,⟨#[]⟩,false,⟨#[]⟩,0,0,0⟩:Nd) w4):=H3.call hd;clear hd;have c4_1:=H4w.e.cell (j:=1) rfl;have z4_1:=H4w.e.frozen 1;obtain⟨W5,hW5⟩:=qE (w4.setCell ⟨eb,1,none⟩ (.string s1):World);have H5:Hid (NIf xs u11 base cb bv w eb w.heap.size (⟨9,s1,false,⟨#[]⟩,0,0,0⟩:Nd) W5):=by rw[hW5];exact H4w.set 1 _ _ rfl ⟨(by show s1.size≤200000;omega),H4w.sm.t,H4w.sm.lo,H4w.sm.up,H4w.sm.n,H4w.sm.kind⟩
  go_upto_region 29 with fail;rw[←hW5];clear hW5;go_wp2_with fail;obtain⟨o1,u12,hoE⟩:∃o1 u12,belF xs 2 u11=(o1,u12):=⟨_,_,rfl⟩;obtain⟨v,hvE⟩:∃v,(o1==0)=v:=⟨_,rfl⟩;have HE12:Hid (belF xs 2 u11=(o1,u12)):=hoE;have HVHE12:Hid ((o1==0)=v):=hvE;clear hoE hvE;refine(yC6 H5.d (by omega) (by omega) HE12.out HVHE12.out).mono ?_;rintro e w6 ⟨rfl,hd⟩;have H6w:Hid (NIf xs u12 base cb bv w eb w.heap.size (⟨9,s1,false,⟨#[]⟩,0,0,0⟩:Nd) w6):=H5.call hd;clear hd;rcases(show v=true∨v=false by cases v<;>simp)with rfl|rfl
  ·have c6_2:=H6w.e.cell (j:=2) rfl;have z6_2:=H6w.e.frozen 2;obtain⟨W7,hW7⟩:=qE (w6.setCell ⟨eb,2,none⟩ (.bool true):World);have H7:Hid (NIf xs u12 base cb bv w eb w.heap.size (⟨9,s1,true,⟨#[]⟩,0,0,0⟩:Nd) W7):=by rw[hW7];exact H6w.set 2 _ _ rfl ⟨H6w.sm.s,H6w.sm.t,H6w.sm.lo,H6w.sm.up,H6w.sm.n,H6w.sm.kind⟩
   go_upto_region 30 with fail;rw[←hW7];clear hW7;have cH:=H7.e.cell (j:=2) rfl;go_upto_region 31 with fail;clear cH;obtain⟨s4,u13,hs4E⟩:∃s4 u13,yB7 xs 1 2 u12=(s4,u13):=⟨_,_,rfl⟩;have hs4:s4.size≤100:=by have h9:=yB4 xs (a:=1) (b:=2) (by omega) (by omega) (by omega) u12;rw[hs4E]at h9;exact h9
   have HE13:Hid (yB7 xs 1 2 u12=(s4,u13)):=hs4E;clear hs4E;have HL:Hid (Calls Tryz.prog 131 #[.pointer (some ⟨cb,0,none⟩),.int .i64 1,.int .i64 2] W7.drew fun e w'=>e=.returned (.string s4)∧yBq xs u13 base cb bv W7.drew w'):=yCb H7.drew.d (by omega) (by omega) (by omega) HE13.out;have hS0:SW (fun wz:World=>wz.cell? ⟨eb,1,none⟩=some (.string s1)) W7.drew:=H7.drew.e.cell (j:=1) rfl;refine wpR 6 hS0 ?_;refine j1a 0 hS0 ?_;iterate 2 refine j1b hS0 ?_
   refine qO 3 rfl fun K hK=>?_;go_simp;refine HL.mono ?_;rintro e w8 ⟨rfl,hd⟩;have H8w:Hid (NIf xs u13 base cb bv w eb w.heap.size (⟨9,s1,true,⟨#[]⟩,0,0,0⟩:Nd) w8):=H7.drew.call hd;clear hd HL hS0;have hS0:(fun wz:World=>wz.cell? ⟨eb,1,none⟩=some (.string s1)) w8:=H8w.e.cell (j:=1) rfl;refine hK.out _ _ (.inr hS0) ?_;clear hK;refine jS ?_;have hcat:¬9223372036854775807<s1.size+s4.size:=by omega
   refine j1a 4 hS0 ?_;clear hcat;refine j1a 5 hS0 ?_;have c8_3:=H8w.e.cell (j:=3) rfl;have z8_3:=H8w.e.frozen 3;obtain⟨W9,hW9⟩:=qE (w8.setCell ⟨eb,3,none⟩ (.string (s1++s4)):World);have H9:Hid (NIf xs u13 base cb bv w eb w.heap.size (⟨9,s1,true,(s1++s4),0,0,0⟩:Nd) W9):=by rw[hW9];exact H8w.set 3 _ _ rfl ⟨H8w.sm.s,(by show(s1++s4).size≤300000;rw[yBk];omega),H8w.sm.lo,H8w.sm.up,H8w.sm.n,H8w.sm.kind⟩
   refine qO 6 rfl fun K hK=>?_;go_simp;refine hK.out _ _ (.inl rfl) ?_;clear hK;refine jS ?_;refine qD ?_;rw[←hW9];clear hW9 hS0;go_upto_region 49 with fail;obtain⟨k0,k1,k2,k3,k4,k5,k6⟩:=H9.e.c7;obtain⟨l0,l1,l2,l3,l4,l5,l6⟩:=H9.r.c7;have lf:=H9.r.frozen;obtain⟨WF,hWF⟩:=qE (set7 W9 w.heap.size (⟨9,s1,true,(s1++s4),0,0,0⟩:Nd):World);have hfin:=H9.fin (s0:=s) (show yBl xs s=((⟨9,s1,true,(s1++s4),0,0,0⟩:Nd),u13)by simp[yBl,yDq,rngF,tsF,HE1.out,HE11.out,HVHE12.out,HE12.out,HE13.out]);rw[←hWF]at hfin;obtain⟨hB9,HR⟩:=hfin;obtain⟨p0,p1,p2,p3,p4,p5,p6⟩:=hB9.c7;have HRH:Hid (LefF xs s base cb bv w (.returned (Nd.v (⟨9,s1,true,(s1++s4),0,0,0⟩:Nd))) WF):=HR;exact zzQ8
  ·have c6_2:=H6w.e.cell (j:=2) rfl;have z6_2:=H6w.e.frozen 2;obtain⟨W7,hW7⟩:=qE (w6.setCell ⟨eb,2,none⟩ (.bool false):World);have H7:Hid (NIf xs u12 base cb bv w eb w.heap.size (⟨9,s1,false,⟨#[]⟩,0,0,0⟩:Nd) W7):=by rw[hW7];exact H6w.set 2 _ _ rfl ⟨H6w.sm.s,H6w.sm.t,H6w.sm.lo,H6w.sm.up,H6w.sm.n,H6w.sm.kind⟩
   go_upto_region 30 with fail;rw[←hW7];clear hW7;have cH:=H7.e.cell (j:=2) rfl;go_upto_region 49 with fail;clear cH;obtain⟨k0,k1,k2,k3,k4,k5,k6⟩:=H7.e.c7;obtain⟨l0,l1,l2,l3,l4,l5,l6⟩:=H7.r.c7;have lf:=H7.r.frozen;obtain⟨WF,hWF⟩:=qE (set7 W7 w.heap.size (⟨9,s1,false,⟨#[]⟩,0,0,0⟩:Nd):World);have hfin:=H7.fin (s0:=s) (show yBl xs s=((⟨9,s1,false,⟨#[]⟩,0,0,0⟩:Nd),u12)by simp[yBl,yDq,rngF,tsF,HE1.out,HE11.out,HVHE12.out,HE12.out]);rw[←hWF]at hfin;obtain⟨hB9,HR⟩:=hfin;obtain⟨p0,p1,p2,p3,p4,p5,p6⟩:=hB9.c7;have HRH:Hid (LefF xs s base cb bv w (.returned (Nd.v (⟨9,s1,false,⟨#[]⟩,0,0,0⟩:Nd))) WF):=HR;exact zzQ8
 by_cases x8:x=8
 ·subst x8;have c2_0:=H2.e.cell (j:=0) rfl;have z2_0:=H2.e.frozen 0;obtain⟨W3,hW3⟩:=qE (W2.setCell ⟨eb,0,none⟩ (.int .i64 9):World);have H3:Hid (NIf xs u1 base cb bv w eb w.heap.size (⟨9,⟨#[]⟩,false,⟨#[]⟩,0,0,0⟩:Nd) W3):=by rw[hW3];exact H2.set 0 _ _ rfl ⟨H2.sm.s,H2.sm.t,H2.sm.lo,H2.sm.up,H2.sm.n,(by show(0:Int)≤9∧(9:Int)≤100000;omega)⟩
  go_upto_region 28 with fail;rw[←hW3];clear hW3;go_wp2_with fail;obtain⟨s1,u14,hsE⟩:∃s1 u14,yB7 xs 0 2 u1=(s1,u14):=⟨_,_,rfl⟩;have hs1:s1.size≤100:=by have h9:=yB4 xs (a:=0) (b:=2) (by omega) (by omega) (by omega) u1;rw[hsE]at h9;exact h9
  have HE14:Hid (yB7 xs 0 2 u1=(s1,u14)):=hsE;clear hsE;refine(yCb H3.d (by omega) (by omega) (by omega) HE14.out).mono ?_;rintro e w4 ⟨rfl,hd⟩;have H4w:Hid (NIf xs u14 base cb bv w eb w.heap.size (⟨9,⟨#[]⟩,false,⟨#[]⟩,0,0,0⟩:Nd) w4):=H3.call hd;clear hd;have c4_1:=H4w.e.cell (j:=1) rfl;have z4_1:=H4w.e.frozen 1;obtain⟨W5,hW5⟩:=qE (w4.setCell ⟨eb,1,none⟩ (.string s1):World);have H5:Hid (NIf xs u14 base cb bv w eb w.heap.size (⟨9,s1,false,⟨#[]⟩,0,0,0⟩:Nd) W5):=by rw[hW5];exact H4w.set 1 _ _ rfl ⟨(by show s1.size≤200000;omega),H4w.sm.t,H4w.sm.lo,H4w.sm.up,H4w.sm.n,H4w.sm.kind⟩
  go_upto_region 29 with fail;rw[←hW5];clear hW5;go_wp2_with fail;obtain⟨o1,u15,hoE⟩:∃o1 u15,belF xs 2 u14=(o1,u15):=⟨_,_,rfl⟩;obtain⟨v,hvE⟩:∃v,(o1==0)=v:=⟨_,rfl⟩;have HE15:Hid (belF xs 2 u14=(o1,u15)):=hoE;have HVHE15:Hid ((o1==0)=v):=hvE;clear hoE hvE;refine(yC6 H5.d (by omega) (by omega) HE15.out HVHE15.out).mono ?_;rintro e w6 ⟨rfl,hd⟩;have H6w:Hid (NIf xs u15 base cb bv w eb w.heap.size (⟨9,s1,false,⟨#[]⟩,0,0,0⟩:Nd) w6):=H5.call hd;clear hd;rcases(show v=true∨v=false by cases v<;>simp)with rfl|rfl
  ·have c6_2:=H6w.e.cell (j:=2) rfl;have z6_2:=H6w.e.frozen 2;obtain⟨W7,hW7⟩:=qE (w6.setCell ⟨eb,2,none⟩ (.bool true):World);have H7:Hid (NIf xs u15 base cb bv w eb w.heap.size (⟨9,s1,true,⟨#[]⟩,0,0,0⟩:Nd) W7):=by rw[hW7];exact H6w.set 2 _ _ rfl ⟨H6w.sm.s,H6w.sm.t,H6w.sm.lo,H6w.sm.up,H6w.sm.n,H6w.sm.kind⟩
   go_upto_region 30 with fail;rw[←hW7];clear hW7;have cH:=H7.e.cell (j:=2) rfl;go_upto_region 31 with fail;clear cH;obtain⟨s4,u16,hs4E⟩:∃s4 u16,yB7 xs 1 2 u15=(s4,u16):=⟨_,_,rfl⟩;have hs4:s4.size≤100:=by have h9:=yB4 xs (a:=1) (b:=2) (by omega) (by omega) (by omega) u15;rw[hs4E]at h9;exact h9
   have HE16:Hid (yB7 xs 1 2 u15=(s4,u16)):=hs4E;clear hs4E;have HL:Hid (Calls Tryz.prog 131 #[.pointer (some ⟨cb,0,none⟩),.int .i64 1,.int .i64 2] W7.drew fun e w'=>e=.returned (.string s4)∧yBq xs u16 base cb bv W7.drew w'):=yCb H7.drew.d (by omega) (by omega) (by omega) HE16.out;have hS0:SW (fun wz:World=>wz.cell? ⟨eb,1,none⟩=some (.string s1)) W7.drew:=H7.drew.e.cell (j:=1) rfl;refine wpR 6 hS0 ?_;refine j1a 0 hS0 ?_;iterate 2 refine j1b hS0 ?_
   refine qO 3 rfl fun K hK=>?_;go_simp;refine HL.mono ?_;rintro e w8 ⟨rfl,hd⟩;have H8w:Hid (NIf xs u16 base cb bv w eb w.heap.size (⟨9,s1,true,⟨#[]⟩,0,0,0⟩:Nd) w8):=H7.drew.call hd;clear hd HL hS0;have hS0:(fun wz:World=>wz.cell? ⟨eb,1,none⟩=some (.string s1)) w8:=H8w.e.cell (j:=1) rfl;refine hK.out _ _ (.inr hS0) ?_;clear hK;refine jS ?_;have hcat:¬9223372036854775807<s1.size+s4.size:=by omega
   refine j1a 4 hS0 ?_;clear hcat;refine j1a 5 hS0 ?_;have c8_3:=H8w.e.cell (j:=3) rfl;have z8_3:=H8w.e.frozen 3;obtain⟨W9,hW9⟩:=qE (w8.setCell ⟨eb,3,none⟩ (.string (s1++s4)):World);have H9:Hid (NIf xs u16 base cb bv w eb w.heap.size (⟨9,s1,true,(s1++s4),0,0,0⟩:Nd) W9):=by rw[hW9];exact H8w.set 3 _ _ rfl ⟨H8w.sm.s,(by show(s1++s4).size≤300000;rw[yBk];omega),H8w.sm.lo,H8w.sm.up,H8w.sm.n,H8w.sm.kind⟩
   refine qO 6 rfl fun K hK=>?_;go_simp;refine hK.out _ _ (.inl rfl) ?_;clear hK;refine jS ?_;refine qD ?_;rw[←hW9];clear hW9 hS0;go_upto_region 49 with fail;obtain⟨k0,k1,k2,k3,k4,k5,k6⟩:=H9.e.c7;obtain⟨l0,l1,l2,l3,l4,l5,l6⟩:=H9.r.c7;have lf:=H9.r.frozen;obtain⟨WF,hWF⟩:=qE (set7 W9 w.heap.size (⟨9,s1,true,(s1++s4),0,0,0⟩:Nd):World);have hfin:=H9.fin (s0:=s) (show yBl xs s=((⟨9,s1,true,(s1++s4),0,0,0⟩:Nd),u16)by simp[yBl,yDq,rngF,tsF,HE1.out,HE14.out,HVHE15.out,HE15.out,HE16.out]);rw[←hWF]at hfin;obtain⟨hB9,HR⟩:=hfin;obtain⟨p0,p1,p2,p3,p4,p5,p6⟩:=hB9.c7;have HRH:Hid (LefF xs s base cb bv w (.returned (Nd.v (⟨9,s1,true,(s1++s4),0,0,0⟩:Nd))) WF):=HR;exact zzQ8
  ·have c6_2:=H6w.e.cell (j:=2) rfl;have z6_2:=H6w.e.frozen 2;obtain⟨W7,hW7⟩:=qE (w6.setCell ⟨eb,2,none⟩ (.bool false):World);have H7:Hid (NIf xs u15 base cb bv w eb w.heap.size (⟨9,s1,false,⟨#[]⟩,0,0,0⟩:Nd) W7):=by rw[hW7];exact H6w.set 2 _ _ rfl ⟨H6w.sm.s,H6w.sm.t,H6w.sm.lo,H6w.sm.up,H6w.sm.n,H6w.sm.kind⟩
   go_upto_region 30 with fail;rw[←hW7];clear hW7;have cH:=H7.e.cell (j:=2) rfl;go_upto_region 49 with fail;clear cH;obtain⟨k0,k1,k2,k3,k4,k5,k6⟩:=H7.e.c7;obtain⟨l0,l1,l2,l3,l4,l5,l6⟩:=H7.r.c7;have lf:=H7.r.frozen;obtain⟨WF,hWF⟩:=qE (set7 W7 w.heap.size (⟨9,s1,false,⟨#[]⟩,0,0,0⟩:Nd):World);have hfin:=H7.fin (s0:=s) (show yBl xs s=((⟨9,s1,false,⟨#[]⟩,0,0,0⟩:Nd),u15)by simp[yBl,yDq,rngF,tsF,HE1.out,HE14.out,HVHE15.out,HE15.out]);rw[←hWF]at hfin;obtain⟨hB9,HR⟩:=hfin;obtain⟨p0,p1,p2,p3,p4,p5,p6⟩:=hB9.c7;have HRH:Hid (LefF xs s base cb bv w (.returned (Nd.v (⟨9,s1,false,⟨#[]⟩,0,0,0⟩:Nd))) WF):=HR;exact zzQ8
 by_cases x9:x=9
 ·subst x9;have c2_0:=H2.e.cell (j:=0) rfl;have z2_0:=H2.e.frozen 0;obtain⟨W3,hW3⟩:=qE (W2.setCell ⟨eb,0,none⟩ (.int .i64 10):World);have H3:Hid (NIf xs u1 base cb bv w eb w.heap.size (⟨10,⟨#[]⟩,false,⟨#[]⟩,0,0,0⟩:Nd) W3):=by rw[hW3];exact H2.set 0 _ _ rfl ⟨H2.sm.s,H2.sm.t,H2.sm.lo,H2.sm.up,H2.sm.n,(by show(0:Int)≤10∧(10:Int)≤100000;omega)⟩
  go_upto_region 35 with fail;rw[←hW3];clear hW3;go_wp2_with fail;obtain⟨y,u17,hxE⟩:∃y u17,belF xs 4 u1=(y,u17):=⟨_,_,rfl⟩;obtain⟨hy0,hy1⟩:0≤y∧y<4:=by have h9:=yAm xs (m:=4) (by omega) u1;rw[hxE]at h9;exact h9
  have HE17:Hid (belF xs 4 u1=(y,u17)):=hxE;clear hxE;refine(yAr H3.d (by omega) (by omega) HE17.out).mono ?_;rintro e w4 ⟨rfl,hd⟩;have H4w:Hid (NIf xs u17 base cb bv w eb w.heap.size (⟨10,⟨#[]⟩,false,⟨#[]⟩,0,0,0⟩:Nd) w4):=H3.call hd;clear hd;have c4_4:=H4w.e.cell (j:=4) rfl;have z4_4:=H4w.e.frozen 4;obtain⟨W5,hW5⟩:=qE (w4.setCell ⟨eb,4,none⟩ (.int .u64 y):World);have H5:Hid (NIf xs u17 base cb bv w eb w.heap.size (⟨10,⟨#[]⟩,false,⟨#[]⟩,y,0,0⟩:Nd) W5):=by rw[hW5];exact H4w.set 4 _ _ rfl ⟨H4w.sm.s,H4w.sm.t,(by show 0≤y∧y≤100000;omega),H4w.sm.up,H4w.sm.n,H4w.sm.kind⟩
  go_upto_region 36 with fail;rw[←hW5];clear hW5;go_wp2_with fail;obtain⟨o1,u18,hoE⟩:∃o1 u18,belF xs 2 u17=(o1,u18):=⟨_,_,rfl⟩;obtain⟨v,hvE⟩:∃v,(o1==0)=v:=⟨_,rfl⟩;have HE18:Hid (belF xs 2 u17=(o1,u18)):=hoE;have HVHE18:Hid ((o1==0)=v):=hvE;clear hoE hvE;refine(yC6 H5.d (by omega) (by omega) HE18.out HVHE18.out).mono ?_;rintro e w6 ⟨rfl,hd⟩;have H6w:Hid (NIf xs u18 base cb bv w eb w.heap.size (⟨10,⟨#[]⟩,false,⟨#[]⟩,y,0,0⟩:Nd) w6):=H5.call hd;clear hd;rcases(show v=true∨v=false by cases v<;>simp)with rfl|rfl
  ·have c6_2:=H6w.e.cell (j:=2) rfl;have z6_2:=H6w.e.frozen 2;obtain⟨W7,hW7⟩:=qE (w6.setCell ⟨eb,2,none⟩ (.bool true):World);have H7:Hid (NIf xs u18 base cb bv w eb w.heap.size (⟨10,⟨#[]⟩,true,⟨#[]⟩,y,0,0⟩:Nd) W7):=by rw[hW7];exact H6w.set 2 _ _ rfl ⟨H6w.sm.s,H6w.sm.t,H6w.sm.lo,H6w.sm.up,H6w.sm.n,H6w.sm.kind⟩
   go_upto_region 37 with fail;rw[←hW7];clear hW7;have cH:=H7.e.cell (j:=2) rfl;go_upto_region 38 with fail;clear cH;obtain⟨u,u19,huE⟩:∃u u19,belF xs 4 u18=(u,u19):=⟨_,_,rfl⟩;obtain⟨hu0,hu1⟩:0≤u∧u<4:=by have h9:=yAm xs (m:=4) (by omega) u18;rw[huE]at h9;exact h9
   have HE19:Hid (belF xs 4 u18=(u,u19)):=huE;clear huE;have HL:Hid (Calls Tryz.prog 43 #[.pointer (some ⟨cb,0,none⟩),.int .i64 4] W7.drew fun e w'=>e=.returned (.int .i64 u)∧yBq xs u19 base cb bv W7.drew w'):=yAr H7.drew.d (by omega) (by omega) HE19.out;have hS0:SW (fun wz:World=>wz.cell? ⟨eb,4,none⟩=some (.int .u64 y)) W7.drew:=H7.drew.e.cell (j:=4) rfl;refine wpR 8 hS0 ?_;refine j1a 0 hS0 ?_;iterate 3 refine j1b hS0 ?_
   refine qO 4 rfl fun K hK=>?_;go_simp;refine HL.mono ?_;rintro e w8 ⟨rfl,hd⟩;have H8w:Hid (NIf xs u19 base cb bv w eb w.heap.size (⟨10,⟨#[]⟩,true,⟨#[]⟩,y,0,0⟩:Nd) w8):=H7.drew.call hd;clear hd HL hS0;have hS0:(fun wz:World=>wz.cell? ⟨eb,4,none⟩=some (.int .u64 y)) w8:=H8w.e.cell (j:=4) rfl;refine hK.out _ _ (.inr hS0) ?_;clear hK;refine jS ?_;refine j1a 5 hS0 ?_;iterate 2 refine j1b hS0 ?_
   have c8_5:=H8w.e.cell (j:=5) rfl;have z8_5:=H8w.e.frozen 5;obtain⟨W9,hW9⟩:=qE (w8.setCell ⟨eb,5,none⟩ (.int .u64 (y+1+u)):World);have H9:Hid (NIf xs u19 base cb bv w eb w.heap.size (⟨10,⟨#[]⟩,true,⟨#[]⟩,y,(y+1+u),0⟩:Nd) W9):=by rw[hW9];exact H8w.set 5 _ _ rfl ⟨H8w.sm.s,H8w.sm.t,H8w.sm.lo,(by show 0≤y+1+u∧y+1+u≤100000;omega),H8w.sm.n,H8w.sm.kind⟩
   refine qO 8 rfl fun K hK=>?_;go_simp;refine hK.out _ _ (.inl rfl) ?_;clear hK;refine jS ?_;refine qD ?_;have hwr:IntKind.u64.wrap (IntKind.u64.wrap (y+1)+IntKind.u64.wrap u)=y+1+u:=by rw[yP6 (y+1) (by omega),yP6 u (by omega),yP6 _ (by omega)]
   rw[hwr,←hW9];clear hW9 hS0;go_upto_region 49 with fail;obtain⟨k0,k1,k2,k3,k4,k5,k6⟩:=H9.e.c7;obtain⟨l0,l1,l2,l3,l4,l5,l6⟩:=H9.r.c7;have lf:=H9.r.frozen;obtain⟨WF,hWF⟩:=qE (set7 W9 w.heap.size (⟨10,⟨#[]⟩,true,⟨#[]⟩,y,(y+1+u),0⟩:Nd):World);have hfin:=H9.fin (s0:=s) (show yBl xs s=((⟨10,⟨#[]⟩,true,⟨#[]⟩,y,(y+1+u),0⟩:Nd),u19)by simp[yBl,yDq,rngF,tsF,HE1.out,HE17.out,HVHE18.out,HE18.out,HE19.out]);rw[←hWF]at hfin;obtain⟨hB9,HR⟩:=hfin;obtain⟨p0,p1,p2,p3,p4,p5,p6⟩:=hB9.c7;have HRH:Hid (LefF xs s base cb bv w (.returned (Nd.v (⟨10,⟨#[]⟩,true,⟨#[]⟩,y,(y+1+u),0⟩:Nd))) WF):=HR;exact zzQ8
  ·have c6_2:=H6w.e.cell (j:=2) rfl;have z6_2:=H6w.e.frozen 2;obtain⟨W7,hW7⟩:=qE (w6.setCell ⟨eb,2,none⟩ (.bool false):World);have H7:Hid (NIf xs u18 base cb bv w eb w.heap.size (⟨10,⟨#[]⟩,false,⟨#[]⟩,y,0,0⟩:Nd) W7):=by rw[hW7];exact H6w.set 2 _ _ rfl ⟨H6w.sm.s,H6w.sm.t,H6w.sm.lo,H6w.sm.up,H6w.sm.n,H6w.sm.kind⟩
   go_upto_region 37 with fail;rw[←hW7];clear hW7;have cH:=H7.e.cell (j:=2) rfl;go_upto_region 49 with fail;clear cH;obtain⟨k0,k1,k2,k3,k4,k5,k6⟩:=H7.e.c7;obtain⟨l0,l1,l2,l3,l4,l5,l6⟩:=H7.r.c7;have lf:=H7.r.frozen;obtain⟨WF,hWF⟩:=qE (set7 W7 w.heap.size (⟨10,⟨#[]⟩,false,⟨#[]⟩,y,0,0⟩:Nd):World);have hfin:=H7.fin (s0:=s) (show yBl xs s=((⟨10,⟨#[]⟩,false,⟨#[]⟩,y,0,0⟩:Nd),u18)by simp[yBl,yDq,rngF,tsF,HE1.out,HE17.out,HVHE18.out,HE18.out]);rw[←hWF]at hfin;obtain⟨hB9,HR⟩:=hfin;obtain⟨p0,p1,p2,p3,p4,p5,p6⟩:=hB9.c7;have HRH:Hid (LefF xs s base cb bv w (.returned (Nd.v (⟨10,⟨#[]⟩,false,⟨#[]⟩,y,0,0⟩:Nd))) WF):=HR;exact zzQ8
 by_cases x10:x=10
 ·subst x10;have c2_0:=H2.e.cell (j:=0) rfl;have z2_0:=H2.e.frozen 0;obtain⟨W3,hW3⟩:=qE (W2.setCell ⟨eb,0,none⟩ (.int .i64 10):World);have H3:Hid (NIf xs u1 base cb bv w eb w.heap.size (⟨10,⟨#[]⟩,false,⟨#[]⟩,0,0,0⟩:Nd) W3):=by rw[hW3];exact H2.set 0 _ _ rfl ⟨H2.sm.s,H2.sm.t,H2.sm.lo,H2.sm.up,H2.sm.n,(by show(0:Int)≤10∧(10:Int)≤100000;omega)⟩
  go_upto_region 35 with fail;rw[←hW3];clear hW3;go_wp2_with fail;obtain⟨y,u20,hxE⟩:∃y u20,belF xs 4 u1=(y,u20):=⟨_,_,rfl⟩;obtain⟨hy0,hy1⟩:0≤y∧y<4:=by have h9:=yAm xs (m:=4) (by omega) u1;rw[hxE]at h9;exact h9
  have HE20:Hid (belF xs 4 u1=(y,u20)):=hxE;clear hxE;refine(yAr H3.d (by omega) (by omega) HE20.out).mono ?_;rintro e w4 ⟨rfl,hd⟩;have H4w:Hid (NIf xs u20 base cb bv w eb w.heap.size (⟨10,⟨#[]⟩,false,⟨#[]⟩,0,0,0⟩:Nd) w4):=H3.call hd;clear hd;have c4_4:=H4w.e.cell (j:=4) rfl;have z4_4:=H4w.e.frozen 4;obtain⟨W5,hW5⟩:=qE (w4.setCell ⟨eb,4,none⟩ (.int .u64 y):World);have H5:Hid (NIf xs u20 base cb bv w eb w.heap.size (⟨10,⟨#[]⟩,false,⟨#[]⟩,y,0,0⟩:Nd) W5):=by rw[hW5];exact H4w.set 4 _ _ rfl ⟨H4w.sm.s,H4w.sm.t,(by show 0≤y∧y≤100000;omega),H4w.sm.up,H4w.sm.n,H4w.sm.kind⟩
  go_upto_region 36 with fail;rw[←hW5];clear hW5;go_wp2_with fail;obtain⟨o1,u21,hoE⟩:∃o1 u21,belF xs 2 u20=(o1,u21):=⟨_,_,rfl⟩;obtain⟨v,hvE⟩:∃v,(o1==0)=v:=⟨_,rfl⟩;have HE21:Hid (belF xs 2 u20=(o1,u21)):=hoE;have HVHE21:Hid ((o1==0)=v):=hvE;clear hoE hvE;refine(yC6 H5.d (by omega) (by omega) HE21.out HVHE21.out).mono ?_;rintro e w6 ⟨rfl,hd⟩;have H6w:Hid (NIf xs u21 base cb bv w eb w.heap.size (⟨10,⟨#[]⟩,false,⟨#[]⟩,y,0,0⟩:Nd) w6):=H5.call hd;clear hd;rcases(show v=true∨v=false by cases v<;>simp)with rfl|rfl
  ·have c6_2:=H6w.e.cell (j:=2) rfl;have z6_2:=H6w.e.frozen 2;obtain⟨W7,hW7⟩:=qE (w6.setCell ⟨eb,2,none⟩ (.bool true):World);have H7:Hid (NIf xs u21 base cb bv w eb w.heap.size (⟨10,⟨#[]⟩,true,⟨#[]⟩,y,0,0⟩:Nd) W7):=by rw[hW7];exact H6w.set 2 _ _ rfl ⟨H6w.sm.s,H6w.sm.t,H6w.sm.lo,H6w.sm.up,H6w.sm.n,H6w.sm.kind⟩
   go_upto_region 37 with fail;rw[←hW7];clear hW7;have cH:=H7.e.cell (j:=2) rfl;go_upto_region 38 with fail;clear cH;obtain⟨u,u22,huE⟩:∃u u22,belF xs 4 u21=(u,u22):=⟨_,_,rfl⟩;obtain⟨hu0,hu1⟩:0≤u∧u<4:=by have h9:=yAm xs (m:=4) (by omega) u21;rw[huE]at h9;exact h9
   have HE22:Hid (belF xs 4 u21=(u,u22)):=huE;clear huE;have HL:Hid (Calls Tryz.prog 43 #[.pointer (some ⟨cb,0,none⟩),.int .i64 4] W7.drew fun e w'=>e=.returned (.int .i64 u)∧yBq xs u22 base cb bv W7.drew w'):=yAr H7.drew.d (by omega) (by omega) HE22.out;have hS0:SW (fun wz:World=>wz.cell? ⟨eb,4,none⟩=some (.int .u64 y)) W7.drew:=H7.drew.e.cell (j:=4) rfl;refine wpR 8 hS0 ?_;refine j1a 0 hS0 ?_;iterate 3 refine j1b hS0 ?_
   refine qO 4 rfl fun K hK=>?_;go_simp;refine HL.mono ?_;rintro e w8 ⟨rfl,hd⟩;have H8w:Hid (NIf xs u22 base cb bv w eb w.heap.size (⟨10,⟨#[]⟩,true,⟨#[]⟩,y,0,0⟩:Nd) w8):=H7.drew.call hd;clear hd HL hS0;have hS0:(fun wz:World=>wz.cell? ⟨eb,4,none⟩=some (.int .u64 y)) w8:=H8w.e.cell (j:=4) rfl;refine hK.out _ _ (.inr hS0) ?_;clear hK;refine jS ?_;refine j1a 5 hS0 ?_;iterate 2 refine j1b hS0 ?_
   have c8_5:=H8w.e.cell (j:=5) rfl;have z8_5:=H8w.e.frozen 5;obtain⟨W9,hW9⟩:=qE (w8.setCell ⟨eb,5,none⟩ (.int .u64 (y+1+u)):World);have H9:Hid (NIf xs u22 base cb bv w eb w.heap.size (⟨10,⟨#[]⟩,true,⟨#[]⟩,y,(y+1+u),0⟩:Nd) W9):=by rw[hW9];exact H8w.set 5 _ _ rfl ⟨H8w.sm.s,H8w.sm.t,H8w.sm.lo,(by show 0≤y+1+u∧y+1+u≤100000;omega),H8w.sm.n,H8w.sm.kind⟩
   refine qO 8 rfl fun K hK=>?_;go_simp;refine hK.out _ _ (.inl rfl) ?_;clear hK;refine jS ?_;refine qD ?_;have hwr:IntKind.u64.wrap (IntKind.u64.wrap (y+1)+IntKind.u64.wrap u)=y+1+u:=by rw[yP6 (y+1) (by omega),yP6 u (by omega),yP6 _ (by omega)]
   rw[hwr,←hW9];clear hW9 hS0;go_upto_region 49 with fail;obtain⟨k0,k1,k2,k3,k4,k5,k6⟩:=H9.e.c7;obtain⟨l0,l1,l2,l3,l4,l5,l6⟩:=H9.r.c7;have lf:=H9.r.frozen;obtain⟨WF,hWF⟩:=qE (set7 W9 w.heap.size (⟨10,⟨#[]⟩,true,⟨#[]⟩,y,(y+1+u),0⟩:Nd):World);have hfin:=H9.fin (s0:=s) (show yBl xs s=((⟨10,⟨#[]⟩,true,⟨#[]⟩,y,(y+1+u),0⟩:Nd),u22)by simp[yBl,yDq,rngF,tsF,HE1.out,HE20.out,HVHE21.out,HE21.out,HE22.out]);rw[←hWF]at hfin;obtain⟨hB9,HR⟩:=hfin;obtain⟨p0,p1,p2,p3,p4,p5,p6⟩:=hB9.c7;have HRH:Hid (LefF xs s base cb bv w (.returned (Nd.v (⟨10,⟨#[]⟩,true,⟨#[]⟩,y,(y+1+u),0⟩:Nd))) WF):=HR;exact zzQ8
  ·have c6_2:=H6w.e.cell (j:=2) rfl;have z6_2:=H6w.e.frozen 2;obtain⟨W7,hW7⟩:=qE (w6.setCell ⟨eb,2,none⟩ (.bool false):World);have H7:Hid (NIf xs u21 base cb bv w eb w.heap.size (⟨10,⟨#[]⟩,false,⟨#[]⟩,y,0,0⟩:Nd) W7):=by rw[hW7];exact H6w.set 2 _ _ rfl ⟨H6w.sm.s,H6w.sm.t,H6w.sm.lo,H6w.sm.up,H6w.sm.n,H6w.sm.kind⟩
   go_upto_region 37 with fail;rw[←hW7];clear hW7;have cH:=H7.e.cell (j:=2) rfl;go_upto_region 49 with fail;clear cH;obtain⟨k0,k1,k2,k3,k4,k5,k6⟩:=H7.e.c7;obtain⟨l0,l1,l2,l3,l4,l5,l6⟩:=H7.r.c7;have lf:=H7.r.frozen;obtain⟨WF,hWF⟩:=qE (set7 W7 w.heap.size (⟨10,⟨#[]⟩,false,⟨#[]⟩,y,0,0⟩:Nd):World);have hfin:=H7.fin (s0:=s) (show yBl xs s=((⟨10,⟨#[]⟩,false,⟨#[]⟩,y,0,0⟩:Nd),u21)by simp[yBl,yDq,rngF,tsF,HE1.out,HE20.out,HVHE21.out,HE21.out]);rw[←hWF]at hfin;obtain⟨hB9,HR⟩:=hfin;obtain⟨p0,p1,p2,p3,p4,p5,p6⟩:=hB9.c7;have HRH:Hid (LefF xs s base cb bv w (.returned (Nd.v (⟨10,⟨#[]⟩,false,⟨#[]⟩,y,0,0⟩:Nd))) WF):=HR;exact zzQ8
 by_cases x11:x=11
 ·subst x11;have c2_0:=H2.e.cell (j:=0) rfl;have z2_0:=H2.e.frozen 0;obtain⟨W3,hW3⟩:=qE (W2.setCell ⟨eb,0,none⟩ (.int .i64 11):World);have H3:Hid (NIf xs u1 base cb bv w eb w.heap.size (⟨11,⟨#[]⟩,false,⟨#[]⟩,0,0,0⟩:Nd) W3):=by rw[hW3];exact H2.set 0 _ _ rfl ⟨H2.sm.s,H2.sm.t,H2.sm.lo,H2.sm.up,H2.sm.n,(by show(0:Int)≤11∧(11:Int)≤100000;omega)⟩
  go_upto_region 42 with fail;rw[←hW3];clear hW3;go_wp2_with fail;obtain⟨y,u23,hxE⟩:∃y u23,belF xs 2 u1=(y,u23):=⟨_,_,rfl⟩;obtain⟨hy0,hy1⟩:0≤y∧y<2:=by have h9:=yAm xs (m:=2) (by omega) u1;rw[hxE]at h9;exact h9
  have HE23:Hid (belF xs 2 u1=(y,u23)):=hxE;clear hxE;refine(yAr H3.d (by omega) (by omega) HE23.out).mono ?_;rintro e w4 ⟨rfl,hd⟩;have H4w:Hid (NIf xs u23 base cb bv w eb w.heap.size (⟨11,⟨#[]⟩,false,⟨#[]⟩,0,0,0⟩:Nd) w4):=H3.call hd;clear hd;have c4_6:=H4w.e.cell (j:=6) rfl;have z4_6:=H4w.e.frozen 6;obtain⟨W5,hW5⟩:=qE (w4.setCell ⟨eb,6,none⟩ (.int .i64 (1+y)):World);have H5:Hid (NIf xs u23 base cb bv w eb w.heap.size (⟨11,⟨#[]⟩,false,⟨#[]⟩,0,0,(1+y)⟩:Nd) W5):=by rw[hW5];exact H4w.set 6 _ _ rfl ⟨H4w.sm.s,H4w.sm.t,H4w.sm.lo,H4w.sm.up,(by show 0≤1+y∧1+y≤100000;omega),H4w.sm.kind⟩
  go_upto_region 49 with fail;rw[←hW5];clear hW5;obtain⟨k0,k1,k2,k3,k4,k5,k6⟩:=H5.e.c7;obtain⟨l0,l1,l2,l3,l4,l5,l6⟩:=H5.r.c7;have lf:=H5.r.frozen;obtain⟨WF,hWF⟩:=qE (set7 W5 w.heap.size (⟨11,⟨#[]⟩,false,⟨#[]⟩,0,0,(1+y)⟩:Nd):World);have hfin:=H5.fin (s0:=s) (show yBl xs s=((⟨11,⟨#[]⟩,false,⟨#[]⟩,0,0,(1+y)⟩:Nd),u23)by simp[yBl,yDq,rngF,tsF,HE1.out,HE23.out]);rw[←hWF]at hfin;obtain⟨hB9,HR⟩:=hfin;obtain⟨p0,p1,p2,p3,p4,p5,p6⟩:=hB9.c7;have HRH:Hid (LefF xs s base cb bv w (.returned (Nd.v (⟨11,⟨#[]⟩,false,⟨#[]⟩,0,0,(1+y)⟩:Nd))) WF):=HR;exact zzQ8
 by_cases x12:x=12
 ·subst x12;have c2_0:=H2.e.cell (j:=0) rfl;have z2_0:=H2.e.frozen 0;obtain⟨W3,hW3⟩:=qE (W2.setCell ⟨eb,0,none⟩ (.int .i64 11):World);have H3:Hid (NIf xs u1 base cb bv w eb w.heap.size (⟨11,⟨#[]⟩,false,⟨#[]⟩,0,0,0⟩:Nd) W3):=by rw[hW3];exact H2.set 0 _ _ rfl ⟨H2.sm.s,H2.sm.t,H2.sm.lo,H2.sm.up,H2.sm.n,(by show(0:Int)≤11∧(11:Int)≤100000;omega)⟩
  go_upto_region 42 with fail;rw[←hW3];clear hW3;go_wp2_with fail;obtain⟨y,u24,hxE⟩:∃y u24,belF xs 2 u1=(y,u24):=⟨_,_,rfl⟩;obtain⟨hy0,hy1⟩:0≤y∧y<2:=by have h9:=yAm xs (m:=2) (by omega) u1;rw[hxE]at h9;exact h9
  have HE24:Hid (belF xs 2 u1=(y,u24)):=hxE;clear hxE;refine(yAr H3.d (by omega) (by omega) HE24.out).mono ?_;rintro e w4 ⟨rfl,hd⟩;have H4w:Hid (NIf xs u24 base cb bv w eb w.heap.size (⟨11,⟨#[]⟩,false,⟨#[]⟩,0,0,0⟩:Nd) w4):=H3.call hd;clear hd;have c4_6:=H4w.e.cell (j:=6) rfl;have z4_6:=H4w.e.frozen 6;obtain⟨W5,hW5⟩:=qE (w4.setCell ⟨eb,6,none⟩ (.int .i64 (1+y)):World);have H5:Hid (NIf xs u24 base cb bv w eb w.heap.size (⟨11,⟨#[]⟩,false,⟨#[]⟩,0,0,(1+y)⟩:Nd) W5):=by rw[hW5];exact H4w.set 6 _ _ rfl ⟨H4w.sm.s,H4w.sm.t,H4w.sm.lo,H4w.sm.up,(by show 0≤1+y∧1+y≤100000;omega),H4w.sm.kind⟩
  go_upto_region 49 with fail;rw[←hW5];clear hW5;obtain⟨k0,k1,k2,k3,k4,k5,k6⟩:=H5.e.c7;obtain⟨l0,l1,l2,l3,l4,l5,l6⟩:=H5.r.c7;have lf:=H5.r.frozen;obtain⟨WF,hWF⟩:=qE (set7 W5 w.heap.size (⟨11,⟨#[]⟩,false,⟨#[]⟩,0,0,(1+y)⟩:Nd):World);have hfin:=H5.fin (s0:=s) (show yBl xs s=((⟨11,⟨#[]⟩,false,⟨#[]⟩,0,0,(1+y)⟩:Nd),u24)by simp[yBl,yDq,rngF,tsF,HE1.out,HE24.out]);rw[←hWF]at hfin;obtain⟨hB9,HR⟩:=hfin;obtain⟨p0,p1,p2,p3,p4,p5,p6⟩:=hB9.c7;have HRH:Hid (LefF xs s base cb bv w (.returned (Nd.v (⟨11,⟨#[]⟩,false,⟨#[]⟩,0,0,(1+y)⟩:Nd))) WF):=HR;exact zzQ8
 by_cases x13:x=13
 ·subst x13;have c2_0:=H2.e.cell (j:=0) rfl;have z2_0:=H2.e.frozen 0;obtain⟨W3,hW3⟩:=qE (W2.setCell ⟨eb,0,none⟩ (.int .i64 12):World);have H3:Hid (NIf xs u1 base cb bv w eb w.heap.size (⟨12,⟨#[]⟩,false,⟨#[]⟩,0,0,0⟩:Nd) W3):=by rw[hW3];exact H2.set 0 _ _ rfl ⟨H2.sm.s,H2.sm.t,H2.sm.lo,H2.sm.up,H2.sm.n,(by show(0:Int)≤12∧(12:Int)≤100000;omega)⟩
  go_upto_region 45 with fail;rw[←hW3];clear hW3;go_wp2_with fail;obtain⟨y,u25,hxE⟩:∃y u25,belF xs 4 u1=(y,u25):=⟨_,_,rfl⟩;obtain⟨hy0,hy1⟩:0≤y∧y<4:=by have h9:=yAm xs (m:=4) (by omega) u1;rw[hxE]at h9;exact h9
  have HE25:Hid (belF xs 4 u1=(y,u25)):=hxE;clear hxE;refine(yAr H3.d (by omega) (by omega) HE25.out).mono ?_;rintro e w4 ⟨rfl,hd⟩;have H4w:Hid (NIf xs u25 base cb bv w eb w.heap.size (⟨12,⟨#[]⟩,false,⟨#[]⟩,0,0,0⟩:Nd) w4):=H3.call hd;clear hd;have c4_6:=H4w.e.cell (j:=6) rfl;have z4_6:=H4w.e.frozen 6;obtain⟨W5,hW5⟩:=qE (w4.setCell ⟨eb,6,none⟩ (.int .i64 (1+y)):World);have H5:Hid (NIf xs u25 base cb bv w eb w.heap.size (⟨12,⟨#[]⟩,false,⟨#[]⟩,0,0,(1+y)⟩:Nd) W5):=by rw[hW5];exact H4w.set 6 _ _ rfl ⟨H4w.sm.s,H4w.sm.t,H4w.sm.lo,H4w.sm.up,(by show 0≤1+y∧1+y≤100000;omega),H4w.sm.kind⟩
  go_upto_region 49 with fail;rw[←hW5];clear hW5;obtain⟨k0,k1,k2,k3,k4,k5,k6⟩:=H5.e.c7;obtain⟨l0,l1,l2,l3,l4,l5,l6⟩:=H5.r.c7;have lf:=H5.r.frozen;obtain⟨WF,hWF⟩:=qE (set7 W5 w.heap.size (⟨12,⟨#[]⟩,false,⟨#[]⟩,0,0,(1+y)⟩:Nd):World);have hfin:=H5.fin (s0:=s) (show yBl xs s=((⟨12,⟨#[]⟩,false,⟨#[]⟩,0,0,(1+y)⟩:Nd),u25)by simp[yBl,yDq,rngF,tsF,HE1.out,HE25.out]);rw[←hWF]at hfin;obtain⟨hB9,HR⟩:=hfin;obtain⟨p0,p1,p2,p3,p4,p5,p6⟩:=hB9.c7;have HRH:Hid (LefF xs s base cb bv w (.returned (Nd.v (⟨12,⟨#[]⟩,false,⟨#[]⟩,0,0,(1+y)⟩:Nd))) WF):=HR;exact zzQ8
 by_cases x14:x=14
 ·subst x14;have c2_0:=H2.e.cell (j:=0) rfl;have z2_0:=H2.e.frozen 0;obtain⟨W3,hW3⟩:=qE (W2.setCell ⟨eb,0,none⟩ (.int .i64 13):World);have H3:Hid (NIf xs u1 base cb bv w eb w.heap.size (⟨13,⟨#[]⟩,false,⟨#[]⟩,0,0,0⟩:Nd) W3):=by rw[hW3];exact H2.set 0 _ _ rfl ⟨H2.sm.s,H2.sm.t,H2.sm.lo,H2.sm.up,H2.sm.n,(by show(0:Int)≤13∧(13:Int)≤100000;omega)⟩
  go_upto_region 48 with fail;rw[←hW3];clear hW3;go_wp2_with fail;obtain⟨y,u26,hxE⟩:∃y u26,belF xs 3 u1=(y,u26):=⟨_,_,rfl⟩;obtain⟨hy0,hy1⟩:0≤y∧y<3:=by have h9:=yAm xs (m:=3) (by omega) u1;rw[hxE]at h9;exact h9
  have HE26:Hid (belF xs 3 u1=(y,u26)):=hxE;clear hxE;refine(yAr H3.d (by omega) (by omega) HE26.out).mono ?_;rintro e w4 ⟨rfl,hd⟩;have H4w:Hid (NIf xs u26 base cb bv w eb w.heap.size (⟨13,⟨#[]⟩,false,⟨#[]⟩,0,0,0⟩:Nd) w4):=H3.call hd;clear hd;have c4_6:=H4w.e.cell (j:=6) rfl;have z4_6:=H4w.e.frozen 6;obtain⟨W5,hW5⟩:=qE (w4.setCell ⟨eb,6,none⟩ (.int .i64 (1+y)):World);have H5:Hid (NIf xs u26 base cb bv w eb w.heap.size (⟨13,⟨#[]⟩,false,⟨#[]⟩,0,0,(1+y)⟩:Nd) W5):=by rw[hW5];exact H4w.set 6 _ _ rfl ⟨H4w.sm.s,H4w.sm.t,H4w.sm.lo,H4w.sm.up,(by show 0≤1+y∧1+y≤100000;omega),H4w.sm.kind⟩
  go_upto_region 49 with fail;rw[←hW5];clear hW5;obtain⟨k0,k1,k2,k3,k4,k5,k6⟩:=H5.e.c7;obtain⟨l0,l1,l2,l3,l4,l5,l6⟩:=H5.r.c7;have lf:=H5.r.frozen;obtain⟨WF,hWF⟩:=qE (set7 W5 w.heap.size (⟨13,⟨#[]⟩,false,⟨#[]⟩,0,0,(1+y)⟩:Nd):World);have hfin:=H5.fin (s0:=s) (show yBl xs s=((⟨13,⟨#[]⟩,false,⟨#[]⟩,0,0,(1+y)⟩:Nd),u26)by simp[yBl,yDq,rngF,tsF,HE1.out,HE26.out]);rw[←hWF]at hfin;obtain⟨hB9,HR⟩:=hfin;obtain⟨p0,p1,p2,p3,p4,p5,p6⟩:=hB9.c7;have HRH:Hid (LefF xs s base cb bv w (.returned (Nd.v (⟨13,⟨#[]⟩,false,⟨#[]⟩,0,0,(1+y)⟩:Nd))) WF):=HR;exact zzQ8
 ·obtain rfl:x=15:=by omega
  have c2_0:=H2.e.cell (j:=0) rfl;have z2_0:=H2.e.frozen 0;obtain⟨W3,hW3⟩:=qE (W2.setCell ⟨eb,0,none⟩ (.int .i64 1):World);have H3:Hid (NIf xs u1 base cb bv w eb w.heap.size (⟨1,⟨#[]⟩,false,⟨#[]⟩,0,0,0⟩:Nd) W3):=by rw[hW3];exact H2.set 0 _ _ rfl ⟨H2.sm.s,H2.sm.t,H2.sm.lo,H2.sm.up,H2.sm.n,(by show(0:Int)≤1∧(1:Int)≤100000;omega)⟩
  go_upto_region 49 with fail;rw[←hW3];clear hW3;obtain⟨k0,k1,k2,k3,k4,k5,k6⟩:=H3.e.c7;obtain⟨l0,l1,l2,l3,l4,l5,l6⟩:=H3.r.c7;have lf:=H3.r.frozen;obtain⟨WF,hWF⟩:=qE (set7 W3 w.heap.size (⟨1,⟨#[]⟩,false,⟨#[]⟩,0,0,0⟩:Nd):World);have hfin:=H3.fin (s0:=s) (show yBl xs s=((⟨1,⟨#[]⟩,false,⟨#[]⟩,0,0,0⟩:Nd),u1)by simp[yBl,yDq,rngF,tsF,HE1.out]);rw[←hWF]at hfin;obtain⟨hB9,HR⟩:=hfin;obtain⟨p0,p1,p2,p3,p4,p5,p6⟩:=hB9.c7;have HRH:Hid (LefF xs s base cb bv w (.returned (Nd.v (⟨1,⟨#[]⟩,false,⟨#[]⟩,0,0,0⟩:Nd))) WF):=HR;exact zzQ8
def cut (p:List UInt8) (i k:Nat):List UInt8:=(p.drop i).take (k-i)
theorem yJw (p:List UInt8) (i:Nat):cut p i i= []:=by simp[cut]
variable {p:List UInt8} {i k:Nat}
theorem yZz (h:k≤p.length):(cut p i k).length=k-i:=by simp[cut];omega
variable {j:Nat}
theorem yF2 (h1:i≤j) (h2:j≤k):cut p i k=cut p i j++cut p j k:=by
 unfold cut;have:k-i=(j-i)+(k-j):=by omega
 rw[this,List.take_add,List.drop_drop];congr 3;omega
variable {c:UInt8}
theorem yF1 (h:p[i]?=some c):cut p i (i+1)= [c]:=by have hi:=yBh h;unfold cut;rw[List.drop_eq_getElem_cons hi,Nat.add_sub_cancel_left,yC9 h];simp
abbrev yN7 (c:UInt8):Prop:=yFu c∨c=40∨c=91∨c=46∨c=92
def RepG (A:List UInt8→Pat→Prop) (xs:List UInt8) (t:Pat):Prop:=
 ∃(ys ops:List UInt8) (a:Pat),xs=ys++ops∧A ys a∧(∀c∈ops,isOp c)∧t=(if ops= []then a else .rep a (ops.any (· != 43)) (ops.any (· != 63)))
def SeqG (A:List UInt8→Pat→Prop):List Pat→List UInt8→Prop
 | [],xs=>xs= []
 |t::ts,xs=>∃ys zs,xs=ys++zs∧RepG A ys t∧SeqG A ts zs
def AltG (A:List UInt8→Pat→Prop):List (List Pat)→List UInt8→Prop
 | [],xs=>False
 | [ts],xs=>SeqG A ts xs
 |ts::os,xs=>∃ys zs,xs=ys++124::zs∧SeqG A ts ys∧AltG A os zs
def yKb:Nat→List UInt8→Pat→Prop
 |0,_,_=>False
 |n+1,xs,t=>(∃c,xs= [c]∧¬yN7 c∧t=.byte c)∨(xs= [46]∧t=.cls (fun _=>true))∨(∃c,xs= [92,c]∧t=.byte c)∨
   (∃ys os,xs=40::ys++ [41]∧AltG (yKb n) os ys∧t=.alt os)∨(∃p i k f,p[i]?=some 91∧yBa p (i+1)=.inl (f,k)∧xs=cut p i k∧t=.cls f)
variable {A B:List UInt8→Pat→Prop} {t:Pat}
theorem RepG.mono (h:∀xs t,A xs t→B xs t) {xs:List UInt8}:RepG A xs t→RepG B xs t:=fun⟨ys,ops,a,h1,h2,h3,h4⟩=>⟨ys,ops,a,h1,h _ _ h2,h3,h4⟩
theorem SeqG.mono (h:∀xs t,A xs t→B xs t):∀{ts:List Pat} {xs:List UInt8},SeqG A ts xs→SeqG B ts xs
 | [],_,q=>q
 |_::_,_,⟨ys,zs,h1,h2,h3⟩=>⟨ys,zs,h1,h2.mono h,SeqG.mono h h3⟩
theorem AltG.mono (h:∀xs t,A xs t→B xs t):∀{os:List (List Pat)} {xs:List UInt8},AltG A os xs→AltG B os xs
 | [],_,q=>q
 | [_],_,q=>SeqG.mono h q
 |_::_::_,_,⟨ys,zs,h1,h2,h3⟩=>⟨ys,zs,h1,h2.mono h,AltG.mono h h3⟩
theorem yKb.mono:∀{n m:Nat} {xs:List UInt8} {t:Pat},n≤m→yKb n xs t→yKb m xs t
 |0,_,_,_,_,h=>h.elim
 |n+1,0,_,_,hm,_=>by omega
 |n+1,m+1,xs,t,hm,h=>by
  rcases h with h|h|h|⟨ys,os,h1,h2,h3⟩|h
  ·exact .inl h
  ·exact .inr (.inl h)
  ·exact .inr (.inr (.inl h))
  ·exact .inr (.inr (.inr (.inl ⟨ys,os,h1,h2.mono (fun _ _ q=>yKb.mono (by omega) q),h3⟩)))
  ·exact .inr (.inr (.inr (.inr h)))
theorem SeqG.snoc:∀{ts:List Pat} {xs ys:List UInt8} {t:Pat},SeqG A ts xs→RepG A ys t→SeqG A (ts++ [t]) (xs++ys)
 | [],xs,ys,t,h,k=>by subst h;exact⟨ys,[],by simp,k,rfl⟩
 |s::ts,xs,ys,t,⟨us,vs,h1,h2,h3⟩,k=>⟨us,vs++ys,by rw[h1];simp,h2,SeqG.snoc h3 k⟩
theorem AltG.snoc:∀{os:List (List Pat)} {xs ys:List UInt8} {ts:List Pat},AltG A os xs→SeqG A ts ys→AltG A (os++ [ts]) (xs++124::ys)
 | [],_,_,_,h,_=>h.elim
 | [s],xs,ys,ts,h,k=>⟨xs,ys,rfl,h,k⟩
 |s::o::os,xs,ys,ts,⟨us,vs,h1,h2,h3⟩,k=>⟨us,vs++124::ys,by rw[h1];simp,h2,AltG.snoc h3 k⟩
structure yCn (p:List UInt8) (o i k:Nat) (t:Pat):Prop where
 lt:i<k
 le:k≤p.length
 chk:∀a,chkM p i o a=chkM p k o true
 gr:∃n,yKb n (cut p i k) t
structure yNz (p:List UInt8) (o i k:Nat) (t:Pat):Prop where
 lt:i<k
 le:k≤p.length
 chk:∀a,chkM p i o a=chkM p k o true
 next:∀c,p[k]?=some c→¬isOp c
 gr:∃n,RepG (yKb n) (cut p i k) t
structure yK (p:List UInt8) (o i k:Nat) (ts:List Pat):Prop where
 lei:i≤k
 le:k≤p.length
 chk:chkM p i o false=chkM p k o false
 gr:∃n,SeqG (yKb n) ts (cut p i k)
structure yFl (p:List UInt8) (o i k:Nat) (os:List (List Pat)):Prop where
 lei:i≤k
 le:k≤p.length
 chk:chkM p i o false=chkM p k o false
 gr:∃n,AltG (yKb n) os (cut p i k)
variable {o:Nat}
theorem yK.nil (h:i≤p.length):yK p o i i []:=⟨Nat.le_refl _,h,rfl,0,yJw p i⟩
variable {ts:List Pat}
theorem yK.more (h:yK p o i j ts) (r:yNz p o j k t):yK p o i k (ts++ [t]):=by
 obtain⟨n,hn⟩:=h.gr;obtain⟨m,hm⟩:=r.gr;refine⟨Nat.le_trans h.lei (Nat.le_of_lt r.lt),r.le,?_,max n m,?_⟩
 ·rw[h.chk,r.chk,yWb r.next]
 ·rw[yF2 h.lei (Nat.le_of_lt r.lt)];exact zzQ82
theorem yFl.one (h:yK p o i k ts):yFl p o i k [ts]:=⟨h.lei,h.le,h.chk,h.gr⟩
variable {os:List (List Pat)}
theorem yFl.more (h:yFl p o i j os) (hb:p[j]?=some 124) (s:yK p o (j+1) k ts):yFl p o i k (os++ [ts]):=by
 obtain⟨n,hn⟩:=h.gr;obtain⟨m,hm⟩:=s.gr;have hl:=s.lei;refine⟨Nat.le_trans h.lei (by omega),s.le,?_,max n m,?_⟩
 ·rw[h.chk,yJz hb,s.chk]
 ·rw[yF2 h.lei (show j≤k by omega),yF2 (show j≤j+1 by omega) hl,yF1 hb];exact zzQ82
theorem yCn.group (h:p[i]?=some 40) (ho:¬o=20) (a:yFl p (o+1) (i+1) j os) (hj:p[j]?=some 41):yCn p o i (j+1) (.alt os):=by
 obtain⟨n,hn⟩:=a.gr;have hl:=a.lei;refine⟨by omega,yBh hj,fun b=>?_,n+1,.inr (.inr (.inr (.inl ⟨_,os,?_,hn,rfl⟩)))⟩
 ·rw[yE h,if_neg ho,a.chk,yEr hj,if_neg (by omega),Nat.add_sub_cancel]
 ·rw[yF2 (show i≤i+1 by omega) (show i+1≤j+1 by omega),yF1 h,yF2 hl (show j≤j+1 by omega),yF1 hj];simp
theorem yCn.plain (h:p[i]?=some c) (hc:¬yN7 c):yCn p o i (i+1) (.byte c):=by refine⟨by omega,yBh h,fun a=>yF3 h (fun q=>hc (.inl q)) (fun q=>hc (.inr (.inl q))) (fun q=>hc (.inr (.inr (.inl q)))) (fun q=>hc (.inr (.inr (.inr (.inr q))))),1,.inl ⟨c,yF1 h,hc,rfl⟩⟩
theorem yCn.dot (h:p[i]?=some 46):yCn p o i (i+1) (.cls (fun _=>true)):=by refine⟨by omega,yBh h,fun a=>yF3 h (by decide) (by decide) (by decide) (by decide),1,.inr (.inl ⟨yF1 h,rfl⟩)⟩
theorem yCn.esc (h:p[i]?=some 92) (hc:p[i+1]?=some c):yCn p o i (i+1+1) (.byte c):=by have hl:=yBh hc;refine⟨by omega,hl,fun a=>by rw[yId h,if_neg (by omega)],1,.inr (.inr (.inl ⟨c,?_,rfl⟩))⟩;rw[yF2 (show i≤i+1 by omega) (show i+1≤i+1+1 by omega),yF1 h,yF1 hc];rfl
theorem yCn.class {f:UInt8→Bool} (h:p[i]?=some 91) (hc:yBa p (i+1)=.inl (f,k)):yCn p o i k (.cls f):=by have hl:=yJy hc;exact⟨by omega,hl.2,fun a=>by rw[yEs h,hc],1,.inr (.inr (.inr (.inr ⟨p,i,k,f,h,hc,rfl,rfl⟩)))⟩
structure yKn (p:List UInt8) (o i j k:Nat) (a:Pat) (op rp:Bool):Prop where
 atom:yCn p o i j a
 lt:j≤k
 le:k≤p.length
 chk:chkM p j o true=chkM p k o true
 ops:∀c∈cut p j k,isOp c
 opt:op=(cut p j k).any (· != 43)
 rpt:rp=(cut p j k).any (· != 63)
variable {a:Pat}
theorem yKn.zero (h:yCn p o i j a):yKn p o i j j a false false:=
 ⟨h,Nat.le_refl _,h.le,rfl,by rw[yJw];simp,by rw[yJw];rfl,by rw[yJw];rfl⟩
variable {op rp:Bool}
theorem yKn.more (h:yKn p o i j k a op rp) (hc:p[k]?=some c) (hop:isOp c):yKn p o i j (k+1) a (op || c != 43) (rp || c != 63):=by
 have hcut:cut p j (k+1)=cut p j k++ [c]:=by rw[yF2 h.lt (show k≤k+1 by omega),yF1 hc]
 refine⟨h.atom,by have:=h.lt;omega,yBh hc,?_,?_,?_,?_⟩
 ·rw[h.chk,yNt hc hop,if_pos rfl]
 ·rw[hcut];intro d hd;rcases List.mem_append.1 hd with hd|hd
  ·exact h.ops d hd
  ·simp at hd;subst hd;exact hop
 ·rw[hcut,List.any_append,←h.opt];simp
 ·rw[hcut,List.any_append,←h.rpt];simp
theorem yKn.rep (h:yKn p o i j k a op rp) (hn:∀c,p[k]?=some c→¬isOp c):yNz p o i k (if j=k then a else .rep a op rp):=by
 obtain⟨n,hg⟩:=h.atom.gr;have h1:=h.atom.lt;have h2:=h.lt;refine⟨by omega,h.le,fun b=>by rw[h.atom.chk,h.chk],hn,n,cut p i j,cut p j k,a,yF2 (by omega) h2,hg,h.ops,?_⟩;by_cases hjk:j=k
 ·subst hjk;rw[if_pos rfl,if_pos (yJw p j)]
 ·have:¬cut p j k= []:=fun q=>by have:=yZz (p:=p) (i:=j) h.le;rw[q]at this;simp at this;omega
  rw[if_neg hjk,if_neg this,←h.opt,←h.rpt]
abbrev byteV (b:UInt8):Value:=.iface 224 (.agg #[.int .u8 (b.toNat:Int)])
def Bet (a b:Nat):Nat→Prop:=fun k=>a≤k∧k<b
structure yEa (w:World) (R:Nat→Prop) (g:Nat) (vs:List Value):Prop where
 blk:R g
 lt:g<w.heap.size
 val:∀(i:Nat) v,vs[i]?=some v→w.cell? ⟨g,i,none⟩=some v
variable {S R:Nat→Prop} {w':World} {g:Nat}
theorem yEa.chg {vs:List Value} (h:yEa w R g vs) (hc:Chg S w w') (hS:∀k,S k→¬R k):yEa w' R g vs:=
 ⟨h.blk,Nat.lt_of_lt_of_le h.lt hc.size,fun i v hv=>by rw[hc.cell (p:=⟨g,i,none⟩) h.lt (fun q=>hS g q h.blk)];exact h.val i v hv⟩
def yQ8 (N:Pat→Value→Prop) (w:World) (lo:Nat→Prop) (ts:List Pat) (u:Value):Prop:=
 (ts= []∧u=.slice none 0 0)∨∃(g cp:Nat) (us:List Value),u=.slice (some ⟨g,0,none⟩) ts.length cp∧us.length=ts.length∧yEa w lo g us∧∀(i:Nat) x t,us[i]?=some x→ts[i]?=some t→N t x
def yT5 (N:Pat→Value→Prop) (w:World) (lo:Nat→Prop) (os:List (List Pat)) (u:Value):Prop:=
 ∃(g cp:Nat) (us:List Value),u=.slice (some ⟨g,0,none⟩) os.length cp∧us.length=os.length∧yEa w lo g us∧∀(i:Nat) x ts,us[i]?=some x→os[i]?=some ts→yQ8 N w lo ts x
def yFh:Nat→World→(Nat→Prop)→Pat→Value→Prop
 |0,_,_,_,_=>False
 |n+1,w,lo,.byte b,v=>v=byteV b
 |n+1,w,lo,.cls f,v=>v=clsV f
 |n+1,w,lo,.rep t o r,v=>∃u,v=.iface 214 (.agg #[u,.bool o,.bool r])∧yFh n w lo t u
 |n+1,w,lo,.alt os,v=>∃u,v=.iface 171 (.agg #[u])∧yT5 (yFh n w lo) w lo os u
variable {lo lo':Nat→Prop} {u:Value}
theorem yQ8.mono {N M:Pat→Value→Prop} (hN:∀t v,N t v→M t v) (hV:∀g vs,yEa w lo g vs→yEa w' lo' g vs):yQ8 N w lo ts u→yQ8 M w' lo' ts u
 | .inl h=>.inl h
 | .inr ⟨g,cp,us,h1,h2,h3,h4⟩=>.inr ⟨g,cp,us,h1,h2,hV _ _ h3,fun i x t hx ht=>hN _ _ (h4 i x t hx ht)⟩
theorem yT5.mono {N M:Pat→Value→Prop} (hN:∀t v,N t v→M t v) (hV:∀g vs,yEa w lo g vs→yEa w' lo' g vs):yT5 N w lo os u→yT5 M w' lo' os u
 |⟨g,cp,us,h1,h2,h3,h4⟩=>⟨g,cp,us,h1,h2,hV _ _ h3,fun i x t hx ht=>(h4 i x t hx ht).mono hN hV⟩
theorem yFh.mono:∀{n m:Nat} {w w':World} {lo lo':Nat→Prop} (hV:∀g vs,yEa w lo g vs→yEa w' lo' g vs) {t:Pat} {v:Value},n≤m→yFh n w lo t v→yFh m w' lo' t v
 |0,_,_,_,_,_,_,_,_,_,h=>h.elim
 |n+1,0,_,_,_,_,_,_,_,hm,_=>by omega
 |n+1,m+1,w,w',lo,lo',hV,.byte b,v,_,h=>h
 |n+1,m+1,w,w',lo,lo',hV,.cls f,v,_,h=>h
 |n+1,m+1,w,w',lo,lo',hV,.rep t o r,v,hm,⟨u,h1,h2⟩=>⟨u,h1,yFh.mono hV (by omega) h2⟩
 |n+1,m+1,w,w',lo,lo',hV,.alt os,v,hm,⟨u,h1,h2⟩=>⟨u,h1,h2.mono (fun t v q=>yFh.mono hV (by omega) q) hV⟩
def yC2 (w:World) (lo:Nat→Prop) (t:Pat) (v:Value):Prop:=∃n,yFh n w lo t v
def yIg (w:World) (lo:Nat→Prop) (ts:List Pat) (u:Value):Prop:=∃n,yQ8 (yFh n w lo) w lo ts u
def yF9 (w:World) (lo:Nat→Prop) (os:List (List Pat)) (u:Value):Prop:=∃n,yT5 (yFh n w lo) w lo os u
theorem yI2 (hc:Chg S w w') (hS:∀k,S k→¬lo k) (hl:∀k,k<w.heap.size→lo k→lo' k):∀g vs,yEa w lo g vs→yEa w' lo' g vs:=fun g vs h=>by
 have h1:=h.chg hc hS
 exact⟨hl g h.lt h1.blk,h1.lt,h1.val⟩
theorem yC2.move {v:Value} (h:yC2 w lo t v) (hc:Chg S w w') (hS:∀k,S k→¬lo k) (hl:∀k,k<w.heap.size→lo k→lo' k):yC2 w' lo' t v:=by obtain⟨n,hn⟩:=h;exact⟨n,hn.mono (yI2 hc hS hl) (Nat.le_refl _)⟩
theorem yIg.move (h:yIg w lo ts u) (hc:Chg S w w') (hS:∀k,S k→¬lo k) (hl:∀k,k<w.heap.size→lo k→lo' k):yIg w' lo' ts u:=by exact zzQ86
theorem yF9.move (h:yF9 w lo os u) (hc:Chg S w w') (hS:∀k,S k→¬lo k) (hl:∀k,k<w.heap.size→lo k→lo' k):yF9 w' lo' os u:=by exact zzQ86
theorem yJc (w:World) (lo:Nat→Prop) (b:UInt8):yC2 w lo (.byte b) (byteV b):=⟨1,rfl⟩
theorem yK0 (w:World) (lo:Nat→Prop) (f:UInt8→Bool):yC2 w lo (.cls f) (clsV f):=⟨1,rfl⟩
theorem yQk {v:Value} (h:yC2 w lo t v) (o r:Bool):yC2 w lo (.rep t o r) (.iface 214 (.agg #[v,.bool o,.bool r])):=by obtain⟨n,hn⟩:=h;exact⟨n+1,v,rfl,hn⟩
theorem yQl (h:yF9 w lo os u):yC2 w lo (.alt os) (.iface 171 (.agg #[u])):=by obtain⟨n,hn⟩:=h;exact⟨n+1,u,rfl,hn⟩
theorem yMx:∀{ts:List Pat} {us:List Value},us.length=ts.length→(∀(i:Nat) x t,us[i]?=some x→ts[i]?=some t→yC2 w lo t x)→∃n,∀(i:Nat) x t,us[i]?=some x→ts[i]?=some t→yFh n w lo t x
 | [],[],_,_=>⟨0,fun i x t hx=>by simp at hx⟩
 |t::ts,u::us,hl,h=>by
  obtain⟨n,hn⟩:=yMx (ts:=ts) (us:=us) (by simpa using hl) (fun i x t hx ht=>h (i+1) x t (by simpa using hx) (by simpa using ht))
  obtain⟨m,hm⟩:=h 0 u t rfl rfl
  refine⟨max n m,fun i x t' hx ht=>?_⟩
  cases i with
  |zero=>simp at hx ht;subst hx ht;exact hm.mono (fun _ _ q=>q) (Nat.le_max_right _ _)
  |succ i=>exact(hn i x t' (by simpa using hx) (by simpa using ht)).mono (fun _ _ q=>q) (Nat.le_max_left _ _)
theorem yO5:∀{os:List (List Pat)} {us:List Value},us.length=os.length→(∀(i:Nat) x ts,us[i]?=some x→os[i]?=some ts→yIg w lo ts x)→∃n,∀(i:Nat) x ts,us[i]?=some x→os[i]?=some ts→yQ8 (yFh n w lo) w lo ts x
 | [],[],_,_=>⟨0,fun i x t hx=>by simp at hx⟩
 |t::ts,u::us,hl,h=>by
  obtain⟨n,hn⟩:=yO5 (os:=ts) (us:=us) (by simpa using hl) (fun i x t hx ht=>h (i+1) x t (by simpa using hx) (by simpa using ht))
  obtain⟨m,hm⟩:=h 0 u t rfl rfl
  refine⟨max n m,fun i x t' hx ht=>?_⟩
  cases i with
  |zero=>simp at hx ht;subst hx ht;exact hm.mono (fun _ _ q=>q.mono (fun _ _ q=>q) (Nat.le_max_right _ _)) (fun _ _ q=>q)
  |succ i=>exact(hn i x t' (by simpa using hx) (by simpa using ht)).mono (fun _ _ q=>q.mono (fun _ _ q=>q) (Nat.le_max_left _ _)) (fun _ _ q=>q)
theorem yC2.iface {v:Value} (h:yC2 w lo t v):∃T c,v=.iface T (.agg c):=by
 obtain⟨n,hn⟩:=h;cases n with
 |zero=>exact hn.elim
 |succ n=>
  cases t with
  |byte b=>exact⟨_,_,hn⟩
  |cls f=>exact⟨_,_,hn⟩
  |rep t o r=>obtain⟨u,h1,_⟩:=hn;exact⟨_,_,h1⟩
  |alt os=>obtain⟨u,h1,_⟩:=hn;exact⟨_,_,h1⟩
def OwnN (w:World) (base:Nat) (v:Value) (us:List Value):Prop:=w.ownsRow base 209 1 v us.length us
def OwnQ (w:World) (base g cp:Nat) (us:List Value):Prop:=w.ownsRow base 195 1 (.slice (some ⟨g,0,none⟩) us.length cp) us.length us
variable {cp:Nat} {us:List Value}
theorem OwnQ.lt (h:OwnQ w base g cp us):base≤g∧g<w.heap.size:=World.ownsRow.lt h g rfl
theorem OwnQ.vals (h:OwnQ w base g cp us) (hR:R g):yEa w R g us:=by refine⟨hR,h.lt.2,fun i v hv=>?_⟩;have hi:=(List.getElem?_eq_some_iff.1 hv).1;rw[World.ownsRow.cellAt h i (by omega),hv]
theorem OwnN.seq {v:Value} (h:OwnN w base v us) (hl:us.length=ts.length) (hN:∀(i:Nat) x t,us[i]?=some x→ts[i]?=some t→yC2 w R t x) (hb:∀k,v.ownBlock=some k→R k):yIg w R ts v:=by
 obtain⟨n,hn⟩:=yMx hl hN;refine⟨n,?_⟩;have h':=h;rcases h.2 with⟨rfl,h0⟩|⟨g,cap,cur,rfl,h1,h2,h3⟩
 ·left;refine⟨List.length_eq_zero_iff.1 (by omega),rfl⟩
 ·right;have hlt:=World.ownsRow.lt h' g rfl;refine⟨g,cap,us,by rw[hl],hl,⟨hb g rfl,hlt.2,fun i v hv=>?_⟩,hn⟩;have hi:=(List.getElem?_eq_some_iff.1 hv).1;rw[World.ownsRow.cellAt h' i (by omega),hv]
theorem Tryz.infoNode:(Tryz.prog.info? 209).map (fun i=>(i.zero,i.size,i.bytes))=some (some .nilIface,1,16):=by kernel_rfl
theorem Tryz.infoSeq:(Tryz.prog.info? 195).map (fun i=>(i.zero,i.size,i.bytes))=some (some (.agg #[.slice none 0 0]),1,24):=by kernel_rfl
def yI1 (p:ByteArray) (base g i o:Nat) (w:World) (R:Nat→Pat→Prop) (e:Ending) (w':World):Prop:=
 Chg (fun k=>k=g) w w'∧((∃(k:Nat) (t:Pat) (v:Value),R k t∧e=.returned v∧yC2 w' (Bet w.heap.size w'.heap.size) t v∧PrAt w' base g p k o)∨(∃(c:Int) (k:Nat),¬c=0∧(∀a,chkM (sb p) i o a=(c,k))∧e=Pf c k))
def yT4 (p:ByteArray) (base g i o:Nat) (w:World) (e:Ending) (w':World):Prop:=
 Chg (fun k=>k=g) w w'∧((∃(k:Nat) (os:List (List Pat)) (u:Value),yFl (sb p) o i k os∧(∀c,(sb p)[k]?=some c→yFu c∧¬c=124)∧e=.returned (.agg #[u])∧yF9 w' (Bet w.heap.size w'.heap.size) os u∧PrAt w' base g p k o)∨(∃(c:Int) (k:Nat),¬c=0∧chkM (sb p) i o false=(c,k)∧e=Pf c k))
def AltC (p:ByteArray) (m:Nat):Prop:=∀(base g i o:Nat) (w:World),p.size-i≤m→i≤p.size→o≤20→PrAt w base g p i o→Calls Tryz.prog 142 #[.pointer (some ⟨g,0,none⟩)] w (yT4 p base g i o w)
def yW4 (p:ByteArray) (m:Nat):Prop:=∀(base g i o:Nat) (w:World),p.size-i≤m→i<p.size→o≤20→(∀c,(sb p)[i]?=some c→¬yFu c)→PrAt w base g p i o→Calls Tryz.prog 165 #[.pointer (some ⟨g,0,none⟩)] w (yI1 p base g i o w (yCn (sb p) o i))
variable {p:ByteArray}
theorem PrAt.open (h:PrAt w base g p i o) (o':Nat):PrAt (w.setCell ⟨g,2,none⟩ (.int .i64 (o':Int))) base g p i o':=yA.set h 2 (.int .i64 (o':Int))
theorem yF9.slice (h:yF9 w lo os u):∃g n cp,u=.slice (some ⟨g,0,none⟩) n cp:=by obtain⟨n,g,cp,us,h1,_⟩:=h;exact⟨g,_,cp,h1⟩
variable {m:Nat}
theorem yVw (H:AltC p m) (hp:p.size≤200) (base g q o:Nat) (w:World) (hm:p.size-(q+1)≤m) (hq:(sb p)[q]?=some 40) (ho:o≤20) (h:PrAt w base g p (q+1) o):
  Calls Tryz.prog 168 #[.pointer (some ⟨g,0,none⟩)] w (yI1 p base g q o w (yCn (sb p) o q)):=by
 have HP:Hid (PrAt w base g p (q+1) o∧(sb p)[q]?=some 40):=⟨h,hq⟩;have hgl:=h.lt.2;have hqp:q+1≤p.size:=by have:=yBh hq;rw[yAn]at this;omega
 have c1:=h.cell (j:=1) rfl;have c2:=h.cell (j:=2) rfl;have f2:=h.frozen 2;clear h hq;by_cases ho20:o=20
 ·subst ho20;go_enter Tryz.func168,Tryz.ntmps168;go_wp2_with fail;exact⟨rfl,Chg.refl _ _,.inr ⟨3,q,by decide,fun a=>by rw[yE HP.2,if_pos rfl],by first|rfl|simp⟩⟩
 have z20:¬(o:Int)=20:=by omega
 have HW:Hid (PrAt (w.setCell ⟨g,2,none⟩ (.int .i64 ((o+1:Nat):Int))) base g p (q+1) (o+1)∧Chg (fun k=>k=g) w (w.setCell ⟨g,2,none⟩ (.int .i64 ((o+1:Nat):Int)))):=⟨PrAt.open HP.1 (o+1),Chg.of_set w g 2 _ rfl⟩;obtain⟨W,hW⟩:=qE (w.setCell ⟨g,2,none⟩ (.int .i64 ((o+1:Nat):Int)):World);have hzW:W.heap.size=w.heap.size:=by rw[hW];simp[World.setCell]
 rw[←hW]at HW;have hW2:W=w.setCell ⟨g,2,none⟩ (.int .i64 ((o:Int)+1)):=hW;have HZ:Hid (W.heap.size=w.heap.size):=hzW;clear hW hzW;go_enter Tryz.func168,Tryz.ntmps168;go_upto_region 4 with fail;rw[←hW2];clear hW2 c1 c2 f2;go_wp2_with fail;refine(H base g (q+1) (o+1) W hm hqp (by omega) HW.1).mono ?_;rintro e w2 ⟨hC2,(⟨k,os,u,hA,hN,rfl,hU,hP2⟩|⟨c,k,hc0,hk,rfl⟩)⟩;case inr=>
  refine⟨rfl,HW.2.trans hC2,.inr ⟨c,k,hc0,fun a=>?_,rfl⟩⟩;rw[yE HP.2,if_neg ho20,hk]
 obtain⟨gu,nu,cu,rfl⟩:=hU.slice;have hkp:k≤p.size:=by have:=hA.le;rw[yAn]at this;exact this
 have HA:Hid (yFl (sb p) (o+1) (q+1) k os∧(∀c,(sb p)[k]?=some c→yFu c∧¬c=124)):=⟨hA,hN⟩;have HW2:Hid (yF9 w2 (Bet w.heap.size w2.heap.size) os (.slice (some ⟨gu,0,none⟩) nu cu)∧PrAt w2 base g p k (o+1)∧Chg (fun k=>k=g) w w2):=⟨by rw[←HZ.out];exact hU,hP2,HW.2.trans hC2⟩;clear hC2 hA hN hU hP2 HW;obtain⟨W3,hW3⟩:=qE (w2.alloc (Obj.cells #[.slice (some ⟨gu,0,none⟩) nu cu] 171):World);have hs2:=HW2.2.2.size;have HW3:Hid (yF9 W3 (Bet w.heap.size w2.heap.size) os (.slice (some ⟨gu,0,none⟩) nu cu)∧PrAt W3 base g p k (o+1)∧Chg (fun k=>k=g) w W3∧yA W3 w.heap.size 171 1 w2.heap.size [.slice (some ⟨gu,0,none⟩) nu cu]):=by
  have hb:Below w2.heap.size w2 W3:=by rw[hW3];exact qB
  refine⟨HW2.1.move (S:=fun _=>False) (Chg.of_below hb) (fun k q=>q.elim) (fun k _ q=>q),yA.below HW2.2.1 hb,HW2.2.2.trans (Chg.of_below hb),?_⟩;rw[hW3];exact yAb w2 _ hs2 rfl
 clear HW2;go_upto_region 5 with fail;rw[←hW3];obtain⟨IB,hIB⟩:=qE w2.heap.size;rw[←hIB]at HW3;rw[←hIB];have hib:w.heap.size≤IB:=by omega
 clear hW3 hIB hs2;go_wp2_with fail;refine(yEl 41 HW3.2.1 hp).mono ?_;rintro e w4 ⟨hC4,(⟨hx,rfl,hP4⟩|⟨hx,rfl,hP4⟩)⟩;case inr=>
  have HF:Hid (PrAt w4 base g p k (o+1)∧Chg (fun k=>k=g) w w4∧¬(sb p)[k]?=some 41):=⟨hP4,HW3.2.2.1.trans hC4,hx⟩;clear hC4 hx hP4;go_wp2_with fail;refine(yO HF.1).mono ?_;rintro e w5 ⟨rfl,rfl⟩;refine⟨rfl,HF.2.1,.inr ⟨2,k,by decide,fun a=>?_,rfl⟩⟩;rw[yE HP.2,if_neg ho20,HA.1.chk];by_cases hk:k<(sb p).length
  ·obtain⟨c,hc⟩:∃c,(sb p)[k]?=some c:=⟨_,List.getElem?_eq_getElem hk⟩;obtain⟨h1,h2⟩:=HA.2 c hc;rcases h1 with h1|h1|h1|h1
   ·rw[yNt hc h1];rfl
   ·exact absurd h1 h2
   ·subst h1;exact absurd hc HF.2.2
   ·subst h1;rw[yNs hc]
  ·rw[yIe hk,if_pos (by omega)];have:=HA.1.le;rw[show k=(sb p).length by omega]
 have HF:Hid (yF9 w4 (Bet w.heap.size IB) os (.slice (some ⟨gu,0,none⟩) nu cu)∧PrAt w4 base g p (k+1) (o+1)∧Chg (fun k=>k=g) w w4∧yA w4 w.heap.size 171 1 IB [.slice (some ⟨gu,0,none⟩) nu cu]∧(sb p)[k]?=some 41):=
  ⟨HW3.1.move hC4 (fun k q=>by subst q;exact fun z=>by have:=z.1;omega) (fun k _ q=>q),hP4,HW3.2.2.1.trans hC4,yA.chg HW3.2.2.2 hC4 (by omega),hx⟩
 clear hC4 hx hP4 HW3;go_wp2_with fail;refine(yLk _ w4).mono ?_;rintro e w5 ⟨rfl,hw5⟩;rw[hw5];clear hw5;have d2:=HF.2.1.cell (j:=2) rfl;have g2:=HF.2.1.frozen 2;have HZ4:Hid (yF9 (w4.setCell ⟨g,2,none⟩ (.int .i64 (o:Int))) (Bet w.heap.size IB) os (.slice (some ⟨gu,0,none⟩) nu cu)∧PrAt (w4.setCell ⟨g,2,none⟩ (.int .i64 (o:Int))) base g p (k+1) o∧Chg (fun k=>k=g) w (w4.setCell ⟨g,2,none⟩ (.int .i64 (o:Int)))∧yA (w4.setCell ⟨g,2,none⟩ (.int .i64 (o:Int))) w.heap.size 171 1 IB [.slice (some ⟨gu,0,none⟩) nu cu]):=by have hc:=Chg.of_set w4 g 2 (.int .i64 (o:Int)) (S:=fun k=>k=g) rfl;exact⟨HF.1.move hc (fun k q=>by subst q;exact fun z=>by have:=z.1;omega) (fun k _ q=>q),PrAt.open HF.2.1 o,HF.2.2.1.trans hc,yA.chg HF.2.2.2.1 hc (by omega)⟩
 have HC:Hid (yCn (sb p) o q (k+1) (.alt os)):=yCn.group HP.2 ho20 HA.1 HF.2.2.2.2;obtain⟨W6,hW6⟩:=qE (w4.setCell ⟨g,2,none⟩ (.int .i64 (o:Int)):World);rw[←hW6]at HZ4;clear HF HA;go_upto_region 7 with fail;rw[←hW6];clear hW6 d2 g2;have b0:=HZ4.2.2.2.cell (j:=0) rfl;go_wp2_with fail;go_ret;exact⟨HZ4.2.2.1,.inl ⟨k+1,.alt os,_,HC.out,rfl,yQl (HZ4.1.move (S:=fun _=>False) (Chg.refl _ _) (fun k q=>q.elim) (fun k hk q=>⟨q.1,hk⟩)),HZ4.2.1⟩⟩
theorem yHg {x:UInt8} (h:¬x=c):¬(x.toNat:Int)=(c.toNat:Int):=fun q=>h (UInt8.toNat_inj.1 (by omega))
theorem yZ2 (H:AltC p m) (hp:p.size≤200):yW4 p (m+1):=by
 intro base g i o w hm hi ho he h;obtain⟨x,hx⟩:∃x,(sb p)[i]?=some x:=⟨_,List.getElem?_eq_getElem (by rw[yAn];exact hi)⟩;have HX:Hid ((sb p)[i]?=some x∧¬yFu x):=⟨hx,he x hx⟩;have HP:Hid (PrAt w base g p i o):=h;have hgl:=h.lt.2;clear h he hx;go_enter Tryz.func165,Tryz.ntmps165;go_wp2_with fail;refine(yI8 HP.out hp HX.1).mono ?_;rintro e w1 ⟨rfl,hP1,hC1⟩;have HW1:Hid (PrAt w1 base g p (i+1) o∧Chg (fun k=>k=g) w w1):=⟨hP1,hC1⟩;have hs1:=hC1.size;clear hP1 hC1 HP;by_cases h46:x=46
 ·subst h46;go_upto_region 5 with fail;apply wp_region_list;refine yBv rfl _ _ rfl (setA (fun _=>false)) (by simp;exact yNu) ?_;simp only[Act.put,Act.eval,List.setIfInBounds_toArray,List.set_cons_succ,List.set_cons_zero];refine yDj rfl 167 #[.agg (setA (fun _=>false))] (by simp[execOp,go_sem,Act.eval,Tryz.func167]) ?_;refine(yHe (fun _=>false) w1).mono ?_;rintro e w2 ⟨rfl,hb2⟩;simp only[Act.put,Act.eval,List.setIfInBounds_toArray,List.set_cons_succ,List.set_cons_zero];refine yBv rfl _ _ rfl (setA (fun _=>true)) (by simp[Act.eval];exact yJ3 _ (yAi _)) ?_;simp only[Act.put,Act.eval,List.setIfInBounds_toArray,List.set_cons_succ,List.set_cons_zero];go_wp2_with fail;go_ret;exact⟨HW1.2.trans (Chg.of_below hb2),.inl ⟨i+1,_,_,yCn.dot HX.1,rfl,yK0 _ _ _,yA.below HW1.1 hb2⟩⟩
 have z46:¬(x.toNat:Int)=46:=yHg (c:=46) h46;by_cases h92:x=92
 ·subst h92;go_wp2_with fail;refine(yH8 HW1.1 hp (by omega)).mono ?_;rintro e w2 ⟨hC2,(⟨y,hy,rfl,hP2⟩|⟨hy,rfl⟩)⟩;case inr=>
   refine⟨rfl,HW1.2.trans hC2,.inr ⟨2,i+1,by decide,fun a=>?_,rfl⟩⟩;have h1:=yBh HX.1;have h2:¬i+1<(sb p).length:=fun q=>by rw[List.getElem?_eq_getElem q]at hy;cases hy
   rw[yId HX.1,if_pos (by omega)];rw[show i+1=(sb p).length by omega]
  have HF:Hid (PrAt w2 base g p (i+1+1) o∧Chg (fun k=>k=g) w w2∧(sb p)[i+1]?=some y):=⟨hP2,HW1.2.trans hC2,hy⟩;clear hC2 hy hP2;go_wp2_with fail;go_ret;exact⟨HF.2.1,.inl ⟨i+1+1,_,_,yCn.esc HX.1 HF.2.2,rfl,yJc _ _ _,HF.1⟩⟩
 have z92:¬(x.toNat:Int)=92:=yHg (c:=92) h92;by_cases h40:x=40
 ·subst h40;go_wp2_with fail;refine(yVw H hp base g i o w1 (by omega) HX.1 ho HW1.1).mono ?_;rintro e w2 ⟨hC2,(⟨k,t,v,hR,rfl,hN,hP2⟩|⟨c,k,hc0,hk,rfl⟩)⟩;case inr=>exact⟨rfl,HW1.2.trans hC2,.inr ⟨c,k,hc0,hk,rfl⟩⟩
  have HF:Hid (yCn (sb p) o i k t∧yC2 w2 (Bet w.heap.size w2.heap.size) t v∧PrAt w2 base g p k o∧Chg (fun k=>k=g) w w2):=⟨hR,hN.move (S:=fun _=>False) (Chg.refl _ _) (fun k q=>q.elim) (fun k hk q=>⟨by have:=q.1;omega,hk⟩),hP2,HW1.2.trans hC2⟩;obtain⟨T,c,rfl⟩:=hN.iface;clear hC2 hR hN hP2;go_wp2_with fail;go_ret;exact⟨HF.2.2.2,.inl ⟨k,t,_,HF.1,rfl,HF.2.1,HF.2.2.1⟩⟩
 have z40:¬(x.toNat:Int)=40:=yHg (c:=40) h40;by_cases h91:x=91
 ·subst h91;go_wp2_with fail;refine(yQy HW1.1 hp (by omega)).mono ?_;rintro e w2 ⟨hC2,(⟨f,k,hk,rfl,hP2⟩|⟨c,k,hk,rfl⟩)⟩;case inr=>exact⟨rfl,HW1.2.trans hC2,.inr ⟨c,k,yL hk,fun a=>by rw[yEs HX.1,hk],rfl⟩⟩
  have HF:Hid (PrAt w2 base g p k o∧Chg (fun k=>k=g) w w2∧yBa (sb p) (i+1)=.inl (f,k)):=⟨hP2,HW1.2.trans hC2,hk⟩;clear hC2 hk hP2;go_wp2_with fail;go_ret;exact⟨HF.2.1,.inl ⟨k,_,_,yCn.class HX.1 HF.2.2,rfl,yK0 _ _ _,HF.1⟩⟩
 have z91:¬(x.toNat:Int)=91:=yHg (c:=91) h91;have HS:Hid (¬yN7 x):=fun q=>by
  rcases q with q|q|q|q|q
  ·exact HX.2 q
  ·exact h40 q
  ·exact h91 q
  ·exact h46 q
  ·exact h92 q
 go_wp2_with fail;go_ret;exact⟨HW1.2,.inl ⟨i+1,_,_,yCn.plain HX.1 HS.out,rfl,yJc _ _ _,HW1.1⟩⟩
theorem yLy {p:List UInt8} {l:List UInt8} (h:inB p i l=true):∃c,p[i]?=some c∧c∈l:=by
 unfold inB at h;split at h
 ·next c hc=>exact⟨c,hc,by simpa using h⟩
 ·cases h
theorem yIv {p:List UInt8} {l:List UInt8} (h:inB p i l=false):∀c,p[i]?=some c→¬c∈l:=by intro c hc;unfold inB at h;rw[hc]at h;simpa using h
theorem yMw:c∈([42,43,63]:List UInt8)↔isOp c:=by simp[isOp]
structure RepJ (p:ByteArray) (base g i o j:Nat) (a:Pat) (v:Value) (RB:Nat) (w:World) (k:Nat) (op rp:Bool) (wr:World):Prop where
 ops:yKn (sb p) o i j k a op rp
 rd:PrAt wr base g p k o
 box:yA wr w.heap.size 214 3 RB [v,.bool op,.bool rp]
 node:yC2 wr (Bet w.heap.size RB) a v
 chg:Chg (fun k=>k=g) w wr
theorem RepJ.move {v:Value} {RB:Nat} {wr:World} (h:RepJ p base g i o j a v RB w k op rp wr) (hb:Below wr.heap.size wr w'):RepJ p base g i o j a v RB w k op rp w':=
 ⟨h.ops,yA.below h.rd hb,h.box.below hb,h.node.move (S:=fun _=>False) (Chg.of_below hb) (fun k q=>q.elim) (fun k _ q=>q),h.chg.trans (Chg.of_below hb)⟩
theorem RepJ.step {v:Value} {RB:Nat} {wr:World} (h:RepJ p base g i o j a v RB w k op rp wr) (hg:g<w.heap.size) (hc:(sb p)[k]?=some c) (ho:isOp c) (hP:PrAt w' base g p (k+1) o) (hC:Chg (fun k=>k=g) wr w'):
  RepJ p base g i o j a v RB w (k+1) (op || c != 43) (rp || c != 63) ((w'.setCell ⟨RB,1,none⟩ (.bool (op || c != 43))).setCell ⟨RB,2,none⟩ (.bool (rp || c != 63))):=by
 have hr:=h.box.lt.1;have c1:=Chg.of_set w' RB 1 (.bool (op || c != 43)) (S:=fun k=>k=RB) rfl;have c2:=Chg.of_set (w'.setCell ⟨RB,1,none⟩ (.bool (op || c != 43))) RB 2 (.bool (rp || c != 63)) (S:=fun k=>k=RB) rfl;have c3:=c1.trans c2;refine⟨h.ops.more hc ho,yA.chg hP c3 (by omega),((h.box.chg hC (by omega)).set 1 _).set 2 _,?_,((h.chg.trans hC).absorb c3 (fun j q=>.inr (by omega)))⟩;exact(h.node.move hC (fun k q=>by subst q;exact fun z=>by have:=z.1;omega) (fun k _ q=>q)).move c3 (fun k q=>by subst q;exact fun z=>by have:=z.2;omega) (fun k _ q=>q)
def RepC (p:ByteArray) (m:Nat):Prop:=∀(base g i o:Nat) (w:World),p.size-i≤m→i<p.size→o≤20→(∀c,(sb p)[i]?=some c→¬yFu c)→PrAt w base g p i o→Calls Tryz.prog 161 #[.pointer (some ⟨g,0,none⟩)] w (yI1 p base g i o w (yNz (sb p) o i))
theorem yX (H:yW4 p m) (hp:p.size≤200):RepC p m:=by
 intro base g i o w hm hi ho he h;have HP:Hid (PrAt w base g p i o):=h;have hgl:=h.lt.2;clear h;go_enter Tryz.func161,Tryz.ntmps161;go_wp2_with fail;refine(H base g i o w hm hi ho he HP.out).mono ?_;rintro e w1 ⟨hC1,(⟨j,a,v,hA,rfl,hN,hP1⟩|⟨c,k,hc0,hk,rfl⟩)⟩;case inr=>exact⟨rfl,hC1,.inr ⟨c,k,hc0,hk,rfl⟩⟩
 obtain⟨T,cs,rfl⟩:=hN.iface;have HW1:Hid (yCn (sb p) o i j a∧yC2 w1 (Bet w.heap.size w1.heap.size) a (.iface T (.agg cs))∧PrAt w1 base g p j o∧Chg (fun k=>k=g) w w1):=⟨hA,hN,hP1,hC1⟩;clear hC1 hA hN hP1 HP;go_wp2_with fail;refine(yD6 ⟨#[42,43,63]⟩ HW1.2.2.1 hp).mono ?_;rintro e w2 ⟨rfl,hb2⟩
 have HW2:Hid (yC2 w2 (Bet w.heap.size w2.heap.size) a (.iface T (.agg cs))∧PrAt w2 base g p j o∧Chg (fun k=>k=g) w w2):=
  ⟨HW1.2.1.move (S:=fun _=>False) (Chg.of_below hb2) (fun k q=>q.elim) (fun k hk q=>⟨q.1,by have:=hb2.size;omega⟩),yA.below HW1.2.2.1 hb2,HW1.2.2.2.trans (Chg.of_below hb2)⟩
 have HA:Hid (yCn (sb p) o i j a):=HW1.1;obtain⟨q,hq⟩:=qE (inB (sb p) j (sb ⟨#[42,43,63]⟩));have HQ:Hid (inB (sb p) j [42,43,63]=q):=hq.symm;rw[←hq];clear hb2 hq HW1;cases q
 ·have HR:Hid (yNz (sb p) o i j a):=by have:=(yKn.zero HA.out).rep (fun c hc hop=>yIv HQ.out c hc (yMw.2 hop));rw[if_pos rfl]at this;exact this
  go_wp2_with fail;go_ret;exact⟨HW2.2.2,.inl ⟨j,a,_,HR.out,rfl,HW2.1,HW2.2.1⟩⟩
 have hjp:j≤p.size:=by have:=HA.le;rw[yAn]at this;exact this
 obtain⟨W3,hW3⟩:=qE (w2.alloc (Obj.cells #[.iface T (.agg cs),.bool false,.bool false] 214):World);have hs2:=HW2.2.2.size;have HW3:Hid (RepJ p base g i o j a (.iface T (.agg cs)) w2.heap.size w j false false W3):=by
  have hb:Below w2.heap.size w2 W3:=by rw[hW3];exact qB
  refine⟨yKn.zero HA.out,yA.below HW2.2.1 hb,?_,HW2.1.move (S:=fun _=>False) (Chg.of_below hb) (fun k q=>q.elim) (fun k _ q=>q),HW2.2.2.trans (Chg.of_below hb)⟩;rw[hW3];exact yAb w2 _ hs2 rfl
 have HF0:Hid (∃c,(sb p)[j]?=some c∧isOp c):=by obtain⟨c,h1,h2⟩:=yLy HQ.out;exact⟨c,h1,yMw.1 h2⟩
 clear HW2;go_wp2_with fail;rw[←hW3];obtain⟨RB,hRB⟩:=qE w2.heap.size;rw[←hRB]at HW3;rw[←hRB];have hrb:w.heap.size≤RB:=by omega
 clear hW3 hRB hs2;go_loopw[5] (fun sg wr=>∃(k:Nat) (op rp:Bool),j≤k∧k≤p.size∧(k=j→∃c,(sb p)[j]?=some c∧isOp c)∧RepJ p base g i o j a (.iface T (.agg cs)) RB w k op rp wr) (fun _ wr=>p.size-atOf wr g);case atStart=>exact⟨j,false,false,Nat.le_refl _,hjp,fun _=>HF0.out,HW3.out⟩
 case round=>
  obtain⟨k,op,rp,hjk,hkp,hne,hJ⟩:=hrel;have HJ:Hid (RepJ p base g i o j a (.iface T (.agg cs)) RB w k op rp wr∧(k=j→∃c,(sb p)[j]?=some c∧isOp c)∧atOf wr g=k):=⟨hJ,hne,yF4 hJ.rd⟩;clear hJ hne HW3;go_wp2_with fail;refine(yD6 ⟨#[42,43,63]⟩ HJ.1.rd hp).mono ?_;rintro e w5 ⟨rfl,hb5⟩;have HJ5:Hid (RepJ p base g i o j a (.iface T (.agg cs)) RB w k op rp w5):=HJ.1.move hb5;obtain⟨q,hq⟩:=qE (inB (sb p) k (sb ⟨#[42,43,63]⟩));have HQ5:Hid (inB (sb p) k [42,43,63]=q):=hq.symm;rw[←hq];clear hb5 hq;cases q
  ·have HR:Hid (yNz (sb p) o i k (.rep a op rp)):=by
    have h1:=HJ5.ops.rep (fun c hc hop=>yIv HQ5.out c hc (yMw.2 hop));rw[if_neg (fun q=>by
     obtain⟨c,hc,hop⟩:=HJ.2.1 q.symm
     rw[q]at hc
     exact yIv HQ5.out c hc (yMw.2 hop))]at h1
    exact h1
   obtain⟨b0,b1,b2⟩:=HJ5.box.c3;go_wp2_with fail;go_ret;exact⟨HJ5.chg,.inl ⟨k,_,_,HR.out,rfl,yQk (HJ5.node.move (S:=fun _=>False) (Chg.refl _ _) (fun k q=>q.elim) (fun k hk q=>⟨q.1,hk⟩)) op rp,HJ5.rd⟩⟩
  ·obtain⟨c,hc,hcm⟩:=yLy HQ5.out;have HC:Hid ((sb p)[k]?=some c∧isOp c):=⟨hc,yMw.1 hcm⟩;have hk1:k+1≤p.size:=by have:=yBh hc;rw[yAn]at this;omega
   clear hc hcm;go_wp2_with fail;refine(yI8 HJ5.rd hp HC.1).mono ?_;rintro e w6 ⟨rfl,hP6,hC6⟩;have HJ6:=HJ5.step hgl HC.1 HC.2 hP6 hC6;have hbx:=HJ5.box.chg hC6 (show¬RB=g by omega);have b1:=hbx.cell (j:=1) rfl;have b2:=hbx.cell (j:=2) rfl;have g1:=hbx.frozen 1;have g2:=hbx.frozen 2;have HJN:Hid (RepJ p base g i o j a (.iface T (.agg cs)) RB w (k+1) (op || c != 43) (rp || c != 63) ((w6.setCell ⟨RB,1,none⟩ (.bool (op || c != 43))).setCell ⟨RB,2,none⟩ (.bool (rp || c != 63)))):=HJ6;have HAt:Hid (atOf wr g=k):=HJ.2.2;clear HJ6 hbx hP6 hC6 HJ5 HJ;rcases HC.2 with rfl|rfl|rfl<;>cases op<;>cases rp
   all_goals go_wp2_with fail
   all_goals go_roundw
   all_goals first
    |exact⟨k+1,_,_,by omega,hk1,fun q=>by omega,HJN.out⟩
    |exact Nat.lt_of_le_of_lt (Nat.le_of_eq (congrArg (p.size- ·) (yF4 HJN.rd))) (by rw[HAt.out];omega)
section
def xAe (p:ByteArray) (base g i o:Nat) (w:World) (e:Ending) (w':World):Prop:=
 Chg (fun k=>k=g) w w'∧((∃(k:Nat) (ts:List Pat) (u:Value),yK (sb p) o i k ts∧(∀c,(sb p)[k]?=some c→yFu c)∧e=.returned (.agg #[u])∧yIg w' (Bet w.heap.size w'.heap.size) ts u∧PrAt w' base g p k o)∨(∃(c:Int) (k:Nat),¬c=0∧chkM (sb p) i o false=(c,k)∧e=Pf c k))
def SeqC (p:ByteArray) (m:Nat):Prop:=∀(base g i o:Nat) (w:World),p.size-i≤m→i≤p.size→o≤20→PrAt w base g p i o→Calls Tryz.prog 152 #[.pointer (some ⟨g,0,none⟩)] w (xAe p base g i o w)
def NR (lo:Nat) (v:Value):Nat→Prop:=fun k=>lo≤k∧¬v.ownBlock=some k
structure SeqJ (p:ByteArray) (base g i o:Nat) (w:World) (k:Nat) (ts:List Pat) (us:List Value) (v:Value) (wr:World):Prop where
 ok:yK (sb p) o i k ts
 rd:PrAt wr base g p k o
 res:yA wr w.heap.size 195 1 w.heap.size [.slice none 0 0]
 box:yA wr w.heap.size 195 1 (w.heap.size+1) [v]
 row:OwnN wr (w.heap.size+2) v us
 len:us.length=ts.length
 nodes:∀(i:Nat) x t,us[i]?=some x→ts[i]?=some t→yC2 wr (NR (w.heap.size+2) v) t x
 chg:Chg (fun k=>k=g) w wr
 glt:g<w.heap.size
theorem OwnN.chg {v:Value} (h:OwnN w base v us) (hc:Chg S w w') (hn:∀k,v.ownBlock=some k→¬S k):OwnN w' base v us:=yA2 h hc hn
theorem OwnN.slice {v:Value} (h:OwnN w base v us):∃a cp,v=.slice a us.length cp:=by
 rcases h.2 with⟨rfl,h0⟩|⟨g,cap,cur,rfl,_⟩
 ·exact⟨none,0,by rw[h0]⟩
 ·exact⟨_,_,rfl⟩
variable {p:ByteArray} {base g i o:Nat} {w:World} {k:Nat} {ts:List Pat} {us:List Value} {v:Value} {wr:World}
theorem SeqJ.move (h:SeqJ p base g i o w k ts us v wr) (hb:Below wr.heap.size wr w'):SeqJ p base g i o w k ts us v w':=
 ⟨h.ok,yA.below h.rd hb,h.res.below hb,h.box.below hb,h.row.chg (S:=fun _=>False) (Chg.of_below hb) (fun _ _ q=>q),h.len,fun i x t hx ht=>(h.nodes i x t hx ht).move (S:=fun _=>False) (Chg.of_below hb) (fun k q=>q.elim) (fun k _ q=>q),h.chg.trans (Chg.of_below hb),h.glt⟩
structure SeqK (p:ByteArray) (base g i o:Nat) (w:World) (k:Nat) (ts:List Pat) (us:List Value) (v:Value) (t:Pat) (x:Value) (wr:World):Prop where
 ok:yK (sb p) o i k (ts++ [t])
 rd:PrAt wr base g p k o
 res:yA wr w.heap.size 195 1 w.heap.size [.slice none 0 0]
 box:yA wr w.heap.size 195 1 (w.heap.size+1) [v]
 row:OwnN wr (w.heap.size+2) v us
 len:us.length=ts.length
 nodes:∀(i:Nat) y s,(us++ [x])[i]?=some y→(ts++ [t])[i]?=some s→yC2 wr (NR (w.heap.size+2) v) s y
 chg:Chg (fun k=>k=g) w wr
 glt:g<w.heap.size
variable {x:Value}
theorem SeqK.move (h:SeqK p base g i o w k ts us v t x wr) (hb:Below wr.heap.size wr w'):SeqK p base g i o w k ts us v t x w':=
 ⟨h.ok,yA.below h.rd hb,h.res.below hb,h.box.below hb,h.row.chg (S:=fun _=>False) (Chg.of_below hb) (fun _ _ q=>q),h.len,fun i x t hx ht=>(h.nodes i x t hx ht).move (S:=fun _=>False) (Chg.of_below hb) (fun k q=>q.elim) (fun k _ q=>q),h.chg.trans (Chg.of_below hb),h.glt⟩
theorem yH6 {α:Type} {l:List α} {a b:α} {i:Nat} (h:(l++ [a])[i]?=some b):l[i]?=some b∨(i=l.length∧b=a):=by
 by_cases hi:i<l.length
 ·rw[List.getElem?_append_left hi]at h;exact .inl h
 ·rw[List.getElem?_append_right (by omega)]at h;have h2:=(List.getElem?_eq_some_iff.1 h).1;simp at h2;have:i-l.length=0:=by omega
  rw[this]at h;simp at h;exact .inr ⟨by omega,h.symm⟩
theorem SeqJ.rep {w6:World} {k6:Nat} (h:SeqJ p base g i o w k ts us v wr) (hC:Chg (fun k=>k=g) wr w6) (hR:yNz (sb p) o k k6 t) (hN:yC2 w6 (Bet wr.heap.size w6.heap.size) t x) (hP:PrAt w6 base g p k6 o):SeqK p base g i o w k6 ts us v t x w6:=by
 have hg:=h.glt;have hz:=h.chg.size;have hb1:=h.box.lt.2;have hv:∀j,v.ownBlock=some j→w.heap.size+2≤j∧j<wr.heap.size:=fun j hj=>World.ownsRow.lt h.row j hj;refine⟨h.ok.more hR,hP,h.res.chg hC (by omega),h.box.chg hC (by omega),h.row.chg hC (fun j hj q=>by have:=(hv j hj).1;omega),h.len,?_,h.chg.trans hC,hg⟩;intro j y s hy hs;rcases yH6 hy with hy|⟨hj,rfl⟩
 ·rcases yH6 hs with hs|⟨hj,rfl⟩
  ·exact(h.nodes j y s hy hs).move hC (fun q hq=>by subst hq;exact fun z=>by have:=z.1;omega) (fun q _ z=>z)
  ·have:=(List.getElem?_eq_some_iff.1 hy).1;have:=h.len;omega
 ·rcases yH6 hs with hs|⟨_,rfl⟩
  ·have:=(List.getElem?_eq_some_iff.1 hs).1;have:=h.len;omega
  ·refine hN.move (S:=fun _=>False) (Chg.refl _ _) (fun q hq=>hq.elim) (fun q _ z=>⟨?_,fun e=>?_⟩)
   ·have:=z.1;omega
   ·have:=(hv q e).2;have:=z.1;omega
theorem SeqK.push {v':Value} (h:SeqK p base g i o w k ts us v t x wr) (hO:OwnN w' (w.heap.size+2) v' (us++ [x])) (hg:wr.grownBy w' v.ownBlock) (hat:∀j,v'.ownBlock=some j→v.ownBlock=some j∨j=wr.heap.size):
  SeqJ p base g i o w k (ts++ [t]) (us++ [x]) v' (w'.setCell ⟨w.heap.size+1,0,none⟩ v')∧w'.cell? ⟨w.heap.size+1,0,none⟩=some v∧w'.frozen? ⟨w.heap.size+1,0,none⟩=false:=by
 have hgl:=h.glt;have hv:∀j,v.ownBlock=some j→w.heap.size+2≤j∧j<wr.heap.size:=fun j hj=>World.ownsRow.lt h.row j hj;have hv':∀j,v'.ownBlock=some j→w.heap.size+2≤j∧j<w'.heap.size:=fun j hj=>World.ownsRow.lt hO j hj;have hc:Chg (fun j=>v.ownBlock=some j) wr w':=Chg.of_grown hg (fun j hj=>hj);have hs:Chg (fun j=>j=w.heap.size+1) w' (w'.setCell ⟨w.heap.size+1,0,none⟩ v'):=Chg.of_set w' (w.heap.size+1) 0 _ rfl;have hbx:=h.box.chg hc (fun q=>by have:=(hv _ q).1;omega);refine⟨⟨h.ok,?_,?_,hbx.set 0 _,hO.chg hs (fun j hj q=>by have:=(hv' j hj).1;omega),by rw[List.length_append,List.length_append,h.len];rfl,?_,?_,hgl⟩,hbx.cell (j:=0) rfl,hbx.frozen 0⟩
 ·exact yA.chg (yA.chg h.rd hc (fun q=>by have:=(hv _ q).1;omega)) hs (by omega)
 ·exact(h.res.chg hc (fun q=>by have:=(hv _ q).1;omega)).chg hs (by omega)
 ·intro j y s hy hs2;have h1:=(h.nodes j y s hy hs2).move hc (fun q hq z=>z.2 hq) (lo':=NR (w.heap.size+2) v') (fun q hq z=>⟨z.1,fun e=>by rcases hat q e with e|e;exact z.2 e;omega⟩);exact h1.move hs (fun q hq=>by subst hq;exact fun z=>by have:=z.1;omega) (fun q _ z=>z)
 ·exact(h.chg.absorb hc (fun j q=>.inr (by have:=(hv j q).1;omega))).absorb hs (fun j q=>.inr (by omega))
variable {a:Act}
theorem yIo {ops:Array Oper} {oo:Oper} {K:Act→World→Prop} {Q:Exit→Act→World→Prop} {E:Prop} (w:World) (hgd:oo.guard=none) (s x:Operand)
  (ho:oo.op=.call {callee:=.builtin .append,args:=#[s,x],argTypes:=#[193,193]})
  (base n blk:Nat) (v y:Value) (us:List Value) (hn:n=us.length) (hs:a.eval s=v) (hx:a.eval x=.slice (some ⟨blk,0,none⟩) 1 1) (hO:OwnN w base v us)
  (hc:w.cell? ⟨blk,0,none⟩=some y) (hy:y.oneCell'=true) (hlen:us.length≤1000) (hbase:base≤w.heap.size)
  (h:∀g' cp' w',OwnN w' base (.slice (some ⟨g',0,none⟩) (n+1) cp') (us++ [y])→w.grownBy w' v.ownBlock→(v.ownBlock=some g'∨g'=w.heap.size)→K (a.put oo.dst (.slice (some ⟨g',0,none⟩) (n+1) cp')) w'):if Region.wanted oo (yielded ops a.tmps)=true then Oper.wp Tryz.prog oo a w K Q else E:=by
 subst hn;obtain⟨i,hi,hz0,hz1,hz2⟩:=info_parts Tryz.infoNode;refine step_append_lies w hgd s x 193 ho base 209 i _ 1 16 Tryz.underlying193 hi hz0 hz1 hz2 rfl (by decide) v us.length us hs hO ⟨blk,0,none⟩ 1 1 [y] hx rfl ?_ ?_ (by decide) ?_ ?_ hbase w.heap.size rfl ?_
 ·exact zzQ78
 ·intro u hu;simp at hu;subst hu;exact hy
 ·unfold maxLen;omega
 ·omega
 ·intro g' cp' w' hO' hgr hat hlt;refine h g' cp' w' ?_ hgr hat;unfold OwnN;rw[List.length_append];exact hO'
variable {p:ByteArray}
theorem yW9 (H:RepC p m) (hp:p.size≤200):SeqC p m:=by
 intro base g i o w hm hi ho h;have hgl:=h.lt.2;obtain⟨W0,hW0⟩:=qE ((w.alloc (Obj.cells #[.slice none 0 0] 195)).alloc (Obj.cells #[.slice none 0 0] 195):World);have HJ0:Hid (SeqJ p base g i o w i [] [] (.slice none 0 0) W0):=by
  have hb:Below w.heap.size w W0:=by rw[hW0];exact(qB).alloc (by simp) _
  have h1:yA W0 w.heap.size 195 1 w.heap.size [.slice none 0 0]:=by rw[hW0];exact yA.ofHeap (vs:=#[.slice none 0 0]) (heap_alloc2_old w _ _) (Nat.le_refl _) rfl
  have h2:yA W0 w.heap.size 195 1 (w.heap.size+1) [.slice none 0 0]:=by rw[hW0];exact yA.ofHeap (vs:=#[.slice none 0 0]) (heap_alloc2_new w _ _) (by omega) rfl
  exact⟨yK.nil (by rw[yAn];exact hi),yA.below h hb,h1,h2,World.ownsRow_nil ..,rfl,fun i x t hx=>by simp at hx,Chg.of_below hb,hgl⟩
 clear h;go_enter Tryz.func152,Tryz.ntmps152;go_wp2_with fail;rw[←hW0];clear hW0;go_loopw[] (fun wr=>∃(k:Nat) (ts:List Pat) (us:List Value) (v:Value),i≤k∧k≤p.size∧us.length≤k∧SeqJ p base g i o w k ts us v wr) (fun wr=>p.size-atOf wr g);case atStart=>exact⟨i,[],[],_,Nat.le_refl _,hi,Nat.zero_le _,HJ0.out⟩
 case round=>
  obtain⟨k,ts,us,v,hik,hkp,hul,hJ⟩:=hrel;have HJ:Hid (SeqJ p base g i o w k ts us v wr∧atOf wr g=k):=⟨hJ,yF4 hJ.rd⟩;obtain⟨va,vc,hva⟩:=hJ.row.slice;subst hva;clear hJ HJ0;have hlt:=HJ.1.rd.lt.2;obtain⟨c0,c1⟩:=HJ.1.rd.c2;have e0:∀n:Out wr,n.u.cell? ⟨g,0,none⟩=some (.string p):=fun n=>(n.out.cell (p:=⟨g,0,none⟩) hlt).trans c0;have e1:∀n:Out wr,n.u.cell? ⟨g,1,none⟩=some (.int .i64 (k:Int)):=fun n=>(n.out.cell (p:=⟨g,1,none⟩) hlt).trans c1;obtain⟨q,hq⟩:=qE (inB (sb p) k (sb ⟨#[42,43,63,124,41,93]⟩));have HQ:Hid (inB (sb p) k [42,43,63,124,41,93]=q):=hq.symm;have HI:Hid (∀n:Out wr,Calls Tryz.prog 160 #[.pointer (some ⟨g,0,none⟩),.string ⟨#[42,43,63,124,41,93]⟩] n.u fun e w'=>e=.returned (.bool q)∧Below n.u.heap.size n.u w'):=fun n=>by rw[hq];exact yD6 _ (yA.below HJ.1.rd n.out) hp
  clear c0 c1 hq;by_cases hgo:k<p.size∧q=false
  ·obtain⟨hks,rfl⟩:=hgo;have z1:(k:Int)<(p.size:Int):=by omega
   have HNe:Hid (∀c,(sb p)[k]?=some c→¬yFu c):=fun c hc he=>yIv HQ.out c hc (by
    rcases he with(rfl|rfl|rfl)|rfl|rfl|rfl<;>simp)
   go_upto_region 2 with fail;refine yBu (by kernel_rfl) (by kernel_rfl) ?_;repeat (go_big_quiet_step ((first|rfl|(go_at_call 160;exact Calls.out_of (HI.out _)))))
   refine wpQuiet_nil ?_;rintro w1 ⟨⟨wx,hb1⟩,rfl⟩;have HJ1:Hid (SeqJ p base g i o w k ts us (.slice va us.length vc) w1):=HJ.1.move hb1;have HAt:Hid (atOf wr g=k):=HJ.2;have hs1:=hb1.size;clear e0 e1 HI hb1 HJ;have b0:=HJ1.box.cell (j:=0) rfl;have hob:=HJ1.box.lt.2;have HRep:Hid (∀w',Below w1.heap.size w1 w'→Calls Tryz.prog 161 #[.pointer (some ⟨g,0,none⟩)] w' (yI1 p base g k o w' (yNz (sb p) o k))):=fun w' hb=>H base g k o w' (by omega) hks ho HNe.out (yA.below HJ1.rd hb);go_upto_region 3 with fail
   go_region_law ((first
                |(go_simp;go_at_call 161;refine(HRep.out _ (Below.refl _ _).drew).mono ?_;rintro e' w6 ⟨hC6,(⟨k6,t,x,hR6,rfl,hN6,hP6⟩|⟨c6,k6,hc60,hk6,rfl⟩)⟩;(case inr=>exact⟨rfl,(HJ1.move (Below.refl _ _).drew).chg.trans hC6,.inr ⟨c6,k6,hc60,by rw[HJ1.ok.chk,hk6],rfl⟩⟩);obtain⟨T6,cs6,rfl⟩:=hN6.iface;have HK6:Hid (SeqK p base g i o w k6 ts us (.slice va us.length vc) t (.iface T6 (.agg cs6)) w6∧yNz (sb p) o k k6 t):=⟨(HJ1.move (Below.refl _ _).drew).rep hC6 hR6 hN6 hP6,hR6⟩;have m6:=HK6.1.box.cell (j:=0) rfl;have m6l:=HK6.1.box.lt.2;have m6a:∀o,(w6.alloc o).cell? ⟨w.heap.size+1,0,none⟩=some (.slice va us.length vc):=fun o=>by {rw[((Below.refl w6.heap.size w6).alloc (Nat.le_refl _) o).cell (p:=⟨w.heap.size+1,0,none⟩) m6l];exact m6};clear hC6 hR6 hN6 hP6)
                |(refine yIo _ (by rfl) _ _ (by rfl) (w.heap.size+2) us.length w6.heap.size (.slice va us.length vc) (.iface T6 (.agg cs6)) us rfl (by rfl) (by rfl) ?hO ?hc rfl ?hl ?hb ?_
                  case hO=>exact(HK6.1.move (qB)).row
                  case hc=>simp
                  case hl=>omega
                  case hb=>have:=(HK6.1.move ((Below.refl _ _).alloc (Nat.le_refl _) (Obj.cells #[.iface T6 (.agg cs6)] 209))).box.lt.2;omega
                  intro g7 cp7 w7 hO7 hgr7 hgg7
                  have hpp:=(HK6.1.move ((Below.refl _ _).alloc (Nat.le_refl _) (Obj.cells #[.iface T6 (.agg cs6)] 209))).push hO7 hgr7 (fun j hj=>by have hj':g7=j:=by {simpa [Value.ownBlock]using hj};rw[←hj'];exact hgg7)
                  have fin7:Hid (SeqJ p base g i o w k6 (ts++ [t]) (us++ [.iface T6 (.agg cs6)]) (.slice (some ⟨g7,0,none⟩) (us.length+1) cp7) (w7.setCell ⟨w.heap.size+1,0,none⟩ (.slice (some ⟨g7,0,none⟩) (us.length+1) cp7))):=hpp.1
                  have m7:=hpp.2.1
                  have f7:=hpp.2.2
                  clear hpp hO7 hgr7 hgg7)))
   all_goals go_wp2_with fail
   all_goals go_roundw
   all_goals first
    |exact⟨k6,ts++ [t],us++ [.iface T6 (.agg cs6)],_,by have:=HK6.2.lt;omega,by have:=HK6.2.le;rw[yAn]at this;exact this,by have:=HK6.2.lt;rw[List.length_append];simp;omega,fin7.out⟩
    |(rw[HAt.out,yF4 fin7.out.rd];have:=HK6.2.lt;omega)
  ·have HE:Hid (∀c,(sb p)[k]?=some c→yFu c):=by
    intro c hc;have hk:=yBh hc;rw[yAn]at hk;cases q
    ·exact absurd ⟨hk,rfl⟩ hgo
    ·obtain⟨d,hd,hm⟩:=yLy HQ.out;rw[hc]at hd;cases hd
     simp at hm;rcases hm with rfl|rfl|rfl|rfl|rfl|rfl<;>simp[yFu,isOp]
   have HX:Hid (SeqJ p base g i o w k ts us (.slice va us.length vc) wr):=HJ.1;clear HQ HJ;have fin:∀w1,Below wr.heap.size wr w1→Hid (SeqJ p base g i o w k ts us (.slice va us.length vc) w1):=fun w1 hb=>HX.move hb;by_cases hks:k<p.size
   ·have hq1:q=true:=by
     cases q
     ·exact absurd ⟨hks,rfl⟩ hgo
     ·rfl
    subst hq1;have z1:(k:Int)<(p.size:Int):=by omega
    clear hgo;go_upto_region 2 with fail;refine yBu (by kernel_rfl) (by kernel_rfl) ?_;repeat (go_big_quiet_step ((first|rfl|(go_at_call 160;exact Calls.out_of (HI.out _)))))
    exact zzQ24
   ·have z1:¬(k:Int)<(p.size:Int):=by omega
    clear hgo;go_upto_region 2 with fail;refine yBu (by kernel_rfl) (by kernel_rfl) ?_;repeat (go_big_quiet_step (rfl))
    exact zzQ24
end
section
structure AltJ (p:ByteArray) (base g i o:Nat) (w:World) (k:Nat) (os:List (List Pat)) (us:List Value) (gq cp:Nat) (wr:World):Prop where
 ok:yFl (sb p) o i k os
 nxt:∀c,(sb p)[k]?=some c→yFu c
 rd:PrAt wr base g p k o
 res:yA wr w.heap.size 171 1 w.heap.size [.slice none 0 0]
 row:OwnQ wr (w.heap.size+1) gq cp us
 len:us.length=os.length
 seqs:∀(i:Nat) x ts,us[i]?=some x→os[i]?=some ts→yIg wr (fun j=>w.heap.size+1≤j∧¬j=gq) ts x
 chg:Chg (fun k=>k=g) w wr
 glt:g<w.heap.size
theorem OwnQ.chg {gq:Nat} (h:OwnQ w base gq cp us) (hc:Chg S w w') (hn:¬S gq):OwnQ w' base gq cp us:=yA2 h hc (fun k q=>by simp[Value.ownBlock]at q;subst q;exact hn)
variable {p:ByteArray} {base g i o:Nat} {w:World} {k:Nat} {os:List (List Pat)} {us:List Value} {gq cp:Nat} {wr:World}
theorem AltJ.read {k':Nat} (h:AltJ p base g i o w k os us gq cp wr) (hC:Chg (fun k=>k=g) wr w') (hP:PrAt w' base g p k' o):
  yA w' w.heap.size 171 1 w.heap.size [.slice none 0 0]∧OwnQ w' (w.heap.size+1) gq cp us∧(∀(i:Nat) x ts,us[i]?=some x→os[i]?=some ts→yIg w' (fun j=>w.heap.size+1≤j∧¬j=gq) ts x)∧Chg (fun k=>k=g) w w':=by
 have hg:=h.glt;have hq:=h.row.lt;exact⟨h.res.chg hC (by omega),h.row.chg hC (by omega),fun i x ts hx ht=>(h.seqs i x ts hx ht).move hC (fun q hq=>by subst hq;exact fun z=>by have:=z.1;omega) (fun q _ z=>z),h.chg.trans hC⟩
theorem yH1 {ops:Array Oper} {rest:List Oper} {oo:Oper} {a:Act} {Q:Exit→Act→World→Prop} (w:World) (hgd:oo.guard=none) (s x:Operand)
  (ho:oo.op=.call {callee:=.builtin .append,args:=#[s,x],argTypes:=#[169,169]})
  (base gq cp n b:Nat) (us:List Value) (y:Value) (hs:a.eval s=.slice (some ⟨gq,0,none⟩) n cp) (hx:a.eval x=.slice (some ⟨b,0,none⟩) 1 1) (hn:n=us.length) (hO:OwnQ w base gq cp us)
  (hc:w.cell? ⟨b,0,none⟩=some y) (hy:y.oneCell'=true) (hlen:us.length≤1000) (hbase:base≤w.heap.size)
  (h:∀g' cp' w',OwnQ w' base g' cp' (us++ [y])→w.grownBy w' (some gq)→(g'=gq∨g'=w.heap.size)→wpList Tryz.prog ops Q rest (a.put oo.dst (.slice (some ⟨g',0,none⟩) (n+1) cp')) w'):wpList Tryz.prog ops Q (oo::rest) a w:=by
 subst hn;obtain⟨i,hi,hz0,hz1,hz2⟩:=info_parts Tryz.infoSeq;refine wpList_append_own_at w hgd s x 169 ho base 195 i _ 1 24 Tryz.underlying169 hi hz0 hz1 hz2 rfl (by decide) (.slice (some ⟨gq,0,none⟩) us.length cp) us.length us hs hO ⟨b,0,none⟩ 1 1 [y] hx rfl ?_ ?_ ?_ ?_ hbase ?_
 ·exact zzQ78
 ·intro u hu;simp at hu;subst hu;exact hy
 ·unfold maxLen;omega
 ·omega
 ·intro v' w' hO' hgr hnil hat;rcases hO'.2 with⟨h0,_⟩|⟨g',cap',cur,hv,_,_,hn,hcap,_,_⟩
  ·have:=(hnil.1 h0).1;cases this
  ·subst hv;refine h g' cap' w' ?_ hgr ?_
   ·unfold OwnQ;rw[List.length_append];exact hO'
   ·simp[Value.ownBlock]at hat;exact hat
variable {w:World}
theorem yIg.slice (h:yIg w R ts u):∃a n cp,u=.slice a n cp:=by
 obtain⟨n,h|⟨g,cp,us,h1,_⟩⟩:=h
 ·exact⟨_,_,_,h.2⟩
 ·exact⟨_,_,_,h1⟩
variable {p:ByteArray}
theorem yXn (H:SeqC p m) (hp:p.size≤200):AltC p m:=by
 intro base g i o w hm hi ho h;have hgl:=h.lt.2;obtain⟨W0,hW0⟩:=qE (w.alloc (Obj.cells #[.slice none 0 0] 171):World);have HW0:Hid (PrAt W0 base g p i o∧yA W0 w.heap.size 171 1 w.heap.size [.slice none 0 0]∧Chg (fun k=>k=g) w W0∧W0.heap.size=w.heap.size+1):=by
  have hb:Below w.heap.size w W0:=by rw[hW0];exact qB
  refine⟨yA.below h hb,?_,Chg.of_below hb,by rw[hW0];simp⟩;rw[hW0];exact yAb w _ (Nat.le_refl _) rfl
 clear h;go_enter Tryz.func142,Tryz.ntmps142;go_upto_region 1 with fail;rw[←hW0];clear hW0;go_wp2_with fail;refine(H base g i o W0 hm hi ho HW0.1).mono ?_;rintro e w1 ⟨hC1,(⟨k,ts,u,hS,hE,rfl,hU,hP1⟩|⟨c,k,hc0,hk,rfl⟩)⟩;case inr=>exact⟨rfl,HW0.2.2.1.trans hC1,.inr ⟨c,k,hc0,hk,rfl⟩⟩
 obtain⟨ua,un,uc,rfl⟩:=hU.slice;have hkp:i≤k∧k≤p.size:=by have h1:=hS.le;have h2:=hS.lei;rw[yAn]at h1;exact⟨h2,h1⟩
 obtain⟨W2,hW2⟩:=qE (w1.alloc (Obj.cells #[.slice ua un uc] 195):World);have HJ0:Hid (AltJ p base g i o w k [ts] [.slice ua un uc] w1.heap.size 1 W2):=by
  have hb:Below w1.heap.size w1 W2:=by rw[hW2];exact qB
  have hz:=HW0.2.2.2;have hs:=hC1.size;refine⟨yFl.one hS,hE,yA.below hP1 hb,(HW0.2.1.chg hC1 (by omega)).below hb,?_,rfl,?_,(HW0.2.2.1.trans hC1).trans (Chg.of_below hb),hgl⟩
  ·rw[hW2];exact World.ownsRow_lit w1 #[.slice ua un uc] 1 (by omega) (by decide) rfl
  ·intro j x ss hx hss;have hj:j=0:=by have:=(List.getElem?_eq_some_iff.1 hx).1;simpa using this
   subst hj;simp at hx hss;subst hx hss;exact hU.move (S:=fun _=>False) (Chg.of_below hb) (fun q hq=>hq.elim) (fun q hq z=>⟨by have:=z.1;omega,by omega⟩)
 clear hC1 hS hE hU hP1 HW0;go_wp2_with fail;rw[←hW2];obtain⟨gq0,hgq0⟩:=qE w1.heap.size;rw[←hgq0]at HJ0;rw[←hgq0];clear hW2 hgq0;go_loopw[3] (fun sv wr=>∃(k gq cp:Nat) (os:List (List Pat)) (us:List Value),i≤k∧k≤p.size∧us.length≤k+1∧sv=.slice (some ⟨gq,0,none⟩) us.length cp∧AltJ p base g i o w k os us gq cp wr) (fun _ wr=>p.size-atOf wr g);case atStart=>exact⟨k,gq0,1,[ts],[.slice ua un uc],hkp.1,hkp.2,by simp,rfl,HJ0.out⟩
 case round=>
  obtain⟨k,gq,cp,os,us,hik,hkp,hul,rfl,hJ⟩:=hrel;have HJ:Hid (AltJ p base g i o w k os us gq cp wr∧atOf wr g=k):=⟨hJ,yF4 hJ.rd⟩;clear hJ HJ0;go_wp2_with fail;refine(yEl 124 HJ.1.rd hp).mono ?_;rintro e w3 ⟨hC3,(⟨hx,rfl,hP3⟩|⟨hx,rfl,hP3⟩)⟩
  ·have hk1:k+1≤p.size:=by have:=yBh hx;rw[yAn]at this;omega
   have HX:Hid ((sb p)[k]?=some 124∧PrAt w3 base g p (k+1) o∧yA w3 w.heap.size 171 1 w.heap.size [.slice none 0 0]∧OwnQ w3 (w.heap.size+1) gq cp us∧(∀(i:Nat) x ts,us[i]?=some x→os[i]?=some ts→yIg w3 (fun j=>w.heap.size+1≤j∧¬j=gq) ts x)∧Chg (fun k=>k=g) w w3):=⟨hx,hP3,HJ.1.read hC3 hP3⟩;have HOk:Hid (yFl (sb p) o i k os∧us.length=os.length∧atOf wr g=k):=⟨HJ.1.ok,HJ.1.len,HJ.2⟩;clear hC3 hx hP3 HJ;go_wp2_with fail;refine(H base g (k+1) o w3 (by omega) hk1 ho HX.2.1).mono ?_;rintro e w4 ⟨hC4,(⟨k4,ts4,u4,hS4,hE4,rfl,hU4,hP4⟩|⟨c,k4,hc0,hk4,rfl⟩)⟩;case inr=>
    refine⟨rfl,HX.2.2.2.2.2.trans hC4,.inr ⟨c,k4,hc0,?_,rfl⟩⟩;rw[HOk.1.chk,yJz HX.1,hk4]
   obtain⟨ua4,un4,uc4,rfl⟩:=hU4.slice;have hk4p:k+1≤k4∧k4≤p.size:=by have h1:=hS4.le;have h2:=hS4.lei;rw[yAn]at h1;exact⟨h2,h1⟩
   obtain⟨W5,hW5⟩:=qE (w4.alloc (Obj.cells #[.slice ua4 un4 uc4] 195):World);have HW5:Hid (yFl (sb p) o i k4 (os++ [ts4])∧(∀c,(sb p)[k4]?=some c→yFu c)∧PrAt W5 base g p k4 o∧yA W5 w.heap.size 171 1 w.heap.size [.slice none 0 0]∧OwnQ W5 (w.heap.size+1) gq cp us∧(∀(i:Nat) x ts,(us++ [.slice ua4 un4 uc4])[i]?=some x→(os++ [ts4])[i]?=some ts→yIg W5 (fun j=>w.heap.size+1≤j∧¬j=gq) ts x)∧Chg (fun k=>k=g) w W5∧W5.cell? ⟨w4.heap.size,0,none⟩=some (.slice ua4 un4 uc4)∧w.heap.size+1≤W5.heap.size):=by
    have hb:Below w4.heap.size w4 W5:=by rw[hW5];exact qB
    have hq:=HX.2.2.2.1.lt;have hs4:=hC4.size;have hsb:=hb.size;have hc:Chg (fun k=>k=g) w3 W5:=hC4.trans (Chg.of_below hb);refine⟨yFl.more HOk.1 HX.1 hS4,hE4,yA.below hP4 hb,HX.2.2.1.chg hc (by omega),HX.2.2.2.1.chg hc (by omega),?_,HX.2.2.2.2.2.trans hc,by rw[hW5];simp,by omega⟩;intro j y s hy hs;rcases yH6 hy with hy|⟨hj,rfl⟩
    ·rcases yH6 hs with hs|⟨hj,rfl⟩
     ·exact(HX.2.2.2.2.1 j y s hy hs).move hc (fun q hq=>by subst hq;exact fun z=>by have:=z.1;omega) (fun q _ z=>z)
     ·have:=(List.getElem?_eq_some_iff.1 hy).1;have:=HOk.2.1;omega
    ·rcases yH6 hs with hs|⟨_,rfl⟩
     ·have:=(List.getElem?_eq_some_iff.1 hs).1;have:=HOk.2.1;omega
     ·exact hU4.move (S:=fun _=>False) (Chg.of_below hb) (fun q hq=>hq.elim) (fun q _ z=>⟨by have:=z.1;omega,fun e=>by have:=z.1;omega⟩)
   clear hC4 hS4 hE4 hU4 hP4 HX;go_wp2_with (at_builtin;rw[←hW5];refine yH1 _ rfl _ _ rfl (w.heap.size+1) gq cp us.length w4.heap.size us (.slice ua4 un4 uc4) rfl rfl rfl ?hO ?hc rfl ?hl ?hb ?_);case hO=>exact HW5.2.2.2.2.1
   case hc=>exact HW5.2.2.2.2.2.2.2.1
   case hl=>omega
   case hb=>exact HW5.2.2.2.2.2.2.2.2
   intro g6 cp6 w6 hO6 hgr6 hat6;rw[←hW5]at hgr6;have hz5:W5.heap.size=w4.heap.size+1:=by rw[hW5];simp
   have HJ6:Hid (AltJ p base g i o w k4 (os++ [ts4]) (us++ [.slice ua4 un4 uc4]) g6 cp6 w6):=by have hq:=HW5.2.2.2.2.1.lt;have hc:Chg (fun j=>j=gq) W5 w6:=Chg.of_grown hgr6 (fun j hj=>by cases hj;rfl);refine⟨HW5.1,HW5.2.1,yA.chg HW5.2.2.1 hc (by omega),HW5.2.2.2.1.chg hc (by omega),hO6,by rw[List.length_append,List.length_append,HOk.2.1];rfl,?_,HW5.2.2.2.2.2.2.1.absorb hc (fun j q=>.inr (by omega)),hgl⟩;intro j y s hy hs;exact(HW5.2.2.2.2.2.1 j y s hy hs).move hc (fun q hq z=>z.2 hq) (fun q hq z=>⟨z.1,fun e=>by rcases hat6 with r|r;exact z.2 (by omega);omega⟩)
   clear hO6 hgr6 hat6 hW5 HW5;go_wp2_with fail;go_roundw;case rel=>exact⟨k4,g6,cp6,os++ [ts4],us++ [.slice ua4 un4 uc4],by omega,hk4p.2,by rw[List.length_append];simp;omega,by rw[List.length_append];rfl,HJ6.out⟩
   case measure=>rw[HOk.2.2,yF4 HJ6.rd];omega
  ·have HX:Hid (yFl (sb p) o i k os∧(∀c,(sb p)[k]?=some c→yFu c∧¬c=124)∧us.length=os.length):=⟨HJ.1.ok,fun c hc=>⟨HJ.1.nxt c hc,fun q=>by subst q;exact hx hc⟩,HJ.1.len⟩;have HR:=HJ.1.read hC3 hP3;have HF:Hid (PrAt w3 base g p k o∧yA w3 w.heap.size 171 1 w.heap.size [.slice none 0 0]∧OwnQ w3 (w.heap.size+1) gq cp us∧(∀(i:Nat) x ts,us[i]?=some x→os[i]?=some ts→yIg w3 (fun j=>w.heap.size+1≤j∧¬j=gq) ts x)∧Chg (fun k=>k=g) w w3):=⟨hP3,HR⟩;clear HR hC3 hx hP3 HJ;have r0:=HF.2.1.cell (j:=0) rfl;have rf:=HF.2.1.frozen 0;go_wp2_with fail;refine bodyPost_ret (v:=.agg #[.slice (some ⟨gq,0,none⟩) us.length cp]) (by simp[results,Tryz.results142,go_sem,World.cell?_setCell_same _ _ _ r0]) rfl ?_;have hc:=Chg.of_set w3 w.heap.size 0 (.slice (some ⟨gq,0,none⟩) us.length cp) (S:=fun j=>j=w.heap.size) rfl;have hq:=HF.2.2.1.lt;refine⟨HF.2.2.2.2.absorb hc (fun j q=>.inr (by omega)),.inl ⟨k,os,_,HX.1,HX.2.1,rfl,?_,yA.chg HF.1 hc (by omega)⟩⟩;obtain⟨n,hn⟩:=yO5 HX.2.2 (fun i x ts hx ht=>(HF.2.2.2.1 i x ts hx ht).move (S:=fun _=>False) (Chg.refl _ _) (fun _ q=>q.elim) (lo':=fun j=>w.heap.size+1≤j) (fun _ _ q=>q.1));have hA:yF9 w3 (fun j=>w.heap.size+1≤j) os (.slice (some ⟨gq,0,none⟩) us.length cp):=⟨n,gq,cp,us,by rw[HX.2.2],HX.2.2,HF.2.2.1.vals hq.1,hn⟩;exact hA.move hc (fun j q=>by subst q;exact fun z=>by omega) (fun j hj z=>⟨by omega,by have:=hc.size;omega⟩)
theorem yT1 (hp:p.size≤200):∀m,yW4 p m∧AltC p m
 |0=>by
  have h0:yW4 p 0:=fun base g i o w hm hi=>by omega
  exact⟨h0,yXn (yW9 (yX h0 hp) hp) hp⟩
 |m+1=>by
  have h1:=yZ2 (yT1 hp m).2 hp
  exact⟨h1,yXn (yW9 (yX h1 hp) hp) hp⟩
theorem yW1 (hp:p.size≤200) (base g i o:Nat) (w:World) (hi:i≤p.size) (ho:o≤20) (h:PrAt w base g p i o):Calls Tryz.prog 142 #[.pointer (some ⟨g,0,none⟩)] w (yT4 p base g i o w):=
 (yT1 hp (p.size-i)).2 base g i o w (Nat.le_refl _) hi ho h
end
theorem yR8 (c a:Int) (w:World):(Instr.typeAssert (pfV c a) 20 46 true).run Tryz.prog w=.ok (.tuple #[.agg #[.int .i64 c,.int .i64 a],.bool true]) w:=by kernel_rfl
theorem yPb (w:World):Calls Tryz.prog 24 #[.nilIface] w fun e w'=>e=.returned (.agg #[.int .i64 0,.int .i64 0])∧Below w.heap.size w w':=by go_enter Tryz.func24,Tryz.ntmps24;go_wp2_with fail;refine bodyPost_ret (v:=.agg #[.int .i64 0,.int .i64 0]) (by simp[results,Tryz.results24,go_sem]) rfl ⟨rfl,?_⟩;exact qB
theorem yR9 (c a:Int) (w:World):Calls Tryz.prog 24 #[pfV c a] w fun e w'=>e=.returned (.agg #[.int .i64 c,.int .i64 a])∧Below w.heap.size w w':=by
 have hta:=yR8;obtain⟨W,hW⟩:=qE (w.alloc (Obj.cells #[.int .i64 0,.int .i64 0] 46):World);have HW:Hid (yA W w.heap.size 46 2 w.heap.size [.int .i64 0,.int .i64 0]∧Below w.heap.size w W):=by rw[hW];exact⟨yAb w _ (Nat.le_refl _) rfl,qB⟩
 obtain⟨W2,hW2⟩:=qE (W.alloc (Obj.cells #[.int .i64 c,.int .i64 a] 46):World);have HW2:Hid (yA W2 w.heap.size 46 2 w.heap.size [.int .i64 0,.int .i64 0]∧yA W2 w.heap.size 46 2 W.heap.size [.int .i64 c,.int .i64 a]∧Below w.heap.size w W2):=by
  have hb:Below W.heap.size W W2:=by rw[hW2];exact qB
  refine⟨HW.1.below hb,?_,HW.2.trans (hb.mono HW.2.size)⟩;rw[hW2];exact yAb W _ HW.2.size rfl
 go_enter Tryz.func24,Tryz.ntmps24;go_upto_region 1 with fail;rw[←hW];clear hW;go_upto_region 7 with fail;rw[←hW2];clear hW2 hta;obtain⟨b0,b1⟩:=HW2.2.1.c2;obtain⟨r0,r1⟩:=HW2.1.c2;obtain⟨f0,f1⟩:=HW2.1.f2;have hbx:=(HW2.1.set 0 (.int .i64 c)).set 1 (.int .i64 a);obtain⟨p0,p1⟩:=hbx.c2;obtain⟨W3,hW3⟩:=qE ((W2.setCell ⟨w.heap.size,0,none⟩ (.int .i64 c)).setCell ⟨w.heap.size,1,none⟩ (.int .i64 a):World);rw[←hW3]at p0 p1;have HB3:Hid (Below w.heap.size w W3):=by show Below w.heap.size w W3;rw[hW3];exact yAd (yAd HW2.2.2 (Nat.le_refl _) 0 _) (Nat.le_refl _) 1 _
 clear hbx;go_wp2_with fail;rw[←hW3];refine bodyPost_ret (v:=.agg #[.int .i64 c,.int .i64 a]) (by simp[results,Tryz.results24,go_sem,p0,p1]) rfl ⟨rfl,HB3.out⟩
theorem yUp (base rb eb:Nat) (c a:Int) (older:List PanicEntry) (w:World) (hc:¬c=0) (x:Value) (hr:yA w base 171 1 rb [x]) (he:yA w base 125 2 eb [.int .i64 0,.int .i64 0]) (hne:¬rb=eb):
  CallsD Tryz.prog 141 #[.pointer (some ⟨rb,0,none⟩),.pointer (some ⟨eb,0,none⟩)] (.panicking ({v:=pfV c a,recovered:=false}::older)) w fun e u' w'=>
   e=.returned (.tuple #[])∧u'=.panicking ({v:=pfV c a,recovered:=true}::older)∧yA w' base 171 1 rb [.slice none 0 0]∧yA w' base 125 2 eb [.int .i64 c,.int .i64 a]∧Chg (fun k=>k=rb∨k=eb) w w':=by
 refine callsD_of_wpS Tryz.func141 rfl fun c₀ cs hu=>?_;apply wpS_seq;apply wpS_region;simp[wpOpsS,go_sem,recoverD,hu,Tryz.ntmps141,Exit.thenS];refine(yR9 c a w).mono ?_;rintro e w1 ⟨rfl,hb1⟩;simp[wpOpsS,go_sem];have ht:#[Value.pointer (some ⟨rb,0,none⟩),Value.pointer (some ⟨eb,0,none⟩)]++(((Array.replicate 12 undef).setIfInBounds 1 (pfV c a)).setIfInBounds 2 (Value.agg #[Value.int IntKind.i64 c,Value.int IntKind.i64 a])).setIfInBounds 0 (Value.pointer (some ⟨w1.heap.size,0,none⟩))=#[.pointer (some ⟨rb,0,none⟩),.pointer (some ⟨eb,0,none⟩),.pointer (some ⟨w1.heap.size,0,none⟩),pfV c a,.agg #[.int .i64 c,.int .i64 a],undef,undef,undef,undef,undef,undef,undef,undef,undef]:=by rfl
 rw[ht];clear ht;obtain⟨W2,hW2⟩:=qE (w1.alloc (Obj.cells #[.int .i64 c,.int .i64 a] 46):World);have hb2:Below w1.heap.size w1 W2:=by rw[hW2];exact qB
 have HB:Hid (yA W2 base 171 1 rb [x]∧yA W2 base 125 2 eb [.int .i64 0,.int .i64 0]∧Chg (fun k=>k=rb∨k=eb) w W2):=
  ⟨(hr.below hb1).below hb2,(he.below hb1).below hb2,(Chg.of_below hb1).trans (Chg.of_below hb2)⟩
 have d0:W2.cell? ⟨w1.heap.size,0,none⟩=some (.int .i64 c):=by rw[hW2];simp
 have d1:W2.cell? ⟨w1.heap.size,1,none⟩=some (.int .i64 a):=by rw[hW2];simp
 have hrl:=(hr.below hb1).lt.2;have hel:=(he.below hb1).lt.2;obtain⟨FB,hFB⟩:=qE w1.heap.size;rw[←hW2];rw[←hFB]at d0 d1⊢;have n1:¬FB=rb:=by omega
 have n2:¬FB=eb:=by omega
 clear hW2 hFB hb1 hb2 hr he hrl hel;have r0:=HB.1.cell (j:=0) rfl;have rf:=HB.1.frozen 0;obtain⟨e0,e1⟩:=HB.2.1.c2;obtain⟨f0,f1⟩:=HB.2.1.f2;have n3:¬eb=rb:=fun q=>hne q.symm;have HF:∀w':World,Below W2.heap.size W2 w'→yA (((w'.setCell ⟨rb,0,none⟩ (.slice none 0 0)).setCell ⟨eb,0,none⟩ (.int .i64 c)).setCell ⟨eb,1,none⟩ (.int .i64 a)) base 171 1 rb [.slice none 0 0]∧yA (((w'.setCell ⟨rb,0,none⟩ (.slice none 0 0)).setCell ⟨eb,0,none⟩ (.int .i64 c)).setCell ⟨eb,1,none⟩ (.int .i64 a)) base 125 2 eb [.int .i64 c,.int .i64 a]∧Chg (fun k=>k=rb∨k=eb) w (((w'.setCell ⟨rb,0,none⟩ (.slice none 0 0)).setCell ⟨eb,0,none⟩ (.int .i64 c)).setCell ⟨eb,1,none⟩ (.int .i64 a)):=fun w' hb=>by refine⟨((((HB.1.below hb).set 0 _).beside hne 0 _).beside hne 1 _),((((HB.2.1.below hb).beside n3 0 _).set 0 _).set 1 _),((((HB.2.2.trans (Chg.of_below hb)).trans (Chg.of_set _ rb 0 _ (.inl rfl))).trans (Chg.of_set _ eb 0 _ (.inr rfl))).trans (Chg.of_set _ eb 1 _ (.inr rfl)))⟩
 have HFF:Hid (∀w':World,Below W2.heap.size W2 w'→yA (((w'.setCell ⟨rb,0,none⟩ (.slice none 0 0)).setCell ⟨eb,0,none⟩ (.int .i64 c)).setCell ⟨eb,1,none⟩ (.int .i64 a)) base 171 1 rb [.slice none 0 0]∧yA (((w'.setCell ⟨rb,0,none⟩ (.slice none 0 0)).setCell ⟨eb,0,none⟩ (.int .i64 c)).setCell ⟨eb,1,none⟩ (.int .i64 a)) base 125 2 eb [.int .i64 c,.int .i64 a]∧Chg (fun k=>k=rb∨k=eb) w (((w'.setCell ⟨rb,0,none⟩ (.slice none 0 0)).setCell ⟨eb,0,none⟩ (.int .i64 c)).setCell ⟨eb,1,none⟩ (.int .i64 a))):=HF;clear HF;refine wpS_of_wp ?_;go_upto_region 2 with fail;go_region;all_goals go_wp2_with fail
 have hfin:=HFF.out W2 (Below.refl _ _);have hdr:∀X:World,Below X.heap.size X X.drew:=fun X=>(Below.refl _ _).drew;exact⟨rfl,_,rfl,_,by simp[results,Tryz.results141],rfl,rfl,hfin.1.below (hdr _),hfin.2.1.below (hdr _),hfin.2.2.trans (Chg.of_below (hdr _))⟩
theorem yYw (rb eb:Nat) (w:World):
  CallsD Tryz.prog 141 #[.pointer (some ⟨rb,0,none⟩),.pointer (some ⟨eb,0,none⟩)] .returning w fun e u' w'=>e=.returned (.tuple #[])∧u'=.returning∧Below w.heap.size w w':=by
 refine callsD_of_wpS Tryz.func141 rfl fun c₀ cs hu=>?_;apply wpS_seq;apply wpS_region;simp[wpOpsS,go_sem,recoverD,hu,Tryz.ntmps141,Exit.thenS];refine(yPb w).mono ?_;rintro e w1 ⟨rfl,hb1⟩;simp[wpOpsS,go_sem];have ht:#[Value.pointer (some ⟨rb,0,none⟩),Value.pointer (some ⟨eb,0,none⟩)]++(((Array.replicate 12 undef).setIfInBounds 1 .nilIface).setIfInBounds 2 (Value.agg #[Value.int IntKind.i64 0,Value.int IntKind.i64 0])).setIfInBounds 0 (Value.pointer (some ⟨w1.heap.size,0,none⟩))=#[.pointer (some ⟨rb,0,none⟩),.pointer (some ⟨eb,0,none⟩),.pointer (some ⟨w1.heap.size,0,none⟩),.nilIface,.agg #[.int .i64 0,.int .i64 0],undef,undef,undef,undef,undef,undef,undef,undef,undef]:=by rfl
 rw[ht];clear ht;have HB:Hid (Below w.heap.size w (w1.alloc (Obj.cells #[.int .i64 0,.int .i64 0] 46))):=hb1.trans ((Below.refl _ _).alloc hb1.size _);clear hb1;refine wpS_of_wp ?_;go_wp2_with fail;refine⟨rfl,.returning,?_,_,by simp[results,Tryz.results141],rfl,rfl,HB.out⟩;cases c₀
 simp_all
def yBg (p:List UInt8):Int×Nat:=if 200<p.length then(1,0)else chkM p 0 0 false
def yEb (p:ByteArray) (w:World) (e:Ending) (w':World):Prop:=
 ∃u:Value,e=.returned (.tuple #[.agg #[u],.agg #[.int .i64 (yBg (sb p)).1,.int .i64 ((yBg (sb p)).2:Int)]])∧Below w.heap.size w w'∧
  (((yBg (sb p)).1=0∧∃os,yFl (sb p) 0 0 p.size os∧yF9 w' (Bet w.heap.size w'.heap.size) os u)∨(¬(yBg (sb p)).1=0∧u=.slice none 0 0))
theorem yRy {a:Act} {x y:Value} (hu:u.oneCell'=true) (ht:a.tmps.getD 2 undef=.pointer (some ⟨rb,0,none⟩)) (ht2:a.tmps.getD 3 undef=.pointer (some ⟨eb,0,none⟩)) (hr:yA w base 171 1 rb [u]) (he:yA w base 125 2 eb [x,y]):
  (results Tryz.f132 a.tmps).run Tryz.prog w=.ok (.tuple #[.agg #[u],.agg #[x,y]]) w:=by
 have p0:=hr.cell (j:=0) rfl;obtain⟨q0,q1⟩:=he.c2;have h1:a.tmps[2]?.getD undef=.pointer (some ⟨rb,0,none⟩):=by rw[←Array.getD_eq_getD_getElem?];exact ht
 have h2:a.tmps[3]?.getD undef=.pointer (some ⟨eb,0,none⟩):=by rw[←Array.getD_eq_getD_getElem?];exact ht2
 simp[results,Tryz.results132,go_sem,h1,h2,p0,q0,q1]
theorem yRz (p:ByteArray) (w wq:World) (a:Act) (c:Int) (k rb eb:Nat) (x:Value) (hrb:w.heap.size≤rb) (heb:w.heap.size≤eb) (hne:¬rb=eb) (hd:a.defers= [{target:=Target.fn (Fn.func 141) #[.pointer (some ⟨rb,0,none⟩),.pointer (some ⟨eb,0,none⟩)],args:=#[]}])
  (ht:a.tmps.getD 2 undef=.pointer (some ⟨rb,0,none⟩)) (ht2:a.tmps.getD 3 undef=.pointer (some ⟨eb,0,none⟩)) (hM:yBg (sb p)=(c,k)) (hc:¬c=0) (hr:yA wq w.heap.size 171 1 rb [x]) (he:yA wq w.heap.size 125 2 eb [.int .i64 0,.int .i64 0]) (hB:Below w.heap.size w wq):
  bodyPostD Tryz.prog Tryz.f132 (fun e w'=>yEb p w e w') (.panic [{v:=pfV c k,recovered:=false}]) a wq:=by
 show Leaves Tryz.prog Tryz.f132 a.tmps (fun e w'=>yEb p w e w') a.defers (.panicking [{v:=pfV c k,recovered:=false}]) wq;rw[hd];refine leaves_cons (f:=141) (args:=#[.pointer (some ⟨rb,0,none⟩),.pointer (some ⟨eb,0,none⟩)]) (by simp) (by simp[go_sem]) ?_;refine(yUp w.heap.size rb eb c k [] wq hc x hr he hne).mono ?_;rintro e u' w'' ⟨rfl,rfl,hr2,he2,hC⟩;show Leaves Tryz.prog Tryz.f132 a.tmps (fun e w'=>yEb p w e w') [] (settle (.panicking [{v:=pfV c k,recovered:=true}])) _;refine⟨_,yRy rfl ht ht2 hr2 he2,.slice none 0 0,by rw[hM],Chg.below hB hC hB.size (fun j q=>by omega),.inr ⟨by rw[hM];exact hc,rfl⟩⟩
theorem yYx (p:ByteArray) (w wq:World) (a:Act) (rb eb:Nat) (u:Value) (os:List (List Pat)) (hu:u.oneCell'=true) (hd:a.defers= [{target:=Target.fn (Fn.func 141) #[.pointer (some ⟨rb,0,none⟩),.pointer (some ⟨eb,0,none⟩)],args:=#[]}])
  (ht:a.tmps.getD 2 undef=.pointer (some ⟨rb,0,none⟩)) (ht2:a.tmps.getD 3 undef=.pointer (some ⟨eb,0,none⟩)) (hM:yBg (sb p)=(0,0)) (hA:yFl (sb p) 0 0 p.size os) (hU:yF9 wq (Bet w.heap.size wq.heap.size) os u) (hr:yA wq w.heap.size 171 1 rb [u]) (he:yA wq w.heap.size 125 2 eb [.int .i64 0,.int .i64 0]) (hB:Below w.heap.size w wq):
  bodyPostD Tryz.prog Tryz.f132 (fun e w'=>yEb p w e w') .ret a wq:=by
 show Leaves Tryz.prog Tryz.f132 a.tmps (fun e w'=>yEb p w e w') a.defers .returning wq;rw[hd];refine leaves_cons (f:=141) (args:=#[.pointer (some ⟨rb,0,none⟩),.pointer (some ⟨eb,0,none⟩)]) (by simp) (by simp[go_sem]) ?_;refine(yYw rb eb wq).mono ?_;rintro e u' w'' ⟨rfl,rfl,hb⟩;show Leaves Tryz.prog Tryz.f132 a.tmps (fun e w'=>yEb p w e w') [] (settle .returning) w'';refine⟨_,yRy hu ht ht2 (hr.below hb) (he.below hb),u,by rw[hM];rfl,hB.trans (hb.mono hB.size),.inl ⟨by rw[hM],os,hA,hU.move (S:=fun _=>False) (Chg.of_below hb) (fun q hq=>hq.elim) (fun q hq z=>⟨z.1,by have:=hb.size;omega⟩)⟩⟩
theorem yIp (p:ByteArray) (w:World) (hpm:p.size≤maxLen):Calls Tryz.prog 132 #[.string p] w fun e w'=>yEb p w e w':=by
 have hmf:∀(fn:Fn) (first cap:Array Value) (w:World),(Instr.makeFunc fn first cap).run Tryz.prog w=.ok (.func fn first cap) w:=fun _ _ _ _=>rfl;obtain⟨W0,hW0⟩:=qE ((w.alloc (Obj.cells #[.slice none 0 0] 171)).alloc (Obj.cells #[.int .i64 0,.int .i64 0] 125):World);have HW0:Hid (yA W0 w.heap.size 171 1 w.heap.size [.slice none 0 0]∧yA W0 w.heap.size 125 2 (w.heap.size+1) [.int .i64 0,.int .i64 0]∧Below w.heap.size w W0∧W0.heap.size=w.heap.size+2):=by rw[hW0];refine⟨yA.ofHeap (vs:=#[.slice none 0 0]) (heap_alloc2_old w _ _) (Nat.le_refl _) rfl,yA.ofHeap (vs:=#[.int .i64 0,.int .i64 0]) (heap_alloc2_new w _ _) (by omega) rfl,(qB).alloc (by simp) _,by simp⟩
 unfold maxLen at hpm;by_cases hp:200<p.size
 ·have HM:Hid (yBg (sb p)=(1,0)):=by show yBg (sb p)=_;unfold yBg;rw[if_pos (by rw[yAn];exact hp)]
  have z:¬(p.size:Int)≤200:=by omega
  have z2:(200:Int)<(p.size:Int):=by omega
  go_enter_defers Tryz.func132,Tryz.ntmps132;go_upto_region 1 with fail;rw[←hW0];clear hW0;have r0:=HW0.1.cell (j:=0) rfl;have rf:=HW0.1.frozen 0;obtain⟨e0,e1⟩:=HW0.2.1.c2;obtain⟨f0,f1⟩:=HW0.2.1.f2;obtain⟨W1,hW1⟩:=qE (((W0.setCell ⟨w.heap.size,0,none⟩ (.slice none 0 0)).setCell ⟨w.heap.size+1,0,none⟩ (.int .i64 1)).setCell ⟨w.heap.size+1,1,none⟩ (.int .i64 0):World);have HW1:Hid (yA W1 w.heap.size 171 1 w.heap.size [.slice none 0 0]∧yA W1 w.heap.size 125 2 (w.heap.size+1) [.int .i64 1,.int .i64 0]∧Below w.heap.size w W1):=by rw[hW1];exact⟨(((HW0.1.set 0 _).beside (by omega) 0 _).beside (by omega) 1 _),(((HW0.2.1.beside (by omega) 0 _).set 0 _).set 1 _),yAd (yAd (yAd HW0.2.2.1 (Nat.le_refl _) 0 _) (by omega) 0 _) (by omega) 1 _⟩
  go_wp2_with fail;rw[←hW1];show Leaves Tryz.prog Tryz.f132 _ (fun e w'=>yEb p w e w') [] .returning W1;refine⟨_,yRy (a:={tmps:=_,defers:= []}) rfl rfl rfl HW1.1 HW1.2.1,.slice none 0 0,by rw[HM.out];rfl,HW1.2.2,.inr ⟨by rw[HM.out];decide,rfl⟩⟩
 have hp2:p.size≤200:=by omega
 have HM:Hid (yBg (sb p)=chkM (sb p) 0 0 false):=by show yBg (sb p)=_;unfold yBg;rw[if_neg (by rw[yAn];exact hp)]
 have z:(p.size:Int)≤200:=by omega
 obtain⟨W1,hW1⟩:=qE (W0.alloc (Obj.cells #[.string p,.int .i64 0,.int .i64 0] 181):World);have HW1:Hid (yA W1 w.heap.size 171 1 w.heap.size [.slice none 0 0]∧yA W1 w.heap.size 125 2 (w.heap.size+1) [.int .i64 0,.int .i64 0]∧PrAt W1 w.heap.size (w.heap.size+2) p 0 0∧Below w.heap.size w W1∧W1.heap.size=w.heap.size+3):=by
  have hb:Below W0.heap.size W0 W1:=by rw[hW1];exact qB
  have hz:=HW0.2.2.2;refine⟨HW0.1.below hb,HW0.2.1.below hb,?_,HW0.2.2.1.trans (hb.mono (by omega)),by rw[hW1];simp;omega⟩;rw[hW1,←hz];exact yAb W0 #[.string p,.int .i64 0,.int .i64 0] (by omega) rfl
 go_enter_defers Tryz.func132,Tryz.ntmps132;go_upto_region 1 with fail;rw[←hW0];have hz0:W0.heap.size=w.heap.size+2:=HW0.2.2.2;clear hW0 HW0;go_upto_region 5 with fail;rw[←hW1];clear hW1 hz0;go_wp2_with fail;refine(yW1 hp2 w.heap.size (w.heap.size+2) 0 0 W1 (Nat.zero_le _) (Nat.zero_le _) HW1.2.2.1).mono ?_;rintro e w2 ⟨hC2,(⟨k,os,u,hA,hN,rfl,hU,hP2⟩|⟨c,k,hc,hk,rfl⟩)⟩;case inr=>
  have hb2:Below w.heap.size w w2:=Chg.below HW1.2.2.2.1 hC2 HW1.2.2.2.1.size (fun j q=>by omega);exact yRz p w w2 _ c k w.heap.size (w.heap.size+1) _ (Nat.le_refl _) (by omega) (by omega) rfl rfl rfl (by rw[HM.out,hk]) hc (HW1.1.chg hC2 (by omega)) (HW1.2.1.chg hC2 (by omega)) hb2
 obtain⟨gu,nu,cu,rfl⟩:=hU.slice;have hkp:k≤p.size:=by have:=hA.le;rw[yAn]at this;exact this
 have HA:Hid (yFl (sb p) 0 0 k os∧(∀c,(sb p)[k]?=some c→yFu c∧¬c=124)):=⟨hA,hN⟩;have HW2:Hid (yA w2 w.heap.size 171 1 w.heap.size [.slice none 0 0]∧yA w2 w.heap.size 125 2 (w.heap.size+1) [.int .i64 0,.int .i64 0]∧PrAt w2 w.heap.size (w.heap.size+2) p k 0∧Below w.heap.size w w2∧yF9 w2 (fun j=>w.heap.size+3≤j) os (.slice (some ⟨gu,0,none⟩) nu cu)):=by refine⟨HW1.1.chg hC2 (by omega),HW1.2.1.chg hC2 (by omega),hP2,Chg.below HW1.2.2.2.1 hC2 HW1.2.2.2.1.size (fun j q=>by omega),hU.move (S:=fun _=>False) (Chg.refl _ _) (fun q hq=>hq.elim) (fun q _ z=>by have h1:=z.1;rw[HW1.2.2.2.2]at h1;exact h1)⟩
 clear hC2 hA hN hU hP2 HW1;obtain⟨W3,hW3⟩:=qE (w2.setCell ⟨w.heap.size,0,none⟩ (.slice (some ⟨gu,0,none⟩) nu cu):World);have HW3:Hid (yA W3 w.heap.size 171 1 w.heap.size [.slice (some ⟨gu,0,none⟩) nu cu]∧yA W3 w.heap.size 125 2 (w.heap.size+1) [.int .i64 0,.int .i64 0]∧PrAt W3 w.heap.size (w.heap.size+2) p k 0∧Below w.heap.size w W3∧yF9 W3 (fun j=>w.heap.size+3≤j) os (.slice (some ⟨gu,0,none⟩) nu cu)):=by have hc:=Chg.of_set w2 w.heap.size 0 (.slice (some ⟨gu,0,none⟩) nu cu) (S:=fun j=>j=w.heap.size) rfl;rw[hW3];exact⟨HW2.1.set 0 _,HW2.2.1.chg hc (by omega),yA.chg HW2.2.2.1 hc (by omega),yAd HW2.2.2.2.1 (Nat.le_refl _) 0 _,HW2.2.2.2.2.move hc (fun q hq=>by subst hq;exact fun z=>by omega) (fun q _ z=>z)⟩
 have r0:=HW2.1.cell (j:=0) rfl;have rf:=HW2.1.frozen 0;clear HW2;go_upto_region 6 with fail;rw[←hW3];clear hW3 r0 rf;have c1:=HW3.2.2.1.cell (j:=1) rfl;by_cases hke:k=p.size
 ·have zk:(k:Int)=(p.size:Int):=by omega
  have HOk:Hid (yBg (sb p)=(0,0)∧yFl (sb p) 0 0 p.size os):=by refine⟨?_,by rw[←hke];exact HA.1⟩;rw[HM.out,HA.1.chk,yIe (by rw[yAn];omega),if_neg (by omega)]
  clear HA hke;go_wp2_with fail;refine(yJa _ HW3.2.2.1).mono ?_;rintro e w5 ⟨hw5,(⟨hc,rfl⟩|⟨hc,rfl⟩)⟩;case inr=>exfalso;(simp at hc)<;>omega
  rw[hw5];clear hw5 hc c1;have r0:=HW3.1.cell (j:=0) rfl;have rf:=HW3.1.frozen 0;obtain⟨e0,e1⟩:=HW3.2.1.c2;obtain⟨f0,f1⟩:=HW3.2.1.f2;obtain⟨W6,hW6⟩:=qE (((W3.setCell ⟨w.heap.size,0,none⟩ (.slice (some ⟨gu,0,none⟩) nu cu)).setCell ⟨w.heap.size+1,0,none⟩ (.int .i64 0)).setCell ⟨w.heap.size+1,1,none⟩ (.int .i64 0):World);have HW6:Hid (yA W6 w.heap.size 171 1 w.heap.size [.slice (some ⟨gu,0,none⟩) nu cu]∧yA W6 w.heap.size 125 2 (w.heap.size+1) [.int .i64 0,.int .i64 0]∧Below w.heap.size w W6∧yF9 W6 (Bet w.heap.size W6.heap.size) os (.slice (some ⟨gu,0,none⟩) nu cu)):=by have c1:=Chg.of_set W3 w.heap.size 0 (.slice (some ⟨gu,0,none⟩) nu cu) (S:=fun j=>j=w.heap.size∨j=w.heap.size+1) (.inl rfl);have c2:=c1.trans (Chg.of_set _ (w.heap.size+1) 0 (.int .i64 0) (S:=fun j=>j=w.heap.size∨j=w.heap.size+1) (.inr rfl));have c3:=c2.trans (Chg.of_set _ (w.heap.size+1) 1 (.int .i64 0) (S:=fun j=>j=w.heap.size∨j=w.heap.size+1) (.inr rfl));rw[hW6];exact⟨(((HW3.1.set 0 _).beside (by omega) 0 _).beside (by omega) 1 _),(((HW3.2.1.beside (by omega) 0 _).set 0 _).set 1 _),yAd (yAd (yAd HW3.2.2.2.1 (Nat.le_refl _) 0 _) (by omega) 0 _) (by omega) 1 _,HW3.2.2.2.2.move c3 (fun q hq=>fun z=>by omega) (fun q hq z=>⟨by omega,by have:=c3.size;omega⟩)⟩
  go_wp2_with fail;rw[←hW6];exact yYx p w W6 _ w.heap.size (w.heap.size+1) _ os rfl rfl rfl rfl HOk.1 HOk.2 HW6.2.2.2 HW6.1 HW6.2.1 HW6.2.2.1
 ·have zk:¬(k:Int)=(p.size:Int):=by omega
  have HOk:Hid (yBg (sb p)=(2,k)):=by
   show yBg (sb p)=_;obtain⟨c,hc⟩:∃c,(sb p)[k]?=some c:=⟨_,List.getElem?_eq_getElem (by rw[yAn];omega)⟩;obtain⟨h1,h2⟩:=HA.2 c hc;rw[HM.out,HA.1.chk];rcases h1 with h1|h1|h1|h1
   ·rw[yNt hc h1];rfl
   ·exact absurd h1 h2
   ·subst h1;rw[yEr hc,if_pos rfl]
   ·subst h1;rw[yNs hc]
  clear HA hke;go_wp2_with fail;refine(yJa _ HW3.2.2.1).mono ?_;rintro e w5 ⟨hw5,(⟨hc,rfl⟩|⟨hc,rfl⟩)⟩
  ·exfalso;(simp at hc)<;>omega
  rw[hw5];exact yRz p w W3 _ 2 k w.heap.size (w.heap.size+1) _ (Nat.le_refl _) (by omega) (by omega) rfl rfl rfl HOk.out (by decide) HW3.1 HW3.2.1 HW3.2.2.2.1
theorem yGs (p:ByteArray) (w:World) (hpm:p.size≤maxLen):Calls Tryz.prog 119 #[.string p] w fun e w'=>e=.returned (.agg #[.int .i64 (yBg (sb p)).1,.int .i64 ((yBg (sb p)).2:Int)])∧Below w.heap.size w w':=by
 obtain⟨W0,hW0⟩:=qE (w.alloc (Obj.cells #[.int .i64 0,.int .i64 0] 125):World);have HW0:Hid (yA W0 w.heap.size 125 2 w.heap.size [.int .i64 0,.int .i64 0]∧Below w.heap.size w W0):=by rw[hW0];exact⟨yAb w _ (Nat.le_refl _) rfl,qB⟩
 obtain⟨c,hc⟩:=qE ((yBg (sb p)).1);obtain⟨k,hk⟩:=qE ((yBg (sb p)).2);rw[←hc,←hk];go_enter Tryz.func119,Tryz.ntmps119;go_upto_region 1 with fail;rw[←hW0];clear hW0;go_wp2_with fail;refine(yIp p W0 hpm).mono ?_;rintro e w1 ⟨u,rfl,hb1,hu⟩;rw[←hc,←hk];obtain⟨ua,un,uc,rfl⟩:∃a n cp,u=.slice a n cp:=by
  rcases hu with⟨_,os,_,hU⟩|⟨_,rfl⟩
  ·obtain⟨g,n,cp,rfl⟩:=hU.slice;exact⟨_,_,_,rfl⟩
  ·exact⟨_,_,_,rfl⟩
 clear hu hc hk;obtain⟨W2,hW2⟩:=qE ((w1.alloc (Obj.cells #[.slice ua un uc] 171)).alloc (Obj.cells #[.int .i64 c,.int .i64 (k:Int)] 125):World);have HW2:Hid (yA W2 w.heap.size 125 2 w.heap.size [.int .i64 0,.int .i64 0]∧yA W2 w.heap.size 125 2 (w1.heap.size+1) [.int .i64 c,.int .i64 (k:Int)]∧Below w.heap.size w W2):=by
  have hb2:Below w1.heap.size w1 W2:=by rw[hW2];exact(qB).alloc (by simp) _
  have h1:=HW0.2.size;have h2:=hb1.size;refine⟨(HW0.1.below hb1).below hb2,?_,(HW0.2.trans (hb1.mono h1)).trans (hb2.mono (by omega))⟩;rw[hW2];exact yA.ofHeap (vs:=#[.int .i64 c,.int .i64 (k:Int)]) (heap_alloc2_new w1 _ _) (by omega) rfl
 clear hb1 HW0;go_upto_region 2 with fail;rw[←hW2];clear hW2;obtain⟨b0,b1⟩:=HW2.2.1.c2;obtain⟨r0,r1⟩:=HW2.1.c2;obtain⟨f0,f1⟩:=HW2.1.f2;have hbx:=(HW2.1.set 0 (.int .i64 c)).set 1 (.int .i64 (k:Int));obtain⟨p0,p1⟩:=hbx.c2;have HB3:Hid (Below w.heap.size w ((W2.setCell ⟨w.heap.size,0,none⟩ (.int .i64 c)).setCell ⟨w.heap.size,1,none⟩ (.int .i64 (k:Int)))):=yAd (yAd HW2.2.2 (Nat.le_refl _) 0 _) (Nat.le_refl _) 1 _;obtain⟨W3,hW3⟩:=qE ((W2.setCell ⟨w.heap.size,0,none⟩ (.int .i64 c)).setCell ⟨w.heap.size,1,none⟩ (.int .i64 (k:Int)):World);rw[←hW3]at p0 p1 HB3;clear hbx;go_wp2_with fail;rw[←hW3];refine bodyPost_ret (v:=.agg #[.int .i64 c,.int .i64 (k:Int)]) (by simp[results,Tryz.results119,go_sem,p0,p1]) rfl ⟨rfl,HB3.out⟩
abbrev less (a b:ByteArray):Prop:=Op.bytesLess a.toList b.toList=true
theorem yVc (k:Int) (s:ByteArray) (h:Bool) (t:ByteArray) (l u n k':Int) (s':ByteArray) (h':Bool) (t':ByteArray) (l' u' n':Int) (wx:World):
  (binOp .eql 65 (.agg #[.int .i64 k,.string s,.bool h,.string t,.int .u64 l,.int .u64 u,.int .i64 n]) (.agg #[.int .i64 k',.string s',.bool h',.string t',.int .u64 l',.int .u64 u',.int .i64 n'])).run Tryz.prog wx=.ok (.bool (decide (k=k'∧s.toList=s'.toList∧h=h'∧t.toList=t'.toList∧l=l'∧u=u'∧n=n'))) wx:=by
 go_simp;repeat' split
 all_goals simp_all
theorem yJu (e:Nd) (w:World):Calls Tryz.prog 120 #[e.v] w fun r w'=>∃b,r=.returned (.bool b)∧(b=true↔((e.hi=false∧e.t.toList= []∧e.up=0)∨(e.hi=true∧(less e.s e.t∨e.lo<e.up))))∧Below w.heap.size w w':=by
 go_enter Tryz.func120,Tryz.ntmps120;go_wp2_with fail;all_goals go_ret
 all_goals exact⟨_,rfl,by simp_all[less],qB⟩
def yAj (e:Nd):Prop:=e.s.size≤200∧e.t.size≤200∧(e.hi=false→e.t.toList= []∧e.up=0)∧
 (((e.kind=4∨e.kind=5∨e.kind=6∨e.kind=7)∧(e.hi=false∧e.t.toList= []∧e.lo=0∧e.up=0∧e.n=0)∧(yBg (sb e.s)).1=0)∨
  ((e.kind=8∨e.kind=9)∧(e.lo=0∧e.up=0∧e.n=0)∧(e.hi=true→less e.s e.t))∨
  (e.kind=10∧(e.s.toList= []∧e.t.toList= []∧e.n=0)∧(e.hi=true→e.lo<e.up))∨
  ((e.kind=11∨e.kind=12∨e.kind=13)∧(e.s.toList= []∧e.hi=false∧e.t.toList= []∧e.lo=0∧e.up=0)∧1≤e.n∧e.n≤1000)∨
  ((e.kind=1∨e.kind=2∨e.kind=3∨e.kind=14∨e.kind=15∨e.kind=16)∧(e.s.toList= []∧e.hi=false∧e.t.toList= []∧e.lo=0∧e.up=0∧e.n=0)))
theorem yUr (c k:Int) (w:World):(Instr.field 125 (.agg #[.int .i64 c,.int .i64 k]) 0).run Tryz.prog w=.ok (.int .i64 c) w:=by kernel_rfl
def NdPost (e:Nd) (w:World) (r:Ending) (w':World):Prop:=∃b,r=.returned (.bool b)∧(b=true↔yAj e)∧Below w.heap.size w w'
theorem yIm (k:Int) (w:World):Calls Tryz.prog 108 #[.int .i64 k] w fun e w'=>e=.returned (.int .i64 (yAo k:Int))∧w'=w:=by
 by_cases h14:k=14
 ·subst h14;exact yXs
 by_cases h15:k=15
 ·subst h15;exact yXs
 by_cases h16:k=16
 ·subst h16;exact yXs
 have z14:(k==14)=false:=by simpa using h14
 have z15:(k==15)=false:=by simpa using h15
 have z16:(k==16)=false:=by simpa using h16
 have H:Hid (yAo k=0):=by show yAo k=0;unfold yAo;rw[if_neg (by omega),if_neg h16]
 go_enter Tryz.func108,Tryz.ntmps108;go_wp2_with fail;go_ret;exact⟨by rw[H.out];rfl,rfl⟩
theorem yJj (k:Int) (w:World):Calls Tryz.prog 109 #[.int .i64 k] w fun e w'=>e=.returned (.int .i64 (yA3 k:Int))∧w'=w:=by
 by_cases h15:k=15
 ·subst h15;go_enter Tryz.func109,Tryz.ntmps109;go_wp2_with fail;go_ret;exact⟨rfl,rfl⟩
 by_cases h14:k=14
 ·subst h14;go_enter Tryz.func109,Tryz.ntmps109;go_wp2_with fail;go_ret;exact⟨rfl,rfl⟩
 have z14:(k==14)=false:=by simpa using h14
 have z15:(k==15)=false:=by simpa using h15
 have H:Hid (yA3 k=3):=by show yA3 k=3;unfold yA3;rw[if_neg h15,if_neg h14]
 go_enter Tryz.func109,Tryz.ntmps109;go_wp2_with fail;go_ret;exact⟨by rw[H.out];rfl,rfl⟩
theorem yKi (op:Int) (i:Nat) (kid:Int) (w:World) (hop:¬op=16):Calls Tryz.prog 82 #[.int .i64 op,.int .i64 (i:Int),.int .i64 kid] w fun e w'=>e=.returned (.bool (yBf op i kid))∧w'=w:=by
 have zop:(op==16)=false:=by simpa using hop
 by_cases hi:i=0
 ·subst hi;have HL:Hid (yBf op 0 kid=decide (yA3 kid<yA3 op)):=by show yBf op 0 kid=_;unfold yBf;simp[hop]
  exact zzQ68
 ·have zi:((i:Int)==0)=false:=by simpa using hi
  have HL:Hid (yBf op i kid=decide (yA3 kid≤yA3 op)):=by show yBf op i kid=_;unfold yBf;simp[hop,hi]
  exact zzQ68
structure Win (w:World) (b off cap:Nat) (xs:List Nd):Prop where
 at_:yBj w b off xs
 lt:b<w.heap.size
 len:xs.length≤cap
 cap:cap≤9223372036854775807
 sm:xs.length≤281474976710656
variable {b off cap:Nat} {xs:List Nd}
theorem Win.below (h:Win w b off cap xs) (hb:Below w.heap.size w w'):Win w' b off cap xs:=
 ⟨h.at_.below hb h.lt,by have:=hb.size;have:=h.lt;omega,h.len,h.cap,h.sm⟩
theorem Win.kind (h:Win w b off cap xs) {e:Nd} (he:xs[i]?=some e):w.cell? ⟨b,off+i*7,none⟩=some (.int .i64 e.kind):=(h.at_ i e he).1
theorem yK5 {e:Nd} (h:Win w b off cap (xs++ [e])):Calls Tryz.prog 80 #[.slice (some ⟨b,off,none⟩) (xs.length+1) cap] w fun r w'=>r=.returned (.int .i64 e.kind)∧w'=w:=by have hk:=h.kind (i:=xs.length) (e:=e) (by simp);obtain⟨n,hn⟩:=qE xs.length;have h1:=h.len;have h2:=h.cap;rw[List.length_append,List.length_singleton]at h1;rw[←hn]at hk h1⊢;clear h hn;go_enter Tryz.func80,Tryz.ntmps80;go_wp2_with fail;go_ret;exact⟨rfl,rfl⟩
def yW3 (xs:List Nd) (w:World) (r:Ending) (w':World):Prop:=w'=w∧((∃i:Nat,r=.returned (.int .i64 (i:Int))∧i≤xs.length∧IsT 1 (xs.drop i))∨(r=.returned (.int .i64 (-1))∧∀j,j≤xs.length→¬IsT 1 (xs.drop j)))
theorem yOe (h:Win w b off cap xs):Calls Tryz.prog 79 #[.slice (some ⟨b,off,none⟩) xs.length cap] w (yW3 xs w):=by
 have HW:Hid (Win w b off cap xs):=h;have h1:=h.len;have h2:=h.cap;have h3:=h.sm;obtain⟨n,hn⟩:=qE xs.length;have HN:Hid (n=xs.length):=hn;rw[←hn]at h1 h3⊢;clear h hn;go_enter Tryz.func79,Tryz.ntmps79;go_wp2_with fail;go_loopw[3,4] (fun nv iv wr=>∃(i m:Nat),iv=.int .i64 (i:Int)∧nv=.int .i64 (m:Int)∧i≤n∧m≤1+3*(n-i)∧Sc m (xs.drop i)∧wr=w) (fun _ iv _=>(intOf iv).toNat);case atStart=>exact⟨n,1,rfl,rfl,Nat.le_refl _,by omega,by rw[HN.out,List.drop_length];exact .nil,rfl⟩
 case round=>
  obtain⟨i,m,rfl,rfl,hi,hm,hS,rfl⟩:=hrel;have HS:Hid (Sc m (xs.drop i)):=hS;clear hS;by_cases hm0:m=0
  ·subst hm0;go_wp2_with fail;go_ret;refine⟨rfl,.inl ⟨i,rfl,by have:=HN.out;omega,?_⟩⟩;have:=HS.tree (pre:= []);exact this.1 .nil
  ·obtain⟨m',rfl⟩:∃m',m=m'+1:=⟨m-1,by omega⟩;have zm:(0:Int)<(m':Int)+1:=by omega
   by_cases hi0:i=0
   ·subst hi0;go_wp2_with fail;go_ret;exact⟨rfl,.inr ⟨rfl,fun j hj=>yYs HS.out j (Nat.zero_le _) hj⟩⟩
   ·obtain⟨i',rfl⟩:∃i',i=i'+1:=⟨i-1,by omega⟩;obtain⟨e,he⟩:∃e,xs[i']?=some e:=⟨_,List.getElem?_eq_getElem (by have:=HN.out;omega)⟩;have hk:=HW.kind he;have hlt:i'<xs.length:=by have:=HN.out;omega
    have HS2:Hid (Sc (m'+yAo e.kind) (xs.drop i')):=by show Sc _ _;rw[List.drop_eq_getElem_cons hlt,show xs[i']=e from Option.some.inj ((List.getElem?_eq_getElem hlt).symm.trans he)];exact .cons e HS.out
    have ha:=yFb e.kind;have zi:¬(i':Int)<0:=by omega
    clear he hlt;go_wp2_with fail;refine(yIm e.kind _).mono ?_;rintro r w2 ⟨rfl,hw2⟩;rw[hw2];clear hw2;go_wp2_with fail;go_roundw;case rel=>exact⟨i',m'+yAo e.kind,by go_num,by go_num,by omega,by omega,HS2.out,by first|rfl|trivial⟩
    case measure=>simp[intOf]<;>omega
end Go.Proofs.YtgnpcenpcmdlfaaGreatDoor
