import Derived.Test.YtkidabedcgngcaaGreatDoorVkAA
import Derived.Test.YtkidabedcgngcaaGreatDoorVkAB
import Derived.Test.YtkidabedcgngcaaGreatDoorVkAE
import Derived.Maps.OwnSet
import Derived.Maps.OwnOps
import Derived.DeepKeys4
import Derived.OrdersIn
import Derived.RangeFuncCalls
import Derived.Test.YtkidabedcgngcaaGreatDoorVkAC
namespace Go.Proofs.YtkidabedcgngcaaGreatDoor
open Go.RowKit Go.ChangeShapes Go.WideShapes Go.ChangeAt Go.Deep Go.Shelf Go.Maps
set_option linter.unusedVariables false
set_option linter.unusedSimpArgs false
set_option maxRecDepth 100000
set_option maxHeartbeats 40000000
theorem yL4 (n:Nat) (h:n<64):IntKind.u64.wrap (2^n)=((2^n:Nat):Int):=by
 have hp:2^n<18446744073709551616:=Nat.pow_lt_pow_right (a:=2) (by decide) h;rw[IntKind.wrap_u64];have e:((2:Int)^n)=((2^n:Nat):Int):=by simp
 rw[e];exact Int.emod_eq_of_lt (Int.natCast_nonneg _) (Int.ofNat_lt.2 hp)
theorem with_0 (S:PS) (a:Nat) (ha:a/64=0) (w:World):Calls Tryz.prog 137 #[psV S,.int .i64 (a:Int)] w fun e w'=>e=.returned (psV (sOr S (sOne a)))∧Below w.heap.size w w':=by
 have za:a<256:=by omega
 have zq:(a:Int).tdiv 64=0:=by rw[Int.tdiv_eq_ediv_of_nonneg (by omega)];omega
 have zr:(a:Int).tmod 64=((a%64:Nat):Int):=by rw[Int.tmod_eq_emod_of_nonneg (by omega)];omega
 obtain⟨n,hn⟩:=qE (a%64);rw[←hn]at zr;have zn:n<64:=by omega
 have zs:=yL4 n zn;have zn0:¬(n:Int)<0:=by omega
 have zwi:IntKind.i64.wrap (0:Int)=0:=by rfl
 have zwn:IntKind.i64.wrap (n:Int)=n:=by simp[IntKind.wrap,IntKind.bits,IntKind.signed];omega
 have wo:=yLt S a 0 ha.symm;rw[←hn,show((2^n:Nat):Int)=(2:Int)^n by simp]at wo;have w1:=yBm S a 1 (by omega);have w2:=yBm S a 2 (by omega);have w3:=yBm S a 3 (by omega);have HW:Hid (bits .or .u64 (wdN S 0:Int) ((2:Int)^n)=((wdN (sOr S (sOne a)) 0:Nat):Int)∧(∀j,¬j=0→wdN (sOr S (sOne a)) j=wdN S j)):=⟨wo,fun j hj=>yBm S a j (by omega)⟩;clear hn ha wo w1 w2 w3;go_enter Tryz.func137,Tryz.ntmps137;go_upto_region 1 with fail;refine yAb 9 (fun wz=>wz.cell? ⟨w.heap.size,0,none⟩=some (.int .u64 (wdN S 0:Int))) (by kernel_rfl) ?_;refine yB (i:=0) (v:=?va0) rfl (by kernel_rfl) (by kernel_rfl) (by kernel_rfl) (by kernel_rfl) (by decide) (fun _ _ _ h=>h) (Or.inl ⟨by rfl,?ya0⟩) (by simp) ?_;case ya0=>exact zzR1
 refine jS ?_;refine j9a 1 (by simp) (v:=(.int .i64 0)) ?_;exact yYq
theorem with_1 (S:PS) (a:Nat) (ha:a/64=1) (w:World):Calls Tryz.prog 137 #[psV S,.int .i64 (a:Int)] w fun e w'=>e=.returned (psV (sOr S (sOne a)))∧Below w.heap.size w w':=by
 have za:a<256:=by omega
 have zq:(a:Int).tdiv 64=1:=by rw[Int.tdiv_eq_ediv_of_nonneg (by omega)];omega
 have zr:(a:Int).tmod 64=((a%64:Nat):Int):=by rw[Int.tmod_eq_emod_of_nonneg (by omega)];omega
 obtain⟨n,hn⟩:=qE (a%64);rw[←hn]at zr;have zn:n<64:=by omega
 have zs:=yL4 n zn;have zn0:¬(n:Int)<0:=by omega
 have zwi:IntKind.i64.wrap (1:Int)=1:=by rfl
 have zwn:IntKind.i64.wrap (n:Int)=n:=by simp[IntKind.wrap,IntKind.bits,IntKind.signed];omega
 have wo:=yLt S a 1 ha.symm;rw[←hn,show((2^n:Nat):Int)=(2:Int)^n by simp]at wo;have w0:=yBm S a 0 (by omega);have w2:=yBm S a 2 (by omega);have w3:=yBm S a 3 (by omega);have HW:Hid (bits .or .u64 (wdN S 1:Int) ((2:Int)^n)=((wdN (sOr S (sOne a)) 1:Nat):Int)∧(∀j,¬j=1→wdN (sOr S (sOne a)) j=wdN S j)):=⟨wo,fun j hj=>yBm S a j (by omega)⟩;clear hn ha wo w0 w2 w3;go_enter Tryz.func137,Tryz.ntmps137;go_upto_region 1 with fail;refine yAb 9 (fun wz=>wz.cell? ⟨w.heap.size,1,none⟩=some (.int .u64 (wdN S 1:Int))) (by kernel_rfl) ?_;refine yB (i:=0) (v:=?va0) rfl (by kernel_rfl) (by kernel_rfl) (by kernel_rfl) (by kernel_rfl) (by decide) (fun _ _ _ h=>h) (Or.inl ⟨by rfl,?ya0⟩) (by simp) ?_;case ya0=>exact zzR1
 refine jS ?_;refine j9a 1 (by simp) (v:=(.int .i64 1)) ?_;exact yYq
theorem with_2 (S:PS) (a:Nat) (ha:a/64=2) (w:World):Calls Tryz.prog 137 #[psV S,.int .i64 (a:Int)] w fun e w'=>e=.returned (psV (sOr S (sOne a)))∧Below w.heap.size w w':=by
 have za:a<256:=by omega
 have zq:(a:Int).tdiv 64=2:=by rw[Int.tdiv_eq_ediv_of_nonneg (by omega)];omega
 have zr:(a:Int).tmod 64=((a%64:Nat):Int):=by rw[Int.tmod_eq_emod_of_nonneg (by omega)];omega
 obtain⟨n,hn⟩:=qE (a%64);rw[←hn]at zr;have zn:n<64:=by omega
 have zs:=yL4 n zn;have zn0:¬(n:Int)<0:=by omega
 have zwi:IntKind.i64.wrap (2:Int)=2:=by rfl
 have zwn:IntKind.i64.wrap (n:Int)=n:=by simp[IntKind.wrap,IntKind.bits,IntKind.signed];omega
 have wo:=yLt S a 2 ha.symm;rw[←hn,show((2^n:Nat):Int)=(2:Int)^n by simp]at wo;have w0:=yBm S a 0 (by omega);have w1:=yBm S a 1 (by omega);have w3:=yBm S a 3 (by omega);have HW:Hid (bits .or .u64 (wdN S 2:Int) ((2:Int)^n)=((wdN (sOr S (sOne a)) 2:Nat):Int)∧(∀j,¬j=2→wdN (sOr S (sOne a)) j=wdN S j)):=⟨wo,fun j hj=>yBm S a j (by omega)⟩;clear hn ha wo w0 w1 w3;go_enter Tryz.func137,Tryz.ntmps137;go_upto_region 1 with fail;refine yAb 9 (fun wz=>wz.cell? ⟨w.heap.size,2,none⟩=some (.int .u64 (wdN S 2:Int))) (by kernel_rfl) ?_;refine yB (i:=0) (v:=?va0) rfl (by kernel_rfl) (by kernel_rfl) (by kernel_rfl) (by kernel_rfl) (by decide) (fun _ _ _ h=>h) (Or.inl ⟨by rfl,?ya0⟩) (by simp) ?_;case ya0=>exact zzR1
 refine jS ?_;refine j9a 1 (by simp) (v:=(.int .i64 2)) ?_;exact yYq
theorem with_3 (S:PS) (a:Nat) (ha:a/64=3) (w:World):Calls Tryz.prog 137 #[psV S,.int .i64 (a:Int)] w fun e w'=>e=.returned (psV (sOr S (sOne a)))∧Below w.heap.size w w':=by
 have za:a<256:=by omega
 have zq:(a:Int).tdiv 64=3:=by rw[Int.tdiv_eq_ediv_of_nonneg (by omega)];omega
 have zr:(a:Int).tmod 64=((a%64:Nat):Int):=by rw[Int.tmod_eq_emod_of_nonneg (by omega)];omega
 obtain⟨n,hn⟩:=qE (a%64);rw[←hn]at zr;have zn:n<64:=by omega
 have zs:=yL4 n zn;have zn0:¬(n:Int)<0:=by omega
 have zwi:IntKind.i64.wrap (3:Int)=3:=by rfl
 have zwn:IntKind.i64.wrap (n:Int)=n:=by simp[IntKind.wrap,IntKind.bits,IntKind.signed];omega
 have wo:=yLt S a 3 ha.symm;rw[←hn,show((2^n:Nat):Int)=(2:Int)^n by simp]at wo;have w0:=yBm S a 0 (by omega);have w1:=yBm S a 1 (by omega);have w2:=yBm S a 2 (by omega);have HW:Hid (bits .or .u64 (wdN S 3:Int) ((2:Int)^n)=((wdN (sOr S (sOne a)) 3:Nat):Int)∧(∀j,¬j=3→wdN (sOr S (sOne a)) j=wdN S j)):=⟨wo,fun j hj=>yBm S a j (by omega)⟩;clear hn ha wo w0 w1 w2;go_enter Tryz.func137,Tryz.ntmps137;go_upto_region 1 with fail;refine yAb 9 (fun wz=>wz.cell? ⟨w.heap.size,3,none⟩=some (.int .u64 (wdN S 3:Int))) (by kernel_rfl) ?_;refine j9a 0 (by simp) ?_;refine j9a 1 (by simp) (v:=(.int .i64 3)) ?_;iterate 3 refine j9b (by simp) ?_
 refine j9a 5 (by simp) (v:=(.int .i64 (n:Int))) ?_;iterate 2 refine j9b (by simp) ?_
 refine j3b (by simp) ?_;refine qO 9 rfl fun K hK=>?_;go_simp;refine hK.out _ _ (.inl rfl) ?_;clear hK;refine jS ?_;refine qD ?_;go_wp2_with fail;refine bodyPost_ret (v:=psV (sOr S (sOne a))) (by simp[results,Tryz.results137,go_sem,HW.2]) rfl ⟨rfl,?_⟩;repeat (first|exact Below.refl _ _|refine Below.drew ?_|refine Below.alloc ?_ (by simp;done) _|refine Below.alloc ?_ (Nat.le_refl _) _|refine Below.alloc ?_ (by simp;omega) _)
theorem yFa (S:PS) (a:Nat) (ha:a<256) (w:World):Calls Tryz.prog 137 #[psV S,.int .i64 (a:Int)] w fun e w'=>e=.returned (psV (sOr S (sOne a)))∧Below w.heap.size w w':=by
 rcases(by omega:a/64=0∨a/64=1∨a/64=2∨a/64=3)with h|h|h|h
 ·exact with_0 S a h w
 ·exact with_1 S a h w
 ·exact with_2 S a h w
 ·exact with_3 S a h w
def mixL (R S:PS) (k:Nat):List Value:= [.int .u64 (if 0<k then(wdN R 0:Int)else(wdN S 0:Int)),.int .u64 (if 1<k then(wdN R 1:Int)else(wdN S 1:Int)),.int .u64 (if 2<k then(wdN R 2:Int)else(wdN S 2:Int)),.int .u64 (if 3<k then(wdN R 3:Int)else(wdN S 3:Int))]
theorem yNn (R S:PS):mixL R S 0=psL S:=by simp[mixL,psL]
theorem yQ4 (R S:PS):mixL R S 4=psL R:=by simp[mixL,psL]
variable {k:Nat}
theorem yUq (R S:PS) (hk:k<4):(mixL R S k)[k]?=some (.int .u64 (wdN S k:Int)):=by rcases(by omega:k=0∨k=1∨k=2∨k=3)with rfl|rfl|rfl|rfl<;>simp[mixL]
theorem yQ3 (R S:PS) (hk:k<4):(mixL R S k).set k (.int .u64 (wdN R k:Int))=mixL R S (k+1):=by rcases(by omega:k=0∨k=1∨k=2∨k=3)with rfl|rfl|rfl|rfl<;>simp[mixL]
theorem yX1 (S:PS) (hk:k<4):(psL S)[k]?=some (.int .u64 (wdN S k:Int)):=by rcases(by omega:k=0∨k=1∨k=2∨k=3)with rfl|rfl|rfl|rfl<;>simp[psL]
abbrev z4:Array Value:=#[.int .u64 0,.int .u64 0,.int .u64 0,.int .u64 0]
theorem yCw (S T:PS) (w:World):Calls Tryz.prog 161 #[psV S,psV T] w fun e w'=>e=.returned (psV (sOr S T))∧Below w.heap.size w w':=by
 have HI:Hid (yA (((w.alloc (.cells (psL S).toArray 178)).alloc (.cells (psL T).toArray 178)).alloc (.cells z4 178)) w.heap.size 178 4 w.heap.size (psL S)∧yA (((w.alloc (.cells (psL S).toArray 178)).alloc (.cells (psL T).toArray 178)).alloc (.cells z4 178)) w.heap.size 178 4 (w.heap.size+1) (psL T)∧yA (((w.alloc (.cells (psL S).toArray 178)).alloc (.cells (psL T).toArray 178)).alloc (.cells z4 178)) w.heap.size 178 4 (w.heap.size+1+1) z4.toList∧Below w.heap.size w (((w.alloc (.cells (psL S).toArray 178)).alloc (.cells (psL T).toArray 178)).alloc (.cells z4 178))):=by have b1:=yAa w (base:=w.heap.size) (t:=178) (sz:=4) (psL S).toArray (Nat.le_refl _) rfl;have k1:∀(x:World) (o:Obj),Below x.heap.size x (x.alloc o):=fun x o=>qB;have b2:=yAa (w.alloc (.cells (psL S).toArray 178)) (base:=w.heap.size) (t:=178) (sz:=4) (psL T).toArray (by simp) rfl;have b3:=yAa ((w.alloc (.cells (psL S).toArray 178)).alloc (.cells (psL T).toArray 178)) (base:=w.heap.size) (t:=178) (sz:=4) z4 (by simp;omega) rfl;rw[World.size_alloc]at b2;rw[World.size_alloc,World.size_alloc]at b3;exact⟨(b1.below (k1 _ _)).below (k1 _ _),b2.below (k1 _ _),b3,((qB).alloc (by simp) _).alloc (by simp;omega) _⟩
 go_enter Tryz.func161,Tryz.ntmps161;go_wp2_with fail;go_loopw[6] (fun iv wr=>∃k:Nat,k≤4∧iv=.int .i64 k∧Hid (yA wr w.heap.size 178 4 w.heap.size (mixL (sOr S T) S k)∧yA wr w.heap.size 178 4 (w.heap.size+1) (psL T)∧yA wr w.heap.size 178 4 (w.heap.size+1+1) z4.toList∧Below w.heap.size w wr)) (fun iv _=>4-(intOf iv).toNat);case atStart=>exact⟨0,by omega,rfl,by rw[yNn];exact HI.out⟩
 case round=>
  clear HI;obtain⟨k,hk,rfl,HJ⟩:=hrel;by_cases hlt:k<4
  ·have zk:(k:Int)<4:=by omega
   have c0:=HJ.1.cell (yUq (sOr S T) S hlt);have c1:=HJ.2.1.cell (yX1 T hlt);have f0:=HJ.1.frozen k;have wo:=wd_or S T k;go_upto_region 4 with fail;refine yAb 8 (fun wz=>wz.cell? ⟨w.heap.size,k,none⟩=some (.int .u64 (wdN S k:Int))∧wz.cell? ⟨w.heap.size+1,k,none⟩=some (.int .u64 (wdN T k:Int))) (by kernel_rfl) ?_;refine j8a 0 ⟨by simpa using c0,by simpa using c1⟩ ?_;iterate 7 refine j8b ⟨by simpa using c0,by simpa using c1⟩ ?_
   refine qO 8 rfl fun K hK=>?_;go_simp;refine hK.out _ _ (.inl rfl) ?_;clear hK;refine jS ?_;refine qD ?_;have HJ2:Hid (yA (wr.drew.setCell ⟨w.heap.size,k,none⟩ (.int .u64 (wdN (sOr S T) k:Int))) w.heap.size 178 4 w.heap.size (mixL (sOr S T) S (k+1))∧yA (wr.drew.setCell ⟨w.heap.size,k,none⟩ (.int .u64 (wdN (sOr S T) k:Int))) w.heap.size 178 4 (w.heap.size+1) (psL T)∧yA (wr.drew.setCell ⟨w.heap.size,k,none⟩ (.int .u64 (wdN (sOr S T) k:Int))) w.heap.size 178 4 (w.heap.size+1+1) z4.toList∧Below w.heap.size w (wr.drew.setCell ⟨w.heap.size,k,none⟩ (.int .u64 (wdN (sOr S T) k:Int)))):=by have kd:Below wr.heap.size wr wr.drew:=(Below.refl _ _).drew;refine⟨?_,(HJ.2.1.below kd).beside (by omega) _ _,(HJ.2.2.1.below kd).beside (by omega) _ _,yAc HJ.2.2.2.drew (Nat.le_refl _) _ _⟩;rw[←yQ3 _ _ hlt];exact(HJ.1.below kd).set k _
   go_wp2_with fail;refine⟨⟨k+1,by omega,by go_num,HJ2⟩,?_⟩;go_light;simp[intOf];omega
  ·obtain rfl:k=4:=by omega
   rw[yQ4]at HJ;obtain⟨c0,c1,c2,c3⟩:=HJ.1.c4;obtain⟨d0,d1,d2,d3⟩:=HJ.2.2.1.c4;obtain⟨f0,f1,f2,f3⟩:=HJ.2.2.1.f4;have hlt2:w.heap.size+1+1<wr.heap.size:=HJ.2.2.1.lt.2;go_wp2_with fail;refine bodyPost_ret (v:=psV (sOr S T)) (by simp[results,Tryz.results161,go_sem,d0,d1,d2,d3]) rfl ⟨rfl,?_⟩;repeat (first|exact HJ.2.2.2|refine Below.drew ?_|refine yAc ?_ (by omega) _ _)
theorem yKd (S T:PS) (w:World):Calls Tryz.prog 139 #[psV S,psV T] w fun e w'=>e=.returned (psV (sAnd S T))∧Below w.heap.size w w':=by
 have HI:Hid (yA (((w.alloc (.cells (psL S).toArray 178)).alloc (.cells (psL T).toArray 178)).alloc (.cells z4 178)) w.heap.size 178 4 w.heap.size (psL S)∧yA (((w.alloc (.cells (psL S).toArray 178)).alloc (.cells (psL T).toArray 178)).alloc (.cells z4 178)) w.heap.size 178 4 (w.heap.size+1) (psL T)∧yA (((w.alloc (.cells (psL S).toArray 178)).alloc (.cells (psL T).toArray 178)).alloc (.cells z4 178)) w.heap.size 178 4 (w.heap.size+1+1) z4.toList∧Below w.heap.size w (((w.alloc (.cells (psL S).toArray 178)).alloc (.cells (psL T).toArray 178)).alloc (.cells z4 178))):=by have b1:=yAa w (base:=w.heap.size) (t:=178) (sz:=4) (psL S).toArray (Nat.le_refl _) rfl;have k1:∀(x:World) (o:Obj),Below x.heap.size x (x.alloc o):=fun x o=>qB;have b2:=yAa (w.alloc (.cells (psL S).toArray 178)) (base:=w.heap.size) (t:=178) (sz:=4) (psL T).toArray (by simp) rfl;have b3:=yAa ((w.alloc (.cells (psL S).toArray 178)).alloc (.cells (psL T).toArray 178)) (base:=w.heap.size) (t:=178) (sz:=4) z4 (by simp;omega) rfl;rw[World.size_alloc]at b2;rw[World.size_alloc,World.size_alloc]at b3;exact⟨(b1.below (k1 _ _)).below (k1 _ _),b2.below (k1 _ _),b3,((qB).alloc (by simp) _).alloc (by simp;omega) _⟩
 go_enter Tryz.func139,Tryz.ntmps139;go_wp2_with fail;go_loopw[6] (fun iv wr=>∃k:Nat,k≤4∧iv=.int .i64 k∧Hid (yA wr w.heap.size 178 4 w.heap.size (mixL (sAnd S T) S k)∧yA wr w.heap.size 178 4 (w.heap.size+1) (psL T)∧yA wr w.heap.size 178 4 (w.heap.size+1+1) z4.toList∧Below w.heap.size w wr)) (fun iv _=>4-(intOf iv).toNat);case atStart=>exact⟨0,by omega,rfl,by rw[yNn];exact HI.out⟩
 case round=>
  clear HI;obtain⟨k,hk,rfl,HJ⟩:=hrel;by_cases hlt:k<4
  ·have zk:(k:Int)<4:=by omega
   have c0:=HJ.1.cell (yUq (sAnd S T) S hlt);have c1:=HJ.2.1.cell (yX1 T hlt);have f0:=HJ.1.frozen k;have wo:=wd_and S T k;go_upto_region 4 with fail;refine yAb 8 (fun wz=>wz.cell? ⟨w.heap.size,k,none⟩=some (.int .u64 (wdN S k:Int))∧wz.cell? ⟨w.heap.size+1,k,none⟩=some (.int .u64 (wdN T k:Int))) (by kernel_rfl) ?_;refine j8a 0 ⟨by simpa using c0,by simpa using c1⟩ ?_;iterate 7 refine j8b ⟨by simpa using c0,by simpa using c1⟩ ?_
   refine qO 8 rfl fun K hK=>?_;go_simp;refine hK.out _ _ (.inl rfl) ?_;clear hK;refine jS ?_;refine qD ?_;have HJ2:Hid (yA (wr.drew.setCell ⟨w.heap.size,k,none⟩ (.int .u64 (wdN (sAnd S T) k:Int))) w.heap.size 178 4 w.heap.size (mixL (sAnd S T) S (k+1))∧yA (wr.drew.setCell ⟨w.heap.size,k,none⟩ (.int .u64 (wdN (sAnd S T) k:Int))) w.heap.size 178 4 (w.heap.size+1) (psL T)∧yA (wr.drew.setCell ⟨w.heap.size,k,none⟩ (.int .u64 (wdN (sAnd S T) k:Int))) w.heap.size 178 4 (w.heap.size+1+1) z4.toList∧Below w.heap.size w (wr.drew.setCell ⟨w.heap.size,k,none⟩ (.int .u64 (wdN (sAnd S T) k:Int)))):=by have kd:Below wr.heap.size wr wr.drew:=(Below.refl _ _).drew;refine⟨?_,(HJ.2.1.below kd).beside (by omega) _ _,(HJ.2.2.1.below kd).beside (by omega) _ _,yAc HJ.2.2.2.drew (Nat.le_refl _) _ _⟩;rw[←yQ3 _ _ hlt];exact(HJ.1.below kd).set k _
   go_wp2_with fail;refine⟨⟨k+1,by omega,by go_num,HJ2⟩,?_⟩;go_light;simp[intOf];omega
  ·obtain rfl:k=4:=by omega
   rw[yQ4]at HJ;obtain⟨c0,c1,c2,c3⟩:=HJ.1.c4;obtain⟨d0,d1,d2,d3⟩:=HJ.2.2.1.c4;obtain⟨f0,f1,f2,f3⟩:=HJ.2.2.1.f4;have hlt2:w.heap.size+1+1<wr.heap.size:=HJ.2.2.1.lt.2;go_wp2_with fail;refine bodyPost_ret (v:=psV (sAnd S T)) (by simp[results,Tryz.results139,go_sem,d0,d1,d2,d3]) rfl ⟨rfl,?_⟩;repeat (first|exact HJ.2.2.2|refine Below.drew ?_|refine yAc ?_ (by omega) _ _)
section
def rngV (N:Nat) (f:Nat→Value):List Value:=(List.range N).map f
theorem yI1 (N:Nat) (f:Nat→Value):(rngV N f).length=N:=by simp[rngV]
variable {N j:Nat} {f:Nat→Value}
theorem yD1 (h:j<N):(rngV N f)[j]?=some (f j):=by simp[rngV,h]
theorem yCl {g:Nat→Value} (h:∀i,i<N→f i=g i):rngV N f=rngV N g:=by unfold rngV;refine List.map_congr_left (fun i hi=>h i (by simpa using hi))
theorem yG0 {v:Value} (h:j<N):(rngV N f).set j v=rngV N (fun i=>if i=j then v else f i):=by
 refine List.ext_getElem? (fun i=>?_);by_cases hi:i<N
 ·rw[yD1 hi];by_cases e:i=j
  ·subst e;rw[List.getElem?_set_self (by rw[yI1];exact hi)];simp
  ·rw[List.getElem?_set_ne (fun q=>e q.symm),yD1 hi];simp[e]
 ·rw[List.getElem?_eq_none (by simp[yI1];omega),List.getElem?_eq_none (by simp[yI1];omega)]
def set4 (w:World) (g o:Nat) (S:PS):World:=(((w.setCell ⟨g,o,none⟩ (.int .u64 (wdN S 0:Int))).setCell ⟨g,o+1,none⟩ (.int .u64 (wdN S 1:Int))).setCell ⟨g,o+2,none⟩ (.int .u64 (wdN S 2:Int))).setCell ⟨g,o+3,none⟩ (.int .u64 (wdN S 3:Int))
def yR4 (vs:List Value) (o:Nat) (S:PS):List Value:=(((vs.set o (.int .u64 (wdN S 0:Int))).set (o+1) (.int .u64 (wdN S 1:Int))).set (o+2) (.int .u64 (wdN S 2:Int))).set (o+3) (.int .u64 (wdN S 3:Int))
theorem yJc {o:Nat} (S:PS) (h:o+4≤N):yR4 (rngV N f) o S=rngV N (fun i=>if o≤i∧i<o+4 then .int .u64 (wdN S (i-o):Int)else f i):=by
 unfold yR4;rw[yG0 (by omega),yG0 (by omega),yG0 (by omega),yG0 (by omega)];refine yCl (fun i hi=>?_);by_cases h1:o≤i∧i<o+4
 ·rw[if_pos h1];rcases(by omega:i=o∨i=o+1∨i=o+2∨i=o+3)with rfl|rfl|rfl|rfl
  ·simp
  ·simp
  ·simp
  ·simp
 ·rw[if_neg h1,if_neg (by omega),if_neg (by omega),if_neg (by omega),if_neg (by omega)]
variable {w:World} {base n cp:Nat}
theorem yFv {e size:Nat} {g:Nat} {xs:List Value} (h:w.ownsRow base e size (.slice (some ⟨g,0,none⟩) n cp) n xs) (o:Nat) (S:PS):(set4 w g o S).ownsRow base e size (.slice (some ⟨g,0,none⟩) n cp) n (yR4 xs o S):=
 (World.ownsRow.stored (World.ownsRow.stored (World.ownsRow.stored (World.ownsRow.stored h o _).1 (o+1) _).1 (o+2) _).1 (o+3) _).1
variable {S:Nat→Prop}
theorem yBj (w:World) (g o:Nat) (X:PS) (hs:S g):Chg S w (set4 w g o X):=
 (((Chg.of_set w g o _ hs).trans (Chg.of_set _ g (o+1) _ hs)).trans (Chg.of_set _ g (o+2) _ hs)).trans (Chg.of_set _ g (o+3) _ hs)
def eV (E:Nat→PS) (i:Nat):Value:=.int .u64 (wdN (E (i/4)) (i%4):Int)
def mV (T:Nat→PS) (fv:Value) (en:PS) (mp:Nat) (i:Nat):Value:=if i<1024 then eV T i else if i=1024 then fv else if i<1029 then .int .u64 (wdN en (i-1025):Int)else .map (some mp)
def updE (E:Nat→PS) (p:Nat) (S:PS):Nat→PS:=fun q=>if q=p then S else E q
theorem yX2 (E:Nat→PS) (p:Nat) (S:PS) (i:Nat):(if 4*p≤i∧i<4*p+4 then Value.int .u64 (wdN S (i-4*p):Int)else eV E i)=eV (updE E p S) i:=by
 unfold eV updE;by_cases h:4*p≤i∧i<4*p+4
 ·rw[if_pos h,if_pos (by omega),show i-4*p=i%4 by omega]
 ·rw[if_neg h,if_neg (by omega)]
structure MtrI (w:World) (base M:Nat) (T:Nat→PS) (G cp a:Nat) (E:Nat→PS) (en:PS) (mp:Nat):Prop where
 box:yA w base 181 1030 M (rngV 1030 (mV T (.slice (some ⟨G,0,none⟩) a cp) en mp))
 row:w.ownsRow base 178 4 (.slice (some ⟨G,0,none⟩) a cp) a (rngV (4*a) (eV E))
 new:∀p,a≤p→∀q,E p q=false
 tab:TabD w
 low:1<base
section
variable {w w':World} {base M:Nat} {T:Nat→PS} {G cp a:Nat} {E:Nat→PS} {en:PS} {mp:Nat}
theorem MtrI.ltM (h:MtrI w base M T G cp a E en mp):base≤M∧M<w.heap.size:=h.box.lt
theorem MtrI.ltG (h:MtrI w base M T G cp a E en mp):base≤G∧G<w.heap.size:=World.ownsRow.lt h.row G rfl
theorem MtrI.ne (h:MtrI w base M T G cp a E en mp):¬G=M:=fun q=>yAo h.row h.box (by decide) G rfl (by rw[q];rfl)
theorem MtrI.caps (h:MtrI w base M T G cp a E en mp):a≤cp∧cp≤maxLen:=by
 rcases h.row.2 with⟨h0,_⟩|⟨g',cap',cur,hv,_,_,hn,hcap,_,_⟩
 ·cases h0
 ·simp at hv;obtain⟨rfl,rfl⟩:=hv;exact⟨hn,hcap⟩
theorem TabD.chg (h:TabD w) (hc:Chg S w w') (hn:¬S 1):TabD w':=fun j hj=>by rw[hc.cell (p:=⟨1,j,none⟩) h.lt hn];exact h j hj
theorem MtrI.chg (h:MtrI w base M T G cp a E en mp) (hc:Chg S w w') (hM:¬S M) (hG:¬S G) (h0:∀k,S k→base≤k):MtrI w' base M T G cp a E en mp:=
 ⟨h.box.chg hc hM,yAp h.row hc (fun k q=>by simp[Value.ownBlock]at q;subst q;exact hG),h.new,h.tab.chg hc (fun q=>by have:=h0 _ q;have:=h.low;omega),h.low⟩
theorem MtrI.below (h:MtrI w base M T G cp a E en mp) (hb:Below w.heap.size w w'):MtrI w' base M T G cp a E en mp:=h.chg (S:=fun _=>False) (Chg.of_below hb) (fun q=>q) (fun q=>q) (fun _ q=>q.elim)
theorem MtrI.tk (h:MtrI w base M T G cp a E en mp) {b:Nat} (hb:b<256) (hj:j<4):w.cell? ⟨M,4*b+j,none⟩=some (.int .u64 (wdN (T b) j:Int)):=by rw[h.box.cell (yD1 (by omega))];unfold mV eV;rw[if_pos (by omega),show(4*b+j)/4=b by omega,show(4*b+j)%4=j by omega]
theorem MtrI.fol (h:MtrI w base M T G cp a E en mp):w.cell? ⟨M,1024,none⟩=some (.slice (some ⟨G,0,none⟩) a cp):=by rw[h.box.cell (yD1 (by omega))];rfl
theorem MtrI.ends (h:MtrI w base M T G cp a E en mp) (hj:j<4):w.cell? ⟨M,1025+j,none⟩=some (.int .u64 (wdN en j:Int)):=by rw[h.box.cell (yD1 (by omega))];unfold mV;rw[if_neg (by omega),if_neg (by omega),if_pos (by omega),show 1025+j-1025=j by omega]
theorem MtrI.map (h:MtrI w base M T G cp a E en mp):w.cell? ⟨M,1029,none⟩=some (.map (some mp)):=by rw[h.box.cell (yD1 (by omega))];rfl
variable {p:Nat}
theorem MtrI.edge (h:MtrI w base M T G cp a E en mp) (hp:p<a) (hj:j<4):w.cell? ⟨G,4*p+j,none⟩=some (.int .u64 (wdN (E p) j:Int)):=by rw[World.ownsRow.cellAt h.row (4*p+j) (by omega),yD1 (by omega)];unfold eV;rw[show(4*p+j)/4=p by omega,show(4*p+j)%4=j by omega]
theorem MtrI.frzM (h:MtrI w base M T G cp a E en mp) (j:Nat):w.frozen? ⟨M,j,none⟩=false:=h.box.frozen j
theorem MtrI.frzG (h:MtrI w base M T G cp a E en mp) (j:Nat):w.frozen? ⟨G,j,none⟩=false:=World.ownsRow.frozenAt h.row j
theorem MtrI.setT (h:MtrI w base M T G cp a E en mp) {b:Nat} (hb:b<256) (S:PS):MtrI (set4 w M (4*b) S) base M (updE T b S) G cp a E en mp:=by
 have hc:Chg (fun k=>k=M) w (set4 w M (4*b) S):=yBj w M (4*b) S rfl;refine⟨?_,yAp h.row hc (fun k q=>by simp[Value.ownBlock]at q;subst q;exact h.ne),h.new,h.tab.chg hc (fun q=>by have:=h.ltM.1;have:=h.low;omega),h.low⟩;have h1:=yFv h.box (4*b) S;rw[yJc S (by omega)]at h1;have e:rngV 1030 (fun i=>if 4*b≤i∧i<4*b+4 then .int .u64 (wdN S (i-4*b):Int)else mV T (.slice (some ⟨G,0,none⟩) a cp) en mp i)=rngV 1030 (mV (updE T b S) (.slice (some ⟨G,0,none⟩) a cp) en mp):=by
  refine yCl (fun i hi=>?_);unfold mV;by_cases h1:i<1024
  ·rw[if_pos h1,if_pos h1];exact yX2 T b S i
  ·rw[if_neg h1,if_neg h1,if_neg (by omega)]
 rw[e]at h1;exact h1
theorem MtrI.setE (h:MtrI w base M T G cp a E en mp) (hp:p<a) (S:PS):MtrI (set4 w G (4*p) S) base M T G cp a (updE E p S) en mp:=by have hc:Chg (fun k=>k=G) w (set4 w G (4*p) S):=yBj w G (4*p) S rfl;refine⟨h.box.chg hc (fun q=>h.ne q.symm),?_,fun q hq r=>by unfold updE;rw[if_neg (by omega)];exact h.new q hq r,h.tab.chg hc (fun q=>by have:=h.ltG.1;have:=h.low;omega),h.low⟩;have h1:=yFv h.row (4*p) S;rw[yJc S (by omega),yCl (fun i _=>yX2 E p S i)]at h1;exact h1
theorem MtrI.setEn (h:MtrI w base M T G cp a E en mp) (S:PS):MtrI (set4 w M 1025 S) base M T G cp a E S mp:=by
 have hc:Chg (fun k=>k=M) w (set4 w M 1025 S):=yBj w M 1025 S rfl;refine⟨?_,yAp h.row hc (fun k q=>by simp[Value.ownBlock]at q;subst q;exact h.ne),h.new,h.tab.chg hc (fun q=>by have:=h.ltM.1;have:=h.low;omega),h.low⟩;have h1:=yFv h.box 1025 S;rw[yJc S (by omega)]at h1;have e:rngV 1030 (fun i=>if 1025≤i∧i<1025+4 then .int .u64 (wdN S (i-1025):Int)else mV T (.slice (some ⟨G,0,none⟩) a cp) en mp i)=rngV 1030 (mV T (.slice (some ⟨G,0,none⟩) a cp) S mp):=by
  refine yCl (fun i hi=>?_);unfold mV;by_cases h1:i<1024
  ·rw[if_neg (by omega),if_pos h1,if_pos h1]
  ·by_cases h2:i=1024
   ·rw[if_neg (by omega),if_neg h1,if_neg h1,if_pos h2,if_pos h2]
   ·by_cases h3:i<1029
    ·rw[if_pos (by omega),if_neg h1,if_neg h2,if_pos h3]
    ·rw[if_neg (by omega),if_neg h1,if_neg h1,if_neg h2,if_neg h2,if_neg h3,if_neg h3]
 rw[e]at h1;exact h1
theorem MtrI.grow (h:MtrI w base M T G cp a E en mp) {w1:World} {G' cp' a':Nat} (hg:w.grownBy w1 (some G)) (hr:w1.ownsRow base 178 4 (.slice (some ⟨G',0,none⟩) a' cp') a' (rngV (4*a') (eV E))) (ha:a≤a'):MtrI (w1.setCell ⟨M,1024,none⟩ (.slice (some ⟨G',0,none⟩) a' cp')) base M T G' cp' a' E en mp:=by
 have hc:Chg (fun k=>k=G) w w1:=Chg.of_grown hg (fun k q=>by cases q;rfl);have hb:=h.box.chg hc (fun q=>h.ne q.symm);have hne:¬G'=M:=fun q=>yAo hr hb (by decide) G' rfl (by rw[q];rfl);have hc2:Chg (fun k=>k=M) w1 (w1.setCell ⟨M,1024,none⟩ (.slice (some ⟨G',0,none⟩) a' cp')):=Chg.of_set w1 M 1024 _ rfl;refine⟨?_,yAp hr hc2 (fun k q=>by simp[Value.ownBlock]at q;subst q;exact hne),fun p hp=>h.new p (by omega),(h.tab.chg hc (fun q=>by have:=h.ltG.1;have:=h.low;omega)).chg hc2 (fun q=>by have:=h.ltM.1;have:=h.low;omega),h.low⟩;have h1:=hb.set 1024 (.slice (some ⟨G',0,none⟩) a' cp');rw[yG0 (by omega)]at h1;have e:rngV 1030 (fun i=>if i=1024 then .slice (some ⟨G',0,none⟩) a' cp' else mV T (.slice (some ⟨G,0,none⟩) a cp) en mp i)=rngV 1030 (mV T (.slice (some ⟨G',0,none⟩) a' cp') en mp):=by
  refine yCl (fun i hi=>?_);unfold mV;by_cases h1:i<1024
  ·rw[if_neg (by omega),if_pos h1,if_pos h1]
  ·by_cases h2:i=1024
   ·rw[if_pos h2,if_neg h1,if_pos h2]
   ·rw[if_neg h2,if_neg h1,if_neg h1,if_neg h2,if_neg h2]
 rw[e]at h1;exact h1
theorem MtrI.iff (h:MtrI w base M T G cp a E en mp) {T' E':Nat→PS} (hT:∀b p,b<256→p<256→T' b p=T b p) (hE:∀q p,q<a→p<256→E' q p=E q p) (hn:∀p,a≤p→∀q,E' p q=false):MtrI w base M T' G cp a E' en mp:=by
 refine⟨?_,?_,hn,h.tab,h.low⟩
 ·have e:rngV 1030 (mV T' (.slice (some ⟨G,0,none⟩) a cp) en mp)=rngV 1030 (mV T (.slice (some ⟨G,0,none⟩) a cp) en mp):=by
   refine yCl (fun i hi=>?_);unfold mV;by_cases h1:i<1024
   ·rw[if_pos h1,if_pos h1];unfold eV;rw[yDl (fun p hp=>hT (i/4) p (by omega) hp) (by omega)]
   ·rw[if_neg h1,if_neg h1]
  rw[e];exact h.box
 ·have e:rngV (4*a) (eV E')=rngV (4*a) (eV E):=by refine yCl (fun i hi=>?_);unfold eV;rw[yDl (fun p hp=>hE (i/4) p (by omega) hp) (by omega)]
  rw[e];exact h.row
theorem MtrI.iffEn (h:MtrI w base M T G cp a E en mp) {en':PS} (he:∀p,p<256→en' p=en p):MtrI w base M T G cp a E en' mp:=by
 refine⟨?_,h.row,h.new,h.tab,h.low⟩;have e:rngV 1030 (mV T (.slice (some ⟨G,0,none⟩) a cp) en' mp)=rngV 1030 (mV T (.slice (some ⟨G,0,none⟩) a cp) en mp):=by
  refine yCl (fun i hi=>?_);unfold mV;by_cases h1:i<1024
  ·rw[if_pos h1,if_pos h1]
  ·by_cases h2:i=1024
   ·rw[if_neg h1,if_pos h2,if_neg h1,if_pos h2]
   ·by_cases h3:i<1029
    ·rw[if_neg h1,if_neg h2,if_pos h3,if_neg h1,if_neg h2,if_pos h3,yDl he (by omega)]
    ·rw[if_neg h1,if_neg h2,if_neg h3,if_neg h1,if_neg h2,if_neg h3]
 rw[e];exact h.box
end
theorem Tryz.infoPs:(Tryz.prog.info? 178).map (fun i=>(i.zero,i.size,i.bytes))=some (some (.agg #[.int .u64 0,.int .u64 0,.int .u64 0,.int .u64 0]),4,32):=by kernel_rfl
variable {E:Nat→PS}
theorem yVd {a:Nat} (hE:∀q,E a q=false):rngV (4*a) (eV E)++z4.toList=rngV (4*(a+1)) (eV E):=by
 have hw:∀i,wdN (E a) i=0:=fun i=>by have:wdN (E a) i=wdN sNo i:=yG4 (fun j _=>hE _);rw[this,yE4]
 have e:∀j,j<4→eV E (4*a+j)=.int .u64 0:=fun j hj=>by unfold eV;rw[show(4*a+j)/4=a by omega,hw];rfl
 have h4:4*(a+1)=4*a+1+1+1+1:=by omega
 unfold rngV;rw[h4,List.range_succ,List.range_succ,List.range_succ,List.range_succ];simp[e 0 (by omega),e 1 (by omega),e 2 (by omega),e 3 (by omega),show 4*a+1+1=4*a+2 by omega,show 4*a+1+1+1=4*a+3 by omega];have:=e 0 (by omega);simpa using this.symm
variable {o:Oper}
theorem yIn {ops:Array Oper} {rest:List Oper} {a:Act} {Q:Exit→Act→World→Prop} (w:World) (hgd:o.guard=none) (s x:Operand)
  (ho:o.op=.call {callee:=.builtin .append,args:=#[s,x],argTypes:=#[175,175]})
  (base r c k b cx:Nat) (E:Nat→PS) (hs:a.eval s=.slice (some ⟨r,0,none⟩) k c) (hx:a.eval x=.slice (some ⟨b,0,none⟩) 1 cx) (hO:w.ownsRow base 178 4 (.slice (some ⟨r,0,none⟩) k c) k (rngV (4*k) (eV E)))
  (hc:∀j,j<4→w.cell? ⟨b,j,none⟩=some (.int .u64 0)) (hE:∀q,E k q=false) (hlen:k≤2^20) (hbase:base≤w.heap.size)
  (h:∀r' c' w',w'.ownsRow base 178 4 (.slice (some ⟨r',0,none⟩) (k+1) c') (k+1) (rngV (4*(k+1)) (eV E))→w.grownBy w' (some r)→(r'=r∨r'=w.heap.size)→wpList Tryz.prog ops Q rest (a.put o.dst (.slice (some ⟨r',0,none⟩) (k+1) c')) w'):wpList Tryz.prog ops Q (o::rest) a w:=by
 obtain⟨i,hi,hz0,hz1,hz2⟩:=info_parts Tryz.infoPs;refine wpList_append_own_at w hgd s x 175 ho base 178 i _ 4 32 Tryz.underlying175 hi hz0 hz1 hz2 rfl (by decide) (.slice (some ⟨r,0,none⟩) k c) k (rngV (4*k) (eV E)) hs hO ⟨b,0,none⟩ 1 cx z4.toList hx rfl (fun j u hu=>?_) (fun u hu=>by simp at hu;subst hu;rfl) ?_ ?_ hbase ?_
 ·have hj:=(List.getElem?_eq_some_iff.1 hu).1;have hj4:j<4:=by simpa using hj
  rcases(by omega:j=0∨j=1∨j=2∨j=3)with rfl|rfl|rfl|rfl<;>(simp at hu;subst hu;exact hc _ hj4)
 ·unfold maxLen;omega
 ·omega
 ·intro v' w' hO' hgr hnil hat;rcases hO'.2 with⟨h0,_⟩|⟨g',cap',cur,hv,_,_,hn,hcap,_,_⟩
  ·have:=(hnil.1 h0).1;cases this
  ·subst hv;refine h g' cap' w' ?_ hgr ?_
   ·rw[yVd hE]at hO';exact hO'
   ·simp[Value.ownBlock]at hat;exact hat
end
abbrev spV (F L:PS):Value:=.agg #[.int .u64 (wdN F 0:Int),.int .u64 (wdN F 1:Int),.int .u64 (wdN F 2:Int),.int .u64 (wdN F 3:Int),.int .u64 (wdN L 0:Int),.int .u64 (wdN L 1:Int),.int .u64 (wdN L 2:Int),.int .u64 (wdN L 3:Int)]
def spL (F L:PS):List Value:= [.int .u64 (wdN F 0:Int),.int .u64 (wdN F 1:Int),.int .u64 (wdN F 2:Int),.int .u64 (wdN F 3:Int),.int .u64 (wdN L 0:Int),.int .u64 (wdN L 1:Int),.int .u64 (wdN L 2:Int),.int .u64 (wdN L 3:Int)]
def setSp (w:World) (g:Nat) (F L:PS):World:=(((((((w.setCell ⟨g,0,none⟩ (.int .u64 (wdN F 0:Int))).setCell ⟨g,1,none⟩ (.int .u64 (wdN F 1:Int))).setCell ⟨g,2,none⟩ (.int .u64 (wdN F 2:Int))).setCell ⟨g,3,none⟩ (.int .u64 (wdN F 3:Int))).setCell ⟨g,4,none⟩ (.int .u64 (wdN L 0:Int))).setCell ⟨g,5,none⟩ (.int .u64 (wdN L 1:Int))).setCell ⟨g,6,none⟩ (.int .u64 (wdN L 2:Int))).setCell ⟨g,7,none⟩ (.int .u64 (wdN L 3:Int))
theorem yR3 (w:World) (g:Nat) (F L:PS):(setSp w g F L).heap.size=w.heap.size:=by unfold setSp;simp only[yWg]
variable {w:World} {base t:Nat} {vs:List Value}
theorem yA.setSp {g:Nat} (h:yA w base t 8 g vs) (F L:PS):yA (Go.Proofs.YtkidabedcgngcaaGreatDoor.setSp w g F L) base t 8 g (spL F L):=by
 have h1:=(((((((h.set 0 (.int .u64 (wdN F 0:Int))).set 1 (.int .u64 (wdN F 1:Int))).set 2 (.int .u64 (wdN F 2:Int))).set 3 (.int .u64 (wdN F 3:Int))).set 4 (.int .u64 (wdN L 0:Int))).set 5 (.int .u64 (wdN L 1:Int))).set 6 (.int .u64 (wdN L 2:Int))).set 7 (.int .u64 (wdN L 3:Int));have hl:=h.len;match vs,hl with
 | [_,_,_,_,_,_,_,_],_=>exact h1
variable {w0:World}
theorem yA.below_setSp {B g:Nat} (h:yA w base t 8 g vs) (hb:Below B w0 w) (hB:B≤g) (F L:PS):Below B w0 (Go.Proofs.YtkidabedcgngcaaGreatDoor.setSp w g F L):=by unfold Go.Proofs.YtkidabedcgngcaaGreatDoor.setSp;exact yAc (yAc (yAc (yAc (yAc (yAc (yAc (yAc hb hB _ _) hB _ _) hB _ _) hB _ _) hB _ _) hB _ _) hB _ _) hB _ _
theorem yKg {S:Nat→Prop} (w:World) (g:Nat) (F L:PS) (hs:S g):Chg S w (setSp w g F L):=
 (((((((Chg.of_set w g 0 _ hs).trans (Chg.of_set _ g 1 _ hs)).trans (Chg.of_set _ g 2 _ hs)).trans (Chg.of_set _ g 3 _ hs)).trans (Chg.of_set _ g 4 _ hs)).trans (Chg.of_set _ g 5 _ hs)).trans (Chg.of_set _ g 6 _ hs)).trans (Chg.of_set _ g 7 _ hs)
variable {tmps:Array Value} {F L:PS}
theorem yO2 {g:Nat} (ht:tmps[2]?.getD undef=.pointer (some ⟨g,0,none⟩)) (h:yA w base 183 8 g (spL F L)):(results Tryz.f155 tmps).run Tryz.prog w=.ok (spV F L) w:=by obtain⟨p0,p1,p2,p3,p4,p5,p6,p7⟩:=h.c8;simp[results,Tryz.results155,ht,go_sem,p0,p1,p2,p3,p4,p5,p6,p7]
theorem yEr {g:Nat} (ht:tmps[4]?.getD undef=.pointer (some ⟨g,0,none⟩)) (h:yA w base 183 8 g (spL F L)):(results Tryz.f135 tmps).run Tryz.prog w=.ok (spV F L) w:=by obtain⟨p0,p1,p2,p3,p4,p5,p6,p7⟩:=h.c8;simp[results,Tryz.results135,ht,go_sem,p0,p1,p2,p3,p4,p5,p6,p7]
theorem yJb {g:Nat} (ht:tmps[4]?.getD undef=.pointer (some ⟨g,0,none⟩)) (h:yA w base 183 8 g (spL F L)):(results Tryz.f157 tmps).run Tryz.prog w=.ok (spV F L) w:=by obtain⟨p0,p1,p2,p3,p4,p5,p6,p7⟩:=h.c8;simp[results,Tryz.results157,ht,go_sem,p0,p1,p2,p3,p4,p5,p6,p7]
theorem yO1 {g:Nat} (ht:tmps[4]?.getD undef=.pointer (some ⟨g,0,none⟩)) (h:yA w base 183 8 g (spL F L)):(results Tryz.f158 tmps).run Tryz.prog w=.ok (spV F L) w:=by obtain⟨p0,p1,p2,p3,p4,p5,p6,p7⟩:=h.c8;simp[results,Tryz.results158,ht,go_sem,p0,p1,p2,p3,p4,p5,p6,p7]
theorem yT5:psV sNo=.agg #[.int .u64 0,.int .u64 0,.int .u64 0,.int .u64 0]:=by simp only[psV,yE4];rfl
variable {M G cp mp:Nat} {T E:Nat→PS} {en:PS}
theorem yE6 {a:Nat} (w:World) (h:MtrI w base M T G cp a E en mp) (ha:a≤300):Calls Tryz.prog 154 #[.pointer (some ⟨M,0,none⟩)] w fun e w'=>∃G' cp',e=.returned (.int .i64 (a:Int))∧Hid (MtrI w' base M T G' cp' (a+1) E en mp∧Chg (fun k=>k=M∨k=G) w w'∧(G'=G∨w.heap.size≤G')):=by
 have HM:Hid (MtrI w base M T G cp a E en mp):=h;have c0:=h.fol;have hcap:=h.caps;have hlM:=h.ltM;have hlG:=h.ltG;have hne:=h.ne;clear h;go_enter Tryz.func154,Tryz.ntmps154;go_wp2_with (at_builtin;refine yIn _ rfl _ _ rfl base G cp a w.heap.size 1 E rfl rfl ?hO ?hc (HM.new a (Nat.le_refl _)) (by omega) ?hb ?_);case hO=>exact(HM.below (qB)).row
 case hc=>intro j hj;rcases(by omega:j=0∨j=1∨j=2∨j=3)with rfl|rfl|rfl|rfl<;>simp
 case hb=>simp;omega
 intro G' cp' w2 hO hgr hat;have hI:MtrI (w.alloc (.cells z4 178)) base M T G cp a E en mp:=HM.below (qB);have hC2:Chg (fun k=>k=G) (w.alloc (.cells z4 178)) w2:=Chg.of_grown hgr (fun k q=>by cases q;rfl);have d0:w2.cell? ⟨M,1024,none⟩=some (.slice (some ⟨G,0,none⟩) a cp):=by rw[hC2.cell (p:=⟨M,1024,none⟩) hI.ltM.2 (fun q=>hne q.symm)];exact hI.fol
 have d1:w2.frozen? ⟨M,1024,none⟩=false:=by rw[hC2.frozen (p:=⟨M,1024,none⟩) hI.ltM.2 (fun q=>hne q.symm)];exact hI.frzM 1024
 have HF:Hid (MtrI (w2.setCell ⟨M,1024,none⟩ (.slice (some ⟨G',0,none⟩) (a+1) cp')) base M T G' cp' (a+1) E en mp∧Chg (fun k=>k=M∨k=G) w (w2.setCell ⟨M,1024,none⟩ (.slice (some ⟨G',0,none⟩) (a+1) cp'))∧(G'=G∨w.heap.size≤G')):=by refine⟨hI.grow hgr hO (by omega),?_,by rcases hat with q|q;exact .inl q;right;omega⟩;have k1:Chg (fun k=>k=M∨k=G) w (w.alloc (.cells z4 178)):=Chg.of_below (qB);exact(k1.trans (hC2.mono (fun k q=>.inr q))).trans (Chg.of_set w2 M 1024 _ (.inl rfl))
 have hcap2:=HF.1.caps;have e0:=HF.1.fol;clear hO hgr hat hI hC2;go_wp2_with fail;go_ret;refine⟨G',cp',?_,HF⟩;go_num
theorem yFg (a:Nat) (ha:a<256) (w:World):Calls Tryz.prog 155 #[.int .i64 (a:Int)] w fun e w'=>e=.returned (spV (sOne a) (sOne a))∧Below w.heap.size w w':=by
 have hS:sOr sNo (sOne a)=sOne a:=by funext p;simp[sOr,sNo]
 have HW:Hid (∀wx:World,Calls Tryz.prog 137 #[.agg #[.int .u64 0,.int .u64 0,.int .u64 0,.int .u64 0],.int .i64 (a:Int)] wx fun e w'=>e=.returned (psV (sOne a))∧Below wx.heap.size wx w'):=fun wx=>by have:=yFa sNo a ha wx;rw[hS]at this;rwa [yT5]at this
 clear hS;go_enter Tryz.func155,Tryz.ntmps155;go_wp2_with fail;refine(HW.out _).mono ?_;rintro e w1 ⟨rfl,hb1⟩;obtain⟨W0,hW0⟩:=qE (w.alloc (.cells #[.int .u64 0,.int .u64 0,.int .u64 0,.int .u64 0,.int .u64 0,.int .u64 0,.int .u64 0,.int .u64 0] 183):World);have hB0:yA W0 w.heap.size 183 8 w.heap.size [.int .u64 0,.int .u64 0,.int .u64 0,.int .u64 0,.int .u64 0,.int .u64 0,.int .u64 0,.int .u64 0]:=by rw[hW0];exact yAa w _ (Nat.le_refl _) rfl
 have hk0:Below w.heap.size w W0:=by rw[hW0];exact qB
 rw[←hW0]at hb1;have HB1:=hB0.below hb1;have HK:Hid (Below w.heap.size w w1):=hk0.trans (hb1.mono hk0.size);obtain⟨r0,r1,r2,r3,r4,r5,r6,r7⟩:=HB1.c8;obtain⟨f0,f1,f2,f3,f4,f5,f6,f7⟩:=HB1.f8;have hlt:=HB1.lt.2;have HB:Hid (yA w1 w.heap.size 183 8 w.heap.size [.int .u64 0,.int .u64 0,.int .u64 0,.int .u64 0,.int .u64 0,.int .u64 0,.int .u64 0,.int .u64 0]):=HB1;clear hB0 hk0 hb1 hW0 HB1;go_wp2_with fail;refine bodyPost_ret (v:=spV (sOne a) (sOne a)) (yO2 (base:=w.heap.size) (g:=w.heap.size) rfl ((HB.setSp (sOne a) (sOne a)).below (qB))) rfl ⟨rfl,?_⟩;exact(HB.below_setSp HK.out (Nat.le_refl _) (sOne a) (sOne a)).alloc (by rw[yR3];exact Nat.le_of_lt hlt) _
theorem psLaid:laidOutB Tryz.prog=true:=by kernel_rfl
theorem rowPs:(178:TypeId)<Tryz.prog.types.size:=of_decide_eq_true (by kernel_rfl)
theorem widePs:(match Tryz.prog.underlying 178 with|some (.array _ _)|some (.struct _)=>true|_=>false)=true:=by kernel_rfl
theorem yUw:Keyed Tryz.prog 178:=Keyed.of_law (deep_law_laid psLaid (m:=2) (by omega) rowPs (by kernel_rfl) widePs)
theorem yZc:∃n,Tryz.prog.types.size=n+1:=⟨Tryz.prog.types.size-1,by have h:(178:Nat)<Tryz.prog.types.size:=rowPs;omega⟩
def psK (S:PS):Lit:=.string (keyBytes [.int .u64 (wdN S 0:Int),.int .u64 (wdN S 1:Int),.int .u64 (wdN S 2:Int),.int .u64 (wdN S 3:Int)])
theorem yKs (S:PS) (i:Nat):(Lit.int .u64 (wdN S i:Int)).wf=true:=by have:=yG S i;simp[Lit.wf,IntKind.min,IntKind.max,IntKind.signed,IntKind.bits];omega
theorem yUz (S:PS):keyOf Tryz.prog 178 (psV S)=some (psK S):=by
 have h1:Tryz.prog.keyType 178=true:=by kernel_rfl
 have h2:Tryz.prog.cellsOf 178=4:=by kernel_rfl
 have h3:Tryz.prog.cellsOf 49=1:=by kernel_rfl
 have h4:List.range 4= [0,1,2,3]:=rfl;have w0:=yKs S 0;have w1:=yKs S 1;have w2:=yKs S 2;have w3:=yKs S 3;obtain⟨n,hn⟩:=yZc;unfold keyOf;rw[Tryz.underlying178];simp only[h1,Value.formed,Tryz.underlying178,h2,hn];simp[Program.keyLits,Tryz.underlying178,Tryz.underlying49,h2,h3,h4,Value.cells,psK,w0,w1,w2,w3]
variable {S':PS}
theorem yZd {S:PS} (h:psK S=psK S') (p:Nat) (hp:p<256):S p=S' p:=by
 unfold psK at h;simp only[Lit.string.injEq]at h;have e:=keyBytes_inj (l:= [.int .u64 (wdN S 0:Int),.int .u64 (wdN S 1:Int),.int .u64 (wdN S 2:Int),.int .u64 (wdN S 3:Int)]) (l':= [.int .u64 (wdN S' 0:Int),.int .u64 (wdN S' 1:Int),.int .u64 (wdN S' 2:Int),.int .u64 (wdN S' 3:Int)]) ⟨rfl,rfl,rfl,rfl,trivial⟩ (fun a ha=>by
  simp only[List.mem_cons,List.not_mem_nil,or_false]at ha
  rcases ha with rfl|rfl|rfl|rfl<;>exact yKs S _) (fun a ha=>by
  simp only[List.mem_cons,List.not_mem_nil,or_false]at ha
  rcases ha with rfl|rfl|rfl|rfl<;>exact yKs S' _) h
 simp at e;refine yM4 (fun i hi=>?_) p hp;rcases(by omega:i=0∨i=1∨i=2∨i=3)with rfl|rfl|rfl|rfl
 ·exact Int.ofNat.inj e.1
 ·exact Int.ofNat.inj e.2.1
 ·exact Int.ofNat.inj e.2.2.1
 ·exact Int.ofNat.inj e.2.2.2
abbrev stV (A:PS) (b:Bool):Value:=.agg #[.int .u64 (wdN A 0:Int),.int .u64 (wdN A 1:Int),.int .u64 (wdN A 2:Int),.int .u64 (wdN A 3:Int),.bool b]
def ahdT (E:Nat→PS) (S:PS) (k:Nat):PS:=fun q=>(List.range k).any (fun p=>S p && E p q)
def ahd (E:Nat→PS) (S:PS):PS:=ahdT E S 256
def acc (en S:PS):Bool:=(List.range 256).any (fun p=>S p && en p)
def RhS:Value→Option (DataW Value×List MemPlace):=fun v=>some (.held v,[])
theorem yX7 {v:Value} {x:DataW Value} {ps:List MemPlace} (h:RhS v=some (x,ps)):x=.held v∧ps= []:=by unfold RhS at h;simp at h;exact⟨h.1.symm,h.2⟩
def StI (w:World) (mp n:Nat) (E:Nat→PS) (en:PS):Prop:=∃D,w.ownsMap Tryz.prog 178 RhS mp n D∧∀S,Maps.has D (psK S)=false∨(Maps.has D (psK S)=true∧∀z,D.atKey (psK S) z=.held (stV (ahd E S) (acc en S)))
theorem StI.made (h:w.heap[mp]?=some (.map #[] 0)):StI w mp 0 E en:=by
 refine⟨.map [],⟨#[],0,h,?_,by simp,by simp⟩,fun S=>.inl rfl⟩;obtain⟨es,c,he,hf,_⟩:=World.ownsMap_made (H:=Value) w Tryz.prog 178 RhS;rw[World.alloc_heap_new]at he;cases he
 exact hf
variable {n:Nat}
theorem StI.chg {S:Nat→Prop} {w':World} (h:StI w mp n E en) (hc:Chg S w w') (hn:¬S mp):StI w' mp n E en:=by obtain⟨D,⟨es,c,h1,h2,h3,h4⟩,hk⟩:=h;exact⟨D,⟨es,c,(hc.block mp (Array.getElem?_eq_some_iff.1 h1).1 hn).trans h1,h2,h3,h4⟩,hk⟩
theorem yVs {S:PS} (h:∀p,p<256→S p=S' p) (k:Nat) (hk:k≤256):ahdT E S k=ahdT E S' k:=by
 funext q;unfold ahdT;rw[Bool.eq_iff_iff,List.any_eq_true,List.any_eq_true];constructor
 ·rintro⟨p,hp,hx⟩;exact⟨p,hp,by rw[←h p (by have:=List.mem_range.1 hp;omega)];exact hx⟩
 ·rintro⟨p,hp,hx⟩;exact⟨p,hp,by rw[h p (by have:=List.mem_range.1 hp;omega)];exact hx⟩
theorem yVu {S:PS} (h:∀p,p<256→S p=S' p):acc en S=acc en S':=by
 unfold acc;rw[Bool.eq_iff_iff,List.any_eq_true,List.any_eq_true];constructor
 ·rintro⟨p,hp,hx⟩;exact⟨p,hp,by rw[←h p (List.mem_range.1 hp)];exact hx⟩
 ·rintro⟨p,hp,hx⟩;exact⟨p,hp,by rw[h p (List.mem_range.1 hp)];exact hx⟩
theorem yXv (w:World):(zeroValue 188).run Tryz.prog w=.ok (.agg #[.int .u64 0,.int .u64 0,.int .u64 0,.int .u64 0,.bool false]) w:=by kernel_rfl
def StD (w:World) (mp n:Nat) (D:DataW Value) (E:Nat→PS) (en:PS):Prop:=w.ownsMap Tryz.prog 178 RhS mp n D∧∀S,Maps.has D (psK S)=false∨(Maps.has D (psK S)=true∧∀z,D.atKey (psK S) z=.held (stV (ahd E S) (acc en S)))
variable {D:DataW Value}
theorem StD.chg {S:Nat→Prop} {w':World} (h:StD w mp n D E en) (hc:Chg S w w') (hn:¬S mp):StD w' mp n D E en:=by obtain⟨⟨es,c,h1,h2,h3,h4⟩,hk⟩:=h;exact⟨⟨es,c,(hc.block mp (Array.getElem?_eq_some_iff.1 h1).1 hn).trans h1,h2,h3,h4⟩,hk⟩
theorem StD.lt (h:StD w mp n D E en):mp<w.heap.size:=by obtain⟨⟨es,c,h1,h2,h3,h4⟩,hk⟩:=h;exact(Array.getElem?_eq_some_iff.1 h1).1
theorem StD.ne (h:StD w mp n D E en) {sz g:Nat} (hb:w.ownsRow base t sz (.slice (some ⟨g,0,none⟩) k cp) k vs):¬mp=g:=fun q=>by
 obtain⟨⟨es,c,h1,h2,h3,h4⟩,hk⟩:=h
 rcases hb.2 with⟨h0,_⟩|⟨g',cap',cur,hv,_,hh,_⟩
 ·cases h0
 ·simp at hv
  rw[←hv.1,←q,h1]at hh
  cases hh
theorem StD.look_t (h:StD w mp n D E en) (S:PS) (hh:Maps.has D (psK S)=true):(Instr.lookup 176 (.map (some mp)) (psV S) true).run Tryz.prog w=.ok (.tuple #[stV (ahd E S) (acc en S),.bool true]) w:=by
 obtain⟨hD,hv⟩:=h;obtain⟨v,ps,hrun,hR⟩:=hD.look_ok yUw Tryz.underlying176 (yXv w) (zd:=.held (.agg #[.int .u64 0,.int .u64 0,.int .u64 0,.int .u64 0,.bool false])) (zp:= []) rfl (yUz S);have hR':=(yX7 hR).1;rcases hv S with h2|⟨h2,h3⟩
 ·rw[hh]at h2;cases h2
 ·rw[h3]at hR';simp only[DataW.held.injEq]at hR';rw[←hR',h2]at hrun;exact hrun
theorem StD.look_f (h:StD w mp n D E en) (S:PS) (hh:Maps.has D (psK S)=false):(Instr.lookup 176 (.map (some mp)) (psV S) true).run Tryz.prog w=.ok (.tuple #[.agg #[.int .u64 0,.int .u64 0,.int .u64 0,.int .u64 0,.bool false],.bool false]) w:=by obtain⟨hD,hv⟩:=h;obtain⟨v,ps,hrun,hR⟩:=hD.look_ok yUw Tryz.underlying176 (yXv w) (zd:=.held (.agg #[.int .u64 0,.int .u64 0,.int .u64 0,.int .u64 0,.bool false])) (zp:= []) rfl (yUz S);have hR':=(yX7 hR).1;rw[Maps.atKey_of_not_has hh]at hR';simp only[DataW.held.injEq]at hR';rw[←hR',hh]at hrun;exact hrun
theorem StI.put (h:StI w mp n E en) (hn:n<maxLen) (S:PS):∃w',(Instr.mapUpdate 176 (.map (some mp)) (psV S) (stV (ahd E S) (acc en S))).run Tryz.prog w=.ok () w'∧StI w' mp (n+1) E en∧Chg (fun k=>k=mp) w w':=by
 obtain⟨D,hD,hv⟩:=h;obtain⟨w',hrun,ho,hg⟩:=hD.store yUw Tryz.underlying176 hn (yUz S) (val:=stV (ahd E S) (acc en S)) (d:=.held (stV (ahd E S) (acc en S))) (ps:= []) rfl;refine⟨w',hrun,⟨_,ho,fun S'=>?_⟩,Chg.of_grown hg.grown (fun k q=>by cases q;rfl)⟩;by_cases he:psK S'=psK S
 ·have hp:=yZd he;rw[he,show ahd E S'=ahd E S from yVs hp 256 (by omega),yVu hp];exact .inr ⟨Maps.has_put_same hD.isMap (yUw.key (yUz S)) _,fun z=>Maps.atKey_put_same hD.isMap (yUw.key (yUz S)) _ z⟩
 ·rcases hv S' with h2|⟨h2,h3⟩
  ·exact .inl (by rw[Maps.has_put_other he];exact h2)
  ·exact .inr ⟨by rw[Maps.has_put_other he];exact h2,fun z=>by rw[Maps.atKey_put_other he];exact h3 z⟩
section
section
variable {P:Program} {ops:Array Oper} {Q:Exit→Act→World→Prop} {md:Region.Mode} {S:World→Prop} {L:Nat} {l n:Nat}
theorem yZh {o:Oper} {a:Act} {K:Act→World→Prop} (hd:∀c,o.op≠ .defer c) (h:o.wp P a w K Q):o.wpIn (Fence.wide.inRound l) n P a w K Q:=by
 refine⟨fun _ _=>trivial,?_⟩;rw[Oper.semAt_eq _ _ _ hd];unfold Oper.wp at h;generalize (execOp a.eval o).run P w=r at*;cases r with
 |ok x w'=>
  cases x with
  |value v=>exact h
  |skip=>exact h
  |defer d=>exact h
  |enter f args=>exact⟨fun q=>by simp[Fence.wide]at q,CallsIn.inRound l (callsIn_wide.2 h)⟩
  |row row args=>exact⟨fun q=>by simp[Fence.wide]at q,fun c cs hr=>let ⟨v,w'',r,s⟩:=h c cs;⟨v,w'',r,stepsIn_wide.2 s⟩⟩
  |_=>exact h.elim
 |halt x w'=>cases x<;>exact h
def yMi (ops:Array Oper):Bool:=ops.all (fun o=>match o.op with| .defer _=>false|_=>true)
theorem yNi (h:yMi ops=true) {i:Nat} {o:Oper} (ho:ops[i]?=some o) (c:Call):o.op≠ .defer c:=by intro q;unfold yMi at h;rw[Array.all_eq_true]at h;obtain⟨hi,he⟩:=Array.getElem?_eq_some_iff.1 ho;have:=h i hi;rw[he,q]at this;cases this
theorem yI4 (hd:yMi ops=true) (hno:¬LetsOut Q):∀(fuel:Nat) (listed:Array Bool) (a:Act) (w:World),wpAny P md ops Q fuel listed a w→wpAnyIn (Fence.wide.inRound l) n P md ops Q fuel listed a w
 |0,_,_,_,h=>h
 |fuel+1,listed,a,w,h=>by
  refine⟨h.1,fun i hi=>?_⟩
  have h1:=h.2 i hi
  unfold wpOp at h1
  unfold wpOpIn
  cases ho:ops[i]? with
  |none=>
   rw[ho]at h1
   exact yI4 hd hno fuel _ a w h1
  |some o=>
   rw[ho]at h1
   simp only at h1⊢
   split
   ·next hw=>
    rw[if_pos hw]at h1
    rcases h1 with h1|⟨_,h1⟩
    ·exact Oper.wpIn_mono (fun a w q=>yI4 hd hno fuel _ a w q) (yZh (yNi hd ho) h1)
    ·exact(hno h1).elim
   ·next hw=>
    rw[if_neg hw]at h1
    exact⟨fun _ _=>trivial,yI4 hd hno fuel _ _ w h1⟩
theorem yDc {id:Nat} {a:Act} (L:Nat) (S:World→Prop) (hm:P.follows .mixedOrders=true) (hd:yMi ops=true) (hno:¬LetsOut Q)
  (h:AnyT P .any ops Q S L ops.size (Array.replicate ops.size false) a w.drew):(Code.region id ops true).wpIn (Fence.wide.inRound l) n P Q a w:=
 wpIn_region_any hm (yI4 hd hno _ _ _ _ (yM2 _ _ _ _ h))
end
end
section
attribute [local go_sem] Oper.semAt_some
variable {a:Nat}
theorem MtrI.edge4 (h:MtrI w base M T G cp a E en mp) {p:Nat} (hp:p<a):w.cell? ⟨G,p*4,none⟩=some (.int .u64 (wdN (E p) 0:Int))∧w.cell? ⟨G,p*4+1,none⟩=some (.int .u64 (wdN (E p) 1:Int))∧w.cell? ⟨G,p*4+2,none⟩=some (.int .u64 (wdN (E p) 2:Int))∧w.cell? ⟨G,p*4+3,none⟩=some (.int .u64 (wdN (E p) 3:Int))∧w.frozen? ⟨G,p*4,none⟩=false∧w.frozen? ⟨G,p*4+1,none⟩=false∧w.frozen? ⟨G,p*4+2,none⟩=false∧w.frozen? ⟨G,p*4+3,none⟩=false:=by rw[Nat.mul_comm p 4];exact⟨h.edge hp (j:=0) (by omega),h.edge hp (by omega),h.edge hp (by omega),h.edge hp (by omega),h.frzG _,h.frzG _,h.frzG _,h.frzG _⟩
def conE (E:Nat→PS) (F X:PS) (k:Nat):Nat→PS:=fun p=>if p<k then(fun q=>E p q || (F p && X q))else E p
def CoB (w:World) (h M:Nat) (F X:PS) (W:World):Prop:=yA W h 109 1 h [.pointer (some ⟨M,0,none⟩)]∧yA W h 178 4 (h+1) (psL F)∧yA W h 178 4 (h+1+1) (psL X)
def CoI (w:World) (base M:Nat) (T:Nat→PS) (G cp a:Nat) (E:Nat→PS) (en:PS) (mp:Nat) (F X:PS) (k:Nat) (W:World):Prop:=
 MtrI W base M T G cp a (conE E F X k) en mp∧CoB w w.heap.size M F X W∧Chg (fun j=>j=G) w W
theorem yIk (F X:PS) (w:World) (h:MtrI w base M T G cp a E en mp) (hF:∀p,F p=true→p<a) (ha:a≤256):
  Calls Tryz.prog 156 #[.pointer (some ⟨M,0,none⟩),psV F,psV X] w fun e w'=>(∃v,e=.returned v)∧Hid (MtrI w' base M T G cp a (fun p q=>E p q || (F p && X q)) en mp∧Chg (fun k=>k=G) w w'):=by
 obtain⟨W0,hW0⟩:=qE (((w.alloc (.cells #[.pointer (some ⟨M,0,none⟩)] 109)).alloc (.cells (psL F).toArray 178)).alloc (.cells (psL X).toArray 178):World);have k1:∀(x:World) (o:Obj),Below x.heap.size x (x.alloc o):=fun x o=>qB;have HI0:Hid (CoI w base M T G cp a E en mp F X 0 W0∧W0.heap.size=w.heap.size+3):=by
  have b1:=yAa w (base:=w.heap.size) (t:=109) (sz:=1) #[.pointer (some ⟨M,0,none⟩)] (Nat.le_refl _) rfl;have b2:=yAa (w.alloc (.cells #[.pointer (some ⟨M,0,none⟩)] 109)) (base:=w.heap.size) (t:=178) (sz:=4) (psL F).toArray (by simp) rfl;have b3:=yAa ((w.alloc (.cells #[.pointer (some ⟨M,0,none⟩)] 109)).alloc (.cells (psL F).toArray 178)) (base:=w.heap.size) (t:=178) (sz:=4) (psL X).toArray (by simp;omega) rfl;rw[World.size_alloc]at b2;rw[World.size_alloc,World.size_alloc]at b3;have e:conE E F X 0=E:=by funext p q;simp[conE]
  unfold CoI CoB;rw[hW0,e];exact⟨⟨((h.below (k1 _ _)).below (k1 _ _)).below (k1 _ _),⟨(b1.below (k1 _ _)).below (k1 _ _),b2.below (k1 _ _),b3⟩,Chg.of_below (((qB).alloc (by simp) _).alloc (by simp;omega) _)⟩,by simp⟩
 have HF:Hid (∀p,F p=true→p<a):=hF;have hGw0:G<w.heap.size:=h.ltG.2;have hMw0:M<w.heap.size:=h.ltM.2;clear h hF k1;have hmo:Tryz.prog.follows Departure.mixedOrders=true:=by kernel_rfl
 refine(callsIn_wide (n:=9)).1 ?_;refine callsIn_of_wp_marks Tryz.func156 rfl trivial ?_ rfl;simp only[Tryz.ntmps156,List.size_toArray,List.length_cons,List.length_nil,Nat.reduceAdd,Nat.reduceSub,Array.replicate_succ,Array.replicate_zero,List.push_toArray,List.append_toArray,List.nil_append,List.cons_append];gi_wp2;have hW0':=hW0;simp only[psL]at hW0';rw[←hW0'];clear hW0 hW0';have z0:=HI0.2;refine yF (by decide) F rfl rfl (fun k W=>CoI w base M T G cp a E en mp F X k W∧W0.heap.size≤W.heap.size) ?hI ?hIt ?hIs ⟨HI0.1,Nat.le_refl _⟩
  (fun x=>{tmps:=#[.pointer (some ⟨M,0,none⟩),psV F,psV X,.pointer (some ⟨w.heap.size,0,none⟩),.pointer (some ⟨w.heap.size+1,0,none⟩),.pointer (some ⟨w.heap.size+1+1,0,none⟩),.int .i64 (x:Int),psV F,.func (.func 160) #[psV F] #[],.int .i64 (x:Int),undef,undef,undef,undef,undef,undef,undef,undef,undef,undef,undef,undef,undef,undef,undef],defers:= []}) ?assign ?body ?done
 case hI=>rintro k A B row ⟨⟨hM,hB,hC⟩,hsz⟩ hg hr;have hc:Chg (fun j=>row=some j) A B:=Chg.of_grown hg (fun j q=>q);have hlow:∀j,row=some j→W0.heap.size≤j:=fun j q=>(hr j q).1;have hb:∀{t sz g:Nat} {vs:List Value},g<W0.heap.size→yA A w.heap.size t sz g vs→yA B w.heap.size t sz g vs:=fun hg h=>h.chg hc (fun q=>by have:=hlow _ q;omega);refine⟨⟨hM.chg hc (fun q=>by have:=hlow _ q;omega) (fun q=>by have:=hlow _ q;omega) (fun j q=>by have:=hlow _ q;have:=hM.ltG.1;omega),⟨hb (by omega) hB.1,hb (by omega) hB.2.1,hb (by omega) hB.2.2⟩,?_⟩,Nat.le_trans hsz hc.size⟩;exact⟨hc.os.trans hC.os,hc.tape.trans hC.tape,hc.output.trans hC.output,Nat.le_trans hC.size hc.size,fun j hj hn=>(hc.block j (Nat.lt_of_lt_of_le hj hC.size) (fun q=>by have:=hlow _ q;omega)).trans (hC.block j hj hn)⟩
 case hIt=>exact fun k W h=>h.1.1.tab
 case hIs=>
  rintro k k' W ⟨⟨hM,hB,hC⟩,hsz⟩ hk hno;refine⟨⟨hM.iff (fun _ _ _ _=>rfl) (fun q p hq hp=>?_) (fun p hp q=>?_),hB,hC⟩,hsz⟩
  ·unfold conE;by_cases h3:q<k
   ·rw[if_pos h3,if_pos (by omega)]
   ·rw[if_neg h3];by_cases h4:q<k'
    ·rw[if_pos h4,hno q (by omega) h4];simp
    ·rw[if_neg h4]
  ·have h5:=hM.new p hp q;unfold conE at h5⊢;have hFp:F p=false:=by
    cases hf:F p with
    |false=>rfl
    |true=>have:=HF.out p hf;omega
   rw[hFp]at h5⊢;by_cases h3:p<k
   ·rw[if_pos h3]at h5;rw[if_pos (by omega)];exact h5
   ·rw[if_neg h3]at h5;by_cases h4:p<k'
    ·rw[if_pos h4];simp[h5]
    ·rw[if_neg h4];exact h5
 case assign=>intro l x W K hK;gi_wp2;exact hK
 case body=>
  rintro l k x W ⟨⟨hM,hB,hC⟩,hsz⟩ hkx hx hS hbet;have hxa:=HF.out x hS;have m0:=hB.1.cell (j:=0) rfl;obtain⟨t0,t1,t2,t3⟩:=hB.2.2.c4;have c0:=hM.fol;have hcap:=hM.caps;have hEx:conE E F X k x=E x:=by unfold conE;rw[if_neg (by omega)]
  have e0:W.cell? ⟨G,x*4,none⟩=some (.int .u64 (wdN (E x) 0:Int)):=by have:=hM.edge hxa (j:=0) (by omega);rwa [hEx,show 4*x+0=x*4 by omega]at this
  have e1:W.cell? ⟨G,x*4+1,none⟩=some (.int .u64 (wdN (E x) 1:Int)):=by have:=hM.edge hxa (j:=1) (by omega);rwa [hEx,show 4*x+1=x*4+1 by omega]at this
  have e2:W.cell? ⟨G,x*4+2,none⟩=some (.int .u64 (wdN (E x) 2:Int)):=by have:=hM.edge hxa (j:=2) (by omega);rwa [hEx,show 4*x+2=x*4+2 by omega]at this
  have e3:W.cell? ⟨G,x*4+3,none⟩=some (.int .u64 (wdN (E x) 3:Int)):=by have:=hM.edge hxa (j:=3) (by omega);rwa [hEx,show 4*x+3=x*4+3 by omega]at this
  have zx:(x:Int)<(a:Int):=by omega
  have HB:Hid (MtrI W base M T G cp a (conE E F X k) en mp∧CoB w w.heap.size M F X W∧Chg (fun j=>j=G) w W∧W0.heap.size≤W.heap.size∧conE E F X k x=E x∧F x=true∧(∀j,k≤j→j<x→F j=false)):=⟨hM,hB,hC,hsz,hEx,hS,hbet⟩;have HU:Hid (∀wx:World,Calls Tryz.prog 161 #[psV (E x),psV X] wx fun e w'=>e=.returned (psV (sOr (E x) X))∧Below wx.heap.size wx w'):=fun wx=>yCw (E x) X wx;have hlG:=hM.ltG;clear hM hB hC hsz hEx hS hbet;have HS0:Hid (W.drew.cell? ⟨w.heap.size,0,none⟩=some (.pointer (some ⟨M,0,none⟩))∧W.drew.cell? ⟨M,1024,none⟩=some (.slice (some ⟨G,0,none⟩) a cp)∧(W.drew.cell? ⟨G,x*4,none⟩=some (.int .u64 (wdN (E x) 0:Int))∧W.drew.cell? ⟨G,x*4+1,none⟩=some (.int .u64 (wdN (E x) 1:Int))∧W.drew.cell? ⟨G,x*4+2,none⟩=some (.int .u64 (wdN (E x) 2:Int))∧W.drew.cell? ⟨G,x*4+3,none⟩=some (.int .u64 (wdN (E x) 3:Int)))∧W.drew.cell? ⟨w.heap.size+1+1,0,none⟩=some (.int .u64 (wdN X 0:Int))∧W.drew.cell? ⟨w.heap.size+1+1,1,none⟩=some (.int .u64 (wdN X 1:Int))∧W.drew.cell? ⟨w.heap.size+1+1,2,none⟩=some (.int .u64 (wdN X 2:Int))∧W.drew.cell? ⟨w.heap.size+1+1,3,none⟩=some (.int .u64 (wdN X 3:Int))):=⟨m0,c0,⟨e0,e1,e2,e3⟩,t0,t1,t2,t3⟩;gi_wp2;refine yDc 15 (fun wz=>wz.cell? ⟨w.heap.size,0,none⟩=some (.pointer (some ⟨M,0,none⟩))∧wz.cell? ⟨M,1024,none⟩=some (.slice (some ⟨G,0,none⟩) a cp)∧(wz.cell? ⟨G,x*4,none⟩=some (.int .u64 (wdN (E x) 0:Int))∧wz.cell? ⟨G,x*4+1,none⟩=some (.int .u64 (wdN (E x) 1:Int))∧wz.cell? ⟨G,x*4+2,none⟩=some (.int .u64 (wdN (E x) 2:Int))∧wz.cell? ⟨G,x*4+3,none⟩=some (.int .u64 (wdN (E x) 3:Int)))∧wz.cell? ⟨w.heap.size+1+1,0,none⟩=some (.int .u64 (wdN X 0:Int))∧wz.cell? ⟨w.heap.size+1+1,1,none⟩=some (.int .u64 (wdN X 1:Int))∧wz.cell? ⟨w.heap.size+1+1,2,none⟩=some (.int .u64 (wdN X 2:Int))∧wz.cell? ⟨w.heap.size+1+1,3,none⟩=some (.int .u64 (wdN X 3:Int))) (by kernel_rfl) (by kernel_rfl) ?hlet ?_;case hlet=>rintro⟨a0,w0,hq⟩;exact nomatch (show Exit.outgrown=Exit.normal from hq.1)
  refine j10a 0 HS0.out ?_;iterate 12 refine j10b HS0.out ?_
  refine qO 13 rfl fun K hK=>?_;go_simp;refine(HU.out _).mono ?_;rintro r v3 ⟨rfl,hb3⟩;have HV:Hid (Below W.heap.size W v3):=((Below.refl W.heap.size W).drew).trans hb3;have HM3:Hid (MtrI v3 base M T G cp a (conE E F X k) en mp):=HB.1.below HV.out;have hB3:CoB w w.heap.size M F X v3:=⟨HB.2.1.1.below HV.out,HB.2.1.2.1.below HV.out,HB.2.1.2.2.below HV.out⟩;obtain⟨g0,g1,g2,g3,y0,y1,y2,y3⟩:=HM3.edge4 hxa;rw[HB.2.2.2.2.1]at g0 g1 g2 g3;have HS3:Hid (v3.cell? ⟨w.heap.size,0,none⟩=some (.pointer (some ⟨M,0,none⟩))∧v3.cell? ⟨M,1024,none⟩=some (.slice (some ⟨G,0,none⟩) a cp)∧(v3.cell? ⟨G,x*4,none⟩=some (.int .u64 (wdN (E x) 0:Int))∧v3.cell? ⟨G,x*4+1,none⟩=some (.int .u64 (wdN (E x) 1:Int))∧v3.cell? ⟨G,x*4+2,none⟩=some (.int .u64 (wdN (E x) 2:Int))∧v3.cell? ⟨G,x*4+3,none⟩=some (.int .u64 (wdN (E x) 3:Int)))∧v3.cell? ⟨w.heap.size+1+1,0,none⟩=some (.int .u64 (wdN X 0:Int))∧v3.cell? ⟨w.heap.size+1+1,1,none⟩=some (.int .u64 (wdN X 1:Int))∧v3.cell? ⟨w.heap.size+1+1,2,none⟩=some (.int .u64 (wdN X 2:Int))∧v3.cell? ⟨w.heap.size+1+1,3,none⟩=some (.int .u64 (wdN X 3:Int))):=⟨hB3.1.cell (j:=0) rfl,HM3.fol,⟨g0,g1,g2,g3⟩,hB3.2.2.cell (j:=0) rfl,hB3.2.2.cell (j:=1) rfl,hB3.2.2.cell (j:=2) rfl,hB3.2.2.cell (j:=3) rfl⟩;have HB3:Hid (CoB w w.heap.size M F X v3):=hB3;refine hK.out _ _ (.inr HS3.out) ?_;clear hK hb3 hB3;refine jS ?_;refine j10a 14 HS3.out ?_;refine qO 15 rfl fun K hK=>?_;go_simp;refine hK.out _ _ (.inl rfl) ?_;clear hK;refine jS ?_;refine qD ?_;have hC3:Chg (fun j=>j=G) W (set4 v3 G (x*4) (sOr (E x) X)):=(Chg.of_below HV.out).trans (yBj v3 G (x*4) _ rfl);have hGw:G<w.heap.size:=hGw0;refine⟨rfl,⟨hC3.size,fun j o hj ho _=>(hC3.block j (Array.getElem?_eq_some_iff.1 ho).1 (by omega)).trans ho⟩,⟨?_,?_,HB.2.2.1.trans hC3⟩,Nat.le_trans HB.2.2.2.1 hC3.size⟩
  ·have h1:=HM3.setE hxa (sOr (E x) X);rw[Nat.mul_comm 4 x]at h1;refine h1.iff (fun _ _ _ _=>rfl) (fun q p hq hp=>?_) (fun p hp q=>?_)
   ·unfold updE conE;by_cases h2:q=x
    ·subst h2;rw[if_pos rfl,if_pos (by omega),HB.2.2.2.2.2.1];simp[sOr]
    ·rw[if_neg h2];by_cases h3:q<k
     ·rw[if_pos h3,if_pos (by omega)]
     ·rw[if_neg h3];by_cases h4:q<x+1
      ·rw[if_pos h4,HB.2.2.2.2.2.2 q (by omega) (by omega)];simp
      ·rw[if_neg h4]
   ·have h5:=HM3.new p hp q;unfold conE at h5⊢;have hFp:F p=false:=by
     cases hf:F p with
     |false=>rfl
     |true=>have:=HF.out p hf;omega
    rw[hFp]at h5⊢;by_cases h3:p<k
    ·rw[if_pos h3]at h5;rw[if_pos (by omega)];exact h5
    ·rw[if_neg h3]at h5;by_cases h4:p<x+1
     ·rw[if_pos h4];simp[h5]
     ·rw[if_neg h4];exact h5
  ·have hb:∀{t sz g:Nat} {vs:List Value},yA v3 w.heap.size t sz g vs→yA (set4 v3 G (x*4) (sOr (E x) X)) w.heap.size t sz g vs:=fun h=>h.chg (S:=fun j=>j=G) (yBj v3 G (x*4) _ rfl) (by have:=h.lt.1;omega);exact⟨hb HB3.1,hb HB3.2.1,hb HB3.2.2⟩
 case done=>
  rintro D W hD ⟨⟨hM,hB,hC⟩,hsz⟩ hK;have hPut:Chg (fun j=>j=D) W (W.putObj D (.deferred none)):=Chg.of_grown (grownBy_putObj' W D _) (fun j q=>by cases q;rfl);have HFin:Hid (MtrI (W.putObj D (.deferred none)) base M T G cp a (fun p q=>E p q || (F p && X q)) en mp∧Chg (fun k=>k=G) w (W.putObj D (.deferred none))):=by
   refine⟨(hM.chg hPut (by omega) (by omega) (fun j q=>by have:=hM.ltG.1;omega)).iff (fun _ _ _ _=>rfl) (fun q p hq hp=>?_) (fun p hp q=>?_),?_⟩
   ·unfold conE;rw[if_pos (by omega)]
   ·have h5:=hM.new p hp q;unfold conE at h5;have hFp:F p=false:=by
     cases hf:F p with
     |false=>rfl
     |true=>have:=HF.out p hf;omega
    rw[hFp]at h5⊢;by_cases h3:p<256
    ·rw[if_pos h3]at h5;exact h5
    ·rw[if_neg h3]at h5;simp[h5]
   ·exact⟨hPut.os.trans hC.os,hPut.tape.trans hC.tape,hPut.output.trans hC.output,Nat.le_trans hC.size hPut.size,fun j hj hn=>(hPut.block j (Nat.lt_of_lt_of_le hj hC.size) (by omega)).trans (hC.block j hj hn)⟩
  clear hM hB hC hPut;gi_wp2;refine⟨by simp,.inl ⟨_,_,rfl,run_takeDeferred hK,?_⟩⟩;exact⟨_,results_none rfl _ _ _,⟨_,rfl⟩,HFin⟩
end
section
def noE (X:PS):Bool:=decide (wdN X 0=0) && decide (wdN X 1=0) && decide (wdN X 2=0) && decide (wdN X 3=0)
theorem yQu (X:PS) (w:World):(Op.equalIn 10000 178 (psV X) (.agg #[.int .u64 0,.int .u64 0,.int .u64 0,.int .u64 0])).run Tryz.prog w=.ok (noE X) w:=by
 have h:=run_equalIn_deep (P:=Tryz.prog) 9998 2 178 (by kernel_rfl);have h2:Tryz.prog.cellsOf 178=4:=by kernel_rfl
 have h3:Tryz.prog.cellsOf 49=1:=by kernel_rfl
 have h4:List.range 4= [0,1,2,3]:=rfl;have k:∀S:PS,Tryz.prog.keyLits 2 178 (psV S).cells.toList=some [.int .u64 (wdN S 0:Int),.int .u64 (wdN S 1:Int),.int .u64 (wdN S 2:Int),.int .u64 (wdN S 3:Int)]:=fun S=>by have w0:=yKs S 0;have w1:=yKs S 1;have w2:=yKs S 2;have w3:=yKs S 3;simp[Program.keyLits,Tryz.underlying178,Tryz.underlying49,h2,h3,h4,Value.cells,w0,w1,w2,w3]
 have hz:(.agg #[.int .u64 0,.int .u64 0,.int .u64 0,.int .u64 0]:Value)=psV sNo:=yT5.symm;rw[hz];obtain⟨r,hr,hi⟩:=h w 2 2 (psV X) (psV sNo) _ _ (by kernel_rfl) (by kernel_rfl) (k X) (k sNo);rw[show(10000:Nat)=9998+2 from rfl,hr];congr 1;rw[Bool.eq_iff_iff,hi];unfold noE;simp only[yE4];simp[and_assoc]
theorem yUm (X:PS):noE X=false↔∃p,p<256∧X p=true:=by
 constructor
 ·intro h;apply Classical.byContradiction;intro hn;have hx:∀p,p<256→X p=sNo p:=fun p hp=>by
   cases hc:X p with
   |false=>rfl
   |true=>exact absurd ⟨p,hp,hc⟩ hn
  have:noE X=true:=by unfold noE;simp[yDl hx (i:=0) (by omega),yDl hx (i:=1) (by omega),yDl hx (i:=2) (by omega),yDl hx (i:=3) (by omega),yE4]
  rw[h]at this;cases this
 ·rintro⟨p,hp,hx⟩;cases he:noE X with
  |false=>rfl
  |true=>
   unfold noE at he;simp at he;have h0:X p=sNo p:=yM4 (fun i hi=>by
    rw[yE4]
    rcases(by omega:i=0∨i=1∨i=2∨i=3)with rfl|rfl|rfl|rfl
    ·exact he.1.1.1
    ·exact he.1.1.2
    ·exact he.1.2
    ·exact he.2) p hp
   rw[hx]at h0;cases h0
theorem xAj (en S:PS):(!noE (sAnd S en))=acc en S:=by
 rw[Bool.eq_iff_iff];unfold acc;rw[List.any_eq_true,Bool.not_eq_true',yUm];constructor
 ·rintro⟨p,hp,hx⟩;exact⟨p,List.mem_range.2 hp,hx⟩
 ·rintro⟨p,hp,hx⟩;exact⟨p,List.mem_range.1 hp,hx⟩
abbrev z5:Array Value:=#[.int .u64 0,.int .u64 0,.int .u64 0,.int .u64 0,.bool false]
def stL (A:PS) (b:Bool):List Value:= [.int .u64 (wdN A 0:Int),.int .u64 (wdN A 1:Int),.int .u64 (wdN A 2:Int),.int .u64 (wdN A 3:Int),.bool b]
structure StB (w X:World) (base M:Nat) (T:Nat→PS) (G cp a:Nat) (E:Nat→PS) (en:PS) (mp n:Nat) (D:DataW Value) (S:PS):Prop where
 mtr:MtrI X base M T G cp a E en mp
 ptr:yA X w.heap.size 109 1 w.heap.size [.pointer (some ⟨M,0,none⟩)]
 set:yA X w.heap.size 178 4 (w.heap.size+1) (psL S)
 ans:yA X w.heap.size 188 5 (w.heap.size+1+1) z5.toList
 map:StD X mp n D E en
section
variable {w X X':World} {base M:Nat} {T:Nat→PS} {G cp a:Nat} {E:Nat→PS} {en:PS} {mp n:Nat} {D:DataW Value} {S:PS}
theorem StB.below (h:StB w X base M T G cp a E en mp n D S) (hb:Below X.heap.size X X'):StB w X' base M T G cp a E en mp n D S:=
 ⟨h.mtr.below hb,h.ptr.below hb,h.set.below hb,h.ans.below hb,h.map.chg (S:=fun _=>False) (Chg.of_below hb) (fun q=>q)⟩
variable {Z:Nat→Prop}
theorem StB.chg (h:StB w X base M T G cp a E en mp n D S) (hc:Chg Z X X') (hM:¬Z M) (hG:¬Z G) (hp:¬Z mp) (hb:∀k,Z k→base≤k∧w.heap.size+1+1<k):StB w X' base M T G cp a E en mp n D S:=
 ⟨h.mtr.chg hc hM hG (fun k q=>(hb k q).1),h.ptr.chg hc (fun q=>by have:=(hb _ q).2;omega),h.set.chg hc (fun q=>by have:=(hb _ q).2;omega),h.ans.chg hc (fun q=>by have:=(hb _ q).2;omega),h.map.chg hc hp⟩
end
def StP (base M:Nat) (T:Nat→PS) (G cp a:Nat) (E:Nat→PS) (en:PS) (mp n:Nat) (S:PS) (w:World) (e:Ending) (w':World):Prop:=
 e=.returned (stV (ahd E S) (acc en S))∧Hid (MtrI w' base M T G cp a E en mp∧StI w' mp (n+1) E en∧Chg (fun k=>k=mp) w w')
theorem yTp {g:Nat} {A:PS} {b:Bool} (ht:tmps[4]?.getD undef=.pointer (some ⟨g,0,none⟩)) (h:yA w base 188 5 g (stL A b)):(results Tryz.f138 tmps).run Tryz.prog w=.ok (stV A b) w:=by obtain⟨p0,p1,p2,p3,p4⟩:=h.c5;simp[results,Tryz.results138,ht,go_sem,p0,p1,p2,p3,p4]
def set5 (w:World) (g:Nat) (A:PS) (b:Bool):World:=((((w.setCell ⟨g,0,none⟩ (.int .u64 (wdN A 0:Int))).setCell ⟨g,1,none⟩ (.int .u64 (wdN A 1:Int))).setCell ⟨g,2,none⟩ (.int .u64 (wdN A 2:Int))).setCell ⟨g,3,none⟩ (.int .u64 (wdN A 3:Int))).setCell ⟨g,4,none⟩ (.bool b)
theorem yA.set5 {g:Nat} (h:yA w base t 5 g vs) (A:PS) (b:Bool):yA (Go.Proofs.YtkidabedcgngcaaGreatDoor.set5 w g A b) base t 5 g (stL A b):=by
 have h1:=((((h.set 0 (.int .u64 (wdN A 0:Int))).set 1 (.int .u64 (wdN A 1:Int))).set 2 (.int .u64 (wdN A 2:Int))).set 3 (.int .u64 (wdN A 3:Int))).set 4 (.bool b);have hl:=h.len;match vs,hl with
 | [_,_,_,_,_],_=>exact h1
theorem yF1 {Z:Nat→Prop} (w:World) (g:Nat) (A:PS) (b:Bool) (hs:Z g):Chg Z w (set5 w g A b):=
 ((((Chg.of_set w g 0 _ hs).trans (Chg.of_set _ g 1 _ hs)).trans (Chg.of_set _ g 2 _ hs)).trans (Chg.of_set _ g 3 _ hs)).trans (Chg.of_set _ g 4 _ hs)
end
variable {a:Nat}
theorem yQg (S:PS) (w:World) (h:MtrI w base M T G cp a E en mp) (hm:StD w mp n D E en):StB w (((w.alloc (.cells #[.pointer (some ⟨M,0,none⟩)] 109)).alloc (.cells (psL S).toArray 178)).alloc (.cells z5 188)) base M T G cp a E en mp n D S∧Below w.heap.size w (((w.alloc (.cells #[.pointer (some ⟨M,0,none⟩)] 109)).alloc (.cells (psL S).toArray 178)).alloc (.cells z5 188)):=by have k1:∀(x:World) (o:Obj),Below x.heap.size x (x.alloc o):=fun x o=>qB;have b1:=yAa w (base:=w.heap.size) (t:=109) (sz:=1) #[.pointer (some ⟨M,0,none⟩)] (Nat.le_refl _) rfl;have b2:=yAa (w.alloc (.cells #[.pointer (some ⟨M,0,none⟩)] 109)) (base:=w.heap.size) (t:=178) (sz:=4) (psL S).toArray (by simp) rfl;have b3:=yAa ((w.alloc (.cells #[.pointer (some ⟨M,0,none⟩)] 109)).alloc (.cells (psL S).toArray 178)) (base:=w.heap.size) (t:=188) (sz:=5) z5 (by simp;omega) rfl;rw[World.size_alloc]at b2;rw[World.size_alloc,World.size_alloc]at b3;have k0:Below w.heap.size w (((w.alloc (.cells #[.pointer (some ⟨M,0,none⟩)] 109)).alloc (.cells (psL S).toArray 178)).alloc (.cells z5 188)):=((qB).alloc (by simp) _).alloc (by simp;omega) _;exact⟨⟨h.below k0,(b1.below (k1 _ _)).below (k1 _ _),b2.below (k1 _ _),b3,hm.chg (S:=fun _=>False) (Chg.of_below k0) (fun q=>q)⟩,k0⟩
theorem yOz (S:PS) (w:World) (h:MtrI w base M T G cp a E en mp) (hm:StD w mp n D E en) (hh:Maps.has D (psK S)=true):Calls Tryz.prog 138 #[.pointer (some ⟨M,0,none⟩),psV S] w (StP base M T G cp a E en mp n S w):=by
 obtain⟨W0,hW0⟩:=qE (((w.alloc (.cells #[.pointer (some ⟨M,0,none⟩)] 109)).alloc (.cells (psL S).toArray 178)).alloc (.cells z5 188):World);have HW0:Hid (StB w W0 base M T G cp a E en mp n D S∧Below w.heap.size w W0):=by rw[hW0];exact yQg S w h hm
 have HH:Hid (Maps.has D (psK S)=true):=hh;have HLo:Hid (base≤w.heap.size+1+1):=by show _≤_;have:=h.ltM;omega
 clear h hm hh;refine(callsIn_wide (n:=9)).1 ?_;refine callsIn_of_wp_marks Tryz.func138 rfl trivial ?_ rfl;simp only[Tryz.ntmps138,List.size_toArray,List.length_cons,List.length_nil,Nat.reduceAdd,Nat.reduceSub,Array.replicate_succ,Array.replicate_zero,List.push_toArray,List.append_toArray,List.nil_append,List.cons_append];gi_wp2;have hW0':=hW0;simp only[psL,z5]at hW0';rw[←hW0'];clear hW0 hW0';have hSB:∀X,StB w X base M T G cp a E en mp n D S→(X.cell? ⟨w.heap.size,0,none⟩=some (.pointer (some ⟨M,0,none⟩))∧X.cell? ⟨M,1029,none⟩=some (.map (some mp))∧X.cell? ⟨w.heap.size+1,0,none⟩=some (.int .u64 (wdN S 0:Int))∧X.cell? ⟨w.heap.size+1,1,none⟩=some (.int .u64 (wdN S 1:Int))∧X.cell? ⟨w.heap.size+1,2,none⟩=some (.int .u64 (wdN S 2:Int))∧X.cell? ⟨w.heap.size+1,3,none⟩=some (.int .u64 (wdN S 3:Int))∧StD X mp n D E en):=fun X h=>⟨h.ptr.cell (j:=0) rfl,h.mtr.map,h.set.cell (j:=0) rfl,h.set.cell (j:=1) rfl,h.set.cell (j:=2) rfl,h.set.cell (j:=3) rfl,h.map⟩;have HSB:Hid (∀X,StB w X base M T G cp a E en mp n D S→(X.cell? ⟨w.heap.size,0,none⟩=some (.pointer (some ⟨M,0,none⟩))∧X.cell? ⟨M,1029,none⟩=some (.map (some mp))∧X.cell? ⟨w.heap.size+1,0,none⟩=some (.int .u64 (wdN S 0:Int))∧X.cell? ⟨w.heap.size+1,1,none⟩=some (.int .u64 (wdN S 1:Int))∧X.cell? ⟨w.heap.size+1,2,none⟩=some (.int .u64 (wdN S 2:Int))∧X.cell? ⟨w.heap.size+1,3,none⟩=some (.int .u64 (wdN S 3:Int))∧StD X mp n D E en)):=hSB;have HD:Hid (StB w W0.drew base M T G cp a E en mp n D S):=HW0.1.below ((Below.refl _ _).drew);clear hSB;refine wpIn_wide.2 ?_;refine wp_region_noPanic ?_;refine yAb 99 (fun wz=>wz.cell? ⟨w.heap.size,0,none⟩=some (.pointer (some ⟨M,0,none⟩))∧wz.cell? ⟨M,1029,none⟩=some (.map (some mp))∧wz.cell? ⟨w.heap.size+1,0,none⟩=some (.int .u64 (wdN S 0:Int))∧wz.cell? ⟨w.heap.size+1,1,none⟩=some (.int .u64 (wdN S 1:Int))∧wz.cell? ⟨w.heap.size+1,2,none⟩=some (.int .u64 (wdN S 2:Int))∧wz.cell? ⟨w.heap.size+1,3,none⟩=some (.int .u64 (wdN S 3:Int))∧StD wz mp n D E en) (by kernel_rfl) ?_;refine j13a 0 (HSB.out _ HD.out) ?_;iterate 8 refine j13b (HSB.out _ HD.out) ?_
 refine qO 9 rfl fun K hK=>?_;go_simp;refine hK.out _ _ (.inr (HSB.out _ (HW0.1.below (by repeat (first|exact Below.refl _ _|refine Below.drew ?_|refine Below.alloc ?_ (Nat.le_refl _) _|refine yAc ?_ (Nat.le_refl _) _ _))))) ?_;clear hK;refine jS ?_;refine qO 10 rfl fun K hK=>?_;go_simp;refine hK.out _ _ (.inr (HSB.out _ (HW0.1.below (by repeat (first|exact Below.refl _ _|refine Below.drew ?_|refine Below.alloc ?_ (Nat.le_refl _) _|refine yAc ?_ (Nat.le_refl _) _ _))))) ?_;clear hK;refine jS ?_;refine qO 11 rfl fun K hK=>?_;go_simp;refine hK.out _ _ (.inr (HSB.out _ (HW0.1.below (by repeat (first|exact Below.refl _ _|refine Below.drew ?_|refine Below.alloc ?_ (Nat.le_refl _) _|refine yAc ?_ (Nat.le_refl _) _ _))))) ?_;clear hK;refine jS ?_;refine qD ?_;dsimp only[NoPanic];obtain⟨W1,hW1⟩:=qE ((W0.alloc (.cells (stL (ahd E S) (acc en S)).toArray 188)).drew:World);have k1:Below W0.heap.size W0 W1:=by rw[hW1];exact(qB).drew
 have s0:=HW0.2.size;have HW1:Hid (StB w W1 base M T G cp a E en mp n D S∧yA W1 w.heap.size 188 5 W0.heap.size (stL (ahd E S) (acc en S))∧Below w.heap.size w W1):=by refine⟨HW0.1.below k1,?_,HW0.2.trans (k1.mono s0)⟩;have b1:=yAa W0 (base:=w.heap.size) (t:=188) (sz:=5) (stL (ahd E S) (acc en S)).toArray s0 rfl;rw[hW1];exact b1.below ((Below.refl _ _).drew)
 have hW1':=hW1;simp only[stL]at hW1';rw[←hW1'];clear hW1 hW1' k1 HD HSB;have r0:=HW1.2.1.cell (j:=0) rfl;have a0:=HW1.1.ans.cell (j:=0) rfl;have f0:=HW1.1.ans.frozen 0;have r1:=HW1.2.1.cell (j:=1) rfl;have a1:=HW1.1.ans.cell (j:=1) rfl;have f1:=HW1.1.ans.frozen 1;have r2:=HW1.2.1.cell (j:=2) rfl;have a2:=HW1.1.ans.cell (j:=2) rfl;have f2:=HW1.1.ans.frozen 2;have r3:=HW1.2.1.cell (j:=3) rfl;have a3:=HW1.1.ans.cell (j:=3) rfl;have f3:=HW1.1.ans.frozen 3;have r4:=HW1.2.1.cell (j:=4) rfl;have a4:=HW1.1.ans.cell (j:=4) rfl;have f4:=HW1.1.ans.frozen 4;have HF:Hid (StP base M T G cp a E en mp n S w (.returned (stV (ahd E S) (acc en S))) (set5 W1 (w.heap.size+1+1) (ahd E S) (acc en S))∧yA (set5 W1 (w.heap.size+1+1) (ahd E S) (acc en S)) w.heap.size 188 5 (w.heap.size+1+1) (stL (ahd E S) (acc en S))):=by have hc:Chg (fun k=>k=w.heap.size+1+1) W1 (set5 W1 (w.heap.size+1+1) (ahd E S) (acc en S)):=yF1 _ _ _ _ rfl;have hB:=HW1.1;have hM:¬M=w.heap.size+1+1:=fun q=>yAo hB.mtr.box hB.ans (by decide) M rfl (by rw[q];rfl);have hG:¬G=w.heap.size+1+1:=fun q=>yAo hB.mtr.row hB.ans (by decide) G rfl (by rw[q];rfl);have hp:¬mp=w.heap.size+1+1:=hB.map.ne hB.ans;have hlow:base≤w.heap.size+1+1:=HLo.out;have hD:=hB.map.chg hc hp;refine⟨⟨rfl,hB.mtr.chg hc hM hG (fun k q=>by omega),⟨D,hD.1.mono (Nat.le_succ n),hD.2⟩,?_⟩,hB.ans.set5 _ _⟩;have hx:Chg (fun k=>k=mp) w W1:=Chg.of_below HW1.2.2;exact⟨hc.os.trans hx.os,hc.tape.trans hx.tape,hc.output.trans hx.output,Nat.le_trans hx.size hc.size,fun j hj hn=>(hc.block j (Nat.lt_of_lt_of_le hj hx.size) (by omega)).trans (hx.block j hj hn)⟩
 gi_wp2;exact⟨_,yTp (base:=w.heap.size) (g:=w.heap.size+1+1) rfl HF.2,HF.1⟩
section
attribute [local go_sem] Oper.semAt_some
theorem yKn {S:PS} {k':Nat} (hk:k≤k') (h:∀j,k≤j→j<k'→S j=false):ahdT E S k'=ahdT E S k:=by
 funext q;unfold ahdT;rw[Bool.eq_iff_iff,List.any_eq_true,List.any_eq_true];constructor
 ·rintro⟨p,hp,hx⟩;have hp:=List.mem_range.1 hp;refine⟨p,List.mem_range.2 ?_,hx⟩;apply Classical.byContradiction;intro hn;rw[h p (by omega) hp]at hx;cases hx
 ·rintro⟨p,hp,hx⟩;exact⟨p,List.mem_range.2 (by have:=List.mem_range.1 hp;omega),hx⟩
theorem yVt {S:PS} {x:Nat} (hk:k≤x) (hS:S x=true) (h:∀j,k≤j→j<x→S j=false):ahdT E S (x+1)=sOr (ahdT E S k) (E x):=by rw[←yKn hk h];funext q;simp[ahdT,sOr,List.range_succ,List.any_append,hS]
theorem yC9 (h:StD w mp n D E en) {sz g:Nat} (hb:yA w base t sz g vs):¬g=mp:=fun q=>h.ne hb q.symm
variable {w5:World}
theorem yF2 {Z:Nat→Prop} {w6:World} (hx:Chg Z w w5) (hc:Chg (fun k=>w.heap.size≤k) w5 w6):Chg Z w w6:=
 ⟨hc.os.trans hx.os,hc.tape.trans hx.tape,hc.output.trans hx.output,Nat.le_trans hx.size hc.size,fun j hj hn=>(hc.block j (Nat.lt_of_lt_of_le hj hx.size) (by omega)).trans (hx.block j hj hn)⟩
structure RaI (w:World) (base M:Nat) (T:Nat→PS) (G cp a:Nat) (E:Nat→PS) (en:PS) (mp n:Nat) (D:DataW Value) (S:PS) (b7 k:Nat) (W4 W:World):Prop where
 st:StB w W base M T G cp a E en mp n D S
 made:yA W w.heap.size 188 5 b7 (stL (ahdT E S k) (acc en S))
 low:Below w.heap.size w W
 size:W4.heap.size≤W.heap.size
end
mutual
def wtP:Pat→Nat
 | .byte _=>1
 | .cls _=>1
 | .rep t _ _=>wtP t
 | .alt os=>wtA os+1
def wtA:List (List Pat)→Nat
 | []=>0
 |ts::os=>wtS ts+1+wtA os
def wtS:List Pat→Nat
 | []=>0
 |t::ts=>wtP t+wtS ts
end
theorem yTb:∀t:Pat,1≤wtP t
 | .byte _=>by simp[wtP]
 | .cls _=>by simp[wtP]
 | .rep t _ _=>by simp only[wtP];exact yTb t
 | .alt os=>by simp[wtP]
theorem yOq:∀ts:List Pat,ts.length≤wtS ts
 | []=>by simp[wtS]
 |t::ts=>by have:=yOq ts;have:=yTb t;simp only[wtS,List.length_cons];omega
theorem yOt:∀os:List (List Pat),os.length≤wtA os
 | []=>by simp[wtA]
 |t::ts=>by have:=yOt ts;simp only[wtA,List.length_cons];omega
theorem yOp:∀{ts:List Pat} {t:Pat},t∈ts→wtP t≤wtS ts
 |s::ts,t,h=>by
  rcases List.mem_cons.1 h with rfl|q
  ·simp only[wtS];omega
  ·have:=yOp q;simp only[wtS];omega
theorem yOs:∀{os:List (List Pat)} {ts:List Pat},ts∈os→wtS ts≤wtA os
 |s::os,ts,h=>by
  rcases List.mem_cons.1 h with rfl|q
  ·simp only[wtA];omega
  ·have:=yOs q;simp only[wtA];omega
variable {A:List UInt8→Pat→Prop} {t:Pat}
theorem wt_rep (hA:∀xs t,A xs t→wtP t≤xs.length) {xs:List UInt8}:RepG A xs t→wtP t≤xs.length
 |⟨ys,ops,a,h1,h2,h3,h4⟩=>by
  have:=hA _ _ h2
  rw[h1,h4]
  split
  ·simp;omega
  ·simp only[wtP,List.length_append];omega
theorem yS9 (hA:∀xs t,A xs t→wtP t≤xs.length):∀{ts:List Pat} {xs:List UInt8},SeqG A ts xs→wtS ts≤xs.length
 | [],_,h=>by simp[wtS]
 |t::ts,xs,⟨ys,zs,h1,h2,h3⟩=>by
  have:=wt_rep hA h2
  have:=yS9 hA h3
  rw[h1];simp only[wtS,List.length_append];omega
theorem yTa (hA:∀xs t,A xs t→wtP t≤xs.length):∀{os:List (List Pat)} {xs:List UInt8},AltG A os xs→wtA os≤xs.length+1
 | [],_,h=>h.elim
 | [ts],xs,h=>by have:=yS9 hA (ts:=ts) (xs:=xs) h;simp only[wtA];omega
 |ts::t2::os,xs,⟨ys,zs,h1,h2,h3⟩=>by
  have:=yS9 hA h2
  have:=yTa hA (os:=t2::os) h3
  rw[h1];rw[show wtA (ts::t2::os)=wtS ts+1+wtA (t2::os)from rfl];simp only[List.length_append,List.length_cons];omega
theorem yT:∀(n:Nat) (xs:List UInt8) (t:Pat),yAz n xs t→wtP t≤xs.length
 |0,_,_,h=>h.elim
 |n+1,xs,t,h=>by
  rcases h with⟨c,rfl,_,rfl⟩|⟨rfl,rfl⟩|⟨c,rfl,rfl⟩|⟨ys,os,rfl,h2,rfl⟩|⟨p,i,k,f,h1,h2,rfl,rfl⟩
  ·simp[wtP]
  ·simp[wtP]
  ·simp[wtP]
  ·have:=yTa (fun xs t q=>yT n xs t q) h2
   simp only[wtP,List.length_append,List.length_cons,List.length_nil];omega
  ·have hg:=yBv h2
   rw[yBk hg.2];simp only[wtP];omega
mutual
theorem nx_P:∀(t:Pat) (a:Nat),(lyP t a).nx≤a+wtP t
 | .byte _,a=>by simp[lyP,wtP]
 | .cls _,a=>by simp[lyP,wtP]
 | .rep t _ _,a=>by simp only[lyP,wtP,Lay.rep];exact nx_P t a
 | .alt os,a=>by have:=nx_A os (Lay.no a);simp only[lyP,wtP,Lay.no]at*;omega
theorem nx_A:∀(os:List (List Pat)) (g:Lay),(lyA os g).nx≤g.nx+wtA os
 | [],g=>by simp[lyA,wtA]
 |ts::os,g=>by
  have h1:=nx_A os (g.alt (lyS ts true (Lay.no g.nx)))
  have h2:=nx_S ts true (Lay.no g.nx)
  simp only[lyA,wtA,Lay.alt,Lay.no]at*;omega
theorem nx_S:∀(ts:List Pat) (em:Bool) (g:Lay),(lyS ts em g).nx≤g.nx+wtS ts
 | [],em,g=>by simp[lyS,wtS]
 |t::ts,em,g=>by
  have h1:=nx_S ts (em && nulB t) (g.seq em (nulB t) (lyP t g.nx))
  have h2:=nx_P t g.nx
  simp only[lyS,wtS,Lay.seq]at*;omega
end
noncomputable def zeroOf (t:Nat):Value:=((Tryz.prog.info? t).bind (fun i=>i.zero)).getD undef
theorem asBB (cs:Array Value) (w:World):(Instr.typeAssert (.iface 211 (.agg cs)) 209 211 true).run Tryz.prog w=.ok (.tuple #[.agg cs,.bool true]) w:=by kernel_rfl
theorem asCC (cs:Array Value) (w:World):(Instr.typeAssert (.iface 217 (.agg cs)) 209 217 true).run Tryz.prog w=.ok (.tuple #[.agg cs,.bool true]) w:=by kernel_rfl
theorem asCB (cs:Array Value) (w:World):(Instr.typeAssert (.iface 217 (.agg cs)) 209 211 true).run Tryz.prog w=.ok (.tuple #[zeroOf 211,.bool false]) w:=by kernel_rfl
theorem asRR (cs:Array Value) (w:World):(Instr.typeAssert (.iface 219 (.agg cs)) 209 219 true).run Tryz.prog w=.ok (.tuple #[.agg cs,.bool true]) w:=by kernel_rfl
theorem asRB (cs:Array Value) (w:World):(Instr.typeAssert (.iface 219 (.agg cs)) 209 211 true).run Tryz.prog w=.ok (.tuple #[zeroOf 211,.bool false]) w:=by kernel_rfl
theorem asRC (cs:Array Value) (w:World):(Instr.typeAssert (.iface 219 (.agg cs)) 209 217 true).run Tryz.prog w=.ok (.tuple #[zeroOf 217,.bool false]) w:=by kernel_rfl
theorem asSS (cs:Array Value) (w:World):(Instr.typeAssert (.iface 206 (.agg cs)) 209 206 true).run Tryz.prog w=.ok (.tuple #[.agg cs,.bool true]) w:=by kernel_rfl
theorem asSB (cs:Array Value) (w:World):(Instr.typeAssert (.iface 206 (.agg cs)) 209 211 true).run Tryz.prog w=.ok (.tuple #[zeroOf 211,.bool false]) w:=by kernel_rfl
theorem asSC (cs:Array Value) (w:World):(Instr.typeAssert (.iface 206 (.agg cs)) 209 217 true).run Tryz.prog w=.ok (.tuple #[zeroOf 217,.bool false]) w:=by kernel_rfl
theorem asSR (cs:Array Value) (w:World):(Instr.typeAssert (.iface 206 (.agg cs)) 209 219 true).run Tryz.prog w=.ok (.tuple #[zeroOf 219,.bool false]) w:=by kernel_rfl
theorem asAA (cs:Array Value) (w:World):(Instr.typeAssert (.iface 142 (.agg cs)) 209 142 true).run Tryz.prog w=.ok (.tuple #[.agg cs,.bool true]) w:=by kernel_rfl
theorem asAB (cs:Array Value) (w:World):(Instr.typeAssert (.iface 142 (.agg cs)) 209 211 true).run Tryz.prog w=.ok (.tuple #[zeroOf 211,.bool false]) w:=by kernel_rfl
theorem asAC (cs:Array Value) (w:World):(Instr.typeAssert (.iface 142 (.agg cs)) 209 217 true).run Tryz.prog w=.ok (.tuple #[zeroOf 217,.bool false]) w:=by kernel_rfl
theorem asAR (cs:Array Value) (w:World):(Instr.typeAssert (.iface 142 (.agg cs)) 209 219 true).run Tryz.prog w=.ok (.tuple #[zeroOf 219,.bool false]) w:=by kernel_rfl
theorem asAS (cs:Array Value) (w:World):(Instr.typeAssert (.iface 142 (.agg cs)) 209 206 true).run Tryz.prog w=.ok (.tuple #[zeroOf 206,.bool false]) w:=by kernel_rfl
def yBe (T:Nat→PS) (l:Lay):Nat→PS:=fun b p=>T b p || l.tk p (UInt8.ofNat b)
def yA0 (E:Nat→PS) (l:Lay):Nat→PS:=fun p q=>E p q || l.ed p q
def LayR (base M:Nat) (T:Nat→PS) (G:Nat) (E:Nat→PS) (en:PS) (mp:Nat) (l:Lay) (w:World) (e:Ending) (w':World):Prop:=
 ∃G' cp',e=.returned (spV l.fst l.lst)∧Hid (MtrI w' base M (yBe T l) G' cp' l.nx (yA0 E l) en mp∧Chg (fun k=>k=M∨k=G) w w'∧(G'=G∨w.heap.size≤G'))
abbrev zsA:Array Value:=#[.int .u64 0,.int .u64 0,.int .u64 0,.int .u64 0,.int .u64 0,.int .u64 0,.int .u64 0,.int .u64 0]
theorem MtrI.taken4 (h:MtrI w base M T G cp a E en mp) {p:Nat} (hp:p<256):w.cell? ⟨M,p*4,none⟩=some (.int .u64 (wdN (T p) 0:Int))∧w.cell? ⟨M,p*4+1,none⟩=some (.int .u64 (wdN (T p) 1:Int))∧w.cell? ⟨M,p*4+2,none⟩=some (.int .u64 (wdN (T p) 2:Int))∧w.cell? ⟨M,p*4+3,none⟩=some (.int .u64 (wdN (T p) 3:Int))∧w.frozen? ⟨M,p*4,none⟩=false∧w.frozen? ⟨M,p*4+1,none⟩=false∧w.frozen? ⟨M,p*4+2,none⟩=false∧w.frozen? ⟨M,p*4+3,none⟩=false:=by rw[Nat.mul_comm p 4];exact⟨h.tk hp (j:=0) (by omega),h.tk hp (by omega),h.tk hp (by omega),h.tk hp (by omega),h.frzM _,h.frzM _,h.frzM _,h.frzM _⟩
theorem yW2 (b:UInt8) (w:World) (h:MtrI w base M T G cp a E en mp) (ha:a<256):
  Calls Tryz.prog 135 #[.pointer (some ⟨M,0,none⟩),ySy b] w (LayR base M T G E en mp (lyP (.byte b) a) w):=by
 obtain⟨W0,hW0⟩:=qE ((w.alloc (.cells zsA 183)).alloc (.cells #[.int .u8 (b.toNat:Int)] 211):World);have HW0:Hid (yA W0 w.heap.size 183 8 w.heap.size zsA.toList∧yA W0 w.heap.size 211 1 (w.heap.size+1) [.int .u8 (b.toNat:Int)]∧Below w.heap.size w W0∧MtrI W0 base M T G cp a E en mp):=by
  have b1:=yAa w (base:=w.heap.size) (t:=183) (sz:=8) zsA (Nat.le_refl _) rfl;have b2:=yAa (w.alloc (.cells zsA 183)) (base:=w.heap.size) (t:=211) (sz:=1) #[.int .u8 (b.toNat:Int)] (by simp) rfl;rw[World.size_alloc]at b2;have k0:Below w.heap.size w W0:=by rw[hW0];exact(qB).alloc (by simp) _
  refine⟨?_,by rw[hW0];exact b2,k0,h.below k0⟩;rw[hW0];exact b1.below (qB)
 have HN:Hid (Calls Tryz.prog 154 #[.pointer (some ⟨M,0,none⟩)] W0 fun e w'=>∃G' cp',e=.returned (.int .i64 (a:Int))∧Hid (MtrI w' base M T G' cp' (a+1) E en mp∧Chg (fun k=>k=M∨k=G) W0 w'∧(G'=G∨W0.heap.size≤G'))):=yE6 W0 HW0.2.2.2 (by omega);have hM0:=h.ltM;have hG0:=h.ltG;clear h;have hAs:=asBB #[.int .u8 (b.toNat:Int)];go_enter Tryz.func135,Tryz.ntmps135;go_wp2_with fail;rw[←hW0];clear hW0 hAs;refine HN.mono ?_;rintro e w1 ⟨G1,cp1,rfl,H1⟩;have HB1:Hid (yA w1 w.heap.size 183 8 w.heap.size zsA.toList∧yA w1 w.heap.size 211 1 (w.heap.size+1) [.int .u8 (b.toNat:Int)]):=⟨HW0.1.chg H1.2.1 (by omega),HW0.2.1.chg H1.2.1 (by omega)⟩;have r0:=HB1.2.cell (j:=0) rfl;have hlB:b.toNat<256:=b.toNat_lt;obtain⟨bn,hbn⟩:=qE b.toNat;rw[←hbn]at r0 hlB;obtain⟨e0,e1,e2,e3,y0,y1,y2,y3⟩:=H1.1.taken4 hlB;have hM1:=H1.1.ltM;have hn1:=H1.1.ne;have hS1:=H1.2.1.size;have zb:(bn:Int)<256:=by omega
 have HWi:Hid (∀wx:World,Calls Tryz.prog 137 #[psV (T bn),.int .i64 (a:Int)] wx fun e w'=>e=.returned (psV (sOr (T bn) (sOne a)))∧Below wx.heap.size wx w'):=fun wx=>yFa (T bn) a ha wx;have HBn:Hid (bn=b.toNat):=hbn;clear hbn;go_upto_region 5 with fail;have HS0:Hid (w1.drew.cell? ⟨w.heap.size+1,0,none⟩=some (.int .u8 (bn:Int))∧w1.drew.cell? ⟨M,bn*4,none⟩=some (.int .u64 (wdN (T bn) 0:Int))∧w1.drew.cell? ⟨M,bn*4+1,none⟩=some (.int .u64 (wdN (T bn) 1:Int))∧w1.drew.cell? ⟨M,bn*4+2,none⟩=some (.int .u64 (wdN (T bn) 2:Int))∧w1.drew.cell? ⟨M,bn*4+3,none⟩=some (.int .u64 (wdN (T bn) 3:Int))):=⟨r0,e0,e1,e2,e3⟩;refine yAb 15 (fun wz=>wz.cell? ⟨w.heap.size+1,0,none⟩=some (.int .u8 (bn:Int))∧wz.cell? ⟨M,bn*4,none⟩=some (.int .u64 (wdN (T bn) 0:Int))∧wz.cell? ⟨M,bn*4+1,none⟩=some (.int .u64 (wdN (T bn) 1:Int))∧wz.cell? ⟨M,bn*4+2,none⟩=some (.int .u64 (wdN (T bn) 2:Int))∧wz.cell? ⟨M,bn*4+3,none⟩=some (.int .u64 (wdN (T bn) 3:Int))) (by kernel_rfl) ?_;refine j4a 0 HS0.out ?_;iterate 10 refine j4b HS0.out ?_
 refine yEb (i:=11) (j:=12) (by kernel_rfl) rfl rfl (fun K hK=>?_) (fun K hK=>?_)
 ·go_simp;refine(HWi.out _).mono ?_;rintro r v3 ⟨rfl,hb3⟩;have HV:Hid (Below w1.heap.size w1 v3):=((Below.refl w1.heap.size w1).drew).trans hb3;have HM3:Hid (MtrI v3 base M T G1 cp1 (a+1) E en mp):=H1.1.below HV.out;have HB3:Hid (yA v3 w.heap.size 183 8 w.heap.size zsA.toList∧yA v3 w.heap.size 211 1 (w.heap.size+1) [.int .u8 (b.toNat:Int)]):=⟨HB1.1.below HV.out,HB1.2.below HV.out⟩;clear e0 e1 e2 e3 y0 y1 y2 y3;obtain⟨g0,g1,g2,g3,y0,y1,y2,y3⟩:=HM3.taken4 hlB;have HS3:Hid (v3.cell? ⟨w.heap.size+1,0,none⟩=some (.int .u8 (bn:Int))∧v3.cell? ⟨M,bn*4,none⟩=some (.int .u64 (wdN (T bn) 0:Int))∧v3.cell? ⟨M,bn*4+1,none⟩=some (.int .u64 (wdN (T bn) 1:Int))∧v3.cell? ⟨M,bn*4+2,none⟩=some (.int .u64 (wdN (T bn) 2:Int))∧v3.cell? ⟨M,bn*4+3,none⟩=some (.int .u64 (wdN (T bn) 3:Int))):=⟨by rw[HBn.out];exact HB3.2.cell (j:=0) rfl,g0,g1,g2,g3⟩;refine hK.out _ _ (.inr HS3.out) ?_;clear hK hb3;refine jS ?_;refine qO 12 rfl fun K hK=>?_;go_simp;refine hK.out _ _ (.inr HS3.out) ?_;clear hK;refine jS ?_;refine qO 13 rfl fun K hK=>?_;go_simp;refine hK.out _ _ (.inr HS3.out) ?_;clear hK;exact zzQ2
 ·go_simp;refine hK.out _ _ (.inr HS0.out) ?_;clear hK;refine jS ?_;refine yEb (i:=11) (j:=13) (by kernel_rfl) rfl rfl (fun K hK=>?_) (fun K hK=>?_)
  ·go_simp;refine(HWi.out _).mono ?_;rintro r v3 ⟨rfl,hb3⟩;have HV:Hid (Below w1.heap.size w1 v3):=((Below.refl w1.heap.size w1).drew).trans hb3;have HM3:Hid (MtrI v3 base M T G1 cp1 (a+1) E en mp):=H1.1.below HV.out;have HB3:Hid (yA v3 w.heap.size 183 8 w.heap.size zsA.toList∧yA v3 w.heap.size 211 1 (w.heap.size+1) [.int .u8 (b.toNat:Int)]):=⟨HB1.1.below HV.out,HB1.2.below HV.out⟩;clear e0 e1 e2 e3 y0 y1 y2 y3;obtain⟨g0,g1,g2,g3,y0,y1,y2,y3⟩:=HM3.taken4 hlB;have HS3:Hid (v3.cell? ⟨w.heap.size+1,0,none⟩=some (.int .u8 (bn:Int))∧v3.cell? ⟨M,bn*4,none⟩=some (.int .u64 (wdN (T bn) 0:Int))∧v3.cell? ⟨M,bn*4+1,none⟩=some (.int .u64 (wdN (T bn) 1:Int))∧v3.cell? ⟨M,bn*4+2,none⟩=some (.int .u64 (wdN (T bn) 2:Int))∧v3.cell? ⟨M,bn*4+3,none⟩=some (.int .u64 (wdN (T bn) 3:Int))):=⟨by rw[HBn.out];exact HB3.2.cell (j:=0) rfl,g0,g1,g2,g3⟩;refine hK.out _ _ (.inr HS3.out) ?_;clear hK hb3;refine jS ?_;refine qO 13 rfl fun K hK=>?_;go_simp;refine hK.out _ _ (.inr HS3.out) ?_;clear hK;exact zzQ2
  ·go_simp;refine hK.out _ _ (.inr HS0.out) ?_;clear hK;refine jS ?_;refine qO 11 rfl fun K hK=>?_;go_simp;refine(HWi.out _).mono ?_;rintro r v3 ⟨rfl,hb3⟩;have HV:Hid (Below w1.heap.size w1 v3):=((Below.refl w1.heap.size w1).drew).trans hb3;have HM3:Hid (MtrI v3 base M T G1 cp1 (a+1) E en mp):=H1.1.below HV.out;have HB3:Hid (yA v3 w.heap.size 183 8 w.heap.size zsA.toList∧yA v3 w.heap.size 211 1 (w.heap.size+1) [.int .u8 (b.toNat:Int)]):=⟨HB1.1.below HV.out,HB1.2.below HV.out⟩;clear e0 e1 e2 e3 y0 y1 y2 y3;obtain⟨g0,g1,g2,g3,y0,y1,y2,y3⟩:=HM3.taken4 hlB;have HS3:Hid (v3.cell? ⟨w.heap.size+1,0,none⟩=some (.int .u8 (bn:Int))∧v3.cell? ⟨M,bn*4,none⟩=some (.int .u64 (wdN (T bn) 0:Int))∧v3.cell? ⟨M,bn*4+1,none⟩=some (.int .u64 (wdN (T bn) 1:Int))∧v3.cell? ⟨M,bn*4+2,none⟩=some (.int .u64 (wdN (T bn) 2:Int))∧v3.cell? ⟨M,bn*4+3,none⟩=some (.int .u64 (wdN (T bn) 3:Int))):=⟨by rw[HBn.out];exact HB3.2.cell (j:=0) rfl,g0,g1,g2,g3⟩;refine hK.out _ _ (.inr HS3.out) ?_;clear hK hb3;exact zzQ2
theorem yN2:(Tryz.prog.info? 217).map (fun i=>(i.zero,i.size))=some (some (.agg (Array.replicate 256 (.bool false))),256):=by kernel_rfl
theorem yTt (f:UInt8→Bool) (hk:k<256) (w:World):(Instr.index 215 (.agg (setA f)) (.int .i64 (k:Int))).run Tryz.prog w=.ok (.bool (f (UInt8.ofNat k))) w:=by
 have h1:=yTu f k hk;have h2:=yAg f;have z:(k:Int)<256:=by omega
 unfold Instr.index;simp[go_sem,h1];intro q;omega
def clsT (T:Nat→PS) (f:UInt8→Bool) (a k:Nat):Nat→PS:=fun b p=>T b p || (decide (b<k) && (p==a && f (UInt8.ofNat b)))
structure ClI (w:World) (base M:Nat) (T:Nat→PS) (f:UInt8→Bool) (G cp a:Nat) (E:Nat→PS) (en:PS) (mp k:Nat) (w1 W:World):Prop where
 mtr:MtrI W base M (clsT T f a k) G cp (a+1) E en mp
 box:yA W w.heap.size 183 8 w.heap.size zsA.toList
 chg:Chg (fun j=>j=M) w1 W
theorem yZv (f:UInt8→Bool) (w:World) (h:MtrI w base M T G cp a E en mp) (ha:a<256):
  Calls Tryz.prog 135 #[.pointer (some ⟨M,0,none⟩),clsV f] w (LayR base M T G E en mp (lyP (.cls f) a) w):=by
 obtain⟨W0,hW0⟩:=qE ((w.alloc (.cells zsA 183)).alloc (.cells (setA f) 217):World);have HW0:Hid (yA W0 w.heap.size 183 8 w.heap.size zsA.toList∧yA W0 w.heap.size 217 256 (w.heap.size+1) (setA f).toList∧Below w.heap.size w W0∧MtrI W0 base M T G cp a E en mp):=by
  have b1:=yAa w (base:=w.heap.size) (t:=183) (sz:=8) zsA (Nat.le_refl _) rfl;have b2:=yAa (w.alloc (.cells zsA 183)) (base:=w.heap.size) (t:=217) (sz:=256) (setA f) (by simp) (yAg f);rw[World.size_alloc]at b2;have k0:Below w.heap.size w W0:=by rw[hW0];exact(qB).alloc (by simp) _
  refine⟨?_,by rw[hW0];exact b2,k0,h.below k0⟩;rw[hW0];exact b1.below (qB)
 have HN:Hid (Calls Tryz.prog 154 #[.pointer (some ⟨M,0,none⟩)] W0 fun e w'=>∃G' cp',e=.returned (.int .i64 (a:Int))∧Hid (MtrI w' base M T G' cp' (a+1) E en mp∧Chg (fun k=>k=M∨k=G) W0 w'∧(G'=G∨W0.heap.size≤G'))):=yE6 W0 HW0.2.2.2 (by omega);have hM0:=h.ltM;have hG0:=h.ltG;clear h;have hAs:=asCB (setA f);have hAs2:=asCC (setA f);have hzv:=(zero_of_info yN2).1;have hsz:=yAg f;have hsc:=run_storeCells_new (P:=Tryz.prog) (w.alloc (.cells zsA 183)) 217 (Array.replicate 256 (.bool false)) (setA f) (by rw[yAg];exact(zero_of_info yN2).2) (by rw[yAg];simp) (yEs f);simp only[zsA,World.size_alloc]at hsc;go_enter Tryz.func135,Tryz.ntmps135;go_wp2_with fail;have hW0':=hW0;simp only[zsA]at hW0';rw[←hW0'];clear hW0 hW0' hAs hAs2 hzv hsc hsz;refine HN.mono ?_;rintro e w1 ⟨G1,cp1,rfl,H1⟩;have HB1:Hid (yA w1 w.heap.size 183 8 w.heap.size zsA.toList∧yA w1 w.heap.size 217 256 (w.heap.size+1) (setA f).toList):=⟨HW0.1.chg H1.2.1 (by omega),HW0.2.1.chg H1.2.1 (by omega)⟩;have h0:w1.heap[w.heap.size+1]?=some (.cells (setA f) 217 (0,0)):=by have:=HB1.2.heap;simpa using this
 have hi:(Tryz.prog.info? 215).map (·.size)=some 256:=(zero_of_info yC8).2;have hM1:=H1.1.ltM;have hn1:=H1.1.ne;have hS1:=H1.2.1.size;have q0:=HW0.2.2.1.size;go_wp2_with (refine wpList_load_row rfl 215 _ rfl (w.heap.size+1) rfl 217 (setA f) (0,0) _ h0 Tryz.underlying215 rfl (by rw[yAg];exact hi) ?_);clear h0 hi;go_loopw[45] (fun iv wr=>∃k:Nat,k≤256∧iv=.int .i64 k∧Hid (ClI w base M T f G1 cp1 a E en mp k w1 wr)) (fun iv _=>256-(intOf iv).toNat);case atStart=>exact⟨0,by omega,rfl,H1.1.iff (fun b p _ _=>by simp[clsT]) (fun _ _ _ _=>rfl) H1.1.new,HB1.1,Chg.refl _ _⟩
 case round=>
  obtain⟨k,hk,rfl,HJ⟩:=hrel;by_cases hlt:k<256
  ·have zk:(k:Int)<256:=by omega
   have hix:=fun w=>yTt f hlt w;cases hfk:f (UInt8.ofNat k)with
   |false=>
    rw[hfk]at hix;have HJ2:Hid (ClI w base M T f G1 cp1 a E en mp (k+1) w1 wr):=by
     refine⟨HJ.mtr.iff (fun b p hb hp=>?_) (fun _ _ _ _=>rfl) HJ.mtr.new,HJ.box,HJ.chg⟩;unfold clsT;by_cases e:b=k
     ·subst e;simp[hfk]
     ·have:decide (b<k+1)=decide (b<k):=by rw[decide_eq_decide];omega
      rw[this]
    clear hfk;go_wp2_with fail;go_roundw;case rel=>exact⟨k+1,by omega,by go_num,HJ2⟩
    case measure=>simp[intOf];omega
   |true=>
    rw[hfk]at hix;obtain⟨e0,e1,e2,e3,y0,y1,y2,y3⟩:=HJ.mtr.taken4 hlt;have hMr:=HJ.mtr.ltM;have HWi:Hid (∀wx:World,Calls Tryz.prog 137 #[psV (clsT T f a k k),.int .i64 (a:Int)] wx fun e w'=>e=.returned (psV (sOr (clsT T f a k k) (sOne a)))∧Below wx.heap.size wx w'):=fun wx=>yFa (clsT T f a k k) a ha wx;have HFk:Hid (f (UInt8.ofNat k)=true):=hfk;clear hfk;go_upto_region 14 with fail;have HS0:Hid (wr.drew.cell? ⟨M,k*4,none⟩=some (.int .u64 (wdN (clsT T f a k k) 0:Int))∧wr.drew.cell? ⟨M,k*4+1,none⟩=some (.int .u64 (wdN (clsT T f a k k) 1:Int))∧wr.drew.cell? ⟨M,k*4+2,none⟩=some (.int .u64 (wdN (clsT T f a k k) 2:Int))∧wr.drew.cell? ⟨M,k*4+3,none⟩=some (.int .u64 (wdN (clsT T f a k k) 3:Int))):=⟨e0,e1,e2,e3⟩;refine yAb 13 (fun wz=>wz.cell? ⟨M,k*4,none⟩=some (.int .u64 (wdN (clsT T f a k k) 0:Int))∧wz.cell? ⟨M,k*4+1,none⟩=some (.int .u64 (wdN (clsT T f a k k) 1:Int))∧wz.cell? ⟨M,k*4+2,none⟩=some (.int .u64 (wdN (clsT T f a k k) 2:Int))∧wz.cell? ⟨M,k*4+3,none⟩=some (.int .u64 (wdN (clsT T f a k k) 3:Int))) (by kernel_rfl) ?_;refine j0a 0 HS0.out ?_;iterate 8 refine j0b HS0.out ?_
    refine yEb (i:=9) (j:=10) (by kernel_rfl) rfl rfl (fun K hK=>?_) (fun K hK=>?_)
    ·go_simp;refine(HWi.out _).mono ?_;rintro r v3 ⟨rfl,hb3⟩;have HV:Hid (Below wr.heap.size wr v3):=((Below.refl wr.heap.size wr).drew).trans hb3;have HM3:Hid (MtrI v3 base M (clsT T f a k) G1 cp1 (a+1) E en mp):=HJ.mtr.below HV.out;clear e0 e1 e2 e3 y0 y1 y2 y3;obtain⟨g0,g1,g2,g3,y0,y1,y2,y3⟩:=HM3.taken4 hlt;have HS3:Hid (v3.cell? ⟨M,k*4,none⟩=some (.int .u64 (wdN (clsT T f a k k) 0:Int))∧v3.cell? ⟨M,k*4+1,none⟩=some (.int .u64 (wdN (clsT T f a k k) 1:Int))∧v3.cell? ⟨M,k*4+2,none⟩=some (.int .u64 (wdN (clsT T f a k k) 2:Int))∧v3.cell? ⟨M,k*4+3,none⟩=some (.int .u64 (wdN (clsT T f a k k) 3:Int))):=⟨g0,g1,g2,g3⟩;refine hK.out _ _ (.inr HS3.out) ?_;clear hK hb3;refine jS ?_;refine qO 10 rfl fun K hK=>?_;go_simp;refine hK.out _ _ (.inr HS3.out) ?_;clear hK;refine jS ?_;refine qO 11 rfl fun K hK=>?_;go_simp;refine hK.out _ _ (.inr HS3.out) ?_;clear hK;refine jS ?_;refine qO 12 rfl fun K hK=>?_;go_simp;refine hK.out _ _ (.inr HS3.out) ?_;clear hK;refine jS ?_;refine qO 13 rfl fun K hK=>?_;go_simp;refine hK.out _ _ (.inl rfl) ?_;clear hK;refine jS ?_;refine qD ?_;have HJ2:Hid (ClI w base M T f G1 cp1 a E en mp (k+1) w1 (set4 v3 M (k*4) (sOr (clsT T f a k k) (sOne a)))):=by
      have hc:Chg (fun j=>j=M) v3 (set4 v3 M (k*4) (sOr (clsT T f a k k) (sOne a))):=yBj v3 M _ _ rfl;have h1:MtrI (set4 v3 M (k*4) (sOr (clsT T f a k k) (sOne a))) base M (updE (clsT T f a k) k (sOr (clsT T f a k k) (sOne a))) G1 cp1 (a+1) E en mp:=by rw[Nat.mul_comm k 4];exact HM3.setT hlt _
      refine⟨h1.iff (fun b p hb hp=>?_) (fun _ _ _ _=>rfl) h1.new,(HJ.box.below HV.out).chg hc (by omega),(HJ.chg.trans (Chg.of_below HV.out)).trans hc⟩;unfold updE clsT;by_cases e:b=k
      ·subst e;rw[if_pos rfl];simp[sOr,sOne,HFk.out]
      ·have:decide (b<k+1)=decide (b<k):=by rw[decide_eq_decide];omega
       rw[if_neg e,this]
     simp only[set4]at HJ2;go_wp2_with fail;refine⟨⟨k+1,by omega,by go_num,HJ2⟩,?_⟩;go_light;simp[intOf];omega
    ·go_simp;refine hK.out _ _ (.inr HS0.out) ?_;clear hK;refine jS ?_;refine yEb (i:=9) (j:=11) (by kernel_rfl) rfl rfl (fun K hK=>?_) (fun K hK=>?_)
     ·go_simp;refine(HWi.out _).mono ?_;rintro r v3 ⟨rfl,hb3⟩;have HV:Hid (Below wr.heap.size wr v3):=((Below.refl wr.heap.size wr).drew).trans hb3;have HM3:Hid (MtrI v3 base M (clsT T f a k) G1 cp1 (a+1) E en mp):=HJ.mtr.below HV.out;clear e0 e1 e2 e3 y0 y1 y2 y3;obtain⟨g0,g1,g2,g3,y0,y1,y2,y3⟩:=HM3.taken4 hlt;have HS3:Hid (v3.cell? ⟨M,k*4,none⟩=some (.int .u64 (wdN (clsT T f a k k) 0:Int))∧v3.cell? ⟨M,k*4+1,none⟩=some (.int .u64 (wdN (clsT T f a k k) 1:Int))∧v3.cell? ⟨M,k*4+2,none⟩=some (.int .u64 (wdN (clsT T f a k k) 2:Int))∧v3.cell? ⟨M,k*4+3,none⟩=some (.int .u64 (wdN (clsT T f a k k) 3:Int))):=⟨g0,g1,g2,g3⟩;refine hK.out _ _ (.inr HS3.out) ?_;clear hK hb3;refine jS ?_;refine qO 11 rfl fun K hK=>?_;go_simp;refine hK.out _ _ (.inr HS3.out) ?_;clear hK;refine jS ?_;refine qO 12 rfl fun K hK=>?_;go_simp;refine hK.out _ _ (.inr HS3.out) ?_;clear hK;refine jS ?_;refine qO 13 rfl fun K hK=>?_;go_simp;refine hK.out _ _ (.inl rfl) ?_;clear hK;refine jS ?_;refine qD ?_;have HJ2:Hid (ClI w base M T f G1 cp1 a E en mp (k+1) w1 (set4 v3 M (k*4) (sOr (clsT T f a k k) (sOne a)))):=by
       have hc:Chg (fun j=>j=M) v3 (set4 v3 M (k*4) (sOr (clsT T f a k k) (sOne a))):=yBj v3 M _ _ rfl;have h1:MtrI (set4 v3 M (k*4) (sOr (clsT T f a k k) (sOne a))) base M (updE (clsT T f a k) k (sOr (clsT T f a k k) (sOne a))) G1 cp1 (a+1) E en mp:=by rw[Nat.mul_comm k 4];exact HM3.setT hlt _
       refine⟨h1.iff (fun b p hb hp=>?_) (fun _ _ _ _=>rfl) h1.new,(HJ.box.below HV.out).chg hc (by omega),(HJ.chg.trans (Chg.of_below HV.out)).trans hc⟩;unfold updE clsT;by_cases e:b=k
       ·subst e;rw[if_pos rfl];simp[sOr,sOne,HFk.out]
       ·have:decide (b<k+1)=decide (b<k):=by rw[decide_eq_decide];omega
        rw[if_neg e,this]
      simp only[set4]at HJ2;go_wp2_with fail;refine⟨⟨k+1,by omega,by go_num,HJ2⟩,?_⟩;go_light;simp[intOf];omega
     ·go_simp;refine hK.out _ _ (.inr HS0.out) ?_;clear hK;refine jS ?_;refine qO 9 rfl fun K hK=>?_;go_simp;refine(HWi.out _).mono ?_;rintro r v3 ⟨rfl,hb3⟩;have HV:Hid (Below wr.heap.size wr v3):=((Below.refl wr.heap.size wr).drew).trans hb3;have HM3:Hid (MtrI v3 base M (clsT T f a k) G1 cp1 (a+1) E en mp):=HJ.mtr.below HV.out;clear e0 e1 e2 e3 y0 y1 y2 y3;obtain⟨g0,g1,g2,g3,y0,y1,y2,y3⟩:=HM3.taken4 hlt;have HS3:Hid (v3.cell? ⟨M,k*4,none⟩=some (.int .u64 (wdN (clsT T f a k k) 0:Int))∧v3.cell? ⟨M,k*4+1,none⟩=some (.int .u64 (wdN (clsT T f a k k) 1:Int))∧v3.cell? ⟨M,k*4+2,none⟩=some (.int .u64 (wdN (clsT T f a k k) 2:Int))∧v3.cell? ⟨M,k*4+3,none⟩=some (.int .u64 (wdN (clsT T f a k k) 3:Int))):=⟨g0,g1,g2,g3⟩;refine hK.out _ _ (.inr HS3.out) ?_;clear hK hb3;refine jS ?_;refine qO 12 rfl fun K hK=>?_;go_simp;refine hK.out _ _ (.inr HS3.out) ?_;clear hK;refine jS ?_;refine qO 13 rfl fun K hK=>?_;go_simp;refine hK.out _ _ (.inl rfl) ?_;clear hK;refine jS ?_;refine qD ?_;have HJ2:Hid (ClI w base M T f G1 cp1 a E en mp (k+1) w1 (set4 v3 M (k*4) (sOr (clsT T f a k k) (sOne a)))):=by
       have hc:Chg (fun j=>j=M) v3 (set4 v3 M (k*4) (sOr (clsT T f a k k) (sOne a))):=yBj v3 M _ _ rfl;have h1:MtrI (set4 v3 M (k*4) (sOr (clsT T f a k k) (sOne a))) base M (updE (clsT T f a k) k (sOr (clsT T f a k k) (sOne a))) G1 cp1 (a+1) E en mp:=by rw[Nat.mul_comm k 4];exact HM3.setT hlt _
       refine⟨h1.iff (fun b p hb hp=>?_) (fun _ _ _ _=>rfl) h1.new,(HJ.box.below HV.out).chg hc (by omega),(HJ.chg.trans (Chg.of_below HV.out)).trans hc⟩;unfold updE clsT;by_cases e:b=k
       ·subst e;rw[if_pos rfl];simp[sOr,sOne,HFk.out]
       ·have:decide (b<k+1)=decide (b<k):=by rw[decide_eq_decide];omega
        rw[if_neg e,this]
      simp only[set4]at HJ2;go_wp2_with fail;refine⟨⟨k+1,by omega,by go_num,HJ2⟩,?_⟩;go_light;simp[intOf];omega
  ·obtain rfl:k=256:=by omega
   have zk:¬(256:Int)<256:=by omega
   have HSp:Hid (∀wx:World,Calls Tryz.prog 155 #[.int .i64 (a:Int)] wx fun e w'=>e=.returned (spV (sOne a) (sOne a))∧Below wx.heap.size wx w'):=fun wx=>yFg a ha wx;go_wp2_with fail;refine(HSp.out _).mono ?_;rintro e w5 ⟨rfl,hb5⟩;have HB5:=HJ.box.below hb5;obtain⟨r0,r1,r2,r3,r4,r5,r6,r7⟩:=HB5.c8;obtain⟨f0,f1,f2,f3,f4,f5,f6,f7⟩:=HB5.f8;have HF:Hid (LayR base M T G E en mp (lyP (.cls f) a) w (.returned (spV (sOne a) (sOne a))) (setSp w5 w.heap.size (sOne a) (sOne a))∧yA (setSp w5 w.heap.size (sOne a) (sOne a)) w.heap.size 183 8 w.heap.size (spL (sOne a) (sOne a))):=by
    have h5:=HJ.mtr.below hb5;have hc:Chg (fun k=>k=w.heap.size) w5 (setSp w5 w.heap.size (sOne a) (sOne a)):=yKg w5 _ _ _ rfl;have hG1:¬G1=w.heap.size:=fun q=>yAo h5.row HB5 (by decide) G1 rfl (by rw[q];rfl);have k0:Chg (fun k=>k=M∨k=G) w W0:=Chg.of_below HW0.2.2.1;have hx:Chg (fun k=>k=M∨k=G) w w5:=((k0.trans H1.2.1).trans (HJ.chg.mono (fun k q=>.inl q))).trans (Chg.of_below hb5);refine⟨⟨G1,cp1,rfl,⟨(h5.chg hc (by omega) hG1 (fun k q=>by omega)).iff (fun b p hb hp=>?_) (fun q p hq hp=>by simp[yA0,lyP]) (fun p hp q=>by have:=h5.new p hp q;simp[yA0,lyP,this]),?_,?_⟩⟩,HB5.setSp _ _⟩
    ·unfold yBe clsT;simp[lyP,hb]
    ·exact⟨hc.os.trans hx.os,hc.tape.trans hx.tape,hc.output.trans hx.output,Nat.le_trans hx.size hc.size,fun j hj hn=>(hc.block j (Nat.lt_of_lt_of_le hj hx.size) (by omega)).trans (hx.block j hj hn)⟩
    ·rcases H1.2.2 with q|q
     ·exact .inl q
     ·exact .inr (by omega)
   clear HB5 hb5;go_wp2_with fail;exact bodyPost_ret (v:=spV (sOne a) (sOne a)) (yEr (base:=w.heap.size) (g:=w.heap.size) rfl HF.2) rfl HF.1
def LyC (base:Nat) (w0:World) (t:Pat) (v:Value):Prop:=∀(M:Nat) (T:Nat→PS) (G cp a:Nat) (E:Nat→PS) (en:PS) (mp:Nat) (w:World),MtrI w base M T G cp a E en mp→Below base w0 w→a+wtP t≤256→
 Calls Tryz.prog 135 #[.pointer (some ⟨M,0,none⟩),v] w (LayR base M T G E en mp (lyP t a) w)
theorem yVh {S:Nat→Prop} {w5 w6:World} (hx:Chg S w w5) (hc:Chg (fun k=>w.heap.size≤k) w5 w6):Chg S w w6:=
 ⟨hc.os.trans hx.os,hc.tape.trans hx.tape,hc.output.trans hx.output,Nat.le_trans hx.size hc.size,fun j hj hn=>(hc.block j (Nat.lt_of_lt_of_le hj hx.size) (by omega)).trans (hx.block j hj hn)⟩
theorem yHx {w5:World} {G1 cp1 nx:Nat} {g:Nat} (hm:MtrI w5 base M T G1 cp1 nx E en mp) (hb:yA w5 w.heap.size 183 8 g vs) (hx:Chg (fun k=>k=M∨k=G) w w5) (F L:PS):
  MtrI (setSp w5 g F L) base M T G1 cp1 nx E en mp∧yA (setSp w5 g F L) w.heap.size 183 8 g (spL F L)∧Chg (fun k=>k=M∨k=G) w (setSp w5 g F L):=by
 have hc:Chg (fun k=>k=g) w5 (setSp w5 g F L):=yKg w5 _ _ _ rfl;have hG1:¬G1=g:=fun q=>yAo hm.row hb (by decide) G1 rfl (by rw[q];rfl);have hM1:¬M=g:=fun q=>yAo hm.box hb (by decide) M rfl (by rw[q];rfl);have h1:=hb.lt.1;refine⟨⟨hm.box.chg hc hM1,yAp hm.row hc (fun k q=>by simp[Value.ownBlock]at q;subst q;exact hG1),hm.new,hm.tab.chg hc (fun q=>?_),hm.low⟩,hb.setSp _ _,yVh hx (hc.mono (fun k q=>by omega))⟩;have h2:=hm.tab;have h3:w5.heap[g]?=some (.cells vs.toArray 183 (0,0)):=hb.heap;have h4:=h2 8 (by omega);rw[q]at h4;have h5:=hb.len;rw[World.cell?,h3]at h4;simp[List.getElem?_eq_none (show vs.length≤8 by omega)]at h4
variable {u:Value}
theorem yNr (hu:∃X c,u=.iface X (.agg c)) (H:LyC base w0 t u) (o:Bool):LyC base w0 (.rep t o true) (.iface 219 (.agg #[u,.bool o,.bool true])):=by
 intro M T G cp a E en mp w h hw0 hwt;obtain⟨ux,uc,rfl⟩:=hu;obtain⟨l,hl⟩:=qE (lyP t a);have hsp:=(yOb t a).spt;have hnx:=nx_P t a;simp only[wtP]at hwt;rw[←hl]at hsp hnx;obtain⟨W0,hW0⟩:=qE ((w.alloc (.cells zsA 183)).alloc (.cells #[.iface ux (.agg uc),.bool o,.bool true] 219):World);have HW0:Hid (yA W0 w.heap.size 183 8 w.heap.size zsA.toList∧yA W0 w.heap.size 219 3 (w.heap.size+1) [.iface ux (.agg uc),.bool o,.bool true]∧Below w.heap.size w W0∧MtrI W0 base M T G cp a E en mp):=by
  have b1:=yAa w (base:=w.heap.size) (t:=183) (sz:=8) zsA (Nat.le_refl _) rfl;have b2:=yAa (w.alloc (.cells zsA 183)) (base:=w.heap.size) (t:=219) (sz:=3) #[.iface ux (.agg uc),.bool o,.bool true] (by simp) rfl;rw[World.size_alloc]at b2;have k0:Below w.heap.size w W0:=by rw[hW0];exact(qB).alloc (by simp) _
  refine⟨?_,by rw[hW0];exact b2,k0,h.below k0⟩;rw[hW0];exact b1.below (qB)
 have hM0:=h.ltM;have hG0:=h.ltG;have hne0:=h.ne;have HL:Hid (Calls Tryz.prog 135 #[.pointer (some ⟨M,0,none⟩),.iface ux (.agg uc)] W0 (LayR base M T G E en mp l W0)):=by rw[hl];exact H M T G cp a E en mp W0 HW0.2.2.2 (hw0.trans (HW0.2.2.1.mono (by omega))) hwt
 have HSp:Hid (Spt a l∧l.nx≤256∧l=lyP t a):=⟨hsp,by omega,hl⟩;clear h H hl hsp hnx hw0;have hAs:=asRB #[.iface ux (.agg uc),.bool o,.bool true];have hAs2:=asRC #[.iface ux (.agg uc),.bool o,.bool true];have hAs3:=asRR #[.iface ux (.agg uc),.bool o,.bool true];go_enter Tryz.func135,Tryz.ntmps135;go_wp2_with fail;have hW0':=hW0;simp only[zsA]at hW0';rw[←hW0'];clear hW0 hW0' hAs hAs2 hAs3;refine HL.mono ?_;rintro e w1 ⟨G1,cp1,rfl,H1⟩;have q0:=HW0.2.2.1.size;have hS1:=H1.2.1.size;obtain⟨W2,hW2⟩:=qE (w1.alloc (.cells (spL l.fst l.lst).toArray 183):World);have k2:Below w1.heap.size w1 W2:=by rw[hW2];exact qB
 have HW2:Hid (yA W2 w.heap.size 183 8 w.heap.size zsA.toList∧yA W2 w.heap.size 219 3 (w.heap.size+1) [.iface ux (.agg uc),.bool o,.bool true]∧yA W2 w.heap.size 183 8 w1.heap.size (spL l.fst l.lst)∧MtrI W2 base M (yBe T l) G1 cp1 l.nx (yA0 E l) en mp∧Chg (fun k=>k=M∨k=G) w W2∧(G1=G∨w.heap.size≤G1)):=by
  refine⟨(HW0.1.chg H1.2.1 (by omega)).below k2,(HW0.2.1.chg H1.2.1 (by omega)).below k2,?_,H1.1.below k2,((Chg.of_below HW0.2.2.1).trans H1.2.1).trans (Chg.of_below k2),?_⟩
  ·rw[hW2];exact yAa w1 _ (by omega) rfl
  ·rcases H1.2.2 with q|q
   ·exact .inl q
   ·exact .inr (by omega)
 have b2:W2.cell? ⟨w.heap.size+1,2,none⟩=some (.bool true):=HW2.2.1.cell (j:=2) rfl;obtain⟨s0,s1,s2,s3,s4,s5,s6,s7⟩:=HW2.2.2.1.c8;obtain⟨g0,g1,g2,g3,g4,g5,g6,g7⟩:=HW2.2.2.1.f8;go_upto_region 20 with fail;have hW2':=hW2;simp only[spL]at hW2';rw[←hW2'];clear hW2 hW2';have HCo:Hid (Calls Tryz.prog 156 #[.pointer (some ⟨M,0,none⟩),psV l.lst,psV l.fst] W2 fun e w'=>(∃v,e=.returned v)∧Hid (MtrI w' base M (yBe T l) G1 cp1 l.nx (fun p q=>yA0 E l p q || (l.lst p && l.fst q)) en mp∧Chg (fun k=>k=G1) W2 w')):=yIk l.lst l.fst W2 HW2.2.2.2.1 (fun p hp=>(HSp.1.lst p hp).2) HSp.2.1;go_wp2_with fail;refine HCo.mono ?_;rintro e w5 ⟨⟨v,rfl⟩,H5⟩;have hGs:¬G1=w.heap.size:=fun q=>yAo HW2.2.2.2.1.row HW2.1 (by decide) G1 rfl (by rw[q];rfl);have hGt:¬G1=w1.heap.size:=fun q=>yAo HW2.2.2.2.1.row HW2.2.2.1 (by decide) G1 rfl (by rw[q];rfl);have HB5:=HW2.1.chg H5.2 (fun q=>hGs q.symm);have HC5:=HW2.2.2.1.chg H5.2 (fun q=>hGt q.symm);clear s0 g0;clear s1 g1;clear s2 g2;clear s3 g3;clear s4 g4;clear s5 g5;clear s6 g6;clear s7 g7;obtain⟨r0,r1,r2,r3,r4,r5,r6,r7⟩:=HB5.c8;obtain⟨f0,f1,f2,f3,f4,f5,f6,f7⟩:=HB5.f8;obtain⟨s0,s1,s2,s3,s4,s5,s6,s7⟩:=HC5.c8;obtain⟨g0,g1,g2,g3,g4,g5,g6,g7⟩:=HC5.f8;have HF:Hid (LayR base M T G E en mp (lyP (.rep t o true) a) w (.returned (spV l.fst l.lst)) (setSp w5 w.heap.size l.fst l.lst)∧yA (setSp w5 w.heap.size l.fst l.lst) w.heap.size 183 8 w.heap.size (spL l.fst l.lst)):=by
  have hx:Chg (fun k=>k=M∨k=G) w w5:=by
   have h2:=HW2.2.2.2.2.1;have h3:=H5.2;refine⟨h3.os.trans h2.os,h3.tape.trans h2.tape,h3.output.trans h2.output,Nat.le_trans h2.size h3.size,fun j hj hn=>(h3.block j (Nat.lt_of_lt_of_le hj h2.size) (fun q=>?_)).trans (h2.block j hj hn)⟩;rcases HW2.2.2.2.2.2 with z|z
   ·exact hn (.inr (by omega))
   ·omega
  obtain⟨f1,f2,f3⟩:=yHx H5.1 HB5 hx l.fst l.lst;have e1:(lyP (.rep t o true) a)=l.rep true:=by rw[HSp.2.2];rfl
  rw[e1];refine⟨⟨G1,cp1,rfl,⟨f1.iff (fun b p _ _=>rfl) (fun q p _ _=>?_) (fun p hp q=>?_),f3,HW2.2.2.2.2.2⟩⟩,f2⟩
  ·simp[yA0,Lay.rep,Bool.or_assoc]
  ·have:=f1.new p hp q;simpa [yA0,Lay.rep,Bool.or_assoc]using this
 clear HB5 HC5;exact zzQ54
theorem yMn (hu:∃X c,u=.iface X (.agg c)) (H:LyC base w0 t u) (o:Bool):LyC base w0 (.rep t o false) (.iface 219 (.agg #[u,.bool o,.bool false])):=by
 intro M T G cp a E en mp w h hw0 hwt;obtain⟨ux,uc,rfl⟩:=hu;obtain⟨l,hl⟩:=qE (lyP t a);have hsp:=(yOb t a).spt;have hnx:=nx_P t a;simp only[wtP]at hwt;rw[←hl]at hsp hnx;obtain⟨W0,hW0⟩:=qE ((w.alloc (.cells zsA 183)).alloc (.cells #[.iface ux (.agg uc),.bool o,.bool false] 219):World);have HW0:Hid (yA W0 w.heap.size 183 8 w.heap.size zsA.toList∧yA W0 w.heap.size 219 3 (w.heap.size+1) [.iface ux (.agg uc),.bool o,.bool false]∧Below w.heap.size w W0∧MtrI W0 base M T G cp a E en mp):=by
  have b1:=yAa w (base:=w.heap.size) (t:=183) (sz:=8) zsA (Nat.le_refl _) rfl;have b2:=yAa (w.alloc (.cells zsA 183)) (base:=w.heap.size) (t:=219) (sz:=3) #[.iface ux (.agg uc),.bool o,.bool false] (by simp) rfl;rw[World.size_alloc]at b2;have k0:Below w.heap.size w W0:=by rw[hW0];exact(qB).alloc (by simp) _
  refine⟨?_,by rw[hW0];exact b2,k0,h.below k0⟩;rw[hW0];exact b1.below (qB)
 have hM0:=h.ltM;have hG0:=h.ltG;have hne0:=h.ne;have HL:Hid (Calls Tryz.prog 135 #[.pointer (some ⟨M,0,none⟩),.iface ux (.agg uc)] W0 (LayR base M T G E en mp l W0)):=by rw[hl];exact H M T G cp a E en mp W0 HW0.2.2.2 (hw0.trans (HW0.2.2.1.mono (by omega))) hwt
 have HSp:Hid (Spt a l∧l.nx≤256∧l=lyP t a):=⟨hsp,by omega,hl⟩;clear h H hl hsp hnx hw0;have hAs:=asRB #[.iface ux (.agg uc),.bool o,.bool false];have hAs2:=asRC #[.iface ux (.agg uc),.bool o,.bool false];have hAs3:=asRR #[.iface ux (.agg uc),.bool o,.bool false];go_enter Tryz.func135,Tryz.ntmps135;go_wp2_with fail;have hW0':=hW0;simp only[zsA]at hW0';rw[←hW0'];clear hW0 hW0' hAs hAs2 hAs3;refine HL.mono ?_;rintro e w1 ⟨G1,cp1,rfl,H1⟩;have q0:=HW0.2.2.1.size;have hS1:=H1.2.1.size;obtain⟨W2,hW2⟩:=qE (w1.alloc (.cells (spL l.fst l.lst).toArray 183):World);have k2:Below w1.heap.size w1 W2:=by rw[hW2];exact qB
 have HW2:Hid (yA W2 w.heap.size 183 8 w.heap.size zsA.toList∧yA W2 w.heap.size 219 3 (w.heap.size+1) [.iface ux (.agg uc),.bool o,.bool false]∧yA W2 w.heap.size 183 8 w1.heap.size (spL l.fst l.lst)∧MtrI W2 base M (yBe T l) G1 cp1 l.nx (yA0 E l) en mp∧Chg (fun k=>k=M∨k=G) w W2∧(G1=G∨w.heap.size≤G1)):=by
  refine⟨(HW0.1.chg H1.2.1 (by omega)).below k2,(HW0.2.1.chg H1.2.1 (by omega)).below k2,?_,H1.1.below k2,((Chg.of_below HW0.2.2.1).trans H1.2.1).trans (Chg.of_below k2),?_⟩
  ·rw[hW2];exact yAa w1 _ (by omega) rfl
  ·rcases H1.2.2 with q|q
   ·exact .inl q
   ·exact .inr (by omega)
 have b2:W2.cell? ⟨w.heap.size+1,2,none⟩=some (.bool false):=HW2.2.1.cell (j:=2) rfl;obtain⟨s0,s1,s2,s3,s4,s5,s6,s7⟩:=HW2.2.2.1.c8;obtain⟨g0,g1,g2,g3,g4,g5,g6,g7⟩:=HW2.2.2.1.f8;go_upto_region 20 with fail;have hW2':=hW2;simp only[spL]at hW2';rw[←hW2'];clear hW2 hW2';have HB5:=HW2.1;have HC5:=HW2.2.2.1;clear s0 g0;clear s1 g1;clear s2 g2;clear s3 g3;clear s4 g4;clear s5 g5;clear s6 g6;clear s7 g7;obtain⟨r0,r1,r2,r3,r4,r5,r6,r7⟩:=HB5.c8;obtain⟨f0,f1,f2,f3,f4,f5,f6,f7⟩:=HB5.f8;obtain⟨s0,s1,s2,s3,s4,s5,s6,s7⟩:=HC5.c8;obtain⟨g0,g1,g2,g3,g4,g5,g6,g7⟩:=HC5.f8;have HF:Hid (LayR base M T G E en mp (lyP (.rep t o false) a) w (.returned (spV l.fst l.lst)) (setSp W2 w.heap.size l.fst l.lst)∧yA (setSp W2 w.heap.size l.fst l.lst) w.heap.size 183 8 w.heap.size (spL l.fst l.lst)):=by
  obtain⟨f1,f2,f3⟩:=yHx HW2.2.2.2.1 HB5 HW2.2.2.2.2.1 l.fst l.lst;have e1:(lyP (.rep t o false) a)=l.rep false:=by rw[HSp.2.2];rfl
  rw[e1];refine⟨⟨G1,cp1,rfl,⟨f1.iff (fun b p _ _=>rfl) (fun q p _ _=>?_) (fun p hp q=>?_),f3,HW2.2.2.2.2.2⟩⟩,f2⟩
  ·simp[yA0,Lay.rep]
  ·have:=f1.new p hp q;simpa [yA0,Lay.rep]using this
 clear HB5 HC5;exact zzQ54
theorem yZu (hu:∃X c,u=.iface X (.agg c)) (H:LyC base w0 t u) (o r:Bool):LyC base w0 (.rep t o r) (.iface 219 (.agg #[u,.bool o,.bool r])):=by
 cases r with
 |true=>exact yNr hu H o
 |false=>exact yMn hu H o
def NulV (w:World) (t:Pat) (v:Value):Prop:=∃(T:Nat) (c:Array Value) (f:Nat),v=.iface T (.agg c)∧
 ((T=211∧f=205)∨(T=217∧f=206)∨(T=219∧f=207)∨(T=142∧f=136))∧
 Hid (∀w',Below w.heap.size w w'→Calls Tryz.prog f #[.agg c] w' fun e w''=>e=.returned (.bool (nulB t))∧Below w'.heap.size w' w'')
theorem yWs (w:World) (b:UInt8):NulV w (.byte b) (ySy b):=by refine⟨_,_,_,rfl,.inl ⟨rfl,rfl⟩,fun w' _=>?_⟩;go_enter Tryz.func205,Tryz.ntmps205;go_wp2_with fail;go_ret;exact⟨rfl,qB⟩
theorem yZl (w:World) (f:UInt8→Bool):NulV w (.cls f) (clsV f):=by refine⟨_,_,_,rfl,.inr (.inl ⟨rfl,rfl⟩),fun w' _=>?_⟩;go_enter Tryz.func206,Tryz.ntmps206;go_wp2_with fail;go_ret;exact⟨rfl,qB⟩
theorem yZk (h:NulV w t u) (o r:Bool):NulV w (.rep t o r) (.iface 219 (.agg #[u,.bool o,.bool r])):=by
 refine⟨_,_,_,rfl,.inr (.inr (.inl ⟨rfl,rfl⟩)),fun w' hw=>?_⟩;obtain⟨T,c,f,rfl,ht,HC⟩:=h;have hb:∀o:Obj,Below w'.heap.size w' (w'.alloc o):=fun o=>qB;have HB:Hid (∀o:Obj,Below w'.heap.size w' (w'.alloc o)∧Below w.heap.size w (w'.alloc o)):=fun o=>⟨hb o,hw.trans ((hb o).mono hw.size)⟩;clear hb;cases o with
 |true=>
  go_enter Tryz.func207,Tryz.ntmps207;go_wp2_with fail;go_ret;exact⟨by simp[nulB],(HB.out _).1⟩
 |false=>
  rcases ht with⟨rfl,rfl⟩|⟨rfl,rfl⟩|⟨rfl,rfl⟩|⟨rfl,rfl⟩;all_goals go_enter Tryz.func207,Tryz.ntmps207
  all_goals go_wp2_with fail
  all_goals refine(HC.out _ (HB.out _).2).mono ?_
  all_goals rintro e w1 ⟨rfl,hb1⟩
  all_goals go_wp2_with fail
  all_goals go_ret
  all_goals exact⟨by simp[nulB],(HB.out _).1.trans (hb1.mono (HB.out _).1.size)⟩
theorem yG5:∀ts:List Pat,nulS ts=ts.all nulB
 | []=>rfl
 |t::ts=>by simp[nulS,yG5 ts]
theorem yMg:∀os:List (List Pat),nulA os=os.any nulS
 | []=>rfl
 |t::ts=>by simp[nulA,yMg ts]
def NulQ (w:World) (ts:List Pat) (u:Value):Prop:=∃(a:Option Addr) (n c:Nat),u=.slice a n c∧Hid (∀w',Below w.heap.size w w'→Calls Tryz.prog 159 #[.agg #[.slice a n c]] w' fun e w''=>e=.returned (.bool (nulS ts))∧Below w'.heap.size w' w'')
theorem yZj {lo:Nat→Prop} {ts:List Pat} (h:yOl (fun t v=>wtP t≤500→NulV w t v) w lo ts u) (hwt:wtS ts≤500):NulQ w ts u:=by
 rcases h with⟨rfl,rfl⟩|⟨g,cp,us,rfl,hul,hV,hN⟩
 ·refine⟨none,0,0,rfl,fun w' hw=>?_⟩;go_enter Tryz.func159,Tryz.ntmps159;go_wp2_with fail;go_loopw[8] (fun iv wr=>iv=.int .i64 0∧Hid (Below w'.heap.size w' wr)) (fun _ _=>0);case atStart=>exact⟨rfl,qB⟩
  case round=>obtain⟨rfl,HB⟩:=hrel;go_wp2_with fail;go_ret;exact⟨rfl,HB.out⟩
 ·refine⟨_,_,_,rfl,fun w' hw=>?_⟩;obtain⟨n,hn⟩:=qE ts.length;have hn5:n≤500:=by have:=yOq ts;omega
  have HH:Hid (n=ts.length∧us.length=n∧yCp w lo g us∧Below w.heap.size w w'∧(∀(i:Nat) x t,us[i]?=some x→ts[i]?=some t→NulV w t x)):=⟨hn,by rw[hn];exact hul,hV,hw,fun i x t hx ht=>hN i x t hx ht (Nat.le_trans (yOp (List.mem_of_getElem? ht)) hwt)⟩;rw[←hn];clear hul hV hN hw hn;go_enter Tryz.func159,Tryz.ntmps159;go_wp2_with fail;go_loopw[8] (fun iv wr=>∃k:Nat,k≤n∧iv=.int .i64 k∧Hid (Below w'.heap.size w' wr∧(ts.take k).all nulB=true)) (fun iv _=>n-(intOf iv).toNat);case atStart=>exact⟨0,Nat.zero_le _,rfl,qB,by simp⟩
  case round=>
   obtain⟨k,hk,rfl,HB⟩:=hrel;by_cases hlt:k<n
   ·have zk:(k:Int)<(n:Int):=by omega
    obtain⟨x,hx⟩:∃x,us[k]?=some x:=⟨_,List.getElem?_eq_getElem (by rw[HH.2.1];exact hlt)⟩;obtain⟨t,ht⟩:∃t,ts[k]?=some t:=⟨_,List.getElem?_eq_getElem (by rw[←HH.1];exact hlt)⟩;obtain⟨T,c,f,rfl,hT,HC⟩:=HH.2.2.2.2 k x t hx ht;have hbw:Below w.heap.size w wr:=HH.2.2.2.1.trans (HB.1.mono HH.2.2.2.1.size);have c0:wr.cell? ⟨g,k,none⟩=some (.iface T (.agg c)):=by rw[hbw.cell (p:=⟨g,k,none⟩) HH.2.2.1.lt];exact HH.2.2.1.val k _ hx
    have HX:Hid (ts[k]?=some t∧∀w2,Below wr.heap.size wr w2→Below w.heap.size w w2):=⟨ht,fun w2 h2=>hbw.trans (h2.mono hbw.size)⟩;clear hx ht hbw;cases hnb:nulB t with
    |true=>
     have HN:Hid ((ts.take (k+1)).all nulB=true):=by show _=_;rw[List.take_add_one,HX.1,List.all_append,HB.2];simp[hnb]
     rw[hnb]at HC;clear hnb;rcases hT with⟨rfl,rfl⟩|⟨rfl,rfl⟩|⟨rfl,rfl⟩|⟨rfl,rfl⟩;all_goals go_wp2_with fail
     all_goals refine(HC.out _ (HX.2 _ (Below.refl _ _))).mono ?_
     all_goals rintro e w1 ⟨rfl,hb1⟩
     all_goals go_wp2_with fail
     all_goals refine⟨⟨k+1,by omega,by go_num,HB.1.trans (hb1.mono HB.1.size),HN.out⟩,?_⟩
     all_goals go_light
     all_goals simp[intOf]
     all_goals omega
    |false=>
     have HN:Hid (nulS ts=false):=by show _=_;rw[yG5,List.all_eq_false];exact⟨t,List.mem_of_getElem? HX.1,by simp[hnb]⟩
     rw[hnb]at HC;clear hnb;rcases hT with⟨rfl,rfl⟩|⟨rfl,rfl⟩|⟨rfl,rfl⟩|⟨rfl,rfl⟩;all_goals go_wp2_with fail
     all_goals refine(HC.out _ (HX.2 _ (Below.refl _ _))).mono ?_
     all_goals rintro e w1 ⟨rfl,hb1⟩
     all_goals go_wp2_with fail
     all_goals go_ret
     all_goals exact⟨by rw[HN.out];rfl,HB.1.trans (hb1.mono HB.1.size)⟩
   ·obtain rfl:k=n:=by omega
    have zk:¬(k:Int)<(k:Int):=by omega
    go_wp2_with fail;go_ret;refine⟨?_,HB.1⟩;have:=HB.2;rw[HH.1,List.take_length]at this;rw[yG5,this];rfl
theorem yZm {lo:Nat→Prop} {os:List (List Pat)} (h:yQb (fun t v=>wtP t≤500→NulV w t v) w lo os u) (hwt:wtA os≤500):∃(a:Option Addr) (n c:Nat),u=.slice a n c∧Hid (∀w',Below w.heap.size w w'→Calls Tryz.prog 136 #[.agg #[.slice a n c]] w' fun e w''=>e=.returned (.bool (nulA os))∧Below w'.heap.size w' w''):=by
 obtain⟨g,cp,us,rfl,hul,hV,hN⟩:=h;refine⟨_,_,_,rfl,fun w' hw=>?_⟩;obtain⟨n,hn⟩:=qE os.length;have hn5:n≤500:=by have:=yOt os;omega
 have HH:Hid (n=os.length∧us.length=n∧yCp w lo g us∧Below w.heap.size w w'∧(∀(i:Nat) x t,us[i]?=some x→os[i]?=some t→NulQ w t x)):=⟨hn,by rw[hn];exact hul,hV,hw,fun i x t hx ht=>yZj (hN i x t hx ht) (Nat.le_trans (yOs (List.mem_of_getElem? ht)) hwt)⟩;rw[←hn];clear hul hV hN hw hn;go_enter Tryz.func136,Tryz.ntmps136;go_wp2_with fail;go_loopw[8] (fun iv wr=>∃k:Nat,k≤n∧iv=.int .i64 k∧Hid (Below w'.heap.size w' wr∧(os.take k).any nulS=false)) (fun iv _=>n-(intOf iv).toNat);case atStart=>exact⟨0,Nat.zero_le _,rfl,qB,by simp⟩
 case round=>
  obtain⟨k,hk,rfl,HB⟩:=hrel;by_cases hlt:k<n
  ·have zk:(k:Int)<(n:Int):=by omega
   obtain⟨x,hx⟩:∃x,us[k]?=some x:=⟨_,List.getElem?_eq_getElem (by rw[HH.2.1];exact hlt)⟩;obtain⟨t,ht⟩:∃t,os[k]?=some t:=⟨_,List.getElem?_eq_getElem (by rw[←HH.1];exact hlt)⟩;obtain⟨sa,sn,sc,rfl,HC⟩:=HH.2.2.2.2 k x t hx ht;have hbw:Below w.heap.size w wr:=HH.2.2.2.1.trans (HB.1.mono HH.2.2.2.1.size);have c0:wr.cell? ⟨g,k,none⟩=some (.slice sa sn sc):=by rw[hbw.cell (p:=⟨g,k,none⟩) HH.2.2.1.lt];exact HH.2.2.1.val k _ hx
   have HX:Hid (os[k]?=some t∧∀w2,Below wr.heap.size wr w2→Below w.heap.size w w2):=⟨ht,fun w2 h2=>hbw.trans (h2.mono hbw.size)⟩;have HAl:Hid (∀o:Obj,Below wr.heap.size wr (wr.alloc o)):=fun o=>qB;clear hx ht hbw;cases hnb:nulS t with
   |false=>
    have HN:Hid ((os.take (k+1)).any nulS=false):=by show _=_;rw[List.take_add_one,HX.1,List.any_append,HB.2];simp[hnb]
    rw[hnb]at HC;clear hnb;go_wp2_with fail;refine(HC.out _ (HX.2 _ (HAl.out _))).mono ?_;rintro e w1 ⟨rfl,hb1⟩;have HB1:Hid (Below w'.heap.size w' w1):=HB.1.trans (((HAl.out _).trans (hb1.mono (HAl.out _).size)).mono HB.1.size);clear hb1;go_wp2_with fail;refine⟨⟨k+1,by omega,by go_num,HB1.out,HN.out⟩,?_⟩;go_light;simp[intOf];omega
   |true=>
    have HN:Hid (nulA os=true):=by show _=_;rw[yMg,List.any_eq_true];exact⟨t,List.mem_of_getElem? HX.1,hnb⟩
    rw[hnb]at HC;clear hnb;go_wp2_with fail;refine(HC.out _ (HX.2 _ (HAl.out _))).mono ?_;rintro e w1 ⟨rfl,hb1⟩;have HB1:Hid (Below w'.heap.size w' w1):=HB.1.trans (((HAl.out _).trans (hb1.mono (HAl.out _).size)).mono HB.1.size);clear hb1;go_wp2_with fail;go_ret;exact⟨by rw[HN.out];rfl,HB1.out⟩
  ·obtain rfl:k=n:=by omega
   have zk:¬(k:Int)<(k:Int):=by omega
   go_wp2_with fail;go_ret;refine⟨?_,HB.1⟩;have:=HB.2;rw[HH.1,List.take_length]at this;rw[yMg,this];rfl
theorem yMf:∀(n:Nat) {w:World} {lo:Nat→Prop} {t:Pat} {v:Value},yDw n w lo t v→wtP t≤500→NulV w t v
 |0,_,_,_,_,h,_=>h.elim
 |n+1,w,lo,.byte b,v,h,_=>by rw[show v=ySy b from h];exact yWs w b
 |n+1,w,lo,.cls f,v,h,_=>by rw[show v=clsV f from h];exact yZl w f
 |n+1,w,lo,.rep t o r,v,⟨u,h1,h2⟩,hw=>by rw[h1];exact yZk (yMf n h2 (by simpa only[wtP]using hw)) o r
 |n+1,w,lo,.alt os,v,⟨u,h1,h2⟩,hw=>by
  obtain⟨a,m,c,rfl,HC⟩:=yZm (h2.mono (M:=fun t v=>wtP t≤500→NulV w t v) (fun t v q=>yMf n q) (fun _ _ q=>q)) (by simp only[wtP]at hw;omega)
  exact⟨_,_,_,h1,.inr (.inr (.inr ⟨rfl,rfl⟩)),fun w' hw=>by have:=HC.out w' hw;simpa only[nulB]using this⟩
end Go.Proofs.YtkidabedcgngcaaGreatDoor
