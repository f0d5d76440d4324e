import Derived.Test.YtgnpcenpcmdlfaaGreatDoorWkAA
import Derived.Test.YtgnpcenpcmdlfaaGreatDoorWkAB
import Derived.Test.YtgnpcenpcmdlfaaGreatDoorWkAD
import Derived.Test.YtgnpcenpcmdlfaaGreatDoorWkAC
import Derived.WalkLawsBesides
import Derived.Deep.WholeRow
namespace Go.Proofs.YtgnpcenpcmdlfaaGreatDoor
open Go.ChangeShapes Go.WideShapes Go.ChangeAt Go.RowKit Go.Deep
set_option linter.unusedVariables false
set_option linter.unusedSimpArgs false
set_option maxRecDepth 100000
structure LtJ (w:World) (vs:List Value) (g cp:Nat) (X:List UInt8) (wr:World):Prop where
 out:WrB wr (w.heap.size+1) g cp X
 box:BoxAt wr w.heap.size 65 7 w.heap.size vs
 below:Below w.heap.size w wr
theorem LtJ.move {w:World} {vs:List Value} {g cp:Nat} {X:List UInt8} {wr w':World} (h:LtJ w vs g cp X wr) (hb:Below wr.heap.size wr w'):LtJ w vs g cp X w':=
 ⟨h.out.below hb,h.box.below hb,h.below.trans (hb.mono h.below.size)⟩
theorem LtJ.app {w:World} {vs:List Value} {g cp g' cp':Nat} {X X':List UInt8} {wr w':World} (h:LtJ w vs g cp X wr) (hW:WrB w' (w.heap.size+1) g' cp' X') (hgr:wr.grownBy w' (some g)):LtJ w vs g' cp' X' w':=by
 have hle:=h.out.le
 have hC:Chg (fun k=>k=g) wr w':=Chg.of_grown hgr (fun k hk=>by cases hk;rfl)
 exact⟨hW,h.box.chg hC (by omega),Chg.below h.below hC h.below.size (fun k q=>by omega)⟩
def LtP (X:List UInt8) (w:World) (r:Ending) (w':World):Prop:=∃g cp,r=.returned (.slice (some ⟨g,0,none⟩) X.length cp)∧WrB w' w.heap.size g cp X∧Below w.heap.size w w'
theorem LtJ.done {w:World} {vs:List Value} {g cp n:Nat} {X Y:List UInt8} {wr:World} (h:LtJ w vs g cp X wr) (hn:n=X.length) (hY:Y=X):LtP Y w (.returned (.slice (some ⟨g,0,none⟩) n cp)) wr:=by
 subst hY hn
 exact⟨g,cp,rfl,h.out.mono (by omega),h.below⟩
set_option maxHeartbeats 1000000 in
theorem l5Word_1 (w:World):Calls Tryz.prog 87 #[.int .i64 1] w fun e w'=>e=.returned (.string ⟨#[112,97,115,115]⟩)∧w'=w:=by
 exact zzQ18
set_option maxHeartbeats 8000000 in
theorem l5LeafText_1 (s:ByteArray) (hi:Bool) (t:ByteArray) (lo up n:Int) (w:World) (hg:LooN ⟨1,s,hi,t,lo,up,n⟩) (hn:NumN ⟨1,s,hi,t,lo,up,n⟩):
  Calls Tryz.prog 83 #[.agg #[.int .i64 1,.string s,.bool hi,.string t,.int .u64 lo,.int .u64 up,.int .i64 n]] w (LtP (leafM ⟨1,s,hi,t,lo,up,n⟩) w):=by
 have HG:Hid (LooN ⟨1,s,hi,t,lo,up,n⟩∧NumN ⟨1,s,hi,t,lo,up,n⟩):=⟨hg,hn⟩
 have g0:s.size≤50000:=hg.1
 have g1:t.size≤50000:=hg.2.1
 obtain⟨Y,hY⟩:=qE (leafM ⟨1,s,hi,t,lo,up,n⟩)
 rw[←hY]
 have HY0:Hid (Y=leafM ⟨1,s,hi,t,lo,up,n⟩):=hY
 clear hY hg hn
 obtain⟨W0,hW0⟩:=qE (w.alloc (Obj.cells #[.int .i64 1,.string s,.bool hi,.string t,.int .u64 lo,.int .u64 up,.int .i64 n] 65):World)
 have hb0:Below w.heap.size w W0:=by rw[hW0];exact qB
 have z0:W0.heap.size=w.heap.size+1:=by rw[hW0];simp
 have HB0:Hid (BoxAt W0 w.heap.size 65 7 w.heap.size [.int .i64 1,.string s,.bool hi,.string t,.int .u64 lo,.int .u64 up,.int .i64 n]):=by
  rw[hW0];exact boxAt_new w _ (Nat.le_refl _) rfl
 have c0:=HB0.cell (j:=0) rfl
 obtain⟨W1,hW1⟩:=qE (Lib.bytesWorld W0 5 ⟨#[112,97,115,115]⟩)
 obtain⟨cp1,hcp1⟩:=qE (grownCap W0 4 0 5)
 have hcv:Sem.run Tryz.prog (convert 9 22 (.string ⟨#[112,97,115,115]⟩)) W0=.ok (.slice (some ⟨W0.heap.size,0,none⟩) 4 cp1) W1:=by
  rw[hW1,hcp1]
  exact Lib.run_convert_string_bytes (P:=Tryz.prog) W0 9 22 5 ⟨#[112,97,115,115]⟩ Tryz.underlying9 Tryz.underlying22 Tryz.underlying5
 have HJ1:Hid (LtJ w [.int .i64 1,.string s,.bool hi,.string t,.int .u64 lo,.int .u64 up,.int .i64 n] W0.heap.size cp1 [112,97,115,115] W1):=by
  have hbb:=below_bytes W0 ⟨#[112,97,115,115]⟩
  rw[←hW1]at hbb
  refine⟨?_,HB0.below hbb,hb0.trans (hbb.mono (by omega))⟩
  have h9:=(wrB_bytes W0 ⟨#[112,97,115,115]⟩ (by decide)).mono (base':=w.heap.size+1) (by omega)
  rw[←hW1]at h9
  rw[hcp1]
  exact h9
 clear hW1 hcp1 hb0
 obtain⟨G1,hG1⟩:=qE W0.heap.size
 rw[←hG1]at hcv HJ1
 obtain⟨X1,hX1⟩:∃X1:List UInt8,X1= [112,97,115,115]:=⟨_,rfl⟩
 have HX1:Hid (X1= [112,97,115,115]):=hX1
 have x1:X1.length=4:=by rw[hX1];rfl
 rw[←hX1]at HJ1
 clear hX1
 have HN1:Hid (4=X1.length):=x1.symm
 have x1':X1.length≤4:=by omega
 clear x1
 have q0:=HJ1.box.cell (j:=0) rfl
 have zs1:=HJ1.below.size
 go_enter Tryz.func83,Tryz.ntmps83
 go_upto_region 1 with fail
 rw[←hW0]
 clear hW0
 go_wp2_with fail
 refine(l5Word_1 W0).mono ?_
 exact zzQ40
set_option maxHeartbeats 1000000 in
theorem l5Word_2 (w:World):Calls Tryz.prog 87 #[.int .i64 2] w fun e w'=>e=.returned (.string ⟨#[98,108,111,99,107]⟩)∧w'=w:=by
 exact zzQ18
set_option maxHeartbeats 8000000 in
theorem l5LeafText_2 (s:ByteArray) (hi:Bool) (t:ByteArray) (lo up n:Int) (w:World) (hg:LooN ⟨2,s,hi,t,lo,up,n⟩) (hn:NumN ⟨2,s,hi,t,lo,up,n⟩):
  Calls Tryz.prog 83 #[.agg #[.int .i64 2,.string s,.bool hi,.string t,.int .u64 lo,.int .u64 up,.int .i64 n]] w (LtP (leafM ⟨2,s,hi,t,lo,up,n⟩) w):=by
 have HG:Hid (LooN ⟨2,s,hi,t,lo,up,n⟩∧NumN ⟨2,s,hi,t,lo,up,n⟩):=⟨hg,hn⟩
 have g0:s.size≤50000:=hg.1
 have g1:t.size≤50000:=hg.2.1
 obtain⟨Y,hY⟩:=qE (leafM ⟨2,s,hi,t,lo,up,n⟩)
 rw[←hY]
 have HY0:Hid (Y=leafM ⟨2,s,hi,t,lo,up,n⟩):=hY
 clear hY hg hn
 obtain⟨W0,hW0⟩:=qE (w.alloc (Obj.cells #[.int .i64 2,.string s,.bool hi,.string t,.int .u64 lo,.int .u64 up,.int .i64 n] 65):World)
 have hb0:Below w.heap.size w W0:=by rw[hW0];exact qB
 have z0:W0.heap.size=w.heap.size+1:=by rw[hW0];simp
 have HB0:Hid (BoxAt W0 w.heap.size 65 7 w.heap.size [.int .i64 2,.string s,.bool hi,.string t,.int .u64 lo,.int .u64 up,.int .i64 n]):=by
  rw[hW0];exact boxAt_new w _ (Nat.le_refl _) rfl
 have c0:=HB0.cell (j:=0) rfl
 obtain⟨W1,hW1⟩:=qE (Lib.bytesWorld W0 5 ⟨#[98,108,111,99,107]⟩)
 obtain⟨cp1,hcp1⟩:=qE (grownCap W0 5 0 5)
 have hcv:Sem.run Tryz.prog (convert 9 22 (.string ⟨#[98,108,111,99,107]⟩)) W0=.ok (.slice (some ⟨W0.heap.size,0,none⟩) 5 cp1) W1:=by
  rw[hW1,hcp1]
  exact Lib.run_convert_string_bytes (P:=Tryz.prog) W0 9 22 5 ⟨#[98,108,111,99,107]⟩ Tryz.underlying9 Tryz.underlying22 Tryz.underlying5
 have HJ1:Hid (LtJ w [.int .i64 2,.string s,.bool hi,.string t,.int .u64 lo,.int .u64 up,.int .i64 n] W0.heap.size cp1 [98,108,111,99,107] W1):=by
  have hbb:=below_bytes W0 ⟨#[98,108,111,99,107]⟩
  rw[←hW1]at hbb
  refine⟨?_,HB0.below hbb,hb0.trans (hbb.mono (by omega))⟩
  have h9:=(wrB_bytes W0 ⟨#[98,108,111,99,107]⟩ (by decide)).mono (base':=w.heap.size+1) (by omega)
  rw[←hW1]at h9
  rw[hcp1]
  exact h9
 clear hW1 hcp1 hb0
 obtain⟨G1,hG1⟩:=qE W0.heap.size
 rw[←hG1]at hcv HJ1
 obtain⟨X1,hX1⟩:∃X1:List UInt8,X1= [98,108,111,99,107]:=⟨_,rfl⟩
 have HX1:Hid (X1= [98,108,111,99,107]):=hX1
 have x1:X1.length=5:=by rw[hX1];rfl
 rw[←hX1]at HJ1
 clear hX1
 have HN1:Hid (5=X1.length):=x1.symm
 have x1':X1.length≤5:=by omega
 clear x1
 have q0:=HJ1.box.cell (j:=0) rfl
 have zs1:=HJ1.below.size
 go_enter Tryz.func83,Tryz.ntmps83
 go_upto_region 1 with fail
 rw[←hW0]
 clear hW0
 go_wp2_with fail
 refine(l5Word_2 W0).mono ?_
 exact zzQ40
set_option maxHeartbeats 1000000 in
theorem l5Word_3 (w:World):Calls Tryz.prog 87 #[.int .i64 3] w fun e w'=>e=.returned (.string ⟨#[115,116,114,105,112]⟩)∧w'=w:=by
 exact zzQ18
set_option maxHeartbeats 8000000 in
theorem l5LeafText_3 (s:ByteArray) (hi:Bool) (t:ByteArray) (lo up n:Int) (w:World) (hg:LooN ⟨3,s,hi,t,lo,up,n⟩) (hn:NumN ⟨3,s,hi,t,lo,up,n⟩):
  Calls Tryz.prog 83 #[.agg #[.int .i64 3,.string s,.bool hi,.string t,.int .u64 lo,.int .u64 up,.int .i64 n]] w (LtP (leafM ⟨3,s,hi,t,lo,up,n⟩) w):=by
 have HG:Hid (LooN ⟨3,s,hi,t,lo,up,n⟩∧NumN ⟨3,s,hi,t,lo,up,n⟩):=⟨hg,hn⟩
 have g0:s.size≤50000:=hg.1
 have g1:t.size≤50000:=hg.2.1
 obtain⟨Y,hY⟩:=qE (leafM ⟨3,s,hi,t,lo,up,n⟩)
 rw[←hY]
 have HY0:Hid (Y=leafM ⟨3,s,hi,t,lo,up,n⟩):=hY
 clear hY hg hn
 obtain⟨W0,hW0⟩:=qE (w.alloc (Obj.cells #[.int .i64 3,.string s,.bool hi,.string t,.int .u64 lo,.int .u64 up,.int .i64 n] 65):World)
 have hb0:Below w.heap.size w W0:=by rw[hW0];exact qB
 have z0:W0.heap.size=w.heap.size+1:=by rw[hW0];simp
 have HB0:Hid (BoxAt W0 w.heap.size 65 7 w.heap.size [.int .i64 3,.string s,.bool hi,.string t,.int .u64 lo,.int .u64 up,.int .i64 n]):=by
  rw[hW0];exact boxAt_new w _ (Nat.le_refl _) rfl
 have c0:=HB0.cell (j:=0) rfl
 obtain⟨W1,hW1⟩:=qE (Lib.bytesWorld W0 5 ⟨#[115,116,114,105,112]⟩)
 obtain⟨cp1,hcp1⟩:=qE (grownCap W0 5 0 5)
 have hcv:Sem.run Tryz.prog (convert 9 22 (.string ⟨#[115,116,114,105,112]⟩)) W0=.ok (.slice (some ⟨W0.heap.size,0,none⟩) 5 cp1) W1:=by
  rw[hW1,hcp1]
  exact Lib.run_convert_string_bytes (P:=Tryz.prog) W0 9 22 5 ⟨#[115,116,114,105,112]⟩ Tryz.underlying9 Tryz.underlying22 Tryz.underlying5
 have HJ1:Hid (LtJ w [.int .i64 3,.string s,.bool hi,.string t,.int .u64 lo,.int .u64 up,.int .i64 n] W0.heap.size cp1 [115,116,114,105,112] W1):=by
  have hbb:=below_bytes W0 ⟨#[115,116,114,105,112]⟩
  rw[←hW1]at hbb
  refine⟨?_,HB0.below hbb,hb0.trans (hbb.mono (by omega))⟩
  have h9:=(wrB_bytes W0 ⟨#[115,116,114,105,112]⟩ (by decide)).mono (base':=w.heap.size+1) (by omega)
  rw[←hW1]at h9
  rw[hcp1]
  exact h9
 clear hW1 hcp1 hb0
 obtain⟨G1,hG1⟩:=qE W0.heap.size
 rw[←hG1]at hcv HJ1
 obtain⟨X1,hX1⟩:∃X1:List UInt8,X1= [115,116,114,105,112]:=⟨_,rfl⟩
 have HX1:Hid (X1= [115,116,114,105,112]):=hX1
 have x1:X1.length=5:=by rw[hX1];rfl
 rw[←hX1]at HJ1
 clear hX1
 have HN1:Hid (5=X1.length):=x1.symm
 have x1':X1.length≤5:=by omega
 clear x1
 have q0:=HJ1.box.cell (j:=0) rfl
 have zs1:=HJ1.below.size
 go_enter Tryz.func83,Tryz.ntmps83
 go_upto_region 1 with fail
 rw[←hW0]
 clear hW0
 go_wp2_with fail
 refine(l5Word_3 W0).mono ?_
 exact zzQ40
set_option maxHeartbeats 1000000 in
theorem l5Word_4 (w:World):Calls Tryz.prog 87 #[.int .i64 4] w fun e w'=>e=.returned (.string ⟨#[114,111,119]⟩)∧w'=w:=by
 exact zzQ18
set_option maxHeartbeats 8000000 in
theorem l5LeafText_4 (s:ByteArray) (hi:Bool) (t:ByteArray) (lo up n:Int) (w:World) (hg:LooN ⟨4,s,hi,t,lo,up,n⟩) (hn:NumN ⟨4,s,hi,t,lo,up,n⟩):
  Calls Tryz.prog 83 #[.agg #[.int .i64 4,.string s,.bool hi,.string t,.int .u64 lo,.int .u64 up,.int .i64 n]] w (LtP (leafM ⟨4,s,hi,t,lo,up,n⟩) w):=by
 have HG:Hid (LooN ⟨4,s,hi,t,lo,up,n⟩∧NumN ⟨4,s,hi,t,lo,up,n⟩):=⟨hg,hn⟩
 have g0:s.size≤50000:=hg.1
 have g1:t.size≤50000:=hg.2.1
 obtain⟨Y,hY⟩:=qE (leafM ⟨4,s,hi,t,lo,up,n⟩)
 rw[←hY]
 have HY0:Hid (Y=leafM ⟨4,s,hi,t,lo,up,n⟩):=hY
 clear hY hg hn
 obtain⟨W0,hW0⟩:=qE (w.alloc (Obj.cells #[.int .i64 4,.string s,.bool hi,.string t,.int .u64 lo,.int .u64 up,.int .i64 n] 65):World)
 have hb0:Below w.heap.size w W0:=by rw[hW0];exact qB
 have z0:W0.heap.size=w.heap.size+1:=by rw[hW0];simp
 have HB0:Hid (BoxAt W0 w.heap.size 65 7 w.heap.size [.int .i64 4,.string s,.bool hi,.string t,.int .u64 lo,.int .u64 up,.int .i64 n]):=by
  rw[hW0];exact boxAt_new w _ (Nat.le_refl _) rfl
 have c0:=HB0.cell (j:=0) rfl
 obtain⟨W1,hW1⟩:=qE (Lib.bytesWorld W0 5 ⟨#[114,111,119]⟩)
 obtain⟨cp1,hcp1⟩:=qE (grownCap W0 3 0 5)
 have hcv:Sem.run Tryz.prog (convert 9 22 (.string ⟨#[114,111,119]⟩)) W0=.ok (.slice (some ⟨W0.heap.size,0,none⟩) 3 cp1) W1:=by
  rw[hW1,hcp1]
  exact Lib.run_convert_string_bytes (P:=Tryz.prog) W0 9 22 5 ⟨#[114,111,119]⟩ Tryz.underlying9 Tryz.underlying22 Tryz.underlying5
 have HJ1:Hid (LtJ w [.int .i64 4,.string s,.bool hi,.string t,.int .u64 lo,.int .u64 up,.int .i64 n] W0.heap.size cp1 [114,111,119] W1):=by
  have hbb:=below_bytes W0 ⟨#[114,111,119]⟩
  rw[←hW1]at hbb
  refine⟨?_,HB0.below hbb,hb0.trans (hbb.mono (by omega))⟩
  have h9:=(wrB_bytes W0 ⟨#[114,111,119]⟩ (by decide)).mono (base':=w.heap.size+1) (by omega)
  rw[←hW1]at h9
  rw[hcp1]
  exact h9
 clear hW1 hcp1 hb0
 obtain⟨G1,hG1⟩:=qE W0.heap.size
 rw[←hG1]at hcv HJ1
 obtain⟨X1,hX1⟩:∃X1:List UInt8,X1= [114,111,119]:=⟨_,rfl⟩
 have HX1:Hid (X1= [114,111,119]):=hX1
 have x1:X1.length=3:=by rw[hX1];rfl
 rw[←hX1]at HJ1
 clear hX1
 have HN1:Hid (3=X1.length):=x1.symm
 have x1':X1.length≤3:=by omega
 clear x1
 have q0:=HJ1.box.cell (j:=0) rfl
 have zs1:=HJ1.below.size
 go_enter Tryz.func83,Tryz.ntmps83
 go_upto_region 1 with fail
 rw[←hW0]
 clear hW0
 go_wp2_with fail
 refine(l5Word_4 W0).mono ?_
 rintro r w9 ⟨rfl,hw9⟩
 rw[hw9]
 clear hw9 c0 hG1 z0
 have HY:Hid (Y=X1++ [32]++quoM (bl s)):=by show _=_;rw[HY0.out,HX1.out];simp[leafM,tailM,wordA,bl]
 have hql:=quoM_len (bl s);rw[bl_len]at hql
 obtain⟨QL,hQL⟩:∃QL:List UInt8,QL=quoM (bl s):=⟨_,rfl⟩
 rw[←hQL]at HY hql
 have HQL:Hid (QL=quoM (bl s)):=hQL
 clear hQL
 have m1a:W1.cell? ⟨w.heap.size,1,none⟩=some (.string s):=HJ1.box.cell (j:=1) rfl
 have hS:(fun w':World=>w'.cell? ⟨w.heap.size,1,none⟩=some (.string s)) W1.drew:=m1a
 have HJd:Hid (LtJ w [.int .i64 4,.string s,.bool hi,.string t,.int .u64 lo,.int .u64 up,.int .i64 n] G1 cp1 X1 W1.drew):=HJ1.move ((Below.refl _ _).drew)
 have zd:W1.drew.heap.size=W1.heap.size:=by simp
 go_upto_region 7 with fail
 refine wp_region_T 7 (fun w':World=>w'.cell? ⟨w.heap.size,1,none⟩=some (.string s)) (by kernel_rfl) ?_
 refine qU 0 ?vz40 rfl ?yz40 hS ?_
 case yz40=>exact zzR1
 try simp only[qA,List.getElem_toArray,List.getElem_cons_zero,List.getElem_cons_succ]
 refine qU 3 ?vz43 rfl ?yz43 hS ?_
 case yz43=>exact zzR1
 try simp only[qA,List.getElem_toArray,List.getElem_cons_zero,List.getElem_cons_succ]
 refine qU 4 ?vz44 rfl ?yz44 hS ?_
 case yz44=>exact zzR1
 try simp only[qA,List.getElem_toArray,List.getElem_cons_zero,List.getElem_cons_succ]
 obtain⟨V1,hV1⟩:=qE ((W1.alloc (Obj.cells #[.int .u8 32] 5)).drew:World)
 have hbV:Below W1.heap.size W1 V1:=by rw[hV1];exact(qB).drew
 have HV1:Hid (LtJ w [.int .i64 4,.string s,.bool hi,.string t,.int .u64 lo,.int .u64 up,.int .i64 n] G1 cp1 X1 V1∧BysAt V1 W1.heap.size 0 [32]∧W1.heap.size<V1.heap.size):=by
  refine⟨HJ1.move hbV,?_,by rw[hV1];simp⟩
  rw[hV1];exact fun i y hy=>bys_new W1 _ [32] rfl i y hy
 have zV:=HV1.1.out.lt
 have yV:=HV1.1.out.le
 have gV:V1.cell? ⟨w.heap.size,1,none⟩=some (.string s):=HV1.1.box.cell (j:=1) rfl
 clear hbV
 refine anyT_one (i:=1) (by kernel_rfl) rfl (fun K hK=>?_)
 go_simp
 rw[←hV1]
 clear hV1
 refine hK.out _ _ (.inr gV) ?_
 clear hK
 try simp only[qA,List.getElem_toArray,List.getElem_cons_zero,List.getElem_cons_succ]
 refine anyT_one (i:=2) (by kernel_rfl) rfl (fun K hK=>?_)
 refine step_append_wr _ rfl _ _ rfl (w.heap.size+1) G1 cp1 3 W1.heap.size 0 1 1 X1 [32] rfl rfl HN1.out rfl HV1.1.out HV1.2.1 ?hlay ?hbay ?_
 case hlay=>first|omega|(show X1.length+1≤_;omega)
 case hbay=>omega
 intro g2a c2a w2a hW2 hgr2 hat2
 have HAa:Hid (LtJ w [.int .i64 4,.string s,.bool hi,.string t,.int .u64 lo,.int .u64 up,.int .i64 n] g2a c2a (X1++ [32]) w2a):=HV1.1.app hW2 hgr2
 have s2:=hgr2.size
 have ga:w2a.cell? ⟨w.heap.size,1,none⟩=some (.string s):=HAa.box.cell (j:=1) rfl
 obtain⟨X2,hX2⟩:∃X2:List UInt8,X2=X1++ [32]:=⟨_,rfl⟩
 rw[←hX2]at HAa
 have x2:X2.length=X1.length+1:=by rw[hX2,List.length_append];rfl
 have x2b:X2.length≤3+1:=by omega
 have HX2:Hid (X2=X1++ [32]):=hX2
 have HJan:Hid (3+1=X2.length):=by show _=_;rw[x2,←HN1.out]
 clear hX2 hW2 hgr2 hat2 x2
 refine hK.out _ _ (.inr ga) ?_
 clear hK
 try simp only[qA,List.getElem_toArray,List.getElem_cons_zero,List.getElem_cons_succ]
 refine anyT_one (i:=5) (by kernel_rfl) rfl (fun K hK=>?_)
 go_simp
 go_at_call 110
 refine(l5Quote_core s w2a (by omega)).mono ?_
 rintro r qwa ⟨qg,qc,rfl,hqW,hqb⟩
 rw[←HQL.out]
 have HJa:Hid (LtJ w [.int .i64 4,.string s,.bool hi,.string t,.int .u64 lo,.int .u64 up,.int .i64 n] g2a c2a X2 qwa∧WrB qwa w2a.heap.size qg qc QL∧w2a.heap.size≤qwa.heap.size):=⟨HAa.move hqb,by first|exact hqW|(rw[HQL.out];exact hqW),hqb.size⟩
 exact zzQ4
set_option maxHeartbeats 1000000 in
theorem l5Word_5 (w:World):Calls Tryz.prog 87 #[.int .i64 5] w fun e w'=>e=.returned (.string ⟨#[102,97,109]⟩)∧w'=w:=by
 exact zzQ18
set_option maxHeartbeats 8000000 in
theorem l5LeafText_5 (s:ByteArray) (hi:Bool) (t:ByteArray) (lo up n:Int) (w:World) (hg:LooN ⟨5,s,hi,t,lo,up,n⟩) (hn:NumN ⟨5,s,hi,t,lo,up,n⟩):
  Calls Tryz.prog 83 #[.agg #[.int .i64 5,.string s,.bool hi,.string t,.int .u64 lo,.int .u64 up,.int .i64 n]] w (LtP (leafM ⟨5,s,hi,t,lo,up,n⟩) w):=by
 have HG:Hid (LooN ⟨5,s,hi,t,lo,up,n⟩∧NumN ⟨5,s,hi,t,lo,up,n⟩):=⟨hg,hn⟩
 have g0:s.size≤50000:=hg.1
 have g1:t.size≤50000:=hg.2.1
 obtain⟨Y,hY⟩:=qE (leafM ⟨5,s,hi,t,lo,up,n⟩)
 rw[←hY]
 have HY0:Hid (Y=leafM ⟨5,s,hi,t,lo,up,n⟩):=hY
 clear hY hg hn
 obtain⟨W0,hW0⟩:=qE (w.alloc (Obj.cells #[.int .i64 5,.string s,.bool hi,.string t,.int .u64 lo,.int .u64 up,.int .i64 n] 65):World)
 have hb0:Below w.heap.size w W0:=by rw[hW0];exact qB
 have z0:W0.heap.size=w.heap.size+1:=by rw[hW0];simp
 have HB0:Hid (BoxAt W0 w.heap.size 65 7 w.heap.size [.int .i64 5,.string s,.bool hi,.string t,.int .u64 lo,.int .u64 up,.int .i64 n]):=by
  rw[hW0];exact boxAt_new w _ (Nat.le_refl _) rfl
 have c0:=HB0.cell (j:=0) rfl
 obtain⟨W1,hW1⟩:=qE (Lib.bytesWorld W0 5 ⟨#[102,97,109]⟩)
 obtain⟨cp1,hcp1⟩:=qE (grownCap W0 3 0 5)
 have hcv:Sem.run Tryz.prog (convert 9 22 (.string ⟨#[102,97,109]⟩)) W0=.ok (.slice (some ⟨W0.heap.size,0,none⟩) 3 cp1) W1:=by
  rw[hW1,hcp1]
  exact Lib.run_convert_string_bytes (P:=Tryz.prog) W0 9 22 5 ⟨#[102,97,109]⟩ Tryz.underlying9 Tryz.underlying22 Tryz.underlying5
 have HJ1:Hid (LtJ w [.int .i64 5,.string s,.bool hi,.string t,.int .u64 lo,.int .u64 up,.int .i64 n] W0.heap.size cp1 [102,97,109] W1):=by
  have hbb:=below_bytes W0 ⟨#[102,97,109]⟩
  rw[←hW1]at hbb
  refine⟨?_,HB0.below hbb,hb0.trans (hbb.mono (by omega))⟩
  have h9:=(wrB_bytes W0 ⟨#[102,97,109]⟩ (by decide)).mono (base':=w.heap.size+1) (by omega)
  rw[←hW1]at h9
  rw[hcp1]
  exact h9
 clear hW1 hcp1 hb0
 obtain⟨G1,hG1⟩:=qE W0.heap.size
 rw[←hG1]at hcv HJ1
 obtain⟨X1,hX1⟩:∃X1:List UInt8,X1= [102,97,109]:=⟨_,rfl⟩
 have HX1:Hid (X1= [102,97,109]):=hX1
 have x1:X1.length=3:=by rw[hX1];rfl
 rw[←hX1]at HJ1
 clear hX1
 have HN1:Hid (3=X1.length):=x1.symm
 have x1':X1.length≤3:=by omega
 clear x1
 have q0:=HJ1.box.cell (j:=0) rfl
 have zs1:=HJ1.below.size
 go_enter Tryz.func83,Tryz.ntmps83
 go_upto_region 1 with fail
 rw[←hW0]
 clear hW0
 go_wp2_with fail
 refine(l5Word_5 W0).mono ?_
 rintro r w9 ⟨rfl,hw9⟩
 rw[hw9]
 clear hw9 c0 hG1 z0
 have HY:Hid (Y=X1++ [32]++quoM (bl s)):=by show _=_;rw[HY0.out,HX1.out];simp[leafM,tailM,wordA,bl]
 have hql:=quoM_len (bl s);rw[bl_len]at hql
 obtain⟨QL,hQL⟩:∃QL:List UInt8,QL=quoM (bl s):=⟨_,rfl⟩
 rw[←hQL]at HY hql
 have HQL:Hid (QL=quoM (bl s)):=hQL
 clear hQL
 have m1a:W1.cell? ⟨w.heap.size,1,none⟩=some (.string s):=HJ1.box.cell (j:=1) rfl
 have hS:(fun w':World=>w'.cell? ⟨w.heap.size,1,none⟩=some (.string s)) W1.drew:=m1a
 have HJd:Hid (LtJ w [.int .i64 5,.string s,.bool hi,.string t,.int .u64 lo,.int .u64 up,.int .i64 n] G1 cp1 X1 W1.drew):=HJ1.move ((Below.refl _ _).drew)
 have zd:W1.drew.heap.size=W1.heap.size:=by simp
 go_upto_region 7 with fail
 refine wp_region_T 7 (fun w':World=>w'.cell? ⟨w.heap.size,1,none⟩=some (.string s)) (by kernel_rfl) ?_
 refine qU 0 ?vz50 rfl ?yz50 hS ?_
 case yz50=>exact zzR1
 try simp only[qA,List.getElem_toArray,List.getElem_cons_zero,List.getElem_cons_succ]
 refine qU 3 ?vz53 rfl ?yz53 hS ?_
 case yz53=>exact zzR1
 try simp only[qA,List.getElem_toArray,List.getElem_cons_zero,List.getElem_cons_succ]
 refine qU 4 ?vz54 rfl ?yz54 hS ?_
 case yz54=>exact zzR1
 try simp only[qA,List.getElem_toArray,List.getElem_cons_zero,List.getElem_cons_succ]
 obtain⟨V1,hV1⟩:=qE ((W1.alloc (Obj.cells #[.int .u8 32] 5)).drew:World)
 have hbV:Below W1.heap.size W1 V1:=by rw[hV1];exact(qB).drew
 have HV1:Hid (LtJ w [.int .i64 5,.string s,.bool hi,.string t,.int .u64 lo,.int .u64 up,.int .i64 n] G1 cp1 X1 V1∧BysAt V1 W1.heap.size 0 [32]∧W1.heap.size<V1.heap.size):=by
  refine⟨HJ1.move hbV,?_,by rw[hV1];simp⟩
  rw[hV1];exact fun i y hy=>bys_new W1 _ [32] rfl i y hy
 have zV:=HV1.1.out.lt
 have yV:=HV1.1.out.le
 have gV:V1.cell? ⟨w.heap.size,1,none⟩=some (.string s):=HV1.1.box.cell (j:=1) rfl
 clear hbV
 refine anyT_one (i:=1) (by kernel_rfl) rfl (fun K hK=>?_)
 go_simp
 rw[←hV1]
 clear hV1
 refine hK.out _ _ (.inr gV) ?_
 clear hK
 try simp only[qA,List.getElem_toArray,List.getElem_cons_zero,List.getElem_cons_succ]
 refine anyT_one (i:=2) (by kernel_rfl) rfl (fun K hK=>?_)
 refine step_append_wr _ rfl _ _ rfl (w.heap.size+1) G1 cp1 3 W1.heap.size 0 1 1 X1 [32] rfl rfl HN1.out rfl HV1.1.out HV1.2.1 ?hlay ?hbay ?_
 case hlay=>first|omega|(show X1.length+1≤_;omega)
 case hbay=>omega
 intro g2a c2a w2a hW2 hgr2 hat2
 have HAa:Hid (LtJ w [.int .i64 5,.string s,.bool hi,.string t,.int .u64 lo,.int .u64 up,.int .i64 n] g2a c2a (X1++ [32]) w2a):=HV1.1.app hW2 hgr2
 have s2:=hgr2.size
 have ga:w2a.cell? ⟨w.heap.size,1,none⟩=some (.string s):=HAa.box.cell (j:=1) rfl
 obtain⟨X2,hX2⟩:∃X2:List UInt8,X2=X1++ [32]:=⟨_,rfl⟩
 rw[←hX2]at HAa
 have x2:X2.length=X1.length+1:=by rw[hX2,List.length_append];rfl
 have x2b:X2.length≤3+1:=by omega
 have HX2:Hid (X2=X1++ [32]):=hX2
 have HJan:Hid (3+1=X2.length):=by show _=_;rw[x2,←HN1.out]
 clear hX2 hW2 hgr2 hat2 x2
 refine hK.out _ _ (.inr ga) ?_
 clear hK
 try simp only[qA,List.getElem_toArray,List.getElem_cons_zero,List.getElem_cons_succ]
 refine anyT_one (i:=5) (by kernel_rfl) rfl (fun K hK=>?_)
 go_simp
 go_at_call 110
 refine(l5Quote_core s w2a (by omega)).mono ?_
 rintro r qwa ⟨qg,qc,rfl,hqW,hqb⟩
 rw[←HQL.out]
 have HJa:Hid (LtJ w [.int .i64 5,.string s,.bool hi,.string t,.int .u64 lo,.int .u64 up,.int .i64 n] g2a c2a X2 qwa∧WrB qwa w2a.heap.size qg qc QL∧w2a.heap.size≤qwa.heap.size):=⟨HAa.move hqb,by first|exact hqW|(rw[HQL.out];exact hqW),hqb.size⟩
 exact zzQ4
set_option maxHeartbeats 1000000 in
theorem l5Word_6 (w:World):Calls Tryz.prog 87 #[.int .i64 6] w fun e w'=>e=.returned (.string ⟨#[113,117,97,108]⟩)∧w'=w:=by
 exact zzQ18
set_option maxHeartbeats 8000000 in
theorem l5LeafText_6 (s:ByteArray) (hi:Bool) (t:ByteArray) (lo up n:Int) (w:World) (hg:LooN ⟨6,s,hi,t,lo,up,n⟩) (hn:NumN ⟨6,s,hi,t,lo,up,n⟩):
  Calls Tryz.prog 83 #[.agg #[.int .i64 6,.string s,.bool hi,.string t,.int .u64 lo,.int .u64 up,.int .i64 n]] w (LtP (leafM ⟨6,s,hi,t,lo,up,n⟩) w):=by
 have HG:Hid (LooN ⟨6,s,hi,t,lo,up,n⟩∧NumN ⟨6,s,hi,t,lo,up,n⟩):=⟨hg,hn⟩
 have g0:s.size≤50000:=hg.1
 have g1:t.size≤50000:=hg.2.1
 obtain⟨Y,hY⟩:=qE (leafM ⟨6,s,hi,t,lo,up,n⟩)
 rw[←hY]
 have HY0:Hid (Y=leafM ⟨6,s,hi,t,lo,up,n⟩):=hY
 clear hY hg hn
 obtain⟨W0,hW0⟩:=qE (w.alloc (Obj.cells #[.int .i64 6,.string s,.bool hi,.string t,.int .u64 lo,.int .u64 up,.int .i64 n] 65):World)
 have hb0:Below w.heap.size w W0:=by rw[hW0];exact qB
 have z0:W0.heap.size=w.heap.size+1:=by rw[hW0];simp
 have HB0:Hid (BoxAt W0 w.heap.size 65 7 w.heap.size [.int .i64 6,.string s,.bool hi,.string t,.int .u64 lo,.int .u64 up,.int .i64 n]):=by
  rw[hW0];exact boxAt_new w _ (Nat.le_refl _) rfl
 have c0:=HB0.cell (j:=0) rfl
 obtain⟨W1,hW1⟩:=qE (Lib.bytesWorld W0 5 ⟨#[113,117,97,108]⟩)
 obtain⟨cp1,hcp1⟩:=qE (grownCap W0 4 0 5)
 have hcv:Sem.run Tryz.prog (convert 9 22 (.string ⟨#[113,117,97,108]⟩)) W0=.ok (.slice (some ⟨W0.heap.size,0,none⟩) 4 cp1) W1:=by
  rw[hW1,hcp1]
  exact Lib.run_convert_string_bytes (P:=Tryz.prog) W0 9 22 5 ⟨#[113,117,97,108]⟩ Tryz.underlying9 Tryz.underlying22 Tryz.underlying5
 have HJ1:Hid (LtJ w [.int .i64 6,.string s,.bool hi,.string t,.int .u64 lo,.int .u64 up,.int .i64 n] W0.heap.size cp1 [113,117,97,108] W1):=by
  have hbb:=below_bytes W0 ⟨#[113,117,97,108]⟩
  rw[←hW1]at hbb
  refine⟨?_,HB0.below hbb,hb0.trans (hbb.mono (by omega))⟩
  have h9:=(wrB_bytes W0 ⟨#[113,117,97,108]⟩ (by decide)).mono (base':=w.heap.size+1) (by omega)
  rw[←hW1]at h9
  rw[hcp1]
  exact h9
 clear hW1 hcp1 hb0
 obtain⟨G1,hG1⟩:=qE W0.heap.size
 rw[←hG1]at hcv HJ1
 obtain⟨X1,hX1⟩:∃X1:List UInt8,X1= [113,117,97,108]:=⟨_,rfl⟩
 have HX1:Hid (X1= [113,117,97,108]):=hX1
 have x1:X1.length=4:=by rw[hX1];rfl
 rw[←hX1]at HJ1
 clear hX1
 have HN1:Hid (4=X1.length):=x1.symm
 have x1':X1.length≤4:=by omega
 clear x1
 have q0:=HJ1.box.cell (j:=0) rfl
 have zs1:=HJ1.below.size
 go_enter Tryz.func83,Tryz.ntmps83
 go_upto_region 1 with fail
 rw[←hW0]
 clear hW0
 go_wp2_with fail
 refine(l5Word_6 W0).mono ?_
 rintro r w9 ⟨rfl,hw9⟩
 rw[hw9]
 clear hw9 c0 hG1 z0
 have HY:Hid (Y=X1++ [32]++quoM (bl s)):=by show _=_;rw[HY0.out,HX1.out];simp[leafM,tailM,wordA,bl]
 have hql:=quoM_len (bl s);rw[bl_len]at hql
 obtain⟨QL,hQL⟩:∃QL:List UInt8,QL=quoM (bl s):=⟨_,rfl⟩
 rw[←hQL]at HY hql
 have HQL:Hid (QL=quoM (bl s)):=hQL
 clear hQL
 have m1a:W1.cell? ⟨w.heap.size,1,none⟩=some (.string s):=HJ1.box.cell (j:=1) rfl
 have hS:(fun w':World=>w'.cell? ⟨w.heap.size,1,none⟩=some (.string s)) W1.drew:=m1a
 have HJd:Hid (LtJ w [.int .i64 6,.string s,.bool hi,.string t,.int .u64 lo,.int .u64 up,.int .i64 n] G1 cp1 X1 W1.drew):=HJ1.move ((Below.refl _ _).drew)
 have zd:W1.drew.heap.size=W1.heap.size:=by simp
 go_upto_region 7 with fail
 refine wp_region_T 7 (fun w':World=>w'.cell? ⟨w.heap.size,1,none⟩=some (.string s)) (by kernel_rfl) ?_
 refine qU 0 ?vz60 rfl ?yz60 hS ?_
 case yz60=>exact zzR1
 try simp only[qA,List.getElem_toArray,List.getElem_cons_zero,List.getElem_cons_succ]
 refine qU 3 ?vz63 rfl ?yz63 hS ?_
 case yz63=>exact zzR1
 try simp only[qA,List.getElem_toArray,List.getElem_cons_zero,List.getElem_cons_succ]
 refine qU 4 ?vz64 rfl ?yz64 hS ?_
 case yz64=>exact zzR1
 try simp only[qA,List.getElem_toArray,List.getElem_cons_zero,List.getElem_cons_succ]
 obtain⟨V1,hV1⟩:=qE ((W1.alloc (Obj.cells #[.int .u8 32] 5)).drew:World)
 have hbV:Below W1.heap.size W1 V1:=by rw[hV1];exact(qB).drew
 have HV1:Hid (LtJ w [.int .i64 6,.string s,.bool hi,.string t,.int .u64 lo,.int .u64 up,.int .i64 n] G1 cp1 X1 V1∧BysAt V1 W1.heap.size 0 [32]∧W1.heap.size<V1.heap.size):=by
  refine⟨HJ1.move hbV,?_,by rw[hV1];simp⟩
  rw[hV1];exact fun i y hy=>bys_new W1 _ [32] rfl i y hy
 have zV:=HV1.1.out.lt
 have yV:=HV1.1.out.le
 have gV:V1.cell? ⟨w.heap.size,1,none⟩=some (.string s):=HV1.1.box.cell (j:=1) rfl
 clear hbV
 refine anyT_one (i:=1) (by kernel_rfl) rfl (fun K hK=>?_)
 go_simp
 rw[←hV1]
 clear hV1
 refine hK.out _ _ (.inr gV) ?_
 clear hK
 try simp only[qA,List.getElem_toArray,List.getElem_cons_zero,List.getElem_cons_succ]
 refine anyT_one (i:=2) (by kernel_rfl) rfl (fun K hK=>?_)
 refine step_append_wr _ rfl _ _ rfl (w.heap.size+1) G1 cp1 4 W1.heap.size 0 1 1 X1 [32] rfl rfl HN1.out rfl HV1.1.out HV1.2.1 ?hlay ?hbay ?_
 case hlay=>first|omega|(show X1.length+1≤_;omega)
 case hbay=>omega
 intro g2a c2a w2a hW2 hgr2 hat2
 have HAa:Hid (LtJ w [.int .i64 6,.string s,.bool hi,.string t,.int .u64 lo,.int .u64 up,.int .i64 n] g2a c2a (X1++ [32]) w2a):=HV1.1.app hW2 hgr2
 have s2:=hgr2.size
 have ga:w2a.cell? ⟨w.heap.size,1,none⟩=some (.string s):=HAa.box.cell (j:=1) rfl
 obtain⟨X2,hX2⟩:∃X2:List UInt8,X2=X1++ [32]:=⟨_,rfl⟩
 rw[←hX2]at HAa
 have x2:X2.length=X1.length+1:=by rw[hX2,List.length_append];rfl
 have x2b:X2.length≤4+1:=by omega
 have HX2:Hid (X2=X1++ [32]):=hX2
 have HJan:Hid (4+1=X2.length):=by show _=_;rw[x2,←HN1.out]
 clear hX2 hW2 hgr2 hat2 x2
 refine hK.out _ _ (.inr ga) ?_
 clear hK
 try simp only[qA,List.getElem_toArray,List.getElem_cons_zero,List.getElem_cons_succ]
 refine anyT_one (i:=5) (by kernel_rfl) rfl (fun K hK=>?_)
 go_simp
 go_at_call 110
 refine(l5Quote_core s w2a (by omega)).mono ?_
 rintro r qwa ⟨qg,qc,rfl,hqW,hqb⟩
 rw[←HQL.out]
 have HJa:Hid (LtJ w [.int .i64 6,.string s,.bool hi,.string t,.int .u64 lo,.int .u64 up,.int .i64 n] g2a c2a X2 qwa∧WrB qwa w2a.heap.size qg qc QL∧w2a.heap.size≤qwa.heap.size):=⟨HAa.move hqb,by first|exact hqW|(rw[HQL.out];exact hqW),hqb.size⟩
 have HJax:Hid (X2=X1++ [32]):=HX2
 have gq:qwa.cell? ⟨w.heap.size,1,none⟩=some (.string s):=HJa.1.box.cell (j:=1) rfl
 clear hqb
 refine hK.out _ _ (.inr gq) ?_
 clear hK
 try simp only[qA,List.getElem_toArray,List.getElem_cons_zero,List.getElem_cons_succ]
 refine anyT_one (i:=6) (by kernel_rfl) rfl (fun K hK=>?_)
 refine step_append_wr _ rfl _ _ rfl (w.heap.size+1) g2a c2a (4+1) qg 0 QL.length qc X2 QL rfl rfl HJan.out rfl HJa.1.out HJa.2.1.at_ ?hlaz ?hbaz ?_
 case hlaz=>omega
 case hbaz=>have:=HJa.1.out.lt;have:=HJa.1.out.le;omega
 intro gza cza wza hWz hgrz hatz
 have HR:Hid (LtP Y w (.returned (.slice (some ⟨gza,0,none⟩) ((4+1)+QL.length) cza)) wza):=(HJa.1.app hWz hgrz).done (by rw[List.length_append,←HJan.out]) (by rw[HY.out,HJax.out])
 have gs:wza.cell? ⟨w.heap.size,1,none⟩=some (.string s):=(HJa.1.app hWz hgrz).box.cell (j:=1) rfl
 clear hWz hgrz hatz
 refine hK.out _ _ (.inr gs) ?_
 clear hK
 try simp only[qA,List.getElem_toArray,List.getElem_cons_zero,List.getElem_cons_succ]
 refine anyT_one (i:=7) (by kernel_rfl) rfl (fun K hK=>?_)
 exact zzQ11
set_option maxHeartbeats 1000000 in
theorem l5Word_7 (w:World):Calls Tryz.prog 87 #[.int .i64 7] w fun e w'=>e=.returned (.string ⟨#[118,97,108]⟩)∧w'=w:=by
 exact zzQ18
set_option maxHeartbeats 8000000 in
theorem l5LeafText_7 (s:ByteArray) (hi:Bool) (t:ByteArray) (lo up n:Int) (w:World) (hg:LooN ⟨7,s,hi,t,lo,up,n⟩) (hn:NumN ⟨7,s,hi,t,lo,up,n⟩):
  Calls Tryz.prog 83 #[.agg #[.int .i64 7,.string s,.bool hi,.string t,.int .u64 lo,.int .u64 up,.int .i64 n]] w (LtP (leafM ⟨7,s,hi,t,lo,up,n⟩) w):=by
 have HG:Hid (LooN ⟨7,s,hi,t,lo,up,n⟩∧NumN ⟨7,s,hi,t,lo,up,n⟩):=⟨hg,hn⟩
 have g0:s.size≤50000:=hg.1
 have g1:t.size≤50000:=hg.2.1
 obtain⟨Y,hY⟩:=qE (leafM ⟨7,s,hi,t,lo,up,n⟩)
 rw[←hY]
 have HY0:Hid (Y=leafM ⟨7,s,hi,t,lo,up,n⟩):=hY
 clear hY hg hn
 obtain⟨W0,hW0⟩:=qE (w.alloc (Obj.cells #[.int .i64 7,.string s,.bool hi,.string t,.int .u64 lo,.int .u64 up,.int .i64 n] 65):World)
 have hb0:Below w.heap.size w W0:=by rw[hW0];exact qB
 have z0:W0.heap.size=w.heap.size+1:=by rw[hW0];simp
 have HB0:Hid (BoxAt W0 w.heap.size 65 7 w.heap.size [.int .i64 7,.string s,.bool hi,.string t,.int .u64 lo,.int .u64 up,.int .i64 n]):=by
  rw[hW0];exact boxAt_new w _ (Nat.le_refl _) rfl
 have c0:=HB0.cell (j:=0) rfl
 obtain⟨W1,hW1⟩:=qE (Lib.bytesWorld W0 5 ⟨#[118,97,108]⟩)
 obtain⟨cp1,hcp1⟩:=qE (grownCap W0 3 0 5)
 have hcv:Sem.run Tryz.prog (convert 9 22 (.string ⟨#[118,97,108]⟩)) W0=.ok (.slice (some ⟨W0.heap.size,0,none⟩) 3 cp1) W1:=by
  rw[hW1,hcp1]
  exact Lib.run_convert_string_bytes (P:=Tryz.prog) W0 9 22 5 ⟨#[118,97,108]⟩ Tryz.underlying9 Tryz.underlying22 Tryz.underlying5
 have HJ1:Hid (LtJ w [.int .i64 7,.string s,.bool hi,.string t,.int .u64 lo,.int .u64 up,.int .i64 n] W0.heap.size cp1 [118,97,108] W1):=by
  have hbb:=below_bytes W0 ⟨#[118,97,108]⟩
  rw[←hW1]at hbb
  refine⟨?_,HB0.below hbb,hb0.trans (hbb.mono (by omega))⟩
  have h9:=(wrB_bytes W0 ⟨#[118,97,108]⟩ (by decide)).mono (base':=w.heap.size+1) (by omega)
  rw[←hW1]at h9
  rw[hcp1]
  exact h9
 clear hW1 hcp1 hb0
 obtain⟨G1,hG1⟩:=qE W0.heap.size
 rw[←hG1]at hcv HJ1
 obtain⟨X1,hX1⟩:∃X1:List UInt8,X1= [118,97,108]:=⟨_,rfl⟩
 have HX1:Hid (X1= [118,97,108]):=hX1
 have x1:X1.length=3:=by rw[hX1];rfl
 rw[←hX1]at HJ1
 clear hX1
 have HN1:Hid (3=X1.length):=x1.symm
 have x1':X1.length≤3:=by omega
 clear x1
 have q0:=HJ1.box.cell (j:=0) rfl
 have zs1:=HJ1.below.size
 go_enter Tryz.func83,Tryz.ntmps83
 go_upto_region 1 with fail
 rw[←hW0]
 clear hW0
 go_wp2_with fail
 refine(l5Word_7 W0).mono ?_
 rintro r w9 ⟨rfl,hw9⟩
 rw[hw9]
 clear hw9 c0 hG1 z0
 have HY:Hid (Y=X1++ [32]++quoM (bl s)):=by show _=_;rw[HY0.out,HX1.out];simp[leafM,tailM,wordA,bl]
 have hql:=quoM_len (bl s);rw[bl_len]at hql
 obtain⟨QL,hQL⟩:∃QL:List UInt8,QL=quoM (bl s):=⟨_,rfl⟩
 rw[←hQL]at HY hql
 have HQL:Hid (QL=quoM (bl s)):=hQL
 clear hQL
 have m1a:W1.cell? ⟨w.heap.size,1,none⟩=some (.string s):=HJ1.box.cell (j:=1) rfl
 have hS:(fun w':World=>w'.cell? ⟨w.heap.size,1,none⟩=some (.string s)) W1.drew:=m1a
 have HJd:Hid (LtJ w [.int .i64 7,.string s,.bool hi,.string t,.int .u64 lo,.int .u64 up,.int .i64 n] G1 cp1 X1 W1.drew):=HJ1.move ((Below.refl _ _).drew)
 have zd:W1.drew.heap.size=W1.heap.size:=by simp
 go_upto_region 7 with fail
 refine wp_region_T 7 (fun w':World=>w'.cell? ⟨w.heap.size,1,none⟩=some (.string s)) (by kernel_rfl) ?_
 refine qU 0 ?vz70 rfl ?yz70 hS ?_
 case yz70=>exact zzR1
 try simp only[qA,List.getElem_toArray,List.getElem_cons_zero,List.getElem_cons_succ]
 refine qU 3 ?vz73 rfl ?yz73 hS ?_
 case yz73=>exact zzR1
 try simp only[qA,List.getElem_toArray,List.getElem_cons_zero,List.getElem_cons_succ]
 refine qU 4 ?vz74 rfl ?yz74 hS ?_
 case yz74=>exact zzR1
 try simp only[qA,List.getElem_toArray,List.getElem_cons_zero,List.getElem_cons_succ]
 obtain⟨V1,hV1⟩:=qE ((W1.alloc (Obj.cells #[.int .u8 32] 5)).drew:World)
 have hbV:Below W1.heap.size W1 V1:=by rw[hV1];exact(qB).drew
 have HV1:Hid (LtJ w [.int .i64 7,.string s,.bool hi,.string t,.int .u64 lo,.int .u64 up,.int .i64 n] G1 cp1 X1 V1∧BysAt V1 W1.heap.size 0 [32]∧W1.heap.size<V1.heap.size):=by
  refine⟨HJ1.move hbV,?_,by rw[hV1];simp⟩
  rw[hV1];exact fun i y hy=>bys_new W1 _ [32] rfl i y hy
 have zV:=HV1.1.out.lt
 have yV:=HV1.1.out.le
 have gV:V1.cell? ⟨w.heap.size,1,none⟩=some (.string s):=HV1.1.box.cell (j:=1) rfl
 clear hbV
 refine anyT_one (i:=1) (by kernel_rfl) rfl (fun K hK=>?_)
 go_simp
 rw[←hV1]
 clear hV1
 refine hK.out _ _ (.inr gV) ?_
 clear hK
 try simp only[qA,List.getElem_toArray,List.getElem_cons_zero,List.getElem_cons_succ]
 refine anyT_one (i:=2) (by kernel_rfl) rfl (fun K hK=>?_)
 refine step_append_wr _ rfl _ _ rfl (w.heap.size+1) G1 cp1 3 W1.heap.size 0 1 1 X1 [32] rfl rfl HN1.out rfl HV1.1.out HV1.2.1 ?hlay ?hbay ?_
 case hlay=>first|omega|(show X1.length+1≤_;omega)
 case hbay=>omega
 intro g2a c2a w2a hW2 hgr2 hat2
 have HAa:Hid (LtJ w [.int .i64 7,.string s,.bool hi,.string t,.int .u64 lo,.int .u64 up,.int .i64 n] g2a c2a (X1++ [32]) w2a):=HV1.1.app hW2 hgr2
 have s2:=hgr2.size
 have ga:w2a.cell? ⟨w.heap.size,1,none⟩=some (.string s):=HAa.box.cell (j:=1) rfl
 obtain⟨X2,hX2⟩:∃X2:List UInt8,X2=X1++ [32]:=⟨_,rfl⟩
 rw[←hX2]at HAa
 have x2:X2.length=X1.length+1:=by rw[hX2,List.length_append];rfl
 have x2b:X2.length≤3+1:=by omega
 have HX2:Hid (X2=X1++ [32]):=hX2
 have HJan:Hid (3+1=X2.length):=by show _=_;rw[x2,←HN1.out]
 clear hX2 hW2 hgr2 hat2 x2
 refine hK.out _ _ (.inr ga) ?_
 clear hK
 try simp only[qA,List.getElem_toArray,List.getElem_cons_zero,List.getElem_cons_succ]
 refine anyT_one (i:=5) (by kernel_rfl) rfl (fun K hK=>?_)
 go_simp
 go_at_call 110
 refine(l5Quote_core s w2a (by omega)).mono ?_
 rintro r qwa ⟨qg,qc,rfl,hqW,hqb⟩
 rw[←HQL.out]
 have HJa:Hid (LtJ w [.int .i64 7,.string s,.bool hi,.string t,.int .u64 lo,.int .u64 up,.int .i64 n] g2a c2a X2 qwa∧WrB qwa w2a.heap.size qg qc QL∧w2a.heap.size≤qwa.heap.size):=⟨HAa.move hqb,by first|exact hqW|(rw[HQL.out];exact hqW),hqb.size⟩
 exact zzQ4
set_option maxHeartbeats 1000000 in
theorem l5Word_8 (w:World):Calls Tryz.prog 87 #[.int .i64 8] w fun e w'=>e=.returned (.string ⟨#[114,111,119,115]⟩)∧w'=w:=by
 exact zzQ18
set_option maxHeartbeats 8000000 in
theorem l5LeafText_8 (s:ByteArray) (hi:Bool) (t:ByteArray) (lo up n:Int) (w:World) (hg:LooN ⟨8,s,hi,t,lo,up,n⟩) (hn:NumN ⟨8,s,hi,t,lo,up,n⟩):
  Calls Tryz.prog 83 #[.agg #[.int .i64 8,.string s,.bool hi,.string t,.int .u64 lo,.int .u64 up,.int .i64 n]] w (LtP (leafM ⟨8,s,hi,t,lo,up,n⟩) w):=by
 have HG:Hid (LooN ⟨8,s,hi,t,lo,up,n⟩∧NumN ⟨8,s,hi,t,lo,up,n⟩):=⟨hg,hn⟩
 have g0:s.size≤50000:=hg.1
 have g1:t.size≤50000:=hg.2.1
 obtain⟨Y,hY⟩:=qE (leafM ⟨8,s,hi,t,lo,up,n⟩)
 rw[←hY]
 have HY0:Hid (Y=leafM ⟨8,s,hi,t,lo,up,n⟩):=hY
 clear hY hg hn
 obtain⟨W0,hW0⟩:=qE (w.alloc (Obj.cells #[.int .i64 8,.string s,.bool hi,.string t,.int .u64 lo,.int .u64 up,.int .i64 n] 65):World)
 have hb0:Below w.heap.size w W0:=by rw[hW0];exact qB
 have z0:W0.heap.size=w.heap.size+1:=by rw[hW0];simp
 have HB0:Hid (BoxAt W0 w.heap.size 65 7 w.heap.size [.int .i64 8,.string s,.bool hi,.string t,.int .u64 lo,.int .u64 up,.int .i64 n]):=by
  rw[hW0];exact boxAt_new w _ (Nat.le_refl _) rfl
 have c0:=HB0.cell (j:=0) rfl
 obtain⟨W1,hW1⟩:=qE (Lib.bytesWorld W0 5 ⟨#[114,111,119,115]⟩)
 obtain⟨cp1,hcp1⟩:=qE (grownCap W0 4 0 5)
 have hcv:Sem.run Tryz.prog (convert 9 22 (.string ⟨#[114,111,119,115]⟩)) W0=.ok (.slice (some ⟨W0.heap.size,0,none⟩) 4 cp1) W1:=by
  rw[hW1,hcp1]
  exact Lib.run_convert_string_bytes (P:=Tryz.prog) W0 9 22 5 ⟨#[114,111,119,115]⟩ Tryz.underlying9 Tryz.underlying22 Tryz.underlying5
 have HJ1:Hid (LtJ w [.int .i64 8,.string s,.bool hi,.string t,.int .u64 lo,.int .u64 up,.int .i64 n] W0.heap.size cp1 [114,111,119,115] W1):=by
  have hbb:=below_bytes W0 ⟨#[114,111,119,115]⟩
  rw[←hW1]at hbb
  refine⟨?_,HB0.below hbb,hb0.trans (hbb.mono (by omega))⟩
  have h9:=(wrB_bytes W0 ⟨#[114,111,119,115]⟩ (by decide)).mono (base':=w.heap.size+1) (by omega)
  rw[←hW1]at h9
  rw[hcp1]
  exact h9
 clear hW1 hcp1 hb0
 obtain⟨G1,hG1⟩:=qE W0.heap.size
 rw[←hG1]at hcv HJ1
 obtain⟨X1,hX1⟩:∃X1:List UInt8,X1= [114,111,119,115]:=⟨_,rfl⟩
 have HX1:Hid (X1= [114,111,119,115]):=hX1
 have x1:X1.length=4:=by rw[hX1];rfl
 rw[←hX1]at HJ1
 clear hX1
 have HN1:Hid (4=X1.length):=x1.symm
 have x1':X1.length≤4:=by omega
 clear x1
 have q0:=HJ1.box.cell (j:=0) rfl
 have zs1:=HJ1.below.size
 go_enter Tryz.func83,Tryz.ntmps83
 go_upto_region 1 with fail
 rw[←hW0]
 clear hW0
 go_wp2_with fail
 refine(l5Word_8 W0).mono ?_
 rintro r w9 ⟨rfl,hw9⟩
 rw[hw9]
 clear hw9 c0 hG1 z0
 have hz:lo=0∧up=0∧(hi=true→less s t)∧(hi=false→t.toList= []):=by
  obtain⟨⟨_,_,g2,g3⟩,_⟩:=HG.out
  simp only at g2 g3
  refine⟨by omega,by omega,?_,fun q=>(g2 q).1⟩
  rcases g3 with⟨q,_⟩|⟨_,_,q⟩|⟨q,_⟩|⟨q,_⟩|⟨q,_⟩
  ·omega
  ·exact q
  ·omega
  ·omega
  ·omega
 obtain⟨hlo,hup,hls,hlt⟩:=hz
 subst hlo hup
 have HLS:Hid ((hi=true→less s t)∧(hi=false→t.toList= [])):=⟨hls,hlt⟩
 clear hls hlt
 obtain⟨V1,hV1⟩:=qE (W1.alloc (Obj.cells #[.int .u8 32] 5):World)
 have hb1:Below W1.heap.size W1 V1:=by rw[hV1];exact qB
 have HV1:Hid (LtJ w [.int .i64 8,.string s,.bool hi,.string t,.int .u64 0,.int .u64 0,.int .i64 n] G1 cp1 X1 V1∧BysAt V1 W1.heap.size 0 [32]):=by
  refine⟨HJ1.move hb1,?_⟩
  rw[hV1];exact bys_new W1 _ [32] rfl
 have zV1:=HV1.1.out.lt
 have yV1:=HV1.1.out.le
 clear hb1
 go_wp2_with (at_builtin;(try rw[←hV1]);refine wpList_append_wr _ rfl _ _ rfl (w.heap.size+1) G1 cp1 4 W1.heap.size 0 1 1 X1 [32] rfl rfl HN1.out rfl HV1.1.out HV1.2 ?hl ?hb ?_)
 case hl=>first|omega|(show X1.length+1≤_;omega)
 case hb=>omega
 intro G2 cp2 W2 hW2 hgr2' hat
 have hgr2:V1.grownBy W2 (some G1):=by first|exact hgr2'|(rw[hV1];exact hgr2')
 obtain⟨X2,hX2⟩:∃X2:List UInt8,X2=X1++ [32]:=⟨_,rfl⟩
 have HX2:Hid (X2=X1++ [32]):=hX2
 have x2':X2.length≤4+1:=by rw[hX2,List.length_append];exact Nat.add_le_add_right x1' _
 have HJ2:Hid (LtJ w [.int .i64 8,.string s,.bool hi,.string t,.int .u64 0,.int .u64 0,.int .i64 n] G2 cp2 X2 W2):=HV1.1.app (by rw[hX2];exact hW2) hgr2
 have HN2:Hid (5=X2.length):=by show _=_;rw[hX2,List.length_append,←HN1.out];rfl
 clear hW2 hgr2 hat hX2
 try clear hgr2'
 try clear hV1
 try clear q0
 have e1:=HJ2.box.cell (j:=1) rfl
 by_cases hs:bl s= []
 ·have zs:(s.toList==([]:List UInt8))=true:=by rw[bl_nil.1 hs];rfl
  have zs2:s.toList= []:=bl_nil.1 hs
  have HE1:Hid (endM (bl s) 0= []):=by show _=_;unfold endM;rw[if_pos hs,if_pos rfl]
  obtain⟨V2,hV2⟩:=qE (W2.alloc (Obj.cells #[.int .u8 46,.int .u8 46] 5):World)
  have hb2:Below W2.heap.size W2 V2:=by rw[hV2];exact qB
  have HV2:Hid (LtJ w [.int .i64 8,.string s,.bool hi,.string t,.int .u64 0,.int .u64 0,.int .i64 n] G2 cp2 X2 V2∧BysAt V2 W2.heap.size 0 [46,46]):=by
   refine⟨HJ2.move hb2,?_⟩
   rw[hV2];exact bys_new W2 _ [46,46] rfl
  have zV2:=HV2.1.out.lt
  have yV2:=HV2.1.out.le
  clear hb2
  go_wp2_with (at_builtin;(try rw[←hV2]);refine wpList_append_wr _ rfl _ _ rfl (w.heap.size+1) G2 cp2 5 W2.heap.size 0 2 2 X2 [46,46] rfl rfl HN2.out rfl HV2.1.out HV2.2 ?hl ?hb ?_)
  case hl=>first|omega|(show X2.length+2≤_;omega)
  case hb=>omega
  intro G3 cp3 W3 hW3 hgr3' hat
  have hgr3:V2.grownBy W3 (some G2):=by first|exact hgr3'|(rw[hV2];exact hgr3')
  obtain⟨X3,hX3⟩:∃X3:List UInt8,X3=X2++ [46,46]:=⟨_,rfl⟩
  have HX3:Hid (X3=X2++ [46,46]):=hX3
  have x3':X3.length≤X2.length+2:=by rw[hX3,List.length_append];exact Nat.le_refl _
  have HJ3:Hid (LtJ w [.int .i64 8,.string s,.bool hi,.string t,.int .u64 0,.int .u64 0,.int .i64 n] G3 cp3 X3 W3):=HV2.1.app (by rw[hX3];exact hW3) hgr3
  have HN3:Hid (7=X3.length):=by show _=_;rw[hX3,List.length_append,←HN2.out];rfl
  clear hW3 hgr3 hat hX3
  try clear hgr3'
  try clear hV2
  try clear q0
  have eh:=HJ3.box.cell (j:=2) rfl
  cases hi
  case true=>
   have HE2:Hid (endM (bl t) 0=quoM (bl t)):=by
    show _=_
    unfold endM
    rw[if_neg (fun q=>?_)]
    have h9:=HLS.1 rfl
    have h8:=bl_nil.1 q
    unfold less at h9
    rw[h8]at h9
    exact absurd h9 (by cases s.toList<;>simp[Op.bytesLess])
   have eu1:=HJ3.box.cell (j:=3) rfl
   obtain⟨QLu1,hQLu1⟩:∃QL:List UInt8,QL=quoM (bl t):=⟨_,rfl⟩
   have HQLu1:Hid (QLu1=quoM (bl t)):=hQLu1
   have hqlu1:QLu1.length≤300000:=by
    rw[hQLu1]
    have:=quoM_len (bl t);rw[bl_len]at this;omega
   clear hQLu1
   go_wp2_with fail
   refine(l5Quote_core t W3 (by omega)).mono ?_
   rintro r Qu1 ⟨qgu1,qcu1,rfl,hqW,hqb⟩
   rw[←HQLu1.out]
   obtain⟨qlu1,hqu1⟩:∃ql,ql=QLu1.length:=⟨_,rfl⟩
   rw[←hqu1]
   have HQu1:Hid (LtJ w [.int .i64 8,.string s,.bool true,.string t,.int .u64 0,.int .u64 0,.int .i64 n] G3 cp3 X3 Qu1∧WrB Qu1 W3.heap.size qgu1 qcu1 QLu1∧qlu1=QLu1.length):=⟨HJ3.move hqb,by first|exact hqW|(rw[HQLu1.out];exact hqW),hqu1⟩
   have zqu1:=HQu1.1.out.lt
   have yqu1:=HQu1.1.out.le
   clear hqb hqW hqu1 eu1
   go_wp2_with (at_builtin;refine wpList_append_wr _ rfl _ _ rfl (w.heap.size+1) G3 cp3 7 qgu1 0 qlu1 qcu1 X3 QLu1 rfl rfl HN3.out HQu1.2.2 HQu1.1.out HQu1.2.1.at_ ?hlu1 ?hbu1 ?_)
   case hlu1=>omega
   case hbu1=>omega
   intro G4 cp4 W4 hW4 hgr4 hat
   obtain⟨X4,hX4⟩:∃X4:List UInt8,X4=X3++QLu1:=⟨_,rfl⟩
   have HX4:Hid (X4=X3++QLu1):=hX4
   have x4':X4.length≤X3.length+300000:=by rw[hX4,List.length_append];omega
   have HJ4:Hid (LtJ w [.int .i64 8,.string s,.bool true,.string t,.int .u64 0,.int .u64 0,.int .i64 n] G4 cp4 X4 W4):=HQu1.1.app (by rw[hX4];exact hW4) hgr4
   obtain⟨n4,hn4⟩:=qE X4.length
   have HN4:Hid (n4=X4.length):=hn4
   have he4:7+qlu1=n4:=by rw[hn4,hX4,List.length_append,←HN3.out,←HQu1.2.2]
   exact zzQ32
  case false=>
   have HE2:Hid (endM (bl t) 0= []):=by show _=_;unfold endM;rw[if_pos (bl_nil.2 (HLS.2 rfl)),if_pos rfl]
   exact zzQ38
 ·have zs:(s.toList==([]:List UInt8))=false:=by rw[beq_eq_false_iff_ne];exact fun q=>hs (bl_nil.2 q)
  have zs2:¬s.toList= []:=fun q=>hs (bl_nil.2 q)
  have HE1:Hid (endM (bl s) 0=quoM (bl s)):=by show _=_;unfold endM;rw[if_neg hs]
  have es1:=HJ2.box.cell (j:=1) rfl
  obtain⟨QLs1,hQLs1⟩:∃QL:List UInt8,QL=quoM (bl s):=⟨_,rfl⟩
  have HQLs1:Hid (QLs1=quoM (bl s)):=hQLs1
  have hqls1:QLs1.length≤300000:=by
   rw[hQLs1]
   have:=quoM_len (bl s);rw[bl_len]at this;omega
  clear hQLs1
  go_wp2_with fail
  refine(l5Quote_core s W2 (by omega)).mono ?_
  rintro r Qs1 ⟨qgs1,qcs1,rfl,hqW,hqb⟩
  rw[←HQLs1.out]
  obtain⟨qls1,hqs1⟩:∃ql,ql=QLs1.length:=⟨_,rfl⟩
  rw[←hqs1]
  have HQs1:Hid (LtJ w [.int .i64 8,.string s,.bool hi,.string t,.int .u64 0,.int .u64 0,.int .i64 n] G2 cp2 X2 Qs1∧WrB Qs1 W2.heap.size qgs1 qcs1 QLs1∧qls1=QLs1.length):=⟨HJ2.move hqb,by first|exact hqW|(rw[HQLs1.out];exact hqW),hqs1⟩
  have zqs1:=HQs1.1.out.lt
  have yqs1:=HQs1.1.out.le
  clear hqb hqW hqs1 es1
  go_wp2_with (at_builtin;refine wpList_append_wr _ rfl _ _ rfl (w.heap.size+1) G2 cp2 5 qgs1 0 qls1 qcs1 X2 QLs1 rfl rfl HN2.out HQs1.2.2 HQs1.1.out HQs1.2.1.at_ ?hls1 ?hbs1 ?_)
  case hls1=>omega
  case hbs1=>omega
  intro G3 cp3 W3 hW3 hgr3 hat
  obtain⟨X3,hX3⟩:∃X3:List UInt8,X3=X2++QLs1:=⟨_,rfl⟩
  have HX3:Hid (X3=X2++QLs1):=hX3
  have x3':X3.length≤X2.length+300000:=by rw[hX3,List.length_append];omega
  have HJ3:Hid (LtJ w [.int .i64 8,.string s,.bool hi,.string t,.int .u64 0,.int .u64 0,.int .i64 n] G3 cp3 X3 W3):=HQs1.1.app (by rw[hX3];exact hW3) hgr3
  obtain⟨n3,hn3⟩:=qE X3.length
  have HN3:Hid (n3=X3.length):=hn3
  have he3:5+qls1=n3:=by rw[hn3,hX3,List.length_append,←HN2.out,←HQs1.2.2]
  try rw[he3]
  clear hW3 hgr3 hat hX3 hn3 he3
  obtain⟨V3,hV3⟩:=qE (W3.alloc (Obj.cells #[.int .u8 46,.int .u8 46] 5):World)
  have hb3:Below W3.heap.size W3 V3:=by rw[hV3];exact qB
  have HV3:Hid (LtJ w [.int .i64 8,.string s,.bool hi,.string t,.int .u64 0,.int .u64 0,.int .i64 n] G3 cp3 X3 V3∧BysAt V3 W3.heap.size 0 [46,46]):=by
   refine⟨HJ3.move hb3,?_⟩
   rw[hV3];exact bys_new W3 _ [46,46] rfl
  have zV3:=HV3.1.out.lt
  have yV3:=HV3.1.out.le
  clear hb3
  go_wp2_with (at_builtin;(try rw[←hV3]);refine wpList_append_wr _ rfl _ _ rfl (w.heap.size+1) G3 cp3 n3 W3.heap.size 0 2 2 X3 [46,46] rfl rfl HN3.out rfl HV3.1.out HV3.2 ?hl ?hb ?_)
  case hl=>first|omega|(show X3.length+2≤_;omega)
  case hb=>omega
  intro G4 cp4 W4 hW4 hgr4' hat
  have hgr4:V3.grownBy W4 (some G3):=by first|exact hgr4'|(rw[hV3];exact hgr4')
  obtain⟨X4,hX4⟩:∃X4:List UInt8,X4=X3++ [46,46]:=⟨_,rfl⟩
  have HX4:Hid (X4=X3++ [46,46]):=hX4
  have x4':X4.length≤X3.length+2:=by rw[hX4,List.length_append];exact Nat.le_refl _
  have HJ4:Hid (LtJ w [.int .i64 8,.string s,.bool hi,.string t,.int .u64 0,.int .u64 0,.int .i64 n] G4 cp4 X4 W4):=HV3.1.app (by rw[hX4];exact hW4) hgr4
  obtain⟨n4,hn4⟩:=qE X4.length
  have HN4:Hid (n4=X4.length):=hn4
  have he4:n3+2=n4:=by rw[hn4,hX4,List.length_append,←HN3.out];rfl
  try rw[he4]
  clear hn4 he4
  clear hW4 hgr4 hat hX4
  try clear hgr4'
  try clear hV3
  try clear q0
  have eh:=HJ4.box.cell (j:=2) rfl
  cases hi
  case true=>
   have HE2:Hid (endM (bl t) 0=quoM (bl t)):=by
    show _=_
    unfold endM
    rw[if_neg (fun q=>?_)]
    have h9:=HLS.1 rfl
    have h8:=bl_nil.1 q
    unfold less at h9
    rw[h8]at h9
    exact absurd h9 (by cases s.toList<;>simp[Op.bytesLess])
   have eu2:=HJ4.box.cell (j:=3) rfl
   obtain⟨QLu2,hQLu2⟩:∃QL:List UInt8,QL=quoM (bl t):=⟨_,rfl⟩
   have HQLu2:Hid (QLu2=quoM (bl t)):=hQLu2
   have hqlu2:QLu2.length≤300000:=by
    rw[hQLu2]
    have:=quoM_len (bl t);rw[bl_len]at this;omega
   clear hQLu2
   go_wp2_with fail
   refine(l5Quote_core t W4 (by omega)).mono ?_
   rintro r Qu2 ⟨qgu2,qcu2,rfl,hqW,hqb⟩
   rw[←HQLu2.out]
   obtain⟨qlu2,hqu2⟩:∃ql,ql=QLu2.length:=⟨_,rfl⟩
   rw[←hqu2]
   have HQu2:Hid (LtJ w [.int .i64 8,.string s,.bool true,.string t,.int .u64 0,.int .u64 0,.int .i64 n] G4 cp4 X4 Qu2∧WrB Qu2 W4.heap.size qgu2 qcu2 QLu2∧qlu2=QLu2.length):=⟨HJ4.move hqb,by first|exact hqW|(rw[HQLu2.out];exact hqW),hqu2⟩
   have zqu2:=HQu2.1.out.lt
   have yqu2:=HQu2.1.out.le
   clear hqb hqW hqu2 eu2
   go_wp2_with (at_builtin;refine wpList_append_wr _ rfl _ _ rfl (w.heap.size+1) G4 cp4 n4 qgu2 0 qlu2 qcu2 X4 QLu2 rfl rfl HN4.out HQu2.2.2 HQu2.1.out HQu2.2.1.at_ ?hlu2 ?hbu2 ?_)
   case hlu2=>omega
   case hbu2=>omega
   intro G5 cp5 W5 hW5 hgr5 hat
   obtain⟨X5,hX5⟩:∃X5:List UInt8,X5=X4++QLu2:=⟨_,rfl⟩
   have HX5:Hid (X5=X4++QLu2):=hX5
   have x5':X5.length≤X4.length+300000:=by rw[hX5,List.length_append];omega
   have HJ5:Hid (LtJ w [.int .i64 8,.string s,.bool true,.string t,.int .u64 0,.int .u64 0,.int .i64 n] G5 cp5 X5 W5):=HQu2.1.app (by rw[hX5];exact hW5) hgr5
   exact zzQ20
  case false=>
   have HE2:Hid (endM (bl t) 0= []):=by show _=_;unfold endM;rw[if_pos (bl_nil.2 (HLS.2 rfl)),if_pos rfl]
   exact zzQ35
set_option maxHeartbeats 1000000 in
theorem l5Word_9 (w:World):Calls Tryz.prog 87 #[.int .i64 9] w fun e w'=>e=.returned (.string ⟨#[113,117,97,108,115]⟩)∧w'=w:=by
 exact zzQ18
set_option maxHeartbeats 8000000 in
theorem l5LeafText_9 (s:ByteArray) (hi:Bool) (t:ByteArray) (lo up n:Int) (w:World) (hg:LooN ⟨9,s,hi,t,lo,up,n⟩) (hn:NumN ⟨9,s,hi,t,lo,up,n⟩):
  Calls Tryz.prog 83 #[.agg #[.int .i64 9,.string s,.bool hi,.string t,.int .u64 lo,.int .u64 up,.int .i64 n]] w (LtP (leafM ⟨9,s,hi,t,lo,up,n⟩) w):=by
 have HG:Hid (LooN ⟨9,s,hi,t,lo,up,n⟩∧NumN ⟨9,s,hi,t,lo,up,n⟩):=⟨hg,hn⟩
 have g0:s.size≤50000:=hg.1
 have g1:t.size≤50000:=hg.2.1
 obtain⟨Y,hY⟩:=qE (leafM ⟨9,s,hi,t,lo,up,n⟩)
 rw[←hY]
 have HY0:Hid (Y=leafM ⟨9,s,hi,t,lo,up,n⟩):=hY
 clear hY hg hn
 obtain⟨W0,hW0⟩:=qE (w.alloc (Obj.cells #[.int .i64 9,.string s,.bool hi,.string t,.int .u64 lo,.int .u64 up,.int .i64 n] 65):World)
 have hb0:Below w.heap.size w W0:=by rw[hW0];exact qB
 have z0:W0.heap.size=w.heap.size+1:=by rw[hW0];simp
 have HB0:Hid (BoxAt W0 w.heap.size 65 7 w.heap.size [.int .i64 9,.string s,.bool hi,.string t,.int .u64 lo,.int .u64 up,.int .i64 n]):=by
  rw[hW0];exact boxAt_new w _ (Nat.le_refl _) rfl
 have c0:=HB0.cell (j:=0) rfl
 obtain⟨W1,hW1⟩:=qE (Lib.bytesWorld W0 5 ⟨#[113,117,97,108,115]⟩)
 obtain⟨cp1,hcp1⟩:=qE (grownCap W0 5 0 5)
 have hcv:Sem.run Tryz.prog (convert 9 22 (.string ⟨#[113,117,97,108,115]⟩)) W0=.ok (.slice (some ⟨W0.heap.size,0,none⟩) 5 cp1) W1:=by
  rw[hW1,hcp1]
  exact Lib.run_convert_string_bytes (P:=Tryz.prog) W0 9 22 5 ⟨#[113,117,97,108,115]⟩ Tryz.underlying9 Tryz.underlying22 Tryz.underlying5
 have HJ1:Hid (LtJ w [.int .i64 9,.string s,.bool hi,.string t,.int .u64 lo,.int .u64 up,.int .i64 n] W0.heap.size cp1 [113,117,97,108,115] W1):=by
  have hbb:=below_bytes W0 ⟨#[113,117,97,108,115]⟩
  rw[←hW1]at hbb
  refine⟨?_,HB0.below hbb,hb0.trans (hbb.mono (by omega))⟩
  have h9:=(wrB_bytes W0 ⟨#[113,117,97,108,115]⟩ (by decide)).mono (base':=w.heap.size+1) (by omega)
  rw[←hW1]at h9
  rw[hcp1]
  exact h9
 clear hW1 hcp1 hb0
 obtain⟨G1,hG1⟩:=qE W0.heap.size
 rw[←hG1]at hcv HJ1
 obtain⟨X1,hX1⟩:∃X1:List UInt8,X1= [113,117,97,108,115]:=⟨_,rfl⟩
 have HX1:Hid (X1= [113,117,97,108,115]):=hX1
 have x1:X1.length=5:=by rw[hX1];rfl
 rw[←hX1]at HJ1
 clear hX1
 have HN1:Hid (5=X1.length):=x1.symm
 have x1':X1.length≤5:=by omega
 clear x1
 have q0:=HJ1.box.cell (j:=0) rfl
 have zs1:=HJ1.below.size
 go_enter Tryz.func83,Tryz.ntmps83
 go_upto_region 1 with fail
 rw[←hW0]
 clear hW0
 go_wp2_with fail
 refine(l5Word_9 W0).mono ?_
 rintro r w9 ⟨rfl,hw9⟩
 rw[hw9]
 clear hw9 c0 hG1 z0
 have hz:lo=0∧up=0∧(hi=true→less s t)∧(hi=false→t.toList= []):=by
  obtain⟨⟨_,_,g2,g3⟩,_⟩:=HG.out
  simp only at g2 g3
  refine⟨by omega,by omega,?_,fun q=>(g2 q).1⟩
  rcases g3 with⟨q,_⟩|⟨_,_,q⟩|⟨q,_⟩|⟨q,_⟩|⟨q,_⟩
  ·omega
  ·exact q
  ·omega
  ·omega
  ·omega
 obtain⟨hlo,hup,hls,hlt⟩:=hz
 subst hlo hup
 have HLS:Hid ((hi=true→less s t)∧(hi=false→t.toList= [])):=⟨hls,hlt⟩
 clear hls hlt
 obtain⟨V1,hV1⟩:=qE (W1.alloc (Obj.cells #[.int .u8 32] 5):World)
 have hb1:Below W1.heap.size W1 V1:=by rw[hV1];exact qB
 have HV1:Hid (LtJ w [.int .i64 9,.string s,.bool hi,.string t,.int .u64 0,.int .u64 0,.int .i64 n] G1 cp1 X1 V1∧BysAt V1 W1.heap.size 0 [32]):=by
  refine⟨HJ1.move hb1,?_⟩
  rw[hV1];exact bys_new W1 _ [32] rfl
 have zV1:=HV1.1.out.lt
 have yV1:=HV1.1.out.le
 clear hb1
 go_wp2_with (at_builtin;(try rw[←hV1]);refine wpList_append_wr _ rfl _ _ rfl (w.heap.size+1) G1 cp1 5 W1.heap.size 0 1 1 X1 [32] rfl rfl HN1.out rfl HV1.1.out HV1.2 ?hl ?hb ?_)
 case hl=>first|omega|(show X1.length+1≤_;omega)
 case hb=>omega
 intro G2 cp2 W2 hW2 hgr2' hat
 have hgr2:V1.grownBy W2 (some G1):=by first|exact hgr2'|(rw[hV1];exact hgr2')
 obtain⟨X2,hX2⟩:∃X2:List UInt8,X2=X1++ [32]:=⟨_,rfl⟩
 have HX2:Hid (X2=X1++ [32]):=hX2
 have x2':X2.length≤5+1:=by rw[hX2,List.length_append];exact Nat.add_le_add_right x1' _
 have HJ2:Hid (LtJ w [.int .i64 9,.string s,.bool hi,.string t,.int .u64 0,.int .u64 0,.int .i64 n] G2 cp2 X2 W2):=HV1.1.app (by rw[hX2];exact hW2) hgr2
 have HN2:Hid (6=X2.length):=by show _=_;rw[hX2,List.length_append,←HN1.out];rfl
 clear hW2 hgr2 hat hX2
 try clear hgr2'
 try clear hV1
 try clear q0
 have e1:=HJ2.box.cell (j:=1) rfl
 by_cases hs:bl s= []
 ·have zs:(s.toList==([]:List UInt8))=true:=by rw[bl_nil.1 hs];rfl
  have zs2:s.toList= []:=bl_nil.1 hs
  have HE1:Hid (endM (bl s) 0= []):=by show _=_;unfold endM;rw[if_pos hs,if_pos rfl]
  obtain⟨V2,hV2⟩:=qE (W2.alloc (Obj.cells #[.int .u8 46,.int .u8 46] 5):World)
  have hb2:Below W2.heap.size W2 V2:=by rw[hV2];exact qB
  have HV2:Hid (LtJ w [.int .i64 9,.string s,.bool hi,.string t,.int .u64 0,.int .u64 0,.int .i64 n] G2 cp2 X2 V2∧BysAt V2 W2.heap.size 0 [46,46]):=by
   refine⟨HJ2.move hb2,?_⟩
   rw[hV2];exact bys_new W2 _ [46,46] rfl
  have zV2:=HV2.1.out.lt
  have yV2:=HV2.1.out.le
  clear hb2
  go_wp2_with (at_builtin;(try rw[←hV2]);refine wpList_append_wr _ rfl _ _ rfl (w.heap.size+1) G2 cp2 6 W2.heap.size 0 2 2 X2 [46,46] rfl rfl HN2.out rfl HV2.1.out HV2.2 ?hl ?hb ?_)
  case hl=>first|omega|(show X2.length+2≤_;omega)
  case hb=>omega
  intro G3 cp3 W3 hW3 hgr3' hat
  have hgr3:V2.grownBy W3 (some G2):=by first|exact hgr3'|(rw[hV2];exact hgr3')
  obtain⟨X3,hX3⟩:∃X3:List UInt8,X3=X2++ [46,46]:=⟨_,rfl⟩
  have HX3:Hid (X3=X2++ [46,46]):=hX3
  have x3':X3.length≤X2.length+2:=by rw[hX3,List.length_append];exact Nat.le_refl _
  have HJ3:Hid (LtJ w [.int .i64 9,.string s,.bool hi,.string t,.int .u64 0,.int .u64 0,.int .i64 n] G3 cp3 X3 W3):=HV2.1.app (by rw[hX3];exact hW3) hgr3
  have HN3:Hid (8=X3.length):=by show _=_;rw[hX3,List.length_append,←HN2.out];rfl
  clear hW3 hgr3 hat hX3
  try clear hgr3'
  try clear hV2
  try clear q0
  have eh:=HJ3.box.cell (j:=2) rfl
  cases hi
  case true=>
   have HE2:Hid (endM (bl t) 0=quoM (bl t)):=by
    show _=_
    unfold endM
    rw[if_neg (fun q=>?_)]
    have h9:=HLS.1 rfl
    have h8:=bl_nil.1 q
    unfold less at h9
    rw[h8]at h9
    exact absurd h9 (by cases s.toList<;>simp[Op.bytesLess])
   have eu1:=HJ3.box.cell (j:=3) rfl
   obtain⟨QLu1,hQLu1⟩:∃QL:List UInt8,QL=quoM (bl t):=⟨_,rfl⟩
   have HQLu1:Hid (QLu1=quoM (bl t)):=hQLu1
   have hqlu1:QLu1.length≤300000:=by
    rw[hQLu1]
    have:=quoM_len (bl t);rw[bl_len]at this;omega
   clear hQLu1
   go_wp2_with fail
   refine(l5Quote_core t W3 (by omega)).mono ?_
   rintro r Qu1 ⟨qgu1,qcu1,rfl,hqW,hqb⟩
   rw[←HQLu1.out]
   obtain⟨qlu1,hqu1⟩:∃ql,ql=QLu1.length:=⟨_,rfl⟩
   rw[←hqu1]
   have HQu1:Hid (LtJ w [.int .i64 9,.string s,.bool true,.string t,.int .u64 0,.int .u64 0,.int .i64 n] G3 cp3 X3 Qu1∧WrB Qu1 W3.heap.size qgu1 qcu1 QLu1∧qlu1=QLu1.length):=⟨HJ3.move hqb,by first|exact hqW|(rw[HQLu1.out];exact hqW),hqu1⟩
   have zqu1:=HQu1.1.out.lt
   have yqu1:=HQu1.1.out.le
   clear hqb hqW hqu1 eu1
   go_wp2_with (at_builtin;refine wpList_append_wr _ rfl _ _ rfl (w.heap.size+1) G3 cp3 8 qgu1 0 qlu1 qcu1 X3 QLu1 rfl rfl HN3.out HQu1.2.2 HQu1.1.out HQu1.2.1.at_ ?hlu1 ?hbu1 ?_)
   case hlu1=>omega
   case hbu1=>omega
   intro G4 cp4 W4 hW4 hgr4 hat
   obtain⟨X4,hX4⟩:∃X4:List UInt8,X4=X3++QLu1:=⟨_,rfl⟩
   have HX4:Hid (X4=X3++QLu1):=hX4
   have x4':X4.length≤X3.length+300000:=by rw[hX4,List.length_append];omega
   have HJ4:Hid (LtJ w [.int .i64 9,.string s,.bool true,.string t,.int .u64 0,.int .u64 0,.int .i64 n] G4 cp4 X4 W4):=HQu1.1.app (by rw[hX4];exact hW4) hgr4
   obtain⟨n4,hn4⟩:=qE X4.length
   have HN4:Hid (n4=X4.length):=hn4
   have he4:8+qlu1=n4:=by rw[hn4,hX4,List.length_append,←HN3.out,←HQu1.2.2]
   exact zzQ32
  case false=>
   have HE2:Hid (endM (bl t) 0= []):=by show _=_;unfold endM;rw[if_pos (bl_nil.2 (HLS.2 rfl)),if_pos rfl]
   exact zzQ38
 ·have zs:(s.toList==([]:List UInt8))=false:=by rw[beq_eq_false_iff_ne];exact fun q=>hs (bl_nil.2 q)
  have zs2:¬s.toList= []:=fun q=>hs (bl_nil.2 q)
  have HE1:Hid (endM (bl s) 0=quoM (bl s)):=by show _=_;unfold endM;rw[if_neg hs]
  have es1:=HJ2.box.cell (j:=1) rfl
  obtain⟨QLs1,hQLs1⟩:∃QL:List UInt8,QL=quoM (bl s):=⟨_,rfl⟩
  have HQLs1:Hid (QLs1=quoM (bl s)):=hQLs1
  have hqls1:QLs1.length≤300000:=by
   rw[hQLs1]
   have:=quoM_len (bl s);rw[bl_len]at this;omega
  clear hQLs1
  go_wp2_with fail
  refine(l5Quote_core s W2 (by omega)).mono ?_
  rintro r Qs1 ⟨qgs1,qcs1,rfl,hqW,hqb⟩
  rw[←HQLs1.out]
  obtain⟨qls1,hqs1⟩:∃ql,ql=QLs1.length:=⟨_,rfl⟩
  rw[←hqs1]
  have HQs1:Hid (LtJ w [.int .i64 9,.string s,.bool hi,.string t,.int .u64 0,.int .u64 0,.int .i64 n] G2 cp2 X2 Qs1∧WrB Qs1 W2.heap.size qgs1 qcs1 QLs1∧qls1=QLs1.length):=⟨HJ2.move hqb,by first|exact hqW|(rw[HQLs1.out];exact hqW),hqs1⟩
  have zqs1:=HQs1.1.out.lt
  have yqs1:=HQs1.1.out.le
  clear hqb hqW hqs1 es1
  go_wp2_with (at_builtin;refine wpList_append_wr _ rfl _ _ rfl (w.heap.size+1) G2 cp2 6 qgs1 0 qls1 qcs1 X2 QLs1 rfl rfl HN2.out HQs1.2.2 HQs1.1.out HQs1.2.1.at_ ?hls1 ?hbs1 ?_)
  case hls1=>omega
  case hbs1=>omega
  intro G3 cp3 W3 hW3 hgr3 hat
  obtain⟨X3,hX3⟩:∃X3:List UInt8,X3=X2++QLs1:=⟨_,rfl⟩
  have HX3:Hid (X3=X2++QLs1):=hX3
  have x3':X3.length≤X2.length+300000:=by rw[hX3,List.length_append];omega
  have HJ3:Hid (LtJ w [.int .i64 9,.string s,.bool hi,.string t,.int .u64 0,.int .u64 0,.int .i64 n] G3 cp3 X3 W3):=HQs1.1.app (by rw[hX3];exact hW3) hgr3
  obtain⟨n3,hn3⟩:=qE X3.length
  have HN3:Hid (n3=X3.length):=hn3
  have he3:6+qls1=n3:=by rw[hn3,hX3,List.length_append,←HN2.out,←HQs1.2.2]
  try rw[he3]
  clear hW3 hgr3 hat hX3 hn3 he3
  obtain⟨V3,hV3⟩:=qE (W3.alloc (Obj.cells #[.int .u8 46,.int .u8 46] 5):World)
  have hb3:Below W3.heap.size W3 V3:=by rw[hV3];exact qB
  have HV3:Hid (LtJ w [.int .i64 9,.string s,.bool hi,.string t,.int .u64 0,.int .u64 0,.int .i64 n] G3 cp3 X3 V3∧BysAt V3 W3.heap.size 0 [46,46]):=by
   refine⟨HJ3.move hb3,?_⟩
   rw[hV3];exact bys_new W3 _ [46,46] rfl
  have zV3:=HV3.1.out.lt
  have yV3:=HV3.1.out.le
  clear hb3
  go_wp2_with (at_builtin;(try rw[←hV3]);refine wpList_append_wr _ rfl _ _ rfl (w.heap.size+1) G3 cp3 n3 W3.heap.size 0 2 2 X3 [46,46] rfl rfl HN3.out rfl HV3.1.out HV3.2 ?hl ?hb ?_)
  case hl=>first|omega|(show X3.length+2≤_;omega)
  case hb=>omega
  intro G4 cp4 W4 hW4 hgr4' hat
  have hgr4:V3.grownBy W4 (some G3):=by first|exact hgr4'|(rw[hV3];exact hgr4')
  obtain⟨X4,hX4⟩:∃X4:List UInt8,X4=X3++ [46,46]:=⟨_,rfl⟩
  have HX4:Hid (X4=X3++ [46,46]):=hX4
  have x4':X4.length≤X3.length+2:=by rw[hX4,List.length_append];exact Nat.le_refl _
  have HJ4:Hid (LtJ w [.int .i64 9,.string s,.bool hi,.string t,.int .u64 0,.int .u64 0,.int .i64 n] G4 cp4 X4 W4):=HV3.1.app (by rw[hX4];exact hW4) hgr4
  obtain⟨n4,hn4⟩:=qE X4.length
  have HN4:Hid (n4=X4.length):=hn4
  have he4:n3+2=n4:=by rw[hn4,hX4,List.length_append,←HN3.out];rfl
  try rw[he4]
  clear hn4 he4
  clear hW4 hgr4 hat hX4
  try clear hgr4'
  try clear hV3
  try clear q0
  have eh:=HJ4.box.cell (j:=2) rfl
  cases hi
  case true=>
   have HE2:Hid (endM (bl t) 0=quoM (bl t)):=by
    show _=_
    unfold endM
    rw[if_neg (fun q=>?_)]
    have h9:=HLS.1 rfl
    have h8:=bl_nil.1 q
    unfold less at h9
    rw[h8]at h9
    exact absurd h9 (by cases s.toList<;>simp[Op.bytesLess])
   have eu2:=HJ4.box.cell (j:=3) rfl
   obtain⟨QLu2,hQLu2⟩:∃QL:List UInt8,QL=quoM (bl t):=⟨_,rfl⟩
   have HQLu2:Hid (QLu2=quoM (bl t)):=hQLu2
   have hqlu2:QLu2.length≤300000:=by
    rw[hQLu2]
    have:=quoM_len (bl t);rw[bl_len]at this;omega
   clear hQLu2
   go_wp2_with fail
   refine(l5Quote_core t W4 (by omega)).mono ?_
   rintro r Qu2 ⟨qgu2,qcu2,rfl,hqW,hqb⟩
   rw[←HQLu2.out]
   obtain⟨qlu2,hqu2⟩:∃ql,ql=QLu2.length:=⟨_,rfl⟩
   rw[←hqu2]
   have HQu2:Hid (LtJ w [.int .i64 9,.string s,.bool true,.string t,.int .u64 0,.int .u64 0,.int .i64 n] G4 cp4 X4 Qu2∧WrB Qu2 W4.heap.size qgu2 qcu2 QLu2∧qlu2=QLu2.length):=⟨HJ4.move hqb,by first|exact hqW|(rw[HQLu2.out];exact hqW),hqu2⟩
   have zqu2:=HQu2.1.out.lt
   have yqu2:=HQu2.1.out.le
   clear hqb hqW hqu2 eu2
   go_wp2_with (at_builtin;refine wpList_append_wr _ rfl _ _ rfl (w.heap.size+1) G4 cp4 n4 qgu2 0 qlu2 qcu2 X4 QLu2 rfl rfl HN4.out HQu2.2.2 HQu2.1.out HQu2.2.1.at_ ?hlu2 ?hbu2 ?_)
   case hlu2=>omega
   case hbu2=>omega
   intro G5 cp5 W5 hW5 hgr5 hat
   obtain⟨X5,hX5⟩:∃X5:List UInt8,X5=X4++QLu2:=⟨_,rfl⟩
   have HX5:Hid (X5=X4++QLu2):=hX5
   have x5':X5.length≤X4.length+300000:=by rw[hX5,List.length_append];omega
   have HJ5:Hid (LtJ w [.int .i64 9,.string s,.bool true,.string t,.int .u64 0,.int .u64 0,.int .i64 n] G5 cp5 X5 W5):=HQu2.1.app (by rw[hX5];exact hW5) hgr5
   exact zzQ20
  case false=>
   have HE2:Hid (endM (bl t) 0= []):=by show _=_;unfold endM;rw[if_pos (bl_nil.2 (HLS.2 rfl)),if_pos rfl]
   exact zzQ35
set_option maxHeartbeats 1000000 in
theorem l5Word_10 (w:World):Calls Tryz.prog 87 #[.int .i64 10] w fun e w'=>e=.returned (.string ⟨#[116,115]⟩)∧w'=w:=by
 exact zzQ18
set_option maxHeartbeats 8000000 in
theorem l5LeafText_10 (s:ByteArray) (hi:Bool) (t:ByteArray) (lo up n:Int) (w:World) (hg:LooN ⟨10,s,hi,t,lo,up,n⟩) (hn:NumN ⟨10,s,hi,t,lo,up,n⟩):
  Calls Tryz.prog 83 #[.agg #[.int .i64 10,.string s,.bool hi,.string t,.int .u64 lo,.int .u64 up,.int .i64 n]] w (LtP (leafM ⟨10,s,hi,t,lo,up,n⟩) w):=by
 have HG:Hid (LooN ⟨10,s,hi,t,lo,up,n⟩∧NumN ⟨10,s,hi,t,lo,up,n⟩):=⟨hg,hn⟩
 have g0:s.size≤50000:=hg.1
 have g1:t.size≤50000:=hg.2.1
 obtain⟨Y,hY⟩:=qE (leafM ⟨10,s,hi,t,lo,up,n⟩)
 rw[←hY]
 have HY0:Hid (Y=leafM ⟨10,s,hi,t,lo,up,n⟩):=hY
 clear hY hg hn
 obtain⟨W0,hW0⟩:=qE (w.alloc (Obj.cells #[.int .i64 10,.string s,.bool hi,.string t,.int .u64 lo,.int .u64 up,.int .i64 n] 65):World)
 have hb0:Below w.heap.size w W0:=by rw[hW0];exact qB
 have z0:W0.heap.size=w.heap.size+1:=by rw[hW0];simp
 have HB0:Hid (BoxAt W0 w.heap.size 65 7 w.heap.size [.int .i64 10,.string s,.bool hi,.string t,.int .u64 lo,.int .u64 up,.int .i64 n]):=by
  rw[hW0];exact boxAt_new w _ (Nat.le_refl _) rfl
 have c0:=HB0.cell (j:=0) rfl
 obtain⟨W1,hW1⟩:=qE (Lib.bytesWorld W0 5 ⟨#[116,115]⟩)
 obtain⟨cp1,hcp1⟩:=qE (grownCap W0 2 0 5)
 have hcv:Sem.run Tryz.prog (convert 9 22 (.string ⟨#[116,115]⟩)) W0=.ok (.slice (some ⟨W0.heap.size,0,none⟩) 2 cp1) W1:=by
  rw[hW1,hcp1]
  exact Lib.run_convert_string_bytes (P:=Tryz.prog) W0 9 22 5 ⟨#[116,115]⟩ Tryz.underlying9 Tryz.underlying22 Tryz.underlying5
 have HJ1:Hid (LtJ w [.int .i64 10,.string s,.bool hi,.string t,.int .u64 lo,.int .u64 up,.int .i64 n] W0.heap.size cp1 [116,115] W1):=by
  have hbb:=below_bytes W0 ⟨#[116,115]⟩
  rw[←hW1]at hbb
  refine⟨?_,HB0.below hbb,hb0.trans (hbb.mono (by omega))⟩
  have h9:=(wrB_bytes W0 ⟨#[116,115]⟩ (by decide)).mono (base':=w.heap.size+1) (by omega)
  rw[←hW1]at h9
  rw[hcp1]
  exact h9
 clear hW1 hcp1 hb0
 obtain⟨G1,hG1⟩:=qE W0.heap.size
 rw[←hG1]at hcv HJ1
 obtain⟨X1,hX1⟩:∃X1:List UInt8,X1= [116,115]:=⟨_,rfl⟩
 have HX1:Hid (X1= [116,115]):=hX1
 have x1:X1.length=2:=by rw[hX1];rfl
 rw[←hX1]at HJ1
 clear hX1
 have HN1:Hid (2=X1.length):=x1.symm
 have x1':X1.length≤2:=by omega
 clear x1
 have q0:=HJ1.box.cell (j:=0) rfl
 have zs1:=HJ1.below.size
 go_enter Tryz.func83,Tryz.ntmps83
 go_upto_region 1 with fail
 rw[←hW0]
 clear hW0
 go_wp2_with fail
 refine(l5Word_10 W0).mono ?_
 rintro r w9 ⟨rfl,hw9⟩
 rw[hw9]
 clear hw9 c0 hG1 z0
 have hz:s.toList= []∧t.toList= []∧(hi=true→lo<up)∧(hi=false→up=0):=by
  obtain⟨⟨_,_,g2,g3⟩,_⟩:=HG.out
  simp only at g2 g3
  rcases g3 with⟨q,_⟩|⟨q,_⟩|⟨_,q,q2⟩|⟨q,_⟩|⟨q,_⟩
  ·omega
  ·omega
  ·exact⟨q.1,q.2.1,q2,fun z=>(g2 z).2⟩
  ·omega
  ·omega
 have hz2:=HG.2
 obtain⟨l0,l1,u0,u1⟩:=hz2
 simp only at l0 l1 u0 u1
 obtain⟨lm,rfl⟩:=Int.eq_ofNat_of_zero_le l0
 obtain⟨um,rfl⟩:=Int.eq_ofNat_of_zero_le u0
 have HLS:Hid (bl s= []∧bl t= []∧(hi=true→(lm:Int)<um)∧(hi=false→(um:Int)=0)):=⟨bl_nil.2 hz.1,bl_nil.2 hz.2.1,hz.2.2⟩
 have lm1:lm<2^64:=by omega
 have um1:um<2^64:=by omega
 clear hz l0 l1 u0 u1
 obtain⟨V1,hV1⟩:=qE (W1.alloc (Obj.cells #[.int .u8 32] 5):World)
 have hb1:Below W1.heap.size W1 V1:=by rw[hV1];exact qB
 have HV1:Hid (LtJ w [.int .i64 10,.string s,.bool hi,.string t,.int .u64 (lm:Int),.int .u64 (um:Int),.int .i64 n] G1 cp1 X1 V1∧BysAt V1 W1.heap.size 0 [32]):=by
  refine⟨HJ1.move hb1,?_⟩
  rw[hV1];exact bys_new W1 _ [32] rfl
 have zV1:=HV1.1.out.lt
 have yV1:=HV1.1.out.le
 clear hb1
 go_wp2_with (at_builtin;(try rw[←hV1]);refine wpList_append_wr _ rfl _ _ rfl (w.heap.size+1) G1 cp1 2 W1.heap.size 0 1 1 X1 [32] rfl rfl HN1.out rfl HV1.1.out HV1.2 ?hl ?hb ?_)
 case hl=>first|omega|(show X1.length+1≤_;omega)
 case hb=>omega
 intro G2 cp2 W2 hW2 hgr2' hat
 have hgr2:V1.grownBy W2 (some G1):=by first|exact hgr2'|(rw[hV1];exact hgr2')
 obtain⟨X2,hX2⟩:∃X2:List UInt8,X2=X1++ [32]:=⟨_,rfl⟩
 have HX2:Hid (X2=X1++ [32]):=hX2
 have x2':X2.length≤2+1:=by rw[hX2,List.length_append];exact Nat.add_le_add_right x1' _
 have HJ2:Hid (LtJ w [.int .i64 10,.string s,.bool hi,.string t,.int .u64 (lm:Int),.int .u64 (um:Int),.int .i64 n] G2 cp2 X2 W2):=HV1.1.app (by rw[hX2];exact hW2) hgr2
 have HN2:Hid (3=X2.length):=by show _=_;rw[hX2,List.length_append,←HN1.out];rfl
 clear hW2 hgr2 hat hX2
 try clear hgr2'
 try clear hV1
 try clear q0
 have e1:=HJ2.box.cell (j:=4) rfl
 by_cases hs:lm=0
 ·subst hs
  have HE1:Hid (endM (bl s) ((0:Nat):Int)= []):=by show _=_;unfold endM;rw[if_pos HLS.1];rfl
  obtain⟨V2,hV2⟩:=qE (W2.alloc (Obj.cells #[.int .u8 46,.int .u8 46] 5):World)
  have hb2:Below W2.heap.size W2 V2:=by rw[hV2];exact qB
  have HV2:Hid (LtJ w [.int .i64 10,.string s,.bool hi,.string t,.int .u64 ((0:Nat):Int),.int .u64 (um:Int),.int .i64 n] G2 cp2 X2 V2∧BysAt V2 W2.heap.size 0 [46,46]):=by
   refine⟨HJ2.move hb2,?_⟩
   rw[hV2];exact bys_new W2 _ [46,46] rfl
  have zV2:=HV2.1.out.lt
  have yV2:=HV2.1.out.le
  clear hb2
  go_wp2_with (at_builtin;(try rw[←hV2]);refine wpList_append_wr _ rfl _ _ rfl (w.heap.size+1) G2 cp2 3 W2.heap.size 0 2 2 X2 [46,46] rfl rfl HN2.out rfl HV2.1.out HV2.2 ?hl ?hb ?_)
  case hl=>first|omega|(show X2.length+2≤_;omega)
  case hb=>omega
  intro G3 cp3 W3 hW3 hgr3' hat
  have hgr3:V2.grownBy W3 (some G2):=by first|exact hgr3'|(rw[hV2];exact hgr3')
  obtain⟨X3,hX3⟩:∃X3:List UInt8,X3=X2++ [46,46]:=⟨_,rfl⟩
  have HX3:Hid (X3=X2++ [46,46]):=hX3
  have x3':X3.length≤X2.length+2:=by rw[hX3,List.length_append];exact Nat.le_refl _
  have HJ3:Hid (LtJ w [.int .i64 10,.string s,.bool hi,.string t,.int .u64 ((0:Nat):Int),.int .u64 (um:Int),.int .i64 n] G3 cp3 X3 W3):=HV2.1.app (by rw[hX3];exact hW3) hgr3
  have HN3:Hid (5=X3.length):=by show _=_;rw[hX3,List.length_append,←HN2.out];rfl
  clear hW3 hgr3 hat hX3
  try clear hgr3'
  try clear hV2
  try clear q0
  have eh:=HJ3.box.cell (j:=2) rfl
  cases hi
  case true=>
   have HE2:Hid (endM (bl t) (um:Int)=Lib.decDigits um):=by
    show _=_
    have h9:=HLS.2.2.1 rfl
    unfold endM;rw[if_pos HLS.2.1,if_neg (by omega),Int.toNat_natCast]
   have eu1:=HJ3.box.cell (j:=5) rfl
   obtain⟨QLu1,hQLu1⟩:∃QL:List UInt8,QL=Lib.decDigits um:=⟨_,rfl⟩
   have HQLu1:Hid (QLu1=Lib.decDigits um):=hQLu1
   have hqlu1:QLu1.length≤300000:=by
    rw[hQLu1]
    have:=dec64_len (n:=um) (by omega);omega
   clear hQLu1
   go_wp2_with fail
   refine(l5Digits_all um W3 (by omega)).mono ?_
   rintro r Qu1 ⟨qgu1,qcu1,rfl,hqW,hqb⟩
   rw[←HQLu1.out]
   obtain⟨qlu1,hqu1⟩:∃ql,ql=QLu1.length:=⟨_,rfl⟩
   rw[←hqu1]
   have HQu1:Hid (LtJ w [.int .i64 10,.string s,.bool true,.string t,.int .u64 ((0:Nat):Int),.int .u64 (um:Int),.int .i64 n] G3 cp3 X3 Qu1∧WrB Qu1 W3.heap.size qgu1 qcu1 QLu1∧qlu1=QLu1.length):=⟨HJ3.move hqb,by first|exact hqW.wr|(rw[HQLu1.out];exact hqW.wr),hqu1⟩
   have zqu1:=HQu1.1.out.lt
   have yqu1:=HQu1.1.out.le
   clear hqb hqW hqu1 eu1
   go_wp2_with (at_builtin;refine wpList_append_wr _ rfl _ _ rfl (w.heap.size+1) G3 cp3 5 qgu1 0 qlu1 qcu1 X3 QLu1 rfl rfl HN3.out HQu1.2.2 HQu1.1.out HQu1.2.1.at_ ?hlu1 ?hbu1 ?_)
   case hlu1=>omega
   case hbu1=>omega
   intro G4 cp4 W4 hW4 hgr4 hat
   obtain⟨X4,hX4⟩:∃X4:List UInt8,X4=X3++QLu1:=⟨_,rfl⟩
   have HX4:Hid (X4=X3++QLu1):=hX4
   have x4':X4.length≤X3.length+300000:=by rw[hX4,List.length_append];omega
   have HJ4:Hid (LtJ w [.int .i64 10,.string s,.bool true,.string t,.int .u64 ((0:Nat):Int),.int .u64 (um:Int),.int .i64 n] G4 cp4 X4 W4):=HQu1.1.app (by rw[hX4];exact hW4) hgr4
   obtain⟨n4,hn4⟩:=qE X4.length
   have HN4:Hid (n4=X4.length):=hn4
   have he4:5+qlu1=n4:=by rw[hn4,hX4,List.length_append,←HN3.out,←HQu1.2.2]
   exact zzQ32
  case false=>
   have HE2:Hid (endM (bl t) (um:Int)= []):=by show _=_;unfold endM;rw[if_pos HLS.2.1,if_pos (HLS.2.2.2 rfl)]
   exact zzQ38
 ·have zs:((lm:Int)==0)=false:=by rw[beq_eq_false_iff_ne];omega
  have HE1:Hid (endM (bl s) (lm:Int)=Lib.decDigits lm):=by show _=_;unfold endM;rw[if_pos HLS.1,if_neg (by omega),Int.toNat_natCast]
  have es1:=HJ2.box.cell (j:=4) rfl
  obtain⟨QLs1,hQLs1⟩:∃QL:List UInt8,QL=Lib.decDigits lm:=⟨_,rfl⟩
  have HQLs1:Hid (QLs1=Lib.decDigits lm):=hQLs1
  have hqls1:QLs1.length≤300000:=by
   rw[hQLs1]
   have:=dec64_len (n:=lm) (by omega);omega
  clear hQLs1
  go_wp2_with fail
  refine(l5Digits_all lm W2 (by omega)).mono ?_
  rintro r Qs1 ⟨qgs1,qcs1,rfl,hqW,hqb⟩
  rw[←HQLs1.out]
  obtain⟨qls1,hqs1⟩:∃ql,ql=QLs1.length:=⟨_,rfl⟩
  rw[←hqs1]
  have HQs1:Hid (LtJ w [.int .i64 10,.string s,.bool hi,.string t,.int .u64 (lm:Int),.int .u64 (um:Int),.int .i64 n] G2 cp2 X2 Qs1∧WrB Qs1 W2.heap.size qgs1 qcs1 QLs1∧qls1=QLs1.length):=⟨HJ2.move hqb,by first|exact hqW.wr|(rw[HQLs1.out];exact hqW.wr),hqs1⟩
  have zqs1:=HQs1.1.out.lt
  have yqs1:=HQs1.1.out.le
  clear hqb hqW hqs1 es1
  go_wp2_with (at_builtin;refine wpList_append_wr _ rfl _ _ rfl (w.heap.size+1) G2 cp2 3 qgs1 0 qls1 qcs1 X2 QLs1 rfl rfl HN2.out HQs1.2.2 HQs1.1.out HQs1.2.1.at_ ?hls1 ?hbs1 ?_)
  case hls1=>omega
  case hbs1=>omega
  intro G3 cp3 W3 hW3 hgr3 hat
  obtain⟨X3,hX3⟩:∃X3:List UInt8,X3=X2++QLs1:=⟨_,rfl⟩
  have HX3:Hid (X3=X2++QLs1):=hX3
  have x3':X3.length≤X2.length+300000:=by rw[hX3,List.length_append];omega
  have HJ3:Hid (LtJ w [.int .i64 10,.string s,.bool hi,.string t,.int .u64 (lm:Int),.int .u64 (um:Int),.int .i64 n] G3 cp3 X3 W3):=HQs1.1.app (by rw[hX3];exact hW3) hgr3
  obtain⟨n3,hn3⟩:=qE X3.length
  have HN3:Hid (n3=X3.length):=hn3
  have he3:3+qls1=n3:=by rw[hn3,hX3,List.length_append,←HN2.out,←HQs1.2.2]
  try rw[he3]
  clear hW3 hgr3 hat hX3 hn3 he3
  obtain⟨V3,hV3⟩:=qE (W3.alloc (Obj.cells #[.int .u8 46,.int .u8 46] 5):World)
  have hb3:Below W3.heap.size W3 V3:=by rw[hV3];exact qB
  have HV3:Hid (LtJ w [.int .i64 10,.string s,.bool hi,.string t,.int .u64 (lm:Int),.int .u64 (um:Int),.int .i64 n] G3 cp3 X3 V3∧BysAt V3 W3.heap.size 0 [46,46]):=by
   refine⟨HJ3.move hb3,?_⟩
   rw[hV3];exact bys_new W3 _ [46,46] rfl
  have zV3:=HV3.1.out.lt
  have yV3:=HV3.1.out.le
  clear hb3
  go_wp2_with (at_builtin;(try rw[←hV3]);refine wpList_append_wr _ rfl _ _ rfl (w.heap.size+1) G3 cp3 n3 W3.heap.size 0 2 2 X3 [46,46] rfl rfl HN3.out rfl HV3.1.out HV3.2 ?hl ?hb ?_)
  case hl=>first|omega|(show X3.length+2≤_;omega)
  case hb=>omega
  intro G4 cp4 W4 hW4 hgr4' hat
  have hgr4:V3.grownBy W4 (some G3):=by first|exact hgr4'|(rw[hV3];exact hgr4')
  obtain⟨X4,hX4⟩:∃X4:List UInt8,X4=X3++ [46,46]:=⟨_,rfl⟩
  have HX4:Hid (X4=X3++ [46,46]):=hX4
  have x4':X4.length≤X3.length+2:=by rw[hX4,List.length_append];exact Nat.le_refl _
  have HJ4:Hid (LtJ w [.int .i64 10,.string s,.bool hi,.string t,.int .u64 (lm:Int),.int .u64 (um:Int),.int .i64 n] G4 cp4 X4 W4):=HV3.1.app (by rw[hX4];exact hW4) hgr4
  obtain⟨n4,hn4⟩:=qE X4.length
  have HN4:Hid (n4=X4.length):=hn4
  have he4:n3+2=n4:=by rw[hn4,hX4,List.length_append,←HN3.out];rfl
  try rw[he4]
  clear hn4 he4
  clear hW4 hgr4 hat hX4
  try clear hgr4'
  try clear hV3
  try clear q0
  have eh:=HJ4.box.cell (j:=2) rfl
  cases hi
  case true=>
   have HE2:Hid (endM (bl t) (um:Int)=Lib.decDigits um):=by
    show _=_
    have h9:=HLS.2.2.1 rfl
    unfold endM;rw[if_pos HLS.2.1,if_neg (by omega),Int.toNat_natCast]
   have eu2:=HJ4.box.cell (j:=5) rfl
   obtain⟨QLu2,hQLu2⟩:∃QL:List UInt8,QL=Lib.decDigits um:=⟨_,rfl⟩
   have HQLu2:Hid (QLu2=Lib.decDigits um):=hQLu2
   have hqlu2:QLu2.length≤300000:=by
    rw[hQLu2]
    have:=dec64_len (n:=um) (by omega);omega
   clear hQLu2
   go_wp2_with fail
   refine(l5Digits_all um W4 (by omega)).mono ?_
   rintro r Qu2 ⟨qgu2,qcu2,rfl,hqW,hqb⟩
   rw[←HQLu2.out]
   obtain⟨qlu2,hqu2⟩:∃ql,ql=QLu2.length:=⟨_,rfl⟩
   rw[←hqu2]
   have HQu2:Hid (LtJ w [.int .i64 10,.string s,.bool true,.string t,.int .u64 (lm:Int),.int .u64 (um:Int),.int .i64 n] G4 cp4 X4 Qu2∧WrB Qu2 W4.heap.size qgu2 qcu2 QLu2∧qlu2=QLu2.length):=⟨HJ4.move hqb,by first|exact hqW.wr|(rw[HQLu2.out];exact hqW.wr),hqu2⟩
   have zqu2:=HQu2.1.out.lt
   have yqu2:=HQu2.1.out.le
   clear hqb hqW hqu2 eu2
   go_wp2_with (at_builtin;refine wpList_append_wr _ rfl _ _ rfl (w.heap.size+1) G4 cp4 n4 qgu2 0 qlu2 qcu2 X4 QLu2 rfl rfl HN4.out HQu2.2.2 HQu2.1.out HQu2.2.1.at_ ?hlu2 ?hbu2 ?_)
   case hlu2=>omega
   case hbu2=>omega
   intro G5 cp5 W5 hW5 hgr5 hat
   obtain⟨X5,hX5⟩:∃X5:List UInt8,X5=X4++QLu2:=⟨_,rfl⟩
   have HX5:Hid (X5=X4++QLu2):=hX5
   have x5':X5.length≤X4.length+300000:=by rw[hX5,List.length_append];omega
   have HJ5:Hid (LtJ w [.int .i64 10,.string s,.bool true,.string t,.int .u64 (lm:Int),.int .u64 (um:Int),.int .i64 n] G5 cp5 X5 W5):=HQu2.1.app (by rw[hX5];exact hW5) hgr5
   exact zzQ20
  case false=>
   have HE2:Hid (endM (bl t) (um:Int)= []):=by show _=_;unfold endM;rw[if_pos HLS.2.1,if_pos (HLS.2.2.2 rfl)]
   exact zzQ35
set_option maxHeartbeats 1000000 in
theorem l5Word_11 (w:World):Calls Tryz.prog 87 #[.int .i64 11] w fun e w'=>e=.returned (.string ⟨#[118,101,114,115,105,111,110,115]⟩)∧w'=w:=by
 exact zzQ18
set_option maxHeartbeats 8000000 in
theorem l5LeafText_11 (s:ByteArray) (hi:Bool) (t:ByteArray) (lo up n:Int) (w:World) (hg:LooN ⟨11,s,hi,t,lo,up,n⟩) (hn:NumN ⟨11,s,hi,t,lo,up,n⟩):
  Calls Tryz.prog 83 #[.agg #[.int .i64 11,.string s,.bool hi,.string t,.int .u64 lo,.int .u64 up,.int .i64 n]] w (LtP (leafM ⟨11,s,hi,t,lo,up,n⟩) w):=by
 have HG:Hid (LooN ⟨11,s,hi,t,lo,up,n⟩∧NumN ⟨11,s,hi,t,lo,up,n⟩):=⟨hg,hn⟩
 have g0:s.size≤50000:=hg.1
 have g1:t.size≤50000:=hg.2.1
 obtain⟨Y,hY⟩:=qE (leafM ⟨11,s,hi,t,lo,up,n⟩)
 rw[←hY]
 have HY0:Hid (Y=leafM ⟨11,s,hi,t,lo,up,n⟩):=hY
 clear hY hg hn
 obtain⟨W0,hW0⟩:=qE (w.alloc (Obj.cells #[.int .i64 11,.string s,.bool hi,.string t,.int .u64 lo,.int .u64 up,.int .i64 n] 65):World)
 have hb0:Below w.heap.size w W0:=by rw[hW0];exact qB
 have z0:W0.heap.size=w.heap.size+1:=by rw[hW0];simp
 have HB0:Hid (BoxAt W0 w.heap.size 65 7 w.heap.size [.int .i64 11,.string s,.bool hi,.string t,.int .u64 lo,.int .u64 up,.int .i64 n]):=by
  rw[hW0];exact boxAt_new w _ (Nat.le_refl _) rfl
 have c0:=HB0.cell (j:=0) rfl
 obtain⟨W1,hW1⟩:=qE (Lib.bytesWorld W0 5 ⟨#[118,101,114,115,105,111,110,115]⟩)
 obtain⟨cp1,hcp1⟩:=qE (grownCap W0 8 0 5)
 have hcv:Sem.run Tryz.prog (convert 9 22 (.string ⟨#[118,101,114,115,105,111,110,115]⟩)) W0=.ok (.slice (some ⟨W0.heap.size,0,none⟩) 8 cp1) W1:=by
  rw[hW1,hcp1]
  exact Lib.run_convert_string_bytes (P:=Tryz.prog) W0 9 22 5 ⟨#[118,101,114,115,105,111,110,115]⟩ Tryz.underlying9 Tryz.underlying22 Tryz.underlying5
 have HJ1:Hid (LtJ w [.int .i64 11,.string s,.bool hi,.string t,.int .u64 lo,.int .u64 up,.int .i64 n] W0.heap.size cp1 [118,101,114,115,105,111,110,115] W1):=by
  have hbb:=below_bytes W0 ⟨#[118,101,114,115,105,111,110,115]⟩
  rw[←hW1]at hbb
  refine⟨?_,HB0.below hbb,hb0.trans (hbb.mono (by omega))⟩
  have h9:=(wrB_bytes W0 ⟨#[118,101,114,115,105,111,110,115]⟩ (by decide)).mono (base':=w.heap.size+1) (by omega)
  rw[←hW1]at h9
  rw[hcp1]
  exact h9
 clear hW1 hcp1 hb0
 obtain⟨G1,hG1⟩:=qE W0.heap.size
 rw[←hG1]at hcv HJ1
 obtain⟨X1,hX1⟩:∃X1:List UInt8,X1= [118,101,114,115,105,111,110,115]:=⟨_,rfl⟩
 have HX1:Hid (X1= [118,101,114,115,105,111,110,115]):=hX1
 have x1:X1.length=8:=by rw[hX1];rfl
 rw[←hX1]at HJ1
 clear hX1
 have HN1:Hid (8=X1.length):=x1.symm
 have x1':X1.length≤8:=by omega
 clear x1
 have q0:=HJ1.box.cell (j:=0) rfl
 have zs1:=HJ1.below.size
 go_enter Tryz.func83,Tryz.ntmps83
 go_upto_region 1 with fail
 rw[←hW0]
 clear hW0
 go_wp2_with fail
 refine(l5Word_11 W0).mono ?_
 rintro r w9 ⟨rfl,hw9⟩
 rw[hw9]
 clear hw9 c0 hG1 z0
 have hn1:1≤n∧n≤100000:=by
  obtain⟨⟨_,_,_,g3⟩,_⟩:=HG.out
  simp only at g3
  omega
 obtain⟨m,rfl⟩:=Int.eq_ofNat_of_zero_le (show 0≤n by omega)
 have HY:Hid (Y=X1++ [32]++Lib.decDigits m):=by show _=_;rw[HY0.out,HX1.out];simp[leafM,tailM,wordA,bl]
 have hql:=dec64_len (n:=m) (by omega)
 obtain⟨QL,hQL⟩:∃QL:List UInt8,QL=Lib.decDigits m:=⟨_,rfl⟩
 rw[←hQL]at HY hql
 have HQL:Hid (QL=Lib.decDigits m):=hQL
 clear hQL
 have m1a:W1.cell? ⟨w.heap.size,6,none⟩=some (.int .i64 (m:Int)):=HJ1.box.cell (j:=6) rfl
 have hS:(fun w':World=>w'.cell? ⟨w.heap.size,6,none⟩=some (.int .i64 (m:Int))) W1.drew:=m1a
 have HJd:Hid (LtJ w [.int .i64 11,.string s,.bool hi,.string t,.int .u64 lo,.int .u64 up,.int .i64 (m:Int)] G1 cp1 X1 W1.drew):=HJ1.move ((Below.refl _ _).drew)
 have zd:W1.drew.heap.size=W1.heap.size:=by simp
 go_upto_region 26 with fail
 refine wp_region_T 8 (fun w':World=>w'.cell? ⟨w.heap.size,6,none⟩=some (.int .i64 (m:Int))) (by kernel_rfl) ?_
 refine qU 0 ?vz110 rfl ?yz110 hS ?_
 case yz110=>exact zzR1
 try simp only[qA,List.getElem_toArray,List.getElem_cons_zero,List.getElem_cons_succ]
 refine qU 3 ?vz113 rfl ?yz113 hS ?_
 case yz113=>exact zzR1
 try simp only[qA,List.getElem_toArray,List.getElem_cons_zero,List.getElem_cons_succ]
 refine qU 4 ?vz114 rfl ?yz114 hS ?_
 case yz114=>exact zzR1
 try simp only[qA,List.getElem_toArray,List.getElem_cons_zero,List.getElem_cons_succ]
 refine qU 5 (.int .u64 (m:Int)) rfl ?yz115 hS ?_
 case yz115=>exact zzR12
 try simp only[qA,List.getElem_toArray,List.getElem_cons_zero,List.getElem_cons_succ]
 obtain⟨V1,hV1⟩:=qE ((W1.alloc (Obj.cells #[.int .u8 32] 5)).drew:World)
 have hbV:Below W1.heap.size W1 V1:=by rw[hV1];exact(qB).drew
 have HV1:Hid (LtJ w [.int .i64 11,.string s,.bool hi,.string t,.int .u64 lo,.int .u64 up,.int .i64 (m:Int)] G1 cp1 X1 V1∧BysAt V1 W1.heap.size 0 [32]∧W1.heap.size<V1.heap.size):=by
  refine⟨HJ1.move hbV,?_,by rw[hV1];simp⟩
  rw[hV1];exact fun i y hy=>bys_new W1 _ [32] rfl i y hy
 have zV:=HV1.1.out.lt
 have yV:=HV1.1.out.le
 have gV:V1.cell? ⟨w.heap.size,6,none⟩=some (.int .i64 (m:Int)):=HV1.1.box.cell (j:=6) rfl
 clear hbV
 refine anyT_one (i:=1) (by kernel_rfl) rfl (fun K hK=>?_)
 go_simp
 rw[←hV1]
 clear hV1
 refine hK.out _ _ (.inr gV) ?_
 clear hK
 try simp only[qA,List.getElem_toArray,List.getElem_cons_zero,List.getElem_cons_succ]
 refine anyT_one (i:=2) (by kernel_rfl) rfl (fun K hK=>?_)
 refine step_append_wr _ rfl _ _ rfl (w.heap.size+1) G1 cp1 8 W1.heap.size 0 1 1 X1 [32] rfl rfl HN1.out rfl HV1.1.out HV1.2.1 ?hlay ?hbay ?_
 case hlay=>first|omega|(show X1.length+1≤_;omega)
 case hbay=>omega
 intro g2a c2a w2a hW2 hgr2 hat2
 have HAa:Hid (LtJ w [.int .i64 11,.string s,.bool hi,.string t,.int .u64 lo,.int .u64 up,.int .i64 (m:Int)] g2a c2a (X1++ [32]) w2a):=HV1.1.app hW2 hgr2
 have s2:=hgr2.size
 have ga:w2a.cell? ⟨w.heap.size,6,none⟩=some (.int .i64 (m:Int)):=HAa.box.cell (j:=6) rfl
 obtain⟨X2,hX2⟩:∃X2:List UInt8,X2=X1++ [32]:=⟨_,rfl⟩
 rw[←hX2]at HAa
 have x2:X2.length=X1.length+1:=by rw[hX2,List.length_append];rfl
 have x2b:X2.length≤8+1:=by omega
 have HX2:Hid (X2=X1++ [32]):=hX2
 have HJan:Hid (8+1=X2.length):=by show _=_;rw[x2,←HN1.out]
 clear hX2 hW2 hgr2 hat2 x2
 refine hK.out _ _ (.inr ga) ?_
 clear hK
 try simp only[qA,List.getElem_toArray,List.getElem_cons_zero,List.getElem_cons_succ]
 refine anyT_one (i:=6) (by kernel_rfl) rfl (fun K hK=>?_)
 go_simp
 go_at_call 111
 refine(l5Digits_all m w2a (by omega)).mono ?_
 rintro r qwa ⟨qg,qc,rfl,hqO,hqb⟩
 rw[←HQL.out]
 have HJa:Hid (LtJ w [.int .i64 11,.string s,.bool hi,.string t,.int .u64 lo,.int .u64 up,.int .i64 (m:Int)] g2a c2a X2 qwa∧WrB qwa w2a.heap.size qg qc QL∧w2a.heap.size≤qwa.heap.size):=⟨HAa.move hqb,by first|exact hqO.wr|(rw[HQL.out];exact hqO.wr),hqb.size⟩
 have HJax:Hid (X2=X1++ [32]):=HX2
 have gq:qwa.cell? ⟨w.heap.size,6,none⟩=some (.int .i64 (m:Int)):=HJa.1.box.cell (j:=6) rfl
 clear hqb
 refine hK.out _ _ (.inr gq) ?_
 clear hK
 try simp only[qA,List.getElem_toArray,List.getElem_cons_zero,List.getElem_cons_succ]
 refine anyT_one (i:=7) (by kernel_rfl) rfl (fun K hK=>?_)
 refine step_append_wr _ rfl _ _ rfl (w.heap.size+1) g2a c2a (8+1) qg 0 QL.length qc X2 QL rfl rfl HJan.out rfl HJa.1.out HJa.2.1.at_ ?hlaz ?hbaz ?_
 case hlaz=>omega
 case hbaz=>have:=HJa.1.out.lt;have:=HJa.1.out.le;omega
 intro gza cza wza hWz hgrz hatz
 have HR:Hid (LtP Y w (.returned (.slice (some ⟨gza,0,none⟩) ((8+1)+QL.length) cza)) wza):=(HJa.1.app hWz hgrz).done (by rw[List.length_append,←HJan.out]) (by rw[HY.out,HJax.out])
 have gs:wza.cell? ⟨w.heap.size,6,none⟩=some (.int .i64 (m:Int)):=(HJa.1.app hWz hgrz).box.cell (j:=6) rfl
 clear hWz hgrz hatz
 refine hK.out _ _ (.inr gs) ?_
 clear hK
 try simp only[qA,List.getElem_toArray,List.getElem_cons_zero,List.getElem_cons_succ]
 refine anyT_one (i:=8) (by kernel_rfl) rfl (fun K hK=>?_)
 exact zzQ11
set_option maxHeartbeats 1000000 in
theorem l5Word_12 (w:World):Calls Tryz.prog 87 #[.int .i64 12] w fun e w'=>e=.returned (.string ⟨#[99,101,108,108,115]⟩)∧w'=w:=by
 exact zzQ18
set_option maxHeartbeats 8000000 in
theorem l5LeafText_12 (s:ByteArray) (hi:Bool) (t:ByteArray) (lo up n:Int) (w:World) (hg:LooN ⟨12,s,hi,t,lo,up,n⟩) (hn:NumN ⟨12,s,hi,t,lo,up,n⟩):
  Calls Tryz.prog 83 #[.agg #[.int .i64 12,.string s,.bool hi,.string t,.int .u64 lo,.int .u64 up,.int .i64 n]] w (LtP (leafM ⟨12,s,hi,t,lo,up,n⟩) w):=by
 have HG:Hid (LooN ⟨12,s,hi,t,lo,up,n⟩∧NumN ⟨12,s,hi,t,lo,up,n⟩):=⟨hg,hn⟩
 have g0:s.size≤50000:=hg.1
 have g1:t.size≤50000:=hg.2.1
 obtain⟨Y,hY⟩:=qE (leafM ⟨12,s,hi,t,lo,up,n⟩)
 rw[←hY]
 have HY0:Hid (Y=leafM ⟨12,s,hi,t,lo,up,n⟩):=hY
 clear hY hg hn
 obtain⟨W0,hW0⟩:=qE (w.alloc (Obj.cells #[.int .i64 12,.string s,.bool hi,.string t,.int .u64 lo,.int .u64 up,.int .i64 n] 65):World)
 have hb0:Below w.heap.size w W0:=by rw[hW0];exact qB
 have z0:W0.heap.size=w.heap.size+1:=by rw[hW0];simp
 have HB0:Hid (BoxAt W0 w.heap.size 65 7 w.heap.size [.int .i64 12,.string s,.bool hi,.string t,.int .u64 lo,.int .u64 up,.int .i64 n]):=by
  rw[hW0];exact boxAt_new w _ (Nat.le_refl _) rfl
 have c0:=HB0.cell (j:=0) rfl
 obtain⟨W1,hW1⟩:=qE (Lib.bytesWorld W0 5 ⟨#[99,101,108,108,115]⟩)
 obtain⟨cp1,hcp1⟩:=qE (grownCap W0 5 0 5)
 have hcv:Sem.run Tryz.prog (convert 9 22 (.string ⟨#[99,101,108,108,115]⟩)) W0=.ok (.slice (some ⟨W0.heap.size,0,none⟩) 5 cp1) W1:=by
  rw[hW1,hcp1]
  exact Lib.run_convert_string_bytes (P:=Tryz.prog) W0 9 22 5 ⟨#[99,101,108,108,115]⟩ Tryz.underlying9 Tryz.underlying22 Tryz.underlying5
 have HJ1:Hid (LtJ w [.int .i64 12,.string s,.bool hi,.string t,.int .u64 lo,.int .u64 up,.int .i64 n] W0.heap.size cp1 [99,101,108,108,115] W1):=by
  have hbb:=below_bytes W0 ⟨#[99,101,108,108,115]⟩
  rw[←hW1]at hbb
  refine⟨?_,HB0.below hbb,hb0.trans (hbb.mono (by omega))⟩
  have h9:=(wrB_bytes W0 ⟨#[99,101,108,108,115]⟩ (by decide)).mono (base':=w.heap.size+1) (by omega)
  rw[←hW1]at h9
  rw[hcp1]
  exact h9
 clear hW1 hcp1 hb0
 obtain⟨G1,hG1⟩:=qE W0.heap.size
 rw[←hG1]at hcv HJ1
 obtain⟨X1,hX1⟩:∃X1:List UInt8,X1= [99,101,108,108,115]:=⟨_,rfl⟩
 have HX1:Hid (X1= [99,101,108,108,115]):=hX1
 have x1:X1.length=5:=by rw[hX1];rfl
 rw[←hX1]at HJ1
 clear hX1
 have HN1:Hid (5=X1.length):=x1.symm
 have x1':X1.length≤5:=by omega
 clear x1
 have q0:=HJ1.box.cell (j:=0) rfl
 have zs1:=HJ1.below.size
 go_enter Tryz.func83,Tryz.ntmps83
 go_upto_region 1 with fail
 rw[←hW0]
 clear hW0
 go_wp2_with fail
 refine(l5Word_12 W0).mono ?_
 rintro r w9 ⟨rfl,hw9⟩
 rw[hw9]
 clear hw9 c0 hG1 z0
 have hn1:1≤n∧n≤100000:=by
  obtain⟨⟨_,_,_,g3⟩,_⟩:=HG.out
  simp only at g3
  omega
 obtain⟨m,rfl⟩:=Int.eq_ofNat_of_zero_le (show 0≤n by omega)
 have HY:Hid (Y=X1++ [32]++Lib.decDigits m):=by show _=_;rw[HY0.out,HX1.out];simp[leafM,tailM,wordA,bl]
 have hql:=dec64_len (n:=m) (by omega)
 obtain⟨QL,hQL⟩:∃QL:List UInt8,QL=Lib.decDigits m:=⟨_,rfl⟩
 rw[←hQL]at HY hql
 have HQL:Hid (QL=Lib.decDigits m):=hQL
 clear hQL
 have m1a:W1.cell? ⟨w.heap.size,6,none⟩=some (.int .i64 (m:Int)):=HJ1.box.cell (j:=6) rfl
 have hS:(fun w':World=>w'.cell? ⟨w.heap.size,6,none⟩=some (.int .i64 (m:Int))) W1.drew:=m1a
 have HJd:Hid (LtJ w [.int .i64 12,.string s,.bool hi,.string t,.int .u64 lo,.int .u64 up,.int .i64 (m:Int)] G1 cp1 X1 W1.drew):=HJ1.move ((Below.refl _ _).drew)
 have zd:W1.drew.heap.size=W1.heap.size:=by simp
 go_upto_region 26 with fail
 refine wp_region_T 8 (fun w':World=>w'.cell? ⟨w.heap.size,6,none⟩=some (.int .i64 (m:Int))) (by kernel_rfl) ?_
 refine qU 0 ?vz120 rfl ?yz120 hS ?_
 case yz120=>exact zzR1
 try simp only[qA,List.getElem_toArray,List.getElem_cons_zero,List.getElem_cons_succ]
 refine qU 3 ?vz123 rfl ?yz123 hS ?_
 case yz123=>exact zzR1
 try simp only[qA,List.getElem_toArray,List.getElem_cons_zero,List.getElem_cons_succ]
 refine qU 4 ?vz124 rfl ?yz124 hS ?_
 case yz124=>exact zzR1
 try simp only[qA,List.getElem_toArray,List.getElem_cons_zero,List.getElem_cons_succ]
 refine qU 5 (.int .u64 (m:Int)) rfl ?yz125 hS ?_
 case yz125=>exact zzR12
 try simp only[qA,List.getElem_toArray,List.getElem_cons_zero,List.getElem_cons_succ]
 obtain⟨V1,hV1⟩:=qE ((W1.alloc (Obj.cells #[.int .u8 32] 5)).drew:World)
 have hbV:Below W1.heap.size W1 V1:=by rw[hV1];exact(qB).drew
 have HV1:Hid (LtJ w [.int .i64 12,.string s,.bool hi,.string t,.int .u64 lo,.int .u64 up,.int .i64 (m:Int)] G1 cp1 X1 V1∧BysAt V1 W1.heap.size 0 [32]∧W1.heap.size<V1.heap.size):=by
  refine⟨HJ1.move hbV,?_,by rw[hV1];simp⟩
  rw[hV1];exact fun i y hy=>bys_new W1 _ [32] rfl i y hy
 have zV:=HV1.1.out.lt
 have yV:=HV1.1.out.le
 have gV:V1.cell? ⟨w.heap.size,6,none⟩=some (.int .i64 (m:Int)):=HV1.1.box.cell (j:=6) rfl
 clear hbV
 refine anyT_one (i:=1) (by kernel_rfl) rfl (fun K hK=>?_)
 go_simp
 rw[←hV1]
 clear hV1
 refine hK.out _ _ (.inr gV) ?_
 clear hK
 try simp only[qA,List.getElem_toArray,List.getElem_cons_zero,List.getElem_cons_succ]
 refine anyT_one (i:=2) (by kernel_rfl) rfl (fun K hK=>?_)
 refine step_append_wr _ rfl _ _ rfl (w.heap.size+1) G1 cp1 5 W1.heap.size 0 1 1 X1 [32] rfl rfl HN1.out rfl HV1.1.out HV1.2.1 ?hlay ?hbay ?_
 case hlay=>first|omega|(show X1.length+1≤_;omega)
 case hbay=>omega
 intro g2a c2a w2a hW2 hgr2 hat2
 have HAa:Hid (LtJ w [.int .i64 12,.string s,.bool hi,.string t,.int .u64 lo,.int .u64 up,.int .i64 (m:Int)] g2a c2a (X1++ [32]) w2a):=HV1.1.app hW2 hgr2
 have s2:=hgr2.size
 have ga:w2a.cell? ⟨w.heap.size,6,none⟩=some (.int .i64 (m:Int)):=HAa.box.cell (j:=6) rfl
 obtain⟨X2,hX2⟩:∃X2:List UInt8,X2=X1++ [32]:=⟨_,rfl⟩
 rw[←hX2]at HAa
 have x2:X2.length=X1.length+1:=by rw[hX2,List.length_append];rfl
 have x2b:X2.length≤5+1:=by omega
 have HX2:Hid (X2=X1++ [32]):=hX2
 have HJan:Hid (5+1=X2.length):=by show _=_;rw[x2,←HN1.out]
 clear hX2 hW2 hgr2 hat2 x2
 refine hK.out _ _ (.inr ga) ?_
 clear hK
 try simp only[qA,List.getElem_toArray,List.getElem_cons_zero,List.getElem_cons_succ]
 refine anyT_one (i:=6) (by kernel_rfl) rfl (fun K hK=>?_)
 go_simp
 go_at_call 111
 refine(l5Digits_all m w2a (by omega)).mono ?_
 rintro r qwa ⟨qg,qc,rfl,hqO,hqb⟩
 rw[←HQL.out]
 have HJa:Hid (LtJ w [.int .i64 12,.string s,.bool hi,.string t,.int .u64 lo,.int .u64 up,.int .i64 (m:Int)] g2a c2a X2 qwa∧WrB qwa w2a.heap.size qg qc QL∧w2a.heap.size≤qwa.heap.size):=⟨HAa.move hqb,by first|exact hqO.wr|(rw[HQL.out];exact hqO.wr),hqb.size⟩
 have HJax:Hid (X2=X1++ [32]):=HX2
 have gq:qwa.cell? ⟨w.heap.size,6,none⟩=some (.int .i64 (m:Int)):=HJa.1.box.cell (j:=6) rfl
 clear hqb
 refine hK.out _ _ (.inr gq) ?_
 clear hK
 try simp only[qA,List.getElem_toArray,List.getElem_cons_zero,List.getElem_cons_succ]
 refine anyT_one (i:=7) (by kernel_rfl) rfl (fun K hK=>?_)
 refine step_append_wr _ rfl _ _ rfl (w.heap.size+1) g2a c2a (5+1) qg 0 QL.length qc X2 QL rfl rfl HJan.out rfl HJa.1.out HJa.2.1.at_ ?hlaz ?hbaz ?_
 case hlaz=>omega
 case hbaz=>have:=HJa.1.out.lt;have:=HJa.1.out.le;omega
 intro gza cza wza hWz hgrz hatz
 have HR:Hid (LtP Y w (.returned (.slice (some ⟨gza,0,none⟩) ((5+1)+QL.length) cza)) wza):=(HJa.1.app hWz hgrz).done (by rw[List.length_append,←HJan.out]) (by rw[HY.out,HJax.out])
 have gs:wza.cell? ⟨w.heap.size,6,none⟩=some (.int .i64 (m:Int)):=(HJa.1.app hWz hgrz).box.cell (j:=6) rfl
 clear hWz hgrz hatz
 refine hK.out _ _ (.inr gs) ?_
 clear hK
 try simp only[qA,List.getElem_toArray,List.getElem_cons_zero,List.getElem_cons_succ]
 refine anyT_one (i:=8) (by kernel_rfl) rfl (fun K hK=>?_)
 exact zzQ11
set_option maxHeartbeats 1000000 in
theorem l5Word_13 (w:World):Calls Tryz.prog 87 #[.int .i64 13] w fun e w'=>e=.returned (.string ⟨#[115,107,105,112]⟩)∧w'=w:=by
 exact zzQ18
set_option maxHeartbeats 8000000 in
theorem l5LeafText_13 (s:ByteArray) (hi:Bool) (t:ByteArray) (lo up n:Int) (w:World) (hg:LooN ⟨13,s,hi,t,lo,up,n⟩) (hn:NumN ⟨13,s,hi,t,lo,up,n⟩):
  Calls Tryz.prog 83 #[.agg #[.int .i64 13,.string s,.bool hi,.string t,.int .u64 lo,.int .u64 up,.int .i64 n]] w (LtP (leafM ⟨13,s,hi,t,lo,up,n⟩) w):=by
 have HG:Hid (LooN ⟨13,s,hi,t,lo,up,n⟩∧NumN ⟨13,s,hi,t,lo,up,n⟩):=⟨hg,hn⟩
 have g0:s.size≤50000:=hg.1
 have g1:t.size≤50000:=hg.2.1
 obtain⟨Y,hY⟩:=qE (leafM ⟨13,s,hi,t,lo,up,n⟩)
 rw[←hY]
 have HY0:Hid (Y=leafM ⟨13,s,hi,t,lo,up,n⟩):=hY
 clear hY hg hn
 obtain⟨W0,hW0⟩:=qE (w.alloc (Obj.cells #[.int .i64 13,.string s,.bool hi,.string t,.int .u64 lo,.int .u64 up,.int .i64 n] 65):World)
 have hb0:Below w.heap.size w W0:=by rw[hW0];exact qB
 have z0:W0.heap.size=w.heap.size+1:=by rw[hW0];simp
 have HB0:Hid (BoxAt W0 w.heap.size 65 7 w.heap.size [.int .i64 13,.string s,.bool hi,.string t,.int .u64 lo,.int .u64 up,.int .i64 n]):=by
  rw[hW0];exact boxAt_new w _ (Nat.le_refl _) rfl
 have c0:=HB0.cell (j:=0) rfl
 obtain⟨W1,hW1⟩:=qE (Lib.bytesWorld W0 5 ⟨#[115,107,105,112]⟩)
 obtain⟨cp1,hcp1⟩:=qE (grownCap W0 4 0 5)
 have hcv:Sem.run Tryz.prog (convert 9 22 (.string ⟨#[115,107,105,112]⟩)) W0=.ok (.slice (some ⟨W0.heap.size,0,none⟩) 4 cp1) W1:=by
  rw[hW1,hcp1]
  exact Lib.run_convert_string_bytes (P:=Tryz.prog) W0 9 22 5 ⟨#[115,107,105,112]⟩ Tryz.underlying9 Tryz.underlying22 Tryz.underlying5
 have HJ1:Hid (LtJ w [.int .i64 13,.string s,.bool hi,.string t,.int .u64 lo,.int .u64 up,.int .i64 n] W0.heap.size cp1 [115,107,105,112] W1):=by
  have hbb:=below_bytes W0 ⟨#[115,107,105,112]⟩
  rw[←hW1]at hbb
  refine⟨?_,HB0.below hbb,hb0.trans (hbb.mono (by omega))⟩
  have h9:=(wrB_bytes W0 ⟨#[115,107,105,112]⟩ (by decide)).mono (base':=w.heap.size+1) (by omega)
  rw[←hW1]at h9
  rw[hcp1]
  exact h9
 clear hW1 hcp1 hb0
 obtain⟨G1,hG1⟩:=qE W0.heap.size
 rw[←hG1]at hcv HJ1
 obtain⟨X1,hX1⟩:∃X1:List UInt8,X1= [115,107,105,112]:=⟨_,rfl⟩
 have HX1:Hid (X1= [115,107,105,112]):=hX1
 have x1:X1.length=4:=by rw[hX1];rfl
 rw[←hX1]at HJ1
 clear hX1
 have HN1:Hid (4=X1.length):=x1.symm
 have x1':X1.length≤4:=by omega
 clear x1
 have q0:=HJ1.box.cell (j:=0) rfl
 have zs1:=HJ1.below.size
 go_enter Tryz.func83,Tryz.ntmps83
 go_upto_region 1 with fail
 rw[←hW0]
 clear hW0
 go_wp2_with fail
 refine(l5Word_13 W0).mono ?_
 rintro r w9 ⟨rfl,hw9⟩
 rw[hw9]
 clear hw9 c0 hG1 z0
 have hn1:1≤n∧n≤100000:=by
  obtain⟨⟨_,_,_,g3⟩,_⟩:=HG.out
  simp only at g3
  omega
 obtain⟨m,rfl⟩:=Int.eq_ofNat_of_zero_le (show 0≤n by omega)
 have HY:Hid (Y=X1++ [32]++Lib.decDigits m):=by show _=_;rw[HY0.out,HX1.out];simp[leafM,tailM,wordA,bl]
 have hql:=dec64_len (n:=m) (by omega)
 obtain⟨QL,hQL⟩:∃QL:List UInt8,QL=Lib.decDigits m:=⟨_,rfl⟩
 rw[←hQL]at HY hql
 have HQL:Hid (QL=Lib.decDigits m):=hQL
 clear hQL
 have m1a:W1.cell? ⟨w.heap.size,6,none⟩=some (.int .i64 (m:Int)):=HJ1.box.cell (j:=6) rfl
 have hS:(fun w':World=>w'.cell? ⟨w.heap.size,6,none⟩=some (.int .i64 (m:Int))) W1.drew:=m1a
 have HJd:Hid (LtJ w [.int .i64 13,.string s,.bool hi,.string t,.int .u64 lo,.int .u64 up,.int .i64 (m:Int)] G1 cp1 X1 W1.drew):=HJ1.move ((Below.refl _ _).drew)
 have zd:W1.drew.heap.size=W1.heap.size:=by simp
 go_upto_region 26 with fail
 refine wp_region_T 8 (fun w':World=>w'.cell? ⟨w.heap.size,6,none⟩=some (.int .i64 (m:Int))) (by kernel_rfl) ?_
 refine qU 0 ?vz130 rfl ?yz130 hS ?_
 case yz130=>exact zzR1
 try simp only[qA,List.getElem_toArray,List.getElem_cons_zero,List.getElem_cons_succ]
 refine qU 3 ?vz133 rfl ?yz133 hS ?_
 case yz133=>exact zzR1
 try simp only[qA,List.getElem_toArray,List.getElem_cons_zero,List.getElem_cons_succ]
 refine qU 4 ?vz134 rfl ?yz134 hS ?_
 case yz134=>exact zzR1
 try simp only[qA,List.getElem_toArray,List.getElem_cons_zero,List.getElem_cons_succ]
 refine qU 5 (.int .u64 (m:Int)) rfl ?yz135 hS ?_
 case yz135=>exact zzR12
 try simp only[qA,List.getElem_toArray,List.getElem_cons_zero,List.getElem_cons_succ]
 obtain⟨V1,hV1⟩:=qE ((W1.alloc (Obj.cells #[.int .u8 32] 5)).drew:World)
 have hbV:Below W1.heap.size W1 V1:=by rw[hV1];exact(qB).drew
 have HV1:Hid (LtJ w [.int .i64 13,.string s,.bool hi,.string t,.int .u64 lo,.int .u64 up,.int .i64 (m:Int)] G1 cp1 X1 V1∧BysAt V1 W1.heap.size 0 [32]∧W1.heap.size<V1.heap.size):=by
  refine⟨HJ1.move hbV,?_,by rw[hV1];simp⟩
  rw[hV1];exact fun i y hy=>bys_new W1 _ [32] rfl i y hy
 have zV:=HV1.1.out.lt
 have yV:=HV1.1.out.le
 have gV:V1.cell? ⟨w.heap.size,6,none⟩=some (.int .i64 (m:Int)):=HV1.1.box.cell (j:=6) rfl
 clear hbV
 refine anyT_one (i:=1) (by kernel_rfl) rfl (fun K hK=>?_)
 go_simp
 rw[←hV1]
 clear hV1
 refine hK.out _ _ (.inr gV) ?_
 clear hK
 try simp only[qA,List.getElem_toArray,List.getElem_cons_zero,List.getElem_cons_succ]
 refine anyT_one (i:=2) (by kernel_rfl) rfl (fun K hK=>?_)
 refine step_append_wr _ rfl _ _ rfl (w.heap.size+1) G1 cp1 4 W1.heap.size 0 1 1 X1 [32] rfl rfl HN1.out rfl HV1.1.out HV1.2.1 ?hlay ?hbay ?_
 case hlay=>first|omega|(show X1.length+1≤_;omega)
 case hbay=>omega
 intro g2a c2a w2a hW2 hgr2 hat2
 have HAa:Hid (LtJ w [.int .i64 13,.string s,.bool hi,.string t,.int .u64 lo,.int .u64 up,.int .i64 (m:Int)] g2a c2a (X1++ [32]) w2a):=HV1.1.app hW2 hgr2
 have s2:=hgr2.size
 have ga:w2a.cell? ⟨w.heap.size,6,none⟩=some (.int .i64 (m:Int)):=HAa.box.cell (j:=6) rfl
 obtain⟨X2,hX2⟩:∃X2:List UInt8,X2=X1++ [32]:=⟨_,rfl⟩
 rw[←hX2]at HAa
 have x2:X2.length=X1.length+1:=by rw[hX2,List.length_append];rfl
 have x2b:X2.length≤4+1:=by omega
 have HX2:Hid (X2=X1++ [32]):=hX2
 have HJan:Hid (4+1=X2.length):=by show _=_;rw[x2,←HN1.out]
 clear hX2 hW2 hgr2 hat2 x2
 refine hK.out _ _ (.inr ga) ?_
 clear hK
 try simp only[qA,List.getElem_toArray,List.getElem_cons_zero,List.getElem_cons_succ]
 refine anyT_one (i:=6) (by kernel_rfl) rfl (fun K hK=>?_)
 go_simp
 go_at_call 111
 refine(l5Digits_all m w2a (by omega)).mono ?_
 rintro r qwa ⟨qg,qc,rfl,hqO,hqb⟩
 rw[←HQL.out]
 have HJa:Hid (LtJ w [.int .i64 13,.string s,.bool hi,.string t,.int .u64 lo,.int .u64 up,.int .i64 (m:Int)] g2a c2a X2 qwa∧WrB qwa w2a.heap.size qg qc QL∧w2a.heap.size≤qwa.heap.size):=⟨HAa.move hqb,by first|exact hqO.wr|(rw[HQL.out];exact hqO.wr),hqb.size⟩
 have HJax:Hid (X2=X1++ [32]):=HX2
 have gq:qwa.cell? ⟨w.heap.size,6,none⟩=some (.int .i64 (m:Int)):=HJa.1.box.cell (j:=6) rfl
 clear hqb
 refine hK.out _ _ (.inr gq) ?_
 clear hK
 try simp only[qA,List.getElem_toArray,List.getElem_cons_zero,List.getElem_cons_succ]
 refine anyT_one (i:=7) (by kernel_rfl) rfl (fun K hK=>?_)
 refine step_append_wr _ rfl _ _ rfl (w.heap.size+1) g2a c2a (4+1) qg 0 QL.length qc X2 QL rfl rfl HJan.out rfl HJa.1.out HJa.2.1.at_ ?hlaz ?hbaz ?_
 case hlaz=>omega
 case hbaz=>have:=HJa.1.out.lt;have:=HJa.1.out.le;omega
 intro gza cza wza hWz hgrz hatz
 have HR:Hid (LtP Y w (.returned (.slice (some ⟨gza,0,none⟩) ((4+1)+QL.length) cza)) wza):=(HJa.1.app hWz hgrz).done (by rw[List.length_append,←HJan.out]) (by rw[HY.out,HJax.out])
 have gs:wza.cell? ⟨w.heap.size,6,none⟩=some (.int .i64 (m:Int)):=(HJa.1.app hWz hgrz).box.cell (j:=6) rfl
 clear hWz hgrz hatz
 refine hK.out _ _ (.inr gs) ?_
 clear hK
 try simp only[qA,List.getElem_toArray,List.getElem_cons_zero,List.getElem_cons_succ]
 refine anyT_one (i:=8) (by kernel_rfl) rfl (fun K hK=>?_)
 exact zzQ11
theorem l5LeafText_core (e:Nd) (w:World) (hg:LooN e) (hn:NumN e) (hk:arity e.kind=0):Calls Tryz.prog 83 #[e.v] w (LtP (leafM e) w):=by
 obtain⟨kind,s,hi,t,lo,up,n⟩:=e
 have h13:kind=1∨kind=2∨kind=3∨kind=4∨kind=5∨kind=6∨kind=7∨kind=8∨kind=9∨kind=10∨kind=11∨kind=12∨kind=13:=by
  obtain⟨_,_,_,h⟩:=hg
  simp only at h hk
  unfold arity at hk
  by_cases q14:kind=14∨kind=15
  ·rw[if_pos q14]at hk;cases hk
  ·by_cases q16:kind=16
   ·rw[if_neg q14,if_pos q16]at hk;cases hk
   ·omega
 rcases h13 with rfl|rfl|rfl|rfl|rfl|rfl|rfl|rfl|rfl|rfl|rfl|rfl|rfl
 ·exact l5LeafText_1 s hi t lo up n w hg hn
 ·exact l5LeafText_2 s hi t lo up n w hg hn
 ·exact l5LeafText_3 s hi t lo up n w hg hn
 ·exact l5LeafText_4 s hi t lo up n w hg hn
 ·exact l5LeafText_5 s hi t lo up n w hg hn
 ·exact l5LeafText_6 s hi t lo up n w hg hn
 ·exact l5LeafText_7 s hi t lo up n w hg hn
 ·exact l5LeafText_8 s hi t lo up n w hg hn
 ·exact l5LeafText_9 s hi t lo up n w hg hn
 ·exact l5LeafText_10 s hi t lo up n w hg hn
 ·exact l5LeafText_11 s hi t lo up n w hg hn
 ·exact l5LeafText_12 s hi t lo up n w hg hn
 ·exact l5LeafText_13 s hi t lo up n w hg hn
def TxP (X:List UInt8) (w:World) (r:Ending) (w':World):Prop:=∃g cp,r=.returned (.slice (some ⟨g,0,none⟩) X.length cp)∧WrB w' w.heap.size g cp X∧Below w.heap.size w w'
def TxC (n:Nat):Prop:=∀(w:World) (b o cap:Nat) (xs:List Nd) (y:PT),xs.length≤n→xs.length≤1000→Win w b o cap xs→TextF xs y→(∀e∈xs,LooN e∧NumN e)→Calls Tryz.prog 41 #[.slice (some ⟨b,o,none⟩) xs.length cap] w (TxP y.2 w)
def OwnVy (w:World) (base g cp:Nat) (us:List Value):Prop:=w.ownsRow base 22 1 (.slice (some ⟨g,0,none⟩) us.length cp) us.length us
theorem OwnVy.lt {w:World} {base g cp:Nat} {us:List Value} (h:OwnVy w base g cp us):base≤g∧g<w.heap.size:=World.ownsRow.lt h g rfl
theorem OwnVy.chg {S:Nat→Prop} {w w':World} {base g cp:Nat} {us:List Value} (h:OwnVy w base g cp us) (hc:Chg S w w') (hn:¬S g):OwnVy w' base g cp us:=own_chg h hc (fun k q=>by simp[Value.ownBlock]at q;subst q;exact hn)
theorem OwnVy.below {w w':World} {base g cp:Nat} {us:List Value} (h:OwnVy w base g cp us) (hb:Below w.heap.size w w'):OwnVy w' base g cp us:=h.chg (Chg.of_below hb) (S:=fun _=>False) (fun z=>z)
theorem OwnVy.cell {w:World} {base g cp:Nat} {us:List Value} (h:OwnVy w base g cp us) {j:Nat} {v:Value} (hv:us[j]?=some v):w.cell? ⟨g,j,none⟩=some v:=by
 have hj:=(List.getElem?_eq_some_iff.1 hv).1
 rw[World.ownsRow.cellAt h j (by omega),hv]
theorem ownVy_new (w:World) {base:Nat} (hb:base≤w.heap.size):OwnVy (w.alloc (Obj.cells #[] 22)) base w.heap.size 0 []:=
 World.ownsRow_made w #[] 0 hb (Nat.zero_le _) (by simp)
theorem Tryz.infoBs:(Tryz.prog.info? 22).map (fun i=>(i.zero,i.size,i.bytes))=some (some (.slice none 0 0),1,24):=by kernel_rfl
theorem wpList_append_vy {ops:Array Oper} {rest:List Oper} {oo:Oper} {a:Act} {Q:Exit→Act→World→Prop} (w:World) (hgd:oo.guard=none) (s x:Operand)
  (ho:oo.op=.call {callee:=.builtin .append,args:=#[s,x],argTypes:=#[120,120]})
  (base gq cp n b:Nat) (us:List Value) (v:Value) (hs:a.eval s=.slice (some ⟨gq,0,none⟩) n cp) (hx:a.eval x=.slice (some ⟨b,0,none⟩) 1 1) (hn:n=us.length) (hO:OwnVy w base gq cp us)
  (hc:w.cell? ⟨b,0,none⟩=some v) (hy:v.oneCell'=true) (hlen:us.length+1≤1000) (hbase:base≤w.heap.size)
  (h:∀g' cp' w',OwnVy w' base g' cp' (us++ [v])→w.grownBy w' (some gq)→(g'=gq∨g'=w.heap.size)→wpList Tryz.prog ops Q rest (a.put oo.dst (.slice (some ⟨g',0,none⟩) (n+1) cp')) w'):wpList Tryz.prog ops Q (oo::rest) a w:=by
 subst hn
 obtain⟨i,hi,hz0,hz1,hz2⟩:=info_parts Tryz.infoBs
 refine wpList_append_own_at w hgd s x 120 ho base 22 i _ 1 24 Tryz.underlying120 hi hz0 hz1 hz2 rfl (by decide) (.slice (some ⟨gq,0,none⟩) us.length cp) us.length us hs hO ⟨b,0,none⟩ 1 1 [v] hx (by simp) ?_ (by intro u hu;simp at hu;subst hu;exact hy) ?_ ?_ hbase ?_
 ·intro j u hu
  have hj:j=0:=by have:=(List.getElem?_eq_some_iff.1 hu).1;simpa using this
  subst hj
  simp at hu
  subst hu
  rw[Addr.add_mid];exact hc
 ·unfold maxLen;omega
 ·omega
 ·intro v' w' hO' hgr hnil hat
  rcases hO'.2 with⟨h0,_⟩|⟨g',cap',cur,hv,_,_,hn,hcap,_,_⟩
  ·have:=(hnil.1 h0).1
   cases this
  ·subst hv
   refine h g' cap' w' ?_ hgr ?_
   ·unfold OwnVy
    rw[List.length_append]
    exact hO'
   ·simp[Value.ownBlock]at hat
    exact hat
structure TxJ (w:World) (k:Int) (os:List PT) (kg kc:Nat) (kv:List Value) (i g cp:Nat) (us:List Value) (wr:World):Prop where
 kids:OwnV wr w.heap.size kg kc kv
 own:OwnVy wr w.heap.size g cp us
 ne:¬kg=g
 len:us.length=i
 txt:∀(j:Nat) (x:PT),j<i→os[j]?=some x→∃b c,us[j]?=some (.slice (some ⟨b,0,none⟩) (wrapT k j x).length c)∧BysAt wr b 0 (wrapT k j x)∧w.heap.size≤b∧b<wr.heap.size∧¬b=g
 below:Below w.heap.size w wr
theorem TxJ.move {w:World} {k:Int} {os:List PT} {kg kc:Nat} {kv:List Value} {i g cp:Nat} {us:List Value} {wr w':World} (h:TxJ w k os kg kc kv i g cp us wr) (hb:Below wr.heap.size wr w'):TxJ w k os kg kc kv i g cp us w':=by
 have hs:=hb.size
 refine⟨h.kids.below hb,h.own.below hb,h.ne,h.len,fun j x hj hx=>?_,h.below.trans (hb.mono h.below.size)⟩
 obtain⟨b,c,h1,h2,h3,h4,h5⟩:=h.txt j x hj hx
 exact⟨b,c,h1,h2.below hb h4,h3,by omega,h5⟩
theorem TxJ.push {w:World} {k:Int} {os:List PT} {kg kc:Nat} {kv:List Value} {i g cp g' cp':Nat} {us:List Value} {wr w':World} {b c:Nat} {x:PT} (h:TxJ w k os kg kc kv i g cp us wr) (hO:OwnVy w' w.heap.size g' cp' (us++ [.slice (some ⟨b,0,none⟩) (wrapT k i x).length c])) (hgr:wr.grownBy w' (some g)) (hat:g'=g∨g'=wr.heap.size) (hx:os[i]?=some x) (hE:BysAt wr b 0 (wrapT k i x)) (hb1:w.heap.size≤b) (hb2:b<wr.heap.size) (hb3:¬b=g):TxJ w k os kg kc kv (i+1) g' cp' (us++ [.slice (some ⟨b,0,none⟩) (wrapT k i x).length c]) w':=by
 have hC:Chg (fun q=>q=g) wr w':=Chg.of_grown hgr (fun q hq=>by cases hq;rfl)
 have hs:=hgr.size
 have hgl:=h.own.lt
 have hkl:=h.kids.lt
 refine⟨own_chg h.kids hC (fun q hq=>by simp[Value.ownBlock]at hq;subst hq;exact h.ne),hO,by rcases hat with q|q;rw[q];exact h.ne;omega,by rw[List.length_append,h.len];rfl,fun j y hj hy=>?_,Chg.below h.below hC h.below.size (fun q e=>by omega)⟩
 by_cases e:j=i
 ·subst e
  rw[hx]at hy
  cases hy
  refine⟨b,c,by rw[List.getElem?_append_right (by rw[h.len];exact Nat.le_refl _),h.len];simp,fun q z hz=>by rw[hC.cell (p:=⟨b,0+q,none⟩) hb2 hb3];exact hE q z hz,hb1,by omega,?_⟩
  rcases hat with q|q
  ·rw[q];exact hb3
  ·omega
 ·obtain⟨b',c',h1,h2,h3,h4,h5⟩:=h.txt j y (by omega) hy
  refine⟨b',c',by rw[List.getElem?_append_left (by rw[h.len];omega)];exact h1,fun q z hz=>by rw[hC.cell (p:=⟨b',0+q,none⟩) h4 h5];exact h2 q z hz,h3,by omega,?_⟩
  rcases hat with q|q
  ·rw[q];exact h5
  ·omega
set_option maxHeartbeats 1000000 in
theorem l5WrapB_core (op:Int) (i:Nat) (kid:Int) (w:World):Calls Tryz.prog 82 #[.int .i64 op,.int .i64 (i:Int),.int .i64 kid] w fun e w'=>e=.returned (.bool (wrapB op i kid))∧w'=w:=by
 by_cases h16:op=16
 ·subst h16
  have H:Hid (wrapB 16 i kid=false):=by show _=_;unfold wrapB;rw[if_pos rfl]
  go_enter Tryz.func82,Tryz.ntmps82
  go_wp2_with fail
  go_ret
  exact⟨by rw[H.out];rfl,rfl⟩
 ·have:=l5Wrapped_core op i kid w h16
  rw[show wrapB op i kid=level op i kid by unfold wrapB;rw[if_neg h16]]
  exact this
theorem kid_top {x:PT} {k:List Nd} (h:TrV printV [x] k):∃ys n,k=ys++ [n]∧x.1=n.kind:=by
 obtain⟨ys,n,os,rfl,_,_,hx⟩:=TrV.inv _ h
 exact⟨ys,n,rfl,by rw[hx];rfl⟩
theorem kidP_len {os:List PT} {ks:List (List Nd)} (h:KidV printV os ks) (hg:∀e∈ks.flatten,LooN e∧NumN e):sizeP os≤410000*ks.flatten.length:=by
 induction h with
 |nil=>simp[sizeP]
 | @cons o os k ks h1 t ih=>
   have h2:=print_lenL h1 (fun e he=>hg e (by simp[he]))
   have h3:=ih (fun e he=>hg e (by simp only[List.flatten_cons,List.mem_append];exact .inr he))
   have h4:sizeP (o::os)=sizeP [o]+sizeP os:=sizeP_append [o] os
   simp only[List.flatten_cons,List.length_append]
   omega
theorem size_get {os:List PT} {x:PT} {j:Nat} (h:os[j]?=some x):x.2.length≤sizeP os:=by
 obtain⟨a,b,rfl⟩:=List.append_of_mem (List.mem_of_getElem? h)
 rw[sizeP_append]
 simp[sizeP]
 omega
theorem joinM_take (k:Int) {os:List PT} {j:Nat} {x:PT} (h:os[j]?=some x):joinM k 0 (os.take (j+1))=joinM k 0 (os.take j)++((if j=0 then []else sepM k)++wrapT k j x):=by
 have hj:=(List.getElem?_eq_some_iff.1 h).1
 rw[List.take_add_one,h]
 simp only[Option.toList]
 rw[joinM_snoc,List.length_take,Nat.min_eq_left (by omega),Nat.zero_add]
theorem sizeP_take (os:List PT) (j:Nat):sizeP (os.take j)≤sizeP os:=by
 conv=>rhs;rw[←List.take_append_drop j os,sizeP_append]
 omega
set_option maxHeartbeats 16000000 in
theorem text_of {n:Nat} (H:TxC n):TxC (n+1):=by
 intro w b o cap xs y hn hn2 hW hS hG
 obtain⟨ys,e,os,rfl,hal,hS2,hs⟩:=TrV.inv _ hS
 obtain⟨ks,rfl,hK⟩:=TrV.kids _ hS2
 have hlen:=KidV.length _ hK
 obtain⟨m,hm⟩:=qE ks.flatten.length
 obtain⟨a3,ha3⟩:=qE ks.length
 have hk3:a3≤3:=by rw[ha3,←hlen,hal];exact arity_le _
 simp only[List.length_append,List.length_singleton]at hn hn2
 have hGe:=hG e (by simp)
 have hGk:∀q∈ks.flatten,LooN q∧NumN q:=fun q hq=>hG q (by simp[hq])
 have hsz:=kidP_len hK hGk
 obtain⟨Y,hY⟩:=qE y.2
 have HF:Hid (Win w b o cap (ks.flatten++ [e])∧KidV printV os ks∧os.length=arity e.kind∧os.length=ks.length∧a3=ks.length∧ks.flatten.length+1≤1000∧TxC n∧ks.flatten.length≤n∧(∀q∈ks.flatten,LooN q∧NumN q)∧LooN e∧NumN e∧sizeP os≤500000000∧Y=(printV e os).2):=⟨hW,hK,hal,hlen,ha3,hn2,H,by omega,hGk,hGe.1,hGe.2,by omega,by rw[hY,hs]⟩
 have hcap:=hW.cap
 have hbw:=hW.lt
 have hbig:m+1≤cap:=by have:=hW.len;rw[List.length_append,List.length_singleton]at this;omega
 have HT:Hid (∀wx,Below w.heap.size w wx→Calls Tryz.prog 80 #[.slice (some ⟨b,o,none⟩) (m+1) cap] wx fun r w'=>r=.returned (.int .i64 e.kind)∧w'=wx):=fun wx hx=>by
  rw[hm];exact l5Top_core (hW.below hx)
 have HKs:Hid (Calls Tryz.prog 81 #[.slice (some ⟨b,o,none⟩) (m+1) cap] w fun r w'=>∃g cp,r=.returned (.slice (some ⟨g,0,none⟩) a3 cp)∧OwnV w' w.heap.size g cp (kidVs b o cap ks)∧Below w.heap.size w w'):=by
  rw[ha3,hm];exact l5Kids_core hW (by omega) (KidV.tree _ hK)
 rw[List.length_append,List.length_singleton,←hm,←hY]
 have z1:(0:Int)≤(m:Int):=by omega
 have z3:(m:Int)+1≤(cap:Int):=by omega
 have hza:a3=arity e.kind:=by rw[ha3,←hlen,hal]
 have HA:Hid (a3=arity e.kind∧m=ks.flatten.length):=⟨hza,hm⟩
 clear hW hS hS2 hK hs hal hlen H hm hn hn2 hGe hGk hsz hY hG ha3 hza
 go_enter Tryz.func41,Tryz.ntmps41
 go_wp2_with fail
 refine(HT.out w (Below.refl _ _)).mono ?_
 rintro r w1' ⟨rfl,hw1⟩
 rw[hw1]
 clear hw1
 go_wp2_with fail
 refine HKs.mono ?_
 rintro r w1 ⟨kg,kc,rfl,hO,hb1⟩
 have s1:=hb1.size
 by_cases hz:a3=0
 ·subst hz
  obtain⟨rfl,rfl⟩:ks= []∧os= []:=by
   have h1:=HF.2.2.2.2.1
   have h2:=HF.2.2.2.1
   have h3:ks= []:=List.length_eq_zero_iff.1 h1.symm
   rw[h3]at h2
   exact⟨h3,List.length_eq_zero_iff.1 h2⟩
  have hm0:m=0:=HA.2
  subst hm0
  obtain⟨d0,d1,d2,d3,d4,d5,d6⟩:=(HF.1.at_.below hb1 hbw) 0 e rfl
  simp only[Nat.zero_mul,Nat.add_zero]at d0 d1 d2 d3 d4 d5 d6
  have HL:Hid (Calls Tryz.prog 83 #[.agg #[.int .i64 e.kind,.string e.s,.bool e.hi,.string e.t,.int .u64 e.lo,.int .u64 e.up,.int .i64 e.n]] w1 (LtP Y w1)):=by
   have h9:=l5LeafText_core e w1 HF.2.2.2.2.2.2.2.2.2.1 HF.2.2.2.2.2.2.2.2.2.2.1 HA.1.symm
   rw[show Y=leafM e by rw[HF.2.2.2.2.2.2.2.2.2.2.2.2];simp[printV]]
   exact h9
  go_wp2_with fail
  refine HL.mono ?_
  rintro r w2 ⟨g2,c2,rfl,hW2,hb2⟩
  have HR:Hid (TxP Y w (.returned (.slice (some ⟨g2,0,none⟩) Y.length c2)) w2):=⟨g2,c2,rfl,hW2.mono s1,hb1.trans (hb2.mono s1)⟩
  clear hW2 hb2
  go_wp2_with fail
  go_ret
  exact HR.out
 ·have za:((a3:Int)==0)=false:=by rw[beq_eq_false_iff_ne];omega
  obtain⟨W2,hW2⟩:=qE (w1.alloc (Obj.cells #[] 22):World)
  have hb2:Below w1.heap.size w1 W2:=by rw[hW2];exact qB
  have HJ0:Hid (TxJ w e.kind os kg kc (kidVs b o cap ks) 0 w1.heap.size 0 [] W2):=by
   refine⟨hO.below hb2,?_,by have:=hO.lt.2;omega,rfl,fun j x hj=>by omega,hb1.trans (hb2.mono s1)⟩
   rw[hW2];exact ownVy_new w1 s1
  clear hO hb1 HKs hb2 hz
  go_upto_region 6 with fail
  rw[←hW2]
  clear hW2
  go_wp2_with fail
  go_loopw[5,6] (fun pv iv wr=>∃(i g cp:Nat) (us:List Value),i≤a3∧iv=.int .i64 i∧pv=.slice (some ⟨g,0,none⟩) i cp∧Hid (TxJ w e.kind os kg kc (kidVs b o cap ks) i g cp us wr)) (fun _ iv _=>a3-(intOf iv).toNat)
  case atStart=>exact⟨0,_,0,[],Nat.zero_le _,rfl,rfl,HJ0⟩
  case round=>
   obtain⟨i,g,cp,us,hi,rfl,rfl,HJ⟩:=hrel
   clear HJ0
   have sr:=HJ.below.size
   by_cases hlt:i<a3
   ·have zi:(i:Int)<(a3:Int):=by omega
    obtain⟨k,hk⟩:∃k,ks[i]?=some k:=⟨_,List.getElem?_eq_getElem (by have:=HF.2.2.2.2.1;omega)⟩
    obtain⟨x,hx,hT⟩:=KidV.nth _ HF.2.1 hk
    obtain⟨o',cap',hv,hWk⟩:=kidVs_nth HF.1 hk
    have hc:=HJ.kids.cell hv
    have hkl:=len_flat (List.mem_of_getElem? hk)
    obtain⟨kl,hkl2⟩:=qE k.length
    rw[←hkl2]at hc
    have hxl:=size_get hx
    have HX:Hid (os[i]?=some x∧x.2.length≤500000000):=⟨hx,by have:=HF.2.2.2.2.2.2.2.2.2.2.2.1;omega⟩
    have HC:Hid (Calls Tryz.prog 41 #[.slice (some ⟨b,o',none⟩) kl cap'] wr (TxP x.2 wr)):=by
     rw[hkl2]
     exact HF.2.2.2.2.2.2.1 wr b o' cap' k x (by have:=HF.2.2.2.2.2.2.2.1;omega) (by have:=HF.2.2.2.2.2.1;omega) (hWk.below HJ.below) hT (fun q hq=>HF.2.2.2.2.2.2.2.2.1 q (List.mem_flatten.2 ⟨k,List.mem_of_getElem? hk,hq⟩))
    have HTk:Hid (∀wx,Below wr.heap.size wr wx→Calls Tryz.prog 80 #[.slice (some ⟨b,o',none⟩) kl cap'] wx fun r w'=>r=.returned (.int .i64 x.1)∧w'=wx):=fun wx hxx=>by
     obtain⟨ys',n',hk',hx1⟩:=kid_top hT
     rw[hkl2,hx1]
     have hbx:=HJ.below.trans (hxx.mono HJ.below.size)
     subst hk'
     rw[List.length_append,List.length_singleton]
     exact l5Top_core (hWk.below hbx)
    clear hk hx hT hv hWk hkl hkl2 hxl
    go_wp2_with fail
    refine HC.mono ?_
    rintro r w2 ⟨xg,xc,rfl,hxW,hb2⟩
    obtain⟨xk,xt⟩:=x
    obtain⟨xl,hxl⟩:=qE xt.length
    simp only at hxW HX HTk⊢
    rw[←hxl]
    have s2:=hb2.size
    have hc2:w2.cell? ⟨kg,i,none⟩=some (.slice (some ⟨b,o',none⟩) kl cap'):=by rw[hb2.cell (p:=⟨kg,i,none⟩) HJ.kids.lt.2];exact hc
    have HJ2:Hid (TxJ w e.kind os kg kc (kidVs b o cap ks) i g cp us w2∧WrB w2 wr.heap.size xg xc xt∧xl=xt.length):=⟨HJ.move hb2,hxW,hxl⟩
    have hxlb:xl≤500000000:=by rw[hxl];exact HX.2
    have hTc:=HTk.out w2 hb2
    have HTc:Hid (Calls Tryz.prog 80 #[.slice (some ⟨b,o',none⟩) kl cap'] w2 fun r w'=>r=.returned (.int .i64 xk)∧w'=w2):=hTc
    have hxg:=hxW.lt
    have hxg2:=hxW.le
    have hgg:=HJ.own.lt.2
    clear hxW hc hb2 hxl hTc HTk
    obtain⟨WB,hWB⟩:=qE (wrapB e.kind i xk:Bool)
    have HWr:Hid (Calls Tryz.prog 82 #[.int .i64 e.kind,.int .i64 (i:Int),.int .i64 xk] w2 fun e w'=>e=.returned (.bool WB)∧w'=w2):=by rw[hWB];exact l5WrapB_core e.kind i xk w2
    have HWT:Hid (wrapT e.kind i (xk,xt)=if WB=true then [40]++xt++ [41]else xt):=by show _=_;unfold wrapT;rw[hWB]
    clear hWB
    go_wp2_with fail
    refine HTc.mono ?_
    rintro r w3 ⟨rfl,hw3⟩
    rw[hw3]
    clear hw3
    go_wp2_with fail
    refine HWr.mono ?_
    rintro r w3 ⟨rfl,hw3⟩
    rw[hw3]
    clear hw3 HTc HWr HC
    cases WB
    case false=>
     have HWt:Hid (wrapT e.kind i (xk,xt)=xt):=by show _=_;rw[HWT.out];rfl
     obtain⟨Vf,hVf⟩:=qE (w2.alloc (Obj.cells #[.slice (some ⟨xg,0,none⟩) xl xc] 22):World)
     have hbf:Below w2.heap.size w2 Vf:=by rw[hVf];exact qB
     have sVf:=hbf.size
     have HVf:Hid (TxJ w e.kind os kg kc (kidVs b o cap ks) i g cp us Vf∧Vf.cell? ⟨w2.heap.size,0,none⟩=some (.slice (some ⟨xg,0,none⟩) xl xc)∧BysAt Vf xg 0 (wrapT e.kind i (xk,xt))∧xl=(wrapT e.kind i (xk,xt)).length):=by
      refine⟨HJ2.1.move hbf,by rw[hVf];simp,?_,?_⟩
      ·rw[HWt.out];exact(HJ2.2.1.below hbf).at_
      ·rw[HWt.out];exact HJ2.2.2
     clear hbf
     go_wp2_with (at_builtin;(try rw[←hVf]);refine wpList_append_vy _ rfl _ _ rfl w.heap.size g cp i w2.heap.size us (.slice (some ⟨xg,0,none⟩) xl xc) rfl rfl HVf.1.len.symm HVf.1.own HVf.2.1 rfl ?hlf ?hbf ?_)
     case hlf=>rw[HVf.1.len];omega
     case hbf=>have:=HVf.1.below.size;omega
     intro g5 c5 w5 hO5 hgr5' hat5'
     have hgr5:Vf.grownBy w5 (some g):=by first|exact hgr5'|(rw[hVf];exact hgr5')
     have hat5:g5=g∨g5=Vf.heap.size:=by first|exact hat5'|(rw[hVf];simpa using hat5')
     have HJ5:Hid (TxJ w e.kind os kg kc (kidVs b o cap ks) (i+1) g5 c5 (us++ [.slice (some ⟨xg,0,none⟩) xl xc]) w5):=by
      have hE:=HVf.2.2.2
      have h9:=HVf.1.push (b:=xg) (c:=xc) (x:=(xk,xt)) (g':=g5) (cp':=c5) (w':=w5) (by rw[←hE];exact hO5) hgr5 hat5 HX.1 HVf.2.2.1 (by omega) (by omega) (by omega)
      rw[←hE]at h9
      exact h9
     clear hO5 hgr5 hat5
     try clear hgr5'
     try clear hat5'
     try clear hVf
     exact zzQ78
    case true=>
     have HWt:Hid (wrapT e.kind i (xk,xt)= [40]++xt++ [41]):=by show _=_;rw[HWT.out];rfl
     obtain⟨W3,hW3⟩:=qE (w2.alloc (Obj.cells #[.int .u8 40] 5 (1,2)):World)
     have kd:Sem.run Tryz.prog (convert 22 22 (.slice (some ⟨w2.heap.size,0,none⟩) 1 1)) (w2.alloc (Obj.cells #[.int .u8 40] 5))=.ok (.slice (some ⟨w2.heap.size,0,none⟩) 1 1) W3:=by
      rw[hW3]
      exact Lib.run_convert_bytes_const (P:=Tryz.prog) w2 22 5 #[.int .u8 40] 1 1 Tryz.underlying22 Tryz.underlying5
     have hb3:Below w2.heap.size w2 W3:=by rw[hW3];exact qB
     have HJ3:Hid (TxJ w e.kind os kg kc (kidVs b o cap ks) i g cp us W3∧WrB W3 wr.heap.size xg xc xt∧WrB W3 wr.heap.size w2.heap.size 1 [40]):=by
      refine⟨HJ2.1.move hb3,HJ2.2.1.below hb3,WrB.full (xs:= [40]) (by omega) (by rw[hW3];simp) ?_ (by simp)⟩
      rw[hW3];exact bys_mark w2 _ [40] _ rfl
     have s3:=hb3.size
     have HB3:Hid (Below w2.heap.size w2 W3):=hb3
     clear hW3 hb3
     go_wp2_with (at_builtin;refine wpList_append_wr _ rfl _ _ rfl wr.heap.size w2.heap.size 1 1 xg 0 xl xc [40] xt rfl rfl rfl HJ2.2.2 HJ3.2.2 HJ3.2.1.at_ ?hla ?hba ?_)
     case hla=>rw[←HJ2.2.2];show 1+xl≤_;omega
     case hba=>omega
     intro g4 c4 W4 hW4 hgr4 hat4
     have s4:=hgr4.size
     have b24:Below w2.heap.size w2 W4:=HB3.grown hgr4 s3 (fun q hq=>by cases hq;exact Nat.le_refl _)
     have hg4:w2.heap.size≤g4:=by omega
     obtain⟨X4,hX4⟩:∃X4:List UInt8,X4= [40]++xt:=⟨_,rfl⟩
     have HX4:Hid (X4= [40]++xt):=hX4
     obtain⟨n4,hn4⟩:=qE (1+xl)
     have HN4:Hid (n4=X4.length):=by show n4=_;rw[hn4,hX4,List.length_append,←HJ2.2.2];rfl
     have hn4b:n4≤500000001:=by omega
     have x4b:X4.length≤500000001:=by rw[←HN4.out];exact hn4b
     try rw[←hn4]
     obtain⟨V4,hV4⟩:=qE (W4.alloc (Obj.cells #[.int .u8 41] 5):World)
     have hb4:Below W4.heap.size W4 V4:=by rw[hV4];exact qB
     have sv4:=hb4.size
     have HJ4:Hid (WrB V4 wr.heap.size g4 c4 X4∧BysAt V4 W4.heap.size 0 [41]∧Below w2.heap.size w2 V4):=by
      refine⟨by rw[hX4];exact hW4.below hb4,?_,b24.trans (hb4.mono (by omega))⟩
      rw[hV4];exact bys_new W4 _ [41] rfl
     clear hW4 hgr4 hat4 hX4 hb4 b24 kd hn4
     go_wp2_with (at_builtin;(try rw[←hV4]);refine wpList_append_wr _ rfl _ _ rfl wr.heap.size g4 c4 n4 W4.heap.size 0 1 1 X4 [41] rfl rfl HN4.out rfl HJ4.1 HJ4.2.1 ?hld ?hbd ?_)
     case hld=>first|omega|(show X4.length+1≤_;omega)
     case hbd=>omega
     intro g6 c6 W6 hW6 hgr6' hat6
     have hgr6:V4.grownBy W6 (some g4):=by first|exact hgr6'|(rw[hV4];exact hgr6')
     have s6:=hgr6.size
     have b26:Below w2.heap.size w2 W6:=HJ4.2.2.grown hgr6 (by omega) (fun q hq=>by cases hq;exact hg4)
     obtain⟨X6,hX6⟩:∃X6:List UInt8,X6=X4++ [41]:=⟨_,rfl⟩
     obtain⟨n6,hn6⟩:=qE (n4+1)
     have HJ6:Hid (TxJ w e.kind os kg kc (kidVs b o cap ks) i g cp us W6∧WrB W6 wr.heap.size g6 c6 X6∧n6=X6.length∧ [40]++xt++ [41]=X6):=⟨HJ2.1.move b26,by rw[hX6];exact hW6,by rw[hn6,hX6,List.length_append,←HN4.out];rfl,by rw[hX6,HX4.out]⟩
     have hg6:g6<W6.heap.size:=hW6.lt
     have hg6b:wr.heap.size≤g6:=hW6.le
     try rw[←hn6]
     clear hW6 hgr6 hat6 hX6 b26 hn6
     try clear hgr6'
     try clear hV4
     obtain⟨Vt,hVt⟩:=qE (W6.alloc (Obj.cells #[.slice (some ⟨g6,0,none⟩) n6 c6] 22):World)
     have hbt:Below W6.heap.size W6 Vt:=by rw[hVt];exact qB
     have sVt:=hbt.size
     have HVt:Hid (TxJ w e.kind os kg kc (kidVs b o cap ks) i g cp us Vt∧Vt.cell? ⟨W6.heap.size,0,none⟩=some (.slice (some ⟨g6,0,none⟩) n6 c6)∧BysAt Vt g6 0 (wrapT e.kind i (xk,xt))∧n6=(wrapT e.kind i (xk,xt)).length):=by
      refine⟨HJ6.1.move hbt,by rw[hVt];simp,?_,?_⟩
      ·rw[HWt.out];exact((show WrB W6 wr.heap.size g6 c6 ([40]++xt++ [41])by rw[HJ6.2.2.2];exact HJ6.2.1).below hbt).at_
      ·rw[HWt.out];rw[HJ6.2.2.2];exact HJ6.2.2.1
     clear hbt
     go_wp2_with (at_builtin;(try rw[←hVt]);refine wpList_append_vy _ rfl _ _ rfl w.heap.size g cp i W6.heap.size us (.slice (some ⟨g6,0,none⟩) n6 c6) rfl rfl HVt.1.len.symm HVt.1.own HVt.2.1 rfl ?hlt ?hbt ?_)
     case hlt=>rw[HVt.1.len];omega
     case hbt=>have:=HVt.1.below.size;omega
     intro g5 c5 w5 hO5 hgr5' hat5'
     have hgr5:Vt.grownBy w5 (some g):=by first|exact hgr5'|(rw[hVt];exact hgr5')
     have hat5:g5=g∨g5=Vt.heap.size:=by first|exact hat5'|(rw[hVt];simpa using hat5')
     have HJ5:Hid (TxJ w e.kind os kg kc (kidVs b o cap ks) (i+1) g5 c5 (us++ [.slice (some ⟨g6,0,none⟩) n6 c6]) w5):=by
      have hE:=HVt.2.2.2
      have h9:=HVt.1.push (b:=g6) (c:=c6) (x:=(xk,xt)) (g':=g5) (cp':=c5) (w':=w5) (by rw[←hE];exact hO5) hgr5 hat5 HX.1 HVt.2.2.1 (by omega) (by omega) (by omega)
      rw[←hE]at h9
      exact h9
     clear hO5 hgr5 hat5
     try clear hgr5'
     try clear hat5'
     try clear hVt
     exact zzQ78
   ·have zi:¬(i:Int)<(a3:Int):=by omega
    have hia:a3=i:=by omega
    subst hia
    have hk3:e.kind=14∨e.kind=15∨e.kind=16:=by
     have h1:=HA.1
     unfold arity at h1
     by_cases q:e.kind=14∨e.kind=15
     ·omega
     ·by_cases q2:e.kind=16
      ·exact .inr (.inr q2)
      ·rw[if_neg q,if_neg q2]at h1
       exfalso
       have:((a3:Int)==0)=true:=by rw[h1];rfl
       rw[za]at this
       cases this
    obtain⟨W5,rfl⟩:=qE (wr:World)
    rcases hk3 with hkk|hkk|hkk
    ·have z15:(e.kind==15)=false:=by rw[hkk];decide
     have z16:(e.kind==16)=false:=by rw[hkk];decide
     have HKK:Hid (e.kind=14):=hkk
     have HYY:Hid (Y=([]:List UInt8)++joinM e.kind 0 os++([]:List UInt8)):=by
      show Y=_
      rw[HF.2.2.2.2.2.2.2.2.2.2.2.2]
      have hne:os≠ []:=fun q=>by have h1:=HF.2.2.2.1;have h2:=HF.2.2.2.2.1;rw[q]at h1;simp at h1;have h9:=beq_eq_false_iff_ne.1 za;omega
      simp only[printV]
      rw[if_neg hne,hkk]
      simp
     clear hkk
     obtain⟨V0,hV0⟩:=qE (W5.alloc (Obj.cells #[] 5):World)
     have hb0:Below W5.heap.size W5 V0:=by rw[hV0];exact qB
     have t0:=hb0.size
     have HS:Hid (WrB V0 W5.heap.size W5.heap.size 0 []∧Below W5.heap.size W5 V0):=by
      refine⟨?_,hb0⟩
      rw[hV0];exact(ownY_new W5 (Nat.le_refl _)).wr
     clear hb0
     go_upto_region 15 with fail
     rw[←hV0]
     clear hV0
     go_wp2_with fail
     go_loopw[9,10] (fun ov iv wr=>∃(j og oc nn:Nat) (X:List UInt8),j≤a3∧iv=.int .i64 j∧ov=.slice (some ⟨og,0,none⟩) nn oc∧nn=X.length∧Hid (X=([]:List UInt8)++joinM e.kind 0 (os.take j))∧Hid (WrB wr W5.heap.size og oc X∧Below W5.heap.size W5 wr)) (fun _ iv _=>a3-(intOf iv).toNat)
     case atStart=>exact⟨0,_,0,0,[],Nat.zero_le _,rfl,rfl,rfl,by show _=_;simp[joinM],HS⟩
     case round=>
      clear HS
      obtain⟨j,og,oc,nn,X,hj,rfl,rfl,hnn,HX,HW⟩:=hrel
      have HNN:Hid (nn=X.length):=hnn
      have hxl:X.length≤500000020:=by
       rw[HX.out,List.length_append]
       have h1:=joinM_len e.kind 0 (os.take j)
       have h2:=sizeP_take os j
       have h3:=HF.2.2.2.2.2.2.2.2.2.2.2.1
       have h4:(os.take j).length≤3:=by rw[List.length_take];omega
       have h5:(([]:List UInt8)).length≤3:=by simp
       omega
      have hnl:nn≤500000020:=by omega
      have sq:=HW.2.size
      have oql:=HW.1.lt
      have oqe:=HW.1.le
      clear hnn
      by_cases hjl:j<a3
      ·have zj:(j:Int)<(a3:Int):=by omega
       obtain⟨x,hx⟩:∃x,os[j]?=some x:=⟨_,List.getElem?_eq_getElem (by have:=HF.2.2.2.1;have:=HF.2.2.2.2.1;omega)⟩
       obtain⟨tb,tc,hu,hE,htb1,htb2,_⟩:=HJ.txt j x hjl hx
       obtain⟨tl,htl⟩:=qE ((wrapT e.kind j x).length)
       have hcell:wr.cell? ⟨g,j,none⟩=some (.slice (some ⟨tb,0,none⟩) tl tc):=by rw[HW.2.cell (p:=⟨g,j,none⟩) HJ.own.lt.2,HJ.own.cell hu,htl]
       have htlb:tl≤500000002:=by
        rw[htl]
        have h1:=wrapT_len e.kind j x
        have h2:=size_get hx
        have h3:=HF.2.2.2.2.2.2.2.2.2.2.2.1
        omega
       have HX2:Hid (([]:List UInt8)++joinM e.kind 0 (os.take (j+1))=X++((if j=0 then []else sepM e.kind)++wrapT e.kind j x)):=by
        show _=_
        rw[joinM_take e.kind hx,HX.out]
        simp only[List.append_assoc]
       obtain⟨T,hT⟩:∃T:List UInt8,T=wrapT e.kind j x:=⟨_,rfl⟩
       rw[←hT]at hE htl HX2
       have HT2:Hid (BysAt W5 tb 0 T∧tl=T.length):=⟨hE,htl⟩
       clear hx hu hE htl hT
       by_cases hj0:j=0
       ·have z0:¬(0:Int)<(j:Int):=by omega
        have HX3:Hid (([]:List UInt8)++joinM e.kind 0 (os.take (j+1))=X++T):=by show _=_;rw[HX2.out,if_pos hj0];rfl
        clear hj0
        go_wp2_with (at_builtin;refine wpList_append_wr _ rfl _ _ rfl W5.heap.size og oc nn tb 0 tl tc X T rfl rfl HNN.out HT2.2 HW.1 (HT2.1.below HW.2 htb2) ?hlA14 (by omega) ?_)
        case hlA14=>rw[←HT2.2];omega
        intro og3 oc3 W8 hW8 hgr8 hat8
        obtain⟨n8,hn8⟩:=qE (nn+tl)
        have HR8:Hid (WrB W8 W5.heap.size og3 oc3 (X++T)∧Below W5.heap.size W5 W8):=⟨hW8,WrB.next HW.2 (by omega) (by omega) hgr8⟩
        have HN8:Hid (n8=(X++T).length):=by show _=_;rw[hn8,List.length_append,←HNN.out,←HT2.2]
        obtain⟨X8,hX8⟩:∃X8:List UInt8,X8=X++T:=⟨_,rfl⟩
        rw[←hX8]at HR8 HN8
        have HX8:Hid (X8=([]:List UInt8)++joinM e.kind 0 (os.take (j+1))):=by show _=_;rw[hX8,HX3.out]
        exact zzQ15
       ·have z0:(0:Int)<(j:Int):=by omega
        have HX3:Hid (([]:List UInt8)++joinM e.kind 0 (os.take (j+1))=X++ [32,62,32]++T):=by show _=_;rw[HX2.out,if_neg hj0,HKK.out];simp[sepM]
        obtain⟨VS,hVS⟩:=qE (Lib.bytesWorld wr 5 ⟨#[32,62,32]⟩)
        obtain⟨cs,hcs⟩:=qE (grownCap wr 3 0 5)
        have hcv:Sem.run Tryz.prog (convert 9 22 (.string ⟨#[32,62,32]⟩)) wr=.ok (.slice (some ⟨wr.heap.size,0,none⟩) 3 cs) VS:=by
         rw[hVS,hcs]
         exact Lib.run_convert_string_bytes (P:=Tryz.prog) wr 9 22 5 ⟨#[32,62,32]⟩ Tryz.underlying9 Tryz.underlying22 Tryz.underlying5
        have hbs:=below_bytes wr ⟨#[32,62,32]⟩
        rw[←hVS]at hbs
        have svs:=hbs.size
        have HVS:Hid (WrB VS W5.heap.size og oc X∧Below W5.heap.size W5 VS∧BysAt VS wr.heap.size 0 [32,62,32]):=by
         refine⟨HW.1.below hbs,HW.2.trans (hbs.mono sq),?_⟩
         rw[hVS];exact bys_bytes wr ⟨#[32,62,32]⟩
        clear hVS hcs hbs
        go_wp2_with (at_builtin;refine wpList_append_wr _ rfl _ _ rfl W5.heap.size og oc nn wr.heap.size 0 3 cs X [32,62,32] rfl rfl HNN.out rfl HVS.1 HVS.2.2 ?hlS14 ?hbS14 ?_)
        case hlS14=>first|omega|(show X.length+3≤_;omega)
        case hbS14=>omega
        intro og2 oc2 W7 hW7 hgr7 hat7
        have s7:=hgr7.size
        obtain⟨X7,hX7⟩:∃X7:List UInt8,X7=X++ [32,62,32]:=⟨_,rfl⟩
        obtain⟨n7,hn7⟩:=qE (nn+3)
        have HW7:Hid (WrB W7 W5.heap.size og2 oc2 X7∧Below W5.heap.size W5 W7):=⟨by rw[hX7];exact hW7,WrB.next HVS.2.1 (by omega) oqe hgr7⟩
        have HN7:Hid (n7=X7.length):=by show _=_;rw[hn7,hX7,List.length_append,←HNN.out];rfl
        have HX7:Hid (([]:List UInt8)++joinM e.kind 0 (os.take (j+1))=X7++T):=by show _=_;rw[HX3.out,hX7]
        have x7:X7.length≤500000023:=by rw[hX7,List.length_append];show X.length+3≤_;omega
        have o7:=HW7.1.lt
        have o7e:=HW7.1.le
        have hcell7:W7.cell? ⟨g,j,none⟩=some (.slice (some ⟨tb,0,none⟩) tl tc):=by
         have h8:=HW7.2.cell (p:=⟨g,j,none⟩) HJ.own.lt.2
         rw[h8,←HW.2.cell (p:=⟨g,j,none⟩) HJ.own.lt.2];exact hcell
        try rw[←hn7]
        clear hW7 hgr7 hat7 hX7 hn7 hcv hcell
        go_wp2_with (at_builtin;refine wpList_append_wr _ rfl _ _ rfl W5.heap.size og2 oc2 n7 tb 0 tl tc X7 T rfl rfl HN7.out HT2.2 HW7.1 (HT2.1.below HW7.2 htb2) ?hlB14 (by omega) ?_)
        case hlB14=>rw[←HT2.2];omega
        intro og3 oc3 W8 hW8 hgr8 hat8
        obtain⟨n8,hn8⟩:=qE (n7+tl)
        have HR8:Hid (WrB W8 W5.heap.size og3 oc3 (X7++T)∧Below W5.heap.size W5 W8):=⟨hW8,WrB.next HW7.2 (by omega) (by omega) hgr8⟩
        have HN8:Hid (n8=(X7++T).length):=by show _=_;rw[hn8,List.length_append,←HN7.out,←HT2.2]
        obtain⟨X8,hX8⟩:∃X8:List UInt8,X8=X7++T:=⟨_,rfl⟩
        rw[←hX8]at HR8 HN8
        have HX8:Hid (X8=([]:List UInt8)++joinM e.kind 0 (os.take (j+1))):=by show _=_;rw[hX8,HX7.out]
        exact zzQ15
      ·exact zzQ34
    ·have z15:(e.kind==15)=true:=by rw[hkk];decide
     have z16:(e.kind==16)=false:=by rw[hkk];decide
     have HKK:Hid (e.kind=15):=hkk
     have HYY:Hid (Y=([]:List UInt8)++joinM e.kind 0 os++([]:List UInt8)):=by
      show Y=_
      rw[HF.2.2.2.2.2.2.2.2.2.2.2.2]
      have hne:os≠ []:=fun q=>by have h1:=HF.2.2.2.1;have h2:=HF.2.2.2.2.1;rw[q]at h1;simp at h1;have h9:=beq_eq_false_iff_ne.1 za;omega
      simp only[printV]
      rw[if_neg hne,hkk]
      simp
     clear hkk
     obtain⟨V0,hV0⟩:=qE (W5.alloc (Obj.cells #[] 5):World)
     have hb0:Below W5.heap.size W5 V0:=by rw[hV0];exact qB
     have t0:=hb0.size
     have HS:Hid (WrB V0 W5.heap.size W5.heap.size 0 []∧Below W5.heap.size W5 V0):=by
      refine⟨?_,hb0⟩
      rw[hV0];exact(ownY_new W5 (Nat.le_refl _)).wr
     clear hb0
     go_upto_region 15 with fail
     rw[←hV0]
     clear hV0
     go_wp2_with fail
     go_loopw[9,10] (fun ov iv wr=>∃(j og oc nn:Nat) (X:List UInt8),j≤a3∧iv=.int .i64 j∧ov=.slice (some ⟨og,0,none⟩) nn oc∧nn=X.length∧Hid (X=([]:List UInt8)++joinM e.kind 0 (os.take j))∧Hid (WrB wr W5.heap.size og oc X∧Below W5.heap.size W5 wr)) (fun _ iv _=>a3-(intOf iv).toNat)
     case atStart=>exact⟨0,_,0,0,[],Nat.zero_le _,rfl,rfl,rfl,by show _=_;simp[joinM],HS⟩
     case round=>
      clear HS
      obtain⟨j,og,oc,nn,X,hj,rfl,rfl,hnn,HX,HW⟩:=hrel
      have HNN:Hid (nn=X.length):=hnn
      have hxl:X.length≤500000020:=by
       rw[HX.out,List.length_append]
       have h1:=joinM_len e.kind 0 (os.take j)
       have h2:=sizeP_take os j
       have h3:=HF.2.2.2.2.2.2.2.2.2.2.2.1
       have h4:(os.take j).length≤3:=by rw[List.length_take];omega
       have h5:(([]:List UInt8)).length≤3:=by simp
       omega
      have hnl:nn≤500000020:=by omega
      have sq:=HW.2.size
      have oql:=HW.1.lt
      have oqe:=HW.1.le
      clear hnn
      by_cases hjl:j<a3
      ·have zj:(j:Int)<(a3:Int):=by omega
       obtain⟨x,hx⟩:∃x,os[j]?=some x:=⟨_,List.getElem?_eq_getElem (by have:=HF.2.2.2.1;have:=HF.2.2.2.2.1;omega)⟩
       obtain⟨tb,tc,hu,hE,htb1,htb2,_⟩:=HJ.txt j x hjl hx
       obtain⟨tl,htl⟩:=qE ((wrapT e.kind j x).length)
       have hcell:wr.cell? ⟨g,j,none⟩=some (.slice (some ⟨tb,0,none⟩) tl tc):=by rw[HW.2.cell (p:=⟨g,j,none⟩) HJ.own.lt.2,HJ.own.cell hu,htl]
       have htlb:tl≤500000002:=by
        rw[htl]
        have h1:=wrapT_len e.kind j x
        have h2:=size_get hx
        have h3:=HF.2.2.2.2.2.2.2.2.2.2.2.1
        omega
       have HX2:Hid (([]:List UInt8)++joinM e.kind 0 (os.take (j+1))=X++((if j=0 then []else sepM e.kind)++wrapT e.kind j x)):=by
        show _=_
        rw[joinM_take e.kind hx,HX.out]
        simp only[List.append_assoc]
       obtain⟨T,hT⟩:∃T:List UInt8,T=wrapT e.kind j x:=⟨_,rfl⟩
       rw[←hT]at hE htl HX2
       have HT2:Hid (BysAt W5 tb 0 T∧tl=T.length):=⟨hE,htl⟩
       clear hx hu hE htl hT
       by_cases hj0:j=0
       ·have z0:¬(0:Int)<(j:Int):=by omega
        have HX3:Hid (([]:List UInt8)++joinM e.kind 0 (os.take (j+1))=X++T):=by show _=_;rw[HX2.out,if_pos hj0];rfl
        clear hj0
        go_wp2_with (at_builtin;refine wpList_append_wr _ rfl _ _ rfl W5.heap.size og oc nn tb 0 tl tc X T rfl rfl HNN.out HT2.2 HW.1 (HT2.1.below HW.2 htb2) ?hlA15 (by omega) ?_)
        case hlA15=>rw[←HT2.2];omega
        intro og3 oc3 W8 hW8 hgr8 hat8
        obtain⟨n8,hn8⟩:=qE (nn+tl)
        have HR8:Hid (WrB W8 W5.heap.size og3 oc3 (X++T)∧Below W5.heap.size W5 W8):=⟨hW8,WrB.next HW.2 (by omega) (by omega) hgr8⟩
        have HN8:Hid (n8=(X++T).length):=by show _=_;rw[hn8,List.length_append,←HNN.out,←HT2.2]
        obtain⟨X8,hX8⟩:∃X8:List UInt8,X8=X++T:=⟨_,rfl⟩
        rw[←hX8]at HR8 HN8
        have HX8:Hid (X8=([]:List UInt8)++joinM e.kind 0 (os.take (j+1))):=by show _=_;rw[hX8,HX3.out]
        exact zzQ15
       ·have z0:(0:Int)<(j:Int):=by omega
        have HX3:Hid (([]:List UInt8)++joinM e.kind 0 (os.take (j+1))=X++ [32,124,32]++T):=by show _=_;rw[HX2.out,if_neg hj0,HKK.out];simp[sepM]
        obtain⟨VS,hVS⟩:=qE (Lib.bytesWorld wr 5 ⟨#[32,124,32]⟩)
        obtain⟨cs,hcs⟩:=qE (grownCap wr 3 0 5)
        have hcv:Sem.run Tryz.prog (convert 9 22 (.string ⟨#[32,124,32]⟩)) wr=.ok (.slice (some ⟨wr.heap.size,0,none⟩) 3 cs) VS:=by
         rw[hVS,hcs]
         exact Lib.run_convert_string_bytes (P:=Tryz.prog) wr 9 22 5 ⟨#[32,124,32]⟩ Tryz.underlying9 Tryz.underlying22 Tryz.underlying5
        have hbs:=below_bytes wr ⟨#[32,124,32]⟩
        rw[←hVS]at hbs
        have svs:=hbs.size
        have HVS:Hid (WrB VS W5.heap.size og oc X∧Below W5.heap.size W5 VS∧BysAt VS wr.heap.size 0 [32,124,32]):=by
         refine⟨HW.1.below hbs,HW.2.trans (hbs.mono sq),?_⟩
         rw[hVS];exact bys_bytes wr ⟨#[32,124,32]⟩
        clear hVS hcs hbs
        go_wp2_with (at_builtin;refine wpList_append_wr _ rfl _ _ rfl W5.heap.size og oc nn wr.heap.size 0 3 cs X [32,124,32] rfl rfl HNN.out rfl HVS.1 HVS.2.2 ?hlS15 ?hbS15 ?_)
        case hlS15=>first|omega|(show X.length+3≤_;omega)
        case hbS15=>omega
        intro og2 oc2 W7 hW7 hgr7 hat7
        have s7:=hgr7.size
        obtain⟨X7,hX7⟩:∃X7:List UInt8,X7=X++ [32,124,32]:=⟨_,rfl⟩
        obtain⟨n7,hn7⟩:=qE (nn+3)
        have HW7:Hid (WrB W7 W5.heap.size og2 oc2 X7∧Below W5.heap.size W5 W7):=⟨by rw[hX7];exact hW7,WrB.next HVS.2.1 (by omega) oqe hgr7⟩
        have HN7:Hid (n7=X7.length):=by show _=_;rw[hn7,hX7,List.length_append,←HNN.out];rfl
        have HX7:Hid (([]:List UInt8)++joinM e.kind 0 (os.take (j+1))=X7++T):=by show _=_;rw[HX3.out,hX7]
        have x7:X7.length≤500000023:=by rw[hX7,List.length_append];show X.length+3≤_;omega
        have o7:=HW7.1.lt
        have o7e:=HW7.1.le
        have hcell7:W7.cell? ⟨g,j,none⟩=some (.slice (some ⟨tb,0,none⟩) tl tc):=by
         have h8:=HW7.2.cell (p:=⟨g,j,none⟩) HJ.own.lt.2
         rw[h8,←HW.2.cell (p:=⟨g,j,none⟩) HJ.own.lt.2];exact hcell
        try rw[←hn7]
        clear hW7 hgr7 hat7 hX7 hn7 hcv hcell
        go_wp2_with (at_builtin;refine wpList_append_wr _ rfl _ _ rfl W5.heap.size og2 oc2 n7 tb 0 tl tc X7 T rfl rfl HN7.out HT2.2 HW7.1 (HT2.1.below HW7.2 htb2) ?hlB15 (by omega) ?_)
        case hlB15=>rw[←HT2.2];omega
        intro og3 oc3 W8 hW8 hgr8 hat8
        obtain⟨n8,hn8⟩:=qE (n7+tl)
        have HR8:Hid (WrB W8 W5.heap.size og3 oc3 (X7++T)∧Below W5.heap.size W5 W8):=⟨hW8,WrB.next HW7.2 (by omega) (by omega) hgr8⟩
        have HN8:Hid (n8=(X7++T).length):=by show _=_;rw[hn8,List.length_append,←HN7.out,←HT2.2]
        obtain⟨X8,hX8⟩:∃X8:List UInt8,X8=X7++T:=⟨_,rfl⟩
        rw[←hX8]at HR8 HN8
        have HX8:Hid (X8=([]:List UInt8)++joinM e.kind 0 (os.take (j+1))):=by show _=_;rw[hX8,HX7.out]
        exact zzQ15
      ·exact zzQ34
    ·have z15:(e.kind==15)=false:=by rw[hkk];decide
     have z16:(e.kind==16)=true:=by rw[hkk];decide
     have HKK:Hid (e.kind=16):=hkk
     have HYY:Hid (Y= [105,102,40]++joinM e.kind 0 os++ [41]):=by
      show Y=_
      rw[HF.2.2.2.2.2.2.2.2.2.2.2.2]
      have hne:os≠ []:=fun q=>by have h1:=HF.2.2.2.1;have h2:=HF.2.2.2.2.1;rw[q]at h1;simp at h1;have h9:=beq_eq_false_iff_ne.1 za;omega
      simp only[printV]
      rw[if_neg hne,hkk]
      simp
     clear hkk
     obtain⟨V0,hV0⟩:=qE (W5.alloc (Obj.cells #[] 5):World)
     have hb0:Below W5.heap.size W5 V0:=by rw[hV0];exact qB
     have t0:=hb0.size
     obtain⟨V1,hV1⟩:=qE (V0.alloc (Obj.cells #[.int .u8 105,.int .u8 102,.int .u8 40] 5 (3,4)):World)
     have kd:Sem.run Tryz.prog (convert 22 22 (.slice (some ⟨V0.heap.size,0,none⟩) 3 3)) (V0.alloc (Obj.cells #[.int .u8 105,.int .u8 102,.int .u8 40] 5))=.ok (.slice (some ⟨V0.heap.size,0,none⟩) 3 3) V1:=by
      rw[hV1]
      exact Lib.run_convert_bytes_const (P:=Tryz.prog) V0 22 5 #[.int .u8 105,.int .u8 102,.int .u8 40] 3 3 Tryz.underlying22 Tryz.underlying5
     have hb1':Below V0.heap.size V0 V1:=by rw[hV1];exact qB
     have HS:Hid (WrB V1 W5.heap.size V0.heap.size 3 [105,102,40]∧Below W5.heap.size W5 V1):=by
      refine⟨WrB.full (xs:= [105,102,40]) t0 (by rw[hV1];simp) ?_ (by simp),hb0.trans (hb1'.mono t0)⟩
      rw[hV1];exact bys_mark V0 _ [105,102,40] _ rfl
     clear hV1 hb1' hb0
     go_upto_region 15 with fail
     rw[←hV0]
     clear hV0
     go_wp2_with fail
     clear kd
     go_loopw[9,10] (fun ov iv wr=>∃(j og oc nn:Nat) (X:List UInt8),j≤a3∧iv=.int .i64 j∧ov=.slice (some ⟨og,0,none⟩) nn oc∧nn=X.length∧Hid (X= [105,102,40]++joinM e.kind 0 (os.take j))∧Hid (WrB wr W5.heap.size og oc X∧Below W5.heap.size W5 wr)) (fun _ iv _=>a3-(intOf iv).toNat)
     case atStart=>exact⟨0,_,3,3,[105,102,40],Nat.zero_le _,rfl,rfl,rfl,by show _=_;simp[joinM],HS⟩
     case round=>
      clear HS
      obtain⟨j,og,oc,nn,X,hj,rfl,rfl,hnn,HX,HW⟩:=hrel
      have HNN:Hid (nn=X.length):=hnn
      have hxl:X.length≤500000020:=by
       rw[HX.out,List.length_append]
       have h1:=joinM_len e.kind 0 (os.take j)
       have h2:=sizeP_take os j
       have h3:=HF.2.2.2.2.2.2.2.2.2.2.2.1
       have h4:(os.take j).length≤3:=by rw[List.length_take];omega
       have h5:([105,102,40]).length≤3:=by simp
       omega
      have hnl:nn≤500000020:=by omega
      have sq:=HW.2.size
      have oql:=HW.1.lt
      have oqe:=HW.1.le
      clear hnn
      by_cases hjl:j<a3
      ·have zj:(j:Int)<(a3:Int):=by omega
       obtain⟨x,hx⟩:∃x,os[j]?=some x:=⟨_,List.getElem?_eq_getElem (by have:=HF.2.2.2.1;have:=HF.2.2.2.2.1;omega)⟩
       obtain⟨tb,tc,hu,hE,htb1,htb2,_⟩:=HJ.txt j x hjl hx
       obtain⟨tl,htl⟩:=qE ((wrapT e.kind j x).length)
       have hcell:wr.cell? ⟨g,j,none⟩=some (.slice (some ⟨tb,0,none⟩) tl tc):=by rw[HW.2.cell (p:=⟨g,j,none⟩) HJ.own.lt.2,HJ.own.cell hu,htl]
       have htlb:tl≤500000002:=by
        rw[htl]
        have h1:=wrapT_len e.kind j x
        have h2:=size_get hx
        have h3:=HF.2.2.2.2.2.2.2.2.2.2.2.1
        omega
       have HX2:Hid ([105,102,40]++joinM e.kind 0 (os.take (j+1))=X++((if j=0 then []else sepM e.kind)++wrapT e.kind j x)):=by
        show _=_
        rw[joinM_take e.kind hx,HX.out]
        simp only[List.append_assoc]
       obtain⟨T,hT⟩:∃T:List UInt8,T=wrapT e.kind j x:=⟨_,rfl⟩
       rw[←hT]at hE htl HX2
       have HT2:Hid (BysAt W5 tb 0 T∧tl=T.length):=⟨hE,htl⟩
       clear hx hu hE htl hT
       by_cases hj0:j=0
       ·have z0:¬(0:Int)<(j:Int):=by omega
        have HX3:Hid ([105,102,40]++joinM e.kind 0 (os.take (j+1))=X++T):=by show _=_;rw[HX2.out,if_pos hj0];rfl
        clear hj0
        go_wp2_with (at_builtin;refine wpList_append_wr _ rfl _ _ rfl W5.heap.size og oc nn tb 0 tl tc X T rfl rfl HNN.out HT2.2 HW.1 (HT2.1.below HW.2 htb2) ?hlA16 (by omega) ?_)
        case hlA16=>rw[←HT2.2];omega
        intro og3 oc3 W8 hW8 hgr8 hat8
        obtain⟨n8,hn8⟩:=qE (nn+tl)
        have HR8:Hid (WrB W8 W5.heap.size og3 oc3 (X++T)∧Below W5.heap.size W5 W8):=⟨hW8,WrB.next HW.2 (by omega) (by omega) hgr8⟩
        have HN8:Hid (n8=(X++T).length):=by show _=_;rw[hn8,List.length_append,←HNN.out,←HT2.2]
        obtain⟨X8,hX8⟩:∃X8:List UInt8,X8=X++T:=⟨_,rfl⟩
        rw[←hX8]at HR8 HN8
        have HX8:Hid (X8= [105,102,40]++joinM e.kind 0 (os.take (j+1))):=by show _=_;rw[hX8,HX3.out]
        exact zzQ15
       ·have z0:(0:Int)<(j:Int):=by omega
        have HX3:Hid ([105,102,40]++joinM e.kind 0 (os.take (j+1))=X++ [44,32]++T):=by show _=_;rw[HX2.out,if_neg hj0,HKK.out];simp[sepM]
        obtain⟨VS,hVS⟩:=qE (Lib.bytesWorld wr 5 ⟨#[44,32]⟩)
        obtain⟨cs,hcs⟩:=qE (grownCap wr 2 0 5)
        have hcv:Sem.run Tryz.prog (convert 9 22 (.string ⟨#[44,32]⟩)) wr=.ok (.slice (some ⟨wr.heap.size,0,none⟩) 2 cs) VS:=by
         rw[hVS,hcs]
         exact Lib.run_convert_string_bytes (P:=Tryz.prog) wr 9 22 5 ⟨#[44,32]⟩ Tryz.underlying9 Tryz.underlying22 Tryz.underlying5
        have hbs:=below_bytes wr ⟨#[44,32]⟩
        rw[←hVS]at hbs
        have svs:=hbs.size
        have HVS:Hid (WrB VS W5.heap.size og oc X∧Below W5.heap.size W5 VS∧BysAt VS wr.heap.size 0 [44,32]):=by
         refine⟨HW.1.below hbs,HW.2.trans (hbs.mono sq),?_⟩
         rw[hVS];exact bys_bytes wr ⟨#[44,32]⟩
        clear hVS hcs hbs
        go_wp2_with (at_builtin;refine wpList_append_wr _ rfl _ _ rfl W5.heap.size og oc nn wr.heap.size 0 2 cs X [44,32] rfl rfl HNN.out rfl HVS.1 HVS.2.2 ?hlS16 ?hbS16 ?_)
        case hlS16=>first|omega|(show X.length+2≤_;omega)
        case hbS16=>omega
        intro og2 oc2 W7 hW7 hgr7 hat7
        have s7:=hgr7.size
        obtain⟨X7,hX7⟩:∃X7:List UInt8,X7=X++ [44,32]:=⟨_,rfl⟩
        obtain⟨n7,hn7⟩:=qE (nn+2)
        have HW7:Hid (WrB W7 W5.heap.size og2 oc2 X7∧Below W5.heap.size W5 W7):=⟨by rw[hX7];exact hW7,WrB.next HVS.2.1 (by omega) oqe hgr7⟩
        have HN7:Hid (n7=X7.length):=by show _=_;rw[hn7,hX7,List.length_append,←HNN.out];rfl
        have HX7:Hid ([105,102,40]++joinM e.kind 0 (os.take (j+1))=X7++T):=by show _=_;rw[HX3.out,hX7]
        have x7:X7.length≤500000023:=by rw[hX7,List.length_append];show X.length+2≤_;omega
        have o7:=HW7.1.lt
        have o7e:=HW7.1.le
        have hcell7:W7.cell? ⟨g,j,none⟩=some (.slice (some ⟨tb,0,none⟩) tl tc):=by
         have h8:=HW7.2.cell (p:=⟨g,j,none⟩) HJ.own.lt.2
         rw[h8,←HW.2.cell (p:=⟨g,j,none⟩) HJ.own.lt.2];exact hcell
        try rw[←hn7]
        clear hW7 hgr7 hat7 hX7 hn7 hcv hcell
        go_wp2_with (at_builtin;refine wpList_append_wr _ rfl _ _ rfl W5.heap.size og2 oc2 n7 tb 0 tl tc X7 T rfl rfl HN7.out HT2.2 HW7.1 (HT2.1.below HW7.2 htb2) ?hlB16 (by omega) ?_)
        case hlB16=>rw[←HT2.2];omega
        intro og3 oc3 W8 hW8 hgr8 hat8
        obtain⟨n8,hn8⟩:=qE (n7+tl)
        have HR8:Hid (WrB W8 W5.heap.size og3 oc3 (X7++T)∧Below W5.heap.size W5 W8):=⟨hW8,WrB.next HW7.2 (by omega) (by omega) hgr8⟩
        have HN8:Hid (n8=(X7++T).length):=by show _=_;rw[hn8,List.length_append,←HN7.out,←HT2.2]
        obtain⟨X8,hX8⟩:∃X8:List UInt8,X8=X7++T:=⟨_,rfl⟩
        rw[←hX8]at HR8 HN8
        have HX8:Hid (X8= [105,102,40]++joinM e.kind 0 (os.take (j+1))):=by show _=_;rw[hX8,HX7.out]
        exact zzQ15
      ·have zj:¬(j:Int)<(a3:Int):=by omega
       have HXE:Hid (Y=X++ [41]):=by
        show _=_
        have h1:=HX.out
        rw[List.take_of_length_le (by have:=HF.2.2.2.1;have:=HF.2.2.2.2.1;omega)]at h1
        rw[HYY.out,h1]
       obtain⟨VE,hVE⟩:=qE (wr.alloc (Obj.cells #[.int .u8 41] 5):World)
       have hbE:Below wr.heap.size wr VE:=by rw[hVE];exact qB
       have sE:=hbE.size
       have HVE:Hid (WrB VE W5.heap.size og oc X∧Below W5.heap.size W5 VE∧BysAt VE wr.heap.size 0 [41]):=by
        refine⟨HW.1.below hbE,HW.2.trans (hbE.mono sq),?_⟩
        rw[hVE];exact bys_new wr _ [41] rfl
       clear hbE
       go_wp2_with (at_builtin;(try rw[←hVE]);refine wpList_append_wr _ rfl _ _ rfl W5.heap.size og oc nn wr.heap.size 0 1 1 X [41] rfl rfl HNN.out rfl HVE.1 HVE.2.2 ?hlE ?hbE ?_)
       case hlE=>first|omega|(show X.length+1≤_;omega)
       case hbE=>omega
       intro og9 oc9 W9 hW9 hgr9' hat9
       have hgr9:VE.grownBy W9 (some og):=by first|exact hgr9'|(rw[hVE];exact hgr9')
       have HRE:Hid (TxP Y w (.returned (.slice (some ⟨og9,0,none⟩) (nn+1) oc9)) W9):=by
        refine⟨og9,oc9,by rw[HXE.out,List.length_append,←HNN.out];rfl,?_,HJ.below.trans ((WrB.next HVE.2.1 (by omega) oqe hgr9).mono sr)⟩
        rw[HXE.out];exact hW9.mono sr
       clear hW9 hgr9 hat9
       try clear hgr9'
       try clear hVE
       go_wp2_with fail
       go_ret
       exact HRE.out
theorem text_all:∀n,TxC n
 |0=>fun w b o cap xs y hn _ _ hS _=>by
  obtain⟨ys,e,os,rfl,_⟩:=TrV.inv _ hS
  simp at hn
 |n+1=>text_of (text_all n)
end Go.Proofs.YtgnpcenpcmdlfaaGreatDoor
namespace Go.Proofs.YtgnpcenpcmdlfaaGreatDoor
set_option linter.unusedVariables false
set_option linter.unusedSimpArgs false
end Go.Proofs.YtgnpcenpcmdlfaaGreatDoor
namespace Go.Proofs.YtgnpcenpcmdlfaaGreatDoor
open Go.ChangeShapes Go.WideShapes Go.ChangeAt Go.RowKit Go.Deep
set_option linter.unusedVariables false
set_option linter.unusedSimpArgs false
set_option maxRecDepth 100000
def OwnS (w:World) (base:Nat) (v:Value) (l:List UInt8):Prop:=w.ownsRow base 5 1 v l.length (l.map ub)
theorem OwnS.slice {w:World} {base:Nat} {v:Value} {l:List UInt8} (h:OwnS w base v l):∃a cp,v=.slice a l.length cp:=by
 rcases h.2 with⟨rfl,h0⟩|⟨g,cap,cur,rfl,_⟩
 ·exact⟨none,0,by rw[h0]⟩
 ·exact⟨_,_,rfl⟩
theorem OwnS.row {w:World} {base:Nat} {v:Value} {l:List UInt8} (h:OwnS w base v l):∀k,v.ownBlock=some k→base≤k∧k<w.heap.size:=fun k hk=>World.ownsRow.lt h k hk
theorem OwnS.chg {S:Nat→Prop} {w w':World} {base:Nat} {v:Value} {l:List UInt8} (h:OwnS w base v l) (hc:Chg S w w') (hn:∀k,v.ownBlock=some k→¬S k):OwnS w' base v l:=own_chg h hc hn
end Go.Proofs.YtgnpcenpcmdlfaaGreatDoor
