import Derived.Test.YtgnpcenpcmdlfaaGreatDoorWkAA
import Derived.Test.YtgnpcenpcmdlfaaGreatDoorWkAL
import Derived.Test.YtgnpcenpcmdlfaaGreatDoorWkAC
import Derived.Test.YtgnpcenpcmdlfaaGreatDoorWkAB
import Derived.Test.YtgnpcenpcmdlfaaGreatDoorWkAJ
import Derived.Great.BuildSlice
import Derived.Deep.LoopGhost
import Derived.Deep.CutBlock
namespace Go.Proofs.YtgnpcenpcmdlfaaGreatDoor
open Go.ChangeShapes Go.WideShapes Go.ChangeAt Go.RowKit Go.Deep
set_option linter.unusedVariables false
set_option linter.unusedSimpArgs false
set_option maxRecDepth 100000
def argP (kd:Int) (s:Ps):PR (Ps×Nd):=match argsF kd s.ks with
 | .error e=>.error e
 | .ok (ks,nd)=>.ok ({s with ks:=ks},nd)
def BehP (base g b off n cap:Nat) (t:List UInt8) (d:Nat) (A:PR (Ps×Nd)→Prop) (nv:Value) (w:World) (e:Ending) (w':World):Prop:=Hid (Chg (fun q=>q=g∨nv.ownBlock=some q) w w')∧((∃s1 nd,A (.ok (s1,nd))∧e=.returned nd.v∧FpQ base g b off n cap t d nv w s1 w')∨(∃c a,A (.error (c,a))∧e=Pf c ((a:Nat):Int)))
theorem argP_nostr {kd:Int} {s:Ps} {k:Tk} {ks:List Tk} (h4:4≤kd) (h7:kd≤7) (hk:s.ks=k::ks) (hn:∀sx,¬k.k=.str sx):argP kd s=.error (3,k.pos):=by
 have h1:hdK s.ks=k.k:=by rw[hk];rfl
 have h2:hdA s.ks=k.pos:=by rw[hk];rfl
 unfold argP argsF
 rw[if_neg (by omega),if_pos h7,h1,h2]
 cases hq:k.k with
 |str sx=>exact absurd hq (hn sx)
 |word _=>rfl
 |num _=>rfl
 |sign _=>rfl
 |fin=>rfl
 |bad=>rfl
theorem argP_str {kd:Int} {s:Ps} {k:Tk} {ks:List Tk} {sx:ByteArray} (h4:4≤kd) (h7:kd≤7) (hk:s.ks=k::ks) (hs:k.k=.str sx):((checkM (sb sx)).1=0→argP kd s=(match takeF s.ks with
   | .error e=>.error e
   | .ok k2=>.ok ({s with ks:=k2},patN kd sx)))∧(¬(checkM (sb sx)).1=0→argP kd s=.error (6,k.pos)):=by
 have h1:hdK s.ks=.str sx:=by rw[hk];exact hs
 have h2:hdA s.ks=k.pos:=by rw[hk];rfl
 unfold argP argsF
 rw[if_neg (by omega),if_pos h7,h1,h2]
 dsimp only
 constructor
 ·intro q
  rw[if_pos q]
  cases takeF s.ks<;>rfl
 ·intro q
  rw[if_neg q]
theorem argP_nonum {kd:Int} {s:Ps} {k:Tk} {ks:List Tk} (h4:11≤kd) (hk:s.ks=k::ks) (hn:∀v,¬k.k=.num v):argP kd s=.error (3,k.pos):=by
 have h1:hdK s.ks=k.k:=by rw[hk];rfl
 have h2:hdA s.ks=k.pos:=by rw[hk];rfl
 unfold argP argsF
 rw[if_neg (by omega),if_neg (by omega),if_neg (by omega),if_neg (by omega),h1,h2]
 cases hq:k.k with
 |num v=>exact absurd hq (hn v)
 |word _=>rfl
 |str _=>rfl
 |sign _=>rfl
 |fin=>rfl
 |bad=>rfl
theorem argP_num {kd:Int} {s:Ps} {k:Tk} {ks:List Tk} {v:Int} (h4:11≤kd) (hk:s.ks=k::ks) (hs:k.k=.num v):((1≤v∧v≤1000)→argP kd s=(match takeF s.ks with
   | .error e=>.error e
   | .ok k2=>.ok ({s with ks:=k2},cntN kd v)))∧(¬(1≤v∧v≤1000)→argP kd s=.error (8,k.pos)):=by
 have h1:hdK s.ks=.num v:=by rw[hk];exact hs
 have h2:hdA s.ks=k.pos:=by rw[hk];rfl
 unfold argP argsF
 rw[if_neg (by omega),if_neg (by omega),if_neg (by omega),if_neg (by omega),h1,h2]
 dsimp only
 constructor
 ·intro q
  rw[if_pos q]
  cases takeF s.ks<;>rfl
 ·intro q
  rw[if_neg q]
def setN (w:World) (g:Nat) (e:Nd):World:=((((((w.setCell ⟨g,0,none⟩ (.int .i64 e.kind)).setCell ⟨g,1,none⟩ (.string e.s)).setCell ⟨g,2,none⟩ (.bool e.hi)).setCell ⟨g,3,none⟩ (.string e.t)).setCell ⟨g,4,none⟩ (.int .u64 e.lo)).setCell ⟨g,5,none⟩ (.int .u64 e.up)).setCell ⟨g,6,none⟩ (.int .i64 e.n)
theorem BoxAt.setN {w:World} {base ty g:Nat} {vs:List Value} (h:BoxAt w base ty 7 g vs) (e:Nd):BoxAt (Go.Proofs.YtgnpcenpcmdlfaaGreatDoor.setN w g e) base ty 7 g e.seven:=by
 have h1:=((((((h.set 0 (.int .i64 e.kind)).set 1 (.string e.s)).set 2 (.bool e.hi)).set 3 (.string e.t)).set 4 (.int .u64 e.lo)).set 5 (.int .u64 e.up)).set 6 (.int .i64 e.n)
 have hl:=h.len
 match vs,hl with
 | [_,_,_,_,_,_,_],_=>exact h1
theorem chg_setN (w:World) (g:Nat) (e:Nd):Chg (fun k=>k=g) w (setN w g e):=
 ((((((Chg.of_set (S:=fun k=>k=g) _ _ _ _ rfl).trans (Chg.of_set (S:=fun k=>k=g) _ _ _ _ rfl)).trans (Chg.of_set (S:=fun k=>k=g) _ _ _ _ rfl)).trans (Chg.of_set (S:=fun k=>k=g) _ _ _ _ rfl)).trans (Chg.of_set (S:=fun k=>k=g) _ _ _ _ rfl)).trans (Chg.of_set (S:=fun k=>k=g) _ _ _ _ rfl)).trans (Chg.of_set (S:=fun k=>k=g) _ _ _ _ rfl)
theorem BehP.box {base g b off n cap:Nat} {t:List UInt8} {d:Nat} {A:PR (Ps×Nd)→Prop} {nv nv3:Value} {w w3 W9:World} {s1:Ps} {nd:Nd} {k2:Tk} {ks2:List Tk} {p2:Nat} {Bk:Nat} (hA:A (.ok (s1,nd))) (hF:Fp base g b off n cap t d s1 k2 ks2 p2 nv3 w3) (hc3:Chg (fun q=>q=g∨nv.ownBlock=some q) w w3) (hl:∀q,nv3.ownBlock=some q→nv.ownBlock=some q∨w.heap.size≤q) (hc9:Chg (fun q=>q=Bk) w3 W9) (hB:¬Bk=g∧w.heap.size≤Bk) (hn:∀q,nv3.ownBlock=some q→¬q=Bk):BehP base g b off n cap t d A nv w (.returned nd.v) W9:=
 ⟨Chg.comp hc3 hc9 (fun q hq z=>by omega),.inl ⟨s1,nd,hA,rfl,k2,ks2,p2,nv3,hF.chg hc9 (fun q=>hB.1 q.symm) (fun q hq z=>hn q hq z),hl⟩⟩
set_option maxHeartbeats 8000000 in
theorem behind_1 {base g b off n cap:Nat} {t:List UInt8} {d:Nat} {s:Ps} {k:Tk} {ks:List Tk} {p:Nat} {nv:Value} {w:World} (hS:FpS base b off n cap t w) (h:Fp base g b off n cap t d s k ks p nv w):Calls Tryz.prog 117 #[.pointer (some ⟨g,0,none⟩),.int .i64 1] w (BehP base g b off n cap t d (fun r=>r=argP 1 s) nv w):=by
 obtain⟨W0,hW0⟩:=qE (w.alloc (Obj.cells #[.int .i64 0,.string ⟨#[]⟩,.bool false,.string ⟨#[]⟩,.int .u64 0,.int .u64 0,.int .i64 0] 65):World)
 have b3:Below w.heap.size w W0:=by rw[hW0];exact qB
 have b1:BoxAt W0 w.heap.size 65 7 w.heap.size [.int .i64 0,.string ⟨#[]⟩,.bool false,.string ⟨#[]⟩,.int .u64 0,.int .u64 0,.int .i64 0]:=by rw[hW0];exact boxAt_new w _ (Nat.le_refl _) rfl
 have hbs:Below base w W0:=b3.mono hS.sz
 have hnl:=h.nlt
 have HW0:Hid (BoxAt W0 w.heap.size 65 7 w.heap.size [.int .i64 0,.string ⟨#[]⟩,.bool false,.string ⟨#[]⟩,.int .u64 0,.int .u64 0,.int .i64 0]∧Fp base g b off n cap t d s k ks p nv W0∧FpS base b off n cap t W0∧Chg (fun q=>q=g∨nv.ownBlock=some q) w W0∧(∀q,nv.ownBlock=some q→q<w.heap.size)∧s.ks=k::ks):=⟨b1,h.below b3,hS.up hbs,Chg.of_below b3,fun q hq=>(hnl q hq).2,h.eq⟩
 have hgl:=h.fs.lt
 clear h hS b1 b3 hbs hnl
 have hBx:=HW0.1
 go_enter Tryz.func117,Tryz.ntmps117
 go_upto_region 2 with fail
 rw[←hW0]
 clear hW0
 have l0:=hBx.cell (j:=0) rfl
 have l1:=hBx.cell (j:=1) rfl
 have l2:=hBx.cell (j:=2) rfl
 have l3:=hBx.cell (j:=3) rfl
 have l4:=hBx.cell (j:=4) rfl
 have l5:=hBx.cell (j:=5) rfl
 have l6:=hBx.cell (j:=6) rfl
 have f0:=hBx.frozen 0
 have f1:=hBx.frozen 1
 have f2:=hBx.frozen 2
 have f3:=hBx.frozen 3
 have f4:=hBx.frozen 4
 have f5:=hBx.frozen 5
 have f6:=hBx.frozen 6
 obtain⟨W9,hW9⟩:∃V:World,V=setN W0 w.heap.size (leafN 1):=⟨_,rfl⟩
 have hB9:=hBx.setN (leafN 1)
 rw[←hW9]at hB9
 have hc9:Chg (fun q=>q=w.heap.size) W0 W9:=by rw[hW9];exact chg_setN _ _ _
 have HR:Hid (BehP base g b off n cap t d (fun r=>r=argP 1 s) nv w (.returned (leafN 1).v) W9):=BehP.box (s1:=s) (by show _=_;rfl) HW0.2.1 HW0.2.2.2.1 (fun q hq=>.inl hq) hc9 (by omega) (fun q hq z=>by have:=HW0.2.2.2.2.1 q hq;omega)
 have q0:=hB9.cell (j:=0) rfl
 have q1:=hB9.cell (j:=1) rfl
 have q2:=hB9.cell (j:=2) rfl
 have q3:=hB9.cell (j:=3) rfl
 have q4:=hB9.cell (j:=4) rfl
 have q5:=hB9.cell (j:=5) rfl
 have q6:=hB9.cell (j:=6) rfl
 unfold setN at hW9
 simp only[leafN,patN,cntN,noS]at hW9 q0 q1 q2 q3 q4 q5 q6
 clear hB9 hc9
 go_wp2_with fail
 rw[←hW9]
 exact bodyPost_ret (v:=(leafN 1).v) (by simp[results,Tryz.results117,go_sem,q0,q1,q2,q3,q4,q5,q6,leafN,patN,cntN,noS]) rfl HR.out
set_option maxHeartbeats 8000000 in
theorem behind_2 {base g b off n cap:Nat} {t:List UInt8} {d:Nat} {s:Ps} {k:Tk} {ks:List Tk} {p:Nat} {nv:Value} {w:World} (hS:FpS base b off n cap t w) (h:Fp base g b off n cap t d s k ks p nv w):Calls Tryz.prog 117 #[.pointer (some ⟨g,0,none⟩),.int .i64 2] w (BehP base g b off n cap t d (fun r=>r=argP 2 s) nv w):=by
 obtain⟨W0,hW0⟩:=qE (w.alloc (Obj.cells #[.int .i64 0,.string ⟨#[]⟩,.bool false,.string ⟨#[]⟩,.int .u64 0,.int .u64 0,.int .i64 0] 65):World)
 have b3:Below w.heap.size w W0:=by rw[hW0];exact qB
 have b1:BoxAt W0 w.heap.size 65 7 w.heap.size [.int .i64 0,.string ⟨#[]⟩,.bool false,.string ⟨#[]⟩,.int .u64 0,.int .u64 0,.int .i64 0]:=by rw[hW0];exact boxAt_new w _ (Nat.le_refl _) rfl
 have hbs:Below base w W0:=b3.mono hS.sz
 have hnl:=h.nlt
 have HW0:Hid (BoxAt W0 w.heap.size 65 7 w.heap.size [.int .i64 0,.string ⟨#[]⟩,.bool false,.string ⟨#[]⟩,.int .u64 0,.int .u64 0,.int .i64 0]∧Fp base g b off n cap t d s k ks p nv W0∧FpS base b off n cap t W0∧Chg (fun q=>q=g∨nv.ownBlock=some q) w W0∧(∀q,nv.ownBlock=some q→q<w.heap.size)∧s.ks=k::ks):=⟨b1,h.below b3,hS.up hbs,Chg.of_below b3,fun q hq=>(hnl q hq).2,h.eq⟩
 have hgl:=h.fs.lt
 clear h hS b1 b3 hbs hnl
 have hBx:=HW0.1
 go_enter Tryz.func117,Tryz.ntmps117
 go_upto_region 2 with fail
 rw[←hW0]
 clear hW0
 have l0:=hBx.cell (j:=0) rfl
 have l1:=hBx.cell (j:=1) rfl
 have l2:=hBx.cell (j:=2) rfl
 have l3:=hBx.cell (j:=3) rfl
 have l4:=hBx.cell (j:=4) rfl
 have l5:=hBx.cell (j:=5) rfl
 have l6:=hBx.cell (j:=6) rfl
 have f0:=hBx.frozen 0
 have f1:=hBx.frozen 1
 have f2:=hBx.frozen 2
 have f3:=hBx.frozen 3
 have f4:=hBx.frozen 4
 have f5:=hBx.frozen 5
 have f6:=hBx.frozen 6
 obtain⟨W9,hW9⟩:∃V:World,V=setN W0 w.heap.size (leafN 2):=⟨_,rfl⟩
 have hB9:=hBx.setN (leafN 2)
 rw[←hW9]at hB9
 have hc9:Chg (fun q=>q=w.heap.size) W0 W9:=by rw[hW9];exact chg_setN _ _ _
 have HR:Hid (BehP base g b off n cap t d (fun r=>r=argP 2 s) nv w (.returned (leafN 2).v) W9):=BehP.box (s1:=s) (by show _=_;rfl) HW0.2.1 HW0.2.2.2.1 (fun q hq=>.inl hq) hc9 (by omega) (fun q hq z=>by have:=HW0.2.2.2.2.1 q hq;omega)
 have q0:=hB9.cell (j:=0) rfl
 have q1:=hB9.cell (j:=1) rfl
 have q2:=hB9.cell (j:=2) rfl
 have q3:=hB9.cell (j:=3) rfl
 have q4:=hB9.cell (j:=4) rfl
 have q5:=hB9.cell (j:=5) rfl
 have q6:=hB9.cell (j:=6) rfl
 unfold setN at hW9
 simp only[leafN,patN,cntN,noS]at hW9 q0 q1 q2 q3 q4 q5 q6
 clear hB9 hc9
 go_wp2_with fail
 rw[←hW9]
 exact bodyPost_ret (v:=(leafN 2).v) (by simp[results,Tryz.results117,go_sem,q0,q1,q2,q3,q4,q5,q6,leafN,patN,cntN,noS]) rfl HR.out
set_option maxHeartbeats 8000000 in
theorem behind_3 {base g b off n cap:Nat} {t:List UInt8} {d:Nat} {s:Ps} {k:Tk} {ks:List Tk} {p:Nat} {nv:Value} {w:World} (hS:FpS base b off n cap t w) (h:Fp base g b off n cap t d s k ks p nv w):Calls Tryz.prog 117 #[.pointer (some ⟨g,0,none⟩),.int .i64 3] w (BehP base g b off n cap t d (fun r=>r=argP 3 s) nv w):=by
 obtain⟨W0,hW0⟩:=qE (w.alloc (Obj.cells #[.int .i64 0,.string ⟨#[]⟩,.bool false,.string ⟨#[]⟩,.int .u64 0,.int .u64 0,.int .i64 0] 65):World)
 have b3:Below w.heap.size w W0:=by rw[hW0];exact qB
 have b1:BoxAt W0 w.heap.size 65 7 w.heap.size [.int .i64 0,.string ⟨#[]⟩,.bool false,.string ⟨#[]⟩,.int .u64 0,.int .u64 0,.int .i64 0]:=by rw[hW0];exact boxAt_new w _ (Nat.le_refl _) rfl
 have hbs:Below base w W0:=b3.mono hS.sz
 have hnl:=h.nlt
 have HW0:Hid (BoxAt W0 w.heap.size 65 7 w.heap.size [.int .i64 0,.string ⟨#[]⟩,.bool false,.string ⟨#[]⟩,.int .u64 0,.int .u64 0,.int .i64 0]∧Fp base g b off n cap t d s k ks p nv W0∧FpS base b off n cap t W0∧Chg (fun q=>q=g∨nv.ownBlock=some q) w W0∧(∀q,nv.ownBlock=some q→q<w.heap.size)∧s.ks=k::ks):=⟨b1,h.below b3,hS.up hbs,Chg.of_below b3,fun q hq=>(hnl q hq).2,h.eq⟩
 have hgl:=h.fs.lt
 clear h hS b1 b3 hbs hnl
 have hBx:=HW0.1
 go_enter Tryz.func117,Tryz.ntmps117
 go_upto_region 2 with fail
 rw[←hW0]
 clear hW0
 have l0:=hBx.cell (j:=0) rfl
 have l1:=hBx.cell (j:=1) rfl
 have l2:=hBx.cell (j:=2) rfl
 have l3:=hBx.cell (j:=3) rfl
 have l4:=hBx.cell (j:=4) rfl
 have l5:=hBx.cell (j:=5) rfl
 have l6:=hBx.cell (j:=6) rfl
 have f0:=hBx.frozen 0
 have f1:=hBx.frozen 1
 have f2:=hBx.frozen 2
 have f3:=hBx.frozen 3
 have f4:=hBx.frozen 4
 have f5:=hBx.frozen 5
 have f6:=hBx.frozen 6
 obtain⟨W9,hW9⟩:∃V:World,V=setN W0 w.heap.size (leafN 3):=⟨_,rfl⟩
 have hB9:=hBx.setN (leafN 3)
 rw[←hW9]at hB9
 have hc9:Chg (fun q=>q=w.heap.size) W0 W9:=by rw[hW9];exact chg_setN _ _ _
 have HR:Hid (BehP base g b off n cap t d (fun r=>r=argP 3 s) nv w (.returned (leafN 3).v) W9):=BehP.box (s1:=s) (by show _=_;rfl) HW0.2.1 HW0.2.2.2.1 (fun q hq=>.inl hq) hc9 (by omega) (fun q hq z=>by have:=HW0.2.2.2.2.1 q hq;omega)
 have q0:=hB9.cell (j:=0) rfl
 have q1:=hB9.cell (j:=1) rfl
 have q2:=hB9.cell (j:=2) rfl
 have q3:=hB9.cell (j:=3) rfl
 have q4:=hB9.cell (j:=4) rfl
 have q5:=hB9.cell (j:=5) rfl
 have q6:=hB9.cell (j:=6) rfl
 unfold setN at hW9
 simp only[leafN,patN,cntN,noS]at hW9 q0 q1 q2 q3 q4 q5 q6
 clear hB9 hc9
 go_wp2_with fail
 rw[←hW9]
 exact bodyPost_ret (v:=(leafN 3).v) (by simp[results,Tryz.results117,go_sem,q0,q1,q2,q3,q4,q5,q6,leafN,patN,cntN,noS]) rfl HR.out
set_option maxHeartbeats 8000000 in
theorem behind_4 {base g b off n cap:Nat} {t:List UInt8} {d:Nat} {s:Ps} {k:Tk} {ks:List Tk} {p:Nat} {nv:Value} {w:World} (hS:FpS base b off n cap t w) (h:Fp base g b off n cap t d s k ks p nv w):Calls Tryz.prog 117 #[.pointer (some ⟨g,0,none⟩),.int .i64 4] w (BehP base g b off n cap t d (fun r=>r=argP 4 s) nv w):=by
 obtain⟨W0,hW0⟩:=qE (w.alloc (Obj.cells #[.int .i64 0,.string ⟨#[]⟩,.bool false,.string ⟨#[]⟩,.int .u64 0,.int .u64 0,.int .i64 0] 65):World)
 have b3:Below w.heap.size w W0:=by rw[hW0];exact qB
 have b1:BoxAt W0 w.heap.size 65 7 w.heap.size [.int .i64 0,.string ⟨#[]⟩,.bool false,.string ⟨#[]⟩,.int .u64 0,.int .u64 0,.int .i64 0]:=by rw[hW0];exact boxAt_new w _ (Nat.le_refl _) rfl
 have hbs:Below base w W0:=b3.mono hS.sz
 have hnl:=h.nlt
 have HW0:Hid (BoxAt W0 w.heap.size 65 7 w.heap.size [.int .i64 0,.string ⟨#[]⟩,.bool false,.string ⟨#[]⟩,.int .u64 0,.int .u64 0,.int .i64 0]∧Fp base g b off n cap t d s k ks p nv W0∧FpS base b off n cap t W0∧Chg (fun q=>q=g∨nv.ownBlock=some q) w W0∧(∀q,nv.ownBlock=some q→q<w.heap.size)∧s.ks=k::ks):=⟨b1,h.below b3,hS.up hbs,Chg.of_below b3,fun q hq=>(hnl q hq).2,h.eq⟩
 have hgl:=h.fs.lt
 have hkd:=h.kinds
 have cK:=(h.below b3).fs.cell (j:=2) rfl
 have cT:=(h.below b3).fs.cell (j:=6) rfl
 clear h hS b1 b3 hbs hnl
 have die:∀(c:Int),argP 4 s=.error (c,k.pos)→∀W',Chg (fun q=>q=g∨nv.ownBlock=some q) w W'→Hid (BehP base g b off n cap t d (fun r=>r=argP 4 s) nv w (Pf c (k.pos:Int)) W'):=fun c hc W' hW=>⟨hW,.inr ⟨c,k.pos,hc.symm,rfl⟩⟩
 by_cases hst:∃sx,k.k=.str sx
 case neg=>
  exact zzQ5
 case pos=>
 obtain⟨sx,hsx⟩:=hst
 have hk34:ftB k.k=34:=by rw[hsx];rfl
 have htx:k.k.txt=sx:=by rw[hsx];rfl
 rw[hk34]at cK
 rw[htx]at cT
 have hsz:sx.size≤200:=by
  rw[hsx]at hkd
  rcases hkd with q|q
  ·exact q
  ·cases q
 have Hfin:Hid (k.k.isFin=false):=by show _=_;rw[hsx];rfl
 have HAr:Hid (((checkM (sb sx)).1=0→argP 4 s=(match takeF s.ks with
   | .error e=>.error e
   | .ok k2=>.ok ({s with ks:=k2},patN 4 sx)))∧(¬(checkM (sb sx)).1=0→argP 4 s=.error (6,k.pos))):=argP_str (by omega) (by omega) HW0.2.2.2.2.2 hsx
 have HCk:Hid (Calls Tryz.prog 119 #[.string sx] W0 fun e w'=>e=.returned (.agg #[.int .i64 (checkM (sb sx)).1,.int .i64 ((checkM (sb sx)).2:Int)])∧Below W0.heap.size W0 w'):=implCheck_core sx W0 (by unfold maxLen;omega)
 obtain⟨er,her⟩:=qE ((checkM (sb sx)).1:Int)
 obtain⟨ea,hea⟩:=qE (((checkM (sb sx)).2:Int):Int)
 rw[←her]at HAr
 rw[←her,←hea]at HCk
 have htv:Hid (ftV k= [.int .u8 34,.int .i64 (k.pos:Int),.int .i64 0,.int .u64 0,.string sx]):=by show _=_;unfold ftV;rw[hk34,htx,hsx];rfl
 clear hkd hk34 htx hsx her hea
 go_enter Tryz.func117,Tryz.ntmps117
 go_upto_region 2 with fail
 rw[←hW0]
 clear hW0
 go_wp2_with fail
 refine(fdem_yes _ 3 W0).mono ?_
 rintro e w2 ⟨rfl,hw2⟩
 rw[hw2]
 clear hw2
 go_wp2_with fail
 refine HCk.mono ?_
 rintro e w2 ⟨rfl,hb2⟩
 have H2:Hid (Fp base g b off n cap t d s k ks p nv w2∧FpS base b off n cap t w2∧BoxAt w2 w.heap.size 65 7 w.heap.size [.int .i64 0,.string ⟨#[]⟩,.bool false,.string ⟨#[]⟩,.int .u64 0,.int .u64 0,.int .i64 0]∧Chg (fun q=>q=g∨nv.ownBlock=some q) w w2):=⟨HW0.2.1.below hb2,HW0.2.2.1.up (hb2.mono HW0.2.2.1.sz),HW0.1.below hb2,Chg.comp HW0.2.2.2.1 (Chg.of_below hb2 (S:=fun _=>False)) (fun q _ z=>z.elim)⟩
 have hfd:∀wz:World,(Instr.field 125 (.agg #[.int .i64 er,.int .i64 ea]) 0).run Tryz.prog wz=.ok (.int .i64 er) wz:=fun wz=>by kernel_rfl
 have hfd2:=hfd w2
 clear hb2 HCk cK cT hfd
 by_cases he:er=0
 case neg=>
  exact zzQ25
 case pos=>
 have ze:(er==0)=true:=by simpa using he
 have HTk:Hid (Calls Tryz.prog 114 #[.pointer (some ⟨g,0,none⟩)] w2 (TakP base g b off n cap t d s k nv w2)):=ftake_core H2.2.1 H2.1 Hfin.out
 have HAr2:Hid (argP 4 s=(match takeF s.ks with
   | .error e=>.error e
   | .ok k2=>.ok ({s with ks:=k2},patN 4 sx))):=HAr.1 he
 clear die he
 go_wp2_with fail
 refine(fdem_yes _ 6 w2).mono ?_
 rintro e w3 ⟨rfl,hw3⟩
 rw[hw3]
 clear hw3
 go_wp2_with fail
 refine HTk.mono ?_
 rintro e w3 ⟨Hb3,(⟨k2,ks2,p2,htk,rfl,hF3⟩|⟨c,a,htk,rfl⟩)⟩
 ·have hBx:=H2.2.2.1.chg Hb3.out (by omega)
  have HF3:Hid (Fp base g b off n cap t d {s with ks:=k2::ks2} k2 ks2 p2 nv w3∧takeF s.ks=.ok (k2::ks2)∧Chg (fun q=>q=g) w2 w3):=⟨hF3,htk,Hb3.out⟩
  have hfe:(Instr.field 52 (.agg (ftV k).toArray) 4).run Tryz.prog w3=.ok (.string sx) w3:=by rw[htv.out];kernel_rfl
  clear htk hF3 HTk
  have l0:=hBx.cell (j:=0) rfl
  have l1:=hBx.cell (j:=1) rfl
  have l2:=hBx.cell (j:=2) rfl
  have l3:=hBx.cell (j:=3) rfl
  have l4:=hBx.cell (j:=4) rfl
  have l5:=hBx.cell (j:=5) rfl
  have l6:=hBx.cell (j:=6) rfl
  have f0:=hBx.frozen 0
  have f1:=hBx.frozen 1
  have f2:=hBx.frozen 2
  have f3:=hBx.frozen 3
  have f4:=hBx.frozen 4
  have f5:=hBx.frozen 5
  have f6:=hBx.frozen 6
  obtain⟨W9,hW9⟩:∃V:World,V=setN w3 w.heap.size (patN 4 sx):=⟨_,rfl⟩
  have hB9:=hBx.setN (patN 4 sx)
  rw[←hW9]at hB9
  have hc9:Chg (fun q=>q=w.heap.size) w3 W9:=by rw[hW9];exact chg_setN _ _ _
  have HR:Hid (BehP base g b off n cap t d (fun r=>r=argP 4 s) nv w (.returned (patN 4 sx).v) W9):=BehP.box (s1:=⟨k2::ks2,s.made,s.out⟩) (by show _=_;rw[HAr2.out,HF3.2.1]) HF3.1 (Chg.comp H2.2.2.2 HF3.2.2 (fun q _ z=>.inl z)) (fun q hq=>.inl hq) hc9 (by omega) (fun q hq z=>by have:=HW0.2.2.2.2.1 q hq;omega)
  have q0:=hB9.cell (j:=0) rfl
  have q1:=hB9.cell (j:=1) rfl
  have q2:=hB9.cell (j:=2) rfl
  have q3:=hB9.cell (j:=3) rfl
  have q4:=hB9.cell (j:=4) rfl
  have q5:=hB9.cell (j:=5) rfl
  have q6:=hB9.cell (j:=6) rfl
  unfold setN at hW9
  simp only[leafN,patN,cntN,noS]at hW9 q0 q1 q2 q3 q4 q5 q6
  clear hB9 hc9
  go_wp2_with fail
  rw[←hW9]
  exact bodyPost_ret (v:=(patN 4 sx).v) (by simp[results,Tryz.results117,go_sem,q0,q1,q2,q3,q4,q5,q6,leafN,patN,cntN,noS]) rfl HR.out
 ·have HD:Hid (BehP base g b off n cap t d (fun r=>r=argP 4 s) nv w (Pf c (a:Int)) w3):=⟨Chg.comp H2.2.2.2 Hb3.out (fun q _ z=>.inl z),.inr ⟨c,a,by rw[HAr2.out,htk],rfl⟩⟩
  clear htk HTk
  exact⟨rfl,HD.out⟩
set_option maxHeartbeats 8000000 in
theorem behind_5 {base g b off n cap:Nat} {t:List UInt8} {d:Nat} {s:Ps} {k:Tk} {ks:List Tk} {p:Nat} {nv:Value} {w:World} (hS:FpS base b off n cap t w) (h:Fp base g b off n cap t d s k ks p nv w):Calls Tryz.prog 117 #[.pointer (some ⟨g,0,none⟩),.int .i64 5] w (BehP base g b off n cap t d (fun r=>r=argP 5 s) nv w):=by
 obtain⟨W0,hW0⟩:=qE (w.alloc (Obj.cells #[.int .i64 0,.string ⟨#[]⟩,.bool false,.string ⟨#[]⟩,.int .u64 0,.int .u64 0,.int .i64 0] 65):World)
 have b3:Below w.heap.size w W0:=by rw[hW0];exact qB
 have b1:BoxAt W0 w.heap.size 65 7 w.heap.size [.int .i64 0,.string ⟨#[]⟩,.bool false,.string ⟨#[]⟩,.int .u64 0,.int .u64 0,.int .i64 0]:=by rw[hW0];exact boxAt_new w _ (Nat.le_refl _) rfl
 have hbs:Below base w W0:=b3.mono hS.sz
 have hnl:=h.nlt
 have HW0:Hid (BoxAt W0 w.heap.size 65 7 w.heap.size [.int .i64 0,.string ⟨#[]⟩,.bool false,.string ⟨#[]⟩,.int .u64 0,.int .u64 0,.int .i64 0]∧Fp base g b off n cap t d s k ks p nv W0∧FpS base b off n cap t W0∧Chg (fun q=>q=g∨nv.ownBlock=some q) w W0∧(∀q,nv.ownBlock=some q→q<w.heap.size)∧s.ks=k::ks):=⟨b1,h.below b3,hS.up hbs,Chg.of_below b3,fun q hq=>(hnl q hq).2,h.eq⟩
 have hgl:=h.fs.lt
 have hkd:=h.kinds
 have cK:=(h.below b3).fs.cell (j:=2) rfl
 have cT:=(h.below b3).fs.cell (j:=6) rfl
 clear h hS b1 b3 hbs hnl
 have die:∀(c:Int),argP 5 s=.error (c,k.pos)→∀W',Chg (fun q=>q=g∨nv.ownBlock=some q) w W'→Hid (BehP base g b off n cap t d (fun r=>r=argP 5 s) nv w (Pf c (k.pos:Int)) W'):=fun c hc W' hW=>⟨hW,.inr ⟨c,k.pos,hc.symm,rfl⟩⟩
 by_cases hst:∃sx,k.k=.str sx
 case neg=>
  exact zzQ5
 case pos=>
 obtain⟨sx,hsx⟩:=hst
 have hk34:ftB k.k=34:=by rw[hsx];rfl
 have htx:k.k.txt=sx:=by rw[hsx];rfl
 rw[hk34]at cK
 rw[htx]at cT
 have hsz:sx.size≤200:=by
  rw[hsx]at hkd
  rcases hkd with q|q
  ·exact q
  ·cases q
 have Hfin:Hid (k.k.isFin=false):=by show _=_;rw[hsx];rfl
 have HAr:Hid (((checkM (sb sx)).1=0→argP 5 s=(match takeF s.ks with
   | .error e=>.error e
   | .ok k2=>.ok ({s with ks:=k2},patN 5 sx)))∧(¬(checkM (sb sx)).1=0→argP 5 s=.error (6,k.pos))):=argP_str (by omega) (by omega) HW0.2.2.2.2.2 hsx
 have HCk:Hid (Calls Tryz.prog 119 #[.string sx] W0 fun e w'=>e=.returned (.agg #[.int .i64 (checkM (sb sx)).1,.int .i64 ((checkM (sb sx)).2:Int)])∧Below W0.heap.size W0 w'):=implCheck_core sx W0 (by unfold maxLen;omega)
 obtain⟨er,her⟩:=qE ((checkM (sb sx)).1:Int)
 obtain⟨ea,hea⟩:=qE (((checkM (sb sx)).2:Int):Int)
 rw[←her]at HAr
 rw[←her,←hea]at HCk
 have htv:Hid (ftV k= [.int .u8 34,.int .i64 (k.pos:Int),.int .i64 0,.int .u64 0,.string sx]):=by show _=_;unfold ftV;rw[hk34,htx,hsx];rfl
 clear hkd hk34 htx hsx her hea
 go_enter Tryz.func117,Tryz.ntmps117
 go_upto_region 2 with fail
 rw[←hW0]
 clear hW0
 go_wp2_with fail
 refine(fdem_yes _ 3 W0).mono ?_
 rintro e w2 ⟨rfl,hw2⟩
 rw[hw2]
 clear hw2
 go_wp2_with fail
 refine HCk.mono ?_
 rintro e w2 ⟨rfl,hb2⟩
 have H2:Hid (Fp base g b off n cap t d s k ks p nv w2∧FpS base b off n cap t w2∧BoxAt w2 w.heap.size 65 7 w.heap.size [.int .i64 0,.string ⟨#[]⟩,.bool false,.string ⟨#[]⟩,.int .u64 0,.int .u64 0,.int .i64 0]∧Chg (fun q=>q=g∨nv.ownBlock=some q) w w2):=⟨HW0.2.1.below hb2,HW0.2.2.1.up (hb2.mono HW0.2.2.1.sz),HW0.1.below hb2,Chg.comp HW0.2.2.2.1 (Chg.of_below hb2 (S:=fun _=>False)) (fun q _ z=>z.elim)⟩
 have hfd:∀wz:World,(Instr.field 125 (.agg #[.int .i64 er,.int .i64 ea]) 0).run Tryz.prog wz=.ok (.int .i64 er) wz:=fun wz=>by kernel_rfl
 have hfd2:=hfd w2
 clear hb2 HCk cK cT hfd
 by_cases he:er=0
 case neg=>
  exact zzQ25
 case pos=>
 have ze:(er==0)=true:=by simpa using he
 have HTk:Hid (Calls Tryz.prog 114 #[.pointer (some ⟨g,0,none⟩)] w2 (TakP base g b off n cap t d s k nv w2)):=ftake_core H2.2.1 H2.1 Hfin.out
 have HAr2:Hid (argP 5 s=(match takeF s.ks with
   | .error e=>.error e
   | .ok k2=>.ok ({s with ks:=k2},patN 5 sx))):=HAr.1 he
 clear die he
 go_wp2_with fail
 refine(fdem_yes _ 6 w2).mono ?_
 rintro e w3 ⟨rfl,hw3⟩
 rw[hw3]
 clear hw3
 go_wp2_with fail
 refine HTk.mono ?_
 rintro e w3 ⟨Hb3,(⟨k2,ks2,p2,htk,rfl,hF3⟩|⟨c,a,htk,rfl⟩)⟩
 ·have hBx:=H2.2.2.1.chg Hb3.out (by omega)
  have HF3:Hid (Fp base g b off n cap t d {s with ks:=k2::ks2} k2 ks2 p2 nv w3∧takeF s.ks=.ok (k2::ks2)∧Chg (fun q=>q=g) w2 w3):=⟨hF3,htk,Hb3.out⟩
  have hfe:(Instr.field 52 (.agg (ftV k).toArray) 4).run Tryz.prog w3=.ok (.string sx) w3:=by rw[htv.out];kernel_rfl
  clear htk hF3 HTk
  have l0:=hBx.cell (j:=0) rfl
  have l1:=hBx.cell (j:=1) rfl
  have l2:=hBx.cell (j:=2) rfl
  have l3:=hBx.cell (j:=3) rfl
  have l4:=hBx.cell (j:=4) rfl
  have l5:=hBx.cell (j:=5) rfl
  have l6:=hBx.cell (j:=6) rfl
  have f0:=hBx.frozen 0
  have f1:=hBx.frozen 1
  have f2:=hBx.frozen 2
  have f3:=hBx.frozen 3
  have f4:=hBx.frozen 4
  have f5:=hBx.frozen 5
  have f6:=hBx.frozen 6
  obtain⟨W9,hW9⟩:∃V:World,V=setN w3 w.heap.size (patN 5 sx):=⟨_,rfl⟩
  have hB9:=hBx.setN (patN 5 sx)
  rw[←hW9]at hB9
  have hc9:Chg (fun q=>q=w.heap.size) w3 W9:=by rw[hW9];exact chg_setN _ _ _
  have HR:Hid (BehP base g b off n cap t d (fun r=>r=argP 5 s) nv w (.returned (patN 5 sx).v) W9):=BehP.box (s1:=⟨k2::ks2,s.made,s.out⟩) (by show _=_;rw[HAr2.out,HF3.2.1]) HF3.1 (Chg.comp H2.2.2.2 HF3.2.2 (fun q _ z=>.inl z)) (fun q hq=>.inl hq) hc9 (by omega) (fun q hq z=>by have:=HW0.2.2.2.2.1 q hq;omega)
  have q0:=hB9.cell (j:=0) rfl
  have q1:=hB9.cell (j:=1) rfl
  have q2:=hB9.cell (j:=2) rfl
  have q3:=hB9.cell (j:=3) rfl
  have q4:=hB9.cell (j:=4) rfl
  have q5:=hB9.cell (j:=5) rfl
  have q6:=hB9.cell (j:=6) rfl
  unfold setN at hW9
  simp only[leafN,patN,cntN,noS]at hW9 q0 q1 q2 q3 q4 q5 q6
  clear hB9 hc9
  go_wp2_with fail
  rw[←hW9]
  exact bodyPost_ret (v:=(patN 5 sx).v) (by simp[results,Tryz.results117,go_sem,q0,q1,q2,q3,q4,q5,q6,leafN,patN,cntN,noS]) rfl HR.out
 ·have HD:Hid (BehP base g b off n cap t d (fun r=>r=argP 5 s) nv w (Pf c (a:Int)) w3):=⟨Chg.comp H2.2.2.2 Hb3.out (fun q _ z=>.inl z),.inr ⟨c,a,by rw[HAr2.out,htk],rfl⟩⟩
  clear htk HTk
  exact⟨rfl,HD.out⟩
set_option maxHeartbeats 8000000 in
theorem behind_6 {base g b off n cap:Nat} {t:List UInt8} {d:Nat} {s:Ps} {k:Tk} {ks:List Tk} {p:Nat} {nv:Value} {w:World} (hS:FpS base b off n cap t w) (h:Fp base g b off n cap t d s k ks p nv w):Calls Tryz.prog 117 #[.pointer (some ⟨g,0,none⟩),.int .i64 6] w (BehP base g b off n cap t d (fun r=>r=argP 6 s) nv w):=by
 obtain⟨W0,hW0⟩:=qE (w.alloc (Obj.cells #[.int .i64 0,.string ⟨#[]⟩,.bool false,.string ⟨#[]⟩,.int .u64 0,.int .u64 0,.int .i64 0] 65):World)
 have b3:Below w.heap.size w W0:=by rw[hW0];exact qB
 have b1:BoxAt W0 w.heap.size 65 7 w.heap.size [.int .i64 0,.string ⟨#[]⟩,.bool false,.string ⟨#[]⟩,.int .u64 0,.int .u64 0,.int .i64 0]:=by rw[hW0];exact boxAt_new w _ (Nat.le_refl _) rfl
 have hbs:Below base w W0:=b3.mono hS.sz
 have hnl:=h.nlt
 have HW0:Hid (BoxAt W0 w.heap.size 65 7 w.heap.size [.int .i64 0,.string ⟨#[]⟩,.bool false,.string ⟨#[]⟩,.int .u64 0,.int .u64 0,.int .i64 0]∧Fp base g b off n cap t d s k ks p nv W0∧FpS base b off n cap t W0∧Chg (fun q=>q=g∨nv.ownBlock=some q) w W0∧(∀q,nv.ownBlock=some q→q<w.heap.size)∧s.ks=k::ks):=⟨b1,h.below b3,hS.up hbs,Chg.of_below b3,fun q hq=>(hnl q hq).2,h.eq⟩
 have hgl:=h.fs.lt
 have hkd:=h.kinds
 have cK:=(h.below b3).fs.cell (j:=2) rfl
 have cT:=(h.below b3).fs.cell (j:=6) rfl
 clear h hS b1 b3 hbs hnl
 have die:∀(c:Int),argP 6 s=.error (c,k.pos)→∀W',Chg (fun q=>q=g∨nv.ownBlock=some q) w W'→Hid (BehP base g b off n cap t d (fun r=>r=argP 6 s) nv w (Pf c (k.pos:Int)) W'):=fun c hc W' hW=>⟨hW,.inr ⟨c,k.pos,hc.symm,rfl⟩⟩
 by_cases hst:∃sx,k.k=.str sx
 case neg=>
  exact zzQ5
 case pos=>
 obtain⟨sx,hsx⟩:=hst
 have hk34:ftB k.k=34:=by rw[hsx];rfl
 have htx:k.k.txt=sx:=by rw[hsx];rfl
 rw[hk34]at cK
 rw[htx]at cT
 have hsz:sx.size≤200:=by
  rw[hsx]at hkd
  rcases hkd with q|q
  ·exact q
  ·cases q
 have Hfin:Hid (k.k.isFin=false):=by show _=_;rw[hsx];rfl
 have HAr:Hid (((checkM (sb sx)).1=0→argP 6 s=(match takeF s.ks with
   | .error e=>.error e
   | .ok k2=>.ok ({s with ks:=k2},patN 6 sx)))∧(¬(checkM (sb sx)).1=0→argP 6 s=.error (6,k.pos))):=argP_str (by omega) (by omega) HW0.2.2.2.2.2 hsx
 have HCk:Hid (Calls Tryz.prog 119 #[.string sx] W0 fun e w'=>e=.returned (.agg #[.int .i64 (checkM (sb sx)).1,.int .i64 ((checkM (sb sx)).2:Int)])∧Below W0.heap.size W0 w'):=implCheck_core sx W0 (by unfold maxLen;omega)
 obtain⟨er,her⟩:=qE ((checkM (sb sx)).1:Int)
 obtain⟨ea,hea⟩:=qE (((checkM (sb sx)).2:Int):Int)
 rw[←her]at HAr
 rw[←her,←hea]at HCk
 have htv:Hid (ftV k= [.int .u8 34,.int .i64 (k.pos:Int),.int .i64 0,.int .u64 0,.string sx]):=by show _=_;unfold ftV;rw[hk34,htx,hsx];rfl
 clear hkd hk34 htx hsx her hea
 go_enter Tryz.func117,Tryz.ntmps117
 go_upto_region 2 with fail
 rw[←hW0]
 clear hW0
 go_wp2_with fail
 refine(fdem_yes _ 3 W0).mono ?_
 rintro e w2 ⟨rfl,hw2⟩
 rw[hw2]
 clear hw2
 go_wp2_with fail
 refine HCk.mono ?_
 rintro e w2 ⟨rfl,hb2⟩
 have H2:Hid (Fp base g b off n cap t d s k ks p nv w2∧FpS base b off n cap t w2∧BoxAt w2 w.heap.size 65 7 w.heap.size [.int .i64 0,.string ⟨#[]⟩,.bool false,.string ⟨#[]⟩,.int .u64 0,.int .u64 0,.int .i64 0]∧Chg (fun q=>q=g∨nv.ownBlock=some q) w w2):=⟨HW0.2.1.below hb2,HW0.2.2.1.up (hb2.mono HW0.2.2.1.sz),HW0.1.below hb2,Chg.comp HW0.2.2.2.1 (Chg.of_below hb2 (S:=fun _=>False)) (fun q _ z=>z.elim)⟩
 have hfd:∀wz:World,(Instr.field 125 (.agg #[.int .i64 er,.int .i64 ea]) 0).run Tryz.prog wz=.ok (.int .i64 er) wz:=fun wz=>by kernel_rfl
 have hfd2:=hfd w2
 clear hb2 HCk cK cT hfd
 by_cases he:er=0
 case neg=>
  exact zzQ25
 case pos=>
 have ze:(er==0)=true:=by simpa using he
 have HTk:Hid (Calls Tryz.prog 114 #[.pointer (some ⟨g,0,none⟩)] w2 (TakP base g b off n cap t d s k nv w2)):=ftake_core H2.2.1 H2.1 Hfin.out
 have HAr2:Hid (argP 6 s=(match takeF s.ks with
   | .error e=>.error e
   | .ok k2=>.ok ({s with ks:=k2},patN 6 sx))):=HAr.1 he
 clear die he
 go_wp2_with fail
 refine(fdem_yes _ 6 w2).mono ?_
 rintro e w3 ⟨rfl,hw3⟩
 rw[hw3]
 clear hw3
 go_wp2_with fail
 refine HTk.mono ?_
 rintro e w3 ⟨Hb3,(⟨k2,ks2,p2,htk,rfl,hF3⟩|⟨c,a,htk,rfl⟩)⟩
 ·have hBx:=H2.2.2.1.chg Hb3.out (by omega)
  have HF3:Hid (Fp base g b off n cap t d {s with ks:=k2::ks2} k2 ks2 p2 nv w3∧takeF s.ks=.ok (k2::ks2)∧Chg (fun q=>q=g) w2 w3):=⟨hF3,htk,Hb3.out⟩
  have hfe:(Instr.field 52 (.agg (ftV k).toArray) 4).run Tryz.prog w3=.ok (.string sx) w3:=by rw[htv.out];kernel_rfl
  clear htk hF3 HTk
  have l0:=hBx.cell (j:=0) rfl
  have l1:=hBx.cell (j:=1) rfl
  have l2:=hBx.cell (j:=2) rfl
  have l3:=hBx.cell (j:=3) rfl
  have l4:=hBx.cell (j:=4) rfl
  have l5:=hBx.cell (j:=5) rfl
  have l6:=hBx.cell (j:=6) rfl
  have f0:=hBx.frozen 0
  have f1:=hBx.frozen 1
  have f2:=hBx.frozen 2
  have f3:=hBx.frozen 3
  have f4:=hBx.frozen 4
  have f5:=hBx.frozen 5
  have f6:=hBx.frozen 6
  obtain⟨W9,hW9⟩:∃V:World,V=setN w3 w.heap.size (patN 6 sx):=⟨_,rfl⟩
  have hB9:=hBx.setN (patN 6 sx)
  rw[←hW9]at hB9
  have hc9:Chg (fun q=>q=w.heap.size) w3 W9:=by rw[hW9];exact chg_setN _ _ _
  have HR:Hid (BehP base g b off n cap t d (fun r=>r=argP 6 s) nv w (.returned (patN 6 sx).v) W9):=BehP.box (s1:=⟨k2::ks2,s.made,s.out⟩) (by show _=_;rw[HAr2.out,HF3.2.1]) HF3.1 (Chg.comp H2.2.2.2 HF3.2.2 (fun q _ z=>.inl z)) (fun q hq=>.inl hq) hc9 (by omega) (fun q hq z=>by have:=HW0.2.2.2.2.1 q hq;omega)
  have q0:=hB9.cell (j:=0) rfl
  have q1:=hB9.cell (j:=1) rfl
  have q2:=hB9.cell (j:=2) rfl
  have q3:=hB9.cell (j:=3) rfl
  have q4:=hB9.cell (j:=4) rfl
  have q5:=hB9.cell (j:=5) rfl
  have q6:=hB9.cell (j:=6) rfl
  unfold setN at hW9
  simp only[leafN,patN,cntN,noS]at hW9 q0 q1 q2 q3 q4 q5 q6
  clear hB9 hc9
  go_wp2_with fail
  rw[←hW9]
  exact bodyPost_ret (v:=(patN 6 sx).v) (by simp[results,Tryz.results117,go_sem,q0,q1,q2,q3,q4,q5,q6,leafN,patN,cntN,noS]) rfl HR.out
 ·have HD:Hid (BehP base g b off n cap t d (fun r=>r=argP 6 s) nv w (Pf c (a:Int)) w3):=⟨Chg.comp H2.2.2.2 Hb3.out (fun q _ z=>.inl z),.inr ⟨c,a,by rw[HAr2.out,htk],rfl⟩⟩
  clear htk HTk
  exact⟨rfl,HD.out⟩
set_option maxHeartbeats 8000000 in
theorem behind_7 {base g b off n cap:Nat} {t:List UInt8} {d:Nat} {s:Ps} {k:Tk} {ks:List Tk} {p:Nat} {nv:Value} {w:World} (hS:FpS base b off n cap t w) (h:Fp base g b off n cap t d s k ks p nv w):Calls Tryz.prog 117 #[.pointer (some ⟨g,0,none⟩),.int .i64 7] w (BehP base g b off n cap t d (fun r=>r=argP 7 s) nv w):=by
 obtain⟨W0,hW0⟩:=qE (w.alloc (Obj.cells #[.int .i64 0,.string ⟨#[]⟩,.bool false,.string ⟨#[]⟩,.int .u64 0,.int .u64 0,.int .i64 0] 65):World)
 have b3:Below w.heap.size w W0:=by rw[hW0];exact qB
 have b1:BoxAt W0 w.heap.size 65 7 w.heap.size [.int .i64 0,.string ⟨#[]⟩,.bool false,.string ⟨#[]⟩,.int .u64 0,.int .u64 0,.int .i64 0]:=by rw[hW0];exact boxAt_new w _ (Nat.le_refl _) rfl
 have hbs:Below base w W0:=b3.mono hS.sz
 have hnl:=h.nlt
 have HW0:Hid (BoxAt W0 w.heap.size 65 7 w.heap.size [.int .i64 0,.string ⟨#[]⟩,.bool false,.string ⟨#[]⟩,.int .u64 0,.int .u64 0,.int .i64 0]∧Fp base g b off n cap t d s k ks p nv W0∧FpS base b off n cap t W0∧Chg (fun q=>q=g∨nv.ownBlock=some q) w W0∧(∀q,nv.ownBlock=some q→q<w.heap.size)∧s.ks=k::ks):=⟨b1,h.below b3,hS.up hbs,Chg.of_below b3,fun q hq=>(hnl q hq).2,h.eq⟩
 have hgl:=h.fs.lt
 have hkd:=h.kinds
 have cK:=(h.below b3).fs.cell (j:=2) rfl
 have cT:=(h.below b3).fs.cell (j:=6) rfl
 clear h hS b1 b3 hbs hnl
 have die:∀(c:Int),argP 7 s=.error (c,k.pos)→∀W',Chg (fun q=>q=g∨nv.ownBlock=some q) w W'→Hid (BehP base g b off n cap t d (fun r=>r=argP 7 s) nv w (Pf c (k.pos:Int)) W'):=fun c hc W' hW=>⟨hW,.inr ⟨c,k.pos,hc.symm,rfl⟩⟩
 by_cases hst:∃sx,k.k=.str sx
 case neg=>
  exact zzQ5
 case pos=>
 obtain⟨sx,hsx⟩:=hst
 have hk34:ftB k.k=34:=by rw[hsx];rfl
 have htx:k.k.txt=sx:=by rw[hsx];rfl
 rw[hk34]at cK
 rw[htx]at cT
 have hsz:sx.size≤200:=by
  rw[hsx]at hkd
  rcases hkd with q|q
  ·exact q
  ·cases q
 have Hfin:Hid (k.k.isFin=false):=by show _=_;rw[hsx];rfl
 have HAr:Hid (((checkM (sb sx)).1=0→argP 7 s=(match takeF s.ks with
   | .error e=>.error e
   | .ok k2=>.ok ({s with ks:=k2},patN 7 sx)))∧(¬(checkM (sb sx)).1=0→argP 7 s=.error (6,k.pos))):=argP_str (by omega) (by omega) HW0.2.2.2.2.2 hsx
 have HCk:Hid (Calls Tryz.prog 119 #[.string sx] W0 fun e w'=>e=.returned (.agg #[.int .i64 (checkM (sb sx)).1,.int .i64 ((checkM (sb sx)).2:Int)])∧Below W0.heap.size W0 w'):=implCheck_core sx W0 (by unfold maxLen;omega)
 obtain⟨er,her⟩:=qE ((checkM (sb sx)).1:Int)
 obtain⟨ea,hea⟩:=qE (((checkM (sb sx)).2:Int):Int)
 rw[←her]at HAr
 rw[←her,←hea]at HCk
 have htv:Hid (ftV k= [.int .u8 34,.int .i64 (k.pos:Int),.int .i64 0,.int .u64 0,.string sx]):=by show _=_;unfold ftV;rw[hk34,htx,hsx];rfl
 clear hkd hk34 htx hsx her hea
 go_enter Tryz.func117,Tryz.ntmps117
 go_upto_region 2 with fail
 rw[←hW0]
 clear hW0
 go_wp2_with fail
 refine(fdem_yes _ 3 W0).mono ?_
 rintro e w2 ⟨rfl,hw2⟩
 rw[hw2]
 clear hw2
 go_wp2_with fail
 refine HCk.mono ?_
 rintro e w2 ⟨rfl,hb2⟩
 have H2:Hid (Fp base g b off n cap t d s k ks p nv w2∧FpS base b off n cap t w2∧BoxAt w2 w.heap.size 65 7 w.heap.size [.int .i64 0,.string ⟨#[]⟩,.bool false,.string ⟨#[]⟩,.int .u64 0,.int .u64 0,.int .i64 0]∧Chg (fun q=>q=g∨nv.ownBlock=some q) w w2):=⟨HW0.2.1.below hb2,HW0.2.2.1.up (hb2.mono HW0.2.2.1.sz),HW0.1.below hb2,Chg.comp HW0.2.2.2.1 (Chg.of_below hb2 (S:=fun _=>False)) (fun q _ z=>z.elim)⟩
 have hfd:∀wz:World,(Instr.field 125 (.agg #[.int .i64 er,.int .i64 ea]) 0).run Tryz.prog wz=.ok (.int .i64 er) wz:=fun wz=>by kernel_rfl
 have hfd2:=hfd w2
 clear hb2 HCk cK cT hfd
 by_cases he:er=0
 case neg=>
  exact zzQ25
 case pos=>
 have ze:(er==0)=true:=by simpa using he
 have HTk:Hid (Calls Tryz.prog 114 #[.pointer (some ⟨g,0,none⟩)] w2 (TakP base g b off n cap t d s k nv w2)):=ftake_core H2.2.1 H2.1 Hfin.out
 have HAr2:Hid (argP 7 s=(match takeF s.ks with
   | .error e=>.error e
   | .ok k2=>.ok ({s with ks:=k2},patN 7 sx))):=HAr.1 he
 clear die he
 go_wp2_with fail
 refine(fdem_yes _ 6 w2).mono ?_
 rintro e w3 ⟨rfl,hw3⟩
 rw[hw3]
 clear hw3
 go_wp2_with fail
 refine HTk.mono ?_
 rintro e w3 ⟨Hb3,(⟨k2,ks2,p2,htk,rfl,hF3⟩|⟨c,a,htk,rfl⟩)⟩
 ·have hBx:=H2.2.2.1.chg Hb3.out (by omega)
  have HF3:Hid (Fp base g b off n cap t d {s with ks:=k2::ks2} k2 ks2 p2 nv w3∧takeF s.ks=.ok (k2::ks2)∧Chg (fun q=>q=g) w2 w3):=⟨hF3,htk,Hb3.out⟩
  have hfe:(Instr.field 52 (.agg (ftV k).toArray) 4).run Tryz.prog w3=.ok (.string sx) w3:=by rw[htv.out];kernel_rfl
  clear htk hF3 HTk
  have l0:=hBx.cell (j:=0) rfl
  have l1:=hBx.cell (j:=1) rfl
  have l2:=hBx.cell (j:=2) rfl
  have l3:=hBx.cell (j:=3) rfl
  have l4:=hBx.cell (j:=4) rfl
  have l5:=hBx.cell (j:=5) rfl
  have l6:=hBx.cell (j:=6) rfl
  have f0:=hBx.frozen 0
  have f1:=hBx.frozen 1
  have f2:=hBx.frozen 2
  have f3:=hBx.frozen 3
  have f4:=hBx.frozen 4
  have f5:=hBx.frozen 5
  have f6:=hBx.frozen 6
  obtain⟨W9,hW9⟩:∃V:World,V=setN w3 w.heap.size (patN 7 sx):=⟨_,rfl⟩
  have hB9:=hBx.setN (patN 7 sx)
  rw[←hW9]at hB9
  have hc9:Chg (fun q=>q=w.heap.size) w3 W9:=by rw[hW9];exact chg_setN _ _ _
  have HR:Hid (BehP base g b off n cap t d (fun r=>r=argP 7 s) nv w (.returned (patN 7 sx).v) W9):=BehP.box (s1:=⟨k2::ks2,s.made,s.out⟩) (by show _=_;rw[HAr2.out,HF3.2.1]) HF3.1 (Chg.comp H2.2.2.2 HF3.2.2 (fun q _ z=>.inl z)) (fun q hq=>.inl hq) hc9 (by omega) (fun q hq z=>by have:=HW0.2.2.2.2.1 q hq;omega)
  have q0:=hB9.cell (j:=0) rfl
  have q1:=hB9.cell (j:=1) rfl
  have q2:=hB9.cell (j:=2) rfl
  have q3:=hB9.cell (j:=3) rfl
  have q4:=hB9.cell (j:=4) rfl
  have q5:=hB9.cell (j:=5) rfl
  have q6:=hB9.cell (j:=6) rfl
  unfold setN at hW9
  simp only[leafN,patN,cntN,noS]at hW9 q0 q1 q2 q3 q4 q5 q6
  clear hB9 hc9
  go_wp2_with fail
  rw[←hW9]
  exact bodyPost_ret (v:=(patN 7 sx).v) (by simp[results,Tryz.results117,go_sem,q0,q1,q2,q3,q4,q5,q6,leafN,patN,cntN,noS]) rfl HR.out
 ·have HD:Hid (BehP base g b off n cap t d (fun r=>r=argP 7 s) nv w (Pf c (a:Int)) w3):=⟨Chg.comp H2.2.2.2 Hb3.out (fun q _ z=>.inl z),.inr ⟨c,a,by rw[HAr2.out,htk],rfl⟩⟩
  clear htk HTk
  exact⟨rfl,HD.out⟩
set_option maxHeartbeats 8000000 in
theorem behind_11 {base g b off n cap:Nat} {t:List UInt8} {d:Nat} {s:Ps} {k:Tk} {ks:List Tk} {p:Nat} {nv:Value} {w:World} (hS:FpS base b off n cap t w) (h:Fp base g b off n cap t d s k ks p nv w):Calls Tryz.prog 117 #[.pointer (some ⟨g,0,none⟩),.int .i64 11] w (BehP base g b off n cap t d (fun r=>r=argP 11 s) nv w):=by
 obtain⟨W0,hW0⟩:=qE (w.alloc (Obj.cells #[.int .i64 0,.string ⟨#[]⟩,.bool false,.string ⟨#[]⟩,.int .u64 0,.int .u64 0,.int .i64 0] 65):World)
 have b3:Below w.heap.size w W0:=by rw[hW0];exact qB
 have b1:BoxAt W0 w.heap.size 65 7 w.heap.size [.int .i64 0,.string ⟨#[]⟩,.bool false,.string ⟨#[]⟩,.int .u64 0,.int .u64 0,.int .i64 0]:=by rw[hW0];exact boxAt_new w _ (Nat.le_refl _) rfl
 have hbs:Below base w W0:=b3.mono hS.sz
 have hnl:=h.nlt
 have HW0:Hid (BoxAt W0 w.heap.size 65 7 w.heap.size [.int .i64 0,.string ⟨#[]⟩,.bool false,.string ⟨#[]⟩,.int .u64 0,.int .u64 0,.int .i64 0]∧Fp base g b off n cap t d s k ks p nv W0∧FpS base b off n cap t W0∧Chg (fun q=>q=g∨nv.ownBlock=some q) w W0∧(∀q,nv.ownBlock=some q→q<w.heap.size)∧s.ks=k::ks):=⟨b1,h.below b3,hS.up hbs,Chg.of_below b3,fun q hq=>(hnl q hq).2,h.eq⟩
 have hgl:=h.fs.lt
 have hkd:=h.kinds
 have cK:=(h.below b3).fs.cell (j:=2) rfl
 have cT:=(h.below b3).fs.cell (j:=5) rfl
 clear h hS b1 b3 hbs hnl
 have die:∀(c:Int),argP 11 s=.error (c,k.pos)→∀W',Chg (fun q=>q=g∨nv.ownBlock=some q) w W'→Hid (BehP base g b off n cap t d (fun r=>r=argP 11 s) nv w (Pf c (k.pos:Int)) W'):=fun c hc W' hW=>⟨hW,.inr ⟨c,k.pos,hc.symm,rfl⟩⟩
 by_cases hst:∃v,k.k=.num v
 case neg=>
  have zk:(((ftB k.k).toNat:Int)==48)=false:=by
   cases hq:k.k with
   |num v=>exact absurd ⟨v,hq⟩ hst
   |sign c=>
    rw[hq]at hkd
    rcases hkd with q|q
    ·rcases q with rfl|rfl|rfl|rfl|rfl|rfl<;>rfl
    ·cases q
   |word _=>rfl
   |str _=>rfl
   |fin=>rfl
   |bad=>rfl
  have HD:=die 3 (argP_nonum (by omega) HW0.2.2.2.2.2 (fun v q=>hst ⟨v,q⟩)) W0 HW0.2.2.2.1
  exact zzQ8
 case pos=>
 obtain⟨v,hsx⟩:=hst
 have hk34:ftB k.k=48:=by rw[hsx];rfl
 have htx:k.k.nm=v:=by rw[hsx];rfl
 rw[hk34]at cK
 rw[htx]at cT
 have Hfin:Hid (k.k.isFin=false):=by show _=_;rw[hsx];rfl
 have HAr:Hid (((1≤v∧v≤1000)→argP 11 s=(match takeF s.ks with
   | .error e=>.error e
   | .ok k2=>.ok ({s with ks:=k2},cntN 11 v)))∧(¬(1≤v∧v≤1000)→argP 11 s=.error (8,k.pos))):=argP_num (by omega) HW0.2.2.2.2.2 hsx
 have htv:Hid (ftV k= [.int .u8 48,.int .i64 (k.pos:Int),.int .i64 0,.int .u64 v,.string ⟨#[]⟩]):=by show _=_;unfold ftV;rw[hk34,htx,hsx];rfl
 clear hkd hk34 htx hsx
 by_cases hv:1≤v∧v≤1000
 case neg=>
  exact zzQ7
 case pos=>
 have z1:decide ((1:Int)≤v)=true:=decide_eq_true hv.1
 have z2:decide (v≤(1000:Int))=true:=decide_eq_true hv.2
 have HAr2:Hid (argP 11 s=(match takeF s.ks with
   | .error e=>.error e
   | .ok k2=>.ok ({s with ks:=k2},cntN 11 v))):=HAr.1 hv
 have HTk:Hid (Calls Tryz.prog 114 #[.pointer (some ⟨g,0,none⟩)] W0 (TakP base g b off n cap t d s k nv W0)):=ftake_core HW0.2.2.1 HW0.2.1 Hfin.out
 have zv:IntKind.i64.wrap v=v:=wrap64 (by omega) (by omega)
 clear die
 go_enter Tryz.func117,Tryz.ntmps117
 go_upto_region 2 with fail
 rw[←hW0]
 clear hW0
 go_wp2_with fail
 refine(fdem_yes _ 3 W0).mono ?_
 rintro e w2 ⟨rfl,hw2⟩
 rw[hw2]
 clear hw2
 go_wp2_with fail
 refine(fdem_yes _ 8 W0).mono ?_
 rintro e w2 ⟨rfl,hw2⟩
 rw[hw2]
 clear hw2
 go_wp2_with fail
 refine HTk.mono ?_
 rintro e w3 ⟨Hb3,(⟨k2,ks2,p2,htk,rfl,hF3⟩|⟨c,a,htk,rfl⟩)⟩
 ·have hBx:=HW0.1.chg Hb3.out (by omega)
  have HF3:Hid (Fp base g b off n cap t d {s with ks:=k2::ks2} k2 ks2 p2 nv w3∧takeF s.ks=.ok (k2::ks2)∧Chg (fun q=>q=g) W0 w3):=⟨hF3,htk,Hb3.out⟩
  have hfe:(Instr.field 52 (.agg (ftV k).toArray) 3).run Tryz.prog w3=.ok (.int .u64 v) w3:=by rw[htv.out];kernel_rfl
  clear htk hF3 HTk cK cT
  have l0:=hBx.cell (j:=0) rfl
  have l1:=hBx.cell (j:=1) rfl
  have l2:=hBx.cell (j:=2) rfl
  have l3:=hBx.cell (j:=3) rfl
  have l4:=hBx.cell (j:=4) rfl
  have l5:=hBx.cell (j:=5) rfl
  have l6:=hBx.cell (j:=6) rfl
  have f0:=hBx.frozen 0
  have f1:=hBx.frozen 1
  have f2:=hBx.frozen 2
  have f3:=hBx.frozen 3
  have f4:=hBx.frozen 4
  have f5:=hBx.frozen 5
  have f6:=hBx.frozen 6
  obtain⟨W9,hW9⟩:∃V:World,V=setN w3 w.heap.size (cntN 11 v):=⟨_,rfl⟩
  have hB9:=hBx.setN (cntN 11 v)
  rw[←hW9]at hB9
  have hc9:Chg (fun q=>q=w.heap.size) w3 W9:=by rw[hW9];exact chg_setN _ _ _
  have HR:Hid (BehP base g b off n cap t d (fun r=>r=argP 11 s) nv w (.returned (cntN 11 v).v) W9):=BehP.box (s1:=⟨k2::ks2,s.made,s.out⟩) (by show _=_;rw[HAr2.out,HF3.2.1]) HF3.1 (Chg.comp HW0.2.2.2.1 HF3.2.2 (fun q _ z=>.inl z)) (fun q hq=>.inl hq) hc9 (by omega) (fun q hq z=>by have:=HW0.2.2.2.2.1 q hq;omega)
  have q0:=hB9.cell (j:=0) rfl
  have q1:=hB9.cell (j:=1) rfl
  have q2:=hB9.cell (j:=2) rfl
  have q3:=hB9.cell (j:=3) rfl
  have q4:=hB9.cell (j:=4) rfl
  have q5:=hB9.cell (j:=5) rfl
  have q6:=hB9.cell (j:=6) rfl
  unfold setN at hW9
  simp only[leafN,patN,cntN,noS]at hW9 q0 q1 q2 q3 q4 q5 q6
  clear hB9 hc9
  go_wp2_with fail
  rw[←hW9]
  exact bodyPost_ret (v:=(cntN 11 v).v) (by simp[results,Tryz.results117,go_sem,q0,q1,q2,q3,q4,q5,q6,leafN,patN,cntN,noS]) rfl HR.out
 ·have HD:Hid (BehP base g b off n cap t d (fun r=>r=argP 11 s) nv w (Pf c (a:Int)) w3):=⟨Chg.comp HW0.2.2.2.1 Hb3.out (fun q _ z=>.inl z),.inr ⟨c,a,by rw[HAr2.out,htk],rfl⟩⟩
  clear htk HTk
  exact⟨rfl,HD.out⟩
set_option maxHeartbeats 8000000 in
theorem behind_12 {base g b off n cap:Nat} {t:List UInt8} {d:Nat} {s:Ps} {k:Tk} {ks:List Tk} {p:Nat} {nv:Value} {w:World} (hS:FpS base b off n cap t w) (h:Fp base g b off n cap t d s k ks p nv w):Calls Tryz.prog 117 #[.pointer (some ⟨g,0,none⟩),.int .i64 12] w (BehP base g b off n cap t d (fun r=>r=argP 12 s) nv w):=by
 obtain⟨W0,hW0⟩:=qE (w.alloc (Obj.cells #[.int .i64 0,.string ⟨#[]⟩,.bool false,.string ⟨#[]⟩,.int .u64 0,.int .u64 0,.int .i64 0] 65):World)
 have b3:Below w.heap.size w W0:=by rw[hW0];exact qB
 have b1:BoxAt W0 w.heap.size 65 7 w.heap.size [.int .i64 0,.string ⟨#[]⟩,.bool false,.string ⟨#[]⟩,.int .u64 0,.int .u64 0,.int .i64 0]:=by rw[hW0];exact boxAt_new w _ (Nat.le_refl _) rfl
 have hbs:Below base w W0:=b3.mono hS.sz
 have hnl:=h.nlt
 have HW0:Hid (BoxAt W0 w.heap.size 65 7 w.heap.size [.int .i64 0,.string ⟨#[]⟩,.bool false,.string ⟨#[]⟩,.int .u64 0,.int .u64 0,.int .i64 0]∧Fp base g b off n cap t d s k ks p nv W0∧FpS base b off n cap t W0∧Chg (fun q=>q=g∨nv.ownBlock=some q) w W0∧(∀q,nv.ownBlock=some q→q<w.heap.size)∧s.ks=k::ks):=⟨b1,h.below b3,hS.up hbs,Chg.of_below b3,fun q hq=>(hnl q hq).2,h.eq⟩
 have hgl:=h.fs.lt
 have hkd:=h.kinds
 have cK:=(h.below b3).fs.cell (j:=2) rfl
 have cT:=(h.below b3).fs.cell (j:=5) rfl
 clear h hS b1 b3 hbs hnl
 have die:∀(c:Int),argP 12 s=.error (c,k.pos)→∀W',Chg (fun q=>q=g∨nv.ownBlock=some q) w W'→Hid (BehP base g b off n cap t d (fun r=>r=argP 12 s) nv w (Pf c (k.pos:Int)) W'):=fun c hc W' hW=>⟨hW,.inr ⟨c,k.pos,hc.symm,rfl⟩⟩
 by_cases hst:∃v,k.k=.num v
 case neg=>
  have zk:(((ftB k.k).toNat:Int)==48)=false:=by
   cases hq:k.k with
   |num v=>exact absurd ⟨v,hq⟩ hst
   |sign c=>
    rw[hq]at hkd
    rcases hkd with q|q
    ·rcases q with rfl|rfl|rfl|rfl|rfl|rfl<;>rfl
    ·cases q
   |word _=>rfl
   |str _=>rfl
   |fin=>rfl
   |bad=>rfl
  have HD:=die 3 (argP_nonum (by omega) HW0.2.2.2.2.2 (fun v q=>hst ⟨v,q⟩)) W0 HW0.2.2.2.1
  exact zzQ8
 case pos=>
 obtain⟨v,hsx⟩:=hst
 have hk34:ftB k.k=48:=by rw[hsx];rfl
 have htx:k.k.nm=v:=by rw[hsx];rfl
 rw[hk34]at cK
 rw[htx]at cT
 have Hfin:Hid (k.k.isFin=false):=by show _=_;rw[hsx];rfl
 have HAr:Hid (((1≤v∧v≤1000)→argP 12 s=(match takeF s.ks with
   | .error e=>.error e
   | .ok k2=>.ok ({s with ks:=k2},cntN 12 v)))∧(¬(1≤v∧v≤1000)→argP 12 s=.error (8,k.pos))):=argP_num (by omega) HW0.2.2.2.2.2 hsx
 have htv:Hid (ftV k= [.int .u8 48,.int .i64 (k.pos:Int),.int .i64 0,.int .u64 v,.string ⟨#[]⟩]):=by show _=_;unfold ftV;rw[hk34,htx,hsx];rfl
 clear hkd hk34 htx hsx
 by_cases hv:1≤v∧v≤1000
 case neg=>
  exact zzQ7
 case pos=>
 have z1:decide ((1:Int)≤v)=true:=decide_eq_true hv.1
 have z2:decide (v≤(1000:Int))=true:=decide_eq_true hv.2
 have HAr2:Hid (argP 12 s=(match takeF s.ks with
   | .error e=>.error e
   | .ok k2=>.ok ({s with ks:=k2},cntN 12 v))):=HAr.1 hv
 have HTk:Hid (Calls Tryz.prog 114 #[.pointer (some ⟨g,0,none⟩)] W0 (TakP base g b off n cap t d s k nv W0)):=ftake_core HW0.2.2.1 HW0.2.1 Hfin.out
 have zv:IntKind.i64.wrap v=v:=wrap64 (by omega) (by omega)
 clear die
 go_enter Tryz.func117,Tryz.ntmps117
 go_upto_region 2 with fail
 rw[←hW0]
 clear hW0
 go_wp2_with fail
 refine(fdem_yes _ 3 W0).mono ?_
 rintro e w2 ⟨rfl,hw2⟩
 rw[hw2]
 clear hw2
 go_wp2_with fail
 refine(fdem_yes _ 8 W0).mono ?_
 rintro e w2 ⟨rfl,hw2⟩
 rw[hw2]
 clear hw2
 go_wp2_with fail
 refine HTk.mono ?_
 rintro e w3 ⟨Hb3,(⟨k2,ks2,p2,htk,rfl,hF3⟩|⟨c,a,htk,rfl⟩)⟩
 ·have hBx:=HW0.1.chg Hb3.out (by omega)
  have HF3:Hid (Fp base g b off n cap t d {s with ks:=k2::ks2} k2 ks2 p2 nv w3∧takeF s.ks=.ok (k2::ks2)∧Chg (fun q=>q=g) W0 w3):=⟨hF3,htk,Hb3.out⟩
  have hfe:(Instr.field 52 (.agg (ftV k).toArray) 3).run Tryz.prog w3=.ok (.int .u64 v) w3:=by rw[htv.out];kernel_rfl
  clear htk hF3 HTk cK cT
  have l0:=hBx.cell (j:=0) rfl
  have l1:=hBx.cell (j:=1) rfl
  have l2:=hBx.cell (j:=2) rfl
  have l3:=hBx.cell (j:=3) rfl
  have l4:=hBx.cell (j:=4) rfl
  have l5:=hBx.cell (j:=5) rfl
  have l6:=hBx.cell (j:=6) rfl
  have f0:=hBx.frozen 0
  have f1:=hBx.frozen 1
  have f2:=hBx.frozen 2
  have f3:=hBx.frozen 3
  have f4:=hBx.frozen 4
  have f5:=hBx.frozen 5
  have f6:=hBx.frozen 6
  obtain⟨W9,hW9⟩:∃V:World,V=setN w3 w.heap.size (cntN 12 v):=⟨_,rfl⟩
  have hB9:=hBx.setN (cntN 12 v)
  rw[←hW9]at hB9
  have hc9:Chg (fun q=>q=w.heap.size) w3 W9:=by rw[hW9];exact chg_setN _ _ _
  have HR:Hid (BehP base g b off n cap t d (fun r=>r=argP 12 s) nv w (.returned (cntN 12 v).v) W9):=BehP.box (s1:=⟨k2::ks2,s.made,s.out⟩) (by show _=_;rw[HAr2.out,HF3.2.1]) HF3.1 (Chg.comp HW0.2.2.2.1 HF3.2.2 (fun q _ z=>.inl z)) (fun q hq=>.inl hq) hc9 (by omega) (fun q hq z=>by have:=HW0.2.2.2.2.1 q hq;omega)
  have q0:=hB9.cell (j:=0) rfl
  have q1:=hB9.cell (j:=1) rfl
  have q2:=hB9.cell (j:=2) rfl
  have q3:=hB9.cell (j:=3) rfl
  have q4:=hB9.cell (j:=4) rfl
  have q5:=hB9.cell (j:=5) rfl
  have q6:=hB9.cell (j:=6) rfl
  unfold setN at hW9
  simp only[leafN,patN,cntN,noS]at hW9 q0 q1 q2 q3 q4 q5 q6
  clear hB9 hc9
  go_wp2_with fail
  rw[←hW9]
  exact bodyPost_ret (v:=(cntN 12 v).v) (by simp[results,Tryz.results117,go_sem,q0,q1,q2,q3,q4,q5,q6,leafN,patN,cntN,noS]) rfl HR.out
 ·have HD:Hid (BehP base g b off n cap t d (fun r=>r=argP 12 s) nv w (Pf c (a:Int)) w3):=⟨Chg.comp HW0.2.2.2.1 Hb3.out (fun q _ z=>.inl z),.inr ⟨c,a,by rw[HAr2.out,htk],rfl⟩⟩
  clear htk HTk
  exact⟨rfl,HD.out⟩
set_option maxHeartbeats 8000000 in
theorem behind_13 {base g b off n cap:Nat} {t:List UInt8} {d:Nat} {s:Ps} {k:Tk} {ks:List Tk} {p:Nat} {nv:Value} {w:World} (hS:FpS base b off n cap t w) (h:Fp base g b off n cap t d s k ks p nv w):Calls Tryz.prog 117 #[.pointer (some ⟨g,0,none⟩),.int .i64 13] w (BehP base g b off n cap t d (fun r=>r=argP 13 s) nv w):=by
 obtain⟨W0,hW0⟩:=qE (w.alloc (Obj.cells #[.int .i64 0,.string ⟨#[]⟩,.bool false,.string ⟨#[]⟩,.int .u64 0,.int .u64 0,.int .i64 0] 65):World)
 have b3:Below w.heap.size w W0:=by rw[hW0];exact qB
 have b1:BoxAt W0 w.heap.size 65 7 w.heap.size [.int .i64 0,.string ⟨#[]⟩,.bool false,.string ⟨#[]⟩,.int .u64 0,.int .u64 0,.int .i64 0]:=by rw[hW0];exact boxAt_new w _ (Nat.le_refl _) rfl
 have hbs:Below base w W0:=b3.mono hS.sz
 have hnl:=h.nlt
 have HW0:Hid (BoxAt W0 w.heap.size 65 7 w.heap.size [.int .i64 0,.string ⟨#[]⟩,.bool false,.string ⟨#[]⟩,.int .u64 0,.int .u64 0,.int .i64 0]∧Fp base g b off n cap t d s k ks p nv W0∧FpS base b off n cap t W0∧Chg (fun q=>q=g∨nv.ownBlock=some q) w W0∧(∀q,nv.ownBlock=some q→q<w.heap.size)∧s.ks=k::ks):=⟨b1,h.below b3,hS.up hbs,Chg.of_below b3,fun q hq=>(hnl q hq).2,h.eq⟩
 have hgl:=h.fs.lt
 have hkd:=h.kinds
 have cK:=(h.below b3).fs.cell (j:=2) rfl
 have cT:=(h.below b3).fs.cell (j:=5) rfl
 clear h hS b1 b3 hbs hnl
 have die:∀(c:Int),argP 13 s=.error (c,k.pos)→∀W',Chg (fun q=>q=g∨nv.ownBlock=some q) w W'→Hid (BehP base g b off n cap t d (fun r=>r=argP 13 s) nv w (Pf c (k.pos:Int)) W'):=fun c hc W' hW=>⟨hW,.inr ⟨c,k.pos,hc.symm,rfl⟩⟩
 by_cases hst:∃v,k.k=.num v
 case neg=>
  have zk:(((ftB k.k).toNat:Int)==48)=false:=by
   cases hq:k.k with
   |num v=>exact absurd ⟨v,hq⟩ hst
   |sign c=>
    rw[hq]at hkd
    rcases hkd with q|q
    ·rcases q with rfl|rfl|rfl|rfl|rfl|rfl<;>rfl
    ·cases q
   |word _=>rfl
   |str _=>rfl
   |fin=>rfl
   |bad=>rfl
  have HD:=die 3 (argP_nonum (by omega) HW0.2.2.2.2.2 (fun v q=>hst ⟨v,q⟩)) W0 HW0.2.2.2.1
  exact zzQ8
 case pos=>
 obtain⟨v,hsx⟩:=hst
 have hk34:ftB k.k=48:=by rw[hsx];rfl
 have htx:k.k.nm=v:=by rw[hsx];rfl
 rw[hk34]at cK
 rw[htx]at cT
 have Hfin:Hid (k.k.isFin=false):=by show _=_;rw[hsx];rfl
 have HAr:Hid (((1≤v∧v≤1000)→argP 13 s=(match takeF s.ks with
   | .error e=>.error e
   | .ok k2=>.ok ({s with ks:=k2},cntN 13 v)))∧(¬(1≤v∧v≤1000)→argP 13 s=.error (8,k.pos))):=argP_num (by omega) HW0.2.2.2.2.2 hsx
 have htv:Hid (ftV k= [.int .u8 48,.int .i64 (k.pos:Int),.int .i64 0,.int .u64 v,.string ⟨#[]⟩]):=by show _=_;unfold ftV;rw[hk34,htx,hsx];rfl
 clear hkd hk34 htx hsx
 by_cases hv:1≤v∧v≤1000
 case neg=>
  exact zzQ7
 case pos=>
 have z1:decide ((1:Int)≤v)=true:=decide_eq_true hv.1
 have z2:decide (v≤(1000:Int))=true:=decide_eq_true hv.2
 have HAr2:Hid (argP 13 s=(match takeF s.ks with
   | .error e=>.error e
   | .ok k2=>.ok ({s with ks:=k2},cntN 13 v))):=HAr.1 hv
 have HTk:Hid (Calls Tryz.prog 114 #[.pointer (some ⟨g,0,none⟩)] W0 (TakP base g b off n cap t d s k nv W0)):=ftake_core HW0.2.2.1 HW0.2.1 Hfin.out
 have zv:IntKind.i64.wrap v=v:=wrap64 (by omega) (by omega)
 clear die
 go_enter Tryz.func117,Tryz.ntmps117
 go_upto_region 2 with fail
 rw[←hW0]
 clear hW0
 go_wp2_with fail
 refine(fdem_yes _ 3 W0).mono ?_
 rintro e w2 ⟨rfl,hw2⟩
 rw[hw2]
 clear hw2
 go_wp2_with fail
 refine(fdem_yes _ 8 W0).mono ?_
 rintro e w2 ⟨rfl,hw2⟩
 rw[hw2]
 clear hw2
 go_wp2_with fail
 refine HTk.mono ?_
 rintro e w3 ⟨Hb3,(⟨k2,ks2,p2,htk,rfl,hF3⟩|⟨c,a,htk,rfl⟩)⟩
 ·have hBx:=HW0.1.chg Hb3.out (by omega)
  have HF3:Hid (Fp base g b off n cap t d {s with ks:=k2::ks2} k2 ks2 p2 nv w3∧takeF s.ks=.ok (k2::ks2)∧Chg (fun q=>q=g) W0 w3):=⟨hF3,htk,Hb3.out⟩
  have hfe:(Instr.field 52 (.agg (ftV k).toArray) 3).run Tryz.prog w3=.ok (.int .u64 v) w3:=by rw[htv.out];kernel_rfl
  clear htk hF3 HTk cK cT
  have l0:=hBx.cell (j:=0) rfl
  have l1:=hBx.cell (j:=1) rfl
  have l2:=hBx.cell (j:=2) rfl
  have l3:=hBx.cell (j:=3) rfl
  have l4:=hBx.cell (j:=4) rfl
  have l5:=hBx.cell (j:=5) rfl
  have l6:=hBx.cell (j:=6) rfl
  have f0:=hBx.frozen 0
  have f1:=hBx.frozen 1
  have f2:=hBx.frozen 2
  have f3:=hBx.frozen 3
  have f4:=hBx.frozen 4
  have f5:=hBx.frozen 5
  have f6:=hBx.frozen 6
  obtain⟨W9,hW9⟩:∃V:World,V=setN w3 w.heap.size (cntN 13 v):=⟨_,rfl⟩
  have hB9:=hBx.setN (cntN 13 v)
  rw[←hW9]at hB9
  have hc9:Chg (fun q=>q=w.heap.size) w3 W9:=by rw[hW9];exact chg_setN _ _ _
  have HR:Hid (BehP base g b off n cap t d (fun r=>r=argP 13 s) nv w (.returned (cntN 13 v).v) W9):=BehP.box (s1:=⟨k2::ks2,s.made,s.out⟩) (by show _=_;rw[HAr2.out,HF3.2.1]) HF3.1 (Chg.comp HW0.2.2.2.1 HF3.2.2 (fun q _ z=>.inl z)) (fun q hq=>.inl hq) hc9 (by omega) (fun q hq z=>by have:=HW0.2.2.2.2.1 q hq;omega)
  have q0:=hB9.cell (j:=0) rfl
  have q1:=hB9.cell (j:=1) rfl
  have q2:=hB9.cell (j:=2) rfl
  have q3:=hB9.cell (j:=3) rfl
  have q4:=hB9.cell (j:=4) rfl
  have q5:=hB9.cell (j:=5) rfl
  have q6:=hB9.cell (j:=6) rfl
  unfold setN at hW9
  simp only[leafN,patN,cntN,noS]at hW9 q0 q1 q2 q3 q4 q5 q6
  clear hB9 hc9
  go_wp2_with fail
  rw[←hW9]
  exact bodyPost_ret (v:=(cntN 13 v).v) (by simp[results,Tryz.results117,go_sem,q0,q1,q2,q3,q4,q5,q6,leafN,patN,cntN,noS]) rfl HR.out
 ·have HD:Hid (BehP base g b off n cap t d (fun r=>r=argP 13 s) nv w (Pf c (a:Int)) w3):=⟨Chg.comp HW0.2.2.2.1 Hb3.out (fun q _ z=>.inl z),.inr ⟨c,a,by rw[HAr2.out,htk],rfl⟩⟩
  clear htk HTk
  exact⟨rfl,HD.out⟩
set_option maxHeartbeats 8000000 in
theorem behind_16 {base g b off n cap:Nat} {t:List UInt8} {d:Nat} {s:Ps} {k:Tk} {ks:List Tk} {p:Nat} {nv:Value} {w:World} (hS:FpS base b off n cap t w) (h:Fp base g b off n cap t d s k ks p nv w) {F:Ps→PR Ps→Prop} (HF:0<d→OprC base g b off n cap t (d-1) 26 F):Calls Tryz.prog 117 #[.pointer (some ⟨g,0,none⟩),.int .i64 16] w (BehP base g b off n cap t d (fun r=>(∃s1,BranR F d s (.ok s1)∧r=.ok (s1,leafN 16))∨(∃e,BranR F d s (.error e)∧r=.error e)) nv w):=by
 obtain⟨W0,hW0⟩:=qE (w.alloc (Obj.cells #[.int .i64 0,.string ⟨#[]⟩,.bool false,.string ⟨#[]⟩,.int .u64 0,.int .u64 0,.int .i64 0] 65):World)
 have b3:Below w.heap.size w W0:=by rw[hW0];exact qB
 have b1:BoxAt W0 w.heap.size 65 7 w.heap.size [.int .i64 0,.string ⟨#[]⟩,.bool false,.string ⟨#[]⟩,.int .u64 0,.int .u64 0,.int .i64 0]:=by rw[hW0];exact boxAt_new w _ (Nat.le_refl _) rfl
 have hbs:Below base w W0:=b3.mono hS.sz
 have hnl:=h.nlt
 have HW0:Hid (BoxAt W0 w.heap.size 65 7 w.heap.size [.int .i64 0,.string ⟨#[]⟩,.bool false,.string ⟨#[]⟩,.int .u64 0,.int .u64 0,.int .i64 0]∧Fp base g b off n cap t d s k ks p nv W0∧FpS base b off n cap t W0∧Chg (fun q=>q=g∨nv.ownBlock=some q) w W0∧(∀q,nv.ownBlock=some q→q<w.heap.size)∧s.ks=k::ks):=⟨b1,h.below b3,hS.up hbs,Chg.of_below b3,fun q hq=>(hnl q hq).2,h.eq⟩
 have hgl:=h.fs.lt
 have HBr:Hid (Calls Tryz.prog 128 #[.pointer (some ⟨g,0,none⟩)] W0 (FpO base g b off n cap t d (BranR F d s) (.tuple #[]) nv W0)):=branches_core HF HW0.2.2.1 HW0.2.1
 have hsz0:w.heap.size<W0.heap.size:=by rw[hW0];simp
 clear h hS b1 b3 hbs hnl HF
 go_enter Tryz.func117,Tryz.ntmps117
 go_upto_region 2 with fail
 rw[←hW0]
 clear hW0
 go_wp2_with fail
 refine HBr.mono ?_
 rintro e w3 ⟨Hc3,(⟨s1,hs1,rfl,k2,ks2,p2,nv3,hF3,hn3⟩|⟨c,a,hs1,rfl⟩)⟩
 case inr=>
  have HD:Hid (BehP base g b off n cap t d (fun r=>(∃s1,BranR F d s (.ok s1)∧r=.ok (s1,leafN 16))∨(∃e,BranR F d s (.error e)∧r=.error e)) nv w (Pf c (a:Int)) w3):=⟨Chg.comp HW0.2.2.2.1 Hc3.out (fun q _ z=>z),.inr ⟨c,a,.inr ⟨_,hs1,rfl⟩,rfl⟩⟩
  clear hs1 HBr
  exact⟨rfl,HD.out⟩
 have hBx:=HW0.1.chg Hc3.out (fun z=>by
  rcases z with z|z
  ·omega
  ·have:=HW0.2.2.2.2.1 _ z;omega)
 have HF3:Hid (Fp base g b off n cap t d s1 k2 ks2 p2 nv3 w3∧BranR F d s (.ok s1)∧Chg (fun q=>q=g∨nv.ownBlock=some q) w w3∧(∀q,nv3.ownBlock=some q→(nv.ownBlock=some q∨w.heap.size≤q)∧¬q=w.heap.size)):=⟨hF3,hs1,Chg.comp HW0.2.2.2.1 Hc3.out (fun q _ z=>z),fun q hq=>by
  rcases hn3 q hq with y|y
  ·have:=HW0.2.2.2.2.1 q y
   exact⟨.inl y,by omega⟩
  ·exact⟨.inr (by omega),by omega⟩⟩
 clear hs1 hF3 hn3 HBr
 have l0:=hBx.cell (j:=0) rfl
 have l1:=hBx.cell (j:=1) rfl
 have l2:=hBx.cell (j:=2) rfl
 have l3:=hBx.cell (j:=3) rfl
 have l4:=hBx.cell (j:=4) rfl
 have l5:=hBx.cell (j:=5) rfl
 have l6:=hBx.cell (j:=6) rfl
 have f0:=hBx.frozen 0
 have f1:=hBx.frozen 1
 have f2:=hBx.frozen 2
 have f3:=hBx.frozen 3
 have f4:=hBx.frozen 4
 have f5:=hBx.frozen 5
 have f6:=hBx.frozen 6
 obtain⟨W9,hW9⟩:∃V:World,V=setN w3 w.heap.size (leafN 16):=⟨_,rfl⟩
 have hB9:=hBx.setN (leafN 16)
 rw[←hW9]at hB9
 have hc9:Chg (fun q=>q=w.heap.size) w3 W9:=by rw[hW9];exact chg_setN _ _ _
 have HR:Hid (BehP base g b off n cap t d (fun r=>(∃s1,BranR F d s (.ok s1)∧r=.ok (s1,leafN 16))∨(∃e,BranR F d s (.error e)∧r=.error e)) nv w (.returned (leafN 16).v) W9):=BehP.box (s1:=s1) (.inl ⟨s1,HF3.2.1,rfl⟩) HF3.1 HF3.2.2.1 (fun q hq=>(HF3.2.2.2 q hq).1) hc9 (by omega) (fun q hq=>(HF3.2.2.2 q hq).2)
 have q0:=hB9.cell (j:=0) rfl
 have q1:=hB9.cell (j:=1) rfl
 have q2:=hB9.cell (j:=2) rfl
 have q3:=hB9.cell (j:=3) rfl
 have q4:=hB9.cell (j:=4) rfl
 have q5:=hB9.cell (j:=5) rfl
 have q6:=hB9.cell (j:=6) rfl
 unfold setN at hW9
 simp only[leafN,patN,cntN,noS]at hW9 q0 q1 q2 q3 q4 q5 q6
 clear hB9 hc9
 go_wp2_with fail
 rw[←hW9]
 exact bodyPost_ret (v:=(leafN 16).v) (by simp[results,Tryz.results117,go_sem,q0,q1,q2,q3,q4,q5,q6,leafN,patN,cntN,noS]) rfl HR.out
def liftP (s:Ps) (r:PR (List Tk×Nd)):PR (Ps×Nd):=match r with
 | .error e=>.error e
 | .ok (ks,nd)=>.ok ({s with ks:=ks},nd)
theorem argP_lift (kd:Int) (s:Ps):argP kd s=liftP s (argsF kd s.ks):=rfl
structure EnJ (w:World) (base g b off n cap:Nat) (t:List UInt8) (d:Nat) (nv0:Value) (a:Tk) (s:Ps) (k:Tk) (ks:List Tk) (p:Nat) (nv:Value) (W:World):Prop where
 fp:Fp base g b off n cap t d s k ks p nv W
 st:FpS base b off n cap t W
 res:BoxAt W w.heap.size 65 7 w.heap.size [.int .i64 0,.string ⟨#[]⟩,.bool false,.string ⟨#[]⟩,.int .u64 0,.int .u64 0,.int .i64 0]
 low:BoxAt W w.heap.size 52 5 (w.heap.size+1) (ftV a)
 chg:Chg (fun q=>q=g∨nv0.ownBlock=some q) w W
 old:∀q,nv0.ownBlock=some q→q<w.heap.size
 own:∀q,nv.ownBlock=some q→(nv0.ownBlock=some q∨w.heap.size+2≤q)
 lt:base≤w.heap.size∧base≤g∧g<w.heap.size∧w.heap.size+2≤W.heap.size
theorem EnJ.up {w:World} {base g b off n cap:Nat} {t:List UInt8} {d:Nat} {nv0:Value} {a:Tk} {s:Ps} {k:Tk} {ks:List Tk} {p:Nat} {nv:Value} {W W':World} (h:EnJ w base g b off n cap t d nv0 a s k ks p nv W) (hb:Below W.heap.size W W'):EnJ w base g b off n cap t d nv0 a s k ks p nv W':=
 ⟨h.fp.below hb,h.st.up (hb.mono h.st.sz),h.res.chg (S:=fun _=>False) (Chg.of_below hb) (fun q=>q),h.low.chg (S:=fun _=>False) (Chg.of_below hb) (fun q=>q),Chg.comp h.chg (Chg.of_below (S:=fun _=>False) hb) (fun _ _ q=>q.elim),h.old,h.own,by have:=h.lt;have:=hb.size;omega⟩
theorem EnJ.on {w:World} {base g b off n cap:Nat} {t:List UInt8} {d:Nat} {nv0:Value} {a:Tk} {s:Ps} {k:Tk} {ks:List Tk} {p:Nat} {nv:Value} {W W':World} (h:EnJ w base g b off n cap t d nv0 a s k ks p nv W) (hc:Chg (fun q=>q=g∨nv.ownBlock=some q) W W') {s2:Ps} {k2:Tk} {ks2:List Tk} {p2:Nat} {nv2:Value} (hF:Fp base g b off n cap t d s2 k2 ks2 p2 nv2 W') (ho:∀q,nv2.ownBlock=some q→nv.ownBlock=some q∨W.heap.size≤q):EnJ w base g b off n cap t d nv0 a s2 k2 ks2 p2 nv2 W':=by
 have hl:=h.lt
 have hn:∀q,(q=g∨nv.ownBlock=some q)→¬q=w.heap.size∧¬q=w.heap.size+1:=by
  intro q hq
  rcases hq with hq|hq
  ·omega
  ·rcases h.own q hq with z|z
   ·have:=h.old q z;omega
   ·omega
 have hbb:Below base W W':=by
  refine⟨hc.os,hc.tape,hc.output,hc.size,fun q hq=>hc.block q (Nat.lt_of_lt_of_le hq h.st.sz) (fun z=>?_)⟩
  rcases z with z|z
  ·omega
  ·have:=(h.fp.nlt q z).1;omega
 refine⟨hF,h.st.up hbb,h.res.chg hc (fun z=>(hn _ z).1 rfl),h.low.chg hc (fun z=>(hn _ z).2 rfl),Chg.comp h.chg hc (fun q hq z=>?_),h.old,fun q hq=>?_,by have:=hc.size;omega⟩
 ·rcases z with z|z
  ·exact .inl z
  ·rcases h.own q z with y|y
   ·exact .inr y
   ·omega
 ·rcases ho q hq with y|y
  ·exact h.own q y
  ·exact .inr (by omega)
theorem EnJ.side {w:World} {base g b off n cap:Nat} {t:List UInt8} {d:Nat} {nv0:Value} {a:Tk} {s:Ps} {k:Tk} {ks:List Tk} {p:Nat} {nv:Value} {W W':World} {B:Nat} (h:EnJ w base g b off n cap t d nv0 a s k ks p nv W) (hc:Chg (fun q=>q=B) W W') (hB:w.heap.size+2≤B) (hn:∀q,nv.ownBlock=some q→¬q=B):EnJ w base g b off n cap t d nv0 a s k ks p nv W':=by
 have hl:=h.lt
 refine⟨h.fp.chg hc (by omega) hn,h.st.chg hc (fun q z=>by omega),h.res.chg hc (by omega),h.low.chg hc (by omega),Chg.comp h.chg hc (fun q hq z=>by omega),h.old,h.own,by have:=hc.size;omega⟩
theorem EnJ.fin {w:World} {base g b off n cap:Nat} {t:List UInt8} {d:Nat} {A:PR (Ps×Nd)→Prop} {nv0:Value} {a:Tk} {s:Ps} {k:Tk} {ks:List Tk} {p:Nat} {nv:Value} {W W':World} (h:EnJ w base g b off n cap t d nv0 a s k ks p nv W) {nd:Nd} (hA:A (.ok (s,nd))) (hc:Chg (fun q=>q=w.heap.size) W W'):BehP base g b off n cap t d A nv0 w (.returned nd.v) W':=by
 have hl:=h.lt
 refine BehP.box (nv3:=nv) (Bk:=w.heap.size) hA h.fp h.chg (fun q hq=>?_) hc (by omega) (fun q hq=>?_)
 ·rcases h.own q hq with z|z
  ·exact .inl z
  ·exact .inr (by omega)
 ·rcases h.own q hq with z|z
  ·have:=h.old q z;omega
  ·omega
theorem EnJ.die {w:World} {base g b off n cap:Nat} {t:List UInt8} {d:Nat} {A:PR (Ps×Nd)→Prop} {nv0:Value} {a:Tk} {s:Ps} {k:Tk} {ks:List Tk} {p:Nat} {nv:Value} {W W':World} (h:EnJ w base g b off n cap t d nv0 a s k ks p nv W) (hc:Chg (fun q=>q=g∨nv.ownBlock=some q) W W') {c:Int} {e:Nat} (hA:A (.error (c,e))):BehP base g b off n cap t d A nv0 w (Pf c (e:Int)) W':=by
 refine⟨Chg.comp h.chg hc (fun q hq z=>?_),.inr ⟨c,e,hA,rfl⟩⟩
 rcases z with z|z
 ·exact .inl z
 ·rcases h.own q z with y|y
  ·exact .inr y
  ·have:=h.lt;omega
theorem boxes2 {w W:World} {t1 t2:Nat} (v u:List Value) (h:W=(w.alloc (Obj.cells v.toArray t1)).alloc (Obj.cells u.toArray t2)):BoxAt W w.heap.size t1 v.length w.heap.size v∧BoxAt W w.heap.size t2 u.length (w.heap.size+1) u∧Below w.heap.size w W∧W.heap.size=w.heap.size+2:=by
 obtain⟨X,hX⟩:=qE (w.alloc (Obj.cells v.toArray t1):World)
 have z:X.heap.size=w.heap.size+1:=by rw[hX];simp
 have b1:=boxAt_new w (base:=w.heap.size) (t:=t1) (sz:=v.length) v.toArray (Nat.le_refl _) (by simp)
 have k1:Below w.heap.size w X:=by rw[hX];exact qB
 rw[←hX]at b1 h
 have k2:Below X.heap.size X W:=by rw[h];exact qB
 have b2:=boxAt_new X (base:=w.heap.size) (t:=t2) (sz:=u.length) u.toArray (by omega) (by simp)
 rw[←h,z]at b2
 exact⟨b1.below k2,b2,k1.trans (k2.mono (by omega)),by rw[h];simp;omega⟩
theorem ends_sort {k:TkK} (hk:k.good∨k=.fin) (strs:Bool):(((ftB k).toNat:Int)==(if strs=true then 34 else 48))=k.isSort strs:=by
 cases strs<;>(rcases hk with q|q
               ·cases k with
                |sign c=>rcases q with rfl|rfl|rfl|rfl|rfl|rfl<;>rfl
                |word _=>rfl
                |num _=>rfl
                |str _=>rfl
                |fin=>rfl
                |bad=>rfl
               ·rw[q];rfl)
theorem sort_fin {k:TkK} {strs:Bool} (h:k.isSort strs=true):k.isFin=false:=by
 cases k<;>cases strs<;>simp_all[TkK.isSort,TkK.isFin]
theorem expect_err {s:Ps} {c:Int} {e:Nat} {x:UInt8} (h:Except.error (c,e)=s.to (expectF x s.ks)):expectF x s.ks=.error (c,e):=by
 cases hq:expectF x s.ks with
 |error q=>rw[hq]at h;cases h;rfl
 |ok q=>rw[hq]at h;cases h
theorem expect_ok {s s1:Ps} {x:UInt8} (h:Except.ok s1=s.to (expectF x s.ks)):∃k2,expectF x s.ks=.ok k2∧s1={s with ks:=k2}:=by
 cases hq:expectF x s.ks with
 |error q=>rw[hq]at h;cases h
 |ok q=>rw[hq]at h;cases h;exact⟨q,rfl,rfl⟩
set_option maxHeartbeats 8000000 in
theorem fends_core {base g b off n cap:Nat} {t:List UInt8} {d:Nat} {s:Ps} {k:Tk} {ks:List Tk} {p:Nat} {nv:Value} {w:World} (hS:FpS base b off n cap t w) (h:Fp base g b off n cap t d s k ks p nv w) (strs:Bool) (kd sv:Int) (hsv:(if strs=true then(34:Int)else 48)=sv):Calls Tryz.prog 129 #[.pointer (some ⟨g,0,none⟩),.int .i64 kd,.int .u8 sv] w (BehP base g b off n cap t d (fun r=>r=liftP s (rangeF kd strs s.ks)) nv w):=by
 obtain⟨W0,hW0⟩:=qE ((w.alloc (Obj.cells #[.int .i64 0,.string ⟨#[]⟩,.bool false,.string ⟨#[]⟩,.int .u64 0,.int .u64 0,.int .i64 0] 65)).alloc (Obj.cells #[.int .u8 0,.int .i64 0,.int .i64 0,.int .u64 0,.string ⟨#[]⟩] 52):World)
 obtain⟨b1,b2,b3,z3⟩:=boxes2 [.int .i64 0,.string ⟨#[]⟩,.bool false,.string ⟨#[]⟩,.int .u64 0,.int .u64 0,.int .i64 0] [.int .u8 0,.int .i64 0,.int .i64 0,.int .u64 0,.string ⟨#[]⟩] hW0
 have hnl:=h.nlt
 have hgl:=h.fs.lt
 have HJ0:Hid (EnJ w base g b off n cap t d nv ⟨.fin,0⟩ s k ks p nv W0∧(k.k.good∨k.k=.fin)∧s.ks=k::ks):=⟨⟨h.below b3,hS.up (b3.mono hS.sz),b1,b2,Chg.of_below b3,fun q hq=>(hnl q hq).2,fun q hq=>.inl hq,⟨hS.sz,hgl.1,hgl.2,by omega⟩⟩,h.kinds,h.eq⟩
 clear h hS b1 b2 b3 z3 hnl
 go_enter Tryz.func129,Tryz.ntmps129
 go_upto_region 2 with fail
 rw[←hW0]
 clear hW0
 have cK:=HJ0.1.fp.fs.cell (j:=2) rfl
 have zK:=ends_sort HJ0.2.1 strs
 rw[hsv]at zK
 by_cases h1:k.k.isSort strs=true
 case neg=>
  have h1':k.k.isSort strs=false:=by simpa using h1
  rw[h1']at zK
  obtain⟨a,ha⟩:=qE (⟨.fin,0⟩:Tk)
  have HA:Hid (liftP s (rangeF kd strs s.ks)=liftP s (dotsF kd strs a.k s.ks)):=by
   show _=_
   rw[rangeF,if_neg (by rw[HJ0.2.2];show¬k.k.isSort strs=true;rw[h1'];simp),ha]
  have HJ:Hid (EnJ w base g b off n cap t d nv a s k ks p nv W0):=by rw[ha];exact HJ0.1
  clear HJ0 ha h1 h1'
  go_upto_region 4 with fail
  clear cK zK
  have HE:Hid (Calls Tryz.prog 127 #[.pointer (some ⟨g,0,none⟩),.int .u8 46] W0 (FpO base g b off n cap t d (fun r=>r=s.to (expectF 46 s.ks)) (.agg (ftV k).toArray) nv W0)):=expect_core (bb:=46) HJ.st HJ.fp (by simp)
  go_wp2_with fail
  refine HE.mono ?_
  clear HE
  rintro e w3 ⟨Hc3,(⟨s3,hs3,rfl,k3,ks3,p3,nv3,hF3,hn3⟩|⟨c,e3,hs3,rfl⟩)⟩
  case inr=>
   exact zzQ58
  have HJ3:Hid (EnJ w base g b off n cap t d nv a s3 k3 ks3 p3 nv3 w3):=HJ.on Hc3.out hF3 hn3
  have HA3:Hid (liftP s (rangeF kd strs s.ks)=liftP s3 (upF kd strs a.k s3.ks)):=by
   obtain⟨q,hq,rfl⟩:=expect_ok hs3
   show _=_
   rw[HA.out,dotsF,hq]
   rfl
  clear hs3 hF3 hn3 Hc3
  have m3:=HJ3.low.cell (j:=3) rfl
  have m4:=HJ3.low.cell (j:=4) rfl
  obtain⟨W4,hW4⟩:∃V:World,V=w3.alloc (Obj.cells #[.int .i64 kd,.string a.k.txt,.bool false,.string ⟨#[]⟩,.int .u64 a.k.nm,.int .u64 0,.int .i64 0] 65):=⟨_,rfl⟩
  have b4:Below w3.heap.size w3 W4:=by rw[hW4];exact qB
  have H4:Hid (EnJ w base g b off n cap t d nv a s3 k3 ks3 p3 nv3 W4∧BoxAt W4 w3.heap.size 65 7 w3.heap.size [.int .i64 kd,.string a.k.txt,.bool false,.string ⟨#[]⟩,.int .u64 a.k.nm,.int .u64 0,.int .i64 0]∧(k3.k.good∨k3.k=.fin)∧s3.ks=k3::ks3):=⟨HJ3.up b4,by rw[hW4];exact boxAt_new w3 _ (Nat.le_refl _) rfl,HJ3.fp.kinds,HJ3.fp.eq⟩
  go_upto_region 6 with fail
  rw[←hW4]
  clear hW4 m3 m4 b4
  have cK:=H4.1.fp.fs.cell (j:=2) rfl
  have zK:=ends_sort H4.2.2.1 strs
  rw[hsv]at zK
  by_cases h3:k3.k.isSort strs=true
  case neg=>
   exact zzQ6
  rw[h3]at zK
  have hfin:=sort_fin h3
  have eU:upF kd strs a.k s3.ks=(if less a.k.txt k3.k.txt∨a.k.nm<k3.k.nm then(match takeF s3.ks with
     | .error e=>.error e
     | .ok k2=>.ok (k2,(⟨kd,a.k.txt,true,k3.k.txt,a.k.nm,k3.k.nm,0⟩:Nd)))else .error (7,k3.pos)):=by
   unfold upF
   rw[if_pos (by rw[H4.2.2.2];exact h3)]
   rw[show hdK s3.ks=k3.k from by rw[H4.2.2.2];rfl,show hdA s3.ks=k3.pos from by rw[H4.2.2.2];rfl]
   rfl
  have HA5:Hid (liftP s (rangeF kd strs s.ks)=liftP s3 (if less a.k.txt k3.k.txt∨a.k.nm<k3.k.nm then(match takeF s3.ks with
     | .error e=>.error e
     | .ok k2=>.ok (k2,(⟨kd,a.k.txt,true,k3.k.txt,a.k.nm,k3.k.nm,0⟩:Nd)))else .error (7,k3.pos))):=by show _=_;rw[HA3.out,eU]
  clear eU h3 HA3
  go_upto_region 7 with fail
  clear cK zK
  by_cases hl1:less a.k.txt k3.k.txt
  case pos=>
   have hd1:Op.bytesLess a.k.txt.toList k3.k.txt.toList=true:=hl1
   have HA6:Hid (liftP s (rangeF kd strs s.ks)=liftP s3 (match takeF s3.ks with
     | .error e=>.error e
     | .ok k2=>.ok (k2,(⟨kd,a.k.txt,true,k3.k.txt,a.k.nm,k3.k.nm,0⟩:Nd)))):=by show _=_;rw[HA5.out,if_pos (by exact .inl hl1)]
   clear hl1
   have e4:=H4.1.low.cell (j:=4) rfl
   have e3:=H4.1.low.cell (j:=3) rfl
   have e6:=H4.1.fp.fs.cell (j:=6) rfl
   have e5:=H4.1.fp.fs.cell (j:=5) rfl
   have hS0:(fun w':World=>w'.cell? ⟨w.heap.size+1,4,none⟩=some (.string a.k.txt)∧w'.cell? ⟨w.heap.size+1,3,none⟩=some (.int .u64 a.k.nm)∧w'.cell? ⟨g,6,none⟩=some (.string k3.k.txt)∧w'.cell? ⟨g,5,none⟩=some (.int .u64 k3.k.nm)) W4.drew:=⟨e4,e3,e6,e5⟩
   clear e3 e4 e5 e6
   refine wp_region_T 99 (fun w':World=>w'.cell? ⟨w.heap.size+1,4,none⟩=some (.string a.k.txt)∧w'.cell? ⟨w.heap.size+1,3,none⟩=some (.int .u64 a.k.nm)∧w'.cell? ⟨g,6,none⟩=some (.string k3.k.txt)∧w'.cell? ⟨g,5,none⟩=some (.int .u64 k3.k.nm)) (by kernel_rfl) ?_
   refine qT 0 ?vax0 rfl ?yax0 hS0 ?_
   case yax0=>exact zzR0
   try simp only[qA,List.getElem_toArray,List.getElem_cons_zero,List.getElem_cons_succ]
   refine qT 1 ?vax1 rfl ?yax1 hS0 ?_
   case yax1=>exact zzR0
   try simp only[qA,List.getElem_toArray,List.getElem_cons_zero,List.getElem_cons_succ]
   refine qT 2 ?vax2 rfl ?yax2 hS0 ?_
   case yax2=>exact zzR0
   try simp only[qA,List.getElem_toArray,List.getElem_cons_zero,List.getElem_cons_succ]
   refine qT 3 ?vax3 rfl ?yax3 hS0 ?_
   case yax3=>exact zzR0
   try simp only[qA,List.getElem_toArray,List.getElem_cons_zero,List.getElem_cons_succ]
   refine qT 4 ?vax4 rfl ?yax4 hS0 ?_
   case yax4=>exact zzR0
   try simp only[qA,List.getElem_toArray,List.getElem_cons_zero,List.getElem_cons_succ]
   refine qT 5 ?vax5 rfl ?yax5 hS0 ?_
   case yax5=>exact zzR0
   try simp only[qA,List.getElem_toArray,List.getElem_cons_zero,List.getElem_cons_succ]
   refine qT 6 ?vax6 rfl ?yax6 hS0 ?_
   case yax6=>exact zzR0
   try simp only[qA,List.getElem_toArray,List.getElem_cons_zero,List.getElem_cons_succ]
   refine qT 7 ?vax7 rfl ?yax7 hS0 ?_
   case yax7=>exact zzR0
   try simp only[qA,List.getElem_toArray,List.getElem_cons_zero,List.getElem_cons_succ]
   refine qT 8 (.bool true) rfl ?yax8 hS0 ?_
   case yax8=>exact zzR0
   try simp only[qA,List.getElem_toArray,List.getElem_cons_zero,List.getElem_cons_succ]
   refine qT 9 ?vax9 rfl ?yax9 hS0 ?_
   case yax9=>exact zzR0
   try simp only[qA,List.getElem_toArray,List.getElem_cons_zero,List.getElem_cons_succ]
   refine anyT_takeN (i:=10) (v:=undef) rfl (by kernel_rfl) (by kernel_rfl) (by kernel_rfl) (by rfl) (fun _ _ _ h=>h) (Or.inr ⟨by rfl,rfl⟩) hS0 ?_
   try simp only[qA,List.getElem_toArray,List.getElem_cons_zero,List.getElem_cons_succ]
   refine anyT_takeN (i:=11) (v:=undef) rfl (by kernel_rfl) (by kernel_rfl) (by kernel_rfl) (by rfl) (fun _ _ _ h=>h) (Or.inr ⟨by rfl,rfl⟩) hS0 ?_
   try simp only[qA,List.getElem_toArray,List.getElem_cons_zero,List.getElem_cons_succ]
   refine anyT_takeN (i:=12) (v:=undef) rfl (by kernel_rfl) (by kernel_rfl) (by kernel_rfl) (by rfl) (fun _ _ _ h=>h) (Or.inr ⟨by rfl,rfl⟩) hS0 ?_
   try simp only[qA,List.getElem_toArray,List.getElem_cons_zero,List.getElem_cons_succ]
   refine anyT_takeN (i:=13) (v:=undef) rfl (by kernel_rfl) (by kernel_rfl) (by kernel_rfl) (by rfl) (fun _ _ _ h=>h) (Or.inr ⟨by rfl,rfl⟩) hS0 ?_
   try simp only[qA,List.getElem_toArray,List.getElem_cons_zero,List.getElem_cons_succ]
   refine anyT_takeN (i:=14) (v:=undef) rfl (by kernel_rfl) (by kernel_rfl) (by kernel_rfl) (by rfl) (fun _ _ _ h=>h) (Or.inr ⟨by rfl,rfl⟩) hS0 ?_
   try simp only[qA,List.getElem_toArray,List.getElem_cons_zero,List.getElem_cons_succ]
   refine anyT_takeN (i:=15) (v:=undef) rfl (by kernel_rfl) (by kernel_rfl) (by kernel_rfl) (by rfl) (fun _ _ _ h=>h) (Or.inr ⟨by rfl,rfl⟩) hS0 ?_
   try simp only[qA,List.getElem_toArray,List.getElem_cons_zero,List.getElem_cons_succ]
   refine anyT_takeN (i:=16) (v:=undef) rfl (by kernel_rfl) (by kernel_rfl) (by kernel_rfl) (by rfl) (fun _ _ _ h=>h) (Or.inr ⟨by rfl,rfl⟩) hS0 ?_
   try simp only[qA,List.getElem_toArray,List.getElem_cons_zero,List.getElem_cons_succ]
   refine anyT_takeN (i:=17) (v:=undef) rfl (by kernel_rfl) (by kernel_rfl) (by kernel_rfl) (by rfl) (fun _ _ _ h=>h) (Or.inr ⟨by rfl,rfl⟩) hS0 ?_
   try simp only[qA,List.getElem_toArray,List.getElem_cons_zero,List.getElem_cons_succ]
   refine qT 18 ?vax18 rfl ?yax18 hS0 ?_
   case yax18=>exact zzR0
   exact zzQ0
  have hd1:Op.bytesLess a.k.txt.toList k3.k.txt.toList=false:=by unfold less at hl1;simpa using hl1
  by_cases hl2:a.k.nm<k3.k.nm
  case pos=>
   have hd2:decide (a.k.nm<k3.k.nm)=true:=decide_eq_true hl2
   have HA6:Hid (liftP s (rangeF kd strs s.ks)=liftP s3 (match takeF s3.ks with
     | .error e=>.error e
     | .ok k2=>.ok (k2,(⟨kd,a.k.txt,true,k3.k.txt,a.k.nm,k3.k.nm,0⟩:Nd)))):=by show _=_;rw[HA5.out,if_pos (by exact .inr hl2)]
   clear hl1 hl2
   have e4:=H4.1.low.cell (j:=4) rfl
   have e3:=H4.1.low.cell (j:=3) rfl
   have e6:=H4.1.fp.fs.cell (j:=6) rfl
   have e5:=H4.1.fp.fs.cell (j:=5) rfl
   have hS0:(fun w':World=>w'.cell? ⟨w.heap.size+1,4,none⟩=some (.string a.k.txt)∧w'.cell? ⟨w.heap.size+1,3,none⟩=some (.int .u64 a.k.nm)∧w'.cell? ⟨g,6,none⟩=some (.string k3.k.txt)∧w'.cell? ⟨g,5,none⟩=some (.int .u64 k3.k.nm)) W4.drew:=⟨e4,e3,e6,e5⟩
   clear e3 e4 e5 e6
   refine wp_region_T 99 (fun w':World=>w'.cell? ⟨w.heap.size+1,4,none⟩=some (.string a.k.txt)∧w'.cell? ⟨w.heap.size+1,3,none⟩=some (.int .u64 a.k.nm)∧w'.cell? ⟨g,6,none⟩=some (.string k3.k.txt)∧w'.cell? ⟨g,5,none⟩=some (.int .u64 k3.k.nm)) (by kernel_rfl) ?_
   refine qT 0 ?vay0 rfl ?yay0 hS0 ?_
   case yay0=>exact zzR0
   try simp only[qA,List.getElem_toArray,List.getElem_cons_zero,List.getElem_cons_succ]
   refine qT 1 ?vay1 rfl ?yay1 hS0 ?_
   case yay1=>exact zzR0
   try simp only[qA,List.getElem_toArray,List.getElem_cons_zero,List.getElem_cons_succ]
   refine qT 2 ?vay2 rfl ?yay2 hS0 ?_
   case yay2=>exact zzR0
   try simp only[qA,List.getElem_toArray,List.getElem_cons_zero,List.getElem_cons_succ]
   refine qT 3 ?vay3 rfl ?yay3 hS0 ?_
   case yay3=>exact zzR0
   try simp only[qA,List.getElem_toArray,List.getElem_cons_zero,List.getElem_cons_succ]
   refine qT 4 ?vay4 rfl ?yay4 hS0 ?_
   case yay4=>exact zzR0
   try simp only[qA,List.getElem_toArray,List.getElem_cons_zero,List.getElem_cons_succ]
   refine qT 5 ?vay5 rfl ?yay5 hS0 ?_
   case yay5=>exact zzR0
   try simp only[qA,List.getElem_toArray,List.getElem_cons_zero,List.getElem_cons_succ]
   refine qT 6 ?vay6 rfl ?yay6 hS0 ?_
   case yay6=>exact zzR0
   try simp only[qA,List.getElem_toArray,List.getElem_cons_zero,List.getElem_cons_succ]
   refine qT 7 ?vay7 rfl ?yay7 hS0 ?_
   case yay7=>exact zzR0
   try simp only[qA,List.getElem_toArray,List.getElem_cons_zero,List.getElem_cons_succ]
   refine qT 8 (.bool false) rfl ?yay8 hS0 ?_
   case yay8=>exact zzR0
   try simp only[qA,List.getElem_toArray,List.getElem_cons_zero,List.getElem_cons_succ]
   refine qT 9 ?vay9 rfl ?yay9 hS0 ?_
   case yay9=>exact zzR0
   try simp only[qA,List.getElem_toArray,List.getElem_cons_zero,List.getElem_cons_succ]
   refine qT 10 ?vay10 rfl ?yay10 hS0 ?_
   case yay10=>exact zzR0
   try simp only[qA,List.getElem_toArray,List.getElem_cons_zero,List.getElem_cons_succ]
   refine qT 11 ?vay11 rfl ?yay11 hS0 ?_
   case yay11=>exact zzR0
   try simp only[qA,List.getElem_toArray,List.getElem_cons_zero,List.getElem_cons_succ]
   refine qT 12 ?vay12 rfl ?yay12 hS0 ?_
   case yay12=>exact zzR0
   try simp only[qA,List.getElem_toArray,List.getElem_cons_zero,List.getElem_cons_succ]
   refine qT 13 ?vay13 rfl ?yay13 hS0 ?_
   case yay13=>exact zzR0
   try simp only[qA,List.getElem_toArray,List.getElem_cons_zero,List.getElem_cons_succ]
   refine qT 14 ?vay14 rfl ?yay14 hS0 ?_
   case yay14=>exact zzR0
   try simp only[qA,List.getElem_toArray,List.getElem_cons_zero,List.getElem_cons_succ]
   refine qT 15 ?vay15 rfl ?yay15 hS0 ?_
   case yay15=>exact zzR0
   try simp only[qA,List.getElem_toArray,List.getElem_cons_zero,List.getElem_cons_succ]
   refine qT 16 ?vay16 rfl ?yay16 hS0 ?_
   case yay16=>exact zzR0
   try simp only[qA,List.getElem_toArray,List.getElem_cons_zero,List.getElem_cons_succ]
   refine qT 17 (.bool true) rfl ?yay17 hS0 ?_
   case yay17=>exact zzR0
   try simp only[qA,List.getElem_toArray,List.getElem_cons_zero,List.getElem_cons_succ]
   refine qT 18 ?vay18 rfl ?yay18 hS0 ?_
   case yay18=>exact zzR0
   exact zzQ0
  have hd2:decide (a.k.nm<k3.k.nm)=false:=decide_eq_false hl2
  have e4:=H4.1.low.cell (j:=4) rfl
  have e3:=H4.1.low.cell (j:=3) rfl
  have e6:=H4.1.fp.fs.cell (j:=6) rfl
  have e5:=H4.1.fp.fs.cell (j:=5) rfl
  have hS0:(fun w':World=>w'.cell? ⟨w.heap.size+1,4,none⟩=some (.string a.k.txt)∧w'.cell? ⟨w.heap.size+1,3,none⟩=some (.int .u64 a.k.nm)∧w'.cell? ⟨g,6,none⟩=some (.string k3.k.txt)∧w'.cell? ⟨g,5,none⟩=some (.int .u64 k3.k.nm)) W4.drew:=⟨e4,e3,e6,e5⟩
  clear e3 e4 e5 e6
  refine wp_region_T 99 (fun w':World=>w'.cell? ⟨w.heap.size+1,4,none⟩=some (.string a.k.txt)∧w'.cell? ⟨w.heap.size+1,3,none⟩=some (.int .u64 a.k.nm)∧w'.cell? ⟨g,6,none⟩=some (.string k3.k.txt)∧w'.cell? ⟨g,5,none⟩=some (.int .u64 k3.k.nm)) (by kernel_rfl) ?_
  refine qT 0 ?vaz0 rfl ?yaz0 hS0 ?_
  case yaz0=>exact zzR0
  try simp only[qA,List.getElem_toArray,List.getElem_cons_zero,List.getElem_cons_succ]
  refine qT 1 ?vaz1 rfl ?yaz1 hS0 ?_
  case yaz1=>exact zzR0
  try simp only[qA,List.getElem_toArray,List.getElem_cons_zero,List.getElem_cons_succ]
  refine qT 2 ?vaz2 rfl ?yaz2 hS0 ?_
  case yaz2=>exact zzR0
  try simp only[qA,List.getElem_toArray,List.getElem_cons_zero,List.getElem_cons_succ]
  refine qT 3 ?vaz3 rfl ?yaz3 hS0 ?_
  case yaz3=>exact zzR0
  try simp only[qA,List.getElem_toArray,List.getElem_cons_zero,List.getElem_cons_succ]
  refine qT 4 ?vaz4 rfl ?yaz4 hS0 ?_
  case yaz4=>exact zzR0
  try simp only[qA,List.getElem_toArray,List.getElem_cons_zero,List.getElem_cons_succ]
  refine qT 5 ?vaz5 rfl ?yaz5 hS0 ?_
  case yaz5=>exact zzR0
  try simp only[qA,List.getElem_toArray,List.getElem_cons_zero,List.getElem_cons_succ]
  refine qT 6 ?vaz6 rfl ?yaz6 hS0 ?_
  case yaz6=>exact zzR0
  try simp only[qA,List.getElem_toArray,List.getElem_cons_zero,List.getElem_cons_succ]
  refine qT 7 ?vaz7 rfl ?yaz7 hS0 ?_
  case yaz7=>exact zzR0
  try simp only[qA,List.getElem_toArray,List.getElem_cons_zero,List.getElem_cons_succ]
  refine qT 8 (.bool false) rfl ?yaz8 hS0 ?_
  case yaz8=>exact zzR0
  try simp only[qA,List.getElem_toArray,List.getElem_cons_zero,List.getElem_cons_succ]
  refine qT 9 ?vaz9 rfl ?yaz9 hS0 ?_
  case yaz9=>exact zzR0
  try simp only[qA,List.getElem_toArray,List.getElem_cons_zero,List.getElem_cons_succ]
  refine qT 10 ?vaz10 rfl ?yaz10 hS0 ?_
  case yaz10=>exact zzR0
  try simp only[qA,List.getElem_toArray,List.getElem_cons_zero,List.getElem_cons_succ]
  refine qT 11 ?vaz11 rfl ?yaz11 hS0 ?_
  case yaz11=>exact zzR0
  try simp only[qA,List.getElem_toArray,List.getElem_cons_zero,List.getElem_cons_succ]
  refine qT 12 ?vaz12 rfl ?yaz12 hS0 ?_
  case yaz12=>exact zzR0
  try simp only[qA,List.getElem_toArray,List.getElem_cons_zero,List.getElem_cons_succ]
  refine qT 13 ?vaz13 rfl ?yaz13 hS0 ?_
  case yaz13=>exact zzR0
  try simp only[qA,List.getElem_toArray,List.getElem_cons_zero,List.getElem_cons_succ]
  refine qT 14 ?vaz14 rfl ?yaz14 hS0 ?_
  case yaz14=>exact zzR0
  try simp only[qA,List.getElem_toArray,List.getElem_cons_zero,List.getElem_cons_succ]
  refine qT 15 ?vaz15 rfl ?yaz15 hS0 ?_
  case yaz15=>exact zzR0
  try simp only[qA,List.getElem_toArray,List.getElem_cons_zero,List.getElem_cons_succ]
  refine qT 16 ?vaz16 rfl ?yaz16 hS0 ?_
  case yaz16=>exact zzR0
  try simp only[qA,List.getElem_toArray,List.getElem_cons_zero,List.getElem_cons_succ]
  refine qT 17 (.bool false) rfl ?yaz17 hS0 ?_
  case yaz17=>exact zzR0
  try simp only[qA,List.getElem_toArray,List.getElem_cons_zero,List.getElem_cons_succ]
  refine qT 18 ?vaz18 rfl ?yaz18 hS0 ?_
  case yaz18=>exact zzR0
  exact zzQ31
 rw[h1]at zK
 have HTk:Hid (Calls Tryz.prog 114 #[.pointer (some ⟨g,0,none⟩)] W0 (TakP base g b off n cap t d s k nv W0)):=ftake_core HJ0.1.st HJ0.1.fp (sort_fin h1)
 have HA0:Hid (liftP s (rangeF kd strs s.ks)=liftP s (match takeF s.ks with
   | .error e=>.error e
   | .ok k2=>dotsF kd strs k.k k2)):=by
  show _=_
  rw[rangeF,if_pos (by rw[HJ0.2.2];exact h1)]
  rw[show hdK s.ks=k.k from by rw[HJ0.2.2];rfl]
  rfl
 clear h1
 go_wp2_with fail
 refine HTk.mono ?_
 clear HTk
 rintro e w1 ⟨Hb1,(⟨k1,ks1,p1,htk,rfl,hF1⟩|⟨c,e1,htk,rfl⟩)⟩
 case inr=>
  have HD:Hid (BehP base g b off n cap t d (fun r=>r=liftP s (rangeF kd strs s.ks)) nv w (Pf c (e1:Int)) w1):=HJ0.1.die (Hb1.mono (fun q z=>.inl z)) (by
   show _=_
   rw[HA0.out,htk];rfl)
  clear htk
  exact⟨rfl,HD.out⟩
 obtain⟨s2,hs2⟩:=qE (⟨k1::ks1,s.made,s.out⟩:Ps)
 have hJ1:EnJ w base g b off n cap t d nv ⟨.fin,0⟩ s2 k1 ks1 p1 nv w1:=by rw[hs2];exact HJ0.1.on (Hb1.mono (fun q z=>.inl z)) hF1 (fun q hq=>.inl hq)
 have HA:Hid (liftP s (rangeF kd strs s.ks)=liftP s2 (dotsF kd strs k.k s2.ks)):=by show _=_;rw[HA0.out,htk,hs2];rfl
 have l0:=hJ1.low.cell (j:=0) rfl
 have l1:=hJ1.low.cell (j:=1) rfl
 have l2:=hJ1.low.cell (j:=2) rfl
 have l3:=hJ1.low.cell (j:=3) rfl
 have l4:=hJ1.low.cell (j:=4) rfl
 have f0:=hJ1.low.frozen 0
 have f1:=hJ1.low.frozen 1
 have f2:=hJ1.low.frozen 2
 have f3:=hJ1.low.frozen 3
 have f4:=hJ1.low.frozen 4
 obtain⟨W2,hW2⟩:∃V:World,V=setP w1 (w.heap.size+1) (.int .u8 ((ftB k.k).toNat:Int)) (.int .i64 (k.pos:Int)) (.int .i64 k.k.wd) (.int .u64 k.k.nm) (.string k.k.txt):=⟨_,rfl⟩
 have HJ:Hid (EnJ w base g b off n cap t d nv k s2 k1 ks1 p1 nv W2):=by
  have hc2:Chg (fun q=>q=w.heap.size+1) w1 W2:=by rw[hW2];exact chg_setP _ _ _ _ _ _ _
  have hl:=hJ1.lt
  have hno:∀q,nv.ownBlock=some q→¬q=w.heap.size+1:=fun q hq z=>by have:=hJ1.old q hq;omega
  exact⟨hJ1.fp.chg hc2 (by omega) hno,hJ1.st.chg hc2 (fun q z=>by omega),hJ1.res.chg hc2 (by omega),by rw[hW2];exact hJ1.low.setP _ _ _ _ _,Chg.comp hJ1.chg hc2 (fun q hq z=>by omega),hJ1.old,hJ1.own,by have:=hc2.size;omega⟩
 clear hJ1 HA0 HJ0 htk hF1 Hb1 hs2
 unfold setP at hW2
 obtain⟨a,ha⟩:=qE (k:Tk)
 have zft:ftV k= [.int .u8 ((ftB k.k).toNat:Int),.int .i64 (k.pos:Int),.int .i64 k.k.wd,.int .u64 k.k.nm,.string k.k.txt]:=rfl
 rw[←ha]at HJ HA
 go_upto_region 4 with fail
 rw[←hW2]
 clear hW2 cK zK l0 l1 l2 l3 l4 f0 f1 f2 f3 f4 ha zft
 have HE:Hid (Calls Tryz.prog 127 #[.pointer (some ⟨g,0,none⟩),.int .u8 46] W2 (FpO base g b off n cap t d (fun r=>r=s2.to (expectF 46 s2.ks)) (.agg (ftV k1).toArray) nv W2)):=expect_core (bb:=46) HJ.st HJ.fp (by simp)
 go_wp2_with fail
 refine HE.mono ?_
 clear HE
 rintro e w3 ⟨Hc3,(⟨s3,hs3,rfl,k3,ks3,p3,nv3,hF3,hn3⟩|⟨c,e3,hs3,rfl⟩)⟩
 case inr=>
  exact zzQ58
 have HJ3:Hid (EnJ w base g b off n cap t d nv a s3 k3 ks3 p3 nv3 w3):=HJ.on Hc3.out hF3 hn3
 have HA3:Hid (liftP s (rangeF kd strs s.ks)=liftP s3 (upF kd strs a.k s3.ks)):=by
  obtain⟨q,hq,rfl⟩:=expect_ok hs3
  show _=_
  rw[HA.out,dotsF,hq]
  rfl
 clear hs3 hF3 hn3 Hc3
 have m3:=HJ3.low.cell (j:=3) rfl
 have m4:=HJ3.low.cell (j:=4) rfl
 obtain⟨W4,hW4⟩:∃V:World,V=w3.alloc (Obj.cells #[.int .i64 kd,.string a.k.txt,.bool false,.string ⟨#[]⟩,.int .u64 a.k.nm,.int .u64 0,.int .i64 0] 65):=⟨_,rfl⟩
 have b4:Below w3.heap.size w3 W4:=by rw[hW4];exact qB
 have H4:Hid (EnJ w base g b off n cap t d nv a s3 k3 ks3 p3 nv3 W4∧BoxAt W4 w3.heap.size 65 7 w3.heap.size [.int .i64 kd,.string a.k.txt,.bool false,.string ⟨#[]⟩,.int .u64 a.k.nm,.int .u64 0,.int .i64 0]∧(k3.k.good∨k3.k=.fin)∧s3.ks=k3::ks3):=⟨HJ3.up b4,by rw[hW4];exact boxAt_new w3 _ (Nat.le_refl _) rfl,HJ3.fp.kinds,HJ3.fp.eq⟩
 go_upto_region 6 with fail
 rw[←hW4]
 clear hW4 m3 m4 b4
 have cK:=H4.1.fp.fs.cell (j:=2) rfl
 have zK:=ends_sort H4.2.2.1 strs
 rw[hsv]at zK
 by_cases h3:k3.k.isSort strs=true
 case neg=>
  exact zzQ6
 rw[h3]at zK
 have hfin:=sort_fin h3
 have eU:upF kd strs a.k s3.ks=(if less a.k.txt k3.k.txt∨a.k.nm<k3.k.nm then(match takeF s3.ks with
        | .error e=>.error e
        | .ok k2=>.ok (k2,(⟨kd,a.k.txt,true,k3.k.txt,a.k.nm,k3.k.nm,0⟩:Nd)))else .error (7,k3.pos)):=by
  unfold upF
  rw[if_pos (by rw[H4.2.2.2];exact h3)]
  rw[show hdK s3.ks=k3.k from by rw[H4.2.2.2];rfl,show hdA s3.ks=k3.pos from by rw[H4.2.2.2];rfl]
  rfl
 have HA5:Hid (liftP s (rangeF kd strs s.ks)=liftP s3 (if less a.k.txt k3.k.txt∨a.k.nm<k3.k.nm then(match takeF s3.ks with
        | .error e=>.error e
        | .ok k2=>.ok (k2,(⟨kd,a.k.txt,true,k3.k.txt,a.k.nm,k3.k.nm,0⟩:Nd)))else .error (7,k3.pos))):=by show _=_;rw[HA3.out,eU]
 clear eU h3 HA3
 go_upto_region 7 with fail
 clear cK zK
 by_cases hl1:less a.k.txt k3.k.txt
 case pos=>
  have hd1:Op.bytesLess a.k.txt.toList k3.k.txt.toList=true:=hl1
  have HA6:Hid (liftP s (rangeF kd strs s.ks)=liftP s3 (match takeF s3.ks with
    | .error e=>.error e
    | .ok k2=>.ok (k2,(⟨kd,a.k.txt,true,k3.k.txt,a.k.nm,k3.k.nm,0⟩:Nd)))):=by show _=_;rw[HA5.out,if_pos (by exact .inl hl1)]
  clear hl1
  have e4:=H4.1.low.cell (j:=4) rfl
  have e3:=H4.1.low.cell (j:=3) rfl
  have e6:=H4.1.fp.fs.cell (j:=6) rfl
  have e5:=H4.1.fp.fs.cell (j:=5) rfl
  have hS0:(fun w':World=>w'.cell? ⟨w.heap.size+1,4,none⟩=some (.string a.k.txt)∧w'.cell? ⟨w.heap.size+1,3,none⟩=some (.int .u64 a.k.nm)∧w'.cell? ⟨g,6,none⟩=some (.string k3.k.txt)∧w'.cell? ⟨g,5,none⟩=some (.int .u64 k3.k.nm)) W4.drew:=⟨e4,e3,e6,e5⟩
  clear e3 e4 e5 e6
  refine wp_region_T 99 (fun w':World=>w'.cell? ⟨w.heap.size+1,4,none⟩=some (.string a.k.txt)∧w'.cell? ⟨w.heap.size+1,3,none⟩=some (.int .u64 a.k.nm)∧w'.cell? ⟨g,6,none⟩=some (.string k3.k.txt)∧w'.cell? ⟨g,5,none⟩=some (.int .u64 k3.k.nm)) (by kernel_rfl) ?_
  refine qT 0 ?vbx0 rfl ?ybx0 hS0 ?_
  case ybx0=>exact zzR0
  try simp only[qA,List.getElem_toArray,List.getElem_cons_zero,List.getElem_cons_succ]
  refine qT 1 ?vbx1 rfl ?ybx1 hS0 ?_
  case ybx1=>exact zzR0
  try simp only[qA,List.getElem_toArray,List.getElem_cons_zero,List.getElem_cons_succ]
  refine qT 2 ?vbx2 rfl ?ybx2 hS0 ?_
  case ybx2=>exact zzR0
  try simp only[qA,List.getElem_toArray,List.getElem_cons_zero,List.getElem_cons_succ]
  refine qT 3 ?vbx3 rfl ?ybx3 hS0 ?_
  case ybx3=>exact zzR0
  try simp only[qA,List.getElem_toArray,List.getElem_cons_zero,List.getElem_cons_succ]
  refine qT 4 ?vbx4 rfl ?ybx4 hS0 ?_
  case ybx4=>exact zzR0
  try simp only[qA,List.getElem_toArray,List.getElem_cons_zero,List.getElem_cons_succ]
  refine qT 5 ?vbx5 rfl ?ybx5 hS0 ?_
  case ybx5=>exact zzR0
  try simp only[qA,List.getElem_toArray,List.getElem_cons_zero,List.getElem_cons_succ]
  refine qT 6 ?vbx6 rfl ?ybx6 hS0 ?_
  case ybx6=>exact zzR0
  try simp only[qA,List.getElem_toArray,List.getElem_cons_zero,List.getElem_cons_succ]
  refine qT 7 ?vbx7 rfl ?ybx7 hS0 ?_
  case ybx7=>exact zzR0
  try simp only[qA,List.getElem_toArray,List.getElem_cons_zero,List.getElem_cons_succ]
  refine qT 8 (.bool true) rfl ?ybx8 hS0 ?_
  case ybx8=>exact zzR0
  try simp only[qA,List.getElem_toArray,List.getElem_cons_zero,List.getElem_cons_succ]
  refine qT 9 ?vbx9 rfl ?ybx9 hS0 ?_
  case ybx9=>exact zzR0
  try simp only[qA,List.getElem_toArray,List.getElem_cons_zero,List.getElem_cons_succ]
  refine anyT_takeN (i:=10) (v:=undef) rfl (by kernel_rfl) (by kernel_rfl) (by kernel_rfl) (by rfl) (fun _ _ _ h=>h) (Or.inr ⟨by rfl,rfl⟩) hS0 ?_
  try simp only[qA,List.getElem_toArray,List.getElem_cons_zero,List.getElem_cons_succ]
  refine anyT_takeN (i:=11) (v:=undef) rfl (by kernel_rfl) (by kernel_rfl) (by kernel_rfl) (by rfl) (fun _ _ _ h=>h) (Or.inr ⟨by rfl,rfl⟩) hS0 ?_
  try simp only[qA,List.getElem_toArray,List.getElem_cons_zero,List.getElem_cons_succ]
  refine anyT_takeN (i:=12) (v:=undef) rfl (by kernel_rfl) (by kernel_rfl) (by kernel_rfl) (by rfl) (fun _ _ _ h=>h) (Or.inr ⟨by rfl,rfl⟩) hS0 ?_
  try simp only[qA,List.getElem_toArray,List.getElem_cons_zero,List.getElem_cons_succ]
  refine anyT_takeN (i:=13) (v:=undef) rfl (by kernel_rfl) (by kernel_rfl) (by kernel_rfl) (by rfl) (fun _ _ _ h=>h) (Or.inr ⟨by rfl,rfl⟩) hS0 ?_
  try simp only[qA,List.getElem_toArray,List.getElem_cons_zero,List.getElem_cons_succ]
  refine anyT_takeN (i:=14) (v:=undef) rfl (by kernel_rfl) (by kernel_rfl) (by kernel_rfl) (by rfl) (fun _ _ _ h=>h) (Or.inr ⟨by rfl,rfl⟩) hS0 ?_
  try simp only[qA,List.getElem_toArray,List.getElem_cons_zero,List.getElem_cons_succ]
  refine anyT_takeN (i:=15) (v:=undef) rfl (by kernel_rfl) (by kernel_rfl) (by kernel_rfl) (by rfl) (fun _ _ _ h=>h) (Or.inr ⟨by rfl,rfl⟩) hS0 ?_
  try simp only[qA,List.getElem_toArray,List.getElem_cons_zero,List.getElem_cons_succ]
  refine anyT_takeN (i:=16) (v:=undef) rfl (by kernel_rfl) (by kernel_rfl) (by kernel_rfl) (by rfl) (fun _ _ _ h=>h) (Or.inr ⟨by rfl,rfl⟩) hS0 ?_
  try simp only[qA,List.getElem_toArray,List.getElem_cons_zero,List.getElem_cons_succ]
  refine anyT_takeN (i:=17) (v:=undef) rfl (by kernel_rfl) (by kernel_rfl) (by kernel_rfl) (by rfl) (fun _ _ _ h=>h) (Or.inr ⟨by rfl,rfl⟩) hS0 ?_
  try simp only[qA,List.getElem_toArray,List.getElem_cons_zero,List.getElem_cons_succ]
  refine qT 18 ?vbx18 rfl ?ybx18 hS0 ?_
  case ybx18=>exact zzR0
  exact zzQ0
 have hd1:Op.bytesLess a.k.txt.toList k3.k.txt.toList=false:=by unfold less at hl1;simpa using hl1
 by_cases hl2:a.k.nm<k3.k.nm
 case pos=>
  have hd2:decide (a.k.nm<k3.k.nm)=true:=decide_eq_true hl2
  have HA6:Hid (liftP s (rangeF kd strs s.ks)=liftP s3 (match takeF s3.ks with
    | .error e=>.error e
    | .ok k2=>.ok (k2,(⟨kd,a.k.txt,true,k3.k.txt,a.k.nm,k3.k.nm,0⟩:Nd)))):=by show _=_;rw[HA5.out,if_pos (by exact .inr hl2)]
  clear hl1 hl2
  have e4:=H4.1.low.cell (j:=4) rfl
  have e3:=H4.1.low.cell (j:=3) rfl
  have e6:=H4.1.fp.fs.cell (j:=6) rfl
  have e5:=H4.1.fp.fs.cell (j:=5) rfl
  have hS0:(fun w':World=>w'.cell? ⟨w.heap.size+1,4,none⟩=some (.string a.k.txt)∧w'.cell? ⟨w.heap.size+1,3,none⟩=some (.int .u64 a.k.nm)∧w'.cell? ⟨g,6,none⟩=some (.string k3.k.txt)∧w'.cell? ⟨g,5,none⟩=some (.int .u64 k3.k.nm)) W4.drew:=⟨e4,e3,e6,e5⟩
  clear e3 e4 e5 e6
  refine wp_region_T 99 (fun w':World=>w'.cell? ⟨w.heap.size+1,4,none⟩=some (.string a.k.txt)∧w'.cell? ⟨w.heap.size+1,3,none⟩=some (.int .u64 a.k.nm)∧w'.cell? ⟨g,6,none⟩=some (.string k3.k.txt)∧w'.cell? ⟨g,5,none⟩=some (.int .u64 k3.k.nm)) (by kernel_rfl) ?_
  refine qT 0 ?vby0 rfl ?yby0 hS0 ?_
  case yby0=>exact zzR0
  try simp only[qA,List.getElem_toArray,List.getElem_cons_zero,List.getElem_cons_succ]
  refine qT 1 ?vby1 rfl ?yby1 hS0 ?_
  case yby1=>exact zzR0
  try simp only[qA,List.getElem_toArray,List.getElem_cons_zero,List.getElem_cons_succ]
  refine qT 2 ?vby2 rfl ?yby2 hS0 ?_
  case yby2=>exact zzR0
  try simp only[qA,List.getElem_toArray,List.getElem_cons_zero,List.getElem_cons_succ]
  refine qT 3 ?vby3 rfl ?yby3 hS0 ?_
  case yby3=>exact zzR0
  try simp only[qA,List.getElem_toArray,List.getElem_cons_zero,List.getElem_cons_succ]
  refine qT 4 ?vby4 rfl ?yby4 hS0 ?_
  case yby4=>exact zzR0
  try simp only[qA,List.getElem_toArray,List.getElem_cons_zero,List.getElem_cons_succ]
  refine qT 5 ?vby5 rfl ?yby5 hS0 ?_
  case yby5=>exact zzR0
  try simp only[qA,List.getElem_toArray,List.getElem_cons_zero,List.getElem_cons_succ]
  refine qT 6 ?vby6 rfl ?yby6 hS0 ?_
  case yby6=>exact zzR0
  try simp only[qA,List.getElem_toArray,List.getElem_cons_zero,List.getElem_cons_succ]
  refine qT 7 ?vby7 rfl ?yby7 hS0 ?_
  case yby7=>exact zzR0
  try simp only[qA,List.getElem_toArray,List.getElem_cons_zero,List.getElem_cons_succ]
  refine qT 8 (.bool false) rfl ?yby8 hS0 ?_
  case yby8=>exact zzR0
  try simp only[qA,List.getElem_toArray,List.getElem_cons_zero,List.getElem_cons_succ]
  refine qT 9 ?vby9 rfl ?yby9 hS0 ?_
  case yby9=>exact zzR0
  try simp only[qA,List.getElem_toArray,List.getElem_cons_zero,List.getElem_cons_succ]
  refine qT 10 ?vby10 rfl ?yby10 hS0 ?_
  case yby10=>exact zzR0
  try simp only[qA,List.getElem_toArray,List.getElem_cons_zero,List.getElem_cons_succ]
  refine qT 11 ?vby11 rfl ?yby11 hS0 ?_
  case yby11=>exact zzR0
  try simp only[qA,List.getElem_toArray,List.getElem_cons_zero,List.getElem_cons_succ]
  refine qT 12 ?vby12 rfl ?yby12 hS0 ?_
  case yby12=>exact zzR0
  try simp only[qA,List.getElem_toArray,List.getElem_cons_zero,List.getElem_cons_succ]
  refine qT 13 ?vby13 rfl ?yby13 hS0 ?_
  case yby13=>exact zzR0
  try simp only[qA,List.getElem_toArray,List.getElem_cons_zero,List.getElem_cons_succ]
  refine qT 14 ?vby14 rfl ?yby14 hS0 ?_
  case yby14=>exact zzR0
  try simp only[qA,List.getElem_toArray,List.getElem_cons_zero,List.getElem_cons_succ]
  refine qT 15 ?vby15 rfl ?yby15 hS0 ?_
  case yby15=>exact zzR0
  try simp only[qA,List.getElem_toArray,List.getElem_cons_zero,List.getElem_cons_succ]
  refine qT 16 ?vby16 rfl ?yby16 hS0 ?_
  case yby16=>exact zzR0
  try simp only[qA,List.getElem_toArray,List.getElem_cons_zero,List.getElem_cons_succ]
  refine qT 17 (.bool true) rfl ?yby17 hS0 ?_
  case yby17=>exact zzR0
  try simp only[qA,List.getElem_toArray,List.getElem_cons_zero,List.getElem_cons_succ]
  refine qT 18 ?vby18 rfl ?yby18 hS0 ?_
  case yby18=>exact zzR0
  exact zzQ0
 have hd2:decide (a.k.nm<k3.k.nm)=false:=decide_eq_false hl2
 have e4:=H4.1.low.cell (j:=4) rfl
 have e3:=H4.1.low.cell (j:=3) rfl
 have e6:=H4.1.fp.fs.cell (j:=6) rfl
 have e5:=H4.1.fp.fs.cell (j:=5) rfl
 have hS0:(fun w':World=>w'.cell? ⟨w.heap.size+1,4,none⟩=some (.string a.k.txt)∧w'.cell? ⟨w.heap.size+1,3,none⟩=some (.int .u64 a.k.nm)∧w'.cell? ⟨g,6,none⟩=some (.string k3.k.txt)∧w'.cell? ⟨g,5,none⟩=some (.int .u64 k3.k.nm)) W4.drew:=⟨e4,e3,e6,e5⟩
 clear e3 e4 e5 e6
 refine wp_region_T 99 (fun w':World=>w'.cell? ⟨w.heap.size+1,4,none⟩=some (.string a.k.txt)∧w'.cell? ⟨w.heap.size+1,3,none⟩=some (.int .u64 a.k.nm)∧w'.cell? ⟨g,6,none⟩=some (.string k3.k.txt)∧w'.cell? ⟨g,5,none⟩=some (.int .u64 k3.k.nm)) (by kernel_rfl) ?_
 refine qT 0 ?vbz0 rfl ?ybz0 hS0 ?_
 case ybz0=>exact zzR0
 try simp only[qA,List.getElem_toArray,List.getElem_cons_zero,List.getElem_cons_succ]
 refine qT 1 ?vbz1 rfl ?ybz1 hS0 ?_
 case ybz1=>exact zzR0
 try simp only[qA,List.getElem_toArray,List.getElem_cons_zero,List.getElem_cons_succ]
 refine qT 2 ?vbz2 rfl ?ybz2 hS0 ?_
 case ybz2=>exact zzR0
 try simp only[qA,List.getElem_toArray,List.getElem_cons_zero,List.getElem_cons_succ]
 refine qT 3 ?vbz3 rfl ?ybz3 hS0 ?_
 case ybz3=>exact zzR0
 try simp only[qA,List.getElem_toArray,List.getElem_cons_zero,List.getElem_cons_succ]
 refine qT 4 ?vbz4 rfl ?ybz4 hS0 ?_
 case ybz4=>exact zzR0
 try simp only[qA,List.getElem_toArray,List.getElem_cons_zero,List.getElem_cons_succ]
 refine qT 5 ?vbz5 rfl ?ybz5 hS0 ?_
 case ybz5=>exact zzR0
 try simp only[qA,List.getElem_toArray,List.getElem_cons_zero,List.getElem_cons_succ]
 refine qT 6 ?vbz6 rfl ?ybz6 hS0 ?_
 case ybz6=>exact zzR0
 try simp only[qA,List.getElem_toArray,List.getElem_cons_zero,List.getElem_cons_succ]
 refine qT 7 ?vbz7 rfl ?ybz7 hS0 ?_
 case ybz7=>exact zzR0
 try simp only[qA,List.getElem_toArray,List.getElem_cons_zero,List.getElem_cons_succ]
 refine qT 8 (.bool false) rfl ?ybz8 hS0 ?_
 case ybz8=>exact zzR0
 try simp only[qA,List.getElem_toArray,List.getElem_cons_zero,List.getElem_cons_succ]
 refine qT 9 ?vbz9 rfl ?ybz9 hS0 ?_
 case ybz9=>exact zzR0
 try simp only[qA,List.getElem_toArray,List.getElem_cons_zero,List.getElem_cons_succ]
 refine qT 10 ?vbz10 rfl ?ybz10 hS0 ?_
 case ybz10=>exact zzR0
 try simp only[qA,List.getElem_toArray,List.getElem_cons_zero,List.getElem_cons_succ]
 refine qT 11 ?vbz11 rfl ?ybz11 hS0 ?_
 case ybz11=>exact zzR0
 try simp only[qA,List.getElem_toArray,List.getElem_cons_zero,List.getElem_cons_succ]
 refine qT 12 ?vbz12 rfl ?ybz12 hS0 ?_
 case ybz12=>exact zzR0
 try simp only[qA,List.getElem_toArray,List.getElem_cons_zero,List.getElem_cons_succ]
 refine qT 13 ?vbz13 rfl ?ybz13 hS0 ?_
 case ybz13=>exact zzR0
 try simp only[qA,List.getElem_toArray,List.getElem_cons_zero,List.getElem_cons_succ]
 refine qT 14 ?vbz14 rfl ?ybz14 hS0 ?_
 case ybz14=>exact zzR0
 try simp only[qA,List.getElem_toArray,List.getElem_cons_zero,List.getElem_cons_succ]
 refine qT 15 ?vbz15 rfl ?ybz15 hS0 ?_
 case ybz15=>exact zzR0
 try simp only[qA,List.getElem_toArray,List.getElem_cons_zero,List.getElem_cons_succ]
 refine qT 16 ?vbz16 rfl ?ybz16 hS0 ?_
 case ybz16=>exact zzR0
 try simp only[qA,List.getElem_toArray,List.getElem_cons_zero,List.getElem_cons_succ]
 refine qT 17 (.bool false) rfl ?ybz17 hS0 ?_
 case ybz17=>exact zzR0
 try simp only[qA,List.getElem_toArray,List.getElem_cons_zero,List.getElem_cons_succ]
 refine qT 18 ?vbz18 rfl ?ybz18 hS0 ?_
 case ybz18=>exact zzR0
 exact zzQ31
section
variable {N:Nat} {ks:List Tk} {m0:Ms} {mks:List Tk} {md:Nat} {out:List Nd} {st:List (Int×Nat)} {wt:Bool} {i:Nat} {k:Tk}
end
section
variable {w:World} {base g cp N:Nat} {ks:List Tk} {pi pn:Nat} {pe:Int} {pa:Nat} {st:List (Int×Nat)} {out:List Nd} {gs cs go co:Nat} {b7 b9:Nat} {k:Tk} {e:Nd} {W:World}
end
theorem argP_8 (s:Ps):liftP s (rangeF 8 true s.ks)=argP 8 s:=by
 rw[argP_lift]
 rfl
set_option maxHeartbeats 8000000 in
theorem behind_8 {base g b off n cap:Nat} {t:List UInt8} {d:Nat} {s:Ps} {k:Tk} {ks:List Tk} {p:Nat} {nv:Value} {w:World} (hS:FpS base b off n cap t w) (h:Fp base g b off n cap t d s k ks p nv w):Calls Tryz.prog 117 #[.pointer (some ⟨g,0,none⟩),.int .i64 8] w (BehP base g b off n cap t d (fun r=>r=argP 8 s) nv w):=by
 obtain⟨W0,hW0⟩:=qE (w.alloc (Obj.cells #[.int .i64 0,.string ⟨#[]⟩,.bool false,.string ⟨#[]⟩,.int .u64 0,.int .u64 0,.int .i64 0] 65):World)
 have b3:Below w.heap.size w W0:=by rw[hW0];exact qB
 have b1:BoxAt W0 w.heap.size 65 7 w.heap.size [.int .i64 0,.string ⟨#[]⟩,.bool false,.string ⟨#[]⟩,.int .u64 0,.int .u64 0,.int .i64 0]:=by rw[hW0];exact boxAt_new w _ (Nat.le_refl _) rfl
 have hbs:Below base w W0:=b3.mono hS.sz
 have hnl:=h.nlt
 have HW0:Hid (BoxAt W0 w.heap.size 65 7 w.heap.size [.int .i64 0,.string ⟨#[]⟩,.bool false,.string ⟨#[]⟩,.int .u64 0,.int .u64 0,.int .i64 0]∧Fp base g b off n cap t d s k ks p nv W0∧FpS base b off n cap t W0∧Chg (fun q=>q=g∨nv.ownBlock=some q) w W0∧(∀q,nv.ownBlock=some q→q<w.heap.size)∧s.ks=k::ks):=⟨b1,h.below b3,hS.up hbs,Chg.of_below b3,fun q hq=>(hnl q hq).2,h.eq⟩
 have hgl:=h.fs.lt
 have HEn:Hid (Calls Tryz.prog 129 #[.pointer (some ⟨g,0,none⟩),.int .i64 8,.int .u8 34] W0 (BehP base g b off n cap t d (fun r=>r=liftP s (rangeF 8 true s.ks)) nv W0)):=fends_core HW0.2.2.1 HW0.2.1 true 8 34 rfl
 have hsz0:w.heap.size<W0.heap.size:=by rw[hW0];simp
 clear h hS b1 b3 hbs hnl
 go_enter Tryz.func117,Tryz.ntmps117
 go_upto_region 2 with fail
 rw[←hW0]
 clear hW0
 go_wp2_with fail
 refine HEn.mono ?_
 clear HEn
 rintro e w3 ⟨Hc3,(⟨s1,nd,hs1,rfl,k2,ks2,p2,nv3,hF3,hn3⟩|⟨c,a,hs1,rfl⟩)⟩
 case inr=>
  have HD:Hid (BehP base g b off n cap t d (fun r=>r=argP 8 s) nv w (Pf c (a:Int)) w3):=⟨Chg.comp HW0.2.2.2.1 Hc3.out (fun q _ z=>z),.inr ⟨c,a,hs1.trans (argP_8 s),rfl⟩⟩
  clear hs1
  exact⟨rfl,HD.out⟩
 have hBx:=HW0.1.chg Hc3.out (fun z=>by
  rcases z with z|z
  ·omega
  ·have:=HW0.2.2.2.2.1 _ z;omega)
 have HF3:Hid (Fp base g b off n cap t d s1 k2 ks2 p2 nv3 w3∧argP 8 s=.ok (s1,nd)∧Chg (fun q=>q=g∨nv.ownBlock=some q) w w3∧(∀q,nv3.ownBlock=some q→(nv.ownBlock=some q∨w.heap.size≤q)∧¬q=w.heap.size)):=⟨hF3,((argP_8 s).symm.trans hs1.symm),Chg.comp HW0.2.2.2.1 Hc3.out (fun q _ z=>z),fun q hq=>by
  rcases hn3 q hq with y|y
  ·have:=HW0.2.2.2.2.1 q y
   exact⟨.inl y,by omega⟩
  ·exact⟨.inr (by omega),by omega⟩⟩
 clear hs1 hF3 hn3
 obtain⟨nk,ns,nh,nt,nl,nu,nn⟩:=nd
 have hvv:(⟨nk,ns,nh,nt,nl,nu,nn⟩:Nd).v=.agg #[.int .i64 nk,.string ns,.bool nh,.string nt,.int .u64 nl,.int .u64 nu,.int .i64 nn]:=rfl
 rw[hvv]
 have l0:=hBx.cell (j:=0) rfl
 have l1:=hBx.cell (j:=1) rfl
 have l2:=hBx.cell (j:=2) rfl
 have l3:=hBx.cell (j:=3) rfl
 have l4:=hBx.cell (j:=4) rfl
 have l5:=hBx.cell (j:=5) rfl
 have l6:=hBx.cell (j:=6) rfl
 have f0:=hBx.frozen 0
 have f1:=hBx.frozen 1
 have f2:=hBx.frozen 2
 have f3:=hBx.frozen 3
 have f4:=hBx.frozen 4
 have f5:=hBx.frozen 5
 have f6:=hBx.frozen 6
 obtain⟨W9,hW9⟩:∃V:World,V=setN w3 w.heap.size ((⟨nk,ns,nh,nt,nl,nu,nn⟩:Nd)):=⟨_,rfl⟩
 have hB9:=hBx.setN ((⟨nk,ns,nh,nt,nl,nu,nn⟩:Nd))
 rw[←hW9]at hB9
 have hc9:Chg (fun q=>q=w.heap.size) w3 W9:=by rw[hW9];exact chg_setN _ _ _
 have HR:Hid (BehP base g b off n cap t d (fun r=>r=argP 8 s) nv w (.returned ((⟨nk,ns,nh,nt,nl,nu,nn⟩:Nd)).v) W9):=BehP.box (s1:=s1) HF3.2.1.symm HF3.1 HF3.2.2.1 (fun q hq=>(HF3.2.2.2 q hq).1) hc9 (by omega) (fun q hq=>(HF3.2.2.2 q hq).2)
 exact zzQ16
theorem argP_9 (s:Ps):liftP s (rangeF 9 true s.ks)=argP 9 s:=by
 rw[argP_lift]
 rfl
set_option maxHeartbeats 8000000 in
theorem behind_9 {base g b off n cap:Nat} {t:List UInt8} {d:Nat} {s:Ps} {k:Tk} {ks:List Tk} {p:Nat} {nv:Value} {w:World} (hS:FpS base b off n cap t w) (h:Fp base g b off n cap t d s k ks p nv w):Calls Tryz.prog 117 #[.pointer (some ⟨g,0,none⟩),.int .i64 9] w (BehP base g b off n cap t d (fun r=>r=argP 9 s) nv w):=by
 obtain⟨W0,hW0⟩:=qE (w.alloc (Obj.cells #[.int .i64 0,.string ⟨#[]⟩,.bool false,.string ⟨#[]⟩,.int .u64 0,.int .u64 0,.int .i64 0] 65):World)
 have b3:Below w.heap.size w W0:=by rw[hW0];exact qB
 have b1:BoxAt W0 w.heap.size 65 7 w.heap.size [.int .i64 0,.string ⟨#[]⟩,.bool false,.string ⟨#[]⟩,.int .u64 0,.int .u64 0,.int .i64 0]:=by rw[hW0];exact boxAt_new w _ (Nat.le_refl _) rfl
 have hbs:Below base w W0:=b3.mono hS.sz
 have hnl:=h.nlt
 have HW0:Hid (BoxAt W0 w.heap.size 65 7 w.heap.size [.int .i64 0,.string ⟨#[]⟩,.bool false,.string ⟨#[]⟩,.int .u64 0,.int .u64 0,.int .i64 0]∧Fp base g b off n cap t d s k ks p nv W0∧FpS base b off n cap t W0∧Chg (fun q=>q=g∨nv.ownBlock=some q) w W0∧(∀q,nv.ownBlock=some q→q<w.heap.size)∧s.ks=k::ks):=⟨b1,h.below b3,hS.up hbs,Chg.of_below b3,fun q hq=>(hnl q hq).2,h.eq⟩
 have hgl:=h.fs.lt
 have HEn:Hid (Calls Tryz.prog 129 #[.pointer (some ⟨g,0,none⟩),.int .i64 9,.int .u8 34] W0 (BehP base g b off n cap t d (fun r=>r=liftP s (rangeF 9 true s.ks)) nv W0)):=fends_core HW0.2.2.1 HW0.2.1 true 9 34 rfl
 have hsz0:w.heap.size<W0.heap.size:=by rw[hW0];simp
 clear h hS b1 b3 hbs hnl
 go_enter Tryz.func117,Tryz.ntmps117
 go_upto_region 2 with fail
 rw[←hW0]
 clear hW0
 go_wp2_with fail
 refine HEn.mono ?_
 clear HEn
 rintro e w3 ⟨Hc3,(⟨s1,nd,hs1,rfl,k2,ks2,p2,nv3,hF3,hn3⟩|⟨c,a,hs1,rfl⟩)⟩
 case inr=>
  have HD:Hid (BehP base g b off n cap t d (fun r=>r=argP 9 s) nv w (Pf c (a:Int)) w3):=⟨Chg.comp HW0.2.2.2.1 Hc3.out (fun q _ z=>z),.inr ⟨c,a,hs1.trans (argP_9 s),rfl⟩⟩
  clear hs1
  exact⟨rfl,HD.out⟩
 have hBx:=HW0.1.chg Hc3.out (fun z=>by
  rcases z with z|z
  ·omega
  ·have:=HW0.2.2.2.2.1 _ z;omega)
 have HF3:Hid (Fp base g b off n cap t d s1 k2 ks2 p2 nv3 w3∧argP 9 s=.ok (s1,nd)∧Chg (fun q=>q=g∨nv.ownBlock=some q) w w3∧(∀q,nv3.ownBlock=some q→(nv.ownBlock=some q∨w.heap.size≤q)∧¬q=w.heap.size)):=⟨hF3,((argP_9 s).symm.trans hs1.symm),Chg.comp HW0.2.2.2.1 Hc3.out (fun q _ z=>z),fun q hq=>by
  rcases hn3 q hq with y|y
  ·have:=HW0.2.2.2.2.1 q y
   exact⟨.inl y,by omega⟩
  ·exact⟨.inr (by omega),by omega⟩⟩
 clear hs1 hF3 hn3
 obtain⟨nk,ns,nh,nt,nl,nu,nn⟩:=nd
 have hvv:(⟨nk,ns,nh,nt,nl,nu,nn⟩:Nd).v=.agg #[.int .i64 nk,.string ns,.bool nh,.string nt,.int .u64 nl,.int .u64 nu,.int .i64 nn]:=rfl
 rw[hvv]
 have l0:=hBx.cell (j:=0) rfl
 have l1:=hBx.cell (j:=1) rfl
 have l2:=hBx.cell (j:=2) rfl
 have l3:=hBx.cell (j:=3) rfl
 have l4:=hBx.cell (j:=4) rfl
 have l5:=hBx.cell (j:=5) rfl
 have l6:=hBx.cell (j:=6) rfl
 have f0:=hBx.frozen 0
 have f1:=hBx.frozen 1
 have f2:=hBx.frozen 2
 have f3:=hBx.frozen 3
 have f4:=hBx.frozen 4
 have f5:=hBx.frozen 5
 have f6:=hBx.frozen 6
 obtain⟨W9,hW9⟩:∃V:World,V=setN w3 w.heap.size ((⟨nk,ns,nh,nt,nl,nu,nn⟩:Nd)):=⟨_,rfl⟩
 have hB9:=hBx.setN ((⟨nk,ns,nh,nt,nl,nu,nn⟩:Nd))
 rw[←hW9]at hB9
 have hc9:Chg (fun q=>q=w.heap.size) w3 W9:=by rw[hW9];exact chg_setN _ _ _
 have HR:Hid (BehP base g b off n cap t d (fun r=>r=argP 9 s) nv w (.returned ((⟨nk,ns,nh,nt,nl,nu,nn⟩:Nd)).v) W9):=BehP.box (s1:=s1) HF3.2.1.symm HF3.1 HF3.2.2.1 (fun q hq=>(HF3.2.2.2 q hq).1) hc9 (by omega) (fun q hq=>(HF3.2.2.2 q hq).2)
 exact zzQ16
theorem argP_10 (s:Ps):liftP s (rangeF 10 false s.ks)=argP 10 s:=by
 rw[argP_lift]
 rfl
set_option maxHeartbeats 8000000 in
theorem behind_10 {base g b off n cap:Nat} {t:List UInt8} {d:Nat} {s:Ps} {k:Tk} {ks:List Tk} {p:Nat} {nv:Value} {w:World} (hS:FpS base b off n cap t w) (h:Fp base g b off n cap t d s k ks p nv w):Calls Tryz.prog 117 #[.pointer (some ⟨g,0,none⟩),.int .i64 10] w (BehP base g b off n cap t d (fun r=>r=argP 10 s) nv w):=by
 obtain⟨W0,hW0⟩:=qE (w.alloc (Obj.cells #[.int .i64 0,.string ⟨#[]⟩,.bool false,.string ⟨#[]⟩,.int .u64 0,.int .u64 0,.int .i64 0] 65):World)
 have b3:Below w.heap.size w W0:=by rw[hW0];exact qB
 have b1:BoxAt W0 w.heap.size 65 7 w.heap.size [.int .i64 0,.string ⟨#[]⟩,.bool false,.string ⟨#[]⟩,.int .u64 0,.int .u64 0,.int .i64 0]:=by rw[hW0];exact boxAt_new w _ (Nat.le_refl _) rfl
 have hbs:Below base w W0:=b3.mono hS.sz
 have hnl:=h.nlt
 have HW0:Hid (BoxAt W0 w.heap.size 65 7 w.heap.size [.int .i64 0,.string ⟨#[]⟩,.bool false,.string ⟨#[]⟩,.int .u64 0,.int .u64 0,.int .i64 0]∧Fp base g b off n cap t d s k ks p nv W0∧FpS base b off n cap t W0∧Chg (fun q=>q=g∨nv.ownBlock=some q) w W0∧(∀q,nv.ownBlock=some q→q<w.heap.size)∧s.ks=k::ks):=⟨b1,h.below b3,hS.up hbs,Chg.of_below b3,fun q hq=>(hnl q hq).2,h.eq⟩
 have hgl:=h.fs.lt
 have HEn:Hid (Calls Tryz.prog 129 #[.pointer (some ⟨g,0,none⟩),.int .i64 10,.int .u8 48] W0 (BehP base g b off n cap t d (fun r=>r=liftP s (rangeF 10 false s.ks)) nv W0)):=fends_core HW0.2.2.1 HW0.2.1 false 10 48 rfl
 have hsz0:w.heap.size<W0.heap.size:=by rw[hW0];simp
 clear h hS b1 b3 hbs hnl
 go_enter Tryz.func117,Tryz.ntmps117
 go_upto_region 2 with fail
 rw[←hW0]
 clear hW0
 go_wp2_with fail
 refine HEn.mono ?_
 clear HEn
 rintro e w3 ⟨Hc3,(⟨s1,nd,hs1,rfl,k2,ks2,p2,nv3,hF3,hn3⟩|⟨c,a,hs1,rfl⟩)⟩
 case inr=>
  have HD:Hid (BehP base g b off n cap t d (fun r=>r=argP 10 s) nv w (Pf c (a:Int)) w3):=⟨Chg.comp HW0.2.2.2.1 Hc3.out (fun q _ z=>z),.inr ⟨c,a,hs1.trans (argP_10 s),rfl⟩⟩
  clear hs1
  exact⟨rfl,HD.out⟩
 have hBx:=HW0.1.chg Hc3.out (fun z=>by
  rcases z with z|z
  ·omega
  ·have:=HW0.2.2.2.2.1 _ z;omega)
 have HF3:Hid (Fp base g b off n cap t d s1 k2 ks2 p2 nv3 w3∧argP 10 s=.ok (s1,nd)∧Chg (fun q=>q=g∨nv.ownBlock=some q) w w3∧(∀q,nv3.ownBlock=some q→(nv.ownBlock=some q∨w.heap.size≤q)∧¬q=w.heap.size)):=⟨hF3,((argP_10 s).symm.trans hs1.symm),Chg.comp HW0.2.2.2.1 Hc3.out (fun q _ z=>z),fun q hq=>by
  rcases hn3 q hq with y|y
  ·have:=HW0.2.2.2.2.1 q y
   exact⟨.inl y,by omega⟩
  ·exact⟨.inr (by omega),by omega⟩⟩
 clear hs1 hF3 hn3
 obtain⟨nk,ns,nh,nt,nl,nu,nn⟩:=nd
 have hvv:(⟨nk,ns,nh,nt,nl,nu,nn⟩:Nd).v=.agg #[.int .i64 nk,.string ns,.bool nh,.string nt,.int .u64 nl,.int .u64 nu,.int .i64 nn]:=rfl
 rw[hvv]
 have l0:=hBx.cell (j:=0) rfl
 have l1:=hBx.cell (j:=1) rfl
 have l2:=hBx.cell (j:=2) rfl
 have l3:=hBx.cell (j:=3) rfl
 have l4:=hBx.cell (j:=4) rfl
 have l5:=hBx.cell (j:=5) rfl
 have l6:=hBx.cell (j:=6) rfl
 have f0:=hBx.frozen 0
 have f1:=hBx.frozen 1
 have f2:=hBx.frozen 2
 have f3:=hBx.frozen 3
 have f4:=hBx.frozen 4
 have f5:=hBx.frozen 5
 have f6:=hBx.frozen 6
 obtain⟨W9,hW9⟩:∃V:World,V=setN w3 w.heap.size ((⟨nk,ns,nh,nt,nl,nu,nn⟩:Nd)):=⟨_,rfl⟩
 have hB9:=hBx.setN ((⟨nk,ns,nh,nt,nl,nu,nn⟩:Nd))
 rw[←hW9]at hB9
 have hc9:Chg (fun q=>q=w.heap.size) w3 W9:=by rw[hW9];exact chg_setN _ _ _
 have HR:Hid (BehP base g b off n cap t d (fun r=>r=argP 10 s) nv w (.returned ((⟨nk,ns,nh,nt,nl,nu,nn⟩:Nd)).v) W9):=BehP.box (s1:=s1) HF3.2.1.symm HF3.1 HF3.2.2.1 (fun q hq=>(HF3.2.2.2 q hq).1) hc9 (by omega) (fun q hq=>(HF3.2.2.2 q hq).2)
 exact zzQ16
def BehR (F:Ps→PR Ps→Prop) (d:Nat) (kd:Int) (s:Ps) (r:PR (Ps×Nd)):Prop:=if kd=16 then((∃s1,BranR F d s (.ok s1)∧r=.ok (s1,leafN 16))∨(∃e,BranR F d s (.error e)∧r=.error e))else r=argP kd s
theorem BehP.mono {base g b off n cap:Nat} {t:List UInt8} {d:Nat} {A A2:PR (Ps×Nd)→Prop} {nv:Value} {w w':World} {e:Ending} (h:BehP base g b off n cap t d A nv w e w') (hA:∀r,A r→A2 r):BehP base g b off n cap t d A2 nv w e w':=by
 obtain⟨h1,⟨s1,nd,h2,h3⟩|⟨c,a,h2,h3⟩⟩:=h
 ·exact⟨h1,.inl ⟨s1,nd,hA _ h2,h3⟩⟩
 ·exact⟨h1,.inr ⟨c,a,hA _ h2,h3⟩⟩
theorem behind_any {base g b off n cap:Nat} {t:List UInt8} {d:Nat} {s:Ps} {k:Tk} {ks:List Tk} {p:Nat} {nv:Value} {w:World} (hS:FpS base b off n cap t w) (h:Fp base g b off n cap t d s k ks p nv w) {F:Ps→PR Ps→Prop} (HF:0<d→OprC base g b off n cap t (d-1) 26 F) {kd:Int} (hkd:(TkK.word kd).good):Calls Tryz.prog 117 #[.pointer (some ⟨g,0,none⟩),.int .i64 kd] w (BehP base g b off n cap t d (BehR F d kd s) nv w):=by
 have h1:kd=16∨kd=1∨kd=2∨kd=3∨kd=4∨kd=5∨kd=6∨kd=7∨kd=8∨kd=9∨kd=10∨kd=11∨kd=12∨kd=13:=by
  unfold TkK.good at hkd
  omega
 rcases h1 with rfl|rfl|rfl|rfl|rfl|rfl|rfl|rfl|rfl|rfl|rfl|rfl|rfl|rfl
 ·exact(behind_16 hS h HF).mono (fun e w' q=>q.mono (fun r z=>by unfold BehR;rw[if_pos rfl];exact z))
 ·exact(behind_1 hS h).mono (fun e w' q=>q.mono (fun r z=>by unfold BehR;rw[if_neg (by decide)];exact z))
 ·exact(behind_2 hS h).mono (fun e w' q=>q.mono (fun r z=>by unfold BehR;rw[if_neg (by decide)];exact z))
 ·exact(behind_3 hS h).mono (fun e w' q=>q.mono (fun r z=>by unfold BehR;rw[if_neg (by decide)];exact z))
 ·exact(behind_4 hS h).mono (fun e w' q=>q.mono (fun r z=>by unfold BehR;rw[if_neg (by decide)];exact z))
 ·exact(behind_5 hS h).mono (fun e w' q=>q.mono (fun r z=>by unfold BehR;rw[if_neg (by decide)];exact z))
 ·exact(behind_6 hS h).mono (fun e w' q=>q.mono (fun r z=>by unfold BehR;rw[if_neg (by decide)];exact z))
 ·exact(behind_7 hS h).mono (fun e w' q=>q.mono (fun r z=>by unfold BehR;rw[if_neg (by decide)];exact z))
 ·exact(behind_8 hS h).mono (fun e w' q=>q.mono (fun r z=>by unfold BehR;rw[if_neg (by decide)];exact z))
 ·exact(behind_9 hS h).mono (fun e w' q=>q.mono (fun r z=>by unfold BehR;rw[if_neg (by decide)];exact z))
 ·exact(behind_10 hS h).mono (fun e w' q=>q.mono (fun r z=>by unfold BehR;rw[if_neg (by decide)];exact z))
 ·exact(behind_11 hS h).mono (fun e w' q=>q.mono (fun r z=>by unfold BehR;rw[if_neg (by decide)];exact z))
 ·exact(behind_12 hS h).mono (fun e w' q=>q.mono (fun r z=>by unfold BehR;rw[if_neg (by decide)];exact z))
 ·exact(behind_13 hS h).mono (fun e w' q=>q.mono (fun r z=>by unfold BehR;rw[if_neg (by decide)];exact z))
theorem prim_word_ok {F:Ps→PR Ps→Prop} {d:Nat} {s s1 s2:Ps} {nd:Nd} {kd:Int} (hk:hdK s.ks=.word kd) (hm:Except.ok s1=makerF s) (hb:BehR F d kd s1 (.ok (s2,nd))):PrimR F d s (.ok (s2.add nd)):=by
 unfold BehR at hb
 by_cases hq:kd=16
 ·rw[if_pos hq]at hb
  rcases hb with⟨s3,h3,h4⟩|⟨e,h3,h4⟩
  ·cases h4
   exact .inr (.inl ⟨by rw[hk,hq],.inr ⟨s1,hm,.inr ⟨s2,h3,rfl⟩⟩⟩)
  ·cases h4
 ·rw[if_neg hq]at hb
  refine .inr (.inr (.inl ⟨kd,hk,hq,.inr ⟨s1,hm,?_⟩⟩))
  show _=argF kd s1
  unfold argP at hb
  unfold argF
  cases hz:argsF kd s1.ks with
  |error e=>rw[hz]at hb;cases hb
  |ok p=>rw[hz]at hb;cases hb;rfl
theorem prim_word_err {F:Ps→PR Ps→Prop} {d:Nat} {s s1:Ps} {e:PE} {kd:Int} (hk:hdK s.ks=.word kd) (hm:Except.ok s1=makerF s) (hb:BehR F d kd s1 (.error e)):PrimR F d s (.error e):=by
 unfold BehR at hb
 by_cases hq:kd=16
 ·rw[if_pos hq]at hb
  rcases hb with⟨s3,h3,h4⟩|⟨e,h3,h4⟩
  ·cases h4
  ·cases h4
   exact .inr (.inl ⟨by rw[hk,hq],.inr ⟨s1,hm,.inl ⟨_,h3,rfl⟩⟩⟩)
 ·rw[if_neg hq]at hb
  refine .inr (.inr (.inl ⟨kd,hk,hq,.inr ⟨s1,hm,?_⟩⟩))
  show _=argF kd s1
  unfold argP at hb
  unfold argF
  cases hz:argsF kd s1.ks with
  |error e=>rw[hz]at hb;cases hb;rfl
  |ok p=>rw[hz]at hb;cases hb
theorem prim_maker {F:Ps→PR Ps→Prop} {d:Nat} {s:Ps} {e:PE} {kd:Int} (hk:hdK s.ks=.word kd) (hm:Except.error e=makerF s):PrimR F d s (.error e):=by
 by_cases hq:kd=16
 ·exact .inr (.inl ⟨by rw[hk,hq],.inl ⟨_,hm,rfl⟩⟩)
 ·exact .inr (.inr (.inl ⟨kd,hk,hq,.inl ⟨_,hm,rfl⟩⟩))
theorem step_append_ndV {ops:Array Oper} {oo:Oper} {a:Act} {K:Act→World→Prop} {Q:Exit→Act→World→Prop} {E:Prop} (w:World) (hgd:oo.guard=none) (s x:Operand)
  (ho:oo.op=.call {callee:=.builtin .append,args:=#[s,x],argTypes:=#[23,23]})
  (base:Nat) (v:Value) (b off m cx:Nat) (fs:List Nd) (e:Nd) (hs:a.eval s=v) (hx:a.eval x=.slice (some ⟨b,off,none⟩) m cx) (hm:m=1) (hO:w.ownsRow base 65 7 v fs.length (cellsN fs))
  (hc:NdsAt w b off [e]) (hlen:fs.length≤1000000) (hbase:base≤w.heap.size)
  (h:∀g' cp' w',w'.ownsRow base 65 7 (.slice (some ⟨g',0,none⟩) (fs.length+1) cp') (fs++ [e]).length (cellsN (fs++ [e]))→w.grownBy w' v.ownBlock→(v.ownBlock=some g'∨g'=w.heap.size)→K (a.put oo.dst (.slice (some ⟨g',0,none⟩) (fs.length+1) cp')) w'):if Region.wanted oo (yielded ops a.tmps)=true then Oper.wp Tryz.prog oo a w K Q else E:=by
 have hw:Region.wanted oo (yielded ops a.tmps)=true:=by simp[Region.wanted,hgd]
 rw[if_pos hw]
 subst hm
 obtain⟨i,hi,hz0,hz1,hz2⟩:=info_parts Tryz.infoNd
 obtain⟨v',w',hr,hO',hgr,hnil,hat⟩:=run_append_own_at (P:=Tryz.prog) w base 23 oo.type 65 i _ 7 72 Tryz.underlying23 hi hz0 hz1 hz2 rfl (by decide) v fs.length (cellsN fs) hO ⟨b,off,none⟩ 1 cx (cellsN [e]) (length_cellsN [e]) (nds_cells hc) (nds_one [e]) (by unfold maxLen;omega) (by omega) hbase
 rcases hO'.2 with⟨h0,_⟩|⟨g',cap',cur,hv,_,_,hn,hcap,_,_⟩
 ·have:=(hnil.1 h0).2
  simp at this
 ·subst hv
  have hfin:=h g' cap' w' (by rw[List.length_append,cellsN_append];exact hO') hgr (by
   rcases hat with z|z
   ·left;rw[←z];rfl
   ·right;simpa [Value.ownBlock]using z)
  unfold Oper.wp
  simp[execOp,ho,resolve,invoke,builtin,hs,hx,hr,Result.andThen]
  exact hfin
set_option maxHeartbeats 16000000 in
theorem prim_of {base g b off n cap:Nat} {t:List UInt8} {d:Nat} {F:Ps→PR Ps→Prop} (HF:0<d→OprC base g b off n cap t (d-1) 26 F) (hM:MonR F):OprC base g b off n cap t d 96 (PrimR F d):=by
 intro w s k ks p nv hS h
 have hdd:=h.dd
 have H0:Hid (FpS base b off n cap t w∧Fp base g b off n cap t d s k ks p nv w∧s.ks=k::ks):=⟨hS,h,h.eq⟩
 have HFl:Hid ((0<d→OprC base g b off n cap t (d-1) 26 F)∧MonR F):=⟨HF,hM⟩
 have cK:=h.fs.cell (j:=2) rfl
 have hkn:=h.kinds
 have hsg:=ft_sign (b:=40) hkn (by decide)
 have hsg':(((ftB k.k).toNat:Int)==40)=k.k.isSign 40:=hsg
 have hgl:=h.fs.lt
 clear HF hM hS h hsg
 cases hsn:k.k.isSign 40
 case true=>
  rw[hsn]at hsg'
  have HC0:Hid (Calls Tryz.prog 115 #[.pointer (some ⟨g,0,none⟩)] w (FpO base g b off n cap t (d-1) (fun r=>r=enterF d s) (.tuple #[]) nv w)):=enter_core H0.1 H0.2.1
  have Hsn:Hid ((hdK s.ks).isSign 40=true):=by show _=_;rw[H0.2.2];exact hsn
  clear hsn hkn
  go_enter Tryz.func96,Tryz.ntmps96
  go_wp2_with fail
  refine HC0.mono ?_
  clear HC0
  rintro e w1 ⟨Hc1,(⟨s1,hs1,rfl,k1,ks1,p1,nv1,hF1,hn1⟩|⟨c,a,hs1,rfl⟩)⟩
  case inr=>
   have HD:Hid (FpO base g b off n cap t d (PrimR F d s) (.tuple #[]) nv w (Pf c (a:Int)) w1):=⟨Hc1.out,.inr ⟨c,a,.inl ⟨Hsn.out,.inl ⟨_,hs1,rfl⟩⟩,rfl⟩⟩
   clear hs1
   exact⟨rfl,HD.out⟩
  have hd0:0<d:=by
   rcases Nat.eq_zero_or_pos d with q|q
   ·exfalso
    have h9:Except.ok s1=enterF d s:=hs1
    rw[q]at h9
    unfold enterF at h9
    split at h9<;>first|cases h9|(simp at h9)
   ·exact q
  have HQ1:Hid (Fp base g b off n cap t (d-1) s1 k1 ks1 p1 nv1 w1∧FpS base b off n cap t w1∧Chg (fun q=>q=g∨nv.ownBlock=some q) w w1∧(∀q,nv1.ownBlock=some q→nv.ownBlock=some q∨w.heap.size≤q)∧(∀r,(bindR F (fnR leaveF)) s1 r→PrimR F d s r)):=⟨hF1,H0.1.of H0.2.1 Hc1.out,Hc1.out,hn1,fun r hr=>.inl ⟨Hsn.out,.inr ⟨s1,hs1,hr⟩⟩⟩
  have sz1:=HQ1.2.2.1.size
  have HC1:Hid (Calls Tryz.prog 26 #[.pointer (some ⟨g,0,none⟩)] w1 (FpO base g b off n cap t (d-1) (F s1) (.tuple #[]) nv1 w1)):=HFl.1 hd0 w1 s1 k1 ks1 p1 nv1 HQ1.2.1 hF1
  clear hs1 hF1 hn1
  go_wp2_with fail
  refine HC1.mono ?_
  clear HC1
  rintro e w2 ⟨Hc2,(⟨s2,hs2,rfl,k2,ks2,p2,nv2,hF2,hn2⟩|⟨c,a,hs2,rfl⟩)⟩
  case inr=>
   have HD:Hid (FpO base g b off n cap t d (PrimR F d s) (.tuple #[]) nv w (Pf c (a:Int)) w2):=⟨Chg.comp HQ1.2.2.1 Hc2.out (fun q hq z=>by
   rcases z with z|z
   ·exact .inl z
   ·rcases HQ1.2.2.2.1 q z with y|y
    ·exact .inr y
    ·omega),.inr ⟨c,a,HQ1.2.2.2.2 _ (.inl ⟨_,hs2,rfl⟩),rfl⟩⟩
   clear hs2
   exact⟨rfl,HD.out⟩
  have HQ2:Hid (Fp base g b off n cap t (d-1) s2 k2 ks2 p2 nv2 w2∧FpS base b off n cap t w2∧Chg (fun q=>q=g∨nv.ownBlock=some q) w w2∧(∀q,nv2.ownBlock=some q→nv.ownBlock=some q∨w.heap.size≤q)∧(∀r,fnR leaveF s2 r→PrimR F d s r)):=⟨hF2,HQ1.2.1.of HQ1.1 Hc2.out,(Chg.comp HQ1.2.2.1 Hc2.out (fun q hq z=>by
   rcases z with z|z
   ·exact .inl z
   ·rcases HQ1.2.2.2.1 q z with y|y
    ·exact .inr y
    ·omega)),(fun q hq=>by
   rcases hn2 q hq with y|y
   ·exact HQ1.2.2.2.1 q y
   ·right;omega),fun r hr=>HQ1.2.2.2.2 r (.inr ⟨s2,hs2,hr⟩)⟩
  have sz2:=HQ2.2.2.1.size
  have HC2:Hid (Calls Tryz.prog 116 #[.pointer (some ⟨g,0,none⟩)] w2 (FpO base g b off n cap t d (fun r=>r=leaveF s2) (.tuple #[]) nv2 w2)):=by
   have h9:=leave_core HQ2.2.1 hF2 (by omega)
   rw[show d-1+1=d by omega]at h9
   exact h9
  clear hs2 hF2 hn2
  go_wp2_with fail
  refine HC2.mono ?_
  clear HC2
  intro e w3 h3
  have HR:Hid (FpO base g b off n cap t d (PrimR F d s) (.tuple #[]) nv w e w3):=FpO.seq HQ2.2.2.1 HQ2.2.2.2.1 h3 (fun r hr=>HQ2.2.2.2.2 r hr)
  rcases h3 with⟨Hc3,(⟨s3,hs3,rfl,k3,ks3,p3,nv3,hF3,hn3⟩|⟨c,a,hs3,rfl⟩)⟩
  ·clear hs3 hF3 hn3
   go_wp2_with fail
   go_end0
   exact HR.out
  ·clear hs3
   exact⟨rfl,HR.out⟩
 rw[hsn]at hsg'
 by_cases hwd:∃kd,k.k=.word kd
 case neg=>
  have zk:(((ftB k.k).toNat:Int)==97)=false:=by
   cases hq:k.k with
   |word v=>exact absurd ⟨v,hq⟩ hwd
   |sign c=>
    rw[hq]at hkn
    rcases hkn with q|q
    ·rcases q with rfl|rfl|rfl|rfl|rfl|rfl<;>rfl
    ·cases q
   |num _=>rfl
   |str _=>rfl
   |fin=>rfl
   |bad=>rfl
  have HD:Hid (FpO base g b off n cap t d (PrimR F d s) (.tuple #[]) nv w (Pf 3 (k.pos:Int)) w):=⟨Chg.refl _ _,.inr ⟨3,k.pos,.inr (.inr (.inr ⟨by rw[H0.2.2];exact hsn,fun kd q=>hwd ⟨kd,by rw[H0.2.2]at q;exact q⟩,by rw[H0.2.2];rfl⟩)),rfl⟩⟩
  obtain⟨kb,hkb⟩:=qE (((ftB k.k).toNat:Int):Int)
  rw[←hkb]at zk cK hsg'
  clear hwd hkn hsn hkb
  go_enter Tryz.func96,Tryz.ntmps96
  go_wp2_with fail
  refine(fdem_no H0.2.1 3).mono ?_
  rintro e w2 ⟨rfl,hw2⟩
  rw[hw2]
  clear hw2
  exact⟨rfl,HD.out⟩
 obtain⟨kd,hkd⟩:=hwd
 have hft:ftV k= [.int .u8 97,.int .i64 (k.pos:Int),.int .i64 kd,.int .u64 0,.string ⟨#[]⟩]:=by unfold ftV;rw[hkd];rfl
 have hgd:(TkK.word kd).good:=by
  rcases hkn with q|q
  ·rw[hkd]at q;exact q
  ·rw[hkd]at q;cases q
 have HK:Hid (hdK s.ks=.word kd∧(TkK.word kd).good∧k.k.isFin=false):=⟨by rw[H0.2.2];exact hkd,hgd,by rw[hkd];rfl⟩
 rw[show ftB k.k=97 from by rw[hkd];rfl]at cK
 have HMk:Hid (Calls Tryz.prog 95 #[.pointer (some ⟨g,0,none⟩)] w (FpO base g b off n cap t d (fun r=>r=makerF s) (.agg (ftV k).toArray) nv w)):=takeMaker_core H0.1 H0.2.1 HK.2.2
 have HFt:Hid (ftV k= [.int .u8 97,.int .i64 (k.pos:Int),.int .i64 kd,.int .u64 0,.string ⟨#[]⟩]):=hft
 clear hkd hgd hft hsn hkn hsg'
 go_enter Tryz.func96,Tryz.ntmps96
 go_wp2_with fail
 refine(fdem_yes _ 3 w).mono ?_
 rintro e w0 ⟨rfl,hw0⟩
 rw[hw0]
 clear hw0
 go_wp2_with fail
 refine HMk.mono ?_
 clear HMk
 rintro e w1 ⟨Hc1,(⟨s1,hs1,rfl,k1,ks1,p1,nv1,hF1,hn1⟩|⟨c,a,hs1,rfl⟩)⟩
 case inr=>
  have HD:Hid (FpO base g b off n cap t d (PrimR F d s) (.tuple #[]) nv w (Pf c (a:Int)) w1):=⟨Hc1.out,.inr ⟨c,a,prim_maker HK.1 hs1,rfl⟩⟩
  clear hs1
  exact⟨rfl,HD.out⟩
 have HQ1:Hid (Fp base g b off n cap t d s1 k1 ks1 p1 nv1 w1∧FpS base b off n cap t w1∧Chg (fun q=>q=g∨nv.ownBlock=some q) w w1∧(∀q,nv1.ownBlock=some q→nv.ownBlock=some q∨w.heap.size≤q)∧Except.ok s1=makerF s):=⟨hF1,H0.1.of H0.2.1 Hc1.out,Hc1.out,hn1,hs1⟩
 have sz1:=HQ1.2.2.1.size
 have HBh:Hid (Calls Tryz.prog 117 #[.pointer (some ⟨g,0,none⟩),.int .i64 kd] w1 (BehP base g b off n cap t d (BehR F d kd s1) nv1 w1)):=behind_any HQ1.2.1 hF1 HFl.1 HK.2.1
 have hfe:(Instr.field 52 (.agg (ftV k).toArray) 2).run Tryz.prog w1=.ok (.int .i64 kd) w1:=by rw[HFt.out];kernel_rfl
 clear hs1 hF1 hn1
 go_wp2_with fail
 refine HBh.mono ?_
 clear HBh hfe
 rintro e w2 ⟨Hc2,(⟨s2,nd,hs2,rfl,k2,ks2,p2,nv2,hF2,hn2⟩|⟨c,a,hs2,rfl⟩)⟩
 case inr=>
  have HD:Hid (FpO base g b off n cap t d (PrimR F d s) (.tuple #[]) nv w (Pf c (a:Int)) w2):=⟨Chg.comp HQ1.2.2.1 Hc2.out (fun q hq z=>by
   rcases z with z|z
   ·exact .inl z
   ·rcases HQ1.2.2.2.1 q z with y|y
    ·exact .inr y
    ·omega),.inr ⟨c,a,prim_word_err HK.1 HQ1.2.2.2.2 hs2,rfl⟩⟩
  clear hs2
  exact⟨rfl,HD.out⟩
 obtain⟨a2,m2,c2,rfl⟩:=hF2.form
 have HPr:Hid (PrimR F d s (.ok (s2.add nd))):=prim_word_ok HK.1 HQ1.2.2.2.2 hs2
 have HQ2:Hid (Fp base g b off n cap t d s2 k2 ks2 p2 (.slice a2 m2 c2) w2∧FpS base b off n cap t w2∧Chg (fun q=>q=g∨nv.ownBlock=some q) w w2∧(∀q,(Value.slice a2 m2 c2).ownBlock=some q→nv.ownBlock=some q∨w.heap.size≤q)):=⟨hF2,HQ1.2.1.of HQ1.1 Hc2.out,(Chg.comp HQ1.2.2.1 Hc2.out (fun q hq z=>by
   rcases z with z|z
   ·exact .inl z
   ·rcases HQ1.2.2.2.1 q z with y|y
    ·exact .inr y
    ·omega)),(fun q hq=>by
   rcases hn2 q hq with y|y
   ·exact HQ1.2.2.2.1 q y
   ·right;omega)⟩
 have sz2:=HQ2.2.2.1.size
 clear hs2 hF2 hn2
 obtain⟨nk,ns,nh,nt,nl,nu,nn⟩:=nd
 have hvv:(⟨nk,ns,nh,nt,nl,nu,nn⟩:Nd).v=.agg #[.int .i64 nk,.string ns,.bool nh,.string nt,.int .u64 nl,.int .u64 nu,.int .i64 nn]:=rfl
 rw[hvv]
 clear hvv
 obtain⟨W3,hW3⟩:∃V:World,V=w2.alloc (Obj.cells #[.int .i64 nk,.string ns,.bool nh,.string nt,.int .u64 nl,.int .u64 nu,.int .i64 nn] 65):=⟨_,rfl⟩
 have hb3:Below w2.heap.size w2 W3:=by rw[hW3];exact qB
 obtain⟨P,hP⟩:=qE w2.heap.size
 have HB3:Hid (BoxAt W3 P 65 7 P [.int .i64 nk,.string ns,.bool nh,.string nt,.int .u64 nl,.int .u64 nu,.int .i64 nn]∧Below w2.heap.size w2 W3∧P=w2.heap.size):=by rw[hP];exact⟨by rw[hW3];exact boxAt_new w2 _ (Nat.le_refl _) rfl,hb3,rfl⟩
 have HF3:Hid (Fp base g b off n cap t d s2 k2 ks2 p2 (.slice a2 m2 c2) W3∧FpS base b off n cap t W3):=⟨HQ2.1.below hb3,HQ2.2.1.up (hb3.mono HQ2.2.1.sz)⟩
 go_upto_region 6 with fail
 rw[←hW3,←hP]
 clear hW3 hP hb3 cK
 have hS0:(fun w':World=>w'.cell? ⟨g,9,none⟩=some (.slice a2 m2 c2)∧w'.cell? ⟨P,0,none⟩=some (.int .i64 nk)∧w'.cell? ⟨P,1,none⟩=some (.string ns)∧w'.cell? ⟨P,2,none⟩=some (.bool nh)∧w'.cell? ⟨P,3,none⟩=some (.string nt)∧w'.cell? ⟨P,4,none⟩=some (.int .u64 nl)∧w'.cell? ⟨P,5,none⟩=some (.int .u64 nu)∧w'.cell? ⟨P,6,none⟩=some (.int .i64 nn)) W3.drew:=⟨HF3.1.fs.cell (j:=9) rfl,HB3.1.cell (j:=0) rfl,HB3.1.cell (j:=1) rfl,HB3.1.cell (j:=2) rfl,HB3.1.cell (j:=3) rfl,HB3.1.cell (j:=4) rfl,HB3.1.cell (j:=5) rfl,HB3.1.cell (j:=6) rfl⟩
 refine wp_region_T 10 (fun w':World=>w'.cell? ⟨g,9,none⟩=some (.slice a2 m2 c2)∧w'.cell? ⟨P,0,none⟩=some (.int .i64 nk)∧w'.cell? ⟨P,1,none⟩=some (.string ns)∧w'.cell? ⟨P,2,none⟩=some (.bool nh)∧w'.cell? ⟨P,3,none⟩=some (.string nt)∧w'.cell? ⟨P,4,none⟩=some (.int .u64 nl)∧w'.cell? ⟨P,5,none⟩=some (.int .u64 nu)∧w'.cell? ⟨P,6,none⟩=some (.int .i64 nn)) (by kernel_rfl) ?_
 refine qU 0 ?vp0 rfl ?yp0 hS0 ?_
 case yp0=>exact zzR6
 try simp only[qA,List.getElem_toArray,List.getElem_cons_zero,List.getElem_cons_succ]
 refine qU 1 ?vp1 rfl ?yp1 hS0 ?_
 case yp1=>exact zzR6
 try simp only[qA,List.getElem_toArray,List.getElem_cons_zero,List.getElem_cons_succ]
 refine qU 2 ?vp2 rfl ?yp2 hS0 ?_
 case yp2=>exact zzR6
 try simp only[qA,List.getElem_toArray,List.getElem_cons_zero,List.getElem_cons_succ]
 refine qU 3 ?vp3 rfl ?yp3 hS0 ?_
 case yp3=>exact zzR6
 try simp only[qA,List.getElem_toArray,List.getElem_cons_zero,List.getElem_cons_succ]
 refine qU 4 ?vp4 rfl ?yp4 hS0 ?_
 case yp4=>exact zzR6
 try simp only[qA,List.getElem_toArray,List.getElem_cons_zero,List.getElem_cons_succ]
 refine qU 5 ?vp5 rfl ?yp5 hS0 ?_
 case yp5=>exact zzR6
 try simp only[qA,List.getElem_toArray,List.getElem_cons_zero,List.getElem_cons_succ]
 obtain⟨V1,hV1⟩:=qE ((W3.alloc (Obj.cells #[.int .i64 nk,.string ns,.bool nh,.string nt,.int .u64 nl,.int .u64 nu,.int .i64 nn] 65)).drew:World)
 obtain⟨G1,hG1⟩:=qE W3.heap.size
 have hbV:Below W3.heap.size W3 V1:=by rw[hV1];exact(qB).drew
 have HV:Hid (NdsAt V1 G1 0 [(⟨nk,ns,nh,nt,nl,nu,nn⟩:Nd)]∧Fp base g b off n cap t d s2 k2 ks2 p2 (.slice a2 m2 c2) V1∧FpS base b off n cap t V1∧BoxAt V1 P 65 7 P [.int .i64 nk,.string ns,.bool nh,.string nt,.int .u64 nl,.int .u64 nu,.int .i64 nn]∧Below w2.heap.size w2 V1):=by
  refine⟨?_,HF3.1.below hbV,HF3.2.up (hbV.mono HF3.2.sz),HB3.1.below hbV,HB3.2.1.trans (hbV.mono HB3.2.1.size)⟩
  intro i e he
  cases i with
  |zero=>
   simp at he
   subst he
   rw[hV1,hG1]
   refine⟨?_,?_,?_,?_,?_,?_,?_⟩<;>simp
  |succ i=>simp at he
 have hS1:(fun w':World=>w'.cell? ⟨g,9,none⟩=some (.slice a2 m2 c2)∧w'.cell? ⟨P,0,none⟩=some (.int .i64 nk)∧w'.cell? ⟨P,1,none⟩=some (.string ns)∧w'.cell? ⟨P,2,none⟩=some (.bool nh)∧w'.cell? ⟨P,3,none⟩=some (.string nt)∧w'.cell? ⟨P,4,none⟩=some (.int .u64 nl)∧w'.cell? ⟨P,5,none⟩=some (.int .u64 nu)∧w'.cell? ⟨P,6,none⟩=some (.int .i64 nn)) V1:=⟨HV.2.1.fs.cell (j:=9) rfl,HV.2.2.2.1.cell (j:=0) rfl,HV.2.2.2.1.cell (j:=1) rfl,HV.2.2.2.1.cell (j:=2) rfl,HV.2.2.2.1.cell (j:=3) rfl,HV.2.2.2.1.cell (j:=4) rfl,HV.2.2.2.1.cell (j:=5) rfl,HV.2.2.2.1.cell (j:=6) rfl⟩
 clear hbV
 refine anyT_one (i:=6) (by kernel_rfl) rfl (fun K hK=>?_)
 go_simp
 rw[←hV1,←hG1]
 clear hV1 hG1
 refine hK.out _ _ (.inr hS1) ?_
 clear hK
 try simp only[qA,List.getElem_toArray,List.getElem_cons_zero,List.getElem_cons_succ]
 refine anyT_one (i:=7) (by kernel_rfl) rfl (fun K hK=>?_)
 refine step_append_ndV _ rfl _ _ rfl base (.slice a2 m2 c2) G1 0 1 1 s2.out (⟨nk,ns,nh,nt,nl,nu,nn⟩:Nd) rfl rfl rfl HV.2.1.nds HV.1 (by have:=HV.2.1.ol;omega) HV.2.2.1.sz ?_
 intro g6 c6 w6 hO6 hgr hat
 have H6:Hid (FsAt w6 base g b off n cap p2 (fpL k2 s2.made (20-d) (.slice a2 m2 c2))∧w6.ownsRow base 65 7 (.slice (some ⟨g6,0,none⟩) (s2.out.length+1) c6) (s2.out++ [(⟨nk,ns,nh,nt,nl,nu,nn⟩:Nd)]).length (cellsN (s2.out++ [(⟨nk,ns,nh,nt,nl,nu,nn⟩:Nd)]))∧Chg (fun q=>q=g∨nv.ownBlock=some q) w w6∧¬g6=g∧(nv.ownBlock=some g6∨w.heap.size≤g6)∧BoxAt w6 P 65 7 P [.int .i64 nk,.string ns,.bool nh,.string nt,.int .u64 nl,.int .u64 nu,.int .i64 nn]):=by
  have hc6:Chg (fun q=>(Value.slice a2 m2 c2).ownBlock=some q) V1 w6:=Chg.of_grown hgr (fun q hq=>hq)
  have hF5:=HV.2.1
  have hcw5:Chg (fun q=>q=g∨nv.ownBlock=some q) w V1:=Chg.comp HQ2.2.2.1 (Chg.of_below HV.2.2.2.2 (S:=fun _=>False)) (fun q _ z=>z.elim)
  refine⟨BoxAt.chg hF5.fs hc6 (fun z=>hF5.ap _ z rfl),hO6,Chg.comp hcw5 hc6 (fun q hq z=>?_),?_,?_,BoxAt.chg HV.2.2.2.1 hc6 (fun z=>?_)⟩
  ·rcases HQ2.2.2.2 q z with y|y
   ·exact .inr y
   ·omega
  ·rcases hat with z|z
   ·exact fun q=>hF5.ap _ z q
   ·have:=hF5.fs.lt.2;omega
  ·rcases hat with z|z
   ·exact HQ2.2.2.2 _ z
   ·right;have:=hcw5.size;omega
  ·have h1:=(HQ2.1.nlt _ z).2
   have h2:=HB3.2.2
   omega
 clear hO6 hgr hat
 have hS2:(fun w':World=>w'.cell? ⟨g,9,none⟩=some (.slice a2 m2 c2)∧w'.cell? ⟨P,0,none⟩=some (.int .i64 nk)∧w'.cell? ⟨P,1,none⟩=some (.string ns)∧w'.cell? ⟨P,2,none⟩=some (.bool nh)∧w'.cell? ⟨P,3,none⟩=some (.string nt)∧w'.cell? ⟨P,4,none⟩=some (.int .u64 nl)∧w'.cell? ⟨P,5,none⟩=some (.int .u64 nu)∧w'.cell? ⟨P,6,none⟩=some (.int .i64 nn)) w6:=⟨H6.1.cell (j:=9) rfl,H6.2.2.2.2.2.cell (j:=0) rfl,H6.2.2.2.2.2.cell (j:=1) rfl,H6.2.2.2.2.2.cell (j:=2) rfl,H6.2.2.2.2.2.cell (j:=3) rfl,H6.2.2.2.2.2.cell (j:=4) rfl,H6.2.2.2.2.2.cell (j:=5) rfl,H6.2.2.2.2.2.cell (j:=6) rfl⟩
 refine hK.out _ _ (.inr hS2) ?_
 clear hK
 try simp only[qA,List.getElem_toArray,List.getElem_cons_zero,List.getElem_cons_succ]
 refine anyT_one (i:=8) (by kernel_rfl) rfl (fun K hK=>?_)
 go_simp
 refine hK.out _ _ (.inr hS2) ?_
 clear hK
 try simp only[qA,List.getElem_toArray,List.getElem_cons_zero,List.getElem_cons_succ]
 refine anyT_one (i:=9) (by kernel_rfl) rfl (fun K hK=>?_)
 go_simp
 refine hK.out _ _ (.inr hS2) ?_
 clear hK
 try simp only[qA,List.getElem_toArray,List.getElem_cons_zero,List.getElem_cons_succ]
 have cN:=H6.1.cell (j:=9) rfl
 have fN:=H6.1.frozen 9
 refine anyT_one (i:=10) (by kernel_rfl) rfl (fun K hK=>?_)
 go_simp
 refine hK.out _ _ (.inl rfl) ?_
 clear hK
 try simp only[qA,List.getElem_toArray,List.getElem_cons_zero,List.getElem_cons_succ]
 refine anyT_done (by kernel_rfl) ?_
 have HR:Hid (FpO base g b off n cap t d (PrimR F d s) (.tuple #[]) nv w (.returned (.tuple #[])) (w6.setCell ⟨g,9,none⟩ (.slice (some ⟨g6,0,none⟩) (s2.out.length+1) c6))):=by
  have hc9:Chg (fun q=>q=g) w6 (w6.setCell ⟨g,9,none⟩ (.slice (some ⟨g6,0,none⟩) (s2.out.length+1) c6)):=Chg.of_set _ _ _ _ rfl
  have h6:=H6.out
  have h4:=HQ2.1
  refine⟨Chg.comp h6.2.2.1 hc9 (fun q _ z=>.inl z),.inl ⟨s2.add (⟨nk,ns,nh,nt,nl,nu,nn⟩:Nd),HPr.out,rfl,k2,ks2,p2,.slice (some ⟨g6,0,none⟩) (s2.out.length+1) c6,⟨h4.eq,BoxAt.set h6.1 9 _,h4.pn,h4.lx,h4.nb,h4.tk,h4.md,h4.dd,own_chg h6.2.1 hc9 (fun q hq z=>?_),fun q hq=>?_,?_⟩,fun q hq=>?_⟩⟩
  ·simp[Value.ownBlock]at hq;exact h6.2.2.2.1 (hq.trans z)
  ·simp[Value.ownBlock]at hq;rw[←hq];exact h6.2.2.2.1
  ·have h1:=(mon_prim HFl.2 d s _ HPr.out).2
   have h2:=H0.2.1.ol
   omega
  ·simp[Value.ownBlock]at hq;rw[←hq];exact h6.2.2.2.2.1
 clear hS0 hS1 hS2 cN fN
 go_wp2_with fail
 go_end0
 exact HR.out
theorem fil_of (base g b off n cap:Nat) (t:List UInt8):∀d,OprC base g b off n cap t d 26 (FilR d)
 |0=>filter_of (chain_of (prim_of (F:=fun _ _=>False) (fun q=>absurd q (Nat.lt_irrefl 0)) (fun _ _ q=>q.elim)) (mon_prim (fun _ _ q=>q.elim) 0)) (mon_join (mon_prim (fun _ _ q=>q.elim) 0))
 |d+1=>filter_of (chain_of (prim_of (F:=FilR d) (fun _=>fil_of base g b off n cap t d) (mon_fil d)) (mon_prim (mon_fil d) (d+1))) (mon_join (mon_prim (mon_fil d) (d+1)))
end Go.Proofs.YtgnpcenpcmdlfaaGreatDoor
