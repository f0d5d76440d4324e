import Derived.Test.YtkidabedcgngcaaGreatDoorWkAA
import Derived.Test.YtkidabedcgngcaaGreatDoorWkAD
import Derived.Test.YtkidabedcgngcaaGreatDoorWkAB
import Derived.Maps.AppendAt
import Derived.Lib.ConvBytes
namespace Go.Proofs.YtkidabedcgngcaaGreatDoor
open Go.ChangeShapes Go.WideShapes Go.ChangeAt Go.RowKit Go.Deep
set_option linter.unusedVariables false
set_option linter.unusedSimpArgs false
set_option maxRecDepth 100000
def LyC (base:Nat) (w0:World) (t:Pat) (v:Value):Prop:=∀(M:Nat) (T:Nat→PS) (G cp a:Nat) (E:Nat→PS) (en:PS) (mp:Nat) (w:World),MtrI w base M T G cp a E en mp→Below base w0 w→a+wtP t≤256→
 Calls Tryz.prog 135 #[.pointer (some ⟨M,0,none⟩),v] w (LayR base M T G E en mp (lyP t a) w)
theorem chg_own {S:Nat→Prop} {w w5 w6:World} (hx:Chg S w w5) (hc:Chg (fun k=>w.heap.size≤k) w5 w6):Chg S w w6:=
 ⟨hc.os.trans hx.os,hc.tape.trans hx.tape,hc.output.trans hx.output,Nat.le_trans hx.size hc.size,fun j hj hn=>(hc.block j (Nat.lt_of_lt_of_le hj hx.size) (by omega)).trans (hx.block j hj hn)⟩
theorem lay_fin {w w5:World} {base M:Nat} {T:Nat→PS} {G1 cp1 nx:Nat} {E:Nat→PS} {en:PS} {mp G g:Nat} {vs:List Value} (hm:MtrI w5 base M T G1 cp1 nx E en mp) (hb:BoxAt w5 w.heap.size 183 8 g vs) (hx:Chg (fun k=>k=M∨k=G) w w5) (F L:PS):
  MtrI (setSp w5 g F L) base M T G1 cp1 nx E en mp∧BoxAt (setSp w5 g F L) w.heap.size 183 8 g (spL F L)∧Chg (fun k=>k=M∨k=G) w (setSp w5 g F L):=by
 have hc:Chg (fun k=>k=g) w5 (setSp w5 g F L):=chg_setSp w5 _ _ _ rfl
 have hG1:¬G1=g:=fun q=>own_apart hm.row hb (by decide) G1 rfl (by rw[q];rfl)
 have hM1:¬M=g:=fun q=>own_apart hm.box hb (by decide) M rfl (by rw[q];rfl)
 have h1:=hb.lt.1
 refine⟨⟨hm.box.chg hc hM1,own_chg hm.row hc (fun k q=>by simp[Value.ownBlock]at q;subst q;exact hG1),hm.new,hm.tab.chg hc (fun q=>?_),hm.low⟩,hb.setSp _ _,chg_own hx (hc.mono (fun k q=>by omega))⟩
 have h2:=hm.tab
 have h3:w5.heap[g]?=some (.cells vs.toArray 183 (0,0)):=hb.heap
 have h4:=h2 8 (by omega)
 rw[q]at h4
 have h5:=hb.len
 rw[World.cell?,h3]at h4
 simp[List.getElem?_eq_none (show vs.length≤8 by omega)]at h4
set_option maxHeartbeats 4000000 in
theorem lay_rep_true {base:Nat} {w0:World} {t:Pat} {u:Value} (hu:∃X c,u=.iface X (.agg c)) (H:LyC base w0 t u) (o:Bool):LyC base w0 (.rep t o true) (.iface 219 (.agg #[u,.bool o,.bool true])):=by
 intro M T G cp a E en mp w h hw0 hwt
 obtain⟨ux,uc,rfl⟩:=hu
 obtain⟨l,hl⟩:=qE (lyP t a)
 have hsp:=(cor_P t a).spt
 have hnx:=nx_P t a
 simp only[wtP]at hwt
 rw[←hl]at hsp hnx
 obtain⟨W0,hW0⟩:=qE ((w.alloc (.cells zsA 183)).alloc (.cells #[.iface ux (.agg uc),.bool o,.bool true] 219):World)
 have HW0:Hid (BoxAt W0 w.heap.size 183 8 w.heap.size zsA.toList∧BoxAt W0 w.heap.size 219 3 (w.heap.size+1) [.iface ux (.agg uc),.bool o,.bool true]∧Below w.heap.size w W0∧MtrI W0 base M T G cp a E en mp):=by
  have b1:=boxAt_new w (base:=w.heap.size) (t:=183) (sz:=8) zsA (Nat.le_refl _) rfl
  have b2:=boxAt_new (w.alloc (.cells zsA 183)) (base:=w.heap.size) (t:=219) (sz:=3) #[.iface ux (.agg uc),.bool o,.bool true] (by simp) rfl
  rw[World.size_alloc]at b2
  have k0:Below w.heap.size w W0:=by rw[hW0];exact(qB).alloc (by simp) _
  refine⟨?_,by rw[hW0];exact b2,k0,h.below k0⟩
  rw[hW0];exact b1.below (qB)
 have hM0:=h.ltM
 have hG0:=h.ltG
 have hne0:=h.ne
 have HL:Hid (Calls Tryz.prog 135 #[.pointer (some ⟨M,0,none⟩),.iface ux (.agg uc)] W0 (LayR base M T G E en mp l W0)):=by
  rw[hl];exact H M T G cp a E en mp W0 HW0.2.2.2 (hw0.trans (HW0.2.2.1.mono (by omega))) hwt
 have HSp:Hid (Spt a l∧l.nx≤256∧l=lyP t a):=⟨hsp,by omega,hl⟩
 clear h H hl hsp hnx hw0
 have hAs:=asRB #[.iface ux (.agg uc),.bool o,.bool true]
 have hAs2:=asRC #[.iface ux (.agg uc),.bool o,.bool true]
 have hAs3:=asRR #[.iface ux (.agg uc),.bool o,.bool true]
 go_enter Tryz.func135,Tryz.ntmps135
 go_wp2_with fail
 have hW0':=hW0
 simp only[zsA]at hW0'
 rw[←hW0']
 clear hW0 hW0' hAs hAs2 hAs3
 refine HL.mono ?_
 rintro e w1 ⟨G1,cp1,rfl,H1⟩
 have q0:=HW0.2.2.1.size
 have hS1:=H1.2.1.size
 obtain⟨W2,hW2⟩:=qE (w1.alloc (.cells (spL l.fst l.lst).toArray 183):World)
 have k2:Below w1.heap.size w1 W2:=by rw[hW2];exact qB
 have HW2:Hid (BoxAt W2 w.heap.size 183 8 w.heap.size zsA.toList∧BoxAt W2 w.heap.size 219 3 (w.heap.size+1) [.iface ux (.agg uc),.bool o,.bool true]∧BoxAt W2 w.heap.size 183 8 w1.heap.size (spL l.fst l.lst)∧MtrI W2 base M (withT T l) G1 cp1 l.nx (withE E l) en mp∧Chg (fun k=>k=M∨k=G) w W2∧(G1=G∨w.heap.size≤G1)):=by
  refine⟨(HW0.1.chg H1.2.1 (by omega)).below k2,(HW0.2.1.chg H1.2.1 (by omega)).below k2,?_,H1.1.below k2,((Chg.of_below HW0.2.2.1).trans H1.2.1).trans (Chg.of_below k2),?_⟩
  ·rw[hW2];exact boxAt_new w1 _ (by omega) rfl
  ·rcases H1.2.2 with q|q
   ·exact .inl q
   ·exact .inr (by omega)
 have b2:W2.cell? ⟨w.heap.size+1,2,none⟩=some (.bool true):=HW2.2.1.cell (j:=2) rfl
 obtain⟨s0,s1,s2,s3,s4,s5,s6,s7⟩:=HW2.2.2.1.c8
 have g0:=HW2.2.2.1.frozen 0
 have g1:=HW2.2.2.1.frozen 1
 have g2:=HW2.2.2.1.frozen 2
 have g3:=HW2.2.2.1.frozen 3
 have g4:=HW2.2.2.1.frozen 4
 have g5:=HW2.2.2.1.frozen 5
 have g6:=HW2.2.2.1.frozen 6
 have g7:=HW2.2.2.1.frozen 7
 go_upto_region 20 with fail
 have hW2':=hW2
 simp only[spL]at hW2'
 rw[←hW2']
 clear hW2 hW2'
 have HCo:Hid (Calls Tryz.prog 156 #[.pointer (some ⟨M,0,none⟩),psV l.lst,psV l.fst] W2 fun e w'=>(∃v,e=.returned v)∧Hid (MtrI w' base M (withT T l) G1 cp1 l.nx (fun p q=>withE E l p q || (l.lst p && l.fst q)) en mp∧Chg (fun k=>k=G1) W2 w')):=connect_core l.lst l.fst W2 HW2.2.2.2.1 (fun p hp=>(HSp.1.lst p hp).2) HSp.2.1
 go_wp2_with fail
 refine HCo.mono ?_
 rintro e w5 ⟨⟨v,rfl⟩,H5⟩
 have hGs:¬G1=w.heap.size:=fun q=>own_apart HW2.2.2.2.1.row HW2.1 (by decide) G1 rfl (by rw[q];rfl)
 have hGt:¬G1=w1.heap.size:=fun q=>own_apart HW2.2.2.2.1.row HW2.2.2.1 (by decide) G1 rfl (by rw[q];rfl)
 have HB5:=HW2.1.chg H5.2 (fun q=>hGs q.symm)
 have HC5:=HW2.2.2.1.chg H5.2 (fun q=>hGt q.symm)
 clear s0 g0
 clear s1 g1
 clear s2 g2
 clear s3 g3
 clear s4 g4
 clear s5 g5
 clear s6 g6
 clear s7 g7
 obtain⟨r0,r1,r2,r3,r4,r5,r6,r7⟩:=HB5.c8
 have f0:=HB5.frozen 0
 have f1:=HB5.frozen 1
 have f2:=HB5.frozen 2
 have f3:=HB5.frozen 3
 have f4:=HB5.frozen 4
 have f5:=HB5.frozen 5
 have f6:=HB5.frozen 6
 have f7:=HB5.frozen 7
 obtain⟨s0,s1,s2,s3,s4,s5,s6,s7⟩:=HC5.c8
 have g0:=HC5.frozen 0
 have g1:=HC5.frozen 1
 have g2:=HC5.frozen 2
 have g3:=HC5.frozen 3
 have g4:=HC5.frozen 4
 have g5:=HC5.frozen 5
 have g6:=HC5.frozen 6
 have g7:=HC5.frozen 7
 have HF:Hid (LayR base M T G E en mp (lyP (.rep t o true) a) w (.returned (spV l.fst l.lst)) (setSp w5 w.heap.size l.fst l.lst)∧BoxAt (setSp w5 w.heap.size l.fst l.lst) w.heap.size 183 8 w.heap.size (spL l.fst l.lst)):=by
  have hx:Chg (fun k=>k=M∨k=G) w w5:=by
   have h2:=HW2.2.2.2.2.1
   have h3:=H5.2
   refine⟨h3.os.trans h2.os,h3.tape.trans h2.tape,h3.output.trans h2.output,Nat.le_trans h2.size h3.size,fun j hj hn=>(h3.block j (Nat.lt_of_lt_of_le hj h2.size) (fun q=>?_)).trans (h2.block j hj hn)⟩
   rcases HW2.2.2.2.2.2 with z|z
   ·exact hn (.inr (by omega))
   ·omega
  obtain⟨f1,f2,f3⟩:=lay_fin H5.1 HB5 hx l.fst l.lst
  have e1:(lyP (.rep t o true) a)=l.rep true:=by rw[HSp.2.2];rfl
  rw[e1]
  refine⟨⟨G1,cp1,rfl,⟨f1.iff (fun b p _ _=>rfl) (fun q p _ _=>?_) (fun p hp q=>?_),f3,HW2.2.2.2.2.2⟩⟩,f2⟩
  ·simp[withE,Lay.rep,Bool.or_assoc]
  ·have:=f1.new p hp q
   simpa [withE,Lay.rep,Bool.or_assoc]using this
 clear HB5 HC5
 exact zzQ35
set_option maxHeartbeats 4000000 in
theorem lay_rep_false {base:Nat} {w0:World} {t:Pat} {u:Value} (hu:∃X c,u=.iface X (.agg c)) (H:LyC base w0 t u) (o:Bool):LyC base w0 (.rep t o false) (.iface 219 (.agg #[u,.bool o,.bool false])):=by
 intro M T G cp a E en mp w h hw0 hwt
 obtain⟨ux,uc,rfl⟩:=hu
 obtain⟨l,hl⟩:=qE (lyP t a)
 have hsp:=(cor_P t a).spt
 have hnx:=nx_P t a
 simp only[wtP]at hwt
 rw[←hl]at hsp hnx
 obtain⟨W0,hW0⟩:=qE ((w.alloc (.cells zsA 183)).alloc (.cells #[.iface ux (.agg uc),.bool o,.bool false] 219):World)
 have HW0:Hid (BoxAt W0 w.heap.size 183 8 w.heap.size zsA.toList∧BoxAt W0 w.heap.size 219 3 (w.heap.size+1) [.iface ux (.agg uc),.bool o,.bool false]∧Below w.heap.size w W0∧MtrI W0 base M T G cp a E en mp):=by
  have b1:=boxAt_new w (base:=w.heap.size) (t:=183) (sz:=8) zsA (Nat.le_refl _) rfl
  have b2:=boxAt_new (w.alloc (.cells zsA 183)) (base:=w.heap.size) (t:=219) (sz:=3) #[.iface ux (.agg uc),.bool o,.bool false] (by simp) rfl
  rw[World.size_alloc]at b2
  have k0:Below w.heap.size w W0:=by rw[hW0];exact(qB).alloc (by simp) _
  refine⟨?_,by rw[hW0];exact b2,k0,h.below k0⟩
  rw[hW0];exact b1.below (qB)
 have hM0:=h.ltM
 have hG0:=h.ltG
 have hne0:=h.ne
 have HL:Hid (Calls Tryz.prog 135 #[.pointer (some ⟨M,0,none⟩),.iface ux (.agg uc)] W0 (LayR base M T G E en mp l W0)):=by
  rw[hl];exact H M T G cp a E en mp W0 HW0.2.2.2 (hw0.trans (HW0.2.2.1.mono (by omega))) hwt
 have HSp:Hid (Spt a l∧l.nx≤256∧l=lyP t a):=⟨hsp,by omega,hl⟩
 clear h H hl hsp hnx hw0
 have hAs:=asRB #[.iface ux (.agg uc),.bool o,.bool false]
 have hAs2:=asRC #[.iface ux (.agg uc),.bool o,.bool false]
 have hAs3:=asRR #[.iface ux (.agg uc),.bool o,.bool false]
 go_enter Tryz.func135,Tryz.ntmps135
 go_wp2_with fail
 have hW0':=hW0
 simp only[zsA]at hW0'
 rw[←hW0']
 clear hW0 hW0' hAs hAs2 hAs3
 refine HL.mono ?_
 rintro e w1 ⟨G1,cp1,rfl,H1⟩
 have q0:=HW0.2.2.1.size
 have hS1:=H1.2.1.size
 obtain⟨W2,hW2⟩:=qE (w1.alloc (.cells (spL l.fst l.lst).toArray 183):World)
 have k2:Below w1.heap.size w1 W2:=by rw[hW2];exact qB
 have HW2:Hid (BoxAt W2 w.heap.size 183 8 w.heap.size zsA.toList∧BoxAt W2 w.heap.size 219 3 (w.heap.size+1) [.iface ux (.agg uc),.bool o,.bool false]∧BoxAt W2 w.heap.size 183 8 w1.heap.size (spL l.fst l.lst)∧MtrI W2 base M (withT T l) G1 cp1 l.nx (withE E l) en mp∧Chg (fun k=>k=M∨k=G) w W2∧(G1=G∨w.heap.size≤G1)):=by
  refine⟨(HW0.1.chg H1.2.1 (by omega)).below k2,(HW0.2.1.chg H1.2.1 (by omega)).below k2,?_,H1.1.below k2,((Chg.of_below HW0.2.2.1).trans H1.2.1).trans (Chg.of_below k2),?_⟩
  ·rw[hW2];exact boxAt_new w1 _ (by omega) rfl
  ·rcases H1.2.2 with q|q
   ·exact .inl q
   ·exact .inr (by omega)
 have b2:W2.cell? ⟨w.heap.size+1,2,none⟩=some (.bool false):=HW2.2.1.cell (j:=2) rfl
 obtain⟨s0,s1,s2,s3,s4,s5,s6,s7⟩:=HW2.2.2.1.c8
 have g0:=HW2.2.2.1.frozen 0
 have g1:=HW2.2.2.1.frozen 1
 have g2:=HW2.2.2.1.frozen 2
 have g3:=HW2.2.2.1.frozen 3
 have g4:=HW2.2.2.1.frozen 4
 have g5:=HW2.2.2.1.frozen 5
 have g6:=HW2.2.2.1.frozen 6
 have g7:=HW2.2.2.1.frozen 7
 go_upto_region 20 with fail
 have hW2':=hW2
 simp only[spL]at hW2'
 rw[←hW2']
 clear hW2 hW2'
 have HB5:=HW2.1
 have HC5:=HW2.2.2.1
 clear s0 g0
 clear s1 g1
 clear s2 g2
 clear s3 g3
 clear s4 g4
 clear s5 g5
 clear s6 g6
 clear s7 g7
 obtain⟨r0,r1,r2,r3,r4,r5,r6,r7⟩:=HB5.c8
 have f0:=HB5.frozen 0
 have f1:=HB5.frozen 1
 have f2:=HB5.frozen 2
 have f3:=HB5.frozen 3
 have f4:=HB5.frozen 4
 have f5:=HB5.frozen 5
 have f6:=HB5.frozen 6
 have f7:=HB5.frozen 7
 obtain⟨s0,s1,s2,s3,s4,s5,s6,s7⟩:=HC5.c8
 have g0:=HC5.frozen 0
 have g1:=HC5.frozen 1
 have g2:=HC5.frozen 2
 have g3:=HC5.frozen 3
 have g4:=HC5.frozen 4
 have g5:=HC5.frozen 5
 have g6:=HC5.frozen 6
 have g7:=HC5.frozen 7
 have HF:Hid (LayR base M T G E en mp (lyP (.rep t o false) a) w (.returned (spV l.fst l.lst)) (setSp W2 w.heap.size l.fst l.lst)∧BoxAt (setSp W2 w.heap.size l.fst l.lst) w.heap.size 183 8 w.heap.size (spL l.fst l.lst)):=by
  obtain⟨f1,f2,f3⟩:=lay_fin HW2.2.2.2.1 HB5 HW2.2.2.2.2.1 l.fst l.lst
  have e1:(lyP (.rep t o false) a)=l.rep false:=by rw[HSp.2.2];rfl
  rw[e1]
  refine⟨⟨G1,cp1,rfl,⟨f1.iff (fun b p _ _=>rfl) (fun q p _ _=>?_) (fun p hp q=>?_),f3,HW2.2.2.2.2.2⟩⟩,f2⟩
  ·simp[withE,Lay.rep]
  ·have:=f1.new p hp q
   simpa [withE,Lay.rep]using this
 clear HB5 HC5
 exact zzQ35
theorem lay_rep {base:Nat} {w0:World} {t:Pat} {u:Value} (hu:∃X c,u=.iface X (.agg c)) (H:LyC base w0 t u) (o r:Bool):LyC base w0 (.rep t o r) (.iface 219 (.agg #[u,.bool o,.bool r])):=by
 cases r with
 |true=>exact lay_rep_true hu H o
 |false=>exact lay_rep_false hu H o
def NulV (w:World) (t:Pat) (v:Value):Prop:=∃(T:Nat) (c:Array Value) (f:Nat),v=.iface T (.agg c)∧
 ((T=211∧f=205)∨(T=217∧f=206)∨(T=219∧f=207)∨(T=142∧f=136))∧
 Hid (∀w',Below w.heap.size w w'→Calls Tryz.prog f #[.agg c] w' fun e w''=>e=.returned (.bool (nulB t))∧Below w'.heap.size w' w'')
set_option maxHeartbeats 1000000 in
theorem nul_byte (w:World) (b:UInt8):NulV w (.byte b) (byteV b):=by
 refine⟨_,_,_,rfl,.inl ⟨rfl,rfl⟩,fun w' _=>?_⟩
 go_enter Tryz.func205,Tryz.ntmps205
 go_wp2_with fail
 go_ret
 exact⟨rfl,qB⟩
set_option maxHeartbeats 1000000 in
theorem nul_cls (w:World) (f:UInt8→Bool):NulV w (.cls f) (clsV f):=by
 refine⟨_,_,_,rfl,.inr (.inl ⟨rfl,rfl⟩),fun w' _=>?_⟩
 go_enter Tryz.func206,Tryz.ntmps206
 go_wp2_with fail
 go_ret
 exact⟨rfl,qB⟩
set_option maxHeartbeats 4000000 in
theorem nul_rep {w:World} {t:Pat} {u:Value} (h:NulV w t u) (o r:Bool):NulV w (.rep t o r) (.iface 219 (.agg #[u,.bool o,.bool r])):=by
 refine⟨_,_,_,rfl,.inr (.inr (.inl ⟨rfl,rfl⟩)),fun w' hw=>?_⟩
 obtain⟨T,c,f,rfl,ht,HC⟩:=h
 have hb:∀o:Obj,Below w'.heap.size w' (w'.alloc o):=fun o=>qB
 have HB:Hid (∀o:Obj,Below w'.heap.size w' (w'.alloc o)∧Below w.heap.size w (w'.alloc o)):=fun o=>⟨hb o,hw.trans ((hb o).mono hw.size)⟩
 clear hb
 cases o with
 |true=>
  go_enter Tryz.func207,Tryz.ntmps207
  go_wp2_with fail
  go_ret
  exact⟨by simp[nulB],(HB.out _).1⟩
 |false=>
  rcases ht with⟨rfl,rfl⟩|⟨rfl,rfl⟩|⟨rfl,rfl⟩|⟨rfl,rfl⟩
  all_goals go_enter Tryz.func207,Tryz.ntmps207
  all_goals go_wp2_with fail
  all_goals refine(HC.out _ (HB.out _).2).mono ?_
  all_goals rintro e w1 ⟨rfl,hb1⟩
  all_goals go_wp2_with fail
  all_goals go_ret
  all_goals exact⟨by simp[nulB],(HB.out _).1.trans (hb1.mono (HB.out _).1.size)⟩
theorem nulS_all:∀ts:List Pat,nulS ts=ts.all nulB
 | []=>rfl
 |t::ts=>by simp[nulS,nulS_all ts]
theorem nulA_any:∀os:List (List Pat),nulA os=os.any nulS
 | []=>rfl
 |t::ts=>by simp[nulA,nulA_any ts]
def NulQ (w:World) (ts:List Pat) (u:Value):Prop:=∃(a:Option Addr) (n c:Nat),u=.slice a n c∧Hid (∀w',Below w.heap.size w w'→Calls Tryz.prog 159 #[.agg #[.slice a n c]] w' fun e w''=>e=.returned (.bool (nulS ts))∧Below w'.heap.size w' w'')
set_option maxHeartbeats 4000000 in
theorem nul_seq {w:World} {lo:Nat→Prop} {ts:List Pat} {u:Value} (h:SeqIs (fun t v=>wtP t≤500→NulV w t v) w lo ts u) (hwt:wtS ts≤500):NulQ w ts u:=by
 rcases h with⟨rfl,rfl⟩|⟨g,cp,us,rfl,hul,hV,hN⟩
 ·refine⟨none,0,0,rfl,fun w' hw=>?_⟩
  go_enter Tryz.func159,Tryz.ntmps159
  go_wp2_with fail
  go_loopw[8] (fun iv wr=>iv=.int .i64 0∧Hid (Below w'.heap.size w' wr)) (fun _ _=>0)
  case atStart=>exact⟨rfl,qB⟩
  case round=>
   obtain⟨rfl,HB⟩:=hrel
   go_wp2_with fail
   go_ret
   exact⟨rfl,HB.out⟩
 ·refine⟨_,_,_,rfl,fun w' hw=>?_⟩
  obtain⟨n,hn⟩:=qE ts.length
  have hn5:n≤500:=by have:=wtS_len ts;omega
  have HH:Hid (n=ts.length∧us.length=n∧ValsAt w lo g us∧Below w.heap.size w w'∧(∀(i:Nat) x t,us[i]?=some x→ts[i]?=some t→NulV w t x)):=⟨hn,by rw[hn];exact hul,hV,hw,fun i x t hx ht=>hN i x t hx ht (Nat.le_trans (wtS_mem (List.mem_of_getElem? ht)) hwt)⟩
  rw[←hn]
  clear hul hV hN hw hn
  go_enter Tryz.func159,Tryz.ntmps159
  go_wp2_with fail
  go_loopw[8] (fun iv wr=>∃k:Nat,k≤n∧iv=.int .i64 k∧Hid (Below w'.heap.size w' wr∧(ts.take k).all nulB=true)) (fun iv _=>n-(intOf iv).toNat)
  case atStart=>exact⟨0,Nat.zero_le _,rfl,qB,by simp⟩
  case round=>
   obtain⟨k,hk,rfl,HB⟩:=hrel
   by_cases hlt:k<n
   ·have zk:(k:Int)<(n:Int):=by omega
    obtain⟨x,hx⟩:∃x,us[k]?=some x:=⟨_,List.getElem?_eq_getElem (by rw[HH.2.1];exact hlt)⟩
    obtain⟨t,ht⟩:∃t,ts[k]?=some t:=⟨_,List.getElem?_eq_getElem (by rw[←HH.1];exact hlt)⟩
    obtain⟨T,c,f,rfl,hT,HC⟩:=HH.2.2.2.2 k x t hx ht
    have hbw:Below w.heap.size w wr:=HH.2.2.2.1.trans (HB.1.mono HH.2.2.2.1.size)
    have c0:wr.cell? ⟨g,k,none⟩=some (.iface T (.agg c)):=by rw[hbw.cell (p:=⟨g,k,none⟩) HH.2.2.1.lt];exact HH.2.2.1.val k _ hx
    have HX:Hid (ts[k]?=some t∧∀w2,Below wr.heap.size wr w2→Below w.heap.size w w2):=⟨ht,fun w2 h2=>hbw.trans (h2.mono hbw.size)⟩
    clear hx ht hbw
    cases hnb:nulB t with
    |true=>
     have HN:Hid ((ts.take (k+1)).all nulB=true):=by
      show _=_
      rw[List.take_add_one,HX.1,List.all_append,HB.2]
      simp[hnb]
     rw[hnb]at HC
     clear hnb
     rcases hT with⟨rfl,rfl⟩|⟨rfl,rfl⟩|⟨rfl,rfl⟩|⟨rfl,rfl⟩
     all_goals go_wp2_with fail
     all_goals refine(HC.out _ (HX.2 _ (Below.refl _ _))).mono ?_
     all_goals rintro e w1 ⟨rfl,hb1⟩
     all_goals go_wp2_with fail
     all_goals refine⟨⟨k+1,by omega,by go_num,HB.1.trans (hb1.mono HB.1.size),HN.out⟩,?_⟩
     all_goals go_light
     all_goals simp[intOf]
     all_goals omega
    |false=>
     have HN:Hid (nulS ts=false):=by
      show _=_
      rw[nulS_all,List.all_eq_false]
      exact⟨t,List.mem_of_getElem? HX.1,by simp[hnb]⟩
     rw[hnb]at HC
     clear hnb
     rcases hT with⟨rfl,rfl⟩|⟨rfl,rfl⟩|⟨rfl,rfl⟩|⟨rfl,rfl⟩
     all_goals go_wp2_with fail
     all_goals refine(HC.out _ (HX.2 _ (Below.refl _ _))).mono ?_
     all_goals rintro e w1 ⟨rfl,hb1⟩
     all_goals go_wp2_with fail
     all_goals go_ret
     all_goals exact⟨by rw[HN.out];rfl,HB.1.trans (hb1.mono HB.1.size)⟩
   ·obtain rfl:k=n:=by omega
    have zk:¬(k:Int)<(k:Int):=by omega
    go_wp2_with fail
    go_ret
    refine⟨?_,HB.1⟩
    have:=HB.2
    rw[HH.1,List.take_length]at this
    rw[nulS_all,this]
    rfl
set_option maxHeartbeats 4000000 in
theorem nul_alt {w:World} {lo:Nat→Prop} {os:List (List Pat)} {u:Value} (h:AltIs (fun t v=>wtP t≤500→NulV w t v) w lo os u) (hwt:wtA os≤500):∃(a:Option Addr) (n c:Nat),u=.slice a n c∧Hid (∀w',Below w.heap.size w w'→Calls Tryz.prog 136 #[.agg #[.slice a n c]] w' fun e w''=>e=.returned (.bool (nulA os))∧Below w'.heap.size w' w''):=by
 obtain⟨g,cp,us,rfl,hul,hV,hN⟩:=h
 refine⟨_,_,_,rfl,fun w' hw=>?_⟩
 obtain⟨n,hn⟩:=qE os.length
 have hn5:n≤500:=by have:=wtA_len os;omega
 have HH:Hid (n=os.length∧us.length=n∧ValsAt w lo g us∧Below w.heap.size w w'∧(∀(i:Nat) x t,us[i]?=some x→os[i]?=some t→NulQ w t x)):=⟨hn,by rw[hn];exact hul,hV,hw,fun i x t hx ht=>nul_seq (hN i x t hx ht) (Nat.le_trans (wtA_mem (List.mem_of_getElem? ht)) hwt)⟩
 rw[←hn]
 clear hul hV hN hw hn
 go_enter Tryz.func136,Tryz.ntmps136
 go_wp2_with fail
 go_loopw[8] (fun iv wr=>∃k:Nat,k≤n∧iv=.int .i64 k∧Hid (Below w'.heap.size w' wr∧(os.take k).any nulS=false)) (fun iv _=>n-(intOf iv).toNat)
 case atStart=>exact⟨0,Nat.zero_le _,rfl,qB,by simp⟩
 case round=>
  obtain⟨k,hk,rfl,HB⟩:=hrel
  by_cases hlt:k<n
  ·have zk:(k:Int)<(n:Int):=by omega
   obtain⟨x,hx⟩:∃x,us[k]?=some x:=⟨_,List.getElem?_eq_getElem (by rw[HH.2.1];exact hlt)⟩
   obtain⟨t,ht⟩:∃t,os[k]?=some t:=⟨_,List.getElem?_eq_getElem (by rw[←HH.1];exact hlt)⟩
   obtain⟨sa,sn,sc,rfl,HC⟩:=HH.2.2.2.2 k x t hx ht
   have hbw:Below w.heap.size w wr:=HH.2.2.2.1.trans (HB.1.mono HH.2.2.2.1.size)
   have c0:wr.cell? ⟨g,k,none⟩=some (.slice sa sn sc):=by rw[hbw.cell (p:=⟨g,k,none⟩) HH.2.2.1.lt];exact HH.2.2.1.val k _ hx
   have HX:Hid (os[k]?=some t∧∀w2,Below wr.heap.size wr w2→Below w.heap.size w w2):=⟨ht,fun w2 h2=>hbw.trans (h2.mono hbw.size)⟩
   have HAl:Hid (∀o:Obj,Below wr.heap.size wr (wr.alloc o)):=fun o=>qB
   clear hx ht hbw
   cases hnb:nulS t with
   |false=>
    have HN:Hid ((os.take (k+1)).any nulS=false):=by
     show _=_
     rw[List.take_add_one,HX.1,List.any_append,HB.2]
     simp[hnb]
    rw[hnb]at HC
    clear hnb
    go_wp2_with fail
    refine(HC.out _ (HX.2 _ (HAl.out _))).mono ?_
    rintro e w1 ⟨rfl,hb1⟩
    have HB1:Hid (Below w'.heap.size w' w1):=HB.1.trans (((HAl.out _).trans (hb1.mono (HAl.out _).size)).mono HB.1.size)
    clear hb1
    go_wp2_with fail
    refine⟨⟨k+1,by omega,by go_num,HB1.out,HN.out⟩,?_⟩
    go_light
    simp[intOf]
    omega
   |true=>
    have HN:Hid (nulA os=true):=by
     show _=_
     rw[nulA_any,List.any_eq_true]
     exact⟨t,List.mem_of_getElem? HX.1,hnb⟩
    rw[hnb]at HC
    clear hnb
    go_wp2_with fail
    refine(HC.out _ (HX.2 _ (HAl.out _))).mono ?_
    rintro e w1 ⟨rfl,hb1⟩
    have HB1:Hid (Below w'.heap.size w' w1):=HB.1.trans (((HAl.out _).trans (hb1.mono (HAl.out _).size)).mono HB.1.size)
    clear hb1
    go_wp2_with fail
    go_ret
    exact⟨by rw[HN.out];rfl,HB1.out⟩
  ·obtain rfl:k=n:=by omega
   have zk:¬(k:Int)<(k:Int):=by omega
   go_wp2_with fail
   go_ret
   refine⟨?_,HB.1⟩
   have:=HB.2
   rw[HH.1,List.take_length]at this
   rw[nulA_any,this]
   rfl
theorem nul_all:∀(n:Nat) {w:World} {lo:Nat→Prop} {t:Pat} {v:Value},NodeIs n w lo t v→wtP t≤500→NulV w t v
 |0,_,_,_,_,h,_=>h.elim
 |n+1,w,lo,.byte b,v,h,_=>by rw[show v=byteV b from h];exact nul_byte w b
 |n+1,w,lo,.cls f,v,h,_=>by rw[show v=clsV f from h];exact nul_cls w f
 |n+1,w,lo,.rep t o r,v,⟨u,h1,h2⟩,hw=>by rw[h1];exact nul_rep (nul_all n h2 (by simpa only[wtP]using hw)) o r
 |n+1,w,lo,.alt os,v,⟨u,h1,h2⟩,hw=>by
  obtain⟨a,m,c,rfl,HC⟩:=nul_alt (h2.mono (M:=fun t v=>wtP t≤500→NulV w t v) (fun t v q=>nul_all n q) (fun _ _ q=>q)) (by simp only[wtP]at hw;omega)
  exact⟨_,_,_,h1,.inr (.inr (.inr ⟨rfl,rfl⟩)),fun w' hw=>by have:=HC.out w' hw;simpa only[nulB]using this⟩
theorem lyS_snoc:∀(ts:List Pat) (t:Pat) (em:Bool) (g:Lay),lyS (ts++ [t]) em g=(lyS ts em g).seq (em && nulS ts) (nulB t) (lyP t (lyS ts em g).nx)
 | [],t,em,g=>by simp[lyS,nulS]
 |s::ts,t,em,g=>by
  simp only[List.cons_append,lyS,lyS_snoc ts t,nulS,Bool.and_assoc]
theorem nulS_snoc (ts:List Pat) (t:Pat):nulS (ts++ [t])=(nulS ts && nulB t):=by
 rw[nulS_all,nulS_all,List.all_append];simp
theorem wtS_app:∀(l m:List Pat),wtS (l++m)=wtS l+wtS m
 | [],m=>by simp[wtS]
 |t::l,m=>by simp only[List.cons_append,wtS,wtS_app l m];omega
structure SqB (w X:World) (nt:Nat) (uv:Value) (base M:Nat) (T:Nat→PS) (G cp a:Nat) (E:Nat→PS) (en:PS) (mp:Nat) (F L:PS) (G0:Nat):Prop where
 mtr:MtrI X base M T G cp a E en mp
 node:BoxAt X w.heap.size nt 1 w.heap.size [uv]
 ans:BoxAt X w.heap.size 183 8 (w.heap.size+1) zsA.toList
 sofar:BoxAt X w.heap.size 183 8 (w.heap.size+1+1) (spL F L)
 chg:Chg (fun k=>k=M∨k=G0) w X
 at_:G=G0∨w.heap.size≤G
section
variable {w X X':World} {nt:Nat} {uv:Value} {base M:Nat} {T:Nat→PS} {G cp a:Nat} {E:Nat→PS} {en:PS} {mp:Nat} {F L:PS} {G0:Nat}
theorem SqB.below (h:SqB w X nt uv base M T G cp a E en mp F L G0) (hb:Below X.heap.size X X'):SqB w X' nt uv base M T G cp a E en mp F L G0:=
 ⟨h.mtr.below hb,h.node.below hb,h.ans.below hb,h.sofar.below hb,h.chg.trans (Chg.of_below hb),h.at_⟩
theorem SqB.gs (h:SqB w X nt uv base M T G cp a E en mp F L G0) (hnt:nt≠178):¬G=w.heap.size∧¬G=w.heap.size+1∧¬G=w.heap.size+1+1:=
 ⟨fun q=>own_apart h.mtr.row h.node (fun e=>hnt e.symm) G rfl (by rw[q];rfl),fun q=>own_apart h.mtr.row h.ans (by decide) G rfl (by rw[q];rfl),fun q=>own_apart h.mtr.row h.sofar (by decide) G rfl (by rw[q];rfl)⟩
theorem SqB.laid (h:SqB w X nt uv base M T G cp a E en mp F L G0) (hnt:nt≠178) (hM:M<w.heap.size) {l:Lay} {G1 cp1:Nat} (hm:MtrI X' base M (withT T l) G1 cp1 l.nx (withE E l) en mp) (hc:Chg (fun k=>k=M∨k=G) X X') (ha:G1=G∨X.heap.size≤G1):SqB w X' nt uv base M (withT T l) G1 cp1 l.nx (withE E l) en mp F L G0:=by
 obtain⟨g1,g2,g3⟩:=h.gs hnt
 refine⟨hm,h.node.chg hc (by omega),h.ans.chg hc (by omega),h.sofar.chg hc (by omega),?_,?_⟩
 ·refine⟨hc.os.trans h.chg.os,hc.tape.trans h.chg.tape,hc.output.trans h.chg.output,Nat.le_trans h.chg.size hc.size,fun j hj hn=>(hc.block j (Nat.lt_of_lt_of_le hj h.chg.size) (fun q=>?_)).trans (h.chg.block j hj hn)⟩
  rcases q with q|q
  ·exact hn (.inl q)
  ·rcases h.at_ with z|z
   ·exact hn (.inr (by omega))
   ·omega
 ·have:=h.chg.size
  rcases ha with q|q
  ·rw[q];exact h.at_
  ·exact .inr (by omega)
theorem SqB.conn (h:SqB w X nt uv base M T G cp a E en mp F L G0) (hnt:nt≠178) {E':Nat→PS} (hm:MtrI X' base M T G cp a E' en mp) (hc:Chg (fun k=>k=G) X X'):SqB w X' nt uv base M T G cp a E' en mp F L G0:=by
 obtain⟨g1,g2,g3⟩:=h.gs hnt
 refine⟨hm,h.node.chg hc (by omega),h.ans.chg hc (by omega),h.sofar.chg hc (by omega),?_,h.at_⟩
 refine⟨hc.os.trans h.chg.os,hc.tape.trans h.chg.tape,hc.output.trans h.chg.output,Nat.le_trans h.chg.size hc.size,fun j hj hn=>(hc.block j (Nat.lt_of_lt_of_le hj h.chg.size) (fun q=>?_)).trans (h.chg.block j hj hn)⟩
 rcases h.at_ with z|z
 ·exact hn (.inr (by omega))
 ·omega
theorem SqB.set (h:SqB w X nt uv base M T G cp a E en mp F L G0) (hM:M<w.heap.size) (hnt:nt≠178) {o:Nat} (S:PS) {F' L':PS} (he:setL4 (spL F L) o S=spL F' L') (hlow:base≤w.heap.size):SqB w (set4 X (w.heap.size+1+1) o S) nt uv base M T G cp a E en mp F' L' G0:=by
 obtain⟨g1,g2,g3⟩:=h.gs hnt
 have hc:Chg (fun k=>k=w.heap.size+1+1) X (set4 X (w.heap.size+1+1) o S):=chg_set4 X _ _ _ rfl
 refine⟨h.mtr.chg hc (by omega) g3 (fun k q=>by omega),h.node.chg hc (by omega),h.ans.chg hc (by omega),?_,chg_own h.chg (hc.mono (fun k q=>by omega)),h.at_⟩
 have h1:=own_set4 h.sofar o S
 rw[he]at h1
 exact h1
end
theorem set_first (F L S:PS):setL4 (spL F L) 0 S=spL S L:=rfl
theorem set_last (F L S:PS):setL4 (spL F L) 4 S=spL F S:=rfl
def LqC (base:Nat) (w0:World) (ts:List Pat) (u:Value):Prop:=∃(sa:Option Addr) (sn sc:Nat),u=.slice sa sn sc∧∀(M:Nat) (T:Nat→PS) (G cp a:Nat) (E:Nat→PS) (en:PS) (mp:Nat) (w:World),MtrI w base M T G cp a E en mp→Below base w0 w→a+wtS ts≤256→
 Calls Tryz.prog 157 #[.pointer (some ⟨M,0,none⟩),.agg #[.slice sa sn sc]] w (LayR base M T G E en mp (lyS ts true (Lay.no a)) w)
def SqI (w X:World) (uv:Value) (base M:Nat) (T:Nat→PS) (G cp:Nat) (E:Nat→PS) (en:PS) (mp:Nat) (g:Lay) (G0:Nat):Prop:=SqB w X 206 uv base M (withT T g) G cp g.nx (withE E g) en mp g.fst g.lst G0
set_option maxHeartbeats 4000000 in
theorem laySeq_nil (base:Nat) (w0:World):LqC base w0 [] (.slice none 0 0):=by
 refine⟨none,0,0,rfl,fun M T G cp a E en mp w h hw0 hwt=>?_⟩
 obtain⟨W0,hW0⟩:=qE (((w.alloc (.cells #[.slice none 0 0] 206)).alloc (.cells zsA 183)).alloc (.cells zsA 183):World)
 have hM0:=h.ltM
 have hlow:=Nat.le_of_lt (Nat.lt_of_le_of_lt h.ltM.1 h.ltM.2)
 have HGb:Hid (base≤G):=h.ltG.1
 have HW0:Hid (SqB w W0 206 (.slice none 0 0) base M (withT T (Lay.no a)) G cp a (withE E (Lay.no a)) en mp (Lay.no a).fst (Lay.no a).lst G):=by
  have b1:=boxAt_new w (base:=w.heap.size) (t:=206) (sz:=1) #[.slice none 0 0] (Nat.le_refl _) rfl
  have b2:=boxAt_new (w.alloc (.cells #[.slice none 0 0] 206)) (base:=w.heap.size) (t:=183) (sz:=8) zsA (by simp) rfl
  have b3:=boxAt_new ((w.alloc (.cells #[.slice none 0 0] 206)).alloc (.cells zsA 183)) (base:=w.heap.size) (t:=183) (sz:=8) zsA (by simp;omega) rfl
  rw[World.size_alloc]at b2
  rw[World.size_alloc,World.size_alloc]at b3
  have k1:∀(x:World) (o:Obj),Below x.heap.size x (x.alloc o):=fun x o=>qB
  have k0:Below w.heap.size w W0:=by rw[hW0];exact((qB).alloc (by simp) _).alloc (by simp;omega) _
  have hz:spL (Lay.no a).fst (Lay.no a).lst=zsA.toList:=by
   show spL sNo sNo=_
   simp only[spL,wdN_no];rfl
  refine⟨(h.below k0).iff (fun b p _ _=>by simp[withT,Lay.no]) (fun q p _ _=>by simp[withE,Lay.no]) (fun p hp q=>by have:=h.new p hp q;simp[withE,Lay.no,this]),?_,?_,?_,Chg.of_below k0,.inl rfl⟩
  ·rw[hW0];exact(b1.below (k1 _ _)).below (k1 _ _)
  ·rw[hW0];exact b2.below (k1 _ _)
  ·rw[hz,hW0];exact b3
 clear h
 go_enter Tryz.func157,Tryz.ntmps157
 go_wp2_with fail
 have hW0':=hW0
 simp only[zsA]at hW0'
 rw[←hW0']
 clear hW0 hW0'
 go_loopw[14] (fun iv wr=>iv=.int .i64 0∧wr=W0) (fun _ _=>0)
 case atStart=>exact⟨rfl,rfl⟩
 case round=>
  obtain⟨rfl,rfl⟩:=hrel
  have HJ:=HW0
  obtain⟨s0,s1,s2,s3,s4,s5,s6,s7⟩:=HJ.sofar.c8
  obtain⟨r0,r1,r2,r3,r4,r5,r6,r7⟩:=HJ.ans.c8
  have f0:=HJ.ans.frozen 0
  have f1:=HJ.ans.frozen 1
  have f2:=HJ.ans.frozen 2
  have f3:=HJ.ans.frozen 3
  have f4:=HJ.ans.frozen 4
  have f5:=HJ.ans.frozen 5
  have f6:=HJ.ans.frozen 6
  have f7:=HJ.ans.frozen 7
  have HF:Hid (LayR base M T G E en mp (lyS [] true (Lay.no a)) w (.returned (spV (lyS [] true (Lay.no a)).fst (lyS [] true (Lay.no a)).lst)) (setSp wr (w.heap.size+1) (lyS [] true (Lay.no a)).fst (lyS [] true (Lay.no a)).lst)∧BoxAt (setSp wr (w.heap.size+1) (lyS [] true (Lay.no a)).fst (lyS [] true (Lay.no a)).lst) w.heap.size 183 8 (w.heap.size+1) (spL (lyS [] true (Lay.no a)).fst (lyS [] true (Lay.no a)).lst)):=by
   obtain⟨f1,f2,f3⟩:=lay_fin HJ.mtr HJ.ans HJ.chg (lyS [] true (Lay.no a)).fst (lyS [] true (Lay.no a)).lst
   exact⟨⟨_,_,rfl,⟨f1,f3,HJ.at_⟩⟩,f2⟩
  go_wp2_with fail
  exact bodyPost_ret (v:=spV (lyS [] true (Lay.no a)).fst (lyS [] true (Lay.no a)).lst) (span_res157 (base:=w.heap.size) (g:=w.heap.size+1) rfl HF.2) rfl HF.1
set_option maxHeartbeats 8000000 in
theorem laySeq_some {base:Nat} {w0:World} {lo:Nat→Prop} {ts:List Pat} {g0 cp0:Nat} {us:List Value} (hul:us.length=ts.length) (hV:ValsAt w0 lo g0 us) (hlo:g0<base) (hN:∀(i:Nat) x t,us[i]?=some x→ts[i]?=some t→LyC base w0 t x∧NulV w0 t x) (hw5:base=w0.heap.size):LqC base w0 ts (.slice (some ⟨g0,0,none⟩) ts.length cp0):=by
 refine⟨_,_,_,rfl,fun M T G cp a E en mp w h hw0 hwt=>?_⟩
 obtain⟨n,hn⟩:=qE ts.length
 have hn5:n≤256:=by have:=wtS_len ts;omega
 rw[←hn]
 obtain⟨W0,hW0⟩:=qE (((w.alloc (.cells #[.slice (some ⟨g0,0,none⟩) n cp0] 206)).alloc (.cells zsA 183)).alloc (.cells zsA 183):World)
 have hM0:=h.ltM
 have hlow:=Nat.le_of_lt (Nat.lt_of_le_of_lt h.ltM.1 h.ltM.2)
 have HGb:Hid (base≤G):=h.ltG.1
 have HW0:Hid (SqB w W0 206 (.slice (some ⟨g0,0,none⟩) n cp0) base M (withT T (Lay.no a)) G cp a (withE E (Lay.no a)) en mp (Lay.no a).fst (Lay.no a).lst G):=by
  have b1:=boxAt_new w (base:=w.heap.size) (t:=206) (sz:=1) #[.slice (some ⟨g0,0,none⟩) n cp0] (Nat.le_refl _) rfl
  have b2:=boxAt_new (w.alloc (.cells #[.slice (some ⟨g0,0,none⟩) n cp0] 206)) (base:=w.heap.size) (t:=183) (sz:=8) zsA (by simp) rfl
  have b3:=boxAt_new ((w.alloc (.cells #[.slice (some ⟨g0,0,none⟩) n cp0] 206)).alloc (.cells zsA 183)) (base:=w.heap.size) (t:=183) (sz:=8) zsA (by simp;omega) rfl
  rw[World.size_alloc]at b2
  rw[World.size_alloc,World.size_alloc]at b3
  have k1:∀(x:World) (o:Obj),Below x.heap.size x (x.alloc o):=fun x o=>qB
  have k0:Below w.heap.size w W0:=by rw[hW0];exact((qB).alloc (by simp) _).alloc (by simp;omega) _
  have hz:spL (Lay.no a).fst (Lay.no a).lst=zsA.toList:=by
   show spL sNo sNo=_
   simp only[spL,wdN_no];rfl
  refine⟨(h.below k0).iff (fun b p _ _=>by simp[withT,Lay.no]) (fun q p _ _=>by simp[withE,Lay.no]) (fun p hp q=>by have:=h.new p hp q;simp[withE,Lay.no,this]),?_,?_,?_,Chg.of_below k0,.inl rfl⟩
  ·rw[hW0];exact(b1.below (k1 _ _)).below (k1 _ _)
  ·rw[hW0];exact b2.below (k1 _ _)
  ·rw[hz,hW0];exact b3
 have HH:Hid (n=ts.length∧us.length=n∧ValsAt w0 lo g0 us∧Below base w0 w∧(∀(i:Nat) x t,us[i]?=some x→ts[i]?=some t→LyC base w0 t x∧NulV w0 t x)∧a+wtS ts≤256∧base=w0.heap.size):=⟨hn,by rw[hn];exact hul,hV,hw0,hN,hwt,hw5⟩
 clear h hul hV hN hw0 hn hwt hw5
 go_enter Tryz.func157,Tryz.ntmps157
 go_wp2_with fail
 have hW0':=hW0
 simp only[zsA]at hW0'
 rw[←hW0']
 clear hW0 hW0'
 go_loopw[6,14] (fun ev iv wr=>∃(k Gk ck:Nat),k≤n∧iv=.int .i64 k∧ev=.bool (nulS (ts.take k))∧Hid (SqI w wr (.slice (some ⟨g0,0,none⟩) n cp0) base M T Gk ck E en mp (lyS (ts.take k) true (Lay.no a)) G)) (fun _ iv _=>n-(intOf iv).toNat)
 case atStart=>exact⟨0,G,cp,Nat.zero_le _,rfl,rfl,HW0.out⟩
 case round=>
  clear HW0
  obtain⟨k,Gk,ck,hk,rfl,rfl,HJ⟩:=hrel
  by_cases hlt:k<n
  ·have zk:(k:Int)<(n:Int):=by omega
   obtain⟨x,hx⟩:∃x,us[k]?=some x:=⟨_,List.getElem?_eq_getElem (by rw[HH.2.1];exact hlt)⟩
   obtain⟨t,ht⟩:∃t,ts[k]?=some t:=⟨_,List.getElem?_eq_getElem (by rw[←HH.1];exact hlt)⟩
   obtain⟨HLy,X,c,f,rfl,hT,HC⟩:=HH.2.2.2.2.1 k x t hx ht
   have hbw:Below base w0 wr:=Chg.below HH.2.2.2.1 HJ.chg hlow (fun j q=>by rcases q with q|q;omega;have:=HGb.out;omega)
   have c0:wr.cell? ⟨g0,k,none⟩=some (.iface X (.agg c)):=by rw[hbw.cell (p:=⟨g0,k,none⟩) hlo];exact HH.2.2.1.val k _ hx
   obtain⟨gk,hgk⟩:=qE (lyS (ts.take k) true (Lay.no a))
   obtain⟨l,hl⟩:=qE (lyP t gk.nx)
   obtain⟨em,hem⟩:=qE (nulS (ts.take k))
   have htk:ts.take (k+1)=ts.take k++ [t]:=by rw[List.take_add_one,ht];rfl
   have hwk:wtS (ts.take k)+wtP t≤wtS ts:=by
    have h1:ts=ts.take (k+1)++ts.drop (k+1):=(List.take_append_drop _ _).symm
    have h2:=congrArg wtS h1
    rw[wtS_app,htk,wtS_app]at h2
    simp only[wtS]at h2
    omega
   have hnxk:gk.nx≤a+wtS (ts.take k):=by rw[hgk];have:=nx_S (ts.take k) true (Lay.no a);simpa [Lay.no]using this
   have hwt:=HH.2.2.2.2.2.1
   have hspk:Spt a gk:=by rw[hgk];exact(cor_S (ts.take k) a (Lay.no a) (fun x=>x= []) true (cor_no a)).spt
   have hspl:Spt gk.nx l:=by rw[hl];exact(cor_P t gk.nx).spt
   have hnl:l.nx≤256:=by have:=nx_P t gk.nx;rw[hl];omega
   rw[←hgk]at HJ
   have HNx:Hid (∀nt,nt=nulB t→lyS (ts.take (k+1)) true (Lay.no a)=gk.seq em nt l∧nulS (ts.take (k+1))=(em && nt)):=fun nt hnt=>by
    rw[htk,lyS_snoc,nulS_snoc,←hgk,←hem,←hl,hnt];exact⟨by simp,rfl⟩
   have HL:Hid (Calls Tryz.prog 135 #[.pointer (some ⟨M,0,none⟩),.iface X (.agg c)] wr (LayR base M (withT T gk) Gk (withE E gk) en mp l wr)):=by
    rw[hl];exact HLy M (withT T gk) Gk ck gk.nx (withE E gk) en mp wr HJ.mtr hbw (by omega)
   have HSp:Hid (Spt a gk∧Spt gk.nx l∧l.nx≤256∧(∀wx,Below base w0 wx→Below w0.heap.size w0 wx)):=⟨hspk,hspl,hnl,fun wx hq=>by rw[←HH.2.2.2.2.2.2];exact hq⟩
   have HBw:Hid (Below base w0 wr):=hbw
   rw[←hem]
   clear hx ht HLy hbw hgk hl hem htk hwk hnxk hwt hspk hspl hnl
   go_wp2_with fail
   refine HL.mono ?_
   rintro e w1 ⟨G1,cp1,rfl,H1⟩
   clear c0 HL
   obtain⟨W2,hW2⟩:=qE (w1.alloc (.cells (spL l.fst l.lst).toArray 183):World)
   have k2:Below w1.heap.size w1 W2:=by rw[hW2];exact qB
   have h1q:=HJ.laid (by decide) hM0.2 H1.1 H1.2.1 H1.2.2
   have hw1:w.heap.size≤w1.heap.size:=h1q.chg.size
   have HW2:Hid (SqB w W2 206 (.slice (some ⟨g0,0,none⟩) n cp0) base M (withT (withT T gk) l) G1 cp1 l.nx (withE (withE E gk) l) en mp gk.fst gk.lst G∧BoxAt W2 w.heap.size 183 8 w1.heap.size (spL l.fst l.lst)):=⟨h1q.below k2,by rw[hW2];exact boxAt_new w1 _ hw1 rfl⟩
   have hwn:w.heap.size+1+1<w1.heap.size:=h1q.sofar.lt.2
   obtain⟨s0,s1,s2,s3,s4,s5,s6,s7⟩:=HW2.1.sofar.c8
   obtain⟨ee0,ee1,ee2,ee3,ee4,ee5,ee6,ee7⟩:=HW2.2.c8
   have HCo:Hid (Calls Tryz.prog 156 #[.pointer (some ⟨M,0,none⟩),psV gk.lst,psV l.fst] W2 fun e w'=>(∃v,e=.returned v)∧Hid (MtrI w' base M (withT (withT T gk) l) G1 cp1 l.nx (fun p q=>withE (withE E gk) l p q || (gk.lst p && l.fst q)) en mp∧Chg (fun k=>k=G1) W2 w')):=connect_core gk.lst l.fst W2 HW2.1.mtr (fun p hp=>by have h1:=(HSp.1.lst p hp).2;have h2:=HSp.2.1.le;omega) HSp.2.2.1
   clear h1q k2 H1
   go_upto_region 7 with fail
   have hW2':=hW2
   simp only[spL]at hW2'
   rw[←hW2']
   clear hW2 hW2'
   go_wp2_with fail
   refine HCo.mono ?_
   rintro e w3 ⟨⟨v,rfl⟩,H3⟩
   have hGt:¬G1=w1.heap.size:=fun q=>own_apart HW2.1.mtr.row HW2.2 (by decide) G1 rfl (by rw[q];rfl)
   have HW3:Hid (SqB w w3 206 (.slice (some ⟨g0,0,none⟩) n cp0) base M (withT (withT T gk) l) G1 cp1 l.nx (fun p q=>withE (withE E gk) l p q || (gk.lst p && l.fst q)) en mp gk.fst gk.lst G∧BoxAt w3 w.heap.size 183 8 w1.heap.size (spL l.fst l.lst)):=⟨HW2.1.conn (by decide) H3.1 H3.2,HW2.2.chg H3.2 (fun q=>hGt q.symm)⟩
   clear H3 HCo HW2
   clear s0 s1 s2 s3 s4 s5 s6 s7 ee0 ee1 ee2 ee3 ee4 ee5 ee6 ee7
   obtain⟨s0,s1,s2,s3,s4,s5,s6,s7⟩:=HW3.1.sofar.c8
   have f0:=HW3.1.sofar.frozen 0
   have f1:=HW3.1.sofar.frozen 1
   have f2:=HW3.1.sofar.frozen 2
   have f3:=HW3.1.sofar.frozen 3
   have f4:=HW3.1.sofar.frozen 4
   have f5:=HW3.1.sofar.frozen 5
   have f6:=HW3.1.sofar.frozen 6
   have f7:=HW3.1.sofar.frozen 7
   obtain⟨ee0,ee1,ee2,ee3,ee4,ee5,ee6,ee7⟩:=HW3.2.c8
   have HUf:Hid (∀wx:World,Calls Tryz.prog 161 #[psV gk.fst,psV l.fst] wx fun e w'=>e=.returned (psV (sOr gk.fst l.fst))∧Below wx.heap.size wx w'):=fun wx=>union_core gk.fst l.fst wx
   have HUl:Hid (∀wx:World,Calls Tryz.prog 161 #[psV gk.lst,psV l.lst] wx fun e w'=>e=.returned (psV (sOr gk.lst l.lst))∧Below wx.heap.size wx w'):=fun wx=>union_core gk.lst l.lst wx
   have HMo:Hid (∀wx,Chg (fun k=>k=M∨k=G) w wx→Below w0.heap.size w0 wx):=fun wx hq=>HSp.2.2.2 wx (Chg.below HH.2.2.2.1 hq hlow (fun j q=>by rcases q with q|q;omega;have:=HGb.out;omega))
   cases em with
   |true=>
    go_wp2_with fail
    refine(HUf.out _).mono ?_
    rintro e w4 ⟨rfl,hb4⟩
    have HW4:Hid (SqB w (set4 w4 (w.heap.size+1+1) 0 (sOr gk.fst l.fst)) 206 (.slice (some ⟨g0,0,none⟩) n cp0) base M (withT (withT T gk) l) G1 cp1 l.nx (fun p q=>withE (withE E gk) l p q || (gk.lst p && l.fst q)) en mp (sOr gk.fst l.fst) gk.lst G∧BoxAt (set4 w4 (w.heap.size+1+1) 0 (sOr gk.fst l.fst)) w.heap.size 183 8 w1.heap.size (spL l.fst l.lst)):=⟨(HW3.1.below hb4).set hM0.2 (by decide) _ (set_first _ _ _) hlow,(HW3.2.below hb4).chg (chg_set4 (S:=fun j=>j=w.heap.size+1+1) w4 _ _ _ rfl) (by omega)⟩
    have HB4:=HW3.1.sofar.below hb4
    clear s0 s1 s2 s3 s4 s5 s6 s7 f0 f1 f2 f3 f4 f5 f6 f7 ee0 ee1 ee2 ee3 ee4 ee5 ee6 ee7
    obtain⟨s0,s1,s2,s3,s4,s5,s6,s7⟩:=HB4.c8
    have f0:=HB4.frozen 0
    have f1:=HB4.frozen 1
    have f2:=HB4.frozen 2
    have f3:=HB4.frozen 3
    have f4:=HB4.frozen 4
    have f5:=HB4.frozen 5
    have f6:=HB4.frozen 6
    have f7:=HB4.frozen 7
    clear HB4 hb4
    go_upto_region 10 with fail
    obtain⟨W5,hW5⟩:=qE (set4 w4 (w.heap.size+1+1) 0 (sOr gk.fst l.fst):World)
    have hW5':=hW5
    simp only[set4,Nat.zero_add]at hW5'
    rw[←hW5']
    rw[←hW5]at HW4
    clear hW5 hW5'
    clear s0 s1 s2 s3 s4 s5 s6 s7 f0 f1 f2 f3 f4 f5 f6 f7
    have HCe:=HC.out W5 (HMo.out W5 HW4.1.chg)
    cases hnb:nulB t with
    |true=>
     rw[hnb]at HCe
     have HNy:=HNx.out true hnb.symm
     have HNz:Hid (lyS (ts.take (k+1)) true (Lay.no a)=gk.seq true true l∧nulS (ts.take (k+1))=true):=⟨HNy.1,by rw[HNy.2];rfl⟩
     have HCf:Hid (Calls Tryz.prog f #[.agg c] W5 fun e w''=>e=.returned (.bool true)∧Below W5.heap.size W5 w''):=HCe
     clear hnb HCe HNy
     rcases hT with⟨rfl,rfl⟩|⟨rfl,rfl⟩|⟨rfl,rfl⟩|⟨rfl,rfl⟩
     all_goals go_wp2_with fail
     all_goals refine HCf.mono ?_
     all_goals rintro e w6 ⟨rfl,hb6⟩
     all_goals have HW6:Hid (SqB w w6 206 (.slice (some ⟨g0,0,none⟩) n cp0) base M (withT (withT T gk) l) G1 cp1 l.nx (fun p q=>withE (withE E gk) l p q || (gk.lst p && l.fst q)) en mp (sOr gk.fst l.fst) gk.lst G∧BoxAt w6 w.heap.size 183 8 w1.heap.size (spL l.fst l.lst)):=⟨HW4.1.below hb6,HW4.2.below hb6⟩
     all_goals have s4:=HW6.1.sofar.cell (j:=4) rfl
     all_goals have f4:=HW6.1.sofar.frozen 4
     all_goals have ee4:=HW6.2.cell (j:=4) rfl
     all_goals have s5:=HW6.1.sofar.cell (j:=5) rfl
     all_goals have f5:=HW6.1.sofar.frozen 5
     all_goals have ee5:=HW6.2.cell (j:=5) rfl
     all_goals have s6:=HW6.1.sofar.cell (j:=6) rfl
     all_goals have f6:=HW6.1.sofar.frozen 6
     all_goals have ee6:=HW6.2.cell (j:=6) rfl
     all_goals have s7:=HW6.1.sofar.cell (j:=7) rfl
     all_goals have f7:=HW6.1.sofar.frozen 7
     all_goals have ee7:=HW6.2.cell (j:=7) rfl
     all_goals go_wp2_with fail
     all_goals refine(HUl.out _).mono ?_
     all_goals rintro e w7 ⟨rfl,hb7⟩
     all_goals clear s4 s5 s6 s7 f4 f5 f6 f7
     all_goals have HB7:=HW6.1.sofar.below hb7
     all_goals have s4:=HB7.cell (j:=4) rfl
     all_goals have f4:=HB7.frozen 4
     all_goals have s5:=HB7.cell (j:=5) rfl
     all_goals have f5:=HB7.frozen 5
     all_goals have s6:=HB7.cell (j:=6) rfl
     all_goals have f6:=HB7.frozen 6
     all_goals have s7:=HB7.cell (j:=7) rfl
     all_goals have f7:=HB7.frozen 7
     all_goals have HW8:Hid (SqI w (set4 w7 (w.heap.size+1+1) 4 (sOr gk.lst l.lst)) (.slice (some ⟨g0,0,none⟩) n cp0) base M T G1 cp1 E en mp (gk.seq true true l) G):=(by
      have h8:=(HW6.1.below hb7).set hM0.2 (by decide) (sOr gk.lst l.lst) (set_last _ _ _) hlow
      refine⟨h8.mtr.iff (fun b p _ _=>by simp[withT,Lay.seq,Bool.or_assoc]) (fun q p _ _=>by simp[withE,Lay.seq,Bool.or_assoc]) (fun p hp q=>?_),h8.node,h8.ans,h8.sofar,h8.chg,h8.at_⟩
      have:=h8.mtr.new p hp q
      simpa [withE,Lay.seq,Bool.or_assoc]using this)
     all_goals rw[←HNz.1]at HW8
     all_goals simp only[set4]at HW8
     all_goals have hen:=HNz.2
     all_goals clear HB7 hb7
     all_goals go_wp2_with fail
     all_goals refine⟨⟨k+1,G1,cp1,by omega,by go_num,by rw[hen],HW8⟩,?_⟩
     all_goals go_light
     all_goals simp[intOf]
     all_goals omega
    |false=>
     rw[hnb]at HCe
     have HNy:=HNx.out false hnb.symm
     have HNz:Hid (lyS (ts.take (k+1)) true (Lay.no a)=gk.seq true false l∧nulS (ts.take (k+1))=false):=⟨HNy.1,by rw[HNy.2];rfl⟩
     have HCf:Hid (Calls Tryz.prog f #[.agg c] W5 fun e w''=>e=.returned (.bool false)∧Below W5.heap.size W5 w''):=HCe
     clear hnb HCe HNy
     rcases hT with⟨rfl,rfl⟩|⟨rfl,rfl⟩|⟨rfl,rfl⟩|⟨rfl,rfl⟩
     all_goals go_wp2_with fail
     all_goals refine HCf.mono ?_
     all_goals rintro e w6 ⟨rfl,hb6⟩
     all_goals have HW6:Hid (SqB w w6 206 (.slice (some ⟨g0,0,none⟩) n cp0) base M (withT (withT T gk) l) G1 cp1 l.nx (fun p q=>withE (withE E gk) l p q || (gk.lst p && l.fst q)) en mp (sOr gk.fst l.fst) gk.lst G∧BoxAt w6 w.heap.size 183 8 w1.heap.size (spL l.fst l.lst)):=⟨HW4.1.below hb6,HW4.2.below hb6⟩
     all_goals have s4:=HW6.1.sofar.cell (j:=4) rfl
     all_goals have f4:=HW6.1.sofar.frozen 4
     all_goals have ee4:=HW6.2.cell (j:=4) rfl
     all_goals have s5:=HW6.1.sofar.cell (j:=5) rfl
     all_goals have f5:=HW6.1.sofar.frozen 5
     all_goals have ee5:=HW6.2.cell (j:=5) rfl
     all_goals have s6:=HW6.1.sofar.cell (j:=6) rfl
     all_goals have f6:=HW6.1.sofar.frozen 6
     all_goals have ee6:=HW6.2.cell (j:=6) rfl
     all_goals have s7:=HW6.1.sofar.cell (j:=7) rfl
     all_goals have f7:=HW6.1.sofar.frozen 7
     all_goals have ee7:=HW6.2.cell (j:=7) rfl
     all_goals have HW8:Hid (SqI w (set4 w6 (w.heap.size+1+1) 4 l.lst) (.slice (some ⟨g0,0,none⟩) n cp0) base M T G1 cp1 E en mp (gk.seq true false l) G):=(by
      have h8:=HW6.1.set hM0.2 (by decide) l.lst (set_last _ _ _) hlow
      refine⟨h8.mtr.iff (fun b p _ _=>by simp[withT,Lay.seq,Bool.or_assoc]) (fun q p _ _=>by simp[withE,Lay.seq,Bool.or_assoc]) (fun p hp q=>?_),h8.node,h8.ans,h8.sofar,h8.chg,h8.at_⟩
      have:=h8.mtr.new p hp q
      simpa [withE,Lay.seq,Bool.or_assoc]using this)
     all_goals rw[←HNz.1]at HW8
     all_goals simp only[set4]at HW8
     all_goals have hen:=HNz.2
     all_goals go_wp2_with fail
     all_goals refine⟨⟨k+1,G1,cp1,by omega,by go_num,by rw[hen],HW8⟩,?_⟩
     all_goals go_light
     all_goals simp[intOf]
     all_goals omega
   |false=>
    go_upto_region 10 with fail
    obtain⟨W5,hW5⟩:=qE (w3:World)
    have HW4:=HW3
    rw[←hW5]at HW4
    rw[←hW5]
    clear s0 s1 s2 s3 s4 s5 s6 s7 f0 f1 f2 f3 f4 f5 f6 f7 ee0 ee1 ee2 ee3 ee4 ee5 ee6 ee7
    clear hW5
    have HCe:=HC.out W5 (HMo.out W5 HW4.1.chg)
    cases hnb:nulB t with
    |true=>
     rw[hnb]at HCe
     have HNy:=HNx.out true hnb.symm
     have HNz:Hid (lyS (ts.take (k+1)) true (Lay.no a)=gk.seq false true l∧nulS (ts.take (k+1))=false):=⟨HNy.1,by rw[HNy.2];rfl⟩
     have HCf:Hid (Calls Tryz.prog f #[.agg c] W5 fun e w''=>e=.returned (.bool true)∧Below W5.heap.size W5 w''):=HCe
     clear hnb HCe HNy
     rcases hT with⟨rfl,rfl⟩|⟨rfl,rfl⟩|⟨rfl,rfl⟩|⟨rfl,rfl⟩
     all_goals go_wp2_with fail
     all_goals refine HCf.mono ?_
     all_goals rintro e w6 ⟨rfl,hb6⟩
     all_goals have HW6:Hid (SqB w w6 206 (.slice (some ⟨g0,0,none⟩) n cp0) base M (withT (withT T gk) l) G1 cp1 l.nx (fun p q=>withE (withE E gk) l p q || (gk.lst p && l.fst q)) en mp gk.fst gk.lst G∧BoxAt w6 w.heap.size 183 8 w1.heap.size (spL l.fst l.lst)):=⟨HW4.1.below hb6,HW4.2.below hb6⟩
     all_goals have s4:=HW6.1.sofar.cell (j:=4) rfl
     all_goals have f4:=HW6.1.sofar.frozen 4
     all_goals have ee4:=HW6.2.cell (j:=4) rfl
     all_goals have s5:=HW6.1.sofar.cell (j:=5) rfl
     all_goals have f5:=HW6.1.sofar.frozen 5
     all_goals have ee5:=HW6.2.cell (j:=5) rfl
     all_goals have s6:=HW6.1.sofar.cell (j:=6) rfl
     all_goals have f6:=HW6.1.sofar.frozen 6
     all_goals have ee6:=HW6.2.cell (j:=6) rfl
     all_goals have s7:=HW6.1.sofar.cell (j:=7) rfl
     all_goals have f7:=HW6.1.sofar.frozen 7
     all_goals have ee7:=HW6.2.cell (j:=7) rfl
     all_goals go_wp2_with fail
     all_goals refine(HUl.out _).mono ?_
     all_goals rintro e w7 ⟨rfl,hb7⟩
     all_goals clear s4 s5 s6 s7 f4 f5 f6 f7
     all_goals have HB7:=HW6.1.sofar.below hb7
     all_goals have s4:=HB7.cell (j:=4) rfl
     all_goals have f4:=HB7.frozen 4
     all_goals have s5:=HB7.cell (j:=5) rfl
     all_goals have f5:=HB7.frozen 5
     all_goals have s6:=HB7.cell (j:=6) rfl
     all_goals have f6:=HB7.frozen 6
     all_goals have s7:=HB7.cell (j:=7) rfl
     all_goals have f7:=HB7.frozen 7
     all_goals have HW8:Hid (SqI w (set4 w7 (w.heap.size+1+1) 4 (sOr gk.lst l.lst)) (.slice (some ⟨g0,0,none⟩) n cp0) base M T G1 cp1 E en mp (gk.seq false true l) G):=(by
      have h8:=(HW6.1.below hb7).set hM0.2 (by decide) (sOr gk.lst l.lst) (set_last _ _ _) hlow
      refine⟨h8.mtr.iff (fun b p _ _=>by simp[withT,Lay.seq,Bool.or_assoc]) (fun q p _ _=>by simp[withE,Lay.seq,Bool.or_assoc]) (fun p hp q=>?_),h8.node,h8.ans,h8.sofar,h8.chg,h8.at_⟩
      have:=h8.mtr.new p hp q
      simpa [withE,Lay.seq,Bool.or_assoc]using this)
     all_goals rw[←HNz.1]at HW8
     all_goals simp only[set4]at HW8
     all_goals have hen:=HNz.2
     all_goals clear HB7 hb7
     all_goals go_wp2_with fail
     all_goals refine⟨⟨k+1,G1,cp1,by omega,by go_num,by rw[hen],HW8⟩,?_⟩
     all_goals go_light
     all_goals simp[intOf]
     all_goals omega
    |false=>
     rw[hnb]at HCe
     have HNy:=HNx.out false hnb.symm
     have HNz:Hid (lyS (ts.take (k+1)) true (Lay.no a)=gk.seq false false l∧nulS (ts.take (k+1))=false):=⟨HNy.1,by rw[HNy.2];rfl⟩
     have HCf:Hid (Calls Tryz.prog f #[.agg c] W5 fun e w''=>e=.returned (.bool false)∧Below W5.heap.size W5 w''):=HCe
     clear hnb HCe HNy
     rcases hT with⟨rfl,rfl⟩|⟨rfl,rfl⟩|⟨rfl,rfl⟩|⟨rfl,rfl⟩
     all_goals go_wp2_with fail
     all_goals refine HCf.mono ?_
     all_goals rintro e w6 ⟨rfl,hb6⟩
     all_goals have HW6:Hid (SqB w w6 206 (.slice (some ⟨g0,0,none⟩) n cp0) base M (withT (withT T gk) l) G1 cp1 l.nx (fun p q=>withE (withE E gk) l p q || (gk.lst p && l.fst q)) en mp gk.fst gk.lst G∧BoxAt w6 w.heap.size 183 8 w1.heap.size (spL l.fst l.lst)):=⟨HW4.1.below hb6,HW4.2.below hb6⟩
     all_goals have s4:=HW6.1.sofar.cell (j:=4) rfl
     all_goals have f4:=HW6.1.sofar.frozen 4
     all_goals have ee4:=HW6.2.cell (j:=4) rfl
     all_goals have s5:=HW6.1.sofar.cell (j:=5) rfl
     all_goals have f5:=HW6.1.sofar.frozen 5
     all_goals have ee5:=HW6.2.cell (j:=5) rfl
     all_goals have s6:=HW6.1.sofar.cell (j:=6) rfl
     all_goals have f6:=HW6.1.sofar.frozen 6
     all_goals have ee6:=HW6.2.cell (j:=6) rfl
     all_goals have s7:=HW6.1.sofar.cell (j:=7) rfl
     all_goals have f7:=HW6.1.sofar.frozen 7
     all_goals have ee7:=HW6.2.cell (j:=7) rfl
     all_goals have HW8:Hid (SqI w (set4 w6 (w.heap.size+1+1) 4 l.lst) (.slice (some ⟨g0,0,none⟩) n cp0) base M T G1 cp1 E en mp (gk.seq false false l) G):=(by
      have h8:=HW6.1.set hM0.2 (by decide) l.lst (set_last _ _ _) hlow
      refine⟨h8.mtr.iff (fun b p _ _=>by simp[withT,Lay.seq,Bool.or_assoc]) (fun q p _ _=>by simp[withE,Lay.seq,Bool.or_assoc]) (fun p hp q=>?_),h8.node,h8.ans,h8.sofar,h8.chg,h8.at_⟩
      have:=h8.mtr.new p hp q
      simpa [withE,Lay.seq,Bool.or_assoc]using this)
     all_goals rw[←HNz.1]at HW8
     all_goals simp only[set4]at HW8
     all_goals have hen:=HNz.2
     all_goals go_wp2_with fail
     all_goals refine⟨⟨k+1,G1,cp1,by omega,by go_num,by rw[hen],HW8⟩,?_⟩
     all_goals go_light
     all_goals simp[intOf]
     all_goals omega
  ·obtain rfl:k=n:=by omega
   have zk:¬(k:Int)<(k:Int):=by omega
   have hfull:ts.take k=ts:=by rw[HH.1,List.take_length]
   rw[hfull]at HJ
   clear hfull
   obtain⟨s0,s1,s2,s3,s4,s5,s6,s7⟩:=HJ.sofar.c8
   obtain⟨r0,r1,r2,r3,r4,r5,r6,r7⟩:=HJ.ans.c8
   have f0:=HJ.ans.frozen 0
   have f1:=HJ.ans.frozen 1
   have f2:=HJ.ans.frozen 2
   have f3:=HJ.ans.frozen 3
   have f4:=HJ.ans.frozen 4
   have f5:=HJ.ans.frozen 5
   have f6:=HJ.ans.frozen 6
   have f7:=HJ.ans.frozen 7
   have HF:Hid (LayR base M T G E en mp (lyS ts true (Lay.no a)) w (.returned (spV (lyS ts true (Lay.no a)).fst (lyS ts true (Lay.no a)).lst)) (setSp wr (w.heap.size+1) (lyS ts true (Lay.no a)).fst (lyS ts true (Lay.no a)).lst)∧BoxAt (setSp wr (w.heap.size+1) (lyS ts true (Lay.no a)).fst (lyS ts true (Lay.no a)).lst) w.heap.size 183 8 (w.heap.size+1) (spL (lyS ts true (Lay.no a)).fst (lyS ts true (Lay.no a)).lst)):=by
    obtain⟨f1,f2,f3⟩:=lay_fin HJ.mtr HJ.ans HJ.chg (lyS ts true (Lay.no a)).fst (lyS ts true (Lay.no a)).lst
    exact⟨⟨_,_,rfl,⟨f1,f3,HJ.at_⟩⟩,f2⟩
   go_wp2_with fail
   exact bodyPost_ret (v:=spV (lyS ts true (Lay.no a)).fst (lyS ts true (Lay.no a)).lst) (span_res157 (base:=w.heap.size) (g:=w.heap.size+1) rfl HF.2) rfl HF.1
theorem lyA_snoc:∀(os:List (List Pat)) (ts:List Pat) (g:Lay),lyA (os++ [ts]) g=(lyA os g).alt (lyS ts true (Lay.no (lyA os g).nx))
 | [],ts,g=>by simp[lyA]
 |o::os,ts,g=>by simp only[List.cons_append,lyA,lyA_snoc os ts]
theorem wtA_app:∀(l m:List (List Pat)),wtA (l++m)=wtA l+wtA m
 | [],m=>by simp[wtA]
 |t::l,m=>by simp only[List.cons_append,wtA,wtA_app l m];omega
set_option maxHeartbeats 4000000 in
theorem lay_seqnode {base:Nat} {w0:World} {ts:List Pat} {u:Value} (h:LqC base w0 ts u):∃(sa:Option Addr) (sn sc:Nat),u=.slice sa sn sc∧∀(M:Nat) (T:Nat→PS) (G cp a:Nat) (E:Nat→PS) (en:PS) (mp:Nat) (w:World),MtrI w base M T G cp a E en mp→Below base w0 w→a+wtS ts≤256→
 Calls Tryz.prog 135 #[.pointer (some ⟨M,0,none⟩),.iface 206 (.agg #[.slice sa sn sc])] w (LayR base M T G E en mp (lyS ts true (Lay.no a)) w):=by
 obtain⟨sa,sn,sc,rfl,H⟩:=h
 refine⟨sa,sn,sc,rfl,fun M T G cp a E en mp w h hw0 hwt=>?_⟩
 obtain⟨l,hl⟩:=qE (lyS ts true (Lay.no a))
 obtain⟨W0,hW0⟩:=qE ((w.alloc (.cells zsA 183)).alloc (.cells #[.slice sa sn sc] 206):World)
 have HW0:Hid (BoxAt W0 w.heap.size 183 8 w.heap.size zsA.toList∧Below w.heap.size w W0∧MtrI W0 base M T G cp a E en mp):=by
  have b1:=boxAt_new w (base:=w.heap.size) (t:=183) (sz:=8) zsA (Nat.le_refl _) rfl
  have k0:Below w.heap.size w W0:=by rw[hW0];exact(qB).alloc (by simp) _
  refine⟨?_,k0,h.below k0⟩
  rw[hW0];exact b1.below (qB)
 have hM0:=h.ltM
 have hG0:=h.ltG
 have HL:Hid (Calls Tryz.prog 157 #[.pointer (some ⟨M,0,none⟩),.agg #[.slice sa sn sc]] W0 (LayR base M T G E en mp l W0)):=by
  rw[hl];exact H M T G cp a E en mp W0 HW0.2.2 (hw0.trans (HW0.2.1.mono (by omega))) hwt
 rw[←hl]
 clear h H hl hw0
 have hAs:=asSB #[.slice sa sn sc]
 have hAs2:=asSC #[.slice sa sn sc]
 have hAs3:=asSR #[.slice sa sn sc]
 have hAs4:=asSS #[.slice sa sn sc]
 go_enter Tryz.func135,Tryz.ntmps135
 go_wp2_with fail
 have hW0':=hW0
 simp only[zsA]at hW0'
 rw[←hW0']
 clear hW0 hW0' hAs hAs2 hAs3 hAs4
 refine HL.mono ?_
 rintro e w5 ⟨G1,cp1,rfl,H1⟩
 have q0:=HW0.2.1.size
 have HB5:=HW0.1.chg H1.2.1 (by omega)
 obtain⟨r0,r1,r2,r3,r4,r5,r6,r7⟩:=HB5.c8
 have f0:=HB5.frozen 0
 have f1:=HB5.frozen 1
 have f2:=HB5.frozen 2
 have f3:=HB5.frozen 3
 have f4:=HB5.frozen 4
 have f5:=HB5.frozen 5
 have f6:=HB5.frozen 6
 exact zzQ20
def AlI (w X:World) (uv:Value) (base M:Nat) (T:Nat→PS) (G cp:Nat) (E:Nat→PS) (en:PS) (mp:Nat) (g:Lay) (G0:Nat):Prop:=SqB w X 142 uv base M (withT T g) G cp g.nx (withE E g) en mp g.fst g.lst G0
set_option maxHeartbeats 8000000 in
theorem layAlt_core {base:Nat} {w0:World} {lo:Nat→Prop} {os:List (List Pat)} {g0 cp0:Nat} {us:List Value} (hul:us.length=os.length) (hV:ValsAt w0 lo g0 us) (hlo:g0<base) (hN:∀(i:Nat) x t,us[i]?=some x→os[i]?=some t→LqC base w0 t x) (M:Nat) (T:Nat→PS) (G cp a:Nat) (E:Nat→PS) (en:PS) (mp:Nat) (w:World) (h:MtrI w base M T G cp a E en mp) (hw0:Below base w0 w) (hwt:a+wtA os≤256):
 Calls Tryz.prog 158 #[.pointer (some ⟨M,0,none⟩),.agg #[.slice (some ⟨g0,0,none⟩) os.length cp0]] w (LayR base M T G E en mp (lyA os (Lay.no a)) w):=by
 obtain⟨n,hn⟩:=qE os.length
 have hn5:n≤256:=by have:=wtA_len os;omega
 rw[←hn]
 obtain⟨W0,hW0⟩:=qE (((w.alloc (.cells #[.slice (some ⟨g0,0,none⟩) n cp0] 142)).alloc (.cells zsA 183)).alloc (.cells zsA 183):World)
 have hM0:=h.ltM
 have hlow:=Nat.le_of_lt (Nat.lt_of_le_of_lt h.ltM.1 h.ltM.2)
 have HGb:Hid (base≤G):=h.ltG.1
 have HW0:Hid (SqB w W0 142 (.slice (some ⟨g0,0,none⟩) n cp0) base M (withT T (Lay.no a)) G cp a (withE E (Lay.no a)) en mp (Lay.no a).fst (Lay.no a).lst G):=by
  have b1:=boxAt_new w (base:=w.heap.size) (t:=142) (sz:=1) #[.slice (some ⟨g0,0,none⟩) n cp0] (Nat.le_refl _) rfl
  have b2:=boxAt_new (w.alloc (.cells #[.slice (some ⟨g0,0,none⟩) n cp0] 142)) (base:=w.heap.size) (t:=183) (sz:=8) zsA (by simp) rfl
  have b3:=boxAt_new ((w.alloc (.cells #[.slice (some ⟨g0,0,none⟩) n cp0] 142)).alloc (.cells zsA 183)) (base:=w.heap.size) (t:=183) (sz:=8) zsA (by simp;omega) rfl
  rw[World.size_alloc]at b2
  rw[World.size_alloc,World.size_alloc]at b3
  have k1:∀(x:World) (o:Obj),Below x.heap.size x (x.alloc o):=fun x o=>qB
  have k0:Below w.heap.size w W0:=by rw[hW0];exact((qB).alloc (by simp) _).alloc (by simp;omega) _
  have hz:spL (Lay.no a).fst (Lay.no a).lst=zsA.toList:=by
   show spL sNo sNo=_
   simp only[spL,wdN_no];rfl
  refine⟨(h.below k0).iff (fun b p _ _=>by simp[withT,Lay.no]) (fun q p _ _=>by simp[withE,Lay.no]) (fun p hp q=>by have:=h.new p hp q;simp[withE,Lay.no,this]),?_,?_,?_,Chg.of_below k0,.inl rfl⟩
  ·rw[hW0];exact(b1.below (k1 _ _)).below (k1 _ _)
  ·rw[hW0];exact b2.below (k1 _ _)
  ·rw[hz,hW0];exact b3
 have HH:Hid (n=os.length∧us.length=n∧ValsAt w0 lo g0 us∧Below base w0 w∧(∀(i:Nat) x t,us[i]?=some x→os[i]?=some t→LqC base w0 t x)∧a+wtA os≤256):=⟨hn,by rw[hn];exact hul,hV,hw0,hN,hwt⟩
 clear h hul hV hN hw0 hn hwt
 go_enter Tryz.func158,Tryz.ntmps158
 go_wp2_with fail
 have hW0':=hW0
 simp only[zsA]at hW0'
 rw[←hW0']
 clear hW0 hW0'
 go_loopw[13] (fun iv wr=>∃(k Gk ck:Nat),k≤n∧iv=.int .i64 k∧Hid (AlI w wr (.slice (some ⟨g0,0,none⟩) n cp0) base M T Gk ck E en mp (lyA (os.take k) (Lay.no a)) G)) (fun iv _=>n-(intOf iv).toNat)
 case atStart=>exact⟨0,G,cp,Nat.zero_le _,rfl,HW0.out⟩
 case round=>
  clear HW0
  obtain⟨k,Gk,ck,hk,rfl,HJ⟩:=hrel
  by_cases hlt:k<n
  ·have zk:(k:Int)<(n:Int):=by omega
   obtain⟨x,hx⟩:∃x,us[k]?=some x:=⟨_,List.getElem?_eq_getElem (by rw[HH.2.1];exact hlt)⟩
   obtain⟨t,ht⟩:∃t,os[k]?=some t:=⟨_,List.getElem?_eq_getElem (by rw[←HH.1];exact hlt)⟩
   obtain⟨sa,sn,sc,rfl,HLy⟩:=lay_seqnode (HH.2.2.2.2.1 k x t hx ht)
   have hbw:Below base w0 wr:=Chg.below HH.2.2.2.1 HJ.chg hlow (fun j q=>by rcases q with q|q;omega;have:=HGb.out;omega)
   have c0:wr.cell? ⟨g0,k,none⟩=some (.slice sa sn sc):=by rw[hbw.cell (p:=⟨g0,k,none⟩) hlo];exact HH.2.2.1.val k _ hx
   obtain⟨gk,hgk⟩:=qE (lyA (os.take k) (Lay.no a))
   obtain⟨l,hl⟩:=qE (lyS t true (Lay.no gk.nx))
   have htk:os.take (k+1)=os.take k++ [t]:=by rw[List.take_add_one,ht];rfl
   have hwk:wtA (os.take k)+wtS t≤wtA os:=by
    have h1:os=os.take (k+1)++os.drop (k+1):=(List.take_append_drop _ _).symm
    have h2:=congrArg wtA h1
    rw[wtA_app,htk,wtA_app]at h2
    simp only[wtA]at h2
    omega
   have hnxk:gk.nx≤a+wtA (os.take k):=by rw[hgk];have:=nx_A (os.take k) (Lay.no a);simpa [Lay.no]using this
   have hwt:=HH.2.2.2.2.2
   rw[←hgk]at HJ
   have HNx:Hid (lyA (os.take (k+1)) (Lay.no a)=gk.alt l):=by show _=_;rw[htk,lyA_snoc,←hgk,←hl]
   have k0:∀o:Obj,Below wr.heap.size wr (wr.alloc o):=fun o=>qB
   have HJ0:Hid (∀o:Obj,SqB w (wr.alloc o) 142 (.slice (some ⟨g0,0,none⟩) n cp0) base M (withT T gk) Gk ck gk.nx (withE E gk) en mp gk.fst gk.lst G):=fun o=>SqB.below HJ.out (k0 o)
   have HL:Hid (∀o:Obj,Calls Tryz.prog 135 #[.pointer (some ⟨M,0,none⟩),.iface 206 (.agg #[.slice sa sn sc])] (wr.alloc o) (LayR base M (withT T gk) Gk (withE E gk) en mp l (wr.alloc o))):=fun o=>by
    rw[hl];exact HLy M (withT T gk) Gk ck gk.nx (withE E gk) en mp _ (HJ0.out o).mtr (hbw.trans ((k0 o).mono (by have:=HJ.chg.size;omega))) (by omega)
   clear hx ht HLy hbw hgk hl htk hwk hnxk hwt k0
   go_wp2_with fail
   refine(HL.out _).mono ?_
   rintro e w1 ⟨G1,cp1,rfl,H1⟩
   clear c0 HL
   obtain⟨W2,hW2⟩:=qE (w1.alloc (.cells (spL l.fst l.lst).toArray 183):World)
   have k2:Below w1.heap.size w1 W2:=by rw[hW2];exact qB
   have h1q:=(HJ0.out _).laid (by decide) hM0.2 H1.1 H1.2.1 H1.2.2
   have hw1:w.heap.size≤w1.heap.size:=h1q.chg.size
   have HW2:Hid (SqB w W2 142 (.slice (some ⟨g0,0,none⟩) n cp0) base M (withT (withT T gk) l) G1 cp1 l.nx (withE (withE E gk) l) en mp gk.fst gk.lst G∧BoxAt W2 w.heap.size 183 8 w1.heap.size (spL l.fst l.lst)):=⟨h1q.below k2,by rw[hW2];exact boxAt_new w1 _ hw1 rfl⟩
   have hwn:w.heap.size+1+1<w1.heap.size:=h1q.sofar.lt.2
   obtain⟨s0,s1,s2,s3,s4,s5,s6,s7⟩:=HW2.1.sofar.c8
   have f0:=HW2.1.sofar.frozen 0
   have f1:=HW2.1.sofar.frozen 1
   have f2:=HW2.1.sofar.frozen 2
   have f3:=HW2.1.sofar.frozen 3
   have f4:=HW2.1.sofar.frozen 4
   have f5:=HW2.1.sofar.frozen 5
   have f6:=HW2.1.sofar.frozen 6
   have f7:=HW2.1.sofar.frozen 7
   obtain⟨ee0,ee1,ee2,ee3,ee4,ee5,ee6,ee7⟩:=HW2.2.c8
   have HUf:Hid (∀wx:World,Calls Tryz.prog 161 #[psV gk.fst,psV l.fst] wx fun e w'=>e=.returned (psV (sOr gk.fst l.fst))∧Below wx.heap.size wx w'):=fun wx=>union_core gk.fst l.fst wx
   have HUl:Hid (∀wx:World,Calls Tryz.prog 161 #[psV gk.lst,psV l.lst] wx fun e w'=>e=.returned (psV (sOr gk.lst l.lst))∧Below wx.heap.size wx w'):=fun wx=>union_core gk.lst l.lst wx
   clear h1q k2 H1
   go_upto_region 6 with fail
   have hW2':=hW2
   simp only[spL]at hW2'
   rw[←hW2']
   clear hW2 hW2'
   go_wp2_with fail
   refine(HUf.out _).mono ?_
   rintro e w4 ⟨rfl,hb4⟩
   have HW4:Hid (SqB w (set4 w4 (w.heap.size+1+1) 0 (sOr gk.fst l.fst)) 142 (.slice (some ⟨g0,0,none⟩) n cp0) base M (withT (withT T gk) l) G1 cp1 l.nx (withE (withE E gk) l) en mp (sOr gk.fst l.fst) gk.lst G∧BoxAt (set4 w4 (w.heap.size+1+1) 0 (sOr gk.fst l.fst)) w.heap.size 183 8 w1.heap.size (spL l.fst l.lst)):=⟨(HW2.1.below hb4).set hM0.2 (by decide) _ (set_first _ _ _) hlow,(HW2.2.below hb4).chg (chg_set4 (S:=fun j=>j=w.heap.size+1+1) w4 _ _ _ rfl) (by omega)⟩
   have HB4:=HW2.1.sofar.below hb4
   clear s0 s1 s2 s3 s4 s5 s6 s7 f0 f1 f2 f3 f4 f5 f6 f7 ee0 ee1 ee2 ee3 ee4 ee5 ee6 ee7
   obtain⟨s0,s1,s2,s3,s4,s5,s6,s7⟩:=HB4.c8
   have f0:=HB4.frozen 0
   have f1:=HB4.frozen 1
   have f2:=HB4.frozen 2
   have f3:=HB4.frozen 3
   have f4:=HB4.frozen 4
   have f5:=HB4.frozen 5
   have f6:=HB4.frozen 6
   have f7:=HB4.frozen 7
   clear HB4 hb4
   go_upto_region 7 with fail
   obtain⟨W5,hW5⟩:=qE (set4 w4 (w.heap.size+1+1) 0 (sOr gk.fst l.fst):World)
   have hW5':=hW5
   simp only[set4,Nat.zero_add]at hW5'
   rw[←hW5']
   rw[←hW5]at HW4
   clear hW5 hW5'
   clear s0 s1 s2 s3 s4 s5 s6 s7 f0 f1 f2 f3 f4 f5 f6 f7
   obtain⟨s0,s1,s2,s3,s4,s5,s6,s7⟩:=HW4.1.sofar.c8
   have f0:=HW4.1.sofar.frozen 0
   have f1:=HW4.1.sofar.frozen 1
   have f2:=HW4.1.sofar.frozen 2
   have f3:=HW4.1.sofar.frozen 3
   have f4:=HW4.1.sofar.frozen 4
   have f5:=HW4.1.sofar.frozen 5
   have f6:=HW4.1.sofar.frozen 6
   have f7:=HW4.1.sofar.frozen 7
   obtain⟨ee0,ee1,ee2,ee3,ee4,ee5,ee6,ee7⟩:=HW4.2.c8
   go_wp2_with fail
   refine(HUl.out _).mono ?_
   rintro e w7 ⟨rfl,hb7⟩
   clear s0 s1 s2 s3 s4 s5 s6 s7 f0 f1 f2 f3 f4 f5 f6 f7 ee0 ee1 ee2 ee3 ee4 ee5 ee6 ee7
   have HB7:=HW4.1.sofar.below hb7
   obtain⟨s0,s1,s2,s3,s4,s5,s6,s7⟩:=HB7.c8
   have f0:=HB7.frozen 0
   have f1:=HB7.frozen 1
   have f2:=HB7.frozen 2
   have f3:=HB7.frozen 3
   have f4:=HB7.frozen 4
   have f5:=HB7.frozen 5
   have f6:=HB7.frozen 6
   have f7:=HB7.frozen 7
   have HW8:Hid (AlI w (set4 w7 (w.heap.size+1+1) 4 (sOr gk.lst l.lst)) (.slice (some ⟨g0,0,none⟩) n cp0) base M T G1 cp1 E en mp (gk.alt l) G):=by
    have h8:=(HW4.1.below hb7).set hM0.2 (by decide) (sOr gk.lst l.lst) (set_last _ _ _) hlow
    refine⟨h8.mtr.iff (fun b p _ _=>by simp[withT,Lay.alt,Bool.or_assoc]) (fun q p _ _=>by simp[withE,Lay.alt,Bool.or_assoc]) (fun p hp q=>?_),h8.node,h8.ans,h8.sofar,h8.chg,h8.at_⟩
    have:=h8.mtr.new p hp q
    simpa [withE,Lay.alt,Bool.or_assoc]using this
   rw[←HNx.out]at HW8
   simp only[set4]at HW8
   clear HB7 hb7
   go_wp2_with fail
   refine⟨⟨k+1,G1,cp1,by omega,by go_num,HW8⟩,?_⟩
   go_light
   simp[intOf]
   omega
  ·obtain rfl:k=n:=by omega
   have zk:¬(k:Int)<(k:Int):=by omega
   have hfull:os.take k=os:=by rw[HH.1,List.take_length]
   rw[hfull]at HJ
   clear hfull
   obtain⟨s0,s1,s2,s3,s4,s5,s6,s7⟩:=HJ.sofar.c8
   obtain⟨r0,r1,r2,r3,r4,r5,r6,r7⟩:=HJ.ans.c8
   have f0:=HJ.ans.frozen 0
   have f1:=HJ.ans.frozen 1
   have f2:=HJ.ans.frozen 2
   have f3:=HJ.ans.frozen 3
   have f4:=HJ.ans.frozen 4
   have f5:=HJ.ans.frozen 5
   have f6:=HJ.ans.frozen 6
   have f7:=HJ.ans.frozen 7
   have HF:Hid (LayR base M T G E en mp (lyA os (Lay.no a)) w (.returned (spV (lyA os (Lay.no a)).fst (lyA os (Lay.no a)).lst)) (setSp wr (w.heap.size+1) (lyA os (Lay.no a)).fst (lyA os (Lay.no a)).lst)∧BoxAt (setSp wr (w.heap.size+1) (lyA os (Lay.no a)).fst (lyA os (Lay.no a)).lst) w.heap.size 183 8 (w.heap.size+1) (spL (lyA os (Lay.no a)).fst (lyA os (Lay.no a)).lst)):=by
    obtain⟨f1,f2,f3⟩:=lay_fin HJ.mtr HJ.ans HJ.chg (lyA os (Lay.no a)).fst (lyA os (Lay.no a)).lst
    exact⟨⟨_,_,rfl,⟨f1,f3,HJ.at_⟩⟩,f2⟩
   go_wp2_with fail
   exact bodyPost_ret (v:=spV (lyA os (Lay.no a)).fst (lyA os (Lay.no a)).lst) (span_res158 (base:=w.heap.size) (g:=w.heap.size+1) rfl HF.2) rfl HF.1
set_option maxHeartbeats 4000000 in
theorem lay_altnode {base:Nat} {w0:World} {os:List (List Pat)} {g0 n cp0:Nat} (H:∀(M:Nat) (T:Nat→PS) (G cp a:Nat) (E:Nat→PS) (en:PS) (mp:Nat) (w:World),MtrI w base M T G cp a E en mp→Below base w0 w→a+wtA os≤256→
 Calls Tryz.prog 158 #[.pointer (some ⟨M,0,none⟩),.agg #[.slice (some ⟨g0,0,none⟩) n cp0]] w (LayR base M T G E en mp (lyA os (Lay.no a)) w)):LyC base w0 (.alt os) (.iface 142 (.agg #[.slice (some ⟨g0,0,none⟩) n cp0])):=by
 intro M T G cp a E en mp w h hw0 hwt
 obtain⟨l,hl⟩:=qE (lyA os (Lay.no a))
 have hl2:lyP (.alt os) a=l:=by rw[hl];simp only[lyP]
 simp only[wtP]at hwt
 obtain⟨W0,hW0⟩:=qE ((w.alloc (.cells zsA 183)).alloc (.cells #[.slice (some ⟨g0,0,none⟩) n cp0] 142):World)
 have HW0:Hid (BoxAt W0 w.heap.size 183 8 w.heap.size zsA.toList∧Below w.heap.size w W0∧MtrI W0 base M T G cp a E en mp):=by
  have b1:=boxAt_new w (base:=w.heap.size) (t:=183) (sz:=8) zsA (Nat.le_refl _) rfl
  have k0:Below w.heap.size w W0:=by rw[hW0];exact(qB).alloc (by simp) _
  refine⟨?_,k0,h.below k0⟩
  rw[hW0];exact b1.below (qB)
 have hM0:=h.ltM
 have hG0:=h.ltG
 have HL:Hid (Calls Tryz.prog 158 #[.pointer (some ⟨M,0,none⟩),.agg #[.slice (some ⟨g0,0,none⟩) n cp0]] W0 (LayR base M T G E en mp l W0)):=by
  rw[hl];exact H M T G cp a E en mp W0 HW0.2.2 (hw0.trans (HW0.2.1.mono (by omega))) (by omega)
 rw[hl2]
 clear h H hl hl2 hw0
 have hAs:=asAB #[.slice (some ⟨g0,0,none⟩) n cp0]
 have hAs2:=asAC #[.slice (some ⟨g0,0,none⟩) n cp0]
 have hAs3:=asAR #[.slice (some ⟨g0,0,none⟩) n cp0]
 have hAs4:=asAS #[.slice (some ⟨g0,0,none⟩) n cp0]
 have hAs5:=asAA #[.slice (some ⟨g0,0,none⟩) n cp0]
 go_enter Tryz.func135,Tryz.ntmps135
 go_wp2_with fail
 have hW0':=hW0
 simp only[zsA]at hW0'
 rw[←hW0']
 clear hW0 hW0' hAs hAs2 hAs3 hAs4 hAs5
 refine HL.mono ?_
 rintro e w5 ⟨G1,cp1,rfl,H1⟩
 have q0:=HW0.2.1.size
 have HB5:=HW0.1.chg H1.2.1 (by omega)
 have r0:=HB5.cell (j:=0) rfl
 have f0:=HB5.frozen 0
 have r1:=HB5.cell (j:=1) rfl
 have f1:=HB5.frozen 1
 have r2:=HB5.cell (j:=2) rfl
 have f2:=HB5.frozen 2
 have r3:=HB5.cell (j:=3) rfl
 have f3:=HB5.frozen 3
 have r4:=HB5.cell (j:=4) rfl
 have f4:=HB5.frozen 4
 have r5:=HB5.cell (j:=5) rfl
 have f5:=HB5.frozen 5
 have r6:=HB5.cell (j:=6) rfl
 have f6:=HB5.frozen 6
 have r7:=HB5.cell (j:=7) rfl
 exact zzQ20
theorem lay_seqs {base:Nat} {w0:World} {lo:Nat→Prop} (hlo:∀k,lo k→k<base) (hw5:base=w0.heap.size) {ts:List Pat} {u:Value} (h:SeqIs (fun t v=>wtP t≤500→LyC base w0 t v∧NulV w0 t v) w0 lo ts u) (hwt:wtS ts≤500):LqC base w0 ts u:=by
 rcases h with⟨rfl,rfl⟩|⟨g,cp,us,rfl,hul,hV,hN⟩
 ·exact laySeq_nil base w0
 ·exact laySeq_some hul hV (hlo g hV.blk) (fun i x t hx ht=>hN i x t hx ht (Nat.le_trans (wtS_mem (List.mem_of_getElem? ht)) hwt)) hw5
theorem lay_all {base:Nat} {w0:World} {lo:Nat→Prop} (hlo:∀k,lo k→k<base) (hw5:base=w0.heap.size):∀(n:Nat) {t:Pat} {v:Value},NodeIs n w0 lo t v→wtP t≤500→LyC base w0 t v
 |0,_,_,h,_=>h.elim
 |n+1,.byte b,v,h,_=>by
  rw[show v=byteV b from h]
  intro M T G cp a E en mp w hm _ hwt
  simp only[wtP]at hwt
  exact lay_byte b w hm (by omega)
 |n+1,.cls f,v,h,_=>by
  rw[show v=clsV f from h]
  intro M T G cp a E en mp w hm _ hwt
  simp only[wtP]at hwt
  exact lay_cls f w hm (by omega)
 |n+1,.rep t o r,v,⟨u,h1,h2⟩,hw=>by
  rw[h1]
  exact lay_rep (NodeOk.iface ⟨n,h2⟩) (lay_all hlo hw5 n h2 (by simpa only[wtP]using hw)) o r
 |n+1,.alt os,v,⟨u,h1,⟨g,cp,us,h2,h3,h4,h5⟩⟩,hw=>by
  rw[h1,h2]
  simp only[wtP]at hw
  refine lay_altnode (fun M T G cp' a E en mp w hm hw0 hwt=>layAlt_core h3 h4 (hlo g h4.blk) (fun i x ts hx hts=>?_) M T G cp' a E en mp w hm hw0 hwt)
  exact lay_seqs hlo hw5 ((h5 i x ts hx hts).mono (fun t v q hq=>⟨lay_all hlo hw5 n q hq,nul_all n q hq⟩) (fun _ _ q=>q)) (by have:=wtA_mem (List.mem_of_getElem? hts);omega)
def mtrZ (fv mv:Value):Array Value:=(Array.replicate 1024 (.int .u64 0))++#[fv,.int .u64 0,.int .u64 0,.int .u64 0,.int .u64 0,mv]
theorem build_mtr0 (a:Option Addr) (n c:Nat) (m:Option Nat) (w:World):(Instr.build 181 #[(1,.slice a n c),(3,.map m)]).run Tryz.prog w=.ok (.agg (mtrZ (.slice a n c) (.map m))) w:=by kernel_rfl
theorem mtrA_some:∃F:Value→Value→Array Value,∀fv mv,F fv mv=mtrZ fv mv:=⟨_,fun _ _=>rfl⟩
noncomputable def mtrA (fv mv:Value):Array Value:=Classical.choose mtrA_some fv mv
theorem mtrA_eq (fv mv:Value):mtrA fv mv=mtrZ fv mv:=Classical.choose_spec mtrA_some fv mv
theorem build_mtr (a:Option Addr) (n c:Nat) (m:Option Nat) (w:World):(Instr.build 181 #[(1,.slice a n c),(3,.map m)]).run Tryz.prog w=.ok (.agg (mtrA (.slice a n c) (.map m))) w:=by rw[mtrA_eq];exact build_mtr0 a n c m w
theorem mtrA_size (fv mv:Value):(mtrA fv mv).size=1030:=by rw[mtrA_eq];simp[mtrZ]
theorem mtrA_list (fv:Value) (mp:Nat):(mtrA fv (.map (some mp))).toList=rngV 1030 (mV (fun _=>sNo) fv sNo mp):=by
 rw[mtrA_eq]
 refine List.ext_getElem? (fun i=>?_)
 by_cases hi:i<1030
 ·rw[rngV_get hi]
  unfold mtrZ mV eV
  rw[Array.toList_append,Array.toList_replicate]
  by_cases h1:i<1024
  ·rw[List.getElem?_append_left (by simpa using h1),if_pos h1,wdN_no]
   rw[List.getElem?_replicate,if_pos h1];rfl
  ·rw[List.getElem?_append_right (by simpa using h1),if_neg h1]
   simp only[List.length_replicate,wdN_no]
   rcases(by omega:i=1024∨i=1025∨i=1026∨i=1027∨i=1028∨i=1029)with rfl|rfl|rfl|rfl|rfl|rfl<;>rfl
 ·rw[List.getElem?_eq_none (by simp[mtrZ];omega),List.getElem?_eq_none (by rw[rngV_len];omega)]
theorem mtr_made (w:World) (hT:TabD w) (u:Value):MtrI ((((w.alloc (.cells #[u] 142)).alloc (.cells z4 178)).alloc (.map #[] 0)).alloc (.cells (mtrA (.slice (some ⟨w.heap.size+1,0,none⟩) 1 1) (.map (some (w.heap.size+1+1)))) 181)) w.heap.size (w.heap.size+1+1+1) (fun _=>sNo) (w.heap.size+1) 1 1 (fun _=>sNo) sNo (w.heap.size+1+1):=by
 obtain⟨W1,hW1⟩:=qE (w.alloc (.cells #[u] 142):World)
 have k1:∀(x:World) (o:Obj),Below x.heap.size x (x.alloc o):=fun x o=>qB
 have z1:W1.heap.size=w.heap.size+1:=by rw[hW1];simp
 rw[←hW1]
 obtain⟨W2,hW2⟩:=qE (W1.alloc (.cells z4 178):World)
 have z2:W2.heap.size=w.heap.size+1+1:=by rw[hW2];simp[z1]
 have r2:W2.ownsRow w.heap.size 178 4 (.slice (some ⟨w.heap.size+1,0,none⟩) 1 1) 1 z4.toList:=by
  have:=World.ownsRow_lit W1 (base:=w.heap.size) (e:=178) (size:=4) z4 1 (by omega) (by decide) rfl
  rw[z1]at this
  rw[hW2];exact this
 rw[←hW2]
 obtain⟨W3,hW3⟩:=qE (W2.alloc (.map #[] 0):World)
 have z3:W3.heap.size=w.heap.size+1+1+1:=by rw[hW3];simp[z2]
 rw[←hW3]
 have h3:Below W2.heap.size W2 W3:=by rw[hW3];exact k1 _ _
 have b4:=boxAt_new W3 (base:=w.heap.size) (t:=181) (sz:=1030) (mtrA (.slice (some ⟨w.heap.size+1,0,none⟩) 1 1) (.map (some (w.heap.size+1+1)))) (by omega) (mtrA_size _ _)
 rw[mtrA_list,z3]at b4
 have hw:Below w.heap.size w W1:=by rw[hW1];exact k1 _ _
 have hw2:Below W1.heap.size W1 W2:=by rw[hW2];exact k1 _ _
 refine⟨b4,?_,fun p _ q=>rfl,?_,hT.lt⟩
 ·have r4:=own_chg (own_chg r2 (Chg.of_below h3 (S:=fun _=>False)) (fun _ _ q=>q)) (Chg.of_below (k1 W3 (.cells (mtrA (.slice (some ⟨w.heap.size+1,0,none⟩) 1 1) (.map (some (w.heap.size+1+1)))) 181)) (S:=fun _=>False)) (fun _ _ q=>q)
  have e:rngV (4*1) (eV (fun _=>sNo))=z4.toList:=by
   have:=eV_snoc (E:=fun _=>sNo) (a:=0) (fun _=>rfl)
   rw[←this];rfl
  rw[e];exact r4
 ·exact(((hT.chg (Chg.of_below hw (S:=fun _=>False)) (fun q=>q)).chg (Chg.of_below hw2 (S:=fun _=>False)) (fun q=>q)).chg (Chg.of_below h3 (S:=fun _=>False)) (fun q=>q)).chg (Chg.of_below (k1 W3 _) (S:=fun _=>False)) (fun q=>q)
def mkE (l:Lay):Nat→PS:=fun p q=>l.ed p q || (p==0 && l.fst q)
def mkT (l:Lay):Nat→PS:=fun b p=>l.tk p (UInt8.ofNat b)
def mkN (l:Lay) (em:Bool):PS:=fun p=>l.lst p || (em && p==0)
def MkR (os:List (List Pat)) (w:World) (e:Ending) (w':World):Prop:=∃M G cp mp,e=.returned (.pointer (some ⟨M,0,none⟩))∧
 Hid (MtrI w' w.heap.size M (mkT (lyA os (Lay.no 1))) G cp (lyA os (Lay.no 1)).nx (mkE (lyA os (Lay.no 1))) (mkN (lyA os (Lay.no 1)) (nulA os)) mp∧w'.heap[mp]?=some (.map #[] 0)∧w.heap.size≤mp∧Below w.heap.size w w')
theorem MtrI.ends4 {w:World} {base M:Nat} {T:Nat→PS} {G cp a:Nat} {E:Nat→PS} {en:PS} {mp:Nat} (h:MtrI w base M T G cp a E en mp):w.cell? ⟨M,1025,none⟩=some (.int .u64 (wdN en 0:Int))∧w.cell? ⟨M,1026,none⟩=some (.int .u64 (wdN en 1:Int))∧w.cell? ⟨M,1027,none⟩=some (.int .u64 (wdN en 2:Int))∧w.cell? ⟨M,1028,none⟩=some (.int .u64 (wdN en 3:Int))∧w.frozen? ⟨M,1025,none⟩=false∧w.frozen? ⟨M,1026,none⟩=false∧w.frozen? ⟨M,1027,none⟩=false∧w.frozen? ⟨M,1028,none⟩=false:=
 ⟨h.ends (j:=0) (by omega),h.ends (j:=1) (by omega),h.ends (j:=2) (by omega),h.ends (j:=3) (by omega),h.frzM _,h.frzM _,h.frzM _,h.frzM _⟩
theorem chg_map {S:Nat→Prop} {w w':World} {mp:Nat} (h:w.heap[mp]?=some (.map #[] 0)) (hc:Chg S w w') (hn:¬S mp):w'.heap[mp]?=some (.map #[] 0):=(hc.block mp (Array.getElem?_eq_some_iff.1 h).1 hn).trans h
theorem row_map {w:World} {base e size g n cp mp:Nat} {vs:List Value} (h:w.ownsRow base e size (.slice (some ⟨g,0,none⟩) n cp) n vs) (hm:w.heap[mp]?=some (.map #[] 0)):¬mp=g:=fun q=>by
 rcases h.2 with⟨h0,_⟩|⟨g',cap',cur,hv,_,hh,_⟩
 ·cases h0
 ·simp at hv
  rw[←hv.1,←q,hm]at hh
  cases hh
theorem make_ps (w:World):(Instr.makeSlice 175 (.int .i64 1) (.int .i64 1)).run Tryz.prog w=.ok (.slice (some ⟨w.heap.size,0,none⟩) 1 1) (w.alloc (.cells z4 178)):=by kernel_rfl
theorem make_mp (w:World):(Instr.makeMap 176 none).run Tryz.prog w=.ok (.map (some w.heap.size)) (w.alloc (.map #[] 0)):=by kernel_rfl
theorem wpList_build_mtr {ops:Array Oper} {rest:List Oper} {o:Oper} {a:Act} {Q:Exit→Act→World→Prop} (w:World) (hgd:o.guard=none) (x y:Operand) (ho:o.op=.build 181 #[(1,x),(3,y)]) {b:Option Addr} {n c:Nat} {m:Option Nat} (hx:a.eval x=.slice b n c) (hy:a.eval y=.map m)
  (h:wpList Tryz.prog ops Q rest (a.put o.dst (.agg (mtrA (.slice b n c) (.map m)))) w):wpList Tryz.prog ops Q (o::rest) a w:=by
 refine wpList_plain hgd fun K hK=>?_
 have hb:=build_mtr b n c m w
 unfold Oper.wp execOp
 simp only[ho,Sem.run_bind,Sem.run_pure,Result.andThen_ok,List.map_toArray,List.map_cons,List.map_nil,hx,hy,hb]
 exact hK _ _ h
set_option maxHeartbeats 8000000 in
theorem makeMatcher_core {lo:Nat→Prop} {d:Nat} {os:List (List Pat)} {u:Value} (w:World) (hT:TabD w) (hlo:∀k,lo k→k<w.heap.size) (hA:AltIs (NodeIs d w lo) w lo os u) (hwt:wtA os≤250):∃(sa:Option Addr) (sn sc:Nat),u=.slice sa sn sc∧Calls Tryz.prog 105 #[.agg #[.slice sa sn sc]] w (MkR os w):=by
 have hAl:=hA
 obtain⟨g,cp0,us,rfl,h3,h4,h5⟩:=hA
 refine⟨_,_,_,rfl,?_⟩
 obtain⟨n,hn⟩:=qE os.length
 have hLy:LyC w.heap.size w (.alt os) (.iface 142 (.agg #[.slice (some ⟨g,0,none⟩) os.length cp0])):=lay_all hlo rfl (d+1) (t:=.alt os) ⟨_,rfl,hAl⟩ (by simp only[wtP];omega)
 obtain⟨T0,c0,f0,hv,hT0,HC⟩:=nul_all (d+1) (w:=w) (lo:=lo) (t:=.alt os) (v:=.iface 142 (.agg #[.slice (some ⟨g,0,none⟩) os.length cp0])) ⟨_,rfl,hAl⟩ (by simp only[wtP];omega)
 simp only[Value.iface.injEq,Value.agg.injEq]at hv
 obtain⟨rfl,rfl⟩:=hv
 have hf0:f0=136:=by
  rcases hT0 with⟨q,_⟩|⟨q,_⟩|⟨q,_⟩|⟨_,q⟩
  ·exact absurd q (by decide)
  ·exact absurd q (by decide)
  ·exact absurd q (by decide)
  ·exact q
 subst hf0
 rw[←hn]at hLy HC⊢
 obtain⟨l,hl⟩:=qE (lyA os (Lay.no 1))
 have hl2:lyP (.alt os) 1=l:=by rw[hl];simp only[lyP]
 obtain⟨em,hem⟩:=qE (nulA os)
 have HNul:Hid (∀w',Below w.heap.size w w'→Calls Tryz.prog 136 #[.agg #[.slice (some ⟨g,0,none⟩) n cp0]] w' fun e w''=>e=.returned (.bool em)∧Below w'.heap.size w' w''):=fun w' hw=>by
  have:=HC.out w' hw;rw[hem];simpa only[nulB]using this
 obtain⟨W0,hW0⟩:=qE ((((w.alloc (.cells #[.slice (some ⟨g,0,none⟩) n cp0] 142)).alloc (.cells z4 178)).alloc (.map #[] 0)).alloc (.cells (mtrA (.slice (some ⟨w.heap.size+1,0,none⟩) 1 1) (.map (some (w.heap.size+1+1)))) 181):World)
 have k0:Below w.heap.size w W0:=by rw[hW0];exact(((qB).alloc (by simp) _).alloc (by simp;omega) _).alloc (by simp;omega) _
 have hmd:=mtr_made w hT (.slice (some ⟨g,0,none⟩) n cp0)
 rw[←hW0]at hmd
 have hmap:W0.heap[w.heap.size+1+1]?=some (.map #[] 0):=by
  rw[hW0]
  have z:(((w.alloc (.cells #[.slice (some ⟨g,0,none⟩) n cp0] 142)).alloc (.cells z4 178))).heap.size=w.heap.size+1+1:=by simp
  rw[←z]
  exact(Below.heap_alloc _ _ _ (by simp)).trans (World.alloc_heap_new _ _)
 have hnode:BoxAt W0 w.heap.size 142 1 w.heap.size [.slice (some ⟨g,0,none⟩) n cp0]:=by
  have k1:∀(x:World) (o:Obj),Below x.heap.size x (x.alloc o):=fun x o=>qB
  have b1:=boxAt_new w (base:=w.heap.size) (t:=142) (sz:=1) #[.slice (some ⟨g,0,none⟩) n cp0] (Nat.le_refl _) rfl
  rw[hW0];exact((b1.below (k1 _ _)).below (k1 _ _)).below (k1 _ _)
 have HL:Hid (Calls Tryz.prog 135 #[.pointer (some ⟨w.heap.size+1+1+1,0,none⟩),.iface 142 (.agg #[.slice (some ⟨g,0,none⟩) n cp0])] W0 (LayR w.heap.size (w.heap.size+1+1+1) (fun _=>sNo) (w.heap.size+1) (fun _=>sNo) sNo (w.heap.size+1+1) l W0)):=by
  rw[←hl2];exact hLy _ _ _ _ _ _ _ _ W0 hmd k0 (by simp only[wtP];omega)
 have HW0:Hid (W0.heap[w.heap.size+1+1]?=some (.map #[] 0)∧BoxAt W0 w.heap.size 142 1 w.heap.size [.slice (some ⟨g,0,none⟩) n cp0]∧Below w.heap.size w W0):=⟨hmap,hnode,k0⟩
 have hspl:Spt 1 l:=by rw[←hl2];exact(cor_P (.alt os) 1).spt
 have HSp:Hid (Spt 1 l∧l=lyA os (Lay.no 1)∧em=nulA os):=⟨hspl,hl,hem⟩
 have hbd:=build_mtr (some ⟨w.heap.size+1,0,none⟩) 1 1 (some (w.heap.size+1+1))
 have b0:=hnode.cell (j:=0) rfl
 have hsz:=mtrA_size (.slice (some ⟨w.heap.size+1,0,none⟩) 1 1) (.map (some (w.heap.size+1+1)))
 clear hAl h3 h4 h5 hLy HC hT0 hl hl2 hem hmd hmap hnode k0 hspl hlo hT hn
 have hmk:=make_ps
 have hmm:=make_mp
 go_enter Tryz.func105,Tryz.ntmps105
 go_upto_region 2 with(refine wpList_build_mtr _ rfl _ _ rfl rfl rfl ?_)
 rw[←hW0]
 clear hW0 hbd hsz hmk hmm
 go_wp2_with fail
 refine HL.mono ?_
 rintro e w1 ⟨G1,cp1,rfl,H1⟩
 obtain⟨W2,hW2⟩:=qE (w1.alloc (.cells (spL l.fst l.lst).toArray 183):World)
 have k2:Below w1.heap.size w1 W2:=by rw[hW2];exact qB
 have HW2:Hid (MtrI W2 w.heap.size (w.heap.size+1+1+1) (withT (fun _=>sNo) l) G1 cp1 l.nx (withE (fun _=>sNo) l) sNo (w.heap.size+1+1)∧BoxAt W2 w.heap.size 142 1 w.heap.size [.slice (some ⟨g,0,none⟩) n cp0]∧BoxAt W2 w.heap.size 183 8 w1.heap.size (spL l.fst l.lst)∧W2.heap[w.heap.size+1+1]?=some (.map #[] 0)∧Below w.heap.size w W2):=by
  have q1:=HW0.2.2.size
  have q2:=H1.2.1.size
  have hnd:=HW0.2.1.chg H1.2.1 (by omega)
  have hmp:=chg_map HW0.1 H1.2.1 (by omega)
  have hb1:Below w.heap.size w w1:=Chg.below HW0.2.2 H1.2.1 q1 (fun k q=>by omega)
  exact⟨H1.1.below k2,hnd.below k2,by rw[hW2];exact boxAt_new w1 _ (by omega) rfl,chg_map hmp (Chg.of_below k2 (S:=fun _=>False)) (fun q=>q),hb1.trans (k2.mono (by omega))⟩
 have hnx:1≤l.nx:=HSp.1.le
 have hcap:=HW2.1.caps
 have z0:(0:Int)<(l.nx:Int):=by omega
 have z00:0<l.nx:=by omega
 have c0:=HW2.1.fol
 obtain⟨g0,g1,g2,g3,g4,g5,g6,g7⟩:=HW2.2.2.1.c8
 obtain⟨e0,e1,e2,e3,y0,y1,y2,y3⟩:=HW2.1.edge4 (p:=0) (by omega)
 simp only[Nat.zero_mul,Nat.zero_add]at e0 e1 e2 e3 y0 y1 y2 y3
 clear b0 HL H1
 go_upto_region 3 with fail
 have hW2':=hW2
 simp only[spL]at hW2'
 rw[←hW2']
 clear hW2 hW2' k2
 have HS0:Hid (W2.drew.cell? ⟨w.heap.size+1+1+1,1024,none⟩=some (.slice (some ⟨G1,0,none⟩) l.nx cp1)∧W2.drew.cell? ⟨w1.heap.size,0,none⟩=some (.int .u64 (wdN l.fst 0:Int))∧W2.drew.cell? ⟨w1.heap.size,1,none⟩=some (.int .u64 (wdN l.fst 1:Int))∧W2.drew.cell? ⟨w1.heap.size,2,none⟩=some (.int .u64 (wdN l.fst 2:Int))∧W2.drew.cell? ⟨w1.heap.size,3,none⟩=some (.int .u64 (wdN l.fst 3:Int))):=⟨c0,g0,g1,g2,g3⟩
 refine wp_region_T 7 (fun wz=>wz.cell? ⟨w.heap.size+1+1+1,1024,none⟩=some (.slice (some ⟨G1,0,none⟩) l.nx cp1)∧wz.cell? ⟨w1.heap.size,0,none⟩=some (.int .u64 (wdN l.fst 0:Int))∧wz.cell? ⟨w1.heap.size,1,none⟩=some (.int .u64 (wdN l.fst 1:Int))∧wz.cell? ⟨w1.heap.size,2,none⟩=some (.int .u64 (wdN l.fst 2:Int))∧wz.cell? ⟨w1.heap.size,3,none⟩=some (.int .u64 (wdN l.fst 3:Int))) (by kernel_rfl) ?_
 refine anyT_take (i:=0) (v:=?vm0) rfl (by kernel_rfl) (by kernel_rfl) (by kernel_rfl) (by kernel_rfl) (by decide) (fun _ _ _ h=>h) (Or.inl ⟨by rfl,?ym0⟩) HS0.out ?_
 case ym0=>exact zzR9
 try simp only[qA,List.getElem_toArray,List.getElem_cons_zero,List.getElem_cons_succ]
 refine anyT_take (i:=1) (v:=?vm1) rfl (by kernel_rfl) (by kernel_rfl) (by kernel_rfl) (by kernel_rfl) (by decide) (fun _ _ _ h=>h) (Or.inl ⟨by rfl,?ym1⟩) HS0.out ?_
 case ym1=>exact zzR9
 try simp only[qA,List.getElem_toArray,List.getElem_cons_zero,List.getElem_cons_succ]
 refine anyT_take (i:=2) (v:=?vm2) rfl (by kernel_rfl) (by kernel_rfl) (by kernel_rfl) (by kernel_rfl) (by decide) (fun _ _ _ h=>h) (Or.inl ⟨by rfl,?ym2⟩) HS0.out ?_
 case ym2=>exact zzR9
 try simp only[qA,List.getElem_toArray,List.getElem_cons_zero,List.getElem_cons_succ]
 refine anyT_take (i:=3) (v:=?vm3) rfl (by kernel_rfl) (by kernel_rfl) (by kernel_rfl) (by kernel_rfl) (by decide) (fun _ _ _ h=>h) (Or.inl ⟨by rfl,?ym3⟩) HS0.out ?_
 case ym3=>exact zzR9
 try simp only[qA,List.getElem_toArray,List.getElem_cons_zero,List.getElem_cons_succ]
 refine anyT_take (i:=4) (v:=?vm4) rfl (by kernel_rfl) (by kernel_rfl) (by kernel_rfl) (by kernel_rfl) (by decide) (fun _ _ _ h=>h) (Or.inl ⟨by rfl,?ym4⟩) HS0.out ?_
 case ym4=>exact zzR9
 try simp only[qA,List.getElem_toArray,List.getElem_cons_zero,List.getElem_cons_succ]
 refine anyT_take (i:=5) (v:=?vm5) rfl (by kernel_rfl) (by kernel_rfl) (by kernel_rfl) (by kernel_rfl) (by decide) (fun _ _ _ h=>h) (Or.inl ⟨by rfl,?ym5⟩) HS0.out ?_
 case ym5=>exact zzR9
 try simp only[qA,List.getElem_toArray,List.getElem_cons_zero,List.getElem_cons_succ]
 refine anyT_take (i:=6) (v:=?vm6) rfl (by kernel_rfl) (by kernel_rfl) (by kernel_rfl) (by kernel_rfl) (by decide) (fun _ _ _ h=>h) (Or.inl ⟨by rfl,?ym6⟩) HS0.out ?_
 case ym6=>exact zzR9
 try simp only[qA,List.getElem_toArray,List.getElem_cons_zero,List.getElem_cons_succ]
 refine qO 7 rfl fun K hK=>?_
 go_simp
 refine hK.out _ _ (.inl rfl) ?_
 clear hK
 try simp only[qA,List.getElem_toArray,List.getElem_cons_zero,List.getElem_cons_succ]
 refine qD ?_
 obtain⟨W3,hW3⟩:=qE ((set4 W2 G1 0 l.fst).drew:World)
 have hG1:w.heap.size≤G1:=HW2.1.ltG.1
 have HW3:Hid (MtrI W3 w.heap.size (w.heap.size+1+1+1) (withT (fun _=>sNo) l) G1 cp1 l.nx (updE (withE (fun _=>sNo) l) 0 l.fst) sNo (w.heap.size+1+1)∧BoxAt W3 w.heap.size 142 1 w.heap.size [.slice (some ⟨g,0,none⟩) n cp0]∧BoxAt W3 w.heap.size 183 8 w1.heap.size (spL l.fst l.lst)∧W3.heap[w.heap.size+1+1]?=some (.map #[] 0)∧Below w.heap.size w W3):=by
  have kd:Below (set4 W2 G1 0 l.fst).heap.size (set4 W2 G1 0 l.fst) W3:=by rw[hW3];exact(Below.refl _ _).drew
  have hc:Chg (fun k=>k=G1) W2 W3:=(chg_set4 (S:=fun k=>k=G1) W2 G1 0 l.fst rfl).trans (Chg.of_below kd)
  have hm:=HW2.1.setE (p:=0) (by omega) l.fst
  simp only[Nat.mul_zero]at hm
  have hm:=hm.below kd
  have hb:∀{t sz g:Nat} {vs:List Value},t≠178→BoxAt W2 w.heap.size t sz g vs→BoxAt W3 w.heap.size t sz g vs:=fun hne h=>h.chg hc (fun q=>own_apart HW2.1.row h (fun e=>hne e.symm) G1 rfl (by rw[←q];rfl))
  have hmp:=HW2.2.2.2.1
  exact⟨hm,hb (by decide) HW2.2.1,hb (by decide) HW2.2.2.1,chg_map hmp hc (row_map HW2.1.row hmp),Chg.below HW2.2.2.2.2 hc HW2.2.2.2.2.size (fun k q=>by omega)⟩
 have hW3':=hW3
 simp only[set4,Nat.zero_add]at hW3'
 rw[←hW3']
 clear hW3 hW3' HS0 c0 e0 e1 e2 e3 y0 y1 y2 y3 g0 g1 g2 g3 g4 g5 g6 g7
 obtain⟨e0,e1,e2,e3,y0,y1,y2,y3⟩:=HW3.1.ends4
 have g4:=HW3.2.2.1.cell (j:=4) rfl
 have g5:=HW3.2.2.1.cell (j:=5) rfl
 have g6:=HW3.2.2.1.cell (j:=6) rfl
 have g7:=HW3.2.2.1.cell (j:=7) rfl
 go_upto_region 5 with fail
 obtain⟨W4,hW4⟩:=qE (set4 W3 (w.heap.size+1+1+1) 1025 l.lst:World)
 have HW4:Hid (MtrI W4 w.heap.size (w.heap.size+1+1+1) (mkT l) G1 cp1 l.nx (mkE l) l.lst (w.heap.size+1+1)∧BoxAt W4 w.heap.size 142 1 w.heap.size [.slice (some ⟨g,0,none⟩) n cp0]∧W4.heap[w.heap.size+1+1]?=some (.map #[] 0)∧Below w.heap.size w W4):=by
  have hc:Chg (fun k=>k=(w.heap.size+1+1+1)) W3 W4:=by rw[hW4];exact chg_set4 _ _ _ _ rfl
  have hm:=HW3.1.setEn l.lst
  rw[←hW4]at hm
  refine⟨hm.iff (fun b p _ _=>by simp[mkT,withT,sNo]) (fun q p _ _=>?_) (fun p hp q=>?_),HW3.2.1.chg hc (by omega),chg_map HW3.2.2.2.1 hc (by omega),Chg.below HW3.2.2.2.2 hc HW3.2.2.2.2.size (fun k q=>by omega)⟩
  ·unfold mkE updE
   by_cases h0:q=0
   ·subst h0
    have he:l.ed 0 p=false:=by
     cases hx:l.ed 0 p with
     |false=>rfl
     |true=>have:=(HSp.1.ed 0 p hx).1.1;omega
    simp[he]
   ·rw[if_neg h0];simp[withE,sNo,h0]
  ·have h0:¬p=0:=by omega
   have:=hm.new p hp q
   unfold updE at this
   rw[if_neg h0]at this
   simp[withE,sNo]at this
   simp[mkE,this,h0]
 have hW4':=hW4
 simp only[set4,Nat.reduceAdd]at hW4'
 rw[←hW4']
 clear hW4 hW4' e0 e1 e2 e3 y0 y1 y2 y3 g4 g5 g6 g7
 have b0:=HW4.2.1.cell (j:=0) rfl
 go_wp2_with fail
 refine(HNul.out _ HW4.2.2.2).mono ?_
 rintro e w5 ⟨rfl,hb5⟩
 have HW5:Hid (MtrI w5 w.heap.size (w.heap.size+1+1+1) (mkT l) G1 cp1 l.nx (mkE l) l.lst (w.heap.size+1+1)∧w5.heap[w.heap.size+1+1]?=some (.map #[] 0)∧Below w.heap.size w w5):=⟨HW4.1.below hb5,chg_map HW4.2.2.1 (Chg.of_below hb5 (S:=fun _=>False)) (fun q=>q),HW4.2.2.2.trans (hb5.mono HW4.2.2.2.size)⟩
 clear hb5 b0
 cases em with
 |false=>
  go_wp2_with fail
  go_ret
  refine⟨_,G1,cp1,w.heap.size+1+1,rfl,?_⟩
  rw[←HSp.2.1,←HSp.2.2]
  exact⟨HW5.1.iffEn (fun p _=>by simp[mkN]),HW5.2.1,by omega,HW5.2.2⟩
 |true=>
  obtain⟨e0,e1,e2,e3,y0,y1,y2,y3⟩:=HW5.1.ends4
  have HWi:Hid (∀wx:World,Calls Tryz.prog 137 #[psV l.lst,.int .i64 0] wx fun e w'=>e=.returned (psV (sOr l.lst (sOne 0)))∧Below wx.heap.size wx w'):=fun wx=>with_core l.lst 0 (by omega) wx
  go_wp2_with fail
  refine(HWi.out _).mono ?_
  rintro e w6 ⟨rfl,hb6⟩
  have h6:=HW5.1.below hb6
  clear e0 e1 e2 e3 y0 y1 y2 y3
  obtain⟨e0,e1,e2,e3,y0,y1,y2,y3⟩:=h6.ends4
  have HF:Hid (MkR os w (.returned (.pointer (some ⟨w.heap.size+1+1+1,0,none⟩))) (set4 w6 (w.heap.size+1+1+1) 1025 (sOr l.lst (sOne 0)))):=by
   have hc:Chg (fun k=>k=(w.heap.size+1+1+1)) w6 (set4 w6 (w.heap.size+1+1+1) 1025 (sOr l.lst (sOne 0))):=chg_set4 _ _ _ _ rfl
   have hb:Below w.heap.size w w6:=HW5.2.2.trans (hb6.mono HW5.2.2.size)
   have hmp:=chg_map HW5.2.1 (Chg.of_below hb6 (S:=fun _=>False)) (fun q=>q)
   refine⟨_,G1,cp1,w.heap.size+1+1,rfl,?_⟩
   rw[←HSp.2.1,←HSp.2.2]
   exact⟨(h6.setEn _).iffEn (fun p _=>by simp[mkN,sOr,sOne]),chg_map hmp hc (by omega),by omega,Chg.below hb hc hb.size (fun k q=>by omega)⟩
  simp only[set4,Nat.reduceAdd]at HF
  clear h6 hb6
  go_wp2_with fail
  go_ret
  exact HF.out
end Go.Proofs.YtkidabedcgngcaaGreatDoor
namespace Go.Proofs.YtkidabedcgngcaaGreatDoor
set_option linter.unusedVariables false
set_option linter.unusedSimpArgs false
def stp (E T:Nat→PS) (S:PS) (c:UInt8):PS:=sAnd (ahd E S) (T c.toNat)
def runS (E T:Nat→PS):PS→List UInt8→PS
 |S,[]=>S
 |S,c::xs=>runS E T (stp E T S c) xs
theorem runS_snoc (E T:Nat→PS):∀(S:PS) (xs:List UInt8) (c:UInt8),runS E T S (xs++ [c])=stp E T (runS E T S xs) c
 |S,[],c=>rfl
 |S,x::xs,c=>runS_snoc E T (stp E T S x) xs c
theorem ahd_iff (E:Nat→PS) (S:PS) (q:Nat):ahd E S q=true↔∃p,p<256∧S p=true∧E p q=true:=by
 unfold ahd ahdT
 rw[List.any_eq_true]
 constructor
 ·rintro⟨p,hp,hx⟩
  rw[Bool.and_eq_true]at hx
  exact⟨p,List.mem_range.1 hp,hx.1,hx.2⟩
 ·rintro⟨p,hp,h1,h2⟩
  exact⟨p,List.mem_range.2 hp,by rw[h1,h2];rfl⟩
theorem stp_iff (l:Lay) (S:PS) (c:UInt8) (q:Nat):stp (mkE l) (mkT l) S c q=true↔(∃p,p<256∧S p=true∧mkE l p q=true)∧l.tk q c=true:=by
 unfold stp sAnd
 rw[Bool.and_eq_true,ahd_iff]
 have:mkT l c.toNat q=l.tk q c:=by unfold mkT;congr 1;simp
 rw[this]
theorem run_from (l:Lay) {a:Nat} (hs:Spt a l) (ha:1≤a) (hn:l.nx≤256):∀(xs:List UInt8) (S:PS),(∀p,S p=true→1≤p∧p<256)→∀q,runS (mkE l) (mkT l) S xs q=true↔∃p,S p=true∧Pth l p xs q
 | [],S,hS,q=>by
   constructor
   ·exact fun h=>⟨q,h,.nil q⟩
   ·rintro⟨p,hp,h⟩;cases h;exact hp
 |c::xs,S,hS,q=>by
  have hS':∀p,stp (mkE l) (mkT l) S c p=true→1≤p∧p<256:=fun p hp=>by
   have:=hs.tk p c ((stp_iff l S c p).1 hp).2
   omega
  show runS (mkE l) (mkT l) (stp (mkE l) (mkT l) S c) xs q=true↔_
  rw[run_from l hs ha hn xs _ hS' q]
  constructor
  ·rintro⟨p',hp',hP⟩
   obtain⟨⟨p,_,hp,he⟩,ht⟩:=(stp_iff l S c p').1 hp'
   have h1:=(hS p hp).1
   have he':l.ed p p'=true:=by
    unfold mkE at he
    have:(p==0)=false:=by rw[beq_eq_false_iff_ne];omega
    simpa [this]using he
   exact⟨p,hp,.step he' ht hP⟩
  ·rintro⟨p,hp,hP⟩
   cases hP with
   |step he ht hP=>
    refine⟨_,(stp_iff l S c _).2 ⟨⟨p,(hS p hp).2,hp,?_⟩,ht⟩,hP⟩
    unfold mkE
    rw[he];rfl
theorem run_all (l:Lay) (hs:Spt 1 l) (hn:l.nx≤256) (em:Bool) (xs:List UInt8):acc (mkN l em) (runS (mkE l) (mkT l) (sOne 0) xs)=true↔(xs= []∧em=true)∨Wd l xs:=by
 have hacc:∀S:PS,acc (mkN l em) S=true↔∃p,p<256∧S p=true∧mkN l em p=true:=fun S=>by
  unfold acc
  rw[List.any_eq_true]
  constructor
  ·rintro⟨p,hp,hx⟩
   rw[Bool.and_eq_true]at hx
   exact⟨p,List.mem_range.1 hp,hx.1,hx.2⟩
  ·rintro⟨p,hp,h1,h2⟩
   exact⟨p,List.mem_range.2 hp,by rw[h1,h2];rfl⟩
 rw[hacc]
 cases xs with
 |nil=>
  constructor
  ·rintro⟨p,_,hp,hN⟩
   have h0:p=0:=by simpa [runS,sOne]using hp
   subst h0
   unfold mkN at hN
   have hl:l.lst 0=false:=by
    cases hx:l.lst 0 with
    |false=>rfl
    |true=>have:=(hs.lst 0 hx).1;omega
   rw[hl]at hN
   exact .inl ⟨rfl,by simpa using hN⟩
  ·rintro(⟨_,h⟩|h)
   ·exact⟨0,by omega,rfl,by simp[mkN,h]⟩
   ·exact(wd_ne h).elim
 |cons c xs=>
  have hS':∀p,stp (mkE l) (mkT l) (sOne 0) c p=true→1≤p∧p<256:=fun p hp=>by
   have:=hs.tk p c ((stp_iff l _ c p).1 hp).2
   omega
  have hst:∀p,stp (mkE l) (mkT l) (sOne 0) c p=true↔l.fst p=true∧l.tk p c=true:=fun p=>by
   rw[stp_iff]
   constructor
   ·rintro⟨⟨p0,_,h0,he⟩,ht⟩
    have:p0=0:=by simpa [sOne]using h0
    subst this
    refine⟨?_,ht⟩
    have hl:l.ed 0 p=false:=by
     cases hx:l.ed 0 p with
     |false=>rfl
     |true=>have:=(hs.ed 0 p hx).1.1;omega
    simpa [mkE,hl]using he
   ·rintro⟨h1,h2⟩
    exact⟨⟨0,by omega,rfl,by simp[mkE,h1]⟩,h2⟩
  constructor
  ·rintro⟨q,_,hq,hN⟩
   obtain⟨p,hp,hP⟩:=(run_from l hs (Nat.le_refl _) hn xs _ hS' q).1 hq
   obtain⟨h1,h2⟩:=(hst p).1 hp
   have hq1:=(Pth.in hs hP (hs.fst p h1)).1
   have hl:l.lst q=true:=by
    unfold mkN at hN
    have:(q==0)=false:=by rw[beq_eq_false_iff_ne];omega
    simpa [this]using hN
   exact .inr ⟨c,xs,p,q,rfl,h1,h2,hP,hl⟩
  ·rintro(⟨h,_⟩|⟨c',xs',p,q,he,h1,h2,h3,h4⟩)
   ·cases h
   ·cases he
    refine⟨q,by have:=(hs.lst q h4).2;omega,?_,by simp[mkN,h4]⟩
    exact(run_from l hs (Nat.le_refl _) hn xs _ hS' q).2 ⟨p,(hst p).2 ⟨h1,h2⟩,h3⟩
theorem run_words (os:List (List Pat)) (hn:(lyA os (Lay.no 1)).nx≤256) (xs:List UInt8):acc (mkN (lyA os (Lay.no 1)) (nulA os)) (runS (mkE (lyA os (Lay.no 1))) (mkT (lyA os (Lay.no 1))) (sOne 0) xs)=true↔LgA os xs:=by
 have hc:=cor_P (.alt os) 1
 have e1:lyP (.alt os) 1=lyA os (Lay.no 1):=by simp only[lyP]
 have e2:nulB (.alt os)=nulA os:=by simp only[nulB]
 rw[e1,e2]at hc
 rw[run_all _ hc.spt hn,←hc.wd]
 simp only[Lg]
theorem runS_dead (E T:Nat→PS):∀(xs:List UInt8) (S:PS),(∀p,p<256→S p=false)→∀p,p<256→runS E T S xs p=false
 | [],S,h,p,hp=>h p hp
 |c::xs,S,h,p,hp=>by
  refine runS_dead E T xs (stp E T S c) (fun q hq=>?_) p hp
  cases hx:stp E T S c q with
  |false=>rfl
  |true=>
   unfold stp sAnd at hx
   rw[Bool.and_eq_true,ahd_iff]at hx
   obtain⟨⟨r,hr,h1,_⟩,_⟩:=hx
   rw[h r hr]at h1
   cases h1
end Go.Proofs.YtkidabedcgngcaaGreatDoor
namespace Go.Proofs.YtkidabedcgngcaaGreatDoor
open Go.ChangeShapes Go.WideShapes Go.ChangeAt Go.RowKit Go.Deep
set_option linter.unusedVariables false
set_option linter.unusedSimpArgs false
set_option maxRecDepth 100000
theorem runS_app (E T:Nat→PS):∀(S:PS) (xs ys:List UInt8),runS E T S (xs++ys)=runS E T (runS E T S xs) ys
 |S,[],ys=>rfl
 |S,x::xs,ys=>runS_app E T (stp E T S x) xs ys
end Go.Proofs.YtkidabedcgngcaaGreatDoor
namespace Go.Proofs.YtkidabedcgngcaaGreatDoor
set_option linter.unusedVariables false
set_option linter.unusedSimpArgs false
theorem chM_agree {p q:List UInt8} {i j k:Nat} {c:UInt8} (h:chM p i=(c,k,true)) (ha:∀t,i+t<k→q[j+t]?=p[i+t]?):chM q j=(c,j+(k-i),true):=by
 have hg:=chM_gt h
 have h0:=ha 0 (by omega)
 simp only[Nat.add_zero]at h0
 unfold chM at h⊢
 rw[h0]
 split at h
 ·cases h
 ·next d hd=>
  split at h
  ·cases h
  ·next hn=>
   rw[if_neg hn]
   split at h
   ·next h92=>
    rw[if_pos h92]
    split at h
    ·cases h
    ·next e he=>
     simp only[Prod.mk.injEq,and_true]at h
     obtain⟨rfl,rfl⟩:=h
     have h1:=ha 1 (by omega)
     rw[h1,he]
     simp only[Prod.mk.injEq,and_true,true_and]
     omega
   ·next h92=>
    rw[if_neg h92]
    simp only[Prod.mk.injEq,and_true]at h
    obtain⟨rfl,rfl⟩:=h
    simp only[Prod.mk.injEq,and_true,true_and]
    omega
theorem itemM_agree {p q:List UInt8} {i j k:Nat} {a b:UInt8} (h:itemM p i=.inl (a,b,k)) (ha:∀t,i+t≤k→q[j+t]?=p[i+t]?):itemM q j=.inl (a,b,j+(k-i)):=by
 unfold itemM at h⊢
 split at h
 ·cases h
 ·next lo k1 hk1=>
  have hg:=chM_gt hk1
  split at h
  ·next h45=>
   split at h
   ·cases h
   ·next hi m hm=>
    have hg2:=chM_gt hm
    split at h
    ·cases h
    ·next hle=>
     simp only[Sum.inl.injEq,Prod.mk.injEq]at h
     obtain⟨rfl,rfl,rfl⟩:=h
     have e1:=chM_agree (q:=q) (j:=j) hk1 (fun t ht=>ha t (by omega))
     have e2:q[j+(k1-i)]?=some 45:=by rw[ha (k1-i) (by omega),show i+(k1-i)=k1 by omega];exact h45
     have e3:=chM_agree (q:=q) (j:=j+(k1-i)+1) hm (fun t ht=>by have:=ha (k1-i+1+t) (by omega);rw[show j+(k1-i)+1+t=j+(k1-i+1+t)by omega,this];congr 1;omega)
     rw[e1]
     simp only[]
     rw[if_pos e2,e3]
     simp only[]
     rw[if_neg hle]
     simp only[Sum.inl.injEq,Prod.mk.injEq,true_and]
     omega
  ·next h45=>
   simp only[Sum.inl.injEq,Prod.mk.injEq]at h
   obtain⟨rfl,rfl,rfl⟩:=h
   have e1:=chM_agree (q:=q) (j:=j) hk1 (fun t ht=>ha t (by omega))
   have e2:¬q[j+(k1-i)]?=some 45:=by rw[ha (k1-i) (by omega),show i+(k1-i)=k1 by omega];exact h45
   rw[e1]
   simp only[]
   rw[if_neg e2]
theorem clsM_agree:∀(n:Nat) {p q:List UInt8} {i j k:Nat} {b:Bool} {f g:UInt8→Bool},p.length-i≤n→clsM p i b f=.inl (g,k)→(∀t,i+t<k→q[j+t]?=p[i+t]?)→clsM q j b f=.inl (g,j+(k-i))
 |n,p,q,i,j,k,b,f,g,hn,h,ha=>by
  have hg:=clsM_gt _ (Nat.le_refl _) h
  have h0:=ha 0 (by omega)
  simp only[Nat.add_zero]at h0
  rw[clsM]at h
  split at h
  ·next hi=>
   have hj:j<q.length:=by
    rw[List.getElem?_eq_getElem hi]at h0
    exact lt_of_at h0
   rw[clsM,dif_pos hj,h0]
   split at h
   ·next he=>
    rw[if_pos he]
    simp only[Sum.inl.injEq,Prod.mk.injEq]at h
    obtain⟨rfl,rfl⟩:=h
    simp only[Sum.inl.injEq,Prod.mk.injEq,true_and]
    omega
   ·next he=>
    rw[if_neg he]
    split at h
    ·cases h
    ·next a b' k' hk=>
     have h1:=itemM_gt hk
     have h2:=clsM_gt _ (Nat.le_refl _) h
     have e1:=itemM_agree (q:=q) (j:=j) hk (fun t ht=>ha t (by omega))
     match n,hn with
     |0,hn=>omega
     |n+1,hn=>
      have e2:=clsM_agree n (q:=q) (j:=j+(k'-i)) (by omega) h (fun t ht=>by have:=ha (k'-i+t) (by omega);rw[show j+(k'-i)+t=j+(k'-i+t)by omega,this];congr 1;omega)
      split
      ·next e hh=>rw[e1]at hh;cases hh
      ·next a2 b2 k2 hh=>
       rw[e1]at hh
       simp only[Sum.inl.injEq,Prod.mk.injEq]at hh
       obtain⟨rfl,rfl,rfl⟩:=hh
       rw[e2]
       simp only[Sum.inl.injEq,Prod.mk.injEq,true_and]
       omega
  ·cases h
theorem classM_agree {p q:List UInt8} {i j k:Nat} {g:UInt8→Bool} (h:classM p i=.inl (g,k)) (ha:∀t,i+t<k→q[j+t]?=p[i+t]?):classM q j=.inl (g,j+(k-i)):=by
 have hg:=classM_gt h
 have h0:=ha 0 (by omega)
 simp only[Nat.add_zero]at h0
 unfold classM at h⊢
 rw[h0]
 split at h
 ·next h94=>
  rw[if_pos h94]
  split at h
  ·next f k' hc=>
   have hg2:=clsM_gt _ (Nat.le_refl _) hc
   simp only[Sum.inl.injEq,Prod.mk.injEq]at h
   obtain⟨rfl,rfl⟩:=h
   have e:=clsM_agree _ (Nat.le_refl _) (q:=q) (j:=j+1) hc (fun t ht=>by have:=ha (1+t) (by omega);rw[show j+1+t=j+(1+t)by omega,this];congr 1;omega)
   rw[e]
   simp only[Sum.inl.injEq,Prod.mk.injEq,true_and]
   omega
  ·cases h
 ·next h94=>
  rw[if_neg h94]
  exact clsM_agree _ (Nat.le_refl _) h ha
inductive TokG (A:List UInt8→Pat→Prop):List UInt8→Prop
 |nil:TokG A []
 |sign {c:UInt8} {zs:List UInt8} (hc:c=124∨isOp c) (h:TokG A zs):TokG A (c::zs)
 |atom {xs zs:List UInt8} {t:Pat} (ha:A xs t) (h:TokG A zs):TokG A (xs++zs)
variable {A:List UInt8→Pat→Prop}
theorem TokG.cat {xs ys:List UInt8} (h:TokG A xs) (k:TokG A ys):TokG A (xs++ys):=by
 induction h with
 |nil=>exact k
 |sign hc _ ih=>exact .sign hc ih
 |atom ha _ ih=>rw[List.append_assoc];exact .atom ha ih
theorem TokG.ops:∀{l:List UInt8},(∀c∈l,isOp c)→TokG A l
 | [],_=>.nil
 |c::l,h=>.sign (.inr (h c (by simp))) (TokG.ops (fun d hd=>h d (by simp[hd])))
theorem RepG.tok {xs:List UInt8} {t:Pat}:RepG A xs t→TokG A xs
 |⟨ys,ops,a,h1,h2,h3,_⟩=>by rw[h1];exact .atom h2 (TokG.ops h3)
theorem SeqG.tok:∀{ts:List Pat} {xs:List UInt8},SeqG A ts xs→TokG A xs
 | [],_,h=>by rw[show _= []from h];exact .nil
 |_::_,_,⟨ys,zs,h1,h2,h3⟩=>by rw[h1];exact h2.tok.cat (SeqG.tok h3)
theorem AltG.tok:∀{os:List (List Pat)} {xs:List UInt8},AltG A os xs→TokG A xs
 | [],_,h=>h.elim
 | [_],_,h=>SeqG.tok h
 |_::_::_,_,⟨ys,zs,h1,h2,h3⟩=>by rw[h1];exact h2.tok.cat (.sign (.inl rfl) (AltG.tok h3))
theorem AtomG.first:∀{n:Nat} {xs:List UInt8} {t:Pat},AtomG n xs t→∃c ys,xs=c::ys∧¬c=41∧¬c=124∧¬isOp c
 |0,_,_,h=>h.elim
 |n+1,xs,t,h=>by
  rcases h with⟨c,rfl,hs,_⟩|⟨rfl,_⟩|⟨c,rfl,_⟩|⟨ys,os,rfl,_,_⟩|⟨p,i,k,f,h1,h2,rfl,_⟩
  ·exact⟨c,[],rfl,fun q=>hs (.inl (.inr (.inr (.inl q)))),fun q=>hs (.inl (.inr (.inl q))),fun q=>hs (.inl (.inl q))⟩
  ·exact⟨46,[],rfl,by decide,by decide,by decide⟩
  ·exact⟨92,[c],rfl,by decide,by decide,by decide⟩
  ·exact⟨40,ys++ [41],rfl,by decide,by decide,by decide⟩
  ·have hg:=classM_gt h2
   refine⟨91,cut p (i+1) k,?_,by decide,by decide,by decide⟩
   rw[cut_cat (show i≤i+1 by omega) (show i+1≤k by omega),cut_one h1]
   rfl
theorem class_here {p:List UInt8} {i k:Nat} {q:List UInt8} {j m:Nat} {f:UInt8→Bool} (h1:q[j]?=some 91) (h2:classM q (j+1)=.inl (f,m)) (hc:cut p i k=cut q j m) (hk:k≤p.length) (hik:i<k):p[i]?=some 91∧classM p (i+1)=.inl (f,k):=by
 have hg:=classM_gt h2
 have hl:k-i=m-j:=by have h3:=congrArg List.length hc;rw[cut_len hk,cut_len hg.2]at h3;exact h3
 have hat:∀t,t<k-i→p[i+t]?=q[j+t]?:=fun t ht=>by
  have h3:=congrArg (fun l=>l[t]?) hc
  simp only[cut,List.getElem?_take,List.getElem?_drop]at h3
  rw[if_pos ht,if_pos (by omega)]at h3
  exact h3
 refine⟨by have:=hat 0 (by omega);simpa [h1]using this,?_⟩
 have e:=classM_agree (q:=p) (j:=i+1) h2 (fun t ht=>by have:=hat (1+t) (by omega);rw[show i+1+t=i+(1+t)by omega,this];congr 1;omega)
 rw[e]
 simp only[Sum.inl.injEq,Prod.mk.injEq,true_and]
 omega
def isByte:Pat→Prop
 | .byte _=>True
 |_=>False
inductive TokN (A:List UInt8→Pat→Prop):Nat→List UInt8→Prop
 |nil:TokN A 0 []
 |bar {k:Nat} {zs:List UInt8} (h:TokN A k zs):TokN A (k+1) (124::zs)
 |op {k:Nat} {c:UInt8} {zs:List UInt8} (hc:isOp c) (h:TokN A k zs):TokN A k (c::zs)
 |atom {k:Nat} {xs zs:List UInt8} {t:Pat} (ha:A xs t) (h:TokN A k zs):TokN A k (xs++zs)
variable {A:List UInt8→Pat→Prop}
theorem TokN.cat {k m:Nat} {xs ys:List UInt8} (h:TokN A k xs) (q:TokN A m ys):TokN A (k+m) (xs++ys):=by
 induction h with
 |nil=>simpa using q
 |bar _ ih=>rw[show∀k,k+1+m=(k+m)+1 from fun k=>by omega];exact .bar ih
 |op hc _ ih=>exact .op hc ih
 |atom ha _ ih=>rw[List.append_assoc];exact .atom ha ih
theorem TokN.ops:∀{l:List UInt8},(∀c∈l,isOp c)→TokN A 0 l
 | [],_=>.nil
 |c::l,h=>.op (h c (by simp)) (TokN.ops (fun d hd=>h d (by simp[hd])))
theorem RepG.tokn {xs:List UInt8} {t:Pat}:RepG A xs t→TokN A 0 xs
 |⟨ys,ops,a,h1,h2,h3,_⟩=>by rw[h1];exact .atom h2 (TokN.ops h3)
theorem SeqG.tokn:∀{ts:List Pat} {xs:List UInt8},SeqG A ts xs→TokN A 0 xs
 | [],_,h=>by rw[show _= []from h];exact .nil
 |_::_,_,⟨ys,zs,h1,h2,h3⟩=>by rw[h1];simpa using h2.tokn.cat (SeqG.tokn h3)
theorem AltG.tokn:∀{os:List (List Pat)} {xs:List UInt8},AltG A os xs→∃k,os.length=k+1∧TokN A k xs
 | [],_,h=>h.elim
 | [_],_,h=>⟨0,rfl,SeqG.tokn h⟩
 |_::o::os,_,⟨ys,zs,h1,h2,h3⟩=>by
  obtain⟨k,hk,hT⟩:=AltG.tokn h3
  refine⟨k+1,by simp at hk⊢;omega,?_⟩
  rw[h1]
  have:=h2.tokn.cat (TokN.bar hT)
  simpa using this
theorem tokn_step {k:Nat} {xs:List UInt8} (h:TokN A k xs):(xs= []∧k=0)∨(∃m zs,xs=124::zs∧k=m+1∧TokN A m zs)∨(∃c zs,xs=c::zs∧isOp c∧TokN A k zs)∨(∃ys zs t,xs=ys++zs∧A ys t∧TokN A k zs):=by
 cases h with
 |nil=>exact .inl ⟨rfl,rfl⟩
 |bar h=>exact .inr (.inl ⟨_,_,rfl,rfl,h⟩)
 |op hc h=>exact .inr (.inr (.inl ⟨_,_,rfl,hc,h⟩))
 |atom ha h=>exact .inr (.inr (.inr ⟨_,_,_,rfl,ha,h⟩))
theorem cutHead {p:List UInt8} {j m:Nat} {c:UInt8} {zs:List UInt8} (h:cut p j m=c::zs) (hm:m≤p.length):p[j]?=some c∧cut p (j+1) m=zs∧j<m:=by
 exact zzQ48
theorem cutTwo {p:List UInt8} {j m:Nat} {xs zs:List UInt8} (h:cut p j m=xs++zs) (hm:m≤p.length) (hjm:j≤m):cut p j (j+xs.length)=xs∧cut p (j+xs.length) m=zs∧j+xs.length≤m:=by
 have hl:=congrArg List.length h
 rw[cut_len hm,List.length_append]at hl
 exact zzQ60
theorem AtomG.byte:∀{n:Nat} {xs:List UInt8} {t:Pat},AtomG n xs t→∃c ys,xs=c::ys∧((∃b,t=.byte b∧xs.getLast?=some b∧(¬special c∨c=92))∨(¬isByte t∧special c∧¬c=92))
 |0,_,_,h=>h.elim
 |n+1,xs,t,h=>by
  rcases h with⟨c,rfl,hs,rfl⟩|⟨rfl,rfl⟩|⟨c,rfl,rfl⟩|⟨ys,os,rfl,_,rfl⟩|⟨p,i,k,f,h1,h2,rfl,rfl⟩
  ·exact⟨c,[],rfl,.inl ⟨c,rfl,rfl,.inl hs⟩⟩
  ·exact⟨46,[],rfl,.inr ⟨fun h=>h,by decide,by decide⟩⟩
  ·exact⟨92,[c],rfl,.inl ⟨c,rfl,rfl,.inr rfl⟩⟩
  ·exact⟨40,ys++ [41],rfl,.inr ⟨fun h=>h,by decide,by decide⟩⟩
  ·have hg:=classM_gt h2
   refine⟨91,cut p (i+1) k,?_,.inr ⟨fun h=>h,by decide,by decide⟩⟩
   rw[cut_cat (show i≤i+1 by omega) (show i+1≤k by omega),cut_one h1]
   rfl
inductive Tag (n:Nat):UInt8→List UInt8→Pat→Prop
 |plain {c:UInt8} (h:¬special c):Tag n c [] (.byte c)
 |dot:Tag n 46 [] (.cls (fun _=>true))
 |esc {d:UInt8}:Tag n 92 [d] (.byte d)
 |group {ys:List UInt8} {os:List (List Pat)} (h:AltG (AtomG n) os ys):Tag n 40 (ys++ [41]) (.alt os)
 |cls {zs:List UInt8} {f:UInt8→Bool} (h:∀r,classM (91::zs++r) 1=.inl (f,zs.length+1)):Tag n 91 zs (.cls f)
theorem AtomG.tag {n:Nat} {xs:List UInt8} {t:Pat} (h:AtomG (n+1) xs t):∃c zs,xs=c::zs∧Tag n c zs t:=by
 rcases h with⟨c,rfl,hs,rfl⟩|⟨rfl,rfl⟩|⟨c,rfl,rfl⟩|⟨ys,os,rfl,ho,rfl⟩|⟨p,i,k,f,h1,h2,rfl,rfl⟩
 ·exact⟨c,[],rfl,.plain hs⟩
 ·exact⟨46,[],rfl,.dot⟩
 ·exact⟨92,[c],rfl,.esc⟩
 ·exact⟨40,ys++ [41],rfl,.group ho⟩
 ·have hg:=classM_gt h2
  have e:cut p i k=91::cut p (i+1) k:=by
   rw[cut_cat (show i≤i+1 by omega) (show i+1≤k by omega),cut_one h1];rfl
  refine⟨91,_,e,.cls fun r=>?_⟩
  have hl:=congrArg List.length e
  rw[List.length_cons]at hl
  have h3:=class_here (p:=91::cut p (i+1) k++r) (i:=0) (k:=(cut p (i+1) k).length+1) h1 h2 ?_ (by simp) (by omega)
  ·exact h3.2
  ·rw[←hl,←e]
   show(List.drop 0 (cut p i k++r)).take ((cut p i k).length-0)=_
   rw[List.drop_zero,Nat.sub_zero,List.take_left]
theorem tok_one {A B:List UInt8→Pat→Prop} (hA:∀ys t,A ys t→∃c zs,ys=c::zs∧¬c=41∧¬c=124∧¬isOp c) (hB:∀ys t,B ys t→∃c zs,ys=c::zs∧¬c=41∧¬c=124∧¬isOp c)
  (U:∀xs ys t t' r r',A xs t→B ys t'→xs++r=ys++r'→xs=ys) {xs:List UInt8} (h:TokG A xs):∀{ys r r':List UInt8},TokG B ys→xs++41::r=ys++41::r'→xs=ys:=by
 induction h with
 |nil=>
  intro ys r r' k e
  cases k with
  |nil=>rfl
  |sign hc _=>
   simp at e
   exfalso
   rw[←e.1]at hc
   rcases hc with q|q|q|q<;>exact absurd q (by decide)
  |atom ha _=>
   obtain⟨c,zs,rfl,n41,_⟩:=hB _ _ ha
   simp at e
   exact absurd e.1.symm n41
 | @sign c zs hc h ih=>
   intro ys r r' k e
   cases k with
   |nil=>
    simp at e
    exfalso
    rw[e.1]at hc
    rcases hc with q|q|q|q<;>exact absurd q (by decide)
   |sign hc' k'=>
    simp at e
    rw[e.1,ih k' e.2]
   |atom ha _=>
    obtain⟨c,zs,rfl,_,n124,nop⟩:=hB _ _ ha
    simp at e
    rw[e.1]at hc
    exact absurd hc (fun q=>q.elim n124 nop)
 | @atom us zs t ha h ih=>
   intro ys r r' k e
   cases k with
   |nil=>
    obtain⟨c,zs,rfl,n41,_⟩:=hA _ _ ha
    simp at e
    exact absurd e.1 n41
   |sign hc' k'=>
    obtain⟨c,zs,rfl,_,n124,nop⟩:=hA _ _ ha
    simp at e
    rw[←e.1]at hc'
    exact absurd hc' (fun q=>q.elim n124 nop)
   |atom hb k'=>
    rw[List.append_assoc,List.append_assoc]at e
    have q:=U _ _ _ _ _ _ ha hb e
    subst q
    rw[ih k' (List.append_cancel_left e)]
theorem atom_one:∀{n m:Nat} {xs ys:List UInt8} {t t':Pat} {r r':List UInt8},AtomG n xs t→AtomG m ys t'→xs++r=ys++r'→xs=ys
 |0,_,_,_,_,_,_,_,h,_,_=>h.elim
 |_+1,0,_,_,_,_,_,_,_,h,_=>h.elim
 |n+1,m+1,xs,ys,t,t',r,r',h,k,e=>by
  obtain⟨c,zs,rfl,hT⟩:=h.tag
  obtain⟨c',zs',rfl,hT'⟩:=k.tag
  simp only[List.cons_append,List.cons.injEq]at e
  obtain⟨rfl,e⟩:=e
  congr 1
  cases hT with
  |plain h1=>
   cases hT' with
   |plain _=>rfl
   |dot=>rfl
   |esc=>exact absurd h1 (by decide)
   |group _=>exact absurd h1 (by decide)
   |cls _=>exact absurd h1 (by decide)
  |dot=>
   cases hT' with
   |plain _=>rfl
   |dot=>rfl
  |esc=>
   cases hT' with
   |plain h1=>exact absurd h1 (by decide)
   |esc=>simp at e;rw[e.1]
  |group h1=>
   cases hT' with
   |plain h1=>exact absurd h1 (by decide)
   |group h2=>
    rw[List.append_assoc,List.append_assoc]at e
    rw[tok_one (fun ys t q=>q.first) (fun ys t q=>q.first) (fun xs ys t t' r r' a b e=>atom_one a b e) h1.tok h2.tok e]
  |cls h1=>
   cases hT' with
   |plain h1=>exact absurd h1 (by decide)
   |cls h2=>
    have a:=h1 r
    have b:=h2 r'
    rw[List.cons_append,e]at a
    rw[List.cons_append,a]at b
    simp at b
    exact(List.append_inj e b.2).1
end Go.Proofs.YtkidabedcgngcaaGreatDoor
namespace Go.Proofs.YtkidabedcgngcaaGreatDoor
open Go.ChangeShapes Go.WideShapes Go.ChangeAt Go.RowKit Go.Deep
set_option linter.unusedVariables false
set_option linter.unusedSimpArgs false
set_option maxRecDepth 100000
abbrev ub (x:UInt8):Value:=.int .u8 (x.toNat:Int)
def BysAt (w:World) (b off:Nat) (xs:List UInt8):Prop:=∀i x,xs[i]?=some x→w.cell? ⟨b,off+i,none⟩=some (ub x)
def OwnY (w:World) (base g cp:Nat) (xs:List UInt8):Prop:=w.ownsRow base 5 1 (.slice (some ⟨g,0,none⟩) xs.length cp) xs.length (xs.map ub)
theorem OwnY.lt {w:World} {base g cp:Nat} {xs:List UInt8} (h:OwnY w base g cp xs):base≤g∧g<w.heap.size:=World.ownsRow.lt h g rfl
theorem OwnY.at {w:World} {base g cp:Nat} {xs:List UInt8} (h:OwnY w base g cp xs):BysAt w g 0 xs:=by
 intro k x hx
 have hk:=(List.getElem?_eq_some_iff.1 hx).1
 rw[Nat.zero_add,World.ownsRow.cellAt h k (by omega),List.getElem?_map,hx];rfl
theorem NodeOk.kind {w:World} {lo:Nat→Prop} {t:Pat} {v:Value} (h:NodeOk w lo t v):(∃b,t=.byte b∧v=byteV b)∨(¬isByte t∧∃T cs,v=.iface T (.agg cs)∧(T=217∨T=219∨T=142)):=by
 obtain⟨n,hn⟩:=h
 cases n with
 |zero=>exact hn.elim
 |succ n=>
  cases t with
  |byte b=>exact .inl ⟨b,rfl,hn⟩
  |cls f=>exact .inr ⟨fun h=>h,_,_,hn,.inl rfl⟩
  |rep t o r=>obtain⟨u,h1,_⟩:=hn;exact .inr ⟨fun h=>h,_,_,h1,.inr (.inl rfl)⟩
  |alt os=>obtain⟨u,h1,_⟩:=hn;exact .inr ⟨fun h=>h,_,_,h1,.inr (.inr rfl)⟩
theorem pref_is (p:ByteArray) (hp:p.size≤maxLen):(checkM (sb p)).1=0→∃os,AltOk (sb p) 0 0 p.size os:=by
 intro h
 obtain⟨e,w',fr,⟨u,_,_,(⟨_,os,h1,_⟩|⟨h1,_⟩)⟩,_⟩:=readPattern_core p default hp []
 ·exact⟨os,h1⟩
 ·exact absurd h h1
set_option maxHeartbeats 1000000 in
theorem matches_long (M:Nat) (s:ByteArray) (hs:200<s.size) (w:World):Calls Tryz.prog 106 #[.pointer (some ⟨M,0,none⟩),.string s] w fun e w'=>e=.returned (.bool false)∧w'=w:=by
 have zs:(200:Int)<(s.size:Int):=by omega
 go_enter Tryz.func106,Tryz.ntmps106
 go_wp2_with fail
 go_ret
 exact⟨rfl,rfl⟩
theorem cut_head {p:List UInt8} {j m:Nat} {c:UInt8} {zs:List UInt8} (h:cut p j m=c::zs) (hm:m≤p.length):p[j]?=some c∧cut p (j+1) m=zs∧j<m:=by
 exact zzQ48
theorem cut_two {p:List UInt8} {j m:Nat} {xs zs:List UInt8} (h:cut p j m=xs++zs) (hm:m≤p.length):cut p j (j+xs.length)=xs∧cut p (j+xs.length) m=zs∧j+xs.length≤max j m:=by
 have hl:=congrArg List.length h
 rw[cut_len hm,List.length_append]at hl
 by_cases hjm:j≤m
 ·exact zzQ60
 ·have hx:xs= []:=List.length_eq_zero_iff.1 (by omega)
  subst hx
  refine⟨by simp[cut_nil],by simpa using h,by simp;omega⟩
theorem tok_step {A:List UInt8→Pat→Prop} {xs:List UInt8} (h:TokG A xs) (hA:∀ys t,A ys t→ys≠ []):xs= []∨(∃c zs,xs=c::zs∧(c=124∨isOp c)∧TokG A zs)∨(∃ys zs t,xs=ys++zs∧A ys t∧TokG A zs):=by
 cases h with
 |nil=>exact .inl rfl
 |sign hc h=>exact .inr (.inl ⟨_,_,rfl,hc,h⟩)
 |atom ha h=>exact .inr (.inr ⟨_,_,_,rfl,ha,h⟩)
def EndC (p:ByteArray) (n:Nat):Prop:=∀(i k:Nat) (t:Pat) (w:World),AtomG n (cut (sb p) i k) t→k≤p.size→Calls Tryz.prog 176 #[.string p,.int .i64 (i:Int)] w fun e w'=>e=.returned (.int .i64 (k:Int))∧Below w.heap.size w w'
set_option maxHeartbeats 8000000 in
theorem end_of {p:ByteArray} (hp:p.size≤200) {n:Nat} (H:EndC p n):EndC p (n+1):=by
 intro i k t w hA hk
 have hkl:k≤(sb p).length:=by rw[sb_len];exact hk
 obtain⟨c,ys,hc,_⟩:=hA.first
 obtain⟨hpi,_,hik⟩:=cut_head hc hkl
 obtain⟨hi,gi⟩:=sb_get hpi
 have zi:(i:Int)<(p.size:Int):=by omega
 have hlen:=cut_len (p:=sb p) (i:=i) hkl
 have HP:Hid ((sb p)[i]?=some c∧(cut (sb p) i k).length=k-i):=⟨hpi,hlen⟩
 clear hc hpi hlen
 have one:∀d,¬d=92→¬d=91→¬d=40→c=d→k=i+1→Calls Tryz.prog 176 #[.string p,.int .i64 (i:Int)] w fun e w'=>e=.returned (.int .i64 (k:Int))∧Below w.heap.size w w':=fun d h92 h91 h40 hcd hk1=>by
  subst hcd hk1
  have z92:((c.toNat:Int)==92)=false:=beq_eq_false_iff_ne.2 (ne_u8 (c:=92) h92)
  have z91:((c.toNat:Int)==91)=false:=beq_eq_false_iff_ne.2 (ne_u8 (c:=91) h91)
  have z40:((c.toNat:Int) != 40)=true:=by have:=ne_u8 (c:=40) h40;simpa using this
  go_enter Tryz.func176,Tryz.ntmps176
  go_wp2_with fail
  go_ret
  exact⟨rfl,Below.refl _ _⟩
 have hA':=hA
 rcases hA with⟨d,h1,hs,_⟩|⟨h1,_⟩|⟨d,h1,_⟩|⟨zs,os,h1,hT,_⟩|⟨q,j,m,f,h1,h2,h3,_⟩
 ·have hk1:k=i+1:=by have:=HP.2;rw[h1]at this;simp at this;omega
  have hcd:c=d:=by have:=(cut_head h1 hkl).1;rw[HP.1]at this;exact Option.some.inj this
  exact one d (fun q=>hs (.inr (.inr (.inr (.inr q))))) (fun q=>hs (.inr (.inr (.inl q)))) (fun q=>hs (.inr (.inl q))) hcd hk1
 ·have hk1:k=i+1:=by have:=HP.2;rw[h1]at this;simp at this;omega
  have hcd:c=46:=by have:=(cut_head h1 hkl).1;rw[HP.1]at this;exact Option.some.inj this
  exact one 46 (by decide) (by decide) (by decide) hcd hk1
 ·have hk1:k=i+2:=by have:=HP.2;rw[h1]at this;simp at this;omega
  have hcd:c=92:=by have:=(cut_head h1 hkl).1;rw[HP.1]at this;exact Option.some.inj this
  subst hcd hk1
  clear one
  go_enter Tryz.func176,Tryz.ntmps176
  go_wp2_with fail
  go_ret
  exact⟨rfl,Below.refl _ _⟩
 ·obtain⟨hp40,hrest,_⟩:=cut_head (zs:=zs++ [41]) (by simpa using h1) hkl
  have hc40:c=40:=by rw[HP.1]at hp40;exact Option.some.inj hp40
  subst hc40
  obtain⟨hz1,hz2,hz3⟩:=cut_two hrest hkl
  obtain⟨e,he⟩:=qE (i+1+zs.length)
  rw[←he]at hz1 hz2 hz3
  obtain⟨h41,hz4,hek⟩:=cut_head hz2 hkl
  have hk1:k=e+1:=by
   have h3:=cut_len (p:=sb p) (i:=e+1) hkl
   rw[hz4]at h3
   simp at h3
   omega
  obtain⟨hel,ge⟩:=sb_get h41
  have HT:Hid (TokG (AtomG n) (cut (sb p) (i+1) e)):=by
   show TokG (AtomG n) (cut (sb p) (i+1) e)
   rw[hz1];exact hT.tok
  have hie:i+1≤e:=by omega
  have HK:Hid (k=e+1):=hk1
  have HH:Hid (EndC p n):=H
  clear one h1 hT hA' hrest hz1 hz2 hz3 hz4 h41 hp40 he hk1 H
  go_enter Tryz.func176,Tryz.ntmps176
  go_wp2_with fail
  go_loopw[7] (fun jv wr=>∃(j:Nat),jv=.int .i64 (j:Int)∧i+1≤j∧j≤e∧TokG (AtomG n) (cut (sb p) j e)∧Below w.heap.size w wr) (fun jv _=>e-(intOf jv).toNat)
  case atStart=>exact⟨i+1,by go_num,Nat.le_refl _,hie,HT.out,Below.refl _ _⟩
  case round=>
   obtain⟨j,rfl,hj1,hj2,hTok,hb⟩:=hrel
   have HTk:Hid (TokG (AtomG n) (cut (sb p) j e)):=hTok
   have hs:=hb.size
   clear hTok HT
   have hel2:e≤(sb p).length:=by rw[sb_len];omega
   have hjp:j<p.size:=by omega
   have zj:(j:Int)<(p.size:Int):=by omega
   by_cases hje:j=e
   ·subst hje
    go_wp2_with fail
    go_ret
    exact⟨by rw[HK.out];rfl,hb⟩
   ·have hst:=tok_step HTk.out (fun ys t q=>by obtain⟨c,zs,h,_⟩:=q.first;rw[h];simp)
    rcases hst with h0|⟨c',zs',h0,hsg,hTk'⟩|⟨ys',zs',t',h0,hA1,hTk'⟩
    ·have h3:=cut_len (p:=sb p) (i:=j) hel2
     rw[h0]at h3
     simp at h3
     omega
    ·obtain⟨hpj,hcj,hlt⟩:=cut_head h0 hel2
     obtain⟨_,gj⟩:=sb_get hpj
     have HN:Hid (TokG (AtomG n) (cut (sb p) (j+1) e)):=by
      show TokG (AtomG n) (cut (sb p) (j+1) e)
      rw[hcj];exact hTk'
     have n41:((c'.toNat:Int) != 41)=true:=by
      have h5:¬c'=41:=fun q=>by subst q;rcases hsg with q|q|q|q<;>exact absurd q (by decide)
      have:=ne_u8 (c:=41) h5
      simpa using this
     clear hpj hcj h0 hTk' HTk
     by_cases h124:c'=124
     ·subst h124
      clear hsg
      exact zzQ83
     ·have z124:((c'.toNat:Int)==124)=false:=beq_eq_false_iff_ne.2 (ne_u8 (c:=124) h124)
      have hop:isOp c':=hsg.elim (fun q=>absurd q h124) (fun q=>q)
      have HOp:Hid (Calls Tryz.prog 119 #[.int .u8 (c'.toNat:Int)] wr fun e w'=>e=.returned (.bool true)∧w'=wr):=by
       have:=l4Op_core c' wr
       rw[decide_eq_true hop]at this
       exact this
      clear hsg hop
      go_wp2_with fail
      refine HOp.mono ?_
      rintro e' w5 ⟨rfl,hw5⟩
      rw[hw5]
      clear hw5
      exact zzQ83
    ·obtain⟨hy1,hy2,hy3⟩:=cut_two h0 hel2
     obtain⟨c',yt,hyc,n41,n124,nop⟩:=hA1.first
     have hylen:0<ys'.length:=by rw[hyc];simp
     have hje2:j+ys'.length≤e:=by omega
     obtain⟨hpj,_,_⟩:=cut_head (c:=c') (zs:=yt) (by rw[hy1];exact hyc) (by rw[sb_len];omega)
     obtain⟨_,gj⟩:=sb_get hpj
     have z41:((c'.toNat:Int) != 41)=true:=by have:=ne_u8 (c:=41) n41;simpa using this
     have z124:((c'.toNat:Int)==124)=false:=beq_eq_false_iff_ne.2 (ne_u8 (c:=124) n124)
     have HOp:Hid (Calls Tryz.prog 119 #[.int .u8 (c'.toNat:Int)] wr fun e w'=>e=.returned (.bool false)∧w'=wr):=by
      have:=l4Op_core c' wr
      rw[decide_eq_false nop]at this
      exact this
     have HN:Hid (TokG (AtomG n) (cut (sb p) (j+ys'.length) e)):=by
      show TokG (AtomG n) (cut (sb p) (j+ys'.length) e)
      rw[hy2];exact hTk'
     obtain⟨m,hm⟩:=qE (j+ys'.length)
     have HCall:Hid (Calls Tryz.prog 176 #[.string p,.int .i64 (j:Int)] wr fun e w'=>e=.returned (.int .i64 (m:Int))∧Below wr.heap.size wr w'):=by
      rw[hm]
      exact HH.out j (j+ys'.length) t' wr (by rw[hy1];exact hA1) (by omega)
     rw[←hm]at HN hje2
     have hjm:j<m:=by omega
     clear h0 hTk' HTk hA1 hy1 hy2 hy3 hyc hpj n41 n124 nop hm hylen
     go_wp2_with fail
     refine HOp.mono ?_
     rintro e' w5 ⟨rfl,hw5⟩
     rw[hw5]
     clear hw5
     go_wp2_with fail
     refine HCall.mono ?_
     rintro e' w6 ⟨rfl,hb6⟩
     have hb7:=hb.trans (hb6.mono hs)
     clear hb6
     go_wp2_with fail
     go_roundw
     case rel=>exact⟨m,rfl,by omega,hje2,HN.out,hb7⟩
     case measure=>simp[intOf];omega
 ·have hcd:=class_here h1 h2 h3 hkl hik
  have hc91:c=91:=by have:=hcd.1;rw[HP.1]at this;exact Option.some.inj this
  subst hc91
  have HCl:Hid (classM (sb p) (i+1)=.inl (f,k)):=hcd.2
  clear one h1 h2 h3 hcd hA'
  go_enter Tryz.func176,Tryz.ntmps176
  go_wp2_with fail
  refine(l4Class_core p i w hp hi).mono ?_
  rintro e w4 ⟨hP,hb4⟩
  rcases hP with⟨f',k',hk',rfl⟩|⟨c4,k',hk',rfl⟩
  case inr=>rw[HCl.out]at hk';cases hk'
  obtain⟨rfl,rfl⟩:f=f'∧k=k':=by rw[HCl.out]at hk';simpa using hk'
  go_wp2_with fail
  go_ret
  exact⟨rfl,hb4.trans ((Below.refl _ _).alloc hb4.size _)⟩
theorem end_all {p:ByteArray} (hp:p.size≤200):∀n,EndC p n
 |0=>fun i k t w h=>h.elim
 |n+1=>end_of hp (end_all hp n)
def OwnStr (w:World) (base g cp:Nat) (us:List Value):Prop:=w.ownsRow base 9 1 (.slice (some ⟨g,0,none⟩) us.length cp) us.length us
theorem OwnStr.lt {w:World} {base g cp:Nat} {us:List Value} (h:OwnStr w base g cp us):base≤g∧g<w.heap.size:=World.ownsRow.lt h g rfl
theorem OwnStr.below {w w':World} {base g cp:Nat} {us:List Value} (h:OwnStr w base g cp us) (hb:Below w.heap.size w w'):OwnStr w' base g cp us:=own_chg h (Chg.of_below hb) (S:=fun _=>False) (fun k q z=>z)
theorem ownStr_new (w:World) {base:Nat} (hb:base≤w.heap.size):OwnStr (w.alloc (Obj.cells #[] 9)) base w.heap.size 0 []:=
 World.ownsRow_made w #[] 0 hb (Nat.zero_le _) (by simp)
theorem Tryz.infoStr:(Tryz.prog.info? 9).map (fun i=>(i.zero,i.size,i.bytes))=some (some (.string ⟨#[]⟩),1,16):=by kernel_rfl
theorem wpList_append_str {ops:Array Oper} {rest:List Oper} {oo:Oper} {a:Act} {Q:Exit→Act→World→Prop} (w:World) (hgd:oo.guard=none) (s x:Operand)
  (ho:oo.op=.call {callee:=.builtin .append,args:=#[s,x],argTypes:=#[149,149]})
  (base gq cp n b:Nat) (us:List Value) (y:Value) (hs:a.eval s=.slice (some ⟨gq,0,none⟩) n cp) (hx:a.eval x=.slice (some ⟨b,0,none⟩) 1 1) (hn:n=us.length) (hO:OwnStr w base gq cp us)
  (hc:w.cell? ⟨b,0,none⟩=some y) (hy:y.oneCell'=true) (hlen:us.length≤1000) (hbase:base≤w.heap.size)
  (h:∀g' cp' w',OwnStr w' base g' cp' (us++ [y])→w.grownBy w' (some gq)→(g'=gq∨g'=w.heap.size)→wpList Tryz.prog ops Q rest (a.put oo.dst (.slice (some ⟨g',0,none⟩) (n+1) cp')) w'):wpList Tryz.prog ops Q (oo::rest) a w:=by
 subst hn
 obtain⟨i,hi,hz0,hz1,hz2⟩:=info_parts Tryz.infoStr
 refine wpList_append_own_at w hgd s x 149 ho base 9 i _ 1 16 Tryz.underlying149 hi hz0 hz1 hz2 rfl (by decide) (.slice (some ⟨gq,0,none⟩) us.length cp) us.length us hs hO ⟨b,0,none⟩ 1 1 [y] hx rfl ?_ ?_ ?_ ?_ hbase ?_
 ·exact zzQ33
 ·intro u hu
  simp at hu;subst hu;exact hy
 ·unfold maxLen;omega
 ·omega
 ·intro v' w' hO' hgr hnil hat
  rcases hO'.2 with⟨h0,_⟩|⟨g',cap',cur,hv,_,_,hn,hcap,_,_⟩
  ·have:=(hnil.1 h0).1
   cases this
  ·subst hv
   refine h g' cap' w' ?_ hgr ?_
   ·unfold OwnStr
    rw[List.length_append]
    exact hO'
   ·simp[Value.ownBlock]at hat
    exact hat
theorem tokn_le {A:List UInt8→Pat→Prop} {k:Nat} {xs:List UInt8} (h:TokN A k xs):k≤xs.length:=by
 induction h with
 |nil=>exact Nat.le_refl _
 |bar _ ih=>simpa using ih
 |op _ _ ih=>simp;omega
 |atom _ _ ih=>simp;omega
theorem sb_extract (p:ByteArray) {f j:Nat} (hj:j≤p.size):sb (p.extract f j)=cut (sb p) f j:=by
 unfold sb cut
 simp[ByteArray.data_extract,List.extract_eq_take_drop]
structure PaS (n:Nat) (p:List UInt8) (os:List (List Pat)) (j f i:Nat) (r:List UInt8):Prop where
 ri:r=cut p j (j+r.length)
 rl:j+r.length≤p.length
 fj:f≤j
 tok:TokN (AtomG n) 0 r
 cur:∃ts,os[i]?=some ts∧SeqG (AtomG n) ts (cut p f (j+r.length))
 rest:(j+r.length=p.length∧i+1=os.length)∨(p[j+r.length]?=some 124∧AltG (AtomG n) (os.drop (i+1)) (cut p (j+r.length+1) p.length))
theorem paS_open {n:Nat} {p:List UInt8} {os:List (List Pat)} {j i:Nat} (hj:j≤p.length) (h:AltG (AtomG n) (os.drop i) (cut p j p.length)):∃r,PaS n p os j j i r:=by
 rcases hd:os.drop i with _|⟨ts,_|⟨o,os'⟩⟩
 ·rw[hd]at h;exact h.elim
 ·rw[hd]at h
  have hl:=cut_len (p:=p) (i:=j) (k:=p.length) (Nat.le_refl _)
  have hlen:i+1=os.length:=by have:=congrArg List.length hd;simp at this;omega
  have h0:os[i]?=some ts:=by have:=congrArg (fun l=>l[0]?) hd;simpa using this
  refine⟨cut p j p.length,?_,by omega,Nat.le_refl _,SeqG.tokn h,⟨ts,h0,?_⟩,.inl ⟨by omega,hlen⟩⟩
  ·rw[hl,show j+(p.length-j)=p.length by omega]
  ·rw[hl,show j+(p.length-j)=p.length by omega];exact h
 ·rw[hd]at h
  obtain⟨ys,zs,h1,h2,h3⟩:=h
  obtain⟨k1,k2,k3⟩:=cutTwo h1 (Nat.le_refl _) hj
  obtain⟨g1,g2,g3⟩:=cutHead k2 (Nat.le_refl _)
  have h0:os[i]?=some ts:=by have:=congrArg (fun l=>l[0]?) hd;simpa using this
  have hd2:os.drop (i+1)=o::os':=by have:=congrArg List.tail hd;simpa using this
  exact⟨ys,k1.symm,k3,Nat.le_refl _,SeqG.tokn h2,⟨ts,h0,by rw[k1];exact h2⟩,.inr ⟨g1,by rw[hd2,g2];exact h3⟩⟩
theorem PaS.next {n:Nat} {p:List UInt8} {os:List (List Pat)} {j f i:Nat} {x r:List UInt8} (h:PaS n p os j f i (x++r)) (ht:TokN (AtomG n) 0 r):PaS n p os (j+x.length) f i r:=by
 have hl:j+x.length+r.length=j+(x++r).length:=by simp;omega
 have hri:=h.ri
 have hrl:=h.rl
 rw[←hl]at hri hrl
 obtain⟨_,k2,_⟩:=cutTwo hri.symm hrl (by omega)
 refine⟨?_,hrl,by have:=h.fj;omega,ht,?_,?_⟩
 ·exact k2.symm
 ·rw[hl];exact h.cur
 ·rw[hl];exact h.rest
def StrsOf (n:Nat) (os:List (List Pat)) (us:List Value) (m:Nat):Prop:=∀(t:Nat) (u:Value),us[t]?=some u→∃s ts,u=.string s∧os[t]?=some ts∧SeqG (AtomG n) ts (sb s)∧s.size≤m
theorem StrsOf.snoc {n:Nat} {os:List (List Pat)} {us:List Value} {m:Nat} (h:StrsOf n os us m) {s:ByteArray} {ts:List Pat} (ho:os[us.length]?=some ts) (hs:SeqG (AtomG n) ts (sb s)) (hm:s.size≤m):StrsOf n os (us++ [.string s]) m:=by
 intro t u hu
 rcases Nat.lt_or_ge t us.length with q|q
 ·rw[List.getElem?_append_left q]at hu;exact h t u hu
 ·have ht:t=us.length:=by have:=(List.getElem?_eq_some_iff.1 hu).1;simp at this;omega
  subst ht
  simp at hu
  subst hu
  exact⟨s,ts,rfl,ho,hs,hm⟩
structure PaK (p:ByteArray) (n:Nat) (os:List (List Pat)) (w:World) (j f g cp:Nat) (us:List Value) (wr:World):Prop where
 st:∃r,PaS n (sb p) os j f us.length r
 strs:StrsOf n os us p.size
 own:OwnStr wr w.heap.size g cp us
 below:Below w.heap.size w wr
theorem PaK.move {p:ByteArray} {n:Nat} {os:List (List Pat)} {w:World} {j f g cp:Nat} {us:List Value} {wr w':World} (h:PaK p n os w j f g cp us wr) (hb:Below wr.heap.size wr w') {j':Nat} (hs:∃r,PaS n (sb p) os j' f us.length r):PaK p n os w j' f g cp us w':=
 ⟨hs,h.strs,h.own.below hb,h.below.trans (hb.mono h.below.size)⟩
def PrtP (n:Nat) (os:List (List Pat)) (m:Nat) (w:World) (e:Ending) (w':World):Prop:=∃g cp us,e=.returned (.slice (some ⟨g,0,none⟩) os.length cp)∧us.length=os.length∧Hid (OwnStr w' w.heap.size g cp us∧StrsOf n os us m)∧Below w.heap.size w w'
set_option maxHeartbeats 8000000 in
theorem l4Parts_says {p:ByteArray} (hp:p.size≤200) {n:Nat} {os:List (List Pat)} (h:AltG (AtomG n) os (sb p)) (w:World):Calls Tryz.prog 169 #[.string p] w (PrtP n os p.size w):=by
 have hsl:p.size=(sb p).length:=(sb_len p).symm
 have hcut:cut (sb p) 0 p.size=sb p:=by
  show(List.drop 0 (sb p)).take (p.size-0)=sb p
  rw[List.drop_zero,Nat.sub_zero,List.take_of_length_le (Nat.le_of_eq hsl.symm)]
 have hol:os.length≤201:=by
  obtain⟨k,h1,h2⟩:=h.tokn
  have:=tokn_le h2
  rw[←hsl]at this
  omega
 have HSl:Hid (p.size=(sb p).length):=hsl
 obtain⟨W0,hW0⟩:=qE (w.alloc (Obj.cells #[] 9):World)
 have HW0:Hid (PaK p n os w 0 0 w.heap.size 0 [] W0):=by
  rw[hW0]
  refine⟨paS_open (Nat.zero_le _) ?_,fun t u hu=>by simp at hu,ownStr_new w (Nat.le_refl _),qB⟩
  rw[←hsl,hcut];exact h
 clear h hsl hcut
 go_enter Tryz.func169,Tryz.ntmps169
 go_upto_region 2 with fail
 rw[←hW0]
 clear hW0
 go_wp2_with fail
 go_loopw[3,4,5] (fun o fv jv wr=>∃(j f g cp m:Nat) (us:List Value),jv=.int .i64 (j:Int)∧fv=.int .i64 (f:Int)∧f≤j∧j≤p.size∧m≤201∧o=.slice (some ⟨g,0,none⟩) m cp∧Hid (PaK p n os w j f g cp us wr∧m=us.length)) (fun _ _ jv _=>p.size-(intOf jv).toNat)
 case atStart=>exact⟨0,0,_,0,0,[],rfl,rfl,Nat.le_refl _,Nat.zero_le _,Nat.zero_le _,rfl,HW0.out,rfl⟩
 case round=>
  obtain⟨j,f,g,cp,m,us,rfl,rfl,hfj,hjp,hml,rfl,HJ⟩:=hrel
  have hgl:=HJ.1.own.lt
  have hsz:=HJ.1.below.size
  clear HW0
  have z1:(f:Int)≤(j:Int):=by omega
  have z2:(j:Int)≤(p.size:Int):=by omega
  obtain⟨r,hS⟩:=HJ.1.st
  have HP:Hid (PaS n (sb p) os j f us.length r):=hS
  clear hS
  by_cases hlt:j<p.size
  ·have zj:(j:Int)<(p.size:Int):=by omega
   rcases tokn_step HP.tok with⟨h0,_⟩|⟨m',zs,h0,hm,hT⟩|⟨c,zs,h0,hop,hT⟩|⟨ys,zs,t,h0,hA,hT⟩
   ·have hrest:(sb p)[j]?=some 124∧AltG (AtomG n) (os.drop (us.length+1)) (cut (sb p) (j+1) (sb p).length):=by
     rcases HP.rest with⟨q,_⟩|q
     ·rw[h0]at q;simp at q;have:=HSl.out;omega
     ·rw[h0]at q;simpa using q
    obtain⟨ts,hts,hsq⟩:=HP.cur
    rw[h0]at hsq
    simp only[List.length_nil,Nat.add_zero]at hsq
    obtain⟨_,gj⟩:=sb_get hrest.1
    have HT:Hid (AltG (AtomG n) (os.drop (us.length+1)) (cut (sb p) (j+1) (sb p).length)∧os[us.length]?=some ts∧SeqG (AtomG n) ts (sb (p.extract f j))∧us.length+1≤os.length):=by
     refine⟨hrest.2,hts,by rw[sb_extract p hjp];exact hsq,(List.getElem?_eq_some_iff.1 hts).1⟩
    have HM:Hid (m=us.length):=HJ.2
    clear h0 hrest hts hsq
    go_wp2_with (at_builtin;refine wpList_append_str _ rfl _ _ rfl w.heap.size g cp m wr.heap.size us (.string (p.extract f j)) rfl rfl HM.out ?hO ?hc ?hy ?hl ?hb ?_)
    case hO=>exact HJ.1.own.below (qB)
    case hy=>rfl
    case hl=>rw[←HM.out];omega
    case hb=>first|omega|(simp;omega)
    intro g' cp' w' hO' hgr hat
    have HJ2:Hid (PaK p n os w (j+1) (j+1) g' cp' (us++ [.string (p.extract f j)]) w'∧m+1=(us++ [Value.string (p.extract f j)]).length):=by
     refine⟨⟨?_,HJ.1.strs.snoc HT.2.1 HT.2.2.1 (by rw[←sb_len,sb_extract p hjp,cut_len (by rw[sb_len];exact hjp)];omega),hO',?_⟩,by rw[HM.out];simp⟩
     ·rw[List.length_append,List.length_singleton]
      exact paS_open (by have:=HSl.out;omega) HT.1
     ·exact(HJ.1.below.trans ((Below.refl _ _).alloc hsz _)).grown hgr (by simp;omega) (fun j hj=>by cases hj;omega)
    have hm2:m+1≤201:=by have h1:=HT.2.2.2;have h2:=HM.out;omega
    clear hO' hgr hat
    go_wp2_with fail
    go_roundw
    case rel=>exact⟨j+1,j+1,g',cp',m+1,us++ [.string (p.extract f j)],by go_num,by go_num,Nat.le_refl _,by omega,hm2,by first|rfl|go_num,HJ2⟩
    case measure=>simp[intOf];omega
   ·omega
   ·have hP2:=HP.out
    rw[h0]at hP2
    have hcd:cut (sb p) j (j+(c::zs).length)=c::zs:=hP2.ri.symm
    obtain⟨hpj,_,_⟩:=cutHead hcd (by have:=hP2.rl;exact this)
    obtain⟨_,gj⟩:=sb_get hpj
    have HT:Hid (PaS n (sb p) os (j+1) f us.length zs):=PaS.next (x:= [c]) hP2 hT
    have z124:((c.toNat:Int)==124)=false:=beq_eq_false_iff_ne.2 (ne_u8 (c:=124) (fun q=>by subst q;exact absurd hop (by decide)))
    have HOp:Hid (Calls Tryz.prog 119 #[.int .u8 (c.toNat:Int)] wr fun e w'=>e=.returned (.bool true)∧w'=wr):=by
     have:=l4Op_core c wr
     rw[decide_eq_true hop]at this
     exact this
    clear h0 hT hpj hop hP2 hcd
    go_wp2_with fail
    refine HOp.mono ?_
    rintro e' w5 ⟨rfl,hw5⟩
    rw[hw5]
    clear hw5
    go_wp2_with fail
    go_roundw
    case rel=>exact⟨j+1,f,g,cp,m,us,by go_num,rfl,by omega,by omega,hml,rfl,HJ.1.move (Below.refl _ _) ⟨_,HT.out⟩,HJ.2⟩
    case measure=>simp[intOf];omega
   ·have hP2:=HP.out
    rw[h0]at hP2
    obtain⟨c,yt,hyc,n41,n124,nop⟩:=hA.first
    have hylen:0<ys.length:=by rw[hyc];simp
    have hrl:=hP2.rl
    have hje2:j+ys.length≤p.size:=by rw[List.length_append]at hrl;have:=HSl.out;omega
    obtain⟨hy1,_,_⟩:=cutTwo hP2.ri.symm hrl (by omega)
    obtain⟨hpj,_,_⟩:=cutHead (c:=c) (zs:=yt) (by rw[hy1];exact hyc) (by rw[←HSl.out];exact hje2)
    obtain⟨_,gj⟩:=sb_get hpj
    have z124:((c.toNat:Int)==124)=false:=beq_eq_false_iff_ne.2 (ne_u8 (c:=124) n124)
    have HOp:Hid (Calls Tryz.prog 119 #[.int .u8 (c.toNat:Int)] wr fun e w'=>e=.returned (.bool false)∧w'=wr):=by
     have:=l4Op_core c wr
     rw[decide_eq_false nop]at this
     exact this
    obtain⟨i2,hi2⟩:=qE (j+ys.length)
    have HT:Hid (PaS n (sb p) os i2 f us.length zs):=by rw[hi2];exact PaS.next hP2 hT
    have HCall:Hid (Calls Tryz.prog 176 #[.string p,.int .i64 (j:Int)] wr fun e w'=>e=.returned (.int .i64 (i2:Int))∧Below wr.heap.size wr w'):=by
     rw[hi2]
     exact end_all hp n j (j+ys.length) t wr (by rw[hy1];exact hA) (by omega)
    have hj2:j<i2:=by omega
    have hj3:i2≤p.size:=by omega
    clear h0 hT hA hy1 hyc hpj n41 n124 nop hi2 hylen hje2 hP2 hrl
    go_wp2_with fail
    refine HOp.mono ?_
    rintro e' w5 ⟨rfl,hw5⟩
    rw[hw5]
    clear hw5
    go_wp2_with fail
    refine HCall.mono ?_
    rintro e' w6 ⟨rfl,hb6⟩
    have HJ6:Hid (PaK p n os w i2 f g cp us w6∧m=us.length):=⟨HJ.1.move hb6 ⟨_,HT.out⟩,HJ.2⟩
    clear hb6
    go_wp2_with fail
    go_roundw
    case rel=>exact⟨i2,f,g,cp,m,us,rfl,rfl,by omega,by omega,hml,rfl,HJ6.out⟩
    case measure=>simp[intOf];omega
  ·have zj:¬(j:Int)<(p.size:Int):=by omega
   obtain rfl:j=p.size:=by omega
   have hr0:r= []:=by
    have h1:=HP.rl
    have h2:=HSl.out
    exact List.length_eq_zero_iff.1 (by omega)
   have hend:us.length+1=os.length:=by
    rcases HP.rest with⟨_,q⟩|⟨q,_⟩
    ·exact q
    ·have:=lt_of_at q;have:=HSl.out;omega
   obtain⟨ts,hts,hsq⟩:=HP.cur
   rw[hr0]at hsq
   simp only[List.length_nil,Nat.add_zero]at hsq
   have HT:Hid (os[us.length]?=some ts∧SeqG (AtomG n) ts (sb (p.extract f p.size))∧us.length+1=os.length):=⟨hts,by rw[sb_extract p (Nat.le_refl _)];exact hsq,hend⟩
   have HM:Hid (m=us.length):=HJ.2
   clear hr0 hend hts hsq
   go_wp2_with (at_builtin;refine wpList_append_str _ rfl _ _ rfl w.heap.size g cp m wr.heap.size us (.string (p.extract f p.size)) rfl rfl HM.out ?hO2 ?hc2 ?hy2 ?hl2 ?hb2 ?_)
   case hO2=>exact HJ.1.own.below (qB)
   case hy2=>rfl
   case hl2=>rw[←HM.out];omega
   case hb2=>first|omega|(simp;omega)
   intro g' cp' w' hO' hgr hat
   have HR:Hid (PrtP n os p.size w (.returned (.slice (some ⟨g',0,none⟩) (m+1) cp')) w'):=by
    refine⟨g',cp',us++ [.string (p.extract f p.size)],?_,by rw[List.length_append,List.length_singleton];exact HT.2.2,⟨hO',HJ.1.strs.snoc HT.1 HT.2.1 (by rw[←sb_len,sb_extract p (Nat.le_refl _),cut_len (by rw[sb_len];exact Nat.le_refl _)];omega)⟩,(HJ.1.below.trans ((Below.refl _ _).alloc hsz _)).grown hgr (by simp;omega) (fun j hj=>by cases hj;omega)⟩
    rw[HM.out,HT.2.2]
   clear hO' hgr hat
   go_wp2_with fail
   go_ret
   exact HR.out
theorem rowsV_congr {N k:Nat} {ρ γ ρ' γ':Nat→Nat} (h:∀i,i<k→ρ' i=ρ i∧γ' i=γ i):rowsV N k ρ' γ'=rowsV N k ρ γ:=by
 unfold rowsV
 apply List.map_congr_left
 intro i hi
 rw[List.mem_range]at hi
 rw[(h i hi).1,(h i hi).2]
def updN (ρ:Nat→Nat) (k r:Nat):Nat→Nat:=fun i=>if i=k then r else ρ i
theorem updN_lt (ρ:Nat→Nat) (k r:Nat) {i:Nat} (h:i<k):updN ρ k r i=ρ i:=by simp[updN,Nat.ne_of_lt h]
theorem updN_at (ρ:Nat→Nat) (k r:Nat):updN ρ k r k=r:=by simp[updN]
structure RowJ (w wi:World) (n g cp k r c j:Nat) (ρ γ:Nat→Nat):Prop where
 row:BRow wi w.heap.size r c j (fun _=>false)
 mat:MatO wi w.heap.size g cp (n+1) k ρ γ (fun _ _=>false)
 off:∀i,i<k→ρ i≠r
 below:Below w.heap.size w wi
theorem RowJ.move {w wi w':World} {n g cp k r c j:Nat} {ρ γ:Nat→Nat} (h:RowJ w wi n g cp k r c j ρ γ) (hb:Below wi.heap.size wi w'):RowJ w w' n g cp k r c j ρ γ:=
 ⟨h.row.chg (S:=fun _=>False) (Chg.of_below hb) (fun q=>q),h.mat.below hb,h.off,h.below.trans (hb.mono h.below.size)⟩
theorem RowJ.next {w wi w':World} {n g cp k r c j r' c':Nat} {ρ γ:Nat→Nat} (h:RowJ w wi n g cp k r c j ρ γ) (hr:BRow w' w.heap.size r' c' (j+1) (fun _=>false)) (hg:wi.grownBy w' (some r)) (hat:r'=r∨r'=wi.heap.size):RowJ w w' n g cp k r' c' (j+1) ρ γ:=by
 have hch:Chg (fun b=>b=r) wi w':=Chg.of_grown hg (fun b hb=>by cases hb;rfl)
 have hlt:=h.row.lt
 refine⟨hr,h.mat.chg hch (fun q=>(h.row.off h.mat.out) q.symm) (fun i hi=>h.off i hi),fun i hi=>?_,Chg.below h.below hch h.below.size (fun b hb=>by omega)⟩
 rcases hat with q|q
 ·rw[q];exact h.off i hi
 ·rw[q];have:=(h.mat.row i hi).lt.2;omega
theorem RowJ.done {w wi w':World} {n g cp k r c g' cp':Nat} {ρ γ:Nat→Nat} (h:RowJ w wi n g cp k r c (n+1) ρ γ) (ho:ORow w' w.heap.size g' cp' (n+1) (k+1) (updN ρ k r) (updN γ k c)) (hg:wi.grownBy w' (some g)):
  MatO w' w.heap.size g' cp' (n+1) (k+1) (updN ρ k r) (updN γ k c) (fun _ _=>false)∧Below w.heap.size w w':=by
 have hch:Chg (fun b=>b=g) wi w':=Chg.of_grown hg (fun b hb=>by cases hb;rfl)
 have hlt:=h.mat.out.lt
 refine⟨⟨ho,fun i hi=>?_,fun i j hi hj hne=>?_⟩,Chg.below h.below hch h.below.size (fun b hb=>by omega)⟩
 ·by_cases e:i=k
  ·subst e
   rw[updN_at,updN_at]
   exact h.row.chg hch (fun q=>h.row.off h.mat.out q)
  ·rw[updN_lt _ _ _ (by omega),updN_lt _ _ _ (by omega)]
   exact(h.mat.row i (by omega)).chg hch (fun q=>(h.mat.row i (by omega)).off h.mat.out q)
 ·by_cases e:i=k
  ·subst e
   rw[updN_at,updN_lt _ _ _ (by omega)]
   exact fun q=>h.off j (by omega) q.symm
  ·by_cases e':j=k
   ·subst e'
    rw[updN_at,updN_lt _ _ _ (by omega)]
    exact h.off i (by omega)
   ·rw[updN_lt _ _ _ (by omega),updN_lt _ _ _ (by omega)]
    exact h.mat.inj i j (by omega) (by omega) hne
set_option maxHeartbeats 4000000 in
theorem l4None_core (n:Nat) (hn:n≤1000) (w:World):Calls Tryz.prog 168 #[.int .i64 (n:Int)] w (MaP (n+1) (fun _ _=>false) w):=by
 obtain⟨W0,hW0⟩:=qE (w.alloc (Obj.cells #[] 225):World)
 have HM0:Hid (MatO W0 w.heap.size w.heap.size 0 (n+1) 0 (fun _=>0) (fun _=>0) (fun _ _=>false)∧Below w.heap.size w W0):=by
  rw[hW0]
  exact⟨⟨World.ownsRow_lit w #[] 0 (Nat.le_refl _) (by decide) (by decide),fun i hi=>by omega,fun i j hi=>by omega⟩,qB⟩
 go_enter Tryz.func168,Tryz.ntmps168
 go_upto_region 2 with fail
 rw[←hW0]
 clear hW0
 go_wp2_with fail
 go_loopw[3,4] (fun ov iv wr=>∃(k g cp:Nat) (ρ γ:Nat→Nat),k≤n+1∧iv=.int .i64 k∧ov=slV g k cp∧Hid (MatO wr w.heap.size g cp (n+1) k ρ γ (fun _ _=>false)∧Below w.heap.size w wr)) (fun _ iv _=>n+1-(intOf iv).toNat)
 case atStart=>exact⟨0,_,0,_,_,Nat.zero_le _,rfl,rfl,HM0.out⟩
 case round=>
  obtain⟨k,g,cp,ρ,γ,hk,rfl,rfl,HM⟩:=hrel
  obtain⟨Wr,hWr⟩:=qE (wr:World)
  subst hWr
  by_cases hlt:k≤n
  ·have zk:(k:Int)≤(n:Int):=by omega
   obtain⟨W1,hW1⟩:=qE (Wr.alloc (Obj.cells #[] 4):World)
   obtain⟨r0,hr0⟩:=qE Wr.heap.size
   have HJ1:Hid (RowJ w W1 n g cp k r0 0 0 ρ γ):=by
    have hb1:Below Wr.heap.size Wr W1:=by rw[hW1];exact qB
    refine⟨?_,HM.1.below hb1,fun i hi q=>?_,HM.2.trans (hb1.mono HM.2.size)⟩
    ·rw[hW1,hr0];exact World.ownsRow_lit Wr #[] 0 HM.2.size (by decide) (by decide)
    ·have:=(HM.1.row i hi).lt.2;omega
   go_upto_region 6 with fail
   rw[←hW1,←hr0]
   clear hW1 hr0
   go_wp2_with fail
   go_loopw[5,6] (fun rv jv wi=>∃(j r c:Nat),j≤n+1∧jv=.int .i64 j∧rv=slV r j c∧Hid (RowJ w wi n g cp k r c j ρ γ)) (fun _ jv _=>n+1-(intOf jv).toNat)
   case atStart=>exact⟨0,r0,0,Nat.zero_le _,rfl,rfl,HJ1.out⟩
   case round=>
    obtain⟨j,r,c,hj,rfl,rfl,HJ⟩:=hrel
    by_cases hlj:j≤n
    ·have zj:(j:Int)≤(n:Int):=by omega
     have HA:Hid (RowJ w (wr.alloc (Obj.cells #[.bool false] 4)) n g cp k r c j ρ γ∧w.heap.size≤(wr.alloc (Obj.cells #[.bool false] 4)).heap.size):=by
      have h1:=HJ.move ((Below.refl wr.heap.size wr).alloc (Nat.le_refl _) (Obj.cells #[.bool false] 4))
      exact⟨h1,h1.below.size⟩
     go_wp2_with (at_builtin;refine wpList_append_bo _ rfl _ _ rfl w.heap.size r c j wr.heap.size 1 (fun _=>false) false rfl rfl HA.1.row (by simp[go_sem]) rfl (by omega) HA.2 ?_)
     intro r' c' w' hr' hg' hat'
     have HJ2:Hid (RowJ w w' n g cp k r' c' (j+1) ρ γ):=HA.1.next hr' hg' (by simpa using hat')
     clear hr' hg' hat'
     go_wp2_with fail
     go_roundw
     case rel=>exact⟨j+1,r',c',by omega,by go_num,rfl,HJ2.out⟩
     case measure=>simp[intOf];omega
    ·obtain rfl:j=n+1:=by omega
     have zj:¬(((n+1:Nat):Int))≤(n:Int):=by omega
     have HA:Hid (RowJ w (wr.alloc (Obj.cells #[slV r (n+1) c] 225)) n g cp k r c (n+1) ρ γ∧w.heap.size≤(wr.alloc (Obj.cells #[slV r (n+1) c] 225)).heap.size∧ORow (wr.alloc (Obj.cells #[slV r (n+1) c] 225)) w.heap.size g cp (n+1) k (updN ρ k r) (updN γ k c)):=by
      have h1:=HJ.move ((Below.refl wr.heap.size wr).alloc (Nat.le_refl _) (Obj.cells #[slV r (n+1) c] 225))
      refine⟨h1,h1.below.size,?_⟩
      have h2:=h1.mat.out
      unfold ORow at h2⊢
      rw[rowsV_congr (fun i hi=>⟨updN_lt ρ k r hi,updN_lt γ k c hi⟩)]
      exact h2
     go_wp2_with (at_builtin;refine wpList_append_row _ rfl _ _ rfl w.heap.size g cp (n+1) k wr.heap.size 1 r c (updN ρ k r) (updN γ k c) rfl rfl HA.2.2 (by simp[go_sem]) (updN_at _ _ _) (updN_at _ _ _) (by omega) HA.2.1 ?_)
     intro g' cp' w' ho' hg' hat'
     have HM2:Hid (MatO w' w.heap.size g' cp' (n+1) (k+1) (updN ρ k r) (updN γ k c) (fun _ _=>false)∧Below w.heap.size w w'):=HA.1.done ho' hg'
     clear ho' hg' hat'
     go_wp2_with fail
     go_roundw
     case rel=>exact⟨k+1,g',cp',updN ρ k r,updN γ k c,by omega,by go_num,rfl,HM2.out⟩
     case measure=>simp[intOf];omega
  ·obtain rfl:k=n+1:=by omega
   have zk:¬(((n+1:Nat):Int))≤(n:Int):=by omega
   go_wp2_with fail
   go_ret
   exact⟨g,cp,ρ,γ,rfl,HM.1,HM.2⟩
end Go.Proofs.YtkidabedcgngcaaGreatDoor
