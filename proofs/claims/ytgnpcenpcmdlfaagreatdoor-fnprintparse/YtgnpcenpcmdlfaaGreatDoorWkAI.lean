import Derived.Test.YtgnpcenpcmdlfaaGreatDoorWkAA
import Derived.Test.YtgnpcenpcmdlfaaGreatDoorWkAB
import Derived.Test.YtgnpcenpcmdlfaaGreatDoorWkAH
import Derived.Deep.RegionLaw
import Derived.Deep.AppendLies
import Derived.Test.YtgnpcenpcmdlfaaGreatDoorWkAE
namespace Go.Proofs.YtgnpcenpcmdlfaaGreatDoor
open Go.ChangeShapes Go.WideShapes Go.ChangeAt Go.RowKit Go.Deep
set_option linter.unusedVariables false
set_option linter.unusedSimpArgs false
set_option maxRecDepth 100000
structure PnJ (w:World) (e:Nd) (v:Value) (X:List UInt8) (wr:World):Prop where
 own:OwnS wr (w.heap.size+3) v X
 node:BoxAt wr w.heap.size 65 7 w.heap.size e.seven
 res:BoxAt wr w.heap.size 67 2 (w.heap.size+1) [.int .i64 0,.slice none 0 0]
 whole:BoxAt wr w.heap.size 67 2 (w.heap.size+1+1) [.int .i64 e.kind,v]
 gl:Gl wr
 below:Below w.heap.size w wr
 size:w.heap.size+3≤wr.heap.size
theorem PnJ.move {w:World} {e:Nd} {v:Value} {X:List UInt8} {wr w':World} (h:PnJ w e v X wr) (hb:Below wr.heap.size wr w') (hG:7≤w.heap.size):PnJ w e v X w':=by
 have hs:=hb.size
 have h2:=h.size
 exact⟨h.own.below hb,h.node.below hb,h.res.below hb,h.whole.below hb,h.gl.on hb (by omega),h.below.trans (hb.mono (by omega)),by omega⟩
theorem PnJ.step {w:World} {e:Nd} {v v2:Value} {X X2:List UInt8} {wr w2:World} (h:PnJ w e v X wr) (hF:Fr (w.heap.size+3) wr w2) (hO:OwnS w2 (w.heap.size+3) v2 X2) (hG:7≤w.heap.size):PnJ w e v2 X2 (w2.setCell ⟨w.heap.size+1+1,1,none⟩ v2):=by
 have hs:=hF.below.size
 have h2:=h.size
 have hC:Chg (fun k=>k=w.heap.size+1+1) w2 (w2.setCell ⟨w.heap.size+1+1,1,none⟩ v2):=Chg.of_set w2 _ 1 v2 rfl
 have hz:(w2.setCell ⟨w.heap.size+1+1,1,none⟩ v2).heap.size=w2.heap.size:=size_set _ _ _ _
 refine⟨hO.chg hC (fun k hk q=>by have:=(hO.row k hk).1;omega),(hF.box h.node (by decide)).chg hC (by omega),(hF.box h.res (by decide)).chg hC (by omega),(hF.box h.whole (by decide)).set 1 v2,?_,?_,by omega⟩
 ·exact(h.gl.on hF.below (by omega)).on ((Below.refl (w.heap.size+1+1) w2).setCell (Nat.le_refl _) v2) (by omega)
 ·exact(h.below.trans (hF.below.mono (by omega))).setCell (by show w.heap.size≤w.heap.size+1+1;omega) _
def PnP (k:Int) (X:List UInt8) (w:World) (r:Ending) (w':World):Prop:=∃b c,r=.returned (.agg #[.int .i64 k,.slice (some ⟨b,0,none⟩) X.length c])∧OwnY w' w.heap.size b c X∧Below w.heap.size w w'
theorem PnJ.done {w:World} {e:Nd} {v:Value} {X:List UInt8} {wr:World} (h:PnJ w e v X wr) (hne:X≠ []):∃b c,v=.slice (some ⟨b,0,none⟩) X.length c∧OwnY ((wr.setCell ⟨w.heap.size+1,0,none⟩ (.int .i64 e.kind)).setCell ⟨w.heap.size+1,1,none⟩ v) w.heap.size b c X∧Below w.heap.size w ((wr.setCell ⟨w.heap.size+1,0,none⟩ (.int .i64 e.kind)).setCell ⟨w.heap.size+1,1,none⟩ v)∧BoxAt ((wr.setCell ⟨w.heap.size+1,0,none⟩ (.int .i64 e.kind)).setCell ⟨w.heap.size+1,1,none⟩ v) w.heap.size 67 2 (w.heap.size+1) [.int .i64 e.kind,v]:=by
 rcases h.own.2 with⟨_,h0⟩|⟨b,c,cur,hv,h1,_⟩
 ·exact absurd (List.length_eq_zero_iff.1 h0) hne
 ·have hO:OwnY wr (w.heap.size+3) b c X:=by have:=h.own;rw[hv]at this;exact this
  have hC:Chg (fun k=>k=w.heap.size+1) wr ((wr.setCell ⟨w.heap.size+1,0,none⟩ (.int .i64 e.kind)).setCell ⟨w.heap.size+1,1,none⟩ v):=(Chg.of_set wr _ 0 _ (S:=fun k=>k=w.heap.size+1) rfl).trans (Chg.of_set _ _ 1 _ rfl)
  refine⟨b,c,hv,(hO.chg hC (by omega)).mono (by omega),below_set (below_set h.below (by omega) 0 _) (by omega) 1 _,(h.res.set 0 _).set 1 _⟩
theorem fresh_at {B:Nat} {w':World} {v:Value} {l:List UInt8} (h:Lib.FreshBytes B w' v l):∃g cap,v=.slice (some ⟨g,0,none⟩) l.length cap∧B≤g∧BysAt w' g 0 l:=by
 obtain⟨g,cap,zs,rfl,hB,hlc,_,hz,hr,hb,hc,_⟩:=h
 refine⟨g,cap,rfl,hB,fun i x hx=>?_⟩
 have hi:=(List.getElem?_eq_some_iff.1 hx).1
 have hzi:i<zs.length:=by omega
 rw[Nat.zero_add,hc i (by omega),List.getD_eq_getElem?_getD,List.getElem?_eq_getElem hzi]
 have h1:(Lib.bytesOf (zs.take l.length))[i]?=some x:=by rw[hb];exact hx
 unfold Lib.bytesOf at h1
 rw[List.getElem?_map,List.getElem?_take_of_lt hi,List.getElem?_eq_getElem hzi]at h1
 simp only[Option.map_some,Option.some.injEq]at h1
 have h2:=hr zs[i] (List.getElem_mem hzi)
 simp only[Option.getD_some]
 rw[←h1]
 show some (Value.int .u8 zs[i])=some (Value.int .u8 ((UInt8.ofNat zs[i].toNat).toNat:Int))
 rw[UInt8.toNat_ofNat']
 congr 2
 omega
theorem join3_core (sb pb:Nat) (b0 p0 b1 p1 b2 p2 n0 n1 n2:Nat) (t0 t1 t2:List UInt8) (w:World) (h0:n0=t0.length) (h1:n1=t1.length) (h2:n2=t2.length) (l0:n0≤400000) (l1:n1≤400000) (l2:n2≤400000)
  (c0:w.cell? ⟨sb,0,none⟩=some (.slice (some ⟨b0,0,none⟩) n0 p0)) (c1:w.cell? ⟨sb,1,none⟩=some (.slice (some ⟨b1,0,none⟩) n1 p1)) (c2:w.cell? ⟨sb,2,none⟩=some (.slice (some ⟨b2,0,none⟩) n2 p2))
  (e0:BysAt w b0 0 t0) (e1:BysAt w b1 0 t1) (e2:BysAt w b2 0 t2) (es:BysAt w pb 0 [44,32]):
  Calls Tryz.prog 75 #[.slice (some ⟨sb,0,none⟩) 3 3,.slice (some ⟨pb,0,none⟩) 2 2] w fun r w'=>∃g m cap,r=.returned (.slice (some ⟨g,0,none⟩) m cap)∧m=(t0++ [44,32]++t1++ [44,32]++t2).length∧BysAt w' g 0 (t0++ [44,32]++t1++ [44,32]++t2)∧Below w.heap.size w w':=by
 subst h0 h1 h2
 have hold:∀(b p:Nat) (t:List UInt8),BysAt w b 0 t→Lib.HoldsBytes w (.slice (some ⟨b,0,none⟩) t.length p) t:=fun b p t h=>⟨some ⟨b,0,none⟩,p,rfl,(fun q=>by cases q),fun a ha i x hx=>by
  cases ha
  rw[Addr.add_mid]
  exact h i x hx⟩
 have hP:Lib.PartsAt w ⟨sb,0,none⟩ [.slice (some ⟨b0,0,none⟩) t0.length p0,.slice (some ⟨b1,0,none⟩) t1.length p1,.slice (some ⟨b2,0,none⟩) t2.length p2] [t0,t1,t2]:=by
  refine⟨rfl,?_,?_⟩
  ·intro i v hv
   rw[Addr.add_mid,Nat.zero_add]
   match i,hv with
   |0,hv=>simp at hv;subst hv;exact c0
   |1,hv=>simp at hv;subst hv;exact c1
   |2,hv=>simp at hv;subst hv;exact c2
  ·intro i v l hv hl
   match i,hv,hl with
   |0,hv,hl=>simp at hv hl;subst hv hl;exact hold b0 p0 t0 e0
   |1,hv,hl=>simp at hv hl;subst hv hl;exact hold b1 p1 t1 e1
   |2,hv,hl=>simp at hv hl;subst hv hl;exact hold b2 p2 t2 e2
 refine(Any.bytes_Join_many Tryz.laysJn sb 0 3 3 _ [t0,t1,t2] (.slice (some ⟨pb,0,none⟩) 2 2) [44,32] w rfl (by omega) hP (by omega) (hold pb 2 [44,32] es) (by omega) (by simp[Lib.lens];omega)).mono ?_
 rintro r w' ⟨v,rfl,hF,hb⟩
 have hj:Lib.join [t0,t1,t2] [44,32]=t0++ [44,32]++t1++ [44,32]++t2:=by simp[Lib.join_cons,Lib.joinTail]
 rw[hj]at hF
 obtain⟨g,cap,rfl,_,hE⟩:=fresh_at hF
 exact⟨g,_,cap,rfl,rfl,hE,hb⟩
theorem leaf_ne {e:Nd} (h:GoodN e) (hk:arity e.kind=0):leafM e≠ []:=by
 obtain⟨kind,s,hi,t,lo,up,n⟩:=e
 have h13:kind=1∨kind=2∨kind=3∨kind=4∨kind=5∨kind=6∨kind=7∨kind=8∨kind=9∨kind=10∨kind=11∨kind=12∨kind=13:=by
  obtain⟨_,_,_,h⟩:=h
  simp only at h hk
  unfold arity at hk
  by_cases q14:kind=14∨kind=15
  ·rw[if_pos q14]at hk;cases hk
  ·by_cases q16:kind=16
   ·rw[if_neg q14,if_pos q16]at hk;cases hk
   ·omega
 rcases h13 with rfl|rfl|rfl|rfl|rfl|rfl|rfl|rfl|rfl|rfl|rfl|rfl|rfl
 all_goals simp[leafM,wordA,bl]
theorem row_kept {base:Nat} {w w':World} (h:Fr base w w') {k j:Nat} (hk:∃cs t fz,w.heap[k]?=some (.cells cs t fz)∧t≠5):w'.cell? ⟨k,j,none⟩=w.cell? ⟨k,j,none⟩:=by
 obtain⟨cs,t,fz,h1,h2⟩:=hk
 have h3:=h.kept k _ h1 (by simp) (fun c z q=>h2 (by injection q))
 exact World.cell?_of_block (w:=w) (by rw[h3,h1])
theorem op_call {w W:World} {e:Nd} {v:Value} {X:List UInt8} {kk:Int} {i:Nat} {ii:Int} {kid:Int} {b c n:Nat} {t:List UInt8} {opk:Int} (hk:opk=kk) (hp:ii=(i:Int)) (hj:PnJ w e v X W) (hn:n=t.length) (ht:t.length≤1000000) (hX:X.length≤1000000) (hE:BysAt W b 0 t) (hb:b<w.heap.size) (hop:¬kk=16):
  Calls Tryz.prog 74 #[v,.int .i64 opk,.int .i64 ii,.agg #[.int .i64 kid,.slice (some ⟨b,0,none⟩) n c]] W (AppP (w.heap.size+3) (X++wrapT kk i (kid,t)) W):=by
 subst hk hp hn
 exact appendOperand_core (w.heap.size+3) v X opk i kid b c t W hop hj.own hX ht hj.size hE (by omega)
set_option maxHeartbeats 8000000 in
theorem printNode_14 (s:ByteArray) (hi:Bool) (t:ByteArray) (lo up n:Int) (g F c:Nat) (k0 k1:Int) (b0 p0 b1 p1:Nat) (t0 t1:List UInt8) (w:World) (hg:g<w.heap.size) (hG:Gl w) (hB:7≤w.heap.size)
  (h0:w.cell? ⟨g,F,none⟩=some (.int .i64 k0)∧w.cell? ⟨g,F+1,none⟩=some (.slice (some ⟨b0,0,none⟩) t0.length p0)∧BysAt w b0 0 t0∧b0<w.heap.size)
  (h1:w.cell? ⟨g,F+2,none⟩=some (.int .i64 k1)∧w.cell? ⟨g,F+2+1,none⟩=some (.slice (some ⟨b1,0,none⟩) t1.length p1)∧BysAt w b1 0 t1∧b1<w.heap.size) (hl0:t0.length≤400000) (hl1:t1.length≤400000):
  Calls Tryz.prog 37 #[.agg #[.int .i64 14,.string s,.bool hi,.string t,.int .u64 lo,.int .u64 up,.int .i64 n],.slice (some ⟨g,F,none⟩) 2 c] w (PnP 14 (wrapT 14 0 (k0,t0)++ [32,62,32]++wrapT 14 1 (k1,t1)) w):=by
 obtain⟨n0,hn0⟩:=qE t0.length
 obtain⟨n1,hn1⟩:=qE t1.length
 rw[←hn0]at h0
 rw[←hn1]at h1
 have HP:Hid ((w.cell? ⟨g,F,none⟩=some (.int .i64 k0)∧w.cell? ⟨g,F+1,none⟩=some (.slice (some ⟨b0,0,none⟩) n0 p0)∧BysAt w b0 0 t0∧b0<w.heap.size)∧(w.cell? ⟨g,F+2,none⟩=some (.int .i64 k1)∧w.cell? ⟨g,F+2+1,none⟩=some (.slice (some ⟨b1,0,none⟩) n1 p1)∧BysAt w b1 0 t1∧b1<w.heap.size)∧(n0=t0.length∧t0.length≤1000000)∧(n1=t1.length∧t1.length≤1000000)):=⟨h0,h1,⟨hn0,by omega⟩,hn1,by omega⟩
 have l0:n0≤400000:=by omega
 have l1:n1≤400000:=by omega
 clear h0 h1 hn0 hn1 hl0 hl1
 obtain⟨Y,hY⟩:=qE (wrapT 14 0 (k0,t0)++ [32,62,32]++wrapT 14 1 (k1,t1))
 rw[←hY]
 have HY0:Hid (Y=wrapT 14 0 (k0,t0)++ [32,62,32]++wrapT 14 1 (k1,t1)):=hY
 clear hY
 obtain⟨W0,hW0⟩:=qE (((w.alloc (Obj.cells #[.int .i64 14,.string s,.bool hi,.string t,.int .u64 lo,.int .u64 up,.int .i64 n] 65)).alloc (Obj.cells #[.int .i64 0,.slice none 0 0] 67)).alloc (Obj.cells #[.int .i64 14,.slice none 0 0] 67):World)
 have HJ0:Hid (PnJ w ⟨14,s,hi,t,lo,up,n⟩ (.slice none 0 0) [] W0):=by
  obtain⟨A,hA⟩:=qE (w.alloc (Obj.cells #[.int .i64 14,.string s,.bool hi,.string t,.int .u64 lo,.int .u64 up,.int .i64 n] 65):World)
  obtain⟨B,hBB⟩:=qE (A.alloc (Obj.cells #[.int .i64 0,.slice none 0 0] 67):World)
  have zA:A.heap.size=w.heap.size+1:=by rw[hA];simp
  have zB:B.heap.size=w.heap.size+2:=by rw[hBB];simp[zA]
  have bA:Below w.heap.size w A:=by rw[hA];exact qB
  have bB:Below A.heap.size A B:=by rw[hBB];exact qB
  have b0:Below B.heap.size B W0:=by rw[hW0,←hA,←hBB];exact qB
  have x0:BoxAt A w.heap.size 65 7 w.heap.size [.int .i64 14,.string s,.bool hi,.string t,.int .u64 lo,.int .u64 up,.int .i64 n]:=by rw[hA];exact boxAt_new w _ (Nat.le_refl _) rfl
  have x1:BoxAt B w.heap.size 67 2 (w.heap.size+1) [.int .i64 0,.slice none 0 0]:=by rw[hBB,←zA];exact boxAt_new A _ (by omega) rfl
  have x2:BoxAt W0 w.heap.size 67 2 (w.heap.size+1+1) [.int .i64 14,.slice none 0 0]:=by rw[hW0,←hA,←hBB,←zB];exact boxAt_new B _ (by omega) rfl
  have bw:Below w.heap.size w W0:=(bA.trans (bB.mono (by omega))).trans (b0.mono (by omega))
  exact⟨World.ownsRow_nil ..,(x0.below bB).below b0,x1.below b0,x2,hG.on bw hB,bw,by rw[hW0];simp⟩
 have z0:=HJ0.size
 have c0:=HJ0.node.cell (j:=0) rfl
 go_enter Tryz.func37,Tryz.ntmps37
 go_upto_region 2 with fail
 rw[←hW0]
 clear hW0
 have m0a:W0.cell? ⟨w.heap.size+1+1,1,none⟩=some (.slice none 0 0):=HJ0.whole.cell (j:=1) rfl
 have m0b:W0.cell? ⟨w.heap.size,0,none⟩=some (.int .i64 14):=HJ0.node.cell (j:=0) rfl
 have m0c:W0.cell? ⟨g,F,none⟩=some (.int .i64 k0):=by rw[HJ0.below.cell (p:=⟨g,F,none⟩) hg];exact HP.1.1
 have m0d:W0.cell? ⟨g,F+1,none⟩=some (.slice (some ⟨b0,0,none⟩) n0 p0):=by rw[HJ0.below.cell (p:=⟨g,F+1,none⟩) hg];exact HP.1.2.1
 have hS:(fun w':World=>w'.cell? ⟨w.heap.size+1+1,1,none⟩=some (.slice none 0 0)∧w'.cell? ⟨w.heap.size,0,none⟩=some (.int .i64 14)∧w'.cell? ⟨g,F,none⟩=some (.int .i64 k0)∧w'.cell? ⟨g,F+1,none⟩=some (.slice (some ⟨b0,0,none⟩) n0 p0)) W0.drew:=⟨m0a,m0b,m0c,m0d⟩
 have y0:=HJ0.size
 have HC0:Hid (Calls Tryz.prog 74 #[(.slice none 0 0),.int .i64 14,.int .i64 0,.agg #[.int .i64 k0,.slice (some ⟨b0,0,none⟩) n0 p0]] W0.drew (AppP (w.heap.size+3) (([]:List UInt8)++wrapT 14 0 (k0,t0)) W0.drew)):=by
  have hj:=HJ0.move (w':=W0.drew) ((Below.refl _ _).drew) hB
  exact op_call (hk:=rfl) (hp:=rfl) hj HP.2.2.1.1 HP.2.2.1.2 (by first|omega|simp) (HP.1.2.2.1.below hj.below HP.1.2.2.2) HP.1.2.2.2 (by omega)
 go_upto_region 6 with fail
 refine wp_region_T 9 (fun w':World=>w'.cell? ⟨w.heap.size+1+1,1,none⟩=some (.slice none 0 0)∧w'.cell? ⟨w.heap.size,0,none⟩=some (.int .i64 14)∧w'.cell? ⟨g,F,none⟩=some (.int .i64 k0)∧w'.cell? ⟨g,F+1,none⟩=some (.slice (some ⟨b0,0,none⟩) n0 p0)) (by kernel_rfl) ?_
 refine qU 0 ?va140 rfl ?ya140 hS ?_
 case ya140=>exact zzR1
 try simp only[qA,List.getElem_toArray,List.getElem_cons_zero,List.getElem_cons_succ]
 refine qU 1 ?va141 rfl ?ya141 hS ?_
 case ya141=>exact zzR1
 try simp only[qA,List.getElem_toArray,List.getElem_cons_zero,List.getElem_cons_succ]
 refine qU 2 ?va142 rfl ?ya142 hS ?_
 case ya142=>exact zzR1
 try simp only[qA,List.getElem_toArray,List.getElem_cons_zero,List.getElem_cons_succ]
 refine qU 3 ?va143 rfl ?ya143 hS ?_
 case ya143=>exact zzR1
 try simp only[qA,List.getElem_toArray,List.getElem_cons_zero,List.getElem_cons_succ]
 refine qU 4 ?va144 rfl ?ya144 hS ?_
 case ya144=>exact zzR1
 try simp only[qA,List.getElem_toArray,List.getElem_cons_zero,List.getElem_cons_succ]
 refine qU 5 ?va145 rfl ?ya145 hS ?_
 case ya145=>exact zzR1
 try simp only[qA,List.getElem_toArray,List.getElem_cons_zero,List.getElem_cons_succ]
 refine qU 6 ?va146 rfl ?ya146 hS ?_
 case ya146=>exact zzR1
 try simp only[qA,List.getElem_toArray,List.getElem_cons_zero,List.getElem_cons_succ]
 refine anyT_one (i:=7) (by kernel_rfl) rfl (fun K hK=>?_)
 go_simp
 go_at_call 74
 refine HC0.mono ?_
 rintro r q0 ⟨v1,rfl,hO1,hF1⟩
 obtain⟨a1,e1,hv1⟩:=hO1.slice
 obtain⟨m1,hm1⟩:=qE ((([]:List UInt8)++wrapT 14 0 (k0,t0)).length:Nat)
 rw[←hm1]at hv1
 subst hv1
 clear hm1
 obtain⟨X1,hX1⟩:∃X1:List UInt8,X1=([]:List UInt8)++wrapT 14 0 (k0,t0):=⟨_,rfl⟩
 have HX1:Hid (X1=([]:List UInt8)++wrapT 14 0 (k0,t0)):=hX1
 have x1:X1.length≤0+n0+2:=by rw[hX1,List.length_append];rw[List.length_nil];have h9:=wrapT_len 14 0 (k0,t0);have:=HP.2.2.1.1;simp only at h9;omega
 have hFd:Fr (w.heap.size+3) W0 q0:=((Fr.refl _ _).step ((Below.refl _ _).drew) (by omega)).trans hF1
 have HJ1:Hid (PnJ w ⟨14,s,hi,t,lo,up,n⟩ (.slice a1 m1 e1) X1 (q0.setCell ⟨w.heap.size+1+1,1,none⟩ (.slice a1 m1 e1))):=HJ0.step hFd (by rw[hX1];exact hO1) hB
 have g0a:q0.cell? ⟨w.heap.size+1+1,1,none⟩=some (.slice none 0 0):=(hFd.box HJ0.whole (by decide)).cell (j:=1) rfl
 have g0f:q0.frozen? ⟨w.heap.size+1+1,1,none⟩=false:=(hFd.box HJ0.whole (by decide)).frozen 1
 have g0b:q0.cell? ⟨w.heap.size,0,none⟩=some (.int .i64 14):=(hFd.box HJ0.node (by decide)).cell (j:=0) rfl
 have g0c:q0.cell? ⟨g,F,none⟩=some (.int .i64 k0):=by rw[hFd.below.cell (p:=⟨g,F,none⟩) (by show g<_;omega)];exact m0c
 have g0d:q0.cell? ⟨g,F+1,none⟩=some (.slice (some ⟨b0,0,none⟩) n0 p0):=by rw[hFd.below.cell (p:=⟨g,F+1,none⟩) (by show g<_;omega)];exact m0d
 clear hO1 hF1 hX1 hFd
 refine hK.out _ _ (.inr ⟨g0a,g0b,g0c,g0d⟩) ?_
 clear hK
 try simp only[qA,List.getElem_toArray,List.getElem_cons_zero,List.getElem_cons_succ]
 refine anyT_one (i:=8) (by kernel_rfl) rfl (fun K hK=>?_)
 go_simp
 refine hK.out _ _ (.inr ⟨g0a,g0b,g0c,g0d⟩) ?_
 clear hK
 try simp only[qA,List.getElem_toArray,List.getElem_cons_zero,List.getElem_cons_succ]
 obtain⟨W1,hW1⟩:=qE (q0.setCell ⟨w.heap.size+1+1,1,none⟩ (.slice a1 m1 e1):World)
 rw[←hW1]at HJ1
 refine anyT_one (i:=9) (by kernel_rfl) rfl (fun K hK=>?_)
 go_simp
 rw[←hW1]
 refine hK.out _ _ (.inl rfl) ?_
 clear hK
 try simp only[qA,List.getElem_toArray,List.getElem_cons_zero,List.getElem_cons_succ]
 refine anyT_done (by kernel_rfl) ?_
 clear hW1 g0a g0b g0c g0d g0f m0a m0b m0c m0d hS
 have m1a:W1.cell? ⟨w.heap.size+1+1,1,none⟩=some (.slice a1 m1 e1):=HJ1.whole.cell (j:=1) rfl
 have m1b:W1.cell? ⟨w.heap.size,0,none⟩=some (.int .i64 14):=HJ1.node.cell (j:=0) rfl
 have m1c:W1.cell? ⟨0,14,none⟩=some (.string ⟨#[62]⟩):=HJ1.gl.words 14 (by omega)
 have hS:(fun w':World=>w'.cell? ⟨w.heap.size+1+1,1,none⟩=some (.slice a1 m1 e1)∧w'.cell? ⟨w.heap.size,0,none⟩=some (.int .i64 14)∧w'.cell? ⟨0,14,none⟩=some (.string ⟨#[62]⟩)) W1.drew:=⟨m1a,m1b,m1c⟩
 have y1:=HJ1.size
 have hJd:Hid (PnJ w ⟨14,s,hi,t,lo,up,n⟩ (.slice a1 m1 e1) X1 W1.drew):=HJ1.move ((Below.refl _ _).drew) hB
 go_upto_region 7 with fail
 refine wp_region_T 10 (fun w':World=>w'.cell? ⟨w.heap.size+1+1,1,none⟩=some (.slice a1 m1 e1)∧w'.cell? ⟨w.heap.size,0,none⟩=some (.int .i64 14)∧w'.cell? ⟨0,14,none⟩=some (.string ⟨#[62]⟩)) (by kernel_rfl) ?_
 refine qU 0 ?vb140 rfl ?yb140 hS ?_
 case yb140=>exact zzR1
 try simp only[qA,List.getElem_toArray,List.getElem_cons_zero,List.getElem_cons_succ]
 refine qU 1 ?vb141 rfl ?yb141 hS ?_
 case yb141=>exact zzR1
 try simp only[qA,List.getElem_toArray,List.getElem_cons_zero,List.getElem_cons_succ]
 refine qU 2 ?vb142 rfl ?yb142 hS ?_
 case yb142=>exact zzR1
 try simp only[qA,List.getElem_toArray,List.getElem_cons_zero,List.getElem_cons_succ]
 refine qU 3 ?vb143 rfl ?yb143 hS ?_
 case yb143=>exact zzR1
 try simp only[qA,List.getElem_toArray,List.getElem_cons_zero,List.getElem_cons_succ]
 refine qU 4 ?vb144 rfl ?yb144 hS ?_
 case yb144=>exact zzR1
 try simp only[qA,List.getElem_toArray,List.getElem_cons_zero,List.getElem_cons_succ]
 refine qU 5 ?vb145 rfl ?yb145 hS ?_
 case yb145=>exact zzR1
 try simp only[qA,List.getElem_toArray,List.getElem_cons_zero,List.getElem_cons_succ]
 refine qU 6 ((.string ⟨#[32,62]⟩)) rfl ?yb146 hS ?_
 case yb146=>exact zzR7
 try simp only[qA,List.getElem_toArray,List.getElem_cons_zero,List.getElem_cons_succ]
 refine qU 7 ((.string ⟨#[32,62,32]⟩)) rfl ?yb147 hS ?_
 case yb147=>exact zzR7
 try simp only[qA,List.getElem_toArray,List.getElem_cons_zero,List.getElem_cons_succ]
 refine anyT_one (i:=8) (by kernel_rfl) rfl (fun K hK=>?_)
 refine step_append_st _ rfl _ _ rfl (w.heap.size+3) (.slice a1 m1 e1) X1 ⟨#[32,62,32]⟩ rfl rfl hJd.out.own ?hl ?hb ?_
 case hl=>(have h3:(⟨#[32,62,32]⟩:ByteArray).size=3:=rfl;rw[h3];omega)
 case hb=>exact hJd.out.size
 intro v2 q1 hO2 hgr2
 obtain⟨a2,e2,hv2⟩:=hO2.slice
 obtain⟨m2,hm2⟩:=qE ((X1++bl ⟨#[32,62,32]⟩).length:Nat)
 rw[←hm2]at hv2
 subst hv2
 clear hm2
 obtain⟨X2,hX2⟩:∃X2:List UInt8,X2=X1++ [32,62,32]:=⟨_,rfl⟩
 have HX2:Hid (X2=X1++ [32,62,32]):=hX2
 have x2:X2.length≤X1.length+3:=by rw[hX2,List.length_append];exact Nat.le_refl _
 have hFd:Fr (w.heap.size+3) W1 q1:=((Fr.refl _ _).step ((Below.refl _ _).drew) (by omega)).trans (hJd.out.own.nextF (Fr.refl _ _) hJd.out.size hgr2)
 have HJ2:Hid (PnJ w ⟨14,s,hi,t,lo,up,n⟩ (.slice a2 m2 e2) X2 (q1.setCell ⟨w.heap.size+1+1,1,none⟩ (.slice a2 m2 e2))):=HJ1.step hFd (by rw[hX2];exact hO2) hB
 have g1a:q1.cell? ⟨w.heap.size+1+1,1,none⟩=some (.slice a1 m1 e1):=(hFd.box HJ1.whole (by decide)).cell (j:=1) rfl
 have g1f:q1.frozen? ⟨w.heap.size+1+1,1,none⟩=false:=(hFd.box HJ1.whole (by decide)).frozen 1
 have g1b:q1.cell? ⟨w.heap.size,0,none⟩=some (.int .i64 14):=(hFd.box HJ1.node (by decide)).cell (j:=0) rfl
 have g1c:q1.cell? ⟨0,14,none⟩=some (.string ⟨#[62]⟩):=(HJ1.gl.on hFd.below (by omega)).words 14 (by omega)
 clear hO2 hgr2 hX2 hFd
 refine hK.out _ _ (.inr ⟨g1a,g1b,g1c⟩) ?_
 clear hK
 try simp only[qA,List.getElem_toArray,List.getElem_cons_zero,List.getElem_cons_succ]
 refine anyT_one (i:=9) (by kernel_rfl) rfl (fun K hK=>?_)
 go_simp
 refine hK.out _ _ (.inr ⟨g1a,g1b,g1c⟩) ?_
 clear hK
 try simp only[qA,List.getElem_toArray,List.getElem_cons_zero,List.getElem_cons_succ]
 obtain⟨W2,hW2⟩:=qE (q1.setCell ⟨w.heap.size+1+1,1,none⟩ (.slice a2 m2 e2):World)
 rw[←hW2]at HJ2
 refine anyT_one (i:=10) (by kernel_rfl) rfl (fun K hK=>?_)
 go_simp
 rw[←hW2]
 refine hK.out _ _ (.inl rfl) ?_
 clear hK
 try simp only[qA,List.getElem_toArray,List.getElem_cons_zero,List.getElem_cons_succ]
 refine anyT_done (by kernel_rfl) ?_
 clear hW2 g1a g1b g1c g1f m1a m1b m1c hS hJd
 have m2a:W2.cell? ⟨w.heap.size+1+1,1,none⟩=some (.slice a2 m2 e2):=HJ2.whole.cell (j:=1) rfl
 have m2b:W2.cell? ⟨w.heap.size,0,none⟩=some (.int .i64 14):=HJ2.node.cell (j:=0) rfl
 have m2c:W2.cell? ⟨g,F+2,none⟩=some (.int .i64 k1):=by rw[HJ2.below.cell (p:=⟨g,F+2,none⟩) hg];exact HP.2.1.1
 have m2d:W2.cell? ⟨g,F+2+1,none⟩=some (.slice (some ⟨b1,0,none⟩) n1 p1):=by rw[HJ2.below.cell (p:=⟨g,F+2+1,none⟩) hg];exact HP.2.1.2.1
 have hS:(fun w':World=>w'.cell? ⟨w.heap.size+1+1,1,none⟩=some (.slice a2 m2 e2)∧w'.cell? ⟨w.heap.size,0,none⟩=some (.int .i64 14)∧w'.cell? ⟨g,F+2,none⟩=some (.int .i64 k1)∧w'.cell? ⟨g,F+2+1,none⟩=some (.slice (some ⟨b1,0,none⟩) n1 p1)) W2.drew:=⟨m2a,m2b,m2c,m2d⟩
 have y2:=HJ2.size
 have HC2:Hid (Calls Tryz.prog 74 #[(.slice a2 m2 e2),.int .i64 14,.int .i64 1,.agg #[.int .i64 k1,.slice (some ⟨b1,0,none⟩) n1 p1]] W2.drew (AppP (w.heap.size+3) (X2++wrapT 14 1 (k1,t1)) W2.drew)):=by
  have hj:=HJ2.move (w':=W2.drew) ((Below.refl _ _).drew) hB
  exact op_call (hk:=rfl) (hp:=rfl) hj HP.2.2.2.1 HP.2.2.2.2 (by first|omega|simp) (HP.2.1.2.2.1.below hj.below HP.2.1.2.2.2) HP.2.1.2.2.2 (by omega)
 go_upto_region 8 with fail
 refine wp_region_T 9 (fun w':World=>w'.cell? ⟨w.heap.size+1+1,1,none⟩=some (.slice a2 m2 e2)∧w'.cell? ⟨w.heap.size,0,none⟩=some (.int .i64 14)∧w'.cell? ⟨g,F+2,none⟩=some (.int .i64 k1)∧w'.cell? ⟨g,F+2+1,none⟩=some (.slice (some ⟨b1,0,none⟩) n1 p1)) (by kernel_rfl) ?_
 refine qU 0 ?vc140 rfl ?yc140 hS ?_
 case yc140=>exact zzR1
 try simp only[qA,List.getElem_toArray,List.getElem_cons_zero,List.getElem_cons_succ]
 refine qU 1 ?vc141 rfl ?yc141 hS ?_
 case yc141=>exact zzR1
 try simp only[qA,List.getElem_toArray,List.getElem_cons_zero,List.getElem_cons_succ]
 refine qU 2 ?vc142 rfl ?yc142 hS ?_
 case yc142=>exact zzR1
 try simp only[qA,List.getElem_toArray,List.getElem_cons_zero,List.getElem_cons_succ]
 refine qU 3 ?vc143 rfl ?yc143 hS ?_
 case yc143=>exact zzR1
 try simp only[qA,List.getElem_toArray,List.getElem_cons_zero,List.getElem_cons_succ]
 refine qU 4 ?vc144 rfl ?yc144 hS ?_
 case yc144=>exact zzR1
 try simp only[qA,List.getElem_toArray,List.getElem_cons_zero,List.getElem_cons_succ]
 refine qU 5 ?vc145 rfl ?yc145 hS ?_
 case yc145=>exact zzR1
 try simp only[qA,List.getElem_toArray,List.getElem_cons_zero,List.getElem_cons_succ]
 refine qU 6 ?vc146 rfl ?yc146 hS ?_
 case yc146=>exact zzR1
 try simp only[qA,List.getElem_toArray,List.getElem_cons_zero,List.getElem_cons_succ]
 refine anyT_one (i:=7) (by kernel_rfl) rfl (fun K hK=>?_)
 go_simp
 go_at_call 74
 refine HC2.mono ?_
 rintro r q2 ⟨v3,rfl,hO3,hF3⟩
 obtain⟨a3,e3,hv3⟩:=hO3.slice
 obtain⟨m3,hm3⟩:=qE ((X2++wrapT 14 1 (k1,t1)).length:Nat)
 rw[←hm3]at hv3
 subst hv3
 clear hm3
 obtain⟨X3,hX3⟩:∃X3:List UInt8,X3=X2++wrapT 14 1 (k1,t1):=⟨_,rfl⟩
 have HX3:Hid (X3=X2++wrapT 14 1 (k1,t1)):=hX3
 have x3:X3.length≤X2.length+n1+2:=by rw[hX3,List.length_append];have h9:=wrapT_len 14 1 (k1,t1);have:=HP.2.2.2.1;simp only at h9;omega
 have hFd:Fr (w.heap.size+3) W2 q2:=((Fr.refl _ _).step ((Below.refl _ _).drew) (by omega)).trans hF3
 have HJ3:Hid (PnJ w ⟨14,s,hi,t,lo,up,n⟩ (.slice a3 m3 e3) X3 (q2.setCell ⟨w.heap.size+1+1,1,none⟩ (.slice a3 m3 e3))):=HJ2.step hFd (by rw[hX3];exact hO3) hB
 have g2a:q2.cell? ⟨w.heap.size+1+1,1,none⟩=some (.slice a2 m2 e2):=(hFd.box HJ2.whole (by decide)).cell (j:=1) rfl
 have g2f:q2.frozen? ⟨w.heap.size+1+1,1,none⟩=false:=(hFd.box HJ2.whole (by decide)).frozen 1
 have g2b:q2.cell? ⟨w.heap.size,0,none⟩=some (.int .i64 14):=(hFd.box HJ2.node (by decide)).cell (j:=0) rfl
 have g2c:q2.cell? ⟨g,F+2,none⟩=some (.int .i64 k1):=by rw[hFd.below.cell (p:=⟨g,F+2,none⟩) (by show g<_;omega)];exact m2c
 have g2d:q2.cell? ⟨g,F+2+1,none⟩=some (.slice (some ⟨b1,0,none⟩) n1 p1):=by rw[hFd.below.cell (p:=⟨g,F+2+1,none⟩) (by show g<_;omega)];exact m2d
 clear hO3 hF3 hX3 hFd
 refine hK.out _ _ (.inr ⟨g2a,g2b,g2c,g2d⟩) ?_
 clear hK
 try simp only[qA,List.getElem_toArray,List.getElem_cons_zero,List.getElem_cons_succ]
 refine anyT_one (i:=8) (by kernel_rfl) rfl (fun K hK=>?_)
 go_simp
 refine hK.out _ _ (.inr ⟨g2a,g2b,g2c,g2d⟩) ?_
 clear hK
 try simp only[qA,List.getElem_toArray,List.getElem_cons_zero,List.getElem_cons_succ]
 obtain⟨W3,hW3⟩:=qE (q2.setCell ⟨w.heap.size+1+1,1,none⟩ (.slice a3 m3 e3):World)
 rw[←hW3]at HJ3
 refine anyT_one (i:=9) (by kernel_rfl) rfl (fun K hK=>?_)
 go_simp
 rw[←hW3]
 refine hK.out _ _ (.inl rfl) ?_
 clear hK
 try simp only[qA,List.getElem_toArray,List.getElem_cons_zero,List.getElem_cons_succ]
 refine anyT_done (by kernel_rfl) ?_
 clear hW3 g2a g2b g2c g2d g2f m2a m2b m2c m2d hS
 have HY:Hid (Y=X3):=by show _=_;rw[HY0.out,HX3.out,HX2.out,HX1.out];simp
 have HNE:Hid (X3≠ []):=by
  show X3≠ []
  rw[HX3.out,HX2.out];simp
 obtain⟨bz,cz,hvz,hOz,hbz,hrz⟩:=HJ3.done HNE.out
 have hk0:=HJ3.whole.cell (j:=0) rfl
 have hk1:=HJ3.whole.cell (j:=1) rfl
 have hr0:=HJ3.res.cell (j:=0) rfl
 have hr1:=HJ3.res.cell (j:=1) rfl
 have hf0:=HJ3.res.frozen 0
 have hf1:=HJ3.res.frozen 1
 obtain⟨WZ,hWZ⟩:=qE ((W3.setCell ⟨w.heap.size+1,0,none⟩ (.int .i64 14)).setCell ⟨w.heap.size+1,1,none⟩ (.slice a3 m3 e3):World)
 have HZ:Hid (PnP 14 Y w (.returned (.agg #[.int .i64 14,(.slice a3 m3 e3)])) WZ∧BoxAt WZ w.heap.size 67 2 (w.heap.size+1) [.int .i64 14,(.slice a3 m3 e3)]):=by
  rw[HY.out,hWZ]
  exact⟨⟨bz,cz,by rw[hvz],hOz,hbz⟩,hrz⟩
 have p0:=HZ.2.cell (j:=0) rfl
 have p1:=HZ.2.cell (j:=1) rfl
 clear hvz hOz hbz hrz
 go_wp2_with fail
 rw[←hWZ]
 exact bodyPost_ret (v:=.agg #[.int .i64 14,(.slice a3 m3 e3)]) (by simp[results,Tryz.results37,go_sem,p0,p1]) rfl HZ.1
set_option maxHeartbeats 8000000 in
theorem printNode_15 (s:ByteArray) (hi:Bool) (t:ByteArray) (lo up n:Int) (g F c:Nat) (k0 k1:Int) (b0 p0 b1 p1:Nat) (t0 t1:List UInt8) (w:World) (hg:g<w.heap.size) (hG:Gl w) (hB:7≤w.heap.size)
  (h0:w.cell? ⟨g,F,none⟩=some (.int .i64 k0)∧w.cell? ⟨g,F+1,none⟩=some (.slice (some ⟨b0,0,none⟩) t0.length p0)∧BysAt w b0 0 t0∧b0<w.heap.size)
  (h1:w.cell? ⟨g,F+2,none⟩=some (.int .i64 k1)∧w.cell? ⟨g,F+2+1,none⟩=some (.slice (some ⟨b1,0,none⟩) t1.length p1)∧BysAt w b1 0 t1∧b1<w.heap.size) (hl0:t0.length≤400000) (hl1:t1.length≤400000):
  Calls Tryz.prog 37 #[.agg #[.int .i64 15,.string s,.bool hi,.string t,.int .u64 lo,.int .u64 up,.int .i64 n],.slice (some ⟨g,F,none⟩) 2 c] w (PnP 15 (wrapT 15 0 (k0,t0)++ [32,124,32]++wrapT 15 1 (k1,t1)) w):=by
 obtain⟨n0,hn0⟩:=qE t0.length
 obtain⟨n1,hn1⟩:=qE t1.length
 rw[←hn0]at h0
 rw[←hn1]at h1
 have HP:Hid ((w.cell? ⟨g,F,none⟩=some (.int .i64 k0)∧w.cell? ⟨g,F+1,none⟩=some (.slice (some ⟨b0,0,none⟩) n0 p0)∧BysAt w b0 0 t0∧b0<w.heap.size)∧(w.cell? ⟨g,F+2,none⟩=some (.int .i64 k1)∧w.cell? ⟨g,F+2+1,none⟩=some (.slice (some ⟨b1,0,none⟩) n1 p1)∧BysAt w b1 0 t1∧b1<w.heap.size)∧(n0=t0.length∧t0.length≤1000000)∧(n1=t1.length∧t1.length≤1000000)):=⟨h0,h1,⟨hn0,by omega⟩,hn1,by omega⟩
 have l0:n0≤400000:=by omega
 have l1:n1≤400000:=by omega
 clear h0 h1 hn0 hn1 hl0 hl1
 obtain⟨Y,hY⟩:=qE (wrapT 15 0 (k0,t0)++ [32,124,32]++wrapT 15 1 (k1,t1))
 rw[←hY]
 have HY0:Hid (Y=wrapT 15 0 (k0,t0)++ [32,124,32]++wrapT 15 1 (k1,t1)):=hY
 clear hY
 obtain⟨W0,hW0⟩:=qE (((w.alloc (Obj.cells #[.int .i64 15,.string s,.bool hi,.string t,.int .u64 lo,.int .u64 up,.int .i64 n] 65)).alloc (Obj.cells #[.int .i64 0,.slice none 0 0] 67)).alloc (Obj.cells #[.int .i64 15,.slice none 0 0] 67):World)
 have HJ0:Hid (PnJ w ⟨15,s,hi,t,lo,up,n⟩ (.slice none 0 0) [] W0):=by
  obtain⟨A,hA⟩:=qE (w.alloc (Obj.cells #[.int .i64 15,.string s,.bool hi,.string t,.int .u64 lo,.int .u64 up,.int .i64 n] 65):World)
  obtain⟨B,hBB⟩:=qE (A.alloc (Obj.cells #[.int .i64 0,.slice none 0 0] 67):World)
  have zA:A.heap.size=w.heap.size+1:=by rw[hA];simp
  have zB:B.heap.size=w.heap.size+2:=by rw[hBB];simp[zA]
  have bA:Below w.heap.size w A:=by rw[hA];exact qB
  have bB:Below A.heap.size A B:=by rw[hBB];exact qB
  have b0:Below B.heap.size B W0:=by rw[hW0,←hA,←hBB];exact qB
  have x0:BoxAt A w.heap.size 65 7 w.heap.size [.int .i64 15,.string s,.bool hi,.string t,.int .u64 lo,.int .u64 up,.int .i64 n]:=by rw[hA];exact boxAt_new w _ (Nat.le_refl _) rfl
  have x1:BoxAt B w.heap.size 67 2 (w.heap.size+1) [.int .i64 0,.slice none 0 0]:=by rw[hBB,←zA];exact boxAt_new A _ (by omega) rfl
  have x2:BoxAt W0 w.heap.size 67 2 (w.heap.size+1+1) [.int .i64 15,.slice none 0 0]:=by rw[hW0,←hA,←hBB,←zB];exact boxAt_new B _ (by omega) rfl
  have bw:Below w.heap.size w W0:=(bA.trans (bB.mono (by omega))).trans (b0.mono (by omega))
  exact⟨World.ownsRow_nil ..,(x0.below bB).below b0,x1.below b0,x2,hG.on bw hB,bw,by rw[hW0];simp⟩
 have z0:=HJ0.size
 have c0:=HJ0.node.cell (j:=0) rfl
 go_enter Tryz.func37,Tryz.ntmps37
 go_upto_region 2 with fail
 rw[←hW0]
 clear hW0
 have m0a:W0.cell? ⟨w.heap.size+1+1,1,none⟩=some (.slice none 0 0):=HJ0.whole.cell (j:=1) rfl
 have m0b:W0.cell? ⟨w.heap.size,0,none⟩=some (.int .i64 15):=HJ0.node.cell (j:=0) rfl
 have m0c:W0.cell? ⟨g,F,none⟩=some (.int .i64 k0):=by rw[HJ0.below.cell (p:=⟨g,F,none⟩) hg];exact HP.1.1
 have m0d:W0.cell? ⟨g,F+1,none⟩=some (.slice (some ⟨b0,0,none⟩) n0 p0):=by rw[HJ0.below.cell (p:=⟨g,F+1,none⟩) hg];exact HP.1.2.1
 have hS:(fun w':World=>w'.cell? ⟨w.heap.size+1+1,1,none⟩=some (.slice none 0 0)∧w'.cell? ⟨w.heap.size,0,none⟩=some (.int .i64 15)∧w'.cell? ⟨g,F,none⟩=some (.int .i64 k0)∧w'.cell? ⟨g,F+1,none⟩=some (.slice (some ⟨b0,0,none⟩) n0 p0)) W0.drew:=⟨m0a,m0b,m0c,m0d⟩
 have y0:=HJ0.size
 have HC0:Hid (Calls Tryz.prog 74 #[(.slice none 0 0),.int .i64 15,.int .i64 0,.agg #[.int .i64 k0,.slice (some ⟨b0,0,none⟩) n0 p0]] W0.drew (AppP (w.heap.size+3) (([]:List UInt8)++wrapT 15 0 (k0,t0)) W0.drew)):=by
  have hj:=HJ0.move (w':=W0.drew) ((Below.refl _ _).drew) hB
  exact op_call (hk:=rfl) (hp:=rfl) hj HP.2.2.1.1 HP.2.2.1.2 (by first|omega|simp) (HP.1.2.2.1.below hj.below HP.1.2.2.2) HP.1.2.2.2 (by omega)
 go_upto_region 6 with fail
 refine wp_region_T 9 (fun w':World=>w'.cell? ⟨w.heap.size+1+1,1,none⟩=some (.slice none 0 0)∧w'.cell? ⟨w.heap.size,0,none⟩=some (.int .i64 15)∧w'.cell? ⟨g,F,none⟩=some (.int .i64 k0)∧w'.cell? ⟨g,F+1,none⟩=some (.slice (some ⟨b0,0,none⟩) n0 p0)) (by kernel_rfl) ?_
 refine qU 0 ?va150 rfl ?ya150 hS ?_
 case ya150=>exact zzR1
 try simp only[qA,List.getElem_toArray,List.getElem_cons_zero,List.getElem_cons_succ]
 refine qU 1 ?va151 rfl ?ya151 hS ?_
 case ya151=>exact zzR1
 try simp only[qA,List.getElem_toArray,List.getElem_cons_zero,List.getElem_cons_succ]
 refine qU 2 ?va152 rfl ?ya152 hS ?_
 case ya152=>exact zzR1
 try simp only[qA,List.getElem_toArray,List.getElem_cons_zero,List.getElem_cons_succ]
 refine qU 3 ?va153 rfl ?ya153 hS ?_
 case ya153=>exact zzR1
 try simp only[qA,List.getElem_toArray,List.getElem_cons_zero,List.getElem_cons_succ]
 refine qU 4 ?va154 rfl ?ya154 hS ?_
 case ya154=>exact zzR1
 try simp only[qA,List.getElem_toArray,List.getElem_cons_zero,List.getElem_cons_succ]
 refine qU 5 ?va155 rfl ?ya155 hS ?_
 case ya155=>exact zzR1
 try simp only[qA,List.getElem_toArray,List.getElem_cons_zero,List.getElem_cons_succ]
 refine qU 6 ?va156 rfl ?ya156 hS ?_
 case ya156=>exact zzR1
 try simp only[qA,List.getElem_toArray,List.getElem_cons_zero,List.getElem_cons_succ]
 refine anyT_one (i:=7) (by kernel_rfl) rfl (fun K hK=>?_)
 go_simp
 go_at_call 74
 refine HC0.mono ?_
 rintro r q0 ⟨v1,rfl,hO1,hF1⟩
 obtain⟨a1,e1,hv1⟩:=hO1.slice
 obtain⟨m1,hm1⟩:=qE ((([]:List UInt8)++wrapT 15 0 (k0,t0)).length:Nat)
 rw[←hm1]at hv1
 subst hv1
 clear hm1
 obtain⟨X1,hX1⟩:∃X1:List UInt8,X1=([]:List UInt8)++wrapT 15 0 (k0,t0):=⟨_,rfl⟩
 have HX1:Hid (X1=([]:List UInt8)++wrapT 15 0 (k0,t0)):=hX1
 have x1:X1.length≤0+n0+2:=by rw[hX1,List.length_append];rw[List.length_nil];have h9:=wrapT_len 15 0 (k0,t0);have:=HP.2.2.1.1;simp only at h9;omega
 have hFd:Fr (w.heap.size+3) W0 q0:=((Fr.refl _ _).step ((Below.refl _ _).drew) (by omega)).trans hF1
 have HJ1:Hid (PnJ w ⟨15,s,hi,t,lo,up,n⟩ (.slice a1 m1 e1) X1 (q0.setCell ⟨w.heap.size+1+1,1,none⟩ (.slice a1 m1 e1))):=HJ0.step hFd (by rw[hX1];exact hO1) hB
 have g0a:q0.cell? ⟨w.heap.size+1+1,1,none⟩=some (.slice none 0 0):=(hFd.box HJ0.whole (by decide)).cell (j:=1) rfl
 have g0f:q0.frozen? ⟨w.heap.size+1+1,1,none⟩=false:=(hFd.box HJ0.whole (by decide)).frozen 1
 have g0b:q0.cell? ⟨w.heap.size,0,none⟩=some (.int .i64 15):=(hFd.box HJ0.node (by decide)).cell (j:=0) rfl
 have g0c:q0.cell? ⟨g,F,none⟩=some (.int .i64 k0):=by rw[hFd.below.cell (p:=⟨g,F,none⟩) (by show g<_;omega)];exact m0c
 have g0d:q0.cell? ⟨g,F+1,none⟩=some (.slice (some ⟨b0,0,none⟩) n0 p0):=by rw[hFd.below.cell (p:=⟨g,F+1,none⟩) (by show g<_;omega)];exact m0d
 clear hO1 hF1 hX1 hFd
 refine hK.out _ _ (.inr ⟨g0a,g0b,g0c,g0d⟩) ?_
 clear hK
 try simp only[qA,List.getElem_toArray,List.getElem_cons_zero,List.getElem_cons_succ]
 refine anyT_one (i:=8) (by kernel_rfl) rfl (fun K hK=>?_)
 go_simp
 refine hK.out _ _ (.inr ⟨g0a,g0b,g0c,g0d⟩) ?_
 clear hK
 try simp only[qA,List.getElem_toArray,List.getElem_cons_zero,List.getElem_cons_succ]
 obtain⟨W1,hW1⟩:=qE (q0.setCell ⟨w.heap.size+1+1,1,none⟩ (.slice a1 m1 e1):World)
 rw[←hW1]at HJ1
 refine anyT_one (i:=9) (by kernel_rfl) rfl (fun K hK=>?_)
 go_simp
 rw[←hW1]
 refine hK.out _ _ (.inl rfl) ?_
 clear hK
 try simp only[qA,List.getElem_toArray,List.getElem_cons_zero,List.getElem_cons_succ]
 refine anyT_done (by kernel_rfl) ?_
 clear hW1 g0a g0b g0c g0d g0f m0a m0b m0c m0d hS
 have m1a:W1.cell? ⟨w.heap.size+1+1,1,none⟩=some (.slice a1 m1 e1):=HJ1.whole.cell (j:=1) rfl
 have m1b:W1.cell? ⟨w.heap.size,0,none⟩=some (.int .i64 15):=HJ1.node.cell (j:=0) rfl
 have m1c:W1.cell? ⟨0,15,none⟩=some (.string ⟨#[124]⟩):=HJ1.gl.words 15 (by omega)
 have hS:(fun w':World=>w'.cell? ⟨w.heap.size+1+1,1,none⟩=some (.slice a1 m1 e1)∧w'.cell? ⟨w.heap.size,0,none⟩=some (.int .i64 15)∧w'.cell? ⟨0,15,none⟩=some (.string ⟨#[124]⟩)) W1.drew:=⟨m1a,m1b,m1c⟩
 have y1:=HJ1.size
 have hJd:Hid (PnJ w ⟨15,s,hi,t,lo,up,n⟩ (.slice a1 m1 e1) X1 W1.drew):=HJ1.move ((Below.refl _ _).drew) hB
 go_upto_region 7 with fail
 refine wp_region_T 10 (fun w':World=>w'.cell? ⟨w.heap.size+1+1,1,none⟩=some (.slice a1 m1 e1)∧w'.cell? ⟨w.heap.size,0,none⟩=some (.int .i64 15)∧w'.cell? ⟨0,15,none⟩=some (.string ⟨#[124]⟩)) (by kernel_rfl) ?_
 refine qU 0 ?vb150 rfl ?yb150 hS ?_
 case yb150=>exact zzR1
 try simp only[qA,List.getElem_toArray,List.getElem_cons_zero,List.getElem_cons_succ]
 refine qU 1 ?vb151 rfl ?yb151 hS ?_
 case yb151=>exact zzR1
 try simp only[qA,List.getElem_toArray,List.getElem_cons_zero,List.getElem_cons_succ]
 refine qU 2 ?vb152 rfl ?yb152 hS ?_
 case yb152=>exact zzR1
 try simp only[qA,List.getElem_toArray,List.getElem_cons_zero,List.getElem_cons_succ]
 refine qU 3 ?vb153 rfl ?yb153 hS ?_
 case yb153=>exact zzR1
 try simp only[qA,List.getElem_toArray,List.getElem_cons_zero,List.getElem_cons_succ]
 refine qU 4 ?vb154 rfl ?yb154 hS ?_
 case yb154=>exact zzR1
 try simp only[qA,List.getElem_toArray,List.getElem_cons_zero,List.getElem_cons_succ]
 refine qU 5 ?vb155 rfl ?yb155 hS ?_
 case yb155=>exact zzR1
 try simp only[qA,List.getElem_toArray,List.getElem_cons_zero,List.getElem_cons_succ]
 refine qU 6 ((.string ⟨#[32,124]⟩)) rfl ?yb156 hS ?_
 case yb156=>exact zzR7
 try simp only[qA,List.getElem_toArray,List.getElem_cons_zero,List.getElem_cons_succ]
 refine qU 7 ((.string ⟨#[32,124,32]⟩)) rfl ?yb157 hS ?_
 case yb157=>exact zzR7
 try simp only[qA,List.getElem_toArray,List.getElem_cons_zero,List.getElem_cons_succ]
 refine anyT_one (i:=8) (by kernel_rfl) rfl (fun K hK=>?_)
 refine step_append_st _ rfl _ _ rfl (w.heap.size+3) (.slice a1 m1 e1) X1 ⟨#[32,124,32]⟩ rfl rfl hJd.out.own ?hl ?hb ?_
 case hl=>(have h3:(⟨#[32,124,32]⟩:ByteArray).size=3:=rfl;rw[h3];omega)
 case hb=>exact hJd.out.size
 intro v2 q1 hO2 hgr2
 obtain⟨a2,e2,hv2⟩:=hO2.slice
 obtain⟨m2,hm2⟩:=qE ((X1++bl ⟨#[32,124,32]⟩).length:Nat)
 rw[←hm2]at hv2
 subst hv2
 clear hm2
 obtain⟨X2,hX2⟩:∃X2:List UInt8,X2=X1++ [32,124,32]:=⟨_,rfl⟩
 have HX2:Hid (X2=X1++ [32,124,32]):=hX2
 have x2:X2.length≤X1.length+3:=by rw[hX2,List.length_append];exact Nat.le_refl _
 have hFd:Fr (w.heap.size+3) W1 q1:=((Fr.refl _ _).step ((Below.refl _ _).drew) (by omega)).trans (hJd.out.own.nextF (Fr.refl _ _) hJd.out.size hgr2)
 have HJ2:Hid (PnJ w ⟨15,s,hi,t,lo,up,n⟩ (.slice a2 m2 e2) X2 (q1.setCell ⟨w.heap.size+1+1,1,none⟩ (.slice a2 m2 e2))):=HJ1.step hFd (by rw[hX2];exact hO2) hB
 have g1a:q1.cell? ⟨w.heap.size+1+1,1,none⟩=some (.slice a1 m1 e1):=(hFd.box HJ1.whole (by decide)).cell (j:=1) rfl
 have g1f:q1.frozen? ⟨w.heap.size+1+1,1,none⟩=false:=(hFd.box HJ1.whole (by decide)).frozen 1
 have g1b:q1.cell? ⟨w.heap.size,0,none⟩=some (.int .i64 15):=(hFd.box HJ1.node (by decide)).cell (j:=0) rfl
 have g1c:q1.cell? ⟨0,15,none⟩=some (.string ⟨#[124]⟩):=(HJ1.gl.on hFd.below (by omega)).words 15 (by omega)
 clear hO2 hgr2 hX2 hFd
 refine hK.out _ _ (.inr ⟨g1a,g1b,g1c⟩) ?_
 clear hK
 try simp only[qA,List.getElem_toArray,List.getElem_cons_zero,List.getElem_cons_succ]
 refine anyT_one (i:=9) (by kernel_rfl) rfl (fun K hK=>?_)
 go_simp
 refine hK.out _ _ (.inr ⟨g1a,g1b,g1c⟩) ?_
 clear hK
 try simp only[qA,List.getElem_toArray,List.getElem_cons_zero,List.getElem_cons_succ]
 obtain⟨W2,hW2⟩:=qE (q1.setCell ⟨w.heap.size+1+1,1,none⟩ (.slice a2 m2 e2):World)
 rw[←hW2]at HJ2
 refine anyT_one (i:=10) (by kernel_rfl) rfl (fun K hK=>?_)
 go_simp
 rw[←hW2]
 refine hK.out _ _ (.inl rfl) ?_
 clear hK
 try simp only[qA,List.getElem_toArray,List.getElem_cons_zero,List.getElem_cons_succ]
 refine anyT_done (by kernel_rfl) ?_
 clear hW2 g1a g1b g1c g1f m1a m1b m1c hS hJd
 have m2a:W2.cell? ⟨w.heap.size+1+1,1,none⟩=some (.slice a2 m2 e2):=HJ2.whole.cell (j:=1) rfl
 have m2b:W2.cell? ⟨w.heap.size,0,none⟩=some (.int .i64 15):=HJ2.node.cell (j:=0) rfl
 have m2c:W2.cell? ⟨g,F+2,none⟩=some (.int .i64 k1):=by rw[HJ2.below.cell (p:=⟨g,F+2,none⟩) hg];exact HP.2.1.1
 have m2d:W2.cell? ⟨g,F+2+1,none⟩=some (.slice (some ⟨b1,0,none⟩) n1 p1):=by rw[HJ2.below.cell (p:=⟨g,F+2+1,none⟩) hg];exact HP.2.1.2.1
 have hS:(fun w':World=>w'.cell? ⟨w.heap.size+1+1,1,none⟩=some (.slice a2 m2 e2)∧w'.cell? ⟨w.heap.size,0,none⟩=some (.int .i64 15)∧w'.cell? ⟨g,F+2,none⟩=some (.int .i64 k1)∧w'.cell? ⟨g,F+2+1,none⟩=some (.slice (some ⟨b1,0,none⟩) n1 p1)) W2.drew:=⟨m2a,m2b,m2c,m2d⟩
 have y2:=HJ2.size
 have HC2:Hid (Calls Tryz.prog 74 #[(.slice a2 m2 e2),.int .i64 15,.int .i64 1,.agg #[.int .i64 k1,.slice (some ⟨b1,0,none⟩) n1 p1]] W2.drew (AppP (w.heap.size+3) (X2++wrapT 15 1 (k1,t1)) W2.drew)):=by
  have hj:=HJ2.move (w':=W2.drew) ((Below.refl _ _).drew) hB
  exact op_call (hk:=rfl) (hp:=rfl) hj HP.2.2.2.1 HP.2.2.2.2 (by first|omega|simp) (HP.2.1.2.2.1.below hj.below HP.2.1.2.2.2) HP.2.1.2.2.2 (by omega)
 go_upto_region 8 with fail
 refine wp_region_T 9 (fun w':World=>w'.cell? ⟨w.heap.size+1+1,1,none⟩=some (.slice a2 m2 e2)∧w'.cell? ⟨w.heap.size,0,none⟩=some (.int .i64 15)∧w'.cell? ⟨g,F+2,none⟩=some (.int .i64 k1)∧w'.cell? ⟨g,F+2+1,none⟩=some (.slice (some ⟨b1,0,none⟩) n1 p1)) (by kernel_rfl) ?_
 refine qU 0 ?vc150 rfl ?yc150 hS ?_
 case yc150=>exact zzR1
 try simp only[qA,List.getElem_toArray,List.getElem_cons_zero,List.getElem_cons_succ]
 refine qU 1 ?vc151 rfl ?yc151 hS ?_
 case yc151=>exact zzR1
 try simp only[qA,List.getElem_toArray,List.getElem_cons_zero,List.getElem_cons_succ]
 refine qU 2 ?vc152 rfl ?yc152 hS ?_
 case yc152=>exact zzR1
 try simp only[qA,List.getElem_toArray,List.getElem_cons_zero,List.getElem_cons_succ]
 refine qU 3 ?vc153 rfl ?yc153 hS ?_
 case yc153=>exact zzR1
 try simp only[qA,List.getElem_toArray,List.getElem_cons_zero,List.getElem_cons_succ]
 refine qU 4 ?vc154 rfl ?yc154 hS ?_
 case yc154=>exact zzR1
 try simp only[qA,List.getElem_toArray,List.getElem_cons_zero,List.getElem_cons_succ]
 refine qU 5 ?vc155 rfl ?yc155 hS ?_
 case yc155=>exact zzR1
 try simp only[qA,List.getElem_toArray,List.getElem_cons_zero,List.getElem_cons_succ]
 refine qU 6 ?vc156 rfl ?yc156 hS ?_
 case yc156=>exact zzR1
 try simp only[qA,List.getElem_toArray,List.getElem_cons_zero,List.getElem_cons_succ]
 refine anyT_one (i:=7) (by kernel_rfl) rfl (fun K hK=>?_)
 go_simp
 go_at_call 74
 refine HC2.mono ?_
 rintro r q2 ⟨v3,rfl,hO3,hF3⟩
 obtain⟨a3,e3,hv3⟩:=hO3.slice
 obtain⟨m3,hm3⟩:=qE ((X2++wrapT 15 1 (k1,t1)).length:Nat)
 rw[←hm3]at hv3
 subst hv3
 clear hm3
 obtain⟨X3,hX3⟩:∃X3:List UInt8,X3=X2++wrapT 15 1 (k1,t1):=⟨_,rfl⟩
 have HX3:Hid (X3=X2++wrapT 15 1 (k1,t1)):=hX3
 have x3:X3.length≤X2.length+n1+2:=by rw[hX3,List.length_append];have h9:=wrapT_len 15 1 (k1,t1);have:=HP.2.2.2.1;simp only at h9;omega
 have hFd:Fr (w.heap.size+3) W2 q2:=((Fr.refl _ _).step ((Below.refl _ _).drew) (by omega)).trans hF3
 have HJ3:Hid (PnJ w ⟨15,s,hi,t,lo,up,n⟩ (.slice a3 m3 e3) X3 (q2.setCell ⟨w.heap.size+1+1,1,none⟩ (.slice a3 m3 e3))):=HJ2.step hFd (by rw[hX3];exact hO3) hB
 have g2a:q2.cell? ⟨w.heap.size+1+1,1,none⟩=some (.slice a2 m2 e2):=(hFd.box HJ2.whole (by decide)).cell (j:=1) rfl
 have g2f:q2.frozen? ⟨w.heap.size+1+1,1,none⟩=false:=(hFd.box HJ2.whole (by decide)).frozen 1
 have g2b:q2.cell? ⟨w.heap.size,0,none⟩=some (.int .i64 15):=(hFd.box HJ2.node (by decide)).cell (j:=0) rfl
 have g2c:q2.cell? ⟨g,F+2,none⟩=some (.int .i64 k1):=by rw[hFd.below.cell (p:=⟨g,F+2,none⟩) (by show g<_;omega)];exact m2c
 have g2d:q2.cell? ⟨g,F+2+1,none⟩=some (.slice (some ⟨b1,0,none⟩) n1 p1):=by rw[hFd.below.cell (p:=⟨g,F+2+1,none⟩) (by show g<_;omega)];exact m2d
 clear hO3 hF3 hX3 hFd
 refine hK.out _ _ (.inr ⟨g2a,g2b,g2c,g2d⟩) ?_
 clear hK
 try simp only[qA,List.getElem_toArray,List.getElem_cons_zero,List.getElem_cons_succ]
 refine anyT_one (i:=8) (by kernel_rfl) rfl (fun K hK=>?_)
 go_simp
 refine hK.out _ _ (.inr ⟨g2a,g2b,g2c,g2d⟩) ?_
 clear hK
 try simp only[qA,List.getElem_toArray,List.getElem_cons_zero,List.getElem_cons_succ]
 obtain⟨W3,hW3⟩:=qE (q2.setCell ⟨w.heap.size+1+1,1,none⟩ (.slice a3 m3 e3):World)
 rw[←hW3]at HJ3
 refine anyT_one (i:=9) (by kernel_rfl) rfl (fun K hK=>?_)
 go_simp
 rw[←hW3]
 refine hK.out _ _ (.inl rfl) ?_
 clear hK
 try simp only[qA,List.getElem_toArray,List.getElem_cons_zero,List.getElem_cons_succ]
 refine anyT_done (by kernel_rfl) ?_
 clear hW3 g2a g2b g2c g2d g2f m2a m2b m2c m2d hS
 have HY:Hid (Y=X3):=by show _=_;rw[HY0.out,HX3.out,HX2.out,HX1.out];simp
 have HNE:Hid (X3≠ []):=by
  show X3≠ []
  rw[HX3.out,HX2.out];simp
 obtain⟨bz,cz,hvz,hOz,hbz,hrz⟩:=HJ3.done HNE.out
 have hk0:=HJ3.whole.cell (j:=0) rfl
 have hk1:=HJ3.whole.cell (j:=1) rfl
 have hr0:=HJ3.res.cell (j:=0) rfl
 have hr1:=HJ3.res.cell (j:=1) rfl
 have hf0:=HJ3.res.frozen 0
 have hf1:=HJ3.res.frozen 1
 obtain⟨WZ,hWZ⟩:=qE ((W3.setCell ⟨w.heap.size+1,0,none⟩ (.int .i64 15)).setCell ⟨w.heap.size+1,1,none⟩ (.slice a3 m3 e3):World)
 have HZ:Hid (PnP 15 Y w (.returned (.agg #[.int .i64 15,(.slice a3 m3 e3)])) WZ∧BoxAt WZ w.heap.size 67 2 (w.heap.size+1) [.int .i64 15,(.slice a3 m3 e3)]):=by
  rw[HY.out,hWZ]
  exact⟨⟨bz,cz,by rw[hvz],hOz,hbz⟩,hrz⟩
 have p0:=HZ.2.cell (j:=0) rfl
 have p1:=HZ.2.cell (j:=1) rfl
 clear hvz hOz hbz hrz
 go_wp2_with fail
 rw[←hWZ]
 exact bodyPost_ret (v:=.agg #[.int .i64 15,(.slice a3 m3 e3)]) (by simp[results,Tryz.results37,go_sem,p0,p1]) rfl HZ.1
set_option maxHeartbeats 8000000 in
theorem printNode_16 (s:ByteArray) (hi:Bool) (t:ByteArray) (lo up n:Int) (g F c:Nat) (k0 k1 k2:Int) (b0 p0 b1 p1 b2 p2:Nat) (t0 t1 t2:List UInt8) (w:World) (hg:g<w.heap.size) (hG:Gl w) (hB:7≤w.heap.size)
  (h0:w.cell? ⟨g,F,none⟩=some (.int .i64 k0)∧w.cell? ⟨g,F+1,none⟩=some (.slice (some ⟨b0,0,none⟩) t0.length p0)∧BysAt w b0 0 t0∧b0<w.heap.size)
  (h1:w.cell? ⟨g,F+2,none⟩=some (.int .i64 k1)∧w.cell? ⟨g,F+2+1,none⟩=some (.slice (some ⟨b1,0,none⟩) t1.length p1)∧BysAt w b1 0 t1∧b1<w.heap.size)
  (h2:w.cell? ⟨g,F+4,none⟩=some (.int .i64 k2)∧w.cell? ⟨g,F+4+1,none⟩=some (.slice (some ⟨b2,0,none⟩) t2.length p2)∧BysAt w b2 0 t2∧b2<w.heap.size) (hl0:t0.length≤400000) (hl1:t1.length≤400000) (hl2:t2.length≤400000):
  Calls Tryz.prog 37 #[.agg #[.int .i64 16,.string s,.bool hi,.string t,.int .u64 lo,.int .u64 up,.int .i64 n],.slice (some ⟨g,F,none⟩) 3 c] w (PnP 16 ([105,102,40]++(t0++ [44,32]++t1++ [44,32]++t2)++ [41]) w):=by
 obtain⟨n0,hn0⟩:=qE t0.length
 obtain⟨n1,hn1⟩:=qE t1.length
 obtain⟨n2,hn2⟩:=qE t2.length
 rw[←hn0]at h0
 rw[←hn1]at h1
 rw[←hn2]at h2
 have HP:Hid ((w.cell? ⟨g,F+1,none⟩=some (.slice (some ⟨b0,0,none⟩) n0 p0)∧BysAt w b0 0 t0∧b0<w.heap.size∧n0=t0.length)∧(w.cell? ⟨g,F+2+1,none⟩=some (.slice (some ⟨b1,0,none⟩) n1 p1)∧BysAt w b1 0 t1∧b1<w.heap.size∧n1=t1.length)∧(w.cell? ⟨g,F+4+1,none⟩=some (.slice (some ⟨b2,0,none⟩) n2 p2)∧BysAt w b2 0 t2∧b2<w.heap.size∧n2=t2.length)):=⟨⟨h0.2.1,h0.2.2.1,h0.2.2.2,hn0⟩,⟨h1.2.1,h1.2.2.1,h1.2.2.2,hn1⟩,h2.2.1,h2.2.2.1,h2.2.2.2,hn2⟩
 have l0:n0≤400000:=by omega
 have l1:n1≤400000:=by omega
 have l2:n2≤400000:=by omega
 clear h0 h1 h2 hn0 hn1 hn2 hl0 hl1 hl2
 obtain⟨JN,hJN⟩:∃JN:List UInt8,JN=t0++ [44,32]++t1++ [44,32]++t2:=⟨_,rfl⟩
 have HJN:Hid (JN=t0++ [44,32]++t1++ [44,32]++t2):=hJN
 have lJ:JN.length≤1200004:=by rw[hJN];simp only[List.length_append,List.length_cons,List.length_nil];have:=HP.1.2.2.2;have:=HP.2.1.2.2.2;have:=HP.2.2.2.2.2;omega
 rw[←hJN]
 clear hJN
 obtain⟨Y,hY⟩:∃Y:List UInt8,Y= [105,102,40]++JN++ [41]:=⟨_,rfl⟩
 rw[←hY]
 have HY0:Hid (Y= [105,102,40]++JN++ [41]):=hY
 clear hY
 obtain⟨W0,hW0⟩:=qE (((w.alloc (Obj.cells #[.int .i64 16,.string s,.bool hi,.string t,.int .u64 lo,.int .u64 up,.int .i64 n] 65)).alloc (Obj.cells #[.int .i64 0,.slice none 0 0] 67)).alloc (Obj.cells #[.int .i64 16,.slice none 0 0] 67):World)
 have HJ0:Hid (PnJ w ⟨16,s,hi,t,lo,up,n⟩ (.slice none 0 0) [] W0):=by
  obtain⟨A,hA⟩:=qE (w.alloc (Obj.cells #[.int .i64 16,.string s,.bool hi,.string t,.int .u64 lo,.int .u64 up,.int .i64 n] 65):World)
  obtain⟨B,hBB⟩:=qE (A.alloc (Obj.cells #[.int .i64 0,.slice none 0 0] 67):World)
  have zA:A.heap.size=w.heap.size+1:=by rw[hA];simp
  have zB:B.heap.size=w.heap.size+2:=by rw[hBB];simp[zA]
  have bA:Below w.heap.size w A:=by rw[hA];exact qB
  have bB:Below A.heap.size A B:=by rw[hBB];exact qB
  have b0:Below B.heap.size B W0:=by rw[hW0,←hA,←hBB];exact qB
  have x0:BoxAt A w.heap.size 65 7 w.heap.size [.int .i64 16,.string s,.bool hi,.string t,.int .u64 lo,.int .u64 up,.int .i64 n]:=by rw[hA];exact boxAt_new w _ (Nat.le_refl _) rfl
  have x1:BoxAt B w.heap.size 67 2 (w.heap.size+1) [.int .i64 0,.slice none 0 0]:=by rw[hBB,←zA];exact boxAt_new A _ (by omega) rfl
  have x2:BoxAt W0 w.heap.size 67 2 (w.heap.size+1+1) [.int .i64 16,.slice none 0 0]:=by rw[hW0,←hA,←hBB,←zB];exact boxAt_new B _ (by omega) rfl
  have bw:Below w.heap.size w W0:=(bA.trans (bB.mono (by omega))).trans (b0.mono (by omega))
  exact⟨World.ownsRow_nil ..,(x0.below bB).below b0,x1.below b0,x2,hG.on bw hB,bw,by rw[hW0];simp⟩
 have z0:=HJ0.size
 have c0:=HJ0.node.cell (j:=0) rfl
 go_enter Tryz.func37,Tryz.ntmps37
 go_upto_region 2 with fail
 rw[←hW0]
 clear hW0
 have m0a:W0.cell? ⟨g,F+1,none⟩=some (.slice (some ⟨b0,0,none⟩) n0 p0):=by rw[HJ0.below.cell (p:=⟨g,F+1,none⟩) hg];exact HP.1.1
 have m0b:W0.cell? ⟨g,F+2+1,none⟩=some (.slice (some ⟨b1,0,none⟩) n1 p1):=by rw[HJ0.below.cell (p:=⟨g,F+2+1,none⟩) hg];exact HP.2.1.1
 have m0c:W0.cell? ⟨g,F+4+1,none⟩=some (.slice (some ⟨b2,0,none⟩) n2 p2):=by rw[HJ0.below.cell (p:=⟨g,F+4+1,none⟩) hg];exact HP.2.2.1
 have hS:(fun w':World=>w'.cell? ⟨g,F+1,none⟩=some (.slice (some ⟨b0,0,none⟩) n0 p0)∧w'.cell? ⟨g,F+2+1,none⟩=some (.slice (some ⟨b1,0,none⟩) n1 p1)∧w'.cell? ⟨g,F+4+1,none⟩=some (.slice (some ⟨b2,0,none⟩) n2 p2)) W0.drew:=⟨m0a,m0b,m0c⟩
 obtain⟨W1,hW1⟩:=qE ((W0.alloc (Obj.cells #[.slice (some ⟨b0,0,none⟩) n0 p0,.slice (some ⟨b1,0,none⟩) n1 p1,.slice (some ⟨b2,0,none⟩) n2 p2] 22)).drew:World)
 have hb1:Below W0.heap.size W0 W1:=by rw[hW1];exact(qB).drew
 have s1:=hb1.size
 have HJ1:Hid (PnJ w ⟨16,s,hi,t,lo,up,n⟩ (.slice none 0 0) [] W1∧W1.cell? ⟨W0.heap.size,0,none⟩=some (.slice (some ⟨b0,0,none⟩) n0 p0)∧W1.cell? ⟨W0.heap.size,1,none⟩=some (.slice (some ⟨b1,0,none⟩) n1 p1)∧W1.cell? ⟨W0.heap.size,2,none⟩=some (.slice (some ⟨b2,0,none⟩) n2 p2)∧W0.heap.size<W1.heap.size):=by
  refine⟨HJ0.move hb1 hB,?_,?_,?_,?_⟩
  all_goals (rw[hW1];simp)
 have HTR:Hid (∃cs t fz,W1.heap[W0.heap.size]?=some (.cells cs t fz)∧t≠5):=by
  refine⟨#[.slice (some ⟨b0,0,none⟩) n0 p0,.slice (some ⟨b1,0,none⟩) n1 p1,.slice (some ⟨b2,0,none⟩) n2 p2],22,(0,0),?_,by decide⟩
  rw[hW1]
  exact heap_alloc_last W0 _
 clear hb1
 go_upto_region 10 with fail
 refine wp_region_T 13 (fun w':World=>w'.cell? ⟨g,F+1,none⟩=some (.slice (some ⟨b0,0,none⟩) n0 p0)∧w'.cell? ⟨g,F+2+1,none⟩=some (.slice (some ⟨b1,0,none⟩) n1 p1)∧w'.cell? ⟨g,F+4+1,none⟩=some (.slice (some ⟨b2,0,none⟩) n2 p2)) (by kernel_rfl) ?_
 refine qU 0 ?ve160 rfl ?ye160 hS ?_
 case ye160=>exact zzR1
 try simp only[qA,List.getElem_toArray,List.getElem_cons_zero,List.getElem_cons_succ]
 refine qU 1 ?ve161 rfl ?ye161 hS ?_
 case ye161=>exact zzR1
 try simp only[qA,List.getElem_toArray,List.getElem_cons_zero,List.getElem_cons_succ]
 refine qU 2 ?ve162 rfl ?ye162 hS ?_
 case ye162=>exact zzR1
 try simp only[qA,List.getElem_toArray,List.getElem_cons_zero,List.getElem_cons_succ]
 refine qU 3 ?ve163 rfl ?ye163 hS ?_
 case ye163=>exact zzR1
 try simp only[qA,List.getElem_toArray,List.getElem_cons_zero,List.getElem_cons_succ]
 refine qU 4 ?ve164 rfl ?ye164 hS ?_
 case ye164=>exact zzR1
 try simp only[qA,List.getElem_toArray,List.getElem_cons_zero,List.getElem_cons_succ]
 refine qU 5 ?ve165 rfl ?ye165 hS ?_
 case ye165=>exact zzR1
 try simp only[qA,List.getElem_toArray,List.getElem_cons_zero,List.getElem_cons_succ]
 refine qU 6 ?ve166 rfl ?ye166 hS ?_
 case ye166=>exact zzR1
 try simp only[qA,List.getElem_toArray,List.getElem_cons_zero,List.getElem_cons_succ]
 refine qU 7 ?ve167 rfl ?ye167 hS ?_
 case ye167=>exact zzR1
 try simp only[qA,List.getElem_toArray,List.getElem_cons_zero,List.getElem_cons_succ]
 refine qU 8 ?ve168 rfl ?ye168 hS ?_
 case ye168=>exact zzR1
 try simp only[qA,List.getElem_toArray,List.getElem_cons_zero,List.getElem_cons_succ]
 refine qU 9 ?ve169 rfl ?ye169 hS ?_
 case ye169=>exact zzR1
 try simp only[qA,List.getElem_toArray,List.getElem_cons_zero,List.getElem_cons_succ]
 refine qU 10 ?ve1610 rfl ?ye1610 hS ?_
 case ye1610=>exact zzR1
 try simp only[qA,List.getElem_toArray,List.getElem_cons_zero,List.getElem_cons_succ]
 refine qU 11 ?ve1611 rfl ?ye1611 hS ?_
 case ye1611=>exact zzR1
 try simp only[qA,List.getElem_toArray,List.getElem_cons_zero,List.getElem_cons_succ]
 refine anyT_one (i:=12) (by kernel_rfl) rfl (fun K hK=>?_)
 go_simp
 rw[←hW1]
 have g0a:W1.cell? ⟨g,F+1,none⟩=some (.slice (some ⟨b0,0,none⟩) n0 p0):=by rw[HJ1.1.below.cell (p:=⟨g,F+1,none⟩) hg];exact HP.1.1
 have g0b:W1.cell? ⟨g,F+2+1,none⟩=some (.slice (some ⟨b1,0,none⟩) n1 p1):=by rw[HJ1.1.below.cell (p:=⟨g,F+2+1,none⟩) hg];exact HP.2.1.1
 have g0c:W1.cell? ⟨g,F+4+1,none⟩=some (.slice (some ⟨b2,0,none⟩) n2 p2):=by rw[HJ1.1.below.cell (p:=⟨g,F+4+1,none⟩) hg];exact HP.2.2.1
 refine hK.out _ _ (.inr ⟨g0a,g0b,g0c⟩) ?_
 clear hK hW1
 try simp only[qA,List.getElem_toArray,List.getElem_cons_zero,List.getElem_cons_succ]
 refine anyT_one (i:=13) (by kernel_rfl) rfl (fun K hK=>?_)
 go_simp
 refine hK.out _ _ (.inl rfl) ?_
 clear hK
 try simp only[qA,List.getElem_toArray,List.getElem_cons_zero,List.getElem_cons_succ]
 refine anyT_done (by kernel_rfl) ?_
 clear g0a g0b g0c m0a m0b m0c hS
 have m1a:W1.cell? ⟨w.heap.size+1+1,1,none⟩=some (.slice none 0 0):=HJ1.1.whole.cell (j:=1) rfl
 have m1b:W1.cell? ⟨w.heap.size,0,none⟩=some (.int .i64 16):=HJ1.1.node.cell (j:=0) rfl
 have m1c:W1.cell? ⟨0,16,none⟩=some (.string ⟨#[105,102]⟩):=HJ1.1.gl.words 16 (by omega)
 have hS:(fun w':World=>w'.cell? ⟨w.heap.size+1+1,1,none⟩=some (.slice none 0 0)∧w'.cell? ⟨w.heap.size,0,none⟩=some (.int .i64 16)∧w'.cell? ⟨0,16,none⟩=some (.string ⟨#[105,102]⟩)) W1.drew:=⟨m1a,m1b,m1c⟩
 have y1:=HJ1.1.size
 have hJd:Hid (PnJ w ⟨16,s,hi,t,lo,up,n⟩ (.slice none 0 0) [] W1.drew):=HJ1.1.move ((Below.refl _ _).drew) hB
 go_upto_region 11 with fail
 refine wp_region_T 9 (fun w':World=>w'.cell? ⟨w.heap.size+1+1,1,none⟩=some (.slice none 0 0)∧w'.cell? ⟨w.heap.size,0,none⟩=some (.int .i64 16)∧w'.cell? ⟨0,16,none⟩=some (.string ⟨#[105,102]⟩)) (by kernel_rfl) ?_
 refine qU 0 ?vf160 rfl ?yf160 hS ?_
 case yf160=>exact zzR1
 try simp only[qA,List.getElem_toArray,List.getElem_cons_zero,List.getElem_cons_succ]
 refine qU 1 ?vf161 rfl ?yf161 hS ?_
 case yf161=>exact zzR1
 try simp only[qA,List.getElem_toArray,List.getElem_cons_zero,List.getElem_cons_succ]
 refine qU 2 ?vf162 rfl ?yf162 hS ?_
 case yf162=>exact zzR1
 try simp only[qA,List.getElem_toArray,List.getElem_cons_zero,List.getElem_cons_succ]
 refine qU 3 ?vf163 rfl ?yf163 hS ?_
 case yf163=>exact zzR1
 try simp only[qA,List.getElem_toArray,List.getElem_cons_zero,List.getElem_cons_succ]
 refine qU 4 ?vf164 rfl ?yf164 hS ?_
 case yf164=>exact zzR1
 try simp only[qA,List.getElem_toArray,List.getElem_cons_zero,List.getElem_cons_succ]
 refine qU 5 ?vf165 rfl ?yf165 hS ?_
 case yf165=>exact zzR1
 try simp only[qA,List.getElem_toArray,List.getElem_cons_zero,List.getElem_cons_succ]
 refine qU 6 ((.string ⟨#[105,102,40]⟩)) rfl ?yf166 hS ?_
 case yf166=>exact zzR7
 try simp only[qA,List.getElem_toArray,List.getElem_cons_zero,List.getElem_cons_succ]
 refine anyT_one (i:=7) (by kernel_rfl) rfl (fun K hK=>?_)
 refine step_append_st _ rfl _ _ rfl (w.heap.size+3) (.slice none 0 0) [] ⟨#[105,102,40]⟩ rfl rfl hJd.out.own ?hl ?hb ?_
 case hl=>(have h3:(⟨#[105,102,40]⟩:ByteArray).size=3:=rfl;rw[h3];simp)
 case hb=>exact hJd.out.size
 intro v2 q1 hO2 hgr2
 obtain⟨a2,e2,hv2⟩:=hO2.slice
 obtain⟨m2,hm2⟩:=qE (([]++bl ⟨#[105,102,40]⟩).length:Nat)
 rw[←hm2]at hv2
 subst hv2
 clear hm2
 obtain⟨X2,hX2⟩:∃X2:List UInt8,X2= [105,102,40]:=⟨_,rfl⟩
 have HX2:Hid (X2= [105,102,40]):=hX2
 have x2:X2.length≤3:=by rw[hX2];exact Nat.le_refl _
 have hFd:Fr (w.heap.size+3) W1 q1:=((Fr.refl _ _).step ((Below.refl _ _).drew) (by omega)).trans (hJd.out.own.nextF (Fr.refl _ _) hJd.out.size hgr2)
 have HJ2':PnJ w ⟨16,s,hi,t,lo,up,n⟩ (.slice a2 m2 e2) X2 (q1.setCell ⟨w.heap.size+1+1,1,none⟩ (.slice a2 m2 e2)):=HJ1.1.step hFd (by rw[hX2];exact hO2) hB
 have g1a:q1.cell? ⟨w.heap.size+1+1,1,none⟩=some (.slice none 0 0):=(hFd.box HJ1.1.whole (by decide)).cell (j:=1) rfl
 have g1f:q1.frozen? ⟨w.heap.size+1+1,1,none⟩=false:=(hFd.box HJ1.1.whole (by decide)).frozen 1
 have g1b:q1.cell? ⟨w.heap.size,0,none⟩=some (.int .i64 16):=(hFd.box HJ1.1.node (by decide)).cell (j:=0) rfl
 have g1c:q1.cell? ⟨0,16,none⟩=some (.string ⟨#[105,102]⟩):=(HJ1.1.gl.on hFd.below (by omega)).words 16 (by omega)
 have HJ2:Hid (PnJ w ⟨16,s,hi,t,lo,up,n⟩ (.slice a2 m2 e2) X2 (q1.setCell ⟨w.heap.size+1+1,1,none⟩ (.slice a2 m2 e2))∧(q1.setCell ⟨w.heap.size+1+1,1,none⟩ (.slice a2 m2 e2)).cell? ⟨W0.heap.size,0,none⟩=some (.slice (some ⟨b0,0,none⟩) n0 p0)∧(q1.setCell ⟨w.heap.size+1+1,1,none⟩ (.slice a2 m2 e2)).cell? ⟨W0.heap.size,1,none⟩=some (.slice (some ⟨b1,0,none⟩) n1 p1)∧(q1.setCell ⟨w.heap.size+1+1,1,none⟩ (.slice a2 m2 e2)).cell? ⟨W0.heap.size,2,none⟩=some (.slice (some ⟨b2,0,none⟩) n2 p2)∧W0.heap.size<(q1.setCell ⟨w.heap.size+1+1,1,none⟩ (.slice a2 m2 e2)).heap.size):=by
  have hC:Chg (fun k=>k=w.heap.size+1+1) q1 (q1.setCell ⟨w.heap.size+1+1,1,none⟩ (.slice a2 m2 e2)):=Chg.of_set q1 _ 1 _ rfl
  have zC:=hC.size
  have zF:=hFd.below.size
  have zW:=HJ1.2.2.2.2
  have kp:∀(j:Nat) (v:Value),W1.cell? ⟨W0.heap.size,j,none⟩=some v→(q1.setCell ⟨w.heap.size+1+1,1,none⟩ (.slice a2 m2 e2)).cell? ⟨W0.heap.size,j,none⟩=some v:=fun j v hv=>by
   rw[hC.cell (p:=⟨W0.heap.size,j,none⟩) (by show W0.heap.size<_;omega) (by show¬W0.heap.size=_;omega)]
   rw[←hv]
   exact row_kept hFd HTR.out
  exact⟨HJ2',kp 0 _ HJ1.2.1,kp 1 _ HJ1.2.2.1,kp 2 _ HJ1.2.2.2.1,by omega⟩
 clear hO2 hgr2 hX2 hFd HJ2'
 refine hK.out _ _ (.inr ⟨g1a,g1b,g1c⟩) ?_
 clear hK
 try simp only[qA,List.getElem_toArray,List.getElem_cons_zero,List.getElem_cons_succ]
 refine anyT_one (i:=8) (by kernel_rfl) rfl (fun K hK=>?_)
 go_simp
 refine hK.out _ _ (.inr ⟨g1a,g1b,g1c⟩) ?_
 clear hK
 try simp only[qA,List.getElem_toArray,List.getElem_cons_zero,List.getElem_cons_succ]
 obtain⟨W2,hW2⟩:=qE (q1.setCell ⟨w.heap.size+1+1,1,none⟩ (.slice a2 m2 e2):World)
 rw[←hW2]at HJ2
 refine anyT_one (i:=9) (by kernel_rfl) rfl (fun K hK=>?_)
 go_simp
 rw[←hW2]
 refine hK.out _ _ (.inl rfl) ?_
 clear hK
 try simp only[qA,List.getElem_toArray,List.getElem_cons_zero,List.getElem_cons_succ]
 refine anyT_done (by kernel_rfl) ?_
 clear hW2 g1a g1b g1c g1f m1a m1b m1c hS hJd
 have y2:=HJ2.1.size
 have m2a:W2.cell? ⟨w.heap.size+1+1,1,none⟩=some (.slice a2 m2 e2):=HJ2.1.whole.cell (j:=1) rfl
 have hS:(fun w':World=>w'.cell? ⟨w.heap.size+1+1,1,none⟩=some (.slice a2 m2 e2)) W2.drew:=m2a
 obtain⟨W3,hW3⟩:=qE ((W2.alloc (Obj.cells #[.int .u8 44,.int .u8 32] 5)).drew:World)
 obtain⟨W4,hW4⟩:=qE ((W2.alloc (Obj.cells #[.int .u8 44,.int .u8 32] 5 (2,3))).drew:World)
 have kc:Sem.run Tryz.prog (convert 22 22 (.slice (some ⟨W2.heap.size,0,none⟩) 2 2)) (W2.alloc (Obj.cells #[.int .u8 44,.int .u8 32] 5)).drew=.ok (.slice (some ⟨W2.heap.size,0,none⟩) 2 2) W4:=by
  rw[hW4]
  exact Lib.run_convert_bytes_const (P:=Tryz.prog) W2.drew 22 5 #[.int .u8 44,.int .u8 32] 2 2 Tryz.underlying22 Tryz.underlying5
 have hb3:Below W2.heap.size W2 W3:=by rw[hW3];exact(qB).drew
 have hb4:Below W2.heap.size W2 W4:=by rw[hW4];exact(qB).drew
 have s4:=hb4.size
 have HJ4:Hid (PnJ w ⟨16,s,hi,t,lo,up,n⟩ (.slice a2 m2 e2) X2 W4∧BysAt W4 W2.heap.size 0 [44,32]):=by
  refine⟨HJ2.1.move hb4 hB,?_⟩
  rw[hW4];exact fun i y hy=>bys_mark W2 _ [44,32] _ rfl i y hy
 have HC:Hid (Calls Tryz.prog 75 #[.slice (some ⟨W0.heap.size,0,none⟩) 3 3,.slice (some ⟨W2.heap.size,0,none⟩) 2 2] W4 fun r w'=>∃g m cap,r=.returned (.slice (some ⟨g,0,none⟩) m cap)∧m=JN.length∧BysAt w' g 0 JN∧Below W4.heap.size W4 w'):=by
  have hl:=HJ2.2.2.2.2
  have hj:=HJ4.1.below
  rw[HJN.out]
  exact join3_core W0.heap.size W2.heap.size b0 p0 b1 p1 b2 p2 n0 n1 n2 t0 t1 t2 W4 HP.1.2.2.2 HP.2.1.2.2.2 HP.2.2.2.2.2 l0 l1 l2
   (by rw[hb4.cell (p:=⟨W0.heap.size,0,none⟩) hl];exact HJ2.2.1) (by rw[hb4.cell (p:=⟨W0.heap.size,1,none⟩) hl];exact HJ2.2.2.1) (by rw[hb4.cell (p:=⟨W0.heap.size,2,none⟩) hl];exact HJ2.2.2.2.1)
   (HP.1.2.1.below hj HP.1.2.2.1) (HP.2.1.2.1.below hj HP.2.1.2.2.1) (HP.2.2.2.1.below hj HP.2.2.2.2.1) HJ4.2
 have m3a:W3.cell? ⟨w.heap.size+1+1,1,none⟩=some (.slice a2 m2 e2):=(HJ2.1.move hb3 hB).whole.cell (j:=1) rfl
 have m4a:W4.cell? ⟨w.heap.size+1+1,1,none⟩=some (.slice a2 m2 e2):=HJ4.1.whole.cell (j:=1) rfl
 clear hb3 hb4 hW4
 go_upto_region 12 with fail
 refine wp_region_T 8 (fun w':World=>w'.cell? ⟨w.heap.size+1+1,1,none⟩=some (.slice a2 m2 e2)) (by kernel_rfl) ?_
 refine qU 0 ?vg160 rfl ?yg160 hS ?_
 case yg160=>exact zzR1
 try simp only[qA,List.getElem_toArray,List.getElem_cons_zero,List.getElem_cons_succ]
 refine qU 1 ?vg161 rfl ?yg161 hS ?_
 case yg161=>exact zzR1
 try simp only[qA,List.getElem_toArray,List.getElem_cons_zero,List.getElem_cons_succ]
 refine qU 2 ?vg162 rfl ?yg162 hS ?_
 case yg162=>exact zzR1
 try simp only[qA,List.getElem_toArray,List.getElem_cons_zero,List.getElem_cons_succ]
 refine anyT_one (i:=3) (by kernel_rfl) rfl (fun K hK=>?_)
 go_simp
 refine hK.out _ _ (.inr (by rw[←hW3];exact m3a)) ?_
 clear hK
 try simp only[qA,List.getElem_toArray,List.getElem_cons_zero,List.getElem_cons_succ]
 refine anyT_one (i:=4) (by kernel_rfl) rfl (fun K hK=>?_)
 go_simp
 refine hK.out _ _ (.inr m4a) ?_
 clear hK hW3 kc
 try simp only[qA,List.getElem_toArray,List.getElem_cons_zero,List.getElem_cons_succ]
 refine anyT_one (i:=5) (by kernel_rfl) rfl (fun K hK=>?_)
 go_simp
 go_at_call 75
 refine HC.mono ?_
 rintro r q4 ⟨jg,jm,jc,rfl,hjm,hjE,hjb⟩
 have s5:=hjb.size
 have HJ5:Hid (PnJ w ⟨16,s,hi,t,lo,up,n⟩ (.slice a2 m2 e2) X2 q4∧BysAt q4 jg 0 JN∧jm=JN.length):=⟨HJ4.1.move hjb hB,hjE,hjm⟩
 have m5a:q4.cell? ⟨w.heap.size+1+1,1,none⟩=some (.slice a2 m2 e2):=HJ5.1.whole.cell (j:=1) rfl
 clear hjm hjE hjb
 refine hK.out _ _ (.inr m5a) ?_
 clear hK
 try simp only[qA,List.getElem_toArray,List.getElem_cons_zero,List.getElem_cons_succ]
 refine anyT_one (i:=6) (by kernel_rfl) rfl (fun K hK=>?_)
 refine step_append_ys _ rfl _ _ rfl (w.heap.size+3) jg 0 jm jc (.slice a2 m2 e2) X2 JN rfl rfl HJ5.2.2 HJ5.1.own HJ5.2.1 ?hl ?hb ?_
 case hl=>omega
 case hb=>exact HJ5.1.size
 intro v6 q6 hO6 hgr6
 obtain⟨a6,e6,hv6⟩:=hO6.slice
 obtain⟨m6,hm6⟩:=qE ((X2++JN).length:Nat)
 rw[←hm6]at hv6
 subst hv6
 clear hm6
 obtain⟨X6,hX6⟩:∃X6:List UInt8,X6=X2++JN:=⟨_,rfl⟩
 have HX6:Hid (X6=X2++JN):=hX6
 have x6:X6.length≤X2.length+JN.length:=by rw[hX6,List.length_append];exact Nat.le_refl _
 have hFd:Fr (w.heap.size+3) q4 q6:=HJ5.1.own.nextF (Fr.refl _ _) HJ5.1.size hgr6
 have HJ6:Hid (PnJ w ⟨16,s,hi,t,lo,up,n⟩ (.slice a6 m6 e6) X6 (q6.setCell ⟨w.heap.size+1+1,1,none⟩ (.slice a6 m6 e6))):=HJ5.1.step hFd (by rw[hX6];exact hO6) hB
 have g6a:q6.cell? ⟨w.heap.size+1+1,1,none⟩=some (.slice a2 m2 e2):=(hFd.box HJ5.1.whole (by decide)).cell (j:=1) rfl
 have g6f:q6.frozen? ⟨w.heap.size+1+1,1,none⟩=false:=(hFd.box HJ5.1.whole (by decide)).frozen 1
 clear hO6 hgr6 hX6 hFd
 refine hK.out _ _ (.inr g6a) ?_
 clear hK
 try simp only[qA,List.getElem_toArray,List.getElem_cons_zero,List.getElem_cons_succ]
 refine anyT_one (i:=7) (by kernel_rfl) rfl (fun K hK=>?_)
 go_simp
 refine hK.out _ _ (.inr g6a) ?_
 clear hK
 try simp only[qA,List.getElem_toArray,List.getElem_cons_zero,List.getElem_cons_succ]
 obtain⟨W6,hW6⟩:=qE (q6.setCell ⟨w.heap.size+1+1,1,none⟩ (.slice a6 m6 e6):World)
 rw[←hW6]at HJ6
 refine anyT_one (i:=8) (by kernel_rfl) rfl (fun K hK=>?_)
 go_simp
 rw[←hW6]
 refine hK.out _ _ (.inl rfl) ?_
 clear hK
 try simp only[qA,List.getElem_toArray,List.getElem_cons_zero,List.getElem_cons_succ]
 refine anyT_done (by kernel_rfl) ?_
 clear hW6 g6a g6f m2a m3a m4a m5a hS HC
 have y6:=HJ6.size
 have m6a:W6.cell? ⟨w.heap.size+1+1,1,none⟩=some (.slice a6 m6 e6):=HJ6.whole.cell (j:=1) rfl
 obtain⟨W7,hW7⟩:=qE (W6.alloc (Obj.cells #[.int .u8 41] 5):World)
 have hb7:Below W6.heap.size W6 W7:=by rw[hW7];exact qB
 have s7:=hb7.size
 have HJ7:Hid (PnJ w ⟨16,s,hi,t,lo,up,n⟩ (.slice a6 m6 e6) X6 W7∧BysAt W7 W6.heap.size 0 [41]):=by
  refine⟨HJ6.move hb7 hB,?_⟩
  rw[hW7];exact bys_new W6 _ [41] rfl
 clear hb7
 go_wp2_with (at_builtin;(try rw[←hW7]);refine wpList_append_ys _ rfl _ _ rfl (w.heap.size+3) W6.heap.size 0 1 1 (.slice a6 m6 e6) X6 [41] rfl rfl rfl HJ7.1.own HJ7.2 ?hl ?hb ?_)
 case hl=>first|omega|(show X6.length+1≤_;omega)
 case hb=>first|omega|exact HJ7.1.size
 intro v8 q8 hO8 hgr8'
 have hgr8:W7.grownBy q8 (Value.slice a6 m6 e6).ownBlock:=by first|exact hgr8'|(rw[hW7];exact hgr8')
 obtain⟨a8,e8,hv8⟩:=hO8.slice
 obtain⟨m8,hm8⟩:=qE ((X6++ [41]).length:Nat)
 rw[←hm8]at hv8
 subst hv8
 clear hm8
 obtain⟨X8,hX8⟩:∃X8:List UInt8,X8=X6++ [41]:=⟨_,rfl⟩
 have HX8:Hid (X8=X6++ [41]):=hX8
 have hFd:Fr (w.heap.size+3) W7 q8:=HJ7.1.own.nextF (Fr.refl _ _) HJ7.1.size hgr8
 have HJ8:Hid (PnJ w ⟨16,s,hi,t,lo,up,n⟩ (.slice a8 m8 e8) X8 (q8.setCell ⟨w.heap.size+1+1,1,none⟩ (.slice a8 m8 e8))):=HJ7.1.step hFd (by rw[hX8];exact hO8) hB
 have g8a:q8.cell? ⟨w.heap.size+1+1,1,none⟩=some (.slice a6 m6 e6):=(hFd.box HJ7.1.whole (by decide)).cell (j:=1) rfl
 have g8f:q8.frozen? ⟨w.heap.size+1+1,1,none⟩=false:=(hFd.box HJ7.1.whole (by decide)).frozen 1
 obtain⟨W8,hW8⟩:=qE (q8.setCell ⟨w.heap.size+1+1,1,none⟩ (.slice a8 m8 e8):World)
 rw[←hW8]at HJ8
 clear hO8 hgr8 hX8 hFd
 try clear hgr8'
 try clear hW7
 go_upto_region 14 with fail
 rw[←hW8]
 clear hW8 g8a g8f m6a
 have HY:Hid (Y=X8):=by show _=_;rw[HY0.out,HX8.out,HX6.out,HX2.out]
 have HNE:Hid (X8≠ []):=by
  show X8≠ []
  rw[HX8.out];simp
 obtain⟨bz,cz,hvz,hOz,hbz,hrz⟩:=HJ8.done HNE.out
 have hk0:=HJ8.whole.cell (j:=0) rfl
 have hk1:=HJ8.whole.cell (j:=1) rfl
 have hr0:=HJ8.res.cell (j:=0) rfl
 have hr1:=HJ8.res.cell (j:=1) rfl
 have hf0:=HJ8.res.frozen 0
 have hf1:=HJ8.res.frozen 1
 obtain⟨WZ,hWZ⟩:=qE ((W8.setCell ⟨w.heap.size+1,0,none⟩ (.int .i64 16)).setCell ⟨w.heap.size+1,1,none⟩ (.slice a8 m8 e8):World)
 have HZ:Hid (PnP 16 Y w (.returned (.agg #[.int .i64 16,(.slice a8 m8 e8)])) WZ∧BoxAt WZ w.heap.size 67 2 (w.heap.size+1) [.int .i64 16,(.slice a8 m8 e8)]):=by
  rw[HY.out,hWZ]
  exact⟨⟨bz,cz,by rw[hvz],hOz,hbz⟩,hrz⟩
 have p0:=HZ.2.cell (j:=0) rfl
 have p1:=HZ.2.cell (j:=1) rfl
 clear hvz hOz hbz hrz
 go_wp2_with fail
 rw[←hWZ]
 exact bodyPost_ret (v:=.agg #[.int .i64 16,(.slice a8 m8 e8)]) (by simp[results,Tryz.results37,go_sem,p0,p1]) rfl HZ.1
set_option maxHeartbeats 8000000 in
theorem printNode_leaf (kk:Int) (s:ByteArray) (hi:Bool) (t:ByteArray) (lo up n:Int) (a0:Option Addr) (c:Nat) (w:World) (hg:GoodN ⟨kk,s,hi,t,lo,up,n⟩) (hn:NumN ⟨kk,s,hi,t,lo,up,n⟩) (hk:arity kk=0) (hG:Gl w) (hB:7≤w.heap.size):
  Calls Tryz.prog 37 #[.agg #[.int .i64 kk,.string s,.bool hi,.string t,.int .u64 lo,.int .u64 up,.int .i64 n],.slice a0 0 c] w (PnP kk (leafM ⟨kk,s,hi,t,lo,up,n⟩) w):=by
 have h14:¬kk=14:=by rintro rfl;cases hk
 have h15:¬kk=15:=by rintro rfl;cases hk
 have h16:¬kk=16:=by rintro rfl;cases hk
 have z14:(kk==14)=false:=by rw[beq_eq_false_iff_ne];exact h14
 have z15:(kk==15)=false:=by rw[beq_eq_false_iff_ne];exact h15
 have z16:(kk==16)=false:=by rw[beq_eq_false_iff_ne];exact h16
 obtain⟨Y,hY⟩:∃Y:List UInt8,Y=leafM ⟨kk,s,hi,t,lo,up,n⟩:=⟨_,rfl⟩
 rw[←hY]
 have HY:Hid (Y=Y):=rfl
 have HNE:Hid (Y≠ []):=by rw[hY];exact leaf_ne hg hk
 have HY0:Hid (Y=leafM ⟨kk,s,hi,t,lo,up,n⟩∧GoodN ⟨kk,s,hi,t,lo,up,n⟩∧NumN ⟨kk,s,hi,t,lo,up,n⟩∧arity kk=0):=⟨hY,hg,hn,hk⟩
 clear hY hg hn hk h14 h15 h16
 obtain⟨W0,hW0⟩:=qE (((w.alloc (Obj.cells #[.int .i64 kk,.string s,.bool hi,.string t,.int .u64 lo,.int .u64 up,.int .i64 n] 65)).alloc (Obj.cells #[.int .i64 0,.slice none 0 0] 67)).alloc (Obj.cells #[.int .i64 kk,.slice none 0 0] 67):World)
 have HJ0:Hid (PnJ w ⟨kk,s,hi,t,lo,up,n⟩ (.slice none 0 0) [] W0):=by
  obtain⟨A,hA⟩:=qE (w.alloc (Obj.cells #[.int .i64 kk,.string s,.bool hi,.string t,.int .u64 lo,.int .u64 up,.int .i64 n] 65):World)
  obtain⟨B,hBB⟩:=qE (A.alloc (Obj.cells #[.int .i64 0,.slice none 0 0] 67):World)
  have zA:A.heap.size=w.heap.size+1:=by rw[hA];simp
  have zB:B.heap.size=w.heap.size+2:=by rw[hBB];simp[zA]
  have bA:Below w.heap.size w A:=by rw[hA];exact qB
  have bB:Below A.heap.size A B:=by rw[hBB];exact qB
  have b0:Below B.heap.size B W0:=by rw[hW0,←hA,←hBB];exact qB
  have x0:BoxAt A w.heap.size 65 7 w.heap.size [.int .i64 kk,.string s,.bool hi,.string t,.int .u64 lo,.int .u64 up,.int .i64 n]:=by rw[hA];exact boxAt_new w _ (Nat.le_refl _) rfl
  have x1:BoxAt B w.heap.size 67 2 (w.heap.size+1) [.int .i64 0,.slice none 0 0]:=by rw[hBB,←zA];exact boxAt_new A _ (by omega) rfl
  have x2:BoxAt W0 w.heap.size 67 2 (w.heap.size+1+1) [.int .i64 kk,.slice none 0 0]:=by rw[hW0,←hA,←hBB,←zB];exact boxAt_new B _ (by omega) rfl
  have bw:Below w.heap.size w W0:=(bA.trans (bB.mono (by omega))).trans (b0.mono (by omega))
  exact⟨World.ownsRow_nil ..,(x0.below bB).below b0,x1.below b0,x2,hG.on bw hB,bw,by rw[hW0];simp⟩
 have z0:=HJ0.size
 have c0:=HJ0.node.cell (j:=0) rfl
 have c1:=HJ0.node.cell (j:=1) rfl
 have c2:=HJ0.node.cell (j:=2) rfl
 have c3:=HJ0.node.cell (j:=3) rfl
 have c4:=HJ0.node.cell (j:=4) rfl
 have c5:=HJ0.node.cell (j:=5) rfl
 have c6:=HJ0.node.cell (j:=6) rfl
 have d1:=HJ0.whole.cell (j:=1) rfl
 have HC:Hid (Calls Tryz.prog 76 #[.slice none 0 0,.agg #[.int .i64 kk,.string s,.bool hi,.string t,.int .u64 lo,.int .u64 up,.int .i64 n]] W0 (AppP (w.heap.size+3) Y W0)):=by
  have h9:=appendLeaf_core (w.heap.size+3) (.slice none 0 0) [] ⟨kk,s,hi,t,lo,up,n⟩ W0 HY0.2.1 HY0.2.2.1 HY0.2.2.2 HJ0.own (by simp) HJ0.size HJ0.gl (by omega)
  rw[List.nil_append,←HY0.1]at h9
  exact h9
 go_enter Tryz.func37,Tryz.ntmps37
 go_upto_region 2 with fail
 rw[←hW0]
 clear hW0
 go_wp2_with fail
 refine HC.mono ?_
 rintro r q1 ⟨v1,rfl,hO1,hF1⟩
 obtain⟨a1,e1,hv1⟩:=hO1.slice
 obtain⟨m1,hm1⟩:=qE (Y.length:Nat)
 rw[←hm1]at hv1
 subst hv1
 clear hm1
 have HJ1:Hid (PnJ w ⟨kk,s,hi,t,lo,up,n⟩ (.slice a1 m1 e1) Y (q1.setCell ⟨w.heap.size+1+1,1,none⟩ (.slice a1 m1 e1))):=HJ0.step hF1 hO1 hB
 have g1a:q1.cell? ⟨w.heap.size+1+1,1,none⟩=some (.slice none 0 0):=(hF1.box HJ0.whole (by decide)).cell (j:=1) rfl
 have g1f:q1.frozen? ⟨w.heap.size+1+1,1,none⟩=false:=(hF1.box HJ0.whole (by decide)).frozen 1
 obtain⟨W1,hW1⟩:=qE (q1.setCell ⟨w.heap.size+1+1,1,none⟩ (.slice a1 m1 e1):World)
 rw[←hW1]at HJ1
 clear hO1 hF1 c0 c1 c2 c3 c4 c5 c6 d1 HC
 go_upto_region 14 with fail
 rw[←hW1]
 clear hW1 g1a g1f
 obtain⟨bz,cz,hvz,hOz,hbz,hrz⟩:=HJ1.done HNE.out
 have hk0:=HJ1.whole.cell (j:=0) rfl
 have hk1:=HJ1.whole.cell (j:=1) rfl
 have hr0:=HJ1.res.cell (j:=0) rfl
 have hr1:=HJ1.res.cell (j:=1) rfl
 have hf0:=HJ1.res.frozen 0
 have hf1:=HJ1.res.frozen 1
 obtain⟨WZ,hWZ⟩:=qE ((W1.setCell ⟨w.heap.size+1,0,none⟩ (.int .i64 kk)).setCell ⟨w.heap.size+1,1,none⟩ (.slice a1 m1 e1):World)
 have HZ:Hid (PnP kk Y w (.returned (.agg #[.int .i64 kk,(.slice a1 m1 e1)])) WZ∧BoxAt WZ w.heap.size 67 2 (w.heap.size+1) [.int .i64 kk,(.slice a1 m1 e1)]):=by
  rw[hWZ]
  exact⟨⟨bz,cz,by rw[hvz],hOz,hbz⟩,hrz⟩
 have p0:=HZ.2.cell (j:=0) rfl
 have p1:=HZ.2.cell (j:=1) rfl
 clear hvz hOz hbz hrz
 go_wp2_with fail
 rw[←hWZ]
 exact bodyPost_ret (v:=.agg #[.int .i64 kk,(.slice a1 m1 e1)]) (by simp[results,Tryz.results37,go_sem,p0,p1]) rfl HZ.1
def SoA (w:World) (e:Nd) (W0:World):Prop:=BoxAt W0 w.heap.size 65 7 w.heap.size e.seven∧BoxAt W0 w.heap.size 112 3 (w.heap.size+1) [.bool false,.int .i64 0,.int .i64 0]∧Below w.heap.size w W0∧W0.heap.size=w.heap.size+2
theorem so_after {w W0 w':World} {e:Nd} {gd:Bool} (hA:SoA w e W0) (hb:Below W0.drew.heap.size W0.drew w'):SoJ w e w'.heap.size gd 0 (w'.alloc (Obj.cells #[.bool gd,.int .i64 e.kind,.int .i64 0] 112)):=by
 have h1:Below W0.heap.size W0 w':=((Below.refl W0.heap.size W0).drew).trans hb
 have h2:=h1.size
 have h3:Below W0.heap.size W0 (w'.alloc (Obj.cells #[.bool gd,.int .i64 e.kind,.int .i64 0] 112)):=h1.alloc h2 _
 have h4:=hA.2.2.2
 exact⟨hA.1.below h3,hA.2.1.below h3,boxAt_new w' _ (by omega) rfl,by omega,hA.2.2.1.trans (h3.mono (by omega))⟩
theorem so_before {w W0 w':World} {e:Nd} {gd:Bool} (hA:SoA w e W0) (hb:Below (W0.drew.alloc (Obj.cells #[.bool false,.int .i64 0,.int .i64 0] 112)).heap.size (W0.drew.alloc (Obj.cells #[.bool false,.int .i64 0,.int .i64 0] 112)) w'):
  SoJ w e (w.heap.size+2) gd 0 (((w'.setCell ⟨w.heap.size+2,0,none⟩ (.bool gd)).setCell ⟨w.heap.size+2,1,none⟩ (.int .i64 e.kind)).setCell ⟨w.heap.size+2,2,none⟩ (.int .i64 0)):=by
 have h4:=hA.2.2.2
 have hd:W0.drew.heap.size=W0.heap.size:=by simp
 have h0:Below W0.heap.size W0 (W0.drew.alloc (Obj.cells #[.bool false,.int .i64 0,.int .i64 0] 112)):=((Below.refl W0.heap.size W0).drew).alloc (by simp) _
 have h1:Below W0.heap.size W0 w':=h0.trans (hb.mono (by simp))
 have hB:BoxAt w' w.heap.size 112 3 (w.heap.size+2) [.bool false,.int .i64 0,.int .i64 0]:=by
  have:=boxAt_new W0.drew (base:=w.heap.size) (t:=112) (sz:=3) #[.bool false,.int .i64 0,.int .i64 0] (by simp;omega) rfl
  rw[hd,h4]at this
  exact this.below hb
 refine⟨(((hA.1.below h1).beside (by omega) 0 _).beside (by omega) 1 _).beside (by omega) 2 _,(((hA.2.1.below h1).beside (by omega) 0 _).beside (by omega) 1 _).beside (by omega) 2 _,((hB.set 0 _).set 1 _).set 2 _,Nat.le_refl _,?_⟩
 exact below_set (below_set (below_set (hA.2.2.1.trans (h1.mono (by omega))) (by omega) 0 _) (by omega) 1 _) (by omega) 2 _
structure SoK (w:World) (e:Nd) (WB OB:Nat) (v:Bool) (a:Nat) (x:Shape) (q:Nat) (wr:World):Prop where
 so:SoJ w e WB v a wr
 ob:BoxAt wr w.heap.size 112 3 OB [.bool x.valid,.int .i64 x.kind,.int .i64 (q:Int)]
 ne:¬OB=WB
 ge:w.heap.size+2≤OB
theorem SoJ.round {w:World} {e:Nd} {WB:Nat} {v:Bool} {a:Nat} {wr:World} (h:SoJ w e WB v a wr) (x:Shape):SoK w e WB wr.heap.size v a x x.nest (wr.alloc (Obj.cells #[.bool x.valid,.int .i64 x.kind,.int .i64 (x.nest:Int)] 112)):=by
 have hb:Below wr.heap.size wr (wr.alloc (Obj.cells #[.bool x.valid,.int .i64 x.kind,.int .i64 (x.nest:Int)] 112)):=qB
 have h1:=h.whole.lt.2
 have h2:=h.ne
 exact⟨h.move hb,boxAt_new wr _ h.below.size rfl,by omega,by omega⟩
theorem SoK.valid {w:World} {e:Nd} {WB OB:Nat} {v:Bool} {a:Nat} {x:Shape} {q:Nat} {wr:World} (h:SoK w e WB OB v a x q wr) (v2:Bool):SoK w e WB OB v2 a x q (wr.setCell ⟨WB,0,none⟩ (.bool v2)):=by
 have h2:=h.so.ne
 exact⟨⟨h.so.node.beside (by omega) 0 _,h.so.res.beside (by omega) 0 _,h.so.whole.set 0 _,h2,below_set h.so.below (by omega) 0 _⟩,h.ob.beside h.ne 0 _,h.ne,h.ge⟩
theorem SoK.more {w:World} {e:Nd} {WB OB:Nat} {v:Bool} {a:Nat} {x:Shape} {q:Nat} {wr:World} (h:SoK w e WB OB v a x q wr) (q2:Nat):SoK w e WB OB v a x q2 (wr.setCell ⟨OB,2,none⟩ (.int .i64 (q2:Int))):=by
 have h2:=h.so.ne
 have h3:=h.ge
 have h4:=h.ne
 exact⟨⟨h.so.node.beside (by omega) 2 _,h.so.res.beside (by omega) 2 _,h.so.whole.beside (by omega) 2 _,h2,below_set h.so.below (by omega) 2 _⟩,h.ob.set 2 _,h.ne,h.ge⟩
theorem SoK.done {w:World} {e:Nd} {WB OB:Nat} {v:Bool} {a:Nat} {x:Shape} {q:Nat} {wr:World} (h:SoK w e WB OB v a x q wr) (a2:Nat):SoJ w e WB v a2 (wr.setCell ⟨WB,2,none⟩ (.int .i64 (a2:Int))):=by
 have h2:=h.so.ne
 exact⟨h.so.node.beside (by omega) 2 _,h.so.res.beside (by omega) 2 _,h.so.whole.set 2 _,h2,below_set h.so.below (by omega) 2 _⟩
theorem take_all {os:List Shape} {j:Nat} {x:Shape} (h:os[j]?=some x):(os.take (j+1)).all (·.valid)=((os.take j).all (·.valid) && x.valid):=by
 rw[List.take_add_one,h]
 simp
theorem nestFrom_at (op:Int) {os:List Shape} {j a:Nat} {o:Shape} (h:os[j]?=some o):nestFrom op j a (os.drop j)=nestFrom op (j+1) (max a (o.nest+if level op j o.kind then 1 else 0)) (os.drop (j+1)):=by
 exact zzQ66
set_option maxHeartbeats 8000000 in
theorem shapeOf_core {w:World} {b o cap:Nat} {os:List Shape} (e:Nd) (h:ShsAt w b o os) (hbl:b<w.heap.size) (hl:os.length≤cap) (h3:os.length≤3) (hcap:cap≤9223372036854775807) (hN:∀x∈os,x.nest≤1000) (hs:e.s.size≤maxLen) (ht:e.t.size≤maxLen):
  Calls Tryz.prog 72 #[e.v,.slice (some ⟨b,o,none⟩) os.length cap] w fun r w'=>r=.returned (.agg #[.bool (shapeM goodB e os).valid,.int .i64 e.kind,.int .i64 ((shapeM goodB e os).nest:Int)])∧Below w.heap.size w w':=by
 have HF:Hid (ShsAt w b o os∧(∀x∈os,x.nest≤1000)∧e.s.size≤maxLen∧e.t.size≤maxLen):=⟨h,hN,hs,ht⟩
 obtain⟨n,hn⟩:=qE os.length
 have HL:Hid (n=os.length):=hn
 rw[←hn]at hl h3⊢
 clear h hN hs ht hn
 obtain⟨gd,hgd⟩:=qE (goodB e)
 have HG:Hid (gd=goodB e):=hgd
 have HVal:Hid (∀w,Calls Tryz.prog 100 #[.agg #[.int .i64 e.kind,.string e.s,.bool e.hi,.string e.t,.int .u64 e.lo,.int .u64 e.up,.int .i64 e.n]] w fun r w'=>r=.returned (.bool gd)∧Below w.heap.size w w'):=fun w=>by
  rw[hgd];exact valid_is e w HF.2.2.1 HF.2.2.2
 clear hgd
 obtain⟨W0,hW0⟩:=qE ((w.alloc (Obj.cells #[.int .i64 e.kind,.string e.s,.bool e.hi,.string e.t,.int .u64 e.lo,.int .u64 e.up,.int .i64 e.n] 65)).alloc (Obj.cells #[.bool false,.int .i64 0,.int .i64 0] 112):World)
 have HW0:Hid (BoxAt W0 w.heap.size 65 7 w.heap.size e.seven∧BoxAt W0 w.heap.size 112 3 (w.heap.size+1) [.bool false,.int .i64 0,.int .i64 0]∧Below w.heap.size w W0∧W0.heap.size=w.heap.size+2):=by
  rw[hW0]
  exact⟨BoxAt.ofHeap (vs:=#[.int .i64 e.kind,.string e.s,.bool e.hi,.string e.t,.int .u64 e.lo,.int .u64 e.up,.int .i64 e.n]) (heap_alloc2_old w _ _) (Nat.le_refl _) rfl,BoxAt.ofHeap (vs:=#[.bool false,.int .i64 0,.int .i64 0]) (heap_alloc2_new w _ _) (by omega) rfl,(qB).alloc (by simp) _,by simp⟩
 have c0:=HW0.1.cell (j:=0) rfl
 have c1:=HW0.1.cell (j:=1) rfl
 have c2:=HW0.1.cell (j:=2) rfl
 have c3:=HW0.1.cell (j:=3) rfl
 have c4:=HW0.1.cell (j:=4) rfl
 have c5:=HW0.1.cell (j:=5) rfl
 have c6:=HW0.1.cell (j:=6) rfl
 have hz:=HW0.2.2.2
 obtain⟨tot,htot⟩:=qE ((shapeM goodB e os).nest)
 have HT:Hid (nestFrom e.kind 0 0 os=tot):=by rw[htot];exact(rfl:nestFrom e.kind 0 0 os=_)
 have HV:Hid ((shapeM goodB e os).valid=(gd && os.all (·.valid))):=by
  show(shapeM goodB e os).valid=_
  rw[HG.out];rfl
 rw[←htot]
 clear htot
 go_enter Tryz.func72,Tryz.ntmps72
 go_upto_region 1 with fail
 rw[←hW0]
 clear hW0
 go_cut[5] (fun s wx=>∃WB,s=.pointer (some ⟨WB,0,none⟩)∧SoJ w e WB gd 0 wx)
 case first=>
  have hlt0:w.heap.size<W0.heap.size:=by omega
  have c0a:∀o,(W0.alloc o).cell? ⟨w.heap.size,0,none⟩=some (.int .i64 e.kind):=fun o=>by rw[((Below.refl W0.heap.size W0).alloc (Nat.le_refl _) o).cell (p:=⟨w.heap.size,0,none⟩) hlt0];exact c0
  go_region_law ((go_simp;go_at_call 100;refine(HVal.out _).mono ?_;rintro r w' ⟨rfl,hbb⟩;obtain⟨hcc,hff⟩:=bcell hbb;have hsz':=hbb.size;have k0:w'.cell? ⟨w.heap.size,0,none⟩=some (.int .i64 e.kind):=by {rw[hcc w.heap.size 0 (by simp;omega)];first|exact c0|(simp;first|exact c0|exact c0a _)};have kl:w.heap.size<w'.heap.size:=by {simp at hsz';omega};have k0a:∀o,(w'.alloc o).cell? ⟨w.heap.size,0,none⟩=some (.int .i64 e.kind):=fun o=>by {rw[((Below.refl w'.heap.size w').alloc (Nat.le_refl _) o).cell (p:=⟨w.heap.size,0,none⟩) kl];exact k0}))
  all_goals go_wp2_with fail
  all_goals go_meet
  all_goals first
   |exact⟨_,rfl,so_after HW0.out hbb⟩
   |exact⟨_,rfl,so_before HW0.out hbb⟩
 case rest=>
 obtain⟨WB,rfl,hJ⟩:=hcut
 have HJ0:Hid (SoJ w e WB gd 0 wc):=hJ
 clear hJ c0 c1 c2 c3 c4 c5 c6 hz HW0 HVal
 go_wp2_with fail
 go_loopw[15] (fun iv wr=>∃(j a:Nat) (v:Bool),iv=.int .i64 (j:Int)∧j≤n∧a≤2000∧v=(gd && (os.take j).all (·.valid))∧nestFrom e.kind j a (os.drop j)=tot∧SoJ w e WB v a wr) (fun iv _=>n-(intOf iv).toNat)
 case atStart=>exact⟨0,0,gd,rfl,Nat.zero_le _,Nat.zero_le _,by simp,HT.out,HJ0.out⟩
 case round=>
  obtain⟨j,a,v,rfl,hj,ha,hv,hN,hJ⟩:=hrel
  have HJ:Hid (v=(gd && (os.take j).all (·.valid))∧nestFrom e.kind j a (os.drop j)=tot∧SoJ w e WB v a wr):=⟨hv,hN,hJ⟩
  have hWB:=hJ.whole.lt
  have hWn:=hJ.ne
  clear hv hN hJ HJ0 HT
  by_cases hlt:j<n
  ·have zj:(j:Int)<(n:Int):=by omega
   obtain⟨x,hx⟩:∃x,os[j]?=some x:=⟨_,List.getElem?_eq_getElem (by have:=HL.out;omega)⟩
   obtain⟨d0,d1,d2⟩:=(HF.1.below HJ.2.2.below hbl) j x hx
   have hxn:=HF.2.1 x (List.mem_of_getElem? hx)
   have HX:Hid (os[j]?=some x):=hx
   obtain⟨W1,hW1⟩:=qE (wr.alloc (Obj.cells #[.bool x.valid,.int .i64 x.kind,.int .i64 (x.nest:Int)] 112):World)
   have HK1:Hid (SoK w e WB wr.heap.size v a x x.nest W1):=by rw[hW1];exact HJ.2.2.round x
   clear hx
   go_upto_region 5 with fail
   rw[←hW1]
   clear hW1 d0 d1 d2
   obtain⟨v0,hv0⟩:=qE v
   have HV0:Hid (v0=(gd && (os.take j).all (·.valid))):=by rw[hv0];exact HJ.1
   have HN0:Hid (nestFrom e.kind j a (os.drop j)=tot):=HJ.2.1
   clear HJ
   have w0:=HK1.so.whole.cell (j:=0) rfl
   have w0f:=HK1.so.whole.frozen 0
   have o0:=HK1.ob.cell (j:=0) rfl
   have hne:=HK1.ne
   have hge:=HK1.ge
   cases v
   ·have hv0':v0=false:=hv0
    clear hv0
    obtain⟨W2,hW2⟩:=qE (W1.setCell ⟨WB,0,none⟩ (.bool false):World)
    have HK2:Hid (SoK w e WB wr.heap.size false a x x.nest W2):=by rw[hW2];exact HK1.valid false
    have HVn:Hid (false=(gd && (os.take (j+1)).all (·.valid))):=by
     show false=_
     rw[take_all HX.out,←Bool.and_assoc,←HV0.out,hv0']
     simp
    go_upto_region 6 with fail
    rw[←hW2]
    clear hW2 w0 w0f o0 HK1 HV0
    have m0:=HK2.so.node.cell (j:=0) rfl
    have o1:=HK2.ob.cell (j:=1) rfl
    have o2:=HK2.ob.cell (j:=2) rfl
    have o2f:=HK2.ob.frozen 2
    have w2:=HK2.so.whole.cell (j:=2) rfl
    have w2f:=HK2.so.whole.frozen 2
    have fin:∀(y:Nat),y=max a (x.nest+(if level e.kind j x.kind then 1 else 0))→nestFrom e.kind (j+1) y (os.drop (j+1))=tot:=fun y hy=>by
     rw[hy,←nestFrom_at e.kind HX.out];exact HN0.out
    by_cases h16:e.kind=16
    ·have hlv:level e.kind j x.kind=true:=by unfold level;rw[h16];rfl
     have z16:(e.kind==16)=true:=by simpa using h16
     clear h16
     exact zzQ23
    ·have z16:(e.kind==16)=false:=by simpa using h16
     go_wp2_with fail
     refine(inParens_core e.kind j x.kind _ h16).mono ?_
     rintro r w9 ⟨rfl,hw9⟩
     rw[hw9]
     clear hw9 h16
     cases hlv:level e.kind j x.kind
     ·skip
      obtain⟨a2,ha2⟩:=qE (max a (x.nest))
      have HFin:Hid (nestFrom e.kind (j+1) a2 (os.drop (j+1))=tot∧a2≤2000):=⟨fin a2 (by rw[ha2,hlv];rfl),by omega⟩
      have ha3:max (a:Int) ((x.nest:Int))=(a2:Int):=by omega
      clear fin hlv ha2
      go_wp2_with fail
      go_roundw
      case rel=>
       refine⟨j+1,a2,false,by go_num,by omega,HFin.2,HVn.out,HFin.1,?_⟩
       exact HK2.done a2
      case measure=>simp[intOf];omega
     ·skip
      exact zzQ23
   ·have hv0':v0=true:=hv0
    clear hv0
    obtain⟨W2,hW2⟩:=qE (W1.setCell ⟨WB,0,none⟩ (.bool x.valid):World)
    have HK2:Hid (SoK w e WB wr.heap.size x.valid a x x.nest W2):=by rw[hW2];exact HK1.valid x.valid
    have HVn:Hid (x.valid=(gd && (os.take (j+1)).all (·.valid))):=by
     show x.valid=_
     rw[take_all HX.out,←Bool.and_assoc,←HV0.out,hv0']
     simp
    go_upto_region 6 with fail
    rw[←hW2]
    clear hW2 w0 w0f o0 HK1 HV0
    have m0:=HK2.so.node.cell (j:=0) rfl
    have o1:=HK2.ob.cell (j:=1) rfl
    have o2:=HK2.ob.cell (j:=2) rfl
    have o2f:=HK2.ob.frozen 2
    have w2:=HK2.so.whole.cell (j:=2) rfl
    have w2f:=HK2.so.whole.frozen 2
    have fin:∀(y:Nat),y=max a (x.nest+(if level e.kind j x.kind then 1 else 0))→nestFrom e.kind (j+1) y (os.drop (j+1))=tot:=fun y hy=>by
     rw[hy,←nestFrom_at e.kind HX.out];exact HN0.out
    by_cases h16:e.kind=16
    ·have hlv:level e.kind j x.kind=true:=by unfold level;rw[h16];rfl
     have z16:(e.kind==16)=true:=by simpa using h16
     clear h16
     exact zzQ22
    ·have z16:(e.kind==16)=false:=by simpa using h16
     go_wp2_with fail
     refine(inParens_core e.kind j x.kind _ h16).mono ?_
     rintro r w9 ⟨rfl,hw9⟩
     rw[hw9]
     clear hw9 h16
     cases hlv:level e.kind j x.kind
     ·skip
      obtain⟨a2,ha2⟩:=qE (max a (x.nest))
      have HFin:Hid (nestFrom e.kind (j+1) a2 (os.drop (j+1))=tot∧a2≤2000):=⟨fin a2 (by rw[ha2,hlv];rfl),by omega⟩
      have ha3:max (a:Int) ((x.nest:Int))=(a2:Int):=by omega
      clear fin hlv ha2
      go_wp2_with fail
      go_roundw
      case rel=>
       refine⟨j+1,a2,x.valid,by go_num,by omega,HFin.2,HVn.out,HFin.1,?_⟩
       exact HK2.done a2
      case measure=>simp[intOf];omega
     ·skip
      exact zzQ22
  ·have zj:¬(j:Int)<(n:Int):=by omega
   have HFi:Hid (a=tot∧v=(shapeM goodB e os).valid):=by
    show _∧_
    have h1:=HJ.2.1
    have h2:=HJ.1
    have hln:=HL.out
    rw[List.drop_eq_nil_of_le (by omega)]at h1
    rw[List.take_of_length_le (by omega)]at h2
    exact⟨h1,by rw[h2,HV.out]⟩
   have w0:=HJ.2.2.whole.cell (j:=0) rfl
   have w1:=HJ.2.2.whole.cell (j:=1) rfl
   have w2:=HJ.2.2.whole.cell (j:=2) rfl
   have r0:=HJ.2.2.res.cell (j:=0) rfl
   have r1:=HJ.2.2.res.cell (j:=1) rfl
   have r2:=HJ.2.2.res.cell (j:=2) rfl
   have f0:=HJ.2.2.res.frozen 0
   have f1:=HJ.2.2.res.frozen 1
   have f2:=HJ.2.2.res.frozen 2
   obtain⟨W9,hW9⟩:=qE (set3 wr (w.heap.size+1) (.bool v) (.int .i64 e.kind) (.int .i64 (a:Int)):World)
   have HW9:Hid (BoxAt W9 w.heap.size 112 3 (w.heap.size+1) [.bool v,.int .i64 e.kind,.int .i64 (a:Int)]∧Below w.heap.size w W9):=by
    rw[hW9];exact⟨HJ.2.2.res.set3 _ _ _,below_set3 HJ.2.2.below (by omega) _ _ _⟩
   have p0:=HW9.1.cell (j:=0) rfl
   have p1:=HW9.1.cell (j:=1) rfl
   have p2:=HW9.1.cell (j:=2) rfl
   unfold set3 at hW9
   go_wp2_with fail
   rw[←hW9]
   obtain⟨rfl,hvv⟩:=HFi.out
   rw[←hvv]
   refine bodyPost_ret (v:=.agg #[.bool v,.int .i64 e.kind,.int .i64 (a:Int)]) (by simp[results,Tryz.results72,go_sem,p0,p1,p2]) rfl ⟨rfl,HW9.2⟩
theorem Tryz.infoSh:(Tryz.prog.info? 112).map (fun i=>(i.zero,i.size,i.bytes))=some (some (.agg #[.bool false,.int .i64 0,.int .i64 0]),3,24):=by kernel_rfl
theorem step_append_shape {ops:Array Oper} {oo:Oper} {a:Act} {K:Act→World→Prop} {Q:Exit→Act→World→Prop} {E:Prop} (w:World) (hgd:oo.guard=none) (s x:Operand)
  (ho:oo.op=.call {callee:=.builtin .append,args:=#[s,x],argTypes:=#[144,144]})
  (base n g cp blk:Nat) (ss:List Shape) (y:Shape) (hn:n=ss.length) (hs:a.eval s=.slice (some ⟨g,0,none⟩) n cp) (hx:a.eval x=.slice (some ⟨blk,0,none⟩) 1 1) (hO:OwnSh w base g cp ss)
  (hc:ShsAt w blk 0 [y]) (hlen:ss.length≤1000) (hbase:base≤w.heap.size)
  (h:∀g' cp' w',OwnSh w' base g' cp' (ss++ [y])→w.grownBy w' (some g)→(g=g'∨g'=w.heap.size)→K (a.put oo.dst (.slice (some ⟨g',0,none⟩) (n+1) cp')) w'):if Region.wanted oo (yielded ops a.tmps)=true then Oper.wp Tryz.prog oo a w K Q else E:=by
 subst hn
 obtain⟨i,hi,hz0,hz1,hz2⟩:=info_parts Tryz.infoSh
 obtain⟨c0,c1,c2⟩:=hc 0 y rfl
 refine step_append_lies w hgd s x 144 ho base 112 i _ 3 24 Tryz.underlying144 hi hz0 hz1 hz2 rfl (by decide) (.slice (some ⟨g,0,none⟩) ss.length cp) ss.length (cellsS ss) hs hO ⟨blk,0,none⟩ 1 1 (cellsS [y]) hx rfl ?_ ?_ (by decide) ?_ ?_ hbase w.heap.size rfl ?_
 ·intro j u hu
  have hj:j<3:=by
   have:=(List.getElem?_eq_some_iff.1 hu).1
   rw[length_cellsS]at this
   simpa using this
  rw[Addr.add_mid]
  have hcs:cellsS [y]=y.three:=by simp[cellsS]
  rw[hcs]at hu
  match j,hj with
  |0,_=>simp at hu;rw[←hu];simpa using c0
  |1,_=>simp at hu;rw[←hu];simpa using c1
  |2,_=>simp at hu;rw[←hu];simpa using c2
 ·intro u hu
  have hcs:cellsS [y]=y.three:=by simp[cellsS]
  rw[hcs]at hu
  simp at hu
  rcases hu with rfl|rfl|rfl<;>rfl
 ·unfold maxLen;omega
 ·omega
 ·intro g' cp' w' hO' hgr hat hlt
  refine h g' cp' w' ?_ hgr ?_
  ·unfold OwnSh
   rw[List.length_append,cellsS_append]
   exact hO'
  ·simp[Value.ownBlock]at hat
   exact hat
theorem fold_nest {xs:List Nd} {ss:List Shape} (h:foldM goodB [] xs=some ss):∀s∈ss,s.nest≤xs.length:=by
 intro s hs
 obtain⟨ks,rfl,hK⟩:=ShT.kids goodB (fold_tree goodB h)
 obtain⟨k,hk,h3⟩:=kid_len goodB hK hs
 have h4:=len_flat hk
 have h5:=nest_len goodB _ (Nat.le_refl _) h3
 omega
structure FoJ (w:World) (xs:List Nd) (j g cp:Nat) (ss:List Shape) (wr:World):Prop where
 fold:foldM goodB [] (xs.take j)=some ss
 own:OwnSh wr (w.heap.size+1) g cp ss
 res:BoxAt wr w.heap.size 112 3 w.heap.size [.bool false,.int .i64 0,.int .i64 0]
 below:Below w.heap.size w wr
theorem FoJ.move {w:World} {xs:List Nd} {j g cp:Nat} {ss:List Shape} {wr w':World} (h:FoJ w xs j g cp ss wr) (hb:Below wr.heap.size wr w'):FoJ w xs j g cp ss w':=
 ⟨h.fold,h.own.below hb,h.res.below hb,h.below.trans (hb.mono h.below.size)⟩
theorem fold_next {xs:List Nd} {j:Nat} {ss:List Shape} {e:Nd} (h:foldM goodB [] (xs.take j)=some ss) (he:xs[j]?=some e) (hl:arity e.kind≤ss.length):foldM goodB [] (xs.take (j+1))=some (ss.take (ss.length-arity e.kind)++ [shapeM goodB e (ss.drop (ss.length-arity e.kind))]):=by
 rw[List.take_add_one,he,foldM_append,h]
 simp only[Option.toList,Option.bind_some,foldM,stepM]
 rw[if_neg (by omega)]
theorem fold_stop {xs:List Nd} {j:Nat} {ss:List Shape} {e:Nd} (h:foldM goodB [] (xs.take j)=some ss) (he:xs[j]?=some e) (hl:ss.length<arity e.kind):foldM goodB [] xs=none:=by
 have hj:=(List.getElem?_eq_some_iff.1 he).1
 have:xs=xs.take j++e::xs.drop (j+1):=by
  conv=>lhs;rw[←List.take_append_drop j xs,List.drop_eq_getElem_cons hj]
  rw[show xs[j]=e from Option.some.inj ((List.getElem?_eq_getElem hj).symm.trans he)]
 rw[this,foldM_append,h]
 simp only[Option.bind_some,foldM,stepM]
 rw[if_pos hl]
def FoldPost (xs:List Nd) (w:World) (r:Ending) (w':World):Prop:=Below w.heap.size w w'∧((∃s,foldM goodB [] xs=some [s]∧r=.returned (.tuple #[.agg #[.bool s.valid,.int .i64 s.kind,.int .i64 (s.nest:Int)],.bool true]))∨((∀s,¬foldM goodB [] xs=some [s])∧r=.returned (.tuple #[.agg #[.bool false,.int .i64 0,.int .i64 0],.bool false])))
theorem foldG_next {T:Type} (V:Nd→List T→T) {xs:List Nd} {j:Nat} {ns:List T} {e:Nd} (h:foldV V [] (xs.take j)=some ns) (he:xs[j]?=some e) (hl:arity e.kind≤ns.length):foldV V [] (xs.take (j+1))=some (ns.take (ns.length-arity e.kind)++ [V e (ns.drop (ns.length-arity e.kind))]):=by
 rw[List.take_add_one,he,foldV_append,h]
 simp only[Option.toList,Option.bind_some,foldV,stepV]
 rw[if_neg (by omega)]
 rfl
theorem foldG_stop {T:Type} (V:Nd→List T→T) {xs:List Nd} {j:Nat} {ns:List T} {e:Nd} (h:foldV V [] (xs.take j)=some ns) (he:xs[j]?=some e) (hl:ns.length<arity e.kind):foldV V [] xs=none:=by
 have hj:=(List.getElem?_eq_some_iff.1 he).1
 have:xs=xs.take j++e::xs.drop (j+1):=by
  conv=>lhs;rw[←List.take_append_drop j xs,List.drop_eq_getElem_cons hj]
  rw[show xs[j]=e from Option.some.inj ((List.getElem?_eq_getElem hj).symm.trans he)]
 rw[this,foldV_append,h]
 simp only[Option.bind_some,foldV,stepV]
 rw[if_pos hl]
 rfl
structure Po where
 kind:Int
 b:Nat
 c:Nat
 t:List UInt8
abbrev Po.pt (p:Po):PT:=(p.kind,p.t)
abbrev Po.two (p:Po):List Value:= [.int .i64 p.kind,.slice (some ⟨p.b,0,none⟩) p.t.length p.c]
def cellsQ (ps:List Po):List Value:=ps.flatMap Po.two
theorem length_cellsQ (ss:List Po):(cellsQ ss).length=ss.length*2:=by
 induction ss with
 |nil=>rfl
 |cons e es ih=>simp only[cellsQ,List.flatMap_cons,List.length_append]at ih⊢;rw[ih];simp;omega
theorem cellsQ_append (es fs:List Po):cellsQ (es++fs)=cellsQ es++cellsQ fs:=by simp[cellsQ]
theorem cellsQ_get (es:List Po):∀(k:Nat) (e:Po),es[k]?=some e→∀j,j<2→(cellsQ es)[k*2+j]?=e.two[j]?:=by
 induction es with
 |nil=>intro k e h;simp at h
 |cons f es ih=>
  intro k e h j hj
  have hc:cellsQ (f::es)=f.two++cellsQ es:=by simp[cellsQ]
  rw[hc]
  cases k with
  |zero=>
   simp at h;subst h
   rw[List.getElem?_append_left (by show 0*2+j<2;omega)]
   simp
  |succ k=>
   simp at h
   rw[List.getElem?_append_right (by show 2≤(k+1)*2+j;omega)]
   have:(k+1)*2+j-f.two.length=k*2+j:=by show(k+1)*2+j-2=_;omega
   rw[this];exact ih k e h j hj
theorem cellsQ_take (es:List Po) (k:Nat):cellsQ (es.take k)=(cellsQ es).take (k*2):=by
 induction es generalizing k with
 |nil=>simp[cellsQ]
 |cons f es ih=>
  cases k with
  |zero=>simp[cellsQ]
  |succ k=>
   have hc:cellsQ (f::es)=f.two++cellsQ es:=by simp[cellsQ]
   have hd:cellsQ (f::es.take k)=f.two++cellsQ (es.take k):=by simp[cellsQ]
   have e1:(k+1)*2=f.two.length+k*2:=by show(k+1)*2=2+k*2;omega
   rw[List.take_succ_cons,hd,hc,ih,e1,List.take_length_add_append]
def QsAt (w:World) (b o:Nat) (ps:List Po):Prop:=∀i p,ps[i]?=some p→w.cell? ⟨b,o+i*2,none⟩=some (.int .i64 p.kind)∧w.cell? ⟨b,o+i*2+1,none⟩=some (.slice (some ⟨p.b,0,none⟩) p.t.length p.c)
theorem QsAt.drop {w:World} {b o:Nat} {ss:List Po} (h:QsAt w b o ss) (k:Nat):QsAt w b (o+k*2) (ss.drop k):=by
 exact zzQ85
def OwnPo (w:World) (base g cp:Nat) (ps:List Po):Prop:=w.ownsRow base 67 2 (.slice (some ⟨g,0,none⟩) ps.length cp) ps.length (cellsQ ps)
theorem OwnPo.lt {w:World} {base g cp:Nat} {ss:List Po} (h:OwnPo w base g cp ss):base≤g∧g<w.heap.size:=World.ownsRow.lt h g rfl
theorem OwnPo.below {w w':World} {base g cp:Nat} {ss:List Po} (h:OwnPo w base g cp ss) (hb:Below w.heap.size w w'):OwnPo w' base g cp ss:=own_chg h (Chg.of_below hb) (S:=fun _=>False) (fun k q z=>z)
theorem OwnPo.at {w:World} {base g cp:Nat} {ss:List Po} (h:OwnPo w base g cp ss):QsAt w g 0 ss:=by
 intro i e he
 have hi:i<ss.length:=(List.getElem?_eq_some_iff.1 he).1
 have c:=fun j (hj:j<2)=>(World.ownsRow.cellAt h (i*2+j) (by omega)).trans (cellsQ_get ss i e he j hj)
 refine⟨?_,?_⟩
 ·rw[Nat.zero_add];exact c 0 (by omega)
 ·rw[Nat.zero_add];exact c 1 (by omega)
theorem OwnPo.caps {w:World} {base g cp:Nat} {ss:List Po} (h:OwnPo w base g cp ss):ss.length≤cp∧cp≤maxLen:=by
 exact zzQ26
theorem OwnPo.take {w:World} {base g cp:Nat} {ss:List Po} (h:OwnPo w base g cp ss) {k:Nat} (hk:k≤ss.length):OwnPo w base g cp (ss.take k):=by
 rcases h.2 with⟨h0,_⟩|⟨g',cap',cur,hv,h1,h2,h3,h4,h5,h6⟩
 ·cases h0
 ·simp only[Value.slice.injEq,Option.some.injEq,Addr.mk.injEq,and_true,true_and]at hv
  obtain⟨rfl,rfl⟩:=hv
  have hl:(ss.take k).length=k:=by rw[List.length_take];omega
  refine⟨by rw[length_cellsQ],.inr ⟨g,cp,cur,rfl,h1,h2,by omega,h4,h5,?_⟩⟩
  rw[hl,cellsQ_take,←h6,List.take_take]
  congr 1
  omega
theorem ownPo_new (w:World) {base:Nat} (hb:base≤w.heap.size):OwnPo (w.alloc (Obj.cells #[] 67)) base w.heap.size 0 []:=
 World.ownsRow_made w #[] 0 hb (Nat.zero_le _) (by simp)
theorem Tryz.infoPt:(Tryz.prog.info? 67).map (fun i=>(i.zero,i.size,i.bytes))=some (some (.agg #[.int .i64 0,.slice none 0 0]),2,32):=by kernel_rfl
theorem step_append_pt {ops:Array Oper} {oo:Oper} {a:Act} {K:Act→World→Prop} {Q:Exit→Act→World→Prop} {E:Prop} (w:World) (hgd:oo.guard=none) (s x:Operand)
  (ho:oo.op=.call {callee:=.builtin .append,args:=#[s,x],argTypes:=#[116,116]})
  (base n g cp blk:Nat) (ss:List Po) (y:Po) (hn:n=ss.length) (hs:a.eval s=.slice (some ⟨g,0,none⟩) n cp) (hx:a.eval x=.slice (some ⟨blk,0,none⟩) 1 1) (hO:OwnPo w base g cp ss)
  (hc:QsAt w blk 0 [y]) (hlen:ss.length≤1000) (hbase:base≤w.heap.size)
  (h:∀g' cp' w',OwnPo w' base g' cp' (ss++ [y])→w.grownBy w' (some g)→(g=g'∨g'=w.heap.size)→K (a.put oo.dst (.slice (some ⟨g',0,none⟩) (n+1) cp')) w'):if Region.wanted oo (yielded ops a.tmps)=true then Oper.wp Tryz.prog oo a w K Q else E:=by
 subst hn
 obtain⟨i,hi,hz0,hz1,hz2⟩:=info_parts Tryz.infoPt
 obtain⟨c0,c1⟩:=hc 0 y rfl
 have hcs:cellsQ [y]=y.two:=by simp[cellsQ]
 refine step_append_lies w hgd s x 116 ho base 67 i _ 2 32 Tryz.underlying116 hi hz0 hz1 hz2 rfl (by decide) (.slice (some ⟨g,0,none⟩) ss.length cp) ss.length (cellsQ ss) hs hO ⟨blk,0,none⟩ 1 1 (cellsQ [y]) hx rfl ?_ ?_ (by decide) ?_ ?_ hbase w.heap.size rfl ?_
 ·intro j u hu
  have hj:j<2:=by
   have:=(List.getElem?_eq_some_iff.1 hu).1
   rw[length_cellsQ]at this
   simpa using this
  rw[Addr.add_mid]
  rw[hcs]at hu
  match j,hj with
  |0,_=>simp at hu;rw[←hu];simpa using c0
  |1,_=>simp at hu;rw[←hu];simpa using c1
 ·intro u hu
  rw[hcs]at hu
  simp at hu
  rcases hu with rfl|rfl<;>rfl
 ·unfold maxLen;omega
 ·omega
 ·intro g' cp' w' hO' hgr hat hlt
  refine h g' cp' w' ?_ hgr ?_
  ·unfold OwnPo
   rw[List.length_append,cellsQ_append]
   exact hO'
  ·simp[Value.ownBlock]at hat
   exact hat
theorem printNode_core (e:Nd) (g F c:Nat) (ps:List Po) (w:World) (hg:GoodN e) (hn:NumN e) (hl:ps.length=arity e.kind) (hgl:g<w.heap.size) (hQ:QsAt w g F ps) (hE:∀p∈ps,BysAt w p.b 0 p.t∧p.b<w.heap.size∧p.t.length≤400000) (hG:Gl w) (hB:7≤w.heap.size):
  Calls Tryz.prog 37 #[e.v,.slice (some ⟨g,F,none⟩) ps.length c] w (PnP e.kind (printV e (ps.map Po.pt)).2 w):=by
 obtain⟨kind,s,hi,t,lo,up,n⟩:=e
 simp only at hl⊢
 by_cases h14:kind=14
 ·subst h14
  match ps,hl with
  | [p,q],_=>
    have h0:=hQ 0 p rfl
    have h1:=hQ 1 q rfl
    simp only[Nat.zero_mul,Nat.one_mul,Nat.add_zero]at h0 h1
    have e0:=hE p (by simp)
    have e1:=hE q (by simp)
    have:=printNode_14 s hi t lo up n g F c p.kind q.kind p.b p.c q.b q.c p.t q.t w hgl hG hB ⟨h0.1,h0.2,e0.1,e0.2.1⟩ ⟨h1.1,h1.2,e1.1,e1.2.1⟩ e0.2.2 e1.2.2
    have hv:(printV ⟨14,s,hi,t,lo,up,n⟩ ([p,q].map Po.pt)).2=wrapT 14 0 (p.kind,p.t)++ [32,62,32]++wrapT 14 1 (q.kind,q.t):=by simp[printV,joinM,sepM]
    rw[hv]
    exact this
 by_cases h15:kind=15
 ·subst h15
  match ps,hl with
  | [p,q],_=>
    have h0:=hQ 0 p rfl
    have h1:=hQ 1 q rfl
    simp only[Nat.zero_mul,Nat.one_mul,Nat.add_zero]at h0 h1
    have e0:=hE p (by simp)
    have e1:=hE q (by simp)
    have:=printNode_15 s hi t lo up n g F c p.kind q.kind p.b p.c q.b q.c p.t q.t w hgl hG hB ⟨h0.1,h0.2,e0.1,e0.2.1⟩ ⟨h1.1,h1.2,e1.1,e1.2.1⟩ e0.2.2 e1.2.2
    have hv:(printV ⟨15,s,hi,t,lo,up,n⟩ ([p,q].map Po.pt)).2=wrapT 15 0 (p.kind,p.t)++ [32,124,32]++wrapT 15 1 (q.kind,q.t):=by simp[printV,joinM,sepM]
    rw[hv]
    exact this
 by_cases h16:kind=16
 ·subst h16
  match ps,hl with
  | [p,q,r],_=>
    have h0:=hQ 0 p rfl
    have h1:=hQ 1 q rfl
    have h2:=hQ 2 r rfl
    simp only[Nat.zero_mul,Nat.one_mul,Nat.add_zero,Nat.reduceMul]at h0 h1 h2
    have e0:=hE p (by simp)
    have e1:=hE q (by simp)
    have e2:=hE r (by simp)
    have:=printNode_16 s hi t lo up n g F c p.kind q.kind r.kind p.b p.c q.b q.c r.b r.c p.t q.t r.t w hgl hG hB ⟨h0.1,h0.2,e0.1,e0.2.1⟩ ⟨h1.1,h1.2,e1.1,e1.2.1⟩ ⟨h2.1,h2.2,e2.1,e2.2.1⟩ e0.2.2 e1.2.2 e2.2.2
    have hv:(printV ⟨16,s,hi,t,lo,up,n⟩ ([p,q,r].map Po.pt)).2= [105,102,40]++(p.t++ [44,32]++q.t++ [44,32]++r.t)++ [41]:=by simp[printV,joinM,sepM,wrapT,wrapB]
    rw[hv]
    exact this
 have ha:arity kind=0:=by unfold arity;rw[if_neg (by omega),if_neg h16]
 obtain rfl:ps= []:=List.length_eq_zero_iff.1 (by rw[hl,ha])
 have:=printNode_leaf kind s hi t lo up n (some ⟨g,F,none⟩) c w hg hn ha hG hB
 have hv:(printV ⟨kind,s,hi,t,lo,up,n⟩ (([]:List Po).map Po.pt)).2=leafM ⟨kind,s,hi,t,lo,up,n⟩:=by simp[printV]
 rw[hv]
 exact this
structure FoK (w:World) (xs:List Nd) (j g cp:Nat) (ss:List Shape) (SB:Nat) (y:Shape) (wr:World):Prop where
 fo:FoJ w xs j g cp ss wr
 box:BoxAt wr w.heap.size 112 3 SB y.three
 ne:¬SB=g
 ge:w.heap.size+1≤SB
theorem fo_after {w:World} {xs:List Nd} {j g cp:Nat} {ss:List Shape} {W1 w':World} (y:Shape) (h:FoJ w xs j g cp ss W1) (hb:Below W1.drew.heap.size W1.drew w'):FoK w xs j g cp ss w'.heap.size y (w'.alloc (Obj.cells #[.bool y.valid,.int .i64 y.kind,.int .i64 (y.nest:Int)] 112)):=by
 have h1:Below W1.heap.size W1 w':=((Below.refl W1.heap.size W1).drew).trans hb
 have h2:=h1.size
 have h3:Below W1.heap.size W1 (w'.alloc (Obj.cells #[.bool y.valid,.int .i64 y.kind,.int .i64 (y.nest:Int)] 112)):=h1.alloc h2 _
 have h4:=h.own.lt
 have h5:=h.below.size
 have h6:=h.res.lt
 exact⟨h.move h3,boxAt_new w' _ (by omega) rfl,by omega,by omega⟩
theorem fo_before {w:World} {xs:List Nd} {j g cp:Nat} {ss:List Shape} {W1 w':World} (y:Shape) (h:FoJ w xs j g cp ss W1) (hb:Below (W1.drew.alloc (Obj.cells #[.bool false,.int .i64 0,.int .i64 0] 112)).heap.size (W1.drew.alloc (Obj.cells #[.bool false,.int .i64 0,.int .i64 0] 112)) w'):
  FoK w xs j g cp ss W1.heap.size y (((w'.setCell ⟨W1.heap.size,0,none⟩ (.bool y.valid)).setCell ⟨W1.heap.size,1,none⟩ (.int .i64 y.kind)).setCell ⟨W1.heap.size,2,none⟩ (.int .i64 (y.nest:Int))):=by
 have hd:W1.drew.heap.size=W1.heap.size:=by simp
 have h0:Below W1.heap.size W1 (W1.drew.alloc (Obj.cells #[.bool false,.int .i64 0,.int .i64 0] 112)):=((Below.refl W1.heap.size W1).drew).alloc (by simp) _
 have h1:Below W1.heap.size W1 w':=h0.trans (hb.mono (by simp))
 have h4:=h.own.lt
 have h5:=h.below.size
 have h6:=h.res.lt
 have hB:BoxAt w' w.heap.size 112 3 W1.heap.size [.bool false,.int .i64 0,.int .i64 0]:=by
  have:=boxAt_new W1.drew (base:=w.heap.size) (t:=112) (sz:=3) #[.bool false,.int .i64 0,.int .i64 0] (by simp;omega) rfl
  rw[hd]at this
  exact this.below hb
 have hJ:=h.move h1
 have hC:Chg (fun k=>k=W1.heap.size) w' (((w'.setCell ⟨W1.heap.size,0,none⟩ (.bool y.valid)).setCell ⟨W1.heap.size,1,none⟩ (.int .i64 y.kind)).setCell ⟨W1.heap.size,2,none⟩ (.int .i64 (y.nest:Int))):=
  ((Chg.of_set w' W1.heap.size 0 _ (S:=fun k=>k=W1.heap.size) rfl).trans (Chg.of_set _ W1.heap.size 1 _ (S:=fun k=>k=W1.heap.size) rfl)).trans (Chg.of_set _ W1.heap.size 2 _ (S:=fun k=>k=W1.heap.size) rfl)
 refine⟨⟨hJ.fold,own_chg hJ.own hC (fun k q=>by simp[Value.ownBlock]at q;omega),hJ.res.chg hC (by omega),?_⟩,((hB.set 0 _).set 1 _).set 2 _,by omega,by omega⟩
 exact below_set (below_set (below_set hJ.below (by omega) 0 _) (by omega) 1 _) (by omega) 2 _
theorem sh_new (X:World) (y:Shape) (B:Nat) (hB:X.heap.size=B):ShsAt (X.alloc (Obj.cells #[.bool y.valid,.int .i64 y.kind,.int .i64 (y.nest:Int)] 112)) B 0 [y]:=by
 subst hB
 intro i s hs
 have hi:i=0:=by have:=(List.getElem?_eq_some_iff.1 hs).1;simpa using this
 subst hi
 simp at hs
 subst hs
 exact⟨by simp,by simp,by simp⟩
theorem fo_push {w wc X w':World} {xs:List Nd} {j g cp g' cp' fr:Nat} {ss:List Shape} {y:Shape} (h:FoJ w xs j g cp ss wc) (hX:Below wc.heap.size wc X) (hY:foldM goodB [] (xs.take (j+1))=some (ss.take fr++ [y])) (hO:OwnSh w' (w.heap.size+1) g' cp' (ss.take fr++ [y])) (hgr:X.grownBy w' (some g)) (hm:fr=(ss.take fr).length):FoJ w xs (j+1) g' cp' (ss.take fr++ [y]) w'∧fr+1≤cp':=by
 have hJ:=h.move hX
 have h1:=hJ.own.lt
 have hC:Chg (fun k=>k=g) X w':=Chg.of_grown hgr (fun k hk=>by cases hk;rfl)
 refine⟨⟨hY,hO,hJ.res.chg hC (by omega),Chg.below hJ.below hC hJ.below.size (fun k q=>by omega)⟩,?_⟩
 have:=hO.caps.1
 rw[List.length_append,List.length_singleton,←hm]at this
 exact this
set_option maxHeartbeats 16000000 in
theorem foldTree_win {w:World} {gN oN cpN:Nat} {xs:List Nd} (h:NdsAt w gN oN xs) (hg:gN<w.heap.size) (hok:∀e∈xs,e.ok) (hl:xs.length≤200):
  Calls Tryz.prog 71 #[.slice (some ⟨gN,oN,none⟩) xs.length cpN,.func (Fn.func 72) #[] #[]] w (FoldPost xs w):=by
 have HF:Hid (NdsAt w gN oN xs∧∀e∈xs,e.ok):=⟨h,hok⟩
 obtain⟨n,hn⟩:=qE xs.length
 have HL:Hid (n=xs.length):=hn
 rw[←hn]at hl⊢
 clear h hok hn
 obtain⟨W0,hW0⟩:=qE ((w.alloc (Obj.cells #[.bool false,.int .i64 0,.int .i64 0] 112)).alloc (Obj.cells #[] 112):World)
 have HW0:Hid (FoJ w xs 0 (w.heap.size+1) 0 [] W0):=by
  obtain⟨V,hV⟩:=qE (w.alloc (Obj.cells #[.bool false,.int .i64 0,.int .i64 0] 112):World)
  have hz:V.heap.size=w.heap.size+1:=by rw[hV];simp
  have hb:Below V.heap.size V W0:=by rw[hW0,←hV];exact qB
  have hbV:Below w.heap.size w V:=by rw[hV];exact qB
  have hB:BoxAt V w.heap.size 112 3 w.heap.size [.bool false,.int .i64 0,.int .i64 0]:=by rw[hV];exact boxAt_new w _ (Nat.le_refl _) rfl
  refine⟨rfl,?_,hB.below hb,hbV.trans (hb.mono (by omega))⟩
  rw[hW0,←hV,←hz]
  exact ownSh_new V (Nat.le_refl _)
 go_enter Tryz.func71,Tryz.ntmps71
 go_upto_region 2 with fail
 rw[←hW0]
 clear hW0
 go_wp2_with fail
 go_loopw[6,14] (fun sv iv wr=>∃(j m g cp:Nat) (ss:List Shape),iv=.int .i64 (j:Int)∧j≤n∧m=ss.length∧m≤j∧m≤cp∧sv=.slice (some ⟨g,0,none⟩) m cp∧FoJ w xs j g cp ss wr) (fun _ iv _=>n-(intOf iv).toNat)
 case atStart=>exact⟨0,0,_,0,[],rfl,Nat.zero_le _,rfl,Nat.le_refl _,Nat.zero_le _,rfl,HW0.out⟩
 case round=>
  obtain⟨j,m,g,cp,ss,rfl,hj,hm,hmj,hmc,rfl,hJ⟩:=hrel
  have HJ:Hid (m=ss.length∧FoJ w xs j g cp ss wr):=⟨hm,hJ⟩
  have hgl:=hJ.own.lt
  have hcp:cp≤9223372036854775807:=by have:=hJ.own.caps.2;unfold maxLen at this;omega
  have hsz:=hJ.below.size
  have hrl:=hJ.res.lt.2
  have r0:=hJ.res.cell (j:=0) rfl
  have r1:=hJ.res.cell (j:=1) rfl
  have r2:=hJ.res.cell (j:=2) rfl
  have f0:=hJ.res.frozen 0
  have f1:=hJ.res.frozen 1
  have f2:=hJ.res.frozen 2
  clear hm hJ HW0
  by_cases hlt:j<n
  ·have zj:(j:Int)<(n:Int):=by omega
   obtain⟨e,he⟩:∃e,xs[j]?=some e:=⟨_,List.getElem?_eq_getElem (by have:=HL.out;omega)⟩
   obtain⟨d0,d1,d2,d3,d4,d5,d6⟩:=(HF.1.below HJ.2.below hg) j e he
   have ok:=HF.2 e (List.mem_of_getElem? he)
   have HE:Hid (xs[j]?=some e∧e.s.size≤maxLen∧e.t.size≤maxLen):=⟨he,ok.s,ok.t⟩
   clear ok he
   obtain⟨W1,hW1⟩:=qE (wr.alloc (Obj.cells #[.int .i64 e.kind,.string e.s,.bool e.hi,.string e.t,.int .u64 e.lo,.int .u64 e.up,.int .i64 e.n] 65):World)
   have hb1:Below wr.heap.size wr W1:=by rw[hW1];exact qB
   have hz1:W1.heap.size=wr.heap.size+1:=by rw[hW1];simp
   have HJ1:Hid (m=ss.length∧FoJ w xs j g cp ss W1∧BoxAt W1 w.heap.size 65 7 wr.heap.size e.seven):=by
    refine⟨HJ.1,HJ.2.move hb1,?_⟩
    rw[hW1];exact boxAt_new wr _ hsz rfl
   go_upto_region 5 with fail
   rw[←hW1]
   clear hW1 d0 d1 d2 d3 d4 d5 d6 r0 r1 r2 f0 f1 f2 HJ hb1
   have c0:=HJ1.2.2.cell (j:=0) rfl
   have c1:=HJ1.2.2.cell (j:=1) rfl
   have c2:=HJ1.2.2.cell (j:=2) rfl
   have c3:=HJ1.2.2.cell (j:=3) rfl
   have c4:=HJ1.2.2.cell (j:=4) rfl
   have c5:=HJ1.2.2.cell (j:=5) rfl
   have c6:=HJ1.2.2.cell (j:=6) rfl
   obtain⟨a,ha⟩:=qE (arity e.kind)
   have ha3:a≤3:=by rw[ha];exact arity_le _
   have HAr:Hid (Calls Tryz.prog 73 #[.int .i64 e.kind] W1 fun r w'=>r=.returned (.int .i64 (a:Int))∧w'=W1):=by rw[ha];exact operandCount_core e.kind W1
   have HAk:Hid (a=arity e.kind):=ha
   clear ha
   go_wp2_with fail
   refine HAr.mono ?_
   rintro r w9 ⟨rfl,hw9⟩
   rw[hw9]
   clear hw9 HAr
   by_cases hfr:m<a
   ·have zf:(m:Int)-(a:Int)<0:=by omega
    have r0:=HJ1.2.1.res.cell (j:=0) rfl
    have r1:=HJ1.2.1.res.cell (j:=1) rfl
    have r2:=HJ1.2.1.res.cell (j:=2) rfl
    have f0:=HJ1.2.1.res.frozen 0
    have f1:=HJ1.2.1.res.frozen 1
    have f2:=HJ1.2.1.res.frozen 2
    have HS:Hid (foldM goodB [] xs=none):=fold_stop HJ1.2.1.fold HE.1 (by rw[←HJ1.1,←HAk.out];exact hfr)
    obtain⟨W9,hW9⟩:=qE (set3 W1 w.heap.size (.bool false) (.int .i64 0) (.int .i64 0):World)
    have HW9:Hid (BoxAt W9 w.heap.size 112 3 w.heap.size [.bool false,.int .i64 0,.int .i64 0]∧Below w.heap.size w W9):=by
     rw[hW9];exact⟨HJ1.2.1.res.set3 _ _ _,below_set3 HJ1.2.1.below (Nat.le_refl _) _ _ _⟩
    have p0:=HW9.1.cell (j:=0) rfl
    have p1:=HW9.1.cell (j:=1) rfl
    have p2:=HW9.1.cell (j:=2) rfl
    unfold set3 at hW9
    go_wp2_with fail
    rw[←hW9]
    refine bodyPost_ret (v:=.tuple #[.agg #[.bool false,.int .i64 0,.int .i64 0],.bool false]) (by simp[results,Tryz.results71,go_sem,p0,p1,p2]) rfl ⟨HW9.2,.inr ⟨fun s q=>(by rw[HS.out]at q;cases q),rfl⟩⟩
   ·obtain⟨fr,hfrm⟩:∃fr:Nat,(m:Int)-(a:Int)=(fr:Int):=⟨m-a,by omega⟩
    have hfrle:fr≤m:=by omega
    have HFr:Hid (fr=ss.length-arity e.kind∧arity e.kind≤ss.length):=by
     have h1:=HJ1.1
     have h2:=HAk.out
     exact⟨by omega,by omega⟩
    have zf:¬(fr:Int)<0:=by omega
    have z2:(fr:Int)≤(m:Int):=by omega
    have z3:(m:Int)≤(cp:Int):=by omega
    obtain⟨y,hy⟩:=qE (shapeM goodB e (ss.drop fr))
    have HY:Hid (foldM goodB [] (xs.take (j+1))=some (ss.take fr++ [y])):=by
     show _=_
     rw[hy,HFr.1]
     exact fold_next HJ1.2.1.fold HE.1 HFr.2
    obtain⟨ad,had⟩:∃ad:Option Addr,(if cp=fr then some (⟨g,0,none⟩:Addr)else some ⟨g,fr*3,none⟩)=ad:=⟨_,rfl⟩
    have HSh:Hid (∀X,Below W1.heap.size W1 X→Calls Tryz.prog 72 #[.agg #[.int .i64 e.kind,.string e.s,.bool e.hi,.string e.t,.int .u64 e.lo,.int .u64 e.up,.int .i64 e.n],.slice ad (m-fr) (cp-fr)] X fun r w'=>r=.returned (.agg #[.bool y.valid,.int .i64 y.kind,.int .i64 (y.nest:Int)])∧Below X.heap.size X w'):=fun X hX=>by
     have hs1:=HJ1.2.1.own.at.below hX HJ1.2.1.own.lt.2
     have hs2:=hs1.drop fr
     rw[Nat.zero_add]at hs2
     have hlen:(ss.drop fr).length=m-fr:=by rw[List.length_drop,←HJ1.1]
     have hX2:=hX.size
     have hg2:=HJ1.2.1.own.lt.2
     have hnest:∀x∈ss.drop fr,x.nest≤1000:=fun x hx=>by
      have h1:=fold_nest HJ1.2.1.fold x (List.mem_of_mem_drop hx)
      rw[List.length_take]at h1
      omega
     have hos:(ss.drop fr).length≤3:=by rw[hlen];have:=HFr.1;have:=HAk.out;have:=HJ1.1;omega
     rw[hy,←had]
     by_cases hcf:cp=fr
     ·rw[if_pos hcf]
      have hnil:ss.drop fr= []:=List.length_eq_zero_iff.1 (by rw[hlen];omega)
      have h9:=shapeOf_core (w:=X) (b:=g) (o:=0) (cap:=cp-fr) (os:=ss.drop fr) e (by rw[hnil];intro i s hs;simp at hs) (by omega) (by rw[hlen];omega) hos (by omega) hnest HE.2.1 HE.2.2
      rw[hlen]at h9
      exact h9
     ·rw[if_neg hcf]
      have h9:=shapeOf_core (w:=X) (b:=g) (o:=fr*3) (cap:=cp-fr) (os:=ss.drop fr) e hs2 (by omega) (by rw[hlen];omega) hos (by omega) hnest HE.2.1 HE.2.2
      rw[hlen]at h9
      exact h9
    clear hy hfr
    go_upto_region 8 with fail
    go_cut[10] (fun sv wx=>∃SB,sv=.pointer (some ⟨SB,0,none⟩)∧FoK w xs j g cp ss SB y wx)
    case first=>
     go_region_law ((go_simp;go_at_call 72;refine(HSh.out _ ?hX).mono ?_;(case hX=>(repeat (first|exact Below.refl _ _|refine Below.drew ?_|refine Below.alloc ?_ (by simp) _)));rintro r w' ⟨rfl,hbb⟩;obtain⟨hcc,hff⟩:=bcell hbb;have hsz':=hbb.size))
     all_goals go_wp2_with fail
     all_goals go_meet
     all_goals first
      |exact⟨_,rfl,fo_after y HJ1.2.1 hbb⟩
      |exact⟨_,rfl,by have h9:=fo_before y HJ1.2.1 hbb;rw[hz1]at h9;exact h9⟩
    case rest=>
    obtain⟨SB,rfl,hK⟩:=hcut
    have HK:Hid (FoK w xs j g cp ss SB y wc):=hK
    have b0:=hK.box.cell (j:=0) rfl
    have b1:=hK.box.cell (j:=1) rfl
    have b2:=hK.box.cell (j:=2) rfl
    have hgl2:=hK.fo.own.lt
    have hsb:=hK.box.lt.2
    have hnsb:=hK.ne
    have hsz2:=hK.fo.below.size
    have HM:Hid (fr=(ss.take fr).length):=by
     show fr=_
     rw[List.length_take,←HJ1.1]
     omega
    clear hK c0 c1 c2 c3 c4 c5 c6 HSh
    go_upto_region 9 with fail
    have hfl:fr≤ss.length:=by rw[←HJ1.1];exact hfrle
    have z4:(fr:Int)≤(cp:Int):=by omega
    have z5:fr≤cp:=by omega
    go_region_law ((refine step_append_shape _ (by rfl) _ _ (by rfl) (w.heap.size+1) fr g cp wc.heap.size (ss.take fr) y HM.out (by rfl) (by rfl) ?hO ?hc ?hl ?hb ?_
                    case hO=>(refine OwnSh.below (HK.fo.own.take hfl) ?_;repeat (first|exact Below.refl _ _|refine Below.drew ?_|refine Below.alloc ?_ (by simp) _))
                    case hc=>exact sh_new _ y _ (by simp)
                    case hl=>rw[←HM.out];omega
                    case hb=>simp;omega
                    intro g' cp' w' hO' hgr' hat'
                    have fin:Hid (FoJ w xs (j+1) g' cp' (ss.take fr++ [y]) w'∧fr+1≤cp'):=fo_push HK.fo (by repeat (first|exact Below.refl _ _|refine Below.drew ?_|refine Below.alloc ?_ (by simp) _)) HY.out hO' hgr' HM.out
                    clear hO' hgr' hat'))
    all_goals go_wp2_with fail
    all_goals go_roundw
    all_goals first
     |exact⟨j+1,fr+1,g',cp',ss.take fr++ [y],by go_num,by omega,by rw[List.length_append,List.length_singleton,←HM.out],by omega,fin.out.2,rfl,fin.out.1⟩
     |(simp[intOf];omega)
  ·have zj:¬(j:Int)<(n:Int):=by omega
   have HFo:Hid (foldM goodB [] xs=some ss):=by
    have h1:=HJ.2.fold
    rw[List.take_of_length_le (by have:=HL.out;omega)]at h1
    exact h1
   by_cases hm1:m=1
   ·subst hm1
    obtain⟨s,rfl⟩:∃s,ss= [s]:=by
     have h1:=HJ.1
     match ss,h1 with
     | [s],_=>exact⟨s,rfl⟩
    obtain⟨e0,e1,e2⟩:=HJ.2.own.at 0 s rfl
    simp only[Nat.zero_add,Nat.zero_mul]at e0 e1 e2
    obtain⟨W9,hW9⟩:=qE (set3 wr w.heap.size (.bool s.valid) (.int .i64 s.kind) (.int .i64 (s.nest:Int)):World)
    have HW9:Hid (BoxAt W9 w.heap.size 112 3 w.heap.size [.bool s.valid,.int .i64 s.kind,.int .i64 (s.nest:Int)]∧Below w.heap.size w W9):=by
     rw[hW9];exact⟨HJ.2.res.set3 _ _ _,below_set3 HJ.2.below (Nat.le_refl _) _ _ _⟩
    have p0:=HW9.1.cell (j:=0) rfl
    have p1:=HW9.1.cell (j:=1) rfl
    have p2:=HW9.1.cell (j:=2) rfl
    unfold set3 at hW9
    go_wp2_with fail
    rw[←hW9]
    refine bodyPost_ret (v:=.tuple #[.agg #[.bool s.valid,.int .i64 s.kind,.int .i64 (s.nest:Int)],.bool true]) (by simp[results,Tryz.results71,go_sem,p0,p1,p2]) rfl ⟨HW9.2,.inl ⟨s,HFo.out,rfl⟩⟩
   ·have zm:((m:Int) != 1)=true:=by have:¬(m:Int)=1:=(by omega);simpa using this
    obtain⟨W9,hW9⟩:=qE (set3 wr w.heap.size (.bool false) (.int .i64 0) (.int .i64 0):World)
    have HW9:Hid (BoxAt W9 w.heap.size 112 3 w.heap.size [.bool false,.int .i64 0,.int .i64 0]∧Below w.heap.size w W9):=by
     rw[hW9];exact⟨HJ.2.res.set3 _ _ _,below_set3 HJ.2.below (Nat.le_refl _) _ _ _⟩
    have p0:=HW9.1.cell (j:=0) rfl
    have p1:=HW9.1.cell (j:=1) rfl
    have p2:=HW9.1.cell (j:=2) rfl
    unfold set3 at hW9
    go_wp2_with fail
    rw[←hW9]
    refine bodyPost_ret (v:=.tuple #[.agg #[.bool false,.int .i64 0,.int .i64 0],.bool false]) (by simp[results,Tryz.results71,go_sem,p0,p1,p2]) rfl ⟨HW9.2,.inr ⟨fun s q=>?_,rfl⟩⟩
    rw[HFo.out]at q
    have h1:=HJ.1
    rw[Option.some.inj q]at h1
    exact hm1 h1
set_option maxHeartbeats 4000000 in
theorem implFilter_win {w:World} {g o cp:Nat} {xs:List Nd} (h:WdN w g o cp xs) (hok:∀e∈xs,e.ok):Calls Tryz.prog 35 #[.agg #[.slice (some ⟨g,o,none⟩) xs.length cp]] w (FltPost xs w):=by
 have HO:Hid (WdN w g o cp xs∧∀e∈xs,e.ok):=⟨h,hok⟩
 have hg:=h.lt
 obtain⟨n,hn⟩:=qE xs.length
 have HN:Hid (n=xs.length):=hn
 have hcp:=h.caps
 rw[←hn]at hcp⊢
 unfold maxLen at hcp
 clear h hok hn
 obtain⟨W0,hW0⟩:=qE (w.alloc (Obj.cells #[.slice (some ⟨g,o,none⟩) n cp] 25):World)
 have HW0:Hid (BoxAt W0 w.heap.size 25 1 w.heap.size [.slice (some ⟨g,o,none⟩) n cp]∧Below w.heap.size w W0):=by
  rw[hW0];exact⟨boxAt_new w _ (Nat.le_refl _) rfl,qB⟩
 have c0:=HW0.1.cell (j:=0) rfl
 have s0:=HW0.2.size
 go_enter Tryz.func35,Tryz.ntmps35
 go_upto_region 1 with fail
 rw[←hW0]
 clear hW0
 by_cases hbig:200<n
 ·exact zzQ65
 have zb:¬(200:Int)<(n:Int):=by omega
 have HC:Hid (Calls Tryz.prog 71 #[.slice (some ⟨g,o,none⟩) n cp,.func (Fn.func 72) #[] #[]] W0 (FoldPost xs W0)):=by
  have hl:xs.length≤200:=by rw[←HN.out];omega
  have:=foldTree_win (w:=W0) (gN:=g) (oN:=o) (cpN:=cp) (HO.1.at.below HW0.2 hg) (by omega) HO.2 hl
  rw[←HN.out]at this
  exact this
 go_wp2_with fail
 refine HC.mono ?_
 rintro r w2 ⟨hb2,(⟨s,hs,rfl⟩|⟨hs,rfl⟩)⟩
 ·have HF:Hid (GoodF xs↔(s.valid=true∧s.nest≤20)):=by
   show GoodF xs↔_
   have hsh:=fold_tree goodB hs
   constructor
   ·rintro⟨_,t,ht,hv,hn⟩
    rw[sh_one hsh ht];exact⟨hv,hn⟩
   ·rintro⟨hv,hn⟩
    exact⟨by have:=HN.out;omega,s,hsh,hv,hn⟩
  have HB:Hid (Below w.heap.size w w2):=HW0.2.trans (hb2.mono s0)
  obtain⟨v,hv⟩:=qE s.valid
  obtain⟨k,hk⟩:=qE s.nest
  obtain⟨kd,hkd⟩:=qE s.kind
  rw[←hv,←hk]at HF
  rw[←hv,←hk,←hkd]
  clear hs hb2 c0 HC hv hk hkd
  cases v
  ·go_wp2_with fail
   go_ret
   exact⟨_,rfl,by rw[HF.out];simp,HB.trans ((Below.refl _ _).alloc HB.size _)⟩
  ·go_wp2_with fail
   go_ret
   exact⟨_,rfl,by rw[HF.out];simp<;>omega,HB.trans ((Below.refl _ _).alloc HB.size _)⟩
 ·have HF:Hid (¬GoodF xs):=fun q=>by
   obtain⟨_,s,hsh,_⟩:=q
   have:=ShT.fold goodB hsh []
   exact hs s (by simpa using this)
  have HB:Hid (Below w.heap.size w w2):=HW0.2.trans (hb2.mono s0)
  clear hs hb2 c0 HC
  go_wp2_with fail
  go_ret
  exact⟨_,rfl,by simp[HF.out],HB.trans ((Below.refl _ _).alloc HB.size _)⟩
structure FpJ (w:World) (xs:List Nd) (j g cp:Nat) (ps:List Po) (wr:World):Prop where
 fold:foldV printV [] (xs.take j)=some (ps.map Po.pt)
 own:OwnPo wr (w.heap.size+1) g cp ps
 res:BoxAt wr w.heap.size 67 2 w.heap.size [.int .i64 0,.slice none 0 0]
 txt:∀p∈ps,OwnY wr (w.heap.size+1) p.b p.c p.t∧¬p.b=g
 below:Below w.heap.size w wr
theorem FpJ.move {w:World} {xs:List Nd} {j g cp:Nat} {ps:List Po} {wr w':World} (h:FpJ w xs j g cp ps wr) (hb:Below wr.heap.size wr w'):FpJ w xs j g cp ps w':=
 ⟨h.fold,h.own.below hb,h.res.below hb,fun p hp=>⟨(h.txt p hp).1.below hb,(h.txt p hp).2⟩,h.below.trans (hb.mono h.below.size)⟩
structure FpK (w:World) (xs:List Nd) (j g cp:Nat) (ps:List Po) (SB:Nat) (y:Po) (wr:World):Prop where
 fo:FpJ w xs j g cp ps wr
 box:BoxAt wr w.heap.size 67 2 SB y.two
 new:OwnY wr (w.heap.size+1) y.b y.c y.t
 ne:¬SB=g
 nb:¬y.b=g
 ge:w.heap.size+1≤SB
theorem fp_after {w:World} {xs:List Nd} {j g cp:Nat} {ps:List Po} {W1 w':World} (y:Po) (h:FpJ w xs j g cp ps W1) (hb:Below W1.drew.heap.size W1.drew w') (hy:OwnY w' W1.drew.heap.size y.b y.c y.t):FpK w xs j g cp ps w'.heap.size y (w'.alloc (Obj.cells #[.int .i64 y.kind,.slice (some ⟨y.b,0,none⟩) y.t.length y.c] 67)):=by
 have hd:W1.drew.heap.size=W1.heap.size:=by simp
 have h1:Below W1.heap.size W1 w':=((Below.refl W1.heap.size W1).drew).trans hb
 have h2:=h1.size
 have hb3:Below w'.heap.size w' (w'.alloc (Obj.cells #[.int .i64 y.kind,.slice (some ⟨y.b,0,none⟩) y.t.length y.c] 67)):=qB
 have h4:=h.own.lt
 have h5:=h.below.size
 have h6:=h.res.lt
 have h7:=hy.lt
 exact⟨(h.move h1).move hb3,boxAt_new w' _ (by omega) rfl,(hy.mono (by omega)).below hb3,by omega,by omega,by omega⟩
theorem fp_before {w:World} {xs:List Nd} {j g cp:Nat} {ps:List Po} {W1 w':World} (y:Po) (h:FpJ w xs j g cp ps W1) (hb:Below (W1.drew.alloc (Obj.cells #[.int .i64 0,.slice none 0 0] 67)).heap.size (W1.drew.alloc (Obj.cells #[.int .i64 0,.slice none 0 0] 67)) w') (hy:OwnY w' (W1.drew.alloc (Obj.cells #[.int .i64 0,.slice none 0 0] 67)).heap.size y.b y.c y.t):
  FpK w xs j g cp ps W1.heap.size y ((w'.setCell ⟨W1.heap.size,0,none⟩ (.int .i64 y.kind)).setCell ⟨W1.heap.size,1,none⟩ (.slice (some ⟨y.b,0,none⟩) y.t.length y.c)):=by
 have hd:W1.drew.heap.size=W1.heap.size:=by simp
 have hs1:(W1.drew.alloc (Obj.cells #[.int .i64 0,.slice none 0 0] 67)).heap.size=W1.heap.size+1:=by simp
 have h0:Below W1.heap.size W1 (W1.drew.alloc (Obj.cells #[.int .i64 0,.slice none 0 0] 67)):=((Below.refl W1.heap.size W1).drew).alloc (by simp) _
 have h1:Below W1.heap.size W1 w':=h0.trans (hb.mono (by simp))
 have h4:=h.own.lt
 have h5:=h.below.size
 have h6:=h.res.lt
 have h7:=hy.lt
 have hB:BoxAt w' w.heap.size 67 2 W1.heap.size [.int .i64 0,.slice none 0 0]:=by
  have:=boxAt_new W1.drew (base:=w.heap.size) (t:=67) (sz:=2) #[.int .i64 0,.slice none 0 0] (by simp;omega) rfl
  rw[hd]at this
  exact this.below hb
 have hJ:=h.move h1
 have hC:Chg (fun k=>k=W1.heap.size) w' ((w'.setCell ⟨W1.heap.size,0,none⟩ (.int .i64 y.kind)).setCell ⟨W1.heap.size,1,none⟩ (.slice (some ⟨y.b,0,none⟩) y.t.length y.c)):=
  (Chg.of_set w' W1.heap.size 0 _ (S:=fun k=>k=W1.heap.size) rfl).trans (Chg.of_set _ W1.heap.size 1 _ (S:=fun k=>k=W1.heap.size) rfl)
 refine⟨⟨hJ.fold,own_chg hJ.own hC (fun k q=>by simp[Value.ownBlock]at q;omega),hJ.res.chg hC (by omega),fun p hp=>⟨(hJ.txt p hp).1.chg hC (by have h8:=(h.txt p hp).1.lt.2;omega),(hJ.txt p hp).2⟩,?_⟩,(hB.set 0 _).set 1 _,(hy.mono (by omega)).chg hC (by omega),by omega,by omega,by omega⟩
 exact below_set (below_set hJ.below (by omega) 0 _) (by omega) 1 _
theorem pt_new (X:World) (y:Po) (B:Nat) (hB:X.heap.size=B):QsAt (X.alloc (Obj.cells #[.int .i64 y.kind,.slice (some ⟨y.b,0,none⟩) y.t.length y.c] 67)) B 0 [y]:=by
 subst hB
 intro i s hs
 have hi:i=0:=by have:=(List.getElem?_eq_some_iff.1 hs).1;simpa using this
 subst hi
 simp at hs
 subst hs
 exact⟨by simp,by simp⟩
theorem fp_push {w wc X w':World} {xs:List Nd} {j g cp SB g' cp' fr:Nat} {ps:List Po} {y:Po} (h:FpK w xs j g cp ps SB y wc) (hX:Below wc.heap.size wc X) (hY:foldV printV [] (xs.take (j+1))=some ((ps.take fr++ [y]).map Po.pt)) (hO:OwnPo w' (w.heap.size+1) g' cp' (ps.take fr++ [y])) (hgr:X.grownBy w' (some g)) (hat:g=g'∨g'=X.heap.size) (hm:fr=(ps.take fr).length):FpJ w xs (j+1) g' cp' (ps.take fr++ [y]) w'∧fr+1≤cp':=by
 have hJ:=h.fo.move hX
 have h1:=hJ.own.lt
 have hxs:=hX.size
 have hC:Chg (fun k=>k=g) X w':=Chg.of_grown hgr (fun k hk=>by cases hk;rfl)
 refine⟨⟨hY,hO,hJ.res.chg hC (by omega),fun p hp=>?_,Chg.below hJ.below hC hJ.below.size (fun k q=>by omega)⟩,?_⟩
 ·have hp2:OwnY wc (w.heap.size+1) p.b p.c p.t∧¬p.b=g:=by
   rcases List.mem_append.1 hp with q|q
   ·exact h.fo.txt p (List.mem_of_mem_take q)
   ·simp at q;subst q;exact⟨h.new,h.nb⟩
  refine⟨(hp2.1.below hX).chg hC hp2.2,?_⟩
  have h9:=hp2.1.lt.2
  rcases hat with q|q
  ·rw[←q];exact hp2.2
  ·omega
 ·have:=hO.caps.1
  rw[List.length_append,List.length_singleton,←hm]at this
  exact this
def FpP (y:PT) (w:World) (r:Ending) (w':World):Prop:=∃b c,r=.returned (.tuple #[.agg #[.int .i64 y.1,.slice (some ⟨b,0,none⟩) y.2.length c],.bool true])∧OwnY w' w.heap.size b c y.2∧Below w.heap.size w w'
theorem fold_trvG {T:Type} (V:Nd→List T→T):∀(k:Nat) (xs:List Nd) (ss:List T),xs.length=k→foldV V [] xs=some ss→TrV V ss xs
 |0,xs,ss,hk,h=>by
  obtain rfl:=List.length_eq_zero_iff.1 hk
  simp only[foldV,Option.some.injEq]at h
  subst h
  exact .nil
 |k+1,xs,ss,hk,h=>by
  rcases List.eq_nil_or_concat xs with rfl|⟨ys,n,rfl⟩
  ·simp at hk
  ·rw[List.concat_eq_append]at hk h⊢
   rw[foldV_append]at h
   cases hy:foldV V [] ys with
   |none=>rw[hy]at h;cases h
   |some st=>
    have ih:=fold_trvG V k ys st (by simp at hk;exact hk) hy
    rw[hy]at h
    simp only[Option.bind_some,foldV,stepV]at h
    split at h
    ·cases h
    ·rename_i hn
     simp only[Option.bind_some,foldV,Option.some.injEq]at h
     subst h
     refine .snoc n (by rw[List.length_drop];omega) ?_
     rw[List.take_append_drop];exact ih
theorem fold_len {xs:List Nd} {ss:List PT} (h:foldV printV [] xs=some ss) (hg:∀e∈xs,GoodN e∧NumN e) (hl:xs.length≤200):∀s∈ss,s.2.length≤400000:=by
 intro s hs
 have h1:=print_len (fold_trvG printV _ xs ss rfl h) hg
 have h2:s.2.length≤sizeP ss:=by
  obtain⟨a,b,rfl⟩:=List.append_of_mem hs
  rw[sizeP_append]
  simp[sizeP]
  omega
 omega
set_option maxHeartbeats 16000000 in
theorem foldPrint_win {w:World} {gN oN cpN:Nat} {xs:List Nd} {y:PT} (h:NdsAt w gN oN xs) (hg:gN<w.heap.size) (hG:∀e∈xs,GoodN e∧NumN e) (hl:xs.length≤200) (hT:TextF xs y) (hGl:Gl w) (hB:7≤w.heap.size):
  Calls Tryz.prog 36 #[.slice (some ⟨gN,oN,none⟩) xs.length cpN,.func (Fn.func 37) #[] #[]] w (FpP y w):=by
 have HF:Hid (NdsAt w gN oN xs∧(∀e∈xs,GoodN e∧NumN e)∧xs.length≤200∧foldV printV [] xs=some [y]∧Gl w):=⟨h,hG,hl,by have:=TrV.fold _ hT [];simpa using this,hGl⟩
 obtain⟨n,hn⟩:=qE xs.length
 have HL:Hid (n=xs.length):=hn
 rw[←hn]at hl⊢
 clear h hG hn hT hGl
 obtain⟨W0,hW0⟩:=qE ((w.alloc (Obj.cells #[.int .i64 0,.slice none 0 0] 67)).alloc (Obj.cells #[] 67):World)
 have HW0:Hid (FpJ w xs 0 (w.heap.size+1) 0 [] W0):=by
  obtain⟨V,hV⟩:=qE (w.alloc (Obj.cells #[.int .i64 0,.slice none 0 0] 67):World)
  have hz:V.heap.size=w.heap.size+1:=by rw[hV];simp
  have hb:Below V.heap.size V W0:=by rw[hW0,←hV];exact qB
  have hbV:Below w.heap.size w V:=by rw[hV];exact qB
  have hBx:BoxAt V w.heap.size 67 2 w.heap.size [.int .i64 0,.slice none 0 0]:=by rw[hV];exact boxAt_new w _ (Nat.le_refl _) rfl
  refine⟨rfl,?_,hBx.below hb,(fun p hp=>by cases hp),hbV.trans (hb.mono (by omega))⟩
  rw[hW0,←hV,←hz]
  exact ownPo_new V (Nat.le_refl _)
 go_enter Tryz.func36,Tryz.ntmps36
 go_upto_region 2 with fail
 rw[←hW0]
 clear hW0
 go_wp2_with fail
 go_loopw[6,14] (fun sv iv wr=>∃(j m g cp:Nat) (ps:List Po),iv=.int .i64 (j:Int)∧j≤n∧m=ps.length∧m≤j∧m≤cp∧sv=.slice (some ⟨g,0,none⟩) m cp∧FpJ w xs j g cp ps wr) (fun _ iv _=>n-(intOf iv).toNat)
 case atStart=>exact⟨0,0,_,0,[],rfl,Nat.zero_le _,rfl,Nat.le_refl _,Nat.zero_le _,rfl,HW0.out⟩
 case round=>
  obtain⟨j,m,g,cp,ps,rfl,hj,hm,hmj,hmc,rfl,hJ⟩:=hrel
  have HJ:Hid (m=ps.length∧FpJ w xs j g cp ps wr):=⟨hm,hJ⟩
  have hgl:=hJ.own.lt
  have hcp:cp≤9223372036854775807:=by have:=hJ.own.caps.2;unfold maxLen at this;omega
  have hsz:=hJ.below.size
  have hrl:=hJ.res.lt.2
  clear hm hJ HW0
  by_cases hlt:j<n
  ·have zj:(j:Int)<(n:Int):=by omega
   obtain⟨e,he⟩:∃e,xs[j]?=some e:=⟨_,List.getElem?_eq_getElem (by have:=HL.out;omega)⟩
   obtain⟨d0,d1,d2,d3,d4,d5,d6⟩:=(HF.1.below HJ.2.below hg) j e he
   have HE:Hid (xs[j]?=some e∧GoodN e∧NumN e):=⟨he,HF.2.1 e (List.mem_of_getElem? he)⟩
   clear he
   obtain⟨W1,hW1⟩:=qE (wr.alloc (Obj.cells #[.int .i64 e.kind,.string e.s,.bool e.hi,.string e.t,.int .u64 e.lo,.int .u64 e.up,.int .i64 e.n] 65):World)
   have hb1:Below wr.heap.size wr W1:=by rw[hW1];exact qB
   have hz1:W1.heap.size=wr.heap.size+1:=by rw[hW1];simp
   have HJ1:Hid (m=ps.length∧FpJ w xs j g cp ps W1∧BoxAt W1 w.heap.size 65 7 wr.heap.size e.seven):=by
    refine⟨HJ.1,HJ.2.move hb1,?_⟩
    rw[hW1];exact boxAt_new wr _ hsz rfl
   go_upto_region 5 with fail
   rw[←hW1]
   clear hW1 d0 d1 d2 d3 d4 d5 d6 HJ hb1
   have c0:=HJ1.2.2.cell (j:=0) rfl
   have c1:=HJ1.2.2.cell (j:=1) rfl
   have c2:=HJ1.2.2.cell (j:=2) rfl
   have c3:=HJ1.2.2.cell (j:=3) rfl
   have c4:=HJ1.2.2.cell (j:=4) rfl
   have c5:=HJ1.2.2.cell (j:=5) rfl
   have c6:=HJ1.2.2.cell (j:=6) rfl
   obtain⟨a,ha⟩:=qE (arity e.kind)
   have ha3:a≤3:=by rw[ha];exact arity_le _
   have HAr:Hid (Calls Tryz.prog 73 #[.int .i64 e.kind] W1 fun r w'=>r=.returned (.int .i64 (a:Int))∧w'=W1):=by rw[ha];exact operandCount_core e.kind W1
   have HAk:Hid (a=arity e.kind):=ha
   clear ha
   go_wp2_with fail
   refine HAr.mono ?_
   rintro r w9 ⟨rfl,hw9⟩
   rw[hw9]
   clear hw9 HAr
   by_cases hfr:m<a
   ·exfalso
    have hno:=foldG_stop printV HJ1.2.1.fold HE.1 (by rw[List.length_map,←HJ1.1,←HAk.out];exact hfr)
    rw[HF.2.2.2.1]at hno
    cases hno
   ·obtain⟨fr,hfrm⟩:∃fr:Nat,(m:Int)-(a:Int)=(fr:Int):=⟨m-a,by omega⟩
    have hfrle:fr≤m:=by omega
    have HFr:Hid (fr=ps.length-arity e.kind∧arity e.kind≤ps.length):=by
     have h1:=HJ1.1
     have h2:=HAk.out
     exact⟨by omega,by omega⟩
    have zf:¬(fr:Int)<0:=by omega
    have z2:(fr:Int)≤(m:Int):=by omega
    have z3:(m:Int)≤(cp:Int):=by omega
    obtain⟨Y,hY⟩:=qE ((printV e ((ps.drop fr).map Po.pt)).2)
    have HY:Hid (foldV printV [] (xs.take (j+1))=some ((ps.take fr).map Po.pt++ [(e.kind,Y)])):=by
     show _=_
     have h9:=foldG_next printV HJ1.2.1.fold HE.1 (by rw[List.length_map];exact HFr.2)
     rw[List.length_map,←HFr.1,←List.map_take,←List.map_drop]at h9
     rw[h9,hY]
     rfl
    obtain⟨ad,had⟩:∃ad:Option Addr,(if cp=fr then some (⟨g,0,none⟩:Addr)else some ⟨g,fr*2,none⟩)=ad:=⟨_,rfl⟩
    have HSh:Hid (∀X,Below W1.heap.size W1 X→Calls Tryz.prog 37 #[.agg #[.int .i64 e.kind,.string e.s,.bool e.hi,.string e.t,.int .u64 e.lo,.int .u64 e.up,.int .i64 e.n],.slice ad (m-fr) (cp-fr)] X (PnP e.kind Y X)):=fun X hX=>by
     have hJX:=HJ1.2.1.move hX
     have hs2:=(hJX.own.at).drop fr
     rw[Nat.zero_add]at hs2
     have hlen:(ps.drop fr).length=m-fr:=by rw[List.length_drop,←HJ1.1]
     have hX2:=hX.size
     have hla:(ps.drop fr).length=arity e.kind:=by rw[List.length_drop];have:=HFr.1;have:=HFr.2;omega
     have hE:∀p∈ps.drop fr,BysAt X p.b 0 p.t∧p.b<X.heap.size∧p.t.length≤400000:=fun p hp=>by
      have h1:=hJX.txt p (List.mem_of_mem_drop hp)
      refine⟨h1.1.at,h1.1.lt.2,?_⟩
      exact fold_len HJ1.2.1.fold (fun e he=>HF.2.1 e (List.mem_of_mem_take he)) (by rw[List.length_take];have:=HF.2.2.1;omega) p.pt (List.mem_map.2 ⟨p,List.mem_of_mem_drop hp,rfl⟩)
     have hglX:Gl X:=HF.2.2.2.2.on hJX.below hB
     have hbX:7≤X.heap.size:=by have:=hJX.below.size;omega
     rw[hY,←had]
     by_cases hcf:cp=fr
     ·rw[if_pos hcf]
      have hnil:ps.drop fr= []:=List.length_eq_zero_iff.1 (by rw[hlen];omega)
      have h9:=printNode_core e g 0 (cp-fr) (ps.drop fr) X HE.2.1 HE.2.2 hla hJX.own.lt.2 (by rw[hnil];intro i s hs;simp at hs) hE hglX hbX
      rw[hlen]at h9
      exact h9
     ·rw[if_neg hcf]
      have h9:=printNode_core e g (fr*2) (cp-fr) (ps.drop fr) X HE.2.1 HE.2.2 hla hJX.own.lt.2 hs2 hE hglX hbX
      rw[hlen]at h9
      exact h9
    clear hY hfr
    go_upto_region 8 with fail
    go_cut[10] (fun sv wx=>∃SB b c,sv=.pointer (some ⟨SB,0,none⟩)∧FpK w xs j g cp ps SB ⟨e.kind,b,c,Y⟩ wx)
    case first=>
     go_region_law ((go_simp;go_at_call 37;refine(HSh.out _ ?hX).mono ?_;(case hX=>(repeat (first|exact Below.refl _ _|refine Below.drew ?_|refine Below.alloc ?_ (by simp) _)));rintro r w' ⟨vb,vc,rfl,hvO,hbb⟩;obtain⟨hcc,hff⟩:=bcell hbb;have hsz':=hbb.size))
     all_goals go_wp2_with fail
     all_goals go_meet
     all_goals first
      |exact⟨_,vb,vc,rfl,fp_after ⟨e.kind,vb,vc,Y⟩ HJ1.2.1 hbb hvO⟩
      |exact⟨_,vb,vc,rfl,by have h9:=fp_before ⟨e.kind,vb,vc,Y⟩ HJ1.2.1 hbb hvO;rw[hz1]at h9;exact h9⟩
    case rest=>
    obtain⟨SB,yb,yc,rfl,hK⟩:=hcut
    obtain⟨yl,hyl⟩:=qE Y.length
    have HK:Hid (FpK w xs j g cp ps SB ⟨e.kind,yb,yc,Y⟩ wc∧yl=Y.length):=⟨hK,hyl⟩
    have b0:=hK.box.cell (j:=0) rfl
    have b1:=hK.box.cell (j:=1) rfl
    simp only at b0 b1
    rw[←hyl]at b1
    have hgl2:=hK.fo.own.lt
    have hsb:=hK.box.lt.2
    have hnsb:=hK.ne
    have hsz2:=hK.fo.below.size
    have HM:Hid (fr=(ps.take fr).length):=by
     show fr=_
     rw[List.length_take,←HJ1.1]
     omega
    clear hK c0 c1 c2 c3 c4 c5 c6 HSh hyl
    go_upto_region 9 with fail
    have hfl:fr≤ps.length:=by rw[←HJ1.1];exact hfrle
    have z4:(fr:Int)≤(cp:Int):=by omega
    have z5:fr≤cp:=by omega
    go_region_law ((refine step_append_pt _ (by rfl) _ _ (by rfl) (w.heap.size+1) fr g cp wc.heap.size (ps.take fr) ⟨e.kind,yb,yc,Y⟩ HM.out (by rfl) (by rfl) ?hO ?hc ?hl ?hb ?_
                    case hO=>(refine OwnPo.below (HK.1.fo.own.take hfl) ?_;repeat (first|exact Below.refl _ _|refine Below.drew ?_|refine Below.alloc ?_ (by simp) _))
                    case hc=>(have h9:=pt_new wc ⟨e.kind,yb,yc,Y⟩ _ rfl;simp only[←HK.2]at h9;exact fun i q hq=>by simpa using h9 i q hq)
                    case hl=>rw[←HM.out];omega
                    case hb=>simp;omega
                    intro g' cp' w' hO' hgr' hat'
                    have fin:Hid (FpJ w xs (j+1) g' cp' (ps.take fr++ [⟨e.kind,yb,yc,Y⟩]) w'∧fr+1≤cp'):=fp_push HK.1 (by repeat (first|exact Below.refl _ _|refine Below.drew ?_|refine Below.alloc ?_ (by simp) _)) (by rw[HY.out,List.map_append];rfl) hO' hgr' hat' HM.out
                    clear hO' hgr' hat'))
    all_goals go_wp2_with fail
    all_goals go_roundw
    all_goals first
     |exact⟨j+1,fr+1,g',cp',ps.take fr++ [⟨e.kind,yb,yc,Y⟩],by go_num,by omega,by rw[List.length_append,List.length_singleton,←HM.out],by omega,fin.out.2,rfl,fin.out.1⟩
     |(simp[intOf];omega)
  ·have zj:¬(j:Int)<(n:Int):=by omega
   obtain⟨p,hps,hpy⟩:∃p,ps= [p]∧p.pt=y:=by
    have h1:=HJ.2.fold
    rw[List.take_of_length_le (by have:=HL.out;omega),HF.2.2.2.1]at h1
    have h2:=Option.some.inj h1
    match ps,h2 with
    | [p],h2=>exact⟨p,rfl,by simpa using h2.symm⟩
   have hm1:m=1:=by rw[HJ.1,hps];rfl
   subst hm1
   have HJp:Hid (FpJ w xs j g cp [p] wr∧p.pt=y):=⟨by rw[←hps];exact HJ.2,hpy⟩
   clear hps hpy HJ
   obtain⟨q0,q1⟩:=HJp.1.own.at 0 p rfl
   simp only[Nat.zero_add,Nat.zero_mul]at q0 q1
   obtain⟨pk,pb,pc,pt⟩:=p
   obtain⟨pl,hpl⟩:=qE pt.length
   simp only at q0 q1
   rw[←hpl]at q1
   have r0:=HJp.1.res.cell (j:=0) rfl
   have r1:=HJp.1.res.cell (j:=1) rfl
   have f0:=HJp.1.res.frozen 0
   have f1:=HJp.1.res.frozen 1
   obtain⟨W9,hW9⟩:=qE ((wr.setCell ⟨w.heap.size,0,none⟩ (.int .i64 pk)).setCell ⟨w.heap.size,1,none⟩ (.slice (some ⟨pb,0,none⟩) pl pc):World)
   have HW9:Hid (BoxAt W9 w.heap.size 67 2 w.heap.size [.int .i64 pk,.slice (some ⟨pb,0,none⟩) pl pc]∧FpP y w (.returned (.tuple #[.agg #[.int .i64 pk,.slice (some ⟨pb,0,none⟩) pl pc],.bool true])) W9):=by
    have hC:Chg (fun k=>k=w.heap.size) wr W9:=by rw[hW9];exact(Chg.of_set wr _ 0 _ (S:=fun k=>k=w.heap.size) rfl).trans (Chg.of_set _ _ 1 _ rfl)
    have hx:=(HJp.1.txt ⟨pk,pb,pc,pt⟩ (by simp)).1
    have hxl:=hx.lt
    simp only at hxl
    refine⟨by rw[hW9];exact(HJp.1.res.set 0 _).set 1 _,pb,pc,?_,?_,?_⟩
    ·rw[←HJp.2,hpl]
    ·rw[←HJp.2];exact(hx.chg hC (by show¬pb=_;omega)).mono (by omega)
    ·rw[hW9];exact below_set (below_set HJp.1.below (Nat.le_refl _) 0 _) (Nat.le_refl _) 1 _
   have p0:=HW9.1.cell (j:=0) rfl
   have p1:=HW9.1.cell (j:=1) rfl
   clear hpl
   go_wp2_with fail
   rw[←hW9]
   exact bodyPost_ret (v:=.tuple #[.agg #[.int .i64 pk,.slice (some ⟨pb,0,none⟩) pl pc],.bool true]) (by simp[results,Tryz.results36,go_sem,p0,p1]) rfl HW9.2
def PrtOf (xs:List Nd) (R:List UInt8):Prop:=(¬GoodF xs∧R= [])∨(GoodF xs∧∃k,TextF xs (k,R))
theorem prtOf_one {xs:List Nd} {R S:List UInt8} (h:PrtOf xs R) (k:PrtOf xs S):R=S:=by
 rcases h with⟨h1,rfl⟩|⟨h1,a,h2⟩
 ·rcases k with⟨_,rfl⟩|⟨k1,_⟩
  ·rfl
  ·exact absurd k1 h1
 ·rcases k with⟨k1,_⟩|⟨_,b,k2⟩
  ·exact absurd h1 k1
  ·have:=textF_one h2 k2
   exact(Prod.mk.inj this).2
theorem goodF_text {xs:List Nd} (h:GoodF xs):∃y,TextF xs y:=by
 obtain⟨_,s,hs,_⟩:=h
 exact textF_ex (ShT.tree goodB hs)
theorem num_of_ok {e:Nd} (h:e.ok):NumN e:=by
 have h1:=wf_u64 h.lo
 have h2:=wf_u64 h.up
 exact⟨h1.1,h1.2,h2.1,h2.2⟩
def PrtU (xs:List Nd) (w:World) (r:Ending) (w':World):Prop:=∃g cp R,r=.returned (.slice (some ⟨g,0,none⟩) R.length cp)∧OwnY w' w.heap.size g cp R∧PrtOf xs R∧Below w.heap.size w w'
set_option maxHeartbeats 4000000 in
theorem implPrint_win {w:World} {g o cp:Nat} {xs:List Nd} (h:WdN w g o cp xs) (hok:∀e∈xs,e.ok) (hGl:Gl w) (hB:7≤w.heap.size):Calls Tryz.prog 15 #[.agg #[.slice (some ⟨g,o,none⟩) xs.length cp]] w (PrtU xs w):=by
 have HO:Hid (WdN w g o cp xs∧(∀e∈xs,e.ok)∧Gl w):=⟨h,hok,hGl⟩
 have hgl:=h.lt
 have hcp:=h.caps
 obtain⟨W0,hW0⟩:=qE (w.alloc (Obj.cells #[.slice (some ⟨g,o,none⟩) xs.length cp] 25):World)
 have hb0:Below w.heap.size w W0:=by rw[hW0];exact qB
 have hz0:w.heap.size<W0.heap.size:=by rw[hW0];simp
 have c0:W0.cell? ⟨w.heap.size,0,none⟩=some (.slice (some ⟨g,o,none⟩) xs.length cp):=by rw[hW0];simp
 have HO0:Hid (WdN W0 g o cp xs):=h.below hb0 hgl
 clear h hok hGl
 go_enter Tryz.func15,Tryz.ntmps15
 go_upto_region 1 with fail
 rw[←hW0]
 clear hW0
 go_wp2_with fail
 refine(implFilter_win HO0.out HO.2.1).mono ?_
 rintro e w1 ⟨r,rfl,hr,hb1⟩
 have HR:Hid (r=true↔GoodF xs):=hr
 have s1:=hb1.size
 have k1:Below w.heap.size w w1:=hb0.trans (hb1.mono (by omega))
 have c1:w1.cell? ⟨w.heap.size,0,none⟩=some (.slice (some ⟨g,o,none⟩) xs.length cp):=by rw[hb1.cell (p:=⟨w.heap.size,0,none⟩) hz0];exact c0
 have HO1:Hid (WdN w1 g o cp xs):=HO0.below hb1 HO0.lt
 clear hr c0
 cases r
 case false=>
  have HG:Hid (PrtU xs w (.returned (.slice (some ⟨w1.heap.size,0,none⟩) 0 0)) (w1.alloc (Obj.cells #[] 5))):=⟨w1.heap.size,0,[],rfl,ownY_new w1 k1.size,.inl ⟨fun q=>Bool.noConfusion (HR.2 q),rfl⟩,k1.alloc k1.size _⟩
  go_wp2_with fail
  go_ret
  exact HG.out
 case true=>
 have hG:GoodF xs:=HR.1 rfl
 obtain⟨y,hy⟩:=goodF_text hG
 have HC:Hid (Calls Tryz.prog 36 #[.slice (some ⟨g,o,none⟩) xs.length cp,.func (Fn.func 37) #[] #[]] w1 (FpP y w1)):=
  foldPrint_win HO1.at HO1.lt (fun e he=>⟨goodF_all hG e he,num_of_ok (HO.2.1 e he)⟩) hG.1 hy (HO.2.2.on k1 hB) (by omega)
 have HY:Hid (TextF xs y∧GoodF xs):=⟨hy,hG⟩
 clear hy hG
 go_wp2_with fail
 refine HC.mono ?_
 rintro e w3 ⟨b,c,rfl,hOb,hb3⟩
 obtain⟨yk,yt⟩:=y
 obtain⟨yl,hyl⟩:=qE yt.length
 simp only
 rw[←hyl]
 have s3:=hb3.size
 have HG:Hid (PrtU xs w (.returned (.slice (some ⟨b,0,none⟩) yl c)) (w3.alloc (Obj.cells #[.int .i64 yk,.slice (some ⟨b,0,none⟩) yl c] 67))):=by
  have hbb:Below w3.heap.size w3 (w3.alloc (Obj.cells #[.int .i64 yk,.slice (some ⟨b,0,none⟩) yl c] 67)):=qB
  exact⟨b,c,yt,by rw[hyl],(hOb.mono k1.size).below hbb,.inr ⟨HY.2,yk,HY.1⟩,(k1.trans (hb3.mono k1.size)).trans (hbb.mono (by omega))⟩
 clear hyl hOb
 go_wp2_with fail
 go_ret
 exact HG.out
def PrtS (xs:List Nd) (w:World) (r:Ending) (w':World):Prop:=∃g cp R,r=.returned (.slice (some ⟨g,0,none⟩) R.length cp)∧WrB w' w.heap.size g cp R∧PrtOf xs R∧Below w.heap.size w w'
theorem prtOf_len {xs:List Nd} {R:List UInt8} (h:PrtOf xs R) (hok:∀e∈xs,e.ok):R.length≤400000:=by
 rcases h with⟨_,rfl⟩|⟨hG,k,hT⟩
 ·simp
 ·have h1:=textF_len hT (fun e he=>⟨goodF_all hG e he,num_of_ok (hok e he)⟩)
  have h2:=hG.1
  simp only at h1
  omega
set_option maxHeartbeats 4000000 in
theorem specPrint_win {w:World} {g o cp:Nat} {xs:List Nd} (h:WdN w g o cp xs) (hok:∀e∈xs,e.ok):Calls Tryz.prog 17 #[.agg #[.slice (some ⟨g,o,none⟩) xs.length cp]] w (PrtS xs w):=by
 have HO:Hid (WdN w g o cp xs∧(∀e∈xs,e.ok)):=⟨h,hok⟩
 have hgl:=h.lt
 have hcp:=h.caps
 obtain⟨W0,hW0⟩:=qE (w.alloc (Obj.cells #[.slice (some ⟨g,o,none⟩) xs.length cp] 25):World)
 have hb0:Below w.heap.size w W0:=by rw[hW0];exact qB
 have hz0:w.heap.size<W0.heap.size:=by rw[hW0];simp
 have c0:W0.cell? ⟨w.heap.size,0,none⟩=some (.slice (some ⟨g,o,none⟩) xs.length cp):=by rw[hW0];simp
 have HO0:Hid (WdN W0 g o cp xs):=h.below hb0 hgl
 clear h hok
 go_enter Tryz.func17,Tryz.ntmps17
 go_upto_region 1 with fail
 rw[←hW0]
 clear hW0
 go_wp2_with fail
 refine(specFilter_win HO0.out HO.2).mono ?_
 rintro e w1 ⟨r,rfl,hr,hb1⟩
 have HR:Hid (r=true↔GoodF xs):=hr
 have s1:=hb1.size
 have k1:Below w.heap.size w w1:=hb0.trans (hb1.mono (by omega))
 have c1:w1.cell? ⟨w.heap.size,0,none⟩=some (.slice (some ⟨g,o,none⟩) xs.length cp):=by rw[hb1.cell (p:=⟨w.heap.size,0,none⟩) hz0];exact c0
 have HO1:Hid (WdN w1 g o cp xs):=HO0.below hb1 HO0.lt
 clear hr c0
 cases r
 case false=>
  have HG:Hid (PrtS xs w (.returned (.slice (some ⟨w1.heap.size,0,none⟩) 0 0)) (w1.alloc (Obj.cells #[] 5))):=⟨w1.heap.size,0,[],rfl,(ownY_new w1 k1.size).wr,.inl ⟨fun q=>Bool.noConfusion (HR.2 q),rfl⟩,k1.alloc k1.size _⟩
  go_wp2_with fail
  go_ret
  exact HG.out
 case true=>
 have hG:GoodF xs:=HR.1 rfl
 obtain⟨y,hy⟩:=goodF_text hG
 have HC:Hid (Calls Tryz.prog 41 #[.slice (some ⟨g,o,none⟩) xs.length cp] w1 (TxP y.2 w1)):=
  text_all _ w1 g o cp xs y (Nat.le_refl _) (by have:=hG.1;omega) ⟨HO1.at,HO1.lt,HO1.caps.1,by have:=HO1.caps.2;unfold maxLen at this;omega,by have:=hG.1;omega⟩ hy (fun e he=>⟨(goodF_all hG e he).loo,num_of_ok (HO.2 e he)⟩)
 have HY:Hid (TextF xs y∧GoodF xs):=⟨hy,hG⟩
 clear hy hG
 go_wp2_with fail
 refine HC.mono ?_
 rintro e w3 ⟨b,c,rfl,hOb,hb3⟩
 obtain⟨yk,yt⟩:=y
 have s3:=hb3.size
 have HG:Hid (PrtS xs w (.returned (.slice (some ⟨b,0,none⟩) yt.length c)) w3):=⟨b,c,yt,rfl,hOb.mono k1.size,.inr ⟨HY.2,yk,HY.1⟩,k1.trans (hb3.mono k1.size)⟩
 clear hOb
 go_wp2_with fail
 go_ret
 exact HG.out
end Go.Proofs.YtgnpcenpcmdlfaaGreatDoor
