import Derived.Deep.RegionHeld3
import Derived.Test.YtgnpcenpcmdlfaaGreatDoorRows
import Derived.WalkKit
import Derived.ProofKit
import Derived.OpenShut
import Derived.ShutString
import Derived.ChangeOld
import Derived.Below
import Derived.WalkSpells
import Derived.WalkLawsBesides
import Derived.Outline
import Derived.Deep.Light
import Derived.Lib.SmallJoins
import Derived.OwnWalk
import Derived.Deep.MidRow
import Derived.Deep.DeepCutAuto
import Derived.Deep.RegionWith
import Derived.Deep.QuietTactic
import Derived.BigQuiet
import Derived.Deep.AppendLies
import Derived.Lib.Bytealg
import Derived.Lib.Slices
import Derived.Lib.Walk
import Derived.Laws.Tables
import Derived.Laws.Rows
import Derived.Deep.WholeRow
import Derived.Deep.RegionLaw
import Derived.Maps.AppendAt
import Derived.Recover
import Derived.RecoverIn
import Derived.Stop.Asserts
import Derived.Lib.ConvBytes
import Derived.ArgAppend
import Derived.Lib.SlBytesConst
import Derived.Lib.ItoaNum
import Derived.Lib.SlBytesRow
import Derived.Lib.AppendStr
import Derived.Lib.OthersKept
import Derived.Lib.OwnKind
import Derived.Lib.AppendIntMem
import Derived.Deep.CutBlock
import Derived.Lib.AppendZeros
import Derived.Deep.LoopGhost
import Derived.Great.BuildSlice
import Derived.LaidMore
import Derived.Lib.LaidTab
import Derived.Stop.Joined
import Derived.Test.YtgnpcenpcmdlfaaGreatDoorChecked
namespace Go.Proofs.YtgnpcenpcmdlfaaGreatDoor
open Go.RowKit Go.ChangeShapes Go.WideShapes Go.ChangeAt Go.Deep
set_option linter.unusedVariables false
set_option linter.unusedSimpArgs false
set_option maxRecDepth 100000
set_option maxHeartbeats 32000000
theorem qA:(∀(a:Act) (n:Nat) (v:Value),a.put (some n) v={a with tmps:=a.tmps.setIfInBounds n v})∧(∀(a:Act) (v:Value),a.put none v=a)∧(∀(l:List Value) (i:Nat) (v:Value),l.toArray.setIfInBounds i v=(l.set i v).toArray)∧
  (∀(x v:Value) (l:List Value),(x::l).set 0 v=v::l)∧(∀(x v:Value) (l:List Value) (i:Nat),(x::l).set (i+1) v=x::l.set i v):=
 ⟨fun _ _ _=>rfl,fun _ _=>rfl,fun _ _ _=>by simp,fun _ _ _=>rfl,fun _ _ _ _=>rfl⟩
theorem qE {α:Sort _} (x:α):∃y,y=x:=⟨x,rfl⟩
variable {w:World}
theorem qB {o:Obj}:Below w.heap.size w (w.alloc o):=(Below.refl _ _).alloc (Nat.le_refl _) _
variable {p:Prop}
theorem zzR0 (h:p:=by (intro wz _;go_simp;(try with_reducible rfl))):p:=h
theorem zzR1 (h:p:=by (intro wz _;go_simp;simp only[HD.2.2.1])):p:=h
theorem zzR2 (h:p:=by (intro wz _;go_simp;first|exact HD.2.1|rw[HD.2.1])):p:=h
theorem zzR3 (h:p:=by (intro wz _;go_simp;simp only[HD.2.2.2])):p:=h
theorem zzQ0 (h:p:=by
 clear hls;obtain⟨cc,hcc⟩:=qE (if k2.k.isBad=true then 2 else 7:Int);have HFl:Hid (∀wx,Below V5.heap.size V5 wx→Calls Tryz.prog 46 #[parV g N cp (i2) nd 0 pa,.int .i64 7] wx fun e w'=>e=.returned (parV g N cp (i2) nd cc k2.pos)∧Below wx.heap.size wx w'):=fun wx hx=>by rw[hcc];exact yBd (HJ5x.tk.below hx) H0.1 hl HK2.out nd 0 pa 7
 have HAE:Hid (yAv kd (ks.drop i)=.error (cc,k2.pos)∧1≤cc):=⟨by
  rw[HA5.out,hcc]
  unfold yBy
  rw[(yAh HK2.out).1,(yAh HK2.out).2.1],by rw[hcc];split<;>decide⟩
 clear hcc;go_upto_region 36 with fail;have hS0:SW (fun w':World=>w'.cell? ⟨w.heap.size,0,none⟩=some (.slice (some ⟨g,0,none⟩) N cp)∧w'.cell? ⟨w.heap.size,1,none⟩=some (.int .i64 ((i2:Nat):Int))∧w'.cell? ⟨w.heap.size,2,none⟩=some (.int .i64 (nd:Int))∧w'.cell? ⟨w.heap.size,3,none⟩=some (.int .i64 0)∧w'.cell? ⟨w.heap.size,4,none⟩=some (.int .i64 (pa:Int))∧w'.cell? ⟨w.heap.size+3,0,none⟩=some (.int .i64 kd)∧w'.cell? ⟨w.heap.size+3,1,none⟩=some (.string a.txt)∧w'.cell? ⟨w.heap.size+3,2,none⟩=some (.bool true)∧w'.cell? ⟨w.heap.size+3,3,none⟩=some (.string k2.k.txt)∧w'.cell? ⟨w.heap.size+3,4,none⟩=some (.int .u64 a.nm)∧w'.cell? ⟨w.heap.size+3,5,none⟩=some (.int .u64 k2.k.nm)∧w'.cell? ⟨w.heap.size+3,6,none⟩=some (.int .i64 0)) V5.drew:=⟨HJ5x.p.cell (j:=0) rfl,HJ5x.p.cell (j:=1) rfl,HJ5x.p.cell (j:=2) rfl,HJ5x.p.cell (j:=3) rfl,HJ5x.p.cell (j:=4) rfl,HJ5x.n.cell (j:=0) rfl,HJ5x.n.cell (j:=1) rfl,HJ5x.n.cell (j:=2) rfl,HJ5x.n.cell (j:=3) rfl,HJ5x.n.cell (j:=4) rfl,HJ5x.n.cell (j:=5) rfl,HJ5x.n.cell (j:=6) rfl⟩;refine wpR 99 hS0 ?_;refine j4a 0 hS0 ?_;refine j4a 2 hS0 ?_;refine qO 1 rfl fun K hK=>?_;go_simp;go_at_call 46;refine(HFl.out V5.drew (Below.refl _ _).drew).mono ?_;rintro e w5 ⟨rfl,hb5⟩;have HJ5:Hid (AgJ w base g cp N nd pa ks (i2) (⟨kd,a.txt,true,k2.k.txt,a.nm,k2.k.nm,0⟩:Nd) w5):=HJ5x.up (((Below.refl _ _).drew).trans (hb5.mono (Nat.le_refl _)));have hS5:=SWm hS0 w5 <|⟨HJ5.p.cell (j:=0) rfl,HJ5.p.cell (j:=1) rfl,HJ5.p.cell (j:=2) rfl,HJ5.p.cell (j:=3) rfl,HJ5.p.cell (j:=4) rfl,HJ5.n.cell (j:=0) rfl,HJ5.n.cell (j:=1) rfl,HJ5.n.cell (j:=2) rfl,HJ5.n.cell (j:=3) rfl,HJ5.n.cell (j:=4) rfl,HJ5.n.cell (j:=5) rfl,HJ5.n.cell (j:=6) rfl⟩;refine hK.out _ _ (.inr hS5) ?_;clear hK hb5 HFl;refine jS ?_;obtain⟨c0,c1,c2,c3,c4⟩:=HJ5.rp.c5;obtain⟨e0,e1,e2,e3,e4⟩:=HJ5.rp.f5;obtain⟨W6,hW6⟩:∃V:World,V=setP w5 (w.heap.size+1) (.slice (some ⟨g,0,none⟩) N cp) (.int .i64 ((i2:Nat):Int)) (.int .i64 (nd:Int)) (.int .i64 cc) (.int .i64 (k2.pos:Int)):=⟨_,rfl⟩;have hc6:Chg (fun k=>k=w.heap.size+1) w5 W6:=by rw[hW6];exact yCp _ _ _ _ _ _ _
 have hp6:=HJ5.p.chg hc6 (by omega);have hn6:=HJ5.n.chg hc6 (by omega);have hr6:=HJ5.rn.chg hc6 (by omega);have hS6:=SWm hS5 W6 <|⟨hp6.cell (j:=0) rfl,hp6.cell (j:=1) rfl,hp6.cell (j:=2) rfl,hp6.cell (j:=3) rfl,hp6.cell (j:=4) rfl,hn6.cell (j:=0) rfl,hn6.cell (j:=1) rfl,hn6.cell (j:=2) rfl,hn6.cell (j:=3) rfl,hn6.cell (j:=4) rfl,hn6.cell (j:=5) rfl,hn6.cell (j:=6) rfl⟩;obtain⟨d0,d1,d2,d3,d4,d5,d6⟩:=hr6.c7;obtain⟨f0,f1,f2,f3,f4,f5,f6⟩:=hr6.f7;obtain⟨W9,hW9⟩:∃V:World,V=setN W6 (w.heap.size+2) (⟨kd,a.txt,true,k2.k.txt,a.nm,k2.k.nm,0⟩:Nd):=⟨_,rfl⟩;have hc9:Chg (fun k=>k=w.heap.size+2) W6 W9:=by rw[hW9];exact yB2 _ _ _
 have hp9:=hp6.chg hc9 (by omega);have hn9:=hn6.chg hc9 (by omega);have hS9:=SWm hS6 W9 <|⟨hp9.cell (j:=0) rfl,hp9.cell (j:=1) rfl,hp9.cell (j:=2) rfl,hp9.cell (j:=3) rfl,hp9.cell (j:=4) rfl,hn9.cell (j:=0) rfl,hn9.cell (j:=1) rfl,hn9.cell (j:=2) rfl,hn9.cell (j:=3) rfl,hn9.cell (j:=4) rfl,hn9.cell (j:=5) rfl,hn9.cell (j:=6) rfl⟩;have HF:Hid (yA W9 w.heap.size 41 5 (w.heap.size+1) [.slice (some ⟨g,0,none⟩) N cp,.int .i64 ((i2:Nat):Int),.int .i64 (nd:Int),.int .i64 cc,.int .i64 (k2.pos:Int)]∧yA W9 w.heap.size 65 7 (w.heap.size+2) (Nd.seven (⟨kd,a.txt,true,k2.k.txt,a.nm,k2.k.nm,0⟩:Nd))∧Below w.heap.size w W9):=by have hf:=HJ5.fin (.slice (some ⟨g,0,none⟩) N cp) (.int .i64 ((i2:Nat):Int)) (.int .i64 (nd:Int)) (.int .i64 cc) (.int .i64 (k2.pos:Int)) (⟨kd,a.txt,true,k2.k.txt,a.nm,k2.k.nm,0⟩:Nd);rw[hW9,hW6];exact hf
 have HR:Hid (ArgP base g cp N nd pa ks kd i w (.returned (.tuple #[parV g N cp (i2) nd cc k2.pos,Nd.v (⟨kd,a.txt,true,k2.k.txt,a.nm,k2.k.nm,0⟩:Nd)])) W9):=⟨HF.2.2,.inr ⟨cc,k2.pos,i2,(⟨kd,a.txt,true,k2.k.txt,a.nm,k2.k.nm,0⟩:Nd),HAE.1,HAE.2,rfl⟩⟩;obtain⟨p0,p1,p2,p3,p4⟩:=HF.1.c5;obtain⟨q0,q1,q2,q3,q4,q5,q6⟩:=HF.2.1.c7;unfold setP at hW6;unfold setN at hW9;clear hp6 hn6 hr6 hp9 hn9 hc6 hc9;simp only[yAc,patN,cntN,noS]at hW9 q0 q1 q2 q3 q4 q5 q6;refine qO 3 rfl fun K hK=>?_;go_simp;rw[←hW6];refine hK.out _ _ (.inr hS6) ?_;clear hK hW6;refine jS ?_;refine qO 4 rfl fun K hK=>?_;go_simp;rw[←hW9];refine hK.out _ _ (.inr hS9) ?_;clear hK hW9;refine jS ?_;refine qD ?_;clear hS0 hS5 hS6 hS9 c0 c1 c2 c3 c4 d0 d1 d2 d3 d4 d5 d6 e0 e1 e2 e3 e4 f0 f1 f2 f3 f4 f5 f6;go_wp2_with fail;exact bodyPost_ret (v:=.tuple #[parV g N cp (i2) nd cc k2.pos,Nd.v (⟨kd,a.txt,true,k2.k.txt,a.nm,k2.k.nm,0⟩:Nd)]) (by simp[results,Tryz.results49,go_sem,p0,p1,p2,p3,p4,q0,q1,q2,q3,q4,q5,q6,yAc,patN,cntN,noS]) rfl HR.out):p:=h
theorem zzQ1 (h:p:=by
 refine qO 19 rfl fun K hK=>?_;go_simp;go_at_call 27;refine(yCo _ 7 W4.drew).mono ?_;rintro e w5 ⟨rfl,hw5⟩;rw[hw5];clear hw5;refine hK.out _ _ (.inr hS0) ?_;clear hK;refine qD ?_;clear hS0;obtain⟨W5,hW5⟩:∃V:World,V=W4.drew:=⟨_,rfl⟩;have hb5:Below W4.heap.size W4 W5:=by rw[hW5];exact(Below.refl _ _).drew
 have H5:Hid (EnJ w base g b off n cap t d nv a s3 k3 ks3 p3 nv3 W5∧yA W5 w3.heap.size 65 7 w3.heap.size [.int .i64 kd,.string a.k.txt,.bool false,.string ⟨#[]⟩,.int .u64 a.k.nm,.int .u64 0,.int .i64 0]):=⟨H4.1.up hb5,H4.2.1.chg (S:=fun _=>False) (Chg.of_below hb5) (fun q=>q)⟩;rw[←hW5];clear hW5 hb5;have HTk:Hid (Calls Tryz.prog 114 #[.pointer (some ⟨g,0,none⟩)] W5 (TakP base g b off n cap t d s3 k3 nv3 W5)):=yDh H5.1.st H5.1.fp hfin;go_wp2_with fail;refine HTk.mono ?_;clear HTk;rintro e w6 ⟨Hb6,(⟨k6,ks6,p6,htk,rfl,hF6⟩|⟨c,e6,htk,rfl⟩)⟩;case inr=>
  have HD:Hid (BehP base g b off n cap t d (fun r=>r=yCe s (yB kd strs s.ks)) nv w (Pf c (e6:Int)) w6):=H5.1.die (Hb6.mono (fun q z=>.inl z)) (by
   show _=_
   rw[HA6.out,htk];rfl)
  clear htk;exact⟨rfl,HD.out⟩
 have HA7:Hid (yCe s (yB kd strs s.ks)=.ok (⟨k6::ks6,s3.made,s3.out⟩,(⟨kd,a.k.txt,true,k3.k.txt,a.k.nm,k3.k.nm,0⟩:Nd))):=by show _=_;rw[HA6.out,htk];rfl
 have hJ6:EnJ w base g b off n cap t d nv a ⟨k6::ks6,s3.made,s3.out⟩ k6 ks6 p6 nv3 w6:=H5.1.on (Hb6.mono (fun q z=>.inl z)) hF6 (fun q hq=>.inl hq);have hB6:=H5.2.chg Hb6.out (by have:=HJ3.lt;omega);obtain⟨W7,hW7⟩:∃V:World,V=w6.alloc (Obj.cells #[.int .u8 ((ftB k3.k).toNat:Int),.int .i64 (k3.pos:Int),.int .i64 k3.k.wd,.int .u64 k3.k.nm,.string k3.k.txt] 52):=⟨_,rfl⟩;have hb7:Below w6.heap.size w6 W7:=by rw[hW7];exact qB
 have H7:Hid (EnJ w base g b off n cap t d nv a ⟨k6::ks6,s3.made,s3.out⟩ k6 ks6 p6 nv3 W7∧yA W7 w3.heap.size 65 7 w3.heap.size [.int .i64 kd,.string a.k.txt,.bool false,.string ⟨#[]⟩,.int .u64 a.k.nm,.int .u64 0,.int .i64 0]∧yA W7 w6.heap.size 52 5 w6.heap.size (ftV k3)∧w3.heap.size<w6.heap.size):=⟨hJ6.up hb7,hB6.chg (S:=fun _=>False) (Chg.of_below hb7) (fun q=>q),by rw[hW7];exact yAb w6 _ (Nat.le_refl _) rfl,hB6.lt.2⟩;clear htk hF6 hJ6 hB6 hb7 Hb6;go_upto_region 9 with fail;rw[←hW7];clear hW7;have y3:=H7.2.2.1.cell (j:=3) rfl;have y4:=H7.2.2.1.cell (j:=4) rfl;have x2:=H7.2.1.cell (j:=2) rfl;have x3:=H7.2.1.cell (j:=3) rfl;have x5:=H7.2.1.cell (j:=5) rfl;have u2:=H7.2.1.frozen 2;have u3:=H7.2.1.frozen 3;have u5:=H7.2.1.frozen 5;have hne:¬w6.heap.size=w3.heap.size:=by have:=H7.2.2.2;omega
 go_region;obtain⟨W8,hW8⟩:∃V:World,V=(((W7.setCell ⟨w3.heap.size,2,none⟩ (Value.bool true)).setCell ⟨w3.heap.size,3,none⟩ (Value.string k3.k.txt)).setCell ⟨w3.heap.size,5,none⟩ (Value.int IntKind.u64 k3.k.nm)).drew:=⟨_,rfl⟩;have hc8:Chg (fun q=>q=w3.heap.size) W7 W8:=by rw[hW8];exact(((Chg.of_set (S:=fun q=>q=w3.heap.size) _ _ _ _ rfl).trans (Chg.of_set (S:=fun q=>q=w3.heap.size) _ _ _ _ rfl)).trans (Chg.of_set (S:=fun q=>q=w3.heap.size) _ _ _ _ rfl)).trans (Chg.of_below (Below.refl _ _).drew)
 have H8:Hid (EnJ w base g b off n cap t d nv a ⟨k6::ks6,s3.made,s3.out⟩ k6 ks6 p6 nv3 W8∧yA W8 w3.heap.size 65 7 w3.heap.size [.int .i64 kd,.string a.k.txt,.bool true,.string k3.k.txt,.int .u64 a.k.nm,.int .u64 k3.k.nm,.int .i64 0]):=⟨H7.1.side hc8 (by have:=HJ3.lt;omega) (fun q hq z=>by have:=(HJ3.fp.nlt q hq).2;omega),by
  have h1:=((H7.2.1.set 2 (.bool true)).set 3 (.string k3.k.txt)).set 5 (.int .u64 k3.k.nm)
  rw[hW8]
  exact yA.chg (S:=fun _=>False) h1 (Chg.of_below (Below.refl _ _).drew) (fun q=>q)⟩
 rw[←hW8];clear hW8 hc8 x2 x3 x5 u2 u3 u5 y3 y4 hne;have hne:¬w3.heap.size=w.heap.size:=by have:=HJ3.lt;omega
 obtain⟨l0,l1,l2,l3,l4,l5,l6⟩:=H8.1.res.c7;obtain⟨f0,f1,f2,f3,f4,f5,f6⟩:=H8.1.res.f7;obtain⟨c0,c1,c2,c3,c4,c5,c6⟩:=H8.2.c7;obtain⟨W9,hW9⟩:∃V:World,V=setN W8 w.heap.size ((⟨kd,a.k.txt,true,k3.k.txt,a.k.nm,k3.k.nm,0⟩:Nd)):=⟨_,rfl⟩;have hB9:=H8.1.res.setN ((⟨kd,a.k.txt,true,k3.k.txt,a.k.nm,k3.k.nm,0⟩:Nd));rw[←hW9]at hB9;have hc9:Chg (fun q=>q=w.heap.size) W8 W9:=by rw[hW9];exact yB2 _ _ _
 have HR:Hid (BehP base g b off n cap t d (fun r=>r=yCe s (yB kd strs s.ks)) nv w (.returned ((⟨kd,a.k.txt,true,k3.k.txt,a.k.nm,k3.k.nm,0⟩:Nd)).v) W9):=H8.1.fin (by show _=_;rw[HA7.out]) hc9;obtain⟨q0,q1,q2,q3,q4,q5,q6⟩:=hB9.c7;unfold setN at hW9;simp only[noS]at hW9 q0 q1 q2 q3 q4 q5 q6;clear hB9 hc9;go_wp2_with fail;rw[←hW9];exact bodyPost_ret (v:=((⟨kd,a.k.txt,true,k3.k.txt,a.k.nm,k3.k.nm,0⟩:Nd)).v) (by simp[results,Tryz.results129,go_sem,q0,q1,q2,q3,q4,q5,q6,noS]) rfl HR.out):p:=h
theorem zzQ2 (h:p:=by
 have hS0:SW (fun w':World=>w'.cell? ⟨w.heap.size,0,none⟩=some (.slice (some ⟨g,0,none⟩) N cp)∧w'.cell? ⟨w.heap.size,1,none⟩=some (.int .i64 ((i:Nat):Int))∧w'.cell? ⟨w.heap.size,2,none⟩=some (.int .i64 (nd:Int))∧w'.cell? ⟨w.heap.size,3,none⟩=some (.int .i64 0)∧w'.cell? ⟨w.heap.size,4,none⟩=some (.int .i64 (pa:Int))∧w'.cell? ⟨w.heap.size+3,0,none⟩=some (.int .i64 kd)∧w'.cell? ⟨w.heap.size+3,1,none⟩=some (.string ⟨#[]⟩)∧w'.cell? ⟨w.heap.size+3,2,none⟩=some (.bool false)∧w'.cell? ⟨w.heap.size+3,3,none⟩=some (.string ⟨#[]⟩)∧w'.cell? ⟨w.heap.size+3,4,none⟩=some (.int .u64 0)∧w'.cell? ⟨w.heap.size+3,5,none⟩=some (.int .u64 0)∧w'.cell? ⟨w.heap.size+3,6,none⟩=some (.int .i64 0)) W0.drew:=⟨HJ0.p.cell (j:=0) rfl,HJ0.p.cell (j:=1) rfl,HJ0.p.cell (j:=2) rfl,HJ0.p.cell (j:=3) rfl,HJ0.p.cell (j:=4) rfl,HJ0.n.cell (j:=0) rfl,HJ0.n.cell (j:=1) rfl,HJ0.n.cell (j:=2) rfl,HJ0.n.cell (j:=3) rfl,HJ0.n.cell (j:=4) rfl,HJ0.n.cell (j:=5) rfl,HJ0.n.cell (j:=6) rfl⟩;refine wpR 99 hS0 ?_;refine j4a 0 hS0 ?_;refine j4a 2 hS0 ?_;refine qO 1 rfl fun K hK=>?_;go_simp;go_at_call 46;refine(HFl.out W0.drew (Below.refl _ _).drew).mono ?_;rintro e w5 ⟨rfl,hb5⟩;have HJ5:Hid (AgJ w base g cp N nd pa ks (i) (yAc kd) w5):=HJ0.up (((Below.refl _ _).drew).trans (hb5.mono (Nat.le_refl _)));have hS5:=SWm hS0 w5 <|⟨HJ5.p.cell (j:=0) rfl,HJ5.p.cell (j:=1) rfl,HJ5.p.cell (j:=2) rfl,HJ5.p.cell (j:=3) rfl,HJ5.p.cell (j:=4) rfl,HJ5.n.cell (j:=0) rfl,HJ5.n.cell (j:=1) rfl,HJ5.n.cell (j:=2) rfl,HJ5.n.cell (j:=3) rfl,HJ5.n.cell (j:=4) rfl,HJ5.n.cell (j:=5) rfl,HJ5.n.cell (j:=6) rfl⟩;refine hK.out _ _ (.inr hS5) ?_;clear hK hb5 HFl;refine jS ?_;obtain⟨c0,c1,c2,c3,c4⟩:=HJ5.rp.c5;obtain⟨e0,e1,e2,e3,e4⟩:=HJ5.rp.f5;obtain⟨W6,hW6⟩:∃V:World,V=setP w5 (w.heap.size+1) (.slice (some ⟨g,0,none⟩) N cp) (.int .i64 ((i:Nat):Int)) (.int .i64 (nd:Int)) (.int .i64 cc) (.int .i64 (k.pos:Int)):=⟨_,rfl⟩;have hc6:Chg (fun k=>k=w.heap.size+1) w5 W6:=by rw[hW6];exact yCp _ _ _ _ _ _ _
 have hp6:=HJ5.p.chg hc6 (by omega);have hn6:=HJ5.n.chg hc6 (by omega);have hr6:=HJ5.rn.chg hc6 (by omega);have hS6:=SWm hS5 W6 <|⟨hp6.cell (j:=0) rfl,hp6.cell (j:=1) rfl,hp6.cell (j:=2) rfl,hp6.cell (j:=3) rfl,hp6.cell (j:=4) rfl,hn6.cell (j:=0) rfl,hn6.cell (j:=1) rfl,hn6.cell (j:=2) rfl,hn6.cell (j:=3) rfl,hn6.cell (j:=4) rfl,hn6.cell (j:=5) rfl,hn6.cell (j:=6) rfl⟩;obtain⟨d0,d1,d2,d3,d4,d5,d6⟩:=hr6.c7;obtain⟨f0,f1,f2,f3,f4,f5,f6⟩:=hr6.f7;obtain⟨W9,hW9⟩:∃V:World,V=setN W6 (w.heap.size+2) (yAc kd):=⟨_,rfl⟩;have hc9:Chg (fun k=>k=w.heap.size+2) W6 W9:=by rw[hW9];exact yB2 _ _ _
 have hp9:=hp6.chg hc9 (by omega);have hn9:=hn6.chg hc9 (by omega);have hS9:=SWm hS6 W9 <|⟨hp9.cell (j:=0) rfl,hp9.cell (j:=1) rfl,hp9.cell (j:=2) rfl,hp9.cell (j:=3) rfl,hp9.cell (j:=4) rfl,hn9.cell (j:=0) rfl,hn9.cell (j:=1) rfl,hn9.cell (j:=2) rfl,hn9.cell (j:=3) rfl,hn9.cell (j:=4) rfl,hn9.cell (j:=5) rfl,hn9.cell (j:=6) rfl⟩;have HF:Hid (yA W9 w.heap.size 41 5 (w.heap.size+1) [.slice (some ⟨g,0,none⟩) N cp,.int .i64 ((i:Nat):Int),.int .i64 (nd:Int),.int .i64 cc,.int .i64 (k.pos:Int)]∧yA W9 w.heap.size 65 7 (w.heap.size+2) (Nd.seven (yAc kd))∧Below w.heap.size w W9):=by have hf:=HJ5.fin (.slice (some ⟨g,0,none⟩) N cp) (.int .i64 ((i:Nat):Int)) (.int .i64 (nd:Int)) (.int .i64 cc) (.int .i64 (k.pos:Int)) (yAc kd);rw[hW9,hW6];exact hf
 have HR:Hid (ArgP base g cp N nd pa ks kd i w (.returned (.tuple #[parV g N cp (i) nd cc k.pos,Nd.v (yAc kd)])) W9):=⟨HF.2.2,.inr ⟨cc,k.pos,i,(yAc kd),HAE.1,HAE.2,rfl⟩⟩;obtain⟨p0,p1,p2,p3,p4⟩:=HF.1.c5;obtain⟨q0,q1,q2,q3,q4,q5,q6⟩:=HF.2.1.c7;unfold setP at hW6;unfold setN at hW9;clear hp6 hn6 hr6 hp9 hn9 hc6 hc9;simp only[yAc,patN,cntN,noS]at hW9 q0 q1 q2 q3 q4 q5 q6;refine qO 3 rfl fun K hK=>?_;go_simp;rw[←hW6];refine hK.out _ _ (.inr hS6) ?_;clear hK hW6;refine jS ?_;refine qO 4 rfl fun K hK=>?_;go_simp;rw[←hW9];refine hK.out _ _ (.inr hS9) ?_;clear hK hW9;refine jS ?_;refine qD ?_;clear hS0 hS5 hS6 hS9 c0 c1 c2 c3 c4 d0 d1 d2 d3 d4 d5 d6 e0 e1 e2 e3 e4 f0 f1 f2 f3 f4 f5 f6;go_wp2_with fail;exact bodyPost_ret (v:=.tuple #[parV g N cp (i) nd cc k.pos,Nd.v (yAc kd)]) (by simp[results,Tryz.results49,go_sem,p0,p1,p2,p3,p4,q0,q1,q2,q3,q4,q5,q6,yAc,patN,cntN,noS]) rfl HR.out):p:=h
theorem zzQ3 (h:p:=by
 clear hls;obtain⟨V6,hV6⟩:∃V:World,V=V5.setCell ⟨w.heap.size,1,none⟩ (.int .i64 ((i2:Int)+1)):=⟨_,rfl⟩;obtain⟨i3,hi3⟩:∃ix,ix=i2+1:=⟨_,rfl⟩;have HJ6:Hid (AgJ w base g cp N nd pa ks i3 (⟨kd,a.txt,true,k2.k.txt,a.nm,k2.k.nm,0⟩:Nd) V6):=by rw[hV6,hi3];exact HJ5x.stepI _ (by simp)
 have Hi3:Hid (i3=i2+1):=hi3;have hilei3:i2≤i3:=by omega
 clear hi3;have a1:=HJ5x.p.cell (j:=1) rfl;have ia:=HJ5x.p.frozen 1;go_upto_region 38 with fail;rw[←hV6];have hi3:i3<N:=by rw[Hi3.out];exact hi3N
 clear hV6 a1 ia hbl;obtain⟨a0,a1,a2,a3,a4⟩:=HJ6.p.c5;obtain⟨b0,b1,b2,b3,b4,b5,b6⟩:=HJ6.n.c7;obtain⟨c0,c1,c2,c3,c4⟩:=HJ6.rp.c5;obtain⟨d0,d1,d2,d3,d4,d5,d6⟩:=HJ6.rn.c7;obtain⟨e0,e1,e2,e3,e4⟩:=HJ6.rp.f5;obtain⟨f0,f1,f2,f3,f4,f5,f6⟩:=HJ6.rn.f7;obtain⟨W9,hW9⟩:∃V:World,V=(setN (setP V6 (w.heap.size+1) (.slice (some ⟨g,0,none⟩) N cp) (.int .i64 (i3:Int)) (.int .i64 (nd:Int)) (.int .i64 0) (.int .i64 (pa:Int))) (w.heap.size+2) (⟨kd,a.txt,true,k2.k.txt,a.nm,k2.k.nm,0⟩:Nd)).drew:=⟨_,rfl⟩;have HF:Hid (yA W9 w.heap.size 41 5 (w.heap.size+1) [.slice (some ⟨g,0,none⟩) N cp,.int .i64 (i3:Int),.int .i64 (nd:Int),.int .i64 0,.int .i64 (pa:Int)]∧yA W9 w.heap.size 65 7 (w.heap.size+2) (Nd.seven (⟨kd,a.txt,true,k2.k.txt,a.nm,k2.k.nm,0⟩:Nd))∧Below w.heap.size w W9):=by have hf:=HJ6.fin (.slice (some ⟨g,0,none⟩) N cp) (.int .i64 (i3:Int)) (.int .i64 (nd:Int)) (.int .i64 0) (.int .i64 (pa:Int)) (⟨kd,a.txt,true,k2.k.txt,a.nm,k2.k.nm,0⟩:Nd);have hd:∀X:World,Below X.heap.size X X.drew:=fun X=>(Below.refl _ _).drew;rw[hW9];exact⟨hf.1.below (hd _),hf.2.1.below (hd _),hf.2.2.trans ((hd _).mono hf.2.2.size)⟩
 have HR:Hid (ArgP base g cp N nd pa ks kd i w (.returned (.tuple #[parV g N cp (i3) nd 0 pa,Nd.v (⟨kd,a.txt,true,k2.k.txt,a.nm,k2.k.nm,0⟩:Nd)])) W9):=⟨HF.2.2,.inl ⟨i3,(⟨kd,a.txt,true,k2.k.txt,a.nm,k2.k.nm,0⟩:Nd),by rw[Hi3.out];exact HA5.out,by omega,by omega,rfl⟩⟩;obtain⟨p0,p1,p2,p3,p4⟩:=HF.1.c5;obtain⟨q0,q1,q2,q3,q4,q5,q6⟩:=HF.2.1.c7;unfold setN setP at hW9;simp only[yAc,patN,cntN,noS]at hW9 b0 b1 b2 b3 b4 b5 b6 q0 q1 q2 q3 q4 q5 q6;go_region;rw[←hW9];clear hW9 a0 a1 a2 a3 a4 b0 b1 b2 b3 b4 b5 b6 c0 c1 c2 c3 c4 d0 d1 d2 d3 d4 d5 d6 e0 e1 e2 e3 e4 f0 f1 f2 f3 f4 f5 f6;go_wp2_with fail;exact bodyPost_ret (v:=.tuple #[parV g N cp (i3) nd 0 pa,Nd.v (⟨kd,a.txt,true,k2.k.txt,a.nm,k2.k.nm,0⟩:Nd)]) (by simp[results,Tryz.results49,go_sem,p0,p1,p2,p3,p4,q0,q1,q2,q3,q4,q5,q6,yAc,patN,cntN,noS]) rfl HR.out):p:=h
theorem zzQ4 (h:p:=by
 go_wp2_with fail;go_loopw[6,7] (fun jv nv wr=>∃(j n:Nat) (f:UInt8→Bool),j≤p.size∧n≤j∧jv=.int .i64 (j:Int)∧nv=.int .i64 (n:Int)∧yCm (sb p) (i+1) false j (decide (0<n)) f∧wr=W0) (fun jv _ _=>p.size-(intOf jv).toNat);case atStart=>exact⟨j0,0,fun _=>false,hj0,Nat.zero_le _,congrArg (Value.int .i64) (by rw[HJ0.out];simp<;>omega),rfl,HM0.out,rfl⟩
 case round=>
  obtain⟨j,n,f,hj,hnj,rfl,rfl,hE,hwr⟩:=hrel;have HE:Hid (yCm (sb p) (i+1) false j (decide (0<n)) f):=hE;rw[hwr];clear hE hwr HM0 HJ0 HNG;by_cases hlt:j<p.size
  ·obtain⟨x,hx⟩:∃x,(sb p)[j]?=some x:=⟨_,List.getElem?_eq_getElem (by rw[yAn];exact hlt)⟩;obtain⟨_,gx⟩:=yD4 hx;have HX:Hid ((sb p)[j]?=some x):=hx;have zj:(j:Int)<(p.size:Int):=by omega
   clear hx;by_cases hend:x=93∧0<n
   ·obtain⟨rfl,hn0⟩:=hend;have zn:(0:Int)<(n:Int):=by omega
    have HF:Hid (∃f',yBa (sb p) (i+1)=.inl (f',j+1)):=by refine⟨if false=true then fun c=> !f c else f,?_⟩;rw[HE.eq,decide_eq_true hn0,yL4 HX.out]
    obtain⟨f',hf'⟩:=HF.out;have HF':Hid (yBa (sb p) (i+1)=.inl (f',j+1)):=hf';clear hf' HF;go_wp2_with fail;exact bodyPost_ret (v:=.tuple #[.int .i64 ((j+1:Nat):Int),.agg #[.int .i64 0,.int .i64 0]]) (yCt rfl rfl (HS.out (.int .i64 0) (.int .i64 0)).1) rfl ⟨.inl ⟨f',j+1,HF'.out,rfl⟩,(HS.out (.int .i64 0) (.int .i64 0)).2⟩
   ·have HG:Hid (clsM (sb p) j (decide (0<n)) f=match yCx (sb p) j with| .inr e=>.inr e| .inl (a,b,k)=>clsM (sb p) k true (wider f a b)):=yXi (by rw[yAn];omega) (fun q=>hend ⟨by have h1:=q.1;rw[HX.out]at h1;exact Option.some.inj h1,by simpa using q.2⟩);obtain⟨lo,k,b,hch⟩:∃lo k b,chM (sb p) j=(lo,k,b):=⟨_,_,_,rfl⟩;have HCh:Hid (chM (sb p) j=(lo,k,b)):=hch;have hkl:b=true→k≤p.size∧j<k:=fun q=>by subst q;have:=yJ0 hch;rw[yAn]at this;omega
    clear hch;have hpick:((x.toNat:Int)==93)=false∨(¬(0:Int)<(n:Int)):=by
     by_cases h93:x=93
     ·exact .inr (fun q=>hend ⟨h93,by omega⟩)
     ·exact .inl (beq_eq_false_iff_ne.2 (yFr (c:=93) h93))
    clear hend;have hpk:(((x.toNat:Int)==93)=false)∨(((x.toNat:Int)==93)=true∧n=0):=by
     rcases hpick with q|q
     ·exact .inl q
     ·cases hq:((x.toNat:Int)==93)
      ·exact .inl rfl
      ·exact .inr ⟨rfl,by omega⟩
    clear hpick;rcases hpk with h93|⟨h93,hn0⟩;case' inr=>
     have zn:¬(0:Int)<(n:Int):=by omega
     clear hn0
    all_goals
     go_wp2_with fail
     refine(yHn p j W0 hp (by omega) lo k b HCh.out).mono ?_
     rintro e w1 ⟨rfl,hw1⟩
     rw[hw1]
     clear hw1
     cases b
     case false=>
      have HF:Hid (yBa (sb p) (i+1)=.inr (2,k)):=by show yBa (sb p) (i+1)=_;rw[HE.eq,HG.out];unfold yCx;rw[HCh.out]
      go_wp2_with fail;exact bodyPost_ret (v:=.tuple #[.int .i64 0,.agg #[.int .i64 2,.int .i64 (k:Int)]]) (yCt rfl rfl (HS.out (.int .i64 2) (.int .i64 (k:Int))).1) rfl ⟨.inr ⟨2,k,HF.out,rfl⟩,(HS.out (.int .i64 2) (.int .i64 (k:Int))).2⟩
     obtain⟨hks,hjk⟩:=hkl rfl
     clear hkl
     by_cases h45:(sb p)[k]?=some 45
     ·obtain⟨hk2,gk⟩:=yD4 h45;have HK:Hid ((sb p)[k]?=some 45):=h45;have zk:(k:Int)<(p.size:Int):=by omega
      obtain⟨hh,m,b2,hch2⟩:∃hh m b2,chM (sb p) (k+1)=(hh,m,b2):=⟨_,_,_,rfl⟩;have HCh2:Hid (chM (sb p) (k+1)=(hh,m,b2)):=hch2;have hml:b2=true→m≤p.size∧k<m:=fun q=>by subst q;have:=yJ0 hch2;rw[yAn]at this;omega
      clear hch2 h45;go_wp2_with fail;refine(yHn p (k+1) W0 hp (by omega) hh m b2 HCh2.out).mono ?_;rintro e w2 ⟨rfl,hw2⟩;rw[hw2];clear hw2;cases b2
      ·have HF:Hid (yBa (sb p) (i+1)=.inr (2,m)):=by show yBa (sb p) (i+1)=_;rw[HE.eq,HG.out];unfold yCx;rw[HCh.out];simp only[];rw[if_pos HK.out,HCh2.out]
       go_wp2_with fail;exact bodyPost_ret (v:=.tuple #[.int .i64 0,.agg #[.int .i64 2,.int .i64 (m:Int)]]) (yCt rfl rfl (HS.out (.int .i64 2) (.int .i64 (m:Int))).1) rfl ⟨.inr ⟨2,m,HF.out,rfl⟩,(HS.out (.int .i64 2) (.int .i64 (m:Int))).2⟩
      ·obtain⟨hms,hkm⟩:=hml rfl;clear hml;by_cases hlo:hh<lo
       ·have zlo:(hh.toNat:Int)<(lo.toNat:Int):=by have:=UInt8.lt_iff_toNat_lt.1 hlo;omega
        have HF:Hid (yBa (sb p) (i+1)=.inr (4,j)):=by show yBa (sb p) (i+1)=_;rw[HE.eq,HG.out];unfold yCx;rw[HCh.out];simp only[];rw[if_pos HK.out,HCh2.out];simp only[];rw[if_pos hlo]
        go_wp2_with fail;exact bodyPost_ret (v:=.tuple #[.int .i64 0,.agg #[.int .i64 4,.int .i64 (j:Int)]]) (yCt rfl rfl (HS.out (.int .i64 4) (.int .i64 (j:Int))).1) rfl ⟨.inr ⟨4,j,HF.out,rfl⟩,(HS.out (.int .i64 4) (.int .i64 (j:Int))).2⟩
       ·have zlo:(lo.toNat:Int)≤(hh.toNat:Int):=by have:=UInt8.le_iff_toNat_le.1 (UInt8.not_lt.1 hlo);omega
        have HF:Hid (yCm (sb p) (i+1) false m true (wider f lo hh)):=by show yCm _ _ _ _ _ _;unfold yCm;rw[HE.eq,HG.out];unfold yCx;rw[HCh.out];simp only[];rw[if_pos HK.out,HCh2.out];simp only[];rw[if_neg hlo]
        clear hlo;go_wp2_with fail;go_roundw;case rel=>exact⟨m,n+1,wider f lo hh,hms,by omega,rfl,by go_num,by rw[decide_eq_true (Nat.succ_pos n)];exact HF.out,trivial⟩
        case measure=>simp[intOf];omega
     ·have HK:Hid (¬(sb p)[k]?=some 45):=h45;have HF:Hid (yCm (sb p) (i+1) false k true (wider f lo lo)):=by show yCm _ _ _ _ _ _;unfold yCm;rw[HE.eq,HG.out];unfold yCx;rw[HCh.out];simp only[];rw[if_neg HK.out]
      clear h45;by_cases hke:k<p.size
      ·obtain⟨y,hy⟩:∃y,(sb p)[k]?=some y:=⟨_,List.getElem?_eq_getElem (by rw[yAn];exact hke)⟩;obtain⟨_,gy⟩:=yD4 hy;have zk:(k:Int)<(p.size:Int):=by omega
       have zy:((y.toNat:Int)==45)=false:=beq_eq_false_iff_ne.2 (yFr (c:=45) (fun q=>HK.out (by rw[hy,q])));clear hy;go_wp2_with fail;go_roundw;case rel=>exact⟨k,n+1,wider f lo lo,hks,by omega,rfl,by go_num,by rw[decide_eq_true (Nat.succ_pos n)];exact HF.out,trivial⟩
       case measure=>simp[intOf];omega
      ·have zk:¬(k:Int)<(p.size:Int):=by omega
       go_wp2_with fail;go_roundw;case rel=>exact⟨k,n+1,wider f lo lo,hks,by omega,rfl,by go_num,by rw[decide_eq_true (Nat.succ_pos n)];exact HF.out,trivial⟩
       case measure=>simp[intOf];omega
  ·have HF:Hid (yBa (sb p) (i+1)=.inr (2,p.size)):=by show yBa (sb p) (i+1)=_;rw[HE.eq,clsM,dif_neg (by rw[yAn];exact hlt),yAn]
   have zj:¬(j:Int)<(p.size:Int):=by omega
   go_wp2_with fail;exact bodyPost_ret (v:=.tuple #[.int .i64 0,.agg #[.int .i64 2,.int .i64 (p.size:Int)]]) (yCt rfl rfl (HS.out (.int .i64 2) (.int .i64 (p.size:Int))).1) rfl ⟨.inr ⟨2,p.size,HF.out,rfl⟩,(HS.out (.int .i64 2) (.int .i64 (p.size:Int))).2⟩):p:=h
theorem zzQ5 (h:p:=by
 rw[hso]at zs';have HA4:Hid (yAv kd (ks.drop i)=.ok (ks.drop i2,(⟨kd,a.txt,false,noS,a.nm,0,0⟩:Nd))):=by show _=_;rw[HA3.out];unfold upM;rw[(yAh HK2.out).1,if_neg (by rw[hso];simp)]
 clear hso t1 t2;go_upto_region 38 with fail;clear t0 zs' a0 a1;obtain⟨a0,a1,a2,a3,a4⟩:=HJ2.p.c5;obtain⟨b0,b1,b2,b3,b4,b5,b6⟩:=HJ2.n.c7;obtain⟨c0,c1,c2,c3,c4⟩:=HJ2.rp.c5;obtain⟨d0,d1,d2,d3,d4,d5,d6⟩:=HJ2.rn.c7;obtain⟨e0,e1,e2,e3,e4⟩:=HJ2.rp.f5;obtain⟨f0,f1,f2,f3,f4,f5,f6⟩:=HJ2.rn.f7;obtain⟨W9,hW9⟩:∃V:World,V=(setN (setP V2 (w.heap.size+1) (.slice (some ⟨g,0,none⟩) N cp) (.int .i64 (i2:Int)) (.int .i64 (nd:Int)) (.int .i64 0) (.int .i64 (pa:Int))) (w.heap.size+2) (⟨kd,a.txt,false,noS,a.nm,0,0⟩:Nd)).drew:=⟨_,rfl⟩;have HF:Hid (yA W9 w.heap.size 41 5 (w.heap.size+1) [.slice (some ⟨g,0,none⟩) N cp,.int .i64 (i2:Int),.int .i64 (nd:Int),.int .i64 0,.int .i64 (pa:Int)]∧yA W9 w.heap.size 65 7 (w.heap.size+2) (Nd.seven (⟨kd,a.txt,false,noS,a.nm,0,0⟩:Nd))∧Below w.heap.size w W9):=by have hf:=HJ2.fin (.slice (some ⟨g,0,none⟩) N cp) (.int .i64 (i2:Int)) (.int .i64 (nd:Int)) (.int .i64 0) (.int .i64 (pa:Int)) (⟨kd,a.txt,false,noS,a.nm,0,0⟩:Nd);have hd:∀X:World,Below X.heap.size X X.drew:=fun X=>(Below.refl _ _).drew;rw[hW9];exact⟨hf.1.below (hd _),hf.2.1.below (hd _),hf.2.2.trans ((hd _).mono hf.2.2.size)⟩
 have HR:Hid (ArgP base g cp N nd pa ks kd i w (.returned (.tuple #[parV g N cp (i2) nd 0 pa,Nd.v (⟨kd,a.txt,false,noS,a.nm,0,0⟩:Nd)])) W9):=⟨HF.2.2,.inl ⟨i2,(⟨kd,a.txt,false,noS,a.nm,0,0⟩:Nd),HA4.out,by omega,by omega,rfl⟩⟩;obtain⟨p0,p1,p2,p3,p4⟩:=HF.1.c5;obtain⟨q0,q1,q2,q3,q4,q5,q6⟩:=HF.2.1.c7;unfold setN setP at hW9;simp only[yAc,patN,cntN,noS]at hW9 b0 b1 b2 b3 b4 b5 b6 q0 q1 q2 q3 q4 q5 q6;go_region;rw[←hW9];clear hW9 a0 a1 a2 a3 a4 b0 b1 b2 b3 b4 b5 b6 c0 c1 c2 c3 c4 d0 d1 d2 d3 d4 d5 d6 e0 e1 e2 e3 e4 f0 f1 f2 f3 f4 f5 f6;go_wp2_with fail;exact bodyPost_ret (v:=.tuple #[parV g N cp (i2) nd 0 pa,Nd.v (⟨kd,a.txt,false,noS,a.nm,0,0⟩:Nd)]) (by simp[results,Tryz.results49,go_sem,p0,p1,p2,p3,p4,q0,q1,q2,q3,q4,q5,q6,yAc,patN,cntN,noS]) rfl HR.out):p:=h
theorem zzQ6 (h:p:=by
 have HA2:Hid (yAv kd (ks.drop i)=yBy 3 (ks.drop i1)):=by show _=_;rw[HA.out];unfold yE9;rw[(yAh Hk.out).1,if_neg (by rw[hsg];simp)]
 clear hsg;obtain⟨cc,hcc⟩:=qE (if k1.k.isBad=true then 2 else 3:Int);have HFl:Hid (∀wx,Below v1.heap.size v1 wx→Calls Tryz.prog 46 #[parV g N cp (i1) nd 0 pa,.int .i64 3] wx fun e w'=>e=.returned (parV g N cp (i1) nd cc k1.pos)∧Below wx.heap.size wx w'):=fun wx hx=>by rw[hcc];exact yBd (HV.tk.below hx) H0.1 hl Hk.out nd 0 pa 3
 have HAE:Hid (yAv kd (ks.drop i)=.error (cc,k1.pos)∧1≤cc):=⟨by
  rw[HA2.out,hcc]
  unfold yBy
  rw[(yAh Hk.out).1,(yAh Hk.out).2.1],by rw[hcc];split<;>decide⟩
 clear hcc;go_upto_region 29 with fail;have hS0:SW (fun w':World=>w'.cell? ⟨w.heap.size,0,none⟩=some (.slice (some ⟨g,0,none⟩) N cp)∧w'.cell? ⟨w.heap.size,1,none⟩=some (.int .i64 ((i1:Nat):Int))∧w'.cell? ⟨w.heap.size,2,none⟩=some (.int .i64 (nd:Int))∧w'.cell? ⟨w.heap.size,3,none⟩=some (.int .i64 0)∧w'.cell? ⟨w.heap.size,4,none⟩=some (.int .i64 (pa:Int))∧w'.cell? ⟨w.heap.size+3,0,none⟩=some (.int .i64 kd)∧w'.cell? ⟨w.heap.size+3,1,none⟩=some (.string a.txt)∧w'.cell? ⟨w.heap.size+3,2,none⟩=some (.bool false)∧w'.cell? ⟨w.heap.size+3,3,none⟩=some (.string ⟨#[]⟩)∧w'.cell? ⟨w.heap.size+3,4,none⟩=some (.int .u64 a.nm)∧w'.cell? ⟨w.heap.size+3,5,none⟩=some (.int .u64 0)∧w'.cell? ⟨w.heap.size+3,6,none⟩=some (.int .i64 0)) v1.drew:=⟨HV.p.cell (j:=0) rfl,HV.p.cell (j:=1) rfl,HV.p.cell (j:=2) rfl,HV.p.cell (j:=3) rfl,HV.p.cell (j:=4) rfl,HV.n.cell (j:=0) rfl,HV.n.cell (j:=1) rfl,HV.n.cell (j:=2) rfl,HV.n.cell (j:=3) rfl,HV.n.cell (j:=4) rfl,HV.n.cell (j:=5) rfl,HV.n.cell (j:=6) rfl⟩;refine wpR 99 hS0 ?_;refine j4a 0 hS0 ?_;refine j4a 2 hS0 ?_;refine qO 1 rfl fun K hK=>?_;go_simp;go_at_call 46;refine(HFl.out v1.drew (Below.refl _ _).drew).mono ?_;rintro e w5 ⟨rfl,hb5⟩;have HJ5:Hid (AgJ w base g cp N nd pa ks (i1) (⟨kd,a.txt,false,noS,a.nm,0,0⟩:Nd) w5):=HV.up (((Below.refl _ _).drew).trans (hb5.mono (Nat.le_refl _)));have hS5:=SWm hS0 w5 <|⟨HJ5.p.cell (j:=0) rfl,HJ5.p.cell (j:=1) rfl,HJ5.p.cell (j:=2) rfl,HJ5.p.cell (j:=3) rfl,HJ5.p.cell (j:=4) rfl,HJ5.n.cell (j:=0) rfl,HJ5.n.cell (j:=1) rfl,HJ5.n.cell (j:=2) rfl,HJ5.n.cell (j:=3) rfl,HJ5.n.cell (j:=4) rfl,HJ5.n.cell (j:=5) rfl,HJ5.n.cell (j:=6) rfl⟩;refine hK.out _ _ (.inr hS5) ?_;clear hK hb5 HFl;refine jS ?_;obtain⟨c0,c1,c2,c3,c4⟩:=HJ5.rp.c5;obtain⟨e0,e1,e2,e3,e4⟩:=HJ5.rp.f5;obtain⟨W6,hW6⟩:∃V:World,V=setP w5 (w.heap.size+1) (.slice (some ⟨g,0,none⟩) N cp) (.int .i64 ((i1:Nat):Int)) (.int .i64 (nd:Int)) (.int .i64 cc) (.int .i64 (k1.pos:Int)):=⟨_,rfl⟩;have hc6:Chg (fun k=>k=w.heap.size+1) w5 W6:=by rw[hW6];exact yCp _ _ _ _ _ _ _
 have hp6:=HJ5.p.chg hc6 (by omega);have hn6:=HJ5.n.chg hc6 (by omega);have hr6:=HJ5.rn.chg hc6 (by omega);have hS6:=SWm hS5 W6 <|⟨hp6.cell (j:=0) rfl,hp6.cell (j:=1) rfl,hp6.cell (j:=2) rfl,hp6.cell (j:=3) rfl,hp6.cell (j:=4) rfl,hn6.cell (j:=0) rfl,hn6.cell (j:=1) rfl,hn6.cell (j:=2) rfl,hn6.cell (j:=3) rfl,hn6.cell (j:=4) rfl,hn6.cell (j:=5) rfl,hn6.cell (j:=6) rfl⟩;obtain⟨d0,d1,d2,d3,d4,d5,d6⟩:=hr6.c7;obtain⟨f0,f1,f2,f3,f4,f5,f6⟩:=hr6.f7;obtain⟨W9,hW9⟩:∃V:World,V=setN W6 (w.heap.size+2) (⟨kd,a.txt,false,noS,a.nm,0,0⟩:Nd):=⟨_,rfl⟩;have hc9:Chg (fun k=>k=w.heap.size+2) W6 W9:=by rw[hW9];exact yB2 _ _ _
 have hp9:=hp6.chg hc9 (by omega);have hn9:=hn6.chg hc9 (by omega);have hS9:=SWm hS6 W9 <|⟨hp9.cell (j:=0) rfl,hp9.cell (j:=1) rfl,hp9.cell (j:=2) rfl,hp9.cell (j:=3) rfl,hp9.cell (j:=4) rfl,hn9.cell (j:=0) rfl,hn9.cell (j:=1) rfl,hn9.cell (j:=2) rfl,hn9.cell (j:=3) rfl,hn9.cell (j:=4) rfl,hn9.cell (j:=5) rfl,hn9.cell (j:=6) rfl⟩;have HF:Hid (yA W9 w.heap.size 41 5 (w.heap.size+1) [.slice (some ⟨g,0,none⟩) N cp,.int .i64 ((i1:Nat):Int),.int .i64 (nd:Int),.int .i64 cc,.int .i64 (k1.pos:Int)]∧yA W9 w.heap.size 65 7 (w.heap.size+2) (Nd.seven (⟨kd,a.txt,false,noS,a.nm,0,0⟩:Nd))∧Below w.heap.size w W9):=by have hf:=HJ5.fin (.slice (some ⟨g,0,none⟩) N cp) (.int .i64 ((i1:Nat):Int)) (.int .i64 (nd:Int)) (.int .i64 cc) (.int .i64 (k1.pos:Int)) (⟨kd,a.txt,false,noS,a.nm,0,0⟩:Nd);rw[hW9,hW6];exact hf
 have HR:Hid (ArgP base g cp N nd pa ks kd i w (.returned (.tuple #[parV g N cp (i1) nd cc k1.pos,Nd.v (⟨kd,a.txt,false,noS,a.nm,0,0⟩:Nd)])) W9):=⟨HF.2.2,.inr ⟨cc,k1.pos,i1,(⟨kd,a.txt,false,noS,a.nm,0,0⟩:Nd),HAE.1,HAE.2,rfl⟩⟩;obtain⟨p0,p1,p2,p3,p4⟩:=HF.1.c5;obtain⟨q0,q1,q2,q3,q4,q5,q6⟩:=HF.2.1.c7;unfold setP at hW6;unfold setN at hW9;clear hp6 hn6 hr6 hp9 hn9 hc6 hc9;simp only[yAc,patN,cntN,noS]at hW9 q0 q1 q2 q3 q4 q5 q6;refine qO 3 rfl fun K hK=>?_;go_simp;rw[←hW6];refine hK.out _ _ (.inr hS6) ?_;clear hK hW6;refine jS ?_;refine qO 4 rfl fun K hK=>?_;go_simp;rw[←hW9];refine hK.out _ _ (.inr hS9) ?_;clear hK hW9;refine jS ?_;refine qD ?_;clear hS0 hS5 hS6 hS9 c0 c1 c2 c3 c4 d0 d1 d2 d3 d4 d5 d6 e0 e1 e2 e3 e4 f0 f1 f2 f3 f4 f5 f6;go_wp2_with fail;exact bodyPost_ret (v:=.tuple #[parV g N cp (i1) nd cc k1.pos,Nd.v (⟨kd,a.txt,false,noS,a.nm,0,0⟩:Nd)]) (by simp[results,Tryz.results49,go_sem,p0,p1,p2,p3,p4,q0,q1,q2,q3,q4,q5,q6,yAc,patN,cntN,noS]) rfl HR.out):p:=h
theorem zzQ7 (h:p:=by
 have HA2:Hid (yAv kd (ks.drop i)=yBy 3 (ks.drop i)):=by show _=_;rw[HA.out];unfold yE9;rw[(yAh Hk.out).1,if_neg (by rw[hsg];simp)]
 clear hsg;obtain⟨cc,hcc⟩:=qE (if k.k.isBad=true then 2 else 3:Int);have HFl:Hid (∀wx,Below v1.heap.size v1 wx→Calls Tryz.prog 46 #[parV g N cp (i) nd 0 pa,.int .i64 3] wx fun e w'=>e=.returned (parV g N cp (i) nd cc k.pos)∧Below wx.heap.size wx w'):=fun wx hx=>by rw[hcc];exact yBd (HV.tk.below hx) H0.1 hl Hk.out nd 0 pa 3
 have HAE:Hid (yAv kd (ks.drop i)=.error (cc,k.pos)∧1≤cc):=⟨by
  rw[HA2.out,hcc]
  unfold yBy
  rw[(yAh Hk.out).1,(yAh Hk.out).2.1],by rw[hcc];split<;>decide⟩
 clear hcc;go_upto_region 29 with fail;have hS0:SW (fun w':World=>w'.cell? ⟨w.heap.size,0,none⟩=some (.slice (some ⟨g,0,none⟩) N cp)∧w'.cell? ⟨w.heap.size,1,none⟩=some (.int .i64 ((i:Nat):Int))∧w'.cell? ⟨w.heap.size,2,none⟩=some (.int .i64 (nd:Int))∧w'.cell? ⟨w.heap.size,3,none⟩=some (.int .i64 0)∧w'.cell? ⟨w.heap.size,4,none⟩=some (.int .i64 (pa:Int))∧w'.cell? ⟨w.heap.size+3,0,none⟩=some (.int .i64 kd)∧w'.cell? ⟨w.heap.size+3,1,none⟩=some (.string a.txt)∧w'.cell? ⟨w.heap.size+3,2,none⟩=some (.bool false)∧w'.cell? ⟨w.heap.size+3,3,none⟩=some (.string ⟨#[]⟩)∧w'.cell? ⟨w.heap.size+3,4,none⟩=some (.int .u64 a.nm)∧w'.cell? ⟨w.heap.size+3,5,none⟩=some (.int .u64 0)∧w'.cell? ⟨w.heap.size+3,6,none⟩=some (.int .i64 0)) v1.drew:=⟨HV.p.cell (j:=0) rfl,HV.p.cell (j:=1) rfl,HV.p.cell (j:=2) rfl,HV.p.cell (j:=3) rfl,HV.p.cell (j:=4) rfl,HV.n.cell (j:=0) rfl,HV.n.cell (j:=1) rfl,HV.n.cell (j:=2) rfl,HV.n.cell (j:=3) rfl,HV.n.cell (j:=4) rfl,HV.n.cell (j:=5) rfl,HV.n.cell (j:=6) rfl⟩;refine wpR 99 hS0 ?_;refine j4a 0 hS0 ?_;refine j4a 2 hS0 ?_;refine qO 1 rfl fun K hK=>?_;go_simp;go_at_call 46;refine(HFl.out v1.drew (Below.refl _ _).drew).mono ?_;rintro e w5 ⟨rfl,hb5⟩;have HJ5:Hid (AgJ w base g cp N nd pa ks (i) (⟨kd,a.txt,false,noS,a.nm,0,0⟩:Nd) w5):=HV.up (((Below.refl _ _).drew).trans (hb5.mono (Nat.le_refl _)));have hS5:=SWm hS0 w5 <|⟨HJ5.p.cell (j:=0) rfl,HJ5.p.cell (j:=1) rfl,HJ5.p.cell (j:=2) rfl,HJ5.p.cell (j:=3) rfl,HJ5.p.cell (j:=4) rfl,HJ5.n.cell (j:=0) rfl,HJ5.n.cell (j:=1) rfl,HJ5.n.cell (j:=2) rfl,HJ5.n.cell (j:=3) rfl,HJ5.n.cell (j:=4) rfl,HJ5.n.cell (j:=5) rfl,HJ5.n.cell (j:=6) rfl⟩;refine hK.out _ _ (.inr hS5) ?_;clear hK hb5 HFl;refine jS ?_;obtain⟨c0,c1,c2,c3,c4⟩:=HJ5.rp.c5;obtain⟨e0,e1,e2,e3,e4⟩:=HJ5.rp.f5;obtain⟨W6,hW6⟩:∃V:World,V=setP w5 (w.heap.size+1) (.slice (some ⟨g,0,none⟩) N cp) (.int .i64 ((i:Nat):Int)) (.int .i64 (nd:Int)) (.int .i64 cc) (.int .i64 (k.pos:Int)):=⟨_,rfl⟩;have hc6:Chg (fun k=>k=w.heap.size+1) w5 W6:=by rw[hW6];exact yCp _ _ _ _ _ _ _
 have hp6:=HJ5.p.chg hc6 (by omega);have hn6:=HJ5.n.chg hc6 (by omega);have hr6:=HJ5.rn.chg hc6 (by omega);have hS6:=SWm hS5 W6 <|⟨hp6.cell (j:=0) rfl,hp6.cell (j:=1) rfl,hp6.cell (j:=2) rfl,hp6.cell (j:=3) rfl,hp6.cell (j:=4) rfl,hn6.cell (j:=0) rfl,hn6.cell (j:=1) rfl,hn6.cell (j:=2) rfl,hn6.cell (j:=3) rfl,hn6.cell (j:=4) rfl,hn6.cell (j:=5) rfl,hn6.cell (j:=6) rfl⟩;obtain⟨d0,d1,d2,d3,d4,d5,d6⟩:=hr6.c7;obtain⟨f0,f1,f2,f3,f4,f5,f6⟩:=hr6.f7;obtain⟨W9,hW9⟩:∃V:World,V=setN W6 (w.heap.size+2) (⟨kd,a.txt,false,noS,a.nm,0,0⟩:Nd):=⟨_,rfl⟩;have hc9:Chg (fun k=>k=w.heap.size+2) W6 W9:=by rw[hW9];exact yB2 _ _ _
 have hp9:=hp6.chg hc9 (by omega);have hn9:=hn6.chg hc9 (by omega);have hS9:=SWm hS6 W9 <|⟨hp9.cell (j:=0) rfl,hp9.cell (j:=1) rfl,hp9.cell (j:=2) rfl,hp9.cell (j:=3) rfl,hp9.cell (j:=4) rfl,hn9.cell (j:=0) rfl,hn9.cell (j:=1) rfl,hn9.cell (j:=2) rfl,hn9.cell (j:=3) rfl,hn9.cell (j:=4) rfl,hn9.cell (j:=5) rfl,hn9.cell (j:=6) rfl⟩;have HF:Hid (yA W9 w.heap.size 41 5 (w.heap.size+1) [.slice (some ⟨g,0,none⟩) N cp,.int .i64 ((i:Nat):Int),.int .i64 (nd:Int),.int .i64 cc,.int .i64 (k.pos:Int)]∧yA W9 w.heap.size 65 7 (w.heap.size+2) (Nd.seven (⟨kd,a.txt,false,noS,a.nm,0,0⟩:Nd))∧Below w.heap.size w W9):=by have hf:=HJ5.fin (.slice (some ⟨g,0,none⟩) N cp) (.int .i64 ((i:Nat):Int)) (.int .i64 (nd:Int)) (.int .i64 cc) (.int .i64 (k.pos:Int)) (⟨kd,a.txt,false,noS,a.nm,0,0⟩:Nd);rw[hW9,hW6];exact hf
 have HR:Hid (ArgP base g cp N nd pa ks kd i w (.returned (.tuple #[parV g N cp (i) nd cc k.pos,Nd.v (⟨kd,a.txt,false,noS,a.nm,0,0⟩:Nd)])) W9):=⟨HF.2.2,.inr ⟨cc,k.pos,i,(⟨kd,a.txt,false,noS,a.nm,0,0⟩:Nd),HAE.1,HAE.2,rfl⟩⟩;obtain⟨p0,p1,p2,p3,p4⟩:=HF.1.c5;obtain⟨q0,q1,q2,q3,q4,q5,q6⟩:=HF.2.1.c7;unfold setP at hW6;unfold setN at hW9;clear hp6 hn6 hr6 hp9 hn9 hc6 hc9;simp only[yAc,patN,cntN,noS]at hW9 q0 q1 q2 q3 q4 q5 q6;refine qO 3 rfl fun K hK=>?_;go_simp;rw[←hW6];refine hK.out _ _ (.inr hS6) ?_;clear hK hW6;refine jS ?_;refine qO 4 rfl fun K hK=>?_;go_simp;rw[←hW9];refine hK.out _ _ (.inr hS9) ?_;clear hK hW9;refine jS ?_;refine qD ?_;clear hS0 hS5 hS6 hS9 c0 c1 c2 c3 c4 d0 d1 d2 d3 d4 d5 d6 e0 e1 e2 e3 e4 f0 f1 f2 f3 f4 f5 f6;go_wp2_with fail;exact bodyPost_ret (v:=.tuple #[parV g N cp (i) nd cc k.pos,Nd.v (⟨kd,a.txt,false,noS,a.nm,0,0⟩:Nd)]) (by simp[results,Tryz.results49,go_sem,p0,p1,p2,p3,p4,q0,q1,q2,q3,q4,q5,q6,yAc,patN,cntN,noS]) rfl HR.out):p:=h
theorem zzQ8 (h:p:=by clear hB9 HR;simp only[set7]at hWF;simp only at k0 k1 k2 k3 k4 k5 k6 l0 l1 l2 l3 l4 l5 l6 p0 p1 p2 p3 p4 p5 p6;go_wp2_with fail;rw[←hWF];exact bodyPost_ret (by simp[results,Tryz.results118,go_sem,p0,p1,p2,p3,p4,p5,p6]) rfl HRH.out):p:=h
theorem zzQ9 (h:p:=by
 go_loopw[4,5] (fun nv iv wr=>∃(i v:Nat),iv=.int .i64 (i:Int)∧nv=.int .u64 (v:Int)∧i≤n∧v<18446744073709551616∧v=decV (d.take i)∧wr=w) (fun _ iv _=>n-(intOf iv).toNat);case atStart=>exact⟨0,0,rfl,rfl,Nat.zero_le _,by omega,rfl,rfl⟩
 case round=>
  obtain⟨i,v,rfl,rfl,hi,hv,hV,rfl⟩:=hrel;have HV:Hid (v=decV (d.take i)):=hV;clear hV;by_cases hin:i<n
  ·have zi:(i:Int)<(n:Int):=by omega
   obtain⟨x,hx⟩:∃x,d[i]?=some x:=⟨_,List.getElem?_eq_getElem (by have:=HN.out;omega)⟩;have cx:=HD.1 i x hx;have hdx:yA1 x=true:=HD.2 x (List.mem_of_getElem? hx);have hdx2:48≤x.toNat∧x.toNat≤57:=by unfold yA1 at hdx;simpa using hdx
   obtain⟨m,hm⟩:=qE x.toNat;have HS:Hid (decV (d.take (i+1))=10*v+(m-48)):=by show _=_;rw[List.take_add_one,hx,Option.toList,yTk,HV.out,hm]
   unfold ub at cx;rw[←hm]at cx hdx2;have y1:¬(m:Int)<48:=by omega
   have y2:¬(57:Int)<(m:Int):=by omega
   clear hx hdx hm;by_cases hov:18446744073709551615<10*v+(m-48)
   ·have y3:(18446744073709551615-((m:Int)-48)).tdiv 10<(v:Int):=by rw[Int.tdiv_eq_ediv_of_nonneg (by omega)];omega
    have HO:Hid (numM d=none):=by show _=_;unfold numM;rw[if_neg HB.out,if_neg];have h9:=yTj d (i+1);have h8:=HS.out;omega
    go_wp2_with fail;exact bodyPost_ret (v:=.tuple #[.bool false,.int .u64 0]) (by simp[results,Tryz.results53,go_sem]) rfl ⟨rfl,.inr ⟨HO.out,rfl⟩⟩
   ·have y3:¬(18446744073709551615-((m:Int)-48)).tdiv 10<(v:Int):=by rw[Int.tdiv_eq_ediv_of_nonneg (by omega)];omega
    go_wp2_with fail;go_roundw;case rel=>exact⟨i+1,10*v+(m-48),by go_num,by go_num,by omega,by omega,HS.symm,by first|rfl|trivial⟩
    case measure=>simp[intOf];omega
  ·have zi:¬(i:Int)<(n:Int):=by omega
   have HO:Hid (numM d=some v):=by show _=_;have h9:=HV.out;rw[List.take_of_length_le (by have:=HN.out;omega)]at h9;unfold numM;rw[if_neg HB.out,if_pos (by omega),h9]
   go_wp2_with fail;exact bodyPost_ret (v:=.tuple #[.bool true,.int .u64 (v:Int)]) (by simp[results,Tryz.results53,go_sem]) rfl ⟨rfl,.inl ⟨v,HO.out,rfl⟩⟩):p:=h
theorem yUb (h:p:=by
 go_upto_region 4 with fail;have hci:¬cap=i:=by omega
 have zij:(i:Int)≤(j:Int):=by omega
 have zjc:(j:Int)≤(cap:Int):=by omega
 have hS0:SW (fun w':World=>w'.cell? ⟨g,0,none⟩=some (.slice (some ⟨b,off,none⟩) n cap)∧w'.cell? ⟨g,1,none⟩=some (.int .i64 (i:Int))∧yAe w' b off t) w.drew:=⟨c0,c1,HT.2⟩;refine wpR 99 hS0 ?_;refine j3a 0 hS0 ?_;iterate 8 refine j3b hS0 ?_
 refine j3a 9 hS0 (v:=(.slice (some ⟨b,off+i,none⟩) (j-i) (cap-i))) ?_;refine j10a 10 hS0 (v:=(.string (strL wd))) ?_;refine j3b hS0 ?_;refine qD ?_;go_wp2_with fail;go_ret;exact⟨by rw[HWF.out];rfl,(Below.refl _ _).drew⟩):p:=h
theorem yUa (h:p:=by
 intro g' cp' w' hW' hgr hat;have hgr2:W2.grownBy w' (some g):=by first|exact hgr|(rw[hW2];exact hgr)
 have HR:Hid (LoJ xs u1 base cb bv w gb ob b g' cp' (n+1) (X++ [32]) w'∧looI xs b s (i+1)=(X++ [32],false,u1)):=⟨HW2.1.app (by first|exact hW'|(rw[List.append_nil];exact hW')) hgr2 (by rw[List.length_append,←HJ.len];rfl),HQ2.out⟩;clear hW' hgr hgr2 hat hW2;go_wp2_with fail;go_roundw;case rel=>exact⟨i+1,g',cp',n+1,X++ [32],false,u1,by omega,by first|rfl|go_num|(congr 1;omega),rfl,rfl,by omega,HR.2,HR.1⟩
 case measure=>simp[intOf];omega):p:=h
theorem zzQ12 (h:p:=by
 have z3:(k:Int)<256:=by omega
 obtain⟨v,hv⟩:∃v,(setA (fun c=>f c || (decide (a≤c) && decide (c.toNat<k)))).toList[k]?=some v:=⟨_,yG8 _ k (by omega)⟩;have d0:=HR.1.cell hv;have f0:=HR.1.frozen k;have HN:Hid (yBe (wr.setCell ⟨w.heap.size,k,none⟩ (.bool true)) w.heap.size w.heap.size (fun c=>f c || (decide (a≤c) && decide (c.toNat<k+1)))∧yBe (wr.setCell ⟨w.heap.size,k,none⟩ (.bool true)) w.heap.size (w.heap.size+1) (fun _=>false)∧PrAt (wr.setCell ⟨w.heap.size,k,none⟩ (.bool true)) base g p k5 o∧Chg (fun k=>k=g) w (wr.setCell ⟨w.heap.size,k,none⟩ (.bool true))):=by
  refine⟨?_,yA.beside HR.2.1 (by omega) k _,yA.beside HR.2.2.1 (by omega) k _,HR.2.2.2.absorb (Chg.of_set wr w.heap.size k _ (S:=fun q=>q=w.heap.size) rfl) (fun j q=>.inr (by omega))⟩;have h5:=HR.1.set k (.bool true);rw[yO4 _ k true (by omega)]at h5;have hn:(UInt8.ofNat k).toNat=k:=by rw[UInt8.toNat_ofNat'];omega
  refine yBe.ext h5 (fun c=>?_);by_cases hc:c=UInt8.ofNat k
  ·have h6:a≤c:=UInt8.le_iff_toNat_le.2 (by rw[hc,hn];exact hk0);rw[if_pos hc,decide_eq_true h6,decide_eq_true (show c.toNat<k+1 by rw[hc,hn];omega)];simp
  ·rw[if_neg hc];have h6:¬c.toNat=k:=fun q=>hc (UInt8.toNat_inj.1 (by rw[hn];exact q));rw[show decide (c.toNat<k+1)=decide (c.toNat<k)from decide_eq_decide.2 ⟨fun q=>by omega,fun q=>by omega⟩]
 clear hv HR;go_wp2_with fail;go_roundw;case rel=>exact⟨k+1,by omega,by omega,by go_num,HN.1,HN.2.1,HN.2.2.1,HN.2.2.2⟩
 case measure=>simp[intOf];omega):p:=h
theorem yU (h:p:=by
 intro g' cp' w' hO' hgr hat;have hgr2:W2.grownBy w' (some g):=by first|exact hgr|(rw[hW2];exact hgr)
 have HA:Hid (yBs w' w.heap.size g' cp' (out++ [⟨.bad,i⟩])∧Below w.heap.size w w'):=⟨hO',HW2.2.1.grown hgr2 (by omega) (fun j hj=>by cases hj;exact hgl.1)⟩;clear hO' hgr hgr2 hat hW2;have HR:Hid (LxP t w (.returned (.slice (some ⟨g',0,none⟩) (m+1) cp')) w'):=HJ.bad HX.out Hn32.out HTn.out HA.1 HA.2 rfl;clear HA;go_wp2_with fail;go_ret;exact HR.out):p:=h
theorem zzQ14 (h:p:=by
 have h3':k3.k.isSort strs=false:=by simpa using h3
 rw[h3']at zK;clear h3;have HA4:Hid (yCe s (yB kd strs s.ks)=.ok (s3,(⟨kd,a.k.txt,false,noS,a.k.nm,0,0⟩:Nd))):=by show _=_;rw[HA3.out,upF,if_neg (by rw[H4.2.2.2];show¬k3.k.isSort strs=true;rw[h3'];simp)];rfl
 clear h3';have hne:¬w3.heap.size=w.heap.size:=by have:=HJ3.lt;omega
 go_upto_region 10 with fail;obtain⟨l0,l1,l2,l3,l4,l5,l6⟩:=H4.1.res.c7;obtain⟨f0,f1,f2,f3,f4,f5,f6⟩:=H4.1.res.f7;obtain⟨c0,c1,c2,c3,c4,c5,c6⟩:=H4.2.1.c7;obtain⟨W9,hW9⟩:∃V:World,V=setN W4 w.heap.size ((⟨kd,a.k.txt,false,noS,a.k.nm,0,0⟩:Nd)):=⟨_,rfl⟩;have hB9:=H4.1.res.setN ((⟨kd,a.k.txt,false,noS,a.k.nm,0,0⟩:Nd));rw[←hW9]at hB9;have hc9:Chg (fun q=>q=w.heap.size) W4 W9:=by rw[hW9];exact yB2 _ _ _
 have HR:Hid (BehP base g b off n cap t d (fun r=>r=yCe s (yB kd strs s.ks)) nv w (.returned ((⟨kd,a.k.txt,false,noS,a.k.nm,0,0⟩:Nd)).v) W9):=H4.1.fin (by show _=_;rw[HA4.out]) hc9;obtain⟨q0,q1,q2,q3,q4,q5,q6⟩:=hB9.c7;unfold setN at hW9;simp only[noS]at hW9 q0 q1 q2 q3 q4 q5 q6;clear hB9 hc9;go_wp2_with fail;rw[←hW9];exact bodyPost_ret (v:=((⟨kd,a.k.txt,false,noS,a.k.nm,0,0⟩:Nd)).v) (by simp[results,Tryz.results129,go_sem,q0,q1,q2,q3,q4,q5,q6,noS]) rfl HR.out):p:=h
theorem zzQ15 (h:p:=by
 have hd2:decide (a.k.nm<k3.k.nm)=false:=decide_eq_false hl2;have e4:=H4.1.low.cell (j:=4) rfl;have e3:=H4.1.low.cell (j:=3) rfl;have e6:=H4.1.fp.fs.cell (j:=6) rfl;have e5:=H4.1.fp.fs.cell (j:=5) rfl;have hS0:SW (fun w':World=>w'.cell? ⟨w.heap.size+1,4,none⟩=some (.string a.k.txt)∧w'.cell? ⟨w.heap.size+1,3,none⟩=some (.int .u64 a.k.nm)∧w'.cell? ⟨g,6,none⟩=some (.string k3.k.txt)∧w'.cell? ⟨g,5,none⟩=some (.int .u64 k3.k.nm)) W4.drew:=⟨e4,e3,e6,e5⟩;clear e3 e4 e5 e6;refine wpR 99 hS0 ?_;refine j0a 0 hS0 ?_;iterate 7 refine j0b hS0 ?_
 refine j0a 8 hS0 (v:=(.bool false)) ?_;iterate 8 refine j0b hS0 ?_
 refine j0a 17 hS0 (v:=(.bool false)) ?_;refine j0b hS0 ?_;refine qO 19 rfl fun K hK=>?_;go_simp;go_at_call 27;have HD:Hid (BehP base g b off n cap t d (fun r=>r=yCe s (yB kd strs s.ks)) nv w (Pf 7 (k3.pos:Int)) W4.drew):=H4.1.die (Chg.of_below (Below.refl _ _).drew) (by show _=_;rw[HA5.out,if_neg (by intro z;rcases z with z|z<;>simp_all[less])];rfl);refine(yEg (H4.1.fp.below (Below.refl _ _).drew) 7).mono ?_;rintro e w5 ⟨rfl,hw5⟩;rw[hw5];clear hw5 hK;exact⟨rfl,HD.out⟩):p:=h
theorem yX2 (h:p:=by
 intro g' cp' w' hW' hgr hat;have hgr2:W2.grownBy w' (some g):=by first|exact hgr|(rw[hW2];exact hgr)
 have HR:Hid (LoJ xs u1 base cb bv w gb ob b g' cp' (n+2) (X++ [32,32]) w'∧looI xs b s (i+1)=(X++ [32,32],false,u1)):=⟨HW2.1.app (by first|exact hW'|(rw[List.append_nil];exact hW')) hgr2 (by rw[List.length_append,←HJ.len];rfl),HQ2.out⟩;clear hW' hgr hgr2 hat hW2;go_wp2_with fail;go_roundw;case rel=>exact⟨i+1,g',cp',n+2,X++ [32,32],false,u1,by omega,by first|rfl|go_num|(congr 1;omega),rfl,rfl,by omega,HR.2,HR.1⟩
 case measure=>simp[intOf];omega):p:=h
theorem yP3 (h:p:=by
 rcases h.2 with⟨h0,_⟩|⟨g',cap',cur,hv,_,_,hn,hcap,_,_⟩
 ·cases h0
 ·simp only[Value.slice.injEq,Option.some.injEq,Addr.mk.injEq,and_true,true_and]at hv;obtain⟨rfl,rfl⟩:=hv;exact⟨hn,hcap⟩):p:=h
theorem zzQ18 (h:p:=by
 have zqu2:=HQu2.1.out.lt;have yqu2:=HQu2.1.out.le;clear hqb hqW hqu2 eu2;go_wp2_with (at_builtin;refine yAa _ rfl _ _ rfl (w.heap.size+1) G4 cp4 n4 qgu2 0 qlu2 qcu2 X4 QLu2 rfl rfl HN4.out HQu2.2.2 HQu2.1.out HQu2.2.1.at_ ?hlu2 ?hbu2 ?_);case hlu2=>omega
 case hbu2=>omega
 intro G5 cp5 W5 hW5 hgr5 hat;obtain⟨X5,hX5⟩:∃X5:List UInt8,X5=X4++QLu2:=⟨_,rfl⟩;have HX5:Hid (X5=X4++QLu2):=hX5;have x5':X5.length≤X4.length+300000:=by rw[hX5,List.length_append];omega
 have HJ5:Hid (LtJ w vs G5 cp5 X5 W5):=HQu2.1.app (by rw[hX5];exact hW5) hgr5;obtain⟨n5,hn5⟩:=qE X5.length;have HN5:Hid (n5=X5.length):=hn5;have he5:n4+qlu2=n5:=by rw[hn5,hX5,List.length_append,←HN4.out,←HQu2.2.2]
 try rw[he5]
 clear hW5 hgr5 hat hX5 hn5 he5;have HY:Hid (Y=X5):=by show _=_;have h1:=HE1.out;have h2:=HE2.out;rw[HY0.out,HX5.out,HQLu2.out,HX4.out,HX3.out,HQLs1.out,HX2.out,HX1.out,HB.out];simp only[yBi,yEd];rw[h1,h2];simp[yA8,bl]
 go_wp2_with fail;go_ret;exact HJ5.done HN5.out HY.out):p:=h
theorem zzQ19 (h:p:=by
 have zqu1:=HQu1.1.out.lt;have yqu1:=HQu1.1.out.le;clear hqb hqW hqu1 eu1;go_wp2_with (at_builtin;refine yAa _ rfl _ _ rfl (w.heap.size+1) G3 cp3 (N1+1+2) qgu1 0 qlu1 qcu1 X3 QLu1 rfl rfl HN3.out HQu1.2.2 HQu1.1.out HQu1.2.1.at_ ?hlu1 ?hbu1 ?_);case hlu1=>omega
 case hbu1=>omega
 intro G4 cp4 W4 hW4 hgr4 hat;obtain⟨X4,hX4⟩:∃X4:List UInt8,X4=X3++QLu1:=⟨_,rfl⟩;have HX4:Hid (X4=X3++QLu1):=hX4;have x4':X4.length≤X3.length+300000:=by rw[hX4,List.length_append];omega
 have HJ4:Hid (LtJ w vs G4 cp4 X4 W4):=HQu1.1.app (by rw[hX4];exact hW4) hgr4;obtain⟨n4,hn4⟩:=qE X4.length;have HN4:Hid (n4=X4.length):=hn4;have he4:N1+1+2+qlu1=n4:=by rw[hn4,hX4,List.length_append,←HN3.out,←HQu1.2.2]
 try rw[he4]
 clear hW4 hgr4 hat hX4 hn4 he4;have HY:Hid (Y=X4):=by show _=_;have h1:=HE1.out;have h2:=HE2.out;rw[HY0.out,HX4.out,HQLu1.out,HX3.out,HX2.out,HX1.out,HB.out];simp only[yBi,yEd];rw[h1,h2];simp[yA8,bl]
 go_wp2_with fail;go_ret;exact HJ4.done HN4.out HY.out):p:=h
theorem yP2 (h:p:=by
 try rw[←hn8]
 clear hW8 hgr8 hat8 hX8 hn8;go_wp2_with fail;go_roundw;case rel=>exact⟨j+1,og3,oc3,n8,X8,by omega,by go_num,by first|rfl|(rw[hn8]),HN8.out,HX8,HR8⟩
 case measure=>simp[intOf];omega):p:=h
theorem zzQ21 (h:p:=by obtain⟨x2,s2,h2⟩:∃x2 s2,byF xs s1=(x2,s2):=⟨_,_,rfl⟩;obtain⟨x3,s3,h3⟩:∃x3 s3,byF xs s2=(x3,s3):=⟨_,_,rfl⟩;have hx2:=yMb xs s1;have hx3:=yMb xs s2;rw[h2]at hx2;rw[h3]at hx3;simp only at hx1 hx2 hx3;unfold belF at he;rw[if_neg hs]at he;simp only[h1,h2,h3,Prod.mk.injEq]at he;obtain⟨rfl,rfl⟩:=he;have HB:Hid (byF xs s=(x1,s1)∧byF xs s1=(x2,s2)∧byF xs s2=(x3,s3)):=⟨h1,h2,h3⟩;clear h1 h2 h3;go_enter Tryz.func43,Tryz.ntmps43;go_wp2_with fail;refine(yIz HD.out HB.1).mono ?_;rintro e w1 ⟨rfl,hd1⟩;have H1:Hid (yBq xs s1 base cb bv w w1):=hd1;clear hd1;go_wp2_with fail;refine(yIz H1.1 HB.2.1).mono ?_;rintro e w2 ⟨rfl,hd2⟩;have H2:Hid (yBq xs s2 base cb bv w w2):=⟨hd2.1,H1.2.trans hd2.2⟩;clear hd2;go_wp2_with fail;refine(yIz H2.1 HB.2.2).mono ?_;rintro e w3 ⟨rfl,hd3⟩;have H3:Hid (yBq xs s3 base cb bv w w3):=⟨hd3.1,H2.2.trans hd3.2⟩;clear hd3;go_wp2;go_ret;exact⟨rfl,H3.out⟩):p:=h
theorem zzQ22 (h:p:=by
 go_enter Tryz.func90,Tryz.ntmps90;go_wp2_with fail;refine(HC.out w HEr.out).mono ?_;rintro e w1 ⟨hb1,(⟨hv,rfl⟩|⟨hv,N,rfl⟩)⟩
 ·have HB1:Hid (Below w.heap.size w w1∧numM d=some v):=⟨hb1,by rw[HN.out,if_pos hv]⟩;clear hb1 HC hv;go_wp2_with fail;go_quiet (fail);go_wp2_with fail;exact bodyPost_ret (v:=.tuple #[.int .u64 (v:Int),.bool true]) (by simp[results,Tryz.results90,go_sem]) rfl ⟨by first|exact HB1.1|exact HB1.1.trans ((below_drewN (Below.refl _ _) _).mono HB1.1.size),.inl ⟨v,HB1.2,rfl⟩⟩
 ·have HB1:Hid (Below w.heap.size w w1∧numM d=none):=⟨hb1,by rw[HN.out,if_neg hv]⟩;clear hb1 HC hv;go_wp2_with fail;go_quiet (fail);go_wp2_with fail;exact bodyPost_ret (v:=.tuple #[.int .u64 18446744073709551615,.bool false]) (by simp[results,Tryz.results90,go_sem]) rfl ⟨by first|exact HB1.1|exact HB1.1.trans ((below_drewN (Below.refl _ _) _).mono HB1.1.size),.inr ⟨HB1.2,_,rfl⟩⟩):p:=h
theorem yH0 (h:p:=by go_enter Tryz.func87,Tryz.ntmps87;go_wp2_with fail;go_ret;exact⟨rfl,rfl⟩):p:=h
theorem zzQ24 (h:p:=by refine wpQuiet_nil ?_;rintro w1 ⟨⟨wx,hb1⟩,rfl⟩;have HJ1:=fin w1 hb1;clear e0 e1 HI hb1 fin HX;have b0:=HJ1.box.cell (j:=0) rfl;have r0:=HJ1.res.cell (j:=0) rfl;have rf:=HJ1.res.frozen 0;go_wp2_with fail;refine bodyPost_ret (v:=.agg #[.slice va us.length vc]) (by simp[results,Tryz.results152,go_sem,World.cell?_setCell_same _ _ _ r0]) rfl ?_;have hc:=Chg.of_set w1 w.heap.size 0 (.slice va us.length vc) (S:=fun j=>j=w.heap.size) rfl;refine⟨HJ1.chg.absorb hc (fun j q=>.inr (by omega)),.inl ⟨k,ts,_,HJ1.ok,HE.out,rfl,?_,yA.chg HJ1.rd hc (by omega)⟩⟩;refine(HJ1.row.seq HJ1.len (R:=fun j=>w.heap.size+2≤j) (fun i x t hx ht=>(HJ1.nodes i x t hx ht).move (S:=fun _=>False) (Chg.refl _ _) (fun _ q=>q.elim) (fun _ _ q=>q.1)) (fun j hj=>(World.ownsRow.lt HJ1.row j hj).1)).move hc (fun j q=>by subst q;exact fun z=>by omega) (fun j hj z=>⟨by omega,by have:=hc.size;omega⟩)):p:=h
theorem yT9 (h:p:=by have HRH:Hid (FilF xs (limF xs) s base cb bv 1000 w (.returned (.agg #[.slice (some ⟨g,0,none⟩) (len) cp])) WF):=HRes;have r0:=HJ.res.cell (j:=0) rfl;have rf:=HJ.res.frozen 0;clear HRes;go_wp2_with fail;rw[←hWF];exact bodyPost_ret (by simp[results,Tryz.results68,go_sem,p0]) rfl HRH.out):p:=h
theorem zzQ26 (h:p:=by
 obtain⟨W3,hW3⟩:=qE (W2.setCell ⟨wr.heap.size,2,none⟩ (.int .i64 ((x.nest:Int)+1)):World);have HK3:Hid (SoK w e WB wr.heap.size x.valid a x (x.nest+1) W3):=by rw[hW3];exact HK2.more (x.nest+1)
 go_upto_region 8 with fail;rw[←hW3];clear hW3 m0 o1 o2 o2f w2 w2f HK2;have o2:=HK3.ob.cell (j:=2) rfl;have w2:=HK3.so.whole.cell (j:=2) rfl;have w2f:=HK3.so.whole.frozen 2;obtain⟨a2,ha2⟩:=qE (max a (x.nest+1));have HFin:Hid (yBw e.kind (j+1) a2 (os.drop (j+1))=tot∧a2≤2000):=⟨fin a2 (by rw[ha2,hlv];rfl),by omega⟩;have ha3:max (a:Int) ((x.nest:Int)+1)=(a2:Int):=by omega
 clear fin hlv ha2;go_wp2_with fail;go_roundw;case rel=>
  refine⟨j+1,a2,x.valid,by go_num,by omega,HFin.2,HVn.out,HFin.1,?_⟩;exact HK3.done a2
 case measure=>simp[intOf];omega):p:=h
theorem zzQ27 (h:p:=by
 obtain⟨W3,hW3⟩:=qE (W2.setCell ⟨wr.heap.size,2,none⟩ (.int .i64 ((x.nest:Int)+1)):World);have HK3:Hid (SoK w e WB wr.heap.size false a x (x.nest+1) W3):=by rw[hW3];exact HK2.more (x.nest+1)
 go_upto_region 8 with fail;rw[←hW3];clear hW3 m0 o1 o2 o2f w2 w2f HK2;have o2:=HK3.ob.cell (j:=2) rfl;have w2:=HK3.so.whole.cell (j:=2) rfl;have w2f:=HK3.so.whole.frozen 2;obtain⟨a2,ha2⟩:=qE (max a (x.nest+1));have HFin:Hid (yBw e.kind (j+1) a2 (os.drop (j+1))=tot∧a2≤2000):=⟨fin a2 (by rw[ha2,hlv];rfl),by omega⟩;have ha3:max (a:Int) ((x.nest:Int)+1)=(a2:Int):=by omega
 clear fin hlv ha2;go_wp2_with fail;go_roundw;case rel=>
  refine⟨j+1,a2,false,by go_num,by omega,HFin.2,HVn.out,HFin.1,?_⟩;exact HK3.done a2
 case measure=>simp[intOf];omega):p:=h
theorem zzQ28 (h:p:=by
 intro g' cp' w' hW' hgr hat;have HR:Hid (WrB w' w.heap.size g' cp' (X++ [92,120,d1,d2])∧Below w.heap.size w w'∧n+4=(X++ [92,120,d1,d2]).length∧X++ [92,120,d1,d2]= [34]++quoL ((bl s).take (k+1))):=⟨hW',WrB.next HW2.2.1 (by omega) hge hgr,by rw[List.length_append,←HW.2.2];rfl,by rw[HX2.out,HQ.out]⟩;refine hK.out _ _ (.inr trivial) ?_;clear hK hW' hgr hat hW2;try simp only[qA]
 refine qO 11 rfl fun K hK=>?_;go_simp;refine hK.out _ _ (.inl rfl) ?_;clear hK;try simp only[qA]
 refine qD ?_;go_wp2_with fail;go_roundw;case rel=>exact⟨k+1,g',cp',n+4,X++ [92,120,d1,d2],by omega,by go_num,rfl,HR.2.2.1,by omega,HR.2.2.2,HR.1,HR.2.1⟩
 case measure=>simp[intOf];omega):p:=h
theorem yQ9 (h:p:=by clear ret;go_wp2_with fail;exact bodyPost_ret (v:=.tuple #[.bool false,.string ⟨#[]⟩,.int .i64 (j:Int)]) (by simp[results,Tryz.results54,go_sem]) rfl HR.out):p:=h
theorem yX1 (h:p:=by obtain⟨q0,q1,q2,q3,q4,q5,q6⟩:=hB9.c7;unfold setN at hW9;simp only[yAc,patN,cntN,noS]at hW9 q0 q1 q2 q3 q4 q5 q6;clear hB9 hc9;go_wp2_with fail;rw[←hW9];exact bodyPost_ret (v:=((⟨nk,ns,nh,nt,nl,nu,nn⟩:Nd)).v) (by simp[results,Tryz.results117,go_sem,q0,q1,q2,q3,q4,q5,q6,yAc,patN,cntN,noS]) rfl HR.out):p:=h
theorem yT8 (h:p:=by have hfd:=yUr c k;go_wp2_with fail;refine(HC.out _).mono ?_;rintro r w2 ⟨rfl,hb2⟩;clear c0 c1 c2 c3 c4 c5 c6;go_wp2_with fail;go_ret;exact⟨_,rfl,by rw[HF.out];simp,HW0.2.trans (hb2.mono hbw)⟩):p:=h
theorem yX0 (h:p:=by
 have HTk:Hid (tokF (t.drop p)=none):=by show _=_;rw[HT0.out,hk];rfl
 have HD:Hid (NxtP base g b off n cap vs t ks w (Pf 2 p) w5):=by have hk:=ySn HX.out Hn32.out HTk.out HJ4.lex;exact⟨HJ4.chg.trans Hc5.out,.inl ⟨by rw[hk];rfl,by rw[hk];rfl⟩⟩
 clear HC;exact⟨rfl,HD.out⟩):p:=h
theorem zzQ33 (h:p:=by
 intro g' cp' w' hW' hgr hat;have hgr2:W2.grownBy w' (some g):=by first|exact hgr|(rw[hW2];exact hgr)
 have HR:Hid (LoJ xs u base cb bv w gb ob b g' cp' (n+1) (X++ [34]) w'∧looI xs b s (i+1)=(X++ [34],(!q),u)):=⟨HW2.1.app (by first|exact hW'|(rw[List.append_nil];exact hW')) hgr2 (by rw[List.length_append,←HJ.len];rfl),HQ.out⟩;clear hW' hgr hgr2 hat hW2;go_wp2_with fail;go_roundw;case rel=>exact⟨i+1,g',cp',n+1,X++ [34],(!q),u,by omega,by first|rfl|go_num|(congr 1;omega),rfl,rfl,by omega,HR.2,HR.1⟩
 case measure=>simp[intOf];omega):p:=h
theorem zzQ34 (h:p:=by
 intro g' cp' w' hW' hgr hat;have hgr2:W2.grownBy w' (some g):=by first|exact hgr|(rw[hW2];exact hgr)
 have HR:Hid (LoJ xs u1 base cb bv w gb ob b g' cp' (n+0) (X++ []) w'∧looI xs b s (i+1)=(X++ [],false,u1)):=⟨HW2.1.app (by first|exact hW'|(rw[List.append_nil];exact hW')) hgr2 (by rw[List.length_append,←HJ.len];rfl),HQ2.out⟩;clear hW' hgr hgr2 hat hW2;go_wp2_with fail;go_roundw;case rel=>exact⟨i+1,g',cp',n+0,X++ [],false,u1,by omega,by first|rfl|go_num|(congr 1;omega),rfl,rfl,by omega,HR.2,HR.1⟩
 case measure=>simp[intOf];omega):p:=h
theorem zzQ35 (h:p:=by
 intro g' cp' w' hW' hgr hat;have hgr2:W2.grownBy w' (some g):=by first|exact hgr|(rw[hW2];exact hgr)
 have HR:Hid (WrB w' w.heap.size g' cp' (X++ [y])∧Below w.heap.size w w'∧m+1=(X++ [y]).length):=⟨hW',WrB.next HW2.2.1 (by omega) hge hgr2,by rw[List.length_append,←HJ.1];rfl⟩;clear hW' hgr hgr2 hat hW2;go_wp2_with fail;go_roundw;case rel=>exact⟨j+2,m+1,g',cp',X++ [y],by go_num,by omega,by omega,rfl,HR.2.2,HQ.out,HR.1,HR.2.1⟩
 case measure=>simp[intOf];omega):p:=h
theorem zzQ36 (h:p:=by
 have zj:¬(j:Int)<(a3:Int):=by omega
 have HXE:Hid (Y=X++([]:List UInt8)):=by show _=_;have h1:=HX.out;rw[List.take_of_length_le (by have:=HF.2.2.2.1;have:=HF.2.2.2.2.1;omega)]at h1;rw[HYY.out,h1]
 have HRE:Hid (TxP Y w (.returned (.slice (some ⟨og,0,none⟩) nn oc)) wr):=by refine⟨og,oc,by rw[HXE.out,List.append_nil,←HNN.out],?_,HJ.below.trans (HW.2.mono sr)⟩;rw[HXE.out,List.append_nil];exact HW.1.mono sr
 go_wp2_with fail;go_ret;exact HRE.out):p:=h
theorem yP1 (h:p:=by go_wp2_with fail;go_meet;obtain⟨j',e1,e2,e3,e4,_⟩:=HM.out;exact⟨j',e1,e2,e3,e4,rfl⟩):p:=h
theorem yT7 (h:p:=by
 refine⟨h.1,?_⟩;rcases h.2 with hn|⟨g',cap',cur,hv,h1,rest⟩
 ·exact .inl hn
 ·exact .inr ⟨g',cap',cur,hv,Nat.le_trans hb h1,rest⟩):p:=h
theorem yT6 (h:p:=by
 go_wp2_with fail;go_roundw;case rel=>exact⟨j+1,by go_num,by omega,by omega,HY.out,by first|rfl|trivial⟩
 case measure=>simp[intOf];omega):p:=h
theorem zzQ40 (h:p:=by
 refine j11a 10 hS0 (v:=(.string st)) ?_;refine j1b hS0 ?_;refine j12a 12 hS0 (v:=(.int .i64 ((j:Int)+1))) ?_;iterate 3 refine j1b hS0 ?_
 refine qD ?_;go_wp2_with fail;exact bodyPost_ret (v:=.tuple #[.bool false,.string st,.int .i64 ((j:Int)+1)]) (by simp[results,Tryz.results54,go_sem]) rfl ⟨false,_,_,rfl,by first|exact HJ.2.2.2|exact HJ.2.2.2.drew,.inr ⟨rfl,HE.out⟩⟩):p:=h
theorem yXz (h:p:=by
 by_cases h1:1≤n
 ·go_wp2_with fail;go_ret;exact⟨_,rfl,by rw[HF.out];simp;omega,HW0.2⟩
 ·go_wp2_with fail;go_ret;exact⟨_,rfl,by rw[HF.out];simp;omega,HW0.2⟩):p:=h
theorem zzQ42 (h:p:=by
 rw[if_neg (show¬(mOf s st s.out true).made<200 from hm)]at yC3;have hmk:yAy s=.error (5,hdA s.ks):=by unfold yAy;rw[if_neg hm]
 rcases hr with⟨e,h,rfl⟩|⟨s1,h,hr⟩
 ·have h':Except.error e=yAy s:=h;rw[hmk]at h';cases h'
  exact .fin yC3
 ·have h':Except.ok s1=yAy s:=h;rw[hmk]at h';cases h'):p:=h
theorem zzQ43 (h:p:=by clear die hv;go_enter Tryz.func117,Tryz.ntmps117;go_upto_region 2 with fail;rw[←hW0];clear hW0;go_wp2_with fail;refine(yCo _ 3 W0).mono ?_;rintro e w2 ⟨rfl,hw2⟩;rw[hw2];clear hw2;go_wp2_with fail;refine(yEg HW0.2.1 8).mono ?_;rintro e w2 ⟨rfl,hw2⟩;rw[hw2];clear hw2;exact⟨rfl,HD.out⟩):p:=h
theorem zzQ44 (h:p:=by obtain⟨kb,hkb⟩:=qE (((ftB k.k).toNat:Int):Int);rw[←hkb]at zk cK;clear die hst hkd hkb;go_enter Tryz.func117,Tryz.ntmps117;go_upto_region 2 with fail;rw[←hW0];clear hW0;go_wp2_with fail;refine(yEg HW0.2.1 3).mono ?_;rintro e w2 ⟨rfl,hw2⟩;rw[hw2];clear hw2;exact⟨rfl,HD.out⟩):p:=h
theorem zzQ45 (h:p:=by go_wp2_with fail;refine(HL.out _ _ H1.out).mono ?_;rintro e w2 ⟨f,u2,rfl,hf,hE2,hd2⟩;have H2:Hid (DIF xs u2 base cb bv w w2∧f.small∧yBl xs u1=(f,u2)):=⟨H1.call hd2,hf,hE2⟩;clear hd2 hf hE2;go_wp2_with fail;go_ret;exact HF.out u2 w2 _ f H2.2.2 H2.1 H2.2.1 rfl):p:=h
theorem zzQ46 (h:p:=by
 refine⟨a.toNat,Nat.le_refl _,by omega,congrArg (Value.int .i64) (yR a),yBe.ext HW5.1 (fun c=>?_),HW5.2.1,HI2.1,HW5.2.2⟩;by_cases q:a≤c
 ·have:=UInt8.le_iff_toNat_le.1 q;rw[decide_eq_false (show¬c.toNat<a.toNat by omega)];simp
 ·rw[decide_eq_false q];simp):p:=h
theorem yXy (h:p:=by go_enter Tryz.func88,Tryz.ntmps88;go_wp2_with fail;go_ret;exact⟨by rw[HX.out,if_neg (by omega),if_neg (by omega)];rfl,rfl⟩):p:=h
theorem yXx (h:p:=by
 split at h
 ·cases hq:yA9 ks with
  |error q=>rw[hq]at h;cases h;exact yG4 hq
  |ok k2=>rw[hq]at h;cases h
 ·cases h;simp):p:=h
theorem yXw (h:p:=by
 split at h
 ·cases hq:yA9 ks with
  |error e=>rw[hq]at h;cases h
  |ok k2=>rw[hq]at h;cases h;exact(yEi hq).1
 ·cases h):p:=h
theorem zzQ50 (h:p:=by go_wp2_with fail;refine(yCb H1.1 (by omega) (by omega) (by omega) HE.out).mono ?_;rintro e w3 ⟨rfl,hD3,hC3⟩;have H3:Hid (yBq xs s' base cb bv w w3):=⟨hD3,H1.2.trans hC3⟩;clear hD3 hC3;go_wp2_with fail;go_ret;exact⟨rfl,H3.out⟩):p:=h
theorem zzQ51 (h:p:=by
 have hlt:s4.ks.length<gk:=by have h1:=yDg H3.2.2.2.2;have h2:=(H0.2.1 s3 s4 HR4.out).1;have h3:=HJ.2;have h5:=h1.2 (by rw[HEq.out];simp);omega
 go_wp2_with fail;go_roundg (s4.ks.length);case measure=>exact hlt
 case rel=>exact HR.out):p:=h
theorem zzQ52 (h:p:=by
 have HY:Hid (Y=X4):=by show _=_;have h1:=HE1.out;have h2:=HE2.out;rw[HY0.out,HX4.out,HX3.out,HQLs1.out,HX2.out,HX1.out,HB.out];simp only[yBi,yEd];rw[h1,h2];simp[yA8,bl]
 go_wp2_with fail;go_ret;exact HJ4.done HN4.out HY.out):p:=h
theorem yXv (h:p:=by go_wp2_with fail;refine(yEx HJ.fs).mono ?_;rintro e w2 ⟨rfl,hw2⟩;rw[hw2];clear hw2;exact⟨rfl,HD.out⟩):p:=h
theorem zzQ54 (h:p:=by
 generalize hs: [s]=ss at h;cases h with
 |nil=>cases hs
 | @snoc ss os xs n ho h=>
   have e:=List.append_inj' (s₁:= []) (t₁:= [s]) hs rfl;obtain⟨e1,e2⟩:=e;subst e1;simp at e2;exact⟨xs,n,os,rfl,ho,h,e2⟩):p:=h
theorem zzQ55 (h:p:=by
 have HY:Hid (Y=X3):=by show _=_;have h1:=HE1.out;have h2:=HE2.out;rw[HY0.out,HX3.out,HX2.out,HX1.out,HB.out];simp only[yBi,yEd];rw[h1,h2];simp[yA8,bl]
 go_wp2_with fail;go_ret;exact HJ3.done HN3.out HY.out):p:=h
theorem zzQ56 (h:p:=by rw[if_pos (by simp[Region.wanted,hgd])];unfold Oper.wp execOp;simp only[ho,resolve,invoke,builtin,Sem.run_bind,Sem.run_pure,Result.andThen_ok,List.map_toArray,List.map_cons,List.map_nil,hs,hx,hr];exact h v' w' h1 h2):p:=h
theorem yXu (h:p:=by clear hb c0 c1 c2 c3 c4 c5 c6;go_wp2_with fail;go_ret;exact⟨_,rfl,HF.out,HW0.2.trans (hb2.mono hbw)⟩):p:=h
theorem zzQ58 (h:p:=by
 rcases(show v6=true∨v6=false by cases v6<;>simp)with rfl|rfl
 ·go_wp2_with fail;go_meet;exact⟨by rw[HVB.out];simp[hlt];omega,H8.out⟩
 ·go_wp2_with fail;go_meet;exact⟨by rw[HVB.out];simp,H8.out⟩):p:=h
theorem zzQ59 (h:p:=by
 have HD:Hid (BehP base g b off n cap t d (fun r=>r=yCe s (yB kd strs s.ks)) nv w (Pf c (e3:Int)) w3):=HJ.die Hc3.out (by
  show _=_
  rw[HA.out,yFj,yQw hs3];rfl)
 clear hs3;exact⟨rfl,HD.out⟩):p:=h
theorem zzQ60 (h:p:=by
 clear hO' hgr hat b0 b1 b2 b3 b4 b5 b6;go_wp2_with fail;go_roundw;case rel=>exact⟨i+1,g',cp',len+2,by omega,by go_num,rfl,⟨by omega,by omega⟩,HN.2,HN.1⟩
 case measure=>simp[intOf];omega):p:=h
theorem zzQ61 (h:p:=by rintro e w9 ⟨v9,rfl,hO9,hF9⟩;have HR:Hid (AppP base (YY) w (.returned v9) w9):=⟨v9,rfl,by rw[HL.out];exact hO9,HW2.2.1.trans hF9⟩;clear hO9 hF9;go_wp2_with fail;go_ret;exact HR.out):p:=h
theorem zzQ62 (h:p:=by go_upto_region 3 with fail;go_quiet (fail);go_wp2_with fail;go_ret;exact⟨rfl,HD.1.below (below_drewN (Below.refl _ _) _),HD.2.1.trans (Chg.of_below (below_drewN (Below.refl _ _) _))⟩):p:=h
theorem zzQ63 (h:p:=by unfold Oper.wp execOp;simp only[ho,resolve,invoke,builtin,Sem.run_bind,Sem.run_pure,Result.andThen_ok,List.map_toArray,List.map_cons,List.map_nil,hs,hx,hr];exact hK _ _ (h v' w' h1 h2)):p:=h
theorem zzQ64 (h:p:=by clear hop;go_enter Tryz.func101,Tryz.ntmps101;go_wp2_with (go_at_call 121;refine(yLe _ _).mono ?_;rintro e' w' ⟨rfl,rfl⟩);go_ret;exact⟨by rw[HL.out];rfl,rfl⟩):p:=h
theorem zzQ65 (h:p:=by rintro e w3 ⟨rfl,hD3,hC3⟩;have H3:Hid (yBq xs s' base cb bv w w3):=⟨hD3,(H1.2.alloc_new _).trans hC3⟩;clear hD3 hC3;go_wp2_with fail;go_ret;exact⟨rfl,H3.out⟩):p:=h
theorem zzQ66 (h:p:=by go_wp2_with fail;refine HC.mono ?_;rintro e w' hp;have HP:Hid (AppP base (l++Lib.decDigits n) w e w'):=hp;obtain⟨v',rfl,_⟩:=hp;go_wp2_with fail;go_ret;exact HP.out):p:=h
theorem zzQ67 (h:p:=by
 rw[hsg]at HNx;clear hsg;go_wp2_with fail;go_roundw;case rel=>exact⟨k+1,_,u2,by omega,HNx.out,by go_num,rfl,e1.out,H3.out⟩
 case measure=>go_light;simp[intOf];omega):p:=h
theorem zzQ68 (h:p:=by go_enter Tryz.func82,Tryz.ntmps82;go_wp2_with (go_at_call 109;refine(yJj _ _).mono ?_;rintro e' w' ⟨rfl,rfl⟩);go_ret;exact⟨by rw[HL.out];rfl,rfl⟩):p:=h
theorem yXt (h:p:=by go_enter Tryz.func106,Tryz.ntmps106;go_wp2_with fail;go_ret;exact⟨rfl,rfl⟩):p:=h
theorem yXs (h:p:=by go_enter Tryz.func108,Tryz.ntmps108;go_wp2_with fail;go_ret;exact⟨rfl,rfl⟩):p:=h
theorem zzQ71 (h:p:=by
 induction h with
 |nil=>exact .nil
 | @snoc ss os xs n ho h ih=>
   rw[List.length_append];refine IsT.snoc n ?_;rw[←ho,←List.length_append];exact ih):p:=h
theorem yXr (h:p:=by go_enter Tryz.func73,Tryz.ntmps73;go_wp2_with fail;go_ret;exact⟨rfl,rfl⟩):p:=h
theorem yXq (h:p:=by go_enter Tryz.func48,Tryz.ntmps48;go_wp2_with fail;go_ret;exact⟨rfl,qB⟩):p:=h
theorem yXp (h:p:=by go_enter Tryz.func86,Tryz.ntmps86;go_wp2_with fail;go_ret;exact⟨rfl,qB⟩):p:=h
theorem zzQ75 (h:p:=by
 rcases h with h|⟨b,off,cap,hv,hE,hlt,h1,h2⟩
 ·exact .inl h
 ·exact .inr ⟨b,off,cap,hv,hE.below hb (by omega),by have:=hb.size;omega,h1,h2⟩):p:=h
theorem zzQ76 (h:p:=by
 go_wp2_with fail;go_roundw;case rel=>exact⟨i+1,o,true,by omega,by omega,rfl,rfl,by go_num,HF.out,HB.out⟩
 case measure=>simp[intOf];omega):p:=h
theorem zzQ77 (h:p:=by
 have h0:j=p.length:=by omega
 have:yCx p j=.inr (2,p.length):=by unfold yCx;rw[yOl (List.getElem?_eq_none (by omega)),h0]
 rw[this]):p:=h
theorem zzQ78 (h:p:=by
 intro j u hu;have hj:j=0:=by have:=(List.getElem?_eq_some_iff.1 hu).1;simpa using this
 subst hj;simp at hu;rw[Addr.add_mid,←hu];exact hc):p:=h
theorem zzQ79 (h:p:=by
 go_wp2_with fail;go_roundw;case rel=>exact⟨i+1,g5,c5,_,by omega,by go_num,by first|rfl|simp,HJ5⟩
 case measure=>simp[intOf];omega):p:=h
theorem zzQ80 (h:p:=by intro i x hx;rw[cell_of_row _ _ _ _ _ _ (heap_alloc_last w _),Nat.zero_add];rw[←Array.getElem?_toList,h,List.getElem?_map,hx];rfl):p:=h
theorem zzQ81 (h:p:=by
 induction h with
 |nil=>exact .nil
 | @snoc ss os xs n ho h ih=>
   rw[List.map_append]at ih⊢;exact .snoc n (by simpa using ho) ih):p:=h
theorem zzQ82 (h:p:=by exact(hn.mono (fun _ _ q=>yKb.mono (Nat.le_max_left _ _) q)).snoc (hm.mono (fun _ _ q=>yKb.mono (Nat.le_max_right _ _) q))):p:=h
theorem zzQ83 (h:p:=by rw[←hW6];clear hW6 t0 ft0;have c1:=HJ6.fs.cell (j:=1) rfl;have f1:=HJ6.fs.frozen 1;go_wp2_with fail;go_meet;exact HD.out):p:=h
theorem zzQ84 (h:p:=by go_enter Tryz.func92,Tryz.ntmps92;go_wp2_with fail;go_ret;exact⟨by first|rfl|(rw[H.out];simp[z2])|simp[H.out,z2],rfl⟩):p:=h
theorem zzQ85 (h:p:=by intro i s hs;have:=h (k+i) s (by rw[←List.getElem?_drop];exact hs);rw[Nat.add_mul,←Nat.add_assoc]at this;exact this):p:=h
theorem zzQ86 (h:p:=by obtain⟨n,hn⟩:=h;exact⟨n,hn.mono (fun t v q=>q.mono (yI2 hc hS hl) (Nat.le_refl _)) (yI2 hc hS hl)⟩):p:=h
theorem zzQ87 (h:p:=by
 have h1:IntKind.u64.min=0:=by decide
 have h2:IntKind.u64.max=18446744073709551615:=by decide
 simp[Lit.wf,h1,h2];omega):p:=h
theorem zzQ88 (h:p:=by go_simp;refine hK.out _ _ (.inl rfl) ?_;clear hK gs;refine jS ?_;refine qD ?_;go_wp2_with fail;go_ret;exact HR.out):p:=h
theorem zzQ89 (h:p:=by clear hWF;go_wp2_with fail;rw[HWE.out];exact bodyPost_ret (by simp[results,Tryz.results68,go_sem,p0]) rfl HRH.out):p:=h
section
open Go.ChangeMaps (open_string shut_string)
structure Ent where
 row:ByteArray
 fam:ByteArray
 qual:ByteArray
 ts:Int
 kind:Int
 val:ByteArray
abbrev Ent.v (e:Ent):Value:=.agg #[.string e.row,.string e.fam,.string e.qual,.int .u64 e.ts,.int .i64 e.kind,.string e.val]
structure Ent.ok (e:Ent):Prop where
 row:e.row.size≤maxLen
 fam:e.fam.size≤maxLen
 qual:e.qual.size≤maxLen
 val:e.val.size≤maxLen
 ts:(Lit.int .u64 e.ts).wf=true
 kind:(Lit.int .i64 e.kind).wf=true
end
theorem yZ1 {W w1:World} (hb:Below W.heap.size W w1):(∀b o,b<W.heap.size→w1.cell? ⟨b,o,none⟩=W.cell? ⟨b,o,none⟩)∧(∀b o,b<W.heap.size→w1.frozen? ⟨b,o,none⟩=W.frozen? ⟨b,o,none⟩):=
 ⟨fun b o h=>hb.cell (p:=⟨b,o,none⟩) h,fun b o h=>hb.frozen (p:=⟨b,o,none⟩) h⟩
abbrev Ent.cells (e:Ent):List Value:= [.string e.row,.string e.fam,.string e.qual,.int .u64 e.ts,.int .i64 e.kind,.string e.val]
def yKa (w:World) (b off:Nat) (es:List Ent):Prop:=
 ∀i e,es[i]?=some e→w.cell? ⟨b,off+i*6,none⟩=some (.string e.row)∧w.cell? ⟨b,off+i*6+1,none⟩=some (.string e.fam)∧w.cell? ⟨b,off+i*6+2,none⟩=some (.string e.qual)∧
  w.cell? ⟨b,off+i*6+3,none⟩=some (.int .u64 e.ts)∧w.cell? ⟨b,off+i*6+4,none⟩=some (.int .i64 e.kind)∧w.cell? ⟨b,off+i*6+5,none⟩=some (.string e.val)
variable {B:Nat} {w':World} {es:List Ent}
theorem yKa.below {b off:Nat} (h:yKa w b off es) (hb:Below B w w') (hlt:b<B):yKa w' b off es:=by
 intro i e he;have:=h i e he;refine⟨?_,?_,?_,?_,?_,?_⟩;all_goals rw[hb.cell (by exact hlt)]
 ·exact this.1
 ·exact this.2.1
 ·exact this.2.2.1
 ·exact this.2.2.2.1
 ·exact this.2.2.2.2.1
 ·exact this.2.2.2.2.2
def yT3 (w:World) (v:Value) (es:List Ent):Prop:=
 (∃a cap,v=.slice a 0 cap∧es= [])∨
 ∃b off cap,v=.slice (some ⟨b,off,none⟩) es.length cap∧yKa w b off es∧b<w.heap.size∧es.length≤cap∧cap≤maxLen
theorem yT3.below {v:Value} (h:yT3 w v es) (hb:Below B w w') (hB:w.heap.size≤B):yT3 w' v es:=by exact zzQ75
theorem yGt (h:Below w.heap.size w w') (r:Option Nat):w.grownBy w' r:=⟨h.os,h.tape,h.output,h.size,fun k hk _=>h.block k hk⟩
theorem yEq (w:World) (g o:Nat) (u:Value):w.grownBy (w.setCell ⟨g,o,none⟩ u) (some g):=by have h:Below g w (w.setCell ⟨g,o,none⟩ u):=(Below.refl g w).setCell (Nat.le_refl _) u;exact⟨h.os,h.tape,h.output,h.size,fun k hk hne=>Below.heap_setCell w ⟨g,o,none⟩ u k (fun e=>hne (by rw[e]))⟩
structure Chg (S:Nat→Prop) (w w':World):Prop where
 os:w'.os=w.os
 tape:w'.tape=w.tape
 output:w'.output=w.output
 size:w.heap.size≤w'.heap.size
 block:∀k,k<w.heap.size→¬S k→w'.heap[k]?=w.heap[k]?
theorem Chg.refl (S:Nat→Prop) (w:World):Chg S w w:=⟨rfl,rfl,rfl,Nat.le_refl _,fun _ _ _=>rfl⟩
variable {S:Nat→Prop}
theorem Chg.trans {a b c:World} (h:Chg S a b) (k:Chg S b c):Chg S a c:=
 ⟨k.os.trans h.os,k.tape.trans h.tape,k.output.trans h.output,Nat.le_trans h.size k.size,fun i hi hn=>(k.block i (Nat.lt_of_lt_of_le hi h.size) hn).trans (h.block i hi hn)⟩
variable {T:Nat→Prop}
theorem Chg.mono (h:Chg S w w') (hs:∀k,S k→T k):Chg T w w':=⟨h.os,h.tape,h.output,h.size,fun k hk hn=>h.block k hk (fun q=>hn (hs k q))⟩
theorem Chg.of_below (h:Below w.heap.size w w'):Chg S w w':=⟨h.os,h.tape,h.output,h.size,fun k hk _=>h.block k hk⟩
theorem Chg.of_grown {row:Option Nat} (h:w.grownBy w' row) (hs:∀k,row=some k→S k):Chg S w w':=
 ⟨h.os,h.tape,h.output,h.size,fun k hk hn=>h.block k hk (fun q=>hn (hs k q.symm))⟩
theorem Chg.of_set (w:World) (g o:Nat) (u:Value) (hs:S g):Chg S w (w.setCell ⟨g,o,none⟩ u):=Chg.of_grown (yEq w g o u) (fun k hk=>by cases hk;exact hs)
theorem Chg.below {a:World} (h:Below B a w) (k:Chg S w w') (hB:B≤w.heap.size) (hs:∀k,S k→B≤k):Below B a w':=
 h.trans ⟨k.os,k.tape,k.output,k.size,fun i hi=>k.block i (by omega) (fun q=>by have:=hs i q;omega)⟩
theorem Chg.cell (h:Chg S w w') {p:Addr} (hp:p.block<w.heap.size) (hn:¬S p.block):w'.cell? p=w.cell? p:=World.cell?_of_block (w:=w) (h.block p.block hp hn)
theorem Chg.frozen (h:Chg S w w') {p:Addr} (hp:p.block<w.heap.size) (hn:¬S p.block):w'.frozen? p=w.frozen? p:=World.frozen?_of_block (w:=w) (h.block p.block hp hn)
theorem yKa.chg {b off:Nat} (h:yKa w b off es) (hb:Chg S w w') (hlt:b<w.heap.size) (hn:¬S b):yKa w' b off es:=by
 intro i e he;have:=h i e he;refine⟨?_,?_,?_,?_,?_,?_⟩;all_goals rw[hb.cell (by exact hlt) (by exact hn)]
 ·exact this.1
 ·exact this.2.1
 ·exact this.2.2.1
 ·exact this.2.2.2.1
 ·exact this.2.2.2.2.1
 ·exact this.2.2.2.2.2
variable {base n:Nat}
theorem yA2 {e size:Nat} {v:Value} {xs:List Value} (h:w.ownsRow base e size v n xs) (hb:Chg S w w') (hn:∀k,v.ownBlock=some k→¬S k):w'.ownsRow base e size v n xs:=by
 refine⟨h.1,?_⟩;rcases h.2 with hz|⟨g,cap,cur,rfl,h1,hg,rest⟩
 ·exact .inl hz
 ·refine .inr ⟨g,cap,cur,rfl,h1,?_,rest⟩;have hlt:g<w.heap.size:=by
   rcases Nat.lt_or_ge g w.heap.size with q|q
   ·exact q
   ·rw[Array.getElem?_eq_none q]at hg;cases hg
  rw[hb.block g hlt (hn g rfl)];exact hg
def yF7 (w:World) (base:Nat) (bv:Value) (n:Nat):Prop:=
 n≤1048576∧((∃a cap,bv=.slice a 0 cap∧n=0)∨∃b off cap,bv=.slice (some ⟨b,off,none⟩) n cap∧b<base∧∀k,k<n→∃x:Int,w.cell? ⟨b,off+k,none⟩=some (.int .u8 x)∧0≤x∧x<256)
def OwnL (w:World) (base cb:Nat) (vs:List Value):Prop:=w.ownsRow base 109 3 (.slice (some ⟨cb,0,none⟩) 1 1) 1 vs
structure yGw (base cb:Nat) (bv:Value) (n:Nat) (w:World):Prop where
 own:∃(i:Nat) (h:Int),i≤n∧OwnL w base cb [bv,.int .i64 i,.int .i64 h]
 code:yF7 w base bv n
 base:base≤w.heap.size
theorem yT0 (x:Int):0≤bits .and .i64 x 255∧bits .and .i64 x 255<256:=by
 have h:(BitVec.ofInt 64 x &&& BitVec.ofInt 64 255).toNat≤255:=by rw[BitVec.toNat_and];exact Nat.le_trans Nat.and_le_right (by decide)
 have e:bits .and .i64 x 255=IntKind.i64.wrap ((BitVec.ofInt 64 x &&& BitVec.ofInt 64 255).toNat:Int):=rfl;rw[e,IntKind.wrap_i64];omega
variable {bv:Value}
theorem yF7.chg (h:yF7 w base bv n) (hc:Chg T w w') (hb:base≤w.heap.size) (hT:∀k,T k→base≤k):yF7 w' base bv n:=by
 refine⟨h.1,?_⟩;rcases h.2 with h|⟨b,off,cap,hv,hlt,hx⟩
 ·exact .inl h
 ·refine .inr ⟨b,off,cap,hv,hlt,fun k hk=>?_⟩;obtain⟨x,h1,h2⟩:=hx k hk;exact⟨x,by rw[hc.cell (p:=⟨b,off+k,none⟩) (by show b<w.heap.size;omega) (fun q=>by have q1:base≤b:=hT _ q;omega)];exact h1,h2⟩
variable {cb:Nat}
theorem yGw.chg (h:yGw base cb bv n w) (hc:Chg T w w') (hn:¬T cb) (hT:∀k,T k→base≤k):yGw base cb bv n w':=by obtain⟨i,hh,h1,h2⟩:=h.own;exact⟨⟨i,hh,h1,yA2 h2 hc (fun k q=>by simp[Value.ownBlock]at q;subst q;exact hn)⟩,h.code.chg hc h.base hT,by have:=hc.size;have:=h.base;omega⟩
theorem yGw.below (h:yGw base cb bv n w) (hb:Below w.heap.size w w'):yGw base cb bv n w':=
 h.chg (T:=fun _=>False) (Chg.of_below hb) (fun q=>q) (fun k q=>q.elim)
theorem yGw.lt (h:yGw base cb bv n w):base≤cb∧cb<w.heap.size:=by obtain⟨i,hh,h1,h2⟩:=h.own;exact World.ownsRow.lt h2 cb rfl
theorem Chg.grown_new {wr:World} {row:Option Nat} (h:Chg T w wr) (hg:wr.grownBy w' row) (hr:∀k,row=some k→w.heap.size≤k):Chg T w w':=
 ⟨hg.os.trans h.os,hg.tape.trans h.tape,hg.output.trans h.output,Nat.le_trans h.size hg.size,fun k hk hn=>(hg.block k (Nat.lt_of_lt_of_le hk h.size) (fun q=>by have:=hr k q.symm;omega)).trans (h.block k hk hn)⟩
theorem Chg.alloc_new {wr:World} (h:Chg T w wr) (o:Obj):Chg T w (wr.alloc o):=h.trans (Chg.of_below (qB))
abbrev u8v (z:UInt8):Value:=.int .u8 (z.toNat:Int)
def OwnB (w:World) (base g cap:Nat) (zs:List UInt8):Prop:=w.ownsRow base 5 1 (.slice (some ⟨g,0,none⟩) zs.length cap) zs.length (zs.map u8v)
theorem Tryz.infoU8:(Tryz.prog.info? 5).map (fun i=>(i.zero,i.size,i.bytes))=some (some (.int .u8 0),1,1):=by kernel_rfl
theorem yD3 {ops:Array Oper} {rest:List Oper} {o:Oper} {a:Act} {Q:Exit→Act→World→Prop} (w:World) (hgd:o.guard=none) (s x:Operand)
  (ho:o.op=.call {callee:=.builtin .append,args:=#[s,x],argTypes:=#[22,22]})
  (base g cp n blk:Nat) (zs:List UInt8) (z:UInt8) (hs:a.eval s=.slice (some ⟨g,0,none⟩) n cp) (cx:Nat) (hx:a.eval x=.slice (some ⟨blk,0,none⟩) 1 cx) (hn:n=zs.length) (hO:OwnB w base g cp zs)
  (hc:w.cell? ⟨blk,0,none⟩=some (.int .u8 (z.toNat:Int))) (hlen:zs.length≤2^30) (hbase:base≤w.heap.size)
  (h:∀g' cp' w',OwnB w' base g' cp' (zs++ [z])→w.grownBy w' (some g)→wpList Tryz.prog ops Q rest (a.put o.dst (.slice (some ⟨g',0,none⟩) (n+1) cp')) w'):wpList Tryz.prog ops Q (o::rest) a w:=by
 obtain⟨i,hi,hz0,hz1,hz2⟩:=info_parts Tryz.infoU8;subst hn;refine wpList_append_lies w hgd s x 22 ho base 5 i _ 1 1 Tryz.underlying22 hi hz0 hz1 hz2 rfl (by decide) (.slice (some ⟨g,0,none⟩) zs.length cp) zs.length (zs.map u8v) hs hO ⟨blk,0,none⟩ 1 cx [u8v z] hx rfl ?_ ?_ (by decide) ?_ ?_ hbase w.heap.size rfl ?_
 ·intro j u hu;have hj:j<1:=by simpa using (List.getElem?_eq_some_iff.1 hu).1
  obtain rfl:j=0:=by omega
  simp at hu;rw[←hu];simpa [Addr.add]using hc
 ·intro u hu;simp at hu;subst hu;rfl
 ·unfold maxLen;omega
 ·omega
 ·intro g' cp' w' hO' hgr hat hlt;refine h g' cp' w' ?_ hgr;unfold OwnB;rw[List.length_append,List.map_append];exact hO'
theorem yPc (w:World) (base:Nat) (hb:base≤w.heap.size):OwnB (w.alloc (Obj.cells #[] 5)) base w.heap.size 0 []:=World.ownsRow_made w #[] 0 hb (Nat.zero_le _) (by simp)
variable {g:Nat}
theorem yPr {cap:Nat} {zs:List UInt8} (h:OwnB w base g cap zs):(convert 22 9 (.slice (some ⟨g,0,none⟩) zs.length cap)).run Tryz.prog w=.ok (.string ⟨zs.toArray⟩) w:=by refine run_convert_bytes_back (P:=Tryz.prog) w 22 9 5 ⟨g,0,none⟩ cap zs Tryz.underlying22 Tryz.underlying5 Tryz.underlying9 ?_;intro i hi;have:=World.ownsRow.cellAt h i (by omega);rw[Addr.add_mid,Nat.zero_add,this,List.getElem?_map,List.getElem?_eq_getElem hi];rfl
theorem yWa (c:UInt8) (w:World):∃cx w',(convert 9 22 (.string ⟨#[c]⟩)).run Tryz.prog w=.ok (.slice (some ⟨w.heap.size,0,none⟩) 1 cx) w'∧Below w.heap.size w w'∧w'.cell? ⟨w.heap.size,0,none⟩=some (.int .u8 (c.toNat:Int)):=by
 refine⟨_,_,run_bytes_of_string (P:=Tryz.prog) w 9 22 5 ⟨#[c]⟩ Tryz.underlying9 Tryz.underlying22 Tryz.underlying5,((Below.refl _ _).drew).alloc (Nat.le_refl _) _,?_⟩;have hb:∀O:Obj,(w.drew.alloc O).heap[w.heap.size]?=some O:=fun O=>by show(w.heap.push O)[w.heap.size]?=_;simp
 unfold World.cell?;rw[hb];simp[bytesRow];rw[Array.getElem?_append_left (by simp)];rfl
structure Dst where
 i:Nat
 h:Int
def yG0 (xs:List Int) (w:World) (base:Nat) (bv:Value):Prop:=
 xs.length≤1048576∧((∃a cap,bv=.slice a 0 cap∧xs= [])∨∃b off cap,bv=.slice (some ⟨b,off,none⟩) xs.length cap∧b<base∧∀k x,xs[k]?=some x→w.cell? ⟨b,off+k,none⟩=some (.int .u8 x)∧0≤x∧x<256)
variable {xs:List Int}
theorem yG0.code (h:yG0 xs w base bv):yF7 w base bv xs.length:=by
 refine⟨h.1,?_⟩;rcases h.2 with⟨a,cap,h1,rfl⟩|⟨b,off,cap,h1,h2,h3⟩
 ·exact .inl ⟨a,cap,h1,rfl⟩
 ·exact .inr ⟨b,off,cap,h1,h2,fun k hk=>⟨xs[k],h3 k _ (List.getElem?_eq_getElem hk)⟩⟩
theorem yG0.chg (h:yG0 xs w base bv) (hc:Chg T w w') (hb:base≤w.heap.size) (hT:∀k,T k→base≤k):yG0 xs w' base bv:=by
 refine⟨h.1,?_⟩;rcases h.2 with h|⟨b,off,cap,hv,hlt,hx⟩
 ·exact .inl h
 ·refine .inr ⟨b,off,cap,hv,hlt,fun k x hk=>?_⟩;obtain⟨h1,h2⟩:=hx k x hk;exact⟨by rw[hc.cell (p:=⟨b,off+k,none⟩) (by show b<w.heap.size;omega) (fun q=>by have q1:base≤b:=hT _ q;omega)];exact h1,h2⟩
structure yA5 (xs:List Int) (s:Dst) (base cb:Nat) (bv:Value) (w:World):Prop where
 own:OwnL w base cb [bv,.int .i64 s.i,.int .i64 s.h]
 code:yG0 xs w base bv
 base:base≤w.heap.size
 le:s.i≤xs.length
variable {s:Dst}
theorem yA5.at (h:yA5 xs s base cb bv w):yGw base cb bv xs.length w:=⟨⟨s.i,s.h,h.le,h.own⟩,h.code.code,h.base⟩
theorem yA5.chg (h:yA5 xs s base cb bv w) (hc:Chg T w w') (hn:¬T cb) (hT:∀k,T k→base≤k):yA5 xs s base cb bv w':=
 ⟨yA2 h.own hc (fun k q=>by simp[Value.ownBlock]at q;subst q;exact hn),h.code.chg hc h.base hT,by have:=hc.size;have:=h.base;omega,h.le⟩
theorem yA5.below (h:yA5 xs s base cb bv w) (hb:Below w.heap.size w w'):yA5 xs s base cb bv w':=
 h.chg (T:=fun _=>False) (Chg.of_below hb) (fun q=>q) (fun k q=>q.elim)
theorem yA5.lt (h:yA5 xs s base cb bv w):base≤cb∧cb<w.heap.size:=h.at.lt
theorem yA5.setI {i:Nat} {h:Int} (hd:yA5 xs ⟨i,h⟩ base cb bv w) (hi:i+1≤xs.length):yA5 xs ⟨i+1,h⟩ base cb bv (w.setCell ⟨cb,1,none⟩ (.int .i64 (i+1:Nat))):=by have hl:=hd.lt;have hc:Chg (fun k=>k=cb) w (w.setCell ⟨cb,1,none⟩ (.int .i64 (i+1:Nat))):=Chg.of_set _ _ _ _ rfl;exact⟨(World.ownsRow.stored hd.own 1 _).1,hd.code.chg hc hd.base (fun k q=>by omega),by have:=hc.size;have:=hd.base;omega,hi⟩
abbrev yBq (xs:List Int) (s:Dst) (base cb:Nat) (bv:Value) (w w':World):Prop:=yA5 xs s base cb bv w'∧Chg (fun k=>k=cb) w w'
def yQr (h:Int):Int:=wrap64 (wrap64 (h*6364136223846793005)+1442695040888963407)
def mixF (h:Int):Int:=bits BinOp.and IntKind.i64 (bits BinOp.xor IntKind.i64 (h/8589934592) (h/35184372088832)) 255
def byF (xs:List Int) (s:Dst):Int×Dst:=match xs[s.i]? with
 |some x=>(bits BinOp.and IntKind.i64 (mixF (yQr s.h)+x) 255,⟨s.i+1,yQr s.h⟩)
 |none=>(mixF (yQr s.h),⟨s.i,yQr s.h⟩)
theorem yMb (xs:List Int) (s:Dst):0≤(byF xs s).1∧(byF xs s).1<256:=by
 unfold byF;split
 ·exact yT0 _
 ·exact yT0 _
variable {x:Int} {s':Dst}
theorem yIz (h:yA5 xs s base cb bv w) (he:byF xs s=(x,s')):
  Calls Tryz.prog 84 #[.pointer (some ⟨cb,0,none⟩)] w fun e w'=>e=.returned (.int .i64 x)∧yBq xs s' base cb bv w w':=by
 obtain⟨i,hh⟩:=s;have hO:=h.own;have hin:=h.le;simp only at hO hin;have c0:w.cell? ⟨cb,0,none⟩=some bv:=World.ownsRow.cellAt hO 0 (by decide);have c1:w.cell? ⟨cb,1,none⟩=some (.int .i64 i):=World.ownsRow.cellAt hO 1 (by decide);have c2:w.cell? ⟨cb,2,none⟩=some (.int .i64 hh):=World.ownsRow.cellAt hO 2 (by decide);have f1:=World.ownsRow.frozenAt hO 1;have f2:=World.ownsRow.frozenAt hO 2;obtain⟨h1,hh1⟩:=qE (wrap64 (wrap64 (hh*6364136223846793005)+1442695040888963407));obtain⟨W1,hW1⟩:=qE (w.setCell ⟨cb,2,none⟩ (.int .i64 h1):World);have hC1:Chg (fun k=>k=cb) w W1:=by rw[hW1];exact Chg.of_set _ _ _ _ rfl
 have hlb:=h.lt;have HO1:Hid (OwnL W1 base cb [bv,.int .i64 i,.int .i64 h1]):=by show OwnL W1 _ _ _;rw[hW1];exact(World.ownsRow.stored hO 2 _).1
 have HD:Hid (yA5 xs ⟨i,h1⟩ base cb bv W1∧Chg (fun k=>k=cb) w W1∧h1=yQr hh):=⟨⟨HO1.out,h.code.chg hC1 h.base (fun k q=>by omega),by have:=hC1.size;have:=h.base;omega,hin⟩,hC1,hh1⟩;have hn:=h.code.1;have HE:Hid (byF xs ⟨i,hh⟩=(x,s')):=he;clear h hO hC1 he;go_enter Tryz.func84,Tryz.ntmps84;go_upto_region 2 with fail;rw[←hh1,←hW1];have d0:W1.cell? ⟨cb,0,none⟩=some bv:=World.ownsRow.cellAt HO1.out 0 (by decide);have d1:W1.cell? ⟨cb,1,none⟩=some (.int .i64 i):=World.ownsRow.cellAt HO1.out 1 (by decide);have d2:W1.cell? ⟨cb,2,none⟩=some (.int .i64 h1):=World.ownsRow.cellAt HO1.out 2 (by decide);have e1:=World.ownsRow.frozenAt HO1.out 1;clear hh1 hW1 c0 c1 c2 f1 f2;go_quiet (fail);obtain⟨x0,hx0⟩:=qE (bits BinOp.and IntKind.i64 (bits BinOp.xor IntKind.i64 (h1/8589934592) (h1/35184372088832)) 255);have HX0:Hid (x0=mixF (yQr hh)):=by show _=_;rw[hx0,HD.2.2];rfl
 have hx1:0≤x0∧x0<256:=by rw[hx0];exact yT0 _
 rw[←hx0];clear hx0;obtain⟨n,hnl⟩:=qE xs.length;have HN:Hid (n=xs.length):=hnl;have hnone:¬i<n→x=x0∧s'=⟨i,h1⟩:=fun q=>by have h9:=HE.out;unfold byF at h9;rw[show xs[(Dst.mk i hh).i]?=none from List.getElem?_eq_none (by show xs.length≤i;omega)]at h9;simp only[Prod.mk.injEq]at h9;exact⟨by rw[HX0.out];exact h9.1.symm,by rw[HD.2.2];exact h9.2.symm⟩
 have HNo:Hid (¬i<n→x=x0∧s'=⟨i,h1⟩):=hnone;clear hnone;rcases HD.1.code.2 with⟨a,cap,rfl,q⟩|⟨b,off,cap,rfl,hlt,hx⟩
 ·have hn0:n=0:=by rw[hnl,q];rfl
  obtain⟨rfl,rfl⟩:=HNo.out (by omega);have z:¬(i:Int)<0:=by omega
  clear hnl hn0 q;exact zzQ62
 ·rw[←hnl]at d0;by_cases hi:i<n
  ·obtain⟨y,hy⟩:∃y,xs[i]?=some y:=⟨_,List.getElem?_eq_getElem (by omega)⟩;obtain⟨hc,hxa,hxb⟩:=hx i y hy;have HY:Hid (x=bits BinOp.and IntKind.i64 (x0+y) 255∧s'=⟨i+1,h1⟩):=by have h9:=HE.out;unfold byF at h9;rw[show xs[(Dst.mk i hh).i]?=some y from hy]at h9;simp only[Prod.mk.injEq]at h9;exact⟨by rw[HX0.out];exact h9.1.symm,by rw[HD.2.2];exact h9.2.symm⟩
   have z:(i:Int)<(n:Int):=by omega
   have hn':n≤1048576:=by omega
   clear hnl hy hx hn;go_upto_region 3 with fail;go_quiet (fail);go_upto_region 4 with fail;go_quiet (fail);rw[←HY.1];go_wp2_with fail;go_ret;refine⟨rfl,?_,?_⟩
   ·rw[HY.2];exact yA5.setI (HD.1.below (below_drewN (Below.refl _ _) _)) (by have:=HN.out;omega)
   ·exact(HD.2.1.trans (Chg.of_below (below_drewN (Below.refl _ _) _))).trans (Chg.of_set (S:=fun k=>k=cb) _ _ _ _ rfl)
  ·have z:¬(i:Int)<(n:Int):=by omega
   obtain⟨rfl,rfl⟩:=HNo.out hi;have hn':n≤1048576:=by omega
   clear hnl hx hn;exact zzQ62
def belF (xs:List Int) (m:Int) (s:Dst):Int×Dst:=
 if m≤256 then((byF xs s).1%m,(byF xs s).2)
 else(((byF xs s).1*65536+(byF xs (byF xs s).2).1*256+(byF xs (byF xs (byF xs s).2).2).1)%m,(byF xs (byF xs (byF xs s).2).2).2)
variable {m:Int}
theorem yAm (xs:List Int) (hm:1≤m) (s:Dst):0≤(belF xs m s).1∧(belF xs m s).1<m:=by
 unfold belF;split
 ·exact⟨Int.emod_nonneg _ (by omega),Int.emod_lt_of_pos _ (by omega)⟩
 ·exact⟨Int.emod_nonneg _ (by omega),Int.emod_lt_of_pos _ (by omega)⟩
theorem yAr (h:yA5 xs s base cb bv w) (hm:1≤m) (hm2:m≤1048576) (he:belF xs m s=(x,s')):
  Calls Tryz.prog 43 #[.pointer (some ⟨cb,0,none⟩),.int .i64 m] w fun e w'=>e=.returned (.int .i64 x)∧yBq xs s' base cb bv w w':=by
 have HD:Hid (yA5 xs s base cb bv w):=h;clear h;obtain⟨x1,s1,h1⟩:∃x1 s1,byF xs s=(x1,s1):=⟨_,_,rfl⟩;have hx1:=yMb xs s;rw[h1]at hx1;by_cases hs:m≤256
 ·unfold belF at he;rw[if_pos hs,h1]at he;simp only[Prod.mk.injEq]at he;obtain⟨rfl,rfl⟩:=he;have HB:Hid (Calls Tryz.prog 84 #[.pointer (some ⟨cb,0,none⟩)] w fun e w'=>e=.returned (.int .i64 x1)∧yBq xs s1 base cb bv w w'):=yIz HD.out h1;clear h1;go_enter Tryz.func43,Tryz.ntmps43;go_wp2_with fail;refine HB.mono ?_;rintro e w1 ⟨rfl,hd⟩;have H1:Hid (yBq xs s1 base cb bv w w1):=hd;clear hd;go_wp2;go_ret;exact⟨rfl,H1.out⟩
 ·exact zzQ21
theorem yPd (h:yA5 xs s base cb bv w) (hm:1≤m) (hm2:m≤1048576) (he:belF xs m s=(x,s')):
  Calls Tryz.prog 33 #[.pointer (some ⟨cb,0,none⟩),.int .i64 m] w fun e w'=>e=.returned (.bool (x==0))∧yBq xs s' base cb bv w w':=by
 have HB:Hid (Calls Tryz.prog 43 #[.pointer (some ⟨cb,0,none⟩),.int .i64 m] w fun e w'=>e=.returned (.int .i64 x)∧yBq xs s' base cb bv w w'):=yAr h hm hm2 he;clear h he;obtain⟨b,hb⟩:∃b,(x==0)=b:=⟨_,rfl⟩;rw[hb];go_enter Tryz.func33,Tryz.ntmps33;go_wp2_with fail;refine HB.mono ?_;rintro e w1 ⟨rfl,hd⟩;have H1:Hid (yBq xs s' base cb bv w w1):=hd;clear hd;cases b
 ·go_wp2_with fail;go_ret;exact⟨rfl,H1.out⟩
 ·go_wp2_with fail;go_ret;exact⟨rfl,H1.out⟩
variable {ws:List ByteArray}
theorem yUw (h:yA5 xs s base cb bv w) {blk:Nat} (h1:1≤ws.length) (h2:ws.length≤100) (hne:¬blk=cb) (hlt:blk<w.heap.size) (hw:∀k t,ws[k]?=some t→w.cell? ⟨blk,k,none⟩=some (.string t)) {x:Nat} (he:belF xs (ws.length:Int) s=((x:Int),s')) {t:ByteArray} (ht:ws[x]?=some t):
  Calls Tryz.prog 34 #[.pointer (some ⟨cb,0,none⟩),.slice (some ⟨blk,0,none⟩) ws.length ws.length] w fun e w'=>e=.returned (.string t)∧yBq xs s' base cb bv w w':=by
 have HB:Hid (Calls Tryz.prog 43 #[.pointer (some ⟨cb,0,none⟩),.int .i64 (ws.length:Int)] w fun e w'=>e=.returned (.int .i64 (x:Int))∧yBq xs s' base cb bv w w'):=yAr h (by omega) (by omega) he;have hxl:x<ws.length:=(List.getElem?_eq_some_iff.1 ht).1;have HW:Hid (w.cell? ⟨blk,x,none⟩=some (.string t)):=hw x t ht;obtain⟨nw,hnw⟩:=qE ws.length;rw[←hnw]at HB h1 h2 hxl⊢;clear h he hw ht hnw;go_enter Tryz.func34,Tryz.ntmps34;go_wp2_with fail;refine HB.mono ?_;rintro e w1 ⟨rfl,hd⟩;have c1:w1.cell? ⟨blk,x,none⟩=some (.string t):=by rw[hd.2.cell (p:=⟨blk,x,none⟩) hlt hne];exact HW.out
 have H1:Hid (yBq xs s' base cb bv w w1):=hd;clear hd;go_wp2_with fail;go_ret;exact⟨rfl,H1.out⟩
def yHj (xs:List Int):Nat→Dst→List UInt8×Dst
 |0,s=>([],s)
 |m+1,s=>((yHj xs m s).1++ [UInt8.ofNat (97+(belF xs 3 (yHj xs m s).2).1.toNat)],(belF xs 3 (yHj xs m s).2).2)
def yB7 (xs:List Int) (a b:Int) (s:Dst):ByteArray×Dst:=(⟨(yHj xs (a+(belF xs (b-a+1) s).1).toNat (belF xs (b-a+1) s).2).1.toArray⟩,(yHj xs (a+(belF xs (b-a+1) s).1).toNat (belF xs (b-a+1) s).2).2)
variable {r:ByteArray}
theorem yCb (h:yA5 xs s base cb bv w) {a b:Int} (ha:0≤a) (hab:a≤b) (hb:b≤100) (he:yB7 xs a b s=(r,s')):
  Calls Tryz.prog 131 #[.pointer (some ⟨cb,0,none⟩),.int .i64 a,.int .i64 b] w fun e w'=>e=.returned (.string r)∧yBq xs s' base cb bv w w':=by
 have HD:Hid (yA5 xs s base cb bv w):=h;obtain⟨x,s1,hx⟩:∃x s1,belF xs (b-a+1) s=(x,s1):=⟨_,_,rfl⟩;have hxr:=yAm xs (m:=b-a+1) (by omega) s;rw[hx]at hxr;obtain⟨hx0,hx1⟩:=hxr;simp only at hx0 hx1;have HX:Hid (belF xs (b-a+1) s=(x,s1)):=hx;have HE:Hid (yB7 xs a b s=(r,s')):=he;have hbase:=h.base;have hcb:=h.lt;clear h hx he;go_enter Tryz.func131,Tryz.ntmps131;go_wp2_with fail;refine(yAr HD.out (by omega) (by omega) HX.out).mono ?_;rintro e w1 ⟨rfl,hD1,hC1⟩;have zq1:=hC1.size;have H1:Hid (yA5 xs s1 base cb bv w1∧Chg (fun k=>k=cb) w w1):=⟨hD1,hC1⟩;clear hD1 hC1;obtain⟨W2,hW2⟩:=qE (w1.alloc (Obj.cells #[] 5):World);have hb2:Below w1.heap.size w1 W2:=by rw[hW2];exact qB
 have HB2:Hid (OwnB W2 w.heap.size w1.heap.size 0 []∧yA5 xs s1 base cb bv W2∧Chg (fun k=>k=cb) w W2):=by refine⟨?_,H1.1.below hb2,H1.2.trans (Chg.of_below hb2)⟩;rw[hW2];exact yPc w1 w.heap.size zq1
 obtain⟨m,hm⟩:∃m:Nat,a+x=(m:Int):=⟨(a+x).toNat,by omega⟩;have hm2:m≤100:=by omega
 have HM:Hid (yHj xs m s1=((yHj xs m s1).1,s')∧r=⟨(yHj xs m s1).1.toArray⟩):=by have h9:=HE.out;unfold yB7 at h9;rw[HX.out]at h9;simp only[hm,Int.toNat_natCast,Prod.mk.injEq]at h9;exact⟨by rw[←h9.2],h9.1.symm⟩
 go_wp2_with fail;rw[←hW2];clear hW2 hm hb2;go_loopw[8,9] (fun o i wr=>∃(k g cp:Nat) (zs:List UInt8) (t:Dst),k≤m∧yHj xs k s1=(zs,t)∧i=.int .i64 k∧o=.slice (some ⟨g,0,none⟩) k cp∧zs.length=k∧OwnB wr w.heap.size g cp zs∧yA5 xs t base cb bv wr∧Chg (fun k=>k=cb) w wr) (fun _ i _=>m-(intOf i).toNat);case atStart=>exact⟨0,_,0,[],s1,Nat.zero_le _,rfl,rfl,rfl,rfl,HB2.1,HB2.2.1,HB2.2.2⟩
 case round=>
  obtain⟨k,g,cp,zs,t,hk,hls,rfl,rfl,hzl,hO,hD,hC⟩:=hrel;have HLs:Hid (yHj xs k s1=(zs,t)):=hls;clear hls;have HI:Hid (zs.length=k∧OwnB wr w.heap.size g cp zs∧yA5 xs t base cb bv wr∧Chg (fun k=>k=cb) w wr):=⟨hzl,hO,hD,hC⟩;have hgl:=World.ownsRow.lt hO g rfl;clear hzl hO hD hC;by_cases hlt:k<m
  ·have zk:(k:Int)<(m:Int):=by omega
   obtain⟨y,t1,hy⟩:∃y t1,belF xs 3 t=(y,t1):=⟨_,_,rfl⟩;have hyr:=yAm xs (m:=3) (by omega) t;rw[hy]at hyr;obtain⟨hy0,hy1⟩:=hyr;simp only at hy0 hy1;have HY:Hid (belF xs 3 t=(y,t1)):=hy;clear hy;go_wp2_with fail;refine(yAr HI.2.2.1 (by omega) (by omega) HY.out).mono ?_;rintro e w3 ⟨rfl,hD3,hC3⟩;have s3:=hC3.size;have HO3:Hid (OwnB w3 w.heap.size g cp zs∧yA5 xs t1 base cb bv w3∧Chg (fun k=>k=cb) w w3):=⟨yA2 HI.2.1 hC3 (fun k q=>by simp[Value.ownBlock]at q;subst q;omega),hD3,HI.2.2.2.trans hC3⟩;clear hD3 hC3;obtain⟨z,hz,hzy⟩:∃z:UInt8,(97:Int)+y=(z.toNat:Int)∧z=UInt8.ofNat (97+y.toNat):=⟨UInt8.ofNat (97+y.toNat),by rw[UInt8.toNat_ofNat'];omega,rfl⟩;have HZ:Hid ((97:Int)+y=(z.toNat:Int)):=hz;have HLn:Hid (yHj xs (k+1) s1=(zs++ [z],t1)):=by show _=_;unfold yHj;rw[HLs.out];simp only[HY.out];rw[hzy]
   clear hzy;have HKl:Hid (k=zs.length):=HI.1.symm;have s4:=HO3.2.2.size;clear hz;go_wp2_with (at_builtin;refine yD3 _ rfl _ _ rfl w.heap.size g cp _ _ zs z rfl _ rfl HKl.out ?hO ?hc ?hl ?hb ?_);case hO=>exact yA2 (S:=fun _=>False) HO3.1 (Chg.of_below (qB)) (fun k _ q=>q)
   case hc=>rw[←HZ.out];simp
   case hl=>rw[←HKl.out];omega
   case hb=>simp;omega
   intro g' cp' w' hO' hgr;have HN:Hid ((zs++ [z]).length=k+1∧OwnB w' w.heap.size g' cp' (zs++ [z])∧yA5 xs t1 base cb bv w'∧Chg (fun k=>k=cb) w w'):=by
    refine⟨by simp[HI.1],hO',?_,?_⟩
    ·have hd:=HO3.2.1.below ((Below.refl w3.heap.size w3).alloc (Nat.le_refl _) (Obj.cells #[.int .u8 (97+y)] 5));exact hd.chg (Chg.of_grown (S:=fun k=>k=g) hgr (fun k hk=>by cases hk;rfl)) (by omega) (fun k q=>by omega)
    ·exact Chg.grown_new (HO3.2.2.alloc_new _) hgr (fun k hk=>by cases hk;omega)
   clear hO' hgr;go_wp2_with fail;go_roundw;case rel=>exact⟨k+1,g',cp',zs++ [z],t1,by omega,HLn.out,by go_num,rfl,HN.1,HN.2.1,HN.2.2.1,HN.2.2.2⟩
   case measure=>go_light;simp[intOf];omega
  ·have zk:¬(k:Int)<(m:Int):=by omega
   have hcv:=yPr HI.2.1;rw[HI.1]at hcv;have hkm:k=m:=by omega
   have HS:Hid (r=⟨zs.toArray⟩∧s'=t):=by have h8:=HM.out;rw[←hkm,HLs.out]at h8;simp only[Prod.mk.injEq]at h8;exact⟨h8.2,h8.1.2.symm⟩
   clear hkm;go_wp2_with fail;go_ret;exact⟨by rw[HS.1];rfl,by rw[HS.2];exact HI.2.2.1,HI.2.2.2⟩
theorem yIt (c:UInt8) (m:Nat) (w:World) (hm:m≤100000):
  Calls Tryz.prog 42 #[.string ⟨#[c]⟩,.int .i64 m] w fun e w'=>e=.returned (.string ⟨(List.replicate m c).toArray⟩)∧Below w.heap.size w w':=by
 obtain⟨W2,hW2⟩:=qE (w.alloc (Obj.cells #[] 5):World);have hb2:Below w.heap.size w W2:=by rw[hW2];exact qB
 have HB2:Hid (OwnB W2 w.heap.size w.heap.size 0 []):=by show OwnB W2 _ _ _ _;rw[hW2];exact yPc w w.heap.size (Nat.le_refl _)
 go_enter Tryz.func42,Tryz.ntmps42;go_wp2_with fail;rw[←hW2];clear hW2;go_loopw[5,6] (fun o i wr=>∃(k g cp:Nat) (zs:List UInt8),k≤m∧i=.int .i64 k∧o=.slice (some ⟨g,0,none⟩) k cp∧zs=List.replicate k c∧OwnB wr w.heap.size g cp zs∧Below w.heap.size w wr) (fun _ i _=>m-(intOf i).toNat);case atStart=>exact⟨0,_,0,[],Nat.zero_le _,rfl,rfl,rfl,HB2.out,hb2⟩
 case round=>
  obtain⟨k,g,cp,zs,hk,rfl,rfl,hzl,hO,hb⟩:=hrel;have HI:Hid (zs=List.replicate k c∧OwnB wr w.heap.size g cp zs):=⟨hzl,hO⟩;have hgl:=World.ownsRow.lt hO g rfl;have hs:=hb.size;clear hzl hO;by_cases hlt:k<m
  ·have zk:(k:Int)<(m:Int):=by omega
   have HKl:Hid (k=zs.length):=by show k=zs.length;rw[HI.1];simp
   obtain⟨cx,W3,hrun,hb3,hc3⟩:=yWa c wr;have hs3:=hb3.size;go_wp2_with (at_builtin;refine yD3 _ rfl _ _ rfl w.heap.size g cp _ wr.heap.size zs c rfl cx rfl HKl.out ?hO ?hc ?hl ?hb ?_);case hO=>exact yA2 (S:=fun _=>False) HI.2 (Chg.of_below hb3) (fun k _ q=>q)
   case hc=>exact hc3
   case hl=>rw[←HKl.out];omega
   case hb=>omega
   intro g' cp' w' hO' hgr;have HN:Hid ((zs++ [c])=List.replicate (k+1) c∧OwnB w' w.heap.size g' cp' (zs++ [c])):=⟨by rw[HI.1,List.replicate_succ'],hO'⟩;have hb':Below w.heap.size w w':=(hb.trans (hb3.mono hs)).grown hgr (by omega) (fun j hj=>by cases hj;omega);clear hO' hgr hrun;go_wp2_with fail;go_roundw;case rel=>exact⟨k+1,g',cp',zs++ [c],by omega,by go_num,rfl,HN.1,HN.2,hb'⟩
   case measure=>go_light;simp[intOf];omega
  ·have zk:¬(k:Int)<(m:Int):=by omega
   have hcv:=yPr HI.2;have hzl:zs.length=k:=by rw[HI.1];simp
   rw[hzl]at hcv;clear hzl;have HS:Hid (zs=List.replicate m c):=by show _=_;rw[HI.1,show k=m by omega]
   go_wp2_with fail;go_ret;exact⟨by have h9:=HS.out;subst h9;simp,hb⟩
theorem yBk (a b:ByteArray):(a++b).size=a.size+b.size:=ByteArray.size_append
def yDo (xs:List Int) (ws:List ByteArray) (s:Dst):ByteArray×Dst:=((ws[(belF xs ws.length s).1.toNat]?).getD ⟨#[]⟩,(belF xs ws.length s).2)
theorem yDn (xs:List Int) (h1:1≤ws.length) (s:Dst):(yDo xs ws s).1∈ws:=by
 have hr:=yAm xs (m:=(ws.length:Int)) (by omega) s;unfold yDo;have hl:(belF xs ws.length s).1.toNat<ws.length:=by omega
 rw[List.getElem?_eq_getElem hl];exact List.getElem_mem hl
theorem yJ (h:yA5 xs s base cb bv w) {blk:Nat} (h1:1≤ws.length) (h2:ws.length≤100) (hne:¬blk=cb) (hlt:blk<w.heap.size) (hw:∀k t,ws[k]?=some t→w.cell? ⟨blk,k,none⟩=some (.string t)) {t:ByteArray} (he:yDo xs ws s=(t,s')):
  Calls Tryz.prog 34 #[.pointer (some ⟨cb,0,none⟩),.slice (some ⟨blk,0,none⟩) ws.length ws.length] w fun e w'=>e=.returned (.string t)∧yBq xs s' base cb bv w w':=by
 have hr:=yAm xs (m:=(ws.length:Int)) (by omega) s;have hl:(belF xs ws.length s).1.toNat<ws.length:=by omega
 unfold yDo at he;rw[List.getElem?_eq_getElem hl]at he;simp only[Option.getD_some,Prod.mk.injEq]at he;refine yUw h h1 h2 hne hlt hw (x:=(belF xs ws.length s).1.toNat) ?_ (List.getElem?_eq_some_iff.2 ⟨hl,he.1⟩);rw[←he.2,Int.toNat_of_nonneg hr.1]
def ws7:List ByteArray:= [⟨#[91,97,98,93]⟩,⟨#[91,97,45,99,93]⟩,⟨#[91,94,97,93]⟩,⟨#[91,98,99,93]⟩,⟨#[91,94,98,45,99,93]⟩,⟨#[91,97,92,93,93]⟩]
def ws8:List ByteArray:= [⟨#[92,46]⟩,⟨#[92,97]⟩,⟨#[92,92]⟩,⟨#[92,42]⟩]
def yHc (xs:List Int) (T:Dst→ByteArray×Dst) (d:Nat) (s:Dst):ByteArray×Dst:=
 if(belF xs 14 s).1<6∨d=0 then yB7 xs 1 1 (belF xs 14 s).2
 else if(belF xs 14 s).1=6 then(⟨#[46]⟩,(belF xs 14 s).2)
 else if(belF xs 14 s).1=7 then yDo xs ws7 (belF xs 14 s).2
 else if(belF xs 14 s).1=8 then yDo xs ws8 (belF xs 14 s).2
 else(⟨#[40]⟩++(T (belF xs 14 s).2).1++⟨#[41]⟩,(T (belF xs 14 s).2).2)
def yOr (xs:List Int) (T:Dst→ByteArray×Dst) (d m:Nat):Prop:=∀(s:Dst) (base cb:Nat) (bv:Value) (w:World),yA5 xs s base cb bv w→∀r s',T s=(r,s')→r.size≤m∧Calls Tryz.prog 140 #[.pointer (some ⟨cb,0,none⟩),.int .i64 d] w fun e w'=>e=.returned (.string r)∧yBq xs s' base cb bv w w'
variable {T:Dst→ByteArray×Dst} {d m:Nat}
theorem yR6 (hm:m≤100000) (hd:d≤5) (HT0:0<d→yOr xs T (d-1) m) (h:yA5 xs s base cb bv w) (he:yHc xs T d s=(r,s')):
  Calls Tryz.prog 151 #[.pointer (some ⟨cb,0,none⟩),.int .i64 d] w fun e w'=>e=.returned (.string r)∧yBq xs s' base cb bv w w':=by
 have HT:Hid (0<d→yOr xs T (d-1) m):=HT0;have HD:Hid (yA5 xs s base cb bv w):=h;have hcl0:=h.lt.2;obtain⟨x,s1,hx⟩:∃x s1,belF xs 14 s=(x,s1):=⟨_,_,rfl⟩;have hxr:=yAm xs (m:=14) (by omega) s;rw[hx]at hxr;obtain⟨hx0,hx1⟩:=hxr;simp only at hx0 hx1;unfold yHc at he;simp only[hx]at he;have HX:Hid (belF xs 14 s=(x,s1)):=hx;clear h HT0 hx;go_enter Tryz.func151,Tryz.ntmps151;go_wp2_with fail;refine(yAr HD.out (by omega) (by omega) HX.out).mono ?_;rintro e w1 ⟨rfl,hD1,hC1⟩;have H1:Hid (yA5 xs s1 base cb bv w1∧Chg (fun k=>k=cb) w w1):=⟨hD1,hC1⟩;have hcl:=hD1.lt.2;clear hD1 hC1;by_cases hk:x<6∨d=0
 ·rw[if_pos hk]at he;have HE:Hid (yB7 xs 1 1 s1=(r,s')):=he;have hq:Hid (x<6∨d=0):=hk;clear he;by_cases h6:x<6
  ·exact zzQ50
  ·obtain rfl:d=0:=by omega
   exact zzQ50
 rw[if_neg hk]at he;have h6:¬x<6:=fun q=>hk (.inl q);have hd0:0<d:=Nat.pos_of_ne_zero fun q=>hk (.inr q);have hdz:((d:Int)==0)=false:=by rw[beq_eq_false_iff_ne];omega
 clear hk;by_cases h7:x=6
 ·rw[if_pos h7]at he;simp only[Prod.mk.injEq]at he;obtain⟨rfl,rfl⟩:=he;subst h7;go_wp2_with fail;go_ret;exact⟨rfl,H1.out⟩
 rw[if_neg h7]at he;have b6:(x==6)=false:=by rw[beq_eq_false_iff_ne];exact h7
 by_cases h8:x=7
 ·rw[if_pos h8]at he;have HE:Hid (yDo xs ws7 s1=(r,s')):=he;subst h8;clear he;go_wp2_with fail;refine(yJ (ws:=ws7) (H1.1.below (qB)) (by decide) (by decide) (by omega) (by simp) ?_ HE.out).mono ?_
  ·intro k t ht;have hkl:k<6:=(List.getElem?_eq_some_iff.1 ht).1;match k,hkl,ht with
   |0,_,ht=>simp[ws7]at ht;subst ht;simp
   |1,_,ht=>simp[ws7]at ht;subst ht;simp
   |2,_,ht=>simp[ws7]at ht;subst ht;simp
   |3,_,ht=>simp[ws7]at ht;subst ht;simp
   |4,_,ht=>simp[ws7]at ht;subst ht;simp
   |5,_,ht=>simp[ws7]at ht;subst ht;simp
  ·exact zzQ65
 rw[if_neg h8]at he;have b7:(x==7)=false:=by rw[beq_eq_false_iff_ne];exact h8
 by_cases h9:x=8
 ·rw[if_pos h9]at he;have HE:Hid (yDo xs ws8 s1=(r,s')):=he;subst h9;clear he;go_wp2_with fail;refine(yJ (ws:=ws8) (H1.1.below (qB)) (by decide) (by decide) (by omega) (by simp) ?_ HE.out).mono ?_
  ·intro k t ht;have hkl:k<4:=(List.getElem?_eq_some_iff.1 ht).1;match k,hkl,ht with
   |0,_,ht=>simp[ws8]at ht;subst ht;simp
   |1,_,ht=>simp[ws8]at ht;subst ht;simp
   |2,_,ht=>simp[ws8]at ht;subst ht;simp
   |3,_,ht=>simp[ws8]at ht;subst ht;simp
  ·exact zzQ65
 rw[if_neg h9]at he;have b8:(x==8)=false:=by rw[beq_eq_false_iff_ne];exact h9
 obtain⟨t,s2,ht⟩:∃t s2,T s1=(t,s2):=⟨_,_,rfl⟩;simp only[ht,Prod.mk.injEq]at he;obtain⟨rfl,rfl⟩:=he;have HK:Hid (Calls Tryz.prog 140 #[.pointer (some ⟨cb,0,none⟩),.int .i64 ((d-1:Nat):Int)] w1 fun e w'=>e=.returned (.string t)∧yBq xs s2 base cb bv w1 w'):=(HT.out hd0 s1 base cb bv w1 H1.1 t s2 ht).2;have hts:=(HT.out hd0 s1 base cb bv w1 H1.1 t s2 ht).1;have ed:Hid (((d:Int)-1)=((d-1:Nat):Int)):=by show(d:Int)-1=_;omega
 clear ht;go_wp2_with fail;rw[ed.out];refine HK.mono ?_;rintro e w3 ⟨rfl,hD3,hC3⟩;have H3:Hid (yBq xs s2 base cb bv w w3):=⟨hD3,H1.2.trans hC3⟩;clear hD3 hC3;go_wp2_with fail;go_ret;exact⟨rfl,H3.out⟩
def yGj (q k:Nat) (x:Int) (a:ByteArray):ByteArray:=if x=0 then a++⟨#[42]⟩else if x=1 then a++⟨#[43]⟩else if x=2 then a++⟨#[63]⟩else if x=3∧k+1<q then a++⟨#[124]⟩else a
def yCd (xs:List Int) (P:Dst→ByteArray×Dst) (q:Nat):Nat→Dst→ByteArray×Dst
 |0,s=>(⟨#[]⟩,s)
 |k+1,s=>(yGj q k (belF xs 9 (P (yCd xs P q k s).2).2).1 ((yCd xs P q k s).1++(P (yCd xs P q k s).2).1),(belF xs 9 (P (yCd xs P q k s).2).2).2)
def yIl (xs:List Int) (P:Dst→ByteArray×Dst) (s:Dst):ByteArray×Dst:=
 if(belF xs 14 (yCd xs P (belF xs 4 s).1.toNat (belF xs 4 s).1.toNat (belF xs 4 s).2).2).1=0 then((yCd xs P (belF xs 4 s).1.toNat (belF xs 4 s).1.toNat (belF xs 4 s).2).1++⟨#[42]⟩,(belF xs 14 (yCd xs P (belF xs 4 s).1.toNat (belF xs 4 s).1.toNat (belF xs 4 s).2).2).2)
 else((yCd xs P (belF xs 4 s).1.toNat (belF xs 4 s).1.toNat (belF xs 4 s).2).1,(belF xs 14 (yCd xs P (belF xs 4 s).1.toNat (belF xs 4 s).1.toNat (belF xs 4 s).2).2).2)
def yXo (xs:List Int) (P:Dst→ByteArray×Dst) (d m:Nat):Prop:=(∀s,(P s).1.size≤m)∧∀(s:Dst) (base cb:Nat) (bv:Value) (w:World),yA5 xs s base cb bv w→∀r s',P s=(r,s')→Calls Tryz.prog 151 #[.pointer (some ⟨cb,0,none⟩),.int .i64 d] w fun e w'=>e=.returned (.string r)∧yBq xs s' base cb bv w w'
variable {P:Dst→ByteArray×Dst}
theorem yR2 (hm:m≤100000) (hd:d≤5) (HP0:yXo xs P d m) {st:Dst} (h:yA5 xs st base cb bv w) (he:yIl xs P st=(r,s')):
  Calls Tryz.prog 140 #[.pointer (some ⟨cb,0,none⟩),.int .i64 d] w fun e w'=>e=.returned (.string r)∧yBq xs s' base cb bv w w':=by
 have HP:Hid (yXo xs P d m):=HP0;have HD:Hid (yA5 xs st base cb bv w):=h;obtain⟨y,s1,hy⟩:∃y s1,belF xs 4 st=(y,s1):=⟨_,_,rfl⟩;have hyr:=yAm xs (m:=4) (by omega) st;rw[hy]at hyr;obtain⟨hy0,hy1⟩:=hyr;simp only at hy0 hy1;obtain⟨q,rfl⟩:=Int.eq_ofNat_of_zero_le hy0;have HY:Hid (belF xs 4 st=((q:Int),s1)):=hy;have HE:Hid ((if(belF xs 14 (yCd xs P q q s1).2).1=0 then((yCd xs P q q s1).1++⟨#[42]⟩,(belF xs 14 (yCd xs P q q s1).2).2)else((yCd xs P q q s1).1,(belF xs 14 (yCd xs P q q s1).2).2))=(r,s')):=by have h9:=he;unfold yIl at h9;rw[hy]at h9;simp only[Int.toNat_natCast]at h9;exact h9
 clear h HP0 hy he;go_enter Tryz.func140,Tryz.ntmps140;go_wp2_with fail;refine(yAr HD.out (by omega) (by omega) HY.out).mono ?_;rintro e w1 ⟨rfl,hD1,hC1⟩;have H1:Hid (yA5 xs s1 base cb bv w1∧Chg (fun k=>k=cb) w w1):=⟨hD1,hC1⟩;clear hD1 hC1;go_wp2_with fail;go_loopw[5,7] (fun o i wr=>∃(k:Nat) (s:ByteArray) (u:Dst),k≤q∧Hid (yCd xs P q k s1=(s,u))∧i=.int .i64 k∧o=.string s∧Hid (s.size≤k*(m+2))∧Hid (yA5 xs u base cb bv wr∧Chg (fun k=>k=cb) w wr)) (fun _ i _=>q-(intOf i).toNat);case atStart=>exact⟨0,_,s1,Nat.zero_le _,rfl,rfl,rfl,Nat.le_of_eq (by simp[ByteArray.size]),H1.out⟩
 case round=>
  obtain⟨k,s,u,hk,HLp,rfl,rfl,HS,HI⟩:=hrel;have hsz:s.size≤400000:=by have a1:=HS.out;have a2:k*(m+2)≤3*(m+2):=Nat.mul_le_mul_right _ (by omega);omega
  by_cases hlt:k<q
  ·have zk:(k:Int)<(q:Int):=by omega
   obtain⟨t,u1,htp⟩:∃t u1,P u=(t,u1):=⟨_,_,rfl⟩;have ht:t.size≤m:=by have h9:=HP.1 u;rw[htp]at h9;exact h9
   obtain⟨x,u2,hxp⟩:∃x u2,belF xs 9 u1=(x,u2):=⟨_,_,rfl⟩;have hxr:=yAm xs (m:=9) (by omega) u1;rw[hxp]at hxr;obtain⟨hx0,hx1⟩:=hxr;simp only at hx0 hx1;have HPT:Hid (P u=(t,u1)∧belF xs 9 u1=(x,u2)):=⟨htp,hxp⟩;have HNx:Hid (yCd xs P q (k+1) s1=(yGj q k x (s++t),u2)):=by show _=_;unfold yCd;rw[HLp.out];simp only[htp,hxp]
   clear htp hxp;go_wp2_with fail;refine(HP.2 u base cb bv _ HI.1 t u1 HPT.1).mono ?_;rintro e w2 ⟨rfl,hD2,hC2⟩;have H2:Hid (yA5 xs u1 base cb bv w2∧Chg (fun k=>k=cb) w w2):=⟨hD2,HI.2.trans hC2⟩;have HTZ:Hid (t.size≤m):=ht;have htz:t.size≤100000:=by omega
   have hst:(s++t).size≤500000:=by rw[yBk];omega
   clear hD2 hC2 ht;go_wp2_with fail;refine(yAr H2.1 (by omega) (by omega) HPT.2).mono ?_;rintro e w3 ⟨rfl,hD3,hC3⟩;have H3:Hid (yA5 xs u2 base cb bv w3∧Chg (fun k=>k=cb) w w3):=⟨hD3,H2.2.trans hC3⟩;clear hD3 hC3;have e1:Hid ((s++t).size≤(k+1)*(m+2)):=by show _≤_;have a1:=HS.out;have a2:=HTZ.out;rw[yBk,Nat.add_mul];omega
   have e2:Hid (∀c:UInt8,(s++t++(⟨#[c]⟩:ByteArray)).size≤(k+1)*(m+2)):=by intro c;have a1:=HS.out;have a2:=HTZ.out;rw[yBk,yBk,Nat.add_mul];show s.size+t.size+1≤_;omega
   by_cases h0:x=0
   ·subst h0;have hsg:yGj q k 0 (s++t)=s++t++(⟨#[42]⟩:ByteArray):=by unfold yGj;simp
    rw[hsg]at HNx;clear hsg;go_wp2_with fail;go_roundw;case rel=>exact⟨k+1,_,u2,by omega,HNx.out,by go_num,rfl,e2.out 42,H3.out⟩
    case measure=>go_light;simp[intOf];omega
   have b0:(x==0)=false:=by rw[beq_eq_false_iff_ne];exact h0
   by_cases h1:x=1
   ·subst h1;have hsg:yGj q k 1 (s++t)=s++t++(⟨#[43]⟩:ByteArray):=by unfold yGj;simp
    rw[hsg]at HNx;clear hsg;go_wp2_with fail;go_roundw;case rel=>exact⟨k+1,_,u2,by omega,HNx.out,by go_num,rfl,e2.out 43,H3.out⟩
    case measure=>go_light;simp[intOf];omega
   have b1:(x==1)=false:=by rw[beq_eq_false_iff_ne];exact h1
   by_cases h2:x=2
   ·subst h2;have hsg:yGj q k 2 (s++t)=s++t++(⟨#[63]⟩:ByteArray):=by unfold yGj;simp
    rw[hsg]at HNx;clear hsg;go_wp2_with fail;go_roundw;case rel=>exact⟨k+1,_,u2,by omega,HNx.out,by go_num,rfl,e2.out 63,H3.out⟩
    case measure=>go_light;simp[intOf];omega
   have b2:(x==2)=false:=by rw[beq_eq_false_iff_ne];exact h2
   by_cases h3:x=3
   ·subst h3;by_cases hn:k+1<q
    ·have hn2:((k:Int)+1<(q:Int)):=by omega
     have hsg:yGj q k 3 (s++t)=s++t++(⟨#[124]⟩:ByteArray):=by unfold yGj;simp[hn]
     rw[hsg]at HNx;clear hsg;go_wp2_with fail;go_roundw;case rel=>exact⟨k+1,_,u2,by omega,HNx.out,by go_num,rfl,e2.out 124,H3.out⟩
     case measure=>go_light;simp[intOf];omega
    ·have hn2:¬((k:Int)+1<(q:Int)):=by omega
     have hsg:yGj q k 3 (s++t)=s++t:=by unfold yGj;simp[hn]
     exact zzQ67
   have b3:(x==3)=false:=by rw[beq_eq_false_iff_ne];exact h3
   have hsg:yGj q k x (s++t)=s++t:=by unfold yGj;simp[h0,h1,h2,h3]
   exact zzQ67
  ·have zk:¬(k:Int)<(q:Int):=by omega
   have HS2:Hid (s.size≤3*m+6):=by show _≤_;have a1:=HS.out;have a2:k*(m+2)≤3*(m+2):=Nat.mul_le_mul_right _ (by omega);omega
   have hkq:k=q:=by omega
   obtain⟨x,u1,hxp⟩:∃x u1,belF xs 14 u=(x,u1):=⟨_,_,rfl⟩;have HXp:Hid (belF xs 14 u=(x,u1)):=hxp;have HFin:Hid ((x=0→r=s++(⟨#[42]⟩:ByteArray)∧s'=u1)∧(¬x=0→r=s∧s'=u1)):=by
    have h9:=HE.out;rw[←hkq]at h9;rw[show yCd xs P k k s1=(s,u)from by have h8:=HLp.out;rw[←hkq]at h8;exact h8]at h9;simp only[hxp]at h9;refine⟨fun z=>?_,fun z=>?_⟩
    ·rw[if_pos z]at h9;simp only[Prod.mk.injEq]at h9;exact⟨h9.1.symm,h9.2.symm⟩
    ·rw[if_neg z]at h9;simp only[Prod.mk.injEq]at h9;exact⟨h9.1.symm,h9.2.symm⟩
   clear hkq hxp;go_wp2_with fail;refine(yPd HI.1 (by omega) (by omega) HXp.out).mono ?_;rintro e w2 ⟨rfl,hD2,hC2⟩;have H2:Hid (yA5 xs u1 base cb bv w2∧Chg (fun k=>k=cb) w w2):=⟨hD2,HI.2.trans hC2⟩;clear hD2 hC2;by_cases hz:x=0
   ·obtain⟨rfl,rfl⟩:=HFin.1 hz;subst hz;go_wp2_with fail;go_ret;exact⟨rfl,H2.out⟩
   ·obtain⟨rfl,rfl⟩:=HFin.2 hz;have bz:(x==0)=false:=by rw[beq_eq_false_iff_ne];exact hz
    rw[bz];go_wp2_with fail;go_ret;exact⟨rfl,H2.out⟩
theorem yJi (xs:List Int):∀(m:Nat) (s:Dst),(yHj xs m s).1.length=m
 |0,s=>rfl
 |m+1,s=>by unfold yHj;simp[yJi xs m s]
theorem yJ4 (l:List UInt8):(⟨l.toArray⟩:ByteArray).size=l.length:=by simp[ByteArray.size]
theorem yB4 (xs:List Int) {a b:Int} (ha:0≤a) (hab:a≤b) (hb:b≤100) (s:Dst):(yB7 xs a b s).1.size≤100:=by have hr:=yAm xs (m:=b-a+1) (by omega) s;unfold yB7;rw[yJ4,yJi];omega
theorem yD0 (xs:List Int) (hT:0<d→∀s,(T s).1.size≤m) (s:Dst):(yHc xs T d s).1.size≤m+1002:=by
 unfold yHc;split
 ·have:=yB4 xs (a:=1) (b:=1) (by omega) (by omega) (by omega) (belF xs 14 s).2;omega
 ·rename_i hk;split
  ·show(1:Nat)≤_;omega
  ·split
   ·have h1:=yDn xs (ws:=ws7) (by decide) (belF xs 14 s).2;have h2:∀t∈ws7,t.size≤6:=by decide
    have:=h2 _ h1;omega
   ·split
    ·have h1:=yDn xs (ws:=ws8) (by decide) (belF xs 14 s).2;have h2:∀t∈ws8,t.size≤6:=by decide
     have:=h2 _ h1;omega
    ·have h1:=hT (by omega) (belF xs 14 s).2;simp only[yBk];show 1+_+1≤_;omega
theorem yQc (q k:Nat) (x:Int) (a:ByteArray):(yGj q k x a).size≤a.size+1:=by
 unfold yGj;split
 ·rw[yBk];exact Nat.le_refl _
 split
 ·rw[yBk];exact Nat.le_refl _
 split
 ·rw[yBk];exact Nat.le_refl _
 split
 ·rw[yBk];exact Nat.le_refl _
 ·omega
theorem yI9 (xs:List Int) (hP:∀s,(P s).1.size≤m) (q:Nat):∀(k:Nat) (s:Dst),(yCd xs P q k s).1.size≤k*(m+2)
 |0,s=>by unfold yCd;exact Nat.zero_le _
 |k+1,s=>by
  have ih:=yI9 xs hP q k s
  unfold yCd
  have h1:=yQc q k (belF xs 9 (P (yCd xs P q k s).2).2).1 ((yCd xs P q k s).1++(P (yCd xs P q k s).2).1)
  have h2:=hP (yCd xs P q k s).2
  rw[yBk]at h1
  rw[Nat.add_mul]
  simp only
  omega
theorem yEy (xs:List Int) (hP:∀s,(P s).1.size≤m) (s:Dst):(yIl xs P s).1.size≤3*m+10:=by
 have hr:=yAm xs (m:=4) (by omega) s;have h1:=yI9 xs hP (belF xs 4 s).1.toNat (belF xs 4 s).1.toNat (belF xs 4 s).2;have h2:(belF xs 4 s).1.toNat*(m+2)≤3*(m+2):=Nat.mul_le_mul_right _ (by omega);unfold yIl;split
 ·simp only[yBk];show _+1≤_;omega
 ·simp only;omega
theorem yLd (hm:m≤90000) (hd:d≤5) (hS:0<d→∀s,(T s).1.size≤m) (hT:0<d→yOr xs T (d-1) m):yOr xs (yIl xs (yHc xs T d)) d (3*(m+1002)+10):=by intro s base cb bv w h r s' he;refine⟨?_,yR2 (m:=m+1002) (by omega) hd ⟨fun s=>yD0 xs hS s,fun s base cb bv w h r s' he=>yR6 (by omega) hd hT h he⟩ h he⟩;have:=yEy xs (P:=yHc xs T d) (m:=m+1002) (fun s=>yD0 xs hS s) s;rw[he]at this;exact this
def yYk (xs:List Int):Dst→ByteArray×Dst:=yIl xs (yHc xs (fun s=>(⟨#[]⟩,s)) 0)
def yYi (xs:List Int):Dst→ByteArray×Dst:=yIl xs (yHc xs (yYk xs) 1)
def yN2 (xs:List Int):Dst→ByteArray×Dst:=yIl xs (yHc xs (yYi xs) 2)
theorem yKu (xs:List Int) (s:Dst):(yYk xs s).1.size≤3016:=yEy xs (m:=1002) (fun s=>by have:=yD0 xs (T:=fun s=>(⟨#[]⟩,s)) (d:=0) (m:=0) (fun q=>absurd q (by omega)) s;omega) s
theorem yKt (xs:List Int) (s:Dst):(yYi xs s).1.size≤12064:=yEy xs (m:=4018) (fun s=>yD0 xs (m:=3016) (fun _=>yKu xs) s) s
theorem yQ (xs:List Int) (s:Dst):(yN2 xs s).1.size≤39208:=yEy xs (m:=13066) (fun s=>yD0 xs (m:=12064) (fun _=>yKt xs) s) s
theorem yYj (xs:List Int):yOr xs (yYk xs) 0 3016:=yLd (m:=0) (by omega) (by omega) (fun q=>absurd q (by omega)) (fun q=>absurd q (by omega))
theorem yYh (xs:List Int):yOr xs (yYi xs) 1 12064:=yLd (m:=3016) (by omega) (by omega) (fun _=>yKu xs) (fun _=>yYj xs)
theorem yRs (xs:List Int):yOr xs (yN2 xs) 2 39208:=yLd (m:=12064) (by omega) (by omega) (fun _=>yKt xs) (fun _=>yYh xs)
def yA (w:World) (base t sz g:Nat) (vs:List Value):Prop:=w.ownsRow base t sz (.slice (some ⟨g,0,none⟩) 1 1) 1 vs
variable {t sz:Nat} {vs:List Value}
theorem yA.len (h:yA w base t sz g vs):vs.length=sz:=by have:=h.1;omega
theorem yA.lt (h:yA w base t sz g vs):base≤g∧g<w.heap.size:=World.ownsRow.lt h g rfl
theorem yA.chg (h:yA w base t sz g vs) (hc:Chg S w w') (hn:¬S g):yA w' base t sz g vs:=yA2 h hc (fun k q=>by simp[Value.ownBlock]at q;subst q;exact hn)
theorem yA.below (h:yA w base t sz g vs) (hb:Below w.heap.size w w'):yA w' base t sz g vs:=h.chg (Chg.of_below hb) (S:=fun _=>False) (fun q=>q)
theorem yA.cell (h:yA w base t sz g vs) {j:Nat} {v:Value} (hv:vs[j]?=some v):w.cell? ⟨g,j,none⟩=some v:=by have hj:=(List.getElem?_eq_some_iff.1 hv).1;rw[World.ownsRow.cellAt h j (by have:=h.len;omega),hv]
theorem yA.frozen (h:yA w base t sz g vs) (j:Nat):w.frozen? ⟨g,j,none⟩=false:=World.ownsRow.frozenAt h j
theorem yA.set (h:yA w base t sz g vs) (j:Nat) (u:Value):yA (w.setCell ⟨g,j,none⟩ u) base t sz g (vs.set j u):=(World.ownsRow.stored h j u).1
variable {k:Nat}
theorem yA.beside (h:yA w base t sz g vs) (hk:¬g=k) (j:Nat) (u:Value):yA (w.setCell ⟨k,j,none⟩ u) base t sz g vs:=h.chg (Chg.of_set w k j u (S:=fun q=>q=k) rfl) hk
theorem yAb (w:World) (cs:Array Value) (hb:base≤w.heap.size) (hs:cs.size=sz):yA (w.alloc (.cells cs t)) base t sz w.heap.size cs.toList:=
 World.ownsRow_lit w cs 1 hb (by decide) (by omega)
def set3 (w:World) (g:Nat) (a b c:Value):World:=((w.setCell ⟨g,0,none⟩ a).setCell ⟨g,1,none⟩ b).setCell ⟨g,2,none⟩ c
theorem yA.set3 (h:yA w base t 3 g vs) (a b c:Value):yA (set3 w g a b c) base t 3 g [a,b,c]:=by
 have h1:=((h.set 0 a).set 1 b).set 2 c;have hl:=h.len;match vs,hl with
 | [x,y,z],_=>exact h1
theorem yAd {a:World} (h:Below B a w) (hk:B≤k) (j:Nat) (u:Value):Below B a (w.setCell ⟨k,j,none⟩ u):=h.setCell (p:=⟨k,j,none⟩) hk u
theorem yGi {a:World} (h:Below B a w) (hk:B≤k) (x y z:Value):Below B a (set3 w k x y z):=yAd (yAd (yAd h hk 0 x) hk 1 y) hk 2 z
theorem yUo (w:World) (k j:Nat) (u:Value):(w.setCell ⟨k,j,none⟩ u).heap.size=w.heap.size:=by simp[World.setCell]
section
variable {P:Program} {C:World→Prop}
def fk (m:Value) (o:Oper):Oper:={o with op:=.move (.const m)}
def yOv (pre:List Oper) (o:Oper) (tl:List Oper) (d:Tmp) (sl:List Tmp):Bool:=
 sl.all (fun s=>s != d && ((List.range pre.length).all (fun i=>match pre[i]? with
  |some oi=>oi.dst != some s || o.after.any (fun e=>Region.binds .any e && e.on==i)
  |none=>true) && tl.all (fun oi=>oi.dst != some s))) && pre.all (fun oi=>oi.dst != some d) && tl.all (fun oi=>oi.dst != some d && oi.after.any (fun e=>Region.binds .any e && Nat.ble pre.length e.on))
theorem yE7 (pre tl:List Oper) (i:Nat):(pre++tl).toArray[i]?=if i<pre.length then pre[i]? else tl[i-pre.length]?:=by
 rw[List.getElem?_toArray];by_cases h:i<pre.length
 ·rw[if_pos h,List.getElem?_append_left h]
 ·rw[if_neg h,List.getElem?_append_right (by omega)]
theorem yO7 (m:Value) (pre tl:List Oper) (listed:Array Bool):Region.ready .any (pre++tl.map (fk m)).toArray listed=Region.ready .any (pre++tl).toArray listed:=by
 unfold Region.ready;have hz:(pre++tl.map (fk m)).toArray.size=(pre++tl).toArray.size:=by simp
 rw[hz];congr 1;funext i;rw[yE7,yE7];by_cases h:i<pre.length
 ·rw[if_pos h,if_pos h]
 ·rw[if_neg h,if_neg h,List.getElem?_map];cases tl[i-pre.length]?<;>rfl
theorem yP4 (m:Value) (pre tl:List Oper) (tmps:Array Value):yielded (pre++tl.map (fk m)).toArray tmps=yielded (pre++tl).toArray tmps:=by
 funext j;unfold yielded;rw[yE7,yE7];by_cases h:j<pre.length
 ·rw[if_pos h,if_pos h]
 ·rw[if_neg h,if_neg h,List.getElem?_map];cases tl[j-pre.length]?<;>rfl
theorem yHb (a:Act) (dst:Option Tmp) (v:Value) (s:Tmp) (h:dst≠some s):(a.put dst v).tmps.getD s undef=a.tmps.getD s undef:=by
 cases dst with
 |none=>rfl
 |some t=>
  have hts:t≠s:=fun q=>h (by rw[q]);show(a.tmps.setIfInBounds t v).getD s undef=_;rw[Array.getD_eq_getD_getElem?,Array.getD_eq_getD_getElem?,Array.getElem?_setIfInBounds_ne hts]
theorem yKy (a:Act) (dst:Option Tmp) (v:Value):(a.put dst v).defers=a.defers:=by cases dst<;>rfl
theorem yK3 (listed:Array Bool) (i j:Nat) (d:Bool) (h:listed.getD j d=true):(listed.setIfInBounds i true).getD j d=true:=by
 rw[Array.getD_eq_getD_getElem?]at h⊢;by_cases q:i=j
 ·subst q;rw[Array.getElem?_setIfInBounds_self];split
  ·rfl
  ·next hl=>rw[Array.getElem?_eq_none (by omega)]at h;exact h
 ·rw[Array.getElem?_setIfInBounds_ne q];exact h
theorem yLg {ops:Array Oper} {Q:Act→Prop} (s:Tmp) (x:Value) (hQ:∀a,Q a→a.tmps.getD s undef=x):∀(fuel:Nat) (listed:Array Bool) (a:Act),wpAnyQ P .any ops C Q fuel listed a→
  (∀i oi,ops[i]?=some oi→oi.dst=some s→listed.getD i true=true)→a.tmps.getD s undef=x
 |0,listed,a,h,_=>hQ a h.2
 |fuel+1,listed,a,h,hl=>by
  cases hr:Region.ready .any ops listed with
  |nil=>exact hQ a (h.1 hr)
  |cons i rest=>
   have hi:i∈Region.ready .any ops listed:=by rw[hr];simp
   have hq:=h.2 i hi
   obtain⟨hun,oi,hoi,_⟩:=mem_ready.1 hi
   have hd:oi.dst≠some s:=fun e=>by
    have:=hl i oi hoi e
    rw[hun]at this;cases this
   have hl':∀j oj,ops[j]?=some oj→oj.dst=some s→(listed.setIfInBounds i true).getD j true=true:=fun j oj hj e=>yK3 _ _ _ _ (hl j oj hj e)
   unfold qOp at hq
   simp only[hoi]at hq
   split at hq
   ·obtain⟨v,_,h2⟩:=hq
    have:=yLg s x hQ fuel _ _ h2 hl'
    rwa [yHb _ _ _ _ hd]at this
   ·have:=yLg s x hQ fuel _ _ hq hl'
    rwa [yHb _ _ _ _ hd]at this
variable {Q:Exit→Act→World→Prop}
theorem yJ8 {m:Value} {pre tl:List Oper} {o:Oper} {D:List Deferred} (d:Tmp) (sl:List (Tmp×Value)) (hB2:yOv pre o tl d (sl.map (·.1))=true) (hdst:o.dst=some d) (hg:o.guard=none)
  (hop:∀(a':Act) (w':World) (K:Act→World→Prop),C w'→a'.defers=D→(∀p∈sl,a'.tmps.getD p.1 undef=p.2)→o.wp P a' w' K Q):
  ∀(fuel:Nat) (listed:Array Bool) (a:Act) (w:World),wpAnyQ P .any (pre++(o::tl).map (fk m)).toArray C (fun a'=>a'.tmps.getD d undef=m∧∀p∈sl,a'.tmps.getD p.1 undef=p.2) fuel listed a→C w→
   a.tmps.getD d undef≠m→a.defers=D→(∀j,pre.length≤j→listed.getD j false=false)→wpAny P .any (pre++o::tl).toArray Q fuel listed a w
 |0,listed,a,w,h,_,hm,_,_=>absurd h.2.1 hm
 |fuel+1,listed,a,w,h,hw,hm,hD,hJ=>by
  have hB3:=hB2
  simp only[yOv,Bool.and_eq_true,List.all_eq_true]at hB2
  obtain⟨⟨hS,hP⟩,hT⟩:=hB2
  refine⟨fun hr=>absurd (h.1 (by rw[yO7];exact hr)).1 hm,fun i hi=>?_⟩
  have hq:=h.2 i (by rw[yO7];exact hi)
  obtain⟨hun,oi,hoi,hdep⟩:=mem_ready.1 hi
  rw[yE7]at hoi
  unfold wpOp
  unfold qOp at hq
  rw[yE7]at hq⊢
  by_cases hlt:i<pre.length
  ·rw[if_pos hlt]at hoi hq⊢
   have hne:oi.dst≠some d:=by have:=hP oi (List.mem_of_getElem? hoi);simpa using this
   have hJ':∀j,pre.length≤j→(listed.setIfInBounds i true).getD j false=false:=by intro j hj;have:=hJ j hj;rw[Array.getD_eq_getD_getElem?]at this⊢;rw[Array.getElem?_setIfInBounds_ne (by omega)];exact this
   simp only[hoi]at hq⊢
   rw[yP4]at hq
   split
   ·next hwt=>
    rw[if_pos hwt]at hq;obtain⟨v,h1,h2⟩:=hq;refine .inl (Oper.wp_of_quiet (K:=fun a'=>wpAnyQ P .any (pre++(o::tl).map (fk m)).toArray C (fun a'=>a'.tmps.getD d undef=m∧∀p∈sl,a'.tmps.getD p.1 undef=p.2) fuel (listed.setIfInBounds i true) a'∧a'.tmps.getD d undef≠m∧a'.defers=D) hw ?_ ⟨v,h1,h2,by rw[yHb _ _ _ _ hne];exact hm,by rw[yKy];exact hD⟩);intro a' w' hw' hk;exact yJ8 d sl hB3 hdst hg hop fuel _ a' w' hk.1 hw' hk.2.1 hk.2.2 hJ'
   ·next hwt=>
    rw[if_neg hwt]at hq;exact yJ8 d sl hB3 hdst hg hop fuel _ _ w hq hw (by rw[yHb _ _ _ _ hne];exact hm) (by rw[yKy];exact hD) hJ'
  ·rw[if_neg hlt]at hoi hq⊢;by_cases hn:i=pre.length
   ·rw[hn,Nat.sub_self]at hoi hq⊢;simp only[List.getElem?_cons_zero,List.map_cons,Option.some.injEq]at hoi hq⊢;have hw1:∀y,Region.wanted o y=true:=fun y=>by unfold Region.wanted;rw[hg]
    have hw2:∀y,Region.wanted (fk m o) y=true:=fun y=>by unfold Region.wanted;show(match o.guard with|none=>true|some (j,want)=>y j==some want)=true;rw[hg]
    simp only[hw1,hw2,if_true]at hq⊢;obtain⟨v,_,h2⟩:=hq;refine .inl (hop a w _ hw hD fun p hp=>?_);have hps:=hS p.1 (List.mem_map.2 ⟨p,hp,rfl⟩);have hpd:(some d:Option Tmp)≠some p.1:=by
     have:=hps.1;intro q;cases q
     simp at this
    have h3:=yLg (C:=C) p.1 p.2 (fun a' h=>h.2 p hp) fuel _ _ h2 (by
     intro j oj hj e
     rw[yE7]at hj
     by_cases hjl:j<pre.length
     ·rw[if_pos hjl]at hj
      have h4:=hps.2.1 j (List.mem_range.2 hjl)
      simp only[hj,Bool.or_eq_true]at h4
      rcases h4 with h4|h4
      ·rw[e]at h4;simp at h4
      ·rw[Array.any_eq_true']at h4
       obtain⟨ed,hed,h5⟩:=h4
       simp only[Bool.and_eq_true,beq_iff_eq]at h5
       have h6:=hdep ed (by rw[←hoi];exact hed) h5.1
       rw[h5.2]at h6
       refine yK3 _ _ _ _ ?_
       rw[Array.getD_eq_getD_getElem?]at h6⊢
       cases hx:listed[j]? with
       |none=>rfl
       |some y=>rw[hx]at h6;exact h6
     ·rw[if_neg hjl]at hj
      obtain⟨k,hk⟩:∃k,j-pre.length=k:=⟨_,rfl⟩
      rw[hk,←List.map_cons,List.getElem?_map]at hj
      cases k with
      |zero=>
       simp only[List.getElem?_cons_zero,Option.map_some,Option.some.injEq]at hj
       rw[←hj]at e
       exact absurd (hdst.symm.trans e) hpd
      |succ k=>
       simp only[List.getElem?_cons_succ]at hj
       cases ht:tl[k]? with
       |none=>rw[ht]at hj;cases hj
       |some ot=>
        rw[ht]at hj
        simp only[Option.map_some,Option.some.injEq]at hj
        have h7:=hps.2.2 ot (List.mem_of_getElem? ht)
        rw[←hj]at e
        have e2:ot.dst=some p.1:=e
        rw[e2]at h7
        simp at h7)
    have hfd:(fk m o).dst=some d:=hdst;rwa [hfd,yHb _ _ _ _ hpd]at h3
   ·exfalso;obtain⟨k,hk⟩:∃k,i-pre.length=k+1:=⟨i-pre.length-1,by omega⟩;rw[hk]at hoi;simp only[List.getElem?_cons_succ]at hoi;have h8:=hT oi (List.mem_of_getElem? hoi);rw[Array.any_eq_true']at h8;obtain⟨ed,hed,h9⟩:=h8.2;simp only[Bool.and_eq_true]at h9;have h10:=hdep ed hed h9.1;rw[hJ ed.on (Nat.le_of_ble_eq_true h9.2)]at h10;cases h10
theorem yKd {id:Nat} {a:Act} (pre:List Oper) (o:Oper) (tl:List Oper) (d:Tmp) (sl:List (Tmp×Value)) (l:List Oper) (hl:l=pre++o::tl) (hm:P.follows .mixedOrders=true) (hB:∀m,Region.lexB .any (pre++(o::tl).map (fk m)).toArray=true)
  (hB2:yOv pre o tl d (sl.map (·.1))=true) (hdst:o.dst=some d) (hg:o.guard=none) (hC:C {w with drawn:=w.drawn+1})
  (h:∀m,wpQuiet P (pre++(o::tl).map (fk m)).toArray C (fun a'=>a'.tmps.getD d undef=m∧∀p∈sl,a'.tmps.getD p.1 undef=p.2) (pre++(o::tl).map (fk m)) a)
  (hop:∀(a':Act) (w':World) (K:Act→World→Prop),C w'→a'.defers=a.defers→(∀p∈sl,a'.tmps.getD p.1 undef=p.2)→o.wp P a' w' K Q):(Code.region id l.toArray true).wp P Q a w:=by
 subst hl;obtain⟨m,h0⟩:∃m,a.tmps.getD d undef≠m:=by
  by_cases q:a.tmps.getD d undef=.bool true
  ·exact⟨.bool false,by rw[q];intro e;cases e⟩
  ·exact⟨.bool true,q⟩
 have hBm:=hB m;simp only[Region.lexB,Bool.and_eq_true]at hBm;refine wp_region_any hm ?_;have h1:=wpAnyQ_lex (C:=C) (md:=.any) hBm.1 (pre++(o::tl).map (fk m)) 0 (Array.replicate (pre++(o::tl).map (fk m)).toArray.size false) a (by simp) (by simpa using hBm.2) (h m);have hz:(pre++o::tl).toArray.size=(pre++(o::tl).map (fk m)).length:=by simp
 rw[hz];have hz2:(pre++(o::tl).map (fk m)).toArray.size=(pre++(o::tl).map (fk m)).length:=by simp
 rw[hz2]at h1;refine yJ8 d sl hB2 hdst hg hop _ _ _ _ h1 hC h0 rfl ?_;intro j _;rw[Array.getD_eq_getD_getElem?,Array.getElem?_replicate];split<;>rfl
end
structure Out (w:World) where
 u:World
 out:Below w.heap.size w u
theorem yBu {id:Nat} {Q:Exit→Act→World→Prop} {a:Act} {l:List Oper} (hm:Tryz.prog.follows .mixedOrders=true) (hB:Region.lexB .any l.toArray=true)
  (h:wpQuiet Tryz.prog l.toArray (fun w'=>∃n:Out w,w'=n.u) (fun a'=>∀w',(∃n:Out w,w'=n.u)→Q .normal a' w') l a):(Code.region id l.toArray true).wp Tryz.prog Q a w:=
 wp_region_quiet (C:=fun w'=>∃n:Out w,w'=n.u) hm hB ⟨⟨_,(Below.refl _ _).drew⟩,rfl⟩ (by simpa using h)
theorem Calls.out_of {f:FuncId} {args:Array Value} {n:Out w} {v:Value}
  (h:Calls Tryz.prog f args n.u fun e w'=>e=.returned v∧Below n.u.heap.size n.u w'):Calls Tryz.prog f args n.u fun e w''=>e=.returned v∧∃m:Out w,w''=m.u:=
 h.mono fun _ w' ⟨he,hb⟩=>⟨he,⟨w',n.out.trans (hb.mono n.out.size)⟩,rfl⟩
variable {v0 v1:Value} {r:List Value}
theorem yA.c2 (h:yA w base t sz g (v0::v1::r)):w.cell? ⟨g,0,none⟩=some v0∧w.cell? ⟨g,1,none⟩=some v1:=
 ⟨h.cell (j:=0) rfl,h.cell (j:=1) rfl⟩
variable {v2:Value}
theorem yA.c3 (h:yA w base t sz g (v0::v1::v2::r)):w.cell? ⟨g,0,none⟩=some v0∧w.cell? ⟨g,1,none⟩=some v1∧w.cell? ⟨g,2,none⟩=some v2:=
 ⟨h.cell (j:=0) rfl,h.cell (j:=1) rfl,h.cell (j:=2) rfl⟩
variable {v3:Value}
theorem yA.c4 (h:yA w base t sz g (v0::v1::v2::v3::r)):w.cell? ⟨g,0,none⟩=some v0∧w.cell? ⟨g,1,none⟩=some v1∧w.cell? ⟨g,2,none⟩=some v2∧w.cell? ⟨g,3,none⟩=some v3:=
 ⟨h.cell (j:=0) rfl,h.cell (j:=1) rfl,h.cell (j:=2) rfl,h.cell (j:=3) rfl⟩
variable {v4:Value}
theorem yA.c5 (h:yA w base t sz g (v0::v1::v2::v3::v4::r)):w.cell? ⟨g,0,none⟩=some v0∧w.cell? ⟨g,1,none⟩=some v1∧w.cell? ⟨g,2,none⟩=some v2∧w.cell? ⟨g,3,none⟩=some v3∧w.cell? ⟨g,4,none⟩=some v4:=
 ⟨h.cell (j:=0) rfl,h.cell (j:=1) rfl,h.cell (j:=2) rfl,h.cell (j:=3) rfl,h.cell (j:=4) rfl⟩
variable {v5:Value}
theorem yA.c6 (h:yA w base t sz g (v0::v1::v2::v3::v4::v5::r)):w.cell? ⟨g,0,none⟩=some v0∧w.cell? ⟨g,1,none⟩=some v1∧w.cell? ⟨g,2,none⟩=some v2∧w.cell? ⟨g,3,none⟩=some v3∧w.cell? ⟨g,4,none⟩=some v4∧w.cell? ⟨g,5,none⟩=some v5:=
 ⟨h.cell (j:=0) rfl,h.cell (j:=1) rfl,h.cell (j:=2) rfl,h.cell (j:=3) rfl,h.cell (j:=4) rfl,h.cell (j:=5) rfl⟩
variable {v6:Value}
theorem yA.c7 (h:yA w base t sz g (v0::v1::v2::v3::v4::v5::v6::r)):w.cell? ⟨g,0,none⟩=some v0∧w.cell? ⟨g,1,none⟩=some v1∧w.cell? ⟨g,2,none⟩=some v2∧w.cell? ⟨g,3,none⟩=some v3∧w.cell? ⟨g,4,none⟩=some v4∧w.cell? ⟨g,5,none⟩=some v5∧w.cell? ⟨g,6,none⟩=some v6:=
 ⟨h.cell (j:=0) rfl,h.cell (j:=1) rfl,h.cell (j:=2) rfl,h.cell (j:=3) rfl,h.cell (j:=4) rfl,h.cell (j:=5) rfl,h.cell (j:=6) rfl⟩
variable {v7:Value}
theorem yA.c8 (h:yA w base t sz g (v0::v1::v2::v3::v4::v5::v6::v7::r)):w.cell? ⟨g,0,none⟩=some v0∧w.cell? ⟨g,1,none⟩=some v1∧w.cell? ⟨g,2,none⟩=some v2∧w.cell? ⟨g,3,none⟩=some v3∧w.cell? ⟨g,4,none⟩=some v4∧w.cell? ⟨g,5,none⟩=some v5∧w.cell? ⟨g,6,none⟩=some v6∧w.cell? ⟨g,7,none⟩=some v7:=
 ⟨h.cell (j:=0) rfl,h.cell (j:=1) rfl,h.cell (j:=2) rfl,h.cell (j:=3) rfl,h.cell (j:=4) rfl,h.cell (j:=5) rfl,h.cell (j:=6) rfl,h.cell (j:=7) rfl⟩
variable {v8:Value}
theorem yA.c9 (h:yA w base t sz g (v0::v1::v2::v3::v4::v5::v6::v7::v8::r)):w.cell? ⟨g,0,none⟩=some v0∧w.cell? ⟨g,1,none⟩=some v1∧w.cell? ⟨g,2,none⟩=some v2∧w.cell? ⟨g,3,none⟩=some v3∧w.cell? ⟨g,4,none⟩=some v4∧w.cell? ⟨g,5,none⟩=some v5∧w.cell? ⟨g,6,none⟩=some v6∧w.cell? ⟨g,7,none⟩=some v7∧w.cell? ⟨g,8,none⟩=some v8:=
 ⟨h.cell (j:=0) rfl,h.cell (j:=1) rfl,h.cell (j:=2) rfl,h.cell (j:=3) rfl,h.cell (j:=4) rfl,h.cell (j:=5) rfl,h.cell (j:=6) rfl,h.cell (j:=7) rfl,h.cell (j:=8) rfl⟩
variable {v9:Value}
theorem yA.c10 (h:yA w base t sz g (v0::v1::v2::v3::v4::v5::v6::v7::v8::v9::r)):w.cell? ⟨g,0,none⟩=some v0∧w.cell? ⟨g,1,none⟩=some v1∧w.cell? ⟨g,2,none⟩=some v2∧w.cell? ⟨g,3,none⟩=some v3∧w.cell? ⟨g,4,none⟩=some v4∧w.cell? ⟨g,5,none⟩=some v5∧w.cell? ⟨g,6,none⟩=some v6∧w.cell? ⟨g,7,none⟩=some v7∧w.cell? ⟨g,8,none⟩=some v8∧w.cell? ⟨g,9,none⟩=some v9:=
 ⟨h.cell (j:=0) rfl,h.cell (j:=1) rfl,h.cell (j:=2) rfl,h.cell (j:=3) rfl,h.cell (j:=4) rfl,h.cell (j:=5) rfl,h.cell (j:=6) rfl,h.cell (j:=7) rfl,h.cell (j:=8) rfl,h.cell (j:=9) rfl⟩
theorem yA.c11 {v10:Value} (h:yA w base t sz g (v0::v1::v2::v3::v4::v5::v6::v7::v8::v9::v10::r)):w.cell? ⟨g,0,none⟩=some v0∧w.cell? ⟨g,1,none⟩=some v1∧w.cell? ⟨g,2,none⟩=some v2∧w.cell? ⟨g,3,none⟩=some v3∧w.cell? ⟨g,4,none⟩=some v4∧w.cell? ⟨g,5,none⟩=some v5∧w.cell? ⟨g,6,none⟩=some v6∧w.cell? ⟨g,7,none⟩=some v7∧w.cell? ⟨g,8,none⟩=some v8∧w.cell? ⟨g,9,none⟩=some v9∧w.cell? ⟨g,10,none⟩=some v10:=
 ⟨h.cell (j:=0) rfl,h.cell (j:=1) rfl,h.cell (j:=2) rfl,h.cell (j:=3) rfl,h.cell (j:=4) rfl,h.cell (j:=5) rfl,h.cell (j:=6) rfl,h.cell (j:=7) rfl,h.cell (j:=8) rfl,h.cell (j:=9) rfl,h.cell (j:=10) rfl⟩
theorem yA.c12 {v10 v11:Value} (h:yA w base t sz g (v0::v1::v2::v3::v4::v5::v6::v7::v8::v9::v10::v11::r)):w.cell? ⟨g,0,none⟩=some v0∧w.cell? ⟨g,1,none⟩=some v1∧w.cell? ⟨g,2,none⟩=some v2∧w.cell? ⟨g,3,none⟩=some v3∧w.cell? ⟨g,4,none⟩=some v4∧w.cell? ⟨g,5,none⟩=some v5∧w.cell? ⟨g,6,none⟩=some v6∧w.cell? ⟨g,7,none⟩=some v7∧w.cell? ⟨g,8,none⟩=some v8∧w.cell? ⟨g,9,none⟩=some v9∧w.cell? ⟨g,10,none⟩=some v10∧w.cell? ⟨g,11,none⟩=some v11:=
 ⟨h.cell (j:=0) rfl,h.cell (j:=1) rfl,h.cell (j:=2) rfl,h.cell (j:=3) rfl,h.cell (j:=4) rfl,h.cell (j:=5) rfl,h.cell (j:=6) rfl,h.cell (j:=7) rfl,h.cell (j:=8) rfl,h.cell (j:=9) rfl,h.cell (j:=10) rfl,h.cell (j:=11) rfl⟩
theorem yA.f2 (h:yA w base t sz g vs):w.frozen? ⟨g,0,none⟩=false∧w.frozen? ⟨g,1,none⟩=false:=⟨h.frozen 0,h.frozen 1⟩
theorem yA.f3 (h:yA w base t sz g vs):w.frozen? ⟨g,0,none⟩=false∧w.frozen? ⟨g,1,none⟩=false∧w.frozen? ⟨g,2,none⟩=false:=⟨h.frozen 0,h.frozen 1,h.frozen 2⟩
theorem yA.f4 (h:yA w base t sz g vs):w.frozen? ⟨g,0,none⟩=false∧w.frozen? ⟨g,1,none⟩=false∧w.frozen? ⟨g,2,none⟩=false∧w.frozen? ⟨g,3,none⟩=false:=⟨h.frozen 0,h.frozen 1,h.frozen 2,h.frozen 3⟩
theorem yA.f5 (h:yA w base t sz g vs):w.frozen? ⟨g,0,none⟩=false∧w.frozen? ⟨g,1,none⟩=false∧w.frozen? ⟨g,2,none⟩=false∧w.frozen? ⟨g,3,none⟩=false∧w.frozen? ⟨g,4,none⟩=false:=⟨h.frozen 0,h.frozen 1,h.frozen 2,h.frozen 3,h.frozen 4⟩
theorem yA.f6 (h:yA w base t sz g vs):w.frozen? ⟨g,0,none⟩=false∧w.frozen? ⟨g,1,none⟩=false∧w.frozen? ⟨g,2,none⟩=false∧w.frozen? ⟨g,3,none⟩=false∧w.frozen? ⟨g,4,none⟩=false∧w.frozen? ⟨g,5,none⟩=false:=⟨h.frozen 0,h.frozen 1,h.frozen 2,h.frozen 3,h.frozen 4,h.frozen 5⟩
theorem yA.f7 (h:yA w base t sz g vs):w.frozen? ⟨g,0,none⟩=false∧w.frozen? ⟨g,1,none⟩=false∧w.frozen? ⟨g,2,none⟩=false∧w.frozen? ⟨g,3,none⟩=false∧w.frozen? ⟨g,4,none⟩=false∧w.frozen? ⟨g,5,none⟩=false∧w.frozen? ⟨g,6,none⟩=false:=⟨h.frozen 0,h.frozen 1,h.frozen 2,h.frozen 3,h.frozen 4,h.frozen 5,h.frozen 6⟩
theorem yA.f8 (h:yA w base t sz g vs):w.frozen? ⟨g,0,none⟩=false∧w.frozen? ⟨g,1,none⟩=false∧w.frozen? ⟨g,2,none⟩=false∧w.frozen? ⟨g,3,none⟩=false∧w.frozen? ⟨g,4,none⟩=false∧w.frozen? ⟨g,5,none⟩=false∧w.frozen? ⟨g,6,none⟩=false∧w.frozen? ⟨g,7,none⟩=false:=⟨h.frozen 0,h.frozen 1,h.frozen 2,h.frozen 3,h.frozen 4,h.frozen 5,h.frozen 6,h.frozen 7⟩
theorem yA.f9 (h:yA w base t sz g vs):w.frozen? ⟨g,0,none⟩=false∧w.frozen? ⟨g,1,none⟩=false∧w.frozen? ⟨g,2,none⟩=false∧w.frozen? ⟨g,3,none⟩=false∧w.frozen? ⟨g,4,none⟩=false∧w.frozen? ⟨g,5,none⟩=false∧w.frozen? ⟨g,6,none⟩=false∧w.frozen? ⟨g,7,none⟩=false∧w.frozen? ⟨g,8,none⟩=false:=⟨h.frozen 0,h.frozen 1,h.frozen 2,h.frozen 3,h.frozen 4,h.frozen 5,h.frozen 6,h.frozen 7,h.frozen 8⟩
end Go.Proofs.YtgnpcenpcmdlfaaGreatDoor
