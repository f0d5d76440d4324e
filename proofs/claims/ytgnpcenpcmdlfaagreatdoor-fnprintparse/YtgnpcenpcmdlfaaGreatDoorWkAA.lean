import Derived.Deep.RegionHeld3
import Derived.Test.YtgnpcenpcmdlfaaGreatDoorRows
import Derived.WalkKit
import Derived.ProofKit
import Derived.OpenShut
import Derived.ShutString
import Derived.ChangeOld
import Derived.Below
import Derived.WalkSpells
import Derived.WalkLawsBesides
import Derived.Outline
import Derived.Deep.Light
import Derived.Lib.SmallJoins
import Derived.OwnWalk
import Derived.Deep.MidRow
import Derived.Deep.DeepCutAuto
import Derived.Deep.RegionWith
import Derived.Deep.QuietTactic
import Derived.BigQuiet
import Derived.Deep.AppendLies
import Derived.Lib.Bytealg
import Derived.Lib.Slices
import Derived.Lib.Walk
import Derived.Laws.Tables
import Derived.Laws.Rows
import Derived.Deep.WholeRow
import Derived.Deep.RegionLaw
import Derived.Maps.AppendAt
import Derived.Recover
import Derived.RecoverIn
import Derived.Stop.Asserts
import Derived.Lib.ItoaNum
import Derived.Lib.ConvBytes
import Derived.ArgAppend
import Derived.Lib.SlBytesConst
import Derived.Lib.AppendStr
import Derived.Lib.OthersKept
import Derived.Lib.OwnKind
import Derived.Lib.AppendIntMem
import Derived.Lib.SlBytesRow
import Derived.Deep.CutBlock
import Derived.Lib.AppendZeros
import Derived.Deep.LoopGhost
import Derived.Great.BuildSlice
import Derived.LaidMore
import Derived.Lib.LaidTab
import Derived.Stop.Joined
import Derived.Test.YtgnpcenpcmdlfaaGreatDoorChecked
namespace Go.Proofs.YtgnpcenpcmdlfaaGreatDoor
open Go.RowKit
set_option linter.unusedVariables false
theorem qA:(∀(a:Act) (n:Nat) (v:Value),a.put (some n) v={a with tmps:=a.tmps.setIfInBounds n v})∧(∀(a:Act) (v:Value),a.put none v=a)∧(∀(l:List Value) (i:Nat) (v:Value),l.toArray.setIfInBounds i v=(l.set i v).toArray)∧
  (∀(x v:Value) (l:List Value),(x::l).set 0 v=v::l)∧(∀(x v:Value) (l:List Value) (i:Nat),(x::l).set (i+1) v=x::l.set i v):=
 ⟨fun _ _ _=>rfl,fun _ _=>rfl,fun _ _ _=>by simp,fun _ _ _=>rfl,fun _ _ _ _=>rfl⟩
theorem qE {α:Sort _} (x:α):∃y,y=x:=⟨x,rfl⟩
theorem qB {w:World} {o:Obj}:Below w.heap.size w (w.alloc o):=(Below.refl _ _).alloc (Nat.le_refl _) _
end Go.Proofs.YtgnpcenpcmdlfaaGreatDoor
namespace Go.Proofs.YtgnpcenpcmdlfaaGreatDoor
theorem zzR0 {p:Prop} (h:p:=by (intro wz hSw;obtain⟨hz0,hz1,hz2,hz3⟩:=hSw;go_simp;(try with_reducible rfl))):p:=h
theorem zzR1 {p:Prop} (h:p:=by (intro wz hSw;(try dsimp only at hSw);go_simp;(try with_reducible rfl))):p:=h
theorem zzR2 {p:Prop} (h:p:=by (intro wz hSw;obtain⟨hz0,hz1,hz2⟩:=hSw;go_simp;(try with_reducible rfl))):p:=h
theorem zzR3 {p:Prop} (h:p:=by (intro wz hSw;go_simp;(try with_reducible rfl))):p:=h
theorem zzR4 {p:Prop} (h:p:=by (intro wz _;go_simp;(try with_reducible rfl))):p:=h
theorem zzR5 {p:Prop} (h:p:=by (intro wz hSw;obtain⟨z0,z1,z2,z3⟩:=hSw;obtain⟨c0,c1,c2,c3,c4,c5,c6⟩:=z2 i x HXx.out;obtain⟨d0,d1,d2,d3,d4,d5,d6⟩:=z3 i x HXx.out;go_simp;(try with_reducible rfl))):p:=h
theorem zzR6 {p:Prop} (h:p:=by (intro wz hSw;obtain⟨hz0,hz1,hz2,hz3,hz4,hz5,hz6,hz7⟩:=hSw;go_simp;(try with_reducible rfl))):p:=h
theorem zzR7 {p:Prop} (h:p:=by (intro wz hSw;(try dsimp only at hSw);go_simp;rfl)):p:=h
theorem zzR8 {p:Prop} (h:p:=by (intro wz hSw;obtain⟨hz0,hz1,hz2⟩:=hSw;have hcv:=conv_win hz2 i (j-i) (cap-i) (by have:=HN.out;omega);rw[HW.out]at hcv;go_simp;(try with_reducible rfl))):p:=h
theorem zzR9 {p:Prop} (h:p:=by (intro wz _;go_simp;simp only[HD.2.2.1])):p:=h
theorem zzR10 {p:Prop} (h:p:=by (intro wz _;go_simp;first|exact HD.2.1|rw[HD.2.1])):p:=h
theorem zzR11 {p:Prop} (h:p:=by (intro wz _;go_simp;simp only[HD.2.2.2])):p:=h
theorem zzR12 {p:Prop} (h:p:=by (intro wz hSw;(try dsimp only at hSw);go_simp;first|done|rfl|(rw[IntKind.wrap_u64];omega)|(congr 3;rw[IntKind.wrap_u64];omega)|(trace_state;omega))):p:=h
theorem zzQ0 {p:Prop} (h:p:=by
 try simp only[qA,List.getElem_toArray,List.getElem_cons_zero,List.getElem_cons_succ]
 refine anyT_one (i:=19) (by kernel_rfl) rfl (fun K hK=>?_)
 go_simp
 go_at_call 27
 refine(fdem_yes _ 7 W4.drew).mono ?_
 rintro e w5 ⟨rfl,hw5⟩
 rw[hw5]
 clear hw5
 refine hK.out _ _ (.inr hS0) ?_
 clear hK
 refine anyT_done (by kernel_rfl) ?_
 clear hS0
 obtain⟨W5,hW5⟩:∃V:World,V=W4.drew:=⟨_,rfl⟩
 have hb5:Below W4.heap.size W4 W5:=by rw[hW5];exact(Below.refl _ _).drew
 have H5:Hid (EnJ w base g b off n cap t d nv a s3 k3 ks3 p3 nv3 W5∧BoxAt W5 w3.heap.size 65 7 w3.heap.size [.int .i64 kd,.string a.k.txt,.bool false,.string ⟨#[]⟩,.int .u64 a.k.nm,.int .u64 0,.int .i64 0]):=⟨H4.1.up hb5,H4.2.1.chg (S:=fun _=>False) (Chg.of_below hb5) (fun q=>q)⟩
 rw[←hW5]
 clear hW5 hb5
 have HTk:Hid (Calls Tryz.prog 114 #[.pointer (some ⟨g,0,none⟩)] W5 (TakP base g b off n cap t d s3 k3 nv3 W5)):=ftake_core H5.1.st H5.1.fp hfin
 go_wp2_with fail
 refine HTk.mono ?_
 clear HTk
 rintro e w6 ⟨Hb6,(⟨k6,ks6,p6,htk,rfl,hF6⟩|⟨c,e6,htk,rfl⟩)⟩
 case inr=>
  have HD:Hid (BehP base g b off n cap t d (fun r=>r=liftP s (rangeF kd strs s.ks)) nv w (Pf c (e6:Int)) w6):=H5.1.die (Hb6.mono (fun q z=>.inl z)) (by
   show _=_
   rw[HA6.out,htk];rfl)
  clear htk
  exact⟨rfl,HD.out⟩
 have HA7:Hid (liftP s (rangeF kd strs s.ks)=.ok (⟨k6::ks6,s3.made,s3.out⟩,(⟨kd,a.k.txt,true,k3.k.txt,a.k.nm,k3.k.nm,0⟩:Nd))):=by show _=_;rw[HA6.out,htk];rfl
 have hJ6:EnJ w base g b off n cap t d nv a ⟨k6::ks6,s3.made,s3.out⟩ k6 ks6 p6 nv3 w6:=H5.1.on (Hb6.mono (fun q z=>.inl z)) hF6 (fun q hq=>.inl hq)
 have hB6:=H5.2.chg Hb6.out (by have:=HJ3.lt;omega)
 obtain⟨W7,hW7⟩:∃V:World,V=w6.alloc (Obj.cells #[.int .u8 ((ftB k3.k).toNat:Int),.int .i64 (k3.pos:Int),.int .i64 k3.k.wd,.int .u64 k3.k.nm,.string k3.k.txt] 52):=⟨_,rfl⟩
 have hb7:Below w6.heap.size w6 W7:=by rw[hW7];exact qB
 have H7:Hid (EnJ w base g b off n cap t d nv a ⟨k6::ks6,s3.made,s3.out⟩ k6 ks6 p6 nv3 W7∧BoxAt W7 w3.heap.size 65 7 w3.heap.size [.int .i64 kd,.string a.k.txt,.bool false,.string ⟨#[]⟩,.int .u64 a.k.nm,.int .u64 0,.int .i64 0]∧BoxAt W7 w6.heap.size 52 5 w6.heap.size (ftV k3)∧w3.heap.size<w6.heap.size):=⟨hJ6.up hb7,hB6.chg (S:=fun _=>False) (Chg.of_below hb7) (fun q=>q),by rw[hW7];exact boxAt_new w6 _ (Nat.le_refl _) rfl,hB6.lt.2⟩
 clear htk hF6 hJ6 hB6 hb7 Hb6
 go_upto_region 9 with fail
 rw[←hW7]
 clear hW7
 have y3:=H7.2.2.1.cell (j:=3) rfl
 have y4:=H7.2.2.1.cell (j:=4) rfl
 have x2:=H7.2.1.cell (j:=2) rfl
 have x3:=H7.2.1.cell (j:=3) rfl
 have x5:=H7.2.1.cell (j:=5) rfl
 have u2:=H7.2.1.frozen 2
 have u3:=H7.2.1.frozen 3
 have u5:=H7.2.1.frozen 5
 have hne:¬w6.heap.size=w3.heap.size:=by have:=H7.2.2.2;omega
 go_region
 obtain⟨W8,hW8⟩:∃V:World,V=(((W7.setCell ⟨w3.heap.size,2,none⟩ (Value.bool true)).setCell ⟨w3.heap.size,3,none⟩ (Value.string k3.k.txt)).setCell ⟨w3.heap.size,5,none⟩ (Value.int IntKind.u64 k3.k.nm)).drew:=⟨_,rfl⟩
 have hc8:Chg (fun q=>q=w3.heap.size) W7 W8:=by
  rw[hW8]
  exact(((Chg.of_set (S:=fun q=>q=w3.heap.size) _ _ _ _ rfl).trans (Chg.of_set (S:=fun q=>q=w3.heap.size) _ _ _ _ rfl)).trans (Chg.of_set (S:=fun q=>q=w3.heap.size) _ _ _ _ rfl)).trans (Chg.of_below (Below.refl _ _).drew)
 have H8:Hid (EnJ w base g b off n cap t d nv a ⟨k6::ks6,s3.made,s3.out⟩ k6 ks6 p6 nv3 W8∧BoxAt W8 w3.heap.size 65 7 w3.heap.size [.int .i64 kd,.string a.k.txt,.bool true,.string k3.k.txt,.int .u64 a.k.nm,.int .u64 k3.k.nm,.int .i64 0]):=⟨H7.1.side hc8 (by have:=HJ3.lt;omega) (fun q hq z=>by have:=(HJ3.fp.nlt q hq).2;omega),by
  have h1:=((H7.2.1.set 2 (.bool true)).set 3 (.string k3.k.txt)).set 5 (.int .u64 k3.k.nm)
  rw[hW8]
  exact BoxAt.chg (S:=fun _=>False) h1 (Chg.of_below (Below.refl _ _).drew) (fun q=>q)⟩
 rw[←hW8]
 clear hW8 hc8 x2 x3 x5 u2 u3 u5 y3 y4 hne
 have hne:¬w3.heap.size=w.heap.size:=by have:=HJ3.lt;omega
 have l0:=H8.1.res.cell (j:=0) rfl
 have l1:=H8.1.res.cell (j:=1) rfl
 have l2:=H8.1.res.cell (j:=2) rfl
 have l3:=H8.1.res.cell (j:=3) rfl
 have l4:=H8.1.res.cell (j:=4) rfl
 have l5:=H8.1.res.cell (j:=5) rfl
 have l6:=H8.1.res.cell (j:=6) rfl
 have f0:=H8.1.res.frozen 0
 have f1:=H8.1.res.frozen 1
 have f2:=H8.1.res.frozen 2
 have f3:=H8.1.res.frozen 3
 have f4:=H8.1.res.frozen 4
 have f5:=H8.1.res.frozen 5
 have f6:=H8.1.res.frozen 6
 have c0:=H8.2.cell (j:=0) rfl
 have c1:=H8.2.cell (j:=1) rfl
 have c2:=H8.2.cell (j:=2) rfl
 have c3:=H8.2.cell (j:=3) rfl
 have c4:=H8.2.cell (j:=4) rfl
 have c5:=H8.2.cell (j:=5) rfl
 have c6:=H8.2.cell (j:=6) rfl
 obtain⟨W9,hW9⟩:∃V:World,V=setN W8 w.heap.size ((⟨kd,a.k.txt,true,k3.k.txt,a.k.nm,k3.k.nm,0⟩:Nd)):=⟨_,rfl⟩
 have hB9:=H8.1.res.setN ((⟨kd,a.k.txt,true,k3.k.txt,a.k.nm,k3.k.nm,0⟩:Nd))
 rw[←hW9]at hB9
 have hc9:Chg (fun q=>q=w.heap.size) W8 W9:=by rw[hW9];exact chg_setN _ _ _
 have HR:Hid (BehP base g b off n cap t d (fun r=>r=liftP s (rangeF kd strs s.ks)) nv w (.returned ((⟨kd,a.k.txt,true,k3.k.txt,a.k.nm,k3.k.nm,0⟩:Nd)).v) W9):=H8.1.fin (by show _=_;rw[HA7.out]) hc9
 have q0:=hB9.cell (j:=0) rfl
 have q1:=hB9.cell (j:=1) rfl
 have q2:=hB9.cell (j:=2) rfl
 have q3:=hB9.cell (j:=3) rfl
 have q4:=hB9.cell (j:=4) rfl
 have q5:=hB9.cell (j:=5) rfl
 have q6:=hB9.cell (j:=6) rfl
 unfold setN at hW9
 simp only[noS]at hW9 q0 q1 q2 q3 q4 q5 q6
 clear hB9 hc9
 go_wp2_with fail
 rw[←hW9]
 exact bodyPost_ret (v:=((⟨kd,a.k.txt,true,k3.k.txt,a.k.nm,k3.k.nm,0⟩:Nd)).v) (by simp[results,Tryz.results129,go_sem,q0,q1,q2,q3,q4,q5,q6,noS]) rfl HR.out):p:=h
theorem zzQ1 {p:Prop} (h:p:=by
 go_wp2_with fail
 go_loopw[6,7] (fun jv nv wr=>∃(j n:Nat) (f:UInt8→Bool),j≤p.size∧n≤j∧jv=.int .i64 (j:Int)∧nv=.int .i64 (n:Int)∧ClsEq (sb p) (i+1) false j (decide (0<n)) f∧wr=W0) (fun jv _ _=>p.size-(intOf jv).toNat)
 case atStart=>exact⟨j0,0,fun _=>false,hj0,Nat.zero_le _,congrArg (Value.int .i64) (by rw[HJ0.out];simp<;>omega),rfl,HM0.out,rfl⟩
 case round=>
  obtain⟨j,n,f,hj,hnj,rfl,rfl,hE,hwr⟩:=hrel
  have HE:Hid (ClsEq (sb p) (i+1) false j (decide (0<n)) f):=hE
  rw[hwr]
  clear hE hwr HM0 HJ0 HNG
  by_cases hlt:j<p.size
  ·obtain⟨x,hx⟩:∃x,(sb p)[j]?=some x:=⟨_,List.getElem?_eq_getElem (by rw[sb_len];exact hlt)⟩
   obtain⟨_,gx⟩:=sb_get hx
   have HX:Hid ((sb p)[j]?=some x):=hx
   have zj:(j:Int)<(p.size:Int):=by omega
   clear hx
   by_cases hend:x=93∧0<n
   ·obtain⟨rfl,hn0⟩:=hend
    have zn:(0:Int)<(n:Int):=by omega
    have HF:Hid (∃f',classM (sb p) (i+1)=.inl (f',j+1)):=by
     refine⟨if false=true then fun c=> !f c else f,?_⟩
     rw[HE.eq,decide_eq_true hn0,cls_shut HX.out]
    obtain⟨f',hf'⟩:=HF.out
    have HF':Hid (classM (sb p) (i+1)=.inl (f',j+1)):=hf'
    clear hf' HF
    go_wp2_with fail
    exact bodyPost_ret (v:=.tuple #[.int .i64 ((j+1:Nat):Int),.agg #[.int .i64 0,.int .i64 0]]) (class_ret rfl rfl (HS.out (.int .i64 0) (.int .i64 0)).1) rfl ⟨.inl ⟨f',j+1,HF'.out,rfl⟩,(HS.out (.int .i64 0) (.int .i64 0)).2⟩
   ·have HG:Hid (clsM (sb p) j (decide (0<n)) f=match itemM (sb p) j with| .inr e=>.inr e| .inl (a,b,k)=>clsM (sb p) k true (wider f a b)):=cls_go (by rw[sb_len];omega) (fun q=>hend ⟨by have h1:=q.1;rw[HX.out]at h1;exact Option.some.inj h1,by simpa using q.2⟩)
    obtain⟨lo,k,b,hch⟩:∃lo k b,chM (sb p) j=(lo,k,b):=⟨_,_,_,rfl⟩
    have HCh:Hid (chM (sb p) j=(lo,k,b)):=hch
    have hkl:b=true→k≤p.size∧j<k:=fun q=>by
     subst q
     have:=chM_gt hch
     rw[sb_len]at this
     omega
    clear hch
    have hpick:((x.toNat:Int)==93)=false∨(¬(0:Int)<(n:Int)):=by
     by_cases h93:x=93
     ·exact .inr (fun q=>hend ⟨h93,by omega⟩)
     ·exact .inl (beq_eq_false_iff_ne.2 (ne_u8 (c:=93) h93))
    clear hend
    have hpk:(((x.toNat:Int)==93)=false)∨(((x.toNat:Int)==93)=true∧n=0):=by
     rcases hpick with q|q
     ·exact .inl q
     ·cases hq:((x.toNat:Int)==93)
      ·exact .inl rfl
      ·exact .inr ⟨rfl,by omega⟩
    clear hpick
    rcases hpk with h93|⟨h93,hn0⟩
    case' inr=>
     have zn:¬(0:Int)<(n:Int):=by omega
     clear hn0
    all_goals
     go_wp2_with fail
     refine(l4Ch_core p j W0 hp (by omega) lo k b HCh.out).mono ?_
     rintro e w1 ⟨rfl,hw1⟩
     rw[hw1]
     clear hw1
     cases b
     case false=>
      have HF:Hid (classM (sb p) (i+1)=.inr (2,k)):=by
       show classM (sb p) (i+1)=_
       rw[HE.eq,HG.out]
       unfold itemM
       rw[HCh.out]
      go_wp2_with fail
      exact bodyPost_ret (v:=.tuple #[.int .i64 0,.agg #[.int .i64 2,.int .i64 (k:Int)]]) (class_ret rfl rfl (HS.out (.int .i64 2) (.int .i64 (k:Int))).1) rfl ⟨.inr ⟨2,k,HF.out,rfl⟩,(HS.out (.int .i64 2) (.int .i64 (k:Int))).2⟩
     obtain⟨hks,hjk⟩:=hkl rfl
     clear hkl
     by_cases h45:(sb p)[k]?=some 45
     ·obtain⟨hk2,gk⟩:=sb_get h45
      have HK:Hid ((sb p)[k]?=some 45):=h45
      have zk:(k:Int)<(p.size:Int):=by omega
      obtain⟨hh,m,b2,hch2⟩:∃hh m b2,chM (sb p) (k+1)=(hh,m,b2):=⟨_,_,_,rfl⟩
      have HCh2:Hid (chM (sb p) (k+1)=(hh,m,b2)):=hch2
      have hml:b2=true→m≤p.size∧k<m:=fun q=>by
       subst q
       have:=chM_gt hch2
       rw[sb_len]at this
       omega
      clear hch2 h45
      go_wp2_with fail
      refine(l4Ch_core p (k+1) W0 hp (by omega) hh m b2 HCh2.out).mono ?_
      rintro e w2 ⟨rfl,hw2⟩
      rw[hw2]
      clear hw2
      cases b2
      ·have HF:Hid (classM (sb p) (i+1)=.inr (2,m)):=by
        show classM (sb p) (i+1)=_
        rw[HE.eq,HG.out]
        unfold itemM
        rw[HCh.out]
        simp only[]
        rw[if_pos HK.out,HCh2.out]
       go_wp2_with fail
       exact bodyPost_ret (v:=.tuple #[.int .i64 0,.agg #[.int .i64 2,.int .i64 (m:Int)]]) (class_ret rfl rfl (HS.out (.int .i64 2) (.int .i64 (m:Int))).1) rfl ⟨.inr ⟨2,m,HF.out,rfl⟩,(HS.out (.int .i64 2) (.int .i64 (m:Int))).2⟩
      ·obtain⟨hms,hkm⟩:=hml rfl
       clear hml
       by_cases hlo:hh<lo
       ·have zlo:(hh.toNat:Int)<(lo.toNat:Int):=by have:=UInt8.lt_iff_toNat_lt.1 hlo;omega
        have HF:Hid (classM (sb p) (i+1)=.inr (4,j)):=by
         show classM (sb p) (i+1)=_
         rw[HE.eq,HG.out]
         unfold itemM
         rw[HCh.out]
         simp only[]
         rw[if_pos HK.out,HCh2.out]
         simp only[]
         rw[if_pos hlo]
        go_wp2_with fail
        exact bodyPost_ret (v:=.tuple #[.int .i64 0,.agg #[.int .i64 4,.int .i64 (j:Int)]]) (class_ret rfl rfl (HS.out (.int .i64 4) (.int .i64 (j:Int))).1) rfl ⟨.inr ⟨4,j,HF.out,rfl⟩,(HS.out (.int .i64 4) (.int .i64 (j:Int))).2⟩
       ·have zlo:(lo.toNat:Int)≤(hh.toNat:Int):=by have:=UInt8.le_iff_toNat_le.1 (UInt8.not_lt.1 hlo);omega
        have HF:Hid (ClsEq (sb p) (i+1) false m true (wider f lo hh)):=by
         show ClsEq _ _ _ _ _ _
         unfold ClsEq
         rw[HE.eq,HG.out]
         unfold itemM
         rw[HCh.out]
         simp only[]
         rw[if_pos HK.out,HCh2.out]
         simp only[]
         rw[if_neg hlo]
        clear hlo
        go_wp2_with fail
        go_roundw
        case rel=>exact⟨m,n+1,wider f lo hh,hms,by omega,rfl,by go_num,by rw[decide_eq_true (Nat.succ_pos n)];exact HF.out,trivial⟩
        case measure=>simp[intOf];omega
     ·have HK:Hid (¬(sb p)[k]?=some 45):=h45
      have HF:Hid (ClsEq (sb p) (i+1) false k true (wider f lo lo)):=by
       show ClsEq _ _ _ _ _ _
       unfold ClsEq
       rw[HE.eq,HG.out]
       unfold itemM
       rw[HCh.out]
       simp only[]
       rw[if_neg HK.out]
      clear h45
      by_cases hke:k<p.size
      ·obtain⟨y,hy⟩:∃y,(sb p)[k]?=some y:=⟨_,List.getElem?_eq_getElem (by rw[sb_len];exact hke)⟩
       obtain⟨_,gy⟩:=sb_get hy
       have zk:(k:Int)<(p.size:Int):=by omega
       have zy:((y.toNat:Int)==45)=false:=beq_eq_false_iff_ne.2 (ne_u8 (c:=45) (fun q=>HK.out (by rw[hy,q])))
       clear hy
       go_wp2_with fail
       go_roundw
       case rel=>exact⟨k,n+1,wider f lo lo,hks,by omega,rfl,by go_num,by rw[decide_eq_true (Nat.succ_pos n)];exact HF.out,trivial⟩
       case measure=>simp[intOf];omega
      ·have zk:¬(k:Int)<(p.size:Int):=by omega
       go_wp2_with fail
       go_roundw
       case rel=>exact⟨k,n+1,wider f lo lo,hks,by omega,rfl,by go_num,by rw[decide_eq_true (Nat.succ_pos n)];exact HF.out,trivial⟩
       case measure=>simp[intOf];omega
  ·have HF:Hid (classM (sb p) (i+1)=.inr (2,p.size)):=by
    show classM (sb p) (i+1)=_
    rw[HE.eq,clsM,dif_neg (by rw[sb_len];exact hlt),sb_len]
   have zj:¬(j:Int)<(p.size:Int):=by omega
   go_wp2_with fail
   exact bodyPost_ret (v:=.tuple #[.int .i64 0,.agg #[.int .i64 2,.int .i64 (p.size:Int)]]) (class_ret rfl rfl (HS.out (.int .i64 2) (.int .i64 (p.size:Int))).1) rfl ⟨.inr ⟨2,p.size,HF.out,rfl⟩,(HS.out (.int .i64 2) (.int .i64 (p.size:Int))).2⟩):p:=h
theorem zzQ2 {p:Prop} (h:p:=by
 have HB:=HA.back (fun e he=>(HX.2 e he).ok) (by rw[←HN.out];exact hl) HSm.2 WP hWP
 have HBH:Hid (BoxAt WP w.heap.size 25 1 (w.heap.size+1) [.slice none 0 0]):=HB.1
 obtain⟨WF,hWF⟩:=qE (WP.setCell ⟨w.heap.size+1,0,none⟩ (.slice (some ⟨g5,0,none⟩) N c5):World)
 have HR:Hid (WF.cell? ⟨w.heap.size+1,0,none⟩=some (.slice (some ⟨g5,0,none⟩) N c5)∧AnyP base cb bv n w (.returned (.agg #[.slice (some ⟨g5,0,none⟩) N c5])) WF):=HB.2 N WF HN.out hWF
 clear HB
 go_upto_region 28 with fail
 rw[←hWP]
 clear hWP k0 k1 k2 k3 k4 k5 k6 d0 d1 d2 d3 d4 d5 d6 hfz
 have r0:=HBH.cell (j:=0) rfl
 have rf:=HBH.frozen 0
 have p0:=HR.1
 go_wp2_with fail
 rw[←hWF]
 exact bodyPost_ret (by simp[results,Tryz.results70,go_sem,p0]) rfl HR.2):p:=h
theorem zzQ3 {p:Prop} (h:p:=by
 clear hB9 HR
 simp only[set7]at hWF
 simp only at k0 k1 k2 k3 k4 k5 k6 l0 l1 l2 l3 l4 l5 l6 p0 p1 p2 p3 p4 p5 p6
 go_wp2_with fail
 rw[←hWF]
 exact bodyPost_ret (by simp[results,Tryz.results118,go_sem,p0,p1,p2,p3,p4,p5,p6]) rfl HRH.out):p:=h
theorem zzQ4 {p:Prop} (h:p:=by
 have HJax:Hid (X2=X1++ [32]):=HX2
 have gq:qwa.cell? ⟨w.heap.size,1,none⟩=some (.string s):=HJa.1.box.cell (j:=1) rfl
 clear hqb
 refine hK.out _ _ (.inr gq) ?_
 clear hK
 try simp only[qA,List.getElem_toArray,List.getElem_cons_zero,List.getElem_cons_succ]
 refine anyT_one (i:=6) (by kernel_rfl) rfl (fun K hK=>?_)
 refine step_append_wr _ rfl _ _ rfl (w.heap.size+1) g2a c2a (3+1) qg 0 QL.length qc X2 QL rfl rfl HJan.out rfl HJa.1.out HJa.2.1.at_ ?hlaz ?hbaz ?_
 case hlaz=>omega
 case hbaz=>have:=HJa.1.out.lt;have:=HJa.1.out.le;omega
 intro gza cza wza hWz hgrz hatz
 have HR:Hid (LtP Y w (.returned (.slice (some ⟨gza,0,none⟩) ((3+1)+QL.length) cza)) wza):=(HJa.1.app hWz hgrz).done (by rw[List.length_append,←HJan.out]) (by rw[HY.out,HJax.out])
 have gs:wza.cell? ⟨w.heap.size,1,none⟩=some (.string s):=(HJa.1.app hWz hgrz).box.cell (j:=1) rfl
 clear hWz hgrz hatz
 refine hK.out _ _ (.inr gs) ?_
 clear hK
 try simp only[qA,List.getElem_toArray,List.getElem_cons_zero,List.getElem_cons_succ]
 refine anyT_one (i:=7) (by kernel_rfl) rfl (fun K hK=>?_)
 go_simp
 refine hK.out _ _ (.inl rfl) ?_
 clear hK gs
 try simp only[qA,List.getElem_toArray,List.getElem_cons_zero,List.getElem_cons_succ]
 refine anyT_done (by kernel_rfl) ?_
 go_wp2_with fail
 go_ret
 exact HR.out):p:=h
theorem zzQ5 {p:Prop} (h:p:=by
 have zk:(((ftB k.k).toNat:Int)==34)=false:=by
  cases hq:k.k with
  |str sx=>exact absurd ⟨sx,hq⟩ hst
  |sign c=>
   rw[hq]at hkd
   rcases hkd with q|q
   ·rcases q with rfl|rfl|rfl|rfl|rfl|rfl<;>rfl
   ·cases q
  |word _=>rfl
  |num _=>rfl
  |fin=>rfl
  |bad=>rfl
 have HD:=die 3 (argP_nostr (by omega) (by omega) HW0.2.2.2.2.2 (fun sx q=>hst ⟨sx,q⟩)) W0 HW0.2.2.2.1
 obtain⟨kb,hkb⟩:=qE (((ftB k.k).toNat:Int):Int)
 rw[←hkb]at zk cK
 clear die hst hkd hkb
 go_enter Tryz.func117,Tryz.ntmps117
 go_upto_region 2 with fail
 rw[←hW0]
 clear hW0
 go_wp2_with fail
 refine(fdem_no HW0.2.1 3).mono ?_
 rintro e w2 ⟨rfl,hw2⟩
 rw[hw2]
 clear hw2
 exact⟨rfl,HD.out⟩):p:=h
theorem zzQ6 {p:Prop} (h:p:=by
 have h3':k3.k.isSort strs=false:=by simpa using h3
 rw[h3']at zK
 clear h3
 have HA4:Hid (liftP s (rangeF kd strs s.ks)=.ok (s3,(⟨kd,a.k.txt,false,noS,a.k.nm,0,0⟩:Nd))):=by
  show _=_
  rw[HA3.out,upF,if_neg (by rw[H4.2.2.2];show¬k3.k.isSort strs=true;rw[h3'];simp)]
  rfl
 clear h3'
 have hne:¬w3.heap.size=w.heap.size:=by have:=HJ3.lt;omega
 go_upto_region 10 with fail
 have l0:=H4.1.res.cell (j:=0) rfl
 have l1:=H4.1.res.cell (j:=1) rfl
 have l2:=H4.1.res.cell (j:=2) rfl
 have l3:=H4.1.res.cell (j:=3) rfl
 have l4:=H4.1.res.cell (j:=4) rfl
 have l5:=H4.1.res.cell (j:=5) rfl
 have l6:=H4.1.res.cell (j:=6) rfl
 have f0:=H4.1.res.frozen 0
 have f1:=H4.1.res.frozen 1
 have f2:=H4.1.res.frozen 2
 have f3:=H4.1.res.frozen 3
 have f4:=H4.1.res.frozen 4
 have f5:=H4.1.res.frozen 5
 have f6:=H4.1.res.frozen 6
 have c0:=H4.2.1.cell (j:=0) rfl
 have c1:=H4.2.1.cell (j:=1) rfl
 have c2:=H4.2.1.cell (j:=2) rfl
 have c3:=H4.2.1.cell (j:=3) rfl
 have c4:=H4.2.1.cell (j:=4) rfl
 have c5:=H4.2.1.cell (j:=5) rfl
 have c6:=H4.2.1.cell (j:=6) rfl
 obtain⟨W9,hW9⟩:∃V:World,V=setN W4 w.heap.size ((⟨kd,a.k.txt,false,noS,a.k.nm,0,0⟩:Nd)):=⟨_,rfl⟩
 have hB9:=H4.1.res.setN ((⟨kd,a.k.txt,false,noS,a.k.nm,0,0⟩:Nd))
 rw[←hW9]at hB9
 have hc9:Chg (fun q=>q=w.heap.size) W4 W9:=by rw[hW9];exact chg_setN _ _ _
 have HR:Hid (BehP base g b off n cap t d (fun r=>r=liftP s (rangeF kd strs s.ks)) nv w (.returned ((⟨kd,a.k.txt,false,noS,a.k.nm,0,0⟩:Nd)).v) W9):=H4.1.fin (by show _=_;rw[HA4.out]) hc9
 have q0:=hB9.cell (j:=0) rfl
 have q1:=hB9.cell (j:=1) rfl
 have q2:=hB9.cell (j:=2) rfl
 have q3:=hB9.cell (j:=3) rfl
 have q4:=hB9.cell (j:=4) rfl
 have q5:=hB9.cell (j:=5) rfl
 have q6:=hB9.cell (j:=6) rfl
 unfold setN at hW9
 simp only[noS]at hW9 q0 q1 q2 q3 q4 q5 q6
 clear hB9 hc9
 go_wp2_with fail
 rw[←hW9]
 exact bodyPost_ret (v:=((⟨kd,a.k.txt,false,noS,a.k.nm,0,0⟩:Nd)).v) (by simp[results,Tryz.results129,go_sem,q0,q1,q2,q3,q4,q5,q6,noS]) rfl HR.out):p:=h
theorem zzQ7 {p:Prop} (h:p:=by
 have HD:=die 8 (HAr.2 hv) W0 HW0.2.2.2.1
 by_cases h1:1≤v
 ·have z1:decide ((1:Int)≤v)=true:=decide_eq_true h1
  have z2:decide (v≤(1000:Int))=false:=decide_eq_false (fun q=>hv ⟨h1,q⟩)
  clear die hv
  go_enter Tryz.func117,Tryz.ntmps117
  go_upto_region 2 with fail
  rw[←hW0]
  clear hW0
  go_wp2_with fail
  refine(fdem_yes _ 3 W0).mono ?_
  rintro e w2 ⟨rfl,hw2⟩
  rw[hw2]
  clear hw2
  go_wp2_with fail
  refine(fdem_no HW0.2.1 8).mono ?_
  rintro e w2 ⟨rfl,hw2⟩
  rw[hw2]
  clear hw2
  exact⟨rfl,HD.out⟩
 ·have z1:decide ((1:Int)≤v)=false:=decide_eq_false h1
  clear die hv
  go_enter Tryz.func117,Tryz.ntmps117
  go_upto_region 2 with fail
  rw[←hW0]
  clear hW0
  go_wp2_with fail
  refine(fdem_yes _ 3 W0).mono ?_
  rintro e w2 ⟨rfl,hw2⟩
  rw[hw2]
  clear hw2
  go_wp2_with fail
  refine(fdem_no HW0.2.1 8).mono ?_
  rintro e w2 ⟨rfl,hw2⟩
  rw[hw2]
  clear hw2
  exact⟨rfl,HD.out⟩):p:=h
theorem zzQ8 {p:Prop} (h:p:=by
 obtain⟨kb,hkb⟩:=qE (((ftB k.k).toNat:Int):Int)
 rw[←hkb]at zk cK
 clear die hst hkd hkb
 go_enter Tryz.func117,Tryz.ntmps117
 go_upto_region 2 with fail
 rw[←hW0]
 clear hW0
 go_wp2_with fail
 refine(fdem_no HW0.2.1 3).mono ?_
 rintro e w2 ⟨rfl,hw2⟩
 rw[hw2]
 clear hw2
 exact⟨rfl,HD.out⟩):p:=h
theorem zzQ9 {p:Prop} (h:p:=by
 have z3:(k:Int)<256:=by omega
 obtain⟨v,hv⟩:∃v,(setA (fun c=>f c || (decide (a≤c) && decide (c.toNat<k)))).toList[k]?=some v:=⟨_,setA_get _ k (by omega)⟩
 have d0:=HR.1.cell hv
 have f0:=HR.1.frozen k
 have HN:Hid (SetAt (wr.setCell ⟨w.heap.size,k,none⟩ (.bool true)) w.heap.size w.heap.size (fun c=>f c || (decide (a≤c) && decide (c.toNat<k+1)))∧SetAt (wr.setCell ⟨w.heap.size,k,none⟩ (.bool true)) w.heap.size (w.heap.size+1) (fun _=>false)∧PrAt (wr.setCell ⟨w.heap.size,k,none⟩ (.bool true)) base g p k5 o∧Chg (fun k=>k=g) w (wr.setCell ⟨w.heap.size,k,none⟩ (.bool true))):=by
  refine⟨?_,BoxAt.beside HR.2.1 (by omega) k _,BoxAt.beside HR.2.2.1 (by omega) k _,HR.2.2.2.absorb (Chg.of_set wr w.heap.size k _ (S:=fun q=>q=w.heap.size) rfl) (fun j q=>.inr (by omega))⟩
  have h5:=HR.1.set k (.bool true)
  rw[setA_set _ k true (by omega)]at h5
  have hn:(UInt8.ofNat k).toNat=k:=by rw[UInt8.toNat_ofNat'];omega
  refine SetAt.ext h5 (fun c=>?_)
  by_cases hc:c=UInt8.ofNat k
  ·have h6:a≤c:=UInt8.le_iff_toNat_le.2 (by rw[hc,hn];exact hk0)
   rw[if_pos hc,decide_eq_true h6,decide_eq_true (show c.toNat<k+1 by rw[hc,hn];omega)];simp
  ·rw[if_neg hc]
   have h6:¬c.toNat=k:=fun q=>hc (UInt8.toNat_inj.1 (by rw[hn];exact q))
   rw[show decide (c.toNat<k+1)=decide (c.toNat<k)from decide_eq_decide.2 ⟨fun q=>by omega,fun q=>by omega⟩]
 clear hv HR
 go_wp2_with fail
 go_roundw
 case rel=>exact⟨k+1,by omega,by omega,by go_num,HN.1,HN.2.1,HN.2.2.1,HN.2.2.2⟩
 case measure=>simp[intOf];omega):p:=h
theorem zzQ10 {p:Prop} (h:p:=by
 obtain⟨WF,hWF⟩:=qE (wr.setCell ⟨w.heap.size,0,none⟩ (.slice (some ⟨g,0,none⟩) (len) cp):World)
 obtain⟨p0,HRes⟩:=HJ.fin (by omega) (by omega) (by omega) WF hWF
 have HRH:Hid (FilP base cb bv n 1000 w (.returned (.agg #[.slice (some ⟨g,0,none⟩) (len) cp])) WF):=HRes
 have r0:=HJ.res.cell (j:=0) rfl
 have rf:=HJ.res.frozen 0
 clear HRes
 go_wp2_with fail
 rw[←hWF]
 exact bodyPost_ret (by simp[results,Tryz.results68,go_sem,p0]) rfl HRH.out):p:=h
theorem zzQ11 {p:Prop} (h:p:=by
 go_simp
 refine hK.out _ _ (.inl rfl) ?_
 clear hK gs
 try simp only[qA,List.getElem_toArray,List.getElem_cons_zero,List.getElem_cons_succ]
 refine anyT_done (by kernel_rfl) ?_
 go_wp2_with fail
 go_ret
 exact HR.out):p:=h
theorem zzQ12 {p:Prop} (h:p:=by
 have p0:=HR.1
 go_wp2_with fail
 rw[←hWF]
 exact bodyPost_ret (by simp[results,Tryz.results70,go_sem,p0]) rfl HR.2):p:=h
theorem zzQ13 {p:Prop} (h:p:=by
 have hfd:=regField c k
 go_wp2_with fail
 refine(HC.out _).mono ?_
 rintro r w2 ⟨rfl,hb2⟩
 have hs1:=hb1.size
 have HK:Hid (Below w.heap.size w w2):=(HW0.2.trans (hb1.mono hbw)).trans (hb2.mono (by omega))
 clear hb1 hb2 d0 d1 d2 d3 d4 d5 d6
 go_wp2_with fail
 go_ret
 refine⟨_,rfl,?_,HK.out⟩
 have hG:=HG.out
 have hB:=HB.out
 simp at hB
 rw[HV.out]
 simp[GoodN]
 simp_all):p:=h
theorem zzQ14 {p:Prop} (h:p:=by
 go_wp2_with fail
 go_ret
 exact⟨_,rfl,by simp[HF.out],HW0.2.trans (hb1.mono hbw)⟩):p:=h
theorem zzQ15 {p:Prop} (h:p:=by
 try rw[←hn8]
 clear hW8 hgr8 hat8 hX8 hn8
 go_wp2_with fail
 go_roundw
 case rel=>exact⟨j+1,og3,oc3,n8,X8,by omega,by go_num,by first|rfl|(rw[hn8]),HN8.out,HX8,HR8⟩
 case measure=>simp[intOf];omega):p:=h
theorem zzQ16 {p:Prop} (h:p:=by
 have q0:=hB9.cell (j:=0) rfl
 have q1:=hB9.cell (j:=1) rfl
 have q2:=hB9.cell (j:=2) rfl
 have q3:=hB9.cell (j:=3) rfl
 have q4:=hB9.cell (j:=4) rfl
 have q5:=hB9.cell (j:=5) rfl
 have q6:=hB9.cell (j:=6) rfl
 unfold setN at hW9
 simp only[leafN,patN,cntN,noS]at hW9 q0 q1 q2 q3 q4 q5 q6
 clear hB9 hc9
 go_wp2_with fail
 rw[←hW9]
 exact bodyPost_ret (v:=((⟨nk,ns,nh,nt,nl,nu,nn⟩:Nd)).v) (by simp[results,Tryz.results117,go_sem,q0,q1,q2,q3,q4,q5,q6,leafN,patN,cntN,noS]) rfl HR.out):p:=h
theorem zzQ17 {p:Prop} (h:p:=by
 go_enter Tryz.func90,Tryz.ntmps90
 go_wp2_with fail
 refine(HC.out w HEr.out).mono ?_
 rintro e w1 ⟨hb1,(⟨hv,rfl⟩|⟨hv,N,rfl⟩)⟩
 ·have HB1:Hid (Below w.heap.size w w1∧numM d=some v):=⟨hb1,by rw[HN.out,if_pos hv]⟩
  clear hb1 HC hv
  go_wp2_with fail
  go_quiet (fail)
  go_wp2_with fail
  exact bodyPost_ret (v:=.tuple #[.int .u64 (v:Int),.bool true]) (by simp[results,Tryz.results90,go_sem]) rfl ⟨by first|exact HB1.1|exact HB1.1.trans ((below_drewN (Below.refl _ _) _).mono HB1.1.size),.inl ⟨v,HB1.2,rfl⟩⟩
 ·have HB1:Hid (Below w.heap.size w w1∧numM d=none):=⟨hb1,by rw[HN.out,if_neg hv]⟩
  clear hb1 HC hv
  go_wp2_with fail
  go_quiet (fail)
  go_wp2_with fail
  exact bodyPost_ret (v:=.tuple #[.int .u64 18446744073709551615,.bool false]) (by simp[results,Tryz.results90,go_sem]) rfl ⟨by first|exact HB1.1|exact HB1.1.trans ((below_drewN (Below.refl _ _) _).mono HB1.1.size),.inr ⟨HB1.2,_,rfl⟩⟩):p:=h
theorem zzQ18 {p:Prop} (h:p:=by
 go_enter Tryz.func87,Tryz.ntmps87
 go_wp2_with fail
 go_ret
 exact⟨rfl,rfl⟩):p:=h
theorem zzQ19 {p:Prop} (h:p:=by
 refine wpQuiet_nil ?_
 rintro w1 ⟨⟨wx,hb1⟩,rfl⟩
 have HJ1:=fin w1 hb1
 clear e0 e1 HI hb1 fin HX
 have b0:=HJ1.box.cell (j:=0) rfl
 have r0:=HJ1.res.cell (j:=0) rfl
 have rf:=HJ1.res.frozen 0
 go_wp2_with fail
 refine bodyPost_ret (v:=.agg #[.slice va us.length vc]) (by simp[results,Tryz.results152,go_sem,World.cell?_setCell_same _ _ _ r0]) rfl ?_
 have hc:=Chg.of_set w1 w.heap.size 0 (.slice va us.length vc) (S:=fun j=>j=w.heap.size) rfl
 refine⟨HJ1.chg.absorb hc (fun j q=>.inr (by omega)),.inl ⟨k,ts,_,HJ1.ok,HE.out,rfl,?_,BoxAt.chg HJ1.rd hc (by omega)⟩⟩
 refine(HJ1.row.seq HJ1.len (R:=fun j=>w.heap.size+2≤j) (fun i x t hx ht=>(HJ1.nodes i x t hx ht).move (S:=fun _=>False) (Chg.refl _ _) (fun _ q=>q.elim) (fun _ _ q=>q.1)) (fun j hj=>(World.ownsRow.lt HJ1.row j hj).1)).move hc (fun j q=>by subst q;exact fun z=>by omega) (fun j hj z=>⟨by omega,by have:=hc.size;omega⟩)):p:=h
theorem zzQ20 {p:Prop} (h:p:=by
 obtain⟨n5,hn5⟩:=qE X5.length
 have HN5:Hid (n5=X5.length):=hn5
 have he5:n4+qlu2=n5:=by rw[hn5,hX5,List.length_append,←HN4.out,←HQu2.2.2]
 try rw[he5]
 clear hW5 hgr5 hat hX5 hn5 he5
 have HY:Hid (Y=X5):=by
  show _=_
  have h1:=HE1.out
  have h2:=HE2.out
  rw[HY0.out,HX5.out,HQLu2.out,HX4.out,HX3.out,HQLs1.out,HX2.out,HX1.out]
  simp only[leafM,tailM]
  rw[h1,h2]
  simp[wordA,bl]
 go_wp2_with fail
 go_ret
 exact HJ5.done HN5.out HY.out):p:=h
theorem zzQ21 {p:Prop} (h:p:=by
 intro g' cp' w' hO' hgr hat
 have HN:Hid (LimJ base cb bv n w eb g' cp' (len+2) w'∧w.heap.size<g'):=by
  have h8:=HJ.app HWX.1 HX.2.1 (es:= [limN,(⟨14,⟨#[]⟩,false,⟨#[]⟩,0,0,0⟩:Nd)]) (fun e he=>by simp at he;rcases he with rfl|rfl<;>first|exact lim_small|exact small_kind _ (by omega)) hO' hgr hat hgw
  have h9:(xs++ [limN,(⟨14,⟨#[]⟩,false,⟨#[]⟩,0,0,0⟩:Nd)]).length=len+2:=by rw[List.length_append,←HX.1];rfl
  rw[h9]at h8
  refine⟨h8,?_⟩
  rcases hat with q|q
  ·rw[q];exact hgw
  ·have h1:=HJ.d.c.size;have h2:=HWX.1.size;have h3:=HJ.res.lt.2;omega
 clear hO' hgr hat b0 b1 b2 b3 b4 b5 b6
 go_wp2_with fail
 go_roundw
 case rel=>exact⟨i+1,g',cp',len+2,by omega,by go_num,rfl,⟨by omega,by omega⟩,HN.2,HN.1⟩
 case measure=>simp[intOf];omega):p:=h
theorem zzQ22 {p:Prop} (h:p:=by
 obtain⟨W3,hW3⟩:=qE (W2.setCell ⟨wr.heap.size,2,none⟩ (.int .i64 ((x.nest:Int)+1)):World)
 have HK3:Hid (SoK w e WB wr.heap.size x.valid a x (x.nest+1) W3):=by rw[hW3];exact HK2.more (x.nest+1)
 go_upto_region 8 with fail
 rw[←hW3]
 clear hW3 m0 o1 o2 o2f w2 w2f HK2
 have o2:=HK3.ob.cell (j:=2) rfl
 have w2:=HK3.so.whole.cell (j:=2) rfl
 have w2f:=HK3.so.whole.frozen 2
 obtain⟨a2,ha2⟩:=qE (max a (x.nest+1))
 have HFin:Hid (nestFrom e.kind (j+1) a2 (os.drop (j+1))=tot∧a2≤2000):=⟨fin a2 (by rw[ha2,hlv];rfl),by omega⟩
 have ha3:max (a:Int) ((x.nest:Int)+1)=(a2:Int):=by omega
 clear fin hlv ha2
 go_wp2_with fail
 go_roundw
 case rel=>
  refine⟨j+1,a2,x.valid,by go_num,by omega,HFin.2,HVn.out,HFin.1,?_⟩
  exact HK3.done a2
 case measure=>simp[intOf];omega):p:=h
theorem zzQ23 {p:Prop} (h:p:=by
 obtain⟨W3,hW3⟩:=qE (W2.setCell ⟨wr.heap.size,2,none⟩ (.int .i64 ((x.nest:Int)+1)):World)
 have HK3:Hid (SoK w e WB wr.heap.size false a x (x.nest+1) W3):=by rw[hW3];exact HK2.more (x.nest+1)
 go_upto_region 8 with fail
 rw[←hW3]
 clear hW3 m0 o1 o2 o2f w2 w2f HK2
 have o2:=HK3.ob.cell (j:=2) rfl
 have w2:=HK3.so.whole.cell (j:=2) rfl
 have w2f:=HK3.so.whole.frozen 2
 obtain⟨a2,ha2⟩:=qE (max a (x.nest+1))
 have HFin:Hid (nestFrom e.kind (j+1) a2 (os.drop (j+1))=tot∧a2≤2000):=⟨fin a2 (by rw[ha2,hlv];rfl),by omega⟩
 have ha3:max (a:Int) ((x.nest:Int)+1)=(a2:Int):=by omega
 clear fin hlv ha2
 go_wp2_with fail
 go_roundw
 case rel=>
  refine⟨j+1,a2,false,by go_num,by omega,HFin.2,HVn.out,HFin.1,?_⟩
  exact HK3.done a2
 case measure=>simp[intOf];omega):p:=h
theorem zzQ24 {p:Prop} (h:p:=by
 intro g' cp' w' hW' hgr hat
 have HR:Hid (WrB w' w.heap.size g' cp' (X++ [92,120,d1,d2])∧Below w.heap.size w w'∧n+4=(X++ [92,120,d1,d2]).length∧X++ [92,120,d1,d2]= [34]++quoL ((bl s).take (k+1))):=⟨hW',WrB.next HW2.2.1 (by omega) hge hgr,by rw[List.length_append,←HW.2.2];rfl,by rw[HX2.out,HQ.out]⟩
 refine hK.out _ _ (.inr trivial) ?_
 clear hK hW' hgr hat hW2
 try simp only[qA]
 refine anyT_one (i:=11) (by kernel_rfl) rfl (fun K hK=>?_)
 go_simp
 refine hK.out _ _ (.inl rfl) ?_
 clear hK
 try simp only[qA]
 refine anyT_done (by kernel_rfl) ?_
 go_wp2_with fail
 go_roundw
 case rel=>exact⟨k+1,g',cp',n+4,X++ [92,120,d1,d2],by omega,by go_num,rfl,HR.2.2.1,by omega,HR.2.2.2,HR.1,HR.2.1⟩
 case measure=>simp[intOf];omega):p:=h
theorem zzQ25 {p:Prop} (h:p:=by
 have ze:(er==0)=false:=by simpa using he
 have HD:=die 6 (HAr.2 he) w2 H2.2.2.2
 clear die he
 go_wp2_with fail
 refine(fdem_no H2.1 6).mono ?_
 rintro e w3 ⟨rfl,hw3⟩
 rw[hw3]
 clear hw3
 exact⟨rfl,HD.out⟩):p:=h
theorem zzQ26 {p:Prop} (h:p:=by
 rcases h.2 with⟨h0,_⟩|⟨g',cap',cur,hv,_,_,hn,hcap,_,_⟩
 ·cases h0
 ·simp only[Value.slice.injEq,Option.some.injEq,Addr.mk.injEq,and_true,true_and]at hv
  obtain⟨rfl,rfl⟩:=hv
  exact⟨hn,hcap⟩):p:=h
theorem zzQ27 {p:Prop} (h:p:=by
 have hfd:=regField c k
 go_wp2_with fail
 refine(HC.out _).mono ?_
 rintro r w2 ⟨rfl,hb2⟩
 clear c0 c1 c2 c3 c4 c5 c6
 go_wp2_with fail
 go_ret
 exact⟨_,rfl,by rw[HF.out];simp,HW0.2.trans (hb2.mono hbw)⟩):p:=h
theorem zzQ28 {p:Prop} (h:p:=by
 try simp only[qA,List.getElem_toArray,List.getElem_cons_zero,List.getElem_cons_succ]
 refine anyT_done (by kernel_rfl) ?_
 go_wp2_with fail
 go_ret
 exact⟨by rw[HWF.out];rfl,(Below.refl _ _).drew⟩):p:=h
theorem zzQ29 {p:Prop} (h:p:=by
 have HTk:Hid (tokF (t.drop p)=none):=by show _=_;rw[HT0.out,hk];rfl
 have HD:Hid (NxtP base g b off n cap vs t ks w (Pf 2 p) w5):=by
  have hk:=lex_bad HX.out Hn32.out HTk.out HJ4.lex
  exact⟨HJ4.chg.trans Hc5.out,.inl ⟨by rw[hk];rfl,by rw[hk];rfl⟩⟩
 clear HC
 exact⟨rfl,HD.out⟩):p:=h
theorem zzQ30 {p:Prop} (h:p:=by
 intro g6 c6 w6 hO6 hgr6 hat6
 have H6:Hid (TreP base cb bv n (3*m+1) w (.returned (.slice (some ⟨g6,0,none⟩) (A.length+B.length+C.length+1) c6)) w6):=by
  have hq:=HTl.out
  refine⟨g6,c6,T++ [(⟨16,⟨#[]⟩,false,⟨#[]⟩,0,0,0⟩:Nd)],by rw[List.length_append,hq];rfl,by rw[List.length_append,hq];simp;omega,by simp,fun e he=>?_,hO6,H5.2.1.grow hgr6 (fun k q=>by cases q;exact H5.1.lt.1)⟩
  rcases List.mem_append.1 he with q|q
  ·exact H8.2.2 e q
  ·simp at q;subst q;exact small_kind 16 (by omega)
 clear hO6 hgr6 hat6 HW5
 go_wp2_with fail
 go_ret
 exact H6.out):p:=h
theorem zzQ31 {p:Prop} (h:p:=by
 try simp only[qA,List.getElem_toArray,List.getElem_cons_zero,List.getElem_cons_succ]
 refine anyT_one (i:=19) (by kernel_rfl) rfl (fun K hK=>?_)
 go_simp
 go_at_call 27
 have HD:Hid (BehP base g b off n cap t d (fun r=>r=liftP s (rangeF kd strs s.ks)) nv w (Pf 7 (k3.pos:Int)) W4.drew):=H4.1.die (Chg.of_below (Below.refl _ _).drew) (by show _=_;rw[HA5.out,if_neg (by intro z;rcases z with z|z<;>simp_all[less])];rfl)
 refine(fdem_no (H4.1.fp.below (Below.refl _ _).drew) 7).mono ?_
 rintro e w5 ⟨rfl,hw5⟩
 rw[hw5]
 clear hw5 hK
 exact⟨rfl,HD.out⟩):p:=h
theorem zzQ32 {p:Prop} (h:p:=by
 try rw[he4]
 clear hW4 hgr4 hat hX4 hn4 he4
 have HY:Hid (Y=X4):=by
  show _=_
  have h1:=HE1.out
  have h2:=HE2.out
  rw[HY0.out,HX4.out,HQLu1.out,HX3.out,HX2.out,HX1.out]
  simp only[leafM,tailM]
  rw[h1,h2]
  simp[wordA,bl]
 go_wp2_with fail
 go_ret
 exact HJ4.done HN4.out HY.out):p:=h
theorem zzQ33 {p:Prop} (h:p:=by
 go_wp2_with fail
 go_ret
 exact⟨_,rfl,by rw[HF.out];simp;omega,HW0.2.trans (hb1.mono hbw)⟩):p:=h
theorem zzQ34 {p:Prop} (h:p:=by
 have zj:¬(j:Int)<(a3:Int):=by omega
 have HXE:Hid (Y=X++([]:List UInt8)):=by
  show _=_
  have h1:=HX.out
  rw[List.take_of_length_le (by have:=HF.2.2.2.1;have:=HF.2.2.2.2.1;omega)]at h1
  rw[HYY.out,h1]
 have HRE:Hid (TxP Y w (.returned (.slice (some ⟨og,0,none⟩) nn oc)) wr):=by
  refine⟨og,oc,by rw[HXE.out,List.append_nil,←HNN.out],?_,HJ.below.trans (HW.2.mono sr)⟩
  rw[HXE.out,List.append_nil];exact HW.1.mono sr
 go_wp2_with fail
 go_ret
 exact HRE.out):p:=h
theorem zzQ35 {p:Prop} (h:p:=by
 have HY:Hid (Y=X4):=by
  show _=_
  have h1:=HE1.out
  have h2:=HE2.out
  rw[HY0.out,HX4.out,HX3.out,HQLs1.out,HX2.out,HX1.out]
  simp only[leafM,tailM]
  rw[h1,h2]
  simp[wordA,bl]
 go_wp2_with fail
 go_ret
 exact HJ4.done HN4.out HY.out):p:=h
theorem zzQ36 {p:Prop} (h:p:=by
 go_enter Tryz.func77,Tryz.ntmps77
 go_wp2_with fail
 all_goals go_ret
 all_goals exact⟨_,rfl,by simp_all,qB⟩):p:=h
theorem zzQ37 {p:Prop} (h:p:=by
 by_cases hgt:a<os1.nest+1
 ·have zg:(a:Int)<(os1.nest:Int)+1:=by omega
  go_wp2_with fail
  go_roundw
  case rel=>exact⟨j+1,os1.nest+1,by go_num,by go_num,by omega,by omega,HFin.out _ (by omega),HJ2.out⟩
  case measure=>simp[intOf];omega
 ·have zg:¬(a:Int)<(os1.nest:Int)+1:=by omega
  go_wp2_with fail
  go_roundw
  case rel=>exact⟨j+1,a,by go_num,rfl,by omega,by omega,HFin.out _ (by omega),HJ2.out⟩
  case measure=>simp[intOf];omega):p:=h
theorem zzQ38 {p:Prop} (h:p:=by
 have HY:Hid (Y=X3):=by
  show _=_
  have h1:=HE1.out
  have h2:=HE2.out
  rw[HY0.out,HX3.out,HX2.out,HX1.out]
  simp only[leafM,tailM]
  rw[h1,h2]
  simp[wordA,bl]
 go_wp2_with fail
 go_ret
 exact HJ3.done HN3.out HY.out):p:=h
theorem zzQ39 {p:Prop} (h:p:=by
 clear hb
 go_wp2_with fail
 go_ret
 exact⟨_,rfl,HF.out,HW0.2.trans (hb1.mono hbw)⟩):p:=h
theorem zzQ40 {p:Prop} (h:p:=by
 rintro r w9 ⟨rfl,hw9⟩
 rw[hw9]
 clear hw9 c0 hG1 z0
 have HY:Hid (Y=X1):=by show _=_;rw[HY0.out,HX1.out];simp[leafM,tailM,wordA,bl]
 go_wp2_with fail
 go_ret
 exact HJ1.done HN1.out HY.out):p:=h
theorem zzQ41 {p:Prop} (h:p:=by
 clear hgood
 go_wp2_with fail
 go_ret
 exact⟨_,rfl,by simp[HG.out],HW0.2⟩):p:=h
theorem zzQ42 {p:Prop} (h:p:=by
 by_cases h1:1≤n
 ·go_wp2_with fail
  go_ret
  exact⟨_,rfl,by rw[HF.out];simp;omega,HW0.2⟩
 ·go_wp2_with fail
  go_ret
  exact⟨_,rfl,by rw[HF.out];simp;omega,HW0.2⟩):p:=h
theorem zzQ43 {p:Prop} (h:p:=by
 rw[if_neg (show¬(mOf s st s.out true).made<200 from hm)]at hstep
 have hmk:makerF s=.error (5,hdA s.ks):=by unfold makerF;rw[if_neg hm]
 rcases hr with⟨e,h,rfl⟩|⟨s1,h,hr⟩
 ·have h':Except.error e=makerF s:=h
  rw[hmk]at h'
  cases h'
  exact .fin hstep
 ·have h':Except.ok s1=makerF s:=h
  rw[hmk]at h'
  cases h'):p:=h
theorem zzQ44 {p:Prop} (h:p:=by
 go_wp2_with fail
 refine(letters_core base cb bv n 1 1 _ H1.1 (by omega) (by omega) (by omega)).mono ?_
 rintro e w3 ⟨s,rfl,hs,hD3,hC3⟩
 have H3:Hid (DrawAt base cb bv n w3∧Chg (fun k=>k=cb) w w3):=⟨hD3,H1.2.trans hC3⟩
 clear hD3 hC3
 go_wp2_with fail
 go_ret
 exact⟨s,rfl,by omega,H3.1,H3.2⟩):p:=h
theorem zzQ45 {p:Prop} (h:p:=by
 intro k hk
 match k,hk with
 |0,_=>exact⟨_,by simp;rfl,by decide⟩
 |1,_=>exact⟨_,by simp;rfl,by decide⟩
 |2,_=>exact⟨_,by simp;rfl,by decide⟩
 |3,_=>exact⟨_,by simp;rfl,by decide⟩
 |4,_=>exact⟨_,by simp;rfl,by decide⟩
 |5,_=>exact⟨_,by simp;rfl,by decide⟩):p:=h
theorem zzQ46 {p:Prop} (h:p:=by
 refine⟨a.toNat,Nat.le_refl _,by omega,congrArg (Value.int .i64) (wrap64_u8 a),SetAt.ext HW5.1 (fun c=>?_),HW5.2.1,HI2.1,HW5.2.2⟩
 by_cases q:a≤c
 ·have:=UInt8.le_iff_toNat_le.1 q
  rw[decide_eq_false (show¬c.toNat<a.toNat by omega)];simp
 ·rw[decide_eq_false q];simp):p:=h
theorem zzQ47 {p:Prop} (h:p:=by
 split at h
 ·cases hq:takeF ks with
  |error q=>rw[hq]at h;cases h;exact take_ers hq
  |ok k2=>rw[hq]at h;cases h
 ·cases h;simp):p:=h
theorem zzQ48 {p:Prop} (h:p:=by
 split at h
 ·cases hq:takeF ks with
  |error e=>rw[hq]at h;cases h
  |ok k2=>rw[hq]at h;cases h;exact(takeF_len hq).1
 ·cases h):p:=h
theorem zzQ49 {p:Prop} (h:p:=by
 have hlt:s4.ks.length<gk:=by
  have h1:=makerF_len H3.2.2.2.2
  have h2:=(H0.2.1 s3 s4 HR4.out).1
  have h3:=HJ.2
  have h5:=h1.2 (by rw[HEq.out];simp)
  omega
 go_wp2_with fail
 go_roundg (s4.ks.length)
 case measure=>exact hlt
 case rel=>exact HR.out):p:=h
theorem zzQ50 {p:Prop} (h:p:=by
 clear hy hp fin
 go_wp2_with fail
 refine HC.mono ?_
 rintro e w1 ⟨rfl,hw1⟩
 rw[hw1]
 clear hw1
 go_wp2_with fail
 go_roundw
 case rel=>exact⟨j+1,by go_num,by omega,by omega,HY.out,by first|rfl|trivial⟩
 case measure=>simp[intOf];omega):p:=h
theorem zzQ51 {p:Prop} (h:p:=by
 go_wp2_with fail
 refine(sdem_no HJ.fs).mono ?_
 rintro e w2 ⟨rfl,hw2⟩
 rw[hw2]
 clear hw2
 exact⟨rfl,HD.out⟩):p:=h
theorem zzQ52 {p:Prop} (h:p:=by
 intro k hk
 have:k=0∨k=1∨k=2∨k=3∨k=4∨k=5∨k=6∨k=7∨k=8∨k=9∨k=10∨k=11∨k=12∨k=13∨k=14∨k=15∨k=16:=by omega
 rcases this with rfl|rfl|rfl|rfl|rfl|rfl|rfl|rfl|rfl|rfl|rfl|rfl|rfl|rfl|rfl|rfl|rfl<;>rfl):p:=h
theorem zzQ53 {p:Prop} (h:p:=by
 generalize hs: [s]=ss at h
 cases h with
 |nil=>cases hs
 | @snoc ss os xs n ho h=>
   have e:=List.append_inj' (s₁:= []) (t₁:= [s]) hs rfl
   obtain⟨e1,e2⟩:=e
   subst e1
   simp at e2
   exact⟨xs,n,os,rfl,ho,h,e2⟩):p:=h
theorem zzQ54 {p:Prop} (h:p:=by
 go_wp2_with fail
 refine(HL.out _ H1.out).mono ?_
 rintro e w2 ⟨f,rfl,hf,hd2⟩
 have H2:Hid (DInv base cb bv n w w2∧f.small):=⟨H1.call hd2,hf⟩
 clear hd2 hf
 go_wp2_with fail
 go_ret
 exact HF.out w2 _ f H2.1 H2.2 rfl):p:=h
theorem zzQ55 {p:Prop} (h:p:=by
 rw[if_pos (by simp[Region.wanted,hgd])]
 unfold Oper.wp execOp
 simp only[ho,resolve,invoke,builtin,Sem.run_bind,Sem.run_pure,Result.andThen_ok,List.map_toArray,List.map_cons,List.map_nil,hs,hx,hr]
 exact h v' w' h1 h2):p:=h
theorem zzQ56 {p:Prop} (h:p:=by
 rintro e w3 ⟨s,rfl,hs,hD3,hC3⟩
 have H3:Hid (DrawAt base cb bv n w3∧Chg (fun k=>k=cb) w w3):=⟨hD3,(H1.2.alloc_new _).trans hC3⟩
 clear hD3 hC3
 go_wp2_with fail
 go_ret
 exact⟨s,rfl,by omega,H3.1,H3.2⟩):p:=h
theorem zzQ57 {p:Prop} (h:p:=by
 clear hb c0 c1 c2 c3 c4 c5 c6
 go_wp2_with fail
 go_ret
 exact⟨_,rfl,HF.out,HW0.2.trans (hb2.mono hbw)⟩):p:=h
theorem zzQ58 {p:Prop} (h:p:=by
 have HD:Hid (BehP base g b off n cap t d (fun r=>r=liftP s (rangeF kd strs s.ks)) nv w (Pf c (e3:Int)) w3):=HJ.die Hc3.out (by
  show _=_
  rw[HA.out,dotsF,expect_err hs3];rfl)
 clear hs3
 exact⟨rfl,HD.out⟩):p:=h
theorem zzQ59 {p:Prop} (h:p:=by
 go_upto_region 3 with fail
 go_quiet (fail)
 go_wp2_with fail
 go_ret
 exact⟨x0,rfl,hx1.1,hx1.2,HD.1.below (below_drewN (Below.refl _ _) _),HD.2.trans (Chg.of_below (below_drewN (Below.refl _ _) _))⟩):p:=h
theorem zzQ60 {p:Prop} (h:p:=by
 go_wp2_with fail
 rw[←hWF]
 exact bodyPost_ret (by simp[results,Tryz.results32,go_sem,p0]) rfl HR.2):p:=h
theorem zzQ61 {p:Prop} (h:p:=by
 unfold Oper.wp execOp
 simp only[ho,resolve,invoke,builtin,Sem.run_bind,Sem.run_pure,Result.andThen_ok,List.map_toArray,List.map_cons,List.map_nil,hs,hx,hr]
 exact hK _ _ (h v' w' h1 h2)):p:=h
theorem zzQ62 {p:Prop} (h:p:=by
 clear hop
 go_enter Tryz.func101,Tryz.ntmps101
 go_wp2_with (go_at_call 121;refine(strength_core _ _).mono ?_;rintro e' w' ⟨rfl,rfl⟩)
 go_ret
 exact⟨by rw[HL.out];rfl,rfl⟩):p:=h
theorem zzQ63 {p:Prop} (h:p:=by
 go_wp2_with fail
 refine HC.mono ?_
 rintro e w' hp
 have HP:Hid (AppP base (l++Lib.decDigits n) w e w'):=hp
 obtain⟨v',rfl,_⟩:=hp
 go_wp2_with fail
 go_ret
 exact HP.out):p:=h
theorem zzQ64 {p:Prop} (h:p:=by
 go_enter Tryz.func82,Tryz.ntmps82
 go_wp2_with (go_at_call 109;refine(l5Strength_core _ _).mono ?_;rintro e' w' ⟨rfl,rfl⟩)
 go_ret
 exact⟨by rw[HL.out];rfl,rfl⟩):p:=h
theorem zzQ65 {p:Prop} (h:p:=by
 have zb:(200:Int)<(n:Int):=by omega
 have HF:Hid (¬GoodF xs):=fun q=>by have:=q.1;have:=HN.out;omega
 go_wp2_with fail
 go_ret
 exact⟨_,rfl,by simp[HF.out],HW0.2⟩):p:=h
theorem zzQ66 {p:Prop} (h:p:=by
 have hj:=(List.getElem?_eq_some_iff.1 h).1
 rw[List.drop_eq_getElem_cons hj,show os[j]=o from Option.some.inj ((List.getElem?_eq_getElem hj).symm.trans h)]
 rfl):p:=h
theorem zzQ67 {p:Prop} (h:p:=by
 go_enter Tryz.func106,Tryz.ntmps106
 go_wp2_with fail
 go_ret
 exact⟨rfl,rfl⟩):p:=h
theorem zzQ68 {p:Prop} (h:p:=by
 go_enter Tryz.func108,Tryz.ntmps108
 go_wp2_with fail
 go_ret
 exact⟨rfl,rfl⟩):p:=h
theorem zzQ69 {p:Prop} (h:p:=by
 induction h with
 |nil=>exact .nil
 | @snoc ss os xs n ho h ih=>
   rw[List.length_append]
   refine IsT.snoc n ?_
   rw[←ho,←List.length_append];exact ih):p:=h
theorem zzQ70 {p:Prop} (h:p:=by
 go_enter Tryz.func73,Tryz.ntmps73
 go_wp2_with fail
 go_ret
 exact⟨rfl,rfl⟩):p:=h
theorem zzQ71 {p:Prop} (h:p:=by
 go_wp2_with fail
 go_ret
 exact⟨v1,rfl,by rw[HL.out];exact HW1.1,HW1.2.1⟩):p:=h
theorem zzQ72 {p:Prop} (h:p:=by
 induction h with
 |nil=>intro k hk;cases hk
 |cons h1 _ ih=>
  intro k hk
  rcases List.mem_cons.1 hk with rfl|hk
  ·exact h1.tree
  ·exact ih k hk):p:=h
theorem zzQ73 {p:Prop} (h:p:=by
 go_wp2_with fail
 go_roundw
 case rel=>exact⟨i+1,o,true,by omega,by omega,rfl,rfl,by go_num,HF.out,HB.out⟩
 case measure=>simp[intOf];omega):p:=h
theorem zzQ74 {p:Prop} (h:p:=by
 refine⟨h.1,?_⟩
 rcases h.2 with hn|⟨g',cap',cur,hv,h1,rest⟩
 ·exact .inl hn
 ·exact .inr ⟨g',cap',cur,hv,Nat.le_trans hb h1,rest⟩):p:=h
theorem zzQ75 {p:Prop} (h:p:=by
 have h0:j=p.length:=by omega
 have:itemM p j=.inr (2,p.length):=by
  unfold itemM
  rw[chM_end (List.getElem?_eq_none (by omega)),h0]
 rw[this]):p:=h
theorem zzQ76 {p:Prop} (h:p:=by
 intro j u hu
 have hj:j=0:=by have:=(List.getElem?_eq_some_iff.1 hu).1;simpa using this
 subst hj
 simp at hu
 rw[Addr.add_mid,←hu];exact hc):p:=h
theorem zzQ77 {p:Prop} (h:p:=by
 have h1:IntKind.i64.min= -9223372036854775808:=by decide
 have h2:IntKind.i64.max=9223372036854775807:=by decide
 simp[Lit.wf,h1,h2];omega):p:=h
theorem zzQ78 {p:Prop} (h:p:=by
 go_wp2_with fail
 go_roundw
 case rel=>exact⟨i+1,g5,c5,_,by omega,by go_num,by first|rfl|simp,HJ5⟩
 case measure=>simp[intOf];omega):p:=h
theorem zzQ79 {p:Prop} (h:p:=by
 go_wp2_with fail
 go_roundw
 case rel=>exact⟨k+1,_,by omega,by go_num,rfl,e1.out,H3.out⟩
 case measure=>go_light;simp[intOf];omega):p:=h
theorem zzQ80 {p:Prop} (h:p:=by
 intro i x hx
 rw[cell_of_row _ _ _ _ _ _ (heap_alloc_last w _),Nat.zero_add]
 rw[←Array.getElem?_toList,h,List.getElem?_map,hx]
 rfl):p:=h
theorem zzQ81 {p:Prop} (h:p:=by
 induction h with
 |nil=>exact .nil
 | @snoc ss os xs n ho h ih=>
   rw[List.map_append]at ih⊢
   exact .snoc n (by simpa using ho) ih):p:=h
theorem zzQ82 {p:Prop} (h:p:=by
 exact(hn.mono (fun _ _ q=>AtomG.mono (Nat.le_max_left _ _) q)).snoc (hm.mono (fun _ _ q=>AtomG.mono (Nat.le_max_right _ _) q))):p:=h
theorem zzQ83 {p:Prop} (h:p:=by
 rw[←hW6]
 clear hW6 t0 ft0
 have c1:=HJ6.fs.cell (j:=1) rfl
 have f1:=HJ6.fs.frozen 1
 go_wp2_with fail
 go_meet
 exact HD.out):p:=h
theorem zzQ84 {p:Prop} (h:p:=by
 go_enter Tryz.func92,Tryz.ntmps92
 go_wp2_with fail
 go_ret
 exact⟨by first|rfl|(rw[H.out];simp[z2])|simp[H.out,z2],rfl⟩):p:=h
theorem zzQ85 {p:Prop} (h:p:=by
 intro i s hs
 have:=h (k+i) s (by rw[←List.getElem?_drop];exact hs)
 rw[Nat.add_mul,←Nat.add_assoc]at this
 exact this):p:=h
theorem zzQ86 {p:Prop} (h:p:=by
 obtain⟨n,hn⟩:=h
 exact⟨n,hn.mono (fun t v q=>q.mono (vals_move hc hS hl) (Nat.le_refl _)) (vals_move hc hS hl)⟩):p:=h
theorem zzQ87 {p:Prop} (h:p:=by
 clear hWF
 go_wp2_with fail
 rw[HWE.out]
 exact bodyPost_ret (by simp[results,Tryz.results68,go_sem,p0]) rfl HRH.out):p:=h
end Go.Proofs.YtgnpcenpcmdlfaaGreatDoor
namespace Go.Proofs.YtgnpcenpcmdlfaaGreatDoor
open Go.ChangeShapes Go.WideShapes Go.ChangeAt Go.RowKit
open Go.ChangeMaps (open_string shut_string)
structure Ent where
 row:ByteArray
 fam:ByteArray
 qual:ByteArray
 ts:Int
 kind:Int
 val:ByteArray
end Go.Proofs.YtgnpcenpcmdlfaaGreatDoor
namespace Go.Proofs.YtgnpcenpcmdlfaaGreatDoor
open Go.ChangeShapes Go.WideShapes Go.ChangeAt Go.RowKit Go.Deep
theorem bcell {W w1:World} (hb:Below W.heap.size W w1):(∀b o,b<W.heap.size→w1.cell? ⟨b,o,none⟩=W.cell? ⟨b,o,none⟩)∧(∀b o,b<W.heap.size→w1.frozen? ⟨b,o,none⟩=W.frozen? ⟨b,o,none⟩):=
 ⟨fun b o h=>hb.cell (p:=⟨b,o,none⟩) h,fun b o h=>hb.frozen (p:=⟨b,o,none⟩) h⟩
end Go.Proofs.YtgnpcenpcmdlfaaGreatDoor
namespace Go.Proofs.YtgnpcenpcmdlfaaGreatDoor
open Go.ChangeShapes Go.WideShapes Go.ChangeAt Go.RowKit Go.Deep
set_option linter.unusedVariables false
theorem grown_of_below {w w':World} (h:Below w.heap.size w w') (r:Option Nat):w.grownBy w' r:=⟨h.os,h.tape,h.output,h.size,fun k hk _=>h.block k hk⟩
theorem grown_set (w:World) (g o:Nat) (u:Value):w.grownBy (w.setCell ⟨g,o,none⟩ u) (some g):=by
 have h:Below g w (w.setCell ⟨g,o,none⟩ u):=(Below.refl g w).setCell (Nat.le_refl _) u
 exact⟨h.os,h.tape,h.output,h.size,fun k hk hne=>Below.heap_setCell w ⟨g,o,none⟩ u k (fun e=>hne (by rw[e]))⟩
end Go.Proofs.YtgnpcenpcmdlfaaGreatDoor
namespace Go.Proofs.YtgnpcenpcmdlfaaGreatDoor
open Go.ChangeShapes Go.WideShapes Go.ChangeAt Go.RowKit Go.Deep
set_option linter.unusedVariables false
set_option linter.unusedSimpArgs false
structure Chg (S:Nat→Prop) (w w':World):Prop where
 os:w'.os=w.os
 tape:w'.tape=w.tape
 output:w'.output=w.output
 size:w.heap.size≤w'.heap.size
 block:∀k,k<w.heap.size→¬S k→w'.heap[k]?=w.heap[k]?
theorem Chg.refl (S:Nat→Prop) (w:World):Chg S w w:=⟨rfl,rfl,rfl,Nat.le_refl _,fun _ _ _=>rfl⟩
theorem Chg.trans {S:Nat→Prop} {a b c:World} (h:Chg S a b) (k:Chg S b c):Chg S a c:=
 ⟨k.os.trans h.os,k.tape.trans h.tape,k.output.trans h.output,Nat.le_trans h.size k.size,fun i hi hn=>(k.block i (Nat.lt_of_lt_of_le hi h.size) hn).trans (h.block i hi hn)⟩
theorem Chg.mono {S T:Nat→Prop} {w w':World} (h:Chg S w w') (hs:∀k,S k→T k):Chg T w w':=⟨h.os,h.tape,h.output,h.size,fun k hk hn=>h.block k hk (fun q=>hn (hs k q))⟩
theorem Chg.of_below {S:Nat→Prop} {w w':World} (h:Below w.heap.size w w'):Chg S w w':=⟨h.os,h.tape,h.output,h.size,fun k hk _=>h.block k hk⟩
theorem Chg.of_grown {S:Nat→Prop} {w w':World} {row:Option Nat} (h:w.grownBy w' row) (hs:∀k,row=some k→S k):Chg S w w':=
 ⟨h.os,h.tape,h.output,h.size,fun k hk hn=>h.block k hk (fun q=>hn (hs k q.symm))⟩
theorem Chg.of_set {S:Nat→Prop} (w:World) (g o:Nat) (u:Value) (hs:S g):Chg S w (w.setCell ⟨g,o,none⟩ u):=Chg.of_grown (grown_set w g o u) (fun k hk=>by cases hk;exact hs)
theorem Chg.below {S:Nat→Prop} {B:Nat} {a w w':World} (h:Below B a w) (k:Chg S w w') (hB:B≤w.heap.size) (hs:∀k,S k→B≤k):Below B a w':=
 h.trans ⟨k.os,k.tape,k.output,k.size,fun i hi=>k.block i (by omega) (fun q=>by have:=hs i q;omega)⟩
theorem Chg.cell {S:Nat→Prop} {w w':World} (h:Chg S w w') {p:Addr} (hp:p.block<w.heap.size) (hn:¬S p.block):w'.cell? p=w.cell? p:=World.cell?_of_block (w:=w) (h.block p.block hp hn)
theorem Chg.frozen {S:Nat→Prop} {w w':World} (h:Chg S w w') {p:Addr} (hp:p.block<w.heap.size) (hn:¬S p.block):w'.frozen? p=w.frozen? p:=World.frozen?_of_block (w:=w) (h.block p.block hp hn)
theorem own_chg {S:Nat→Prop} {w w':World} {base e size:Nat} {v:Value} {n:Nat} {xs:List Value} (h:w.ownsRow base e size v n xs) (hb:Chg S w w') (hn:∀k,v.ownBlock=some k→¬S k):w'.ownsRow base e size v n xs:=by
 refine⟨h.1,?_⟩
 rcases h.2 with hz|⟨g,cap,cur,rfl,h1,hg,rest⟩
 ·exact .inl hz
 ·refine .inr ⟨g,cap,cur,rfl,h1,?_,rest⟩
  have hlt:g<w.heap.size:=by
   rcases Nat.lt_or_ge g w.heap.size with q|q
   ·exact q
   ·rw[Array.getElem?_eq_none q]at hg;cases hg
  rw[hb.block g hlt (hn g rfl)];exact hg
end Go.Proofs.YtgnpcenpcmdlfaaGreatDoor
namespace Go.Proofs.YtgnpcenpcmdlfaaGreatDoor
open Go.ChangeShapes Go.WideShapes Go.ChangeAt Go.RowKit Go.Deep
end Go.Proofs.YtgnpcenpcmdlfaaGreatDoor
namespace Go.Proofs.YtgnpcenpcmdlfaaGreatDoor
open Go.ChangeShapes Go.WideShapes Go.ChangeAt Go.RowKit Go.Deep
set_option linter.unusedVariables false
set_option linter.unusedSimpArgs false
set_option maxRecDepth 100000
def CodeAt (w:World) (base:Nat) (bv:Value) (n:Nat):Prop:=
 n≤1048576∧((∃a cap,bv=.slice a 0 cap∧n=0)∨∃b off cap,bv=.slice (some ⟨b,off,none⟩) n cap∧b<base∧∀k,k<n→∃x:Int,w.cell? ⟨b,off+k,none⟩=some (.int .u8 x)∧0≤x∧x<256)
def OwnL (w:World) (base cb:Nat) (vs:List Value):Prop:=w.ownsRow base 109 3 (.slice (some ⟨cb,0,none⟩) 1 1) 1 vs
structure DrawAt (base cb:Nat) (bv:Value) (n:Nat) (w:World):Prop where
 own:∃(i:Nat) (h:Int),i≤n∧OwnL w base cb [bv,.int .i64 i,.int .i64 h]
 code:CodeAt w base bv n
 base:base≤w.heap.size
theorem and255 (x:Int):0≤bits .and .i64 x 255∧bits .and .i64 x 255<256:=by
 have h:(BitVec.ofInt 64 x &&& BitVec.ofInt 64 255).toNat≤255:=by
  rw[BitVec.toNat_and]
  exact Nat.le_trans Nat.and_le_right (by decide)
 have e:bits .and .i64 x 255=IntKind.i64.wrap ((BitVec.ofInt 64 x &&& BitVec.ofInt 64 255).toNat:Int):=rfl
 rw[e,IntKind.wrap_i64]
 omega
theorem CodeAt.chg {T:Nat→Prop} {w w':World} {base:Nat} {bv:Value} {n:Nat} (h:CodeAt w base bv n) (hc:Chg T w w') (hb:base≤w.heap.size) (hT:∀k,T k→base≤k):CodeAt w' base bv n:=by
 refine⟨h.1,?_⟩
 rcases h.2 with h|⟨b,off,cap,hv,hlt,hx⟩
 ·exact .inl h
 ·refine .inr ⟨b,off,cap,hv,hlt,fun k hk=>?_⟩
  obtain⟨x,h1,h2⟩:=hx k hk
  exact⟨x,by rw[hc.cell (p:=⟨b,off+k,none⟩) (by show b<w.heap.size;omega) (fun q=>by have q1:base≤b:=hT _ q;omega)];exact h1,h2⟩
theorem DrawAt.chg {T:Nat→Prop} {base cb:Nat} {bv:Value} {n:Nat} {w w':World} (h:DrawAt base cb bv n w) (hc:Chg T w w') (hn:¬T cb) (hT:∀k,T k→base≤k):DrawAt base cb bv n w':=by
 obtain⟨i,hh,h1,h2⟩:=h.own
 exact⟨⟨i,hh,h1,own_chg h2 hc (fun k q=>by simp[Value.ownBlock]at q;subst q;exact hn)⟩,h.code.chg hc h.base hT,by have:=hc.size;have:=h.base;omega⟩
theorem DrawAt.below {base cb:Nat} {bv:Value} {n:Nat} {w w':World} (h:DrawAt base cb bv n w) (hb:Below w.heap.size w w'):DrawAt base cb bv n w':=
 h.chg (T:=fun _=>False) (Chg.of_below hb) (fun q=>q) (fun k q=>q.elim)
theorem DrawAt.lt {base cb:Nat} {bv:Value} {n:Nat} {w:World} (h:DrawAt base cb bv n w):base≤cb∧cb<w.heap.size:=by
 obtain⟨i,hh,h1,h2⟩:=h.own
 exact World.ownsRow.lt h2 cb rfl
theorem DrawAt.setH {base cb:Nat} {bv:Value} {n i:Nat} {hh:Int} {w:World} (hi:i≤n) (h:OwnL w base cb [bv,.int .i64 i,.int .i64 hh]) (hc:CodeAt w base bv n) (hb:base≤w.heap.size) (h':Int):DrawAt base cb bv n (w.setCell ⟨cb,2,none⟩ (.int .i64 h')):=by
 have hl:=World.ownsRow.lt h cb rfl
 refine⟨⟨i,h',hi,(World.ownsRow.stored h 2 _).1⟩,hc.chg (Chg.of_set (S:=fun k=>k=cb) w cb 2 _ rfl) hb (fun k q=>by omega),?_⟩
 have:=(Chg.of_set (S:=fun k=>k=cb) w cb 2 (.int .i64 h') rfl).size
 omega
theorem DrawAt.setI {base cb:Nat} {bv:Value} {n i:Nat} {hh:Int} {w:World} (hi:i+1≤n) (h:OwnL w base cb [bv,.int .i64 i,.int .i64 hh]) (hc:CodeAt w base bv n) (hb:base≤w.heap.size):DrawAt base cb bv n (w.setCell ⟨cb,1,none⟩ (.int .i64 (i+1:Nat))):=by
 have hl:=World.ownsRow.lt h cb rfl
 refine⟨⟨i+1,hh,hi,(World.ownsRow.stored h 1 _).1⟩,hc.chg (Chg.of_set (S:=fun k=>k=cb) w cb 1 _ rfl) hb (fun k q=>by omega),?_⟩
 have:=(Chg.of_set (S:=fun k=>k=cb) w cb 1 (.int .i64 (i+1:Nat)) rfl).size
 omega
set_option maxHeartbeats 1000000 in
theorem byte_core (base cb:Nat) (bv:Value) (n:Nat) (w:World) (h:DrawAt base cb bv n w):
  Calls Tryz.prog 84 #[.pointer (some ⟨cb,0,none⟩)] w fun e w'=>∃x:Int,e=.returned (.int .i64 x)∧0≤x∧x<256∧DrawAt base cb bv n w'∧Chg (fun k=>k=cb) w w':=by
 obtain⟨i,hh,hin,hO⟩:=h.own
 have c0:w.cell? ⟨cb,0,none⟩=some bv:=World.ownsRow.cellAt hO 0 (by decide)
 have c1:w.cell? ⟨cb,1,none⟩=some (.int .i64 i):=World.ownsRow.cellAt hO 1 (by decide)
 have c2:w.cell? ⟨cb,2,none⟩=some (.int .i64 hh):=World.ownsRow.cellAt hO 2 (by decide)
 have f1:=World.ownsRow.frozenAt hO 1
 have f2:=World.ownsRow.frozenAt hO 2
 obtain⟨h1,hh1⟩:=qE (wrap64 (wrap64 (hh*6364136223846793005)+1442695040888963407))
 obtain⟨W1,hW1⟩:=qE (w.setCell ⟨cb,2,none⟩ (.int .i64 h1):World)
 have hC1:Chg (fun k=>k=cb) w W1:=by rw[hW1];exact Chg.of_set _ _ _ _ rfl
 have HO1:Hid (OwnL W1 base cb [bv,.int .i64 i,.int .i64 h1]):=by show OwnL W1 _ _ _;rw[hW1];exact(World.ownsRow.stored hO 2 _).1
 have hD1:DrawAt base cb bv n W1:=by rw[hW1];exact DrawAt.setH hin hO h.code h.base h1
 have HD:Hid (DrawAt base cb bv n W1∧Chg (fun k=>k=cb) w W1):=⟨hD1,hC1⟩
 clear hD1 hC1
 have hcode:=h.code
 have hn:=hcode.1
 clear h hO
 go_enter Tryz.func84,Tryz.ntmps84
 go_upto_region 2 with fail
 rw[←hh1,←hW1]
 have d0:W1.cell? ⟨cb,0,none⟩=some bv:=World.ownsRow.cellAt HO1.out 0 (by decide)
 have d1:W1.cell? ⟨cb,1,none⟩=some (.int .i64 i):=World.ownsRow.cellAt HO1.out 1 (by decide)
 have d2:W1.cell? ⟨cb,2,none⟩=some (.int .i64 h1):=World.ownsRow.cellAt HO1.out 2 (by decide)
 have e1:=World.ownsRow.frozenAt HO1.out 1
 clear hh1 hW1 c0 c1 c2 f1 f2
 go_quiet (fail)
 obtain⟨x0,hx0⟩:=qE (bits BinOp.and IntKind.i64 (bits BinOp.xor IntKind.i64 (h1/8589934592) (h1/35184372088832)) 255)
 have hx1:0≤x0∧x0<256:=by rw[hx0];exact and255 _
 rw[←hx0]
 clear hx0
 rcases HD.1.code.2 with⟨a,cap,rfl,rfl⟩|⟨b,off,cap,rfl,hlt,hx⟩
 ·have z:¬(i:Int)<0:=by omega
  exact zzQ59
 ·by_cases hi:i<n
  ·obtain⟨x,hc,hxa,hxb⟩:=hx i hi
   have z:(i:Int)<(n:Int):=by omega
   go_upto_region 3 with fail
   go_quiet (fail)
   go_upto_region 4 with fail
   go_quiet (fail)
   obtain⟨x2,hx2⟩:=qE (bits BinOp.and IntKind.i64 (x0+x) 255)
   have hx3:0≤x2∧x2<256:=by rw[hx2];exact and255 _
   rw[←hx2]
   clear hx2
   go_wp2_with fail
   go_ret
   refine⟨x2,rfl,hx3.1,hx3.2,?_,?_⟩
   ·have hb:=fun q=>below_drewN (Below.refl W1.heap.size W1) q
    exact DrawAt.setI (by omega) (own_chg (S:=fun _=>False) HO1.out (Chg.of_below (hb _)) (fun k _ q=>q)) (HD.1.below (hb _)).code (HD.1.below (hb _)).base
   ·exact(HD.2.trans (Chg.of_below (below_drewN (Below.refl _ _) _))).trans (Chg.of_set (S:=fun k=>k=cb) _ _ _ _ rfl)
  ·have z:¬(i:Int)<(n:Int):=by omega
   exact zzQ59
abbrev Drew (base cb:Nat) (bv:Value) (n:Nat) (w w':World):Prop:=DrawAt base cb bv n w'∧Chg (fun k=>k=cb) w w'
set_option maxHeartbeats 1000000 in
theorem below_core (base cb:Nat) (bv:Value) (n:Nat) (m:Int) (w:World) (h:DrawAt base cb bv n w) (hm:1≤m) (hm2:m≤1048576):
  Calls Tryz.prog 43 #[.pointer (some ⟨cb,0,none⟩),.int .i64 m] w fun e w'=>∃x:Int,e=.returned (.int .i64 x)∧0≤x∧x<m∧Drew base cb bv n w w':=by
 have HD:Hid (DrawAt base cb bv n w):=h
 clear h
 by_cases hs:m≤256
 ·go_enter Tryz.func43,Tryz.ntmps43
  go_wp2_with fail
  refine(byte_core base cb bv n _ HD.out).mono ?_
  rintro e w1 ⟨x,rfl,hx0,hx1,hD1,hC1⟩
  have H1:Hid (DrawAt base cb bv n w1∧Chg (fun k=>k=cb) w w1):=⟨hD1,hC1⟩
  clear hD1 hC1
  go_wp2
  go_ret
  exact⟨x%m,rfl,Int.emod_nonneg _ (by omega),Int.emod_lt_of_pos _ (by omega),H1.1,H1.2⟩
 ·go_enter Tryz.func43,Tryz.ntmps43
  go_wp2_with fail
  refine(byte_core base cb bv n _ HD.out).mono ?_
  rintro e w1 ⟨x,rfl,hx0,hx1,hD1,hC1⟩
  have H1:Hid (DrawAt base cb bv n w1∧Chg (fun k=>k=cb) w w1):=⟨hD1,hC1⟩
  clear hD1 hC1
  go_wp2_with fail
  refine(byte_core base cb bv n _ H1.1).mono ?_
  rintro e w2 ⟨y,rfl,hy0,hy1,hD2,hC2⟩
  have H2:Hid (DrawAt base cb bv n w2∧Chg (fun k=>k=cb) w w2):=⟨hD2,H1.2.trans hC2⟩
  clear hD2 hC2
  go_wp2_with fail
  refine(byte_core base cb bv n _ H2.1).mono ?_
  rintro e w3 ⟨z,rfl,hz0,hz1,hD3,hC3⟩
  have H3:Hid (DrawAt base cb bv n w3∧Chg (fun k=>k=cb) w w3):=⟨hD3,H2.2.trans hC3⟩
  clear hD3 hC3
  go_wp2
  go_ret
  exact⟨(x*65536+y*256+z)%m,rfl,Int.emod_nonneg _ (by omega),Int.emod_lt_of_pos _ (by omega),H3.1,H3.2⟩
set_option maxHeartbeats 400000 in
theorem once_core (base cb:Nat) (bv:Value) (n:Nat) (m:Int) (w:World) (h:DrawAt base cb bv n w) (hm:1≤m) (hm2:m≤1048576):
  Calls Tryz.prog 33 #[.pointer (some ⟨cb,0,none⟩),.int .i64 m] w fun e w'=>∃v:Value,e=.returned v∧(v=.bool true∨v=.bool false)∧Drew base cb bv n w w':=by
 have HD:Hid (DrawAt base cb bv n w):=h
 clear h
 go_enter Tryz.func33,Tryz.ntmps33
 go_wp2_with fail
 refine(below_core base cb bv n m _ HD.out hm hm2).mono ?_
 rintro e w1 ⟨x,rfl,hx0,hx1,hD1,hC1⟩
 have H1:Hid (DrawAt base cb bv n w1∧Chg (fun k=>k=cb) w w1):=⟨hD1,hC1⟩
 clear hD1 hC1
 cases hx:(x==0)
 ·go_wp2_with fail
  go_ret
  exact⟨_,rfl,.inr rfl,H1.1,H1.2⟩
 ·go_wp2_with fail
  go_ret
  exact⟨_,rfl,.inl rfl,H1.1,H1.2⟩
theorem Chg.grown_new {T:Nat→Prop} {w wr w':World} {row:Option Nat} (h:Chg T w wr) (hg:wr.grownBy w' row) (hr:∀k,row=some k→w.heap.size≤k):Chg T w w':=
 ⟨hg.os.trans h.os,hg.tape.trans h.tape,hg.output.trans h.output,Nat.le_trans h.size hg.size,fun k hk hn=>(hg.block k (Nat.lt_of_lt_of_le hk h.size) (fun q=>by have:=hr k q.symm;omega)).trans (h.block k hk hn)⟩
theorem Chg.alloc_new {T:Nat→Prop} {w wr:World} (h:Chg T w wr) (o:Obj):Chg T w (wr.alloc o):=h.trans (Chg.of_below (qB))
abbrev u8v (z:UInt8):Value:=.int .u8 (z.toNat:Int)
def OwnB (w:World) (base g cap:Nat) (zs:List UInt8):Prop:=w.ownsRow base 5 1 (.slice (some ⟨g,0,none⟩) zs.length cap) zs.length (zs.map u8v)
theorem Tryz.infoU8:(Tryz.prog.info? 5).map (fun i=>(i.zero,i.size,i.bytes))=some (some (.int .u8 0),1,1):=by kernel_rfl
theorem wpList_append_byte {ops:Array Oper} {rest:List Oper} {o:Oper} {a:Act} {Q:Exit→Act→World→Prop} (w:World) (hgd:o.guard=none) (s x:Operand)
  (ho:o.op=.call {callee:=.builtin .append,args:=#[s,x],argTypes:=#[22,22]})
  (base g cp n blk:Nat) (zs:List UInt8) (z:UInt8) (hs:a.eval s=.slice (some ⟨g,0,none⟩) n cp) (cx:Nat) (hx:a.eval x=.slice (some ⟨blk,0,none⟩) 1 cx) (hn:n=zs.length) (hO:OwnB w base g cp zs)
  (hc:w.cell? ⟨blk,0,none⟩=some (.int .u8 (z.toNat:Int))) (hlen:zs.length≤2^30) (hbase:base≤w.heap.size)
  (h:∀g' cp' w',OwnB w' base g' cp' (zs++ [z])→w.grownBy w' (some g)→wpList Tryz.prog ops Q rest (a.put o.dst (.slice (some ⟨g',0,none⟩) (n+1) cp')) w'):wpList Tryz.prog ops Q (o::rest) a w:=by
 obtain⟨i,hi,hz0,hz1,hz2⟩:=info_parts Tryz.infoU8
 subst hn
 refine wpList_append_lies w hgd s x 22 ho base 5 i _ 1 1 Tryz.underlying22 hi hz0 hz1 hz2 rfl (by decide) (.slice (some ⟨g,0,none⟩) zs.length cp) zs.length (zs.map u8v) hs hO ⟨blk,0,none⟩ 1 cx [u8v z] hx rfl ?_ ?_ (by decide) ?_ ?_ hbase w.heap.size rfl ?_
 ·intro j u hu
  have hj:j<1:=by simpa using (List.getElem?_eq_some_iff.1 hu).1
  obtain rfl:j=0:=by omega
  simp at hu
  rw[←hu]
  simpa [Addr.add]using hc
 ·intro u hu
  simp at hu
  subst hu
  rfl
 ·unfold maxLen;omega
 ·omega
 ·intro g' cp' w' hO' hgr hat hlt
  refine h g' cp' w' ?_ hgr
  unfold OwnB
  rw[List.length_append,List.map_append]
  exact hO'
theorem ownB_new (w:World) (base:Nat) (hb:base≤w.heap.size):OwnB (w.alloc (Obj.cells #[] 5)) base w.heap.size 0 []:=World.ownsRow_made w #[] 0 hb (Nat.zero_le _) (by simp)
theorem conv_own {w:World} {base g cap:Nat} {zs:List UInt8} (h:OwnB w base g cap zs):(convert 22 9 (.slice (some ⟨g,0,none⟩) zs.length cap)).run Tryz.prog w=.ok (.string ⟨zs.toArray⟩) w:=by
 refine run_convert_bytes_back (P:=Tryz.prog) w 22 9 5 ⟨g,0,none⟩ cap zs Tryz.underlying22 Tryz.underlying5 Tryz.underlying9 ?_
 intro i hi
 have:=World.ownsRow.cellAt h i (by omega)
 rw[Addr.add_mid,Nat.zero_add,this,List.getElem?_map,List.getElem?_eq_getElem hi]
 rfl
set_option maxHeartbeats 2000000 in
theorem letters_core (base cb:Nat) (bv:Value) (n:Nat) (a b:Int) (w:World) (h:DrawAt base cb bv n w) (ha:0≤a) (hab:a≤b) (hb:b≤100):
  Calls Tryz.prog 131 #[.pointer (some ⟨cb,0,none⟩),.int .i64 a,.int .i64 b] w fun e w'=>∃s:ByteArray,e=.returned (.string s)∧s.size≤100∧Drew base cb bv n w w':=by
 have HD:Hid (DrawAt base cb bv n w):=h
 have hbase:=h.base
 have hcb:=h.lt
 clear h
 go_enter Tryz.func131,Tryz.ntmps131
 go_wp2_with fail
 refine(below_core base cb bv n (b-a+1) _ HD.out (by omega) (by omega)).mono ?_
 rintro e w1 ⟨x,rfl,hx0,hx1,hD1,hC1⟩
 have s1:=hC1.size
 have H1:Hid (DrawAt base cb bv n w1∧Chg (fun k=>k=cb) w w1):=⟨hD1,hC1⟩
 clear hD1 hC1
 obtain⟨W2,hW2⟩:=qE (w1.alloc (Obj.cells #[] 5):World)
 have hb2:Below w1.heap.size w1 W2:=by rw[hW2];exact qB
 have HB2:Hid (OwnB W2 w.heap.size w1.heap.size 0 []∧DrawAt base cb bv n W2∧Chg (fun k=>k=cb) w W2):=by
  refine⟨?_,H1.1.below hb2,H1.2.trans (Chg.of_below hb2)⟩
  rw[hW2];exact ownB_new w1 w.heap.size s1
 obtain⟨m,hm⟩:∃m:Nat,a+x=(m:Int):=⟨(a+x).toNat,by omega⟩
 have hm2:m≤100:=by omega
 go_wp2_with fail
 rw[←hW2]
 clear hW2 hm hb2
 go_loopw[8,9] (fun o i wr=>∃(k g cp:Nat) (zs:List UInt8),k≤m∧i=.int .i64 k∧o=.slice (some ⟨g,0,none⟩) k cp∧zs.length=k∧OwnB wr w.heap.size g cp zs∧DrawAt base cb bv n wr∧Chg (fun k=>k=cb) w wr) (fun _ i _=>m-(intOf i).toNat)
 case atStart=>exact⟨0,_,0,[],Nat.zero_le _,rfl,rfl,rfl,HB2.1,HB2.2.1,HB2.2.2⟩
 case round=>
  obtain⟨k,g,cp,zs,hk,rfl,rfl,hzl,hO,hD,hC⟩:=hrel
  have HI:Hid (zs.length=k∧OwnB wr w.heap.size g cp zs∧DrawAt base cb bv n wr∧Chg (fun k=>k=cb) w wr):=⟨hzl,hO,hD,hC⟩
  have hgl:=World.ownsRow.lt hO g rfl
  clear hzl hO hD hC
  by_cases hlt:k<m
  ·have zk:(k:Int)<(m:Int):=by omega
   go_wp2_with fail
   refine(below_core base cb bv n 3 _ HI.2.2.1 (by omega) (by omega)).mono ?_
   rintro e w3 ⟨y,rfl,hy0,hy1,hD3,hC3⟩
   have s3:=hC3.size
   have HO3:Hid (OwnB w3 w.heap.size g cp zs∧DrawAt base cb bv n w3∧Chg (fun k=>k=cb) w w3):=⟨own_chg HI.2.1 hC3 (fun k q=>by simp[Value.ownBlock]at q;subst q;omega),hD3,HI.2.2.2.trans hC3⟩
   clear hD3 hC3
   obtain⟨z,hz⟩:∃z:UInt8,(97:Int)+y=(z.toNat:Int):=⟨UInt8.ofNat (97+y.toNat),by rw[UInt8.toNat_ofNat'];omega⟩
   have HZ:Hid ((97:Int)+y=(z.toNat:Int)):=hz
   have HKl:Hid (k=zs.length):=HI.1.symm
   have s4:=HO3.2.2.size
   clear hz
   go_wp2_with (at_builtin;refine wpList_append_byte _ rfl _ _ rfl w.heap.size g cp _ _ zs z rfl _ rfl HKl.out ?hO ?hc ?hl ?hb ?_)
   case hO=>exact own_chg (S:=fun _=>False) HO3.1 (Chg.of_below (qB)) (fun k _ q=>q)
   case hc=>rw[←HZ.out];simp
   case hl=>rw[←HKl.out];omega
   case hb=>simp;omega
   intro g' cp' w' hO' hgr
   have HN:Hid ((zs++ [z]).length=k+1∧OwnB w' w.heap.size g' cp' (zs++ [z])∧DrawAt base cb bv n w'∧Chg (fun k=>k=cb) w w'):=by
    refine⟨by simp[HI.1],hO',?_,?_⟩
    ·have hd:=HO3.2.1.below ((Below.refl w3.heap.size w3).alloc (Nat.le_refl _) (Obj.cells #[.int .u8 (97+y)] 5))
     exact hd.chg (Chg.of_grown (S:=fun k=>k=g) hgr (fun k hk=>by cases hk;rfl)) (by omega) (fun k q=>by omega)
    ·exact Chg.grown_new (HO3.2.2.alloc_new _) hgr (fun k hk=>by cases hk;omega)
   clear hO' hgr
   go_wp2_with fail
   go_roundw
   case rel=>exact⟨k+1,g',cp',zs++ [z],by omega,by go_num,rfl,HN.1,HN.2.1,HN.2.2.1,HN.2.2.2⟩
   case measure=>go_light;simp[intOf];omega
  ·have zk:¬(k:Int)<(m:Int):=by omega
   have hcv:=conv_own HI.2.1
   rw[HI.1]at hcv
   have HS:Hid ((⟨zs.toArray⟩:ByteArray).size≤100):=by
    show(⟨zs.toArray⟩:ByteArray).size≤100
    have:=HI.1
    simp[ByteArray.size];omega
   go_wp2_with fail
   go_ret
   exact⟨_,rfl,HS.out,HI.2.2.1,HI.2.2.2⟩
theorem conv_str (c:UInt8) (w:World):∃cx w',(convert 9 22 (.string ⟨#[c]⟩)).run Tryz.prog w=.ok (.slice (some ⟨w.heap.size,0,none⟩) 1 cx) w'∧Below w.heap.size w w'∧w'.cell? ⟨w.heap.size,0,none⟩=some (.int .u8 (c.toNat:Int)):=by
 refine⟨_,_,run_bytes_of_string (P:=Tryz.prog) w 9 22 5 ⟨#[c]⟩ Tryz.underlying9 Tryz.underlying22 Tryz.underlying5,((Below.refl _ _).drew).alloc (Nat.le_refl _) _,?_⟩
 have hb:∀O:Obj,(w.drew.alloc O).heap[w.heap.size]?=some O:=fun O=>by
  show(w.heap.push O)[w.heap.size]?=_
  simp
 unfold World.cell?
 rw[hb]
 simp[bytesRow]
 rw[Array.getElem?_append_left (by simp)]
 rfl
set_option maxHeartbeats 2000000 in
theorem many_core (c:UInt8) (m:Nat) (w:World) (hm:m≤1000):
  Calls Tryz.prog 42 #[.string ⟨#[c]⟩,.int .i64 m] w fun e w'=>∃s:ByteArray,e=.returned (.string s)∧s.size≤1000∧Below w.heap.size w w':=by
 obtain⟨W2,hW2⟩:=qE (w.alloc (Obj.cells #[] 5):World)
 have hb2:Below w.heap.size w W2:=by rw[hW2];exact qB
 have HB2:Hid (OwnB W2 w.heap.size w.heap.size 0 []):=by show OwnB W2 _ _ _ _;rw[hW2];exact ownB_new w w.heap.size (Nat.le_refl _)
 go_enter Tryz.func42,Tryz.ntmps42
 go_wp2_with fail
 rw[←hW2]
 clear hW2
 go_loopw[5,6] (fun o i wr=>∃(k g cp:Nat) (zs:List UInt8),k≤m∧i=.int .i64 k∧o=.slice (some ⟨g,0,none⟩) k cp∧zs.length=k∧OwnB wr w.heap.size g cp zs∧Below w.heap.size w wr) (fun _ i _=>m-(intOf i).toNat)
 case atStart=>exact⟨0,_,0,[],Nat.zero_le _,rfl,rfl,rfl,HB2.out,hb2⟩
 case round=>
  obtain⟨k,g,cp,zs,hk,rfl,rfl,hzl,hO,hb⟩:=hrel
  have HI:Hid (zs.length=k∧OwnB wr w.heap.size g cp zs):=⟨hzl,hO⟩
  have hgl:=World.ownsRow.lt hO g rfl
  have hs:=hb.size
  clear hzl hO
  by_cases hlt:k<m
  ·have zk:(k:Int)<(m:Int):=by omega
   have HKl:Hid (k=zs.length):=HI.1.symm
   obtain⟨cx,W3,hrun,hb3,hc3⟩:=conv_str c wr
   have hs3:=hb3.size
   go_wp2_with (at_builtin;refine wpList_append_byte _ rfl _ _ rfl w.heap.size g cp _ wr.heap.size zs c rfl cx rfl HKl.out ?hO ?hc ?hl ?hb ?_)
   case hO=>exact own_chg (S:=fun _=>False) HI.2 (Chg.of_below hb3) (fun k _ q=>q)
   case hc=>exact hc3
   case hl=>rw[←HKl.out];omega
   case hb=>omega
   intro g' cp' w' hO' hgr
   have HN:Hid ((zs++ [c]).length=k+1∧OwnB w' w.heap.size g' cp' (zs++ [c])):=⟨by simp[HI.1],hO'⟩
   have hb':Below w.heap.size w w':=(hb.trans (hb3.mono hs)).grown hgr (by omega) (fun j hj=>by cases hj;omega)
   clear hO' hgr hrun
   go_wp2_with fail
   go_roundw
   case rel=>exact⟨k+1,g',cp',zs++ [c],by omega,by go_num,rfl,HN.1,HN.2,hb'⟩
   case measure=>go_light;simp[intOf];omega
  ·have zk:¬(k:Int)<(m:Int):=by omega
   have hcv:=conv_own HI.2
   rw[HI.1]at hcv
   have HS:Hid ((⟨zs.toArray⟩:ByteArray).size≤1000):=by
    show(⟨zs.toArray⟩:ByteArray).size≤1000
    have:=HI.1
    simp[ByteArray.size];omega
   go_wp2_with fail
   go_ret
   exact⟨_,rfl,HS.out,hb⟩
set_option maxHeartbeats 1000000 in
theorem pick_core (base cb:Nat) (bv:Value) (n blk nw:Nat) (w:World) (h:DrawAt base cb bv n w) (h1:1≤nw) (h2:nw≤100) (hne:¬blk=cb) (hlt:blk<w.heap.size) (hw:∀k,k<nw→∃s:ByteArray,w.cell? ⟨blk,k,none⟩=some (.string s)∧s.size≤1000):
  Calls Tryz.prog 34 #[.pointer (some ⟨cb,0,none⟩),.slice (some ⟨blk,0,none⟩) nw nw] w fun e w'=>∃s:ByteArray,e=.returned (.string s)∧s.size≤1000∧Drew base cb bv n w w':=by
 have HD:Hid (DrawAt base cb bv n w∧∀k,k<nw→∃s:ByteArray,w.cell? ⟨blk,k,none⟩=some (.string s)∧s.size≤1000):=⟨h,hw⟩
 clear h hw
 go_enter Tryz.func34,Tryz.ntmps34
 go_wp2_with fail
 refine(below_core base cb bv n (nw:Int) _ HD.1 (by omega) (by omega)).mono ?_
 rintro e w1 ⟨x,rfl,hx0,hx1,hD1,hC1⟩
 obtain⟨k,rfl⟩:=Int.eq_ofNat_of_zero_le hx0
 obtain⟨s,hs,hsz⟩:=HD.2 k (by omega)
 have c1:w1.cell? ⟨blk,k,none⟩=some (.string s):=by rw[hC1.cell (p:=⟨blk,k,none⟩) hlt hne];exact hs
 have H1:Hid (DrawAt base cb bv n w1∧Chg (fun k=>k=cb) w w1):=⟨hD1,hC1⟩
 clear hD1 hC1 hs
 go_wp2_with fail
 go_ret
 exact⟨s,rfl,hsz,H1.1,H1.2⟩
set_option maxHeartbeats 1000000 in
theorem new_core (bv:Value) (n:Nat) (w:World) (h:CodeAt w w.heap.size bv n):
  Calls Tryz.prog 31 #[bv] w fun e w'=>e=.returned (.pointer (some ⟨w.heap.size,0,none⟩))∧DrawAt w.heap.size w.heap.size bv n w'∧Below w.heap.size w w':=by
 have HC:Hid (CodeAt w w.heap.size bv n):=h
 have hn:=h.1
 have fin:∀x:Int,DrawAt w.heap.size w.heap.size bv n (w.alloc (Obj.cells #[bv,.int .i64 0,.int .i64 x] 109))∧Below w.heap.size w (w.alloc (Obj.cells #[bv,.int .i64 0,.int .i64 x] 109)):=fun x=>by
  have hb:Below w.heap.size w (w.alloc (Obj.cells #[bv,.int .i64 0,.int .i64 x] 109)):=qB
  refine⟨⟨⟨0,x,Nat.zero_le _,?_⟩,HC.chg (T:=fun _=>False) (Chg.of_below hb) (Nat.le_refl _) (fun k q=>q.elim),hb.size⟩,hb⟩
  exact World.ownsRow_lit (base:=w.heap.size) (e:=109) (size:=3) w #[bv,.int .i64 0,.int .i64 x] 1 (Nat.le_refl _) (by decide) rfl
 have HF:Hid (∀x:Int,DrawAt w.heap.size w.heap.size bv n (w.alloc (Obj.cells #[bv,.int .i64 0,.int .i64 x] 109))∧Below w.heap.size w (w.alloc (Obj.cells #[bv,.int .i64 0,.int .i64 x] 109))):=fin
 clear fin
 rcases h.2 with⟨a,cap,rfl,rfl⟩|⟨b,off,cap,rfl,hlt,hx⟩
 ·go_enter Tryz.func31,Tryz.ntmps31
  go_wp2_with fail
  go_loopw[3,4] (fun h i wr=>(∃x:Int,h=.int .i64 x)∧i=.int .i64 0∧wr=w) (fun _ _ _=>0)
  case atStart=>exact⟨⟨_,rfl⟩,rfl,rfl⟩
  case round=>
   obtain⟨⟨x,rfl⟩,rfl,rfl⟩:=hrel
   go_wp2_with fail
   go_ret
   exact⟨rfl,(HF.out x).1,(HF.out x).2⟩
 ·have HX:Hid (∀k,k<n→∃x:Int,w.cell? ⟨b,off+k,none⟩=some (.int .u8 x)∧0≤x∧x<256):=hx
  clear hx h
  go_enter Tryz.func31,Tryz.ntmps31
  go_wp2_with fail
  go_loopw[3,4] (fun h i wr=>∃(k:Nat) (x:Int),k≤n∧h=.int .i64 x∧i=.int .i64 k∧wr=w) (fun _ i _=>n-(intOf i).toNat)
  case atStart=>exact⟨0,_,Nat.zero_le _,rfl,rfl,rfl⟩
  case round=>
   obtain⟨k,x,hk,rfl,rfl,rfl⟩:=hrel
   by_cases hkn:k<n
   ·obtain⟨y,hc,hy0,hy1⟩:=HX.out k hkn
    have zk:(k:Int)<(n:Int):=by omega
    go_wp2_with fail
    go_roundw
    case rel=>exact⟨k+1,_,by omega,rfl,by go_num,trivial⟩
    case measure=>go_light;simp[intOf];omega
   ·have zk:¬(k:Int)<(n:Int):=by omega
    go_wp2_with fail
    go_ret
    exact⟨rfl,(HF.out x).1,(HF.out x).2⟩
def TxtP (base cb:Nat) (bv:Value) (n m:Nat) (w:World) (e:Ending) (w':World):Prop:=∃s:ByteArray,e=.returned (.string s)∧s.size≤m∧Drew base cb bv n w w'
def TextC (base cb:Nat) (bv:Value) (n d m:Nat):Prop:=∀w,DrawAt base cb bv n w→Calls Tryz.prog 140 #[.pointer (some ⟨cb,0,none⟩),.int .i64 d] w (TxtP base cb bv n m w)
def PieceC (base cb:Nat) (bv:Value) (n d m:Nat):Prop:=∀w,DrawAt base cb bv n w→Calls Tryz.prog 151 #[.pointer (some ⟨cb,0,none⟩),.int .i64 d] w (TxtP base cb bv n m w)
theorem size_app (a b:ByteArray):(a++b).size=a.size+b.size:=ByteArray.size_append
set_option maxHeartbeats 2000000 in
theorem piece_of (base cb:Nat) (bv:Value) (n d m:Nat) (hm:m≤100000) (hd:d≤5) (HT0:0<d→TextC base cb bv n (d-1) m):PieceC base cb bv n d (m+1002):=by
 intro w h
 have HT:Hid (0<d→TextC base cb bv n (d-1) m):=HT0
 have HD:Hid (DrawAt base cb bv n w):=h
 have hcl0:=h.lt.2
 clear h HT0
 go_enter Tryz.func151,Tryz.ntmps151
 go_wp2_with fail
 refine(below_core base cb bv n 14 _ HD.out (by omega) (by omega)).mono ?_
 rintro e w1 ⟨x,rfl,hx0,hx1,hD1,hC1⟩
 have H1:Hid (DrawAt base cb bv n w1∧Chg (fun k=>k=cb) w w1):=⟨hD1,hC1⟩
 have hcl:=hD1.lt.2
 clear hD1 hC1
 by_cases hk:x<6∨d=0
 ·have hq:Hid (x<6∨d=0):=hk
  by_cases h6:x<6
  ·exact zzQ44
  ·obtain rfl:d=0:=by omega
   exact zzQ44
 have h6:¬x<6:=fun q=>hk (.inl q)
 have hd0:0<d:=Nat.pos_of_ne_zero fun q=>hk (.inr q)
 have hdz:((d:Int)==0)=false:=by rw[beq_eq_false_iff_ne];omega
 clear hk
 by_cases h7:x=6
 ·subst h7
  go_wp2_with fail
  go_ret
  exact⟨_,rfl,by show 1≤_;omega,H1.1,H1.2⟩
 have b6:(x==6)=false:=by rw[beq_eq_false_iff_ne];exact h7
 by_cases h8:x=7
 ·subst h8
  go_wp2_with fail
  refine(pick_core base cb bv n _ 6 _ ((H1.1).below (qB)) (by omega) (by omega) (by omega) (by simp) ?_).mono ?_
  ·exact zzQ45
  ·exact zzQ56
 have b7:(x==7)=false:=by rw[beq_eq_false_iff_ne];exact h8
 by_cases h9:x=8
 ·subst h9
  go_wp2_with fail
  refine(pick_core base cb bv n _ 4 _ ((H1.1).below (qB)) (by omega) (by omega) (by omega) (by simp) ?_).mono ?_
  ·intro k hk
   match k,hk with
   |0,_=>exact⟨_,by simp;rfl,by decide⟩
   |1,_=>exact⟨_,by simp;rfl,by decide⟩
   |2,_=>exact⟨_,by simp;rfl,by decide⟩
   |3,_=>exact⟨_,by simp;rfl,by decide⟩
  ·exact zzQ56
 have b8:(x==8)=false:=by rw[beq_eq_false_iff_ne];exact h9
 have ed:Hid (((d:Int)-1)=((d-1:Nat):Int)):=by show(d:Int)-1=_;omega
 go_wp2_with fail
 rw[ed.out]
 refine(HT.out hd0 w1 H1.1).mono ?_
 rintro e w3 ⟨s,rfl,hs,hD3,hC3⟩
 have H3:Hid (DrawAt base cb bv n w3∧Chg (fun k=>k=cb) w w3):=⟨hD3,H1.2.trans hC3⟩
 clear hD3 hC3
 go_wp2_with fail
 go_ret
 exact⟨_,rfl,by simp only[size_app];show 1+s.size+1≤_;omega,H3.1,H3.2⟩
set_option maxHeartbeats 4000000 in
theorem ptext_of (base cb:Nat) (bv:Value) (n d m:Nat) (hm:m≤100000) (hd:d≤5) (HP0:PieceC base cb bv n d m):TextC base cb bv n d (3*m+10):=by
 intro w h
 have HP:Hid (PieceC base cb bv n d m):=HP0
 have HD:Hid (DrawAt base cb bv n w):=h
 clear h HP0
 go_enter Tryz.func140,Tryz.ntmps140
 go_wp2_with fail
 refine(below_core base cb bv n 4 _ HD.out (by omega) (by omega)).mono ?_
 rintro e w1 ⟨y,rfl,hy0,hy1,hD1,hC1⟩
 have H1:Hid (DrawAt base cb bv n w1∧Chg (fun k=>k=cb) w w1):=⟨hD1,hC1⟩
 clear hD1 hC1
 obtain⟨q,rfl⟩:=Int.eq_ofNat_of_zero_le hy0
 go_wp2_with fail
 go_loopw[5,7] (fun o i wr=>∃(k:Nat) (s:ByteArray),k≤q∧i=.int .i64 k∧o=.string s∧Hid (s.size≤k*(m+2))∧Hid (DrawAt base cb bv n wr∧Chg (fun k=>k=cb) w wr)) (fun _ i _=>q-(intOf i).toNat)
 case atStart=>exact⟨0,_,Nat.zero_le _,rfl,rfl,Nat.le_of_eq (by simp[ByteArray.size]),H1.out⟩
 case round=>
  obtain⟨k,s,hk,rfl,rfl,HS,HI⟩:=hrel
  have hsz:s.size≤400000:=by
   have a1:=HS.out
   have a2:k*(m+2)≤3*(m+2):=Nat.mul_le_mul_right _ (by omega)
   omega
  by_cases hlt:k<q
  ·have zk:(k:Int)<(q:Int):=by omega
   go_wp2_with fail
   refine(HP.out _ HI.1).mono ?_
   rintro e w2 ⟨t,rfl,ht,hD2,hC2⟩
   have H2:Hid (DrawAt base cb bv n w2∧Chg (fun k=>k=cb) w w2):=⟨hD2,HI.2.trans hC2⟩
   have HTZ:Hid (t.size≤m):=ht
   have htz:t.size≤100000:=by omega
   have hst:(s++t).size≤500000:=by rw[size_app];omega
   clear hD2 hC2 ht
   go_wp2_with fail
   refine(below_core base cb bv n 9 _ H2.1 (by omega) (by omega)).mono ?_
   rintro e w3 ⟨x,rfl,hx0,hx1,hD3,hC3⟩
   have H3:Hid (DrawAt base cb bv n w3∧Chg (fun k=>k=cb) w w3):=⟨hD3,H2.2.trans hC3⟩
   clear hD3 hC3
   have e1:Hid ((s++t).size≤(k+1)*(m+2)):=by
    show _≤_
    have a1:=HS.out
    have a2:=HTZ.out
    rw[size_app,Nat.add_mul];omega
   have e2:Hid (∀c:UInt8,(s++t++(⟨#[c]⟩:ByteArray)).size≤(k+1)*(m+2)):=by
    intro c
    have a1:=HS.out
    have a2:=HTZ.out
    rw[size_app,size_app,Nat.add_mul]
    show s.size+t.size+1≤_
    omega
   by_cases h0:x=0
   ·subst h0
    go_wp2_with fail
    go_roundw
    case rel=>exact⟨k+1,_,by omega,by go_num,rfl,e2.out 42,H3.out⟩
    case measure=>go_light;simp[intOf];omega
   have b0:(x==0)=false:=by rw[beq_eq_false_iff_ne];exact h0
   by_cases h1:x=1
   ·subst h1
    go_wp2_with fail
    go_roundw
    case rel=>exact⟨k+1,_,by omega,by go_num,rfl,e2.out 43,H3.out⟩
    case measure=>go_light;simp[intOf];omega
   have b1:(x==1)=false:=by rw[beq_eq_false_iff_ne];exact h1
   by_cases h2:x=2
   ·subst h2
    go_wp2_with fail
    go_roundw
    case rel=>exact⟨k+1,_,by omega,by go_num,rfl,e2.out 63,H3.out⟩
    case measure=>go_light;simp[intOf];omega
   have b2:(x==2)=false:=by rw[beq_eq_false_iff_ne];exact h2
   by_cases h3:x=3
   ·subst h3
    by_cases hn:k+1<q
    ·have hn2:((k:Int)+1<(q:Int)):=by omega
     go_wp2_with fail
     go_roundw
     case rel=>exact⟨k+1,_,by omega,by go_num,rfl,e2.out 124,H3.out⟩
     case measure=>go_light;simp[intOf];omega
    ·have hn2:¬((k:Int)+1<(q:Int)):=by omega
     exact zzQ79
   have b3:(x==3)=false:=by rw[beq_eq_false_iff_ne];exact h3
   exact zzQ79
  ·have zk:¬(k:Int)<(q:Int):=by omega
   have HS2:Hid (s.size≤3*m+6):=by
    show _≤_
    have a1:=HS.out
    have a2:k*(m+2)≤3*(m+2):=Nat.mul_le_mul_right _ (by omega)
    omega
   go_wp2_with fail
   refine(once_core base cb bv n 14 _ HI.1 (by omega) (by omega)).mono ?_
   rintro e w2 ⟨v,rfl,hv,hD2,hC2⟩
   have H2:Hid (DrawAt base cb bv n w2∧Chg (fun k=>k=cb) w w2):=⟨hD2,HI.2.trans hC2⟩
   clear hD2 hC2
   rcases hv with rfl|rfl
   ·go_wp2_with fail
    go_ret
    exact⟨_,rfl,by rw[size_app];have:=HS2.out;show s.size+1≤_;omega,H2.out⟩
   ·go_wp2_with fail
    go_ret
    exact⟨_,rfl,by have:=HS2.out;omega,H2.out⟩
theorem ptext_zero (base cb:Nat) (bv:Value) (n:Nat):TextC base cb bv n 0 3016:=ptext_of base cb bv n 0 1002 (by omega) (by omega) (piece_of base cb bv n 0 0 (by omega) (by omega) (fun q=>absurd q (by omega)))
theorem ptext_one (base cb:Nat) (bv:Value) (n:Nat):TextC base cb bv n 1 12064:=ptext_of base cb bv n 1 4018 (by omega) (by omega) (piece_of base cb bv n 1 3016 (by omega) (by omega) (fun _=>ptext_zero base cb bv n))
theorem ptext_two (base cb:Nat) (bv:Value) (n:Nat):TextC base cb bv n 2 39208:=ptext_of base cb bv n 2 13066 (by omega) (by omega) (piece_of base cb bv n 2 12064 (by omega) (by omega) (fun _=>ptext_one base cb bv n))
end Go.Proofs.YtgnpcenpcmdlfaaGreatDoor
namespace Go.Proofs.YtgnpcenpcmdlfaaGreatDoor
open Go.ChangeShapes Go.WideShapes Go.ChangeAt Go.RowKit Go.Deep
set_option linter.unusedVariables false
def BoxAt (w:World) (base t sz g:Nat) (vs:List Value):Prop:=w.ownsRow base t sz (.slice (some ⟨g,0,none⟩) 1 1) 1 vs
theorem BoxAt.len {w:World} {base t sz g:Nat} {vs:List Value} (h:BoxAt w base t sz g vs):vs.length=sz:=by have:=h.1;omega
theorem BoxAt.lt {w:World} {base t sz g:Nat} {vs:List Value} (h:BoxAt w base t sz g vs):base≤g∧g<w.heap.size:=World.ownsRow.lt h g rfl
theorem BoxAt.chg {S:Nat→Prop} {w w':World} {base t sz g:Nat} {vs:List Value} (h:BoxAt w base t sz g vs) (hc:Chg S w w') (hn:¬S g):BoxAt w' base t sz g vs:=own_chg h hc (fun k q=>by simp[Value.ownBlock]at q;subst q;exact hn)
theorem BoxAt.below {w w':World} {base t sz g:Nat} {vs:List Value} (h:BoxAt w base t sz g vs) (hb:Below w.heap.size w w'):BoxAt w' base t sz g vs:=h.chg (Chg.of_below hb) (S:=fun _=>False) (fun q=>q)
theorem BoxAt.cell {w:World} {base t sz g:Nat} {vs:List Value} (h:BoxAt w base t sz g vs) {j:Nat} {v:Value} (hv:vs[j]?=some v):w.cell? ⟨g,j,none⟩=some v:=by
 have hj:=(List.getElem?_eq_some_iff.1 hv).1
 rw[World.ownsRow.cellAt h j (by have:=h.len;omega),hv]
theorem BoxAt.frozen {w:World} {base t sz g:Nat} {vs:List Value} (h:BoxAt w base t sz g vs) (j:Nat):w.frozen? ⟨g,j,none⟩=false:=World.ownsRow.frozenAt h j
theorem BoxAt.set {w:World} {base t sz g:Nat} {vs:List Value} (h:BoxAt w base t sz g vs) (j:Nat) (u:Value):BoxAt (w.setCell ⟨g,j,none⟩ u) base t sz g (vs.set j u):=(World.ownsRow.stored h j u).1
theorem BoxAt.beside {w:World} {base t sz g:Nat} {vs:List Value} (h:BoxAt w base t sz g vs) {k:Nat} (hk:¬g=k) (j:Nat) (u:Value):BoxAt (w.setCell ⟨k,j,none⟩ u) base t sz g vs:=h.chg (Chg.of_set w k j u (S:=fun q=>q=k) rfl) hk
theorem boxAt_new (w:World) {base t sz:Nat} (cs:Array Value) (hb:base≤w.heap.size) (hs:cs.size=sz):BoxAt (w.alloc (.cells cs t)) base t sz w.heap.size cs.toList:=
 World.ownsRow_lit w cs 1 hb (by decide) (by omega)
def set3 (w:World) (g:Nat) (a b c:Value):World:=((w.setCell ⟨g,0,none⟩ a).setCell ⟨g,1,none⟩ b).setCell ⟨g,2,none⟩ c
theorem BoxAt.set3 {w:World} {base t g:Nat} {vs:List Value} (h:BoxAt w base t 3 g vs) (a b c:Value):BoxAt (set3 w g a b c) base t 3 g [a,b,c]:=by
 have h1:=((h.set 0 a).set 1 b).set 2 c
 have hl:=h.len
 match vs,hl with
 | [x,y,z],_=>exact h1
theorem below_set {B:Nat} {a w:World} (h:Below B a w) {k:Nat} (hk:B≤k) (j:Nat) (u:Value):Below B a (w.setCell ⟨k,j,none⟩ u):=h.setCell (p:=⟨k,j,none⟩) hk u
theorem below_set3 {B:Nat} {a w:World} (h:Below B a w) {k:Nat} (hk:B≤k) (x y z:Value):Below B a (set3 w k x y z):=below_set (below_set (below_set h hk 0 x) hk 1 y) hk 2 z
theorem size_set (w:World) (k j:Nat) (u:Value):(w.setCell ⟨k,j,none⟩ u).heap.size=w.heap.size:=by
 simp[World.setCell]
end Go.Proofs.YtgnpcenpcmdlfaaGreatDoor
namespace Go.Proofs.YtgnpcenpcmdlfaaGreatDoor
open Go.ChangeShapes Go.WideShapes Go.ChangeAt Go.RowKit Go.Deep
set_option linter.unusedVariables false
set_option linter.unusedSimpArgs false
variable {P:Program} {C:World→Prop}
def fk (m:Value) (o:Oper):Oper:={o with op:=.move (.const m)}
def waitsB (pre:List Oper) (o:Oper) (tl:List Oper) (d:Tmp) (sl:List Tmp):Bool:=
 sl.all (fun s=>s != d && ((List.range pre.length).all (fun i=>match pre[i]? with
  |some oi=>oi.dst != some s || o.after.any (fun e=>Region.binds .any e && e.on==i)
  |none=>true) && tl.all (fun oi=>oi.dst != some s))) && pre.all (fun oi=>oi.dst != some d) && tl.all (fun oi=>oi.dst != some d && oi.after.any (fun e=>Region.binds .any e && Nat.ble pre.length e.on))
theorem get_part (pre tl:List Oper) (i:Nat):(pre++tl).toArray[i]?=if i<pre.length then pre[i]? else tl[i-pre.length]?:=by
 rw[List.getElem?_toArray]
 by_cases h:i<pre.length
 ·rw[if_pos h,List.getElem?_append_left h]
 ·rw[if_neg h,List.getElem?_append_right (by omega)]
theorem ready_fk (m:Value) (pre tl:List Oper) (listed:Array Bool):Region.ready .any (pre++tl.map (fk m)).toArray listed=Region.ready .any (pre++tl).toArray listed:=by
 unfold Region.ready
 have hz:(pre++tl.map (fk m)).toArray.size=(pre++tl).toArray.size:=by simp
 rw[hz]
 congr 1
 funext i
 rw[get_part,get_part]
 by_cases h:i<pre.length
 ·rw[if_pos h,if_pos h]
 ·rw[if_neg h,if_neg h,List.getElem?_map]
  cases tl[i-pre.length]?<;>rfl
theorem yielded_fk (m:Value) (pre tl:List Oper) (tmps:Array Value):yielded (pre++tl.map (fk m)).toArray tmps=yielded (pre++tl).toArray tmps:=by
 funext j
 unfold yielded
 rw[get_part,get_part]
 by_cases h:j<pre.length
 ·rw[if_pos h,if_pos h]
 ·rw[if_neg h,if_neg h,List.getElem?_map]
  cases tl[j-pre.length]?<;>rfl
theorem put_getD (a:Act) (dst:Option Tmp) (v:Value) (s:Tmp) (h:dst≠some s):(a.put dst v).tmps.getD s undef=a.tmps.getD s undef:=by
 cases dst with
 |none=>rfl
 |some t=>
  have hts:t≠s:=fun q=>h (by rw[q])
  show(a.tmps.setIfInBounds t v).getD s undef=_
  rw[Array.getD_eq_getD_getElem?,Array.getD_eq_getD_getElem?,Array.getElem?_setIfInBounds_ne hts]
theorem put_defers (a:Act) (dst:Option Tmp) (v:Value):(a.put dst v).defers=a.defers:=by cases dst<;>rfl
theorem listed_set (listed:Array Bool) (i j:Nat) (d:Bool) (h:listed.getD j d=true):(listed.setIfInBounds i true).getD j d=true:=by
 rw[Array.getD_eq_getD_getElem?]at h⊢
 by_cases q:i=j
 ·subst q
  rw[Array.getElem?_setIfInBounds_self]
  split
  ·rfl
  ·next hl=>rw[Array.getElem?_eq_none (by omega)]at h;exact h
 ·rw[Array.getElem?_setIfInBounds_ne q];exact h
theorem slot_end {ops:Array Oper} {Q:Act→Prop} (s:Tmp) (x:Value) (hQ:∀a,Q a→a.tmps.getD s undef=x):∀(fuel:Nat) (listed:Array Bool) (a:Act),wpAnyQ P .any ops C Q fuel listed a→
  (∀i oi,ops[i]?=some oi→oi.dst=some s→listed.getD i true=true)→a.tmps.getD s undef=x
 |0,listed,a,h,_=>hQ a h.2
 |fuel+1,listed,a,h,hl=>by
  cases hr:Region.ready .any ops listed with
  |nil=>exact hQ a (h.1 hr)
  |cons i rest=>
   have hi:i∈Region.ready .any ops listed:=by rw[hr];simp
   have hq:=h.2 i hi
   obtain⟨hun,oi,hoi,_⟩:=mem_ready.1 hi
   have hd:oi.dst≠some s:=fun e=>by
    have:=hl i oi hoi e
    rw[hun]at this;cases this
   have hl':∀j oj,ops[j]?=some oj→oj.dst=some s→(listed.setIfInBounds i true).getD j true=true:=fun j oj hj e=>listed_set _ _ _ _ (hl j oj hj e)
   unfold qOp at hq
   simp only[hoi]at hq
   split at hq
   ·obtain⟨v,_,h2⟩:=hq
    have:=slot_end s x hQ fuel _ _ h2 hl'
    rwa [put_getD _ _ _ _ hd]at this
   ·have:=slot_end s x hQ fuel _ _ hq hl'
    rwa [put_getD _ _ _ _ hd]at this
theorem any_of_fk {m:Value} {Q:Exit→Act→World→Prop} {pre tl:List Oper} {o:Oper} {D:List Deferred} (d:Tmp) (sl:List (Tmp×Value)) (hB2:waitsB pre o tl d (sl.map (·.1))=true) (hdst:o.dst=some d) (hg:o.guard=none)
  (hop:∀(a':Act) (w':World) (K:Act→World→Prop),C w'→a'.defers=D→(∀p∈sl,a'.tmps.getD p.1 undef=p.2)→o.wp P a' w' K Q):
  ∀(fuel:Nat) (listed:Array Bool) (a:Act) (w:World),wpAnyQ P .any (pre++(o::tl).map (fk m)).toArray C (fun a'=>a'.tmps.getD d undef=m∧∀p∈sl,a'.tmps.getD p.1 undef=p.2) fuel listed a→C w→
   a.tmps.getD d undef≠m→a.defers=D→(∀j,pre.length≤j→listed.getD j false=false)→wpAny P .any (pre++o::tl).toArray Q fuel listed a w
 |0,listed,a,w,h,_,hm,_,_=>absurd h.2.1 hm
 |fuel+1,listed,a,w,h,hw,hm,hD,hJ=>by
  have hB3:=hB2
  simp only[waitsB,Bool.and_eq_true,List.all_eq_true]at hB2
  obtain⟨⟨hS,hP⟩,hT⟩:=hB2
  refine⟨fun hr=>absurd (h.1 (by rw[ready_fk];exact hr)).1 hm,fun i hi=>?_⟩
  have hq:=h.2 i (by rw[ready_fk];exact hi)
  obtain⟨hun,oi,hoi,hdep⟩:=mem_ready.1 hi
  rw[get_part]at hoi
  unfold wpOp
  unfold qOp at hq
  rw[get_part]at hq⊢
  by_cases hlt:i<pre.length
  ·rw[if_pos hlt]at hoi hq⊢
   have hne:oi.dst≠some d:=by
    have:=hP oi (List.mem_of_getElem? hoi)
    simpa using this
   have hJ':∀j,pre.length≤j→(listed.setIfInBounds i true).getD j false=false:=by
    intro j hj
    have:=hJ j hj
    rw[Array.getD_eq_getD_getElem?]at this⊢
    rw[Array.getElem?_setIfInBounds_ne (by omega)]
    exact this
   simp only[hoi]at hq⊢
   rw[yielded_fk]at hq
   split
   ·next hwt=>
    rw[if_pos hwt]at hq
    obtain⟨v,h1,h2⟩:=hq
    refine .inl (Oper.wp_of_quiet (K:=fun a'=>wpAnyQ P .any (pre++(o::tl).map (fk m)).toArray C (fun a'=>a'.tmps.getD d undef=m∧∀p∈sl,a'.tmps.getD p.1 undef=p.2) fuel (listed.setIfInBounds i true) a'∧a'.tmps.getD d undef≠m∧a'.defers=D) hw ?_ ⟨v,h1,h2,by rw[put_getD _ _ _ _ hne];exact hm,by rw[put_defers];exact hD⟩)
    intro a' w' hw' hk
    exact any_of_fk d sl hB3 hdst hg hop fuel _ a' w' hk.1 hw' hk.2.1 hk.2.2 hJ'
   ·next hwt=>
    rw[if_neg hwt]at hq
    exact any_of_fk d sl hB3 hdst hg hop fuel _ _ w hq hw (by rw[put_getD _ _ _ _ hne];exact hm) (by rw[put_defers];exact hD) hJ'
  ·rw[if_neg hlt]at hoi hq⊢
   by_cases hn:i=pre.length
   ·rw[hn,Nat.sub_self]at hoi hq⊢
    simp only[List.getElem?_cons_zero,List.map_cons,Option.some.injEq]at hoi hq⊢
    have hw1:∀y,Region.wanted o y=true:=fun y=>by unfold Region.wanted;rw[hg]
    have hw2:∀y,Region.wanted (fk m o) y=true:=fun y=>by unfold Region.wanted;show(match o.guard with|none=>true|some (j,want)=>y j==some want)=true;rw[hg]
    simp only[hw1,hw2,if_true]at hq⊢
    obtain⟨v,_,h2⟩:=hq
    refine .inl (hop a w _ hw hD fun p hp=>?_)
    have hps:=hS p.1 (List.mem_map.2 ⟨p,hp,rfl⟩)
    have hpd:(some d:Option Tmp)≠some p.1:=by
     have:=hps.1
     intro q
     cases q
     simp at this
    have h3:=slot_end (C:=C) p.1 p.2 (fun a' h=>h.2 p hp) fuel _ _ h2 (by
     intro j oj hj e
     rw[get_part]at hj
     by_cases hjl:j<pre.length
     ·rw[if_pos hjl]at hj
      have h4:=hps.2.1 j (List.mem_range.2 hjl)
      simp only[hj,Bool.or_eq_true]at h4
      rcases h4 with h4|h4
      ·rw[e]at h4;simp at h4
      ·rw[Array.any_eq_true']at h4
       obtain⟨ed,hed,h5⟩:=h4
       simp only[Bool.and_eq_true,beq_iff_eq]at h5
       have h6:=hdep ed (by rw[←hoi];exact hed) h5.1
       rw[h5.2]at h6
       refine listed_set _ _ _ _ ?_
       rw[Array.getD_eq_getD_getElem?]at h6⊢
       cases hx:listed[j]? with
       |none=>rfl
       |some y=>rw[hx]at h6;exact h6
     ·rw[if_neg hjl]at hj
      obtain⟨k,hk⟩:∃k,j-pre.length=k:=⟨_,rfl⟩
      rw[hk,←List.map_cons,List.getElem?_map]at hj
      cases k with
      |zero=>
       simp only[List.getElem?_cons_zero,Option.map_some,Option.some.injEq]at hj
       rw[←hj]at e
       exact absurd (hdst.symm.trans e) hpd
      |succ k=>
       simp only[List.getElem?_cons_succ]at hj
       cases ht:tl[k]? with
       |none=>rw[ht]at hj;cases hj
       |some ot=>
        rw[ht]at hj
        simp only[Option.map_some,Option.some.injEq]at hj
        have h7:=hps.2.2 ot (List.mem_of_getElem? ht)
        rw[←hj]at e
        have e2:ot.dst=some p.1:=e
        rw[e2]at h7
        simp at h7)
    have hfd:(fk m o).dst=some d:=hdst
    rwa [hfd,put_getD _ _ _ _ hpd]at h3
   ·exfalso
    obtain⟨k,hk⟩:∃k,i-pre.length=k+1:=⟨i-pre.length-1,by omega⟩
    rw[hk]at hoi
    simp only[List.getElem?_cons_succ]at hoi
    have h8:=hT oi (List.mem_of_getElem? hoi)
    rw[Array.any_eq_true']at h8
    obtain⟨ed,hed,h9⟩:=h8.2
    simp only[Bool.and_eq_true]at h9
    have h10:=hdep ed hed h9.1
    rw[hJ ed.on (Nat.le_of_ble_eq_true h9.2)]at h10
    cases h10
theorem wp_region_dies {id:Nat} {Q:Exit→Act→World→Prop} {a:Act} {w:World} (pre:List Oper) (o:Oper) (tl:List Oper) (d:Tmp) (sl:List (Tmp×Value)) (l:List Oper) (hl:l=pre++o::tl) (hm:P.follows .mixedOrders=true) (hB:∀m,Region.lexB .any (pre++(o::tl).map (fk m)).toArray=true)
  (hB2:waitsB pre o tl d (sl.map (·.1))=true) (hdst:o.dst=some d) (hg:o.guard=none) (hC:C {w with drawn:=w.drawn+1})
  (h:∀m,wpQuiet P (pre++(o::tl).map (fk m)).toArray C (fun a'=>a'.tmps.getD d undef=m∧∀p∈sl,a'.tmps.getD p.1 undef=p.2) (pre++(o::tl).map (fk m)) a)
  (hop:∀(a':Act) (w':World) (K:Act→World→Prop),C w'→a'.defers=a.defers→(∀p∈sl,a'.tmps.getD p.1 undef=p.2)→o.wp P a' w' K Q):(Code.region id l.toArray true).wp P Q a w:=by
 subst hl
 obtain⟨m,h0⟩:∃m,a.tmps.getD d undef≠m:=by
  by_cases q:a.tmps.getD d undef=.bool true
  ·exact⟨.bool false,by rw[q];intro e;cases e⟩
  ·exact⟨.bool true,q⟩
 have hBm:=hB m
 simp only[Region.lexB,Bool.and_eq_true]at hBm
 refine wp_region_any hm ?_
 have h1:=wpAnyQ_lex (C:=C) (md:=.any) hBm.1 (pre++(o::tl).map (fk m)) 0 (Array.replicate (pre++(o::tl).map (fk m)).toArray.size false) a (by simp) (by simpa using hBm.2) (h m)
 have hz:(pre++o::tl).toArray.size=(pre++(o::tl).map (fk m)).length:=by simp
 rw[hz]
 have hz2:(pre++(o::tl).map (fk m)).toArray.size=(pre++(o::tl).map (fk m)).length:=by simp
 rw[hz2]at h1
 refine any_of_fk d sl hB2 hdst hg hop _ _ _ _ h1 hC h0 rfl ?_
 intro j _
 rw[Array.getD_eq_getD_getElem?,Array.getElem?_replicate]
 split<;>rfl
end Go.Proofs.YtgnpcenpcmdlfaaGreatDoor
namespace Go.Proofs.YtgnpcenpcmdlfaaGreatDoor
open Go.ChangeShapes Go.WideShapes Go.ChangeAt Go.RowKit Go.Deep
set_option linter.unusedVariables false
structure Out (w:World) where
 u:World
 out:Below w.heap.size w u
theorem wp_region_out {id:Nat} {Q:Exit→Act→World→Prop} {a:Act} {w:World} {l:List Oper} (hm:Tryz.prog.follows .mixedOrders=true) (hB:Region.lexB .any l.toArray=true)
  (h:wpQuiet Tryz.prog l.toArray (fun w'=>∃n:Out w,w'=n.u) (fun a'=>∀w',(∃n:Out w,w'=n.u)→Q .normal a' w') l a):(Code.region id l.toArray true).wp Tryz.prog Q a w:=
 wp_region_quiet (C:=fun w'=>∃n:Out w,w'=n.u) hm hB ⟨⟨_,(Below.refl _ _).drew⟩,rfl⟩ (by simpa using h)
theorem Calls.out_of {f:FuncId} {args:Array Value} {w:World} {n:Out w} {v:Value}
  (h:Calls Tryz.prog f args n.u fun e w'=>e=.returned v∧Below n.u.heap.size n.u w'):Calls Tryz.prog f args n.u fun e w''=>e=.returned v∧∃m:Out w,w''=m.u:=
 h.mono fun _ w' ⟨he,hb⟩=>⟨he,⟨w',n.out.trans (hb.mono n.out.size)⟩,rfl⟩
end Go.Proofs.YtgnpcenpcmdlfaaGreatDoor
namespace Go.Proofs.YtgnpcenpcmdlfaaGreatDoor
open Go.ChangeShapes Go.WideShapes Go.ChangeAt Go.RowKit Go.Deep
set_option linter.unusedVariables false
set_option linter.unusedSimpArgs false
set_option maxRecDepth 100000
abbrev pfV (c a:Int):Value:=.iface 46 (.agg #[.int .i64 c,.int .i64 a])
abbrev Pf (c a:Int):Ending:=.panicked [{v:=pfV c a,recovered:=false}]
abbrev sb (s:ByteArray):List UInt8:=s.data.toList
theorem sb_len (s:ByteArray):(sb s).length=s.size:=by simp[sb]
theorem sb_get {s:ByteArray} {i:Nat} {x:UInt8} (h:(sb s)[i]?=some x):∃hi:i<s.size,s[i]=x:=by
 have hi:=(List.getElem?_eq_some_iff.1 h).1
 rw[sb_len]at hi
 refine⟨hi,?_⟩
 rw[List.getElem?_eq_getElem (by rw[sb_len];exact hi)]at h
 exact Option.some.inj h
set_option maxHeartbeats 1000000 in
theorem stringsIndexByte_any (s:ByteArray) (c:UInt8) (w:World):
  Calls Tryz.prog 61 #[.string s,.int .u8 (c.toNat:Int)] w fun e w'=>e=.returned (.int .i64 (Lib.indexByte (sb s) c))∧w'=w:=by
 have H:Calls Tryz.prog 94 #[.string s,.int .u8 (c.toNat:Int)] w fun e w'=>e=.returned (.int .i64 (Lib.indexByte (sb s) c))∧w'=w:=by
  go_enter Tryz.func94,Tryz.ntmps94
  go_wp2
  rw[run_callFunc_extern Tryz.func113 (by kernel_rfl) (by kernel_rfl) (by kernel_rfl) (e:=Extern.BytealgIndexByte.indexByte) (by kernel_rfl),Lib.run_indexByteString]
  simp only[Result.andThen]
  rw[Oper.upon_value]
  go_wp2
  go_ret
  exact⟨by simp,rfl⟩
 go_enter Tryz.func61,Tryz.ntmps61
 go_wp2_with (go_at_call 94;refine H.mono ?_;rintro e w' ⟨rfl,rfl⟩)
 go_ret
 exact⟨rfl,rfl⟩
theorem indexByte_neg:∀(l:List UInt8) (c:UInt8),-1≤Lib.indexByte l c∧(0≤Lib.indexByte l c↔c∈l)
 | [],c=>by simp[Lib.indexByte]
 |b::l,c=>by
  have ih:=indexByte_neg l c
  unfold Lib.indexByte
  by_cases h:b=c
  ·subst h;simp
  ·have h2:¬c=b:=fun q=>h q.symm
   by_cases h3:Lib.indexByte l c= -1
   ·have h4:¬c∈l:=fun q=>by have:=ih.2.2 q;omega
    simp[h,h2,h3,h4]
   ·have h4:c∈l:=ih.2.1 (by omega)
    simp[h,h2,h3,h4]
    omega
abbrev PrAt (w:World) (base g:Nat) (p:ByteArray) (i o:Nat):Prop:=BoxAt w base 181 3 g [.string p,.int .i64 (i:Int),.int .i64 (o:Int)]
set_option maxHeartbeats 1000000 in
theorem pdem_yes (v:Value) (w:World):Calls Tryz.prog 143 #[v,.bool true] w fun e w'=>e=.returned (.tuple #[])∧w'=w:=by
 go_enter Tryz.func143,Tryz.ntmps143
 go_wp2_with fail
 go_end0
 exact⟨rfl,rfl⟩
set_option maxHeartbeats 1000000 in
theorem pdem_no {base g i o:Nat} {p:ByteArray} {w:World} (h:PrAt w base g p i o):Calls Tryz.prog 143 #[.pointer (some ⟨g,0,none⟩),.bool false] w fun e w'=>e=Pf 2 i∧w'=w:=by
 have c1:=h.cell (j:=1) rfl
 clear h
 go_enter Tryz.func143,Tryz.ntmps143
 go_wp2_with fail
 exact⟨rfl,rfl,rfl⟩
theorem pdem_core (c:Bool) {base g i o:Nat} {p:ByteArray} {w:World} (h:PrAt w base g p i o):Calls Tryz.prog 143 #[.pointer (some ⟨g,0,none⟩),.bool c] w fun e w'=>w'=w∧((c=true∧e=.returned (.tuple #[]))∨(c=false∧e=Pf 2 i)):=by
 cases c with
 |true=>exact(pdem_yes _ w).mono fun e w' ⟨he,hw⟩=>⟨hw,.inl ⟨rfl,he⟩⟩
 |false=>exact(pdem_no h).mono fun e w' ⟨he,hw⟩=>⟨hw,.inr ⟨rfl,he⟩⟩
def inB (p:List UInt8) (i:Nat) (l:List UInt8):Bool:=match p[i]? with|some c=>decide (c∈l)|none=>false
set_option maxHeartbeats 2000000 in
theorem pnextIn_core {base g i o:Nat} {p:ByteArray} (s:ByteArray) {w:World} (h:PrAt w base g p i o) (hp:p.size≤200):
  Calls Tryz.prog 160 #[.pointer (some ⟨g,0,none⟩),.string s] w fun e w'=>e=.returned (.bool (inB (sb p) i (sb s)))∧Below w.heap.size w w':=by
 have hlt:=h.lt.2
 have c0:=h.cell (j:=0) rfl
 have c1:=h.cell (j:=1) rfl
 have e0:∀n:Out w,n.u.cell? ⟨g,0,none⟩=some (.string p):=fun n=>(n.out.cell (p:=⟨g,0,none⟩) hlt).trans c0
 have e1:∀n:Out w,n.u.cell? ⟨g,1,none⟩=some (.int .i64 (i:Int)):=fun n=>(n.out.cell (p:=⟨g,1,none⟩) hlt).trans c1
 clear h c0 c1
 by_cases hi:i<p.size
 ·obtain⟨x,hx⟩:∃x,(sb p)[i]?=some x:=⟨_,List.getElem?_eq_getElem (by rw[sb_len];exact hi)⟩
  obtain⟨_,gx⟩:=sb_get hx
  have z1:(i:Int)<(p.size:Int):=by omega
  obtain⟨r,hr⟩:=qE (Lib.indexByte (sb s) x)
  have HR:Hid (r=Lib.indexByte (sb s) x∧inB (sb p) i (sb s)=decide (0≤r)):=by
   refine⟨hr,?_⟩
   unfold inB
   rw[hx,hr]
   exact decide_eq_decide.2 (indexByte_neg _ _).2.symm
  have HI:Hid (∀n:Out w,Calls Tryz.prog 61 #[.string s,.int .u8 (x.toNat:Int)] n.u fun e w'=>e=.returned (.int .i64 r)∧Below n.u.heap.size n.u w'):=fun n=>by
   rw[HR.1]
   exact(stringsIndexByte_any s x n.u).mono fun e w' ⟨he,hw⟩=>⟨he,hw▸Below.refl _ _⟩
  rw[HR.2]
  clear hx hr
  go_enter Tryz.func160,Tryz.ntmps160
  go_upto_region 1 with fail
  refine wp_region_out (by kernel_rfl) (by kernel_rfl) ?_
  repeat (go_big_quiet_step ((first|rfl|(go_at_call 61;exact Calls.out_of (HI.out _)))))
  refine wpQuiet_nil ?_
  rintro w1 ⟨⟨wx,hb1⟩,rfl⟩
  go_wp2_with fail
  go_ret
  exact⟨rfl,hb1⟩
 ·have z1:¬(i:Int)<(p.size:Int):=by omega
  have HR:inB (sb p) i (sb s)=false:=by
   unfold inB
   rw[List.getElem?_eq_none (by rw[sb_len];omega)]
  rw[HR]
  clear HR
  go_enter Tryz.func160,Tryz.ntmps160
  go_upto_region 1 with fail
  refine wp_region_out (by kernel_rfl) (by kernel_rfl) ?_
  repeat (go_big_quiet_step (rfl))
  refine wpQuiet_nil ?_
  rintro w1 ⟨⟨wx,hb1⟩,rfl⟩
  go_wp2_with fail
  go_ret
  exact⟨rfl,hb1⟩
theorem PrAt.next {w:World} {base g i o:Nat} {p:ByteArray} (h:PrAt w base g p i o):PrAt (w.setCell ⟨g,1,none⟩ (.int .i64 ((i:Int)+1))) base g p (i+1) o:=BoxAt.set h 1 (.int .i64 ((i:Int)+1))
set_option maxHeartbeats 2000000 in
theorem ptake_yes {base g i o:Nat} {p:ByteArray} {x:UInt8} {w:World} (h:PrAt w base g p i o) (hp:p.size≤200) (hx:(sb p)[i]?=some x):
  Calls Tryz.prog 166 #[.pointer (some ⟨g,0,none⟩)] w fun e w'=>e=.returned (.int .u8 (x.toNat:Int))∧PrAt w' base g p (i+1) o∧Chg (fun k=>k=g) w w':=by
 have HP:Hid (PrAt w base g p i o):=h
 obtain⟨hi,gx⟩:=sb_get hx
 have c0:=h.cell (j:=0) rfl
 have c1:=h.cell (j:=1) rfl
 have f1:=h.frozen 1
 have z1:(i:Int)<(p.size:Int):=by omega
 clear h hx
 go_enter Tryz.func166,Tryz.ntmps166
 go_upto_region 1 with fail
 go_quiet ((go_at_call 143;exact Calls.quiet_of_same (pdem_yes _ _)))
 go_upto_region 2 with fail
 obtain⟨W1,hW1⟩:=qE (w.drewN nq:World)
 have hb1:Below w.heap.size w W1:=by rw[hW1];exact below_drewN (Below.refl _ _) _
 have HP1:Hid (PrAt W1 base g p i o):=HP.below hb1
 rw[←hW1]
 clear hW1 c0 c1 f1
 have c0:=HP1.cell (j:=0) rfl
 have c1:=HP1.cell (j:=1) rfl
 have f1:=HP1.frozen 1
 go_quiet (rfl)
 go_wp2_with fail
 go_ret
 have hb2:Below w.heap.size w (W1.drewN nq):=hb1.trans ((below_drewN (Below.refl _ _) _).mono hb1.size)
 exact⟨rfl,PrAt.next (BoxAt.below HP.out hb2),(Chg.of_below hb2).trans (Chg.of_set _ g 1 _ rfl)⟩
theorem wp_region_pdem {id:Nat} {Q:Exit→Act→World→Prop} {a:Act} {w:World} {l:List Oper} {base g i o:Nat} {p:ByteArray} (d s c:Tmp) {tys:Array TypeId} {ty:TypeId} {pos:String} {aft:Array Edge} (hP:PrAt w base g p i o)
  (ho:l.getLast?=some ⟨some d,.call {callee:=.value (.func 143),args:=#[.tmp s,.tmp c],argTypes:=tys},ty,pos,aft,none⟩)
  (hB:∀m,Region.lexB .any (l.dropLast++ [fk m ⟨some d,.call {callee:=.value (.func 143),args:=#[.tmp s,.tmp c],argTypes:=tys},ty,pos,aft,none⟩]).toArray=true)
  (hB2:waitsB l.dropLast ⟨some d,.call {callee:=.value (.func 143),args:=#[.tmp s,.tmp c],argTypes:=tys},ty,pos,aft,none⟩ [] d [s,c]=true)
  (hQ:∀(a':Act) (w':World),Below w.heap.size w w'→a'.defers=a.defers→Q (.panic [{v:=pfV 2 i,recovered:=false}]) a' w')
  (h:∀m,wpQuiet Tryz.prog (l.dropLast++ [fk m ⟨some d,.call {callee:=.value (.func 143),args:=#[.tmp s,.tmp c],argTypes:=tys},ty,pos,aft,none⟩]).toArray (fun w'=>∃n:Out w,w'=n.u) (fun a'=>a'.tmps.getD d undef=m∧∀q∈ [(s,Value.pointer (some ⟨g,0,none⟩)),(c,.bool false)],a'.tmps.getD q.1 undef=q.2) (l.dropLast++ [fk m ⟨some d,.call {callee:=.value (.func 143),args:=#[.tmp s,.tmp c],argTypes:=tys},ty,pos,aft,none⟩]) a):
  (Code.region id l.toArray true).wp Tryz.prog Q a w:=by
 have hl:l=l.dropLast++ [⟨some d,.call {callee:=.value (.func 143),args:=#[.tmp s,.tmp c],argTypes:=tys},ty,pos,aft,none⟩]:=by
  obtain⟨l',hl'⟩:=List.getLast?_eq_some_iff.1 ho
  rw[hl'];simp
 refine wp_region_dies (C:=fun w'=>∃n:Out w,w'=n.u) l.dropLast _ [] d [(s,Value.pointer (some ⟨g,0,none⟩)),(c,.bool false)] l hl (by kernel_rfl) hB hB2 rfl rfl ⟨⟨_,(Below.refl _ _).drew⟩,rfl⟩ h ?_
 rintro a' w' K ⟨n,rfl⟩ hd hp
 have h1:a'.tmps.getD s undef=.pointer (some ⟨g,0,none⟩):=hp (s,_) (by simp)
 have h2:a'.tmps.getD c undef=.bool false:=hp (c,_) (by simp)
 have h3:a'.tmps[s]?.getD undef=.pointer (some ⟨g,0,none⟩):=by rw[←Array.getD_eq_getD_getElem?];exact h1
 have h4:a'.tmps[c]?.getD undef=.bool false:=by rw[←Array.getD_eq_getD_getElem?];exact h2
 unfold Oper.wp
 have hrun:(execOp a'.eval ⟨some d,.call {callee:=.value (.func 143),args:=#[.tmp s,.tmp c],argTypes:=tys},ty,pos,aft,none⟩).run Tryz.prog n.u=.ok (.enter 143 #[.pointer (some ⟨g,0,none⟩),.bool false]) n.u:=by
  simp[execOp,h3,h4,go_sem,Act.eval,Tryz.func143]
 rw[hrun,Oper.upon_enter]
 refine(pdem_no (BoxAt.below hP n.out)).mono ?_
 rintro e w'' ⟨rfl,rfl⟩
 exact hQ a' n.u n.out hd
theorem pslots2 {a':Act} {s t:Tmp} {x y:Value} (h:a'.tmps.getD s undef=x) (h2:a'.tmps.getD t undef=y):∀p∈ [(s,x),(t,y)],a'.tmps.getD p.1 undef=p.2:=by
 intro p hp
 rcases List.mem_cons.1 hp with rfl|hp
 ·exact h
 ·rcases List.mem_cons.1 hp with rfl|hp
  ·exact h2
  ·cases hp
set_option maxHeartbeats 2000000 in
theorem ptake_no {base g i o:Nat} {p:ByteArray} {w:World} (h:PrAt w base g p i o) (hp:p.size≤200) (hx:¬i<p.size):
  Calls Tryz.prog 166 #[.pointer (some ⟨g,0,none⟩)] w fun e w'=>e=Pf 2 i∧Below w.heap.size w w':=by
 have HP:Hid (PrAt w base g p i o):=h
 have hlt:=h.lt.2
 have c0:=h.cell (j:=0) rfl
 have c1:=h.cell (j:=1) rfl
 have e0:∀n:Out w,n.u.cell? ⟨g,0,none⟩=some (.string p):=fun n=>(n.out.cell (p:=⟨g,0,none⟩) hlt).trans c0
 have e1:∀n:Out w,n.u.cell? ⟨g,1,none⟩=some (.int .i64 (i:Int)):=fun n=>(n.out.cell (p:=⟨g,1,none⟩) hlt).trans c1
 have z1:¬(i:Int)<(p.size:Int):=by omega
 clear h c0 c1
 go_enter Tryz.func166,Tryz.ntmps166
 go_upto_region 1 with fail
 refine wp_region_pdem 15 4 14 HP.out rfl (fun m=>by kernel_rfl) (by kernel_rfl) ?q ?_
 case q=>exact fun a' w' hb hd=>⟨hd,rfl,hb⟩
 intro m
 dsimp only[List.dropLast,fk,List.cons_append,List.nil_append]
 repeat (go_big_quiet_step (rfl))
 refine wpQuiet_nil ?_
 exact⟨rfl,pslots2 rfl rfl⟩
theorem ptake_core {base g i o:Nat} {p:ByteArray} {w:World} (h:PrAt w base g p i o) (hp:p.size≤200) (hi:i≤p.size):
  Calls Tryz.prog 166 #[.pointer (some ⟨g,0,none⟩)] w fun e w'=>Chg (fun k=>k=g) w w'∧
   ((∃x:UInt8,(sb p)[i]?=some x∧e=.returned (.int .u8 (x.toNat:Int))∧PrAt w' base g p (i+1) o)∨((sb p)[i]?=none∧e=Pf 2 i)):=by
 by_cases hx:i<p.size
 ·obtain⟨x,hx⟩:∃x,(sb p)[i]?=some x:=⟨_,List.getElem?_eq_getElem (by rw[sb_len];exact hx)⟩
  exact(ptake_yes h hp hx).mono fun e w' ⟨he,h1,h2⟩=>⟨h2,.inl ⟨x,hx,he,h1⟩⟩
 ·exact(ptake_no h hp hx).mono fun e w' ⟨he,h1⟩=>⟨Chg.of_below h1,.inr ⟨List.getElem?_eq_none (by rw[sb_len];omega),he⟩⟩
set_option maxHeartbeats 2000000 in
theorem pskip_core {base g i o:Nat} {p:ByteArray} (c:UInt8) {w:World} (h:PrAt w base g p i o) (hp:p.size≤200):
  Calls Tryz.prog 153 #[.pointer (some ⟨g,0,none⟩),.int .u8 (c.toNat:Int)] w fun e w'=>Chg (fun k=>k=g) w w'∧
   (((sb p)[i]?=some c∧e=.returned (.bool true)∧PrAt w' base g p (i+1) o)∨(¬(sb p)[i]?=some c∧e=.returned (.bool false)∧PrAt w' base g p i o)):=by
 have HP:Hid (PrAt w base g p i o):=h
 have hlt:=h.lt.2
 have c0:=h.cell (j:=0) rfl
 have c1:=h.cell (j:=1) rfl
 have e0:∀n:Out w,n.u.cell? ⟨g,0,none⟩=some (.string p):=fun n=>(n.out.cell (p:=⟨g,0,none⟩) hlt).trans c0
 have e1:∀n:Out w,n.u.cell? ⟨g,1,none⟩=some (.int .i64 (i:Int)):=fun n=>(n.out.cell (p:=⟨g,1,none⟩) hlt).trans c1
 clear h c0 c1
 by_cases hi:i<p.size
 ·obtain⟨x,hx⟩:∃x,(sb p)[i]?=some x:=⟨_,List.getElem?_eq_getElem (by rw[sb_len];exact hi)⟩
  obtain⟨_,gx⟩:=sb_get hx
  have z1:(i:Int)<(p.size:Int):=by omega
  by_cases hxc:x=c
  ·subst hxc
   have HF:Hid ((sb p)[i]?=some x):=hx
   clear hx
   go_enter Tryz.func153,Tryz.ntmps153
   go_upto_region 1 with fail
   refine wp_region_out (by kernel_rfl) (by kernel_rfl) ?_
   repeat (go_big_quiet_step (rfl))
   refine wpQuiet_nil ?_
   rintro w1 ⟨⟨wx,hb1⟩,rfl⟩
   have HP1:Hid (PrAt w1 base g p i o):=BoxAt.below HP.out hb1
   have c1:=HP1.cell (j:=1) rfl
   have f1:=HP1.frozen 1
   clear e0 e1
   go_wp2_with fail
   go_ret
   exact⟨(Chg.of_below hb1).trans (Chg.of_set _ g 1 _ rfl),.inl ⟨HF.out,rfl,PrAt.next HP1.out⟩⟩
  ·have HF:Hid (¬(sb p)[i]?=some c):=by
    show¬(sb p)[i]?=some c
    rw[hx]
    exact fun q=>hxc (Option.some.inj q)
   have z2:¬(x.toNat:Int)=(c.toNat:Int):=fun q=>hxc (UInt8.toNat_inj.1 (by omega))
   clear hx hxc
   go_enter Tryz.func153,Tryz.ntmps153
   go_upto_region 1 with fail
   refine wp_region_out (by kernel_rfl) (by kernel_rfl) ?_
   repeat (go_big_quiet_step (rfl))
   refine wpQuiet_nil ?_
   rintro w1 ⟨⟨wx,hb1⟩,rfl⟩
   have HP1:Hid (PrAt w1 base g p i o):=BoxAt.below HP.out hb1
   clear e0 e1
   go_wp2_with fail
   go_ret
   exact⟨Chg.of_below hb1,.inr ⟨HF.out,congrArg (fun b=>Ending.returned (.bool b)) (beq_eq_false_iff_ne.2 z2),HP1.out⟩⟩
 ·have z1:¬(i:Int)<(p.size:Int):=by omega
  have HF:Hid (¬(sb p)[i]?=some c):=by
   show¬(sb p)[i]?=some c
   rw[List.getElem?_eq_none (by rw[sb_len];omega)]
   exact fun q=>by cases q
  go_enter Tryz.func153,Tryz.ntmps153
  go_upto_region 1 with fail
  refine wp_region_out (by kernel_rfl) (by kernel_rfl) ?_
  repeat (go_big_quiet_step (rfl))
  refine wpQuiet_nil ?_
  rintro w1 ⟨⟨wx,hb1⟩,rfl⟩
  have HP1:Hid (PrAt w1 base g p i o):=BoxAt.below HP.out hb1
  clear e0 e1
  go_wp2_with fail
  go_ret
  first
   |exact⟨Chg.of_below hb1,.inr ⟨HF.out,rfl,HP1.out⟩⟩
   |exact⟨Chg.of_below hb1,rfl,HP1.out⟩
theorem setA_some:∃F:(UInt8→Bool)→Array Value,∀f,F f=Array.ofFn (n:=256) fun i=>.bool (f (UInt8.ofNat i.val)):=⟨_,fun _=>rfl⟩
noncomputable def setA (f:UInt8→Bool):Array Value:=Classical.choose setA_some f
theorem setA_eq (f:UInt8→Bool):setA f=Array.ofFn (n:=256) fun i=>.bool (f (UInt8.ofNat i.val)):=Classical.choose_spec setA_some f
theorem setA_size (f:UInt8→Bool):(setA f).size=256:=by rw[setA_eq];simp
theorem info_set:(Tryz.prog.info? 219).map (fun i=>(i.zero,i.size))=some (some (.agg (Array.replicate 256 (.bool false))),256):=by kernel_rfl
theorem setA_none:setA (fun _=>false)=Array.replicate 256 (.bool false):=by
 rw[setA_eq]
 apply Array.ext
 ·simp
 ·intro i h1 h2
  simp
theorem setA_at (f:UInt8→Bool) (i:Nat) (h:i<256):(setA f)[i]?=some (.bool (f (UInt8.ofNat i))):=by
 rw[setA_eq,Array.getElem?_eq_getElem (by simp;exact h)]
 simp only[Array.getElem_ofFn]
theorem setA_one (f:UInt8→Bool):(setA f).all (·.oneCell')=true:=by
 rw[setA_eq,Array.all_eq_true_iff_forall_mem]
 intro v hv
 obtain⟨i,hi,rfl⟩:=Array.getElem_of_mem hv
 simp only[Array.getElem_ofFn]
 rfl
theorem BoxAt.heap {w:World} {base t sz g:Nat} {vs:List Value} (h:BoxAt w base t sz g vs):w.heap[g]?=some (.cells vs.toArray t (0,0)):=by
 rcases h.2 with⟨h0,_⟩|⟨g',cap,cur,hv,_,hc,_,_,hsz,htk⟩
 ·cases h0
 ·simp only[Value.slice.injEq,Option.some.injEq,Addr.mk.injEq,and_true,true_and]at hv
  obtain⟨rfl,rfl⟩:=hv
  rw[hc]
  rw[List.take_of_length_le (by simp[hsz])]at htk
  rw[←htk]
theorem BoxAt.ofHeap {w:World} {base t sz g:Nat} {vs:Array Value} (h:w.heap[g]?=some (.cells vs t (0,0))) (hb:base≤g) (hs:vs.size=sz):BoxAt w base t sz g vs.toList:=by
 refine⟨by simp[hs],.inr ⟨g,1,vs,rfl,hb,h,Nat.le_refl _,by decide,by omega,?_⟩⟩
 rw[List.take_of_length_le (by simp[hs])]
abbrev SetAt (w:World) (base g:Nat) (f:UInt8→Bool):Prop:=BoxAt w base 219 256 g (setA f).toList
theorem SetAt.heap {w:World} {base g:Nat} {f:UInt8→Bool} (h:SetAt w base g f):w.heap[g]?=some (.cells (setA f) 219 (0,0)):=by
 have h1:=BoxAt.heap h
 rw[Array.toArray_toList]at h1
 exact h1
theorem SetAt.ext {w:World} {base g:Nat} {f f':UInt8→Bool} (h:SetAt w base g f) (he:∀c,f c=f' c):SetAt w base g f':=by
 rw[show f'=f from funext fun c=>(he c).symm];exact h
theorem setA_get (f:UInt8→Bool) (k:Nat) (h:k<256):(setA f).toList[k]?=some (.bool (f (UInt8.ofNat k))):=by
 rw[Array.getElem?_toList];exact setA_at f k h
theorem ofNat_eq {i k:Nat} (hi:i<256) (hk:k<256) (h:UInt8.ofNat i=UInt8.ofNat k):i=k:=by
 have:=congrArg UInt8.toNat h
 rw[UInt8.toNat_ofNat',UInt8.toNat_ofNat']at this
 omega
theorem setA_set (f:UInt8→Bool) (k:Nat) (b:Bool) (hk:k<256):(setA f).toList.set k (.bool b)=(setA (fun c=>if c=UInt8.ofNat k then b else f c)).toList:=by
 apply List.ext_getElem?
 intro i
 rw[List.getElem?_set]
 by_cases h:k=i
 ·subst h
  rw[if_pos rfl,if_pos (by simp[setA_size];exact hk),setA_get _ _ hk,if_pos rfl]
 ·rw[if_neg h]
  by_cases hi:i<256
  ·rw[setA_get _ _ hi,setA_get _ _ hi,if_neg (fun q=>h (ofNat_eq hi hk q).symm)]
  ·rw[List.getElem?_eq_none (by simp[setA_size];omega),List.getElem?_eq_none (by simp[setA_size];omega)]
theorem Below.setRow' {B:Nat} {a w:World} (h:Below B a w) {g:Nat} (hg:B≤g) (cs:Array Value):Below B a (w.setRow g cs):=
 h.trans ⟨rfl,rfl,rfl,by simp,fun k hk=>setRow_other w g k cs (by omega)⟩
set_option maxHeartbeats 2000000 in
theorem opposite_core (f:UInt8→Bool) (w:World):
  Calls Tryz.prog 167 #[.agg (setA f)] w fun e w'=>e=.returned (.agg (setA (fun c=> !f c)))∧Below w.heap.size w w':=by
 have hzv:=(zero_of_info info_set).1
 go_enter Tryz.func167,Tryz.ntmps167
 go_wp2_with fail
 clear hzv
 rw[←setA_none]
 obtain⟨W,hW⟩:=qE ((w.alloc (.cells (setA f) 219)).alloc (.cells (setA (fun _=>false)) 219))
 have HW:Hid (SetAt W w.heap.size w.heap.size f∧SetAt W w.heap.size (w.heap.size+1) (fun _=>false)∧Below w.heap.size w W):=by
  rw[hW]
  refine⟨BoxAt.ofHeap (heap_alloc2_old w _ _) (Nat.le_refl _) (setA_size _),BoxAt.ofHeap (heap_alloc2_new w _ _) (by omega) (setA_size _),(qB).alloc (by simp) _⟩
 rw[←hW]
 clear hW
 go_loopw[4] (fun i wr=>∃(k:Nat),k≤256∧i=.int .i64 k∧SetAt wr w.heap.size w.heap.size (fun c=>if c.toNat<k then !f c else f c)∧SetAt wr w.heap.size (w.heap.size+1) (fun _=>false)∧Below w.heap.size w wr) (fun i _=>256-(intOf i).toNat)
 case atStart=>
  refine⟨0,Nat.zero_le _,rfl,?_,HW.2.1,HW.2.2⟩
  exact SetAt.ext HW.1 (fun c=>by rw[if_neg (by omega)])
 case round=>
  obtain⟨k,hk,rfl,h1,h2,h3⟩:=hrel
  have HR:Hid (SetAt wr w.heap.size w.heap.size (fun c=>if c.toNat<k then !f c else f c)∧SetAt wr w.heap.size (w.heap.size+1) (fun _=>false)∧Below w.heap.size w wr):=⟨h1,h2,h3⟩
  clear h1 h2 h3 HW
  by_cases hlt:k<256
  ·have z:(k:Int)<256:=by omega
   obtain⟨b,hb⟩:=qE (f (UInt8.ofNat k))
   have hn:(UInt8.ofNat k).toNat=k:=by rw[UInt8.toNat_ofNat'];omega
   have d0:wr.cell? ⟨w.heap.size,k,none⟩=some (.bool b):=by
    have:=HR.1.cell (setA_get _ k hlt)
    rw[hn,if_neg (Nat.lt_irrefl _),←hb]at this
    exact this
   have f0:=HR.1.frozen k
   have HN:Hid (SetAt (wr.setCell ⟨w.heap.size,k,none⟩ (.bool (!b))) w.heap.size w.heap.size (fun c=>if c.toNat<k+1 then !f c else f c)∧SetAt (wr.setCell ⟨w.heap.size,k,none⟩ (.bool (!b))) w.heap.size (w.heap.size+1) (fun _=>false)∧Below w.heap.size w (wr.setCell ⟨w.heap.size,k,none⟩ (.bool (!b)))):=by
    refine⟨?_,HR.2.1.beside (by omega) k _,below_set HR.2.2 (Nat.le_refl _) k _⟩
    have h4:=HR.1.set k (.bool (!b))
    rw[setA_set _ k (!b) hlt]at h4
    refine SetAt.ext h4 ?_
    ·intro c
     by_cases hc:c=UInt8.ofNat k
     ·rw[if_pos hc,hc,hn,if_pos (by omega),hb]
     ·rw[if_neg hc]
      have:¬c.toNat=k:=fun q=>hc (UInt8.toNat_inj.1 (by rw[hn];exact q))
      by_cases h5:c.toNat<k
      ·rw[if_pos h5,if_pos (by omega)]
      ·rw[if_neg h5,if_neg (by omega)]
   clear hb hn HR
   go_wp2_with fail
   go_roundw
   case rel=>exact⟨k+1,by omega,by go_num,HN.1,HN.2.1,HN.2.2⟩
   case measure=>simp[intOf];omega
  ·obtain rfl:k=256:=by omega
   have h0:=SetAt.heap (SetAt.ext HR.1 (f':=fun c=> !f c) (fun c=>if_pos (UInt8.toNat_lt c)))
   have h1:=SetAt.heap HR.2.1
   have hB:Below w.heap.size w (wr.setRow (w.heap.size+1) (setA (fun c=> !f c))):=Below.setRow' HR.2.2 (by omega) _
   have hi:(Tryz.prog.info? 219).map (·.size)=some 256:=(zero_of_info info_set).2
   clear HR
   go_upto_region 6 with fail
   apply wp_region_list
   refine wpList_load_row rfl 219 _ rfl w.heap.size rfl 219 (setA (fun c=> !f c)) (0,0) _ h0 Tryz.underlying219 rfl (by rw[setA_size];exact hi) ?_
   refine wpList_store_row rfl 219 _ _ rfl (w.heap.size+1) (setA (fun c=> !f c)) rfl rfl 219 (setA (fun _=>false)) h1 (by rw[setA_size];exact hi) (by rw[setA_size,setA_size]) (setA_one _) ?_
   have hr:=setRow_heap _ _ _ (setA (fun c=> !f c)) _ _ h1
   obtain⟨W2,hW2⟩:=qE (wr.setRow (w.heap.size+1) (setA (fun c=> !f c)))
   rw[←hW2]at hB hr⊢
   clear hW2 h0 h1
   apply wpList_nil
   go_wp2_with fail
   refine bodyPost_ret (v:=.agg (setA (fun c=> !f c))) (results_cell_row rfl _ _ (w.heap.size+1) _ _ _ _ rfl hr Tryz.underlying219 rfl (by rw[setA_size];exact hi)) rfl ⟨rfl,hB⟩
end Go.Proofs.YtgnpcenpcmdlfaaGreatDoor
namespace Go.Proofs.YtgnpcenpcmdlfaaGreatDoor
set_option linter.unusedVariables false
set_option linter.unusedSimpArgs false
inductive Pat where
 |byte (b:UInt8)
 |cls (f:UInt8→Bool)
 |rep (t:Pat) (opt rpt:Bool)
 |alt (os:List (List Pat))
abbrev isOp (c:UInt8):Prop:=c=42∨c=43∨c=63
abbrev isEnd (c:UInt8):Prop:=isOp c∨c=124∨c=41∨c=93
def chM (p:List UInt8) (i:Nat):UInt8×Nat×Bool:=
 match p[i]? with
 |none=>(0,i,false)
 |some c=>if c=93∨c=45 then(0,i,false)else if c=92 then(match p[i+1]? with|none=>(0,i+1,false)|some d=>(d,i+2,true))else(c,i+1,true)
theorem chM_gt {p:List UInt8} {i k:Nat} {c:UInt8} (h:chM p i=(c,k,true)):i<k∧k≤p.length:=by
 unfold chM at h
 split at h
 ·cases h
 ·next c' hc=>
  have h0:=(List.getElem?_eq_some_iff.1 hc).1
  split at h
  ·cases h
  ·split at h
   ·split at h
    ·cases h
    ·next d hd=>
     have h1:=(List.getElem?_eq_some_iff.1 hd).1
     simp only[Prod.mk.injEq]at h
     omega
   ·simp only[Prod.mk.injEq]at h
    omega
def itemM (p:List UInt8) (j:Nat):(UInt8×UInt8×Nat) ⊕ (Int×Nat):=
 match chM p j with
 |(_,k,false)=>.inr (2,k)
 |(lo,k,true)=>
  if p[k]?=some 45 then
   match chM p (k+1)with
   |(_,m,false)=>.inr (2,m)
   |(hi,m,true)=>if hi<lo then .inr (4,j)else .inl (lo,hi,m)
  else .inl (lo,lo,k)
theorem itemM_gt {p:List UInt8} {j k:Nat} {a b:UInt8} (h:itemM p j=.inl (a,b,k)):j<k∧k≤p.length∧a≤b:=by
 unfold itemM at h
 split at h
 ·cases h
 ·next lo k' hk=>
  have h1:=chM_gt hk
  split at h
  ·split at h
   ·cases h
   ·next hi m hm=>
    have h2:=chM_gt hm
    split at h
    ·cases h
    ·next hle=>
     simp only[Sum.inl.injEq,Prod.mk.injEq]at h
     obtain⟨rfl,rfl,rfl⟩:=h
     exact⟨by omega,by omega,UInt8.not_lt.1 hle⟩
  ·simp only[Sum.inl.injEq,Prod.mk.injEq]at h
   obtain⟨rfl,rfl,rfl⟩:=h
   exact⟨by omega,by omega,UInt8.le_refl _⟩
def clsM (p:List UInt8) (j:Nat) (items:Bool) (f:UInt8→Bool):((UInt8→Bool)×Nat) ⊕ (Int×Nat):=
 if h:j<p.length then
  if p[j]?=some 93∧items=true then .inl (f,j+1)
  else match hi:itemM p j with
   | .inr e=>.inr e
   | .inl (a,b,k)=>clsM p k true (fun c=>f c || (decide (a≤c) && decide (c≤b)))
 else .inr (2,p.length)
termination_by p.length-j
decreasing_by have:=itemM_gt hi;omega
def classM (p:List UInt8) (i:Nat):((UInt8→Bool)×Nat) ⊕ (Int×Nat):=
 if p[i]?=some 94 then(match clsM p (i+1) false (fun _=>false)with| .inl (f,k)=>.inl (fun c=> !f c,k)| .inr e=>.inr e)
 else clsM p i false (fun _=>false)
theorem clsM_gt:∀(n:Nat) {p:List UInt8} {j:Nat} {b:Bool} {f g:UInt8→Bool} {k:Nat},p.length-j≤n→clsM p j b f=.inl (g,k)→j<k∧k≤p.length
 |n,p,j,b,f,g,k,hn,h=>by
  unfold clsM at h
  split at h
  ·next hj=>
   split at h
   ·simp only[Sum.inl.injEq,Prod.mk.injEq]at h
    omega
   ·split at h
    ·cases h
    ·next a b' k' hk=>
     have h1:=itemM_gt hk
     match n,hn with
     |0,hn=>omega
     |n+1,hn=>
      have h2:=clsM_gt n (by omega) h
      omega
  ·cases h
theorem classM_gt {p:List UInt8} {i:Nat} {g:UInt8→Bool} {k:Nat} (h:classM p i=.inl (g,k)):i<k∧k≤p.length:=by
 unfold classM at h
 split at h
 ·split at h
  ·next hc=>
   have:=clsM_gt _ (Nat.le_refl _) hc
   simp only[Sum.inl.injEq,Prod.mk.injEq]at h
   omega
  ·cases h
 ·exact clsM_gt _ (Nat.le_refl _) h
theorem itemM_err {p:List UInt8} {j:Nat} {c:Int} {k:Nat} (h:itemM p j=.inr (c,k)):¬c=0:=by
 unfold itemM at h
 split at h
 ·simp only[Sum.inr.injEq,Prod.mk.injEq]at h;omega
 ·split at h
  ·split at h
   ·simp only[Sum.inr.injEq,Prod.mk.injEq]at h;omega
   ·split at h
    ·simp only[Sum.inr.injEq,Prod.mk.injEq]at h;omega
    ·cases h
  ·cases h
theorem clsM_err:∀(n:Nat) {p:List UInt8} {j:Nat} {b:Bool} {f:UInt8→Bool} {c:Int} {k:Nat},p.length-j≤n→clsM p j b f=.inr (c,k)→¬c=0
 |n,p,j,b,f,c,k,hn,h=>by
  unfold clsM at h
  split at h
  ·split at h
   ·cases h
   ·split at h
    ·next e he=>
     simp only[Sum.inr.injEq]at h
     subst h
     exact itemM_err he
    ·next a b' k' hk=>
     have h1:=itemM_gt hk
     match n,hn with
     |0,hn=>omega
     |n+1,hn=>exact clsM_err n (by omega) h
  ·simp only[Sum.inr.injEq,Prod.mk.injEq]at h;omega
theorem classM_err {p:List UInt8} {i:Nat} {c:Int} {k:Nat} (h:classM p i=.inr (c,k)):¬c=0:=by
 unfold classM at h
 split at h
 ·split at h
  ·cases h
  ·next e he=>
   simp only[Sum.inr.injEq]at h
   subst h
   exact clsM_err _ (Nat.le_refl _) he
 ·exact clsM_err _ (Nat.le_refl _) h
def chkM (p:List UInt8) (i o:Nat) (a:Bool):Int×Nat:=
 if h:i<p.length then
  if p[i]=40 then(if o=20 then(3,i)else chkM p (i+1) (o+1) false)
  else if p[i]=41 then(if o=0 then(2,i)else chkM p (i+1) (o-1) true)
  else if p[i]=124 then chkM p (i+1) o false
  else if p[i]=42∨p[i]=43∨p[i]=63 then(if a=true then chkM p (i+1) o true else(2,i))
  else if p[i]=91 then(match hc:classM p (i+1)with| .inr e=>e| .inl (f,k)=>chkM p k o true)
  else if p[i]=93 then(2,i)
  else if p[i]=92 then(if i+1=p.length then(2,p.length)else chkM p (i+2) o true)
  else chkM p (i+1) o true
 else if 0<o then(2,p.length)else(0,0)
termination_by p.length-i
decreasing_by
 all_goals first
  |(have:=classM_gt hc;omega)
  |omega
variable {p:List UInt8} {i o:Nat} {a:Bool} {c:UInt8}
theorem lt_of_at (h:p[i]?=some c):i<p.length:=(List.getElem?_eq_some_iff.1 h).1
theorem get_of_at (h:p[i]?=some c):p[i]'(lt_of_at h)=c:=(List.getElem?_eq_some_iff.1 h).2
theorem chk_end (h:¬i<p.length):chkM p i o a=if 0<o then(2,p.length)else(0,0):=by rw[chkM,dif_neg h]
theorem chk_open (h:p[i]?=some 40):chkM p i o a=if o=20 then(3,i)else chkM p (i+1) (o+1) false:=by
 rw[chkM,dif_pos (lt_of_at h),if_pos (get_of_at h)]
theorem chk_close (h:p[i]?=some 41):chkM p i o a=if o=0 then(2,i)else chkM p (i+1) (o-1) true:=by
 rw[chkM,dif_pos (lt_of_at h),get_of_at h];simp
theorem chk_bar (h:p[i]?=some 124):chkM p i o a=chkM p (i+1) o false:=by
 rw[chkM,dif_pos (lt_of_at h),get_of_at h];simp
theorem chk_op (h:p[i]?=some c) (hc:isOp c):chkM p i o a=if a=true then chkM p (i+1) o true else(2,i):=by
 rw[chkM,dif_pos (lt_of_at h),get_of_at h]
 rcases hc with rfl|rfl|rfl<;>simp
theorem chk_rb (h:p[i]?=some 93):chkM p i o a=(2,i):=by
 rw[chkM,dif_pos (lt_of_at h),get_of_at h];simp
theorem chk_class (h:p[i]?=some 91):chkM p i o a=match classM p (i+1)with| .inr e=>e| .inl (f,k)=>chkM p k o true:=by
 rw[chkM,dif_pos (lt_of_at h),get_of_at h]
 simp only[show¬(91:UInt8)=40 by decide,show¬(91:UInt8)=41 by decide,show¬(91:UInt8)=124 by decide,show¬((91:UInt8)=42∨(91:UInt8)=43∨(91:UInt8)=63)by decide,if_false,if_true]
 split<;>(next hc=>rw[hc])
theorem chk_esc (h:p[i]?=some 92):chkM p i o a=if i+1=p.length then(2,p.length)else chkM p (i+2) o true:=by
 rw[chkM,dif_pos (lt_of_at h),get_of_at h];simp
theorem chk_plain (h:p[i]?=some c) (h1:¬isEnd c) (h2:¬c=40) (h3:¬c=91) (h4:¬c=92):chkM p i o a=chkM p (i+1) o true:=by
 rw[chkM,dif_pos (lt_of_at h),get_of_at h]
 unfold isEnd isOp at h1
 simp only[not_or]at h1
 obtain⟨⟨g1,g2,g3⟩,g4,g5,g6⟩:=h1
 simp[h2,h3,h4,g1,g2,g3,g4,g5,g6]
theorem chk_flag (h:∀c,p[i]?=some c→¬isOp c) (a b:Bool):chkM p i o a=chkM p i o b:=by
 by_cases hi:i<p.length
 ·obtain⟨c,hc⟩:∃c,p[i]?=some c:=⟨_,List.getElem?_eq_getElem hi⟩
  have hn:=h c hc
  by_cases h1:c=40
  ·subst h1;rw[chk_open hc,chk_open hc]
  by_cases h2:c=41
  ·subst h2;rw[chk_close hc,chk_close hc]
  by_cases h3:c=124
  ·subst h3;rw[chk_bar hc,chk_bar hc]
  by_cases h4:c=93
  ·subst h4;rw[chk_rb hc,chk_rb hc]
  by_cases h5:c=91
  ·subst h5;rw[chk_class hc,chk_class hc]
  by_cases h6:c=92
  ·subst h6;rw[chk_esc hc,chk_esc hc]
  have he:¬isEnd c:=fun q=>q.elim hn (fun q=>q.elim h3 (fun q=>q.elim h2 h4))
  rw[chk_plain hc he h1 h5 h6,chk_plain hc he h1 h5 h6]
 ·rw[chk_end hi,chk_end hi]
end Go.Proofs.YtgnpcenpcmdlfaaGreatDoor
namespace Go.Proofs.YtgnpcenpcmdlfaaGreatDoor
open Go.ChangeShapes Go.WideShapes Go.ChangeAt Go.RowKit Go.Deep
set_option linter.unusedVariables false
set_option linter.unusedSimpArgs false
set_option maxRecDepth 100000
theorem chM_in {p:List UInt8} {i:Nat} (h:inB p i [93,45]=true):chM p i=(0,i,false):=by
 unfold inB at h
 unfold chM
 split at h
 ·next c hc=>
  rw[hc]
  have:c=93∨c=45:=by simpa using h
  simp only[]
  rw[if_pos this]
 ·cases h
theorem chM_end {p:List UInt8} {i:Nat} (h:p[i]?=none):chM p i=(0,i,false):=by
 unfold chM;rw[h]
theorem chM_esc {p:List UInt8} {i:Nat} (h:p[i]?=some 92):chM p i=match p[i+1]? with|none=>(0,i+1,false)|some d=>(d,i+2,true):=by
 unfold chM;rw[h];rfl
theorem chM_plain {p:List UInt8} {i:Nat} {c:UInt8} (h:p[i]?=some c) (h1:inB p i [93,45]=false) (h2:¬c=92):chM p i=(c,i+1,true):=by
 unfold inB at h1
 unfold chM
 rw[h]at h1⊢
 have:¬(c=93∨c=45):=by simpa using h1
 simp only[]
 rw[if_neg this,if_neg h2]
set_option maxHeartbeats 2000000 in
theorem classByte_core {base g i o:Nat} {p:ByteArray} {w:World} (h:PrAt w base g p i o) (hp:p.size≤200) (hi:i≤p.size):
  Calls Tryz.prog 171 #[.pointer (some ⟨g,0,none⟩)] w fun e w'=>Chg (fun k=>k=g) w w'∧
   ((∃(x:UInt8) (k:Nat),chM (sb p) i=(x,k,true)∧e=.returned (.int .u8 (x.toNat:Int))∧PrAt w' base g p k o)∨(∃(x:UInt8) (k:Nat),chM (sb p) i=(x,k,false)∧e=Pf 2 k)):=by
 have HP:Hid (PrAt w base g p i o):=h
 clear h
 go_enter Tryz.func171,Tryz.ntmps171
 go_wp2_with fail
 refine(pnextIn_core ⟨#[93,45]⟩ HP.out hp).mono ?_
 rintro e w1 ⟨rfl,hb1⟩
 have HP1:Hid (PrAt w1 base g p i o∧Chg (fun k=>k=g) w w1):=⟨BoxAt.below HP.out hb1,Chg.of_below hb1⟩
 obtain⟨q,hq⟩:=qE (inB (sb p) i (sb ⟨#[93,45]⟩))
 have HQ:Hid (inB (sb p) i [93,45]=q):=hq.symm
 rw[←hq]
 clear hb1 hq HP
 go_wp2_with fail
 refine(pdem_core (!q) HP1.1).mono ?_
 rintro e w2 ⟨rfl,(⟨hc,rfl⟩|⟨hc,rfl⟩)⟩
 case inr=>
  have hq:q=true:=by simpa using hc
  refine⟨rfl,HP1.2,.inr ⟨0,i,chM_in (by rw[HQ.out,hq]),rfl⟩⟩
 have hq:q=false:=by simpa using hc
 subst hq
 clear hc
 go_wp2_with fail
 refine(ptake_core HP1.1 hp hi).mono ?_
 rintro e w3 ⟨hC3,(⟨x,hx,rfl,hP3⟩|⟨hx,rfl⟩)⟩
 case inr=>exact⟨rfl,HP1.2.trans hC3,.inr ⟨0,i,chM_end hx,rfl⟩⟩
 have HP3:Hid (PrAt w3 base g p (i+1) o∧Chg (fun k=>k=g) w w3∧(sb p)[i]?=some x):=⟨hP3,HP1.2.trans hC3,hx⟩
 have hi1:i+1≤p.size:=by
  have:=(List.getElem?_eq_some_iff.1 hx).1
  rw[sb_len]at this;omega
 clear hC3 hx hP3 HP1
 by_cases h92:x=92
 ·subst h92
  go_wp2_with fail
  refine(ptake_core HP3.1 hp hi1).mono ?_
  rintro e w4 ⟨hC4,(⟨y,hy,rfl,hP4⟩|⟨hy,rfl⟩)⟩
  case inr=>exact⟨rfl,HP3.2.1.trans hC4,.inr ⟨0,i+1,by rw[chM_esc HP3.2.2,hy],rfl⟩⟩
  have HF:Hid (Chg (fun k=>k=g) w w4∧chM (sb p) i=(y,i+2,true)∧PrAt w4 base g p (i+2) o):=⟨HP3.2.1.trans hC4,by rw[chM_esc HP3.2.2,hy],hP4⟩
  clear hC4 hy hP4
  go_wp2_with fail
  go_ret
  exact⟨HF.1,.inl ⟨y,i+2,HF.2.1,rfl,HF.2.2⟩⟩
 ·have z:¬(x.toNat:Int)=92:=fun q=>h92 (UInt8.toNat_inj.1 (by show x.toNat=92;omega))
  go_wp2_with fail
  go_ret
  exact⟨HP3.2.1,.inl ⟨x,i+1,chM_plain HP3.2.2 HQ.out h92,rfl,HP3.1⟩⟩
def wider (f:UInt8→Bool) (a b:UInt8):UInt8→Bool:=fun c=>f c || (decide (a≤c) && decide (c≤b))
theorem Chg.absorb {S T:Nat→Prop} {w w1 w2:World} (h:Chg S w w1) (k:Chg T w1 w2) (hT:∀j,T j→S j∨w.heap.size≤j):Chg S w w2:=
 ⟨k.os.trans h.os,k.tape.trans h.tape,k.output.trans h.output,Nat.le_trans h.size k.size,fun i hi hn=>(k.block i (Nat.lt_of_lt_of_le hi h.size) (fun q=>by rcases hT i q with q|q;exact hn q;omega)).trans (h.block i hi hn)⟩
theorem wrap64_u8 (a:UInt8):wrap64 (a.toNat:Int)=(a.toNat:Int):=by
 have:=UInt8.toNat_lt a
 unfold wrap64
 omega
theorem chg_setRow (w:World) (g:Nat) (cs:Array Value):Chg (fun k=>k=g) w (w.setRow g cs):=⟨rfl,rfl,rfl,by simp,fun k hk hn=>setRow_other w g k cs hn⟩
set_option maxHeartbeats 8000000 in
theorem item_core {base g i o:Nat} {p:ByteArray} (f:UInt8→Bool) {w:World} (h:PrAt w base g p i o) (hp:p.size≤200) (hi:i≤p.size):
  Calls Tryz.prog 170 #[.pointer (some ⟨g,0,none⟩),.agg (setA f)] w fun e w'=>Chg (fun k=>k=g) w w'∧
   ((∃(a b:UInt8) (k:Nat),itemM (sb p) i=.inl (a,b,k)∧e=.returned (.agg (setA (wider f a b)))∧PrAt w' base g p k o)∨(∃(c:Int) (k:Nat),itemM (sb p) i=.inr (c,k)∧e=Pf c k)):=by
 have hgl:=h.lt.2
 obtain⟨W0,hW0⟩:=qE ((w.alloc (.cells (setA f) 219)).alloc (.cells (setA (fun _=>false)) 219))
 have HW:Hid (SetAt W0 w.heap.size w.heap.size f∧SetAt W0 w.heap.size (w.heap.size+1) (fun _=>false)∧PrAt W0 base g p i o∧Chg (fun k=>k=g) w W0):=by
  rw[hW0]
  have hb:Below w.heap.size w ((w.alloc (.cells (setA f) 219)).alloc (.cells (setA (fun _=>false)) 219)):=(qB).alloc (by simp) _
  refine⟨BoxAt.ofHeap (heap_alloc2_old w _ _) (Nat.le_refl _) (setA_size _),BoxAt.ofHeap (heap_alloc2_new w _ _) (by omega) (setA_size _),BoxAt.below h hb,Chg.of_below hb⟩
 have hzv:=(zero_of_info info_set).1
 rw[setA_none]at hW0
 have c1:=HW.2.2.1.cell (j:=1) rfl
 clear h
 go_enter Tryz.func170,Tryz.ntmps170
 go_upto_region 1 with fail
 rw[←hW0]
 clear hW0 hzv
 go_wp2_with fail
 clear c1
 refine(classByte_core HW.2.2.1 hp hi).mono ?_
 rintro e w1 ⟨hC1,(⟨a,k1,hk1,rfl,hP1⟩|⟨x,k,hk,rfl⟩)⟩
 case inr=>
  refine⟨rfl,HW.2.2.2.trans hC1,.inr ⟨2,k,?_,rfl⟩⟩
  unfold itemM;rw[hk]
 have HW1:Hid (SetAt w1 w.heap.size w.heap.size f∧SetAt w1 w.heap.size (w.heap.size+1) (fun _=>false)∧PrAt w1 base g p k1 o∧Chg (fun k=>k=g) w w1):=⟨BoxAt.chg HW.1 hC1 (by omega),BoxAt.chg HW.2.1 hC1 (by omega),hP1,HW.2.2.2.trans hC1⟩
 have HK1:Hid (chM (sb p) i=(a,k1,true)):=hk1
 have hk1p:k1≤p.size:=by have:=(chM_gt hk1).2;rw[sb_len]at this;exact this
 clear hC1 hk1 hP1 HW
 go_wp2_with fail
 refine(pskip_core 45 HW1.2.2.1 hp).mono ?_
 rintro e w2 ⟨hC2,h2⟩
 have HW2:Hid (SetAt w2 w.heap.size w.heap.size f∧SetAt w2 w.heap.size (w.heap.size+1) (fun _=>false)∧Chg (fun k=>k=g) w w2):=⟨BoxAt.chg HW1.1 hC2 (by omega),BoxAt.chg HW1.2.1 hC2 (by omega),HW1.2.2.2.trans hC2⟩
 clear hC2 HW1
 rcases h2 with⟨hx,rfl,hP2⟩|⟨hx,rfl,hP2⟩
 case' inl=>
  have HP2:Hid (PrAt w2 base g p (k1+1) o∧(sb p)[k1]?=some 45):=⟨hP2,hx⟩
  have hk2:k1+1≤p.size:=by have:=(List.getElem?_eq_some_iff.1 hx).1;rw[sb_len]at this;omega
  clear hP2 hx
  go_wp2_with fail
  refine(classByte_core HP2.1 hp hk2).mono ?_
  rintro e w5 ⟨hC5,h5⟩
  have HW5:Hid (SetAt w5 w.heap.size w.heap.size f∧SetAt w5 w.heap.size (w.heap.size+1) (fun _=>false)∧Chg (fun k=>k=g) w w5):=⟨BoxAt.chg HW2.1 hC5 (by omega),BoxAt.chg HW2.2.1 hC5 (by omega),HW2.2.2.trans hC5⟩
  clear hC5 HW2
  rcases h5 with⟨b,k5,hk5,rfl,hP5⟩|⟨x,k,hk,rfl⟩
  case inr=>
   refine⟨rfl,HW5.2.2,.inr ⟨2,k,?_,rfl⟩⟩
   unfold itemM;rw[HK1.out];simp only[];rw[if_pos HP2.2,hk]
  have HI:Hid (PrAt w5 base g p k5 o∧itemM (sb p) i=if b<a then .inr (4,i)else .inl (a,b,k5)):=by
   refine⟨hP5,?_⟩
   unfold itemM;rw[HK1.out];simp only[];rw[if_pos HP2.2,hk5]
  clear hk5 hP5 HP2 hk2
 case' inr=>
  obtain⟨w5,hw5⟩:=qE w2
  obtain⟨k5,hk5⟩:=qE (k1:Nat)
  have HW5:Hid (SetAt w5 w.heap.size w.heap.size f∧SetAt w5 w.heap.size (w.heap.size+1) (fun _=>false)∧Chg (fun k=>k=g) w w5):=by rw[hw5];exact HW2.out
  have HI2:Hid (PrAt w5 base g p k5 o∧itemM (sb p) i=.inl (a,a,k5)):=by
   rw[hw5,hk5]
   refine⟨hP2,?_⟩
   unfold itemM;rw[HK1.out];simp only[];rw[if_neg hx]
  rw[←hw5]
  clear hw5 hP2 hx HW2 hk5
 case inl=>
  clear HK1 hk1p
  by_cases hba:b<a
  ·have z:(b.toNat:Int)<(a.toNat:Int):=by have:=UInt8.lt_iff_toNat_lt.1 hba;omega
   go_wp2_with fail
   exact⟨rfl,HW5.2.2,.inr ⟨4,i,by rw[HI.2,if_pos hba],rfl⟩⟩
  ·have z:(a.toNat:Int)≤(b.toNat:Int):=by have:=UInt8.le_iff_toNat_le.1 (UInt8.not_lt.1 hba);omega
   have HI2:Hid (PrAt w5 base g p k5 o∧itemM (sb p) i=.inl (a,b,k5)):=⟨HI.1,by rw[HI.2,if_neg hba]⟩
   clear HI hba
   go_wp2_with fail
   go_loopw[8] (fun bv wr=>∃(k:Nat),a.toNat≤k∧k≤b.toNat+1∧bv=.int .i64 k∧SetAt wr w.heap.size w.heap.size (fun c=>f c || (decide (a≤c) && decide (c.toNat<k)))∧SetAt wr w.heap.size (w.heap.size+1) (fun _=>false)∧PrAt wr base g p k5 o∧Chg (fun k=>k=g) w wr) (fun bv _=>256-(intOf bv).toNat)
   case atStart=>
    exact zzQ46
   case round=>
    obtain⟨k,hk0,hk1,rfl,h1,h2,h3,h4⟩:=hrel
    have HR:Hid (SetAt wr w.heap.size w.heap.size (fun c=>f c || (decide (a≤c) && decide (c.toNat<k)))∧SetAt wr w.heap.size (w.heap.size+1) (fun _=>false)∧PrAt wr base g p k5 o∧Chg (fun k=>k=g) w wr):=⟨h1,h2,h3,h4⟩
    clear h1 h2 h3 h4 HW5
    have hb256:=UInt8.toNat_lt b
    by_cases hlt:k≤b.toNat
    ·have z2:(k:Int)≤(b.toNat:Int):=by omega
     exact zzQ9
    ·obtain rfl:k=b.toNat+1:=by omega
     have z2:¬((b.toNat:Int)+1)≤(b.toNat:Int):=by omega
     have h0:=SetAt.heap (SetAt.ext HR.1 (f':=wider f a b) (fun c=>by
      unfold wider
      rw[show decide (c.toNat<b.toNat+1)=decide (c≤b)from decide_eq_decide.2 ⟨fun q=>UInt8.le_iff_toNat_le.2 (by omega),fun q=>by have:=UInt8.le_iff_toNat_le.1 q;omega⟩]))
     have h1:=SetAt.heap HR.2.1
     have HC:Hid (Chg (fun k=>k=g) w (wr.setRow (w.heap.size+1) (setA (wider f a b)))∧PrAt (wr.setRow (w.heap.size+1) (setA (wider f a b))) base g p k5 o):=by
      have hc:=chg_setRow wr (w.heap.size+1) (setA (wider f a b))
      exact⟨HR.2.2.2.absorb hc (fun j q=>.inr (by omega)),BoxAt.chg HR.2.2.1 hc (by omega)⟩
     have hi:(Tryz.prog.info? 219).map (·.size)=some 256:=(zero_of_info info_set).2
     clear HR
     go_upto_region 12 with fail
     apply wp_region_list
     refine wpList_load_row rfl 219 _ rfl w.heap.size rfl 219 (setA (wider f a b)) (0,0) _ h0 Tryz.underlying219 rfl (by rw[setA_size];exact hi) ?_
     refine wpList_store_row rfl 219 _ _ rfl (w.heap.size+1) (setA (wider f a b)) rfl rfl 219 (setA (fun _=>false)) h1 (by rw[setA_size];exact hi) (by rw[setA_size,setA_size]) (setA_one _) ?_
     have hr:=setRow_heap _ _ _ (setA (wider f a b)) _ _ h1
     obtain⟨W2,hW2⟩:=qE (wr.setRow (w.heap.size+1) (setA (wider f a b)))
     rw[←hW2]at HC hr⊢
     clear hW2 h0 h1
     apply wpList_nil
     go_wp2_with fail
     refine bodyPost_ret (v:=.agg (setA (wider f a b))) (results_cell_row rfl _ _ (w.heap.size+1) _ _ _ _ rfl hr Tryz.underlying219 rfl (by rw[setA_size];exact hi)) rfl ⟨HC.1,.inl ⟨a,b,k5,HI2.2,rfl,HC.2⟩⟩
 case inr=>
  clear HK1 hk1p
  go_wp2_with fail
  go_loopw[8] (fun bv wr=>∃(k:Nat),a.toNat≤k∧k≤a.toNat+1∧bv=.int .i64 k∧SetAt wr w.heap.size w.heap.size (fun c=>f c || (decide (a≤c) && decide (c.toNat<k)))∧SetAt wr w.heap.size (w.heap.size+1) (fun _=>false)∧PrAt wr base g p k5 o∧Chg (fun k=>k=g) w wr) (fun bv _=>256-(intOf bv).toNat)
  case atStart=>
   exact zzQ46
  case round=>
   obtain⟨k,hk0,hk1,rfl,h1,h2,h3,h4⟩:=hrel
   have HR:Hid (SetAt wr w.heap.size w.heap.size (fun c=>f c || (decide (a≤c) && decide (c.toNat<k)))∧SetAt wr w.heap.size (w.heap.size+1) (fun _=>false)∧PrAt wr base g p k5 o∧Chg (fun k=>k=g) w wr):=⟨h1,h2,h3,h4⟩
   clear h1 h2 h3 h4 HW5
   have hb256:=UInt8.toNat_lt a
   by_cases hlt:k≤a.toNat
   ·have z2:(k:Int)≤(a.toNat:Int):=by omega
    exact zzQ9
   ·obtain rfl:k=a.toNat+1:=by omega
    have z2:¬((a.toNat:Int)+1)≤(a.toNat:Int):=by omega
    have h0:=SetAt.heap (SetAt.ext HR.1 (f':=wider f a a) (fun c=>by
     unfold wider
     rw[show decide (c.toNat<a.toNat+1)=decide (c≤a)from decide_eq_decide.2 ⟨fun q=>UInt8.le_iff_toNat_le.2 (by omega),fun q=>by have:=UInt8.le_iff_toNat_le.1 q;omega⟩]))
    have h1:=SetAt.heap HR.2.1
    have HC:Hid (Chg (fun k=>k=g) w (wr.setRow (w.heap.size+1) (setA (wider f a a)))∧PrAt (wr.setRow (w.heap.size+1) (setA (wider f a a))) base g p k5 o):=by
     have hc:=chg_setRow wr (w.heap.size+1) (setA (wider f a a))
     exact⟨HR.2.2.2.absorb hc (fun j q=>.inr (by omega)),BoxAt.chg HR.2.2.1 hc (by omega)⟩
    have hi:(Tryz.prog.info? 219).map (·.size)=some 256:=(zero_of_info info_set).2
    clear HR
    go_upto_region 12 with fail
    apply wp_region_list
    refine wpList_load_row rfl 219 _ rfl w.heap.size rfl 219 (setA (wider f a a)) (0,0) _ h0 Tryz.underlying219 rfl (by rw[setA_size];exact hi) ?_
    refine wpList_store_row rfl 219 _ _ rfl (w.heap.size+1) (setA (wider f a a)) rfl rfl 219 (setA (fun _=>false)) h1 (by rw[setA_size];exact hi) (by rw[setA_size,setA_size]) (setA_one _) ?_
    have hr:=setRow_heap _ _ _ (setA (wider f a a)) _ _ h1
    obtain⟨W2,hW2⟩:=qE (wr.setRow (w.heap.size+1) (setA (wider f a a)))
    rw[←hW2]at HC hr⊢
    clear hW2 h0 h1
    apply wpList_nil
    go_wp2_with fail
    refine bodyPost_ret (v:=.agg (setA (wider f a a))) (results_cell_row rfl _ _ (w.heap.size+1) _ _ _ _ rfl hr Tryz.underlying219 rfl (by rw[setA_size];exact hi)) rfl ⟨HC.1,.inl ⟨a,a,k5,HI2.2,rfl,HC.2⟩⟩
end Go.Proofs.YtgnpcenpcmdlfaaGreatDoor
