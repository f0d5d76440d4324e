import Derived.Deep.RegionHeld3
import Derived.Test.YtkidabedcgngcaaGreatDoorRows
import Derived.WalkKit
import Derived.ProofKit
import Derived.OpenShut
import Derived.ShutString
import Derived.ChangeOld
import Derived.Below
import Derived.WalkSpells
import Derived.WalkLawsBesides
import Derived.Outline
import Derived.Deep.Light
import Derived.Lib.SmallJoins
import Derived.OwnWalk
import Derived.Deep.MidRow
import Derived.Deep.DeepCutAuto
import Derived.Deep.RegionWith
import Derived.Deep.QuietTactic
import Derived.BigQuiet
import Derived.Deep.AppendLies
import Derived.Lib.Bytealg
import Derived.Lib.Slices
import Derived.Lib.Walk
import Derived.Laws.Tables
import Derived.Laws.Rows
import Derived.Deep.WholeRow
import Derived.Deep.RegionLaw
import Derived.Maps.AppendAt
import Derived.Recover
import Derived.RecoverIn
import Derived.Stop.Asserts
import Derived.Lib.TrailingZeros
import Derived.Laws.Bits64b
import Derived.RangeFuncNested
import Derived.RangeFuncBound
import Derived.RangeFuncCalls
import Derived.RangeFuncLeaves
import Derived.Shelf.Abstract
import Derived.Shelf.RegionOpen
import Derived.OwnWalkIn
import Derived.TacticsInMore
import Derived.LoopNIn
import Derived.LoopIn
import Derived.Maps.OwnSet
import Derived.Maps.OwnOps
import Derived.DeepKeys4
import Derived.OrdersIn
import Derived.Lib.ConvBytes
import Derived.Maps.RangeWalk
import Derived.Laws.IdiomRangeMap
import Derived.Lib.AppendZeros
import Derived.LaidMore
import Derived.Lib.LaidTab
import Derived.Stop.Joined
import Derived.Test.YtkidabedcgngcaaGreatDoorChecked
namespace Go.Proofs.YtkidabedcgngcaaGreatDoor
open Go.RowKit Go.ChangeShapes Go.WideShapes Go.ChangeAt Go.Deep Go.Shelf Go.Maps
set_option linter.unusedVariables false
set_option linter.unusedSimpArgs false
set_option maxRecDepth 100000
set_option maxHeartbeats 40000000
theorem qA:(∀(a:Act) (n:Nat) (v:Value),a.put (some n) v={a with tmps:=a.tmps.setIfInBounds n v})∧(∀(a:Act) (v:Value),a.put none v=a)∧(∀(l:List Value) (i:Nat) (v:Value),l.toArray.setIfInBounds i v=(l.set i v).toArray)∧
  (∀(x v:Value) (l:List Value),(x::l).set 0 v=v::l)∧(∀(x v:Value) (l:List Value) (i:Nat),(x::l).set (i+1) v=x::l.set i v):=
 ⟨fun _ _ _=>rfl,fun _ _=>rfl,fun _ _ _=>by simp,fun _ _ _=>rfl,fun _ _ _ _=>rfl⟩
theorem qE {α:Sort _} (x:α):∃y,y=x:=⟨x,rfl⟩
variable {w:World}
theorem qB {o:Obj}:Below w.heap.size w (w.alloc o):=(Below.refl _ _).alloc (Nat.le_refl _) _
variable {p:Prop}
theorem zzR0 (h:p:=by (intro wz hSw;(try dsimp only at hSw);go_simp;(try with_reducible rfl))):p:=h
theorem zzR1 (h:p:=by (intro wz hSw;go_simp;(try simp only[zq,zr,zs,zwi,zwn,HW.1]);(try with_reducible rfl))):p:=h
theorem zzR2 (h:p:=by (intro wz hSw;obtain⟨d0,d1,d2,d3,d4,d5,d6,d7,d8,d9,d10⟩:=hSw;go_simp;(try with_reducible rfl))):p:=h
theorem zzR3 (h:p:=by (intro wz hSw;go_simp;(try with_reducible rfl))):p:=h
theorem zzR4 (h:p:=by (intro wz hSw;obtain hz0:=hSw;go_simp;(try simp[gq]);(try with_reducible rfl))):p:=h
theorem zzR5 (h:p:=by (intro wz hSw;obtain⟨d0,d1,d2,d3,d4,d5,d6,d7,d8⟩:=hSw;go_simp;(try with_reducible rfl);(try (rw[←xAj,Bool.not_not])))):p:=h
theorem zzQ0 (h:p:=by
 go_upto_region 7 with fail;go_wp2_with fail;refine HRp.mono ?_;rintro e w3 ⟨u,rfl,hb3,hu⟩;obtain⟨os,ho,hU0⟩:∃os,yEp (sb n.s) 0 0 n.s.size os∧yE2 w3 (Bet W2.heap.size w3.heap.size) os u:=by
  rcases hu with⟨_,os,h1,h2⟩|⟨q,_⟩
  ·exact⟨os,h1,h2⟩
  ·exact absurd (HG.out hP0.out) q
 obtain⟨ua,un,uc,rfl⟩:∃a n cp,u=.slice a n cp:=by obtain⟨g,n,cp,rfl⟩:=hU0.slice;exact⟨_,_,_,rfl⟩
 obtain⟨cc,hcc⟩:∃c,c=(yAr (sb n.s)).1:=⟨_,rfl⟩;obtain⟨kk,hkk⟩:∃k:Int,k=((yAr (sb n.s)).2:Int):=⟨_,rfl⟩;rw[←hcc,←hkk];clear hcc hkk hu;obtain⟨W4,hW4⟩:=qE ((w3.alloc (Obj.cells #[.slice ua un uc] 142)).alloc (Obj.cells #[.int .i64 cc,.int .i64 kk] 129):World);have hb4:Below w3.heap.size w3 W4:=by rw[hW4];exact(qB).alloc (by simp) _
 have hz3:=hb3.size;have hz4:=hb4.size;have k24:Below W2.heap.size W2 W4:=hb3.trans (hb4.mono hz3);have HA4:Hid (yA W4 w.heap.size 142 1 w3.heap.size [.slice ua un uc]∧Below W2.heap.size W2 W4∧W2.heap.size≤W4.heap.size):=by refine⟨?_,k24,by omega⟩;rw[hW4];exact yA.ofHeap (vs:=#[.slice ua un uc]) (heap_alloc2_old w3 _ _) (by omega) rfl
 obtain⟨nn,hg0⟩:=ho.gr;have ecut:cut (sb n.s) 0 n.s.size=sb n.s:=by unfold cut;rw[List.drop_zero,Nat.sub_zero,←yAd,List.take_length]
 rw[ecut]at hg0;have hwt:wtA os≤250:=by have:=yTa (fun xs t q=>yT nn xs t q) hg0;rw[yAd]at this;omega
 have hU4:yE2 W4 (Bet W2.heap.size w3.heap.size) os (.slice ua un uc):=hU0.move (S:=fun _=>False) (Chg.of_below hb4) (fun q hq=>hq.elim) (fun q _ z=>z);obtain⟨dd,hU5⟩:=hU4;have hT4:TabD W4:=HT.1.chg (S:=fun _=>False) (Chg.of_below (HW2.2.2.2.trans (k24.mono HW2.2.2.2.size))) (fun q=>q);obtain⟨sa,sn,sc,hsl,hmk⟩:=yIu W4 hT4 (fun k hk=>by have:=hk.2;omega) hU5 hwt;simp only[Value.slice.injEq]at hsl;obtain⟨rfl,rfl,rfl⟩:=hsl;have HMk:Hid (Calls Tryz.prog 105 #[.agg #[.slice ua un uc]] W4 (MkR os W4)):=hmk;have HGr:Hid (AltG (yAz nn) os (sb n.s)∧wtA os≤250):=⟨hg0,hwt⟩;obtain⟨rb,hrb⟩:=qE w3.heap.size;rw[←hrb]at HA4;go_upto_region 8 with fail;rw[←hW4,←hrb];clear hW4 hrb ho hU0 hU5 hg0 hwt hT4 hmk ecut k24 hb3 hb4 hz3 hz4;have a0:=HA4.1.cell (j:=0) rfl;have HB4:Hid (∀wx,Below W4.heap.size W4 wx→yA wx w.heap.size 111 8 (w.heap.size+1) (#[.int .i64 0,.string ⟨#[]⟩,.bool false,.string ⟨#[]⟩,.int .u64 0,.int .u64 0,.int .i64 0,.pointer none]).toList∧yA wx w.heap.size 111 8 (w.heap.size+1+1) (yCo n none)∧Below w.heap.size w wx):=fun wx hx=>by have k:=HA4.2.1.trans (hx.mono HA4.2.2);exact⟨HW2.2.1.below k,HW2.2.2.1.below k,HW2.2.2.2.trans (k.mono HW2.2.2.2.size)⟩
 go_wp2_with fail;refine HMk.mono ?_;rintro e w5 ⟨M,G,cp,mp,rfl,H5⟩;have hB5:=HB4.out w5 H5.2.2.2;have q7:=hB5.2.1.cell (j:=7) rfl;have g7:=hB5.2.1.frozen 7;have hlm:=H5.1.ltM;have hlg:=H5.1.ltG;have hlp:=H5.2.2.1;have hlp2:mp<w5.heap.size:=(Array.getElem?_eq_some_iff.1 H5.2.1).1;have hz4:=HA4.2.2;obtain⟨W6,hW6⟩:=qE (w5.setCell ⟨w.heap.size+1+1,7,none⟩ (.pointer (some ⟨M,0,none⟩)):World);have hc6:Chg (fun k=>k=w.heap.size+1+1) w5 W6:=by rw[hW6];exact Chg.of_set _ _ _ _ rfl
 have hs6:W6.heap.size=w5.heap.size:=by rw[hW6];simp
 have HBx:Hid (yA W6 w.heap.size 111 8 (w.heap.size+1) (#[.int .i64 0,.string ⟨#[]⟩,.bool false,.string ⟨#[]⟩,.int .u64 0,.int .u64 0,.int .i64 0,.pointer none]).toList∧Below w.heap.size w W6∧w.heap.size+1<W6.heap.size∧yCu W6 (w.heap.size+1+1+1) W6.heap.size n (.pointer (some ⟨M,0,none⟩))):=by
  refine⟨hB5.1.chg hc6 (by omega),Chg.below hB5.2.2 hc6 hB5.2.2.size (fun k q=>by omega),by have:=hB5.2.2.size;omega,.inr ⟨hP0.out,M,rfl,?_⟩⟩;have hcor:=yOb (.alt os) 1;have e1:lyP (.alt os) 1=lyA os (Lay.no 1):=by simp only[lyP]
  rw[e1]at hcor;have hnx:(lyA os (Lay.no 1)).nx≤256:=by have h8:=nx_A os (Lay.no 1);have h9:=HGr.2;simp only[Lay.no]at h8;simp only[Lay.no];omega
  have hM5:yK7 w5 W4.heap.size w5.heap.size M n.s:=⟨_,_,_,_,_,_,_,os,nn,HGr.1,HG.out hP0.out,H5.1,⟨0,StI.made H5.2.1⟩,fun b p hp=>(hcor.spt.tk p _ hp).2,hcor.spt.le,hnx,hlp,hlm.2,hlg.2,hlp2,fun s=>by
   have:=yTw os hnx s
   exact this⟩
  have h9:=hM5.chg hc6 (fun k q z=>by have:=z.1;omega) (fun q z=>by have:=HT.1.lt;omega);rw[hs6];exact h9.wide (by omega) (Nat.le_refl _) (by have:=HT.1.lt;omega)
 have HB6:Hid (yA W6 w.heap.size 111 8 (w.heap.size+1+1) (yCo n (some ⟨M,0,none⟩))):=by rw[hW6];exact hB5.2.1.set 7 _
 have HE2:Hid (CteP n w (.returned (.agg #[.int .i64 n.kind,.string n.s,.bool n.hi,.string n.t,.int .u64 n.lo,.int .u64 n.up,.int .i64 n.n,.pointer (some ⟨M,0,none⟩)])) (set8 W6 (w.heap.size+1) n (some ⟨M,0,none⟩))∧yA (set8 W6 (w.heap.size+1) n (some ⟨M,0,none⟩)) w.heap.size 111 8 (w.heap.size+1) (yCo n (some ⟨M,0,none⟩))):=HF.out W6 (some ⟨M,0,none⟩) HBx.1 HBx.2.1 HBx.2.2.1 HBx.2.2.2;clear hlm hlg hlp hlp2 hz4 hc6 hs6 H5 hB5;go_upto_region 9 with fail;rw[←hW6];clear hW6 q7 g7 a0;obtain⟨W9,hW9⟩:=qE (set8 W6 (w.heap.size+1) n (some ⟨M,0,none⟩));rw[←hW9]at HE2;simp only[set8]at hW9;obtain⟨m0,m1,m2,m3,m4,m5,m6,m7⟩:=HB6.c8;obtain⟨r0,r1,r2,r3,r4,r5,r6,r7⟩:=HBx.1.c8;obtain⟨f0,f1,f2,f3,f4,f5,f6,f7⟩:=HBx.1.f8;go_wp2_with fail;rw[←hW9];exact bodyPost_ret (yX3 (base:=w.heap.size) (g:=w.heap.size+1) rfl HE2.2) rfl HE2.1):p:=h
theorem zzQ1 (h:p:=by
 go_wp2_with fail;go_loopw[6,7] (fun jv nv wr=>∃(j n:Nat) (f:UInt8→Bool),j≤p.size∧n≤j∧jv=.int .i64 (j:Int)∧nv=.int .i64 (n:Int)∧yB4 (sb p) (i+1) false j (decide (0<n)) f∧wr=W0) (fun jv _ _=>p.size-(intOf jv).toNat);case atStart=>exact⟨j0,0,fun _=>false,hj0,Nat.zero_le _,congrArg (Value.int .i64) (by rw[HJ0.out];simp<;>omega),rfl,HM0.out,rfl⟩
 case round=>
  obtain⟨j,n,f,hj,hnj,rfl,rfl,hE,hwr⟩:=hrel;have HE:Hid (yB4 (sb p) (i+1) false j (decide (0<n)) f):=hE;rw[hwr];clear hE hwr HM0 HJ0 HNG;by_cases hlt:j<p.size
  ·obtain⟨x,hx⟩:∃x,(sb p)[j]?=some x:=⟨_,List.getElem?_eq_getElem (by rw[yAd];exact hlt)⟩;obtain⟨_,gx⟩:=yA4 hx;have HX:Hid ((sb p)[j]?=some x):=hx;have zj:(j:Int)<(p.size:Int):=by omega
   clear hx;by_cases hend:x=93∧0<n
   ·obtain⟨rfl,hn0⟩:=hend;have zn:(0:Int)<(n:Int):=by omega
    have HF:Hid (∃f',yAt (sb p) (i+1)=.inl (f',j+1)):=by refine⟨if false=true then fun c=> !f c else f,?_⟩;rw[HE.eq,decide_eq_true hn0,yMv HX.out]
    obtain⟨f',hf'⟩:=HF.out;have HF':Hid (yAt (sb p) (i+1)=.inl (f',j+1)):=hf';clear hf' HF;go_wp2_with fail;exact bodyPost_ret (v:=.tuple #[.int .i64 ((j+1:Nat):Int),.agg #[.int .i64 0,.int .i64 0]]) (yCe rfl rfl (HS.out (.int .i64 0) (.int .i64 0)).1) rfl ⟨.inl ⟨f',j+1,HF'.out,rfl⟩,(HS.out (.int .i64 0) (.int .i64 0)).2⟩
   ·have HG:Hid (clsM (sb p) j (decide (0<n)) f=match yB2 (sb p) j with| .inr e=>.inr e| .inl (a,b,k)=>clsM (sb p) k true (yBi f a b)):=yX4 (by rw[yAd];omega) (fun q=>hend ⟨by have h1:=q.1;rw[HX.out]at h1;exact Option.some.inj h1,by simpa using q.2⟩);obtain⟨lo,k,b,hch⟩:∃lo k b,chM (sb p) j=(lo,k,b):=⟨_,_,_,rfl⟩;have HCh:Hid (chM (sb p) j=(lo,k,b)):=hch;have hkl:b=true→k≤p.size∧j<k:=fun q=>by subst q;have:=yE7 hch;rw[yAd]at this;omega
    clear hch;have hpick:((x.toNat:Int)==93)=false∨(¬(0:Int)<(n:Int)):=by
     by_cases h93:x=93
     ·exact .inr (fun q=>hend ⟨h93,by omega⟩)
     ·exact .inl (beq_eq_false_iff_ne.2 (yCa (c:=93) h93))
    clear hend;have hpk:(((x.toNat:Int)==93)=false)∨(((x.toNat:Int)==93)=true∧n=0):=by
     rcases hpick with q|q
     ·exact .inl q
     ·cases hq:((x.toNat:Int)==93)
      ·exact .inl rfl
      ·exact .inr ⟨rfl,by omega⟩
    clear hpick;rcases hpk with h93|⟨h93,hn0⟩;case' inr=>
     have zn:¬(0:Int)<(n:Int):=by omega
     clear hn0
    all_goals
     go_wp2_with fail;refine(yEl p j W0 hp (by omega) lo k b HCh.out).mono ?_;rintro e w1 ⟨rfl,hw1⟩;rw[hw1];clear hw1;cases b
     case false=>
      have HF:Hid (yAt (sb p) (i+1)=.inr (2,k)):=by show yAt (sb p) (i+1)=_;rw[HE.eq,HG.out];unfold yB2;rw[HCh.out]
      go_wp2_with fail;exact bodyPost_ret (v:=.tuple #[.int .i64 0,.agg #[.int .i64 2,.int .i64 (k:Int)]]) (yCe rfl rfl (HS.out (.int .i64 2) (.int .i64 (k:Int))).1) rfl ⟨.inr ⟨2,k,HF.out,rfl⟩,(HS.out (.int .i64 2) (.int .i64 (k:Int))).2⟩
     obtain⟨hks,hjk⟩:=hkl rfl;clear hkl;by_cases h45:(sb p)[k]?=some 45
     ·obtain⟨hk2,gk⟩:=yA4 h45;have HK:Hid ((sb p)[k]?=some 45):=h45;have zk:(k:Int)<(p.size:Int):=by omega
      obtain⟨hh,m,b2,hch2⟩:∃hh m b2,chM (sb p) (k+1)=(hh,m,b2):=⟨_,_,_,rfl⟩;have HCh2:Hid (chM (sb p) (k+1)=(hh,m,b2)):=hch2;have hml:b2=true→m≤p.size∧k<m:=fun q=>by subst q;have:=yE7 hch2;rw[yAd]at this;omega
      clear hch2 h45;go_wp2_with fail;refine(yEl p (k+1) W0 hp (by omega) hh m b2 HCh2.out).mono ?_;rintro e w2 ⟨rfl,hw2⟩;rw[hw2];clear hw2;cases b2
      ·have HF:Hid (yAt (sb p) (i+1)=.inr (2,m)):=by show yAt (sb p) (i+1)=_;rw[HE.eq,HG.out];unfold yB2;rw[HCh.out];simp only[];rw[if_pos HK.out,HCh2.out]
       go_wp2_with fail;exact bodyPost_ret (v:=.tuple #[.int .i64 0,.agg #[.int .i64 2,.int .i64 (m:Int)]]) (yCe rfl rfl (HS.out (.int .i64 2) (.int .i64 (m:Int))).1) rfl ⟨.inr ⟨2,m,HF.out,rfl⟩,(HS.out (.int .i64 2) (.int .i64 (m:Int))).2⟩
      ·obtain⟨hms,hkm⟩:=hml rfl;clear hml;by_cases hlo:hh<lo
       ·have zlo:(hh.toNat:Int)<(lo.toNat:Int):=by have:=UInt8.lt_iff_toNat_lt.1 hlo;omega
        have HF:Hid (yAt (sb p) (i+1)=.inr (4,j)):=by show yAt (sb p) (i+1)=_;rw[HE.eq,HG.out];unfold yB2;rw[HCh.out];simp only[];rw[if_pos HK.out,HCh2.out];simp only[];rw[if_pos hlo]
        go_wp2_with fail;exact bodyPost_ret (v:=.tuple #[.int .i64 0,.agg #[.int .i64 4,.int .i64 (j:Int)]]) (yCe rfl rfl (HS.out (.int .i64 4) (.int .i64 (j:Int))).1) rfl ⟨.inr ⟨4,j,HF.out,rfl⟩,(HS.out (.int .i64 4) (.int .i64 (j:Int))).2⟩
       ·have zlo:(lo.toNat:Int)≤(hh.toNat:Int):=by have:=UInt8.le_iff_toNat_le.1 (UInt8.not_lt.1 hlo);omega
        have HF:Hid (yB4 (sb p) (i+1) false m true (yBi f lo hh)):=by show yB4 _ _ _ _ _ _;unfold yB4;rw[HE.eq,HG.out];unfold yB2;rw[HCh.out];simp only[];rw[if_pos HK.out,HCh2.out];simp only[];rw[if_neg hlo]
        clear hlo;go_wp2_with fail;go_roundw;case rel=>exact⟨m,n+1,yBi f lo hh,hms,by omega,rfl,by go_num,by rw[decide_eq_true (Nat.succ_pos n)];exact HF.out,trivial⟩
        case measure=>simp[intOf];omega
     ·have HK:Hid (¬(sb p)[k]?=some 45):=h45;have HF:Hid (yB4 (sb p) (i+1) false k true (yBi f lo lo)):=by show yB4 _ _ _ _ _ _;unfold yB4;rw[HE.eq,HG.out];unfold yB2;rw[HCh.out];simp only[];rw[if_neg HK.out]
      clear h45;by_cases hke:k<p.size
      ·obtain⟨y,hy⟩:∃y,(sb p)[k]?=some y:=⟨_,List.getElem?_eq_getElem (by rw[yAd];exact hke)⟩;obtain⟨_,gy⟩:=yA4 hy;have zk:(k:Int)<(p.size:Int):=by omega
       have zy:((y.toNat:Int)==45)=false:=beq_eq_false_iff_ne.2 (yCa (c:=45) (fun q=>HK.out (by rw[hy,q])));clear hy;go_wp2_with fail;go_roundw;case rel=>exact⟨k,n+1,yBi f lo lo,hks,by omega,rfl,by go_num,by rw[decide_eq_true (Nat.succ_pos n)];exact HF.out,trivial⟩
       case measure=>simp[intOf];omega
      ·have zk:¬(k:Int)<(p.size:Int):=by omega
       go_wp2_with fail;go_roundw;case rel=>exact⟨k,n+1,yBi f lo lo,hks,by omega,rfl,by go_num,by rw[decide_eq_true (Nat.succ_pos n)];exact HF.out,trivial⟩
       case measure=>simp[intOf];omega
  ·have HF:Hid (yAt (sb p) (i+1)=.inr (2,p.size)):=by show yAt (sb p) (i+1)=_;rw[HE.eq,clsM,dif_neg (by rw[yAd];exact hlt),yAd]
   have zj:¬(j:Int)<(p.size:Int):=by omega
   go_wp2_with fail;exact bodyPost_ret (v:=.tuple #[.int .i64 0,.agg #[.int .i64 2,.int .i64 (p.size:Int)]]) (yCe rfl rfl (HS.out (.int .i64 2) (.int .i64 (p.size:Int))).1) rfl ⟨.inr ⟨2,p.size,HF.out,rfl⟩,(HS.out (.int .i64 2) (.int .i64 (p.size:Int))).2⟩):p:=h
theorem zzQ2 (h:p:=by
 refine jS ?_;refine qO 14 rfl fun K hK=>?_;go_simp;refine hK.out _ _ (.inr HS3.out) ?_;clear hK;refine jS ?_;refine qO 15 rfl fun K hK=>?_;go_simp;refine hK.out _ _ (.inl rfl) ?_;clear hK;refine jS ?_;refine qD ?_;obtain⟨W4,hW4⟩:=qE (set4 v3 M (bn*4) (sOr (T bn) (sOne a)):World);have HW4:Hid (MtrI W4 base M (yBe T (lyP (.byte b) a)) G1 cp1 (a+1) (yA0 E (lyP (.byte b) a)) en mp∧yA W4 w.heap.size 183 8 w.heap.size zsA.toList∧Chg (fun k=>k=M∨k=G) w W4∧(G1=G∨w.heap.size≤G1)):=by
  have hc:Chg (fun k=>k=M) v3 W4:=by rw[hW4];exact yBj v3 M _ _ rfl
  have h1:MtrI W4 base M (updE T bn (sOr (T bn) (sOne a))) G1 cp1 (a+1) E en mp:=by rw[hW4,Nat.mul_comm bn 4];exact HM3.setT hlB _
  have k0:Chg (fun k=>k=M∨k=G) w W0:=Chg.of_below HW0.2.2.1;have k1:Chg (fun k=>k=M∨k=G) w1 v3:=Chg.of_below HV.out;have q0:=HW0.2.2.1.size;refine⟨h1.iff (fun c p hc hp=>?_) (fun q p hq hp=>by simp[yA0,lyP]) (fun p hp q=>by have:=h1.new p hp q;simp[yA0,lyP,this]),HB3.1.chg hc (by omega),((k0.trans H1.2.1).trans k1).trans (hc.mono (fun k q=>.inl q)),?_⟩
  ·unfold yBe updE;by_cases e:c=bn
   ·subst e;have:UInt8.ofNat c=b:=by rw[HBn.out];simp
    simp[sOr,sOne,lyP,this]
   ·have:¬UInt8.ofNat c=b:=fun q=>e (by rw[HBn.out,←q,UInt8.toNat_ofNat'];omega);rw[if_neg e];simp[lyP,this]
  ·rcases H1.2.2 with q|q
   ·exact .inl q
   ·exact .inr (by omega)
 have HSp:Hid (∀wx:World,Calls Tryz.prog 155 #[.int .i64 (a:Int)] wx fun e w'=>e=.returned (spV (sOne a) (sOne a))∧Below wx.heap.size wx w'):=fun wx=>yFg a ha wx;have hW4':W4=(((v3.setCell ⟨M,bn*4,none⟩ (.int .u64 (wdN (sOr (T bn) (sOne a)) 0:Int))).setCell ⟨M,bn*4+1,none⟩ (.int .u64 (wdN (sOr (T bn) (sOne a)) 1:Int))).setCell ⟨M,bn*4+2,none⟩ (.int .u64 (wdN (sOr (T bn) (sOne a)) 2:Int))).setCell ⟨M,bn*4+3,none⟩ (.int .u64 (wdN (sOr (T bn) (sOne a)) 3:Int)):=hW4;rw[←hW4'];clear hW4 hW4' g0 g1 g2 g3 y0 y1 y2 y3 HS0 HS3 r0;go_wp2_with fail;refine(HSp.out _).mono ?_;rintro e w5 ⟨rfl,hb5⟩;have HB5:=HW4.2.1.below hb5;obtain⟨r0,r1,r2,r3,r4,r5,r6,r7⟩:=HB5.c8;obtain⟨f0,f1,f2,f3,f4,f5,f6,f7⟩:=HB5.f8;have HF:Hid (LayR base M T G E en mp (lyP (.byte b) a) w (.returned (spV (sOne a) (sOne a))) (setSp w5 w.heap.size (sOne a) (sOne a))∧yA (setSp w5 w.heap.size (sOne a) (sOne a)) w.heap.size 183 8 w.heap.size (spL (sOne a) (sOne a))):=by have h5:=HW4.1.below hb5;have hc:Chg (fun k=>k=w.heap.size) w5 (setSp w5 w.heap.size (sOne a) (sOne a)):=yKg w5 _ _ _ rfl;have hG1:¬G1=w.heap.size:=fun q=>yAo h5.row HB5 (by decide) G1 rfl (by rw[q];rfl);refine⟨⟨G1,cp1,rfl,⟨h5.chg hc (by omega) hG1 (fun k q=>by omega),?_,HW4.2.2.2⟩⟩,HB5.setSp _ _⟩;have hx:=HW4.2.2.1.trans (Chg.of_below hb5);exact⟨hc.os.trans hx.os,hc.tape.trans hx.tape,hc.output.trans hx.output,Nat.le_trans hx.size hc.size,fun j hj hn=>(hc.block j (Nat.lt_of_lt_of_le hj hx.size) (by omega)).trans (hx.block j hj hn)⟩
 clear HB5 hb5;go_wp2_with fail;exact bodyPost_ret (v:=spV (sOne a) (sOne a)) (yEr (base:=w.heap.size) (g:=w.heap.size) rfl HF.2) rfl HF.1):p:=h
theorem zzQ3 (h:p:=by
 have zk:(1000:Int)≤(kk:Int):=by omega
 obtain⟨W9,hclr,hst9,hc9⟩:=hA.st.map.clear;have HRJ:RaJ w base M T G cp a E en mp 0 (.map []) S b7 256 W4 W9:=⟨hA.st.chgM hc9 hst9 HLp.out,hA.made.chg hc9 (yC9 hA.st.map hA.made),(Chg.of_below hA.low).trans hc9,Nat.le_trans hA.size hc9.size⟩;have hKj:W9.heap[Dd]?=some (.deferred (some [])):=by
  have hl:Dd<W.heap.size:=(Array.getElem?_eq_some_iff.1 hK).1;rw[hc9.block Dd hl (fun q=>by
   obtain⟨⟨es,c,h1,_⟩,_⟩:=hA.st.map
   rw[←q,hK]at h1
   cases h1)]
  exact hK
 have hAd:StD W9.drew mp 0 (.map []) E en:=hst9.chg (S:=fun _=>False) (Chg.of_below ((Below.refl _ _).drew)) (fun q=>q);obtain⟨w6,hput,hst6,hc6⟩:=StI.put (S:=S) ⟨(.map []),hAd⟩ (by unfold maxLen;omega);have HA:Hid (RaJ w base M T G cp a E en mp 0 (.map []) S b7 256 W4 W9∧W9.heap[Dd]?=some (.deferred (some []))∧StI w6 mp 1000 E en∧Chg (fun k=>k=mp) W9 w6∧W4.heap.size≤Dd):=by refine⟨HRJ,hKj,hst6.mono (by omega),?_,hD⟩;have kd:Chg (fun k=>k=mp) W9 W9.drew:=Chg.of_below ((Below.refl _ _).drew);exact kd.trans hc6
 clear hA hK hst6 hc6 hAd m0 q0 q1 q2 q3 HRJ hKj htt hst9 hc9;gi_wp2;clear hlen hclr;have HS10:Hid (W9.drew.cell? ⟨w.heap.size,0,none⟩=some (.pointer (some ⟨M,0,none⟩))∧W9.drew.cell? ⟨M,1029,none⟩=some (.map (some mp))∧W9.drew.cell? ⟨w.heap.size+1,0,none⟩=some (.int .u64 (wdN S 0:Int))∧W9.drew.cell? ⟨w.heap.size+1,1,none⟩=some (.int .u64 (wdN S 1:Int))∧W9.drew.cell? ⟨w.heap.size+1,2,none⟩=some (.int .u64 (wdN S 2:Int))∧W9.drew.cell? ⟨w.heap.size+1,3,none⟩=some (.int .u64 (wdN S 3:Int))∧W9.drew.cell? ⟨b7,0,none⟩=some (.int .u64 (wdN (ahd E S) 0:Int))∧W9.drew.cell? ⟨b7,1,none⟩=some (.int .u64 (wdN (ahd E S) 1:Int))∧W9.drew.cell? ⟨b7,2,none⟩=some (.int .u64 (wdN (ahd E S) 2:Int))∧W9.drew.cell? ⟨b7,3,none⟩=some (.int .u64 (wdN (ahd E S) 3:Int))∧W9.drew.cell? ⟨b7,4,none⟩=some (.bool (acc en S))):=by have h:=HA.1;exact⟨h.st.ptr.cell (j:=0) rfl,h.st.mtr.map,h.st.set.cell (j:=0) rfl,h.st.set.cell (j:=1) rfl,h.st.set.cell (j:=2) rfl,h.st.set.cell (j:=3) rfl,h.made.cell (j:=0) rfl,h.made.cell (j:=1) rfl,h.made.cell (j:=2) rfl,h.made.cell (j:=3) rfl,h.made.cell (j:=4) rfl⟩
 refine wpIn_wide.2 ?_;refine wp_region_noPanic ?_;refine yAb 6 (fun wz=>wz.cell? ⟨w.heap.size,0,none⟩=some (.pointer (some ⟨M,0,none⟩))∧wz.cell? ⟨M,1029,none⟩=some (.map (some mp))∧wz.cell? ⟨w.heap.size+1,0,none⟩=some (.int .u64 (wdN S 0:Int))∧wz.cell? ⟨w.heap.size+1,1,none⟩=some (.int .u64 (wdN S 1:Int))∧wz.cell? ⟨w.heap.size+1,2,none⟩=some (.int .u64 (wdN S 2:Int))∧wz.cell? ⟨w.heap.size+1,3,none⟩=some (.int .u64 (wdN S 3:Int))∧wz.cell? ⟨b7,0,none⟩=some (.int .u64 (wdN (ahd E S) 0:Int))∧wz.cell? ⟨b7,1,none⟩=some (.int .u64 (wdN (ahd E S) 1:Int))∧wz.cell? ⟨b7,2,none⟩=some (.int .u64 (wdN (ahd E S) 2:Int))∧wz.cell? ⟨b7,3,none⟩=some (.int .u64 (wdN (ahd E S) 3:Int))∧wz.cell? ⟨b7,4,none⟩=some (.bool (acc en S))) (by kernel_rfl) ?_;refine j7a 0 HS10.out ?_;iterate 5 refine j7b HS10.out ?_
 refine qO 6 rfl fun K hK=>?_;go_simp;refine hK.out _ _ (.inl rfl) ?_;clear hK;refine jS ?_;refine qD ?_;dsimp only[NoPanic];have hp:¬mp=b7:=HA.1.st.map.ne HA.1.made;have ha2:¬mp=w.heap.size+1+1:=HA.1.st.map.ne HA.1.st.ans;have hB6:yA w6 w.heap.size 188 5 b7 (stL (ahd E S) (acc en S)):=HA.1.made.chg HA.2.2.2.1 (fun q=>hp q.symm);have hA6:=HA.1.st.ans.chg HA.2.2.2.1 (fun q=>ha2 q.symm);have r0:=hB6.cell (j:=0) rfl;have a0:=hA6.cell (j:=0) rfl;have f0:=hA6.frozen 0;have r1:=hB6.cell (j:=1) rfl;have a1:=hA6.cell (j:=1) rfl;have f1:=hA6.frozen 1;have r2:=hB6.cell (j:=2) rfl;have a2:=hA6.cell (j:=2) rfl;have f2:=hA6.frozen 2;have r3:=hB6.cell (j:=3) rfl;have a3:=hA6.cell (j:=3) rfl;have f3:=hA6.frozen 3;have r4:=hB6.cell (j:=4) rfl;have a4:=hA6.cell (j:=4) rfl;have f4:=hA6.frozen 4;obtain⟨W7,hW7⟩:=qE (set5 w6 (w.heap.size+1+1) (ahd E S) (acc en S):World);have h:=HA.1;have hc7:Chg (fun k=>k=w.heap.size+1+1) w6 W7:=by rw[hW7];exact yF1 _ _ _ _ rfl
 have hLo:=HLo.out;have hM6:=h.st.mtr.box.chg HA.2.2.2.1 (fun q=>yC9 h.st.map h.st.mtr.box q);have hDm:¬Dd=mp:=fun q=>by obtain⟨⟨es,c,h1,_⟩,_⟩:=h.st.map;rw[←q,HA.2.1]at h1;cases h1
 have hKD:W7.heap[Dd]?=some (.deferred (some [])):=by have hl:Dd<W9.heap.size:=(Array.getElem?_eq_some_iff.1 HA.2.1).1;rw[hc7.block Dd (Nat.lt_of_lt_of_le hl HA.2.2.2.1.size) (by have:=HA.2.2.2.2;omega),HA.2.2.2.1.block Dd hl hDm];exact HA.2.1
 have hMm:¬M=mp:=yC9 h.st.map h.st.mtr.box;have hGm:¬G=mp:=fun q=>h.st.map.ne h.st.mtr.row q.symm;have hMa:¬M=w.heap.size+1+1:=fun q=>yAo h.st.mtr.box h.st.ans (by decide) M rfl (by rw[q];rfl);have hGa:¬G=w.heap.size+1+1:=fun q=>yAo h.st.mtr.row h.st.ans (by decide) G rfl (by rw[q];rfl);have hbp:base≤mp:=HLp.out;have hc8:Chg (fun k=>k=Dd) W7 (W7.putObj Dd (.deferred none)):=Chg.of_grown (grownBy_putObj' W7 Dd _) (fun j q=>by cases q;rfl);have hDd:=HA.2.2.2.2;have HF:Hid (StQ base M T G cp a E en mp S w (.returned (stV (ahd E S) (acc en S))) (W7.putObj Dd (.deferred none))∧yA (W7.putObj Dd (.deferred none)) w.heap.size 188 5 (w.heap.size+1+1) (stL (ahd E S) (acc en S))):=by have m6:=h.st.mtr.chg HA.2.2.2.1 hMm hGm (fun k q=>by omega);have m7:=m6.chg hc7 hMa hGa (fun k q=>by omega);have m8:=m7.chg hc8 (by omega) (by omega) (fun k q=>by omega);have hx:Chg (fun k=>k=mp) w w6:=h.low.trans HA.2.2.2.1;have hx7:=yF2 hx (hc7.mono (fun k q=>by omega));have hx8:=yF2 hx7 (hc8.mono (fun k q=>by omega));refine⟨⟨rfl,m8,(HA.2.2.1.chg hc7 ha2).chg hc8 (fun q=>hDm q.symm),hx8⟩,?_⟩;have b7':=hA6.set5 (ahd E S) (acc en S);rw[←hW7]at b7';exact b7'.chg hc8 (by omega)
 have hW7':=hW7;simp only[set5]at hW7';clear hB6 hA6 hc7 hc8 hM6;gi_wp2;rw[←hW7'];refine⟨by simp,.inl ⟨_,_,rfl,run_takeDeferred hKD,?_⟩⟩;exact⟨_,yTp (base:=w.heap.size) (g:=w.heap.size+1+1) rfl HF.2,HF.1⟩):p:=h
theorem zzQ4 (h:p:=by
 clear hx1 hng hj0;go_enter Tryz.func185,Tryz.ntmps185;go_wp2_with fail;go_loopw[5,7] (fun jv inv wr=>∃(j:Nat) (it gb:Bool),j≤q.size∧jv=.int .i64 (j:Int)∧inv=.bool gb∧Hid (∃g:UInt8→Bool,g b=gb∧clsM (sb q) j it g=.inl (f0,q.size))∧wr=w) (fun jv _ _=>q.size-(intOf jv).toNat);case atStart=>exact⟨_,false,false,by omega,by first|rfl|go_num,rfl,⟨fun _=>false,rfl,HC0.out⟩,rfl⟩
 case round=>
  obtain⟨j,it,gb,hj,rfl,rfl,HC,hwr⟩:=hrel;rw[hwr];clear hwr;obtain⟨g,hg,hC⟩:=HC.out;have HG:Hid (g b=gb):=hg;rcases yU4 hC with⟨h93,_,hf,hn⟩|⟨x,lo,k1,hx,hx93,hch,hk1,y,hy,hrest⟩
  ·obtain⟨_,gx⟩:=yA4 h93;have zj:(j:Int)<(q.size:Int):=by have:=yAs h93;rw[yAd]at this;omega
   have HF:Hid (gb=f0 b):=by show gb=_;rw[←HG.out,hf]
   clear hC hg hf hn h93 HC0 HC;go_wp2_with fail;go_ret;exact⟨by rw[HF.out,HFn.out b];cases f0 b<;>rfl,rfl⟩
  ·obtain⟨_,gx⟩:=yA4 hx;obtain⟨_,gy⟩:=yA4 hy;have hjl:=yAs hx;rw[yAd]at hjl hk1;have zj:(j:Int)<(q.size:Int):=by omega
   have zk:(k1:Int)<(q.size:Int):=by omega
   have hkj:=(yE7 hch).1;have z93:((x.toNat:Int)==93)=false:=beq_eq_false_iff_ne.2 (yCa (c:=93) hx93);have HCh:Hid (chM (sb q) j=(lo,k1,true)):=hch;clear hC hg hx hx93 hch hy HC0 HC;go_wp2_with fail;refine(yEl q j w hq (by omega) lo k1 true HCh.out).mono ?_;rintro e' w' ⟨rfl,hw'⟩;rw[hw'];clear hw';rcases hrest with⟨h45,hi,m,hch2,hcl⟩|⟨h45,hcl⟩
   ·have z45:((y.toNat:Int)==45)=true:=by rw[h45];rfl
    have HCh2:Hid (chM (sb q) (k1+1)=(hi,m,true)):=hch2;have hm:=(yE7 hch2);rw[yAd]at hm;have HCl:Hid (clsM (sb q) m true (fun c=>g c || (decide (lo≤c) && decide (c≤hi)))=.inl (f0,q.size)):=hcl;have HZ:Hid (((k1:Int)+1)=((k1+1:Nat):Int)):=by show _=_;omega
    clear hch2 hcl h45;go_wp2_with fail;rw[HZ.out];refine(yEl q (k1+1) w hq (by omega) hi m true HCh2.out).mono ?_;rintro e' w' ⟨rfl,hw'⟩;rw[hw'];clear hw';cases gb
    case true=>
     have HV:Hid ((g b || (decide (lo≤b) && decide (b≤hi)))=true):=by show _=_;rw[HG.out];rfl
     go_wp2_with fail;go_roundw;case rel=>exact⟨m,true,true,by omega,by first|rfl|go_num,by first|rfl|(simp;omega),⟨_,HV.out,HCl.out⟩,trivial⟩
     case measure=>simp[intOf];omega
    case false=>
     by_cases hlo:lo≤b
     ·have hd1:((lo.toNat:Int)≤(b.toNat:Int)):=by have:=UInt8.le_iff_toNat_le.1 hlo;omega
      by_cases hhi:b≤hi
      ·have hd2:((b.toNat:Int)≤(hi.toNat:Int)):=by have:=UInt8.le_iff_toNat_le.1 hhi;omega
       have HV:Hid ((g b || (decide (lo≤b) && decide (b≤hi)))=true):=by show _=_;rw[HG.out];simp[hlo,hhi]
       go_wp2_with fail;go_roundw;case rel=>exact⟨m,true,true,by omega,by first|rfl|go_num,by first|rfl|(simp;omega),⟨_,HV.out,HCl.out⟩,trivial⟩
       case measure=>simp[intOf];omega
      ·have hd2:¬((b.toNat:Int)≤(hi.toNat:Int)):=fun q=>hhi (UInt8.le_iff_toNat_le.2 (by omega));have HV:Hid ((g b || (decide (lo≤b) && decide (b≤hi)))=false):=by show _=_;rw[HG.out];simp[hhi]
       go_wp2_with fail;go_roundw;case rel=>exact⟨m,true,false,by omega,by first|rfl|go_num,by first|rfl|(simp;omega),⟨_,HV.out,HCl.out⟩,trivial⟩
       case measure=>simp[intOf];omega
     ·have hd1:¬((lo.toNat:Int)≤(b.toNat:Int)):=fun q=>hlo (UInt8.le_iff_toNat_le.2 (by omega));have HV:Hid ((g b || (decide (lo≤b) && decide (b≤hi)))=false):=by show _=_;rw[HG.out];simp[hlo]
      go_wp2_with fail;go_roundw;case rel=>exact⟨m,true,false,by omega,by first|rfl|go_num,by first|rfl|(simp;omega),⟨_,HV.out,HCl.out⟩,trivial⟩
      case measure=>simp[intOf];omega
   ·have z45:((y.toNat:Int)==45)=false:=beq_eq_false_iff_ne.2 (yCa (c:=45) h45);have HCl:Hid (clsM (sb q) k1 true (fun c=>g c || (decide (lo≤c) && decide (c≤lo)))=.inl (f0,q.size)):=hcl;clear hcl h45;cases gb
    case true=>
     have HV:Hid ((g b || (decide (lo≤b) && decide (b≤lo)))=true):=by show _=_;rw[HG.out];rfl
     go_wp2_with fail;go_roundw;case rel=>exact⟨k1,true,true,by omega,by first|rfl|go_num,by first|rfl|(simp;omega),⟨_,HV.out,HCl.out⟩,trivial⟩
     case measure=>simp[intOf];omega
    case false=>
     by_cases hlo:lo≤b
     ·have hd1:((lo.toNat:Int)≤(b.toNat:Int)):=by have:=UInt8.le_iff_toNat_le.1 hlo;omega
      by_cases hhi:b≤lo
      ·have hd2:((b.toNat:Int)≤(lo.toNat:Int)):=by have:=UInt8.le_iff_toNat_le.1 hhi;omega
       have HV:Hid ((g b || (decide (lo≤b) && decide (b≤lo)))=true):=by show _=_;rw[HG.out];simp[hlo,hhi]
       go_wp2_with fail;go_roundw;case rel=>exact⟨k1,true,true,by omega,by first|rfl|go_num,by first|rfl|(simp;omega),⟨_,HV.out,HCl.out⟩,trivial⟩
       case measure=>simp[intOf];omega
      ·have hd2:¬((b.toNat:Int)≤(lo.toNat:Int)):=fun q=>hhi (UInt8.le_iff_toNat_le.2 (by omega));have HV:Hid ((g b || (decide (lo≤b) && decide (b≤lo)))=false):=by show _=_;rw[HG.out];simp[hhi]
       go_wp2_with fail;go_roundw;case rel=>exact⟨k1,true,false,by omega,by first|rfl|go_num,by first|rfl|(simp;omega),⟨_,HV.out,HCl.out⟩,trivial⟩
       case measure=>simp[intOf];omega
     ·have hd1:¬((lo.toNat:Int)≤(b.toNat:Int)):=fun q=>hlo (UInt8.le_iff_toNat_le.2 (by omega));have HV:Hid ((g b || (decide (lo≤b) && decide (b≤lo)))=false):=by show _=_;rw[HG.out];simp[hlo]
      go_wp2_with fail;go_roundw;case rel=>exact⟨k1,true,false,by omega,by first|rfl|go_num,by first|rfl|(simp;omega),⟨_,HV.out,HCl.out⟩,trivial⟩
      case measure=>simp[intOf];omega):p:=h
theorem zzQ5 (h:p:=by
 have c2_0:=H2.e.cell (j:=0) rfl;have z2_0:=H2.e.frozen 0;obtain⟨W3,hW3⟩:=qE (W2.setCell ⟨eb,0,none⟩ (.int .i64 10):World);have H3:Hid (NInv base cb bv n w eb w.heap.size (⟨10,⟨#[]⟩,false,⟨#[]⟩,0,0,0⟩:Nd) W3):=by rw[hW3];exact H2.set 0 _ _ rfl ⟨H2.sm.s,H2.sm.t,H2.sm.lo,H2.sm.up,H2.sm.n,(by show(0:Int)≤10∧(10:Int)≤100000;omega)⟩
 go_upto_region 35 with fail;rw[←hW3];clear hW3;go_wp2_with fail;refine(yAl base cb bv n 4 _ H3.d (by omega) (by omega)).mono ?_;rintro e w4 ⟨y,rfl,hy0,hy1,hd⟩;have H4w:Hid (NInv base cb bv n w eb w.heap.size (⟨10,⟨#[]⟩,false,⟨#[]⟩,0,0,0⟩:Nd) w4):=H3.call hd;clear hd;have c4_4:=H4w.e.cell (j:=4) rfl;have z4_4:=H4w.e.frozen 4;obtain⟨W5,hW5⟩:=qE (w4.setCell ⟨eb,4,none⟩ (.int .u64 y):World);have H5:Hid (NInv base cb bv n w eb w.heap.size (⟨10,⟨#[]⟩,false,⟨#[]⟩,y,0,0⟩:Nd) W5):=by rw[hW5];exact H4w.set 4 _ _ rfl ⟨H4w.sm.s,H4w.sm.t,(by show 0≤y∧y≤100000;omega),H4w.sm.up,H4w.sm.n,H4w.sm.kind⟩
 go_upto_region 36 with fail;rw[←hW5];clear hW5;go_wp2_with fail;refine(yA5 base cb bv n 2 _ H5.d (by omega) (by omega)).mono ?_;rintro e w6 ⟨v,rfl,hv,hd⟩;have H6w:Hid (NInv base cb bv n w eb w.heap.size (⟨10,⟨#[]⟩,false,⟨#[]⟩,y,0,0⟩:Nd) w6):=H5.call hd;clear hd;rcases hv with rfl|rfl
 ·have c6_2:=H6w.e.cell (j:=2) rfl;have z6_2:=H6w.e.frozen 2;obtain⟨W7,hW7⟩:=qE (w6.setCell ⟨eb,2,none⟩ (.bool true):World);have H7:Hid (NInv base cb bv n w eb w.heap.size (⟨10,⟨#[]⟩,true,⟨#[]⟩,y,0,0⟩:Nd) W7):=by rw[hW7];exact H6w.set 2 _ _ rfl ⟨H6w.sm.s,H6w.sm.t,H6w.sm.lo,H6w.sm.up,H6w.sm.n,H6w.sm.kind⟩
  go_upto_region 37 with fail;rw[←hW7];clear hW7;have cH:=H7.e.cell (j:=2) rfl;go_upto_region 38 with fail;clear cH;have HL:Hid (Calls Tryz.prog 41 #[.pointer (some ⟨cb,0,none⟩),.int .i64 4] W7.drew fun e w'=>∃x:Int,e=.returned (.int .i64 x)∧0≤x∧x<4∧Drew base cb bv n W7.drew w'):=yAl base cb bv n 4 _ H7.drew.d (by omega) (by omega);have hS0:(fun wz:World=>wz.cell? ⟨eb,4,none⟩=some (.int .u64 y)) W7.drew:=H7.drew.e.cell (j:=4) rfl;refine yAb 8 (fun wz:World=>wz.cell? ⟨eb,4,none⟩=some (.int .u64 y)) (by kernel_rfl) ?_;refine j3a 0 hS0 ?_;iterate 3 refine j3b hS0 ?_
  refine qO 4 rfl fun K hK=>?_;go_simp;refine HL.mono ?_;rintro e w8 ⟨u,rfl,hu0,hu1,hd⟩;have H8w:Hid (NInv base cb bv n w eb w.heap.size (⟨10,⟨#[]⟩,true,⟨#[]⟩,y,0,0⟩:Nd) w8):=H7.drew.call hd;clear hd HL hS0;have hS0:(fun wz:World=>wz.cell? ⟨eb,4,none⟩=some (.int .u64 y)) w8:=H8w.e.cell (j:=4) rfl;refine hK.out _ _ (.inr hS0) ?_;clear hK;refine jS ?_;refine j3a 5 hS0 ?_;iterate 2 refine j3b hS0 ?_
  have c8_5:=H8w.e.cell (j:=5) rfl;have z8_5:=H8w.e.frozen 5;obtain⟨W9,hW9⟩:=qE (w8.setCell ⟨eb,5,none⟩ (.int .u64 (y+1+u)):World);have H9:Hid (NInv base cb bv n w eb w.heap.size (⟨10,⟨#[]⟩,true,⟨#[]⟩,y,(y+1+u),0⟩:Nd) W9):=by rw[hW9];exact H8w.set 5 _ _ rfl ⟨H8w.sm.s,H8w.sm.t,H8w.sm.lo,(by show 0≤y+1+u∧y+1+u≤100000;omega),H8w.sm.n,H8w.sm.kind⟩
  refine qO 8 rfl fun K hK=>?_;go_simp;refine hK.out _ _ (.inl rfl) ?_;clear hK;refine jS ?_;refine qD ?_;have hwr:IntKind.u64.wrap (IntKind.u64.wrap (y+1)+IntKind.u64.wrap u)=y+1+u:=by rw[yYr (y+1) (by omega),yYr u (by omega),yYr _ (by omega)]
  rw[hwr,←hW9];clear hW9 hS0;go_upto_region 49 with fail;obtain⟨k0,k1,k2,k3,k4,k5,k6⟩:=H9.e.c7;obtain⟨l0,l1,l2,l3,l4,l5,l6⟩:=H9.r.c7;have lf:=H9.r.frozen;obtain⟨WF,hWF⟩:=qE (set7 W9 w.heap.size (⟨10,⟨#[]⟩,true,⟨#[]⟩,y,(y+1+u),0⟩:Nd):World);have hfin:=H9.fin;rw[←hWF]at hfin;obtain⟨hB9,HR⟩:=hfin;obtain⟨p0,p1,p2,p3,p4,p5,p6⟩:=hB9.c7;have HRH:Hid (LefP base cb bv n w (.returned (Nd.v (⟨10,⟨#[]⟩,true,⟨#[]⟩,y,(y+1+u),0⟩:Nd))) WF):=HR;clear hB9 HR;simp only[set7]at hWF;simp only at k0 k1 k2 k3 k4 k5 k6 l0 l1 l2 l3 l4 l5 l6 p0 p1 p2 p3 p4 p5 p6;go_wp2_with fail;rw[←hWF];exact bodyPost_ret (by simp[results,Tryz.results77,go_sem,p0,p1,p2,p3,p4,p5,p6]) rfl HRH.out
 ·have c6_2:=H6w.e.cell (j:=2) rfl;have z6_2:=H6w.e.frozen 2;obtain⟨W7,hW7⟩:=qE (w6.setCell ⟨eb,2,none⟩ (.bool false):World);have H7:Hid (NInv base cb bv n w eb w.heap.size (⟨10,⟨#[]⟩,false,⟨#[]⟩,y,0,0⟩:Nd) W7):=by rw[hW7];exact H6w.set 2 _ _ rfl ⟨H6w.sm.s,H6w.sm.t,H6w.sm.lo,H6w.sm.up,H6w.sm.n,H6w.sm.kind⟩
  go_upto_region 37 with fail;rw[←hW7];clear hW7;have cH:=H7.e.cell (j:=2) rfl;go_upto_region 49 with fail;clear cH;obtain⟨k0,k1,k2,k3,k4,k5,k6⟩:=H7.e.c7;obtain⟨l0,l1,l2,l3,l4,l5,l6⟩:=H7.r.c7;have lf:=H7.r.frozen;obtain⟨WF,hWF⟩:=qE (set7 W7 w.heap.size (⟨10,⟨#[]⟩,false,⟨#[]⟩,y,0,0⟩:Nd):World);have hfin:=H7.fin;rw[←hWF]at hfin;obtain⟨hB9,HR⟩:=hfin;obtain⟨p0,p1,p2,p3,p4,p5,p6⟩:=hB9.c7;have HRH:Hid (LefP base cb bv n w (.returned (Nd.v (⟨10,⟨#[]⟩,false,⟨#[]⟩,y,0,0⟩:Nd))) WF):=HR;clear hB9 HR;simp only[set7]at hWF;simp only at k0 k1 k2 k3 k4 k5 k6 l0 l1 l2 l3 l4 l5 l6 p0 p1 p2 p3 p4 p5 p6;go_wp2_with fail;rw[←hWF];exact bodyPost_ret (by simp[results,Tryz.results77,go_sem,p0,p1,p2,p3,p4,p5,p6]) rfl HRH.out):p:=h
theorem zzQ6 (h:p:=by have HB:=HA.back (fun e he=>(HX.2 e he).ok) (by rw[←HN.out];exact hl) HSm.2 WP hWP;have HBH:Hid (yA WP w.heap.size 32 1 (w.heap.size+1) [.slice none 0 0]):=HB.1;obtain⟨WF,hWF⟩:=qE (WP.setCell ⟨w.heap.size+1,0,none⟩ (.slice (some ⟨g5,0,none⟩) N c5):World);have HR:Hid (WF.cell? ⟨w.heap.size+1,0,none⟩=some (.slice (some ⟨g5,0,none⟩) N c5)∧AnyP base cb bv n w (.returned (.agg #[.slice (some ⟨g5,0,none⟩) N c5])) WF):=HB.2 N WF HN.out hWF;clear HB;go_upto_region 28 with fail;rw[←hWP];clear hWP k0 k1 k2 k3 k4 k5 k6 d0 d1 d2 d3 d4 d5 d6 hfz;have r0:=HBH.cell (j:=0) rfl;have rf:=HBH.frozen 0;have p0:=HR.1;go_wp2_with fail;rw[←hWF];exact bodyPost_ret (by simp[results,Tryz.results80,go_sem,p0]) rfl HR.2):p:=h
theorem zzQ7 (h:p:=by
 have c2_0:=H2.e.cell (j:=0) rfl;have z2_0:=H2.e.frozen 0;obtain⟨W3,hW3⟩:=qE (W2.setCell ⟨eb,0,none⟩ (.int .i64 9):World);have H3:Hid (NInv base cb bv n w eb w.heap.size (⟨9,⟨#[]⟩,false,⟨#[]⟩,0,0,0⟩:Nd) W3):=by rw[hW3];exact H2.set 0 _ _ rfl ⟨H2.sm.s,H2.sm.t,H2.sm.lo,H2.sm.up,H2.sm.n,(by show(0:Int)≤9∧(9:Int)≤100000;omega)⟩
 go_upto_region 28 with fail;rw[←hW3];clear hW3;go_wp2_with fail;refine(yA9 base cb bv n 0 2 _ H3.d (by omega) (by omega) (by omega)).mono ?_;rintro e w4 ⟨s1,rfl,hs1,hd⟩;have H4w:Hid (NInv base cb bv n w eb w.heap.size (⟨9,⟨#[]⟩,false,⟨#[]⟩,0,0,0⟩:Nd) w4):=H3.call hd;clear hd;have c4_1:=H4w.e.cell (j:=1) rfl;have z4_1:=H4w.e.frozen 1;obtain⟨W5,hW5⟩:=qE (w4.setCell ⟨eb,1,none⟩ (.string s1):World);have H5:Hid (NInv base cb bv n w eb w.heap.size (⟨9,s1,false,⟨#[]⟩,0,0,0⟩:Nd) W5):=by rw[hW5];exact H4w.set 1 _ _ rfl ⟨(by show s1.size≤200000;omega),H4w.sm.t,H4w.sm.lo,H4w.sm.up,H4w.sm.n,H4w.sm.kind⟩
 go_upto_region 29 with fail;rw[←hW5];clear hW5;go_wp2_with fail;refine(yA5 base cb bv n 2 _ H5.d (by omega) (by omega)).mono ?_;rintro e w6 ⟨v,rfl,hv,hd⟩;have H6w:Hid (NInv base cb bv n w eb w.heap.size (⟨9,s1,false,⟨#[]⟩,0,0,0⟩:Nd) w6):=H5.call hd;clear hd;rcases hv with rfl|rfl
 ·have c6_2:=H6w.e.cell (j:=2) rfl;have z6_2:=H6w.e.frozen 2;obtain⟨W7,hW7⟩:=qE (w6.setCell ⟨eb,2,none⟩ (.bool true):World);have H7:Hid (NInv base cb bv n w eb w.heap.size (⟨9,s1,true,⟨#[]⟩,0,0,0⟩:Nd) W7):=by rw[hW7];exact H6w.set 2 _ _ rfl ⟨H6w.sm.s,H6w.sm.t,H6w.sm.lo,H6w.sm.up,H6w.sm.n,H6w.sm.kind⟩
  go_upto_region 30 with fail;rw[←hW7];clear hW7;have cH:=H7.e.cell (j:=2) rfl;go_upto_region 31 with fail;clear cH;have HL:Hid (Calls Tryz.prog 110 #[.pointer (some ⟨cb,0,none⟩),.int .i64 1,.int .i64 2] W7.drew fun e w'=>∃s:ByteArray,e=.returned (.string s)∧s.size≤100∧Drew base cb bv n W7.drew w'):=yA9 base cb bv n 1 2 _ H7.drew.d (by omega) (by omega) (by omega);have hS0:(fun wz:World=>wz.cell? ⟨eb,1,none⟩=some (.string s1)) W7.drew:=H7.drew.e.cell (j:=1) rfl;refine yAb 6 (fun wz:World=>wz.cell? ⟨eb,1,none⟩=some (.string s1)) (by kernel_rfl) ?_;refine j3a 0 hS0 ?_;iterate 2 refine j3b hS0 ?_
  refine qO 3 rfl fun K hK=>?_;go_simp;refine HL.mono ?_;rintro e w8 ⟨s4,rfl,hs4,hd⟩;have H8w:Hid (NInv base cb bv n w eb w.heap.size (⟨9,s1,true,⟨#[]⟩,0,0,0⟩:Nd) w8):=H7.drew.call hd;clear hd HL hS0;have hS0:(fun wz:World=>wz.cell? ⟨eb,1,none⟩=some (.string s1)) w8:=H8w.e.cell (j:=1) rfl;refine hK.out _ _ (.inr hS0) ?_;clear hK;refine jS ?_;have hcat:¬9223372036854775807<s1.size+s4.size:=by omega
  refine j3a 4 hS0 ?_;clear hcat;refine j3a 5 hS0 ?_;have c8_3:=H8w.e.cell (j:=3) rfl;have z8_3:=H8w.e.frozen 3;obtain⟨W9,hW9⟩:=qE (w8.setCell ⟨eb,3,none⟩ (.string (s1++s4)):World);have H9:Hid (NInv base cb bv n w eb w.heap.size (⟨9,s1,true,(s1++s4),0,0,0⟩:Nd) W9):=by rw[hW9];exact H8w.set 3 _ _ rfl ⟨H8w.sm.s,(by show(s1++s4).size≤300000;rw[yDd];omega),H8w.sm.lo,H8w.sm.up,H8w.sm.n,H8w.sm.kind⟩
  refine qO 6 rfl fun K hK=>?_;go_simp;refine hK.out _ _ (.inl rfl) ?_;clear hK;refine jS ?_;refine qD ?_;rw[←hW9];clear hW9 hS0;go_upto_region 49 with fail;obtain⟨k0,k1,k2,k3,k4,k5,k6⟩:=H9.e.c7;obtain⟨l0,l1,l2,l3,l4,l5,l6⟩:=H9.r.c7;have lf:=H9.r.frozen;obtain⟨WF,hWF⟩:=qE (set7 W9 w.heap.size (⟨9,s1,true,(s1++s4),0,0,0⟩:Nd):World);have hfin:=H9.fin;rw[←hWF]at hfin;obtain⟨hB9,HR⟩:=hfin;obtain⟨p0,p1,p2,p3,p4,p5,p6⟩:=hB9.c7;have HRH:Hid (LefP base cb bv n w (.returned (Nd.v (⟨9,s1,true,(s1++s4),0,0,0⟩:Nd))) WF):=HR;clear hB9 HR;simp only[set7]at hWF;simp only at k0 k1 k2 k3 k4 k5 k6 l0 l1 l2 l3 l4 l5 l6 p0 p1 p2 p3 p4 p5 p6;go_wp2_with fail;rw[←hWF];exact bodyPost_ret (by simp[results,Tryz.results77,go_sem,p0,p1,p2,p3,p4,p5,p6]) rfl HRH.out
 ·have c6_2:=H6w.e.cell (j:=2) rfl;have z6_2:=H6w.e.frozen 2;obtain⟨W7,hW7⟩:=qE (w6.setCell ⟨eb,2,none⟩ (.bool false):World);have H7:Hid (NInv base cb bv n w eb w.heap.size (⟨9,s1,false,⟨#[]⟩,0,0,0⟩:Nd) W7):=by rw[hW7];exact H6w.set 2 _ _ rfl ⟨H6w.sm.s,H6w.sm.t,H6w.sm.lo,H6w.sm.up,H6w.sm.n,H6w.sm.kind⟩
  go_upto_region 30 with fail;rw[←hW7];clear hW7;have cH:=H7.e.cell (j:=2) rfl;go_upto_region 49 with fail;clear cH;obtain⟨k0,k1,k2,k3,k4,k5,k6⟩:=H7.e.c7;obtain⟨l0,l1,l2,l3,l4,l5,l6⟩:=H7.r.c7;have lf:=H7.r.frozen;obtain⟨WF,hWF⟩:=qE (set7 W7 w.heap.size (⟨9,s1,false,⟨#[]⟩,0,0,0⟩:Nd):World);have hfin:=H7.fin;rw[←hWF]at hfin;obtain⟨hB9,HR⟩:=hfin;obtain⟨p0,p1,p2,p3,p4,p5,p6⟩:=hB9.c7;have HRH:Hid (LefP base cb bv n w (.returned (Nd.v (⟨9,s1,false,⟨#[]⟩,0,0,0⟩:Nd))) WF):=HR;clear hB9 HR;simp only[set7]at hWF;simp only at k0 k1 k2 k3 k4 k5 k6 l0 l1 l2 l3 l4 l5 l6 p0 p1 p2 p3 p4 p5 p6;go_wp2_with fail;rw[←hWF];exact bodyPost_ret (by simp[results,Tryz.results77,go_sem,p0,p1,p2,p3,p4,p5,p6]) rfl HRH.out):p:=h
theorem zzQ8 (h:p:=by clear hB9 HR;simp only[set7]at hWF;simp only at k0 k1 k2 k3 k4 k5 k6 l0 l1 l2 l3 l4 l5 l6 p0 p1 p2 p3 p4 p5 p6;go_wp2_with fail;rw[←hWF];exact bodyPost_ret (by simp[results,Tryz.results77,go_sem,p0,p1,p2,p3,p4,p5,p6]) rfl HRH.out):p:=h
theorem zzQ9 (h:p:=by
 have hMm:¬M=mp:=yC9 h.st.map h.st.mtr.box;have hGm:¬G=mp:=fun q=>h.st.map.ne h.st.mtr.row q.symm;have hMa:¬M=w.heap.size+1+1:=fun q=>yAo h.st.mtr.box h.st.ans (by decide) M rfl (by rw[q];rfl);have hGa:¬G=w.heap.size+1+1:=fun q=>yAo h.st.mtr.row h.st.ans (by decide) G rfl (by rw[q];rfl);have hbp:base≤mp:=HLp.out;have hc8:Chg (fun k=>k=Dd) W7 (W7.putObj Dd (.deferred none)):=Chg.of_grown (grownBy_putObj' W7 Dd _) (fun j q=>by cases q;rfl);have hDd:=HA.2.2.2.2;have HF:Hid (StQ base M T G cp a E en mp S w (.returned (stV (ahd E S) (acc en S))) (W7.putObj Dd (.deferred none))∧yA (W7.putObj Dd (.deferred none)) w.heap.size 188 5 (w.heap.size+1+1) (stL (ahd E S) (acc en S))):=by have m6:=h.st.mtr.chg HA.2.2.2.1 hMm hGm (fun k q=>by omega);have m7:=m6.chg hc7 hMa hGa (fun k q=>by omega);have m8:=m7.chg hc8 (by omega) (by omega) (fun k q=>by omega);have hx:Chg (fun k=>k=mp) w w6:=h.low.trans HA.2.2.2.1;have hx7:=yF2 hx (hc7.mono (fun k q=>by omega));have hx8:=yF2 hx7 (hc8.mono (fun k q=>by omega));refine⟨⟨rfl,m8,(HA.2.2.1.chg hc7 ha2).chg hc8 (fun q=>hDm q.symm),hx8⟩,?_⟩;have b7':=hA6.set5 (ahd E S) (acc en S);rw[←hW7]at b7';exact b7'.chg hc8 (by omega)
 have hW7':=hW7;simp only[set5]at hW7';clear hB6 hA6 hc7 hc8 hM6;gi_wp2;rw[←hW7'];refine⟨by simp,.inl ⟨_,_,rfl,run_takeDeferred hKD,?_⟩⟩;exact⟨_,yTp (base:=w.heap.size) (g:=w.heap.size+1+1) rfl HF.2,HF.1⟩):p:=h
theorem yYq (h:p:=by
 refine yB (i:=2) (v:=?va2) rfl (by kernel_rfl) (by kernel_rfl) (by kernel_rfl) (by kernel_rfl) (by decide) (fun _ _ _ h=>h) (Or.inl ⟨by rfl,?ya2⟩) (by simp) ?_;case ya2=>exact zzR1
 refine jS ?_;refine yB (i:=3) (v:=?va3) rfl (by kernel_rfl) (by kernel_rfl) (by kernel_rfl) (by kernel_rfl) (by decide) (fun _ _ _ h=>h) (Or.inl ⟨by rfl,?ya3⟩) (by simp) ?_;case ya3=>exact zzR1
 refine jS ?_;refine yB (i:=4) (v:=?va4) rfl (by kernel_rfl) (by kernel_rfl) (by kernel_rfl) (by kernel_rfl) (by decide) (fun _ _ _ h=>h) (Or.inl ⟨by rfl,?ya4⟩) (by simp) ?_;case ya4=>exact zzR1
 refine jS ?_;refine j9a 5 (by simp) (v:=(.int .i64 (n:Int))) ?_;refine yB (i:=6) (v:=?va6) rfl (by kernel_rfl) (by kernel_rfl) (by kernel_rfl) (by kernel_rfl) (by decide) (fun _ _ _ h=>h) (Or.inl ⟨by rfl,?ya6⟩) (by simp) ?_;case ya6=>exact zzR1
 refine jS ?_;refine yB (i:=7) (v:=?va7) rfl (by kernel_rfl) (by kernel_rfl) (by kernel_rfl) (by kernel_rfl) (by decide) (fun _ _ _ h=>h) (Or.inl ⟨by rfl,?ya7⟩) (by simp) ?_;case ya7=>exact zzR1
 refine jS ?_;refine yB (i:=8) (v:=?va8) rfl (by kernel_rfl) (by kernel_rfl) (by kernel_rfl) (by kernel_rfl) (by decide) (fun _ _ _ h=>h) (Or.inl ⟨by rfl,?ya8⟩) (by simp) ?_;case ya8=>exact zzR3
 refine jS ?_;refine qO 9 rfl fun K hK=>?_;go_simp;refine hK.out _ _ (.inl rfl) ?_;clear hK;refine jS ?_;refine qD ?_;go_wp2_with fail;refine bodyPost_ret (v:=psV (sOr S (sOne a))) (by simp[results,Tryz.results137,go_sem,HW.2]) rfl ⟨rfl,?_⟩;repeat (first|exact Below.refl _ _|refine Below.drew ?_|refine Below.alloc ?_ (by simp;done) _|refine Below.alloc ?_ (Nat.le_refl _) _|refine Below.alloc ?_ (by simp;omega) _)):p:=h
theorem zzQ11 (h:p:=by
 have heq:=yQu (stp E T Sk x);obtain⟨q0,q1,q2,q3⟩:=HW4.2.c4;cases hne:noE (stp E T Sk x)with
 |true=>
  rw[hne]at heq;have HFn:Hid ((false=true↔acc en (runS E T (sOne 0) (sb s))=true)):=by
   refine⟨fun q=>(by cases q),fun q=>?_⟩;rw[HN.2.2]at q;have hd:∀p,p<256→(stp E T Sk x) p=false:=fun p hp=>by
    cases hx:(stp E T Sk x) p with
    |false=>rfl
    |true=>have:=(yUm (stp E T Sk x)).2 ⟨p,hp,hx⟩;rw[hne]at this;cases this
   unfold acc at q;rw[List.any_eq_true]at q;obtain⟨p,hp,hx⟩:=q;rw[yNd E T _ _ hd p (List.mem_range.1 hp)]at hx;cases hx
  clear hne;go_wp2_with fail;go_ret;exact⟨false,rfl,HFn.out,HW4.1.mtr,HW4.1.map,HW4.1.chg⟩
 |false=>
  rw[hne]at heq;clear hne;have HSt:Hid (Calls Tryz.prog 138 #[.pointer (some ⟨M,0,none⟩),psV (stp E T Sk x)] W4 (StW base M T G cp a E en mp (stp E T Sk x) W4)):=yM7 (stp E T Sk x) W4 HW4.1.mtr HW4.1.map (fun p hp=>by
   unfold stp sAnd at hp
   rw[Bool.and_eq_true]at hp
   exact HT.out _ _ hp.2) ha hbm
  go_wp2_with fail;refine HSt.mono ?_;rintro e w5 ⟨rfl,H5⟩;have hne5:=HW4.1.ne;have HB5:=HW4.1.box.chg H5.2.2 (fun q=>hne5.2.2.1 q.symm);have r0:=HB5.cell (j:=0) rfl;have f0:=HB5.frozen 0;have r1:=HB5.cell (j:=1) rfl;have f1:=HB5.frozen 1;have r2:=HB5.cell (j:=2) rfl;have f2:=HB5.frozen 2;have r3:=HB5.cell (j:=3) rfl;have f3:=HB5.frozen 3;have r4:=HB5.cell (j:=4) rfl;have f4:=HB5.frozen 4;have HJ2:Hid (MaU w base M T G cp a E en mp b5 (runS E T (sOne 0) ((sb s).take (k+1))) (set5 w5 b5 (ahd E (stp E T Sk x)) (acc en (stp E T Sk x)))):=by have hc:Chg (fun j=>j=b5) w5 (set5 w5 b5 (ahd E (stp E T Sk x)) (acc en (stp E T Sk x))):=yF1 _ _ _ _ rfl;have hbl:=HW3.2;have hbs:=HI.2.2;rw[HN.1];exact⟨H5.1.chg hc hne5.1 hne5.2.1 (fun j q=>by omega),H5.2.1.chg hc hne5.2.2.1,HB5.set5 _ _,yF2 (HW4.1.chg.trans H5.2.2) (hc.mono (fun j q=>by omega))⟩
  simp only[set5]at HJ2;clear HB5;go_wp2_with fail;refine⟨⟨k+1,by omega,by go_num,HJ2⟩,?_⟩;go_light;simp[intOf];omega):p:=h
theorem zzQ12 (h:p:=by
 have hbV:Below w.heap.size w w:=Below.refl _ _;obtain⟨V1,hV1⟩:=qE (w.alloc (Obj.cells #[.int .i64 14,.string ⟨#[]⟩,.bool false,.string ⟨#[]⟩,.int .u64 0,.int .u64 0,.int .i64 0] 75):World);obtain⟨V2,hV2⟩:=qE (V1.alloc (Obj.cells #[.slice (some ⟨b0,o0,none⟩) x0.length c0,.slice (some ⟨b1,o1,none⟩) x1.length c1,.slice (some ⟨w.heap.size,0,none⟩) 1 1] 30):World);have hb1:Below w.heap.size w V1:=by rw[hV1];exact qB
 have hb2:Below V1.heap.size V1 V2:=by rw[hV2];exact qB
 have hz1:V1.heap.size=w.heap.size+1:=by rw[hV1];simp
 have hz2:V2.heap.size=w.heap.size+1+1:=by rw[hV2];simp[hz1]
 have kb:Below w.heap.size w V2:=(hbV.trans (hb1.mono hbV.size)).trans (hb2.mono (by have:=hbV.size;omega));have HCt:Hid (Calls Tryz.prog 117 #[.slice (some ⟨w.heap.size+1,0,none⟩) 3 3] V2 (NmI S y w)):=by
  have hN:yAy V2 w.heap.size 0 [yAw 14]:=by
   have h9:yAy V1 w.heap.size 0 [yAw 14]:=by rw[hV1];exact(yG2 w (yAw 14)).at
   exact h9.below hb2 (by omega)
  have hP:yOn V2 (w.heap.size+1) [x0,x1,[yAw 14]]:=by
   refine⟨by omega,fun j y hy=>?_⟩;match j,hy with
   |0,hy=>
    obtain rfl:=Option.some.inj hy;exact⟨b0,o0,c0,by rw[hV2,←hz1];simp,HO0.2.1.below kb HO0.2.2,by have:=kb.size;have:=HO0.2.2;omega⟩
   |1,hy=>
    obtain rfl:=Option.some.inj hy;exact⟨b1,o1,c1,by rw[hV2,←hz1];simp,HO1.2.1.below kb HO1.2.2,by have:=kb.size;have:=HO1.2.2;omega⟩
   |2,hy=>
    obtain rfl:=Option.some.inj hy;exact⟨w.heap.size,0,1,by rw[hV2,←hz1];simp,hN,by omega⟩
   |m+3,hy=>simp at hy
  have hc:=yFn (w.heap.size+1) 3 _ V2 hP (by simp;have:=HO0.1.len;have:=HO1.1.len;omega) rfl (by omega);refine hc.mono ?_;intro r w' hr;rw[show [x0,x1,[yAw 14]].flatten=y by rw[HY.out];simp]at hr;exact yM0 kb (by rw[HY.out];simp) hr
 rw[←hz1]at HCt;go_wp2_with fail;rw[←hV1,←hV2];clear hV1 hV2;rw[hz1]at HCt;refine HCt.mono ?_;rintro r w3 hr3;have HR3:Hid (NmI S y w r w3):=hr3;obtain⟨v3,rfl,_⟩:=hr3;go_wp2_with fail;go_ret;exact HR3.out):p:=h
theorem zzQ13 (h:p:=by
 refine j6a 0 (HS7.out _ (HBl.out _ ((Below.refl _ _).drew))) ?_;iterate 8 refine j6b (HS7.out _ (HBl.out _ ((Below.refl _ _).drew))) ?_
 refine qO 9 rfl fun K hK=>?_;go_simp;refine(HU.out _).mono ?_;rintro r v5 ⟨rfl,hb5⟩;have HV5:Hid (RaI w base M T G cp a E en mp n D S b7 k W4 v5∧Below W.heap.size W v5):=⟨HBl.out _ (((Below.refl W.heap.size W).drew).trans hb5),((Below.refl W.heap.size W).drew).trans hb5⟩;obtain⟨y0,y1,y2,y3⟩:=HV5.1.made.c4;obtain⟨o0,o1,o2,o3⟩:=HV5.1.made.f4;refine hK.out _ _ (.inr (HS7.out _ HV5.1)) ?_;clear hK hb5;refine jS ?_;refine j6a 10 (HS7.out _ HV5.1) ?_;refine qO 11 rfl fun K hK=>?_;go_simp;refine hK.out _ _ (.inl rfl) ?_;clear hK;refine jS ?_;refine qD ?_;have hc:Chg (fun j=>j=b7) v5 (set4 v5 b7 0 (sOr (ahdT E S k) (E x))):=yBj _ _ _ _ rfl;have hb7:=HR4.2;have h5:=HV5.1;have hbw:w.heap.size≤b7:=h5.made.lt.1;have hLo:=HLo.out;have hM:¬M=b7:=fun q=>yAo h5.st.mtr.box h5.made (by decide) M rfl (by rw[q];rfl);have hG:¬G=b7:=fun q=>yAo h5.st.mtr.row h5.made (by decide) G rfl (by rw[q];rfl);have hp:¬mp=b7:=h5.st.map.ne h5.made;have hgt:w.heap.size+1+1<b7:=HGt.out;refine⟨rfl,⟨Nat.le_trans HV5.2.size hc.size,fun j o hj ho _=>(hc.block j (Nat.lt_of_lt_of_le (Array.getElem?_eq_some_iff.1 ho).1 HV5.2.size) (by omega)).trans ((HV5.2.block j (Array.getElem?_eq_some_iff.1 ho).1).trans ho)⟩,?_⟩;refine⟨h5.st.chg hc hM hG hp (fun j q=>by omega),?_,Chg.below h5.low hc h5.low.size (fun j q=>by omega),Nat.le_trans h5.size hc.size⟩;rw[yVt hkx HA.2.1 HA.2.2];have h6:=yFv h5.made 0 (sOr (ahdT E S k) (E x));exact h6):p:=h
theorem zzQ14 (h:p:=by
 have z3:(k:Int)<256:=by omega
 obtain⟨v,hv⟩:∃v,(setA (fun c=>f c || (decide (a≤c) && decide (c.toNat<k)))).toList[k]?=some v:=⟨_,yGx _ k (by omega)⟩;have d0:=HR.1.cell hv;have f0:=HR.1.frozen k;have HN:Hid (yA6 (wr.setCell ⟨w.heap.size,k,none⟩ (.bool true)) w.heap.size w.heap.size (fun c=>f c || (decide (a≤c) && decide (c.toNat<k+1)))∧yA6 (wr.setCell ⟨w.heap.size,k,none⟩ (.bool true)) w.heap.size (w.heap.size+1) (fun _=>false)∧PrAt (wr.setCell ⟨w.heap.size,k,none⟩ (.bool true)) base g p k5 o∧Chg (fun k=>k=g) w (wr.setCell ⟨w.heap.size,k,none⟩ (.bool true))):=by
  refine⟨?_,yA.beside HR.2.1 (by omega) k _,yA.beside HR.2.2.1 (by omega) k _,HR.2.2.2.absorb (Chg.of_set wr w.heap.size k _ (S:=fun q=>q=w.heap.size) rfl) (fun j q=>.inr (by omega))⟩;have h5:=HR.1.set k (.bool true);rw[yQi _ k true (by omega)]at h5;have hn:(UInt8.ofNat k).toNat=k:=by rw[UInt8.toNat_ofNat'];omega
  refine yA6.ext h5 (fun c=>?_);by_cases hc:c=UInt8.ofNat k
  ·have h6:a≤c:=UInt8.le_iff_toNat_le.2 (by rw[hc,hn];exact hk0);rw[if_pos hc,decide_eq_true h6,decide_eq_true (show c.toNat<k+1 by rw[hc,hn];omega)];simp
  ·rw[if_neg hc];have h6:¬c.toNat=k:=fun q=>hc (UInt8.toNat_inj.1 (by rw[hn];exact q));rw[show decide (c.toNat<k+1)=decide (c.toNat<k)from decide_eq_decide.2 ⟨fun q=>by omega,fun q=>by omega⟩]
 clear hv HR;go_wp2_with fail;go_roundw;case rel=>exact⟨k+1,by omega,by omega,by go_num,HN.1,HN.2.1,HN.2.2.1,HN.2.2.2⟩
 case measure=>simp[intOf];omega):p:=h
theorem yV4 (h:p:=by obtain⟨WF,hWF⟩:=qE (wr.setCell ⟨w.heap.size,0,none⟩ (.slice (some ⟨g,0,none⟩) (len) cp):World);obtain⟨p0,HRes⟩:=HJ.fin (by omega) (by omega) (by omega) WF hWF;have HRH:Hid (FilP base cb bv n 1000 w (.returned (.agg #[.slice (some ⟨g,0,none⟩) (len) cp])) WF):=HRes;have r0:=HJ.res.cell (j:=0) rfl;have rf:=HJ.res.frozen 0;clear HRes;go_wp2_with fail;rw[←hWF];exact bodyPost_ret (by simp[results,Tryz.results79,go_sem,p0]) rfl HRH.out):p:=h
theorem yYp (h:p:=by have p0:=HR.1;go_wp2_with fail;rw[←hWF];exact bodyPost_ret (by simp[results,Tryz.results80,go_sem,p0]) rfl HR.2):p:=h
theorem yV3 (h:p:=by have hfd:=yQo c k;go_wp2_with fail;refine(HC.out _).mono ?_;rintro r w2 ⟨rfl,hb2⟩;have hs1:=hb1.size;have HK:Hid (Below w.heap.size w w2):=(HW0.2.trans (hb1.mono hbw)).trans (hb2.mono (by omega));clear hb1 hb2 d0 d1 d2 d3 d4 d5 d6;go_wp2_with fail;go_ret;refine⟨_,rfl,?_,HK.out⟩;have hG:=HG.out;have hB:=HB.out;simp at hB;rw[HV.out];simp[yAe];simp_all):p:=h
theorem yGq (h:p:=by go_wp2_with fail;go_ret;exact⟨_,rfl,by simp[HF.out],HW0.2.trans (hb1.mono hbw)⟩):p:=h
theorem yRt (h:p:=by
 rcases h.2 with⟨h0,_⟩|⟨g',cap',cur,hv,_,_,hn,hcap,_,_⟩
 ·cases h0
 ·simp only[Value.slice.injEq,Option.some.injEq,Addr.mk.injEq,and_true,true_and]at hv;obtain⟨rfl,rfl⟩:=hv;exact⟨hn,hcap⟩):p:=h
theorem zzQ20 (h:p:=by refine wpQuiet_nil ?_;rintro w1 ⟨⟨wx,hb1⟩,rfl⟩;have HJ1:=fin w1 hb1;clear e0 e1 HI hb1 fin HX;have b0:=HJ1.box.cell (j:=0) rfl;have r0:=HJ1.res.cell (j:=0) rfl;have rf:=HJ1.res.frozen 0;go_wp2_with fail;refine bodyPost_ret (v:=.agg #[.slice va us.length vc]) (by simp[results,Tryz.results152,go_sem,World.cell?_setCell_same _ _ _ r0]) rfl ?_;have hc:=Chg.of_set w1 w.heap.size 0 (.slice va us.length vc) (S:=fun j=>j=w.heap.size) rfl;refine⟨HJ1.chg.absorb hc (fun j q=>.inr (by omega)),.inl ⟨k,ts,_,HJ1.ok,HE.out,rfl,?_,yA.chg HJ1.rd hc (by omega)⟩⟩;refine(HJ1.row.seq HJ1.len (R:=fun j=>w.heap.size+2≤j) (fun i x t hx ht=>(HJ1.nodes i x t hx ht).move (S:=fun _=>False) (Chg.refl _ _) (fun _ q=>q.elim) (fun _ _ q=>q.1)) (fun j hj=>(World.ownsRow.lt HJ1.row j hj).1)).move hc (fun j q=>by subst q;exact fun z=>by omega) (fun j hj z=>⟨by omega,by have:=hc.size;omega⟩)):p:=h
theorem yRs (h:p:=by
 clear hO' hgr d0 d1 d2 d3 d4;go_wp2_with fail;go_roundw;case rel=>exact⟨i+1,g',cp',m+1,by omega,by go_num,rfl,HN.out⟩
 case measure=>go_light;simp[intOf];omega):p:=h
theorem yRr (h:p:=by rintro e w1 ⟨rfl,hb1⟩;have HE:Hid (Below w.heap.size w w1):=HW2.trans (hb1.mono HW2.size);clear hb1;go_wp2_with fail;go_ret;exact⟨by rw[hv];rfl,HE.out⟩):p:=h
theorem zzQ23 (h:p:=by
 obtain⟨WF,hWF⟩:=qE (w8.setCell ⟨w.heap.size,0,none⟩ (.slice (some ⟨g,0,none⟩) N cp):World);have HR:Hid (WF.cell? ⟨w.heap.size,0,none⟩=some (.slice (some ⟨g,0,none⟩) N cp)∧DmeP w (.returned (.tuple #[.agg #[.slice (some ⟨g,0,none⟩) N cp],.slice (some ⟨gl,0,none⟩) K cl])) WF):=H8.1.fin H8.2 (by rw[←HK.out];exact hL) H7.2.2.1 H7.2.2.2 N K HN.out (by rw[←HK.out]) WF hWF;have t6:w8.cell? ⟨tb,0,none⟩=some (.slice (some ⟨g,0,none⟩) N cp):=by rw[HN.out];exact H8.1.var.cell (j:=0) rfl
 have r0:=H8.1.res.cell (j:=0) rfl;have rf:=H8.1.res.frozen 0;have p0:=HR.1;go_wp2_with fail;rw[←hWF];exact bodyPost_ret (v:=.tuple #[.agg #[.slice (some ⟨g,0,none⟩) N cp],.slice (some ⟨gl,0,none⟩) K cl]) (by simp[results,Tryz.results17,go_sem,p0]) rfl HR.2):p:=h
theorem zzQ24 (h:p:=by
 obtain⟨WF,hWF⟩:=qE (w8.setCell ⟨w.heap.size,0,none⟩ (.slice (some ⟨b,o,none⟩) M c):World);have HR:Hid (WF.cell? ⟨w.heap.size,0,none⟩=some (.slice (some ⟨b,o,none⟩) M c)∧DmeP w (.returned (.tuple #[.agg #[.slice (some ⟨b,o,none⟩) M c],.slice (some ⟨gl,0,none⟩) K cl])) WF):=H8.1.fin H8.2 (by rw[←HK.out];exact hL) H7.2.2.1 H7.2.2.2 M K HM.out (by rw[←HK.out]) WF hWF;have t6:w8.cell? ⟨tb,0,none⟩=some (.slice (some ⟨b,o,none⟩) M c):=by rw[HM.out];exact H8.1.var.cell (j:=0) rfl
 have r0:=H8.1.res.cell (j:=0) rfl;have rf:=H8.1.res.frozen 0;have p0:=HR.1;go_wp2_with fail;rw[←hWF];exact bodyPost_ret (v:=.tuple #[.agg #[.slice (some ⟨b,o,none⟩) M c],.slice (some ⟨gl,0,none⟩) K cl]) (by simp[results,Tryz.results17,go_sem,p0]) rfl HR.2):p:=h
theorem zzQ25 (h:p:=by
 intro g' cp' w' hO' hgr hat;have HN:Hid (LimJ base cb bv n w eb g' cp' (len+2) w'∧w.heap.size<g'):=by
  have h8:=HJ.app HWX.1 HX.2.1 (es:= [limN,(⟨14,⟨#[]⟩,false,⟨#[]⟩,0,0,0⟩:Nd)]) (fun e he=>by simp at he;rcases he with rfl|rfl<;>first|exact yDp|exact yB6 _ (by omega)) hO' hgr hat hgw;have h9:(xs++ [limN,(⟨14,⟨#[]⟩,false,⟨#[]⟩,0,0,0⟩:Nd)]).length=len+2:=by rw[List.length_append,←HX.1];rfl
  rw[h9]at h8;refine⟨h8,?_⟩;rcases hat with q|q
  ·rw[q];exact hgw
  ·have h1:=HJ.d.c.size;have h2:=HWX.1.size;have h3:=HJ.res.lt.2;omega
 clear hO' hgr hat b0 b1 b2 b3 b4 b5 b6;go_wp2_with fail;go_roundw;case rel=>exact⟨i+1,g',cp',len+2,by omega,by go_num,rfl,⟨by omega,by omega⟩,HN.2,HN.1⟩
 case measure=>simp[intOf];omega):p:=h
theorem zzQ26 (h:p:=by
 obtain⟨W3,hW3⟩:=qE (W2.setCell ⟨wr.heap.size,2,none⟩ (.int .i64 ((x.nest:Int)+1)):World);have HK3:Hid (SoK w e WB wr.heap.size x.valid a x (x.nest+1) W3):=by rw[hW3];exact HK2.more (x.nest+1)
 go_upto_region 8 with fail;rw[←hW3];clear hW3 m0 o1 o2 o2f w2 w2f HK2;have o2:=HK3.ob.cell (j:=2) rfl;have w2:=HK3.so.whole.cell (j:=2) rfl;have w2f:=HK3.so.whole.frozen 2;obtain⟨a2,ha2⟩:=qE (max a (x.nest+1));have HFin:Hid (yAn e.kind (j+1) a2 (os.drop (j+1))=tot∧a2≤2000):=⟨fin a2 (by rw[ha2,hlv];rfl),by omega⟩;have ha3:max (a:Int) ((x.nest:Int)+1)=(a2:Int):=by omega
 clear fin hlv ha2;go_wp2_with fail;go_roundw;case rel=>
  refine⟨j+1,a2,x.valid,by go_num,by omega,HFin.2,HVn.out,HFin.1,?_⟩;exact HK3.done a2
 case measure=>simp[intOf];omega):p:=h
theorem zzQ27 (h:p:=by
 obtain⟨W3,hW3⟩:=qE (W2.setCell ⟨wr.heap.size,2,none⟩ (.int .i64 ((x.nest:Int)+1)):World);have HK3:Hid (SoK w e WB wr.heap.size false a x (x.nest+1) W3):=by rw[hW3];exact HK2.more (x.nest+1)
 go_upto_region 8 with fail;rw[←hW3];clear hW3 m0 o1 o2 o2f w2 w2f HK2;have o2:=HK3.ob.cell (j:=2) rfl;have w2:=HK3.so.whole.cell (j:=2) rfl;have w2f:=HK3.so.whole.frozen 2;obtain⟨a2,ha2⟩:=qE (max a (x.nest+1));have HFin:Hid (yAn e.kind (j+1) a2 (os.drop (j+1))=tot∧a2≤2000):=⟨fin a2 (by rw[ha2,hlv];rfl),by omega⟩;have ha3:max (a:Int) ((x.nest:Int)+1)=(a2:Int):=by omega
 clear fin hlv ha2;go_wp2_with fail;go_roundw;case rel=>
  refine⟨j+1,a2,false,by go_num,by omega,HFin.2,HVn.out,HFin.1,?_⟩;exact HK3.done a2
 case measure=>simp[intOf];omega):p:=h
theorem yV2 (h:p:=by
 refine yAv (by kernel_rfl) (by kernel_rfl) ?_;repeat (go_big_quiet_step ((go_at_call 95;exact Calls.out_of (yL6 x e hsc _))))
 refine wpQuiet_nil ?_;rintro wx ⟨⟨wy,hby⟩,rfl⟩;go_wp2_with fail;go_meet;exact⟨by rw[hh],hby⟩):p:=h
theorem zzQ29 (h:p:=by
 refine(HC.out W0.drew (Below.refl _ _).drew).mono ?_;rintro r w3 hr3;have HR3:Hid (NmI S y w r w3):=hr3;obtain⟨v3,rfl,_,_,hb3⟩:=hr3;obtain⟨t0,t1⟩:(fun w':World=>w'.cell? ⟨g,f,none⟩=some (.slice (some ⟨b0,o0,none⟩) x0.length c0)∧w'.cell? ⟨g,f+1,none⟩=some (.slice (some ⟨b1,o1,none⟩) x1.length c1)) w3:=by
  refine⟨?_,?_⟩
  ·rw[hb3.cell (p:=⟨g,f,none⟩) hgl,←hb0.cell (p:=⟨g,f,none⟩) hgl];exact m0
  ·rw[hb3.cell (p:=⟨g,f+1,none⟩) hgl,←hb0.cell (p:=⟨g,f+1,none⟩) hgl];exact m1
 refine hK.out _ _ (.inr ⟨t0,t1⟩) ?_;clear hK;try simp only[qA]
 refine qO 7 rfl fun K hK=>?_;go_simp;refine hK.out _ _ (.inl rfl) ?_;clear hK;try simp only[qA]
 refine qD ?_;go_wp2_with fail;go_ret;exact HR3.out):p:=h
theorem zzQ30 (h:p:=by rw[←hz1]at HCt;go_wp2_with fail;rw[←hV1,←hV2];clear hV1 hV2;rw[hz1]at HCt;refine HCt.mono ?_;rintro r w3 hr3;have HR3:Hid (NmI S y w r w3):=hr3;obtain⟨v3,rfl,_⟩:=hr3;go_wp2_with fail;go_ret;exact HR3.out):p:=h
theorem zzQ31 (h:p:=by
 intro g' cp' w' hO' hgr hat;have HN:Hid (∃P',A=P'++allC es j∧m+1=P'.length∧yE1 w' w.heap.size g' cp' (P'.map (segV b off cap))∧Below w.heap.size w w'):=by refine⟨P++ [(i,j)],HX.out,by rw[List.length_append,←HP.2.1];rfl,by rw[List.map_append];exact hO',?_⟩;have k1:=HP.2.2.2.trans (HBd.mono hbz);have k2:=k1.alloc k1.size (Obj.cells #[segV b off cap (i,j)] 28);exact k2.grown hgr k2.size (fun q hq=>by cases hq;omega)
 clear hO' hgr hat;go_wp2_with fail;go_roundw;case rel=>exact⟨j,g',cp',m+1,by omega,rfl,rfl,by have:=HE.lt;omega,HN.out⟩
 case measure=>go_light;simp[intOf];have:=HE.lt;omega):p:=h
theorem yV1 (h:p:=by have hfd:=yQo c k;go_wp2_with fail;refine(HC.out _).mono ?_;rintro r w2 ⟨rfl,hb2⟩;clear c0 c1 c2 c3 c4 c5 c6;go_wp2_with fail;go_ret;exact⟨_,rfl,by rw[HF.out];simp,HW0.2.trans (hb2.mono hbw)⟩):p:=h
theorem zzQ33 (h:p:=by
 intro g6 c6 w6 hO6 hgr6 hat6;have H6:Hid (TreP base cb bv n (3*m+1) w (.returned (.slice (some ⟨g6,0,none⟩) (A.length+B.length+C.length+1) c6)) w6):=by
  have hq:=HTl.out;refine⟨g6,c6,T++ [(⟨16,⟨#[]⟩,false,⟨#[]⟩,0,0,0⟩:Nd)],by rw[List.length_append,hq];rfl,by rw[List.length_append,hq];simp;omega,by simp,fun e he=>?_,hO6,H5.2.1.grow hgr6 (fun k q=>by cases q;exact H5.1.lt.1)⟩;rcases List.mem_append.1 he with q|q
  ·exact H8.2.2 e q
  ·simp at q;subst q;exact yB6 16 (by omega)
 clear hO6 hgr6 hat6 HW5;go_wp2_with fail;go_ret;exact H6.out):p:=h
theorem yYo (h:p:=by
 intro k hk;match k,hk with
 |0,_=>exact⟨_,by simp;rfl,by decide⟩
 |1,_=>exact⟨_,by simp;rfl,by decide⟩
 |2,_=>exact⟨_,by simp;rfl,by decide⟩
 |3,_=>exact⟨_,by simp;rfl,by decide⟩
 |4,_=>exact⟨_,by simp;rfl,by decide⟩
 |5,_=>exact⟨_,by simp;rfl,by decide⟩):p:=h
theorem zzQ35 (h:p:=by
 iterate 20 refine j1b hSd ?_
 refine qO 40 rfl fun K hK=>?_;go_simp;refine hK.out _ _ (.inr hSd) ?_;clear hK;refine jS ?_;refine qO 41 rfl fun K hK=>?_;go_simp;refine hK.out _ _ (.inl rfl) ?_;clear hK;refine jS ?_;refine qD ?_;have HJ3:=HJ2.out false (by have h1:=HV.1;have h2:=HV.2.1;have h3:=HV.2.2;unfold viaF;rw[h1,h2,h3];simp[hik,hkj]);go_wp2_with fail;go_roundw;case rel=>first|exact⟨j+1,by omega,by omega,by go_num,upd2 f i j false,HJ3⟩|exact⟨j+1,upd2 f i j false,by omega,by omega,by go_num,HJ3⟩
 case measure=>simp[intOf];omega):p:=h
theorem yYn (h:p:=by
 refine⟨h.1,?_⟩;rcases h.2 with hn|⟨g',cap',cur,hv,h1,h2,rest⟩
 ·exact .inl hn
 ·simp only[Value.slice.injEq,Option.some.injEq,Addr.mk.injEq,and_true,true_and]at hv;obtain⟨rfl,rfl⟩:=hv;exact .inr ⟨g,cap,cur,rfl,h1,by rw[hb.block g hg];exact h2,rest⟩):p:=h
theorem zzQ37 (h:p:=by
 have HF:Hid (LayR base M T G E en mp l w (.returned (spV l.fst l.lst)) (setSp w5 w.heap.size l.fst l.lst)∧yA (setSp w5 w.heap.size l.fst l.lst) w.heap.size 183 8 w.heap.size (spL l.fst l.lst)):=by obtain⟨f1,f2,f3⟩:=yHx H1.1 HB5 ((Chg.of_below HW0.2.1).trans H1.2.1) l.fst l.lst;exact⟨⟨G1,cp1,rfl,⟨f1,f3,by rcases H1.2.2 with q|q;exact .inl q;exact .inr (by omega)⟩⟩,f2⟩
 clear HB5;go_wp2_with fail;exact bodyPost_ret (v:=spV l.fst l.lst) (yEr (base:=w.heap.size) (g:=w.heap.size) rfl HF.2) rfl HF.1):p:=h
theorem yS8 (h:p:=by
 go_wp2_with fail;go_roundw;case rel=>exact⟨i+1,g,cp,m,by omega,by go_num,rfl,HN.out⟩
 case measure=>go_light;simp[intOf];omega):p:=h
theorem zzQ39 (h:p:=by
 go_upto_region 5 with fail;refine yAb 99 (fun w':World=>w'.cell? ⟨b,off+j*5+1,none⟩=some (.string x.fam)∧w'.cell? ⟨b,off+j*5+2,none⟩=some (.string x.qual)∧w'.cell? ⟨b,off+i*5+1,none⟩=some (.string c.fam)∧w'.cell? ⟨b,off+i*5+2,none⟩=some (.string c.qual)) (by kernel_rfl) ?_;refine j0a 0 hS0 ?_;iterate 23 refine j0b hS0 ?_
 refine qD ?_;go_wp2_with fail;go_roundw;case rel=>exact⟨j+1,by omega,by go_num,by rw[HN2.out];try go_num,HBd.out⟩
 case measure=>go_light;simp[intOf];omega):p:=h
theorem zzQ40 (h:p:=by
 intro j u hu;have hj:j<6:=by have:=(List.getElem?_eq_some_iff.1 hu).1;rw[yMm]at this;simpa using this
 rw[Addr.add_mid,Nat.zero_add];simp only[Nat.zero_mul,Nat.zero_add]at c0 c1 c2 c3 c4 c5;match j,hj,hu with
 |0,_,hu=>simp[yBy]at hu;rw[←hu];exact c0
 |1,_,hu=>simp[yBy]at hu;rw[←hu];exact c1
 |2,_,hu=>simp[yBy]at hu;rw[←hu];exact c2
 |3,_,hu=>simp[yBy]at hu;rw[←hu];exact c3
 |4,_,hu=>simp[yBy]at hu;rw[←hu];exact c4
 |5,_,hu=>simp[yBy]at hu;rw[←hu];exact c5):p:=h
theorem zzQ41 (h:p:=by
 have H:Hid (yAh a b=yEc a.ts b.ts):=yU0 h1 (by simp[ha,hb]);clear h1 ha hb;go_enter Tryz.func101,Tryz.ntmps101;go_wp2_with fail;refine(yBx a b _).mono ?_;rintro e w1 ⟨rfl,hb1⟩;obtain⟨hc1,hf1⟩:=yP8 hb1;have hz1:w.heap.size+1<w1.heap.size:=by have:=hb1.size;simp at this;omega
 go_wp2_with fail;refine(ySr _ _ _).mono ?_;rintro e w2 ⟨rfl,rfl⟩;go_wp2_with fail;go_ret;exact⟨yL9 H.symm,((qB).alloc (by simp) _).trans (hb1.mono (by simp;omega))⟩):p:=h
theorem zzQ42 (h:p:=by rintro k A B row hA hg hr;have hc:Chg (fun j=>row=some j) A B:=Chg.of_grown hg (fun j q=>q);have hl:∀j,row=some j→W4.heap.size≤j:=fun j q=>(hr j q).1;have hLo:=HLo.out;have hb7:=HR4.2;exact⟨hA.st.chg hc (fun q=>by have:=hl _ q;omega) (fun q=>by have:=hl _ q;omega) (fun q=>by have:=hl _ q;omega) (fun j q=>by have:=hl _ q;omega),hA.made.chg hc (fun q=>by have:=hl _ q;omega),Chg.below hA.low hc hA.low.size (fun j q=>by have:=hl _ q;omega),Nat.le_trans hA.size hc.size⟩):p:=h
theorem yS7 (h:p:=by
 intro j y hy;obtain rfl:j=0:=by have:=(List.getElem?_eq_some_iff.1 hy).1;simpa using this
 simp at hy;subst hy;simp):p:=h
theorem zzQ44 (h:p:=by
 intro g' cp' w' hO' hgr;have HN:Hid (yM3 es (q+1+1) (0+1)∧m+1=(leafG n [] (es.take (q+1+1))).length∧VsJ w b off cap es g' cp' (leafG n [] (es.take (q+1+1))) w'):=by rw[HSt.out];exact⟨HCt.out,by rw[List.length_append,←HKm.out];rfl,(HB2.1.move (qB)).push hO' hgr⟩
 clear hO' hgr d0 d1 d2 d3 d4;go_wp2_with fail;go_roundw;case rel=>exact⟨q+1+1,g',cp',m+1,0+1,by omega,by go_num,rfl,by go_num,by omega,HN.out⟩
 case measure=>go_light;simp[intOf];omega):p:=h
theorem yRq (h:p:=by go_wp2_with fail;go_ret;exact⟨_,rfl,by rw[HF.out];simp;omega,HW0.2.trans (hb1.mono hbw)⟩):p:=h
theorem yS6 (h:p:=by
 go_enter Tryz.func87,Tryz.ntmps87;go_wp2_with fail;all_goals go_ret
 all_goals exact⟨_,rfl,by simp_all,qB⟩):p:=h
theorem zzQ47 (h:p:=by
 by_cases hgt:a<os1.nest+1
 ·have zg:(a:Int)<(os1.nest:Int)+1:=by omega
  go_wp2_with fail;go_roundw;case rel=>exact⟨j+1,os1.nest+1,by go_num,by go_num,by omega,by omega,HFin.out _ (by omega),HJ2.out⟩
  case measure=>simp[intOf];omega
 ·have zg:¬(a:Int)<(os1.nest:Int)+1:=by omega
  go_wp2_with fail;go_roundw;case rel=>exact⟨j+1,a,by go_num,rfl,by omega,by omega,HFin.out _ (by omega),HJ2.out⟩
  case measure=>simp[intOf];omega):p:=h
theorem yYm (h:p:=by go_wp2_with fail;go_ret;exact⟨yL9 H.symm,((qB).alloc (by simp) _).trans (hb1.mono (by simp;omega))⟩):p:=h
theorem zzQ49 (h:p:=by
 obtain⟨fn,tmps,assign,body,hy,hRy⟩:=HY.out i j wr.drew HJd.out HE.out;have hy2:segV b off cap (i,j)=.slice (some ⟨b,off+i*5,none⟩) (j-i) (cap-i):=rfl;rw[hy2]at hy;have x1:=(HR.out i wr.drew HJd.out).1;have hji:i≤j:=by omega
 gi_wp2;refine hRy.mono ?_;rintro e W3 ⟨rfl,hJ3⟩;have HJ3:Hid (J j W3):=hJ3;clear hJ3 hRy hy x1;gi_wp2;go_roundw;case rel=>exact⟨j,by omega,rfl,HJ3.out⟩
 case measure=>simp[intOf];omega):p:=h
theorem yRp (h:p:=by clear hb;go_wp2_with fail;go_ret;exact⟨_,rfl,HF.out,HW0.2.trans (hb1.mono hbw)⟩):p:=h
theorem yV0 (h:p:=by
 intro j u hu;have hj:j=0:=by have:=(List.getElem?_eq_some_iff.1 hu).1;simpa using this
 subst hj;simp at hu;rw[Addr.add_mid,←hu];exact hc):p:=h
theorem zzQ52 (h:p:=by
 intro g5 cp5 w5 hO5 hgr5;have HFi:Hid (OwnC w5 w.heap.size g5 cp5 U∧m+za+zb=U.length∧Below w.heap.size w w5):=by rw[HE.out];exact⟨by first|exact hO5|(rw[←List.append_assoc];exact hO5),by rw[←List.append_assoc,List.length_append,←HKm2.out,←HLB.out],HN2.2.2.grown hgr5 hbz2 (fun q hq=>by cases hq;omega)⟩
 clear hO5 hgr5;go_wp2_with fail;go_ret;refine⟨g5,cp5,?_,HFi.1,HFi.2.2⟩;rw[←HFi.2.1];rfl):p:=h
theorem yYl (h:p:=by rintro e w3 ⟨s,rfl,hs,hD3,hC3⟩;have H3:Hid (yAf base cb bv n w3∧Chg (fun k=>k=cb) w w3):=⟨hD3,H1.2.trans hC3⟩;clear hD3 hC3;go_wp2_with fail;go_ret;exact⟨s,rfl,by omega,H3.1,H3.2⟩):p:=h
theorem zzQ54 (h:p:=by go_wp2_with fail;exact bodyPost_ret (v:=spV l.fst l.lst) (yEr (base:=w.heap.size) (g:=w.heap.size) rfl HF.2) rfl HF.1):p:=h
theorem yRo (h:p:=by clear hgood;go_wp2_with fail;go_ret;exact⟨_,rfl,by simp[HG.out],HW0.2⟩):p:=h
theorem zzQ56 (h:p:=by
 have HN:Hid (yM3 es (q+1+1) (0+1)∧m=(leafG n [] (es.take (q+1+1))).length∧VsJ w b off cap es g cp (leafG n [] (es.take (q+1+1))) W1.drew):=by rw[HStep.2 gq];exact⟨HCt.out,HM.out,HB2.1⟩
 clear HStep;go_wp2_with fail;go_roundw;case rel=>exact⟨q+1+1,g,cp,m,0+1,by omega,by go_num,rfl,by go_num,by omega,HN.out⟩
 case measure=>go_light;simp[intOf];omega):p:=h
theorem zzQ57 (h:p:=by rintro e a3 W3 ⟨rfl,hk3,hi3⟩;have hl3:=hk3.same _ _ (by omega) hl2 rfl;have hr:=run_endRound (P:=Tryz.prog) none hl3;rw[hrec]at hr hl3;refine⟨_,_,hr,rfl,hI.putObj _ hi3 (by omega) hl3 rfl,?_,(World.putObj_heap_other (by omega)).trans (hk3.same _ _ (Nat.le_refl _) hk2 rfl)⟩;rw[hrec];exact World.putObj_heap_same (Array.getElem?_eq_some_iff.1 hl3).1):p:=h
theorem zzQ58 (h:p:=by
 obtain rfl:k=s.size:=by omega
 have zk:¬(s.size:Int)<(s.size:Int):=by omega
 go_wp2_with fail;go_ret;refine⟨g,cp,ρ,γ,f,rfl,hcp.1,⟨HJ.1.read,(yM (τ:=fun x=>x==c) (fun i j hij hj=>?_)).iff (fun _ _ _ _=>rfl) (fun y=>by simp[Lg])⟩,HJ.2.2⟩;rw[yAd]at hj;rw[HJ.2.1 i j hij hj];by_cases e:j=i+1
 ·have h1:i<s.size:=by omega
  simp[h1]
 ·simp[e]):p:=h
theorem yVz (h:p:=by go_enter Tryz.func31,Tryz.ntmps31;go_upto_region 1 with fail;rw[←hW1];clear hW1;go_wp2_with fail;go_ret;exact HE.out):p:=h
theorem yYk (h:p:=by go_enter Tryz.func129,Tryz.ntmps129;go_wp2_with (go_at_call 150;refine(yGt _ _ _).mono ?_;rintro e w' ⟨rfl,rfl⟩);go_ret;exact⟨rfl,(qB).alloc (by simp) _⟩):p:=h
theorem yYj (h:p:=by
 by_cases h1:1≤n
 ·go_wp2_with fail;go_ret;exact⟨_,rfl,by rw[HF.out];simp;omega,HW0.2⟩
 ·go_wp2_with fail;go_ret;exact⟨_,rfl,by rw[HF.out];simp;omega,HW0.2⟩):p:=h
theorem yVy (h:p:=by go_wp2_with fail;refine⟨⟨k+1,upd2 f k (k+1) bv,by omega,by go_num,HJ2⟩,?_⟩;go_light;simp[intOf];omega):p:=h
theorem zzQ63 (h:p:=by
 have hj:=(List.getElem?_eq_some_iff.1 he).1;have:xs=xs.take j++e::xs.drop (j+1):=by
  conv=>lhs;rw[←List.take_append_drop j xs,List.drop_eq_getElem_cons hj]
  rw[show xs[j]=e from Option.some.inj ((List.getElem?_eq_getElem hj).symm.trans he)]
 rw[this,yD8,h];simp only[Option.bind_some,yB3,yR1];rw[if_pos hl];rfl):p:=h
theorem zzQ64 (h:p:=by
 go_wp2_with fail;refine HC1.mono ?_;rintro e w4 ⟨g4,cp4,rfl,H4⟩;have HE:Hid (OwnC w4 w.heap.size g4 cp4 (mean (.cond n ta tb tc) es)∧Below w.heap.size w w4):=by rw[HMe.out];exact⟨H4.1.mono HB3.size,HB3.trans (H4.2.mono HB3.size)⟩
 go_wp2_with fail;go_ret;exact⟨g4,cp4,by rw[HMe.out];rfl,HE.out⟩):p:=h
theorem yYi (h:p:=by simp only at p0 p1 p2 p3 p4 p5 hW9;go_wp2_with fail;rw[←hW9];exact bodyPost_ret (by simp[results,Tryz.results115,go_sem,p0,p1,p2,p3,p4,p5]) rfl HR):p:=h
theorem zzQ66 (h:p:=by
 have hl:=congrArg List.length h;rw[yBk hm]at hl;simp at hl;have hj:j<m:=by omega
 obtain⟨d,hd⟩:∃d,p[j]?=some d:=⟨_,List.getElem?_eq_getElem (by omega)⟩;rw[yCh (show j≤j+1 by omega) (show j+1≤m by omega),yCt hd]at h;simp at h;exact⟨by rw[hd,h.1],h.2,hj⟩):p:=h
theorem yYh (h:p:=by
 refine⟨h.1,?_⟩;rcases h.2 with hn|⟨g',cap',cur,hv,h1,rest⟩
 ·exact .inl hn
 ·exact .inr ⟨g',cap',cur,hv,Nat.le_trans hb h1,rest⟩):p:=h
theorem zzQ68 (h:p:=by
 refine⟨a.toNat,Nat.le_refl _,by omega,congrArg (Value.int .i64) (yTc a),yA6.ext HW5.1 (fun c=>?_),HW5.2.1,HI2.1,HW5.2.2⟩;by_cases q:a≤c
 ·have:=UInt8.le_iff_toNat_le.1 q;rw[decide_eq_false (show¬c.toNat<a.toNat by omega)];simp
 ·rw[decide_eq_false q];simp):p:=h
theorem zzQ69 (h:p:=by rintro e W2 ⟨⟨v,rfl⟩,hi,hl,hk⟩;exact⟨none,_,by have:=run_endLoop (P:=Tryz.prog) hl (by rw[hrec];simp);rw[hrec]at this;exact this,hdone _ _ (Nat.le_refl _) (hI.putObj _ hi (by omega) hl rfl) ((World.putObj_heap_other (by omega)).trans hk)⟩):p:=h
theorem zzQ70 (h:p:=by
 generalize hs: [s]=ss at h;cases h with
 |nil=>cases hs
 | @snoc ss os xs n ho h=>
   have e:=List.append_inj' (s₁:= []) (t₁:= [s]) hs rfl;obtain⟨e1,e2⟩:=e;subst e1;simp at e2;exact⟨xs,n,os,rfl,ho,h,e2⟩):p:=h
theorem zzQ71 (h:p:=by go_wp2_with fail;refine(HL.out _ H1.out).mono ?_;rintro e w2 ⟨f,rfl,hf,hd2⟩;have H2:Hid (DInv base cb bv n w w2∧f.small):=⟨H1.call hd2,hf⟩;clear hd2 hf;go_wp2_with fail;go_ret;exact HF.out w2 _ f H2.1 H2.2 rfl):p:=h
theorem yYg (h:p:=by subst hv;go_enter Tryz.func124,Tryz.ntmps124;go_wp2_with fail;go_ret;exact⟨rfl,(qB).alloc (by simp) _⟩):p:=h
theorem zzQ73 (h:p:=by rintro e w3 ⟨s,rfl,hs,hD3,hC3⟩;have H3:Hid (yAf base cb bv n w3∧Chg (fun k=>k=cb) w w3):=⟨hD3,(H1.2.alloc_new _).trans hC3⟩;clear hD3 hC3;go_wp2_with fail;go_ret;exact⟨s,rfl,by omega,H3.1,H3.2⟩):p:=h
theorem yYf (h:p:=by clear hb c0 c1 c2 c3 c4 c5 c6;go_wp2_with fail;go_ret;exact⟨_,rfl,HF.out,HW0.2.trans (hb2.mono hbw)⟩):p:=h
theorem zzQ75 (h:p:=by rintro e w3 ⟨s,rfl,hs,hD3,hC3⟩;have H3:Hid (yAf base cb bv n w3∧Chg (fun k=>k=cb) w w3):=⟨hD3,(H1.2.alloc_new _).trans hC3⟩;clear hD3 hC3;go_wp2_with fail;go_ret;exact⟨s,rfl,hs,H3.1,H3.2⟩):p:=h
theorem zzQ76 (h:p:=by have h1:=yCh (p:=p) (show j≤j+xs.length by omega) (show j+xs.length≤m by omega);rw[h]at h1;have h2:=List.append_inj h1 (by rw[yBk (by omega)];omega);exact⟨h2.1.symm,h2.2.symm,by omega⟩):p:=h
theorem zzQ77 (h:p:=by go_upto_region 3 with fail;go_quiet (fail);go_wp2_with fail;go_ret;exact⟨x0,rfl,hx1.1,hx1.2,HD.1.below (below_drewN (Below.refl _ _) _),HD.2.trans (Chg.of_below (below_drewN (Below.refl _ _) _))⟩):p:=h
theorem yYe (h:p:=by go_wp2_with fail;rw[←hWF];exact bodyPost_ret (by simp[results,Tryz.results42,go_sem,p0]) rfl HR.2):p:=h
theorem yYd (h:p:=by go_enter Tryz.func74,Tryz.ntmps74;go_wp2_with fail;rw[←hW2];go_ret;exact hv▸HFin.out W2 HW2.out):p:=h
theorem zzQ80 (h:p:=by
 have H2:Hid (yDv es (m+1+1)):=yFh HV.2 HKp.out HK.2.1 ho;go_wp2_with fail;go_roundw;case rel=>exact⟨m+1+1,by omega,by go_num,H.out,H2.out,hb4⟩
 case measure=>simp[intOf];omega):p:=h
theorem zzQ81 (h:p:=by
 intro k hk;match k,hk with
 |0,_=>exact⟨_,by simp;rfl,by decide⟩
 |1,_=>exact⟨_,by simp;rfl,by decide⟩
 |2,_=>exact⟨_,by simp;rfl,by decide⟩
 |3,_=>exact⟨_,by simp;rfl,by decide⟩):p:=h
theorem yYc (h:p:=by go_enter Tryz.func95,Tryz.ntmps95;go_wp2;go_ret;exact⟨by simp,(qB).alloc (by simp) _⟩):p:=h
theorem zzQ83 (h:p:=by clear hop;go_enter Tryz.func100,Tryz.ntmps100;go_wp2_with (go_at_call 128;refine(yL0 _ _).mono ?_;rintro e' w' ⟨rfl,rfl⟩);go_ret;exact⟨by rw[HL.out];rfl,rfl⟩):p:=h
theorem zzQ84 (h:p:=by
 rcases hown.2 with⟨hv,_⟩|⟨g',cap',cur,hv,h1,h2,h3⟩
 ·have:=(hnil.1 hv).1;simp at this
 ·subst hv;exact h g' cap' w' (by unfold OwnC;rw[hlen'];exact hown) hgr):p:=h
theorem zzQ85 (h:p:=by go_enter Tryz.func92,Tryz.ntmps92;go_wp2_with (go_at_call 121;refine(yJy _ _).mono ?_;rintro e' w' ⟨rfl,rfl⟩);go_ret;exact⟨by rw[HL.out];rfl,rfl⟩):p:=h
theorem zzQ86 (h:p:=by
 have zb:(200:Int)<(n:Int):=by omega
 have HF:Hid (¬yCk xs):=fun q=>by have:=q.1;have:=HN.out;omega
 go_wp2_with fail;go_ret;exact⟨_,rfl,by simp[HF.out],HW0.2⟩):p:=h
theorem zzQ87 (h:p:=by
 clear hO' hb3 HI HPt;go_wp2_with fail;go_roundw;case rel=>exact⟨i+1,g',cp',_,by omega,by go_num,rfl,rfl,HJ2.1,HJ2.2⟩
 case measure=>go_light;simp[intOf];omega):p:=h
theorem zzQ88 (h:p:=by have hj:=(List.getElem?_eq_some_iff.1 h).1;rw[List.drop_eq_getElem_cons hj,show os[j]=o from Option.some.inj ((List.getElem?_eq_getElem hj).symm.trans h)];rfl):p:=h
theorem yYb (h:p:=by go_enter Tryz.func123,Tryz.ntmps123;go_wp2;go_ret;exact⟨yL9 H.symm,rfl⟩):p:=h
theorem yYa (h:p:=by go_enter Tryz.func119,Tryz.ntmps119;go_wp2_with fail;go_ret;exact⟨rfl,rfl⟩):p:=h
theorem zzQ91 (h:p:=by
 clear hO' hgr;go_wp2_with fail;go_roundw;case rel=>exact⟨k+1,g',cp',es++ [f],by omega,by go_num,rfl,HN.2,HN.1⟩
 case measure=>go_light;simp[intOf];omega):p:=h
theorem zzQ92 (h:p:=by
 induction h with
 |nil=>exact .nil
 | @snoc ss os xs n ho h ih=>
   rw[List.length_append];refine IsT.snoc n ?_;rw[←ho,←List.length_append];exact ih):p:=h
theorem zzQ93 (h:p:=by have hi:=(List.getElem?_eq_some_iff.1 h).1;rw[List.drop_eq_getElem_cons hi,show l[i]=x from Option.some.inj ((List.getElem?_eq_getElem hi).symm.trans h)]):p:=h
theorem yY (h:p:=by go_enter Tryz.func40,Tryz.ntmps40;go_wp2_with fail;go_ret;exact⟨rfl,rfl⟩):p:=h
theorem yX9 (h:p:=by go_enter Tryz.func61,Tryz.ntmps61;go_wp2_with fail;go_ret;exact⟨rfl,rfl⟩):p:=h
theorem zzQ96 (h:p:=by refine wpQuiet_nil ?_;rintro w2 ⟨⟨wx,hb2⟩,rfl⟩;go_wp2_with fail;go_ret;exact⟨_,rfl,iffF HF.out,HW1.2.2.1.trans (hb2.mono HW1.2.2.1.size)⟩):p:=h
theorem zzQ97 (h:p:=by go_enter Tryz.func148,Tryz.ntmps148;go_wp2_with fail;refine(HS.out _).mono ?_;rintro e w1 ⟨rfl,hb1⟩;go_wp2_with fail;go_ret;exact⟨rfl,hb1⟩):p:=h
theorem zzQ98 (h:p:=by
 go_wp2_with fail;go_roundw;case rel=>exact⟨i+1,o,true,by omega,by omega,rfl,rfl,by go_num,HF.out,HB.out⟩
 case measure=>simp[intOf];omega):p:=h
theorem zzQ99 (h:p:=by
 have h0:j=p.length:=by omega
 have:yB2 p j=.inr (2,p.length):=by unfold yB2;rw[yP2 (List.getElem?_eq_none (by omega)),h0]
 rw[this]):p:=h
theorem yXu (h:p:=by
 have h1:IntKind.i64.min= -9223372036854775808:=by decide
 have h2:IntKind.i64.max=9223372036854775807:=by decide
 simp[Lit.wf,h1,h2];omega):p:=h
theorem yXt (h:p:=by
 go_wp2_with fail;go_roundw;case rel=>exact⟨k+1,_,by omega,by go_num,rfl,e1.out,H3.out⟩
 case measure=>go_light;simp[intOf];omega):p:=h
theorem yXs (h:p:=by exact(hn.mono (fun _ _ q=>yAz.mono (Nat.le_max_left _ _) q)).snoc (hm.mono (fun _ _ q=>yAz.mono (Nat.le_max_right _ _) q))):p:=h
theorem yXr (h:p:=by
 go_wp2_with fail;go_roundw;case rel=>exact⟨j+1,by go_num,by omega,by omega,HN.out,hb⟩
 case measure=>simp[intOf];omega):p:=h
theorem yXq (h:p:=by rw[List.take_add_one,he,yD8,h];simp only[Option.toList,Option.bind_some,yB3,yR1];rw[if_neg (by omega)];rfl):p:=h
theorem yXp (h:p:=by obtain⟨n,hn⟩:=h;exact⟨n,hn.mono (fun t v q=>q.mono (yI7 hc hS hl) (Nat.le_refl _)) (yI7 hc hS hl)⟩):p:=h
theorem yXo (h:p:=by clear hWF;go_wp2_with fail;rw[HWE.out];exact bodyPost_ret (by simp[results,Tryz.results79,go_sem,p0]) rfl HRH.out):p:=h
section
open Go.ChangeMaps (open_string shut_string)
structure Ent where
 row:ByteArray
 fam:ByteArray
 qual:ByteArray
 ts:Int
 kind:Int
 val:ByteArray
abbrev Ent.v (e:Ent):Value:=.agg #[.string e.row,.string e.fam,.string e.qual,.int .u64 e.ts,.int .i64 e.kind,.string e.val]
structure Ent.ok (e:Ent):Prop where
 row:e.row.size≤maxLen
 fam:e.fam.size≤maxLen
 qual:e.qual.size≤maxLen
 val:e.val.size≤maxLen
 ts:(Lit.int .u64 e.ts).wf=true
 kind:(Lit.int .i64 e.kind).wf=true
theorem yQn {a b:Bool} (h:a=b):Ending.returned (.bool a)=.returned (.bool b):=by rw[h]
theorem isE (v:ByteArray):v.toList.isEmpty=decide (v.size=0):=by rw[ByteArray.toList_eq,Bool.eq_iff_iff];simp[←ByteArray.size_data]
theorem orE (k:Int) (v:ByteArray) (h:¬k=0):(k==0 || v.toList.isEmpty)=decide (v.size=0):=by rw[isE];simp[h]
def vE (r f q:ByteArray) (k:Int) (v:ByteArray):Bool:=
 decide (1≤r.size∧r.size≤64∧1≤f.size∧f.size≤16∧q.size≤64∧v.size≤200∧0≤k∧k≤2∧(k=0∨v.size=0))
theorem yGa (r f q v:ByteArray) (t k:Int) (w:World) (hr:r.size≤maxLen) (hf:f.size≤maxLen) (hq:q.size≤maxLen) (hv:v.size≤maxLen):
  Calls Tryz.prog 93 #[.agg #[.string r,.string f,.string q,.int .u64 t,.int .i64 k,.string v]] w fun e w'=>
   e=.returned (.bool (vE r f q k v))∧Below w.heap.size w w':=by
 unfold maxLen at hr hf hq hv;go_enter Tryz.func93,Tryz.ntmps93;go_wp2;all_goals go_ret
 all_goals refine⟨yQn ?_,qB⟩
 all_goals unfold vE
 all_goals go_light
 all_goals first
  |(refine(decide_eq_true ?_).symm;omega)
  |(refine(decide_eq_false ?_).symm;omega)
  |(rw[orE _ _ ‹¬k=0›];refine decide_eq_decide.2 ⟨fun h=>?_,fun h=>?_⟩<;>omega)
theorem yK0 (r f q v:ByteArray) (t k:Int) (w:World) (hr:r.size≤maxLen) (hf:f.size≤maxLen) (hq:q.size≤maxLen) (hv:v.size≤maxLen):
  Calls Tryz.prog 58 #[.agg #[.string r,.string f,.string q,.int .u64 t,.int .i64 k,.string v]] w fun e w'=>
   e=.returned (.bool (vE r f q k v))∧Below w.heap.size w w':=by
 unfold maxLen at hr hf hq hv;go_enter Tryz.func58,Tryz.ntmps58;go_wp2;all_goals go_ret
 all_goals refine⟨yQn ?_,qB⟩
 all_goals unfold vE
 all_goals go_light
 all_goals (try simp only[beq_iff_eq,beq_eq_false_iff_ne,ne_eq]at*)
 all_goals first
  |(refine(decide_eq_true ?_).symm;omega)
  |(refine(decide_eq_false ?_).symm;omega)
  |(rw[isE];refine decide_eq_decide.2 ⟨fun h=>?_,fun h=>?_⟩<;>omega)
end
theorem yP8 {W w1:World} (hb:Below W.heap.size W w1):(∀b o,b<W.heap.size→w1.cell? ⟨b,o,none⟩=W.cell? ⟨b,o,none⟩)∧(∀b o,b<W.heap.size→w1.frozen? ⟨b,o,none⟩=W.frozen? ⟨b,o,none⟩):=
 ⟨fun b o h=>hb.cell (p:=⟨b,o,none⟩) h,fun b o h=>hb.frozen (p:=⟨b,o,none⟩) h⟩
abbrev Ent.cells (e:Ent):List Value:= [.string e.row,.string e.fam,.string e.qual,.int .u64 e.ts,.int .i64 e.kind,.string e.val]
def yBy (es:List Ent):List Value:=es.flatMap Ent.cells
theorem yDt (e:Ent) (es:List Ent):yBy (e::es)=e.cells++yBy es:=by simp[yBy]
theorem yHj (es fs:List Ent):yBy (es++fs)=yBy es++yBy fs:=by simp[yBy]
theorem yMm (es:List Ent):(yBy es).length=es.length*6:=by
 induction es with
 |nil=>rfl
 |cons e es ih=>rw[yDt,List.length_append,ih];simp;omega
theorem ySw (es:List Ent):∀(k:Nat) (e:Ent),es[k]?=some e→∀j,j<6→(yBy es)[k*6+j]?=e.cells[j]?:=by
 induction es with
 |nil=>intro k e h;simp at h
 |cons f es ih=>
  intro k e h j hj;rw[yDt];cases k with
  |zero=>
   simp at h;subst h;rw[List.getElem?_append_left (by show 0*6+j<6;omega)];simp
  |succ k=>
   simp at h;rw[List.getElem?_append_right (by show 6≤(k+1)*6+j;omega)];have:(k+1)*6+j-f.cells.length=k*6+j:=by show(k+1)*6+j-6=_;omega
   rw[this];exact ih k e h j hj
theorem ySv (es:List Ent):∀(k:Nat) (e e':Ent) (u:Value) (j:Nat),es[k]?=some e→j<6→e'.cells=e.cells.set j u→(yBy es).set (k*6+j) u=yBy (es.set k e'):=by
 induction es with
 |nil=>intro k e e' u j h;simp at h
 |cons f es ih=>
  intro k e e' u j h hj hc;rw[yDt];cases k with
  |zero=>
   simp at h;subst h;rw[List.set_append_left _ _ (by show 0*6+j<6;omega),List.set_cons_zero,yDt,hc];simp
  |succ k=>
   simp at h;rw[List.set_append_right _ _ (by show 6≤(k+1)*6+j;omega),List.set_cons_succ,yDt];have:(k+1)*6+j-f.cells.length=k*6+j:=by show(k+1)*6+j-6=_;omega
   rw[this,ih k e e' u j h hj hc]
def yA7 (w:World) (b off:Nat) (es:List Ent):Prop:=
 ∀i e,es[i]?=some e→w.cell? ⟨b,off+i*6,none⟩=some (.string e.row)∧w.cell? ⟨b,off+i*6+1,none⟩=some (.string e.fam)∧w.cell? ⟨b,off+i*6+2,none⟩=some (.string e.qual)∧
  w.cell? ⟨b,off+i*6+3,none⟩=some (.int .u64 e.ts)∧w.cell? ⟨b,off+i*6+4,none⟩=some (.int .i64 e.kind)∧w.cell? ⟨b,off+i*6+5,none⟩=some (.string e.val)
variable {B:Nat} {w':World} {es:List Ent}
theorem yA7.below {b off:Nat} (h:yA7 w b off es) (hb:Below B w w') (hlt:b<B):yA7 w' b off es:=by
 intro i e he;have:=h i e he;refine⟨?_,?_,?_,?_,?_,?_⟩;all_goals rw[hb.cell (by exact hlt)]
 ·exact this.1
 ·exact this.2.1
 ·exact this.2.2.1
 ·exact this.2.2.2.1
 ·exact this.2.2.2.2.1
 ·exact this.2.2.2.2.2
def OwnE (w:World) (base g cap:Nat) (es:List Ent):Prop:=w.ownsRow base 102 6 (.slice (some ⟨g,0,none⟩) es.length cap) es.length (yBy es)
variable {base cap:Nat}
theorem OwnE.at {g:Nat} (h:OwnE w base g cap es):yA7 w g 0 es:=by
 intro i e he;have hi:i<es.length:=(List.getElem?_eq_some_iff.1 he).1;have c:=fun j (hj:j<6)=>(World.ownsRow.cellAt h (i*6+j) (by omega)).trans (ySw es i e he j hj);refine⟨?_,?_,?_,?_,?_,?_⟩
 ·simpa using c 0 (by omega)
 ·simpa using c 1 (by omega)
 ·simpa using c 2 (by omega)
 ·simpa using c 3 (by omega)
 ·simpa using c 4 (by omega)
 ·simpa using c 5 (by omega)
theorem OwnE.lt {g:Nat} (h:OwnE w base g cap es):base≤g∧g<w.heap.size:=World.ownsRow.lt h g rfl
theorem OwnE.below {g:Nat} (h:OwnE w base g cap es) (hb:Below B w w') (hg:g<B):OwnE w' base g cap es:=by exact yYn
theorem OwnE.set {g:Nat} (h:OwnE w base g cap es) (k j:Nat) (e e':Ent) (u:Value) (hk:es[k]?=some e) (hj:j<6) (hc:e'.cells=e.cells.set j u):
  OwnE (w.setCell ⟨g,k*6+j,none⟩ u) base g cap (es.set k e'):=by
 have:=(World.ownsRow.stored h (k*6+j) u).1;rw[ySv es k e e' u j hk hj hc]at this;unfold OwnE;rw[List.length_set];exact this
theorem OwnE.put {g:Nat} (h:OwnE w base g cap es) (k:Nat) (f e:Ent) (hk:es[k]?=some f):
  OwnE ((((((w.setCell ⟨g,k*6,none⟩ (.string e.row)).setCell ⟨g,k*6+1,none⟩ (.string e.fam)).setCell ⟨g,k*6+2,none⟩ (.string e.qual)).setCell ⟨g,k*6+3,none⟩ (.int .u64 e.ts)).setCell ⟨g,k*6+4,none⟩ (.int .i64 e.kind)).setCell ⟨g,k*6+5,none⟩ (.string e.val)) base g cap (es.set k e):=by
 have hlt:k<es.length:=(List.getElem?_eq_some_iff.1 hk).1;have g1:=h.set k 0 f {f with row:=e.row} (.string e.row) hk (by omega) rfl;have g2:=g1.set k 1 {f with row:=e.row} {f with row:=e.row,fam:=e.fam} (.string e.fam) (by simp[hlt]) (by omega) rfl;have g3:=g2.set k 2 {f with row:=e.row,fam:=e.fam} {f with row:=e.row,fam:=e.fam,qual:=e.qual} (.string e.qual) (by simp[hlt]) (by omega) rfl;have g4:=g3.set k 3 {f with row:=e.row,fam:=e.fam,qual:=e.qual} {f with row:=e.row,fam:=e.fam,qual:=e.qual,ts:=e.ts} (.int .u64 e.ts) (by simp[hlt]) (by omega) rfl;have g5:=g4.set k 4 {f with row:=e.row,fam:=e.fam,qual:=e.qual,ts:=e.ts} {f with row:=e.row,fam:=e.fam,qual:=e.qual,ts:=e.ts,kind:=e.kind} (.int .i64 e.kind) (by simp[hlt]) (by omega) rfl;have g6:=g5.set k 5 {f with row:=e.row,fam:=e.fam,qual:=e.qual,ts:=e.ts,kind:=e.kind} e (.string e.val) (by simp[hlt]) (by omega) rfl;simpa only[List.set_set,Nat.add_zero]using g6
theorem Tryz.infoEnt:(Tryz.prog.info? 102).map (fun i=>(i.zero,i.size,i.bytes))=some (some (.agg #[.string ⟨#[]⟩,.string ⟨#[]⟩,.string ⟨#[]⟩,.int .u64 0,.int .i64 0,.string ⟨#[]⟩]),6,80):=by kernel_rfl
def yHm:Ent:=⟨⟨#[]⟩,⟨#[]⟩,⟨#[]⟩,0,0,⟨#[]⟩⟩
theorem OwnE.mono {base' g:Nat} (h:OwnE w base g cap es) (hb:base'≤base):OwnE w base' g cap es:=by exact yYh
theorem yK3 (h:Below w.heap.size w w') (r:Option Nat):w.grownBy w' r:=⟨h.os,h.tape,h.output,h.size,fun k hk _=>h.block k hk⟩
theorem yBf (w:World) (g o:Nat) (u:Value):w.grownBy (w.setCell ⟨g,o,none⟩ u) (some g):=by have h:Below g w (w.setCell ⟨g,o,none⟩ u):=(Below.refl g w).setCell (Nat.le_refl _) u;exact⟨h.os,h.tape,h.output,h.size,fun k hk hne=>Below.heap_setCell w ⟨g,o,none⟩ u k (fun e=>hne (by rw[e]))⟩
structure Chg (S:Nat→Prop) (w w':World):Prop where
 os:w'.os=w.os
 tape:w'.tape=w.tape
 output:w'.output=w.output
 size:w.heap.size≤w'.heap.size
 block:∀k,k<w.heap.size→¬S k→w'.heap[k]?=w.heap[k]?
theorem Chg.refl (S:Nat→Prop) (w:World):Chg S w w:=⟨rfl,rfl,rfl,Nat.le_refl _,fun _ _ _=>rfl⟩
variable {S:Nat→Prop}
theorem Chg.trans {a b c:World} (h:Chg S a b) (k:Chg S b c):Chg S a c:=
 ⟨k.os.trans h.os,k.tape.trans h.tape,k.output.trans h.output,Nat.le_trans h.size k.size,fun i hi hn=>(k.block i (Nat.lt_of_lt_of_le hi h.size) hn).trans (h.block i hi hn)⟩
variable {T:Nat→Prop}
theorem Chg.mono (h:Chg S w w') (hs:∀k,S k→T k):Chg T w w':=⟨h.os,h.tape,h.output,h.size,fun k hk hn=>h.block k hk (fun q=>hn (hs k q))⟩
theorem Chg.of_below (h:Below w.heap.size w w'):Chg S w w':=⟨h.os,h.tape,h.output,h.size,fun k hk _=>h.block k hk⟩
theorem Chg.of_grown {row:Option Nat} (h:w.grownBy w' row) (hs:∀k,row=some k→S k):Chg S w w':=
 ⟨h.os,h.tape,h.output,h.size,fun k hk hn=>h.block k hk (fun q=>hn (hs k q.symm))⟩
theorem Chg.of_set (w:World) (g o:Nat) (u:Value) (hs:S g):Chg S w (w.setCell ⟨g,o,none⟩ u):=Chg.of_grown (yBf w g o u) (fun k hk=>by cases hk;exact hs)
theorem Chg.below {a:World} (h:Below B a w) (k:Chg S w w') (hB:B≤w.heap.size) (hs:∀k,S k→B≤k):Below B a w':=
 h.trans ⟨k.os,k.tape,k.output,k.size,fun i hi=>k.block i (by omega) (fun q=>by have:=hs i q;omega)⟩
theorem Chg.cell (h:Chg S w w') {p:Addr} (hp:p.block<w.heap.size) (hn:¬S p.block):w'.cell? p=w.cell? p:=World.cell?_of_block (w:=w) (h.block p.block hp hn)
theorem Chg.frozen (h:Chg S w w') {p:Addr} (hp:p.block<w.heap.size) (hn:¬S p.block):w'.frozen? p=w.frozen? p:=World.frozen?_of_block (w:=w) (h.block p.block hp hn)
variable {n:Nat}
theorem yAo {e size:Nat} {v:Value} {xs:List Value} {base' e' size':Nat} {v':Value} {n':Nat} {xs':List Value} (h:w.ownsRow base e size v n xs) (h':w.ownsRow base' e' size' v' n' xs') (hne:e≠e'):∀k,v.ownBlock=some k→v'.ownBlock≠some k:=by
 intro k hk hk';rcases h.2 with⟨rfl,_⟩|⟨g1,cap1,cur,rfl,_,hc,_⟩
 ·simp[Value.ownBlock]at hk
 ·rcases h'.2 with⟨rfl,_⟩|⟨g2,cap2,cur2,rfl,_,hc2,_⟩
  ·simp[Value.ownBlock]at hk'
  ·simp[Value.ownBlock]at hk hk';subst hk hk';rw[hc]at hc2;simp at hc2;exact hne hc2.2
theorem yAp {e size:Nat} {v:Value} {xs:List Value} (h:w.ownsRow base e size v n xs) (hb:Chg S w w') (hn:∀k,v.ownBlock=some k→¬S k):w'.ownsRow base e size v n xs:=by
 refine⟨h.1,?_⟩;rcases h.2 with hz|⟨g,cap,cur,rfl,h1,hg,rest⟩
 ·exact .inl hz
 ·refine .inr ⟨g,cap,cur,rfl,h1,?_,rest⟩;have hlt:g<w.heap.size:=by
   rcases Nat.lt_or_ge g w.heap.size with q|q
   ·exact q
   ·rw[Array.getElem?_eq_none q]at hg;cases hg
  rw[hb.block g hlt (hn g rfl)];exact hg
def inR (lo:ByteArray) (hh:Bool) (hi row:ByteArray):Bool:= !Op.bytesLess row.toList lo.toList && (!hh || Op.bytesLess row.toList hi.toList)
theorem yIw (lo hi row:ByteArray) (hh:Bool) (w:World):
  Calls Tryz.prog 140 #[.agg #[.string lo,.bool hh,.string hi],.string row] w fun e w'=>
   e=.returned (.bool (inR lo hh hi row))∧Below w.heap.size w w':=by
 unfold inR;cases hb:Op.bytesLess row.toList lo.toList<;>cases hh
 all_goals
  go_enter Tryz.func140,Tryz.ntmps140;go_wp2;go_ret;exact⟨by simp,qB⟩
def yCv (w:World) (base:Nat) (bv:Value) (n:Nat):Prop:=
 n≤1048576∧((∃a cap,bv=.slice a 0 cap∧n=0)∨∃b off cap,bv=.slice (some ⟨b,off,none⟩) n cap∧b<base∧∀k,k<n→∃x:Int,w.cell? ⟨b,off+k,none⟩=some (.int .u8 x)∧0≤x∧x<256)
def OwnL (w:World) (base cb:Nat) (vs:List Value):Prop:=w.ownsRow base 117 3 (.slice (some ⟨cb,0,none⟩) 1 1) 1 vs
structure yAf (base cb:Nat) (bv:Value) (n:Nat) (w:World):Prop where
 own:∃(i:Nat) (h:Int),i≤n∧OwnL w base cb [bv,.int .i64 i,.int .i64 h]
 code:yCv w base bv n
 base:base≤w.heap.size
theorem yX5 (x:Int):0≤bits .and .i64 x 255∧bits .and .i64 x 255<256:=by
 have h:(BitVec.ofInt 64 x &&& BitVec.ofInt 64 255).toNat≤255:=by rw[BitVec.toNat_and];exact Nat.le_trans Nat.and_le_right (by decide)
 have e:bits .and .i64 x 255=IntKind.i64.wrap ((BitVec.ofInt 64 x &&& BitVec.ofInt 64 255).toNat:Int):=rfl;rw[e,IntKind.wrap_i64];omega
variable {bv:Value}
theorem yCv.chg (h:yCv w base bv n) (hc:Chg T w w') (hb:base≤w.heap.size) (hT:∀k,T k→base≤k):yCv w' base bv n:=by
 refine⟨h.1,?_⟩;rcases h.2 with h|⟨b,off,cap,hv,hlt,hx⟩
 ·exact .inl h
 ·refine .inr ⟨b,off,cap,hv,hlt,fun k hk=>?_⟩;obtain⟨x,h1,h2⟩:=hx k hk;exact⟨x,by rw[hc.cell (p:=⟨b,off+k,none⟩) (by show b<w.heap.size;omega) (fun q=>by have q1:base≤b:=hT _ q;omega)];exact h1,h2⟩
variable {cb:Nat}
theorem yAf.chg (h:yAf base cb bv n w) (hc:Chg T w w') (hn:¬T cb) (hT:∀k,T k→base≤k):yAf base cb bv n w':=by obtain⟨i,hh,h1,h2⟩:=h.own;exact⟨⟨i,hh,h1,yAp h2 hc (fun k q=>by simp[Value.ownBlock]at q;subst q;exact hn)⟩,h.code.chg hc h.base hT,by have:=hc.size;have:=h.base;omega⟩
theorem yAf.below (h:yAf base cb bv n w) (hb:Below w.heap.size w w'):yAf base cb bv n w':=
 h.chg (T:=fun _=>False) (Chg.of_below hb) (fun q=>q) (fun k q=>q.elim)
theorem yAf.lt (h:yAf base cb bv n w):base≤cb∧cb<w.heap.size:=by obtain⟨i,hh,h1,h2⟩:=h.own;exact World.ownsRow.lt h2 cb rfl
theorem yAf.setH {i:Nat} {hh:Int} (hi:i≤n) (h:OwnL w base cb [bv,.int .i64 i,.int .i64 hh]) (hc:yCv w base bv n) (hb:base≤w.heap.size) (h':Int):yAf base cb bv n (w.setCell ⟨cb,2,none⟩ (.int .i64 h')):=by have hl:=World.ownsRow.lt h cb rfl;refine⟨⟨i,h',hi,(World.ownsRow.stored h 2 _).1⟩,hc.chg (Chg.of_set (S:=fun k=>k=cb) w cb 2 _ rfl) hb (fun k q=>by omega),?_⟩;have:=(Chg.of_set (S:=fun k=>k=cb) w cb 2 (.int .i64 h') rfl).size;omega
theorem yAf.setI {i:Nat} {hh:Int} (hi:i+1≤n) (h:OwnL w base cb [bv,.int .i64 i,.int .i64 hh]) (hc:yCv w base bv n) (hb:base≤w.heap.size):yAf base cb bv n (w.setCell ⟨cb,1,none⟩ (.int .i64 (i+1:Nat))):=by have hl:=World.ownsRow.lt h cb rfl;refine⟨⟨i+1,hh,hi,(World.ownsRow.stored h 1 _).1⟩,hc.chg (Chg.of_set (S:=fun k=>k=cb) w cb 1 _ rfl) hb (fun k q=>by omega),?_⟩;have:=(Chg.of_set (S:=fun k=>k=cb) w cb 1 (.int .i64 (i+1:Nat)) rfl).size;omega
theorem yHl (base cb:Nat) (bv:Value) (n:Nat) (w:World) (h:yAf base cb bv n w):
  Calls Tryz.prog 78 #[.pointer (some ⟨cb,0,none⟩)] w fun e w'=>∃x:Int,e=.returned (.int .i64 x)∧0≤x∧x<256∧yAf base cb bv n w'∧Chg (fun k=>k=cb) w w':=by
 obtain⟨i,hh,hin,hO⟩:=h.own;have c0:w.cell? ⟨cb,0,none⟩=some bv:=World.ownsRow.cellAt hO 0 (by decide);have c1:w.cell? ⟨cb,1,none⟩=some (.int .i64 i):=World.ownsRow.cellAt hO 1 (by decide);have c2:w.cell? ⟨cb,2,none⟩=some (.int .i64 hh):=World.ownsRow.cellAt hO 2 (by decide);have f1:=World.ownsRow.frozenAt hO 1;have f2:=World.ownsRow.frozenAt hO 2;obtain⟨h1,hh1⟩:=qE (wrap64 (wrap64 (hh*6364136223846793005)+1442695040888963407));obtain⟨W1,hW1⟩:=qE (w.setCell ⟨cb,2,none⟩ (.int .i64 h1):World);have hC1:Chg (fun k=>k=cb) w W1:=by rw[hW1];exact Chg.of_set _ _ _ _ rfl
 have HO1:Hid (OwnL W1 base cb [bv,.int .i64 i,.int .i64 h1]):=by show OwnL W1 _ _ _;rw[hW1];exact(World.ownsRow.stored hO 2 _).1
 have hD1:yAf base cb bv n W1:=by rw[hW1];exact yAf.setH hin hO h.code h.base h1
 have HD:Hid (yAf base cb bv n W1∧Chg (fun k=>k=cb) w W1):=⟨hD1,hC1⟩;clear hD1 hC1;have hcode:=h.code;have hn:=hcode.1;clear h hO;go_enter Tryz.func78,Tryz.ntmps78;go_upto_region 2 with fail;rw[←hh1,←hW1];have d0:W1.cell? ⟨cb,0,none⟩=some bv:=World.ownsRow.cellAt HO1.out 0 (by decide);have d1:W1.cell? ⟨cb,1,none⟩=some (.int .i64 i):=World.ownsRow.cellAt HO1.out 1 (by decide);have d2:W1.cell? ⟨cb,2,none⟩=some (.int .i64 h1):=World.ownsRow.cellAt HO1.out 2 (by decide);have e1:=World.ownsRow.frozenAt HO1.out 1;clear hh1 hW1 c0 c1 c2 f1 f2;go_quiet (fail);obtain⟨x0,hx0⟩:=qE (bits BinOp.and IntKind.i64 (bits BinOp.xor IntKind.i64 (h1/8589934592) (h1/35184372088832)) 255);have hx1:0≤x0∧x0<256:=by rw[hx0];exact yX5 _
 rw[←hx0];clear hx0;rcases HD.1.code.2 with⟨a,cap,rfl,rfl⟩|⟨b,off,cap,rfl,hlt,hx⟩
 ·have z:¬(i:Int)<0:=by omega
  exact zzQ77
 ·by_cases hi:i<n
  ·obtain⟨x,hc,hxa,hxb⟩:=hx i hi;have z:(i:Int)<(n:Int):=by omega
   go_upto_region 3 with fail;go_quiet (fail);go_upto_region 4 with fail;go_quiet (fail);obtain⟨x2,hx2⟩:=qE (bits BinOp.and IntKind.i64 (x0+x) 255);have hx3:0≤x2∧x2<256:=by rw[hx2];exact yX5 _
   rw[←hx2];clear hx2;go_wp2_with fail;go_ret;refine⟨x2,rfl,hx3.1,hx3.2,?_,?_⟩
   ·have hb:=fun q=>below_drewN (Below.refl W1.heap.size W1) q;exact yAf.setI (by omega) (yAp (S:=fun _=>False) HO1.out (Chg.of_below (hb _)) (fun k _ q=>q)) (HD.1.below (hb _)).code (HD.1.below (hb _)).base
   ·exact(HD.2.trans (Chg.of_below (below_drewN (Below.refl _ _) _))).trans (Chg.of_set (S:=fun k=>k=cb) _ _ _ _ rfl)
  ·have z:¬(i:Int)<(n:Int):=by omega
   exact zzQ77
abbrev Drew (base cb:Nat) (bv:Value) (n:Nat) (w w':World):Prop:=yAf base cb bv n w'∧Chg (fun k=>k=cb) w w'
theorem yAl (base cb:Nat) (bv:Value) (n:Nat) (m:Int) (w:World) (h:yAf base cb bv n w) (hm:1≤m) (hm2:m≤1048576):
  Calls Tryz.prog 41 #[.pointer (some ⟨cb,0,none⟩),.int .i64 m] w fun e w'=>∃x:Int,e=.returned (.int .i64 x)∧0≤x∧x<m∧Drew base cb bv n w w':=by
 have HD:Hid (yAf base cb bv n w):=h;clear h;by_cases hs:m≤256
 ·go_enter Tryz.func41,Tryz.ntmps41;go_wp2_with fail;refine(yHl base cb bv n _ HD.out).mono ?_;rintro e w1 ⟨x,rfl,hx0,hx1,hD1,hC1⟩;have H1:Hid (yAf base cb bv n w1∧Chg (fun k=>k=cb) w w1):=⟨hD1,hC1⟩;clear hD1 hC1;go_wp2;go_ret;exact⟨x%m,rfl,Int.emod_nonneg _ (by omega),Int.emod_lt_of_pos _ (by omega),H1.1,H1.2⟩
 ·go_enter Tryz.func41,Tryz.ntmps41;go_wp2_with fail;refine(yHl base cb bv n _ HD.out).mono ?_;rintro e w1 ⟨x,rfl,hx0,hx1,hD1,hC1⟩;have H1:Hid (yAf base cb bv n w1∧Chg (fun k=>k=cb) w w1):=⟨hD1,hC1⟩;clear hD1 hC1;go_wp2_with fail;refine(yHl base cb bv n _ H1.1).mono ?_;rintro e w2 ⟨y,rfl,hy0,hy1,hD2,hC2⟩;have H2:Hid (yAf base cb bv n w2∧Chg (fun k=>k=cb) w w2):=⟨hD2,H1.2.trans hC2⟩;clear hD2 hC2;go_wp2_with fail;refine(yHl base cb bv n _ H2.1).mono ?_;rintro e w3 ⟨z,rfl,hz0,hz1,hD3,hC3⟩;have H3:Hid (yAf base cb bv n w3∧Chg (fun k=>k=cb) w w3):=⟨hD3,H2.2.trans hC3⟩;clear hD3 hC3;go_wp2;go_ret;exact⟨(x*65536+y*256+z)%m,rfl,Int.emod_nonneg _ (by omega),Int.emod_lt_of_pos _ (by omega),H3.1,H3.2⟩
theorem yA5 (base cb:Nat) (bv:Value) (n:Nat) (m:Int) (w:World) (h:yAf base cb bv n w) (hm:1≤m) (hm2:m≤1048576):
  Calls Tryz.prog 38 #[.pointer (some ⟨cb,0,none⟩),.int .i64 m] w fun e w'=>∃v:Value,e=.returned v∧(v=.bool true∨v=.bool false)∧Drew base cb bv n w w':=by
 have HD:Hid (yAf base cb bv n w):=h;clear h;go_enter Tryz.func38,Tryz.ntmps38;go_wp2_with fail;refine(yAl base cb bv n m _ HD.out hm hm2).mono ?_;rintro e w1 ⟨x,rfl,hx0,hx1,hD1,hC1⟩;have H1:Hid (yAf base cb bv n w1∧Chg (fun k=>k=cb) w w1):=⟨hD1,hC1⟩;clear hD1 hC1;cases hx:(x==0)
 ·go_wp2_with fail;go_ret;exact⟨_,rfl,.inr rfl,H1.1,H1.2⟩
 ·go_wp2_with fail;go_ret;exact⟨_,rfl,.inl rfl,H1.1,H1.2⟩
theorem Chg.grown_new {wr:World} {row:Option Nat} (h:Chg T w wr) (hg:wr.grownBy w' row) (hr:∀k,row=some k→w.heap.size≤k):Chg T w w':=
 ⟨hg.os.trans h.os,hg.tape.trans h.tape,hg.output.trans h.output,Nat.le_trans h.size hg.size,fun k hk hn=>(hg.block k (Nat.lt_of_lt_of_le hk h.size) (fun q=>by have:=hr k q.symm;omega)).trans (h.block k hk hn)⟩
theorem Chg.alloc_new {wr:World} (h:Chg T w wr) (o:Obj):Chg T w (wr.alloc o):=h.trans (Chg.of_below (qB))
abbrev u8v (z:UInt8):Value:=.int .u8 (z.toNat:Int)
def OwnB (w:World) (base g cap:Nat) (zs:List UInt8):Prop:=w.ownsRow base 5 1 (.slice (some ⟨g,0,none⟩) zs.length cap) zs.length (zs.map u8v)
theorem Tryz.infoU8:(Tryz.prog.info? 5).map (fun i=>(i.zero,i.size,i.bytes))=some (some (.int .u8 0),1,1):=by kernel_rfl
theorem yDy {ops:Array Oper} {rest:List Oper} {o:Oper} {a:Act} {Q:Exit→Act→World→Prop} (w:World) (hgd:o.guard=none) (s x:Operand)
  (ho:o.op=.call {callee:=.builtin .append,args:=#[s,x],argTypes:=#[40,40]})
  (base g cp n blk:Nat) (zs:List UInt8) (z:UInt8) (hs:a.eval s=.slice (some ⟨g,0,none⟩) n cp) (cx:Nat) (hx:a.eval x=.slice (some ⟨blk,0,none⟩) 1 cx) (hn:n=zs.length) (hO:OwnB w base g cp zs)
  (hc:w.cell? ⟨blk,0,none⟩=some (.int .u8 (z.toNat:Int))) (hlen:zs.length≤2^30) (hbase:base≤w.heap.size)
  (h:∀g' cp' w',OwnB w' base g' cp' (zs++ [z])→w.grownBy w' (some g)→wpList Tryz.prog ops Q rest (a.put o.dst (.slice (some ⟨g',0,none⟩) (n+1) cp')) w'):wpList Tryz.prog ops Q (o::rest) a w:=by
 obtain⟨i,hi,hz0,hz1,hz2⟩:=info_parts Tryz.infoU8;subst hn;refine wpList_append_lies w hgd s x 40 ho base 5 i _ 1 1 Tryz.underlying40 hi hz0 hz1 hz2 rfl (by decide) (.slice (some ⟨g,0,none⟩) zs.length cp) zs.length (zs.map u8v) hs hO ⟨blk,0,none⟩ 1 cx [u8v z] hx rfl ?_ ?_ (by decide) ?_ ?_ hbase w.heap.size rfl ?_
 ·intro j u hu;have hj:j<1:=by simpa using (List.getElem?_eq_some_iff.1 hu).1
  obtain rfl:j=0:=by omega
  simp at hu;rw[←hu];simpa [Addr.add]using hc
 ·intro u hu;simp at hu;subst hu;rfl
 ·unfold maxLen;omega
 ·omega
 ·intro g' cp' w' hO' hgr hat hlt;refine h g' cp' w' ?_ hgr;unfold OwnB;rw[List.length_append,List.map_append];exact hO'
theorem yQx (w:World) (base:Nat) (hb:base≤w.heap.size):OwnB (w.alloc (Obj.cells #[] 5)) base w.heap.size 0 []:=World.ownsRow_made w #[] 0 hb (Nat.zero_le _) (by simp)
theorem yRe {g:Nat} {zs:List UInt8} (h:OwnB w base g cap zs):(convert 40 9 (.slice (some ⟨g,0,none⟩) zs.length cap)).run Tryz.prog w=.ok (.string ⟨zs.toArray⟩) w:=by refine run_convert_bytes_back (P:=Tryz.prog) w 40 9 5 ⟨g,0,none⟩ cap zs Tryz.underlying40 Tryz.underlying5 Tryz.underlying9 ?_;intro i hi;have:=World.ownsRow.cellAt h i (by omega);rw[Addr.add_mid,Nat.zero_add,this,List.getElem?_map,List.getElem?_eq_getElem hi];rfl
theorem yA9 (base cb:Nat) (bv:Value) (n:Nat) (a b:Int) (w:World) (h:yAf base cb bv n w) (ha:0≤a) (hab:a≤b) (hb:b≤100):
  Calls Tryz.prog 110 #[.pointer (some ⟨cb,0,none⟩),.int .i64 a,.int .i64 b] w fun e w'=>∃s:ByteArray,e=.returned (.string s)∧s.size≤100∧Drew base cb bv n w w':=by
 have HD:Hid (yAf base cb bv n w):=h;have hbase:=h.base;have hcb:=h.lt;clear h;go_enter Tryz.func110,Tryz.ntmps110;go_wp2_with fail;refine(yAl base cb bv n (b-a+1) _ HD.out (by omega) (by omega)).mono ?_;rintro e w1 ⟨x,rfl,hx0,hx1,hD1,hC1⟩;have s1:=hC1.size;have H1:Hid (yAf base cb bv n w1∧Chg (fun k=>k=cb) w w1):=⟨hD1,hC1⟩;clear hD1 hC1;obtain⟨W2,hW2⟩:=qE (w1.alloc (Obj.cells #[] 5):World);have hb2:Below w1.heap.size w1 W2:=by rw[hW2];exact qB
 have HB2:Hid (OwnB W2 w.heap.size w1.heap.size 0 []∧yAf base cb bv n W2∧Chg (fun k=>k=cb) w W2):=by refine⟨?_,H1.1.below hb2,H1.2.trans (Chg.of_below hb2)⟩;rw[hW2];exact yQx w1 w.heap.size s1
 obtain⟨m,hm⟩:∃m:Nat,a+x=(m:Int):=⟨(a+x).toNat,by omega⟩;have hm2:m≤100:=by omega
 go_wp2_with fail;rw[←hW2];clear hW2 hm hb2;go_loopw[8,9] (fun o i wr=>∃(k g cp:Nat) (zs:List UInt8),k≤m∧i=.int .i64 k∧o=.slice (some ⟨g,0,none⟩) k cp∧zs.length=k∧OwnB wr w.heap.size g cp zs∧yAf base cb bv n wr∧Chg (fun k=>k=cb) w wr) (fun _ i _=>m-(intOf i).toNat);case atStart=>exact⟨0,_,0,[],Nat.zero_le _,rfl,rfl,rfl,HB2.1,HB2.2.1,HB2.2.2⟩
 case round=>
  obtain⟨k,g,cp,zs,hk,rfl,rfl,hzl,hO,hD,hC⟩:=hrel;have HI:Hid (zs.length=k∧OwnB wr w.heap.size g cp zs∧yAf base cb bv n wr∧Chg (fun k=>k=cb) w wr):=⟨hzl,hO,hD,hC⟩;have hgl:=World.ownsRow.lt hO g rfl;clear hzl hO hD hC;by_cases hlt:k<m
  ·have zk:(k:Int)<(m:Int):=by omega
   go_wp2_with fail;refine(yAl base cb bv n 3 _ HI.2.2.1 (by omega) (by omega)).mono ?_;rintro e w3 ⟨y,rfl,hy0,hy1,hD3,hC3⟩;have s3:=hC3.size;have HO3:Hid (OwnB w3 w.heap.size g cp zs∧yAf base cb bv n w3∧Chg (fun k=>k=cb) w w3):=⟨yAp HI.2.1 hC3 (fun k q=>by simp[Value.ownBlock]at q;subst q;omega),hD3,HI.2.2.2.trans hC3⟩;clear hD3 hC3;obtain⟨z,hz⟩:∃z:UInt8,(97:Int)+y=(z.toNat:Int):=⟨UInt8.ofNat (97+y.toNat),by rw[UInt8.toNat_ofNat'];omega⟩;have HZ:Hid ((97:Int)+y=(z.toNat:Int)):=hz;have HKl:Hid (k=zs.length):=HI.1.symm;have s4:=HO3.2.2.size;clear hz;go_wp2_with (at_builtin;refine yDy _ rfl _ _ rfl w.heap.size g cp _ _ zs z rfl _ rfl HKl.out ?hO ?hc ?hl ?hb ?_);case hO=>exact yAp (S:=fun _=>False) HO3.1 (Chg.of_below (qB)) (fun k _ q=>q)
   case hc=>rw[←HZ.out];simp
   case hl=>rw[←HKl.out];omega
   case hb=>simp;omega
   intro g' cp' w' hO' hgr;have HN:Hid ((zs++ [z]).length=k+1∧OwnB w' w.heap.size g' cp' (zs++ [z])∧yAf base cb bv n w'∧Chg (fun k=>k=cb) w w'):=by
    refine⟨by simp[HI.1],hO',?_,?_⟩
    ·have hd:=HO3.2.1.below ((Below.refl w3.heap.size w3).alloc (Nat.le_refl _) (Obj.cells #[.int .u8 (97+y)] 5));exact hd.chg (Chg.of_grown (S:=fun k=>k=g) hgr (fun k hk=>by cases hk;rfl)) (by omega) (fun k q=>by omega)
    ·exact Chg.grown_new (HO3.2.2.alloc_new _) hgr (fun k hk=>by cases hk;omega)
   clear hO' hgr;go_wp2_with fail;go_roundw;case rel=>exact⟨k+1,g',cp',zs++ [z],by omega,by go_num,rfl,HN.1,HN.2.1,HN.2.2.1,HN.2.2.2⟩
   case measure=>go_light;simp[intOf];omega
  ·have zk:¬(k:Int)<(m:Int):=by omega
   have hcv:=yRe HI.2.1;rw[HI.1]at hcv;have HS:Hid ((⟨zs.toArray⟩:ByteArray).size≤100):=by show(⟨zs.toArray⟩:ByteArray).size≤100;have:=HI.1;simp[ByteArray.size];omega
   go_wp2_with fail;go_ret;exact⟨_,rfl,HS.out,HI.2.2.1,HI.2.2.2⟩
theorem yXa (c:UInt8) (w:World):∃cx w',(convert 9 40 (.string ⟨#[c]⟩)).run Tryz.prog w=.ok (.slice (some ⟨w.heap.size,0,none⟩) 1 cx) w'∧Below w.heap.size w w'∧w'.cell? ⟨w.heap.size,0,none⟩=some (.int .u8 (c.toNat:Int)):=by
 refine⟨_,_,run_bytes_of_string (P:=Tryz.prog) w 9 40 5 ⟨#[c]⟩ Tryz.underlying9 Tryz.underlying40 Tryz.underlying5,((Below.refl _ _).drew).alloc (Nat.le_refl _) _,?_⟩;have hb:∀O:Obj,(w.drew.alloc O).heap[w.heap.size]?=some O:=fun O=>by show(w.heap.push O)[w.heap.size]?=_;simp
 unfold World.cell?;rw[hb];simp[bytesRow];rw[Array.getElem?_append_left (by simp)];rfl
theorem yJs (c:UInt8) (m:Nat) (w:World) (hm:m≤1000):
  Calls Tryz.prog 111 #[.string ⟨#[c]⟩,.int .i64 m] w fun e w'=>∃s:ByteArray,e=.returned (.string s)∧s.size≤1000∧Below w.heap.size w w':=by
 obtain⟨W2,hW2⟩:=qE (w.alloc (Obj.cells #[] 5):World);have hb2:Below w.heap.size w W2:=by rw[hW2];exact qB
 have HB2:Hid (OwnB W2 w.heap.size w.heap.size 0 []):=by show OwnB W2 _ _ _ _;rw[hW2];exact yQx w w.heap.size (Nat.le_refl _)
 go_enter Tryz.func111,Tryz.ntmps111;go_wp2_with fail;rw[←hW2];clear hW2;go_loopw[5,6] (fun o i wr=>∃(k g cp:Nat) (zs:List UInt8),k≤m∧i=.int .i64 k∧o=.slice (some ⟨g,0,none⟩) k cp∧zs.length=k∧OwnB wr w.heap.size g cp zs∧Below w.heap.size w wr) (fun _ i _=>m-(intOf i).toNat);case atStart=>exact⟨0,_,0,[],Nat.zero_le _,rfl,rfl,rfl,HB2.out,hb2⟩
 case round=>
  obtain⟨k,g,cp,zs,hk,rfl,rfl,hzl,hO,hb⟩:=hrel;have HI:Hid (zs.length=k∧OwnB wr w.heap.size g cp zs):=⟨hzl,hO⟩;have hgl:=World.ownsRow.lt hO g rfl;have hs:=hb.size;clear hzl hO;by_cases hlt:k<m
  ·have zk:(k:Int)<(m:Int):=by omega
   have HKl:Hid (k=zs.length):=HI.1.symm;obtain⟨cx,W3,hrun,hb3,hc3⟩:=yXa c wr;have hs3:=hb3.size;go_wp2_with (at_builtin;refine yDy _ rfl _ _ rfl w.heap.size g cp _ wr.heap.size zs c rfl cx rfl HKl.out ?hO ?hc ?hl ?hb ?_);case hO=>exact yAp (S:=fun _=>False) HI.2 (Chg.of_below hb3) (fun k _ q=>q)
   case hc=>exact hc3
   case hl=>rw[←HKl.out];omega
   case hb=>omega
   intro g' cp' w' hO' hgr;have HN:Hid ((zs++ [c]).length=k+1∧OwnB w' w.heap.size g' cp' (zs++ [c])):=⟨by simp[HI.1],hO'⟩;have hb':Below w.heap.size w w':=(hb.trans (hb3.mono hs)).grown hgr (by omega) (fun j hj=>by cases hj;omega);clear hO' hgr hrun;go_wp2_with fail;go_roundw;case rel=>exact⟨k+1,g',cp',zs++ [c],by omega,by go_num,rfl,HN.1,HN.2,hb'⟩
   case measure=>go_light;simp[intOf];omega
  ·have zk:¬(k:Int)<(m:Int):=by omega
   have hcv:=yRe HI.2;rw[HI.1]at hcv;have HS:Hid ((⟨zs.toArray⟩:ByteArray).size≤1000):=by show(⟨zs.toArray⟩:ByteArray).size≤1000;have:=HI.1;simp[ByteArray.size];omega
   go_wp2_with fail;go_ret;exact⟨_,rfl,HS.out,hb⟩
theorem yDo (base cb:Nat) (bv:Value) (n blk nw:Nat) (w:World) (h:yAf base cb bv n w) (h1:1≤nw) (h2:nw≤100) (hne:¬blk=cb) (hlt:blk<w.heap.size) (hw:∀k,k<nw→∃s:ByteArray,w.cell? ⟨blk,k,none⟩=some (.string s)∧s.size≤1000):
  Calls Tryz.prog 109 #[.pointer (some ⟨cb,0,none⟩),.slice (some ⟨blk,0,none⟩) nw nw] w fun e w'=>∃s:ByteArray,e=.returned (.string s)∧s.size≤1000∧Drew base cb bv n w w':=by
 have HD:Hid (yAf base cb bv n w∧∀k,k<nw→∃s:ByteArray,w.cell? ⟨blk,k,none⟩=some (.string s)∧s.size≤1000):=⟨h,hw⟩;clear h hw;go_enter Tryz.func109,Tryz.ntmps109;go_wp2_with fail;refine(yAl base cb bv n (nw:Int) _ HD.1 (by omega) (by omega)).mono ?_;rintro e w1 ⟨x,rfl,hx0,hx1,hD1,hC1⟩;obtain⟨k,rfl⟩:=Int.eq_ofNat_of_zero_le hx0;obtain⟨s,hs,hsz⟩:=HD.2 k (by omega);have c1:w1.cell? ⟨blk,k,none⟩=some (.string s):=by rw[hC1.cell (p:=⟨blk,k,none⟩) hlt hne];exact hs
 have H1:Hid (yAf base cb bv n w1∧Chg (fun k=>k=cb) w w1):=⟨hD1,hC1⟩;clear hD1 hC1 hs;go_wp2_with fail;go_ret;exact⟨s,rfl,hsz,H1.1,H1.2⟩
theorem yWk (base cb:Nat) (bv:Value) (n:Nat) (w:World) (h:yAf base cb bv n w):
  Calls Tryz.prog 142 #[.pointer (some ⟨cb,0,none⟩)] w fun e w'=>∃s:ByteArray,e=.returned (.string s)∧s.size≤1000∧Drew base cb bv n w w':=by
 have HD:Hid (yAf base cb bv n w):=h;clear h;go_enter Tryz.func142,Tryz.ntmps142;go_wp2_with fail;refine(yA5 base cb bv n 40 _ HD.out (by omega) (by omega)).mono ?_;rintro e w1 ⟨v,rfl,hv,hD1,hC1⟩;have H1:Hid (yAf base cb bv n w1∧Chg (fun k=>k=cb) w w1):=⟨hD1,hC1⟩;clear hD1 hC1;rcases hv with rfl|rfl
 ·go_wp2_with fail;refine(yJs 97 64 _ (by omega)).mono ?_;rintro e w2 ⟨s,rfl,hs,hb2⟩;have H2:Hid (yAf base cb bv n w2∧Chg (fun k=>k=cb) w w2):=⟨H1.1.below hb2,H1.2.trans (Chg.of_below hb2)⟩;go_wp2_with fail;go_ret;exact⟨s,rfl,hs,H2.1,H2.2⟩
 ·go_wp2_with fail;refine(yA5 base cb bv n 25 _ H1.1 (by omega) (by omega)).mono ?_;rintro e w2 ⟨v,rfl,hv,hD2,hC2⟩;have H2:Hid (yAf base cb bv n w2∧Chg (fun k=>k=cb) w w2):=⟨hD2,H1.2.trans hC2⟩;clear hD2 hC2;have hcl:=H2.1.lt.2;rcases hv with rfl|rfl
  ·go_wp2_with fail;refine(yDo base cb bv n _ 6 _ (H2.1.below (qB)) (by omega) (by omega) (by omega) (by simp) ?_).mono ?_
   ·exact yYo
   ·rintro e w3 ⟨s,rfl,hs,hD3,hC3⟩;have H3:Hid (yAf base cb bv n w3∧Chg (fun k=>k=cb) w w3):=⟨hD3,(H2.2.alloc_new _).trans hC3⟩;clear hD3 hC3;go_wp2_with fail;go_ret;exact⟨s,rfl,hs,H3.1,H3.2⟩
  ·go_wp2_with fail;refine(yA9 base cb bv n 1 2 _ H2.1 (by omega) (by omega) (by omega)).mono ?_;rintro e w3 ⟨s,rfl,hs,hD3,hC3⟩;have H3:Hid (yAf base cb bv n w3∧Chg (fun k=>k=cb) w w3):=⟨hD3,H2.2.trans hC3⟩;clear hD3 hC3;go_wp2_with fail;go_ret;exact⟨s,rfl,by omega,H3.1,H3.2⟩
theorem yW6 (base cb:Nat) (bv:Value) (n:Nat) (w:World) (h:yAf base cb bv n w):
  Calls Tryz.prog 143 #[.pointer (some ⟨cb,0,none⟩)] w fun e w'=>∃s:ByteArray,e=.returned (.string s)∧s.size≤1000∧Drew base cb bv n w w':=by
 have HD:Hid (yAf base cb bv n w):=h;clear h;go_enter Tryz.func143,Tryz.ntmps143;go_wp2_with fail;refine(yA5 base cb bv n 3 _ HD.out (by omega) (by omega)).mono ?_;rintro e w1 ⟨v,rfl,hv,hD1,hC1⟩;have H1:Hid (yAf base cb bv n w1∧Chg (fun k=>k=cb) w w1):=⟨hD1,hC1⟩;clear hD1 hC1;have hcl:=H1.1.lt.2;rcases hv with rfl|rfl
 ·go_wp2_with fail;go_ret;exact⟨_,rfl,by decide,H1.1,H1.2⟩
 ·go_wp2_with fail;refine(yDo base cb bv n _ 6 _ (H1.1.below (qB)) (by omega) (by omega) (by omega) (by simp) ?_).mono ?_
  ·exact yYo
  ·exact zzQ75
theorem yT1 (base cb:Nat) (bv:Value) (n:Nat) (w:World) (h:yAf base cb bv n w):
  Calls Tryz.prog 144 #[.pointer (some ⟨cb,0,none⟩)] w fun e w'=>∃s:ByteArray,e=.returned (.string s)∧s.size≤1000∧Drew base cb bv n w w':=by
 have HD:Hid (yAf base cb bv n w):=h;clear h;go_enter Tryz.func144,Tryz.ntmps144;go_wp2_with fail;refine(yA5 base cb bv n 12 _ HD.out (by omega) (by omega)).mono ?_;rintro e w1 ⟨v,rfl,hv,hD1,hC1⟩;have H1:Hid (yAf base cb bv n w1∧Chg (fun k=>k=cb) w w1):=⟨hD1,hC1⟩;clear hD1 hC1;have hcl:=H1.1.lt.2;rcases hv with rfl|rfl
 ·go_wp2_with fail;refine(yDo base cb bv n _ 4 _ (H1.1.below (qB)) (by omega) (by omega) (by omega) (by simp) ?_).mono ?_
  ·exact zzQ81
  ·exact zzQ75
 ·go_wp2_with fail;refine(yA9 base cb bv n 1 2 _ H1.1 (by omega) (by omega) (by omega)).mono ?_;exact yYl
theorem yYw (base cb:Nat) (bv:Value) (n:Nat) (w:World) (h:yAf base cb bv n w):
  Calls Tryz.prog 145 #[.pointer (some ⟨cb,0,none⟩)] w fun e w'=>∃t:Int,e=.returned (.int .u64 t)∧(0≤t∧t≤18446744073709551615)∧Drew base cb bv n w w':=by
 have HD:Hid (yAf base cb bv n w):=h;clear h;go_enter Tryz.func145,Tryz.ntmps145;go_wp2_with fail;refine(yA5 base cb bv n 30 _ HD.out (by omega) (by omega)).mono ?_;rintro e w1 ⟨v,rfl,hv,hD1,hC1⟩;have H1:Hid (yAf base cb bv n w1∧Chg (fun k=>k=cb) w w1):=⟨hD1,hC1⟩;clear hD1 hC1;rcases hv with rfl|rfl
 ·go_wp2_with fail;go_ret;exact⟨_,rfl,⟨by omega,by omega⟩,H1.1,H1.2⟩
 ·go_wp2_with fail;refine(yAl base cb bv n 6 _ H1.1 (by omega) (by omega)).mono ?_;rintro e w2 ⟨x,rfl,hx0,hx1,hD2,hC2⟩;have H2:Hid (yAf base cb bv n w2∧Chg (fun k=>k=cb) w w2):=⟨hD2,H1.2.trans hC2⟩;clear hD2 hC2;go_wp2_with fail;go_ret;exact⟨x,rfl,⟨by omega,by omega⟩,H2.1,H2.2⟩
theorem yQz (bv:Value) (n:Nat) (w:World) (h:yCv w w.heap.size bv n):
  Calls Tryz.prog 37 #[bv] w fun e w'=>e=.returned (.pointer (some ⟨w.heap.size,0,none⟩))∧yAf w.heap.size w.heap.size bv n w'∧Below w.heap.size w w':=by
 have HC:Hid (yCv w w.heap.size bv n):=h;have hn:=h.1;have fin:∀x:Int,yAf w.heap.size w.heap.size bv n (w.alloc (Obj.cells #[bv,.int .i64 0,.int .i64 x] 117))∧Below w.heap.size w (w.alloc (Obj.cells #[bv,.int .i64 0,.int .i64 x] 117)):=fun x=>by have hb:Below w.heap.size w (w.alloc (Obj.cells #[bv,.int .i64 0,.int .i64 x] 117)):=qB;refine⟨⟨⟨0,x,Nat.zero_le _,?_⟩,HC.chg (T:=fun _=>False) (Chg.of_below hb) (Nat.le_refl _) (fun k q=>q.elim),hb.size⟩,hb⟩;exact World.ownsRow_lit (base:=w.heap.size) (e:=117) (size:=3) w #[bv,.int .i64 0,.int .i64 x] 1 (Nat.le_refl _) (by decide) rfl
 have HF:Hid (∀x:Int,yAf w.heap.size w.heap.size bv n (w.alloc (Obj.cells #[bv,.int .i64 0,.int .i64 x] 117))∧Below w.heap.size w (w.alloc (Obj.cells #[bv,.int .i64 0,.int .i64 x] 117))):=fin;clear fin;rcases h.2 with⟨a,cap,rfl,rfl⟩|⟨b,off,cap,rfl,hlt,hx⟩
 ·go_enter Tryz.func37,Tryz.ntmps37;go_wp2_with fail;go_loopw[3,4] (fun h i wr=>(∃x:Int,h=.int .i64 x)∧i=.int .i64 0∧wr=w) (fun _ _ _=>0);case atStart=>exact⟨⟨_,rfl⟩,rfl,rfl⟩
  case round=>obtain⟨⟨x,rfl⟩,rfl,rfl⟩:=hrel;go_wp2_with fail;go_ret;exact⟨rfl,(HF.out x).1,(HF.out x).2⟩
 ·have HX:Hid (∀k,k<n→∃x:Int,w.cell? ⟨b,off+k,none⟩=some (.int .u8 x)∧0≤x∧x<256):=hx;clear hx h;go_enter Tryz.func37,Tryz.ntmps37;go_wp2_with fail;go_loopw[3,4] (fun h i wr=>∃(k:Nat) (x:Int),k≤n∧h=.int .i64 x∧i=.int .i64 k∧wr=w) (fun _ i _=>n-(intOf i).toNat);case atStart=>exact⟨0,_,Nat.zero_le _,rfl,rfl,rfl⟩
  case round=>
   obtain⟨k,x,hk,rfl,rfl,rfl⟩:=hrel;by_cases hkn:k<n
   ·obtain⟨y,hc,hy0,hy1⟩:=HX.out k hkn;have zk:(k:Int)<(n:Int):=by omega
    go_wp2_with fail;go_roundw;case rel=>exact⟨k+1,_,by omega,rfl,by go_num,trivial⟩
    case measure=>go_light;simp[intOf];omega
   ·have zk:¬(k:Int)<(n:Int):=by omega
    go_wp2_with fail;go_ret;exact⟨rfl,(HF.out x).1,(HF.out x).2⟩
def TxtP (base cb:Nat) (bv:Value) (n m:Nat) (w:World) (e:Ending) (w':World):Prop:=∃s:ByteArray,e=.returned (.string s)∧s.size≤m∧Drew base cb bv n w w'
def yS4 (base cb:Nat) (bv:Value) (n d m:Nat):Prop:=∀w,yAf base cb bv n w→Calls Tryz.prog 141 #[.pointer (some ⟨cb,0,none⟩),.int .i64 d] w (TxtP base cb bv n m w)
def yVv (base cb:Nat) (bv:Value) (n d m:Nat):Prop:=∀w,yAf base cb bv n w→Calls Tryz.prog 162 #[.pointer (some ⟨cb,0,none⟩),.int .i64 d] w (TxtP base cb bv n m w)
theorem yDd (a b:ByteArray):(a++b).size=a.size+b.size:=ByteArray.size_append
theorem yMb (base cb:Nat) (bv:Value) (n d m:Nat) (hm:m≤100000) (hd:d≤5) (HT0:0<d→yS4 base cb bv n (d-1) m):yVv base cb bv n d (m+1002):=by
 intro w h;have HT:Hid (0<d→yS4 base cb bv n (d-1) m):=HT0;have HD:Hid (yAf base cb bv n w):=h;have hcl0:=h.lt.2;clear h HT0;go_enter Tryz.func162,Tryz.ntmps162;go_wp2_with fail;refine(yAl base cb bv n 14 _ HD.out (by omega) (by omega)).mono ?_;rintro e w1 ⟨x,rfl,hx0,hx1,hD1,hC1⟩;have H1:Hid (yAf base cb bv n w1∧Chg (fun k=>k=cb) w w1):=⟨hD1,hC1⟩;have hcl:=hD1.lt.2;clear hD1 hC1;by_cases hk:x<6∨d=0
 ·have hq:Hid (x<6∨d=0):=hk;by_cases h6:x<6
  ·go_wp2_with fail;refine(yA9 base cb bv n 1 1 _ H1.1 (by omega) (by omega) (by omega)).mono ?_;exact yYl
  ·obtain rfl:d=0:=by omega
   go_wp2_with fail;refine(yA9 base cb bv n 1 1 _ H1.1 (by omega) (by omega) (by omega)).mono ?_;exact yYl
 have h6:¬x<6:=fun q=>hk (.inl q);have hd0:0<d:=Nat.pos_of_ne_zero fun q=>hk (.inr q);have hdz:((d:Int)==0)=false:=by rw[beq_eq_false_iff_ne];omega
 clear hk;by_cases h7:x=6
 ·subst h7;go_wp2_with fail;go_ret;exact⟨_,rfl,by show 1≤_;omega,H1.1,H1.2⟩
 have b6:(x==6)=false:=by rw[beq_eq_false_iff_ne];exact h7
 by_cases h8:x=7
 ·subst h8;go_wp2_with fail;refine(yDo base cb bv n _ 6 _ ((H1.1).below (qB)) (by omega) (by omega) (by omega) (by simp) ?_).mono ?_
  ·exact yYo
  ·exact zzQ73
 have b7:(x==7)=false:=by rw[beq_eq_false_iff_ne];exact h8
 by_cases h9:x=8
 ·subst h9;go_wp2_with fail;refine(yDo base cb bv n _ 4 _ ((H1.1).below (qB)) (by omega) (by omega) (by omega) (by simp) ?_).mono ?_
  ·exact zzQ81
  ·exact zzQ73
 have b8:(x==8)=false:=by rw[beq_eq_false_iff_ne];exact h9
 have ed:Hid (((d:Int)-1)=((d-1:Nat):Int)):=by show(d:Int)-1=_;omega
 go_wp2_with fail;rw[ed.out];refine(HT.out hd0 w1 H1.1).mono ?_;rintro e w3 ⟨s,rfl,hs,hD3,hC3⟩;have H3:Hid (yAf base cb bv n w3∧Chg (fun k=>k=cb) w w3):=⟨hD3,H1.2.trans hC3⟩;clear hD3 hC3;go_wp2_with fail;go_ret;exact⟨_,rfl,by simp only[yDd];show 1+s.size+1≤_;omega,H3.1,H3.2⟩
theorem yMa (base cb:Nat) (bv:Value) (n d m:Nat) (hm:m≤100000) (hd:d≤5) (HP0:yVv base cb bv n d m):yS4 base cb bv n d (3*m+10):=by
 intro w h;have HP:Hid (yVv base cb bv n d m):=HP0;have HD:Hid (yAf base cb bv n w):=h;clear h HP0;go_enter Tryz.func141,Tryz.ntmps141;go_wp2_with fail;refine(yAl base cb bv n 4 _ HD.out (by omega) (by omega)).mono ?_;rintro e w1 ⟨y,rfl,hy0,hy1,hD1,hC1⟩;have H1:Hid (yAf base cb bv n w1∧Chg (fun k=>k=cb) w w1):=⟨hD1,hC1⟩;clear hD1 hC1;obtain⟨q,rfl⟩:=Int.eq_ofNat_of_zero_le hy0;go_wp2_with fail;go_loopw[5,7] (fun o i wr=>∃(k:Nat) (s:ByteArray),k≤q∧i=.int .i64 k∧o=.string s∧Hid (s.size≤k*(m+2))∧Hid (yAf base cb bv n wr∧Chg (fun k=>k=cb) w wr)) (fun _ i _=>q-(intOf i).toNat);case atStart=>exact⟨0,_,Nat.zero_le _,rfl,rfl,Nat.le_of_eq (by simp[ByteArray.size]),H1.out⟩
 case round=>
  obtain⟨k,s,hk,rfl,rfl,HS,HI⟩:=hrel;have hsz:s.size≤400000:=by have a1:=HS.out;have a2:k*(m+2)≤3*(m+2):=Nat.mul_le_mul_right _ (by omega);omega
  by_cases hlt:k<q
  ·have zk:(k:Int)<(q:Int):=by omega
   go_wp2_with fail;refine(HP.out _ HI.1).mono ?_;rintro e w2 ⟨t,rfl,ht,hD2,hC2⟩;have H2:Hid (yAf base cb bv n w2∧Chg (fun k=>k=cb) w w2):=⟨hD2,HI.2.trans hC2⟩;have HTZ:Hid (t.size≤m):=ht;have htz:t.size≤100000:=by omega
   have hst:(s++t).size≤500000:=by rw[yDd];omega
   clear hD2 hC2 ht;go_wp2_with fail;refine(yAl base cb bv n 9 _ H2.1 (by omega) (by omega)).mono ?_;rintro e w3 ⟨x,rfl,hx0,hx1,hD3,hC3⟩;have H3:Hid (yAf base cb bv n w3∧Chg (fun k=>k=cb) w w3):=⟨hD3,H2.2.trans hC3⟩;clear hD3 hC3;have e1:Hid ((s++t).size≤(k+1)*(m+2)):=by show _≤_;have a1:=HS.out;have a2:=HTZ.out;rw[yDd,Nat.add_mul];omega
   have e2:Hid (∀c:UInt8,(s++t++(⟨#[c]⟩:ByteArray)).size≤(k+1)*(m+2)):=by intro c;have a1:=HS.out;have a2:=HTZ.out;rw[yDd,yDd,Nat.add_mul];show s.size+t.size+1≤_;omega
   by_cases h0:x=0
   ·subst h0;go_wp2_with fail;go_roundw;case rel=>exact⟨k+1,_,by omega,by go_num,rfl,e2.out 42,H3.out⟩
    case measure=>go_light;simp[intOf];omega
   have b0:(x==0)=false:=by rw[beq_eq_false_iff_ne];exact h0
   by_cases h1:x=1
   ·subst h1;go_wp2_with fail;go_roundw;case rel=>exact⟨k+1,_,by omega,by go_num,rfl,e2.out 43,H3.out⟩
    case measure=>go_light;simp[intOf];omega
   have b1:(x==1)=false:=by rw[beq_eq_false_iff_ne];exact h1
   by_cases h2:x=2
   ·subst h2;go_wp2_with fail;go_roundw;case rel=>exact⟨k+1,_,by omega,by go_num,rfl,e2.out 63,H3.out⟩
    case measure=>go_light;simp[intOf];omega
   have b2:(x==2)=false:=by rw[beq_eq_false_iff_ne];exact h2
   by_cases h3:x=3
   ·subst h3;by_cases hn:k+1<q
    ·have hn2:((k:Int)+1<(q:Int)):=by omega
     go_wp2_with fail;go_roundw;case rel=>exact⟨k+1,_,by omega,by go_num,rfl,e2.out 124,H3.out⟩
     case measure=>go_light;simp[intOf];omega
    ·have hn2:¬((k:Int)+1<(q:Int)):=by omega
     exact yXt
   have b3:(x==3)=false:=by rw[beq_eq_false_iff_ne];exact h3
   exact yXt
  ·have zk:¬(k:Int)<(q:Int):=by omega
   have HS2:Hid (s.size≤3*m+6):=by show _≤_;have a1:=HS.out;have a2:k*(m+2)≤3*(m+2):=Nat.mul_le_mul_right _ (by omega);omega
   go_wp2_with fail;refine(yA5 base cb bv n 14 _ HI.1 (by omega) (by omega)).mono ?_;rintro e w2 ⟨v,rfl,hv,hD2,hC2⟩;have H2:Hid (yAf base cb bv n w2∧Chg (fun k=>k=cb) w w2):=⟨hD2,HI.2.trans hC2⟩;clear hD2 hC2;rcases hv with rfl|rfl
   ·go_wp2_with fail;go_ret;exact⟨_,rfl,by rw[yDd];have:=HS2.out;show s.size+1≤_;omega,H2.out⟩
   ·go_wp2_with fail;go_ret;exact⟨_,rfl,by have:=HS2.out;omega,H2.out⟩
theorem yR9 (base cb:Nat) (bv:Value) (n:Nat):yS4 base cb bv n 0 3016:=yMa base cb bv n 0 1002 (by omega) (by omega) (yMb base cb bv n 0 0 (by omega) (by omega) (fun q=>absurd q (by omega)))
theorem yT4 (base cb:Nat) (bv:Value) (n:Nat):yS4 base cb bv n 1 12064:=yMa base cb bv n 1 4018 (by omega) (by omega) (yMb base cb bv n 1 3016 (by omega) (by omega) (fun _=>yR9 base cb bv n))
theorem yT3 (base cb:Nat) (bv:Value) (n:Nat):yS4 base cb bv n 2 39208:=yMa base cb bv n 2 13066 (by omega) (by omega) (yMb base cb bv n 2 12064 (by omega) (by omega) (fun _=>yT4 base cb bv n))
def yA (w:World) (base t sz g:Nat) (vs:List Value):Prop:=w.ownsRow base t sz (.slice (some ⟨g,0,none⟩) 1 1) 1 vs
variable {t sz:Nat} {vs:List Value}
theorem yA.len {g:Nat} (h:yA w base t sz g vs):vs.length=sz:=by have:=h.1;omega
theorem yA.lt {g:Nat} (h:yA w base t sz g vs):base≤g∧g<w.heap.size:=World.ownsRow.lt h g rfl
theorem yA.chg {g:Nat} (h:yA w base t sz g vs) (hc:Chg S w w') (hn:¬S g):yA w' base t sz g vs:=yAp h hc (fun k q=>by simp[Value.ownBlock]at q;subst q;exact hn)
theorem yA.below {g:Nat} (h:yA w base t sz g vs) (hb:Below w.heap.size w w'):yA w' base t sz g vs:=h.chg (Chg.of_below hb) (S:=fun _=>False) (fun q=>q)
theorem yA.cell {g:Nat} (h:yA w base t sz g vs) {j:Nat} {v:Value} (hv:vs[j]?=some v):w.cell? ⟨g,j,none⟩=some v:=by have hj:=(List.getElem?_eq_some_iff.1 hv).1;rw[World.ownsRow.cellAt h j (by have:=h.len;omega),hv]
theorem yA.frozen {g:Nat} (h:yA w base t sz g vs) (j:Nat):w.frozen? ⟨g,j,none⟩=false:=World.ownsRow.frozenAt h j
theorem yA.set {g:Nat} (h:yA w base t sz g vs) (j:Nat) (u:Value):yA (w.setCell ⟨g,j,none⟩ u) base t sz g (vs.set j u):=(World.ownsRow.stored h j u).1
variable {k:Nat}
theorem yA.beside {g:Nat} (h:yA w base t sz g vs) (hk:¬g=k) (j:Nat) (u:Value):yA (w.setCell ⟨k,j,none⟩ u) base t sz g vs:=h.chg (Chg.of_set w k j u (S:=fun q=>q=k) rfl) hk
theorem yAa (w:World) (cs:Array Value) (hb:base≤w.heap.size) (hs:cs.size=sz):yA (w.alloc (.cells cs t)) base t sz w.heap.size cs.toList:=
 World.ownsRow_lit w cs 1 hb (by decide) (by omega)
def set3 (w:World) (g:Nat) (a b c:Value):World:=((w.setCell ⟨g,0,none⟩ a).setCell ⟨g,1,none⟩ b).setCell ⟨g,2,none⟩ c
theorem yA.set3 {g:Nat} (h:yA w base t 3 g vs) (a b c:Value):yA (set3 w g a b c) base t 3 g [a,b,c]:=by
 have h1:=((h.set 0 a).set 1 b).set 2 c;have hl:=h.len;match vs,hl with
 | [x,y,z],_=>exact h1
theorem yAc {a:World} (h:Below B a w) (hk:B≤k) (j:Nat) (u:Value):Below B a (w.setCell ⟨k,j,none⟩ u):=h.setCell (p:=⟨k,j,none⟩) hk u
theorem yF3 {a:World} (h:Below B a w) (hk:B≤k) (x y z:Value):Below B a (set3 w k x y z):=yAc (yAc (yAc h hk 0 x) hk 1 y) hk 2 z
theorem yWg (w:World) (k j:Nat) (u:Value):(w.setCell ⟨k,j,none⟩ u).heap.size=w.heap.size:=by simp[World.setCell]
section
variable {P:Program} {C:World→Prop}
def fk (m:Value) (o:Oper):Oper:={o with op:=.move (.const m)}
def yQc (pre:List Oper) (o:Oper) (tl:List Oper) (d:Tmp) (sl:List Tmp):Bool:=
 sl.all (fun s=>s != d && ((List.range pre.length).all (fun i=>match pre[i]? with
  |some oi=>oi.dst != some s || o.after.any (fun e=>Region.binds .any e && e.on==i)
  |none=>true) && tl.all (fun oi=>oi.dst != some s))) && pre.all (fun oi=>oi.dst != some d) && tl.all (fun oi=>oi.dst != some d && oi.after.any (fun e=>Region.binds .any e && Nat.ble pre.length e.on))
theorem yEw (pre tl:List Oper) (i:Nat):(pre++tl).toArray[i]?=if i<pre.length then pre[i]? else tl[i-pre.length]?:=by
 rw[List.getElem?_toArray];by_cases h:i<pre.length
 ·rw[if_pos h,List.getElem?_append_left h]
 ·rw[if_neg h,List.getElem?_append_right (by omega)]
theorem yQp (m:Value) (pre tl:List Oper) (listed:Array Bool):Region.ready .any (pre++tl.map (fk m)).toArray listed=Region.ready .any (pre++tl).toArray listed:=by
 unfold Region.ready;have hz:(pre++tl.map (fk m)).toArray.size=(pre++tl).toArray.size:=by simp
 rw[hz];congr 1;funext i;rw[yEw,yEw];by_cases h:i<pre.length
 ·rw[if_pos h,if_pos h]
 ·rw[if_neg h,if_neg h,List.getElem?_map];cases tl[i-pre.length]?<;>rfl
theorem yRu (m:Value) (pre tl:List Oper) (tmps:Array Value):yielded (pre++tl.map (fk m)).toArray tmps=yielded (pre++tl).toArray tmps:=by
 funext j;unfold yielded;rw[yEw,yEw];by_cases h:j<pre.length
 ·rw[if_pos h,if_pos h]
 ·rw[if_neg h,if_neg h,List.getElem?_map];cases tl[j-pre.length]?<;>rfl
theorem yG1 (a:Act) (dst:Option Tmp) (v:Value) (s:Tmp) (h:dst≠some s):(a.put dst v).tmps.getD s undef=a.tmps.getD s undef:=by
 cases dst with
 |none=>rfl
 |some t=>
  have hts:t≠s:=fun q=>h (by rw[q]);show(a.tmps.setIfInBounds t v).getD s undef=_;rw[Array.getD_eq_getD_getElem?,Array.getD_eq_getD_getElem?,Array.getElem?_setIfInBounds_ne hts]
theorem yLa (a:Act) (dst:Option Tmp) (v:Value):(a.put dst v).defers=a.defers:=by cases dst<;>rfl
theorem yLf (listed:Array Bool) (i j:Nat) (d:Bool) (h:listed.getD j d=true):(listed.setIfInBounds i true).getD j d=true:=by
 rw[Array.getD_eq_getD_getElem?]at h⊢;by_cases q:i=j
 ·subst q;rw[Array.getElem?_setIfInBounds_self];split
  ·rfl
  ·next hl=>rw[Array.getElem?_eq_none (by omega)]at h;exact h
 ·rw[Array.getElem?_setIfInBounds_ne q];exact h
theorem yL3 {ops:Array Oper} {Q:Act→Prop} (s:Tmp) (x:Value) (hQ:∀a,Q a→a.tmps.getD s undef=x):∀(fuel:Nat) (listed:Array Bool) (a:Act),wpAnyQ P .any ops C Q fuel listed a→
  (∀i oi,ops[i]?=some oi→oi.dst=some s→listed.getD i true=true)→a.tmps.getD s undef=x
 |0,listed,a,h,_=>hQ a h.2
 |fuel+1,listed,a,h,hl=>by
  cases hr:Region.ready .any ops listed with
  |nil=>exact hQ a (h.1 hr)
  |cons i rest=>
   have hi:i∈Region.ready .any ops listed:=by rw[hr];simp
   have hq:=h.2 i hi
   obtain⟨hun,oi,hoi,_⟩:=mem_ready.1 hi
   have hd:oi.dst≠some s:=fun e=>by
    have:=hl i oi hoi e
    rw[hun]at this;cases this
   have hl':∀j oj,ops[j]?=some oj→oj.dst=some s→(listed.setIfInBounds i true).getD j true=true:=fun j oj hj e=>yLf _ _ _ _ (hl j oj hj e)
   unfold qOp at hq
   simp only[hoi]at hq
   split at hq
   ·obtain⟨v,_,h2⟩:=hq
    have:=yL3 s x hQ fuel _ _ h2 hl'
    rwa [yG1 _ _ _ _ hd]at this
   ·have:=yL3 s x hQ fuel _ _ hq hl'
    rwa [yG1 _ _ _ _ hd]at this
variable {Q:Exit→Act→World→Prop}
theorem yKl {m:Value} {pre tl:List Oper} {o:Oper} {D:List Deferred} (d:Tmp) (sl:List (Tmp×Value)) (hB2:yQc pre o tl d (sl.map (·.1))=true) (hdst:o.dst=some d) (hg:o.guard=none)
  (hop:∀(a':Act) (w':World) (K:Act→World→Prop),C w'→a'.defers=D→(∀p∈sl,a'.tmps.getD p.1 undef=p.2)→o.wp P a' w' K Q):
  ∀(fuel:Nat) (listed:Array Bool) (a:Act) (w:World),wpAnyQ P .any (pre++(o::tl).map (fk m)).toArray C (fun a'=>a'.tmps.getD d undef=m∧∀p∈sl,a'.tmps.getD p.1 undef=p.2) fuel listed a→C w→
   a.tmps.getD d undef≠m→a.defers=D→(∀j,pre.length≤j→listed.getD j false=false)→wpAny P .any (pre++o::tl).toArray Q fuel listed a w
 |0,listed,a,w,h,_,hm,_,_=>absurd h.2.1 hm
 |fuel+1,listed,a,w,h,hw,hm,hD,hJ=>by
  have hB3:=hB2
  simp only[yQc,Bool.and_eq_true,List.all_eq_true]at hB2
  obtain⟨⟨hS,hP⟩,hT⟩:=hB2
  refine⟨fun hr=>absurd (h.1 (by rw[yQp];exact hr)).1 hm,fun i hi=>?_⟩
  have hq:=h.2 i (by rw[yQp];exact hi)
  obtain⟨hun,oi,hoi,hdep⟩:=mem_ready.1 hi
  rw[yEw]at hoi
  unfold wpOp
  unfold qOp at hq
  rw[yEw]at hq⊢
  by_cases hlt:i<pre.length
  ·rw[if_pos hlt]at hoi hq⊢
   have hne:oi.dst≠some d:=by have:=hP oi (List.mem_of_getElem? hoi);simpa using this
   have hJ':∀j,pre.length≤j→(listed.setIfInBounds i true).getD j false=false:=by intro j hj;have:=hJ j hj;rw[Array.getD_eq_getD_getElem?]at this⊢;rw[Array.getElem?_setIfInBounds_ne (by omega)];exact this
   simp only[hoi]at hq⊢;rw[yRu]at hq;split
   ·next hwt=>
    rw[if_pos hwt]at hq;obtain⟨v,h1,h2⟩:=hq;refine .inl (Oper.wp_of_quiet (K:=fun a'=>wpAnyQ P .any (pre++(o::tl).map (fk m)).toArray C (fun a'=>a'.tmps.getD d undef=m∧∀p∈sl,a'.tmps.getD p.1 undef=p.2) fuel (listed.setIfInBounds i true) a'∧a'.tmps.getD d undef≠m∧a'.defers=D) hw ?_ ⟨v,h1,h2,by rw[yG1 _ _ _ _ hne];exact hm,by rw[yLa];exact hD⟩);intro a' w' hw' hk;exact yKl d sl hB3 hdst hg hop fuel _ a' w' hk.1 hw' hk.2.1 hk.2.2 hJ'
   ·next hwt=>
    rw[if_neg hwt]at hq;exact yKl d sl hB3 hdst hg hop fuel _ _ w hq hw (by rw[yG1 _ _ _ _ hne];exact hm) (by rw[yLa];exact hD) hJ'
  ·rw[if_neg hlt]at hoi hq⊢;by_cases hn:i=pre.length
   ·rw[hn,Nat.sub_self]at hoi hq⊢;simp only[List.getElem?_cons_zero,List.map_cons,Option.some.injEq]at hoi hq⊢;have hw1:∀y,Region.wanted o y=true:=fun y=>by unfold Region.wanted;rw[hg]
    have hw2:∀y,Region.wanted (fk m o) y=true:=fun y=>by unfold Region.wanted;show(match o.guard with|none=>true|some (j,want)=>y j==some want)=true;rw[hg]
    simp only[hw1,hw2,if_true]at hq⊢;obtain⟨v,_,h2⟩:=hq;refine .inl (hop a w _ hw hD fun p hp=>?_);have hps:=hS p.1 (List.mem_map.2 ⟨p,hp,rfl⟩);have hpd:(some d:Option Tmp)≠some p.1:=by
     have:=hps.1;intro q;cases q
     simp at this
    have h3:=yL3 (C:=C) p.1 p.2 (fun a' h=>h.2 p hp) fuel _ _ h2 (by
     intro j oj hj e
     rw[yEw]at hj
     by_cases hjl:j<pre.length
     ·rw[if_pos hjl]at hj
      have h4:=hps.2.1 j (List.mem_range.2 hjl)
      simp only[hj,Bool.or_eq_true]at h4
      rcases h4 with h4|h4
      ·rw[e]at h4;simp at h4
      ·rw[Array.any_eq_true']at h4
       obtain⟨ed,hed,h5⟩:=h4
       simp only[Bool.and_eq_true,beq_iff_eq]at h5
       have h6:=hdep ed (by rw[←hoi];exact hed) h5.1
       rw[h5.2]at h6
       refine yLf _ _ _ _ ?_
       rw[Array.getD_eq_getD_getElem?]at h6⊢
       cases hx:listed[j]? with
       |none=>rfl
       |some y=>rw[hx]at h6;exact h6
     ·rw[if_neg hjl]at hj
      obtain⟨k,hk⟩:∃k,j-pre.length=k:=⟨_,rfl⟩
      rw[hk,←List.map_cons,List.getElem?_map]at hj
      cases k with
      |zero=>
       simp only[List.getElem?_cons_zero,Option.map_some,Option.some.injEq]at hj
       rw[←hj]at e
       exact absurd (hdst.symm.trans e) hpd
      |succ k=>
       simp only[List.getElem?_cons_succ]at hj
       cases ht:tl[k]? with
       |none=>rw[ht]at hj;cases hj
       |some ot=>
        rw[ht]at hj
        simp only[Option.map_some,Option.some.injEq]at hj
        have h7:=hps.2.2 ot (List.mem_of_getElem? ht)
        rw[←hj]at e
        have e2:ot.dst=some p.1:=e
        rw[e2]at h7
        simp at h7)
    have hfd:(fk m o).dst=some d:=hdst;rwa [hfd,yG1 _ _ _ _ hpd]at h3
   ·exfalso;obtain⟨k,hk⟩:∃k,i-pre.length=k+1:=⟨i-pre.length-1,by omega⟩;rw[hk]at hoi;simp only[List.getElem?_cons_succ]at hoi;have h8:=hT oi (List.mem_of_getElem? hoi);rw[Array.any_eq_true']at h8;obtain⟨ed,hed,h9⟩:=h8.2;simp only[Bool.and_eq_true]at h9;have h10:=hdep ed hed h9.1;rw[hJ ed.on (Nat.le_of_ble_eq_true h9.2)]at h10;cases h10
theorem yKr {id:Nat} {a:Act} (pre:List Oper) (o:Oper) (tl:List Oper) (d:Tmp) (sl:List (Tmp×Value)) (l:List Oper) (hl:l=pre++o::tl) (hm:P.follows .mixedOrders=true) (hB:∀m,Region.lexB .any (pre++(o::tl).map (fk m)).toArray=true)
  (hB2:yQc pre o tl d (sl.map (·.1))=true) (hdst:o.dst=some d) (hg:o.guard=none) (hC:C {w with drawn:=w.drawn+1})
  (h:∀m,wpQuiet P (pre++(o::tl).map (fk m)).toArray C (fun a'=>a'.tmps.getD d undef=m∧∀p∈sl,a'.tmps.getD p.1 undef=p.2) (pre++(o::tl).map (fk m)) a)
  (hop:∀(a':Act) (w':World) (K:Act→World→Prop),C w'→a'.defers=a.defers→(∀p∈sl,a'.tmps.getD p.1 undef=p.2)→o.wp P a' w' K Q):(Code.region id l.toArray true).wp P Q a w:=by
 subst hl;obtain⟨m,h0⟩:∃m,a.tmps.getD d undef≠m:=by
  by_cases q:a.tmps.getD d undef=.bool true
  ·exact⟨.bool false,by rw[q];intro e;cases e⟩
  ·exact⟨.bool true,q⟩
 have hBm:=hB m;simp only[Region.lexB,Bool.and_eq_true]at hBm;refine wp_region_any hm ?_;have h1:=wpAnyQ_lex (C:=C) (md:=.any) hBm.1 (pre++(o::tl).map (fk m)) 0 (Array.replicate (pre++(o::tl).map (fk m)).toArray.size false) a (by simp) (by simpa using hBm.2) (h m);have hz:(pre++o::tl).toArray.size=(pre++(o::tl).map (fk m)).length:=by simp
 rw[hz];have hz2:(pre++(o::tl).map (fk m)).toArray.size=(pre++(o::tl).map (fk m)).length:=by simp
 rw[hz2]at h1;refine yKl d sl hB2 hdst hg hop _ _ _ _ h1 hC h0 rfl ?_;intro j _;rw[Array.getD_eq_getD_getElem?,Array.getElem?_replicate];split<;>rfl
end
structure Out (w:World) where
 u:World
 out:Below w.heap.size w u
theorem yAv {id:Nat} {Q:Exit→Act→World→Prop} {a:Act} {l:List Oper} (hm:Tryz.prog.follows .mixedOrders=true) (hB:Region.lexB .any l.toArray=true)
  (h:wpQuiet Tryz.prog l.toArray (fun w'=>∃n:Out w,w'=n.u) (fun a'=>∀w',(∃n:Out w,w'=n.u)→Q .normal a' w') l a):(Code.region id l.toArray true).wp Tryz.prog Q a w:=
 wp_region_quiet (C:=fun w'=>∃n:Out w,w'=n.u) hm hB ⟨⟨_,(Below.refl _ _).drew⟩,rfl⟩ (by simpa using h)
theorem Calls.out_of {f:FuncId} {args:Array Value} {n:Out w} {v:Value}
  (h:Calls Tryz.prog f args n.u fun e w'=>e=.returned v∧Below n.u.heap.size n.u w'):Calls Tryz.prog f args n.u fun e w''=>e=.returned v∧∃m:Out w,w''=m.u:=
 h.mono fun _ w' ⟨he,hb⟩=>⟨he,⟨w',n.out.trans (hb.mono n.out.size)⟩,rfl⟩
theorem yRc {b off j:Nat} {L:List Ent} {x:Ent} (h:yA7 w b off L) (hb:b<w.heap.size) (hx:L[j]?=some x):
  (∀n:Out w,n.u.cell? ⟨b,off+j*6,none⟩=some (.string x.row))∧(∀n:Out w,n.u.cell? ⟨b,off+j*6+1,none⟩=some (.string x.fam))∧(∀n:Out w,n.u.cell? ⟨b,off+j*6+2,none⟩=some (.string x.qual))∧
  (∀n:Out w,n.u.cell? ⟨b,off+j*6+3,none⟩=some (.int .u64 x.ts))∧(∀n:Out w,n.u.cell? ⟨b,off+j*6+4,none⟩=some (.int .i64 x.kind))∧(∀n:Out w,n.u.cell? ⟨b,off+j*6+5,none⟩=some (.string x.val)):=
 ⟨fun n=>(h.below n.out hb j x hx).1,fun n=>(h.below n.out hb j x hx).2.1,fun n=>(h.below n.out hb j x hx).2.2.1,fun n=>(h.below n.out hb j x hx).2.2.2.1,fun n=>(h.below n.out hb j x hx).2.2.2.2.1,fun n=>(h.below n.out hb j x hx).2.2.2.2.2⟩
end Go.Proofs.YtkidabedcgngcaaGreatDoor
