import Derived.Deep.RegionHeld3
import Derived.Test.YtkidabedcgngcaaGreatDoorRows
import Derived.WalkKit
import Derived.ProofKit
import Derived.OpenShut
import Derived.ShutString
import Derived.ChangeOld
import Derived.Below
import Derived.WalkSpells
import Derived.WalkLawsBesides
import Derived.Outline
import Derived.Deep.Light
import Derived.Lib.SmallJoins
import Derived.OwnWalk
import Derived.Deep.MidRow
import Derived.Deep.DeepCutAuto
import Derived.Deep.RegionWith
import Derived.Deep.QuietTactic
import Derived.BigQuiet
import Derived.Lib.Bytealg
import Derived.Lib.Slices
import Derived.Lib.Walk
import Derived.Laws.Tables
import Derived.Laws.Rows
import Derived.Deep.WholeRow
import Derived.Deep.RegionLaw
import Derived.Deep.AppendLies
import Derived.Maps.AppendAt
import Derived.Recover
import Derived.RecoverIn
import Derived.Stop.Asserts
import Derived.Lib.TrailingZeros
import Derived.Laws.Bits64b
import Derived.RangeFuncNested
import Derived.RangeFuncBound
import Derived.RangeFuncCalls
import Derived.RangeFuncLeaves
import Derived.Shelf.Abstract
import Derived.Shelf.RegionOpen
import Derived.OwnWalkIn
import Derived.TacticsInMore
import Derived.LoopNIn
import Derived.LoopIn
import Derived.Maps.OwnSet
import Derived.Maps.OwnOps
import Derived.DeepKeys4
import Derived.OrdersIn
import Derived.Lib.ConvBytes
import Derived.Maps.RangeWalk
import Derived.Laws.IdiomRangeMap
import Derived.LaidMore
import Derived.Lib.LaidTab
import Derived.Stop.Joined
import Derived.Test.YtkidabedcgngcaaGreatDoorChecked
namespace Go.Proofs.YtkidabedcgngcaaGreatDoor
open Go.RowKit
set_option linter.unusedVariables false
theorem qA:(∀(a:Act) (n:Nat) (v:Value),a.put (some n) v={a with tmps:=a.tmps.setIfInBounds n v})∧(∀(a:Act) (v:Value),a.put none v=a)∧(∀(l:List Value) (i:Nat) (v:Value),l.toArray.setIfInBounds i v=(l.set i v).toArray)∧
  (∀(x v:Value) (l:List Value),(x::l).set 0 v=v::l)∧(∀(x v:Value) (l:List Value) (i:Nat),(x::l).set (i+1) v=x::l.set i v):=
 ⟨fun _ _ _=>rfl,fun _ _=>rfl,fun _ _ _=>by simp,fun _ _ _=>rfl,fun _ _ _ _=>rfl⟩
theorem qE {α:Sort _} (x:α):∃y,y=x:=⟨x,rfl⟩
theorem qB {w:World} {o:Obj}:Below w.heap.size w (w.alloc o):=(Below.refl _ _).alloc (Nat.le_refl _) _
end Go.Proofs.YtkidabedcgngcaaGreatDoor
namespace Go.Proofs.YtkidabedcgngcaaGreatDoor
theorem zzR0 {p:Prop} (h:p:=by (intro wz hSw;obtain⟨hz0,hz1,hz2,hz3⟩:=hSw;go_simp;(try with_reducible rfl))):p:=h
theorem zzR1 {p:Prop} (h:p:=by (intro wz hSw;obtain⟨hz0,hz1,hz2,hz3,hz4,hz5⟩:=hSw;go_simp;(try with_reducible rfl))):p:=h
theorem zzR2 {p:Prop} (h:p:=by (intro wz hSw;obtain⟨hz0,hz1⟩:=hSw;go_simp;(try with_reducible rfl))):p:=h
theorem zzR3 {p:Prop} (h:p:=by (intro wz hSw;go_simp;(try with_reducible rfl))):p:=h
theorem zzR4 {p:Prop} (h:p:=by (intro wz hSw;obtain⟨hz0,hz1,hz2⟩:=hSw;go_simp;(try with_reducible rfl))):p:=h
theorem zzR5 {p:Prop} (h:p:=by (intro wz hSw;obtain⟨hz0,hz1,hz2,hz3,hz4⟩:=hSw;go_simp;(try with_reducible rfl))):p:=h
theorem zzR6 {p:Prop} (h:p:=by (intro wz hSw;go_simp;(try simp only[zq,zr,zs,zwi,zwn,HW.1]);(try with_reducible rfl))):p:=h
theorem zzR7 {p:Prop} (h:p:=by (intro wz hSw;obtain⟨d0,d1,d2,d3,d4,d5,d6,d7,d8,d9,d10⟩:=hSw;go_simp;(try with_reducible rfl))):p:=h
theorem zzR8 {p:Prop} (h:p:=by (intro wz hSw;obtain⟨d0,d1,d2,d3,d4,d5,d6,d7,d8,d9⟩:=hSw;go_simp;(try with_reducible rfl))):p:=h
theorem zzR9 {p:Prop} (h:p:=by (intro wz hSw;obtain⟨d0,d1,d2,d3,d4⟩:=hSw;go_simp;(try with_reducible rfl))):p:=h
theorem zzR10 {p:Prop} (h:p:=by (intro wz hSw;obtain⟨d0,d1⟩:=hSw;go_simp;(try simp only[wo]);(try with_reducible rfl))):p:=h
theorem zzR11 {p:Prop} (h:p:=by (intro wz hSw;obtain⟨d0,d1,⟨d2,d3,d4,d5⟩,d6,d7,d8,d9⟩:=hSw;go_simp;(try with_reducible rfl))):p:=h
theorem zzR12 {p:Prop} (h:p:=by (intro wz hSw;obtain hz0:=hSw;go_simp;(try with_reducible rfl))):p:=h
theorem zzR13 {p:Prop} (h:p:=by (intro wz hSw;obtain _hz:=hSw;go_simp;(try with_reducible rfl))):p:=h
theorem zzR14 {p:Prop} (h:p:=by (intro wz hSw;obtain⟨d0,d1,d2,d3,d4,d5,d6,d7⟩:=hSw;go_simp;(try with_reducible rfl))):p:=h
theorem zzR15 {p:Prop} (h:p:=by (intro wz hSw;obtain⟨d0,d1,d2,d3,d4,d5,d6⟩:=hSw;have hlk:=d6.look_t S HH.out;go_simp;(try with_reducible rfl))):p:=h
theorem zzR16 {p:Prop} (h:p:=by (intro wz hSw;obtain⟨d1,d2,d3,d4⟩:=hSw;go_simp;(try with_reducible rfl))):p:=h
theorem zzR17 {p:Prop} (h:p:=by (intro wz hSw;obtain⟨d0,d1,d2,d3,d4,d5,d6⟩:=hSw;have hlk:=d6.look_f S HH.out;go_simp;(try with_reducible rfl))):p:=h
theorem zzR18 {p:Prop} (h:p:=by (intro wz hSw;obtain⟨d0,d1,d2,d3,d4,d5,d6,d7,d8⟩:=hSw;go_simp;(try with_reducible rfl))):p:=h
theorem zzR19 {p:Prop} (h:p:=by (intro wz hSw;obtain⟨hz0,hz1,hz2,hz3,hz4,hz5,hz6,hz7,hz8,hz9⟩:=hSw;go_simp;(try with_reducible rfl))):p:=h
theorem zzR20 {p:Prop} (h:p:=by (intro wz hSw;obtain⟨hz0,hz1,hz2,hz3,hz4,hz5⟩:=hSw;go_simp;(try simp only[hd1]);(try with_reducible rfl))):p:=h
theorem zzR21 {p:Prop} (h:p:=by (intro wz hSw;go_simp;(try simp only[z46]);(try with_reducible rfl))):p:=h
theorem zzR22 {p:Prop} (h:p:=by (intro wz hSw;obtain⟨hz0,hz1,hz2,hz3⟩:=hSw;go_simp;(try simp[hf,hq]);(try with_reducible rfl))):p:=h
theorem zzR23 {p:Prop} (h:p:=by (intro wz hSw;obtain⟨hz0,hz1,hz2,hz3,hz4,hz5⟩:=hSw;go_simp;(try simp only[hd2]);(try with_reducible rfl))):p:=h
theorem zzR24 {p:Prop} (h:p:=by (intro wz hSw;obtain⟨d0,d1⟩:=hSw;go_simp;(try with_reducible rfl))):p:=h
theorem zzR25 {p:Prop} (h:p:=by (intro wz hSw;obtain hz0:=hSw;go_simp;(try simp[gq]);(try with_reducible rfl))):p:=h
theorem zzR26 {p:Prop} (h:p:=by (intro wz hSw;obtain⟨d0,d1,d2,d3,d4,d5,d6,d7,d8⟩:=hSw;go_simp;(try with_reducible rfl);(try (rw[←acc_and,Bool.not_not])))):p:=h
theorem zzQ0 {p:Prop} (h:p:=by
 go_upto_region 7 with fail
 go_wp2_with fail
 refine HRp.mono ?_
 rintro e w3 ⟨u,rfl,hb3,hu⟩
 obtain⟨os,ho,hU0⟩:∃os,AltOk (sb n.s) 0 0 n.s.size os∧AltAt w3 (Bet W2.heap.size w3.heap.size) os u:=by
  rcases hu with⟨_,os,h1,h2⟩|⟨q,_⟩
  ·exact⟨os,h1,h2⟩
  ·exact absurd (HG.out hP0.out) q
 obtain⟨ua,un,uc,rfl⟩:∃a n cp,u=.slice a n cp:=by
  obtain⟨g,n,cp,rfl⟩:=hU0.slice;exact⟨_,_,_,rfl⟩
 obtain⟨cc,hcc⟩:∃c,c=(checkM (sb n.s)).1:=⟨_,rfl⟩
 obtain⟨kk,hkk⟩:∃k:Int,k=((checkM (sb n.s)).2:Int):=⟨_,rfl⟩
 rw[←hcc,←hkk]
 clear hcc hkk hu
 obtain⟨W4,hW4⟩:=qE ((w3.alloc (Obj.cells #[.slice ua un uc] 142)).alloc (Obj.cells #[.int .i64 cc,.int .i64 kk] 129):World)
 have hb4:Below w3.heap.size w3 W4:=by rw[hW4];exact(qB).alloc (by simp) _
 have hz3:=hb3.size
 have hz4:=hb4.size
 have k24:Below W2.heap.size W2 W4:=hb3.trans (hb4.mono hz3)
 have HA4:Hid (BoxAt W4 w.heap.size 142 1 w3.heap.size [.slice ua un uc]∧Below W2.heap.size W2 W4∧W2.heap.size≤W4.heap.size):=by
  refine⟨?_,k24,by omega⟩
  rw[hW4]
  exact BoxAt.ofHeap (vs:=#[.slice ua un uc]) (heap_alloc2_old w3 _ _) (by omega) rfl
 obtain⟨nn,hg0⟩:=ho.gr
 have ecut:cut (sb n.s) 0 n.s.size=sb n.s:=by unfold cut;rw[List.drop_zero,Nat.sub_zero,←sb_len,List.take_length]
 rw[ecut]at hg0
 have hwt:wtA os≤250:=by have:=wt_alt (fun xs t q=>wt_atom nn xs t q) hg0;rw[sb_len]at this;omega
 have hU4:AltAt W4 (Bet W2.heap.size w3.heap.size) os (.slice ua un uc):=hU0.move (S:=fun _=>False) (Chg.of_below hb4) (fun q hq=>hq.elim) (fun q _ z=>z)
 obtain⟨dd,hU5⟩:=hU4
 have hT4:TabD W4:=HT.1.chg (S:=fun _=>False) (Chg.of_below (HW2.2.2.2.trans (k24.mono HW2.2.2.2.size))) (fun q=>q)
 obtain⟨sa,sn,sc,hsl,hmk⟩:=makeMatcher_core W4 hT4 (fun k hk=>by have:=hk.2;omega) hU5 hwt
 simp only[Value.slice.injEq]at hsl
 obtain⟨rfl,rfl,rfl⟩:=hsl
 have HMk:Hid (Calls Tryz.prog 105 #[.agg #[.slice ua un uc]] W4 (MkR os W4)):=hmk
 have HGr:Hid (AltG (AtomG nn) os (sb n.s)∧wtA os≤250):=⟨hg0,hwt⟩
 obtain⟨rb,hrb⟩:=qE w3.heap.size
 rw[←hrb]at HA4
 go_upto_region 8 with fail
 rw[←hW4,←hrb]
 clear hW4 hrb ho hU0 hU5 hg0 hwt hT4 hmk ecut k24 hb3 hb4 hz3 hz4
 have a0:=HA4.1.cell (j:=0) rfl
 have HB4:Hid (∀wx,Below W4.heap.size W4 wx→BoxAt wx w.heap.size 111 8 (w.heap.size+1) (#[.int .i64 0,.string ⟨#[]⟩,.bool false,.string ⟨#[]⟩,.int .u64 0,.int .u64 0,.int .i64 0,.pointer none]).toList∧BoxAt wx w.heap.size 111 8 (w.heap.size+1+1) (eightV n none)∧Below w.heap.size w wx):=fun wx hx=>by
  have k:=HA4.2.1.trans (hx.mono HA4.2.2)
  exact⟨HW2.2.1.below k,HW2.2.2.1.below k,HW2.2.2.2.trans (k.mono HW2.2.2.2.size)⟩
 go_wp2_with fail
 refine HMk.mono ?_
 rintro e w5 ⟨M,G,cp,mp,rfl,H5⟩
 have hB5:=HB4.out w5 H5.2.2.2
 have q7:=hB5.2.1.cell (j:=7) rfl
 have g7:=hB5.2.1.frozen 7
 have hlm:=H5.1.ltM
 have hlg:=H5.1.ltG
 have hlp:=H5.2.2.1
 have hlp2:mp<w5.heap.size:=(Array.getElem?_eq_some_iff.1 H5.2.1).1
 have hz4:=HA4.2.2
 obtain⟨W6,hW6⟩:=qE (w5.setCell ⟨w.heap.size+1+1,7,none⟩ (.pointer (some ⟨M,0,none⟩)):World)
 have hc6:Chg (fun k=>k=w.heap.size+1+1) w5 W6:=by rw[hW6];exact Chg.of_set _ _ _ _ rfl
 have hs6:W6.heap.size=w5.heap.size:=by rw[hW6];simp
 have HBx:Hid (BoxAt W6 w.heap.size 111 8 (w.heap.size+1) (#[.int .i64 0,.string ⟨#[]⟩,.bool false,.string ⟨#[]⟩,.int .u64 0,.int .u64 0,.int .i64 0,.pointer none]).toList∧Below w.heap.size w W6∧w.heap.size+1<W6.heap.size∧TstAt W6 (w.heap.size+1+1+1) W6.heap.size n (.pointer (some ⟨M,0,none⟩))):=by
  refine⟨hB5.1.chg hc6 (by omega),Chg.below hB5.2.2 hc6 hB5.2.2.size (fun k q=>by omega),by have:=hB5.2.2.size;omega,.inr ⟨hP0.out,M,rfl,?_⟩⟩
  have hcor:=cor_P (.alt os) 1
  have e1:lyP (.alt os) 1=lyA os (Lay.no 1):=by simp only[lyP]
  rw[e1]at hcor
  have hnx:(lyA os (Lay.no 1)).nx≤256:=by have h8:=nx_A os (Lay.no 1);have h9:=HGr.2;simp only[Lay.no]at h8;simp only[Lay.no];omega
  have hM5:MchAt w5 W4.heap.size w5.heap.size M n.s:=⟨_,_,_,_,_,_,_,os,nn,HGr.1,HG.out hP0.out,H5.1,⟨0,StI.made H5.2.1⟩,fun b p hp=>(hcor.spt.tk p _ hp).2,hcor.spt.le,hnx,hlp,hlm.2,hlg.2,hlp2,fun s=>by
   have:=run_words os hnx s
   exact this⟩
  have h9:=hM5.chg hc6 (fun k q z=>by have:=z.1;omega) (fun q z=>by have:=HT.1.lt;omega)
  rw[hs6]
  exact h9.wide (by omega) (Nat.le_refl _) (by have:=HT.1.lt;omega)
 have HB6:Hid (BoxAt W6 w.heap.size 111 8 (w.heap.size+1+1) (eightV n (some ⟨M,0,none⟩))):=by
  rw[hW6]
  exact hB5.2.1.set 7 _
 have HE2:Hid (CteP n w (.returned (.agg #[.int .i64 n.kind,.string n.s,.bool n.hi,.string n.t,.int .u64 n.lo,.int .u64 n.up,.int .i64 n.n,.pointer (some ⟨M,0,none⟩)])) (set8 W6 (w.heap.size+1) n (some ⟨M,0,none⟩))∧BoxAt (set8 W6 (w.heap.size+1) n (some ⟨M,0,none⟩)) w.heap.size 111 8 (w.heap.size+1) (eightV n (some ⟨M,0,none⟩))):=HF.out W6 (some ⟨M,0,none⟩) HBx.1 HBx.2.1 HBx.2.2.1 HBx.2.2.2
 clear hlm hlg hlp hlp2 hz4 hc6 hs6 H5 hB5
 go_upto_region 9 with fail
 rw[←hW6]
 clear hW6 q7 g7 a0
 obtain⟨W9,hW9⟩:=qE (set8 W6 (w.heap.size+1) n (some ⟨M,0,none⟩))
 rw[←hW9]at HE2
 simp only[set8]at hW9
 obtain⟨m0,m1,m2,m3,m4,m5,m6,m7⟩:=HB6.c8
 obtain⟨r0,r1,r2,r3,r4,r5,r6,r7⟩:=HBx.1.c8
 have f0:=HBx.1.frozen 0
 have f1:=HBx.1.frozen 1
 have f2:=HBx.1.frozen 2
 have f3:=HBx.1.frozen 3
 have f4:=HBx.1.frozen 4
 have f5:=HBx.1.frozen 5
 have f6:=HBx.1.frozen 6
 have f7:=HBx.1.frozen 7
 go_wp2_with fail
 rw[←hW9]
 exact bodyPost_ret (ct_res (base:=w.heap.size) (g:=w.heap.size+1) rfl HE2.2) rfl HE2.1):p:=h
theorem zzQ1 {p:Prop} (h:p:=by
 try simp only[qA,List.getElem_toArray,List.getElem_cons_zero,List.getElem_cons_succ]
 refine anyT_take (i:=2) (v:=?va2) rfl (by kernel_rfl) (by kernel_rfl) (by kernel_rfl) (by kernel_rfl) (by decide) (fun _ _ _ h=>h) (Or.inl ⟨by rfl,?ya2⟩) (by simp) ?_
 case ya2=>exact zzR6
 try simp only[qA,List.getElem_toArray,List.getElem_cons_zero,List.getElem_cons_succ]
 refine anyT_take (i:=3) (v:=?va3) rfl (by kernel_rfl) (by kernel_rfl) (by kernel_rfl) (by kernel_rfl) (by decide) (fun _ _ _ h=>h) (Or.inl ⟨by rfl,?ya3⟩) (by simp) ?_
 case ya3=>exact zzR6
 try simp only[qA,List.getElem_toArray,List.getElem_cons_zero,List.getElem_cons_succ]
 refine anyT_take (i:=4) (v:=?va4) rfl (by kernel_rfl) (by kernel_rfl) (by kernel_rfl) (by kernel_rfl) (by decide) (fun _ _ _ h=>h) (Or.inl ⟨by rfl,?ya4⟩) (by simp) ?_
 case ya4=>exact zzR6
 try simp only[qA,List.getElem_toArray,List.getElem_cons_zero,List.getElem_cons_succ]
 refine anyT_take (i:=5) (v:=.int .i64 (n:Int)) rfl (by kernel_rfl) (by kernel_rfl) (by kernel_rfl) (by kernel_rfl) (by decide) (fun _ _ _ h=>h) (Or.inl ⟨by rfl,?ya5⟩) (by simp) ?_
 case ya5=>exact zzR6
 try simp only[qA,List.getElem_toArray,List.getElem_cons_zero,List.getElem_cons_succ]
 refine anyT_take (i:=6) (v:=?va6) rfl (by kernel_rfl) (by kernel_rfl) (by kernel_rfl) (by kernel_rfl) (by decide) (fun _ _ _ h=>h) (Or.inl ⟨by rfl,?ya6⟩) (by simp) ?_
 case ya6=>exact zzR6
 try simp only[qA,List.getElem_toArray,List.getElem_cons_zero,List.getElem_cons_succ]
 refine anyT_take (i:=7) (v:=?va7) rfl (by kernel_rfl) (by kernel_rfl) (by kernel_rfl) (by kernel_rfl) (by decide) (fun _ _ _ h=>h) (Or.inl ⟨by rfl,?ya7⟩) (by simp) ?_
 case ya7=>exact zzR6
 try simp only[qA,List.getElem_toArray,List.getElem_cons_zero,List.getElem_cons_succ]
 refine anyT_take (i:=8) (v:=?va8) rfl (by kernel_rfl) (by kernel_rfl) (by kernel_rfl) (by kernel_rfl) (by decide) (fun _ _ _ h=>h) (Or.inl ⟨by rfl,?ya8⟩) (by simp) ?_
 case ya8=>exact zzR3
 try simp only[qA,List.getElem_toArray,List.getElem_cons_zero,List.getElem_cons_succ]
 refine qO 9 rfl fun K hK=>?_
 go_simp
 refine hK.out _ _ (.inl rfl) ?_
 clear hK
 try simp only[qA,List.getElem_toArray,List.getElem_cons_zero,List.getElem_cons_succ]
 refine qD ?_
 go_wp2_with fail
 refine bodyPost_ret (v:=psV (sOr S (sOne a))) (by simp[results,Tryz.results137,go_sem,HW.2]) rfl ⟨rfl,?_⟩
 repeat (first|exact Below.refl _ _|refine Below.drew ?_|refine Below.alloc ?_ (by simp;done) _|refine Below.alloc ?_ (Nat.le_refl _) _|refine Below.alloc ?_ (by simp;omega) _)):p:=h
theorem zzQ2 {p:Prop} (h:p:=by
 go_wp2_with fail
 go_loopw[6,7] (fun jv nv wr=>∃(j n:Nat) (f:UInt8→Bool),j≤p.size∧n≤j∧jv=.int .i64 (j:Int)∧nv=.int .i64 (n:Int)∧ClsEq (sb p) (i+1) false j (decide (0<n)) f∧wr=W0) (fun jv _ _=>p.size-(intOf jv).toNat)
 case atStart=>exact⟨j0,0,fun _=>false,hj0,Nat.zero_le _,congrArg (Value.int .i64) (by rw[HJ0.out];simp<;>omega),rfl,HM0.out,rfl⟩
 case round=>
  obtain⟨j,n,f,hj,hnj,rfl,rfl,hE,hwr⟩:=hrel
  have HE:Hid (ClsEq (sb p) (i+1) false j (decide (0<n)) f):=hE
  rw[hwr]
  clear hE hwr HM0 HJ0 HNG
  by_cases hlt:j<p.size
  ·obtain⟨x,hx⟩:∃x,(sb p)[j]?=some x:=⟨_,List.getElem?_eq_getElem (by rw[sb_len];exact hlt)⟩
   obtain⟨_,gx⟩:=sb_get hx
   have HX:Hid ((sb p)[j]?=some x):=hx
   have zj:(j:Int)<(p.size:Int):=by omega
   clear hx
   by_cases hend:x=93∧0<n
   ·obtain⟨rfl,hn0⟩:=hend
    have zn:(0:Int)<(n:Int):=by omega
    have HF:Hid (∃f',classM (sb p) (i+1)=.inl (f',j+1)):=by
     refine⟨if false=true then fun c=> !f c else f,?_⟩
     rw[HE.eq,decide_eq_true hn0,cls_shut HX.out]
    obtain⟨f',hf'⟩:=HF.out
    have HF':Hid (classM (sb p) (i+1)=.inl (f',j+1)):=hf'
    clear hf' HF
    go_wp2_with fail
    exact bodyPost_ret (v:=.tuple #[.int .i64 ((j+1:Nat):Int),.agg #[.int .i64 0,.int .i64 0]]) (class_ret rfl rfl (HS.out (.int .i64 0) (.int .i64 0)).1) rfl ⟨.inl ⟨f',j+1,HF'.out,rfl⟩,(HS.out (.int .i64 0) (.int .i64 0)).2⟩
   ·have HG:Hid (clsM (sb p) j (decide (0<n)) f=match itemM (sb p) j with| .inr e=>.inr e| .inl (a,b,k)=>clsM (sb p) k true (wider f a b)):=cls_go (by rw[sb_len];omega) (fun q=>hend ⟨by have h1:=q.1;rw[HX.out]at h1;exact Option.some.inj h1,by simpa using q.2⟩)
    obtain⟨lo,k,b,hch⟩:∃lo k b,chM (sb p) j=(lo,k,b):=⟨_,_,_,rfl⟩
    have HCh:Hid (chM (sb p) j=(lo,k,b)):=hch
    have hkl:b=true→k≤p.size∧j<k:=fun q=>by
     subst q
     have:=chM_gt hch
     rw[sb_len]at this
     omega
    clear hch
    have hpick:((x.toNat:Int)==93)=false∨(¬(0:Int)<(n:Int)):=by
     by_cases h93:x=93
     ·exact .inr (fun q=>hend ⟨h93,by omega⟩)
     ·exact .inl (beq_eq_false_iff_ne.2 (ne_u8 (c:=93) h93))
    clear hend
    have hpk:(((x.toNat:Int)==93)=false)∨(((x.toNat:Int)==93)=true∧n=0):=by
     rcases hpick with q|q
     ·exact .inl q
     ·cases hq:((x.toNat:Int)==93)
      ·exact .inl rfl
      ·exact .inr ⟨rfl,by omega⟩
    clear hpick
    rcases hpk with h93|⟨h93,hn0⟩
    case' inr=>
     have zn:¬(0:Int)<(n:Int):=by omega
     clear hn0
    all_goals
     go_wp2_with fail
     refine(l4Ch_core p j W0 hp (by omega) lo k b HCh.out).mono ?_
     rintro e w1 ⟨rfl,hw1⟩
     rw[hw1]
     clear hw1
     cases b
     case false=>
      have HF:Hid (classM (sb p) (i+1)=.inr (2,k)):=by
       show classM (sb p) (i+1)=_
       rw[HE.eq,HG.out]
       unfold itemM
       rw[HCh.out]
      go_wp2_with fail
      exact bodyPost_ret (v:=.tuple #[.int .i64 0,.agg #[.int .i64 2,.int .i64 (k:Int)]]) (class_ret rfl rfl (HS.out (.int .i64 2) (.int .i64 (k:Int))).1) rfl ⟨.inr ⟨2,k,HF.out,rfl⟩,(HS.out (.int .i64 2) (.int .i64 (k:Int))).2⟩
     obtain⟨hks,hjk⟩:=hkl rfl
     clear hkl
     by_cases h45:(sb p)[k]?=some 45
     ·obtain⟨hk2,gk⟩:=sb_get h45
      have HK:Hid ((sb p)[k]?=some 45):=h45
      have zk:(k:Int)<(p.size:Int):=by omega
      obtain⟨hh,m,b2,hch2⟩:∃hh m b2,chM (sb p) (k+1)=(hh,m,b2):=⟨_,_,_,rfl⟩
      have HCh2:Hid (chM (sb p) (k+1)=(hh,m,b2)):=hch2
      have hml:b2=true→m≤p.size∧k<m:=fun q=>by
       subst q
       have:=chM_gt hch2
       rw[sb_len]at this
       omega
      clear hch2 h45
      go_wp2_with fail
      refine(l4Ch_core p (k+1) W0 hp (by omega) hh m b2 HCh2.out).mono ?_
      rintro e w2 ⟨rfl,hw2⟩
      rw[hw2]
      clear hw2
      cases b2
      ·have HF:Hid (classM (sb p) (i+1)=.inr (2,m)):=by
        show classM (sb p) (i+1)=_
        rw[HE.eq,HG.out]
        unfold itemM
        rw[HCh.out]
        simp only[]
        rw[if_pos HK.out,HCh2.out]
       go_wp2_with fail
       exact bodyPost_ret (v:=.tuple #[.int .i64 0,.agg #[.int .i64 2,.int .i64 (m:Int)]]) (class_ret rfl rfl (HS.out (.int .i64 2) (.int .i64 (m:Int))).1) rfl ⟨.inr ⟨2,m,HF.out,rfl⟩,(HS.out (.int .i64 2) (.int .i64 (m:Int))).2⟩
      ·obtain⟨hms,hkm⟩:=hml rfl
       clear hml
       by_cases hlo:hh<lo
       ·have zlo:(hh.toNat:Int)<(lo.toNat:Int):=by have:=UInt8.lt_iff_toNat_lt.1 hlo;omega
        have HF:Hid (classM (sb p) (i+1)=.inr (4,j)):=by
         show classM (sb p) (i+1)=_
         rw[HE.eq,HG.out]
         unfold itemM
         rw[HCh.out]
         simp only[]
         rw[if_pos HK.out,HCh2.out]
         simp only[]
         rw[if_pos hlo]
        go_wp2_with fail
        exact bodyPost_ret (v:=.tuple #[.int .i64 0,.agg #[.int .i64 4,.int .i64 (j:Int)]]) (class_ret rfl rfl (HS.out (.int .i64 4) (.int .i64 (j:Int))).1) rfl ⟨.inr ⟨4,j,HF.out,rfl⟩,(HS.out (.int .i64 4) (.int .i64 (j:Int))).2⟩
       ·have zlo:(lo.toNat:Int)≤(hh.toNat:Int):=by have:=UInt8.le_iff_toNat_le.1 (UInt8.not_lt.1 hlo);omega
        have HF:Hid (ClsEq (sb p) (i+1) false m true (wider f lo hh)):=by
         show ClsEq _ _ _ _ _ _
         unfold ClsEq
         rw[HE.eq,HG.out]
         unfold itemM
         rw[HCh.out]
         simp only[]
         rw[if_pos HK.out,HCh2.out]
         simp only[]
         rw[if_neg hlo]
        clear hlo
        go_wp2_with fail
        go_roundw
        case rel=>exact⟨m,n+1,wider f lo hh,hms,by omega,rfl,by go_num,by rw[decide_eq_true (Nat.succ_pos n)];exact HF.out,trivial⟩
        case measure=>simp[intOf];omega
     ·have HK:Hid (¬(sb p)[k]?=some 45):=h45
      have HF:Hid (ClsEq (sb p) (i+1) false k true (wider f lo lo)):=by
       show ClsEq _ _ _ _ _ _
       unfold ClsEq
       rw[HE.eq,HG.out]
       unfold itemM
       rw[HCh.out]
       simp only[]
       rw[if_neg HK.out]
      clear h45
      by_cases hke:k<p.size
      ·obtain⟨y,hy⟩:∃y,(sb p)[k]?=some y:=⟨_,List.getElem?_eq_getElem (by rw[sb_len];exact hke)⟩
       obtain⟨_,gy⟩:=sb_get hy
       have zk:(k:Int)<(p.size:Int):=by omega
       have zy:((y.toNat:Int)==45)=false:=beq_eq_false_iff_ne.2 (ne_u8 (c:=45) (fun q=>HK.out (by rw[hy,q])))
       clear hy
       go_wp2_with fail
       go_roundw
       case rel=>exact⟨k,n+1,wider f lo lo,hks,by omega,rfl,by go_num,by rw[decide_eq_true (Nat.succ_pos n)];exact HF.out,trivial⟩
       case measure=>simp[intOf];omega
      ·have zk:¬(k:Int)<(p.size:Int):=by omega
       go_wp2_with fail
       go_roundw
       case rel=>exact⟨k,n+1,wider f lo lo,hks,by omega,rfl,by go_num,by rw[decide_eq_true (Nat.succ_pos n)];exact HF.out,trivial⟩
       case measure=>simp[intOf];omega
  ·have HF:Hid (classM (sb p) (i+1)=.inr (2,p.size)):=by
    show classM (sb p) (i+1)=_
    rw[HE.eq,clsM,dif_neg (by rw[sb_len];exact hlt),sb_len]
   have zj:¬(j:Int)<(p.size:Int):=by omega
   go_wp2_with fail
   exact bodyPost_ret (v:=.tuple #[.int .i64 0,.agg #[.int .i64 2,.int .i64 (p.size:Int)]]) (class_ret rfl rfl (HS.out (.int .i64 2) (.int .i64 (p.size:Int))).1) rfl ⟨.inr ⟨2,p.size,HF.out,rfl⟩,(HS.out (.int .i64 2) (.int .i64 (p.size:Int))).2⟩):p:=h
theorem zzQ3 {p:Prop} (h:p:=by
 try simp only[qA,List.getElem_toArray,List.getElem_cons_zero,List.getElem_cons_succ]
 refine qO 14 rfl fun K hK=>?_
 go_simp
 refine hK.out _ _ (.inr HS3.out) ?_
 clear hK
 try simp only[qA,List.getElem_toArray,List.getElem_cons_zero,List.getElem_cons_succ]
 refine qO 15 rfl fun K hK=>?_
 go_simp
 refine hK.out _ _ (.inl rfl) ?_
 clear hK
 try simp only[qA,List.getElem_toArray,List.getElem_cons_zero,List.getElem_cons_succ]
 refine qD ?_
 obtain⟨W4,hW4⟩:=qE (set4 v3 M (bn*4) (sOr (T bn) (sOne a)):World)
 have HW4:Hid (MtrI W4 base M (withT T (lyP (.byte b) a)) G1 cp1 (a+1) (withE E (lyP (.byte b) a)) en mp∧BoxAt W4 w.heap.size 183 8 w.heap.size zsA.toList∧Chg (fun k=>k=M∨k=G) w W4∧(G1=G∨w.heap.size≤G1)):=by
  have hc:Chg (fun k=>k=M) v3 W4:=by rw[hW4];exact chg_set4 v3 M _ _ rfl
  have h1:MtrI W4 base M (updE T bn (sOr (T bn) (sOne a))) G1 cp1 (a+1) E en mp:=by rw[hW4,Nat.mul_comm bn 4];exact HM3.setT hlB _
  have k0:Chg (fun k=>k=M∨k=G) w W0:=Chg.of_below HW0.2.2.1
  have k1:Chg (fun k=>k=M∨k=G) w1 v3:=Chg.of_below HV.out
  have q0:=HW0.2.2.1.size
  refine⟨h1.iff (fun c p hc hp=>?_) (fun q p hq hp=>by simp[withE,lyP]) (fun p hp q=>by have:=h1.new p hp q;simp[withE,lyP,this]),HB3.1.chg hc (by omega),((k0.trans H1.2.1).trans k1).trans (hc.mono (fun k q=>.inl q)),?_⟩
  ·unfold withT updE
   by_cases e:c=bn
   ·subst e
    have:UInt8.ofNat c=b:=by rw[HBn.out];simp
    simp[sOr,sOne,lyP,this]
   ·have:¬UInt8.ofNat c=b:=fun q=>e (by rw[HBn.out,←q,UInt8.toNat_ofNat'];omega)
    rw[if_neg e]
    simp[lyP,this]
  ·rcases H1.2.2 with q|q
   ·exact .inl q
   ·exact .inr (by omega)
 have HSp:Hid (∀wx:World,Calls Tryz.prog 155 #[.int .i64 (a:Int)] wx fun e w'=>e=.returned (spV (sOne a) (sOne a))∧Below wx.heap.size wx w'):=fun wx=>singleSpan_core a ha wx
 have hW4':W4=(((v3.setCell ⟨M,bn*4,none⟩ (.int .u64 (wdN (sOr (T bn) (sOne a)) 0:Int))).setCell ⟨M,bn*4+1,none⟩ (.int .u64 (wdN (sOr (T bn) (sOne a)) 1:Int))).setCell ⟨M,bn*4+2,none⟩ (.int .u64 (wdN (sOr (T bn) (sOne a)) 2:Int))).setCell ⟨M,bn*4+3,none⟩ (.int .u64 (wdN (sOr (T bn) (sOne a)) 3:Int)):=hW4
 rw[←hW4']
 clear hW4 hW4' g0 g1 g2 g3 y0 y1 y2 y3 HS0 HS3 r0
 go_wp2_with fail
 refine(HSp.out _).mono ?_
 rintro e w5 ⟨rfl,hb5⟩
 have HB5:=HW4.2.1.below hb5
 obtain⟨r0,r1,r2,r3,r4,r5,r6,r7⟩:=HB5.c8
 have f0:=HB5.frozen 0
 have f1:=HB5.frozen 1
 have f2:=HB5.frozen 2
 have f3:=HB5.frozen 3
 have f4:=HB5.frozen 4
 have f5:=HB5.frozen 5
 have f6:=HB5.frozen 6
 have f7:=HB5.frozen 7
 have HF:Hid (LayR base M T G E en mp (lyP (.byte b) a) w (.returned (spV (sOne a) (sOne a))) (setSp w5 w.heap.size (sOne a) (sOne a))∧BoxAt (setSp w5 w.heap.size (sOne a) (sOne a)) w.heap.size 183 8 w.heap.size (spL (sOne a) (sOne a))):=by
  have h5:=HW4.1.below hb5
  have hc:Chg (fun k=>k=w.heap.size) w5 (setSp w5 w.heap.size (sOne a) (sOne a)):=chg_setSp w5 _ _ _ rfl
  have hG1:¬G1=w.heap.size:=fun q=>own_apart h5.row HB5 (by decide) G1 rfl (by rw[q];rfl)
  refine⟨⟨G1,cp1,rfl,⟨h5.chg hc (by omega) hG1 (fun k q=>by omega),?_,HW4.2.2.2⟩⟩,HB5.setSp _ _⟩
  have hx:=HW4.2.2.1.trans (Chg.of_below hb5)
  exact⟨hc.os.trans hx.os,hc.tape.trans hx.tape,hc.output.trans hx.output,Nat.le_trans hx.size hc.size,fun j hj hn=>(hc.block j (Nat.lt_of_lt_of_le hj hx.size) (by omega)).trans (hx.block j hj hn)⟩
 clear HB5 hb5
 go_wp2_with fail
 exact bodyPost_ret (v:=spV (sOne a) (sOne a)) (span_res135 (base:=w.heap.size) (g:=w.heap.size) rfl HF.2) rfl HF.1):p:=h
theorem zzQ4 {p:Prop} (h:p:=by
 clear hx1 hng hj0
 go_enter Tryz.func185,Tryz.ntmps185
 go_wp2_with fail
 go_loopw[5,7] (fun jv inv wr=>∃(j:Nat) (it gb:Bool),j≤q.size∧jv=.int .i64 (j:Int)∧inv=.bool gb∧Hid (∃g:UInt8→Bool,g b=gb∧clsM (sb q) j it g=.inl (f0,q.size))∧wr=w) (fun jv _ _=>q.size-(intOf jv).toNat)
 case atStart=>exact⟨_,false,false,by omega,by first|rfl|go_num,rfl,⟨fun _=>false,rfl,HC0.out⟩,rfl⟩
 case round=>
  obtain⟨j,it,gb,hj,rfl,rfl,HC,hwr⟩:=hrel
  rw[hwr]
  clear hwr
  obtain⟨g,hg,hC⟩:=HC.out
  have HG:Hid (g b=gb):=hg
  rcases hold_step hC with⟨h93,_,hf,hn⟩|⟨x,lo,k1,hx,hx93,hch,hk1,y,hy,hrest⟩
  ·obtain⟨_,gx⟩:=sb_get h93
   have zj:(j:Int)<(q.size:Int):=by have:=lt_of_at h93;rw[sb_len]at this;omega
   have HF:Hid (gb=f0 b):=by show gb=_;rw[←HG.out,hf]
   clear hC hg hf hn h93 HC0 HC
   go_wp2_with fail
   go_ret
   exact⟨by rw[HF.out,HFn.out b];cases f0 b<;>rfl,rfl⟩
  ·obtain⟨_,gx⟩:=sb_get hx
   obtain⟨_,gy⟩:=sb_get hy
   have hjl:=lt_of_at hx
   rw[sb_len]at hjl hk1
   have zj:(j:Int)<(q.size:Int):=by omega
   have zk:(k1:Int)<(q.size:Int):=by omega
   have hkj:=(chM_gt hch).1
   have z93:((x.toNat:Int)==93)=false:=beq_eq_false_iff_ne.2 (ne_u8 (c:=93) hx93)
   have HCh:Hid (chM (sb q) j=(lo,k1,true)):=hch
   clear hC hg hx hx93 hch hy HC0 HC
   go_wp2_with fail
   refine(l4Ch_core q j w hq (by omega) lo k1 true HCh.out).mono ?_
   rintro e' w' ⟨rfl,hw'⟩
   rw[hw']
   clear hw'
   rcases hrest with⟨h45,hi,m,hch2,hcl⟩|⟨h45,hcl⟩
   ·have z45:((y.toNat:Int)==45)=true:=by rw[h45];rfl
    have HCh2:Hid (chM (sb q) (k1+1)=(hi,m,true)):=hch2
    have hm:=(chM_gt hch2)
    rw[sb_len]at hm
    have HCl:Hid (clsM (sb q) m true (fun c=>g c || (decide (lo≤c) && decide (c≤hi)))=.inl (f0,q.size)):=hcl
    have HZ:Hid (((k1:Int)+1)=((k1+1:Nat):Int)):=by show _=_;omega
    clear hch2 hcl h45
    go_wp2_with fail
    rw[HZ.out]
    refine(l4Ch_core q (k1+1) w hq (by omega) hi m true HCh2.out).mono ?_
    rintro e' w' ⟨rfl,hw'⟩
    rw[hw']
    clear hw'
    cases gb
    case true=>
     have HV:Hid ((g b || (decide (lo≤b) && decide (b≤hi)))=true):=by show _=_;rw[HG.out];rfl
     go_wp2_with fail
     go_roundw
     case rel=>exact⟨m,true,true,by omega,by first|rfl|go_num,by first|rfl|(simp;omega),⟨_,HV.out,HCl.out⟩,trivial⟩
     case measure=>simp[intOf];omega
    case false=>
     by_cases hlo:lo≤b
     ·have hd1:((lo.toNat:Int)≤(b.toNat:Int)):=by have:=UInt8.le_iff_toNat_le.1 hlo;omega
      by_cases hhi:b≤hi
      ·have hd2:((b.toNat:Int)≤(hi.toNat:Int)):=by have:=UInt8.le_iff_toNat_le.1 hhi;omega
       have HV:Hid ((g b || (decide (lo≤b) && decide (b≤hi)))=true):=by show _=_;rw[HG.out];simp[hlo,hhi]
       go_wp2_with fail
       go_roundw
       case rel=>exact⟨m,true,true,by omega,by first|rfl|go_num,by first|rfl|(simp;omega),⟨_,HV.out,HCl.out⟩,trivial⟩
       case measure=>simp[intOf];omega
      ·have hd2:¬((b.toNat:Int)≤(hi.toNat:Int)):=fun q=>hhi (UInt8.le_iff_toNat_le.2 (by omega))
       have HV:Hid ((g b || (decide (lo≤b) && decide (b≤hi)))=false):=by show _=_;rw[HG.out];simp[hhi]
       go_wp2_with fail
       go_roundw
       case rel=>exact⟨m,true,false,by omega,by first|rfl|go_num,by first|rfl|(simp;omega),⟨_,HV.out,HCl.out⟩,trivial⟩
       case measure=>simp[intOf];omega
     ·have hd1:¬((lo.toNat:Int)≤(b.toNat:Int)):=fun q=>hlo (UInt8.le_iff_toNat_le.2 (by omega))
      have HV:Hid ((g b || (decide (lo≤b) && decide (b≤hi)))=false):=by show _=_;rw[HG.out];simp[hlo]
      go_wp2_with fail
      go_roundw
      case rel=>exact⟨m,true,false,by omega,by first|rfl|go_num,by first|rfl|(simp;omega),⟨_,HV.out,HCl.out⟩,trivial⟩
      case measure=>simp[intOf];omega
   ·have z45:((y.toNat:Int)==45)=false:=beq_eq_false_iff_ne.2 (ne_u8 (c:=45) h45)
    have HCl:Hid (clsM (sb q) k1 true (fun c=>g c || (decide (lo≤c) && decide (c≤lo)))=.inl (f0,q.size)):=hcl
    clear hcl h45
    cases gb
    case true=>
     have HV:Hid ((g b || (decide (lo≤b) && decide (b≤lo)))=true):=by show _=_;rw[HG.out];rfl
     go_wp2_with fail
     go_roundw
     case rel=>exact⟨k1,true,true,by omega,by first|rfl|go_num,by first|rfl|(simp;omega),⟨_,HV.out,HCl.out⟩,trivial⟩
     case measure=>simp[intOf];omega
    case false=>
     by_cases hlo:lo≤b
     ·have hd1:((lo.toNat:Int)≤(b.toNat:Int)):=by have:=UInt8.le_iff_toNat_le.1 hlo;omega
      by_cases hhi:b≤lo
      ·have hd2:((b.toNat:Int)≤(lo.toNat:Int)):=by have:=UInt8.le_iff_toNat_le.1 hhi;omega
       have HV:Hid ((g b || (decide (lo≤b) && decide (b≤lo)))=true):=by show _=_;rw[HG.out];simp[hlo,hhi]
       go_wp2_with fail
       go_roundw
       case rel=>exact⟨k1,true,true,by omega,by first|rfl|go_num,by first|rfl|(simp;omega),⟨_,HV.out,HCl.out⟩,trivial⟩
       case measure=>simp[intOf];omega
      ·have hd2:¬((b.toNat:Int)≤(lo.toNat:Int)):=fun q=>hhi (UInt8.le_iff_toNat_le.2 (by omega))
       have HV:Hid ((g b || (decide (lo≤b) && decide (b≤lo)))=false):=by show _=_;rw[HG.out];simp[hhi]
       go_wp2_with fail
       go_roundw
       case rel=>exact⟨k1,true,false,by omega,by first|rfl|go_num,by first|rfl|(simp;omega),⟨_,HV.out,HCl.out⟩,trivial⟩
       case measure=>simp[intOf];omega
     ·have hd1:¬((lo.toNat:Int)≤(b.toNat:Int)):=fun q=>hlo (UInt8.le_iff_toNat_le.2 (by omega))
      have HV:Hid ((g b || (decide (lo≤b) && decide (b≤lo)))=false):=by show _=_;rw[HG.out];simp[hlo]
      go_wp2_with fail
      go_roundw
      case rel=>exact⟨k1,true,false,by omega,by first|rfl|go_num,by first|rfl|(simp;omega),⟨_,HV.out,HCl.out⟩,trivial⟩
      case measure=>simp[intOf];omega):p:=h
theorem zzQ5 {p:Prop} (h:p:=by
 have hMm:¬M=mp:=box_mapD h.st.map h.st.mtr.box
 have hGm:¬G=mp:=fun q=>h.st.map.ne h.st.mtr.row q.symm
 have hMa:¬M=w.heap.size+1+1:=fun q=>own_apart h.st.mtr.box h.st.ans (by decide) M rfl (by rw[q];rfl)
 have hGa:¬G=w.heap.size+1+1:=fun q=>own_apart h.st.mtr.row h.st.ans (by decide) G rfl (by rw[q];rfl)
 have hbp:base≤mp:=HLp.out
 have hc8:Chg (fun k=>k=Dd) W7 (W7.putObj Dd (.deferred none)):=Chg.of_grown (grownBy_putObj' W7 Dd _) (fun j q=>by cases q;rfl)
 have hDd:=HA.2.2.2.2
 have HF:Hid (StQ base M T G cp a E en mp S w (.returned (stV (ahd E S) (acc en S))) (W7.putObj Dd (.deferred none))∧BoxAt (W7.putObj Dd (.deferred none)) w.heap.size 188 5 (w.heap.size+1+1) (stL (ahd E S) (acc en S))):=by
  have m6:=h.st.mtr.chg HA.2.2.2.1 hMm hGm (fun k q=>by omega)
  have m7:=m6.chg hc7 hMa hGa (fun k q=>by omega)
  have m8:=m7.chg hc8 (by omega) (by omega) (fun k q=>by omega)
  have hx:Chg (fun k=>k=mp) w w6:=h.low.trans HA.2.2.2.1
  have hx7:=chg_ownS hx (hc7.mono (fun k q=>by omega))
  have hx8:=chg_ownS hx7 (hc8.mono (fun k q=>by omega))
  refine⟨⟨rfl,m8,(HA.2.2.1.chg hc7 ha2).chg hc8 (fun q=>hDm q.symm),hx8⟩,?_⟩
  have b7':=hA6.set5 (ahd E S) (acc en S)
  rw[←hW7]at b7'
  exact b7'.chg hc8 (by omega)
 have hW7':=hW7
 simp only[set5]at hW7'
 clear hB6 hA6 hc7 hc8 hM6
 gi_wp2
 rw[←hW7']
 refine⟨by simp,.inl ⟨_,_,rfl,run_takeDeferred hKD,?_⟩⟩
 exact⟨_,st_res (base:=w.heap.size) (g:=w.heap.size+1+1) rfl HF.2,HF.1⟩):p:=h
theorem zzQ6 {p:Prop} (h:p:=by
 have heq:=ps_equal (stp E T Sk x)
 obtain⟨q0,q1,q2,q3⟩:=HW4.2.c4
 cases hne:noE (stp E T Sk x)with
 |true=>
  rw[hne]at heq
  have HFn:Hid ((false=true↔acc en (runS E T (sOne 0) (sb s))=true)):=by
   refine⟨fun q=>(by cases q),fun q=>?_⟩
   rw[HN.2.2]at q
   have hd:∀p,p<256→(stp E T Sk x) p=false:=fun p hp=>by
    cases hx:(stp E T Sk x) p with
    |false=>rfl
    |true=>have:=(noE_iff (stp E T Sk x)).2 ⟨p,hp,hx⟩;rw[hne]at this;cases this
   unfold acc at q
   rw[List.any_eq_true]at q
   obtain⟨p,hp,hx⟩:=q
   rw[runS_dead E T _ _ hd p (List.mem_range.1 hp)]at hx
   cases hx
  clear hne
  go_wp2_with fail
  go_ret
  exact⟨false,rfl,HFn.out,HW4.1.mtr,HW4.1.map,HW4.1.chg⟩
 |false=>
  rw[hne]at heq
  clear hne
  have HSt:Hid (Calls Tryz.prog 138 #[.pointer (some ⟨M,0,none⟩),psV (stp E T Sk x)] W4 (StW base M T G cp a E en mp (stp E T Sk x) W4)):=state_all (stp E T Sk x) W4 HW4.1.mtr HW4.1.map (fun p hp=>by
   unfold stp sAnd at hp
   rw[Bool.and_eq_true]at hp
   exact HT.out _ _ hp.2) ha hbm
  go_wp2_with fail
  refine HSt.mono ?_
  rintro e w5 ⟨rfl,H5⟩
  have hne5:=HW4.1.ne
  have HB5:=HW4.1.box.chg H5.2.2 (fun q=>hne5.2.2.1 q.symm)
  have r0:=HB5.cell (j:=0) rfl
  have f0:=HB5.frozen 0
  have r1:=HB5.cell (j:=1) rfl
  have f1:=HB5.frozen 1
  have r2:=HB5.cell (j:=2) rfl
  have f2:=HB5.frozen 2
  have r3:=HB5.cell (j:=3) rfl
  have f3:=HB5.frozen 3
  have r4:=HB5.cell (j:=4) rfl
  have f4:=HB5.frozen 4
  have HJ2:Hid (MaU w base M T G cp a E en mp b5 (runS E T (sOne 0) ((sb s).take (k+1))) (set5 w5 b5 (ahd E (stp E T Sk x)) (acc en (stp E T Sk x)))):=by
   have hc:Chg (fun j=>j=b5) w5 (set5 w5 b5 (ahd E (stp E T Sk x)) (acc en (stp E T Sk x))):=chg_set5 _ _ _ _ rfl
   have hbl:=HW3.2
   have hbs:=HI.2.2
   rw[HN.1]
   exact⟨H5.1.chg hc hne5.1 hne5.2.1 (fun j q=>by omega),H5.2.1.chg hc hne5.2.2.1,HB5.set5 _ _,chg_ownS (HW4.1.chg.trans H5.2.2) (hc.mono (fun j q=>by omega))⟩
  simp only[set5]at HJ2
  clear HB5
  go_wp2_with fail
  refine⟨⟨k+1,by omega,by go_num,HJ2⟩,?_⟩
  go_light
  simp[intOf];omega):p:=h
theorem zzQ7 {p:Prop} (h:p:=by
 have z3:(k:Int)<256:=by omega
 obtain⟨v,hv⟩:∃v,(setA (fun c=>f c || (decide (a≤c) && decide (c.toNat<k)))).toList[k]?=some v:=⟨_,setA_get _ k (by omega)⟩
 have d0:=HR.1.cell hv
 have f0:=HR.1.frozen k
 have HN:Hid (SetAt (wr.setCell ⟨w.heap.size,k,none⟩ (.bool true)) w.heap.size w.heap.size (fun c=>f c || (decide (a≤c) && decide (c.toNat<k+1)))∧SetAt (wr.setCell ⟨w.heap.size,k,none⟩ (.bool true)) w.heap.size (w.heap.size+1) (fun _=>false)∧PrAt (wr.setCell ⟨w.heap.size,k,none⟩ (.bool true)) base g p k5 o∧Chg (fun k=>k=g) w (wr.setCell ⟨w.heap.size,k,none⟩ (.bool true))):=by
  refine⟨?_,BoxAt.beside HR.2.1 (by omega) k _,BoxAt.beside HR.2.2.1 (by omega) k _,HR.2.2.2.absorb (Chg.of_set wr w.heap.size k _ (S:=fun q=>q=w.heap.size) rfl) (fun j q=>.inr (by omega))⟩
  have h5:=HR.1.set k (.bool true)
  rw[setA_set _ k true (by omega)]at h5
  have hn:(UInt8.ofNat k).toNat=k:=by rw[UInt8.toNat_ofNat'];omega
  refine SetAt.ext h5 (fun c=>?_)
  by_cases hc:c=UInt8.ofNat k
  ·have h6:a≤c:=UInt8.le_iff_toNat_le.2 (by rw[hc,hn];exact hk0)
   rw[if_pos hc,decide_eq_true h6,decide_eq_true (show c.toNat<k+1 by rw[hc,hn];omega)];simp
  ·rw[if_neg hc]
   have h6:¬c.toNat=k:=fun q=>hc (UInt8.toNat_inj.1 (by rw[hn];exact q))
   rw[show decide (c.toNat<k+1)=decide (c.toNat<k)from decide_eq_decide.2 ⟨fun q=>by omega,fun q=>by omega⟩]
 clear hv HR
 go_wp2_with fail
 go_roundw
 case rel=>exact⟨k+1,by omega,by omega,by go_num,HN.1,HN.2.1,HN.2.2.1,HN.2.2.2⟩
 case measure=>simp[intOf];omega):p:=h
theorem zzQ8 {p:Prop} (h:p:=by
 try simp only[qA,List.getElem_toArray,List.getElem_cons_zero,List.getElem_cons_succ]
 refine qO 11 rfl fun K hK=>?_
 go_simp
 refine hK.out _ _ (.inl rfl) ?_
 clear hK
 try simp only[qA,List.getElem_toArray,List.getElem_cons_zero,List.getElem_cons_succ]
 refine qD ?_
 have hc:Chg (fun j=>j=b7) v5 (set4 v5 b7 0 (sOr (ahdT E S k) (E x))):=chg_set4 _ _ _ _ rfl
 have hb7:=HR4.2
 have h5:=HV5.1
 have hbw:w.heap.size≤b7:=h5.made.lt.1
 have hLo:=HLo.out
 have hM:¬M=b7:=fun q=>own_apart h5.st.mtr.box h5.made (by decide) M rfl (by rw[q];rfl)
 have hG:¬G=b7:=fun q=>own_apart h5.st.mtr.row h5.made (by decide) G rfl (by rw[q];rfl)
 have hp:¬mp=b7:=h5.st.map.ne h5.made
 have hgt:w.heap.size+1+1<b7:=HGt.out
 refine⟨rfl,⟨Nat.le_trans HV5.2.size hc.size,fun j o hj ho _=>(hc.block j (Nat.lt_of_lt_of_le (Array.getElem?_eq_some_iff.1 ho).1 HV5.2.size) (by omega)).trans ((HV5.2.block j (Array.getElem?_eq_some_iff.1 ho).1).trans ho)⟩,?_⟩
 refine⟨h5.st.chg hc hM hG hp (fun j q=>by omega),?_,Chg.below h5.low hc h5.low.size (fun j q=>by omega),Nat.le_trans h5.size hc.size⟩
 rw[ahdT_succ hkx HA.2.1 HA.2.2]
 have h6:=own_set4 h5.made 0 (sOr (ahdT E S k) (E x))
 exact h6):p:=h
theorem zzQ9 {p:Prop} (h:p:=by
 have hfd:=regField c k
 go_wp2_with fail
 refine(HC.out _).mono ?_
 rintro r w2 ⟨rfl,hb2⟩
 have hs1:=hb1.size
 have HK:Hid (Below w.heap.size w w2):=(HW0.2.trans (hb1.mono hbw)).trans (hb2.mono (by omega))
 clear hb1 hb2 d0 d1 d2 d3 d4 d5 d6
 go_wp2_with fail
 go_ret
 refine⟨_,rfl,?_,HK.out⟩
 have hG:=HG.out
 have hB:=HB.out
 simp at hB
 rw[HV.out]
 simp[GoodN]
 simp_all):p:=h
theorem zzQ10 {p:Prop} (h:p:=by
 go_wp2_with fail
 go_ret
 exact⟨_,rfl,by simp[HF.out],HW0.2.trans (hb1.mono hbw)⟩):p:=h
theorem zzQ11 {p:Prop} (h:p:=by
 refine wpQuiet_nil ?_
 rintro w1 ⟨⟨wx,hb1⟩,rfl⟩
 have HJ1:=fin w1 hb1
 clear e0 e1 HI hb1 fin HX
 have b0:=HJ1.box.cell (j:=0) rfl
 have r0:=HJ1.res.cell (j:=0) rfl
 have rf:=HJ1.res.frozen 0
 go_wp2_with fail
 refine bodyPost_ret (v:=.agg #[.slice va us.length vc]) (by simp[results,Tryz.results152,go_sem,World.cell?_setCell_same _ _ _ r0]) rfl ?_
 have hc:=Chg.of_set w1 w.heap.size 0 (.slice va us.length vc) (S:=fun j=>j=w.heap.size) rfl
 refine⟨HJ1.chg.absorb hc (fun j q=>.inr (by omega)),.inl ⟨k,ts,_,HJ1.ok,HE.out,rfl,?_,BoxAt.chg HJ1.rd hc (by omega)⟩⟩
 refine(HJ1.row.seq HJ1.len (R:=fun j=>w.heap.size+2≤j) (fun i x t hx ht=>(HJ1.nodes i x t hx ht).move (S:=fun _=>False) (Chg.refl _ _) (fun _ q=>q.elim) (fun _ _ q=>q.1)) (fun j hj=>(World.ownsRow.lt HJ1.row j hj).1)).move hc (fun j q=>by subst q;exact fun z=>by omega) (fun j hj z=>⟨by omega,by have:=hc.size;omega⟩)):p:=h
theorem zzQ12 {p:Prop} (h:p:=by
 rcases h.2 with⟨h0,_⟩|⟨g',cap',cur,hv,_,_,hn,hcap,_,_⟩
 ·cases h0
 ·simp only[Value.slice.injEq,Option.some.injEq,Addr.mk.injEq,and_true,true_and]at hv
  obtain⟨rfl,rfl⟩:=hv
  exact⟨hn,hcap⟩):p:=h
theorem zzQ13 {p:Prop} (h:p:=by
 clear hO' hgr d0 d1 d2 d3 d4
 go_wp2_with fail
 go_roundw
 case rel=>exact⟨i+1,g',cp',m+1,by omega,by go_num,rfl,HN.out⟩
 case measure=>go_light;simp[intOf];omega):p:=h
theorem zzQ14 {p:Prop} (h:p:=by
 rintro e w1 ⟨rfl,hb1⟩
 have HE:Hid (Below w.heap.size w w1):=HW2.trans (hb1.mono HW2.size)
 clear hb1
 go_wp2_with fail
 go_ret
 exact⟨by rw[hv];rfl,HE.out⟩):p:=h
theorem zzQ15 {p:Prop} (h:p:=by
 obtain⟨W3,hW3⟩:=qE (W2.setCell ⟨wr.heap.size,2,none⟩ (.int .i64 ((x.nest:Int)+1)):World)
 have HK3:Hid (SoK w e WB wr.heap.size x.valid a x (x.nest+1) W3):=by rw[hW3];exact HK2.more (x.nest+1)
 go_upto_region 8 with fail
 rw[←hW3]
 clear hW3 m0 o1 o2 o2f w2 w2f HK2
 have o2:=HK3.ob.cell (j:=2) rfl
 have w2:=HK3.so.whole.cell (j:=2) rfl
 have w2f:=HK3.so.whole.frozen 2
 obtain⟨a2,ha2⟩:=qE (max a (x.nest+1))
 have HFin:Hid (nestFrom e.kind (j+1) a2 (os.drop (j+1))=tot∧a2≤2000):=⟨fin a2 (by rw[ha2,hlv];rfl),by omega⟩
 have ha3:max (a:Int) ((x.nest:Int)+1)=(a2:Int):=by omega
 clear fin hlv ha2
 go_wp2_with fail
 go_roundw
 case rel=>
  refine⟨j+1,a2,x.valid,by go_num,by omega,HFin.2,HVn.out,HFin.1,?_⟩
  exact HK3.done a2
 case measure=>simp[intOf];omega):p:=h
theorem zzQ16 {p:Prop} (h:p:=by
 obtain⟨W3,hW3⟩:=qE (W2.setCell ⟨wr.heap.size,2,none⟩ (.int .i64 ((x.nest:Int)+1)):World)
 have HK3:Hid (SoK w e WB wr.heap.size false a x (x.nest+1) W3):=by rw[hW3];exact HK2.more (x.nest+1)
 go_upto_region 8 with fail
 rw[←hW3]
 clear hW3 m0 o1 o2 o2f w2 w2f HK2
 have o2:=HK3.ob.cell (j:=2) rfl
 have w2:=HK3.so.whole.cell (j:=2) rfl
 have w2f:=HK3.so.whole.frozen 2
 obtain⟨a2,ha2⟩:=qE (max a (x.nest+1))
 have HFin:Hid (nestFrom e.kind (j+1) a2 (os.drop (j+1))=tot∧a2≤2000):=⟨fin a2 (by rw[ha2,hlv];rfl),by omega⟩
 have ha3:max (a:Int) ((x.nest:Int)+1)=(a2:Int):=by omega
 clear fin hlv ha2
 go_wp2_with fail
 go_roundw
 case rel=>
  refine⟨j+1,a2,false,by go_num,by omega,HFin.2,HVn.out,HFin.1,?_⟩
  exact HK3.done a2
 case measure=>simp[intOf];omega):p:=h
theorem zzQ17 {p:Prop} (h:p:=by
 try simp only[qA,List.getElem_toArray,List.getElem_cons_zero,List.getElem_cons_succ]
 refine qO 40 rfl fun K hK=>?_
 go_simp
 refine hK.out _ _ (.inr hSd) ?_
 clear hK
 try simp only[qA,List.getElem_toArray,List.getElem_cons_zero,List.getElem_cons_succ]
 refine qO 41 rfl fun K hK=>?_
 go_simp
 refine hK.out _ _ (.inl rfl) ?_
 clear hK
 try simp only[qA,List.getElem_toArray,List.getElem_cons_zero,List.getElem_cons_succ]
 refine qD ?_
 have HJ3:=HJ2.out false (by have h1:=HV.1;have h2:=HV.2.1;have h3:=HV.2.2;unfold viaF;rw[h1,h2,h3];simp[hik,hkj])
 go_wp2_with fail
 go_roundw
 case rel=>first|exact⟨j+1,by omega,by omega,by go_num,upd2 f i j false,HJ3⟩|exact⟨j+1,upd2 f i j false,by omega,by omega,by go_num,HJ3⟩
 case measure=>simp[intOf];omega):p:=h
theorem zzQ18 {p:Prop} (h:p:=by
 intro g' cp' w' hO' hgr hat
 have HN:Hid (∃P',A=P'++allC es j∧m+1=P'.length∧OwnCs w' w.heap.size g' cp' (P'.map (segV b off cap))∧Below w.heap.size w w'):=by
  refine⟨P++ [(i,j)],HX.out,by rw[List.length_append,←HP.2.1];rfl,by rw[List.map_append];exact hO',?_⟩
  have k1:=HP.2.2.2.trans (HBd.mono hbz)
  have k2:=k1.alloc k1.size (Obj.cells #[segV b off cap (i,j)] 28)
  exact k2.grown hgr k2.size (fun q hq=>by cases hq;omega)
 clear hO' hgr hat
 go_wp2_with fail
 go_roundw
 case rel=>exact⟨j,g',cp',m+1,by omega,rfl,rfl,by have:=HE.lt;omega,HN.out⟩
 case measure=>go_light;simp[intOf];have:=HE.lt;omega):p:=h
theorem zzQ19 {p:Prop} (h:p:=by
 have hfd:=regField c k
 go_wp2_with fail
 refine(HC.out _).mono ?_
 rintro r w2 ⟨rfl,hb2⟩
 clear c0 c1 c2 c3 c4 c5 c6
 go_wp2_with fail
 go_ret
 exact⟨_,rfl,by rw[HF.out];simp,HW0.2.trans (hb2.mono hbw)⟩):p:=h
theorem zzQ20 {p:Prop} (h:p:=by
 have f7:=HB5.frozen 7
 have HF:Hid (LayR base M T G E en mp l w (.returned (spV l.fst l.lst)) (setSp w5 w.heap.size l.fst l.lst)∧BoxAt (setSp w5 w.heap.size l.fst l.lst) w.heap.size 183 8 w.heap.size (spL l.fst l.lst)):=by
  obtain⟨f1,f2,f3⟩:=lay_fin H1.1 HB5 ((Chg.of_below HW0.2.1).trans H1.2.1) l.fst l.lst
  exact⟨⟨G1,cp1,rfl,⟨f1,f3,by rcases H1.2.2 with q|q;exact .inl q;exact .inr (by omega)⟩⟩,f2⟩
 clear HB5
 go_wp2_with fail
 exact bodyPost_ret (v:=spV l.fst l.lst) (span_res135 (base:=w.heap.size) (g:=w.heap.size) rfl HF.2) rfl HF.1):p:=h
theorem zzQ21 {p:Prop} (h:p:=by
 refine⟨h.1,?_⟩
 rcases h.2 with hn|⟨g',cap',cur,hv,h1,h2,rest⟩
 ·exact .inl hn
 ·simp only[Value.slice.injEq,Option.some.injEq,Addr.mk.injEq,and_true,true_and]at hv
  obtain⟨rfl,rfl⟩:=hv
  exact .inr ⟨g,cap,cur,rfl,h1,by rw[hb.block g hg];exact h2,rest⟩):p:=h
theorem zzQ22 {p:Prop} (h:p:=by
 go_wp2_with fail
 go_roundw
 case rel=>exact⟨i+1,g,cp,m,by omega,by go_num,rfl,HN.out⟩
 case measure=>go_light;simp[intOf];omega):p:=h
theorem zzQ23 {p:Prop} (h:p:=by
 intro j u hu
 have hj:j<6:=by
  have:=(List.getElem?_eq_some_iff.1 hu).1
  rw[length_cellsE]at this
  simpa using this
 rw[Addr.add_mid,Nat.zero_add]
 simp only[Nat.zero_mul,Nat.zero_add]at c0 c1 c2 c3 c4 c5
 match j,hj,hu with
 |0,_,hu=>simp[cellsE]at hu;rw[←hu];exact c0
 |1,_,hu=>simp[cellsE]at hu;rw[←hu];exact c1
 |2,_,hu=>simp[cellsE]at hu;rw[←hu];exact c2
 |3,_,hu=>simp[cellsE]at hu;rw[←hu];exact c3
 |4,_,hu=>simp[cellsE]at hu;rw[←hu];exact c4
 |5,_,hu=>simp[cellsE]at hu;rw[←hu];exact c5):p:=h
theorem zzQ24 {p:Prop} (h:p:=by
 have H:Hid (keyCmp a b=tsCmp a.ts b.ts):=keyCmp_ts h1 (by simp[ha,hb])
 clear h1 ha hb
 go_enter Tryz.func101,Tryz.ntmps101
 go_wp2_with fail
 refine(compareColumns_any a b _).mono ?_
 rintro e w1 ⟨rfl,hb1⟩
 obtain⟨hc1,hf1⟩:=bcell hb1
 have hz1:w.heap.size+1<w1.heap.size:=by have:=hb1.size;simp at this;omega
 go_wp2_with fail
 refine(cmpU64_any _ _ _).mono ?_
 rintro e w2 ⟨rfl,rfl⟩
 go_wp2_with fail
 go_ret
 exact⟨ret_int H.symm,((qB).alloc (by simp) _).trans (hb1.mono (by simp;omega))⟩):p:=h
theorem zzQ25 {p:Prop} (h:p:=by
 rintro k A B row hA hg hr
 have hc:Chg (fun j=>row=some j) A B:=Chg.of_grown hg (fun j q=>q)
 have hl:∀j,row=some j→W4.heap.size≤j:=fun j q=>(hr j q).1
 have hLo:=HLo.out
 have hb7:=HR4.2
 exact⟨hA.st.chg hc (fun q=>by have:=hl _ q;omega) (fun q=>by have:=hl _ q;omega) (fun q=>by have:=hl _ q;omega) (fun j q=>by have:=hl _ q;omega),hA.made.chg hc (fun q=>by have:=hl _ q;omega),Chg.below hA.low hc hA.low.size (fun j q=>by have:=hl _ q;omega),Nat.le_trans hA.size hc.size⟩):p:=h
theorem zzQ26 {p:Prop} (h:p:=by
 intro g' cp' w' hO' hgr
 have HN:Hid (CntOf es (q+1+1) (0+1)∧m+1=(leafG n [] (es.take (q+1+1))).length∧VsJ w b off cap es g' cp' (leafG n [] (es.take (q+1+1))) w'):=by
  rw[HSt.out]
  exact⟨HCt.out,by rw[List.length_append,←HKm.out];rfl,(HB2.1.move (qB)).push hO' hgr⟩
 clear hO' hgr d0 d1 d2 d3 d4
 go_wp2_with fail
 go_roundw
 case rel=>exact⟨q+1+1,g',cp',m+1,0+1,by omega,by go_num,rfl,by go_num,by omega,HN.out⟩
 case measure=>go_light;simp[intOf];omega):p:=h
theorem zzQ27 {p:Prop} (h:p:=by
 go_wp2_with fail
 go_ret
 exact⟨_,rfl,by rw[HF.out];simp;omega,HW0.2.trans (hb1.mono hbw)⟩):p:=h
theorem zzQ28 {p:Prop} (h:p:=by
 go_enter Tryz.func87,Tryz.ntmps87
 go_wp2_with fail
 all_goals go_ret
 all_goals exact⟨_,rfl,by simp_all,qB⟩):p:=h
theorem zzQ29 {p:Prop} (h:p:=by
 by_cases hgt:a<os1.nest+1
 ·have zg:(a:Int)<(os1.nest:Int)+1:=by omega
  go_wp2_with fail
  go_roundw
  case rel=>exact⟨j+1,os1.nest+1,by go_num,by go_num,by omega,by omega,HFin.out _ (by omega),HJ2.out⟩
  case measure=>simp[intOf];omega
 ·have zg:¬(a:Int)<(os1.nest:Int)+1:=by omega
  go_wp2_with fail
  go_roundw
  case rel=>exact⟨j+1,a,by go_num,rfl,by omega,by omega,HFin.out _ (by omega),HJ2.out⟩
  case measure=>simp[intOf];omega):p:=h
theorem zzQ30 {p:Prop} (h:p:=by
 go_wp2_with fail
 go_ret
 exact⟨ret_int H.symm,((qB).alloc (by simp) _).trans (hb1.mono (by simp;omega))⟩):p:=h
theorem zzQ31 {p:Prop} (h:p:=by
 obtain⟨fn,tmps,assign,body,hy,hRy⟩:=HY.out i j wr.drew HJd.out HE.out
 have hy2:segV b off cap (i,j)=.slice (some ⟨b,off+i*5,none⟩) (j-i) (cap-i):=rfl
 rw[hy2]at hy
 have x1:=(HR.out i wr.drew HJd.out).1
 have hji:i≤j:=by omega
 gi_wp2
 refine hRy.mono ?_
 rintro e W3 ⟨rfl,hJ3⟩
 have HJ3:Hid (J j W3):=hJ3
 clear hJ3 hRy hy x1
 gi_wp2
 go_roundw
 case rel=>exact⟨j,by omega,rfl,HJ3.out⟩
 case measure=>simp[intOf];omega):p:=h
theorem zzQ32 {p:Prop} (h:p:=by
 clear hb
 go_wp2_with fail
 go_ret
 exact⟨_,rfl,HF.out,HW0.2.trans (hb1.mono hbw)⟩):p:=h
theorem zzQ33 {p:Prop} (h:p:=by
 intro j u hu
 have hj:j=0:=by have:=(List.getElem?_eq_some_iff.1 hu).1;simpa using this
 subst hj
 simp at hu
 rw[Addr.add_mid,←hu];exact hc):p:=h
theorem zzQ34 {p:Prop} (h:p:=by
 intro g5 cp5 w5 hO5 hgr5
 have HFi:Hid (OwnC w5 w.heap.size g5 cp5 U∧m+za+zb=U.length∧Below w.heap.size w w5):=by
  rw[HE.out]
  exact⟨by first|exact hO5|(rw[←List.append_assoc];exact hO5),by rw[←List.append_assoc,List.length_append,←HKm2.out,←HLB.out],HN2.2.2.grown hgr5 hbz2 (fun q hq=>by cases hq;omega)⟩
 clear hO5 hgr5
 go_wp2_with fail
 go_ret
 refine⟨g5,cp5,?_,HFi.1,HFi.2.2⟩
 rw[←HFi.2.1];rfl):p:=h
theorem zzQ35 {p:Prop} (h:p:=by
 go_wp2_with fail
 exact bodyPost_ret (v:=spV l.fst l.lst) (span_res135 (base:=w.heap.size) (g:=w.heap.size) rfl HF.2) rfl HF.1):p:=h
theorem zzQ36 {p:Prop} (h:p:=by
 clear hgood
 go_wp2_with fail
 go_ret
 exact⟨_,rfl,by simp[HG.out],HW0.2⟩):p:=h
theorem zzQ37 {p:Prop} (h:p:=by
 have HN:Hid (CntOf es (q+1+1) (0+1)∧m=(leafG n [] (es.take (q+1+1))).length∧VsJ w b off cap es g cp (leafG n [] (es.take (q+1+1))) W1.drew):=by
  rw[HStep.2 gq]
  exact⟨HCt.out,HM.out,HB2.1⟩
 clear HStep
 go_wp2_with fail
 go_roundw
 case rel=>exact⟨q+1+1,g,cp,m,0+1,by omega,by go_num,rfl,by go_num,by omega,HN.out⟩
 case measure=>go_light;simp[intOf];omega):p:=h
theorem zzQ38 {p:Prop} (h:p:=by
 rintro e a3 W3 ⟨rfl,hk3,hi3⟩
 have hl3:=hk3.same _ _ (by omega) hl2 rfl
 have hr:=run_endRound (P:=Tryz.prog) none hl3
 rw[hrec]at hr hl3
 refine⟨_,_,hr,rfl,hI.putObj _ hi3 (by omega) hl3 rfl,?_,(World.putObj_heap_other (by omega)).trans (hk3.same _ _ (Nat.le_refl _) hk2 rfl)⟩
 rw[hrec]
 exact World.putObj_heap_same (Array.getElem?_eq_some_iff.1 hl3).1):p:=h
theorem zzQ39 {p:Prop} (h:p:=by
 obtain rfl:k=s.size:=by omega
 have zk:¬(s.size:Int)<(s.size:Int):=by omega
 go_wp2_with fail
 go_ret
 refine⟨g,cp,ρ,γ,f,rfl,hcp.1,⟨HJ.1.read,(relW_one (τ:=fun x=>x==c) (fun i j hij hj=>?_)).iff (fun _ _ _ _=>rfl) (fun y=>by simp[Lg])⟩,HJ.2.2⟩
 rw[sb_len]at hj
 rw[HJ.2.1 i j hij hj]
 by_cases e:j=i+1
 ·have h1:i<s.size:=by omega
  simp[h1]
 ·simp[e]):p:=h
theorem zzQ40 {p:Prop} (h:p:=by
 go_enter Tryz.func31,Tryz.ntmps31
 go_upto_region 1 with fail
 rw[←hW1]
 clear hW1
 go_wp2_with fail
 go_ret
 exact HE.out):p:=h
theorem zzQ41 {p:Prop} (h:p:=by
 go_enter Tryz.func129,Tryz.ntmps129
 go_wp2_with (go_at_call 150;refine(stringsCompare_any _ _ _).mono ?_;rintro e w' ⟨rfl,rfl⟩)
 go_ret
 exact⟨rfl,(qB).alloc (by simp) _⟩):p:=h
theorem zzQ42 {p:Prop} (h:p:=by
 intro j y hy
 obtain rfl:j=0:=by
  have:=(List.getElem?_eq_some_iff.1 hy).1
  simpa using this
 simp at hy
 subst hy
 simp):p:=h
theorem zzQ43 {p:Prop} (h:p:=by
 by_cases h1:1≤n
 ·go_wp2_with fail
  go_ret
  exact⟨_,rfl,by rw[HF.out];simp;omega,HW0.2⟩
 ·go_wp2_with fail
  go_ret
  exact⟨_,rfl,by rw[HF.out];simp;omega,HW0.2⟩):p:=h
theorem zzQ44 {p:Prop} (h:p:=by
 go_wp2_with fail
 refine⟨⟨k+1,upd2 f k (k+1) bv,by omega,by go_num,HJ2⟩,?_⟩
 go_light
 simp[intOf];omega):p:=h
theorem zzQ45 {p:Prop} (h:p:=by
 have hb1:Below w.heap.size w w1:=(Below.refl _ _).grown hgrow (Nat.le_refl _) (fun k hk=>by cases hk)
 clear hown hgrow
 go_wp2_with fail
 go_loopw[4] (fun i wr=>i=.int .i64 0∧wr=w1) (fun i _=>0)
 case atStart=>exact⟨rfl,rfl⟩
 case round=>
  obtain⟨rfl,rfl⟩:=hrel
  go_wp2_with fail
  go_ret
  exact⟨_,rfl,HW.out,hb1⟩):p:=h
theorem zzQ46 {p:Prop} (h:p:=by
 go_wp2_with fail
 refine HC1.mono ?_
 rintro e w4 ⟨g4,cp4,rfl,H4⟩
 have HE:Hid (OwnC w4 w.heap.size g4 cp4 (mean (.cond n ta tb tc) es)∧Below w.heap.size w w4):=by
  rw[HMe.out];exact⟨H4.1.mono HB3.size,HB3.trans (H4.2.mono HB3.size)⟩
 go_wp2_with fail
 go_ret
 exact⟨g4,cp4,by rw[HMe.out];rfl,HE.out⟩):p:=h
theorem zzQ47 {p:Prop} (h:p:=by
 have hlt:b<w.heap.size:=by
  obtain⟨cs',hc,_⟩:=hel6 0 (by omega)
  simpa [Addr.add]using World.cells?_block hc (by omega)
 subst hes
 refine⟨es,.inr ⟨b,off,m,rfl,fun i e he=>(hp i e he).2,hlt,hl,HM.out⟩,fun e he=>?_⟩
 obtain⟨i,hi⟩:=List.getElem?_of_mem he
 exact(hp i e hi).1):p:=h
theorem zzQ48 {p:Prop} (h:p:=by
 have hl:=congrArg List.length h
 rw[cut_len hm]at hl
 simp at hl
 have hj:j<m:=by omega
 obtain⟨d,hd⟩:∃d,p[j]?=some d:=⟨_,List.getElem?_eq_getElem (by omega)⟩
 rw[cut_cat (show j≤j+1 by omega) (show j+1≤m by omega),cut_one hd]at h
 simp at h
 exact⟨by rw[hd,h.1],h.2,hj⟩):p:=h
theorem zzQ49 {p:Prop} (h:p:=by
 refine⟨h.1,?_⟩
 rcases h.2 with hn|⟨g',cap',cur,hv,h1,rest⟩
 ·exact .inl hn
 ·exact .inr ⟨g',cap',cur,hv,Nat.le_trans hb h1,rest⟩):p:=h
theorem zzQ50 {p:Prop} (h:p:=by
 refine⟨a.toNat,Nat.le_refl _,by omega,congrArg (Value.int .i64) (wrap64_u8 a),SetAt.ext HW5.1 (fun c=>?_),HW5.2.1,HI2.1,HW5.2.2⟩
 by_cases q:a≤c
 ·have:=UInt8.le_iff_toNat_le.1 q
  rw[decide_eq_false (show¬c.toNat<a.toNat by omega)];simp
 ·rw[decide_eq_false q];simp):p:=h
theorem zzQ51 {p:Prop} (h:p:=by
 try simp only[qA,List.getElem_toArray,List.getElem_cons_zero,List.getElem_cons_succ]
 refine qD ?_
 go_wp2_with fail
 go_ret
 exact HE.out):p:=h
theorem zzQ52 {p:Prop} (h:p:=by
 by_cases hy0:y<0
 ·go_wp2_with fail
  go_ret
  exact⟨_,rfl,.inl rfl,hb2⟩
 ·have hy1:0≤y:=by omega
  have hy2:y+es.length≤left:=by omega
  go_wp2_with fail
  go_roundw
  case rel=>exact⟨k+1,y,by omega,by go_num,rfl,hy1,hy2,hb2⟩
  case measure=>simp[intOf];omega):p:=h
theorem zzQ53 {p:Prop} (h:p:=by
 rintro e W2 ⟨⟨v,rfl⟩,hi,hl,hk⟩
 exact⟨none,_,by have:=run_endLoop (P:=Tryz.prog) hl (by rw[hrec];simp);rw[hrec]at this;exact this,hdone _ _ (Nat.le_refl _) (hI.putObj _ hi (by omega) hl rfl) ((World.putObj_heap_other (by omega)).trans hk)⟩):p:=h
theorem zzQ54 {p:Prop} (h:p:=by
 go_wp2
 go_loopw[1,5] (fun l i wr=>l=.int .i64 left∧i=.int .i64 0∧Below w.heap.size w wr) (fun _ i _=>0)
 case atStart=>exact⟨rfl,rfl,Below.refl _ _⟩
 case round=>
  obtain⟨rfl,rfl,hb⟩:=hrel
  go_wp2_with fail
  go_ret
  exact⟨rfl,hb⟩):p:=h
theorem zzQ55 {p:Prop} (h:p:=by
 try simp only[qA,List.getElem_toArray,List.getElem_cons_zero,List.getElem_cons_succ]
 refine qD ?_
 go_wp2_with fail
 go_roundw
 case rel=>exact⟨j+1,by omega,by go_num,by rw[HN2.out];try go_num,HBd.out⟩
 case measure=>go_light;simp[intOf];omega):p:=h
theorem zzQ56 {p:Prop} (h:p:=by
 generalize hs: [s]=ss at h
 cases h with
 |nil=>cases hs
 | @snoc ss os xs n ho h=>
   have e:=List.append_inj' (s₁:= []) (t₁:= [s]) hs rfl
   obtain⟨e1,e2⟩:=e
   subst e1
   simp at e2
   exact⟨xs,n,os,rfl,ho,h,e2⟩):p:=h
theorem zzQ57 {p:Prop} (h:p:=by
 subst hv
 go_enter Tryz.func124,Tryz.ntmps124
 go_wp2_with fail
 go_ret
 exact⟨rfl,(qB).alloc (by simp) _⟩):p:=h
theorem zzQ58 {p:Prop} (h:p:=by
 clear hb c0 c1 c2 c3 c4 c5 c6
 go_wp2_with fail
 go_ret
 exact⟨_,rfl,HF.out,HW0.2.trans (hb2.mono hbw)⟩):p:=h
theorem zzQ59 {p:Prop} (h:p:=by
 have hfs:fs=es:=by
  have h:=HO.2.1
  rw[List.take_of_length_le (by have:=HO.1;omega),List.take_of_length_le (by omega)]at h
  exact h
 go_wp2
 go_ret
 exact⟨_,rfl,by rw[←hfs]at HO⊢;exact HO.2.2,hb⟩):p:=h
theorem zzQ60 {p:Prop} (h:p:=by
 have h1:=cut_cat (p:=p) (show j≤j+xs.length by omega) (show j+xs.length≤m by omega)
 rw[h]at h1
 have h2:=List.append_inj h1 (by rw[cut_len (by omega)];omega)
 exact⟨h2.1.symm,h2.2.symm,by omega⟩):p:=h
theorem zzQ61 {p:Prop} (h:p:=by
 go_enter Tryz.func74,Tryz.ntmps74
 go_wp2_with fail
 rw[←hW2]
 go_ret
 exact hv▸HFin.out W2 HW2.out):p:=h
theorem zzQ62 {p:Prop} (h:p:=by
 have H2:Hid (PairsTo es (m+1+1)):=pairsTo_succ HV.2 HKp.out HK.2.1 ho
 go_wp2_with fail
 go_roundw
 case rel=>exact⟨m+1+1,by omega,by go_num,H.out,H2.out,hb4⟩
 case measure=>simp[intOf];omega):p:=h
theorem zzQ63 {p:Prop} (h:p:=by
 go_enter Tryz.func95,Tryz.ntmps95
 go_wp2
 go_ret
 exact⟨by simp,(qB).alloc (by simp) _⟩):p:=h
theorem zzQ64 {p:Prop} (h:p:=by
 clear hop
 go_enter Tryz.func100,Tryz.ntmps100
 go_wp2_with (go_at_call 128;refine(strength_core _ _).mono ?_;rintro e' w' ⟨rfl,rfl⟩)
 go_ret
 exact⟨by rw[HL.out];rfl,rfl⟩):p:=h
theorem zzQ65 {p:Prop} (h:p:=by
 rcases hown.2 with⟨hv,_⟩|⟨g',cap',cur,hv,h1,h2,h3⟩
 ·have:=(hnil.1 hv).1
  simp at this
 ·subst hv
  exact h g' cap' w' (by unfold OwnC;rw[hlen'];exact hown) hgr):p:=h
theorem zzQ66 {p:Prop} (h:p:=by
 go_enter Tryz.func92,Tryz.ntmps92
 go_wp2_with (go_at_call 121;refine(l5Strength_core _ _).mono ?_;rintro e' w' ⟨rfl,rfl⟩)
 go_ret
 exact⟨by rw[HL.out];rfl,rfl⟩):p:=h
theorem zzQ67 {p:Prop} (h:p:=by
 have zb:(200:Int)<(n:Int):=by omega
 have HF:Hid (¬GoodF xs):=fun q=>by have:=q.1;have:=HN.out;omega
 go_wp2_with fail
 go_ret
 exact⟨_,rfl,by simp[HF.out],HW0.2⟩):p:=h
theorem zzQ68 {p:Prop} (h:p:=by
 clear hO' hb3 HI HPt
 go_wp2_with fail
 go_roundw
 case rel=>exact⟨i+1,g',cp',_,by omega,by go_num,rfl,rfl,HJ2.1,HJ2.2⟩
 case measure=>go_light;simp[intOf];omega):p:=h
theorem zzQ69 {p:Prop} (h:p:=by
 have hj:=(List.getElem?_eq_some_iff.1 h).1
 rw[List.drop_eq_getElem_cons hj,show os[j]=o from Option.some.inj ((List.getElem?_eq_getElem hj).symm.trans h)]
 rfl):p:=h
theorem zzQ70 {p:Prop} (h:p:=by
 go_enter Tryz.func123,Tryz.ntmps123
 go_wp2
 go_ret
 exact⟨ret_int H.symm,rfl⟩):p:=h
theorem zzQ71 {p:Prop} (h:p:=by
 go_enter Tryz.func119,Tryz.ntmps119
 go_wp2_with fail
 go_ret
 exact⟨rfl,rfl⟩):p:=h
theorem zzQ72 {p:Prop} (h:p:=by
 induction h with
 |nil=>exact .nil
 | @snoc ss os xs n ho h ih=>
   rw[List.length_append]
   refine IsT.snoc n ?_
   rw[←ho,←List.length_append];exact ih):p:=h
theorem zzQ73 {p:Prop} (h:p:=by
 have hi:=(List.getElem?_eq_some_iff.1 h).1
 rw[List.drop_eq_getElem_cons hi,show l[i]=x from Option.some.inj ((List.getElem?_eq_getElem hi).symm.trans h)]):p:=h
theorem zzQ74 {p:Prop} (h:p:=by
 go_enter Tryz.func40,Tryz.ntmps40
 go_wp2_with fail
 go_ret
 exact⟨rfl,rfl⟩):p:=h
theorem zzQ75 {p:Prop} (h:p:=by
 go_enter Tryz.func61,Tryz.ntmps61
 go_wp2_with fail
 go_ret
 exact⟨rfl,rfl⟩):p:=h
theorem zzQ76 {p:Prop} (h:p:=by
 refine wpQuiet_nil ?_
 rintro w2 ⟨⟨wx,hb2⟩,rfl⟩
 go_wp2_with fail
 go_ret
 exact⟨_,rfl,iffF HF.out,HW1.2.2.1.trans (hb2.mono HW1.2.2.1.size)⟩):p:=h
theorem zzQ77 {p:Prop} (h:p:=by
 rcases h with h|⟨b,off,cap,hv,hE,hlt,h1,h2⟩
 ·exact .inl h
 ·exact .inr ⟨b,off,cap,hv,hE.below hb (by omega),by have:=hb.size;omega,h1,h2⟩):p:=h
theorem zzQ78 {p:Prop} (h:p:=by
 go_enter Tryz.func148,Tryz.ntmps148
 go_wp2_with fail
 refine(HS.out _).mono ?_
 rintro e w1 ⟨rfl,hb1⟩
 go_wp2_with fail
 go_ret
 exact⟨rfl,hb1⟩):p:=h
theorem zzQ79 {p:Prop} (h:p:=by
 go_wp2_with fail
 go_ret
 have e1:m=es.length:=by omega
 refine⟨fs,?_,HR.2.1,HR.2.2.1,?_,HG.out⟩
 ·rw[HR.1,e1];rfl
 ·rw[←e1];exact HR.2.2.2):p:=h
theorem zzQ80 {p:Prop} (h:p:=by
 go_wp2_with fail
 go_roundw
 case rel=>exact⟨i+1,o,true,by omega,by omega,rfl,rfl,by go_num,HF.out,HB.out⟩
 case measure=>simp[intOf];omega):p:=h
theorem zzQ81 {p:Prop} (h:p:=by
 have h0:j=p.length:=by omega
 have:itemM p j=.inr (2,p.length):=by
  unfold itemM
  rw[chM_end (List.getElem?_eq_none (by omega)),h0]
 rw[this]):p:=h
theorem zzQ82 {p:Prop} (h:p:=by
 exact(hn.mono (fun _ _ q=>AtomG.mono (Nat.le_max_left _ _) q)).snoc (hm.mono (fun _ _ q=>AtomG.mono (Nat.le_max_right _ _) q))):p:=h
theorem zzQ83 {p:Prop} (h:p:=by
 go_wp2_with fail
 go_roundw
 case rel=>exact⟨j+1,by go_num,by omega,by omega,HN.out,hb⟩
 case measure=>simp[intOf];omega):p:=h
theorem zzQ84 {p:Prop} (h:p:=by
 obtain⟨n,hn⟩:=h
 exact⟨n,hn.mono (fun t v q=>q.mono (vals_move hc hS hl) (Nat.le_refl _)) (vals_move hc hS hl)⟩):p:=h
end Go.Proofs.YtkidabedcgngcaaGreatDoor
namespace Go.Proofs.YtkidabedcgngcaaGreatDoor
set_option linter.unusedVariables false
set_option linter.unusedSimpArgs false
inductive Pat where
 |byte (b:UInt8)
 |cls (f:UInt8→Bool)
 |rep (t:Pat) (opt rpt:Bool)
 |alt (os:List (List Pat))
abbrev isOp (c:UInt8):Prop:=c=42∨c=43∨c=63
abbrev isEnd (c:UInt8):Prop:=isOp c∨c=124∨c=41∨c=93
def chM (p:List UInt8) (i:Nat):UInt8×Nat×Bool:=
 match p[i]? with
 |none=>(0,i,false)
 |some c=>if c=93∨c=45 then(0,i,false)else if c=92 then(match p[i+1]? with|none=>(0,i+1,false)|some d=>(d,i+2,true))else(c,i+1,true)
theorem chM_gt {p:List UInt8} {i k:Nat} {c:UInt8} (h:chM p i=(c,k,true)):i<k∧k≤p.length:=by
 unfold chM at h
 split at h
 ·cases h
 ·next c' hc=>
  have h0:=(List.getElem?_eq_some_iff.1 hc).1
  split at h
  ·cases h
  ·split at h
   ·split at h
    ·cases h
    ·next d hd=>
     have h1:=(List.getElem?_eq_some_iff.1 hd).1
     simp only[Prod.mk.injEq]at h
     omega
   ·simp only[Prod.mk.injEq]at h
    omega
def itemM (p:List UInt8) (j:Nat):(UInt8×UInt8×Nat) ⊕ (Int×Nat):=
 match chM p j with
 |(_,k,false)=>.inr (2,k)
 |(lo,k,true)=>
  if p[k]?=some 45 then
   match chM p (k+1)with
   |(_,m,false)=>.inr (2,m)
   |(hi,m,true)=>if hi<lo then .inr (4,j)else .inl (lo,hi,m)
  else .inl (lo,lo,k)
theorem itemM_gt {p:List UInt8} {j k:Nat} {a b:UInt8} (h:itemM p j=.inl (a,b,k)):j<k∧k≤p.length∧a≤b:=by
 unfold itemM at h
 split at h
 ·cases h
 ·next lo k' hk=>
  have h1:=chM_gt hk
  split at h
  ·split at h
   ·cases h
   ·next hi m hm=>
    have h2:=chM_gt hm
    split at h
    ·cases h
    ·next hle=>
     simp only[Sum.inl.injEq,Prod.mk.injEq]at h
     obtain⟨rfl,rfl,rfl⟩:=h
     exact⟨by omega,by omega,UInt8.not_lt.1 hle⟩
  ·simp only[Sum.inl.injEq,Prod.mk.injEq]at h
   obtain⟨rfl,rfl,rfl⟩:=h
   exact⟨by omega,by omega,UInt8.le_refl _⟩
def clsM (p:List UInt8) (j:Nat) (items:Bool) (f:UInt8→Bool):((UInt8→Bool)×Nat) ⊕ (Int×Nat):=
 if h:j<p.length then
  if p[j]?=some 93∧items=true then .inl (f,j+1)
  else match hi:itemM p j with
   | .inr e=>.inr e
   | .inl (a,b,k)=>clsM p k true (fun c=>f c || (decide (a≤c) && decide (c≤b)))
 else .inr (2,p.length)
termination_by p.length-j
decreasing_by have:=itemM_gt hi;omega
def classM (p:List UInt8) (i:Nat):((UInt8→Bool)×Nat) ⊕ (Int×Nat):=
 if p[i]?=some 94 then(match clsM p (i+1) false (fun _=>false)with| .inl (f,k)=>.inl (fun c=> !f c,k)| .inr e=>.inr e)
 else clsM p i false (fun _=>false)
theorem clsM_gt:∀(n:Nat) {p:List UInt8} {j:Nat} {b:Bool} {f g:UInt8→Bool} {k:Nat},p.length-j≤n→clsM p j b f=.inl (g,k)→j<k∧k≤p.length
 |n,p,j,b,f,g,k,hn,h=>by
  unfold clsM at h
  split at h
  ·next hj=>
   split at h
   ·simp only[Sum.inl.injEq,Prod.mk.injEq]at h
    omega
   ·split at h
    ·cases h
    ·next a b' k' hk=>
     have h1:=itemM_gt hk
     match n,hn with
     |0,hn=>omega
     |n+1,hn=>
      have h2:=clsM_gt n (by omega) h
      omega
  ·cases h
theorem classM_gt {p:List UInt8} {i:Nat} {g:UInt8→Bool} {k:Nat} (h:classM p i=.inl (g,k)):i<k∧k≤p.length:=by
 unfold classM at h
 split at h
 ·split at h
  ·next hc=>
   have:=clsM_gt _ (Nat.le_refl _) hc
   simp only[Sum.inl.injEq,Prod.mk.injEq]at h
   omega
  ·cases h
 ·exact clsM_gt _ (Nat.le_refl _) h
theorem itemM_err {p:List UInt8} {j:Nat} {c:Int} {k:Nat} (h:itemM p j=.inr (c,k)):¬c=0:=by
 unfold itemM at h
 split at h
 ·simp only[Sum.inr.injEq,Prod.mk.injEq]at h;omega
 ·split at h
  ·split at h
   ·simp only[Sum.inr.injEq,Prod.mk.injEq]at h;omega
   ·split at h
    ·simp only[Sum.inr.injEq,Prod.mk.injEq]at h;omega
    ·cases h
  ·cases h
theorem clsM_err:∀(n:Nat) {p:List UInt8} {j:Nat} {b:Bool} {f:UInt8→Bool} {c:Int} {k:Nat},p.length-j≤n→clsM p j b f=.inr (c,k)→¬c=0
 |n,p,j,b,f,c,k,hn,h=>by
  unfold clsM at h
  split at h
  ·split at h
   ·cases h
   ·split at h
    ·next e he=>
     simp only[Sum.inr.injEq]at h
     subst h
     exact itemM_err he
    ·next a b' k' hk=>
     have h1:=itemM_gt hk
     match n,hn with
     |0,hn=>omega
     |n+1,hn=>exact clsM_err n (by omega) h
  ·simp only[Sum.inr.injEq,Prod.mk.injEq]at h;omega
theorem classM_err {p:List UInt8} {i:Nat} {c:Int} {k:Nat} (h:classM p i=.inr (c,k)):¬c=0:=by
 unfold classM at h
 split at h
 ·split at h
  ·cases h
  ·next e he=>
   simp only[Sum.inr.injEq]at h
   subst h
   exact clsM_err _ (Nat.le_refl _) he
 ·exact clsM_err _ (Nat.le_refl _) h
def chkM (p:List UInt8) (i o:Nat) (a:Bool):Int×Nat:=
 if h:i<p.length then
  if p[i]=40 then(if o=20 then(3,i)else chkM p (i+1) (o+1) false)
  else if p[i]=41 then(if o=0 then(2,i)else chkM p (i+1) (o-1) true)
  else if p[i]=124 then chkM p (i+1) o false
  else if p[i]=42∨p[i]=43∨p[i]=63 then(if a=true then chkM p (i+1) o true else(2,i))
  else if p[i]=91 then(match hc:classM p (i+1)with| .inr e=>e| .inl (f,k)=>chkM p k o true)
  else if p[i]=93 then(2,i)
  else if p[i]=92 then(if i+1=p.length then(2,p.length)else chkM p (i+2) o true)
  else chkM p (i+1) o true
 else if 0<o then(2,p.length)else(0,0)
termination_by p.length-i
decreasing_by
 all_goals first
  |(have:=classM_gt hc;omega)
  |omega
variable {p:List UInt8} {i o:Nat} {a:Bool} {c:UInt8}
theorem lt_of_at (h:p[i]?=some c):i<p.length:=(List.getElem?_eq_some_iff.1 h).1
theorem get_of_at (h:p[i]?=some c):p[i]'(lt_of_at h)=c:=(List.getElem?_eq_some_iff.1 h).2
theorem chk_end (h:¬i<p.length):chkM p i o a=if 0<o then(2,p.length)else(0,0):=by rw[chkM,dif_neg h]
theorem chk_open (h:p[i]?=some 40):chkM p i o a=if o=20 then(3,i)else chkM p (i+1) (o+1) false:=by
 rw[chkM,dif_pos (lt_of_at h),if_pos (get_of_at h)]
theorem chk_close (h:p[i]?=some 41):chkM p i o a=if o=0 then(2,i)else chkM p (i+1) (o-1) true:=by
 rw[chkM,dif_pos (lt_of_at h),get_of_at h];simp
theorem chk_bar (h:p[i]?=some 124):chkM p i o a=chkM p (i+1) o false:=by
 rw[chkM,dif_pos (lt_of_at h),get_of_at h];simp
theorem chk_op (h:p[i]?=some c) (hc:isOp c):chkM p i o a=if a=true then chkM p (i+1) o true else(2,i):=by
 rw[chkM,dif_pos (lt_of_at h),get_of_at h]
 rcases hc with rfl|rfl|rfl<;>simp
theorem chk_rb (h:p[i]?=some 93):chkM p i o a=(2,i):=by
 rw[chkM,dif_pos (lt_of_at h),get_of_at h];simp
theorem chk_class (h:p[i]?=some 91):chkM p i o a=match classM p (i+1)with| .inr e=>e| .inl (f,k)=>chkM p k o true:=by
 rw[chkM,dif_pos (lt_of_at h),get_of_at h]
 simp only[show¬(91:UInt8)=40 by decide,show¬(91:UInt8)=41 by decide,show¬(91:UInt8)=124 by decide,show¬((91:UInt8)=42∨(91:UInt8)=43∨(91:UInt8)=63)by decide,if_false,if_true]
 split<;>(next hc=>rw[hc])
theorem chk_esc (h:p[i]?=some 92):chkM p i o a=if i+1=p.length then(2,p.length)else chkM p (i+2) o true:=by
 rw[chkM,dif_pos (lt_of_at h),get_of_at h];simp
theorem chk_plain (h:p[i]?=some c) (h1:¬isEnd c) (h2:¬c=40) (h3:¬c=91) (h4:¬c=92):chkM p i o a=chkM p (i+1) o true:=by
 rw[chkM,dif_pos (lt_of_at h),get_of_at h]
 unfold isEnd isOp at h1
 simp only[not_or]at h1
 obtain⟨⟨g1,g2,g3⟩,g4,g5,g6⟩:=h1
 simp[h2,h3,h4,g1,g2,g3,g4,g5,g6]
theorem chk_flag (h:∀c,p[i]?=some c→¬isOp c) (a b:Bool):chkM p i o a=chkM p i o b:=by
 by_cases hi:i<p.length
 ·obtain⟨c,hc⟩:∃c,p[i]?=some c:=⟨_,List.getElem?_eq_getElem hi⟩
  have hn:=h c hc
  by_cases h1:c=40
  ·subst h1;rw[chk_open hc,chk_open hc]
  by_cases h2:c=41
  ·subst h2;rw[chk_close hc,chk_close hc]
  by_cases h3:c=124
  ·subst h3;rw[chk_bar hc,chk_bar hc]
  by_cases h4:c=93
  ·subst h4;rw[chk_rb hc,chk_rb hc]
  by_cases h5:c=91
  ·subst h5;rw[chk_class hc,chk_class hc]
  by_cases h6:c=92
  ·subst h6;rw[chk_esc hc,chk_esc hc]
  have he:¬isEnd c:=fun q=>q.elim hn (fun q=>q.elim h3 (fun q=>q.elim h2 h4))
  rw[chk_plain hc he h1 h5 h6,chk_plain hc he h1 h5 h6]
 ·rw[chk_end hi,chk_end hi]
structure Nd where
 kind:Int
 s:ByteArray
 hi:Bool
 t:ByteArray
 lo:Int
 up:Int
 n:Int
def arity (k:Int):Nat:=if k=14∨k=15 then 2 else if k=16 then 3 else 0
theorem arity_le (k:Int):arity k≤3:=by unfold arity;split<;>(try split)<;>omega
inductive IsT:Nat→List Nd→Prop
 |nil:IsT 0 []
 |snoc {k:Nat} {xs:List Nd} (n:Nd) (h:IsT (k+arity n.kind) xs):IsT (k+1) (xs++ [n])
theorem IsT.inv_snoc {k:Nat} {xs ys:List Nd} {n:Nd} (h:IsT k ys) (e:ys=xs++ [n]):∃j,k=j+1∧IsT (j+arity n.kind) xs:=by
 cases h with
 |nil=>simp at e
 |snoc m h=>
  have:=List.append_inj' e rfl
  obtain⟨rfl,h2⟩:=this
  simp at h2
  subst h2
  exact⟨_,rfl,h⟩
theorem IsT.zero {xs:List Nd} (h:IsT 0 xs):xs= []:=by
 cases h with
 |nil=>rfl
theorem IsT.len {k:Nat} {xs:List Nd} (h:IsT k xs):k≤xs.length:=by
 induction h with
 |nil=>exact Nat.le_refl _
 |snoc n h ih=>simp;omega
inductive Sc:Nat→List Nd→Prop
 |nil:Sc 1 []
 |cons {m:Nat} {ys:List Nd} (n:Nd) (h:Sc (m+1) ys):Sc (m+arity n.kind) (n::ys)
theorem Sc.inv {m:Nat} {n:Nd} {ys:List Nd} (h:Sc m (n::ys)):∃q,m=q+arity n.kind∧Sc (q+1) ys:=by
 cases h with
 |cons _ h=>exact⟨_,rfl,h⟩
theorem Sc.one:∀{ys:List Nd} {m k:Nat},Sc m ys→Sc k ys→m=k
 | [],_,_,.nil,.nil=>rfl
 |n::ys,m,k,h,g=>by
  obtain⟨a,rfl,ha⟩:=h.inv
  obtain⟨b,rfl,hb⟩:=g.inv
  have:=Sc.one ha hb
  omega
theorem Sc.tree:∀{ys:List Nd} {m:Nat},Sc m ys→∀{pre:List Nd},IsT m pre↔IsT 1 (pre++ys)
 | [],_,.nil,pre=>by simp
 |n::ys,m,h,pre=>by
  obtain⟨q,rfl,hq⟩:=h.inv
  have ih:=Sc.tree hq (pre:=pre++ [n])
  rw[List.append_assoc]at ih
  rw[show pre++n::ys=pre++([n]++ys)from rfl,←ih]
  constructor
  ·intro h;exact .snoc n h
  ·intro h
   obtain⟨j,hj,h2⟩:=h.inv_snoc rfl
   rw[show q=j by omega];exact h2
theorem IsT.sc {j:Nat} {b:List Nd} (h:IsT j b):∀{m:Nat} {ys:List Nd},Sc (m+j) ys→Sc m (b++ys):=by
 induction h with
 |nil=>intro m ys h;exact h
 | @snoc k xs n h ih=>
   intro m ys hs
   rw[List.append_assoc]
   apply ih
   show Sc (m+(k+arity n.kind)) (n::ys)
   rw[←Nat.add_assoc]
   exact .cons n hs
theorem IsT.sc0 {b:List Nd} (h:IsT 1 b):Sc 0 b:=by
 have:=h.sc (m:=0) (ys:= []) .nil
 simpa using this
theorem tree_one {xs:List Nd} {i j:Nat} (hi:IsT 1 (xs.drop i)) (hj:IsT 1 (xs.drop j)) (hij:i≤j) (hjl:j≤xs.length):i=j:=by
 have h0:=hj.sc0
 have e:xs.drop i=(xs.drop i).take (j-i)++xs.drop j:=by
  conv=>lhs;rw[←List.take_append_drop (j-i) (xs.drop i)]
  rw[List.drop_drop,show i+(j-i)=j by omega]
 rw[e]at hi
 have h1:=(h0.tree.2 hi).zero
 have h2:=congrArg List.length h1
 simp at h2
 omega
theorem sc_none {xs:List Nd}:∀{i m:Nat},Sc (m+1) (xs.drop i)→∀j,i≤j→j≤xs.length→¬IsT 1 (xs.drop j):=by
 intro i m h j hij hjl ht
 obtain⟨d,rfl⟩:∃d,j=i+d:=⟨j-i,by omega⟩
 clear hij
 induction d generalizing i m with
 |zero=>have:=h.one ht.sc0;omega
 |succ d ih=>
  rw[List.drop_eq_getElem_cons (by omega)]at h
  obtain⟨q,_,hq⟩:=h.inv
  exact ih (i:=i+1) (m:=q) hq (by omega) (by rw[show i+1+d=i+(d+1)by omega];exact ht)
structure Shape where
 valid:Bool
 kind:Int
 nest:Nat
def strong (k:Int):Nat:=if k=15 then 1 else if k=14 then 2 else 3
def level (op:Int) (i:Nat) (kid:Int):Bool:=decide (op=16) || (if i=0 then decide (strong kid<strong op)else decide (strong kid≤strong op))
def nestFrom (op:Int):Nat→Nat→List Shape→Nat
 |_,a,[]=>a
 |i,a,o::os=>nestFrom op (i+1) (max a (o.nest+if level op i o.kind then 1 else 0)) os
variable (G:Nd→Bool)
def shapeM (n:Nd) (os:List Shape):Shape:=⟨G n && os.all (·.valid),n.kind,nestFrom n.kind 0 0 os⟩
def stepM (st:List Shape) (n:Nd):Option (List Shape):=
 if st.length<arity n.kind then none else some (st.take (st.length-arity n.kind)++ [shapeM G n (st.drop (st.length-arity n.kind))])
def foldM (st:List Shape):List Nd→Option (List Shape)
 | []=>some st
 |n::ns=>match stepM G st n with
  |none=>none
  |some st'=>foldM st' ns
theorem foldM_append (st:List Shape) (xs ys:List Nd):foldM G st (xs++ys)=(foldM G st xs).bind (fun s=>foldM G s ys):=by
 induction xs generalizing st with
 |nil=>rfl
 |cons x xs ih=>
  simp only[List.cons_append,foldM]
  cases stepM G st x with
  |none=>rfl
  |some s=>exact ih s
inductive ShT:List Shape→List Nd→Prop
 |nil:ShT [] []
 |snoc {ss os:List Shape} {xs:List Nd} (n:Nd) (ho:os.length=arity n.kind) (h:ShT (ss++os) xs):ShT (ss++ [shapeM G n os]) (xs++ [n])
theorem IsT.shapes {k:Nat} {xs:List Nd} (h:IsT k xs):∃ss,ss.length=k∧ShT G ss xs:=by
 induction h with
 |nil=>exact⟨[],rfl,.nil⟩
 | @snoc k xs n h ih=>
   obtain⟨ss,hl,hs⟩:=ih
   refine⟨ss.take k++ [shapeM G n (ss.drop k)],by simp;omega,.snoc n (by simp;omega) ?_⟩
   rw[List.take_append_drop];exact hs
theorem ShT.tree {ss:List Shape} {xs:List Nd} (h:ShT G ss xs):IsT ss.length xs:=by
 exact zzQ72
theorem ShT.fold {ss:List Shape} {xs:List Nd} (h:ShT G ss xs):∀st,foldM G st xs=some (st++ss):=by
 induction h with
 |nil=>intro st;simp[foldM]
 | @snoc ss os xs n ho h ih=>
   intro st
   rw[foldM_append,ih]
   simp only[Option.bind_some,foldM,stepM]
   rw[if_neg (by simp;omega)]
   have hl:(st++(ss++os)).length-arity n.kind=(st++ss).length:=by simp;omega
   rw[hl,←List.append_assoc,List.take_left,List.drop_left,List.append_assoc]
theorem fold_from:∀{xs pre:List Nd} {st ss:List Shape},ShT G st pre→foldM G st xs=some ss→ShT G ss (pre++xs)
 | [],pre,st,ss,h,e=>by
   simp[foldM]at e;subst e;simpa using h
 |n::xs,pre,st,ss,h,e=>by
  simp only[foldM,stepM]at e
  by_cases hl:st.length<arity n.kind
  ·rw[if_pos hl]at e;cases e
  ·rw[if_neg hl]at e
   have h1:ShT G (st.take (st.length-arity n.kind)++ [shapeM G n (st.drop (st.length-arity n.kind))]) (pre++ [n]):=by
    refine .snoc n (by simp;omega) ?_
    rw[List.take_append_drop];exact h
   have h2:=fold_from h1 e
   rw[List.append_assoc]at h2
   exact h2
theorem fold_tree {xs:List Nd} {ss:List Shape} (h:foldM G [] xs=some ss):ShT G ss xs:=by
 simpa using fold_from G (pre:= []) .nil h
theorem ShT.valid {ss:List Shape} {xs:List Nd} (h:ShT G ss xs):ss.all (·.valid)=xs.all G:=by
 induction h with
 |nil=>rfl
 | @snoc ss os xs n ho h ih=>
   rw[List.all_append,List.all_append,←ih,List.all_append]
   simp[shapeM]
   cases G n<;>cases ss.all (·.valid)<;>cases os.all (·.valid)<;>rfl
theorem ShT.split {ss:List Shape} {xs:List Nd} (h:ShT G ss xs):∀{a b:List Shape},ss=a++b→∃ys zs,xs=ys++zs∧ShT G a ys∧ShT G b zs:=by
 induction h with
 |nil=>intro a b e;obtain⟨rfl,rfl⟩:a= []∧b= []:=by simpa using e.symm
       exact⟨[],[],rfl,.nil,.nil⟩
 | @snoc ss os xs n ho h ih=>
   intro a b e
   rcases List.eq_nil_or_concat b with rfl|⟨b',z,rfl⟩
   ·simp at e;subst e
    exact⟨xs++ [n],[],by simp,.snoc n ho h,.nil⟩
   ·rw[List.concat_eq_append,←List.append_assoc]at e
    have e2:=List.append_inj' e rfl
    obtain⟨e3,e4⟩:=e2
    simp at e4
    subst e3 e4
    obtain⟨ys,zs,rfl,h1,h2⟩:=ih (a:=a) (b:=b'++os) (by simp)
    refine⟨ys,zs++ [n],by simp,h1,?_⟩
    rw[List.concat_eq_append]
    exact .snoc n ho h2
theorem ShT.inv {s:Shape} {xs:List Nd} (h:ShT G [s] xs):∃ys n os,xs=ys++ [n]∧os.length=arity n.kind∧ShT G os ys∧s=shapeM G n os:=by
 exact zzQ56
inductive Kids:List Shape→List (List Nd)→Prop
 |nil:Kids [] []
 |cons {o:Shape} {os:List Shape} {k:List Nd} {ks:List (List Nd)} (h:ShT G [o] k) (t:Kids os ks):Kids (o::os) (k::ks)
theorem ShT.kids:∀{os:List Shape} {ys:List Nd},ShT G os ys→∃ks,ys=ks.flatten∧Kids G os ks
 | [],ys,h=>by
   have:=h.tree.zero
   subst this
   exact⟨[],rfl,.nil⟩
 |o::os,ys,h=>by
  obtain⟨a,b,rfl,h1,h2⟩:=ShT.split G h (a:= [o]) (b:=os) rfl
  obtain⟨ks,rfl,hk⟩:=ShT.kids h2
  exact⟨a::ks,rfl,.cons h1 hk⟩
theorem Kids.length {os:List Shape} {ks:List (List Nd)} (h:Kids G os ks):os.length=ks.length:=by
 induction h with
 |nil=>rfl
 |cons _ _ ih=>simp[ih]
theorem Kids.tree {os:List Shape} {ks:List (List Nd)} (h:Kids G os ks):∀k∈ks,IsT 1 k:=by
 induction h with
 |nil=>intro k hk;cases hk
 |cons h1 _ ih=>
  intro k hk
  rcases List.mem_cons.1 hk with rfl|hk
  ·exact h1.tree
  ·exact ih k hk
theorem Kids.nth {os:List Shape} {ks:List (List Nd)} (h:Kids G os ks):∀{j:Nat} {k:List Nd},ks[j]?=some k→∃o,os[j]?=some o∧ShT G [o] k:=by
 induction h with
 |nil=>intro j k hk;simp at hk
 |cons h1 _ ih=>
  intro j k hk
  cases j with
  |zero=>simp at hk;subst hk;exact⟨_,rfl,h1⟩
  |succ j=>simp at hk;simpa using ih hk
theorem nestFrom_le (op:Int) (B:Nat):∀{os:List Shape} {i a:Nat},a≤B→(∀o∈os,o.nest+1≤B)→nestFrom op i a os≤B
 | [],i,a,h,_=>h
 |o::os,i,a,h,g=>by
  unfold nestFrom
  apply nestFrom_le op B
  ·have:=g o (by simp)
   split<;>omega
  ·exact fun o' ho=>g o' (by simp[ho])
theorem kid_len {os:List Shape} {ks:List (List Nd)} (h:Kids G os ks) {o:Shape} (ho:o∈os):∃k∈ks,ShT G [o] k:=by
 induction h with
 |nil=>cases ho
 |cons h1 _ ih=>
  rcases List.mem_cons.1 ho with rfl|ho
  ·exact⟨_,by simp,h1⟩
  ·obtain⟨k,hk,h2⟩:=ih ho
   exact⟨k,by simp[hk],h2⟩
theorem len_flat {ks:List (List Nd)} {k:List Nd} (h:k∈ks):k.length≤ks.flatten.length:=by
 induction ks with
 |nil=>cases h
 |cons a ks ih=>
  simp only[List.flatten_cons,List.length_append]
  rcases List.mem_cons.1 h with rfl|h
  ·omega
  ·have:=ih h;omega
theorem nest_len:∀(n:Nat) {s:Shape} {xs:List Nd},xs.length≤n→ShT G [s] xs→s.nest≤xs.length
 |0,s,xs,hn,h=>by
  obtain⟨ys,e,os,rfl,_⟩:=h.inv
  simp at hn
 |n+1,s,xs,hn,h=>by
  obtain⟨ys,e,os,rfl,_,h2,rfl⟩:=h.inv
  obtain⟨ks,rfl,hK⟩:=h2.kids
  simp only[List.length_append,List.length_singleton]at hn⊢
  refine nestFrom_le e.kind _ (Nat.zero_le _) fun o ho=>?_
  obtain⟨k,hk,h3⟩:=kid_len G hK ho
  have h4:=len_flat hk
  have h5:=nest_len n (by omega) h3
  omega
end Go.Proofs.YtkidabedcgngcaaGreatDoor
namespace Go.Proofs.YtkidabedcgngcaaGreatDoor
open Go.ChangeShapes Go.WideShapes Go.ChangeAt Go.RowKit
open Go.ChangeMaps (open_string shut_string)
structure Ent where
 row:ByteArray
 fam:ByteArray
 qual:ByteArray
 ts:Int
 kind:Int
 val:ByteArray
abbrev Ent.v (e:Ent):Value:=.agg #[.string e.row,.string e.fam,.string e.qual,.int .u64 e.ts,.int .i64 e.kind,.string e.val]
structure Ent.ok (e:Ent):Prop where
 row:e.row.size≤maxLen
 fam:e.fam.size≤maxLen
 qual:e.qual.size≤maxLen
 val:e.val.size≤maxLen
 ts:(Lit.int .u64 e.ts).wf=true
 kind:(Lit.int .i64 e.kind).wf=true
theorem ret_bool {a b:Bool} (h:a=b):Ending.returned (.bool a)=.returned (.bool b):=by rw[h]
theorem isE (v:ByteArray):v.toList.isEmpty=decide (v.size=0):=by
 rw[ByteArray.toList_eq,Bool.eq_iff_iff]
 simp[←ByteArray.size_data]
theorem orE (k:Int) (v:ByteArray) (h:¬k=0):(k==0 || v.toList.isEmpty)=decide (v.size=0):=by
 rw[isE];simp[h]
def vE (r f q:ByteArray) (k:Int) (v:ByteArray):Bool:=
 decide (1≤r.size∧r.size≤64∧1≤f.size∧f.size≤16∧q.size≤64∧v.size≤200∧0≤k∧k≤2∧(k=0∨v.size=0))
set_option maxHeartbeats 400000 in
theorem specValid_core (r f q v:ByteArray) (t k:Int) (w:World) (hr:r.size≤maxLen) (hf:f.size≤maxLen) (hq:q.size≤maxLen) (hv:v.size≤maxLen):
  Calls Tryz.prog 93 #[.agg #[.string r,.string f,.string q,.int .u64 t,.int .i64 k,.string v]] w fun e w'=>
   e=.returned (.bool (vE r f q k v))∧Below w.heap.size w w':=by
 unfold maxLen at hr hf hq hv
 go_enter Tryz.func93,Tryz.ntmps93
 go_wp2
 all_goals go_ret
 all_goals refine⟨ret_bool ?_,qB⟩
 all_goals unfold vE
 all_goals go_light
 all_goals first
  |(refine(decide_eq_true ?_).symm;omega)
  |(refine(decide_eq_false ?_).symm;omega)
  |(rw[orE _ _ ‹¬k=0›];refine decide_eq_decide.2 ⟨fun h=>?_,fun h=>?_⟩<;>omega)
set_option maxHeartbeats 400000 in
theorem implValid_core (r f q v:ByteArray) (t k:Int) (w:World) (hr:r.size≤maxLen) (hf:f.size≤maxLen) (hq:q.size≤maxLen) (hv:v.size≤maxLen):
  Calls Tryz.prog 58 #[.agg #[.string r,.string f,.string q,.int .u64 t,.int .i64 k,.string v]] w fun e w'=>
   e=.returned (.bool (vE r f q k v))∧Below w.heap.size w w':=by
 unfold maxLen at hr hf hq hv
 go_enter Tryz.func58,Tryz.ntmps58
 go_wp2
 all_goals go_ret
 all_goals refine⟨ret_bool ?_,qB⟩
 all_goals unfold vE
 all_goals go_light
 all_goals (try simp only[beq_iff_eq,beq_eq_false_iff_ne,ne_eq]at*)
 all_goals first
  |(refine(decide_eq_true ?_).symm;omega)
  |(refine(decide_eq_false ?_).symm;omega)
  |(rw[isE];refine decide_eq_decide.2 ⟨fun h=>?_,fun h=>?_⟩<;>omega)
end Go.Proofs.YtkidabedcgngcaaGreatDoor
namespace Go.Proofs.YtkidabedcgngcaaGreatDoor
open Go.ChangeShapes Go.WideShapes Go.ChangeAt Go.RowKit Go.Deep
theorem Tryz.cellsStr:Tryz.prog.cellsOf 9=1:=by kernel_rfl
theorem Tryz.cellsU64:Tryz.prog.cellsOf 49=1:=by kernel_rfl
theorem Tryz.cellsI64:Tryz.prog.cellsOf 2=1:=by kernel_rfl
theorem Tryz.cellsBool:Tryz.prog.cellsOf 4=1:=by kernel_rfl
theorem bcell {W w1:World} (hb:Below W.heap.size W w1):(∀b o,b<W.heap.size→w1.cell? ⟨b,o,none⟩=W.cell? ⟨b,o,none⟩)∧(∀b o,b<W.heap.size→w1.frozen? ⟨b,o,none⟩=W.frozen? ⟨b,o,none⟩):=
 ⟨fun b o h=>hb.cell (p:=⟨b,o,none⟩) h,fun b o h=>hb.frozen (p:=⟨b,o,none⟩) h⟩
end Go.Proofs.YtkidabedcgngcaaGreatDoor
namespace Go.Proofs.YtkidabedcgngcaaGreatDoor
open Go.ChangeShapes Go.WideShapes Go.ChangeAt Go.RowKit Go.Deep
set_option linter.unusedVariables false
abbrev Ent.cells (e:Ent):List Value:= [.string e.row,.string e.fam,.string e.qual,.int .u64 e.ts,.int .i64 e.kind,.string e.val]
def cellsE (es:List Ent):List Value:=es.flatMap Ent.cells
theorem cellsE_cons (e:Ent) (es:List Ent):cellsE (e::es)=e.cells++cellsE es:=by simp[cellsE]
theorem cellsE_append (es fs:List Ent):cellsE (es++fs)=cellsE es++cellsE fs:=by simp[cellsE]
theorem length_cellsE (es:List Ent):(cellsE es).length=es.length*6:=by
 induction es with
 |nil=>rfl
 |cons e es ih=>rw[cellsE_cons,List.length_append,ih];simp;omega
theorem cellsE_get (es:List Ent):∀(k:Nat) (e:Ent),es[k]?=some e→∀j,j<6→(cellsE es)[k*6+j]?=e.cells[j]?:=by
 induction es with
 |nil=>intro k e h;simp at h
 |cons f es ih=>
  intro k e h j hj
  rw[cellsE_cons]
  cases k with
  |zero=>
   simp at h;subst h
   rw[List.getElem?_append_left (by show 0*6+j<6;omega)]
   simp
  |succ k=>
   simp at h
   rw[List.getElem?_append_right (by show 6≤(k+1)*6+j;omega)]
   have:(k+1)*6+j-f.cells.length=k*6+j:=by show(k+1)*6+j-6=_;omega
   rw[this];exact ih k e h j hj
def EntsAt (w:World) (b off:Nat) (es:List Ent):Prop:=
 ∀i e,es[i]?=some e→w.cell? ⟨b,off+i*6,none⟩=some (.string e.row)∧w.cell? ⟨b,off+i*6+1,none⟩=some (.string e.fam)∧w.cell? ⟨b,off+i*6+2,none⟩=some (.string e.qual)∧
  w.cell? ⟨b,off+i*6+3,none⟩=some (.int .u64 e.ts)∧w.cell? ⟨b,off+i*6+4,none⟩=some (.int .i64 e.kind)∧w.cell? ⟨b,off+i*6+5,none⟩=some (.string e.val)
theorem EntsAt.below {B:Nat} {w w':World} {b off:Nat} {es:List Ent} (h:EntsAt w b off es) (hb:Below B w w') (hlt:b<B):EntsAt w' b off es:=by
 intro i e he
 have:=h i e he
 refine⟨?_,?_,?_,?_,?_,?_⟩
 all_goals rw[hb.cell (by exact hlt)]
 ·exact this.1
 ·exact this.2.1
 ·exact this.2.2.1
 ·exact this.2.2.2.1
 ·exact this.2.2.2.2.1
 ·exact this.2.2.2.2.2
def OwnE (w:World) (base g cap:Nat) (es:List Ent):Prop:=w.ownsRow base 102 6 (.slice (some ⟨g,0,none⟩) es.length cap) es.length (cellsE es)
theorem OwnE.at {w:World} {base g cap:Nat} {es:List Ent} (h:OwnE w base g cap es):EntsAt w g 0 es:=by
 intro i e he
 have hi:i<es.length:=(List.getElem?_eq_some_iff.1 he).1
 have c:=fun j (hj:j<6)=>(World.ownsRow.cellAt h (i*6+j) (by omega)).trans (cellsE_get es i e he j hj)
 refine⟨?_,?_,?_,?_,?_,?_⟩
 ·simpa using c 0 (by omega)
 ·simpa using c 1 (by omega)
 ·simpa using c 2 (by omega)
 ·simpa using c 3 (by omega)
 ·simpa using c 4 (by omega)
 ·simpa using c 5 (by omega)
theorem OwnE.lt {w:World} {base g cap:Nat} {es:List Ent} (h:OwnE w base g cap es):base≤g∧g<w.heap.size:=World.ownsRow.lt h g rfl
theorem OwnE.below {B:Nat} {w w':World} {base g cap:Nat} {es:List Ent} (h:OwnE w base g cap es) (hb:Below B w w') (hg:g<B):OwnE w' base g cap es:=by
 exact zzQ21
theorem take_set_succ {es fs:List Ent} {k:Nat} {e:Ent} (h:fs.take k=es.take k) (hl:fs.length=es.length) (he:es[k]?=some e):(fs.set k e).take (k+1)=es.take (k+1):=by
 have hlt:k<es.length:=(List.getElem?_eq_some_iff.1 he).1
 apply List.ext_getElem?
 intro j
 have hj:=congrArg (fun l=>l[j]?) h
 simp only[List.getElem?_take]at hj⊢
 rw[List.getElem?_set]
 by_cases h1:j<k
 ·have h2:j<k+1:=by omega
  have h3:¬k=j:=by omega
  simp only[h1,h2,h3,if_true,if_false]at hj⊢
  exact hj
 ·by_cases h2:k=j
  ·subst h2
   have h3:k<k+1:=by omega
   have h4:k<fs.length:=by omega
   simp only[h3,h4,if_true,he]
  ·have h3:¬j<k+1:=by omega
   simp only[h3,if_false]
theorem Tryz.infoEnt:(Tryz.prog.info? 102).map (fun i=>(i.zero,i.size,i.bytes))=some (some (.agg #[.string ⟨#[]⟩,.string ⟨#[]⟩,.string ⟨#[]⟩,.int .u64 0,.int .i64 0,.string ⟨#[]⟩]),6,80):=by kernel_rfl
def zeroE:Ent:=⟨⟨#[]⟩,⟨#[]⟩,⟨#[]⟩,0,0,⟨#[]⟩⟩
def InEnts (w:World) (v:Value) (es:List Ent):Prop:=
 (∃a cap,v=.slice a 0 cap∧es= [])∨
 ∃b off cap,v=.slice (some ⟨b,off,none⟩) es.length cap∧EntsAt w b off es∧b<w.heap.size∧es.length≤cap∧cap≤maxLen
theorem InEnts.own {w:World} {base g cap:Nat} {es:List Ent} (h:OwnE w base g cap es) (h1:es.length≤cap) (h2:cap≤maxLen):InEnts w (.slice (some ⟨g,0,none⟩) es.length cap) es:=
 .inr ⟨g,0,cap,rfl,h.at,h.lt.2,h1,h2⟩
theorem list_of_forall {α:Type} {P:Nat→α→Prop}:∀n,(∀i,i<n→∃x,P i x)→∃l:List α,l.length=n∧∀i x,l[i]?=some x→P i x
 |0,_=>⟨[],rfl,fun i x h=>by simp at h⟩
 |n+1,h=>by
  obtain⟨l,hl,hp⟩:=list_of_forall n (fun i hi=>h i (by omega))
  obtain⟨x,hx⟩:=h n (by omega)
  refine⟨l++ [x],by simp[hl],fun i y hy=>?_⟩
  by_cases hi:i<l.length
  ·rw[List.getElem?_append_left hi]at hy;exact hp i y hy
  ·rw[List.getElem?_append_right (by omega)]at hy
   have:i-l.length=0:=by
    have:=(List.getElem?_eq_some_iff.1 hy).1
    simp at this;omega
   rw[this]at hy
   simp at hy
   subst hy
   rw[show i=n by omega];exact hx
theorem OwnE.mono {w:World} {base base' g cap:Nat} {es:List Ent} (h:OwnE w base g cap es) (hb:base'≤base):OwnE w base' g cap es:=by
 exact zzQ49
def digF:Nat→Nat→List UInt8
 |0,_=> []
 |f+1,k=>if k=0 then []else digF f (k/10)++ [UInt8.ofNat (48+k%10)]
theorem digF_zero (f:Nat):digF f 0= []:=by cases f<;>simp[digF]
theorem digF_more:∀(f k:Nat),k≤f→digF f k=digF k k
 |0,k,h=>by rw[show k=0 by omega]
 |f+1,k,h=>by
  by_cases h0:k=0
  ·subst h0;rw[digF_zero,digF_zero]
  ·obtain⟨j,rfl⟩:∃j,k=j+1:=⟨k-1,by omega⟩
   have h1:(j+1)/10≤j:=by omega
   unfold digF
   rw[if_neg h0,if_neg h0,digF_more f _ (by omega),digF_more j _ h1]
def dig (k:Nat):List UInt8:=digF k k
theorem dig_step {k:Nat} (h:0<k):dig k=dig (k/10)++ [UInt8.ofNat (48+k%10)]:=by
 obtain⟨j,rfl⟩:∃j,k=j+1:=⟨k-1,by omega⟩
 show digF (j+1) (j+1)=_
 rw[digF,if_neg (by omega),digF_more j _ (by omega)];rfl
def mText (k:Nat):ByteArray:=⟨(109::dig k).toArray⟩
theorem mText_eq {k:Nat} {out:ByteArray} (h:dig k=out.data.toList):mText k=⟨#[109]⟩++out:=by
 obtain⟨a⟩:=out
 unfold mText
 rw[ByteArray.mk_append_mk,h]
 simp
set_option maxHeartbeats 400000 in
set_option maxRecDepth 100000 in
theorem markText_nat (k:Nat) (w:World) (h0:0<k) (h1:k≤2^40):
  Calls Tryz.prog 36 #[.int .i64 k] w fun e w'=>e=.returned (.string (mText k))∧Below w.heap.size w w':=by
 go_enter Tryz.func36,Tryz.ntmps36
 go_wp2
 go_loopw[0,3] (fun c o wr=>∃(j:Nat) (out:ByteArray),c=.int .i64 j∧j+out.size≤k∧o=.string out∧dig k=dig j++out.data.toList∧Below w.heap.size w wr) (fun c _ _=>(intOf c).toNat)
 case atStart=>exact⟨k,⟨#[]⟩,rfl,Nat.le_refl _,rfl,by simp,Below.refl _ _⟩
 case round=>
  obtain⟨j,out,rfl,hj,rfl,hd,hb⟩:=hrel
  have HD:Hid (dig k=dig j++out.data.toList):=hd
  clear hd
  by_cases hp:0<j
  ·obtain⟨d,hd⟩:=qE (UInt8.ofNat (48+j%10):UInt8)
   have hdn:(d.toNat:Int)=48+(j:Int)%10:=by
    rw[hd,UInt8.toNat_ofNat']
    omega
   have hcv:((convert 40 9 (.slice (some ⟨wr.heap.size,0,none⟩) 1 1)).run Tryz.prog (wr.alloc (Obj.cells #[.int .u8 (48+(j:Int)%10)] 5)))=.ok (.string ⟨#[d]⟩) (wr.alloc (Obj.cells #[.int .u8 (48+(j:Int)%10)] 5)):=by
    refine run_convert_bytes_back (P:=Tryz.prog) (wr.alloc (Obj.cells #[.int .u8 (48+(j:Int)%10)] 5)) 40 9 5 ⟨wr.heap.size,0,none⟩ 1 [d] Tryz.underlying40 Tryz.underlying5 Tryz.underlying9 ?_
    intro i hi
    obtain rfl:i=0:=by simpa using hi
    simp[Addr.add,hdn]
   have HN:Hid (d=UInt8.ofNat (48+j%10)):=hd
   clear hd hdn
   go_wp2_with fail
   refine⟨⟨j/10,⟨#[d]⟩++out,by go_num,?_,rfl,?_,hb.alloc hb.size _⟩,?_⟩
   ·go_light
    rw[ByteArray.size_append]
    show j/10+(1+out.size)≤k
    omega
   ·go_light
    rw[HD.out,dig_step hp,HN.out]
    simp
   ·go_light
    simp[intOf];omega
  ·go_wp2_with fail
   go_ret
   refine⟨?_,hb⟩
   have e:mText k=⟨#[109]⟩++out:=mText_eq (by rw[HD.out,show j=0 by omega];rfl)
   rw[e];rfl
theorem markText_any (a:Int) (w:World) (h0:0<a) (h1:a≤2^40):
  Calls Tryz.prog 36 #[.int .i64 a] w fun e w'=>e=.returned (.string (mText a.toNat))∧Below w.heap.size w w':=by
 obtain⟨k,rfl⟩:=Int.eq_ofNat_of_zero_le (by omega:0≤a)
 rw[Int.toNat_natCast]
 exact markText_nat k w (by omega) (by omega)
def mEnt (k:Int):Ent:=⟨mText k.toNat,mText (k+1).toNat,mText (k+1+1).toNat,k+1+1+1,k+1+1+1+1,mText (k+1+1+1+1+1).toNat⟩
def marked (k:Int) (es:List Ent) (i:Nat):Prop:=∀j:Nat,j<i→es[j]?=some (mEnt (k+j*6))
theorem grown_of_below {w w':World} (h:Below w.heap.size w w') (r:Option Nat):w.grownBy w' r:=⟨h.os,h.tape,h.output,h.size,fun k hk _=>h.block k hk⟩
theorem grown_set (w:World) (g o:Nat) (u:Value):w.grownBy (w.setCell ⟨g,o,none⟩ u) (some g):=by
 have h:Below g w (w.setCell ⟨g,o,none⟩ u):=(Below.refl g w).setCell (Nat.le_refl _) u
 exact⟨h.os,h.tape,h.output,h.size,fun k hk hne=>Below.heap_setCell w ⟨g,o,none⟩ u k (fun e=>hne (by rw[e]))⟩
end Go.Proofs.YtkidabedcgngcaaGreatDoor
namespace Go.Proofs.YtkidabedcgngcaaGreatDoor
open Go.ChangeShapes Go.WideShapes Go.ChangeAt Go.RowKit Go.Deep
set_option linter.unusedVariables false
set_option linter.unusedSimpArgs false
structure Chg (S:Nat→Prop) (w w':World):Prop where
 os:w'.os=w.os
 tape:w'.tape=w.tape
 output:w'.output=w.output
 size:w.heap.size≤w'.heap.size
 block:∀k,k<w.heap.size→¬S k→w'.heap[k]?=w.heap[k]?
theorem Chg.refl (S:Nat→Prop) (w:World):Chg S w w:=⟨rfl,rfl,rfl,Nat.le_refl _,fun _ _ _=>rfl⟩
theorem Chg.trans {S:Nat→Prop} {a b c:World} (h:Chg S a b) (k:Chg S b c):Chg S a c:=
 ⟨k.os.trans h.os,k.tape.trans h.tape,k.output.trans h.output,Nat.le_trans h.size k.size,fun i hi hn=>(k.block i (Nat.lt_of_lt_of_le hi h.size) hn).trans (h.block i hi hn)⟩
theorem Chg.mono {S T:Nat→Prop} {w w':World} (h:Chg S w w') (hs:∀k,S k→T k):Chg T w w':=⟨h.os,h.tape,h.output,h.size,fun k hk hn=>h.block k hk (fun q=>hn (hs k q))⟩
theorem Chg.of_below {S:Nat→Prop} {w w':World} (h:Below w.heap.size w w'):Chg S w w':=⟨h.os,h.tape,h.output,h.size,fun k hk _=>h.block k hk⟩
theorem Chg.of_grown {S:Nat→Prop} {w w':World} {row:Option Nat} (h:w.grownBy w' row) (hs:∀k,row=some k→S k):Chg S w w':=
 ⟨h.os,h.tape,h.output,h.size,fun k hk hn=>h.block k hk (fun q=>hn (hs k q.symm))⟩
theorem Chg.of_set {S:Nat→Prop} (w:World) (g o:Nat) (u:Value) (hs:S g):Chg S w (w.setCell ⟨g,o,none⟩ u):=Chg.of_grown (grown_set w g o u) (fun k hk=>by cases hk;exact hs)
theorem Chg.below {S:Nat→Prop} {B:Nat} {a w w':World} (h:Below B a w) (k:Chg S w w') (hB:B≤w.heap.size) (hs:∀k,S k→B≤k):Below B a w':=
 h.trans ⟨k.os,k.tape,k.output,k.size,fun i hi=>k.block i (by omega) (fun q=>by have:=hs i q;omega)⟩
theorem Chg.cell {S:Nat→Prop} {w w':World} (h:Chg S w w') {p:Addr} (hp:p.block<w.heap.size) (hn:¬S p.block):w'.cell? p=w.cell? p:=World.cell?_of_block (w:=w) (h.block p.block hp hn)
theorem Chg.frozen {S:Nat→Prop} {w w':World} (h:Chg S w w') {p:Addr} (hp:p.block<w.heap.size) (hn:¬S p.block):w'.frozen? p=w.frozen? p:=World.frozen?_of_block (w:=w) (h.block p.block hp hn)
theorem own_apart {w:World} {base e size:Nat} {v:Value} {n:Nat} {xs:List Value} {base' e' size':Nat} {v':Value} {n':Nat} {xs':List Value} (h:w.ownsRow base e size v n xs) (h':w.ownsRow base' e' size' v' n' xs') (hne:e≠e'):∀k,v.ownBlock=some k→v'.ownBlock≠some k:=by
 intro k hk hk'
 rcases h.2 with⟨rfl,_⟩|⟨g1,cap1,cur,rfl,_,hc,_⟩
 ·simp[Value.ownBlock]at hk
 ·rcases h'.2 with⟨rfl,_⟩|⟨g2,cap2,cur2,rfl,_,hc2,_⟩
  ·simp[Value.ownBlock]at hk'
  ·simp[Value.ownBlock]at hk hk'
   subst hk hk'
   rw[hc]at hc2
   simp at hc2
   exact hne hc2.2
theorem own_chg {S:Nat→Prop} {w w':World} {base e size:Nat} {v:Value} {n:Nat} {xs:List Value} (h:w.ownsRow base e size v n xs) (hb:Chg S w w') (hn:∀k,v.ownBlock=some k→¬S k):w'.ownsRow base e size v n xs:=by
 refine⟨h.1,?_⟩
 rcases h.2 with hz|⟨g,cap,cur,rfl,h1,hg,rest⟩
 ·exact .inl hz
 ·refine .inr ⟨g,cap,cur,rfl,h1,?_,rest⟩
  have hlt:g<w.heap.size:=by
   rcases Nat.lt_or_ge g w.heap.size with q|q
   ·exact q
   ·rw[Array.getElem?_eq_none q]at hg;cases hg
  rw[hb.block g hlt (hn g rfl)];exact hg
end Go.Proofs.YtkidabedcgngcaaGreatDoor
namespace Go.Proofs.YtkidabedcgngcaaGreatDoor
open Go.ChangeShapes Go.WideShapes Go.ChangeAt Go.RowKit Go.Deep
set_option linter.unusedVariables false
def BoxAt (w:World) (base t sz g:Nat) (vs:List Value):Prop:=w.ownsRow base t sz (.slice (some ⟨g,0,none⟩) 1 1) 1 vs
theorem BoxAt.len {w:World} {base t sz g:Nat} {vs:List Value} (h:BoxAt w base t sz g vs):vs.length=sz:=by have:=h.1;omega
theorem BoxAt.lt {w:World} {base t sz g:Nat} {vs:List Value} (h:BoxAt w base t sz g vs):base≤g∧g<w.heap.size:=World.ownsRow.lt h g rfl
theorem BoxAt.chg {S:Nat→Prop} {w w':World} {base t sz g:Nat} {vs:List Value} (h:BoxAt w base t sz g vs) (hc:Chg S w w') (hn:¬S g):BoxAt w' base t sz g vs:=own_chg h hc (fun k q=>by simp[Value.ownBlock]at q;subst q;exact hn)
theorem BoxAt.below {w w':World} {base t sz g:Nat} {vs:List Value} (h:BoxAt w base t sz g vs) (hb:Below w.heap.size w w'):BoxAt w' base t sz g vs:=h.chg (Chg.of_below hb) (S:=fun _=>False) (fun q=>q)
theorem BoxAt.cell {w:World} {base t sz g:Nat} {vs:List Value} (h:BoxAt w base t sz g vs) {j:Nat} {v:Value} (hv:vs[j]?=some v):w.cell? ⟨g,j,none⟩=some v:=by
 have hj:=(List.getElem?_eq_some_iff.1 hv).1
 rw[World.ownsRow.cellAt h j (by have:=h.len;omega),hv]
theorem BoxAt.frozen {w:World} {base t sz g:Nat} {vs:List Value} (h:BoxAt w base t sz g vs) (j:Nat):w.frozen? ⟨g,j,none⟩=false:=World.ownsRow.frozenAt h j
theorem BoxAt.set {w:World} {base t sz g:Nat} {vs:List Value} (h:BoxAt w base t sz g vs) (j:Nat) (u:Value):BoxAt (w.setCell ⟨g,j,none⟩ u) base t sz g (vs.set j u):=(World.ownsRow.stored h j u).1
theorem BoxAt.beside {w:World} {base t sz g:Nat} {vs:List Value} (h:BoxAt w base t sz g vs) {k:Nat} (hk:¬g=k) (j:Nat) (u:Value):BoxAt (w.setCell ⟨k,j,none⟩ u) base t sz g vs:=h.chg (Chg.of_set w k j u (S:=fun q=>q=k) rfl) hk
theorem boxAt_new (w:World) {base t sz:Nat} (cs:Array Value) (hb:base≤w.heap.size) (hs:cs.size=sz):BoxAt (w.alloc (.cells cs t)) base t sz w.heap.size cs.toList:=
 World.ownsRow_lit w cs 1 hb (by decide) (by omega)
def set3 (w:World) (g:Nat) (a b c:Value):World:=((w.setCell ⟨g,0,none⟩ a).setCell ⟨g,1,none⟩ b).setCell ⟨g,2,none⟩ c
theorem BoxAt.set3 {w:World} {base t g:Nat} {vs:List Value} (h:BoxAt w base t 3 g vs) (a b c:Value):BoxAt (set3 w g a b c) base t 3 g [a,b,c]:=by
 have h1:=((h.set 0 a).set 1 b).set 2 c
 have hl:=h.len
 match vs,hl with
 | [x,y,z],_=>exact h1
theorem below_set {B:Nat} {a w:World} (h:Below B a w) {k:Nat} (hk:B≤k) (j:Nat) (u:Value):Below B a (w.setCell ⟨k,j,none⟩ u):=h.setCell (p:=⟨k,j,none⟩) hk u
theorem below_set3 {B:Nat} {a w:World} (h:Below B a w) {k:Nat} (hk:B≤k) (x y z:Value):Below B a (set3 w k x y z):=below_set (below_set (below_set h hk 0 x) hk 1 y) hk 2 z
theorem size_set (w:World) (k j:Nat) (u:Value):(w.setCell ⟨k,j,none⟩ u).heap.size=w.heap.size:=by
 simp[World.setCell]
theorem BoxAt.c2 {w:World} {base t sz g:Nat} {v0 v1:Value} {r:List Value} (h:BoxAt w base t sz g (v0::v1::r)):w.cell? ⟨g,0,none⟩=some v0∧w.cell? ⟨g,1,none⟩=some v1:=
 ⟨h.cell (j:=0) rfl,h.cell (j:=1) rfl⟩
theorem BoxAt.c3 {w:World} {base t sz g:Nat} {v0 v1 v2:Value} {r:List Value} (h:BoxAt w base t sz g (v0::v1::v2::r)):w.cell? ⟨g,0,none⟩=some v0∧w.cell? ⟨g,1,none⟩=some v1∧w.cell? ⟨g,2,none⟩=some v2:=
 ⟨h.cell (j:=0) rfl,h.cell (j:=1) rfl,h.cell (j:=2) rfl⟩
theorem BoxAt.c4 {w:World} {base t sz g:Nat} {v0 v1 v2 v3:Value} {r:List Value} (h:BoxAt w base t sz g (v0::v1::v2::v3::r)):w.cell? ⟨g,0,none⟩=some v0∧w.cell? ⟨g,1,none⟩=some v1∧w.cell? ⟨g,2,none⟩=some v2∧w.cell? ⟨g,3,none⟩=some v3:=
 ⟨h.cell (j:=0) rfl,h.cell (j:=1) rfl,h.cell (j:=2) rfl,h.cell (j:=3) rfl⟩
theorem BoxAt.c5 {w:World} {base t sz g:Nat} {v0 v1 v2 v3 v4:Value} {r:List Value} (h:BoxAt w base t sz g (v0::v1::v2::v3::v4::r)):w.cell? ⟨g,0,none⟩=some v0∧w.cell? ⟨g,1,none⟩=some v1∧w.cell? ⟨g,2,none⟩=some v2∧w.cell? ⟨g,3,none⟩=some v3∧w.cell? ⟨g,4,none⟩=some v4:=
 ⟨h.cell (j:=0) rfl,h.cell (j:=1) rfl,h.cell (j:=2) rfl,h.cell (j:=3) rfl,h.cell (j:=4) rfl⟩
theorem BoxAt.c6 {w:World} {base t sz g:Nat} {v0 v1 v2 v3 v4 v5:Value} {r:List Value} (h:BoxAt w base t sz g (v0::v1::v2::v3::v4::v5::r)):w.cell? ⟨g,0,none⟩=some v0∧w.cell? ⟨g,1,none⟩=some v1∧w.cell? ⟨g,2,none⟩=some v2∧w.cell? ⟨g,3,none⟩=some v3∧w.cell? ⟨g,4,none⟩=some v4∧w.cell? ⟨g,5,none⟩=some v5:=
 ⟨h.cell (j:=0) rfl,h.cell (j:=1) rfl,h.cell (j:=2) rfl,h.cell (j:=3) rfl,h.cell (j:=4) rfl,h.cell (j:=5) rfl⟩
theorem BoxAt.c7 {w:World} {base t sz g:Nat} {v0 v1 v2 v3 v4 v5 v6:Value} {r:List Value} (h:BoxAt w base t sz g (v0::v1::v2::v3::v4::v5::v6::r)):w.cell? ⟨g,0,none⟩=some v0∧w.cell? ⟨g,1,none⟩=some v1∧w.cell? ⟨g,2,none⟩=some v2∧w.cell? ⟨g,3,none⟩=some v3∧w.cell? ⟨g,4,none⟩=some v4∧w.cell? ⟨g,5,none⟩=some v5∧w.cell? ⟨g,6,none⟩=some v6:=
 ⟨h.cell (j:=0) rfl,h.cell (j:=1) rfl,h.cell (j:=2) rfl,h.cell (j:=3) rfl,h.cell (j:=4) rfl,h.cell (j:=5) rfl,h.cell (j:=6) rfl⟩
theorem BoxAt.c8 {w:World} {base t sz g:Nat} {v0 v1 v2 v3 v4 v5 v6 v7:Value} {r:List Value} (h:BoxAt w base t sz g (v0::v1::v2::v3::v4::v5::v6::v7::r)):w.cell? ⟨g,0,none⟩=some v0∧w.cell? ⟨g,1,none⟩=some v1∧w.cell? ⟨g,2,none⟩=some v2∧w.cell? ⟨g,3,none⟩=some v3∧w.cell? ⟨g,4,none⟩=some v4∧w.cell? ⟨g,5,none⟩=some v5∧w.cell? ⟨g,6,none⟩=some v6∧w.cell? ⟨g,7,none⟩=some v7:=
 ⟨h.cell (j:=0) rfl,h.cell (j:=1) rfl,h.cell (j:=2) rfl,h.cell (j:=3) rfl,h.cell (j:=4) rfl,h.cell (j:=5) rfl,h.cell (j:=6) rfl,h.cell (j:=7) rfl⟩
theorem BoxAt.c9 {w:World} {base t sz g:Nat} {v0 v1 v2 v3 v4 v5 v6 v7 v8:Value} {r:List Value} (h:BoxAt w base t sz g (v0::v1::v2::v3::v4::v5::v6::v7::v8::r)):w.cell? ⟨g,0,none⟩=some v0∧w.cell? ⟨g,1,none⟩=some v1∧w.cell? ⟨g,2,none⟩=some v2∧w.cell? ⟨g,3,none⟩=some v3∧w.cell? ⟨g,4,none⟩=some v4∧w.cell? ⟨g,5,none⟩=some v5∧w.cell? ⟨g,6,none⟩=some v6∧w.cell? ⟨g,7,none⟩=some v7∧w.cell? ⟨g,8,none⟩=some v8:=
 ⟨h.cell (j:=0) rfl,h.cell (j:=1) rfl,h.cell (j:=2) rfl,h.cell (j:=3) rfl,h.cell (j:=4) rfl,h.cell (j:=5) rfl,h.cell (j:=6) rfl,h.cell (j:=7) rfl,h.cell (j:=8) rfl⟩
theorem BoxAt.c10 {w:World} {base t sz g:Nat} {v0 v1 v2 v3 v4 v5 v6 v7 v8 v9:Value} {r:List Value} (h:BoxAt w base t sz g (v0::v1::v2::v3::v4::v5::v6::v7::v8::v9::r)):w.cell? ⟨g,0,none⟩=some v0∧w.cell? ⟨g,1,none⟩=some v1∧w.cell? ⟨g,2,none⟩=some v2∧w.cell? ⟨g,3,none⟩=some v3∧w.cell? ⟨g,4,none⟩=some v4∧w.cell? ⟨g,5,none⟩=some v5∧w.cell? ⟨g,6,none⟩=some v6∧w.cell? ⟨g,7,none⟩=some v7∧w.cell? ⟨g,8,none⟩=some v8∧w.cell? ⟨g,9,none⟩=some v9:=
 ⟨h.cell (j:=0) rfl,h.cell (j:=1) rfl,h.cell (j:=2) rfl,h.cell (j:=3) rfl,h.cell (j:=4) rfl,h.cell (j:=5) rfl,h.cell (j:=6) rfl,h.cell (j:=7) rfl,h.cell (j:=8) rfl,h.cell (j:=9) rfl⟩
theorem BoxAt.c11 {w:World} {base t sz g:Nat} {v0 v1 v2 v3 v4 v5 v6 v7 v8 v9 v10:Value} {r:List Value} (h:BoxAt w base t sz g (v0::v1::v2::v3::v4::v5::v6::v7::v8::v9::v10::r)):w.cell? ⟨g,0,none⟩=some v0∧w.cell? ⟨g,1,none⟩=some v1∧w.cell? ⟨g,2,none⟩=some v2∧w.cell? ⟨g,3,none⟩=some v3∧w.cell? ⟨g,4,none⟩=some v4∧w.cell? ⟨g,5,none⟩=some v5∧w.cell? ⟨g,6,none⟩=some v6∧w.cell? ⟨g,7,none⟩=some v7∧w.cell? ⟨g,8,none⟩=some v8∧w.cell? ⟨g,9,none⟩=some v9∧w.cell? ⟨g,10,none⟩=some v10:=
 ⟨h.cell (j:=0) rfl,h.cell (j:=1) rfl,h.cell (j:=2) rfl,h.cell (j:=3) rfl,h.cell (j:=4) rfl,h.cell (j:=5) rfl,h.cell (j:=6) rfl,h.cell (j:=7) rfl,h.cell (j:=8) rfl,h.cell (j:=9) rfl,h.cell (j:=10) rfl⟩
theorem BoxAt.c12 {w:World} {base t sz g:Nat} {v0 v1 v2 v3 v4 v5 v6 v7 v8 v9 v10 v11:Value} {r:List Value} (h:BoxAt w base t sz g (v0::v1::v2::v3::v4::v5::v6::v7::v8::v9::v10::v11::r)):w.cell? ⟨g,0,none⟩=some v0∧w.cell? ⟨g,1,none⟩=some v1∧w.cell? ⟨g,2,none⟩=some v2∧w.cell? ⟨g,3,none⟩=some v3∧w.cell? ⟨g,4,none⟩=some v4∧w.cell? ⟨g,5,none⟩=some v5∧w.cell? ⟨g,6,none⟩=some v6∧w.cell? ⟨g,7,none⟩=some v7∧w.cell? ⟨g,8,none⟩=some v8∧w.cell? ⟨g,9,none⟩=some v9∧w.cell? ⟨g,10,none⟩=some v10∧w.cell? ⟨g,11,none⟩=some v11:=
 ⟨h.cell (j:=0) rfl,h.cell (j:=1) rfl,h.cell (j:=2) rfl,h.cell (j:=3) rfl,h.cell (j:=4) rfl,h.cell (j:=5) rfl,h.cell (j:=6) rfl,h.cell (j:=7) rfl,h.cell (j:=8) rfl,h.cell (j:=9) rfl,h.cell (j:=10) rfl,h.cell (j:=11) rfl⟩
end Go.Proofs.YtkidabedcgngcaaGreatDoor
namespace Go.Proofs.YtkidabedcgngcaaGreatDoor
open Go.ChangeShapes Go.WideShapes Go.ChangeAt Go.RowKit Go.Deep
set_option linter.unusedVariables false
set_option linter.unusedSimpArgs false
set_option maxRecDepth 100000
structure Nd.ok (e:Nd):Prop where
 s:e.s.size≤maxLen
 t:e.t.size≤maxLen
 kind:(Lit.int .i64 e.kind).wf=true
 lo:(Lit.int .u64 e.lo).wf=true
 up:(Lit.int .u64 e.up).wf=true
 n:(Lit.int .i64 e.n).wf=true
abbrev Nd.seven (e:Nd):List Value:= [.int .i64 e.kind,.string e.s,.bool e.hi,.string e.t,.int .u64 e.lo,.int .u64 e.up,.int .i64 e.n]
abbrev Nd.v (e:Nd):Value:=.agg #[.int .i64 e.kind,.string e.s,.bool e.hi,.string e.t,.int .u64 e.lo,.int .u64 e.up,.int .i64 e.n]
def zeroN:Nd:=⟨0,⟨#[]⟩,false,⟨#[]⟩,0,0,0⟩
def cellsN (es:List Nd):List Value:=es.flatMap Nd.seven
theorem cellsN_cons (e:Nd) (es:List Nd):cellsN (e::es)=e.seven++cellsN es:=by simp[cellsN]
theorem length_cellsN (es:List Nd):(cellsN es).length=es.length*7:=by
 induction es with
 |nil=>rfl
 |cons e es ih=>rw[cellsN_cons,List.length_append,ih];simp;omega
theorem cellsN_get (es:List Nd):∀(k:Nat) (e:Nd),es[k]?=some e→∀j,j<7→(cellsN es)[k*7+j]?=e.seven[j]?:=by
 induction es with
 |nil=>intro k e h;simp at h
 |cons f es ih=>
  intro k e h j hj
  rw[cellsN_cons]
  cases k with
  |zero=>
   simp at h;subst h
   rw[List.getElem?_append_left (by show 0*7+j<7;omega)]
   simp
  |succ k=>
   simp at h
   rw[List.getElem?_append_right (by show 7≤(k+1)*7+j;omega)]
   have:(k+1)*7+j-f.seven.length=k*7+j:=by show(k+1)*7+j-7=_;omega
   rw[this];exact ih k e h j hj
theorem cellsN_set (es:List Nd):∀(k:Nat) (e e':Nd) (u:Value) (j:Nat),es[k]?=some e→j<7→e'.seven=e.seven.set j u→(cellsN es).set (k*7+j) u=cellsN (es.set k e'):=by
 induction es with
 |nil=>intro k e e' u j h;simp at h
 |cons f es ih=>
  intro k e e' u j h hj hc
  rw[cellsN_cons]
  cases k with
  |zero=>
   simp at h;subst h
   rw[List.set_append_left _ _ (by show 0*7+j<7;omega),List.set_cons_zero,cellsN_cons,hc]
   simp
  |succ k=>
   simp at h
   rw[List.set_append_right _ _ (by show 7≤(k+1)*7+j;omega),List.set_cons_succ,cellsN_cons]
   have:(k+1)*7+j-f.seven.length=k*7+j:=by show(k+1)*7+j-7=_;omega
   rw[this,ih k e e' u j h hj hc]
def NdsAt (w:World) (b off:Nat) (es:List Nd):Prop:=
 ∀i e,es[i]?=some e→w.cell? ⟨b,off+i*7,none⟩=some (.int .i64 e.kind)∧w.cell? ⟨b,off+i*7+1,none⟩=some (.string e.s)∧w.cell? ⟨b,off+i*7+2,none⟩=some (.bool e.hi)∧w.cell? ⟨b,off+i*7+3,none⟩=some (.string e.t)∧w.cell? ⟨b,off+i*7+4,none⟩=some (.int .u64 e.lo)∧w.cell? ⟨b,off+i*7+5,none⟩=some (.int .u64 e.up)∧w.cell? ⟨b,off+i*7+6,none⟩=some (.int .i64 e.n)
theorem NdsAt.below {B:Nat} {w w':World} {b off:Nat} {es:List Nd} (h:NdsAt w b off es) (hb:Below B w w') (hlt:b<B):NdsAt w' b off es:=by
 intro i e he
 have:=h i e he
 refine⟨?_,?_,?_,?_,?_,?_,?_⟩
 all_goals rw[hb.cell (by exact hlt)]
 ·exact this.1
 ·exact this.2.1
 ·exact this.2.2.1
 ·exact this.2.2.2.1
 ·exact this.2.2.2.2.1
 ·exact this.2.2.2.2.2.1
 ·exact this.2.2.2.2.2.2
def OwnNd (w:World) (base g cap:Nat) (es:List Nd):Prop:=w.ownsRow base 75 7 (.slice (some ⟨g,0,none⟩) es.length cap) es.length (cellsN es)
theorem OwnNd.at {w:World} {base g cap:Nat} {es:List Nd} (h:OwnNd w base g cap es):NdsAt w g 0 es:=by
 intro i e he
 have hi:i<es.length:=(List.getElem?_eq_some_iff.1 he).1
 have c:=fun j (hj:j<7)=>(World.ownsRow.cellAt h (i*7+j) (by omega)).trans (cellsN_get es i e he j hj)
 refine⟨?_,?_,?_,?_,?_,?_,?_⟩
 ·simpa using c 0 (by omega)
 ·simpa using c 1 (by omega)
 ·simpa using c 2 (by omega)
 ·simpa using c 3 (by omega)
 ·simpa using c 4 (by omega)
 ·simpa using c 5 (by omega)
 ·simpa using c 6 (by omega)
theorem OwnNd.lt {w:World} {base g cap:Nat} {es:List Nd} (h:OwnNd w base g cap es):base≤g∧g<w.heap.size:=World.ownsRow.lt h g rfl
theorem OwnNd.below {B:Nat} {w w':World} {base g cap:Nat} {es:List Nd} (h:OwnNd w base g cap es) (hb:Below B w w') (hg:g<B):OwnNd w' base g cap es:=by
 exact zzQ21
theorem OwnNd.mono {w:World} {base base' g cap:Nat} {es:List Nd} (h:OwnNd w base g cap es) (hb:base'≤base):OwnNd w base' g cap es:=by
 exact zzQ49
theorem OwnNd.caps {w:World} {base g cp:Nat} {R:List Nd} (h:OwnNd w base g cp R):R.length≤cp∧cp≤maxLen:=by
 exact zzQ12
theorem OwnNd.set {w:World} {base g cap:Nat} {es:List Nd} (h:OwnNd w base g cap es) (k j:Nat) (e e':Nd) (u:Value) (hk:es[k]?=some e) (hj:j<7) (hc:e'.seven=e.seven.set j u):
  OwnNd (w.setCell ⟨g,k*7+j,none⟩ u) base g cap (es.set k e'):=by
 have:=(World.ownsRow.stored h (k*7+j) u).1
 rw[cellsN_set es k e e' u j hk hj hc]at this
 unfold OwnNd
 rw[List.length_set]
 exact this
theorem Tryz.infoNd:(Tryz.prog.info? 75).map (fun i=>(i.zero,i.size,i.bytes))=some (some (.agg #[.int .i64 0,.string ⟨#[]⟩,.bool false,.string ⟨#[]⟩,.int .u64 0,.int .u64 0,.int .i64 0]),7,72):=by kernel_rfl
theorem OwnNd.put {w:World} {base g cap:Nat} {es:List Nd} (h:OwnNd w base g cap es) (k:Nat) (f e:Nd) (hk:es[k]?=some f):
  OwnNd (((((((w.setCell ⟨g,k*7,none⟩ (.int .i64 e.kind)).setCell ⟨g,k*7+1,none⟩ (.string e.s)).setCell ⟨g,k*7+2,none⟩ (.bool e.hi)).setCell ⟨g,k*7+3,none⟩ (.string e.t)).setCell ⟨g,k*7+4,none⟩ (.int .u64 e.lo)).setCell ⟨g,k*7+5,none⟩ (.int .u64 e.up)).setCell ⟨g,k*7+6,none⟩ (.int .i64 e.n)) base g cap (es.set k e):=by
 have hlt:k<es.length:=(List.getElem?_eq_some_iff.1 hk).1
 have g1:=h.set k 0 f ({f with kind:=e.kind}) (.int .i64 e.kind) hk (by omega) rfl
 have g2:=g1.set k 1 ({f with kind:=e.kind}) ({f with kind:=e.kind,s:=e.s}) (.string e.s) (by simp[hlt]) (by omega) rfl
 have g3:=g2.set k 2 ({f with kind:=e.kind,s:=e.s}) ({f with kind:=e.kind,s:=e.s,hi:=e.hi}) (.bool e.hi) (by simp[hlt]) (by omega) rfl
 have g4:=g3.set k 3 ({f with kind:=e.kind,s:=e.s,hi:=e.hi}) ({f with kind:=e.kind,s:=e.s,hi:=e.hi,t:=e.t}) (.string e.t) (by simp[hlt]) (by omega) rfl
 have g5:=g4.set k 4 ({f with kind:=e.kind,s:=e.s,hi:=e.hi,t:=e.t}) ({f with kind:=e.kind,s:=e.s,hi:=e.hi,t:=e.t,lo:=e.lo}) (.int .u64 e.lo) (by simp[hlt]) (by omega) rfl
 have g6:=g5.set k 5 ({f with kind:=e.kind,s:=e.s,hi:=e.hi,t:=e.t,lo:=e.lo}) ({f with kind:=e.kind,s:=e.s,hi:=e.hi,t:=e.t,lo:=e.lo,up:=e.up}) (.int .u64 e.up) (by simp[hlt]) (by omega) rfl
 have g7:=g6.set k 6 ({f with kind:=e.kind,s:=e.s,hi:=e.hi,t:=e.t,lo:=e.lo,up:=e.up}) e (.int .i64 e.n) (by simp[hlt]) (by omega) rfl
 simpa only[List.set_set,Nat.add_zero]using g7
theorem below_put7 {B:Nat} {a w:World} (h:Below B a w) {g:Nat} (hg:B≤g) (o0 o1 o2 o3 o4 o5 o6:Nat) (v0 v1 v2 v3 v4 v5 v6:Value):
  Below B a (((((((w.setCell ⟨g,o0,none⟩ v0).setCell ⟨g,o1,none⟩ v1).setCell ⟨g,o2,none⟩ v2).setCell ⟨g,o3,none⟩ v3).setCell ⟨g,o4,none⟩ v4).setCell ⟨g,o5,none⟩ v5).setCell ⟨g,o6,none⟩ v6):=
 ((((((h.setCell hg _).setCell hg _).setCell hg _).setCell hg _).setCell hg _).setCell hg _).setCell hg _
theorem takeN_succ {es fs:List Nd} {k:Nat} {e:Nd} (h:fs.take k=es.take k) (hl:fs.length=es.length) (he:es[k]?=some e):(fs.set k e).take (k+1)=es.take (k+1):=by
 have hlt:k<es.length:=(List.getElem?_eq_some_iff.1 he).1
 rw[List.take_set,List.take_add_one,List.take_add_one (l:=es),he,List.getElem?_eq_getElem (by omega),h]
 simp only[Option.toList]
 rw[List.set_append_right _ _ (by simp;omega)]
 simp
 rw[show k-min k es.length=0 by omega]
 rfl
set_option maxHeartbeats 400000 in
theorem szNode_core (e:Nd) (left:Int) (w:World) (ho:e.ok) (h0:0≤left) (h1:left≤2^40):
  Calls Tryz.prog 50 #[e.v,.int .i64 left] w fun r w'=>∃x,r=.returned (.int .i64 x)∧(x= -1∨(0≤x∧x+e.s.size+e.t.size=left))∧Below w.heap.size w w':=by
 have hr:=ho.s
 have hf:=ho.t
 unfold maxLen at hr hf
 go_enter Tryz.func50,Tryz.ntmps50
 go_wp2
 ·go_ret
  exact⟨_,rfl,.inl rfl,qB⟩
 ·go_ret
  exact⟨_,rfl,.inl rfl,qB⟩
 ·go_ret
  exact⟨_,rfl,.inr ⟨by assumption,by omega⟩,qB⟩
set_option maxHeartbeats 400000 in
theorem toNode_core (e:Nd) (w:World):Calls Tryz.prog 55 #[e.v] w fun r w'=>r=.returned e.v∧Below w.heap.size w w':=by
 go_enter Tryz.func55,Tryz.ntmps55
 go_wp2
 refine bodyPost_ret (v:=e.v) (by simp[results,Tryz.results55,go_sem]) rfl ⟨rfl,?_⟩
 exact((qB).alloc (by simp) _).alloc (by simp;omega) _
set_option maxHeartbeats 400000 in
theorem eqNode_same (e:Nd) (w:World):Calls Tryz.prog 76 #[e.v,e.v] w fun r w'=>r=.returned (.bool true)∧Below w.heap.size w w':=by
 go_enter Tryz.func76,Tryz.ntmps76
 go_wp2
 go_ret
 exact⟨rfl,(qB).alloc (by simp) _⟩
end Go.Proofs.YtkidabedcgngcaaGreatDoor
namespace Go.Proofs.YtkidabedcgngcaaGreatDoor
open Go.ChangeShapes Go.WideShapes Go.ChangeAt Go.RowKit Go.Deep
set_option linter.unusedVariables false
set_option linter.unusedSimpArgs false
variable {P:Program} {C:World→Prop}
def fk (m:Value) (o:Oper):Oper:={o with op:=.move (.const m)}
def waitsB (pre:List Oper) (o:Oper) (tl:List Oper) (d:Tmp) (sl:List Tmp):Bool:=
 sl.all (fun s=>s != d && ((List.range pre.length).all (fun i=>match pre[i]? with
  |some oi=>oi.dst != some s || o.after.any (fun e=>Region.binds .any e && e.on==i)
  |none=>true) && tl.all (fun oi=>oi.dst != some s))) && pre.all (fun oi=>oi.dst != some d) && tl.all (fun oi=>oi.dst != some d && oi.after.any (fun e=>Region.binds .any e && Nat.ble pre.length e.on))
theorem get_part (pre tl:List Oper) (i:Nat):(pre++tl).toArray[i]?=if i<pre.length then pre[i]? else tl[i-pre.length]?:=by
 rw[List.getElem?_toArray]
 by_cases h:i<pre.length
 ·rw[if_pos h,List.getElem?_append_left h]
 ·rw[if_neg h,List.getElem?_append_right (by omega)]
theorem ready_fk (m:Value) (pre tl:List Oper) (listed:Array Bool):Region.ready .any (pre++tl.map (fk m)).toArray listed=Region.ready .any (pre++tl).toArray listed:=by
 unfold Region.ready
 have hz:(pre++tl.map (fk m)).toArray.size=(pre++tl).toArray.size:=by simp
 rw[hz]
 congr 1
 funext i
 rw[get_part,get_part]
 by_cases h:i<pre.length
 ·rw[if_pos h,if_pos h]
 ·rw[if_neg h,if_neg h,List.getElem?_map]
  cases tl[i-pre.length]?<;>rfl
theorem yielded_fk (m:Value) (pre tl:List Oper) (tmps:Array Value):yielded (pre++tl.map (fk m)).toArray tmps=yielded (pre++tl).toArray tmps:=by
 funext j
 unfold yielded
 rw[get_part,get_part]
 by_cases h:j<pre.length
 ·rw[if_pos h,if_pos h]
 ·rw[if_neg h,if_neg h,List.getElem?_map]
  cases tl[j-pre.length]?<;>rfl
theorem put_getD (a:Act) (dst:Option Tmp) (v:Value) (s:Tmp) (h:dst≠some s):(a.put dst v).tmps.getD s undef=a.tmps.getD s undef:=by
 cases dst with
 |none=>rfl
 |some t=>
  have hts:t≠s:=fun q=>h (by rw[q])
  show(a.tmps.setIfInBounds t v).getD s undef=_
  rw[Array.getD_eq_getD_getElem?,Array.getD_eq_getD_getElem?,Array.getElem?_setIfInBounds_ne hts]
theorem put_defers (a:Act) (dst:Option Tmp) (v:Value):(a.put dst v).defers=a.defers:=by cases dst<;>rfl
theorem listed_set (listed:Array Bool) (i j:Nat) (d:Bool) (h:listed.getD j d=true):(listed.setIfInBounds i true).getD j d=true:=by
 rw[Array.getD_eq_getD_getElem?]at h⊢
 by_cases q:i=j
 ·subst q
  rw[Array.getElem?_setIfInBounds_self]
  split
  ·rfl
  ·next hl=>rw[Array.getElem?_eq_none (by omega)]at h;exact h
 ·rw[Array.getElem?_setIfInBounds_ne q];exact h
theorem slot_end {ops:Array Oper} {Q:Act→Prop} (s:Tmp) (x:Value) (hQ:∀a,Q a→a.tmps.getD s undef=x):∀(fuel:Nat) (listed:Array Bool) (a:Act),wpAnyQ P .any ops C Q fuel listed a→
  (∀i oi,ops[i]?=some oi→oi.dst=some s→listed.getD i true=true)→a.tmps.getD s undef=x
 |0,listed,a,h,_=>hQ a h.2
 |fuel+1,listed,a,h,hl=>by
  cases hr:Region.ready .any ops listed with
  |nil=>exact hQ a (h.1 hr)
  |cons i rest=>
   have hi:i∈Region.ready .any ops listed:=by rw[hr];simp
   have hq:=h.2 i hi
   obtain⟨hun,oi,hoi,_⟩:=mem_ready.1 hi
   have hd:oi.dst≠some s:=fun e=>by
    have:=hl i oi hoi e
    rw[hun]at this;cases this
   have hl':∀j oj,ops[j]?=some oj→oj.dst=some s→(listed.setIfInBounds i true).getD j true=true:=fun j oj hj e=>listed_set _ _ _ _ (hl j oj hj e)
   unfold qOp at hq
   simp only[hoi]at hq
   split at hq
   ·obtain⟨v,_,h2⟩:=hq
    have:=slot_end s x hQ fuel _ _ h2 hl'
    rwa [put_getD _ _ _ _ hd]at this
   ·have:=slot_end s x hQ fuel _ _ hq hl'
    rwa [put_getD _ _ _ _ hd]at this
theorem any_of_fk {m:Value} {Q:Exit→Act→World→Prop} {pre tl:List Oper} {o:Oper} {D:List Deferred} (d:Tmp) (sl:List (Tmp×Value)) (hB2:waitsB pre o tl d (sl.map (·.1))=true) (hdst:o.dst=some d) (hg:o.guard=none)
  (hop:∀(a':Act) (w':World) (K:Act→World→Prop),C w'→a'.defers=D→(∀p∈sl,a'.tmps.getD p.1 undef=p.2)→o.wp P a' w' K Q):
  ∀(fuel:Nat) (listed:Array Bool) (a:Act) (w:World),wpAnyQ P .any (pre++(o::tl).map (fk m)).toArray C (fun a'=>a'.tmps.getD d undef=m∧∀p∈sl,a'.tmps.getD p.1 undef=p.2) fuel listed a→C w→
   a.tmps.getD d undef≠m→a.defers=D→(∀j,pre.length≤j→listed.getD j false=false)→wpAny P .any (pre++o::tl).toArray Q fuel listed a w
 |0,listed,a,w,h,_,hm,_,_=>absurd h.2.1 hm
 |fuel+1,listed,a,w,h,hw,hm,hD,hJ=>by
  have hB3:=hB2
  simp only[waitsB,Bool.and_eq_true,List.all_eq_true]at hB2
  obtain⟨⟨hS,hP⟩,hT⟩:=hB2
  refine⟨fun hr=>absurd (h.1 (by rw[ready_fk];exact hr)).1 hm,fun i hi=>?_⟩
  have hq:=h.2 i (by rw[ready_fk];exact hi)
  obtain⟨hun,oi,hoi,hdep⟩:=mem_ready.1 hi
  rw[get_part]at hoi
  unfold wpOp
  unfold qOp at hq
  rw[get_part]at hq⊢
  by_cases hlt:i<pre.length
  ·rw[if_pos hlt]at hoi hq⊢
   have hne:oi.dst≠some d:=by
    have:=hP oi (List.mem_of_getElem? hoi)
    simpa using this
   have hJ':∀j,pre.length≤j→(listed.setIfInBounds i true).getD j false=false:=by
    intro j hj
    have:=hJ j hj
    rw[Array.getD_eq_getD_getElem?]at this⊢
    rw[Array.getElem?_setIfInBounds_ne (by omega)]
    exact this
   simp only[hoi]at hq⊢
   rw[yielded_fk]at hq
   split
   ·next hwt=>
    rw[if_pos hwt]at hq
    obtain⟨v,h1,h2⟩:=hq
    refine .inl (Oper.wp_of_quiet (K:=fun a'=>wpAnyQ P .any (pre++(o::tl).map (fk m)).toArray C (fun a'=>a'.tmps.getD d undef=m∧∀p∈sl,a'.tmps.getD p.1 undef=p.2) fuel (listed.setIfInBounds i true) a'∧a'.tmps.getD d undef≠m∧a'.defers=D) hw ?_ ⟨v,h1,h2,by rw[put_getD _ _ _ _ hne];exact hm,by rw[put_defers];exact hD⟩)
    intro a' w' hw' hk
    exact any_of_fk d sl hB3 hdst hg hop fuel _ a' w' hk.1 hw' hk.2.1 hk.2.2 hJ'
   ·next hwt=>
    rw[if_neg hwt]at hq
    exact any_of_fk d sl hB3 hdst hg hop fuel _ _ w hq hw (by rw[put_getD _ _ _ _ hne];exact hm) (by rw[put_defers];exact hD) hJ'
  ·rw[if_neg hlt]at hoi hq⊢
   by_cases hn:i=pre.length
   ·rw[hn,Nat.sub_self]at hoi hq⊢
    simp only[List.getElem?_cons_zero,List.map_cons,Option.some.injEq]at hoi hq⊢
    have hw1:∀y,Region.wanted o y=true:=fun y=>by unfold Region.wanted;rw[hg]
    have hw2:∀y,Region.wanted (fk m o) y=true:=fun y=>by unfold Region.wanted;show(match o.guard with|none=>true|some (j,want)=>y j==some want)=true;rw[hg]
    simp only[hw1,hw2,if_true]at hq⊢
    obtain⟨v,_,h2⟩:=hq
    refine .inl (hop a w _ hw hD fun p hp=>?_)
    have hps:=hS p.1 (List.mem_map.2 ⟨p,hp,rfl⟩)
    have hpd:(some d:Option Tmp)≠some p.1:=by
     have:=hps.1
     intro q
     cases q
     simp at this
    have h3:=slot_end (C:=C) p.1 p.2 (fun a' h=>h.2 p hp) fuel _ _ h2 (by
     intro j oj hj e
     rw[get_part]at hj
     by_cases hjl:j<pre.length
     ·rw[if_pos hjl]at hj
      have h4:=hps.2.1 j (List.mem_range.2 hjl)
      simp only[hj,Bool.or_eq_true]at h4
      rcases h4 with h4|h4
      ·rw[e]at h4;simp at h4
      ·rw[Array.any_eq_true']at h4
       obtain⟨ed,hed,h5⟩:=h4
       simp only[Bool.and_eq_true,beq_iff_eq]at h5
       have h6:=hdep ed (by rw[←hoi];exact hed) h5.1
       rw[h5.2]at h6
       refine listed_set _ _ _ _ ?_
       rw[Array.getD_eq_getD_getElem?]at h6⊢
       cases hx:listed[j]? with
       |none=>rfl
       |some y=>rw[hx]at h6;exact h6
     ·rw[if_neg hjl]at hj
      obtain⟨k,hk⟩:∃k,j-pre.length=k:=⟨_,rfl⟩
      rw[hk,←List.map_cons,List.getElem?_map]at hj
      cases k with
      |zero=>
       simp only[List.getElem?_cons_zero,Option.map_some,Option.some.injEq]at hj
       rw[←hj]at e
       exact absurd (hdst.symm.trans e) hpd
      |succ k=>
       simp only[List.getElem?_cons_succ]at hj
       cases ht:tl[k]? with
       |none=>rw[ht]at hj;cases hj
       |some ot=>
        rw[ht]at hj
        simp only[Option.map_some,Option.some.injEq]at hj
        have h7:=hps.2.2 ot (List.mem_of_getElem? ht)
        rw[←hj]at e
        have e2:ot.dst=some p.1:=e
        rw[e2]at h7
        simp at h7)
    have hfd:(fk m o).dst=some d:=hdst
    rwa [hfd,put_getD _ _ _ _ hpd]at h3
   ·exfalso
    obtain⟨k,hk⟩:∃k,i-pre.length=k+1:=⟨i-pre.length-1,by omega⟩
    rw[hk]at hoi
    simp only[List.getElem?_cons_succ]at hoi
    have h8:=hT oi (List.mem_of_getElem? hoi)
    rw[Array.any_eq_true']at h8
    obtain⟨ed,hed,h9⟩:=h8.2
    simp only[Bool.and_eq_true]at h9
    have h10:=hdep ed hed h9.1
    rw[hJ ed.on (Nat.le_of_ble_eq_true h9.2)]at h10
    cases h10
theorem wp_region_dies {id:Nat} {Q:Exit→Act→World→Prop} {a:Act} {w:World} (pre:List Oper) (o:Oper) (tl:List Oper) (d:Tmp) (sl:List (Tmp×Value)) (l:List Oper) (hl:l=pre++o::tl) (hm:P.follows .mixedOrders=true) (hB:∀m,Region.lexB .any (pre++(o::tl).map (fk m)).toArray=true)
  (hB2:waitsB pre o tl d (sl.map (·.1))=true) (hdst:o.dst=some d) (hg:o.guard=none) (hC:C {w with drawn:=w.drawn+1})
  (h:∀m,wpQuiet P (pre++(o::tl).map (fk m)).toArray C (fun a'=>a'.tmps.getD d undef=m∧∀p∈sl,a'.tmps.getD p.1 undef=p.2) (pre++(o::tl).map (fk m)) a)
  (hop:∀(a':Act) (w':World) (K:Act→World→Prop),C w'→a'.defers=a.defers→(∀p∈sl,a'.tmps.getD p.1 undef=p.2)→o.wp P a' w' K Q):(Code.region id l.toArray true).wp P Q a w:=by
 subst hl
 obtain⟨m,h0⟩:∃m,a.tmps.getD d undef≠m:=by
  by_cases q:a.tmps.getD d undef=.bool true
  ·exact⟨.bool false,by rw[q];intro e;cases e⟩
  ·exact⟨.bool true,q⟩
 have hBm:=hB m
 simp only[Region.lexB,Bool.and_eq_true]at hBm
 refine wp_region_any hm ?_
 have h1:=wpAnyQ_lex (C:=C) (md:=.any) hBm.1 (pre++(o::tl).map (fk m)) 0 (Array.replicate (pre++(o::tl).map (fk m)).toArray.size false) a (by simp) (by simpa using hBm.2) (h m)
 have hz:(pre++o::tl).toArray.size=(pre++(o::tl).map (fk m)).length:=by simp
 rw[hz]
 have hz2:(pre++(o::tl).map (fk m)).toArray.size=(pre++(o::tl).map (fk m)).length:=by simp
 rw[hz2]at h1
 refine any_of_fk d sl hB2 hdst hg hop _ _ _ _ h1 hC h0 rfl ?_
 intro j _
 rw[Array.getD_eq_getD_getElem?,Array.getElem?_replicate]
 split<;>rfl
end Go.Proofs.YtkidabedcgngcaaGreatDoor
namespace Go.Proofs.YtkidabedcgngcaaGreatDoor
open Go.ChangeShapes Go.WideShapes Go.ChangeAt Go.RowKit Go.Deep
set_option linter.unusedVariables false
structure Out (w:World) where
 u:World
 out:Below w.heap.size w u
theorem wp_region_out {id:Nat} {Q:Exit→Act→World→Prop} {a:Act} {w:World} {l:List Oper} (hm:Tryz.prog.follows .mixedOrders=true) (hB:Region.lexB .any l.toArray=true)
  (h:wpQuiet Tryz.prog l.toArray (fun w'=>∃n:Out w,w'=n.u) (fun a'=>∀w',(∃n:Out w,w'=n.u)→Q .normal a' w') l a):(Code.region id l.toArray true).wp Tryz.prog Q a w:=
 wp_region_quiet (C:=fun w'=>∃n:Out w,w'=n.u) hm hB ⟨⟨_,(Below.refl _ _).drew⟩,rfl⟩ (by simpa using h)
theorem Calls.out_of {f:FuncId} {args:Array Value} {w:World} {n:Out w} {v:Value}
  (h:Calls Tryz.prog f args n.u fun e w'=>e=.returned v∧Below n.u.heap.size n.u w'):Calls Tryz.prog f args n.u fun e w''=>e=.returned v∧∃m:Out w,w''=m.u:=
 h.mono fun _ w' ⟨he,hb⟩=>⟨he,⟨w',n.out.trans (hb.mono n.out.size)⟩,rfl⟩
end Go.Proofs.YtkidabedcgngcaaGreatDoor
namespace Go.Proofs.YtkidabedcgngcaaGreatDoor
open Go.ChangeShapes Go.WideShapes Go.ChangeAt Go.RowKit Go.Deep
set_option linter.unusedVariables false
set_option linter.unusedSimpArgs false
set_option maxRecDepth 100000
abbrev pfV (c a:Int):Value:=.iface 169 (.agg #[.int .i64 c,.int .i64 a])
abbrev Pf (c a:Int):Ending:=.panicked [{v:=pfV c a,recovered:=false}]
abbrev sb (s:ByteArray):List UInt8:=s.data.toList
theorem sb_len (s:ByteArray):(sb s).length=s.size:=by simp[sb]
theorem sb_get {s:ByteArray} {i:Nat} {x:UInt8} (h:(sb s)[i]?=some x):∃hi:i<s.size,s[i]=x:=by
 have hi:=(List.getElem?_eq_some_iff.1 h).1
 rw[sb_len]at hi
 refine⟨hi,?_⟩
 rw[List.getElem?_eq_getElem (by rw[sb_len];exact hi)]at h
 exact Option.some.inj h
set_option maxHeartbeats 1000000 in
theorem stringsIndexByte_any (s:ByteArray) (c:UInt8) (w:World):
  Calls Tryz.prog 173 #[.string s,.int .u8 (c.toNat:Int)] w fun e w'=>e=.returned (.int .i64 (Lib.indexByte (sb s) c))∧w'=w:=by
 have H:Calls Tryz.prog 181 #[.string s,.int .u8 (c.toNat:Int)] w fun e w'=>e=.returned (.int .i64 (Lib.indexByte (sb s) c))∧w'=w:=by
  go_enter Tryz.func181,Tryz.ntmps181
  go_wp2
  rw[run_callFunc_extern Tryz.func186 (by kernel_rfl) (by kernel_rfl) (by kernel_rfl) (e:=Extern.BytealgIndexByte.indexByte) (by kernel_rfl),Lib.run_indexByteString]
  simp only[Result.andThen]
  rw[Oper.upon_value]
  go_wp2
  go_ret
  exact⟨by simp,rfl⟩
 go_enter Tryz.func173,Tryz.ntmps173
 go_wp2_with (go_at_call 181;refine H.mono ?_;rintro e w' ⟨rfl,rfl⟩)
 go_ret
 exact⟨rfl,rfl⟩
theorem indexByte_neg:∀(l:List UInt8) (c:UInt8),-1≤Lib.indexByte l c∧(0≤Lib.indexByte l c↔c∈l)
 | [],c=>by simp[Lib.indexByte]
 |b::l,c=>by
  have ih:=indexByte_neg l c
  unfold Lib.indexByte
  by_cases h:b=c
  ·subst h;simp
  ·have h2:¬c=b:=fun q=>h q.symm
   by_cases h3:Lib.indexByte l c= -1
   ·have h4:¬c∈l:=fun q=>by have:=ih.2.2 q;omega
    simp[h,h2,h3,h4]
   ·have h4:c∈l:=ih.2.1 (by omega)
    simp[h,h2,h3,h4]
    omega
abbrev PrAt (w:World) (base g:Nat) (p:ByteArray) (i o:Nat):Prop:=BoxAt w base 172 3 g [.string p,.int .i64 (i:Int),.int .i64 (o:Int)]
set_option maxHeartbeats 1000000 in
theorem pdem_yes (v:Value) (w:World):Calls Tryz.prog 134 #[v,.bool true] w fun e w'=>e=.returned (.tuple #[])∧w'=w:=by
 go_enter Tryz.func134,Tryz.ntmps134
 go_wp2_with fail
 go_end0
 exact⟨rfl,rfl⟩
set_option maxHeartbeats 1000000 in
theorem pdem_no {base g i o:Nat} {p:ByteArray} {w:World} (h:PrAt w base g p i o):Calls Tryz.prog 134 #[.pointer (some ⟨g,0,none⟩),.bool false] w fun e w'=>e=Pf 2 i∧w'=w:=by
 have c1:=h.cell (j:=1) rfl
 clear h
 go_enter Tryz.func134,Tryz.ntmps134
 go_wp2_with fail
 exact⟨rfl,rfl,rfl⟩
theorem pdem_core (c:Bool) {base g i o:Nat} {p:ByteArray} {w:World} (h:PrAt w base g p i o):Calls Tryz.prog 134 #[.pointer (some ⟨g,0,none⟩),.bool c] w fun e w'=>w'=w∧((c=true∧e=.returned (.tuple #[]))∨(c=false∧e=Pf 2 i)):=by
 cases c with
 |true=>exact(pdem_yes _ w).mono fun e w' ⟨he,hw⟩=>⟨hw,.inl ⟨rfl,he⟩⟩
 |false=>exact(pdem_no h).mono fun e w' ⟨he,hw⟩=>⟨hw,.inr ⟨rfl,he⟩⟩
def inB (p:List UInt8) (i:Nat) (l:List UInt8):Bool:=match p[i]? with|some c=>decide (c∈l)|none=>false
set_option maxHeartbeats 2000000 in
theorem pnextIn_core {base g i o:Nat} {p:ByteArray} (s:ByteArray) {w:World} (h:PrAt w base g p i o) (hp:p.size≤200):
  Calls Tryz.prog 165 #[.pointer (some ⟨g,0,none⟩),.string s] w fun e w'=>e=.returned (.bool (inB (sb p) i (sb s)))∧Below w.heap.size w w':=by
 have hlt:=h.lt.2
 obtain⟨c0,c1⟩:=h.c2
 have e0:∀n:Out w,n.u.cell? ⟨g,0,none⟩=some (.string p):=fun n=>(n.out.cell (p:=⟨g,0,none⟩) hlt).trans c0
 have e1:∀n:Out w,n.u.cell? ⟨g,1,none⟩=some (.int .i64 (i:Int)):=fun n=>(n.out.cell (p:=⟨g,1,none⟩) hlt).trans c1
 clear h c0 c1
 by_cases hi:i<p.size
 ·obtain⟨x,hx⟩:∃x,(sb p)[i]?=some x:=⟨_,List.getElem?_eq_getElem (by rw[sb_len];exact hi)⟩
  obtain⟨_,gx⟩:=sb_get hx
  have z1:(i:Int)<(p.size:Int):=by omega
  obtain⟨r,hr⟩:=qE (Lib.indexByte (sb s) x)
  have HR:Hid (r=Lib.indexByte (sb s) x∧inB (sb p) i (sb s)=decide (0≤r)):=by
   refine⟨hr,?_⟩
   unfold inB
   rw[hx,hr]
   exact decide_eq_decide.2 (indexByte_neg _ _).2.symm
  have HI:Hid (∀n:Out w,Calls Tryz.prog 173 #[.string s,.int .u8 (x.toNat:Int)] n.u fun e w'=>e=.returned (.int .i64 r)∧Below n.u.heap.size n.u w'):=fun n=>by
   rw[HR.1]
   exact(stringsIndexByte_any s x n.u).mono fun e w' ⟨he,hw⟩=>⟨he,hw▸Below.refl _ _⟩
  rw[HR.2]
  clear hx hr
  go_enter Tryz.func165,Tryz.ntmps165
  go_upto_region 1 with fail
  refine wp_region_out (by kernel_rfl) (by kernel_rfl) ?_
  repeat (go_big_quiet_step ((first|rfl|(go_at_call 173;exact Calls.out_of (HI.out _)))))
  refine wpQuiet_nil ?_
  rintro w1 ⟨⟨wx,hb1⟩,rfl⟩
  go_wp2_with fail
  go_ret
  exact⟨rfl,hb1⟩
 ·have z1:¬(i:Int)<(p.size:Int):=by omega
  have HR:inB (sb p) i (sb s)=false:=by
   unfold inB
   rw[List.getElem?_eq_none (by rw[sb_len];omega)]
  rw[HR]
  clear HR
  go_enter Tryz.func165,Tryz.ntmps165
  go_upto_region 1 with fail
  refine wp_region_out (by kernel_rfl) (by kernel_rfl) ?_
  repeat (go_big_quiet_step (rfl))
  refine wpQuiet_nil ?_
  rintro w1 ⟨⟨wx,hb1⟩,rfl⟩
  go_wp2_with fail
  go_ret
  exact⟨rfl,hb1⟩
theorem PrAt.next {w:World} {base g i o:Nat} {p:ByteArray} (h:PrAt w base g p i o):PrAt (w.setCell ⟨g,1,none⟩ (.int .i64 ((i:Int)+1))) base g p (i+1) o:=BoxAt.set h 1 (.int .i64 ((i:Int)+1))
set_option maxHeartbeats 2000000 in
theorem ptake_yes {base g i o:Nat} {p:ByteArray} {x:UInt8} {w:World} (h:PrAt w base g p i o) (hp:p.size≤200) (hx:(sb p)[i]?=some x):
  Calls Tryz.prog 175 #[.pointer (some ⟨g,0,none⟩)] w fun e w'=>e=.returned (.int .u8 (x.toNat:Int))∧PrAt w' base g p (i+1) o∧Chg (fun k=>k=g) w w':=by
 have HP:Hid (PrAt w base g p i o):=h
 obtain⟨hi,gx⟩:=sb_get hx
 obtain⟨c0,c1⟩:=h.c2
 have f1:=h.frozen 1
 have z1:(i:Int)<(p.size:Int):=by omega
 clear h hx
 go_enter Tryz.func175,Tryz.ntmps175
 go_upto_region 1 with fail
 go_quiet ((go_at_call 134;exact Calls.quiet_of_same (pdem_yes _ _)))
 go_upto_region 2 with fail
 obtain⟨W1,hW1⟩:=qE (w.drewN nq:World)
 have hb1:Below w.heap.size w W1:=by rw[hW1];exact below_drewN (Below.refl _ _) _
 have HP1:Hid (PrAt W1 base g p i o):=HP.below hb1
 rw[←hW1]
 clear hW1 c0 c1 f1
 obtain⟨c0,c1⟩:=HP1.c2
 have f1:=HP1.frozen 1
 go_quiet (rfl)
 go_wp2_with fail
 go_ret
 have hb2:Below w.heap.size w (W1.drewN nq):=hb1.trans ((below_drewN (Below.refl _ _) _).mono hb1.size)
 exact⟨rfl,PrAt.next (BoxAt.below HP.out hb2),(Chg.of_below hb2).trans (Chg.of_set _ g 1 _ rfl)⟩
theorem wp_region_pdem {id:Nat} {Q:Exit→Act→World→Prop} {a:Act} {w:World} {l:List Oper} {base g i o:Nat} {p:ByteArray} (d s c:Tmp) {tys:Array TypeId} {ty:TypeId} {pos:String} {aft:Array Edge} (hP:PrAt w base g p i o)
  (ho:l.getLast?=some ⟨some d,.call {callee:=.value (.func 134),args:=#[.tmp s,.tmp c],argTypes:=tys},ty,pos,aft,none⟩)
  (hB:∀m,Region.lexB .any (l.dropLast++ [fk m ⟨some d,.call {callee:=.value (.func 134),args:=#[.tmp s,.tmp c],argTypes:=tys},ty,pos,aft,none⟩]).toArray=true)
  (hB2:waitsB l.dropLast ⟨some d,.call {callee:=.value (.func 134),args:=#[.tmp s,.tmp c],argTypes:=tys},ty,pos,aft,none⟩ [] d [s,c]=true)
  (hQ:∀(a':Act) (w':World),Below w.heap.size w w'→a'.defers=a.defers→Q (.panic [{v:=pfV 2 i,recovered:=false}]) a' w')
  (h:∀m,wpQuiet Tryz.prog (l.dropLast++ [fk m ⟨some d,.call {callee:=.value (.func 134),args:=#[.tmp s,.tmp c],argTypes:=tys},ty,pos,aft,none⟩]).toArray (fun w'=>∃n:Out w,w'=n.u) (fun a'=>a'.tmps.getD d undef=m∧∀q∈ [(s,Value.pointer (some ⟨g,0,none⟩)),(c,.bool false)],a'.tmps.getD q.1 undef=q.2) (l.dropLast++ [fk m ⟨some d,.call {callee:=.value (.func 134),args:=#[.tmp s,.tmp c],argTypes:=tys},ty,pos,aft,none⟩]) a):
  (Code.region id l.toArray true).wp Tryz.prog Q a w:=by
 have hl:l=l.dropLast++ [⟨some d,.call {callee:=.value (.func 134),args:=#[.tmp s,.tmp c],argTypes:=tys},ty,pos,aft,none⟩]:=by
  obtain⟨l',hl'⟩:=List.getLast?_eq_some_iff.1 ho
  rw[hl'];simp
 refine wp_region_dies (C:=fun w'=>∃n:Out w,w'=n.u) l.dropLast _ [] d [(s,Value.pointer (some ⟨g,0,none⟩)),(c,.bool false)] l hl (by kernel_rfl) hB hB2 rfl rfl ⟨⟨_,(Below.refl _ _).drew⟩,rfl⟩ h ?_
 rintro a' w' K ⟨n,rfl⟩ hd hp
 have h1:a'.tmps.getD s undef=.pointer (some ⟨g,0,none⟩):=hp (s,_) (by simp)
 have h2:a'.tmps.getD c undef=.bool false:=hp (c,_) (by simp)
 have h3:a'.tmps[s]?.getD undef=.pointer (some ⟨g,0,none⟩):=by rw[←Array.getD_eq_getD_getElem?];exact h1
 have h4:a'.tmps[c]?.getD undef=.bool false:=by rw[←Array.getD_eq_getD_getElem?];exact h2
 unfold Oper.wp
 have hrun:(execOp a'.eval ⟨some d,.call {callee:=.value (.func 134),args:=#[.tmp s,.tmp c],argTypes:=tys},ty,pos,aft,none⟩).run Tryz.prog n.u=.ok (.enter 134 #[.pointer (some ⟨g,0,none⟩),.bool false]) n.u:=by
  simp[execOp,h3,h4,go_sem,Act.eval,Tryz.func134]
 rw[hrun,Oper.upon_enter]
 refine(pdem_no (BoxAt.below hP n.out)).mono ?_
 rintro e w'' ⟨rfl,rfl⟩
 exact hQ a' n.u n.out hd
theorem pslots2 {a':Act} {s t:Tmp} {x y:Value} (h:a'.tmps.getD s undef=x) (h2:a'.tmps.getD t undef=y):∀p∈ [(s,x),(t,y)],a'.tmps.getD p.1 undef=p.2:=by
 intro p hp
 rcases List.mem_cons.1 hp with rfl|hp
 ·exact h
 ·rcases List.mem_cons.1 hp with rfl|hp
  ·exact h2
  ·cases hp
set_option maxHeartbeats 2000000 in
theorem ptake_no {base g i o:Nat} {p:ByteArray} {w:World} (h:PrAt w base g p i o) (hp:p.size≤200) (hx:¬i<p.size):
  Calls Tryz.prog 175 #[.pointer (some ⟨g,0,none⟩)] w fun e w'=>e=Pf 2 i∧Below w.heap.size w w':=by
 have HP:Hid (PrAt w base g p i o):=h
 have hlt:=h.lt.2
 obtain⟨c0,c1⟩:=h.c2
 have e0:∀n:Out w,n.u.cell? ⟨g,0,none⟩=some (.string p):=fun n=>(n.out.cell (p:=⟨g,0,none⟩) hlt).trans c0
 have e1:∀n:Out w,n.u.cell? ⟨g,1,none⟩=some (.int .i64 (i:Int)):=fun n=>(n.out.cell (p:=⟨g,1,none⟩) hlt).trans c1
 have z1:¬(i:Int)<(p.size:Int):=by omega
 clear h c0 c1
 go_enter Tryz.func175,Tryz.ntmps175
 go_upto_region 1 with fail
 refine wp_region_pdem 15 4 14 HP.out rfl (fun m=>by kernel_rfl) (by kernel_rfl) ?q ?_
 case q=>exact fun a' w' hb hd=>⟨hd,rfl,hb⟩
 intro m
 dsimp only[List.dropLast,fk,List.cons_append,List.nil_append]
 repeat (go_big_quiet_step (rfl))
 refine wpQuiet_nil ?_
 exact⟨rfl,pslots2 rfl rfl⟩
theorem ptake_core {base g i o:Nat} {p:ByteArray} {w:World} (h:PrAt w base g p i o) (hp:p.size≤200) (hi:i≤p.size):
  Calls Tryz.prog 175 #[.pointer (some ⟨g,0,none⟩)] w fun e w'=>Chg (fun k=>k=g) w w'∧
   ((∃x:UInt8,(sb p)[i]?=some x∧e=.returned (.int .u8 (x.toNat:Int))∧PrAt w' base g p (i+1) o)∨((sb p)[i]?=none∧e=Pf 2 i)):=by
 by_cases hx:i<p.size
 ·obtain⟨x,hx⟩:∃x,(sb p)[i]?=some x:=⟨_,List.getElem?_eq_getElem (by rw[sb_len];exact hx)⟩
  exact(ptake_yes h hp hx).mono fun e w' ⟨he,h1,h2⟩=>⟨h2,.inl ⟨x,hx,he,h1⟩⟩
 ·exact(ptake_no h hp hx).mono fun e w' ⟨he,h1⟩=>⟨Chg.of_below h1,.inr ⟨List.getElem?_eq_none (by rw[sb_len];omega),he⟩⟩
set_option maxHeartbeats 2000000 in
theorem pskip_core {base g i o:Nat} {p:ByteArray} (c:UInt8) {w:World} (h:PrAt w base g p i o) (hp:p.size≤200):
  Calls Tryz.prog 153 #[.pointer (some ⟨g,0,none⟩),.int .u8 (c.toNat:Int)] w fun e w'=>Chg (fun k=>k=g) w w'∧
   (((sb p)[i]?=some c∧e=.returned (.bool true)∧PrAt w' base g p (i+1) o)∨(¬(sb p)[i]?=some c∧e=.returned (.bool false)∧PrAt w' base g p i o)):=by
 have HP:Hid (PrAt w base g p i o):=h
 have hlt:=h.lt.2
 obtain⟨c0,c1⟩:=h.c2
 have e0:∀n:Out w,n.u.cell? ⟨g,0,none⟩=some (.string p):=fun n=>(n.out.cell (p:=⟨g,0,none⟩) hlt).trans c0
 have e1:∀n:Out w,n.u.cell? ⟨g,1,none⟩=some (.int .i64 (i:Int)):=fun n=>(n.out.cell (p:=⟨g,1,none⟩) hlt).trans c1
 clear h c0 c1
 by_cases hi:i<p.size
 ·obtain⟨x,hx⟩:∃x,(sb p)[i]?=some x:=⟨_,List.getElem?_eq_getElem (by rw[sb_len];exact hi)⟩
  obtain⟨_,gx⟩:=sb_get hx
  have z1:(i:Int)<(p.size:Int):=by omega
  by_cases hxc:x=c
  ·subst hxc
   have HF:Hid ((sb p)[i]?=some x):=hx
   clear hx
   go_enter Tryz.func153,Tryz.ntmps153
   go_upto_region 1 with fail
   refine wp_region_out (by kernel_rfl) (by kernel_rfl) ?_
   repeat (go_big_quiet_step (rfl))
   refine wpQuiet_nil ?_
   rintro w1 ⟨⟨wx,hb1⟩,rfl⟩
   have HP1:Hid (PrAt w1 base g p i o):=BoxAt.below HP.out hb1
   have c1:=HP1.cell (j:=1) rfl
   have f1:=HP1.frozen 1
   clear e0 e1
   go_wp2_with fail
   go_ret
   exact⟨(Chg.of_below hb1).trans (Chg.of_set _ g 1 _ rfl),.inl ⟨HF.out,rfl,PrAt.next HP1.out⟩⟩
  ·have HF:Hid (¬(sb p)[i]?=some c):=by
    show¬(sb p)[i]?=some c
    rw[hx]
    exact fun q=>hxc (Option.some.inj q)
   have z2:¬(x.toNat:Int)=(c.toNat:Int):=fun q=>hxc (UInt8.toNat_inj.1 (by omega))
   clear hx hxc
   go_enter Tryz.func153,Tryz.ntmps153
   go_upto_region 1 with fail
   refine wp_region_out (by kernel_rfl) (by kernel_rfl) ?_
   repeat (go_big_quiet_step (rfl))
   refine wpQuiet_nil ?_
   rintro w1 ⟨⟨wx,hb1⟩,rfl⟩
   have HP1:Hid (PrAt w1 base g p i o):=BoxAt.below HP.out hb1
   clear e0 e1
   go_wp2_with fail
   go_ret
   exact⟨Chg.of_below hb1,.inr ⟨HF.out,congrArg (fun b=>Ending.returned (.bool b)) (beq_eq_false_iff_ne.2 z2),HP1.out⟩⟩
 ·have z1:¬(i:Int)<(p.size:Int):=by omega
  have HF:Hid (¬(sb p)[i]?=some c):=by
   show¬(sb p)[i]?=some c
   rw[List.getElem?_eq_none (by rw[sb_len];omega)]
   exact fun q=>by cases q
  go_enter Tryz.func153,Tryz.ntmps153
  go_upto_region 1 with fail
  refine wp_region_out (by kernel_rfl) (by kernel_rfl) ?_
  repeat (go_big_quiet_step (rfl))
  refine wpQuiet_nil ?_
  rintro w1 ⟨⟨wx,hb1⟩,rfl⟩
  have HP1:Hid (PrAt w1 base g p i o):=BoxAt.below HP.out hb1
  clear e0 e1
  go_wp2_with fail
  go_ret
  first
   |exact⟨Chg.of_below hb1,.inr ⟨HF.out,rfl,HP1.out⟩⟩
   |exact⟨Chg.of_below hb1,rfl,HP1.out⟩
theorem setA_some:∃F:(UInt8→Bool)→Array Value,∀f,F f=Array.ofFn (n:=256) fun i=>.bool (f (UInt8.ofNat i.val)):=⟨_,fun _=>rfl⟩
noncomputable def setA (f:UInt8→Bool):Array Value:=Classical.choose setA_some f
theorem setA_eq (f:UInt8→Bool):setA f=Array.ofFn (n:=256) fun i=>.bool (f (UInt8.ofNat i.val)):=Classical.choose_spec setA_some f
theorem setA_size (f:UInt8→Bool):(setA f).size=256:=by rw[setA_eq];simp
theorem info_set:(Tryz.prog.info? 215).map (fun i=>(i.zero,i.size))=some (some (.agg (Array.replicate 256 (.bool false))),256):=by kernel_rfl
theorem setA_none:setA (fun _=>false)=Array.replicate 256 (.bool false):=by
 rw[setA_eq]
 apply Array.ext
 ·simp
 ·intro i h1 h2
  simp
theorem setA_at (f:UInt8→Bool) (i:Nat) (h:i<256):(setA f)[i]?=some (.bool (f (UInt8.ofNat i))):=by
 rw[setA_eq,Array.getElem?_eq_getElem (by simp;exact h)]
 simp only[Array.getElem_ofFn]
theorem setA_one (f:UInt8→Bool):(setA f).all (·.oneCell')=true:=by
 rw[setA_eq,Array.all_eq_true_iff_forall_mem]
 intro v hv
 obtain⟨i,hi,rfl⟩:=Array.getElem_of_mem hv
 simp only[Array.getElem_ofFn]
 rfl
theorem BoxAt.heap {w:World} {base t sz g:Nat} {vs:List Value} (h:BoxAt w base t sz g vs):w.heap[g]?=some (.cells vs.toArray t (0,0)):=by
 rcases h.2 with⟨h0,_⟩|⟨g',cap,cur,hv,_,hc,_,_,hsz,htk⟩
 ·cases h0
 ·simp only[Value.slice.injEq,Option.some.injEq,Addr.mk.injEq,and_true,true_and]at hv
  obtain⟨rfl,rfl⟩:=hv
  rw[hc]
  rw[List.take_of_length_le (by simp[hsz])]at htk
  rw[←htk]
theorem BoxAt.ofHeap {w:World} {base t sz g:Nat} {vs:Array Value} (h:w.heap[g]?=some (.cells vs t (0,0))) (hb:base≤g) (hs:vs.size=sz):BoxAt w base t sz g vs.toList:=by
 refine⟨by simp[hs],.inr ⟨g,1,vs,rfl,hb,h,Nat.le_refl _,by decide,by omega,?_⟩⟩
 rw[List.take_of_length_le (by simp[hs])]
abbrev SetAt (w:World) (base g:Nat) (f:UInt8→Bool):Prop:=BoxAt w base 215 256 g (setA f).toList
theorem SetAt.heap {w:World} {base g:Nat} {f:UInt8→Bool} (h:SetAt w base g f):w.heap[g]?=some (.cells (setA f) 215 (0,0)):=by
 have h1:=BoxAt.heap h
 rw[Array.toArray_toList]at h1
 exact h1
theorem SetAt.ext {w:World} {base g:Nat} {f f':UInt8→Bool} (h:SetAt w base g f) (he:∀c,f c=f' c):SetAt w base g f':=by
 rw[show f'=f from funext fun c=>(he c).symm];exact h
theorem setA_get (f:UInt8→Bool) (k:Nat) (h:k<256):(setA f).toList[k]?=some (.bool (f (UInt8.ofNat k))):=by
 rw[Array.getElem?_toList];exact setA_at f k h
theorem ofNat_eq {i k:Nat} (hi:i<256) (hk:k<256) (h:UInt8.ofNat i=UInt8.ofNat k):i=k:=by
 have:=congrArg UInt8.toNat h
 rw[UInt8.toNat_ofNat',UInt8.toNat_ofNat']at this
 omega
theorem setA_set (f:UInt8→Bool) (k:Nat) (b:Bool) (hk:k<256):(setA f).toList.set k (.bool b)=(setA (fun c=>if c=UInt8.ofNat k then b else f c)).toList:=by
 apply List.ext_getElem?
 intro i
 rw[List.getElem?_set]
 by_cases h:k=i
 ·subst h
  rw[if_pos rfl,if_pos (by simp[setA_size];exact hk),setA_get _ _ hk,if_pos rfl]
 ·rw[if_neg h]
  by_cases hi:i<256
  ·rw[setA_get _ _ hi,setA_get _ _ hi,if_neg (fun q=>h (ofNat_eq hi hk q).symm)]
  ·rw[List.getElem?_eq_none (by simp[setA_size];omega),List.getElem?_eq_none (by simp[setA_size];omega)]
theorem Below.setRow' {B:Nat} {a w:World} (h:Below B a w) {g:Nat} (hg:B≤g) (cs:Array Value):Below B a (w.setRow g cs):=
 h.trans ⟨rfl,rfl,rfl,by simp,fun k hk=>setRow_other w g k cs (by omega)⟩
set_option maxHeartbeats 2000000 in
theorem opposite_core (f:UInt8→Bool) (w:World):
  Calls Tryz.prog 182 #[.agg (setA f)] w fun e w'=>e=.returned (.agg (setA (fun c=> !f c)))∧Below w.heap.size w w':=by
 have hzv:=(zero_of_info info_set).1
 go_enter Tryz.func182,Tryz.ntmps182
 go_wp2_with fail
 clear hzv
 rw[←setA_none]
 obtain⟨W,hW⟩:=qE ((w.alloc (.cells (setA f) 215)).alloc (.cells (setA (fun _=>false)) 215))
 have HW:Hid (SetAt W w.heap.size w.heap.size f∧SetAt W w.heap.size (w.heap.size+1) (fun _=>false)∧Below w.heap.size w W):=by
  rw[hW]
  refine⟨BoxAt.ofHeap (heap_alloc2_old w _ _) (Nat.le_refl _) (setA_size _),BoxAt.ofHeap (heap_alloc2_new w _ _) (by omega) (setA_size _),(qB).alloc (by simp) _⟩
 rw[←hW]
 clear hW
 go_loopw[4] (fun i wr=>∃(k:Nat),k≤256∧i=.int .i64 k∧SetAt wr w.heap.size w.heap.size (fun c=>if c.toNat<k then !f c else f c)∧SetAt wr w.heap.size (w.heap.size+1) (fun _=>false)∧Below w.heap.size w wr) (fun i _=>256-(intOf i).toNat)
 case atStart=>
  refine⟨0,Nat.zero_le _,rfl,?_,HW.2.1,HW.2.2⟩
  exact SetAt.ext HW.1 (fun c=>by rw[if_neg (by omega)])
 case round=>
  obtain⟨k,hk,rfl,h1,h2,h3⟩:=hrel
  have HR:Hid (SetAt wr w.heap.size w.heap.size (fun c=>if c.toNat<k then !f c else f c)∧SetAt wr w.heap.size (w.heap.size+1) (fun _=>false)∧Below w.heap.size w wr):=⟨h1,h2,h3⟩
  clear h1 h2 h3 HW
  by_cases hlt:k<256
  ·have z:(k:Int)<256:=by omega
   obtain⟨b,hb⟩:=qE (f (UInt8.ofNat k))
   have hn:(UInt8.ofNat k).toNat=k:=by rw[UInt8.toNat_ofNat'];omega
   have d0:wr.cell? ⟨w.heap.size,k,none⟩=some (.bool b):=by
    have:=HR.1.cell (setA_get _ k hlt)
    rw[hn,if_neg (Nat.lt_irrefl _),←hb]at this
    exact this
   have f0:=HR.1.frozen k
   have HN:Hid (SetAt (wr.setCell ⟨w.heap.size,k,none⟩ (.bool (!b))) w.heap.size w.heap.size (fun c=>if c.toNat<k+1 then !f c else f c)∧SetAt (wr.setCell ⟨w.heap.size,k,none⟩ (.bool (!b))) w.heap.size (w.heap.size+1) (fun _=>false)∧Below w.heap.size w (wr.setCell ⟨w.heap.size,k,none⟩ (.bool (!b)))):=by
    refine⟨?_,HR.2.1.beside (by omega) k _,below_set HR.2.2 (Nat.le_refl _) k _⟩
    have h4:=HR.1.set k (.bool (!b))
    rw[setA_set _ k (!b) hlt]at h4
    refine SetAt.ext h4 ?_
    ·intro c
     by_cases hc:c=UInt8.ofNat k
     ·rw[if_pos hc,hc,hn,if_pos (by omega),hb]
     ·rw[if_neg hc]
      have:¬c.toNat=k:=fun q=>hc (UInt8.toNat_inj.1 (by rw[hn];exact q))
      by_cases h5:c.toNat<k
      ·rw[if_pos h5,if_pos (by omega)]
      ·rw[if_neg h5,if_neg (by omega)]
   clear hb hn HR
   go_wp2_with fail
   go_roundw
   case rel=>exact⟨k+1,by omega,by go_num,HN.1,HN.2.1,HN.2.2⟩
   case measure=>simp[intOf];omega
  ·obtain rfl:k=256:=by omega
   have h0:=SetAt.heap (SetAt.ext HR.1 (f':=fun c=> !f c) (fun c=>if_pos (UInt8.toNat_lt c)))
   have h1:=SetAt.heap HR.2.1
   have hB:Below w.heap.size w (wr.setRow (w.heap.size+1) (setA (fun c=> !f c))):=Below.setRow' HR.2.2 (by omega) _
   have hi:(Tryz.prog.info? 215).map (·.size)=some 256:=(zero_of_info info_set).2
   clear HR
   go_upto_region 6 with fail
   apply wp_region_list
   refine wpList_load_row rfl 215 _ rfl w.heap.size rfl 215 (setA (fun c=> !f c)) (0,0) _ h0 Tryz.underlying215 rfl (by rw[setA_size];exact hi) ?_
   refine wpList_store_row rfl 215 _ _ rfl (w.heap.size+1) (setA (fun c=> !f c)) rfl rfl 215 (setA (fun _=>false)) h1 (by rw[setA_size];exact hi) (by rw[setA_size,setA_size]) (setA_one _) ?_
   have hr:=setRow_heap _ _ _ (setA (fun c=> !f c)) _ _ h1
   obtain⟨W2,hW2⟩:=qE (wr.setRow (w.heap.size+1) (setA (fun c=> !f c)))
   rw[←hW2]at hB hr⊢
   clear hW2 h0 h1
   apply wpList_nil
   go_wp2_with fail
   refine bodyPost_ret (v:=.agg (setA (fun c=> !f c))) (results_cell_row rfl _ _ (w.heap.size+1) _ _ _ _ rfl hr Tryz.underlying215 rfl (by rw[setA_size];exact hi)) rfl ⟨rfl,hB⟩
theorem chM_in {p:List UInt8} {i:Nat} (h:inB p i [93,45]=true):chM p i=(0,i,false):=by
 unfold inB at h
 unfold chM
 split at h
 ·next c hc=>
  rw[hc]
  have:c=93∨c=45:=by simpa using h
  simp only[]
  rw[if_pos this]
 ·cases h
theorem chM_end {p:List UInt8} {i:Nat} (h:p[i]?=none):chM p i=(0,i,false):=by
 unfold chM;rw[h]
theorem chM_esc {p:List UInt8} {i:Nat} (h:p[i]?=some 92):chM p i=match p[i+1]? with|none=>(0,i+1,false)|some d=>(d,i+2,true):=by
 unfold chM;rw[h];rfl
theorem chM_plain {p:List UInt8} {i:Nat} {c:UInt8} (h:p[i]?=some c) (h1:inB p i [93,45]=false) (h2:¬c=92):chM p i=(c,i+1,true):=by
 unfold inB at h1
 unfold chM
 rw[h]at h1⊢
 have:¬(c=93∨c=45):=by simpa using h1
 simp only[]
 rw[if_neg this,if_neg h2]
set_option maxHeartbeats 2000000 in
theorem classByte_core {base g i o:Nat} {p:ByteArray} {w:World} (h:PrAt w base g p i o) (hp:p.size≤200) (hi:i≤p.size):
  Calls Tryz.prog 188 #[.pointer (some ⟨g,0,none⟩)] w fun e w'=>Chg (fun k=>k=g) w w'∧
   ((∃(x:UInt8) (k:Nat),chM (sb p) i=(x,k,true)∧e=.returned (.int .u8 (x.toNat:Int))∧PrAt w' base g p k o)∨(∃(x:UInt8) (k:Nat),chM (sb p) i=(x,k,false)∧e=Pf 2 k)):=by
 have HP:Hid (PrAt w base g p i o):=h
 clear h
 go_enter Tryz.func188,Tryz.ntmps188
 go_wp2_with fail
 refine(pnextIn_core ⟨#[93,45]⟩ HP.out hp).mono ?_
 rintro e w1 ⟨rfl,hb1⟩
 have HP1:Hid (PrAt w1 base g p i o∧Chg (fun k=>k=g) w w1):=⟨BoxAt.below HP.out hb1,Chg.of_below hb1⟩
 obtain⟨q,hq⟩:=qE (inB (sb p) i (sb ⟨#[93,45]⟩))
 have HQ:Hid (inB (sb p) i [93,45]=q):=hq.symm
 rw[←hq]
 clear hb1 hq HP
 go_wp2_with fail
 refine(pdem_core (!q) HP1.1).mono ?_
 rintro e w2 ⟨rfl,(⟨hc,rfl⟩|⟨hc,rfl⟩)⟩
 case inr=>
  have hq:q=true:=by simpa using hc
  refine⟨rfl,HP1.2,.inr ⟨0,i,chM_in (by rw[HQ.out,hq]),rfl⟩⟩
 have hq:q=false:=by simpa using hc
 subst hq
 clear hc
 go_wp2_with fail
 refine(ptake_core HP1.1 hp hi).mono ?_
 rintro e w3 ⟨hC3,(⟨x,hx,rfl,hP3⟩|⟨hx,rfl⟩)⟩
 case inr=>exact⟨rfl,HP1.2.trans hC3,.inr ⟨0,i,chM_end hx,rfl⟩⟩
 have HP3:Hid (PrAt w3 base g p (i+1) o∧Chg (fun k=>k=g) w w3∧(sb p)[i]?=some x):=⟨hP3,HP1.2.trans hC3,hx⟩
 have hi1:i+1≤p.size:=by
  have:=(List.getElem?_eq_some_iff.1 hx).1
  rw[sb_len]at this;omega
 clear hC3 hx hP3 HP1
 by_cases h92:x=92
 ·subst h92
  go_wp2_with fail
  refine(ptake_core HP3.1 hp hi1).mono ?_
  rintro e w4 ⟨hC4,(⟨y,hy,rfl,hP4⟩|⟨hy,rfl⟩)⟩
  case inr=>exact⟨rfl,HP3.2.1.trans hC4,.inr ⟨0,i+1,by rw[chM_esc HP3.2.2,hy],rfl⟩⟩
  have HF:Hid (Chg (fun k=>k=g) w w4∧chM (sb p) i=(y,i+2,true)∧PrAt w4 base g p (i+2) o):=⟨HP3.2.1.trans hC4,by rw[chM_esc HP3.2.2,hy],hP4⟩
  clear hC4 hy hP4
  go_wp2_with fail
  go_ret
  exact⟨HF.1,.inl ⟨y,i+2,HF.2.1,rfl,HF.2.2⟩⟩
 ·have z:¬(x.toNat:Int)=92:=fun q=>h92 (UInt8.toNat_inj.1 (by show x.toNat=92;omega))
  go_wp2_with fail
  go_ret
  exact⟨HP3.2.1,.inl ⟨x,i+1,chM_plain HP3.2.2 HQ.out h92,rfl,HP3.1⟩⟩
end Go.Proofs.YtkidabedcgngcaaGreatDoor
