import Derived.Test.YtkidabedcgngcaaGreatDoorWkAA
import Derived.Test.YtkidabedcgngcaaGreatDoorWkAK
import Derived.Test.YtkidabedcgngcaaGreatDoorWkAC
import Derived.Test.YtkidabedcgngcaaGreatDoorTie
import Derived.Test.YtkidabedcgngcaaGreatDoorCards
import Derived.ProofKit
import Derived.LaidMore
import Derived.OpenShut
import Derived.Lib.LaidTab
import Derived.Stop.Joined
namespace Go.Proofs.YtkidabedcgngcaaGreatDoor.exMeaning
open Go.ChangeMaps (open_string shut_string)
open Go.ChangeShapes Go.WideShapes Go.ChangeAt Go.WideMaps Go.WideElems Go.RowKit Go.Deep
set_option linter.unusedVariables false
set_option linter.unusedSimpArgs false
set_option maxRecDepth 100000
theorem own:ownKnob Tryz.prog.godebug=none:=by kernel_rfl
theorem laidOut:laidOutB Tryz.prog=true:=by kernel_rfl
theorem gD64:Tryz.prog.globalNamed "math/bits.deBruijn64tab" =some 1:=by kernel_rfl
theorem tD64:(Tryz.prog.globals[1]?).map (·.type)=some 236:=by kernel_rfl
theorem cU8:Tryz.prog.cellsOf 5=1:=by kernel_rfl
theorem cD64:Tryz.prog.cellsOf 236=64:=by kernel_rfl
theorem of_laid {W:World} (h:laidMetH Tryz.prog Rows.fnExactMeaningRow.laid W):TabD W:=by
 have h':laidMetH Tryz.prog [("math/bits.deBruijn64tab",Rows.laid_math_bits_deBruijn64tab)] W:=h
 clear h
 rw[MakeChecks.laidMetH_plain _ _ _ (by kernel_rfl)]at h'
 obtain⟨ps,⟨g0,t0,cs0,f0,p0,q0,hg0,ht0,hv0,hd0,_,_⟩,_⟩:=h'
 obtain rfl:=Option.some.inj (gD64.symm.trans hg0)
 obtain rfl:=Option.some.inj (tD64.symm.trans ht0)
 have hc:=Lib.cells_of_tab (zs:=Lib.deBruijn64tab.map Int.ofNat) Tryz.underlying236 Tryz.underlying5 cU8 cD64 hd0
 intro j hj
 rw[World.var?_cell hg0 hv0 j]
 have hl:(cs0.toList)[j]?=some (.int .u8 (Lib.deBruijn64tab.getD j 0)):=by
  rw[hc,List.getElem?_map,List.getElem?_map]
  have:j<Lib.deBruijn64tab.length:=hj
  rw[List.getElem?_eq_getElem this]
  simp[List.getD,List.getElem?_eq_getElem this]
 simpa using hl
theorem door_met (os:Os) (args:Array Value):laidMetH Tryz.prog Rows.fnExactMeaningRow.laid ((World.doorLaid Tryz.prog 400 os).forCall (fun _ _=>0) ⟨#[],args,[]⟩).memory:=
 laidMetH_of_parts3 (fuel:=8) (laidMet_of_run' 8 (by kernel_rfl) (by kernel_rfl)) (by kernel_rfl) (by kernel_rfl)
theorem kind_put (es:List Ent):∀e∈es.map putE,e.kind=0:=fun e he=>by
 obtain⟨x,_,rfl⟩:=List.mem_map.1 he
 rfl
theorem ok_put {es:List Ent} (h:∀e∈es,e.ok):∀e∈es.map putE,e.ok:=fun e he=>by
 obtain⟨x,hx,rfl⟩:=List.mem_map.1 he
 have:=h x hx
 exact⟨this.row,this.fam,this.qual,this.val,this.ts,(show(Lit.int .i64 0).wf=true by decide)⟩
theorem in_put {w:World} {v:Value} {es:List Ent} (h:InCels w v es):InCels w v (es.map putE):=by
 rcases h with⟨a,cap,rfl,rfl⟩|⟨b,off,cap,rfl,hE,h1,h2,h3⟩
 ·exact .inl ⟨a,cap,rfl,rfl⟩
 ·refine .inr ⟨b,off,cap,by rw[List.length_map],fun i e he=>?_,h1,by rw[List.length_map];exact h2,h3⟩
  rw[List.getElem?_map]at he
  cases hx:es[i]? with
  |none=>rw[hx]at he;cases he
  |some x=>
   rw[hx]at he
   cases he
   exact hE i x hx
theorem flat_le {es:List Ent} {t:CT} (hS:Sub es es):∀(f i:Nat),((cutsF es f i).flatMap fun p=>mean t (segE es p)).length≤es.length-i
 |0,i=>Nat.zero_le _
 |f+1,i=>by
  unfold cutsF
  split
  ·rename_i hi
   have ih:=flat_le hS f (rEnd es i) (t:=t)
   have h1:=(mean_sub t (segE_sub hS (i,rEnd es i))).len (segE_sub hS (i,rEnd es i)).ord
   have hle:rEnd es i≤es.length:=rEndF_le es i _ i (Nat.le_of_lt hi)
   have hgt:=rEnd_gt hi
   rw[segE_len hle]at h1
   simp only[List.flatMap_cons,List.length_append]
   omega
  ·exact Nat.zero_le _
theorem meaOf_len {xs:List Nd} {es R:List Ent} (h:MeaOf xs es R) (hk:∀e∈es,e.kind=0) (hok:∀e∈es,e.ok):R.length≤es.length:=by
 rcases h with⟨_,rfl⟩|⟨h1,t,ht,rfl⟩
 ·exact Nat.zero_le _
 ·exact Nat.le_trans (flat_le (sub_good h1.2 hk hok) _ 0) (by omega)
theorem toFilter_in (W0:World) (u:Value) (es:List Nd) (w:World) (hb:Below W0.heap.size W0 w) (h:Hid (InNds W0 u es)) (h1:es.length≤1048576):
  Calls Tryz.prog 8 #[.agg #[u]] w fun e w'=>
   ∃g,e=.returned (.agg #[.slice (some ⟨g,0,none⟩) es.length es.length])∧Hid (InNds w' (.slice (some ⟨g,0,none⟩) es.length es.length) es)∧Below W0.heap.size W0 w'∧(∀b o,b<W0.heap.size→w'.cell? ⟨b,o,none⟩=W0.cell? ⟨b,o,none⟩):=by
 refine(toFilter_any u es w (h.out.below hb (Nat.le_refl _)) h1).mono ?_
 rintro e w' ⟨g,he,hO,hb'⟩
 have k:=hb.trans (hb'.mono hb.size)
 exact⟨g,he,InNds.own hO rfl,k,fun b o hlt=>k.cell (p:=⟨b,o,none⟩) hlt⟩
theorem eqFilter_in (W0:World) (u u':Value) (es:List Nd) (w:World) (hb:Below W0.heap.size W0 w) (h:Hid (InNds W0 u es)) (h':Hid (InNds w u' es)):
  Calls Tryz.prog 12 #[.agg #[u],.agg #[u']] w fun e w'=>e=.returned (.bool true)∧Below W0.heap.size W0 w':=by
 refine(eqFilter_any u u' es w (h.out.below hb (Nat.le_refl _)) h'.out).mono ?_
 rintro e w' ⟨he,hb'⟩
 exact⟨he,hb.trans (hb'.mono hb.size)⟩
set_option maxHeartbeats 16000000 in
theorem walk (u:Value) (xs:List Nd) (v:Value) (es:List Ent) (w:World) (h:InNds w u xs) (hok:∀e∈xs,e.ok) (hc:InCels w v es) (hoe:∀e∈es,e.ok) (hk:∀e∈es,e.kind=0) (hT:TabD w):
  Calls Tryz.prog 3 #[.agg #[u],v] w fun e w'=>e=.returned (.bool true)∧Below w.heap.size w w':=by
 have HE:Hid (InNds w u xs∧∀e∈xs,e.ok):=⟨h,hok⟩
 have HC:Hid (InCels w v es∧(∀e∈es,e.ok)∧(∀e∈es,e.kind=0)):=⟨hc,hoe,hk⟩
 have HTb:Hid (∀wx,Below w.heap.size w wx→TabD wx):=fun wx hx=>hT.chg (S:=fun k=>w.heap.size≤k) ⟨hx.os,hx.tape,hx.output,hx.size,fun j hj hn=>hx.block j (by omega)⟩ (fun q=>by have:=hT.lt;omega)
 have hu:u.cells=#[u]:=by
  rcases h with⟨a,cap,rfl,_⟩|⟨b,off,cap,rfl,_⟩<;>rfl
 obtain⟨va,vn,vc,rfl⟩:∃a n c,v=.slice a n c:=by
  rcases hc with⟨a,cap,rfl,_⟩|⟨b,off,cap,rfl,_⟩<;>exact⟨_,_,_,rfl⟩
 clear h hok hc hoe hk hT
 obtain⟨W0,hW0⟩:=qE (w.alloc (Obj.cells #[u] 24):World)
 have hb0:Below w.heap.size w W0:=by rw[hW0];exact qB
 have hz0:w.heap.size<W0.heap.size:=by rw[hW0];simp
 have ca:W0.cell? ⟨w.heap.size,0,none⟩=some u:=by rw[hW0];simp
 have HE0:Hid (InNds W0 u xs):=HE.1.below hb0 (Nat.le_refl _)
 have HV0:Hid (InCels W0 (.slice va vn vc) es):=HC.1.below hb0 (Nat.le_refl _)
 have HA:Hid (∀wx,Below W0.heap.size W0 wx→wx.cell? ⟨w.heap.size,0,none⟩=some u∧InNds wx u xs∧InCels wx (.slice va vn vc) es∧TabD wx):=fun wx hx=>⟨by rw[hx.cell (p:=⟨w.heap.size,0,none⟩) hz0];exact ca,HE0.below hx (Nat.le_refl _),HV0.below hx (Nat.le_refl _),HTb.out wx (hb0.trans (hx.mono (by omega)))⟩
 go_enter Tryz.func3,Tryz.ntmps3
 go_wp2_with fail
 rw[←hW0]
 clear hW0
 refine(szFilter_any u xs _ _ HE0.out HE.2 (by omega) (by omega)).mono ?_
 rintro e w1 ⟨x,rfl,hx,hb1⟩
 have hs1:=hb1.size
 by_cases hx0:x<0
 ·clear hx
  go_wp2_with fail
  go_ret
  exact⟨rfl,hb0.trans (hb1.mono (by omega))⟩
 have hn:xs.length≤1048576:=by omega
 have hx1:x≤1048576:=by omega
 clear hx ca
 have HV1:Hid (InCels w1 (.slice va vn vc) es):=(HA.out w1 hb1).2.2.1
 go_wp2_with fail
 refine(szCellS_any _ es x w1 HV1.out HC.2.1 (by omega) (by omega)).mono ?_
 rintro e w2 ⟨y,rfl,hy,hb2⟩
 have hs2:=hb2.size
 have j2:Below W0.heap.size W0 w2:=hb1.trans (hb2.mono (by omega))
 by_cases hy0:y<0
 ·clear hy
  go_wp2_with fail
  go_ret
  exact⟨rfl,hb0.trans (j2.mono (by omega))⟩
 have hm:es.length≤1048576:=by omega
 clear hy
 have ca:=(HA.out w2 j2).1
 have HE2:Hid (InNds w2 u xs):=(HA.out w2 j2).2.1
 go_wp2_with fail
 refine(toFilter_any u xs _ HE2.out hn).mono ?_
 rintro e w3 ⟨g3,rfl,hO3,hb3⟩
 have hs3:=hb3.size
 have j3:Below W0.heap.size W0 w3:=j2.trans (hb3.mono (by omega))
 have HO3:Hid (OwnNd w3 w2.heap.size g3 xs.length xs):=hO3
 have HV3:Hid (InCels w3 (.slice va vn vc) es):=(HA.out w3 j3).2.2.1
 clear hO3 ca
 go_wp2_with fail
 refine(toCellS_any _ es w3 HV3.out hm).mono ?_
 rintro e w4 ⟨g4,rfl,hO4,hb4⟩
 have hs4:=hb4.size
 have j4:Below W0.heap.size W0 w4:=j3.trans (hb4.mono (by omega))
 have HO4:Hid (OwnNd w4 w2.heap.size g3 xs.length xs∧OwnC w4 w3.heap.size g4 es.length es):=⟨HO3.below hb4 HO3.lt.2,hO4⟩
 clear hO4
 go_wp2_with fail
 refine(specMeaning_core HO4.1 HE.2 (by omega) HO4.2 HC.2.1 HC.2.2 hm).mono ?_
 rintro e w5 ⟨gs,cs,L,rfl,H5⟩
 have hs5:=H5.2.2.size
 have hgs:=H5.2.1.lt
 have hLl:L.length≤1048576:=Nat.le_trans (meaOf_len H5.1 HC.2.2 HC.2.1) hm
 have HS5:Hid (OwnC w5 w4.heap.size gs cs L):=H5.2.1
 have HMe:Hid (MeaOf xs es L):=H5.1
 have j5:Below W0.heap.size W0 w5:=j4.trans (H5.2.2.mono (by omega))
 clear H5
 have ca:=(HA.out w5 j5).1
 have HE5:Hid (InNds w5 u xs):=(HA.out w5 j5).2.1
 go_wp2_with fail
 refine(toFilter_any u xs _ HE5.out hn).mono ?_
 rintro e w6 ⟨gx,rfl,hO6,hb6⟩
 have hs6:=hb6.size
 have hgx:=hO6.lt
 have HX6:Hid (OwnNd w6 w5.heap.size gx xs.length xs):=hO6
 have HS6:Hid (OwnC w6 w4.heap.size gs cs L):=HS5.below hb6 hgs.2
 clear hO6 ca
 obtain⟨W7,hW7⟩:=qE (w6.alloc (Obj.cells #[.slice (some ⟨gx,0,none⟩) xs.length xs.length] 32):World)
 have hb7:Below w6.heap.size w6 W7:=by rw[hW7];exact qB
 have hs7:W7.heap.size=w6.heap.size+1:=by rw[hW7];simp
 have HC7:Hid (W7.cell? ⟨w6.heap.size,0,none⟩=some (.slice (some ⟨gx,0,none⟩) xs.length xs.length)):=by show W7.cell? _=_;rw[hW7];simp
 have HX7:Hid (OwnNd W7 w5.heap.size gx xs.length xs∧OwnC W7 w4.heap.size gs cs L):=⟨HX6.below hb7 HX6.lt.2,HS6.below hb7 (by omega)⟩
 have j7:Below W0.heap.size W0 W7:=(j5.trans (hb6.mono (by omega))).trans (hb7.mono (by have:=j5.size;omega))
 have HV7:Hid (InCels W7 (.slice va vn vc) es):=(HA.out W7 j7).2.2.1
 go_upto_region 10 with fail
 rw[←hW7]
 clear hW7
 go_wp2_with fail
 refine(toCellS_any _ es W7 HV7.out hm).mono ?_
 rintro e w8 ⟨gy,rfl,hO8,hb8⟩
 have hs8:=hb8.size
 have hgy:=hO8.lt
 have j8:Below W0.heap.size W0 w8:=j7.trans (hb8.mono j7.size)
 have HX8:Hid (OwnNd w8 w5.heap.size gx xs.length xs∧OwnC w8 w4.heap.size gs cs L∧OwnC w8 W7.heap.size gy es.length es∧TabD w8):=⟨HX7.1.below hb8 (by omega),HX7.2.below hb8 (by omega),hO8,(HA.out w8 j8).2.2.2⟩
 have cx:w8.cell? ⟨w6.heap.size,0,none⟩=some (.slice (some ⟨gx,0,none⟩) xs.length xs.length):=by rw[hb8.cell (p:=⟨w6.heap.size,0,none⟩) (by show w6.heap.size<W7.heap.size;omega)];exact HC7.out
 clear hO8
 go_wp2_with fail
 refine(implMeaning_core HX8.1 HE.2 HX8.2.2.1 HC.2.1 HC.2.2 hm HX8.2.2.2).mono ?_
 rintro e w9 ⟨gi,ci,L9,rfl,H9⟩
 obtain rfl:L9=L:=meaOf_one H9.1 HMe.out
 have hs9:=H9.2.2.size
 have hgi:=H9.2.1.lt
 have j9:Below W0.heap.size W0 w9:=j8.trans (H9.2.2.mono j8.size)
 have HX9:Hid (OwnNd w9 w5.heap.size gx xs.length xs∧OwnC w9 w4.heap.size gs cs L9∧OwnC w9 W7.heap.size gy es.length es∧OwnC w9 w8.heap.size gi ci L9):=⟨HX8.1.below H9.2.2 (by omega),HX8.2.1.below H9.2.2 (by omega),HX8.2.2.1.below H9.2.2 (by omega),H9.2.1⟩
 have HC9:Hid (w9.cell? ⟨w6.heap.size,0,none⟩=some (.slice (some ⟨gx,0,none⟩) xs.length xs.length)):=by show w9.cell? _=_;rw[H9.2.2.cell (p:=⟨w6.heap.size,0,none⟩) (by show w6.heap.size<w8.heap.size;omega)];exact cx
 clear cx H9
 go_wp2_with fail
 refine(eqCellS_own HX9.2.2.2 HX9.2.1).mono ?_
 rintro e w10 ⟨rfl,hb10⟩
 have hs10:=hb10.size
 have j10:Below W0.heap.size W0 w10:=j9.trans (hb10.mono j9.size)
 have HX10:Hid (OwnNd w10 w5.heap.size gx xs.length xs∧OwnC w10 w4.heap.size gs cs L9∧OwnC w10 W7.heap.size gy es.length es∧OwnC w10 w8.heap.size gi ci L9):=⟨HX9.1.below hb10 (by omega),HX9.2.1.below hb10 (by omega),HX9.2.2.1.below hb10 (by omega),HX9.2.2.2.below hb10 (by omega)⟩
 have HC10:Hid (w10.cell? ⟨w6.heap.size,0,none⟩=some (.slice (some ⟨gx,0,none⟩) xs.length xs.length)):=by show w10.cell? _=_;rw[hb10.cell (p:=⟨w6.heap.size,0,none⟩) (by show w6.heap.size<w9.heap.size;omega)];exact HC9.out
 obtain⟨cx10,ca10⟩:w10.cell? ⟨w6.heap.size,0,none⟩=some (.slice (some ⟨gx,0,none⟩) xs.length xs.length)∧w10.cell? ⟨w.heap.size,0,none⟩=some u:=⟨HC10.out,(HA.out w10 j10).1⟩
 have HE10:Hid (InNds w10 u xs):=(HA.out w10 j10).2.1
 go_upto_region 14 with fail
 go_cut[44] (fun s wx=>s=.bool false∧Below w10.heap.size w10 wx)
 case first=>
  have hz9:w6.heap.size<w10.heap.size:=by omega
  have hza:w.heap.size<w10.heap.size:=by omega
  have HXX:Hid (InNds w10 (.slice (some ⟨gx,0,none⟩) xs.length xs.length) xs):=InNds.own HX10.1 rfl
  go_region_with (first
   |(go_at_call 8;refine(toFilter_in w10 u xs _ ?hB HE10 hn).mono ?_;(case hB=>(repeat (first|assumption|exact Below.refl _ _|refine Below.drew ?_)));rintro e w' ⟨g3,rfl,HG,hbb,hcc⟩)
   |(go_at_call 12;refine(eqFilter_in w10 _ _ xs _ ?hB HXX ?hC).mono ?_;(case hB=>(repeat (first|assumption|exact Below.refl _ _|refine Below.drew ?_)));(case hC=>assumption);rintro e w' ⟨rfl,hbb2⟩))
  all_goals go_wp2_with fail
  all_goals go_meet
  all_goals exact⟨rfl,by assumption⟩
 case rest=>
 obtain⟨rfl,hb11⟩:=hcut
 obtain⟨w11,hw11⟩:=qE (wc:World)
 subst hw11
 have hs11:=hb11.size
 have j11:Below W0.heap.size W0 w11:=j10.trans (hb11.mono j10.size)
 have HX11:Hid (OwnNd w11 w5.heap.size gx xs.length xs∧OwnC w11 w4.heap.size gs cs L9∧OwnC w11 W7.heap.size gy es.length es∧OwnC w11 w8.heap.size gi ci L9):=⟨HX10.1.below hb11 (by omega),HX10.2.1.below hb11 (by omega),HX10.2.2.1.below hb11 (by omega),HX10.2.2.2.below hb11 (by omega)⟩
 have HC11:Hid (w11.cell? ⟨w6.heap.size,0,none⟩=some (.slice (some ⟨gx,0,none⟩) xs.length xs.length)):=by show w11.cell? _=_;rw[hb11.cell (p:=⟨w6.heap.size,0,none⟩) (by show w6.heap.size<w10.heap.size;omega)];exact HC10.out
 clear cx10 ca10
 have HV11:Hid (InCels w11 (.slice va vn vc) es):=(HA.out w11 j11).2.2.1
 go_wp2_with fail
 refine(toCellS_any _ es w11 HV11.out hm).mono ?_
 rintro e w12 ⟨gz,rfl,hO12,hb12⟩
 have hs12:=hb12.size
 have HZ12:Hid (OwnC w12 w11.heap.size gz es.length es∧OwnC w12 W7.heap.size gy es.length es):=⟨hO12,HX11.2.2.1.below hb12 (by omega)⟩
 clear hO12
 go_wp2_with fail
 refine(eqCellS_own HZ12.2 HZ12.1).mono ?_
 rintro e w13 ⟨rfl,hb13⟩
 have hs13:=hb13.size
 have k1113:Below w11.heap.size w11 w13:=hb12.trans (hb13.mono (by omega))
 have j13:Below W0.heap.size W0 w13:=j11.trans (k1113.mono j11.size)
 have HX13:Hid (OwnUN w13 w5.heap.size (.slice (some ⟨gx,0,none⟩) xs.length xs.length) xs∧OwnC w13 w4.heap.size gs cs L9∧OwnC w13 W7.heap.size gy es.length es∧OwnC w13 w8.heap.size gi ci L9):=⟨.inr ⟨gx,xs.length,rfl,HX11.1.below k1113 (by omega)⟩,HX11.2.1.below k1113 (by omega),HX11.2.2.1.below k1113 (by omega),HX11.2.2.2.below k1113 (by omega)⟩
 have cx:w13.cell? ⟨w6.heap.size,0,none⟩=some (.slice (some ⟨gx,0,none⟩) xs.length xs.length):=by rw[k1113.cell (p:=⟨w6.heap.size,0,none⟩) (by show w6.heap.size<w11.heap.size;omega)];exact HC11.out
 go_wp2_with fail
 refine(markFilter_own w5.heap.size _ xs 1 _ HX13.1 (by omega) (by omega) hn).mono ?_
 rintro e w14 ⟨E1,rfl,_,_,_,hg14⟩
 have hs14:=hg14.size
 have HX14:Hid (OwnC w14 w4.heap.size gs cs L9∧OwnC w14 W7.heap.size gy es.length es∧OwnC w14 w8.heap.size gi ci L9):=by
  have hne:∀k,¬k=gx→some k≠(Value.slice (some ⟨gx,0,none⟩) xs.length xs.length).ownBlock:=fun k hk q=>hk (by simpa [Value.ownBlock]using q)
  exact⟨HX13.2.1.kept hg14 (hne _ (by omega)),HX13.2.2.1.kept hg14 (hne _ (by omega)),HX13.2.2.2.kept hg14 (hne _ (by omega))⟩
 have j14:Below W0.heap.size W0 w14:=j13.grown hg14 j13.size (fun k hk=>by
  have h2:gx=k:=by simpa [Value.ownBlock]using hk
  have:=j5.size;omega)
 clear hg14 cx
 go_wp2_with fail
 refine(markCellS_core W7.heap.size gy es.length es (1+(xs.length:Int)*7) _ HX14.2.1 (by omega) (by omega) hm).mono ?_
 rintro e w15 ⟨fy,rfl,_,_,_,hg15⟩
 have hs15:=hg15.size
 have HX15:Hid (OwnC w15 w4.heap.size gs cs L9∧OwnC w15 w8.heap.size gi ci L9):=⟨HX14.1.kept hg15 (fun q=>by have:=Option.some.inj q;omega),HX14.2.2.kept hg15 (fun q=>by have:=Option.some.inj q;omega)⟩
 have j15:Below W0.heap.size W0 w15:=j14.grown hg15 j14.size (fun k hk=>by cases hk;have:=j7.size;omega)
 have hk1:¬(1+(xs.length:Int)*7+(es.length:Int)*5<0):=by omega
 clear hg15
 go_wp2_with fail
 refine(eqCellS_own HX15.2 HX15.1).mono ?_
 rintro e w16 ⟨rfl,hb16⟩
 have hs16:=hb16.size
 have j16:Below W0.heap.size W0 w16:=j15.trans (hb16.mono j15.size)
 have HX16:Hid (OwnC w16 w4.heap.size gs cs L9∧OwnC w16 w8.heap.size gi ci L9):=⟨HX15.1.below hb16 (by omega),HX15.2.below hb16 (by omega)⟩
 clear hk1
 go_wp2_with fail
 refine(markCellS_core w8.heap.size gi ci L9 1 _ HX16.2 (by omega) (by omega) hLl).mono ?_
 rintro e w17 ⟨fs,rfl,hU17,hl17,hm17,hg17⟩
 have hs17:=hg17.size
 have HF17:Hid (OwnC w17 w8.heap.size gi ci fs∧fs.length=L9.length∧markedC 1 fs fs.length):=⟨hU17,hl17,by rw[hl17];exact hm17⟩
 have HS17:Hid (OwnC w17 w4.heap.size gs cs L9):=HX16.1.kept hg17 (fun q=>by have:=Option.some.inj q;omega)
 have j17:Below W0.heap.size W0 w17:=j16.grown hg17 j16.size (fun j hj=>by cases hj;have:=j8.size;omega)
 have HRl:Hid (fs.length=L9.length):=hl17
 clear hU17 hm17 hg17 hl17
 go_wp2_with fail
 rw[←HRl.out]
 refine(heldCellS_core gi 0 ci fs 1 _ HF17.1.at HF17.2.2 HF17.1.lt.2 (by omega) (by omega) (by rw[HRl.out];exact hLl)).mono ?_
 rintro e w18 ⟨rfl,hb18⟩
 rw[HRl.out]
 have hs18:=hb18.size
 have j18:Below W0.heap.size W0 w18:=j17.trans (hb18.mono j17.size)
 have HS18:Hid (OwnC w18 w4.heap.size gs cs L9):=HS17.below hb18 (by omega)
 have hk2:(0:Int)≤1+(L9.length:Int)*5:=by omega
 have ca:=(HA.out w18 j18).1
 have HE18:Hid (InNds w18 u xs):=(HA.out w18 j18).2.1
 go_wp2_with fail
 refine(toFilter_any u xs _ HE18.out hn).mono ?_
 rintro e w19 ⟨ga,rfl,hO19,hb19⟩
 have hs19:=hb19.size
 have j19:Below W0.heap.size W0 w19:=j18.trans (hb19.mono j18.size)
 have HO19:Hid (OwnNd w19 w18.heap.size ga xs.length xs):=hO19
 have HV19:Hid (InCels w19 (.slice va vn vc) es):=(HA.out w19 j19).2.2.1
 clear hO19 ca hk2
 go_wp2_with fail
 refine(toCellS_any _ es w19 HV19.out hm).mono ?_
 rintro e w20 ⟨gb,rfl,hO20,hb20⟩
 have hs20:=hb20.size
 have j20:Below W0.heap.size W0 w20:=j19.trans (hb20.mono j19.size)
 have HO20:Hid (OwnNd w20 w18.heap.size ga xs.length xs∧OwnC w20 w19.heap.size gb es.length es∧TabD w20):=⟨HO19.below hb20 HO19.lt.2,hO20,(HA.out w20 j20).2.2.2⟩
 clear hO20
 go_wp2_with fail
 refine(implMeaning_core HO20.1 HE.2 HO20.2.1 HC.2.1 HC.2.2 hm HO20.2.2).mono ?_
 rintro e w21 ⟨gj,cj,L21,rfl,H21⟩
 obtain rfl:L21=L9:=meaOf_one H21.1 HMe.out
 have k1821:Below w18.heap.size w18 w21:=(hb19.trans (hb20.mono (by omega))).trans (H21.2.2.mono (by omega))
 have j21:Below W0.heap.size W0 w21:=j18.trans (k1821.mono j18.size)
 have HX21:Hid (OwnC w21 w20.heap.size gj cj L21∧OwnC w21 w4.heap.size gs cs L21):=⟨H21.2.1,HS18.below k1821 (by omega)⟩
 clear H21
 go_wp2_with fail
 refine(eqCellS_own HX21.1 HX21.2).mono ?_
 rintro e w22 ⟨rfl,hb22⟩
 have k22:Below w.heap.size w w22:=hb0.trans ((j21.trans (hb22.mono j21.size)).mono (by omega))
 go_wp2_with fail
 go_ret
 exact⟨rfl,k22⟩
set_option maxRecDepth 100000 in
theorem lifted (os:Os) (started:os.Started) (H:Type) (enc:TypeId×Value→H):
  ReturnsInHanded {} Tryz.checked os 3 .any (fun w args=>(Rows.fnExactMeaningSpec.pre enc Tryz.prog Tryz.f3 [] false w args∧laidMetH Tryz.prog Rows.fnExactMeaningRow.laid w)∧sizedMet enc Tryz.prog Tryz.f3 (OpenSpec.ofChange Rows.fnExactMeaningSpec) false w args)
   (Rows.fnExactMeaningSpec.post enc Tryz.prog Tryz.f3 false true false false):=by
 refine returnsInHanded_of_change_and (C:=Tryz.checked) (X:=fun w _=>laidMetH Tryz.prog Rows.fnExactMeaningRow.laid w) (fun _ _ _ hh h=>h.of_heap hh) own started (by kernel_rfl) Tryz.func3
  (ChangeSpec.witness_shaped (enc:=enc) (C:=Tryz.checked) (os:=os) (X:=fun w _=>laidMetH Tryz.prog Rows.fnExactMeaningRow.laid w) false (World.doorLaid Tryz.prog 400 os) #[.agg #[.slice none 0 0],.slice none 0 0] 8 rfl (World.shaped_of_RefB (by kernel_rfl) (by kernel_rfl)) (by kernel_rfl) (by kernel_rfl) (by kernel_rfl) (door_met os _)) ?_
 intro W base args ds gs before hval0 hW _ _ hL _
 have hval:∀(j:Nat) t v,Tryz.f3.params[j]?=some t→args[j]?=some v→Value.okWide Tryz.prog W .any base t v:=hval0
 have hW':=hW
 obtain⟨p,q,hA0,hV,rfl,hfz,hnd⟩:=hW
 have hA:DataW.TrodAll enc Tryz.prog W 0 (fun _=>true) true Tryz.f3.params.toList args.toList ds p:=hA0
 rw[Tryz.params3]at hA hval
 obtain⟨v0,vs0,d0,ds0,p0,q0,hargs,rfl,rfl,h0,r0⟩:=trodAll_cons hA
 obtain⟨v1,vs1,d1,ds1,p1,q1,rfl,rfl,rfl,h1,r1⟩:=trodAll_cons r0
 obtain⟨rfl,rfl,rfl⟩:=trodAll_nil r1
 obtain rfl:args=#[v0,v1]:=by cases args;simp_all
 obtain⟨rfl,rfl⟩:=trodVars_none hV
 have k0:=h0
 have kk1:=h1
 have lt0:∀x∈p0,x.block<W.heap.size:=by obtain⟨m,hm⟩:=k0;exact DataW.trod_lt m _ _ _ hm
 have lt1:∀x∈p1,x.block<W.heap.size:=by obtain⟨m,hm⟩:=kk1;exact DataW.trod_lt m _ _ _ hm
 obtain⟨u,xs,rfl,hin,ok0⟩:=open_filter (hval 0 24 v0 rfl rfl) h0
 obtain⟨es,hic,ok1⟩:∃es:List Ent,InCels W v1 es∧∀e∈es,e.ok:=by
  obtain⟨a0,len0,cap0,rfl⟩:=okWide_slice Tryz.underlying25 (hval 1 25 v1 rfl rfl)
  obtain⟨fuel,hf⟩:=h1
  exact cels_of_trod (by simpa [Value.cells]using hf)
 clear hA0 hval0
 have hG:=of_laid hL
 refine(walk u xs v1 _ W hin ok0 (in_put hic) (ok_put ok1) (kind_put es) hG).mono fun e W' ⟨he,bel⟩=>?_
 subst he
 exact⟨_,rfl,_,_,_,[],_,[],hW',trodAll_mk1 (shut_bool Tryz.underlying4 _),(trodAll_cons_mk (Below.trod laidOut (by kernel_rfl) (of_decide_eq_true (by kernel_rfl)) k0 bel lt0) (trodAll_cons_mk (Below.trod laidOut (by kernel_rfl) (of_decide_eq_true (by kernel_rfl)) kk1 bel lt1) trodAll_mk0)),rfl,bel.frame _,fun h=>by cases h⟩
theorem over:Rows.FnExactMeaningSaid:=
 OpenClaim.holds_of_wide 3 Tryz.f3 rfl rfl rfl rfl rfl rfl rfl ⟨rfl,rfl,rfl,rfl,rfl⟩ rfl rfl rfl rfl rfl (by kernel_rfl) Tryz.func3 (by kernel_rfl)
  (of_decide_eq_true (by kernel_rfl)) (by unfold Func.isWrapper;first|(rw[if_pos (by decide+kernel)];kernel_rfl)|(rw[if_neg (by decide+kernel)];exact⟨rfl,rfl⟩))
  (fun os started H enc _=>lifted os started H enc)
theorem card:Rows.FnExactMeaningCardSaid:=
 Claim7.holds_tied_plain_at .later [] [.data] true Rows.fnExactMeaningCard.stood.harness true
  over (fun _ h=>by cases h) (by kernel_rfl) (fun _ h=>by cases h) fnExactMeaning_row_tie rfl ⟨rfl,rfl⟩ (by kernel_rfl) rfl
  (fun f fn hf hfn=>by
   obtain rfl:f=3:=Option.some.inj ((show Tryz.prog.funcNamed "loop.example/s01854/laws.FnExactMeaning" =some 3 by kernel_rfl).symm.trans hf) |>.symm
   obtain rfl:fn=Tryz.f3:=(Option.some.inj (Tryz.func3.symm.trans hfn)).symm
   exact⟨by kernel_rfl,fun j t ht=>by
    rw[Tryz.params3]at ht
    rcases j with _|_|j
    ·obtain rfl:t=24:=by simpa using ht.symm
     exact(show Tryz.prog.wantsStandIn 24=false by kernel_rfl)
    ·obtain rfl:t=25:=by simpa using ht.symm
     exact(show Tryz.prog.wantsStandIn 25=false by kernel_rfl)
    ·simp at ht⟩)
  (by kernel_rfl)
end Go.Proofs.YtkidabedcgngcaaGreatDoor.exMeaning
namespace Go.Proofs.YtkidabedcgngcaaGreatDoor
theorem exactMeaning_holds:Rows.FnExactMeaningCardSaid:=exMeaning.card
#print axioms exactMeaning_holds
end Go.Proofs.YtkidabedcgngcaaGreatDoor
