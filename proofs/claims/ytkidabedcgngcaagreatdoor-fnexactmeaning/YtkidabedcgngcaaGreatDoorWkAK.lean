import Derived.Test.YtkidabedcgngcaaGreatDoorWkAA
import Derived.Test.YtkidabedcgngcaaGreatDoorWkAD
import Derived.Test.YtkidabedcgngcaaGreatDoorWkAJ
import Derived.Deep.DeepCutAuto
import Derived.Deep.RegionWith
import Derived.Test.YtkidabedcgngcaaGreatDoorWkAC
import Derived.Test.YtkidabedcgngcaaGreatDoorWkAG
namespace Go.Proofs.YtkidabedcgngcaaGreatDoor
open Go.ChangeShapes Go.WideShapes Go.ChangeAt Go.RowKit Go.Deep Go.Shelf
set_option linter.unusedVariables false
set_option linter.unusedSimpArgs false
set_option maxRecDepth 100000
attribute [local go_sem] Oper.semAt_some run_store_fn
theorem step_append_cels {ops:Array Oper} {oo:Oper} {a:Act} {K:Act→World→Prop} {Q:Exit→Act→World→Prop} {E:Prop} (w:World) (hgd:oo.guard=none) (s x:Operand)
  (ho:oo.op=.call {callee:=.builtin .append,args:=#[s,x],argTypes:=#[28,28]})
  (base g cp n b off m cx:Nat) (fs es:List Ent) (hs:a.eval s=.slice (some ⟨g,0,none⟩) n cp) (hx:a.eval x=.slice (some ⟨b,off,none⟩) m cx) (hn:n=fs.length) (hm:m=es.length) (hO:OwnC w base g cp fs)
  (hc:CelsAt w b off es) (hlen:fs.length+es.length≤2^30) (hbase:base≤w.heap.size)
  (h:∀g' cp' w',OwnC w' base g' cp' (fs++es)→w.grownBy w' (some g)→(g'=g∨g'=w.heap.size)→K (a.put oo.dst (.slice (some ⟨g',0,none⟩) (n+m) cp')) w'):if Region.wanted oo (yielded ops a.tmps)=true then Oper.wp Tryz.prog oo a w K Q else E:=by
 have hw:Region.wanted oo (yielded ops a.tmps)=true:=by simp[Region.wanted,hgd]
 rw[if_pos hw]
 subst hn
 subst hm
 obtain⟨i,hi,hz0,hz1,hz2⟩:=info_parts Tryz.infoCel
 obtain⟨v',w',hr,hO',hgr,hnil,hat⟩:=run_append_own_at (P:=Tryz.prog) w base 28 oo.type 55 i _ 5 72 Tryz.underlying28 hi hz0 hz1 hz2 rfl (by decide) (.slice (some ⟨g,0,none⟩) fs.length cp) fs.length (cellsC fs) hO ⟨b,off,none⟩ es.length cx (cellsC es) (length_cellsC es) (fun j u hu=>by rw[Addr.add_mid];exact hc.flat j u hu) (five_one es) (by unfold maxLen;omega) (by omega) hbase
 rw[←cellsC_append]at hO'
 have hlen':(fs++es).length=fs.length+es.length:=by simp
 rcases hO'.2 with⟨hv,_⟩|⟨g',cap',cur,hv,h1,h2,h3⟩
 ·have:=(hnil.1 hv).1
  simp at this
 ·subst hv
  have hfin:=h g' cap' w' (by unfold OwnC;rw[hlen'];exact hO') hgr (by simp[Value.ownBlock]at hat;exact hat)
  unfold Oper.wp
  simp[execOp,ho,resolve,invoke,builtin,hs,hx,hr,Result.andThen]
  exact hfin
structure MiI (w:World) (es:List Ent) (t:CT) (gc cc sb fk:Nat) (fc:Array Value) (R:Nat→Prop) (i:Nat) (W:World):Prop where
 told:∃(P:List (Nat×Nat)) (g cp:Nat),allC es 0=P++allC es i∧BoxAt W w.heap.size 28 1 (w.heap.size+1+1) [.slice (some ⟨g,0,none⟩) (P.flatMap fun q=>mean t (segE es q)).length cp]∧OwnC W w.heap.size g cp (P.flatMap fun q=>mean t (segE es q))∧(g=w.heap.size+1∨sb+1<g)
 stp:BoxAt W w.heap.size 58 1 sb [.func (Fn.func fk) #[] fc]
 step:StepAt W t R (.func (Fn.func fk) #[] fc)
 row:RwI (sb+1) gc 0 cc es W
 below:Below w.heap.size w W
structure MiS (w:World) (gc sb:Nat) (R:Nat→Prop):Prop where
 aR:∀k,R k→w.heap.size+1+1<k∧k<sb
 aS:w.heap.size+1+1<sb
 aG:gc<w.heap.size
 aV:1<w.heap.size
theorem RwI.chg {S:Nat→Prop} {p b off cap:Nat} {es:List Ent} {W W':World} (h:RwI p b off cap es W) (hc:Chg S W W') (h1:¬S p) (h2:¬S b):RwI p b off cap es W':=by
 refine⟨?_,h.sl.chg hc h2⟩
 rw[hc.cell (p:=⟨p,0,none⟩) (by
    have:=h.box
    unfold World.cell? at this
    by_cases q:p<W.heap.size
    ·exact q
    ·rw[Array.getElem?_eq_none (by show W.heap.size≤p;omega)]at this;simp at this) h1]
 exact h.box
theorem MiI.grow {w:World} {es:List Ent} {t:CT} {gc cc sb fk:Nat} {fc:Array Value} {R:Nat→Prop} {i:Nat} {W W':World} (h:MiI w es t gc cc sb fk fc R i W) (hs:MiS w gc sb R) {row:Option Nat} (hg:W.grownBy W' row) (hr:∀r,row=some r→sb+1<r∧∃o:Obj,W.heap[r]?=some o∧o.isCells=false):MiI w es t gc cc sb fk fc R i W':=by
 have hc:Chg (fun j=>row=some j) W W':=Chg.of_grown hg (fun j q=>q)
 have hl:∀j,row=some j→sb+1<j:=fun j q=>(hr j q).1
 have s1:=hs.aS
 have s6:=hs.aG
 have s7:=hs.aV
 obtain⟨P,g,cp,h1,h2,h3,h4⟩:=h.told
 have hng:¬row=some g:=fun q=>by
  obtain⟨_,o,ho,hoc⟩:=hr g q
  rcases h3.2 with⟨q,_⟩|⟨g',cap',cur,hv,_,hh,_⟩
  ·cases q
  ·simp at hv
   rw[←hv.1,ho]at hh
   cases hh
   simp[Obj.isCells]at hoc
 exact⟨⟨P,g,cp,h1,h2.chg hc (fun q=>by have:=hl _ q;omega),own_chg h3 hc (fun k q z=>by simp[Value.ownBlock]at q;subst q;exact hng z),h4⟩,h.stp.chg hc (fun q=>by have:=hl _ q;omega),h.step.chg hc (fun q=>by have:=hl _ q;omega) (fun k q z=>by have:=hl _ q;have:=(hs.aR k z).2;omega),h.row.chg hc (fun q=>by have:=hl _ q;omega) (fun q=>by have:=hl _ q;omega),Chg.below h.below hc h.below.size (fun k q=>by have:=hl _ q;omega)⟩
theorem end_same {es:List Ent} {i j:Nat} (h:IsEnd es i j):SameRow (segE es (i,j)):=by
 have hx:∀x∈segE es (i,j),(es[i]?.map fun x=>x.row.toList)=some x.row.toList:=fun x hx=>by
  obtain⟨k,hk⟩:=List.mem_iff_getElem?.1 hx
  unfold segE at hk
  rw[List.getElem?_drop,List.getElem?_take]at hk
  split at hk
  ·rename_i hlt
   have h9:=h.same (i+k) (by omega) hlt
   unfold sameR at h9
   simp only[hk]at h9
   have h10:=eq_of_beq h9
   rw[←h10];rfl
  ·cases hk
 intro x h1 y h2
 have q:=(hx x h1).symm.trans (hx y h2)
 have q2:x.row.toList=y.row.toList:=by simpa using q
 cases hxr:x.row with
 |mk a=>cases hyr:y.row with
  |mk b=>
   rw[hxr,hyr]at q2
   have:a.toList=b.toList:=by simpa [ByteArray.toList_eq]using q2
   rw[Array.toList_inj.1 this]
set_option maxHeartbeats 2000000 in
theorem rowsOf_core {w:World} {gc N cc:Nat}:Calls Tryz.prog 32 #[.slice (some ⟨gc,0,none⟩) N cc] w fun e w'=>e=.returned (.func (Fn.func 75) #[] #[ptrC w.heap.size])∧w'=w.alloc (Obj.cells #[.slice (some ⟨gc,0,none⟩) N cc] 28):=by
 go_enter Tryz.func32,Tryz.ntmps32
 go_wp2_with fail
 go_ret
 exact⟨rfl,rfl⟩
set_option maxHeartbeats 8000000 in
theorem implMeaning_core {w:World} {base g cp:Nat} {xs:List Nd} (h:OwnNd w base g cp xs) (hok:∀e∈xs,e.ok) {bc gc cc:Nat} {es:List Ent} (hC:OwnC w bc gc cc es) (hoe:∀e∈es,e.ok) (hk:∀e∈es,e.kind=0) (hl:es.length≤1048576) (hT:TabD w):
  Calls Tryz.prog 10 #[.agg #[.slice (some ⟨g,0,none⟩) xs.length cp],.slice (some ⟨gc,0,none⟩) es.length cc] w (MeaP xs es w):=by
 have HO:Hid (OwnNd w base g cp xs∧(∀e∈xs,e.ok)∧OwnC w bc gc cc es∧(∀e∈es,e.ok)∧(∀e∈es,e.kind=0)∧TabD w):=⟨h,hok,hC,hoe,hk,hT⟩
 obtain⟨n,hn⟩:=qE xs.length
 obtain⟨N,hN⟩:=qE es.length
 have HN:Hid (n=xs.length∧N=es.length):=⟨hn,hN⟩
 obtain⟨W0,hW0⟩:=qE (((w.alloc (Obj.cells #[.slice (some ⟨g,0,none⟩) n cp] 32)).alloc (Obj.cells #[] 55)).alloc (Obj.cells #[.slice (some ⟨w.heap.size+1,0,none⟩) 0 0] 28):World)
 have HB0:Hid (BoxAt W0 w.heap.size 32 1 w.heap.size [.slice (some ⟨g,0,none⟩) n cp]∧OwnC W0 w.heap.size (w.heap.size+1) 0 []∧BoxAt W0 w.heap.size 28 1 (w.heap.size+1+1) [.slice (some ⟨w.heap.size+1,0,none⟩) 0 0]∧Below w.heap.size w W0):=by
  have b1:=boxAt_new w (base:=w.heap.size) (t:=32) (sz:=1) #[.slice (some ⟨g,0,none⟩) n cp] (Nat.le_refl _) rfl
  obtain⟨X1,hX1⟩:∃X,X=w.alloc (Obj.cells #[.slice (some ⟨g,0,none⟩) n cp] 32):=⟨_,rfl⟩
  have z1:X1.heap.size=w.heap.size+1:=by rw[hX1];simp
  have k1:Below w.heap.size w X1:=by rw[hX1];exact qB
  rw[←hX1]at b1 hW0
  have b2:=(ownC_new X1).mono (base':=w.heap.size) (by omega)
  obtain⟨X2,hX2⟩:∃X,X=X1.alloc (Obj.cells #[] 55):=⟨_,rfl⟩
  have z2:X2.heap.size=w.heap.size+1+1:=by rw[hX2];simp[z1]
  have k2:Below X1.heap.size X1 X2:=by rw[hX2];exact qB
  rw[←hX2]at b2 hW0
  have b3:=boxAt_new X2 (base:=w.heap.size) (t:=28) (sz:=1) #[.slice (some ⟨w.heap.size+1,0,none⟩) 0 0] (by omega) rfl
  have k3:Below X2.heap.size X2 W0:=by rw[hW0];exact qB
  rw[←hW0,z2]at b3
  rw[z1]at b2
  exact⟨(b1.below k2).below k3,b2.below k3 b2.lt.2,b3,(k1.trans (k2.mono (by omega))).trans (k3.mono (by omega))⟩
 have HF:Hid (Calls Tryz.prog 28 #[.agg #[.slice (some ⟨g,0,none⟩) n cp]] W0 (FltPost xs W0)):=by
  rw[hn];exact implFilter_core (h.below HB0.2.2.2 h.lt.2) hok
 have HV:Hid (∀wx,Below w.heap.size w wx→Calls Tryz.prog 29 #[.slice (some ⟨gc,0,none⟩) N cc] wx (ValPost (GoodR es) wx)):=fun wx hx=>by
  have h9:=implCells_core gc cc es bc wx (hC.below hx hC.lt.2) hoe hl
  rw[put_self hk]at h9
  rw[hN];exact h9
 rw[←hn,←hN]
 rw[←hN]at hl
 clear h hok hC hoe hk hn hN hT
 have c0:=HB0.1.cell (j:=0) rfl
 refine(callsIn_wide (n:=9)).1 ?_
 refine callsIn_of_wp_marks Tryz.func10 rfl trivial ?_ rfl
 simp only[Tryz.ntmps10,List.size_toArray,List.length_cons,List.length_nil,Nat.reduceAdd,Nat.reduceSub,Array.replicate_succ,Array.replicate_zero,List.push_toArray,List.append_toArray,List.nil_append,List.cons_append]
 gi_wp2
 rw[←hW0]
 clear hW0 c0
 refine⟨trivial,(callsIn_wide.2 HF.out).mono ?_⟩
 rintro e w1 ⟨r,rfl,hr,hb1⟩
 have HR1:Hid ((r=true↔GoodF xs)∧BoxAt w1 w.heap.size 32 1 w.heap.size [.slice (some ⟨g,0,none⟩) n cp]∧OwnC w1 w.heap.size (w.heap.size+1) 0 []∧BoxAt w1 w.heap.size 28 1 (w.heap.size+1+1) [.slice (some ⟨w.heap.size+1,0,none⟩) 0 0]∧Below w.heap.size w w1):=⟨hr,HB0.1.below hb1,HB0.2.1.below hb1 HB0.2.1.lt.2,HB0.2.2.1.below hb1,HB0.2.2.2.trans (hb1.mono HB0.2.2.2.size)⟩
 clear hr hb1 HF HB0
 cases r
 case false=>
  have c5:=HR1.2.2.2.1.cell (j:=0) rfl
  have HE:Hid (MeaOf xs es []∧OwnC w1 w.heap.size (w.heap.size+1) 0 []∧Below w.heap.size w w1):=⟨.inl ⟨fun q=>Bool.noConfusion (HR1.1.2 q.1),rfl⟩,HR1.2.2.1,HR1.2.2.2.2⟩
  gi_wp2
  refine⟨trivial,?_⟩
  gi_wp2
  exact⟨_,results_tmp rfl _ _ _,w.heap.size+1,0,[],rfl,HE.out⟩
 case true=>
 have hgf:GoodF xs:=by have h9:=HR1.1;simpa using h9
 have HV1:Hid (Calls Tryz.prog 29 #[.slice (some ⟨gc,0,none⟩) N cc] w1 (ValPost (GoodR es) w1)):=HV.out w1 HR1.2.2.2.2
 have HGF:Hid (GoodF xs):=hgf
 clear hgf
 gi_wp2
 refine⟨trivial,(callsIn_wide.2 HV1.out).mono ?_⟩
 rintro e w2 ⟨r2,rfl,hr2,hb2⟩
 have HR2:Hid ((r2=true↔GoodR es)∧BoxAt w2 w.heap.size 32 1 w.heap.size [.slice (some ⟨g,0,none⟩) n cp]∧OwnC w2 w.heap.size (w.heap.size+1) 0 []∧BoxAt w2 w.heap.size 28 1 (w.heap.size+1+1) [.slice (some ⟨w.heap.size+1,0,none⟩) 0 0]∧Below w.heap.size w w2):=⟨hr2,HR1.2.1.below hb2,HR1.2.2.1.below hb2 HR1.2.2.1.lt.2,HR1.2.2.2.1.below hb2,HR1.2.2.2.2.trans (hb2.mono HR1.2.2.2.2.size)⟩
 clear hr2 hb2 HV1 HR1
 cases r2
 case false=>
  have c5:=HR2.2.2.2.1.cell (j:=0) rfl
  have HE:Hid (MeaOf xs es []∧OwnC w2 w.heap.size (w.heap.size+1) 0 []∧Below w.heap.size w w2):=⟨.inl ⟨fun q=>Bool.noConfusion (HR2.1.2 q.2),rfl⟩,HR2.2.2.1,HR2.2.2.2.2⟩
  gi_wp2
  exact⟨_,results_tmp rfl _ _ _,w.heap.size+1,0,[],rfl,HE.out⟩
 case true=>
 have hgr:GoodR es:=by have h9:=HR2.1;simpa using h9
 obtain⟨t,ht⟩:=goodF_tree HGF.out
 have HT:Hid (MeaOf xs es (meanAll t es)∧GoodR es∧Sub es es):=⟨.inr ⟨⟨HGF.out,hgr⟩,t,ht,rfl⟩,hgr,sub_good hgr HO.2.2.2.2.1 HO.2.2.2.1⟩
 have hN10:N≤10000:=by rw[HN.2];exact hgr.1.1
 have HFo:Hid (Calls Tryz.prog 30 #[.slice (some ⟨g,0,none⟩) n cp,.func (Fn.func 31) #[] #[]] w2 (FsPost t w2)):=by
  rw[HN.1]
  have hNd:=HO.1.below HR2.2.2.2.2 HO.1.lt.2
  exact foldStep_core hNd.at hNd.lt.2 ht HGF.1 (goodF_all HGF.out) (HO.2.2.2.2.2.chg (S:=fun _=>False) (Chg.of_below HR2.2.2.2.2) (fun q=>q))
 have c0:=HR2.2.1.cell (j:=0) rfl
 clear hgr ht
 gi_wp2
 refine⟨trivial,(callsIn_wide.2 HFo.out).mono ?_⟩
 rintro e w3 ⟨⟨fk,fc⟩,rfl,H3⟩
 clear HFo c0
 obtain⟨R,hSt,hRb,hb3⟩:=H3.out
 clear H3
 obtain⟨W4,hW4⟩:=qE (w3.alloc (Obj.cells #[.func (Fn.func fk) #[] fc] 58):World)
 have hb4:Below w3.heap.size w3 W4:=by rw[hW4];exact qB
 have hz4:W4.heap.size=w3.heap.size+1:=by rw[hW4];simp
 have hz3:=hb3.size
 have hb5:Below W4.heap.size W4 (W4.alloc (Obj.cells #[.slice (some ⟨gc,0,none⟩) N cc] 28)):=qB
 obtain⟨sb,hsb⟩:=qE w3.heap.size
 obtain⟨W5,hW5⟩:=qE (W4.alloc (Obj.cells #[.slice (some ⟨gc,0,none⟩) N cc] 28):World)
 rw[←hW5]at hb5
 have hz5:W5.heap.size=sb+1+1:=by rw[hW5,hsb];simp[hz4]
 have HM:Hid (MiI w es t gc cc sb fk fc R 0 W5∧MiS w gc sb R∧CallOk fk):=by
  have k24:Below w2.heap.size w2 W4:=hb3.trans (hb4.mono hz3)
  have k25:Below w2.heap.size w2 W5:=k24.trans (hb5.mono (by omega))
  have s2:=HR2.2.2.2.2.size
  have b2:=HR2.2.2.2.1.lt.2
  have hbb:Below w.heap.size w W5:=HR2.2.2.2.2.trans (k25.mono s2)
  refine⟨⟨⟨[],w.heap.size+1,0,rfl,HR2.2.2.2.1.below k25,HR2.2.2.1.below k25 HR2.2.2.1.lt.2,.inl rfl⟩,?_,(hSt.below hb4).below hb5,⟨?_,(HO.2.2.1.sl).below hbb⟩,hbb⟩,⟨fun k z=>by have:=hRb k z;omega,by omega,HO.2.2.1.lt.2,HO.2.2.2.2.2.lt⟩,hSt.callOk⟩
  ·have h9:=boxAt_new w3 (base:=w.heap.size) (t:=58) (sz:=1) #[.func (Fn.func fk) #[] fc] (by omega) rfl
   rw[←hW4,←hsb]at h9
   exact h9.below hb5
  ·have h9:=boxAt_new W4 (base:=w.heap.size) (t:=28) (sz:=1) #[.slice (some ⟨gc,0,none⟩) N cc] (by omega) rfl
   rw[←hW5,hz4,←hsb]at h9
   rw[←HN.2]
   exact h9.cell (j:=0) rfl
 have HW5:Hid (W5.heap.size=sb+1+1):=hz5
 have hp4:W4.heap.size=sb+1:=by omega
 clear hSt hRb hb3 hb4 hb5 hz4 hz3 hz5 HR2
 gi_wp2
 rw[←hW4,←hsb]
 refine⟨trivial,(callsIn_wide.2 (rowsOf_core (w:=W4) (gc:=gc) (N:=N) (cc:=cc))).mono ?_⟩
 rintro e w5 ⟨rfl,rfl⟩
 rw[←hW5,hp4]
 clear hW5 hW4 hp4 hsb
 gi_wp2
 refine wp_range_rows (by decide) es (sb+1) gc 0 cc (by rw[←HN.2];exact hN10) rfl rfl (fun i W=>MiI w es t gc cc sb fk fc R i W) ?hI ?hIt HM.1 (fun i j=>{tmps:=#[.agg #[.slice (some ⟨g,0,none⟩) n cp],.slice (some ⟨gc,0,none⟩) N cc,.pointer (some ⟨w.heap.size,0,none⟩),undef,.slice none 0 0,.pointer (some ⟨w.heap.size+1+1,0,none⟩),.pointer (some ⟨sb,0,none⟩),.bool true,segV gc 0 cc (i,j),.slice (some ⟨w.heap.size+1,0,none⟩) 0 0,.agg #[.slice (some ⟨g,0,none⟩) n cp],.bool true,.bool false,.bool false,.slice (some ⟨gc,0,none⟩) N cc,.bool true,.bool false,.bool false,undef,.tuple #[fvC (fk,fc),.bool true],.pointer (some ⟨w.heap.size,0,none⟩),.slice (some ⟨g,0,none⟩) n cp,.tuple #[fvC (fk,fc),.bool true],fvC (fk,fc),.bool true,.slice (some ⟨gc,0,none⟩) N cc,.func (Fn.func 75) #[] #[ptrC (sb+1)],segV gc 0 cc (i,j),undef,undef,undef,undef,undef,undef],defers:= []}) ?assign ?body ?done
 case hI=>
  rintro k A B row hA hg hr
  exact hA.grow HM.2.1 hg (fun r q=>by have:=hr r q;have hz:=HW5.out;exact⟨by omega,this.2⟩)
 case hIt=>exact fun k W hA=>hA.row
 case assign=>
  intro l i j W K hK
  gi_wp2
  exact hK
 case body=>
  intro l i j W hA hE
  obtain⟨P,gt,ct,hP,hB,hO,hgt⟩:=hA.told
  have hel:es.length≤10000:=by rw[←HN.2];exact hN10
  have hmt:(P.flatMap fun q=>mean t (segE es q)).length≤100000000:=by
   refine Nat.le_trans (flat_len HT.2.2 hel _) ?_
   have h8:(allC es 0).length≤es.length:=cutsF_len es _ 0
   rw[hP,List.length_append]at h8
   omega
  have hseg:=segE_sub HT.2.2 (i,j)
  have hsl:(segE es (i,j)).length=j-i:=segE_len hE.le
  have hml:(mean t (segE es (i,j))).length≤10000:=by
   have h8:=(mean_sub t hseg).len hseg.ord
   rw[hsl]at h8
   have:=hE.le
   omega
  have hd:Below W.heap.size W W.drew:=(Below.refl _ _).drew
  have sS:=HM.2.1
  have sbl:=hA.stp.lt.2
  have HCall:Hid (Calls Tryz.prog fk (#[.slice (some ⟨gc,i*5,none⟩) (j-i) (cc-i)]++fc) W.drew (StpP t R (.func (Fn.func fk) #[] fc) gc (segE es (i,j)) W.drew)):=by
   have h9:=step_all t W.drew R fk fc gc (0+i*5) (cc-i) (segE es (i,j)) (hA.step.below hd) (fun k z=>by have:=(sS.aR k z).2;show k<W.drew.heap.size;have:W.drew.heap.size=W.heap.size:=rfl;omega) (fun z=>by have:=(sS.aR _ z).1;have:=sS.aV;omega) ⟨(hA.row.sl.below hd).seg (Nat.le_of_lt hE.lt) hE.le,fun z=>by have:=(sS.aR _ z).1;have:=sS.aG;omega,hseg,end_same hE,by rw[hsl];have:=hE.le;omega⟩
   rw[hsl,Nat.zero_add]at h9
   exact h9
  obtain⟨m,hm⟩:=qE ((P.flatMap fun q=>mean t (segE es q)).length)
  rw[←hm]at hB hmt
  have HA:Hid (MiI w es t gc cc sb fk fc R i W∧IsEnd es i j∧allC es 0=P++allC es i∧BoxAt W w.heap.size 28 1 (w.heap.size+1+1) [.slice (some ⟨gt,0,none⟩) m ct]∧OwnC W w.heap.size gt ct (P.flatMap fun q=>mean t (segE es q))∧(gt=w.heap.size+1∨sb+1<gt)∧m=(P.flatMap fun q=>mean t (segE es q)).length):=⟨hA,hE,hP,hB,hO,hgt,hm⟩
  have hS0:(fun w':World=>w'.cell? ⟨w.heap.size+1+1,0,none⟩=some (.slice (some ⟨gt,0,none⟩) m ct)∧w'.cell? ⟨sb,0,none⟩=some (.func (Fn.func fk) #[] fc)) W.drew:=⟨hB.cell (j:=0) rfl,hA.stp.cell (j:=0) rfl⟩
  have HMl:Hid ((mean t (segE es (i,j))).length≤10000):=hml
  have hka:∀(args:Array Value) (w:World),(callFunc fk args).run Tryz.prog w=.ok (.enter fk args) w:=HM.2.2
  have hsg:segV gc 0 cc (i,j)=.slice (some ⟨gc,i*5,none⟩) (j-i) (cc-i):=by unfold segV;simp only[Nat.zero_add]
  rw[hsg]
  clear hA hE hP hB hO hgt hm hel hseg hsl hml hd sS sbl hsg
  gi_wp2
  refine wpIn_region_T 5 (fun w':World=>w'.cell? ⟨w.heap.size+1+1,0,none⟩=some (.slice (some ⟨gt,0,none⟩) m ct)∧w'.cell? ⟨sb,0,none⟩=some (.func (Fn.func fk) #[] fc)) (by kernel_rfl) (by kernel_rfl) ?hlet ?_
  case hlet=>rintro⟨a0,w0,hq⟩;exact nomatch (show Exit.outgrown=Exit.normal from hq.1)
  refine qU 0 ?vih0 rfl ?yih0 hS0 ?_
  case yih0=>exact zzR24
  try simp only[qA,List.getElem_toArray,List.getElem_cons_zero,List.getElem_cons_succ]
  refine qU 1 ?vih1 rfl ?yih1 hS0 ?_
  case yih1=>exact zzR24
  try simp only[qA,List.getElem_toArray,List.getElem_cons_zero,List.getElem_cons_succ]
  refine qU 2 ?vih2 rfl ?yih2 hS0 ?_
  case yih2=>exact zzR24
  try simp only[qA,List.getElem_toArray,List.getElem_cons_zero,List.getElem_cons_succ]
  refine qO 3 rfl fun K hK=>?_
  go_simp
  refine HCall.mono ?_
  rintro e v5 ⟨b5,o5,c5,rfl,H5⟩
  have HV:Hid (BoxAt v5 w.heap.size 28 1 (w.heap.size+1+1) [.slice (some ⟨gt,0,none⟩) m ct]∧OwnC v5 w.heap.size gt ct (P.flatMap fun q=>mean t (segE es q))∧BoxAt v5 w.heap.size 58 1 sb [.func (Fn.func fk) #[] fc]∧RwI (sb+1) gc 0 cc es v5∧Below w.heap.size w v5∧Chg R W v5):=by
   have hc5:Chg R W v5:=(Chg.of_below ((Below.refl W.heap.size W).drew)).trans H5.2.2.2
   have sS:=HM.2.1
   have hA:=HA.out
   have s1:=sS.aS
   have s2:=sS.aG
   have s3:=hA.2.2.2.2.2.1
   refine⟨hA.2.2.2.1.chg hc5 (fun z=>by have:=sS.aR _ z;omega),own_chg hA.2.2.2.2.1 hc5 (fun k q z=>by simp[Value.ownBlock]at q;have:=sS.aR _ z;omega),hA.1.stp.chg hc5 (fun z=>by have:=sS.aR _ z;omega),hA.1.row.chg hc5 (fun z=>by have:=sS.aR _ z;omega) (fun z=>by have:=sS.aR _ z;omega),Chg.below hA.1.below hc5 hA.1.below.size (fun k z=>by have:=sS.aR _ z;omega),hc5⟩
  have hS5:(fun w':World=>w'.cell? ⟨w.heap.size+1+1,0,none⟩=some (.slice (some ⟨gt,0,none⟩) m ct)∧w'.cell? ⟨sb,0,none⟩=some (.func (Fn.func fk) #[] fc)) v5:=⟨HV.1.cell (j:=0) rfl,HV.2.2.1.cell (j:=0) rfl⟩
  refine hK.out _ _ (.inr hS5) ?_
  clear hK HCall hS0 hka
  try simp only[qA,List.getElem_toArray,List.getElem_cons_zero,List.getElem_cons_succ]
  refine qO 4 rfl fun K hK=>?_
  refine step_append_cels v5 rfl _ _ rfl w.heap.size gt ct m b5 o5 _ c5 (P.flatMap fun q=>mean t (segE es q)) (mean t (segE es (i,j))) rfl rfl HA.2.2.2.2.2.2 rfl HV.2.1 H5.1.at_ (by have:=HA.2.2.2.2.2.2;have:=HMl.out;omega) HV.2.2.2.2.1.size (fun g6 c6 v6 hO6 hg6 ha6=>?_)
  have HV6:Hid (BoxAt v6 w.heap.size 28 1 (w.heap.size+1+1) [.slice (some ⟨gt,0,none⟩) m ct]∧OwnC v6 w.heap.size g6 c6 ((P.flatMap fun q=>mean t (segE es q))++mean t (segE es (i,j)))∧BoxAt v6 w.heap.size 58 1 sb [.func (Fn.func fk) #[] fc]∧RwI (sb+1) gc 0 cc es v6∧Below w.heap.size w v6∧Chg (fun k=>R k∨k=gt) W v6∧StepAt v6 t R (.func (Fn.func fk) #[] fc)∧(g6=w.heap.size+1∨sb+1<g6)):=by
   have hc6:Chg (fun k=>k=gt) v5 v6:=Chg.of_grown hg6 (fun k q=>by cases q;rfl)
   have sS:=HM.2.1
   have s1:=sS.aS
   have s2:=sS.aG
   have s4:=sS.aV
   have s3:=HA.2.2.2.2.2.1
   have s5:=HV.2.1.lt.1
   have s6:=HV.2.2.2.1.sl.lt
   have s7:sb+1<v5.heap.size:=by
    have hz:=HV.2.2.2.1.box
    unfold World.cell? at hz
    by_cases q:sb+1<v5.heap.size
    ·exact q
    ·rw[Array.getElem?_eq_none (by show v5.heap.size≤sb+1;omega)]at hz;simp at hz
   refine⟨HV.1.chg hc6 (by omega),hO6,HV.2.2.1.chg hc6 (by omega),HV.2.2.2.1.chg hc6 (by omega) (by omega),Chg.below HV.2.2.2.2.1 hc6 HV.2.2.2.2.1.size (fun k z=>by omega),⟨hc6.os.trans HV.2.2.2.2.2.os,hc6.tape.trans HV.2.2.2.2.2.tape,hc6.output.trans HV.2.2.2.2.2.output,Nat.le_trans HV.2.2.2.2.2.size hc6.size,fun k hk hn=>(hc6.block k (Nat.lt_of_lt_of_le hk HV.2.2.2.2.2.size) (fun z=>hn (.inr z))).trans (HV.2.2.2.2.2.block k hk (fun z=>hn (.inl z)))⟩,H5.2.2.1.chg hc6 (by omega) (fun k z y=>by have:=sS.aR _ y;omega),?_⟩
   rcases ha6 with z|z
   ·rw[z];exact s3
   ·right;omega
  have hS6:(fun w':World=>w'.cell? ⟨w.heap.size+1+1,0,none⟩=some (.slice (some ⟨gt,0,none⟩) m ct)∧w'.cell? ⟨sb,0,none⟩=some (.func (Fn.func fk) #[] fc)) v6:=⟨HV6.1.cell (j:=0) rfl,HV6.2.2.1.cell (j:=0) rfl⟩
  obtain⟨m6,hm6⟩:=qE (m+(mean t (segE es (i,j))).length)
  have HM6:Hid (m6=((P++ [(i,j)]).flatMap fun q=>mean t (segE es q)).length):=by
   show _=_
   rw[List.flatMap_append,List.length_append,hm6,HA.2.2.2.2.2.2]
   simp
  rw[←hm6]
  refine hK.out _ _ (.inr hS6) ?_
  clear hK hS5 HV hO6 hg6 ha6 hm6
  have o6:=HV6.1.frozen 0
  have y6:=HV6.1.cell (j:=0) rfl
  try simp only[qA,List.getElem_toArray,List.getElem_cons_zero,List.getElem_cons_succ]
  refine qO 5 rfl fun K hK=>?_
  go_simp
  refine hK.out _ _ (.inl rfl) ?_
  clear hK
  try simp only[qA,List.getElem_toArray,List.getElem_cons_zero,List.getElem_cons_succ]
  refine qD ?_
  have hc7:Chg (fun k=>k=w.heap.size+1+1) v6 (v6.setCell ⟨w.heap.size+1+1,0,none⟩ (.slice (some ⟨g6,0,none⟩) m6 c6)):=Chg.of_set v6 _ 0 _ rfl
  have h6:=HV6.out
  have sS:=HM.2.1
  have s1:=sS.aS
  have s2:=sS.aG
  have s4:=sS.aV
  have hz:=HW5.out
  have h7:=h6.1.set 0 (.slice (some ⟨g6,0,none⟩) m6 c6)
  refine⟨rfl,⟨Nat.le_trans h6.2.2.2.2.2.1.size hc7.size,fun k o hk ho hoc=>(hc7.block k (Nat.lt_of_lt_of_le (Array.getElem?_eq_some_iff.1 ho).1 h6.2.2.2.2.2.1.size) (by omega)).trans ((h6.2.2.2.2.2.1.block k (Array.getElem?_eq_some_iff.1 ho).1 (fun z=>?_)).trans ho)⟩,?_⟩
  ·rcases z with z|z
   ·have:=sS.aR k z;omega
   ·subst z
    rcases HA.2.2.2.2.1.2 with⟨q,_⟩|⟨g',cap',cur,hv,_,hh,_⟩
    ·cases q
    ·simp at hv
     rw[←hv.1,ho]at hh
     cases hh
     simp[Obj.isCells]at hoc
  ·refine⟨⟨P++ [(i,j)],g6,c6,?_,?_,?_,h6.2.2.2.2.2.2.2⟩,h6.2.2.1.chg hc7 (by omega),h6.2.2.2.2.2.2.1.chg hc7 (by omega) (fun k z y=>by have:=sS.aR k y;omega),h6.2.2.2.1.chg hc7 (by omega) (by omega),Chg.below h6.2.2.2.2.1 hc7 h6.2.2.2.2.1.size (fun k z=>by omega)⟩
   ·rw[HA.2.2.1,allC_step HA.2.1];simp
   ·rw[←HM6.out];exact h7
   ·have h8:=own_chg h6.2.1 hc7 (fun k q z=>by simp[Value.ownBlock]at q;have:=h6.2.2.2.2.2.2.2;omega)
    rw[List.flatMap_append]
    simpa [OwnC]using h8
 case done=>
  rintro Dd W hD hA hKD
  obtain⟨P,gt,ct,hP,hB,hO,hgt⟩:=hA.told
  rw[allC_done (Nat.le_refl _),List.append_nil]at hP
  have HE:Hid (MeaOf xs es (meanAll t es)∧OwnC (W.putObj Dd (.deferred none)) w.heap.size gt ct (meanAll t es)∧Below w.heap.size w (W.putObj Dd (.deferred none))):=by
   have hc8:Chg (fun k=>k=Dd) W (W.putObj Dd (.deferred none)):=Chg.of_grown (grownBy_putObj' W Dd _) (fun j q=>by cases q;rfl)
   have hz:=HW5.out
   have s1:=HM.2.1.aS
   refine⟨HT.1,?_,Chg.below hA.below hc8 hA.below.size (fun k z=>by omega)⟩
   unfold meanAll
   rw[hP]
   refine own_chg hO hc8 (fun k q z=>?_)
   simp[Value.ownBlock]at q
   subst q
   subst z
   rcases hO.2 with⟨q,_⟩|⟨g',cap',cur,hv,_,hh,_⟩
   ·cases q
   ·simp at hv
    rw[←hv.1,hKD]at hh
    cases hh
  have hme:(P.flatMap fun q=>mean t (segE es q))=meanAll t es:=by unfold meanAll;rw[hP]
  rw[hme]at hB
  have c9:=hB.cell (j:=0) rfl
  obtain⟨m,hm⟩:=qE ((meanAll t es).length)
  have HMm:Hid (m=(meanAll t es).length):=hm
  rw[←hm]at c9
  clear hA hP hB hO hgt hme hm
  gi_wp2
  refine⟨by simp,.inl ⟨_,_,rfl,run_takeDeferred hKD,?_⟩⟩
  exact⟨_,results_tmp rfl _ _ _,gt,ct,meanAll t es,by rw[←HMm.out];rfl,HE⟩
end Go.Proofs.YtkidabedcgngcaaGreatDoor
namespace Go.Proofs.YtkidabedcgngcaaGreatDoor
open Go.ChangeShapes Go.WideShapes Go.ChangeAt Go.RowKit Go.Deep
set_option linter.unusedVariables false
theorem markText_in (W0:World) (a:Int) (w:World) (hb:Below W0.heap.size W0 w) (h0:0<a) (h1:a≤2^40):
  Calls Tryz.prog 36 #[.int .i64 a] w fun e w'=>e=.returned (.string (mText a.toNat))∧Below W0.heap.size W0 w':=by
 refine(markText_any a w h0 h1).mono ?_
 rintro e w' ⟨he,hb'⟩
 exact⟨he,hb.trans (hb'.mono hb.size)⟩
end Go.Proofs.YtkidabedcgngcaaGreatDoor
namespace Go.Proofs.YtkidabedcgngcaaGreatDoor
open Go.ChangeShapes Go.WideShapes Go.ChangeAt Go.RowKit Go.Deep
set_option linter.unusedVariables false
set_option linter.unusedSimpArgs false
set_option maxRecDepth 100000
def thirdB (k:Int):Bool:=k%3==0
def mNd (k:Int):Nd:=⟨k,mText (k+1).toNat,thirdB (k+1+1),mText (k+1+1+1).toNat,k+1+1+1+1,k+1+1+1+1+1,k+1+1+1+1+1+1⟩
def markedN (k:Int) (es:List Nd) (i:Nat):Prop:=∀j:Nat,j<i→es[j]?=some (mNd (k+j*7))
theorem OwnNd.upd {w:World} {base g cap m j:Nat} {fs:List Nd} {f f':Nd} {u:Value} (h:OwnNd w base g cap (fs.set m f)) (hm:m<fs.length) (hj:j<7) (hc:f'.seven=f.seven.set j u):
  OwnNd (w.setCell ⟨g,m*7+j,none⟩ u) base g cap (fs.set m f'):=by
 have:=h.set m j f f' u (by simp[hm]) hj hc
 rwa [List.set_set]at this
theorem markedN_set {k:Int} {fs:List Nd} {m:Nat} (h:markedN k fs m) (hm:m<fs.length):markedN k (fs.set m (mNd (k+m*7))) (m+1):=by
 intro j hj
 by_cases e:j=m
 ·subst e;simp[hm]
 ·rw[List.getElem?_set_ne (by omega)];exact h j (by omega)
set_option maxHeartbeats 2000000 in
theorem markNodeS_core (base g cap:Nat) (es:List Nd) (k:Int) (w:World) (hO:OwnNd w base g cap es) (h0:0<k) (h1:k≤2^30) (hn:es.length≤1048576):
  Calls Tryz.prog 35 #[.slice (some ⟨g,0,none⟩) es.length cap,.int .i64 k] w fun e w'=>
   ∃fs,e=.returned (.int .i64 (k+es.length*7))∧OwnNd w' base g cap fs∧fs.length=es.length∧markedN k fs es.length∧w.grownBy w' (some g):=by
 have HO:Hid (OwnNd w base g cap es):=hO
 clear hO
 go_enter Tryz.func35,Tryz.ntmps35
 go_wp2
 go_loopw[1,5] (fun c i wr=>∃(m:Nat) (a:Int) (fs:List Nd),m≤es.length∧i=.int .i64 m∧c=.int .i64 a∧a=k+m*7∧OwnNd wr base g cap fs∧fs.length=es.length∧markedN k fs m∧w.grownBy wr (some g)) (fun _ i _=>es.length-(intOf i).toNat)
 case atStart=>exact⟨0,k,es,Nat.zero_le _,rfl,rfl,by simp,HO.out,rfl,fun j hj=>by omega,grown_of_below (Below.refl _ _) _⟩
 case round=>
  obtain⟨m,a,fs,hm,rfl,rfl,ha,hO,hfl,hmk,hgr⟩:=hrel
  have HR:Hid (a=k+m*7∧OwnNd wr base g cap fs∧fs.length=es.length∧markedN k fs m):=⟨ha,hO,hfl,hmk⟩
  have ha0:0<a:=by omega
  have ha1:a≤2^31:=by omega
  have HG:Hid (w.grownBy wr (some g)):=hgr
  clear hO hfl hmk ha hgr
  by_cases hlt:m<es.length
  ·obtain⟨f,hf⟩:∃f,fs[m]?=some f:=⟨_,List.getElem?_eq_getElem (by rw[HR.2.2.1];exact hlt)⟩
   have HF:Hid (fs[m]?=some f∧m<fs.length):=⟨hf,by rw[HR.2.2.1];exact hlt⟩
   clear hf
   have c0:=(HR.2.1.at m f HF.1).1
   simp only[Nat.zero_add]at c0
   have z0:=fun j=>World.ownsRow.frozenAt HR.2.1 j
   have H0:Hid (OwnNd (wr.setCell ⟨g,m*7,none⟩ (.int .i64 a)) base g cap (fs.set m {f with kind:=a})∧w.grownBy (wr.setCell ⟨g,m*7,none⟩ (.int .i64 a)) (some g)):=
    ⟨HR.2.1.set m 0 f {f with kind:=a} (.int .i64 a) HF.1 (by omega) rfl,HG.trans (grown_set _ _ _ _)⟩
   go_wp2_with fail
   refine(markText_any (a+1) _ (by omega) (by omega)).mono ?_
   rintro e w1 ⟨rfl,hb1⟩
   have hO1:=H0.1.below hb1 H0.1.lt.2
   obtain⟨_,c1,c2,_⟩:=hO1.at m _ (by simp[HF.2];rfl)
   simp only[Nat.zero_add]at c1 c2
   have z1:=fun j=>World.ownsRow.frozenAt hO1 j
   have hO2:=(hO1.upd (j:=1) (u:=.string (mText (a+1).toNat)) (f':={f with kind:=a,s:=mText (a+1).toNat}) HF.2 (by omega) rfl).upd (j:=2) (u:=.bool ((a+1+1)%3==0)) (f':={f with kind:=a,s:=mText (a+1).toNat,hi:=((a+1+1)%3==0)}) HF.2 (by omega) rfl
   have H1:Hid (OwnNd ((w1.setCell ⟨g,m*7+1,none⟩ (.string (mText (a+1).toNat))).setCell ⟨g,m*7+2,none⟩ (.bool ((a+1+1)%3==0))) base g cap (fs.set m {f with kind:=a,s:=mText (a+1).toNat,hi:=((a+1+1)%3==0)})∧w.grownBy ((w1.setCell ⟨g,m*7+1,none⟩ (.string (mText (a+1).toNat))).setCell ⟨g,m*7+2,none⟩ (.bool ((a+1+1)%3==0))) (some g)):=
    ⟨hO2,((H0.2.trans (grown_of_below hb1 _)).trans (grown_set _ _ _ _)).trans (grown_set _ _ _ _)⟩
   clear hO1 hO2 hb1 c0 z0
   go_wp2_with fail
   refine(markText_any (a+1+1+1) _ (by omega) (by omega)).mono ?_
   rintro e w2 ⟨rfl,hb2⟩
   have hO3:=H1.1.below hb2 H1.1.lt.2
   obtain⟨_,_,_,c3,c4,c5,c6⟩:=hO3.at m _ (by simp[HF.2];rfl)
   simp only[Nat.zero_add]at c3 c4 c5 c6
   have z3:=fun j=>World.ownsRow.frozenAt hO3 j
   have hO4:=(((hO3.upd (j:=3) (u:=.string (mText (a+1+1+1).toNat)) (f':={f with kind:=a,s:=mText (a+1).toNat,hi:=((a+1+1)%3==0),t:=mText (a+1+1+1).toNat}) HF.2 (by omega) rfl).upd (j:=4) (u:=.int .u64 (a+1+1+1+1))
    (f':={f with kind:=a,s:=mText (a+1).toNat,hi:=((a+1+1)%3==0),t:=mText (a+1+1+1).toNat,lo:=a+1+1+1+1}) HF.2 (by omega) rfl).upd (j:=5) (u:=.int .u64 (a+1+1+1+1+1))
    (f':={f with kind:=a,s:=mText (a+1).toNat,hi:=((a+1+1)%3==0),t:=mText (a+1+1+1).toNat,lo:=a+1+1+1+1,up:=a+1+1+1+1+1}) HF.2 (by omega) rfl).upd (j:=6) (u:=.int .i64 (a+1+1+1+1+1+1)) (f':=mNd a) HF.2 (by omega) rfl
   have hG4:=((((H1.2.trans (grown_of_below hb2 _)).trans (grown_set w2 g (m*7+3) (.string (mText (a+1+1+1).toNat)))).trans (grown_set _ g (m*7+4) (.int .u64 (a+1+1+1+1)))).trans (grown_set _ g (m*7+5) (.int .u64 (a+1+1+1+1+1)))).trans (grown_set _ g (m*7+6) (.int .i64 (a+1+1+1+1+1+1)))
   have H4:Hid (_∧_):=⟨hO4,hG4⟩
   have HE:Hid (a=k+m*7):=HR.1
   clear hO3 hO4 hG4 hb2 c1 c2 z1
   go_wp2_with fail
   refine⟨⟨m+1,a+1+1+1+1+1+1+1,fs.set m (mNd a),by omega,by go_num,rfl,?_,H4.1,by rw[List.length_set];exact HR.2.2.1,?_,H4.2⟩,?_⟩
   ·go_light
    have:=HE.out
    omega
   ·go_light
    have:=markedN_set HR.2.2.2 HF.2
    rw[←HE.out]at this
    exact this
   ·go_light
    simp[intOf];omega
  ·exact zzQ79
def OwnUN (w:World) (base:Nat) (u:Value) (R:List Nd):Prop:=(u=.slice none 0 0∧R= [])∨∃g cp,u=.slice (some ⟨g,0,none⟩) R.length cp∧OwnNd w base g cp R
theorem OwnUN.row {w:World} {base:Nat} {u:Value} {R:List Nd} (h:OwnUN w base u R):∀g,u.ownBlock=some g→base≤g∧g<w.heap.size:=by
 intro g hg
 rcases h with⟨rfl,_⟩|⟨g',cp,rfl,hO⟩
 ·cases hg
 ·have:g'=g:=Option.some.inj hg
  subst this
  exact hO.lt
theorem OwnUN.keptNe {w w':World} {base:Nat} {u:Value} {R:List Nd} {row:Option Nat} (h:OwnUN w base u R) (hg:w.grownBy w' row) (hne:∀g,u.ownBlock=some g→row≠some g):OwnUN w' base u R:=by
 rcases h with h|⟨g,cp,rfl,hO⟩
 ·exact .inl h
 ·exact .inr ⟨g,cp,rfl,World.ownsRow.kept hO hg (.inr (fun q=>hne g rfl q.symm))⟩
theorem OwnUN.below {w w':World} {base:Nat} {u:Value} {R:List Nd} (h:OwnUN w base u R) (hb:Below w.heap.size w w'):OwnUN w' base u R:=h.keptNe (grown_of_below hb none) (fun g q z=>by cases z)
theorem OwnUN.ownCells {w:World} {base:Nat} {u:Value} {R:List Nd} (h:OwnUN w base u R):u.cells=#[u]:=by
 rcases h with⟨rfl,_⟩|⟨g,cp,rfl,_⟩<;>rfl
set_option maxHeartbeats 400000 in
theorem markNodeS_zero (a:Option Addr) (cap:Nat) (k:Int) (w:World):
  Calls Tryz.prog 35 #[.slice a 0 cap,.int .i64 k] w fun e w'=>e=.returned (.int .i64 k)∧Below w.heap.size w w':=by
 go_enter Tryz.func35,Tryz.ntmps35
 go_wp2
 go_loopw[1,5] (fun c i wr=>c=.int .i64 k∧i=.int .i64 0∧wr=w) (fun _ i _=>0)
 case atStart=>exact⟨rfl,rfl,rfl⟩
 case round=>
  obtain⟨rfl,rfl,rfl⟩:=hrel
  go_wp2_with fail
  go_ret
  exact⟨rfl,Below.refl _ _⟩
theorem markNodeS_own (base:Nat) (u:Value) (R:List Nd) (k:Int) (w:World) (h:OwnUN w base u R) (h0:0<k) (h1:k≤2^30) (hn:R.length≤1048576):
  Calls Tryz.prog 35 #[u,.int .i64 k] w fun e w'=>
   ∃R',e=.returned (.int .i64 (k+R.length*7))∧OwnUN w' base u R'∧R'.length=R.length∧markedN k R' R'.length∧w.grownBy w' u.ownBlock:=by
 rcases h with⟨rfl,rfl⟩|⟨g,cp,rfl,hO⟩
 ·refine(markNodeS_zero none 0 k w).mono ?_
  rintro e w' ⟨rfl,hb⟩
  exact⟨[],by simp,.inl ⟨rfl,rfl⟩,rfl,fun j hj=>by simp at hj,grown_of_below hb _⟩
 ·refine(markNodeS_core base g cp R k w hO h0 h1 hn).mono ?_
  rintro e w' ⟨fs,rfl,hO',hl,hm,hg⟩
  exact⟨fs,rfl,.inr ⟨g,cp,by rw[hl],hO'⟩,hl,by rw[hl];exact hm,hg⟩
set_option maxHeartbeats 400000 in
theorem markFilter_own (base:Nat) (u:Value) (R:List Nd) (k:Int) (w:World) (h:OwnUN w base u R) (h0:0<k) (h1:k≤2^30) (hn:R.length≤1048576):
  Calls Tryz.prog 13 #[.agg #[u],.int .i64 k] w fun e w'=>
   ∃R',e=.returned (.int .i64 (k+R.length*7))∧OwnUN w' base u R'∧R'.length=R.length∧markedN k R' R'.length∧w.grownBy w' u.ownBlock:=by
 have hu:=h.ownCells
 have hb0:Below w.heap.size w (w.alloc (Obj.cells #[u] 32)):=qB
 have HU:Hid (OwnUN (w.alloc (Obj.cells #[u] 32)) base u R):=h.below hb0
 clear h
 go_enter Tryz.func13,Tryz.ntmps13
 go_wp2_with fail
 refine(markNodeS_own base u R k _ HU.out h0 h1 hn).mono ?_
 rintro e w1 ⟨R',rfl,hU',hl,hm,hb1⟩
 have HF:Hid (OwnUN w1 base u R'∧R'.length=R.length∧markedN k R' R'.length):=⟨hU',hl,hm⟩
 clear hU' hl hm
 go_wp2_with fail
 go_ret
 exact⟨R',rfl,HF.1,HF.2.1,HF.2.2,(grown_of_below hb0 _).trans hb1⟩
set_option maxHeartbeats 400000 in
theorem szCell_core (r f q v:ByteArray) (t left:Int) (w:World) (hr:r.size≤maxLen) (hf:f.size≤maxLen) (hq:q.size≤maxLen) (hv:v.size≤maxLen) (h0:0≤left) (h1:left≤2^40):
  Calls Tryz.prog 23 #[.agg #[.string r,.string f,.string q,.int .u64 t,.string v],.int .i64 left] w fun e w'=>
   ∃x,e=.returned (.int .i64 x)∧(x= -1∨(0≤x∧x+r.size+f.size+q.size+v.size=left))∧Below w.heap.size w w':=by
 unfold maxLen at hr hf hq hv
 go_enter Tryz.func23,Tryz.ntmps23
 go_wp2
 ·go_ret
  exact⟨_,rfl,.inl rfl,qB⟩
 ·go_ret
  exact⟨_,rfl,.inl rfl,qB⟩
 ·go_ret
  exact⟨_,rfl,.inl rfl,qB⟩
 ·go_ret
  exact⟨_,rfl,.inl rfl,qB⟩
 ·go_ret
  exact⟨_,rfl,.inr ⟨by assumption,by omega⟩,qB⟩
set_option maxHeartbeats 400000 in
theorem toCell_core (r f q v:ByteArray) (t:Int) (w:World):
  Calls Tryz.prog 27 #[.agg #[.string r,.string f,.string q,.int .u64 t,.string v]] w fun e w'=>
   e=.returned (.agg #[.string r,.string f,.string q,.int .u64 t,.string v])∧Below w.heap.size w w':=by
 go_enter Tryz.func27,Tryz.ntmps27
 go_wp2
 refine bodyPost_ret (v:=.agg #[.string r,.string f,.string q,.int .u64 t,.string v]) (by simp[results,Tryz.results27,go_sem]) rfl ⟨rfl,?_⟩
 exact((qB).alloc (by simp) _).alloc (by simp;omega) _
theorem Tryz.cellsCel:Tryz.prog.cellsOf 51=5:=by kernel_rfl
theorem list5 {α:Type} {cs:List α} (h:cs.length=5):∃c0 c1 c2 c3 c4,cs= [c0,c1,c2,c3,c4]:=by
 match cs,h with
 | [c0,c1,c2,c3,c4],_=>exact⟨c0,c1,c2,c3,c4,rfl⟩
theorem cel_of_trod {H:Type} {enc:TypeId×Value→H} {w:World} {base:Nat} {spare:Nat→Bool} {held:Bool} {fuel:Nat} {cs:List Value} {x:DataW H×List MemPlace}
  (h:DataW.trod enc Tryz.prog w base spare held fuel 51 cs=some x):
  ∃e:Ent,e.ok∧cs= [.string e.row,.string e.fam,.string e.qual,.int .u64 e.ts,.string e.val]:=by
 obtain⟨xs,n,_,_,hl,hlen,hf⟩:=DataW.trod_struct Tryz.underlying51 h
 rw[Tryz.cellsCel]at hl
 obtain⟨c0,c1,c2,c3,c5,rfl⟩:=list5 hl
 obtain⟨x0,x1,x2,x3,x5,rfl⟩:=list5 (cs:=xs) hlen
 have h0:=hf 0 _ rfl
 have h1:=hf 1 _ rfl
 have h2:=hf 2 _ rfl
 have h3:=hf 3 _ rfl
 have h5:=hf 4 _ rfl
 simp[Tryz.cellsStr,Tryz.cellsU64]at h0 h1 h2 h3 h5
 obtain⟨a0,e0,_,b0⟩:=DataW.trod_string Tryz.underlying9 h0
 obtain⟨a1,e1,_,b1⟩:=DataW.trod_string Tryz.underlying9 h1
 obtain⟨a2,e2,_,b2⟩:=DataW.trod_string Tryz.underlying9 h2
 obtain⟨a3,e3,_,b3⟩:=DataW.trod_int Tryz.underlying49 h3
 obtain⟨a5,e5,_,b5⟩:=DataW.trod_string Tryz.underlying9 h5
 simp only[List.cons.injEq,and_true]at e0 e1 e2 e3 e5
 exact⟨⟨a0,a1,a2,a3,0,a5⟩,⟨b0,b1,b2,b5,b3,(show(Lit.int .i64 0).wf=true by decide)⟩,by rw[e0,e1,e2,e3,e5]⟩
def InCels (w:World) (v:Value) (es:List Ent):Prop:=
 (∃a cap,v=.slice a 0 cap∧es= [])∨
 ∃b off cap,v=.slice (some ⟨b,off,none⟩) es.length cap∧CelsAt w b off es∧b<w.heap.size∧es.length≤cap∧cap≤maxLen
theorem InCels.below {B:Nat} {w w':World} {v:Value} {es:List Ent} (h:InCels w v es) (hb:Below B w w') (hB:w.heap.size≤B):InCels w' v es:=by
 exact zzQ77
theorem cels_of_trod {H:Type} {enc:TypeId×Value→H} {w:World} {base:Nat} {held:Bool} {fuel:Nat} {v:Value} {x:DataW H×List MemPlace}
  (h:DataW.trod enc Tryz.prog w base (fun _=>true) held fuel 25 [v]=some x):∃es:List Ent,InCels w v es∧∀e∈es,e.ok:=by
 rcases open_slice Tryz.underlying25 h with⟨hcs,_⟩|⟨a,len,cap,m,n,D,Pl,hcs,hba,hl,hm,hmm,_,hel⟩
 ·simp only[List.cons.injEq,and_true]at hcs
  exact⟨[],.inl ⟨none,0,hcs,rfl⟩,by simp⟩
 ·simp only[List.cons.injEq,and_true]at hcs
  subst hcs
  rw[if_pos rfl]at hmm
  subst hmm
  have hel6:∀i,i<m→∃cs',w.cells? base (a.add (i*5)) 5=some cs'∧DataW.trod enc Tryz.prog w base (fun _=>true) held n 51 cs'=some (D i,Pl i):=fun i hi=>by
   have:=hel i hi
   rw[Tryz.cellsCel]at this
   exact this
  clear hel
  have HM:Hid (m≤maxLen):=hm
  clear hm
  by_cases h0:len=0
  ·subst h0;exact⟨[],.inl ⟨_,_,rfl,rfl⟩,by simp⟩
  ·obtain⟨b,off,spot⟩:=a
   have hspot:spot=none:=by
    obtain⟨cs',hc,_⟩:=hel6 0 (by omega)
    obtain⟨_,hlen,hget⟩:=World.cells?_some hc
    have h1:=hget 0 (by omega)
    have h2:(w.cell? ((Addr.add ⟨b,off,spot⟩ (0*5)).add 0)).isSome=true:=by rw[h1];simp;omega
    obtain⟨u,hu⟩:=Option.isSome_iff_exists.1 h2
    simpa [Addr.add]using World.cell?_spot hu
   subst hspot
   obtain⟨es,hes,hp⟩:=list_of_forall (P:=fun i (e:Ent)=>e.ok∧(w.cell? ⟨b,off+i*5,none⟩=some (.string e.row)∧w.cell? ⟨b,off+i*5+1,none⟩=some (.string e.fam)∧w.cell? ⟨b,off+i*5+2,none⟩=some (.string e.qual)∧
     w.cell? ⟨b,off+i*5+3,none⟩=some (.int .u64 e.ts)∧w.cell? ⟨b,off+i*5+4,none⟩=some (.string e.val))) len (fun i hi=>by
    obtain⟨cs',hc,ht⟩:=hel6 i (by omega)
    obtain⟨e,ok,rfl⟩:=cel_of_trod ht
    obtain⟨_,hlen,hget⟩:=World.cells?_some hc
    refine⟨e,ok,?_,?_,?_,?_,?_⟩
    ·simpa [Addr.add_mid]using hget 0 (by omega)
    ·simpa [Addr.add_mid]using hget 1 (by omega)
    ·simpa [Addr.add_mid]using hget 2 (by omega)
    ·simpa [Addr.add_mid]using hget 3 (by omega)
    ·simpa [Addr.add_mid]using hget 4 (by omega))
   exact zzQ47
set_option maxHeartbeats 400000 in
theorem szCellS_core (b off cap:Nat) (es:List Ent) (left:Int) (w:World) (hE:CelsAt w b off es) (hok:∀e∈es,e.ok) (hB:b<w.heap.size) (hlen:es.length≤cap) (hcap:cap≤maxLen) (h0:0≤left) (h1:left≤2^40):
  Calls Tryz.prog 6 #[.slice (some ⟨b,off,none⟩) es.length cap,.int .i64 left] w fun e w'=>
   ∃x,e=.returned (.int .i64 x)∧(x= -1∨(0≤x∧x+es.length≤left))∧Below w.heap.size w w':=by
 have HE:Hid (CelsAt w b off es):=hE
 have HO:Hid (∀e∈es,e.ok):=hok
 clear hE hok
 unfold maxLen at hcap
 by_cases hle:left<es.length
 ·have hle':left-es.length<0:=by omega
  go_enter Tryz.func6,Tryz.ntmps6
  go_wp2
  go_ret
  exact⟨_,rfl,.inl rfl,Below.refl _ _⟩
 have hle':0≤left-es.length:=by omega
 go_enter Tryz.func6,Tryz.ntmps6
 go_wp2
 go_loopw[1,5] (fun l i wr=>∃(k:Nat) (x:Int),k≤es.length∧i=.int .i64 k∧l=.int .i64 x∧0≤x∧x+es.length≤left∧Below w.heap.size w wr) (fun _ i _=>es.length-(intOf i).toNat)
 case atStart=>exact⟨0,_,Nat.zero_le _,rfl,rfl,hle',by omega,Below.refl _ _⟩
 case round=>
  obtain⟨k,x,hk,rfl,rfl,hx0,hx1,hb⟩:=hrel
  by_cases hlt:k<es.length
  ·obtain⟨e,he⟩:∃e,es[k]?=some e:=⟨_,List.getElem?_eq_getElem hlt⟩
   obtain⟨c0,c1,c2,c3,c5⟩:=(HE.below hb hB) k e he
   have ok:=HO.out e (List.mem_of_getElem? he)
   have HK:Hid e.ok:=ok
   clear ok he
   go_wp2_with fail
   refine(szCell_core e.row e.fam e.qual e.val e.ts _ _ HK.row HK.fam HK.qual HK.val (by omega) (by omega)).mono ?_
   rintro e w1 ⟨y,rfl,hy,hb1⟩
   have hsz:=hb.size
   have hb2:=hb.trans (hb1.mono hsz)
   clear c0 c1 c2 c3 c5 hb1
   exact zzQ52
  ·go_wp2
   go_ret
   exact⟨_,rfl,.inr ⟨hx0,hx1⟩,hb⟩
set_option maxHeartbeats 400000 in
theorem szCellS_zero (a:Option Addr) (cap:Nat) (left:Int) (w:World) (h0:0≤left) (h1:left≤2^40):
  Calls Tryz.prog 6 #[.slice a 0 cap,.int .i64 left] w fun e w'=>e=.returned (.int .i64 left)∧Below w.heap.size w w':=by
 go_enter Tryz.func6,Tryz.ntmps6
 exact zzQ54
theorem szCellS_any (v:Value) (es:List Ent) (left:Int) (w:World) (h:InCels w v es) (hok:∀e∈es,e.ok) (h0:0≤left) (h1:left≤2^40):
  Calls Tryz.prog 6 #[v,.int .i64 left] w fun e w'=>
   ∃x,e=.returned (.int .i64 x)∧(x= -1∨(0≤x∧x+es.length≤left))∧Below w.heap.size w w':=by
 rcases h with⟨a,cap,rfl,rfl⟩|⟨b,off,cap,rfl,hE,hlt,g1,g2⟩
 ·exact(szCellS_zero a cap left w h0 h1).mono fun e w' ⟨he,hb⟩=>⟨left,he,.inr ⟨h0,by simp⟩,hb⟩
 ·exact szCellS_core b off cap es left w hE hok hlt g1 g2 h0 h1
theorem made_zeroC (n:Nat):(madeCells #[.string ⟨#[]⟩,.string ⟨#[]⟩,.string ⟨#[]⟩,.int .u64 0,.string ⟨#[]⟩] (n*5)).toList=cellsC (List.replicate n zeroE):=by
 apply List.ext_getElem?
 intro j
 by_cases hj:j<n*5
 ·have h:=cellsC_get (List.replicate n zeroE) (j/5) zeroE (by rw[List.getElem?_replicate,if_pos (by omega)]) (j%5) (Nat.mod_lt _ (by omega))
  rw[show j/5*5+j%5=j by omega]at h
  rw[h]
  have h6:j%5<5:=Nat.mod_lt _ (by omega)
  simp[madeCells,hj]
  generalize j%5=m at*
  match m,h6 with
  |0,_=>rfl
  |1,_=>rfl
  |2,_=>rfl
  |3,_=>rfl
  |4,_=>rfl
 ·have h1:(cellsC (List.replicate n zeroE)).length≤j:=by rw[length_cellsC,List.length_replicate];omega
  rw[List.getElem?_eq_none h1]
  simp[madeCells,hj]
theorem OwnC.put {w:World} {base g cap:Nat} {es:List Ent} (h:OwnC w base g cap es) (k:Nat) (f e:Ent) (hk:es[k]?=some f):
  OwnC (((((w.setCell ⟨g,k*5,none⟩ (.string e.row)).setCell ⟨g,k*5+1,none⟩ (.string e.fam)).setCell ⟨g,k*5+2,none⟩ (.string e.qual)).setCell ⟨g,k*5+3,none⟩ (.int .u64 e.ts)).setCell ⟨g,k*5+4,none⟩ (.string e.val)) base g cap (es.set k e):=by
 have hlt:k<es.length:=(List.getElem?_eq_some_iff.1 hk).1
 have g1:=h.set k 0 f {f with row:=e.row} (.string e.row) hk (by omega) rfl
 have g2:=g1.set k 1 {f with row:=e.row} {f with row:=e.row,fam:=e.fam} (.string e.fam) (by simp[hlt]) (by omega) rfl
 have g3:=g2.set k 2 {f with row:=e.row,fam:=e.fam} {f with row:=e.row,fam:=e.fam,qual:=e.qual} (.string e.qual) (by simp[hlt]) (by omega) rfl
 have g4:=g3.set k 3 {f with row:=e.row,fam:=e.fam,qual:=e.qual} {f with row:=e.row,fam:=e.fam,qual:=e.qual,ts:=e.ts} (.int .u64 e.ts) (by simp[hlt]) (by omega) rfl
 have g5:=g4.set k 4 {f with row:=e.row,fam:=e.fam,qual:=e.qual,ts:=e.ts} e (.string e.val) (by simp[hlt]) (by omega) rfl
 simpa only[List.set_set,Nat.add_zero]using g5
theorem below_put5 {B:Nat} {a w:World} (h:Below B a w) {g:Nat} (hg:B≤g) (o0 o1 o2 o3 o4:Nat) (v0 v1 v2 v3 v4:Value):
  Below B a (((((w.setCell ⟨g,o0,none⟩ v0).setCell ⟨g,o1,none⟩ v1).setCell ⟨g,o2,none⟩ v2).setCell ⟨g,o3,none⟩ v3).setCell ⟨g,o4,none⟩ v4):=
 ((((h.setCell hg _).setCell hg _).setCell hg _).setCell hg _).setCell hg _
set_option maxHeartbeats 400000 in
theorem toCellS_core (b off cap:Nat) (es:List Ent) (w:World) (hE:CelsAt w b off es) (hB:b<w.heap.size) (hlen:es.length≤cap) (hcap:cap≤maxLen) (h1:es.length≤1048576):
  Calls Tryz.prog 9 #[.slice (some ⟨b,off,none⟩) es.length cap] w fun e w'=>
   ∃g,e=.returned (.slice (some ⟨g,0,none⟩) es.length es.length)∧OwnC w' w.heap.size g es.length es∧Below w.heap.size w w':=by
 have HE:Hid (CelsAt w b off es):=hE
 clear hE
 unfold maxLen at hcap
 obtain⟨i,hi,hz0,hz1,hz2⟩:=info_parts Tryz.infoCel
 have HI:Hid (Tryz.prog.info? 55=some i∧i.zero=some (.agg #[.string ⟨#[]⟩,.string ⟨#[]⟩,.string ⟨#[]⟩,.int .u64 0,.string ⟨#[]⟩])∧i.size=5∧i.bytes=72):=⟨hi,hz0,hz1,hz2⟩
 clear hi hz0 hz1 hz2
 go_enter Tryz.func9,Tryz.ntmps9
 go_wp2_with (at_make;refine wpList_make_full _ rfl _ _ 28 rfl w.heap.size 55 i _ 5 Tryz.underlying28 HI.1 HI.2.1 HI.2.2.1 _ _ _ _ es.length rfl rfl ?_ ?_ ?hb ?hm ?hs ?_)
 case hb=>rw[HI.2.2.2];omega
 case hm=>unfold maxLen;omega
 case hs=>exact Nat.le_refl _
 ·rfl
 ·rfl
 intro w1 hown hgrow
 rw[made_zeroC]at hown
 have hown1:OwnC w1 w.heap.size w.heap.size es.length (List.replicate es.length zeroE):=by
  unfold OwnC;rw[List.length_replicate];exact hown
 have HW:Hid (OwnC w1 w.heap.size w.heap.size es.length (List.replicate es.length zeroE)):=hown1
 have hb1:Below w.heap.size w w1:=(Below.refl _ _).grown hgrow (Nat.le_refl _) (fun k hk=>by cases hk)
 clear hown hown1 hgrow
 go_wp2_with fail
 go_loopw[4] (fun i wr=>∃(k:Nat) (fs:List Ent),k≤es.length∧i=.int .i64 k∧fs.length=es.length∧fs.take k=es.take k∧OwnC wr w.heap.size w.heap.size es.length fs∧Below w.heap.size w wr) (fun i _=>es.length-(intOf i).toNat)
 case atStart=>exact⟨0,_,Nat.zero_le _,rfl,List.length_replicate ..,rfl,HW.out,hb1⟩
 case round=>
  obtain⟨k,fs,hk,rfl,hfl,hft,hO,hb⟩:=hrel
  have HO:Hid (fs.length=es.length∧fs.take k=es.take k∧OwnC wr w.heap.size w.heap.size es.length fs):=⟨hfl,hft,hO⟩
  clear hfl hft hO
  by_cases hlt:k<es.length
  ·obtain⟨e,he⟩:∃e,es[k]?=some e:=⟨_,List.getElem?_eq_getElem hlt⟩
   obtain⟨c0,c1,c2,c3,c5⟩:=(HE.below hb hB) k e he
   have HG:Hid (es[k]?=some e):=he
   clear he
   go_wp2_with fail
   refine(toCell_core e.row e.fam e.qual e.val e.ts _).mono ?_
   rintro e' w2 ⟨rfl,hb2⟩
   have hO2:=(HO.2.2).below hb2 (HO.2.2).lt.2
   obtain⟨f,hf⟩:∃f,fs[k]?=some f:=⟨_,List.getElem?_eq_getElem (by rw[HO.1];exact hlt)⟩
   obtain⟨d0,d1,d2,d3,d5⟩:=hO2.at k f hf
   simp only[Nat.zero_add]at d0 d1 d2 d3 d5
   have hfz:=fun j=>World.ownsRow.frozenAt hO2 j
   have HO2:Hid (OwnC w2 w.heap.size w.heap.size es.length fs∧fs[k]?=some f):=⟨hO2,hf⟩
   clear hO2 hf c0 c1 c2 c3 c5
   go_wp2_with fail
   go_roundw
   case rel=>exact⟨k+1,fs.set k e,by omega,by go_num,by rw[List.length_set];exact HO.1,take_set_succ HO.2.1 HO.1 HG.out,HO2.1.put k f e HO2.2,below_put5 (hb.trans (hb2.mono hb.size)) (Nat.le_refl _) _ _ _ _ _ _ _ _ _ _⟩
   case measure=>simp[intOf];omega
  ·exact zzQ59
set_option maxHeartbeats 400000 in
theorem toCellS_zero (a:Option Addr) (cap:Nat) (w:World):
  Calls Tryz.prog 9 #[.slice a 0 cap] w fun e w'=>
   ∃g,e=.returned (.slice (some ⟨g,0,none⟩) 0 0)∧OwnC w' w.heap.size g 0 []∧Below w.heap.size w w':=by
 obtain⟨i,hi,hz0,hz1,hz2⟩:=info_parts Tryz.infoCel
 have HI:Hid (Tryz.prog.info? 55=some i∧i.zero=some (.agg #[.string ⟨#[]⟩,.string ⟨#[]⟩,.string ⟨#[]⟩,.int .u64 0,.string ⟨#[]⟩])∧i.size=5∧i.bytes=72):=⟨hi,hz0,hz1,hz2⟩
 clear hi hz0 hz1 hz2
 go_enter Tryz.func9,Tryz.ntmps9
 go_wp2_with (at_make;refine wpList_make_full _ rfl _ _ 28 rfl w.heap.size 55 i _ 5 Tryz.underlying28 HI.1 HI.2.1 HI.2.2.1 _ _ _ _ 0 rfl rfl ?_ ?_ ?hb ?hm ?hs ?_)
 case hb=>rw[HI.2.2.2];omega
 case hm=>unfold maxLen;omega
 case hs=>exact Nat.le_refl _
 ·rfl
 ·rfl
 intro w1 hown hgrow
 have HW:Hid (OwnC w1 w.heap.size w.heap.size 0 []):=by
  have h0:=made_zeroC 0
  rw[Nat.zero_mul]at h0
  rw[h0]at hown
  exact hown
 exact zzQ45
theorem toCellS_any (v:Value) (es:List Ent) (w:World) (h:InCels w v es) (h1:es.length≤1048576):
  Calls Tryz.prog 9 #[v] w fun e w'=>
   ∃g,e=.returned (.slice (some ⟨g,0,none⟩) es.length es.length)∧OwnC w' w.heap.size g es.length es∧Below w.heap.size w w':=by
 rcases h with⟨a,cap,rfl,rfl⟩|⟨b,off,cap,rfl,hE,hlt,g1,g2⟩
 ·exact toCellS_zero a cap w
 ·exact toCellS_core b off cap es w hE hlt g1 g2 h1
end Go.Proofs.YtkidabedcgngcaaGreatDoor
namespace Go.Proofs.YtkidabedcgngcaaGreatDoor
open Go.ChangeShapes Go.WideShapes Go.ChangeAt Go.RowKit Go.Deep
set_option linter.unusedVariables false
set_option linter.unusedSimpArgs false
def mCel (k:Int):Ent:=⟨mText k.toNat,mText (k+1).toNat,mText (k+1+1).toNat,k+1+1+1,0,mText (k+1+1+1+1).toNat⟩
def markedC (k:Int) (es:List Ent) (i:Nat):Prop:=∀j:Nat,j<i→(es[j]?.map Ent.five)=some (mCel (k+j*5)).five
theorem markedC_set {k:Int} {fs:List Ent} {m:Nat} {e:Ent} (h:markedC k fs m) (hm:m<fs.length) (he:e.five=(mCel (k+m*5)).five):markedC k (fs.set m e) (m+1):=by
 intro j hj
 by_cases e1:j=m
 ·subst e1;simp[hm];simpa using he
 ·rw[List.getElem?_set_ne (by omega)];exact h j (by omega)
set_option maxHeartbeats 1000000 in
theorem markCellS_core (base g cap:Nat) (es:List Ent) (k:Int) (w:World) (hO:OwnC w base g cap es) (h0:0<k) (h1:k≤2^30) (hn:es.length≤1048576):
  Calls Tryz.prog 14 #[.slice (some ⟨g,0,none⟩) es.length cap,.int .i64 k] w fun e w'=>
   ∃fs,e=.returned (.int .i64 (k+es.length*5))∧OwnC w' base g cap fs∧fs.length=es.length∧markedC k fs es.length∧w.grownBy w' (some g):=by
 have HO:Hid (OwnC w base g cap es):=hO
 clear hO
 go_enter Tryz.func14,Tryz.ntmps14
 go_wp2
 go_loopw[1,5] (fun c i wr=>∃(m:Nat) (a:Int) (fs:List Ent),m≤es.length∧i=.int .i64 m∧c=.int .i64 a∧a=k+m*5∧OwnC wr base g cap fs∧fs.length=es.length∧markedC k fs m∧w.grownBy wr (some g)) (fun _ i _=>es.length-(intOf i).toNat)
 case atStart=>exact⟨0,k,es,Nat.zero_le _,rfl,rfl,by simp,HO.out,rfl,fun j hj=>by omega,grown_of_below (Below.refl _ _) _⟩
 case round=>
  obtain⟨m,a,fs,hm,rfl,rfl,ha,hO,hfl,hmk,hgr⟩:=hrel
  have HR:Hid (a=k+m*5∧OwnC wr base g cap fs∧fs.length=es.length∧markedC k fs m):=⟨ha,hO,hfl,hmk⟩
  have ha0:0<a:=by omega
  have ha1:a≤2^31:=by omega
  have HG:Hid (w.grownBy wr (some g)):=hgr
  clear hO hfl hmk ha hgr
  by_cases hlt:m<es.length
  ·obtain⟨f,hf⟩:∃f,fs[m]?=some f:=⟨_,List.getElem?_eq_getElem (by rw[HR.2.2.1];exact hlt)⟩
   have HF:Hid (fs[m]?=some f∧m<fs.length):=⟨hf,by rw[HR.2.2.1];exact hlt⟩
   clear hf
   go_wp2_with fail
   refine(markText_any a _ (by omega) (by omega)).mono ?_
   rintro e w1 ⟨rfl,hb1⟩
   have hO1:=HR.2.1.below hb1 HR.2.1.lt.2
   have c1:=(hO1.at m f HF.1).1
   simp only[Nat.zero_add]at c1
   have z1:=fun j=>World.ownsRow.frozenAt hO1 j
   have hO1':=hO1.set m 0 f {f with row:=mText a.toNat} (.string (mText a.toNat)) HF.1 (by omega) rfl
   have H1:Hid (OwnC (w1.setCell ⟨g,m*5,none⟩ (.string (mText a.toNat))) base g cap (fs.set m {f with row:=mText a.toNat})∧w.grownBy (w1.setCell ⟨g,m*5,none⟩ (.string (mText a.toNat))) (some g)):=⟨hO1',(HG.trans (grown_of_below hb1 _)).trans (grown_set _ _ _ _)⟩
   clear hO1 hO1' hb1
   go_wp2_with fail
   refine(markText_any (a+1) _ (by omega) (by omega)).mono ?_
   rintro e w2 ⟨rfl,hb2⟩
   have hO2:=H1.1.below hb2 H1.1.lt.2
   have c2:=(hO2.at m _ (by simp[HF.2];rfl)).2.1
   simp only[Nat.zero_add]at c2
   have z2:=fun j=>World.ownsRow.frozenAt hO2 j
   have H2:Hid (OwnC (w2.setCell ⟨g,m*5+1,none⟩ (.string (mText (a+1).toNat))) base g cap (fs.set m {f with row:=mText a.toNat,fam:=mText (a+1).toNat})∧w.grownBy (w2.setCell ⟨g,m*5+1,none⟩ (.string (mText (a+1).toNat))) (some g)):=
    ⟨hO2.upd HF.2 (by omega) rfl,(H1.2.trans (grown_of_below hb2 _)).trans (grown_set _ _ _ _)⟩
   clear hO2 hb2 c1 z1
   go_wp2_with fail
   refine(markText_any (a+1+1) _ (by omega) (by omega)).mono ?_
   rintro e w3 ⟨rfl,hb3⟩
   have hO3:=H2.1.below hb3 H2.1.lt.2
   obtain⟨_,_,c3,c4,_⟩:=hO3.at m _ (by simp[HF.2];rfl)
   simp only[Nat.zero_add]at c3 c4
   have z3:=fun j=>World.ownsRow.frozenAt hO3 j
   have H3:Hid (OwnC w3 base g cap (fs.set m {f with row:=mText a.toNat,fam:=mText (a+1).toNat})∧w.grownBy w3 (some g)):=⟨hO3,H2.2.trans (grown_of_below hb3 _)⟩
   clear hO3 hb3 c2 z2
   go_wp2_with fail
   refine(markText_any (a+1+1+1+1) _ (by omega) (by omega)).mono ?_
   rintro e w4 ⟨rfl,hb4⟩
   have hO3:=(H3.1.upd (j:=2) (u:=.string (mText (a+1+1).toNat)) (f':={f with row:=mText a.toNat,fam:=mText (a+1).toNat,qual:=mText (a+1+1).toNat}) HF.2 (by omega) rfl).upd (j:=3) (u:=.int .u64 (a+1+1+1))
    (f':={f with row:=mText a.toNat,fam:=mText (a+1).toNat,qual:=mText (a+1+1).toNat,ts:=a+1+1+1}) HF.2 (by omega) rfl
   have hO4:=hO3.below hb4 hO3.lt.2
   have c6:=(hO4.at m _ (by simp[HF.2];rfl)).2.2.2.2
   simp only[Nat.zero_add]at c6
   have z4:=fun j=>World.ownsRow.frozenAt hO4 j
   have H4:Hid (OwnC (w4.setCell ⟨g,m*5+4,none⟩ (.string (mText (a+1+1+1+1).toNat))) base g cap (fs.set m (mCel a))∧w.grownBy (w4.setCell ⟨g,m*5+4,none⟩ (.string (mText (a+1+1+1+1).toNat))) (some g)):=
    ⟨hO4.upd HF.2 (by omega) rfl,(((((H3.2.trans (grown_set _ _ _ _)).trans (grown_set _ _ _ _))).trans (grown_of_below hb4 _)).trans (grown_set _ _ _ _))⟩
   have HE:Hid (a=k+m*5):=HR.1
   clear hO3 hO4 hb4 c3 c4 z3
   go_wp2_with fail
   refine⟨⟨m+1,a+1+1+1+1+1,fs.set m (mCel a),by omega,by go_num,rfl,?_,H4.1,by rw[List.length_set];exact HR.2.2.1,?_,H4.2⟩,?_⟩
   ·go_light
    have:=HE.out
    omega
   ·go_light
    exact markedC_set HR.2.2.2 HF.2 (by rw[←HE.out])
   ·go_light
    simp[intOf];omega
  ·exact zzQ79
set_option maxHeartbeats 2000000 in
theorem heldCellS_core (b off cap:Nat) (es:List Ent) (k:Int) (w:World) (hE:CelsAt w b off es) (hmk:markedC k es es.length) (hB:b<w.heap.size) (h0:0<k) (h1:k≤2^30) (hn:es.length≤1048576):
  Calls Tryz.prog 15 #[.slice (some ⟨b,off,none⟩) es.length cap,.int .i64 k] w fun e w'=>
   e=.returned (.int .i64 (k+es.length*5))∧Below w.heap.size w w':=by
 have HE:Hid (CelsAt w b off es∧markedC k es es.length):=⟨hE,hmk⟩
 clear hE hmk
 go_enter Tryz.func15,Tryz.ntmps15
 go_wp2
 go_loopw[1,5] (fun c i wr=>∃(m:Nat) (a:Int),m≤es.length∧i=.int .i64 m∧c=.int .i64 a∧a=k+m*5∧Below w.heap.size w wr) (fun _ i _=>es.length-(intOf i).toNat)
 case atStart=>exact⟨0,k,Nat.zero_le _,rfl,rfl,by simp,Below.refl _ _⟩
 case round=>
  obtain⟨m,a,hm,rfl,rfl,ha,hb⟩:=hrel
  have ha0:0<a:=by omega
  have ha1:a≤2^31:=by omega
  have HA:Hid (a=k+m*5):=ha
  clear ha
  have hs:=hb.size
  by_cases hlt:m<es.length
  ·obtain⟨f,he⟩:∃f,es[m]?=some f:=⟨_,List.getElem?_eq_getElem hlt⟩
   have hf:f.five=(mCel a).five:=by
    have h:=HE.2 m hlt
    rw[he,←HA.out]at h
    simpa using h
   simp only[Ent.five,List.cons.injEq,Value.string.injEq,Value.int.injEq,and_true,true_and]at hf
   obtain⟨f1,f2,f3,f4,f5⟩:=hf
   have HM:Hid (es[m]?=some f):=he
   clear he
   have z2:(m:Int)<(es.length:Int):=by omega
   have hce:∀wx,Below w.heap.size w wx→wx.cell? ⟨b,off+m*5,none⟩=some (.string (mText a.toNat))∧wx.cell? ⟨b,off+m*5+1,none⟩=some (.string (mText (a+1).toNat))∧wx.cell? ⟨b,off+m*5+2,none⟩=some (.string (mText (a+1+1).toNat))∧
     wx.cell? ⟨b,off+m*5+3,none⟩=some (.int .u64 (a+1+1+1))∧wx.cell? ⟨b,off+m*5+4,none⟩=some (.string (mText (a+1+1+1+1).toNat)):=by
    intro wx hx
    have h:=(HE.1.below hx hB) m _ HM.out
    rw[f1,f2,f3,f4,f5]at h
    exact h
   have HC:Hid (∀wx,Below w.heap.size w wx→wx.cell? ⟨b,off+m*5,none⟩=some (.string (mText a.toNat))∧wx.cell? ⟨b,off+m*5+1,none⟩=some (.string (mText (a+1).toNat))∧wx.cell? ⟨b,off+m*5+2,none⟩=some (.string (mText (a+1+1).toNat))∧
     wx.cell? ⟨b,off+m*5+3,none⟩=some (.int .u64 (a+1+1+1))∧wx.cell? ⟨b,off+m*5+4,none⟩=some (.string (mText (a+1+1+1+1).toNat))):=hce
   clear f1 f2 f3 f4 f5
   clear hce
   have c1:=(HC.out wr hb).1
   go_upto_region 4 with fail
   go_cut[19] (fun s wx=>s=.bool false∧Below w.heap.size w wx)
   case first=>
    go_region_with (go_at_call 36;refine(markText_in w _ _ ?hB (by omega) (by omega)).mono ?_;(case hB=>(repeat (first|assumption|refine Below.drew ?_)));rintro e' w' ⟨rfl,hbb⟩;have cx:=(HC.out w' hbb).1)
    all_goals go_wp2_with fail
    all_goals go_meet
    all_goals exact⟨rfl,by assumption⟩
   case rest=>
   obtain⟨rfl,h2⟩:=hcut
   clear c1
   obtain⟨wa,rfl⟩:=qE (wc:World)
   have c2:=(HC.out wa h2).2.1
   go_upto_region 7 with fail
   go_cut[29] (fun s wx=>s=.bool false∧Below w.heap.size w wx)
   case first=>
    go_region_with (go_at_call 36;refine(markText_in w _ _ ?hB (by omega) (by omega)).mono ?_;(case hB=>(repeat (first|assumption|refine Below.drew ?_)));rintro e' w' ⟨rfl,hbb⟩;have cx:=(HC.out w' hbb).2.1)
    all_goals go_wp2_with fail
    all_goals go_meet
    all_goals exact⟨rfl,by assumption⟩
   case rest=>
   obtain⟨rfl,h3⟩:=hcut
   clear c2
   obtain⟨wb,rfl⟩:=qE (wc:World)
   have c3:=(HC.out wb h3).2.2.1
   go_upto_region 10 with fail
   go_cut[39] (fun s wx=>s=.bool false∧Below w.heap.size w wx)
   case first=>
    go_region_with (go_at_call 36;refine(markText_in w _ _ ?hB (by omega) (by omega)).mono ?_;(case hB=>(repeat (first|assumption|refine Below.drew ?_)));rintro e' w' ⟨rfl,hbb⟩;have cx:=(HC.out w' hbb).2.2.1)
    all_goals go_wp2_with fail
    all_goals go_meet
    all_goals exact⟨rfl,by assumption⟩
   case rest=>
   obtain⟨rfl,h4⟩:=hcut
   clear c3
   obtain⟨wd,rfl⟩:=qE (wc:World)
   have c4:=(HC.out wd h4).2.2.2.1
   have c5:=(HC.out wd h4).2.2.2.2
   go_upto_region 16 with fail
   go_cut[59] (fun s wx=>s=.bool false∧Below w.heap.size w wx)
   case first=>
    go_region_with (go_at_call 36;refine(markText_in w _ _ ?hB (by omega) (by omega)).mono ?_;(case hB=>(repeat (first|assumption|refine Below.drew ?_)));rintro e' w' ⟨rfl,hbb⟩;have cx:=(HC.out w' hbb).2.2.2.2)
    all_goals go_wp2_with fail
    all_goals go_meet
    all_goals exact⟨rfl,by assumption⟩
   case rest=>
   obtain⟨rfl,h5⟩:=hcut
   clear c4 c5
   go_wp2_with fail
   refine⟨⟨m+1,a+1+1+1+1+1,by omega,by go_num,rfl,?_,h5⟩,?_⟩
   ·go_light
    have:=HA.out
    omega
   ·go_light
    simp[intOf];omega
  ·go_wp2_with fail
   go_ret
   have e1:m=es.length:=by omega
   refine⟨?_,hb⟩
   rw[HA.out,e1];rfl
end Go.Proofs.YtkidabedcgngcaaGreatDoor
