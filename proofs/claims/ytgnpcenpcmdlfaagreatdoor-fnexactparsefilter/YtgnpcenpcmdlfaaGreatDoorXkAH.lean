import Derived.Test.YtgnpcenpcmdlfaaGreatDoorXkAC
import Derived.Test.YtgnpcenpcmdlfaaGreatDoorXkAA
import Derived.Test.YtgnpcenpcmdlfaaGreatDoorXkAG
namespace Go.Proofs.YtgnpcenpcmdlfaaGreatDoor
open Go.ChangeShapes Go.WideShapes Go.ChangeAt Go.RowKit Go.Deep
set_option linter.unusedVariables false
set_option linter.unusedSimpArgs false
set_option maxRecDepth 100000
theorem l5Ends_yes (kd:Int) (a b:ByteArray) (hh:Bool) (x y z:Int) (w:World) (h:kd=8∨kd=9):Calls Tryz.prog 86 #[.agg #[.int .i64 kd,.string a,.bool hh,.string b,.int .u64 x,.int .u64 y,.int .i64 z]] w fun e w'=>e=.returned (.bool true)∧Below w.heap.size w w':=by
 rcases h with rfl|rfl
 ·go_enter Tryz.func86,Tryz.ntmps86
  go_wp2_with fail
  go_ret
  exact⟨rfl,qB⟩
 ·go_enter Tryz.func86,Tryz.ntmps86
  go_wp2_with fail
  go_ret
  exact⟨rfl,qB⟩
theorem l5Ends_no (kd:Int) (a b:ByteArray) (hh:Bool) (x y z:Int) (w:World) (h:kd=10):Calls Tryz.prog 86 #[.agg #[.int .i64 kd,.string a,.bool hh,.string b,.int .u64 x,.int .u64 y,.int .i64 z]] w fun e w'=>e=.returned (.bool false)∧Below w.heap.size w w':=by
 subst h
 go_enter Tryz.func86,Tryz.ntmps86
 go_wp2_with fail
 go_ret
 exact⟨rfl,qB⟩
theorem sort_tk (k:TkK) (strs:Bool):(tkN k==(if strs=true then 3 else 2))=k.isSort strs:=by cases k<;>cases strs<;>rfl
theorem sort_txt {k:TkK} {strs:Bool} (h:k.isSort strs=true):tkT k=k.txt∧¬k=.fin∧¬k=.bad∧(strs=true→k.nm=0)∧(strs=false→k.txt=noS):=by
 cases k<;>cases strs<;>first
  |(cases h;done)
  |exact⟨rfl,(fun q=>by cases q),(fun q=>by cases q),(fun q=>by first|rfl|cases q),(fun q=>by first|rfl|cases q)⟩
theorem less_no:¬less noS noS:=by
 unfold less noS
 rw[ByteArray.toList_eq]
 simp[Op.bytesLess]
set_option maxHeartbeats 16000000 in
theorem args_rs {w:World} {base g cp N nd pa:Nat} {ks:List Tk} {i:Nat} {k:Tk} (h:OwnTk w base g cp ks) (hN:N=ks.length) (hl:N≤1000000) (hk:ks[i]?=some k) (hT:Toks ks) (kd:Int) (hkd:kd=8∨kd=9):Calls Tryz.prog 49 #[parV g N cp i nd 0 pa,.int .i64 kd] w (ArgP base g cp N nd pa ks kd i w):=by
 have HAr:Hid (argsM kd (ks.drop i)=rangeM kd true (ks.drop i)):=by
  show _=_
  unfold argsM
  rw[if_neg (by omega),if_neg (by omega),if_pos (by omega)]
 have y1:¬kd≤3:=by omega
 have y2:¬kd≤7:=by omega
 have y3:¬11≤kd:=by omega
 have HKd:Hid (kd=8∨kd=9):=hkd
 clear hkd
 obtain⟨W0,hW0⟩:=qE ((((w.alloc (Obj.cells #[.slice (some ⟨g,0,none⟩) N cp,.int .i64 (i:Int),.int .i64 (nd:Int),.int .i64 0,.int .i64 (pa:Int)] 41)).alloc (Obj.cells #[.slice none 0 0,.int .i64 0,.int .i64 0,.int .i64 0,.int .i64 0] 41)).alloc (Obj.cells #[.int .i64 0,.string ⟨#[]⟩,.bool false,.string ⟨#[]⟩,.int .u64 0,.int .u64 0,.int .i64 0] 65)).alloc (Obj.cells #[.int .i64 kd,.string ⟨#[]⟩,.bool false,.string ⟨#[]⟩,.int .u64 0,.int .u64 0,.int .i64 0] 65):World)
 have HJ0:Hid (AgJ w base g cp N nd pa ks i (leafN kd) W0):=ag_start kd h hW0
 have hi:i<N:=by rw[hN];exact(List.getElem?_eq_some_iff.1 hk).1
 have zi:(i:Int)<(N:Int):=by omega
 have H0:Hid (N=ks.length∧ks[i]?=some k∧hdK (ks.drop i)=k.k∧hdA (ks.drop i)=k.pos∧(ks.drop i).tail=ks.drop (i+1)∧Toks ks):=⟨hN,hk,(drop_hd hk).1,(drop_hd hk).2.1,(drop_hd hk).2.2,hT⟩
 have hgl:=h.lt.2
 clear h hN hk hT
 go_enter Tryz.func49,Tryz.ntmps49
 go_upto_region 2 with fail
 rw[←hW0]
 clear hW0
 obtain⟨b0,b1,b2,b3,b4,b5,b6⟩:=HJ0.n.c7
 simp only[leafN,noS]at b0 b1 b2 b3 b4 b5 b6
 go_wp2_with fail
 refine(l5Ends_yes kd ⟨#[]⟩ ⟨#[]⟩ false 0 0 0 W0 HKd.out).mono ?_
 rintro e v0 ⟨rfl,hb0⟩
 have HV0:Hid (AgJ w base g cp N nd pa ks i (leafN kd) v0):=HJ0.up hb0
 clear hb0 b0 b1 b2 b3 b4 b5 b6
 go_upto_region 24 with fail
 clear y1 y2 y3
 obtain⟨t0,t1,t2,t3⟩:=tk_cells HV0.tk H0.2.1
 have zs:=sort_tk k.k true
 have zs':(tkN k.k==3)=k.k.isSort true:=zs
 clear zs t3
 obtain⟨a0,a1⟩:=HV0.p.c2
 cases hso:k.k.isSort true
 case false=>
  rw[hso]at zs'
  obtain⟨a,ha⟩:=qE (.fin:TkK)
  have HA:Hid (argsM kd (ks.drop i)=dotsM kd true a (ks.drop i)):=by
   show _=_
   rw[HAr.out]
   unfold rangeM
   rw[H0.2.2.1,if_neg (by rw[hso];simp),ha]
  have HV1:Hid (AgJ w base g cp N nd pa ks i (⟨kd,a.txt,false,noS,a.nm,0,0⟩:Nd) v0):=by rw[ha];exact HV0.out
  have Hz:Hid (a.nm=0):=by rw[ha];rfl
  have Hk:Hid (ks[i]?=some k):=H0.2.1
  clear hso ha t1 t2
  go_upto_region 28 with fail
  clear t0 zs' a0 a1
  have HIs:Hid (Calls Tryz.prog 48 #[parV g N cp i nd 0 pa,.string ⟨#[46,46]⟩] v0 fun e w'=>e=.returned (.bool (k.k.isSign 46))∧Below v0.heap.size v0 w'):=l5IsSym_core HV1.tk H0.1 hl Hk.out (toks_kind H0.2.2.2.2.2 Hk.out) nd 0 pa 46 ⟨#[46,46]⟩ (by rw[ByteArray.toList_eq];rfl)
  obtain⟨a0,a1,a2,a3,a4⟩:=HV1.p.c5
  go_wp2_with fail
  refine HIs.mono ?_
  clear HIs
  rintro e v1 ⟨rfl,hb1⟩
  have HV:Hid (AgJ w base g cp N nd pa ks i (⟨kd,a.txt,false,noS,a.nm,0,0⟩:Nd) v1):=HV1.up hb1
  clear hb1 a0 a1 a2 a3 a4
  cases hsg:k.k.isSign 46
  case false=>
   have HA2:Hid (argsM kd (ks.drop i)=failF 3 (ks.drop i)):=by
    show _=_
    rw[HA.out]
    unfold dotsM
    rw[(drop_hd Hk.out).1,if_neg (by rw[hsg];simp)]
   clear hsg
   obtain⟨cc,hcc⟩:=qE (if k.k.isBad=true then 2 else 3:Int)
   have HFl:Hid (∀wx,Below v1.heap.size v1 wx→Calls Tryz.prog 46 #[parV g N cp (i) nd 0 pa,.int .i64 3] wx fun e w'=>e=.returned (parV g N cp (i) nd cc k.pos)∧Below wx.heap.size wx w'):=fun wx hx=>by
    rw[hcc]
    exact l5Fail_core (HV.tk.below hx) H0.1 hl Hk.out nd 0 pa 3
   have HAE:Hid (argsM kd (ks.drop i)=.error (cc,k.pos)∧1≤cc):=⟨by
    rw[HA2.out,hcc]
    unfold failF
    rw[(drop_hd Hk.out).1,(drop_hd Hk.out).2.1],by rw[hcc];split<;>decide⟩
   clear hcc
   go_upto_region 29 with fail
   have hS0:(fun w':World=>w'.cell? ⟨w.heap.size,0,none⟩=some (.slice (some ⟨g,0,none⟩) N cp)∧w'.cell? ⟨w.heap.size,1,none⟩=some (.int .i64 ((i:Nat):Int))∧w'.cell? ⟨w.heap.size,2,none⟩=some (.int .i64 (nd:Int))∧w'.cell? ⟨w.heap.size,3,none⟩=some (.int .i64 0)∧w'.cell? ⟨w.heap.size,4,none⟩=some (.int .i64 (pa:Int))∧w'.cell? ⟨w.heap.size+3,0,none⟩=some (.int .i64 kd)∧w'.cell? ⟨w.heap.size+3,1,none⟩=some (.string a.txt)∧w'.cell? ⟨w.heap.size+3,2,none⟩=some (.bool false)∧w'.cell? ⟨w.heap.size+3,3,none⟩=some (.string ⟨#[]⟩)∧w'.cell? ⟨w.heap.size+3,4,none⟩=some (.int .u64 a.nm)∧w'.cell? ⟨w.heap.size+3,5,none⟩=some (.int .u64 0)∧w'.cell? ⟨w.heap.size+3,6,none⟩=some (.int .i64 0)) v1.drew:=⟨HV.p.cell (j:=0) rfl,HV.p.cell (j:=1) rfl,HV.p.cell (j:=2) rfl,HV.p.cell (j:=3) rfl,HV.p.cell (j:=4) rfl,HV.n.cell (j:=0) rfl,HV.n.cell (j:=1) rfl,HV.n.cell (j:=2) rfl,HV.n.cell (j:=3) rfl,HV.n.cell (j:=4) rfl,HV.n.cell (j:=5) rfl,HV.n.cell (j:=6) rfl⟩
   refine wp_region_T 99 (fun w':World=>w'.cell? ⟨w.heap.size,0,none⟩=some (.slice (some ⟨g,0,none⟩) N cp)∧w'.cell? ⟨w.heap.size,1,none⟩=some (.int .i64 ((i:Nat):Int))∧w'.cell? ⟨w.heap.size,2,none⟩=some (.int .i64 (nd:Int))∧w'.cell? ⟨w.heap.size,3,none⟩=some (.int .i64 0)∧w'.cell? ⟨w.heap.size,4,none⟩=some (.int .i64 (pa:Int))∧w'.cell? ⟨w.heap.size+3,0,none⟩=some (.int .i64 kd)∧w'.cell? ⟨w.heap.size+3,1,none⟩=some (.string a.txt)∧w'.cell? ⟨w.heap.size+3,2,none⟩=some (.bool false)∧w'.cell? ⟨w.heap.size+3,3,none⟩=some (.string ⟨#[]⟩)∧w'.cell? ⟨w.heap.size+3,4,none⟩=some (.int .u64 a.nm)∧w'.cell? ⟨w.heap.size+3,5,none⟩=some (.int .u64 0)∧w'.cell? ⟨w.heap.size+3,6,none⟩=some (.int .i64 0)) (by kernel_rfl) ?_
   refine qT 0 ?vrsaf0 rfl ?yrsaf0 hS0 ?_
   case yrsaf0=>(intro wz hSw;obtain⟨hz0,hz1,hz2,hz3,hz4,hz5,hz6,hz7,hz8,hz9,hz10,hz11⟩:=hSw;go_simp;(try with_reducible rfl))
   try simp only[qA,List.getElem_toArray,List.getElem_cons_zero,List.getElem_cons_succ]
   refine qT 2 ?vrsaf2 rfl ?yrsaf2 hS0 ?_
   case yrsaf2=>(intro wz hSw;obtain⟨hz0,hz1,hz2,hz3,hz4,hz5,hz6,hz7,hz8,hz9,hz10,hz11⟩:=hSw;go_simp;(try with_reducible rfl))
   try simp only[qA,List.getElem_toArray,List.getElem_cons_zero,List.getElem_cons_succ]
   refine qO 1 rfl fun K hK=>?_
   go_simp
   go_at_call 46
   refine(HFl.out v1.drew (Below.refl _ _).drew).mono ?_
   rintro e w5 ⟨rfl,hb5⟩
   have HJ5:Hid (AgJ w base g cp N nd pa ks (i) (⟨kd,a.txt,false,noS,a.nm,0,0⟩:Nd) w5):=HV.up (((Below.refl _ _).drew).trans (hb5.mono (Nat.le_refl _)))
   have hS5:(fun w':World=>w'.cell? ⟨w.heap.size,0,none⟩=some (.slice (some ⟨g,0,none⟩) N cp)∧w'.cell? ⟨w.heap.size,1,none⟩=some (.int .i64 ((i:Nat):Int))∧w'.cell? ⟨w.heap.size,2,none⟩=some (.int .i64 (nd:Int))∧w'.cell? ⟨w.heap.size,3,none⟩=some (.int .i64 0)∧w'.cell? ⟨w.heap.size,4,none⟩=some (.int .i64 (pa:Int))∧w'.cell? ⟨w.heap.size+3,0,none⟩=some (.int .i64 kd)∧w'.cell? ⟨w.heap.size+3,1,none⟩=some (.string a.txt)∧w'.cell? ⟨w.heap.size+3,2,none⟩=some (.bool false)∧w'.cell? ⟨w.heap.size+3,3,none⟩=some (.string ⟨#[]⟩)∧w'.cell? ⟨w.heap.size+3,4,none⟩=some (.int .u64 a.nm)∧w'.cell? ⟨w.heap.size+3,5,none⟩=some (.int .u64 0)∧w'.cell? ⟨w.heap.size+3,6,none⟩=some (.int .i64 0)) w5:=⟨HJ5.p.cell (j:=0) rfl,HJ5.p.cell (j:=1) rfl,HJ5.p.cell (j:=2) rfl,HJ5.p.cell (j:=3) rfl,HJ5.p.cell (j:=4) rfl,HJ5.n.cell (j:=0) rfl,HJ5.n.cell (j:=1) rfl,HJ5.n.cell (j:=2) rfl,HJ5.n.cell (j:=3) rfl,HJ5.n.cell (j:=4) rfl,HJ5.n.cell (j:=5) rfl,HJ5.n.cell (j:=6) rfl⟩
   refine hK.out _ _ (.inr hS5) ?_
   clear hK hb5 HFl
   try simp only[qA,List.getElem_toArray,List.getElem_cons_zero,List.getElem_cons_succ]
   obtain⟨c0,c1,c2,c3,c4⟩:=HJ5.rp.c5
   have e0:=HJ5.rp.frozen 0
   have e1:=HJ5.rp.frozen 1
   have e2:=HJ5.rp.frozen 2
   have e3:=HJ5.rp.frozen 3
   have e4:=HJ5.rp.frozen 4
   obtain⟨W6,hW6⟩:∃V:World,V=setP w5 (w.heap.size+1) (.slice (some ⟨g,0,none⟩) N cp) (.int .i64 ((i:Nat):Int)) (.int .i64 (nd:Int)) (.int .i64 cc) (.int .i64 (k.pos:Int)):=⟨_,rfl⟩
   have hc6:Chg (fun k=>k=w.heap.size+1) w5 W6:=by rw[hW6];exact chg_setP _ _ _ _ _ _ _
   have hp6:=HJ5.p.chg hc6 (by omega)
   have hn6:=HJ5.n.chg hc6 (by omega)
   have hr6:=HJ5.rn.chg hc6 (by omega)
   have hS6:(fun w':World=>w'.cell? ⟨w.heap.size,0,none⟩=some (.slice (some ⟨g,0,none⟩) N cp)∧w'.cell? ⟨w.heap.size,1,none⟩=some (.int .i64 ((i:Nat):Int))∧w'.cell? ⟨w.heap.size,2,none⟩=some (.int .i64 (nd:Int))∧w'.cell? ⟨w.heap.size,3,none⟩=some (.int .i64 0)∧w'.cell? ⟨w.heap.size,4,none⟩=some (.int .i64 (pa:Int))∧w'.cell? ⟨w.heap.size+3,0,none⟩=some (.int .i64 kd)∧w'.cell? ⟨w.heap.size+3,1,none⟩=some (.string a.txt)∧w'.cell? ⟨w.heap.size+3,2,none⟩=some (.bool false)∧w'.cell? ⟨w.heap.size+3,3,none⟩=some (.string ⟨#[]⟩)∧w'.cell? ⟨w.heap.size+3,4,none⟩=some (.int .u64 a.nm)∧w'.cell? ⟨w.heap.size+3,5,none⟩=some (.int .u64 0)∧w'.cell? ⟨w.heap.size+3,6,none⟩=some (.int .i64 0)) W6:=⟨hp6.cell (j:=0) rfl,hp6.cell (j:=1) rfl,hp6.cell (j:=2) rfl,hp6.cell (j:=3) rfl,hp6.cell (j:=4) rfl,hn6.cell (j:=0) rfl,hn6.cell (j:=1) rfl,hn6.cell (j:=2) rfl,hn6.cell (j:=3) rfl,hn6.cell (j:=4) rfl,hn6.cell (j:=5) rfl,hn6.cell (j:=6) rfl⟩
   obtain⟨d0,d1,d2,d3,d4,d5,d6⟩:=hr6.c7
   have f0:=hr6.frozen 0
   have f1:=hr6.frozen 1
   have f2:=hr6.frozen 2
   have f3:=hr6.frozen 3
   have f4:=hr6.frozen 4
   have f5:=hr6.frozen 5
   have f6:=hr6.frozen 6
   obtain⟨W9,hW9⟩:∃V:World,V=setN W6 (w.heap.size+2) (⟨kd,a.txt,false,noS,a.nm,0,0⟩:Nd):=⟨_,rfl⟩
   have hc9:Chg (fun k=>k=w.heap.size+2) W6 W9:=by rw[hW9];exact chg_setN _ _ _
   have hp9:=hp6.chg hc9 (by omega)
   have hn9:=hn6.chg hc9 (by omega)
   have hS9:(fun w':World=>w'.cell? ⟨w.heap.size,0,none⟩=some (.slice (some ⟨g,0,none⟩) N cp)∧w'.cell? ⟨w.heap.size,1,none⟩=some (.int .i64 ((i:Nat):Int))∧w'.cell? ⟨w.heap.size,2,none⟩=some (.int .i64 (nd:Int))∧w'.cell? ⟨w.heap.size,3,none⟩=some (.int .i64 0)∧w'.cell? ⟨w.heap.size,4,none⟩=some (.int .i64 (pa:Int))∧w'.cell? ⟨w.heap.size+3,0,none⟩=some (.int .i64 kd)∧w'.cell? ⟨w.heap.size+3,1,none⟩=some (.string a.txt)∧w'.cell? ⟨w.heap.size+3,2,none⟩=some (.bool false)∧w'.cell? ⟨w.heap.size+3,3,none⟩=some (.string ⟨#[]⟩)∧w'.cell? ⟨w.heap.size+3,4,none⟩=some (.int .u64 a.nm)∧w'.cell? ⟨w.heap.size+3,5,none⟩=some (.int .u64 0)∧w'.cell? ⟨w.heap.size+3,6,none⟩=some (.int .i64 0)) W9:=⟨hp9.cell (j:=0) rfl,hp9.cell (j:=1) rfl,hp9.cell (j:=2) rfl,hp9.cell (j:=3) rfl,hp9.cell (j:=4) rfl,hn9.cell (j:=0) rfl,hn9.cell (j:=1) rfl,hn9.cell (j:=2) rfl,hn9.cell (j:=3) rfl,hn9.cell (j:=4) rfl,hn9.cell (j:=5) rfl,hn9.cell (j:=6) rfl⟩
   have HF:Hid (BoxAt W9 w.heap.size 41 5 (w.heap.size+1) [.slice (some ⟨g,0,none⟩) N cp,.int .i64 ((i:Nat):Int),.int .i64 (nd:Int),.int .i64 cc,.int .i64 (k.pos:Int)]∧BoxAt W9 w.heap.size 65 7 (w.heap.size+2) (Nd.seven (⟨kd,a.txt,false,noS,a.nm,0,0⟩:Nd))∧Below w.heap.size w W9):=by
    have hf:=HJ5.fin (.slice (some ⟨g,0,none⟩) N cp) (.int .i64 ((i:Nat):Int)) (.int .i64 (nd:Int)) (.int .i64 cc) (.int .i64 (k.pos:Int)) (⟨kd,a.txt,false,noS,a.nm,0,0⟩:Nd)
    rw[hW9,hW6]
    exact hf
   have HR:Hid (ArgP base g cp N nd pa ks kd i w (.returned (.tuple #[parV g N cp (i) nd cc k.pos,Nd.v (⟨kd,a.txt,false,noS,a.nm,0,0⟩:Nd)])) W9):=⟨HF.2.2,.inr ⟨cc,k.pos,i,(⟨kd,a.txt,false,noS,a.nm,0,0⟩:Nd),HAE.1,HAE.2,rfl⟩⟩
   obtain⟨p0,p1,p2,p3,p4⟩:=HF.1.c5
   obtain⟨q0,q1,q2,q3,q4,q5,q6⟩:=HF.2.1.c7
   unfold setP at hW6
   unfold setN at hW9
   clear hp6 hn6 hr6 hp9 hn9 hc6 hc9
   simp only[leafN,patN,cntN,noS]at hW9 q0 q1 q2 q3 q4 q5 q6
   refine qO 3 rfl fun K hK=>?_
   go_simp
   rw[←hW6]
   refine hK.out _ _ (.inr hS6) ?_
   clear hK hW6
   try simp only[qA,List.getElem_toArray,List.getElem_cons_zero,List.getElem_cons_succ]
   refine qO 4 rfl fun K hK=>?_
   go_simp
   rw[←hW9]
   refine hK.out _ _ (.inr hS9) ?_
   clear hK hW9
   try simp only[qA,List.getElem_toArray,List.getElem_cons_zero,List.getElem_cons_succ]
   refine qD ?_
   clear hS0 hS5 hS6 hS9 c0 c1 c2 c3 c4 d0 d1 d2 d3 d4 d5 d6 e0 e1 e2 e3 e4 f0 f1 f2 f3 f4 f5 f6
   go_wp2_with fail
   exact bodyPost_ret (v:=.tuple #[parV g N cp (i) nd cc k.pos,Nd.v (⟨kd,a.txt,false,noS,a.nm,0,0⟩:Nd)]) (by simp[results,Tryz.results49,go_sem,p0,p1,p2,p3,p4,q0,q1,q2,q3,q4,q5,q6,leafN,patN,cntN,noS]) rfl HR.out
  have Hk2:Hid (∃k2,ks[i+1]?=some k2):=(toks_next H0.2.2.2.2.2 Hk.out (by rw[TkK.isSign_eq hsg];intro q;cases q) (by rw[TkK.isSign_eq hsg];intro q;cases q)).2
  have HA2:Hid (argsM kd (ks.drop i)=upM kd true a (ks.drop (i+1))):=by
   show _=_
   rw[HA.out]
   unfold dotsM
   rw[(drop_hd Hk.out).1,if_pos hsg,(drop_hd Hk.out).2.2]
  clear hsg
  obtain⟨V2,hV2⟩:∃V:World,V=v1.setCell ⟨w.heap.size,1,none⟩ (.int .i64 ((i:Int)+1)):=⟨_,rfl⟩
  obtain⟨i2,hi2⟩:∃ix,ix=i+1:=⟨_,rfl⟩
  have HJ2:Hid (AgJ w base g cp N nd pa ks i2 (⟨kd,a.txt,false,noS,a.nm,0,0⟩:Nd) V2):=by rw[hV2,hi2];exact HV.stepI _ (by simp)
  have Hi2:Hid (i2=i+1):=hi2
  have hilei2:i≤i2:=by omega
  clear hi2
  have a1:=HV.p.cell (j:=1) rfl
  have ia:=HV.p.frozen 1
  go_upto_region 31 with fail
  rw[←hV2]
  clear hV2 a1 ia
  obtain⟨k2,hk2⟩:=Hk2.out
  rw[←Hi2.out]at hk2
  have HK2:Hid (ks[i2]?=some k2):=hk2
  have hi2N:i2<N:=by rw[H0.1];exact(List.getElem?_eq_some_iff.1 hk2).1
  have zi2:(i2:Int)<(N:Int):=by omega
  clear hk2 Hk2
  obtain⟨t0,t1,t2,t3⟩:=tk_cells HJ2.tk HK2.out
  have zs:=sort_tk k2.k true
  have zs':(tkN k2.k==3)=k2.k.isSort true:=zs
  clear zs t3
  obtain⟨a0,a1⟩:=HJ2.p.c2
  have HA3:Hid (argsM kd (ks.drop i)=upM kd true a (ks.drop i2)):=by rw[Hi2.out];exact HA2.out
  cases hso:k2.k.isSort true
  case false=>
   rw[hso]at zs'
   have HA4:Hid (argsM kd (ks.drop i)=.ok (ks.drop i2,(⟨kd,a.txt,false,noS,a.nm,0,0⟩:Nd))):=by
    show _=_
    rw[HA3.out]
    unfold upM
    rw[(drop_hd HK2.out).1,if_neg (by rw[hso];simp)]
   clear hso t1 t2
   go_upto_region 38 with fail
   clear t0 zs' a0 a1
   obtain⟨a0,a1,a2,a3,a4⟩:=HJ2.p.c5
   obtain⟨b0,b1,b2,b3,b4,b5,b6⟩:=HJ2.n.c7
   obtain⟨c0,c1,c2,c3,c4⟩:=HJ2.rp.c5
   obtain⟨d0,d1,d2,d3,d4,d5,d6⟩:=HJ2.rn.c7
   have e0:=HJ2.rp.frozen 0
   have e1:=HJ2.rp.frozen 1
   have e2:=HJ2.rp.frozen 2
   have e3:=HJ2.rp.frozen 3
   have e4:=HJ2.rp.frozen 4
   have f0:=HJ2.rn.frozen 0
   have f1:=HJ2.rn.frozen 1
   have f2:=HJ2.rn.frozen 2
   have f3:=HJ2.rn.frozen 3
   have f4:=HJ2.rn.frozen 4
   have f5:=HJ2.rn.frozen 5
   have f6:=HJ2.rn.frozen 6
   obtain⟨W9,hW9⟩:∃V:World,V=(setN (setP V2 (w.heap.size+1) (.slice (some ⟨g,0,none⟩) N cp) (.int .i64 (i2:Int)) (.int .i64 (nd:Int)) (.int .i64 0) (.int .i64 (pa:Int))) (w.heap.size+2) (⟨kd,a.txt,false,noS,a.nm,0,0⟩:Nd)).drew:=⟨_,rfl⟩
   have HF:Hid (BoxAt W9 w.heap.size 41 5 (w.heap.size+1) [.slice (some ⟨g,0,none⟩) N cp,.int .i64 (i2:Int),.int .i64 (nd:Int),.int .i64 0,.int .i64 (pa:Int)]∧BoxAt W9 w.heap.size 65 7 (w.heap.size+2) (Nd.seven (⟨kd,a.txt,false,noS,a.nm,0,0⟩:Nd))∧Below w.heap.size w W9):=by
    have hf:=HJ2.fin (.slice (some ⟨g,0,none⟩) N cp) (.int .i64 (i2:Int)) (.int .i64 (nd:Int)) (.int .i64 0) (.int .i64 (pa:Int)) (⟨kd,a.txt,false,noS,a.nm,0,0⟩:Nd)
    have hd:∀X:World,Below X.heap.size X X.drew:=fun X=>(Below.refl _ _).drew
    rw[hW9]
    exact⟨hf.1.below (hd _),hf.2.1.below (hd _),hf.2.2.trans ((hd _).mono hf.2.2.size)⟩
   have HR:Hid (ArgP base g cp N nd pa ks kd i w (.returned (.tuple #[parV g N cp (i2) nd 0 pa,Nd.v (⟨kd,a.txt,false,noS,a.nm,0,0⟩:Nd)])) W9):=⟨HF.2.2,.inl ⟨i2,(⟨kd,a.txt,false,noS,a.nm,0,0⟩:Nd),HA4.out,by omega,by omega,rfl⟩⟩
   obtain⟨p0,p1,p2,p3,p4⟩:=HF.1.c5
   obtain⟨q0,q1,q2,q3,q4,q5,q6⟩:=HF.2.1.c7
   unfold setN setP at hW9
   simp only[leafN,patN,cntN,noS]at hW9 b0 b1 b2 b3 b4 b5 b6 q0 q1 q2 q3 q4 q5 q6
   go_region
   rw[←hW9]
   clear hW9 a0 a1 a2 a3 a4 b0 b1 b2 b3 b4 b5 b6 c0 c1 c2 c3 c4 d0 d1 d2 d3 d4 d5 d6 e0 e1 e2 e3 e4 f0 f1 f2 f3 f4 f5 f6
   go_wp2_with fail
   exact bodyPost_ret (v:=.tuple #[parV g N cp (i2) nd 0 pa,Nd.v (⟨kd,a.txt,false,noS,a.nm,0,0⟩:Nd)]) (by simp[results,Tryz.results49,go_sem,p0,p1,p2,p3,p4,q0,q1,q2,q3,q4,q5,q6,leafN,patN,cntN,noS]) rfl HR.out
  obtain⟨htx,hnf,hnb,hz1,hz2⟩:=sort_txt hso
  have Hk3:Hid (∃k3,ks[i2+1]?=some k3):=(toks_next H0.2.2.2.2.2 HK2.out hnf hnb).2
  have HA4:Hid (argsM kd (ks.drop i)=if less a.txt k2.k.txt∨a.nm<k2.k.nm then .ok (ks.drop (i2+1),(⟨kd,a.txt,true,k2.k.txt,a.nm,k2.k.nm,0⟩:Nd))else failF 7 (ks.drop i2)):=by
   show _=_
   rw[HA3.out]
   unfold upM
   rw[(drop_hd HK2.out).1,if_pos hso,(drop_hd HK2.out).2.2]
  have HTx:Hid (tkT k2.k=k2.k.txt):=htx
  have HZ:Hid (a.nm=0∧k2.k.nm=0):=⟨Hz.out,hz1 rfl⟩
  rw[htx]at t2
  rw[hso]at zs'
  clear htx hnf hnb hz1 hz2 hso
  have hi3N:i2+1<N:=by
   obtain⟨k3,hk3⟩:=Hk3.out
   rw[H0.1];exact(List.getElem?_eq_some_iff.1 hk3).1
  obtain⟨V3,hV3⟩:∃V:World,V=V2.setCell ⟨w.heap.size+3,2,none⟩ (.bool true):=⟨_,rfl⟩
  have HJ3:Hid (AgJ w base g cp N nd pa ks i2 (⟨kd,a.txt,true,noS,a.nm,0,0⟩:Nd) V3):=by rw[hV3];exact HJ2.stepN 2 _ rfl
  have n2:=HJ2.n.cell (j:=2) rfl
  have m2:=HJ2.n.frozen 2
  go_upto_region 33 with fail
  rw[←hV3]
  clear hV3 n2 m2 a0 a1 t0 t1 t2 zs'
  obtain⟨t0,t1,t2,t3⟩:=tk_cells HJ3.tk HK2.out
  have zs:tkT k2.k=k2.k.txt:=HTx.out
  rw[zs]at t2
  clear zs
  obtain⟨a0,a1⟩:=HJ3.p.c2
  obtain⟨V4,hV4⟩:∃V:World,V=V3.setCell ⟨w.heap.size+3,3,none⟩ (.string k2.k.txt):=⟨_,rfl⟩
  have HJ4:Hid (AgJ w base g cp N nd pa ks i2 (⟨kd,a.txt,true,k2.k.txt,a.nm,0,0⟩:Nd) V4):=by rw[hV4];exact HJ3.stepN 3 _ rfl
  have n3:=HJ3.n.cell (j:=3) rfl
  have m3:=HJ3.n.frozen 3
  go_upto_region 34 with fail
  rw[←hV4]
  clear hV4 n3 m3 a0 a1 t0 t1 t2 t3
  obtain⟨t0,t1,t2,t3⟩:=tk_cells HJ4.tk HK2.out
  obtain⟨a0,a1⟩:=HJ4.p.c2
  obtain⟨V5,hV5⟩:∃V:World,V=V4.setCell ⟨w.heap.size+3,5,none⟩ (.int .u64 k2.k.nm):=⟨_,rfl⟩
  have HJ5x:Hid (AgJ w base g cp N nd pa ks i2 (⟨kd,a.txt,true,k2.k.txt,a.nm,k2.k.nm,0⟩:Nd) V5):=by rw[hV5];exact HJ4.stepN 5 _ rfl
  have n5:=HJ4.n.cell (j:=5) rfl
  have m5:=HJ4.n.frozen 5
  go_upto_region 35 with fail
  rw[←hV5]
  clear hV5 n5 m5 a0 a1 t0 t1 t2 t3
  have g1:=HJ5x.n.cell (j:=1) rfl
  have g3:=HJ5x.n.cell (j:=3) rfl
  by_cases hls:less a.txt k2.k.txt
  case neg=>
   have hbl:Op.bytesLess a.txt.toList k2.k.txt.toList=false:=by unfold less at hls;simpa using hls
   have HA5:Hid (argsM kd (ks.drop i)=failF 7 (ks.drop i2)):=by
    show _=_
    rw[HA4.out,if_neg (by rw[HZ.1,HZ.2];intro q;rcases q with q|q
                          ·exact hls q
                          ·omega)]
   clear hls
   obtain⟨cc,hcc⟩:=qE (if k2.k.isBad=true then 2 else 7:Int)
   have HFl:Hid (∀wx,Below V5.heap.size V5 wx→Calls Tryz.prog 46 #[parV g N cp (i2) nd 0 pa,.int .i64 7] wx fun e w'=>e=.returned (parV g N cp (i2) nd cc k2.pos)∧Below wx.heap.size wx w'):=fun wx hx=>by
    rw[hcc]
    exact l5Fail_core (HJ5x.tk.below hx) H0.1 hl HK2.out nd 0 pa 7
   have HAE:Hid (argsM kd (ks.drop i)=.error (cc,k2.pos)∧1≤cc):=⟨by
    rw[HA5.out,hcc]
    unfold failF
    rw[(drop_hd HK2.out).1,(drop_hd HK2.out).2.1],by rw[hcc];split<;>decide⟩
   clear hcc
   go_upto_region 36 with fail
   have hS0:(fun w':World=>w'.cell? ⟨w.heap.size,0,none⟩=some (.slice (some ⟨g,0,none⟩) N cp)∧w'.cell? ⟨w.heap.size,1,none⟩=some (.int .i64 ((i2:Nat):Int))∧w'.cell? ⟨w.heap.size,2,none⟩=some (.int .i64 (nd:Int))∧w'.cell? ⟨w.heap.size,3,none⟩=some (.int .i64 0)∧w'.cell? ⟨w.heap.size,4,none⟩=some (.int .i64 (pa:Int))∧w'.cell? ⟨w.heap.size+3,0,none⟩=some (.int .i64 kd)∧w'.cell? ⟨w.heap.size+3,1,none⟩=some (.string a.txt)∧w'.cell? ⟨w.heap.size+3,2,none⟩=some (.bool true)∧w'.cell? ⟨w.heap.size+3,3,none⟩=some (.string k2.k.txt)∧w'.cell? ⟨w.heap.size+3,4,none⟩=some (.int .u64 a.nm)∧w'.cell? ⟨w.heap.size+3,5,none⟩=some (.int .u64 k2.k.nm)∧w'.cell? ⟨w.heap.size+3,6,none⟩=some (.int .i64 0)) V5.drew:=⟨HJ5x.p.cell (j:=0) rfl,HJ5x.p.cell (j:=1) rfl,HJ5x.p.cell (j:=2) rfl,HJ5x.p.cell (j:=3) rfl,HJ5x.p.cell (j:=4) rfl,HJ5x.n.cell (j:=0) rfl,HJ5x.n.cell (j:=1) rfl,HJ5x.n.cell (j:=2) rfl,HJ5x.n.cell (j:=3) rfl,HJ5x.n.cell (j:=4) rfl,HJ5x.n.cell (j:=5) rfl,HJ5x.n.cell (j:=6) rfl⟩
   refine wp_region_T 99 (fun w':World=>w'.cell? ⟨w.heap.size,0,none⟩=some (.slice (some ⟨g,0,none⟩) N cp)∧w'.cell? ⟨w.heap.size,1,none⟩=some (.int .i64 ((i2:Nat):Int))∧w'.cell? ⟨w.heap.size,2,none⟩=some (.int .i64 (nd:Int))∧w'.cell? ⟨w.heap.size,3,none⟩=some (.int .i64 0)∧w'.cell? ⟨w.heap.size,4,none⟩=some (.int .i64 (pa:Int))∧w'.cell? ⟨w.heap.size+3,0,none⟩=some (.int .i64 kd)∧w'.cell? ⟨w.heap.size+3,1,none⟩=some (.string a.txt)∧w'.cell? ⟨w.heap.size+3,2,none⟩=some (.bool true)∧w'.cell? ⟨w.heap.size+3,3,none⟩=some (.string k2.k.txt)∧w'.cell? ⟨w.heap.size+3,4,none⟩=some (.int .u64 a.nm)∧w'.cell? ⟨w.heap.size+3,5,none⟩=some (.int .u64 k2.k.nm)∧w'.cell? ⟨w.heap.size+3,6,none⟩=some (.int .i64 0)) (by kernel_rfl) ?_
   refine qT 0 ?vrsag0 rfl ?yrsag0 hS0 ?_
   case yrsag0=>(intro wz hSw;obtain⟨hz0,hz1,hz2,hz3,hz4,hz5,hz6,hz7,hz8,hz9,hz10,hz11⟩:=hSw;go_simp;(try with_reducible rfl))
   try simp only[qA,List.getElem_toArray,List.getElem_cons_zero,List.getElem_cons_succ]
   refine qT 2 ?vrsag2 rfl ?yrsag2 hS0 ?_
   case yrsag2=>(intro wz hSw;obtain⟨hz0,hz1,hz2,hz3,hz4,hz5,hz6,hz7,hz8,hz9,hz10,hz11⟩:=hSw;go_simp;(try with_reducible rfl))
   try simp only[qA,List.getElem_toArray,List.getElem_cons_zero,List.getElem_cons_succ]
   refine qO 1 rfl fun K hK=>?_
   go_simp
   go_at_call 46
   refine(HFl.out V5.drew (Below.refl _ _).drew).mono ?_
   rintro e w5 ⟨rfl,hb5⟩
   have HJ5:Hid (AgJ w base g cp N nd pa ks (i2) (⟨kd,a.txt,true,k2.k.txt,a.nm,k2.k.nm,0⟩:Nd) w5):=HJ5x.up (((Below.refl _ _).drew).trans (hb5.mono (Nat.le_refl _)))
   have hS5:(fun w':World=>w'.cell? ⟨w.heap.size,0,none⟩=some (.slice (some ⟨g,0,none⟩) N cp)∧w'.cell? ⟨w.heap.size,1,none⟩=some (.int .i64 ((i2:Nat):Int))∧w'.cell? ⟨w.heap.size,2,none⟩=some (.int .i64 (nd:Int))∧w'.cell? ⟨w.heap.size,3,none⟩=some (.int .i64 0)∧w'.cell? ⟨w.heap.size,4,none⟩=some (.int .i64 (pa:Int))∧w'.cell? ⟨w.heap.size+3,0,none⟩=some (.int .i64 kd)∧w'.cell? ⟨w.heap.size+3,1,none⟩=some (.string a.txt)∧w'.cell? ⟨w.heap.size+3,2,none⟩=some (.bool true)∧w'.cell? ⟨w.heap.size+3,3,none⟩=some (.string k2.k.txt)∧w'.cell? ⟨w.heap.size+3,4,none⟩=some (.int .u64 a.nm)∧w'.cell? ⟨w.heap.size+3,5,none⟩=some (.int .u64 k2.k.nm)∧w'.cell? ⟨w.heap.size+3,6,none⟩=some (.int .i64 0)) w5:=⟨HJ5.p.cell (j:=0) rfl,HJ5.p.cell (j:=1) rfl,HJ5.p.cell (j:=2) rfl,HJ5.p.cell (j:=3) rfl,HJ5.p.cell (j:=4) rfl,HJ5.n.cell (j:=0) rfl,HJ5.n.cell (j:=1) rfl,HJ5.n.cell (j:=2) rfl,HJ5.n.cell (j:=3) rfl,HJ5.n.cell (j:=4) rfl,HJ5.n.cell (j:=5) rfl,HJ5.n.cell (j:=6) rfl⟩
   refine hK.out _ _ (.inr hS5) ?_
   clear hK hb5 HFl
   try simp only[qA,List.getElem_toArray,List.getElem_cons_zero,List.getElem_cons_succ]
   obtain⟨c0,c1,c2,c3,c4⟩:=HJ5.rp.c5
   have e0:=HJ5.rp.frozen 0
   have e1:=HJ5.rp.frozen 1
   have e2:=HJ5.rp.frozen 2
   have e3:=HJ5.rp.frozen 3
   have e4:=HJ5.rp.frozen 4
   obtain⟨W6,hW6⟩:∃V:World,V=setP w5 (w.heap.size+1) (.slice (some ⟨g,0,none⟩) N cp) (.int .i64 ((i2:Nat):Int)) (.int .i64 (nd:Int)) (.int .i64 cc) (.int .i64 (k2.pos:Int)):=⟨_,rfl⟩
   have hc6:Chg (fun k=>k=w.heap.size+1) w5 W6:=by rw[hW6];exact chg_setP _ _ _ _ _ _ _
   have hp6:=HJ5.p.chg hc6 (by omega)
   have hn6:=HJ5.n.chg hc6 (by omega)
   have hr6:=HJ5.rn.chg hc6 (by omega)
   have hS6:(fun w':World=>w'.cell? ⟨w.heap.size,0,none⟩=some (.slice (some ⟨g,0,none⟩) N cp)∧w'.cell? ⟨w.heap.size,1,none⟩=some (.int .i64 ((i2:Nat):Int))∧w'.cell? ⟨w.heap.size,2,none⟩=some (.int .i64 (nd:Int))∧w'.cell? ⟨w.heap.size,3,none⟩=some (.int .i64 0)∧w'.cell? ⟨w.heap.size,4,none⟩=some (.int .i64 (pa:Int))∧w'.cell? ⟨w.heap.size+3,0,none⟩=some (.int .i64 kd)∧w'.cell? ⟨w.heap.size+3,1,none⟩=some (.string a.txt)∧w'.cell? ⟨w.heap.size+3,2,none⟩=some (.bool true)∧w'.cell? ⟨w.heap.size+3,3,none⟩=some (.string k2.k.txt)∧w'.cell? ⟨w.heap.size+3,4,none⟩=some (.int .u64 a.nm)∧w'.cell? ⟨w.heap.size+3,5,none⟩=some (.int .u64 k2.k.nm)∧w'.cell? ⟨w.heap.size+3,6,none⟩=some (.int .i64 0)) W6:=⟨hp6.cell (j:=0) rfl,hp6.cell (j:=1) rfl,hp6.cell (j:=2) rfl,hp6.cell (j:=3) rfl,hp6.cell (j:=4) rfl,hn6.cell (j:=0) rfl,hn6.cell (j:=1) rfl,hn6.cell (j:=2) rfl,hn6.cell (j:=3) rfl,hn6.cell (j:=4) rfl,hn6.cell (j:=5) rfl,hn6.cell (j:=6) rfl⟩
   obtain⟨d0,d1,d2,d3,d4,d5,d6⟩:=hr6.c7
   have f0:=hr6.frozen 0
   have f1:=hr6.frozen 1
   have f2:=hr6.frozen 2
   have f3:=hr6.frozen 3
   have f4:=hr6.frozen 4
   have f5:=hr6.frozen 5
   have f6:=hr6.frozen 6
   obtain⟨W9,hW9⟩:∃V:World,V=setN W6 (w.heap.size+2) (⟨kd,a.txt,true,k2.k.txt,a.nm,k2.k.nm,0⟩:Nd):=⟨_,rfl⟩
   have hc9:Chg (fun k=>k=w.heap.size+2) W6 W9:=by rw[hW9];exact chg_setN _ _ _
   have hp9:=hp6.chg hc9 (by omega)
   have hn9:=hn6.chg hc9 (by omega)
   have hS9:(fun w':World=>w'.cell? ⟨w.heap.size,0,none⟩=some (.slice (some ⟨g,0,none⟩) N cp)∧w'.cell? ⟨w.heap.size,1,none⟩=some (.int .i64 ((i2:Nat):Int))∧w'.cell? ⟨w.heap.size,2,none⟩=some (.int .i64 (nd:Int))∧w'.cell? ⟨w.heap.size,3,none⟩=some (.int .i64 0)∧w'.cell? ⟨w.heap.size,4,none⟩=some (.int .i64 (pa:Int))∧w'.cell? ⟨w.heap.size+3,0,none⟩=some (.int .i64 kd)∧w'.cell? ⟨w.heap.size+3,1,none⟩=some (.string a.txt)∧w'.cell? ⟨w.heap.size+3,2,none⟩=some (.bool true)∧w'.cell? ⟨w.heap.size+3,3,none⟩=some (.string k2.k.txt)∧w'.cell? ⟨w.heap.size+3,4,none⟩=some (.int .u64 a.nm)∧w'.cell? ⟨w.heap.size+3,5,none⟩=some (.int .u64 k2.k.nm)∧w'.cell? ⟨w.heap.size+3,6,none⟩=some (.int .i64 0)) W9:=⟨hp9.cell (j:=0) rfl,hp9.cell (j:=1) rfl,hp9.cell (j:=2) rfl,hp9.cell (j:=3) rfl,hp9.cell (j:=4) rfl,hn9.cell (j:=0) rfl,hn9.cell (j:=1) rfl,hn9.cell (j:=2) rfl,hn9.cell (j:=3) rfl,hn9.cell (j:=4) rfl,hn9.cell (j:=5) rfl,hn9.cell (j:=6) rfl⟩
   have HF:Hid (BoxAt W9 w.heap.size 41 5 (w.heap.size+1) [.slice (some ⟨g,0,none⟩) N cp,.int .i64 ((i2:Nat):Int),.int .i64 (nd:Int),.int .i64 cc,.int .i64 (k2.pos:Int)]∧BoxAt W9 w.heap.size 65 7 (w.heap.size+2) (Nd.seven (⟨kd,a.txt,true,k2.k.txt,a.nm,k2.k.nm,0⟩:Nd))∧Below w.heap.size w W9):=by
    have hf:=HJ5.fin (.slice (some ⟨g,0,none⟩) N cp) (.int .i64 ((i2:Nat):Int)) (.int .i64 (nd:Int)) (.int .i64 cc) (.int .i64 (k2.pos:Int)) (⟨kd,a.txt,true,k2.k.txt,a.nm,k2.k.nm,0⟩:Nd)
    rw[hW9,hW6]
    exact hf
   have HR:Hid (ArgP base g cp N nd pa ks kd i w (.returned (.tuple #[parV g N cp (i2) nd cc k2.pos,Nd.v (⟨kd,a.txt,true,k2.k.txt,a.nm,k2.k.nm,0⟩:Nd)])) W9):=⟨HF.2.2,.inr ⟨cc,k2.pos,i2,(⟨kd,a.txt,true,k2.k.txt,a.nm,k2.k.nm,0⟩:Nd),HAE.1,HAE.2,rfl⟩⟩
   obtain⟨p0,p1,p2,p3,p4⟩:=HF.1.c5
   obtain⟨q0,q1,q2,q3,q4,q5,q6⟩:=HF.2.1.c7
   unfold setP at hW6
   unfold setN at hW9
   clear hp6 hn6 hr6 hp9 hn9 hc6 hc9
   simp only[leafN,patN,cntN,noS]at hW9 q0 q1 q2 q3 q4 q5 q6
   refine qO 3 rfl fun K hK=>?_
   go_simp
   rw[←hW6]
   refine hK.out _ _ (.inr hS6) ?_
   clear hK hW6
   try simp only[qA,List.getElem_toArray,List.getElem_cons_zero,List.getElem_cons_succ]
   refine qO 4 rfl fun K hK=>?_
   go_simp
   rw[←hW9]
   refine hK.out _ _ (.inr hS9) ?_
   clear hK hW9
   try simp only[qA,List.getElem_toArray,List.getElem_cons_zero,List.getElem_cons_succ]
   refine qD ?_
   clear hS0 hS5 hS6 hS9 c0 c1 c2 c3 c4 d0 d1 d2 d3 d4 d5 d6 e0 e1 e2 e3 e4 f0 f1 f2 f3 f4 f5 f6
   go_wp2_with fail
   exact bodyPost_ret (v:=.tuple #[parV g N cp (i2) nd cc k2.pos,Nd.v (⟨kd,a.txt,true,k2.k.txt,a.nm,k2.k.nm,0⟩:Nd)]) (by simp[results,Tryz.results49,go_sem,p0,p1,p2,p3,p4,q0,q1,q2,q3,q4,q5,q6,leafN,patN,cntN,noS]) rfl HR.out
  have hbl:Op.bytesLess a.txt.toList k2.k.txt.toList=true:=hls
  have HA5:Hid (argsM kd (ks.drop i)=.ok (ks.drop (i2+1),(⟨kd,a.txt,true,k2.k.txt,a.nm,k2.k.nm,0⟩:Nd))):=by
   show _=_
   rw[HA4.out,if_pos (.inl hls)]
  clear hls
  obtain⟨V6,hV6⟩:∃V:World,V=V5.setCell ⟨w.heap.size,1,none⟩ (.int .i64 ((i2:Int)+1)):=⟨_,rfl⟩
  obtain⟨i3,hi3⟩:∃ix,ix=i2+1:=⟨_,rfl⟩
  have HJ6:Hid (AgJ w base g cp N nd pa ks i3 (⟨kd,a.txt,true,k2.k.txt,a.nm,k2.k.nm,0⟩:Nd) V6):=by rw[hV6,hi3];exact HJ5x.stepI _ (by simp)
  have Hi3:Hid (i3=i2+1):=hi3
  have hilei3:i2≤i3:=by omega
  clear hi3
  have a1:=HJ5x.p.cell (j:=1) rfl
  have ia:=HJ5x.p.frozen 1
  go_upto_region 38 with fail
  rw[←hV6]
  have hi3:i3<N:=by rw[Hi3.out];exact hi3N
  clear hV6 a1 ia hbl
  obtain⟨a0,a1,a2,a3,a4⟩:=HJ6.p.c5
  obtain⟨b0,b1,b2,b3,b4,b5,b6⟩:=HJ6.n.c7
  obtain⟨c0,c1,c2,c3,c4⟩:=HJ6.rp.c5
  obtain⟨d0,d1,d2,d3,d4,d5,d6⟩:=HJ6.rn.c7
  have e0:=HJ6.rp.frozen 0
  have e1:=HJ6.rp.frozen 1
  have e2:=HJ6.rp.frozen 2
  have e3:=HJ6.rp.frozen 3
  have e4:=HJ6.rp.frozen 4
  have f0:=HJ6.rn.frozen 0
  have f1:=HJ6.rn.frozen 1
  have f2:=HJ6.rn.frozen 2
  have f3:=HJ6.rn.frozen 3
  have f4:=HJ6.rn.frozen 4
  have f5:=HJ6.rn.frozen 5
  have f6:=HJ6.rn.frozen 6
  obtain⟨W9,hW9⟩:∃V:World,V=(setN (setP V6 (w.heap.size+1) (.slice (some ⟨g,0,none⟩) N cp) (.int .i64 (i3:Int)) (.int .i64 (nd:Int)) (.int .i64 0) (.int .i64 (pa:Int))) (w.heap.size+2) (⟨kd,a.txt,true,k2.k.txt,a.nm,k2.k.nm,0⟩:Nd)).drew:=⟨_,rfl⟩
  have HF:Hid (BoxAt W9 w.heap.size 41 5 (w.heap.size+1) [.slice (some ⟨g,0,none⟩) N cp,.int .i64 (i3:Int),.int .i64 (nd:Int),.int .i64 0,.int .i64 (pa:Int)]∧BoxAt W9 w.heap.size 65 7 (w.heap.size+2) (Nd.seven (⟨kd,a.txt,true,k2.k.txt,a.nm,k2.k.nm,0⟩:Nd))∧Below w.heap.size w W9):=by
   have hf:=HJ6.fin (.slice (some ⟨g,0,none⟩) N cp) (.int .i64 (i3:Int)) (.int .i64 (nd:Int)) (.int .i64 0) (.int .i64 (pa:Int)) (⟨kd,a.txt,true,k2.k.txt,a.nm,k2.k.nm,0⟩:Nd)
   have hd:∀X:World,Below X.heap.size X X.drew:=fun X=>(Below.refl _ _).drew
   rw[hW9]
   exact⟨hf.1.below (hd _),hf.2.1.below (hd _),hf.2.2.trans ((hd _).mono hf.2.2.size)⟩
  have HR:Hid (ArgP base g cp N nd pa ks kd i w (.returned (.tuple #[parV g N cp (i3) nd 0 pa,Nd.v (⟨kd,a.txt,true,k2.k.txt,a.nm,k2.k.nm,0⟩:Nd)])) W9):=⟨HF.2.2,.inl ⟨i3,(⟨kd,a.txt,true,k2.k.txt,a.nm,k2.k.nm,0⟩:Nd),by rw[Hi3.out];exact HA5.out,by omega,by omega,rfl⟩⟩
  obtain⟨p0,p1,p2,p3,p4⟩:=HF.1.c5
  obtain⟨q0,q1,q2,q3,q4,q5,q6⟩:=HF.2.1.c7
  unfold setN setP at hW9
  simp only[leafN,patN,cntN,noS]at hW9 b0 b1 b2 b3 b4 b5 b6 q0 q1 q2 q3 q4 q5 q6
  go_region
  rw[←hW9]
  clear hW9 a0 a1 a2 a3 a4 b0 b1 b2 b3 b4 b5 b6 c0 c1 c2 c3 c4 d0 d1 d2 d3 d4 d5 d6 e0 e1 e2 e3 e4 f0 f1 f2 f3 f4 f5 f6
  go_wp2_with fail
  exact bodyPost_ret (v:=.tuple #[parV g N cp (i3) nd 0 pa,Nd.v (⟨kd,a.txt,true,k2.k.txt,a.nm,k2.k.nm,0⟩:Nd)]) (by simp[results,Tryz.results49,go_sem,p0,p1,p2,p3,p4,q0,q1,q2,q3,q4,q5,q6,leafN,patN,cntN,noS]) rfl HR.out
 obtain⟨htx,hnf,hnb,hz1,hz2⟩:=sort_txt hso
 have Hk1:Hid (∃k1,ks[i+1]?=some k1):=(toks_next H0.2.2.2.2.2 H0.2.1 hnf hnb).2
 obtain⟨a,ha⟩:=qE (k.k:TkK)
 have HA1:Hid (argsM kd (ks.drop i)=dotsM kd true a (ks.drop (i+1))):=by
  show _=_
  rw[HAr.out]
  unfold rangeM
  rw[H0.2.2.1,if_pos hso,ha,H0.2.2.2.2.1]
 have Hz:Hid (a.nm=0):=by rw[ha];exact hz1 rfl
 have HTa:Hid (tkT k.k=a.txt∧k.k.nm=a.nm):=by rw[ha];exact⟨htx,rfl⟩
 rw[HTa.1]at t2
 rw[hso]at zs'
 clear htx hnf hnb hz1 hz2 hso ha
 obtain⟨V1,hV1⟩:∃V:World,V=v0.setCell ⟨w.heap.size+3,1,none⟩ (.string a.txt):=⟨_,rfl⟩
 have HV1:Hid (AgJ w base g cp N nd pa ks i (⟨kd,a.txt,false,noS,0,0,0⟩:Nd) V1):=by rw[hV1];exact HV0.stepN 1 _ rfl
 have n1:=HV0.n.cell (j:=1) rfl
 have m1:=HV0.n.frozen 1
 go_upto_region 26 with fail
 rw[←hV1]
 clear hV1 n1 m1 a0 a1 t0 t1 t2 zs'
 obtain⟨t0,t1,t2,t3⟩:=tk_cells HV1.tk H0.2.1
 rw[HTa.2]at t1
 obtain⟨a0,a1⟩:=HV1.p.c2
 obtain⟨Vb,hVb⟩:∃V:World,V=V1.setCell ⟨w.heap.size+3,4,none⟩ (.int .u64 a.nm):=⟨_,rfl⟩
 have HVb:Hid (AgJ w base g cp N nd pa ks i (⟨kd,a.txt,false,noS,a.nm,0,0⟩:Nd) Vb):=by rw[hVb];exact HV1.stepN 4 _ rfl
 have n4:=HV1.n.cell (j:=4) rfl
 have m4:=HV1.n.frozen 4
 go_upto_region 27 with fail
 rw[←hVb]
 clear hVb n4 m4 a0 a1 t0 t1 t2 t3
 obtain⟨Vc,hVc⟩:∃V:World,V=Vb.setCell ⟨w.heap.size,1,none⟩ (.int .i64 ((i:Int)+1)):=⟨_,rfl⟩
 obtain⟨i1,hi1⟩:∃ix,ix=i+1:=⟨_,rfl⟩
 have HVc:Hid (AgJ w base g cp N nd pa ks i1 (⟨kd,a.txt,false,noS,a.nm,0,0⟩:Nd) Vc):=by rw[hVc,hi1];exact HVb.stepI _ (by simp)
 have Hi1:Hid (i1=i+1):=hi1
 have hilei1:i≤i1:=by omega
 clear hi1
 have a1:=HVb.p.cell (j:=1) rfl
 have ia:=HVb.p.frozen 1
 go_upto_region 28 with fail
 rw[←hVc]
 clear hVc a1 ia
 obtain⟨k1,hk1⟩:=Hk1.out
 rw[←Hi1.out]at hk1
 have Hk:Hid (ks[i1]?=some k1):=hk1
 have HA:Hid (argsM kd (ks.drop i)=dotsM kd true a (ks.drop i1)):=by rw[Hi1.out];exact HA1.out
 have hi1N:i1<N:=by rw[H0.1];exact(List.getElem?_eq_some_iff.1 hk1).1
 clear hk1 Hk1
 have HIs:Hid (Calls Tryz.prog 48 #[parV g N cp i1 nd 0 pa,.string ⟨#[46,46]⟩] Vc fun e w'=>e=.returned (.bool (k1.k.isSign 46))∧Below Vc.heap.size Vc w'):=l5IsSym_core HVc.tk H0.1 hl Hk.out (toks_kind H0.2.2.2.2.2 Hk.out) nd 0 pa 46 ⟨#[46,46]⟩ (by rw[ByteArray.toList_eq];rfl)
 obtain⟨a0,a1,a2,a3,a4⟩:=HVc.p.c5
 go_wp2_with fail
 refine HIs.mono ?_
 clear HIs
 rintro e v1 ⟨rfl,hb1⟩
 have HV:Hid (AgJ w base g cp N nd pa ks i1 (⟨kd,a.txt,false,noS,a.nm,0,0⟩:Nd) v1):=HVc.up hb1
 clear hb1 a0 a1 a2 a3 a4
 cases hsg:k1.k.isSign 46
 case false=>
  have HA2:Hid (argsM kd (ks.drop i)=failF 3 (ks.drop i1)):=by
   show _=_
   rw[HA.out]
   unfold dotsM
   rw[(drop_hd Hk.out).1,if_neg (by rw[hsg];simp)]
  clear hsg
  obtain⟨cc,hcc⟩:=qE (if k1.k.isBad=true then 2 else 3:Int)
  have HFl:Hid (∀wx,Below v1.heap.size v1 wx→Calls Tryz.prog 46 #[parV g N cp (i1) nd 0 pa,.int .i64 3] wx fun e w'=>e=.returned (parV g N cp (i1) nd cc k1.pos)∧Below wx.heap.size wx w'):=fun wx hx=>by
   rw[hcc]
   exact l5Fail_core (HV.tk.below hx) H0.1 hl Hk.out nd 0 pa 3
  have HAE:Hid (argsM kd (ks.drop i)=.error (cc,k1.pos)∧1≤cc):=⟨by
   rw[HA2.out,hcc]
   unfold failF
   rw[(drop_hd Hk.out).1,(drop_hd Hk.out).2.1],by rw[hcc];split<;>decide⟩
  clear hcc
  go_upto_region 29 with fail
  have hS0:(fun w':World=>w'.cell? ⟨w.heap.size,0,none⟩=some (.slice (some ⟨g,0,none⟩) N cp)∧w'.cell? ⟨w.heap.size,1,none⟩=some (.int .i64 ((i1:Nat):Int))∧w'.cell? ⟨w.heap.size,2,none⟩=some (.int .i64 (nd:Int))∧w'.cell? ⟨w.heap.size,3,none⟩=some (.int .i64 0)∧w'.cell? ⟨w.heap.size,4,none⟩=some (.int .i64 (pa:Int))∧w'.cell? ⟨w.heap.size+3,0,none⟩=some (.int .i64 kd)∧w'.cell? ⟨w.heap.size+3,1,none⟩=some (.string a.txt)∧w'.cell? ⟨w.heap.size+3,2,none⟩=some (.bool false)∧w'.cell? ⟨w.heap.size+3,3,none⟩=some (.string ⟨#[]⟩)∧w'.cell? ⟨w.heap.size+3,4,none⟩=some (.int .u64 a.nm)∧w'.cell? ⟨w.heap.size+3,5,none⟩=some (.int .u64 0)∧w'.cell? ⟨w.heap.size+3,6,none⟩=some (.int .i64 0)) v1.drew:=⟨HV.p.cell (j:=0) rfl,HV.p.cell (j:=1) rfl,HV.p.cell (j:=2) rfl,HV.p.cell (j:=3) rfl,HV.p.cell (j:=4) rfl,HV.n.cell (j:=0) rfl,HV.n.cell (j:=1) rfl,HV.n.cell (j:=2) rfl,HV.n.cell (j:=3) rfl,HV.n.cell (j:=4) rfl,HV.n.cell (j:=5) rfl,HV.n.cell (j:=6) rfl⟩
  refine wp_region_T 99 (fun w':World=>w'.cell? ⟨w.heap.size,0,none⟩=some (.slice (some ⟨g,0,none⟩) N cp)∧w'.cell? ⟨w.heap.size,1,none⟩=some (.int .i64 ((i1:Nat):Int))∧w'.cell? ⟨w.heap.size,2,none⟩=some (.int .i64 (nd:Int))∧w'.cell? ⟨w.heap.size,3,none⟩=some (.int .i64 0)∧w'.cell? ⟨w.heap.size,4,none⟩=some (.int .i64 (pa:Int))∧w'.cell? ⟨w.heap.size+3,0,none⟩=some (.int .i64 kd)∧w'.cell? ⟨w.heap.size+3,1,none⟩=some (.string a.txt)∧w'.cell? ⟨w.heap.size+3,2,none⟩=some (.bool false)∧w'.cell? ⟨w.heap.size+3,3,none⟩=some (.string ⟨#[]⟩)∧w'.cell? ⟨w.heap.size+3,4,none⟩=some (.int .u64 a.nm)∧w'.cell? ⟨w.heap.size+3,5,none⟩=some (.int .u64 0)∧w'.cell? ⟨w.heap.size+3,6,none⟩=some (.int .i64 0)) (by kernel_rfl) ?_
  refine qT 0 ?vrsbf0 rfl ?yrsbf0 hS0 ?_
  case yrsbf0=>(intro wz hSw;obtain⟨hz0,hz1,hz2,hz3,hz4,hz5,hz6,hz7,hz8,hz9,hz10,hz11⟩:=hSw;go_simp;(try with_reducible rfl))
  try simp only[qA,List.getElem_toArray,List.getElem_cons_zero,List.getElem_cons_succ]
  refine qT 2 ?vrsbf2 rfl ?yrsbf2 hS0 ?_
  case yrsbf2=>(intro wz hSw;obtain⟨hz0,hz1,hz2,hz3,hz4,hz5,hz6,hz7,hz8,hz9,hz10,hz11⟩:=hSw;go_simp;(try with_reducible rfl))
  try simp only[qA,List.getElem_toArray,List.getElem_cons_zero,List.getElem_cons_succ]
  refine qO 1 rfl fun K hK=>?_
  go_simp
  go_at_call 46
  refine(HFl.out v1.drew (Below.refl _ _).drew).mono ?_
  rintro e w5 ⟨rfl,hb5⟩
  have HJ5:Hid (AgJ w base g cp N nd pa ks (i1) (⟨kd,a.txt,false,noS,a.nm,0,0⟩:Nd) w5):=HV.up (((Below.refl _ _).drew).trans (hb5.mono (Nat.le_refl _)))
  have hS5:(fun w':World=>w'.cell? ⟨w.heap.size,0,none⟩=some (.slice (some ⟨g,0,none⟩) N cp)∧w'.cell? ⟨w.heap.size,1,none⟩=some (.int .i64 ((i1:Nat):Int))∧w'.cell? ⟨w.heap.size,2,none⟩=some (.int .i64 (nd:Int))∧w'.cell? ⟨w.heap.size,3,none⟩=some (.int .i64 0)∧w'.cell? ⟨w.heap.size,4,none⟩=some (.int .i64 (pa:Int))∧w'.cell? ⟨w.heap.size+3,0,none⟩=some (.int .i64 kd)∧w'.cell? ⟨w.heap.size+3,1,none⟩=some (.string a.txt)∧w'.cell? ⟨w.heap.size+3,2,none⟩=some (.bool false)∧w'.cell? ⟨w.heap.size+3,3,none⟩=some (.string ⟨#[]⟩)∧w'.cell? ⟨w.heap.size+3,4,none⟩=some (.int .u64 a.nm)∧w'.cell? ⟨w.heap.size+3,5,none⟩=some (.int .u64 0)∧w'.cell? ⟨w.heap.size+3,6,none⟩=some (.int .i64 0)) w5:=⟨HJ5.p.cell (j:=0) rfl,HJ5.p.cell (j:=1) rfl,HJ5.p.cell (j:=2) rfl,HJ5.p.cell (j:=3) rfl,HJ5.p.cell (j:=4) rfl,HJ5.n.cell (j:=0) rfl,HJ5.n.cell (j:=1) rfl,HJ5.n.cell (j:=2) rfl,HJ5.n.cell (j:=3) rfl,HJ5.n.cell (j:=4) rfl,HJ5.n.cell (j:=5) rfl,HJ5.n.cell (j:=6) rfl⟩
  refine hK.out _ _ (.inr hS5) ?_
  clear hK hb5 HFl
  try simp only[qA,List.getElem_toArray,List.getElem_cons_zero,List.getElem_cons_succ]
  obtain⟨c0,c1,c2,c3,c4⟩:=HJ5.rp.c5
  have e0:=HJ5.rp.frozen 0
  have e1:=HJ5.rp.frozen 1
  have e2:=HJ5.rp.frozen 2
  have e3:=HJ5.rp.frozen 3
  have e4:=HJ5.rp.frozen 4
  obtain⟨W6,hW6⟩:∃V:World,V=setP w5 (w.heap.size+1) (.slice (some ⟨g,0,none⟩) N cp) (.int .i64 ((i1:Nat):Int)) (.int .i64 (nd:Int)) (.int .i64 cc) (.int .i64 (k1.pos:Int)):=⟨_,rfl⟩
  have hc6:Chg (fun k=>k=w.heap.size+1) w5 W6:=by rw[hW6];exact chg_setP _ _ _ _ _ _ _
  have hp6:=HJ5.p.chg hc6 (by omega)
  have hn6:=HJ5.n.chg hc6 (by omega)
  have hr6:=HJ5.rn.chg hc6 (by omega)
  have hS6:(fun w':World=>w'.cell? ⟨w.heap.size,0,none⟩=some (.slice (some ⟨g,0,none⟩) N cp)∧w'.cell? ⟨w.heap.size,1,none⟩=some (.int .i64 ((i1:Nat):Int))∧w'.cell? ⟨w.heap.size,2,none⟩=some (.int .i64 (nd:Int))∧w'.cell? ⟨w.heap.size,3,none⟩=some (.int .i64 0)∧w'.cell? ⟨w.heap.size,4,none⟩=some (.int .i64 (pa:Int))∧w'.cell? ⟨w.heap.size+3,0,none⟩=some (.int .i64 kd)∧w'.cell? ⟨w.heap.size+3,1,none⟩=some (.string a.txt)∧w'.cell? ⟨w.heap.size+3,2,none⟩=some (.bool false)∧w'.cell? ⟨w.heap.size+3,3,none⟩=some (.string ⟨#[]⟩)∧w'.cell? ⟨w.heap.size+3,4,none⟩=some (.int .u64 a.nm)∧w'.cell? ⟨w.heap.size+3,5,none⟩=some (.int .u64 0)∧w'.cell? ⟨w.heap.size+3,6,none⟩=some (.int .i64 0)) W6:=⟨hp6.cell (j:=0) rfl,hp6.cell (j:=1) rfl,hp6.cell (j:=2) rfl,hp6.cell (j:=3) rfl,hp6.cell (j:=4) rfl,hn6.cell (j:=0) rfl,hn6.cell (j:=1) rfl,hn6.cell (j:=2) rfl,hn6.cell (j:=3) rfl,hn6.cell (j:=4) rfl,hn6.cell (j:=5) rfl,hn6.cell (j:=6) rfl⟩
  obtain⟨d0,d1,d2,d3,d4,d5,d6⟩:=hr6.c7
  have f0:=hr6.frozen 0
  have f1:=hr6.frozen 1
  have f2:=hr6.frozen 2
  have f3:=hr6.frozen 3
  have f4:=hr6.frozen 4
  have f5:=hr6.frozen 5
  have f6:=hr6.frozen 6
  obtain⟨W9,hW9⟩:∃V:World,V=setN W6 (w.heap.size+2) (⟨kd,a.txt,false,noS,a.nm,0,0⟩:Nd):=⟨_,rfl⟩
  have hc9:Chg (fun k=>k=w.heap.size+2) W6 W9:=by rw[hW9];exact chg_setN _ _ _
  have hp9:=hp6.chg hc9 (by omega)
  have hn9:=hn6.chg hc9 (by omega)
  have hS9:(fun w':World=>w'.cell? ⟨w.heap.size,0,none⟩=some (.slice (some ⟨g,0,none⟩) N cp)∧w'.cell? ⟨w.heap.size,1,none⟩=some (.int .i64 ((i1:Nat):Int))∧w'.cell? ⟨w.heap.size,2,none⟩=some (.int .i64 (nd:Int))∧w'.cell? ⟨w.heap.size,3,none⟩=some (.int .i64 0)∧w'.cell? ⟨w.heap.size,4,none⟩=some (.int .i64 (pa:Int))∧w'.cell? ⟨w.heap.size+3,0,none⟩=some (.int .i64 kd)∧w'.cell? ⟨w.heap.size+3,1,none⟩=some (.string a.txt)∧w'.cell? ⟨w.heap.size+3,2,none⟩=some (.bool false)∧w'.cell? ⟨w.heap.size+3,3,none⟩=some (.string ⟨#[]⟩)∧w'.cell? ⟨w.heap.size+3,4,none⟩=some (.int .u64 a.nm)∧w'.cell? ⟨w.heap.size+3,5,none⟩=some (.int .u64 0)∧w'.cell? ⟨w.heap.size+3,6,none⟩=some (.int .i64 0)) W9:=⟨hp9.cell (j:=0) rfl,hp9.cell (j:=1) rfl,hp9.cell (j:=2) rfl,hp9.cell (j:=3) rfl,hp9.cell (j:=4) rfl,hn9.cell (j:=0) rfl,hn9.cell (j:=1) rfl,hn9.cell (j:=2) rfl,hn9.cell (j:=3) rfl,hn9.cell (j:=4) rfl,hn9.cell (j:=5) rfl,hn9.cell (j:=6) rfl⟩
  have HF:Hid (BoxAt W9 w.heap.size 41 5 (w.heap.size+1) [.slice (some ⟨g,0,none⟩) N cp,.int .i64 ((i1:Nat):Int),.int .i64 (nd:Int),.int .i64 cc,.int .i64 (k1.pos:Int)]∧BoxAt W9 w.heap.size 65 7 (w.heap.size+2) (Nd.seven (⟨kd,a.txt,false,noS,a.nm,0,0⟩:Nd))∧Below w.heap.size w W9):=by
   have hf:=HJ5.fin (.slice (some ⟨g,0,none⟩) N cp) (.int .i64 ((i1:Nat):Int)) (.int .i64 (nd:Int)) (.int .i64 cc) (.int .i64 (k1.pos:Int)) (⟨kd,a.txt,false,noS,a.nm,0,0⟩:Nd)
   rw[hW9,hW6]
   exact hf
  have HR:Hid (ArgP base g cp N nd pa ks kd i w (.returned (.tuple #[parV g N cp (i1) nd cc k1.pos,Nd.v (⟨kd,a.txt,false,noS,a.nm,0,0⟩:Nd)])) W9):=⟨HF.2.2,.inr ⟨cc,k1.pos,i1,(⟨kd,a.txt,false,noS,a.nm,0,0⟩:Nd),HAE.1,HAE.2,rfl⟩⟩
  obtain⟨p0,p1,p2,p3,p4⟩:=HF.1.c5
  obtain⟨q0,q1,q2,q3,q4,q5,q6⟩:=HF.2.1.c7
  unfold setP at hW6
  unfold setN at hW9
  clear hp6 hn6 hr6 hp9 hn9 hc6 hc9
  simp only[leafN,patN,cntN,noS]at hW9 q0 q1 q2 q3 q4 q5 q6
  refine qO 3 rfl fun K hK=>?_
  go_simp
  rw[←hW6]
  refine hK.out _ _ (.inr hS6) ?_
  clear hK hW6
  try simp only[qA,List.getElem_toArray,List.getElem_cons_zero,List.getElem_cons_succ]
  refine qO 4 rfl fun K hK=>?_
  go_simp
  rw[←hW9]
  refine hK.out _ _ (.inr hS9) ?_
  clear hK hW9
  try simp only[qA,List.getElem_toArray,List.getElem_cons_zero,List.getElem_cons_succ]
  refine qD ?_
  clear hS0 hS5 hS6 hS9 c0 c1 c2 c3 c4 d0 d1 d2 d3 d4 d5 d6 e0 e1 e2 e3 e4 f0 f1 f2 f3 f4 f5 f6
  go_wp2_with fail
  exact bodyPost_ret (v:=.tuple #[parV g N cp (i1) nd cc k1.pos,Nd.v (⟨kd,a.txt,false,noS,a.nm,0,0⟩:Nd)]) (by simp[results,Tryz.results49,go_sem,p0,p1,p2,p3,p4,q0,q1,q2,q3,q4,q5,q6,leafN,patN,cntN,noS]) rfl HR.out
 have Hk2:Hid (∃k2,ks[i1+1]?=some k2):=(toks_next H0.2.2.2.2.2 Hk.out (by rw[TkK.isSign_eq hsg];intro q;cases q) (by rw[TkK.isSign_eq hsg];intro q;cases q)).2
 have HA2:Hid (argsM kd (ks.drop i)=upM kd true a (ks.drop (i1+1))):=by
  show _=_
  rw[HA.out]
  unfold dotsM
  rw[(drop_hd Hk.out).1,if_pos hsg,(drop_hd Hk.out).2.2]
 clear hsg
 obtain⟨V2,hV2⟩:∃V:World,V=v1.setCell ⟨w.heap.size,1,none⟩ (.int .i64 ((i1:Int)+1)):=⟨_,rfl⟩
 obtain⟨i2,hi2⟩:∃ix,ix=i1+1:=⟨_,rfl⟩
 have HJ2:Hid (AgJ w base g cp N nd pa ks i2 (⟨kd,a.txt,false,noS,a.nm,0,0⟩:Nd) V2):=by rw[hV2,hi2];exact HV.stepI _ (by simp)
 have Hi2:Hid (i2=i1+1):=hi2
 have hilei2:i1≤i2:=by omega
 clear hi2
 have a1:=HV.p.cell (j:=1) rfl
 have ia:=HV.p.frozen 1
 go_upto_region 31 with fail
 rw[←hV2]
 clear hV2 a1 ia
 obtain⟨k2,hk2⟩:=Hk2.out
 rw[←Hi2.out]at hk2
 have HK2:Hid (ks[i2]?=some k2):=hk2
 have hi2N:i2<N:=by rw[H0.1];exact(List.getElem?_eq_some_iff.1 hk2).1
 have zi2:(i2:Int)<(N:Int):=by omega
 clear hk2 Hk2
 obtain⟨t0,t1,t2,t3⟩:=tk_cells HJ2.tk HK2.out
 have zs:=sort_tk k2.k true
 have zs':(tkN k2.k==3)=k2.k.isSort true:=zs
 clear zs t3
 obtain⟨a0,a1⟩:=HJ2.p.c2
 have HA3:Hid (argsM kd (ks.drop i)=upM kd true a (ks.drop i2)):=by rw[Hi2.out];exact HA2.out
 cases hso:k2.k.isSort true
 case false=>
  rw[hso]at zs'
  have HA4:Hid (argsM kd (ks.drop i)=.ok (ks.drop i2,(⟨kd,a.txt,false,noS,a.nm,0,0⟩:Nd))):=by
   show _=_
   rw[HA3.out]
   unfold upM
   rw[(drop_hd HK2.out).1,if_neg (by rw[hso];simp)]
  clear hso t1 t2
  go_upto_region 38 with fail
  clear t0 zs' a0 a1
  obtain⟨a0,a1,a2,a3,a4⟩:=HJ2.p.c5
  obtain⟨b0,b1,b2,b3,b4,b5,b6⟩:=HJ2.n.c7
  obtain⟨c0,c1,c2,c3,c4⟩:=HJ2.rp.c5
  obtain⟨d0,d1,d2,d3,d4,d5,d6⟩:=HJ2.rn.c7
  have e0:=HJ2.rp.frozen 0
  have e1:=HJ2.rp.frozen 1
  have e2:=HJ2.rp.frozen 2
  have e3:=HJ2.rp.frozen 3
  have e4:=HJ2.rp.frozen 4
  have f0:=HJ2.rn.frozen 0
  have f1:=HJ2.rn.frozen 1
  have f2:=HJ2.rn.frozen 2
  have f3:=HJ2.rn.frozen 3
  have f4:=HJ2.rn.frozen 4
  have f5:=HJ2.rn.frozen 5
  have f6:=HJ2.rn.frozen 6
  obtain⟨W9,hW9⟩:∃V:World,V=(setN (setP V2 (w.heap.size+1) (.slice (some ⟨g,0,none⟩) N cp) (.int .i64 (i2:Int)) (.int .i64 (nd:Int)) (.int .i64 0) (.int .i64 (pa:Int))) (w.heap.size+2) (⟨kd,a.txt,false,noS,a.nm,0,0⟩:Nd)).drew:=⟨_,rfl⟩
  have HF:Hid (BoxAt W9 w.heap.size 41 5 (w.heap.size+1) [.slice (some ⟨g,0,none⟩) N cp,.int .i64 (i2:Int),.int .i64 (nd:Int),.int .i64 0,.int .i64 (pa:Int)]∧BoxAt W9 w.heap.size 65 7 (w.heap.size+2) (Nd.seven (⟨kd,a.txt,false,noS,a.nm,0,0⟩:Nd))∧Below w.heap.size w W9):=by
   have hf:=HJ2.fin (.slice (some ⟨g,0,none⟩) N cp) (.int .i64 (i2:Int)) (.int .i64 (nd:Int)) (.int .i64 0) (.int .i64 (pa:Int)) (⟨kd,a.txt,false,noS,a.nm,0,0⟩:Nd)
   have hd:∀X:World,Below X.heap.size X X.drew:=fun X=>(Below.refl _ _).drew
   rw[hW9]
   exact⟨hf.1.below (hd _),hf.2.1.below (hd _),hf.2.2.trans ((hd _).mono hf.2.2.size)⟩
  have HR:Hid (ArgP base g cp N nd pa ks kd i w (.returned (.tuple #[parV g N cp (i2) nd 0 pa,Nd.v (⟨kd,a.txt,false,noS,a.nm,0,0⟩:Nd)])) W9):=⟨HF.2.2,.inl ⟨i2,(⟨kd,a.txt,false,noS,a.nm,0,0⟩:Nd),HA4.out,by omega,by omega,rfl⟩⟩
  obtain⟨p0,p1,p2,p3,p4⟩:=HF.1.c5
  obtain⟨q0,q1,q2,q3,q4,q5,q6⟩:=HF.2.1.c7
  unfold setN setP at hW9
  simp only[leafN,patN,cntN,noS]at hW9 b0 b1 b2 b3 b4 b5 b6 q0 q1 q2 q3 q4 q5 q6
  go_region
  rw[←hW9]
  clear hW9 a0 a1 a2 a3 a4 b0 b1 b2 b3 b4 b5 b6 c0 c1 c2 c3 c4 d0 d1 d2 d3 d4 d5 d6 e0 e1 e2 e3 e4 f0 f1 f2 f3 f4 f5 f6
  go_wp2_with fail
  exact bodyPost_ret (v:=.tuple #[parV g N cp (i2) nd 0 pa,Nd.v (⟨kd,a.txt,false,noS,a.nm,0,0⟩:Nd)]) (by simp[results,Tryz.results49,go_sem,p0,p1,p2,p3,p4,q0,q1,q2,q3,q4,q5,q6,leafN,patN,cntN,noS]) rfl HR.out
 obtain⟨htx,hnf,hnb,hz1,hz2⟩:=sort_txt hso
 have Hk3:Hid (∃k3,ks[i2+1]?=some k3):=(toks_next H0.2.2.2.2.2 HK2.out hnf hnb).2
 have HA4:Hid (argsM kd (ks.drop i)=if less a.txt k2.k.txt∨a.nm<k2.k.nm then .ok (ks.drop (i2+1),(⟨kd,a.txt,true,k2.k.txt,a.nm,k2.k.nm,0⟩:Nd))else failF 7 (ks.drop i2)):=by
  show _=_
  rw[HA3.out]
  unfold upM
  rw[(drop_hd HK2.out).1,if_pos hso,(drop_hd HK2.out).2.2]
 have HTx:Hid (tkT k2.k=k2.k.txt):=htx
 have HZ:Hid (a.nm=0∧k2.k.nm=0):=⟨Hz.out,hz1 rfl⟩
 rw[htx]at t2
 rw[hso]at zs'
 clear htx hnf hnb hz1 hz2 hso
 have hi3N:i2+1<N:=by
  obtain⟨k3,hk3⟩:=Hk3.out
  rw[H0.1];exact(List.getElem?_eq_some_iff.1 hk3).1
 obtain⟨V3,hV3⟩:∃V:World,V=V2.setCell ⟨w.heap.size+3,2,none⟩ (.bool true):=⟨_,rfl⟩
 have HJ3:Hid (AgJ w base g cp N nd pa ks i2 (⟨kd,a.txt,true,noS,a.nm,0,0⟩:Nd) V3):=by rw[hV3];exact HJ2.stepN 2 _ rfl
 have n2:=HJ2.n.cell (j:=2) rfl
 have m2:=HJ2.n.frozen 2
 go_upto_region 33 with fail
 rw[←hV3]
 clear hV3 n2 m2 a0 a1 t0 t1 t2 zs'
 obtain⟨t0,t1,t2,t3⟩:=tk_cells HJ3.tk HK2.out
 have zs:tkT k2.k=k2.k.txt:=HTx.out
 rw[zs]at t2
 clear zs
 obtain⟨a0,a1⟩:=HJ3.p.c2
 obtain⟨V4,hV4⟩:∃V:World,V=V3.setCell ⟨w.heap.size+3,3,none⟩ (.string k2.k.txt):=⟨_,rfl⟩
 have HJ4:Hid (AgJ w base g cp N nd pa ks i2 (⟨kd,a.txt,true,k2.k.txt,a.nm,0,0⟩:Nd) V4):=by rw[hV4];exact HJ3.stepN 3 _ rfl
 have n3:=HJ3.n.cell (j:=3) rfl
 have m3:=HJ3.n.frozen 3
 go_upto_region 34 with fail
 rw[←hV4]
 clear hV4 n3 m3 a0 a1 t0 t1 t2 t3
 obtain⟨t0,t1,t2,t3⟩:=tk_cells HJ4.tk HK2.out
 obtain⟨a0,a1⟩:=HJ4.p.c2
 obtain⟨V5,hV5⟩:∃V:World,V=V4.setCell ⟨w.heap.size+3,5,none⟩ (.int .u64 k2.k.nm):=⟨_,rfl⟩
 have HJ5x:Hid (AgJ w base g cp N nd pa ks i2 (⟨kd,a.txt,true,k2.k.txt,a.nm,k2.k.nm,0⟩:Nd) V5):=by rw[hV5];exact HJ4.stepN 5 _ rfl
 have n5:=HJ4.n.cell (j:=5) rfl
 have m5:=HJ4.n.frozen 5
 go_upto_region 35 with fail
 rw[←hV5]
 clear hV5 n5 m5 a0 a1 t0 t1 t2 t3
 have g1:=HJ5x.n.cell (j:=1) rfl
 have g3:=HJ5x.n.cell (j:=3) rfl
 by_cases hls:less a.txt k2.k.txt
 case neg=>
  have hbl:Op.bytesLess a.txt.toList k2.k.txt.toList=false:=by unfold less at hls;simpa using hls
  have HA5:Hid (argsM kd (ks.drop i)=failF 7 (ks.drop i2)):=by
   show _=_
   rw[HA4.out,if_neg (by rw[HZ.1,HZ.2];intro q;rcases q with q|q
                         ·exact hls q
                         ·omega)]
  clear hls
  obtain⟨cc,hcc⟩:=qE (if k2.k.isBad=true then 2 else 7:Int)
  have HFl:Hid (∀wx,Below V5.heap.size V5 wx→Calls Tryz.prog 46 #[parV g N cp (i2) nd 0 pa,.int .i64 7] wx fun e w'=>e=.returned (parV g N cp (i2) nd cc k2.pos)∧Below wx.heap.size wx w'):=fun wx hx=>by
   rw[hcc]
   exact l5Fail_core (HJ5x.tk.below hx) H0.1 hl HK2.out nd 0 pa 7
  have HAE:Hid (argsM kd (ks.drop i)=.error (cc,k2.pos)∧1≤cc):=⟨by
   rw[HA5.out,hcc]
   unfold failF
   rw[(drop_hd HK2.out).1,(drop_hd HK2.out).2.1],by rw[hcc];split<;>decide⟩
  clear hcc
  go_upto_region 36 with fail
  have hS0:(fun w':World=>w'.cell? ⟨w.heap.size,0,none⟩=some (.slice (some ⟨g,0,none⟩) N cp)∧w'.cell? ⟨w.heap.size,1,none⟩=some (.int .i64 ((i2:Nat):Int))∧w'.cell? ⟨w.heap.size,2,none⟩=some (.int .i64 (nd:Int))∧w'.cell? ⟨w.heap.size,3,none⟩=some (.int .i64 0)∧w'.cell? ⟨w.heap.size,4,none⟩=some (.int .i64 (pa:Int))∧w'.cell? ⟨w.heap.size+3,0,none⟩=some (.int .i64 kd)∧w'.cell? ⟨w.heap.size+3,1,none⟩=some (.string a.txt)∧w'.cell? ⟨w.heap.size+3,2,none⟩=some (.bool true)∧w'.cell? ⟨w.heap.size+3,3,none⟩=some (.string k2.k.txt)∧w'.cell? ⟨w.heap.size+3,4,none⟩=some (.int .u64 a.nm)∧w'.cell? ⟨w.heap.size+3,5,none⟩=some (.int .u64 k2.k.nm)∧w'.cell? ⟨w.heap.size+3,6,none⟩=some (.int .i64 0)) V5.drew:=⟨HJ5x.p.cell (j:=0) rfl,HJ5x.p.cell (j:=1) rfl,HJ5x.p.cell (j:=2) rfl,HJ5x.p.cell (j:=3) rfl,HJ5x.p.cell (j:=4) rfl,HJ5x.n.cell (j:=0) rfl,HJ5x.n.cell (j:=1) rfl,HJ5x.n.cell (j:=2) rfl,HJ5x.n.cell (j:=3) rfl,HJ5x.n.cell (j:=4) rfl,HJ5x.n.cell (j:=5) rfl,HJ5x.n.cell (j:=6) rfl⟩
  refine wp_region_T 99 (fun w':World=>w'.cell? ⟨w.heap.size,0,none⟩=some (.slice (some ⟨g,0,none⟩) N cp)∧w'.cell? ⟨w.heap.size,1,none⟩=some (.int .i64 ((i2:Nat):Int))∧w'.cell? ⟨w.heap.size,2,none⟩=some (.int .i64 (nd:Int))∧w'.cell? ⟨w.heap.size,3,none⟩=some (.int .i64 0)∧w'.cell? ⟨w.heap.size,4,none⟩=some (.int .i64 (pa:Int))∧w'.cell? ⟨w.heap.size+3,0,none⟩=some (.int .i64 kd)∧w'.cell? ⟨w.heap.size+3,1,none⟩=some (.string a.txt)∧w'.cell? ⟨w.heap.size+3,2,none⟩=some (.bool true)∧w'.cell? ⟨w.heap.size+3,3,none⟩=some (.string k2.k.txt)∧w'.cell? ⟨w.heap.size+3,4,none⟩=some (.int .u64 a.nm)∧w'.cell? ⟨w.heap.size+3,5,none⟩=some (.int .u64 k2.k.nm)∧w'.cell? ⟨w.heap.size+3,6,none⟩=some (.int .i64 0)) (by kernel_rfl) ?_
  refine qT 0 ?vrsbg0 rfl ?yrsbg0 hS0 ?_
  case yrsbg0=>(intro wz hSw;obtain⟨hz0,hz1,hz2,hz3,hz4,hz5,hz6,hz7,hz8,hz9,hz10,hz11⟩:=hSw;go_simp;(try with_reducible rfl))
  try simp only[qA,List.getElem_toArray,List.getElem_cons_zero,List.getElem_cons_succ]
  refine qT 2 ?vrsbg2 rfl ?yrsbg2 hS0 ?_
  case yrsbg2=>(intro wz hSw;obtain⟨hz0,hz1,hz2,hz3,hz4,hz5,hz6,hz7,hz8,hz9,hz10,hz11⟩:=hSw;go_simp;(try with_reducible rfl))
  try simp only[qA,List.getElem_toArray,List.getElem_cons_zero,List.getElem_cons_succ]
  refine qO 1 rfl fun K hK=>?_
  go_simp
  go_at_call 46
  refine(HFl.out V5.drew (Below.refl _ _).drew).mono ?_
  rintro e w5 ⟨rfl,hb5⟩
  have HJ5:Hid (AgJ w base g cp N nd pa ks (i2) (⟨kd,a.txt,true,k2.k.txt,a.nm,k2.k.nm,0⟩:Nd) w5):=HJ5x.up (((Below.refl _ _).drew).trans (hb5.mono (Nat.le_refl _)))
  have hS5:(fun w':World=>w'.cell? ⟨w.heap.size,0,none⟩=some (.slice (some ⟨g,0,none⟩) N cp)∧w'.cell? ⟨w.heap.size,1,none⟩=some (.int .i64 ((i2:Nat):Int))∧w'.cell? ⟨w.heap.size,2,none⟩=some (.int .i64 (nd:Int))∧w'.cell? ⟨w.heap.size,3,none⟩=some (.int .i64 0)∧w'.cell? ⟨w.heap.size,4,none⟩=some (.int .i64 (pa:Int))∧w'.cell? ⟨w.heap.size+3,0,none⟩=some (.int .i64 kd)∧w'.cell? ⟨w.heap.size+3,1,none⟩=some (.string a.txt)∧w'.cell? ⟨w.heap.size+3,2,none⟩=some (.bool true)∧w'.cell? ⟨w.heap.size+3,3,none⟩=some (.string k2.k.txt)∧w'.cell? ⟨w.heap.size+3,4,none⟩=some (.int .u64 a.nm)∧w'.cell? ⟨w.heap.size+3,5,none⟩=some (.int .u64 k2.k.nm)∧w'.cell? ⟨w.heap.size+3,6,none⟩=some (.int .i64 0)) w5:=⟨HJ5.p.cell (j:=0) rfl,HJ5.p.cell (j:=1) rfl,HJ5.p.cell (j:=2) rfl,HJ5.p.cell (j:=3) rfl,HJ5.p.cell (j:=4) rfl,HJ5.n.cell (j:=0) rfl,HJ5.n.cell (j:=1) rfl,HJ5.n.cell (j:=2) rfl,HJ5.n.cell (j:=3) rfl,HJ5.n.cell (j:=4) rfl,HJ5.n.cell (j:=5) rfl,HJ5.n.cell (j:=6) rfl⟩
  refine hK.out _ _ (.inr hS5) ?_
  clear hK hb5 HFl
  try simp only[qA,List.getElem_toArray,List.getElem_cons_zero,List.getElem_cons_succ]
  obtain⟨c0,c1,c2,c3,c4⟩:=HJ5.rp.c5
  have e0:=HJ5.rp.frozen 0
  have e1:=HJ5.rp.frozen 1
  have e2:=HJ5.rp.frozen 2
  have e3:=HJ5.rp.frozen 3
  have e4:=HJ5.rp.frozen 4
  obtain⟨W6,hW6⟩:∃V:World,V=setP w5 (w.heap.size+1) (.slice (some ⟨g,0,none⟩) N cp) (.int .i64 ((i2:Nat):Int)) (.int .i64 (nd:Int)) (.int .i64 cc) (.int .i64 (k2.pos:Int)):=⟨_,rfl⟩
  have hc6:Chg (fun k=>k=w.heap.size+1) w5 W6:=by rw[hW6];exact chg_setP _ _ _ _ _ _ _
  have hp6:=HJ5.p.chg hc6 (by omega)
  have hn6:=HJ5.n.chg hc6 (by omega)
  have hr6:=HJ5.rn.chg hc6 (by omega)
  have hS6:(fun w':World=>w'.cell? ⟨w.heap.size,0,none⟩=some (.slice (some ⟨g,0,none⟩) N cp)∧w'.cell? ⟨w.heap.size,1,none⟩=some (.int .i64 ((i2:Nat):Int))∧w'.cell? ⟨w.heap.size,2,none⟩=some (.int .i64 (nd:Int))∧w'.cell? ⟨w.heap.size,3,none⟩=some (.int .i64 0)∧w'.cell? ⟨w.heap.size,4,none⟩=some (.int .i64 (pa:Int))∧w'.cell? ⟨w.heap.size+3,0,none⟩=some (.int .i64 kd)∧w'.cell? ⟨w.heap.size+3,1,none⟩=some (.string a.txt)∧w'.cell? ⟨w.heap.size+3,2,none⟩=some (.bool true)∧w'.cell? ⟨w.heap.size+3,3,none⟩=some (.string k2.k.txt)∧w'.cell? ⟨w.heap.size+3,4,none⟩=some (.int .u64 a.nm)∧w'.cell? ⟨w.heap.size+3,5,none⟩=some (.int .u64 k2.k.nm)∧w'.cell? ⟨w.heap.size+3,6,none⟩=some (.int .i64 0)) W6:=⟨hp6.cell (j:=0) rfl,hp6.cell (j:=1) rfl,hp6.cell (j:=2) rfl,hp6.cell (j:=3) rfl,hp6.cell (j:=4) rfl,hn6.cell (j:=0) rfl,hn6.cell (j:=1) rfl,hn6.cell (j:=2) rfl,hn6.cell (j:=3) rfl,hn6.cell (j:=4) rfl,hn6.cell (j:=5) rfl,hn6.cell (j:=6) rfl⟩
  obtain⟨d0,d1,d2,d3,d4,d5,d6⟩:=hr6.c7
  have f0:=hr6.frozen 0
  have f1:=hr6.frozen 1
  have f2:=hr6.frozen 2
  have f3:=hr6.frozen 3
  have f4:=hr6.frozen 4
  have f5:=hr6.frozen 5
  have f6:=hr6.frozen 6
  obtain⟨W9,hW9⟩:∃V:World,V=setN W6 (w.heap.size+2) (⟨kd,a.txt,true,k2.k.txt,a.nm,k2.k.nm,0⟩:Nd):=⟨_,rfl⟩
  have hc9:Chg (fun k=>k=w.heap.size+2) W6 W9:=by rw[hW9];exact chg_setN _ _ _
  have hp9:=hp6.chg hc9 (by omega)
  have hn9:=hn6.chg hc9 (by omega)
  have hS9:(fun w':World=>w'.cell? ⟨w.heap.size,0,none⟩=some (.slice (some ⟨g,0,none⟩) N cp)∧w'.cell? ⟨w.heap.size,1,none⟩=some (.int .i64 ((i2:Nat):Int))∧w'.cell? ⟨w.heap.size,2,none⟩=some (.int .i64 (nd:Int))∧w'.cell? ⟨w.heap.size,3,none⟩=some (.int .i64 0)∧w'.cell? ⟨w.heap.size,4,none⟩=some (.int .i64 (pa:Int))∧w'.cell? ⟨w.heap.size+3,0,none⟩=some (.int .i64 kd)∧w'.cell? ⟨w.heap.size+3,1,none⟩=some (.string a.txt)∧w'.cell? ⟨w.heap.size+3,2,none⟩=some (.bool true)∧w'.cell? ⟨w.heap.size+3,3,none⟩=some (.string k2.k.txt)∧w'.cell? ⟨w.heap.size+3,4,none⟩=some (.int .u64 a.nm)∧w'.cell? ⟨w.heap.size+3,5,none⟩=some (.int .u64 k2.k.nm)∧w'.cell? ⟨w.heap.size+3,6,none⟩=some (.int .i64 0)) W9:=⟨hp9.cell (j:=0) rfl,hp9.cell (j:=1) rfl,hp9.cell (j:=2) rfl,hp9.cell (j:=3) rfl,hp9.cell (j:=4) rfl,hn9.cell (j:=0) rfl,hn9.cell (j:=1) rfl,hn9.cell (j:=2) rfl,hn9.cell (j:=3) rfl,hn9.cell (j:=4) rfl,hn9.cell (j:=5) rfl,hn9.cell (j:=6) rfl⟩
  have HF:Hid (BoxAt W9 w.heap.size 41 5 (w.heap.size+1) [.slice (some ⟨g,0,none⟩) N cp,.int .i64 ((i2:Nat):Int),.int .i64 (nd:Int),.int .i64 cc,.int .i64 (k2.pos:Int)]∧BoxAt W9 w.heap.size 65 7 (w.heap.size+2) (Nd.seven (⟨kd,a.txt,true,k2.k.txt,a.nm,k2.k.nm,0⟩:Nd))∧Below w.heap.size w W9):=by
   have hf:=HJ5.fin (.slice (some ⟨g,0,none⟩) N cp) (.int .i64 ((i2:Nat):Int)) (.int .i64 (nd:Int)) (.int .i64 cc) (.int .i64 (k2.pos:Int)) (⟨kd,a.txt,true,k2.k.txt,a.nm,k2.k.nm,0⟩:Nd)
   rw[hW9,hW6]
   exact hf
  have HR:Hid (ArgP base g cp N nd pa ks kd i w (.returned (.tuple #[parV g N cp (i2) nd cc k2.pos,Nd.v (⟨kd,a.txt,true,k2.k.txt,a.nm,k2.k.nm,0⟩:Nd)])) W9):=⟨HF.2.2,.inr ⟨cc,k2.pos,i2,(⟨kd,a.txt,true,k2.k.txt,a.nm,k2.k.nm,0⟩:Nd),HAE.1,HAE.2,rfl⟩⟩
  obtain⟨p0,p1,p2,p3,p4⟩:=HF.1.c5
  obtain⟨q0,q1,q2,q3,q4,q5,q6⟩:=HF.2.1.c7
  unfold setP at hW6
  unfold setN at hW9
  clear hp6 hn6 hr6 hp9 hn9 hc6 hc9
  simp only[leafN,patN,cntN,noS]at hW9 q0 q1 q2 q3 q4 q5 q6
  refine qO 3 rfl fun K hK=>?_
  go_simp
  rw[←hW6]
  refine hK.out _ _ (.inr hS6) ?_
  clear hK hW6
  try simp only[qA,List.getElem_toArray,List.getElem_cons_zero,List.getElem_cons_succ]
  refine qO 4 rfl fun K hK=>?_
  go_simp
  rw[←hW9]
  refine hK.out _ _ (.inr hS9) ?_
  clear hK hW9
  try simp only[qA,List.getElem_toArray,List.getElem_cons_zero,List.getElem_cons_succ]
  refine qD ?_
  clear hS0 hS5 hS6 hS9 c0 c1 c2 c3 c4 d0 d1 d2 d3 d4 d5 d6 e0 e1 e2 e3 e4 f0 f1 f2 f3 f4 f5 f6
  go_wp2_with fail
  exact bodyPost_ret (v:=.tuple #[parV g N cp (i2) nd cc k2.pos,Nd.v (⟨kd,a.txt,true,k2.k.txt,a.nm,k2.k.nm,0⟩:Nd)]) (by simp[results,Tryz.results49,go_sem,p0,p1,p2,p3,p4,q0,q1,q2,q3,q4,q5,q6,leafN,patN,cntN,noS]) rfl HR.out
 have hbl:Op.bytesLess a.txt.toList k2.k.txt.toList=true:=hls
 have HA5:Hid (argsM kd (ks.drop i)=.ok (ks.drop (i2+1),(⟨kd,a.txt,true,k2.k.txt,a.nm,k2.k.nm,0⟩:Nd))):=by
  show _=_
  rw[HA4.out,if_pos (.inl hls)]
 clear hls
 obtain⟨V6,hV6⟩:∃V:World,V=V5.setCell ⟨w.heap.size,1,none⟩ (.int .i64 ((i2:Int)+1)):=⟨_,rfl⟩
 obtain⟨i3,hi3⟩:∃ix,ix=i2+1:=⟨_,rfl⟩
 have HJ6:Hid (AgJ w base g cp N nd pa ks i3 (⟨kd,a.txt,true,k2.k.txt,a.nm,k2.k.nm,0⟩:Nd) V6):=by rw[hV6,hi3];exact HJ5x.stepI _ (by simp)
 have Hi3:Hid (i3=i2+1):=hi3
 have hilei3:i2≤i3:=by omega
 clear hi3
 have a1:=HJ5x.p.cell (j:=1) rfl
 have ia:=HJ5x.p.frozen 1
 go_upto_region 38 with fail
 rw[←hV6]
 have hi3:i3<N:=by rw[Hi3.out];exact hi3N
 clear hV6 a1 ia hbl
 obtain⟨a0,a1,a2,a3,a4⟩:=HJ6.p.c5
 obtain⟨b0,b1,b2,b3,b4,b5,b6⟩:=HJ6.n.c7
 obtain⟨c0,c1,c2,c3,c4⟩:=HJ6.rp.c5
 obtain⟨d0,d1,d2,d3,d4,d5,d6⟩:=HJ6.rn.c7
 have e0:=HJ6.rp.frozen 0
 have e1:=HJ6.rp.frozen 1
 have e2:=HJ6.rp.frozen 2
 have e3:=HJ6.rp.frozen 3
 have e4:=HJ6.rp.frozen 4
 have f0:=HJ6.rn.frozen 0
 have f1:=HJ6.rn.frozen 1
 have f2:=HJ6.rn.frozen 2
 have f3:=HJ6.rn.frozen 3
 have f4:=HJ6.rn.frozen 4
 have f5:=HJ6.rn.frozen 5
 have f6:=HJ6.rn.frozen 6
 obtain⟨W9,hW9⟩:∃V:World,V=(setN (setP V6 (w.heap.size+1) (.slice (some ⟨g,0,none⟩) N cp) (.int .i64 (i3:Int)) (.int .i64 (nd:Int)) (.int .i64 0) (.int .i64 (pa:Int))) (w.heap.size+2) (⟨kd,a.txt,true,k2.k.txt,a.nm,k2.k.nm,0⟩:Nd)).drew:=⟨_,rfl⟩
 have HF:Hid (BoxAt W9 w.heap.size 41 5 (w.heap.size+1) [.slice (some ⟨g,0,none⟩) N cp,.int .i64 (i3:Int),.int .i64 (nd:Int),.int .i64 0,.int .i64 (pa:Int)]∧BoxAt W9 w.heap.size 65 7 (w.heap.size+2) (Nd.seven (⟨kd,a.txt,true,k2.k.txt,a.nm,k2.k.nm,0⟩:Nd))∧Below w.heap.size w W9):=by
  have hf:=HJ6.fin (.slice (some ⟨g,0,none⟩) N cp) (.int .i64 (i3:Int)) (.int .i64 (nd:Int)) (.int .i64 0) (.int .i64 (pa:Int)) (⟨kd,a.txt,true,k2.k.txt,a.nm,k2.k.nm,0⟩:Nd)
  have hd:∀X:World,Below X.heap.size X X.drew:=fun X=>(Below.refl _ _).drew
  rw[hW9]
  exact⟨hf.1.below (hd _),hf.2.1.below (hd _),hf.2.2.trans ((hd _).mono hf.2.2.size)⟩
 have HR:Hid (ArgP base g cp N nd pa ks kd i w (.returned (.tuple #[parV g N cp (i3) nd 0 pa,Nd.v (⟨kd,a.txt,true,k2.k.txt,a.nm,k2.k.nm,0⟩:Nd)])) W9):=⟨HF.2.2,.inl ⟨i3,(⟨kd,a.txt,true,k2.k.txt,a.nm,k2.k.nm,0⟩:Nd),by rw[Hi3.out];exact HA5.out,by omega,by omega,rfl⟩⟩
 obtain⟨p0,p1,p2,p3,p4⟩:=HF.1.c5
 obtain⟨q0,q1,q2,q3,q4,q5,q6⟩:=HF.2.1.c7
 unfold setN setP at hW9
 simp only[leafN,patN,cntN,noS]at hW9 b0 b1 b2 b3 b4 b5 b6 q0 q1 q2 q3 q4 q5 q6
 go_region
 rw[←hW9]
 clear hW9 a0 a1 a2 a3 a4 b0 b1 b2 b3 b4 b5 b6 c0 c1 c2 c3 c4 d0 d1 d2 d3 d4 d5 d6 e0 e1 e2 e3 e4 f0 f1 f2 f3 f4 f5 f6
 go_wp2_with fail
 exact bodyPost_ret (v:=.tuple #[parV g N cp (i3) nd 0 pa,Nd.v (⟨kd,a.txt,true,k2.k.txt,a.nm,k2.k.nm,0⟩:Nd)]) (by simp[results,Tryz.results49,go_sem,p0,p1,p2,p3,p4,q0,q1,q2,q3,q4,q5,q6,leafN,patN,cntN,noS]) rfl HR.out
set_option maxHeartbeats 16000000 in
theorem args_rn {w:World} {base g cp N nd pa:Nat} {ks:List Tk} {i:Nat} {k:Tk} (h:OwnTk w base g cp ks) (hN:N=ks.length) (hl:N≤1000000) (hk:ks[i]?=some k) (hT:Toks ks) (kd:Int) (hkd:kd=10):Calls Tryz.prog 49 #[parV g N cp i nd 0 pa,.int .i64 kd] w (ArgP base g cp N nd pa ks kd i w):=by
 have HAr:Hid (argsM kd (ks.drop i)=rangeM kd false (ks.drop i)):=by
  show _=_
  unfold argsM
  rw[if_neg (by omega),if_neg (by omega),if_neg (by omega),if_pos (by omega)]
 have y1:¬kd≤3:=by omega
 have y2:¬kd≤7:=by omega
 have y3:¬11≤kd:=by omega
 have HKd:Hid (kd=10):=hkd
 clear hkd
 obtain⟨W0,hW0⟩:=qE ((((w.alloc (Obj.cells #[.slice (some ⟨g,0,none⟩) N cp,.int .i64 (i:Int),.int .i64 (nd:Int),.int .i64 0,.int .i64 (pa:Int)] 41)).alloc (Obj.cells #[.slice none 0 0,.int .i64 0,.int .i64 0,.int .i64 0,.int .i64 0] 41)).alloc (Obj.cells #[.int .i64 0,.string ⟨#[]⟩,.bool false,.string ⟨#[]⟩,.int .u64 0,.int .u64 0,.int .i64 0] 65)).alloc (Obj.cells #[.int .i64 kd,.string ⟨#[]⟩,.bool false,.string ⟨#[]⟩,.int .u64 0,.int .u64 0,.int .i64 0] 65):World)
 have HJ0:Hid (AgJ w base g cp N nd pa ks i (leafN kd) W0):=ag_start kd h hW0
 have hi:i<N:=by rw[hN];exact(List.getElem?_eq_some_iff.1 hk).1
 have zi:(i:Int)<(N:Int):=by omega
 have H0:Hid (N=ks.length∧ks[i]?=some k∧hdK (ks.drop i)=k.k∧hdA (ks.drop i)=k.pos∧(ks.drop i).tail=ks.drop (i+1)∧Toks ks):=⟨hN,hk,(drop_hd hk).1,(drop_hd hk).2.1,(drop_hd hk).2.2,hT⟩
 have hgl:=h.lt.2
 clear h hN hk hT
 go_enter Tryz.func49,Tryz.ntmps49
 go_upto_region 2 with fail
 rw[←hW0]
 clear hW0
 obtain⟨b0,b1,b2,b3,b4,b5,b6⟩:=HJ0.n.c7
 simp only[leafN,noS]at b0 b1 b2 b3 b4 b5 b6
 go_wp2_with fail
 refine(l5Ends_no kd ⟨#[]⟩ ⟨#[]⟩ false 0 0 0 W0 HKd.out).mono ?_
 rintro e v0 ⟨rfl,hb0⟩
 have HV0:Hid (AgJ w base g cp N nd pa ks i (leafN kd) v0):=HJ0.up hb0
 clear hb0 b0 b1 b2 b3 b4 b5 b6
 go_upto_region 24 with fail
 clear y1 y2 y3
 obtain⟨t0,t1,t2,t3⟩:=tk_cells HV0.tk H0.2.1
 have zs:=sort_tk k.k false
 have zs':(tkN k.k==2)=k.k.isSort false:=zs
 clear zs t3
 obtain⟨a0,a1⟩:=HV0.p.c2
 cases hso:k.k.isSort false
 case false=>
  rw[hso]at zs'
  obtain⟨a,ha⟩:=qE (.fin:TkK)
  have HA:Hid (argsM kd (ks.drop i)=dotsM kd false a (ks.drop i)):=by
   show _=_
   rw[HAr.out]
   unfold rangeM
   rw[H0.2.2.1,if_neg (by rw[hso];simp),ha]
  have HV1:Hid (AgJ w base g cp N nd pa ks i (⟨kd,a.txt,false,noS,a.nm,0,0⟩:Nd) v0):=by rw[ha];exact HV0.out
  have Hz:Hid (a.txt=noS):=by rw[ha];rfl
  have Hk:Hid (ks[i]?=some k):=H0.2.1
  clear hso ha t1 t2
  go_upto_region 28 with fail
  clear t0 zs' a0 a1
  have HIs:Hid (Calls Tryz.prog 48 #[parV g N cp i nd 0 pa,.string ⟨#[46,46]⟩] v0 fun e w'=>e=.returned (.bool (k.k.isSign 46))∧Below v0.heap.size v0 w'):=l5IsSym_core HV1.tk H0.1 hl Hk.out (toks_kind H0.2.2.2.2.2 Hk.out) nd 0 pa 46 ⟨#[46,46]⟩ (by rw[ByteArray.toList_eq];rfl)
  obtain⟨a0,a1,a2,a3,a4⟩:=HV1.p.c5
  go_wp2_with fail
  refine HIs.mono ?_
  clear HIs
  rintro e v1 ⟨rfl,hb1⟩
  have HV:Hid (AgJ w base g cp N nd pa ks i (⟨kd,a.txt,false,noS,a.nm,0,0⟩:Nd) v1):=HV1.up hb1
  clear hb1 a0 a1 a2 a3 a4
  cases hsg:k.k.isSign 46
  case false=>
   have HA2:Hid (argsM kd (ks.drop i)=failF 3 (ks.drop i)):=by
    show _=_
    rw[HA.out]
    unfold dotsM
    rw[(drop_hd Hk.out).1,if_neg (by rw[hsg];simp)]
   clear hsg
   obtain⟨cc,hcc⟩:=qE (if k.k.isBad=true then 2 else 3:Int)
   have HFl:Hid (∀wx,Below v1.heap.size v1 wx→Calls Tryz.prog 46 #[parV g N cp (i) nd 0 pa,.int .i64 3] wx fun e w'=>e=.returned (parV g N cp (i) nd cc k.pos)∧Below wx.heap.size wx w'):=fun wx hx=>by
    rw[hcc]
    exact l5Fail_core (HV.tk.below hx) H0.1 hl Hk.out nd 0 pa 3
   have HAE:Hid (argsM kd (ks.drop i)=.error (cc,k.pos)∧1≤cc):=⟨by
    rw[HA2.out,hcc]
    unfold failF
    rw[(drop_hd Hk.out).1,(drop_hd Hk.out).2.1],by rw[hcc];split<;>decide⟩
   clear hcc
   go_upto_region 29 with fail
   have hS0:(fun w':World=>w'.cell? ⟨w.heap.size,0,none⟩=some (.slice (some ⟨g,0,none⟩) N cp)∧w'.cell? ⟨w.heap.size,1,none⟩=some (.int .i64 ((i:Nat):Int))∧w'.cell? ⟨w.heap.size,2,none⟩=some (.int .i64 (nd:Int))∧w'.cell? ⟨w.heap.size,3,none⟩=some (.int .i64 0)∧w'.cell? ⟨w.heap.size,4,none⟩=some (.int .i64 (pa:Int))∧w'.cell? ⟨w.heap.size+3,0,none⟩=some (.int .i64 kd)∧w'.cell? ⟨w.heap.size+3,1,none⟩=some (.string a.txt)∧w'.cell? ⟨w.heap.size+3,2,none⟩=some (.bool false)∧w'.cell? ⟨w.heap.size+3,3,none⟩=some (.string ⟨#[]⟩)∧w'.cell? ⟨w.heap.size+3,4,none⟩=some (.int .u64 a.nm)∧w'.cell? ⟨w.heap.size+3,5,none⟩=some (.int .u64 0)∧w'.cell? ⟨w.heap.size+3,6,none⟩=some (.int .i64 0)) v1.drew:=⟨HV.p.cell (j:=0) rfl,HV.p.cell (j:=1) rfl,HV.p.cell (j:=2) rfl,HV.p.cell (j:=3) rfl,HV.p.cell (j:=4) rfl,HV.n.cell (j:=0) rfl,HV.n.cell (j:=1) rfl,HV.n.cell (j:=2) rfl,HV.n.cell (j:=3) rfl,HV.n.cell (j:=4) rfl,HV.n.cell (j:=5) rfl,HV.n.cell (j:=6) rfl⟩
   refine wp_region_T 99 (fun w':World=>w'.cell? ⟨w.heap.size,0,none⟩=some (.slice (some ⟨g,0,none⟩) N cp)∧w'.cell? ⟨w.heap.size,1,none⟩=some (.int .i64 ((i:Nat):Int))∧w'.cell? ⟨w.heap.size,2,none⟩=some (.int .i64 (nd:Int))∧w'.cell? ⟨w.heap.size,3,none⟩=some (.int .i64 0)∧w'.cell? ⟨w.heap.size,4,none⟩=some (.int .i64 (pa:Int))∧w'.cell? ⟨w.heap.size+3,0,none⟩=some (.int .i64 kd)∧w'.cell? ⟨w.heap.size+3,1,none⟩=some (.string a.txt)∧w'.cell? ⟨w.heap.size+3,2,none⟩=some (.bool false)∧w'.cell? ⟨w.heap.size+3,3,none⟩=some (.string ⟨#[]⟩)∧w'.cell? ⟨w.heap.size+3,4,none⟩=some (.int .u64 a.nm)∧w'.cell? ⟨w.heap.size+3,5,none⟩=some (.int .u64 0)∧w'.cell? ⟨w.heap.size+3,6,none⟩=some (.int .i64 0)) (by kernel_rfl) ?_
   refine qT 0 ?vrnaf0 rfl ?yrnaf0 hS0 ?_
   case yrnaf0=>(intro wz hSw;obtain⟨hz0,hz1,hz2,hz3,hz4,hz5,hz6,hz7,hz8,hz9,hz10,hz11⟩:=hSw;go_simp;(try with_reducible rfl))
   try simp only[qA,List.getElem_toArray,List.getElem_cons_zero,List.getElem_cons_succ]
   refine qT 2 ?vrnaf2 rfl ?yrnaf2 hS0 ?_
   case yrnaf2=>(intro wz hSw;obtain⟨hz0,hz1,hz2,hz3,hz4,hz5,hz6,hz7,hz8,hz9,hz10,hz11⟩:=hSw;go_simp;(try with_reducible rfl))
   try simp only[qA,List.getElem_toArray,List.getElem_cons_zero,List.getElem_cons_succ]
   refine qO 1 rfl fun K hK=>?_
   go_simp
   go_at_call 46
   refine(HFl.out v1.drew (Below.refl _ _).drew).mono ?_
   rintro e w5 ⟨rfl,hb5⟩
   have HJ5:Hid (AgJ w base g cp N nd pa ks (i) (⟨kd,a.txt,false,noS,a.nm,0,0⟩:Nd) w5):=HV.up (((Below.refl _ _).drew).trans (hb5.mono (Nat.le_refl _)))
   have hS5:(fun w':World=>w'.cell? ⟨w.heap.size,0,none⟩=some (.slice (some ⟨g,0,none⟩) N cp)∧w'.cell? ⟨w.heap.size,1,none⟩=some (.int .i64 ((i:Nat):Int))∧w'.cell? ⟨w.heap.size,2,none⟩=some (.int .i64 (nd:Int))∧w'.cell? ⟨w.heap.size,3,none⟩=some (.int .i64 0)∧w'.cell? ⟨w.heap.size,4,none⟩=some (.int .i64 (pa:Int))∧w'.cell? ⟨w.heap.size+3,0,none⟩=some (.int .i64 kd)∧w'.cell? ⟨w.heap.size+3,1,none⟩=some (.string a.txt)∧w'.cell? ⟨w.heap.size+3,2,none⟩=some (.bool false)∧w'.cell? ⟨w.heap.size+3,3,none⟩=some (.string ⟨#[]⟩)∧w'.cell? ⟨w.heap.size+3,4,none⟩=some (.int .u64 a.nm)∧w'.cell? ⟨w.heap.size+3,5,none⟩=some (.int .u64 0)∧w'.cell? ⟨w.heap.size+3,6,none⟩=some (.int .i64 0)) w5:=⟨HJ5.p.cell (j:=0) rfl,HJ5.p.cell (j:=1) rfl,HJ5.p.cell (j:=2) rfl,HJ5.p.cell (j:=3) rfl,HJ5.p.cell (j:=4) rfl,HJ5.n.cell (j:=0) rfl,HJ5.n.cell (j:=1) rfl,HJ5.n.cell (j:=2) rfl,HJ5.n.cell (j:=3) rfl,HJ5.n.cell (j:=4) rfl,HJ5.n.cell (j:=5) rfl,HJ5.n.cell (j:=6) rfl⟩
   refine hK.out _ _ (.inr hS5) ?_
   clear hK hb5 HFl
   try simp only[qA,List.getElem_toArray,List.getElem_cons_zero,List.getElem_cons_succ]
   obtain⟨c0,c1,c2,c3,c4⟩:=HJ5.rp.c5
   have e0:=HJ5.rp.frozen 0
   have e1:=HJ5.rp.frozen 1
   have e2:=HJ5.rp.frozen 2
   have e3:=HJ5.rp.frozen 3
   have e4:=HJ5.rp.frozen 4
   obtain⟨W6,hW6⟩:∃V:World,V=setP w5 (w.heap.size+1) (.slice (some ⟨g,0,none⟩) N cp) (.int .i64 ((i:Nat):Int)) (.int .i64 (nd:Int)) (.int .i64 cc) (.int .i64 (k.pos:Int)):=⟨_,rfl⟩
   have hc6:Chg (fun k=>k=w.heap.size+1) w5 W6:=by rw[hW6];exact chg_setP _ _ _ _ _ _ _
   have hp6:=HJ5.p.chg hc6 (by omega)
   have hn6:=HJ5.n.chg hc6 (by omega)
   have hr6:=HJ5.rn.chg hc6 (by omega)
   have hS6:(fun w':World=>w'.cell? ⟨w.heap.size,0,none⟩=some (.slice (some ⟨g,0,none⟩) N cp)∧w'.cell? ⟨w.heap.size,1,none⟩=some (.int .i64 ((i:Nat):Int))∧w'.cell? ⟨w.heap.size,2,none⟩=some (.int .i64 (nd:Int))∧w'.cell? ⟨w.heap.size,3,none⟩=some (.int .i64 0)∧w'.cell? ⟨w.heap.size,4,none⟩=some (.int .i64 (pa:Int))∧w'.cell? ⟨w.heap.size+3,0,none⟩=some (.int .i64 kd)∧w'.cell? ⟨w.heap.size+3,1,none⟩=some (.string a.txt)∧w'.cell? ⟨w.heap.size+3,2,none⟩=some (.bool false)∧w'.cell? ⟨w.heap.size+3,3,none⟩=some (.string ⟨#[]⟩)∧w'.cell? ⟨w.heap.size+3,4,none⟩=some (.int .u64 a.nm)∧w'.cell? ⟨w.heap.size+3,5,none⟩=some (.int .u64 0)∧w'.cell? ⟨w.heap.size+3,6,none⟩=some (.int .i64 0)) W6:=⟨hp6.cell (j:=0) rfl,hp6.cell (j:=1) rfl,hp6.cell (j:=2) rfl,hp6.cell (j:=3) rfl,hp6.cell (j:=4) rfl,hn6.cell (j:=0) rfl,hn6.cell (j:=1) rfl,hn6.cell (j:=2) rfl,hn6.cell (j:=3) rfl,hn6.cell (j:=4) rfl,hn6.cell (j:=5) rfl,hn6.cell (j:=6) rfl⟩
   obtain⟨d0,d1,d2,d3,d4,d5,d6⟩:=hr6.c7
   have f0:=hr6.frozen 0
   have f1:=hr6.frozen 1
   have f2:=hr6.frozen 2
   have f3:=hr6.frozen 3
   have f4:=hr6.frozen 4
   have f5:=hr6.frozen 5
   have f6:=hr6.frozen 6
   obtain⟨W9,hW9⟩:∃V:World,V=setN W6 (w.heap.size+2) (⟨kd,a.txt,false,noS,a.nm,0,0⟩:Nd):=⟨_,rfl⟩
   have hc9:Chg (fun k=>k=w.heap.size+2) W6 W9:=by rw[hW9];exact chg_setN _ _ _
   have hp9:=hp6.chg hc9 (by omega)
   have hn9:=hn6.chg hc9 (by omega)
   have hS9:(fun w':World=>w'.cell? ⟨w.heap.size,0,none⟩=some (.slice (some ⟨g,0,none⟩) N cp)∧w'.cell? ⟨w.heap.size,1,none⟩=some (.int .i64 ((i:Nat):Int))∧w'.cell? ⟨w.heap.size,2,none⟩=some (.int .i64 (nd:Int))∧w'.cell? ⟨w.heap.size,3,none⟩=some (.int .i64 0)∧w'.cell? ⟨w.heap.size,4,none⟩=some (.int .i64 (pa:Int))∧w'.cell? ⟨w.heap.size+3,0,none⟩=some (.int .i64 kd)∧w'.cell? ⟨w.heap.size+3,1,none⟩=some (.string a.txt)∧w'.cell? ⟨w.heap.size+3,2,none⟩=some (.bool false)∧w'.cell? ⟨w.heap.size+3,3,none⟩=some (.string ⟨#[]⟩)∧w'.cell? ⟨w.heap.size+3,4,none⟩=some (.int .u64 a.nm)∧w'.cell? ⟨w.heap.size+3,5,none⟩=some (.int .u64 0)∧w'.cell? ⟨w.heap.size+3,6,none⟩=some (.int .i64 0)) W9:=⟨hp9.cell (j:=0) rfl,hp9.cell (j:=1) rfl,hp9.cell (j:=2) rfl,hp9.cell (j:=3) rfl,hp9.cell (j:=4) rfl,hn9.cell (j:=0) rfl,hn9.cell (j:=1) rfl,hn9.cell (j:=2) rfl,hn9.cell (j:=3) rfl,hn9.cell (j:=4) rfl,hn9.cell (j:=5) rfl,hn9.cell (j:=6) rfl⟩
   have HF:Hid (BoxAt W9 w.heap.size 41 5 (w.heap.size+1) [.slice (some ⟨g,0,none⟩) N cp,.int .i64 ((i:Nat):Int),.int .i64 (nd:Int),.int .i64 cc,.int .i64 (k.pos:Int)]∧BoxAt W9 w.heap.size 65 7 (w.heap.size+2) (Nd.seven (⟨kd,a.txt,false,noS,a.nm,0,0⟩:Nd))∧Below w.heap.size w W9):=by
    have hf:=HJ5.fin (.slice (some ⟨g,0,none⟩) N cp) (.int .i64 ((i:Nat):Int)) (.int .i64 (nd:Int)) (.int .i64 cc) (.int .i64 (k.pos:Int)) (⟨kd,a.txt,false,noS,a.nm,0,0⟩:Nd)
    rw[hW9,hW6]
    exact hf
   have HR:Hid (ArgP base g cp N nd pa ks kd i w (.returned (.tuple #[parV g N cp (i) nd cc k.pos,Nd.v (⟨kd,a.txt,false,noS,a.nm,0,0⟩:Nd)])) W9):=⟨HF.2.2,.inr ⟨cc,k.pos,i,(⟨kd,a.txt,false,noS,a.nm,0,0⟩:Nd),HAE.1,HAE.2,rfl⟩⟩
   obtain⟨p0,p1,p2,p3,p4⟩:=HF.1.c5
   obtain⟨q0,q1,q2,q3,q4,q5,q6⟩:=HF.2.1.c7
   unfold setP at hW6
   unfold setN at hW9
   clear hp6 hn6 hr6 hp9 hn9 hc6 hc9
   simp only[leafN,patN,cntN,noS]at hW9 q0 q1 q2 q3 q4 q5 q6
   refine qO 3 rfl fun K hK=>?_
   go_simp
   rw[←hW6]
   refine hK.out _ _ (.inr hS6) ?_
   clear hK hW6
   try simp only[qA,List.getElem_toArray,List.getElem_cons_zero,List.getElem_cons_succ]
   refine qO 4 rfl fun K hK=>?_
   go_simp
   rw[←hW9]
   refine hK.out _ _ (.inr hS9) ?_
   clear hK hW9
   try simp only[qA,List.getElem_toArray,List.getElem_cons_zero,List.getElem_cons_succ]
   refine qD ?_
   clear hS0 hS5 hS6 hS9 c0 c1 c2 c3 c4 d0 d1 d2 d3 d4 d5 d6 e0 e1 e2 e3 e4 f0 f1 f2 f3 f4 f5 f6
   go_wp2_with fail
   exact bodyPost_ret (v:=.tuple #[parV g N cp (i) nd cc k.pos,Nd.v (⟨kd,a.txt,false,noS,a.nm,0,0⟩:Nd)]) (by simp[results,Tryz.results49,go_sem,p0,p1,p2,p3,p4,q0,q1,q2,q3,q4,q5,q6,leafN,patN,cntN,noS]) rfl HR.out
  have Hk2:Hid (∃k2,ks[i+1]?=some k2):=(toks_next H0.2.2.2.2.2 Hk.out (by rw[TkK.isSign_eq hsg];intro q;cases q) (by rw[TkK.isSign_eq hsg];intro q;cases q)).2
  have HA2:Hid (argsM kd (ks.drop i)=upM kd false a (ks.drop (i+1))):=by
   show _=_
   rw[HA.out]
   unfold dotsM
   rw[(drop_hd Hk.out).1,if_pos hsg,(drop_hd Hk.out).2.2]
  clear hsg
  obtain⟨V2,hV2⟩:∃V:World,V=v1.setCell ⟨w.heap.size,1,none⟩ (.int .i64 ((i:Int)+1)):=⟨_,rfl⟩
  obtain⟨i2,hi2⟩:∃ix,ix=i+1:=⟨_,rfl⟩
  have HJ2:Hid (AgJ w base g cp N nd pa ks i2 (⟨kd,a.txt,false,noS,a.nm,0,0⟩:Nd) V2):=by rw[hV2,hi2];exact HV.stepI _ (by simp)
  have Hi2:Hid (i2=i+1):=hi2
  have hilei2:i≤i2:=by omega
  clear hi2
  have a1:=HV.p.cell (j:=1) rfl
  have ia:=HV.p.frozen 1
  go_upto_region 31 with fail
  rw[←hV2]
  clear hV2 a1 ia
  obtain⟨k2,hk2⟩:=Hk2.out
  rw[←Hi2.out]at hk2
  have HK2:Hid (ks[i2]?=some k2):=hk2
  have hi2N:i2<N:=by rw[H0.1];exact(List.getElem?_eq_some_iff.1 hk2).1
  have zi2:(i2:Int)<(N:Int):=by omega
  clear hk2 Hk2
  obtain⟨t0,t1,t2,t3⟩:=tk_cells HJ2.tk HK2.out
  have zs:=sort_tk k2.k false
  have zs':(tkN k2.k==2)=k2.k.isSort false:=zs
  clear zs t3
  obtain⟨a0,a1⟩:=HJ2.p.c2
  have HA3:Hid (argsM kd (ks.drop i)=upM kd false a (ks.drop i2)):=by rw[Hi2.out];exact HA2.out
  cases hso:k2.k.isSort false
  case false=>
   rw[hso]at zs'
   have HA4:Hid (argsM kd (ks.drop i)=.ok (ks.drop i2,(⟨kd,a.txt,false,noS,a.nm,0,0⟩:Nd))):=by
    show _=_
    rw[HA3.out]
    unfold upM
    rw[(drop_hd HK2.out).1,if_neg (by rw[hso];simp)]
   clear hso t1 t2
   go_upto_region 38 with fail
   clear t0 zs' a0 a1
   obtain⟨a0,a1,a2,a3,a4⟩:=HJ2.p.c5
   obtain⟨b0,b1,b2,b3,b4,b5,b6⟩:=HJ2.n.c7
   obtain⟨c0,c1,c2,c3,c4⟩:=HJ2.rp.c5
   obtain⟨d0,d1,d2,d3,d4,d5,d6⟩:=HJ2.rn.c7
   have e0:=HJ2.rp.frozen 0
   have e1:=HJ2.rp.frozen 1
   have e2:=HJ2.rp.frozen 2
   have e3:=HJ2.rp.frozen 3
   have e4:=HJ2.rp.frozen 4
   have f0:=HJ2.rn.frozen 0
   have f1:=HJ2.rn.frozen 1
   have f2:=HJ2.rn.frozen 2
   have f3:=HJ2.rn.frozen 3
   have f4:=HJ2.rn.frozen 4
   have f5:=HJ2.rn.frozen 5
   have f6:=HJ2.rn.frozen 6
   obtain⟨W9,hW9⟩:∃V:World,V=(setN (setP V2 (w.heap.size+1) (.slice (some ⟨g,0,none⟩) N cp) (.int .i64 (i2:Int)) (.int .i64 (nd:Int)) (.int .i64 0) (.int .i64 (pa:Int))) (w.heap.size+2) (⟨kd,a.txt,false,noS,a.nm,0,0⟩:Nd)).drew:=⟨_,rfl⟩
   have HF:Hid (BoxAt W9 w.heap.size 41 5 (w.heap.size+1) [.slice (some ⟨g,0,none⟩) N cp,.int .i64 (i2:Int),.int .i64 (nd:Int),.int .i64 0,.int .i64 (pa:Int)]∧BoxAt W9 w.heap.size 65 7 (w.heap.size+2) (Nd.seven (⟨kd,a.txt,false,noS,a.nm,0,0⟩:Nd))∧Below w.heap.size w W9):=by
    have hf:=HJ2.fin (.slice (some ⟨g,0,none⟩) N cp) (.int .i64 (i2:Int)) (.int .i64 (nd:Int)) (.int .i64 0) (.int .i64 (pa:Int)) (⟨kd,a.txt,false,noS,a.nm,0,0⟩:Nd)
    have hd:∀X:World,Below X.heap.size X X.drew:=fun X=>(Below.refl _ _).drew
    rw[hW9]
    exact⟨hf.1.below (hd _),hf.2.1.below (hd _),hf.2.2.trans ((hd _).mono hf.2.2.size)⟩
   have HR:Hid (ArgP base g cp N nd pa ks kd i w (.returned (.tuple #[parV g N cp (i2) nd 0 pa,Nd.v (⟨kd,a.txt,false,noS,a.nm,0,0⟩:Nd)])) W9):=⟨HF.2.2,.inl ⟨i2,(⟨kd,a.txt,false,noS,a.nm,0,0⟩:Nd),HA4.out,by omega,by omega,rfl⟩⟩
   obtain⟨p0,p1,p2,p3,p4⟩:=HF.1.c5
   obtain⟨q0,q1,q2,q3,q4,q5,q6⟩:=HF.2.1.c7
   unfold setN setP at hW9
   simp only[leafN,patN,cntN,noS]at hW9 b0 b1 b2 b3 b4 b5 b6 q0 q1 q2 q3 q4 q5 q6
   go_region
   rw[←hW9]
   clear hW9 a0 a1 a2 a3 a4 b0 b1 b2 b3 b4 b5 b6 c0 c1 c2 c3 c4 d0 d1 d2 d3 d4 d5 d6 e0 e1 e2 e3 e4 f0 f1 f2 f3 f4 f5 f6
   go_wp2_with fail
   exact bodyPost_ret (v:=.tuple #[parV g N cp (i2) nd 0 pa,Nd.v (⟨kd,a.txt,false,noS,a.nm,0,0⟩:Nd)]) (by simp[results,Tryz.results49,go_sem,p0,p1,p2,p3,p4,q0,q1,q2,q3,q4,q5,q6,leafN,patN,cntN,noS]) rfl HR.out
  obtain⟨htx,hnf,hnb,hz1,hz2⟩:=sort_txt hso
  have Hk3:Hid (∃k3,ks[i2+1]?=some k3):=(toks_next H0.2.2.2.2.2 HK2.out hnf hnb).2
  have HA4:Hid (argsM kd (ks.drop i)=if less a.txt k2.k.txt∨a.nm<k2.k.nm then .ok (ks.drop (i2+1),(⟨kd,a.txt,true,k2.k.txt,a.nm,k2.k.nm,0⟩:Nd))else failF 7 (ks.drop i2)):=by
   show _=_
   rw[HA3.out]
   unfold upM
   rw[(drop_hd HK2.out).1,if_pos hso,(drop_hd HK2.out).2.2]
  have HTx:Hid (tkT k2.k=k2.k.txt):=htx
  have HZ:Hid (a.txt=noS∧k2.k.txt=noS):=⟨Hz.out,hz2 rfl⟩
  rw[htx]at t2
  rw[hso]at zs'
  clear htx hnf hnb hz1 hz2 hso
  have hi3N:i2+1<N:=by
   obtain⟨k3,hk3⟩:=Hk3.out
   rw[H0.1];exact(List.getElem?_eq_some_iff.1 hk3).1
  obtain⟨V3,hV3⟩:∃V:World,V=V2.setCell ⟨w.heap.size+3,2,none⟩ (.bool true):=⟨_,rfl⟩
  have HJ3:Hid (AgJ w base g cp N nd pa ks i2 (⟨kd,a.txt,true,noS,a.nm,0,0⟩:Nd) V3):=by rw[hV3];exact HJ2.stepN 2 _ rfl
  have n2:=HJ2.n.cell (j:=2) rfl
  have m2:=HJ2.n.frozen 2
  go_upto_region 33 with fail
  rw[←hV3]
  clear hV3 n2 m2 a0 a1 t0 t1 t2 zs'
  obtain⟨t0,t1,t2,t3⟩:=tk_cells HJ3.tk HK2.out
  have zs:tkT k2.k=k2.k.txt:=HTx.out
  rw[zs]at t2
  clear zs
  obtain⟨a0,a1⟩:=HJ3.p.c2
  obtain⟨V4,hV4⟩:∃V:World,V=V3.setCell ⟨w.heap.size+3,3,none⟩ (.string k2.k.txt):=⟨_,rfl⟩
  have HJ4:Hid (AgJ w base g cp N nd pa ks i2 (⟨kd,a.txt,true,k2.k.txt,a.nm,0,0⟩:Nd) V4):=by rw[hV4];exact HJ3.stepN 3 _ rfl
  have n3:=HJ3.n.cell (j:=3) rfl
  have m3:=HJ3.n.frozen 3
  go_upto_region 34 with fail
  rw[←hV4]
  clear hV4 n3 m3 a0 a1 t0 t1 t2 t3
  obtain⟨t0,t1,t2,t3⟩:=tk_cells HJ4.tk HK2.out
  obtain⟨a0,a1⟩:=HJ4.p.c2
  obtain⟨V5,hV5⟩:∃V:World,V=V4.setCell ⟨w.heap.size+3,5,none⟩ (.int .u64 k2.k.nm):=⟨_,rfl⟩
  have HJ5x:Hid (AgJ w base g cp N nd pa ks i2 (⟨kd,a.txt,true,k2.k.txt,a.nm,k2.k.nm,0⟩:Nd) V5):=by rw[hV5];exact HJ4.stepN 5 _ rfl
  have n5:=HJ4.n.cell (j:=5) rfl
  have m5:=HJ4.n.frozen 5
  go_upto_region 35 with fail
  rw[←hV5]
  clear hV5 n5 m5 a0 a1 t0 t1 t2 t3
  have g4:=HJ5x.n.cell (j:=4) rfl
  have g5:=HJ5x.n.cell (j:=5) rfl
  by_cases hls:a.nm<k2.k.nm
  case neg=>
   have hbl:decide (k2.k.nm≤a.nm)=true:=decide_eq_true (by omega)
   have HA5:Hid (argsM kd (ks.drop i)=failF 7 (ks.drop i2)):=by
    show _=_
    rw[HA4.out,if_neg (by rw[HZ.1,HZ.2];intro q;rcases q with q|q
                          ·exact less_no q
                          ·exact hls q)]
   clear hls
   obtain⟨cc,hcc⟩:=qE (if k2.k.isBad=true then 2 else 7:Int)
   have HFl:Hid (∀wx,Below V5.heap.size V5 wx→Calls Tryz.prog 46 #[parV g N cp (i2) nd 0 pa,.int .i64 7] wx fun e w'=>e=.returned (parV g N cp (i2) nd cc k2.pos)∧Below wx.heap.size wx w'):=fun wx hx=>by
    rw[hcc]
    exact l5Fail_core (HJ5x.tk.below hx) H0.1 hl HK2.out nd 0 pa 7
   have HAE:Hid (argsM kd (ks.drop i)=.error (cc,k2.pos)∧1≤cc):=⟨by
    rw[HA5.out,hcc]
    unfold failF
    rw[(drop_hd HK2.out).1,(drop_hd HK2.out).2.1],by rw[hcc];split<;>decide⟩
   clear hcc
   go_upto_region 36 with fail
   have hS0:(fun w':World=>w'.cell? ⟨w.heap.size,0,none⟩=some (.slice (some ⟨g,0,none⟩) N cp)∧w'.cell? ⟨w.heap.size,1,none⟩=some (.int .i64 ((i2:Nat):Int))∧w'.cell? ⟨w.heap.size,2,none⟩=some (.int .i64 (nd:Int))∧w'.cell? ⟨w.heap.size,3,none⟩=some (.int .i64 0)∧w'.cell? ⟨w.heap.size,4,none⟩=some (.int .i64 (pa:Int))∧w'.cell? ⟨w.heap.size+3,0,none⟩=some (.int .i64 kd)∧w'.cell? ⟨w.heap.size+3,1,none⟩=some (.string a.txt)∧w'.cell? ⟨w.heap.size+3,2,none⟩=some (.bool true)∧w'.cell? ⟨w.heap.size+3,3,none⟩=some (.string k2.k.txt)∧w'.cell? ⟨w.heap.size+3,4,none⟩=some (.int .u64 a.nm)∧w'.cell? ⟨w.heap.size+3,5,none⟩=some (.int .u64 k2.k.nm)∧w'.cell? ⟨w.heap.size+3,6,none⟩=some (.int .i64 0)) V5.drew:=⟨HJ5x.p.cell (j:=0) rfl,HJ5x.p.cell (j:=1) rfl,HJ5x.p.cell (j:=2) rfl,HJ5x.p.cell (j:=3) rfl,HJ5x.p.cell (j:=4) rfl,HJ5x.n.cell (j:=0) rfl,HJ5x.n.cell (j:=1) rfl,HJ5x.n.cell (j:=2) rfl,HJ5x.n.cell (j:=3) rfl,HJ5x.n.cell (j:=4) rfl,HJ5x.n.cell (j:=5) rfl,HJ5x.n.cell (j:=6) rfl⟩
   refine wp_region_T 99 (fun w':World=>w'.cell? ⟨w.heap.size,0,none⟩=some (.slice (some ⟨g,0,none⟩) N cp)∧w'.cell? ⟨w.heap.size,1,none⟩=some (.int .i64 ((i2:Nat):Int))∧w'.cell? ⟨w.heap.size,2,none⟩=some (.int .i64 (nd:Int))∧w'.cell? ⟨w.heap.size,3,none⟩=some (.int .i64 0)∧w'.cell? ⟨w.heap.size,4,none⟩=some (.int .i64 (pa:Int))∧w'.cell? ⟨w.heap.size+3,0,none⟩=some (.int .i64 kd)∧w'.cell? ⟨w.heap.size+3,1,none⟩=some (.string a.txt)∧w'.cell? ⟨w.heap.size+3,2,none⟩=some (.bool true)∧w'.cell? ⟨w.heap.size+3,3,none⟩=some (.string k2.k.txt)∧w'.cell? ⟨w.heap.size+3,4,none⟩=some (.int .u64 a.nm)∧w'.cell? ⟨w.heap.size+3,5,none⟩=some (.int .u64 k2.k.nm)∧w'.cell? ⟨w.heap.size+3,6,none⟩=some (.int .i64 0)) (by kernel_rfl) ?_
   refine qT 0 ?vrnag0 rfl ?yrnag0 hS0 ?_
   case yrnag0=>(intro wz hSw;obtain⟨hz0,hz1,hz2,hz3,hz4,hz5,hz6,hz7,hz8,hz9,hz10,hz11⟩:=hSw;go_simp;(try with_reducible rfl))
   try simp only[qA,List.getElem_toArray,List.getElem_cons_zero,List.getElem_cons_succ]
   refine qT 2 ?vrnag2 rfl ?yrnag2 hS0 ?_
   case yrnag2=>(intro wz hSw;obtain⟨hz0,hz1,hz2,hz3,hz4,hz5,hz6,hz7,hz8,hz9,hz10,hz11⟩:=hSw;go_simp;(try with_reducible rfl))
   try simp only[qA,List.getElem_toArray,List.getElem_cons_zero,List.getElem_cons_succ]
   refine qO 1 rfl fun K hK=>?_
   go_simp
   go_at_call 46
   refine(HFl.out V5.drew (Below.refl _ _).drew).mono ?_
   rintro e w5 ⟨rfl,hb5⟩
   have HJ5:Hid (AgJ w base g cp N nd pa ks (i2) (⟨kd,a.txt,true,k2.k.txt,a.nm,k2.k.nm,0⟩:Nd) w5):=HJ5x.up (((Below.refl _ _).drew).trans (hb5.mono (Nat.le_refl _)))
   have hS5:(fun w':World=>w'.cell? ⟨w.heap.size,0,none⟩=some (.slice (some ⟨g,0,none⟩) N cp)∧w'.cell? ⟨w.heap.size,1,none⟩=some (.int .i64 ((i2:Nat):Int))∧w'.cell? ⟨w.heap.size,2,none⟩=some (.int .i64 (nd:Int))∧w'.cell? ⟨w.heap.size,3,none⟩=some (.int .i64 0)∧w'.cell? ⟨w.heap.size,4,none⟩=some (.int .i64 (pa:Int))∧w'.cell? ⟨w.heap.size+3,0,none⟩=some (.int .i64 kd)∧w'.cell? ⟨w.heap.size+3,1,none⟩=some (.string a.txt)∧w'.cell? ⟨w.heap.size+3,2,none⟩=some (.bool true)∧w'.cell? ⟨w.heap.size+3,3,none⟩=some (.string k2.k.txt)∧w'.cell? ⟨w.heap.size+3,4,none⟩=some (.int .u64 a.nm)∧w'.cell? ⟨w.heap.size+3,5,none⟩=some (.int .u64 k2.k.nm)∧w'.cell? ⟨w.heap.size+3,6,none⟩=some (.int .i64 0)) w5:=⟨HJ5.p.cell (j:=0) rfl,HJ5.p.cell (j:=1) rfl,HJ5.p.cell (j:=2) rfl,HJ5.p.cell (j:=3) rfl,HJ5.p.cell (j:=4) rfl,HJ5.n.cell (j:=0) rfl,HJ5.n.cell (j:=1) rfl,HJ5.n.cell (j:=2) rfl,HJ5.n.cell (j:=3) rfl,HJ5.n.cell (j:=4) rfl,HJ5.n.cell (j:=5) rfl,HJ5.n.cell (j:=6) rfl⟩
   refine hK.out _ _ (.inr hS5) ?_
   clear hK hb5 HFl
   try simp only[qA,List.getElem_toArray,List.getElem_cons_zero,List.getElem_cons_succ]
   obtain⟨c0,c1,c2,c3,c4⟩:=HJ5.rp.c5
   have e0:=HJ5.rp.frozen 0
   have e1:=HJ5.rp.frozen 1
   have e2:=HJ5.rp.frozen 2
   have e3:=HJ5.rp.frozen 3
   have e4:=HJ5.rp.frozen 4
   obtain⟨W6,hW6⟩:∃V:World,V=setP w5 (w.heap.size+1) (.slice (some ⟨g,0,none⟩) N cp) (.int .i64 ((i2:Nat):Int)) (.int .i64 (nd:Int)) (.int .i64 cc) (.int .i64 (k2.pos:Int)):=⟨_,rfl⟩
   have hc6:Chg (fun k=>k=w.heap.size+1) w5 W6:=by rw[hW6];exact chg_setP _ _ _ _ _ _ _
   have hp6:=HJ5.p.chg hc6 (by omega)
   have hn6:=HJ5.n.chg hc6 (by omega)
   have hr6:=HJ5.rn.chg hc6 (by omega)
   have hS6:(fun w':World=>w'.cell? ⟨w.heap.size,0,none⟩=some (.slice (some ⟨g,0,none⟩) N cp)∧w'.cell? ⟨w.heap.size,1,none⟩=some (.int .i64 ((i2:Nat):Int))∧w'.cell? ⟨w.heap.size,2,none⟩=some (.int .i64 (nd:Int))∧w'.cell? ⟨w.heap.size,3,none⟩=some (.int .i64 0)∧w'.cell? ⟨w.heap.size,4,none⟩=some (.int .i64 (pa:Int))∧w'.cell? ⟨w.heap.size+3,0,none⟩=some (.int .i64 kd)∧w'.cell? ⟨w.heap.size+3,1,none⟩=some (.string a.txt)∧w'.cell? ⟨w.heap.size+3,2,none⟩=some (.bool true)∧w'.cell? ⟨w.heap.size+3,3,none⟩=some (.string k2.k.txt)∧w'.cell? ⟨w.heap.size+3,4,none⟩=some (.int .u64 a.nm)∧w'.cell? ⟨w.heap.size+3,5,none⟩=some (.int .u64 k2.k.nm)∧w'.cell? ⟨w.heap.size+3,6,none⟩=some (.int .i64 0)) W6:=⟨hp6.cell (j:=0) rfl,hp6.cell (j:=1) rfl,hp6.cell (j:=2) rfl,hp6.cell (j:=3) rfl,hp6.cell (j:=4) rfl,hn6.cell (j:=0) rfl,hn6.cell (j:=1) rfl,hn6.cell (j:=2) rfl,hn6.cell (j:=3) rfl,hn6.cell (j:=4) rfl,hn6.cell (j:=5) rfl,hn6.cell (j:=6) rfl⟩
   obtain⟨d0,d1,d2,d3,d4,d5,d6⟩:=hr6.c7
   have f0:=hr6.frozen 0
   have f1:=hr6.frozen 1
   have f2:=hr6.frozen 2
   have f3:=hr6.frozen 3
   have f4:=hr6.frozen 4
   have f5:=hr6.frozen 5
   have f6:=hr6.frozen 6
   obtain⟨W9,hW9⟩:∃V:World,V=setN W6 (w.heap.size+2) (⟨kd,a.txt,true,k2.k.txt,a.nm,k2.k.nm,0⟩:Nd):=⟨_,rfl⟩
   have hc9:Chg (fun k=>k=w.heap.size+2) W6 W9:=by rw[hW9];exact chg_setN _ _ _
   have hp9:=hp6.chg hc9 (by omega)
   have hn9:=hn6.chg hc9 (by omega)
   have hS9:(fun w':World=>w'.cell? ⟨w.heap.size,0,none⟩=some (.slice (some ⟨g,0,none⟩) N cp)∧w'.cell? ⟨w.heap.size,1,none⟩=some (.int .i64 ((i2:Nat):Int))∧w'.cell? ⟨w.heap.size,2,none⟩=some (.int .i64 (nd:Int))∧w'.cell? ⟨w.heap.size,3,none⟩=some (.int .i64 0)∧w'.cell? ⟨w.heap.size,4,none⟩=some (.int .i64 (pa:Int))∧w'.cell? ⟨w.heap.size+3,0,none⟩=some (.int .i64 kd)∧w'.cell? ⟨w.heap.size+3,1,none⟩=some (.string a.txt)∧w'.cell? ⟨w.heap.size+3,2,none⟩=some (.bool true)∧w'.cell? ⟨w.heap.size+3,3,none⟩=some (.string k2.k.txt)∧w'.cell? ⟨w.heap.size+3,4,none⟩=some (.int .u64 a.nm)∧w'.cell? ⟨w.heap.size+3,5,none⟩=some (.int .u64 k2.k.nm)∧w'.cell? ⟨w.heap.size+3,6,none⟩=some (.int .i64 0)) W9:=⟨hp9.cell (j:=0) rfl,hp9.cell (j:=1) rfl,hp9.cell (j:=2) rfl,hp9.cell (j:=3) rfl,hp9.cell (j:=4) rfl,hn9.cell (j:=0) rfl,hn9.cell (j:=1) rfl,hn9.cell (j:=2) rfl,hn9.cell (j:=3) rfl,hn9.cell (j:=4) rfl,hn9.cell (j:=5) rfl,hn9.cell (j:=6) rfl⟩
   have HF:Hid (BoxAt W9 w.heap.size 41 5 (w.heap.size+1) [.slice (some ⟨g,0,none⟩) N cp,.int .i64 ((i2:Nat):Int),.int .i64 (nd:Int),.int .i64 cc,.int .i64 (k2.pos:Int)]∧BoxAt W9 w.heap.size 65 7 (w.heap.size+2) (Nd.seven (⟨kd,a.txt,true,k2.k.txt,a.nm,k2.k.nm,0⟩:Nd))∧Below w.heap.size w W9):=by
    have hf:=HJ5.fin (.slice (some ⟨g,0,none⟩) N cp) (.int .i64 ((i2:Nat):Int)) (.int .i64 (nd:Int)) (.int .i64 cc) (.int .i64 (k2.pos:Int)) (⟨kd,a.txt,true,k2.k.txt,a.nm,k2.k.nm,0⟩:Nd)
    rw[hW9,hW6]
    exact hf
   have HR:Hid (ArgP base g cp N nd pa ks kd i w (.returned (.tuple #[parV g N cp (i2) nd cc k2.pos,Nd.v (⟨kd,a.txt,true,k2.k.txt,a.nm,k2.k.nm,0⟩:Nd)])) W9):=⟨HF.2.2,.inr ⟨cc,k2.pos,i2,(⟨kd,a.txt,true,k2.k.txt,a.nm,k2.k.nm,0⟩:Nd),HAE.1,HAE.2,rfl⟩⟩
   obtain⟨p0,p1,p2,p3,p4⟩:=HF.1.c5
   obtain⟨q0,q1,q2,q3,q4,q5,q6⟩:=HF.2.1.c7
   unfold setP at hW6
   unfold setN at hW9
   clear hp6 hn6 hr6 hp9 hn9 hc6 hc9
   simp only[leafN,patN,cntN,noS]at hW9 q0 q1 q2 q3 q4 q5 q6
   refine qO 3 rfl fun K hK=>?_
   go_simp
   rw[←hW6]
   refine hK.out _ _ (.inr hS6) ?_
   clear hK hW6
   try simp only[qA,List.getElem_toArray,List.getElem_cons_zero,List.getElem_cons_succ]
   refine qO 4 rfl fun K hK=>?_
   go_simp
   rw[←hW9]
   refine hK.out _ _ (.inr hS9) ?_
   clear hK hW9
   try simp only[qA,List.getElem_toArray,List.getElem_cons_zero,List.getElem_cons_succ]
   refine qD ?_
   clear hS0 hS5 hS6 hS9 c0 c1 c2 c3 c4 d0 d1 d2 d3 d4 d5 d6 e0 e1 e2 e3 e4 f0 f1 f2 f3 f4 f5 f6
   go_wp2_with fail
   exact bodyPost_ret (v:=.tuple #[parV g N cp (i2) nd cc k2.pos,Nd.v (⟨kd,a.txt,true,k2.k.txt,a.nm,k2.k.nm,0⟩:Nd)]) (by simp[results,Tryz.results49,go_sem,p0,p1,p2,p3,p4,q0,q1,q2,q3,q4,q5,q6,leafN,patN,cntN,noS]) rfl HR.out
  have hbl:decide (k2.k.nm≤a.nm)=false:=decide_eq_false (by omega)
  have HA5:Hid (argsM kd (ks.drop i)=.ok (ks.drop (i2+1),(⟨kd,a.txt,true,k2.k.txt,a.nm,k2.k.nm,0⟩:Nd))):=by
   show _=_
   rw[HA4.out,if_pos (.inr hls)]
  clear hls
  obtain⟨V6,hV6⟩:∃V:World,V=V5.setCell ⟨w.heap.size,1,none⟩ (.int .i64 ((i2:Int)+1)):=⟨_,rfl⟩
  obtain⟨i3,hi3⟩:∃ix,ix=i2+1:=⟨_,rfl⟩
  have HJ6:Hid (AgJ w base g cp N nd pa ks i3 (⟨kd,a.txt,true,k2.k.txt,a.nm,k2.k.nm,0⟩:Nd) V6):=by rw[hV6,hi3];exact HJ5x.stepI _ (by simp)
  have Hi3:Hid (i3=i2+1):=hi3
  have hilei3:i2≤i3:=by omega
  clear hi3
  have a1:=HJ5x.p.cell (j:=1) rfl
  have ia:=HJ5x.p.frozen 1
  go_upto_region 38 with fail
  rw[←hV6]
  have hi3:i3<N:=by rw[Hi3.out];exact hi3N
  clear hV6 a1 ia hbl
  obtain⟨a0,a1,a2,a3,a4⟩:=HJ6.p.c5
  obtain⟨b0,b1,b2,b3,b4,b5,b6⟩:=HJ6.n.c7
  obtain⟨c0,c1,c2,c3,c4⟩:=HJ6.rp.c5
  obtain⟨d0,d1,d2,d3,d4,d5,d6⟩:=HJ6.rn.c7
  have e0:=HJ6.rp.frozen 0
  have e1:=HJ6.rp.frozen 1
  have e2:=HJ6.rp.frozen 2
  have e3:=HJ6.rp.frozen 3
  have e4:=HJ6.rp.frozen 4
  have f0:=HJ6.rn.frozen 0
  have f1:=HJ6.rn.frozen 1
  have f2:=HJ6.rn.frozen 2
  have f3:=HJ6.rn.frozen 3
  have f4:=HJ6.rn.frozen 4
  have f5:=HJ6.rn.frozen 5
  have f6:=HJ6.rn.frozen 6
  obtain⟨W9,hW9⟩:∃V:World,V=(setN (setP V6 (w.heap.size+1) (.slice (some ⟨g,0,none⟩) N cp) (.int .i64 (i3:Int)) (.int .i64 (nd:Int)) (.int .i64 0) (.int .i64 (pa:Int))) (w.heap.size+2) (⟨kd,a.txt,true,k2.k.txt,a.nm,k2.k.nm,0⟩:Nd)).drew:=⟨_,rfl⟩
  have HF:Hid (BoxAt W9 w.heap.size 41 5 (w.heap.size+1) [.slice (some ⟨g,0,none⟩) N cp,.int .i64 (i3:Int),.int .i64 (nd:Int),.int .i64 0,.int .i64 (pa:Int)]∧BoxAt W9 w.heap.size 65 7 (w.heap.size+2) (Nd.seven (⟨kd,a.txt,true,k2.k.txt,a.nm,k2.k.nm,0⟩:Nd))∧Below w.heap.size w W9):=by
   have hf:=HJ6.fin (.slice (some ⟨g,0,none⟩) N cp) (.int .i64 (i3:Int)) (.int .i64 (nd:Int)) (.int .i64 0) (.int .i64 (pa:Int)) (⟨kd,a.txt,true,k2.k.txt,a.nm,k2.k.nm,0⟩:Nd)
   have hd:∀X:World,Below X.heap.size X X.drew:=fun X=>(Below.refl _ _).drew
   rw[hW9]
   exact⟨hf.1.below (hd _),hf.2.1.below (hd _),hf.2.2.trans ((hd _).mono hf.2.2.size)⟩
  have HR:Hid (ArgP base g cp N nd pa ks kd i w (.returned (.tuple #[parV g N cp (i3) nd 0 pa,Nd.v (⟨kd,a.txt,true,k2.k.txt,a.nm,k2.k.nm,0⟩:Nd)])) W9):=⟨HF.2.2,.inl ⟨i3,(⟨kd,a.txt,true,k2.k.txt,a.nm,k2.k.nm,0⟩:Nd),by rw[Hi3.out];exact HA5.out,by omega,by omega,rfl⟩⟩
  obtain⟨p0,p1,p2,p3,p4⟩:=HF.1.c5
  obtain⟨q0,q1,q2,q3,q4,q5,q6⟩:=HF.2.1.c7
  unfold setN setP at hW9
  simp only[leafN,patN,cntN,noS]at hW9 b0 b1 b2 b3 b4 b5 b6 q0 q1 q2 q3 q4 q5 q6
  go_region
  rw[←hW9]
  clear hW9 a0 a1 a2 a3 a4 b0 b1 b2 b3 b4 b5 b6 c0 c1 c2 c3 c4 d0 d1 d2 d3 d4 d5 d6 e0 e1 e2 e3 e4 f0 f1 f2 f3 f4 f5 f6
  go_wp2_with fail
  exact bodyPost_ret (v:=.tuple #[parV g N cp (i3) nd 0 pa,Nd.v (⟨kd,a.txt,true,k2.k.txt,a.nm,k2.k.nm,0⟩:Nd)]) (by simp[results,Tryz.results49,go_sem,p0,p1,p2,p3,p4,q0,q1,q2,q3,q4,q5,q6,leafN,patN,cntN,noS]) rfl HR.out
 obtain⟨htx,hnf,hnb,hz1,hz2⟩:=sort_txt hso
 have Hk1:Hid (∃k1,ks[i+1]?=some k1):=(toks_next H0.2.2.2.2.2 H0.2.1 hnf hnb).2
 obtain⟨a,ha⟩:=qE (k.k:TkK)
 have HA1:Hid (argsM kd (ks.drop i)=dotsM kd false a (ks.drop (i+1))):=by
  show _=_
  rw[HAr.out]
  unfold rangeM
  rw[H0.2.2.1,if_pos hso,ha,H0.2.2.2.2.1]
 have Hz:Hid (a.txt=noS):=by rw[ha];exact hz2 rfl
 have HTa:Hid (tkT k.k=a.txt∧k.k.nm=a.nm):=by rw[ha];exact⟨htx,rfl⟩
 rw[HTa.1]at t2
 rw[hso]at zs'
 clear htx hnf hnb hz1 hz2 hso ha
 obtain⟨V1,hV1⟩:∃V:World,V=v0.setCell ⟨w.heap.size+3,1,none⟩ (.string a.txt):=⟨_,rfl⟩
 have HV1:Hid (AgJ w base g cp N nd pa ks i (⟨kd,a.txt,false,noS,0,0,0⟩:Nd) V1):=by rw[hV1];exact HV0.stepN 1 _ rfl
 have n1:=HV0.n.cell (j:=1) rfl
 have m1:=HV0.n.frozen 1
 go_upto_region 26 with fail
 rw[←hV1]
 clear hV1 n1 m1 a0 a1 t0 t1 t2 zs'
 obtain⟨t0,t1,t2,t3⟩:=tk_cells HV1.tk H0.2.1
 rw[HTa.2]at t1
 obtain⟨a0,a1⟩:=HV1.p.c2
 obtain⟨Vb,hVb⟩:∃V:World,V=V1.setCell ⟨w.heap.size+3,4,none⟩ (.int .u64 a.nm):=⟨_,rfl⟩
 have HVb:Hid (AgJ w base g cp N nd pa ks i (⟨kd,a.txt,false,noS,a.nm,0,0⟩:Nd) Vb):=by rw[hVb];exact HV1.stepN 4 _ rfl
 have n4:=HV1.n.cell (j:=4) rfl
 have m4:=HV1.n.frozen 4
 go_upto_region 27 with fail
 rw[←hVb]
 clear hVb n4 m4 a0 a1 t0 t1 t2 t3
 obtain⟨Vc,hVc⟩:∃V:World,V=Vb.setCell ⟨w.heap.size,1,none⟩ (.int .i64 ((i:Int)+1)):=⟨_,rfl⟩
 obtain⟨i1,hi1⟩:∃ix,ix=i+1:=⟨_,rfl⟩
 have HVc:Hid (AgJ w base g cp N nd pa ks i1 (⟨kd,a.txt,false,noS,a.nm,0,0⟩:Nd) Vc):=by rw[hVc,hi1];exact HVb.stepI _ (by simp)
 have Hi1:Hid (i1=i+1):=hi1
 have hilei1:i≤i1:=by omega
 clear hi1
 have a1:=HVb.p.cell (j:=1) rfl
 have ia:=HVb.p.frozen 1
 go_upto_region 28 with fail
 rw[←hVc]
 clear hVc a1 ia
 obtain⟨k1,hk1⟩:=Hk1.out
 rw[←Hi1.out]at hk1
 have Hk:Hid (ks[i1]?=some k1):=hk1
 have HA:Hid (argsM kd (ks.drop i)=dotsM kd false a (ks.drop i1)):=by rw[Hi1.out];exact HA1.out
 have hi1N:i1<N:=by rw[H0.1];exact(List.getElem?_eq_some_iff.1 hk1).1
 clear hk1 Hk1
 have HIs:Hid (Calls Tryz.prog 48 #[parV g N cp i1 nd 0 pa,.string ⟨#[46,46]⟩] Vc fun e w'=>e=.returned (.bool (k1.k.isSign 46))∧Below Vc.heap.size Vc w'):=l5IsSym_core HVc.tk H0.1 hl Hk.out (toks_kind H0.2.2.2.2.2 Hk.out) nd 0 pa 46 ⟨#[46,46]⟩ (by rw[ByteArray.toList_eq];rfl)
 obtain⟨a0,a1,a2,a3,a4⟩:=HVc.p.c5
 go_wp2_with fail
 refine HIs.mono ?_
 clear HIs
 rintro e v1 ⟨rfl,hb1⟩
 have HV:Hid (AgJ w base g cp N nd pa ks i1 (⟨kd,a.txt,false,noS,a.nm,0,0⟩:Nd) v1):=HVc.up hb1
 clear hb1 a0 a1 a2 a3 a4
 cases hsg:k1.k.isSign 46
 case false=>
  have HA2:Hid (argsM kd (ks.drop i)=failF 3 (ks.drop i1)):=by
   show _=_
   rw[HA.out]
   unfold dotsM
   rw[(drop_hd Hk.out).1,if_neg (by rw[hsg];simp)]
  clear hsg
  obtain⟨cc,hcc⟩:=qE (if k1.k.isBad=true then 2 else 3:Int)
  have HFl:Hid (∀wx,Below v1.heap.size v1 wx→Calls Tryz.prog 46 #[parV g N cp (i1) nd 0 pa,.int .i64 3] wx fun e w'=>e=.returned (parV g N cp (i1) nd cc k1.pos)∧Below wx.heap.size wx w'):=fun wx hx=>by
   rw[hcc]
   exact l5Fail_core (HV.tk.below hx) H0.1 hl Hk.out nd 0 pa 3
  have HAE:Hid (argsM kd (ks.drop i)=.error (cc,k1.pos)∧1≤cc):=⟨by
   rw[HA2.out,hcc]
   unfold failF
   rw[(drop_hd Hk.out).1,(drop_hd Hk.out).2.1],by rw[hcc];split<;>decide⟩
  clear hcc
  go_upto_region 29 with fail
  have hS0:(fun w':World=>w'.cell? ⟨w.heap.size,0,none⟩=some (.slice (some ⟨g,0,none⟩) N cp)∧w'.cell? ⟨w.heap.size,1,none⟩=some (.int .i64 ((i1:Nat):Int))∧w'.cell? ⟨w.heap.size,2,none⟩=some (.int .i64 (nd:Int))∧w'.cell? ⟨w.heap.size,3,none⟩=some (.int .i64 0)∧w'.cell? ⟨w.heap.size,4,none⟩=some (.int .i64 (pa:Int))∧w'.cell? ⟨w.heap.size+3,0,none⟩=some (.int .i64 kd)∧w'.cell? ⟨w.heap.size+3,1,none⟩=some (.string a.txt)∧w'.cell? ⟨w.heap.size+3,2,none⟩=some (.bool false)∧w'.cell? ⟨w.heap.size+3,3,none⟩=some (.string ⟨#[]⟩)∧w'.cell? ⟨w.heap.size+3,4,none⟩=some (.int .u64 a.nm)∧w'.cell? ⟨w.heap.size+3,5,none⟩=some (.int .u64 0)∧w'.cell? ⟨w.heap.size+3,6,none⟩=some (.int .i64 0)) v1.drew:=⟨HV.p.cell (j:=0) rfl,HV.p.cell (j:=1) rfl,HV.p.cell (j:=2) rfl,HV.p.cell (j:=3) rfl,HV.p.cell (j:=4) rfl,HV.n.cell (j:=0) rfl,HV.n.cell (j:=1) rfl,HV.n.cell (j:=2) rfl,HV.n.cell (j:=3) rfl,HV.n.cell (j:=4) rfl,HV.n.cell (j:=5) rfl,HV.n.cell (j:=6) rfl⟩
  refine wp_region_T 99 (fun w':World=>w'.cell? ⟨w.heap.size,0,none⟩=some (.slice (some ⟨g,0,none⟩) N cp)∧w'.cell? ⟨w.heap.size,1,none⟩=some (.int .i64 ((i1:Nat):Int))∧w'.cell? ⟨w.heap.size,2,none⟩=some (.int .i64 (nd:Int))∧w'.cell? ⟨w.heap.size,3,none⟩=some (.int .i64 0)∧w'.cell? ⟨w.heap.size,4,none⟩=some (.int .i64 (pa:Int))∧w'.cell? ⟨w.heap.size+3,0,none⟩=some (.int .i64 kd)∧w'.cell? ⟨w.heap.size+3,1,none⟩=some (.string a.txt)∧w'.cell? ⟨w.heap.size+3,2,none⟩=some (.bool false)∧w'.cell? ⟨w.heap.size+3,3,none⟩=some (.string ⟨#[]⟩)∧w'.cell? ⟨w.heap.size+3,4,none⟩=some (.int .u64 a.nm)∧w'.cell? ⟨w.heap.size+3,5,none⟩=some (.int .u64 0)∧w'.cell? ⟨w.heap.size+3,6,none⟩=some (.int .i64 0)) (by kernel_rfl) ?_
  refine qT 0 ?vrnbf0 rfl ?yrnbf0 hS0 ?_
  case yrnbf0=>(intro wz hSw;obtain⟨hz0,hz1,hz2,hz3,hz4,hz5,hz6,hz7,hz8,hz9,hz10,hz11⟩:=hSw;go_simp;(try with_reducible rfl))
  try simp only[qA,List.getElem_toArray,List.getElem_cons_zero,List.getElem_cons_succ]
  refine qT 2 ?vrnbf2 rfl ?yrnbf2 hS0 ?_
  case yrnbf2=>(intro wz hSw;obtain⟨hz0,hz1,hz2,hz3,hz4,hz5,hz6,hz7,hz8,hz9,hz10,hz11⟩:=hSw;go_simp;(try with_reducible rfl))
  try simp only[qA,List.getElem_toArray,List.getElem_cons_zero,List.getElem_cons_succ]
  refine qO 1 rfl fun K hK=>?_
  go_simp
  go_at_call 46
  refine(HFl.out v1.drew (Below.refl _ _).drew).mono ?_
  rintro e w5 ⟨rfl,hb5⟩
  have HJ5:Hid (AgJ w base g cp N nd pa ks (i1) (⟨kd,a.txt,false,noS,a.nm,0,0⟩:Nd) w5):=HV.up (((Below.refl _ _).drew).trans (hb5.mono (Nat.le_refl _)))
  have hS5:(fun w':World=>w'.cell? ⟨w.heap.size,0,none⟩=some (.slice (some ⟨g,0,none⟩) N cp)∧w'.cell? ⟨w.heap.size,1,none⟩=some (.int .i64 ((i1:Nat):Int))∧w'.cell? ⟨w.heap.size,2,none⟩=some (.int .i64 (nd:Int))∧w'.cell? ⟨w.heap.size,3,none⟩=some (.int .i64 0)∧w'.cell? ⟨w.heap.size,4,none⟩=some (.int .i64 (pa:Int))∧w'.cell? ⟨w.heap.size+3,0,none⟩=some (.int .i64 kd)∧w'.cell? ⟨w.heap.size+3,1,none⟩=some (.string a.txt)∧w'.cell? ⟨w.heap.size+3,2,none⟩=some (.bool false)∧w'.cell? ⟨w.heap.size+3,3,none⟩=some (.string ⟨#[]⟩)∧w'.cell? ⟨w.heap.size+3,4,none⟩=some (.int .u64 a.nm)∧w'.cell? ⟨w.heap.size+3,5,none⟩=some (.int .u64 0)∧w'.cell? ⟨w.heap.size+3,6,none⟩=some (.int .i64 0)) w5:=⟨HJ5.p.cell (j:=0) rfl,HJ5.p.cell (j:=1) rfl,HJ5.p.cell (j:=2) rfl,HJ5.p.cell (j:=3) rfl,HJ5.p.cell (j:=4) rfl,HJ5.n.cell (j:=0) rfl,HJ5.n.cell (j:=1) rfl,HJ5.n.cell (j:=2) rfl,HJ5.n.cell (j:=3) rfl,HJ5.n.cell (j:=4) rfl,HJ5.n.cell (j:=5) rfl,HJ5.n.cell (j:=6) rfl⟩
  refine hK.out _ _ (.inr hS5) ?_
  clear hK hb5 HFl
  try simp only[qA,List.getElem_toArray,List.getElem_cons_zero,List.getElem_cons_succ]
  obtain⟨c0,c1,c2,c3,c4⟩:=HJ5.rp.c5
  have e0:=HJ5.rp.frozen 0
  have e1:=HJ5.rp.frozen 1
  have e2:=HJ5.rp.frozen 2
  have e3:=HJ5.rp.frozen 3
  have e4:=HJ5.rp.frozen 4
  obtain⟨W6,hW6⟩:∃V:World,V=setP w5 (w.heap.size+1) (.slice (some ⟨g,0,none⟩) N cp) (.int .i64 ((i1:Nat):Int)) (.int .i64 (nd:Int)) (.int .i64 cc) (.int .i64 (k1.pos:Int)):=⟨_,rfl⟩
  have hc6:Chg (fun k=>k=w.heap.size+1) w5 W6:=by rw[hW6];exact chg_setP _ _ _ _ _ _ _
  have hp6:=HJ5.p.chg hc6 (by omega)
  have hn6:=HJ5.n.chg hc6 (by omega)
  have hr6:=HJ5.rn.chg hc6 (by omega)
  have hS6:(fun w':World=>w'.cell? ⟨w.heap.size,0,none⟩=some (.slice (some ⟨g,0,none⟩) N cp)∧w'.cell? ⟨w.heap.size,1,none⟩=some (.int .i64 ((i1:Nat):Int))∧w'.cell? ⟨w.heap.size,2,none⟩=some (.int .i64 (nd:Int))∧w'.cell? ⟨w.heap.size,3,none⟩=some (.int .i64 0)∧w'.cell? ⟨w.heap.size,4,none⟩=some (.int .i64 (pa:Int))∧w'.cell? ⟨w.heap.size+3,0,none⟩=some (.int .i64 kd)∧w'.cell? ⟨w.heap.size+3,1,none⟩=some (.string a.txt)∧w'.cell? ⟨w.heap.size+3,2,none⟩=some (.bool false)∧w'.cell? ⟨w.heap.size+3,3,none⟩=some (.string ⟨#[]⟩)∧w'.cell? ⟨w.heap.size+3,4,none⟩=some (.int .u64 a.nm)∧w'.cell? ⟨w.heap.size+3,5,none⟩=some (.int .u64 0)∧w'.cell? ⟨w.heap.size+3,6,none⟩=some (.int .i64 0)) W6:=⟨hp6.cell (j:=0) rfl,hp6.cell (j:=1) rfl,hp6.cell (j:=2) rfl,hp6.cell (j:=3) rfl,hp6.cell (j:=4) rfl,hn6.cell (j:=0) rfl,hn6.cell (j:=1) rfl,hn6.cell (j:=2) rfl,hn6.cell (j:=3) rfl,hn6.cell (j:=4) rfl,hn6.cell (j:=5) rfl,hn6.cell (j:=6) rfl⟩
  obtain⟨d0,d1,d2,d3,d4,d5,d6⟩:=hr6.c7
  have f0:=hr6.frozen 0
  have f1:=hr6.frozen 1
  have f2:=hr6.frozen 2
  have f3:=hr6.frozen 3
  have f4:=hr6.frozen 4
  have f5:=hr6.frozen 5
  have f6:=hr6.frozen 6
  obtain⟨W9,hW9⟩:∃V:World,V=setN W6 (w.heap.size+2) (⟨kd,a.txt,false,noS,a.nm,0,0⟩:Nd):=⟨_,rfl⟩
  have hc9:Chg (fun k=>k=w.heap.size+2) W6 W9:=by rw[hW9];exact chg_setN _ _ _
  have hp9:=hp6.chg hc9 (by omega)
  have hn9:=hn6.chg hc9 (by omega)
  have hS9:(fun w':World=>w'.cell? ⟨w.heap.size,0,none⟩=some (.slice (some ⟨g,0,none⟩) N cp)∧w'.cell? ⟨w.heap.size,1,none⟩=some (.int .i64 ((i1:Nat):Int))∧w'.cell? ⟨w.heap.size,2,none⟩=some (.int .i64 (nd:Int))∧w'.cell? ⟨w.heap.size,3,none⟩=some (.int .i64 0)∧w'.cell? ⟨w.heap.size,4,none⟩=some (.int .i64 (pa:Int))∧w'.cell? ⟨w.heap.size+3,0,none⟩=some (.int .i64 kd)∧w'.cell? ⟨w.heap.size+3,1,none⟩=some (.string a.txt)∧w'.cell? ⟨w.heap.size+3,2,none⟩=some (.bool false)∧w'.cell? ⟨w.heap.size+3,3,none⟩=some (.string ⟨#[]⟩)∧w'.cell? ⟨w.heap.size+3,4,none⟩=some (.int .u64 a.nm)∧w'.cell? ⟨w.heap.size+3,5,none⟩=some (.int .u64 0)∧w'.cell? ⟨w.heap.size+3,6,none⟩=some (.int .i64 0)) W9:=⟨hp9.cell (j:=0) rfl,hp9.cell (j:=1) rfl,hp9.cell (j:=2) rfl,hp9.cell (j:=3) rfl,hp9.cell (j:=4) rfl,hn9.cell (j:=0) rfl,hn9.cell (j:=1) rfl,hn9.cell (j:=2) rfl,hn9.cell (j:=3) rfl,hn9.cell (j:=4) rfl,hn9.cell (j:=5) rfl,hn9.cell (j:=6) rfl⟩
  have HF:Hid (BoxAt W9 w.heap.size 41 5 (w.heap.size+1) [.slice (some ⟨g,0,none⟩) N cp,.int .i64 ((i1:Nat):Int),.int .i64 (nd:Int),.int .i64 cc,.int .i64 (k1.pos:Int)]∧BoxAt W9 w.heap.size 65 7 (w.heap.size+2) (Nd.seven (⟨kd,a.txt,false,noS,a.nm,0,0⟩:Nd))∧Below w.heap.size w W9):=by
   have hf:=HJ5.fin (.slice (some ⟨g,0,none⟩) N cp) (.int .i64 ((i1:Nat):Int)) (.int .i64 (nd:Int)) (.int .i64 cc) (.int .i64 (k1.pos:Int)) (⟨kd,a.txt,false,noS,a.nm,0,0⟩:Nd)
   rw[hW9,hW6]
   exact hf
  have HR:Hid (ArgP base g cp N nd pa ks kd i w (.returned (.tuple #[parV g N cp (i1) nd cc k1.pos,Nd.v (⟨kd,a.txt,false,noS,a.nm,0,0⟩:Nd)])) W9):=⟨HF.2.2,.inr ⟨cc,k1.pos,i1,(⟨kd,a.txt,false,noS,a.nm,0,0⟩:Nd),HAE.1,HAE.2,rfl⟩⟩
  obtain⟨p0,p1,p2,p3,p4⟩:=HF.1.c5
  obtain⟨q0,q1,q2,q3,q4,q5,q6⟩:=HF.2.1.c7
  unfold setP at hW6
  unfold setN at hW9
  clear hp6 hn6 hr6 hp9 hn9 hc6 hc9
  simp only[leafN,patN,cntN,noS]at hW9 q0 q1 q2 q3 q4 q5 q6
  refine qO 3 rfl fun K hK=>?_
  go_simp
  rw[←hW6]
  refine hK.out _ _ (.inr hS6) ?_
  clear hK hW6
  try simp only[qA,List.getElem_toArray,List.getElem_cons_zero,List.getElem_cons_succ]
  refine qO 4 rfl fun K hK=>?_
  go_simp
  rw[←hW9]
  refine hK.out _ _ (.inr hS9) ?_
  clear hK hW9
  try simp only[qA,List.getElem_toArray,List.getElem_cons_zero,List.getElem_cons_succ]
  refine qD ?_
  clear hS0 hS5 hS6 hS9 c0 c1 c2 c3 c4 d0 d1 d2 d3 d4 d5 d6 e0 e1 e2 e3 e4 f0 f1 f2 f3 f4 f5 f6
  go_wp2_with fail
  exact bodyPost_ret (v:=.tuple #[parV g N cp (i1) nd cc k1.pos,Nd.v (⟨kd,a.txt,false,noS,a.nm,0,0⟩:Nd)]) (by simp[results,Tryz.results49,go_sem,p0,p1,p2,p3,p4,q0,q1,q2,q3,q4,q5,q6,leafN,patN,cntN,noS]) rfl HR.out
 have Hk2:Hid (∃k2,ks[i1+1]?=some k2):=(toks_next H0.2.2.2.2.2 Hk.out (by rw[TkK.isSign_eq hsg];intro q;cases q) (by rw[TkK.isSign_eq hsg];intro q;cases q)).2
 have HA2:Hid (argsM kd (ks.drop i)=upM kd false a (ks.drop (i1+1))):=by
  show _=_
  rw[HA.out]
  unfold dotsM
  rw[(drop_hd Hk.out).1,if_pos hsg,(drop_hd Hk.out).2.2]
 clear hsg
 obtain⟨V2,hV2⟩:∃V:World,V=v1.setCell ⟨w.heap.size,1,none⟩ (.int .i64 ((i1:Int)+1)):=⟨_,rfl⟩
 obtain⟨i2,hi2⟩:∃ix,ix=i1+1:=⟨_,rfl⟩
 have HJ2:Hid (AgJ w base g cp N nd pa ks i2 (⟨kd,a.txt,false,noS,a.nm,0,0⟩:Nd) V2):=by rw[hV2,hi2];exact HV.stepI _ (by simp)
 have Hi2:Hid (i2=i1+1):=hi2
 have hilei2:i1≤i2:=by omega
 clear hi2
 have a1:=HV.p.cell (j:=1) rfl
 have ia:=HV.p.frozen 1
 go_upto_region 31 with fail
 rw[←hV2]
 clear hV2 a1 ia
 obtain⟨k2,hk2⟩:=Hk2.out
 rw[←Hi2.out]at hk2
 have HK2:Hid (ks[i2]?=some k2):=hk2
 have hi2N:i2<N:=by rw[H0.1];exact(List.getElem?_eq_some_iff.1 hk2).1
 have zi2:(i2:Int)<(N:Int):=by omega
 clear hk2 Hk2
 obtain⟨t0,t1,t2,t3⟩:=tk_cells HJ2.tk HK2.out
 have zs:=sort_tk k2.k false
 have zs':(tkN k2.k==2)=k2.k.isSort false:=zs
 clear zs t3
 obtain⟨a0,a1⟩:=HJ2.p.c2
 have HA3:Hid (argsM kd (ks.drop i)=upM kd false a (ks.drop i2)):=by rw[Hi2.out];exact HA2.out
 cases hso:k2.k.isSort false
 case false=>
  rw[hso]at zs'
  have HA4:Hid (argsM kd (ks.drop i)=.ok (ks.drop i2,(⟨kd,a.txt,false,noS,a.nm,0,0⟩:Nd))):=by
   show _=_
   rw[HA3.out]
   unfold upM
   rw[(drop_hd HK2.out).1,if_neg (by rw[hso];simp)]
  clear hso t1 t2
  go_upto_region 38 with fail
  clear t0 zs' a0 a1
  obtain⟨a0,a1,a2,a3,a4⟩:=HJ2.p.c5
  obtain⟨b0,b1,b2,b3,b4,b5,b6⟩:=HJ2.n.c7
  obtain⟨c0,c1,c2,c3,c4⟩:=HJ2.rp.c5
  obtain⟨d0,d1,d2,d3,d4,d5,d6⟩:=HJ2.rn.c7
  have e0:=HJ2.rp.frozen 0
  have e1:=HJ2.rp.frozen 1
  have e2:=HJ2.rp.frozen 2
  have e3:=HJ2.rp.frozen 3
  have e4:=HJ2.rp.frozen 4
  have f0:=HJ2.rn.frozen 0
  have f1:=HJ2.rn.frozen 1
  have f2:=HJ2.rn.frozen 2
  have f3:=HJ2.rn.frozen 3
  have f4:=HJ2.rn.frozen 4
  have f5:=HJ2.rn.frozen 5
  have f6:=HJ2.rn.frozen 6
  obtain⟨W9,hW9⟩:∃V:World,V=(setN (setP V2 (w.heap.size+1) (.slice (some ⟨g,0,none⟩) N cp) (.int .i64 (i2:Int)) (.int .i64 (nd:Int)) (.int .i64 0) (.int .i64 (pa:Int))) (w.heap.size+2) (⟨kd,a.txt,false,noS,a.nm,0,0⟩:Nd)).drew:=⟨_,rfl⟩
  have HF:Hid (BoxAt W9 w.heap.size 41 5 (w.heap.size+1) [.slice (some ⟨g,0,none⟩) N cp,.int .i64 (i2:Int),.int .i64 (nd:Int),.int .i64 0,.int .i64 (pa:Int)]∧BoxAt W9 w.heap.size 65 7 (w.heap.size+2) (Nd.seven (⟨kd,a.txt,false,noS,a.nm,0,0⟩:Nd))∧Below w.heap.size w W9):=by
   have hf:=HJ2.fin (.slice (some ⟨g,0,none⟩) N cp) (.int .i64 (i2:Int)) (.int .i64 (nd:Int)) (.int .i64 0) (.int .i64 (pa:Int)) (⟨kd,a.txt,false,noS,a.nm,0,0⟩:Nd)
   have hd:∀X:World,Below X.heap.size X X.drew:=fun X=>(Below.refl _ _).drew
   rw[hW9]
   exact⟨hf.1.below (hd _),hf.2.1.below (hd _),hf.2.2.trans ((hd _).mono hf.2.2.size)⟩
  have HR:Hid (ArgP base g cp N nd pa ks kd i w (.returned (.tuple #[parV g N cp (i2) nd 0 pa,Nd.v (⟨kd,a.txt,false,noS,a.nm,0,0⟩:Nd)])) W9):=⟨HF.2.2,.inl ⟨i2,(⟨kd,a.txt,false,noS,a.nm,0,0⟩:Nd),HA4.out,by omega,by omega,rfl⟩⟩
  obtain⟨p0,p1,p2,p3,p4⟩:=HF.1.c5
  obtain⟨q0,q1,q2,q3,q4,q5,q6⟩:=HF.2.1.c7
  unfold setN setP at hW9
  simp only[leafN,patN,cntN,noS]at hW9 b0 b1 b2 b3 b4 b5 b6 q0 q1 q2 q3 q4 q5 q6
  go_region
  rw[←hW9]
  clear hW9 a0 a1 a2 a3 a4 b0 b1 b2 b3 b4 b5 b6 c0 c1 c2 c3 c4 d0 d1 d2 d3 d4 d5 d6 e0 e1 e2 e3 e4 f0 f1 f2 f3 f4 f5 f6
  go_wp2_with fail
  exact bodyPost_ret (v:=.tuple #[parV g N cp (i2) nd 0 pa,Nd.v (⟨kd,a.txt,false,noS,a.nm,0,0⟩:Nd)]) (by simp[results,Tryz.results49,go_sem,p0,p1,p2,p3,p4,q0,q1,q2,q3,q4,q5,q6,leafN,patN,cntN,noS]) rfl HR.out
 obtain⟨htx,hnf,hnb,hz1,hz2⟩:=sort_txt hso
 have Hk3:Hid (∃k3,ks[i2+1]?=some k3):=(toks_next H0.2.2.2.2.2 HK2.out hnf hnb).2
 have HA4:Hid (argsM kd (ks.drop i)=if less a.txt k2.k.txt∨a.nm<k2.k.nm then .ok (ks.drop (i2+1),(⟨kd,a.txt,true,k2.k.txt,a.nm,k2.k.nm,0⟩:Nd))else failF 7 (ks.drop i2)):=by
  show _=_
  rw[HA3.out]
  unfold upM
  rw[(drop_hd HK2.out).1,if_pos hso,(drop_hd HK2.out).2.2]
 have HTx:Hid (tkT k2.k=k2.k.txt):=htx
 have HZ:Hid (a.txt=noS∧k2.k.txt=noS):=⟨Hz.out,hz2 rfl⟩
 rw[htx]at t2
 rw[hso]at zs'
 clear htx hnf hnb hz1 hz2 hso
 have hi3N:i2+1<N:=by
  obtain⟨k3,hk3⟩:=Hk3.out
  rw[H0.1];exact(List.getElem?_eq_some_iff.1 hk3).1
 obtain⟨V3,hV3⟩:∃V:World,V=V2.setCell ⟨w.heap.size+3,2,none⟩ (.bool true):=⟨_,rfl⟩
 have HJ3:Hid (AgJ w base g cp N nd pa ks i2 (⟨kd,a.txt,true,noS,a.nm,0,0⟩:Nd) V3):=by rw[hV3];exact HJ2.stepN 2 _ rfl
 have n2:=HJ2.n.cell (j:=2) rfl
 have m2:=HJ2.n.frozen 2
 go_upto_region 33 with fail
 rw[←hV3]
 clear hV3 n2 m2 a0 a1 t0 t1 t2 zs'
 obtain⟨t0,t1,t2,t3⟩:=tk_cells HJ3.tk HK2.out
 have zs:tkT k2.k=k2.k.txt:=HTx.out
 rw[zs]at t2
 clear zs
 obtain⟨a0,a1⟩:=HJ3.p.c2
 obtain⟨V4,hV4⟩:∃V:World,V=V3.setCell ⟨w.heap.size+3,3,none⟩ (.string k2.k.txt):=⟨_,rfl⟩
 have HJ4:Hid (AgJ w base g cp N nd pa ks i2 (⟨kd,a.txt,true,k2.k.txt,a.nm,0,0⟩:Nd) V4):=by rw[hV4];exact HJ3.stepN 3 _ rfl
 have n3:=HJ3.n.cell (j:=3) rfl
 have m3:=HJ3.n.frozen 3
 go_upto_region 34 with fail
 rw[←hV4]
 clear hV4 n3 m3 a0 a1 t0 t1 t2 t3
 obtain⟨t0,t1,t2,t3⟩:=tk_cells HJ4.tk HK2.out
 obtain⟨a0,a1⟩:=HJ4.p.c2
 obtain⟨V5,hV5⟩:∃V:World,V=V4.setCell ⟨w.heap.size+3,5,none⟩ (.int .u64 k2.k.nm):=⟨_,rfl⟩
 have HJ5x:Hid (AgJ w base g cp N nd pa ks i2 (⟨kd,a.txt,true,k2.k.txt,a.nm,k2.k.nm,0⟩:Nd) V5):=by rw[hV5];exact HJ4.stepN 5 _ rfl
 have n5:=HJ4.n.cell (j:=5) rfl
 have m5:=HJ4.n.frozen 5
 go_upto_region 35 with fail
 rw[←hV5]
 clear hV5 n5 m5 a0 a1 t0 t1 t2 t3
 have g4:=HJ5x.n.cell (j:=4) rfl
 have g5:=HJ5x.n.cell (j:=5) rfl
 by_cases hls:a.nm<k2.k.nm
 case neg=>
  have hbl:decide (k2.k.nm≤a.nm)=true:=decide_eq_true (by omega)
  have HA5:Hid (argsM kd (ks.drop i)=failF 7 (ks.drop i2)):=by
   show _=_
   rw[HA4.out,if_neg (by rw[HZ.1,HZ.2];intro q;rcases q with q|q
                         ·exact less_no q
                         ·exact hls q)]
  clear hls
  obtain⟨cc,hcc⟩:=qE (if k2.k.isBad=true then 2 else 7:Int)
  have HFl:Hid (∀wx,Below V5.heap.size V5 wx→Calls Tryz.prog 46 #[parV g N cp (i2) nd 0 pa,.int .i64 7] wx fun e w'=>e=.returned (parV g N cp (i2) nd cc k2.pos)∧Below wx.heap.size wx w'):=fun wx hx=>by
   rw[hcc]
   exact l5Fail_core (HJ5x.tk.below hx) H0.1 hl HK2.out nd 0 pa 7
  have HAE:Hid (argsM kd (ks.drop i)=.error (cc,k2.pos)∧1≤cc):=⟨by
   rw[HA5.out,hcc]
   unfold failF
   rw[(drop_hd HK2.out).1,(drop_hd HK2.out).2.1],by rw[hcc];split<;>decide⟩
  clear hcc
  go_upto_region 36 with fail
  have hS0:(fun w':World=>w'.cell? ⟨w.heap.size,0,none⟩=some (.slice (some ⟨g,0,none⟩) N cp)∧w'.cell? ⟨w.heap.size,1,none⟩=some (.int .i64 ((i2:Nat):Int))∧w'.cell? ⟨w.heap.size,2,none⟩=some (.int .i64 (nd:Int))∧w'.cell? ⟨w.heap.size,3,none⟩=some (.int .i64 0)∧w'.cell? ⟨w.heap.size,4,none⟩=some (.int .i64 (pa:Int))∧w'.cell? ⟨w.heap.size+3,0,none⟩=some (.int .i64 kd)∧w'.cell? ⟨w.heap.size+3,1,none⟩=some (.string a.txt)∧w'.cell? ⟨w.heap.size+3,2,none⟩=some (.bool true)∧w'.cell? ⟨w.heap.size+3,3,none⟩=some (.string k2.k.txt)∧w'.cell? ⟨w.heap.size+3,4,none⟩=some (.int .u64 a.nm)∧w'.cell? ⟨w.heap.size+3,5,none⟩=some (.int .u64 k2.k.nm)∧w'.cell? ⟨w.heap.size+3,6,none⟩=some (.int .i64 0)) V5.drew:=⟨HJ5x.p.cell (j:=0) rfl,HJ5x.p.cell (j:=1) rfl,HJ5x.p.cell (j:=2) rfl,HJ5x.p.cell (j:=3) rfl,HJ5x.p.cell (j:=4) rfl,HJ5x.n.cell (j:=0) rfl,HJ5x.n.cell (j:=1) rfl,HJ5x.n.cell (j:=2) rfl,HJ5x.n.cell (j:=3) rfl,HJ5x.n.cell (j:=4) rfl,HJ5x.n.cell (j:=5) rfl,HJ5x.n.cell (j:=6) rfl⟩
  refine wp_region_T 99 (fun w':World=>w'.cell? ⟨w.heap.size,0,none⟩=some (.slice (some ⟨g,0,none⟩) N cp)∧w'.cell? ⟨w.heap.size,1,none⟩=some (.int .i64 ((i2:Nat):Int))∧w'.cell? ⟨w.heap.size,2,none⟩=some (.int .i64 (nd:Int))∧w'.cell? ⟨w.heap.size,3,none⟩=some (.int .i64 0)∧w'.cell? ⟨w.heap.size,4,none⟩=some (.int .i64 (pa:Int))∧w'.cell? ⟨w.heap.size+3,0,none⟩=some (.int .i64 kd)∧w'.cell? ⟨w.heap.size+3,1,none⟩=some (.string a.txt)∧w'.cell? ⟨w.heap.size+3,2,none⟩=some (.bool true)∧w'.cell? ⟨w.heap.size+3,3,none⟩=some (.string k2.k.txt)∧w'.cell? ⟨w.heap.size+3,4,none⟩=some (.int .u64 a.nm)∧w'.cell? ⟨w.heap.size+3,5,none⟩=some (.int .u64 k2.k.nm)∧w'.cell? ⟨w.heap.size+3,6,none⟩=some (.int .i64 0)) (by kernel_rfl) ?_
  refine qT 0 ?vrnbg0 rfl ?yrnbg0 hS0 ?_
  case yrnbg0=>(intro wz hSw;obtain⟨hz0,hz1,hz2,hz3,hz4,hz5,hz6,hz7,hz8,hz9,hz10,hz11⟩:=hSw;go_simp;(try with_reducible rfl))
  try simp only[qA,List.getElem_toArray,List.getElem_cons_zero,List.getElem_cons_succ]
  refine qT 2 ?vrnbg2 rfl ?yrnbg2 hS0 ?_
  case yrnbg2=>(intro wz hSw;obtain⟨hz0,hz1,hz2,hz3,hz4,hz5,hz6,hz7,hz8,hz9,hz10,hz11⟩:=hSw;go_simp;(try with_reducible rfl))
  try simp only[qA,List.getElem_toArray,List.getElem_cons_zero,List.getElem_cons_succ]
  refine qO 1 rfl fun K hK=>?_
  go_simp
  go_at_call 46
  refine(HFl.out V5.drew (Below.refl _ _).drew).mono ?_
  rintro e w5 ⟨rfl,hb5⟩
  have HJ5:Hid (AgJ w base g cp N nd pa ks (i2) (⟨kd,a.txt,true,k2.k.txt,a.nm,k2.k.nm,0⟩:Nd) w5):=HJ5x.up (((Below.refl _ _).drew).trans (hb5.mono (Nat.le_refl _)))
  have hS5:(fun w':World=>w'.cell? ⟨w.heap.size,0,none⟩=some (.slice (some ⟨g,0,none⟩) N cp)∧w'.cell? ⟨w.heap.size,1,none⟩=some (.int .i64 ((i2:Nat):Int))∧w'.cell? ⟨w.heap.size,2,none⟩=some (.int .i64 (nd:Int))∧w'.cell? ⟨w.heap.size,3,none⟩=some (.int .i64 0)∧w'.cell? ⟨w.heap.size,4,none⟩=some (.int .i64 (pa:Int))∧w'.cell? ⟨w.heap.size+3,0,none⟩=some (.int .i64 kd)∧w'.cell? ⟨w.heap.size+3,1,none⟩=some (.string a.txt)∧w'.cell? ⟨w.heap.size+3,2,none⟩=some (.bool true)∧w'.cell? ⟨w.heap.size+3,3,none⟩=some (.string k2.k.txt)∧w'.cell? ⟨w.heap.size+3,4,none⟩=some (.int .u64 a.nm)∧w'.cell? ⟨w.heap.size+3,5,none⟩=some (.int .u64 k2.k.nm)∧w'.cell? ⟨w.heap.size+3,6,none⟩=some (.int .i64 0)) w5:=⟨HJ5.p.cell (j:=0) rfl,HJ5.p.cell (j:=1) rfl,HJ5.p.cell (j:=2) rfl,HJ5.p.cell (j:=3) rfl,HJ5.p.cell (j:=4) rfl,HJ5.n.cell (j:=0) rfl,HJ5.n.cell (j:=1) rfl,HJ5.n.cell (j:=2) rfl,HJ5.n.cell (j:=3) rfl,HJ5.n.cell (j:=4) rfl,HJ5.n.cell (j:=5) rfl,HJ5.n.cell (j:=6) rfl⟩
  refine hK.out _ _ (.inr hS5) ?_
  clear hK hb5 HFl
  try simp only[qA,List.getElem_toArray,List.getElem_cons_zero,List.getElem_cons_succ]
  obtain⟨c0,c1,c2,c3,c4⟩:=HJ5.rp.c5
  have e0:=HJ5.rp.frozen 0
  have e1:=HJ5.rp.frozen 1
  have e2:=HJ5.rp.frozen 2
  have e3:=HJ5.rp.frozen 3
  have e4:=HJ5.rp.frozen 4
  obtain⟨W6,hW6⟩:∃V:World,V=setP w5 (w.heap.size+1) (.slice (some ⟨g,0,none⟩) N cp) (.int .i64 ((i2:Nat):Int)) (.int .i64 (nd:Int)) (.int .i64 cc) (.int .i64 (k2.pos:Int)):=⟨_,rfl⟩
  have hc6:Chg (fun k=>k=w.heap.size+1) w5 W6:=by rw[hW6];exact chg_setP _ _ _ _ _ _ _
  have hp6:=HJ5.p.chg hc6 (by omega)
  have hn6:=HJ5.n.chg hc6 (by omega)
  have hr6:=HJ5.rn.chg hc6 (by omega)
  have hS6:(fun w':World=>w'.cell? ⟨w.heap.size,0,none⟩=some (.slice (some ⟨g,0,none⟩) N cp)∧w'.cell? ⟨w.heap.size,1,none⟩=some (.int .i64 ((i2:Nat):Int))∧w'.cell? ⟨w.heap.size,2,none⟩=some (.int .i64 (nd:Int))∧w'.cell? ⟨w.heap.size,3,none⟩=some (.int .i64 0)∧w'.cell? ⟨w.heap.size,4,none⟩=some (.int .i64 (pa:Int))∧w'.cell? ⟨w.heap.size+3,0,none⟩=some (.int .i64 kd)∧w'.cell? ⟨w.heap.size+3,1,none⟩=some (.string a.txt)∧w'.cell? ⟨w.heap.size+3,2,none⟩=some (.bool true)∧w'.cell? ⟨w.heap.size+3,3,none⟩=some (.string k2.k.txt)∧w'.cell? ⟨w.heap.size+3,4,none⟩=some (.int .u64 a.nm)∧w'.cell? ⟨w.heap.size+3,5,none⟩=some (.int .u64 k2.k.nm)∧w'.cell? ⟨w.heap.size+3,6,none⟩=some (.int .i64 0)) W6:=⟨hp6.cell (j:=0) rfl,hp6.cell (j:=1) rfl,hp6.cell (j:=2) rfl,hp6.cell (j:=3) rfl,hp6.cell (j:=4) rfl,hn6.cell (j:=0) rfl,hn6.cell (j:=1) rfl,hn6.cell (j:=2) rfl,hn6.cell (j:=3) rfl,hn6.cell (j:=4) rfl,hn6.cell (j:=5) rfl,hn6.cell (j:=6) rfl⟩
  obtain⟨d0,d1,d2,d3,d4,d5,d6⟩:=hr6.c7
  have f0:=hr6.frozen 0
  have f1:=hr6.frozen 1
  have f2:=hr6.frozen 2
  have f3:=hr6.frozen 3
  have f4:=hr6.frozen 4
  have f5:=hr6.frozen 5
  have f6:=hr6.frozen 6
  obtain⟨W9,hW9⟩:∃V:World,V=setN W6 (w.heap.size+2) (⟨kd,a.txt,true,k2.k.txt,a.nm,k2.k.nm,0⟩:Nd):=⟨_,rfl⟩
  have hc9:Chg (fun k=>k=w.heap.size+2) W6 W9:=by rw[hW9];exact chg_setN _ _ _
  have hp9:=hp6.chg hc9 (by omega)
  have hn9:=hn6.chg hc9 (by omega)
  have hS9:(fun w':World=>w'.cell? ⟨w.heap.size,0,none⟩=some (.slice (some ⟨g,0,none⟩) N cp)∧w'.cell? ⟨w.heap.size,1,none⟩=some (.int .i64 ((i2:Nat):Int))∧w'.cell? ⟨w.heap.size,2,none⟩=some (.int .i64 (nd:Int))∧w'.cell? ⟨w.heap.size,3,none⟩=some (.int .i64 0)∧w'.cell? ⟨w.heap.size,4,none⟩=some (.int .i64 (pa:Int))∧w'.cell? ⟨w.heap.size+3,0,none⟩=some (.int .i64 kd)∧w'.cell? ⟨w.heap.size+3,1,none⟩=some (.string a.txt)∧w'.cell? ⟨w.heap.size+3,2,none⟩=some (.bool true)∧w'.cell? ⟨w.heap.size+3,3,none⟩=some (.string k2.k.txt)∧w'.cell? ⟨w.heap.size+3,4,none⟩=some (.int .u64 a.nm)∧w'.cell? ⟨w.heap.size+3,5,none⟩=some (.int .u64 k2.k.nm)∧w'.cell? ⟨w.heap.size+3,6,none⟩=some (.int .i64 0)) W9:=⟨hp9.cell (j:=0) rfl,hp9.cell (j:=1) rfl,hp9.cell (j:=2) rfl,hp9.cell (j:=3) rfl,hp9.cell (j:=4) rfl,hn9.cell (j:=0) rfl,hn9.cell (j:=1) rfl,hn9.cell (j:=2) rfl,hn9.cell (j:=3) rfl,hn9.cell (j:=4) rfl,hn9.cell (j:=5) rfl,hn9.cell (j:=6) rfl⟩
  have HF:Hid (BoxAt W9 w.heap.size 41 5 (w.heap.size+1) [.slice (some ⟨g,0,none⟩) N cp,.int .i64 ((i2:Nat):Int),.int .i64 (nd:Int),.int .i64 cc,.int .i64 (k2.pos:Int)]∧BoxAt W9 w.heap.size 65 7 (w.heap.size+2) (Nd.seven (⟨kd,a.txt,true,k2.k.txt,a.nm,k2.k.nm,0⟩:Nd))∧Below w.heap.size w W9):=by
   have hf:=HJ5.fin (.slice (some ⟨g,0,none⟩) N cp) (.int .i64 ((i2:Nat):Int)) (.int .i64 (nd:Int)) (.int .i64 cc) (.int .i64 (k2.pos:Int)) (⟨kd,a.txt,true,k2.k.txt,a.nm,k2.k.nm,0⟩:Nd)
   rw[hW9,hW6]
   exact hf
  have HR:Hid (ArgP base g cp N nd pa ks kd i w (.returned (.tuple #[parV g N cp (i2) nd cc k2.pos,Nd.v (⟨kd,a.txt,true,k2.k.txt,a.nm,k2.k.nm,0⟩:Nd)])) W9):=⟨HF.2.2,.inr ⟨cc,k2.pos,i2,(⟨kd,a.txt,true,k2.k.txt,a.nm,k2.k.nm,0⟩:Nd),HAE.1,HAE.2,rfl⟩⟩
  obtain⟨p0,p1,p2,p3,p4⟩:=HF.1.c5
  obtain⟨q0,q1,q2,q3,q4,q5,q6⟩:=HF.2.1.c7
  unfold setP at hW6
  unfold setN at hW9
  clear hp6 hn6 hr6 hp9 hn9 hc6 hc9
  simp only[leafN,patN,cntN,noS]at hW9 q0 q1 q2 q3 q4 q5 q6
  refine qO 3 rfl fun K hK=>?_
  go_simp
  rw[←hW6]
  refine hK.out _ _ (.inr hS6) ?_
  clear hK hW6
  try simp only[qA,List.getElem_toArray,List.getElem_cons_zero,List.getElem_cons_succ]
  refine qO 4 rfl fun K hK=>?_
  go_simp
  rw[←hW9]
  refine hK.out _ _ (.inr hS9) ?_
  clear hK hW9
  try simp only[qA,List.getElem_toArray,List.getElem_cons_zero,List.getElem_cons_succ]
  refine qD ?_
  clear hS0 hS5 hS6 hS9 c0 c1 c2 c3 c4 d0 d1 d2 d3 d4 d5 d6 e0 e1 e2 e3 e4 f0 f1 f2 f3 f4 f5 f6
  go_wp2_with fail
  exact bodyPost_ret (v:=.tuple #[parV g N cp (i2) nd cc k2.pos,Nd.v (⟨kd,a.txt,true,k2.k.txt,a.nm,k2.k.nm,0⟩:Nd)]) (by simp[results,Tryz.results49,go_sem,p0,p1,p2,p3,p4,q0,q1,q2,q3,q4,q5,q6,leafN,patN,cntN,noS]) rfl HR.out
 have hbl:decide (k2.k.nm≤a.nm)=false:=decide_eq_false (by omega)
 have HA5:Hid (argsM kd (ks.drop i)=.ok (ks.drop (i2+1),(⟨kd,a.txt,true,k2.k.txt,a.nm,k2.k.nm,0⟩:Nd))):=by
  show _=_
  rw[HA4.out,if_pos (.inr hls)]
 clear hls
 obtain⟨V6,hV6⟩:∃V:World,V=V5.setCell ⟨w.heap.size,1,none⟩ (.int .i64 ((i2:Int)+1)):=⟨_,rfl⟩
 obtain⟨i3,hi3⟩:∃ix,ix=i2+1:=⟨_,rfl⟩
 have HJ6:Hid (AgJ w base g cp N nd pa ks i3 (⟨kd,a.txt,true,k2.k.txt,a.nm,k2.k.nm,0⟩:Nd) V6):=by rw[hV6,hi3];exact HJ5x.stepI _ (by simp)
 have Hi3:Hid (i3=i2+1):=hi3
 have hilei3:i2≤i3:=by omega
 clear hi3
 have a1:=HJ5x.p.cell (j:=1) rfl
 have ia:=HJ5x.p.frozen 1
 go_upto_region 38 with fail
 rw[←hV6]
 have hi3:i3<N:=by rw[Hi3.out];exact hi3N
 clear hV6 a1 ia hbl
 obtain⟨a0,a1,a2,a3,a4⟩:=HJ6.p.c5
 obtain⟨b0,b1,b2,b3,b4,b5,b6⟩:=HJ6.n.c7
 obtain⟨c0,c1,c2,c3,c4⟩:=HJ6.rp.c5
 obtain⟨d0,d1,d2,d3,d4,d5,d6⟩:=HJ6.rn.c7
 have e0:=HJ6.rp.frozen 0
 have e1:=HJ6.rp.frozen 1
 have e2:=HJ6.rp.frozen 2
 have e3:=HJ6.rp.frozen 3
 have e4:=HJ6.rp.frozen 4
 have f0:=HJ6.rn.frozen 0
 have f1:=HJ6.rn.frozen 1
 have f2:=HJ6.rn.frozen 2
 have f3:=HJ6.rn.frozen 3
 have f4:=HJ6.rn.frozen 4
 have f5:=HJ6.rn.frozen 5
 have f6:=HJ6.rn.frozen 6
 obtain⟨W9,hW9⟩:∃V:World,V=(setN (setP V6 (w.heap.size+1) (.slice (some ⟨g,0,none⟩) N cp) (.int .i64 (i3:Int)) (.int .i64 (nd:Int)) (.int .i64 0) (.int .i64 (pa:Int))) (w.heap.size+2) (⟨kd,a.txt,true,k2.k.txt,a.nm,k2.k.nm,0⟩:Nd)).drew:=⟨_,rfl⟩
 have HF:Hid (BoxAt W9 w.heap.size 41 5 (w.heap.size+1) [.slice (some ⟨g,0,none⟩) N cp,.int .i64 (i3:Int),.int .i64 (nd:Int),.int .i64 0,.int .i64 (pa:Int)]∧BoxAt W9 w.heap.size 65 7 (w.heap.size+2) (Nd.seven (⟨kd,a.txt,true,k2.k.txt,a.nm,k2.k.nm,0⟩:Nd))∧Below w.heap.size w W9):=by
  have hf:=HJ6.fin (.slice (some ⟨g,0,none⟩) N cp) (.int .i64 (i3:Int)) (.int .i64 (nd:Int)) (.int .i64 0) (.int .i64 (pa:Int)) (⟨kd,a.txt,true,k2.k.txt,a.nm,k2.k.nm,0⟩:Nd)
  have hd:∀X:World,Below X.heap.size X X.drew:=fun X=>(Below.refl _ _).drew
  rw[hW9]
  exact⟨hf.1.below (hd _),hf.2.1.below (hd _),hf.2.2.trans ((hd _).mono hf.2.2.size)⟩
 have HR:Hid (ArgP base g cp N nd pa ks kd i w (.returned (.tuple #[parV g N cp (i3) nd 0 pa,Nd.v (⟨kd,a.txt,true,k2.k.txt,a.nm,k2.k.nm,0⟩:Nd)])) W9):=⟨HF.2.2,.inl ⟨i3,(⟨kd,a.txt,true,k2.k.txt,a.nm,k2.k.nm,0⟩:Nd),by rw[Hi3.out];exact HA5.out,by omega,by omega,rfl⟩⟩
 obtain⟨p0,p1,p2,p3,p4⟩:=HF.1.c5
 obtain⟨q0,q1,q2,q3,q4,q5,q6⟩:=HF.2.1.c7
 unfold setN setP at hW9
 simp only[leafN,patN,cntN,noS]at hW9 b0 b1 b2 b3 b4 b5 b6 q0 q1 q2 q3 q4 q5 q6
 go_region
 rw[←hW9]
 clear hW9 a0 a1 a2 a3 a4 b0 b1 b2 b3 b4 b5 b6 c0 c1 c2 c3 c4 d0 d1 d2 d3 d4 d5 d6 e0 e1 e2 e3 e4 f0 f1 f2 f3 f4 f5 f6
 go_wp2_with fail
 exact bodyPost_ret (v:=.tuple #[parV g N cp (i3) nd 0 pa,Nd.v (⟨kd,a.txt,true,k2.k.txt,a.nm,k2.k.nm,0⟩:Nd)]) (by simp[results,Tryz.results49,go_sem,p0,p1,p2,p3,p4,q0,q1,q2,q3,q4,q5,q6,leafN,patN,cntN,noS]) rfl HR.out
theorem args_all {w:World} {base g cp N nd pa:Nat} {ks:List Tk} {i:Nat} {k:Tk} (h:OwnTk w base g cp ks) (hN:N=ks.length) (hl:N≤1000000) (hk:ks[i]?=some k) (hT:Toks ks) (kd:Int) (h1:1≤kd∧kd≤13):Calls Tryz.prog 49 #[parV g N cp i nd 0 pa,.int .i64 kd] w (ArgP base g cp N nd pa ks kd i w):=by
 by_cases h3:kd≤3
 ·exact args_low h hN hl hk hT kd h3
 by_cases h7:kd≤7
 ·by_cases hs:tkN k.k=3
  ·obtain⟨sx,hsx⟩:=tkN_str hs
   exact args_str h hN hl hk hT kd h3 h7 hsx
  ·exact args_nostr h hN hl hk hT kd h3 h7 hs
 by_cases h9:kd≤9
 ·exact args_rs h hN hl hk hT kd (by omega)
 by_cases h10:kd=10
 ·exact args_rn h hN hl hk hT kd h10
 by_cases hs:tkN k.k=2
 ·obtain⟨sx,hsx⟩:=tkN_num hs
  exact args_num h hN hl hk hT kd (by omega) hsx
 ·exact args_nonum h hN hl hk hT kd (by omega) hs
def slLen:Value→Nat
 | .slice _ n _=>n
 |_=>0
structure DrJ (w:World) (base gs cs go:Nat) (st:List (Int×Nat)) (out:List Nd) (all:Bool) (st1:List (Int×Nat)) (out1:List Nd) (m n1 g1 c1:Nat) (wr:World):Prop where
 eq:drainF all st out=drainF all st1 out1
 own:OwnEn wr base gs cs st1.reverse
 nds:OwnNd wr base g1 c1 out1
 chg:Chg (fun k=>k=go) w wr
 ne:¬g1=gs
 ap:g1=go∨w.heap.size≤g1
 sm:m=st1.length
 on:n1=out1.length
def DrP (w:World) (base gs cs go:Nat) (st:List (Int×Nat)) (out:List Nd) (all:Bool) (e:Ending) (w':World):Prop:=∃(st1:List (Int×Nat)) (out1:List Nd) (g1 c1:Nat),e=.returned (.tuple #[.slice (some ⟨gs,0,none⟩) st1.length cs,.slice (some ⟨g1,0,none⟩) out1.length c1])∧drainF all st out=(st1,out1)∧Hid (OwnEn w' base gs cs st1.reverse∧OwnNd w' base g1 c1 out1∧Chg (fun k=>k=go) w w'∧¬g1=gs∧(g1=go∨w.heap.size≤g1))
theorem DrJ.done {w:World} {base gs cs go:Nat} {st:List (Int×Nat)} {out:List Nd} {all:Bool} {st1:List (Int×Nat)} {out1:List Nd} {m n1 g1 c1:Nat} {wr:World} (h:DrJ w base gs cs go st out all st1 out1 m n1 g1 c1 wr) (he:drainF all st1 out1=(st1,out1)):DrP w base gs cs go st out all (.returned (.tuple #[.slice (some ⟨gs,0,none⟩) m cs,.slice (some ⟨g1,0,none⟩) n1 c1])) wr:=
 ⟨st1,out1,g1,c1,by rw[h.sm,h.on],h.eq.trans he,h.own,h.nds,h.chg,h.ne,h.ap⟩
set_option maxHeartbeats 8000000 in
theorem l5Drain_core {w:World} {base gs cs go co:Nat} {st:List (Int×Nat)} {out:List Nd} (all:Bool) (hs:OwnEn w base gs cs st.reverse) (ho:OwnNd w base go co out) (hne:¬go=gs) (hl:st.length+out.length≤100000) (hbs:base≤w.heap.size):
  Calls Tryz.prog 51 #[.slice (some ⟨gs,0,none⟩) st.length cs,.slice (some ⟨go,0,none⟩) out.length co,.bool all] w (DrP w base gs cs go st out all):=by
 obtain⟨m0,hm0⟩:∃m,m=st.length:=⟨_,rfl⟩
 obtain⟨n0,hn0⟩:∃n,n=out.length:=⟨_,rfl⟩
 have H0:Hid (DrJ w base gs cs go st out all st out m0 n0 go co w):=⟨rfl,hs,ho,Chg.of_below (Below.refl _ _),hne,.inl rfl,hm0,hn0⟩
 rw[←hm0,←hn0]at hl⊢
 clear hs ho hne hm0 hn0
 go_enter Tryz.func51,Tryz.ntmps51
 go_wp2_with fail
 go_loopw[0,1] (fun sv ov wr=>∃(m n1 g1 c1:Nat) (st1:List (Int×Nat)) (out1:List Nd),sv=.slice (some ⟨gs,0,none⟩) m cs∧ov=.slice (some ⟨g1,0,none⟩) n1 c1∧m≤100000∧m+n1≤100000∧DrJ w base gs cs go st out all st1 out1 m n1 g1 c1 wr) (fun sv _ _=>slLen sv)
 case atStart=>exact⟨m0,n0,go,co,st,out,rfl,rfl,by omega,hl,H0.out⟩
 case round=>
  clear H0
  obtain⟨m',n1,g1,c1,st1,out1,rfl,rfl,hml,hmn,hJ⟩:=hrel
  have hgl:=hJ.nds.lt
  have hsl:=hJ.own.lt
  have hcs:cs≤9223372036854775807:=by have:=hJ.own.caps.2;unfold maxLen at this;omega
  have hmc:m'≤cs:=by have:=hJ.own.caps.1;rw[List.length_reverse,←hJ.sm]at this;exact this
  have sr:=hJ.chg.size
  cases st1 with
  |nil=>
   obtain rfl:m'=0:=hJ.sm
   have HJ:Hid (DrJ w base gs cs go st out all [] out1 0 n1 g1 c1 wr):=hJ
   clear hJ
   go_wp2_with fail
   exact bodyPost_ret (v:=.tuple #[.slice (some ⟨gs,0,none⟩) 0 cs,.slice (some ⟨g1,0,none⟩) n1 c1]) (by simp[results,Tryz.results51,go_sem]) rfl (HJ.done rfl)
  |cons e st2=>
   obtain⟨e1,l1⟩:=e
   obtain⟨m,rfl⟩:∃m,m'=m+1:=⟨m'-1,by have:=hJ.sm;simp at this;omega⟩
   have HJ:Hid (DrJ w base gs cs go st out all ((e1,l1)::st2) out1 (m+1) n1 g1 c1 wr):=hJ
   have HS2:Hid (m=st2.length):=by have:=hJ.sm;simp at this;exact this
   have c0:=hJ.own.cell enV_len (i:=m) (e:=(e1,l1)) (by rw[List.reverse_cons,List.getElem?_append_right (by simp[HS2.out]),List.length_reverse,HS2.out];simp) 0 (by omega)
   simp at c0
   have zm:(0:Int)<(m:Int)+1:=by omega
   have zc:(m:Int)≤(cs:Int):=by omega
   clear hJ
   by_cases he1:e1=1
   ·have z1:(e1==1)=true:=by rw[beq_iff_eq];exact he1
    have z2:(e1==2)=false:=by rw[beq_eq_false_iff_ne];omega
    have HD:Hid (drainF all ((e1,l1)::st2) out1=drainF all st2 (out1++ [leafN 14])):=by
     show _=_
     rw[drainF_cons,if_pos (.inl he1),he1]
     rfl
    have hop:OwnEn wr base gs cs st2.reverse:=by
     have h9:=HJ.own.take enV_len (k:=st2.length) (by simp)
     rw[List.reverse_cons,List.take_append_of_le_length (by simp),List.take_of_length_le (by simp)]at h9
     exact h9
    obtain⟨W2,hW2⟩:=qE (wr.alloc (Obj.cells #[.int .i64 14,.string ⟨#[]⟩,.bool false,.string ⟨#[]⟩,.int .u64 0,.int .u64 0,.int .i64 0] 65):World)
    have hb2:Below wr.heap.size wr W2:=by rw[hW2];exact qB
    have s2:=hb2.size
    have HW2:Hid (OwnEn W2 base gs cs st2.reverse∧OwnNd W2 base g1 c1 out1∧NdsAt W2 wr.heap.size 0 [leafN 14]∧Chg (fun k=>k=go) w W2):=by
     refine⟨hop.below hb2,HJ.nds.below hb2 HJ.nds.lt.2,?_,HJ.chg.trans (Chg.of_below hb2)⟩
     intro i e he
     cases i with
     |zero=>
      simp at he
      subst he
      rw[hW2]
      refine⟨?_,?_,?_,?_,?_,?_,?_⟩<;>simp[leafN,noS]
     |succ i=>simp at he
    have HL1:Hid (n1=out1.length):=HJ.on
    clear hb2 hop he1
    go_wp2_with (at_builtin;(try rw[←hW2]);refine wpList_append_nd _ rfl _ _ rfl base g1 c1 n1 wr.heap.size 0 1 1 out1 [leafN 14] rfl rfl HL1.out rfl HW2.2.1 HW2.2.2.1 ?hl ?hb ?_)
    case hl=>rw[←HL1.out];show n1+1≤_;omega
    case hb=>omega
    intro g' cp' w' hO' hgr hat
    have hgr2:W2.grownBy w' (some g1):=by first|exact hgr|(rw[hW2];exact hgr)
    have hat2:g'=g1∨g'=W2.heap.size:=by first|exact hat|(rw[hW2];exact hat)|(rw[hW2];simpa using hat)
    have HR:Hid (DrJ w base gs cs go st out all st2 (out1++ [leafN 14]) m (n1+1) g' cp' w'):=by
     have hc3:Chg (fun k=>k=g1) W2 w':=Chg.of_grown hgr2 (fun k hk=>by cases hk;rfl)
     have hne:=HJ.ne
     have hgo:=HJ.ap
     refine⟨HJ.eq.trans HD.out,HW2.1.chg hc3 (fun q=>hne q.symm),hO',?_,?_,?_,HS2.out,by rw[List.length_append,←HL1.out];rfl⟩
     ·refine⟨hc3.os.trans HW2.2.2.2.os,hc3.tape.trans HW2.2.2.2.tape,hc3.output.trans HW2.2.2.2.output,Nat.le_trans HW2.2.2.2.size hc3.size,fun k hk hn=>(hc3.block k (Nat.lt_of_lt_of_le hk HW2.2.2.2.size) (fun q=>?_)).trans (HW2.2.2.2.block k hk hn)⟩
      rcases hgo with z|z
      ·exact hn (q.trans z)
      ·omega
     ·rcases hat2 with z|z
      ·rw[z];exact hne
      ·rw[z];have:=HW2.1.lt.2;omega
     ·rcases hat2 with z|z
      ·rw[z];exact hgo
      ·right;rw[z];have:=HW2.2.2.2.size;omega
    clear hO' hgr hgr2 hat hat2 hW2
    go_wp2_with fail
    go_roundw
    case rel=>exact⟨m,n1+1,g',cp',st2,out1++ [leafN 14],rfl,rfl,by omega,by omega,HR.out⟩
    case measure=>simp[slLen]
   have z1:(e1==1)=false:=by rw[beq_eq_false_iff_ne];exact he1
   cases hall:all
   case false=>
    subst hall
    have HE:Hid (drainF false ((e1,l1)::st2) out1=((e1,l1)::st2,out1)):=by show _=_;rw[drainF_cons,if_neg (fun q=>q.elim he1 (fun z=>by cases z.1))]
    clear he1
    go_wp2_with fail
    exact bodyPost_ret (v:=.tuple #[.slice (some ⟨gs,0,none⟩) (m+1) cs,.slice (some ⟨g1,0,none⟩) n1 c1]) (by simp[results,Tryz.results51,go_sem]) rfl (HJ.done HE.out)
   case true=>
    by_cases he2:e1=2
    ·have z2:(e1==2)=true:=by rw[beq_iff_eq];exact he2
     have he1:=he2
     clear he2
     subst hall
     have HD:Hid (drainF true ((e1,l1)::st2) out1=drainF true st2 (out1++ [leafN 15])):=by
      show _=_
      rw[drainF_cons,if_pos (.inr ⟨rfl,he1⟩),he1]
      rfl
     have hop:OwnEn wr base gs cs st2.reverse:=by
      have h9:=HJ.own.take enV_len (k:=st2.length) (by simp)
      rw[List.reverse_cons,List.take_append_of_le_length (by simp),List.take_of_length_le (by simp)]at h9
      exact h9
     obtain⟨W2,hW2⟩:=qE (wr.alloc (Obj.cells #[.int .i64 15,.string ⟨#[]⟩,.bool false,.string ⟨#[]⟩,.int .u64 0,.int .u64 0,.int .i64 0] 65):World)
     have hb2:Below wr.heap.size wr W2:=by rw[hW2];exact qB
     have s2:=hb2.size
     have HW2:Hid (OwnEn W2 base gs cs st2.reverse∧OwnNd W2 base g1 c1 out1∧NdsAt W2 wr.heap.size 0 [leafN 15]∧Chg (fun k=>k=go) w W2):=by
      refine⟨hop.below hb2,HJ.nds.below hb2 HJ.nds.lt.2,?_,HJ.chg.trans (Chg.of_below hb2)⟩
      intro i e he
      cases i with
      |zero=>
       simp at he
       subst he
       rw[hW2]
       refine⟨?_,?_,?_,?_,?_,?_,?_⟩<;>simp[leafN,noS]
      |succ i=>simp at he
     have HL1:Hid (n1=out1.length):=HJ.on
     clear hb2 hop he1
     go_wp2_with (at_builtin;(try rw[←hW2]);refine wpList_append_nd _ rfl _ _ rfl base g1 c1 n1 wr.heap.size 0 1 1 out1 [leafN 15] rfl rfl HL1.out rfl HW2.2.1 HW2.2.2.1 ?hl ?hb ?_)
     case hl=>rw[←HL1.out];show n1+1≤_;omega
     case hb=>omega
     intro g' cp' w' hO' hgr hat
     have hgr2:W2.grownBy w' (some g1):=by first|exact hgr|(rw[hW2];exact hgr)
     have hat2:g'=g1∨g'=W2.heap.size:=by first|exact hat|(rw[hW2];exact hat)|(rw[hW2];simpa using hat)
     have HR:Hid (DrJ w base gs cs go st out true st2 (out1++ [leafN 15]) m (n1+1) g' cp' w'):=by
      have hc3:Chg (fun k=>k=g1) W2 w':=Chg.of_grown hgr2 (fun k hk=>by cases hk;rfl)
      have hne:=HJ.ne
      have hgo:=HJ.ap
      refine⟨HJ.eq.trans HD.out,HW2.1.chg hc3 (fun q=>hne q.symm),hO',?_,?_,?_,HS2.out,by rw[List.length_append,←HL1.out];rfl⟩
      ·refine⟨hc3.os.trans HW2.2.2.2.os,hc3.tape.trans HW2.2.2.2.tape,hc3.output.trans HW2.2.2.2.output,Nat.le_trans HW2.2.2.2.size hc3.size,fun k hk hn=>(hc3.block k (Nat.lt_of_lt_of_le hk HW2.2.2.2.size) (fun q=>?_)).trans (HW2.2.2.2.block k hk hn)⟩
       rcases hgo with z|z
       ·exact hn (q.trans z)
       ·omega
      ·rcases hat2 with z|z
       ·rw[z];exact hne
       ·rw[z];have:=HW2.1.lt.2;omega
      ·rcases hat2 with z|z
       ·rw[z];exact hgo
       ·right;rw[z];have:=HW2.2.2.2.size;omega
     clear hO' hgr hgr2 hat hat2 hW2
     go_wp2_with fail
     go_roundw
     case rel=>exact⟨m,n1+1,g',cp',st2,out1++ [leafN 15],rfl,rfl,by omega,by omega,HR.out⟩
     case measure=>simp[slLen]
    ·have z2:(e1==2)=false:=by rw[beq_eq_false_iff_ne];exact he2
     subst hall
     have HE:Hid (drainF true ((e1,l1)::st2) out1=((e1,l1)::st2,out1)):=by show _=_;rw[drainF_cons,if_neg (fun q=>q.elim he1 (fun z=>he2 z.2))]
     clear he1 he2
     go_wp2_with fail
     exact bodyPost_ret (v:=.tuple #[.slice (some ⟨gs,0,none⟩) (m+1) cs,.slice (some ⟨g1,0,none⟩) n1 c1]) (by simp[results,Tryz.results51,go_sem]) rfl (HJ.done HE.out)
structure PB (w:World) (base g cp N:Nat) (ks:List Tk) (pi pn:Nat) (pe:Int) (pa:Nat) (st:List (Int×Nat)) (out:List Nd) (gs cs go co:Nat) (W:World):Prop where
 tk:OwnTk W base g cp ks
 p:BoxAt W w.heap.size 41 5 w.heap.size [.slice (some ⟨g,0,none⟩) N cp,.int .i64 (pi:Int),.int .i64 (pn:Int),.int .i64 pe,.int .i64 (pa:Int)]
 rp:BoxAt W w.heap.size 41 5 (w.heap.size+1) [.slice none 0 0,.int .i64 0,.int .i64 0,.int .i64 0,.int .i64 0]
 st:OwnEn W (w.heap.size+2) gs cs st.reverse
 out:OwnNd W (w.heap.size+2) go co out
 ne:¬go=gs
 bl:Below w.heap.size w W
 gl:g<w.heap.size
theorem PB.lts {w:World} {base g cp N:Nat} {ks:List Tk} {pi pn:Nat} {pe:Int} {pa:Nat} {st:List (Int×Nat)} {out:List Nd} {gs cs go co:Nat} {W:World} (h:PB w base g cp N ks pi pn pe pa st out gs cs go co W):(w.heap.size+2≤gs∧gs<W.heap.size)∧(w.heap.size+2≤go∧go<W.heap.size)∧w.heap.size+2≤W.heap.size:=by
 have h1:=h.st.lt
 have h2:=h.out.lt
 exact⟨h1,h2,by omega⟩
theorem PB.up {w:World} {base g cp N:Nat} {ks:List Tk} {pi pn:Nat} {pe:Int} {pa:Nat} {st:List (Int×Nat)} {out:List Nd} {gs cs go co:Nat} {W:World} (h:PB w base g cp N ks pi pn pe pa st out gs cs go co W) {W':World} (hb:Below W.heap.size W W'):PB w base g cp N ks pi pn pe pa st out gs cs go co W':=
 ⟨h.tk.below hb,h.p.below hb,h.rp.below hb,h.st.below hb,h.out.below hb h.out.lt.2,h.ne,h.bl.trans (hb.mono h.bl.size),h.gl⟩
theorem PB.side {w:World} {base g cp N:Nat} {ks:List Tk} {pi pn:Nat} {pe:Int} {pa:Nat} {st:List (Int×Nat)} {out:List Nd} {gs cs go co:Nat} {W:World} (h:PB w base g cp N ks pi pn pe pa st out gs cs go co W) {W':World} {b:Nat} (hc:Chg (fun k=>k=b) W W') (hb:w.heap.size+2≤b) (h1:¬b=gs) (h2:¬b=go):PB w base g cp N ks pi pn pe pa st out gs cs go co W':=by
 have hg:=h.gl
 exact⟨h.tk.chg hc (by omega),h.p.chg hc (by omega),h.rp.chg hc (by omega),h.st.chg hc (fun q=>h1 q.symm),own_chg h.out hc (fun k hk q=>by simp[Value.ownBlock]at hk;exact h2 (q.symm.trans hk.symm)),h.ne,Chg.below h.bl hc h.bl.size (fun k q=>by omega),hg⟩
theorem PB.setp {w:World} {base g cp N:Nat} {ks:List Tk} {pi pn:Nat} {pe:Int} {pa:Nat} {st:List (Int×Nat)} {out:List Nd} {gs cs go co:Nat} {W:World} (h:PB w base g cp N ks pi pn pe pa st out gs cs go co W) (pi' pn':Nat) (pe':Int) (pa':Nat):PB w base g cp N ks pi' pn' pe' pa' st out gs cs go co (setP W w.heap.size (.slice (some ⟨g,0,none⟩) N cp) (.int .i64 (pi':Int)) (.int .i64 (pn':Int)) (.int .i64 pe') (.int .i64 (pa':Int))):=by
 have hc:Chg (fun k=>k=w.heap.size) W (setP W w.heap.size (.slice (some ⟨g,0,none⟩) N cp) (.int .i64 (pi':Int)) (.int .i64 (pn':Int)) (.int .i64 pe') (.int .i64 (pa':Int))):=chg_setP _ _ _ _ _ _ _
 have hg:=h.gl
 have hl:=h.lts
 exact⟨h.tk.chg hc (by omega),h.p.setP _ _ _ _ _,h.rp.chg hc (by omega),h.st.chg hc (by omega),own_chg h.out hc (fun k hk q=>by simp[Value.ownBlock]at hk;omega),h.ne,Chg.below h.bl hc h.bl.size (fun k q=>by omega),hg⟩
theorem PB.seti {w:World} {base g cp N:Nat} {ks:List Tk} {pi pn:Nat} {pe:Int} {pa:Nat} {st:List (Int×Nat)} {out:List Nd} {gs cs go co:Nat} {W:World} (h:PB w base g cp N ks pi pn pe pa st out gs cs go co W) (u:Value) (hu:u=.int .i64 ((pi+1:Nat):Int)):PB w base g cp N ks (pi+1) pn pe pa st out gs cs go co (W.setCell ⟨w.heap.size,1,none⟩ u):=by
 subst hu
 have hc:Chg (fun k=>k=w.heap.size) W (W.setCell ⟨w.heap.size,1,none⟩ (.int .i64 ((pi+1:Nat):Int))):=Chg.of_set _ _ _ _ rfl
 have hg:=h.gl
 have hl:=h.lts
 exact⟨h.tk.chg hc (by omega),h.p.set 1 _,h.rp.chg hc (by omega),h.st.chg hc (by omega),own_chg h.out hc (fun k hk q=>by simp[Value.ownBlock]at hk;omega),h.ne,Chg.below h.bl hc h.bl.size (fun k q=>by omega),hg⟩
theorem PB.pushS {w:World} {base g cp N:Nat} {ks:List Tk} {pi pn:Nat} {pe:Int} {pa:Nat} {st:List (Int×Nat)} {out:List Nd} {gs cs go co:Nat} {W:World} (h:PB w base g cp N ks pi pn pe pa st out gs cs go co W) {e:Int×Nat} {g' c':Nat} {W':World} (hO:OwnEn W' (w.heap.size+2) g' c' (st.reverse++ [e])) (hgr:W.grownBy W' (some gs)) (hat:g'=gs∨g'=W.heap.size):PB w base g cp N ks pi pn pe pa (e::st) out g' c' go co W':=by
 have hc:Chg (fun k=>k=gs) W W':=Chg.of_grown hgr (fun k hk=>by cases hk;rfl)
 have hg:=h.gl
 have hl:=h.lts
 have hn:=h.ne
 refine⟨h.tk.chg hc (by omega),h.p.chg hc (by omega),h.rp.chg hc (by omega),by rw[List.reverse_cons];exact hO,own_chg h.out hc (fun k hk q=>by simp[Value.ownBlock]at hk;omega),by omega,Chg.below h.bl hc h.bl.size (fun k q=>by omega),hg⟩
theorem PB.pushO {w:World} {base g cp N:Nat} {ks:List Tk} {pi pn:Nat} {pe:Int} {pa:Nat} {st:List (Int×Nat)} {out:List Nd} {gs cs go co:Nat} {W:World} (h:PB w base g cp N ks pi pn pe pa st out gs cs go co W) {xs:List Nd} {g' c':Nat} {W':World} (hO:OwnNd W' (w.heap.size+2) g' c' (out++xs)) (hgr:W.grownBy W' (some go)) (hat:g'=go∨g'=W.heap.size):PB w base g cp N ks pi pn pe pa st (out++xs) gs cs g' c' W':=by
 have hc:Chg (fun k=>k=go) W W':=Chg.of_grown hgr (fun k hk=>by cases hk;rfl)
 have hg:=h.gl
 have hl:=h.lts
 have hn:=h.ne
 exact⟨h.tk.chg hc (by omega),h.p.chg hc (by omega),h.rp.chg hc (by omega),h.st.chg hc (by omega),hO,by omega,Chg.below h.bl hc h.bl.size (fun k q=>by omega),hg⟩
theorem PB.drain {w:World} {base g cp N:Nat} {ks:List Tk} {pi pn:Nat} {pe:Int} {pa:Nat} {st:List (Int×Nat)} {out:List Nd} {gs cs go co:Nat} {W:World} (h:PB w base g cp N ks pi pn pe pa st out gs cs go co W) {st1:List (Int×Nat)} {out1:List Nd} {g1 c1:Nat} {W':World} (hO:OwnEn W' (w.heap.size+2) gs cs st1.reverse∧OwnNd W' (w.heap.size+2) g1 c1 out1∧Chg (fun k=>k=go) W W'∧¬g1=gs∧(g1=go∨W.heap.size≤g1)):PB w base g cp N ks pi pn pe pa st1 out1 gs cs g1 c1 W':=by
 have hc:=hO.2.2.1
 have hg:=h.gl
 have hl:=h.lts
 exact⟨h.tk.chg hc (by omega),h.p.chg hc (by omega),h.rp.chg hc (by omega),hO.1,hO.2.1,hO.2.2.2.1,Chg.below h.bl hc h.bl.size (fun k q=>by omega),hg⟩
theorem PB.pop {w:World} {base g cp N:Nat} {ks:List Tk} {pi pn:Nat} {pe:Int} {pa:Nat} {st:List (Int×Nat)} {out:List Nd} {gs cs go co:Nat} {W:World} {e:Int×Nat} (h:PB w base g cp N ks pi pn pe pa (e::st) out gs cs go co W):PB w base g cp N ks pi pn pe pa st out gs cs go co W:=by
 refine⟨h.tk,h.p,h.rp,?_,h.out,h.ne,h.bl,h.gl⟩
 have h1:=h.st.take enV_len (k:=st.length) (by simp)
 rw[List.reverse_cons,List.take_append_of_le_length (by simp),List.take_of_length_le (by simp)]at h1
 exact h1
theorem PB.top {w:World} {base g cp N:Nat} {ks:List Tk} {pi pn:Nat} {pe:Int} {pa:Nat} {st:List (Int×Nat)} {out:List Nd} {gs cs go co:Nat} {W:World} {e:Int×Nat} (h:PB w base g cp N ks pi pn pe pa (e::st) out gs cs go co W):W.cell? ⟨gs,st.length*2,none⟩=some (.int .i64 e.1)∧W.cell? ⟨gs,st.length*2+1,none⟩=some (.int .i64 (e.2:Int)):=by
 have hg:(e::st).reverse[st.length]?=some e:=by rw[List.reverse_cons,List.getElem?_append_right (by simp)];simp
 exact⟨h.st.cell enV_len hg 0 (by omega),h.st.cell enV_len hg 1 (by omega)⟩
theorem OwnG.setLast {α:Type} {f:α→List Value} {sz ty:Nat} (hf:∀x,(f x).length=sz) {w:World} {base g cap:Nat} {es:List α} {e e':α} (h:OwnG f sz ty w base g cap (es++ [e])) (j:Nat) (u:Value) (hj:j<sz) (he:(f e).set j u=f e'):OwnG f sz ty (w.setCell ⟨g,es.length*sz+j,none⟩ u) base g cap (es++ [e']):=by
 have h1:=(World.ownsRow.stored h (es.length*sz+j) u).1
 have hfl:=gFlat_len hf es
 have h2:((es++ [e]).flatMap f).set (es.length*sz+j) u=(es++ [e']).flatMap f:=by
  rw[List.flatMap_append,List.flatMap_singleton,List.set_append_right _ _ (by omega),hfl,show es.length*sz+j-es.length*sz=j by omega,he,List.flatMap_append,List.flatMap_singleton]
 rw[h2]at h1
 unfold OwnG
 rw[List.length_append,List.length_singleton]at h1⊢
 exact h1
theorem PB.left {w:World} {base g cp N:Nat} {ks:List Tk} {pi pn:Nat} {pe:Int} {pa:Nat} {st:List (Int×Nat)} {out:List Nd} {gs cs go co:Nat} {W:World} {k:Int} {l:Nat} (h:PB w base g cp N ks pi pn pe pa ((k,l)::st) out gs cs go co W) (l':Nat):PB w base g cp N ks pi pn pe pa ((k,l')::st) out gs cs go co (W.setCell ⟨gs,st.length*2+1,none⟩ (.int .i64 (l':Int))):=by
 have hc:Chg (fun k=>k=gs) W (W.setCell ⟨gs,st.length*2+1,none⟩ (.int .i64 (l':Int))):=Chg.of_set _ _ _ _ rfl
 have hg:=h.gl
 have hl:=h.lts
 have hn:=h.ne
 refine⟨h.tk.chg hc (by omega),h.p.chg hc (by omega),h.rp.chg hc (by omega),?_,own_chg h.out hc (fun k hk q=>by simp[Value.ownBlock]at hk;omega),hn,Chg.below h.bl hc h.bl.size (fun k q=>by omega),hg⟩
 have h1:=h.st
 rw[List.reverse_cons]at h1⊢
 have h2:=OwnG.setLast enV_len (e':=(k,l')) h1 1 (.int .i64 (l':Int)) (by omega) rfl
 rw[List.length_reverse]at h2
 exact h2
def ParP (w:World) (g cp N:Nat) (m0:Ms) (e:Ending) (w':World):Prop:=Below w.heap.size w w'∧
 ((∃pi pn pa ns go co,MEnds m0 (.ok ns)∧OwnNd w' w.heap.size go co ns∧e=.returned (.tuple #[parV g N cp pi pn 0 pa,.slice (some ⟨go,0,none⟩) ns.length co]))∨
  (∃pi pn c a oa on oc,MEnds m0 (.error (c,a))∧1≤c∧e=.returned (.tuple #[parV g N cp pi pn c a,.slice oa on oc])))
structure PM (N:Nat) (ks:List Tk) (m0 m:Ms) (i:Nat):Prop where
 ks:m.ks=ks.drop i
 md:m.made≤200
 ln:m.out.length+m.st.length≤i
 iN:i<N
 go:∀r,MEnds m r→MEnds m0 r
 lf:∀e∈m.st,e.2≤2
def PRel (w:World) (base g cp N:Nat) (ks:List Tk) (m0:Ms) (gk:Nat) (ov sv wv:Value) (wr:World):Prop:=
 (∃(m:Ms) (i gs cs go co:Nat),ov=.slice (some ⟨go,0,none⟩) m.out.length co∧sv=.slice (some ⟨gs,0,none⟩) m.st.length cs∧wv=.bool m.want∧N+1-i≤gk∧PM N ks m0 m i∧PB w base g cp N ks i m.made 0 0 m.st m.out gs cs go co wr)∨
 (∃(c:Int) (a pi pn gs cs go co:Nat) (st:List (Int×Nat)) (out:List Nd) (b:Bool),ov=.slice (some ⟨go,0,none⟩) out.length co∧sv=.slice (some ⟨gs,0,none⟩) st.length cs∧wv=.bool b∧MEnds m0 (.error (c,a))∧1≤c∧PB w base g cp N ks pi pn c a st out gs cs go co wr)
theorem PB.fail {w:World} {base g cp N:Nat} {ks:List Tk} {pi pn:Nat} {pe:Int} {pa:Nat} {st:List (Int×Nat)} {out:List Nd} {gs cs go co:Nat} {W:World} {m0:Ms} (h:PB w base g cp N ks pi pn pe pa st out gs cs go co W) {pi' pn':Nat} {c:Int} {a:Nat} {oa:Option Addr} {on oc:Nat} (hm:MEnds m0 (.error (c,a))) (hc:1≤c) {W':World} (hW:W'=setP W (w.heap.size+1) (.slice (some ⟨g,0,none⟩) N cp) (.int .i64 (pi':Int)) (.int .i64 (pn':Int)) (.int .i64 c) (.int .i64 (a:Int))):ParP w g cp N m0 (.returned (.tuple #[parV g N cp pi' pn' c a,.slice oa on oc])) W'∧BoxAt W' w.heap.size 41 5 (w.heap.size+1) [.slice (some ⟨g,0,none⟩) N cp,.int .i64 (pi':Int),.int .i64 (pn':Int),.int .i64 c,.int .i64 (a:Int)]:=by
 subst hW
 exact⟨⟨below_setP h.bl (by omega) _ _ _ _ _,.inr ⟨pi',pn',c,a,oa,on,oc,hm,hc,rfl⟩⟩,h.rp.setP _ _ _ _ _⟩
theorem PB.good {w:World} {base g cp N:Nat} {ks:List Tk} {pi pn:Nat} {pe:Int} {pa:Nat} {st:List (Int×Nat)} {out:List Nd} {gs cs go co:Nat} {W:World} {m0:Ms} (h:PB w base g cp N ks pi pn pe pa st out gs cs go co W) {pi' pn' pa':Nat} (hm:MEnds m0 (.ok out)) {W':World} (hW:W'=setP W (w.heap.size+1) (.slice (some ⟨g,0,none⟩) N cp) (.int .i64 (pi':Int)) (.int .i64 (pn':Int)) (.int .i64 0) (.int .i64 (pa':Int))):ParP w g cp N m0 (.returned (.tuple #[parV g N cp pi' pn' 0 pa',.slice (some ⟨go,0,none⟩) out.length co])) W'∧BoxAt W' w.heap.size 41 5 (w.heap.size+1) [.slice (some ⟨g,0,none⟩) N cp,.int .i64 (pi':Int),.int .i64 (pn':Int),.int .i64 0,.int .i64 (pa':Int)]:=by
 subst hW
 have hc:Chg (fun k=>k=w.heap.size+1) W (setP W (w.heap.size+1) (.slice (some ⟨g,0,none⟩) N cp) (.int .i64 (pi':Int)) (.int .i64 (pn':Int)) (.int .i64 0) (.int .i64 (pa':Int))):=chg_setP _ _ _ _ _ _ _
 have hl:=h.lts
 exact⟨⟨below_setP h.bl (by omega) _ _ _ _ _,.inl ⟨pi',pn',pa',out,go,co,hm,(OwnNd.mono (own_chg h.out hc (fun k hk q=>by simp[Value.ownBlock]at hk;omega)) (by omega)),rfl⟩⟩,h.rp.setP _ _ _ _ _⟩
end Go.Proofs.YtgnpcenpcmdlfaaGreatDoor
