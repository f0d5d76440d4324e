import Derived.Test.YtgnpcenpcmdlfaaGreatDoorTkAA
import Derived.Test.YtgnpcenpcmdlfaaGreatDoorTkAH
import Derived.Test.YtgnpcenpcmdlfaaGreatDoorTkAE
import Derived.Test.YtgnpcenpcmdlfaaGreatDoorTkAD
import Derived.Test.YtgnpcenpcmdlfaaGreatDoorTkAF
import Derived.Test.YtgnpcenpcmdlfaaGreatDoorTkAB
import Derived.BigQuiet
import Derived.Deep.CutBlock
namespace Go.Proofs.YtgnpcenpcmdlfaaGreatDoor
open Go.ChangeShapes Go.WideShapes Go.ChangeAt Go.RowKit Go.Deep
set_option linter.unusedVariables false
set_option linter.unusedSimpArgs false
set_option maxRecDepth 100000
set_option maxHeartbeats 32000000
structure FoK (w:World) (xs:List Nd) (j g cp:Nat) (ss:List yAx) (SB:Nat) (y:yAx) (wr:World):Prop where
 fo:FoJ w xs j g cp ss wr
 box:yA wr w.heap.size 112 3 SB y.three
 ne:¬SB=g
 ge:w.heap.size+1≤SB
variable {w W1 w':World} {xs:List Nd} {j g cp:Nat} {ss:List yAx}
theorem yV0 (y:yAx) (h:FoJ w xs j g cp ss W1) (hb:Below W1.drew.heap.size W1.drew w'):FoK w xs j g cp ss w'.heap.size y (w'.alloc (Obj.cells #[.bool y.valid,.int .i64 y.kind,.int .i64 (y.nest:Int)] 112)):=by have h1:Below W1.heap.size W1 w':=((Below.refl W1.heap.size W1).drew).trans hb;have h2:=h1.size;have h3:Below W1.heap.size W1 (w'.alloc (Obj.cells #[.bool y.valid,.int .i64 y.kind,.int .i64 (y.nest:Int)] 112)):=h1.alloc h2 _;have h4:=h.own.lt;have h5:=h.below.size;have h6:=h.res.lt;exact⟨h.move h3,yAb w' _ (by omega) rfl,by omega,by omega⟩
theorem yTa (y:yAx) (h:FoJ w xs j g cp ss W1) (hb:Below (W1.drew.alloc (Obj.cells #[.bool false,.int .i64 0,.int .i64 0] 112)).heap.size (W1.drew.alloc (Obj.cells #[.bool false,.int .i64 0,.int .i64 0] 112)) w'):
  FoK w xs j g cp ss W1.heap.size y (((w'.setCell ⟨W1.heap.size,0,none⟩ (.bool y.valid)).setCell ⟨W1.heap.size,1,none⟩ (.int .i64 y.kind)).setCell ⟨W1.heap.size,2,none⟩ (.int .i64 (y.nest:Int))):=by
 have hd:W1.drew.heap.size=W1.heap.size:=by simp
 have h0:Below W1.heap.size W1 (W1.drew.alloc (Obj.cells #[.bool false,.int .i64 0,.int .i64 0] 112)):=((Below.refl W1.heap.size W1).drew).alloc (by simp) _;have h1:Below W1.heap.size W1 w':=h0.trans (hb.mono (by simp));have h4:=h.own.lt;have h5:=h.below.size;have h6:=h.res.lt;have hB:yA w' w.heap.size 112 3 W1.heap.size [.bool false,.int .i64 0,.int .i64 0]:=by have:=yAb W1.drew (base:=w.heap.size) (t:=112) (sz:=3) #[.bool false,.int .i64 0,.int .i64 0] (by simp;omega) rfl;rw[hd]at this;exact this.below hb
 have hJ:=h.move h1
 have hC:Chg (fun k=>k=W1.heap.size) w' (((w'.setCell ⟨W1.heap.size,0,none⟩ (.bool y.valid)).setCell ⟨W1.heap.size,1,none⟩ (.int .i64 y.kind)).setCell ⟨W1.heap.size,2,none⟩ (.int .i64 (y.nest:Int))):=
  ((Chg.of_set w' W1.heap.size 0 _ (S:=fun k=>k=W1.heap.size) rfl).trans (Chg.of_set _ W1.heap.size 1 _ (S:=fun k=>k=W1.heap.size) rfl)).trans (Chg.of_set _ W1.heap.size 2 _ (S:=fun k=>k=W1.heap.size) rfl)
 refine⟨⟨hJ.fold,yA2 hJ.own hC (fun k q=>by simp[Value.ownBlock]at q;omega),hJ.res.chg hC (by omega),?_⟩,((hB.set 0 _).set 1 _).set 2 _,by omega,by omega⟩;exact yAd (yAd (yAd hJ.below (by omega) 0 _) (by omega) 1 _) (by omega) 2 _
theorem sh_new (X:World) (y:yAx) (B:Nat) (hB:X.heap.size=B):yJ9 (X.alloc (Obj.cells #[.bool y.valid,.int .i64 y.kind,.int .i64 (y.nest:Int)] 112)) B 0 [y]:=by
 subst hB;intro i s hs;have hi:i=0:=by have:=(List.getElem?_eq_some_iff.1 hs).1;simpa using this
 subst hi;simp at hs;subst hs;exact⟨by simp,by simp,by simp⟩
theorem yZr {wc X:World} {g' cp' fr:Nat} {y:yAx} (h:FoJ w xs j g cp ss wc) (hX:Below wc.heap.size wc X) (hY:yDs goodB [] (xs.take (j+1))=some (ss.take fr++ [y])) (hO:yFd w' (w.heap.size+1) g' cp' (ss.take fr++ [y])) (hgr:X.grownBy w' (some g)) (hm:fr=(ss.take fr).length):FoJ w xs (j+1) g' cp' (ss.take fr++ [y]) w'∧fr+1≤cp':=by have hJ:=h.move hX;have h1:=hJ.own.lt;have hC:Chg (fun k=>k=g) X w':=Chg.of_grown hgr (fun k hk=>by cases hk;rfl);refine⟨⟨hY,hO,hJ.res.chg hC (by omega),Chg.below hJ.below hC hJ.below.size (fun k q=>by omega)⟩,?_⟩;have:=hO.caps.1;rw[List.length_append,List.length_singleton,←hm]at this;exact this
theorem yNf {gN oN cpN:Nat} (h:yBj w gN oN xs) (hg:gN<w.heap.size) (hok:∀e∈xs,e.ok) (hl:xs.length≤200):
  Calls Tryz.prog 71 #[.slice (some ⟨gN,oN,none⟩) xs.length cpN,.func (Fn.func 72) #[] #[]] w (yP0 xs w):=by
 have HF:Hid (yBj w gN oN xs∧∀e∈xs,e.ok):=⟨h,hok⟩;obtain⟨n,hn⟩:=qE xs.length;have HL:Hid (n=xs.length):=hn;rw[←hn]at hl⊢;clear h hok hn;obtain⟨W0,hW0⟩:=qE ((w.alloc (Obj.cells #[.bool false,.int .i64 0,.int .i64 0] 112)).alloc (Obj.cells #[] 112):World);have HW0:Hid (FoJ w xs 0 (w.heap.size+1) 0 [] W0):=by
  obtain⟨V,hV⟩:=qE (w.alloc (Obj.cells #[.bool false,.int .i64 0,.int .i64 0] 112):World);have hz:V.heap.size=w.heap.size+1:=by rw[hV];simp
  have hb:Below V.heap.size V W0:=by rw[hW0,←hV];exact qB
  have hbV:Below w.heap.size w V:=by rw[hV];exact qB
  have hB:yA V w.heap.size 112 3 w.heap.size [.bool false,.int .i64 0,.int .i64 0]:=by rw[hV];exact yAb w _ (Nat.le_refl _) rfl
  refine⟨rfl,?_,hB.below hb,hbV.trans (hb.mono (by omega))⟩;rw[hW0,←hV,←hz];exact ySc V (Nat.le_refl _)
 go_enter Tryz.func71,Tryz.ntmps71;go_upto_region 2 with fail;rw[←hW0];clear hW0;go_wp2_with fail;go_loopw[6,14] (fun sv iv wr=>∃(j m g cp:Nat) (ss:List yAx),iv=.int .i64 (j:Int)∧j≤n∧m=ss.length∧m≤j∧m≤cp∧sv=.slice (some ⟨g,0,none⟩) m cp∧FoJ w xs j g cp ss wr) (fun _ iv _=>n-(intOf iv).toNat);case atStart=>exact⟨0,0,_,0,[],rfl,Nat.zero_le _,rfl,Nat.le_refl _,Nat.zero_le _,rfl,HW0.out⟩
 case round=>
  obtain⟨j,m,g,cp,ss,rfl,hj,hm,hmj,hmc,rfl,hJ⟩:=hrel;have HJ:Hid (m=ss.length∧FoJ w xs j g cp ss wr):=⟨hm,hJ⟩;have hgl:=hJ.own.lt;have hcp:cp≤9223372036854775807:=by have:=hJ.own.caps.2;unfold maxLen at this;omega
  have hsz:=hJ.below.size;have hrl:=hJ.res.lt.2;obtain⟨r0,r1,r2⟩:=hJ.res.c3;obtain⟨f0,f1,f2⟩:=hJ.res.f3;clear hm hJ HW0;by_cases hlt:j<n
  ·have zj:(j:Int)<(n:Int):=by omega
   obtain⟨e,he⟩:∃e,xs[j]?=some e:=⟨_,List.getElem?_eq_getElem (by have:=HL.out;omega)⟩;obtain⟨d0,d1,d2,d3,d4,d5,d6⟩:=(HF.1.below HJ.2.below hg) j e he;have ok:=HF.2 e (List.mem_of_getElem? he);have HE:Hid (xs[j]?=some e∧e.s.size≤maxLen∧e.t.size≤maxLen):=⟨he,ok.s,ok.t⟩;clear ok he;obtain⟨W1,hW1⟩:=qE (wr.alloc (Obj.cells #[.int .i64 e.kind,.string e.s,.bool e.hi,.string e.t,.int .u64 e.lo,.int .u64 e.up,.int .i64 e.n] 65):World);have hb1:Below wr.heap.size wr W1:=by rw[hW1];exact qB
   have hz1:W1.heap.size=wr.heap.size+1:=by rw[hW1];simp
   have HJ1:Hid (m=ss.length∧FoJ w xs j g cp ss W1∧yA W1 w.heap.size 65 7 wr.heap.size e.seven):=by refine⟨HJ.1,HJ.2.move hb1,?_⟩;rw[hW1];exact yAb wr _ hsz rfl
   go_upto_region 5 with fail;rw[←hW1];clear hW1 d0 d1 d2 d3 d4 d5 d6 r0 r1 r2 f0 f1 f2 HJ hb1;obtain⟨c0,c1,c2,c3,c4,c5,c6⟩:=HJ1.2.2.c7;obtain⟨a,ha⟩:=qE (yAo e.kind);have ha3:a≤3:=by rw[ha];exact yFb _
   have HAr:Hid (Calls Tryz.prog 73 #[.int .i64 e.kind] W1 fun r w'=>r=.returned (.int .i64 (a:Int))∧w'=W1):=by rw[ha];exact yEm e.kind W1
   have HAk:Hid (a=yAo e.kind):=ha;clear ha;go_wp2_with fail;refine HAr.mono ?_;rintro r w9 ⟨rfl,hw9⟩;rw[hw9];clear hw9 HAr;by_cases hfr:m<a
   ·have zf:(m:Int)-(a:Int)<0:=by omega
    obtain⟨r0,r1,r2⟩:=HJ1.2.1.res.c3;obtain⟨f0,f1,f2⟩:=HJ1.2.1.res.f3;have HS:Hid (yDs goodB [] xs=none):=yS8 HJ1.2.1.fold HE.1 (by rw[←HJ1.1,←HAk.out];exact hfr);obtain⟨W9,hW9⟩:=qE (set3 W1 w.heap.size (.bool false) (.int .i64 0) (.int .i64 0):World);have HW9:Hid (yA W9 w.heap.size 112 3 w.heap.size [.bool false,.int .i64 0,.int .i64 0]∧Below w.heap.size w W9):=by rw[hW9];exact⟨HJ1.2.1.res.set3 _ _ _,yGi HJ1.2.1.below (Nat.le_refl _) _ _ _⟩
    obtain⟨p0,p1,p2⟩:=HW9.1.c3;unfold set3 at hW9;go_wp2_with fail;rw[←hW9];refine bodyPost_ret (v:=.tuple #[.agg #[.bool false,.int .i64 0,.int .i64 0],.bool false]) (by simp[results,Tryz.results71,go_sem,p0,p1,p2]) rfl ⟨HW9.2,.inr ⟨fun s q=>(by rw[HS.out]at q;cases q),rfl⟩⟩
   ·obtain⟨fr,hfrm⟩:∃fr:Nat,(m:Int)-(a:Int)=(fr:Int):=⟨m-a,by omega⟩;have hfrle:fr≤m:=by omega
    have HFr:Hid (fr=ss.length-yAo e.kind∧yAo e.kind≤ss.length):=by have h1:=HJ1.1;have h2:=HAk.out;exact⟨by omega,by omega⟩
    have zf:¬(fr:Int)<0:=by omega
    have z2:(fr:Int)≤(m:Int):=by omega
    have z3:(m:Int)≤(cp:Int):=by omega
    obtain⟨y,hy⟩:=qE (yCj goodB e (ss.drop fr));have HY:Hid (yDs goodB [] (xs.take (j+1))=some (ss.take fr++ [y])):=by show _=_;rw[hy,HFr.1];exact yS9 HJ1.2.1.fold HE.1 HFr.2
    obtain⟨ad,had⟩:∃ad:Option Addr,(if cp=fr then some (⟨g,0,none⟩:Addr)else some ⟨g,fr*3,none⟩)=ad:=⟨_,rfl⟩;have HSh:Hid (∀X,Below W1.heap.size W1 X→Calls Tryz.prog 72 #[.agg #[.int .i64 e.kind,.string e.s,.bool e.hi,.string e.t,.int .u64 e.lo,.int .u64 e.up,.int .i64 e.n],.slice ad (m-fr) (cp-fr)] X fun r w'=>r=.returned (.agg #[.bool y.valid,.int .i64 y.kind,.int .i64 (y.nest:Int)])∧Below X.heap.size X w'):=fun X hX=>by
     have hs1:=HJ1.2.1.own.at.below hX HJ1.2.1.own.lt.2;have hs2:=hs1.drop fr;rw[Nat.zero_add]at hs2;have hlen:(ss.drop fr).length=m-fr:=by rw[List.length_drop,←HJ1.1]
     have hX2:=hX.size;have hg2:=HJ1.2.1.own.lt.2;have hnest:∀x∈ss.drop fr,x.nest≤1000:=fun x hx=>by have h1:=yT HJ1.2.1.fold x (List.mem_of_mem_drop hx);rw[List.length_take]at h1;omega
     have hos:(ss.drop fr).length≤3:=by rw[hlen];have:=HFr.1;have:=HAk.out;have:=HJ1.1;omega
     rw[hy,←had];by_cases hcf:cp=fr
     ·rw[if_pos hcf];have hnil:ss.drop fr= []:=List.length_eq_zero_iff.1 (by rw[hlen];omega);have h9:=yIk (w:=X) (b:=g) (o:=0) (cap:=cp-fr) (os:=ss.drop fr) e (by rw[hnil];intro i s hs;simp at hs) (by omega) (by rw[hlen];omega) hos (by omega) hnest HE.2.1 HE.2.2;rw[hlen]at h9;exact h9
     ·rw[if_neg hcf];have h9:=yIk (w:=X) (b:=g) (o:=fr*3) (cap:=cp-fr) (os:=ss.drop fr) e hs2 (by omega) (by rw[hlen];omega) hos (by omega) hnest HE.2.1 HE.2.2;rw[hlen]at h9;exact h9
    clear hy hfr;go_upto_region 8 with fail;go_cut[10] (fun sv wx=>∃SB,sv=.pointer (some ⟨SB,0,none⟩)∧FoK w xs j g cp ss SB y wx);case first=>
     go_region_law ((go_simp;go_at_call 72;refine(HSh.out _ ?hX).mono ?_;(case hX=>(repeat (first|exact Below.refl _ _|refine Below.drew ?_|refine Below.alloc ?_ (by simp) _)));rintro r w' ⟨rfl,hbb⟩;obtain⟨hcc,hff⟩:=yZ1 hbb;have hsz':=hbb.size));all_goals go_wp2_with fail
     all_goals go_meet
     all_goals first
      |exact⟨_,rfl,yV0 y HJ1.2.1 hbb⟩
      |exact⟨_,rfl,by have h9:=yTa y HJ1.2.1 hbb;rw[hz1]at h9;exact h9⟩
    case rest=>
    obtain⟨SB,rfl,hK⟩:=hcut;have HK:Hid (FoK w xs j g cp ss SB y wc):=hK;obtain⟨b0,b1,b2⟩:=hK.box.c3;have hgl2:=hK.fo.own.lt;have hsb:=hK.box.lt.2;have hnsb:=hK.ne;have hsz2:=hK.fo.below.size;have HM:Hid (fr=(ss.take fr).length):=by show fr=_;rw[List.length_take,←HJ1.1];omega
    clear hK c0 c1 c2 c3 c4 c5 c6 HSh;go_upto_region 9 with fail;have hfl:fr≤ss.length:=by rw[←HJ1.1];exact hfrle
    have z4:(fr:Int)≤(cp:Int):=by omega
    have z5:fr≤cp:=by omega
    go_region_law ((refine yH4 _ (by rfl) _ _ (by rfl) (w.heap.size+1) fr g cp wc.heap.size (ss.take fr) y HM.out (by rfl) (by rfl) ?hO ?hc ?hl ?hb ?_
                    case hO=>(refine yFd.below (HK.fo.own.take hfl) ?_;repeat (first|exact Below.refl _ _|refine Below.drew ?_|refine Below.alloc ?_ (by simp) _))
                    case hc=>exact sh_new _ y _ (by simp)
                    case hl=>rw[←HM.out];omega
                    case hb=>simp;omega
                    intro g' cp' w' hO' hgr' hat'
                    have fin:Hid (FoJ w xs (j+1) g' cp' (ss.take fr++ [y]) w'∧fr+1≤cp'):=yZr HK.fo (by repeat (first|exact Below.refl _ _|refine Below.drew ?_|refine Below.alloc ?_ (by simp) _)) HY.out hO' hgr' HM.out
                    clear hO' hgr' hat'))
    all_goals go_wp2_with fail
    all_goals go_roundw
    all_goals first
     |exact⟨j+1,fr+1,g',cp',ss.take fr++ [y],by go_num,by omega,by rw[List.length_append,List.length_singleton,←HM.out],by omega,fin.out.2,rfl,fin.out.1⟩
     |(simp[intOf];omega)
  ·have zj:¬(j:Int)<(n:Int):=by omega
   have HFo:Hid (yDs goodB [] xs=some ss):=by have h1:=HJ.2.fold;rw[List.take_of_length_le (by have:=HL.out;omega)]at h1;exact h1
   by_cases hm1:m=1
   ·subst hm1;obtain⟨s,rfl⟩:∃s,ss= [s]:=by
     have h1:=HJ.1;match ss,h1 with
     | [s],_=>exact⟨s,rfl⟩
    obtain⟨e0,e1,e2⟩:=HJ.2.own.at 0 s rfl;simp only[Nat.zero_add,Nat.zero_mul]at e0 e1 e2;obtain⟨W9,hW9⟩:=qE (set3 wr w.heap.size (.bool s.valid) (.int .i64 s.kind) (.int .i64 (s.nest:Int)):World);have HW9:Hid (yA W9 w.heap.size 112 3 w.heap.size [.bool s.valid,.int .i64 s.kind,.int .i64 (s.nest:Int)]∧Below w.heap.size w W9):=by rw[hW9];exact⟨HJ.2.res.set3 _ _ _,yGi HJ.2.below (Nat.le_refl _) _ _ _⟩
    obtain⟨p0,p1,p2⟩:=HW9.1.c3;unfold set3 at hW9;go_wp2_with fail;rw[←hW9];refine bodyPost_ret (v:=.tuple #[.agg #[.bool s.valid,.int .i64 s.kind,.int .i64 (s.nest:Int)],.bool true]) (by simp[results,Tryz.results71,go_sem,p0,p1,p2]) rfl ⟨HW9.2,.inl ⟨s,HFo.out,rfl⟩⟩
   ·have zm:((m:Int) != 1)=true:=by have:¬(m:Int)=1:=(by omega);simpa using this
    obtain⟨W9,hW9⟩:=qE (set3 wr w.heap.size (.bool false) (.int .i64 0) (.int .i64 0):World);have HW9:Hid (yA W9 w.heap.size 112 3 w.heap.size [.bool false,.int .i64 0,.int .i64 0]∧Below w.heap.size w W9):=by rw[hW9];exact⟨HJ.2.res.set3 _ _ _,yGi HJ.2.below (Nat.le_refl _) _ _ _⟩
    obtain⟨p0,p1,p2⟩:=HW9.1.c3;unfold set3 at hW9;go_wp2_with fail;rw[←hW9];refine bodyPost_ret (v:=.tuple #[.agg #[.bool false,.int .i64 0,.int .i64 0],.bool false]) (by simp[results,Tryz.results71,go_sem,p0,p1,p2]) rfl ⟨HW9.2,.inr ⟨fun s q=>?_,rfl⟩⟩;rw[HFo.out]at q;have h1:=HJ.1;rw[Option.some.inj q]at h1;exact hm1 h1
theorem yKk {o:Nat} (h:WdN w g o cp xs) (hok:∀e∈xs,e.ok):Calls Tryz.prog 35 #[.agg #[.slice (some ⟨g,o,none⟩) xs.length cp]] w (xAf xs w):=by
 have HO:Hid (WdN w g o cp xs∧∀e∈xs,e.ok):=⟨h,hok⟩;have hg:=h.lt;obtain⟨n,hn⟩:=qE xs.length;have HN:Hid (n=xs.length):=hn;have hcp:=h.caps;rw[←hn]at hcp⊢;unfold maxLen at hcp;clear h hok hn;obtain⟨W0,hW0⟩:=qE (w.alloc (Obj.cells #[.slice (some ⟨g,o,none⟩) n cp] 25):World);have HW0:Hid (yA W0 w.heap.size 25 1 w.heap.size [.slice (some ⟨g,o,none⟩) n cp]∧Below w.heap.size w W0):=by rw[hW0];exact⟨yAb w _ (Nat.le_refl _) rfl,qB⟩
 have c0:=HW0.1.cell (j:=0) rfl;have s0:=HW0.2.size;go_enter Tryz.func35,Tryz.ntmps35;go_upto_region 1 with fail;rw[←hW0];clear hW0;by_cases hbig:200<n
 ·have zb:(200:Int)<(n:Int):=by omega
  have HF:Hid (¬yEu xs):=fun q=>by have:=q.1;have:=HN.out;omega
  go_wp2_with fail;go_ret;exact⟨_,rfl,by simp[HF.out],HW0.2⟩
 have zb:¬(200:Int)<(n:Int):=by omega
 have HC:Hid (Calls Tryz.prog 71 #[.slice (some ⟨g,o,none⟩) n cp,.func (Fn.func 72) #[] #[]] W0 (yP0 xs W0)):=by
  have hl:xs.length≤200:=by rw[←HN.out];omega
  have:=yNf (w:=W0) (gN:=g) (oN:=o) (cpN:=cp) (HO.1.at.below HW0.2 hg) (by omega) HO.2 hl;rw[←HN.out]at this;exact this
 go_wp2_with fail;refine HC.mono ?_;rintro r w2 ⟨hb2,(⟨s,hs,rfl⟩|⟨hs,rfl⟩)⟩
 ·have HF:Hid (yEu xs↔(s.valid=true∧s.nest≤20)):=by
   show yEu xs↔_;have hsh:=yNd goodB hs;constructor
   ·rintro⟨_,t,ht,hv,hn⟩;rw[yW8 hsh ht];exact⟨hv,hn⟩
   ·rintro⟨hv,hn⟩;exact⟨by have:=HN.out;omega,s,hsh,hv,hn⟩
  have HB:Hid (Below w.heap.size w w2):=HW0.2.trans (hb2.mono s0);obtain⟨v,hv⟩:=qE s.valid;obtain⟨k,hk⟩:=qE s.nest;obtain⟨kd,hkd⟩:=qE s.kind;rw[←hv,←hk]at HF;rw[←hv,←hk,←hkd];clear hs hb2 c0 HC hv hk hkd;cases v
  ·go_wp2_with fail;go_ret;exact⟨_,rfl,by rw[HF.out];simp,HB.trans ((Below.refl _ _).alloc HB.size _)⟩
  ·go_wp2_with fail;go_ret;exact⟨_,rfl,by rw[HF.out];simp<;>omega,HB.trans ((Below.refl _ _).alloc HB.size _)⟩
 ·have HF:Hid (¬yEu xs):=fun q=>by obtain⟨_,s,hsh,_⟩:=q;have:=ShT.fold goodB hsh [];exact hs s (by simpa using this)
  have HB:Hid (Below w.heap.size w w2):=HW0.2.trans (hb2.mono s0);clear hs hb2 c0 HC;go_wp2_with fail;go_ret;exact⟨_,rfl,by simp[HF.out],HB.trans ((Below.refl _ _).alloc HB.size _)⟩
structure FpJ (w:World) (xs:List Nd) (j g cp:Nat) (ps:List Po) (wr:World):Prop where
 fold:yDy yA4 [] (xs.take j)=some (ps.map Po.pt)
 own:yFe wr (w.heap.size+1) g cp ps
 res:yA wr w.heap.size 67 2 w.heap.size [.int .i64 0,.slice none 0 0]
 txt:∀p∈ps,OwnY wr (w.heap.size+1) p.b p.c p.t∧¬p.b=g
 below:Below w.heap.size w wr
variable {ps:List Po}
theorem FpJ.move {wr:World} (h:FpJ w xs j g cp ps wr) (hb:Below wr.heap.size wr w'):FpJ w xs j g cp ps w':=
 ⟨h.fold,h.own.below hb,h.res.below hb,fun p hp=>⟨(h.txt p hp).1.below hb,(h.txt p hp).2⟩,h.below.trans (hb.mono h.below.size)⟩
structure FpK (w:World) (xs:List Nd) (j g cp:Nat) (ps:List Po) (SB:Nat) (y:Po) (wr:World):Prop where
 fo:FpJ w xs j g cp ps wr
 box:yA wr w.heap.size 67 2 SB y.two
 new:OwnY wr (w.heap.size+1) y.b y.c y.t
 ne:¬SB=g
 nb:¬y.b=g
 ge:w.heap.size+1≤SB
theorem yVy (y:Po) (h:FpJ w xs j g cp ps W1) (hb:Below W1.drew.heap.size W1.drew w') (hy:OwnY w' W1.drew.heap.size y.b y.c y.t):FpK w xs j g cp ps w'.heap.size y (w'.alloc (Obj.cells #[.int .i64 y.kind,.slice (some ⟨y.b,0,none⟩) y.t.length y.c] 67)):=by
 have hd:W1.drew.heap.size=W1.heap.size:=by simp
 have h1:Below W1.heap.size W1 w':=((Below.refl W1.heap.size W1).drew).trans hb;have h2:=h1.size;have hb3:Below w'.heap.size w' (w'.alloc (Obj.cells #[.int .i64 y.kind,.slice (some ⟨y.b,0,none⟩) y.t.length y.c] 67)):=qB;have h4:=h.own.lt;have h5:=h.below.size;have h6:=h.res.lt;have h7:=hy.lt;exact⟨(h.move h1).move hb3,yAb w' _ (by omega) rfl,(hy.mono (by omega)).below hb3,by omega,by omega,by omega⟩
theorem yS7 (y:Po) (h:FpJ w xs j g cp ps W1) (hb:Below (W1.drew.alloc (Obj.cells #[.int .i64 0,.slice none 0 0] 67)).heap.size (W1.drew.alloc (Obj.cells #[.int .i64 0,.slice none 0 0] 67)) w') (hy:OwnY w' (W1.drew.alloc (Obj.cells #[.int .i64 0,.slice none 0 0] 67)).heap.size y.b y.c y.t):
  FpK w xs j g cp ps W1.heap.size y ((w'.setCell ⟨W1.heap.size,0,none⟩ (.int .i64 y.kind)).setCell ⟨W1.heap.size,1,none⟩ (.slice (some ⟨y.b,0,none⟩) y.t.length y.c)):=by
 have hd:W1.drew.heap.size=W1.heap.size:=by simp
 have hs1:(W1.drew.alloc (Obj.cells #[.int .i64 0,.slice none 0 0] 67)).heap.size=W1.heap.size+1:=by simp
 have h0:Below W1.heap.size W1 (W1.drew.alloc (Obj.cells #[.int .i64 0,.slice none 0 0] 67)):=((Below.refl W1.heap.size W1).drew).alloc (by simp) _;have h1:Below W1.heap.size W1 w':=h0.trans (hb.mono (by simp));have h4:=h.own.lt;have h5:=h.below.size;have h6:=h.res.lt;have h7:=hy.lt;have hB:yA w' w.heap.size 67 2 W1.heap.size [.int .i64 0,.slice none 0 0]:=by have:=yAb W1.drew (base:=w.heap.size) (t:=67) (sz:=2) #[.int .i64 0,.slice none 0 0] (by simp;omega) rfl;rw[hd]at this;exact this.below hb
 have hJ:=h.move h1
 have hC:Chg (fun k=>k=W1.heap.size) w' ((w'.setCell ⟨W1.heap.size,0,none⟩ (.int .i64 y.kind)).setCell ⟨W1.heap.size,1,none⟩ (.slice (some ⟨y.b,0,none⟩) y.t.length y.c)):=
  (Chg.of_set w' W1.heap.size 0 _ (S:=fun k=>k=W1.heap.size) rfl).trans (Chg.of_set _ W1.heap.size 1 _ (S:=fun k=>k=W1.heap.size) rfl)
 refine⟨⟨hJ.fold,yA2 hJ.own hC (fun k q=>by simp[Value.ownBlock]at q;omega),hJ.res.chg hC (by omega),fun p hp=>⟨(hJ.txt p hp).1.chg hC (by have h8:=(h.txt p hp).1.lt.2;omega),(hJ.txt p hp).2⟩,?_⟩,(hB.set 0 _).set 1 _,(hy.mono (by omega)).chg hC (by omega),by omega,by omega,by omega⟩;exact yAd (yAd hJ.below (by omega) 0 _) (by omega) 1 _
theorem pt_new (X:World) (y:Po) (B:Nat) (hB:X.heap.size=B):QsAt (X.alloc (Obj.cells #[.int .i64 y.kind,.slice (some ⟨y.b,0,none⟩) y.t.length y.c] 67)) B 0 [y]:=by
 subst hB;intro i s hs;have hi:i=0:=by have:=(List.getElem?_eq_some_iff.1 hs).1;simpa using this
 subst hi;simp at hs;subst hs;exact⟨by simp,by simp⟩
theorem yZq {wc X:World} {SB g' cp' fr:Nat} {y:Po} (h:FpK w xs j g cp ps SB y wc) (hX:Below wc.heap.size wc X) (hY:yDy yA4 [] (xs.take (j+1))=some ((ps.take fr++ [y]).map Po.pt)) (hO:yFe w' (w.heap.size+1) g' cp' (ps.take fr++ [y])) (hgr:X.grownBy w' (some g)) (hat:g=g'∨g'=X.heap.size) (hm:fr=(ps.take fr).length):FpJ w xs (j+1) g' cp' (ps.take fr++ [y]) w'∧fr+1≤cp':=by
 have hJ:=h.fo.move hX;have h1:=hJ.own.lt;have hxs:=hX.size;have hC:Chg (fun k=>k=g) X w':=Chg.of_grown hgr (fun k hk=>by cases hk;rfl);refine⟨⟨hY,hO,hJ.res.chg hC (by omega),fun p hp=>?_,Chg.below hJ.below hC hJ.below.size (fun k q=>by omega)⟩,?_⟩
 ·have hp2:OwnY wc (w.heap.size+1) p.b p.c p.t∧¬p.b=g:=by
   rcases List.mem_append.1 hp with q|q
   ·exact h.fo.txt p (List.mem_of_mem_take q)
   ·simp at q;subst q;exact⟨h.new,h.nb⟩
  refine⟨(hp2.1.below hX).chg hC hp2.2,?_⟩;have h9:=hp2.1.lt.2;rcases hat with q|q
  ·rw[←q];exact hp2.2
  ·omega
 ·have:=hO.caps.1;rw[List.length_append,List.length_singleton,←hm]at this;exact this
def FpP (y:PT) (w:World) (r:Ending) (w':World):Prop:=∃b c,r=.returned (.tuple #[.agg #[.int .i64 y.1,.slice (some ⟨b,0,none⟩) y.2.length c],.bool true])∧OwnY w' w.heap.size b c y.2∧Below w.heap.size w w'
theorem yNc {T:Type} (V:Nd→List T→T):∀(k:Nat) (xs:List Nd) (ss:List T),xs.length=k→yDy V [] xs=some ss→TrV V ss xs
 |0,xs,ss,hk,h=>by
  obtain rfl:=List.length_eq_zero_iff.1 hk
  simp only[yDy,Option.some.injEq]at h
  subst h
  exact .nil
 |k+1,xs,ss,hk,h=>by
  rcases List.eq_nil_or_concat xs with rfl|⟨ys,n,rfl⟩
  ·simp at hk
  ·rw[List.concat_eq_append]at hk h⊢
   rw[yD9]at h
   cases hy:yDy V [] ys with
   |none=>rw[hy]at h;cases h
   |some st=>
    have ih:=yNc V k ys st (by simp at hk;exact hk) hy
    rw[hy]at h
    simp only[Option.bind_some,yDy,yQa]at h
    split at h
    ·cases h
    ·rename_i hn
     simp only[Option.bind_some,yDy,Option.some.injEq]at h
     subst h
     refine .snoc n (by rw[List.length_drop];omega) ?_
     rw[List.take_append_drop];exact ih
theorem yVz {ss:List PT} (h:yDy yA4 [] xs=some ss) (hg:∀e∈xs,yAj e∧NumN e) (hl:xs.length≤200):∀s∈ss,s.2.length≤400000:=by
 intro s hs;have h1:=yMo (yNc yA4 _ xs ss rfl h) hg;have h2:s.2.length≤yCw ss:=by obtain⟨a,b,rfl⟩:=List.append_of_mem hs;rw[yCz];simp[yCw];omega
 omega
theorem yL1 {gN oN cpN:Nat} {y:PT} (h:yBj w gN oN xs) (hg:gN<w.heap.size) (hG:∀e∈xs,yAj e∧NumN e) (hl:xs.length≤200) (hT:yHy xs y) (hGl:Gl w) (hB:7≤w.heap.size):
  Calls Tryz.prog 36 #[.slice (some ⟨gN,oN,none⟩) xs.length cpN,.func (Fn.func 37) #[] #[]] w (FpP y w):=by
 have HF:Hid (yBj w gN oN xs∧(∀e∈xs,yAj e∧NumN e)∧xs.length≤200∧yDy yA4 [] xs=some [y]∧Gl w):=⟨h,hG,hl,by have:=TrV.fold _ hT [];simpa using this,hGl⟩;obtain⟨n,hn⟩:=qE xs.length;have HL:Hid (n=xs.length):=hn;rw[←hn]at hl⊢;clear h hG hn hT hGl;obtain⟨W0,hW0⟩:=qE ((w.alloc (Obj.cells #[.int .i64 0,.slice none 0 0] 67)).alloc (Obj.cells #[] 67):World);have HW0:Hid (FpJ w xs 0 (w.heap.size+1) 0 [] W0):=by
  obtain⟨V,hV⟩:=qE (w.alloc (Obj.cells #[.int .i64 0,.slice none 0 0] 67):World);have hz:V.heap.size=w.heap.size+1:=by rw[hV];simp
  have hb:Below V.heap.size V W0:=by rw[hW0,←hV];exact qB
  have hbV:Below w.heap.size w V:=by rw[hV];exact qB
  have hBx:yA V w.heap.size 67 2 w.heap.size [.int .i64 0,.slice none 0 0]:=by rw[hV];exact yAb w _ (Nat.le_refl _) rfl
  refine⟨rfl,?_,hBx.below hb,(fun p hp=>by cases hp),hbV.trans (hb.mono (by omega))⟩;rw[hW0,←hV,←hz];exact ySd V (Nat.le_refl _)
 go_enter Tryz.func36,Tryz.ntmps36;go_upto_region 2 with fail;rw[←hW0];clear hW0;go_wp2_with fail;go_loopw[6,14] (fun sv iv wr=>∃(j m g cp:Nat) (ps:List Po),iv=.int .i64 (j:Int)∧j≤n∧m=ps.length∧m≤j∧m≤cp∧sv=.slice (some ⟨g,0,none⟩) m cp∧FpJ w xs j g cp ps wr) (fun _ iv _=>n-(intOf iv).toNat);case atStart=>exact⟨0,0,_,0,[],rfl,Nat.zero_le _,rfl,Nat.le_refl _,Nat.zero_le _,rfl,HW0.out⟩
 case round=>
  obtain⟨j,m,g,cp,ps,rfl,hj,hm,hmj,hmc,rfl,hJ⟩:=hrel;have HJ:Hid (m=ps.length∧FpJ w xs j g cp ps wr):=⟨hm,hJ⟩;have hgl:=hJ.own.lt;have hcp:cp≤9223372036854775807:=by have:=hJ.own.caps.2;unfold maxLen at this;omega
  have hsz:=hJ.below.size;have hrl:=hJ.res.lt.2;clear hm hJ HW0;by_cases hlt:j<n
  ·have zj:(j:Int)<(n:Int):=by omega
   obtain⟨e,he⟩:∃e,xs[j]?=some e:=⟨_,List.getElem?_eq_getElem (by have:=HL.out;omega)⟩;obtain⟨d0,d1,d2,d3,d4,d5,d6⟩:=(HF.1.below HJ.2.below hg) j e he;have HE:Hid (xs[j]?=some e∧yAj e∧NumN e):=⟨he,HF.2.1 e (List.mem_of_getElem? he)⟩;clear he;obtain⟨W1,hW1⟩:=qE (wr.alloc (Obj.cells #[.int .i64 e.kind,.string e.s,.bool e.hi,.string e.t,.int .u64 e.lo,.int .u64 e.up,.int .i64 e.n] 65):World);have hb1:Below wr.heap.size wr W1:=by rw[hW1];exact qB
   have hz1:W1.heap.size=wr.heap.size+1:=by rw[hW1];simp
   have HJ1:Hid (m=ps.length∧FpJ w xs j g cp ps W1∧yA W1 w.heap.size 65 7 wr.heap.size e.seven):=by refine⟨HJ.1,HJ.2.move hb1,?_⟩;rw[hW1];exact yAb wr _ hsz rfl
   go_upto_region 5 with fail;rw[←hW1];clear hW1 d0 d1 d2 d3 d4 d5 d6 HJ hb1;obtain⟨c0,c1,c2,c3,c4,c5,c6⟩:=HJ1.2.2.c7;obtain⟨a,ha⟩:=qE (yAo e.kind);have ha3:a≤3:=by rw[ha];exact yFb _
   have HAr:Hid (Calls Tryz.prog 73 #[.int .i64 e.kind] W1 fun r w'=>r=.returned (.int .i64 (a:Int))∧w'=W1):=by rw[ha];exact yEm e.kind W1
   have HAk:Hid (a=yAo e.kind):=ha;clear ha;go_wp2_with fail;refine HAr.mono ?_;rintro r w9 ⟨rfl,hw9⟩;rw[hw9];clear hw9 HAr;by_cases hfr:m<a
   ·exfalso;have hno:=yQt yA4 HJ1.2.1.fold HE.1 (by rw[List.length_map,←HJ1.1,←HAk.out];exact hfr);rw[HF.2.2.2.1]at hno;cases hno
   ·obtain⟨fr,hfrm⟩:∃fr:Nat,(m:Int)-(a:Int)=(fr:Int):=⟨m-a,by omega⟩;have hfrle:fr≤m:=by omega
    have HFr:Hid (fr=ps.length-yAo e.kind∧yAo e.kind≤ps.length):=by have h1:=HJ1.1;have h2:=HAk.out;exact⟨by omega,by omega⟩
    have zf:¬(fr:Int)<0:=by omega
    have z2:(fr:Int)≤(m:Int):=by omega
    have z3:(m:Int)≤(cp:Int):=by omega
    obtain⟨Y,hY⟩:=qE ((yA4 e ((ps.drop fr).map Po.pt)).2);have HY:Hid (yDy yA4 [] (xs.take (j+1))=some ((ps.take fr).map Po.pt++ [(e.kind,Y)])):=by show _=_;have h9:=yQu yA4 HJ1.2.1.fold HE.1 (by rw[List.length_map];exact HFr.2);rw[List.length_map,←HFr.1,←List.map_take,←List.map_drop]at h9;rw[h9,hY];rfl
    obtain⟨ad,had⟩:∃ad:Option Addr,(if cp=fr then some (⟨g,0,none⟩:Addr)else some ⟨g,fr*2,none⟩)=ad:=⟨_,rfl⟩;have HSh:Hid (∀X,Below W1.heap.size W1 X→Calls Tryz.prog 37 #[.agg #[.int .i64 e.kind,.string e.s,.bool e.hi,.string e.t,.int .u64 e.lo,.int .u64 e.up,.int .i64 e.n],.slice ad (m-fr) (cp-fr)] X (PnP e.kind Y X)):=fun X hX=>by
     have hJX:=HJ1.2.1.move hX;have hs2:=(hJX.own.at).drop fr;rw[Nat.zero_add]at hs2;have hlen:(ps.drop fr).length=m-fr:=by rw[List.length_drop,←HJ1.1]
     have hX2:=hX.size;have hla:(ps.drop fr).length=yAo e.kind:=by rw[List.length_drop];have:=HFr.1;have:=HFr.2;omega
     have hE:∀p∈ps.drop fr,yAe X p.b 0 p.t∧p.b<X.heap.size∧p.t.length≤400000:=fun p hp=>by have h1:=hJX.txt p (List.mem_of_mem_drop hp);refine⟨h1.1.at,h1.1.lt.2,?_⟩;exact yVz HJ1.2.1.fold (fun e he=>HF.2.1 e (List.mem_of_mem_take he)) (by rw[List.length_take];have:=HF.2.2.1;omega) p.pt (List.mem_map.2 ⟨p,List.mem_of_mem_drop hp,rfl⟩)
     have hglX:Gl X:=HF.2.2.2.2.on hJX.below hB;have hbX:7≤X.heap.size:=by have:=hJX.below.size;omega
     rw[hY,←had];by_cases hcf:cp=fr
     ·rw[if_pos hcf];have hnil:ps.drop fr= []:=List.length_eq_zero_iff.1 (by rw[hlen];omega);have h9:=yGq e g 0 (cp-fr) (ps.drop fr) X HE.2.1 HE.2.2 hla hJX.own.lt.2 (by rw[hnil];intro i s hs;simp at hs) hE hglX hbX;rw[hlen]at h9;exact h9
     ·rw[if_neg hcf];have h9:=yGq e g (fr*2) (cp-fr) (ps.drop fr) X HE.2.1 HE.2.2 hla hJX.own.lt.2 hs2 hE hglX hbX;rw[hlen]at h9;exact h9
    clear hY hfr;go_upto_region 8 with fail;go_cut[10] (fun sv wx=>∃SB b c,sv=.pointer (some ⟨SB,0,none⟩)∧FpK w xs j g cp ps SB ⟨e.kind,b,c,Y⟩ wx);case first=>
     go_region_law ((go_simp;go_at_call 37;refine(HSh.out _ ?hX).mono ?_;(case hX=>(repeat (first|exact Below.refl _ _|refine Below.drew ?_|refine Below.alloc ?_ (by simp) _)));rintro r w' ⟨vb,vc,rfl,hvO,hbb⟩;obtain⟨hcc,hff⟩:=yZ1 hbb;have hsz':=hbb.size));all_goals go_wp2_with fail
     all_goals go_meet
     all_goals first
      |exact⟨_,vb,vc,rfl,yVy ⟨e.kind,vb,vc,Y⟩ HJ1.2.1 hbb hvO⟩
      |exact⟨_,vb,vc,rfl,by have h9:=yS7 ⟨e.kind,vb,vc,Y⟩ HJ1.2.1 hbb hvO;rw[hz1]at h9;exact h9⟩
    case rest=>
    obtain⟨SB,yb,yc,rfl,hK⟩:=hcut;obtain⟨yl,hyl⟩:=qE Y.length;have HK:Hid (FpK w xs j g cp ps SB ⟨e.kind,yb,yc,Y⟩ wc∧yl=Y.length):=⟨hK,hyl⟩;obtain⟨b0,b1⟩:=hK.box.c2;simp only at b0 b1;rw[←hyl]at b1;have hgl2:=hK.fo.own.lt;have hsb:=hK.box.lt.2;have hnsb:=hK.ne;have hsz2:=hK.fo.below.size;have HM:Hid (fr=(ps.take fr).length):=by show fr=_;rw[List.length_take,←HJ1.1];omega
    clear hK c0 c1 c2 c3 c4 c5 c6 HSh hyl;go_upto_region 9 with fail;have hfl:fr≤ps.length:=by rw[←HJ1.1];exact hfrle
    have z4:(fr:Int)≤(cp:Int):=by omega
    have z5:fr≤cp:=by omega
    go_region_law ((refine yKf _ (by rfl) _ _ (by rfl) (w.heap.size+1) fr g cp wc.heap.size (ps.take fr) ⟨e.kind,yb,yc,Y⟩ HM.out (by rfl) (by rfl) ?hO ?hc ?hl ?hb ?_
                    case hO=>(refine yFe.below (HK.1.fo.own.take hfl) ?_;repeat (first|exact Below.refl _ _|refine Below.drew ?_|refine Below.alloc ?_ (by simp) _))
                    case hc=>(have h9:=pt_new wc ⟨e.kind,yb,yc,Y⟩ _ rfl;simp only[←HK.2]at h9;exact fun i q hq=>by simpa using h9 i q hq)
                    case hl=>rw[←HM.out];omega
                    case hb=>simp;omega
                    intro g' cp' w' hO' hgr' hat'
                    have fin:Hid (FpJ w xs (j+1) g' cp' (ps.take fr++ [⟨e.kind,yb,yc,Y⟩]) w'∧fr+1≤cp'):=yZq HK.1 (by repeat (first|exact Below.refl _ _|refine Below.drew ?_|refine Below.alloc ?_ (by simp) _)) (by rw[HY.out,List.map_append];rfl) hO' hgr' hat' HM.out
                    clear hO' hgr' hat'))
    all_goals go_wp2_with fail
    all_goals go_roundw
    all_goals first
     |exact⟨j+1,fr+1,g',cp',ps.take fr++ [⟨e.kind,yb,yc,Y⟩],by go_num,by omega,by rw[List.length_append,List.length_singleton,←HM.out],by omega,fin.out.2,rfl,fin.out.1⟩
     |(simp[intOf];omega)
  ·have zj:¬(j:Int)<(n:Int):=by omega
   obtain⟨p,hps,hpy⟩:∃p,ps= [p]∧p.pt=y:=by
    have h1:=HJ.2.fold;rw[List.take_of_length_le (by have:=HL.out;omega),HF.2.2.2.1]at h1;have h2:=Option.some.inj h1;match ps,h2 with
    | [p],h2=>exact⟨p,rfl,by simpa using h2.symm⟩
   have hm1:m=1:=by rw[HJ.1,hps];rfl
   subst hm1;have HJp:Hid (FpJ w xs j g cp [p] wr∧p.pt=y):=⟨by rw[←hps];exact HJ.2,hpy⟩;clear hps hpy HJ;obtain⟨q0,q1⟩:=HJp.1.own.at 0 p rfl;simp only[Nat.zero_add,Nat.zero_mul]at q0 q1;obtain⟨pk,pb,pc,pt⟩:=p;obtain⟨pl,hpl⟩:=qE pt.length;simp only at q0 q1;rw[←hpl]at q1;obtain⟨r0,r1⟩:=HJp.1.res.c2;obtain⟨f0,f1⟩:=HJp.1.res.f2;obtain⟨W9,hW9⟩:=qE ((wr.setCell ⟨w.heap.size,0,none⟩ (.int .i64 pk)).setCell ⟨w.heap.size,1,none⟩ (.slice (some ⟨pb,0,none⟩) pl pc):World);have HW9:Hid (yA W9 w.heap.size 67 2 w.heap.size [.int .i64 pk,.slice (some ⟨pb,0,none⟩) pl pc]∧FpP y w (.returned (.tuple #[.agg #[.int .i64 pk,.slice (some ⟨pb,0,none⟩) pl pc],.bool true])) W9):=by
    have hC:Chg (fun k=>k=w.heap.size) wr W9:=by rw[hW9];exact(Chg.of_set wr _ 0 _ (S:=fun k=>k=w.heap.size) rfl).trans (Chg.of_set _ _ 1 _ rfl)
    have hx:=(HJp.1.txt ⟨pk,pb,pc,pt⟩ (by simp)).1;have hxl:=hx.lt;simp only at hxl;refine⟨by rw[hW9];exact(HJp.1.res.set 0 _).set 1 _,pb,pc,?_,?_,?_⟩
    ·rw[←HJp.2,hpl]
    ·rw[←HJp.2];exact(hx.chg hC (by show¬pb=_;omega)).mono (by omega)
    ·rw[hW9];exact yAd (yAd HJp.1.below (Nat.le_refl _) 0 _) (Nat.le_refl _) 1 _
   obtain⟨p0,p1⟩:=HW9.1.c2;clear hpl;go_wp2_with fail;rw[←hW9];exact bodyPost_ret (v:=.tuple #[.agg #[.int .i64 pk,.slice (some ⟨pb,0,none⟩) pl pc],.bool true]) (by simp[results,Tryz.results36,go_sem,p0,p1]) rfl HW9.2
def yOs (xs:List Nd) (R:List UInt8):Prop:=(¬yEu xs∧R= [])∨(yEu xs∧∃k,yHy xs (k,R))
theorem yR3 {R S:List UInt8} (h:yOs xs R) (k:yOs xs S):R=S:=by
 rcases h with⟨h1,rfl⟩|⟨h1,a,h2⟩
 ·rcases k with⟨_,rfl⟩|⟨k1,_⟩
  ·rfl
  ·exact absurd k1 h1
 ·rcases k with⟨k1,_⟩|⟨_,b,k2⟩
  ·exact absurd h1 k1
  ·have:=yMh h2 k2;exact(Prod.mk.inj this).2
theorem yQs (h:yEu xs):∃y,yHy xs y:=by obtain⟨_,s,hs,_⟩:=h;exact yO0 (ShT.tree goodB hs)
theorem yHf {e:Nd} (h:e.ok):NumN e:=by have h1:=yW5 h.lo;have h2:=yW5 h.up;exact⟨h1.1,h1.2,h2.1,h2.2⟩
def PrtU (xs:List Nd) (w:World) (r:Ending) (w':World):Prop:=∃g cp R,r=.returned (.slice (some ⟨g,0,none⟩) R.length cp)∧OwnY w' w.heap.size g cp R∧yOs xs R∧Below w.heap.size w w'
theorem yLz {o:Nat} (h:WdN w g o cp xs) (hok:∀e∈xs,e.ok) (hGl:Gl w) (hB:7≤w.heap.size):Calls Tryz.prog 15 #[.agg #[.slice (some ⟨g,o,none⟩) xs.length cp]] w (PrtU xs w):=by
 have HO:Hid (WdN w g o cp xs∧(∀e∈xs,e.ok)∧Gl w):=⟨h,hok,hGl⟩;have hgl:=h.lt;have hcp:=h.caps;obtain⟨W0,hW0⟩:=qE (w.alloc (Obj.cells #[.slice (some ⟨g,o,none⟩) xs.length cp] 25):World);have hb0:Below w.heap.size w W0:=by rw[hW0];exact qB
 have hz0:w.heap.size<W0.heap.size:=by rw[hW0];simp
 have c0:W0.cell? ⟨w.heap.size,0,none⟩=some (.slice (some ⟨g,o,none⟩) xs.length cp):=by rw[hW0];simp
 have HO0:Hid (WdN W0 g o cp xs):=h.below hb0 hgl;clear h hok hGl;go_enter Tryz.func15,Tryz.ntmps15;go_upto_region 1 with fail;rw[←hW0];clear hW0;go_wp2_with fail;refine(yKk HO0.out HO.2.1).mono ?_;rintro e w1 ⟨r,rfl,hr,hb1⟩;have HR:Hid (r=true↔yEu xs):=hr;have s1:=hb1.size;have k1:Below w.heap.size w w1:=hb0.trans (hb1.mono (by omega));have c1:w1.cell? ⟨w.heap.size,0,none⟩=some (.slice (some ⟨g,o,none⟩) xs.length cp):=by rw[hb1.cell (p:=⟨w.heap.size,0,none⟩) hz0];exact c0
 have HO1:Hid (WdN w1 g o cp xs):=HO0.below hb1 HO0.lt;clear hr c0;cases r
 case false=>have HG:Hid (PrtU xs w (.returned (.slice (some ⟨w1.heap.size,0,none⟩) 0 0)) (w1.alloc (Obj.cells #[] 5))):=⟨w1.heap.size,0,[],rfl,yHd w1 k1.size,.inl ⟨fun q=>Bool.noConfusion (HR.2 q),rfl⟩,k1.alloc k1.size _⟩;go_wp2_with fail;go_ret;exact HG.out
 case true=>
 have hG:yEu xs:=HR.1 rfl;obtain⟨y,hy⟩:=yQs hG
 have HC:Hid (Calls Tryz.prog 36 #[.slice (some ⟨g,o,none⟩) xs.length cp,.func (Fn.func 37) #[] #[]] w1 (FpP y w1)):=
  yL1 HO1.at HO1.lt (fun e he=>⟨yHt hG e he,yHf (HO.2.1 e he)⟩) hG.1 hy (HO.2.2.on k1 hB) (by omega)
 have HY:Hid (yHy xs y∧yEu xs):=⟨hy,hG⟩;clear hy hG;go_wp2_with fail;refine HC.mono ?_;rintro e w3 ⟨b,c,rfl,hOb,hb3⟩;obtain⟨yk,yt⟩:=y;obtain⟨yl,hyl⟩:=qE yt.length;simp only;rw[←hyl];have s3:=hb3.size;have HG:Hid (PrtU xs w (.returned (.slice (some ⟨b,0,none⟩) yl c)) (w3.alloc (Obj.cells #[.int .i64 yk,.slice (some ⟨b,0,none⟩) yl c] 67))):=by have hbb:Below w3.heap.size w3 (w3.alloc (Obj.cells #[.int .i64 yk,.slice (some ⟨b,0,none⟩) yl c] 67)):=qB;exact⟨b,c,yt,by rw[hyl],(hOb.mono k1.size).below hbb,.inr ⟨HY.2,yk,HY.1⟩,(k1.trans (hb3.mono k1.size)).trans (hbb.mono (by omega))⟩
 clear hyl hOb;go_wp2_with fail;go_ret;exact HG.out
theorem yR4 {R:List UInt8} (h:yOs xs R) (hok:∀e∈xs,e.ok):R.length≤400000:=by
 rcases h with⟨_,rfl⟩|⟨hG,k,hT⟩
 ·simp
 ·have h1:=yRr hT (fun e he=>⟨yHt hG e he,yHf (hok e he)⟩);have h2:=hG.1;simp only at h1;omega
section
section
variable {α:Type} {f:α→List Value} {sz:Nat}
theorem yNa (hf:∀x,(f x).length=sz) (es:List α):(es.flatMap f).length=es.length*sz:=by
 induction es with
 |nil=>simp
 |cons e es ih=>rw[List.flatMap_cons,List.length_append,ih,hf,List.length_cons,Nat.add_mul];omega
theorem yNb (hf:∀x,(f x).length=sz):∀(es:List α) (k:Nat) (e:α),es[k]?=some e→∀j,j<sz→(es.flatMap f)[k*sz+j]?=(f e)[j]?
 | [],k,e,h,j,hj=>by simp at h
 |a::es,0,e,h,j,hj=>by
  simp at h;subst h
  rw[List.flatMap_cons,List.getElem?_append_left (by rw[hf];omega)]
  simp
 |a::es,k+1,e,h,j,hj=>by
  simp at h
  rw[List.flatMap_cons,List.getElem?_append_right (by rw[hf,Nat.add_mul];omega),hf]
  rw[show(k+1)*sz+j-sz=k*sz+j by rw[Nat.add_mul];omega]
  exact yNb hf es k e h j hj
theorem yK7 (hf:∀x,(f x).length=sz):∀(es:List α) (k:Nat),k≤es.length→(es.take k).flatMap f=(es.flatMap f).take (k*sz)
 |es,0,_=>by simp
 | [],k+1,h=>by simp at h
 |a::es,k+1,h=>by rw[List.take_succ_cons,List.flatMap_cons,List.flatMap_cons,yK7 hf es k (by simpa using h),List.take_append,hf,List.take_of_length_le (l:=f a) (by rw[hf,Nat.add_mul];omega),show(k+1)*sz-sz=k*sz by rw[Nat.add_mul];omega]
def OwnG (f:α→List Value) (sz ty:Nat) (w:World) (base g cap:Nat) (es:List α):Prop:=w.ownsRow base ty sz (.slice (some ⟨g,0,none⟩) es.length cap) es.length (es.flatMap f)
variable {ty:Nat} {base cap i:Nat}
theorem OwnG.cell (hf:∀x,(f x).length=sz) {es:List α} (h:OwnG f sz ty w base g cap es) {e:α} (he:es[i]?=some e) (j:Nat) (hj:j<sz):w.cell? ⟨g,i*sz+j,none⟩=(f e)[j]?:=by
 have hi:i<es.length:=(List.getElem?_eq_some_iff.1 he).1;have h1:i*sz+j<es.length*sz:=by have:(i+1)*sz≤es.length*sz:=Nat.mul_le_mul_right sz hi;rw[Nat.add_mul]at this;omega
 have:=(World.ownsRow.cellAt h (i*sz+j) h1).trans (yNb hf es i e he j hj);simpa using this
theorem OwnG.lt {es:List α} (h:OwnG f sz ty w base g cap es):base≤g∧g<w.heap.size:=World.ownsRow.lt h g rfl
theorem OwnG.chg {S:Nat→Prop} {es:List α} (h:OwnG f sz ty w base g cap es) (hc:Chg S w w') (hn:¬S g):OwnG f sz ty w' base g cap es:=yA2 h hc (fun k q=>by simp[Value.ownBlock]at q;subst q;exact hn)
theorem OwnG.below {es:List α} (h:OwnG f sz ty w base g cap es) (hb:Below w.heap.size w w'):OwnG f sz ty w' base g cap es:=h.chg (Chg.of_below hb) (S:=fun _=>False) (fun q=>q)
theorem OwnG.mono {base':Nat} {es:List α} (h:OwnG f sz ty w base g cap es) (hb:base'≤base):OwnG f sz ty w base' g cap es:=by exact yT7
theorem OwnG.caps {es:List α} (h:OwnG f sz ty w base g cap es):es.length≤cap∧cap≤maxLen:=by exact yP3
theorem OwnG.take (hf:∀x,(f x).length=sz) {es:List α} (h:OwnG f sz ty w base g cap es) {k:Nat} (hk:k≤es.length):OwnG f sz ty w base g cap (es.take k):=by
 have hl:(es.take k).length=k:=by rw[List.length_take];omega
 rcases h.2 with⟨h0,_⟩|⟨g',cap',cur,hv,h1,h2,h3,h4,h5,h6⟩
 ·cases h0
 ·simp only[Value.slice.injEq,Option.some.injEq,Addr.mk.injEq,and_true,true_and]at hv;obtain⟨rfl,rfl⟩:=hv;refine⟨yNa hf _,.inr ⟨g,cap,cur,rfl,h1,h2,by omega,h4,h5,?_⟩⟩;rw[hl,yK7 hf es k hk,←h6,List.take_take];congr 1;have:=Nat.mul_le_mul_right sz hk;omega
theorem yU5 (w:World) (hb:base≤w.heap.size):OwnG f sz ty (w.alloc (Obj.cells #[] ty)) base w.heap.size 0 []:=
 World.ownsRow_made w #[] 0 hb (Nat.zero_le _) (by simp)
end
section
variable {α:Type} {f:α→List Value} {sz ty:Nat}
end
end
def tkN:TkK→Int
 | .word _=>1
 | .num _=>2
 | .str _=>3
 | .sign _=>4
 | .fin=>5
 | .bad=>6
def yP7 (k:Int):ByteArray:=if k=16 then⟨#[105,102]⟩else yA8 k
def tkT:TkK→ByteArray
 | .word k=>yP7 k
 | .str s=>s
 | .sign b=>if b=46 then⟨#[46,46]⟩else⟨#[b]⟩
 |_=>⟨#[]⟩
abbrev tkV (k:Tk):List Value:= [.int .i64 (tkN k.k),.int .u64 k.k.nm,.string (tkT k.k),.int .i64 (k.pos:Int)]
abbrev enV (e:Int×Nat):List Value:= [.int .i64 e.1,.int .i64 (e.2:Int)]
theorem yI3 (x:Tk):(tkV x).length=4:=rfl
theorem Tryz.infoTk:(Tryz.prog.info? 80).map (fun i=>(i.zero,i.size,i.bytes))=some (some (.agg #[.int .i64 0,.int .u64 0,.string ⟨#[]⟩,.int .i64 0]),4,40):=by kernel_rfl
abbrev yBs (w:World) (base g cap:Nat) (es:List (Tk)):Prop:=OwnG tkV 4 80 w base g cap es
theorem yA0 {ops:Array Oper} {rest:List Oper} {o:Oper} {a:Act} {Q:Exit→Act→World→Prop} (w:World) (hgd:o.guard=none) (s x:Operand)
  (ho:o.op=.call {callee:=.builtin .append,args:=#[s,x],argTypes:=#[39,39]})
  (base g cp n b cx:Nat) (fs:List (Tk)) (e:Tk) (hs:a.eval s=.slice (some ⟨g,0,none⟩) n cp) (hx:a.eval x=.slice (some ⟨b,0,none⟩) 1 cx) (hn:n=fs.length) (hO:yBs w base g cp fs)
  (hc:∀j u,(tkV e)[j]?=some u→w.cell? ⟨b,j,none⟩=some u) (hlen:fs.length≤1000000) (hbase:base≤w.heap.size)
  (h:∀g' cp' w',yBs w' base g' cp' (fs++ [e])→w.grownBy w' (some g)→(g'=g∨g'=w.heap.size)→wpList Tryz.prog ops Q rest (a.put o.dst (.slice (some ⟨g',0,none⟩) (n+1) cp')) w'):wpList Tryz.prog ops Q (o::rest) a w:=by
 subst hn;obtain⟨i,hi,hz0,hz1,hz2⟩:=info_parts Tryz.infoTk;refine wpList_append_own_at w hgd s x 39 ho base 80 i _ 4 40 Tryz.underlying39 hi hz0 hz1 hz2 rfl (by decide) (.slice (some ⟨g,0,none⟩) fs.length cp) fs.length (fs.flatMap tkV) hs hO ⟨b,0,none⟩ 1 cx (tkV e) hx (by rw[yI3]) (fun j u hu=>by rw[Addr.add_mid,Nat.zero_add];exact hc j u hu) (fun u hu=>by simp at hu;rcases hu with rfl|rfl|rfl|rfl<;>rfl) ?_ ?_ hbase ?_
 ·unfold maxLen;omega
 ·omega
 ·intro v' w' hO' hgr hnil hat;rcases hO'.2 with⟨h0,_⟩|⟨g',cap',cur,hv,_,_,hn,hcap,_,_⟩
  ·have:=(hnil.1 h0).1;cases this
  ·subst hv;refine h g' cap' w' ?_ hgr ?_
   ·unfold yBs OwnG;rw[List.length_append,List.length_singleton,List.flatMap_append,List.flatMap_singleton];exact hO'
   ·simp[Value.ownBlock]at hat;exact hat
theorem yE8 (x:Int×Nat):(enV x).length=2:=rfl
theorem Tryz.infoEn:(Tryz.prog.info? 86).map (fun i=>(i.zero,i.size,i.bytes))=some (some (.agg #[.int .i64 0,.int .i64 0]),2,16):=by kernel_rfl
abbrev yGm (w:World) (base g cap:Nat) (es:List (Int×Nat)):Prop:=OwnG enV 2 86 w base g cap es
theorem yA6 {ops:Array Oper} {rest:List Oper} {o:Oper} {a:Act} {Q:Exit→Act→World→Prop} (w:World) (hgd:o.guard=none) (s x:Operand)
  (ho:o.op=.call {callee:=.builtin .append,args:=#[s,x],argTypes:=#[78,78]})
  (base g cp n b cx:Nat) (fs:List (Int×Nat)) (e:Int×Nat) (hs:a.eval s=.slice (some ⟨g,0,none⟩) n cp) (hx:a.eval x=.slice (some ⟨b,0,none⟩) 1 cx) (hn:n=fs.length) (hO:yGm w base g cp fs)
  (hc:∀j u,(enV e)[j]?=some u→w.cell? ⟨b,j,none⟩=some u) (hlen:fs.length≤1000000) (hbase:base≤w.heap.size)
  (h:∀g' cp' w',yGm w' base g' cp' (fs++ [e])→w.grownBy w' (some g)→(g'=g∨g'=w.heap.size)→wpList Tryz.prog ops Q rest (a.put o.dst (.slice (some ⟨g',0,none⟩) (n+1) cp')) w'):wpList Tryz.prog ops Q (o::rest) a w:=by
 subst hn;obtain⟨i,hi,hz0,hz1,hz2⟩:=info_parts Tryz.infoEn;refine wpList_append_own_at w hgd s x 78 ho base 86 i _ 2 16 Tryz.underlying78 hi hz0 hz1 hz2 rfl (by decide) (.slice (some ⟨g,0,none⟩) fs.length cp) fs.length (fs.flatMap enV) hs hO ⟨b,0,none⟩ 1 cx (enV e) hx (by rw[yE8]) (fun j u hu=>by rw[Addr.add_mid,Nat.zero_add];exact hc j u hu) (fun u hu=>by simp at hu;rcases hu with rfl|rfl<;>rfl) ?_ ?_ hbase ?_
 ·unfold maxLen;omega
 ·omega
 ·intro v' w' hO' hgr hnil hat;rcases hO'.2 with⟨h0,_⟩|⟨g',cap',cur,hv,_,_,hn,hcap,_,_⟩
  ·have:=(hnil.1 h0).1;cases this
  ·subst hv;refine h g' cap' w' ?_ hgr ?_
   ·unfold yGm OwnG;rw[List.length_append,List.length_singleton,List.flatMap_append,List.flatMap_singleton];exact hO'
   ·simp[Value.ownBlock]at hat;exact hat
theorem yAt (w:World) (cs:List Value) (ty:Nat):∀j u,cs[j]?=some u→(w.alloc (Obj.cells cs.toArray ty)).cell? ⟨w.heap.size,j,none⟩=some u:=by intro j u hu;rw[World.cell?_alloc_new];simpa using hu
abbrev parV (g N cp:Nat) (i nd:Nat) (er:Int) (pa:Nat):Value:=.agg #[.slice (some ⟨g,0,none⟩) N cp,.int .i64 (i:Int),.int .i64 (nd:Int),.int .i64 er,.int .i64 (pa:Int)]
theorem yFp {W0:World} (v u:List Value) {t:Nat} (h:W0=(w.alloc (Obj.cells v.toArray t)).alloc (Obj.cells u.toArray t)):yA W0 w.heap.size t v.length w.heap.size v∧yA W0 w.heap.size t u.length (w.heap.size+1) u∧Below w.heap.size w W0:=by
 obtain⟨X,hX⟩:=qE (w.alloc (Obj.cells v.toArray t):World);have z:X.heap.size=w.heap.size+1:=by rw[hX];simp
 have b1:=yAb w (base:=w.heap.size) (t:=t) (sz:=v.length) v.toArray (Nat.le_refl _) (by simp);have k1:Below w.heap.size w X:=by rw[hX];exact qB
 rw[←hX]at b1 h;have k2:Below X.heap.size X W0:=by rw[h];exact qB
 have b2:=yAb X (base:=w.heap.size) (t:=t) (sz:=u.length) u.toArray (by omega) (by simp);rw[←h,z]at b2;exact⟨b1.below k2,b2,k1.trans (k2.mono (by omega))⟩
def setP (w:World) (g:Nat) (a b c d e:Value):World:=((((w.setCell ⟨g,0,none⟩ a).setCell ⟨g,1,none⟩ b).setCell ⟨g,2,none⟩ c).setCell ⟨g,3,none⟩ d).setCell ⟨g,4,none⟩ e
variable {base:Nat} {vs:List Value}
theorem yA.setP {t:Nat} (h:yA w base t 5 g vs) (a b c d e:Value):yA (Go.Proofs.YtgnpcenpcmdlfaaGreatDoor.setP w g a b c d e) base t 5 g [a,b,c,d,e]:=by
 have h1:=((((h.set 0 a).set 1 b).set 2 c).set 3 d).set 4 e;have hl:=h.len;match vs,hl with
 | [_,_,_,_,_],_=>exact h1
theorem yIf {B:Nat} {x:World} (h:Below B x w) {k:Nat} (hk:B≤k) (a b c d e:Value):Below B x (setP w k a b c d e):=yAd (yAd (yAd (yAd (yAd h hk 0 a) hk 1 b) hk 2 c) hk 3 d) hk 4 e
theorem yLc {k:TkK}:tkN k=6↔k.isBad=true:=by cases k<;>simp[tkN,TkK.isBad]
variable {ks:List Tk} {i:Nat} {k:Tk}
theorem yBc (h:yBs w base g cp ks) (hk:ks[i]?=some k):
  w.cell? ⟨g,i*4,none⟩=some (.int .i64 (tkN k.k))∧w.cell? ⟨g,i*4+1,none⟩=some (.int .u64 k.k.nm)∧w.cell? ⟨g,i*4+2,none⟩=some (.string (tkT k.k))∧w.cell? ⟨g,i*4+3,none⟩=some (.int .i64 (k.pos:Int)):=
 ⟨h.cell yI3 hk 0 (by omega),h.cell yI3 hk 1 (by omega),h.cell yI3 hk 2 (by omega),h.cell yI3 hk 3 (by omega)⟩
variable {N:Nat}
theorem yBd (h:yBs w base g cp ks) (hN:N=ks.length) (hl:N≤1000000) (hk:ks[i]?=some k) (nd:Nat) (er:Int) (pa:Nat) (c:Int):
  Calls Tryz.prog 46 #[parV g N cp i nd er pa,.int .i64 c] w fun e w'=>e=.returned (parV g N cp i nd (if k.k.isBad=true then 2 else c) k.pos)∧Below w.heap.size w w':=by
 obtain⟨c0,c1,c2,c3⟩:=yBc h hk;have hg:=h.lt.2;have hi:i<N:=by rw[hN];exact(List.getElem?_eq_some_iff.1 hk).1
 have zi:(i:Int)<(N:Int):=by omega
 clear h hk hN;have HB:Hid (Below w.heap.size w w):=Below.refl _ _;cases hb:k.k.isBad
 case false=>
  have z6:(tkN k.k==6)=false:=by rw[beq_eq_false_iff_ne];intro q;rw[yLc.1 q]at hb;cases hb
  go_enter Tryz.func46,Tryz.ntmps46;go_wp2_with fail;refine bodyPost_ret (v:=parV g N cp i nd c k.pos) (by simp[results,Tryz.results46,go_sem]) rfl ⟨by simp,?_⟩
  first
   |exact(qB).alloc (by simp) _
   |(repeat (first|exact Below.refl _ _|refine Below.alloc ?_ (by simp) _))
 case true=>
  have z6:(tkN k.k==6)=true:=by rw[beq_iff_eq];exact yLc.2 hb
  go_enter Tryz.func46,Tryz.ntmps46;go_wp2_with fail;refine bodyPost_ret (v:=parV g N cp i nd 2 k.pos) (by simp[results,Tryz.results46,go_sem]) rfl ⟨by simp,?_⟩;exact(qB).alloc (by simp) _
theorem yYl (k:TkK) (hk:k.good∨k=.fin∨k=.bad) (b:UInt8) (s:ByteArray) (hs:s.toList=if b=46 then [46,46]else [b]):(tkN k=4∧(tkT k).toList=s.toList)↔k.isSign b=true:=by
 rw[hs];cases k with
 |sign c=>
  simp only[tkN,tkT,TkK.isSign,true_and,beq_iff_eq];by_cases h1:c=46
  ·by_cases h2:b=46
   ·simp[h1,h2]
   ·rw[if_pos h1,if_neg h2,ByteArray.toList_eq];constructor
    ·intro q;simp at q
    ·intro q;exact absurd (q.symm.trans h1) h2
  ·rw[if_neg h1];by_cases h2:b=46
   ·rw[if_pos h2,ByteArray.toList_eq];constructor
    ·intro q;simp at q
    ·intro q;exact absurd (q.trans h2) h1
   ·rw[if_neg h2,ByteArray.toList_eq];constructor
    ·intro q;simpa using q
    ·intro q;simp[q]
 |_=>simp[tkN,TkK.isSign]
theorem yCl (h:yBs w base g cp ks) (hN:N=ks.length) (hl:N≤1000000) (hk:ks[i]?=some k) (hg:k.k.good∨k.k=.fin∨k.k=.bad) (nd:Nat) (er:Int) (pa:Nat) (b:UInt8) (s:ByteArray) (hs:s.toList=if b=46 then [46,46]else [b]):
  Calls Tryz.prog 48 #[parV g N cp i nd er pa,.string s] w fun e w'=>e=.returned (.bool (k.k.isSign b))∧Below w.heap.size w w':=by
 obtain⟨c0,c1,c2,c3⟩:=yBc h hk;have hgl:=h.lt.2;have hi:i<N:=by rw[hN];exact(List.getElem?_eq_some_iff.1 hk).1
 have zi:(i:Int)<(N:Int):=by omega
 have HS:Hid ((tkN k.k=4∧(tkT k.k).toList=s.toList)↔k.k.isSign b=true):=yYl k.k hg b s hs;obtain⟨r,hr⟩:=qE (k.k.isSign b);rw[←hr]at HS⊢;obtain⟨kn,hkn⟩:=qE (tkN k.k);obtain⟨kt,hkt⟩:=qE (tkT k.k);rw[←hkn]at c0 HS;rw[←hkt]at c2 HS;clear h hk hN hg hs hr hkn hkt c1 c3;by_cases h4:kn=4
 ·have z4:(kn==4)=true:=by rw[beq_iff_eq];exact h4
  by_cases ht:kt.toList=s.toList
  ·have zt:(kt.toList==s.toList)=true:=by rw[beq_iff_eq];exact ht
   obtain rfl:r=true:=HS.1 ⟨h4,ht⟩;clear h4 ht;exact yXq
  ·have zt:(kt.toList==s.toList)=false:=by rw[beq_eq_false_iff_ne];exact ht
   obtain rfl:r=false:=by cases r with
    |false=>rfl
    |true=>exact absurd (HS.2 rfl).2 ht
   clear h4 ht;exact yXq
 ·have z4:(kn==4)=false:=by rw[beq_eq_false_iff_ne];exact h4
  obtain rfl:r=false:=by cases r with
   |false=>rfl
   |true=>exact absurd (HS.2 rfl).1 h4
  clear h4;exact yXq
theorem yB8 (h:yBs w base g cp ks) (hN:N=ks.length) (hl:N≤1000000) (hk:ks[i]?=some k) (hkb:k.k.isBad=false) (nd:Nat) (hnd:nd≤200) (pa:Nat):
  Calls Tryz.prog 47 #[parV g N cp i nd 0 pa] w fun e w'=>Below w.heap.size w w'∧((nd<200∧e=.returned (parV g N cp (i+1) (nd+1) 0 pa))∨(¬nd<200∧e=.returned (parV g N cp i nd 5 k.pos))):=by
 have hi:i<N:=by rw[hN];exact(List.getElem?_eq_some_iff.1 hk).1
 by_cases h2:nd=200
 ·subst h2;have HF:Hid (∀wx,Below w.heap.size w wx→Calls Tryz.prog 46 #[parV g N cp i 200 0 pa,.int .i64 5] wx fun e w'=>e=.returned (parV g N cp i 200 5 k.pos)∧Below wx.heap.size wx w'):=fun wx hx=>by have h9:=yBd (h.chg (S:=fun _=>False) (Chg.of_below hx) (fun q=>q)) hN hl hk 200 0 pa 5;rw[hkb]at h9;simpa using h9
  obtain⟨W0,hW0⟩:=qE ((w.alloc (Obj.cells #[.slice (some ⟨g,0,none⟩) N cp,.int .i64 (i:Int),.int .i64 (200:Int),.int .i64 0,.int .i64 (pa:Int)] 41)).alloc (Obj.cells #[.slice none 0 0,.int .i64 0,.int .i64 0,.int .i64 0,.int .i64 0] 41):World);have HW0:Hid (yA W0 w.heap.size 41 5 w.heap.size [.slice (some ⟨g,0,none⟩) N cp,.int .i64 (i:Int),.int .i64 (200:Int),.int .i64 0,.int .i64 (pa:Int)]∧yA W0 w.heap.size 41 5 (w.heap.size+1) [.slice none 0 0,.int .i64 0,.int .i64 0,.int .i64 0,.int .i64 0]∧Below w.heap.size w W0):=yFp _ _ hW0;clear h hk hkb hN;obtain⟨q0,q1,q2,q3,q4⟩:=HW0.1.c5;go_enter Tryz.func47,Tryz.ntmps47;go_upto_region 1 with fail;rw[←hW0];clear hW0;go_wp2_with fail;refine(HF.out W0 HW0.2.2).mono ?_;rintro e w1 ⟨rfl,hb1⟩;have HW1:Hid (yA w1 w.heap.size 41 5 (w.heap.size+1) [.slice none 0 0,.int .i64 0,.int .i64 0,.int .i64 0,.int .i64 0]∧Below w.heap.size w w1):=⟨HW0.2.1.below hb1,HW0.2.2.trans (hb1.mono HW0.2.2.size)⟩;clear hb1 q0 q1 q2 q3 q4;obtain⟨W2,hW2⟩:=qE (setP w1 (w.heap.size+1) (.slice (some ⟨g,0,none⟩) N cp) (.int .i64 (i:Int)) (.int .i64 (200:Int)) (.int .i64 5) (.int .i64 (k.pos:Int)):World);have hB2:=HW1.1.setP (.slice (some ⟨g,0,none⟩) N cp) (.int .i64 (i:Int)) (.int .i64 (200:Int)) (.int .i64 5) (.int .i64 (k.pos:Int));have hk2:=yIf HW1.2 (k:=w.heap.size+1) (by omega) (.slice (some ⟨g,0,none⟩) N cp) (.int .i64 (i:Int)) (.int .i64 (200:Int)) (.int .i64 5) (.int .i64 (k.pos:Int));rw[←hW2]at hB2 hk2;have HB2:Hid (Below w.heap.size w W2):=hk2;obtain⟨p0,p1,p2,p3,p4⟩:=hB2.c5;obtain⟨l0,l1,l2,l3,l4⟩:=HW1.1.c5;obtain⟨f0,f1,f2,f3,f4⟩:=HW1.1.f5;unfold setP at hW2;clear hB2 hk2;go_wp2_with fail;rw[←hW2];exact bodyPost_ret (v:=parV g N cp i 200 5 k.pos) (by simp[results,Tryz.results47,go_sem,p0,p1,p2,p3,p4]) rfl ⟨HB2.out,.inr ⟨by omega,rfl⟩⟩
 ·have z2:((nd:Int)==200)=false:=by rw[beq_eq_false_iff_ne];omega
  clear h hk hkb hN;go_enter Tryz.func47,Tryz.ntmps47;go_wp2_with fail;refine bodyPost_ret (v:=parV g N cp (i+1) (nd+1) 0 pa) (by simp[results,Tryz.results47,go_sem]) rfl ⟨?_,.inl ⟨by omega,rfl⟩⟩;exact(qB).alloc (by simp) _
theorem yOc {st:List (Int×Nat)} (h:yGm w base g cp st.reverse) (hl:st.length≤1000000):
  Calls Tryz.prog 45 #[.slice (some ⟨g,0,none⟩) st.length cp] w fun e w'=>e=.returned (.int .i64 (yBr st:Int))∧w'=w:=by
 have HO:Hid (yGm w base g cp st.reverse):=h;have hg:=h.lt.2;have hcp:=h.caps;obtain⟨n,hn⟩:=qE st.length;have HN:Hid (n=st.length):=hn;rw[←hn]at hl⊢;clear h hn hcp;go_enter Tryz.func45,Tryz.ntmps45;go_wp2_with fail;go_loopw[3,4] (fun nv iv wr=>∃(i m:Nat),iv=.int .i64 (i:Int)∧nv=.int .i64 (m:Int)∧i≤n∧m≤i∧m=yBr (st.drop (n-i))∧wr=w) (fun _ iv _=>n-(intOf iv).toNat);case atStart=>exact⟨0,0,rfl,rfl,Nat.zero_le _,Nat.le_refl _,by rw[Nat.sub_zero,HN.out,List.drop_length];rfl,rfl⟩
 case round=>
  obtain⟨i,m,rfl,rfl,hi,hmi,hM,rfl⟩:=hrel;have HM:Hid (m=yBr (st.drop (n-i))):=hM;clear hM;by_cases hin:i<n
  ·have zi:(i:Int)<(n:Int):=by omega
   obtain⟨e,he⟩:∃e,st[n-1-i]?=some e:=⟨_,List.getElem?_eq_getElem (by have:=HN.out;omega)⟩;have hr:st.reverse[i]?=some e:=by rw[List.getElem?_reverse (by have:=HN.out;omega),←HN.out];exact he
   have c0:=HO.cell yE8 hr 0 (by omega);simp at c0;have HS:Hid (yBr (st.drop (n-(i+1)))=m+if 2<e.1 then 1 else 0):=by show _=_;have hlt:n-1-i<st.length:=(List.getElem?_eq_some_iff.1 he).1;rw[show n-(i+1)=n-1-i by omega,List.drop_eq_getElem_cons hlt,show st[n-1-i]=e from Option.some.inj ((List.getElem?_eq_getElem hlt).symm.trans he),show n-1-i+1=n-i by omega,HM.out];rfl
   clear he hr;by_cases h2:2<e.1
   ·rw[if_pos h2]at HS;go_wp2_with fail;go_roundw;case rel=>exact⟨i+1,m+1,by go_num,by go_num,by omega,by omega,HS.symm,by first|rfl|trivial⟩
    case measure=>simp[intOf];omega
   ·rw[if_neg h2]at HS;go_wp2_with fail;go_roundw;case rel=>exact⟨i+1,m,by go_num,by go_num,by omega,by omega,HS.symm,by first|rfl|trivial⟩
    case measure=>simp[intOf];omega
  ·have zi:¬(i:Int)<(n:Int):=by omega
   have HE:Hid (m=yBr st):=by show _=_;rw[HM.out,show n-i=0 by omega];rfl
   go_wp2_with fail;go_ret;exact⟨by rw[←HE.out];rfl,rfl⟩
theorem yRw:strM []=none:=by unfold strM;rfl
theorem yYm (r:List UInt8):strM (34::r)=some ([],1):=by unfold strM;rw[if_pos rfl]
variable {b:UInt8} {r:List UInt8}
theorem yRv (h1:¬b=34) (h2:¬b=92) (h3:yKj b=true):strM (b::r)=(strM r).map (fun x=>(b::x.1,x.2+1)):=by
 conv=>lhs;unfold strM
 rw[if_neg h1,if_neg h2,if_pos h3]
theorem yN5 (h1:¬b=34) (h2:¬b=92) (h3:¬yKj b=true):strM (b::r)=none:=by
 conv=>lhs;unfold strM
 rw[if_neg h1,if_neg h2,if_neg h3]
theorem yYn:strM [92]=none:=by decide
theorem yN6 {c:UInt8} (h:c=34∨c=92):strM (92::c::r)=(strM r).map (fun x=>(c::x.1,x.2+2)):=by
 conv=>lhs;unfold strM
 rw[if_neg (by decide),if_pos rfl];dsimp only;rw[if_pos h]
theorem yN4 {c:UInt8} (h:¬(c=34∨c=92)) (h2:¬c=120):strM (92::c::r)=none:=by
 conv=>lhs;unfold strM
 rw[if_neg (by decide),if_pos rfl];dsimp only;rw[if_neg h,if_neg h2]
theorem yUl (r:List UInt8):strM (92::120::r)=(match r with
     |h::l::r3=>(match hexV h,hexV l with
      |some x,some y=>(strM r3).map (fun z=>(UInt8.ofNat (16*x+y)::z.1,z.2+4))
      |_,_=>none)
     |_=>none):=by
 conv=>lhs;unfold strM
 rw[if_neg (by decide),if_pos rfl];dsimp only;rewrite [if_neg (by decide),if_pos rfl];cases r with
 |nil=>rfl
 |cons h r=>cases r with
  |nil=>rfl
  |cons l r=>dsimp only<;>(cases hexV h<;>cases hexV l<;>rfl)
theorem yYo {h l:UInt8} {x y:Nat} (h1:hexV h=some x) (h2:hexV l=some y):strM (92::120::h::l::r)=(strM r).map (fun z=>(UInt8.ofNat (16*x+y)::z.1,z.2+4)):=by rw[yUl];dsimp only;rw[h1,h2]
theorem yMi {h l:UInt8} (h1:hexV h=none∨hexV l=none):strM (92::120::h::l::r)=none:=by
 rw[yUl];dsimp only;rcases h1 with q|q
 ·rw[q]
 ·rw[q];cases hexV h<;>rfl
theorem yRu (h:r.length<2):strM (92::120::r)=none:=by
 rw[yUl];match r,h with
 | [],_=>rfl
 | [a],_=>rfl
variable {t:List UInt8}
theorem yAf {x:UInt8} (h:t[j]?=some x):t.drop j=x::t.drop (j+1):=by have hj:=(List.getElem?_eq_some_iff.1 h).1;rw[List.drop_eq_getElem_cons hj,show t[j]=x from Option.some.inj ((List.getElem?_eq_getElem hj).symm.trans h)]
def QuS (t:List UInt8) (i j:Nat) (X:List UInt8):Prop:=i+1≤j∧strM (t.drop (i+1))=(strM (t.drop j)).map (fun z=>(X++z.1,z.2+(j-(i+1))))
theorem QuS.start (t:List UInt8) (i:Nat):QuS t i (i+1) []:=by
 refine⟨Nat.le_refl _,?_⟩;cases strM (t.drop (i+1))with
 |none=>rfl
 |some z=>simp
variable {X:List UInt8}
theorem QuS.next {k:Nat} (h:QuS t i j X) (hs:strM (t.drop j)=(strM (t.drop (j+k))).map (fun z=>(b::z.1,z.2+k))):QuS t i (j+k) (X++ [b]):=by refine⟨by have:=h.1;omega,?_⟩;rw[h.2,hs,Option.map_map];congr 1;funext z;have:=h.1;simp;omega
theorem QuS.none (h:QuS t i j X) (hs:strM (t.drop j)=none):strM (t.drop (i+1))=none:=by rw[h.2,hs];rfl
theorem QuS.done (h:QuS t i j X) (hs:t[j]?=some 34):strM (t.drop (i+1))=some (X,j+1-(i+1)):=by rw[h.2,yAf hs,yYm];have:=h.1;simp;omega
theorem yJm (b:UInt8):yKj b=true↔32≤b.toNat∧b.toNat≤126:=by unfold yKj;simp
theorem yEv {a:UInt8} (h:¬a.toNat=b.toNat):¬a=b:=fun q=>h (by rw[q])
theorem yL0 {x:Nat} (h:hexV b=some x):x<16:=by
 unfold hexV at h;split at h
 ·cases h;omega
 ·split at h
  ·cases h;omega
  ·cases h
theorem yCf {x:Nat} (h:hexV b=some x):hexI b=(x:Int):=by unfold hexI;rw[h]
theorem yHs (h:hexV b=none):hexI b= -1:=by unfold hexI;rw[h]
def quF (l:List UInt8):Option (List UInt8×Nat):=match strM l with
 |some (c,n)=>if c.length≤200 then some (c,n)else none
 |none=>none
def QuoP (t:List UInt8) (i:Nat) (w:World) (e:Ending) (w':World):Prop:=∃(ok:Bool) (s:ByteArray) (k:Int),e=.returned (.tuple #[.bool ok,.string s,.int .i64 k])∧Hid (Below w.heap.size w w')∧((ok=true∧∃c n,quF (t.drop (i+1))=some (c,n)∧s=strL c∧k=((i+1+n:Nat):Int))∨(ok=false∧quF (t.drop (i+1))=none))
variable {l:List UInt8}
theorem yC5 (h:strM l=none):quF l=none:=by unfold quF;rw[h]
variable {n:Nat}
theorem yO9 {c:List UInt8} (h:strM l=some (c,n)) (hc:¬c.length≤200):quF l=none:=by unfold quF;rw[h];exact if_neg hc
theorem yO8 {c:List UInt8} (h:strM l=some (c,n)) (hc:c.length≤200):quF l=some (c,n):=by unfold quF;rw[h];exact if_pos hc
theorem wrap64 {x:Int} (h1: -9223372036854775808≤x) (h2:x≤9223372036854775807):IntKind.i64.wrap x=x:=by simp only[IntKind.wrap,IntKind.bits,IntKind.signed,Bool.true_and];split<;>simp_all<;>omega
theorem yLu (b off cap:Nat) (t:List UInt8) (i:Nat) (w:World) (h:yAe w b off t) (hb:b<w.heap.size) (hi:i<t.length) (hl:t.length≤100000):
  Calls Tryz.prog 54 #[.slice (some ⟨b,off,none⟩) t.length cap,.int .i64 (i:Int)] w (QuoP t i w):=by
 have HT:Hid (yAe w b off t):=h;obtain⟨n,hn⟩:=qE t.length;have HN:Hid (n=t.length):=hn;rw[←hn]at hi hl⊢;clear hn h;obtain⟨W0,hW0⟩:=qE (w.alloc (Obj.cells #[] 5):World);have HW0:Hid (WrB W0 w.heap.size w.heap.size 0 []∧Below w.heap.size w W0):=by rw[hW0];exact⟨(yHd w (Nat.le_refl _)).wr,qB⟩
 go_enter Tryz.func54,Tryz.ntmps54;go_upto_region 2 with fail;rw[←hW0];clear hW0;go_wp2_with fail;go_loopw[7,8] (fun ov jv wr=>∃(j m g cp:Nat) (X:List UInt8),jv=.int .i64 (j:Int)∧j≤n∧m≤j∧ov=.slice (some ⟨g,0,none⟩) m cp∧m=X.length∧QuS t i j X∧WrB wr w.heap.size g cp X∧Below w.heap.size w wr) (fun _ jv _=>n-(intOf jv).toNat);case atStart=>exact⟨i+1,0,w.heap.size,0,[],by first|rfl|go_num,by omega,by omega,rfl,rfl,QuS.start t i,HW0.1,HW0.2⟩
 case round=>
  clear HW0;obtain⟨j,m,g,cp,X,rfl,hj,hmj,rfl,hm,hQ,hW,hbe⟩:=hrel;have HJ:Hid (m=X.length∧QuS t i j X∧WrB wr w.heap.size g cp X∧Below w.heap.size w wr):=⟨hm,hQ,hW,hbe⟩;have hgl:=hW.lt;have hge:=hW.le;have sr:=hbe.size;have hij:i+1≤j:=hQ.1;obtain⟨st,hst⟩:=qE (strL X);have HSt:Hid (st=strL X∧∀wz,yAe wz g 0 X→(convert 22 9 (.slice (some ⟨g,0,none⟩) m cp)).run Tryz.prog wz=.ok (.string st) wz):=⟨hst,fun wz hz=>by
   have h9:=yDk hz 0 m cp (by omega)
   rw[hst,h9,hm];simp⟩
  clear hm hQ hW hbe hst;have hw1:IntKind.i64.wrap ((j:Int)+1)=(j:Int)+1:=wrap64 (by omega) (by omega);by_cases hjn:j<n;case neg=>
   have zj:¬(j:Int)<(n:Int):=by omega
   obtain rfl:j=n:=by omega
   have HE:Hid (quF (t.drop (i+1))=none):=yC5 (HJ.2.1.none (by rw[HN.out,List.drop_length,yRw]));go_upto_region 16 with fail;have hS0:(fun w':World=>yAe w' g 0 X) wr.drew:=HJ.2.2.1.at_;refine yCa 99 (fun w':World=>yAe w' g 0 X) (by kernel_rfl) ?_;refine j1a 0 hS0 ?_;iterate 2 refine j1b hS0 ?_
   refine j1a 3 hS0 (v:=(.bool false)) ?_;iterate 6 refine j1b hS0 ?_
   exact zzQ40
  case pos=>
  have zj:(j:Int)<(n:Int):=by omega
  obtain⟨x,hx⟩:∃x,t[j]?=some x:=⟨_,List.getElem?_eq_getElem (by have:=HN.out;omega)⟩;have HC:Hid (∀k y,t[k]?=some y→wr.cell? ⟨b,off+k,none⟩=some (.int .u8 (y.toNat:Int))):=fun k y hk=>by rw[HJ.2.2.2.cell (p:=⟨b,off+k,none⟩) hb];exact HT.out k y hk
  have cx:=HC.out j x hx;have HX:Hid (t[j]?=some x):=hx;clear hx;by_cases h34:x.toNat=34
  ·have z34:((x.toNat:Int) != 34)=false:=by have:(x.toNat:Int)=34:=(by omega);simp[this]
   obtain rfl:x=34:=UInt8.toNat_inj.1 h34;have HS:Hid (strM (t.drop (i+1))=some (X,j+1-(i+1))):=HJ.2.1.done HX.out;by_cases h200:m≤200
   ·have z200:(m:Int)≤200:=by omega
    have HE:Hid (quF (t.drop (i+1))=some (X,j+1-(i+1))):=yO8 HS.out (by rw[←HJ.1];exact h200);go_upto_region 16 with fail;have hS0:(fun w':World=>yAe w' g 0 X) wr.drew:=HJ.2.2.1.at_;refine yCa 99 (fun w':World=>yAe w' g 0 X) (by kernel_rfl) ?_;refine j1a 0 hS0 ?_;iterate 2 refine j1b hS0 ?_
    refine j1a 3 hS0 (v:=(.bool true)) ?_;iterate 3 refine j1b hS0 ?_
    refine j1a 7 hS0 (v:=(.bool true)) ?_;iterate 2 refine j1b hS0 ?_
    refine j11a 10 hS0 (v:=(.string st)) ?_;refine j1b hS0 ?_;refine j12a 12 hS0 (v:=(.int .i64 ((j:Int)+1))) ?_;iterate 3 refine j1b hS0 ?_
    refine qD ?_;go_wp2_with fail;exact bodyPost_ret (v:=.tuple #[.bool true,.string st,.int .i64 ((j:Int)+1)]) (by simp[results,Tryz.results54,go_sem]) rfl ⟨true,_,_,rfl,by first|exact HJ.2.2.2|exact HJ.2.2.2.drew,.inl ⟨rfl,X,_,HE.out,HSt.1,by omega⟩⟩
   ·have z200:¬(m:Int)≤200:=by omega
    have HE:Hid (quF (t.drop (i+1))=none):=yO9 HS.out (by rw[←HJ.1];exact h200);go_upto_region 16 with fail;have hS0:(fun w':World=>yAe w' g 0 X) wr.drew:=HJ.2.2.1.at_;refine yCa 99 (fun w':World=>yAe w' g 0 X) (by kernel_rfl) ?_;refine j1a 0 hS0 ?_;iterate 2 refine j1b hS0 ?_
    refine j1a 3 hS0 (v:=(.bool true)) ?_;iterate 3 refine j1b hS0 ?_
    refine j1a 7 hS0 (v:=(.bool false)) ?_;iterate 2 refine j1b hS0 ?_
    exact zzQ40
  have z34:((x.toNat:Int) != 34)=true:=by have:¬(x.toNat:Int)=34:=(by omega);simp[this]
  have hx8:x.toNat<256:=x.toNat_lt;have ret:∀(k:Int),quF (t.drop (i+1))=none→Hid (QuoP t i w (.returned (.tuple #[.bool false,.string ⟨#[]⟩,.int .i64 k])) wr):=fun k hk=>⟨false,_,_,rfl,HJ.2.2.2,.inr ⟨rfl,hk⟩⟩;by_cases h32:x.toNat<32
  ·have z32:(x.toNat:Int)<32:=by omega
   have HR:=ret (j:Int) (yC5 (HJ.2.1.none (by rw[yAf HX.out];exact yN5 (yEv (by show¬x.toNat=34;omega)) (yEv (by show¬x.toNat=92;omega)) (by rw[yJm];omega))));exact yQ9
  have z32:¬(x.toNat:Int)<32:=by omega
  by_cases h126:126<x.toNat
  ·have z126:(126:Int)<(x.toNat:Int):=by omega
   have HR:=ret (j:Int) (yC5 (HJ.2.1.none (by rw[yAf HX.out];exact yN5 (yEv (by show¬x.toNat=34;omega)) (yEv (by show¬x.toNat=92;omega)) (by rw[yJm];omega))));exact yQ9
  have z126:¬(126:Int)<(x.toNat:Int):=by omega
  by_cases h92:x.toNat=92;case neg=>
   have z92:((x.toNat:Int) != 92)=true:=by have:¬(x.toNat:Int)=92:=(by omega);simp[this]
   have HQ:Hid (QuS t i (j+1) (X++ [x])):=HJ.2.1.next (k:=1) (by rw[yAf HX.out];exact yRv (yEv (by show¬x.toNat=34;omega)) (yEv (by show¬x.toNat=92;omega)) (by rw[yJm];omega));obtain⟨W2,hW2⟩:=qE (wr.alloc (Obj.cells #[.int .u8 (x.toNat:Int)] 5):World);have hb2:Below wr.heap.size wr W2:=by rw[hW2];exact qB
   have s2:=hb2.size;have HW2:Hid (WrB W2 w.heap.size g cp X∧Below w.heap.size w W2∧yAe W2 wr.heap.size 0 [x]):=by refine⟨HJ.2.2.1.below hb2,HJ.2.2.2.trans (hb2.mono sr),?_⟩;rw[hW2];exact yAp wr _ [x] rfl
   clear hb2 ret;go_wp2_with (at_builtin;(try rw[←hW2]);refine yAa _ rfl _ _ rfl w.heap.size g cp m wr.heap.size 0 1 1 X [x] rfl rfl HJ.1 rfl HW2.1 HW2.2.2 ?hl ?hb ?_);case hl=>first|omega|(rw[←HJ.1];first|(show m+1≤_;omega)|omega)
   case hb=>omega
   intro g' cp' w' hW' hgr hat;have hgr2:W2.grownBy w' (some g):=by first|exact hgr|(rw[hW2];exact hgr)
   have HR:Hid (WrB w' w.heap.size g' cp' (X++ [x])∧Below w.heap.size w w'∧m+1=(X++ [x]).length):=⟨hW',WrB.next HW2.2.1 (by omega) hge hgr2,by rw[List.length_append,←HJ.1];rfl⟩;clear hW' hgr hgr2 hat hW2;go_wp2_with fail;go_roundw;case rel=>exact⟨j+1,m+1,g',cp',X++ [x],by go_num,by omega,by omega,rfl,HR.2.2,HQ.out,HR.1,HR.2.1⟩
   case measure=>simp[intOf];omega
  case pos=>
  have z92:((x.toNat:Int) != 92)=false:=by have:(x.toNat:Int)=92:=(by omega);simp[this]
  obtain rfl:x=92:=UInt8.toNat_inj.1 h92;clear h34 h32 h126 h92 hx8;by_cases h1:j+1<n;case neg=>
   have z1:¬(j:Int)+1<(n:Int):=by omega
   have z3:¬(j:Int)+3<(n:Int):=by omega
   have HR:=ret (j:Int) (yC5 (HJ.2.1.none (by
    rw[yAf HX.out,List.drop_eq_nil_of_le (by have:=HN.out;omega)];exact yYn)))
   exact yQ9
  case pos=>
  have z1:(j:Int)+1<(n:Int):=by omega
  obtain⟨y,hy⟩:∃y,t[j+1]?=some y:=⟨_,List.getElem?_eq_getElem (by have:=HN.out;omega)⟩;have HY:Hid (t[j+1]?=some y):=hy;have cy:=HC.out (j+1) y hy;have hy8:y.toNat<256:=y.toNat_lt;clear hy;by_cases hq:y.toNat=34;case pos=>
   have zq:((y.toNat:Int)==34)=true:=by have:(y.toNat:Int)=34:=(by omega);simp[this]
   have HQ:Hid (QuS t i (j+2) (X++ [y])):=HJ.2.1.next (k:=2) (by rw[yAf HX.out,yAf HY.out];exact yN6 (.inl (UInt8.toNat_inj.1 hq)));clear hq;obtain⟨W2,hW2⟩:=qE (wr.alloc (Obj.cells #[.int .u8 (y.toNat:Int)] 5):World);have hb2:Below wr.heap.size wr W2:=by rw[hW2];exact qB
   have s2:=hb2.size;have HW2:Hid (WrB W2 w.heap.size g cp X∧Below w.heap.size w W2∧yAe W2 wr.heap.size 0 [y]):=by refine⟨HJ.2.2.1.below hb2,HJ.2.2.2.trans (hb2.mono sr),?_⟩;rw[hW2];exact yAp wr _ [y] rfl
   clear hb2 ret;go_wp2_with (at_builtin;(try rw[←hW2]);refine yAa _ rfl _ _ rfl w.heap.size g cp m wr.heap.size 0 1 1 X [y] rfl rfl HJ.1 rfl HW2.1 HW2.2.2 ?hl ?hb ?_);case hl=>first|omega|(rw[←HJ.1];first|(show m+1≤_;omega)|omega)
   case hb=>omega
   exact zzQ35
  case neg=>
  have zq:((y.toNat:Int)==34)=false:=by have:¬(y.toNat:Int)=34:=(by omega);simp[this]
  by_cases hq2:y.toNat=92;case pos=>
   have zq2:((y.toNat:Int)==92)=true:=by have:(y.toNat:Int)=92:=(by omega);simp[this]
   have HQ:Hid (QuS t i (j+2) (X++ [y])):=HJ.2.1.next (k:=2) (by rw[yAf HX.out,yAf HY.out];exact yN6 (.inr (UInt8.toNat_inj.1 hq2)));clear hq hq2;obtain⟨W2,hW2⟩:=qE (wr.alloc (Obj.cells #[.int .u8 (y.toNat:Int)] 5):World);have hb2:Below wr.heap.size wr W2:=by rw[hW2];exact qB
   have s2:=hb2.size;have HW2:Hid (WrB W2 w.heap.size g cp X∧Below w.heap.size w W2∧yAe W2 wr.heap.size 0 [y]):=by refine⟨HJ.2.2.1.below hb2,HJ.2.2.2.trans (hb2.mono sr),?_⟩;rw[hW2];exact yAp wr _ [y] rfl
   clear hb2 ret;go_wp2_with (at_builtin;(try rw[←hW2]);refine yAa _ rfl _ _ rfl w.heap.size g cp m wr.heap.size 0 1 1 X [y] rfl rfl HJ.1 rfl HW2.1 HW2.2.2 ?hl ?hb ?_);case hl=>first|omega|(rw[←HJ.1];first|(show m+1≤_;omega)|omega)
   case hb=>omega
   exact zzQ35
  case neg=>
  have zq2:((y.toNat:Int)==92)=false:=by have:¬(y.toNat:Int)=92:=(by omega);simp[this]
  have hno:¬(y=34∨y=92):=fun q=>by rcases q with q|q<;>subst q<;>first|exact hq rfl|exact hq2 rfl
  by_cases h3:j+3<n;case neg=>
   have z3:¬(j:Int)+3<(n:Int):=by omega
   have HR:=ret (j:Int) (yC5 (HJ.2.1.none (by
    rw[yAf HX.out,yAf HY.out]
    by_cases q:y=120
    ·rw[q];exact yRu (by rw[List.length_drop];have:=HN.out;omega)
    ·exact yN4 hno q)))
   exact yQ9
  case pos=>
  have z3:(j:Int)+3<(n:Int):=by omega
  by_cases h120:y.toNat=120;case neg=>
   have z120:((y.toNat:Int)==120)=false:=by have:¬(y.toNat:Int)=120:=(by omega);simp[this]
   have HR:=ret (j:Int) (yC5 (HJ.2.1.none (by
    rw[yAf HX.out,yAf HY.out]
    exact yN4 hno (fun q=>h120 (by rw[q];rfl)))))
   exact yQ9
  case pos=>
  have z120:((y.toNat:Int)==120)=true:=by have:(y.toNat:Int)=120:=(by omega);simp[this]
  obtain rfl:y=120:=UInt8.toNat_inj.1 h120;clear hq hq2 hno h120 hy8;obtain⟨u,hu⟩:∃u,t[j+2]?=some u:=⟨_,List.getElem?_eq_getElem (by have:=HN.out;omega)⟩;obtain⟨v,hv⟩:∃v,t[j+3]?=some v:=⟨_,List.getElem?_eq_getElem (by have:=HN.out;omega)⟩;have HU:Hid (t[j+2]?=some u∧t[j+3]?=some v):=⟨hu,hv⟩;have cu:=HC.out (j+2) u hu;have cw:=HC.out (j+3) v hv;clear hu hv;cases hxu:hexV u with
  |none=>
   have z5:¬(0:Int)≤hexI u:=by rw[yHs hxu];omega
   have HR:=ret (j:Int) (yC5 (HJ.2.1.none (by
    rw[yAf HX.out,yAf HY.out,yAf HU.1,yAf HU.2]
    exact yMi (.inl hxu))))
   clear ret;go_wp2_with (go_at_call 88;refine(yEn u _).mono ?_;rintro e w1 ⟨rfl,hw1⟩;rw[hw1];clear hw1);exact bodyPost_ret (v:=.tuple #[.bool false,.string ⟨#[]⟩,.int .i64 (j:Int)]) (by simp[results,Tryz.results54,go_sem]) rfl HR.out
  |some p=>
   have z5:(0:Int)≤hexI u:=by rw[yCf hxu];omega
   cases hxv:hexV v with
   |none=>
    have z6:¬(0:Int)≤hexI v:=by rw[yHs hxv];omega
    have HR:=ret (j:Int) (yC5 (HJ.2.1.none (by
     rw[yAf HX.out,yAf HY.out,yAf HU.1,yAf HU.2]
     exact yMi (.inr hxv))))
    clear ret;go_wp2_with (go_at_call 88;refine(yEn _ _).mono ?_;rintro e w1 ⟨rfl,hw1⟩;rw[hw1];clear hw1);exact bodyPost_ret (v:=.tuple #[.bool false,.string ⟨#[]⟩,.int .i64 (j:Int)]) (by simp[results,Tryz.results54,go_sem]) rfl HR.out
   |some q=>
    clear ret;have hpl:=yL0 hxu;have hql:=yL0 hxv;obtain⟨z,hz⟩:=qE (UInt8.ofNat (16*p+q):UInt8);have hzn:z.toNat=16*p+q:=by rw[hz,UInt8.toNat_ofNat'];omega
    have HQ:Hid (QuS t i (j+4) (X++ [z])):=HJ.2.1.next (k:=4) (by
     rw[yAf HX.out,yAf HY.out,yAf HU.1,yAf HU.2,hz]
     exact yYo hxu hxv)
    have HZ:Hid (IntKind.u8.wrap (16*hexI u+hexI v)=(z.toNat:Int)):=by show _=_;rw[yCf hxu,yCf hxv,hzn];simp only[IntKind.wrap,IntKind.bits,IntKind.signed,Bool.false_and,Bool.false_eq_true,if_false];omega
    have z6:(0:Int)≤hexI v:=by rw[yCf hxv];omega
    have z7:hexI u<16:=by rw[yCf hxu];omega
    have z8:hexI v<16:=by rw[yCf hxv];omega
    clear hxu hxv hz hpl hql hzn;have hw2:IntKind.i64.wrap ((j:Int)+2)=(j:Int)+2:=wrap64 (by omega) (by omega);have hw3:IntKind.i64.wrap ((j:Int)+3)=(j:Int)+3:=wrap64 (by omega) (by omega);have hi2:(0:Int)≤(j:Int)+2:=by omega
    have hi3:(0:Int)≤(j:Int)+3:=by omega
    have hi4:(j:Int)+2<(n:Int):=by omega
    have hi5:((j:Int)+2).toNat=j+2:=by omega
    have hi6:((j:Int)+3).toNat=j+3:=by omega
    have hw4:IntKind.i64.wrap (16*hexI u)=16*hexI u:=wrap64 (by omega) (by omega);have hw5:IntKind.i64.wrap (16*hexI u+hexI v)=16*hexI u+hexI v:=wrap64 (by omega) (by omega);have HI:Hid ((0:Int)≤(j:Int)+2):=hi2;go_upto_region 13 with(go_at_call 88;refine(yEn _ _).mono ?_;rintro e w1 ⟨rfl,hw1⟩;rw[hw1];clear hw1);have hS0:SW (fun w':World=>w'.cell? ⟨b,off+(j+2),none⟩=some (.int .u8 (u.toNat:Int))∧w'.cell? ⟨b,off+(j+3),none⟩=some (.int .u8 (v.toNat:Int))) wr.drew:=⟨cu,cw⟩;refine wpR 99 hS0 ?_;refine j6a 0 hS0 ?_;iterate 2 refine j6b hS0 ?_
    refine j9a 3 hS0 (v:=(.int .i64 ((j:Int)+2))) ?_;refine j6a 8 hS0 ?_;refine j6b hS0 ?_;refine j9a 10 hS0 (v:=(.int .i64 ((j:Int)+3))) ?_;refine j6a 4 hS0 ?_;refine j6b hS0 ?_;refine j6a 11 hS0 ?_;refine j6b hS0 ?_;refine qO 6 rfl fun K hK=>?_;go_simp;go_at_call 88;refine(yEn _ _).mono ?_;rintro e w1 ⟨rfl,hw1⟩;rw[hw1];clear hw1;refine hK.out _ _ (.inr hS0) ?_;clear hK;refine jS ?_;refine j9a 7 hS0 (v:=(.int .i64 (16*hexI u))) ?_;refine qO 13 rfl fun K hK=>?_;go_simp;go_at_call 88;refine(yEn _ _).mono ?_;rintro e w1 ⟨rfl,hw1⟩;rw[hw1];clear hw1;refine hK.out _ _ (.inr hS0) ?_;clear hK;refine jS ?_;refine j9a 14 hS0 (v:=(.int .i64 (16*hexI u+hexI v))) ?_;refine qT 15 (.int .u8 (z.toNat:Int)) rfl ?yqh15 hS0 ?_;case yqh15=>(intro wz hSw;obtain⟨hz0,hz1⟩:=hSw;go_simp;(try simp only[HZ.out]);(try with_reducible rfl);(try omega))
    try simp only[qA,List.getElem_toArray,List.getElem_cons_zero,List.getElem_cons_succ]
    obtain⟨W2,hW2⟩:=qE (wr.drew.alloc (Obj.cells #[.int .u8 (z.toNat:Int)] 5):World);have hbd:Below wr.heap.size wr wr.drew:=(Below.refl _ _).drew;have hb2:Below wr.drew.heap.size wr.drew W2:=by rw[hW2];exact qB
    have HW2:Hid (WrB W2 w.heap.size g cp X∧Below w.heap.size w W2∧yAe W2 wr.drew.heap.size 0 [z]):=by refine⟨(HJ.2.2.1.below hbd).below hb2,(HJ.2.2.2.trans (hbd.mono sr)).trans (hb2.mono sr),?_⟩;rw[hW2];exact yAp wr.drew _ [z] rfl
    have hS2:=SWm hS0 W2 <|⟨by rw[hb2.cell (p:=⟨b,off+(j+2),none⟩) (by show b<wr.heap.size;omega)];exact cu,by rw[hb2.cell (p:=⟨b,off+(j+3),none⟩) (by show b<wr.heap.size;omega)];exact cw⟩;have s2:=hb2.size;clear hbd hb2;refine qO 16 rfl fun K hK=>?_;go_simp;rw[show(wr.alloc (Obj.cells #[.int .u8 (z.toNat:Int)] 5)).drew=W2 from by rw[hW2];rfl];refine hK.out _ _ (.inr hS2) ?_;clear hK;refine jS ?_;refine qO 17 rfl fun K hK=>?_;refine yBz W2 rfl _ _ rfl w.heap.size g cp m wr.heap.size 0 1 1 X [z] rfl rfl HJ.1 rfl HW2.1 HW2.2.2 (by rw[←HJ.1];show m+1≤_;omega) (by have:wr.drew.heap.size=wr.heap.size:=rfl;omega) (fun g' cp' w' hW' hgr hat=>?_);have HR:Hid (WrB w' w.heap.size g' cp' (X++ [z])∧Below w.heap.size w w'∧m+1=(X++ [z]).length):=⟨hW',WrB.next HW2.2.1 (by have:wr.drew.heap.size=wr.heap.size:=rfl;omega) hge hgr,by rw[List.length_append,←HJ.1];rfl⟩;have hc3:Chg (fun k=>k=g) W2 w':=Chg.of_grown hgr (fun k hk=>by cases hk;rfl);have hbW:b<W2.heap.size:=by have:wr.drew.heap.size=wr.heap.size:=rfl;omega
    have hS3:=SWm hS2 w' <|⟨by rw[hc3.cell (p:=⟨b,off+(j+2),none⟩) hbW (by show¬b=g;omega)];exact hS2.1,by rw[hc3.cell (p:=⟨b,off+(j+3),none⟩) hbW (by show¬b=g;omega)];exact hS2.2⟩;refine hK.out _ _ (.inr hS3) ?_;clear hK hW' hgr hat hW2 hc3;refine jS ?_;refine j6a 18 hS3 ?_;refine qD ?_;go_wp2_with fail;go_roundw;case rel=>exact⟨j+4,m+1,g',cp',X++ [z],by go_num,by omega,by omega,rfl,HR.2.2,HQ.out,HR.1,HR.2.1⟩
    case measure=>simp[intOf];omega
theorem tw_eq (p:UInt8→Bool):∀(l:List UInt8) (k:Nat),k≤l.length→(∀j x,j<k→l[j]?=some x→p x=true)→(∀x,l[k]?=some x→p x=false)→l.takeWhile p=l.take k
 |l,0,_,_,h=>by
  cases l with
  |nil=>rfl
  |cons x l=>rw[List.takeWhile_cons,if_neg (by rw[h x rfl];simp)];rfl
 | [],k+1,hk,_,_=>by simp at hk
 |x::l,k+1,hk,ha,hz=>by rw[List.takeWhile_cons,if_pos (ha 0 x (by omega) rfl),List.take_succ_cons,tw_eq p l k (by simpa using hk) (fun j y hj hy=>ha (j+1) y (by omega) (by simpa using hy)) (fun y hy=>hz y (by simpa using hy))]
theorem yP8 {p:UInt8→Bool} (hij:i≤j) (hj:j≤t.length) (ha:∀k x,i≤k→k<j→t[k]?=some x→p x=true) (hz:∀x,t[j]?=some x→p x=false):(t.drop i).takeWhile p=(t.drop i).take (j-i):=
 tw_eq p _ _ (by rw[List.length_drop];omega) (fun k x hk hx=>ha (i+k) x (by omega) (by omega) (by rw[List.getElem?_drop]at hx;exact hx)) (fun x hx=>hz x (by rw[List.getElem?_drop,Nat.add_sub_cancel' hij]at hx;exact hx))
theorem yFt (b:UInt8):yA7 b=true↔97≤b.toNat∧b.toNat≤122:=by unfold yA7;simp
theorem yEp (b:UInt8):yA1 b=true↔48≤b.toNat∧b.toNat≤57:=by unfold yA1;simp
variable {x:UInt8}
theorem yRn (hx:t[i]?=some x) (h:yA7 x=true):tokF (t.drop i)=(kwF ((t.drop i).takeWhile yA7)).map (fun k=>(.word k,((t.drop i).takeWhile yA7).length)):=by
 rw[yAf hx];conv=>lhs;unfold tokF
 dsimp only;rw[if_pos h]
theorem yRo (hx:t[i]?=some x) (h0:¬yA7 x=true) (h:yA1 x=true):tokF (t.drop i)=(numM ((t.drop i).takeWhile yA1)).map (fun(n:Nat)=>(TkK.num (n:Int),((t.drop i).takeWhile yA1).length)):=by
 rw[yAf hx];conv=>lhs;unfold tokF
 dsimp only;rw[if_neg h0,if_pos h];cases numM ((x::t.drop (i+1)).takeWhile yA1)<;>rfl
theorem yN1 (hx:t[i]?=some 34):tokF (t.drop i)=(quF (t.drop (i+1))).map (fun z=>(.str (strL z.1),z.2+1)):=by
 rw[yAf hx];conv=>lhs;unfold tokF
 dsimp only;rw[if_neg (by decide),if_neg (by decide),if_pos rfl];unfold quF;cases strM (t.drop (i+1))with
 |none=>rfl
 |some z=>
  obtain⟨c,n⟩:=z;dsimp only;split<;>rfl
theorem yOy (hx:t[i]?=some x) (h0:¬yA7 x=true) (h1:¬yA1 x=true) (h2:¬x=34):tokF (t.drop i)=if x=46∧t[i+1]?=some 46 then some (.sign 46,2)else if x=40∨x=41∨x=44∨x=62∨x=124 then some (.sign x,1)else none:=by
 rw[yAf hx];conv=>lhs;unfold tokF
 dsimp only;rw[if_neg h0,if_neg h1,if_neg h2];have:(t.drop (i+1)).head?=t[i+1]?:=by rw[List.head?_drop]
 rw[this]
theorem yUd {k:Int} (h:kwF l=some k):yP7 k=strL l:=by
 rcases yIu h with⟨h1,h2,rfl⟩|⟨rfl,rfl⟩
 ·unfold yP7;rw[if_neg (by omega)]
 ·rfl
abbrev FsAt (w:World) (base g b off n cap i:Nat) (vs:List Value):Prop:=yA w base 54 10 g (.slice (some ⟨b,off,none⟩) n cap:: .int .i64 (i:Int)::vs)
variable {b off cap:Nat}
theorem FsAt.move (h:FsAt w base g b off n cap i vs) (j:Nat) (u:Value) (hu:u=.int .i64 (j:Int)):FsAt (w.setCell ⟨g,1,none⟩ u) base g b off n cap j vs:=by subst hu;exact yA.set h 1 (.int .i64 (j:Int))
theorem yBo (v:Value) (w:World):Calls Tryz.prog 62 #[v,.bool true] w fun e w'=>e=.returned (.tuple #[])∧w'=w:=by go_enter Tryz.func62,Tryz.ntmps62;go_wp2_with fail;go_end0;exact⟨rfl,rfl⟩
theorem yEx (h:FsAt w base g b off n cap i vs):Calls Tryz.prog 62 #[.pointer (some ⟨g,0,none⟩),.bool false] w fun e w'=>e=Pf 2 i∧w'=w:=by have c1:=h.cell (j:=1) rfl;clear h;go_enter Tryz.func62,Tryz.ntmps62;go_wp2_with fail;exact⟨rfl,rfl,rfl⟩
theorem yE4 (x:UInt8) (w:World):Calls Tryz.prog 55 #[.int .u8 (x.toNat:Int)] w fun e w'=>e=.returned (.bool (yA7 x))∧w'=w:=by
 have hx:x.toNat<256:=x.toNat_lt;obtain⟨n,hn⟩:=qE x.toNat;have HP:Hid (yA7 x=decide (97≤n∧n≤122)):=by show _=_;rw[hn];rfl
 rw[←hn]at hx⊢;clear hn;by_cases h1:97≤n
 ·have z1:(97:Int)≤(n:Int):=by omega
  by_cases h2:n≤122
  ·have z2:(n:Int)≤122:=by omega
   go_enter Tryz.func55,Tryz.ntmps55;go_wp2_with fail;go_ret;exact⟨by rw[HP.out,decide_eq_true (⟨h1,h2⟩:97≤n∧n≤122)];rfl,rfl⟩
  ·have z2:¬(n:Int)≤122:=by omega
   go_enter Tryz.func55,Tryz.ntmps55;go_wp2_with fail;go_ret;exact⟨by rw[HP.out,decide_eq_false (fun q:97≤n∧n≤122=>h2 q.2)];rfl,rfl⟩
 ·have z1:¬(97:Int)≤(n:Int):=by omega
  go_enter Tryz.func55,Tryz.ntmps55;go_wp2_with fail;go_ret;exact⟨by rw[HP.out,decide_eq_false (fun q:97≤n∧n≤122=>h1 q.1)];rfl,rfl⟩
theorem yFv (x:UInt8) (w:World):Calls Tryz.prog 57 #[.int .u8 (x.toNat:Int)] w fun e w'=>e=.returned (.bool (yA1 x))∧w'=w:=by
 have hx:x.toNat<256:=x.toNat_lt;obtain⟨n,hn⟩:=qE x.toNat;have HP:Hid (yA1 x=decide (48≤n∧n≤57)):=by show _=_;rw[hn];rfl
 rw[←hn]at hx⊢;clear hn;by_cases h1:48≤n
 ·have z1:(48:Int)≤(n:Int):=by omega
  by_cases h2:n≤57
  ·have z2:(n:Int)≤57:=by omega
   go_enter Tryz.func57,Tryz.ntmps57;go_wp2_with fail;go_ret;exact⟨by rw[HP.out,decide_eq_true (⟨h1,h2⟩:48≤n∧n≤57)];rfl,rfl⟩
  ·have z2:¬(n:Int)≤57:=by omega
   go_enter Tryz.func57,Tryz.ntmps57;go_wp2_with fail;go_ret;exact⟨by rw[HP.out,decide_eq_false (fun q:48≤n∧n≤57=>h2 q.2)];rfl,rfl⟩
 ·have z1:¬(48:Int)≤(n:Int):=by omega
  go_enter Tryz.func57,Tryz.ntmps57;go_wp2_with fail;go_ret;exact⟨by rw[HP.out,decide_eq_false (fun q:48≤n∧n≤57=>h1 q.1)];rfl,rfl⟩
theorem yLx (x:UInt8) (w:World):Calls Tryz.prog 92 #[.int .u8 (x.toNat:Int)] w fun e w'=>e=.returned (.bool (yKj x))∧w'=w:=by
 have hx:x.toNat<256:=x.toNat_lt;obtain⟨n,hn⟩:=qE x.toNat;have HP:Hid (yKj x=decide (32≤n∧n≤126)):=by show _=_;rw[hn];rfl
 rw[←hn]at hx⊢;clear hn;by_cases h1:32≤n
 ·have z1:(32:Int)≤(n:Int):=by omega
  by_cases h2:n≤126
  ·have z2:(n:Int)≤126:=by omega
   go_enter Tryz.func92,Tryz.ntmps92;go_wp2_with fail;go_ret;exact⟨by rw[HP.out,decide_eq_true (⟨h1,h2⟩:32≤n∧n≤126)];rfl,rfl⟩
  ·have z2:¬(n:Int)≤126:=by omega
   go_enter Tryz.func92,Tryz.ntmps92;go_wp2_with fail;go_ret;exact⟨by rw[HP.out,decide_eq_false (fun q:32≤n∧n≤126=>h2 q.2)];rfl,rfl⟩
 ·have z1:¬(32:Int)≤(n:Int):=by omega
  go_enter Tryz.func92,Tryz.ntmps92;go_wp2_with fail;go_ret;exact⟨by rw[HP.out,decide_eq_false (fun q:32≤n∧n≤126=>h1 q.1)];rfl,rfl⟩
theorem yYu (h:FsAt w base g b off n cap i vs) (hT:yAe w b off t) (hn:n=t.length) (hl:n≤100000) (hc:n≤cap) (hcm:cap≤maxLen) (hi:i<n):
  Calls Tryz.prog 89 #[.pointer (some ⟨g,0,none⟩),.func (Fn.func 55) #[] #[]] w fun e w'=>e=.returned (.string (strL ((t.drop i).takeWhile yA7)))∧Below w.heap.size w w':=by
 have HT:Hid (FsAt w base g b off n cap i vs∧yAe w b off t):=⟨h,hT⟩;have HN:Hid (n=t.length):=hn;have hgl:=h.lt.2;obtain⟨c0,c1⟩:=h.c2;unfold maxLen at hcm;clear h hT hn;go_enter Tryz.func89,Tryz.ntmps89;go_wp2_with fail;go_loopw[5] (fun jv wr=>∃(j:Nat),jv=.int .i64 (j:Int)∧i≤j∧j≤n∧(∀k y,i≤k→k<j→t[k]?=some y→yA7 y=true)∧wr=w) (fun jv _=>n-(intOf jv).toNat);case atStart=>exact⟨i,rfl,Nat.le_refl _,by omega,fun k y h1 h2=>by omega,rfl⟩
 case round=>
  obtain⟨j,rfl,hij,hjn,hA0,hwx⟩:=hrel;rw[hwx];clear hwx;have HA0:Hid (∀k y,i≤k→k<j→t[k]?=some y→yA7 y=true):=hA0;clear hA0;have fin:(∀z,t[j]?=some z→yA7 z=false)→Hid ((t.drop i).takeWhile yA7=(t.drop i).take (j-i)):=fun hz=>yP8 hij (by have:=HN.out;omega) HA0.out hz;by_cases hj:j<n
  ·have zj:(j:Int)<(n:Int):=by omega
   obtain⟨y,hy⟩:∃y,t[j]?=some y:=⟨_,List.getElem?_eq_getElem (by have:=HN.out;omega)⟩;have cy:w.cell? ⟨b,off+j,none⟩=some (.int .u8 (y.toNat:Int)):=HT.2 j y hy;cases hp:yA7 y
   case true=>
    have HY:Hid (∀k z,i≤k→k<j+1→t[k]?=some z→yA7 z=true):=fun k z h1 h2 h3=>by
     by_cases q:k<j
     ·exact HA0.out k z h1 q h3
     ·obtain rfl:k=j:=by omega
      rw[hy]at h3;cases h3
      exact hp
    have HC:Hid (Calls Tryz.prog 55 #[.int .u8 (y.toNat:Int)] w fun e w'=>e=.returned (.bool true)∧w'=w):=by rw[←hp];exact yE4 y w
    clear hy hp fin;go_wp2_with fail;refine HC.mono ?_;rintro e w1 ⟨rfl,hw1⟩;rw[hw1];clear hw1;exact yT6
   case false=>
    have HW0:=fin (fun z hz=>by rw[hy]at hz;cases hz;exact hp);have HC:Hid (Calls Tryz.prog 55 #[.int .u8 (y.toNat:Int)] w fun e w'=>e=.returned (.bool false)∧w'=w):=by rw[←hp];exact yE4 y w
    clear hy hp fin;obtain⟨wd,hwd⟩:=qE ((t.drop i).take (j-i));have HW:Hid ((t.drop i).take (j-i)=wd):=hwd.symm;have HWF:Hid ((t.drop i).takeWhile yA7=wd):=HW0.trans hwd.symm;clear hwd HW0;go_wp2_with fail;refine HC.mono ?_;rintro e w1 ⟨rfl,hw1⟩;rw[hw1];clear hw1;exact yUb
  ·have zj:¬(j:Int)<(n:Int):=by omega
   have HW0:=fin (fun z hz=>by rw[List.getElem?_eq_none (by have:=HN.out;omega)]at hz;cases hz);clear fin;obtain⟨wd,hwd⟩:=qE ((t.drop i).take (j-i));have HW:Hid ((t.drop i).take (j-i)=wd):=hwd.symm;have HWF:Hid ((t.drop i).takeWhile yA7=wd):=HW0.trans hwd.symm;clear hwd HW0;exact yUb
theorem yYv (h:FsAt w base g b off n cap i vs) (hT:yAe w b off t) (hn:n=t.length) (hl:n≤100000) (hc:n≤cap) (hcm:cap≤maxLen) (hi:i<n):
  Calls Tryz.prog 89 #[.pointer (some ⟨g,0,none⟩),.func (Fn.func 57) #[] #[]] w fun e w'=>e=.returned (.string (strL ((t.drop i).takeWhile yA1)))∧Below w.heap.size w w':=by
 have HT:Hid (FsAt w base g b off n cap i vs∧yAe w b off t):=⟨h,hT⟩;have HN:Hid (n=t.length):=hn;have hgl:=h.lt.2;obtain⟨c0,c1⟩:=h.c2;unfold maxLen at hcm;clear h hT hn;go_enter Tryz.func89,Tryz.ntmps89;go_wp2_with fail;go_loopw[5] (fun jv wr=>∃(j:Nat),jv=.int .i64 (j:Int)∧i≤j∧j≤n∧(∀k y,i≤k→k<j→t[k]?=some y→yA1 y=true)∧wr=w) (fun jv _=>n-(intOf jv).toNat);case atStart=>exact⟨i,rfl,Nat.le_refl _,by omega,fun k y h1 h2=>by omega,rfl⟩
 case round=>
  obtain⟨j,rfl,hij,hjn,hA0,hwx⟩:=hrel;rw[hwx];clear hwx;have HA0:Hid (∀k y,i≤k→k<j→t[k]?=some y→yA1 y=true):=hA0;clear hA0;have fin:(∀z,t[j]?=some z→yA1 z=false)→Hid ((t.drop i).takeWhile yA1=(t.drop i).take (j-i)):=fun hz=>yP8 hij (by have:=HN.out;omega) HA0.out hz;by_cases hj:j<n
  ·have zj:(j:Int)<(n:Int):=by omega
   obtain⟨y,hy⟩:∃y,t[j]?=some y:=⟨_,List.getElem?_eq_getElem (by have:=HN.out;omega)⟩;have cy:w.cell? ⟨b,off+j,none⟩=some (.int .u8 (y.toNat:Int)):=HT.2 j y hy;cases hp:yA1 y
   case true=>
    have HY:Hid (∀k z,i≤k→k<j+1→t[k]?=some z→yA1 z=true):=fun k z h1 h2 h3=>by
     by_cases q:k<j
     ·exact HA0.out k z h1 q h3
     ·obtain rfl:k=j:=by omega
      rw[hy]at h3;cases h3
      exact hp
    have HC:Hid (Calls Tryz.prog 57 #[.int .u8 (y.toNat:Int)] w fun e w'=>e=.returned (.bool true)∧w'=w):=by rw[←hp];exact yFv y w
    clear hy hp fin;go_wp2_with fail;refine HC.mono ?_;rintro e w1 ⟨rfl,hw1⟩;rw[hw1];clear hw1;exact yT6
   case false=>
    have HW0:=fin (fun z hz=>by rw[hy]at hz;cases hz;exact hp);have HC:Hid (Calls Tryz.prog 57 #[.int .u8 (y.toNat:Int)] w fun e w'=>e=.returned (.bool false)∧w'=w):=by rw[←hp];exact yFv y w
    clear hy hp fin;obtain⟨wd,hwd⟩:=qE ((t.drop i).take (j-i));have HW:Hid ((t.drop i).take (j-i)=wd):=hwd.symm;have HWF:Hid ((t.drop i).takeWhile yA1=wd):=HW0.trans hwd.symm;clear hwd HW0;go_wp2_with fail;refine HC.mono ?_;rintro e w1 ⟨rfl,hw1⟩;rw[hw1];clear hw1;exact yUb
  ·have zj:¬(j:Int)<(n:Int):=by omega
   have HW0:=fin (fun z hz=>by rw[List.getElem?_eq_none (by have:=HN.out;omega)]at hz;cases hz);clear fin;obtain⟨wd,hwd⟩:=qE ((t.drop i).take (j-i));have HW:Hid ((t.drop i).take (j-i)=wd):=hwd.symm;have HWF:Hid ((t.drop i).takeWhile yA1=wd):=HW0.trans hwd.symm;clear hwd HW0;exact yUb
def nodeW (k:Nat):ByteArray:=if k=14 then⟨#[62]⟩else if k=15 then⟨#[124]⟩else if k=16 then⟨#[105,102]⟩else yA8 k
def yGk (w:World):Prop:=∀k:Nat,k≤16→w.cell? ⟨0,k,none⟩=some (.string (nodeW k))
theorem yGk.chg {S:Nat→Prop} (h:yGk w) (hc:Chg S w w') (hn:¬S 0):yGk w':=fun k hk=>by
 have h1:=h k hk
 have hlt:0<w.heap.size:=by
  unfold World.cell? at h1;by_cases q:0<w.heap.size
  ·exact q
  ·rw[Array.getElem?_eq_none (by show w.heap.size≤0;omega)]at h1;simp at h1
 rw[hc.cell (p:=⟨0,k,none⟩) hlt hn]
 exact h1
def yZd:Array Value:=#[.string ⟨#[]⟩,.string ⟨#[112,97,115,115]⟩,.string ⟨#[98,108,111,99,107]⟩,.string ⟨#[115,116,114,105,112]⟩,.string ⟨#[114,111,119]⟩,.string ⟨#[102,97,109]⟩,.string ⟨#[113,117,97,108]⟩,.string ⟨#[118,97,108]⟩,.string ⟨#[114,111,119,115]⟩,.string ⟨#[113,117,97,108,115]⟩,.string ⟨#[116,115]⟩,.string ⟨#[118,101,114,115,105,111,110,115]⟩,.string ⟨#[99,101,108,108,115]⟩,.string ⟨#[115,107,105,112]⟩,.string ⟨#[62]⟩,.string ⟨#[124]⟩,.string ⟨#[105,102]⟩]
theorem ySf (w:World):∀k:Nat,k<17→(Instr.index 119 (.agg yZd) (.int .i64 (k:Int))).run Tryz.prog w=.ok (.string (nodeW k)) w:=by
 intro k hk;have:k=0∨k=1∨k=2∨k=3∨k=4∨k=5∨k=6∨k=7∨k=8∨k=9∨k=10∨k=11∨k=12∨k=13∨k=14∨k=15∨k=16:=by omega
 rcases this with rfl|rfl|rfl|rfl|rfl|rfl|rfl|rfl|rfl|rfl|rfl|rfl|rfl|rfl|rfl|rfl|rfl<;>rfl
theorem yVa (hne:l≠ []) (hl:∀x∈l,yA7 x=true) {k:Nat} (hk:k≤16) (h:bl (nodeW k)=l):kwF l=some (k:Int):=by
 refine yHo ?_;by_cases h0:k=0
 ·subst h0;exact absurd h.symm hne
 by_cases h14:k=14
 ·subst h14;rw[←h]at hl;have:=hl 62 (by decide);exact absurd this (by decide)
 by_cases h15:k=15
 ·subst h15;rw[←h]at hl;have:=hl 124 (by decide);exact absurd this (by decide)
 by_cases h16:k=16
 ·subst h16;exact .inr ⟨rfl,h.symm⟩
 refine .inl ⟨by omega,by omega,?_⟩;unfold nodeW at h;rw[if_neg h14,if_neg h15,if_neg h16]at h;exact h
theorem yQj (h:∀k:Nat,k≤16→¬bl (nodeW k)=l):kwF l=none:=by
 cases hq:kwF l with
 |none=>rfl
 |some k=>
  exfalso;rcases yIu hq with⟨h1,h2,h3⟩|⟨rfl,rfl⟩
  ·refine h k.toNat (by omega) ?_;unfold nodeW;rw[if_neg (by omega),if_neg (by omega),if_neg (by omega),show((k.toNat:Nat):Int)=k by omega];exact h3
  ·exact h 16 (by omega) rfl
def WrdP (base g b off n cap i:Nat) (vs:List Value) (wd:List UInt8) (w:World) (e:Ending) (w':World):Prop:=Hid (Chg (fun k=>k=g) w w')∧((∃k:Int,kwF wd=some k∧e=.returned (.int .i64 k)∧FsAt w' base g b off n cap (i+wd.length) vs)∨(kwF wd=none∧e=Pf 2 i))
theorem yRa (h:FsAt w base g b off n cap i vs) (hT:yAe w b off t) (hn:n=t.length) (hl:n≤100000) (hc:n≤cap) (hcm:cap≤maxLen) (hi:i<n) (hx:∀x,t[i]?=some x→yA7 x=true) (hW:yGk w):
  Calls Tryz.prog 56 #[.pointer (some ⟨g,0,none⟩)] w (WrdP base g b off n cap i vs ((t.drop i).takeWhile yA7) w):=by
 obtain⟨wd,hwd⟩:=qE ((t.drop i).takeWhile yA7);have hne:wd≠ []:=by obtain⟨x,hxx⟩:∃x,t[i]?=some x:=⟨_,List.getElem?_eq_getElem (by omega)⟩;rw[hwd,yAf hxx,List.takeWhile_cons,if_pos (hx x hxx)];simp
 have hlt:∀x∈wd,yA7 x=true:=fun x hm=>by rw[hwd]at hm;exact List.all_eq_true.1 (List.all_takeWhile (p:=yA7) (l:=t.drop i)) x hm
 have hwl:wd.length≤n:=by rw[hwd,hn];exact Nat.le_trans (yDw _ _) (by rw[List.length_drop];omega)
 have HR:Hid (Calls Tryz.prog 89 #[.pointer (some ⟨g,0,none⟩),.func (Fn.func 55) #[] #[]] w fun e w'=>e=.returned (.string (strL wd))∧Below w.heap.size w w'):=by rw[hwd];exact yYu h hT hn hl hc hcm hi
 rw[←hwd];have H0:Hid (FsAt w base g b off n cap i vs∧yGk w∧wd≠ []∧(∀x∈wd,yA7 x=true)):=⟨h,hW,hne,hlt⟩;obtain⟨sw,hsw⟩:=qE (strL wd);have HSW:Hid (bl sw=wd∧sw.size=wd.length):=⟨by rw[hsw],by rw[hsw];show wd.toArray.size=_;simp⟩;rw[←hsw]at HR;have hsl:sw.size≤n:=by rw[HSW.2];exact hwl
 clear hsw hwl;clear h hT hn hx hW hne hlt hwd hc hcm;go_enter Tryz.func56,Tryz.ntmps56;go_wp2_with fail;refine HR.mono ?_;rintro e w1 ⟨rfl,hb1⟩;have H1:Hid (FsAt w1 base g b off n cap i vs∧Chg (fun k=>k=g) w w1):=⟨yA.below H0.1 hb1,Chg.of_below hb1⟩;have hW1:yGk w1:=H0.2.1.chg (S:=fun _=>False) (Chg.of_below hb1) (fun q=>q);have d0:w1.cell? ⟨0,0,none⟩=some (.string ⟨#[]⟩):=hW1 0 (by omega);have d1:w1.cell? ⟨0,1,none⟩=some (.string ⟨#[112,97,115,115]⟩):=hW1 1 (by omega);have d2:w1.cell? ⟨0,2,none⟩=some (.string ⟨#[98,108,111,99,107]⟩):=hW1 2 (by omega);have d3:w1.cell? ⟨0,3,none⟩=some (.string ⟨#[115,116,114,105,112]⟩):=hW1 3 (by omega);have d4:w1.cell? ⟨0,4,none⟩=some (.string ⟨#[114,111,119]⟩):=hW1 4 (by omega);have d5:w1.cell? ⟨0,5,none⟩=some (.string ⟨#[102,97,109]⟩):=hW1 5 (by omega);have d6:w1.cell? ⟨0,6,none⟩=some (.string ⟨#[113,117,97,108]⟩):=hW1 6 (by omega);have d7:w1.cell? ⟨0,7,none⟩=some (.string ⟨#[118,97,108]⟩):=hW1 7 (by omega);have d8:w1.cell? ⟨0,8,none⟩=some (.string ⟨#[114,111,119,115]⟩):=hW1 8 (by omega);have d9:w1.cell? ⟨0,9,none⟩=some (.string ⟨#[113,117,97,108,115]⟩):=hW1 9 (by omega);have d10:w1.cell? ⟨0,10,none⟩=some (.string ⟨#[116,115]⟩):=hW1 10 (by omega);have d11:w1.cell? ⟨0,11,none⟩=some (.string ⟨#[118,101,114,115,105,111,110,115]⟩):=hW1 11 (by omega);have d12:w1.cell? ⟨0,12,none⟩=some (.string ⟨#[99,101,108,108,115]⟩):=hW1 12 (by omega);have d13:w1.cell? ⟨0,13,none⟩=some (.string ⟨#[115,107,105,112]⟩):=hW1 13 (by omega);have d14:w1.cell? ⟨0,14,none⟩=some (.string ⟨#[62]⟩):=hW1 14 (by omega);have d15:w1.cell? ⟨0,15,none⟩=some (.string ⟨#[124]⟩):=hW1 15 (by omega);have d16:w1.cell? ⟨0,16,none⟩=some (.string ⟨#[105,102]⟩):=hW1 16 (by omega);have c1:=H1.1.cell (j:=1) rfl;have f1:=H1.1.frozen 1;clear hb1 hW1 HR;go_upto_block 0 with fail;have harr:Value.agg #[.string ⟨#[]⟩,.string ⟨#[112,97,115,115]⟩,.string ⟨#[98,108,111,99,107]⟩,.string ⟨#[115,116,114,105,112]⟩,.string ⟨#[114,111,119]⟩,.string ⟨#[102,97,109]⟩,.string ⟨#[113,117,97,108]⟩,.string ⟨#[118,97,108]⟩,.string ⟨#[114,111,119,115]⟩,.string ⟨#[113,117,97,108,115]⟩,.string ⟨#[116,115]⟩,.string ⟨#[118,101,114,115,105,111,110,115]⟩,.string ⟨#[99,101,108,108,115]⟩,.string ⟨#[115,107,105,112]⟩,.string ⟨#[62]⟩,.string ⟨#[124]⟩,.string ⟨#[105,102]⟩]=.agg yZd:=rfl;rw[harr];clear d0 d1 d2 d3 d4 d5 d6 d7 d8 d9 d10 d11 d12 d13 d14 d15 d16 harr;obtain⟨A,hA⟩:=qE yZd;have HA:Hid (∀k:Nat,k<17→(Instr.index 119 (.agg A) (.int .i64 (k:Int))).run Tryz.prog w1=.ok (.string (nodeW k)) w1):=by rw[hA];exact ySf w1
 rw[←hA];clear hA;go_wp2_with fail;go_loopw[4,5,9] (fun _ _ kv wr=>∃(k:Nat),kv=.int .i64 (k:Int)∧k≤17∧(∀j:Nat,j<k→¬bl (nodeW j)=wd)∧wr=w1) (fun _ _ kv _=>17-(intOf kv).toNat);case atStart=>exact⟨0,rfl,by omega,fun j hj=>by omega,rfl⟩
 case round=>
  obtain⟨k,rfl,hk,hJ,hwx⟩:=hrel;rw[hwx];clear hwx;have HJ:Hid (∀j:Nat,j<k→¬bl (nodeW j)=wd):=hJ;clear hJ;by_cases hk17:k<17
  ·have zk:(k:Int)<17:=by omega
   have hg:=HA.out k hk17;by_cases he:bl (nodeW k)=wd
   ·have zt:(sw.toList==(nodeW k).toList)=true:=by rw[ByteArray.toList_eq,ByteArray.toList_eq];exact beq_iff_eq.2 (HSW.1.trans he.symm)
    have HE:Hid (kwF wd=some (k:Int)):=yVa H0.2.2.1 H0.2.2.2 (by omega) he;clear he;have zw:IntKind.i64.wrap ((i:Int)+(sw.size:Int))=(i:Int)+(sw.size:Int):=wrap64 (by omega) (by omega);have HF:Hid (FsAt (w1.setCell ⟨g,1,none⟩ (.int .i64 ((i:Int)+(sw.size:Int)))) base g b off n cap (i+wd.length) vs∧Chg (fun k=>k=g) w (w1.setCell ⟨g,1,none⟩ (.int .i64 ((i:Int)+(sw.size:Int))))):=⟨by have h9:=H1.1.move (i+wd.length) (.int .i64 ((i:Int)+(sw.size:Int))) (by rw[HSW.2];congr 1);exact h9,H1.2.trans (Chg.of_set _ _ _ _ rfl)⟩;go_wp2_with fail;go_ret;exact⟨HF.2,.inl ⟨(k:Int),HE.out,rfl,HF.1⟩⟩
   ·have zt:(sw.toList==(nodeW k).toList)=false:=by rw[ByteArray.toList_eq,ByteArray.toList_eq];exact beq_eq_false_iff_ne.2 (fun q=>he (q.symm.trans HSW.1))
    go_wp2_with fail;go_roundw;case rel=>exact⟨k+1,by go_num,by omega,fun j hj=>by
     by_cases q:j<k
     ·exact HJ.out j q
     ·rw[show j=k by omega];exact he,by first|rfl|trivial⟩
    case measure=>simp[intOf];omega
  ·have zk:¬(k:Int)<17:=by omega
   have HE:Hid (kwF wd=none):=yQj (fun j hj=>HJ.out j (by omega));go_wp2_with fail;refine(yEx H1.1).mono ?_;rintro e w2 ⟨rfl,hw2⟩;rw[hw2];clear hw2;exact⟨rfl,H1.2,.inr ⟨HE.out,rfl⟩⟩
end Go.Proofs.YtgnpcenpcmdlfaaGreatDoor
