import Derived.Test.YtgnpcenpcmdlfaaGreatDoorXkAA
import Derived.Test.YtgnpcenpcmdlfaaGreatDoorXkAI
import Derived.Test.YtgnpcenpcmdlfaaGreatDoorXkAF
import Derived.Test.YtgnpcenpcmdlfaaGreatDoorXkAC
import Derived.Test.YtgnpcenpcmdlfaaGreatDoorXkAE
import Derived.Test.YtgnpcenpcmdlfaaGreatDoorXkAB
import Derived.Deep.DeepCutAuto
import Derived.Deep.RegionWith
import Derived.OwnWalk
namespace Go.Proofs.YtgnpcenpcmdlfaaGreatDoor
open Go.ChangeShapes Go.WideShapes Go.ChangeAt Go.RowKit Go.Deep
set_option linter.unusedVariables false
set_option linter.unusedSimpArgs false
set_option maxRecDepth 100000
def SfR (base:Nat) (t:List UInt8) (v:Value) (w':World):Prop:=∃(c a:Int) (nv:Value),v=.agg #[.int .i64 c,.int .i64 a,nv]∧
 ((4000<t.length∧c=1∧a=0∧nv=.slice none 0 0)∨
  (t.length≤4000∧∃ks,LexR t 0 ks∧((∃(ns:List Nd) (go co:Nat),MEnds (⟨ks,0,[],[],true⟩:Ms) (.ok ns)∧c=0∧a=0∧nv=.slice (some ⟨go,0,none⟩) ns.length co∧OwnNd w' base go co ns)∨(∃p:Nat,MEnds (⟨ks,0,[],[],true⟩:Ms) (.error (c,p))∧a=(p:Int)∧1≤c∧nv=.slice none 0 0))))
def SfP (t:List UInt8) (w:World) (e:Ending) (w':World):Prop:=∃v,e=.returned v∧Below w.heap.size w w'∧SfR w.heap.size t v w'
set_option maxHeartbeats 8000000 in
theorem specParse_core {b off n cap:Nat} {t:List UInt8} {w:World} (hT:BysAt w b off t) (hb:b<w.heap.size) (hn:n=t.length) (hl:n≤2^40) (hc:n≤cap) (hcm:cap≤maxLen):
  Calls Tryz.prog 6 #[.slice (some ⟨b,off,none⟩) n cap] w (SfP t w):=by
 obtain⟨W0,hW0⟩:=qE (w.alloc (Obj.cells #[.int .i64 0,.int .i64 0,.slice none 0 0] 27):World)
 have b0:Below w.heap.size w W0:=by rw[hW0];exact qB
 have HB0:Hid (BoxAt W0 w.heap.size 27 3 w.heap.size [.int .i64 0,.int .i64 0,.slice none 0 0]∧Below w.heap.size w W0∧W0.heap.size=w.heap.size+1):=⟨by rw[hW0];exact boxAt_new w _ (Nat.le_refl _) rfl,b0,by rw[hW0];simp⟩
 have HT:Hid (BysAt W0 b off t∧b<W0.heap.size∧n=t.length∧n≤cap∧cap≤maxLen):=⟨hT.below b0 hb,by have:=b0.size;omega,hn,hc,hcm⟩
 clear hT hn hc hcm b0
 by_cases h4:4000<n
 ·have z4:(4000:Int)<(n:Int):=by omega
  obtain⟨W9,hW9⟩:∃V:World,V=((W0.setCell ⟨w.heap.size,0,none⟩ (.int .i64 1)).setCell ⟨w.heap.size,1,none⟩ (.int .i64 0)).setCell ⟨w.heap.size,2,none⟩ (.slice none 0 0):=⟨_,rfl⟩
  have HR:Hid (BoxAt W9 w.heap.size 27 3 w.heap.size [.int .i64 1,.int .i64 0,.slice none 0 0]∧Below w.heap.size w W9):=by
   rw[hW9]
   exact⟨((HB0.1.set 0 _).set 1 _).set 2 _,below_set (below_set (below_set HB0.2.1 (Nat.le_refl _) 0 _) (Nat.le_refl _) 1 _) (Nat.le_refl _) 2 _⟩
  obtain⟨p0,p1,p2⟩:=HR.1.c3
  obtain⟨a0,a1,a2⟩:=HB0.1.c3
  have f0:=HB0.1.frozen 0
  have f1:=HB0.1.frozen 1
  have f2:=HB0.1.frozen 2
  go_enter Tryz.func6,Tryz.ntmps6
  go_upto_region 2 with fail
  rw[←hW0]
  clear hW0
  go_wp2_with fail
  rw[←hW9]
  exact bodyPost_ret (v:=.agg #[.int .i64 1,.int .i64 0,.slice none 0 0]) (by simp[results,Tryz.results6,go_sem,p0,p1,p2]) rfl ⟨_,rfl,HR.2,1,0,_,rfl,.inl ⟨by have:=HT.2.2.1;omega,rfl,rfl,rfl⟩⟩
 ·have z4:¬(4000:Int)<(n:Int):=by omega
  have HLx:Hid (Calls Tryz.prog 22 #[.slice (some ⟨b,off,none⟩) n cap] W0 (LxP t W0)):=by
   have h9:=l5Lex_core b off cap t W0 HT.1 HT.2.1 (by have:=HT.2.2.1;omega) (by have:=HT.2.2;omega) HT.2.2.2.2
   rw[←HT.2.2.1]at h9
   exact h9
  go_enter Tryz.func6,Tryz.ntmps6
  go_upto_region 3 with fail
  rw[←hW0]
  clear hW0
  go_wp2_with fail
  refine HLx.mono ?_
  clear HLx
  rintro e w1 ⟨g,cp,ks,rfl,hlex,hO,hb1⟩
  obtain⟨N,hN⟩:=qE ks.length
  rw[←hN]
  have hks:N≤100000:=by
   have h1:=hlex.len.1
   have h2:=HT.2.2.1
   omega
  have HPr:Hid (Calls Tryz.prog 21 #[parV g N cp 0 0 0 0] w1 (ParP w1 g cp N (⟨ks,0,[],[],true⟩:Ms))):=l5Parse_core hO hN hks hlex.toks
  have H1:Hid (LexR t 0 ks∧BoxAt w1 w.heap.size 27 3 w.heap.size [.int .i64 0,.int .i64 0,.slice none 0 0]∧Below w.heap.size w w1∧w.heap.size<w1.heap.size):=⟨hlex,HB0.1.below hb1,HB0.2.1.trans (hb1.mono HB0.2.1.size),by have:=hb1.size;have:=HB0.2.2;omega⟩
  clear hlex hO hb1 hN hks
  go_wp2_with fail
  refine HPr.mono ?_
  clear HPr
  rintro e w2 ⟨hb2,⟨pi,pn,pa,ns,go,co,hM,hO,rfl⟩|⟨pi,pn,c,a,oa,on,oc,hM,hc1,rfl⟩⟩
  ·obtain⟨nl,hnl⟩:=qE ns.length
   rw[←hnl]
   obtain⟨W3,hW3⟩:∃V:World,V=w2.alloc (Obj.cells #[.slice (some ⟨g,0,none⟩) N cp,.int .i64 (pi:Int),.int .i64 (pn:Int),.int .i64 0,.int .i64 (pa:Int)] 41):=⟨_,rfl⟩
   obtain⟨pb,hpb⟩:=qE w2.heap.size
   have hb3:Below w2.heap.size w2 W3:=by rw[hW3];exact qB
   have H3:Hid (BoxAt W3 w.heap.size 27 3 w.heap.size [.int .i64 0,.int .i64 0,.slice none 0 0]∧Below w.heap.size w W3∧OwnNd W3 w1.heap.size go co ns∧BoxAt W3 w.heap.size 41 5 pb [.slice (some ⟨g,0,none⟩) N cp,.int .i64 (pi:Int),.int .i64 (pn:Int),.int .i64 0,.int .i64 (pa:Int)]):=
    ⟨(H1.2.1.below hb2).below hb3,(H1.2.2.1.trans (hb2.mono H1.2.2.1.size)).trans (hb3.mono (by have:=hb2.size;have:=H1.2.2.2;omega)),hO.below hb3 hO.lt.2,by rw[hpb,hW3];exact boxAt_new w2 _ (by have:=hb2.size;have:=H1.2.2.2;omega) rfl⟩
   obtain⟨W9,hW9⟩:∃V:World,V=((W3.setCell ⟨w.heap.size,0,none⟩ (.int .i64 0)).setCell ⟨w.heap.size,1,none⟩ (.int .i64 0)).setCell ⟨w.heap.size,2,none⟩ (.slice (some ⟨go,0,none⟩) nl co):=⟨_,rfl⟩
   have HR:Hid (BoxAt W9 w.heap.size 27 3 w.heap.size [.int .i64 0,.int .i64 0,.slice (some ⟨go,0,none⟩) nl co]∧SfP t w (.returned (.agg #[.int .i64 0,.int .i64 0,.slice (some ⟨go,0,none⟩) nl co])) W9):=by
    have hs:=H1.2.2.2
    refine⟨by rw[hW9];exact((H3.1.set 0 _).set 1 _).set 2 _,_,rfl,by rw[hW9];exact below_set (below_set (below_set H3.2.1 (Nat.le_refl _) 0 _) (Nat.le_refl _) 1 _) (Nat.le_refl _) 2 _,0,0,_,rfl,.inr ⟨by have:=HT.2.2.1;omega,ks,H1.1,.inl ⟨ns,go,co,hM,rfl,rfl,by rw[hnl],?_⟩⟩⟩
    rw[hW9]
    exact OwnNd.mono (ownsRow_setCell_below (ownsRow_setCell_below (ownsRow_setCell_below H3.2.2.1 hs _) hs _) hs _) (by omega)
   obtain⟨p0,p1,p2⟩:=HR.1.c3
   obtain⟨a0,a1,a2⟩:=H3.1.c3
   have f0:=H3.1.frozen 0
   have f1:=H3.1.frozen 1
   have f2:=H3.1.frozen 2
   have x3:=H3.2.2.2.cell (j:=3) rfl
   clear hM hO hb2 hb3 hnl
   go_upto_region 4 with fail
   rw[←hW3,←hpb]
   clear hW3 hpb
   go_wp2_with fail
   rw[←hW9]
   exact bodyPost_ret (v:=.agg #[.int .i64 0,.int .i64 0,.slice (some ⟨go,0,none⟩) nl co]) (by simp[results,Tryz.results6,go_sem,p0,p1,p2]) rfl HR.2
  ·obtain⟨W3,hW3⟩:∃V:World,V=w2.alloc (Obj.cells #[.slice (some ⟨g,0,none⟩) N cp,.int .i64 (pi:Int),.int .i64 (pn:Int),.int .i64 c,.int .i64 (a:Int)] 41):=⟨_,rfl⟩
   obtain⟨pb,hpb⟩:=qE w2.heap.size
   have hb3:Below w2.heap.size w2 W3:=by rw[hW3];exact qB
   have zc:(c==0)=false:=by rw[beq_eq_false_iff_ne];omega
   have H3:Hid (BoxAt W3 w.heap.size 27 3 w.heap.size [.int .i64 0,.int .i64 0,.slice none 0 0]∧Below w.heap.size w W3∧BoxAt W3 w.heap.size 41 5 pb [.slice (some ⟨g,0,none⟩) N cp,.int .i64 (pi:Int),.int .i64 (pn:Int),.int .i64 c,.int .i64 (a:Int)]):=
    ⟨(H1.2.1.below hb2).below hb3,(H1.2.2.1.trans (hb2.mono H1.2.2.1.size)).trans (hb3.mono (by have:=hb2.size;have:=H1.2.2.2;omega)),by rw[hpb,hW3];exact boxAt_new w2 _ (by have:=hb2.size;have:=H1.2.2.2;omega) rfl⟩
   obtain⟨W9,hW9⟩:∃V:World,V=((W3.setCell ⟨w.heap.size,0,none⟩ (.int .i64 c)).setCell ⟨w.heap.size,1,none⟩ (.int .i64 (a:Int))).setCell ⟨w.heap.size,2,none⟩ (.slice none 0 0):=⟨_,rfl⟩
   have HR:Hid (BoxAt W9 w.heap.size 27 3 w.heap.size [.int .i64 c,.int .i64 (a:Int),.slice none 0 0]∧SfP t w (.returned (.agg #[.int .i64 c,.int .i64 (a:Int),.slice none 0 0])) W9):=by
    exact⟨by rw[hW9];exact((H3.1.set 0 _).set 1 _).set 2 _,_,rfl,by rw[hW9];exact below_set (below_set (below_set H3.2.1 (Nat.le_refl _) 0 _) (Nat.le_refl _) 1 _) (Nat.le_refl _) 2 _,c,a,_,rfl,.inr ⟨by have:=HT.2.2.1;omega,ks,H1.1,.inr ⟨a,hM,rfl,hc1,rfl⟩⟩⟩
   obtain⟨p0,p1,p2⟩:=HR.1.c3
   obtain⟨a0,a1,a2⟩:=H3.1.c3
   have f0:=H3.1.frozen 0
   have f1:=H3.1.frozen 1
   have f2:=H3.1.frozen 2
   have x3:=H3.2.2.cell (j:=3) rfl
   have x4:=H3.2.2.cell (j:=4) rfl
   clear hM hc1 hb2 hb3
   go_upto_region 4 with fail
   rw[←hW3,←hpb]
   clear hW3 hpb
   go_wp2_with fail
   rw[←hW9]
   exact bodyPost_ret (v:=.agg #[.int .i64 c,.int .i64 (a:Int),.slice none 0 0]) (by simp[results,Tryz.results6,go_sem,p0,p1,p2]) rfl HR.2
theorem argP_8 (s:Ps):liftP s (rangeF 8 true s.ks)=argP 8 s:=by
 rw[argP_lift]
 rfl
set_option maxHeartbeats 8000000 in
theorem behind_8 {base g b off n cap:Nat} {t:List UInt8} {d:Nat} {s:Ps} {k:Tk} {ks:List Tk} {p:Nat} {nv:Value} {w:World} (hS:FpS base b off n cap t w) (h:Fp base g b off n cap t d s k ks p nv w):Calls Tryz.prog 117 #[.pointer (some ⟨g,0,none⟩),.int .i64 8] w (BehP base g b off n cap t d (fun r=>r=argP 8 s) nv w):=by
 obtain⟨W0,hW0⟩:=qE (w.alloc (Obj.cells #[.int .i64 0,.string ⟨#[]⟩,.bool false,.string ⟨#[]⟩,.int .u64 0,.int .u64 0,.int .i64 0] 65):World)
 have b3:Below w.heap.size w W0:=by rw[hW0];exact qB
 have b1:BoxAt W0 w.heap.size 65 7 w.heap.size [.int .i64 0,.string ⟨#[]⟩,.bool false,.string ⟨#[]⟩,.int .u64 0,.int .u64 0,.int .i64 0]:=by rw[hW0];exact boxAt_new w _ (Nat.le_refl _) rfl
 have hbs:Below base w W0:=b3.mono hS.sz
 have hnl:=h.nlt
 have HW0:Hid (BoxAt W0 w.heap.size 65 7 w.heap.size [.int .i64 0,.string ⟨#[]⟩,.bool false,.string ⟨#[]⟩,.int .u64 0,.int .u64 0,.int .i64 0]∧Fp base g b off n cap t d s k ks p nv W0∧FpS base b off n cap t W0∧Chg (fun q=>q=g∨nv.ownBlock=some q) w W0∧(∀q,nv.ownBlock=some q→q<w.heap.size)∧s.ks=k::ks):=⟨b1,h.below b3,hS.up hbs,Chg.of_below b3,fun q hq=>(hnl q hq).2,h.eq⟩
 have hgl:=h.fs.lt
 have HEn:Hid (Calls Tryz.prog 129 #[.pointer (some ⟨g,0,none⟩),.int .i64 8,.int .u8 34] W0 (BehP base g b off n cap t d (fun r=>r=liftP s (rangeF 8 true s.ks)) nv W0)):=fends_core HW0.2.2.1 HW0.2.1 true 8 34 rfl
 have hsz0:w.heap.size<W0.heap.size:=by rw[hW0];simp
 clear h hS b1 b3 hbs hnl
 go_enter Tryz.func117,Tryz.ntmps117
 go_upto_region 2 with fail
 rw[←hW0]
 clear hW0
 go_wp2_with fail
 refine HEn.mono ?_
 clear HEn
 rintro e w3 ⟨Hc3,(⟨s1,nd,hs1,rfl,k2,ks2,p2,nv3,hF3,hn3⟩|⟨c,a,hs1,rfl⟩)⟩
 case inr=>
  have HD:Hid (BehP base g b off n cap t d (fun r=>r=argP 8 s) nv w (Pf c (a:Int)) w3):=⟨Chg.comp HW0.2.2.2.1 Hc3.out (fun q _ z=>z),.inr ⟨c,a,hs1.trans (argP_8 s),rfl⟩⟩
  clear hs1
  exact⟨rfl,HD.out⟩
 have hBx:=HW0.1.chg Hc3.out (fun z=>by
  rcases z with z|z
  ·omega
  ·have:=HW0.2.2.2.2.1 _ z;omega)
 have HF3:Hid (Fp base g b off n cap t d s1 k2 ks2 p2 nv3 w3∧argP 8 s=.ok (s1,nd)∧Chg (fun q=>q=g∨nv.ownBlock=some q) w w3∧(∀q,nv3.ownBlock=some q→(nv.ownBlock=some q∨w.heap.size≤q)∧¬q=w.heap.size)):=⟨hF3,((argP_8 s).symm.trans hs1.symm),Chg.comp HW0.2.2.2.1 Hc3.out (fun q _ z=>z),fun q hq=>by
  rcases hn3 q hq with y|y
  ·have:=HW0.2.2.2.2.1 q y
   exact⟨.inl y,by omega⟩
  ·exact⟨.inr (by omega),by omega⟩⟩
 clear hs1 hF3 hn3
 obtain⟨nk,ns,nh,nt,nl,nu,nn⟩:=nd
 have hvv:(⟨nk,ns,nh,nt,nl,nu,nn⟩:Nd).v=.agg #[.int .i64 nk,.string ns,.bool nh,.string nt,.int .u64 nl,.int .u64 nu,.int .i64 nn]:=rfl
 rw[hvv]
 obtain⟨l0,l1,l2,l3,l4,l5,l6⟩:=hBx.c7
 have f0:=hBx.frozen 0
 have f1:=hBx.frozen 1
 have f2:=hBx.frozen 2
 have f3:=hBx.frozen 3
 have f4:=hBx.frozen 4
 have f5:=hBx.frozen 5
 have f6:=hBx.frozen 6
 obtain⟨W9,hW9⟩:∃V:World,V=setN w3 w.heap.size ((⟨nk,ns,nh,nt,nl,nu,nn⟩:Nd)):=⟨_,rfl⟩
 have hB9:=hBx.setN ((⟨nk,ns,nh,nt,nl,nu,nn⟩:Nd))
 rw[←hW9]at hB9
 have hc9:Chg (fun q=>q=w.heap.size) w3 W9:=by rw[hW9];exact chg_setN _ _ _
 have HR:Hid (BehP base g b off n cap t d (fun r=>r=argP 8 s) nv w (.returned ((⟨nk,ns,nh,nt,nl,nu,nn⟩:Nd)).v) W9):=BehP.box (s1:=s1) HF3.2.1.symm HF3.1 HF3.2.2.1 (fun q hq=>(HF3.2.2.2 q hq).1) hc9 (by omega) (fun q hq=>(HF3.2.2.2 q hq).2)
 obtain⟨q0,q1,q2,q3,q4,q5,q6⟩:=hB9.c7
 unfold setN at hW9
 simp only[leafN,patN,cntN,noS]at hW9 q0 q1 q2 q3 q4 q5 q6
 clear hB9 hc9
 go_wp2_with fail
 rw[←hW9]
 exact bodyPost_ret (v:=((⟨nk,ns,nh,nt,nl,nu,nn⟩:Nd)).v) (by simp[results,Tryz.results117,go_sem,q0,q1,q2,q3,q4,q5,q6,leafN,patN,cntN,noS]) rfl HR.out
theorem argP_9 (s:Ps):liftP s (rangeF 9 true s.ks)=argP 9 s:=by
 rw[argP_lift]
 rfl
set_option maxHeartbeats 8000000 in
theorem behind_9 {base g b off n cap:Nat} {t:List UInt8} {d:Nat} {s:Ps} {k:Tk} {ks:List Tk} {p:Nat} {nv:Value} {w:World} (hS:FpS base b off n cap t w) (h:Fp base g b off n cap t d s k ks p nv w):Calls Tryz.prog 117 #[.pointer (some ⟨g,0,none⟩),.int .i64 9] w (BehP base g b off n cap t d (fun r=>r=argP 9 s) nv w):=by
 obtain⟨W0,hW0⟩:=qE (w.alloc (Obj.cells #[.int .i64 0,.string ⟨#[]⟩,.bool false,.string ⟨#[]⟩,.int .u64 0,.int .u64 0,.int .i64 0] 65):World)
 have b3:Below w.heap.size w W0:=by rw[hW0];exact qB
 have b1:BoxAt W0 w.heap.size 65 7 w.heap.size [.int .i64 0,.string ⟨#[]⟩,.bool false,.string ⟨#[]⟩,.int .u64 0,.int .u64 0,.int .i64 0]:=by rw[hW0];exact boxAt_new w _ (Nat.le_refl _) rfl
 have hbs:Below base w W0:=b3.mono hS.sz
 have hnl:=h.nlt
 have HW0:Hid (BoxAt W0 w.heap.size 65 7 w.heap.size [.int .i64 0,.string ⟨#[]⟩,.bool false,.string ⟨#[]⟩,.int .u64 0,.int .u64 0,.int .i64 0]∧Fp base g b off n cap t d s k ks p nv W0∧FpS base b off n cap t W0∧Chg (fun q=>q=g∨nv.ownBlock=some q) w W0∧(∀q,nv.ownBlock=some q→q<w.heap.size)∧s.ks=k::ks):=⟨b1,h.below b3,hS.up hbs,Chg.of_below b3,fun q hq=>(hnl q hq).2,h.eq⟩
 have hgl:=h.fs.lt
 have HEn:Hid (Calls Tryz.prog 129 #[.pointer (some ⟨g,0,none⟩),.int .i64 9,.int .u8 34] W0 (BehP base g b off n cap t d (fun r=>r=liftP s (rangeF 9 true s.ks)) nv W0)):=fends_core HW0.2.2.1 HW0.2.1 true 9 34 rfl
 have hsz0:w.heap.size<W0.heap.size:=by rw[hW0];simp
 clear h hS b1 b3 hbs hnl
 go_enter Tryz.func117,Tryz.ntmps117
 go_upto_region 2 with fail
 rw[←hW0]
 clear hW0
 go_wp2_with fail
 refine HEn.mono ?_
 clear HEn
 rintro e w3 ⟨Hc3,(⟨s1,nd,hs1,rfl,k2,ks2,p2,nv3,hF3,hn3⟩|⟨c,a,hs1,rfl⟩)⟩
 case inr=>
  have HD:Hid (BehP base g b off n cap t d (fun r=>r=argP 9 s) nv w (Pf c (a:Int)) w3):=⟨Chg.comp HW0.2.2.2.1 Hc3.out (fun q _ z=>z),.inr ⟨c,a,hs1.trans (argP_9 s),rfl⟩⟩
  clear hs1
  exact⟨rfl,HD.out⟩
 have hBx:=HW0.1.chg Hc3.out (fun z=>by
  rcases z with z|z
  ·omega
  ·have:=HW0.2.2.2.2.1 _ z;omega)
 have HF3:Hid (Fp base g b off n cap t d s1 k2 ks2 p2 nv3 w3∧argP 9 s=.ok (s1,nd)∧Chg (fun q=>q=g∨nv.ownBlock=some q) w w3∧(∀q,nv3.ownBlock=some q→(nv.ownBlock=some q∨w.heap.size≤q)∧¬q=w.heap.size)):=⟨hF3,((argP_9 s).symm.trans hs1.symm),Chg.comp HW0.2.2.2.1 Hc3.out (fun q _ z=>z),fun q hq=>by
  rcases hn3 q hq with y|y
  ·have:=HW0.2.2.2.2.1 q y
   exact⟨.inl y,by omega⟩
  ·exact⟨.inr (by omega),by omega⟩⟩
 clear hs1 hF3 hn3
 obtain⟨nk,ns,nh,nt,nl,nu,nn⟩:=nd
 have hvv:(⟨nk,ns,nh,nt,nl,nu,nn⟩:Nd).v=.agg #[.int .i64 nk,.string ns,.bool nh,.string nt,.int .u64 nl,.int .u64 nu,.int .i64 nn]:=rfl
 rw[hvv]
 obtain⟨l0,l1,l2,l3,l4,l5,l6⟩:=hBx.c7
 have f0:=hBx.frozen 0
 have f1:=hBx.frozen 1
 have f2:=hBx.frozen 2
 have f3:=hBx.frozen 3
 have f4:=hBx.frozen 4
 have f5:=hBx.frozen 5
 have f6:=hBx.frozen 6
 obtain⟨W9,hW9⟩:∃V:World,V=setN w3 w.heap.size ((⟨nk,ns,nh,nt,nl,nu,nn⟩:Nd)):=⟨_,rfl⟩
 have hB9:=hBx.setN ((⟨nk,ns,nh,nt,nl,nu,nn⟩:Nd))
 rw[←hW9]at hB9
 have hc9:Chg (fun q=>q=w.heap.size) w3 W9:=by rw[hW9];exact chg_setN _ _ _
 have HR:Hid (BehP base g b off n cap t d (fun r=>r=argP 9 s) nv w (.returned ((⟨nk,ns,nh,nt,nl,nu,nn⟩:Nd)).v) W9):=BehP.box (s1:=s1) HF3.2.1.symm HF3.1 HF3.2.2.1 (fun q hq=>(HF3.2.2.2 q hq).1) hc9 (by omega) (fun q hq=>(HF3.2.2.2 q hq).2)
 obtain⟨q0,q1,q2,q3,q4,q5,q6⟩:=hB9.c7
 unfold setN at hW9
 simp only[leafN,patN,cntN,noS]at hW9 q0 q1 q2 q3 q4 q5 q6
 clear hB9 hc9
 go_wp2_with fail
 rw[←hW9]
 exact bodyPost_ret (v:=((⟨nk,ns,nh,nt,nl,nu,nn⟩:Nd)).v) (by simp[results,Tryz.results117,go_sem,q0,q1,q2,q3,q4,q5,q6,leafN,patN,cntN,noS]) rfl HR.out
theorem argP_10 (s:Ps):liftP s (rangeF 10 false s.ks)=argP 10 s:=by
 rw[argP_lift]
 rfl
set_option maxHeartbeats 8000000 in
theorem behind_10 {base g b off n cap:Nat} {t:List UInt8} {d:Nat} {s:Ps} {k:Tk} {ks:List Tk} {p:Nat} {nv:Value} {w:World} (hS:FpS base b off n cap t w) (h:Fp base g b off n cap t d s k ks p nv w):Calls Tryz.prog 117 #[.pointer (some ⟨g,0,none⟩),.int .i64 10] w (BehP base g b off n cap t d (fun r=>r=argP 10 s) nv w):=by
 obtain⟨W0,hW0⟩:=qE (w.alloc (Obj.cells #[.int .i64 0,.string ⟨#[]⟩,.bool false,.string ⟨#[]⟩,.int .u64 0,.int .u64 0,.int .i64 0] 65):World)
 have b3:Below w.heap.size w W0:=by rw[hW0];exact qB
 have b1:BoxAt W0 w.heap.size 65 7 w.heap.size [.int .i64 0,.string ⟨#[]⟩,.bool false,.string ⟨#[]⟩,.int .u64 0,.int .u64 0,.int .i64 0]:=by rw[hW0];exact boxAt_new w _ (Nat.le_refl _) rfl
 have hbs:Below base w W0:=b3.mono hS.sz
 have hnl:=h.nlt
 have HW0:Hid (BoxAt W0 w.heap.size 65 7 w.heap.size [.int .i64 0,.string ⟨#[]⟩,.bool false,.string ⟨#[]⟩,.int .u64 0,.int .u64 0,.int .i64 0]∧Fp base g b off n cap t d s k ks p nv W0∧FpS base b off n cap t W0∧Chg (fun q=>q=g∨nv.ownBlock=some q) w W0∧(∀q,nv.ownBlock=some q→q<w.heap.size)∧s.ks=k::ks):=⟨b1,h.below b3,hS.up hbs,Chg.of_below b3,fun q hq=>(hnl q hq).2,h.eq⟩
 have hgl:=h.fs.lt
 have HEn:Hid (Calls Tryz.prog 129 #[.pointer (some ⟨g,0,none⟩),.int .i64 10,.int .u8 48] W0 (BehP base g b off n cap t d (fun r=>r=liftP s (rangeF 10 false s.ks)) nv W0)):=fends_core HW0.2.2.1 HW0.2.1 false 10 48 rfl
 have hsz0:w.heap.size<W0.heap.size:=by rw[hW0];simp
 clear h hS b1 b3 hbs hnl
 go_enter Tryz.func117,Tryz.ntmps117
 go_upto_region 2 with fail
 rw[←hW0]
 clear hW0
 go_wp2_with fail
 refine HEn.mono ?_
 clear HEn
 rintro e w3 ⟨Hc3,(⟨s1,nd,hs1,rfl,k2,ks2,p2,nv3,hF3,hn3⟩|⟨c,a,hs1,rfl⟩)⟩
 case inr=>
  have HD:Hid (BehP base g b off n cap t d (fun r=>r=argP 10 s) nv w (Pf c (a:Int)) w3):=⟨Chg.comp HW0.2.2.2.1 Hc3.out (fun q _ z=>z),.inr ⟨c,a,hs1.trans (argP_10 s),rfl⟩⟩
  clear hs1
  exact⟨rfl,HD.out⟩
 have hBx:=HW0.1.chg Hc3.out (fun z=>by
  rcases z with z|z
  ·omega
  ·have:=HW0.2.2.2.2.1 _ z;omega)
 have HF3:Hid (Fp base g b off n cap t d s1 k2 ks2 p2 nv3 w3∧argP 10 s=.ok (s1,nd)∧Chg (fun q=>q=g∨nv.ownBlock=some q) w w3∧(∀q,nv3.ownBlock=some q→(nv.ownBlock=some q∨w.heap.size≤q)∧¬q=w.heap.size)):=⟨hF3,((argP_10 s).symm.trans hs1.symm),Chg.comp HW0.2.2.2.1 Hc3.out (fun q _ z=>z),fun q hq=>by
  rcases hn3 q hq with y|y
  ·have:=HW0.2.2.2.2.1 q y
   exact⟨.inl y,by omega⟩
  ·exact⟨.inr (by omega),by omega⟩⟩
 clear hs1 hF3 hn3
 obtain⟨nk,ns,nh,nt,nl,nu,nn⟩:=nd
 have hvv:(⟨nk,ns,nh,nt,nl,nu,nn⟩:Nd).v=.agg #[.int .i64 nk,.string ns,.bool nh,.string nt,.int .u64 nl,.int .u64 nu,.int .i64 nn]:=rfl
 rw[hvv]
 obtain⟨l0,l1,l2,l3,l4,l5,l6⟩:=hBx.c7
 have f0:=hBx.frozen 0
 have f1:=hBx.frozen 1
 have f2:=hBx.frozen 2
 have f3:=hBx.frozen 3
 have f4:=hBx.frozen 4
 have f5:=hBx.frozen 5
 have f6:=hBx.frozen 6
 obtain⟨W9,hW9⟩:∃V:World,V=setN w3 w.heap.size ((⟨nk,ns,nh,nt,nl,nu,nn⟩:Nd)):=⟨_,rfl⟩
 have hB9:=hBx.setN ((⟨nk,ns,nh,nt,nl,nu,nn⟩:Nd))
 rw[←hW9]at hB9
 have hc9:Chg (fun q=>q=w.heap.size) w3 W9:=by rw[hW9];exact chg_setN _ _ _
 have HR:Hid (BehP base g b off n cap t d (fun r=>r=argP 10 s) nv w (.returned ((⟨nk,ns,nh,nt,nl,nu,nn⟩:Nd)).v) W9):=BehP.box (s1:=s1) HF3.2.1.symm HF3.1 HF3.2.2.1 (fun q hq=>(HF3.2.2.2 q hq).1) hc9 (by omega) (fun q hq=>(HF3.2.2.2 q hq).2)
 obtain⟨q0,q1,q2,q3,q4,q5,q6⟩:=hB9.c7
 unfold setN at hW9
 simp only[leafN,patN,cntN,noS]at hW9 q0 q1 q2 q3 q4 q5 q6
 clear hB9 hc9
 go_wp2_with fail
 rw[←hW9]
 exact bodyPost_ret (v:=((⟨nk,ns,nh,nt,nl,nu,nn⟩:Nd)).v) (by simp[results,Tryz.results117,go_sem,q0,q1,q2,q3,q4,q5,q6,leafN,patN,cntN,noS]) rfl HR.out
def BehR (F:Ps→PR Ps→Prop) (d:Nat) (kd:Int) (s:Ps) (r:PR (Ps×Nd)):Prop:=if kd=16 then((∃s1,BranR F d s (.ok s1)∧r=.ok (s1,leafN 16))∨(∃e,BranR F d s (.error e)∧r=.error e))else r=argP kd s
theorem BehP.mono {base g b off n cap:Nat} {t:List UInt8} {d:Nat} {A A2:PR (Ps×Nd)→Prop} {nv:Value} {w w':World} {e:Ending} (h:BehP base g b off n cap t d A nv w e w') (hA:∀r,A r→A2 r):BehP base g b off n cap t d A2 nv w e w':=by
 obtain⟨h1,⟨s1,nd,h2,h3⟩|⟨c,a,h2,h3⟩⟩:=h
 ·exact⟨h1,.inl ⟨s1,nd,hA _ h2,h3⟩⟩
 ·exact⟨h1,.inr ⟨c,a,hA _ h2,h3⟩⟩
theorem behind_any {base g b off n cap:Nat} {t:List UInt8} {d:Nat} {s:Ps} {k:Tk} {ks:List Tk} {p:Nat} {nv:Value} {w:World} (hS:FpS base b off n cap t w) (h:Fp base g b off n cap t d s k ks p nv w) {F:Ps→PR Ps→Prop} (HF:0<d→OprC base g b off n cap t (d-1) 26 F) {kd:Int} (hkd:(TkK.word kd).good):Calls Tryz.prog 117 #[.pointer (some ⟨g,0,none⟩),.int .i64 kd] w (BehP base g b off n cap t d (BehR F d kd s) nv w):=by
 have h1:kd=16∨kd=1∨kd=2∨kd=3∨kd=4∨kd=5∨kd=6∨kd=7∨kd=8∨kd=9∨kd=10∨kd=11∨kd=12∨kd=13:=by
  unfold TkK.good at hkd
  omega
 rcases h1 with rfl|rfl|rfl|rfl|rfl|rfl|rfl|rfl|rfl|rfl|rfl|rfl|rfl|rfl
 ·exact(behind_16 hS h HF).mono (fun e w' q=>q.mono (fun r z=>by unfold BehR;rw[if_pos rfl];exact z))
 ·exact(behind_1 hS h).mono (fun e w' q=>q.mono (fun r z=>by unfold BehR;rw[if_neg (by decide)];exact z))
 ·exact(behind_2 hS h).mono (fun e w' q=>q.mono (fun r z=>by unfold BehR;rw[if_neg (by decide)];exact z))
 ·exact(behind_3 hS h).mono (fun e w' q=>q.mono (fun r z=>by unfold BehR;rw[if_neg (by decide)];exact z))
 ·exact(behind_4 hS h).mono (fun e w' q=>q.mono (fun r z=>by unfold BehR;rw[if_neg (by decide)];exact z))
 ·exact(behind_5 hS h).mono (fun e w' q=>q.mono (fun r z=>by unfold BehR;rw[if_neg (by decide)];exact z))
 ·exact(behind_6 hS h).mono (fun e w' q=>q.mono (fun r z=>by unfold BehR;rw[if_neg (by decide)];exact z))
 ·exact(behind_7 hS h).mono (fun e w' q=>q.mono (fun r z=>by unfold BehR;rw[if_neg (by decide)];exact z))
 ·exact(behind_8 hS h).mono (fun e w' q=>q.mono (fun r z=>by unfold BehR;rw[if_neg (by decide)];exact z))
 ·exact(behind_9 hS h).mono (fun e w' q=>q.mono (fun r z=>by unfold BehR;rw[if_neg (by decide)];exact z))
 ·exact(behind_10 hS h).mono (fun e w' q=>q.mono (fun r z=>by unfold BehR;rw[if_neg (by decide)];exact z))
 ·exact(behind_11 hS h).mono (fun e w' q=>q.mono (fun r z=>by unfold BehR;rw[if_neg (by decide)];exact z))
 ·exact(behind_12 hS h).mono (fun e w' q=>q.mono (fun r z=>by unfold BehR;rw[if_neg (by decide)];exact z))
 ·exact(behind_13 hS h).mono (fun e w' q=>q.mono (fun r z=>by unfold BehR;rw[if_neg (by decide)];exact z))
theorem prim_word_ok {F:Ps→PR Ps→Prop} {d:Nat} {s s1 s2:Ps} {nd:Nd} {kd:Int} (hk:hdK s.ks=.word kd) (hm:Except.ok s1=makerF s) (hb:BehR F d kd s1 (.ok (s2,nd))):PrimR F d s (.ok (s2.add nd)):=by
 unfold BehR at hb
 by_cases hq:kd=16
 ·rw[if_pos hq]at hb
  rcases hb with⟨s3,h3,h4⟩|⟨e,h3,h4⟩
  ·cases h4
   exact .inr (.inl ⟨by rw[hk,hq],.inr ⟨s1,hm,.inr ⟨s2,h3,rfl⟩⟩⟩)
  ·cases h4
 ·rw[if_neg hq]at hb
  refine .inr (.inr (.inl ⟨kd,hk,hq,.inr ⟨s1,hm,?_⟩⟩))
  show _=argF kd s1
  unfold argP at hb
  unfold argF
  cases hz:argsF kd s1.ks with
  |error e=>rw[hz]at hb;cases hb
  |ok p=>rw[hz]at hb;cases hb;rfl
theorem prim_word_err {F:Ps→PR Ps→Prop} {d:Nat} {s s1:Ps} {e:PE} {kd:Int} (hk:hdK s.ks=.word kd) (hm:Except.ok s1=makerF s) (hb:BehR F d kd s1 (.error e)):PrimR F d s (.error e):=by
 unfold BehR at hb
 by_cases hq:kd=16
 ·rw[if_pos hq]at hb
  rcases hb with⟨s3,h3,h4⟩|⟨e,h3,h4⟩
  ·cases h4
  ·cases h4
   exact .inr (.inl ⟨by rw[hk,hq],.inr ⟨s1,hm,.inl ⟨_,h3,rfl⟩⟩⟩)
 ·rw[if_neg hq]at hb
  refine .inr (.inr (.inl ⟨kd,hk,hq,.inr ⟨s1,hm,?_⟩⟩))
  show _=argF kd s1
  unfold argP at hb
  unfold argF
  cases hz:argsF kd s1.ks with
  |error e=>rw[hz]at hb;cases hb;rfl
  |ok p=>rw[hz]at hb;cases hb
theorem prim_maker {F:Ps→PR Ps→Prop} {d:Nat} {s:Ps} {e:PE} {kd:Int} (hk:hdK s.ks=.word kd) (hm:Except.error e=makerF s):PrimR F d s (.error e):=by
 by_cases hq:kd=16
 ·exact .inr (.inl ⟨by rw[hk,hq],.inl ⟨_,hm,rfl⟩⟩)
 ·exact .inr (.inr (.inl ⟨kd,hk,hq,.inl ⟨_,hm,rfl⟩⟩))
theorem step_append_ndV {ops:Array Oper} {oo:Oper} {a:Act} {K:Act→World→Prop} {Q:Exit→Act→World→Prop} {E:Prop} (w:World) (hgd:oo.guard=none) (s x:Operand)
  (ho:oo.op=.call {callee:=.builtin .append,args:=#[s,x],argTypes:=#[23,23]})
  (base:Nat) (v:Value) (b off m cx:Nat) (fs:List Nd) (e:Nd) (hs:a.eval s=v) (hx:a.eval x=.slice (some ⟨b,off,none⟩) m cx) (hm:m=1) (hO:w.ownsRow base 65 7 v fs.length (cellsN fs))
  (hc:NdsAt w b off [e]) (hlen:fs.length≤1000000) (hbase:base≤w.heap.size)
  (h:∀g' cp' w',w'.ownsRow base 65 7 (.slice (some ⟨g',0,none⟩) (fs.length+1) cp') (fs++ [e]).length (cellsN (fs++ [e]))→w.grownBy w' v.ownBlock→(v.ownBlock=some g'∨g'=w.heap.size)→K (a.put oo.dst (.slice (some ⟨g',0,none⟩) (fs.length+1) cp')) w'):if Region.wanted oo (yielded ops a.tmps)=true then Oper.wp Tryz.prog oo a w K Q else E:=by
 have hw:Region.wanted oo (yielded ops a.tmps)=true:=by simp[Region.wanted,hgd]
 rw[if_pos hw]
 subst hm
 obtain⟨i,hi,hz0,hz1,hz2⟩:=info_parts Tryz.infoNd
 obtain⟨v',w',hr,hO',hgr,hnil,hat⟩:=run_append_own_at (P:=Tryz.prog) w base 23 oo.type 65 i _ 7 72 Tryz.underlying23 hi hz0 hz1 hz2 rfl (by decide) v fs.length (cellsN fs) hO ⟨b,off,none⟩ 1 cx (cellsN [e]) (length_cellsN [e]) (nds_cells hc) (nds_one [e]) (by unfold maxLen;omega) (by omega) hbase
 rcases hO'.2 with⟨h0,_⟩|⟨g',cap',cur,hv,_,_,hn,hcap,_,_⟩
 ·have:=(hnil.1 h0).2
  simp at this
 ·subst hv
  have hfin:=h g' cap' w' (by rw[List.length_append,cellsN_append];exact hO') hgr (by
   rcases hat with z|z
   ·left;rw[←z];rfl
   ·right;simpa [Value.ownBlock]using z)
  unfold Oper.wp
  simp[execOp,ho,resolve,invoke,builtin,hs,hx,hr,Result.andThen]
  exact hfin
set_option maxHeartbeats 16000000 in
theorem prim_of {base g b off n cap:Nat} {t:List UInt8} {d:Nat} {F:Ps→PR Ps→Prop} (HF:0<d→OprC base g b off n cap t (d-1) 26 F) (hM:MonR F):OprC base g b off n cap t d 96 (PrimR F d):=by
 intro w s k ks p nv hS h
 have hdd:=h.dd
 have H0:Hid (FpS base b off n cap t w∧Fp base g b off n cap t d s k ks p nv w∧s.ks=k::ks):=⟨hS,h,h.eq⟩
 have HFl:Hid ((0<d→OprC base g b off n cap t (d-1) 26 F)∧MonR F):=⟨HF,hM⟩
 have cK:=h.fs.cell (j:=2) rfl
 have hkn:=h.kinds
 have hsg:=ft_sign (b:=40) hkn (by decide)
 have hsg':(((ftB k.k).toNat:Int)==40)=k.k.isSign 40:=hsg
 have hgl:=h.fs.lt
 clear HF hM hS h hsg
 cases hsn:k.k.isSign 40
 case true=>
  rw[hsn]at hsg'
  have HC0:Hid (Calls Tryz.prog 115 #[.pointer (some ⟨g,0,none⟩)] w (FpO base g b off n cap t (d-1) (fun r=>r=enterF d s) (.tuple #[]) nv w)):=enter_core H0.1 H0.2.1
  have Hsn:Hid ((hdK s.ks).isSign 40=true):=by show _=_;rw[H0.2.2];exact hsn
  clear hsn hkn
  go_enter Tryz.func96,Tryz.ntmps96
  go_wp2_with fail
  refine HC0.mono ?_
  clear HC0
  rintro e w1 ⟨Hc1,(⟨s1,hs1,rfl,k1,ks1,p1,nv1,hF1,hn1⟩|⟨c,a,hs1,rfl⟩)⟩
  case inr=>
   have HD:Hid (FpO base g b off n cap t d (PrimR F d s) (.tuple #[]) nv w (Pf c (a:Int)) w1):=⟨Hc1.out,.inr ⟨c,a,.inl ⟨Hsn.out,.inl ⟨_,hs1,rfl⟩⟩,rfl⟩⟩
   clear hs1
   exact⟨rfl,HD.out⟩
  have hd0:0<d:=by
   rcases Nat.eq_zero_or_pos d with q|q
   ·exfalso
    have h9:Except.ok s1=enterF d s:=hs1
    rw[q]at h9
    unfold enterF at h9
    split at h9<;>first|cases h9|(simp at h9)
   ·exact q
  have HQ1:Hid (Fp base g b off n cap t (d-1) s1 k1 ks1 p1 nv1 w1∧FpS base b off n cap t w1∧Chg (fun q=>q=g∨nv.ownBlock=some q) w w1∧(∀q,nv1.ownBlock=some q→nv.ownBlock=some q∨w.heap.size≤q)∧(∀r,(bindR F (fnR leaveF)) s1 r→PrimR F d s r)):=⟨hF1,H0.1.of H0.2.1 Hc1.out,Hc1.out,hn1,fun r hr=>.inl ⟨Hsn.out,.inr ⟨s1,hs1,hr⟩⟩⟩
  have sz1:=HQ1.2.2.1.size
  have HC1:Hid (Calls Tryz.prog 26 #[.pointer (some ⟨g,0,none⟩)] w1 (FpO base g b off n cap t (d-1) (F s1) (.tuple #[]) nv1 w1)):=HFl.1 hd0 w1 s1 k1 ks1 p1 nv1 HQ1.2.1 hF1
  clear hs1 hF1 hn1
  go_wp2_with fail
  refine HC1.mono ?_
  clear HC1
  rintro e w2 ⟨Hc2,(⟨s2,hs2,rfl,k2,ks2,p2,nv2,hF2,hn2⟩|⟨c,a,hs2,rfl⟩)⟩
  case inr=>
   have HD:Hid (FpO base g b off n cap t d (PrimR F d s) (.tuple #[]) nv w (Pf c (a:Int)) w2):=⟨Chg.comp HQ1.2.2.1 Hc2.out (fun q hq z=>by
   rcases z with z|z
   ·exact .inl z
   ·rcases HQ1.2.2.2.1 q z with y|y
    ·exact .inr y
    ·omega),.inr ⟨c,a,HQ1.2.2.2.2 _ (.inl ⟨_,hs2,rfl⟩),rfl⟩⟩
   clear hs2
   exact⟨rfl,HD.out⟩
  have HQ2:Hid (Fp base g b off n cap t (d-1) s2 k2 ks2 p2 nv2 w2∧FpS base b off n cap t w2∧Chg (fun q=>q=g∨nv.ownBlock=some q) w w2∧(∀q,nv2.ownBlock=some q→nv.ownBlock=some q∨w.heap.size≤q)∧(∀r,fnR leaveF s2 r→PrimR F d s r)):=⟨hF2,HQ1.2.1.of HQ1.1 Hc2.out,(Chg.comp HQ1.2.2.1 Hc2.out (fun q hq z=>by
   rcases z with z|z
   ·exact .inl z
   ·rcases HQ1.2.2.2.1 q z with y|y
    ·exact .inr y
    ·omega)),(fun q hq=>by
   rcases hn2 q hq with y|y
   ·exact HQ1.2.2.2.1 q y
   ·right;omega),fun r hr=>HQ1.2.2.2.2 r (.inr ⟨s2,hs2,hr⟩)⟩
  have sz2:=HQ2.2.2.1.size
  have HC2:Hid (Calls Tryz.prog 116 #[.pointer (some ⟨g,0,none⟩)] w2 (FpO base g b off n cap t d (fun r=>r=leaveF s2) (.tuple #[]) nv2 w2)):=by
   have h9:=leave_core HQ2.2.1 hF2 (by omega)
   rw[show d-1+1=d by omega]at h9
   exact h9
  clear hs2 hF2 hn2
  go_wp2_with fail
  refine HC2.mono ?_
  clear HC2
  intro e w3 h3
  have HR:Hid (FpO base g b off n cap t d (PrimR F d s) (.tuple #[]) nv w e w3):=FpO.seq HQ2.2.2.1 HQ2.2.2.2.1 h3 (fun r hr=>HQ2.2.2.2.2 r hr)
  rcases h3 with⟨Hc3,(⟨s3,hs3,rfl,k3,ks3,p3,nv3,hF3,hn3⟩|⟨c,a,hs3,rfl⟩)⟩
  ·clear hs3 hF3 hn3
   go_wp2_with fail
   go_end0
   exact HR.out
  ·clear hs3
   exact⟨rfl,HR.out⟩
 rw[hsn]at hsg'
 by_cases hwd:∃kd,k.k=.word kd
 case neg=>
  have zk:(((ftB k.k).toNat:Int)==97)=false:=by
   cases hq:k.k with
   |word v=>exact absurd ⟨v,hq⟩ hwd
   |sign c=>
    rw[hq]at hkn
    rcases hkn with q|q
    ·rcases q with rfl|rfl|rfl|rfl|rfl|rfl<;>rfl
    ·cases q
   |num _=>rfl
   |str _=>rfl
   |fin=>rfl
   |bad=>rfl
  have HD:Hid (FpO base g b off n cap t d (PrimR F d s) (.tuple #[]) nv w (Pf 3 (k.pos:Int)) w):=⟨Chg.refl _ _,.inr ⟨3,k.pos,.inr (.inr (.inr ⟨by rw[H0.2.2];exact hsn,fun kd q=>hwd ⟨kd,by rw[H0.2.2]at q;exact q⟩,by rw[H0.2.2];rfl⟩)),rfl⟩⟩
  obtain⟨kb,hkb⟩:=qE (((ftB k.k).toNat:Int):Int)
  rw[←hkb]at zk cK hsg'
  clear hwd hkn hsn hkb
  go_enter Tryz.func96,Tryz.ntmps96
  go_wp2_with fail
  refine(fdem_no H0.2.1 3).mono ?_
  rintro e w2 ⟨rfl,hw2⟩
  rw[hw2]
  clear hw2
  exact⟨rfl,HD.out⟩
 obtain⟨kd,hkd⟩:=hwd
 have hft:ftV k= [.int .u8 97,.int .i64 (k.pos:Int),.int .i64 kd,.int .u64 0,.string ⟨#[]⟩]:=by unfold ftV;rw[hkd];rfl
 have hgd:(TkK.word kd).good:=by
  rcases hkn with q|q
  ·rw[hkd]at q;exact q
  ·rw[hkd]at q;cases q
 have HK:Hid (hdK s.ks=.word kd∧(TkK.word kd).good∧k.k.isFin=false):=⟨by rw[H0.2.2];exact hkd,hgd,by rw[hkd];rfl⟩
 rw[show ftB k.k=97 from by rw[hkd];rfl]at cK
 have HMk:Hid (Calls Tryz.prog 95 #[.pointer (some ⟨g,0,none⟩)] w (FpO base g b off n cap t d (fun r=>r=makerF s) (.agg (ftV k).toArray) nv w)):=takeMaker_core H0.1 H0.2.1 HK.2.2
 have HFt:Hid (ftV k= [.int .u8 97,.int .i64 (k.pos:Int),.int .i64 kd,.int .u64 0,.string ⟨#[]⟩]):=hft
 clear hkd hgd hft hsn hkn hsg'
 go_enter Tryz.func96,Tryz.ntmps96
 go_wp2_with fail
 refine(fdem_yes _ 3 w).mono ?_
 rintro e w0 ⟨rfl,hw0⟩
 rw[hw0]
 clear hw0
 go_wp2_with fail
 refine HMk.mono ?_
 clear HMk
 rintro e w1 ⟨Hc1,(⟨s1,hs1,rfl,k1,ks1,p1,nv1,hF1,hn1⟩|⟨c,a,hs1,rfl⟩)⟩
 case inr=>
  have HD:Hid (FpO base g b off n cap t d (PrimR F d s) (.tuple #[]) nv w (Pf c (a:Int)) w1):=⟨Hc1.out,.inr ⟨c,a,prim_maker HK.1 hs1,rfl⟩⟩
  clear hs1
  exact⟨rfl,HD.out⟩
 have HQ1:Hid (Fp base g b off n cap t d s1 k1 ks1 p1 nv1 w1∧FpS base b off n cap t w1∧Chg (fun q=>q=g∨nv.ownBlock=some q) w w1∧(∀q,nv1.ownBlock=some q→nv.ownBlock=some q∨w.heap.size≤q)∧Except.ok s1=makerF s):=⟨hF1,H0.1.of H0.2.1 Hc1.out,Hc1.out,hn1,hs1⟩
 have sz1:=HQ1.2.2.1.size
 have HBh:Hid (Calls Tryz.prog 117 #[.pointer (some ⟨g,0,none⟩),.int .i64 kd] w1 (BehP base g b off n cap t d (BehR F d kd s1) nv1 w1)):=behind_any HQ1.2.1 hF1 HFl.1 HK.2.1
 have hfe:(Instr.field 52 (.agg (ftV k).toArray) 2).run Tryz.prog w1=.ok (.int .i64 kd) w1:=by rw[HFt.out];kernel_rfl
 clear hs1 hF1 hn1
 go_wp2_with fail
 refine HBh.mono ?_
 clear HBh hfe
 rintro e w2 ⟨Hc2,(⟨s2,nd,hs2,rfl,k2,ks2,p2,nv2,hF2,hn2⟩|⟨c,a,hs2,rfl⟩)⟩
 case inr=>
  have HD:Hid (FpO base g b off n cap t d (PrimR F d s) (.tuple #[]) nv w (Pf c (a:Int)) w2):=⟨Chg.comp HQ1.2.2.1 Hc2.out (fun q hq z=>by
   rcases z with z|z
   ·exact .inl z
   ·rcases HQ1.2.2.2.1 q z with y|y
    ·exact .inr y
    ·omega),.inr ⟨c,a,prim_word_err HK.1 HQ1.2.2.2.2 hs2,rfl⟩⟩
  clear hs2
  exact⟨rfl,HD.out⟩
 obtain⟨a2,m2,c2,rfl⟩:=hF2.form
 have HPr:Hid (PrimR F d s (.ok (s2.add nd))):=prim_word_ok HK.1 HQ1.2.2.2.2 hs2
 have HQ2:Hid (Fp base g b off n cap t d s2 k2 ks2 p2 (.slice a2 m2 c2) w2∧FpS base b off n cap t w2∧Chg (fun q=>q=g∨nv.ownBlock=some q) w w2∧(∀q,(Value.slice a2 m2 c2).ownBlock=some q→nv.ownBlock=some q∨w.heap.size≤q)):=⟨hF2,HQ1.2.1.of HQ1.1 Hc2.out,(Chg.comp HQ1.2.2.1 Hc2.out (fun q hq z=>by
   rcases z with z|z
   ·exact .inl z
   ·rcases HQ1.2.2.2.1 q z with y|y
    ·exact .inr y
    ·omega)),(fun q hq=>by
   rcases hn2 q hq with y|y
   ·exact HQ1.2.2.2.1 q y
   ·right;omega)⟩
 have sz2:=HQ2.2.2.1.size
 clear hs2 hF2 hn2
 obtain⟨nk,ns,nh,nt,nl,nu,nn⟩:=nd
 have hvv:(⟨nk,ns,nh,nt,nl,nu,nn⟩:Nd).v=.agg #[.int .i64 nk,.string ns,.bool nh,.string nt,.int .u64 nl,.int .u64 nu,.int .i64 nn]:=rfl
 rw[hvv]
 clear hvv
 obtain⟨W3,hW3⟩:∃V:World,V=w2.alloc (Obj.cells #[.int .i64 nk,.string ns,.bool nh,.string nt,.int .u64 nl,.int .u64 nu,.int .i64 nn] 65):=⟨_,rfl⟩
 have hb3:Below w2.heap.size w2 W3:=by rw[hW3];exact qB
 obtain⟨P,hP⟩:=qE w2.heap.size
 have HB3:Hid (BoxAt W3 P 65 7 P [.int .i64 nk,.string ns,.bool nh,.string nt,.int .u64 nl,.int .u64 nu,.int .i64 nn]∧Below w2.heap.size w2 W3∧P=w2.heap.size):=by rw[hP];exact⟨by rw[hW3];exact boxAt_new w2 _ (Nat.le_refl _) rfl,hb3,rfl⟩
 have HF3:Hid (Fp base g b off n cap t d s2 k2 ks2 p2 (.slice a2 m2 c2) W3∧FpS base b off n cap t W3):=⟨HQ2.1.below hb3,HQ2.2.1.up (hb3.mono HQ2.2.1.sz)⟩
 go_upto_region 6 with fail
 rw[←hW3,←hP]
 clear hW3 hP hb3 cK
 have hS0:(fun w':World=>w'.cell? ⟨g,9,none⟩=some (.slice a2 m2 c2)∧w'.cell? ⟨P,0,none⟩=some (.int .i64 nk)∧w'.cell? ⟨P,1,none⟩=some (.string ns)∧w'.cell? ⟨P,2,none⟩=some (.bool nh)∧w'.cell? ⟨P,3,none⟩=some (.string nt)∧w'.cell? ⟨P,4,none⟩=some (.int .u64 nl)∧w'.cell? ⟨P,5,none⟩=some (.int .u64 nu)∧w'.cell? ⟨P,6,none⟩=some (.int .i64 nn)) W3.drew:=⟨HF3.1.fs.cell (j:=9) rfl,HB3.1.cell (j:=0) rfl,HB3.1.cell (j:=1) rfl,HB3.1.cell (j:=2) rfl,HB3.1.cell (j:=3) rfl,HB3.1.cell (j:=4) rfl,HB3.1.cell (j:=5) rfl,HB3.1.cell (j:=6) rfl⟩
 refine wp_region_T 10 (fun w':World=>w'.cell? ⟨g,9,none⟩=some (.slice a2 m2 c2)∧w'.cell? ⟨P,0,none⟩=some (.int .i64 nk)∧w'.cell? ⟨P,1,none⟩=some (.string ns)∧w'.cell? ⟨P,2,none⟩=some (.bool nh)∧w'.cell? ⟨P,3,none⟩=some (.string nt)∧w'.cell? ⟨P,4,none⟩=some (.int .u64 nl)∧w'.cell? ⟨P,5,none⟩=some (.int .u64 nu)∧w'.cell? ⟨P,6,none⟩=some (.int .i64 nn)) (by kernel_rfl) ?_
 refine qU 0 ?vp0 rfl ?yp0 hS0 ?_
 case yp0=>(intro wz hSw;obtain⟨hz0,hz1,hz2,hz3,hz4,hz5,hz6,hz7⟩:=hSw;go_simp;(try with_reducible rfl))
 try simp only[qA,List.getElem_toArray,List.getElem_cons_zero,List.getElem_cons_succ]
 refine qU 1 ?vp1 rfl ?yp1 hS0 ?_
 case yp1=>(intro wz hSw;obtain⟨hz0,hz1,hz2,hz3,hz4,hz5,hz6,hz7⟩:=hSw;go_simp;(try with_reducible rfl))
 try simp only[qA,List.getElem_toArray,List.getElem_cons_zero,List.getElem_cons_succ]
 refine qU 2 ?vp2 rfl ?yp2 hS0 ?_
 case yp2=>(intro wz hSw;obtain⟨hz0,hz1,hz2,hz3,hz4,hz5,hz6,hz7⟩:=hSw;go_simp;(try with_reducible rfl))
 try simp only[qA,List.getElem_toArray,List.getElem_cons_zero,List.getElem_cons_succ]
 refine qU 3 ?vp3 rfl ?yp3 hS0 ?_
 case yp3=>(intro wz hSw;obtain⟨hz0,hz1,hz2,hz3,hz4,hz5,hz6,hz7⟩:=hSw;go_simp;(try with_reducible rfl))
 try simp only[qA,List.getElem_toArray,List.getElem_cons_zero,List.getElem_cons_succ]
 refine qU 4 ?vp4 rfl ?yp4 hS0 ?_
 case yp4=>(intro wz hSw;obtain⟨hz0,hz1,hz2,hz3,hz4,hz5,hz6,hz7⟩:=hSw;go_simp;(try with_reducible rfl))
 try simp only[qA,List.getElem_toArray,List.getElem_cons_zero,List.getElem_cons_succ]
 refine qU 5 ?vp5 rfl ?yp5 hS0 ?_
 case yp5=>(intro wz hSw;obtain⟨hz0,hz1,hz2,hz3,hz4,hz5,hz6,hz7⟩:=hSw;go_simp;(try with_reducible rfl))
 try simp only[qA,List.getElem_toArray,List.getElem_cons_zero,List.getElem_cons_succ]
 obtain⟨V1,hV1⟩:=qE ((W3.alloc (Obj.cells #[.int .i64 nk,.string ns,.bool nh,.string nt,.int .u64 nl,.int .u64 nu,.int .i64 nn] 65)).drew:World)
 obtain⟨G1,hG1⟩:=qE W3.heap.size
 have hbV:Below W3.heap.size W3 V1:=by rw[hV1];exact(qB).drew
 have HV:Hid (NdsAt V1 G1 0 [(⟨nk,ns,nh,nt,nl,nu,nn⟩:Nd)]∧Fp base g b off n cap t d s2 k2 ks2 p2 (.slice a2 m2 c2) V1∧FpS base b off n cap t V1∧BoxAt V1 P 65 7 P [.int .i64 nk,.string ns,.bool nh,.string nt,.int .u64 nl,.int .u64 nu,.int .i64 nn]∧Below w2.heap.size w2 V1):=by
  refine⟨?_,HF3.1.below hbV,HF3.2.up (hbV.mono HF3.2.sz),HB3.1.below hbV,HB3.2.1.trans (hbV.mono HB3.2.1.size)⟩
  intro i e he
  cases i with
  |zero=>
   simp at he
   subst he
   rw[hV1,hG1]
   refine⟨?_,?_,?_,?_,?_,?_,?_⟩<;>simp
  |succ i=>simp at he
 have hS1:(fun w':World=>w'.cell? ⟨g,9,none⟩=some (.slice a2 m2 c2)∧w'.cell? ⟨P,0,none⟩=some (.int .i64 nk)∧w'.cell? ⟨P,1,none⟩=some (.string ns)∧w'.cell? ⟨P,2,none⟩=some (.bool nh)∧w'.cell? ⟨P,3,none⟩=some (.string nt)∧w'.cell? ⟨P,4,none⟩=some (.int .u64 nl)∧w'.cell? ⟨P,5,none⟩=some (.int .u64 nu)∧w'.cell? ⟨P,6,none⟩=some (.int .i64 nn)) V1:=⟨HV.2.1.fs.cell (j:=9) rfl,HV.2.2.2.1.cell (j:=0) rfl,HV.2.2.2.1.cell (j:=1) rfl,HV.2.2.2.1.cell (j:=2) rfl,HV.2.2.2.1.cell (j:=3) rfl,HV.2.2.2.1.cell (j:=4) rfl,HV.2.2.2.1.cell (j:=5) rfl,HV.2.2.2.1.cell (j:=6) rfl⟩
 clear hbV
 refine qO 6 rfl fun K hK=>?_
 go_simp
 rw[←hV1,←hG1]
 clear hV1 hG1
 refine hK.out _ _ (.inr hS1) ?_
 clear hK
 try simp only[qA,List.getElem_toArray,List.getElem_cons_zero,List.getElem_cons_succ]
 refine qO 7 rfl fun K hK=>?_
 refine step_append_ndV _ rfl _ _ rfl base (.slice a2 m2 c2) G1 0 1 1 s2.out (⟨nk,ns,nh,nt,nl,nu,nn⟩:Nd) rfl rfl rfl HV.2.1.nds HV.1 (by have:=HV.2.1.ol;omega) HV.2.2.1.sz ?_
 intro g6 c6 w6 hO6 hgr hat
 have H6:Hid (FsAt w6 base g b off n cap p2 (fpL k2 s2.made (20-d) (.slice a2 m2 c2))∧w6.ownsRow base 65 7 (.slice (some ⟨g6,0,none⟩) (s2.out.length+1) c6) (s2.out++ [(⟨nk,ns,nh,nt,nl,nu,nn⟩:Nd)]).length (cellsN (s2.out++ [(⟨nk,ns,nh,nt,nl,nu,nn⟩:Nd)]))∧Chg (fun q=>q=g∨nv.ownBlock=some q) w w6∧¬g6=g∧(nv.ownBlock=some g6∨w.heap.size≤g6)∧BoxAt w6 P 65 7 P [.int .i64 nk,.string ns,.bool nh,.string nt,.int .u64 nl,.int .u64 nu,.int .i64 nn]):=by
  have hc6:Chg (fun q=>(Value.slice a2 m2 c2).ownBlock=some q) V1 w6:=Chg.of_grown hgr (fun q hq=>hq)
  have hF5:=HV.2.1
  have hcw5:Chg (fun q=>q=g∨nv.ownBlock=some q) w V1:=Chg.comp HQ2.2.2.1 (Chg.of_below HV.2.2.2.2 (S:=fun _=>False)) (fun q _ z=>z.elim)
  refine⟨BoxAt.chg hF5.fs hc6 (fun z=>hF5.ap _ z rfl),hO6,Chg.comp hcw5 hc6 (fun q hq z=>?_),?_,?_,BoxAt.chg HV.2.2.2.1 hc6 (fun z=>?_)⟩
  ·rcases HQ2.2.2.2 q z with y|y
   ·exact .inr y
   ·omega
  ·rcases hat with z|z
   ·exact fun q=>hF5.ap _ z q
   ·have:=hF5.fs.lt.2;omega
  ·rcases hat with z|z
   ·exact HQ2.2.2.2 _ z
   ·right;have:=hcw5.size;omega
  ·have h1:=(HQ2.1.nlt _ z).2
   have h2:=HB3.2.2
   omega
 clear hO6 hgr hat
 have hS2:(fun w':World=>w'.cell? ⟨g,9,none⟩=some (.slice a2 m2 c2)∧w'.cell? ⟨P,0,none⟩=some (.int .i64 nk)∧w'.cell? ⟨P,1,none⟩=some (.string ns)∧w'.cell? ⟨P,2,none⟩=some (.bool nh)∧w'.cell? ⟨P,3,none⟩=some (.string nt)∧w'.cell? ⟨P,4,none⟩=some (.int .u64 nl)∧w'.cell? ⟨P,5,none⟩=some (.int .u64 nu)∧w'.cell? ⟨P,6,none⟩=some (.int .i64 nn)) w6:=⟨H6.1.cell (j:=9) rfl,H6.2.2.2.2.2.cell (j:=0) rfl,H6.2.2.2.2.2.cell (j:=1) rfl,H6.2.2.2.2.2.cell (j:=2) rfl,H6.2.2.2.2.2.cell (j:=3) rfl,H6.2.2.2.2.2.cell (j:=4) rfl,H6.2.2.2.2.2.cell (j:=5) rfl,H6.2.2.2.2.2.cell (j:=6) rfl⟩
 refine hK.out _ _ (.inr hS2) ?_
 clear hK
 try simp only[qA,List.getElem_toArray,List.getElem_cons_zero,List.getElem_cons_succ]
 refine qO 8 rfl fun K hK=>?_
 go_simp
 refine hK.out _ _ (.inr hS2) ?_
 clear hK
 try simp only[qA,List.getElem_toArray,List.getElem_cons_zero,List.getElem_cons_succ]
 refine qO 9 rfl fun K hK=>?_
 go_simp
 refine hK.out _ _ (.inr hS2) ?_
 clear hK
 try simp only[qA,List.getElem_toArray,List.getElem_cons_zero,List.getElem_cons_succ]
 have cN:=H6.1.cell (j:=9) rfl
 have fN:=H6.1.frozen 9
 refine qO 10 rfl fun K hK=>?_
 go_simp
 refine hK.out _ _ (.inl rfl) ?_
 clear hK
 try simp only[qA,List.getElem_toArray,List.getElem_cons_zero,List.getElem_cons_succ]
 refine qD ?_
 have HR:Hid (FpO base g b off n cap t d (PrimR F d s) (.tuple #[]) nv w (.returned (.tuple #[])) (w6.setCell ⟨g,9,none⟩ (.slice (some ⟨g6,0,none⟩) (s2.out.length+1) c6))):=by
  have hc9:Chg (fun q=>q=g) w6 (w6.setCell ⟨g,9,none⟩ (.slice (some ⟨g6,0,none⟩) (s2.out.length+1) c6)):=Chg.of_set _ _ _ _ rfl
  have h6:=H6.out
  have h4:=HQ2.1
  refine⟨Chg.comp h6.2.2.1 hc9 (fun q _ z=>.inl z),.inl ⟨s2.add (⟨nk,ns,nh,nt,nl,nu,nn⟩:Nd),HPr.out,rfl,k2,ks2,p2,.slice (some ⟨g6,0,none⟩) (s2.out.length+1) c6,⟨h4.eq,BoxAt.set h6.1 9 _,h4.pn,h4.lx,h4.nb,h4.tk,h4.md,h4.dd,own_chg h6.2.1 hc9 (fun q hq z=>?_),fun q hq=>?_,?_⟩,fun q hq=>?_⟩⟩
  ·simp[Value.ownBlock]at hq;exact h6.2.2.2.1 (hq.trans z)
  ·simp[Value.ownBlock]at hq;rw[←hq];exact h6.2.2.2.1
  ·have h1:=(mon_prim HFl.2 d s _ HPr.out).2
   have h2:=H0.2.1.ol
   omega
  ·simp[Value.ownBlock]at hq;rw[←hq];exact h6.2.2.2.2.1
 clear hS0 hS1 hS2 cN fN
 go_wp2_with fail
 go_end0
 exact HR.out
theorem fil_of (base g b off n cap:Nat) (t:List UInt8):∀d,OprC base g b off n cap t d 26 (FilR d)
 |0=>filter_of (chain_of (prim_of (F:=fun _ _=>False) (fun q=>absurd q (Nat.lt_irrefl 0)) (fun _ _ q=>q.elim)) (mon_prim (fun _ _ q=>q.elim) 0)) (mon_join (mon_prim (fun _ _ q=>q.elim) 0))
 |d+1=>filter_of (chain_of (prim_of (F:=FilR d) (fun _=>fil_of base g b off n cap t d) (mon_fil d)) (mon_prim (mon_fil d) (d+1))) (mon_join (mon_prim (mon_fil d) (d+1)))
def Ers {α β:Type} (A:α→PR β→Prop):Prop:=∀s e,A s (.error e)→1≤e.1
theorem ers_bind {α β γ:Type} {A:α→PR β→Prop} {B:β→PR γ→Prop} (hA:Ers A) (hB:Ers B):Ers (bindR A B):=by
 intro s e h
 rcases h with⟨e2,h1,q⟩|⟨s2,h1,h2⟩
 ·cases q;exact hA s e h1
 ·exact hB s2 e h2
theorem take_ers {ks:List Tk} {e:PE} (h:takeF ks=.error e):1≤e.1:=by
 unfold takeF at h
 split at h
 ·cases h;simp
 ·cases h
theorem exp_ers {b:UInt8} {ks:List Tk} {e:PE} (h:expectF b ks=.error e):1≤e.1:=by
 unfold expectF at h
 split at h
 ·exact take_ers h
 ·cases h;simp
theorem to_ers {s:Ps} {r:PR (List Tk)} {e:PE} (h:s.to r=.error e):r=.error e:=by
 cases r with
 |error q=>cases h;rfl
 |ok q=>cases h
theorem ers_expect (b:UInt8):Ers (fnR fun s:Ps=>s.to (expectF b s.ks)):=fun s e h=>exp_ers (to_ers (Eq.symm h))
theorem ers_maker:Ers (fnR makerF):=by
 intro s e h
 have h':Except.error e=makerF s:=h
 unfold makerF at h'
 split at h'
 ·exact take_ers (to_ers h'.symm)
 ·cases h';simp
theorem ers_enter (d:Nat):Ers (fnR (enterF d)):=by
 intro s e h
 have h':Except.error e=enterF d s:=h
 unfold enterF at h'
 split at h'
 ·split at h'
  ·cases h';simp
  ·exact take_ers (to_ers h'.symm)
 ·cases h';simp
theorem up_ers {k:Int} {st:Bool} {a:TkK} {ks:List Tk} {e:PE} (h:upF k st a ks=.error e):1≤e.1:=by
 unfold upF at h
 split at h
 ·split at h
  ·cases hq:takeF ks with
   |error q=>rw[hq]at h;cases h;exact take_ers hq
   |ok k2=>rw[hq]at h;cases h
  ·cases h;simp
 ·cases h
theorem dots_ers {k:Int} {st:Bool} {a:TkK} {ks:List Tk} {e:PE} (h:dotsF k st a ks=.error e):1≤e.1:=by
 unfold dotsF at h
 cases hq:expectF 46 ks with
 |error q=>rw[hq]at h;cases h;exact exp_ers hq
 |ok k2=>rw[hq]at h;exact up_ers h
theorem range_ers {k:Int} {st:Bool} {ks:List Tk} {e:PE} (h:rangeF k st ks=.error e):1≤e.1:=by
 unfold rangeF at h
 split at h
 ·cases hq:takeF ks with
  |error q=>rw[hq]at h;cases h;exact take_ers hq
  |ok k2=>rw[hq]at h;exact dots_ers h
 ·exact dots_ers h
theorem args_ers {k:Int} {ks:List Tk} {e:PE} (h:argsF k ks=.error e):1≤e.1:=by
 unfold argsF at h
 split at h
 ·cases h
 split at h
 ·split at h
  ·split at h
   ·cases hq:takeF ks with
    |error q=>rw[hq]at h;cases h;exact take_ers hq
    |ok k2=>rw[hq]at h;cases h
   ·cases h;simp
  ·cases h;simp
 split at h
 ·exact range_ers h
 split at h
 ·exact range_ers h
 split at h
 ·split at h
  ·cases hq:takeF ks with
   |error q=>rw[hq]at h;cases h;exact take_ers hq
   |ok k2=>rw[hq]at h;cases h
  ·cases h;simp
 ·cases h;simp
theorem ers_arg (k:Int):Ers (fnR (argF k)):=by
 intro s e h
 have h':Except.error e=argF k s:=h
 unfold argF at h'
 cases hq:argsF k s.ks with
 |error q=>rw[hq]at h';cases h';exact args_ers hq
 |ok q=>obtain⟨ks,nd⟩:=q;rw[hq]at h';cases h'
theorem ers_loop {sg:UInt8} {kd:Int} {R:Ps→PR Ps→Prop} (hR:Ers R) {s:Ps} {r:PR Ps} (h:LoopR sg kd R s r):∀e,r=.error e→1≤e.1:=by
 induction h with
 |stop _=>intro e q;cases q
 |e1 _ h1=>intro e q;cases q;exact ers_maker _ _ (Eq.symm h1)
 |e2 _ _ h2=>intro e q;cases q;exact hR _ _ h2
 |more _ _ _ _ ih=>exact ih
theorem ers_join {sg:UInt8} {kd:Int} {R:Ps→PR Ps→Prop} (hR:Ers R):Ers (JoinR sg kd R):=ers_bind hR (fun s e h=>ers_loop hR h e rfl)
theorem ers_bran {F:Ps→PR Ps→Prop} (hF:Ers F) (d:Nat):Ers (BranR F d):=ers_bind (ers_enter d) (ers_bind hF (ers_bind (ers_expect 44) (ers_bind hF (ers_bind (ers_expect 44) (ers_bind hF (ers_expect 41))))))
theorem ers_prim {F:Ps→PR Ps→Prop} (hF:Ers F) (d:Nat):Ers (PrimR F d):=by
 intro s e h
 rcases h with⟨_,h⟩|⟨hw,h⟩|⟨k,hw,_,h⟩|⟨_,_,q⟩
 ·exact ers_bind (ers_enter d) (ers_bind hF (ers_expect 41)) s e h
 ·exact ers_bind ers_maker (ers_bind (ers_bran hF d) (fun s e h=>by cases h)) s e h
 ·exact ers_bind ers_maker (ers_arg k) s e h
 ·cases q;simp
theorem ers_fil:∀d,Ers (FilR d)
 |0=>ers_join (ers_join (ers_prim (fun _ _ q=>q.elim) 0))
 |d+1=>ers_join (ers_join (ers_prim (ers_fil d) (d+1)))
def PfR (base:Nat) (t:List UInt8) (v:Value) (w':World):Prop:=∃(c a:Int) (nv:Value),v=.agg #[.int .i64 c,.int .i64 a,nv]∧
 ((4000<t.length∧c=1∧a=0∧nv=.slice none 0 0)∨
  (t.length≤4000∧∃ks,LexR t 0 ks∧((∃s1:Ps,ParR ks (.ok s1)∧c=0∧a=0∧w'.ownsRow base 65 7 nv s1.out.length (cellsN s1.out)∧s1.out.length≤200000)∨(∃p:Nat,ParR ks (.error (c,p))∧a=(p:Int)∧1≤c∧nv=.slice none 0 0))))
def PfP (t:List UInt8) (w:World) (e:Ending) (w':World):Prop:=∃v,e=.returned v∧Below w.heap.size w w'∧PfR w.heap.size t v w'
set_option maxHeartbeats 4000000 in
theorem pf_catch (base rb:Nat) (c a:Int) (older:List PanicEntry) (w:World) (hc:¬c=0) (hr:BoxAt w base 27 3 rb [.int .i64 0,.int .i64 0,.slice none 0 0]):
  CallsD Tryz.prog 23 #[.pointer (some ⟨rb,0,none⟩)] (.panicking ({v:=pfV c a,recovered:=false}::older)) w fun e u' w'=>
   e=.returned (.tuple #[])∧u'=.panicking ({v:=pfV c a,recovered:=true}::older)∧BoxAt w' base 27 3 rb [.int .i64 c,.int .i64 a,.slice none 0 0]∧Chg (fun k=>k=rb) w w':=by
 refine callsD_of_wpS Tryz.func23 rfl fun c₀ cs hu=>?_
 apply wpS_seq
 apply wpS_region
 simp[wpOpsS,go_sem,recoverD,hu,Tryz.ntmps23,Exit.thenS]
 refine(pfOf_pf c a w).mono ?_
 rintro e w1 ⟨rfl,hb1⟩
 simp[wpOpsS,go_sem]
 have ht:#[Value.pointer (some ⟨rb,0,none⟩)]++(((Array.replicate 11 undef).setIfInBounds 1 (pfV c a)).setIfInBounds 2 (Value.agg #[Value.int IntKind.i64 c,Value.int IntKind.i64 a])).setIfInBounds 0 (Value.pointer (some ⟨w1.heap.size,0,none⟩))=#[.pointer (some ⟨rb,0,none⟩),.pointer (some ⟨w1.heap.size,0,none⟩),pfV c a,.agg #[.int .i64 c,.int .i64 a],undef,undef,undef,undef,undef,undef,undef,undef]:=by rfl
 rw[ht]
 clear ht
 obtain⟨W2,hW2⟩:=qE (w1.alloc (Obj.cells #[.int .i64 c,.int .i64 a] 46):World)
 have hb2:Below w1.heap.size w1 W2:=by rw[hW2];exact qB
 have HB:Hid (BoxAt W2 base 27 3 rb [.int .i64 0,.int .i64 0,.slice none 0 0]∧Chg (fun k=>k=rb) w W2):=
  ⟨(hr.below hb1).below hb2,(Chg.of_below hb1).trans (Chg.of_below hb2)⟩
 have d0:W2.cell? ⟨w1.heap.size,0,none⟩=some (.int .i64 c):=by rw[hW2];simp
 have d1:W2.cell? ⟨w1.heap.size,1,none⟩=some (.int .i64 a):=by rw[hW2];simp
 have hrl:=(hr.below hb1).lt.2
 obtain⟨FB,hFB⟩:=qE w1.heap.size
 rw[←hW2]
 rw[←hFB]at d0 d1⊢
 have n1:¬FB=rb:=by omega
 clear hW2 hFB hb1 hb2 hr hrl
 obtain⟨e0,e1,e2⟩:=HB.1.c3
 have f0:=HB.1.frozen 0
 have f1:=HB.1.frozen 1
 have f2:=HB.1.frozen 2
 obtain⟨W3,hW3⟩:∃V:World,V=((W2.setCell ⟨rb,0,none⟩ (.int .i64 c)).setCell ⟨rb,1,none⟩ (.int .i64 a)).setCell ⟨rb,2,none⟩ (.slice none 0 0):=⟨_,rfl⟩
 have HW3:Hid (BoxAt W3 base 27 3 rb [.int .i64 c,.int .i64 a,.slice none 0 0]∧Chg (fun k=>k=rb) w W3):=by
  rw[hW3]
  exact⟨((HB.1.set 0 (.int .i64 c)).set 1 (.int .i64 a)).set 2 (.slice none 0 0),((HB.2.trans (Chg.of_set _ rb 0 _ rfl)).trans (Chg.of_set _ rb 1 _ rfl)).trans (Chg.of_set _ rb 2 _ rfl)⟩
 refine wpS_of_wp ?_
 go_wp2_with fail
 rw[←hW3]
 exact⟨rfl,_,rfl,_,by simp[results,Tryz.results23],rfl,rfl,HW3.1,HW3.2⟩
set_option maxHeartbeats 4000000 in
theorem pf_idle (rb:Nat) (w:World):
  CallsD Tryz.prog 23 #[.pointer (some ⟨rb,0,none⟩)] .returning w fun e u' w'=>e=.returned (.tuple #[])∧u'=.returning∧Below w.heap.size w w':=by
 refine callsD_of_wpS Tryz.func23 rfl fun c₀ cs hu=>?_
 apply wpS_seq
 apply wpS_region
 simp[wpOpsS,go_sem,recoverD,hu,Tryz.ntmps23,Exit.thenS]
 refine(pfOf_nil w).mono ?_
 rintro e w1 ⟨rfl,hb1⟩
 simp[wpOpsS,go_sem]
 have ht:#[Value.pointer (some ⟨rb,0,none⟩)]++(((Array.replicate 11 undef).setIfInBounds 1 .nilIface).setIfInBounds 2 (Value.agg #[Value.int IntKind.i64 0,Value.int IntKind.i64 0])).setIfInBounds 0 (Value.pointer (some ⟨w1.heap.size,0,none⟩))=#[.pointer (some ⟨rb,0,none⟩),.pointer (some ⟨w1.heap.size,0,none⟩),.nilIface,.agg #[.int .i64 0,.int .i64 0],undef,undef,undef,undef,undef,undef,undef,undef]:=by rfl
 rw[ht]
 clear ht
 have HB:Hid (Below w.heap.size w (w1.alloc (Obj.cells #[.int .i64 0,.int .i64 0] 46))):=hb1.trans ((Below.refl _ _).alloc hb1.size _)
 clear hb1
 refine wpS_of_wp ?_
 go_wp2_with fail
 refine⟨rfl,.returning,?_,_,by simp[results,Tryz.results23],rfl,rfl,HB.out⟩
 cases c₀
 simp_all
theorem pf_res {base rb:Nat} {w:World} {a:Act} {x y:Value} {sa:Option Addr} {sn sc:Nat} (ht:a.tmps.getD 2 undef=.pointer (some ⟨rb,0,none⟩)) (hr:BoxAt w base 27 3 rb [x,y,.slice sa sn sc]):
  (results Tryz.f8 a.tmps).run Tryz.prog w=.ok (.agg #[x,y,.slice sa sn sc]) w:=by
 obtain⟨p0,p1,p2⟩:=hr.c3
 have h1:a.tmps[2]?.getD undef=.pointer (some ⟨rb,0,none⟩):=by rw[←Array.getD_eq_getD_getElem?];exact ht
 simp[results,Tryz.results8,go_sem,h1,p0,p1,p2]
theorem pf_dies (t:List UInt8) (w wq:World) (a:Act) (c:Int) (k rb:Nat) {ks:List Tk} (hrb:w.heap.size≤rb) (hd:a.defers= [{target:=Target.fn (Fn.func 23) #[.pointer (some ⟨rb,0,none⟩)],args:=#[]}])
  (ht:a.tmps.getD 2 undef=.pointer (some ⟨rb,0,none⟩)) (hl:t.length≤4000) (hL:LexR t 0 ks) (hP:ParR ks (.error (c,k))) (hc:1≤c) (hr:BoxAt wq w.heap.size 27 3 rb [.int .i64 0,.int .i64 0,.slice none 0 0]) (hB:Below w.heap.size w wq):
  bodyPostD Tryz.prog Tryz.f8 (fun e w'=>PfP t w e w') (.panic [{v:=pfV c k,recovered:=false}]) a wq:=by
 show Leaves Tryz.prog Tryz.f8 a.tmps (fun e w'=>PfP t w e w') a.defers (.panicking [{v:=pfV c k,recovered:=false}]) wq
 rw[hd]
 refine leaves_cons (f:=23) (args:=#[.pointer (some ⟨rb,0,none⟩)]) (by simp) (by simp[go_sem]) ?_
 refine(pf_catch w.heap.size rb c k [] wq (by omega) hr).mono ?_
 rintro e u' w'' ⟨rfl,rfl,hr2,hC⟩
 show Leaves Tryz.prog Tryz.f8 a.tmps (fun e w'=>PfP t w e w') [] (settle (.panicking [{v:=pfV c k,recovered:=true}])) _
 exact⟨_,pf_res ht hr2,_,rfl,Chg.below hB hC hB.size (fun j q=>by omega),c,k,.slice none 0 0,rfl,.inr ⟨hl,ks,hL,.inr ⟨k,hP,rfl,hc,rfl⟩⟩⟩
theorem pf_done (t:List UInt8) (w wq:World) (a:Act) (rb:Nat) {ks:List Tk} {s1:Ps} {sa:Option Addr} {sn sc:Nat} (hd:a.defers= [{target:=Target.fn (Fn.func 23) #[.pointer (some ⟨rb,0,none⟩)],args:=#[]}])
  (ht:a.tmps.getD 2 undef=.pointer (some ⟨rb,0,none⟩)) (hl:t.length≤4000) (hL:LexR t 0 ks) (hP:ParR ks (.ok s1)) (hO:wq.ownsRow w.heap.size 65 7 (.slice sa sn sc) s1.out.length (cellsN s1.out)) (h2:s1.out.length≤200000) (hr:BoxAt wq w.heap.size 27 3 rb [.int .i64 0,.int .i64 0,.slice sa sn sc]) (hB:Below w.heap.size w wq):
  bodyPostD Tryz.prog Tryz.f8 (fun e w'=>PfP t w e w') .ret a wq:=by
 show Leaves Tryz.prog Tryz.f8 a.tmps (fun e w'=>PfP t w e w') a.defers .returning wq
 rw[hd]
 refine leaves_cons (f:=23) (args:=#[.pointer (some ⟨rb,0,none⟩)]) (by simp) (by simp[go_sem]) ?_
 refine(pf_idle rb wq).mono ?_
 rintro e u' w'' ⟨rfl,rfl,hb⟩
 show Leaves Tryz.prog Tryz.f8 a.tmps (fun e w'=>PfP t w e w') [] (settle .returning) w''
 exact⟨_,pf_res ht (hr.below hb),_,rfl,hB.trans (hb.mono hB.size),0,0,_,rfl,.inr ⟨hl,ks,hL,.inl ⟨s1,hP,rfl,rfl,own_chg (S:=fun _=>False) hO (Chg.of_below hb) (fun _ _ q=>q),h2⟩⟩⟩
set_option maxHeartbeats 8000000 in
theorem implParse_core {b off n cap:Nat} {t:List UInt8} {w:World} (hT:BysAt w b off t) (hb:b<w.heap.size) (hn:n=t.length) (hl:n≤2^40) (hc:n≤cap) (hcm:cap≤maxLen) (hG:7≤w.heap.size) (hW:WdsAt w) (hE:ErrAt w):
  Calls Tryz.prog 8 #[.slice (some ⟨b,off,none⟩) n cap] w (fun e w'=>PfP t w e w'):=by
 have hmf:∀(fn:Fn) (first cap:Array Value) (w:World),(Instr.makeFunc fn first cap).run Tryz.prog w=.ok (.func fn first cap) w:=fun _ _ _ _=>rfl
 have HN:Hid (n=t.length):=hn
 obtain⟨W0,hW0⟩:=qE (w.alloc (Obj.cells #[.int .i64 0,.int .i64 0,.slice none 0 0] 27):World)
 have b0:Below w.heap.size w W0:=by rw[hW0];exact qB
 have HB0:Hid (BoxAt W0 w.heap.size 27 3 w.heap.size [.int .i64 0,.int .i64 0,.slice none 0 0]∧Below w.heap.size w W0∧W0.heap.size=w.heap.size+1):=⟨by rw[hW0];exact boxAt_new w _ (Nat.le_refl _) rfl,b0,by rw[hW0];simp⟩
 by_cases hlong:4000<n
 ·have z:¬(n:Int)≤4000:=by omega
  have z2:(4000:Int)<(n:Int):=by omega
  go_enter_defers Tryz.func8,Tryz.ntmps8
  go_upto_region 1 with fail
  rw[←hW0]
  clear hW0
  obtain⟨e0,e1,e2⟩:=HB0.1.c3
  have f0:=HB0.1.frozen 0
  have f1:=HB0.1.frozen 1
  have f2:=HB0.1.frozen 2
  obtain⟨W3,hW3⟩:∃V:World,V=((W0.setCell ⟨w.heap.size,0,none⟩ (.int .i64 1)).setCell ⟨w.heap.size,1,none⟩ (.int .i64 0)).setCell ⟨w.heap.size,2,none⟩ (.slice none 0 0):=⟨_,rfl⟩
  have HW3:Hid (BoxAt W3 w.heap.size 27 3 w.heap.size [.int .i64 1,.int .i64 0,.slice none 0 0]∧Below w.heap.size w W3):=by
   rw[hW3]
   exact⟨((HB0.1.set 0 (.int .i64 1)).set 1 (.int .i64 0)).set 2 (.slice none 0 0),below_set (below_set (below_set HB0.2.1 (Nat.le_refl _) 0 _) (Nat.le_refl _) 1 _) (Nat.le_refl _) 2 _⟩
  go_wp2_with fail
  rw[←hW3]
  show Leaves Tryz.prog Tryz.f8 _ (fun e w'=>PfP t w e w') [] .returning W3
  exact⟨_,pf_res (a:={tmps:=_,defers:= []}) rfl HW3.1,_,rfl,HW3.2,1,0,_,rfl,.inl ⟨by rw[←HN.out];exact hlong,rfl,rfl,rfl⟩⟩
 have hn4:n≤4000:=by omega
 have z:(n:Int)≤4000:=by omega
 obtain⟨ks,hL⟩:=lexR_ex t.length t 0 (Nat.le_refl _)
 obtain⟨W1,hW1⟩:∃V:World,V=W0.alloc (Obj.cells #[.slice (some ⟨b,off,none⟩) n cap,.int .i64 0,.int .u8 0,.int .i64 0,.int .i64 0,.int .u64 0,.string ⟨#[]⟩,.int .i64 0,.int .i64 0,.slice none 0 0] 54):=⟨_,rfl⟩
 have b1:Below W0.heap.size W0 W1:=by rw[hW1];exact qB
 have bw1:Below w.heap.size w W1:=b0.trans (b1.mono b0.size)
 have hz0:=HB0.2.2
 have hS0:FpS w.heap.size b off n cap t w:=⟨hT,hb,hG,Nat.le_refl _,hW,hE,hn,by omega,hc,hcm⟩
 have H1:Hid (BoxAt W1 w.heap.size 27 3 w.heap.size [.int .i64 0,.int .i64 0,.slice none 0 0]∧FpS w.heap.size b off n cap t W1∧FsAt W1 w.heap.size (w.heap.size+1) b off n cap 0 (fpL ⟨.fin,0⟩ 0 0 (.slice none 0 0))∧Below w.heap.size w W1∧W1.heap.size=w.heap.size+2∧LexR t 0 ks∧t.length≤4000):=
  ⟨HB0.1.below b1,hS0.up bw1,by rw[hW1,←hz0];exact boxAt_new W0 #[.slice (some ⟨b,off,none⟩) n cap,.int .i64 0,.int .u8 0,.int .i64 0,.int .i64 0,.int .u64 0,.string ⟨#[]⟩,.int .i64 0,.int .i64 0,.slice none 0 0] (by omega) rfl,bw1,by rw[hW1];simp;omega,hL,by omega⟩
 have HNx:Hid (Calls Tryz.prog 25 #[.pointer (some ⟨w.heap.size+1,0,none⟩)] W1 (NxtP w.heap.size (w.heap.size+1) b off n cap (fpL ⟨.fin,0⟩ 0 0 (.slice none 0 0)) t ks W1)):=by
  have h8:=H1.2.1
  exact next_core (i:=0) H1.2.2.1 h8.bys (by have:=h8.bl;have:=H1.2.2.2.2.1;omega) h8.nt h8.nl h8.nc h8.cm (Nat.zero_le _) ⟨by have:=H1.2.2.2.2.1;omega,by omega,by have:=h8.lo;omega,by have:=h8.lo;have:=h8.sz;omega⟩ h8.wds h8.err hL
 clear hT hb hG hW hE hn hl hc hcm b0 b1 bw1 hS0 hL HB0
 go_enter_defers Tryz.func8,Tryz.ntmps8
 go_upto_region 1 with fail
 rw[←hW0]
 clear hW0
 go_upto_region 5 with fail
 rw[←hW1]
 clear hW1 hz0
 go_wp2_with fail
 refine HNx.mono ?_
 clear HNx
 rintro e w2 ⟨Hc2,(⟨hbd,rfl⟩|⟨hbd,k,ks2,hk,rfl,p2,hfs,hp2,hlx⟩)⟩
 ·exact pf_dies t w w2 _ 2 (hdA ks) w.heap.size (Nat.le_refl _) rfl rfl H1.2.2.2.2.2.2 H1.2.2.2.2.2.1 (.inl ⟨hbd,rfl⟩) (by decide) (H1.1.chg Hc2.out (by omega)) (Chg.below H1.2.2.2.1 Hc2.out H1.2.2.2.1.size (fun j q=>by omega))
 have i0:=hfs.cell (j:=2) rfl
 have i1:=hfs.cell (j:=3) rfl
 have i2:=hfs.cell (j:=4) rfl
 have i3:=hfs.cell (j:=5) rfl
 have i4:=hfs.cell (j:=6) rfl
 have z0:=hfs.frozen 2
 have z1:=hfs.frozen 3
 have z2:=hfs.frozen 4
 have z3:=hfs.frozen 5
 have z4:=hfs.frozen 6
 obtain⟨W3,hW3⟩:∃V:World,V=setQ w2 (w.heap.size+1) (.int .u8 ((ftB k.k).toNat:Int)) (.int .i64 (k.pos:Int)) (.int .i64 k.k.wd) (.int .u64 k.k.nm) (.string k.k.txt):=⟨_,rfl⟩
 have hc3:Chg (fun q=>q=w.heap.size+1) w2 W3:=by rw[hW3];exact chg_setQ _ _ _ _ _ _ _
 have hc13:Chg (fun q=>q=w.heap.size+1) W1 W3:=Hc2.trans hc3
 have H3:Hid (BoxAt W3 w.heap.size 27 3 w.heap.size [.int .i64 0,.int .i64 0,.slice none 0 0]∧FpS w.heap.size b off n cap t W3∧Fp w.heap.size (w.heap.size+1) b off n cap t 20 ⟨ks,0,[]⟩ k ks2 p2 (.slice none 0 0) W3∧Below w.heap.size w W3∧(hdK ks).isBad=false∧LexR t 0 ks∧t.length≤4000):=by
  have hks:=H1.2.2.2.2.2.1
  refine⟨H1.1.chg hc13 (by omega),H1.2.1.chg hc13 (fun q z=>by omega),⟨hk,by rw[hW3];exact FsAt.setQ hfs,hp2,hlx,by rw[hk]at hbd;exact hbd,by have:=hks.toks;rw[hk]at this;exact this,by simp,by decide,⟨rfl,.inl ⟨rfl,rfl⟩⟩,(fun q hq=>by cases hq),by have:=hks.len.1;have:=H1.2.2.2.2.2.2;simp;omega⟩,Chg.below H1.2.2.2.1 hc13 H1.2.2.2.1.size (fun j q=>by omega),hbd,hks,H1.2.2.2.2.2.2⟩
 clear hbd hk hfs hp2 hlx hc3 hc13 H1 Hc2
 unfold setQ at hW3
 go_upto_region 6 with fail
 rw[←hW3]
 clear hW3 i0 i1 i2 i3 i4 z0 z1 z2 z3 z4
 have HFi:Hid (Calls Tryz.prog 26 #[.pointer (some ⟨w.heap.size+1,0,none⟩)] W3 (FpO w.heap.size (w.heap.size+1) b off n cap t 20 (FilR 20 ⟨ks,0,[]⟩) (.tuple #[]) (.slice none 0 0) W3)):=fil_of w.heap.size (w.heap.size+1) b off n cap t 20 W3 ⟨ks,0,[]⟩ k ks2 p2 (.slice none 0 0) H3.2.1 H3.2.2.1
 go_wp2_with fail
 refine HFi.mono ?_
 clear HFi
 rintro e w4 ⟨Hc4,(⟨s4,hs4,rfl,k4,ks4,p4,nv4,hF4,hn4'⟩|⟨c,a,hs4,rfl⟩)⟩
 case inr=>
  have hn1:¬(w.heap.size=w.heap.size+1∨(Value.slice none 0 0).ownBlock=some w.heap.size):=fun z=>by
   rcases z with q|q
   ·omega
   ·cases q
  have hn2:∀j,(j=w.heap.size+1∨(Value.slice none 0 0).ownBlock=some j)→w.heap.size≤j:=fun j z=>by
   rcases z with q|q
   ·omega
   ·cases q
  exact pf_dies t w w4 _ c a w.heap.size (Nat.le_refl _) rfl rfl H3.2.2.2.2.2.2 H3.2.2.2.2.2.1 (.inr ⟨H3.2.2.2.2.1,.inl ⟨_,hs4,rfl⟩⟩) (ers_fil 20 _ _ hs4) (H3.1.chg Hc4.out hn1) (Chg.below H3.2.2.2.1 Hc4.out H3.2.2.2.1.size hn2)
 obtain⟨a4,m4,c4,rfl⟩:=hF4.form
 have H4:Hid (BoxAt w4 w.heap.size 27 3 w.heap.size [.int .i64 0,.int .i64 0,.slice none 0 0]∧Fp w.heap.size (w.heap.size+1) b off n cap t 20 s4 k4 ks4 p4 (.slice a4 m4 c4) w4∧Below w.heap.size w w4∧(FilR 20 ⟨ks,0,[]⟩ (.ok s4))∧(∀q,(Value.slice a4 m4 c4).ownBlock=some q→¬q=w.heap.size)):=by
  have hsz:=H3.2.2.1.fs.lt.2
  have hn1:¬(w.heap.size=w.heap.size+1∨(Value.slice none 0 0).ownBlock=some w.heap.size):=fun z=>by
   rcases z with q|q
   ·omega
   ·cases q
  have hn2:∀j,(j=w.heap.size+1∨(Value.slice none 0 0).ownBlock=some j)→w.heap.size≤j:=fun j z=>by
   rcases z with q|q
   ·omega
   ·cases q
  refine⟨H3.1.chg Hc4.out hn1,hF4,Chg.below H3.2.2.2.1 Hc4.out H3.2.2.2.1.size hn2,hs4,fun q hq=>?_⟩
  rcases hn4' q hq with y|y
  ·cases y
  ·omega
 clear hs4 hF4 hn4' Hc4
 have cK:=H4.2.1.fs.cell (j:=2) rfl
 have cN:=H4.2.1.fs.cell (j:=9) rfl
 have hkn:=H4.2.1.kinds
 cases hfin:k4.k.isFin
 case false=>
  have zk:(((ftB k4.k).toNat:Int)==0)=false:=by
   cases hq:k4.k with
   |fin=>rw[hq]at hfin;cases hfin
   |sign c=>
    rw[hq]at hkn
    rcases hkn with q|q
    ·rcases q with rfl|rfl|rfl|rfl|rfl|rfl<;>rfl
    ·cases q
   |num _=>rfl
   |str _=>rfl
   |word _=>rfl
   |bad=>rw[hq]at hkn;rcases hkn with q|q<;>cases q
  have HE2:Hid (ParR ks (.error (3,k4.pos))):=.inr ⟨H3.2.2.2.2.1,.inr ⟨s4,H4.2.2.2.1,by
   show _=endF s4
   unfold endF
   rw[H4.2.1.eq]
   rw[if_neg (by show¬k4.k.isFin=true;rw[hfin];simp)]
   rfl⟩⟩
  obtain⟨kb,hkb⟩:=qE (((ftB k4.k).toNat:Int):Int)
  rw[←hkb]at zk cK
  clear hfin hkn hkb
  go_wp2_with fail
  refine(fdem_no H4.2.1 3).mono ?_
  rintro e w5 ⟨rfl,hw5⟩
  rw[hw5]
  exact pf_dies t w w4 _ 3 k4.pos w.heap.size (Nat.le_refl _) rfl rfl H3.2.2.2.2.2.2 H3.2.2.2.2.2.1 HE2.out (by decide) H4.1 H4.2.2.1
 have HOk:Hid (ParR ks (.ok s4)):=.inr ⟨H3.2.2.2.2.1,.inr ⟨s4,H4.2.2.2.1,by
   show _=endF s4
   unfold endF
   rw[H4.2.1.eq]
   rw[if_pos (by exact hfin)]⟩⟩
 rw[show ftB k4.k=0 from by
  cases hq:k4.k with
  |fin=>rfl
  |bad=>rfl
  |sign c=>rw[hq]at hfin;cases hfin
  |num _=>rw[hq]at hfin;cases hfin
  |str _=>rw[hq]at hfin;cases hfin
  |word _=>rw[hq]at hfin;cases hfin]at cK
 clear hfin hkn
 go_wp2_with fail
 refine(fdem_yes _ 3 w4).mono ?_
 rintro e w5 ⟨rfl,hw5⟩
 rw[hw5]
 clear hw5
 obtain⟨e0,e1,e2⟩:=H4.1.c3
 have f0:=H4.1.frozen 0
 have f1:=H4.1.frozen 1
 have f2:=H4.1.frozen 2
 obtain⟨W6,hW6⟩:∃V:World,V=((w4.setCell ⟨w.heap.size,0,none⟩ (.int .i64 0)).setCell ⟨w.heap.size,1,none⟩ (.int .i64 0)).setCell ⟨w.heap.size,2,none⟩ (.slice a4 m4 c4):=⟨_,rfl⟩
 have HW6:Hid (BoxAt W6 w.heap.size 27 3 w.heap.size [.int .i64 0,.int .i64 0,.slice a4 m4 c4]∧Below w.heap.size w W6∧W6.ownsRow w.heap.size 65 7 (.slice a4 m4 c4) s4.out.length (cellsN s4.out)∧s4.out.length≤200000):=by
  have hc:Chg (fun q=>q=w.heap.size) w4 W6:=by rw[hW6];exact((Chg.of_set (S:=fun q=>q=w.heap.size) _ w.heap.size 0 _ rfl).trans (Chg.of_set (S:=fun q=>q=w.heap.size) _ w.heap.size 1 _ rfl)).trans (Chg.of_set (S:=fun q=>q=w.heap.size) _ w.heap.size 2 _ rfl)
  refine⟨by rw[hW6];exact((H4.1.set 0 (.int .i64 0)).set 1 (.int .i64 0)).set 2 (.slice a4 m4 c4),by rw[hW6];exact below_set (below_set (below_set H4.2.2.1 (Nat.le_refl _) 0 _) (Nat.le_refl _) 1 _) (Nat.le_refl _) 2 _,own_chg H4.2.1.nds hc (fun q hq=>H4.2.2.2.2 q hq),by have:=H4.2.1.ol;omega⟩
 clear cK
 go_wp2_with fail
 rw[←hW6]
 exact pf_done t w W6 _ w.heap.size rfl rfl H3.2.2.2.2.2.2 H3.2.2.2.2.2.1 HOk.out HW6.2.2.1 HW6.2.2.2 HW6.1 HW6.2.1
end Go.Proofs.YtgnpcenpcmdlfaaGreatDoor
namespace Go.Proofs.YtgnpcenpcmdlfaaGreatDoor
open Go.ChangeShapes Go.WideShapes Go.ChangeAt Go.RowKit Go.Deep
set_option linter.unusedVariables false
theorem markText_in (W0:World) (a:Int) (w:World) (hb:Below W0.heap.size W0 w) (h0:0<a) (h1:a≤2^40):
  Calls Tryz.prog 98 #[.int .i64 a] w fun e w'=>e=.returned (.string (mText a.toNat))∧Below W0.heap.size W0 w':=by
 refine(markText_any a w h0 h1).mono ?_
 rintro e w' ⟨he,hb'⟩
 exact⟨he,hb.trans (hb'.mono hb.size)⟩
end Go.Proofs.YtgnpcenpcmdlfaaGreatDoor
namespace Go.Proofs.YtgnpcenpcmdlfaaGreatDoor
open Go.ChangeShapes Go.WideShapes Go.ChangeAt Go.RowKit Go.Deep
set_option linter.unusedVariables false
set_option linter.unusedSimpArgs false
set_option maxRecDepth 100000
def thirdB (k:Int):Bool:=k%3==0
def mNd (k:Int):Nd:=⟨k,mText (k+1).toNat,thirdB (k+1+1),mText (k+1+1+1).toNat,k+1+1+1+1,k+1+1+1+1+1,k+1+1+1+1+1+1⟩
def markedN (k:Int) (es:List Nd) (i:Nat):Prop:=∀j:Nat,j<i→es[j]?=some (mNd (k+j*7))
theorem OwnNd.upd {w:World} {base g cap m j:Nat} {fs:List Nd} {f f':Nd} {u:Value} (h:OwnNd w base g cap (fs.set m f)) (hm:m<fs.length) (hj:j<7) (hc:f'.seven=f.seven.set j u):
  OwnNd (w.setCell ⟨g,m*7+j,none⟩ u) base g cap (fs.set m f'):=by
 have:=h.set m j f f' u (by simp[hm]) hj hc
 rwa [List.set_set]at this
theorem markedN_set {k:Int} {fs:List Nd} {m:Nat} (h:markedN k fs m) (hm:m<fs.length):markedN k (fs.set m (mNd (k+m*7))) (m+1):=by
 intro j hj
 by_cases e:j=m
 ·subst e;simp[hm]
 ·rw[List.getElem?_set_ne (by omega)];exact h j (by omega)
set_option maxHeartbeats 2000000 in
theorem markNodeS_core (base g cap:Nat) (es:List Nd) (k:Int) (w:World) (hO:OwnNd w base g cap es) (h0:0<k) (h1:k≤2^30) (hn:es.length≤1048576):
  Calls Tryz.prog 66 #[.slice (some ⟨g,0,none⟩) es.length cap,.int .i64 k] w fun e w'=>
   ∃fs,e=.returned (.int .i64 (k+es.length*7))∧OwnNd w' base g cap fs∧fs.length=es.length∧markedN k fs es.length∧w.grownBy w' (some g):=by
 have HO:Hid (OwnNd w base g cap es):=hO
 clear hO
 go_enter Tryz.func66,Tryz.ntmps66
 go_wp2
 go_loopw[1,5] (fun c i wr=>∃(m:Nat) (a:Int) (fs:List Nd),m≤es.length∧i=.int .i64 m∧c=.int .i64 a∧a=k+m*7∧OwnNd wr base g cap fs∧fs.length=es.length∧markedN k fs m∧w.grownBy wr (some g)) (fun _ i _=>es.length-(intOf i).toNat)
 case atStart=>exact⟨0,k,es,Nat.zero_le _,rfl,rfl,by simp,HO.out,rfl,fun j hj=>by omega,grown_of_below (Below.refl _ _) _⟩
 case round=>
  obtain⟨m,a,fs,hm,rfl,rfl,ha,hO,hfl,hmk,hgr⟩:=hrel
  have HR:Hid (a=k+m*7∧OwnNd wr base g cap fs∧fs.length=es.length∧markedN k fs m):=⟨ha,hO,hfl,hmk⟩
  have ha0:0<a:=by omega
  have ha1:a≤2^31:=by omega
  have HG:Hid (w.grownBy wr (some g)):=hgr
  clear hO hfl hmk ha hgr
  by_cases hlt:m<es.length
  ·obtain⟨f,hf⟩:∃f,fs[m]?=some f:=⟨_,List.getElem?_eq_getElem (by rw[HR.2.2.1];exact hlt)⟩
   have HF:Hid (fs[m]?=some f∧m<fs.length):=⟨hf,by rw[HR.2.2.1];exact hlt⟩
   clear hf
   have c0:=(HR.2.1.at m f HF.1).1
   simp only[Nat.zero_add]at c0
   have z0:=fun j=>World.ownsRow.frozenAt HR.2.1 j
   have H0:Hid (OwnNd (wr.setCell ⟨g,m*7,none⟩ (.int .i64 a)) base g cap (fs.set m {f with kind:=a})∧w.grownBy (wr.setCell ⟨g,m*7,none⟩ (.int .i64 a)) (some g)):=
    ⟨HR.2.1.set m 0 f {f with kind:=a} (.int .i64 a) HF.1 (by omega) rfl,HG.trans (grown_set _ _ _ _)⟩
   go_wp2_with fail
   refine(markText_any (a+1) _ (by omega) (by omega)).mono ?_
   rintro e w1 ⟨rfl,hb1⟩
   have hO1:=H0.1.below hb1 H0.1.lt.2
   obtain⟨_,c1,c2,_⟩:=hO1.at m _ (by simp[HF.2];rfl)
   simp only[Nat.zero_add]at c1 c2
   have z1:=fun j=>World.ownsRow.frozenAt hO1 j
   have hO2:=(hO1.upd (j:=1) (u:=.string (mText (a+1).toNat)) (f':={f with kind:=a,s:=mText (a+1).toNat}) HF.2 (by omega) rfl).upd (j:=2) (u:=.bool ((a+1+1)%3==0)) (f':={f with kind:=a,s:=mText (a+1).toNat,hi:=((a+1+1)%3==0)}) HF.2 (by omega) rfl
   have H1:Hid (OwnNd ((w1.setCell ⟨g,m*7+1,none⟩ (.string (mText (a+1).toNat))).setCell ⟨g,m*7+2,none⟩ (.bool ((a+1+1)%3==0))) base g cap (fs.set m {f with kind:=a,s:=mText (a+1).toNat,hi:=((a+1+1)%3==0)})∧w.grownBy ((w1.setCell ⟨g,m*7+1,none⟩ (.string (mText (a+1).toNat))).setCell ⟨g,m*7+2,none⟩ (.bool ((a+1+1)%3==0))) (some g)):=
    ⟨hO2,((H0.2.trans (grown_of_below hb1 _)).trans (grown_set _ _ _ _)).trans (grown_set _ _ _ _)⟩
   clear hO1 hO2 hb1 c0 z0
   go_wp2_with fail
   refine(markText_any (a+1+1+1) _ (by omega) (by omega)).mono ?_
   rintro e w2 ⟨rfl,hb2⟩
   have hO3:=H1.1.below hb2 H1.1.lt.2
   obtain⟨_,_,_,c3,c4,c5,c6⟩:=hO3.at m _ (by simp[HF.2];rfl)
   simp only[Nat.zero_add]at c3 c4 c5 c6
   have z3:=fun j=>World.ownsRow.frozenAt hO3 j
   have hO4:=(((hO3.upd (j:=3) (u:=.string (mText (a+1+1+1).toNat)) (f':={f with kind:=a,s:=mText (a+1).toNat,hi:=((a+1+1)%3==0),t:=mText (a+1+1+1).toNat}) HF.2 (by omega) rfl).upd (j:=4) (u:=.int .u64 (a+1+1+1+1))
    (f':={f with kind:=a,s:=mText (a+1).toNat,hi:=((a+1+1)%3==0),t:=mText (a+1+1+1).toNat,lo:=a+1+1+1+1}) HF.2 (by omega) rfl).upd (j:=5) (u:=.int .u64 (a+1+1+1+1+1))
    (f':={f with kind:=a,s:=mText (a+1).toNat,hi:=((a+1+1)%3==0),t:=mText (a+1+1+1).toNat,lo:=a+1+1+1+1,up:=a+1+1+1+1+1}) HF.2 (by omega) rfl).upd (j:=6) (u:=.int .i64 (a+1+1+1+1+1+1)) (f':=mNd a) HF.2 (by omega) rfl
   have hG4:=((((H1.2.trans (grown_of_below hb2 _)).trans (grown_set w2 g (m*7+3) (.string (mText (a+1+1+1).toNat)))).trans (grown_set _ g (m*7+4) (.int .u64 (a+1+1+1+1)))).trans (grown_set _ g (m*7+5) (.int .u64 (a+1+1+1+1+1)))).trans (grown_set _ g (m*7+6) (.int .i64 (a+1+1+1+1+1+1)))
   have H4:Hid (_∧_):=⟨hO4,hG4⟩
   have HE:Hid (a=k+m*7):=HR.1
   clear hO3 hO4 hG4 hb2 c1 c2 z1
   go_wp2_with fail
   refine⟨⟨m+1,a+1+1+1+1+1+1+1,fs.set m (mNd a),by omega,by go_num,rfl,?_,H4.1,by rw[List.length_set];exact HR.2.2.1,?_,H4.2⟩,?_⟩
   ·go_light
    have:=HE.out
    omega
   ·go_light
    have:=markedN_set HR.2.2.2 HF.2
    rw[←HE.out]at this
    exact this
   ·go_light
    simp[intOf];omega
  ·go_wp2_with fail
   go_ret
   have e1:m=es.length:=by omega
   refine⟨fs,?_,HR.2.1,HR.2.2.1,?_,HG.out⟩
   ·rw[HR.1,e1];rfl
   ·rw[←e1];exact HR.2.2.2
set_option maxHeartbeats 2000000 in
theorem heldNodeS_core (b off cap:Nat) (es:List Nd) (k:Int) (w:World) (hE:NdsAt w b off es) (hmk:markedN k es es.length) (hB:b<w.heap.size) (h0:0<k) (h1:k≤2^30) (hn:es.length≤1048576):
  Calls Tryz.prog 67 #[.slice (some ⟨b,off,none⟩) es.length cap,.int .i64 k] w fun e w'=>
   e=.returned (.int .i64 (k+es.length*7))∧Below w.heap.size w w':=by
 have HE:Hid (NdsAt w b off es∧markedN k es es.length):=⟨hE,hmk⟩
 clear hE hmk
 go_enter Tryz.func67,Tryz.ntmps67
 go_wp2
 go_loopw[1,5] (fun c i wr=>∃(m:Nat) (a:Int),m≤es.length∧i=.int .i64 m∧c=.int .i64 a∧a=k+m*7∧Below w.heap.size w wr) (fun _ i _=>es.length-(intOf i).toNat)
 case atStart=>exact⟨0,k,Nat.zero_le _,rfl,rfl,by simp,Below.refl _ _⟩
 case round=>
  obtain⟨m,a,hm,rfl,rfl,ha,hb⟩:=hrel
  have ha0:0<a:=by omega
  have ha1:a≤2^31:=by omega
  have HA:Hid (a=k+m*7):=ha
  clear ha
  have hs:=hb.size
  by_cases hlt:m<es.length
  ·have he:es[m]?=some (mNd a):=by rw[HA.out];exact HE.2 m hlt
   have HM:Hid (es[m]?=some (mNd a)):=he
   clear he
   have z2:(m:Int)<(es.length:Int):=by omega
   have HC:Hid (∀wx,Below w.heap.size w wx→wx.cell? ⟨b,off+m*7,none⟩=some (.int .i64 a)∧wx.cell? ⟨b,off+m*7+1,none⟩=some (.string (mText (a+1).toNat))∧wx.cell? ⟨b,off+m*7+2,none⟩=some (.bool ((a+1+1)%3==0))∧wx.cell? ⟨b,off+m*7+3,none⟩=some (.string (mText (a+1+1+1).toNat))∧wx.cell? ⟨b,off+m*7+4,none⟩=some (.int .u64 (a+1+1+1+1))∧wx.cell? ⟨b,off+m*7+5,none⟩=some (.int .u64 (a+1+1+1+1+1))∧wx.cell? ⟨b,off+m*7+6,none⟩=some (.int .i64 (a+1+1+1+1+1+1))):=fun wx hx=>(HE.1.below hx hB) m _ HM.out
   have c0:=(HC.out wr hb).1
   have c1:=(HC.out wr hb).2.1
   go_upto_region 7 with fail
   go_cut[28] (fun s wx=>s=.bool false∧Below w.heap.size w wx)
   case first=>
    go_region_with (go_at_call 98;refine(markText_in w _ _ ?hB (by omega) (by omega)).mono ?_;(case hB=>(repeat (first|assumption|refine Below.drew ?_)));rintro e' w' ⟨rfl,hbb⟩;have cx:=(HC.out w' hbb).2.1)
    all_goals go_wp2_with fail
    all_goals go_meet
    all_goals exact⟨rfl,by assumption⟩
   case rest=>
   obtain⟨rfl,h2⟩:=hcut
   clear c0 c1
   obtain⟨wa,rfl⟩:=qE (wc:World)
   have c2:=(HC.out wa h2).2.2.1
   have c3:=(HC.out wa h2).2.2.2.1
   go_upto_region 13 with fail
   go_cut[49] (fun s wx=>s=.bool false∧Below w.heap.size w wx)
   case first=>
    go_region_with (go_at_call 98;refine(markText_in w _ _ ?hB (by omega) (by omega)).mono ?_;(case hB=>(repeat (first|assumption|refine Below.drew ?_)));rintro e' w' ⟨rfl,hbb⟩;have cx:=(HC.out w' hbb).2.2.2.1)
    all_goals go_wp2_with fail
    all_goals go_meet
    all_goals exact⟨rfl,by assumption⟩
   case rest=>
   obtain⟨rfl,h3⟩:=hcut
   clear c2 c3
   obtain⟨wb,rfl⟩:=qE (wc:World)
   have c4:=(HC.out wb h3).2.2.2.2.1
   have c5:=(HC.out wb h3).2.2.2.2.2.1
   have c6:=(HC.out wb h3).2.2.2.2.2.2
   go_wp2_with fail
   refine⟨⟨m+1,a+1+1+1+1+1+1+1,by omega,by go_num,rfl,?_,h3⟩,?_⟩
   ·go_light
    have:=HA.out
    omega
   ·go_light
    simp[intOf];omega
  ·go_wp2_with fail
   go_ret
   have e1:m=es.length:=by omega
   refine⟨?_,hb⟩
   rw[HA.out,e1];rfl
def OwnUN (w:World) (base:Nat) (u:Value) (R:List Nd):Prop:=(u=.slice none 0 0∧R= [])∨∃g cp,u=.slice (some ⟨g,0,none⟩) R.length cp∧OwnNd w base g cp R
theorem OwnUN.ins {w:World} {base:Nat} {u:Value} {R:List Nd} (h:OwnUN w base u R):InNds w u R:=by
 rcases h with⟨rfl,rfl⟩|⟨g,cp,rfl,hO⟩
 ·exact .inl ⟨_,_,rfl,rfl⟩
 ·exact InNds.own hO rfl
theorem OwnUN.row {w:World} {base:Nat} {u:Value} {R:List Nd} (h:OwnUN w base u R):∀g,u.ownBlock=some g→base≤g∧g<w.heap.size:=by
 intro g hg
 rcases h with⟨rfl,_⟩|⟨g',cp,rfl,hO⟩
 ·cases hg
 ·have:g'=g:=Option.some.inj hg
  subst this
  exact hO.lt
theorem OwnUN.keptNe {w w':World} {base:Nat} {u:Value} {R:List Nd} {row:Option Nat} (h:OwnUN w base u R) (hg:w.grownBy w' row) (hne:∀g,u.ownBlock=some g→row≠some g):OwnUN w' base u R:=by
 rcases h with h|⟨g,cp,rfl,hO⟩
 ·exact .inl h
 ·exact .inr ⟨g,cp,rfl,World.ownsRow.kept hO hg (.inr (fun q=>hne g rfl q.symm))⟩
theorem OwnUN.below {w w':World} {base:Nat} {u:Value} {R:List Nd} (h:OwnUN w base u R) (hb:Below w.heap.size w w'):OwnUN w' base u R:=h.keptNe (grown_of_below hb none) (fun g q z=>by cases z)
theorem OwnUN.ownCells {w:World} {base:Nat} {u:Value} {R:List Nd} (h:OwnUN w base u R):u.cells=#[u]:=by
 rcases h with⟨rfl,_⟩|⟨g,cp,rfl,_⟩<;>rfl
set_option maxHeartbeats 400000 in
theorem markNodeS_zero (a:Option Addr) (cap:Nat) (k:Int) (w:World):
  Calls Tryz.prog 66 #[.slice a 0 cap,.int .i64 k] w fun e w'=>e=.returned (.int .i64 k)∧Below w.heap.size w w':=by
 go_enter Tryz.func66,Tryz.ntmps66
 go_wp2
 go_loopw[1,5] (fun c i wr=>c=.int .i64 k∧i=.int .i64 0∧wr=w) (fun _ i _=>0)
 case atStart=>exact⟨rfl,rfl,rfl⟩
 case round=>
  obtain⟨rfl,rfl,rfl⟩:=hrel
  go_wp2_with fail
  go_ret
  exact⟨rfl,Below.refl _ _⟩
set_option maxHeartbeats 400000 in
theorem heldNodeS_zero (a:Option Addr) (cap:Nat) (k:Int) (w:World):
  Calls Tryz.prog 67 #[.slice a 0 cap,.int .i64 k] w fun e w'=>e=.returned (.int .i64 k)∧Below w.heap.size w w':=by
 go_enter Tryz.func67,Tryz.ntmps67
 go_wp2
 go_loopw[1,5] (fun c i wr=>c=.int .i64 k∧i=.int .i64 0∧wr=w) (fun _ i _=>0)
 case atStart=>exact⟨rfl,rfl,rfl⟩
 case round=>
  obtain⟨rfl,rfl,rfl⟩:=hrel
  go_wp2_with fail
  go_ret
  exact⟨rfl,Below.refl _ _⟩
theorem markNodeS_own (base:Nat) (u:Value) (R:List Nd) (k:Int) (w:World) (h:OwnUN w base u R) (h0:0<k) (h1:k≤2^30) (hn:R.length≤1048576):
  Calls Tryz.prog 66 #[u,.int .i64 k] w fun e w'=>
   ∃R',e=.returned (.int .i64 (k+R.length*7))∧OwnUN w' base u R'∧R'.length=R.length∧markedN k R' R'.length∧w.grownBy w' u.ownBlock:=by
 rcases h with⟨rfl,rfl⟩|⟨g,cp,rfl,hO⟩
 ·refine(markNodeS_zero none 0 k w).mono ?_
  rintro e w' ⟨rfl,hb⟩
  exact⟨[],by simp,.inl ⟨rfl,rfl⟩,rfl,fun j hj=>by simp at hj,grown_of_below hb _⟩
 ·refine(markNodeS_core base g cp R k w hO h0 h1 hn).mono ?_
  rintro e w' ⟨fs,rfl,hO',hl,hm,hg⟩
  exact⟨fs,rfl,.inr ⟨g,cp,by rw[hl],hO'⟩,hl,by rw[hl];exact hm,hg⟩
theorem heldNodeS_own (base:Nat) (u:Value) (R:List Nd) (k:Int) (w:World) (h:OwnUN w base u R) (hm:markedN k R R.length) (h0:0<k) (h1:k≤2^30) (hn:R.length≤1048576):
  Calls Tryz.prog 67 #[u,.int .i64 k] w fun e w'=>e=.returned (.int .i64 (k+R.length*7))∧Below w.heap.size w w':=by
 rcases h with⟨rfl,rfl⟩|⟨g,cp,rfl,hO⟩
 ·refine(heldNodeS_zero none 0 k w).mono ?_
  rintro e w' ⟨rfl,hb⟩
  exact⟨by simp,hb⟩
 ·exact heldNodeS_core g 0 cp R k w hO.at hm hO.lt.2 h0 h1 hn
set_option maxHeartbeats 400000 in
theorem markFilter_own (base:Nat) (u:Value) (R:List Nd) (k:Int) (w:World) (h:OwnUN w base u R) (h0:0<k) (h1:k≤2^30) (hn:R.length≤1048576):
  Calls Tryz.prog 29 #[.agg #[u],.int .i64 k] w fun e w'=>
   ∃R',e=.returned (.int .i64 (k+R.length*7))∧OwnUN w' base u R'∧R'.length=R.length∧markedN k R' R'.length∧w.grownBy w' u.ownBlock:=by
 have hu:=h.ownCells
 have hb0:Below w.heap.size w (w.alloc (Obj.cells #[u] 25)):=qB
 have HU:Hid (OwnUN (w.alloc (Obj.cells #[u] 25)) base u R):=h.below hb0
 clear h
 go_enter Tryz.func29,Tryz.ntmps29
 go_wp2_with fail
 refine(markNodeS_own base u R k _ HU.out h0 h1 hn).mono ?_
 rintro e w1 ⟨R',rfl,hU',hl,hm,hb1⟩
 have HF:Hid (OwnUN w1 base u R'∧R'.length=R.length∧markedN k R' R'.length):=⟨hU',hl,hm⟩
 clear hU' hl hm
 go_wp2_with fail
 go_ret
 exact⟨R',rfl,HF.1,HF.2.1,HF.2.2,(grown_of_below hb0 _).trans hb1⟩
set_option maxHeartbeats 400000 in
theorem heldFilter_own (base:Nat) (u:Value) (R:List Nd) (k:Int) (w:World) (h:OwnUN w base u R) (hm:markedN k R R.length) (h0:0<k) (h1:k≤2^30) (hn:R.length≤1048576):
  Calls Tryz.prog 30 #[.agg #[u],.int .i64 k] w fun e w'=>e=.returned (.int .i64 (k+R.length*7))∧Below w.heap.size w w':=by
 have hu:=h.ownCells
 have hb0:Below w.heap.size w (w.alloc (Obj.cells #[u] 25)):=qB
 have HU:Hid (OwnUN (w.alloc (Obj.cells #[u] 25)) base u R∧markedN k R R.length):=⟨h.below hb0,hm⟩
 clear h hm
 go_enter Tryz.func30,Tryz.ntmps30
 go_wp2_with fail
 refine(heldNodeS_own base u R k _ HU.1 HU.2 h0 h1 hn).mono ?_
 rintro e w1 ⟨rfl,hb1⟩
 have hge:0≤k+(R.length:Int)*7:=by omega
 go_wp2_with fail
 go_ret
 exact⟨rfl,hb0.trans (hb1.mono (by simp))⟩
end Go.Proofs.YtgnpcenpcmdlfaaGreatDoor
namespace Go.Proofs.YtgnpcenpcmdlfaaGreatDoor
set_option linter.unusedVariables false
set_option linter.unusedSimpArgs false
def NxO (l:List UInt8):Prop:=∀b,l.head?=some b→isLet b=false∧isDig b=false
def Lx (c:Bool) (l:List UInt8) (K:List TkK):Prop:=∀(rest:List UInt8) (i:Nat) (ks':List Tk),(c=true→NxO rest)→LexR rest (i+l.length) ks'→∃ks,LexR (l++rest) i (ks++ks')∧ks.map (·.k)=K
theorem Lx.nil {c:Bool}:Lx c [] []:=fun rest i ks' _ hl=>⟨[],hl,rfl⟩
inductive LoopP (sg:UInt8) (kd:Int) (R:Ps→PR Ps→Prop):Ps→Ps→Prop
 |refl (s:Ps):LoopP sg kd R s s
 |step {s s1 s2 s3:Ps} (h:(hdK s.ks).isSign sg=true) (h1:makerF s=.ok s1) (h2:R s1 (.ok s2)) (h3:LoopP sg kd R (s2.add (leafN kd)) s3):LoopP sg kd R s s3
theorem LoopP.snoc {sg:UInt8} {kd:Int} {R:Ps→PR Ps→Prop} {s s1:Ps} (h:LoopP sg kd R s s1) {s2 s3:Ps} (hs:(hdK s1.ks).isSign sg=true) (hm:makerF s1=.ok s2) (hr:R s2 (.ok s3)):LoopP sg kd R s (s3.add (leafN kd)):=by
 induction h with
 |refl=>exact .step hs hm hr (.refl _)
 |step h h1 h2 _ ih=>exact .step h h1 h2 (ih hs hm)
def HdG (K:List TkK):Prop:=∃t L,K=t::L∧t.isBad=false
theorem HdG.of {K:List TkK} (h:HdG K) {k1 k2:List Tk} (e:k1.map (·.k)=K):(hdK (k1++k2)).isBad=false:=by
 obtain⟨t,L,rfl,ht⟩:=h
 cases k1 with
 |nil=>cases e
 |cons x k1=>
  simp only[List.map_cons,List.cons.injEq]at e
  show x.k.isBad=false
  rw[e.1];exact ht
def Any (_:TkK):Prop:=True
theorem less_nil (s:ByteArray):¬less s noS:=by
 intro q
 unfold less at q
 rw[ByteArray.toList_eq,ByteArray.toList_eq]at q
 cases hq:s.data.toList with
 |nil=>rw[hq]at q;exact absurd q (by decide)
 |cons a l=>rw[hq]at q;exact absurd q (by simp[Op.bytesLess,noS])
theorem noS_of {s:ByteArray} (h:s.toList= []):s=noS:=by
 rw[ByteArray.toList_eq]at h
 cases s with
 |mk a=>
  cases a with
  |mk l=>simp at h;subst h;rfl
theorem nest2 (n:Nd) (x y:Shape):(shapeM goodB n [x,y]).nest=max (max 0 (x.nest+if level n.kind 0 x.kind then 1 else 0)) (y.nest+if level n.kind 1 y.kind then 1 else 0):=rfl
theorem nest3 (n:Nd) (x y z:Shape):(shapeM goodB n [x,y,z]).nest=max (max (max 0 (x.nest+if level n.kind 0 x.kind then 1 else 0)) (y.nest+if level n.kind 1 y.kind then 1 else 0)) (z.nest+if level n.kind 2 z.kind then 1 else 0):=rfl
theorem strong_le (k:Int):1≤strong k∧strong k≤3:=by
 unfold strong
 by_cases h1:k=15
 ·rw[if_pos h1];omega
 ·rw[if_neg h1]
  by_cases h2:k=14
  ·rw[if_pos h2];omega
  ·rw[if_neg h2];omega
def TG (ks:List Tk):Prop:=∀k∈ks,k.k.good∨k.k=.fin∨k.k=.bad
theorem toks_tg {ks:List Tk} (h:Toks ks):TG ks:=by
 induction h with
 |last k h=>intro x hx;simp at hx;subst hx;exact .inr h
 |more k h _ ih=>
  intro x hx
  rcases List.mem_cons.1 hx with rfl|hx
  ·exact .inl h
  ·exact ih x hx
theorem TG.tail {ks:List Tk} (h:TG ks):TG ks.tail:=fun k hk=>h k (List.mem_of_mem_tail hk)
theorem TG.hd {ks:List Tk} (h:TG ks):(hdK ks).good∨hdK ks=.fin∨hdK ks=.bad:=by
 cases ks with
 |nil=>exact .inr (.inl rfl)
 |cons k ks=>exact h k (by simp)
theorem takeF_ok {ks ks':List Tk} (h:takeF ks=.ok ks'):ks'=ks.tail:=by
 unfold takeF at h
 split at h
 ·cases h
 ·cases h;rfl
theorem expectF_ok {b:UInt8} {ks ks':List Tk} (h:expectF b ks=.ok ks'):ks'=ks.tail:=by
 unfold expectF at h
 split at h
 ·exact takeF_ok h
 ·cases h
theorem noS_list:noS.toList= []:=by rw[ByteArray.toList_eq];rfl
theorem good_kind {k:Int} (h:k=1∨k=2∨k=3∨k=14∨k=15∨k=16):GoodN (leafN k)∧NumN (leafN k):=
 ⟨⟨by show noS.size≤200;decide,by show noS.size≤200;decide,fun _=>⟨noS_list,rfl⟩,.inr (.inr (.inr (.inr ⟨h,noS_list,rfl,noS_list,rfl,rfl,rfl⟩)))⟩,by show(0:Int)≤0;omega,by show(0:Int)<2^64;omega,by show(0:Int)≤0;omega,by show(0:Int)<2^64;omega⟩
theorem sort_good {t:TkK} (h:t.good∨t=.fin∨t=.bad) (strs:Bool) (hs:t.isSort strs=true∨t=.fin):t.txt.size≤200∧0≤t.nm∧t.nm<2^64∧(strs=true→t.nm=0)∧(strs=false→t.txt.toList= []):=by
 cases t with
 |str s=>
  rcases h with h|h|h
  ·refine⟨h,by show(0:Int)≤0;omega,by show(0:Int)<2^64;omega,fun _=>rfl,fun q=>?_⟩
   subst q
   rcases hs with q|q<;>cases q
  ·cases h
  ·cases h
 |num n=>
  rcases h with h|h|h
  ·refine⟨by show noS.size≤200;decide,h.1,h.2,fun q=>?_,fun _=>noS_list⟩
   subst q
   rcases hs with q|q<;>cases q
  ·cases h
  ·cases h
 |fin=>exact⟨by show noS.size≤200;decide,by show(0:Int)≤0;omega,by show(0:Int)<2^64;omega,fun _=>rfl,fun _=>noS_list⟩
 |word k=>rcases hs with q|q<;>cases q
 |sign b=>rcases hs with q|q<;>cases q
 |bad=>rcases hs with q|q<;>cases q
def LeafG (kd:Int) (n:Nd):Prop:=GoodN n∧NumN n∧n.kind=kd
theorem range_good {kd:Int} {strs:Bool} (hk:(strs=true∧(kd=8∨kd=9))∨(strs=false∧kd=10)) {a:TkK} (ha:a.good∨a=.fin∨a=.bad) (has:a.isSort strs=true∨a=.fin) {ks ks':List Tk} {n:Nd} (ht:TG ks) (h:upF kd strs a ks=.ok (ks',n)):LeafG kd n∧TG ks':=by
 obtain⟨a1,a2,a3,a4,a5⟩:=sort_good ha strs has
 unfold upF at h
 split at h
 ·rename_i hso
  obtain⟨b1,b2,b3,b4,b5⟩:=sort_good ht.hd strs (.inl hso)
  split at h
  ·rename_i hlt
   cases ht2:takeF ks with
   |error e=>rw[ht2]at h;cases h
   |ok k2=>
    rw[ht2]at h
    cases h
    refine⟨⟨⟨a1,b1,fun q=>(by cases q),?_⟩,⟨a2,a3,b2,b3⟩,rfl⟩,by rw[takeF_ok ht2];exact ht.tail⟩
    rcases hk with⟨rfl,hk⟩|⟨rfl,hk⟩
    ·refine .inr (.inl ⟨hk,⟨a4 rfl,b4 rfl,rfl⟩,fun _=>?_⟩)
     rcases hlt with q|q
     ·exact q
     ·rw[a4 rfl,b4 rfl]at q;omega
    ·refine .inr (.inr (.inl ⟨hk,⟨a5 rfl,b5 rfl,rfl⟩,fun _=>?_⟩))
     rcases hlt with q|q
     ·rw[noS_of (b5 rfl)]at q
      exact absurd q (less_nil _)
     ·exact q
  ·cases h
 ·cases h
  refine⟨⟨⟨a1,by show noS.size≤200;decide,fun _=>⟨noS_list,rfl⟩,?_⟩,⟨a2,a3,by show(0:Int)≤0;omega,by show(0:Int)<2^64;omega⟩,rfl⟩,ht⟩
  rcases hk with⟨rfl,hk⟩|⟨rfl,hk⟩
  ·exact .inr (.inl ⟨hk,⟨a4 rfl,rfl,rfl⟩,fun q=>(by cases q)⟩)
  ·exact .inr (.inr (.inl ⟨hk,⟨a5 rfl,noS_list,rfl⟩,fun q=>(by cases q)⟩))
theorem dots_good {kd:Int} {strs:Bool} (hk:(strs=true∧(kd=8∨kd=9))∨(strs=false∧kd=10)) {a:TkK} (ha:a.good∨a=.fin∨a=.bad) (has:a.isSort strs=true∨a=.fin) {ks ks':List Tk} {n:Nd} (ht:TG ks) (h:dotsF kd strs a ks=.ok (ks',n)):LeafG kd n∧TG ks':=by
 unfold dotsF at h
 cases he:expectF 46 ks with
 |error e=>rw[he]at h;cases h
 |ok k2=>
  rw[he]at h
  exact range_good hk ha has (by rw[expectF_ok he];exact ht.tail) h
theorem rangeF_good {kd:Int} {strs:Bool} (hk:(strs=true∧(kd=8∨kd=9))∨(strs=false∧kd=10)) {ks ks':List Tk} {n:Nd} (ht:TG ks) (h:rangeF kd strs ks=.ok (ks',n)):LeafG kd n∧TG ks':=by
 unfold rangeF at h
 split at h
 ·rename_i hso
  cases he:takeF ks with
  |error e=>rw[he]at h;cases h
  |ok k2=>
   rw[he]at h
   exact dots_good hk ht.hd (.inl hso) (by rw[takeF_ok he];exact ht.tail) h
 ·exact dots_good hk (.inr (.inl rfl)) (.inr rfl) ht h
theorem args_good {kd:Int} (h1:1≤kd) (h2:kd≤13) {ks ks':List Tk} {n:Nd} (ht:TG ks) (h:argsF kd ks=.ok (ks',n)):LeafG kd n∧TG ks':=by
 unfold argsF at h
 split at h
 ·cases h
  obtain⟨g1,g2⟩:=good_kind (k:=kd) (by omega)
  exact⟨⟨g1,g2,rfl⟩,ht⟩
 split at h
 ·have hg:=ht.hd
  cases hk:hdK ks with
  |str s=>
   rw[hk]at h hg
   dsimp only at h
   split at h
   ·rename_i hc
    cases he:takeF ks with
    |error e=>rw[he]at h;cases h
    |ok k2=>
     rw[he]at h
     cases h
     have hs:s.size≤200:=by
      rcases hg with q|q|q
      ·exact q
      ·cases q
      ·cases q
     refine⟨⟨⟨hs,by show noS.size≤200;decide,fun _=>⟨noS_list,rfl⟩,.inl ⟨by show kd=4∨kd=5∨kd=6∨kd=7;omega,⟨rfl,noS_list,rfl,rfl,rfl⟩,hc⟩⟩,⟨by show(0:Int)≤0;omega,by show(0:Int)<2^64;omega,by show(0:Int)≤0;omega,by show(0:Int)<2^64;omega⟩,rfl⟩,by rw[takeF_ok he];exact ht.tail⟩
   ·cases h
  |_=>rw[hk]at h;cases h
 split at h
 ·exact rangeF_good (.inl ⟨rfl,by omega⟩) ht h
 split at h
 ·exact rangeF_good (.inr ⟨rfl,by omega⟩) ht h
 ·cases hk:hdK ks with
  |num m=>
   rw[hk]at h
   dsimp only at h
   split at h
   ·rename_i hc
    cases he:takeF ks with
    |error e=>rw[he]at h;cases h
    |ok k2=>
     rw[he]at h
     cases h
     refine⟨⟨⟨by show noS.size≤200;decide,by show noS.size≤200;decide,fun _=>⟨noS_list,rfl⟩,.inr (.inr (.inr (.inl ⟨by show kd=11∨kd=12∨kd=13;omega,⟨noS_list,rfl,noS_list,rfl,rfl⟩,hc⟩)))⟩,⟨by show(0:Int)≤0;omega,by show(0:Int)<2^64;omega,by show(0:Int)≤0;omega,by show(0:Int)<2^64;omega⟩,rfl⟩,by rw[takeF_ok he];exact ht.tail⟩
   ·cases h
  |_=>rw[hk]at h;cases h
theorem ShT.app {ss:List Shape} {xs:List Nd} (h:ShT goodB ss xs) {ts:List Shape} {ys:List Nd} (k:ShT goodB ts ys):ShT goodB (ss++ts) (xs++ys):=by
 induction k with
 |nil=>simpa using h
 | @snoc ts os ys n ho _ ih=>
   rw[←List.append_assoc,←List.append_assoc]
   rw[←List.append_assoc]at ih
   exact .snoc n ho ih
structure Tre (p:List Nd) (sh:Shape):Prop where
 tr:ShT goodB [sh] p
 ok:sh.valid=true
 nn:∀e∈p,NumN e
def Gd (Q:Shape→Prop) (R:Ps→PR Ps→Prop):Prop:=∀s s1,R s (.ok s1)→TG s.ks→s.made≤200→∃p sh,s1.out=s.out++p∧Tre p sh∧Q sh∧s1.made=s.made+p.length∧s1.made≤200∧TG s1.ks
def Qp (d:Nat) (sh:Shape):Prop:=(strong sh.kind=3∧sh.nest≤d)∨sh.nest+1≤d
def Qc (d:Nat) (sh:Shape):Prop:=(2≤strong sh.kind∧sh.nest≤d)∨sh.nest+1≤d
def Qf (d:Nat) (sh:Shape):Prop:=sh.nest≤d
theorem tre_two {kd:Int} (hk:kd=14∨kd=15) {p q:List Nd} {a b:Shape} (ha:Tre p a) (hb:Tre q b):Tre (p++(q++ [leafN kd])) (shapeM goodB (leafN kd) [a,b]):=by
 obtain⟨g1,g2⟩:=good_kind (k:=kd) (by omega)
 refine⟨?_,?_,?_⟩
 ·have h:=ha.tr.app hb.tr
  have:=ShT.snoc (G:=goodB) (ss:= []) (os:= [a,b]) (xs:=p++q) (leafN kd) (by show 2=arity kd;rcases hk with rfl|rfl<;>rfl) h
  rw[List.append_assoc]at this
  exact this
 ·show(goodB (leafN kd) && [a,b].all (·.valid))=true
  rw[(goodB_iff _).2 g1]
  simp[ha.ok,hb.ok]
 ·intro e he
  rcases List.mem_append.1 he with he|he
  ·exact ha.nn e he
  ·rcases List.mem_append.1 he with he|he
   ·exact hb.nn e he
   ·rw[List.mem_singleton]at he;rw[he];exact g2
theorem tre_three {p q r:List Nd} {a b c:Shape} (ha:Tre p a) (hb:Tre q b) (hc:Tre r c):Tre (p++(q++(r++ [leafN 16]))) (shapeM goodB (leafN 16) [a,b,c]):=by
 obtain⟨g1,g2⟩:=good_kind (k:=16) (by omega)
 refine⟨?_,?_,?_⟩
 ·have h:=(ha.tr.app hb.tr).app hc.tr
  have:=ShT.snoc (G:=goodB) (ss:= []) (os:= [a,b,c]) (xs:=p++q++r) (leafN 16) (by show 3=arity 16;rfl) h
  simp only[List.append_assoc]at this
  exact this
 ·show(goodB (leafN 16) && [a,b,c].all (·.valid))=true
  rw[(goodB_iff _).2 g1]
  simp[ha.ok,hb.ok,hc.ok]
 ·intro e he
  rcases List.mem_append.1 he with he|he
  ·exact ha.nn e he
  ·rcases List.mem_append.1 he with he|he
   ·exact hb.nn e he
   ·rcases List.mem_append.1 he with he|he
    ·exact hc.nn e he
    ·rw[List.mem_singleton]at he;rw[he];exact g2
theorem maker_inv {s s1:Ps} (h:makerF s=.ok s1):s.made<200∧s1.made=s.made+1∧s1.out=s.out∧s1.ks=s.ks.tail:=by
 unfold makerF at h
 split at h
 ·rename_i hm
  cases ht:takeF s.ks with
  |error e=>rw[ht]at h;cases h
  |ok k2=>
   rw[ht]at h
   cases h
   exact⟨hm,rfl,rfl,takeF_ok ht⟩
 ·cases h
theorem to_inv {s s1:Ps} {r:PR (List Tk)} (h:s.to r=.ok s1) (hr:∀k,r=.ok k→k=s.ks.tail):s1.made=s.made∧s1.out=s.out∧s1.ks=s.ks.tail:=by
 cases r with
 |error e=>cases h
 |ok k=>cases h;exact⟨rfl,rfl,hr k rfl⟩
theorem enter_inv {d:Nat} {s s1:Ps} (h:enterF d s=.ok s1):¬d=0∧s1.made=s.made∧s1.out=s.out∧s1.ks=s.ks.tail:=by
 unfold enterF at h
 split at h
 ·split at h
  ·cases h
  ·rename_i hd
   exact⟨hd,to_inv h (fun k q=>takeF_ok q)⟩
 ·cases h
theorem leave_inv {s s1:Ps} (h:leaveF s=.ok s1):s1.made=s.made∧s1.out=s.out∧s1.ks=s.ks.tail:=to_inv h (fun k q=>expectF_ok q)
theorem comma_inv {s s1:Ps} (h:commaF s=.ok s1):s1.made=s.made∧s1.out=s.out∧s1.ks=s.ks.tail:=to_inv h (fun k q=>expectF_ok q)
theorem bind_ok {α β γ:Type} {A:α→PR β→Prop} {B:β→PR γ→Prop} {s:α} {x:γ} (h:bindR A B s (.ok x)):∃s1,A s (.ok s1)∧B s1 (.ok x):=by
 rcases h with⟨e,_,q⟩|h
 ·cases q
 ·exact h
theorem fn_ok {α β:Type} {f:α→PR β} {s:α} {x:β} (h:fnR f s (.ok x)):f s=.ok x:=Eq.symm h
theorem gd_loop {sg:UInt8} {kd:Int} (hk:kd=14∨kd=15) {R:Ps→PR Ps→Prop} {Q QJ:Shape→Prop} (hR:Gd Q R) (hQ:∀a b,QJ a→Q b→QJ (shapeM goodB (leafN kd) [a,b])) {s:Ps} {r:PR Ps} (h:LoopR sg kd R s r):∀s1,r=.ok s1→∀out0 md0 p sh,s.out=out0++p→Tre p sh→QJ sh→s.made=md0+p.length→s.made≤200→TG s.ks→
  ∃p' sh',s1.out=out0++p'∧Tre p' sh'∧QJ sh'∧s1.made=md0+p'.length∧s1.made≤200∧TG s1.ks:=by
 induction h with
 |stop h=>
  intro s1 q out0 md0 p sh h1 h2 h3 h4 h5 h6
  cases q
  exact⟨p,sh,h1,h2,h3,h4,h5,h6⟩
 |e1 h h1=>intro s1 q;cases q
 |e2 h h1 h2=>intro s1 q;cases q
 | @more s sa sb r h hm hr _ ih=>
   intro s1 q out0 md0 p sh h1 h2 h3 h4 h5 h6
   obtain⟨m1,m2,m3,m4⟩:=maker_inv hm
   obtain⟨p2,sh2,e1,e2,e3,e4,e5,e6⟩:=hR sa sb hr (by rw[m4];exact h6.tail) (by omega)
   refine ih s1 q out0 md0 (p++(p2++ [leafN kd])) _ ?_ (tre_two hk h2 e2) (hQ _ _ h3 e3) ?_ e5 e6
   ·show sb.out++ [leafN kd]=_
    rw[e1,m3,h1];simp
   ·show sb.made=_
    simp only[List.length_append,List.length_singleton]
    omega
theorem gd_join {sg:UInt8} {kd:Int} (hk:kd=14∨kd=15) {R:Ps→PR Ps→Prop} {Q QJ:Shape→Prop} (hR:Gd Q R) (h0:∀a,Q a→QJ a) (hQ:∀a b,QJ a→Q b→QJ (shapeM goodB (leafN kd) [a,b])):Gd QJ (JoinR sg kd R):=by
 intro s s1 h ht hm
 obtain⟨s0,h1,h2⟩:=bind_ok h
 obtain⟨p,sh,e1,e2,e3,e4,e5,e6⟩:=hR s s0 h1 ht hm
 exact gd_loop hk hR hQ h2 s1 rfl s.out s.made p sh e1 e2 (h0 _ e3) e4 e5 e6
theorem gd_prim {F:Ps→PR Ps→Prop} {d:Nat} (hF:0<d→Gd (Qf (d-1)) F):Gd (Qp d) (PrimR F d):=by
 intro s s1 h ht hm
 rcases h with⟨_,h⟩|⟨_,h⟩|⟨k,hk,h16,h⟩|⟨_,_,h⟩
 ·obtain⟨sa,ha,h⟩:=bind_ok h
  obtain⟨sb,hb,h⟩:=bind_ok h
  obtain⟨a0,a1,a2,a3⟩:=enter_inv (fn_ok ha)
  obtain⟨c1,c2,c3⟩:=leave_inv (fn_ok h)
  obtain⟨p,sh,e1,e2,e3,e4,e5,e6⟩:=hF (by omega) sa sb hb (by rw[a3];exact ht.tail) (by omega)
  have e3':sh.nest≤d-1:=e3
  exact⟨p,sh,by rw[c2,e1,a2],e2,.inr (by omega),by omega,by omega,by rw[c3];exact e6.tail⟩
 ·obtain⟨sm,hsm,h⟩:=bind_ok h
  obtain⟨sx,h,hx⟩:=bind_ok h
  obtain⟨sa,ha,h⟩:=bind_ok h
  obtain⟨s2,h2,h⟩:=bind_ok h
  obtain⟨s3,h3,h⟩:=bind_ok h
  obtain⟨s4,h4,h⟩:=bind_ok h
  obtain⟨s5,h5,h⟩:=bind_ok h
  obtain⟨s6,h6,h⟩:=bind_ok h
  obtain⟨m1,m2,m3,m4⟩:=maker_inv (fn_ok hsm)
  obtain⟨a0,a1,a2,a3⟩:=enter_inv (fn_ok ha)
  have hd:0<d:=by omega
  obtain⟨p,sp,p1,p2,p3,p4,p5,p6⟩:=hF hd sa s2 h2 (by rw[a3,m4];exact ht.tail.tail) (by omega)
  obtain⟨b1,b2,b3⟩:=comma_inv (fn_ok h3)
  obtain⟨q,sq,q1,q2,q3,q4,q5,q6⟩:=hF hd s3 s4 h4 (by rw[b3];exact p6.tail) (by omega)
  obtain⟨c1,c2,c3⟩:=comma_inv (fn_ok h5)
  obtain⟨r,sr,r1,r2,r3,r4,r5,r6⟩:=hF hd s5 s6 h6 (by rw[c3];exact q6.tail) (by omega)
  obtain⟨d1,d2,d3⟩:=leave_inv (fn_ok h)
  have hx2:=fn_ok hx
  cases hx2
  have p3':sp.nest≤d-1:=p3
  have q3':sq.nest≤d-1:=q3
  have r3':sr.nest≤d-1:=r3
  refine⟨p++(q++(r++ [leafN 16])),_,?_,tre_three p2 q2 r2,.inl ⟨rfl,?_⟩,?_,?_,?_⟩
  ·show sx.out++ [leafN 16]=_
   rw[d2,r1,c2,q1,b2,p1,a2,m3];simp
  ·rw[nest3]
   simp[level,leafN]
   omega
  ·show sx.made=_
   simp only[List.length_append,List.length_singleton]
   omega
  ·show sx.made≤200
   omega
  ·show TG sx.ks
   rw[d3];exact r6.tail
 ·obtain⟨sm,hsm,h⟩:=bind_ok h
  obtain⟨m1,m2,m3,m4⟩:=maker_inv (fn_ok hsm)
  have hkd:1≤k∧k≤13:=by
   have:=ht.hd
   rw[hk]at this
   rcases this with(q|q)|q|q
   ·exact q
   ·exact absurd q h16
   ·cases q
   ·cases q
  have h2:=fn_ok h
  unfold argF at h2
  cases ha:argsF k sm.ks with
  |error e=>rw[ha]at h2;cases h2
  |ok x=>
   obtain⟨ks',n⟩:=x
   rw[ha]at h2
   cases h2
   obtain⟨⟨g1,g2,g3⟩,g4⟩:=args_good hkd.1 hkd.2 (by rw[m4];exact ht.tail) ha
   have har:arity n.kind=0:=by
    rw[g3]
    unfold arity
    rw[if_neg (by omega),if_neg (by omega)]
   refine⟨[n],shapeM goodB n [],by rw[←m3],⟨?_,?_,?_⟩,.inl ⟨?_,?_⟩,?_,?_,g4⟩
   ·exact ShT.snoc (G:=goodB) (ss:= []) (os:= []) (xs:= []) n har.symm .nil
   ·show(goodB n && ([]:List Shape).all (·.valid))=true
    rw[(goodB_iff _).2 g1];rfl
   ·intro e he;rw[List.mem_singleton]at he;rw[he];exact g2
   ·show strong n.kind=3
    rw[g3]
    unfold strong
    rw[if_neg (by omega),if_neg (by omega)]
   ·exact Nat.zero_le _
   ·show sm.made=_;simp;omega
   ·show sm.made≤200;omega
 ·cases h
theorem gd_cha {F:Ps→PR Ps→Prop} {d:Nat} (hF:0<d→Gd (Qf (d-1)) F):Gd (Qc d) (ChaR F d):=by
 refine gd_join (.inl rfl) (gd_prim hF) (fun a h=>?_) (fun a b ha hb=>?_)
 ·rcases h with⟨h1,h2⟩|h
  ·exact .inl ⟨by omega,h2⟩
  ·exact .inr h
 ·refine .inl ⟨by show 2≤strong 14;decide,?_⟩
  rw[nest2]
  have la:(level 14 0 a.kind=true→strong a.kind<2):=fun q=>by
   unfold level at q
   rw[show strong 14=2 from rfl]at q
   simpa using q
  have lb:(level 14 1 b.kind=true→strong b.kind≤2):=fun q=>by
   unfold level at q
   rw[show strong 14=2 from rfl]at q
   simpa using q
  show max (max 0 (a.nest+if level 14 0 a.kind=true then 1 else 0)) (b.nest+if level 14 1 b.kind=true then 1 else 0)≤d
  have e1:a.nest+(if level 14 0 a.kind=true then 1 else 0)≤d:=by
   split
   ·rename_i q
    rcases ha with⟨h1,h2⟩|h
    ·have:=la q;omega
    ·exact h
   ·rcases ha with⟨h1,h2⟩|h
    ·exact h2
    ·omega
  have e2:b.nest+(if level 14 1 b.kind=true then 1 else 0)≤d:=by
   split
   ·rename_i q
    rcases hb with⟨h1,h2⟩|h
    ·have:=lb q;omega
    ·exact h
   ·rcases hb with⟨h1,h2⟩|h
    ·exact h2
    ·omega
  omega
theorem gd_fil0 {F:Ps→PR Ps→Prop} {d:Nat} (hF:0<d→Gd (Qf (d-1)) F):Gd (Qf d) (JoinR 124 15 (ChaR F d)):=by
 refine gd_join (.inr rfl) (gd_cha hF) (fun a h=>?_) (fun a b ha hb=>?_)
 ·rcases h with⟨h1,h2⟩|h
  ·exact h2
  ·show a.nest≤d;omega
 ·show(shapeM goodB (leafN 15) [a,b]).nest≤d
  rw[nest2]
  have ha':a.nest≤d:=ha
  have la:level 15 0 a.kind=false:=by
   unfold level
   have:=strong_le a.kind
   rw[show strong 15=1 from rfl]
   simp
   omega
  have lb:(level 15 1 b.kind=true→strong b.kind≤1):=fun q=>by
   unfold level at q
   rw[show strong 15=1 from rfl]at q
   simpa using q
  show max (max 0 (a.nest+if level 15 0 a.kind=true then 1 else 0)) (b.nest+if level 15 1 b.kind=true then 1 else 0)≤d
  rw[la]
  have e2:b.nest+(if level 15 1 b.kind=true then 1 else 0)≤d:=by
   split
   ·rename_i q
    rcases hb with⟨h1,h2⟩|h
    ·have:=lb q;omega
    ·exact h
   ·rcases hb with⟨h1,h2⟩|h
    ·exact h2
    ·omega
  simp only[Bool.false_eq_true,if_false]
  omega
theorem gd_fil:∀d,Gd (Qf d) (FilR d)
 |0=>gd_fil0 (fun q=>absurd q (Nat.lt_irrefl _))
 |d+1=>gd_fil0 (fun _=>gd_fil d)
theorem parsed_good {ks:List Tk} {s:Ps} (hT:Toks ks) (h:ParR ks (.ok s)):GoodF s.out∧∀e∈s.out,NumN e:=by
 rcases h with⟨_,h⟩|⟨_,h⟩
 ·cases h
 ·obtain⟨s1,h1,h2⟩:=bind_ok h
  obtain⟨p,sh,e1,e2,e3,e4,e5,e6⟩:=gd_fil 20 _ _ h1 (toks_tg hT) (Nat.zero_le _)
  have h3:=fn_ok h2
  unfold endF at h3
  split at h3
  ·cases h3
   rw[e1]
   simp only[List.nil_append]
   refine⟨⟨?_,sh,e2.tr,e2.ok,e3⟩,e2.nn⟩
   have:s.made=0+p.length:=e4
   omega
  ·cases h3
end Go.Proofs.YtgnpcenpcmdlfaaGreatDoor
namespace Go.Proofs.YtgnpcenpcmdlfaaGreatDoor
open Go.ChangeShapes Go.WideShapes Go.ChangeAt Go.RowKit Go.Deep
set_option linter.unusedVariables false
set_option linter.unusedSimpArgs false
set_option maxRecDepth 100000
theorem OwnUN.sli {w:World} {base:Nat} {u:Value} {R:List Nd} (h:OwnUN w base u R):∃a n c,u=.slice a n c:=by
 rcases h with⟨rfl,_⟩|⟨g,cp,rfl,_⟩
 ·exact⟨_,_,_,rfl⟩
 ·exact⟨_,_,_,rfl⟩
set_option maxHeartbeats 1000000 in
theorem eqFilterRes_same (err at_:Int) (a:Option Addr) (n c:Nat) (a':Option Addr) (n' c':Nat) (es:List Nd) (base base':Nat) (w:World) (h:OwnUN w base (.slice a n c) es) (h':OwnUN w base' (.slice a' n' c') es):
  Calls Tryz.prog 9 #[.agg #[.int .i64 err,.int .i64 at_,.slice a n c],.agg #[.int .i64 err,.int .i64 at_,.slice a' n' c']] w fun e w'=>e=.returned (.bool true)∧Below w.heap.size w w':=by
 obtain⟨W,hW⟩:=qE ((w.alloc (Obj.cells #[.int .i64 err,.int .i64 at_,.slice a n c] 27)).alloc (Obj.cells #[.int .i64 err,.int .i64 at_,.slice a' n' c'] 27):World)
 have hb:Below w.heap.size w W:=by rw[hW];exact(qB).alloc (by simp) _
 have HU:Hid (OwnUN W base (.slice a n c) es∧OwnUN W base' (.slice a' n' c') es):=⟨h.below hb,h'.below hb⟩
 clear h h'
 go_enter Tryz.func9,Tryz.ntmps9
 go_wp2_with fail
 rw[←hW]
 refine(eqFilter_any (.slice a n c) (.slice a' n' c') es _ HU.1.ins HU.2.ins).mono ?_
 rintro e w1 ⟨rfl,hb1⟩
 clear hW
 go_wp2_with fail
 go_ret
 exact⟨rfl,hb.trans (hb1.mono hb.size)⟩
set_option maxHeartbeats 1000000 in
theorem markFilterRes_own (err at_:Int) (a:Option Addr) (n c:Nat) (base:Nat) (R:List Nd) (w:World) (h:OwnUN w base (.slice a n c) R) (hn:R.length≤1048576):
  Calls Tryz.prog 12 #[.agg #[.int .i64 err,.int .i64 at_,.slice a n c],.int .i64 1] w fun e w'=>
   ∃R',e=.returned (.int .i64 (1+R.length*7))∧OwnUN w' base (.slice a n c) R'∧R'.length=R.length∧markedN 1 R' R'.length∧w.grownBy w' (Value.slice a n c).ownBlock:=by
 obtain⟨W,hW⟩:=qE (w.alloc (Obj.cells #[.int .i64 err,.int .i64 at_,.slice a n c] 27):World)
 have hb:Below w.heap.size w W:=by rw[hW];exact qB
 have HU:Hid (OwnUN W base (.slice a n c) R):=h.below hb
 clear h
 go_enter Tryz.func12,Tryz.ntmps12
 go_wp2_with fail
 rw[←hW]
 refine(markFilter_own base (.slice a n c) R 1 _ HU.out (by omega) (by omega) hn).mono ?_
 rintro e w1 ⟨R',rfl,hU',hl,hm,hg1⟩
 have HF:Hid (OwnUN w1 base (.slice a n c) R'∧R'.length=R.length∧markedN 1 R' R'.length∧w.grownBy w1 (Value.slice a n c).ownBlock):=⟨hU',hl,hm,(grown_of_below hb _).trans hg1⟩
 clear hU' hl hm hg1 hW
 go_wp2_with fail
 go_ret
 exact⟨R',rfl,HF.1,HF.2.1,HF.2.2.1,HF.2.2.2⟩
set_option maxHeartbeats 1000000 in
theorem heldFilterRes_own (err at_:Int) (a:Option Addr) (n c:Nat) (base:Nat) (R:List Nd) (w:World) (h:OwnUN w base (.slice a n c) R) (hm:markedN 1 R R.length) (hn:R.length≤1048576):
  Calls Tryz.prog 13 #[.agg #[.int .i64 err,.int .i64 at_,.slice a n c],.int .i64 1] w fun e w'=>e=.returned (.int .i64 (1+R.length*7))∧Below w.heap.size w w':=by
 obtain⟨W,hW⟩:=qE (w.alloc (Obj.cells #[.int .i64 err,.int .i64 at_,.slice a n c] 27):World)
 have hb:Below w.heap.size w W:=by rw[hW];exact qB
 have HU:Hid (OwnUN W base (.slice a n c) R∧markedN 1 R R.length):=⟨h.below hb,hm⟩
 clear h hm
 go_enter Tryz.func13,Tryz.ntmps13
 go_wp2_with fail
 rw[←hW]
 refine(heldFilter_own base (.slice a n c) R 1 _ HU.1 HU.2 (by omega) (by omega) hn).mono ?_
 rintro e w1 ⟨rfl,hb1⟩
 clear hW
 have hge:0≤1+(R.length:Int)*7:=by omega
 go_wp2_with fail
 go_ret
 exact⟨rfl,hb.trans (hb1.mono hb.size)⟩
def AnsOf (t:List UInt8) (c a:Int) (ns:List Nd):Prop:=
 (4000<t.length∧c=1∧a=0∧ns= [])∨(t.length≤4000∧∃ks,LexR t 0 ks∧((MEnds (⟨ks,0,[],[],true⟩:Ms) (.ok ns)∧c=0∧a=0)∨∃p:Nat,MEnds (⟨ks,0,[],[],true⟩:Ms) (.error (c,p))∧a=(p:Int)∧1≤c∧ns= []))
theorem AnsOf.one {t:List UInt8} {c a c' a':Int} {ns ns':List Nd} (h:AnsOf t c a ns) (k:AnsOf t c' a' ns'):c=c'∧a=a'∧ns=ns':=by
 rcases h with⟨h1,rfl,rfl,rfl⟩|⟨h1,ks,hk,h2⟩
 ·rcases k with⟨_,rfl,rfl,rfl⟩|⟨k1,_⟩
  ·exact⟨rfl,rfl,rfl⟩
  ·omega
 ·rcases k with⟨k1,_⟩|⟨k1,ks',hk',k2⟩
  ·omega
  ·obtain rfl:=hk.one hk'
   rcases h2 with⟨e1,rfl,rfl⟩|⟨p,e1,rfl,_,rfl⟩
   ·rcases k2 with⟨f1,rfl,rfl⟩|⟨q,f1,rfl,_,rfl⟩
    ·have:=e1.one f1
     cases this
     exact⟨rfl,rfl,rfl⟩
    ·have:=e1.one f1
     cases this
   ·rcases k2 with⟨f1,rfl,rfl⟩|⟨q,f1,rfl,_,rfl⟩
    ·have:=e1.one f1
     cases this
    ·have:=e1.one f1
     cases this
     exact⟨rfl,rfl,rfl⟩
def ResU (base:Nat) (c a:Int) (ns:List Nd) (v:Value) (w':World):Prop:=∃oa on oc,v=.agg #[.int .i64 c,.int .i64 a,.slice oa on oc]∧OwnUN w' base (.slice oa on oc) ns
theorem SfR.ans {base:Nat} {t:List UInt8} {v:Value} {w':World} (h:SfR base t v w'):∃c a ns,AnsOf t c a ns∧ResU base c a ns v w':=by
 obtain⟨c,a,nv,rfl,⟨h1,rfl,rfl,rfl⟩|⟨h1,ks,hk,⟨ns,go,co,hM,rfl,rfl,rfl,hO⟩|⟨p,hM,rfl,hc,rfl⟩⟩⟩:=h
 ·exact⟨1,0,[],.inl ⟨h1,rfl,rfl,rfl⟩,_,_,_,rfl,.inl ⟨rfl,rfl⟩⟩
 ·exact⟨0,0,ns,.inr ⟨h1,ks,hk,.inl ⟨hM,rfl,rfl⟩⟩,_,_,_,rfl,.inr ⟨go,co,rfl,hO⟩⟩
 ·exact⟨c,p,[],.inr ⟨h1,ks,hk,.inr ⟨p,hM,rfl,hc,rfl⟩⟩,_,_,_,rfl,.inl ⟨rfl,rfl⟩⟩
theorem ownUN_row {w:World} {base:Nat} {v:Value} {R:List Nd} (h:w.ownsRow base 65 7 v R.length (cellsN R)) (hne:¬R= []):OwnUN w base v R:=by
 rcases h.2 with⟨h0,hz⟩|⟨g',cap',cur,hv,_⟩
 ·exfalso
  exact hne (List.length_eq_zero_iff.1 hz)
 ·exact .inr ⟨g',cap',hv,by rw[hv]at h;exact h⟩
theorem goodF_ne {R:List Nd} (h:GoodF R):¬R= []:=by
 obtain⟨_,s,hs,_⟩:=h
 have h1:=(ShT.tree goodB hs).len
 intro q
 subst q
 simp at h1
theorem PfR.ans {base:Nat} {t:List UInt8} {v:Value} {w':World} (h:PfR base t v w'):∃c a ns,AnsOf t c a ns∧ResU base c a ns v w'∧ns.length≤200000:=by
 obtain⟨c,a,nv,rfl,⟨h1,rfl,rfl,rfl⟩|⟨h1,ks,hk,⟨s1,hP,rfl,rfl,hO,hl⟩|⟨p,hP,rfl,hc,rfl⟩⟩⟩:=h
 ·exact⟨1,0,[],.inl ⟨h1,rfl,rfl,rfl⟩,⟨_,_,_,rfl,.inl ⟨rfl,rfl⟩⟩,by simp⟩
 ·have hg:=(parsed_good hk.toks hP).1
  have hU:=ownUN_row hO (goodF_ne hg)
  obtain⟨oa,on,oc,rfl⟩:=hU.sli
  exact⟨0,0,s1.out,.inr ⟨h1,ks,hk,.inl ⟨par_same hP,rfl,rfl⟩⟩,⟨_,_,_,rfl,hU⟩,hl⟩
 ·exact⟨c,p,[],.inr ⟨h1,ks,hk,.inr ⟨p,par_same hP,rfl,hc,rfl⟩⟩,⟨_,_,_,rfl,.inl ⟨rfl,rfl⟩⟩,by simp⟩
end Go.Proofs.YtgnpcenpcmdlfaaGreatDoor
namespace Go.Proofs.YtgnpcenpcmdlfaaGreatDoor
open Go.ChangeShapes Go.WideShapes Go.ChangeAt Go.RowKit Go.Deep
set_option linter.unusedVariables false
set_option maxRecDepth 100000
end Go.Proofs.YtgnpcenpcmdlfaaGreatDoor
namespace Go.Proofs.YtgnpcenpcmdlfaaGreatDoor
open Go.ChangeShapes Go.WideShapes Go.ChangeAt Go.RowKit Go.Deep
set_option linter.unusedVariables false
set_option linter.unusedSimpArgs false
set_option maxRecDepth 100000
theorem OwnY.set {w:World} {base g cp:Nat} {xs:List UInt8} (h:OwnY w base g cp xs) (k:Nat) (x:UInt8):OwnY (w.setCell ⟨g,k,none⟩ (ub x)) base g cp (xs.set k x):=by
 have:=(World.ownsRow.stored h k (ub x)).1
 unfold OwnY
 rw[List.length_set,List.map_set]
 exact this
set_option maxHeartbeats 1000000 in
theorem eqByteS_same (b off cap b' off' cap':Nat) (xs:List UInt8) (w:World) (h:BysAt w b off xs) (h':BysAt w b' off' xs) (hb:b<w.heap.size) (hb':b'<w.heap.size) (hlen:xs.length≤maxLen):
  Calls Tryz.prog 10 #[.slice (some ⟨b,off,none⟩) xs.length cap,.slice (some ⟨b',off',none⟩) xs.length cap'] w fun e w'=>e=.returned (.bool true)∧Below w.heap.size w w':=by
 have HE:Hid (BysAt w b off xs∧BysAt w b' off' xs):=⟨h,h'⟩
 clear h h'
 unfold maxLen at hlen
 go_enter Tryz.func10,Tryz.ntmps10
 go_wp2_with fail
 go_loopw[5] (fun i wr=>∃(k:Nat),k≤xs.length∧i=.int .i64 k∧Below w.heap.size w wr) (fun i _=>xs.length-(intOf i).toNat)
 case atStart=>exact⟨0,Nat.zero_le _,rfl,Below.refl _ _⟩
 case round=>
  obtain⟨k,hk,rfl,hbr⟩:=hrel
  by_cases hlt:k<xs.length
  ·obtain⟨x,hx⟩:∃x,xs[k]?=some x:=⟨_,List.getElem?_eq_getElem hlt⟩
   have c0:=(HE.1.below hbr hb) k x hx
   have c1:=(HE.2.below hbr hb') k x hx
   have z:(k:Int)<(xs.length:Int):=by omega
   clear hx
   go_upto_region 6 with fail
   go_cut[25] (fun s wx=>s=.bool false∧Below w.heap.size w wx)
   case first=>
    go_region
    all_goals go_wp2_with fail
    all_goals go_meet
    all_goals exact⟨by simp,hbr.drew⟩
   case rest=>
   obtain⟨rfl,h3⟩:=hcut
   clear c0 c1
   go_wp2_with fail
   go_roundw
   case rel=>exact⟨k+1,by omega,by go_num,h3⟩
   case measure=>simp[intOf];omega
  ·have z:¬(k:Int)<(xs.length:Int):=by omega
   go_wp2_with fail
   go_ret
   exact⟨rfl,hbr⟩
theorem made_zeroY (n:Nat):(madeCells #[.int .u8 0] n).toList=(List.replicate n (0:UInt8)).map ub:=by
 apply List.ext_getElem?
 intro j
 by_cases hj:j<n
 ·rw[List.getElem?_map,List.getElem?_replicate,if_pos hj]
  simp[madeCells,hj,Nat.mod_one]
 ·rw[List.getElem?_map,List.getElem?_replicate,if_neg hj]
  simp[madeCells,hj]
set_option maxHeartbeats 1000000 in
theorem toByteS_core (b off cap:Nat) (xs:List UInt8) (w:World) (h:BysAt w b off xs) (hb:b<w.heap.size) (h1:xs.length≤1048576):
  Calls Tryz.prog 7 #[.slice (some ⟨b,off,none⟩) xs.length cap] w fun e w'=>
   ∃g,e=.returned (.slice (some ⟨g,0,none⟩) xs.length xs.length)∧OwnY w' w.heap.size g xs.length xs∧Below w.heap.size w w':=by
 have HE:Hid (BysAt w b off xs):=h
 clear h
 obtain⟨i,hi,hz0,hz1,hz2⟩:=info_parts Tryz.infoByte
 have HI:Hid (Tryz.prog.info? 5=some i∧i.zero=some (.int .u8 0)∧i.size=1∧i.bytes=1):=⟨hi,hz0,hz1,hz2⟩
 clear hi hz0 hz1 hz2
 go_enter Tryz.func7,Tryz.ntmps7
 go_wp2_with (at_make;refine wpList_make_full _ rfl _ _ 22 rfl w.heap.size 5 i _ 1 Tryz.underlying22 HI.1 HI.2.1 HI.2.2.1 _ _ _ _ xs.length rfl rfl ?_ ?_ ?hb ?hm ?hs ?_)
 case hb=>rw[HI.2.2.2];omega
 case hm=>unfold maxLen;omega
 case hs=>exact Nat.le_refl _
 ·rfl
 ·rfl
 intro w1 hown hgrow
 rw[made_zeroY]at hown
 have hown1:OwnY w1 w.heap.size w.heap.size xs.length (List.replicate xs.length 0):=by
  unfold OwnY;rw[List.length_replicate];exact hown
 have HW:Hid (OwnY w1 w.heap.size w.heap.size xs.length (List.replicate xs.length 0)):=hown1
 have hb1:Below w.heap.size w w1:=(Below.refl _ _).grown hgrow (Nat.le_refl _) (fun k hk=>by cases hk)
 clear hown hown1 hgrow
 go_wp2_with fail
 go_loopw[4] (fun i wr=>∃(k:Nat) (ys:List UInt8),k≤xs.length∧i=.int .i64 k∧ys.length=xs.length∧ys.take k=xs.take k∧OwnY wr w.heap.size w.heap.size xs.length ys∧Below w.heap.size w wr) (fun i _=>xs.length-(intOf i).toNat)
 case atStart=>exact⟨0,_,Nat.zero_le _,rfl,List.length_replicate ..,rfl,HW.out,hb1⟩
 case round=>
  obtain⟨k,ys,hk,rfl,hfl,hft,hO,hbr⟩:=hrel
  have HO:Hid (ys.length=xs.length∧ys.take k=xs.take k∧OwnY wr w.heap.size w.heap.size xs.length ys):=⟨hfl,hft,hO⟩
  clear hfl hft hO
  by_cases hlt:k<xs.length
  ·obtain⟨x,hx⟩:∃x,xs[k]?=some x:=⟨_,List.getElem?_eq_getElem hlt⟩
   obtain⟨y,hy⟩:∃y,ys[k]?=some y:=⟨_,List.getElem?_eq_getElem (by rw[HO.1];exact hlt)⟩
   have c0:=(HE.below hbr hb) k x hx
   have d0:=HO.2.2.at k y hy
   rw[Nat.zero_add]at d0
   have fz:wr.frozen? ⟨w.heap.size,k,none⟩=false:=World.ownsRow.frozenAt HO.2.2 k
   have z:(k:Int)<(xs.length:Int):=by omega
   have HN:Hid (OwnY (wr.setCell ⟨w.heap.size,k,none⟩ (ub x)) w.heap.size w.heap.size xs.length (ys.set k x)∧(ys.set k x).take (k+1)=xs.take (k+1)):=by
    refine⟨HO.2.2.set k x,?_⟩
    have hk2:k<ys.length:=by rw[HO.1];exact hlt
    rw[List.take_add_one,List.take_add_one,List.take_set_of_le (Nat.le_refl _),HO.2.1,hx,List.getElem?_set_self hk2]
   have hbn:Below w.heap.size w (wr.setCell ⟨w.heap.size,k,none⟩ (ub x)):=hbr.setCell (p:=⟨w.heap.size,k,none⟩) (Nat.le_refl _) _
   clear hx hy
   go_wp2_with fail
   go_roundw
   case rel=>exact⟨k+1,ys.set k x,by omega,by go_num,by rw[List.length_set];exact HO.1,HN.2,HN.1,hbn⟩
   case measure=>simp[intOf];omega
  ·have z:¬(k:Int)<(xs.length:Int):=by omega
   have HF:Hid (ys=xs):=by
    have h2:=HO.2.1
    have h3:=HO.1
    rw[List.take_of_length_le (by omega),List.take_of_length_le (by omega)]at h2
    exact h2
   go_wp2_with fail
   go_ret
   exact⟨w.heap.size,rfl,by rw[←HF.out];rw[HF.out];have:=HO.2.2;rw[HF.out]at this;exact this,hbr⟩
def BysIn (w:World) (v:Value) (xs:List UInt8):Prop:=
 xs.length≤maxLen∧((xs= []∧∃a cap,v=.slice a 0 cap)∨∃b off cap,v=.slice (some ⟨b,off,none⟩) xs.length cap∧b<w.heap.size∧BysAt w b off xs)
theorem BysIn.slice {w:World} {v:Value} {xs:List UInt8} (h:BysIn w v xs):∃a cap,v=.slice a xs.length cap:=by
 rcases h.2 with⟨rfl,a,cap,rfl⟩|⟨b,off,cap,rfl,_⟩
 ·exact⟨_,_,rfl⟩
 ·exact⟨_,_,rfl⟩
theorem BysIn.below {w w':World} {v:Value} {xs:List UInt8} (h:BysIn w v xs) (hb:Below w.heap.size w w'):BysIn w' v xs:=by
 refine⟨h.1,?_⟩
 rcases h.2 with k|⟨b,off,cap,hv,hlt,hA⟩
 ·exact .inl k
 ·exact .inr ⟨b,off,cap,hv,Nat.lt_of_lt_of_le hlt hb.size,hA.below hb hlt⟩
theorem bysIn_of_trod {H:Type} {enc:TypeId×Value→H} {w:World} {fuel:Nat} {v:Value} {x:DataW H×List MemPlace}
  (h:DataW.trod enc Tryz.prog w 0 (fun _=>true) true fuel 22 [v]=some x) (hlt:∀p∈x.2,p.block<w.heap.size):∃xs,BysIn w v xs:=by
 have hc:Tryz.prog.cellsOf 5=1:=by kernel_rfl
 rcases open_ints Tryz.underlying22 Tryz.underlying5 hc h with⟨hcs,hx⟩|⟨a,len,cap,zs,hcs,_,hl,hm,hz,hx,hcell,hwz⟩
 ·simp only[List.cons.injEq,and_true]at hcs
  exact⟨[],Nat.zero_le _,.inl ⟨rfl,none,0,hcs⟩⟩
 ·simp only[List.cons.injEq,and_true]at hcs
  simp only[if_true]at hz
  by_cases h0:len=0
  ·subst h0;exact⟨[],Nat.zero_le _,.inl ⟨rfl,some a,cap,hcs⟩⟩
  ·obtain⟨ab,ao,spot⟩:=a
   have hspot:spot=none:=by simpa [Addr.add]using World.cell?_spot (hcell 0 (by omega))
   subst hspot
   have hlen:((zs.take len).map fun z=>UInt8.ofNat z.toNat).length=len:=by
    rw[List.length_map,List.length_take];omega
   refine⟨(zs.take len).map fun z=>UInt8.ofNat z.toNat,by rw[hlen];omega,.inr ⟨ab,ao,cap,by rw[hlen];exact hcs,?_,?_⟩⟩
   ·rw[hx]at hlt
    exact hlt (.cell ab (ao+0)) (by simp only[MemPlace.row,List.mem_map,List.mem_range];exact⟨0,by omega,rfl⟩)
   ·intro k y hy
    have hk:k<len:=by
     have:=(List.getElem?_eq_some_iff.1 hy).1
     rw[hlen]at this
     exact this
    have h1:=hcell k (by omega)
    rw[Addr.add_lit]at h1
    have hb:=range_u8 hwz k
    rw[List.getD_eq_getElem?_getD]at h1
    rw[h1]
    rw[List.getElem?_map,List.getElem?_take_of_lt hk]at hy
    cases hq:zs[k]? with
    |none=>rw[hq]at hy;cases hy
    |some z=>
     rw[hq]at hy hb
     simp only[Option.getD_some,Option.map_some,Option.some.injEq]at hy hb⊢
     rw[←hy]
     show Value.int .u8 z=Value.int .u8 ((UInt8.ofNat z.toNat).toNat:Int)
     congr 1
     rw[UInt8.toNat_ofNat']
     have:z.toNat%2^8=z.toNat:=Nat.mod_eq_of_lt (by omega)
     rw[this];omega
set_option maxHeartbeats 1000000 in
theorem toByteS_nil (a:Option Addr) (cap:Nat) (w:World):
  Calls Tryz.prog 7 #[.slice a 0 cap] w fun e w'=>
   ∃g,e=.returned (.slice (some ⟨g,0,none⟩) 0 0)∧OwnY w' w.heap.size g 0 []∧Below w.heap.size w w':=by
 obtain⟨i,hi,hz0,hz1,hz2⟩:=info_parts Tryz.infoByte
 have HI:Hid (Tryz.prog.info? 5=some i∧i.zero=some (.int .u8 0)∧i.size=1∧i.bytes=1):=⟨hi,hz0,hz1,hz2⟩
 clear hi hz0 hz1 hz2
 go_enter Tryz.func7,Tryz.ntmps7
 go_wp2_with (at_make;refine wpList_make_full _ rfl _ _ 22 rfl w.heap.size 5 i _ 1 Tryz.underlying22 HI.1 HI.2.1 HI.2.2.1 _ _ _ _ 0 rfl rfl ?_ ?_ ?hb ?hm ?hs ?_)
 case hb=>rw[HI.2.2.2];omega
 case hm=>unfold maxLen;omega
 case hs=>exact Nat.le_refl _
 ·rfl
 ·rfl
 intro w1 hown hgrow
 rw[made_zeroY]at hown
 have hb1:Below w.heap.size w w1:=(Below.refl _ _).grown hgrow (Nat.le_refl _) (fun k hk=>by cases hk)
 have HW:Hid (OwnY w1 w.heap.size w.heap.size 0 []):=hown
 clear hown hgrow
 go_wp2_with fail
 go_loopw[4] (fun i wr=>i=.int .i64 0∧wr=w1) (fun i _=>0)
 case atStart=>exact⟨rfl,rfl⟩
 case round=>
  obtain⟨rfl,rfl⟩:=hrel
  go_wp2_with fail
  go_ret
  exact⟨w.heap.size,rfl,HW.out,hb1⟩
theorem toByteS_in (v:Value) (xs:List UInt8) (w:World) (h:BysIn w v xs) (h1:xs.length≤1048576):
  Calls Tryz.prog 7 #[v] w fun e w'=>
   ∃g,e=.returned (.slice (some ⟨g,0,none⟩) xs.length xs.length)∧OwnY w' w.heap.size g xs.length xs∧Below w.heap.size w w':=by
 rcases h.2 with⟨rfl,a,cap,rfl⟩|⟨b,off,cap,rfl,hlt,hA⟩
 ·exact toByteS_nil a cap w
 ·exact toByteS_core b off cap xs w hA hlt h1
set_option maxHeartbeats 1000000 in
theorem markByteS_own (base g cp:Nat) (xs:List UInt8) (w:World) (h:OwnY w base g cp xs) (hn:xs.length≤1048576):
  Calls Tryz.prog 11 #[.slice (some ⟨g,0,none⟩) xs.length cp,.int .i64 1] w fun e w'=>e=.returned (.int .i64 (1+xs.length))∧w.grownBy w' (some g):=by
 have HO:Hid (OwnY w base g cp xs):=h
 clear h
 go_enter Tryz.func11,Tryz.ntmps11
 go_wp2_with fail
 go_loopw[1,5] (fun c i wr=>∃(k:Nat) (ys:List UInt8),k≤xs.length∧c=.int .i64 (1+(k:Int))∧i=.int .i64 k∧ys.length=xs.length∧OwnY wr base g cp ys∧w.grownBy wr (some g)) (fun _ i _=>xs.length-(intOf i).toNat)
 case atStart=>exact⟨0,xs,Nat.zero_le _,rfl,rfl,rfl,HO.out,grown_of_below (Below.refl _ _) _⟩
 case round=>
  obtain⟨k,ys,hk,rfl,rfl,hyl,hY,hG⟩:=hrel
  have HY:Hid (OwnY wr base g cp ys∧w.grownBy wr (some g)∧ys.length=xs.length):=⟨hY,hG,hyl⟩
  clear hY hG hyl
  by_cases hlt:k<xs.length
  ·obtain⟨y,hy⟩:∃y,ys[k]?=some y:=⟨_,List.getElem?_eq_getElem (by rw[HY.2.2];exact hlt)⟩
   have d0:=HY.1.at k y hy
   rw[Nat.zero_add]at d0
   have fz:wr.frozen? ⟨g,k,none⟩=false:=World.ownsRow.frozenAt HY.1 k
   have z:(k:Int)<(xs.length:Int):=by omega
   obtain⟨x,hx⟩:=qE (UInt8.ofNat (1+k):UInt8)
   have hv:IntKind.u8.wrap (1+(k:Int))=(x.toNat:Int):=by
    rw[hx,UInt8.toNat_ofNat']
    simp only[IntKind.wrap,IntKind.bits,IntKind.signed,Bool.false_and,Bool.false_eq_true,if_false]
    omega
   have HN:Hid (OwnY (wr.setCell ⟨g,k,none⟩ (ub x)) base g cp (ys.set k x)∧w.grownBy (wr.setCell ⟨g,k,none⟩ (ub x)) (some g)):=⟨HY.1.set k x,HY.2.1.trans (grown_set wr g k (ub x))⟩
   clear hy hx
   go_wp2_with fail
   exact⟨⟨k+1,ys.set k x,by omega,by(first|rfl|(congr 1<;>omega)),by go_num,by rw[List.length_set];exact HY.2.2,HN.1,HN.2⟩,by simp[intOf];omega⟩
  ·have z:¬(k:Int)<(xs.length:Int):=by omega
   obtain rfl:k=xs.length:=by omega
   go_wp2_with fail
   go_ret
   exact⟨rfl,HY.2.1⟩
end Go.Proofs.YtgnpcenpcmdlfaaGreatDoor
