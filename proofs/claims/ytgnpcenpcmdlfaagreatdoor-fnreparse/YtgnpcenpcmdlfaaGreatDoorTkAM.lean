import Derived.Test.YtgnpcenpcmdlfaaGreatDoorTkAB
import Derived.Test.YtgnpcenpcmdlfaaGreatDoorTkAA
import Derived.Test.YtgnpcenpcmdlfaaGreatDoorTkAL
import Derived.Deep.LoopGhost
import Derived.Test.YtgnpcenpcmdlfaaGreatDoorTkAI
import Derived.Deep.CutBlock
namespace Go.Proofs.YtgnpcenpcmdlfaaGreatDoor
open Go.ChangeShapes Go.WideShapes Go.ChangeAt Go.RowKit Go.Deep
set_option linter.unusedVariables false
set_option linter.unusedSimpArgs false
set_option maxRecDepth 100000
set_option maxHeartbeats 32000000
variable {w:World} {base g cp:Nat} {ks:List Tk}
theorem yUy {N:Nat} (h:yBs w base g cp ks) {W:World} (hW:W=(((w.alloc (Obj.cells #[.slice (some ⟨g,0,none⟩) N cp,.int .i64 0,.int .i64 0,.int .i64 0,.int .i64 0] 41)).alloc (Obj.cells #[.slice none 0 0,.int .i64 0,.int .i64 0,.int .i64 0,.int .i64 0] 41)).alloc (Obj.cells #[] 65)).alloc (Obj.cells #[] 86)):PB w base g cp N ks 0 0 0 0 [] [] (w.heap.size+3) 0 (w.heap.size+2) 0 W:=by
 obtain⟨X,hX⟩:=qE ((w.alloc (Obj.cells #[.slice (some ⟨g,0,none⟩) N cp,.int .i64 0,.int .i64 0,.int .i64 0,.int .i64 0] 41)).alloc (Obj.cells #[.slice none 0 0,.int .i64 0,.int .i64 0,.int .i64 0,.int .i64 0] 41):World);obtain⟨b1,b2,b3⟩:=yFp [.slice (some ⟨g,0,none⟩) N cp,.int .i64 0,.int .i64 0,.int .i64 0,.int .i64 0] [.slice none 0 0,.int .i64 0,.int .i64 0,.int .i64 0,.int .i64 0] hX;have hz:X.heap.size=w.heap.size+2:=by rw[hX];simp
 rw[←hX]at hW;obtain⟨Y,hY⟩:=qE (X.alloc (Obj.cells #[] 65):World);rw[←hY]at hW;have hzy:Y.heap.size=w.heap.size+3:=by rw[hY];simp;omega
 have hbY:Below X.heap.size X Y:=by rw[hY];exact qB
 have hbW:Below Y.heap.size Y W:=by rw[hW];exact qB
 have hbXW:Below X.heap.size X W:=hbY.trans (hbW.mono hbY.size);have o1:yAu Y (w.heap.size+2) (w.heap.size+2) 0 []:=by have:=World.ownsRow_lit (e:=65) (size:=7) X #[] 0 (base:=w.heap.size+2) (by omega) (by decide) (by simp);rw[hz,←hY]at this;exact this
 have o2:yGm W (w.heap.size+2) (w.heap.size+3) 0 []:=by have:=World.ownsRow_lit (e:=86) (size:=2) Y #[] 0 (base:=w.heap.size+2) (by omega) (by decide) (by simp);rw[hzy,←hW]at this;exact this
 have hb:=b3.trans (hbXW.mono (by omega));exact⟨h.below hb,b1.below hbXW,b2.below hbXW,o2,o1.below hbW (by omega),by omega,hb,h.lt.2⟩
theorem yM4 {N:Nat} (h:yBs w base g cp ks) (hN:N=ks.length) (hl:N≤100000) (hT:Toks ks):
  Calls Tryz.prog 21 #[parV g N cp 0 0 0 0] w (ParP w g cp N (⟨ks,0,[],[],true⟩:Ms)):=by
 have HN:Hid (N=ks.length∧N≤1000000∧Toks ks∧0<N):=⟨hN,by omega,hT,by rw[hN];exact List.length_pos_iff.2 hT.ne⟩;obtain⟨W0,hW0⟩:∃V:World,V=(((w.alloc (Obj.cells #[.slice (some ⟨g,0,none⟩) N cp,.int .i64 0,.int .i64 0,.int .i64 0,.int .i64 0] 41)).alloc (Obj.cells #[.slice none 0 0,.int .i64 0,.int .i64 0,.int .i64 0,.int .i64 0] 41)).alloc (Obj.cells #[] 65)).alloc (Obj.cells #[] 86):=⟨_,rfl⟩;have HB0:Hid (PB w base g cp N ks 0 0 0 0 [] [] (w.heap.size+3) 0 (w.heap.size+2) 0 W0):=yUy h hW0;clear h hT hN;go_enter Tryz.func21,Tryz.ntmps21;go_wp2_with fail;rw[←hW0];clear hW0;go_loopg[4,5,6] (N+1) (fun gk ov sv wv wr=>PRel w base g cp N ks (⟨ks,0,[],[],true⟩:Ms) gk ov sv wv wr);case atStart=>exact .inl ⟨(⟨ks,0,[],[],true⟩:Ms),0,w.heap.size+3,0,w.heap.size+2,0,rfl,rfl,rfl,by omega,⟨rfl,by simp,by simp,HN.2.2.2,fun r q=>q,by simp⟩,HB0.out⟩
 case round=>
  clear HB0;rcases hrel with⟨m,i,gs,cs,go,co,rfl,rfl,rfl,hgk,hM,hB⟩|⟨c,a,pi,pn,gs,cs,go,co,st,out,b,rfl,rfl,rfl,hE,hc,hB⟩;case inr=>as_aux_lemma=>
   have HB:Hid (PB w base g cp N ks pi pn c a st out gs cs go co wr∧yAl (⟨ks,0,[],[],true⟩:Ms) (.error (c,a))∧1≤c):=⟨hB,hE,hc⟩;have zc:(c==0)=false:=by rw[beq_eq_false_iff_ne];omega
   obtain⟨a0,a1,a2,a3,a4⟩:=hB.p.c5;clear hE hc;obtain⟨ol,hol⟩:=qE out.length;obtain⟨sl,hsl⟩:=qE st.length;rw[←hol,←hsl];clear hol hsl;obtain⟨W9,hW9⟩:∃V:World,V=setP wr (w.heap.size+1) (.slice (some ⟨g,0,none⟩) N cp) (.int .i64 (pi:Int)) (.int .i64 (pn:Int)) (.int .i64 c) (.int .i64 (a:Int)):=⟨_,rfl⟩;have HR:Hid (ParP w g cp N (⟨ks,0,[],[],true⟩:Ms) (.returned (.tuple #[parV g N cp pi pn c a,.slice (some ⟨go,0,none⟩) ol co])) W9∧yA W9 w.heap.size 41 5 (w.heap.size+1) [.slice (some ⟨g,0,none⟩) N cp,.int .i64 (pi:Int),.int .i64 (pn:Int),.int .i64 c,.int .i64 (a:Int)]):=HB.1.fail HB.2.1 HB.2.2 hW9;obtain⟨c0,c1,c2,c3,c4⟩:=hB.rp.c5;obtain⟨e0,e1,e2,e3,e4⟩:=hB.rp.f5;obtain⟨p0,p1,p2,p3,p4⟩:=HR.2.c5;unfold setP at hW9;go_wp2_with fail;rw[←hW9];exact bodyPost_ret (v:=.tuple #[parV g N cp pi pn c a,.slice (some ⟨go,0,none⟩) ol co]) (by simp[results,Tryz.results21,go_sem,p0,p1,p2,p3,p4]) rfl HR.1
  case inl=>as_aux_lemma=>
   have hi:=hM.iN;obtain⟨k,hk⟩:∃k,ks[i]?=some k:=⟨_,List.getElem?_eq_getElem (by rw[←HN.1];exact hi)⟩;have HM:Hid (PM N ks (⟨ks,0,[],[],true⟩:Ms) m i∧hdK m.ks=k.k∧hdA m.ks=k.pos∧m.ks.tail=ks.drop (i+1)∧ks[i]?=some k):=⟨hM,by rw[hM.ks];exact(yAh hk).1,by rw[hM.ks];exact(yAh hk).2.1,by rw[hM.ks];exact(yAh hk).2.2,hk⟩;have HOp:Hid (∀wx,Below wr.heap.size wr wx→Calls Tryz.prog 45 #[.slice (some ⟨gs,0,none⟩) m.st.length cs] wx fun e w'=>e=.returned (.int .i64 (yBr m.st:Int))∧w'=wx):=fun wx hx=>yOc (hB.st.below hx) (by have:=hM.ln;omega);obtain⟨t0,t1,t2,t3⟩:=yBc hB.tk hk;have zi:(i:Int)<(N:Int):=by omega
   have HB:Hid (PB w base g cp N ks i m.made 0 0 m.st m.out gs cs go co wr∧m.made≤200∧m.out.length+m.st.length≤i):=⟨hB,hM.md,hM.ln⟩;obtain⟨a0,a1,a2,a3,a4⟩:=hB.p.c5;obtain⟨W7,hW7⟩:∃V:World,V=wr.alloc (Obj.cells #[.int .i64 (tkN k.k),.int .u64 k.k.nm,.string (tkT k.k),.int .i64 (k.pos:Int)] 80):=⟨_,rfl⟩;have hb7:Below wr.heap.size wr W7:=by rw[hW7];exact qB
   obtain⟨b7,hb7e⟩:=qE wr.heap.size;have H7:Hid (PB w base g cp N ks i m.made 0 0 m.st m.out gs cs go co W7∧yA W7 (w.heap.size+2) 80 4 b7 (tkV k)∧¬b7=gs∧¬b7=go):=⟨hB.up hb7,by rw[hb7e,hW7];exact yAb wr _ hB.lts.2.2 rfl,by have:=hB.lts;omega,by have:=hB.lts;omega⟩;have HOp7:Hid (Calls Tryz.prog 45 #[.slice (some ⟨gs,0,none⟩) m.st.length cs] W7 fun e w'=>e=.returned (.int .i64 (yBr m.st:Int))∧w'=W7):=HOp.out W7 hb7;obtain⟨sl,hsl⟩:=qE m.st.length;obtain⟨ol,hol⟩:=qE m.out.length;obtain⟨op,hop⟩:=qE ((yBr m.st:Int):Int);have HL:Hid (sl=m.st.length∧ol=m.out.length∧op=(yBr m.st:Int)):=⟨hsl,hol,hop⟩;rw[←hsl,←hop]at HOp7;rw[←hol,←hsl];clear hsl hol hop hM hB hk hb7 HOp;go_upto_region 6 with fail;rw[←hW7,←hb7e];clear hW7 hb7e t0 t1 t2 t3 a0 a1 a2 a3 a4;go_wp2_with fail;refine HOp7.mono ?_;clear HOp7;rintro e wx ⟨rfl,hwx⟩;rw[hwx];clear hwx;have u0:=H7.2.1.cell (j:=0) rfl;have u2:=H7.2.1.cell (j:=2) rfl;cases hbd:k.k.isBad
   case true=>as_aux_lemma=>
    have z6:(tkN k.k==6)=true:=by rw[beq_iff_eq];exact yLc.2 hbd
    have HE:Hid (yAl (⟨ks,0,[],[],true⟩:Ms) (.error (2,k.pos))):=HM.1.go _ (.fin (by
     unfold yDe
     rw[HM.2.1,HM.2.2.1,if_pos hbd]))
    have HFl:Hid (Calls Tryz.prog 46 #[parV g N cp i m.made 0 0,.int .i64 2] W7 fun e w'=>e=.returned (parV g N cp i m.made 2 k.pos)∧Below W7.heap.size W7 w'):=by have h9:=yBd H7.1.tk HN.1 HN.2.1 HM.2.2.2.2 m.made 0 0 2;rw[show(if k.k.isBad=true then(2:Int)else 2)=2 from by simp]at h9;exact h9
    obtain⟨a0,a1,a2,a3,a4⟩:=H7.1.p.c5;go_wp2_with fail;refine HFl.mono ?_;clear HFl;rintro e v9 ⟨rfl,hb9⟩;have H9:=H7.1.up hb9;clear hb9 a0 a1 a2 a3 a4;obtain⟨W9,hW9⟩:∃V:World,V=setP v9 (w.heap.size+1) (.slice (some ⟨g,0,none⟩) N cp) (.int .i64 (i:Int)) (.int .i64 (m.made:Int)) (.int .i64 2) (.int .i64 (k.pos:Int)):=⟨_,rfl⟩;have HR:Hid (ParP w g cp N (⟨ks,0,[],[],true⟩:Ms) (.returned (.tuple #[parV g N cp i m.made 2 k.pos,.slice (some ⟨go,0,none⟩) ol co])) W9∧yA W9 w.heap.size 41 5 (w.heap.size+1) [.slice (some ⟨g,0,none⟩) N cp,.int .i64 (i:Int),.int .i64 (m.made:Int),.int .i64 2,.int .i64 (k.pos:Int)]):=H9.fail (HE.out) (by decide) hW9;obtain⟨c0,c1,c2,c3,c4⟩:=H9.rp.c5;obtain⟨e0,e1,e2,e3,e4⟩:=H9.rp.f5;obtain⟨p0,p1,p2,p3,p4⟩:=HR.2.c5;unfold setP at hW9;go_wp2_with fail;rw[←hW9];exact bodyPost_ret (v:=.tuple #[parV g N cp i m.made 2 k.pos,.slice (some ⟨go,0,none⟩) ol co]) (by simp[results,Tryz.results21,go_sem,p0,p1,p2,p3,p4]) rfl HR.1
   obtain⟨mks,mmade,mout,mst,mwant⟩:=m;have hbd6:(tkN k.k==6)=false:=by rw[beq_eq_false_iff_ne];intro q;rw[yLc.1 q]at hbd;cases hbd
   have Hbd:Hid (k.k.isBad=false):=hbd;clear hbd;cases mwant
   case true=>as_aux_lemma=>
    have H7b:Hid (PB w base g cp N ks i mmade 0 0 mst mout gs cs go co W7∧yA W7 (w.heap.size+2) 80 4 b7 (tkV k)∧¬b7=gs∧¬b7=go):=H7.out;have H7p:Hid (PB w base g cp N ks i mmade 0 0 mst mout gs cs go co W7):=H7.1;have HMb:Hid (PM N ks (⟨ks,0,[],[],true⟩:Ms) ⟨mks,mmade,mout,mst,true⟩ i∧ks[i]?=some k):=⟨HM.1,HM.2.2.2.2⟩;have HLb:Hid (sl=mst.length∧ol=mout.length∧op=(yBr mst:Int)):=HL.out;have hmd:mmade≤200:=HMb.1.md;have hln:mout.length+mst.length≤i:=HMb.1.ln;clear H7 HM HL HB;obtain⟨tt,htt⟩:=qE (tkT k.k);obtain⟨tn,htn⟩:=qE (tkN k.k);rw[←htt]at u2;rw[←htn]at u0 hbd6;have Htt:Hid (tt=tkT k.k):=htt;by_cases hw:∃kd,k.k=.word kd;case pos=>as_aux_lemma=>
     obtain⟨kd,hkk⟩:=hw;rw[hkk]at htn htt;obtain rfl:tn=1:=htn;clear hbd6;by_cases h16:kd=16;case pos=>as_aux_lemma=>
      subst h16;have zt:(tt.toList== [105,102])=true:=by rw[htt,beq_iff_eq,ByteArray.toList_eq];rfl
      clear htt;obtain⟨k1,hk1,hi1⟩:=yGy HN.2.2.1 HN.1 HMb.2 (by rw[hkk];exact⟨(fun q=>nomatch q),(fun q=>nomatch q)⟩)
      have HE:Hid ((¬mmade<200→yAl (⟨ks,0,[],[],true⟩:Ms) (.error (5,k.pos)))∧
        (mmade<200→k1.k.isSign 40=false→yAl (⟨ks,0,[],[],true⟩:Ms) (.error (if k1.k.isBad=true then 2 else 3,k1.pos)))∧
        (mmade<200→k1.k.isSign 40=true→yBr mst=20→yAl (⟨ks,0,[],[],true⟩:Ms) (.error (4,k1.pos)))∧
        (mmade<200→k1.k.isSign 40=true→¬yBr mst=20→PM N ks (⟨ks,0,[],[],true⟩:Ms) ⟨ks.drop (i+2),mmade+1,mout,(4,2)::mst,true⟩ (i+2))):=yX4 HMb.1 HMb.2 HN.1 HN.2.2.1 hkk hk1
      have HK1:Hid (ks[i+1]?=some k1):=hk1;clear hk1 hkk;by_cases h2:mmade<200;case neg=>as_aux_lemma=>
       have HMk:Hid (Calls Tryz.prog 47 #[parV g N cp i mmade 0 0] W7 fun e w'=>e=.returned (parV g N cp i mmade 5 k.pos)∧Below W7.heap.size W7 w'):=by
        refine(yB8 H7p.tk HN.1 HN.2.1 HMb.2 Hbd.out mmade hmd 0).mono ?_;rintro e w' ⟨hb,⟨q,rfl⟩|⟨q,rfl⟩⟩
        ·exact absurd q h2
        ·exact⟨rfl,hb⟩
       have HE5:Hid (yAl (⟨ks,0,[],[],true⟩:Ms) (.error (5,k.pos))):=HE.1 h2;clear HE HK1;go_upto_region 11 with fail;clear u0 u2 zt;obtain⟨a0,a1,a2,a3,a4⟩:=H7p.p.c5;go_wp2_with fail;refine HMk.mono ?_;clear HMk;rintro e v8 ⟨rfl,hbv8⟩;have hv8:=H7p.up hbv8;clear hbv8 a0 a1 a2 a3 a4;obtain⟨W9,hW9⟩:∃V:World,V=setP v8 w.heap.size (.slice (some ⟨g,0,none⟩) N cp) (.int .i64 ((i:Nat):Int)) (.int .i64 ((mmade:Nat):Int)) (.int .i64 (5)) (.int .i64 ((k.pos:Nat):Int)):=⟨_,rfl⟩;have H9:Hid (PB w base g cp N ks (i) (mmade) (5) (k.pos) (mst) (mout) gs cs go co W9):=by rw[hW9];exact hv8.setp _ _ _ _
       obtain⟨c0,c1,c2,c3,c4⟩:=hv8.p.c5;obtain⟨e0,e1,e2,e3,e4⟩:=hv8.p.f5;unfold setP at hW9;go_upto_region 12 with fail;rw[←hW9];clear hW9 hv8 c0 c1 c2 c3 c4 e0 e1 e2 e3 e4;obtain⟨W10,hW10⟩:∃V:World,V=W9.alloc (Obj.cells #[.int .i64 4,.int .i64 2] 86):=⟨_,rfl⟩;have hbW10:Below W9.heap.size W9 W10:=by rw[hW10];exact qB
       have HCW10:Hid (PB w base g cp N ks (i) (mmade) (5) (k.pos) (mst) (mout) gs cs go co W10∧∀j u,(enV (4,2))[j]?=some u→W10.cell? ⟨W9.heap.size,j,none⟩=some u):=⟨H9.up hbW10,by rw[hW10];exact yAt W9 _ _⟩;clear hbW10;have hq1:(mst).reverse.length≤1000000:=by rw[List.length_reverse];omega
       have hq2:w.heap.size+2≤W10.heap.size:=HCW10.1.lts.2.2;have hq3:Hid (sl=(mst).reverse.length):=by show _=_;rw[List.length_reverse];exact HLb.1
       obtain⟨a0,a1,a2,a3,a4⟩:=H9.p.c5;go_wp2_with (at_builtin;(try rw[←hW10]);refine yA6 _ rfl _ _ rfl (w.heap.size+2) gs cs (sl) W9.heap.size 1 (mst).reverse (4,2) rfl rfl hq3.out HCW10.1.st HCW10.2 hq1 hq2 ?_);intro g2 c2 w2 hO' hgr hat;have hgr2:W10.grownBy w2 (some gs):=by first|exact hgr|(rw[hW10];exact hgr)
       have hat2:g2=gs∨g2=W10.heap.size:=by first|exact hat|(rw[hW10];exact hat)|(rw[hW10];simpa using hat)
       have HA:Hid (PB w base g cp N ks (i) (mmade) (5) (k.pos) ((4,2)::mst) (mout) g2 c2 go co w2):=HCW10.1.pushS hO' hgr2 hat2;clear hO' hgr hgr2 hat hat2 hW10 HCW10 hq1 hq2 hq3 a0 a1 a2 a3 a4;have a1:=HA.p.cell (j:=1) rfl;have e1:=HA.p.frozen 1;go_wp2_with fail;go_roundg (gk-1);case measure=>omega
       case rel=>exact .inr ⟨5,k.pos,i+1,mmade,g2,c2,go,co,(4,2)::mst,mout,true,by rw[HLb.2.1],by rw[HLb.1];rfl,rfl,HE5.out,(by decide),HA.seti _ (by go_num)⟩
      case pos=>as_aux_lemma=>
       obtain⟨i1,hi1e⟩:=qE (i+1);obtain⟨md1,hmd1e⟩:=qE (mmade+1);have HI1:Hid (i1=i+1∧md1=mmade+1):=⟨hi1e,hmd1e⟩;have hi1l:i1≤i+1:=by omega
       have hi1g:i+1≤i1:=by omega
       clear hi1e hmd1e;have HMk:Hid (Calls Tryz.prog 47 #[parV g N cp i mmade 0 0] W7 fun e w'=>e=.returned (parV g N cp i1 md1 0 0)∧Below W7.heap.size W7 w'):=by
        refine(yB8 H7p.tk HN.1 HN.2.1 HMb.2 Hbd.out mmade hmd 0).mono ?_;rintro e w' ⟨hb,⟨q,rfl⟩|⟨q,rfl⟩⟩
        ·rw[HI1.1,HI1.2];exact⟨rfl,hb⟩
        ·exact absurd h2 q
       have HK1b:Hid (ks[i1]?=some k1):=by show _=_;rw[HI1.1];exact HK1.out
       go_upto_region 11 with fail;clear u0 u2 zt;obtain⟨a0,a1,a2,a3,a4⟩:=H7p.p.c5;go_wp2_with fail;refine HMk.mono ?_;clear HMk;rintro e v8 ⟨rfl,hbv8⟩;have hv8:=H7p.up hbv8;clear hbv8 a0 a1 a2 a3 a4;obtain⟨W9,hW9⟩:∃V:World,V=setP v8 w.heap.size (.slice (some ⟨g,0,none⟩) N cp) (.int .i64 ((i1:Nat):Int)) (.int .i64 ((md1:Nat):Int)) (.int .i64 (0)) (.int .i64 0):=⟨_,rfl⟩;have H9:Hid (PB w base g cp N ks (i1) (md1) (0) (0) (mst) (mout) gs cs go co W9):=by rw[hW9];exact hv8.setp _ _ _ _
       obtain⟨c0,c1,c2,c3,c4⟩:=hv8.p.c5;obtain⟨e0,e1,e2,e3,e4⟩:=hv8.p.f5;unfold setP at hW9;go_upto_region 12 with fail;rw[←hW9];clear hW9 hv8 c0 c1 c2 c3 c4 e0 e1 e2 e3 e4;have HIs:Hid (Calls Tryz.prog 48 #[parV g N cp i1 md1 0 0,.string ⟨#[40]⟩] W9 fun e w'=>e=.returned (.bool (k1.k.isSign 40))∧Below W9.heap.size W9 w'):=yCl H9.tk HN.1 HN.2.1 HK1b.out (yDm HN.2.2.1 HK1b.out) md1 0 0 40 ⟨#[40]⟩ (by rw[ByteArray.toList_eq];rfl);obtain⟨a0,a1,a2,a3,a4⟩:=H9.p.c5;go_wp2_with fail;refine HIs.mono ?_;clear HIs;rintro e v1 ⟨rfl,hb1⟩;have H10:Hid (PB w base g cp N ks (i1) (md1) (0) (0) (mst) (mout) gs cs go co v1):=H9.up hb1;clear hb1 H9 a0 a1 a2 a3 a4;cases hsg:k1.k.isSign 40
       case false=>as_aux_lemma=>
        obtain⟨cc,hcc⟩:=qE (if k1.k.isBad=true then 2 else 3:Int);have HFl:Hid (Calls Tryz.prog 46 #[parV g N cp i1 md1 0 0,.int .i64 3] v1 fun e w'=>e=.returned (parV g N cp i1 md1 cc k1.pos)∧Below v1.heap.size v1 w'):=by rw[hcc];exact yBd H10.tk HN.1 HN.2.1 HK1b.out md1 0 0 3
        have HE3:Hid (yAl (⟨ks,0,[],[],true⟩:Ms) (.error (cc,k1.pos))∧1≤cc):=⟨by rw[hcc];exact HE.2.1 h2 hsg,by rw[hcc];split<;>decide⟩;have zc:(cc==0)=false:=by rw[beq_eq_false_iff_ne];have:=HE3.2;omega
        clear hcc HE HK1 HK1b hsg;obtain⟨a0,a1,a2,a3,a4⟩:=H10.p.c5;go_wp2_with fail;refine HFl.mono ?_;clear HFl;rintro e v8 ⟨rfl,hbv8⟩;have hv8:=H10.up hbv8;clear hbv8 a0 a1 a2 a3 a4;obtain⟨W11,hW11⟩:∃V:World,V=setP v8 w.heap.size (.slice (some ⟨g,0,none⟩) N cp) (.int .i64 ((i1:Nat):Int)) (.int .i64 ((md1:Nat):Int)) (.int .i64 (cc)) (.int .i64 ((k1.pos:Nat):Int)):=⟨_,rfl⟩;have H11:Hid (PB w base g cp N ks (i1) (md1) (cc) (k1.pos) (mst) (mout) gs cs go co W11):=by rw[hW11];exact hv8.setp _ _ _ _
        obtain⟨c0,c1,c2,c3,c4⟩:=hv8.p.c5;obtain⟨e0,e1,e2,e3,e4⟩:=hv8.p.f5;unfold setP at hW11;go_upto_region 14 with fail;rw[←hW11];clear hW11 hv8 c0 c1 c2 c3 c4 e0 e1 e2 e3 e4;obtain⟨W12,hW12⟩:∃V:World,V=W11.alloc (Obj.cells #[.int .i64 4,.int .i64 2] 86):=⟨_,rfl⟩;have hbW12:Below W11.heap.size W11 W12:=by rw[hW12];exact qB
        have HCW12:Hid (PB w base g cp N ks (i1) (md1) (cc) (k1.pos) (mst) (mout) gs cs go co W12∧∀j u,(enV (4,2))[j]?=some u→W12.cell? ⟨W11.heap.size,j,none⟩=some u):=⟨H11.up hbW12,by rw[hW12];exact yAt W11 _ _⟩;clear hbW12;have hq1:(mst).reverse.length≤1000000:=by rw[List.length_reverse];omega
        have hq2:w.heap.size+2≤W12.heap.size:=HCW12.1.lts.2.2;have hq3:Hid (sl=(mst).reverse.length):=by show _=_;rw[List.length_reverse];exact HLb.1
        obtain⟨a0,a1,a2,a3,a4⟩:=H11.p.c5;go_wp2_with (at_builtin;(try rw[←hW12]);refine yA6 _ rfl _ _ rfl (w.heap.size+2) gs cs (sl) W11.heap.size 1 (mst).reverse (4,2) rfl rfl hq3.out HCW12.1.st HCW12.2 hq1 hq2 ?_);intro g2 c2 w2 hO' hgr hat;have hgr2:W12.grownBy w2 (some gs):=by first|exact hgr|(rw[hW12];exact hgr)
        have hat2:g2=gs∨g2=W12.heap.size:=by first|exact hat|(rw[hW12];exact hat)|(rw[hW12];simpa using hat)
        have HA:Hid (PB w base g cp N ks (i1) (md1) (cc) (k1.pos) ((4,2)::mst) (mout) g2 c2 go co w2):=HCW12.1.pushS hO' hgr2 hat2;clear hO' hgr hgr2 hat hat2 hW12 HCW12 hq1 hq2 hq3 a0 a1 a2 a3 a4;have a1:=HA.p.cell (j:=1) rfl;have e1:=HA.p.frozen 1;go_wp2_with fail;go_roundg (gk-1);case measure=>omega
        case rel=>exact .inr ⟨cc,k1.pos,i1+1,md1,g2,c2,go,co,(4,2)::mst,mout,true,by rw[HLb.2.1],by rw[HLb.1];rfl,rfl,HE3.1,HE3.2,HA.seti _ (by go_num)⟩
       case true=>as_aux_lemma=>
        by_cases ho:yBr mst=20;case pos=>as_aux_lemma=>
         have zo:(op==20)=true:=by rw[beq_iff_eq,HLb.2.2,ho];rfl
         have HFl:Hid (∀wx,Below v1.heap.size v1 wx→Calls Tryz.prog 46 #[parV g N cp i1 md1 0 0,.int .i64 4] wx fun e w'=>e=.returned (parV g N cp i1 md1 4 k1.pos)∧Below wx.heap.size wx w'):=fun wx hx=>by have h9:=yBd (H10.up hx).tk HN.1 HN.2.1 HK1b.out md1 0 0 4;rw[TkK.isSign_eq hsg]at h9;exact h9
         have HFl2:Hid (Calls Tryz.prog 46 #[parV g N cp i1 md1 0 0,.int .i64 4] v1 fun e w'=>e=.returned (parV g N cp i1 md1 4 k1.pos)∧Below v1.heap.size v1 w'):=HFl.out v1 (Below.refl _ _);have HE4:Hid (yAl (⟨ks,0,[],[],true⟩:Ms) (.error (4,k1.pos))):=HE.2.2.1 h2 hsg ho;clear HE HK1 HK1b hsg ho HFl;obtain⟨a0,a1,a2,a3,a4⟩:=H10.p.c5;go_wp2_with fail;refine HFl2.mono ?_;clear HFl2;rintro e v8 ⟨rfl,hbv8⟩;have hv8:=H10.up hbv8;clear hbv8 a0 a1 a2 a3 a4;obtain⟨W11,hW11⟩:∃V:World,V=setP v8 w.heap.size (.slice (some ⟨g,0,none⟩) N cp) (.int .i64 ((i1:Nat):Int)) (.int .i64 ((md1:Nat):Int)) (.int .i64 (4)) (.int .i64 ((k1.pos:Nat):Int)):=⟨_,rfl⟩;have H11:Hid (PB w base g cp N ks (i1) (md1) (4) (k1.pos) (mst) (mout) gs cs go co W11):=by rw[hW11];exact hv8.setp _ _ _ _
         obtain⟨c0,c1,c2,c3,c4⟩:=hv8.p.c5;obtain⟨e0,e1,e2,e3,e4⟩:=hv8.p.f5;unfold setP at hW11;go_upto_region 16 with fail;rw[←hW11];clear hW11 hv8 c0 c1 c2 c3 c4 e0 e1 e2 e3 e4;obtain⟨W12,hW12⟩:∃V:World,V=W11.alloc (Obj.cells #[.int .i64 4,.int .i64 2] 86):=⟨_,rfl⟩;have hbW12:Below W11.heap.size W11 W12:=by rw[hW12];exact qB
         have HCW12:Hid (PB w base g cp N ks (i1) (md1) (4) (k1.pos) (mst) (mout) gs cs go co W12∧∀j u,(enV (4,2))[j]?=some u→W12.cell? ⟨W11.heap.size,j,none⟩=some u):=⟨H11.up hbW12,by rw[hW12];exact yAt W11 _ _⟩;clear hbW12;have hq1:(mst).reverse.length≤1000000:=by rw[List.length_reverse];omega
         have hq2:w.heap.size+2≤W12.heap.size:=HCW12.1.lts.2.2;have hq3:Hid (sl=(mst).reverse.length):=by show _=_;rw[List.length_reverse];exact HLb.1
         obtain⟨a0,a1,a2,a3,a4⟩:=H11.p.c5;go_wp2_with (at_builtin;(try rw[←hW12]);refine yA6 _ rfl _ _ rfl (w.heap.size+2) gs cs (sl) W11.heap.size 1 (mst).reverse (4,2) rfl rfl hq3.out HCW12.1.st HCW12.2 hq1 hq2 ?_);intro g2 c2 w2 hO' hgr hat;have hgr2:W12.grownBy w2 (some gs):=by first|exact hgr|(rw[hW12];exact hgr)
         have hat2:g2=gs∨g2=W12.heap.size:=by first|exact hat|(rw[hW12];exact hat)|(rw[hW12];simpa using hat)
         have HA:Hid (PB w base g cp N ks (i1) (md1) (4) (k1.pos) ((4,2)::mst) (mout) g2 c2 go co w2):=HCW12.1.pushS hO' hgr2 hat2;clear hO' hgr hgr2 hat hat2 hW12 HCW12 hq1 hq2 hq3 a0 a1 a2 a3 a4;have a1:=HA.p.cell (j:=1) rfl;have e1:=HA.p.frozen 1;go_wp2_with fail;go_roundg (gk-1);case measure=>omega
         case rel=>exact .inr ⟨4,k1.pos,i1+1,md1,g2,c2,go,co,(4,2)::mst,mout,true,by rw[HLb.2.1],by rw[HLb.1];rfl,rfl,HE4.out,(by decide),HA.seti _ (by go_num)⟩
        case neg=>as_aux_lemma=>
         have zo:(op==20)=false:=by rw[beq_eq_false_iff_ne,HLb.2.2];omega
         have HPm:Hid (PM N ks (⟨ks,0,[],[],true⟩:Ms) ⟨ks.drop (i1+1),md1,mout,(4,2)::mst,true⟩ (i1+1)):=by rw[HI1.1,HI1.2];exact HE.2.2.2 h2 hsg ho
         clear HE HK1 HK1b hsg ho;obtain⟨W12,hW12⟩:∃V:World,V=v1.alloc (Obj.cells #[.int .i64 4,.int .i64 2] 86):=⟨_,rfl⟩;have hbW12:Below v1.heap.size v1 W12:=by rw[hW12];exact qB
         have HCW12:Hid (PB w base g cp N ks (i1) (md1) (0) (0) (mst) (mout) gs cs go co W12∧∀j u,(enV (4,2))[j]?=some u→W12.cell? ⟨v1.heap.size,j,none⟩=some u):=⟨H10.up hbW12,by rw[hW12];exact yAt v1 _ _⟩;clear hbW12;have hq1:(mst).reverse.length≤1000000:=by rw[List.length_reverse];omega
         have hq2:w.heap.size+2≤W12.heap.size:=HCW12.1.lts.2.2;have hq3:Hid (sl=(mst).reverse.length):=by show _=_;rw[List.length_reverse];exact HLb.1
         obtain⟨a0,a1,a2,a3,a4⟩:=H10.p.c5;go_wp2_with (at_builtin;(try rw[←hW12]);refine yA6 _ rfl _ _ rfl (w.heap.size+2) gs cs (sl) v1.heap.size 1 (mst).reverse (4,2) rfl rfl hq3.out HCW12.1.st HCW12.2 hq1 hq2 ?_);intro g2 c2 w2 hO' hgr hat;have hgr2:W12.grownBy w2 (some gs):=by first|exact hgr|(rw[hW12];exact hgr)
         have hat2:g2=gs∨g2=W12.heap.size:=by first|exact hat|(rw[hW12];exact hat)|(rw[hW12];simpa using hat)
         have HA:Hid (PB w base g cp N ks (i1) (md1) (0) (0) ((4,2)::mst) (mout) g2 c2 go co w2):=HCW12.1.pushS hO' hgr2 hat2;clear hO' hgr hgr2 hat hat2 hW12 HCW12 hq1 hq2 hq3 a0 a1 a2 a3 a4;have a1:=HA.p.cell (j:=1) rfl;have e1:=HA.p.frozen 1;go_wp2_with fail;go_roundg (N+1-(i1+1));case measure=>omega
         case rel=>exact .inl ⟨⟨ks.drop (i1+1),md1,mout,(4,2)::mst,true⟩,i1+1,g2,c2,go,co,by rw[HLb.2.1],by rw[HLb.1];rfl,rfl,Nat.le_refl _,HPm.out,HA.seti _ (by go_num)⟩
     case neg=>as_aux_lemma=>
      have hg13:1≤kd∧kd≤13:=by
       have hgk:=yDm HN.2.2.1 HMb.2;rw[hkk]at hgk;rcases hgk with(q|q)|q|q
       ·exact q
       ·exact absurd q h16
       ·cases q
       ·cases q
      have htw:tt=yA8 kd:=by rw[htt];show yP7 kd=yA8 kd;unfold yP7;rw[if_neg h16]
      have zt:(tt.toList== [105,102])=false:=by rw[htw];have h9:=yUe hg13.1 hg13.2;rw[show(⟨#[105,102]⟩:ByteArray).toList= [105,102]from by rw[ByteArray.toList_eq]]at h9;exact h9
      have HLk:Hid (∀W,Calls Tryz.prog 50 #[.string tt] W fun e w'=>e=.returned (.int .i64 kd)∧w'=W):=fun W=>by rw[htw];exact yLt hg13.1 hg13.2 W
      obtain⟨k1,hk1,hi1⟩:=yGy HN.2.2.1 HN.1 HMb.2 (by rw[hkk];exact⟨(fun q=>nomatch q),(fun q=>nomatch q)⟩);have HAr:Hid (∀W,yBs W base g cp ks→Calls Tryz.prog 49 #[parV g N cp (i+1) (mmade+1) 0 0,.int .i64 kd] W (ArgQ g cp N (mmade+1) ks kd (i+1) W)):=fun W hO=>(yWr hO HN.1 HN.2.1 hk1 HN.2.2.1 kd hg13).mono (fun e w' q=>q.q)
      have HE:Hid ((¬mmade<200→yAl (⟨ks,0,[],[],true⟩:Ms) (.error (5,k.pos)))∧
        (mmade<200→∀e,yAv kd (ks.drop (i+1))=.error e→yAl (⟨ks,0,[],[],true⟩:Ms) (.error e))∧
        (mmade<200→∀j n,yAv kd (ks.drop (i+1))=.ok (ks.drop j,n)→i+1≤j→j<N→PM N ks (⟨ks,0,[],[],true⟩:Ms) ⟨ks.drop j,mmade+1,mout++ [n],mst,false⟩ j)):=yRe HMb.1 HMb.2 hkk h16
      clear hk1 hkk htt htw h16 hg13;obtain⟨W8,hW8⟩:∃V:World,V=W7.alloc (Obj.cells #[.int .i64 0,.string ⟨#[]⟩,.bool false,.string ⟨#[]⟩,.int .u64 0,.int .u64 0,.int .i64 0] 65):=⟨_,rfl⟩;obtain⟨b9,hb9⟩:=qE W7.heap.size;have H8:Hid (PL w base g cp N ks (i) (mmade) (0) (0) mst mout gs cs go co b7 b9 k (yAc 0) W8):=by
       have hb:Below W7.heap.size W7 W8:=by rw[hW8];exact qB
       have hl:=H7p.lts;have ht:=H7b.2.1.lt;exact⟨H7p.up hb,H7b.2.1.below hb,by rw[hb9,hW8];exact yAb W7 _ hl.2.2 rfl,by omega,by omega,by omega⟩
      by_cases h2:mmade<200;case neg=>as_aux_lemma=>
       have HMk:Hid (Calls Tryz.prog 47 #[parV g N cp i mmade 0 0] W8 fun e w'=>e=.returned (parV g N cp i mmade 5 k.pos)∧Below W8.heap.size W8 w'):=by
        refine(yB8 H8.pb.tk HN.1 HN.2.1 HMb.2 Hbd.out mmade hmd 0).mono ?_;rintro e w' ⟨hb,⟨q,rfl⟩|⟨q,rfl⟩⟩
        ·exact absurd q h2
        ·exact⟨rfl,hb⟩
       have HE5:Hid (yAl (⟨ks,0,[],[],true⟩:Ms) (.error (5,k.pos))):=HE.1 h2;clear HE HAr HLk;go_upto_region 20 with fail;rw[←hW8,←hb9];clear u0 u2 zt hW8 hb9 H7p H7b;obtain⟨a0,a1,a2,a3,a4⟩:=H8.pb.p.c5;go_wp2_with fail;refine HMk.mono ?_;clear HMk;rintro e v8 ⟨rfl,hbv8⟩;have hv8:=H8.up hbv8;clear hbv8 a0 a1 a2 a3 a4;obtain⟨W9,hW9⟩:∃V:World,V=setP v8 w.heap.size (.slice (some ⟨g,0,none⟩) N cp) (.int .i64 ((i:Nat):Int)) (.int .i64 ((mmade:Nat):Int)) (.int .i64 (5)) (.int .i64 ((k.pos:Nat):Int)):=⟨_,rfl⟩;have H9:Hid (PL w base g cp N ks (i) (mmade) (5) (k.pos) mst mout gs cs go co b7 b9 k (yAc 0) W9):=by rw[hW9];exact hv8.setp _ _ _ _
       obtain⟨c0,c1,c2,c3,c4⟩:=hv8.pb.p.c5;obtain⟨e0,e1,e2,e3,e4⟩:=hv8.pb.p.f5;unfold setP at hW9;go_upto_region 21 with fail;rw[←hW9];clear hW9 hv8 c0 c1 c2 c3 c4 e0 e1 e2 e3 e4;have a3:=H9.pb.p.cell (j:=3) rfl;obtain⟨q0,q1,q2,q3,q4,q5,q6⟩:=H9.nb.c7;simp only[yAc,noS]at q0 q1 q2 q3 q4 q5 q6;have H9b:Hid (PB w base g cp N ks (i) (mmade) (5) (k.pos) (mst) (mout) gs cs go co W9):=H9.pb;obtain⟨W10,hW10⟩:∃V:World,V=W9.alloc (Obj.cells #[.int .i64 (yAc 0:Nd).kind,.string (yAc 0:Nd).s,.bool (yAc 0:Nd).hi,.string (yAc 0:Nd).t,.int .u64 (yAc 0:Nd).lo,.int .u64 (yAc 0:Nd).up,.int .i64 (yAc 0:Nd).n] 65):=⟨_,rfl⟩;have hbW10:Below W9.heap.size W9 W10:=by rw[hW10];exact qB
       have HCW10:Hid (PB w base g cp N ks (i) (mmade) (5) (k.pos) (mst) (mout) gs cs go co W10∧yBj W10 W9.heap.size 0 [(yAc 0:Nd)]):=⟨H9b.up hbW10,by rw[hW10];exact(yGd W9 (w.heap.size+2) (yAc 0:Nd) H9b.lts.2.2).at⟩;clear hbW10;have hq1:(mout).length+1≤2^30:=by omega
       have hq2:w.heap.size+2≤W10.heap.size:=HCW10.1.lts.2.2;go_wp2_with (first|refine yC4 rfl _ rfl (yAc 0:Nd) rfl ?_|(at_builtin;(try rw[←hW10]);refine yAg _ rfl _ _ rfl (w.heap.size+2) go co (ol) W9.heap.size 0 1 1 (mout) [(yAc 0:Nd)] rfl rfl (HLb.2.1) rfl HCW10.1.out HCW10.2 hq1 hq2 ?_));intro g2 c2 w2 hO' hgr hat;have hgr2:W10.grownBy w2 (some go):=by first|exact hgr|(rw[hW10];exact hgr)
       have hat2:g2=go∨g2=W10.heap.size:=by first|exact hat|(rw[hW10];exact hat)|(rw[hW10];simpa using hat)
       have HA:Hid (PB w base g cp N ks (i) (mmade) (5) (k.pos) (mst) (mout++ [(yAc 0:Nd)]) gs cs g2 c2 w2):=HCW10.1.pushO hO' hgr2 hat2;clear hO' hgr hgr2 hat hat2 hW10 HCW10 hq1 hq2;clear a3 q0 q1 q2 q3 q4 q5 q6;go_wp2_with fail;go_roundg (gk-1);case measure=>omega
       case rel=>exact .inr ⟨5,k.pos,i,mmade,gs,cs,g2,c2,mst,mout++ [yAc 0],false,by rw[HLb.2.1,List.length_append];rfl,by rw[HLb.1],rfl,HE5.out,(by decide),HA.out⟩
      case pos=>as_aux_lemma=>
       obtain⟨i1,hi1e⟩:=qE (i+1);obtain⟨md1,hmd1e⟩:=qE (mmade+1);have HI1:Hid (i1=i+1∧md1=mmade+1):=⟨hi1e,hmd1e⟩;have hi1l:i1≤i+1:=by omega
       have hi1g:i+1≤i1:=by omega
       clear hi1e hmd1e;have HMk:Hid (Calls Tryz.prog 47 #[parV g N cp i mmade 0 0] W8 fun e w'=>e=.returned (parV g N cp i1 md1 0 0)∧Below W8.heap.size W8 w'):=by
        refine(yB8 H8.pb.tk HN.1 HN.2.1 HMb.2 Hbd.out mmade hmd 0).mono ?_;rintro e w' ⟨hb,⟨q,rfl⟩|⟨q,rfl⟩⟩
        ·rw[HI1.1,HI1.2];exact⟨rfl,hb⟩
        ·exact absurd h2 q
       go_upto_region 20 with fail;rw[←hW8,←hb9];clear u0 u2 zt hW8 hb9 H7p;obtain⟨a0,a1,a2,a3,a4⟩:=H8.pb.p.c5;go_wp2_with fail;refine HMk.mono ?_;clear HMk;rintro e v8 ⟨rfl,hbv8⟩;have hv8:=H8.up hbv8;clear hbv8 a0 a1 a2 a3 a4;obtain⟨W9,hW9⟩:∃V:World,V=setP v8 w.heap.size (.slice (some ⟨g,0,none⟩) N cp) (.int .i64 ((i1:Nat):Int)) (.int .i64 ((md1:Nat):Int)) (.int .i64 (0)) (.int .i64 0):=⟨_,rfl⟩;have H9:Hid (PL w base g cp N ks (i1) (md1) (0) (0) mst mout gs cs go co b7 b9 k (yAc 0) W9):=by rw[hW9];exact hv8.setp _ _ _ _
       obtain⟨c0,c1,c2,c3,c4⟩:=hv8.pb.p.c5;obtain⟨e0,e1,e2,e3,e4⟩:=hv8.pb.p.f5;unfold setP at hW9;go_upto_region 21 with fail;rw[←hW9];clear hW9 hv8 c0 c1 c2 c3 c4 e0 e1 e2 e3 e4;have a3:=H9.pb.p.cell (j:=3) rfl;go_upto_region 22 with fail;clear a3;obtain⟨a0,a1,a2,a3,a4⟩:=H9.pb.p.c5;have hS0:SW (fun w':World=>w'.cell? ⟨b7,2,none⟩=some (.string tt)) W9.drew:=by have h9:=H9.tb.cell (j:=2) rfl;rw[←Htt.out]at h9;exact h9
       have HArw:Hid (Calls Tryz.prog 49 #[parV g N cp i1 md1 0 0,.int .i64 kd] W9.drew (ArgQ g cp N md1 ks kd i1 W9.drew)):=by rw[HI1.1,HI1.2];exact HAr.out W9.drew (H9.pb.tk.below (Below.refl _ _).drew)
       refine wpR 99 hS0 ?_;refine j1a 1 hS0 ?_;refine j1b hS0 ?_;refine yWy (i:=0) (j:=3) (by kernel_rfl) rfl rfl (fun K hK=>?_) (fun K hK=>?_)
       ·as_aux_lemma=>
         go_simp;refine hK.out _ _ (.inr hS0) ?_;clear hK;refine jS ?_;refine qO 3 rfl fun K hK=>?_;go_simp;go_at_call 50;refine(HLk.out W9.drew).mono ?_;rintro e w4 ⟨rfl,hw4⟩;rw[hw4];clear hw4;refine hK.out _ _ (.inr hS0) ?_;clear hK a0 a1 a2 a3 a4;refine jS ?_;refine qO 4 rfl fun K hK=>?_;go_simp;go_at_call 49;refine HArw.mono ?_;rintro e w5 ⟨hb5,j,c,a,n,rfl,HQ⟩;have hvv:(n:Nd).v=.agg #[.int .i64 n.kind,.string n.s,.bool n.hi,.string n.t,.int .u64 n.lo,.int .u64 n.up,.int .i64 n.n]:=rfl;rw[hvv];clear hvv;have H5:Hid (PL w base g cp N ks (i1) (md1) (0) (0) mst mout gs cs go co b7 b9 k (yAc 0) w5):=H9.up (((Below.refl _ _).drew).trans (hb5.mono (Nat.le_refl _)));have hS5:=SWm hS0 w5 <|by
          have h9:=H5.tb.cell (j:=2) rfl;rw[←Htt.out]at h9;exact h9
         refine hK.out _ _ (.inr hS5) ?_;clear hK hb5;refine jS ?_;refine qO 5 rfl fun K hK=>?_;go_simp;refine hK.out _ _ (.inr hS5) ?_;clear hK;refine jS ?_;refine j1a 6 hS5 ?_;refine j1b hS5 ?_;obtain⟨W6,hW6⟩:∃V:World,V=setP w5 w.heap.size (.slice (some ⟨g,0,none⟩) N cp) (.int .i64 ((j:Nat):Int)) (.int .i64 ((md1:Nat):Int)) (.int .i64 (c)) (.int .i64 ((a:Nat):Int)):=⟨_,rfl⟩;have H6:Hid (PL w base g cp N ks (j) (md1) (c) (a) mst mout gs cs go co b7 b9 k (yAc 0) W6):=by rw[hW6];exact H5.setp _ _ _ _
         have hS6:=SWm hS5 W6 <|by
          have h9:=H6.tb.cell (j:=2) rfl;rw[←Htt.out]at h9;exact h9
         obtain⟨c0,c1,c2,c3,c4⟩:=H5.pb.p.c5;obtain⟨e0,e1,e2,e3,e4⟩:=H5.pb.p.f5;unfold setP at hW6;refine qO 8 rfl fun K hK=>?_;go_simp;rw[←hW6];refine hK.out _ _ (.inr hS6) ?_;clear hK hW6 H5 hS5 c0 c1 c2 c3 c4 e0 e1 e2 e3 e4;refine jS ?_;obtain⟨W1,hW1⟩:∃V:World,V=setN W6 b9 (n:Nd):=⟨_,rfl⟩;have H1:Hid (PL w base g cp N ks (j) (md1) (c) (a) mst mout gs cs go co b7 b9 k (n) W1):=by rw[hW1];exact H6.setn _
         have hS1:=SWm hS6 W1 <|by
          have h9:=H1.tb.cell (j:=2) rfl;rw[←Htt.out]at h9;exact h9
         refine qO 9 rfl fun K hK=>?_;refine yIj rfl _ _ rfl b9 rfl (n:Nd) rfl H6.nb (fun v=>?_);rw[←hW1];refine hK.out _ _ (.inr hS1) ?_;clear hK hW1 H6 hS6;refine jS ?_;refine qD ?_;have H1b:Hid (PB w base g cp N ks (j) (md1) (c) (a) (mst) (mout) gs cs go co W1):=H1.pb;obtain⟨q0,q1,q2,q3,q4,q5,q6⟩:=H1.nb.c7;try simp only at q0 q1 q2 q3 q4 q5 q6
         obtain⟨W2,hW2⟩:∃V:World,V=W1.alloc (Obj.cells #[.int .i64 (n:Nd).kind,.string (n:Nd).s,.bool (n:Nd).hi,.string (n:Nd).t,.int .u64 (n:Nd).lo,.int .u64 (n:Nd).up,.int .i64 (n:Nd).n] 65):=⟨_,rfl⟩;have hbW2:Below W1.heap.size W1 W2:=by rw[hW2];exact qB
         have HCW2:Hid (PB w base g cp N ks (j) (md1) (c) (a) (mst) (mout) gs cs go co W2∧yBj W2 W1.heap.size 0 [(n:Nd)]):=⟨H1b.up hbW2,by rw[hW2];exact(yGd W1 (w.heap.size+2) (n:Nd) H1b.lts.2.2).at⟩;clear hbW2;have hq1:(mout).length+1≤2^30:=by omega
         have hq2:w.heap.size+2≤W2.heap.size:=HCW2.1.lts.2.2;go_wp2_with (first|refine yC4 rfl _ rfl (n:Nd) rfl ?_|(at_builtin;(try rw[←hW2]);refine yAg _ rfl _ _ rfl (w.heap.size+2) go co (ol) W1.heap.size 0 1 1 (mout) [(n:Nd)] rfl rfl (HLb.2.1) rfl HCW2.1.out HCW2.2 hq1 hq2 ?_));intro g2 c2 w2 hO' hgr hat;have hgr2:W2.grownBy w2 (some go):=by first|exact hgr|(rw[hW2];exact hgr)
         have hat2:g2=go∨g2=W2.heap.size:=by first|exact hat|(rw[hW2];exact hat)|(rw[hW2];simpa using hat)
         have HA:Hid (PB w base g cp N ks (j) (md1) (c) (a) (mst) (mout++ [(n:Nd)]) gs cs g2 c2 w2):=HCW2.1.pushO hO' hgr2 hat2;clear hO' hgr hgr2 hat hat2 hW2 HCW2 hq1 hq2;clear q0 q1 q2 q3 q4 q5 q6;go_wp2_with fail;go_roundg (gk-1);case measure=>omega
         case rel=>rcases HQ.out with⟨rfl,rfl,z1,z2,z3⟩|⟨z1,z2⟩
                   ·exact .inl ⟨⟨ks.drop j,md1,mout++ [n],mst,false⟩,j,gs,cs,g2,c2,by rw[HLb.2.1,List.length_append];rfl,by rw[HLb.1],rfl,by omega,by rw[HI1.1]at z1 z2;rw[HI1.2];exact HE.2.2 h2 _ _ z1 z2 z3,HA.out⟩
                   ·exact .inr ⟨c,a,j,md1,gs,cs,g2,c2,mst,mout++ [n],false,by rw[HLb.2.1,List.length_append];rfl,by rw[HLb.1],rfl,by rw[HI1.1]at z2;exact HE.2.1 h2 _ z2,z1,HA.out⟩
       ·as_aux_lemma=>
         go_simp;go_at_call 50;refine(HLk.out W9.drew).mono ?_;rintro e w4 ⟨rfl,hw4⟩;rw[hw4];clear hw4;refine hK.out _ _ (.inr hS0) ?_;clear hK;refine jS ?_;refine qO 0 rfl fun K hK=>?_;go_simp;refine hK.out _ _ (.inr hS0) ?_;clear hK a0 a1 a2 a3 a4;refine jS ?_;refine qO 4 rfl fun K hK=>?_;go_simp;go_at_call 49;refine HArw.mono ?_;rintro e w5 ⟨hb5,j,c,a,n,rfl,HQ⟩;have hvv:(n:Nd).v=.agg #[.int .i64 n.kind,.string n.s,.bool n.hi,.string n.t,.int .u64 n.lo,.int .u64 n.up,.int .i64 n.n]:=rfl;rw[hvv];clear hvv;have H5:Hid (PL w base g cp N ks (i1) (md1) (0) (0) mst mout gs cs go co b7 b9 k (yAc 0) w5):=H9.up (((Below.refl _ _).drew).trans (hb5.mono (Nat.le_refl _)));have hS5:=SWm hS0 w5 <|by
          have h9:=H5.tb.cell (j:=2) rfl;rw[←Htt.out]at h9;exact h9
         refine hK.out _ _ (.inr hS5) ?_;clear hK hb5;refine jS ?_;refine qO 5 rfl fun K hK=>?_;go_simp;refine hK.out _ _ (.inr hS5) ?_;clear hK;refine jS ?_;refine j1a 6 hS5 ?_;refine j1b hS5 ?_;obtain⟨W6,hW6⟩:∃V:World,V=setP w5 w.heap.size (.slice (some ⟨g,0,none⟩) N cp) (.int .i64 ((j:Nat):Int)) (.int .i64 ((md1:Nat):Int)) (.int .i64 (c)) (.int .i64 ((a:Nat):Int)):=⟨_,rfl⟩;have H6:Hid (PL w base g cp N ks (j) (md1) (c) (a) mst mout gs cs go co b7 b9 k (yAc 0) W6):=by rw[hW6];exact H5.setp _ _ _ _
         have hS6:=SWm hS5 W6 <|by
          have h9:=H6.tb.cell (j:=2) rfl;rw[←Htt.out]at h9;exact h9
         obtain⟨c0,c1,c2,c3,c4⟩:=H5.pb.p.c5;obtain⟨e0,e1,e2,e3,e4⟩:=H5.pb.p.f5;unfold setP at hW6;refine qO 8 rfl fun K hK=>?_;go_simp;rw[←hW6];refine hK.out _ _ (.inr hS6) ?_;clear hK hW6 H5 hS5 c0 c1 c2 c3 c4 e0 e1 e2 e3 e4;refine jS ?_;obtain⟨W1,hW1⟩:∃V:World,V=setN W6 b9 (n:Nd):=⟨_,rfl⟩;have H1:Hid (PL w base g cp N ks (j) (md1) (c) (a) mst mout gs cs go co b7 b9 k (n) W1):=by rw[hW1];exact H6.setn _
         have hS1:=SWm hS6 W1 <|by
          have h9:=H1.tb.cell (j:=2) rfl;rw[←Htt.out]at h9;exact h9
         refine qO 9 rfl fun K hK=>?_;refine yIj rfl _ _ rfl b9 rfl (n:Nd) rfl H6.nb (fun v=>?_);rw[←hW1];refine hK.out _ _ (.inr hS1) ?_;clear hK hW1 H6 hS6;refine jS ?_;refine qD ?_;have H1b:Hid (PB w base g cp N ks (j) (md1) (c) (a) (mst) (mout) gs cs go co W1):=H1.pb;obtain⟨q0,q1,q2,q3,q4,q5,q6⟩:=H1.nb.c7;try simp only at q0 q1 q2 q3 q4 q5 q6
         obtain⟨W2,hW2⟩:∃V:World,V=W1.alloc (Obj.cells #[.int .i64 (n:Nd).kind,.string (n:Nd).s,.bool (n:Nd).hi,.string (n:Nd).t,.int .u64 (n:Nd).lo,.int .u64 (n:Nd).up,.int .i64 (n:Nd).n] 65):=⟨_,rfl⟩;have hbW2:Below W1.heap.size W1 W2:=by rw[hW2];exact qB
         have HCW2:Hid (PB w base g cp N ks (j) (md1) (c) (a) (mst) (mout) gs cs go co W2∧yBj W2 W1.heap.size 0 [(n:Nd)]):=⟨H1b.up hbW2,by rw[hW2];exact(yGd W1 (w.heap.size+2) (n:Nd) H1b.lts.2.2).at⟩;clear hbW2;have hq1:(mout).length+1≤2^30:=by omega
         have hq2:w.heap.size+2≤W2.heap.size:=HCW2.1.lts.2.2;go_wp2_with (first|refine yC4 rfl _ rfl (n:Nd) rfl ?_|(at_builtin;(try rw[←hW2]);refine yAg _ rfl _ _ rfl (w.heap.size+2) go co (ol) W1.heap.size 0 1 1 (mout) [(n:Nd)] rfl rfl (HLb.2.1) rfl HCW2.1.out HCW2.2 hq1 hq2 ?_));intro g2 c2 w2 hO' hgr hat;have hgr2:W2.grownBy w2 (some go):=by first|exact hgr|(rw[hW2];exact hgr)
         have hat2:g2=go∨g2=W2.heap.size:=by first|exact hat|(rw[hW2];exact hat)|(rw[hW2];simpa using hat)
         have HA:Hid (PB w base g cp N ks (j) (md1) (c) (a) (mst) (mout++ [(n:Nd)]) gs cs g2 c2 w2):=HCW2.1.pushO hO' hgr2 hat2;clear hO' hgr hgr2 hat hat2 hW2 HCW2 hq1 hq2;clear q0 q1 q2 q3 q4 q5 q6;go_wp2_with fail;go_roundg (gk-1);case measure=>omega
         case rel=>rcases HQ.out with⟨rfl,rfl,z1,z2,z3⟩|⟨z1,z2⟩
                   ·exact .inl ⟨⟨ks.drop j,md1,mout++ [n],mst,false⟩,j,gs,cs,g2,c2,by rw[HLb.2.1,List.length_append];rfl,by rw[HLb.1],rfl,by omega,by rw[HI1.1]at z1 z2;rw[HI1.2];exact HE.2.2 h2 _ _ z1 z2 z3,HA.out⟩
                   ·exact .inr ⟨c,a,j,md1,gs,cs,g2,c2,mst,mout++ [n],false,by rw[HLb.2.1,List.length_append];rfl,by rw[HLb.1],rfl,by rw[HI1.1]at z2;exact HE.2.1 h2 _ z2,z1,HA.out⟩
    case neg=>as_aux_lemma=>
     have z1:(tn==1)=false:=by rw[beq_eq_false_iff_ne,htn];intro q;apply hw;cases hkk:k.k<;>rw[hkk]at q<;>first|exact⟨_,rfl⟩|exact absurd q (by simp[tkN])
     have HW:Hid (∀kd,¬k.k=.word kd):=fun kd q=>hw ⟨kd,q⟩;clear hw htn htt;have HIs:Hid (Calls Tryz.prog 48 #[parV g N cp i mmade 0 0,.string ⟨#[40]⟩] W7 fun e w'=>e=.returned (.bool (k.k.isSign 40))∧Below W7.heap.size W7 w'):=yCl H7p.tk HN.1 HN.2.1 HMb.2 (yDm HN.2.2.1 HMb.2) mmade 0 0 40 ⟨#[40]⟩ (by rw[ByteArray.toList_eq];rfl);obtain⟨a0,a1,a2,a3,a4⟩:=H7p.p.c5;go_wp2_with fail;refine HIs.mono ?_;clear HIs;rintro e v1 ⟨rfl,hb1⟩;have H10:Hid (PB w base g cp N ks (i) (mmade) (0) (0) (mst) (mout) gs cs go co v1):=H7p.up hb1;clear hb1 H7p H7b u0 u2 a0 a1 a2 a3 a4;have HFl:Hid (∀c,Calls Tryz.prog 46 #[parV g N cp i mmade 0 0,.int .i64 c] v1 fun e w'=>e=.returned (parV g N cp i mmade c k.pos)∧Below v1.heap.size v1 w'):=fun c=>by have h9:=yBd H10.tk HN.1 HN.2.1 HMb.2 mmade 0 0 c;rw[Hbd.out]at h9;exact h9
     cases hsg:k.k.isSign 40
     case false=>as_aux_lemma=>
      have HE:Hid (yAl (⟨ks,0,[],[],true⟩:Ms) (.error (3,k.pos))):=yX3 HMb.1 HMb.2 Hbd.out HW.out hsg;have HFl3:Hid (Calls Tryz.prog 46 #[parV g N cp i mmade 0 0,.int .i64 3] v1 fun e w'=>e=.returned (parV g N cp i mmade 3 k.pos)∧Below v1.heap.size v1 w'):=HFl.out 3;clear HFl;obtain⟨a0,a1,a2,a3,a4⟩:=H10.p.c5;go_wp2_with fail;refine HFl3.mono ?_;clear HFl3;rintro e v9 ⟨rfl,hb9⟩;have H9:=H10.up hb9;clear hb9 a0 a1 a2 a3 a4;obtain⟨W9,hW9⟩:∃V:World,V=setP v9 (w.heap.size+1) (.slice (some ⟨g,0,none⟩) N cp) (.int .i64 ((i:Nat):Int)) (.int .i64 ((mmade:Nat):Int)) (.int .i64 (3)) (.int .i64 ((k.pos:Nat):Int)):=⟨_,rfl⟩;have HR:Hid (ParP w g cp N (⟨ks,0,[],[],true⟩:Ms) (.returned (.tuple #[parV g N cp (i) (mmade) (3) (k.pos),.slice (some ⟨go,0,none⟩) ol co])) W9∧yA W9 w.heap.size 41 5 (w.heap.size+1) [.slice (some ⟨g,0,none⟩) N cp,.int .i64 ((i:Nat):Int),.int .i64 ((mmade:Nat):Int),.int .i64 (3),.int .i64 ((k.pos:Nat):Int)]):=H9.fail HE.out (by decide) hW9;obtain⟨c0,c1,c2,c3,c4⟩:=H9.rp.c5;obtain⟨e0,e1,e2,e3,e4⟩:=H9.rp.f5;obtain⟨p0,p1,p2,p3,p4⟩:=HR.2.c5;unfold setP at hW9;go_wp2_with fail;rw[←hW9];exact bodyPost_ret (v:=.tuple #[parV g N cp (i) (mmade) (3) (k.pos),.slice (some ⟨go,0,none⟩) ol co]) (by simp[results,Tryz.results21,go_sem,p0,p1,p2,p3,p4]) rfl HR.1
     case true=>as_aux_lemma=>
      have HE:Hid ((yBr mst=20→yAl (⟨ks,0,[],[],true⟩:Ms) (.error (4,k.pos)))∧(¬yBr mst=20→PM N ks (⟨ks,0,[],[],true⟩:Ms) ⟨ks.drop (i+1),mmade,mout,(3,0)::mst,true⟩ (i+1))):=yRd HMb.1 HMb.2 HN.1 HN.2.2.1 hsg;clear hsg;by_cases ho:yBr mst=20;case pos=>as_aux_lemma=>
       have zo:(op==20)=true:=by rw[beq_iff_eq,HLb.2.2,ho];rfl
       have HE4:Hid (yAl (⟨ks,0,[],[],true⟩:Ms) (.error (4,k.pos))):=HE.1 ho;have HFl4:Hid (Calls Tryz.prog 46 #[parV g N cp i mmade 0 0,.int .i64 4] v1 fun e w'=>e=.returned (parV g N cp i mmade 4 k.pos)∧Below v1.heap.size v1 w'):=HFl.out 4;clear HFl HE ho;obtain⟨a0,a1,a2,a3,a4⟩:=H10.p.c5;go_wp2_with fail;refine HFl4.mono ?_;clear HFl4;rintro e v9 ⟨rfl,hb9⟩;have H9:=H10.up hb9;clear hb9 a0 a1 a2 a3 a4;obtain⟨W9,hW9⟩:∃V:World,V=setP v9 (w.heap.size+1) (.slice (some ⟨g,0,none⟩) N cp) (.int .i64 ((i:Nat):Int)) (.int .i64 ((mmade:Nat):Int)) (.int .i64 (4)) (.int .i64 ((k.pos:Nat):Int)):=⟨_,rfl⟩;have HR:Hid (ParP w g cp N (⟨ks,0,[],[],true⟩:Ms) (.returned (.tuple #[parV g N cp (i) (mmade) (4) (k.pos),.slice (some ⟨go,0,none⟩) ol co])) W9∧yA W9 w.heap.size 41 5 (w.heap.size+1) [.slice (some ⟨g,0,none⟩) N cp,.int .i64 ((i:Nat):Int),.int .i64 ((mmade:Nat):Int),.int .i64 (4),.int .i64 ((k.pos:Nat):Int)]):=H9.fail HE4.out (by decide) hW9;obtain⟨c0,c1,c2,c3,c4⟩:=H9.rp.c5;obtain⟨e0,e1,e2,e3,e4⟩:=H9.rp.f5;obtain⟨p0,p1,p2,p3,p4⟩:=HR.2.c5;unfold setP at hW9;go_wp2_with fail;rw[←hW9];exact bodyPost_ret (v:=.tuple #[parV g N cp (i) (mmade) (4) (k.pos),.slice (some ⟨go,0,none⟩) ol co]) (by simp[results,Tryz.results21,go_sem,p0,p1,p2,p3,p4]) rfl HR.1
      case neg=>as_aux_lemma=>
       have zo:(op==20)=false:=by rw[beq_eq_false_iff_ne,HLb.2.2];omega
       have HPm:Hid (PM N ks (⟨ks,0,[],[],true⟩:Ms) ⟨ks.drop (i+1),mmade,mout,(3,0)::mst,true⟩ (i+1)):=HE.2 ho;clear HE ho HFl;obtain⟨W12,hW12⟩:∃V:World,V=v1.alloc (Obj.cells #[.int .i64 3,.int .i64 0] 86):=⟨_,rfl⟩;have hbW12:Below v1.heap.size v1 W12:=by rw[hW12];exact qB
       have HCW12:Hid (PB w base g cp N ks (i) (mmade) (0) (0) (mst) (mout) gs cs go co W12∧∀j u,(enV (3,0))[j]?=some u→W12.cell? ⟨v1.heap.size,j,none⟩=some u):=⟨H10.up hbW12,by rw[hW12];exact yAt v1 _ _⟩;clear hbW12;have hq1:(mst).reverse.length≤1000000:=by rw[List.length_reverse];omega
       have hq2:w.heap.size+2≤W12.heap.size:=HCW12.1.lts.2.2;have hq3:Hid (sl=(mst).reverse.length):=by show _=_;rw[List.length_reverse];exact HLb.1
       obtain⟨a0,a1,a2,a3,a4⟩:=H10.p.c5;go_wp2_with (at_builtin;(try rw[←hW12]);refine yA6 _ rfl _ _ rfl (w.heap.size+2) gs cs (sl) v1.heap.size 1 (mst).reverse (3,0) rfl rfl hq3.out HCW12.1.st HCW12.2 hq1 hq2 ?_);intro g2 c2 w2 hO' hgr hat;have hgr2:W12.grownBy w2 (some gs):=by first|exact hgr|(rw[hW12];exact hgr)
       have hat2:g2=gs∨g2=W12.heap.size:=by first|exact hat|(rw[hW12];exact hat)|(rw[hW12];simpa using hat)
       have HA:Hid (PB w base g cp N ks (i) (mmade) (0) (0) ((3,0)::mst) (mout) g2 c2 go co w2):=HCW12.1.pushS hO' hgr2 hat2;clear hO' hgr hgr2 hat hat2 hW12 HCW12 hq1 hq2 hq3 a0 a1 a2 a3 a4;have a1:=HA.p.cell (j:=1) rfl;have e1:=HA.p.frozen 1;go_wp2_with fail;go_roundg (N+1-(i+1));case measure=>omega
       case rel=>exact .inl ⟨⟨ks.drop (i+1),mmade,mout,(3,0)::mst,true⟩,i+1,g2,c2,go,co,by rw[HLb.2.1],by rw[HLb.1];rfl,rfl,Nat.le_refl _,HPm.out,HA.seti _ (by go_num)⟩
   case false=>as_aux_lemma=>
    have H7p:Hid (PB w base g cp N ks i mmade 0 0 mst mout gs cs go co W7):=H7.1;have H7t:Hid (yA W7 (w.heap.size+2) 80 4 b7 (tkV k)∧¬b7=gs∧¬b7=go):=H7.2;have HMb:Hid (PM N ks (⟨ks,0,[],[],true⟩:Ms) ⟨mks,mmade,mout,mst,false⟩ i∧ks[i]?=some k):=⟨HM.1,HM.2.2.2.2⟩;have HLb:Hid (sl=mst.length∧ol=mout.length∧op=(yBr mst:Int)):=HL.out;have hmd:mmade≤200:=HMb.1.md;have hln:mout.length+mst.length≤i:=HMb.1.ln;have HIs:Hid (∀W,yBs W base g cp ks→∀(b:UInt8) (s:ByteArray),s.toList=(if b=46 then [46,46]else [b])→Calls Tryz.prog 48 #[parV g N cp i mmade 0 0,.string s] W fun e w'=>e=.returned (.bool (k.k.isSign b))∧Below W.heap.size W w'):=fun W hO b s hs=>yCl hO HN.1 HN.2.1 HMb.2 (yDm HN.2.2.1 HMb.2) mmade 0 0 b s hs;have HFl:Hid (∀W,yBs W base g cp ks→∀c,Calls Tryz.prog 46 #[parV g N cp i mmade 0 0,.int .i64 c] W fun e w'=>e=.returned (parV g N cp i mmade c k.pos)∧Below W.heap.size W w'):=fun W hO c=>by have h9:=yBd hO HN.1 HN.2.1 HMb.2 mmade 0 0 c;rw[Hbd.out]at h9;exact h9
    clear H7 HM HL HB;obtain⟨tt,htt⟩:=qE (tkT k.k);obtain⟨tn,htn⟩:=qE (tkN k.k);rw[←htt]at u2;rw[←htn]at u0 hbd6;have Htt:Hid (tt=tkT k.k∧tn=tkN k.k):=⟨htt,htn⟩;clear htt htn;have HI1:Hid (Calls Tryz.prog 48 #[parV g N cp i mmade 0 0,.string ⟨#[62]⟩] W7 fun e w'=>e=.returned (.bool (k.k.isSign 62))∧Below W7.heap.size W7 w'):=HIs.out W7 H7p.tk 62 ⟨#[62]⟩ (by rw[ByteArray.toList_eq];rfl);obtain⟨a0,a1,a2,a3,a4⟩:=H7p.p.c5;go_wp2_with fail;refine HI1.mono ?_;clear HI1;rintro e v1 ⟨rfl,hb1⟩;have H1:Hid (PB w base g cp N ks (i) (mmade) (0) (0) (mst) (mout) gs cs go co v1):=H7p.up hb1;have Ht1:Hid (yA v1 (w.heap.size+2) 80 4 b7 (tkV k)):=H7t.1.below hb1;clear hb1 H7p u0 u2 hbd6 a0 a1 a2 a3 a4;have u0:=Ht1.cell (j:=0) rfl;have u2:=Ht1.cell (j:=2) rfl;rw[←Htt.1]at u2;rw[←Htt.2]at u0;cases hs62:k.k.isSign 62
    case true=>as_aux_lemma=>
     have zt:(tt.toList== [124])=false:=by rw[Htt.1,TkK.isSign_eq hs62,ByteArray.toList_eq];rfl
     have HE:Hid ((¬mmade<200→yAl (⟨ks,0,[],[],true⟩:Ms) (.error (5,k.pos)))∧(mmade<200→PM N ks (⟨ks,0,[],[],true⟩:Ms) ⟨ks.drop (i+1),mmade+1,(yAk false mst mout).2,(1,0)::(yAk false mst mout).1,true⟩ (i+1))):=ySe HMb.1 HMb.2 HN.1 HN.2.2.1 (.inl ⟨hs62,rfl,rfl⟩);clear hs62;by_cases h2:mmade<200;case neg=>as_aux_lemma=>
      have HMk:Hid (Calls Tryz.prog 47 #[parV g N cp i mmade 0 0] v1 fun e w'=>e=.returned (parV g N cp i mmade 5 k.pos)∧Below v1.heap.size v1 w'):=by
       refine(yB8 H1.tk HN.1 HN.2.1 HMb.2 Hbd.out mmade hmd 0).mono ?_;rintro e w' ⟨hb,⟨q,rfl⟩|⟨q,rfl⟩⟩
       ·exact absurd q h2
       ·exact⟨rfl,hb⟩
      have HE5:Hid (yAl (⟨ks,0,[],[],true⟩:Ms) (.error (5,k.pos))):=HE.1 h2;clear HE HIs HFl;go_upto_region 35 with fail;clear u0 u2 zt;obtain⟨a0,a1,a2,a3,a4⟩:=H1.p.c5;go_wp2_with fail;refine HMk.mono ?_;clear HMk;rintro e v8 ⟨rfl,hbv8⟩;have hv8:=H1.up hbv8;clear hbv8 a0 a1 a2 a3 a4;obtain⟨W9,hW9⟩:∃V:World,V=setP v8 w.heap.size (.slice (some ⟨g,0,none⟩) N cp) (.int .i64 ((i:Nat):Int)) (.int .i64 ((mmade:Nat):Int)) (.int .i64 (5)) (.int .i64 ((k.pos:Nat):Int)):=⟨_,rfl⟩;have H9:Hid (PB w base g cp N ks (i) (mmade) (5) (k.pos) (mst) (mout) gs cs go co W9):=by rw[hW9];exact hv8.setp _ _ _ _
      obtain⟨c0,c1,c2,c3,c4⟩:=hv8.p.c5;obtain⟨e0,e1,e2,e3,e4⟩:=hv8.p.f5;unfold setP at hW9;go_upto_region 36 with fail;rw[←hW9];clear hW9 hv8 c0 c1 c2 c3 c4 e0 e1 e2 e3 e4;have HDr:Hid (Calls Tryz.prog 51 #[.slice (some ⟨gs,0,none⟩) sl cs,.slice (some ⟨go,0,none⟩) ol co,.bool false] W9 (DrP W9 (w.heap.size+2) gs cs go mst mout false)):=by rw[HLb.1,HLb.2.1];exact yDr false H9.st H9.out.out H9.ne (by omega) H9.lts.2.2
      go_wp2_with fail;refine HDr.mono ?_;clear HDr;rintro e v9 ⟨st1,out1,gd1,cd1,rfl,hdr,hO⟩;have H10:Hid (PB w base g cp N ks (i) (mmade) (5) (k.pos) (st1) (out1) gs cs gd1 cd1 v9):=H9.drain hO.out;have HDe:Hid (yAk false mst mout=(st1,out1)):=hdr;have hdl:=yDt false mst mout;rw[hdr]at hdl;simp only at hdl;clear hO hdr;obtain⟨s1,hs1⟩:=qE st1.length;obtain⟨o1,ho1⟩:=qE out1.length;have HL1:Hid (s1=st1.length∧o1=out1.length):=⟨hs1,ho1⟩;rw[←hs1,←ho1]at hdl⊢;clear hs1 ho1;obtain⟨W12,hW12⟩:∃V:World,V=v9.alloc (Obj.cells #[.int .i64 1,.int .i64 0] 86):=⟨_,rfl⟩;have hbW12:Below v9.heap.size v9 W12:=by rw[hW12];exact qB
      have HCW12:Hid (PB w base g cp N ks (i) (mmade) (5) (k.pos) (st1) (out1) gs cs gd1 cd1 W12∧∀j u,(enV (1,0))[j]?=some u→W12.cell? ⟨v9.heap.size,j,none⟩=some u):=⟨H10.up hbW12,by rw[hW12];exact yAt v9 _ _⟩;clear hbW12;have hq1:(st1).reverse.length≤1000000:=by rw[List.length_reverse,←HL1.1];omega
      have hq2:w.heap.size+2≤W12.heap.size:=HCW12.1.lts.2.2;have hq3:Hid (s1=(st1).reverse.length):=by show _=_;rw[List.length_reverse];exact HL1.1
      obtain⟨a0,a1,a2,a3,a4⟩:=H10.p.c5;go_wp2_with (at_builtin;(try rw[←hW12]);refine yA6 _ rfl _ _ rfl (w.heap.size+2) gs cs (s1) v9.heap.size 1 (st1).reverse (1,0) rfl rfl hq3.out HCW12.1.st HCW12.2 hq1 hq2 ?_);intro g2 c2 w2 hO' hgr hat;have hgr2:W12.grownBy w2 (some gs):=by first|exact hgr|(rw[hW12];exact hgr)
      have hat2:g2=gs∨g2=W12.heap.size:=by first|exact hat|(rw[hW12];exact hat)|(rw[hW12];simpa using hat)
      have HA:Hid (PB w base g cp N ks (i) (mmade) (5) (k.pos) ((1,0)::st1) (out1) g2 c2 gd1 cd1 w2):=HCW12.1.pushS hO' hgr2 hat2;clear hO' hgr hgr2 hat hat2 hW12 HCW12 hq1 hq2 hq3 a0 a1 a2 a3 a4;go_wp2_with fail;go_roundg (gk-1);case measure=>omega
      case rel=>exact .inr ⟨5,k.pos,i,mmade,g2,c2,gd1,cd1,(1,0)::st1,out1,true,by rw[HL1.2],by rw[HL1.1];rfl,rfl,HE5.out,(by decide),HA.out⟩
     case pos=>as_aux_lemma=>
      obtain⟨i1,hi1e⟩:=qE (i+1);obtain⟨md1,hmd1e⟩:=qE (mmade+1);have HI1:Hid (i1=i+1∧md1=mmade+1):=⟨hi1e,hmd1e⟩;have hi1l:i1≤i+1:=by omega
      have hi1g:i+1≤i1:=by omega
      clear hi1e hmd1e;have HMk:Hid (Calls Tryz.prog 47 #[parV g N cp i mmade 0 0] v1 fun e w'=>e=.returned (parV g N cp i1 md1 0 0)∧Below v1.heap.size v1 w'):=by
       refine(yB8 H1.tk HN.1 HN.2.1 HMb.2 Hbd.out mmade hmd 0).mono ?_;rintro e w' ⟨hb,⟨q,rfl⟩|⟨q,rfl⟩⟩
       ·rw[HI1.1,HI1.2];exact⟨rfl,hb⟩
       ·exact absurd h2 q
      have HPm:Hid (PM N ks (⟨ks,0,[],[],true⟩:Ms) ⟨ks.drop i1,md1,(yAk false mst mout).2,(1,0)::(yAk false mst mout).1,true⟩ i1):=by rw[HI1.1,HI1.2];exact HE.2 h2
      clear HE HIs HFl;go_upto_region 35 with fail;clear u0 u2 zt;obtain⟨a0,a1,a2,a3,a4⟩:=H1.p.c5;go_wp2_with fail;refine HMk.mono ?_;clear HMk;rintro e v8 ⟨rfl,hbv8⟩;have hv8:=H1.up hbv8;clear hbv8 a0 a1 a2 a3 a4;obtain⟨W9,hW9⟩:∃V:World,V=setP v8 w.heap.size (.slice (some ⟨g,0,none⟩) N cp) (.int .i64 ((i1:Nat):Int)) (.int .i64 ((md1:Nat):Int)) (.int .i64 (0)) (.int .i64 0):=⟨_,rfl⟩;have H9:Hid (PB w base g cp N ks (i1) (md1) (0) (0) (mst) (mout) gs cs go co W9):=by rw[hW9];exact hv8.setp _ _ _ _
      obtain⟨c0,c1,c2,c3,c4⟩:=hv8.p.c5;obtain⟨e0,e1,e2,e3,e4⟩:=hv8.p.f5;unfold setP at hW9;go_upto_region 36 with fail;rw[←hW9];clear hW9 hv8 c0 c1 c2 c3 c4 e0 e1 e2 e3 e4;have HDr:Hid (Calls Tryz.prog 51 #[.slice (some ⟨gs,0,none⟩) sl cs,.slice (some ⟨go,0,none⟩) ol co,.bool false] W9 (DrP W9 (w.heap.size+2) gs cs go mst mout false)):=by rw[HLb.1,HLb.2.1];exact yDr false H9.st H9.out.out H9.ne (by omega) H9.lts.2.2
      go_wp2_with fail;refine HDr.mono ?_;clear HDr;rintro e v9 ⟨st1,out1,gd1,cd1,rfl,hdr,hO⟩;have H10:Hid (PB w base g cp N ks (i1) (md1) (0) (0) (st1) (out1) gs cs gd1 cd1 v9):=H9.drain hO.out;have HDe:Hid (yAk false mst mout=(st1,out1)):=hdr;have hdl:=yDt false mst mout;rw[hdr]at hdl;simp only at hdl;clear hO hdr;obtain⟨s1,hs1⟩:=qE st1.length;obtain⟨o1,ho1⟩:=qE out1.length;have HL1:Hid (s1=st1.length∧o1=out1.length):=⟨hs1,ho1⟩;rw[←hs1,←ho1]at hdl⊢;clear hs1 ho1;obtain⟨W12,hW12⟩:∃V:World,V=v9.alloc (Obj.cells #[.int .i64 1,.int .i64 0] 86):=⟨_,rfl⟩;have hbW12:Below v9.heap.size v9 W12:=by rw[hW12];exact qB
      have HCW12:Hid (PB w base g cp N ks (i1) (md1) (0) (0) (st1) (out1) gs cs gd1 cd1 W12∧∀j u,(enV (1,0))[j]?=some u→W12.cell? ⟨v9.heap.size,j,none⟩=some u):=⟨H10.up hbW12,by rw[hW12];exact yAt v9 _ _⟩;clear hbW12;have hq1:(st1).reverse.length≤1000000:=by rw[List.length_reverse,←HL1.1];omega
      have hq2:w.heap.size+2≤W12.heap.size:=HCW12.1.lts.2.2;have hq3:Hid (s1=(st1).reverse.length):=by show _=_;rw[List.length_reverse];exact HL1.1
      obtain⟨a0,a1,a2,a3,a4⟩:=H10.p.c5;go_wp2_with (at_builtin;(try rw[←hW12]);refine yA6 _ rfl _ _ rfl (w.heap.size+2) gs cs (s1) v9.heap.size 1 (st1).reverse (1,0) rfl rfl hq3.out HCW12.1.st HCW12.2 hq1 hq2 ?_);intro g2 c2 w2 hO' hgr hat;have hgr2:W12.grownBy w2 (some gs):=by first|exact hgr|(rw[hW12];exact hgr)
      have hat2:g2=gs∨g2=W12.heap.size:=by first|exact hat|(rw[hW12];exact hat)|(rw[hW12];simpa using hat)
      have HA:Hid (PB w base g cp N ks (i1) (md1) (0) (0) ((1,0)::st1) (out1) g2 c2 gd1 cd1 w2):=HCW12.1.pushS hO' hgr2 hat2;clear hO' hgr hgr2 hat hat2 hW12 HCW12 hq1 hq2 hq3 a0 a1 a2 a3 a4;go_wp2_with fail;have HPn:Hid (PM N ks (⟨ks,0,[],[],true⟩:Ms) ⟨ks.drop i1,md1,out1,(1,0)::st1,true⟩ i1):=by have h9:=HPm.out;rw[HDe.out]at h9;exact h9
      go_roundg (N+1-(i1));case measure=>omega
      case rel=>exact .inl ⟨⟨ks.drop i1,md1,out1,(1,0)::st1,true⟩,i1,g2,c2,gd1,cd1,by rw[HL1.2],by rw[HL1.1];rfl,rfl,Nat.le_refl _,HPn.out,HA.out⟩
    case false=>as_aux_lemma=>
     have HI2:Hid (Calls Tryz.prog 48 #[parV g N cp i mmade 0 0,.string ⟨#[124]⟩] v1 fun e w'=>e=.returned (.bool (k.k.isSign 124))∧Below v1.heap.size v1 w'):=HIs.out v1 H1.tk 124 ⟨#[124]⟩ (by rw[ByteArray.toList_eq];rfl);obtain⟨a0,a1,a2,a3,a4⟩:=H1.p.c5;go_wp2_with fail;refine HI2.mono ?_;clear HI2;rintro e v2 ⟨rfl,hb2⟩;have H2:Hid (PB w base g cp N ks (i) (mmade) (0) (0) (mst) (mout) gs cs go co v2):=H1.up hb2;have Ht2:Hid (yA v2 (w.heap.size+2) 80 4 b7 (tkV k)):=Ht1.below hb2;clear hb2 H1 Ht1 u0 u2 a0 a1 a2 a3 a4;have u0:=Ht2.cell (j:=0) rfl;have u2:=Ht2.cell (j:=2) rfl;rw[←Htt.1]at u2;rw[←Htt.2]at u0;cases hs124:k.k.isSign 124
     case true=>as_aux_lemma=>
      have zt:(tt.toList== [124])=true:=by rw[Htt.1,TkK.isSign_eq hs124,ByteArray.toList_eq];rfl
      have HE:Hid ((¬mmade<200→yAl (⟨ks,0,[],[],true⟩:Ms) (.error (5,k.pos)))∧(mmade<200→PM N ks (⟨ks,0,[],[],true⟩:Ms) ⟨ks.drop (i+1),mmade+1,(yAk true mst mout).2,(2,0)::(yAk true mst mout).1,true⟩ (i+1))):=ySe HMb.1 HMb.2 HN.1 HN.2.2.1 (.inr ⟨hs124,rfl,rfl⟩);clear hs124;by_cases h2:mmade<200;case neg=>as_aux_lemma=>
       have HMk:Hid (Calls Tryz.prog 47 #[parV g N cp i mmade 0 0] v2 fun e w'=>e=.returned (parV g N cp i mmade 5 k.pos)∧Below v2.heap.size v2 w'):=by
        refine(yB8 H2.tk HN.1 HN.2.1 HMb.2 Hbd.out mmade hmd 0).mono ?_;rintro e w' ⟨hb,⟨q,rfl⟩|⟨q,rfl⟩⟩
        ·exact absurd q h2
        ·exact⟨rfl,hb⟩
       have HE5:Hid (yAl (⟨ks,0,[],[],true⟩:Ms) (.error (5,k.pos))):=HE.1 h2;clear HE HIs HFl;go_upto_region 35 with fail;clear u0 u2 zt;obtain⟨a0,a1,a2,a3,a4⟩:=H2.p.c5;go_wp2_with fail;refine HMk.mono ?_;clear HMk;rintro e v8 ⟨rfl,hbv8⟩;have hv8:=H2.up hbv8;clear hbv8 a0 a1 a2 a3 a4;obtain⟨W9,hW9⟩:∃V:World,V=setP v8 w.heap.size (.slice (some ⟨g,0,none⟩) N cp) (.int .i64 ((i:Nat):Int)) (.int .i64 ((mmade:Nat):Int)) (.int .i64 (5)) (.int .i64 ((k.pos:Nat):Int)):=⟨_,rfl⟩;have H9:Hid (PB w base g cp N ks (i) (mmade) (5) (k.pos) (mst) (mout) gs cs go co W9):=by rw[hW9];exact hv8.setp _ _ _ _
       obtain⟨c0,c1,c2,c3,c4⟩:=hv8.p.c5;obtain⟨e0,e1,e2,e3,e4⟩:=hv8.p.f5;unfold setP at hW9;go_upto_region 36 with fail;rw[←hW9];clear hW9 hv8 c0 c1 c2 c3 c4 e0 e1 e2 e3 e4;have HDr:Hid (Calls Tryz.prog 51 #[.slice (some ⟨gs,0,none⟩) sl cs,.slice (some ⟨go,0,none⟩) ol co,.bool true] W9 (DrP W9 (w.heap.size+2) gs cs go mst mout true)):=by rw[HLb.1,HLb.2.1];exact yDr true H9.st H9.out.out H9.ne (by omega) H9.lts.2.2
       go_wp2_with fail;refine HDr.mono ?_;clear HDr;rintro e v9 ⟨st1,out1,gd1,cd1,rfl,hdr,hO⟩;have H10:Hid (PB w base g cp N ks (i) (mmade) (5) (k.pos) (st1) (out1) gs cs gd1 cd1 v9):=H9.drain hO.out;have HDe:Hid (yAk true mst mout=(st1,out1)):=hdr;have hdl:=yDt true mst mout;rw[hdr]at hdl;simp only at hdl;clear hO hdr;obtain⟨s1,hs1⟩:=qE st1.length;obtain⟨o1,ho1⟩:=qE out1.length;have HL1:Hid (s1=st1.length∧o1=out1.length):=⟨hs1,ho1⟩;rw[←hs1,←ho1]at hdl⊢;clear hs1 ho1;obtain⟨W12,hW12⟩:∃V:World,V=v9.alloc (Obj.cells #[.int .i64 2,.int .i64 0] 86):=⟨_,rfl⟩;have hbW12:Below v9.heap.size v9 W12:=by rw[hW12];exact qB
       have HCW12:Hid (PB w base g cp N ks (i) (mmade) (5) (k.pos) (st1) (out1) gs cs gd1 cd1 W12∧∀j u,(enV (2,0))[j]?=some u→W12.cell? ⟨v9.heap.size,j,none⟩=some u):=⟨H10.up hbW12,by rw[hW12];exact yAt v9 _ _⟩;clear hbW12;have hq1:(st1).reverse.length≤1000000:=by rw[List.length_reverse,←HL1.1];omega
       have hq2:w.heap.size+2≤W12.heap.size:=HCW12.1.lts.2.2;have hq3:Hid (s1=(st1).reverse.length):=by show _=_;rw[List.length_reverse];exact HL1.1
       obtain⟨a0,a1,a2,a3,a4⟩:=H10.p.c5;go_wp2_with (at_builtin;(try rw[←hW12]);refine yA6 _ rfl _ _ rfl (w.heap.size+2) gs cs (s1) v9.heap.size 1 (st1).reverse (2,0) rfl rfl hq3.out HCW12.1.st HCW12.2 hq1 hq2 ?_);intro g2 c2 w2 hO' hgr hat;have hgr2:W12.grownBy w2 (some gs):=by first|exact hgr|(rw[hW12];exact hgr)
       have hat2:g2=gs∨g2=W12.heap.size:=by first|exact hat|(rw[hW12];exact hat)|(rw[hW12];simpa using hat)
       have HA:Hid (PB w base g cp N ks (i) (mmade) (5) (k.pos) ((2,0)::st1) (out1) g2 c2 gd1 cd1 w2):=HCW12.1.pushS hO' hgr2 hat2;clear hO' hgr hgr2 hat hat2 hW12 HCW12 hq1 hq2 hq3 a0 a1 a2 a3 a4;go_wp2_with fail;go_roundg (gk-1);case measure=>omega
       case rel=>exact .inr ⟨5,k.pos,i,mmade,g2,c2,gd1,cd1,(2,0)::st1,out1,true,by rw[HL1.2],by rw[HL1.1];rfl,rfl,HE5.out,(by decide),HA.out⟩
      case pos=>as_aux_lemma=>
       obtain⟨i1,hi1e⟩:=qE (i+1);obtain⟨md1,hmd1e⟩:=qE (mmade+1);have HI1:Hid (i1=i+1∧md1=mmade+1):=⟨hi1e,hmd1e⟩;have hi1l:i1≤i+1:=by omega
       have hi1g:i+1≤i1:=by omega
       clear hi1e hmd1e;have HMk:Hid (Calls Tryz.prog 47 #[parV g N cp i mmade 0 0] v2 fun e w'=>e=.returned (parV g N cp i1 md1 0 0)∧Below v2.heap.size v2 w'):=by
        refine(yB8 H2.tk HN.1 HN.2.1 HMb.2 Hbd.out mmade hmd 0).mono ?_;rintro e w' ⟨hb,⟨q,rfl⟩|⟨q,rfl⟩⟩
        ·rw[HI1.1,HI1.2];exact⟨rfl,hb⟩
        ·exact absurd h2 q
       have HPm:Hid (PM N ks (⟨ks,0,[],[],true⟩:Ms) ⟨ks.drop i1,md1,(yAk true mst mout).2,(2,0)::(yAk true mst mout).1,true⟩ i1):=by rw[HI1.1,HI1.2];exact HE.2 h2
       clear HE HIs HFl;go_upto_region 35 with fail;clear u0 u2 zt;obtain⟨a0,a1,a2,a3,a4⟩:=H2.p.c5;go_wp2_with fail;refine HMk.mono ?_;clear HMk;rintro e v8 ⟨rfl,hbv8⟩;have hv8:=H2.up hbv8;clear hbv8 a0 a1 a2 a3 a4;obtain⟨W9,hW9⟩:∃V:World,V=setP v8 w.heap.size (.slice (some ⟨g,0,none⟩) N cp) (.int .i64 ((i1:Nat):Int)) (.int .i64 ((md1:Nat):Int)) (.int .i64 (0)) (.int .i64 0):=⟨_,rfl⟩;have H9:Hid (PB w base g cp N ks (i1) (md1) (0) (0) (mst) (mout) gs cs go co W9):=by rw[hW9];exact hv8.setp _ _ _ _
       obtain⟨c0,c1,c2,c3,c4⟩:=hv8.p.c5;obtain⟨e0,e1,e2,e3,e4⟩:=hv8.p.f5;unfold setP at hW9;go_upto_region 36 with fail;rw[←hW9];clear hW9 hv8 c0 c1 c2 c3 c4 e0 e1 e2 e3 e4;have HDr:Hid (Calls Tryz.prog 51 #[.slice (some ⟨gs,0,none⟩) sl cs,.slice (some ⟨go,0,none⟩) ol co,.bool true] W9 (DrP W9 (w.heap.size+2) gs cs go mst mout true)):=by rw[HLb.1,HLb.2.1];exact yDr true H9.st H9.out.out H9.ne (by omega) H9.lts.2.2
       go_wp2_with fail;refine HDr.mono ?_;clear HDr;rintro e v9 ⟨st1,out1,gd1,cd1,rfl,hdr,hO⟩;have H10:Hid (PB w base g cp N ks (i1) (md1) (0) (0) (st1) (out1) gs cs gd1 cd1 v9):=H9.drain hO.out;have HDe:Hid (yAk true mst mout=(st1,out1)):=hdr;have hdl:=yDt true mst mout;rw[hdr]at hdl;simp only at hdl;clear hO hdr;obtain⟨s1,hs1⟩:=qE st1.length;obtain⟨o1,ho1⟩:=qE out1.length;have HL1:Hid (s1=st1.length∧o1=out1.length):=⟨hs1,ho1⟩;rw[←hs1,←ho1]at hdl⊢;clear hs1 ho1;obtain⟨W12,hW12⟩:∃V:World,V=v9.alloc (Obj.cells #[.int .i64 2,.int .i64 0] 86):=⟨_,rfl⟩;have hbW12:Below v9.heap.size v9 W12:=by rw[hW12];exact qB
       have HCW12:Hid (PB w base g cp N ks (i1) (md1) (0) (0) (st1) (out1) gs cs gd1 cd1 W12∧∀j u,(enV (2,0))[j]?=some u→W12.cell? ⟨v9.heap.size,j,none⟩=some u):=⟨H10.up hbW12,by rw[hW12];exact yAt v9 _ _⟩;clear hbW12;have hq1:(st1).reverse.length≤1000000:=by rw[List.length_reverse,←HL1.1];omega
       have hq2:w.heap.size+2≤W12.heap.size:=HCW12.1.lts.2.2;have hq3:Hid (s1=(st1).reverse.length):=by show _=_;rw[List.length_reverse];exact HL1.1
       obtain⟨a0,a1,a2,a3,a4⟩:=H10.p.c5;go_wp2_with (at_builtin;(try rw[←hW12]);refine yA6 _ rfl _ _ rfl (w.heap.size+2) gs cs (s1) v9.heap.size 1 (st1).reverse (2,0) rfl rfl hq3.out HCW12.1.st HCW12.2 hq1 hq2 ?_);intro g2 c2 w2 hO' hgr hat;have hgr2:W12.grownBy w2 (some gs):=by first|exact hgr|(rw[hW12];exact hgr)
       have hat2:g2=gs∨g2=W12.heap.size:=by first|exact hat|(rw[hW12];exact hat)|(rw[hW12];simpa using hat)
       have HA:Hid (PB w base g cp N ks (i1) (md1) (0) (0) ((2,0)::st1) (out1) g2 c2 gd1 cd1 w2):=HCW12.1.pushS hO' hgr2 hat2;clear hO' hgr hgr2 hat hat2 hW12 HCW12 hq1 hq2 hq3 a0 a1 a2 a3 a4;go_wp2_with fail;have HPn:Hid (PM N ks (⟨ks,0,[],[],true⟩:Ms) ⟨ks.drop i1,md1,out1,(2,0)::st1,true⟩ i1):=by have h9:=HPm.out;rw[HDe.out]at h9;exact h9
       go_roundg (N+1-(i1));case measure=>omega
       case rel=>exact .inl ⟨⟨ks.drop i1,md1,out1,(2,0)::st1,true⟩,i1,g2,c2,gd1,cd1,by rw[HL1.2],by rw[HL1.1];rfl,rfl,Nat.le_refl _,HPn.out,HA.out⟩
     case false=>as_aux_lemma=>
      have HE0:Hid (∀st1 out1,yAk true mst mout=(st1,out1)→(st1= []→k.k=.fin→yAl (⟨ks,0,[],[],true⟩:Ms) (.ok out1))∧
        (st1= []→¬k.k=.fin→yAl (⟨ks,0,[],[],true⟩:Ms) (.error (3,k.pos)))∧
        (∀l st2,st1=(4,l)::st2→0<l→k.k.isSign 44=true→PM N ks (⟨ks,0,[],[],true⟩:Ms) ⟨ks.drop (i+1),mmade,out1,(4,l-1)::st2,true⟩ (i+1))∧
        (∀kd st2,st1=(kd,0)::st2→k.k.isSign 41=true→PM N ks (⟨ks,0,[],[],true⟩:Ms) ⟨ks.drop (i+1),mmade,if kd=4 then out1++ [yAc 16]else out1,st2,false⟩ (i+1))∧
        (∀kd l st2,st1=(kd,l)::st2→¬(kd=4∧0<l∧k.k.isSign 44=true)→¬(l=0∧k.k.isSign 41=true)→yAl (⟨ks,0,[],[],true⟩:Ms) (.error (3,k.pos)))):=fun st1 out1 hd=>yQx HMb.1 HMb.2 HN.1 HN.2.2.1 Hbd.out hs62 hs124 hd
      have HtB:Hid (yA v2 (w.heap.size+2) 80 4 b7 (tkV k)∧¬b7=go):=⟨Ht2.out,H7t.2.2⟩;clear hs62 hs124 u0 u2 Ht2 H7t;have HDr:Hid (Calls Tryz.prog 51 #[.slice (some ⟨gs,0,none⟩) sl cs,.slice (some ⟨go,0,none⟩) ol co,.bool true] v2 (DrP v2 (w.heap.size+2) gs cs go mst mout true)):=by rw[HLb.1,HLb.2.1];exact yDr true H2.st H2.out.out H2.ne (by omega) H2.lts.2.2
      go_wp2_with fail;refine HDr.mono ?_;clear HDr;rintro e v9 ⟨st1,out1,gd1,cd1,rfl,hdr,hO⟩;have H10:Hid (PB w base g cp N ks (i) (mmade) (0) (0) (st1) (out1) gs cs gd1 cd1 v9):=H2.drain hO.out;have HDe:Hid (yAk true mst mout=(st1,out1)):=hdr;have hdl:=yDt true mst mout;rw[hdr]at hdl;simp only at hdl;have Ht9:Hid (yA v9 (w.heap.size+2) 80 4 b7 (tkV k)):=HtB.1.chg hO.out.2.2.1 HtB.2;have HE:=HE0.out st1 out1 hdr
      have HE1:Hid ((st1= []→k.k=.fin→yAl (⟨ks,0,[],[],true⟩:Ms) (.ok out1))∧
        (st1= []→¬k.k=.fin→yAl (⟨ks,0,[],[],true⟩:Ms) (.error (3,k.pos)))∧
        (∀l st2,st1=(4,l)::st2→0<l→k.k.isSign 44=true→PM N ks (⟨ks,0,[],[],true⟩:Ms) ⟨ks.drop (i+1),mmade,out1,(4,l-1)::st2,true⟩ (i+1))∧
        (∀kd st2,st1=(kd,0)::st2→k.k.isSign 41=true→PM N ks (⟨ks,0,[],[],true⟩:Ms) ⟨ks.drop (i+1),mmade,if kd=4 then out1++ [yAc 16]else out1,st2,false⟩ (i+1))∧
        (∀kd l st2,st1=(kd,l)::st2→¬(kd=4∧0<l∧k.k.isSign 44=true)→¬(l=0∧k.k.isSign 41=true)→yAl (⟨ks,0,[],[],true⟩:Ms) (.error (3,k.pos)))):=HE
      have hst2:=HMb.1.left_le hdr;clear hO hdr HE HE0 HtB H2 HDe;obtain⟨o1,ho1⟩:=qE out1.length;rw[←ho1]at hdl⊢;have HO1:Hid (o1=out1.length):=ho1;clear ho1;cases st1 with
      |nil=>as_aux_lemma=>
       clear hst2;have u0:=Ht9.cell (j:=0) rfl;rw[←Htt.2]at u0;by_cases hf:k.k=.fin;case pos=>as_aux_lemma=>
        have z5:(tn==5)=true:=by rw[Htt.2,hf];rfl
        have HEo:Hid (yAl (⟨ks,0,[],[],true⟩:Ms) (.ok out1)):=HE1.1 rfl hf;have H9:=H10.out;clear HE1 hf;obtain⟨a0,a1,a2,a3,a4⟩:=H9.p.c5;obtain⟨W9,hW9⟩:∃V:World,V=setP v9 (w.heap.size+1) (.slice (some ⟨g,0,none⟩) N cp) (.int .i64 ((i:Nat):Int)) (.int .i64 ((mmade:Nat):Int)) (.int .i64 (0)) (.int .i64 0):=⟨_,rfl⟩;have HR:Hid (ParP w g cp N (⟨ks,0,[],[],true⟩:Ms) (.returned (.tuple #[parV g N cp (i) (mmade) (0) (0),.slice (some ⟨gd1,0,none⟩) o1 cd1])) W9∧yA W9 w.heap.size 41 5 (w.heap.size+1) [.slice (some ⟨g,0,none⟩) N cp,.int .i64 ((i:Nat):Int),.int .i64 ((mmade:Nat):Int),.int .i64 (0),.int .i64 ((0:Nat):Int)]):=by rw[HO1.out];exact H9.good HEo.out hW9
        obtain⟨c0,c1,c2,c3,c4⟩:=H9.rp.c5;obtain⟨e0,e1,e2,e3,e4⟩:=H9.rp.f5;obtain⟨p0,p1,p2,p3,p4⟩:=HR.2.c5;unfold setP at hW9;go_wp2_with fail;rw[←hW9];exact bodyPost_ret (v:=.tuple #[parV g N cp (i) (mmade) (0) (0),.slice (some ⟨gd1,0,none⟩) o1 cd1]) (by simp[results,Tryz.results21,go_sem,p0,p1,p2,p3,p4]) rfl HR.1
       case neg=>as_aux_lemma=>
        have z5:(tn==5)=false:=by rw[beq_eq_false_iff_ne,Htt.2];intro q;apply hf;cases hkk:k.k<;>rw[hkk]at q<;>first|rfl|exact absurd q (by simp[tkN])
        have HEo:Hid (yAl (⟨ks,0,[],[],true⟩:Ms) (.error (3,k.pos))):=HE1.2.1 rfl hf;have HFl3:Hid (Calls Tryz.prog 46 #[parV g N cp i mmade 0 0,.int .i64 3] v9 fun e w'=>e=.returned (parV g N cp i mmade 3 k.pos)∧Below v9.heap.size v9 w'):=HFl.out v9 H10.tk 3;clear HE1 hf;obtain⟨a0,a1,a2,a3,a4⟩:=H10.p.c5;go_wp2_with fail;refine HFl3.mono ?_;clear HFl3;rintro e v8 ⟨rfl,hb9⟩;have H9:=H10.up hb9;clear hb9 a0 a1 a2 a3 a4;obtain⟨W9,hW9⟩:∃V:World,V=setP v8 (w.heap.size+1) (.slice (some ⟨g,0,none⟩) N cp) (.int .i64 ((i:Nat):Int)) (.int .i64 ((mmade:Nat):Int)) (.int .i64 (3)) (.int .i64 ((k.pos:Nat):Int)):=⟨_,rfl⟩;have HR:Hid (ParP w g cp N (⟨ks,0,[],[],true⟩:Ms) (.returned (.tuple #[parV g N cp (i) (mmade) (3) (k.pos),.slice (some ⟨gd1,0,none⟩) o1 cd1])) W9∧yA W9 w.heap.size 41 5 (w.heap.size+1) [.slice (some ⟨g,0,none⟩) N cp,.int .i64 ((i:Nat):Int),.int .i64 ((mmade:Nat):Int),.int .i64 (3),.int .i64 ((k.pos:Nat):Int)]):=H9.fail HEo.out (by decide) hW9;obtain⟨c0,c1,c2,c3,c4⟩:=H9.rp.c5;obtain⟨e0,e1,e2,e3,e4⟩:=H9.rp.f5;obtain⟨p0,p1,p2,p3,p4⟩:=HR.2.c5;unfold setP at hW9;go_wp2_with fail;rw[←hW9];exact bodyPost_ret (v:=.tuple #[parV g N cp (i) (mmade) (3) (k.pos),.slice (some ⟨gd1,0,none⟩) o1 cd1]) (by simp[results,Tryz.results21,go_sem,p0,p1,p2,p3,p4]) rfl HR.1
      |cons top st2=>as_aux_lemma=>
       obtain⟨kd,l⟩:=top;have hl2:l≤2:=hst2 (kd,l) (by simp);clear hst2;obtain⟨s2,hs2⟩:=qE st2.length;have HS2:Hid (s2=st2.length):=hs2;rw[show((kd,l)::st2).length=s2+1 from by rw[hs2];rfl]at hdl⊢;have t0:=H10.top.1;have t1:=H10.top.2;rw[←hs2]at t0 t1;clear hs2;have hsc:s2+1≤cs∧cs≤9223372036854775807:=by have h9:=H10.st.caps;rw[List.length_reverse,List.length_cons,←HS2.out]at h9;unfold maxLen at h9;omega
       have hgsl:gs<v9.heap.size:=H10.lts.1.2;obtain⟨W1,hW1⟩:∃V:World,V=v9.alloc (Obj.cells #[.int .i64 kd,.int .i64 (l:Int)] 86):=⟨_,rfl⟩;obtain⟨b11,hb11⟩:=qE v9.heap.size;have hbW1:Below v9.heap.size v9 W1:=by rw[hW1];exact qB
       have H11:Hid (PB w base g cp N ks (i) (mmade) (0) (0) ((kd,l)::st2) (out1) gs cs gd1 cd1 W1∧yA W1 (w.heap.size+2) 86 2 b11 [.int .i64 kd,.int .i64 (l:Int)]∧¬b11=gs∧¬b11=gd1):=⟨H10.up hbW1,by rw[hb11,hW1];exact yAb v9 _ H10.lts.2.2 rfl,by have:=H10.lts;omega,by have:=H10.lts;omega⟩;clear hbW1;go_upto_region 45 with fail;rw[←hW1,←hb11];clear hW1 hb11 t0 t1 hgsl;have H11p:Hid (PB w base g cp N ks (i) (mmade) (0) (0) ((kd,l)::st2) (out1) gs cs gd1 cd1 W1):=H11.1;obtain⟨x0,x1⟩:=H11.2.1.c2;by_cases hc4:kd=4∧0<l;case pos=>as_aux_lemma=>
        obtain⟨hk4,hl0⟩:=hc4;have HI3:Hid (Calls Tryz.prog 48 #[parV g N cp i mmade 0 0,.string ⟨#[44]⟩] W1 fun e w'=>e=.returned (.bool (k.k.isSign 44))∧Below W1.heap.size W1 w'):=HIs.out W1 H11p.tk 44 ⟨#[44]⟩ (by rw[ByteArray.toList_eq];rfl);have z4:(kd==4)=true:=by rw[beq_iff_eq];exact hk4
        have zl:(0:Int)<(l:Int):=by omega
        have Hk4:Hid (kd=4):=hk4;clear hk4;obtain⟨a0,a1,a2,a3,a4⟩:=H11p.p.c5;go_wp2_with fail;refine HI3.mono ?_;clear HI3;rintro e v3 ⟨rfl,hb3⟩;have H3:Hid (PB w base g cp N ks (i) (mmade) (0) (0) ((kd,l)::st2) (out1) gs cs gd1 cd1 v3):=H11p.up hb3;have Hx3:Hid (yA v3 (w.heap.size+2) 86 2 b11 [.int .i64 kd,.int .i64 (l:Int)]):=H11.2.1.below hb3;clear hb3 x0 x1 a0 a1 a2 a3 a4;obtain⟨x0,x1⟩:=Hx3.c2;cases hs44:k.k.isSign 44
        case true=>as_aux_lemma=>
         have HPm:Hid (PM N ks (⟨ks,0,[],[],true⟩:Ms) ⟨ks.drop (i+1),mmade,out1,(4,l-1)::st2,true⟩ (i+1)):=HE1.2.2.1 l st2 (by rw[Hk4.out]) hl0 hs44;clear HE1 hs44;obtain⟨W4,hW4⟩:∃V:World,V=v3.setCell ⟨gs,s2*2+1,none⟩ (.int .i64 ((l:Int)-1)):=⟨_,rfl⟩;obtain⟨l1,hl1⟩:=qE (l-1:Nat);have HL1:Hid (l1=l-1):=hl1;have H4:Hid (PB w base g cp N ks (i) (mmade) (0) (0) ((kd,l1)::st2) (out1) gs cs gd1 cd1 W4):=by have h9:=H3.left (l-1);rw[show((l-1:Nat):Int)=(l:Int)-1 by omega,←HS2.out,←hW4,←hl1]at h9;exact h9
         clear hl1;have t1:=H3.top.2;rw[←HS2.out]at t1;have ft:=yS4 H3.out (s2*2+1);have hgsl:gs<v3.heap.size:=H3.lts.1.2;go_upto_region 47 with fail;rw[←hW4];clear hW4 t1 ft hgsl x0 x1;have a1:=H4.p.cell (j:=1) rfl;have e1:=H4.p.frozen 1;go_wp2_with fail;have HPn:Hid (PM N ks (⟨ks,0,[],[],true⟩:Ms) ⟨ks.drop (i+1),mmade,out1,(kd,l1)::st2,true⟩ (i+1)):=by rw[Hk4.out,HL1.out];exact HPm.out
         go_roundg (N+1-(i+1));case measure=>omega
         case rel=>exact .inl ⟨⟨ks.drop (i+1),mmade,out1,(kd,l1)::st2,true⟩,i+1,gs,cs,gd1,cd1,by rw[HO1.out],by rw[HS2.out];rfl,rfl,Nat.le_refl _,HPn.out,H4.seti _ (by go_num)⟩
        case false=>as_aux_lemma=>
         have zl0:((l:Int)==0)=false:=by rw[beq_eq_false_iff_ne];omega
         have HEo:Hid (yAl (⟨ks,0,[],[],true⟩:Ms) (.error (3,k.pos))):=HE1.2.2.2.2 kd l st2 rfl (by rw[hs44];simp) (by omega);have HFl3:Hid (Calls Tryz.prog 46 #[parV g N cp i mmade 0 0,.int .i64 3] v3 fun e w'=>e=.returned (parV g N cp i mmade 3 k.pos)∧Below v3.heap.size v3 w'):=HFl.out v3 H3.tk 3;clear HE1 hs44;obtain⟨a0,a1,a2,a3,a4⟩:=H3.p.c5;go_wp2_with fail;refine HFl3.mono ?_;clear HFl3;rintro e v8 ⟨rfl,hb9⟩;have H9:=H3.up hb9;clear hb9 a0 a1 a2 a3 a4;obtain⟨W9,hW9⟩:∃V:World,V=setP v8 (w.heap.size+1) (.slice (some ⟨g,0,none⟩) N cp) (.int .i64 ((i:Nat):Int)) (.int .i64 ((mmade:Nat):Int)) (.int .i64 (3)) (.int .i64 ((k.pos:Nat):Int)):=⟨_,rfl⟩;have HR:Hid (ParP w g cp N (⟨ks,0,[],[],true⟩:Ms) (.returned (.tuple #[parV g N cp (i) (mmade) (3) (k.pos),.slice (some ⟨gd1,0,none⟩) o1 cd1])) W9∧yA W9 w.heap.size 41 5 (w.heap.size+1) [.slice (some ⟨g,0,none⟩) N cp,.int .i64 ((i:Nat):Int),.int .i64 ((mmade:Nat):Int),.int .i64 (3),.int .i64 ((k.pos:Nat):Int)]):=H9.fail HEo.out (by decide) hW9;obtain⟨c0,c1,c2,c3,c4⟩:=H9.rp.c5;obtain⟨e0,e1,e2,e3,e4⟩:=H9.rp.f5;obtain⟨p0,p1,p2,p3,p4⟩:=HR.2.c5;unfold setP at hW9;go_wp2_with fail;rw[←hW9];exact bodyPost_ret (v:=.tuple #[parV g N cp (i) (mmade) (3) (k.pos),.slice (some ⟨gd1,0,none⟩) o1 cd1]) (by simp[results,Tryz.results21,go_sem,p0,p1,p2,p3,p4]) rfl HR.1
       case neg=>as_aux_lemma=>
        have HcN:Hid (¬(kd=4∧0<l)):=hc4;have zA:((kd==4)=true→((0:Int)<(l:Int))→False):=fun q z=>hc4 ⟨by rw[beq_iff_eq]at q;exact q,by omega⟩;by_cases hl0:l=0;case pos=>as_aux_lemma=>
         subst hl0;have HI3:Hid (∀W,Below W1.heap.size W1 W→Calls Tryz.prog 48 #[parV g N cp i mmade 0 0,.string ⟨#[41]⟩] W fun e w'=>e=.returned (.bool (k.k.isSign 41))∧Below W.heap.size W w'):=fun W hb=>HIs.out W (H11p.tk.below hb) 41 ⟨#[41]⟩ (by rw[ByteArray.toList_eq];rfl);have HI4:Hid (Calls Tryz.prog 48 #[parV g N cp i mmade 0 0,.string ⟨#[41]⟩] W1 fun e w'=>e=.returned (.bool (k.k.isSign 41))∧Below W1.heap.size W1 w'):=HI3.out W1 (Below.refl _ _);clear zA hc4 HI3;cases h4:(kd==(4:Int))
         case true=>as_aux_lemma=>
          obtain⟨a0,a1,a2,a3,a4⟩:=H11p.p.c5;go_wp2_with fail;refine HI4.mono ?_;clear HI4;rintro e v3 ⟨rfl,hb3⟩;have H3:Hid (PB w base g cp N ks (i) (mmade) (0) (0) ((kd,0)::st2) (out1) gs cs gd1 cd1 v3):=H11p.up hb3;have Hx3:Hid (yA v3 (w.heap.size+2) 86 2 b11 [.int .i64 kd,.int .i64 ((0:Nat):Int)]):=H11.2.1.below hb3;clear hb3 x0 x1 a0 a1 a2 a3 a4;have x0:=Hx3.cell (j:=0) rfl;cases hs41:k.k.isSign 41
          case false=>as_aux_lemma=>
           have HEo:Hid (yAl (⟨ks,0,[],[],true⟩:Ms) (.error (3,k.pos))):=HE1.2.2.2.2 kd 0 st2 rfl (fun q=>HcN.out ⟨q.1,q.2.1⟩) (by rw[hs41];simp);have HFl3:Hid (Calls Tryz.prog 46 #[parV g N cp i mmade 0 0,.int .i64 3] v3 fun e w'=>e=.returned (parV g N cp i mmade 3 k.pos)∧Below v3.heap.size v3 w'):=HFl.out v3 H3.tk 3;clear HE1 hs41 x0;obtain⟨a0,a1,a2,a3,a4⟩:=H3.p.c5;go_wp2_with fail;refine HFl3.mono ?_;clear HFl3;rintro e v8 ⟨rfl,hb9⟩;have H9:=H3.up hb9;clear hb9 a0 a1 a2 a3 a4;obtain⟨W9,hW9⟩:∃V:World,V=setP v8 (w.heap.size+1) (.slice (some ⟨g,0,none⟩) N cp) (.int .i64 ((i:Nat):Int)) (.int .i64 ((mmade:Nat):Int)) (.int .i64 (3)) (.int .i64 ((k.pos:Nat):Int)):=⟨_,rfl⟩;have HR:Hid (ParP w g cp N (⟨ks,0,[],[],true⟩:Ms) (.returned (.tuple #[parV g N cp (i) (mmade) (3) (k.pos),.slice (some ⟨gd1,0,none⟩) o1 cd1])) W9∧yA W9 w.heap.size 41 5 (w.heap.size+1) [.slice (some ⟨g,0,none⟩) N cp,.int .i64 ((i:Nat):Int),.int .i64 ((mmade:Nat):Int),.int .i64 (3),.int .i64 ((k.pos:Nat):Int)]):=H9.fail HEo.out (by decide) hW9;obtain⟨c0,c1,c2,c3,c4⟩:=H9.rp.c5;obtain⟨e0,e1,e2,e3,e4⟩:=H9.rp.f5;obtain⟨p0,p1,p2,p3,p4⟩:=HR.2.c5;unfold setP at hW9;go_wp2_with fail;rw[←hW9];exact bodyPost_ret (v:=.tuple #[parV g N cp (i) (mmade) (3) (k.pos),.slice (some ⟨gd1,0,none⟩) o1 cd1]) (by simp[results,Tryz.results21,go_sem,p0,p1,p2,p3,p4]) rfl HR.1
          case true=>as_aux_lemma=>
           have HPm:Hid (PM N ks (⟨ks,0,[],[],true⟩:Ms) ⟨ks.drop (i+1),mmade,if kd=4 then out1++ [yAc 16]else out1,st2,false⟩ (i+1)):=HE1.2.2.2.1 kd st2 rfl hs41;have Hk4:Hid (kd=4):=by rw[beq_iff_eq]at h4;exact h4
           clear HE1 hs41;have H3q:Hid (PB w base g cp N ks (i) (mmade) (0) (0) (st2) (out1) gs cs gd1 cd1 v3):=H3.pop;obtain⟨W5,hW5⟩:∃V:World,V=v3.alloc (Obj.cells #[.int .i64 (yAc 16:Nd).kind,.string (yAc 16:Nd).s,.bool (yAc 16:Nd).hi,.string (yAc 16:Nd).t,.int .u64 (yAc 16:Nd).lo,.int .u64 (yAc 16:Nd).up,.int .i64 (yAc 16:Nd).n] 65):=⟨_,rfl⟩;have hbW5:Below v3.heap.size v3 W5:=by rw[hW5];exact qB
           have HCW5:Hid (PB w base g cp N ks (i) (mmade) (0) (0) (st2) (out1) gs cs gd1 cd1 W5∧yBj W5 v3.heap.size 0 [(yAc 16:Nd)]):=⟨H3q.up hbW5,by rw[hW5];exact(yGd v3 (w.heap.size+2) (yAc 16:Nd) H3q.lts.2.2).at⟩;clear hbW5;have hq1:(out1).length+1≤2^30:=by rw[←HO1.out];omega
           have hq2:w.heap.size+2≤W5.heap.size:=HCW5.1.lts.2.2;go_wp2_with (first|refine yC4 rfl _ rfl (yAc 16:Nd) rfl ?_|(at_builtin;(try rw[←hW5]);refine yAg _ rfl _ _ rfl (w.heap.size+2) gd1 cd1 (o1) v3.heap.size 0 1 1 (out1) [(yAc 16:Nd)] rfl rfl (HO1.out) rfl HCW5.1.out HCW5.2 hq1 hq2 ?_));intro g2 c2 w2 hO' hgr hat;have hgr2:W5.grownBy w2 (some gd1):=by first|exact hgr|(rw[hW5];exact hgr)
           have hat2:g2=gd1∨g2=W5.heap.size:=by first|exact hat|(rw[hW5];exact hat)|(rw[hW5];simpa using hat)
           have HA:Hid (PB w base g cp N ks (i) (mmade) (0) (0) (st2) (out1++ [(yAc 16:Nd)]) gs cs g2 c2 w2):=HCW5.1.pushO hO' hgr2 hat2;clear hO' hgr hgr2 hat hat2 hW5 HCW5 hq1 hq2;clear x0;rw[Hk4.out,if_pos rfl]at HPm;have a1:=HA.p.cell (j:=1) rfl;have e1:=HA.p.frozen 1;go_wp2_with fail;go_roundg (N+1-(i+1));case measure=>omega
           case rel=>exact .inl ⟨⟨ks.drop (i+1),mmade,out1++ [yAc 16],st2,false⟩,i+1,gs,cs,g2,c2,by rw[HO1.out,List.length_append];rfl,by rw[HS2.out],rfl,Nat.le_refl _,HPm.out,HA.seti _ (by go_num)⟩
         case false=>as_aux_lemma=>
          obtain⟨a0,a1,a2,a3,a4⟩:=H11p.p.c5;go_wp2_with fail;refine HI4.mono ?_;clear HI4;rintro e v3 ⟨rfl,hb3⟩;have H3:Hid (PB w base g cp N ks (i) (mmade) (0) (0) ((kd,0)::st2) (out1) gs cs gd1 cd1 v3):=H11p.up hb3;have Hx3:Hid (yA v3 (w.heap.size+2) 86 2 b11 [.int .i64 kd,.int .i64 ((0:Nat):Int)]):=H11.2.1.below hb3;clear hb3 x0 x1 a0 a1 a2 a3 a4;have x0:=Hx3.cell (j:=0) rfl;cases hs41:k.k.isSign 41
          case false=>as_aux_lemma=>
           have HEo:Hid (yAl (⟨ks,0,[],[],true⟩:Ms) (.error (3,k.pos))):=HE1.2.2.2.2 kd 0 st2 rfl (fun q=>HcN.out ⟨q.1,q.2.1⟩) (by rw[hs41];simp);have HFl3:Hid (Calls Tryz.prog 46 #[parV g N cp i mmade 0 0,.int .i64 3] v3 fun e w'=>e=.returned (parV g N cp i mmade 3 k.pos)∧Below v3.heap.size v3 w'):=HFl.out v3 H3.tk 3;clear HE1 hs41 x0;obtain⟨a0,a1,a2,a3,a4⟩:=H3.p.c5;go_wp2_with fail;refine HFl3.mono ?_;clear HFl3;rintro e v8 ⟨rfl,hb9⟩;have H9:=H3.up hb9;clear hb9 a0 a1 a2 a3 a4;obtain⟨W9,hW9⟩:∃V:World,V=setP v8 (w.heap.size+1) (.slice (some ⟨g,0,none⟩) N cp) (.int .i64 ((i:Nat):Int)) (.int .i64 ((mmade:Nat):Int)) (.int .i64 (3)) (.int .i64 ((k.pos:Nat):Int)):=⟨_,rfl⟩;have HR:Hid (ParP w g cp N (⟨ks,0,[],[],true⟩:Ms) (.returned (.tuple #[parV g N cp (i) (mmade) (3) (k.pos),.slice (some ⟨gd1,0,none⟩) o1 cd1])) W9∧yA W9 w.heap.size 41 5 (w.heap.size+1) [.slice (some ⟨g,0,none⟩) N cp,.int .i64 ((i:Nat):Int),.int .i64 ((mmade:Nat):Int),.int .i64 (3),.int .i64 ((k.pos:Nat):Int)]):=H9.fail HEo.out (by decide) hW9;obtain⟨c0,c1,c2,c3,c4⟩:=H9.rp.c5;obtain⟨e0,e1,e2,e3,e4⟩:=H9.rp.f5;obtain⟨p0,p1,p2,p3,p4⟩:=HR.2.c5;unfold setP at hW9;go_wp2_with fail;rw[←hW9];exact bodyPost_ret (v:=.tuple #[parV g N cp (i) (mmade) (3) (k.pos),.slice (some ⟨gd1,0,none⟩) o1 cd1]) (by simp[results,Tryz.results21,go_sem,p0,p1,p2,p3,p4]) rfl HR.1
          case true=>as_aux_lemma=>
           have HPm:Hid (PM N ks (⟨ks,0,[],[],true⟩:Ms) ⟨ks.drop (i+1),mmade,if kd=4 then out1++ [yAc 16]else out1,st2,false⟩ (i+1)):=HE1.2.2.2.1 kd st2 rfl hs41;have Hk4:Hid (¬kd=4):=by rw[beq_eq_false_iff_ne]at h4;exact h4
           clear HE1 hs41;have H3q:Hid (PB w base g cp N ks (i) (mmade) (0) (0) (st2) (out1) gs cs gd1 cd1 v3):=H3.pop;rw[if_neg Hk4.out]at HPm;have a1:=H3q.p.cell (j:=1) rfl;have e1:=H3q.p.frozen 1;go_wp2_with fail;go_roundg (N+1-(i+1));case measure=>omega
           case rel=>exact .inl ⟨⟨ks.drop (i+1),mmade,out1,st2,false⟩,i+1,gs,cs,gd1,cd1,by rw[HO1.out],by rw[HS2.out],rfl,Nat.le_refl _,HPm.out,H3q.seti _ (by go_num)⟩
        case neg=>as_aux_lemma=>
         have h4:(kd==(4:Int))=false:=by rw[beq_eq_false_iff_ne];intro q;exact hc4 ⟨q,by omega⟩
         have zl0:((l:Int)==0)=false:=by rw[beq_eq_false_iff_ne];omega
         have HEo:Hid (yAl (⟨ks,0,[],[],true⟩:Ms) (.error (3,k.pos))):=HE1.2.2.2.2 kd l st2 rfl (fun q=>hc4 ⟨q.1,q.2.1⟩) (fun q=>hl0 q.1);have HFl3:Hid (Calls Tryz.prog 46 #[parV g N cp i mmade 0 0,.int .i64 3] W1 fun e w'=>e=.returned (parV g N cp i mmade 3 k.pos)∧Below W1.heap.size W1 w'):=HFl.out W1 H11p.tk 3;clear zA hc4 hl0 HE1;obtain⟨a0,a1,a2,a3,a4⟩:=H11p.p.c5;go_wp2_with fail;refine HFl3.mono ?_;clear HFl3;rintro e v8 ⟨rfl,hb9⟩;have H9:=H11p.up hb9;clear hb9 a0 a1 a2 a3 a4;obtain⟨W9,hW9⟩:∃V:World,V=setP v8 (w.heap.size+1) (.slice (some ⟨g,0,none⟩) N cp) (.int .i64 ((i:Nat):Int)) (.int .i64 ((mmade:Nat):Int)) (.int .i64 (3)) (.int .i64 ((k.pos:Nat):Int)):=⟨_,rfl⟩;have HR:Hid (ParP w g cp N (⟨ks,0,[],[],true⟩:Ms) (.returned (.tuple #[parV g N cp (i) (mmade) (3) (k.pos),.slice (some ⟨gd1,0,none⟩) o1 cd1])) W9∧yA W9 w.heap.size 41 5 (w.heap.size+1) [.slice (some ⟨g,0,none⟩) N cp,.int .i64 ((i:Nat):Int),.int .i64 ((mmade:Nat):Int),.int .i64 (3),.int .i64 ((k.pos:Nat):Int)]):=H9.fail HEo.out (by decide) hW9;obtain⟨c0,c1,c2,c3,c4⟩:=H9.rp.c5;obtain⟨e0,e1,e2,e3,e4⟩:=H9.rp.f5;obtain⟨p0,p1,p2,p3,p4⟩:=HR.2.c5;unfold setP at hW9;go_wp2_with fail;rw[←hW9];exact bodyPost_ret (v:=.tuple #[parV g N cp (i) (mmade) (3) (k.pos),.slice (some ⟨gd1,0,none⟩) o1 cd1]) (by simp[results,Tryz.results21,go_sem,p0,p1,p2,p3,p4]) rfl HR.1
def LxP (t:List UInt8) (w:World) (e:Ending) (w':World):Prop:=∃g cp ks,e=.returned (.slice (some ⟨g,0,none⟩) (ks:List Tk).length cp)∧LexR t 0 ks∧yBs w' w.heap.size g cp ks∧Below w.heap.size w w'
structure LxJ (t:List UInt8) (w:World) (i m g cp:Nat) (out:List Tk) (wr:World):Prop where
 pre:∀ks,LexR (t.drop i) i ks→LexR t 0 (out++ks)
 own:yBs wr w.heap.size g cp out
 below:Below w.heap.size w wr
 len:m=out.length
variable {t:List UInt8} {i m:Nat} {out:List Tk}
theorem LxJ.space {wr wr':World} (h:LxJ t w i m g cp out wr) (hx:t[i]?=some 32) (hb:Below wr.heap.size wr wr'):LxJ t w (i+1) m g cp out wr':=
 ⟨fun ks hk=>h.pre ks (by rw[yAf hx];exact .space hk),h.own.below hb,h.below.trans (hb.mono h.below.size),h.len⟩
variable {n g' cp' m':Nat} {w':World}
theorem LxJ.tok {wr:World} (h:LxJ t w i m g cp out wr) {x:UInt8} (hx:t[i]?=some x) (hn:¬x=32) {k:TkK} (ht:tokF (t.drop i)=some (k,n)) (ho:yBs w' w.heap.size g' cp' (out++ [⟨k,i⟩])) (hb:Below w.heap.size w w') (hm:m'=m+1):LxJ t w (i+n) m' g' cp' (out++ [⟨k,i⟩]) w':=by refine⟨fun ks hk=>?_,ho,hb,by rw[hm,h.len];simp⟩;rw[List.append_assoc];refine h.pre _ ?_;rw[yAf hx]at ht⊢;refine .tok hn ht ?_;rw[←yAf hx,List.drop_drop];exact hk
theorem LxJ.bad {wr:World} (h:LxJ t w i m g cp out wr) {x:UInt8} (hx:t[i]?=some x) (hn:¬x=32) (ht:tokF (t.drop i)=none) (ho:yBs w' w.heap.size g' cp' (out++ [⟨.bad,i⟩])) (hb:Below w.heap.size w w') (hm:m'=m+1):LxP t w (.returned (.slice (some ⟨g',0,none⟩) m' cp')) w':=by refine⟨g',cp',out++ [⟨.bad,i⟩],by rw[hm,h.len];simp,h.pre _ ?_,ho,hb⟩;rw[yAf hx]at ht⊢;exact .bad hn ht
theorem LxJ.fin {wr:World} (h:LxJ t w i m g cp out wr) (hi:i=t.length) (ho:yBs w' w.heap.size g' cp' (out++ [⟨.fin,i⟩])) (hb:Below w.heap.size w w') (hm:m'=m+1):LxP t w (.returned (.slice (some ⟨g',0,none⟩) m' cp')) w':=by refine⟨g',cp',out++ [⟨.fin,i⟩],by rw[hm,h.len];simp,h.pre _ ?_,ho,hb⟩;rw[hi,List.drop_length];exact .fin
theorem yQn (b off cap:Nat) (t:List UInt8) (w:World) (h:yAe w b off t) (hb:b<w.heap.size) (hl:t.length≤100000) (hc:t.length≤cap) (hcm:cap≤maxLen):
  Calls Tryz.prog 22 #[.slice (some ⟨b,off,none⟩) t.length cap] w (LxP t w):=by
 have HT:Hid (yAe w b off t):=h;unfold maxLen at hcm;obtain⟨n,hn⟩:=qE t.length;have HN:Hid (n=t.length):=hn;rw[←hn]at hl hc⊢;clear hn h;obtain⟨W0,hW0⟩:=qE (w.alloc (Obj.cells #[] 80):World);have HW0:Hid (LxJ t w 0 0 w.heap.size 0 [] W0):=by rw[hW0];exact⟨fun ks hk=>by simpa using hk,yU5 w (Nat.le_refl _),qB,rfl⟩
 go_enter Tryz.func22,Tryz.ntmps22;go_upto_region 2 with fail;rw[←hW0];clear hW0;go_wp2_with fail;go_loopw[3,4] (fun ov iv wr=>∃(i m g cp:Nat) (out:List Tk),iv=.int .i64 (i:Int)∧i≤n∧m≤i∧ov=.slice (some ⟨g,0,none⟩) m cp∧LxJ t w i m g cp out wr) (fun _ iv _=>n-(intOf iv).toNat);case atStart=>exact⟨0,0,w.heap.size,0,[],rfl,Nat.zero_le _,Nat.le_refl _,rfl,HW0.out⟩
 case round=>
  clear HW0;obtain⟨i,m,g,cp,out,rfl,hi,hmi,rfl,hJ⟩:=hrel;have HJ:Hid (LxJ t w i m g cp out wr):=hJ;have hgl:=hJ.own.lt;have sr:=hJ.below.size;clear hJ;have hlm:out.length≤1000000:=by have:=HJ.len;omega
  by_cases hin:i<n;case neg=>as_aux_lemma=>
   have zi:¬(i:Int)<(n:Int):=by omega
   obtain rfl:i=n:=by omega
   obtain⟨W2,hW2⟩:=qE (wr.alloc (Obj.cells #[.int .i64 5,.int .u64 0,.string ⟨#[]⟩,.int .i64 (i:Int)] 80):World);have hb2:Below wr.heap.size wr W2:=by rw[hW2];exact qB
   have s2:=hb2.size;have HW2:Hid (yBs W2 w.heap.size g cp out∧Below w.heap.size w W2∧∀j u,(tkV ⟨.fin,i⟩)[j]?=some u→W2.cell? ⟨wr.heap.size,j,none⟩=some u):=by refine⟨HJ.own.below hb2,HJ.below.trans (hb2.mono (by omega)),?_⟩;rw[hW2];exact yAt wr _ _
   clear hb2;go_wp2_with (at_builtin;(try rw[←hW2]);refine yA0 _ rfl _ _ rfl w.heap.size g cp m wr.heap.size 1 out ⟨.fin,i⟩ rfl rfl HJ.len HW2.1 HW2.2.2 hlm ?hb ?_);case hb=>omega
   intro g' cp' w' hO' hgr hat;have hgr2:W2.grownBy w' (some g):=by first|exact hgr|(rw[hW2];exact hgr)
   have HA:Hid (yBs w' w.heap.size g' cp' (out++ [⟨.fin,i⟩])∧Below w.heap.size w w'):=⟨hO',HW2.2.1.grown hgr2 (by omega) (fun j hj=>by cases hj;exact hgl.1)⟩;clear hO' hgr hgr2 hat hW2;have HR:Hid (LxP t w (.returned (.slice (some ⟨g',0,none⟩) (m+1) cp')) w'):=HJ.fin HN.out HA.1 HA.2 rfl;clear HA;go_wp2_with fail;go_ret;exact HR.out
  case pos=>
  have zi:(i:Int)<(n:Int):=by omega
  obtain⟨x,hx⟩:∃x,t[i]?=some x:=⟨_,List.getElem?_eq_getElem (by have:=HN.out;omega)⟩;have HX:Hid (t[i]?=some x):=hx;have cx0:wr.cell? ⟨b,off+i,none⟩=some (.int .u8 (x.toNat:Int)):=by rw[HJ.below.cell (p:=⟨b,off+i,none⟩) hb];exact HT.out i x hx
  have hx8:x.toNat<256:=x.toNat_lt;obtain⟨W1,hW1⟩:=qE (wr.alloc (Obj.cells #[.int .i64 6,.int .u64 0,.string ⟨#[]⟩,.int .i64 (i:Int)] 80):World);have hb1:Below wr.heap.size wr W1:=by rw[hW1];exact qB
  have hz1:wr.heap.size<W1.heap.size:=by rw[hW1];simp
  have HJ1:Hid (LxJ t w i m g cp out W1∧yA W1 w.heap.size 80 4 wr.heap.size [.int .i64 6,.int .u64 0,.string ⟨#[]⟩,.int .i64 (i:Int)]∧Below wr.heap.size wr W1):=by refine⟨⟨HJ.pre,HJ.own.below hb1,HJ.below.trans (hb1.mono sr),HJ.len⟩,?_,hb1⟩;rw[hW1];exact yAb wr _ sr rfl
  have s1:w.heap.size≤W1.heap.size:=by omega
  have HC:Hid (∀k y,t[k]?=some y→W1.cell? ⟨b,off+k,none⟩=some (.int .u8 (y.toNat:Int))):=fun k y hk=>by rw[HJ1.1.below.cell (p:=⟨b,off+k,none⟩) hb];exact HT.out k y hk
  have HB1:Hid (yAe W1 b off t):=fun k y hk=>HC.out k y hk;clear hx hb1;go_upto_region 8 with fail;rw[←hW1];clear hW1 cx0;have cx:=HC.out i x HX.out;obtain⟨o0,o1,o2,o3⟩:=HJ1.2.1.c4;by_cases h32:x.toNat=32
  ·as_aux_lemma=>
   have z32:((x.toNat:Int)==32)=true:=by have:(x.toNat:Int)=32:=(by omega);simp[this]
   have HR:Hid (LxJ t w (i+1) m g cp out W1):=HJ.space (by rw[HX.out];congr 1;exact UInt8.toNat_inj.1 h32) HJ1.2.2;clear h32;go_wp2_with fail;go_roundw;case rel=>exact⟨i+1,m,g,cp,out,by go_num,by omega,by omega,rfl,HR.out⟩
   case measure=>simp[intOf];omega
  have z32:((x.toNat:Int)==32)=false:=by have:¬(x.toNat:Int)=32:=(by omega);simp[this]
  have Hn32:Hid (¬x=32):=yEv h32;clear h32;go_upto_region 10 with fail;go_cut[37] (fun c wx=>c=.bool (yA7 x)∧wx=W1);case first=>
   by_cases h1:97≤x.toNat
   ·have z1:(97:Int)≤(x.toNat:Int):=by omega
    by_cases h2:x.toNat≤122
    ·have z2:(x.toNat:Int)≤122:=by omega
     have HM:Hid (yA7 x=true):=(yFt x).2 ⟨h1,h2⟩;go_wp2_with fail;go_meet;exact⟨by rw[HM.out],rfl⟩
    ·have z2:¬(x.toNat:Int)≤122:=by omega
     have HM:Hid (yA7 x=false):=by
      show _=_;have:¬yA7 x=true:=by rw[yFt];exact fun q=>h2 q.2
      simpa using this
     go_wp2_with fail;go_meet;exact⟨by rw[HM.out],rfl⟩
   ·have z1:¬(97:Int)≤(x.toNat:Int):=by omega
    have HM:Hid (yA7 x=false):=by
     show _=_;have:¬yA7 x=true:=by rw[yFt];exact fun q=>h1 q.1
     simpa using this
    go_wp2_with fail;go_meet;exact⟨by rw[HM.out],rfl⟩
  case rest=>
  obtain⟨rfl,hwc⟩:=hcut;rw[hwc];clear hwc;cases hlet:yA7 x
  case true=>as_aux_lemma=>
   have HTk':Hid (tokF (t.drop i)=(kwF ((t.drop i).takeWhile yA7)).map (fun k=>(.word k,((t.drop i).takeWhile yA7).length))):=yRn HX.out hlet;have HL0:Hid (yA7 x=true):=hlet;clear hlet;go_upto_block 2 with fail;go_cut[7] (fun jv wx=>∃(j:Nat),jv=.int .i64 (j:Int)∧i<j∧j≤n∧Hid ((t.drop i).takeWhile yA7=(t.drop i).take (j-i))∧wx=W1);case first=>
    go_wp2_with fail;go_loopw[7] (fun jv wx=>∃(j:Nat),jv=.int .i64 (j:Int)∧i≤j∧j≤n∧(∀k y,i≤k→k<j→t[k]?=some y→yA7 y=true)∧wx=W1) (fun jv _=>n-(intOf jv).toNat);case atStart=>exact⟨i,rfl,Nat.le_refl _,hi,fun k y h1 h2=>by omega,rfl⟩
    case round=>
     obtain⟨j,rfl,hij,hjn,hA0,hwx⟩:=hrel;rw[hwx];clear hwx;have HA0:Hid (∀k y,i≤k→k<j→t[k]?=some y→yA7 y=true):=hA0;clear hA0;by_cases hj:j<n
     ·have zj:(j:Int)<(n:Int):=by omega
      obtain⟨y,hy⟩:∃y,t[j]?=some y:=⟨_,List.getElem?_eq_getElem (by have:=HN.out;omega)⟩;have cy:=HC.out j y hy;by_cases hy1:97≤y.toNat∧y.toNat≤122
      ·have y97:(97:Int)≤(y.toNat:Int):=by omega
       have y122:(y.toNat:Int)≤122:=by omega
       have HY:Hid (∀k z,i≤k→k<j+1→t[k]?=some z→yA7 z=true):=fun k z h1 h2 h3=>by
        by_cases q:k<j
        ·exact HA0.out k z h1 q h3
        ·obtain rfl:k=j:=by omega
         rw[hy]at h3;cases h3
         exact(yFt y).2 hy1
       clear hy;exact yT6
      ·have HM:Hid (∃(j':Nat),Value.int .i64 (j:Int)=.int .i64 (j':Int)∧i<j'∧j'≤n∧Hid ((t.drop i).takeWhile yA7=(t.drop i).take (j'-i))∧W1=W1):=by
        have hne:¬yA7 y=true:=by rw[yFt];exact hy1
        refine⟨j,rfl,?_,hjn,yP8 hij (by have:=HN.out;omega) HA0.out (fun z hz=>?_),rfl⟩
        ·rcases Nat.lt_or_ge i j with q|q
         ·exact q
         ·obtain rfl:i=j:=by omega
          rw[HX.out]at hy;cases hy
          exact absurd HL0.out hne
        ·rw[hy]at hz;cases hz
         simpa using hne
       clear hy;by_cases hy2:97≤y.toNat
       ·have y97:(97:Int)≤(y.toNat:Int):=by omega
        have y122:¬(y.toNat:Int)≤122:=by omega
        clear hy1 hy2;exact yP1
       ·have y97:¬(97:Int)≤(y.toNat:Int):=by omega
        clear hy1 hy2;exact yP1
     ·have zj:¬(j:Int)<(n:Int):=by omega
      have HM:Hid (∃(j':Nat),Value.int .i64 (j:Int)=.int .i64 (j':Int)∧i<j'∧j'≤n∧Hid ((t.drop i).takeWhile yA7=(t.drop i).take (j'-i))∧W1=W1):=
       ⟨j,rfl,by omega,hjn,yP8 hij (by have:=HN.out;omega) HA0.out (fun z hz=>by rw[List.getElem?_eq_none (by have:=HN.out;omega)]at hz;cases hz),rfl⟩
      exact yP1
   case rest=>
   obtain⟨j,rfl,hij,hjn,HTw,hwc⟩:=hcut;rw[hwc];clear hwc;obtain⟨wd,hwd⟩:=qE ((t.drop i).take (j-i));have hwl:wd.length=j-i:=by rw[hwd,List.length_take,List.length_drop];have:=HN.out;omega
   have hcv:=yDk HB1.out i (j-i) (cap-i) (by have:=HN.out;omega);rw[←hwd]at hcv;have HWd:Hid ((t.drop i).takeWhile yA7=wd∧wd.length=j-i):=⟨HTw.trans hwd.symm,hwl⟩;have HK:=yQp (strL wd) W1;clear hwl hwd HTw;have hz3:¬cap=i:=by omega
   go_wp2_with fail;refine HK.mono ?_;rintro e w2 ⟨kb,rfl,hw2,hkb⟩;rw[hw2];clear hw2 HK hcv;rw[yMd]at hkb;cases kb
   case false=>
    have HTn:Hid (tokF (t.drop i)=none):=by
     show _=_;rw[HTk'.out,HWd.1];cases hq:kwF wd with
     |none=>rfl
     |some k=>exact absurd (hkb.2 ⟨k,hq⟩) (by simp)
    clear hkb;obtain⟨W2,hW2⟩:=qE (W1.alloc (Obj.cells #[.int .i64 6,.int .u64 0,.string ⟨#[]⟩,.int .i64 (i:Int)] 80):World);have hb2:Below W1.heap.size W1 W2:=by rw[hW2];exact qB
    have s2:=hb2.size;have HW2:Hid (yBs W2 w.heap.size g cp out∧Below w.heap.size w W2∧∀j u,(tkV ⟨.bad,i⟩)[j]?=some u→W2.cell? ⟨W1.heap.size,j,none⟩=some u):=by refine⟨HJ1.1.own.below hb2,HJ1.1.below.trans (hb2.mono (by omega)),?_⟩;rw[hW2];exact yAt W1 _ _
    clear hb2;go_wp2_with (at_builtin;(try rw[←hW2]);refine yA0 _ rfl _ _ rfl w.heap.size g cp m W1.heap.size 1 out ⟨.bad,i⟩ rfl rfl HJ.len HW2.1 HW2.2.2 hlm ?hb ?_);case hb=>omega
    exact yU
   case true=>
    obtain⟨k,hk⟩:=hkb.1 rfl;have HTs:Hid (tokF (t.drop i)=some (.word k,j-i)∧yP7 k=strL wd):=by refine⟨?_,yUd hk⟩;rw[HTk'.out,HWd.1,hk,←HWd.2];rfl
    have Htv:Hid (tkV ⟨.word k,i⟩= [.int .i64 1,.int .u64 0,.string (strL wd),.int .i64 (i:Int)]):=by show _=_;rw[←HTs.2];rfl
    clear hkb hk;obtain⟨W2,hW2⟩:=qE (W1.alloc (Obj.cells #[.int .i64 1,.int .u64 0,.string (strL wd),.int .i64 (i:Int)] 80):World);have hb2:Below W1.heap.size W1 W2:=by rw[hW2];exact qB
    have s2:=hb2.size;have HW2:Hid (yBs W2 w.heap.size g cp out∧Below w.heap.size w W2∧∀j u,(tkV ⟨.word k,i⟩)[j]?=some u→W2.cell? ⟨W1.heap.size,j,none⟩=some u):=by refine⟨HJ1.1.own.below hb2,HJ1.1.below.trans (hb2.mono (by omega)),?_⟩;rw[hW2];rw[Htv.out];exact yAt W1 _ _
    clear hb2;go_wp2_with (at_builtin;(try rw[←hW2]);refine yA0 _ rfl _ _ rfl w.heap.size g cp m W1.heap.size 1 out ⟨.word k,i⟩ rfl rfl HJ.len HW2.1 HW2.2.2 hlm ?hb ?_);case hb=>omega
    intro g' cp' w' hO' hgr hat;have hgr2:W2.grownBy w' (some g):=by first|exact hgr|(rw[hW2];exact hgr)
    have HA:Hid (yBs w' w.heap.size g' cp' (out++ [⟨.word k,i⟩])∧Below w.heap.size w w'):=⟨hO',HW2.2.1.grown hgr2 (by omega) (fun j hj=>by cases hj;exact hgl.1)⟩;clear hO' hgr hgr2 hat hW2;have HR:Hid (LxJ t w (i+(j-i)) (m+1) g' cp' (out++ [⟨.word k,i⟩]) w'):=HJ.tok HX.out Hn32.out HTs.1 HA.1 HA.2 rfl;clear HA;go_wp2_with fail;go_roundw;case rel=>exact⟨j,m+1,g',cp',out++ [⟨.word k,i⟩],rfl,by omega,by omega,rfl,by have h9:=HR.out;rw[show i+(j-i)=j by omega]at h9;exact h9⟩
    case measure=>simp[intOf];omega
  case false=>
  have Hnl:Hid (¬yA7 x=true):=by show¬_;rw[hlet];simp
  clear hlet;go_upto_region 17 with fail;go_cut[81] (fun c wx=>c=.bool (yA1 x)∧wx=W1);case first=>
   by_cases h1:48≤x.toNat
   ·have z1:(48:Int)≤(x.toNat:Int):=by omega
    by_cases h2:x.toNat≤57
    ·have z2:(x.toNat:Int)≤57:=by omega
     have HM:Hid (yA1 x=true):=(yEp x).2 ⟨h1,h2⟩;go_wp2_with fail;go_meet;exact⟨by rw[HM.out],rfl⟩
    ·have z2:¬(x.toNat:Int)≤57:=by omega
     have HM:Hid (yA1 x=false):=by
      show _=_;have:¬yA1 x=true:=by rw[yEp];exact fun q=>h2 q.2
      simpa using this
     go_wp2_with fail;go_meet;exact⟨by rw[HM.out],rfl⟩
   ·have z1:¬(48:Int)≤(x.toNat:Int):=by omega
    have HM:Hid (yA1 x=false):=by
     show _=_;have:¬yA1 x=true:=by rw[yEp];exact fun q=>h1 q.1
     simpa using this
    go_wp2_with fail;go_meet;exact⟨by rw[HM.out],rfl⟩
  case rest=>
  obtain⟨rfl,hwc⟩:=hcut;rw[hwc];clear hwc;cases hdig:yA1 x
  case true=>as_aux_lemma=>
   have HTk':Hid (tokF (t.drop i)=(numM ((t.drop i).takeWhile yA1)).map (fun(n:Nat)=>(TkK.num (n:Int),((t.drop i).takeWhile yA1).length))):=yRo HX.out Hnl.out hdig;have HL0:Hid (yA1 x=true):=hdig;clear hdig;go_upto_block 4 with fail;go_cut[7] (fun jv wx=>∃(j:Nat),jv=.int .i64 (j:Int)∧i<j∧j≤n∧Hid ((t.drop i).takeWhile yA1=(t.drop i).take (j-i))∧wx=W1);case first=>
    go_wp2_with fail;go_loopw[7] (fun jv wx=>∃(j:Nat),jv=.int .i64 (j:Int)∧i≤j∧j≤n∧(∀k y,i≤k→k<j→t[k]?=some y→yA1 y=true)∧wx=W1) (fun jv _=>n-(intOf jv).toNat);case atStart=>exact⟨i,rfl,Nat.le_refl _,hi,fun k y h1 h2=>by omega,rfl⟩
    case round=>
     obtain⟨j,rfl,hij,hjn,hA0,hwx⟩:=hrel;rw[hwx];clear hwx;have HA0:Hid (∀k y,i≤k→k<j→t[k]?=some y→yA1 y=true):=hA0;clear hA0;by_cases hj:j<n
     ·have zj:(j:Int)<(n:Int):=by omega
      obtain⟨y,hy⟩:∃y,t[j]?=some y:=⟨_,List.getElem?_eq_getElem (by have:=HN.out;omega)⟩;have cy:=HC.out j y hy;by_cases hy1:48≤y.toNat∧y.toNat≤57
      ·have y97:(48:Int)≤(y.toNat:Int):=by omega
       have y122:(y.toNat:Int)≤57:=by omega
       have HY:Hid (∀k z,i≤k→k<j+1→t[k]?=some z→yA1 z=true):=fun k z h1 h2 h3=>by
        by_cases q:k<j
        ·exact HA0.out k z h1 q h3
        ·obtain rfl:k=j:=by omega
         rw[hy]at h3;cases h3
         exact(yEp y).2 hy1
       clear hy;exact yT6
      ·have HM:Hid (∃(j':Nat),Value.int .i64 (j:Int)=.int .i64 (j':Int)∧i<j'∧j'≤n∧Hid ((t.drop i).takeWhile yA1=(t.drop i).take (j'-i))∧W1=W1):=by
        have hne:¬yA1 y=true:=by rw[yEp];exact hy1
        refine⟨j,rfl,?_,hjn,yP8 hij (by have:=HN.out;omega) HA0.out (fun z hz=>?_),rfl⟩
        ·rcases Nat.lt_or_ge i j with q|q
         ·exact q
         ·obtain rfl:i=j:=by omega
          rw[HX.out]at hy;cases hy
          exact absurd HL0.out hne
        ·rw[hy]at hz;cases hz
         simpa using hne
       clear hy;by_cases hy2:48≤y.toNat
       ·have y97:(48:Int)≤(y.toNat:Int):=by omega
        have y122:¬(y.toNat:Int)≤57:=by omega
        clear hy1 hy2;exact yP1
       ·have y97:¬(48:Int)≤(y.toNat:Int):=by omega
        clear hy1 hy2;exact yP1
     ·have zj:¬(j:Int)<(n:Int):=by omega
      have HM:Hid (∃(j':Nat),Value.int .i64 (j:Int)=.int .i64 (j':Int)∧i<j'∧j'≤n∧Hid ((t.drop i).takeWhile yA1=(t.drop i).take (j'-i))∧W1=W1):=
       ⟨j,rfl,by omega,hjn,yP8 hij (by have:=HN.out;omega) HA0.out (fun z hz=>by rw[List.getElem?_eq_none (by have:=HN.out;omega)]at hz;cases hz),rfl⟩
      exact yP1
   case rest=>
   obtain⟨j,rfl,hij,hjn,HTw,hwc⟩:=hcut;rw[hwc];clear hwc;obtain⟨wd,hwd⟩:=qE ((t.drop i).take (j-i));have hwl:wd.length=j-i:=by rw[hwd,List.length_take,List.length_drop];have:=HN.out;omega
   have HWd:Hid ((t.drop i).takeWhile yA1=wd∧wd.length=j-i):=⟨HTw.trans hwd.symm,hwl⟩;have HK:Hid (Calls Tryz.prog 53 #[.slice (some ⟨b,off+i,none⟩) (j-i) (cap-i)] W1 (DgP wd W1)):=by
    have hby:yAe W1 b (off+i) wd:=fun k y hk=>by
     rw[hwd,List.getElem?_take]at hk;split at hk
     ·rw[List.getElem?_drop]at hk;rw[Nat.add_assoc];exact HB1.out (i+k) y hk
     ·cases hk
    have h9:=yOj b (off+i) (cap-i) wd W1 hby (by omega) (fun y hy=>by
     rw[←HWd.1]at hy
     exact List.all_eq_true.1 (List.all_takeWhile (p:=yA1) (l:=t.drop i)) y hy) (by omega) (by omega)
    rw[hwl]at h9;exact h9
   clear hwl hwd HTw;have hz3:¬cap=i:=by omega
   have zij:(i:Int)≤(j:Int):=by omega
   have zjc:(j:Int)≤(cap:Int):=by omega
   go_wp2_with fail;refine HK.mono ?_;rintro e w2 ⟨hw2,(⟨v,hv,rfl⟩|⟨hv,rfl⟩)⟩
   ·rw[hw2];clear hw2 HK;have HTs:Hid (tokF (t.drop i)=some (.num (v:Int),j-i)∧True):=by refine⟨?_,trivial⟩;rw[HTk'.out,HWd.1,hv,←HWd.2];rfl
    have Htv:Hid (tkV ⟨.num (v:Int),i⟩= [.int .i64 2,.int .u64 (v:Int),.string ⟨#[]⟩,.int .i64 (i:Int)]):=rfl;clear hv;obtain⟨W2,hW2⟩:=qE (W1.alloc (Obj.cells #[.int .i64 2,.int .u64 (v:Int),.string ⟨#[]⟩,.int .i64 (i:Int)] 80):World);have hb2:Below W1.heap.size W1 W2:=by rw[hW2];exact qB
    have s2:=hb2.size;have HW2:Hid (yBs W2 w.heap.size g cp out∧Below w.heap.size w W2∧∀j u,(tkV ⟨.num (v:Int),i⟩)[j]?=some u→W2.cell? ⟨W1.heap.size,j,none⟩=some u):=by refine⟨HJ1.1.own.below hb2,HJ1.1.below.trans (hb2.mono (by omega)),?_⟩;rw[hW2];rw[Htv.out];exact yAt W1 _ _
    clear hb2;go_wp2_with (at_builtin;(try rw[←hW2]);refine yA0 _ rfl _ _ rfl w.heap.size g cp m W1.heap.size 1 out ⟨.num (v:Int),i⟩ rfl rfl HJ.len HW2.1 HW2.2.2 hlm ?hb ?_);case hb=>omega
    intro g' cp' w' hO' hgr hat;have hgr2:W2.grownBy w' (some g):=by first|exact hgr|(rw[hW2];exact hgr)
    have HA:Hid (yBs w' w.heap.size g' cp' (out++ [⟨.num (v:Int),i⟩])∧Below w.heap.size w w'):=⟨hO',HW2.2.1.grown hgr2 (by omega) (fun j hj=>by cases hj;exact hgl.1)⟩;clear hO' hgr hgr2 hat hW2;have HR:Hid (LxJ t w (i+(j-i)) (m+1) g' cp' (out++ [⟨.num (v:Int),i⟩]) w'):=HJ.tok HX.out Hn32.out HTs.1 HA.1 HA.2 rfl;clear HA;go_wp2_with fail;go_roundw;case rel=>exact⟨j,m+1,g',cp',out++ [⟨.num (v:Int),i⟩],rfl,by omega,by omega,rfl,by have h9:=HR.out;rw[show i+(j-i)=j by omega]at h9;exact h9⟩
    case measure=>simp[intOf];omega
   ·rw[hw2];clear hw2 HK;have HTn:Hid (tokF (t.drop i)=none):=by show _=_;rw[HTk'.out,HWd.1,hv];rfl
    clear hv;obtain⟨W2,hW2⟩:=qE (W1.alloc (Obj.cells #[.int .i64 6,.int .u64 0,.string ⟨#[]⟩,.int .i64 (i:Int)] 80):World);have hb2:Below W1.heap.size W1 W2:=by rw[hW2];exact qB
    have s2:=hb2.size;have HW2:Hid (yBs W2 w.heap.size g cp out∧Below w.heap.size w W2∧∀j u,(tkV ⟨.bad,i⟩)[j]?=some u→W2.cell? ⟨W1.heap.size,j,none⟩=some u):=by refine⟨HJ1.1.own.below hb2,HJ1.1.below.trans (hb2.mono (by omega)),?_⟩;rw[hW2];exact yAt W1 _ _
    clear hb2;go_wp2_with (at_builtin;(try rw[←hW2]);refine yA0 _ rfl _ _ rfl w.heap.size g cp m W1.heap.size 1 out ⟨.bad,i⟩ rfl rfl HJ.len HW2.1 HW2.2.2 hlm ?hb ?_);case hb=>omega
    exact yU
  case false=>
  have Hnd:Hid (¬yA1 x=true):=by show¬_;rw[hdig];simp
  clear hdig;by_cases h34:x.toNat=34
  ·as_aux_lemma=>
   have z34:((x.toNat:Int)==34)=true:=by have:(x.toNat:Int)=34:=(by omega);simp[this]
   have HX34:Hid (t[i]?=some 34):=by show _=_;rw[HX.out];congr 1;exact UInt8.toNat_inj.1 h34
   have HK:Hid (Calls Tryz.prog 54 #[.slice (some ⟨b,off,none⟩) n cap,.int .i64 (i:Int)] W1 (QuoP t i W1)):=by have h9:=yLu b off cap t i W1 HB1.out (by omega) (by have:=HN.out;omega) (by have:=HN.out;omega);rw[←HN.out]at h9;exact h9
   clear h34;go_wp2_with fail;refine HK.mono ?_;rintro e w2 ⟨ok,st,kk,rfl,Hb2,hq⟩;have hz2:=Hb2.size
   have HJ2:Hid (LxJ t w i m g cp out w2∧yA w2 w.heap.size 80 4 wr.heap.size [.int .i64 6,.int .u64 0,.string ⟨#[]⟩,.int .i64 (i:Int)]):=
    ⟨⟨HJ1.1.pre,HJ1.1.own.below Hb2.out,HJ1.1.below.trans (Hb2.mono HJ1.1.below.size),HJ1.1.len⟩,HJ1.2.1.below Hb2.out⟩
   clear o0 o1 o2 o3 cx HK;rcases hq with⟨rfl,c,nn,hq,rfl,rfl⟩|⟨rfl,hq⟩
   ·have HTs:Hid (tokF (t.drop i)=some (.str (strL c),nn+1)∧nn≤n-(i+1)):=by
     refine⟨by rw[yN1 HX34.out,hq];rfl,?_⟩;have h9:strM (t.drop (i+1))=some (c,nn):=by
      unfold quF at hq;cases hs:strM (t.drop (i+1))with
      |none=>rw[hs]at hq;cases hq
      |some z=>
       rw[hs]at hq;obtain⟨c',n'⟩:=z;dsimp only at hq;split at hq
       ·exact hq
       ·cases hq
     have h8:=yG5 _ _ (Nat.le_refl _) _ h9;rw[List.length_drop]at h8;have:=HN.out;omega
    have hnn:nn≤n-(i+1):=HTs.2;have Htv:Hid (tkV ⟨.str (strL c),i⟩= [.int .i64 3,.int .u64 0,.string (strL c),.int .i64 (i:Int)]):=rfl;have HJ1:Hid (LxJ t w i m g cp out w2∧True):=⟨HJ2.1,trivial⟩;have s1:w.heap.size≤w2.heap.size:=by omega
    clear hq;obtain⟨W2,hW2⟩:=qE (w2.alloc (Obj.cells #[.int .i64 3,.int .u64 0,.string (strL c),.int .i64 (i:Int)] 80):World);have hb2:Below w2.heap.size w2 W2:=by rw[hW2];exact qB
    have s2:=hb2.size;have HW2:Hid (yBs W2 w.heap.size g cp out∧Below w.heap.size w W2∧∀j u,(tkV ⟨.str (strL c),i⟩)[j]?=some u→W2.cell? ⟨w2.heap.size,j,none⟩=some u):=by refine⟨HJ1.1.own.below hb2,HJ1.1.below.trans (hb2.mono (by omega)),?_⟩;rw[hW2];rw[Htv.out];exact yAt w2 _ _
    clear hb2;go_wp2_with (at_builtin;(try rw[←hW2]);refine yA0 _ rfl _ _ rfl w.heap.size g cp m w2.heap.size 1 out ⟨.str (strL c),i⟩ rfl rfl HJ.len HW2.1 HW2.2.2 hlm ?hb ?_);case hb=>omega
    intro g' cp' w' hO' hgr hat;have hgr2:W2.grownBy w' (some g):=by first|exact hgr|(rw[hW2];exact hgr)
    have HA:Hid (yBs w' w.heap.size g' cp' (out++ [⟨.str (strL c),i⟩])∧Below w.heap.size w w'):=⟨hO',HW2.2.1.grown hgr2 (by omega) (fun j hj=>by cases hj;exact hgl.1)⟩;clear hO' hgr hgr2 hat hW2;have HR:Hid (LxJ t w (i+(nn+1)) (m+1) g' cp' (out++ [⟨.str (strL c),i⟩]) w'):=HJ.tok HX.out Hn32.out HTs.1 HA.1 HA.2 rfl;clear HA;go_wp2_with fail;go_roundw;case rel=>exact⟨i+(nn+1),m+1,g',cp',out++ [⟨.str (strL c),i⟩],by(first|rfl|go_num|(congr 1;omega)),by omega,by omega,rfl,HR.out⟩
    case measure=>simp[intOf];omega
   ·have HTn:Hid (tokF (t.drop i)=none):=by show _=_;rw[yN1 HX34.out,hq];rfl
    have HJ1:Hid (LxJ t w i m g cp out w2∧True):=⟨HJ2.1,trivial⟩;have s1:w.heap.size≤w2.heap.size:=by omega
    obtain⟨o0,o1,o2,o3⟩:=HJ2.2.c4;clear hq;obtain⟨W2,hW2⟩:=qE (w2.alloc (Obj.cells #[.int .i64 6,.int .u64 0,.string ⟨#[]⟩,.int .i64 (i:Int)] 80):World);have hb2:Below w2.heap.size w2 W2:=by rw[hW2];exact qB
    have s2:=hb2.size;have HW2:Hid (yBs W2 w.heap.size g cp out∧Below w.heap.size w W2∧∀j u,(tkV ⟨.bad,i⟩)[j]?=some u→W2.cell? ⟨w2.heap.size,j,none⟩=some u):=by refine⟨HJ1.1.own.below hb2,HJ1.1.below.trans (hb2.mono (by omega)),?_⟩;rw[hW2];exact yAt w2 _ _
    clear hb2;go_wp2_with (at_builtin;(try rw[←hW2]);refine yA0 _ rfl _ _ rfl w.heap.size g cp m w2.heap.size 1 out ⟨.bad,i⟩ rfl rfl HJ.len HW2.1 HW2.2.2 hlm ?hb ?_);case hb=>omega
    exact yU
  have z34:((x.toNat:Int)==34)=false:=by have:¬(x.toNat:Int)=34:=(by omega);simp[this]
  have HTk:Hid (tokF (t.drop i)=if x=46∧t[i+1]?=some 46 then some (.sign 46,2)else if x=40∨x=41∨x=44∨x=62∨x=124 then some (.sign x,1)else none):=yOy HX.out Hnl.out Hnd.out (yEv h34);have hn34:=h34;clear h34;go_upto_region 30 with fail;go_cut[160] (fun c wx=>c=.bool (decide (x=46∧t[i+1]?=some 46))∧wx=W1);case first=>as_aux_lemma=>
   by_cases h46:x.toNat=46
   ·have hx46:x=46:=UInt8.toNat_inj.1 h46;have z46:((x.toNat:Int)==46)=true:=by have:(x.toNat:Int)=46:=(by omega);simp[this]
    by_cases hi1:i+1<n
    ·have zi1:(i:Int)+1<(n:Int):=by omega
     obtain⟨y,hy⟩:∃y,t[i+1]?=some y:=⟨_,List.getElem?_eq_getElem (by have:=HN.out;omega)⟩;have cy:=HC.out (i+1) y hy;by_cases hy46:y.toNat=46
     ·have zy:((y.toNat:Int)==46)=true:=by have:(y.toNat:Int)=46:=(by omega);simp[this]
      have HM:Hid (decide (x=46∧t[i+1]?=some 46)=true):=decide_eq_true ⟨hx46,by rw[hy];congr 1;exact UInt8.toNat_inj.1 hy46⟩;clear hy hy46 h46 hx46;go_wp2_with fail;go_meet;exact⟨by rw[HM.out],rfl⟩
     ·have zy:((y.toNat:Int)==46)=false:=by have:¬(y.toNat:Int)=46:=(by omega);simp[this]
      have HM:Hid (decide (x=46∧t[i+1]?=some 46)=false):=decide_eq_false (fun q=>by rw[hy]at q;cases q.2;exact hy46 rfl);clear hy hy46 h46 hx46;go_wp2_with fail;go_meet;exact⟨by rw[HM.out],rfl⟩
    ·have zi1:¬(i:Int)+1<(n:Int):=by omega
     have HM:Hid (decide (x=46∧t[i+1]?=some 46)=false):=decide_eq_false (fun q=>by rw[List.getElem?_eq_none (by have:=HN.out;omega)]at q;cases q.2);clear h46 hx46;go_wp2_with fail;go_meet;exact⟨by rw[HM.out],rfl⟩
   ·have z46:((x.toNat:Int)==46)=false:=by have:¬(x.toNat:Int)=46:=(by omega);simp[this]
    have HM:Hid (decide (x=46∧t[i+1]?=some 46)=false):=decide_eq_false (fun q=>h46 (by rw[q.1];rfl));clear h46;go_wp2_with fail;go_meet;exact⟨by rw[HM.out],rfl⟩
  case rest=>
  obtain⟨rfl,hwc⟩:=hcut;rw[hwc];clear hwc;cases hdd:decide (x=46∧t[i+1]?=some 46)
  case true=>as_aux_lemma=>
   have hdd':=of_decide_eq_true hdd;have HTs:Hid (tokF (t.drop i)=some (.sign 46,2)∧i+1<n):=⟨by rw[HTk.out,if_pos hdd'],by have:=(List.getElem?_eq_some_iff.1 hdd'.2).1;have:=HN.out;omega⟩;have hi1:i+1<n:=HTs.2;have Htv:Hid (tkV ⟨.sign 46,i⟩= [.int .i64 4,.int .u64 0,.string ⟨#[46,46]⟩,.int .i64 (i:Int)]):=rfl;clear hdd hdd' hn34;obtain⟨W2,hW2⟩:=qE (W1.alloc (Obj.cells #[.int .i64 4,.int .u64 0,.string ⟨#[46,46]⟩,.int .i64 (i:Int)] 80):World);have hb2:Below W1.heap.size W1 W2:=by rw[hW2];exact qB
   have s2:=hb2.size;have HW2:Hid (yBs W2 w.heap.size g cp out∧Below w.heap.size w W2∧∀j u,(tkV ⟨.sign 46,i⟩)[j]?=some u→W2.cell? ⟨W1.heap.size,j,none⟩=some u):=by refine⟨HJ1.1.own.below hb2,HJ1.1.below.trans (hb2.mono (by omega)),?_⟩;rw[hW2];rw[Htv.out];exact yAt W1 _ _
   clear hb2;go_wp2_with (at_builtin;(try rw[←hW2]);refine yA0 _ rfl _ _ rfl w.heap.size g cp m W1.heap.size 1 out ⟨.sign 46,i⟩ rfl rfl HJ.len HW2.1 HW2.2.2 hlm ?hb ?_);case hb=>omega
   intro g' cp' w' hO' hgr hat;have hgr2:W2.grownBy w' (some g):=by first|exact hgr|(rw[hW2];exact hgr)
   have HA:Hid (yBs w' w.heap.size g' cp' (out++ [⟨.sign 46,i⟩])∧Below w.heap.size w w'):=⟨hO',HW2.2.1.grown hgr2 (by omega) (fun j hj=>by cases hj;exact hgl.1)⟩;clear hO' hgr hgr2 hat hW2;have HR:Hid (LxJ t w (i+2) (m+1) g' cp' (out++ [⟨.sign 46,i⟩]) w'):=HJ.tok HX.out Hn32.out HTs.1 HA.1 HA.2 rfl;clear HA;go_wp2_with fail;go_roundw;case rel=>exact⟨i+2,m+1,g',cp',out++ [⟨.sign 46,i⟩],by go_num,by omega,by omega,rfl,HR.out⟩
   case measure=>simp[intOf];omega
  case false=>
  have HTk2:Hid (tokF (t.drop i)=if x=40∨x=41∨x=44∨x=62∨x=124 then some (.sign x,1)else none):=by show _=_;rw[HTk.out,if_neg (of_decide_eq_false hdd)]
  clear hdd;go_upto_region 33 with fail;go_cut[185] (fun c wx=>c=.bool (decide (x=40∨x=41∨x=44∨x=62∨x=124))∧wx=W1);case first=>as_aux_lemma=>
   by_cases h40:x.toNat=40
   ·have hxc:x=40:=UInt8.toNat_inj.1 h40;have y40:((x.toNat:Int)==40)=true:=by have:(x.toNat:Int)=40:=(by omega);simp[this]
    have HM:Hid (decide (x=40∨x=41∨x=44∨x=62∨x=124)=true):=decide_eq_true (.inl hxc);clear hxc h40;go_wp2_with fail;go_meet;exact⟨by rw[HM.out],rfl⟩
   by_cases h41:x.toNat=41
   ·have hxc:x=41:=UInt8.toNat_inj.1 h41;have y40:((x.toNat:Int)==40)=false:=by have:¬(x.toNat:Int)=40:=(by omega);simp[this]
    have y41:((x.toNat:Int)==41)=true:=by have:(x.toNat:Int)=41:=(by omega);simp[this]
    have HM:Hid (decide (x=40∨x=41∨x=44∨x=62∨x=124)=true):=decide_eq_true (.inr (.inl hxc));clear hxc h40 h41;go_wp2_with fail;go_meet;exact⟨by rw[HM.out],rfl⟩
   by_cases h44:x.toNat=44
   ·have hxc:x=44:=UInt8.toNat_inj.1 h44;have y40:((x.toNat:Int)==40)=false:=by have:¬(x.toNat:Int)=40:=(by omega);simp[this]
    have y41:((x.toNat:Int)==41)=false:=by have:¬(x.toNat:Int)=41:=(by omega);simp[this]
    have y44:((x.toNat:Int)==44)=true:=by have:(x.toNat:Int)=44:=(by omega);simp[this]
    have HM:Hid (decide (x=40∨x=41∨x=44∨x=62∨x=124)=true):=decide_eq_true (.inr (.inr (.inl hxc)));clear hxc h40 h41 h44;go_wp2_with fail;go_meet;exact⟨by rw[HM.out],rfl⟩
   by_cases h62:x.toNat=62
   ·have hxc:x=62:=UInt8.toNat_inj.1 h62;have y40:((x.toNat:Int)==40)=false:=by have:¬(x.toNat:Int)=40:=(by omega);simp[this]
    have y41:((x.toNat:Int)==41)=false:=by have:¬(x.toNat:Int)=41:=(by omega);simp[this]
    have y44:((x.toNat:Int)==44)=false:=by have:¬(x.toNat:Int)=44:=(by omega);simp[this]
    have y62:((x.toNat:Int)==62)=true:=by have:(x.toNat:Int)=62:=(by omega);simp[this]
    have HM:Hid (decide (x=40∨x=41∨x=44∨x=62∨x=124)=true):=decide_eq_true (.inr (.inr (.inr (.inl hxc))));clear hxc h40 h41 h44 h62;go_wp2_with fail;go_meet;exact⟨by rw[HM.out],rfl⟩
   by_cases h124:x.toNat=124
   ·have hxc:x=124:=UInt8.toNat_inj.1 h124;have y40:((x.toNat:Int)==40)=false:=by have:¬(x.toNat:Int)=40:=(by omega);simp[this]
    have y41:((x.toNat:Int)==41)=false:=by have:¬(x.toNat:Int)=41:=(by omega);simp[this]
    have y44:((x.toNat:Int)==44)=false:=by have:¬(x.toNat:Int)=44:=(by omega);simp[this]
    have y62:((x.toNat:Int)==62)=false:=by have:¬(x.toNat:Int)=62:=(by omega);simp[this]
    have y124:((x.toNat:Int)==124)=true:=by have:(x.toNat:Int)=124:=(by omega);simp[this]
    have HM:Hid (decide (x=40∨x=41∨x=44∨x=62∨x=124)=true):=decide_eq_true (.inr (.inr (.inr (.inr hxc))));clear hxc h40 h41 h44 h62 h124;go_wp2_with fail;go_meet;exact⟨by rw[HM.out],rfl⟩
   have y40:((x.toNat:Int)==40)=false:=by have:¬(x.toNat:Int)=40:=(by omega);simp[this]
   have y41:((x.toNat:Int)==41)=false:=by have:¬(x.toNat:Int)=41:=(by omega);simp[this]
   have y44:((x.toNat:Int)==44)=false:=by have:¬(x.toNat:Int)=44:=(by omega);simp[this]
   have y62:((x.toNat:Int)==62)=false:=by have:¬(x.toNat:Int)=62:=(by omega);simp[this]
   have y124:((x.toNat:Int)==124)=false:=by have:¬(x.toNat:Int)=124:=(by omega);simp[this]
   have HM:Hid (decide (x=40∨x=41∨x=44∨x=62∨x=124)=false):=decide_eq_false (fun q=>by rcases q with q|q|q|q|q<;>first|exact yEv h40 q|exact yEv h41 q|exact yEv h44 q|exact yEv h62 q|exact yEv h124 q);clear h40 h41 h44 h62 h124;go_wp2_with fail;go_meet;exact⟨by rw[HM.out],rfl⟩
  case rest=>
  obtain⟨rfl,hwc⟩:=hcut;rw[hwc];clear hwc;cases hsg:decide (x=40∨x=41∨x=44∨x=62∨x=124)
  case true=>as_aux_lemma=>
   have hsg':=of_decide_eq_true hsg;have HTs:Hid (tokF (t.drop i)=some (.sign x,1)∧True):=⟨by rw[HTk2.out,if_pos hsg'],trivial⟩;have Hst:Hid (strL ((t.drop i).take 1)=⟨#[x]⟩):=by show _=_;rw[yAf HX.out];rfl
   have Htv:Hid (tkV ⟨.sign x,i⟩= [.int .i64 4,.int .u64 0,.string ⟨#[x]⟩,.int .i64 (i:Int)]):=by show _=_;have:tkT (.sign x)=⟨#[x]⟩:=if_neg (by rcases hsg' with rfl|rfl|rfl|rfl|rfl<;>decide);unfold tkV;rw[this];rfl
   have hcv:=yDk HB1.out i 1 (cap-i) (by have:=HN.out;omega);rw[Hst.out]at hcv;have hz3:¬cap=i:=by omega
   have zic:(i:Int)+1≤(cap:Int):=by omega
   clear hsg hsg' hn34;obtain⟨W2,hW2⟩:=qE (W1.alloc (Obj.cells #[.int .i64 4,.int .u64 0,.string ⟨#[x]⟩,.int .i64 (i:Int)] 80):World);have hb2:Below W1.heap.size W1 W2:=by rw[hW2];exact qB
   have s2:=hb2.size;have HW2:Hid (yBs W2 w.heap.size g cp out∧Below w.heap.size w W2∧∀j u,(tkV ⟨.sign x,i⟩)[j]?=some u→W2.cell? ⟨W1.heap.size,j,none⟩=some u):=by refine⟨HJ1.1.own.below hb2,HJ1.1.below.trans (hb2.mono (by omega)),?_⟩;rw[hW2];rw[Htv.out];exact yAt W1 _ _
   clear hb2;go_wp2_with (at_builtin;(try rw[←hW2]);refine yA0 _ rfl _ _ rfl w.heap.size g cp m W1.heap.size 1 out ⟨.sign x,i⟩ rfl rfl HJ.len HW2.1 HW2.2.2 hlm ?hb ?_);case hb=>omega
   intro g' cp' w' hO' hgr hat;have hgr2:W2.grownBy w' (some g):=by first|exact hgr|(rw[hW2];exact hgr)
   have HA:Hid (yBs w' w.heap.size g' cp' (out++ [⟨.sign x,i⟩])∧Below w.heap.size w w'):=⟨hO',HW2.2.1.grown hgr2 (by omega) (fun j hj=>by cases hj;exact hgl.1)⟩;clear hO' hgr hgr2 hat hW2;have HR:Hid (LxJ t w (i+1) (m+1) g' cp' (out++ [⟨.sign x,i⟩]) w'):=HJ.tok HX.out Hn32.out HTs.1 HA.1 HA.2 rfl;clear HA;go_wp2_with fail;go_roundw;case rel=>exact⟨i+1,m+1,g',cp',out++ [⟨.sign x,i⟩],by go_num,by omega,by omega,rfl,HR.out⟩
   case measure=>simp[intOf];omega
  case false=>
  have HTn:Hid (tokF (t.drop i)=none):=by show _=_;rw[HTk2.out,if_neg (of_decide_eq_false hsg)]
  clear hsg hn34;obtain⟨W2,hW2⟩:=qE (W1.alloc (Obj.cells #[.int .i64 6,.int .u64 0,.string ⟨#[]⟩,.int .i64 (i:Int)] 80):World);have hb2:Below W1.heap.size W1 W2:=by rw[hW2];exact qB
  have s2:=hb2.size;have HW2:Hid (yBs W2 w.heap.size g cp out∧Below w.heap.size w W2∧∀j u,(tkV ⟨.bad,i⟩)[j]?=some u→W2.cell? ⟨W1.heap.size,j,none⟩=some u):=by refine⟨HJ1.1.own.below hb2,HJ1.1.below.trans (hb2.mono (by omega)),?_⟩;rw[hW2];exact yAt W1 _ _
  clear hb2;go_wp2_with (at_builtin;(try rw[←hW2]);refine yA0 _ rfl _ _ rfl w.heap.size g cp m W1.heap.size 1 out ⟨.bad,i⟩ rfl rfl HJ.len HW2.1 HW2.2.2 hlm ?hb ?_);case hb=>omega
  exact yU
def SfR (base:Nat) (t:List UInt8) (v:Value) (w':World):Prop:=∃(c a:Int) (nv:Value),v=.agg #[.int .i64 c,.int .i64 a,nv]∧
 ((4000<t.length∧c=1∧a=0∧nv=.slice none 0 0)∨
  (t.length≤4000∧∃ks,LexR t 0 ks∧((∃(ns:List Nd) (go co:Nat),yAl (⟨ks,0,[],[],true⟩:Ms) (.ok ns)∧c=0∧a=0∧nv=.slice (some ⟨go,0,none⟩) ns.length co∧yAu w' base go co ns)∨(∃p:Nat,yAl (⟨ks,0,[],[],true⟩:Ms) (.error (c,p))∧a=(p:Int)∧1≤c∧nv=.slice none 0 0))))
def SfP (t:List UInt8) (w:World) (e:Ending) (w':World):Prop:=∃v,e=.returned v∧Below w.heap.size w w'∧SfR w.heap.size t v w'
variable {b off cap:Nat}
theorem yKg (hT:yAe w b off t) (hb:b<w.heap.size) (hn:n=t.length) (hl:n≤2^40) (hc:n≤cap) (hcm:cap≤maxLen):
  Calls Tryz.prog 6 #[.slice (some ⟨b,off,none⟩) n cap] w (SfP t w):=by
 obtain⟨W0,hW0⟩:=qE (w.alloc (Obj.cells #[.int .i64 0,.int .i64 0,.slice none 0 0] 27):World);have b0:Below w.heap.size w W0:=by rw[hW0];exact qB
 have HB0:Hid (yA W0 w.heap.size 27 3 w.heap.size [.int .i64 0,.int .i64 0,.slice none 0 0]∧Below w.heap.size w W0∧W0.heap.size=w.heap.size+1):=⟨by rw[hW0];exact yAb w _ (Nat.le_refl _) rfl,b0,by rw[hW0];simp⟩;have HT:Hid (yAe W0 b off t∧b<W0.heap.size∧n=t.length∧n≤cap∧cap≤maxLen):=⟨hT.below b0 hb,by have:=b0.size;omega,hn,hc,hcm⟩;clear hT hn hc hcm b0;by_cases h4:4000<n
 ·have z4:(4000:Int)<(n:Int):=by omega
  obtain⟨W9,hW9⟩:∃V:World,V=((W0.setCell ⟨w.heap.size,0,none⟩ (.int .i64 1)).setCell ⟨w.heap.size,1,none⟩ (.int .i64 0)).setCell ⟨w.heap.size,2,none⟩ (.slice none 0 0):=⟨_,rfl⟩;have HR:Hid (yA W9 w.heap.size 27 3 w.heap.size [.int .i64 1,.int .i64 0,.slice none 0 0]∧Below w.heap.size w W9):=by rw[hW9];exact⟨((HB0.1.set 0 _).set 1 _).set 2 _,yAd (yAd (yAd HB0.2.1 (Nat.le_refl _) 0 _) (Nat.le_refl _) 1 _) (Nat.le_refl _) 2 _⟩
  obtain⟨p0,p1,p2⟩:=HR.1.c3;obtain⟨a0,a1,a2⟩:=HB0.1.c3;obtain⟨f0,f1,f2⟩:=HB0.1.f3;go_enter Tryz.func6,Tryz.ntmps6;go_upto_region 2 with fail;rw[←hW0];clear hW0;go_wp2_with fail;rw[←hW9];exact bodyPost_ret (v:=.agg #[.int .i64 1,.int .i64 0,.slice none 0 0]) (by simp[results,Tryz.results6,go_sem,p0,p1,p2]) rfl ⟨_,rfl,HR.2,1,0,_,rfl,.inl ⟨by have:=HT.2.2.1;omega,rfl,rfl,rfl⟩⟩
 ·have z4:¬(4000:Int)<(n:Int):=by omega
  have HLx:Hid (Calls Tryz.prog 22 #[.slice (some ⟨b,off,none⟩) n cap] W0 (LxP t W0)):=by have h9:=yQn b off cap t W0 HT.1 HT.2.1 (by have:=HT.2.2.1;omega) (by have:=HT.2.2;omega) HT.2.2.2.2;rw[←HT.2.2.1]at h9;exact h9
  go_enter Tryz.func6,Tryz.ntmps6;go_upto_region 3 with fail;rw[←hW0];clear hW0;go_wp2_with fail;refine HLx.mono ?_;clear HLx;rintro e w1 ⟨g,cp,ks,rfl,hlex,hO,hb1⟩;obtain⟨N,hN⟩:=qE ks.length;rw[←hN];have hks:N≤100000:=by have h1:=hlex.len.1;have h2:=HT.2.2.1;omega
  have HPr:Hid (Calls Tryz.prog 21 #[parV g N cp 0 0 0 0] w1 (ParP w1 g cp N (⟨ks,0,[],[],true⟩:Ms))):=yM4 hO hN hks hlex.toks;have H1:Hid (LexR t 0 ks∧yA w1 w.heap.size 27 3 w.heap.size [.int .i64 0,.int .i64 0,.slice none 0 0]∧Below w.heap.size w w1∧w.heap.size<w1.heap.size):=⟨hlex,HB0.1.below hb1,HB0.2.1.trans (hb1.mono HB0.2.1.size),by have:=hb1.size;have:=HB0.2.2;omega⟩;clear hlex hO hb1 hN hks;go_wp2_with fail;refine HPr.mono ?_;clear HPr;rintro e w2 ⟨hb2,⟨pi,pn,pa,ns,go,co,hM,hO,rfl⟩|⟨pi,pn,c,a,oa,on,oc,hM,hc1,rfl⟩⟩
  ·obtain⟨nl,hnl⟩:=qE ns.length;rw[←hnl];obtain⟨W3,hW3⟩:∃V:World,V=w2.alloc (Obj.cells #[.slice (some ⟨g,0,none⟩) N cp,.int .i64 (pi:Int),.int .i64 (pn:Int),.int .i64 0,.int .i64 (pa:Int)] 41):=⟨_,rfl⟩;obtain⟨pb,hpb⟩:=qE w2.heap.size;have hb3:Below w2.heap.size w2 W3:=by rw[hW3];exact qB
   have H3:Hid (yA W3 w.heap.size 27 3 w.heap.size [.int .i64 0,.int .i64 0,.slice none 0 0]∧Below w.heap.size w W3∧yAu W3 w1.heap.size go co ns∧yA W3 w.heap.size 41 5 pb [.slice (some ⟨g,0,none⟩) N cp,.int .i64 (pi:Int),.int .i64 (pn:Int),.int .i64 0,.int .i64 (pa:Int)]):=
    ⟨(H1.2.1.below hb2).below hb3,(H1.2.2.1.trans (hb2.mono H1.2.2.1.size)).trans (hb3.mono (by have:=hb2.size;have:=H1.2.2.2;omega)),hO.below hb3 hO.lt.2,by rw[hpb,hW3];exact yAb w2 _ (by have:=hb2.size;have:=H1.2.2.2;omega) rfl⟩
   obtain⟨W9,hW9⟩:∃V:World,V=((W3.setCell ⟨w.heap.size,0,none⟩ (.int .i64 0)).setCell ⟨w.heap.size,1,none⟩ (.int .i64 0)).setCell ⟨w.heap.size,2,none⟩ (.slice (some ⟨go,0,none⟩) nl co):=⟨_,rfl⟩;have HR:Hid (yA W9 w.heap.size 27 3 w.heap.size [.int .i64 0,.int .i64 0,.slice (some ⟨go,0,none⟩) nl co]∧SfP t w (.returned (.agg #[.int .i64 0,.int .i64 0,.slice (some ⟨go,0,none⟩) nl co])) W9):=by have hs:=H1.2.2.2;refine⟨by rw[hW9];exact((H3.1.set 0 _).set 1 _).set 2 _,_,rfl,by rw[hW9];exact yAd (yAd (yAd H3.2.1 (Nat.le_refl _) 0 _) (Nat.le_refl _) 1 _) (Nat.le_refl _) 2 _,0,0,_,rfl,.inr ⟨by have:=HT.2.2.1;omega,ks,H1.1,.inl ⟨ns,go,co,hM,rfl,rfl,by rw[hnl],?_⟩⟩⟩;rw[hW9];exact yAu.mono (ownsRow_setCell_below (ownsRow_setCell_below (ownsRow_setCell_below H3.2.2.1 hs _) hs _) hs _) (by omega)
   obtain⟨p0,p1,p2⟩:=HR.1.c3;obtain⟨a0,a1,a2⟩:=H3.1.c3;obtain⟨f0,f1,f2⟩:=H3.1.f3;have x3:=H3.2.2.2.cell (j:=3) rfl;clear hM hO hb2 hb3 hnl;go_upto_region 4 with fail;rw[←hW3,←hpb];clear hW3 hpb;go_wp2_with fail;rw[←hW9];exact bodyPost_ret (v:=.agg #[.int .i64 0,.int .i64 0,.slice (some ⟨go,0,none⟩) nl co]) (by simp[results,Tryz.results6,go_sem,p0,p1,p2]) rfl HR.2
  ·obtain⟨W3,hW3⟩:∃V:World,V=w2.alloc (Obj.cells #[.slice (some ⟨g,0,none⟩) N cp,.int .i64 (pi:Int),.int .i64 (pn:Int),.int .i64 c,.int .i64 (a:Int)] 41):=⟨_,rfl⟩;obtain⟨pb,hpb⟩:=qE w2.heap.size;have hb3:Below w2.heap.size w2 W3:=by rw[hW3];exact qB
   have zc:(c==0)=false:=by rw[beq_eq_false_iff_ne];omega
   have H3:Hid (yA W3 w.heap.size 27 3 w.heap.size [.int .i64 0,.int .i64 0,.slice none 0 0]∧Below w.heap.size w W3∧yA W3 w.heap.size 41 5 pb [.slice (some ⟨g,0,none⟩) N cp,.int .i64 (pi:Int),.int .i64 (pn:Int),.int .i64 c,.int .i64 (a:Int)]):=
    ⟨(H1.2.1.below hb2).below hb3,(H1.2.2.1.trans (hb2.mono H1.2.2.1.size)).trans (hb3.mono (by have:=hb2.size;have:=H1.2.2.2;omega)),by rw[hpb,hW3];exact yAb w2 _ (by have:=hb2.size;have:=H1.2.2.2;omega) rfl⟩
   obtain⟨W9,hW9⟩:∃V:World,V=((W3.setCell ⟨w.heap.size,0,none⟩ (.int .i64 c)).setCell ⟨w.heap.size,1,none⟩ (.int .i64 (a:Int))).setCell ⟨w.heap.size,2,none⟩ (.slice none 0 0):=⟨_,rfl⟩;have HR:Hid (yA W9 w.heap.size 27 3 w.heap.size [.int .i64 c,.int .i64 (a:Int),.slice none 0 0]∧SfP t w (.returned (.agg #[.int .i64 c,.int .i64 (a:Int),.slice none 0 0])) W9):=by exact⟨by rw[hW9];exact((H3.1.set 0 _).set 1 _).set 2 _,_,rfl,by rw[hW9];exact yAd (yAd (yAd H3.2.1 (Nat.le_refl _) 0 _) (Nat.le_refl _) 1 _) (Nat.le_refl _) 2 _,c,a,_,rfl,.inr ⟨by have:=HT.2.2.1;omega,ks,H1.1,.inr ⟨a,hM,rfl,hc1,rfl⟩⟩⟩
   obtain⟨p0,p1,p2⟩:=HR.1.c3;obtain⟨a0,a1,a2⟩:=H3.1.c3;obtain⟨f0,f1,f2⟩:=H3.1.f3;have x3:=H3.2.2.cell (j:=3) rfl;have x4:=H3.2.2.cell (j:=4) rfl;clear hM hc1 hb2 hb3;go_upto_region 4 with fail;rw[←hW3,←hpb];clear hW3 hpb;go_wp2_with fail;rw[←hW9];exact bodyPost_ret (v:=.agg #[.int .i64 c,.int .i64 (a:Int),.slice none 0 0]) (by simp[results,Tryz.results6,go_sem,p0,p1,p2]) rfl HR.2
theorem yXm (s:Ps):yCe s (yB 8 true s.ks)=argP 8 s:=by rw[yJ5];rfl
variable {d p:Nat} {s:Ps} {k:Tk} {nv:Value}
theorem yWe (hS:FpS base b off n cap t w) (h:Fp base g b off n cap t d s k ks p nv w):Calls Tryz.prog 117 #[.pointer (some ⟨g,0,none⟩),.int .i64 8] w (BehP base g b off n cap t d (fun r=>r=argP 8 s) nv w):=by
 obtain⟨W0,hW0⟩:=qE (w.alloc (Obj.cells #[.int .i64 0,.string ⟨#[]⟩,.bool false,.string ⟨#[]⟩,.int .u64 0,.int .u64 0,.int .i64 0] 65):World);have b3:Below w.heap.size w W0:=by rw[hW0];exact qB
 have b1:yA W0 w.heap.size 65 7 w.heap.size [.int .i64 0,.string ⟨#[]⟩,.bool false,.string ⟨#[]⟩,.int .u64 0,.int .u64 0,.int .i64 0]:=by rw[hW0];exact yAb w _ (Nat.le_refl _) rfl
 have hbs:Below base w W0:=b3.mono hS.sz;have hnl:=h.nlt;have HW0:Hid (yA W0 w.heap.size 65 7 w.heap.size [.int .i64 0,.string ⟨#[]⟩,.bool false,.string ⟨#[]⟩,.int .u64 0,.int .u64 0,.int .i64 0]∧Fp base g b off n cap t d s k ks p nv W0∧FpS base b off n cap t W0∧Chg (fun q=>q=g∨nv.ownBlock=some q) w W0∧(∀q,nv.ownBlock=some q→q<w.heap.size)∧s.ks=k::ks):=⟨b1,h.below b3,hS.up hbs,Chg.of_below b3,fun q hq=>(hnl q hq).2,h.eq⟩;have hgl:=h.fs.lt;have HEn:Hid (Calls Tryz.prog 129 #[.pointer (some ⟨g,0,none⟩),.int .i64 8,.int .u8 34] W0 (BehP base g b off n cap t d (fun r=>r=yCe s (yB 8 true s.ks)) nv W0)):=yIb HW0.2.2.1 HW0.2.1 true 8 34 rfl;have hsz0:w.heap.size<W0.heap.size:=by rw[hW0];simp
 clear h hS b1 b3 hbs hnl;go_enter Tryz.func117,Tryz.ntmps117;go_upto_region 2 with fail;rw[←hW0];clear hW0;go_wp2_with fail;refine HEn.mono ?_;clear HEn;rintro e w3 ⟨Hc3,(⟨s1,nd,hs1,rfl,k2,ks2,p2,nv3,hF3,hn3⟩|⟨c,a,hs1,rfl⟩)⟩;case inr=>
  have HD:Hid (BehP base g b off n cap t d (fun r=>r=argP 8 s) nv w (Pf c (a:Int)) w3):=⟨Chg.comp HW0.2.2.2.1 Hc3.out (fun q _ z=>z),.inr ⟨c,a,hs1.trans (yXm s),rfl⟩⟩;clear hs1;exact⟨rfl,HD.out⟩
 have hBx:=HW0.1.chg Hc3.out (fun z=>by
  rcases z with z|z
  ·omega
  ·have:=HW0.2.2.2.2.1 _ z;omega)
 have HF3:Hid (Fp base g b off n cap t d s1 k2 ks2 p2 nv3 w3∧argP 8 s=.ok (s1,nd)∧Chg (fun q=>q=g∨nv.ownBlock=some q) w w3∧(∀q,nv3.ownBlock=some q→(nv.ownBlock=some q∨w.heap.size≤q)∧¬q=w.heap.size)):=⟨hF3,((yXm s).symm.trans hs1.symm),Chg.comp HW0.2.2.2.1 Hc3.out (fun q _ z=>z),fun q hq=>by
  rcases hn3 q hq with y|y
  ·have:=HW0.2.2.2.2.1 q y
   exact⟨.inl y,by omega⟩
  ·exact⟨.inr (by omega),by omega⟩⟩
 clear hs1 hF3 hn3;obtain⟨nk,ns,nh,nt,nl,nu,nn⟩:=nd;have hvv:(⟨nk,ns,nh,nt,nl,nu,nn⟩:Nd).v=.agg #[.int .i64 nk,.string ns,.bool nh,.string nt,.int .u64 nl,.int .u64 nu,.int .i64 nn]:=rfl;rw[hvv];obtain⟨l0,l1,l2,l3,l4,l5,l6⟩:=hBx.c7;obtain⟨f0,f1,f2,f3,f4,f5,f6⟩:=hBx.f7;obtain⟨W9,hW9⟩:∃V:World,V=setN w3 w.heap.size ((⟨nk,ns,nh,nt,nl,nu,nn⟩:Nd)):=⟨_,rfl⟩;have hB9:=hBx.setN ((⟨nk,ns,nh,nt,nl,nu,nn⟩:Nd));rw[←hW9]at hB9;have hc9:Chg (fun q=>q=w.heap.size) w3 W9:=by rw[hW9];exact yB2 _ _ _
 have HR:Hid (BehP base g b off n cap t d (fun r=>r=argP 8 s) nv w (.returned ((⟨nk,ns,nh,nt,nl,nu,nn⟩:Nd)).v) W9):=BehP.box (s1:=s1) HF3.2.1.symm HF3.1 HF3.2.2.1 (fun q hq=>(HF3.2.2.2 q hq).1) hc9 (by omega) (fun q hq=>(HF3.2.2.2 q hq).2);exact yX1
theorem yXl (s:Ps):yCe s (yB 9 true s.ks)=argP 9 s:=by rw[yJ5];rfl
theorem yWd (hS:FpS base b off n cap t w) (h:Fp base g b off n cap t d s k ks p nv w):Calls Tryz.prog 117 #[.pointer (some ⟨g,0,none⟩),.int .i64 9] w (BehP base g b off n cap t d (fun r=>r=argP 9 s) nv w):=by
 obtain⟨W0,hW0⟩:=qE (w.alloc (Obj.cells #[.int .i64 0,.string ⟨#[]⟩,.bool false,.string ⟨#[]⟩,.int .u64 0,.int .u64 0,.int .i64 0] 65):World);have b3:Below w.heap.size w W0:=by rw[hW0];exact qB
 have b1:yA W0 w.heap.size 65 7 w.heap.size [.int .i64 0,.string ⟨#[]⟩,.bool false,.string ⟨#[]⟩,.int .u64 0,.int .u64 0,.int .i64 0]:=by rw[hW0];exact yAb w _ (Nat.le_refl _) rfl
 have hbs:Below base w W0:=b3.mono hS.sz;have hnl:=h.nlt;have HW0:Hid (yA W0 w.heap.size 65 7 w.heap.size [.int .i64 0,.string ⟨#[]⟩,.bool false,.string ⟨#[]⟩,.int .u64 0,.int .u64 0,.int .i64 0]∧Fp base g b off n cap t d s k ks p nv W0∧FpS base b off n cap t W0∧Chg (fun q=>q=g∨nv.ownBlock=some q) w W0∧(∀q,nv.ownBlock=some q→q<w.heap.size)∧s.ks=k::ks):=⟨b1,h.below b3,hS.up hbs,Chg.of_below b3,fun q hq=>(hnl q hq).2,h.eq⟩;have hgl:=h.fs.lt;have HEn:Hid (Calls Tryz.prog 129 #[.pointer (some ⟨g,0,none⟩),.int .i64 9,.int .u8 34] W0 (BehP base g b off n cap t d (fun r=>r=yCe s (yB 9 true s.ks)) nv W0)):=yIb HW0.2.2.1 HW0.2.1 true 9 34 rfl;have hsz0:w.heap.size<W0.heap.size:=by rw[hW0];simp
 clear h hS b1 b3 hbs hnl;go_enter Tryz.func117,Tryz.ntmps117;go_upto_region 2 with fail;rw[←hW0];clear hW0;go_wp2_with fail;refine HEn.mono ?_;clear HEn;rintro e w3 ⟨Hc3,(⟨s1,nd,hs1,rfl,k2,ks2,p2,nv3,hF3,hn3⟩|⟨c,a,hs1,rfl⟩)⟩;case inr=>
  have HD:Hid (BehP base g b off n cap t d (fun r=>r=argP 9 s) nv w (Pf c (a:Int)) w3):=⟨Chg.comp HW0.2.2.2.1 Hc3.out (fun q _ z=>z),.inr ⟨c,a,hs1.trans (yXl s),rfl⟩⟩;clear hs1;exact⟨rfl,HD.out⟩
 have hBx:=HW0.1.chg Hc3.out (fun z=>by
  rcases z with z|z
  ·omega
  ·have:=HW0.2.2.2.2.1 _ z;omega)
 have HF3:Hid (Fp base g b off n cap t d s1 k2 ks2 p2 nv3 w3∧argP 9 s=.ok (s1,nd)∧Chg (fun q=>q=g∨nv.ownBlock=some q) w w3∧(∀q,nv3.ownBlock=some q→(nv.ownBlock=some q∨w.heap.size≤q)∧¬q=w.heap.size)):=⟨hF3,((yXl s).symm.trans hs1.symm),Chg.comp HW0.2.2.2.1 Hc3.out (fun q _ z=>z),fun q hq=>by
  rcases hn3 q hq with y|y
  ·have:=HW0.2.2.2.2.1 q y
   exact⟨.inl y,by omega⟩
  ·exact⟨.inr (by omega),by omega⟩⟩
 clear hs1 hF3 hn3;obtain⟨nk,ns,nh,nt,nl,nu,nn⟩:=nd;have hvv:(⟨nk,ns,nh,nt,nl,nu,nn⟩:Nd).v=.agg #[.int .i64 nk,.string ns,.bool nh,.string nt,.int .u64 nl,.int .u64 nu,.int .i64 nn]:=rfl;rw[hvv];obtain⟨l0,l1,l2,l3,l4,l5,l6⟩:=hBx.c7;obtain⟨f0,f1,f2,f3,f4,f5,f6⟩:=hBx.f7;obtain⟨W9,hW9⟩:∃V:World,V=setN w3 w.heap.size ((⟨nk,ns,nh,nt,nl,nu,nn⟩:Nd)):=⟨_,rfl⟩;have hB9:=hBx.setN ((⟨nk,ns,nh,nt,nl,nu,nn⟩:Nd));rw[←hW9]at hB9;have hc9:Chg (fun q=>q=w.heap.size) w3 W9:=by rw[hW9];exact yB2 _ _ _
 have HR:Hid (BehP base g b off n cap t d (fun r=>r=argP 9 s) nv w (.returned ((⟨nk,ns,nh,nt,nl,nu,nn⟩:Nd)).v) W9):=BehP.box (s1:=s1) HF3.2.1.symm HF3.1 HF3.2.2.1 (fun q hq=>(HF3.2.2.2 q hq).1) hc9 (by omega) (fun q hq=>(HF3.2.2.2 q hq).2);exact yX1
theorem yTy (s:Ps):yCe s (yB 10 false s.ks)=argP 10 s:=by rw[yJ5];rfl
theorem yTs (hS:FpS base b off n cap t w) (h:Fp base g b off n cap t d s k ks p nv w):Calls Tryz.prog 117 #[.pointer (some ⟨g,0,none⟩),.int .i64 10] w (BehP base g b off n cap t d (fun r=>r=argP 10 s) nv w):=by
 obtain⟨W0,hW0⟩:=qE (w.alloc (Obj.cells #[.int .i64 0,.string ⟨#[]⟩,.bool false,.string ⟨#[]⟩,.int .u64 0,.int .u64 0,.int .i64 0] 65):World);have b3:Below w.heap.size w W0:=by rw[hW0];exact qB
 have b1:yA W0 w.heap.size 65 7 w.heap.size [.int .i64 0,.string ⟨#[]⟩,.bool false,.string ⟨#[]⟩,.int .u64 0,.int .u64 0,.int .i64 0]:=by rw[hW0];exact yAb w _ (Nat.le_refl _) rfl
 have hbs:Below base w W0:=b3.mono hS.sz;have hnl:=h.nlt;have HW0:Hid (yA W0 w.heap.size 65 7 w.heap.size [.int .i64 0,.string ⟨#[]⟩,.bool false,.string ⟨#[]⟩,.int .u64 0,.int .u64 0,.int .i64 0]∧Fp base g b off n cap t d s k ks p nv W0∧FpS base b off n cap t W0∧Chg (fun q=>q=g∨nv.ownBlock=some q) w W0∧(∀q,nv.ownBlock=some q→q<w.heap.size)∧s.ks=k::ks):=⟨b1,h.below b3,hS.up hbs,Chg.of_below b3,fun q hq=>(hnl q hq).2,h.eq⟩;have hgl:=h.fs.lt;have HEn:Hid (Calls Tryz.prog 129 #[.pointer (some ⟨g,0,none⟩),.int .i64 10,.int .u8 48] W0 (BehP base g b off n cap t d (fun r=>r=yCe s (yB 10 false s.ks)) nv W0)):=yIb HW0.2.2.1 HW0.2.1 false 10 48 rfl;have hsz0:w.heap.size<W0.heap.size:=by rw[hW0];simp
 clear h hS b1 b3 hbs hnl;go_enter Tryz.func117,Tryz.ntmps117;go_upto_region 2 with fail;rw[←hW0];clear hW0;go_wp2_with fail;refine HEn.mono ?_;clear HEn;rintro e w3 ⟨Hc3,(⟨s1,nd,hs1,rfl,k2,ks2,p2,nv3,hF3,hn3⟩|⟨c,a,hs1,rfl⟩)⟩;case inr=>
  have HD:Hid (BehP base g b off n cap t d (fun r=>r=argP 10 s) nv w (Pf c (a:Int)) w3):=⟨Chg.comp HW0.2.2.2.1 Hc3.out (fun q _ z=>z),.inr ⟨c,a,hs1.trans (yTy s),rfl⟩⟩;clear hs1;exact⟨rfl,HD.out⟩
 have hBx:=HW0.1.chg Hc3.out (fun z=>by
  rcases z with z|z
  ·omega
  ·have:=HW0.2.2.2.2.1 _ z;omega)
 have HF3:Hid (Fp base g b off n cap t d s1 k2 ks2 p2 nv3 w3∧argP 10 s=.ok (s1,nd)∧Chg (fun q=>q=g∨nv.ownBlock=some q) w w3∧(∀q,nv3.ownBlock=some q→(nv.ownBlock=some q∨w.heap.size≤q)∧¬q=w.heap.size)):=⟨hF3,((yTy s).symm.trans hs1.symm),Chg.comp HW0.2.2.2.1 Hc3.out (fun q _ z=>z),fun q hq=>by
  rcases hn3 q hq with y|y
  ·have:=HW0.2.2.2.2.1 q y
   exact⟨.inl y,by omega⟩
  ·exact⟨.inr (by omega),by omega⟩⟩
 clear hs1 hF3 hn3;obtain⟨nk,ns,nh,nt,nl,nu,nn⟩:=nd;have hvv:(⟨nk,ns,nh,nt,nl,nu,nn⟩:Nd).v=.agg #[.int .i64 nk,.string ns,.bool nh,.string nt,.int .u64 nl,.int .u64 nu,.int .i64 nn]:=rfl;rw[hvv];obtain⟨l0,l1,l2,l3,l4,l5,l6⟩:=hBx.c7;obtain⟨f0,f1,f2,f3,f4,f5,f6⟩:=hBx.f7;obtain⟨W9,hW9⟩:∃V:World,V=setN w3 w.heap.size ((⟨nk,ns,nh,nt,nl,nu,nn⟩:Nd)):=⟨_,rfl⟩;have hB9:=hBx.setN ((⟨nk,ns,nh,nt,nl,nu,nn⟩:Nd));rw[←hW9]at hB9;have hc9:Chg (fun q=>q=w.heap.size) w3 W9:=by rw[hW9];exact yB2 _ _ _
 have HR:Hid (BehP base g b off n cap t d (fun r=>r=argP 10 s) nv w (.returned ((⟨nk,ns,nh,nt,nl,nu,nn⟩:Nd)).v) W9):=BehP.box (s1:=s1) HF3.2.1.symm HF3.1 HF3.2.2.1 (fun q hq=>(HF3.2.2.2 q hq).1) hc9 (by omega) (fun q hq=>(HF3.2.2.2 q hq).2);exact yX1
def BehR (F:Ps→PR Ps→Prop) (d:Nat) (kd:Int) (s:Ps) (r:PR (Ps×Nd)):Prop:=if kd=16 then((∃s1,yDc F d s (.ok s1)∧r=.ok (s1,yAc 16))∨(∃e,yDc F d s (.error e)∧r=.error e))else r=argP kd s
theorem BehP.mono {A A2:PR (Ps×Nd)→Prop} {e:Ending} (h:BehP base g b off n cap t d A nv w e w') (hA:∀r,A r→A2 r):BehP base g b off n cap t d A2 nv w e w':=by
 obtain⟨h1,⟨s1,nd,h2,h3⟩|⟨c,a,h2,h3⟩⟩:=h
 ·exact⟨h1,.inl ⟨s1,nd,hA _ h2,h3⟩⟩
 ·exact⟨h1,.inr ⟨c,a,hA _ h2,h3⟩⟩
theorem yQ2 (hS:FpS base b off n cap t w) (h:Fp base g b off n cap t d s k ks p nv w) {F:Ps→PR Ps→Prop} (HF:0<d→OprC base g b off n cap t (d-1) 26 F) {kd:Int} (hkd:(TkK.word kd).good):Calls Tryz.prog 117 #[.pointer (some ⟨g,0,none⟩),.int .i64 kd] w (BehP base g b off n cap t d (BehR F d kd s) nv w):=by
 have h1:kd=16∨kd=1∨kd=2∨kd=3∨kd=4∨kd=5∨kd=6∨kd=7∨kd=8∨kd=9∨kd=10∨kd=11∨kd=12∨kd=13:=by unfold TkK.good at hkd;omega
 rcases h1 with rfl|rfl|rfl|rfl|rfl|rfl|rfl|rfl|rfl|rfl|rfl|rfl|rfl|rfl
 ·exact(yTo hS h HF).mono (fun e w' q=>q.mono (fun r z=>by unfold BehR;rw[if_pos rfl];exact z))
 ·exact(yWl rfl hS h).mono (fun e w' q=>q.mono (fun r z=>by unfold BehR;rw[if_neg (by decide)];exact z))
 ·exact(yWk rfl hS h).mono (fun e w' q=>q.mono (fun r z=>by unfold BehR;rw[if_neg (by decide)];exact z))
 ·exact(yWj rfl hS h).mono (fun e w' q=>q.mono (fun r z=>by unfold BehR;rw[if_neg (by decide)];exact z))
 ·exact(yWi rfl hS h).mono (fun e w' q=>q.mono (fun r z=>by unfold BehR;rw[if_neg (by decide)];exact z))
 ·exact(yWh rfl hS h).mono (fun e w' q=>q.mono (fun r z=>by unfold BehR;rw[if_neg (by decide)];exact z))
 ·exact(yWg rfl hS h).mono (fun e w' q=>q.mono (fun r z=>by unfold BehR;rw[if_neg (by decide)];exact z))
 ·exact(yWf rfl hS h).mono (fun e w' q=>q.mono (fun r z=>by unfold BehR;rw[if_neg (by decide)];exact z))
 ·exact(yWe hS h).mono (fun e w' q=>q.mono (fun r z=>by unfold BehR;rw[if_neg (by decide)];exact z))
 ·exact(yWd hS h).mono (fun e w' q=>q.mono (fun r z=>by unfold BehR;rw[if_neg (by decide)];exact z))
 ·exact(yTs hS h).mono (fun e w' q=>q.mono (fun r z=>by unfold BehR;rw[if_neg (by decide)];exact z))
 ·exact(yTr rfl hS h).mono (fun e w' q=>q.mono (fun r z=>by unfold BehR;rw[if_neg (by decide)];exact z))
 ·exact(yTq rfl hS h).mono (fun e w' q=>q.mono (fun r z=>by unfold BehR;rw[if_neg (by decide)];exact z))
 ·exact(yTp rfl hS h).mono (fun e w' q=>q.mono (fun r z=>by unfold BehR;rw[if_neg (by decide)];exact z))
end Go.Proofs.YtgnpcenpcmdlfaaGreatDoor
