import Derived.Test.YtgnpcenpcmdlfaaGreatDoorTkAB
import Derived.Test.YtgnpcenpcmdlfaaGreatDoorTkAA
import Derived.Test.YtgnpcenpcmdlfaaGreatDoorTkAM
import Derived.Test.YtgnpcenpcmdlfaaGreatDoorTkAK
import Derived.Test.YtgnpcenpcmdlfaaGreatDoorTkAC
import Derived.Deep.DeepCutAuto
import Derived.Deep.RegionWith
import Derived.Test.YtgnpcenpcmdlfaaGreatDoorTkAD
import Derived.Test.YtgnpcenpcmdlfaaGreatDoorTkAE
import Derived.OwnWalk
import Derived.Test.YtgnpcenpcmdlfaaGreatDoorTkAF
import Derived.Test.YtgnpcenpcmdlfaaGreatDoorTkAI
namespace Go.Proofs.YtgnpcenpcmdlfaaGreatDoor
open Go.ChangeShapes Go.WideShapes Go.ChangeAt Go.RowKit Go.Deep
set_option linter.unusedVariables false
set_option linter.unusedSimpArgs false
set_option maxRecDepth 100000
set_option maxHeartbeats 32000000
variable {F:Ps→PR Ps→Prop} {d:Nat} {s s1:Ps} {kd:Int}
theorem yMs {s2:Ps} {nd:Nd} (hk:hdK s.ks=.word kd) (hm:Except.ok s1=yAy s) (hb:BehR F d kd s1 (.ok (s2,nd))):yDb F d s (.ok (s2.add nd)):=by
 unfold BehR at hb;by_cases hq:kd=16
 ·rw[if_pos hq]at hb;rcases hb with⟨s3,h3,h4⟩|⟨e,h3,h4⟩
  ·cases h4
   exact .inr (.inl ⟨by rw[hk,hq],.inr ⟨s1,hm,.inr ⟨s2,h3,rfl⟩⟩⟩)
  ·cases h4
 ·rw[if_neg hq]at hb;refine .inr (.inr (.inl ⟨kd,hk,hq,.inr ⟨s1,hm,?_⟩⟩));show _=argF kd s1;unfold argP at hb;unfold argF;cases hz:yDa kd s1.ks with
  |error e=>rw[hz]at hb;cases hb
  |ok p=>rw[hz]at hb;cases hb;rfl
variable {e:PE}
theorem yLj (hk:hdK s.ks=.word kd) (hm:Except.ok s1=yAy s) (hb:BehR F d kd s1 (.error e)):yDb F d s (.error e):=by
 unfold BehR at hb;by_cases hq:kd=16
 ·rw[if_pos hq]at hb;rcases hb with⟨s3,h3,h4⟩|⟨e,h3,h4⟩
  ·cases h4
  ·cases h4
   exact .inr (.inl ⟨by rw[hk,hq],.inr ⟨s1,hm,.inl ⟨_,h3,rfl⟩⟩⟩)
 ·rw[if_neg hq]at hb;refine .inr (.inr (.inl ⟨kd,hk,hq,.inr ⟨s1,hm,?_⟩⟩));show _=argF kd s1;unfold argP at hb;unfold argF;cases hz:yDa kd s1.ks with
  |error e=>rw[hz]at hb;cases hb;rfl
  |ok p=>rw[hz]at hb;cases hb
theorem yQg (hk:hdK s.ks=.word kd) (hm:Except.error e=yAy s):yDb F d s (.error e):=by
 by_cases hq:kd=16
 ·exact .inr (.inl ⟨by rw[hk,hq],.inl ⟨_,hm,rfl⟩⟩)
 ·exact .inr (.inr (.inl ⟨kd,hk,hq,.inl ⟨_,hm,rfl⟩⟩))
theorem yI5 {ops:Array Oper} {oo:Oper} {a:Act} {K:Act→World→Prop} {Q:Exit→Act→World→Prop} {E:Prop} (w:World) (hgd:oo.guard=none) (s x:Operand)
  (ho:oo.op=.call {callee:=.builtin .append,args:=#[s,x],argTypes:=#[23,23]})
  (base:Nat) (v:Value) (b off m cx:Nat) (fs:List Nd) (e:Nd) (hs:a.eval s=v) (hx:a.eval x=.slice (some ⟨b,off,none⟩) m cx) (hm:m=1) (hO:w.ownsRow base 65 7 v fs.length (yBn fs))
  (hc:yBj w b off [e]) (hlen:fs.length≤1000000) (hbase:base≤w.heap.size)
  (h:∀g' cp' w',w'.ownsRow base 65 7 (.slice (some ⟨g',0,none⟩) (fs.length+1) cp') (fs++ [e]).length (yBn (fs++ [e]))→w.grownBy w' v.ownBlock→(v.ownBlock=some g'∨g'=w.heap.size)→K (a.put oo.dst (.slice (some ⟨g',0,none⟩) (fs.length+1) cp')) w'):if Region.wanted oo (yielded ops a.tmps)=true then Oper.wp Tryz.prog oo a w K Q else E:=by
 have hw:Region.wanted oo (yielded ops a.tmps)=true:=by simp[Region.wanted,hgd]
 rw[if_pos hw];subst hm;obtain⟨i,hi,hz0,hz1,hz2⟩:=info_parts Tryz.infoNd;obtain⟨v',w',hr,hO',hgr,hnil,hat⟩:=run_append_own_at (P:=Tryz.prog) w base 23 oo.type 65 i _ 7 72 Tryz.underlying23 hi hz0 hz1 hz2 rfl (by decide) v fs.length (yBn fs) hO ⟨b,off,none⟩ 1 cx (yBn [e]) (yC8 [e]) (yJf hc) (yOa [e]) (by unfold maxLen;omega) (by omega) hbase;rcases hO'.2 with⟨h0,_⟩|⟨g',cap',cur,hv,_,_,hn,hcap,_,_⟩
 ·have:=(hnil.1 h0).2;simp at this
 ·subst hv;have hfin:=h g' cap' w' (by rw[List.length_append,yFa];exact hO') hgr (by
   rcases hat with z|z
   ·left;rw[←z];rfl
   ·right;simpa [Value.ownBlock]using z)
  unfold Oper.wp;simp[execOp,ho,resolve,invoke,builtin,hs,hx,hr,Result.andThen];exact hfin
variable {base off n cap:Nat}
theorem yR5 {g b:Nat} {t:List UInt8} (HF:0<d→OprC base g b off n cap t (d-1) 26 F) (hM:MonR F):OprC base g b off n cap t d 96 (yDb F d):=by
 intro w s k ks p nv hS h;have hdd:=h.dd;have H0:Hid (FpS base b off n cap t w∧Fp base g b off n cap t d s k ks p nv w∧s.ks=k::ks):=⟨hS,h,h.eq⟩;have HFl:Hid ((0<d→OprC base g b off n cap t (d-1) 26 F)∧MonR F):=⟨HF,hM⟩;have cK:=h.fs.cell (j:=2) rfl;have hkn:=h.kinds;have hsg:=yJo (b:=40) hkn (by decide);have hsg':(((ftB k.k).toNat:Int)==40)=k.k.isSign 40:=hsg;have hgl:=h.fs.lt;clear HF hM hS h hsg;cases hsn:k.k.isSign 40
 case true=>
  rw[hsn]at hsg';have HC0:Hid (Calls Tryz.prog 115 #[.pointer (some ⟨g,0,none⟩)] w (FpO base g b off n cap t (d-1) (fun r=>r=yAz d s) (.tuple #[]) nv w)):=yK9 H0.1 H0.2.1;have Hsn:Hid ((hdK s.ks).isSign 40=true):=by show _=_;rw[H0.2.2];exact hsn
  clear hsn hkn;go_enter Tryz.func96,Tryz.ntmps96;go_wp2_with fail;refine HC0.mono ?_;clear HC0;rintro e w1 ⟨Hc1,(⟨s1,hs1,rfl,k1,ks1,p1,nv1,hF1,hn1⟩|⟨c,a,hs1,rfl⟩)⟩;case inr=>
   have HD:Hid (FpO base g b off n cap t d (yDb F d s) (.tuple #[]) nv w (Pf c (a:Int)) w1):=⟨Hc1.out,.inr ⟨c,a,.inl ⟨Hsn.out,.inl ⟨_,hs1,rfl⟩⟩,rfl⟩⟩;clear hs1;exact⟨rfl,HD.out⟩
  have hd0:0<d:=by
   rcases Nat.eq_zero_or_pos d with q|q
   ·exfalso;have h9:Except.ok s1=yAz d s:=hs1;rw[q]at h9;unfold yAz at h9;split at h9<;>first|cases h9|(simp at h9)
   ·exact q
  have HQ1:Hid (Fp base g b off n cap t (d-1) s1 k1 ks1 p1 nv1 w1∧FpS base b off n cap t w1∧Chg (fun q=>q=g∨nv.ownBlock=some q) w w1∧(∀q,nv1.ownBlock=some q→nv.ownBlock=some q∨w.heap.size≤q)∧(∀r,(yBp F (fnR yB5)) s1 r→yDb F d s r)):=⟨hF1,H0.1.of H0.2.1 Hc1.out,Hc1.out,hn1,fun r hr=>.inl ⟨Hsn.out,.inr ⟨s1,hs1,hr⟩⟩⟩;have sz1:=HQ1.2.2.1.size;have HC1:Hid (Calls Tryz.prog 26 #[.pointer (some ⟨g,0,none⟩)] w1 (FpO base g b off n cap t (d-1) (F s1) (.tuple #[]) nv1 w1)):=HFl.1 hd0 w1 s1 k1 ks1 p1 nv1 HQ1.2.1 hF1;clear hs1 hF1 hn1;go_wp2_with fail;refine HC1.mono ?_;clear HC1;rintro e w2 ⟨Hc2,(⟨s2,hs2,rfl,k2,ks2,p2,nv2,hF2,hn2⟩|⟨c,a,hs2,rfl⟩)⟩;case inr=>
   have HD:Hid (FpO base g b off n cap t d (yDb F d s) (.tuple #[]) nv w (Pf c (a:Int)) w2):=⟨Chg.comp HQ1.2.2.1 Hc2.out (fun q hq z=>by
   rcases z with z|z
   ·exact .inl z
   ·rcases HQ1.2.2.2.1 q z with y|y
    ·exact .inr y
    ·omega),.inr ⟨c,a,HQ1.2.2.2.2 _ (.inl ⟨_,hs2,rfl⟩),rfl⟩⟩
   clear hs2;exact⟨rfl,HD.out⟩
  have HQ2:Hid (Fp base g b off n cap t (d-1) s2 k2 ks2 p2 nv2 w2∧FpS base b off n cap t w2∧Chg (fun q=>q=g∨nv.ownBlock=some q) w w2∧(∀q,nv2.ownBlock=some q→nv.ownBlock=some q∨w.heap.size≤q)∧(∀r,fnR yB5 s2 r→yDb F d s r)):=⟨hF2,HQ1.2.1.of HQ1.1 Hc2.out,(Chg.comp HQ1.2.2.1 Hc2.out (fun q hq z=>by
   rcases z with z|z
   ·exact .inl z
   ·rcases HQ1.2.2.2.1 q z with y|y
    ·exact .inr y
    ·omega)),(fun q hq=>by
   rcases hn2 q hq with y|y
   ·exact HQ1.2.2.2.1 q y
   ·right;omega),fun r hr=>HQ1.2.2.2.2 r (.inr ⟨s2,hs2,hr⟩)⟩
  have sz2:=HQ2.2.2.1.size;have HC2:Hid (Calls Tryz.prog 116 #[.pointer (some ⟨g,0,none⟩)] w2 (FpO base g b off n cap t d (fun r=>r=yB5 s2) (.tuple #[]) nv2 w2)):=by have h9:=yK4 HQ2.2.1 hF2 (by omega);rw[show d-1+1=d by omega]at h9;exact h9
  clear hs2 hF2 hn2;go_wp2_with fail;refine HC2.mono ?_;clear HC2;intro e w3 h3;have HR:Hid (FpO base g b off n cap t d (yDb F d s) (.tuple #[]) nv w e w3):=FpO.seq HQ2.2.2.1 HQ2.2.2.2.1 h3 (fun r hr=>HQ2.2.2.2.2 r hr);rcases h3 with⟨Hc3,(⟨s3,hs3,rfl,k3,ks3,p3,nv3,hF3,hn3⟩|⟨c,a,hs3,rfl⟩)⟩
  ·clear hs3 hF3 hn3;go_wp2_with fail;go_end0;exact HR.out
  ·clear hs3;exact⟨rfl,HR.out⟩
 rw[hsn]at hsg';by_cases hwd:∃kd,k.k=.word kd;case neg=>
  have zk:(((ftB k.k).toNat:Int)==97)=false:=by
   cases hq:k.k with
   |word v=>exact absurd ⟨v,hq⟩ hwd
   |sign c=>
    rw[hq]at hkn;rcases hkn with q|q
    ·rcases q with rfl|rfl|rfl|rfl|rfl|rfl<;>rfl
    ·cases q
   |num _=>rfl
   |str _=>rfl
   |fin=>rfl
   |bad=>rfl
  have HD:Hid (FpO base g b off n cap t d (yDb F d s) (.tuple #[]) nv w (Pf 3 (k.pos:Int)) w):=⟨Chg.refl _ _,.inr ⟨3,k.pos,.inr (.inr (.inr ⟨by rw[H0.2.2];exact hsn,fun kd q=>hwd ⟨kd,by rw[H0.2.2]at q;exact q⟩,by rw[H0.2.2];rfl⟩)),rfl⟩⟩;obtain⟨kb,hkb⟩:=qE (((ftB k.k).toNat:Int):Int);rw[←hkb]at zk cK hsg';clear hwd hkn hsn hkb;go_enter Tryz.func96,Tryz.ntmps96;go_wp2_with fail;refine(yEg H0.2.1 3).mono ?_;rintro e w2 ⟨rfl,hw2⟩;rw[hw2];clear hw2;exact⟨rfl,HD.out⟩
 obtain⟨kd,hkd⟩:=hwd;have hft:ftV k= [.int .u8 97,.int .i64 (k.pos:Int),.int .i64 kd,.int .u64 0,.string ⟨#[]⟩]:=by unfold ftV;rw[hkd];rfl
 have hgd:(TkK.word kd).good:=by
  rcases hkn with q|q
  ·rw[hkd]at q;exact q
  ·rw[hkd]at q;cases q
 have HK:Hid (hdK s.ks=.word kd∧(TkK.word kd).good∧k.k.isFin=false):=⟨by rw[H0.2.2];exact hkd,hgd,by rw[hkd];rfl⟩;rw[show ftB k.k=97 from by rw[hkd];rfl]at cK;have HMk:Hid (Calls Tryz.prog 95 #[.pointer (some ⟨g,0,none⟩)] w (FpO base g b off n cap t d (fun r=>r=yAy s) (.agg (ftV k).toArray) nv w)):=yEc H0.1 H0.2.1 HK.2.2;have HFt:Hid (ftV k= [.int .u8 97,.int .i64 (k.pos:Int),.int .i64 kd,.int .u64 0,.string ⟨#[]⟩]):=hft;clear hkd hgd hft hsn hkn hsg';go_enter Tryz.func96,Tryz.ntmps96;go_wp2_with fail;refine(yCo _ 3 w).mono ?_;rintro e w0 ⟨rfl,hw0⟩;rw[hw0];clear hw0;go_wp2_with fail;refine HMk.mono ?_;clear HMk;rintro e w1 ⟨Hc1,(⟨s1,hs1,rfl,k1,ks1,p1,nv1,hF1,hn1⟩|⟨c,a,hs1,rfl⟩)⟩;case inr=>
  have HD:Hid (FpO base g b off n cap t d (yDb F d s) (.tuple #[]) nv w (Pf c (a:Int)) w1):=⟨Hc1.out,.inr ⟨c,a,yQg HK.1 hs1,rfl⟩⟩;clear hs1;exact⟨rfl,HD.out⟩
 have HQ1:Hid (Fp base g b off n cap t d s1 k1 ks1 p1 nv1 w1∧FpS base b off n cap t w1∧Chg (fun q=>q=g∨nv.ownBlock=some q) w w1∧(∀q,nv1.ownBlock=some q→nv.ownBlock=some q∨w.heap.size≤q)∧Except.ok s1=yAy s):=⟨hF1,H0.1.of H0.2.1 Hc1.out,Hc1.out,hn1,hs1⟩;have sz1:=HQ1.2.2.1.size;have HBh:Hid (Calls Tryz.prog 117 #[.pointer (some ⟨g,0,none⟩),.int .i64 kd] w1 (BehP base g b off n cap t d (BehR F d kd s1) nv1 w1)):=yQ2 HQ1.2.1 hF1 HFl.1 HK.2.1;have hfe:(Instr.field 52 (.agg (ftV k).toArray) 2).run Tryz.prog w1=.ok (.int .i64 kd) w1:=by rw[HFt.out];kernel_rfl
 clear hs1 hF1 hn1;go_wp2_with fail;refine HBh.mono ?_;clear HBh hfe;rintro e w2 ⟨Hc2,(⟨s2,nd,hs2,rfl,k2,ks2,p2,nv2,hF2,hn2⟩|⟨c,a,hs2,rfl⟩)⟩;case inr=>
  have HD:Hid (FpO base g b off n cap t d (yDb F d s) (.tuple #[]) nv w (Pf c (a:Int)) w2):=⟨Chg.comp HQ1.2.2.1 Hc2.out (fun q hq z=>by
   rcases z with z|z
   ·exact .inl z
   ·rcases HQ1.2.2.2.1 q z with y|y
    ·exact .inr y
    ·omega),.inr ⟨c,a,yLj HK.1 HQ1.2.2.2.2 hs2,rfl⟩⟩
  clear hs2;exact⟨rfl,HD.out⟩
 obtain⟨a2,m2,c2,rfl⟩:=hF2.form;have HPr:Hid (yDb F d s (.ok (s2.add nd))):=yMs HK.1 HQ1.2.2.2.2 hs2;have HQ2:Hid (Fp base g b off n cap t d s2 k2 ks2 p2 (.slice a2 m2 c2) w2∧FpS base b off n cap t w2∧Chg (fun q=>q=g∨nv.ownBlock=some q) w w2∧(∀q,(Value.slice a2 m2 c2).ownBlock=some q→nv.ownBlock=some q∨w.heap.size≤q)):=⟨hF2,HQ1.2.1.of HQ1.1 Hc2.out,(Chg.comp HQ1.2.2.1 Hc2.out (fun q hq z=>by
   rcases z with z|z
   ·exact .inl z
   ·rcases HQ1.2.2.2.1 q z with y|y
    ·exact .inr y
    ·omega)),(fun q hq=>by
   rcases hn2 q hq with y|y
   ·exact HQ1.2.2.2.1 q y
   ·right;omega)⟩
 have sz2:=HQ2.2.2.1.size;clear hs2 hF2 hn2;obtain⟨nk,ns,nh,nt,nl,nu,nn⟩:=nd;have hvv:(⟨nk,ns,nh,nt,nl,nu,nn⟩:Nd).v=.agg #[.int .i64 nk,.string ns,.bool nh,.string nt,.int .u64 nl,.int .u64 nu,.int .i64 nn]:=rfl;rw[hvv];clear hvv;obtain⟨W3,hW3⟩:∃V:World,V=w2.alloc (Obj.cells #[.int .i64 nk,.string ns,.bool nh,.string nt,.int .u64 nl,.int .u64 nu,.int .i64 nn] 65):=⟨_,rfl⟩;have hb3:Below w2.heap.size w2 W3:=by rw[hW3];exact qB
 obtain⟨P,hP⟩:=qE w2.heap.size;have HB3:Hid (yA W3 P 65 7 P [.int .i64 nk,.string ns,.bool nh,.string nt,.int .u64 nl,.int .u64 nu,.int .i64 nn]∧Below w2.heap.size w2 W3∧P=w2.heap.size):=by rw[hP];exact⟨by rw[hW3];exact yAb w2 _ (Nat.le_refl _) rfl,hb3,rfl⟩
 have HF3:Hid (Fp base g b off n cap t d s2 k2 ks2 p2 (.slice a2 m2 c2) W3∧FpS base b off n cap t W3):=⟨HQ2.1.below hb3,HQ2.2.1.up (hb3.mono HQ2.2.1.sz)⟩;go_upto_region 6 with fail;rw[←hW3,←hP];clear hW3 hP hb3 cK;have hS0:SW (fun w':World=>w'.cell? ⟨g,9,none⟩=some (.slice a2 m2 c2)∧w'.cell? ⟨P,0,none⟩=some (.int .i64 nk)∧w'.cell? ⟨P,1,none⟩=some (.string ns)∧w'.cell? ⟨P,2,none⟩=some (.bool nh)∧w'.cell? ⟨P,3,none⟩=some (.string nt)∧w'.cell? ⟨P,4,none⟩=some (.int .u64 nl)∧w'.cell? ⟨P,5,none⟩=some (.int .u64 nu)∧w'.cell? ⟨P,6,none⟩=some (.int .i64 nn)) W3.drew:=⟨HF3.1.fs.cell (j:=9) rfl,HB3.1.cell (j:=0) rfl,HB3.1.cell (j:=1) rfl,HB3.1.cell (j:=2) rfl,HB3.1.cell (j:=3) rfl,HB3.1.cell (j:=4) rfl,HB3.1.cell (j:=5) rfl,HB3.1.cell (j:=6) rfl⟩;refine wpR 10 hS0 ?_;refine j7a 0 hS0 ?_;iterate 5 refine j7b hS0 ?_
 obtain⟨V1,hV1⟩:=qE ((W3.alloc (Obj.cells #[.int .i64 nk,.string ns,.bool nh,.string nt,.int .u64 nl,.int .u64 nu,.int .i64 nn] 65)).drew:World);obtain⟨G1,hG1⟩:=qE W3.heap.size;have hbV:Below W3.heap.size W3 V1:=by rw[hV1];exact(qB).drew
 have HV:Hid (yBj V1 G1 0 [(⟨nk,ns,nh,nt,nl,nu,nn⟩:Nd)]∧Fp base g b off n cap t d s2 k2 ks2 p2 (.slice a2 m2 c2) V1∧FpS base b off n cap t V1∧yA V1 P 65 7 P [.int .i64 nk,.string ns,.bool nh,.string nt,.int .u64 nl,.int .u64 nu,.int .i64 nn]∧Below w2.heap.size w2 V1):=by
  refine⟨?_,HF3.1.below hbV,HF3.2.up (hbV.mono HF3.2.sz),HB3.1.below hbV,HB3.2.1.trans (hbV.mono HB3.2.1.size)⟩;intro i e he;cases i with
  |zero=>
   simp at he;subst he;rw[hV1,hG1];refine⟨?_,?_,?_,?_,?_,?_,?_⟩<;>simp
  |succ i=>simp at he
 have hS1:=SWm hS0 V1 <|⟨HV.2.1.fs.cell (j:=9) rfl,HV.2.2.2.1.cell (j:=0) rfl,HV.2.2.2.1.cell (j:=1) rfl,HV.2.2.2.1.cell (j:=2) rfl,HV.2.2.2.1.cell (j:=3) rfl,HV.2.2.2.1.cell (j:=4) rfl,HV.2.2.2.1.cell (j:=5) rfl,HV.2.2.2.1.cell (j:=6) rfl⟩;clear hbV;refine qO 6 rfl fun K hK=>?_;go_simp;rw[←hV1,←hG1];clear hV1 hG1;refine hK.out _ _ (.inr hS1) ?_;clear hK;refine jS ?_;refine qO 7 rfl fun K hK=>?_;refine yI5 _ rfl _ _ rfl base (.slice a2 m2 c2) G1 0 1 1 s2.out (⟨nk,ns,nh,nt,nl,nu,nn⟩:Nd) rfl rfl rfl HV.2.1.nds HV.1 (by have:=HV.2.1.ol;omega) HV.2.2.1.sz ?_;intro g6 c6 w6 hO6 hgr hat;have H6:Hid (FsAt w6 base g b off n cap p2 (fpL k2 s2.made (20-d) (.slice a2 m2 c2))∧w6.ownsRow base 65 7 (.slice (some ⟨g6,0,none⟩) (s2.out.length+1) c6) (s2.out++ [(⟨nk,ns,nh,nt,nl,nu,nn⟩:Nd)]).length (yBn (s2.out++ [(⟨nk,ns,nh,nt,nl,nu,nn⟩:Nd)]))∧Chg (fun q=>q=g∨nv.ownBlock=some q) w w6∧¬g6=g∧(nv.ownBlock=some g6∨w.heap.size≤g6)∧yA w6 P 65 7 P [.int .i64 nk,.string ns,.bool nh,.string nt,.int .u64 nl,.int .u64 nu,.int .i64 nn]):=by
  have hc6:Chg (fun q=>(Value.slice a2 m2 c2).ownBlock=some q) V1 w6:=Chg.of_grown hgr (fun q hq=>hq);have hF5:=HV.2.1;have hcw5:Chg (fun q=>q=g∨nv.ownBlock=some q) w V1:=Chg.comp HQ2.2.2.1 (Chg.of_below HV.2.2.2.2 (S:=fun _=>False)) (fun q _ z=>z.elim);refine⟨yA.chg hF5.fs hc6 (fun z=>hF5.ap _ z rfl),hO6,Chg.comp hcw5 hc6 (fun q hq z=>?_),?_,?_,yA.chg HV.2.2.2.1 hc6 (fun z=>?_)⟩
  ·rcases HQ2.2.2.2 q z with y|y
   ·exact .inr y
   ·omega
  ·rcases hat with z|z
   ·exact fun q=>hF5.ap _ z q
   ·have:=hF5.fs.lt.2;omega
  ·rcases hat with z|z
   ·exact HQ2.2.2.2 _ z
   ·right;have:=hcw5.size;omega
  ·have h1:=(HQ2.1.nlt _ z).2;have h2:=HB3.2.2;omega
 clear hO6 hgr hat;have hS2:=SWm hS1 w6 <|⟨H6.1.cell (j:=9) rfl,H6.2.2.2.2.2.cell (j:=0) rfl,H6.2.2.2.2.2.cell (j:=1) rfl,H6.2.2.2.2.2.cell (j:=2) rfl,H6.2.2.2.2.2.cell (j:=3) rfl,H6.2.2.2.2.2.cell (j:=4) rfl,H6.2.2.2.2.2.cell (j:=5) rfl,H6.2.2.2.2.2.cell (j:=6) rfl⟩;refine hK.out _ _ (.inr hS2) ?_;clear hK;refine jS ?_;refine qO 8 rfl fun K hK=>?_;go_simp;refine hK.out _ _ (.inr hS2) ?_;clear hK;refine jS ?_;refine qO 9 rfl fun K hK=>?_;go_simp;refine hK.out _ _ (.inr hS2) ?_;clear hK;refine jS ?_;have cN:=H6.1.cell (j:=9) rfl;have fN:=H6.1.frozen 9;refine qO 10 rfl fun K hK=>?_;go_simp;refine hK.out _ _ (.inl rfl) ?_;clear hK;refine jS ?_;refine qD ?_;have HR:Hid (FpO base g b off n cap t d (yDb F d s) (.tuple #[]) nv w (.returned (.tuple #[])) (w6.setCell ⟨g,9,none⟩ (.slice (some ⟨g6,0,none⟩) (s2.out.length+1) c6))):=by
  have hc9:Chg (fun q=>q=g) w6 (w6.setCell ⟨g,9,none⟩ (.slice (some ⟨g6,0,none⟩) (s2.out.length+1) c6)):=Chg.of_set _ _ _ _ rfl;have h6:=H6.out;have h4:=HQ2.1;refine⟨Chg.comp h6.2.2.1 hc9 (fun q _ z=>.inl z),.inl ⟨s2.add (⟨nk,ns,nh,nt,nl,nu,nn⟩:Nd),HPr.out,rfl,k2,ks2,p2,.slice (some ⟨g6,0,none⟩) (s2.out.length+1) c6,⟨h4.eq,yA.set h6.1 9 _,h4.pn,h4.lx,h4.nb,h4.tk,h4.md,h4.dd,yA2 h6.2.1 hc9 (fun q hq z=>?_),fun q hq=>?_,?_⟩,fun q hq=>?_⟩⟩
  ·simp[Value.ownBlock]at hq;exact h6.2.2.2.1 (hq.trans z)
  ·simp[Value.ownBlock]at hq;rw[←hq];exact h6.2.2.2.1
  ·have h1:=(yE1 HFl.2 d s _ HPr.out).2;have h2:=H0.2.1.ol;omega
  ·simp[Value.ownBlock]at hq;rw[←hq];exact h6.2.2.2.2.1
 clear hS0 hS1 hS2 cN fN;go_wp2_with fail;go_end0;exact HR.out
theorem yXh (base g b off n cap:Nat) (t:List UInt8):∀d,OprC base g b off n cap t d 26 (FilR d)
 |0=>yNg (yPv (yR5 (F:=fun _ _=>False) (fun q=>absurd q (Nat.lt_irrefl 0)) (fun _ _ q=>q.elim)) (yE1 (fun _ _ q=>q.elim) 0)) (yGe (yE1 (fun _ _ q=>q.elim) 0))
 |d+1=>yNg (yPv (yR5 (F:=FilR d) (fun _=>yXh base g b off n cap t d) (yLn d)) (yE1 (yLn d) (d+1))) (yGe (yE1 (yLn d) (d+1)))
def Ers {α β:Type} (A:α→PR β→Prop):Prop:=∀s e,A s (.error e)→1≤e.1
variable {α β:Type}
theorem yCv {γ:Type} {A:α→PR β→Prop} {B:β→PR γ→Prop} (hA:Ers A) (hB:Ers B):Ers (yBp A B):=by
 intro s e h;rcases h with⟨e2,h1,q⟩|⟨s2,h1,h2⟩
 ·cases q;exact hA s e h1
 ·exact hB s2 e h2
variable {ks:List Tk}
theorem yG4 (h:yA9 ks=.error e):1≤e.1:=by
 unfold yA9 at h;split at h
 ·cases h;simp
 ·cases h
theorem yTe {b:UInt8} (h:yAs b ks=.error e):1≤e.1:=by
 unfold yAs at h;split at h
 ·exact yG4 h
 ·cases h;simp
theorem yRq {r:PR (List Tk)} (h:s.to r=.error e):r=.error e:=by
 cases r with
 |error q=>cases h;rfl
 |ok q=>cases h
theorem yGg (b:UInt8):Ers (fnR fun s:Ps=>s.to (yAs b s.ks)):=fun s e h=>yTe (yRq (Eq.symm h))
theorem yJs:Ers (fnR yAy):=by
 intro s e h;have h':Except.error e=yAy s:=h;unfold yAy at h';split at h'
 ·exact yG4 (yRq h'.symm)
 ·cases h';simp
theorem yNj (d:Nat):Ers (fnR (yAz d)):=by
 intro s e h;have h':Except.error e=yAz d s:=h;unfold yAz at h';split at h'
 ·split at h'
  ·cases h';simp
  ·exact yG4 (yRq h'.symm)
 ·cases h';simp
variable {k:Int} {st:Bool}
theorem up_ers {a:TkK} (h:upF k st a ks=.error e):1≤e.1:=by
 unfold upF at h;split at h
 ·exact yXx
 ·cases h
theorem yPp {a:TkK} (h:yFj k st a ks=.error e):1≤e.1:=by
 unfold yFj at h;cases hq:yAs 46 ks with
 |error q=>rw[hq]at h;cases h;exact yTe hq
 |ok k2=>rw[hq]at h;exact up_ers h
theorem yMm (h:yB k st ks=.error e):1≤e.1:=by
 unfold yB at h;split at h
 ·cases hq:yA9 ks with
  |error q=>rw[hq]at h;cases h;exact yG4 hq
  |ok k2=>rw[hq]at h;exact yPp h
 ·exact yPp h
theorem yWp (h:yDa k ks=.error e):1≤e.1:=by
 unfold yDa at h;split at h
 ·cases h
 split at h
 ·split at h
  ·exact yXx
  ·cases h;simp
 split at h
 ·exact yMm h
 split at h
 ·exact yMm h
 split at h
 ·exact yXx
 ·cases h;simp
theorem yZx (k:Int):Ers (fnR (argF k)):=by
 intro s e h;have h':Except.error e=argF k s:=h;unfold argF at h';cases hq:yDa k s.ks with
 |error q=>rw[hq]at h';cases h';exact yWp hq
 |ok q=>obtain⟨ks,nd⟩:=q;rw[hq]at h';cases h'
variable {sg:UInt8}
theorem yV7 {R:Ps→PR Ps→Prop} (hR:Ers R) {r:PR Ps} (h:yHz sg kd R s r):∀e,r=.error e→1≤e.1:=by
 induction h with
 |stop _=>intro e q;cases q
 |e1 _ h1=>intro e q;cases q;exact yJs _ _ (Eq.symm h1)
 |e2 _ _ h2=>intro e q;cases q;exact hR _ _ h2
 |more _ _ _ _ ih=>exact ih
theorem yIx {R:Ps→PR Ps→Prop} (hR:Ers R):Ers (yDf sg kd R):=yCv hR (fun s e h=>yV7 hR h e rfl)
theorem yV8 (hF:Ers F) (d:Nat):Ers (yDc F d):=yCv (yNj d) (yCv hF (yCv (yGg 44) (yCv hF (yCv (yGg 44) (yCv hF (yGg 41))))))
theorem yPo (hF:Ers F) (d:Nat):Ers (yDb F d):=by
 intro s e h;rcases h with⟨_,h⟩|⟨hw,h⟩|⟨k,hw,_,h⟩|⟨_,_,q⟩
 ·exact yCv (yNj d) (yCv hF (yGg 41)) s e h
 ·exact yCv yJs (yCv (yV8 hF d) (fun s e h=>by cases h)) s e h
 ·exact yCv yJs (yZx k) s e h
 ·cases q;simp
theorem yTg:∀d,Ers (FilR d)
 |0=>yIx (yIx (yPo (fun _ _ q=>q.elim) 0))
 |d+1=>yIx (yIx (yPo (yTg d) (d+1)))
def PfR (base:Nat) (t:List UInt8) (v:Value) (w':World):Prop:=∃(c a:Int) (nv:Value),v=.agg #[.int .i64 c,.int .i64 a,nv]∧
 ((4000<t.length∧c=1∧a=0∧nv=.slice none 0 0)∨
  (t.length≤4000∧∃ks,LexR t 0 ks∧((∃s1:Ps,ParR ks (.ok s1)∧c=0∧a=0∧w'.ownsRow base 65 7 nv s1.out.length (yBn s1.out)∧s1.out.length≤200000)∨(∃p:Nat,ParR ks (.error (c,p))∧a=(p:Int)∧1≤c∧nv=.slice none 0 0))))
def PfP (t:List UInt8) (w:World) (e:Ending) (w':World):Prop:=∃v,e=.returned v∧Below w.heap.size w w'∧PfR w.heap.size t v w'
theorem yUx (base rb:Nat) (c a:Int) (older:List PanicEntry) (w:World) (hc:¬c=0) (hr:yA w base 27 3 rb [.int .i64 0,.int .i64 0,.slice none 0 0]):
  CallsD Tryz.prog 23 #[.pointer (some ⟨rb,0,none⟩)] (.panicking ({v:=pfV c a,recovered:=false}::older)) w fun e u' w'=>
   e=.returned (.tuple #[])∧u'=.panicking ({v:=pfV c a,recovered:=true}::older)∧yA w' base 27 3 rb [.int .i64 c,.int .i64 a,.slice none 0 0]∧Chg (fun k=>k=rb) w w':=by
 refine callsD_of_wpS Tryz.func23 rfl fun c₀ cs hu=>?_;apply wpS_seq;apply wpS_region;simp[wpOpsS,go_sem,recoverD,hu,Tryz.ntmps23,Exit.thenS];refine(yR9 c a w).mono ?_;rintro e w1 ⟨rfl,hb1⟩;simp[wpOpsS,go_sem];have ht:#[Value.pointer (some ⟨rb,0,none⟩)]++(((Array.replicate 11 undef).setIfInBounds 1 (pfV c a)).setIfInBounds 2 (Value.agg #[Value.int IntKind.i64 c,Value.int IntKind.i64 a])).setIfInBounds 0 (Value.pointer (some ⟨w1.heap.size,0,none⟩))=#[.pointer (some ⟨rb,0,none⟩),.pointer (some ⟨w1.heap.size,0,none⟩),pfV c a,.agg #[.int .i64 c,.int .i64 a],undef,undef,undef,undef,undef,undef,undef,undef]:=by rfl
 rw[ht];clear ht;obtain⟨W2,hW2⟩:=qE (w1.alloc (Obj.cells #[.int .i64 c,.int .i64 a] 46):World);have hb2:Below w1.heap.size w1 W2:=by rw[hW2];exact qB
 have HB:Hid (yA W2 base 27 3 rb [.int .i64 0,.int .i64 0,.slice none 0 0]∧Chg (fun k=>k=rb) w W2):=
  ⟨(hr.below hb1).below hb2,(Chg.of_below hb1).trans (Chg.of_below hb2)⟩
 have d0:W2.cell? ⟨w1.heap.size,0,none⟩=some (.int .i64 c):=by rw[hW2];simp
 have d1:W2.cell? ⟨w1.heap.size,1,none⟩=some (.int .i64 a):=by rw[hW2];simp
 have hrl:=(hr.below hb1).lt.2;obtain⟨FB,hFB⟩:=qE w1.heap.size;rw[←hW2];rw[←hFB]at d0 d1⊢;have n1:¬FB=rb:=by omega
 clear hW2 hFB hb1 hb2 hr hrl;obtain⟨e0,e1,e2⟩:=HB.1.c3;obtain⟨f0,f1,f2⟩:=HB.1.f3;obtain⟨W3,hW3⟩:∃V:World,V=((W2.setCell ⟨rb,0,none⟩ (.int .i64 c)).setCell ⟨rb,1,none⟩ (.int .i64 a)).setCell ⟨rb,2,none⟩ (.slice none 0 0):=⟨_,rfl⟩;have HW3:Hid (yA W3 base 27 3 rb [.int .i64 c,.int .i64 a,.slice none 0 0]∧Chg (fun k=>k=rb) w W3):=by rw[hW3];exact⟨((HB.1.set 0 (.int .i64 c)).set 1 (.int .i64 a)).set 2 (.slice none 0 0),((HB.2.trans (Chg.of_set _ rb 0 _ rfl)).trans (Chg.of_set _ rb 1 _ rfl)).trans (Chg.of_set _ rb 2 _ rfl)⟩
 refine wpS_of_wp ?_;go_wp2_with fail;rw[←hW3];exact⟨rfl,_,rfl,_,by simp[results,Tryz.results23],rfl,rfl,HW3.1,HW3.2⟩
theorem yY3 (rb:Nat) (w:World):
  CallsD Tryz.prog 23 #[.pointer (some ⟨rb,0,none⟩)] .returning w fun e u' w'=>e=.returned (.tuple #[])∧u'=.returning∧Below w.heap.size w w':=by
 refine callsD_of_wpS Tryz.func23 rfl fun c₀ cs hu=>?_;apply wpS_seq;apply wpS_region;simp[wpOpsS,go_sem,recoverD,hu,Tryz.ntmps23,Exit.thenS];refine(yPb w).mono ?_;rintro e w1 ⟨rfl,hb1⟩;simp[wpOpsS,go_sem];have ht:#[Value.pointer (some ⟨rb,0,none⟩)]++(((Array.replicate 11 undef).setIfInBounds 1 .nilIface).setIfInBounds 2 (Value.agg #[Value.int IntKind.i64 0,Value.int IntKind.i64 0])).setIfInBounds 0 (Value.pointer (some ⟨w1.heap.size,0,none⟩))=#[.pointer (some ⟨rb,0,none⟩),.pointer (some ⟨w1.heap.size,0,none⟩),.nilIface,.agg #[.int .i64 0,.int .i64 0],undef,undef,undef,undef,undef,undef,undef,undef]:=by rfl
 rw[ht];clear ht;have HB:Hid (Below w.heap.size w (w1.alloc (Obj.cells #[.int .i64 0,.int .i64 0] 46))):=hb1.trans ((Below.refl _ _).alloc hb1.size _);clear hb1;refine wpS_of_wp ?_;go_wp2_with fail;refine⟨rfl,.returning,?_,_,by simp[results,Tryz.results23],rfl,rfl,HB.out⟩;cases c₀
 simp_all
variable {w:World}
theorem yR7 {rb:Nat} {a:Act} {x y:Value} {sa:Option Addr} {sn sc:Nat} (ht:a.tmps.getD 2 undef=.pointer (some ⟨rb,0,none⟩)) (hr:yA w base 27 3 rb [x,y,.slice sa sn sc]):
  (results Tryz.f8 a.tmps).run Tryz.prog w=.ok (.agg #[x,y,.slice sa sn sc]) w:=by
 obtain⟨p0,p1,p2⟩:=hr.c3;have h1:a.tmps[2]?.getD undef=.pointer (some ⟨rb,0,none⟩):=by rw[←Array.getD_eq_getD_getElem?];exact ht
 simp[results,Tryz.results8,go_sem,h1,p0,p1,p2]
theorem yN9 (t:List UInt8) (w wq:World) (a:Act) (c:Int) (k rb:Nat) (hrb:w.heap.size≤rb) (hd:a.defers= [{target:=Target.fn (Fn.func 23) #[.pointer (some ⟨rb,0,none⟩)],args:=#[]}])
  (ht:a.tmps.getD 2 undef=.pointer (some ⟨rb,0,none⟩)) (hl:t.length≤4000) (hL:LexR t 0 ks) (hP:ParR ks (.error (c,k))) (hc:1≤c) (hr:yA wq w.heap.size 27 3 rb [.int .i64 0,.int .i64 0,.slice none 0 0]) (hB:Below w.heap.size w wq):
  bodyPostD Tryz.prog Tryz.f8 (fun e w'=>PfP t w e w') (.panic [{v:=pfV c k,recovered:=false}]) a wq:=by
 show Leaves Tryz.prog Tryz.f8 a.tmps (fun e w'=>PfP t w e w') a.defers (.panicking [{v:=pfV c k,recovered:=false}]) wq;rw[hd];refine leaves_cons (f:=23) (args:=#[.pointer (some ⟨rb,0,none⟩)]) (by simp) (by simp[go_sem]) ?_;refine(yUx w.heap.size rb c k [] wq (by omega) hr).mono ?_;rintro e u' w'' ⟨rfl,rfl,hr2,hC⟩;show Leaves Tryz.prog Tryz.f8 a.tmps (fun e w'=>PfP t w e w') [] (settle (.panicking [{v:=pfV c k,recovered:=true}])) _;exact⟨_,yR7 ht hr2,_,rfl,Chg.below hB hC hB.size (fun j q=>by omega),c,k,.slice none 0 0,rfl,.inr ⟨hl,ks,hL,.inr ⟨k,hP,rfl,hc,rfl⟩⟩⟩
theorem yY4 (t:List UInt8) (w wq:World) (a:Act) (rb:Nat) {sa:Option Addr} {sn sc:Nat} (hd:a.defers= [{target:=Target.fn (Fn.func 23) #[.pointer (some ⟨rb,0,none⟩)],args:=#[]}])
  (ht:a.tmps.getD 2 undef=.pointer (some ⟨rb,0,none⟩)) (hl:t.length≤4000) (hL:LexR t 0 ks) (hP:ParR ks (.ok s1)) (hO:wq.ownsRow w.heap.size 65 7 (.slice sa sn sc) s1.out.length (yBn s1.out)) (h2:s1.out.length≤200000) (hr:yA wq w.heap.size 27 3 rb [.int .i64 0,.int .i64 0,.slice sa sn sc]) (hB:Below w.heap.size w wq):
  bodyPostD Tryz.prog Tryz.f8 (fun e w'=>PfP t w e w') .ret a wq:=by
 show Leaves Tryz.prog Tryz.f8 a.tmps (fun e w'=>PfP t w e w') a.defers .returning wq;rw[hd];refine leaves_cons (f:=23) (args:=#[.pointer (some ⟨rb,0,none⟩)]) (by simp) (by simp[go_sem]) ?_;refine(yY3 rb wq).mono ?_;rintro e u' w'' ⟨rfl,rfl,hb⟩;show Leaves Tryz.prog Tryz.f8 a.tmps (fun e w'=>PfP t w e w') [] (settle .returning) w'';exact⟨_,yR7 ht (hr.below hb),_,rfl,hB.trans (hb.mono hB.size),0,0,_,rfl,.inr ⟨hl,ks,hL,.inl ⟨s1,hP,rfl,rfl,yA2 (S:=fun _=>False) hO (Chg.of_below hb) (fun _ _ q=>q),h2⟩⟩⟩
theorem yGr {b:Nat} {t:List UInt8} (hT:yAe w b off t) (hb:b<w.heap.size) (hn:n=t.length) (hl:n≤2^40) (hc:n≤cap) (hcm:cap≤maxLen) (hG:7≤w.heap.size) (hW:yGk w) (hE:yF6 w):
  Calls Tryz.prog 8 #[.slice (some ⟨b,off,none⟩) n cap] w (fun e w'=>PfP t w e w'):=by
 have hmf:∀(fn:Fn) (first cap:Array Value) (w:World),(Instr.makeFunc fn first cap).run Tryz.prog w=.ok (.func fn first cap) w:=fun _ _ _ _=>rfl;have HN:Hid (n=t.length):=hn;obtain⟨W0,hW0⟩:=qE (w.alloc (Obj.cells #[.int .i64 0,.int .i64 0,.slice none 0 0] 27):World);have b0:Below w.heap.size w W0:=by rw[hW0];exact qB
 have HB0:Hid (yA W0 w.heap.size 27 3 w.heap.size [.int .i64 0,.int .i64 0,.slice none 0 0]∧Below w.heap.size w W0∧W0.heap.size=w.heap.size+1):=⟨by rw[hW0];exact yAb w _ (Nat.le_refl _) rfl,b0,by rw[hW0];simp⟩;by_cases hlong:4000<n
 ·have z:¬(n:Int)≤4000:=by omega
  have z2:(4000:Int)<(n:Int):=by omega
  go_enter_defers Tryz.func8,Tryz.ntmps8;go_upto_region 1 with fail;rw[←hW0];clear hW0;obtain⟨e0,e1,e2⟩:=HB0.1.c3;obtain⟨f0,f1,f2⟩:=HB0.1.f3;obtain⟨W3,hW3⟩:∃V:World,V=((W0.setCell ⟨w.heap.size,0,none⟩ (.int .i64 1)).setCell ⟨w.heap.size,1,none⟩ (.int .i64 0)).setCell ⟨w.heap.size,2,none⟩ (.slice none 0 0):=⟨_,rfl⟩;have HW3:Hid (yA W3 w.heap.size 27 3 w.heap.size [.int .i64 1,.int .i64 0,.slice none 0 0]∧Below w.heap.size w W3):=by rw[hW3];exact⟨((HB0.1.set 0 (.int .i64 1)).set 1 (.int .i64 0)).set 2 (.slice none 0 0),yAd (yAd (yAd HB0.2.1 (Nat.le_refl _) 0 _) (Nat.le_refl _) 1 _) (Nat.le_refl _) 2 _⟩
  go_wp2_with fail;rw[←hW3];show Leaves Tryz.prog Tryz.f8 _ (fun e w'=>PfP t w e w') [] .returning W3;exact⟨_,yR7 (a:={tmps:=_,defers:= []}) rfl HW3.1,_,rfl,HW3.2,1,0,_,rfl,.inl ⟨by rw[←HN.out];exact hlong,rfl,rfl,rfl⟩⟩
 have hn4:n≤4000:=by omega
 have z:(n:Int)≤4000:=by omega
 obtain⟨ks,hL⟩:=yOb t.length t 0 (Nat.le_refl _);obtain⟨W1,hW1⟩:∃V:World,V=W0.alloc (Obj.cells #[.slice (some ⟨b,off,none⟩) n cap,.int .i64 0,.int .u8 0,.int .i64 0,.int .i64 0,.int .u64 0,.string ⟨#[]⟩,.int .i64 0,.int .i64 0,.slice none 0 0] 54):=⟨_,rfl⟩;have b1:Below W0.heap.size W0 W1:=by rw[hW1];exact qB
 have bw1:Below w.heap.size w W1:=b0.trans (b1.mono b0.size);have hz0:=HB0.2.2;have hS0:FpS w.heap.size b off n cap t w:=⟨hT,hb,hG,Nat.le_refl _,hW,hE,hn,by omega,hc,hcm⟩
 have H1:Hid (yA W1 w.heap.size 27 3 w.heap.size [.int .i64 0,.int .i64 0,.slice none 0 0]∧FpS w.heap.size b off n cap t W1∧FsAt W1 w.heap.size (w.heap.size+1) b off n cap 0 (fpL ⟨.fin,0⟩ 0 0 (.slice none 0 0))∧Below w.heap.size w W1∧W1.heap.size=w.heap.size+2∧LexR t 0 ks∧t.length≤4000):=
  ⟨HB0.1.below b1,hS0.up bw1,by rw[hW1,←hz0];exact yAb W0 #[.slice (some ⟨b,off,none⟩) n cap,.int .i64 0,.int .u8 0,.int .i64 0,.int .i64 0,.int .u64 0,.string ⟨#[]⟩,.int .i64 0,.int .i64 0,.slice none 0 0] (by omega) rfl,bw1,by rw[hW1];simp;omega,hL,by omega⟩
 have HNx:Hid (Calls Tryz.prog 25 #[.pointer (some ⟨w.heap.size+1,0,none⟩)] W1 (NxtP w.heap.size (w.heap.size+1) b off n cap (fpL ⟨.fin,0⟩ 0 0 (.slice none 0 0)) t ks W1)):=by have h8:=H1.2.1;exact yMy (i:=0) H1.2.2.1 h8.bys (by have:=h8.bl;have:=H1.2.2.2.2.1;omega) h8.nt h8.nl h8.nc h8.cm (Nat.zero_le _) ⟨by have:=H1.2.2.2.2.1;omega,by omega,by have:=h8.lo;omega,by have:=h8.lo;have:=h8.sz;omega⟩ h8.wds h8.err hL
 clear hT hb hG hW hE hn hl hc hcm b0 b1 bw1 hS0 hL HB0;go_enter_defers Tryz.func8,Tryz.ntmps8;go_upto_region 1 with fail;rw[←hW0];clear hW0;go_upto_region 5 with fail;rw[←hW1];clear hW1 hz0;go_wp2_with fail;refine HNx.mono ?_;clear HNx;rintro e w2 ⟨Hc2,(⟨hbd,rfl⟩|⟨hbd,k,ks2,hk,rfl,p2,hfs,hp2,hlx⟩)⟩
 ·exact yN9 t w w2 _ 2 (hdA ks) w.heap.size (Nat.le_refl _) rfl rfl H1.2.2.2.2.2.2 H1.2.2.2.2.2.1 (.inl ⟨hbd,rfl⟩) (by decide) (H1.1.chg Hc2.out (by omega)) (Chg.below H1.2.2.2.1 Hc2.out H1.2.2.2.1.size (fun j q=>by omega))
 have i0:=hfs.cell (j:=2) rfl;have i1:=hfs.cell (j:=3) rfl;have i2:=hfs.cell (j:=4) rfl;have i3:=hfs.cell (j:=5) rfl;have i4:=hfs.cell (j:=6) rfl;have z0:=hfs.frozen 2;have z1:=hfs.frozen 3;have z2:=hfs.frozen 4;have z3:=hfs.frozen 5;have z4:=hfs.frozen 6;obtain⟨W3,hW3⟩:∃V:World,V=setQ w2 (w.heap.size+1) (.int .u8 ((ftB k.k).toNat:Int)) (.int .i64 (k.pos:Int)) (.int .i64 k.k.wd) (.int .u64 k.k.nm) (.string k.k.txt):=⟨_,rfl⟩;have hc3:Chg (fun q=>q=w.heap.size+1) w2 W3:=by rw[hW3];exact yPu _ _ _ _ _ _ _
 have hc13:Chg (fun q=>q=w.heap.size+1) W1 W3:=Hc2.trans hc3;have H3:Hid (yA W3 w.heap.size 27 3 w.heap.size [.int .i64 0,.int .i64 0,.slice none 0 0]∧FpS w.heap.size b off n cap t W3∧Fp w.heap.size (w.heap.size+1) b off n cap t 20 ⟨ks,0,[]⟩ k ks2 p2 (.slice none 0 0) W3∧Below w.heap.size w W3∧(hdK ks).isBad=false∧LexR t 0 ks∧t.length≤4000):=by have hks:=H1.2.2.2.2.2.1;refine⟨H1.1.chg hc13 (by omega),H1.2.1.chg hc13 (fun q z=>by omega),⟨hk,by rw[hW3];exact FsAt.setQ hfs,hp2,hlx,by rw[hk]at hbd;exact hbd,by have:=hks.toks;rw[hk]at this;exact this,by simp,by decide,⟨rfl,.inl ⟨rfl,rfl⟩⟩,(fun q hq=>by cases hq),by have:=hks.len.1;have:=H1.2.2.2.2.2.2;simp;omega⟩,Chg.below H1.2.2.2.1 hc13 H1.2.2.2.1.size (fun j q=>by omega),hbd,hks,H1.2.2.2.2.2.2⟩
 clear hbd hk hfs hp2 hlx hc3 hc13 H1 Hc2;unfold setQ at hW3;go_upto_region 6 with fail;rw[←hW3];clear hW3 i0 i1 i2 i3 i4 z0 z1 z2 z3 z4;have HFi:Hid (Calls Tryz.prog 26 #[.pointer (some ⟨w.heap.size+1,0,none⟩)] W3 (FpO w.heap.size (w.heap.size+1) b off n cap t 20 (FilR 20 ⟨ks,0,[]⟩) (.tuple #[]) (.slice none 0 0) W3)):=yXh w.heap.size (w.heap.size+1) b off n cap t 20 W3 ⟨ks,0,[]⟩ k ks2 p2 (.slice none 0 0) H3.2.1 H3.2.2.1;go_wp2_with fail;refine HFi.mono ?_;clear HFi;rintro e w4 ⟨Hc4,(⟨s4,hs4,rfl,k4,ks4,p4,nv4,hF4,hn4'⟩|⟨c,a,hs4,rfl⟩)⟩;case inr=>
  have hn1:¬(w.heap.size=w.heap.size+1∨(Value.slice none 0 0).ownBlock=some w.heap.size):=fun z=>by
   rcases z with q|q
   ·omega
   ·cases q
  have hn2:∀j,(j=w.heap.size+1∨(Value.slice none 0 0).ownBlock=some j)→w.heap.size≤j:=fun j z=>by
   rcases z with q|q
   ·omega
   ·cases q
  exact yN9 t w w4 _ c a w.heap.size (Nat.le_refl _) rfl rfl H3.2.2.2.2.2.2 H3.2.2.2.2.2.1 (.inr ⟨H3.2.2.2.2.1,.inl ⟨_,hs4,rfl⟩⟩) (yTg 20 _ _ hs4) (H3.1.chg Hc4.out hn1) (Chg.below H3.2.2.2.1 Hc4.out H3.2.2.2.1.size hn2)
 obtain⟨a4,m4,c4,rfl⟩:=hF4.form;have H4:Hid (yA w4 w.heap.size 27 3 w.heap.size [.int .i64 0,.int .i64 0,.slice none 0 0]∧Fp w.heap.size (w.heap.size+1) b off n cap t 20 s4 k4 ks4 p4 (.slice a4 m4 c4) w4∧Below w.heap.size w w4∧(FilR 20 ⟨ks,0,[]⟩ (.ok s4))∧(∀q,(Value.slice a4 m4 c4).ownBlock=some q→¬q=w.heap.size)):=by
  have hsz:=H3.2.2.1.fs.lt.2;have hn1:¬(w.heap.size=w.heap.size+1∨(Value.slice none 0 0).ownBlock=some w.heap.size):=fun z=>by
   rcases z with q|q
   ·omega
   ·cases q
  have hn2:∀j,(j=w.heap.size+1∨(Value.slice none 0 0).ownBlock=some j)→w.heap.size≤j:=fun j z=>by
   rcases z with q|q
   ·omega
   ·cases q
  refine⟨H3.1.chg Hc4.out hn1,hF4,Chg.below H3.2.2.2.1 Hc4.out H3.2.2.2.1.size hn2,hs4,fun q hq=>?_⟩;rcases hn4' q hq with y|y
  ·cases y
  ·omega
 clear hs4 hF4 hn4' Hc4;have cK:=H4.2.1.fs.cell (j:=2) rfl;have cN:=H4.2.1.fs.cell (j:=9) rfl;have hkn:=H4.2.1.kinds;cases hfin:k4.k.isFin
 case false=>
  have zk:(((ftB k4.k).toNat:Int)==0)=false:=by
   cases hq:k4.k with
   |fin=>rw[hq]at hfin;cases hfin
   |sign c=>
    rw[hq]at hkn;rcases hkn with q|q
    ·rcases q with rfl|rfl|rfl|rfl|rfl|rfl<;>rfl
    ·cases q
   |num _=>rfl
   |str _=>rfl
   |word _=>rfl
   |bad=>rw[hq]at hkn;rcases hkn with q|q<;>cases q
  have HE2:Hid (ParR ks (.error (3,k4.pos))):=.inr ⟨H3.2.2.2.2.1,.inr ⟨s4,H4.2.2.2.1,by
   show _=endF s4
   unfold endF
   rw[H4.2.1.eq]
   rw[if_neg (by show¬k4.k.isFin=true;rw[hfin];simp)]
   rfl⟩⟩
  obtain⟨kb,hkb⟩:=qE (((ftB k4.k).toNat:Int):Int);rw[←hkb]at zk cK;clear hfin hkn hkb;go_wp2_with fail;refine(yEg H4.2.1 3).mono ?_;rintro e w5 ⟨rfl,hw5⟩;rw[hw5];exact yN9 t w w4 _ 3 k4.pos w.heap.size (Nat.le_refl _) rfl rfl H3.2.2.2.2.2.2 H3.2.2.2.2.2.1 HE2.out (by decide) H4.1 H4.2.2.1
 have HOk:Hid (ParR ks (.ok s4)):=.inr ⟨H3.2.2.2.2.1,.inr ⟨s4,H4.2.2.2.1,by
   show _=endF s4
   unfold endF
   rw[H4.2.1.eq]
   rw[if_pos (by exact hfin)]⟩⟩
 rw[show ftB k4.k=0 from by
  cases hq:k4.k with
  |fin=>rfl
  |bad=>rfl
  |sign c=>rw[hq]at hfin;cases hfin
  |num _=>rw[hq]at hfin;cases hfin
  |str _=>rw[hq]at hfin;cases hfin
  |word _=>rw[hq]at hfin;cases hfin]at cK
 clear hfin hkn;go_wp2_with fail;refine(yCo _ 3 w4).mono ?_;rintro e w5 ⟨rfl,hw5⟩;rw[hw5];clear hw5;obtain⟨e0,e1,e2⟩:=H4.1.c3;obtain⟨f0,f1,f2⟩:=H4.1.f3;obtain⟨W6,hW6⟩:∃V:World,V=((w4.setCell ⟨w.heap.size,0,none⟩ (.int .i64 0)).setCell ⟨w.heap.size,1,none⟩ (.int .i64 0)).setCell ⟨w.heap.size,2,none⟩ (.slice a4 m4 c4):=⟨_,rfl⟩;have HW6:Hid (yA W6 w.heap.size 27 3 w.heap.size [.int .i64 0,.int .i64 0,.slice a4 m4 c4]∧Below w.heap.size w W6∧W6.ownsRow w.heap.size 65 7 (.slice a4 m4 c4) s4.out.length (yBn s4.out)∧s4.out.length≤200000):=by
  have hc:Chg (fun q=>q=w.heap.size) w4 W6:=by rw[hW6];exact((Chg.of_set (S:=fun q=>q=w.heap.size) _ w.heap.size 0 _ rfl).trans (Chg.of_set (S:=fun q=>q=w.heap.size) _ w.heap.size 1 _ rfl)).trans (Chg.of_set (S:=fun q=>q=w.heap.size) _ w.heap.size 2 _ rfl)
  refine⟨by rw[hW6];exact((H4.1.set 0 (.int .i64 0)).set 1 (.int .i64 0)).set 2 (.slice a4 m4 c4),by rw[hW6];exact yAd (yAd (yAd H4.2.2.1 (Nat.le_refl _) 0 _) (Nat.le_refl _) 1 _) (Nat.le_refl _) 2 _,yA2 H4.2.1.nds hc (fun q hq=>H4.2.2.2.2 q hq),by have:=H4.2.1.ol;omega⟩
 clear cK;go_wp2_with fail;rw[←hW6];exact yY4 t w W6 _ w.heap.size rfl rfl H3.2.2.2.2.2.2 H3.2.2.2.2.2.1 HOk.out HW6.2.2.1 HW6.2.2.2 HW6.1 HW6.2.1
def yFk (w:World) (base:Nat) (u:Value) (R:List Nd):Prop:=(u=.slice none 0 0∧R= [])∨∃g cp,u=.slice (some ⟨g,0,none⟩) R.length cp∧yAu w base g cp R
variable {u:Value} {R:List Nd}
theorem yFk.row (h:yFk w base u R):∀g,u.ownBlock=some g→base≤g∧g<w.heap.size:=by
 intro g hg;rcases h with⟨rfl,_⟩|⟨g',cp,rfl,hO⟩
 ·cases hg
 ·have:g'=g:=Option.some.inj hg;subst this;exact hO.lt
variable {w':World}
theorem yFk.keptNe {row:Option Nat} (h:yFk w base u R) (hg:w.grownBy w' row) (hne:∀g,u.ownBlock=some g→row≠some g):yFk w' base u R:=by
 rcases h with h|⟨g,cp,rfl,hO⟩
 ·exact .inl h
 ·exact .inr ⟨g,cp,rfl,World.ownsRow.kept hO hg (.inr (fun q=>hne g rfl q.symm))⟩
theorem yFk.below (h:yFk w base u R) (hb:Below w.heap.size w w'):yFk w' base u R:=h.keptNe (yGt hb none) (fun g q z=>by cases z)
def NxO (l:List UInt8):Prop:=∀b,l.head?=some b→yA7 b=false∧yA1 b=false
def Lx (c:Bool) (l:List UInt8) (K:List TkK):Prop:=∀(rest:List UInt8) (i:Nat) (ks':List Tk),(c=true→NxO rest)→LexR rest (i+l.length) ks'→∃ks,LexR (l++rest) i (ks++ks')∧ks.map (·.k)=K
variable {c:Bool} {l:List UInt8} {K:List TkK}
theorem Lx.weak (h:Lx false l K):Lx c l K:=fun rest i ks' _ hl=>h rest i ks' (by simp) hl
variable {K1 K2:List TkK}
theorem Lx.seq {c1 c2:Bool} {l1 l2:List UInt8} (h1:Lx c1 l1 K1) (h2:Lx c2 l2 K2) (hn:c1=true→l2≠ []∧NxO l2):Lx c2 (l1++l2) (K1++K2):=by
 intro rest i ks' hc hl;rw[List.length_append,←Nat.add_assoc]at hl;obtain⟨ka,ha,ea⟩:=h2 rest (i+l1.length) ks' hc hl;obtain⟨kb,hb,eb⟩:=h1 (l2++rest) i (ka++ks') (fun q=>by
  obtain⟨n1,n2⟩:=hn q
  intro b hb
  apply n2
  cases l2 with
  |nil=>exact absurd rfl n1
  |cons x l=>exact hb) ha
 exact⟨kb++ka,by rw[List.append_assoc,List.append_assoc];exact hb,by rw[List.map_append,ea,eb]⟩
theorem Lx.space (h:Lx c l K):Lx c (32::l) K:=by intro rest i ks' hc hl;obtain⟨ks,h1,h2⟩:=h rest (i+1) ks' hc (by rw[List.length_cons]at hl;rw[show i+1+l.length=i+(l.length+1)by omega];exact hl);exact⟨ks,.space h1,h2⟩
theorem Lx.nil:Lx c [] []:=fun rest i ks' _ hl=>⟨[],hl,rfl⟩
variable {b:UInt8}
theorem yM0 {k:TkK} (hb:¬b=32) (h:∀rest,(c=true→NxO rest)→tokF (b::l++rest)=some (k,(b::l).length)):Lx c (b::l) [k]:=by
 intro rest i ks' hc hl;refine⟨[⟨k,i⟩],?_,rfl⟩;refine .tok (l:=l++rest) hb (h rest hc) ?_;have e:(b::(l++rest)).drop (b::l).length=rest:=by rw[←List.cons_append,List.drop_left]
 rw[e];exact hl
theorem yGz (h:b=40∨b=41∨b=44∨b=62∨b=124):Lx false [b] [.sign b]:=by refine yM0 (by rcases h with rfl|rfl|rfl|rfl|rfl<;>decide) (fun rest _=>?_);rcases h with rfl|rfl|rfl|rfl|rfl<;>rfl
theorem ySi:Lx false [46,46] [.sign 46]:=yM0 (by decide) (fun rest _=>rfl)
theorem yFn {p:UInt8→Bool}:∀{l rest:List UInt8},(∀b∈l,p b=true)→(∀b,rest.head?=some b→p b=false)→(l++rest).takeWhile p=l
 | [],[],_,_=>rfl
 | [],b::r,_,h=>by simp[h b rfl]
 |a::l,rest,h,h2=>by rw[List.cons_append,List.takeWhile_cons,if_pos (h a (by simp)),yFn (fun b hb=>h b (by simp[hb])) h2]
theorem yK2 (hl:∀x∈b::l,yA7 x=true) (hk:kwF (b::l)=some k):Lx true (b::l) [.word k]:=by have hb:=hl b (by simp);refine yM0 (by intro q;subst q;exact absurd hb (by decide)) (fun rest hc=>?_);have ht:=yFn hl (fun x hx=>(hc rfl x hx).1);rw[List.cons_append]at ht⊢;unfold tokF;dsimp only;rw[if_pos hb,ht,hk];rfl
theorem yZf (h1:1≤k) (h2:k≤13):Lx true (bl (yA8 k)) [.word k]:=by rcases yM h1 h2 with rfl|rfl|rfl|rfl|rfl|rfl|rfl|rfl|rfl|rfl|rfl|rfl|rfl<;>exact yK2 (by decide) (by decide)
theorem lx_if:Lx true [105,102] [.word 16]:=yK2 (by decide) (by decide)
theorem yNq (h:n<10):yA1 (UInt8.ofNat (48+n))=true∧(UInt8.ofNat (48+n)).toNat=48+n:=by
 have:(UInt8.ofNat (48+n)).toNat=48+n:=by simp[UInt8.toNat_ofNat'];omega
 refine⟨?_,this⟩;unfold yA1;rw[this];simp;omega
theorem yZy (n:Nat):∀b∈Lib.decDigits n,yA1 b=true:=by
 induction n using Nat.strongRecOn with
 |_ n ih=>
  intro b hb;rw[Lib.decDigits]at hb;split at hb
  ·rename_i h;rw[List.mem_singleton]at hb;rw[hb];exact(yNq h).1
  ·rename_i h;rw[List.mem_append,List.mem_singleton]at hb;rcases hb with hb|hb
   ·exact ih (n/10) (by omega) b hb
   ·rw[hb];exact(yNq (Nat.mod_lt _ (by omega))).1
theorem yTi (n:Nat):decV (Lib.decDigits n)=n:=by
 induction n using Nat.strongRecOn with
 |_ n ih=>
  rw[Lib.decDigits];split
  ·rename_i h;simp only[decV,List.foldl_cons,List.foldl_nil,(yNq h).2];omega
  ·rename_i h;have h1:=ih (n/10) (by omega);unfold decV at h1⊢;rw[List.foldl_append,h1];simp only[List.foldl_cons,List.foldl_nil,(yNq (Nat.mod_lt n (by omega))).2];omega
theorem yPq (n:Nat):∃b l,Lib.decDigits n=b::l∧(1≤n→¬b=48):=by
 induction n using Nat.strongRecOn with
 |_ n ih=>
  rw[Lib.decDigits];split
  ·rename_i h;refine⟨_,_,rfl,fun h1 q=>?_⟩;have:=(yNq h).2;rw[q]at this;simp at this;omega
  ·rename_i h;obtain⟨b,l,h1,h2⟩:=ih (n/10) (by omega);exact⟨b,l++ [_],by rw[h1];rfl,fun _=>h2 (by omega)⟩
theorem yW (h:n<2^64):numM (Lib.decDigits n)=some n:=by
 unfold numM;rw[if_neg,if_pos (by rw[yTi];exact h),yTi];rintro⟨h1,h2⟩;by_cases h0:n<10
 ·rw[Lib.decDigits,dif_pos h0]at h1;simp at h1
 ·obtain⟨b,l,e,hb⟩:=yPq n;rw[e]at h2;exact hb (by omega) (by simpa using h2)
theorem yXc (h:n<2^64):Lx true (Lib.decDigits n) [.num (n:Int)]:=by
 obtain⟨b,l,e,_⟩:=yPq n;have hd:=yZy n;have hm:=yW h;rw[e]at hd hm⊢;have hb:=hd b (by simp);have hnl:yA7 b=false:=by unfold yA1 at hb;unfold yA7;simp at hb⊢;omega
 refine yM0 (by intro q;subst q;exact absurd hb (by decide)) (fun rest hc=>?_);have ht:=yFn hd (fun x hx=>(hc rfl x hx).2);rw[List.cons_append]at ht⊢;unfold tokF;dsimp only;rw[if_neg (by rw[hnl];simp),if_pos hb,ht,hm];rfl
theorem yXd (h:n<16):hexV (hexB n)=some n:=by
 have:∀m:Fin 16,hexV (hexB m.val)=some m.val:=by decide
 exact this ⟨n,h⟩
theorem yO3:∀(s rest:List UInt8),strM (quoL s++34::rest)=some (s,(quoL s).length+1)
 | [],rest=>by
   show strM (34::rest)=_
   unfold strM
   rw[if_pos rfl]
   rfl
 |b::s,rest=>by
  have ih:=yO3 s rest
  have e:quoL (b::s)=yEk b++quoL s:=by simp[quoL]
  rw[e,List.append_assoc]
  unfold yEk
  by_cases h1:b.toNat=34∨b.toNat=92
  ·rw[if_pos h1]
   have hb:b=34∨b=92:=by
    rcases h1 with h|h
    ·exact .inl (UInt8.toNat_inj.1 h)
    ·exact .inr (UInt8.toNat_inj.1 h)
   show strM (92::b::(quoL s++34::rest))=_
   unfold strM
   rw[if_neg (by decide),if_pos rfl]
   dsimp only
   rw[if_pos hb,ih]
   simp
  ·rw[if_neg h1];have n34:¬b=34:=fun q=>h1 (.inl (by rw[q];rfl));have n92:¬b=92:=fun q=>h1 (.inr (by rw[q];rfl));by_cases h2:32≤b.toNat∧b.toNat≤126
   ·rw[if_pos h2];show strM (b::(quoL s++34::rest))=_;unfold strM;rw[if_neg n34,if_neg n92,if_pos (by unfold yKj;simpa using h2),ih];simp
   ·rw[if_neg h2];show strM (92::120::hexB (b.toNat/16)::hexB (b.toNat%16)::(quoL s++34::rest))=_;unfold strM;rw[if_neg (by decide),if_pos rfl];dsimp only;rw[if_neg (by decide),if_pos rfl];have hlt:=b.toNat_lt;rw[yXd (by omega),yXd (Nat.mod_lt _ (by omega))];dsimp only;rw[ih];have:UInt8.ofNat (16*(b.toNat/16)+b.toNat%16)=b:=by rw[Nat.div_add_mod];exact UInt8.ofNat_toNat
    rw[this];simp
theorem yXb {s:ByteArray} (h:s.size≤200):Lx false (quoM (bl s)) [.str s]:=by
 have e:quoM (bl s)=34::(quoL (bl s)++ [34]):=by unfold quoM;simp
 rw[e];refine yM0 (by decide) (fun rest _=>?_);rw[List.cons_append];unfold tokF;dsimp only;rw[if_neg (by decide),if_neg (by decide),if_pos rfl,List.append_assoc,List.singleton_append,yO3];dsimp only;rw[if_pos (by rw[yBb];exact h)];have:(⟨(bl s).toArray⟩:ByteArray)=s:=by
  cases s with
  |mk a=>simp[bl]
 rw[this];simp
def NoSo (t:TkK):Prop:=t.isBad=false∧t.isSort true=false∧t.isSort false=false
def Rd (C:TkK→Prop) (A:Ps→PR Ps→Prop) (K:List TkK) (p:List Nd):Prop:=
 ∀(ks:List Tk) (md:Nat) (out:List Nd) (k1 k2:List Tk),ks=k1++k2→k1.map (·.k)=K→NoSo (hdK k2)→C (hdK k2)→md+p.length≤200→A ⟨ks,md,out⟩ (.ok ⟨k2,md+p.length,out++p⟩)
inductive yMf (sg:UInt8) (kd:Int) (R:Ps→PR Ps→Prop):Ps→Ps→Prop
 |refl (s:Ps):yMf sg kd R s s
 |step {s s1 s2 s3:Ps} (h:(hdK s.ks).isSign sg=true) (h1:yAy s=.ok s1) (h2:R s1 (.ok s2)) (h3:yMf sg kd R (s2.add (yAc kd)) s3):yMf sg kd R s s3
variable {R:Ps→PR Ps→Prop}
theorem yMf.loop (h:yMf sg kd R s s1) {r:PR Ps} (k:yHz sg kd R s1 r):yHz sg kd R s r:=by
 induction h with
 |refl=>exact k
 |step h h1 h2 _ ih=>exact .more h h1 h2 (ih k)
theorem yMf.snoc (h:yMf sg kd R s s1) {s2 s3:Ps} (hs:(hdK s1.ks).isSign sg=true) (hm:yAy s1=.ok s2) (hr:R s2 (.ok s3)):yMf sg kd R s (s3.add (yAc kd)):=by
 induction h with
 |refl=>exact .step hs hm hr (.refl _)
 |step h h1 h2 _ ih=>exact .step h h1 h2 (ih hs hm)
def yOt (sg:UInt8) (kd:Int) (R:Ps→PR Ps→Prop) (s:Ps) (r:PR Ps):Prop:=∃s1,r=.ok s1∧∃s0,R s (.ok s0)∧yMf sg kd R s0 s1
variable {C:TkK→Prop} {p:List Nd}
theorem yYy (h:Rd C R K p) (sg:UInt8) (kd:Int):Rd C (yOt sg kd R) K p:=
 fun ks md out k1 k2 e1 e2 hn hc hm=>⟨_,rfl,_,h ks md out k1 k2 e1 e2 hn hc hm,.refl _⟩
theorem yIs (h:Rd C (yOt sg kd R) K p):Rd (fun t=>C t∧t.isSign sg=false) (yDf sg kd R) K p:=by
 intro ks md out k1 k2 e1 e2 hn hc hm;obtain⟨s1,q,s0,h0,hl⟩:=h ks md out k1 k2 e1 e2 hn hc.1 hm;cases q
 exact .inr ⟨s0,h0,hl.loop (.stop hc.2)⟩
theorem yN8 {D:TkK→Prop} (h:Rd C R K p) (hd:∀t,D t→C t):Rd D R K p:=
 fun ks md out k1 k2 e1 e2 hn hc hm=>h ks md out k1 k2 e1 e2 hn (hd _ hc) hm
theorem yFm (h:(hdK ks.tail).isBad=false):yA9 ks=.ok ks.tail:=by unfold yA9;rw[if_neg (by rw[h];simp)]
theorem yLo {x:Tk} {md:Nat} {out:List Nd} (hm:md<200) (h:(hdK ks).isBad=false):yAy ⟨x::ks,md,out⟩=.ok ⟨ks,md+1,out⟩:=by unfold yAy;rw[if_pos hm,yFm (by exact h)];rfl
def HdG (K:List TkK):Prop:=∃t L,K=t::L∧t.isBad=false
variable {k1 k2:List Tk}
theorem HdG.of (h:HdG K) (e:k1.map (·.k)=K):(hdK (k1++k2)).isBad=false:=by
 obtain⟨t,L,rfl,ht⟩:=h;cases k1 with
 |nil=>cases e
 |cons x k1=>
  simp only[List.map_cons,List.cons.injEq]at e;show x.k.isBad=false;rw[e.1];exact ht
theorem yR0 {C1:TkK→Prop} {p1 p2:List Nd} (h1:Rd C1 (yOt sg kd R) K1 p1) (hc1:C1 (.sign sg)) (h2:Rd C R K2 p2) (hK:HdG K2):Rd C (yOt sg kd R) (K1++ .sign sg::K2) (p1++(p2++ [yAc kd])):=by
 intro ks md out k1 k2 e1 e2 hn hc hm;obtain⟨a,b,rfl,ea,eb⟩:=List.map_eq_append_iff.1 e2;obtain⟨x,b,rfl,ex,eb⟩:=List.map_eq_cons_iff.1 eb;simp only[List.length_append,List.length_singleton]at hm;subst e1;obtain⟨s1,q,s0,h0,hl⟩:=h1 (a++x::b++k2) md out a (x::b++k2) (by simp) ea (by show NoSo x.k;rw[ex];exact⟨rfl,rfl,rfl⟩) (by show C1 x.k;rw[ex];exact hc1) (by omega);cases q
 have hb:=hK.of (k2:=k2) eb;have h3:=h2 (b++k2) (md+p1.length+1) (out++p1) b k2 rfl eb hn hc (by omega);refine⟨_,?_,s0,h0,hl.snoc (by show x.k.isSign sg=true;rw[ex];simp[TkK.isSign]) (yLo (by omega) hb) h3⟩;show Except.ok _=Except.ok (Ps.mk _ _ _);simp only[List.length_append,List.length_singleton,List.append_assoc];rw[show md+p1.length+1+p2.length=md+(p1.length+(p2.length+1))by omega]
def Fd:Nat→Ps→PR Ps→Prop
 |0=>fun _ _=>False
 |d+1=>FilR d
theorem yZs (d:Nat):FilR d=yDf 124 15 (ChaR (Fd d) d):=by cases d<;>rfl
def Any (_:TkK):Prop:=True
theorem yUs (h:Rd C (FilR d) K p) (hc:C (.sign 41)) (hK:HdG K):Rd Any (yDb (Fd (d+1)) (d+1)) (.sign 40::(K++ [.sign 41])) p:=by
 intro ks md out k1 k2 e1 e2 hn _ hm;obtain⟨x,b,rfl,ex,eb⟩:=List.map_eq_cons_iff.1 e2;obtain⟨a,b,rfl,ea,eb⟩:=List.map_eq_append_iff.1 eb;obtain⟨y,b,rfl,ey,eb⟩:=List.map_eq_cons_iff.1 eb;obtain rfl:=List.map_eq_nil_iff.1 eb;subst e1;have hx:(hdK (x::(a++ [y])++k2)).isSign 40=true:=by show x.k.isSign 40=true;rw[ex];rfl
 refine .inl ⟨hx,.inr ⟨⟨a++ [y]++k2,md,out⟩,?_,.inr ⟨⟨y::k2,md+p.length,out++p⟩,?_,?_⟩⟩⟩
 ·show _=yAz _ _;unfold yAz;rw[if_pos hx,if_neg (by omega),yFm (by show(hdK (a++ [y]++k2)).isBad=false;rw[List.append_assoc];exact hK.of ea)];rfl
 ·exact h (a++ [y]++k2) md out a (y::k2) (by simp) ea (by show NoSo y.k;rw[ey];exact⟨rfl,rfl,rfl⟩) (by show C y.k;rw[ey];exact hc) hm
 ·show _=yB5 _;unfold yB5 yAs;rw[if_pos (by show y.k.isSign 41=true;rw[ey];rfl),yFm (by exact hn.1)];rfl
theorem yPt {y:Tk} {md:Nat} {out:List Nd} (ey:y.k=.sign 44) (h:(hdK ks).isBad=false):yC ⟨y::ks,md,out⟩=.ok ⟨ks,md,out⟩:=by unfold yC yAs;rw[if_pos (by show y.k.isSign 44=true;rw[ey];rfl),yFm (by exact h)];rfl
theorem rd_if {K3:List TkK} {p1 p2 p3:List Nd} (h1:Rd C (FilR d) K1 p1) (h2:Rd C (FilR d) K2 p2) (h3:Rd C (FilR d) K3 p3) (hc:C (.sign 41)∧C (.sign 44)) (g1:HdG K1) (g2:HdG K2) (g3:HdG K3):
  Rd Any (yDb (Fd (d+1)) (d+1)) (.word 16:: .sign 40::(K1++(.sign 44::(K2++(.sign 44::(K3++ [.sign 41])))))) (p1++(p2++(p3++ [yAc 16]))):=by
 intro ks md out k1 k2 e1 e2 hn _ hm;obtain⟨w,b,rfl,ew,eb⟩:=List.map_eq_cons_iff.1 e2;obtain⟨x,b,rfl,ex,eb⟩:=List.map_eq_cons_iff.1 eb;obtain⟨a1,b,rfl,ea1,eb⟩:=List.map_eq_append_iff.1 eb;obtain⟨y1,b,rfl,ey1,eb⟩:=List.map_eq_cons_iff.1 eb;obtain⟨a2,b,rfl,ea2,eb⟩:=List.map_eq_append_iff.1 eb;obtain⟨y2,b,rfl,ey2,eb⟩:=List.map_eq_cons_iff.1 eb;obtain⟨a3,b,rfl,ea3,eb⟩:=List.map_eq_append_iff.1 eb;obtain⟨y3,b,rfl,ey3,eb⟩:=List.map_eq_cons_iff.1 eb;obtain rfl:=List.map_eq_nil_iff.1 eb;simp only[List.length_append,List.length_singleton]at hm;subst e1;simp only[List.cons_append,List.append_assoc,List.nil_append];refine .inr (.inl ⟨ew,.inr ⟨_,(yLo (by omega) (by show x.k.isBad=false;rw[ex];rfl)).symm,.inr ⟨⟨k2,md+1+p1.length+p2.length+p3.length,out++p1++p2++p3⟩,?_,?_⟩⟩⟩)
 ·refine .inr ⟨⟨a1++y1::(a2++y2::(a3++y3::k2)),md+1,out⟩,?_,.inr ⟨⟨y1::(a2++y2::(a3++y3::k2)),md+1+p1.length,out++p1⟩,?_,.inr ⟨⟨a2++y2::(a3++y3::k2),md+1+p1.length,out++p1⟩,?_,.inr ⟨⟨y2::(a3++y3::k2),md+1+p1.length+p2.length,out++p1++p2⟩,?_,.inr ⟨⟨a3++y3::k2,md+1+p1.length+p2.length,out++p1++p2⟩,?_,.inr ⟨⟨y3::k2,md+1+p1.length+p2.length+p3.length,out++p1++p2++p3⟩,?_,?_⟩⟩⟩⟩⟩⟩
  ·show _=yAz _ _;unfold yAz;rw[if_pos (by show x.k.isSign 40=true;rw[ex];rfl),if_neg (by omega),yFm (g1.of ea1)];rfl
  ·exact h1 _ _ _ a1 _ rfl ea1 (by show NoSo y1.k;rw[ey1];exact⟨rfl,rfl,rfl⟩) (by show C y1.k;rw[ey1];exact hc.2) (by omega)
  ·exact(yPt ey1 (g2.of ea2)).symm
  ·exact h2 _ _ _ a2 _ rfl ea2 (by show NoSo y2.k;rw[ey2];exact⟨rfl,rfl,rfl⟩) (by show C y2.k;rw[ey2];exact hc.2) (by omega)
  ·exact(yPt ey2 (g3.of ea3)).symm
  ·exact h3 _ _ _ a3 _ rfl ea3 (by show NoSo y3.k;rw[ey3];exact⟨rfl,rfl,rfl⟩) (by show C y3.k;rw[ey3];exact hc.1) (by omega)
  ·show _=yB5 _;unfold yB5 yAs;rw[if_pos (by show y3.k.isSign 41=true;rw[ey3];rfl),yFm (by exact hn.1)];rfl
 ·show Except.ok (Ps.mk _ _ _)=Except.ok (Ps.add _ _);unfold Ps.add;simp only[List.length_append,List.length_singleton,List.append_assoc];rw[show md+(p1.length+(p2.length+(p3.length+1)))=md+1+p1.length+p2.length+p3.length by omega]
theorem yPi (s:ByteArray):¬less s noS:=by
 intro q;unfold less at q;rw[ByteArray.toList_eq,ByteArray.toList_eq]at q;cases hq:s.data.toList with
 |nil=>rw[hq]at q;exact absurd q (by decide)
 |cons a l=>rw[hq]at q;exact absurd q (by simp[Op.bytesLess,noS])
variable {s:ByteArray}
theorem yFq (h:s.toList= []):s=noS:=by
 rw[ByteArray.toList_eq]at h;cases s with
 |mk a=>
  cases a with
  |mk l=>simp at h;subst h;rfl
theorem bl_ne (h:¬s.toList= []):¬bl s= []:=fun q=>h (yDu.1 q)
def endK (strs:Bool) (s:ByteArray) (n:Int):List TkK:=if strs=true then(if s.toList= []then []else [.str s])else(if n=0 then []else [.num n])
variable {strs:Bool} {n:Int}
theorem yPg (hs:s.size≤200) (h0:0≤n) (h1:n<2^64) (h2:strs=true→n=0) (h3:strs=false→s.toList= []):Lx true (endM (bl s) n) (endK strs s n):=by
 unfold endM endK;cases strs with
 |true=>
  rw[if_pos rfl];by_cases h:s.toList= []
  ·rw[if_pos h,if_pos (yDu.2 h),if_pos (h2 rfl)];exact .nil
  ·rw[if_neg h,if_neg (bl_ne h)];exact(yXb hs).weak
 |false=>
  rw[if_neg (show¬((false:Bool)=true)by simp),if_pos (yDu.2 (h3 rfl))];by_cases h:n=0
  ·rw[if_pos h,if_pos h];exact .nil
  ·rw[if_neg h,if_neg h];have:=yXc (n:=n.toNat) (by omega);rw[Int.toNat_of_nonneg h0]at this;exact this
theorem yFs:endK strs s n= []∨∃t,endK strs s n= [t]∧t.isBad=false∧t.isSort strs=true∧t.txt=(if strs=true then s else noS)∧t.nm=(if strs=true then 0 else n):=by
 unfold endK;cases strs with
 |true=>
  rw[if_pos rfl];split
  ·exact .inl rfl
  ·exact .inr ⟨_,rfl,rfl,rfl,rfl,rfl⟩
 |false=>
  rw[if_neg (by simp)];split
  ·exact .inl rfl
  ·exact .inr ⟨_,rfl,rfl,rfl,rfl,rfl⟩
theorem yIy (h:endK strs s n= []):(if strs=true then s else noS)=noS∧(if strs=true then 0 else n)=0:=by
 unfold endK at h;cases strs with
 |true=>
  rw[if_pos rfl]at h;split at h
  ·rename_i q;exact⟨by rw[if_pos rfl];exact yFq q,rfl⟩
  ·cases h
 |false=>
  rw[if_neg (by simp)]at h;split at h
  ·rename_i q;exact⟨by rw[if_neg (by simp)],by rw[if_neg (by simp)];exact q⟩
  ·cases h
variable {a:TkK} {e:Nd}
theorem yX7 (ek:k1.map (·.k)=endK strs e.t e.up) (hn:NoSo (hdK k2))
  (hh:e.hi=true→¬endK strs e.t e.up= []∧(less a.txt (if strs=true then e.t else noS)∨a.nm<(if strs=true then 0 else e.up))) (hl:e.hi=false→endK strs e.t e.up= []):
  upF k strs a (k1++k2)=.ok (k2,⟨k,a.txt,e.hi,(if strs=true then e.t else noS),a.nm,(if strs=true then 0 else e.up),0⟩):=by
 unfold upF;rcases yFs (strs:=strs) (s:=e.t) (n:=e.up)with h|⟨t,h,hb,hs,ht,hm⟩
 ·rw[h]at ek;obtain rfl:=List.map_eq_nil_iff.1 ek;have hi:e.hi=false:=by
   cases q:e.hi with
   |false=>rfl
   |true=>exact absurd h (hh q).1
  obtain⟨z1,z2⟩:=yIy h;rw[List.nil_append,if_neg (by cases strs<;>simp[hn.2.1,hn.2.2]),hi,z1,z2]
 ·rw[h]at ek;obtain⟨x,b,rfl,ex,eb⟩:=List.map_eq_cons_iff.1 ek;obtain rfl:=List.map_eq_nil_iff.1 eb;have hi:e.hi=true:=by
   cases q:e.hi with
   |true=>rfl
   |false=>rw[hl q]at h;cases h
  have hx:hdK ([x]++k2)=t:=ex;rw[hx,if_pos hs,ht,hm,if_pos (hh hi).2,yFm (by exact hn.1),hi];rfl
theorem yKw (ek:k1.map (·.k)=endK strs e.s e.lo++(.sign 46::endK strs e.t e.up)) (hn:NoSo (hdK k2))
  (hh:e.hi=true→¬endK strs e.t e.up= []∧(less (if strs=true then e.s else noS) (if strs=true then e.t else noS)∨(if strs=true then 0 else e.lo)<(if strs=true then 0 else e.up))) (hl:e.hi=false→endK strs e.t e.up= []):
  yB k strs (k1++k2)=.ok (k2,⟨k,(if strs=true then e.s else noS),e.hi,(if strs=true then e.t else noS),(if strs=true then 0 else e.lo),(if strs=true then 0 else e.up),0⟩):=by
 obtain⟨a,b,rfl,ea,eb⟩:=List.map_eq_append_iff.1 ek;obtain⟨y,b,rfl,ey,eb⟩:=List.map_eq_cons_iff.1 eb;have nb:(hdK (b++k2)).isBad=false:=by
  rcases yFs (strs:=strs) (s:=e.t) (n:=e.up)with h|⟨t,h,hb,_⟩
  ·rw[h]at eb;obtain rfl:=List.map_eq_nil_iff.1 eb;exact hn.1
  ·exact HdG.of ⟨t,[],h,hb⟩ eb
 have hdots:∀a:TkK,a.txt=(if strs=true then e.s else noS)→a.nm=(if strs=true then 0 else e.lo)→yFj k strs a (y::(b++k2))=.ok (k2,⟨k,(if strs=true then e.s else noS),e.hi,(if strs=true then e.t else noS),(if strs=true then 0 else e.lo),(if strs=true then 0 else e.up),0⟩):=by intro a h1 h2;unfold yFj yAs;rw[if_pos (by show y.k.isSign 46=true;rw[ey];rfl),yFm (by exact nb)];have:=yX7 (k:=k) (a:=a) eb hn (by rw[h1,h2];exact hh) hl;rw[h1,h2]at this;exact this
 unfold yB;rcases yFs (strs:=strs) (s:=e.s) (n:=e.lo)with h|⟨t,h,hb,hs,ht,hm⟩
 ·rw[h]at ea;obtain rfl:=List.map_eq_nil_iff.1 ea;obtain⟨z1,z2⟩:=yIy h;simp only[List.nil_append,List.cons_append];rw[if_neg (by show¬y.k.isSort strs=true;rw[ey];cases strs<;>simp[TkK.isSort])];exact hdots .fin (by rw[z1];rfl) (by rw[z2];rfl)
 ·rw[h]at ea;obtain⟨x,c,rfl,ex,ec⟩:=List.map_eq_cons_iff.1 ea;obtain rfl:=List.map_eq_nil_iff.1 ec;simp only[List.singleton_append,List.cons_append,List.nil_append];have hx:hdK (x::y::(b++k2))=t:=ex;rw[hx,if_pos hs,yFm (by show y.k.isBad=false;rw[ey];rfl)];exact hdots t ht hm
theorem yE0 (h:yA7 b=false∧yA1 b=false):b::l≠ []∧NxO (b::l):=⟨by simp,fun x hx=>by simp at hx;subst hx;exact h⟩
theorem ySq (h:yAj e) (hn:NumN e) (ha:yAo e.kind=0):∃K,1≤e.kind∧e.kind≤13∧Lx true (yBi e) (.word e.kind::K)∧HdG (K++ [.fin])∧∀k1 k2:List Tk,k1.map (·.k)=K→NoSo (hdK k2)→yDa e.kind (k1++k2)=.ok (k2,e):=by
 obtain⟨kd,s,hi,t,lo,up,n⟩:=e;obtain⟨l0,l1,u0,u1⟩:=hn;obtain⟨hs,ht,hh,hk⟩:=h;simp only at hs ht hh hk l0 l1 u0 u1 ha⊢;have hkd:1≤kd∧kd≤13:=by
  have:¬(kd=14∨kd=15∨kd=16):=by intro q;unfold yAo at ha;rcases q with rfl|rfl|rfl<;>simp at ha
  omega
 have hw:=yZf hkd.1 hkd.2;have hno:∀{c:Bool} {l:List UInt8} {K:List TkK},Lx c l K→Lx c (bl (yA8 kd)++32::l) (.word kd::K):=fun hl=>hw.seq hl.space (fun _=>yE0 (by decide));rcases hk with⟨h1,⟨rfl,h3,rfl,rfl,rfl⟩,h7⟩|⟨h1,⟨rfl,rfl,rfl⟩,h7⟩|⟨h1,⟨h2,h3,rfl⟩,h7⟩|⟨h1,⟨h2,rfl,h3,rfl,rfl⟩,h7,h8⟩|⟨h1,h2,rfl,h3,rfl,rfl,rfl⟩
 ·obtain rfl:=yFq h3;refine⟨[.str s],hkd.1,hkd.2,?_,⟨_,_,rfl,rfl⟩,fun k1 k2 ek nk=>?_⟩
  ·unfold yBi yEd;simp only;rw[if_pos h1,List.singleton_append];exact hno (yXb hs).weak
  ·obtain⟨x,b,rfl,ex,eb⟩:=List.map_eq_cons_iff.1 ek;obtain rfl:=List.map_eq_nil_iff.1 eb;unfold yDa;rw[if_neg (by omega),if_pos (by omega),show hdK ([x]++k2)=.str s from ex];dsimp only;rw[if_pos h7,yFm (by exact nk.1)];rfl
 ·refine⟨endK true s 0++(.sign 46::endK true t 0),hkd.1,hkd.2,?_,?_,fun k1 k2 ek nk=>?_⟩
  ·unfold yBi yEd;simp only;rw[if_neg (by omega),if_pos (by omega)];simp only[List.append_assoc,List.singleton_append];refine hno ?_;refine(yPg (strs:=true) hs (by omega) (by omega) (fun _=>rfl) (by simp)).seq ?_ (fun _=>yE0 (by decide));exact ySi.seq (yPg (strs:=true) ht (by omega) (by omega) (fun _=>rfl) (by simp)) (by simp)
  ·rcases yFs (strs:=true) (s:=s) (n:=0)with q|⟨x,q,qb,_⟩
   ·rw[q];exact⟨_,_,rfl,rfl⟩
   ·rw[q];exact⟨_,_,rfl,qb⟩
  ·have:=yKw (k:=kd) (strs:=true) (e:=⟨kd,s,hi,t,0,0,0⟩) ek nk (fun q=>⟨fun z=>by
     have z1:=(yIy z).1
     simp only[if_pos]at z1
     have z2:=h7 q
     subst z1
     exact yPi s z2,.inl (by simpa using h7 q)⟩) (fun q=>by
     have:=(hh q).1
     unfold endK
     rw[if_pos rfl,if_pos this])
   unfold yDa;rw[if_neg (by omega),if_neg (by omega),if_pos (by omega),this];rfl
 ·obtain rfl:=yFq h2;obtain rfl:=yFq h3;refine⟨endK false noS lo++(.sign 46::endK false noS up),hkd.1,hkd.2,?_,?_,fun k1 k2 ek nk=>?_⟩
  ·unfold yBi yEd;simp only;rw[if_neg (by omega),if_pos (by omega)];simp only[List.append_assoc,List.singleton_append];refine hno ?_;refine(yPg (strs:=false) hs l0 l1 (by simp) (fun _=>h2)).seq ?_ (fun _=>yE0 (by decide));exact ySi.seq (yPg (strs:=false) ht u0 u1 (by simp) (fun _=>h3)) (by simp)
  ·rcases yFs (strs:=false) (s:=noS) (n:=lo)with q|⟨x,q,qb,_⟩
   ·rw[q];exact⟨_,_,rfl,rfl⟩
   ·rw[q];exact⟨_,_,rfl,qb⟩
  ·have:=yKw (k:=kd) (strs:=false) (e:=⟨kd,noS,hi,noS,lo,up,0⟩) ek nk (fun q=>⟨fun z=>by
     have z1:up=0:=by simpa using (yIy z).2
     have z2:=h7 q
     omega,.inr (by simpa using h7 q)⟩) (fun q=>by
     have:=(hh q).2
     unfold endK
     rw[if_neg (by simp),if_pos this])
   unfold yDa;rw[if_neg (by omega),if_neg (by omega),if_neg (by omega),if_pos (by omega),this];rfl
 ·obtain rfl:=yFq h2;obtain rfl:=yFq h3;refine⟨[.num n],hkd.1,hkd.2,?_,⟨_,_,rfl,rfl⟩,fun k1 k2 ek nk=>?_⟩
  ·unfold yBi yEd;simp only;rw[if_neg (by omega),if_neg (by omega),if_pos h1,List.singleton_append];have:=yXc (n:=n.toNat) (by omega);rw[Int.toNat_of_nonneg (by omega)]at this;exact hno this
  ·obtain⟨x,b,rfl,ex,eb⟩:=List.map_eq_cons_iff.1 ek;obtain rfl:=List.map_eq_nil_iff.1 eb;unfold yDa;rw[if_neg (by omega),if_neg (by omega),if_neg (by omega),if_neg (by omega),show hdK ([x]++k2)=.num n from ex];dsimp only;rw[if_pos ⟨h7,h8⟩,yFm (by exact nk.1)];rfl
 ·obtain rfl:=yFq h2;obtain rfl:=yFq h3;refine⟨[],hkd.1,hkd.2,?_,⟨_,_,rfl,rfl⟩,fun k1 k2 ek nk=>?_⟩
  ·unfold yBi yEd;simp only;rw[if_neg (by omega),if_neg (by omega),if_neg (by omega),List.append_nil];exact hw
  ·obtain rfl:=List.map_eq_nil_iff.1 ek;unfold yDa;rw[if_pos (by omega)];rfl
theorem yYz (h:yAj e) (hn:NumN e) (ha:yAo e.kind=0):∃K,Lx true (yBi e) K∧HdG K∧∀F d,Rd Any (yDb F d) K [e]:=by
 obtain⟨K,h1,h2,h3,h4,h5⟩:=ySq h hn ha;refine⟨.word e.kind::K,h3,⟨_,_,rfl,rfl⟩,fun F d ks md out k1 k2 e1 e2 nk _ hm=>?_⟩;obtain⟨x,b,rfl,ex,eb⟩:=List.map_eq_cons_iff.1 e2;subst e1;have hb:(hdK (b++k2)).isBad=false:=by
  cases b with
  |nil=>exact nk.1
  |cons y b=>
   obtain⟨t,L,q,ht⟩:=h4;rw[←eb]at q;simp only[List.map_cons,List.cons_append,List.cons.injEq]at q;show y.k.isBad=false;rw[q.1];exact ht
 refine .inr (.inr (.inl ⟨e.kind,ex,by omega,.inr ⟨_,(yLo (by simp at hm;omega) hb).symm,?_⟩⟩));show _=argF _ _;unfold argF;rw[h5 b k2 eb nk];rfl
inductive All2 {α β:Type} (Q:α→β→Prop):List α→List β→Prop
 |nil:All2 Q [] []
 |cons {a:α} {b:β} {xa:List α} {xb:List β} (h:Q a b) (t:All2 Q xa xb):All2 Q (a::xa) (b::xb)
theorem All2.append {Q:α→β→Prop} {xa:List α} {xb:List β} (h:All2 Q xa xb) {cs:List α} {ds:List β} (k:All2 Q cs ds):All2 Q (xa++cs) (xb++ds):=by
 induction h with
 |nil=>exact k
 |cons h _ ih=>exact .cons h ih
theorem All2.split {Q:α→β→Prop}:∀{xa cs:List α} {xb:List β},All2 Q (xa++cs) xb→∃b1 b2,xb=b1++b2∧All2 Q xa b1∧All2 Q cs b2
 | [],cs,xb,h=>⟨[],xb,rfl,.nil,h⟩
 |a::xa,cs,_,.cons h t=>by
  obtain⟨b1,b2,rfl,h1,h2⟩:=All2.split t
  exact⟨_::b1,b2,rfl,.cons h h1,h2⟩
noncomputable def VV (n:Nd) (os:List (PT×yAx)):PT×yAx:=(yA4 n (os.map (·.1)),yCj goodB n (os.map (·.2)))
variable {ss:List (PT×yAx)} {xs:List Nd}
theorem yX5 (h:TrV VV ss xs):TrV yA4 (ss.map (·.1)) xs:=by exact zzQ81
theorem yUf (h:TrV VV ss xs):ShT goodB (ss.map (·.2)) xs:=by exact zzQ81
abbrev N62 (t:TkK):Prop:=t.isSign 62=false
def Kn (st d:Nat) (K:List TkK) (p:List Nd):Prop:=(st=3→Rd Any (yDb (Fd d) d) K p)∧(2≤st→Rd Any (yOt 62 14 (yDb (Fd d) d)) K p)∧Rd N62 (yOt 124 15 (ChaR (Fd d) d)) K p
variable {st:Nat}
theorem kn_cha (hs:¬st=3) (h:Rd Any (yOt 62 14 (yDb (Fd d) d)) K p):Kn st d K p:=
 ⟨fun q=>absurd q hs,fun _=>h,yYy (yN8 (yIs h) (fun t q=>⟨trivial,q⟩)) 124 15⟩
theorem yOf (h:Rd Any (yDb (Fd d) d) K p):Kn st d K p:=by have h1:=yYy h 62 14;exact⟨fun _=>h,fun _=>h1,yYy (yN8 (yIs h1) (fun t q=>⟨trivial,q⟩)) 124 15⟩
theorem Kn.fil (h:Kn st d K p):Rd (fun t=>N62 t∧t.isSign 124=false) (FilR d) K p:=by rw[yZs];exact yIs h.2.2
def QQ (x:PT×yAx) (p:List Nd):Prop:=x.2.kind=x.1.1∧∃K,Lx true x.1.2 K∧HdG K∧∀d,x.2.nest≤d→Kn (yA3 x.1.1) d K p
variable {x:PT×yAx}
theorem yXa (h:QQ x p) (op:Int) (i:Nat):∃K,Lx true (yAw op i x.1) K∧HdG K∧∀d,x.2.nest+(if yGx op i x.1.1=true then 1 else 0)≤d→Kn (if yGx op i x.1.1=true then 3 else yA3 x.1.1) d K p:=by
 obtain⟨_,K,h1,h2,h3⟩:=h;unfold yAw;by_cases hw:yGx op i x.1.1=true
 ·rw[if_pos hw,if_pos hw,if_pos hw];refine⟨.sign 40::(K++ [.sign 41]),?_,⟨_,_,rfl,rfl⟩,fun d hd=>?_⟩
  ·rw[List.append_assoc];refine(yGz (by simp)).seq (K1:= [.sign 40]) ?_ (by simp);exact h1.seq (yGz (by simp)).weak (fun _=>yE0 (by decide))
  ·obtain⟨d,rfl⟩:∃c,d=c+1:=⟨d-1,by omega⟩;exact yOf (yUs (h3 d (by omega)).fil ⟨rfl,rfl⟩ h2)
 ·rw[if_neg hw,if_neg hw,if_neg hw];exact⟨K,h1,h2,fun d hd=>h3 d (by omega)⟩
variable {n:Nd}
theorem ySr (h:yAj n) (ha:¬yAo n.kind=0):n=yAc n.kind∧(n.kind=14∨n.kind=15∨n.kind=16):=by
 have hk:n.kind=14∨n.kind=15∨n.kind=16:=by
  unfold yAo at ha;by_cases h1:n.kind=14∨n.kind=15
  ·omega
  ·rw[if_neg h1]at ha;by_cases h2:n.kind=16
   ·omega
   ·rw[if_neg h2]at ha;omega
 obtain⟨kd,s,hi,t,lo,up,m⟩:=n;obtain⟨_,_,_,h4⟩:=h;simp only at hk h4⊢;rcases h4 with⟨q,_⟩|⟨q,_⟩|⟨q,_⟩|⟨q,_⟩|⟨q,h2,h3,h5,h6,h7,h8⟩
 ·omega
 ·omega
 ·omega
 ·omega
 ·rw[yFq h2,h3,yFq h5,h6,h7,h8];exact⟨rfl,hk⟩
theorem yZe (n:Nd) (x y:yAx):(yCj goodB n [x,y]).nest=max (max 0 (x.nest+if yBf n.kind 0 x.kind then 1 else 0)) (y.nest+if yBf n.kind 1 y.kind then 1 else 0):=rfl
theorem nest3 (n:Nd) (x y z:yAx):(yCj goodB n [x,y,z]).nest=max (max (max 0 (x.nest+if yBf n.kind 0 x.kind then 1 else 0)) (y.nest+if yBf n.kind 1 y.kind then 1 else 0)) (z.nest+if yBf n.kind 2 z.kind then 1 else 0):=rfl
theorem yP5 {op:Int} (h:¬op=16) (i:Nat) (k:Int):yGx op i k=yBf op i k:=by unfold yGx;rw[if_neg h]
theorem yI4 (k:Int):1≤yA3 k∧yA3 k≤3:=by
 unfold yA3;by_cases h1:k=15
 ·rw[if_pos h1];omega
 ·rw[if_neg h1];by_cases h2:k=14
  ·rw[if_pos h2];omega
  ·rw[if_neg h2];omega
theorem qq_two (hn:n=yAc n.kind) (hk:n.kind=14∨n.kind=15) {y:PT×yAx} {q:List Nd} (hx:QQ x p) (hy:QQ y q):QQ (VV n [x,y]) (p++q++ [n]):=by
 have h16:¬n.kind=16:=by omega
 obtain⟨K1,a1,a2,a3⟩:=yXa hx n.kind 0;obtain⟨K2,b1,b2,b3⟩:=yXa hy n.kind 1;rw[yP5 h16]at a3 b3;have hnest:(VV n [x,y]).2.nest=max (max 0 (x.2.nest+if yBf n.kind 0 x.1.1 then 1 else 0)) (y.2.nest+if yBf n.kind 1 y.1.1 then 1 else 0):=by show(yCj goodB n [x.2,y.2]).nest=_;rw[yZe,hx.1,hy.1]
 have htxt:(VV n [x,y]).1.2=yAw n.kind 0 x.1++(sepM n.kind++yAw n.kind 1 y.1):=by show(yA4 n [x.1,y.1]).2=_;unfold yA4;simp[yBx,h16]
 have hsep:∃b,(b=62∨b=124)∧(n.kind=14→b=62)∧(n.kind=15→b=124)∧sepM n.kind= [32,b,32]:=by
  unfold sepM;rw[if_neg h16];rcases hk with h|h
  ·exact⟨62,.inl rfl,fun _=>rfl,fun q=>by omega,by rw[if_neg (by omega)]⟩
  ·exact⟨124,.inr rfl,fun q=>by omega,fun _=>rfl,by rw[if_pos h]⟩
 obtain⟨b,hb,hb14,hb15,hsep⟩:=hsep;refine⟨rfl,K1++(.sign b::K2),?_,?_,fun d hd=>?_⟩
 ·rw[htxt,hsep];refine a1.seq ?_ (fun _=>yE0 (by decide));refine Lx.space ?_;show Lx true ([b]++(32::yAw n.kind 1 y.1)) ([.sign b]++K2);exact(yGz (by rcases hb with rfl|rfl<;>simp)).seq b1.space (by simp)
 ·obtain⟨t,L,rfl,ht⟩:=a2;exact⟨t,_,rfl,ht⟩
 ·rw[hnest]at hd;have d1:=a3 d (by omega);have d2:=b3 d (by omega);have e:p++q++ [n]=p++(q++ [yAc n.kind]):=by rw[←hn,List.append_assoc]
  rw[e];have s1:=yI4 x.1.1;have s2:=yI4 y.1.1;show Kn (yA3 n.kind) d _ _;rcases hk with h|h
  ·rw[h]at d1 d2⊢;rw[hb14 h];have t1:2≤(if yBf 14 0 x.1.1=true then 3 else yA3 x.1.1):=by
    split
    ·omega
    ·rename_i q;unfold yBf at q;simp[yA3]at q;exact q
   have t2:(if yBf 14 1 y.1.1=true then 3 else yA3 y.1.1)=3:=by
    split
    ·rfl
    ·rename_i q;have z:¬yA3 y.1.1≤2:=fun z=>q (by
      unfold yBf
      rw[show yA3 14=2 from rfl]
      simp[z])
     omega
   exact kn_cha (by decide) (yR0 (d1.2.1 t1) trivial (d2.1 t2) b2)
  ·rw[h]at d1 d2⊢;rw[hb15 h];have t2:2≤(if yBf 15 1 y.1.1=true then 3 else yA3 y.1.1):=by
    split
    ·omega
    ·rename_i q;unfold yBf at q;simp[yA3]at q;exact q
   refine⟨fun q=>absurd q (by decide),fun q=>absurd q (by decide),?_⟩;exact yR0 d1.2.2 rfl (yN8 (yIs (d2.2.1 t2)) (fun t q=>⟨trivial,q⟩)) b2
theorem yUu (hn:n=yAc n.kind) (hk:n.kind=16) {y z:PT×yAx} {q r:List Nd} (hx:QQ x p) (hy:QQ y q) (hz:QQ z r):QQ (VV n [x,y,z]) (p++q++r++ [n]):=by
 obtain⟨hxk,K1,a1,a2,a3⟩:=hx;obtain⟨hyk,K2,b1,b2,b3⟩:=hy;obtain⟨hzk,K3,c1,c2,c3⟩:=hz;have hnest:(VV n [x,y,z]).2.nest=max (max (max 0 (x.2.nest+1)) (y.2.nest+1)) (z.2.nest+1):=by show(yCj goodB n [x.2,y.2,z.2]).nest=_;rw[nest3,hk];simp[yBf]
 have htxt:(VV n [x,y,z]).1.2= [105,102]++([40]++(x.1.2++([44]++(32::(y.1.2++([44]++(32::(z.1.2++ [41])))))))):=by show(yA4 n [x.1,y.1,z.1]).2=_;unfold yA4;simp[yBx,hk,yAw,yGx,sepM]
 refine⟨rfl,.word 16:: .sign 40::(K1++(.sign 44::(K2++(.sign 44::(K3++ [.sign 41]))))),?_,⟨_,_,rfl,rfl⟩,fun d hd=>?_⟩
 ·rw[htxt];refine lx_if.seq (K1:= [.word 16]) ?_ (fun _=>yE0 (by decide));refine(yGz (by simp)).seq (K1:= [.sign 40]) ?_ (by simp);refine a1.seq ?_ (fun _=>yE0 (by decide));refine(yGz (by simp)).seq (K1:= [.sign 44]) (Lx.space ?_) (by simp);refine b1.seq ?_ (fun _=>yE0 (by decide));refine(yGz (by simp)).seq (K1:= [.sign 44]) (Lx.space ?_) (by simp);exact c1.seq (yGz (by simp)).weak (fun _=>yE0 (by decide))
 ·rw[hnest]at hd;obtain⟨d,rfl⟩:∃c,d=c+1:=⟨d-1,by omega⟩;have e:p++q++r++ [n]=p++(q++(r++ [yAc 16])):=by rw[hn,hk];simp
  rw[e];exact yOf (rd_if (a3 d (by omega)).fil (b3 d (by omega)).fil (c3 d (by omega)).fil ⟨⟨rfl,rfl⟩,⟨rfl,rfl⟩⟩ a2 b2 c2)
theorem qq_all (h:TrV VV ss xs) (hg:∀e∈xs,yAj e∧NumN e):∃ps,ps.flatten=xs∧All2 QQ ss ps:=by
 induction h with
 |nil=>exact⟨[],rfl,.nil⟩
 | @snoc ss os xs n ho h ih=>
   obtain⟨ps,hp,hq⟩:=ih (fun e he=>hg e (by simp[he]));obtain⟨pa,pb,rfl,q1,q2⟩:=hq.split;obtain⟨g1,g2⟩:=hg n (by simp);refine⟨pa++ [pb.flatten++ [n]],by rw[←hp];simp,q1.append (.cons ?_ .nil)⟩;by_cases ha:yAo n.kind=0
   ·rw[ha]at ho;obtain rfl:=List.length_eq_zero_iff.1 ho;cases q2
    obtain⟨K,k1,k2,k3⟩:=yYz g1 g2 ha;exact⟨rfl,K,k1,k2,fun d _=>yOf (k3 _ _)⟩
   ·obtain⟨l1,l2⟩:=ySr g1 ha;by_cases h16:n.kind=16
    ·have ho3:os.length=3:=by rw[ho,h16];rfl
     match os,ho3,q2 with
     | [x,y,z],_,.cons hx (.cons hy (.cons hz .nil))=>
       rename_i p q r;have:=yUu l1 h16 hx hy hz;simpa using this
    ·have hk:n.kind=14∨n.kind=15:=by omega
     have ho2:os.length=2:=by rw[ho];rcases hk with h|h<;>rw[h]<;>rfl
     match os,ho2,q2 with
     | [x,y],_,.cons hx (.cons hy .nil)=>
       have:=qq_two l1 hk hx hy;simpa using this
theorem yKr {y:PT} (h:yEu xs) (hn:∀e∈xs,NumN e) (ht:yHy xs y):∃ks s,LexR y.2 0 ks∧ParR ks (.ok s)∧s.out=xs:=by
 have hg:=yHt h;obtain⟨hlen,s,hs,hv,hnest⟩:=h;obtain⟨ss,hl,hss⟩:=IsT.trv VV (ShT.tree goodB hs);match ss,hl with
 | [x],_=>
   have e1:y=x.1:=yMh ht (yX5 hss);have e2:s=x.2:=yW8 hs (yUf hss);obtain⟨ps,hp,hq⟩:=qq_all hss (fun e he=>⟨hg e he,hn e he⟩);cases hq with
   |cons hx t=>
    cases t
    rename_i p;have hpx:p=xs:=by simpa using hp
    subst hpx;obtain⟨_,K,k1,k2,k3⟩:=hx;have k4:=(k3 20 (by rw[←e2];exact hnest)).fil;obtain⟨ks,hk,hm⟩:=k1 [] 0 [⟨.fin,0+x.1.2.length⟩] (fun _ b hb=>by simp at hb) .fin;rw[List.append_nil]at hk;refine⟨ks++ [⟨.fin,0+x.1.2.length⟩],⟨[⟨.fin,0+x.1.2.length⟩],0+p.length,[]++p⟩,by rw[e1];exact hk,.inr ⟨k2.of hm,.inr ⟨_,k4 _ 0 [] ks _ rfl hm ⟨rfl,rfl,rfl⟩ ⟨rfl,rfl⟩ (by omega),?_⟩⟩,by simp⟩;rfl
def TG (ks:List Tk):Prop:=∀k∈ks,k.k.good∨k.k=.fin∨k.k=.bad
theorem yYc (h:Toks ks):TG ks:=by
 induction h with
 |last k h=>intro x hx;simp at hx;subst hx;exact .inr h
 |more k h _ ih=>
  intro x hx;rcases List.mem_cons.1 hx with rfl|hx
  ·exact .inl h
  ·exact ih x hx
theorem TG.tail (h:TG ks):TG ks.tail:=fun k hk=>h k (List.mem_of_mem_tail hk)
theorem TG.hd (h:TG ks):(hdK ks).good∨hdK ks=.fin∨hdK ks=.bad:=by
 cases ks with
 |nil=>exact .inr (.inl rfl)
 |cons k ks=>exact h k (by simp)
variable {ks':List Tk}
theorem yEw (h:yA9 ks=.ok ks'):ks'=ks.tail:=by
 unfold yA9 at h;split at h
 ·cases h
 ·cases h;rfl
theorem yIc (h:yAs b ks=.ok ks'):ks'=ks.tail:=by
 unfold yAs at h;split at h
 ·exact yEw h
 ·cases h
theorem yCu:noS.toList= []:=by rw[ByteArray.toList_eq];rfl
theorem yJn (h:k=1∨k=2∨k=3∨k=14∨k=15∨k=16):yAj (yAc k)∧NumN (yAc k):=
 ⟨⟨by show noS.size≤200;decide,by show noS.size≤200;decide,fun _=>⟨yCu,rfl⟩,.inr (.inr (.inr (.inr ⟨h,yCu,rfl,yCu,rfl,rfl,rfl⟩)))⟩,by show(0:Int)≤0;omega,by show(0:Int)<2^64;omega,by show(0:Int)≤0;omega,by show(0:Int)<2^64;omega⟩
theorem yMk {t:TkK} (h:t.good∨t=.fin∨t=.bad) (strs:Bool) (hs:t.isSort strs=true∨t=.fin):t.txt.size≤200∧0≤t.nm∧t.nm<2^64∧(strs=true→t.nm=0)∧(strs=false→t.txt.toList= []):=by
 cases t with
 |str s=>
  rcases h with h|h|h
  ·refine⟨h,by show(0:Int)≤0;omega,by show(0:Int)<2^64;omega,fun _=>rfl,fun q=>?_⟩;subst q;rcases hs with q|q<;>cases q
  ·cases h
  ·cases h
 |num n=>
  rcases h with h|h|h
  ·refine⟨by show noS.size≤200;decide,h.1,h.2,fun q=>?_,fun _=>yCu⟩;subst q;rcases hs with q|q<;>cases q
  ·cases h
  ·cases h
 |fin=>exact⟨by show noS.size≤200;decide,by show(0:Int)≤0;omega,by show(0:Int)<2^64;omega,fun _=>rfl,fun _=>yCu⟩
 |word k=>rcases hs with q|q<;>cases q
 |sign b=>rcases hs with q|q<;>cases q
 |bad=>rcases hs with q|q<;>cases q
def yW2 (kd:Int) (n:Nd):Prop:=yAj n∧NumN n∧n.kind=kd
theorem yQe (hk:(strs=true∧(kd=8∨kd=9))∨(strs=false∧kd=10)) (ha:a.good∨a=.fin∨a=.bad) (has:a.isSort strs=true∨a=.fin) (ht:TG ks) (h:upF kd strs a ks=.ok (ks',n)):yW2 kd n∧TG ks':=by
 obtain⟨a1,a2,a3,a4,a5⟩:=yMk ha strs has;unfold upF at h;split at h
 ·rename_i hso;obtain⟨b1,b2,b3,b4,b5⟩:=yMk ht.hd strs (.inl hso);split at h
  ·rename_i hlt;cases ht2:yA9 ks with
   |error e=>rw[ht2]at h;cases h
   |ok k2=>
    rw[ht2]at h;cases h
    refine⟨⟨⟨a1,b1,fun q=>(by cases q),?_⟩,⟨a2,a3,b2,b3⟩,rfl⟩,by rw[yEw ht2];exact ht.tail⟩;rcases hk with⟨rfl,hk⟩|⟨rfl,hk⟩
    ·refine .inr (.inl ⟨hk,⟨a4 rfl,b4 rfl,rfl⟩,fun _=>?_⟩);rcases hlt with q|q
     ·exact q
     ·rw[a4 rfl,b4 rfl]at q;omega
    ·refine .inr (.inr (.inl ⟨hk,⟨a5 rfl,b5 rfl,rfl⟩,fun _=>?_⟩));rcases hlt with q|q
     ·rw[yFq (b5 rfl)]at q;exact absurd q (yPi _)
     ·exact q
  ·cases h
 ·cases h
  refine⟨⟨⟨a1,by show noS.size≤200;decide,fun _=>⟨yCu,rfl⟩,?_⟩,⟨a2,a3,by show(0:Int)≤0;omega,by show(0:Int)<2^64;omega⟩,rfl⟩,ht⟩;rcases hk with⟨rfl,hk⟩|⟨rfl,hk⟩
  ·exact .inr (.inl ⟨hk,⟨a4 rfl,rfl,rfl⟩,fun q=>(by cases q)⟩)
  ·exact .inr (.inr (.inl ⟨hk,⟨a5 rfl,yCu,rfl⟩,fun q=>(by cases q)⟩))
theorem yNo (hk:(strs=true∧(kd=8∨kd=9))∨(strs=false∧kd=10)) (ha:a.good∨a=.fin∨a=.bad) (has:a.isSort strs=true∨a=.fin) (ht:TG ks) (h:yFj kd strs a ks=.ok (ks',n)):yW2 kd n∧TG ks':=by
 unfold yFj at h;cases he:yAs 46 ks with
 |error e=>rw[he]at h;cases h
 |ok k2=>
  rw[he]at h;exact yQe hk ha has (by rw[yIc he];exact ht.tail) h
theorem yI7 (hk:(strs=true∧(kd=8∨kd=9))∨(strs=false∧kd=10)) (ht:TG ks) (h:yB kd strs ks=.ok (ks',n)):yW2 kd n∧TG ks':=by
 unfold yB at h;split at h
 ·rename_i hso;cases he:yA9 ks with
  |error e=>rw[he]at h;cases h
  |ok k2=>
   rw[he]at h;exact yNo hk ht.hd (.inl hso) (by rw[yEw he];exact ht.tail) h
 ·exact yNo hk (.inr (.inl rfl)) (.inr rfl) ht h
theorem yTu (h1:1≤kd) (h2:kd≤13) (ht:TG ks) (h:yDa kd ks=.ok (ks',n)):yW2 kd n∧TG ks':=by
 unfold yDa at h;split at h
 ·cases h
  obtain⟨g1,g2⟩:=yJn (k:=kd) (by omega);exact⟨⟨g1,g2,rfl⟩,ht⟩
 split at h
 ·have hg:=ht.hd;cases hk:hdK ks with
  |str s=>
   rw[hk]at h hg;dsimp only at h;split at h
   ·rename_i hc;cases he:yA9 ks with
    |error e=>rw[he]at h;cases h
    |ok k2=>
     rw[he]at h;cases h
     have hs:s.size≤200:=by
      rcases hg with q|q|q
      ·exact q
      ·cases q
      ·cases q
     refine⟨⟨⟨hs,by show noS.size≤200;decide,fun _=>⟨yCu,rfl⟩,.inl ⟨by show kd=4∨kd=5∨kd=6∨kd=7;omega,⟨rfl,yCu,rfl,rfl,rfl⟩,hc⟩⟩,⟨by show(0:Int)≤0;omega,by show(0:Int)<2^64;omega,by show(0:Int)≤0;omega,by show(0:Int)<2^64;omega⟩,rfl⟩,by rw[yEw he];exact ht.tail⟩
   ·cases h
  |_=>rw[hk]at h;cases h
 split at h
 ·exact yI7 (.inl ⟨rfl,by omega⟩) ht h
 split at h
 ·exact yI7 (.inr ⟨rfl,by omega⟩) ht h
 ·cases hk:hdK ks with
  |num m=>
   rw[hk]at h;dsimp only at h;split at h
   ·rename_i hc;cases he:yA9 ks with
    |error e=>rw[he]at h;cases h
    |ok k2=>
     rw[he]at h;cases h
     refine⟨⟨⟨by show noS.size≤200;decide,by show noS.size≤200;decide,fun _=>⟨yCu,rfl⟩,.inr (.inr (.inr (.inl ⟨by show kd=11∨kd=12∨kd=13;omega,⟨yCu,rfl,yCu,rfl,rfl⟩,hc⟩)))⟩,⟨by show(0:Int)≤0;omega,by show(0:Int)<2^64;omega,by show(0:Int)≤0;omega,by show(0:Int)<2^64;omega⟩,rfl⟩,by rw[yEw he];exact ht.tail⟩
   ·cases h
  |_=>rw[hk]at h;cases h
variable {ys:List Nd}
theorem ShT.app {ss:List yAx} (h:ShT goodB ss xs) {ts:List yAx} (k:ShT goodB ts ys):ShT goodB (ss++ts) (xs++ys):=by
 induction k with
 |nil=>simpa using h
 | @snoc ts os ys n ho _ ih=>
   rw[←List.append_assoc,←List.append_assoc];rw[←List.append_assoc]at ih;exact .snoc n ho ih
structure Tre (p:List Nd) (sh:yAx):Prop where
 tr:ShT goodB [sh] p
 ok:sh.valid=true
 nn:∀e∈p,NumN e
def Gd (Q:yAx→Prop) (R:Ps→PR Ps→Prop):Prop:=∀s s1,R s (.ok s1)→TG s.ks→s.made≤200→∃p sh,s1.out=s.out++p∧Tre p sh∧Q sh∧s1.made=s.made+p.length∧s1.made≤200∧TG s1.ks
def Qp (d:Nat) (sh:yAx):Prop:=(yA3 sh.kind=3∧sh.nest≤d)∨sh.nest+1≤d
def Qc (d:Nat) (sh:yAx):Prop:=(2≤yA3 sh.kind∧sh.nest≤d)∨sh.nest+1≤d
def Qf (d:Nat) (sh:yAx):Prop:=sh.nest≤d
theorem yYb (hk:kd=14∨kd=15) {q:List Nd} {a b:yAx} (ha:Tre p a) (hb:Tre q b):Tre (p++(q++ [yAc kd])) (yCj goodB (yAc kd) [a,b]):=by
 obtain⟨g1,g2⟩:=yJn (k:=kd) (by omega);refine⟨?_,?_,?_⟩
 ·have h:=ha.tr.app hb.tr;have:=ShT.snoc (G:=goodB) (ss:= []) (os:= [a,b]) (xs:=p++q) (yAc kd) (by show 2=yAo kd;rcases hk with rfl|rfl<;>rfl) h;rw[List.append_assoc]at this;exact this
 ·show(goodB (yAc kd) && [a,b].all (·.valid))=true;rw[(yFw _).2 g1];simp[ha.ok,hb.ok]
 ·intro e he;rcases List.mem_append.1 he with he|he
  ·exact ha.nn e he
  ·rcases List.mem_append.1 he with he|he
   ·exact hb.nn e he
   ·rw[List.mem_singleton]at he;rw[he];exact g2
theorem yRl {q r:List Nd} {a b c:yAx} (ha:Tre p a) (hb:Tre q b) (hc:Tre r c):Tre (p++(q++(r++ [yAc 16]))) (yCj goodB (yAc 16) [a,b,c]):=by
 obtain⟨g1,g2⟩:=yJn (k:=16) (by omega);refine⟨?_,?_,?_⟩
 ·have h:=(ha.tr.app hb.tr).app hc.tr;have:=ShT.snoc (G:=goodB) (ss:= []) (os:= [a,b,c]) (xs:=p++q++r) (yAc 16) (by show 3=yAo 16;rfl) h;simp only[List.append_assoc]at this;exact this
 ·show(goodB (yAc 16) && [a,b,c].all (·.valid))=true;rw[(yFw _).2 g1];simp[ha.ok,hb.ok,hc.ok]
 ·intro e he;rcases List.mem_append.1 he with he|he
  ·exact ha.nn e he
  ·rcases List.mem_append.1 he with he|he
   ·exact hb.nn e he
   ·rcases List.mem_append.1 he with he|he
    ·exact hc.nn e he
    ·rw[List.mem_singleton]at he;rw[he];exact g2
variable {s:Ps}
theorem yJg (h:yAy s=.ok s1):s.made<200∧s1.made=s.made+1∧s1.out=s.out∧s1.ks=s.ks.tail:=by
 unfold yAy at h;split at h
 ·rename_i hm;cases ht:yA9 s.ks with
  |error e=>rw[ht]at h;cases h
  |ok k2=>
   rw[ht]at h;cases h
   exact⟨hm,rfl,rfl,yEw ht⟩
 ·cases h
theorem yRp {r:PR (List Tk)} (h:s.to r=.ok s1) (hr:∀k,r=.ok k→k=s.ks.tail):s1.made=s.made∧s1.out=s.out∧s1.ks=s.ks.tail:=by
 cases r with
 |error e=>cases h
 |ok k=>cases h;exact⟨rfl,rfl,hr k rfl⟩
theorem yNk (h:yAz d s=.ok s1):¬d=0∧s1.made=s.made∧s1.out=s.out∧s1.ks=s.ks.tail:=by
 unfold yAz at h;split at h
 ·split at h
  ·cases h
  ·rename_i hd;exact⟨hd,yRp h (fun k q=>yEw q)⟩
 ·cases h
theorem yM2 (h:yB5 s=.ok s1):s1.made=s.made∧s1.out=s.out∧s1.ks=s.ks.tail:=yRp h (fun k q=>yIc q)
theorem yNr (h:yC s=.ok s1):s1.made=s.made∧s1.out=s.out∧s1.ks=s.ks.tail:=yRp h (fun k q=>yIc q)
theorem yDi {γ:Type} {A:α→PR β→Prop} {B:β→PR γ→Prop} {s:α} {x:γ} (h:yBp A B s (.ok x)):∃s1,A s (.ok s1)∧B s1 (.ok x):=by
 rcases h with⟨e,_,q⟩|h
 ·cases q
 ·exact h
theorem yJp {f:α→PR β} {s:α} {x:β} (h:fnR f s (.ok x)):f s=.ok x:=Eq.symm h
theorem yZp (hk:kd=14∨kd=15) {Q QJ:yAx→Prop} (hR:Gd Q R) (hQ:∀a b,QJ a→Q b→QJ (yCj goodB (yAc kd) [a,b])) {r:PR Ps} (h:yHz sg kd R s r):∀s1,r=.ok s1→∀out0 md0 p sh,s.out=out0++p→Tre p sh→QJ sh→s.made=md0+p.length→s.made≤200→TG s.ks→
  ∃p' sh',s1.out=out0++p'∧Tre p' sh'∧QJ sh'∧s1.made=md0+p'.length∧s1.made≤200∧TG s1.ks:=by
 induction h with
 |stop h=>
  intro s1 q out0 md0 p sh h1 h2 h3 h4 h5 h6;cases q
  exact⟨p,sh,h1,h2,h3,h4,h5,h6⟩
 |e1 h h1=>intro s1 q;cases q
 |e2 h h1 h2=>intro s1 q;cases q
 | @more s sa sb r h hm hr _ ih=>
   intro s1 q out0 md0 p sh h1 h2 h3 h4 h5 h6;obtain⟨m1,m2,m3,m4⟩:=yJg hm;obtain⟨p2,sh2,e1,e2,e3,e4,e5,e6⟩:=hR sa sb hr (by rw[m4];exact h6.tail) (by omega);refine ih s1 q out0 md0 (p++(p2++ [yAc kd])) _ ?_ (yYb hk h2 e2) (hQ _ _ h3 e3) ?_ e5 e6
   ·show sb.out++ [yAc kd]=_;rw[e1,m3,h1];simp
   ·show sb.made=_;simp only[List.length_append,List.length_singleton];omega
theorem yS5 (hk:kd=14∨kd=15) {Q QJ:yAx→Prop} (hR:Gd Q R) (h0:∀a,Q a→QJ a) (hQ:∀a b,QJ a→Q b→QJ (yCj goodB (yAc kd) [a,b])):Gd QJ (yDf sg kd R):=by intro s s1 h ht hm;obtain⟨s0,h1,h2⟩:=yDi h;obtain⟨p,sh,e1,e2,e3,e4,e5,e6⟩:=hR s s0 h1 ht hm;exact yZp hk hR hQ h2 s1 rfl s.out s.made p sh e1 e2 (h0 _ e3) e4 e5 e6
theorem yZo (hF:0<d→Gd (Qf (d-1)) F):Gd (Qp d) (yDb F d):=by
 intro s s1 h ht hm;rcases h with⟨_,h⟩|⟨_,h⟩|⟨k,hk,h16,h⟩|⟨_,_,h⟩
 ·obtain⟨sa,ha,h⟩:=yDi h;obtain⟨sb,hb,h⟩:=yDi h;obtain⟨a0,a1,a2,a3⟩:=yNk (yJp ha);obtain⟨c1,c2,c3⟩:=yM2 (yJp h);obtain⟨p,sh,e1,e2,e3,e4,e5,e6⟩:=hF (by omega) sa sb hb (by rw[a3];exact ht.tail) (by omega);have e3':sh.nest≤d-1:=e3;exact⟨p,sh,by rw[c2,e1,a2],e2,.inr (by omega),by omega,by omega,by rw[c3];exact e6.tail⟩
 ·obtain⟨sm,hsm,h⟩:=yDi h;obtain⟨sx,h,hx⟩:=yDi h;obtain⟨sa,ha,h⟩:=yDi h;obtain⟨s2,h2,h⟩:=yDi h;obtain⟨s3,h3,h⟩:=yDi h;obtain⟨s4,h4,h⟩:=yDi h;obtain⟨s5,h5,h⟩:=yDi h;obtain⟨s6,h6,h⟩:=yDi h;obtain⟨m1,m2,m3,m4⟩:=yJg (yJp hsm);obtain⟨a0,a1,a2,a3⟩:=yNk (yJp ha);have hd:0<d:=by omega
  obtain⟨p,sp,p1,p2,p3,p4,p5,p6⟩:=hF hd sa s2 h2 (by rw[a3,m4];exact ht.tail.tail) (by omega);obtain⟨b1,b2,b3⟩:=yNr (yJp h3);obtain⟨q,sq,q1,q2,q3,q4,q5,q6⟩:=hF hd s3 s4 h4 (by rw[b3];exact p6.tail) (by omega);obtain⟨c1,c2,c3⟩:=yNr (yJp h5);obtain⟨r,sr,r1,r2,r3,r4,r5,r6⟩:=hF hd s5 s6 h6 (by rw[c3];exact q6.tail) (by omega);obtain⟨d1,d2,d3⟩:=yM2 (yJp h);have hx2:=yJp hx;cases hx2
  have p3':sp.nest≤d-1:=p3;have q3':sq.nest≤d-1:=q3;have r3':sr.nest≤d-1:=r3;refine⟨p++(q++(r++ [yAc 16])),_,?_,yRl p2 q2 r2,.inl ⟨rfl,?_⟩,?_,?_,?_⟩
  ·show sx.out++ [yAc 16]=_;rw[d2,r1,c2,q1,b2,p1,a2,m3];simp
  ·rw[nest3];simp[yBf,yAc];omega
  ·show sx.made=_;simp only[List.length_append,List.length_singleton];omega
  ·show sx.made≤200;omega
  ·show TG sx.ks;rw[d3];exact r6.tail
 ·obtain⟨sm,hsm,h⟩:=yDi h;obtain⟨m1,m2,m3,m4⟩:=yJg (yJp hsm);have hkd:1≤k∧k≤13:=by
   have:=ht.hd;rw[hk]at this;rcases this with(q|q)|q|q
   ·exact q
   ·exact absurd q h16
   ·cases q
   ·cases q
  have h2:=yJp h;unfold argF at h2;cases ha:yDa k sm.ks with
  |error e=>rw[ha]at h2;cases h2
  |ok x=>
   obtain⟨ks',n⟩:=x;rw[ha]at h2;cases h2
   obtain⟨⟨g1,g2,g3⟩,g4⟩:=yTu hkd.1 hkd.2 (by rw[m4];exact ht.tail) ha;have har:yAo n.kind=0:=by rw[g3];unfold yAo;rw[if_neg (by omega),if_neg (by omega)]
   refine⟨[n],yCj goodB n [],by rw[←m3],⟨?_,?_,?_⟩,.inl ⟨?_,?_⟩,?_,?_,g4⟩
   ·exact ShT.snoc (G:=goodB) (ss:= []) (os:= []) (xs:= []) n har.symm .nil
   ·show(goodB n && ([]:List yAx).all (·.valid))=true;rw[(yFw _).2 g1];rfl
   ·intro e he;rw[List.mem_singleton]at he;rw[he];exact g2
   ·show yA3 n.kind=3;rw[g3];unfold yA3;rw[if_neg (by omega),if_neg (by omega)]
   ·exact Nat.zero_le _
   ·show sm.made=_;simp;omega
   ·show sm.made≤200;omega
 ·cases h
theorem gd_cha (hF:0<d→Gd (Qf (d-1)) F):Gd (Qc d) (ChaR F d):=by
 refine yS5 (.inl rfl) (yZo hF) (fun a h=>?_) (fun a b ha hb=>?_)
 ·rcases h with⟨h1,h2⟩|h
  ·exact .inl ⟨by omega,h2⟩
  ·exact .inr h
 ·refine .inl ⟨by show 2≤yA3 14;decide,?_⟩;rw[yZe];have la:(yBf 14 0 a.kind=true→yA3 a.kind<2):=fun q=>by unfold yBf at q;rw[show yA3 14=2 from rfl]at q;simpa using q
  have lb:(yBf 14 1 b.kind=true→yA3 b.kind≤2):=fun q=>by unfold yBf at q;rw[show yA3 14=2 from rfl]at q;simpa using q
  show max (max 0 (a.nest+if yBf 14 0 a.kind=true then 1 else 0)) (b.nest+if yBf 14 1 b.kind=true then 1 else 0)≤d;have e1:a.nest+(if yBf 14 0 a.kind=true then 1 else 0)≤d:=by
   split
   ·rename_i q;rcases ha with⟨h1,h2⟩|h
    ·have:=la q;omega
    ·exact h
   ·rcases ha with⟨h1,h2⟩|h
    ·exact h2
    ·omega
  have e2:b.nest+(if yBf 14 1 b.kind=true then 1 else 0)≤d:=by
   split
   ·rename_i q;rcases hb with⟨h1,h2⟩|h
    ·have:=lb q;omega
    ·exact h
   ·rcases hb with⟨h1,h2⟩|h
    ·exact h2
    ·omega
  omega
theorem yS6 (hF:0<d→Gd (Qf (d-1)) F):Gd (Qf d) (yDf 124 15 (ChaR F d)):=by
 refine yS5 (.inr rfl) (gd_cha hF) (fun a h=>?_) (fun a b ha hb=>?_)
 ·rcases h with⟨h1,h2⟩|h
  ·exact h2
  ·show a.nest≤d;omega
 ·show(yCj goodB (yAc 15) [a,b]).nest≤d;rw[yZe];have ha':a.nest≤d:=ha;have la:yBf 15 0 a.kind=false:=by unfold yBf;have:=yI4 a.kind;rw[show yA3 15=1 from rfl];simp;omega
  have lb:(yBf 15 1 b.kind=true→yA3 b.kind≤1):=fun q=>by unfold yBf at q;rw[show yA3 15=1 from rfl]at q;simpa using q
  show max (max 0 (a.nest+if yBf 15 0 a.kind=true then 1 else 0)) (b.nest+if yBf 15 1 b.kind=true then 1 else 0)≤d;rw[la];have e2:b.nest+(if yBf 15 1 b.kind=true then 1 else 0)≤d:=by
   split
   ·rename_i q;rcases hb with⟨h1,h2⟩|h
    ·have:=lb q;omega
    ·exact h
   ·rcases hb with⟨h1,h2⟩|h
    ·exact h2
    ·omega
  simp only[Bool.false_eq_true,if_false];omega
theorem yXf:∀d,Gd (Qf d) (FilR d)
 |0=>yS6 (fun q=>absurd q (Nat.lt_irrefl _))
 |d+1=>yS6 (fun _=>yXf d)
theorem yJb (hT:Toks ks) (h:ParR ks (.ok s)):yEu s.out∧∀e∈s.out,NumN e:=by
 rcases h with⟨_,h⟩|⟨_,h⟩
 ·cases h
 ·obtain⟨s1,h1,h2⟩:=yDi h;obtain⟨p,sh,e1,e2,e3,e4,e5,e6⟩:=yXf 20 _ _ h1 (yYc hT) (Nat.zero_le _);have h3:=yJp h2;unfold endF at h3;split at h3
  ·cases h3
   rw[e1];simp only[List.nil_append];refine⟨⟨?_,sh,e2.tr,e2.ok,e3⟩,e2.nn⟩;have:s.made=0+p.length:=e4;omega
  ·cases h3
variable {R:List Nd}
theorem yFk.sli (h:yFk w base u R):∃a n c,u=.slice a n c:=by
 rcases h with⟨rfl,_⟩|⟨g,cp,rfl,_⟩
 ·exact⟨_,_,_,rfl⟩
 ·exact⟨_,_,_,rfl⟩
def yKp (t:List UInt8) (c a:Int) (ns:List Nd):Prop:=
 (4000<t.length∧c=1∧a=0∧ns= [])∨(t.length≤4000∧∃ks,LexR t 0 ks∧((yAl (⟨ks,0,[],[],true⟩:Ms) (.ok ns)∧c=0∧a=0)∨∃p:Nat,yAl (⟨ks,0,[],[],true⟩:Ms) (.error (c,p))∧a=(p:Int)∧1≤c∧ns= []))
variable {t:List UInt8} {ns:List Nd}
theorem yKp.one {c a c' a':Int} {ns':List Nd} (h:yKp t c a ns) (k:yKp t c' a' ns'):c=c'∧a=a'∧ns=ns':=by
 rcases h with⟨h1,rfl,rfl,rfl⟩|⟨h1,ks,hk,h2⟩
 ·rcases k with⟨_,rfl,rfl,rfl⟩|⟨k1,_⟩
  ·exact⟨rfl,rfl,rfl⟩
  ·omega
 ·rcases k with⟨k1,_⟩|⟨k1,ks',hk',k2⟩
  ·omega
  ·obtain rfl:=hk.one hk';rcases h2 with⟨e1,rfl,rfl⟩|⟨p,e1,rfl,_,rfl⟩
   ·rcases k2 with⟨f1,rfl,rfl⟩|⟨q,f1,rfl,_,rfl⟩
    ·have:=e1.one f1;cases this
     exact⟨rfl,rfl,rfl⟩
    ·have:=e1.one f1;cases this
   ·rcases k2 with⟨f1,rfl,rfl⟩|⟨q,f1,rfl,_,rfl⟩
    ·have:=e1.one f1;cases this
    ·have:=e1.one f1;cases this
     exact⟨rfl,rfl,rfl⟩
def ResU (base:Nat) (c a:Int) (ns:List Nd) (v:Value) (w':World):Prop:=∃oa on oc,v=.agg #[.int .i64 c,.int .i64 a,.slice oa on oc]∧yFk w' base (.slice oa on oc) ns
theorem SfR.ans {v:Value} (h:SfR base t v w'):∃c a ns,yKp t c a ns∧ResU base c a ns v w':=by
 obtain⟨c,a,nv,rfl,⟨h1,rfl,rfl,rfl⟩|⟨h1,ks,hk,⟨ns,go,co,hM,rfl,rfl,rfl,hO⟩|⟨p,hM,rfl,hc,rfl⟩⟩⟩:=h
 ·exact⟨1,0,[],.inl ⟨h1,rfl,rfl,rfl⟩,_,_,_,rfl,.inl ⟨rfl,rfl⟩⟩
 ·exact⟨0,0,ns,.inr ⟨h1,ks,hk,.inl ⟨hM,rfl,rfl⟩⟩,_,_,_,rfl,.inr ⟨go,co,rfl,hO⟩⟩
 ·exact⟨c,p,[],.inr ⟨h1,ks,hk,.inr ⟨p,hM,rfl,hc,rfl⟩⟩,_,_,_,rfl,.inl ⟨rfl,rfl⟩⟩
theorem yMv {v:Value} (h:w.ownsRow base 65 7 v R.length (yBn R)) (hne:¬R= []):yFk w base v R:=by
 rcases h.2 with⟨h0,hz⟩|⟨g',cap',cur,hv,_⟩
 ·exfalso;exact hne (List.length_eq_zero_iff.1 hz)
 ·exact .inr ⟨g',cap',hv,by rw[hv]at h;exact h⟩
theorem yIw (h:yEu R):¬R= []:=by obtain⟨_,s,hs,_⟩:=h;have h1:=(ShT.tree goodB hs).len;intro q;subst q;simp at h1
theorem PfR.ans {v:Value} (h:PfR base t v w'):∃c a ns,yKp t c a ns∧ResU base c a ns v w'∧ns.length≤200000:=by
 obtain⟨c,a,nv,rfl,⟨h1,rfl,rfl,rfl⟩|⟨h1,ks,hk,⟨s1,hP,rfl,rfl,hO,hl⟩|⟨p,hP,rfl,hc,rfl⟩⟩⟩:=h
 ·exact⟨1,0,[],.inl ⟨h1,rfl,rfl,rfl⟩,⟨_,_,_,rfl,.inl ⟨rfl,rfl⟩⟩,by simp⟩
 ·have hg:=(yJb hk.toks hP).1;have hU:=yMv hO (yIw hg);obtain⟨oa,on,oc,rfl⟩:=hU.sli;exact⟨0,0,s1.out,.inr ⟨h1,ks,hk,.inl ⟨yGc hP,rfl,rfl⟩⟩,⟨_,_,_,rfl,hU⟩,hl⟩
 ·exact⟨c,p,[],.inr ⟨h1,ks,hk,.inr ⟨p,yGc hP,rfl,hc,rfl⟩⟩,⟨_,_,_,rfl,.inl ⟨rfl,rfl⟩⟩,by simp⟩
theorem yPs {b:Nat} {xs:List UInt8} (h:yAe w b off xs):(convert 22 9 (.slice (some ⟨b,off,none⟩) xs.length cap)).run Tryz.prog w=.ok (.string ⟨xs.toArray⟩) w:=by refine run_convert_bytes_back (P:=Tryz.prog) w 22 9 5 ⟨b,off,none⟩ cap xs Tryz.underlying22 Tryz.underlying5 Tryz.underlying9 ?_;intro i hi;rw[Addr.add_mid,h i xs[i] (List.getElem?_eq_getElem hi)]
theorem yM1 (b off cap b' off' cap':Nat) (xs:List UInt8) (w:World) (h:yAe w b off xs) (h':yAe w b' off' xs):
  Calls Tryz.prog 18 #[.slice (some ⟨b,off,none⟩) xs.length cap,.slice (some ⟨b',off',none⟩) xs.length cap'] w fun e w'=>e=.returned (.bool true)∧Below w.heap.size w w':=by
 have c1:=yPs (cap:=cap) h;have c2:=yPs (cap:=cap') h';clear h h';go_enter Tryz.func18,Tryz.ntmps18;go_wp2_with fail;go_ret;exact⟨by simp,Below.refl _ _⟩
structure QwI (w0:World) (tf b o c nf g cp nr:Nat) (ys:List Nd) (R:List UInt8) (w:World):Prop where
 bf:yA w w0.heap.size 25 1 tf [.slice (some ⟨b,o,none⟩) nf c]
 wd:WdN w b o c ys
 ok:∀e∈ys,e.ok
 tx:OwnY w w0.heap.size g cp R
 gl:Gl w
 wds:yGk w
 er:yF6 w
 below:Below w0.heap.size w0 w
 lf:nf=ys.length
 lr:nr=R.length
 hB:7≤w0.heap.size
variable {R:List UInt8}
theorem QwI.up {w0:World} {tf b o c nf g cp nr:Nat} (h:QwI w0 tf b o c nf g cp nr ys R w) (hb:Below w.heap.size w w'):QwI w0 tf b o c nf g cp nr ys R w':=
 ⟨h.bf.below hb,h.wd.below hb h.wd.lt,h.ok,h.tx.below hb,h.gl.on hb (Nat.le_trans h.hB h.below.size),h.wds.chg (S:=fun _=>False) (Chg.of_below hb) (fun q=>q),h.er.chg (S:=fun _=>False) (Chg.of_below hb) (fun q=>q),h.below.trans (hb.mono h.below.size),h.lf,h.lr,h.hB⟩
theorem yW0 (hG:yEu ys) (hok:∀e∈ys,e.ok) (hP:yOs ys R) (hl:R.length≤4000):yKp R 0 0 ys:=by
 rcases hP with⟨q,_⟩|⟨_,k,hT⟩
 ·exact absurd hG q
 ·obtain⟨ks,s,h1,h2,h3⟩:=yKr hG (fun e he=>yHf (hok e he)) hT;have h4:=yGc h2;have h5:yAl (⟨ks,0,[],[],true⟩:Ms) (.ok s.out):=h4;rw[h3]at h5;exact .inr ⟨hl,ks,h1,.inl ⟨h5,rfl,rfl⟩⟩
def TxD (t:List UInt8) (w:World) (e:Ending) (w':World):Prop:=∃g o cp,e=.returned (.slice (some ⟨g,o,none⟩) t.length cp)∧Hid (yAe w' g o t∧g<w'.heap.size∧t.length≤cp∧cp≤maxLen)∧Below w.heap.size w w'
def DrwC (w:World) (v:Value) (t:List UInt8):Prop:=t.length≤1000000000∧∀W,Below w.heap.size w W→Calls Tryz.prog 20 #[v] W (TxD t W)
theorem yRc {x:Int} (h:0≤x∧x<2^64):(Lit.int .u64 x).wf=true:=by exact zzQ87
theorem yZn (h:yAj e) (hn:NumN e):e.ok:=by
 obtain⟨hs,ht,_,hk⟩:=h;obtain⟨l0,l1,u0,u1⟩:=hn;have hki:1≤e.kind∧e.kind≤16∧0≤e.n∧e.n≤1000:=by rcases hk with⟨q,⟨_,_,_,_,q2⟩,_⟩|⟨q,⟨_,_,q2⟩,_⟩|⟨q,⟨_,_,q2⟩,_⟩|⟨q,_,q2,q3⟩|⟨q,_,_,_,_,_,q2⟩<;>omega
 have hm:(200:Nat)≤maxLen:=by unfold maxLen;omega
 refine⟨by omega,by omega,?_,?_,?_,?_⟩
 ·exact yOu ⟨by omega,by omega⟩
 ·exact yRc ⟨l0,l1⟩
 ·exact yRc ⟨u0,u1⟩
 ·exact yOu ⟨by omega,by omega⟩
theorem PfR.good {v:Value} (h:PfR base t v w'):∃c a ns,yKp t c a ns∧ResU base c a ns v w'∧ns.length≤200000∧(c=0→yEu ns∧∀e∈ns,e.ok):=by
 obtain⟨c,a,nv,rfl,⟨h1,rfl,rfl,rfl⟩|⟨h1,ks,hk,⟨s1,hP,rfl,rfl,hO,hl⟩|⟨p,hP,rfl,hc,rfl⟩⟩⟩:=h
 ·exact⟨1,0,[],.inl ⟨h1,rfl,rfl,rfl⟩,⟨_,_,_,rfl,.inl ⟨rfl,rfl⟩⟩,by simp,fun q=>absurd q (by decide)⟩
 ·have hg:=yJb hk.toks hP;have hU:=yMv hO (yIw hg.1);obtain⟨oa,on,oc,rfl⟩:=hU.sli;exact⟨0,0,s1.out,.inr ⟨h1,ks,hk,.inl ⟨yGc hP,rfl,rfl⟩⟩,⟨_,_,_,rfl,hU⟩,hl,fun _=>⟨hg.1,fun e he=>yZn (yHt hg.1 e he) (hg.2 e he)⟩⟩
 ·exact⟨c,p,[],.inr ⟨h1,ks,hk,.inr ⟨p,yGc hP,rfl,hc,rfl⟩⟩,⟨_,_,_,rfl,.inl ⟨rfl,rfl⟩⟩,by simp,fun q=>by omega⟩
theorem xAd {c a:Int} (h:yKp t c a ns) (hc:¬c=0):ns= []:=by
 rcases h with⟨_,_,_,h⟩|⟨_,ks,_,⟨_,q,_⟩|⟨p,_,_,_,h⟩⟩
 ·exact h
 ·exact absurd q hc
 ·exact h
theorem yYg (hG:yEu ys) (hok:∀e∈ys,e.ok) (hP:yOs ys R):0<R.length:=by
 rcases hP with⟨q,_⟩|⟨_,k,hT⟩
 ·exact absurd hG q
 ·obtain⟨ks,s,h1,h2,h3⟩:=yKr hG (fun e he=>yHf (hok e he)) hT;cases R with
  |cons b R=>simp
  |nil=>
   exfalso;have h1':LexR [] 0 ks:=h1;cases h1'
   have h4:yAl (⟨[⟨.fin,0⟩],0,[],[],true⟩:Ms) (.ok s.out):=yGc h2;have h5:yAl (⟨[⟨.fin,0⟩],0,[],[],true⟩:Ms) (.error (3,0)):=.fin rfl;have:=h4.one h5;cases this
theorem yOw {oa:Option Addr} {on oc:Nat} {R:List Nd} (h:yFk w base (.slice oa on oc) R):on=R.length:=by
 rcases h with⟨q,rfl⟩|⟨g,cp,q,_⟩
 ·cases q;rfl
 ·cases q;rfl
theorem yRf {oa:Option Addr} {on oc:Nat} {R:List Nd} (h:yFk w base (.slice oa on oc) R) (hne:¬R= []):∃gu,oa=some ⟨gu,0,none⟩∧yAu w base gu oc R:=by
 rcases h with⟨_,q⟩|⟨g,cp,q,hO⟩
 ·exact absurd q hne
 ·cases q;exact⟨g,rfl,hO⟩
structure ZwI (w0:World) (tw tr gw cw gr cr nn:Nat) (ns:List Nd) (w:World):Prop where
 bw:yA w w0.heap.size 27 3 tw [.int .i64 0,.int .i64 0,.slice (some ⟨gw,0,none⟩) nn cw]
 br:yA w w0.heap.size 27 3 tr [.int .i64 0,.int .i64 0,.slice (some ⟨gr,0,none⟩) nn cr]
 nw:WdN w gw 0 cw ns
 nr:WdN w gr 0 cr ns
 gl:Gl w
 wds:yGk w
 er:yF6 w
 below:Below w0.heap.size w0 w
 ln:nn=ns.length
 hB:7≤w0.heap.size
theorem ZwI.up {w0:World} {tw tr gw cw gr cr nn:Nat} (h:ZwI w0 tw tr gw cw gr cr nn ns w) (hb:Below w.heap.size w w'):ZwI w0 tw tr gw cw gr cr nn ns w':=
 ⟨h.bw.below hb,h.br.below hb,h.nw.below hb h.nw.lt,h.nr.below hb h.nr.lt,h.gl.on hb (Nat.le_trans h.hB h.below.size),h.wds.chg (S:=fun _=>False) (Chg.of_below hb) (fun q=>q),h.er.chg (S:=fun _=>False) (Chg.of_below hb) (fun q=>q),h.below.trans (hb.mono h.below.size),h.ln,h.hB⟩
theorem yKl (a0:Option Addr) (n0 cap0:Nat) (t:List UInt8) (w:World) (hr0:n0≤9223372036854775807) (hD:n0≤1048576→DrwC w (.slice a0 n0 cap0) t) (hGl:Gl w) (hWd:yGk w) (hEr:yF6 w) (hB:7≤w.heap.size):Calls Tryz.prog 5 #[.slice a0 n0 cap0] w fun e w'=>e=.returned (.bool true)∧Below w.heap.size w w':=by
 have HI:Hid (Gl w∧(∀w',Below w.heap.size w w'→yGk w'∧yF6 w')∧7≤w.heap.size):=⟨hGl,fun w' hb=>⟨hWd.chg (S:=fun _=>False) (Chg.of_below hb) (fun q=>q),hEr.chg (S:=fun _=>False) (Chg.of_below hb) (fun q=>q)⟩,hB⟩;clear hGl hWd hEr hB;by_cases hbig:1048576<n0
 ·have z:(1048576:Int)<(n0:Int):=by omega
  clear hD;go_enter Tryz.func5,Tryz.ntmps5;go_wp2_with fail;go_ret;exact⟨rfl,Below.refl _ _⟩
 have z:¬(1048576:Int)<(n0:Int):=by omega
 have HD:Hid (∀W,Below w.heap.size w W→Calls Tryz.prog 20 #[.slice a0 n0 cap0] W (TxD t W)):=(hD (by omega)).2;have htl:t.length≤1000000000:=(hD (by omega)).1;clear hD;go_enter Tryz.func5,Tryz.ntmps5;go_wp2_with fail;refine(HD.out w (Below.refl _ _)).mono ?_;rintro e w1 ⟨g1,o1,c1,rfl,K1,hb1⟩;obtain⟨tn,htn⟩:=qE t.length;have HTN:Hid (tn=t.length):=htn;rw[←htn]at htl⊢;clear htn;have HS1:Hid (Calls Tryz.prog 6 #[.slice (some ⟨g1,o1,none⟩) tn c1] w1 (SfP t w1)):=yKg K1.out.1 K1.out.2.1 HTN.out (by omega) (by rw[HTN.out];exact K1.out.2.2.1) K1.out.2.2.2;have k1:Hid (Below w.heap.size w w1):=hb1;clear K1 hb1;go_wp2_with fail;refine HS1.mono ?_;clear HS1;rintro e w2 ⟨v2,rfl,hb2,hS2⟩;obtain⟨ce,ca,ns,hM,ua,un,uc,rfl,hU⟩:=hS2.ans;have HA:Hid (yKp t ce ca ns):=hM;have k2:Hid (Below w.heap.size w w2):=k1.out.trans (hb2.mono k1.out.size);obtain⟨W2,hW2⟩:∃V:World,V=w2.alloc (Obj.cells #[.int .i64 ce,.int .i64 ca,.slice ua un uc] 27):=⟨_,rfl⟩;obtain⟨tw,htw⟩:=qE w2.heap.size;have H2:Hid (yA W2 w.heap.size 27 3 tw [.int .i64 ce,.int .i64 ca,.slice ua un uc]∧yFk W2 w1.heap.size (.slice ua un uc) ns∧Below w.heap.size w W2):=by
  have hb:Below w2.heap.size w2 W2:=by rw[hW2];exact qB
  exact⟨by rw[htw,hW2];exact yAb w2 _ k2.out.size rfl,hU.below hb,k2.out.trans (hb.mono k2.out.size)⟩
 have HD2:Hid (Calls Tryz.prog 20 #[.slice a0 n0 cap0] W2 (TxD t W2)):=HD.out W2 H2.2.2;clear hM hS2 hU hb2 k1 k2 HD;go_upto_region 4 with fail;rw[←hW2,←htw];clear hW2 htw;go_wp2_with fail;refine HD2.mono ?_;clear HD2;rintro e w3 ⟨g3,o3,c3,rfl,K3,hb3⟩;rw[←HTN.out];have k3:Below w.heap.size w w3:=H2.2.2.trans (hb3.mono H2.2.2.size)
 have HS3:Hid (Calls Tryz.prog 8 #[.slice (some ⟨g3,o3,none⟩) tn c3] w3 (fun e w'=>PfP t w3 e w')):=
  yGr K3.out.1 K3.out.2.1 HTN.out (by omega) (by rw[HTN.out];exact K3.out.2.2.1) K3.out.2.2.2 (Nat.le_trans HI.2.2 k3.size) (HI.2.1 w3 k3).1 (HI.2.1 w3 k3).2
 have H3:Hid (yA w3 w.heap.size 27 3 tw [.int .i64 ce,.int .i64 ca,.slice ua un uc]∧yFk w3 w1.heap.size (.slice ua un uc) ns∧Below w.heap.size w w3):=⟨H2.1.below hb3,H2.2.1.below hb3,k3⟩;clear K3 hb3 k3 H2;go_wp2_with fail;refine HS3.mono ?_;clear HS3;rintro e w4 ⟨v4,rfl,hb4,hS4⟩;obtain⟨ce',ca',ns',hM',⟨ia,in_,ic,rfl,hU'⟩,hl',hgood⟩:=hS4.good;obtain⟨rfl,rfl,rfl⟩:=hM'.one HA.out;obtain⟨W4,hW4⟩:∃V:World,V=w4.alloc (Obj.cells #[.int .i64 ce',.int .i64 ca',.slice ia in_ ic] 27):=⟨_,rfl⟩;obtain⟨tr,htr⟩:=qE w4.heap.size;have H4:Hid (yA W4 w.heap.size 27 3 tw [.int .i64 ce',.int .i64 ca',.slice ua un uc]∧yFk W4 w1.heap.size (.slice ua un uc) ns'∧yA W4 w.heap.size 27 3 tr [.int .i64 ce',.int .i64 ca',.slice ia in_ ic]∧yFk W4 w3.heap.size (.slice ia in_ ic) ns'∧Below w.heap.size w W4):=by
  have hb:Below w4.heap.size w4 W4:=by rw[hW4];exact qB
  have k4:=H3.2.2.trans (hb4.mono H3.2.2.size);exact⟨(H3.1.below hb4).below hb,(H3.2.1.below hb4).below hb,by rw[htr,hW4];exact yAb w4 _ k4.size rfl,hU'.below hb,k4.trans (hb.mono k4.size)⟩
 have HG:Hid ((ce'=0→yEu ns'∧∀e∈ns',e.ok)∧yKp t ce' ca' ns'∧ns'.length≤200000):=⟨hgood,hM',hl'⟩;clear hM' hS4 hU' hb4 hl' hgood H3 HA;go_upto_region 5 with fail;rw[←hW4,←htr];clear hW4 htr;obtain⟨p0,p1,p2⟩:=H4.1.c3;obtain⟨q0,q1,q2⟩:=H4.2.2.1.c3;by_cases hc:ce'=0;case neg=>
  have zc:(ce'==0)=false:=by rw[beq_eq_false_iff_ne];exact hc
  have hin:in_=0:=by rw[yOw H4.2.2.2.1,xAd HG.2.1 hc];rfl
  have zi:((in_:Int)==0)=true:=by rw[beq_iff_eq];omega
  have HX:Hid (Below w.heap.size w W4):=H4.2.2.2.2;clear hc hin HG;go_wp2_with fail;go_ret;exact⟨rfl,HX.out⟩
 case pos=>
 subst hc;have hca:ca'=0:=by
  rcases HG.2.1 with⟨_,q,_⟩|⟨_,ks,_,⟨_,_,q⟩|⟨p,_,_,q,_⟩⟩
  ·exact absurd q (by decide)
  ·exact q
  ·omega
 subst hca;have hgf:=HG.1 rfl;have hne:=yIw hgf.1;obtain⟨gw,rfl,hOw⟩:=yRf H4.2.1 hne;obtain⟨gr,rfl,hOr⟩:=yRf H4.2.2.2.1 hne;obtain⟨nn,hnn⟩:=qE ns'.length;have hun:un=nn:=by rw[hnn];exact yOw H4.2.1
 have hin:in_=nn:=by rw[hnn];exact yOw H4.2.2.2.1
 subst hun;subst hin;have HZ:Hid (ZwI w tw tr gw uc gr ic in_ ns' W4):=by have h4:=H4.out;exact⟨h4.1,h4.2.2.1,hOw.wd,hOr.wd,HI.1.on h4.2.2.2.2 HI.2.2,(HI.2.1 W4 h4.2.2.2.2).1,(HI.2.1 W4 h4.2.2.2.2).2,h4.2.2.2.2,hnn,HI.2.2⟩
 have HF:Hid (yEu ns'∧(∀e∈ns',e.ok)∧ns'.length≤200000):=⟨hgf.1,hgf.2,HG.2.2⟩;have HPi:Hid (∀W g o c,Below w.heap.size w W→WdN W g o c ns'→Calls Tryz.prog 15 #[.agg #[.slice (some ⟨g,o,none⟩) in_ c]] W (PrtU ns' W)):=fun W g o c hW hwd=>by rw[HZ.ln];exact yLz hwd HF.2.1 (HI.1.on hW HI.2.2) (Nat.le_trans HI.2.2 hW.size)
 have HP1:Hid (Calls Tryz.prog 15 #[.agg #[.slice (some ⟨gr,0,none⟩) in_ ic]] W4 (PrtU ns' W4)):=HPi.out W4 gr 0 ic HZ.below HZ.nr;clear hgf hne hOw hOr hnn HG H4;go_wp2_with fail;refine HP1.mono ?_;clear HP1;rintro e w5 ⟨g,cp,R,rfl,hO5,hP5,hb5⟩;obtain⟨nr,hnr⟩:=qE R.length;rw[←hnr];have HR:Hid (yOs ns' R∧nr=R.length):=⟨hP5,hnr⟩;have H5:Hid (ZwI w tw tr gw uc gr ic in_ ns' w5∧OwnY w5 w.heap.size g cp R):=⟨HZ.up hb5,hO5.mono HZ.below.size⟩;have hnr4:nr≤400000:=by rw[hnr];exact yR4 hP5 HF.2.1
 have hnr0:0<nr:=by rw[hnr];exact yYg HF.1 HF.2.1 hP5
 clear hO5 hP5 hb5 hnr p0 p1 p2 q0 q1 q2 HZ;have p2:=H5.1.bw.cell (j:=2) rfl;have q2:=H5.1.br.cell (j:=2) rfl;by_cases hlong:4000<nr;case pos=>
  have zl:(4000:Int)<(nr:Int):=by omega
  have HLf:Hid (Calls Tryz.prog 19 #[.agg #[.slice (some ⟨gr,0,none⟩) in_ ic],.agg #[.slice (some ⟨gw,0,none⟩) in_ uc]] w5 fun e w'=>e=.returned (.bool true)∧Below w5.heap.size w5 w'):=by have h9:=yHh (c:=ic) (c':=uc) H5.1.nr.at H5.1.nr.lt H5.1.nw.at H5.1.nw.lt (by have:=HF.2.2;omega);rw[←H5.1.ln]at h9;exact h9
  go_wp2_with fail;refine HLf.mono ?_;rintro e w6 ⟨rfl,hb6⟩;have HX:Hid (Below w.heap.size w w6):=H5.1.below.trans (hb6.mono H5.1.below.size);clear hb6;go_wp2_with fail;go_ret;exact⟨rfl,HX.out⟩
 case neg=>
 have zl:¬(4000:Int)<(nr:Int):=by omega
 have HPa:Hid (Calls Tryz.prog 8 #[.slice (some ⟨g,0,none⟩) nr cp] w5 (fun e w'=>PfP R w5 e w')):=
  yGr H5.2.at H5.2.lt.2 HR.2 (by omega) (by rw[HR.2];exact H5.2.caps.1) H5.2.caps.2 (Nat.le_trans H5.1.hB H5.1.below.size) H5.1.wds H5.1.er
 go_wp2_with fail;refine HPa.mono ?_;clear HPa;rintro e w6 ⟨v6,rfl,hb6,hS6⟩;obtain⟨c6,a6,n6,hA6,⟨oa,on,oc,rfl,hU6⟩,hl6⟩:=hS6.ans;obtain⟨rfl,rfl,rfl⟩:=hA6.one (yW0 HF.1 HF.2.1 HR.1 (by have:=HR.2;omega));obtain⟨gu,rfl,hOu⟩:=yRf hU6 (yIw HF.1);have hon:on=in_:=by rw[yOw hU6];exact H5.1.ln.symm
 subst hon;obtain⟨W7,hW7⟩:∃V:World,V=w6.alloc (Obj.cells #[.int .i64 0,.int .i64 0,.slice (some ⟨gu,0,none⟩) on oc] 27):=⟨_,rfl⟩;obtain⟨ta,hta⟩:=qE w6.heap.size;have H7:Hid (ZwI w tw tr gw uc gr ic on n6 W7∧OwnY W7 w.heap.size g cp R∧yA W7 w.heap.size 27 3 ta [.int .i64 0,.int .i64 0,.slice (some ⟨gu,0,none⟩) on oc]∧WdN W7 gu 0 oc n6):=by
  have hb:Below w6.heap.size w6 W7:=by rw[hW7];exact qB
  have h6:=H5.1.up hb6;exact⟨h6.up hb,(H5.2.below hb6).below hb,by rw[hta,hW7];exact yAb w6 _ h6.below.size rfl,hOu.wd.below hb hOu.lt.2⟩
 clear hS6 hA6 hU6 hOu hb6 hl6 p2 q2 H5;go_upto_region 13 with fail;rw[←hW7,←hta];clear hW7 hta;have a0:=H7.2.2.1.cell (j:=0) rfl;have a2:=H7.2.2.1.cell (j:=2) rfl;have p2:=H7.1.bw.cell (j:=2) rfl;have HLf:Hid (Calls Tryz.prog 19 #[.agg #[.slice (some ⟨gu,0,none⟩) on oc],.agg #[.slice (some ⟨gw,0,none⟩) on uc]] W7 fun e w'=>e=.returned (.bool true)∧Below W7.heap.size W7 w'):=by have h9:=yHh (c:=oc) (c':=uc) H7.2.2.2.at H7.2.2.2.lt H7.1.nw.at H7.1.nw.lt (by have:=HF.2.2;omega);rw[←H7.1.ln]at h9;exact h9
 go_wp2_with fail;refine HLf.mono ?_;clear HLf;rintro e w8 ⟨rfl,hb8⟩;have H8:Hid (ZwI w tw tr gw uc gr ic on n6 w8∧OwnY w8 w.heap.size g cp R∧yA w8 w.heap.size 27 3 ta [.int .i64 0,.int .i64 0,.slice (some ⟨gu,0,none⟩) on oc]∧WdN w8 gu 0 oc n6):=⟨H7.1.up hb8,H7.2.1.below hb8,H7.2.2.1.below hb8,H7.2.2.2.below hb8 H7.2.2.2.lt⟩;clear hb8 a0 a2 p2 H7;have a2:=H8.2.2.1.cell (j:=2) rfl;have HP8:Hid (Calls Tryz.prog 15 #[.agg #[.slice (some ⟨gu,0,none⟩) on oc]] w8 (PrtU n6 w8)):=HPi.out w8 gu 0 oc H8.1.below H8.2.2.2;go_wp2_with fail;refine HP8.mono ?_;clear HP8 HPi;rintro e w9 ⟨g9,c9,R9,rfl,hO9,hP9,hb9⟩;obtain rfl:R9=R:=yR3 hP9 HR.1;rw[←HR.2];have HLw:Hid (Calls Tryz.prog 18 #[.slice (some ⟨g9,0,none⟩) nr c9,.slice (some ⟨g,0,none⟩) nr cp] w9 fun e w'=>e=.returned (.bool true)∧Below w9.heap.size w9 w'):=by have h9:=yM1 g9 0 c9 g 0 cp R9 w9 hO9.at (H8.2.1.below hb9).at;rw[←HR.2]at h9;exact h9
 have k9:Hid (Below w.heap.size w w9):=H8.1.below.trans (hb9.mono H8.1.below.size);clear hO9 hP9 hb9 a2;go_wp2_with fail;refine HLw.mono ?_;rintro e w10 ⟨rfl,hb10⟩;have HX:Hid (Below w.heap.size w w10):=k9.out.trans (hb10.mono k9.out.size);have zn:(0:Int)<(nr:Int):=by omega
 clear hb10;go_wp2_with fail;go_ret;exact⟨rfl,HX.out⟩
theorem ySk {P:Nat→Int→Prop}:∀n:Nat,(∀k,k<n→∃x,P k x)→∃xs:List Int,xs.length=n∧∀k x,xs[k]?=some x→P k x
 |0,_=>⟨[],rfl,fun k x h=>by simp at h⟩
 |n+1,h=>by
  obtain⟨xs,h1,h2⟩:=ySk n (fun k hk=>h k (by omega))
  obtain⟨x,hx⟩:=h n (by omega)
  refine⟨xs++ [x],by simp[h1],fun k y hy=>?_⟩
  by_cases hk:k<xs.length
  ·rw[List.getElem?_append_left hk]at hy;exact h2 k y hy
  ·rw[List.getElem?_append_right (by omega)]at hy
   have hk0:k-xs.length=0:=by
    rcases Nat.eq_zero_or_pos (k-xs.length)with q|q
    ·exact q
    ·rw[List.getElem?_eq_none (by simp;omega)]at hy;cases hy
   rw[hk0]at hy
   simp at hy
   subst hy
   rw[show k=n by omega]
   exact hx
theorem yF8.codeX {v:Value} {n:Nat} (h:yF8 w v n) (hn:n≤1048576):∃xs,yG0 xs w w.heap.size v:=by
 rcases h.2 with⟨a,cap,h1,h2⟩|⟨b,off,cap,h1,h2,h3⟩
 ·exact⟨[],Nat.zero_le _,.inl ⟨a,cap,h1,rfl⟩⟩
 ·obtain⟨xs,h4,h5⟩:=ySk n h3;exact⟨xs,by omega,.inr ⟨b,off,cap,by rw[h1,h4],h2,h5⟩⟩
theorem yG0.up {xs:List Int} {v:Value} (h:yG0 xs w w.heap.size v) (hb:Below w.heap.size w w'):yG0 xs w' w'.heap.size v:=by
 have h1:=h.chg (T:=fun _=>False) (Chg.of_below hb) (Nat.le_refl _) (fun k q=>q.elim);refine⟨h1.1,?_⟩;rcases h1.2 with q|⟨b,off,cap,q1,q2,q3⟩
 ·exact .inl q
 ·exact .inr ⟨b,off,cap,q1,by have:=hb.size;omega,q3⟩
theorem yG3 (xs:List Int) (Tr:Dst→List Nd×Dst) (z:Int) (m:Nat) (h:∀u,(Tr u).1.length≤m) (s:Dst):(yDd xs Tr z s).1.length≤3*m+1:=by
 have h1:=h (belF xs 10 s).2;have h2:=h (Tr (belF xs 10 s).2).2;have h3:=h (belF xs 3 (Tr (Tr (belF xs 10 s).2).2).2).2;have h4:=h (Tr (Tr (belF xs 10 s).2).2).2;unfold yDd;split
 ·simp
 split
 ·simp only[List.length_append,List.length_singleton];omega
 split
 ·simp only[List.length_append,List.length_singleton];omega
 split
 ·split
  ·simp only[List.length_append,List.length_singleton];omega
  ·simp only[List.length_append,List.length_singleton];omega
 ·simp only[List.length_append,List.length_singleton];omega
theorem yV5 (xs:List Int) (s:Dst):(filF xs s).1.length≤40:=by
 have t0:∀u,(yUk xs u).1.length≤1:=fun u=>yG3 xs _ 0 0 (fun u=>by simp) u;have t1:∀u,(yRk xs u).1.length≤4:=fun u=>yG3 xs _ 1 1 t0 u;have t2:∀u,(yRi xs u).1.length≤13:=fun u=>yG3 xs _ 2 4 t1 u;have t3:∀u,(yUj xs u).1.length≤40:=fun u=>yG3 xs _ 3 13 t2 u;have h1:=t1 (belF xs 3 s).2;have h2:=t2 (belF xs 3 s).2;have h3:=t3 (belF xs 3 s).2;unfold filF;split
 ·omega
 split
 ·omega
 ·omega
theorem yHq {f:List Nd→List Nd} {a:Nat} (hf:∀l,(f l).length=l.length+a) (l:List Nd):∀i,(yCs f i l).length=l.length+a*i
 |0=>by simp[yCs]
 |i+1=>by rw[yCs,hf,yHq hf l i,Nat.mul_add,Nat.mul_one,Nat.add_assoc]
theorem yVh (k y:Int) (hy:0≤y∧y<2):(limA k y).length≤1000:=by
 have c:∀l,(fCh l).length=l.length+2:=fun l=>by simp[fCh]
 have i:∀l,(fIn l).length=l.length+2:=fun l=>by simp[fIn]
 have g:∀l,(fIf l).length=l.length+3:=fun l=>by simp[fIf]
 unfold limA;split
 ·rw[yHq c];simp
 split
 ·simp
 split
 ·simp
 split
 ·rw[yHq c];simp;omega
 split
 ·rw[yHq i];simp;omega
 ·rw[yHq g];simp;omega
theorem yTc (xs:List Int) (s:Dst):(yFi xs s).1.length≤1000:=by
 have h1:=yV5 xs s;have h2:=yAm xs (m:=2) (by omega) (belF xs 6 (belF xs 14 (filF xs s).2).2).2;unfold yFi;split
 ·exact yVh _ _ h2
 ·show(filF xs s).1.length≤1000;omega
theorem yUh (xs:List Int) (t:List UInt8) (u:Dst) (ht:t.length≤410000000):(txtF xs t u).length≤1000000000:=by
 have h1:(parF xs t u).1.length≤410000042:=by
  have hb:=yPw xs (belF xs 5 u).2;unfold parF;split
  ·simp;omega
  ·show t.length≤_;omega
 have h2:(lo2F xs (parF xs t u).1 (parF xs t u).2).1.length≤820000084:=by
  have hb:=yLq xs (parF xs t u).1 (belF xs 3 (parF xs t u).2).2 (parF xs t u).1.length;unfold lo2F;split
  ·unfold looF;simp only;omega
  ·show(parF xs t u).1.length≤_;omega
 unfold txtF;obtain⟨T,hT⟩:=qE ((lo2F xs (parF xs t u).1 (parF xs t u).2).1);obtain⟨v,hv⟩:=qE ((lo2F xs (parF xs t u).1 (parF xs t u).2).2);rw[←hT]at h2⊢;rw[←hv];unfold yTh;split
 ·omega
 ·have hq:(bl (yDo xs wsQ (belF xs 5 v).2).1).length≤20:=by rw[yBb];exact(show∀t∈wsQ,t.size≤20 by decide) _ (yDn xs (ws:=wsQ) (by decide) _)
  obtain⟨k,hk⟩:=qE ((belF xs ((T.length:Int)+1) (yDo xs wsQ (belF xs 5 v).2).2).1.toNat);unfold cutF;rw[←hk];simp only[List.length_append,List.length_take];split
  ·rw[List.length_drop];omega
  ·rw[List.length_drop];omega
theorem yL3 {xs:List Int} {v:Value} (h:yG0 xs w w.heap.size v):∃t,DrwC w v t:=by
 obtain⟨o1,s1,ho1⟩:∃o1 s1,belF xs 60 (newF xs)=(o1,s1):=⟨_,_,rfl⟩;by_cases hz:(o1==0)=true
 ·obtain⟨k,s2,hk⟩:∃k s2,belF xs 2 s1=(k,s2):=⟨_,_,rfl⟩;have hkr:0≤k∧k<2:=by have h9:=yAm xs (m:=2) (by omega) s1;rw[hk]at h9;exact h9
  obtain⟨m,rfl⟩:∃m:Nat,k=(m:Int):=⟨k.toNat,by omega⟩;have hm:m<2:=by omega
  refine⟨List.replicate (4000+m) 32,by simp;omega,fun W hW=>?_⟩;have HC:Hid (yG0 xs W W.heap.size v):=h.up hW;have HE:Hid (belF xs 60 (newF xs)=(o1,s1)∧(o1==0)=true∧belF xs 2 s1=((m:Int),s2)):=⟨ho1,hz,hk⟩;obtain⟨S9,hS9⟩:=qE (⟨(List.replicate (4000+m) 32).toArray⟩:ByteArray);have HM:Hid (∀wz,Calls Tryz.prog 42 #[.string ⟨#[32]⟩,.int .i64 (4000+(m:Int))] wz fun e w'=>e=.returned (.string S9)∧Below wz.heap.size wz w'):=fun wz=>by have h9:=yIt 32 (4000+m) wz (by omega);rw[show((4000+m:Nat):Int)=4000+(m:Int)by omega,←hS9]at h9;exact h9
  have HS:Hid (bl S9=List.replicate (4000+m) 32):=by show _=_;rw[hS9]
  clear h hW ho1 hz hk hkr hS9;go_enter Tryz.func20,Tryz.ntmps20;go_wp2_with fail;refine(ySg HC.out).mono ?_;rintro e w1 ⟨rfl,hD1,hb1⟩;obtain⟨cb,hcb⟩:=qE W.heap.size;have H1:Hid (yA5 xs (newF xs) cb cb v w1∧Below W.heap.size W w1∧cb=W.heap.size):=⟨by rw[hcb];exact hD1,hb1,hcb⟩;rw[←hcb];clear hD1 hb1 hcb;go_wp2_with fail;refine(yC6 H1.1 (by omega) (by omega) HE.1 HE.2.1).mono ?_;rintro e w2 ⟨rfl,hd2⟩;have H2:Hid (yA5 xs s1 cb cb v w2∧Below W.heap.size W w2):=⟨hd2.1,Chg.below H1.2.1 hd2.2 H1.2.1.size (fun k q=>by have:=H1.2.2;omega)⟩;clear hd2;go_wp2_with fail;refine(yAr H2.1 (by omega) (by omega) HE.2.2).mono ?_;rintro e w3 ⟨rfl,hd3⟩;have H3:Hid (Below W.heap.size W w3):=Chg.below H2.2 hd3.2 H2.2.size (fun k q=>by have:=H1.2.2;omega);clear hd3;go_wp2_with fail;refine(HM.out _).mono ?_;rintro e w4 ⟨rfl,hb4⟩;have H4:Hid (Below W.heap.size W w4):=H3.trans (hb4.mono H3.size);clear hb4;obtain⟨W9,hW9⟩:=qE (Lib.bytesWorld w4 5 S9);obtain⟨cp9,hcp9⟩:=qE (grownCap w4 S9.size 0 5);have hcv:Sem.run Tryz.prog (convert 9 22 (.string S9)) w4=.ok (.slice (some ⟨w4.heap.size,0,none⟩) S9.size cp9) W9:=by rw[hW9,hcp9];exact Lib.run_convert_string_bytes (P:=Tryz.prog) w4 9 22 5 S9 Tryz.underlying9 Tryz.underlying22 Tryz.underlying5
  have H5:Hid (TxD (List.replicate (4000+m) 32) W (.returned (.slice (some ⟨w4.heap.size,0,none⟩) S9.size cp9)) W9):=by have hbb:=yCy w4 S9;rw[←hW9]at hbb;have h9:=yG1 w4 S9 (by rw[←yBb,HS.out];simp;omega);rw[←hW9,←hcp9,HS.out]at h9;exact⟨w4.heap.size,0,cp9,by rw[←HS.out,yBb],⟨h9.at_,h9.lt,h9.len,h9.cap⟩,H4.trans (hbb.mono H4.size)⟩
  clear hW9 hcp9;go_wp2_with fail;go_ret;exact H5.out
 ·have hzf:(o1==0)=false:=by simpa using hz
  obtain⟨y,hy⟩:=yO0 (yJq xs s1).1;have hyl:y.2.length≤410000000:=by have h8:=yKs hy (yJq xs s1).2;have h9:=yTc xs s1;omega
  refine⟨txtF xs y.2 (yFi xs s1).2,yUh xs _ _ hyl,fun W hW=>?_⟩;have HC:Hid (yG0 xs W W.heap.size v):=h.up hW;have HE:Hid (belF xs 60 (newF xs)=(o1,s1)∧(o1==0)=false∧yHy (yFi xs s1).1 y):=⟨ho1,hzf,hy⟩;obtain⟨R,hR⟩:=qE (txtF xs y.2 (yFi xs s1).2);have HR:Hid (R=txtF xs y.2 (yFi xs s1).2):=hR;rw[←hR];clear h hW ho1 hz hzf hy hyl hR;go_enter Tryz.func20,Tryz.ntmps20;go_wp2_with fail;refine(ySg HC.out).mono ?_;rintro e w1 ⟨rfl,hD1,hb1⟩;obtain⟨cb,hcb⟩:=qE W.heap.size;have H1:Hid (yA5 xs (newF xs) cb cb v w1∧Below W.heap.size W w1∧cb=W.heap.size):=⟨by rw[hcb];exact hD1,hb1,hcb⟩;rw[←hcb];clear hD1 hb1 hcb;go_wp2_with fail;refine(yC6 H1.1 (by omega) (by omega) HE.1 HE.2.1).mono ?_;rintro e w2 ⟨rfl,hd2⟩;have H2:Hid (yA5 xs s1 cb cb v w2∧Below W.heap.size W w2):=⟨hd2.1,Chg.below H1.2.1 hd2.2 H1.2.1.size (fun k q=>by have:=H1.2.2;omega)⟩;clear hd2;have HT:Hid (Calls Tryz.prog 44 #[.pointer (some ⟨cb,0,none⟩)] w2 (DtP R cb w2)):=by have h9:=yNm xs s1 cb cb v w2 H2.1 y HE.2.2;rw[←HR.out]at h9;exact h9
  go_wp2_with fail;refine HT.mono ?_;rintro e w3 ⟨g,o,cp,rfl,K3,hC3⟩;have H3:Hid (Below W.heap.size W w3):=Chg.below H2.2 hC3 H2.2.size (fun k q=>by have:=H1.2.2;omega);clear hC3;go_wp2_with fail;go_ret;exact⟨g,o,cp,rfl,K3,H3.out⟩
end Go.Proofs.YtgnpcenpcmdlfaaGreatDoor
