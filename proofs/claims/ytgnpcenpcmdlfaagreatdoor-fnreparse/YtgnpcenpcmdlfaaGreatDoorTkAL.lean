import Derived.Test.YtgnpcenpcmdlfaaGreatDoorTkAA
import Derived.Test.YtgnpcenpcmdlfaaGreatDoorTkAK
import Derived.Test.YtgnpcenpcmdlfaaGreatDoorTkAC
import Derived.Test.YtgnpcenpcmdlfaaGreatDoorTkAB
import Derived.Test.YtgnpcenpcmdlfaaGreatDoorTkAI
import Derived.Test.YtgnpcenpcmdlfaaGreatDoorTkAE
import Derived.Great.BuildSlice
namespace Go.Proofs.YtgnpcenpcmdlfaaGreatDoor
open Go.ChangeShapes Go.WideShapes Go.ChangeAt Go.RowKit Go.Deep
set_option linter.unusedVariables false
set_option linter.unusedSimpArgs false
set_option maxRecDepth 100000
set_option maxHeartbeats 32000000
def argP (kd:Int) (s:Ps):PR (Ps×Nd):=match yDa kd s.ks with
 | .error e=>.error e
 | .ok (ks,nd)=>.ok ({s with ks:=ks},nd)
def BehP (base g b off n cap:Nat) (t:List UInt8) (d:Nat) (A:PR (Ps×Nd)→Prop) (nv:Value) (w:World) (e:Ending) (w':World):Prop:=Hid (Chg (fun q=>q=g∨nv.ownBlock=some q) w w')∧((∃s1 nd,A (.ok (s1,nd))∧e=.returned nd.v∧FpQ base g b off n cap t d nv w s1 w')∨(∃c a,A (.error (c,a))∧e=Pf c ((a:Nat):Int)))
variable {kd:Int} {s:Ps} {k:Tk} {ks:List Tk}
theorem yQ5 (h4:4≤kd) (h7:kd≤7) (hk:s.ks=k::ks) (hn:∀sx,¬k.k=.str sx):argP kd s=.error (3,k.pos):=by
 have h1:hdK s.ks=k.k:=by rw[hk];rfl
 have h2:hdA s.ks=k.pos:=by rw[hk];rfl
 unfold argP yDa;rw[if_neg (by omega),if_pos h7,h1,h2];cases hq:k.k with
 |str sx=>exact absurd hq (hn sx)
 |word _=>rfl
 |num _=>rfl
 |sign _=>rfl
 |fin=>rfl
 |bad=>rfl
variable {sx:ByteArray}
theorem yWs (h4:4≤kd) (h7:kd≤7) (hk:s.ks=k::ks) (hs:k.k=.str sx):((yBg (sb sx)).1=0→argP kd s=(match yA9 s.ks with
   | .error e=>.error e
   | .ok k2=>.ok ({s with ks:=k2},patN kd sx)))∧(¬(yBg (sb sx)).1=0→argP kd s=.error (6,k.pos)):=by
 have h1:hdK s.ks=.str sx:=by rw[hk];exact hs
 have h2:hdA s.ks=k.pos:=by rw[hk];rfl
 unfold argP yDa;rw[if_neg (by omega),if_pos h7,h1,h2];dsimp only;constructor
 ·intro q;rw[if_pos q];cases yA9 s.ks<;>rfl
 ·intro q;rw[if_neg q]
theorem yQ6 (h4:11≤kd) (hk:s.ks=k::ks) (hn:∀v,¬k.k=.num v):argP kd s=.error (3,k.pos):=by
 have h1:hdK s.ks=k.k:=by rw[hk];rfl
 have h2:hdA s.ks=k.pos:=by rw[hk];rfl
 unfold argP yDa;rw[if_neg (by omega),if_neg (by omega),if_neg (by omega),if_neg (by omega),h1,h2];cases hq:k.k with
 |num v=>exact absurd hq (hn v)
 |word _=>rfl
 |str _=>rfl
 |sign _=>rfl
 |fin=>rfl
 |bad=>rfl
theorem yWt {v:Int} (h4:11≤kd) (hk:s.ks=k::ks) (hs:k.k=.num v):((1≤v∧v≤1000)→argP kd s=(match yA9 s.ks with
   | .error e=>.error e
   | .ok k2=>.ok ({s with ks:=k2},cntN kd v)))∧(¬(1≤v∧v≤1000)→argP kd s=.error (8,k.pos)):=by
 have h1:hdK s.ks=.num v:=by rw[hk];exact hs
 have h2:hdA s.ks=k.pos:=by rw[hk];rfl
 unfold argP yDa;rw[if_neg (by omega),if_neg (by omega),if_neg (by omega),if_neg (by omega),h1,h2];dsimp only;constructor
 ·intro q;rw[if_pos q];cases yA9 s.ks<;>rfl
 ·intro q;rw[if_neg q]
def setN (w:World) (g:Nat) (e:Nd):World:=((((((w.setCell ⟨g,0,none⟩ (.int .i64 e.kind)).setCell ⟨g,1,none⟩ (.string e.s)).setCell ⟨g,2,none⟩ (.bool e.hi)).setCell ⟨g,3,none⟩ (.string e.t)).setCell ⟨g,4,none⟩ (.int .u64 e.lo)).setCell ⟨g,5,none⟩ (.int .u64 e.up)).setCell ⟨g,6,none⟩ (.int .i64 e.n)
variable {w:World} {base ty g:Nat}
theorem yA.setN {vs:List Value} (h:yA w base ty 7 g vs) (e:Nd):yA (Go.Proofs.YtgnpcenpcmdlfaaGreatDoor.setN w g e) base ty 7 g e.seven:=by
 have h1:=((((((h.set 0 (.int .i64 e.kind)).set 1 (.string e.s)).set 2 (.bool e.hi)).set 3 (.string e.t)).set 4 (.int .u64 e.lo)).set 5 (.int .u64 e.up)).set 6 (.int .i64 e.n);have hl:=h.len;match vs,hl with
 | [_,_,_,_,_,_,_],_=>exact h1
theorem yB2 (w:World) (g:Nat) (e:Nd):Chg (fun k=>k=g) w (setN w g e):=
 ((((((Chg.of_set (S:=fun k=>k=g) _ _ _ _ rfl).trans (Chg.of_set (S:=fun k=>k=g) _ _ _ _ rfl)).trans (Chg.of_set (S:=fun k=>k=g) _ _ _ _ rfl)).trans (Chg.of_set (S:=fun k=>k=g) _ _ _ _ rfl)).trans (Chg.of_set (S:=fun k=>k=g) _ _ _ _ rfl)).trans (Chg.of_set (S:=fun k=>k=g) _ _ _ _ rfl)).trans (Chg.of_set (S:=fun k=>k=g) _ _ _ _ rfl)
variable {b off n cap d:Nat} {t:List UInt8} {A:PR (Ps×Nd)→Prop} {nv:Value}
theorem BehP.box {nv3:Value} {w3 W9:World} {s1:Ps} {nd:Nd} {k2:Tk} {ks2:List Tk} {p2:Nat} {Bk:Nat} (hA:A (.ok (s1,nd))) (hF:Fp base g b off n cap t d s1 k2 ks2 p2 nv3 w3) (hc3:Chg (fun q=>q=g∨nv.ownBlock=some q) w w3) (hl:∀q,nv3.ownBlock=some q→nv.ownBlock=some q∨w.heap.size≤q) (hc9:Chg (fun q=>q=Bk) w3 W9) (hB:¬Bk=g∧w.heap.size≤Bk) (hn:∀q,nv3.ownBlock=some q→¬q=Bk):BehP base g b off n cap t d A nv w (.returned nd.v) W9:=
 ⟨Chg.comp hc3 hc9 (fun q hq z=>by omega),.inl ⟨s1,nd,hA,rfl,k2,ks2,p2,nv3,hF.chg hc9 (fun q=>hB.1 q.symm) (fun q hq z=>hn q hq z),hl⟩⟩
variable {p:Prop}
theorem yP9 (h:p):Hid p:=h
def BehC (kd:Int):Prop:=∀⦃base g b off n cap:Nat⦄ ⦃t:List UInt8⦄ ⦃d:Nat⦄ ⦃s:Ps⦄ ⦃k:Tk⦄ ⦃ks:List Tk⦄ ⦃p:Nat⦄ ⦃nv:Value⦄ ⦃w:World⦄,FpS base b off n cap t w→Fp base g b off n cap t d s k ks p nv w→
    Calls Tryz.prog 117 #[.pointer (some ⟨g,0,none⟩),.int .i64 kd] w (BehP base g b off n cap t d (fun r=>r=argP kd s) nv w)
theorem zBea (h:p:=by
 intro base g b off n cap t d s k ks p nv w hS h;have HKd:=yP9 hk;have kb:1≤kd∧kd≤3:=by omega
 obtain⟨ZZ,hZZ⟩:=qE (BehP base g b off n cap t d (fun r=>r=argP kd s) nv w);have HZZ:=yP9 hZZ;rw[←hZZ,hk];clear hk hZZ;obtain⟨W0,hW0⟩:=qE (w.alloc (Obj.cells #[.int .i64 0,.string ⟨#[]⟩,.bool false,.string ⟨#[]⟩,.int .u64 0,.int .u64 0,.int .i64 0] 65):World);have b3:Below w.heap.size w W0:=by rw[hW0];exact qB
 have b1:yA W0 w.heap.size 65 7 w.heap.size [.int .i64 0,.string ⟨#[]⟩,.bool false,.string ⟨#[]⟩,.int .u64 0,.int .u64 0,.int .i64 0]:=by rw[hW0];exact yAb w _ (Nat.le_refl _) rfl
 have hbs:Below base w W0:=b3.mono hS.sz;have hnl:=h.nlt;have HW0:Hid (yA W0 w.heap.size 65 7 w.heap.size [.int .i64 0,.string ⟨#[]⟩,.bool false,.string ⟨#[]⟩,.int .u64 0,.int .u64 0,.int .i64 0]∧Fp base g b off n cap t d s k ks p nv W0∧FpS base b off n cap t W0∧Chg (fun q=>q=g∨nv.ownBlock=some q) w W0∧(∀q,nv.ownBlock=some q→q<w.heap.size)∧s.ks=k::ks):=⟨b1,h.below b3,hS.up hbs,Chg.of_below b3,fun q hq=>(hnl q hq).2,h.eq⟩;have hgl:=h.fs.lt;clear h hS b1 b3 hbs hnl;have hBx:=HW0.1;go_enter Tryz.func117,Tryz.ntmps117;go_upto_region 2 with fail;rw[←hW0];clear hW0;obtain⟨l0,l1,l2,l3,l4,l5,l6⟩:=hBx.c7;obtain⟨f0,f1,f2,f3,f4,f5,f6⟩:=hBx.f7;obtain⟨W9,hW9⟩:∃V:World,V=setN W0 w.heap.size (yAc kd):=⟨_,rfl⟩;have hB9:=hBx.setN (yAc kd);rw[←hW9]at hB9;have hc9:Chg (fun q=>q=w.heap.size) W0 W9:=by rw[hW9];exact yB2 _ _ _
 have HR:Hid (ZZ (.returned (yAc kd).v) W9):=by show ZZ _ _;rw[HZZ.out];exact BehP.box (s1:=s) (by show _=_;rw[HKd.out];rfl) HW0.2.1 HW0.2.2.2.1 (fun q hq=>.inl hq) hc9 (by omega) (fun q hq z=>by have:=HW0.2.2.2.2.1 q hq;omega)
 obtain⟨q0,q1,q2,q3,q4,q5,q6⟩:=hB9.c7;unfold setN at hW9;simp only[yAc,patN,cntN,noS,HKd.out]at hW9 q0 q1 q2 q3 q4 q5 q6;clear hB9 hc9;go_wp2_with fail;rw[←hW9];exact bodyPost_ret (v:=(yAc kd).v) (by simp[results,Tryz.results117,go_sem,q0,q1,q2,q3,q4,q5,q6,yAc,patN,cntN,noS,HKd.out]) rfl HR.out):p:=h
theorem yWl (hk:kd=1):BehC kd:=by exact zBea
theorem yWk (hk:kd=2):BehC kd:=by exact zBea
theorem yWj (hk:kd=3):BehC kd:=by exact zBea
theorem zBeb (h:p:=by
 intro base g b off n cap t d s k ks p nv w hS h;have HKd:=yP9 hk;have kb:4≤kd∧kd≤7:=by omega
 obtain⟨ZZ,hZZ⟩:=qE (BehP base g b off n cap t d (fun r=>r=argP kd s) nv w);have HZZ:=yP9 hZZ;rw[←hZZ,hk];clear hk hZZ;obtain⟨W0,hW0⟩:=qE (w.alloc (Obj.cells #[.int .i64 0,.string ⟨#[]⟩,.bool false,.string ⟨#[]⟩,.int .u64 0,.int .u64 0,.int .i64 0] 65):World);have b3:Below w.heap.size w W0:=by rw[hW0];exact qB
 have b1:yA W0 w.heap.size 65 7 w.heap.size [.int .i64 0,.string ⟨#[]⟩,.bool false,.string ⟨#[]⟩,.int .u64 0,.int .u64 0,.int .i64 0]:=by rw[hW0];exact yAb w _ (Nat.le_refl _) rfl
 have hbs:Below base w W0:=b3.mono hS.sz;have hnl:=h.nlt;have HW0:Hid (yA W0 w.heap.size 65 7 w.heap.size [.int .i64 0,.string ⟨#[]⟩,.bool false,.string ⟨#[]⟩,.int .u64 0,.int .u64 0,.int .i64 0]∧Fp base g b off n cap t d s k ks p nv W0∧FpS base b off n cap t W0∧Chg (fun q=>q=g∨nv.ownBlock=some q) w W0∧(∀q,nv.ownBlock=some q→q<w.heap.size)∧s.ks=k::ks):=⟨b1,h.below b3,hS.up hbs,Chg.of_below b3,fun q hq=>(hnl q hq).2,h.eq⟩;have hgl:=h.fs.lt;have hkd:=h.kinds;have cK:=(h.below b3).fs.cell (j:=2) rfl;have cT:=(h.below b3).fs.cell (j:=6) rfl;clear h hS b1 b3 hbs hnl;have die:∀(c:Int),argP kd s=.error (c,k.pos)→∀W',Chg (fun q=>q=g∨nv.ownBlock=some q) w W'→Hid (ZZ (Pf c (k.pos:Int)) W'):=fun c hc W' hW=>by show ZZ _ _;rw[HZZ.out];exact⟨hW,.inr ⟨c,k.pos,hc.symm,rfl⟩⟩
 by_cases hst:∃sx,k.k=.str sx;case neg=>
  have zk:(((ftB k.k).toNat:Int)==34)=false:=by
   cases hq:k.k with
   |str sx=>exact absurd ⟨sx,hq⟩ hst
   |sign c=>
    rw[hq]at hkd;rcases hkd with q|q
    ·rcases q with rfl|rfl|rfl|rfl|rfl|rfl<;>rfl
    ·cases q
   |word _=>rfl
   |num _=>rfl
   |fin=>rfl
   |bad=>rfl
  have HD:=die 3 (yQ5 (by omega) (by omega) HW0.2.2.2.2.2 (fun sx q=>hst ⟨sx,q⟩)) W0 HW0.2.2.2.1;exact zzQ44
 case pos=>
 obtain⟨sx,hsx⟩:=hst;have hk34:ftB k.k=34:=by rw[hsx];rfl
 have htx:k.k.txt=sx:=by rw[hsx];rfl
 rw[hk34]at cK;rw[htx]at cT;have hsz:sx.size≤200:=by
  rw[hsx]at hkd;rcases hkd with q|q
  ·exact q
  ·cases q
 have Hfin:Hid (k.k.isFin=false):=by show _=_;rw[hsx];rfl
 have HAr:Hid (((yBg (sb sx)).1=0→argP kd s=(match yA9 s.ks with
   | .error e=>.error e
   | .ok k2=>.ok ({s with ks:=k2},patN kd sx)))∧(¬(yBg (sb sx)).1=0→argP kd s=.error (6,k.pos))):=yWs (by omega) (by omega) HW0.2.2.2.2.2 hsx
 have HCk:Hid (Calls Tryz.prog 119 #[.string sx] W0 fun e w'=>e=.returned (.agg #[.int .i64 (yBg (sb sx)).1,.int .i64 ((yBg (sb sx)).2:Int)])∧Below W0.heap.size W0 w'):=yGs sx W0 (by unfold maxLen;omega);obtain⟨er,her⟩:=qE ((yBg (sb sx)).1:Int);obtain⟨ea,hea⟩:=qE (((yBg (sb sx)).2:Int):Int);rw[←her]at HAr;rw[←her,←hea]at HCk;have htv:Hid (ftV k= [.int .u8 34,.int .i64 (k.pos:Int),.int .i64 0,.int .u64 0,.string sx]):=by show _=_;unfold ftV;rw[hk34,htx,hsx];rfl
 clear hkd hk34 htx hsx her hea;go_enter Tryz.func117,Tryz.ntmps117;go_upto_region 2 with fail;rw[←hW0];clear hW0;go_wp2_with fail;refine(yCo _ 3 W0).mono ?_;rintro e w2 ⟨rfl,hw2⟩;rw[hw2];clear hw2;go_wp2_with fail;refine HCk.mono ?_;rintro e w2 ⟨rfl,hb2⟩;have H2:Hid (Fp base g b off n cap t d s k ks p nv w2∧FpS base b off n cap t w2∧yA w2 w.heap.size 65 7 w.heap.size [.int .i64 0,.string ⟨#[]⟩,.bool false,.string ⟨#[]⟩,.int .u64 0,.int .u64 0,.int .i64 0]∧Chg (fun q=>q=g∨nv.ownBlock=some q) w w2):=⟨HW0.2.1.below hb2,HW0.2.2.1.up (hb2.mono HW0.2.2.1.sz),HW0.1.below hb2,Chg.comp HW0.2.2.2.1 (Chg.of_below hb2 (S:=fun _=>False)) (fun q _ z=>z.elim)⟩;have hfd:∀wz:World,(Instr.field 125 (.agg #[.int .i64 er,.int .i64 ea]) 0).run Tryz.prog wz=.ok (.int .i64 er) wz:=fun wz=>by kernel_rfl
 have hfd2:=hfd w2;clear hb2 HCk cK cT hfd;by_cases he:er=0;case neg=>
  have ze:(er==0)=false:=by simpa using he
  have HD:=die 6 (HAr.2 he) w2 H2.2.2.2;clear die he;go_wp2_with fail;refine(yEg H2.1 6).mono ?_;rintro e w3 ⟨rfl,hw3⟩;rw[hw3];clear hw3;exact⟨rfl,HD.out⟩
 case pos=>
 have ze:(er==0)=true:=by simpa using he
 have HTk:Hid (Calls Tryz.prog 114 #[.pointer (some ⟨g,0,none⟩)] w2 (TakP base g b off n cap t d s k nv w2)):=yDh H2.2.1 H2.1 Hfin.out
 have HAr2:Hid (argP kd s=(match yA9 s.ks with
   | .error e=>.error e
   | .ok k2=>.ok ({s with ks:=k2},patN kd sx))):=HAr.1 he
 clear die he;go_wp2_with fail;refine(yCo _ 6 w2).mono ?_;rintro e w3 ⟨rfl,hw3⟩;rw[hw3];clear hw3;go_wp2_with fail;refine HTk.mono ?_;rintro e w3 ⟨Hb3,(⟨k2,ks2,p2,htk,rfl,hF3⟩|⟨c,a,htk,rfl⟩)⟩
 ·have hBx:=H2.2.2.1.chg Hb3.out (by omega);have HF3:Hid (Fp base g b off n cap t d {s with ks:=k2::ks2} k2 ks2 p2 nv w3∧yA9 s.ks=.ok (k2::ks2)∧Chg (fun q=>q=g) w2 w3):=⟨hF3,htk,Hb3.out⟩;have hfe:(Instr.field 52 (.agg (ftV k).toArray) 4).run Tryz.prog w3=.ok (.string sx) w3:=by rw[htv.out];kernel_rfl
  clear htk hF3 HTk;obtain⟨l0,l1,l2,l3,l4,l5,l6⟩:=hBx.c7;obtain⟨f0,f1,f2,f3,f4,f5,f6⟩:=hBx.f7;obtain⟨W9,hW9⟩:∃V:World,V=setN w3 w.heap.size (patN kd sx):=⟨_,rfl⟩;have hB9:=hBx.setN (patN kd sx);rw[←hW9]at hB9;have hc9:Chg (fun q=>q=w.heap.size) w3 W9:=by rw[hW9];exact yB2 _ _ _
  have HR:Hid (ZZ (.returned (patN kd sx).v) W9):=by show ZZ _ _;rw[HZZ.out];exact BehP.box (s1:=⟨k2::ks2,s.made,s.out⟩) (by show _=_;rw[HAr2.out,HF3.2.1]) HF3.1 (Chg.comp H2.2.2.2 HF3.2.2 (fun q _ z=>.inl z)) (fun q hq=>.inl hq) hc9 (by omega) (fun q hq z=>by have:=HW0.2.2.2.2.1 q hq;omega)
  obtain⟨q0,q1,q2,q3,q4,q5,q6⟩:=hB9.c7;unfold setN at hW9;simp only[yAc,patN,cntN,noS,HKd.out]at hW9 q0 q1 q2 q3 q4 q5 q6;clear hB9 hc9;go_wp2_with fail;rw[←hW9];exact bodyPost_ret (v:=(patN kd sx).v) (by simp[results,Tryz.results117,go_sem,q0,q1,q2,q3,q4,q5,q6,yAc,patN,cntN,noS,HKd.out]) rfl HR.out
 ·have HD:Hid (ZZ (Pf c (a:Int)) w3):=by show ZZ _ _;rw[HZZ.out];exact⟨Chg.comp H2.2.2.2 Hb3.out (fun q _ z=>.inl z),.inr ⟨c,a,by rw[HAr2.out,htk],rfl⟩⟩
  clear htk HTk;exact⟨rfl,HD.out⟩):p:=h
theorem yWi (hk:kd=4):BehC kd:=by exact zBeb
theorem yWh (hk:kd=5):BehC kd:=by exact zBeb
theorem yWg (hk:kd=6):BehC kd:=by exact zBeb
theorem yWf (hk:kd=7):BehC kd:=by exact zBeb
theorem zBee (h:p:=by
 intro base g b off n cap t d s k ks p nv w hS h;have HKd:=yP9 hk;have kb:11≤kd∧kd≤13:=by omega
 obtain⟨ZZ,hZZ⟩:=qE (BehP base g b off n cap t d (fun r=>r=argP kd s) nv w);have HZZ:=yP9 hZZ;rw[←hZZ,hk];clear hk hZZ;obtain⟨W0,hW0⟩:=qE (w.alloc (Obj.cells #[.int .i64 0,.string ⟨#[]⟩,.bool false,.string ⟨#[]⟩,.int .u64 0,.int .u64 0,.int .i64 0] 65):World);have b3:Below w.heap.size w W0:=by rw[hW0];exact qB
 have b1:yA W0 w.heap.size 65 7 w.heap.size [.int .i64 0,.string ⟨#[]⟩,.bool false,.string ⟨#[]⟩,.int .u64 0,.int .u64 0,.int .i64 0]:=by rw[hW0];exact yAb w _ (Nat.le_refl _) rfl
 have hbs:Below base w W0:=b3.mono hS.sz;have hnl:=h.nlt;have HW0:Hid (yA W0 w.heap.size 65 7 w.heap.size [.int .i64 0,.string ⟨#[]⟩,.bool false,.string ⟨#[]⟩,.int .u64 0,.int .u64 0,.int .i64 0]∧Fp base g b off n cap t d s k ks p nv W0∧FpS base b off n cap t W0∧Chg (fun q=>q=g∨nv.ownBlock=some q) w W0∧(∀q,nv.ownBlock=some q→q<w.heap.size)∧s.ks=k::ks):=⟨b1,h.below b3,hS.up hbs,Chg.of_below b3,fun q hq=>(hnl q hq).2,h.eq⟩;have hgl:=h.fs.lt;have hkd:=h.kinds;have cK:=(h.below b3).fs.cell (j:=2) rfl;have cT:=(h.below b3).fs.cell (j:=5) rfl;clear h hS b1 b3 hbs hnl;have die:∀(c:Int),argP kd s=.error (c,k.pos)→∀W',Chg (fun q=>q=g∨nv.ownBlock=some q) w W'→Hid (ZZ (Pf c (k.pos:Int)) W'):=fun c hc W' hW=>by show ZZ _ _;rw[HZZ.out];exact⟨hW,.inr ⟨c,k.pos,hc.symm,rfl⟩⟩
 by_cases hst:∃v,k.k=.num v;case neg=>
  have zk:(((ftB k.k).toNat:Int)==48)=false:=by
   cases hq:k.k with
   |num v=>exact absurd ⟨v,hq⟩ hst
   |sign c=>
    rw[hq]at hkd;rcases hkd with q|q
    ·rcases q with rfl|rfl|rfl|rfl|rfl|rfl<;>rfl
    ·cases q
   |word _=>rfl
   |str _=>rfl
   |fin=>rfl
   |bad=>rfl
  have HD:=die 3 (yQ6 (by omega) HW0.2.2.2.2.2 (fun v q=>hst ⟨v,q⟩)) W0 HW0.2.2.2.1;exact zzQ44
 case pos=>
 obtain⟨v,hsx⟩:=hst;have hk34:ftB k.k=48:=by rw[hsx];rfl
 have htx:k.k.nm=v:=by rw[hsx];rfl
 rw[hk34]at cK;rw[htx]at cT;have Hfin:Hid (k.k.isFin=false):=by show _=_;rw[hsx];rfl
 have HAr:Hid (((1≤v∧v≤1000)→argP kd s=(match yA9 s.ks with
   | .error e=>.error e
   | .ok k2=>.ok ({s with ks:=k2},cntN kd v)))∧(¬(1≤v∧v≤1000)→argP kd s=.error (8,k.pos))):=yWt (by omega) HW0.2.2.2.2.2 hsx
 have htv:Hid (ftV k= [.int .u8 48,.int .i64 (k.pos:Int),.int .i64 0,.int .u64 v,.string ⟨#[]⟩]):=by show _=_;unfold ftV;rw[hk34,htx,hsx];rfl
 clear hkd hk34 htx hsx;by_cases hv:1≤v∧v≤1000;case neg=>
  have HD:=die 8 (HAr.2 hv) W0 HW0.2.2.2.1;by_cases h1:1≤v
  ·have z1:decide ((1:Int)≤v)=true:=decide_eq_true h1;have z2:decide (v≤(1000:Int))=false:=decide_eq_false (fun q=>hv ⟨h1,q⟩);exact zzQ43
  ·have z1:decide ((1:Int)≤v)=false:=decide_eq_false h1;exact zzQ43
 case pos=>
 have z1:decide ((1:Int)≤v)=true:=decide_eq_true hv.1;have z2:decide (v≤(1000:Int))=true:=decide_eq_true hv.2
 have HAr2:Hid (argP kd s=(match yA9 s.ks with
   | .error e=>.error e
   | .ok k2=>.ok ({s with ks:=k2},cntN kd v))):=HAr.1 hv
 have HTk:Hid (Calls Tryz.prog 114 #[.pointer (some ⟨g,0,none⟩)] W0 (TakP base g b off n cap t d s k nv W0)):=yDh HW0.2.2.1 HW0.2.1 Hfin.out;have zv:IntKind.i64.wrap v=v:=wrap64 (by omega) (by omega);clear die;go_enter Tryz.func117,Tryz.ntmps117;go_upto_region 2 with fail;rw[←hW0];clear hW0;go_wp2_with fail;refine(yCo _ 3 W0).mono ?_;rintro e w2 ⟨rfl,hw2⟩;rw[hw2];clear hw2;go_wp2_with fail;refine(yCo _ 8 W0).mono ?_;rintro e w2 ⟨rfl,hw2⟩;rw[hw2];clear hw2;go_wp2_with fail;refine HTk.mono ?_;rintro e w3 ⟨Hb3,(⟨k2,ks2,p2,htk,rfl,hF3⟩|⟨c,a,htk,rfl⟩)⟩
 ·have hBx:=HW0.1.chg Hb3.out (by omega);have HF3:Hid (Fp base g b off n cap t d {s with ks:=k2::ks2} k2 ks2 p2 nv w3∧yA9 s.ks=.ok (k2::ks2)∧Chg (fun q=>q=g) W0 w3):=⟨hF3,htk,Hb3.out⟩;have hfe:(Instr.field 52 (.agg (ftV k).toArray) 3).run Tryz.prog w3=.ok (.int .u64 v) w3:=by rw[htv.out];kernel_rfl
  clear htk hF3 HTk cK cT;obtain⟨l0,l1,l2,l3,l4,l5,l6⟩:=hBx.c7;obtain⟨f0,f1,f2,f3,f4,f5,f6⟩:=hBx.f7;obtain⟨W9,hW9⟩:∃V:World,V=setN w3 w.heap.size (cntN kd v):=⟨_,rfl⟩;have hB9:=hBx.setN (cntN kd v);rw[←hW9]at hB9;have hc9:Chg (fun q=>q=w.heap.size) w3 W9:=by rw[hW9];exact yB2 _ _ _
  have HR:Hid (ZZ (.returned (cntN kd v).v) W9):=by show ZZ _ _;rw[HZZ.out];exact BehP.box (s1:=⟨k2::ks2,s.made,s.out⟩) (by show _=_;rw[HAr2.out,HF3.2.1]) HF3.1 (Chg.comp HW0.2.2.2.1 HF3.2.2 (fun q _ z=>.inl z)) (fun q hq=>.inl hq) hc9 (by omega) (fun q hq z=>by have:=HW0.2.2.2.2.1 q hq;omega)
  obtain⟨q0,q1,q2,q3,q4,q5,q6⟩:=hB9.c7;unfold setN at hW9;simp only[yAc,patN,cntN,noS,HKd.out]at hW9 q0 q1 q2 q3 q4 q5 q6;clear hB9 hc9;go_wp2_with fail;rw[←hW9];exact bodyPost_ret (v:=(cntN kd v).v) (by simp[results,Tryz.results117,go_sem,q0,q1,q2,q3,q4,q5,q6,yAc,patN,cntN,noS,HKd.out]) rfl HR.out
 ·have HD:Hid (ZZ (Pf c (a:Int)) w3):=by show ZZ _ _;rw[HZZ.out];exact⟨Chg.comp HW0.2.2.2.1 Hb3.out (fun q _ z=>.inl z),.inr ⟨c,a,by rw[HAr2.out,htk],rfl⟩⟩
  clear htk HTk;exact⟨rfl,HD.out⟩):p:=h
theorem yTr (hk:kd=11):BehC kd:=by exact zBee
theorem yTq (hk:kd=12):BehC kd:=by exact zBee
theorem yTp (hk:kd=13):BehC kd:=by exact zBee
variable {p:Nat}
theorem yTo (hS:FpS base b off n cap t w) (h:Fp base g b off n cap t d s k ks p nv w) {F:Ps→PR Ps→Prop} (HF:0<d→OprC base g b off n cap t (d-1) 26 F):Calls Tryz.prog 117 #[.pointer (some ⟨g,0,none⟩),.int .i64 16] w (BehP base g b off n cap t d (fun r=>(∃s1,yDc F d s (.ok s1)∧r=.ok (s1,yAc 16))∨(∃e,yDc F d s (.error e)∧r=.error e)) nv w):=by
 obtain⟨W0,hW0⟩:=qE (w.alloc (Obj.cells #[.int .i64 0,.string ⟨#[]⟩,.bool false,.string ⟨#[]⟩,.int .u64 0,.int .u64 0,.int .i64 0] 65):World);have b3:Below w.heap.size w W0:=by rw[hW0];exact qB
 have b1:yA W0 w.heap.size 65 7 w.heap.size [.int .i64 0,.string ⟨#[]⟩,.bool false,.string ⟨#[]⟩,.int .u64 0,.int .u64 0,.int .i64 0]:=by rw[hW0];exact yAb w _ (Nat.le_refl _) rfl
 have hbs:Below base w W0:=b3.mono hS.sz;have hnl:=h.nlt;have HW0:Hid (yA W0 w.heap.size 65 7 w.heap.size [.int .i64 0,.string ⟨#[]⟩,.bool false,.string ⟨#[]⟩,.int .u64 0,.int .u64 0,.int .i64 0]∧Fp base g b off n cap t d s k ks p nv W0∧FpS base b off n cap t W0∧Chg (fun q=>q=g∨nv.ownBlock=some q) w W0∧(∀q,nv.ownBlock=some q→q<w.heap.size)∧s.ks=k::ks):=⟨b1,h.below b3,hS.up hbs,Chg.of_below b3,fun q hq=>(hnl q hq).2,h.eq⟩;have hgl:=h.fs.lt;have HBr:Hid (Calls Tryz.prog 128 #[.pointer (some ⟨g,0,none⟩)] W0 (FpO base g b off n cap t d (yDc F d s) (.tuple #[]) nv W0)):=yMc HF HW0.2.2.1 HW0.2.1;have hsz0:w.heap.size<W0.heap.size:=by rw[hW0];simp
 clear h hS b1 b3 hbs hnl HF;go_enter Tryz.func117,Tryz.ntmps117;go_upto_region 2 with fail;rw[←hW0];clear hW0;go_wp2_with fail;refine HBr.mono ?_;rintro e w3 ⟨Hc3,(⟨s1,hs1,rfl,k2,ks2,p2,nv3,hF3,hn3⟩|⟨c,a,hs1,rfl⟩)⟩;case inr=>
  have HD:Hid (BehP base g b off n cap t d (fun r=>(∃s1,yDc F d s (.ok s1)∧r=.ok (s1,yAc 16))∨(∃e,yDc F d s (.error e)∧r=.error e)) nv w (Pf c (a:Int)) w3):=⟨Chg.comp HW0.2.2.2.1 Hc3.out (fun q _ z=>z),.inr ⟨c,a,.inr ⟨_,hs1,rfl⟩,rfl⟩⟩;clear hs1 HBr;exact⟨rfl,HD.out⟩
 have hBx:=HW0.1.chg Hc3.out (fun z=>by
  rcases z with z|z
  ·omega
  ·have:=HW0.2.2.2.2.1 _ z;omega)
 have HF3:Hid (Fp base g b off n cap t d s1 k2 ks2 p2 nv3 w3∧yDc F d s (.ok s1)∧Chg (fun q=>q=g∨nv.ownBlock=some q) w w3∧(∀q,nv3.ownBlock=some q→(nv.ownBlock=some q∨w.heap.size≤q)∧¬q=w.heap.size)):=⟨hF3,hs1,Chg.comp HW0.2.2.2.1 Hc3.out (fun q _ z=>z),fun q hq=>by
  rcases hn3 q hq with y|y
  ·have:=HW0.2.2.2.2.1 q y
   exact⟨.inl y,by omega⟩
  ·exact⟨.inr (by omega),by omega⟩⟩
 clear hs1 hF3 hn3 HBr;obtain⟨l0,l1,l2,l3,l4,l5,l6⟩:=hBx.c7;obtain⟨f0,f1,f2,f3,f4,f5,f6⟩:=hBx.f7;obtain⟨W9,hW9⟩:∃V:World,V=setN w3 w.heap.size (yAc 16):=⟨_,rfl⟩;have hB9:=hBx.setN (yAc 16);rw[←hW9]at hB9;have hc9:Chg (fun q=>q=w.heap.size) w3 W9:=by rw[hW9];exact yB2 _ _ _
 have HR:Hid (BehP base g b off n cap t d (fun r=>(∃s1,yDc F d s (.ok s1)∧r=.ok (s1,yAc 16))∨(∃e,yDc F d s (.error e)∧r=.error e)) nv w (.returned (yAc 16).v) W9):=BehP.box (s1:=s1) (.inl ⟨s1,HF3.2.1,rfl⟩) HF3.1 HF3.2.2.1 (fun q hq=>(HF3.2.2.2 q hq).1) hc9 (by omega) (fun q hq=>(HF3.2.2.2 q hq).2);obtain⟨q0,q1,q2,q3,q4,q5,q6⟩:=hB9.c7;unfold setN at hW9;simp only[yAc,patN,cntN,noS]at hW9 q0 q1 q2 q3 q4 q5 q6;clear hB9 hc9;go_wp2_with fail;rw[←hW9];exact bodyPost_ret (v:=(yAc 16).v) (by simp[results,Tryz.results117,go_sem,q0,q1,q2,q3,q4,q5,q6,yAc,patN,cntN,noS]) rfl HR.out
def yCe (s:Ps) (r:PR (List Tk×Nd)):PR (Ps×Nd):=match r with
 | .error e=>.error e
 | .ok (ks,nd)=>.ok ({s with ks:=ks},nd)
theorem yJ5 (kd:Int) (s:Ps):argP kd s=yCe s (yDa kd s.ks):=rfl
structure EnJ (w:World) (base g b off n cap:Nat) (t:List UInt8) (d:Nat) (nv0:Value) (a:Tk) (s:Ps) (k:Tk) (ks:List Tk) (p:Nat) (nv:Value) (W:World):Prop where
 fp:Fp base g b off n cap t d s k ks p nv W
 st:FpS base b off n cap t W
 res:yA W w.heap.size 65 7 w.heap.size [.int .i64 0,.string ⟨#[]⟩,.bool false,.string ⟨#[]⟩,.int .u64 0,.int .u64 0,.int .i64 0]
 low:yA W w.heap.size 52 5 (w.heap.size+1) (ftV a)
 chg:Chg (fun q=>q=g∨nv0.ownBlock=some q) w W
 old:∀q,nv0.ownBlock=some q→q<w.heap.size
 own:∀q,nv.ownBlock=some q→(nv0.ownBlock=some q∨w.heap.size+2≤q)
 lt:base≤w.heap.size∧base≤g∧g<w.heap.size∧w.heap.size+2≤W.heap.size
variable {nv0:Value} {a:Tk} {W W':World}
theorem EnJ.up (h:EnJ w base g b off n cap t d nv0 a s k ks p nv W) (hb:Below W.heap.size W W'):EnJ w base g b off n cap t d nv0 a s k ks p nv W':=
 ⟨h.fp.below hb,h.st.up (hb.mono h.st.sz),h.res.chg (S:=fun _=>False) (Chg.of_below hb) (fun q=>q),h.low.chg (S:=fun _=>False) (Chg.of_below hb) (fun q=>q),Chg.comp h.chg (Chg.of_below (S:=fun _=>False) hb) (fun _ _ q=>q.elim),h.old,h.own,by have:=h.lt;have:=hb.size;omega⟩
theorem EnJ.on (h:EnJ w base g b off n cap t d nv0 a s k ks p nv W) (hc:Chg (fun q=>q=g∨nv.ownBlock=some q) W W') {s2:Ps} {k2:Tk} {ks2:List Tk} {p2:Nat} {nv2:Value} (hF:Fp base g b off n cap t d s2 k2 ks2 p2 nv2 W') (ho:∀q,nv2.ownBlock=some q→nv.ownBlock=some q∨W.heap.size≤q):EnJ w base g b off n cap t d nv0 a s2 k2 ks2 p2 nv2 W':=by
 have hl:=h.lt;have hn:∀q,(q=g∨nv.ownBlock=some q)→¬q=w.heap.size∧¬q=w.heap.size+1:=by
  intro q hq;rcases hq with hq|hq
  ·omega
  ·rcases h.own q hq with z|z
   ·have:=h.old q z;omega
   ·omega
 have hbb:Below base W W':=by
  refine⟨hc.os,hc.tape,hc.output,hc.size,fun q hq=>hc.block q (Nat.lt_of_lt_of_le hq h.st.sz) (fun z=>?_)⟩;rcases z with z|z
  ·omega
  ·have:=(h.fp.nlt q z).1;omega
 refine⟨hF,h.st.up hbb,h.res.chg hc (fun z=>(hn _ z).1 rfl),h.low.chg hc (fun z=>(hn _ z).2 rfl),Chg.comp h.chg hc (fun q hq z=>?_),h.old,fun q hq=>?_,by have:=hc.size;omega⟩
 ·rcases z with z|z
  ·exact .inl z
  ·rcases h.own q z with y|y
   ·exact .inr y
   ·omega
 ·rcases ho q hq with y|y
  ·exact h.own q y
  ·exact .inr (by omega)
theorem EnJ.side {B:Nat} (h:EnJ w base g b off n cap t d nv0 a s k ks p nv W) (hc:Chg (fun q=>q=B) W W') (hB:w.heap.size+2≤B) (hn:∀q,nv.ownBlock=some q→¬q=B):EnJ w base g b off n cap t d nv0 a s k ks p nv W':=by have hl:=h.lt;refine⟨h.fp.chg hc (by omega) hn,h.st.chg hc (fun q z=>by omega),h.res.chg hc (by omega),h.low.chg hc (by omega),Chg.comp h.chg hc (fun q hq z=>by omega),h.old,h.own,by have:=hc.size;omega⟩
theorem EnJ.fin (h:EnJ w base g b off n cap t d nv0 a s k ks p nv W) {nd:Nd} (hA:A (.ok (s,nd))) (hc:Chg (fun q=>q=w.heap.size) W W'):BehP base g b off n cap t d A nv0 w (.returned nd.v) W':=by
 have hl:=h.lt;refine BehP.box (nv3:=nv) (Bk:=w.heap.size) hA h.fp h.chg (fun q hq=>?_) hc (by omega) (fun q hq=>?_)
 ·rcases h.own q hq with z|z
  ·exact .inl z
  ·exact .inr (by omega)
 ·rcases h.own q hq with z|z
  ·have:=h.old q z;omega
  ·omega
variable {c:Int}
theorem EnJ.die (h:EnJ w base g b off n cap t d nv0 a s k ks p nv W) (hc:Chg (fun q=>q=g∨nv.ownBlock=some q) W W') {e:Nat} (hA:A (.error (c,e))):BehP base g b off n cap t d A nv0 w (Pf c (e:Int)) W':=by
 refine⟨Chg.comp h.chg hc (fun q hq z=>?_),.inr ⟨c,e,hA,rfl⟩⟩;rcases z with z|z
 ·exact .inl z
 ·rcases h.own q z with y|y
  ·exact .inr y
  ·have:=h.lt;omega
theorem yXj {t1 t2:Nat} (v u:List Value) (h:W=(w.alloc (Obj.cells v.toArray t1)).alloc (Obj.cells u.toArray t2)):yA W w.heap.size t1 v.length w.heap.size v∧yA W w.heap.size t2 u.length (w.heap.size+1) u∧Below w.heap.size w W∧W.heap.size=w.heap.size+2:=by
 obtain⟨X,hX⟩:=qE (w.alloc (Obj.cells v.toArray t1):World);have z:X.heap.size=w.heap.size+1:=by rw[hX];simp
 have b1:=yAb w (base:=w.heap.size) (t:=t1) (sz:=v.length) v.toArray (Nat.le_refl _) (by simp);have k1:Below w.heap.size w X:=by rw[hX];exact qB
 rw[←hX]at b1 h;have k2:Below X.heap.size X W:=by rw[h];exact qB
 have b2:=yAb X (base:=w.heap.size) (t:=t2) (sz:=u.length) u.toArray (by omega) (by simp);rw[←h,z]at b2;exact⟨b1.below k2,b2,k1.trans (k2.mono (by omega)),by rw[h];simp;omega⟩
theorem yJt {k:TkK} (hk:k.good∨k=.fin) (strs:Bool):(((ftB k).toNat:Int)==(if strs=true then 34 else 48))=k.isSort strs:=by
 cases strs<;>(rcases hk with q|q
               ·cases k with
                |sign c=>rcases q with rfl|rfl|rfl|rfl|rfl|rfl<;>rfl
                |word _=>rfl
                |num _=>rfl
                |str _=>rfl
                |fin=>rfl
                |bad=>rfl
               ·rw[q];rfl)
theorem yLf {k:TkK} {strs:Bool} (h:k.isSort strs=true):k.isFin=false:=by cases k<;>cases strs<;>simp_all[TkK.isSort,TkK.isFin]
theorem yQw {e:Nat} {x:UInt8} (h:Except.error (c,e)=s.to (yAs x s.ks)):yAs x s.ks=.error (c,e):=by
 cases hq:yAs x s.ks with
 |error q=>rw[hq]at h;cases h;rfl
 |ok q=>rw[hq]at h;cases h
theorem yNh {s1:Ps} {x:UInt8} (h:Except.ok s1=s.to (yAs x s.ks)):∃k2,yAs x s.ks=.ok k2∧s1={s with ks:=k2}:=by
 cases hq:yAs x s.ks with
 |error q=>rw[hq]at h;cases h
 |ok q=>rw[hq]at h;cases h;exact⟨q,rfl,rfl⟩
theorem yIb (hS:FpS base b off n cap t w) (h:Fp base g b off n cap t d s k ks p nv w) (strs:Bool) (kd sv:Int) (hsv:(if strs=true then(34:Int)else 48)=sv):Calls Tryz.prog 129 #[.pointer (some ⟨g,0,none⟩),.int .i64 kd,.int .u8 sv] w (BehP base g b off n cap t d (fun r=>r=yCe s (yB kd strs s.ks)) nv w):=by
 obtain⟨W0,hW0⟩:=qE ((w.alloc (Obj.cells #[.int .i64 0,.string ⟨#[]⟩,.bool false,.string ⟨#[]⟩,.int .u64 0,.int .u64 0,.int .i64 0] 65)).alloc (Obj.cells #[.int .u8 0,.int .i64 0,.int .i64 0,.int .u64 0,.string ⟨#[]⟩] 52):World);obtain⟨b1,b2,b3,z3⟩:=yXj [.int .i64 0,.string ⟨#[]⟩,.bool false,.string ⟨#[]⟩,.int .u64 0,.int .u64 0,.int .i64 0] [.int .u8 0,.int .i64 0,.int .i64 0,.int .u64 0,.string ⟨#[]⟩] hW0;have hnl:=h.nlt;have hgl:=h.fs.lt;have HJ0:Hid (EnJ w base g b off n cap t d nv ⟨.fin,0⟩ s k ks p nv W0∧(k.k.good∨k.k=.fin)∧s.ks=k::ks):=⟨⟨h.below b3,hS.up (b3.mono hS.sz),b1,b2,Chg.of_below b3,fun q hq=>(hnl q hq).2,fun q hq=>.inl hq,⟨hS.sz,hgl.1,hgl.2,by omega⟩⟩,h.kinds,h.eq⟩;clear h hS b1 b2 b3 z3 hnl;go_enter Tryz.func129,Tryz.ntmps129;go_upto_region 2 with fail;rw[←hW0];clear hW0;have cK:=HJ0.1.fp.fs.cell (j:=2) rfl;have zK:=yJt HJ0.2.1 strs;rw[hsv]at zK;by_cases h1:k.k.isSort strs=true;case neg=>
  have h1':k.k.isSort strs=false:=by simpa using h1
  rw[h1']at zK;obtain⟨a,ha⟩:=qE (⟨.fin,0⟩:Tk);have HA:Hid (yCe s (yB kd strs s.ks)=yCe s (yFj kd strs a.k s.ks)):=by show _=_;rw[yB,if_neg (by rw[HJ0.2.2];show¬k.k.isSort strs=true;rw[h1'];simp),ha]
  have HJ:Hid (EnJ w base g b off n cap t d nv a s k ks p nv W0):=by rw[ha];exact HJ0.1
  clear HJ0 ha h1 h1';go_upto_region 4 with fail;clear cK zK;have HE:Hid (Calls Tryz.prog 127 #[.pointer (some ⟨g,0,none⟩),.int .u8 46] W0 (FpO base g b off n cap t d (fun r=>r=s.to (yAs 46 s.ks)) (.agg (ftV k).toArray) nv W0)):=yD2 (bb:=46) HJ.st HJ.fp (by simp);go_wp2_with fail;refine HE.mono ?_;clear HE;rintro e w3 ⟨Hc3,(⟨s3,hs3,rfl,k3,ks3,p3,nv3,hF3,hn3⟩|⟨c,e3,hs3,rfl⟩)⟩;case inr=>
   exact zzQ59
  have HJ3:Hid (EnJ w base g b off n cap t d nv a s3 k3 ks3 p3 nv3 w3):=HJ.on Hc3.out hF3 hn3;have HA3:Hid (yCe s (yB kd strs s.ks)=yCe s3 (upF kd strs a.k s3.ks)):=by obtain⟨q,hq,rfl⟩:=yNh hs3;show _=_;rw[HA.out,yFj,hq];rfl
  clear hs3 hF3 hn3 Hc3;have m3:=HJ3.low.cell (j:=3) rfl;have m4:=HJ3.low.cell (j:=4) rfl;obtain⟨W4,hW4⟩:∃V:World,V=w3.alloc (Obj.cells #[.int .i64 kd,.string a.k.txt,.bool false,.string ⟨#[]⟩,.int .u64 a.k.nm,.int .u64 0,.int .i64 0] 65):=⟨_,rfl⟩;have b4:Below w3.heap.size w3 W4:=by rw[hW4];exact qB
  have H4:Hid (EnJ w base g b off n cap t d nv a s3 k3 ks3 p3 nv3 W4∧yA W4 w3.heap.size 65 7 w3.heap.size [.int .i64 kd,.string a.k.txt,.bool false,.string ⟨#[]⟩,.int .u64 a.k.nm,.int .u64 0,.int .i64 0]∧(k3.k.good∨k3.k=.fin)∧s3.ks=k3::ks3):=⟨HJ3.up b4,by rw[hW4];exact yAb w3 _ (Nat.le_refl _) rfl,HJ3.fp.kinds,HJ3.fp.eq⟩;go_upto_region 6 with fail;rw[←hW4];clear hW4 m3 m4 b4;have cK:=H4.1.fp.fs.cell (j:=2) rfl;have zK:=yJt H4.2.2.1 strs;rw[hsv]at zK;by_cases h3:k3.k.isSort strs=true;case neg=>
   exact zzQ14
  rw[h3]at zK;have hfin:=yLf h3
  have eU:upF kd strs a.k s3.ks=(if less a.k.txt k3.k.txt∨a.k.nm<k3.k.nm then(match yA9 s3.ks with
     | .error e=>.error e
     | .ok k2=>.ok (k2,(⟨kd,a.k.txt,true,k3.k.txt,a.k.nm,k3.k.nm,0⟩:Nd)))else .error (7,k3.pos)):=by
   unfold upF;rw[if_pos (by rw[H4.2.2.2];exact h3)];rw[show hdK s3.ks=k3.k from by rw[H4.2.2.2];rfl,show hdA s3.ks=k3.pos from by rw[H4.2.2.2];rfl];rfl
  have HA5:Hid (yCe s (yB kd strs s.ks)=yCe s3 (if less a.k.txt k3.k.txt∨a.k.nm<k3.k.nm then(match yA9 s3.ks with
     | .error e=>.error e
     | .ok k2=>.ok (k2,(⟨kd,a.k.txt,true,k3.k.txt,a.k.nm,k3.k.nm,0⟩:Nd)))else .error (7,k3.pos))):=by show _=_;rw[HA3.out,eU]
  clear eU h3 HA3;go_upto_region 7 with fail;clear cK zK;by_cases hl1:less a.k.txt k3.k.txt;case pos=>
   have hd1:Op.bytesLess a.k.txt.toList k3.k.txt.toList=true:=hl1
   have HA6:Hid (yCe s (yB kd strs s.ks)=yCe s3 (match yA9 s3.ks with
     | .error e=>.error e
     | .ok k2=>.ok (k2,(⟨kd,a.k.txt,true,k3.k.txt,a.k.nm,k3.k.nm,0⟩:Nd)))):=by show _=_;rw[HA5.out,if_pos (by exact .inl hl1)]
   clear hl1;have e4:=H4.1.low.cell (j:=4) rfl;have e3:=H4.1.low.cell (j:=3) rfl;have e6:=H4.1.fp.fs.cell (j:=6) rfl;have e5:=H4.1.fp.fs.cell (j:=5) rfl;have hS0:SW (fun w':World=>w'.cell? ⟨w.heap.size+1,4,none⟩=some (.string a.k.txt)∧w'.cell? ⟨w.heap.size+1,3,none⟩=some (.int .u64 a.k.nm)∧w'.cell? ⟨g,6,none⟩=some (.string k3.k.txt)∧w'.cell? ⟨g,5,none⟩=some (.int .u64 k3.k.nm)) W4.drew:=⟨e4,e3,e6,e5⟩;clear e3 e4 e5 e6;refine wpR 99 hS0 ?_;refine j0a 0 hS0 ?_;iterate 7 refine j0b hS0 ?_
   refine j0a 8 hS0 (v:=(.bool true)) ?_;iterate 10 refine j0b hS0 ?_
   exact zzQ1
  have hd1:Op.bytesLess a.k.txt.toList k3.k.txt.toList=false:=by unfold less at hl1;simpa using hl1
  by_cases hl2:a.k.nm<k3.k.nm;case pos=>
   have hd2:decide (a.k.nm<k3.k.nm)=true:=decide_eq_true hl2
   have HA6:Hid (yCe s (yB kd strs s.ks)=yCe s3 (match yA9 s3.ks with
     | .error e=>.error e
     | .ok k2=>.ok (k2,(⟨kd,a.k.txt,true,k3.k.txt,a.k.nm,k3.k.nm,0⟩:Nd)))):=by show _=_;rw[HA5.out,if_pos (by exact .inr hl2)]
   clear hl1 hl2;have e4:=H4.1.low.cell (j:=4) rfl;have e3:=H4.1.low.cell (j:=3) rfl;have e6:=H4.1.fp.fs.cell (j:=6) rfl;have e5:=H4.1.fp.fs.cell (j:=5) rfl;have hS0:SW (fun w':World=>w'.cell? ⟨w.heap.size+1,4,none⟩=some (.string a.k.txt)∧w'.cell? ⟨w.heap.size+1,3,none⟩=some (.int .u64 a.k.nm)∧w'.cell? ⟨g,6,none⟩=some (.string k3.k.txt)∧w'.cell? ⟨g,5,none⟩=some (.int .u64 k3.k.nm)) W4.drew:=⟨e4,e3,e6,e5⟩;clear e3 e4 e5 e6;refine wpR 99 hS0 ?_;refine j0a 0 hS0 ?_;iterate 7 refine j0b hS0 ?_
   refine j0a 8 hS0 (v:=(.bool false)) ?_;iterate 8 refine j0b hS0 ?_
   refine j0a 17 hS0 (v:=(.bool true)) ?_;refine j0b hS0 ?_;exact zzQ1
  exact zzQ15
 rw[h1]at zK;have HTk:Hid (Calls Tryz.prog 114 #[.pointer (some ⟨g,0,none⟩)] W0 (TakP base g b off n cap t d s k nv W0)):=yDh HJ0.1.st HJ0.1.fp (yLf h1)
 have HA0:Hid (yCe s (yB kd strs s.ks)=yCe s (match yA9 s.ks with
   | .error e=>.error e
   | .ok k2=>yFj kd strs k.k k2)):=by
  show _=_;rw[yB,if_pos (by rw[HJ0.2.2];exact h1)];rw[show hdK s.ks=k.k from by rw[HJ0.2.2];rfl];rfl
 clear h1;go_wp2_with fail;refine HTk.mono ?_;clear HTk;rintro e w1 ⟨Hb1,(⟨k1,ks1,p1,htk,rfl,hF1⟩|⟨c,e1,htk,rfl⟩)⟩;case inr=>
  have HD:Hid (BehP base g b off n cap t d (fun r=>r=yCe s (yB kd strs s.ks)) nv w (Pf c (e1:Int)) w1):=HJ0.1.die (Hb1.mono (fun q z=>.inl z)) (by
   show _=_
   rw[HA0.out,htk];rfl)
  clear htk;exact⟨rfl,HD.out⟩
 obtain⟨s2,hs2⟩:=qE (⟨k1::ks1,s.made,s.out⟩:Ps);have hJ1:EnJ w base g b off n cap t d nv ⟨.fin,0⟩ s2 k1 ks1 p1 nv w1:=by rw[hs2];exact HJ0.1.on (Hb1.mono (fun q z=>.inl z)) hF1 (fun q hq=>.inl hq)
 have HA:Hid (yCe s (yB kd strs s.ks)=yCe s2 (yFj kd strs k.k s2.ks)):=by show _=_;rw[HA0.out,htk,hs2];rfl
 obtain⟨l0,l1,l2,l3,l4⟩:=hJ1.low.c5;obtain⟨f0,f1,f2,f3,f4⟩:=hJ1.low.f5;obtain⟨W2,hW2⟩:∃V:World,V=setP w1 (w.heap.size+1) (.int .u8 ((ftB k.k).toNat:Int)) (.int .i64 (k.pos:Int)) (.int .i64 k.k.wd) (.int .u64 k.k.nm) (.string k.k.txt):=⟨_,rfl⟩;have HJ:Hid (EnJ w base g b off n cap t d nv k s2 k1 ks1 p1 nv W2):=by
  have hc2:Chg (fun q=>q=w.heap.size+1) w1 W2:=by rw[hW2];exact yCp _ _ _ _ _ _ _
  have hl:=hJ1.lt;have hno:∀q,nv.ownBlock=some q→¬q=w.heap.size+1:=fun q hq z=>by have:=hJ1.old q hq;omega
  exact⟨hJ1.fp.chg hc2 (by omega) hno,hJ1.st.chg hc2 (fun q z=>by omega),hJ1.res.chg hc2 (by omega),by rw[hW2];exact hJ1.low.setP _ _ _ _ _,Chg.comp hJ1.chg hc2 (fun q hq z=>by omega),hJ1.old,hJ1.own,by have:=hc2.size;omega⟩
 clear hJ1 HA0 HJ0 htk hF1 Hb1 hs2;unfold setP at hW2;obtain⟨a,ha⟩:=qE (k:Tk);have zft:ftV k= [.int .u8 ((ftB k.k).toNat:Int),.int .i64 (k.pos:Int),.int .i64 k.k.wd,.int .u64 k.k.nm,.string k.k.txt]:=rfl;rw[←ha]at HJ HA;go_upto_region 4 with fail;rw[←hW2];clear hW2 cK zK l0 l1 l2 l3 l4 f0 f1 f2 f3 f4 ha zft;have HE:Hid (Calls Tryz.prog 127 #[.pointer (some ⟨g,0,none⟩),.int .u8 46] W2 (FpO base g b off n cap t d (fun r=>r=s2.to (yAs 46 s2.ks)) (.agg (ftV k1).toArray) nv W2)):=yD2 (bb:=46) HJ.st HJ.fp (by simp);go_wp2_with fail;refine HE.mono ?_;clear HE;rintro e w3 ⟨Hc3,(⟨s3,hs3,rfl,k3,ks3,p3,nv3,hF3,hn3⟩|⟨c,e3,hs3,rfl⟩)⟩;case inr=>
  exact zzQ59
 have HJ3:Hid (EnJ w base g b off n cap t d nv a s3 k3 ks3 p3 nv3 w3):=HJ.on Hc3.out hF3 hn3;have HA3:Hid (yCe s (yB kd strs s.ks)=yCe s3 (upF kd strs a.k s3.ks)):=by obtain⟨q,hq,rfl⟩:=yNh hs3;show _=_;rw[HA.out,yFj,hq];rfl
 clear hs3 hF3 hn3 Hc3;have m3:=HJ3.low.cell (j:=3) rfl;have m4:=HJ3.low.cell (j:=4) rfl;obtain⟨W4,hW4⟩:∃V:World,V=w3.alloc (Obj.cells #[.int .i64 kd,.string a.k.txt,.bool false,.string ⟨#[]⟩,.int .u64 a.k.nm,.int .u64 0,.int .i64 0] 65):=⟨_,rfl⟩;have b4:Below w3.heap.size w3 W4:=by rw[hW4];exact qB
 have H4:Hid (EnJ w base g b off n cap t d nv a s3 k3 ks3 p3 nv3 W4∧yA W4 w3.heap.size 65 7 w3.heap.size [.int .i64 kd,.string a.k.txt,.bool false,.string ⟨#[]⟩,.int .u64 a.k.nm,.int .u64 0,.int .i64 0]∧(k3.k.good∨k3.k=.fin)∧s3.ks=k3::ks3):=⟨HJ3.up b4,by rw[hW4];exact yAb w3 _ (Nat.le_refl _) rfl,HJ3.fp.kinds,HJ3.fp.eq⟩;go_upto_region 6 with fail;rw[←hW4];clear hW4 m3 m4 b4;have cK:=H4.1.fp.fs.cell (j:=2) rfl;have zK:=yJt H4.2.2.1 strs;rw[hsv]at zK;by_cases h3:k3.k.isSort strs=true;case neg=>
  exact zzQ14
 rw[h3]at zK;have hfin:=yLf h3
 have eU:upF kd strs a.k s3.ks=(if less a.k.txt k3.k.txt∨a.k.nm<k3.k.nm then(match yA9 s3.ks with
        | .error e=>.error e
        | .ok k2=>.ok (k2,(⟨kd,a.k.txt,true,k3.k.txt,a.k.nm,k3.k.nm,0⟩:Nd)))else .error (7,k3.pos)):=by
  unfold upF;rw[if_pos (by rw[H4.2.2.2];exact h3)];rw[show hdK s3.ks=k3.k from by rw[H4.2.2.2];rfl,show hdA s3.ks=k3.pos from by rw[H4.2.2.2];rfl];rfl
 have HA5:Hid (yCe s (yB kd strs s.ks)=yCe s3 (if less a.k.txt k3.k.txt∨a.k.nm<k3.k.nm then(match yA9 s3.ks with
        | .error e=>.error e
        | .ok k2=>.ok (k2,(⟨kd,a.k.txt,true,k3.k.txt,a.k.nm,k3.k.nm,0⟩:Nd)))else .error (7,k3.pos))):=by show _=_;rw[HA3.out,eU]
 clear eU h3 HA3;go_upto_region 7 with fail;clear cK zK;by_cases hl1:less a.k.txt k3.k.txt;case pos=>
  have hd1:Op.bytesLess a.k.txt.toList k3.k.txt.toList=true:=hl1
  have HA6:Hid (yCe s (yB kd strs s.ks)=yCe s3 (match yA9 s3.ks with
    | .error e=>.error e
    | .ok k2=>.ok (k2,(⟨kd,a.k.txt,true,k3.k.txt,a.k.nm,k3.k.nm,0⟩:Nd)))):=by show _=_;rw[HA5.out,if_pos (by exact .inl hl1)]
  clear hl1;have e4:=H4.1.low.cell (j:=4) rfl;have e3:=H4.1.low.cell (j:=3) rfl;have e6:=H4.1.fp.fs.cell (j:=6) rfl;have e5:=H4.1.fp.fs.cell (j:=5) rfl;have hS0:SW (fun w':World=>w'.cell? ⟨w.heap.size+1,4,none⟩=some (.string a.k.txt)∧w'.cell? ⟨w.heap.size+1,3,none⟩=some (.int .u64 a.k.nm)∧w'.cell? ⟨g,6,none⟩=some (.string k3.k.txt)∧w'.cell? ⟨g,5,none⟩=some (.int .u64 k3.k.nm)) W4.drew:=⟨e4,e3,e6,e5⟩;clear e3 e4 e5 e6;refine wpR 99 hS0 ?_;refine j0a 0 hS0 ?_;iterate 7 refine j0b hS0 ?_
  refine j0a 8 hS0 (v:=(.bool true)) ?_;iterate 10 refine j0b hS0 ?_
  exact zzQ1
 have hd1:Op.bytesLess a.k.txt.toList k3.k.txt.toList=false:=by unfold less at hl1;simpa using hl1
 by_cases hl2:a.k.nm<k3.k.nm;case pos=>
  have hd2:decide (a.k.nm<k3.k.nm)=true:=decide_eq_true hl2
  have HA6:Hid (yCe s (yB kd strs s.ks)=yCe s3 (match yA9 s3.ks with
    | .error e=>.error e
    | .ok k2=>.ok (k2,(⟨kd,a.k.txt,true,k3.k.txt,a.k.nm,k3.k.nm,0⟩:Nd)))):=by show _=_;rw[HA5.out,if_pos (by exact .inr hl2)]
  clear hl1 hl2;have e4:=H4.1.low.cell (j:=4) rfl;have e3:=H4.1.low.cell (j:=3) rfl;have e6:=H4.1.fp.fs.cell (j:=6) rfl;have e5:=H4.1.fp.fs.cell (j:=5) rfl;have hS0:SW (fun w':World=>w'.cell? ⟨w.heap.size+1,4,none⟩=some (.string a.k.txt)∧w'.cell? ⟨w.heap.size+1,3,none⟩=some (.int .u64 a.k.nm)∧w'.cell? ⟨g,6,none⟩=some (.string k3.k.txt)∧w'.cell? ⟨g,5,none⟩=some (.int .u64 k3.k.nm)) W4.drew:=⟨e4,e3,e6,e5⟩;clear e3 e4 e5 e6;refine wpR 99 hS0 ?_;refine j0a 0 hS0 ?_;iterate 7 refine j0b hS0 ?_
  refine j0a 8 hS0 (v:=(.bool false)) ?_;iterate 8 refine j0b hS0 ?_
  refine j0a 17 hS0 (v:=(.bool true)) ?_;refine j0b hS0 ?_;exact zzQ1
 exact zzQ15
structure AgJ (w:World) (base g cp N nd pa:Nat) (ks:List Tk) (i:Nat) (e:Nd) (W:World):Prop where
 tk:yBs W base g cp ks
 p:yA W w.heap.size 41 5 w.heap.size [.slice (some ⟨g,0,none⟩) N cp,.int .i64 (i:Int),.int .i64 (nd:Int),.int .i64 0,.int .i64 (pa:Int)]
 rp:yA W w.heap.size 41 5 (w.heap.size+1) [.slice none 0 0,.int .i64 0,.int .i64 0,.int .i64 0,.int .i64 0]
 rn:yA W w.heap.size 65 7 (w.heap.size+2) [.int .i64 0,.string ⟨#[]⟩,.bool false,.string ⟨#[]⟩,.int .u64 0,.int .u64 0,.int .i64 0]
 n:yA W w.heap.size 65 7 (w.heap.size+3) e.seven
 bl:Below w.heap.size w W
 gl:g<w.heap.size
variable {cp N nd pa i:Nat} {e:Nd}
theorem AgJ.up (h:AgJ w base g cp N nd pa ks i e W) (hb:Below W.heap.size W W'):AgJ w base g cp N nd pa ks i e W':=
 ⟨h.tk.below hb,h.p.below hb,h.rp.below hb,h.rn.below hb,h.n.below hb,h.bl.trans (hb.mono h.bl.size),h.gl⟩
theorem AgJ.stepI (h:AgJ w base g cp N nd pa ks i e W) (u:Value) (hu:u=.int .i64 ((i+1:Nat):Int)):AgJ w base g cp N nd pa ks (i+1) e (W.setCell ⟨w.heap.size,1,none⟩ u):=by subst hu;have hc:Chg (fun k=>k=w.heap.size) W (W.setCell ⟨w.heap.size,1,none⟩ (.int .i64 ((i+1:Nat):Int))):=Chg.of_set _ _ _ _ rfl;have hg:=h.gl;exact⟨h.tk.chg hc (by omega),h.p.set 1 _,h.rp.chg hc (by omega),h.rn.chg hc (by omega),h.n.chg hc (by omega),yAd h.bl (Nat.le_refl _) 1 _,hg⟩
theorem AgJ.stepN {e':Nd} (h:AgJ w base g cp N nd pa ks i e W) (j:Nat) (u:Value) (hu:e.seven.set j u=e'.seven):AgJ w base g cp N nd pa ks i e' (W.setCell ⟨w.heap.size+3,j,none⟩ u):=by have hc:Chg (fun k=>k=w.heap.size+3) W (W.setCell ⟨w.heap.size+3,j,none⟩ u):=Chg.of_set _ _ _ _ rfl;have hg:=h.gl;exact⟨h.tk.chg hc (by omega),h.p.chg hc (by omega),h.rp.chg hc (by omega),h.rn.chg hc (by omega),by rw[←hu];exact h.n.set j _,yAd h.bl (by omega) j _,hg⟩
def ArgP (base g cp N nd pa:Nat) (ks:List Tk) (kd:Int) (i:Nat) (w:World) (e:Ending) (w':World):Prop:=Below w.heap.size w w'∧
 ((∃i' n,yAv kd (ks.drop i)=.ok (ks.drop i',n)∧i≤i'∧i'<N∧e=.returned (.tuple #[parV g N cp i' nd 0 pa,n.v]))∨
  (∃c a i' n,yAv kd (ks.drop i)=.error (c,a)∧1≤c∧e=.returned (.tuple #[parV g N cp i' nd c a,Nd.v n])))
theorem yAh (h:ks[i]?=some k):hdK (ks.drop i)=k.k∧hdA (ks.drop i)=k.pos∧(ks.drop i).tail=ks.drop (i+1):=by have hl:i<ks.length:=(List.getElem?_eq_some_iff.1 h).1;have hk:ks[i]=k:=(List.getElem?_eq_some_iff.1 h).2;rw[List.drop_eq_getElem_cons hl,hk];exact⟨rfl,rfl,rfl⟩
theorem yNv {base' sz:Nat} {vs:List Value} (h:yA w base ty sz g vs) (hb:base'≤base):yA w base' ty sz g vs:=by exact yT7
theorem AgJ.fin (h:AgJ w base g cp N nd pa ks i e W) (a b c d f:Value) (e2:Nd):yA (setN (setP W (w.heap.size+1) a b c d f) (w.heap.size+2) e2) w.heap.size 41 5 (w.heap.size+1) [a,b,c,d,f]∧yA (setN (setP W (w.heap.size+1) a b c d f) (w.heap.size+2) e2) w.heap.size 65 7 (w.heap.size+2) e2.seven∧Below w.heap.size w (setN (setP W (w.heap.size+1) a b c d f) (w.heap.size+2) e2):=by have c1:Chg (fun k=>k=w.heap.size+1) W (setP W (w.heap.size+1) a b c d f):=yCp _ _ _ _ _ _ _;have c2:Chg (fun k=>k=w.heap.size+2) (setP W (w.heap.size+1) a b c d f) (setN (setP W (w.heap.size+1) a b c d f) (w.heap.size+2) e2):=yB2 _ _ _;exact⟨(h.rp.setP a b c d f).chg c2 (by omega),(h.rn.chg c1 (by omega)).setN e2,Chg.below (Chg.below h.bl c1 h.bl.size (fun k q=>by omega)) c2 (by have:=h.bl.size;have:=c1.size;omega) (fun k q=>by omega)⟩
theorem yFc (kd:Int) (h:yBs w base g cp ks) (hW:W=(((w.alloc (Obj.cells #[.slice (some ⟨g,0,none⟩) N cp,.int .i64 (i:Int),.int .i64 (nd:Int),.int .i64 0,.int .i64 (pa:Int)] 41)).alloc (Obj.cells #[.slice none 0 0,.int .i64 0,.int .i64 0,.int .i64 0,.int .i64 0] 41)).alloc (Obj.cells #[.int .i64 0,.string ⟨#[]⟩,.bool false,.string ⟨#[]⟩,.int .u64 0,.int .u64 0,.int .i64 0] 65)).alloc (Obj.cells #[.int .i64 kd,.string ⟨#[]⟩,.bool false,.string ⟨#[]⟩,.int .u64 0,.int .u64 0,.int .i64 0] 65)):AgJ w base g cp N nd pa ks i (yAc kd) W:=by
 obtain⟨X,hX⟩:=qE ((w.alloc (Obj.cells #[.slice (some ⟨g,0,none⟩) N cp,.int .i64 (i:Int),.int .i64 (nd:Int),.int .i64 0,.int .i64 (pa:Int)] 41)).alloc (Obj.cells #[.slice none 0 0,.int .i64 0,.int .i64 0,.int .i64 0,.int .i64 0] 41):World);obtain⟨b1,b2,b3⟩:=yFp [.slice (some ⟨g,0,none⟩) N cp,.int .i64 (i:Int),.int .i64 (nd:Int),.int .i64 0,.int .i64 (pa:Int)] [.slice none 0 0,.int .i64 0,.int .i64 0,.int .i64 0,.int .i64 0] hX;have hz:X.heap.size=w.heap.size+2:=by rw[hX];simp
 rw[←hX]at hW;obtain⟨d1,d2,d3,d4⟩:=yXj [.int .i64 0,.string ⟨#[]⟩,.bool false,.string ⟨#[]⟩,.int .u64 0,.int .u64 0,.int .i64 0] [.int .i64 kd,.string ⟨#[]⟩,.bool false,.string ⟨#[]⟩,.int .u64 0,.int .u64 0,.int .i64 0] hW;rw[hz]at d1 d2;have hb:=b3.trans (d3.mono (by omega));exact⟨h.below hb,b1.below d3,b2.below d3,yNv d1 (by omega),yNv d2 (by omega),hb,h.lt.2⟩
theorem yWo (h:yBs w base g cp ks) (hN:N=ks.length) (hl:N≤1000000) (hk:ks[i]?=some k) (hT:Toks ks) (kd:Int) (h3:kd≤3):Calls Tryz.prog 49 #[parV g N cp i nd 0 pa,.int .i64 kd] w (ArgP base g cp N nd pa ks kd i w):=by
 obtain⟨W0,hW0⟩:=qE ((((w.alloc (Obj.cells #[.slice (some ⟨g,0,none⟩) N cp,.int .i64 (i:Int),.int .i64 (nd:Int),.int .i64 0,.int .i64 (pa:Int)] 41)).alloc (Obj.cells #[.slice none 0 0,.int .i64 0,.int .i64 0,.int .i64 0,.int .i64 0] 41)).alloc (Obj.cells #[.int .i64 0,.string ⟨#[]⟩,.bool false,.string ⟨#[]⟩,.int .u64 0,.int .u64 0,.int .i64 0] 65)).alloc (Obj.cells #[.int .i64 kd,.string ⟨#[]⟩,.bool false,.string ⟨#[]⟩,.int .u64 0,.int .u64 0,.int .i64 0] 65):World);have HJ0:Hid (AgJ w base g cp N nd pa ks i (yAc kd) W0):=yFc kd h hW0;have hi:i<N:=by rw[hN];exact(List.getElem?_eq_some_iff.1 hk).1
 have zi:(i:Int)<(N:Int):=by omega
 have H0:Hid (N=ks.length∧ks[i]?=some k∧hdK (ks.drop i)=k.k∧hdA (ks.drop i)=k.pos∧(ks.drop i).tail=ks.drop (i+1)∧Toks ks):=⟨hN,hk,(yAh hk).1,(yAh hk).2.1,(yAh hk).2.2,hT⟩;have hgl:=h.lt.2;clear h hN hk hT;go_enter Tryz.func49,Tryz.ntmps49;go_upto_region 2 with fail;rw[←hW0];clear hW0;have HA:Hid (yAv kd (ks.drop i)=.ok (ks.drop i,yAc kd)):=by show _=_;unfold yAv;rw[if_pos h3]
 go_upto_region 3 with fail;obtain⟨a0,a1,a2,a3,a4⟩:=HJ0.p.c5;obtain⟨b0,b1,b2,b3,b4,b5,b6⟩:=HJ0.n.c7;obtain⟨c0,c1,c2,c3,c4⟩:=HJ0.rp.c5;obtain⟨d0,d1,d2,d3,d4,d5,d6⟩:=HJ0.rn.c7;obtain⟨e0,e1,e2,e3,e4⟩:=HJ0.rp.f5;obtain⟨f0,f1,f2,f3,f4,f5,f6⟩:=HJ0.rn.f7;obtain⟨W9,hW9⟩:∃V:World,V=(setN (setP W0 (w.heap.size+1) (.slice (some ⟨g,0,none⟩) N cp) (.int .i64 (i:Int)) (.int .i64 (nd:Int)) (.int .i64 0) (.int .i64 (pa:Int))) (w.heap.size+2) (yAc kd)).drew:=⟨_,rfl⟩;have HF:Hid (yA W9 w.heap.size 41 5 (w.heap.size+1) [.slice (some ⟨g,0,none⟩) N cp,.int .i64 (i:Int),.int .i64 (nd:Int),.int .i64 0,.int .i64 (pa:Int)]∧yA W9 w.heap.size 65 7 (w.heap.size+2) (Nd.seven (yAc kd))∧Below w.heap.size w W9):=by have hf:=HJ0.fin (.slice (some ⟨g,0,none⟩) N cp) (.int .i64 (i:Int)) (.int .i64 (nd:Int)) (.int .i64 0) (.int .i64 (pa:Int)) (yAc kd);have hd:∀X:World,Below X.heap.size X X.drew:=fun X=>(Below.refl _ _).drew;rw[hW9];exact⟨hf.1.below (hd _),hf.2.1.below (hd _),hf.2.2.trans ((hd _).mono hf.2.2.size)⟩
 have HR:Hid (ArgP base g cp N nd pa ks kd i w (.returned (.tuple #[parV g N cp (i) nd 0 pa,Nd.v (yAc kd)])) W9):=⟨HF.2.2,.inl ⟨i,(yAc kd),HA.out,by omega,by omega,rfl⟩⟩;obtain⟨p0,p1,p2,p3,p4⟩:=HF.1.c5;obtain⟨q0,q1,q2,q3,q4,q5,q6⟩:=HF.2.1.c7;unfold setN setP at hW9;simp only[yAc,patN,cntN,noS]at hW9 b0 b1 b2 b3 b4 b5 b6 q0 q1 q2 q3 q4 q5 q6;go_region;rw[←hW9];clear hW9 a0 a1 a2 a3 a4 b0 b1 b2 b3 b4 b5 b6 c0 c1 c2 c3 c4 d0 d1 d2 d3 d4 d5 d6 e0 e1 e2 e3 e4 f0 f1 f2 f3 f4 f5 f6;go_wp2_with fail;exact bodyPost_ret (v:=.tuple #[parV g N cp (i) nd 0 pa,Nd.v (yAc kd)]) (by simp[results,Tryz.results49,go_sem,p0,p1,p2,p3,p4,q0,q1,q2,q3,q4,q5,q6,yAc,patN,cntN,noS]) rfl HR.out
theorem yRm (h:Toks ks):∀{i:Nat} {k:Tk},ks[i]?=some k→(k.k.good∧∃k1,ks[i+1]?=some k1)∨k.k=.fin∨k.k=.bad:=by
 induction h with
 |last k0 hq=>
  intro i k hk;cases i with
  |zero=>simp at hk;subst hk;exact .inr hq
  |succ i=>simp at hk
 |more k0 hg ht ih=>
  intro i k hk;cases i with
  |zero=>
   simp at hk;subst hk;refine .inl ⟨hg,?_⟩;cases ht with
   |last k _=>exact⟨k,rfl⟩
   |more k _ _=>exact⟨k,rfl⟩
  |succ i=>simp at hk;exact ih hk
theorem yDm (h:Toks ks) (hk:ks[i]?=some k):k.k.good∨k.k=.fin∨k.k=.bad:=by
 rcases yRm h hk with q|q
 ·exact .inl q.1
 ·exact .inr q
theorem yB3 (h:Toks ks) (hk:ks[i]?=some k) (h1:¬k.k=.fin) (h2:¬k.k=.bad):k.k.good∧∃k1,ks[i+1]?=some k1:=by
 rcases yRm h hk with q|q|q
 ·exact q
 ·exact absurd q h1
 ·exact absurd q h2
theorem yTv (h4:¬kd≤3) (h7:kd≤7) (hs:hdK ks=.str sx):yAv kd ks=if(yBg (sb sx)).1=0 then .ok (ks.tail,patN kd sx)else yBy 6 ks:=by unfold yAv;rw[if_neg h4,if_pos h7,hs]
theorem yOo (h4:¬kd≤3) (h7:kd≤7) (hs:¬tkN (hdK ks)=3):yAv kd ks=yBy 3 ks:=by
 unfold yAv;rw[if_neg h4,if_pos h7];cases hq:hdK ks with
 |str sx=>rw[hq]at hs;exact absurd rfl hs
 |_=>rfl
theorem yTw {v:Int} (h4:11≤kd) (hs:hdK ks=.num v):yAv kd ks=if 1≤v∧v≤1000 then .ok (ks.tail,cntN kd v)else yBy 8 ks:=by unfold yAv;rw[if_neg (by omega),if_neg (by omega),if_neg (by omega),if_neg (by omega),hs]
theorem yOp (h4:11≤kd) (hs:¬tkN (hdK ks)=2):yAv kd ks=yBy 3 ks:=by
 unfold yAv;rw[if_neg (by omega),if_neg (by omega),if_neg (by omega),if_neg (by omega)];cases hq:hdK ks with
 |num v=>rw[hq]at hs;exact absurd rfl hs
 |_=>rfl
theorem yYd {k:TkK} (h:tkN k=3):∃s,k=.str s:=by cases k<;>simp[tkN]at h;exact⟨_,rfl⟩
theorem yYe {k:TkK} (h:tkN k=2):∃s,k=.num s:=by cases k<;>simp[tkN]at h;exact⟨_,rfl⟩
theorem yQ3 (h:yBs w base g cp ks) (hN:N=ks.length) (hl:N≤1000000) (hk:ks[i]?=some k) (hT:Toks ks) (kd:Int) (h3:¬kd≤3) (h7:kd≤7) (hn:¬tkN k.k=3):Calls Tryz.prog 49 #[parV g N cp i nd 0 pa,.int .i64 kd] w (ArgP base g cp N nd pa ks kd i w):=by
 obtain⟨W0,hW0⟩:=qE ((((w.alloc (Obj.cells #[.slice (some ⟨g,0,none⟩) N cp,.int .i64 (i:Int),.int .i64 (nd:Int),.int .i64 0,.int .i64 (pa:Int)] 41)).alloc (Obj.cells #[.slice none 0 0,.int .i64 0,.int .i64 0,.int .i64 0,.int .i64 0] 41)).alloc (Obj.cells #[.int .i64 0,.string ⟨#[]⟩,.bool false,.string ⟨#[]⟩,.int .u64 0,.int .u64 0,.int .i64 0] 65)).alloc (Obj.cells #[.int .i64 kd,.string ⟨#[]⟩,.bool false,.string ⟨#[]⟩,.int .u64 0,.int .u64 0,.int .i64 0] 65):World);have HJ0:Hid (AgJ w base g cp N nd pa ks i (yAc kd) W0):=yFc kd h hW0;have hi:i<N:=by rw[hN];exact(List.getElem?_eq_some_iff.1 hk).1
 have zi:(i:Int)<(N:Int):=by omega
 have H0:Hid (N=ks.length∧ks[i]?=some k∧hdK (ks.drop i)=k.k∧hdA (ks.drop i)=k.pos∧(ks.drop i).tail=ks.drop (i+1)∧Toks ks):=⟨hN,hk,(yAh hk).1,(yAh hk).2.1,(yAh hk).2.2,hT⟩;have hgl:=h.lt.2;clear h hN hk hT;go_enter Tryz.func49,Tryz.ntmps49;go_upto_region 2 with fail;rw[←hW0];clear hW0;obtain⟨t0,t1,t2,t3⟩:=yBc HJ0.tk H0.2.1;obtain⟨a0,a1⟩:=HJ0.p.c2;have z3:(tkN k.k==3)=false:=by rw[beq_eq_false_iff_ne];exact hn
 have HA:Hid (yAv kd (ks.drop i)=yBy 3 (ks.drop i)):=yOo h3 h7 (by rw[H0.2.2.1];exact hn);clear t1 t2 t3 hn;obtain⟨cc,hcc⟩:=qE (if k.k.isBad=true then 2 else 3:Int);have HFl:Hid (∀wx,Below W0.heap.size W0 wx→Calls Tryz.prog 46 #[parV g N cp (i) nd 0 pa,.int .i64 3] wx fun e w'=>e=.returned (parV g N cp (i) nd cc k.pos)∧Below wx.heap.size wx w'):=fun wx hx=>by rw[hcc];exact yBd (HJ0.tk.below hx) H0.1 hl H0.2.1 nd 0 pa 3
 have HAE:Hid (yAv kd (ks.drop i)=.error (cc,k.pos)∧1≤cc):=⟨by
  rw[HA.out,hcc]
  unfold yBy
  rw[(yAh H0.2.1).1,(yAh H0.2.1).2.1],by rw[hcc];split<;>decide⟩
 clear hcc;go_upto_region 6 with fail;exact zzQ2
theorem yWm (h:yBs w base g cp ks) (hN:N=ks.length) (hl:N≤1000000) (hk:ks[i]?=some k) (hT:Toks ks) (kd:Int) (h3:¬kd≤3) (h7:kd≤7) (hs:k.k=.str sx):Calls Tryz.prog 49 #[parV g N cp i nd 0 pa,.int .i64 kd] w (ArgP base g cp N nd pa ks kd i w):=by
 obtain⟨W0,hW0⟩:=qE ((((w.alloc (Obj.cells #[.slice (some ⟨g,0,none⟩) N cp,.int .i64 (i:Int),.int .i64 (nd:Int),.int .i64 0,.int .i64 (pa:Int)] 41)).alloc (Obj.cells #[.slice none 0 0,.int .i64 0,.int .i64 0,.int .i64 0,.int .i64 0] 41)).alloc (Obj.cells #[.int .i64 0,.string ⟨#[]⟩,.bool false,.string ⟨#[]⟩,.int .u64 0,.int .u64 0,.int .i64 0] 65)).alloc (Obj.cells #[.int .i64 kd,.string ⟨#[]⟩,.bool false,.string ⟨#[]⟩,.int .u64 0,.int .u64 0,.int .i64 0] 65):World);have HJ0:Hid (AgJ w base g cp N nd pa ks i (yAc kd) W0):=yFc kd h hW0;have hi:i<N:=by rw[hN];exact(List.getElem?_eq_some_iff.1 hk).1
 have zi:(i:Int)<(N:Int):=by omega
 have H0:Hid (N=ks.length∧ks[i]?=some k∧hdK (ks.drop i)=k.k∧hdA (ks.drop i)=k.pos∧(ks.drop i).tail=ks.drop (i+1)∧Toks ks):=⟨hN,hk,(yAh hk).1,(yAh hk).2.1,(yAh hk).2.2,hT⟩;have hgl:=h.lt.2;clear h hN hk hT;go_enter Tryz.func49,Tryz.ntmps49;go_upto_region 2 with fail;rw[←hW0];clear hW0;obtain⟨t0,t1,t2,t3⟩:=yBc HJ0.tk H0.2.1;rw[hs]at t0 t2;have t0':W0.cell? ⟨g,i*4,none⟩=some (.int .i64 3):=t0;have t2':W0.cell? ⟨g,i*4+2,none⟩=some (.string sx):=t2;have HK:Hid (sx.size≤200∧(∃k1,ks[i+1]?=some k1)∧hdK (ks.drop i)=.str sx):=by obtain⟨q1,q2⟩:=yB3 H0.2.2.2.2.2 H0.2.1 (by rw[hs];intro q;cases q) (by rw[hs];intro q;cases q);rw[hs]at q1;exact⟨q1,q2,by rw[H0.2.2.1];exact hs⟩
 have hi1:i+1<N:=by obtain⟨k1,hk1⟩:=HK.2.1;have:=(List.getElem?_eq_some_iff.1 hk1).1;rw[←H0.1]at this;exact this
 obtain⟨a0,a1⟩:=HJ0.p.c2;clear t0 t1 t2 t3 hs;obtain⟨W1,hW1⟩:∃V:World,V=W0.setCell ⟨w.heap.size+3,1,none⟩ (.string sx):=⟨_,rfl⟩;have HJ1:Hid (AgJ w base g cp N nd pa ks (i) (patN kd sx) W1):=by rw[hW1];exact HJ0.stepN 1 _ rfl
 have n1:=HJ0.n.cell (j:=1) rfl;have m1:=HJ0.n.frozen 1;go_upto_region 8 with fail;rw[←hW1];clear hW1 t0' t2' a0 a1 n1 m1;have n1:=HJ1.n.cell (j:=1) rfl;have HAr:Hid (yAv kd (ks.drop i)=if(yBg (sb sx)).1=0 then .ok (ks.drop (i+1),patN kd sx)else yBy 6 (ks.drop i)):=by show _=_;rw[yTv h3 h7 HK.2.2,H0.2.2.2.2.1]
 go_wp2_with fail;refine(yGp sx W1 (by have:=HK.1;unfold maxLen;omega)).mono ?_;intro e w2 h2;obtain⟨rfl,hb2⟩:=h2;rw[show yB0 (sb sx)=yBg (sb sx)from rfl];have HJ2:Hid (AgJ w base g cp N nd pa ks i (patN kd sx) w2):=HJ1.up hb2;clear hb2 n1;obtain⟨cr,hcr⟩:=qE ((yBg (sb sx)).1);obtain⟨ck,hck⟩:=qE (((yBg (sb sx)).2:Int):Int);rw[←hcr,←hck];rw[←hcr]at HAr;have hfd:∀wz:World,(Instr.field 125 (.agg #[.int .i64 cr,.int .i64 ck]) 0).run Tryz.prog wz=.ok (.int .i64 cr) wz:=fun wz=>by kernel_rfl
 by_cases hc0:cr=0
 ·have HA:Hid (yAv kd (ks.drop i)=.ok (ks.drop (i+1),patN kd sx)):=by show _=_;rw[HAr.out,if_pos hc0]
  have zc:(cr==0)=true:=by rw[beq_iff_eq];exact hc0
  clear hcr hc0 HAr hck;have a1:=HJ2.p.cell (j:=1) rfl;have ia:=HJ2.p.frozen 1;obtain⟨W3,hW3⟩:∃V:World,V=w2.setCell ⟨w.heap.size,1,none⟩ (.int .i64 (((i:Nat):Int)+1)):=⟨_,rfl⟩;have HJ3:Hid (AgJ w base g cp N nd pa ks (i+1) (patN kd sx) W3):=by rw[hW3];exact HJ2.stepI _ (by simp)
  obtain⟨i1,hi1'⟩:=qE (i+1);rw[←hi1']at HJ3 hi1;have Hi1:Hid (i1=i+1):=hi1';have hile:i≤i1:=by omega
  clear hi1';go_upto_region 11 with fail;rw[←hW3];clear hW3 a1 ia;obtain⟨a0,a1,a2,a3,a4⟩:=HJ3.p.c5;obtain⟨b0,b1,b2,b3,b4,b5,b6⟩:=HJ3.n.c7;obtain⟨c0,c1,c2,c3,c4⟩:=HJ3.rp.c5;obtain⟨d0,d1,d2,d3,d4,d5,d6⟩:=HJ3.rn.c7;obtain⟨e0,e1,e2,e3,e4⟩:=HJ3.rp.f5;obtain⟨f0,f1,f2,f3,f4,f5,f6⟩:=HJ3.rn.f7;obtain⟨W9,hW9⟩:∃V:World,V=(setN (setP W3 (w.heap.size+1) (.slice (some ⟨g,0,none⟩) N cp) (.int .i64 (i1:Int)) (.int .i64 (nd:Int)) (.int .i64 0) (.int .i64 (pa:Int))) (w.heap.size+2) (patN kd sx)).drew:=⟨_,rfl⟩;have HF:Hid (yA W9 w.heap.size 41 5 (w.heap.size+1) [.slice (some ⟨g,0,none⟩) N cp,.int .i64 (i1:Int),.int .i64 (nd:Int),.int .i64 0,.int .i64 (pa:Int)]∧yA W9 w.heap.size 65 7 (w.heap.size+2) (Nd.seven (patN kd sx))∧Below w.heap.size w W9):=by have hf:=HJ3.fin (.slice (some ⟨g,0,none⟩) N cp) (.int .i64 (i1:Int)) (.int .i64 (nd:Int)) (.int .i64 0) (.int .i64 (pa:Int)) (patN kd sx);have hd:∀X:World,Below X.heap.size X X.drew:=fun X=>(Below.refl _ _).drew;rw[hW9];exact⟨hf.1.below (hd _),hf.2.1.below (hd _),hf.2.2.trans ((hd _).mono hf.2.2.size)⟩
  have HR:Hid (ArgP base g cp N nd pa ks kd i w (.returned (.tuple #[parV g N cp (i1) nd 0 pa,Nd.v (patN kd sx)])) W9):=⟨HF.2.2,.inl ⟨i1,(patN kd sx),by rw[Hi1.out];exact HA.out,by omega,by omega,rfl⟩⟩;obtain⟨p0,p1,p2,p3,p4⟩:=HF.1.c5;obtain⟨q0,q1,q2,q3,q4,q5,q6⟩:=HF.2.1.c7;unfold setN setP at hW9;simp only[yAc,patN,cntN,noS]at hW9 b0 b1 b2 b3 b4 b5 b6 q0 q1 q2 q3 q4 q5 q6;go_region;rw[←hW9];clear hW9 a0 a1 a2 a3 a4 b0 b1 b2 b3 b4 b5 b6 c0 c1 c2 c3 c4 d0 d1 d2 d3 d4 d5 d6 e0 e1 e2 e3 e4 f0 f1 f2 f3 f4 f5 f6;go_wp2_with fail;exact bodyPost_ret (v:=.tuple #[parV g N cp (i1) nd 0 pa,Nd.v (patN kd sx)]) (by simp[results,Tryz.results49,go_sem,p0,p1,p2,p3,p4,q0,q1,q2,q3,q4,q5,q6,yAc,patN,cntN,noS]) rfl HR.out
 ·have HA:Hid (yAv kd (ks.drop i)=yBy 6 (ks.drop i)):=by show _=_;rw[HAr.out,if_neg hc0]
  have zc:(cr==0)=false:=by rw[beq_eq_false_iff_ne];exact hc0
  clear hcr hc0 HAr hck;obtain⟨cc,hcc⟩:=qE (if k.k.isBad=true then 2 else 6:Int);have HFl:Hid (∀wx,Below w2.heap.size w2 wx→Calls Tryz.prog 46 #[parV g N cp (i) nd 0 pa,.int .i64 6] wx fun e w'=>e=.returned (parV g N cp (i) nd cc k.pos)∧Below wx.heap.size wx w'):=fun wx hx=>by rw[hcc];exact yBd (HJ2.tk.below hx) H0.1 hl H0.2.1 nd 0 pa 6
  have HAE:Hid (yAv kd (ks.drop i)=.error (cc,k.pos)∧1≤cc):=⟨by
   rw[HA.out,hcc]
   unfold yBy
   rw[(yAh H0.2.1).1,(yAh H0.2.1).2.1],by rw[hcc];split<;>decide⟩
  clear hcc;go_upto_region 9 with fail;have hS0:SW (fun w':World=>w'.cell? ⟨w.heap.size,0,none⟩=some (.slice (some ⟨g,0,none⟩) N cp)∧w'.cell? ⟨w.heap.size,1,none⟩=some (.int .i64 ((i:Nat):Int))∧w'.cell? ⟨w.heap.size,2,none⟩=some (.int .i64 (nd:Int))∧w'.cell? ⟨w.heap.size,3,none⟩=some (.int .i64 0)∧w'.cell? ⟨w.heap.size,4,none⟩=some (.int .i64 (pa:Int))∧w'.cell? ⟨w.heap.size+3,0,none⟩=some (.int .i64 kd)∧w'.cell? ⟨w.heap.size+3,1,none⟩=some (.string sx)∧w'.cell? ⟨w.heap.size+3,2,none⟩=some (.bool false)∧w'.cell? ⟨w.heap.size+3,3,none⟩=some (.string ⟨#[]⟩)∧w'.cell? ⟨w.heap.size+3,4,none⟩=some (.int .u64 0)∧w'.cell? ⟨w.heap.size+3,5,none⟩=some (.int .u64 0)∧w'.cell? ⟨w.heap.size+3,6,none⟩=some (.int .i64 0)) w2.drew:=⟨HJ2.p.cell (j:=0) rfl,HJ2.p.cell (j:=1) rfl,HJ2.p.cell (j:=2) rfl,HJ2.p.cell (j:=3) rfl,HJ2.p.cell (j:=4) rfl,HJ2.n.cell (j:=0) rfl,HJ2.n.cell (j:=1) rfl,HJ2.n.cell (j:=2) rfl,HJ2.n.cell (j:=3) rfl,HJ2.n.cell (j:=4) rfl,HJ2.n.cell (j:=5) rfl,HJ2.n.cell (j:=6) rfl⟩;refine wpR 99 hS0 ?_;refine j4a 0 hS0 ?_;refine j4a 2 hS0 ?_;refine qO 1 rfl fun K hK=>?_;go_simp;go_at_call 46;refine(HFl.out w2.drew (Below.refl _ _).drew).mono ?_;rintro e w5 ⟨rfl,hb5⟩;have HJ5:Hid (AgJ w base g cp N nd pa ks (i) (patN kd sx) w5):=HJ2.up (((Below.refl _ _).drew).trans (hb5.mono (Nat.le_refl _)));have hS5:=SWm hS0 w5 <|⟨HJ5.p.cell (j:=0) rfl,HJ5.p.cell (j:=1) rfl,HJ5.p.cell (j:=2) rfl,HJ5.p.cell (j:=3) rfl,HJ5.p.cell (j:=4) rfl,HJ5.n.cell (j:=0) rfl,HJ5.n.cell (j:=1) rfl,HJ5.n.cell (j:=2) rfl,HJ5.n.cell (j:=3) rfl,HJ5.n.cell (j:=4) rfl,HJ5.n.cell (j:=5) rfl,HJ5.n.cell (j:=6) rfl⟩;refine hK.out _ _ (.inr hS5) ?_;clear hK hb5 HFl;refine jS ?_;obtain⟨c0,c1,c2,c3,c4⟩:=HJ5.rp.c5;obtain⟨e0,e1,e2,e3,e4⟩:=HJ5.rp.f5;obtain⟨W6,hW6⟩:∃V:World,V=setP w5 (w.heap.size+1) (.slice (some ⟨g,0,none⟩) N cp) (.int .i64 ((i:Nat):Int)) (.int .i64 (nd:Int)) (.int .i64 cc) (.int .i64 (k.pos:Int)):=⟨_,rfl⟩;have hc6:Chg (fun k=>k=w.heap.size+1) w5 W6:=by rw[hW6];exact yCp _ _ _ _ _ _ _
  have hp6:=HJ5.p.chg hc6 (by omega);have hn6:=HJ5.n.chg hc6 (by omega);have hr6:=HJ5.rn.chg hc6 (by omega);have hS6:=SWm hS5 W6 <|⟨hp6.cell (j:=0) rfl,hp6.cell (j:=1) rfl,hp6.cell (j:=2) rfl,hp6.cell (j:=3) rfl,hp6.cell (j:=4) rfl,hn6.cell (j:=0) rfl,hn6.cell (j:=1) rfl,hn6.cell (j:=2) rfl,hn6.cell (j:=3) rfl,hn6.cell (j:=4) rfl,hn6.cell (j:=5) rfl,hn6.cell (j:=6) rfl⟩;obtain⟨d0,d1,d2,d3,d4,d5,d6⟩:=hr6.c7;obtain⟨f0,f1,f2,f3,f4,f5,f6⟩:=hr6.f7;obtain⟨W9,hW9⟩:∃V:World,V=setN W6 (w.heap.size+2) (patN kd sx):=⟨_,rfl⟩;have hc9:Chg (fun k=>k=w.heap.size+2) W6 W9:=by rw[hW9];exact yB2 _ _ _
  have hp9:=hp6.chg hc9 (by omega);have hn9:=hn6.chg hc9 (by omega);have hS9:=SWm hS6 W9 <|⟨hp9.cell (j:=0) rfl,hp9.cell (j:=1) rfl,hp9.cell (j:=2) rfl,hp9.cell (j:=3) rfl,hp9.cell (j:=4) rfl,hn9.cell (j:=0) rfl,hn9.cell (j:=1) rfl,hn9.cell (j:=2) rfl,hn9.cell (j:=3) rfl,hn9.cell (j:=4) rfl,hn9.cell (j:=5) rfl,hn9.cell (j:=6) rfl⟩;have HF:Hid (yA W9 w.heap.size 41 5 (w.heap.size+1) [.slice (some ⟨g,0,none⟩) N cp,.int .i64 ((i:Nat):Int),.int .i64 (nd:Int),.int .i64 cc,.int .i64 (k.pos:Int)]∧yA W9 w.heap.size 65 7 (w.heap.size+2) (Nd.seven (patN kd sx))∧Below w.heap.size w W9):=by have hf:=HJ5.fin (.slice (some ⟨g,0,none⟩) N cp) (.int .i64 ((i:Nat):Int)) (.int .i64 (nd:Int)) (.int .i64 cc) (.int .i64 (k.pos:Int)) (patN kd sx);rw[hW9,hW6];exact hf
  have HR:Hid (ArgP base g cp N nd pa ks kd i w (.returned (.tuple #[parV g N cp (i) nd cc k.pos,Nd.v (patN kd sx)])) W9):=⟨HF.2.2,.inr ⟨cc,k.pos,i,(patN kd sx),HAE.1,HAE.2,rfl⟩⟩;obtain⟨p0,p1,p2,p3,p4⟩:=HF.1.c5;obtain⟨q0,q1,q2,q3,q4,q5,q6⟩:=HF.2.1.c7;unfold setP at hW6;unfold setN at hW9;clear hp6 hn6 hr6 hp9 hn9 hc6 hc9;simp only[yAc,patN,cntN,noS]at hW9 q0 q1 q2 q3 q4 q5 q6;refine qO 3 rfl fun K hK=>?_;go_simp;rw[←hW6];refine hK.out _ _ (.inr hS6) ?_;clear hK hW6;refine jS ?_;refine qO 4 rfl fun K hK=>?_;go_simp;rw[←hW9];refine hK.out _ _ (.inr hS9) ?_;clear hK hW9;refine jS ?_;refine qD ?_;clear hS0 hS5 hS6 hS9 c0 c1 c2 c3 c4 d0 d1 d2 d3 d4 d5 d6 e0 e1 e2 e3 e4 f0 f1 f2 f3 f4 f5 f6;go_wp2_with fail;exact bodyPost_ret (v:=.tuple #[parV g N cp (i) nd cc k.pos,Nd.v (patN kd sx)]) (by simp[results,Tryz.results49,go_sem,p0,p1,p2,p3,p4,q0,q1,q2,q3,q4,q5,q6,yAc,patN,cntN,noS]) rfl HR.out
theorem yQ4 (h:yBs w base g cp ks) (hN:N=ks.length) (hl:N≤1000000) (hk:ks[i]?=some k) (hT:Toks ks) (kd:Int) (h11:11≤kd) (hn:¬tkN k.k=2):Calls Tryz.prog 49 #[parV g N cp i nd 0 pa,.int .i64 kd] w (ArgP base g cp N nd pa ks kd i w):=by
 obtain⟨W0,hW0⟩:=qE ((((w.alloc (Obj.cells #[.slice (some ⟨g,0,none⟩) N cp,.int .i64 (i:Int),.int .i64 (nd:Int),.int .i64 0,.int .i64 (pa:Int)] 41)).alloc (Obj.cells #[.slice none 0 0,.int .i64 0,.int .i64 0,.int .i64 0,.int .i64 0] 41)).alloc (Obj.cells #[.int .i64 0,.string ⟨#[]⟩,.bool false,.string ⟨#[]⟩,.int .u64 0,.int .u64 0,.int .i64 0] 65)).alloc (Obj.cells #[.int .i64 kd,.string ⟨#[]⟩,.bool false,.string ⟨#[]⟩,.int .u64 0,.int .u64 0,.int .i64 0] 65):World);have HJ0:Hid (AgJ w base g cp N nd pa ks i (yAc kd) W0):=yFc kd h hW0;have hi:i<N:=by rw[hN];exact(List.getElem?_eq_some_iff.1 hk).1
 have zi:(i:Int)<(N:Int):=by omega
 have H0:Hid (N=ks.length∧ks[i]?=some k∧hdK (ks.drop i)=k.k∧hdA (ks.drop i)=k.pos∧(ks.drop i).tail=ks.drop (i+1)∧Toks ks):=⟨hN,hk,(yAh hk).1,(yAh hk).2.1,(yAh hk).2.2,hT⟩;have hgl:=h.lt.2;clear h hN hk hT;go_enter Tryz.func49,Tryz.ntmps49;go_upto_region 2 with fail;rw[←hW0];clear hW0;obtain⟨t0,t1,t2,t3⟩:=yBc HJ0.tk H0.2.1;obtain⟨a0,a1⟩:=HJ0.p.c2;have z3:(tkN k.k==2)=false:=by rw[beq_eq_false_iff_ne];exact hn
 have HA:Hid (yAv kd (ks.drop i)=yBy 3 (ks.drop i)):=yOp h11 (by rw[H0.2.2.1];exact hn);have y1:¬kd≤3:=by omega
 have y2:¬kd≤7:=by omega
 clear t1 t2 t3 hn;obtain⟨cc,hcc⟩:=qE (if k.k.isBad=true then 2 else 3:Int);have HFl:Hid (∀wx,Below W0.heap.size W0 wx→Calls Tryz.prog 46 #[parV g N cp (i) nd 0 pa,.int .i64 3] wx fun e w'=>e=.returned (parV g N cp (i) nd cc k.pos)∧Below wx.heap.size wx w'):=fun wx hx=>by rw[hcc];exact yBd (HJ0.tk.below hx) H0.1 hl H0.2.1 nd 0 pa 3
 have HAE:Hid (yAv kd (ks.drop i)=.error (cc,k.pos)∧1≤cc):=⟨by
  rw[HA.out,hcc]
  unfold yBy
  rw[(yAh H0.2.1).1,(yAh H0.2.1).2.1],by rw[hcc];split<;>decide⟩
 clear hcc;go_upto_region 14 with fail;exact zzQ2
theorem yWn (h:yBs w base g cp ks) (hN:N=ks.length) (hl:N≤1000000) (hk:ks[i]?=some k) (hT:Toks ks) (kd:Int) (h11:11≤kd) {v:Int} (hs:k.k=.num v):Calls Tryz.prog 49 #[parV g N cp i nd 0 pa,.int .i64 kd] w (ArgP base g cp N nd pa ks kd i w):=by
 obtain⟨W0,hW0⟩:=qE ((((w.alloc (Obj.cells #[.slice (some ⟨g,0,none⟩) N cp,.int .i64 (i:Int),.int .i64 (nd:Int),.int .i64 0,.int .i64 (pa:Int)] 41)).alloc (Obj.cells #[.slice none 0 0,.int .i64 0,.int .i64 0,.int .i64 0,.int .i64 0] 41)).alloc (Obj.cells #[.int .i64 0,.string ⟨#[]⟩,.bool false,.string ⟨#[]⟩,.int .u64 0,.int .u64 0,.int .i64 0] 65)).alloc (Obj.cells #[.int .i64 kd,.string ⟨#[]⟩,.bool false,.string ⟨#[]⟩,.int .u64 0,.int .u64 0,.int .i64 0] 65):World);have HJ0:Hid (AgJ w base g cp N nd pa ks i (yAc kd) W0):=yFc kd h hW0;have hi:i<N:=by rw[hN];exact(List.getElem?_eq_some_iff.1 hk).1
 have zi:(i:Int)<(N:Int):=by omega
 have H0:Hid (N=ks.length∧ks[i]?=some k∧hdK (ks.drop i)=k.k∧hdA (ks.drop i)=k.pos∧(ks.drop i).tail=ks.drop (i+1)∧Toks ks):=⟨hN,hk,(yAh hk).1,(yAh hk).2.1,(yAh hk).2.2,hT⟩;have hgl:=h.lt.2;clear h hN hk hT;go_enter Tryz.func49,Tryz.ntmps49;go_upto_region 2 with fail;rw[←hW0];clear hW0;obtain⟨t0,t1,t2,t3⟩:=yBc HJ0.tk H0.2.1;rw[hs]at t0 t1;have t0':W0.cell? ⟨g,i*4,none⟩=some (.int .i64 2):=t0;have t1':W0.cell? ⟨g,i*4+1,none⟩=some (.int .u64 v):=t1;have HK:Hid ((0≤v∧v<2^64)∧(∃k1,ks[i+1]?=some k1)∧hdK (ks.drop i)=.num v):=by obtain⟨q1,q2⟩:=yB3 H0.2.2.2.2.2 H0.2.1 (by rw[hs];intro q;cases q) (by rw[hs];intro q;cases q);rw[hs]at q1;exact⟨q1,q2,by rw[H0.2.2.1];exact hs⟩
 have hi1:i+1<N:=by obtain⟨k1,hk1⟩:=HK.2.1;have:=(List.getElem?_eq_some_iff.1 hk1).1;rw[←H0.1]at this;exact this
 obtain⟨a0,a1⟩:=HJ0.p.c2;have y1:¬kd≤3:=by omega
 have y2:¬kd≤7:=by omega
 have HAr:Hid (yAv kd (ks.drop i)=if 1≤v∧v≤1000 then .ok (ks.drop (i+1),cntN kd v)else yBy 8 (ks.drop i)):=by show _=_;rw[yTw h11 HK.2.2,H0.2.2.2.2.1]
 clear t0 t1 t2 t3 hs;by_cases hv1:v<1
 ·have z1:decide (v<1)=true:=decide_eq_true hv1;have HA:Hid (yAv kd (ks.drop i)=yBy 8 (ks.drop i)):=by show _=_;rw[HAr.out,if_neg (by omega)]
  clear HAr;obtain⟨cc,hcc⟩:=qE (if k.k.isBad=true then 2 else 8:Int);have HFl:Hid (∀wx,Below W0.heap.size W0 wx→Calls Tryz.prog 46 #[parV g N cp (i) nd 0 pa,.int .i64 8] wx fun e w'=>e=.returned (parV g N cp (i) nd cc k.pos)∧Below wx.heap.size wx w'):=fun wx hx=>by rw[hcc];exact yBd (HJ0.tk.below hx) H0.1 hl H0.2.1 nd 0 pa 8
  have HAE:Hid (yAv kd (ks.drop i)=.error (cc,k.pos)∧1≤cc):=⟨by
   rw[HA.out,hcc]
   unfold yBy
   rw[(yAh H0.2.1).1,(yAh H0.2.1).2.1],by rw[hcc];split<;>decide⟩
  clear hcc;go_upto_region 17 with fail;exact zzQ2
 have z1:decide (v<1)=false:=decide_eq_false hv1;by_cases hv2:1000<v
 ·have z2:decide (1000<v)=true:=decide_eq_true hv2;have HA:Hid (yAv kd (ks.drop i)=yBy 8 (ks.drop i)):=by show _=_;rw[HAr.out,if_neg (by omega)]
  clear HAr;obtain⟨cc,hcc⟩:=qE (if k.k.isBad=true then 2 else 8:Int);have HFl:Hid (∀wx,Below W0.heap.size W0 wx→Calls Tryz.prog 46 #[parV g N cp (i) nd 0 pa,.int .i64 8] wx fun e w'=>e=.returned (parV g N cp (i) nd cc k.pos)∧Below wx.heap.size wx w'):=fun wx hx=>by rw[hcc];exact yBd (HJ0.tk.below hx) H0.1 hl H0.2.1 nd 0 pa 8
  have HAE:Hid (yAv kd (ks.drop i)=.error (cc,k.pos)∧1≤cc):=⟨by
   rw[HA.out,hcc]
   unfold yBy
   rw[(yAh H0.2.1).1,(yAh H0.2.1).2.1],by rw[hcc];split<;>decide⟩
  clear hcc;go_upto_region 17 with fail;exact zzQ2
 have z2:decide (1000<v)=false:=decide_eq_false hv2;have HA:Hid (yAv kd (ks.drop i)=.ok (ks.drop (i+1),cntN kd v)):=by show _=_;rw[HAr.out,if_pos (by omega)]
 have zv:IntKind.i64.wrap v=v:=wrap64 (by omega) (by omega);clear HAr;obtain⟨W1,hW1⟩:∃V:World,V=W0.setCell ⟨w.heap.size+3,6,none⟩ (.int .i64 v):=⟨_,rfl⟩;have HJ1:Hid (AgJ w base g cp N nd pa ks (i) (cntN kd v) W1):=by rw[hW1];exact HJ0.stepN 6 _ rfl
 have n6:=HJ0.n.cell (j:=6) rfl;have m6:=HJ0.n.frozen 6;go_upto_region 19 with fail;rw[←hW1];clear hW1 t0' t1' a0 a1 n6 m6 zv;have a1:=HJ1.p.cell (j:=1) rfl;have ia:=HJ1.p.frozen 1;obtain⟨W3,hW3⟩:∃V:World,V=W1.setCell ⟨w.heap.size,1,none⟩ (.int .i64 (((i:Nat):Int)+1)):=⟨_,rfl⟩;have HJ3:Hid (AgJ w base g cp N nd pa ks (i+1) (cntN kd v) W3):=by rw[hW3];exact HJ1.stepI _ (by simp)
 obtain⟨i1,hi1'⟩:=qE (i+1);rw[←hi1']at HJ3 hi1;have Hi1:Hid (i1=i+1):=hi1';have hile:i≤i1:=by omega
 clear hi1';go_upto_region 20 with fail;rw[←hW3];clear hW3 a1 ia;obtain⟨a0,a1,a2,a3,a4⟩:=HJ3.p.c5;obtain⟨b0,b1,b2,b3,b4,b5,b6⟩:=HJ3.n.c7;obtain⟨c0,c1,c2,c3,c4⟩:=HJ3.rp.c5;obtain⟨d0,d1,d2,d3,d4,d5,d6⟩:=HJ3.rn.c7;obtain⟨e0,e1,e2,e3,e4⟩:=HJ3.rp.f5;obtain⟨f0,f1,f2,f3,f4,f5,f6⟩:=HJ3.rn.f7;obtain⟨W9,hW9⟩:∃V:World,V=(setN (setP W3 (w.heap.size+1) (.slice (some ⟨g,0,none⟩) N cp) (.int .i64 (i1:Int)) (.int .i64 (nd:Int)) (.int .i64 0) (.int .i64 (pa:Int))) (w.heap.size+2) (cntN kd v)).drew:=⟨_,rfl⟩;have HF:Hid (yA W9 w.heap.size 41 5 (w.heap.size+1) [.slice (some ⟨g,0,none⟩) N cp,.int .i64 (i1:Int),.int .i64 (nd:Int),.int .i64 0,.int .i64 (pa:Int)]∧yA W9 w.heap.size 65 7 (w.heap.size+2) (Nd.seven (cntN kd v))∧Below w.heap.size w W9):=by have hf:=HJ3.fin (.slice (some ⟨g,0,none⟩) N cp) (.int .i64 (i1:Int)) (.int .i64 (nd:Int)) (.int .i64 0) (.int .i64 (pa:Int)) (cntN kd v);have hd:∀X:World,Below X.heap.size X X.drew:=fun X=>(Below.refl _ _).drew;rw[hW9];exact⟨hf.1.below (hd _),hf.2.1.below (hd _),hf.2.2.trans ((hd _).mono hf.2.2.size)⟩
 have HR:Hid (ArgP base g cp N nd pa ks kd i w (.returned (.tuple #[parV g N cp (i1) nd 0 pa,Nd.v (cntN kd v)])) W9):=⟨HF.2.2,.inl ⟨i1,(cntN kd v),by rw[Hi1.out];exact HA.out,by omega,by omega,rfl⟩⟩;obtain⟨p0,p1,p2,p3,p4⟩:=HF.1.c5;obtain⟨q0,q1,q2,q3,q4,q5,q6⟩:=HF.2.1.c7;unfold setN setP at hW9;simp only[yAc,patN,cntN,noS]at hW9 b0 b1 b2 b3 b4 b5 b6 q0 q1 q2 q3 q4 q5 q6;go_region;rw[←hW9];clear hW9 a0 a1 a2 a3 a4 b0 b1 b2 b3 b4 b5 b6 c0 c1 c2 c3 c4 d0 d1 d2 d3 d4 d5 d6 e0 e1 e2 e3 e4 f0 f1 f2 f3 f4 f5 f6;go_wp2_with fail;exact bodyPost_ret (v:=.tuple #[parV g N cp (i1) nd 0 pa,Nd.v (cntN kd v)]) (by simp[results,Tryz.results49,go_sem,p0,p1,p2,p3,p4,q0,q1,q2,q3,q4,q5,q6,yAc,patN,cntN,noS]) rfl HR.out
theorem yQo (kd:Int) (a b:ByteArray) (hh:Bool) (x y z:Int) (w:World) (h:kd=8∨kd=9):Calls Tryz.prog 86 #[.agg #[.int .i64 kd,.string a,.bool hh,.string b,.int .u64 x,.int .u64 y,.int .i64 z]] w fun e w'=>e=.returned (.bool true)∧Below w.heap.size w w':=by
 rcases h with rfl|rfl
 ·exact yXp
 ·exact yXp
theorem ySz (kd:Int) (a b:ByteArray) (hh:Bool) (x y z:Int) (w:World) (h:kd=10):Calls Tryz.prog 86 #[.agg #[.int .i64 kd,.string a,.bool hh,.string b,.int .u64 x,.int .u64 y,.int .i64 z]] w fun e w'=>e=.returned (.bool false)∧Below w.heap.size w w':=by subst h;exact yXp
theorem yH5 (k:TkK) (strs:Bool):(tkN k==(if strs=true then 3 else 2))=k.isSort strs:=by cases k<;>cases strs<;>rfl
theorem yG {k:TkK} {strs:Bool} (h:k.isSort strs=true):tkT k=k.txt∧¬k=.fin∧¬k=.bad∧(strs=true→k.nm=0)∧(strs=false→k.txt=noS):=by
 cases k<;>cases strs<;>first
  |(cases h;done)
  |exact⟨rfl,(fun q=>by cases q),(fun q=>by cases q),(fun q=>by first|rfl|cases q),(fun q=>by first|rfl|cases q)⟩
theorem ySp:¬less noS noS:=by unfold less noS;rw[ByteArray.toList_eq];simp[Op.bytesLess]
theorem yZ3 (h:yBs w base g cp ks) (hN:N=ks.length) (hl:N≤1000000) (hk:ks[i]?=some k) (hT:Toks ks) (kd:Int) (hkd:kd=8∨kd=9):Calls Tryz.prog 49 #[parV g N cp i nd 0 pa,.int .i64 kd] w (ArgP base g cp N nd pa ks kd i w):=by
 have HAr:Hid (yAv kd (ks.drop i)=yFg kd true (ks.drop i)):=by show _=_;unfold yAv;rw[if_neg (by omega),if_neg (by omega),if_pos (by omega)]
 have y1:¬kd≤3:=by omega
 have y2:¬kd≤7:=by omega
 have y3:¬11≤kd:=by omega
 have HKd:Hid (kd=8∨kd=9):=hkd;clear hkd;obtain⟨W0,hW0⟩:=qE ((((w.alloc (Obj.cells #[.slice (some ⟨g,0,none⟩) N cp,.int .i64 (i:Int),.int .i64 (nd:Int),.int .i64 0,.int .i64 (pa:Int)] 41)).alloc (Obj.cells #[.slice none 0 0,.int .i64 0,.int .i64 0,.int .i64 0,.int .i64 0] 41)).alloc (Obj.cells #[.int .i64 0,.string ⟨#[]⟩,.bool false,.string ⟨#[]⟩,.int .u64 0,.int .u64 0,.int .i64 0] 65)).alloc (Obj.cells #[.int .i64 kd,.string ⟨#[]⟩,.bool false,.string ⟨#[]⟩,.int .u64 0,.int .u64 0,.int .i64 0] 65):World);have HJ0:Hid (AgJ w base g cp N nd pa ks i (yAc kd) W0):=yFc kd h hW0;have hi:i<N:=by rw[hN];exact(List.getElem?_eq_some_iff.1 hk).1
 have zi:(i:Int)<(N:Int):=by omega
 have H0:Hid (N=ks.length∧ks[i]?=some k∧hdK (ks.drop i)=k.k∧hdA (ks.drop i)=k.pos∧(ks.drop i).tail=ks.drop (i+1)∧Toks ks):=⟨hN,hk,(yAh hk).1,(yAh hk).2.1,(yAh hk).2.2,hT⟩;have hgl:=h.lt.2;clear h hN hk hT;go_enter Tryz.func49,Tryz.ntmps49;go_upto_region 2 with fail;rw[←hW0];clear hW0;obtain⟨b0,b1,b2,b3,b4,b5,b6⟩:=HJ0.n.c7;simp only[yAc,noS]at b0 b1 b2 b3 b4 b5 b6;go_wp2_with fail;refine(yQo kd ⟨#[]⟩ ⟨#[]⟩ false 0 0 0 W0 HKd.out).mono ?_;rintro e v0 ⟨rfl,hb0⟩;have HV0:Hid (AgJ w base g cp N nd pa ks i (yAc kd) v0):=HJ0.up hb0;clear hb0 b0 b1 b2 b3 b4 b5 b6;go_upto_region 24 with fail;clear y1 y2 y3;obtain⟨t0,t1,t2,t3⟩:=yBc HV0.tk H0.2.1;have zs:=yH5 k.k true;have zs':(tkN k.k==3)=k.k.isSort true:=zs;clear zs t3;obtain⟨a0,a1⟩:=HV0.p.c2;cases hso:k.k.isSort true
 case false=>
  rw[hso]at zs';obtain⟨a,ha⟩:=qE (.fin:TkK);have HA:Hid (yAv kd (ks.drop i)=yE9 kd true a (ks.drop i)):=by show _=_;rw[HAr.out];unfold yFg;rw[H0.2.2.1,if_neg (by rw[hso];simp),ha]
  have HV1:Hid (AgJ w base g cp N nd pa ks i (⟨kd,a.txt,false,noS,a.nm,0,0⟩:Nd) v0):=by rw[ha];exact HV0.out
  have Hz:Hid (a.nm=0):=by rw[ha];rfl
  have Hk:Hid (ks[i]?=some k):=H0.2.1;clear hso ha t1 t2;go_upto_region 28 with fail;clear t0 zs' a0 a1;have HIs:Hid (Calls Tryz.prog 48 #[parV g N cp i nd 0 pa,.string ⟨#[46,46]⟩] v0 fun e w'=>e=.returned (.bool (k.k.isSign 46))∧Below v0.heap.size v0 w'):=yCl HV1.tk H0.1 hl Hk.out (yDm H0.2.2.2.2.2 Hk.out) nd 0 pa 46 ⟨#[46,46]⟩ (by rw[ByteArray.toList_eq];rfl);obtain⟨a0,a1,a2,a3,a4⟩:=HV1.p.c5;go_wp2_with fail;refine HIs.mono ?_;clear HIs;rintro e v1 ⟨rfl,hb1⟩;have HV:Hid (AgJ w base g cp N nd pa ks i (⟨kd,a.txt,false,noS,a.nm,0,0⟩:Nd) v1):=HV1.up hb1;clear hb1 a0 a1 a2 a3 a4;cases hsg:k.k.isSign 46
  case false=>exact zzQ7
  have Hk2:Hid (∃k2,ks[i+1]?=some k2):=(yB3 H0.2.2.2.2.2 Hk.out (by rw[TkK.isSign_eq hsg];intro q;cases q) (by rw[TkK.isSign_eq hsg];intro q;cases q)).2;have HA2:Hid (yAv kd (ks.drop i)=upM kd true a (ks.drop (i+1))):=by show _=_;rw[HA.out];unfold yE9;rw[(yAh Hk.out).1,if_pos hsg,(yAh Hk.out).2.2]
  clear hsg;obtain⟨V2,hV2⟩:∃V:World,V=v1.setCell ⟨w.heap.size,1,none⟩ (.int .i64 ((i:Int)+1)):=⟨_,rfl⟩;obtain⟨i2,hi2⟩:∃ix,ix=i+1:=⟨_,rfl⟩;have HJ2:Hid (AgJ w base g cp N nd pa ks i2 (⟨kd,a.txt,false,noS,a.nm,0,0⟩:Nd) V2):=by rw[hV2,hi2];exact HV.stepI _ (by simp)
  have Hi2:Hid (i2=i+1):=hi2;have hilei2:i≤i2:=by omega
  clear hi2;have a1:=HV.p.cell (j:=1) rfl;have ia:=HV.p.frozen 1;go_upto_region 31 with fail;rw[←hV2];clear hV2 a1 ia;obtain⟨k2,hk2⟩:=Hk2.out;rw[←Hi2.out]at hk2;have HK2:Hid (ks[i2]?=some k2):=hk2;have hi2N:i2<N:=by rw[H0.1];exact(List.getElem?_eq_some_iff.1 hk2).1
  have zi2:(i2:Int)<(N:Int):=by omega
  clear hk2 Hk2;obtain⟨t0,t1,t2,t3⟩:=yBc HJ2.tk HK2.out;have zs:=yH5 k2.k true;have zs':(tkN k2.k==3)=k2.k.isSort true:=zs;clear zs t3;obtain⟨a0,a1⟩:=HJ2.p.c2;have HA3:Hid (yAv kd (ks.drop i)=upM kd true a (ks.drop i2)):=by rw[Hi2.out];exact HA2.out
  cases hso:k2.k.isSort true
  case false=>exact zzQ5
  obtain⟨htx,hnf,hnb,hz1,hz2⟩:=yG hso;have Hk3:Hid (∃k3,ks[i2+1]?=some k3):=(yB3 H0.2.2.2.2.2 HK2.out hnf hnb).2;have HA4:Hid (yAv kd (ks.drop i)=if less a.txt k2.k.txt∨a.nm<k2.k.nm then .ok (ks.drop (i2+1),(⟨kd,a.txt,true,k2.k.txt,a.nm,k2.k.nm,0⟩:Nd))else yBy 7 (ks.drop i2)):=by show _=_;rw[HA3.out];unfold upM;rw[(yAh HK2.out).1,if_pos hso,(yAh HK2.out).2.2]
  have HTx:Hid (tkT k2.k=k2.k.txt):=htx;have HZ:Hid (a.nm=0∧k2.k.nm=0):=⟨Hz.out,hz1 rfl⟩;rw[htx]at t2;rw[hso]at zs';clear htx hnf hnb hz1 hz2 hso;have hi3N:i2+1<N:=by obtain⟨k3,hk3⟩:=Hk3.out;rw[H0.1];exact(List.getElem?_eq_some_iff.1 hk3).1
  obtain⟨V3,hV3⟩:∃V:World,V=V2.setCell ⟨w.heap.size+3,2,none⟩ (.bool true):=⟨_,rfl⟩;have HJ3:Hid (AgJ w base g cp N nd pa ks i2 (⟨kd,a.txt,true,noS,a.nm,0,0⟩:Nd) V3):=by rw[hV3];exact HJ2.stepN 2 _ rfl
  have n2:=HJ2.n.cell (j:=2) rfl;have m2:=HJ2.n.frozen 2;go_upto_region 33 with fail;rw[←hV3];clear hV3 n2 m2 a0 a1 t0 t1 t2 zs';obtain⟨t0,t1,t2,t3⟩:=yBc HJ3.tk HK2.out;have zs:tkT k2.k=k2.k.txt:=HTx.out;rw[zs]at t2;clear zs;obtain⟨a0,a1⟩:=HJ3.p.c2;obtain⟨V4,hV4⟩:∃V:World,V=V3.setCell ⟨w.heap.size+3,3,none⟩ (.string k2.k.txt):=⟨_,rfl⟩;have HJ4:Hid (AgJ w base g cp N nd pa ks i2 (⟨kd,a.txt,true,k2.k.txt,a.nm,0,0⟩:Nd) V4):=by rw[hV4];exact HJ3.stepN 3 _ rfl
  have n3:=HJ3.n.cell (j:=3) rfl;have m3:=HJ3.n.frozen 3;go_upto_region 34 with fail;rw[←hV4];clear hV4 n3 m3 a0 a1 t0 t1 t2 t3;obtain⟨t0,t1,t2,t3⟩:=yBc HJ4.tk HK2.out;obtain⟨a0,a1⟩:=HJ4.p.c2;obtain⟨V5,hV5⟩:∃V:World,V=V4.setCell ⟨w.heap.size+3,5,none⟩ (.int .u64 k2.k.nm):=⟨_,rfl⟩;have HJ5x:Hid (AgJ w base g cp N nd pa ks i2 (⟨kd,a.txt,true,k2.k.txt,a.nm,k2.k.nm,0⟩:Nd) V5):=by rw[hV5];exact HJ4.stepN 5 _ rfl
  have n5:=HJ4.n.cell (j:=5) rfl;have m5:=HJ4.n.frozen 5;go_upto_region 35 with fail;rw[←hV5];clear hV5 n5 m5 a0 a1 t0 t1 t2 t3;have g1:=HJ5x.n.cell (j:=1) rfl;have g3:=HJ5x.n.cell (j:=3) rfl;by_cases hls:less a.txt k2.k.txt;case neg=>
   have hbl:Op.bytesLess a.txt.toList k2.k.txt.toList=false:=by unfold less at hls;simpa using hls
   have HA5:Hid (yAv kd (ks.drop i)=yBy 7 (ks.drop i2)):=by
    show _=_
    rw[HA4.out,if_neg (by rw[HZ.1,HZ.2];intro q;rcases q with q|q
                          ·exact hls q
                          ·omega)]
   exact zzQ0
  have hbl:Op.bytesLess a.txt.toList k2.k.txt.toList=true:=hls;have HA5:Hid (yAv kd (ks.drop i)=.ok (ks.drop (i2+1),(⟨kd,a.txt,true,k2.k.txt,a.nm,k2.k.nm,0⟩:Nd))):=by show _=_;rw[HA4.out,if_pos (.inl hls)]
  exact zzQ3
 obtain⟨htx,hnf,hnb,hz1,hz2⟩:=yG hso;have Hk1:Hid (∃k1,ks[i+1]?=some k1):=(yB3 H0.2.2.2.2.2 H0.2.1 hnf hnb).2;obtain⟨a,ha⟩:=qE (k.k:TkK);have HA1:Hid (yAv kd (ks.drop i)=yE9 kd true a (ks.drop (i+1))):=by show _=_;rw[HAr.out];unfold yFg;rw[H0.2.2.1,if_pos hso,ha,H0.2.2.2.2.1]
 have Hz:Hid (a.nm=0):=by rw[ha];exact hz1 rfl
 have HTa:Hid (tkT k.k=a.txt∧k.k.nm=a.nm):=by rw[ha];exact⟨htx,rfl⟩
 rw[HTa.1]at t2;rw[hso]at zs';clear htx hnf hnb hz1 hz2 hso ha;obtain⟨V1,hV1⟩:∃V:World,V=v0.setCell ⟨w.heap.size+3,1,none⟩ (.string a.txt):=⟨_,rfl⟩;have HV1:Hid (AgJ w base g cp N nd pa ks i (⟨kd,a.txt,false,noS,0,0,0⟩:Nd) V1):=by rw[hV1];exact HV0.stepN 1 _ rfl
 have n1:=HV0.n.cell (j:=1) rfl;have m1:=HV0.n.frozen 1;go_upto_region 26 with fail;rw[←hV1];clear hV1 n1 m1 a0 a1 t0 t1 t2 zs';obtain⟨t0,t1,t2,t3⟩:=yBc HV1.tk H0.2.1;rw[HTa.2]at t1;obtain⟨a0,a1⟩:=HV1.p.c2;obtain⟨Vb,hVb⟩:∃V:World,V=V1.setCell ⟨w.heap.size+3,4,none⟩ (.int .u64 a.nm):=⟨_,rfl⟩;have HVb:Hid (AgJ w base g cp N nd pa ks i (⟨kd,a.txt,false,noS,a.nm,0,0⟩:Nd) Vb):=by rw[hVb];exact HV1.stepN 4 _ rfl
 have n4:=HV1.n.cell (j:=4) rfl;have m4:=HV1.n.frozen 4;go_upto_region 27 with fail;rw[←hVb];clear hVb n4 m4 a0 a1 t0 t1 t2 t3;obtain⟨Vc,hVc⟩:∃V:World,V=Vb.setCell ⟨w.heap.size,1,none⟩ (.int .i64 ((i:Int)+1)):=⟨_,rfl⟩;obtain⟨i1,hi1⟩:∃ix,ix=i+1:=⟨_,rfl⟩;have HVc:Hid (AgJ w base g cp N nd pa ks i1 (⟨kd,a.txt,false,noS,a.nm,0,0⟩:Nd) Vc):=by rw[hVc,hi1];exact HVb.stepI _ (by simp)
 have Hi1:Hid (i1=i+1):=hi1;have hilei1:i≤i1:=by omega
 clear hi1;have a1:=HVb.p.cell (j:=1) rfl;have ia:=HVb.p.frozen 1;go_upto_region 28 with fail;rw[←hVc];clear hVc a1 ia;obtain⟨k1,hk1⟩:=Hk1.out;rw[←Hi1.out]at hk1;have Hk:Hid (ks[i1]?=some k1):=hk1;have HA:Hid (yAv kd (ks.drop i)=yE9 kd true a (ks.drop i1)):=by rw[Hi1.out];exact HA1.out
 have hi1N:i1<N:=by rw[H0.1];exact(List.getElem?_eq_some_iff.1 hk1).1
 clear hk1 Hk1;have HIs:Hid (Calls Tryz.prog 48 #[parV g N cp i1 nd 0 pa,.string ⟨#[46,46]⟩] Vc fun e w'=>e=.returned (.bool (k1.k.isSign 46))∧Below Vc.heap.size Vc w'):=yCl HVc.tk H0.1 hl Hk.out (yDm H0.2.2.2.2.2 Hk.out) nd 0 pa 46 ⟨#[46,46]⟩ (by rw[ByteArray.toList_eq];rfl);obtain⟨a0,a1,a2,a3,a4⟩:=HVc.p.c5;go_wp2_with fail;refine HIs.mono ?_;clear HIs;rintro e v1 ⟨rfl,hb1⟩;have HV:Hid (AgJ w base g cp N nd pa ks i1 (⟨kd,a.txt,false,noS,a.nm,0,0⟩:Nd) v1):=HVc.up hb1;clear hb1 a0 a1 a2 a3 a4;cases hsg:k1.k.isSign 46
 case false=>exact zzQ6
 have Hk2:Hid (∃k2,ks[i1+1]?=some k2):=(yB3 H0.2.2.2.2.2 Hk.out (by rw[TkK.isSign_eq hsg];intro q;cases q) (by rw[TkK.isSign_eq hsg];intro q;cases q)).2;have HA2:Hid (yAv kd (ks.drop i)=upM kd true a (ks.drop (i1+1))):=by show _=_;rw[HA.out];unfold yE9;rw[(yAh Hk.out).1,if_pos hsg,(yAh Hk.out).2.2]
 clear hsg;obtain⟨V2,hV2⟩:∃V:World,V=v1.setCell ⟨w.heap.size,1,none⟩ (.int .i64 ((i1:Int)+1)):=⟨_,rfl⟩;obtain⟨i2,hi2⟩:∃ix,ix=i1+1:=⟨_,rfl⟩;have HJ2:Hid (AgJ w base g cp N nd pa ks i2 (⟨kd,a.txt,false,noS,a.nm,0,0⟩:Nd) V2):=by rw[hV2,hi2];exact HV.stepI _ (by simp)
 have Hi2:Hid (i2=i1+1):=hi2;have hilei2:i1≤i2:=by omega
 clear hi2;have a1:=HV.p.cell (j:=1) rfl;have ia:=HV.p.frozen 1;go_upto_region 31 with fail;rw[←hV2];clear hV2 a1 ia;obtain⟨k2,hk2⟩:=Hk2.out;rw[←Hi2.out]at hk2;have HK2:Hid (ks[i2]?=some k2):=hk2;have hi2N:i2<N:=by rw[H0.1];exact(List.getElem?_eq_some_iff.1 hk2).1
 have zi2:(i2:Int)<(N:Int):=by omega
 clear hk2 Hk2;obtain⟨t0,t1,t2,t3⟩:=yBc HJ2.tk HK2.out;have zs:=yH5 k2.k true;have zs':(tkN k2.k==3)=k2.k.isSort true:=zs;clear zs t3;obtain⟨a0,a1⟩:=HJ2.p.c2;have HA3:Hid (yAv kd (ks.drop i)=upM kd true a (ks.drop i2)):=by rw[Hi2.out];exact HA2.out
 cases hso:k2.k.isSort true
 case false=>exact zzQ5
 obtain⟨htx,hnf,hnb,hz1,hz2⟩:=yG hso;have Hk3:Hid (∃k3,ks[i2+1]?=some k3):=(yB3 H0.2.2.2.2.2 HK2.out hnf hnb).2;have HA4:Hid (yAv kd (ks.drop i)=if less a.txt k2.k.txt∨a.nm<k2.k.nm then .ok (ks.drop (i2+1),(⟨kd,a.txt,true,k2.k.txt,a.nm,k2.k.nm,0⟩:Nd))else yBy 7 (ks.drop i2)):=by show _=_;rw[HA3.out];unfold upM;rw[(yAh HK2.out).1,if_pos hso,(yAh HK2.out).2.2]
 have HTx:Hid (tkT k2.k=k2.k.txt):=htx;have HZ:Hid (a.nm=0∧k2.k.nm=0):=⟨Hz.out,hz1 rfl⟩;rw[htx]at t2;rw[hso]at zs';clear htx hnf hnb hz1 hz2 hso;have hi3N:i2+1<N:=by obtain⟨k3,hk3⟩:=Hk3.out;rw[H0.1];exact(List.getElem?_eq_some_iff.1 hk3).1
 obtain⟨V3,hV3⟩:∃V:World,V=V2.setCell ⟨w.heap.size+3,2,none⟩ (.bool true):=⟨_,rfl⟩;have HJ3:Hid (AgJ w base g cp N nd pa ks i2 (⟨kd,a.txt,true,noS,a.nm,0,0⟩:Nd) V3):=by rw[hV3];exact HJ2.stepN 2 _ rfl
 have n2:=HJ2.n.cell (j:=2) rfl;have m2:=HJ2.n.frozen 2;go_upto_region 33 with fail;rw[←hV3];clear hV3 n2 m2 a0 a1 t0 t1 t2 zs';obtain⟨t0,t1,t2,t3⟩:=yBc HJ3.tk HK2.out;have zs:tkT k2.k=k2.k.txt:=HTx.out;rw[zs]at t2;clear zs;obtain⟨a0,a1⟩:=HJ3.p.c2;obtain⟨V4,hV4⟩:∃V:World,V=V3.setCell ⟨w.heap.size+3,3,none⟩ (.string k2.k.txt):=⟨_,rfl⟩;have HJ4:Hid (AgJ w base g cp N nd pa ks i2 (⟨kd,a.txt,true,k2.k.txt,a.nm,0,0⟩:Nd) V4):=by rw[hV4];exact HJ3.stepN 3 _ rfl
 have n3:=HJ3.n.cell (j:=3) rfl;have m3:=HJ3.n.frozen 3;go_upto_region 34 with fail;rw[←hV4];clear hV4 n3 m3 a0 a1 t0 t1 t2 t3;obtain⟨t0,t1,t2,t3⟩:=yBc HJ4.tk HK2.out;obtain⟨a0,a1⟩:=HJ4.p.c2;obtain⟨V5,hV5⟩:∃V:World,V=V4.setCell ⟨w.heap.size+3,5,none⟩ (.int .u64 k2.k.nm):=⟨_,rfl⟩;have HJ5x:Hid (AgJ w base g cp N nd pa ks i2 (⟨kd,a.txt,true,k2.k.txt,a.nm,k2.k.nm,0⟩:Nd) V5):=by rw[hV5];exact HJ4.stepN 5 _ rfl
 have n5:=HJ4.n.cell (j:=5) rfl;have m5:=HJ4.n.frozen 5;go_upto_region 35 with fail;rw[←hV5];clear hV5 n5 m5 a0 a1 t0 t1 t2 t3;have g1:=HJ5x.n.cell (j:=1) rfl;have g3:=HJ5x.n.cell (j:=3) rfl;by_cases hls:less a.txt k2.k.txt;case neg=>
  have hbl:Op.bytesLess a.txt.toList k2.k.txt.toList=false:=by unfold less at hls;simpa using hls
  have HA5:Hid (yAv kd (ks.drop i)=yBy 7 (ks.drop i2)):=by
   show _=_
   rw[HA4.out,if_neg (by rw[HZ.1,HZ.2];intro q;rcases q with q|q
                         ·exact hls q
                         ·omega)]
  exact zzQ0
 have hbl:Op.bytesLess a.txt.toList k2.k.txt.toList=true:=hls;have HA5:Hid (yAv kd (ks.drop i)=.ok (ks.drop (i2+1),(⟨kd,a.txt,true,k2.k.txt,a.nm,k2.k.nm,0⟩:Nd))):=by show _=_;rw[HA4.out,if_pos (.inl hls)]
 exact zzQ3
theorem yZ4 (h:yBs w base g cp ks) (hN:N=ks.length) (hl:N≤1000000) (hk:ks[i]?=some k) (hT:Toks ks) (kd:Int) (hkd:kd=10):Calls Tryz.prog 49 #[parV g N cp i nd 0 pa,.int .i64 kd] w (ArgP base g cp N nd pa ks kd i w):=by
 have HAr:Hid (yAv kd (ks.drop i)=yFg kd false (ks.drop i)):=by show _=_;unfold yAv;rw[if_neg (by omega),if_neg (by omega),if_neg (by omega),if_pos (by omega)]
 have y1:¬kd≤3:=by omega
 have y2:¬kd≤7:=by omega
 have y3:¬11≤kd:=by omega
 have HKd:Hid (kd=10):=hkd;clear hkd;obtain⟨W0,hW0⟩:=qE ((((w.alloc (Obj.cells #[.slice (some ⟨g,0,none⟩) N cp,.int .i64 (i:Int),.int .i64 (nd:Int),.int .i64 0,.int .i64 (pa:Int)] 41)).alloc (Obj.cells #[.slice none 0 0,.int .i64 0,.int .i64 0,.int .i64 0,.int .i64 0] 41)).alloc (Obj.cells #[.int .i64 0,.string ⟨#[]⟩,.bool false,.string ⟨#[]⟩,.int .u64 0,.int .u64 0,.int .i64 0] 65)).alloc (Obj.cells #[.int .i64 kd,.string ⟨#[]⟩,.bool false,.string ⟨#[]⟩,.int .u64 0,.int .u64 0,.int .i64 0] 65):World);have HJ0:Hid (AgJ w base g cp N nd pa ks i (yAc kd) W0):=yFc kd h hW0;have hi:i<N:=by rw[hN];exact(List.getElem?_eq_some_iff.1 hk).1
 have zi:(i:Int)<(N:Int):=by omega
 have H0:Hid (N=ks.length∧ks[i]?=some k∧hdK (ks.drop i)=k.k∧hdA (ks.drop i)=k.pos∧(ks.drop i).tail=ks.drop (i+1)∧Toks ks):=⟨hN,hk,(yAh hk).1,(yAh hk).2.1,(yAh hk).2.2,hT⟩;have hgl:=h.lt.2;clear h hN hk hT;go_enter Tryz.func49,Tryz.ntmps49;go_upto_region 2 with fail;rw[←hW0];clear hW0;obtain⟨b0,b1,b2,b3,b4,b5,b6⟩:=HJ0.n.c7;simp only[yAc,noS]at b0 b1 b2 b3 b4 b5 b6;go_wp2_with fail;refine(ySz kd ⟨#[]⟩ ⟨#[]⟩ false 0 0 0 W0 HKd.out).mono ?_;rintro e v0 ⟨rfl,hb0⟩;have HV0:Hid (AgJ w base g cp N nd pa ks i (yAc kd) v0):=HJ0.up hb0;clear hb0 b0 b1 b2 b3 b4 b5 b6;go_upto_region 24 with fail;clear y1 y2 y3;obtain⟨t0,t1,t2,t3⟩:=yBc HV0.tk H0.2.1;have zs:=yH5 k.k false;have zs':(tkN k.k==2)=k.k.isSort false:=zs;clear zs t3;obtain⟨a0,a1⟩:=HV0.p.c2;cases hso:k.k.isSort false
 case false=>
  rw[hso]at zs';obtain⟨a,ha⟩:=qE (.fin:TkK);have HA:Hid (yAv kd (ks.drop i)=yE9 kd false a (ks.drop i)):=by show _=_;rw[HAr.out];unfold yFg;rw[H0.2.2.1,if_neg (by rw[hso];simp),ha]
  have HV1:Hid (AgJ w base g cp N nd pa ks i (⟨kd,a.txt,false,noS,a.nm,0,0⟩:Nd) v0):=by rw[ha];exact HV0.out
  have Hz:Hid (a.txt=noS):=by rw[ha];rfl
  have Hk:Hid (ks[i]?=some k):=H0.2.1;clear hso ha t1 t2;go_upto_region 28 with fail;clear t0 zs' a0 a1;have HIs:Hid (Calls Tryz.prog 48 #[parV g N cp i nd 0 pa,.string ⟨#[46,46]⟩] v0 fun e w'=>e=.returned (.bool (k.k.isSign 46))∧Below v0.heap.size v0 w'):=yCl HV1.tk H0.1 hl Hk.out (yDm H0.2.2.2.2.2 Hk.out) nd 0 pa 46 ⟨#[46,46]⟩ (by rw[ByteArray.toList_eq];rfl);obtain⟨a0,a1,a2,a3,a4⟩:=HV1.p.c5;go_wp2_with fail;refine HIs.mono ?_;clear HIs;rintro e v1 ⟨rfl,hb1⟩;have HV:Hid (AgJ w base g cp N nd pa ks i (⟨kd,a.txt,false,noS,a.nm,0,0⟩:Nd) v1):=HV1.up hb1;clear hb1 a0 a1 a2 a3 a4;cases hsg:k.k.isSign 46
  case false=>exact zzQ7
  have Hk2:Hid (∃k2,ks[i+1]?=some k2):=(yB3 H0.2.2.2.2.2 Hk.out (by rw[TkK.isSign_eq hsg];intro q;cases q) (by rw[TkK.isSign_eq hsg];intro q;cases q)).2;have HA2:Hid (yAv kd (ks.drop i)=upM kd false a (ks.drop (i+1))):=by show _=_;rw[HA.out];unfold yE9;rw[(yAh Hk.out).1,if_pos hsg,(yAh Hk.out).2.2]
  clear hsg;obtain⟨V2,hV2⟩:∃V:World,V=v1.setCell ⟨w.heap.size,1,none⟩ (.int .i64 ((i:Int)+1)):=⟨_,rfl⟩;obtain⟨i2,hi2⟩:∃ix,ix=i+1:=⟨_,rfl⟩;have HJ2:Hid (AgJ w base g cp N nd pa ks i2 (⟨kd,a.txt,false,noS,a.nm,0,0⟩:Nd) V2):=by rw[hV2,hi2];exact HV.stepI _ (by simp)
  have Hi2:Hid (i2=i+1):=hi2;have hilei2:i≤i2:=by omega
  clear hi2;have a1:=HV.p.cell (j:=1) rfl;have ia:=HV.p.frozen 1;go_upto_region 31 with fail;rw[←hV2];clear hV2 a1 ia;obtain⟨k2,hk2⟩:=Hk2.out;rw[←Hi2.out]at hk2;have HK2:Hid (ks[i2]?=some k2):=hk2;have hi2N:i2<N:=by rw[H0.1];exact(List.getElem?_eq_some_iff.1 hk2).1
  have zi2:(i2:Int)<(N:Int):=by omega
  clear hk2 Hk2;obtain⟨t0,t1,t2,t3⟩:=yBc HJ2.tk HK2.out;have zs:=yH5 k2.k false;have zs':(tkN k2.k==2)=k2.k.isSort false:=zs;clear zs t3;obtain⟨a0,a1⟩:=HJ2.p.c2;have HA3:Hid (yAv kd (ks.drop i)=upM kd false a (ks.drop i2)):=by rw[Hi2.out];exact HA2.out
  cases hso:k2.k.isSort false
  case false=>exact zzQ5
  obtain⟨htx,hnf,hnb,hz1,hz2⟩:=yG hso;have Hk3:Hid (∃k3,ks[i2+1]?=some k3):=(yB3 H0.2.2.2.2.2 HK2.out hnf hnb).2;have HA4:Hid (yAv kd (ks.drop i)=if less a.txt k2.k.txt∨a.nm<k2.k.nm then .ok (ks.drop (i2+1),(⟨kd,a.txt,true,k2.k.txt,a.nm,k2.k.nm,0⟩:Nd))else yBy 7 (ks.drop i2)):=by show _=_;rw[HA3.out];unfold upM;rw[(yAh HK2.out).1,if_pos hso,(yAh HK2.out).2.2]
  have HTx:Hid (tkT k2.k=k2.k.txt):=htx;have HZ:Hid (a.txt=noS∧k2.k.txt=noS):=⟨Hz.out,hz2 rfl⟩;rw[htx]at t2;rw[hso]at zs';clear htx hnf hnb hz1 hz2 hso;have hi3N:i2+1<N:=by obtain⟨k3,hk3⟩:=Hk3.out;rw[H0.1];exact(List.getElem?_eq_some_iff.1 hk3).1
  obtain⟨V3,hV3⟩:∃V:World,V=V2.setCell ⟨w.heap.size+3,2,none⟩ (.bool true):=⟨_,rfl⟩;have HJ3:Hid (AgJ w base g cp N nd pa ks i2 (⟨kd,a.txt,true,noS,a.nm,0,0⟩:Nd) V3):=by rw[hV3];exact HJ2.stepN 2 _ rfl
  have n2:=HJ2.n.cell (j:=2) rfl;have m2:=HJ2.n.frozen 2;go_upto_region 33 with fail;rw[←hV3];clear hV3 n2 m2 a0 a1 t0 t1 t2 zs';obtain⟨t0,t1,t2,t3⟩:=yBc HJ3.tk HK2.out;have zs:tkT k2.k=k2.k.txt:=HTx.out;rw[zs]at t2;clear zs;obtain⟨a0,a1⟩:=HJ3.p.c2;obtain⟨V4,hV4⟩:∃V:World,V=V3.setCell ⟨w.heap.size+3,3,none⟩ (.string k2.k.txt):=⟨_,rfl⟩;have HJ4:Hid (AgJ w base g cp N nd pa ks i2 (⟨kd,a.txt,true,k2.k.txt,a.nm,0,0⟩:Nd) V4):=by rw[hV4];exact HJ3.stepN 3 _ rfl
  have n3:=HJ3.n.cell (j:=3) rfl;have m3:=HJ3.n.frozen 3;go_upto_region 34 with fail;rw[←hV4];clear hV4 n3 m3 a0 a1 t0 t1 t2 t3;obtain⟨t0,t1,t2,t3⟩:=yBc HJ4.tk HK2.out;obtain⟨a0,a1⟩:=HJ4.p.c2;obtain⟨V5,hV5⟩:∃V:World,V=V4.setCell ⟨w.heap.size+3,5,none⟩ (.int .u64 k2.k.nm):=⟨_,rfl⟩;have HJ5x:Hid (AgJ w base g cp N nd pa ks i2 (⟨kd,a.txt,true,k2.k.txt,a.nm,k2.k.nm,0⟩:Nd) V5):=by rw[hV5];exact HJ4.stepN 5 _ rfl
  have n5:=HJ4.n.cell (j:=5) rfl;have m5:=HJ4.n.frozen 5;go_upto_region 35 with fail;rw[←hV5];clear hV5 n5 m5 a0 a1 t0 t1 t2 t3;have g4:=HJ5x.n.cell (j:=4) rfl;have g5:=HJ5x.n.cell (j:=5) rfl;by_cases hls:a.nm<k2.k.nm;case neg=>
   have hbl:decide (k2.k.nm≤a.nm)=true:=decide_eq_true (by omega);have HA5:Hid (yAv kd (ks.drop i)=yBy 7 (ks.drop i2)):=by
    show _=_
    rw[HA4.out,if_neg (by rw[HZ.1,HZ.2];intro q;rcases q with q|q
                          ·exact ySp q
                          ·exact hls q)]
   exact zzQ0
  have hbl:decide (k2.k.nm≤a.nm)=false:=decide_eq_false (by omega);have HA5:Hid (yAv kd (ks.drop i)=.ok (ks.drop (i2+1),(⟨kd,a.txt,true,k2.k.txt,a.nm,k2.k.nm,0⟩:Nd))):=by show _=_;rw[HA4.out,if_pos (.inr hls)]
  exact zzQ3
 obtain⟨htx,hnf,hnb,hz1,hz2⟩:=yG hso;have Hk1:Hid (∃k1,ks[i+1]?=some k1):=(yB3 H0.2.2.2.2.2 H0.2.1 hnf hnb).2;obtain⟨a,ha⟩:=qE (k.k:TkK);have HA1:Hid (yAv kd (ks.drop i)=yE9 kd false a (ks.drop (i+1))):=by show _=_;rw[HAr.out];unfold yFg;rw[H0.2.2.1,if_pos hso,ha,H0.2.2.2.2.1]
 have Hz:Hid (a.txt=noS):=by rw[ha];exact hz2 rfl
 have HTa:Hid (tkT k.k=a.txt∧k.k.nm=a.nm):=by rw[ha];exact⟨htx,rfl⟩
 rw[HTa.1]at t2;rw[hso]at zs';clear htx hnf hnb hz1 hz2 hso ha;obtain⟨V1,hV1⟩:∃V:World,V=v0.setCell ⟨w.heap.size+3,1,none⟩ (.string a.txt):=⟨_,rfl⟩;have HV1:Hid (AgJ w base g cp N nd pa ks i (⟨kd,a.txt,false,noS,0,0,0⟩:Nd) V1):=by rw[hV1];exact HV0.stepN 1 _ rfl
 have n1:=HV0.n.cell (j:=1) rfl;have m1:=HV0.n.frozen 1;go_upto_region 26 with fail;rw[←hV1];clear hV1 n1 m1 a0 a1 t0 t1 t2 zs';obtain⟨t0,t1,t2,t3⟩:=yBc HV1.tk H0.2.1;rw[HTa.2]at t1;obtain⟨a0,a1⟩:=HV1.p.c2;obtain⟨Vb,hVb⟩:∃V:World,V=V1.setCell ⟨w.heap.size+3,4,none⟩ (.int .u64 a.nm):=⟨_,rfl⟩;have HVb:Hid (AgJ w base g cp N nd pa ks i (⟨kd,a.txt,false,noS,a.nm,0,0⟩:Nd) Vb):=by rw[hVb];exact HV1.stepN 4 _ rfl
 have n4:=HV1.n.cell (j:=4) rfl;have m4:=HV1.n.frozen 4;go_upto_region 27 with fail;rw[←hVb];clear hVb n4 m4 a0 a1 t0 t1 t2 t3;obtain⟨Vc,hVc⟩:∃V:World,V=Vb.setCell ⟨w.heap.size,1,none⟩ (.int .i64 ((i:Int)+1)):=⟨_,rfl⟩;obtain⟨i1,hi1⟩:∃ix,ix=i+1:=⟨_,rfl⟩;have HVc:Hid (AgJ w base g cp N nd pa ks i1 (⟨kd,a.txt,false,noS,a.nm,0,0⟩:Nd) Vc):=by rw[hVc,hi1];exact HVb.stepI _ (by simp)
 have Hi1:Hid (i1=i+1):=hi1;have hilei1:i≤i1:=by omega
 clear hi1;have a1:=HVb.p.cell (j:=1) rfl;have ia:=HVb.p.frozen 1;go_upto_region 28 with fail;rw[←hVc];clear hVc a1 ia;obtain⟨k1,hk1⟩:=Hk1.out;rw[←Hi1.out]at hk1;have Hk:Hid (ks[i1]?=some k1):=hk1;have HA:Hid (yAv kd (ks.drop i)=yE9 kd false a (ks.drop i1)):=by rw[Hi1.out];exact HA1.out
 have hi1N:i1<N:=by rw[H0.1];exact(List.getElem?_eq_some_iff.1 hk1).1
 clear hk1 Hk1;have HIs:Hid (Calls Tryz.prog 48 #[parV g N cp i1 nd 0 pa,.string ⟨#[46,46]⟩] Vc fun e w'=>e=.returned (.bool (k1.k.isSign 46))∧Below Vc.heap.size Vc w'):=yCl HVc.tk H0.1 hl Hk.out (yDm H0.2.2.2.2.2 Hk.out) nd 0 pa 46 ⟨#[46,46]⟩ (by rw[ByteArray.toList_eq];rfl);obtain⟨a0,a1,a2,a3,a4⟩:=HVc.p.c5;go_wp2_with fail;refine HIs.mono ?_;clear HIs;rintro e v1 ⟨rfl,hb1⟩;have HV:Hid (AgJ w base g cp N nd pa ks i1 (⟨kd,a.txt,false,noS,a.nm,0,0⟩:Nd) v1):=HVc.up hb1;clear hb1 a0 a1 a2 a3 a4;cases hsg:k1.k.isSign 46
 case false=>exact zzQ6
 have Hk2:Hid (∃k2,ks[i1+1]?=some k2):=(yB3 H0.2.2.2.2.2 Hk.out (by rw[TkK.isSign_eq hsg];intro q;cases q) (by rw[TkK.isSign_eq hsg];intro q;cases q)).2;have HA2:Hid (yAv kd (ks.drop i)=upM kd false a (ks.drop (i1+1))):=by show _=_;rw[HA.out];unfold yE9;rw[(yAh Hk.out).1,if_pos hsg,(yAh Hk.out).2.2]
 clear hsg;obtain⟨V2,hV2⟩:∃V:World,V=v1.setCell ⟨w.heap.size,1,none⟩ (.int .i64 ((i1:Int)+1)):=⟨_,rfl⟩;obtain⟨i2,hi2⟩:∃ix,ix=i1+1:=⟨_,rfl⟩;have HJ2:Hid (AgJ w base g cp N nd pa ks i2 (⟨kd,a.txt,false,noS,a.nm,0,0⟩:Nd) V2):=by rw[hV2,hi2];exact HV.stepI _ (by simp)
 have Hi2:Hid (i2=i1+1):=hi2;have hilei2:i1≤i2:=by omega
 clear hi2;have a1:=HV.p.cell (j:=1) rfl;have ia:=HV.p.frozen 1;go_upto_region 31 with fail;rw[←hV2];clear hV2 a1 ia;obtain⟨k2,hk2⟩:=Hk2.out;rw[←Hi2.out]at hk2;have HK2:Hid (ks[i2]?=some k2):=hk2;have hi2N:i2<N:=by rw[H0.1];exact(List.getElem?_eq_some_iff.1 hk2).1
 have zi2:(i2:Int)<(N:Int):=by omega
 clear hk2 Hk2;obtain⟨t0,t1,t2,t3⟩:=yBc HJ2.tk HK2.out;have zs:=yH5 k2.k false;have zs':(tkN k2.k==2)=k2.k.isSort false:=zs;clear zs t3;obtain⟨a0,a1⟩:=HJ2.p.c2;have HA3:Hid (yAv kd (ks.drop i)=upM kd false a (ks.drop i2)):=by rw[Hi2.out];exact HA2.out
 cases hso:k2.k.isSort false
 case false=>exact zzQ5
 obtain⟨htx,hnf,hnb,hz1,hz2⟩:=yG hso;have Hk3:Hid (∃k3,ks[i2+1]?=some k3):=(yB3 H0.2.2.2.2.2 HK2.out hnf hnb).2;have HA4:Hid (yAv kd (ks.drop i)=if less a.txt k2.k.txt∨a.nm<k2.k.nm then .ok (ks.drop (i2+1),(⟨kd,a.txt,true,k2.k.txt,a.nm,k2.k.nm,0⟩:Nd))else yBy 7 (ks.drop i2)):=by show _=_;rw[HA3.out];unfold upM;rw[(yAh HK2.out).1,if_pos hso,(yAh HK2.out).2.2]
 have HTx:Hid (tkT k2.k=k2.k.txt):=htx;have HZ:Hid (a.txt=noS∧k2.k.txt=noS):=⟨Hz.out,hz2 rfl⟩;rw[htx]at t2;rw[hso]at zs';clear htx hnf hnb hz1 hz2 hso;have hi3N:i2+1<N:=by obtain⟨k3,hk3⟩:=Hk3.out;rw[H0.1];exact(List.getElem?_eq_some_iff.1 hk3).1
 obtain⟨V3,hV3⟩:∃V:World,V=V2.setCell ⟨w.heap.size+3,2,none⟩ (.bool true):=⟨_,rfl⟩;have HJ3:Hid (AgJ w base g cp N nd pa ks i2 (⟨kd,a.txt,true,noS,a.nm,0,0⟩:Nd) V3):=by rw[hV3];exact HJ2.stepN 2 _ rfl
 have n2:=HJ2.n.cell (j:=2) rfl;have m2:=HJ2.n.frozen 2;go_upto_region 33 with fail;rw[←hV3];clear hV3 n2 m2 a0 a1 t0 t1 t2 zs';obtain⟨t0,t1,t2,t3⟩:=yBc HJ3.tk HK2.out;have zs:tkT k2.k=k2.k.txt:=HTx.out;rw[zs]at t2;clear zs;obtain⟨a0,a1⟩:=HJ3.p.c2;obtain⟨V4,hV4⟩:∃V:World,V=V3.setCell ⟨w.heap.size+3,3,none⟩ (.string k2.k.txt):=⟨_,rfl⟩;have HJ4:Hid (AgJ w base g cp N nd pa ks i2 (⟨kd,a.txt,true,k2.k.txt,a.nm,0,0⟩:Nd) V4):=by rw[hV4];exact HJ3.stepN 3 _ rfl
 have n3:=HJ3.n.cell (j:=3) rfl;have m3:=HJ3.n.frozen 3;go_upto_region 34 with fail;rw[←hV4];clear hV4 n3 m3 a0 a1 t0 t1 t2 t3;obtain⟨t0,t1,t2,t3⟩:=yBc HJ4.tk HK2.out;obtain⟨a0,a1⟩:=HJ4.p.c2;obtain⟨V5,hV5⟩:∃V:World,V=V4.setCell ⟨w.heap.size+3,5,none⟩ (.int .u64 k2.k.nm):=⟨_,rfl⟩;have HJ5x:Hid (AgJ w base g cp N nd pa ks i2 (⟨kd,a.txt,true,k2.k.txt,a.nm,k2.k.nm,0⟩:Nd) V5):=by rw[hV5];exact HJ4.stepN 5 _ rfl
 have n5:=HJ4.n.cell (j:=5) rfl;have m5:=HJ4.n.frozen 5;go_upto_region 35 with fail;rw[←hV5];clear hV5 n5 m5 a0 a1 t0 t1 t2 t3;have g4:=HJ5x.n.cell (j:=4) rfl;have g5:=HJ5x.n.cell (j:=5) rfl;by_cases hls:a.nm<k2.k.nm;case neg=>
  have hbl:decide (k2.k.nm≤a.nm)=true:=decide_eq_true (by omega);have HA5:Hid (yAv kd (ks.drop i)=yBy 7 (ks.drop i2)):=by
   show _=_
   rw[HA4.out,if_neg (by rw[HZ.1,HZ.2];intro q;rcases q with q|q
                         ·exact ySp q
                         ·exact hls q)]
  exact zzQ0
 have hbl:decide (k2.k.nm≤a.nm)=false:=decide_eq_false (by omega);have HA5:Hid (yAv kd (ks.drop i)=.ok (ks.drop (i2+1),(⟨kd,a.txt,true,k2.k.txt,a.nm,k2.k.nm,0⟩:Nd))):=by show _=_;rw[HA4.out,if_pos (.inr hls)]
 exact zzQ3
theorem yWr (h:yBs w base g cp ks) (hN:N=ks.length) (hl:N≤1000000) (hk:ks[i]?=some k) (hT:Toks ks) (kd:Int) (h1:1≤kd∧kd≤13):Calls Tryz.prog 49 #[parV g N cp i nd 0 pa,.int .i64 kd] w (ArgP base g cp N nd pa ks kd i w):=by
 by_cases h3:kd≤3
 ·exact yWo h hN hl hk hT kd h3
 by_cases h7:kd≤7
 ·by_cases hs:tkN k.k=3
  ·obtain⟨sx,hsx⟩:=yYd hs;exact yWm h hN hl hk hT kd h3 h7 hsx
  ·exact yQ3 h hN hl hk hT kd h3 h7 hs
 by_cases h9:kd≤9
 ·exact yZ3 h hN hl hk hT kd (by omega)
 by_cases h10:kd=10
 ·exact yZ4 h hN hl hk hT kd h10
 by_cases hs:tkN k.k=2
 ·obtain⟨sx,hsx⟩:=yYe hs;exact yWn h hN hl hk hT kd (by omega) hsx
 ·exact yQ4 h hN hl hk hT kd (by omega) hs
def yYq:Value→Nat
 | .slice _ n _=>n
 |_=>0
structure DrJ (w:World) (base gs cs go:Nat) (st:List (Int×Nat)) (out:List Nd) (all:Bool) (st1:List (Int×Nat)) (out1:List Nd) (m n1 g1 c1:Nat) (wr:World):Prop where
 eq:yAk all st out=yAk all st1 out1
 own:yGm wr base gs cs st1.reverse
 nds:yAu wr base g1 c1 out1
 chg:Chg (fun k=>k=go) w wr
 ne:¬g1=gs
 ap:g1=go∨w.heap.size≤g1
 sm:m=st1.length
 on:n1=out1.length
def DrP (w:World) (base gs cs go:Nat) (st:List (Int×Nat)) (out:List Nd) (all:Bool) (e:Ending) (w':World):Prop:=∃(st1:List (Int×Nat)) (out1:List Nd) (g1 c1:Nat),e=.returned (.tuple #[.slice (some ⟨gs,0,none⟩) st1.length cs,.slice (some ⟨g1,0,none⟩) out1.length c1])∧yAk all st out=(st1,out1)∧Hid (yGm w' base gs cs st1.reverse∧yAu w' base g1 c1 out1∧Chg (fun k=>k=go) w w'∧¬g1=gs∧(g1=go∨w.heap.size≤g1))
variable {gs cs:Nat} {st st1:List (Int×Nat)} {out out1:List Nd}
theorem DrJ.done {go:Nat} {all:Bool} {m n1 g1 c1:Nat} {wr:World} (h:DrJ w base gs cs go st out all st1 out1 m n1 g1 c1 wr) (he:yAk all st1 out1=(st1,out1)):DrP w base gs cs go st out all (.returned (.tuple #[.slice (some ⟨gs,0,none⟩) m cs,.slice (some ⟨g1,0,none⟩) n1 c1])) wr:=
 ⟨st1,out1,g1,c1,by rw[h.sm,h.on],h.eq.trans he,h.own,h.nds,h.chg,h.ne,h.ap⟩
variable {co:Nat}
theorem yDr {go:Nat} (all:Bool) (hs:yGm w base gs cs st.reverse) (ho:yAu w base go co out) (hne:¬go=gs) (hl:st.length+out.length≤100000) (hbs:base≤w.heap.size):
  Calls Tryz.prog 51 #[.slice (some ⟨gs,0,none⟩) st.length cs,.slice (some ⟨go,0,none⟩) out.length co,.bool all] w (DrP w base gs cs go st out all):=by
 obtain⟨m0,hm0⟩:∃m,m=st.length:=⟨_,rfl⟩;obtain⟨n0,hn0⟩:∃n,n=out.length:=⟨_,rfl⟩;have H0:Hid (DrJ w base gs cs go st out all st out m0 n0 go co w):=⟨rfl,hs,ho,Chg.of_below (Below.refl _ _),hne,.inl rfl,hm0,hn0⟩;rw[←hm0,←hn0]at hl⊢;clear hs ho hne hm0 hn0;go_enter Tryz.func51,Tryz.ntmps51;go_wp2_with fail;go_loopw[0,1] (fun sv ov wr=>∃(m n1 g1 c1:Nat) (st1:List (Int×Nat)) (out1:List Nd),sv=.slice (some ⟨gs,0,none⟩) m cs∧ov=.slice (some ⟨g1,0,none⟩) n1 c1∧m≤100000∧m+n1≤100000∧DrJ w base gs cs go st out all st1 out1 m n1 g1 c1 wr) (fun sv _ _=>yYq sv);case atStart=>exact⟨m0,n0,go,co,st,out,rfl,rfl,by omega,hl,H0.out⟩
 case round=>
  clear H0;obtain⟨m',n1,g1,c1,st1,out1,rfl,rfl,hml,hmn,hJ⟩:=hrel;have hgl:=hJ.nds.lt;have hsl:=hJ.own.lt;have hcs:cs≤9223372036854775807:=by have:=hJ.own.caps.2;unfold maxLen at this;omega
  have hmc:m'≤cs:=by have:=hJ.own.caps.1;rw[List.length_reverse,←hJ.sm]at this;exact this
  have sr:=hJ.chg.size;cases st1 with
  |nil=>
   obtain rfl:m'=0:=hJ.sm;have HJ:Hid (DrJ w base gs cs go st out all [] out1 0 n1 g1 c1 wr):=hJ;clear hJ;go_wp2_with fail;exact bodyPost_ret (v:=.tuple #[.slice (some ⟨gs,0,none⟩) 0 cs,.slice (some ⟨g1,0,none⟩) n1 c1]) (by simp[results,Tryz.results51,go_sem]) rfl (HJ.done rfl)
  |cons e st2=>
   obtain⟨e1,l1⟩:=e;obtain⟨m,rfl⟩:∃m,m'=m+1:=⟨m'-1,by have:=hJ.sm;simp at this;omega⟩;have HJ:Hid (DrJ w base gs cs go st out all ((e1,l1)::st2) out1 (m+1) n1 g1 c1 wr):=hJ;have HS2:Hid (m=st2.length):=by have:=hJ.sm;simp at this;exact this
   have c0:=hJ.own.cell yE8 (i:=m) (e:=(e1,l1)) (by rw[List.reverse_cons,List.getElem?_append_right (by simp[HS2.out]),List.length_reverse,HS2.out];simp) 0 (by omega);simp at c0;have zm:(0:Int)<(m:Int)+1:=by omega
   have zc:(m:Int)≤(cs:Int):=by omega
   clear hJ;by_cases he1:e1=1
   ·have z1:(e1==1)=true:=by rw[beq_iff_eq];exact he1
    have z2:(e1==2)=false:=by rw[beq_eq_false_iff_ne];omega
    have HD:Hid (yAk all ((e1,l1)::st2) out1=yAk all st2 (out1++ [yAc 14])):=by show _=_;rw[yB1,if_pos (.inl he1),he1];rfl
    have hop:yGm wr base gs cs st2.reverse:=by have h9:=HJ.own.take yE8 (k:=st2.length) (by simp);rw[List.reverse_cons,List.take_append_of_le_length (by simp),List.take_of_length_le (by simp)]at h9;exact h9
    obtain⟨W2,hW2⟩:=qE (wr.alloc (Obj.cells #[.int .i64 14,.string ⟨#[]⟩,.bool false,.string ⟨#[]⟩,.int .u64 0,.int .u64 0,.int .i64 0] 65):World);have hb2:Below wr.heap.size wr W2:=by rw[hW2];exact qB
    have s2:=hb2.size;have HW2:Hid (yGm W2 base gs cs st2.reverse∧yAu W2 base g1 c1 out1∧yBj W2 wr.heap.size 0 [yAc 14]∧Chg (fun k=>k=go) w W2):=by
     refine⟨hop.below hb2,HJ.nds.below hb2 HJ.nds.lt.2,?_,HJ.chg.trans (Chg.of_below hb2)⟩;intro i e he;cases i with
     |zero=>
      simp at he;subst he;rw[hW2];refine⟨?_,?_,?_,?_,?_,?_,?_⟩<;>simp[yAc,noS]
     |succ i=>simp at he
    have HL1:Hid (n1=out1.length):=HJ.on;clear hb2 hop he1;go_wp2_with (at_builtin;(try rw[←hW2]);refine yAg _ rfl _ _ rfl base g1 c1 n1 wr.heap.size 0 1 1 out1 [yAc 14] rfl rfl HL1.out rfl HW2.2.1 HW2.2.2.1 ?hl ?hb ?_);case hl=>rw[←HL1.out];show n1+1≤_;omega
    case hb=>omega
    intro g' cp' w' hO' hgr hat;have hgr2:W2.grownBy w' (some g1):=by first|exact hgr|(rw[hW2];exact hgr)
    have hat2:g'=g1∨g'=W2.heap.size:=by first|exact hat|(rw[hW2];exact hat)|(rw[hW2];simpa using hat)
    have HR:Hid (DrJ w base gs cs go st out all st2 (out1++ [yAc 14]) m (n1+1) g' cp' w'):=by
     have hc3:Chg (fun k=>k=g1) W2 w':=Chg.of_grown hgr2 (fun k hk=>by cases hk;rfl);have hne:=HJ.ne;have hgo:=HJ.ap;refine⟨HJ.eq.trans HD.out,HW2.1.chg hc3 (fun q=>hne q.symm),hO',?_,?_,?_,HS2.out,by rw[List.length_append,←HL1.out];rfl⟩
     ·refine⟨hc3.os.trans HW2.2.2.2.os,hc3.tape.trans HW2.2.2.2.tape,hc3.output.trans HW2.2.2.2.output,Nat.le_trans HW2.2.2.2.size hc3.size,fun k hk hn=>(hc3.block k (Nat.lt_of_lt_of_le hk HW2.2.2.2.size) (fun q=>?_)).trans (HW2.2.2.2.block k hk hn)⟩;rcases hgo with z|z
      ·exact hn (q.trans z)
      ·omega
     ·rcases hat2 with z|z
      ·rw[z];exact hne
      ·rw[z];have:=HW2.1.lt.2;omega
     ·rcases hat2 with z|z
      ·rw[z];exact hgo
      ·right;rw[z];have:=HW2.2.2.2.size;omega
    clear hO' hgr hgr2 hat hat2 hW2;go_wp2_with fail;go_roundw;case rel=>exact⟨m,n1+1,g',cp',st2,out1++ [yAc 14],rfl,rfl,by omega,by omega,HR.out⟩
    case measure=>simp[yYq]
   have z1:(e1==1)=false:=by rw[beq_eq_false_iff_ne];exact he1
   cases hall:all
   case false=>
    subst hall;have HE:Hid (yAk false ((e1,l1)::st2) out1=((e1,l1)::st2,out1)):=by show _=_;rw[yB1,if_neg (fun q=>q.elim he1 (fun z=>by cases z.1))]
    clear he1;go_wp2_with fail;exact bodyPost_ret (v:=.tuple #[.slice (some ⟨gs,0,none⟩) (m+1) cs,.slice (some ⟨g1,0,none⟩) n1 c1]) (by simp[results,Tryz.results51,go_sem]) rfl (HJ.done HE.out)
   case true=>
    by_cases he2:e1=2
    ·have z2:(e1==2)=true:=by rw[beq_iff_eq];exact he2
     have he1:=he2;clear he2;subst hall;have HD:Hid (yAk true ((e1,l1)::st2) out1=yAk true st2 (out1++ [yAc 15])):=by show _=_;rw[yB1,if_pos (.inr ⟨rfl,he1⟩),he1];rfl
     have hop:yGm wr base gs cs st2.reverse:=by have h9:=HJ.own.take yE8 (k:=st2.length) (by simp);rw[List.reverse_cons,List.take_append_of_le_length (by simp),List.take_of_length_le (by simp)]at h9;exact h9
     obtain⟨W2,hW2⟩:=qE (wr.alloc (Obj.cells #[.int .i64 15,.string ⟨#[]⟩,.bool false,.string ⟨#[]⟩,.int .u64 0,.int .u64 0,.int .i64 0] 65):World);have hb2:Below wr.heap.size wr W2:=by rw[hW2];exact qB
     have s2:=hb2.size;have HW2:Hid (yGm W2 base gs cs st2.reverse∧yAu W2 base g1 c1 out1∧yBj W2 wr.heap.size 0 [yAc 15]∧Chg (fun k=>k=go) w W2):=by
      refine⟨hop.below hb2,HJ.nds.below hb2 HJ.nds.lt.2,?_,HJ.chg.trans (Chg.of_below hb2)⟩;intro i e he;cases i with
      |zero=>
       simp at he;subst he;rw[hW2];refine⟨?_,?_,?_,?_,?_,?_,?_⟩<;>simp[yAc,noS]
      |succ i=>simp at he
     have HL1:Hid (n1=out1.length):=HJ.on;clear hb2 hop he1;go_wp2_with (at_builtin;(try rw[←hW2]);refine yAg _ rfl _ _ rfl base g1 c1 n1 wr.heap.size 0 1 1 out1 [yAc 15] rfl rfl HL1.out rfl HW2.2.1 HW2.2.2.1 ?hl ?hb ?_);case hl=>rw[←HL1.out];show n1+1≤_;omega
     case hb=>omega
     intro g' cp' w' hO' hgr hat;have hgr2:W2.grownBy w' (some g1):=by first|exact hgr|(rw[hW2];exact hgr)
     have hat2:g'=g1∨g'=W2.heap.size:=by first|exact hat|(rw[hW2];exact hat)|(rw[hW2];simpa using hat)
     have HR:Hid (DrJ w base gs cs go st out true st2 (out1++ [yAc 15]) m (n1+1) g' cp' w'):=by
      have hc3:Chg (fun k=>k=g1) W2 w':=Chg.of_grown hgr2 (fun k hk=>by cases hk;rfl);have hne:=HJ.ne;have hgo:=HJ.ap;refine⟨HJ.eq.trans HD.out,HW2.1.chg hc3 (fun q=>hne q.symm),hO',?_,?_,?_,HS2.out,by rw[List.length_append,←HL1.out];rfl⟩
      ·refine⟨hc3.os.trans HW2.2.2.2.os,hc3.tape.trans HW2.2.2.2.tape,hc3.output.trans HW2.2.2.2.output,Nat.le_trans HW2.2.2.2.size hc3.size,fun k hk hn=>(hc3.block k (Nat.lt_of_lt_of_le hk HW2.2.2.2.size) (fun q=>?_)).trans (HW2.2.2.2.block k hk hn)⟩;rcases hgo with z|z
       ·exact hn (q.trans z)
       ·omega
      ·rcases hat2 with z|z
       ·rw[z];exact hne
       ·rw[z];have:=HW2.1.lt.2;omega
      ·rcases hat2 with z|z
       ·rw[z];exact hgo
       ·right;rw[z];have:=HW2.2.2.2.size;omega
     clear hO' hgr hgr2 hat hat2 hW2;go_wp2_with fail;go_roundw;case rel=>exact⟨m,n1+1,g',cp',st2,out1++ [yAc 15],rfl,rfl,by omega,by omega,HR.out⟩
     case measure=>simp[yYq]
    ·have z2:(e1==2)=false:=by rw[beq_eq_false_iff_ne];exact he2
     subst hall;have HE:Hid (yAk true ((e1,l1)::st2) out1=((e1,l1)::st2,out1)):=by show _=_;rw[yB1,if_neg (fun q=>q.elim he1 (fun z=>he2 z.2))]
     clear he1 he2;go_wp2_with fail;exact bodyPost_ret (v:=.tuple #[.slice (some ⟨gs,0,none⟩) (m+1) cs,.slice (some ⟨g1,0,none⟩) n1 c1]) (by simp[results,Tryz.results51,go_sem]) rfl (HJ.done HE.out)
structure PB (w:World) (base g cp N:Nat) (ks:List Tk) (pi pn:Nat) (pe:Int) (pa:Nat) (st:List (Int×Nat)) (out:List Nd) (gs cs go co:Nat) (W:World):Prop where
 tk:yBs W base g cp ks
 p:yA W w.heap.size 41 5 w.heap.size [.slice (some ⟨g,0,none⟩) N cp,.int .i64 (pi:Int),.int .i64 (pn:Int),.int .i64 pe,.int .i64 (pa:Int)]
 rp:yA W w.heap.size 41 5 (w.heap.size+1) [.slice none 0 0,.int .i64 0,.int .i64 0,.int .i64 0,.int .i64 0]
 st:yGm W (w.heap.size+2) gs cs st.reverse
 out:yAu W (w.heap.size+2) go co out
 ne:¬go=gs
 bl:Below w.heap.size w W
 gl:g<w.heap.size
variable {pi pn:Nat} {pe:Int}
theorem PB.lts {go:Nat} (h:PB w base g cp N ks pi pn pe pa st out gs cs go co W):(w.heap.size+2≤gs∧gs<W.heap.size)∧(w.heap.size+2≤go∧go<W.heap.size)∧w.heap.size+2≤W.heap.size:=by have h1:=h.st.lt;have h2:=h.out.lt;exact⟨h1,h2,by omega⟩
theorem PB.up {go:Nat} (h:PB w base g cp N ks pi pn pe pa st out gs cs go co W) (hb:Below W.heap.size W W'):PB w base g cp N ks pi pn pe pa st out gs cs go co W':=
 ⟨h.tk.below hb,h.p.below hb,h.rp.below hb,h.st.below hb,h.out.below hb h.out.lt.2,h.ne,h.bl.trans (hb.mono h.bl.size),h.gl⟩
theorem PB.side {go:Nat} (h:PB w base g cp N ks pi pn pe pa st out gs cs go co W) (hc:Chg (fun k=>k=b) W W') (hb:w.heap.size+2≤b) (h1:¬b=gs) (h2:¬b=go):PB w base g cp N ks pi pn pe pa st out gs cs go co W':=by have hg:=h.gl;exact⟨h.tk.chg hc (by omega),h.p.chg hc (by omega),h.rp.chg hc (by omega),h.st.chg hc (fun q=>h1 q.symm),yA2 h.out hc (fun k hk q=>by simp[Value.ownBlock]at hk;exact h2 (q.symm.trans hk.symm)),h.ne,Chg.below h.bl hc h.bl.size (fun k q=>by omega),hg⟩
theorem PB.setp {go:Nat} (h:PB w base g cp N ks pi pn pe pa st out gs cs go co W) (pi' pn':Nat) (pe':Int) (pa':Nat):PB w base g cp N ks pi' pn' pe' pa' st out gs cs go co (setP W w.heap.size (.slice (some ⟨g,0,none⟩) N cp) (.int .i64 (pi':Int)) (.int .i64 (pn':Int)) (.int .i64 pe') (.int .i64 (pa':Int))):=by have hc:Chg (fun k=>k=w.heap.size) W (setP W w.heap.size (.slice (some ⟨g,0,none⟩) N cp) (.int .i64 (pi':Int)) (.int .i64 (pn':Int)) (.int .i64 pe') (.int .i64 (pa':Int))):=yCp _ _ _ _ _ _ _;have hg:=h.gl;have hl:=h.lts;exact⟨h.tk.chg hc (by omega),h.p.setP _ _ _ _ _,h.rp.chg hc (by omega),h.st.chg hc (by omega),yA2 h.out hc (fun k hk q=>by simp[Value.ownBlock]at hk;omega),h.ne,Chg.below h.bl hc h.bl.size (fun k q=>by omega),hg⟩
theorem PB.seti {go:Nat} (h:PB w base g cp N ks pi pn pe pa st out gs cs go co W) (u:Value) (hu:u=.int .i64 ((pi+1:Nat):Int)):PB w base g cp N ks (pi+1) pn pe pa st out gs cs go co (W.setCell ⟨w.heap.size,1,none⟩ u):=by subst hu;have hc:Chg (fun k=>k=w.heap.size) W (W.setCell ⟨w.heap.size,1,none⟩ (.int .i64 ((pi+1:Nat):Int))):=Chg.of_set _ _ _ _ rfl;have hg:=h.gl;have hl:=h.lts;exact⟨h.tk.chg hc (by omega),h.p.set 1 _,h.rp.chg hc (by omega),h.st.chg hc (by omega),yA2 h.out hc (fun k hk q=>by simp[Value.ownBlock]at hk;omega),h.ne,Chg.below h.bl hc h.bl.size (fun k q=>by omega),hg⟩
variable {e:Int×Nat}
theorem PB.pushS {go:Nat} (h:PB w base g cp N ks pi pn pe pa st out gs cs go co W) {g' c':Nat} (hO:yGm W' (w.heap.size+2) g' c' (st.reverse++ [e])) (hgr:W.grownBy W' (some gs)) (hat:g'=gs∨g'=W.heap.size):PB w base g cp N ks pi pn pe pa (e::st) out g' c' go co W':=by have hc:Chg (fun k=>k=gs) W W':=Chg.of_grown hgr (fun k hk=>by cases hk;rfl);have hg:=h.gl;have hl:=h.lts;have hn:=h.ne;refine⟨h.tk.chg hc (by omega),h.p.chg hc (by omega),h.rp.chg hc (by omega),by rw[List.reverse_cons];exact hO,yA2 h.out hc (fun k hk q=>by simp[Value.ownBlock]at hk;omega),by omega,Chg.below h.bl hc h.bl.size (fun k q=>by omega),hg⟩
theorem PB.pushO {go:Nat} (h:PB w base g cp N ks pi pn pe pa st out gs cs go co W) {xs:List Nd} {g' c':Nat} (hO:yAu W' (w.heap.size+2) g' c' (out++xs)) (hgr:W.grownBy W' (some go)) (hat:g'=go∨g'=W.heap.size):PB w base g cp N ks pi pn pe pa st (out++xs) gs cs g' c' W':=by have hc:Chg (fun k=>k=go) W W':=Chg.of_grown hgr (fun k hk=>by cases hk;rfl);have hg:=h.gl;have hl:=h.lts;have hn:=h.ne;exact⟨h.tk.chg hc (by omega),h.p.chg hc (by omega),h.rp.chg hc (by omega),h.st.chg hc (by omega),hO,by omega,Chg.below h.bl hc h.bl.size (fun k q=>by omega),hg⟩
theorem PB.drain {go:Nat} (h:PB w base g cp N ks pi pn pe pa st out gs cs go co W) {g1 c1:Nat} (hO:yGm W' (w.heap.size+2) gs cs st1.reverse∧yAu W' (w.heap.size+2) g1 c1 out1∧Chg (fun k=>k=go) W W'∧¬g1=gs∧(g1=go∨W.heap.size≤g1)):PB w base g cp N ks pi pn pe pa st1 out1 gs cs g1 c1 W':=by have hc:=hO.2.2.1;have hg:=h.gl;have hl:=h.lts;exact⟨h.tk.chg hc (by omega),h.p.chg hc (by omega),h.rp.chg hc (by omega),hO.1,hO.2.1,hO.2.2.2.1,Chg.below h.bl hc h.bl.size (fun k q=>by omega),hg⟩
theorem PB.pop {go:Nat} (h:PB w base g cp N ks pi pn pe pa (e::st) out gs cs go co W):PB w base g cp N ks pi pn pe pa st out gs cs go co W:=by refine⟨h.tk,h.p,h.rp,?_,h.out,h.ne,h.bl,h.gl⟩;have h1:=h.st.take yE8 (k:=st.length) (by simp);rw[List.reverse_cons,List.take_append_of_le_length (by simp),List.take_of_length_le (by simp)]at h1;exact h1
theorem PB.top {go:Nat} (h:PB w base g cp N ks pi pn pe pa (e::st) out gs cs go co W):W.cell? ⟨gs,st.length*2,none⟩=some (.int .i64 e.1)∧W.cell? ⟨gs,st.length*2+1,none⟩=some (.int .i64 (e.2:Int)):=by
 have hg:(e::st).reverse[st.length]?=some e:=by rw[List.reverse_cons,List.getElem?_append_right (by simp)];simp
 exact⟨h.st.cell yE8 hg 0 (by omega),h.st.cell yE8 hg 1 (by omega)⟩
theorem OwnG.setLast {α:Type} {f:α→List Value} {sz:Nat} (hf:∀x,(f x).length=sz) {es:List α} {e e':α} (h:OwnG f sz ty w base g cap (es++ [e])) (j:Nat) (u:Value) (hj:j<sz) (he:(f e).set j u=f e'):OwnG f sz ty (w.setCell ⟨g,es.length*sz+j,none⟩ u) base g cap (es++ [e']):=by
 have h1:=(World.ownsRow.stored h (es.length*sz+j) u).1;have hfl:=yNa hf es;have h2:((es++ [e]).flatMap f).set (es.length*sz+j) u=(es++ [e']).flatMap f:=by rw[List.flatMap_append,List.flatMap_singleton,List.set_append_right _ _ (by omega),hfl,show es.length*sz+j-es.length*sz=j by omega,he,List.flatMap_append,List.flatMap_singleton]
 rw[h2]at h1;unfold OwnG;rw[List.length_append,List.length_singleton]at h1⊢;exact h1
theorem PB.left {go:Nat} {k:Int} {l:Nat} (h:PB w base g cp N ks pi pn pe pa ((k,l)::st) out gs cs go co W) (l':Nat):PB w base g cp N ks pi pn pe pa ((k,l')::st) out gs cs go co (W.setCell ⟨gs,st.length*2+1,none⟩ (.int .i64 (l':Int))):=by have hc:Chg (fun k=>k=gs) W (W.setCell ⟨gs,st.length*2+1,none⟩ (.int .i64 (l':Int))):=Chg.of_set _ _ _ _ rfl;have hg:=h.gl;have hl:=h.lts;have hn:=h.ne;refine⟨h.tk.chg hc (by omega),h.p.chg hc (by omega),h.rp.chg hc (by omega),?_,yA2 h.out hc (fun k hk q=>by simp[Value.ownBlock]at hk;omega),hn,Chg.below h.bl hc h.bl.size (fun k q=>by omega),hg⟩;have h1:=h.st;rw[List.reverse_cons]at h1⊢;have h2:=OwnG.setLast yE8 (e':=(k,l')) h1 1 (.int .i64 (l':Int)) (by omega) rfl;rw[List.length_reverse]at h2;exact h2
def ParP (w:World) (g cp N:Nat) (m0:Ms) (e:Ending) (w':World):Prop:=Below w.heap.size w w'∧
 ((∃pi pn pa ns go co,yAl m0 (.ok ns)∧yAu w' w.heap.size go co ns∧e=.returned (.tuple #[parV g N cp pi pn 0 pa,.slice (some ⟨go,0,none⟩) ns.length co]))∨
  (∃pi pn c a oa on oc,yAl m0 (.error (c,a))∧1≤c∧e=.returned (.tuple #[parV g N cp pi pn c a,.slice oa on oc])))
structure PM (N:Nat) (ks:List Tk) (m0 m:Ms) (i:Nat):Prop where
 ks:m.ks=ks.drop i
 md:m.made≤200
 ln:m.out.length+m.st.length≤i
 iN:i<N
 go:∀r,yAl m r→yAl m0 r
 lf:∀e∈m.st,e.2≤2
def PRel (w:World) (base g cp N:Nat) (ks:List Tk) (m0:Ms) (gk:Nat) (ov sv wv:Value) (wr:World):Prop:=
 (∃(m:Ms) (i gs cs go co:Nat),ov=.slice (some ⟨go,0,none⟩) m.out.length co∧sv=.slice (some ⟨gs,0,none⟩) m.st.length cs∧wv=.bool m.want∧N+1-i≤gk∧PM N ks m0 m i∧PB w base g cp N ks i m.made 0 0 m.st m.out gs cs go co wr)∨
 (∃(c:Int) (a pi pn gs cs go co:Nat) (st:List (Int×Nat)) (out:List Nd) (b:Bool),ov=.slice (some ⟨go,0,none⟩) out.length co∧sv=.slice (some ⟨gs,0,none⟩) st.length cs∧wv=.bool b∧yAl m0 (.error (c,a))∧1≤c∧PB w base g cp N ks pi pn c a st out gs cs go co wr)
theorem PB.fail {go:Nat} {m0:Ms} (h:PB w base g cp N ks pi pn pe pa st out gs cs go co W) {pi' pn':Nat} {a:Nat} {oa:Option Addr} {on oc:Nat} (hm:yAl m0 (.error (c,a))) (hc:1≤c) (hW:W'=setP W (w.heap.size+1) (.slice (some ⟨g,0,none⟩) N cp) (.int .i64 (pi':Int)) (.int .i64 (pn':Int)) (.int .i64 c) (.int .i64 (a:Int))):ParP w g cp N m0 (.returned (.tuple #[parV g N cp pi' pn' c a,.slice oa on oc])) W'∧yA W' w.heap.size 41 5 (w.heap.size+1) [.slice (some ⟨g,0,none⟩) N cp,.int .i64 (pi':Int),.int .i64 (pn':Int),.int .i64 c,.int .i64 (a:Int)]:=by subst hW;exact⟨⟨yIf h.bl (by omega) _ _ _ _ _,.inr ⟨pi',pn',c,a,oa,on,oc,hm,hc,rfl⟩⟩,h.rp.setP _ _ _ _ _⟩
theorem PB.good {go:Nat} {m0:Ms} (h:PB w base g cp N ks pi pn pe pa st out gs cs go co W) {pi' pn' pa':Nat} (hm:yAl m0 (.ok out)) (hW:W'=setP W (w.heap.size+1) (.slice (some ⟨g,0,none⟩) N cp) (.int .i64 (pi':Int)) (.int .i64 (pn':Int)) (.int .i64 0) (.int .i64 (pa':Int))):ParP w g cp N m0 (.returned (.tuple #[parV g N cp pi' pn' 0 pa',.slice (some ⟨go,0,none⟩) out.length co])) W'∧yA W' w.heap.size 41 5 (w.heap.size+1) [.slice (some ⟨g,0,none⟩) N cp,.int .i64 (pi':Int),.int .i64 (pn':Int),.int .i64 0,.int .i64 (pa':Int)]:=by subst hW;have hc:Chg (fun k=>k=w.heap.size+1) W (setP W (w.heap.size+1) (.slice (some ⟨g,0,none⟩) N cp) (.int .i64 (pi':Int)) (.int .i64 (pn':Int)) (.int .i64 0) (.int .i64 (pa':Int))):=yCp _ _ _ _ _ _ _;have hl:=h.lts;exact⟨⟨yIf h.bl (by omega) _ _ _ _ _,.inl ⟨pi',pn',pa',out,go,co,hm,(yAu.mono (yA2 h.out hc (fun k hk q=>by simp[Value.ownBlock]at hk;omega)) (by omega)),rfl⟩⟩,h.rp.setP _ _ _ _ _⟩
section
section
variable {N:Nat} {ks:List Tk} {m0:Ms} {mks:List Tk} {md:Nat} {out:List Nd} {st:List (Int×Nat)} {wt:Bool} {i:Nat} {k:Tk}
theorem PM.hd (h:PM N ks m0 ⟨mks,md,out,st,wt⟩ i) (hk:ks[i]?=some k):hdK mks=k.k∧hdA mks=k.pos∧mks.tail=ks.drop (i+1):=by have h1:=h.ks;show hdK mks=k.k∧_;have h1:mks=ks.drop i:=h1;rw[h1];exact yAh hk
theorem PM.stops (h:PM N ks m0 ⟨mks,md,out,st,wt⟩ i) {r:PR (List Nd)} (hs:yDe ⟨mks,md,out,st,wt⟩=.inr r):yAl m0 r:=h.go _ (.fin hs)
theorem PM.goes (h:PM N ks m0 ⟨mks,md,out,st,wt⟩ i) {m':Ms} (hs:yDe ⟨mks,md,out,st,wt⟩=.inl m') {j:Nat} (h1:m'.ks=ks.drop j) (h2:m'.made≤200) (h3:m'.out.length+m'.st.length≤j) (h4:j<N) (h5:∀e∈m'.st,e.2≤2):PM N ks m0 m' j:=
 ⟨h1,h2,h3,h4,fun r q=>h.go _ (.step hs q),h5⟩
theorem yLp (h:PM N ks m0 ⟨mks,md,out,st,true⟩ i) (hk:ks[i]?=some k) (hb:k.k.isBad=false):yDe ⟨mks,md,out,st,true⟩=yCi ⟨mks,md,out,st,true⟩:=by unfold yDe;rw[if_neg (by show¬(hdK mks).isBad=true;rw[(h.hd hk).1,hb];simp),if_pos rfl]
theorem yGy (hT:Toks ks) (hN:N=ks.length) (hk:ks[i]?=some k) (hg:¬k.k=.fin∧¬k.k=.bad):∃k1,ks[i+1]?=some k1∧i+1<N:=by obtain⟨_,k1,hk1⟩:=yB3 hT hk hg.1 hg.2;exact⟨k1,hk1,by rw[hN];exact(List.getElem?_eq_some_iff.1 hk1).1⟩
theorem yLr {a:Int} {l:Nat} (h:l≤2) (h2:∀e∈st,e.2≤2):∀e∈(a,l)::st,e.2≤2:=fun e he=>by
 rcases List.mem_cons.1 he with rfl|he
 ·exact h
 ·exact h2 e he
theorem yX4 (h:PM N ks m0 ⟨mks,md,out,st,true⟩ i) (hk:ks[i]?=some k) (hN:N=ks.length) (hT:Toks ks) (hw:k.k=.word 16) {k1:Tk} (hk1:ks[i+1]?=some k1):
  (¬md<200→yAl m0 (.error (5,k.pos)))∧
  (md<200→k1.k.isSign 40=false→yAl m0 (.error (if k1.k.isBad=true then 2 else 3,k1.pos)))∧
  (md<200→k1.k.isSign 40=true→yBr st=20→yAl m0 (.error (4,k1.pos)))∧
  (md<200→k1.k.isSign 40=true→¬yBr st=20→PM N ks m0 ⟨ks.drop (i+2),md+1,out,(4,2)::st,true⟩ (i+2)):=by
 obtain⟨e1,e2,e3⟩:=h.hd hk;obtain⟨f1,f2,f3⟩:=yAh hk1;have hs:=yLp h hk (by rw[hw];rfl);have hs2:yCi ⟨mks,md,out,st,true⟩=yMj ⟨mks,md,out,st,true⟩:=by unfold yCi;rw[show hdK (Ms.ks ⟨mks,md,out,st,true⟩)=.word 16 from e1.trans hw];exact if_pos rfl
 rw[hs2]at hs;unfold yMj at hs;simp only[e2,e3,f1,f2,f3]at hs;refine⟨fun q=>?_,fun q q1=>?_,fun q q1 q2=>?_,fun q q1 q2=>?_⟩
 ·rw[if_neg q]at hs;exact h.stops hs
 ·rw[if_pos q,if_neg (by rw[q1];simp)]at hs;unfold yBy at hs;rw[f1,f2]at hs;exact h.stops hs
 ·rw[if_pos q,if_pos q1,if_pos q2]at hs;exact h.stops hs
 ·rw[if_pos q,if_pos q1,if_neg q2]at hs;obtain⟨k2,_,h2⟩:=yGy hT hN hk1 (by rw[TkK.isSign_eq q1];exact⟨(fun q=>nomatch q),(fun q=>nomatch q)⟩);have hl:=h.ln;have hl:out.length+st.length≤i:=hl;exact h.goes hs rfl (by show md+1≤200;omega) (by show out.length+((4,2)::st).length≤i+2;simp only[List.length_cons];omega) h2 (yLr (by omega) h.lf)
theorem yRe (h:PM N ks m0 ⟨mks,md,out,st,true⟩ i) (hk:ks[i]?=some k) (hw:k.k=.word kd) (h16:¬kd=16):
  (¬md<200→yAl m0 (.error (5,k.pos)))∧
  (md<200→∀e,yAv kd (ks.drop (i+1))=.error e→yAl m0 (.error e))∧
  (md<200→∀j n,yAv kd (ks.drop (i+1))=.ok (ks.drop j,n)→i+1≤j→j<N→PM N ks m0 ⟨ks.drop j,md+1,out++ [n],st,false⟩ j):=by
 obtain⟨e1,e2,e3⟩:=h.hd hk;have hs:=yLp h hk (by rw[hw];rfl);have hs2:yCi ⟨mks,md,out,st,true⟩=yG6 kd ⟨mks,md,out,st,true⟩:=by unfold yCi;rw[show hdK (Ms.ks ⟨mks,md,out,st,true⟩)=.word kd from e1.trans hw];exact if_neg h16
 rw[hs2]at hs;unfold yG6 at hs;simp only[e2,e3]at hs;refine⟨fun q=>?_,fun q e q1=>?_,fun q j n q1 q2 q3=>?_⟩
 ·rw[if_neg q]at hs;exact h.stops hs
 ·rw[if_pos q,q1]at hs;exact h.stops hs
 ·rw[if_pos q,q1]at hs;have hl:=h.ln;have hl:out.length+st.length≤i:=hl;exact h.goes hs rfl (by show md+1≤200;omega) (by show(out++ [n]).length+st.length≤j;simp only[List.length_append,List.length_singleton];omega) q3 h.lf
theorem yRd (h:PM N ks m0 ⟨mks,md,out,st,true⟩ i) (hk:ks[i]?=some k) (hN:N=ks.length) (hT:Toks ks) (hs1:k.k.isSign 40=true):
  (yBr st=20→yAl m0 (.error (4,k.pos)))∧(¬yBr st=20→PM N ks m0 ⟨ks.drop (i+1),md,out,(3,0)::st,true⟩ (i+1)):=by
 obtain⟨e1,e2,e3⟩:=h.hd hk;have hw:=TkK.isSign_eq hs1;have hs:=yLp h hk (by rw[hw];rfl);unfold yCi at hs;rw[show hdK (Ms.ks ⟨mks,md,out,st,true⟩)=.sign 40 from e1.trans hw]at hs;simp only[e2,e3]at hs;rw[if_pos (by rfl)]at hs;refine⟨fun q=>?_,fun q=>?_⟩
 ·rw[if_pos q]at hs;exact h.stops hs
 ·rw[if_neg q]at hs;obtain⟨k2,_,h2⟩:=yGy hT hN hk (by rw[hw];exact⟨(fun q=>nomatch q),(fun q=>nomatch q)⟩);have hl:=h.ln;have hl:out.length+st.length≤i:=hl;have hm:md≤200:=h.md;exact h.goes hs rfl hm (by show out.length+((3,0)::st).length≤i+1;simp only[List.length_cons];omega) h2 (yLr (by omega) h.lf)
theorem yX3 (h:PM N ks m0 ⟨mks,md,out,st,true⟩ i) (hk:ks[i]?=some k) (hb:k.k.isBad=false) (hw:∀kd,¬k.k=.word kd) (hs1:k.k.isSign 40=false):yAl m0 (.error (3,k.pos)):=by
 obtain⟨e1,e2,e3⟩:=h.hd hk;have hs:=yLp h hk hb;have hs2:yCi ⟨mks,md,out,st,true⟩=.inr (.error (3,k.pos)):=by
  unfold yCi;rw[show hdK (Ms.ks ⟨mks,md,out,st,true⟩)=k.k from e1,show hdA (Ms.ks ⟨mks,md,out,st,true⟩)=k.pos from e2];cases hkk:k.k with
  |word kd=>exact absurd hkk (hw kd)
  |_=>rw[hkk]at hs1;dsimp only;rw[if_neg (by rw[hs1];simp)]
 exact h.stops (hs.trans hs2)
theorem ySh (h:PM N ks m0 ⟨mks,md,out,st,false⟩ i) (hk:ks[i]?=some k) (hb:k.k.isBad=false):yDe ⟨mks,md,out,st,false⟩=(if k.k.isSign 62=true then yGo false 1 ⟨mks,md,out,st,false⟩else if k.k.isSign 124=true then yGo true 2 ⟨mks,md,out,st,false⟩else yBm ⟨mks,md,out,st,false⟩ (yAk true st out).1 (yAk true st out).2):=by unfold yDe;simp only[(h.hd hk).1];rw[if_neg (by rw[hb];simp),if_neg (by simp)]
theorem yDt (all:Bool):∀(st:List (Int×Nat)) (out:List Nd),(yAk all st out).2.length+(yAk all st out).1.length=out.length+st.length
 | [],out=>by simp[yAk]
 |(k,l)::st,out=>by
  rw[yB1]
  split
  ·rw[yDt all st];simp only[List.length_append,List.length_cons,List.length_nil];omega
  ·rfl
theorem yJv (all:Bool):∀(st:List (Int×Nat)) (out:List Nd),∀e∈(yAk all st out).1,e∈st
 | [],out=>by simp[yAk]
 |(k,l)::st,out=>by
  rw[yB1]
  split
  ·intro e he;exact List.mem_cons_of_mem _ (yJv all st _ e he)
  ·intro e he;exact he
theorem PM.left_le {wt:Bool} (h:PM N ks m0 ⟨mks,md,out,st,wt⟩ i) (hd:yAk true st out=(st1,out1)):∀e∈st1,e.2≤2:=fun e he=>h.lf e (yJv true st out e (by rw[hd];exact he))
theorem ySe (h:PM N ks m0 ⟨mks,md,out,st,false⟩ i) (hk:ks[i]?=some k) (hN:N=ks.length) (hT:Toks ks) {all:Bool} (hs1:(k.k.isSign 62=true∧all=false∧kd=1)∨(k.k.isSign 124=true∧all=true∧kd=2)):
  (¬md<200→yAl m0 (.error (5,k.pos)))∧(md<200→PM N ks m0 ⟨ks.drop (i+1),md+1,(yAk all st out).2,(kd,0)::(yAk all st out).1,true⟩ (i+1)):=by
 obtain⟨e1,e2,e3⟩:=h.hd hk;have hb:k.k.isBad=false∧¬k.k=.fin∧¬k.k=.bad:=by rcases hs1 with⟨q,_⟩|⟨q,_⟩<;>(rw[TkK.isSign_eq q];exact⟨rfl,(fun q=>nomatch q),(fun q=>nomatch q)⟩)
 have hs:=ySh h hk hb.1;have hs2:yDe ⟨mks,md,out,st,false⟩=yGo all kd ⟨mks,md,out,st,false⟩:=by
  rw[hs];rcases hs1 with⟨q,rfl,rfl⟩|⟨q,rfl,rfl⟩
  ·rw[if_pos q]
  ·rw[if_neg (by rw[TkK.isSign_eq q];decide),if_pos q]
 unfold yGo at hs2;simp only[e2,e3]at hs2;refine⟨fun q=>?_,fun q=>?_⟩
 ·rw[if_neg q]at hs2;exact h.stops hs2
 ·rw[if_pos q]at hs2;obtain⟨k2,_,h2⟩:=yGy hT hN hk hb.2;have hl:=h.ln;have hl:out.length+st.length≤i:=hl;have hd:=yDt all st out;exact h.goes hs2 rfl (by show md+1≤200;omega) (by show(yAk all st out).2.length+((kd,0)::(yAk all st out).1).length≤i+1;simp only[List.length_cons];omega) h2 (yLr (Nat.zero_le _) (fun e he=>h.lf e (yJv all st out e he)))
theorem yQx (h:PM N ks m0 ⟨mks,md,out,st,false⟩ i) (hk:ks[i]?=some k) (hN:N=ks.length) (hT:Toks ks) (hb:k.k.isBad=false) (h1:k.k.isSign 62=false) (h2:k.k.isSign 124=false) (hd:yAk true st out=(st1,out1)):
  (st1= []→k.k=.fin→yAl m0 (.ok out1))∧
  (st1= []→¬k.k=.fin→yAl m0 (.error (3,k.pos)))∧
  (∀l st2,st1=(4,l)::st2→0<l→k.k.isSign 44=true→PM N ks m0 ⟨ks.drop (i+1),md,out1,(4,l-1)::st2,true⟩ (i+1))∧
  (∀kd st2,st1=(kd,0)::st2→k.k.isSign 41=true→PM N ks m0 ⟨ks.drop (i+1),md,if kd=4 then out1++ [yAc 16]else out1,st2,false⟩ (i+1))∧
  (∀kd l st2,st1=(kd,l)::st2→¬(kd=4∧0<l∧k.k.isSign 44=true)→¬(l=0∧k.k.isSign 41=true)→yAl m0 (.error (3,k.pos))):=by
 obtain⟨e1,e2,e3⟩:=h.hd hk;have hs:=ySh h hk hb;rw[if_neg (by rw[h1];simp),if_neg (by rw[h2];simp),hd]at hs;have hl:=h.ln;have hl:out.length+st.length≤i:=hl;have hm:md≤200:=h.md;have hdl:=yDt true st out;rw[hd]at hdl;simp only at hdl;have hlf:=h.left_le hd;refine⟨fun q q1=>?_,fun q q1=>?_,fun l st2 q q1 q2=>?_,fun kd st2 q q1=>?_,fun kd l st2 q q1 q2=>?_⟩
 ·subst q;unfold yBm at hs;simp only[e1,q1]at hs;exact h.stops (hs.trans (if_pos rfl))
 ·subst q;unfold yBm at hs;simp only[e1,e2]at hs;exact h.stops (hs.trans (if_neg (by intro q;cases hkk:k.k<;>rw[hkk]at q q1<;>first|exact absurd rfl q1|cases q)))
 ·subst q;unfold yBm at hs;simp only[e1,e3]at hs;rw[if_pos ⟨trivial,q1,q2⟩]at hs;obtain⟨k2,_,h2⟩:=yGy hT hN hk (by rw[TkK.isSign_eq q2];exact⟨(fun q=>nomatch q),(fun q=>nomatch q)⟩);simp only[List.length_cons]at hdl;exact h.goes hs rfl hm (by show out1.length+((4,l-1)::st2).length≤i+1;simp only[List.length_cons];omega) h2 (yLr (by have:=hlf (4,l) (by simp);simp only at this;omega) (fun e he=>hlf e (by simp[he])))
 ·subst q;unfold yBm at hs;simp only[e1,e3]at hs;rw[if_neg (by intro q;exact absurd q.2.1 (Nat.lt_irrefl _)),if_pos ⟨trivial,q1⟩]at hs;obtain⟨k2,_,h2⟩:=yGy hT hN hk (by rw[TkK.isSign_eq q1];exact⟨(fun q=>nomatch q),(fun q=>nomatch q)⟩);simp only[List.length_cons]at hdl;refine h.goes hs rfl hm ?_ h2 (fun e he=>hlf e (by simp[show e∈st2 from he]));show(if kd=4 then out1++ [yAc 16]else out1).length+st2.length≤i+1;split
  ·simp only[List.length_append,List.length_singleton];omega
  ·omega
 ·subst q;unfold yBm at hs;simp only[e1,e2]at hs;rw[if_neg q1,if_neg q2]at hs;exact h.stops hs
end
section
variable {w:World} {base g cp N:Nat} {ks:List Tk} {pi pn:Nat} {pe:Int} {pa:Nat} {st:List (Int×Nat)} {out:List Nd} {gs cs go co:Nat} {b7 b9:Nat} {k:Tk} {e:Nd} {W:World}
structure PL (w:World) (base g cp N:Nat) (ks:List Tk) (pi pn:Nat) (pe:Int) (pa:Nat) (st:List (Int×Nat)) (out:List Nd) (gs cs go co:Nat) (b7 b9:Nat) (k:Tk) (e:Nd) (W:World):Prop where
 pb:PB w base g cp N ks pi pn pe pa st out gs cs go co W
 tb:yA W (w.heap.size+2) 80 4 b7 (tkV k)
 nb:yA W (w.heap.size+2) 65 7 b9 e.seven
 n1:¬b9=gs
 n2:¬b9=go
 n3:¬b9=b7
theorem PL.lt (h:PL w base g cp N ks pi pn pe pa st out gs cs go co b7 b9 k e W):(w.heap.size+2≤b7∧b7<W.heap.size)∧(w.heap.size+2≤b9∧b9<W.heap.size):=⟨h.tb.lt,h.nb.lt⟩
theorem PL.up (h:PL w base g cp N ks pi pn pe pa st out gs cs go co b7 b9 k e W) (hb:Below W.heap.size W W'):PL w base g cp N ks pi pn pe pa st out gs cs go co b7 b9 k e W':=
 ⟨h.pb.up hb,h.tb.below hb,h.nb.below hb,h.n1,h.n2,h.n3⟩
theorem PL.setp (h:PL w base g cp N ks pi pn pe pa st out gs cs go co b7 b9 k e W) (pi' pn':Nat) (pe':Int) (pa':Nat):PL w base g cp N ks pi' pn' pe' pa' st out gs cs go co b7 b9 k e (setP W w.heap.size (.slice (some ⟨g,0,none⟩) N cp) (.int .i64 (pi':Int)) (.int .i64 (pn':Int)) (.int .i64 pe') (.int .i64 (pa':Int))):=by have hc:Chg (fun k=>k=w.heap.size) W (setP W w.heap.size (.slice (some ⟨g,0,none⟩) N cp) (.int .i64 (pi':Int)) (.int .i64 (pn':Int)) (.int .i64 pe') (.int .i64 (pa':Int))):=yCp _ _ _ _ _ _ _;have hl:=h.lt;exact⟨h.pb.setp _ _ _ _,h.tb.chg hc (by omega),h.nb.chg hc (by omega),h.n1,h.n2,h.n3⟩
theorem PL.setn (h:PL w base g cp N ks pi pn pe pa st out gs cs go co b7 b9 k e W) (e':Nd):PL w base g cp N ks pi pn pe pa st out gs cs go co b7 b9 k e' (setN W b9 e'):=by have hc:Chg (fun k=>k=b9) W (setN W b9 e'):=yB2 _ _ _;have hl:=h.lt;exact⟨h.pb.side hc hl.2.1 h.n1 h.n2,h.tb.chg hc (fun q=>h.n3 q.symm),h.nb.setN e',h.n1,h.n2,h.n3⟩
theorem yUe (h1:1≤kd) (h2:kd≤13):((yA8 kd).toList==(⟨#[105,102]⟩:ByteArray).toList)=false:=by rw[ByteArray.toList_eq,ByteArray.toList_eq];rcases yM h1 h2 with rfl|rfl|rfl|rfl|rfl|rfl|rfl|rfl|rfl|rfl|rfl|rfl|rfl<;>decide
theorem yLt (h1:1≤kd) (h2:kd≤13) (W:World):Calls Tryz.prog 50 #[.string (yA8 kd)] W fun e w'=>e=.returned (.int .i64 kd)∧w'=W:=by
 refine(yHm (yA8 kd) W).mono ?_;rintro e w' ⟨j,rfl,rfl,⟨q1,q2,q3⟩|⟨_,q⟩⟩
 ·have e1:=yHo (.inl ⟨q1,q2,q3⟩:yT2 (bl (yA8 kd)) j);have e2:=yHo (.inl ⟨h1,h2,rfl⟩:yT2 (bl (yA8 kd)) kd);rw[e1]at e2;cases e2
  exact⟨rfl,rfl⟩
 ·exact absurd rfl (q kd h1 h2)
def ArgQ (g cp N nd:Nat) (ks:List Tk) (kd:Int) (i:Nat) (w:World) (e:Ending) (w':World):Prop:=Below w.heap.size w w'∧∃(j:Nat) (c:Int) (a:Nat) (n:Nd),e=.returned (.tuple #[parV g N cp j nd c a,n.v])∧Hid ((c=0∧a=0∧yAv kd (ks.drop i)=.ok (ks.drop j,n)∧i≤j∧j<N)∨(1≤c∧yAv kd (ks.drop i)=.error (c,a)))
theorem ArgP.q {e:Ending} {w':World} (h:ArgP base g cp N nd 0 ks kd i w e w'):ArgQ g cp N nd ks kd i w e w':=by
 obtain⟨hb,⟨j,n,h1,h2,h3,rfl⟩|⟨c,a,j,n,h1,h2,rfl⟩⟩:=h
 ·exact⟨hb,j,0,0,n,rfl,.inl ⟨rfl,rfl,h1,h2,h3⟩⟩
 ·exact⟨hb,j,c,a,n,rfl,.inr ⟨h2,h1⟩⟩
end
theorem yS4 {go:Nat} (h:PB w base g cp N ks pi pn pe pa st out gs cs go co W) (j:Nat):W.frozen? ⟨gs,j,none⟩=false:=World.ownsRow.frozenAt h.st j
theorem yGd (w:World) (base:Nat) (f:Nd) (hb:base≤w.heap.size):yAu (w.alloc (Obj.cells #[.int .i64 f.kind,.string f.s,.bool f.hi,.string f.t,.int .u64 f.lo,.int .u64 f.up,.int .i64 f.n] 65)) base w.heap.size 1 [f]:=
 World.ownsRow_lit (base:=base) (e:=65) (size:=7) w #[.int .i64 f.kind,.string f.s,.bool f.hi,.string f.t,.int .u64 f.lo,.int .u64 f.up,.int .i64 f.n] 1 hb (by decide) rfl
theorem yC4 {ops:Array Oper} {rest:List Oper} {o:Oper} {a:Act} {Q:Exit→Act→World→Prop} (hgd:o.guard=none) (x:Operand) (ho:o.op=.buildSlice 23 1 #[(0,x)]) (e:Nd) (hx:a.eval x=.agg #[.int .i64 e.kind,.string e.s,.bool e.hi,.string e.t,.int .u64 e.lo,.int .u64 e.up,.int .i64 e.n])
  (h:wpList Tryz.prog ops Q rest (a.put o.dst (.slice (some ⟨w.heap.size,0,none⟩) 1 1)) (w.alloc (.cells #[.int .i64 e.kind,.string e.s,.bool e.hi,.string e.t,.int .u64 e.lo,.int .u64 e.up,.int .i64 e.n] 65))):wpList Tryz.prog ops Q (o::rest) a w:=by
 obtain⟨i,hi,hz0,hz1,hz2⟩:=info_parts Tryz.infoNd;refine wpList_buildSlice hgd 23 65 1 #[(0,x)] ho _ i _ Tryz.underlying23 hi hz0 (by rw[hz1];decide) (by rw[hz1];decide) ?_ h;rw[hz1,show(Array.map (fun x=>(x.1,a.eval x.2)) #[(0,x)]).toList= [(0,a.eval x)]from by simp,hx];kernel_rfl
theorem yIj {ops:Array Oper} {oo:Oper} {a:Act} {K:Act→World→Prop} {Q:Exit→Act→World→Prop} {E:Prop} (hgd:oo.guard=none) (p x:Operand) (ho:oo.op=.store 65 p x) (g:Nat) (hp:a.eval p=.pointer (some ⟨g,0,none⟩)) (e:Nd)
  (hx:a.eval x=.agg #[.int .i64 e.kind,.string e.s,.bool e.hi,.string e.t,.int .u64 e.lo,.int .u64 e.up,.int .i64 e.n]) {base:Nat} {e0:Nd} (hB:yA w base 65 7 g e0.seven)
  (h:∀v,K (a.put oo.dst v) (setN w g e)):if Region.wanted oo (yielded ops a.tmps)=true then Oper.wp Tryz.prog oo a w K Q else E:=by
 have hw:Region.wanted oo (yielded ops a.tmps)=true:=by simp[Region.wanted,hgd]
 rw[if_pos hw];obtain⟨d0,d1,d2,d3,d4,d5,d6⟩:=hB.c7;obtain⟨f0,f1,f2,f3,f4,f5,f6⟩:=hB.f7;unfold setN at h;unfold Oper.wp execOp;rw[ho];simp only[hp,hx];go_simp;exact h _
end
end Go.Proofs.YtgnpcenpcmdlfaaGreatDoor
