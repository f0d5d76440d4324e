import Derived.Test.YtkidabedcgngcaaGreatDoorVkAA
import Derived.Test.YtkidabedcgngcaaGreatDoorVkAB
import Derived.Test.YtkidabedcgngcaaGreatDoorVkAH
import Derived.Test.YtkidabedcgngcaaGreatDoorVkAC
import Derived.Test.YtkidabedcgngcaaGreatDoorVkAD
import Derived.Test.YtkidabedcgngcaaGreatDoorVkAF
import Derived.Test.YtkidabedcgngcaaGreatDoorVkAG
namespace Go.Proofs.YtkidabedcgngcaaGreatDoor
open Go.RowKit Go.ChangeShapes Go.WideShapes Go.ChangeAt Go.Deep Go.Shelf Go.Maps
set_option linter.unusedVariables false
set_option linter.unusedSimpArgs false
set_option maxRecDepth 100000
set_option maxHeartbeats 40000000
def MeP (t:CT) (es:List Ent) (w:World) (e:Ending) (w':World):Prop:=∃g cp,e=.returned (.slice (some ⟨g,0,none⟩) (mean t es).length cp)∧Hid (OwnC w' w.heap.size g cp (mean t es)∧Below w.heap.size w w')
def MeC (m:Nat):Prop:=∀(w:World) (b o cap:Nat) (xs:List Nd) (t:CT) (rb ro rc:Nat) (es:List Ent),xs.length≤m→Win w b o cap xs→yCj xs t→(∀x∈xs,x.s.size≤maxLen)→CSl w rb ro rc es→Sub es es→es.length≤10000→
 Calls Tryz.prog 54 #[.slice (some ⟨b,o,none⟩) xs.length cap,.slice (some ⟨rb,ro,none⟩) es.length rc] w (MeP t es w)
variable {xs:List Nd} {t:CT}
theorem yD (h:yCj xs t):IsT 1 xs:=by have:=TrV.tree _ h;exact this
structure KidC (m:Nat) (w:World) (v:Value) (t:CT):Prop where
 call:∀(wx:World) (rb ro rc:Nat) (es:List Ent),Below w.heap.size w wx→CSl wx rb ro rc es→Sub es es→es.length≤10000→Calls Tryz.prog 54 #[v,.slice (some ⟨rb,ro,none⟩) es.length rc] wx (MeP t es wx)
variable {m b cap:Nat} {w:World}
theorem yGj (H:MeC m) {o:Nat} (hm:xs.length≤m) (hW:Win w b o cap xs) (hT:yCj xs t) (hs:∀x∈xs,x.s.size≤maxLen):KidC m w (.slice (some ⟨b,o,none⟩) xs.length cap) t:=
 ⟨fun wx rb ro rc es hb hC hS hl=>H wx b o cap xs t rb ro rc es hm (hW.below hb) hT hs hC hS hl⟩
variable {ta tb:CT} {ka kb:List Nd}
theorem ySg (H:MeC m) (n:Nd) (w:World) (b o cap rb ro rc:Nat) (es:List Ent) (hk:n.kind=14) (ha:yCj ka ta) (hb:yCj kb tb) (hm:(ka++kb++ [n]).length≤m+1) (hW:Win w b o cap (ka++kb++ [n])) (hsz:∀x∈ka++kb++ [n],x.s.size≤maxLen) (hC:CSl w rb ro rc es) (hS:Sub es es) (hel:es.length≤10000):
  Calls Tryz.prog 54 #[.slice (some ⟨b,o,none⟩) (ka++kb++ [n]).length cap,.slice (some ⟨rb,ro,none⟩) es.length rc] w (MeP (.chain n ta tb) es w):=by
 have e0:ka++kb++ [n]=([ka,kb]:List (List Nd)).flatten++ [n]:=by simp
 rw[e0]at hW hm hsz⊢;have HKs:Hid (Calls Tryz.prog 91 #[.slice (some ⟨b,o,none⟩) (([ka,kb]:List (List Nd)).flatten.length+1) cap] w fun r w'=>∃g cp,r=.returned (.slice (some ⟨g,0,none⟩) 2 cp)∧OwnV w' w.heap.size g cp (yE9 b o cap [ka,kb])∧Below w.heap.size w w'):=
  yDq hW (by show 2=yAk n.kind;rw[hk];rfl) (by
   intro k hkm
   simp only[List.mem_cons,List.not_mem_nil,or_false]at hkm
   rcases hkm with rfl|rfl
   ·exact yD ha
   ·exact yD hb)
 have HTp:Hid (∀wx,Below w.heap.size w wx→Calls Tryz.prog 90 #[.slice (some ⟨b,o,none⟩) (([ka,kb]:List (List Nd)).flatten.length+1) cap] wx fun r w'=>r=.returned (.int .i64 n.kind)∧w'=wx):=fun wx hx=>yDi (hW.below hx);obtain⟨o0,cap0,hv0,hW0⟩:=yCr hW (j:=0) (k:=ka) rfl;have g0:ka.length≤([ka,kb]:List (List Nd)).flatten.length:=by simp only[List.flatten_cons,List.flatten_nil,List.length_append,List.length_nil];omega
 have gm0:ka.length≤m:=by have h9:=hm;rw[List.length_append,List.length_singleton]at h9;omega
 have HK0:Hid (KidC m w (.slice (some ⟨b,o0,none⟩) ka.length cap0) ta):=yGj H gm0 hW0 ha (fun x hx=>hsz x (by simp[hx]));have hkl0:ka.length≤cap:=by have h9:=hW.len;rw[List.length_append,List.length_singleton]at h9;omega
 obtain⟨l0,hl0⟩:∃l,l=ka.length:=⟨_,rfl⟩;rw[←hl0]at HK0 hv0 hkl0;clear g0 gm0;obtain⟨o1,cap1,hv1,hW1⟩:=yCr hW (j:=1) (k:=kb) rfl;have g1:kb.length≤([ka,kb]:List (List Nd)).flatten.length:=by simp only[List.flatten_cons,List.flatten_nil,List.length_append,List.length_nil];omega
 have gm1:kb.length≤m:=by have h9:=hm;rw[List.length_append,List.length_singleton]at h9;omega
 have HK1:Hid (KidC m w (.slice (some ⟨b,o1,none⟩) kb.length cap1) tb):=yGj H gm1 hW1 hb (fun x hx=>hsz x (by simp[hx]));have hkl1:kb.length≤cap:=by have h9:=hW.len;rw[List.length_append,List.length_singleton]at h9;omega
 obtain⟨l1,hl1⟩:∃l,l=kb.length:=⟨_,rfl⟩;rw[←hl1]at HK1 hv1 hkl1;clear g1 gm1;rw[List.length_append,List.length_singleton];obtain⟨L,hL⟩:=qE (([ka,kb]:List (List Nd)).flatten.length);rw[←hL]at HKs HTp⊢;have hcp:=hW.cap;have hLc:L+1≤cap:=by have h9:=hW.len;rw[List.length_append,List.length_singleton]at h9;omega
 obtain⟨kd,hkd⟩:=qE n.kind;rw[←hkd]at hk HTp;subst hk;have HR:Hid (CSl w rb ro rc es∧Sub es es∧es.length≤10000):=⟨hC,hS,hel⟩;obtain⟨N,hN⟩:=qE es.length;have HNl:Hid (N=es.length):=hN;rw[←hN];clear hW hm hsz e0 hL hW0 hl0 hW1 hl1 hC hS hel hN;go_enter Tryz.func54,Tryz.ntmps54;go_wp2_with fail;refine HKs.mono ?_;rintro r w1 ⟨g,cp,rfl,hO,hb1⟩;have HO1:Hid (OwnV w1 w.heap.size g cp (yE9 b o cap [ka,kb])∧Below w.heap.size w w1):=⟨hO,hb1⟩;have HT1:=HTp.out w1 hb1;have HTp1:Hid (Calls Tryz.prog 90 #[.slice (some ⟨b,o,none⟩) (L+1) cap] w1 fun r w'=>r=.returned (.int .i64 14)∧w'=w1):=HT1;clear HKs HT1 HTp hb1;go_wp2_with fail;refine HTp1.mono ?_;rintro r w2 ⟨rfl,hw2⟩;rw[hw2];clear hw2 HTp1;have x0:w1.cell? ⟨g,0,none⟩=some (.slice (some ⟨b,o0,none⟩) l0 cap0):=hO.cell hv0;have x1:w1.cell? ⟨g,1,none⟩=some (.slice (some ⟨b,o1,none⟩) l1 cap1):=hO.cell hv1;have hgl:=hO.lt.2;clear hO hv0 hv1;have hS0:(fun w':World=>w'.cell? ⟨g,0,none⟩=some (.slice (some ⟨b,o0,none⟩) l0 cap0)∧w'.cell? ⟨g,1,none⟩=some (.slice (some ⟨b,o1,none⟩) l1 cap1)) w1.drew:=⟨x0,x1⟩;have hd1:Below w1.heap.size w1 w1.drew:=(Below.refl _ _).drew;have HBd:Hid (Below w.heap.size w w1.drew):=HO1.2.trans (hd1.mono HO1.2.size);have HC0:Hid (Calls Tryz.prog 54 #[.slice (some ⟨b,o0,none⟩) l0 cap0,.slice (some ⟨rb,ro,none⟩) N rc] w1.drew (MeP ta es w1.drew)):=by rw[HNl.out];exact HK0.call w1.drew rb ro rc es HBd.out (HR.1.below HBd.out) HR.2.1 HR.2.2
 go_upto_region 4 with fail;refine yAb 99 (fun w':World=>w'.cell? ⟨g,0,none⟩=some (.slice (some ⟨b,o0,none⟩) l0 cap0)∧w'.cell? ⟨g,1,none⟩=some (.slice (some ⟨b,o1,none⟩) l1 cap1)) (by kernel_rfl) ?_;refine j2a 0 hS0 ?_;iterate 6 refine j2b hS0 ?_
 refine qO 7 rfl fun K hK=>?_;go_simp;go_at_call 54;refine HC0.mono ?_;rintro e w3 ⟨g3,cp3,rfl,H3⟩;have hb3:Below w1.heap.size w1 w3:=hd1.trans H3.2;have hS3:(fun w':World=>w'.cell? ⟨g,0,none⟩=some (.slice (some ⟨b,o0,none⟩) l0 cap0)∧w'.cell? ⟨g,1,none⟩=some (.slice (some ⟨b,o1,none⟩) l1 cap1)) w3:=⟨by rw[(Chg.of_below hb3 (S:=fun _=>False)).cell (p:=⟨g,0,none⟩) hgl (fun q=>q)];exact x0,by rw[(Chg.of_below hb3 (S:=fun _=>False)).cell (p:=⟨g,1,none⟩) hgl (fun q=>q)];exact x1⟩;have HB3:Hid (Below w.heap.size w w3):=HO1.2.trans (hb3.mono HO1.2.size);have hsb:=yA1 ta HR.2.1;have HC1:Hid (Calls Tryz.prog 54 #[.slice (some ⟨b,o1,none⟩) l1 cap1,.slice (some ⟨g3,0,none⟩) (mean ta es).length cp3] w3 (MeP tb (mean ta es) w3)):=HK1.call w3 g3 0 cp3 (mean ta es) HB3.out H3.1.sl hsb.self (by have h8:=hsb.len HR.2.1.ord;have h9:=HR.2.2;omega);clear hb3 hsb;refine hK.out _ _ (.inr hS3) ?_;clear hK;refine jS ?_;refine qO 8 rfl fun K hK=>?_;go_simp;go_at_call 54;refine HC1.mono ?_;rintro e w4 ⟨g4,cp4,rfl,H4⟩;have hS4:(fun w':World=>w'.cell? ⟨g,0,none⟩=some (.slice (some ⟨b,o0,none⟩) l0 cap0)∧w'.cell? ⟨g,1,none⟩=some (.slice (some ⟨b,o1,none⟩) l1 cap1)) w4:=⟨by rw[(Chg.of_below H4.2 (S:=fun _=>False)).cell (p:=⟨g,0,none⟩) (Nat.lt_of_lt_of_le hgl (Nat.le_trans hd1.size H3.2.size)) (fun q=>q)];exact hS3.1,by rw[(Chg.of_below H4.2 (S:=fun _=>False)).cell (p:=⟨g,1,none⟩) (Nat.lt_of_lt_of_le hgl (Nat.le_trans hd1.size H3.2.size)) (fun q=>q)];exact hS3.2⟩;have HE:Hid (OwnC w4 w.heap.size g4 cp4 (mean (.chain n ta tb) es)∧Below w.heap.size w w4):=⟨H4.1.mono HB3.size,HB3.trans (H4.2.mono HB3.size)⟩;refine hK.out _ _ (.inr hS4) ?_;clear hK;refine jS ?_;refine j2a 9 hS4 ?_;refine qD ?_;go_wp2_with fail;go_ret;exact⟨g4,cp4,rfl,HE.out⟩
theorem ySf (H:MeC m) (n:Nd) (w:World) (b o cap rb ro rc:Nat) (es:List Ent) (hk:n.kind=15) (ha:yCj ka ta) (hb:yCj kb tb) (hm:(ka++kb++ [n]).length≤m+1) (hW:Win w b o cap (ka++kb++ [n])) (hsz:∀x∈ka++kb++ [n],x.s.size≤maxLen) (hC:CSl w rb ro rc es) (hS:Sub es es) (hel:es.length≤10000):
  Calls Tryz.prog 54 #[.slice (some ⟨b,o,none⟩) (ka++kb++ [n]).length cap,.slice (some ⟨rb,ro,none⟩) es.length rc] w (MeP (.inter n ta tb) es w):=by
 have e0:ka++kb++ [n]=([ka,kb]:List (List Nd)).flatten++ [n]:=by simp
 rw[e0]at hW hm hsz⊢;have HKs:Hid (Calls Tryz.prog 91 #[.slice (some ⟨b,o,none⟩) (([ka,kb]:List (List Nd)).flatten.length+1) cap] w fun r w'=>∃g cp,r=.returned (.slice (some ⟨g,0,none⟩) 2 cp)∧OwnV w' w.heap.size g cp (yE9 b o cap [ka,kb])∧Below w.heap.size w w'):=
  yDq hW (by show 2=yAk n.kind;rw[hk];rfl) (by
   intro k hkm
   simp only[List.mem_cons,List.not_mem_nil,or_false]at hkm
   rcases hkm with rfl|rfl
   ·exact yD ha
   ·exact yD hb)
 have HTp:Hid (∀wx,Below w.heap.size w wx→Calls Tryz.prog 90 #[.slice (some ⟨b,o,none⟩) (([ka,kb]:List (List Nd)).flatten.length+1) cap] wx fun r w'=>r=.returned (.int .i64 n.kind)∧w'=wx):=fun wx hx=>yDi (hW.below hx);obtain⟨o0,cap0,hv0,hW0⟩:=yCr hW (j:=0) (k:=ka) rfl;have g0:ka.length≤([ka,kb]:List (List Nd)).flatten.length:=by simp only[List.flatten_cons,List.flatten_nil,List.length_append,List.length_nil];omega
 have gm0:ka.length≤m:=by have h9:=hm;rw[List.length_append,List.length_singleton]at h9;omega
 have HK0:Hid (KidC m w (.slice (some ⟨b,o0,none⟩) ka.length cap0) ta):=yGj H gm0 hW0 ha (fun x hx=>hsz x (by simp[hx]));have hkl0:ka.length≤cap:=by have h9:=hW.len;rw[List.length_append,List.length_singleton]at h9;omega
 obtain⟨l0,hl0⟩:∃l,l=ka.length:=⟨_,rfl⟩;rw[←hl0]at HK0 hv0 hkl0;clear g0 gm0;obtain⟨o1,cap1,hv1,hW1⟩:=yCr hW (j:=1) (k:=kb) rfl;have g1:kb.length≤([ka,kb]:List (List Nd)).flatten.length:=by simp only[List.flatten_cons,List.flatten_nil,List.length_append,List.length_nil];omega
 have gm1:kb.length≤m:=by have h9:=hm;rw[List.length_append,List.length_singleton]at h9;omega
 have HK1:Hid (KidC m w (.slice (some ⟨b,o1,none⟩) kb.length cap1) tb):=yGj H gm1 hW1 hb (fun x hx=>hsz x (by simp[hx]));have hkl1:kb.length≤cap:=by have h9:=hW.len;rw[List.length_append,List.length_singleton]at h9;omega
 obtain⟨l1,hl1⟩:∃l,l=kb.length:=⟨_,rfl⟩;rw[←hl1]at HK1 hv1 hkl1;clear g1 gm1;rw[List.length_append,List.length_singleton];obtain⟨L,hL⟩:=qE (([ka,kb]:List (List Nd)).flatten.length);rw[←hL]at HKs HTp⊢;have hcp:=hW.cap;have hLc:L+1≤cap:=by have h9:=hW.len;rw[List.length_append,List.length_singleton]at h9;omega
 obtain⟨kd,hkd⟩:=qE n.kind;rw[←hkd]at hk HTp;subst hk;have HR:Hid (CSl w rb ro rc es∧Sub es es∧es.length≤10000):=⟨hC,hS,hel⟩;obtain⟨N,hN⟩:=qE es.length;have HNl:Hid (N=es.length):=hN;rw[←hN];clear hW hm hsz e0 hL hW0 hl0 hW1 hl1 hC hS hel hN;go_enter Tryz.func54,Tryz.ntmps54;go_wp2_with fail;refine HKs.mono ?_;rintro r w1 ⟨g,cp,rfl,hO,hb1⟩;have HO1:Hid (OwnV w1 w.heap.size g cp (yE9 b o cap [ka,kb])∧Below w.heap.size w w1):=⟨hO,hb1⟩;have HT1:=HTp.out w1 hb1;have HTp1:Hid (Calls Tryz.prog 90 #[.slice (some ⟨b,o,none⟩) (L+1) cap] w1 fun r w'=>r=.returned (.int .i64 15)∧w'=w1):=HT1;clear HKs HT1 HTp hb1;go_wp2_with fail;refine HTp1.mono ?_;rintro r w2 ⟨rfl,hw2⟩;rw[hw2];clear hw2 HTp1;have x0:w1.cell? ⟨g,0,none⟩=some (.slice (some ⟨b,o0,none⟩) l0 cap0):=hO.cell hv0;have x1:w1.cell? ⟨g,1,none⟩=some (.slice (some ⟨b,o1,none⟩) l1 cap1):=hO.cell hv1;have hgl:=hO.lt.2;clear hO hv0 hv1;have hS0:(fun w':World=>w'.cell? ⟨g,0,none⟩=some (.slice (some ⟨b,o0,none⟩) l0 cap0)∧w'.cell? ⟨g,1,none⟩=some (.slice (some ⟨b,o1,none⟩) l1 cap1)) w1.drew:=⟨x0,x1⟩;have hd1:Below w1.heap.size w1 w1.drew:=(Below.refl _ _).drew;have HBd:Hid (Below w.heap.size w w1.drew):=HO1.2.trans (hd1.mono HO1.2.size);have HC0:Hid (Calls Tryz.prog 54 #[.slice (some ⟨b,o0,none⟩) l0 cap0,.slice (some ⟨rb,ro,none⟩) N rc] w1.drew (MeP ta es w1.drew)):=by rw[HNl.out];exact HK0.call w1.drew rb ro rc es HBd.out (HR.1.below HBd.out) HR.2.1 HR.2.2
 go_upto_region 6 with fail;refine yAb 99 (fun w':World=>w'.cell? ⟨g,0,none⟩=some (.slice (some ⟨b,o0,none⟩) l0 cap0)∧w'.cell? ⟨g,1,none⟩=some (.slice (some ⟨b,o1,none⟩) l1 cap1)) (by kernel_rfl) ?_;refine j2a 0 hS0 ?_;iterate 3 refine j2b hS0 ?_
 refine j2a 5 hS0 ?_;iterate 3 refine j2b hS0 ?_
 refine qO 4 rfl fun K hK=>?_;go_simp;go_at_call 54;refine HC0.mono ?_;rintro e w3 ⟨g3,cp3,rfl,H3⟩;have hb3:Below w1.heap.size w1 w3:=hd1.trans H3.2;have hS3:(fun w':World=>w'.cell? ⟨g,0,none⟩=some (.slice (some ⟨b,o0,none⟩) l0 cap0)∧w'.cell? ⟨g,1,none⟩=some (.slice (some ⟨b,o1,none⟩) l1 cap1)) w3:=⟨by rw[(Chg.of_below hb3 (S:=fun _=>False)).cell (p:=⟨g,0,none⟩) hgl (fun q=>q)];exact x0,by rw[(Chg.of_below hb3 (S:=fun _=>False)).cell (p:=⟨g,1,none⟩) hgl (fun q=>q)];exact x1⟩;have HB3:Hid (Below w.heap.size w w3):=HO1.2.trans (hb3.mono HO1.2.size);have HC1:Hid (Calls Tryz.prog 54 #[.slice (some ⟨b,o1,none⟩) l1 cap1,.slice (some ⟨rb,ro,none⟩) N rc] w3 (MeP tb es w3)):=by rw[HNl.out];exact HK1.call w3 rb ro rc es HB3.out (HR.1.below HB3.out) HR.2.1 HR.2.2
 clear hb3;refine hK.out _ _ (.inr hS3) ?_;clear hK;refine jS ?_;refine qO 9 rfl fun K hK=>?_;go_simp;go_at_call 54;refine HC1.mono ?_;rintro e w4 ⟨g4,cp4,rfl,H4⟩;have hS4:(fun w':World=>w'.cell? ⟨g,0,none⟩=some (.slice (some ⟨b,o0,none⟩) l0 cap0)∧w'.cell? ⟨g,1,none⟩=some (.slice (some ⟨b,o1,none⟩) l1 cap1)) w4:=⟨by rw[(Chg.of_below H4.2 (S:=fun _=>False)).cell (p:=⟨g,0,none⟩) (Nat.lt_of_lt_of_le hgl (Nat.le_trans hd1.size H3.2.size)) (fun q=>q)];exact hS3.1,by rw[(Chg.of_below H4.2 (S:=fun _=>False)).cell (p:=⟨g,1,none⟩) (Nat.lt_of_lt_of_le hgl (Nat.le_trans hd1.size H3.2.size)) (fun q=>q)];exact hS3.2⟩;have HB4:Hid (Below w.heap.size w w4):=HB3.trans (H4.2.mono HB3.size);have HU:Hid (Calls Tryz.prog 97 #[.slice (some ⟨g3,0,none⟩) (mean ta es).length cp3,.slice (some ⟨g4,0,none⟩) (mean tb es).length cp4] w4 fun e w'=>∃g cp,e=.returned (.slice (some ⟨g,0,none⟩) (uniM (mean ta es) (mean tb es)).length cp)∧OwnC w' w4.heap.size g cp (uniM (mean ta es) (mean tb es))∧Below w4.heap.size w4 w'):=by have sa:=yA1 ta HR.2.1;have sb':=yA1 tb HR.2.1;have la:=sa.len HR.2.1.ord;have lb:=sb'.len HR.2.1.ord;have le:=HR.2.2;exact yNs (H3.1.sl.below H4.2) H4.1.sl sa.kind sb'.kind (by omega) (by omega)
 refine hK.out _ _ (.inr hS4) ?_;clear hK;refine jS ?_;refine qO 10 rfl fun K hK=>?_;go_simp;go_at_call 97;refine HU.mono ?_;rintro e w5 ⟨g5,cp5,rfl,hO5,hb5⟩;have hz4:g<w4.heap.size:=Nat.lt_of_lt_of_le hgl (Nat.le_trans hd1.size (Nat.le_trans H3.2.size H4.2.size));have hS5:(fun w':World=>w'.cell? ⟨g,0,none⟩=some (.slice (some ⟨b,o0,none⟩) l0 cap0)∧w'.cell? ⟨g,1,none⟩=some (.slice (some ⟨b,o1,none⟩) l1 cap1)) w5:=⟨by rw[(Chg.of_below hb5 (S:=fun _=>False)).cell (p:=⟨g,0,none⟩) hz4 (fun q=>q)];exact hS4.1,by rw[(Chg.of_below hb5 (S:=fun _=>False)).cell (p:=⟨g,1,none⟩) hz4 (fun q=>q)];exact hS4.2⟩;have HE:Hid (OwnC w5 w.heap.size g5 cp5 (mean (.inter n ta tb) es)∧Below w.heap.size w w5):=⟨hO5.mono HB4.size,HB4.trans (hb5.mono HB4.size)⟩;clear hO5 hb5 hz4;refine hK.out _ _ (.inr hS5) ?_;clear hK;refine jS ?_;refine j2a 11 hS5 ?_;refine qD ?_;go_wp2_with fail;go_ret;exact⟨g5,cp5,rfl,HE.out⟩
theorem yUt (H:MeC m) (n:Nd) (w:World) (b o cap rb ro rc:Nat) (es:List Ent) {tc:CT} {kc:List Nd} (hk:n.kind=16) (ha:yCj ka ta) (hb:yCj kb tb) (hc:yCj kc tc) (hm:(ka++kb++kc++ [n]).length≤m+1) (hW:Win w b o cap (ka++kb++kc++ [n])) (hsz:∀x∈ka++kb++kc++ [n],x.s.size≤maxLen) (hC:CSl w rb ro rc es) (hS:Sub es es) (hel:es.length≤10000):
  Calls Tryz.prog 54 #[.slice (some ⟨b,o,none⟩) (ka++kb++kc++ [n]).length cap,.slice (some ⟨rb,ro,none⟩) es.length rc] w (MeP (.cond n ta tb tc) es w):=by
 have e0:ka++kb++kc++ [n]=([ka,kb,kc]:List (List Nd)).flatten++ [n]:=by simp
 rw[e0]at hW hm hsz⊢;have HKs:Hid (Calls Tryz.prog 91 #[.slice (some ⟨b,o,none⟩) (([ka,kb,kc]:List (List Nd)).flatten.length+1) cap] w fun r w'=>∃g cp,r=.returned (.slice (some ⟨g,0,none⟩) 3 cp)∧OwnV w' w.heap.size g cp (yE9 b o cap [ka,kb,kc])∧Below w.heap.size w w'):=
  yDq hW (by show 3=yAk n.kind;rw[hk];rfl) (by
   intro k hkm
   simp only[List.mem_cons,List.not_mem_nil,or_false]at hkm
   rcases hkm with rfl|rfl|rfl
   ·exact yD ha
   ·exact yD hb
   ·exact yD hc)
 have HTp:Hid (∀wx,Below w.heap.size w wx→Calls Tryz.prog 90 #[.slice (some ⟨b,o,none⟩) (([ka,kb,kc]:List (List Nd)).flatten.length+1) cap] wx fun r w'=>r=.returned (.int .i64 n.kind)∧w'=wx):=fun wx hx=>yDi (hW.below hx);obtain⟨o0,cap0,hv0,hW0⟩:=yCr hW (j:=0) (k:=ka) rfl;have g0:ka.length≤([ka,kb,kc]:List (List Nd)).flatten.length:=by simp only[List.flatten_cons,List.flatten_nil,List.length_append,List.length_nil];omega
 have gm0:ka.length≤m:=by have h9:=hm;rw[List.length_append,List.length_singleton]at h9;omega
 have HK0:Hid (KidC m w (.slice (some ⟨b,o0,none⟩) ka.length cap0) ta):=yGj H gm0 hW0 ha (fun x hx=>hsz x (by simp[hx]));have hkl0:ka.length≤cap:=by have h9:=hW.len;rw[List.length_append,List.length_singleton]at h9;omega
 obtain⟨l0,hl0⟩:∃l,l=ka.length:=⟨_,rfl⟩;rw[←hl0]at HK0 hv0 hkl0;clear g0 gm0;obtain⟨o1,cap1,hv1,hW1⟩:=yCr hW (j:=1) (k:=kb) rfl;have g1:kb.length≤([ka,kb,kc]:List (List Nd)).flatten.length:=by simp only[List.flatten_cons,List.flatten_nil,List.length_append,List.length_nil];omega
 have gm1:kb.length≤m:=by have h9:=hm;rw[List.length_append,List.length_singleton]at h9;omega
 have HK1:Hid (KidC m w (.slice (some ⟨b,o1,none⟩) kb.length cap1) tb):=yGj H gm1 hW1 hb (fun x hx=>hsz x (by simp[hx]));have hkl1:kb.length≤cap:=by have h9:=hW.len;rw[List.length_append,List.length_singleton]at h9;omega
 obtain⟨l1,hl1⟩:∃l,l=kb.length:=⟨_,rfl⟩;rw[←hl1]at HK1 hv1 hkl1;clear g1 gm1;obtain⟨o2,cap2,hv2,hW2⟩:=yCr hW (j:=2) (k:=kc) rfl;have g2:kc.length≤([ka,kb,kc]:List (List Nd)).flatten.length:=by simp only[List.flatten_cons,List.flatten_nil,List.length_append,List.length_nil];omega
 have gm2:kc.length≤m:=by have h9:=hm;rw[List.length_append,List.length_singleton]at h9;omega
 have HK2:Hid (KidC m w (.slice (some ⟨b,o2,none⟩) kc.length cap2) tc):=yGj H gm2 hW2 hc (fun x hx=>hsz x (by simp[hx]));have hkl2:kc.length≤cap:=by have h9:=hW.len;rw[List.length_append,List.length_singleton]at h9;omega
 obtain⟨l2,hl2⟩:∃l,l=kc.length:=⟨_,rfl⟩;rw[←hl2]at HK2 hv2 hkl2;clear g2 gm2;rw[List.length_append,List.length_singleton];obtain⟨L,hL⟩:=qE (([ka,kb,kc]:List (List Nd)).flatten.length);rw[←hL]at HKs HTp⊢;have hcp:=hW.cap;have hLc:L+1≤cap:=by have h9:=hW.len;rw[List.length_append,List.length_singleton]at h9;omega
 obtain⟨kd,hkd⟩:=qE n.kind;rw[←hkd]at hk HTp;subst hk;have HR:Hid (CSl w rb ro rc es∧Sub es es∧es.length≤10000):=⟨hC,hS,hel⟩;obtain⟨N,hN⟩:=qE es.length;have HNl:Hid (N=es.length):=hN;rw[←hN];clear hW hm hsz e0 hL hW0 hl0 hW1 hl1 hW2 hl2 hC hS hel hN;go_enter Tryz.func54,Tryz.ntmps54;go_wp2_with fail;refine HKs.mono ?_;rintro r w1 ⟨g,cp,rfl,hO,hb1⟩;have HO1:Hid (OwnV w1 w.heap.size g cp (yE9 b o cap [ka,kb,kc])∧Below w.heap.size w w1):=⟨hO,hb1⟩;have HT1:=HTp.out w1 hb1;have HTp1:Hid (Calls Tryz.prog 90 #[.slice (some ⟨b,o,none⟩) (L+1) cap] w1 fun r w'=>r=.returned (.int .i64 16)∧w'=w1):=HT1;clear HKs HT1 HTp hb1;go_wp2_with fail;refine HTp1.mono ?_;rintro r w2 ⟨rfl,hw2⟩;rw[hw2];clear hw2 HTp1;have x0:w1.cell? ⟨g,0,none⟩=some (.slice (some ⟨b,o0,none⟩) l0 cap0):=hO.cell hv0;have x1:w1.cell? ⟨g,1,none⟩=some (.slice (some ⟨b,o1,none⟩) l1 cap1):=hO.cell hv1;have x2:w1.cell? ⟨g,2,none⟩=some (.slice (some ⟨b,o2,none⟩) l2 cap2):=hO.cell hv2;have hgl:=hO.lt.2;clear hO hv0 hv1 hv2;have HC0:Hid (Calls Tryz.prog 54 #[.slice (some ⟨b,o0,none⟩) l0 cap0,.slice (some ⟨rb,ro,none⟩) N rc] w1 (MeP ta es w1)):=by rw[HNl.out];exact HK0.call w1 rb ro rc es HO1.2 (HR.1.below HO1.2) HR.2.1 HR.2.2
 go_wp2_with fail;refine HC0.mono ?_;rintro e w3 ⟨g3,cp3,rfl,H3⟩;have HB3:Hid (Below w.heap.size w w3):=HO1.2.trans (H3.2.mono HO1.2.size);have y1:w3.cell? ⟨g,1,none⟩=some (.slice (some ⟨b,o1,none⟩) l1 cap1):=by rw[(Chg.of_below H3.2 (S:=fun _=>False)).cell (p:=⟨g,1,none⟩) hgl (fun q=>q)];exact x1
 have y2:w3.cell? ⟨g,2,none⟩=some (.slice (some ⟨b,o2,none⟩) l2 cap2):=by rw[(Chg.of_below H3.2 (S:=fun _=>False)).cell (p:=⟨g,2,none⟩) hgl (fun q=>q)];exact x2
 have hlp:(mean ta es).length≤10000:=by have h8:=(yA1 ta HR.2.1).len HR.2.1.ord;have h9:=HR.2.2;omega
 obtain⟨P,hP⟩:=qE ((mean ta es).length);have HP:Hid (P=(mean ta es).length):=hP;rw[←hP]at hlp⊢;clear hP x0 x1 x2;by_cases hz:P=0
 ·subst hz;have HMe:Hid (mean (.cond n ta tb tc) es=mean tc es):=by
   show mean (.cond n ta tb tc) es=_;have h0:mean ta es= []:=List.length_eq_zero_iff.1 HP.symm;conv=>lhs;unfold mean
   rw[if_pos h0]
  have HC1:Hid (Calls Tryz.prog 54 #[.slice (some ⟨b,o2,none⟩) l2 cap2,.slice (some ⟨rb,ro,none⟩) N rc] w3 (MeP tc es w3)):=by rw[HNl.out];exact HK2.call w3 rb ro rc es HB3.out (HR.1.below HB3.out) HR.2.1 HR.2.2
  exact zzQ64
 ·have zp:(0:Int)<(P:Int):=by omega
  have HMe:Hid (mean (.cond n ta tb tc) es=mean tb es):=by
   show mean (.cond n ta tb tc) es=_;have h0:¬mean ta es= []:=fun q=>hz (by rw[HP.out,q];rfl);conv=>lhs;unfold mean
   rw[if_neg h0]
  have HC1:Hid (Calls Tryz.prog 54 #[.slice (some ⟨b,o1,none⟩) l1 cap1,.slice (some ⟨rb,ro,none⟩) N rc] w3 (MeP tb es w3)):=by rw[HNl.out];exact HK1.call w3 rb ro rc es HB3.out (HR.1.below HB3.out) HR.2.1 HR.2.2
  exact zzQ64
theorem yUs (n:Nd) (w:World) (b o cap rb ro rc:Nat) (es:List Ent) (hk:yAk n.kind=0) (hW:Win w b o cap [n]) (hsz:n.s.size≤maxLen) (hC:CSl w rb ro rc es) (hel:es.length≤10000):
  Calls Tryz.prog 54 #[.slice (some ⟨b,o,none⟩) 1 cap,.slice (some ⟨rb,ro,none⟩) es.length rc] w (MeP (.leaf n) es w):=by
 have HKs:Hid (Calls Tryz.prog 91 #[.slice (some ⟨b,o,none⟩) 1 cap] w fun r w'=>∃g cp,r=.returned (.slice (some ⟨g,0,none⟩) 0 cp)∧OwnV w' w.heap.size g cp (yE9 b o cap [])∧Below w.heap.size w w'):=yDq (ks:= []) hW (by rw[hk];rfl) (fun k q=>by simp at q);have HTp:Hid (∀wx,Below w.heap.size w wx→Calls Tryz.prog 90 #[.slice (some ⟨b,o,none⟩) 1 cap] wx fun r w'=>r=.returned (.int .i64 n.kind)∧w'=wx):=fun wx hx=>yDi (xs:= []) (hW.below hx);have HW:Hid (Win w b o cap [n]∧CSl w rb ro rc es):=⟨hW,hC⟩;have HLf:Hid (∀wx,Below w.heap.size w wx→Calls Tryz.prog 98 #[n.v,.slice (some ⟨rb,ro,none⟩) es.length rc] wx fun e w'=>∃g cp,e=.returned (.slice (some ⟨g,0,none⟩) (leafM n es).length cp)∧OwnC w' wx.heap.size g cp (leafM n es)∧Below wx.heap.size wx w'):=fun wx hx=>yPm n hsz (hC.below hx) (by omega);have hcp:=hW.cap;have hkk:¬n.kind=14∧¬n.kind=15∧¬n.kind=16:=by
  unfold yAk at hk;refine⟨fun q=>?_,fun q=>?_,fun q=>?_⟩
  ·rw[if_pos (.inl q)]at hk;cases hk
  ·rw[if_pos (.inr q)]at hk;cases hk
  ·rw[if_neg (by omega),if_pos q]at hk;cases hk
 have b14:(n.kind==14)=false:=by rw[beq_eq_false_iff_ne];exact hkk.1
 have b15:(n.kind==15)=false:=by rw[beq_eq_false_iff_ne];exact hkk.2.1
 have b16:(n.kind==16)=false:=by rw[beq_eq_false_iff_ne];exact hkk.2.2
 obtain⟨N,hN⟩:=qE es.length;rw[←hN]at HLf⊢;have hN':N≤10000:=by omega
 clear hW hC hkk hk hN hel;go_enter Tryz.func54,Tryz.ntmps54;go_wp2_with fail;refine HKs.mono ?_;rintro r w1 ⟨g,cp,rfl,hO,hb1⟩;have HB1:Hid (Below w.heap.size w w1):=hb1;have HTp1:Hid (Calls Tryz.prog 90 #[.slice (some ⟨b,o,none⟩) 1 cap] w1 fun r w'=>r=.returned (.int .i64 n.kind)∧w'=w1):=HTp.out w1 hb1;have HL1:Hid (Calls Tryz.prog 98 #[n.v,.slice (some ⟨rb,ro,none⟩) N rc] w1 fun e w'=>∃g cp,e=.returned (.slice (some ⟨g,0,none⟩) (leafM n es).length cp)∧OwnC w' w1.heap.size g cp (leafM n es)∧Below w1.heap.size w1 w'):=HLf.out w1 hb1;obtain⟨k0,k1,k2,k3,k4,k5,k6⟩:=(HW.1.below hb1).at_ 0 n rfl;simp only[Nat.zero_mul,Nat.add_zero]at k0 k1 k2 k3 k4 k5 k6;clear HKs HTp hb1 hO HLf;go_wp2_with fail;refine HTp1.mono ?_;rintro r w2 ⟨rfl,hw2⟩;rw[hw2];clear hw2 HTp1;go_wp2_with fail;refine HL1.mono ?_;rintro e w3 ⟨g3,cp3,rfl,hO3,hb3⟩;have HE:Hid (OwnC w3 w.heap.size g3 cp3 (mean (.leaf n) es)∧Below w.heap.size w w3):=⟨hO3.mono HB1.size,HB1.trans (hb3.mono HB1.size)⟩;clear hO3 hb3;go_wp2_with fail;go_ret;exact⟨g3,cp3,rfl,HE.out⟩
theorem yZp (H:MeC m):MeC (m+1):=by
 intro w b o cap xs t rb ro rc es hm hW hT hsz hC hS hel;have hP:=yCj.part hT;cases hP with
 |leaf n h=>exact yUs n w b o cap rb ro rc es h hW (hsz n (by simp)) hC hel
 |chain n h ha hb=>exact ySg H n w b o cap rb ro rc es h ha hb hm hW hsz hC hS hel
 |inter n h ha hb=>exact ySf H n w b o cap rb ro rc es h ha hb hm hW hsz hC hS hel
 |cond n h ha hb hc=>exact yUt H n w b o cap rb ro rc es h ha hb hc hm hW hsz hC hS hel
theorem yUr:MeC 0:=by intro w b o cap xs t rb ro rc es hm hW hT;have:=(yD hT).len;omega
theorem yQ5:∀m,MeC m
 |0=>yUr
 |m+1=>yZp (yQ5 m)
theorem yZa {e:Ent} (h:e.ok):(putE e).ok:=⟨h.row,h.fam,h.qual,h.val,h.ts,(show(Lit.int .i64 0).wf=true by decide)⟩
theorem yLd (a b:Ent):yCm (putE a) (putE b)=(yAh (putE a) (putE b)== -1):=by unfold yCm putE;simp
theorem yFr (a b:Ent) (w:World):
  Calls Tryz.prog 60 #[a.c,b.c] w fun e w'=>e=.returned (.int .i64 (yAh (putE a) (putE b)))∧Below w.heap.size w w':=by
 unfold Ent.c;obtain⟨W0,hW0⟩:=qE ((w.alloc (Obj.cells #[.string a.row,.string a.fam,.string a.qual,.int .u64 a.ts,.string a.val] 55)).alloc (Obj.cells #[.string b.row,.string b.fam,.string b.qual,.int .u64 b.ts,.string b.val] 55):World);have hb0:Below w.heap.size w W0:=by rw[hW0];exact(qB).alloc (by simp) _
 have hz0:W0.heap.size=w.heap.size+2:=by rw[hW0];simp
 have HA:Hid (yBd W0 w.heap.size 0 [a]∧yBd W0 (w.heap.size+1) 0 [b]):=by rw[hW0];refine⟨(yBw w a).below (qB) (by simp),?_⟩;have:=yBw (w.alloc (Obj.cells #[.string a.row,.string a.fam,.string a.qual,.int .u64 a.ts,.string a.val] 55)) b;simpa using this
 have q:∀n:Out W0,yBd n.u w.heap.size 0 [a]∧yBd n.u (w.heap.size+1) 0 [b]:=fun n=>⟨HA.1.below n.out (by omega),HA.2.below n.out (by omega)⟩;have a0:∀n:Out W0,n.u.cell? ⟨w.heap.size,0,none⟩=some (.string a.row):=fun n=>by simpa using ((q n).1 0 a rfl).1
 have a1:∀n:Out W0,n.u.cell? ⟨w.heap.size,1,none⟩=some (.string a.fam):=fun n=>by simpa using ((q n).1 0 a rfl).2.1
 have a2:∀n:Out W0,n.u.cell? ⟨w.heap.size,2,none⟩=some (.string a.qual):=fun n=>by simpa using ((q n).1 0 a rfl).2.2.1
 have a3:∀n:Out W0,n.u.cell? ⟨w.heap.size,3,none⟩=some (.int .u64 a.ts):=fun n=>by simpa using ((q n).1 0 a rfl).2.2.2.1
 have a4:∀n:Out W0,n.u.cell? ⟨w.heap.size,4,none⟩=some (.string a.val):=fun n=>by simpa using ((q n).1 0 a rfl).2.2.2.2
 have b0:∀n:Out W0,n.u.cell? ⟨w.heap.size+1,0,none⟩=some (.string b.row):=fun n=>by simpa using ((q n).2 0 b rfl).1
 have b1:∀n:Out W0,n.u.cell? ⟨w.heap.size+1,1,none⟩=some (.string b.fam):=fun n=>by simpa using ((q n).2 0 b rfl).2.1
 have b2:∀n:Out W0,n.u.cell? ⟨w.heap.size+1,2,none⟩=some (.string b.qual):=fun n=>by simpa using ((q n).2 0 b rfl).2.2.1
 have b3:∀n:Out W0,n.u.cell? ⟨w.heap.size+1,3,none⟩=some (.int .u64 b.ts):=fun n=>by simpa using ((q n).2 0 b rfl).2.2.2.1
 have b4:∀n:Out W0,n.u.cell? ⟨w.heap.size+1,4,none⟩=some (.string b.val):=fun n=>by simpa using ((q n).2 0 b rfl).2.2.2.2
 clear q HA;go_enter Tryz.func60,Tryz.ntmps60;go_upto_region 1 with fail;rw[←hW0];clear hW0 hz0;have inh:Nonempty (Out W0):=⟨⟨W0,Below.refl _ _⟩⟩;refine yAv (by kernel_rfl) (by kernel_rfl) ?_;repeat (go_big_quiet_step ((first|(go_at_call 59;exact Calls.out_of (yDr _ _))|(go_at_call 101;exact Calls.out_of (yPy (putE a) (putE b) _)))))
 refine wpQuiet_nil ?_;rintro w1 ⟨⟨wx,hb1⟩,rfl⟩;go_wp2_with fail;go_ret;exact⟨rfl,hb0.trans (hb1.mono hb0.size)⟩
def yH8 (P:Prop) (w:World) (e:Ending) (w':World):Prop:=∃r:Bool,e=.returned (.bool r)∧(r=true↔P)∧Below w.heap.size w w'
theorem yO8 (es:List Ent):yDv es 1:=fun i p e hi=>by omega
variable {L:List Ent}
theorem yN3 {i:Nat} {p c:Ent} (h:yC4 (L.map putE)) (hp:L[i]?=some p) (hc:L[i+1]?=some c):yAh (putE p) (putE c)= -1:=by have h1:=h.2 i (putE p) (putE c) (by rw[List.getElem?_map,hp];rfl) (by rw[List.getElem?_map,hc];rfl);rw[yLd]at h1;simpa using h1
theorem yK2 (g cap:Nat) (L:List Ent) (base:Nat) (w:World) (hC:OwnC w base g cap L) (hok:∀e∈L,e.ok) (hn:L.length≤1048576):
  Calls Tryz.prog 29 #[.slice (some ⟨g,0,none⟩) L.length cap] w (yH8 (yC4 (L.map putE)) w):=by
 have HC:Hid (OwnC w base g cap L∧∀e∈L,e.ok):=⟨hC,hok⟩;have hgl:=hC.lt.2;clear hC hok;by_cases hbig:10000<L.length
 ·have H:Hid (¬yC4 (L.map putE)):=fun h=>by have:=h.1.1;rw[List.length_map]at this;omega
  have z:(10000:Int)<(L.length:Int):=by omega
  go_enter Tryz.func29,Tryz.ntmps29;go_wp2_with fail;go_ret;exact⟨_,rfl,iffF H.out,Below.refl _ _⟩
 have z:¬(10000:Int)<(L.length:Int):=by omega
 go_enter Tryz.func29,Tryz.ntmps29;go_wp2_with fail;go_loopw[10] (fun iv wr=>∃(k:Nat),k≤L.length∧iv=.int .i64 (k:Int)∧(∀x∈L.take k,(putE x).vld=true)∧yDv (L.map putE) k∧Below w.heap.size w wr) (fun iv _=>L.length-(intOf iv).toNat);case atStart=>exact⟨0,Nat.zero_le _,rfl,by simp,fun i p e hi=>by omega,Below.refl _ _⟩
 case round=>
  obtain⟨k,hk,rfl,hv,hP,hb⟩:=hrel;have HV:Hid ((∀x∈L.take k,(putE x).vld=true)∧yDv (L.map putE) k):=⟨hv,hP⟩;have hs:=hb.size;clear hv hP;by_cases hlt:k<L.length
  ·obtain⟨c,hc⟩:∃c,L[k]?=some c:=⟨_,List.getElem?_eq_getElem hlt⟩;have HCc:Hid (L[k]?=some c∧c.ok):=⟨hc,HC.2 c (List.mem_of_getElem? hc)⟩;have HR:Hid (yBd wr g 0 L):=HC.1.at.below hb hgl;obtain⟨c0,c1,c2,c3,c4⟩:=HR.out k c hc;simp only[Nat.zero_add]at c0 c1 c2 c3 c4;have zk:(k:Int)<(L.length:Int):=by omega
   obtain⟨W1,hW1⟩:=qE (wr.alloc (Obj.cells #[.string c.row,.string c.fam,.string c.qual,.int .u64 c.ts,.string c.val] 55):World);have HW1:Hid (yBd W1 wr.heap.size 0 [c]∧yBd W1 g 0 L∧Below w.heap.size w W1∧W1.heap.size=wr.heap.size+1):=by
    have hba:Below wr.heap.size wr W1:=by rw[hW1];exact qB
    refine⟨by rw[hW1];exact yBw wr c,HR.below hba (by omega),hb.trans (hba.mono hs),by rw[hW1];simp⟩
   clear hc;go_upto_region 6 with fail;rw[←hW1];clear hW1 c0 c1 c2 c3 c4 HR;have hz1:=HW1.2.2.2;have q:∀n:Out W1,yBd n.u wr.heap.size 0 [c]:=fun n=>HW1.1.below n.out (by omega);have a0:∀n:Out W1,n.u.cell? ⟨wr.heap.size,0,none⟩=some (.string c.row):=fun n=>by simpa using ((q n) 0 c rfl).1
   have a1:∀n:Out W1,n.u.cell? ⟨wr.heap.size,1,none⟩=some (.string c.fam):=fun n=>by simpa using ((q n) 0 c rfl).2.1
   have a2:∀n:Out W1,n.u.cell? ⟨wr.heap.size,2,none⟩=some (.string c.qual):=fun n=>by simpa using ((q n) 0 c rfl).2.2.1
   have a3:∀n:Out W1,n.u.cell? ⟨wr.heap.size,3,none⟩=some (.int .u64 c.ts):=fun n=>by simpa using ((q n) 0 c rfl).2.2.2.1
   have a4:∀n:Out W1,n.u.cell? ⟨wr.heap.size,4,none⟩=some (.string c.val):=fun n=>by simpa using ((q n) 0 c rfl).2.2.2.2
   clear q hz1;have inh:Nonempty (Out W1):=⟨⟨W1,Below.refl _ _⟩⟩;obtain⟨bv,hbv⟩:=qE ((putE c).vld);have HVal:Hid (∀n:Out W1,Calls Tryz.prog 58 #[(putE c).v] n.u fun e w'=>e=.returned (.bool bv)∧Below n.u.heap.size n.u w'):=fun n=>by rw[hbv];exact yK0 _ _ _ _ _ _ n.u HCc.2.row HCc.2.fam HCc.2.qual HCc.2.val
   have HBv:Hid ((putE c).vld=bv):=hbv.symm;clear hbv;cases bv
   ·have HF:Hid (¬yC4 (L.map putE)):=fun h=>by have:=h.1.2 (putE c) (List.mem_map.2 ⟨c,List.mem_of_getElem? HCc.1,rfl⟩);rw[HBv.out]at this;cases this
    refine yAv (by kernel_rfl) (by kernel_rfl) ?_;repeat (go_big_quiet_step ((first|(go_at_call 59;exact Calls.out_of (yDr _ _))|(go_at_call 58;exact Calls.out_of (HVal.out _)))))
    exact zzQ96
   have HVN:Hid (∀x∈L.take (k+1),(putE x).vld=true):=by
    intro x hx;rw[List.take_add_one,HCc.1]at hx;rcases List.mem_append.1 hx with hx|hx
    ·exact HV.1 x hx
    ·simp at hx;subst hx;exact HBv.out
   by_cases hk0:k=0
   ·subst hk0;refine yAv (by kernel_rfl) (by kernel_rfl) ?_;repeat (go_big_quiet_step ((first|(go_at_call 59;exact Calls.out_of (yDr _ _))|(go_at_call 58;exact Calls.out_of (HVal.out _)))))
    refine wpQuiet_nil ?_;rintro w2 ⟨⟨wx,hb2⟩,rfl⟩;go_wp2_with fail;go_roundw;case rel=>exact⟨1,by omega,by go_num,HVN.out,yO8 _,HW1.2.2.1.trans (hb2.mono HW1.2.2.1.size)⟩
    case measure=>simp[intOf];omega
   obtain⟨m,rfl⟩:∃m,k=m+1:=⟨k-1,by omega⟩;obtain⟨p,hp⟩:∃p,L[m]?=some p:=⟨_,List.getElem?_eq_getElem (by omega)⟩;have HPp:Hid (L[m]?=some p):=hp;have q:∀n:Out W1,yBd n.u g 0 L:=fun n=>HW1.2.1.below n.out (by have:=HW1.2.2.2;omega);have p0:∀n:Out W1,n.u.cell? ⟨g,m*5,none⟩=some (.string p.row):=fun n=>by simpa using ((q n) m p hp).1
   have p1:∀n:Out W1,n.u.cell? ⟨g,m*5+1,none⟩=some (.string p.fam):=fun n=>by simpa using ((q n) m p hp).2.1
   have p2:∀n:Out W1,n.u.cell? ⟨g,m*5+2,none⟩=some (.string p.qual):=fun n=>by simpa using ((q n) m p hp).2.2.1
   have p3:∀n:Out W1,n.u.cell? ⟨g,m*5+3,none⟩=some (.int .u64 p.ts):=fun n=>by simpa using ((q n) m p hp).2.2.2.1
   have p4:∀n:Out W1,n.u.cell? ⟨g,m*5+4,none⟩=some (.string p.val):=fun n=>by simpa using ((q n) m p hp).2.2.2.2
   clear q hp;obtain⟨kc,hkc⟩:=qE (yAh (putE p) (putE c));have HCm:Hid (∀n:Out W1,Calls Tryz.prog 60 #[p.c,c.c] n.u fun e w'=>e=.returned (.int .i64 kc)∧Below n.u.heap.size n.u w'):=fun n=>by rw[hkc];exact yFr p c n.u
   have HKc:Hid (kc=yAh (putE p) (putE c)):=hkc;have zm:(m:Int)<(L.length:Int):=by omega
   have zm0:(0:Int)<(m:Int)+1:=by omega
   clear hkc;by_cases hneg:0≤kc
   ·have HF:Hid (¬yC4 (L.map putE)):=fun h=>by have:=yN3 h HPp.out HCc.1;rw[←HKc.out]at this;omega
    refine yAv (by kernel_rfl) (by kernel_rfl) ?_;repeat (go_big_quiet_step ((first|(go_at_call 59;exact Calls.out_of (yDr _ _))|(go_at_call 58;exact Calls.out_of (HVal.out _))|(go_at_call 60;exact Calls.out_of (HCm.out _)))))
    exact zzQ96
   ·have HPN:Hid (yDv (L.map putE) (m+1+1)):=by
     refine yFh HV.2 (p:=putE p) (e:=putE c) (by rw[List.getElem?_map,HPp.out];rfl) (by rw[List.getElem?_map,HCc.1];rfl) ?_;rw[yLd];rcases yCz (putE p) (putE c)with h|h|h
     ·rw[h];rfl
     ·rw[HKc.out,h]at hneg;omega
     ·rw[HKc.out,h]at hneg;omega
    refine yAv (by kernel_rfl) (by kernel_rfl) ?_;repeat (go_big_quiet_step ((first|(go_at_call 59;exact Calls.out_of (yDr _ _))|(go_at_call 58;exact Calls.out_of (HVal.out _))|(go_at_call 60;exact Calls.out_of (HCm.out _)))))
    refine wpQuiet_nil ?_;rintro w2 ⟨⟨wx,hb2⟩,rfl⟩;go_wp2_with fail;go_roundw;case rel=>exact⟨m+1+1,by omega,by go_num,HVN.out,HPN.out,HW1.2.2.1.trans (hb2.mono HW1.2.2.1.size)⟩
    case measure=>simp[intOf];omega
  ·have hkl:k=L.length:=by omega
   have HF:Hid (yC4 (L.map putE)):=by refine⟨⟨by rw[List.length_map];omega,fun e he=>?_⟩,yJk HV.2 (by rw[List.length_map];omega)⟩;obtain⟨x,hx,rfl⟩:=List.mem_map.1 he;exact HV.1 x (by rw[List.take_of_length_le (by omega)];exact hx)
   have zk:¬(k:Int)<(L.length:Int):=by omega
   clear hkl;go_wp2_with fail;go_ret;exact⟨_,rfl,iffT HF.out,hb⟩
theorem yKw (g cap:Nat) (L:List Ent) (base:Nat) (w:World) (hC:OwnC w base g cap L) (hok:∀e∈L,e.ok) (hn:L.length≤1048576):
  Calls Tryz.prog 24 #[.slice (some ⟨g,0,none⟩) L.length cap] w (yH8 (yC4 (L.map putE)) w):=by
 have HC:Hid (OwnC w base g cap L∧∀e∈L,e.ok):=⟨hC,hok⟩;clear hC hok;go_enter Tryz.func24,Tryz.ntmps24;go_wp2_with fail;refine(yT2 g cap L base w HC.1 hn).mono ?_;rintro e w1 ⟨g1,cp1,rfl,hO1,hb1⟩;have HO:Hid (OwnE w1 w.heap.size g1 cp1 (L.map putE)∧cp1≤maxLen∧L.length≤cp1):=by
  refine⟨hO1,?_⟩;rcases hO1.2 with⟨h0,_⟩|⟨g',cap',cur,hv,_,_,hn,hcap,_,_⟩
  ·cases h0
  ·simp only[Value.slice.injEq,Option.some.injEq,Addr.mk.injEq,and_true,true_and]at hv;obtain⟨rfl,rfl⟩:=hv;rw[List.length_map]at hn;exact⟨hcap,hn⟩
 have hl:L.length=(L.map putE).length:=(List.length_map ..).symm;have HV:Hid (Calls Tryz.prog 51 #[.agg #[.slice (some ⟨g1,0,none⟩) L.length cp1]] w1 fun e w'=>∃r:Bool,e=.returned (.bool r)∧(r=true↔yC4 (L.map putE))∧Below w1.heap.size w1 w'):=by show Calls _ _ _ _ _;have:=yHs g1 0 cp1 (L.map putE) w1 HO.1.at (fun e he=>by obtain⟨x,hx,rfl⟩:=List.mem_map.1 he;exact yZa (HC.2 x hx)) HO.1.lt.2 (by rw[List.length_map];exact HO.2.2) HO.2.1;rw[List.length_map]at this;exact this
 clear hO1 hl;go_wp2_with fail;refine HV.mono ?_;rintro e w2 ⟨r,rfl,hr,hb2⟩;have HR:Hid (r=true↔yC4 (L.map putE)):=hr;clear hr;go_wp2_with fail;go_ret;exact⟨r,rfl,HR.out,hb1.trans (hb2.mono hb1.size)⟩
variable {es:List Ent}
theorem yBd.flat {off:Nat} (h:yBd w b off es):∀(j:Nat) (u:Value),(yBp es)[j]?=some u→w.cell? ⟨b,off+j,none⟩=some u:=by
 intro j u hu;have hl:=(List.getElem?_eq_some_iff.1 hu).1;rw[yDg]at hl;have hk:j/5<es.length:=by omega
 obtain⟨e,he⟩:∃e,es[j/5]?=some e:=⟨_,List.getElem?_eq_getElem hk⟩;have h5:=yLr es (j/5) e he (j%5) (by omega);rw[show j/5*5+j%5=j by omega,hu]at h5;obtain⟨h0,h1,h2,h3,h4⟩:=h (j/5) e he;have hm:j%5<5:=by omega
 have hj:off+j=off+j/5*5+j%5:=by omega
 rw[hj];generalize j%5=r at h5 hm;match r,hm,h5 with
 |0,_,h5=>cases h5;exact h0
 |1,_,h5=>cases h5;exact h1
 |2,_,h5=>cases h5;exact h2
 |3,_,h5=>cases h5;exact h3
 |4,_,h5=>cases h5;exact h4
theorem yRb (es:List Ent):∀u∈yBp es,u.oneCell'=true:=by intro u hu;unfold yBp at hu;rw[List.mem_flatMap]at hu;obtain⟨e,_,h⟩:=hu;simp at h;rcases h with rfl|rfl|rfl|rfl|rfl<;>rfl
theorem yBa {ops:Array Oper} {rest:List Oper} {o:Oper} {a:Act} {Q:Exit→Act→World→Prop} (w:World) (hgd:o.guard=none) (s x:Operand)
  (ho:o.op=.call {callee:=.builtin .append,args:=#[s,x],argTypes:=#[28,28]})
  (base g cp n b off m cx:Nat) (fs es:List Ent) (hs:a.eval s=.slice (some ⟨g,0,none⟩) n cp) (hx:a.eval x=.slice (some ⟨b,off,none⟩) m cx) (hn:n=fs.length) (hm:m=es.length) (hO:OwnC w base g cp fs)
  (hc:yBd w b off es) (hlen:fs.length+es.length≤2^30) (hbase:base≤w.heap.size)
  (h:∀g' cp' w',OwnC w' base g' cp' (fs++es)→w.grownBy w' (some g)→wpList Tryz.prog ops Q rest (a.put o.dst (.slice (some ⟨g',0,none⟩) (n+m) cp')) w'):wpList Tryz.prog ops Q (o::rest) a w:=by
 obtain⟨i,hi,hz0,hz1,hz2⟩:=info_parts Tryz.infoCel;subst hn;subst hm;refine wpList_append_own w hgd s x 28 ho base 55 i _ 5 72 Tryz.underlying28 hi hz0 hz1 hz2 rfl (by decide) (.slice (some ⟨g,0,none⟩) fs.length cp) fs.length (yBp fs) hs hO ⟨b,off,none⟩ es.length cx (yBp es) hx (yDg es) ?_ (yRb es) ?_ ?_ hbase ?_
 ·intro j u hu;rw[Addr.add_mid];exact hc.flat j u hu
 ·unfold maxLen;omega
 ·omega
 ·intro v' w' hown hgr hnil;rw[←yEz]at hown;have hlen':(fs++es).length=fs.length+es.length:=by simp
  exact zzQ84
theorem yKc (es:List Ent):∀(f i:Nat),(yH0 es f i).length≤f
 |0,i=>Nat.le_refl _
 |f+1,i=>by
  unfold yH0
  split
  ·have:=yKc es f (rEnd es i)
   simp
   omega
  ·simp
theorem yQq (es:List Ent) (i:Nat):∀(f k:Nat),k≤es.length→yKx es i f k≤es.length
 |0,k,h=>h
 |f+1,k,h=>by
  unfold yKx
  split
  ·split
   ·exact yQq es i f (k+1) (by omega)
   ·exact h
  ·exact h
theorem yN9 (es:List Ent):∀(f i:Nat) (p:Nat×Nat),p∈yH0 es f i→p.1≤p.2∧p.2≤es.length
 |0,i,p,h=>by simp[yH0]at h
 |f+1,i,p,h=>by
  unfold yH0 at h
  split at h
  ·rename_i hi
   rcases List.mem_cons.1 h with rfl|h
   ·exact⟨Nat.le_of_lt (yT0 hi),yQq es i _ i (Nat.le_of_lt hi)⟩
   ·exact yN9 es f _ p h
  ·simp at h
theorem yMt {es:List Ent} {t:CT} (hS:Sub es es) (hl:es.length≤10000):∀(P:List (Nat×Nat)),(P.flatMap fun p=>mean t (segE es p)).length≤P.length*10000
 | []=>Nat.zero_le _
 |p::P=>by
  have ih:=yMt hS hl P (t:=t)
  have h1:=(yA1 t (yGy hS p)).len (yGy hS p).ord
  have h2:(segE es p).length≤es.length:=by unfold segE;rw[List.length_drop,List.length_take];omega
  simp only[List.flatMap_cons,List.length_append,List.length_cons]
  omega
structure MaJ (w:World) (b off cap:Nat) (es:List Ent) (t:CT) (A:List (Nat×Nat)) (gr cr g cp i:Nat) (wr:World):Prop where
 rows:yE1 wr w.heap.size gr cr (A.map (segV b off cap))
 own:OwnC wr w.heap.size g cp ((A.take i).flatMap fun p=>mean t (segE es p))
 below:Below w.heap.size w wr
theorem yKz {nb no nc:Nat} {off:Nat} (hW:Win w nb no nc xs) (hT:yCj xs t) (hsz:∀x∈xs,x.s.size≤maxLen) (h:CSl w b off cap es) (hS:Sub es es) (hl:es.length≤10000):
  Calls Tryz.prog 25 #[.slice (some ⟨nb,no,none⟩) xs.length nc,.slice (some ⟨b,off,none⟩) es.length cap] w fun e w'=>∃g cp,e=.returned (.slice (some ⟨g,0,none⟩) (meanAll t es).length cp)∧OwnC w' w.heap.size g cp (meanAll t es)∧Below w.heap.size w w':=by
 obtain⟨A,hA⟩:=qE (allC es 0);have hAl:A.length≤10000:=by rw[hA];exact Nat.le_trans (yKc es _ 0) (by omega)
 have HA:Hid (A=allC es 0∧A.length≤10000):=⟨hA,hAl⟩;have HMm:Hid (∀p∈A,p.1≤p.2∧p.2≤es.length):=fun p hp=>yN9 es _ 0 p (by rw[hA]at hp;exact hp);have HMA:Hid (meanAll t es=(A.take A.length).flatMap fun p=>mean t (segE es p)):=by show _=_;rw[List.take_length,hA];rfl
 have HMe:Hid (∀(wx:World) (rb ro rc:Nat) (fs:List Ent),Below w.heap.size w wx→CSl wx rb ro rc fs→Sub fs fs→fs.length≤10000→Calls Tryz.prog 54 #[.slice (some ⟨nb,no,none⟩) xs.length nc,.slice (some ⟨rb,ro,none⟩) fs.length rc] wx (MeP t fs wx)):=fun wx rb ro rc fs hx hC hs hl=>yQ5 xs.length wx nb no nc xs t rb ro rc fs (Nat.le_refl _) (hW.below hx) hT hsz hC hs hl;have HR:Hid (CSl w b off cap es∧Sub es es∧es.length≤10000):=⟨h,hS,hl⟩;obtain⟨W0,hW0⟩:=qE (w.alloc (Obj.cells #[] 55):World);have HO0:Hid (OwnC W0 w.heap.size w.heap.size 0 []∧Below w.heap.size w W0):=by rw[hW0];exact⟨yC7 w,qB⟩
 have HRw:Hid (Calls Tryz.prog 53 #[.slice (some ⟨b,off,none⟩) es.length cap] W0 fun e w'=>∃g cp,e=.returned (.slice (some ⟨g,0,none⟩) A.length cp)∧yE1 w' W0.heap.size g cp (A.map (segV b off cap))∧Below W0.heap.size W0 w'):=by rw[hA];exact yPl (h.below HO0.2) (by omega)
 obtain⟨N,hN⟩:=qE es.length;obtain⟨L,hL⟩:=qE xs.length;obtain⟨K,hK⟩:=qE A.length;have HKl:Hid (K=A.length):=hK;rw[←hN]at HRw⊢;rw[←hL]at HMe⊢;rw[←hK]at HRw hAl HMA;clear hW hT hsz h hS hl hA hN hL hK;go_enter Tryz.func25,Tryz.ntmps25;go_wp2_with fail;rw[←hW0];clear hW0;refine HRw.mono ?_;rintro e w1 ⟨gr,cr,rfl,hO1,hb1⟩;have HJ0:Hid (MaJ w b off cap es t A gr cr w.heap.size 0 0 w1):=by
  refine⟨?_,HO0.1.below hb1 HO0.1.lt.2,HO0.2.trans (hb1.mono HO0.2.size)⟩;have hz:=HO0.2.size;rcases hO1.2 with⟨q,_⟩|⟨g9,cap9,cur,hv,q1,q2⟩
  ·cases q
  ·exact⟨hO1.1,.inr ⟨g9,cap9,cur,hv,by omega,q2⟩⟩
 clear hO1 hb1 HRw HO0;go_wp2_with fail;go_loopw[5,7] (fun o iv wr=>∃(i g cp m:Nat),i≤K∧iv=.int .i64 (i:Int)∧o=.slice (some ⟨g,0,none⟩) m cp∧Hid (m=((A.take i).flatMap fun p=>mean t (segE es p)).length∧MaJ w b off cap es t A gr cr g cp i wr)) (fun _ iv _=>K-(intOf iv).toNat);case atStart=>exact⟨0,w.heap.size,0,0,Nat.zero_le _,rfl,rfl,rfl,HJ0.out⟩
 case round=>
  obtain⟨i,g,cp,m,hiK,rfl,rfl,HJ⟩:=hrel;by_cases hlt:i<K
  ·have zi:(i:Int)<(K:Int):=by omega
   obtain⟨⟨p1,p2⟩,hp⟩:∃p,A[i]?=some p:=⟨_,List.getElem?_eq_getElem (by have:=HKl.out;omega)⟩;have hpm:=HMm.out (p1,p2) (List.mem_of_getElem? hp);have HStep:Hid (((A.take (i+1)).flatMap fun p=>mean t (segE es p))=((A.take i).flatMap fun p=>mean t (segE es p))++mean t (segE es (p1,p2))):=by show _=_;rw[List.take_add_one,hp,Option.toList_some,List.flatMap_append];simp
   have hml:m≤100000000:=by rw[HJ.1];refine Nat.le_trans (yMt HR.2.1 HR.2.2 _) ?_;rw[List.length_take];have:=HA.2;omega
   have hgl:=HJ.2.own.lt;have hbz:=HJ.2.below.size;have c0:wr.cell? ⟨gr,i,none⟩=some (.slice (some ⟨b,off+p1*5,none⟩) (p2-p1) (cap-p1)):=HJ.2.rows.cell (by rw[List.getElem?_map,hp];rfl);have hseg:=yGy HR.2.1 (p1,p2);have hsl:(segE es (p1,p2)).length=p2-p1:=yQl hpm.2;have hml2:(mean t (segE es (p1,p2))).length≤10000:=by have h8:=(yA1 t hseg).len hseg.ord;have h9:=HR.2.2;rw[hsl]at h8;omega
   have HCall:Hid (Calls Tryz.prog 54 #[.slice (some ⟨nb,no,none⟩) L nc,.slice (some ⟨b,off+p1*5,none⟩) (p2-p1) (cap-p1)] wr (MeP t (segE es (p1,p2)) wr)):=by have h9:=HMe.out wr b (off+p1*5) (cap-p1) (segE es (p1,p2)) HJ.2.below ((HR.1.below HJ.2.below).seg hpm.1 hpm.2) hseg (by rw[hsl];have:=HR.2.2;omega);rw[hsl]at h9;exact h9
   obtain⟨ml,hmle⟩:=qE ((mean t (segE es (p1,p2))).length);have HMl:Hid (ml=(mean t (segE es (p1,p2))).length):=hmle;rw[←hmle]at hml2;clear hp hpm hseg hsl hmle;go_wp2_with fail;refine HCall.mono ?_;rintro e w3 ⟨g3,cp3,rfl,H3⟩;have HM3:Hid (MaJ w b off cap es t A gr cr g cp i w3):=by have hb3:=H3.2;exact⟨HJ.2.rows.below hb3,HJ.2.own.below hb3 hgl.2,HJ.2.below.trans (hb3.mono hbz)⟩
   have HKm:Hid (m=((A.take i).flatMap fun p=>mean t (segE es p)).length):=HJ.1;have hz3:=H3.2.size;rw[←HMl.out];clear c0 HJ;go_wp2_with (at_builtin;refine yBa _ rfl _ _ rfl w.heap.size g cp _ _ _ _ _ ((A.take i).flatMap fun p=>mean t (segE es p)) (mean t (segE es (p1,p2))) rfl rfl HKm.out HMl.out ?hO ?hc ?hl ?hb ?_);case hO=>exact HM3.own
   case hc=>exact H3.1.at
   case hl=>rw[←HKm.out,←HMl.out];omega
   case hb=>omega
   intro g' cp' w' hO' hgr;have HN:Hid (m+ml=((A.take (i+1)).flatMap fun p=>mean t (segE es p)).length∧MaJ w b off cap es t A gr cr g' cp' (i+1) w'):=by
    have hc':Chg (fun k=>k=g) w3 w':=Chg.of_grown hgr (fun k q=>by cases q;rfl);have hne:¬gr=g:=fun q=>yAo HM3.own HM3.rows (by decide) g rfl (by rw[←q];rfl);refine⟨by rw[HStep.out,List.length_append,←HKm.out,←HMl.out],?_,?_,?_⟩
    ·exact yAp HM3.rows hc' (fun k q=>by simp[Value.ownBlock]at q;subst q;exact hne)
    ·rw[HStep.out];exact hO'
    ·exact HM3.below.grown hgr HM3.below.size (fun j hj=>by cases hj;omega)
   clear hO' hgr;go_wp2_with fail;go_roundw;case rel=>exact⟨i+1,g',cp',m+ml,by omega,by go_num,rfl,HN.out⟩
   case measure=>go_light;simp[intOf];omega
  ·obtain rfl:i=K:=by omega
   have zi:¬(i:Int)<(i:Int):=by omega
   go_wp2_with fail;go_ret;refine⟨g,cp,?_,?_,HJ.2.below⟩
   ·rw[HMA.out,←HJ.1];rfl
   ·rw[HMA.out];exact HJ.2.own
def yEg (xs:List Nd) (es R:List Ent):Prop:=(¬(yCk xs∧yC4 es)∧R= [])∨((yCk xs∧yC4 es)∧∃t,yCj xs t∧R=meanAll t es)
theorem yJr {R T:List Ent} (h:yEg xs es R) (k:yEg xs es T):R=T:=by
 rcases h with⟨h1,rfl⟩|⟨h1,t,ht,rfl⟩
 ·rcases k with⟨_,rfl⟩|⟨k1,_⟩
  ·rfl
  ·exact absurd k1 h1
 ·rcases k with⟨k1,_⟩|⟨_,u,hu,rfl⟩
  ·exact absurd h1 k1
  ·rw[yFe ht hu]
theorem yHz (h:yCk xs):∃t,yCj xs t:=by obtain⟨_,s,hs,_⟩:=h;exact yWa (ShT.tree goodB hs)
theorem yLz (h:yC4 es) (hk:∀e∈es,e.kind=0) (hok:∀e∈es,e.ok):Sub es es:=⟨yO9 h,fun x hx=>⟨x,hx,yB1 x⟩,hk,hok⟩
theorem yQt (hk:∀e∈es,e.kind=0):es.map putE=es:=by
 conv=>rhs;rw[←List.map_id es]
 refine List.map_congr_left fun e he=>?_;have:=hk e he;cases e
 simp only[putE,id]at*;subst this;rfl
def MeaP (xs:List Nd) (es:List Ent) (w:World) (e:Ending) (w':World):Prop:=∃g cp R,e=.returned (.slice (some ⟨g,0,none⟩) R.length cp)∧Hid (yEg xs es R∧OwnC w' w.heap.size g cp R∧Below w.heap.size w w')
variable {cp:Nat}
theorem yFf {g o:Nat} (h:WdN w g o cp xs) (hok:∀e∈xs,e.ok) {bc gc cc:Nat} (hC:OwnC w bc gc cc es) (hoe:∀e∈es,e.ok) (hk:∀e∈es,e.kind=0) (hl:es.length≤1048576):
  Calls Tryz.prog 7 #[.agg #[.slice (some ⟨g,o,none⟩) xs.length cp],.slice (some ⟨gc,0,none⟩) es.length cc] w (MeaP xs es w):=by
 have HO:Hid (WdN w g o cp xs∧(∀e∈xs,e.ok)∧OwnC w bc gc cc es∧(∀e∈es,e.ok)∧(∀e∈es,e.kind=0)):=⟨h,hok,hC,hoe,hk⟩;obtain⟨n,hn⟩:=qE xs.length;obtain⟨N,hN⟩:=qE es.length;have HN:Hid (n=xs.length∧N=es.length):=⟨hn,hN⟩;obtain⟨W0,hW0⟩:=qE (w.alloc (Obj.cells #[.slice (some ⟨g,o,none⟩) n cp] 32):World);have hb0:Below w.heap.size w W0:=by rw[hW0];exact qB
 have HB0:Hid (yA W0 w.heap.size 32 1 w.heap.size [.slice (some ⟨g,o,none⟩) n cp]∧Below w.heap.size w W0):=⟨by rw[hW0];exact yAa w _ (Nat.le_refl _) rfl,hb0⟩;have HF:Hid (Calls Tryz.prog 19 #[.agg #[.slice (some ⟨g,o,none⟩) n cp]] W0 (yGp xs W0)):=by rw[hn];exact yEd (h.below hb0 h.lt) hok
 have HV:Hid (∀wx,Below w.heap.size w wx→Calls Tryz.prog 24 #[.slice (some ⟨gc,0,none⟩) N cc] wx (yH8 (yC4 es) wx)):=fun wx hx=>by have h9:=yKw gc cc es bc wx (hC.below hx hC.lt.2) hoe hl;rw[yQt hk]at h9;rw[hN];exact h9
 rw[←hn,←hN];rw[←hN]at hl;clear h hok hC hoe hk hn hN hb0;have c0:=HB0.1.cell (j:=0) rfl;go_enter Tryz.func7,Tryz.ntmps7;go_upto_region 1 with fail;rw[←hW0];clear hW0;go_wp2_with fail;refine HF.mono ?_;rintro e w1 ⟨r,rfl,hr,hb1⟩;have HR1:Hid ((r=true↔yCk xs)∧yA w1 w.heap.size 32 1 w.heap.size [.slice (some ⟨g,o,none⟩) n cp]∧Below w.heap.size w w1):=⟨hr,HB0.1.below hb1,HB0.2.trans (hb1.mono HB0.2.size)⟩;clear hr hb1 HF c0;cases r
 case false=>
  have HE:Hid (yEg xs es []∧OwnC (w1.alloc (Obj.cells #[] 55)) w.heap.size w1.heap.size 0 []∧Below w.heap.size w (w1.alloc (Obj.cells #[] 55))):=
   ⟨.inl ⟨fun q=>Bool.noConfusion (HR1.1.2 q.1),rfl⟩,(yC7 w1).mono HR1.2.2.size,HR1.2.2.alloc HR1.2.2.size _⟩
  go_wp2_with fail;go_ret;exact⟨w1.heap.size,0,[],rfl,HE.out⟩
 case true=>
 have HV1:Hid (Calls Tryz.prog 24 #[.slice (some ⟨gc,0,none⟩) N cc] w1 (yH8 (yC4 es) w1)):=HV.out w1 HR1.2.2;go_wp2_with fail;refine HV1.mono ?_;rintro e w2 ⟨r2,rfl,hr2,hb2⟩;have HR2:Hid ((r2=true↔yC4 es)∧yA w2 w.heap.size 32 1 w.heap.size [.slice (some ⟨g,o,none⟩) n cp]∧Below w.heap.size w w2):=⟨hr2,HR1.2.1.below hb2,HR1.2.2.trans (hb2.mono HR1.2.2.size)⟩;clear hr2 hb2 HV1;cases r2
 case false=>
  have HE:Hid (yEg xs es []∧OwnC (w2.alloc (Obj.cells #[] 55)) w.heap.size w2.heap.size 0 []∧Below w.heap.size w (w2.alloc (Obj.cells #[] 55))):=
   ⟨.inl ⟨fun q=>Bool.noConfusion (HR2.1.2 q.2),rfl⟩,(yC7 w2).mono HR2.2.2.size,HR2.2.2.alloc HR2.2.2.size _⟩
  go_wp2_with fail;go_ret;exact⟨w2.heap.size,0,[],rfl,HE.out⟩
 case true=>
 have hgf:yCk xs:=by have h9:=HR1.1;simpa using h9
 have hgr:yC4 es:=by have h9:=HR2.1;simpa using h9
 obtain⟨t,ht⟩:=yHz hgf;have HT:Hid (yEg xs es (meanAll t es)):=.inr ⟨⟨hgf,hgr⟩,t,ht,rfl⟩;have HA:Hid (Calls Tryz.prog 25 #[.slice (some ⟨g,o,none⟩) n cp,.slice (some ⟨gc,0,none⟩) N cc] w2 fun e w'=>∃g cp,e=.returned (.slice (some ⟨g,0,none⟩) (meanAll t es).length cp)∧OwnC w' w2.heap.size g cp (meanAll t es)∧Below w2.heap.size w2 w'):=by rw[HN.1,HN.2];have hNd:=HO.1.below HR2.2.2 HO.1.lt;have hCe:=HO.2.2.1.below HR2.2.2 HO.2.2.1.lt.2;exact yKz ⟨hNd.at,hNd.lt,hNd.caps.1,by have h8:=hNd.caps.2;unfold maxLen at h8;omega,by have h8:=hgf.1;omega⟩ ht (fun x hx=>(HO.2.1 x hx).s) hCe.sl (yLz hgr HO.2.2.2.2 HO.2.2.2.1) hgr.1.1
 have c0:=HR2.2.1.cell (j:=0) rfl;clear hgf hgr ht;go_wp2_with fail;refine HA.mono ?_;rintro e w3 ⟨g3,cp3,rfl,hO3,hb3⟩;have HE:Hid (yEg xs es (meanAll t es)∧OwnC w3 w.heap.size g3 cp3 (meanAll t es)∧Below w.heap.size w w3):=⟨HT.out,hO3.mono HR2.2.2.size,HR2.2.2.trans (hb3.mono HR2.2.2.size)⟩;clear hO3 hb3;go_wp2_with fail;go_ret;exact⟨g3,cp3,meanAll t es,rfl,HE.out⟩
variable {T:Type}
theorem TrV.beside {V:Nd→List T→T} {ss:List T} (h:TrV V ss xs) {ts:List T} {ys:List Nd} (k:TrV V ts ys):TrV V (ss++ts) (xs++ys):=by
 induction k with
 |nil=>simpa using h
 | @snoc ts os ys n ho k ih=>
   rw[←List.append_assoc,←List.append_assoc];refine .snoc n ho ?_;rw[List.append_assoc];exact ih
variable {n:Nd}
theorem TrV.node2 {V:Nd→List T→T} {a b:T} (hn:yAk n.kind=2) (ha:TrV V [a] ka) (hb:TrV V [b] kb):TrV V [V n [a,b]] (ka++kb++ [n]):=TrV.snoc (ss:= []) (os:= [a,b]) n hn.symm (ha.beside hb)
theorem TrV.node3 {V:Nd→List T→T} {a b c:T} {kc:List Nd} (hn:yAk n.kind=3) (ha:TrV V [a] ka) (hb:TrV V [b] kb) (hc:TrV V [c] kc):TrV V [V n [a,b,c]] (ka++kb++kc++ [n]):=TrV.snoc (ss:= []) (os:= [a,b,c]) n hn.symm ((ha.beside hb).beside hc)
theorem TrV.node0 {V:Nd→List T→T} (hn:yAk n.kind=0):TrV V [V n []] [n]:=TrV.snoc (ss:= []) (os:= []) (xs:= []) n hn.symm .nil
variable {k:Int}
theorem yIl (h:k=14∨k=15):yAk k=2:=by unfold yAk;rw[if_pos h]
theorem yRi (h:k=16):yAk k=3:=by unfold yAk;rw[if_neg (by omega),if_pos h]
theorem yTg {ss:List yAx} (h:TrV (yBc goodB) ss xs):ShT goodB ss xs:=by
 induction h with
 |nil=>exact .nil
 |snoc n ho _ ih=>exact .snoc n ho ih
noncomputable def shp:CT→yAx
 | .leaf n=>yBc goodB n []
 | .chain n a b=>yBc goodB n [shp a,shp b]
 | .inter n a b=>yBc goodB n [shp a,shp b]
 | .cond n p a b=>yBc goodB n [shp p,shp a,shp b]
theorem yC6:∀{t:CT} {xs:List Nd},yCj xs t→TrV (yBc goodB) [shp t] xs
 | .leaf _,_,h=>by
   cases h.part with
   |leaf n hn=>exact TrV.node0 hn
 | .chain _ _ _,_,h=>by
   cases h.part with
   |chain n hn ha hb=>exact TrV.node2 (yIl (.inl hn)) (yC6 ha) (yC6 hb)
 | .inter _ _ _,_,h=>by
   cases h.part with
   |inter n hn ha hb=>exact TrV.node2 (yIl (.inr hn)) (yC6 ha) (yC6 hb)
 | .cond _ _ _ _,_,h=>by
   cases h.part with
   |cond n hn hp ha hb=>exact TrV.node3 (yRi hn) (yC6 hp) (yC6 ha) (yC6 hb)
def lvN (op:Int) (i:Nat) (s:yAx):Nat:=s.nest+if yBs op i s.kind then 1 else 0
def yBz (s' s:yAx):Prop:=∀op i,lvN op i s'≤lvN op i s
theorem yP (s:yAx):yBz s s:=fun _ _=>Nat.le_refl _
theorem yBz.trans {a b c:yAx} (h:yBz a b) (k:yBz b c):yBz a c:=fun op i=>Nat.le_trans (h op i) (k op i)
theorem yBz.nest {s' s:yAx} (h:yBz s' s):s'.nest≤s.nest:=by
 have h0:=h 15 0;have hl:∀k,yBs 15 0 k=false:=fun k=>by
  have hs:¬yB0 k<1:=by unfold yB0;split<;>(try split)<;>omega
  have h15:yB0 15=1:=rfl;simp[yBs,h15,hs]
 unfold lvN at h0;rw[hl,hl]at h0;simpa using h0
theorem yIe (op:Int):∀(os os':List yAx) (i a a':Nat),a≤a'→os.length=os'.length→(∀(j:Nat) (o o':yAx),os[j]?=some o→os'[j]?=some o'→yBz o o')→yAn op i a os≤yAn op i a' os'
 | [],[],i,a,a',h,_,_=>h
 |o::os,o'::os',i,a,a',h,hl,hd=>by
  unfold yAn
  refine yIe op os os' (i+1) _ _ ?_ (by simpa using hl) (fun j x x' h1 h2=>hd (j+1) x x' (by simpa using h1) (by simpa using h2))
  have:=hd 0 o o' rfl rfl op i
  unfold lvN at this
  omega
 | [],_::_,_,_,_,_,hl,_=>by simp at hl
 |_::_,[],_,_,_,_,hl,_=>by simp at hl
theorem yJp (op:Int):∀(os:List yAx) (i a:Nat),a≤yAn op i a os
 | [],_,_=>Nat.le_refl _
 |o::os,i,a=>by
  unfold yAn
  exact Nat.le_trans (Nat.le_max_left _ _) (yJp op os (i+1) _)
theorem yIf (op:Int):∀(os:List yAx) (i a j:Nat) (o:yAx),os[j]?=some o→lvN op (i+j) o≤yAn op i a os
 | [],_,_,j,o,h=>by simp at h
 |x::os,i,a,0,o,h=>by
  simp at h
  subst h
  unfold yAn lvN
  exact Nat.le_trans (Nat.le_max_right _ _) (yJp op os (i+1) _)
 |x::os,i,a,j+1,o,h=>by
  unfold yAn
  have:=yIf op os (i+1) (max a (x.nest+if yBs op i x.kind then 1 else 0)) j o (by simpa using h)
  rw[show i+1+j=i+(j+1)by omega]at this
  exact this
theorem yFw (n:Nd) (os:List yAx) (j:Nat) (o:yAx) (h:os[j]?=some o):yBz o (yBc goodB n os):=by
 intro op i;have h1:=yIf n.kind os 0 0 j o h;rw[Nat.zero_add]at h1;show o.nest+_≤yAn n.kind 0 0 os+(if yBs op i n.kind then 1 else 0);unfold lvN at h1;by_cases h2:yBs op i o.kind=true
 ·by_cases h3:yBs op i n.kind=true
  ·rw[if_pos h2,if_pos h3];omega
  ·have h4:yBs n.kind j o.kind=true:=by
    unfold yBs at h2 h3⊢;simp only[Bool.or_eq_true,decide_eq_true_eq,not_or]at h2 h3⊢;refine .inr ?_;have h5:=h2.resolve_left h3.1;have h6:=h3.2;split at h5
    ·rw[if_pos (by assumption)]at h6;simp only[decide_eq_true_eq]at h5 h6;split<;>simp only[decide_eq_true_eq]<;>omega
    ·rw[if_neg (by assumption)]at h6;simp only[decide_eq_true_eq]at h5 h6;split<;>simp only[decide_eq_true_eq]<;>omega
   rw[if_pos h2];rw[if_pos h4]at h1;omega
 ·rw[if_neg h2];omega
theorem yJg (n:Nd) (os os':List yAx) (hl:os.length=os'.length) (hd:∀(j:Nat) (o o':yAx),os[j]?=some o→os'[j]?=some o'→yBz o o'):yBz (yBc goodB n os) (yBc goodB n os'):=by intro op i;have:=yIe n.kind os os' 0 0 0 (Nat.le_refl _) hl hd;show yAn n.kind 0 0 os+_≤yAn n.kind 0 0 os'+_;have e:(yBc goodB n os).kind=(yBc goodB n os').kind:=rfl;rw[e];omega
theorem yNq (n:Nd) (h:n.kind=1):∀(cs pre:List Ent),leafG n pre cs=cs
 | [],_=>rfl
 |c::cs,pre=>by
  have hk:keepB n pre c=true:=by unfold keepB tstB;simp[h]
  have hs:yBb n c=c:=by unfold yBb;rw[if_neg (by omega)]
  unfold leafG
  rw[hk,if_pos rfl,hs,yNq n h cs]
theorem yLh (n:Nd) (h:n.kind=2):∀(cs pre:List Ent),leafG n pre cs= []
 | [],_=>rfl
 |c::cs,pre=>by
  have hk:keepB n pre c=false:=by unfold keepB tstB;simp[h]
  unfold leafG
  rw[hk]
  simp only[Bool.false_eq_true,if_false]
  exact yLh n h cs _
theorem yG7 (n:Nd) (h:n.kind=3):∀(cs pre:List Ent),leafG n pre cs=cs.map fun c=>{c with val:=⟨#[]⟩}
 | [],_=>rfl
 |c::cs,pre=>by
  have hk:keepB n pre c=true:=by unfold keepB tstB;simp[h]
  have hs:yBb n c={c with val:=⟨#[]⟩}:=by unfold yBb;rw[if_pos h]
  unfold leafG
  rw[hk,if_pos rfl,hs,yG7 n h cs]
  rfl
theorem yYu (b:List Ent) (h:Ord b):uniM [] b=b:=by obtain⟨h1,h2⟩:=yFc (a:= []) List.Pairwise.nil h;exact yJl h1 h fun x=>by rw[h2];simp
theorem yV9 (a:List Ent) (h:Ord a):uniM a []=a:=by obtain⟨h1,h2⟩:=yFc (b:= []) h List.Pairwise.nil;exact yJl h1 h fun x=>by rw[h2];simp
theorem yXx {a b:List Ent} (ha:Ord a) (hb:Ord b) (h:∀x∈b,∃y∈a,yAh x y=0):uniM a b=a:=by
 obtain⟨h1,h2⟩:=yFc ha hb;refine yJl h1 ha fun x=>?_;rw[h2];constructor
 ·rintro(q|⟨q,z⟩)
  ·exact q
  ·obtain⟨y,hy,hk⟩:=h x q;exact absurd hk (z y hy)
 ·exact .inl
theorem yDe:∀t:CT,mean t []= []
 | .leaf n=>rfl
 | .chain _ a b=>by unfold mean;rw[yDe a,yDe b]
 | .inter _ a b=>by unfold mean;rw[yDe a,yDe b];rfl
 | .cond _ p a b=>by unfold mean;rw[yDe p,yDe b];rfl
structure Nrm (t:CT) (y:List Nd) (u:CT):Prop where
 tree:yCj y u
 own:yGo y y
 deep:yBz (shp u) (shp t)
 same:∀row,Sub row row→mean u row=mean t row
variable {y:List Nd} {u:CT}
theorem yMp (h:yCj y u) (hk:isK y k) (h0:k=1∨k=2∨k=3):∃n,u=.leaf n∧n.kind=k:=by
 obtain⟨n,rfl,hn⟩:=hk;have ha:yAk n.kind=0:=by unfold yAk;rw[if_neg (by omega),if_neg (by omega)]
 exact⟨n,yFe h (TrV.node0 ha),hn⟩
variable {row:List Ent}
theorem Nrm.all (h:Nrm t y u) (hk:isK y 1) (hS:Sub row row):mean t row=row:=by obtain⟨n,rfl,hn⟩:=yMp h.tree hk (.inl rfl);rw[←h.same row hS];exact yNq n hn row []
theorem Nrm.non (h:Nrm t y u) (hk:isK y 2) (hS:Sub row row):mean t row= []:=by obtain⟨n,rfl,hn⟩:=yMp h.tree hk (.inr (.inl rfl));rw[←h.same row hS];exact yLh n hn row []
theorem Nrm.strip (h:Nrm t y u) (hk:isK y 3) (hS:Sub row row):mean t row=row.map fun c=>{c with val:=⟨#[]⟩}:=by obtain⟨n,rfl,hn⟩:=yMp h.tree hk (.inr (.inr rfl));rw[←h.same row hS];exact yG7 n hn row []
theorem Nrm.up {s:CT} (h:Nrm t y u) (hd:yBz (shp t) (shp s)) (hm:∀row,Sub row row→mean t row=mean s row):Nrm s y u:=⟨h.tree,h.own,h.deep.trans hd,fun row hS=>(h.same row hS).trans (hm row hS)⟩
theorem kid2 (n:Nd) (a b:yAx):yBz a (yBc goodB n [a,b])∧yBz b (yBc goodB n [a,b]):=⟨yFw n _ 0 a rfl,yFw n _ 1 b rfl⟩
theorem kid3 (n:Nd) (p a b:yAx):yBz a (yBc goodB n [p,a,b])∧yBz b (yBc goodB n [p,a,b]):=⟨yFw n _ 1 a rfl,yFw n _ 2 b rfl⟩
theorem deep2 (n:Nd) {a b a' b':yAx} (ha:yBz a' a) (hb:yBz b' b):yBz (yBc goodB n [a',b']) (yBc goodB n [a,b]):=yJg n _ _ rfl fun j o o' h1 h2=>by
 match j,h1,h2 with
 |0,h1,h2=>cases h1;cases h2;exact ha
 |1,h1,h2=>cases h1;cases h2;exact hb
 |j+2,h1,h2=>simp at h1
theorem deep3 (n:Nd) {p a b p' a' b':yAx} (hp:yBz p' p) (ha:yBz a' a) (hb:yBz b' b):yBz (yBc goodB n [p',a',b']) (yBc goodB n [p,a,b]):=yJg n _ _ rfl fun j o o' h1 h2=>by
 match j,h1,h2 with
 |0,h1,h2=>cases h1;cases h2;exact hp
 |1,h1,h2=>cases h1;cases h2;exact ha
 |2,h1,h2=>cases h1;cases h2;exact hb
 |j+3,h1,h2=>simp at h1
variable {a b ua:CT} {ya yb:List Nd}
theorem yUj (n:Nd) (hn:n.kind=14) {ub:CT} (ha:Nrm a ya ua) (hb:Nrm b yb ub):∃u,Nrm (.chain n a b) (normOf n [ya,yb]) u:=by
 have hkid:=kid2 n (shp a) (shp b);have hmb:∀row,Sub row row→Sub (mean a row) (mean a row):=fun row hS=>(yA1 a hS).self;by_cases h1:isK ya 1∨isK yb 2
 ·have e:normOf n [ya,yb]=yb:=by unfold normOf;simp only;rw[if_pos hn,if_pos h1]
  rw[e];refine⟨ub,hb.up hkid.2 fun row hS=>?_⟩;show _=mean b (mean a row);rcases h1 with h1|h1
  ·rw[ha.all h1 hS]
  ·rw[hb.non h1 hS,hb.non h1 (hmb row hS)]
 ·by_cases h2:isK yb 1∨isK ya 2∨(isK ya 3∧isK yb 3)
  ·have e:normOf n [ya,yb]=ya:=by unfold normOf;simp only;rw[if_pos hn,if_neg h1,if_pos h2]
   rw[e];refine⟨ua,ha.up hkid.1 fun row hS=>?_⟩;show _=mean b (mean a row);rcases h2 with h2|h2|h2
   ·rw[hb.all h2 (hmb row hS)]
   ·rw[ha.non h2 hS,yDe]
   ·rw[hb.strip h2.2 (hmb row hS),ha.strip h2.1 hS,List.map_map];rfl
  ·have e:normOf n [ya,yb]=ya++yb++ [n]:=by unfold normOf;simp only;rw[if_pos hn,if_neg h1,if_neg h2]
   rw[e];refine⟨.chain n ua ub,?_,?_,deep2 n ha.deep hb.deep,fun row hS=>?_⟩
   ·have h9:=TrV.node2 (V:=ctV) (yIl (.inl hn)) ha.tree hb.tree;have e1:ctV n [ua,ub]=.chain n ua ub:=if_pos hn;rw[e1]at h9;exact h9
   ·have h9:=TrV.node2 (V:=normOf) (yIl (.inl hn)) ha.own hb.own;rw[e]at h9;exact h9
   ·show mean ub (mean ua row)=mean b (mean a row);rw[ha.same row hS,hb.same _ (hmb row hS)]
theorem yUi (n:Nd) (hn:n.kind=15) {ub:CT} (ha:Nrm a ya ua) (hb:Nrm b yb ub):∃u,Nrm (.inter n a b) (normOf n [ya,yb]) u:=by
 have hn':¬n.kind=14:=by omega
 have hkid:=kid2 n (shp a) (shp b);by_cases h1:isK ya 2
 ·have e:normOf n [ya,yb]=yb:=by unfold normOf;simp only;rw[if_neg hn',if_pos h1]
  rw[e];refine⟨ub,hb.up hkid.2 fun row hS=>?_⟩;show _=uniM (mean a row) (mean b row);rw[ha.non h1 hS,yYu _ (yA1 b hS).ord]
 ·by_cases h2:isK yb 2∨isK ya 1∨ya=yb
  ·have e:normOf n [ya,yb]=ya:=by unfold normOf;simp only;rw[if_neg hn',if_neg h1,if_pos h2]
   rw[e];refine⟨ua,ha.up hkid.1 fun row hS=>?_⟩;show _=uniM (mean a row) (mean b row);rcases h2 with h2|h2|h2
   ·rw[hb.non h2 hS,yV9 _ (yA1 a hS).ord]
   ·rw[ha.all h2 hS,yXx hS.ord (yA1 b hS).ord (yA1 b hS).key]
   ·have hu:ua=ub:=yFe ha.tree (by rw[h2];exact hb.tree);have hab:mean b row=mean a row:=by rw[←hb.same row hS,←ha.same row hS,hu]
    rw[hab,yXx (yA1 a hS).ord (yA1 a hS).ord fun x hx=>⟨x,hx,yB1 x⟩]
  ·have e:normOf n [ya,yb]=ya++yb++ [n]:=by unfold normOf;simp only;rw[if_neg hn',if_neg h1,if_neg h2]
   rw[e];refine⟨.inter n ua ub,?_,?_,deep2 n ha.deep hb.deep,fun row hS=>?_⟩
   ·have h9:=TrV.node2 (V:=ctV) (yIl (.inr hn)) ha.tree hb.tree;have e1:ctV n [ua,ub]=.inter n ua ub:=if_neg hn';rw[e1]at h9;exact h9
   ·have h9:=TrV.node2 (V:=normOf) (yIl (.inr hn)) ha.own hb.own;rw[e]at h9;exact h9
   ·show uniM (mean ua row) (mean ub row)=uniM (mean a row) (mean b row);rw[ha.same row hS,hb.same row hS]
theorem yWt (n:Nd) (hn:n.kind=16) {p up ub:CT} {yp:List Nd} (hp:Nrm p yp up) (ha:Nrm a ya ua) (hb:Nrm b yb ub):∃u,Nrm (.cond n p a b) (normOf n [yp,ya,yb]) u:=by
 have hkid:=kid3 n (shp p) (shp a) (shp b);by_cases h1:isK yp 1
 ·have e:normOf n [yp,ya,yb]=ya:=by unfold normOf;simp only;rw[if_pos h1]
  rw[e];refine⟨ua,ha.up hkid.1 fun row hS=>?_⟩;show _=if mean p row= []then mean b row else mean a row
  rw[hp.all h1 hS];by_cases h0:row= []
  ·rw[if_pos h0,h0,yDe,yDe]
  ·rw[if_neg h0]
 ·by_cases h2:isK yp 2
  ·have e:normOf n [yp,ya,yb]=yb:=by unfold normOf;simp only;rw[if_neg h1,if_pos h2]
   rw[e];refine⟨ub,hb.up hkid.2 fun row hS=>?_⟩;show _=if mean p row= []then mean b row else mean a row
   rw[if_pos (hp.non h2 hS)]
  ·by_cases h3:ya=yb
   ·have e:normOf n [yp,ya,yb]=ya:=by unfold normOf;simp only;rw[if_neg h1,if_neg h2,if_pos h3]
    rw[e];refine⟨ua,ha.up hkid.1 fun row hS=>?_⟩;have hu:ua=ub:=yFe ha.tree (by rw[h3];exact hb.tree);have hab:mean b row=mean a row:=by rw[←hb.same row hS,←ha.same row hS,hu]
    show _=if mean p row= []then mean b row else mean a row
    rw[hab];split<;>rfl
   ·have e:normOf n [yp,ya,yb]=yp++ya++yb++ [n]:=by unfold normOf;simp only;rw[if_neg h1,if_neg h2,if_neg h3]
    rw[e];refine⟨.cond n up ua ub,?_,?_,deep3 n hp.deep ha.deep hb.deep,fun row hS=>?_⟩
    ·exact TrV.node3 (V:=ctV) (yRi hn) hp.tree ha.tree hb.tree
    ·have h9:=TrV.node3 (V:=normOf) (yRi hn) hp.own ha.own hb.own;rw[e]at h9;exact h9
    ·show(if mean up row= []then mean ub row else mean ua row)=if mean p row= []then mean b row else mean a row
     rw[hp.same row hS,ha.same row hS,hb.same row hS]
theorem yFi:∀{t:CT} {xs:List Nd},yCj xs t→∃y u,yGo xs y∧Nrm t y u
 | .leaf n,_,h=>by
   cases h.part with
   |leaf _ hn=>
    have h0:yGo [n] [n]:=TrV.node0 (V:=normOf) hn
    exact⟨[n],.leaf n,h0,h,h0,yP _,fun _ _=>rfl⟩
 | .chain n _ _,_,h=>by
   cases h.part with
   |chain _ hn ha hb=>
    obtain⟨ya,ua,na,ra⟩:=yFi ha
    obtain⟨yb,ub,nb,rb⟩:=yFi hb
    obtain⟨u,hu⟩:=yUj n hn ra rb
    exact⟨_,u,TrV.node2 (yIl (.inl hn)) na nb,hu⟩
 | .inter n _ _,_,h=>by
   cases h.part with
   |inter _ hn ha hb=>
    obtain⟨ya,ua,na,ra⟩:=yFi ha
    obtain⟨yb,ub,nb,rb⟩:=yFi hb
    obtain⟨u,hu⟩:=yUi n hn ra rb
    exact⟨_,u,TrV.node2 (yIl (.inr hn)) na nb,hu⟩
 | .cond n _ _ _,_,h=>by
   cases h.part with
   |cond _ hn hp ha hb=>
    obtain⟨yp,up,np,rp⟩:=yFi hp
    obtain⟨ya,ua,na,ra⟩:=yFi ha
    obtain⟨yb,ub,nb,rb⟩:=yFi hb
    obtain⟨u,hu⟩:=yWt n hn rp ra rb
    exact⟨_,u,TrV.node3 (yRi hn) np na nb,hu⟩
theorem yUl (h:yCk xs) (hy:yGo xs y):yCk y∧y.length≤xs.length∧yGo y y∧∀es R,(∀e∈es,e.kind=0)→(∀e∈es,e.ok)→yEg xs es R→yEg y es R:=by
 obtain⟨t,ht⟩:=yHz h;obtain⟨y',u,hy',hN⟩:=yFi ht;obtain rfl:y=y':=yJm hy hy';have hm:=yI8 xs.length (Nat.le_refl _) hy;have hg:yCk y:=by
  refine⟨Nat.le_trans hm.2 h.1,shp u,yTg (yC6 hN.tree),?_,?_⟩
  ·have h9:=ShT.valid goodB (yTg (yC6 hN.tree));have h10:y.all goodB=true:=List.all_eq_true.2 fun e he=>(yHe e).2 (yHd h e (hm.1 e he));rw[h10]at h9;simpa using h9
  ·obtain⟨_,s,hs,_,hn⟩:=h;obtain rfl:s=shp t:=yTs hs (yTg (yC6 ht));exact Nat.le_trans hN.deep.nest hn
 refine⟨hg,hm.2,hN.own,fun es R hk hok hR=>?_⟩;rcases hR with⟨h1,rfl⟩|⟨h1,t',ht',rfl⟩
 ·exact .inl ⟨fun q=>h1 ⟨h,q.2⟩,rfl⟩
 ·obtain rfl:t=t':=yFe ht ht';refine .inr ⟨⟨hg,h1.2⟩,u,hN.tree,?_⟩;have hS:=yLz h1.2 hk hok;unfold meanAll;congr 1;funext p;exact(hN.same _ (yGy hS p)).symm
section
attribute [local go_sem] Oper.semAt_some
variable {mp n:Nat} {E:Nat→PS} {en:PS}
theorem StI.mono (h:StI w mp n E en) (hm:n≤m):StI w mp m E en:=by obtain⟨D,h1,h2⟩:=h;exact⟨D,h1.mono hm,h2⟩
variable {D:DataW Value}
theorem StD.tight (h:StD w mp n D E en):StD w mp (Maps.size D) D E en:=by obtain⟨⟨es,c,h1,h2,h3,h4⟩,hk⟩:=h;refine⟨⟨es,c,h1,h2,?_,h4⟩,hk⟩;rw[h4];simp[Maps.size,length_sorted]
theorem StD.clear (h:StD w mp n D E en):∃w',(∀ty,(Builtin.clear_ #[176] ty #[.map (some mp)]).run Tryz.prog w=.ok (.tuple #[]) w')∧StD w' mp 0 (.map []) E en∧Chg (fun k=>k=mp) w w':=by
 obtain⟨⟨es,c,h1,h2,h3,h4⟩,hk⟩:=h;have hl:=(Array.getElem?_eq_some_iff.1 h1).1;refine⟨{w with heap:=w.heap.setIfInBounds mp (.map #[] c)},fun ty=>?_,⟨⟨#[],c,?_,⟨by simp,MapKept.stamped_empty c,by simp⟩,Nat.le_refl _,rfl⟩,fun S=>.inl rfl⟩,⟨rfl,rfl,rfl,?_,fun k hk hn=>?_⟩⟩
 ·simp[Builtin.clear_,run_underlying Tryz.underlying176,MapKept.run_getObj_map h1,MapKept.run_setObj_map _ h1,Result.andThen]
 ·simp[hl]
 ·simp
 ·show(w.heap.setIfInBounds mp _)[k]?=_;rw[Array.getElem?_setIfInBounds_ne (fun q=>hn q.symm)]
def StQ (base M:Nat) (T:Nat→PS) (G cp a:Nat) (E:Nat→PS) (en:PS) (mp:Nat) (S:PS) (w:World) (e:Ending) (w':World):Prop:=
 e=.returned (stV (ahd E S) (acc en S))∧Hid (MtrI w' base M T G cp a E en mp∧StI w' mp 1000 E en∧Chg (fun k=>k=mp) w w')
structure RaJ (w:World) (base M:Nat) (T:Nat→PS) (G cp a:Nat) (E:Nat→PS) (en:PS) (mp n:Nat) (D:DataW Value) (S:PS) (b7 k:Nat) (W4 W:World):Prop where
 st:StB w W base M T G cp a E en mp n D S
 made:yA W w.heap.size 188 5 b7 (stL (ahdT E S k) (acc en S))
 low:Chg (fun k=>k=mp) w W
 size:W4.heap.size≤W.heap.size
variable {X:World} {base M G a:Nat} {T:Nat→PS}
theorem StB.chgM {X':World} {n':Nat} {D':DataW Value} {S:PS} (h:StB w X base M T G cp a E en mp n D S) (hc:Chg (fun k=>k=mp) X X') (hm:StD X' mp n' D' E en) (hbm:base≤mp):StB w X' base M T G cp a E en mp n' D' S:=
 ⟨h.mtr.chg hc (yC9 h.map h.mtr.box) (fun q=>h.map.ne h.mtr.row q.symm) (fun k q=>by omega),h.ptr.chg hc (yC9 h.map h.ptr),h.set.chg hc (yC9 h.map h.set),h.ans.chg hc (yC9 h.map h.ans),hm⟩
theorem yTo (S:PS) (w:World) (h:MtrI w base M T G cp a E en mp) (hm:StD w mp n D E en) (hh:Maps.has D (psK S)=false) (hS:∀p,S p=true→p<a) (ha:a≤256) (hbm:base≤mp):Calls Tryz.prog 138 #[.pointer (some ⟨M,0,none⟩),psV S] w (StQ base M T G cp a E en mp S w):=by
 obtain⟨W0,hW0⟩:=qE (((w.alloc (.cells #[.pointer (some ⟨M,0,none⟩)] 109)).alloc (.cells (psL S).toArray 178)).alloc (.cells z5 188):World);have HW0:Hid (StB w W0 base M T G cp a E en mp n D S∧Below w.heap.size w W0):=by rw[hW0];exact yQg S w h hm
 have HH:Hid (Maps.has D (psK S)=false):=hh;have HLo:Hid (base≤w.heap.size):=by show _≤_;have:=h.ltM;omega
 have HS:Hid (∀p,S p=true→p<a):=hS;have HLp:Hid (base≤mp):=hbm;clear h hm hh hS;refine(callsIn_wide (n:=9)).1 ?_;refine callsIn_of_wp_marks Tryz.func138 rfl trivial ?_ rfl;simp only[Tryz.ntmps138,List.size_toArray,List.length_cons,List.length_nil,Nat.reduceAdd,Nat.reduceSub,Array.replicate_succ,Array.replicate_zero,List.push_toArray,List.append_toArray,List.nil_append,List.cons_append];gi_wp2;have hW0':=hW0;simp only[psL,z5]at hW0';rw[←hW0'];clear hW0 hW0';have hSB:∀X,StB w X base M T G cp a E en mp n D S→(X.cell? ⟨w.heap.size,0,none⟩=some (.pointer (some ⟨M,0,none⟩))∧X.cell? ⟨M,1029,none⟩=some (.map (some mp))∧X.cell? ⟨w.heap.size+1,0,none⟩=some (.int .u64 (wdN S 0:Int))∧X.cell? ⟨w.heap.size+1,1,none⟩=some (.int .u64 (wdN S 1:Int))∧X.cell? ⟨w.heap.size+1,2,none⟩=some (.int .u64 (wdN S 2:Int))∧X.cell? ⟨w.heap.size+1,3,none⟩=some (.int .u64 (wdN S 3:Int))∧StD X mp n D E en):=fun X h=>⟨h.ptr.cell (j:=0) rfl,h.mtr.map,h.set.cell (j:=0) rfl,h.set.cell (j:=1) rfl,h.set.cell (j:=2) rfl,h.set.cell (j:=3) rfl,h.map⟩;have HSB:Hid (∀X,StB w X base M T G cp a E en mp n D S→(X.cell? ⟨w.heap.size,0,none⟩=some (.pointer (some ⟨M,0,none⟩))∧X.cell? ⟨M,1029,none⟩=some (.map (some mp))∧X.cell? ⟨w.heap.size+1,0,none⟩=some (.int .u64 (wdN S 0:Int))∧X.cell? ⟨w.heap.size+1,1,none⟩=some (.int .u64 (wdN S 1:Int))∧X.cell? ⟨w.heap.size+1,2,none⟩=some (.int .u64 (wdN S 2:Int))∧X.cell? ⟨w.heap.size+1,3,none⟩=some (.int .u64 (wdN S 3:Int))∧StD X mp n D E en)):=hSB;have HD:Hid (StB w W0.drew base M T G cp a E en mp n D S):=HW0.1.below ((Below.refl _ _).drew);clear hSB;refine wpIn_wide.2 ?_;refine wp_region_noPanic ?_;refine yAb 99 (fun wz=>wz.cell? ⟨w.heap.size,0,none⟩=some (.pointer (some ⟨M,0,none⟩))∧wz.cell? ⟨M,1029,none⟩=some (.map (some mp))∧wz.cell? ⟨w.heap.size+1,0,none⟩=some (.int .u64 (wdN S 0:Int))∧wz.cell? ⟨w.heap.size+1,1,none⟩=some (.int .u64 (wdN S 1:Int))∧wz.cell? ⟨w.heap.size+1,2,none⟩=some (.int .u64 (wdN S 2:Int))∧wz.cell? ⟨w.heap.size+1,3,none⟩=some (.int .u64 (wdN S 3:Int))∧StD wz mp n D E en) (by kernel_rfl) ?_;refine j14a 0 (HSB.out _ HD.out) ?_;iterate 8 refine j14b (HSB.out _ HD.out) ?_
 refine qO 9 rfl fun K hK=>?_;go_simp;refine hK.out _ _ (.inr (HSB.out _ (HW0.1.below (by repeat (first|exact Below.refl _ _|refine Below.drew ?_|refine Below.alloc ?_ (Nat.le_refl _) _|refine yAc ?_ (Nat.le_refl _) _ _))))) ?_;clear hK;refine jS ?_;refine qO 10 rfl fun K hK=>?_;go_simp;refine hK.out _ _ (.inr (HSB.out _ (HW0.1.below (by repeat (first|exact Below.refl _ _|refine Below.drew ?_|refine Below.alloc ?_ (Nat.le_refl _) _|refine yAc ?_ (Nat.le_refl _) _ _))))) ?_;clear hK;refine jS ?_;refine qO 11 rfl fun K hK=>?_;go_simp;refine hK.out _ _ (.inr (HSB.out _ (HW0.1.below (by repeat (first|exact Below.refl _ _|refine Below.drew ?_|refine Below.alloc ?_ (Nat.le_refl _) _|refine yAc ?_ (Nat.le_refl _) _ _))))) ?_;clear hK;refine jS ?_;refine qD ?_;dsimp only[NoPanic];obtain⟨W1,hW1⟩:=qE ((W0.alloc (.cells z5 188)).drew:World);have k1:Below W0.heap.size W0 W1:=by rw[hW1];exact(qB).drew
 have s0:=HW0.2.size;have HW1:Hid (StB w W1 base M T G cp a E en mp n D S∧Below w.heap.size w W1):=⟨HW0.1.below k1,HW0.2.trans (k1.mono s0)⟩;have hW1':=hW1;simp only[z5]at hW1';rw[←hW1'];clear hW1 hW1' k1 HD HSB;have heq:=yQu (sAnd S en);have HCm:Hid (∀wx:World,Calls Tryz.prog 139 #[psV S,psV en] wx fun e w'=>e=.returned (psV (sAnd S en))∧Below wx.heap.size wx w'):=fun wx=>yKd S en wx;have HSC:Hid (∀X,StB w X base M T G cp a E en mp n D S→(X.cell? ⟨w.heap.size,0,none⟩=some (.pointer (some ⟨M,0,none⟩))∧X.cell? ⟨w.heap.size+1,0,none⟩=some (.int .u64 (wdN S 0:Int))∧X.cell? ⟨w.heap.size+1,1,none⟩=some (.int .u64 (wdN S 1:Int))∧X.cell? ⟨w.heap.size+1,2,none⟩=some (.int .u64 (wdN S 2:Int))∧X.cell? ⟨w.heap.size+1,3,none⟩=some (.int .u64 (wdN S 3:Int))∧X.cell? ⟨M,1025,none⟩=some (.int .u64 (wdN en 0:Int))∧X.cell? ⟨M,1026,none⟩=some (.int .u64 (wdN en 1:Int))∧X.cell? ⟨M,1027,none⟩=some (.int .u64 (wdN en 2:Int))∧X.cell? ⟨M,1028,none⟩=some (.int .u64 (wdN en 3:Int)))):=fun X h=>⟨h.ptr.cell (j:=0) rfl,h.set.cell (j:=0) rfl,h.set.cell (j:=1) rfl,h.set.cell (j:=2) rfl,h.set.cell (j:=3) rfl,h.mtr.ends (j:=0) (by omega),h.mtr.ends (j:=1) (by omega),h.mtr.ends (j:=2) (by omega),h.mtr.ends (j:=3) (by omega)⟩;have HD:Hid (StB w W1.drew base M T G cp a E en mp n D S):=HW1.1.below ((Below.refl _ _).drew);gi_wp2;refine wpIn_wide.2 ?_;refine wp_region_noPanic ?_;refine yAb 99 (fun wz=>wz.cell? ⟨w.heap.size,0,none⟩=some (.pointer (some ⟨M,0,none⟩))∧wz.cell? ⟨w.heap.size+1,0,none⟩=some (.int .u64 (wdN S 0:Int))∧wz.cell? ⟨w.heap.size+1,1,none⟩=some (.int .u64 (wdN S 1:Int))∧wz.cell? ⟨w.heap.size+1,2,none⟩=some (.int .u64 (wdN S 2:Int))∧wz.cell? ⟨w.heap.size+1,3,none⟩=some (.int .u64 (wdN S 3:Int))∧wz.cell? ⟨M,1025,none⟩=some (.int .u64 (wdN en 0:Int))∧wz.cell? ⟨M,1026,none⟩=some (.int .u64 (wdN en 1:Int))∧wz.cell? ⟨M,1027,none⟩=some (.int .u64 (wdN en 2:Int))∧wz.cell? ⟨M,1028,none⟩=some (.int .u64 (wdN en 3:Int))) (by kernel_rfl) ?_;refine j15a 0 (HSC.out _ HD.out) ?_;iterate 4 refine j15b (HSC.out _ HD.out) ?_
 refine j15a 6 (HSC.out _ HD.out) ?_;refine yEb (i:=5) (j:=9) (by kernel_rfl) rfl rfl (fun K hK=>?_) (fun K hK=>?_)
 ·go_simp;refine(HCm.out _).mono ?_;rintro r v3 ⟨rfl,hb3⟩;have HV:Hid (Below W1.heap.size W1 v3):=((Below.refl W1.heap.size W1).drew).trans hb3;have HB3:Hid (StB w v3 base M T G cp a E en mp n D S):=HW1.1.below HV.out;refine hK.out _ _ (.inr (HSC.out _ HB3.out)) ?_;clear hK hb3;refine jS ?_;refine yF6 (i:=7) (v:=.bool (acc en S)) rfl (by kernel_rfl) (by kernel_rfl) (by kernel_rfl) (by rfl) (fun _ _ _ h=>h) (Or.inl ⟨by rfl,?yqa7⟩) (HSC.out _ HB3.out) ?_;case yqa7=>exact zzR5
  try simp only[qA,List.getElem_toArray,List.getElem_cons_zero,List.getElem_cons_succ]
  refine j15b (HSC.out _ HB3.out) ?_;refine qO 9 rfl fun K hK=>?_;go_simp;refine hK.out _ _ (.inr (HSC.out _ (HB3.below (by repeat (first|exact Below.refl _ _|refine Below.drew ?_|refine Below.alloc ?_ (Nat.le_refl _) _|refine yAc ?_ (Nat.le_refl _) _ _))))) ?_;clear hK;refine jS ?_;refine qO 10 rfl fun K hK=>?_;go_simp;refine hK.out _ _ (.inr (HSC.out _ (HB3.below (by repeat (first|exact Below.refl _ _|refine Below.drew ?_|refine Below.alloc ?_ (Nat.le_refl _) _|refine yAc ?_ (Nat.le_refl _) _ _))))) ?_;clear hK;refine jS ?_;refine qD ?_;dsimp only[NoPanic];obtain⟨b7,hb7⟩:=qE v3.heap.size;obtain⟨W4,hW4⟩:=qE (v3.alloc (.cells #[.int .u64 0,.int .u64 0,.int .u64 0,.int .u64 0,.bool (acc en S)] 188):World);have k4:Below v3.heap.size v3 W4:=by rw[hW4];exact qB
  have s3:=HV.size;have s1:=HW1.2.size;have HR4:Hid (RaI w base M T G cp a E en mp n D S b7 0 W4 W4∧b7<W4.heap.size):=by
   have e0:(stL (ahdT E S 0) (acc en S))= [.int .u64 0,.int .u64 0,.int .u64 0,.int .u64 0,.bool (acc en S)]:=by show stL sNo _=_;simp only[stL,yE4];rfl
   have b4:=yAa v3 (base:=w.heap.size) (t:=188) (sz:=5) #[.int .u64 0,.int .u64 0,.int .u64 0,.int .u64 0,.bool (acc en S)] (by omega) rfl;refine⟨⟨HB3.below k4,by rw[e0,hb7,hW4];exact b4,(HW1.2.trans (HV.mono s1)).trans (k4.mono (by omega)),Nat.le_refl _⟩,by rw[hb7,hW4];simp⟩
  have HGt:Hid (w.heap.size+1+1<b7):=by show _<_;rw[hb7];exact HB3.ans.lt.2
  rw[←hW4,←hb7];clear hW4 hb7 k4;have m0:=HR4.1.st.ptr.cell (j:=0) rfl;obtain⟨q0,q1,q2,q3⟩:=HR4.1.st.set.c4;gi_wp2;have hbz:w.heap.size+1+1<W4.heap.size:=HR4.1.st.ans.lt.2;have hMz:=HR4.1.st.mtr.ltM;have hGz:=HR4.1.st.mtr.ltG;have hpz:=HR4.1.st.map.lt;refine yF (by decide) S rfl rfl (fun k W=>RaI w base M T G cp a E en mp n D S b7 k W4 W) ?hI ?hIt ?hIs HR4.1
   (fun x=>{tmps:=#[.pointer (some ⟨M,0,none⟩),psV S,.pointer (some ⟨w.heap.size,0,none⟩),.pointer (some ⟨w.heap.size+1,0,none⟩),.pointer (some ⟨w.heap.size+1+1,0,none⟩),.pointer (some ⟨W0.heap.size,0,none⟩),.bool false,.pointer (some ⟨b7,0,none⟩),.int .i64 (x:Int),.tuple #[.agg #[.int .u64 0,.int .u64 0,.int .u64 0,.int .u64 0,.bool false],.bool false],.pointer (some ⟨M,0,none⟩),.pointer (some ⟨M,0,none⟩),.pointer (some ⟨M,1029,none⟩),.map (some mp),psV S,.tuple #[.agg #[.int .u64 0,.int .u64 0,.int .u64 0,.int .u64 0,.bool false],.bool false],.agg #[.int .u64 0,.int .u64 0,.int .u64 0,.int .u64 0,.bool false],.bool false,.bool false,undef,psV S,.pointer (some ⟨M,0,none⟩),.pointer (some ⟨M,0,none⟩),.pointer (some ⟨M,1025,none⟩),psV en,psV (sAnd S en),.agg #[.int .u64 0,.int .u64 0,.int .u64 0,.int .u64 0],.bool (acc en S),.agg #[.int .u64 0,.int .u64 0,.int .u64 0,.int .u64 0,.bool (acc en S)],psV S,.func (.func 160) #[psV S] #[],.int .i64 (x:Int),undef,undef,undef,undef,undef,undef,undef,undef,undef,undef,undef,undef,undef,undef,undef,undef,undef,undef,undef,undef,undef,undef,undef,undef,undef,undef,undef,undef],defers:= []}) ?assign ?body ?done
  case hI=>exact zzQ42
  case hIt=>exact fun k W hA=>hA.st.mtr.tab
  case hIs=>intro k k' W hA hk hno;exact⟨hA.st,by rw[yKn hk hno];exact hA.made,hA.low,hA.size⟩
  case assign=>intro l x W K hK;gi_wp2;exact hK
  case body=>
   intro l k x W hA hkx hx hSx hbet;have hxa:=HS.out x hSx;have zx:(x:Int)<(a:Int):=by omega
   have hcap:=hA.st.mtr.caps;have HA:Hid (RaI w base M T G cp a E en mp n D S b7 k W4 W∧S x=true∧(∀j,k≤j→j<x→S j=false)):=⟨hA,hSx,hbet⟩;have HU:Hid (∀wx:World,Calls Tryz.prog 161 #[psV (ahdT E S k),psV (E x)] wx fun e w'=>e=.returned (psV (sOr (ahdT E S k) (E x)))∧Below wx.heap.size wx w'):=fun wx=>yCw _ _ wx;have HS7:Hid (∀X,RaI w base M T G cp a E en mp n D S b7 k W4 X→(X.cell? ⟨w.heap.size,0,none⟩=some (.pointer (some ⟨M,0,none⟩))∧X.cell? ⟨M,1024,none⟩=some (.slice (some ⟨G,0,none⟩) a cp)∧X.cell? ⟨b7,0,none⟩=some (.int .u64 (wdN (ahdT E S k) 0:Int))∧X.cell? ⟨b7,1,none⟩=some (.int .u64 (wdN (ahdT E S k) 1:Int))∧X.cell? ⟨b7,2,none⟩=some (.int .u64 (wdN (ahdT E S k) 2:Int))∧X.cell? ⟨b7,3,none⟩=some (.int .u64 (wdN (ahdT E S k) 3:Int))∧X.cell? ⟨G,x*4,none⟩=some (.int .u64 (wdN (E x) 0:Int))∧X.cell? ⟨G,x*4+1,none⟩=some (.int .u64 (wdN (E x) 1:Int))∧X.cell? ⟨G,x*4+2,none⟩=some (.int .u64 (wdN (E x) 2:Int))∧X.cell? ⟨G,x*4+3,none⟩=some (.int .u64 (wdN (E x) 3:Int)))):=fun X h=>by obtain⟨g0,g1,g2,g3,_⟩:=h.st.mtr.edge4 hxa;exact⟨h.st.ptr.cell (j:=0) rfl,h.st.mtr.fol,h.made.cell (j:=0) rfl,h.made.cell (j:=1) rfl,h.made.cell (j:=2) rfl,h.made.cell (j:=3) rfl,g0,g1,g2,g3⟩
   have HBl:Hid (∀X,Below W.heap.size W X→RaI w base M T G cp a E en mp n D S b7 k W4 X):=fun X hb=>⟨HA.1.st.below hb,HA.1.made.below hb,HA.1.low.trans (hb.mono HA.1.low.size),Nat.le_trans HA.1.size hb.size⟩;clear hA hSx hbet;gi_wp2;refine yDc 11 (fun wz=>wz.cell? ⟨w.heap.size,0,none⟩=some (.pointer (some ⟨M,0,none⟩))∧wz.cell? ⟨M,1024,none⟩=some (.slice (some ⟨G,0,none⟩) a cp)∧wz.cell? ⟨b7,0,none⟩=some (.int .u64 (wdN (ahdT E S k) 0:Int))∧wz.cell? ⟨b7,1,none⟩=some (.int .u64 (wdN (ahdT E S k) 1:Int))∧wz.cell? ⟨b7,2,none⟩=some (.int .u64 (wdN (ahdT E S k) 2:Int))∧wz.cell? ⟨b7,3,none⟩=some (.int .u64 (wdN (ahdT E S k) 3:Int))∧wz.cell? ⟨G,x*4,none⟩=some (.int .u64 (wdN (E x) 0:Int))∧wz.cell? ⟨G,x*4+1,none⟩=some (.int .u64 (wdN (E x) 1:Int))∧wz.cell? ⟨G,x*4+2,none⟩=some (.int .u64 (wdN (E x) 2:Int))∧wz.cell? ⟨G,x*4+3,none⟩=some (.int .u64 (wdN (E x) 3:Int))) (by kernel_rfl) (by kernel_rfl) ?hlet ?_;case hlet=>rintro⟨a0,w0,hq⟩;exact nomatch (show Exit.outgrown=Exit.normal from hq.1)
   exact zzQ13
  case done=>
   rintro Dd W hD hA hK;have m1:=hA.st.ptr.cell (j:=0) rfl;have m2:=hA.st.mtr.map;obtain⟨kk,hkk,hlen,htt⟩:∃kk:Nat,kk≤n∧(∀ty,(Builtin.len_ #[176] ty #[.map (some mp)]).run Tryz.prog W=.ok (.int .i64 (kk:Int)) W)∧StD W mp kk D E en:=⟨_,hA.st.map.1.size_le,fun ty=>hA.st.map.1.len Tryz.underlying176 ty,hA.st.map.tight⟩;by_cases hq:kk<1000
   ·have zk:¬(1000:Int)≤(kk:Int):=by omega
    have HRJ:RaJ w base M T G cp a E en mp n D S b7 256 W4 W:=⟨hA.st,hA.made,Chg.of_below hA.low,hA.size⟩;have hKj:=hK;have hAd:StD W.drew mp kk D E en:=htt.chg (S:=fun _=>False) (Chg.of_below ((Below.refl _ _).drew)) (fun q=>q);obtain⟨w6,hput,hst6,hc6⟩:=StI.put (S:=S) ⟨D,hAd⟩ (by unfold maxLen;omega);have HA:Hid (RaJ w base M T G cp a E en mp n D S b7 256 W4 W∧W.heap[Dd]?=some (.deferred (some []))∧StI w6 mp 1000 E en∧Chg (fun k=>k=mp) W w6∧W4.heap.size≤Dd):=by refine⟨HRJ,hKj,hst6.mono (by omega),?_,hD⟩;have kd:Chg (fun k=>k=mp) W W.drew:=Chg.of_below ((Below.refl _ _).drew);exact kd.trans hc6
    clear hA hK hst6 hc6 hAd m0 q0 q1 q2 q3 HRJ hKj htt;gi_wp2;clear hlen;have HS10:Hid (W.drew.cell? ⟨w.heap.size,0,none⟩=some (.pointer (some ⟨M,0,none⟩))∧W.drew.cell? ⟨M,1029,none⟩=some (.map (some mp))∧W.drew.cell? ⟨w.heap.size+1,0,none⟩=some (.int .u64 (wdN S 0:Int))∧W.drew.cell? ⟨w.heap.size+1,1,none⟩=some (.int .u64 (wdN S 1:Int))∧W.drew.cell? ⟨w.heap.size+1,2,none⟩=some (.int .u64 (wdN S 2:Int))∧W.drew.cell? ⟨w.heap.size+1,3,none⟩=some (.int .u64 (wdN S 3:Int))∧W.drew.cell? ⟨b7,0,none⟩=some (.int .u64 (wdN (ahd E S) 0:Int))∧W.drew.cell? ⟨b7,1,none⟩=some (.int .u64 (wdN (ahd E S) 1:Int))∧W.drew.cell? ⟨b7,2,none⟩=some (.int .u64 (wdN (ahd E S) 2:Int))∧W.drew.cell? ⟨b7,3,none⟩=some (.int .u64 (wdN (ahd E S) 3:Int))∧W.drew.cell? ⟨b7,4,none⟩=some (.bool (acc en S))):=by have h:=HA.1;exact⟨h.st.ptr.cell (j:=0) rfl,h.st.mtr.map,h.st.set.cell (j:=0) rfl,h.st.set.cell (j:=1) rfl,h.st.set.cell (j:=2) rfl,h.st.set.cell (j:=3) rfl,h.made.cell (j:=0) rfl,h.made.cell (j:=1) rfl,h.made.cell (j:=2) rfl,h.made.cell (j:=3) rfl,h.made.cell (j:=4) rfl⟩
    refine wpIn_wide.2 ?_;refine wp_region_noPanic ?_;refine yAb 6 (fun wz=>wz.cell? ⟨w.heap.size,0,none⟩=some (.pointer (some ⟨M,0,none⟩))∧wz.cell? ⟨M,1029,none⟩=some (.map (some mp))∧wz.cell? ⟨w.heap.size+1,0,none⟩=some (.int .u64 (wdN S 0:Int))∧wz.cell? ⟨w.heap.size+1,1,none⟩=some (.int .u64 (wdN S 1:Int))∧wz.cell? ⟨w.heap.size+1,2,none⟩=some (.int .u64 (wdN S 2:Int))∧wz.cell? ⟨w.heap.size+1,3,none⟩=some (.int .u64 (wdN S 3:Int))∧wz.cell? ⟨b7,0,none⟩=some (.int .u64 (wdN (ahd E S) 0:Int))∧wz.cell? ⟨b7,1,none⟩=some (.int .u64 (wdN (ahd E S) 1:Int))∧wz.cell? ⟨b7,2,none⟩=some (.int .u64 (wdN (ahd E S) 2:Int))∧wz.cell? ⟨b7,3,none⟩=some (.int .u64 (wdN (ahd E S) 3:Int))∧wz.cell? ⟨b7,4,none⟩=some (.bool (acc en S))) (by kernel_rfl) ?_;refine j7a 0 HS10.out ?_;iterate 5 refine j7b HS10.out ?_
    refine qO 6 rfl fun K hK=>?_;go_simp;refine hK.out _ _ (.inl rfl) ?_;clear hK;refine jS ?_;refine qD ?_;dsimp only[NoPanic];have hp:¬mp=b7:=HA.1.st.map.ne HA.1.made;have ha2:¬mp=w.heap.size+1+1:=HA.1.st.map.ne HA.1.st.ans;have hB6:yA w6 w.heap.size 188 5 b7 (stL (ahd E S) (acc en S)):=HA.1.made.chg HA.2.2.2.1 (fun q=>hp q.symm);have hA6:=HA.1.st.ans.chg HA.2.2.2.1 (fun q=>ha2 q.symm);have r0:=hB6.cell (j:=0) rfl;have a0:=hA6.cell (j:=0) rfl;have f0:=hA6.frozen 0;have r1:=hB6.cell (j:=1) rfl;have a1:=hA6.cell (j:=1) rfl;have f1:=hA6.frozen 1;have r2:=hB6.cell (j:=2) rfl;have a2:=hA6.cell (j:=2) rfl;have f2:=hA6.frozen 2;have r3:=hB6.cell (j:=3) rfl;have a3:=hA6.cell (j:=3) rfl;have f3:=hA6.frozen 3;have r4:=hB6.cell (j:=4) rfl;have a4:=hA6.cell (j:=4) rfl;have f4:=hA6.frozen 4;obtain⟨W7,hW7⟩:=qE (set5 w6 (w.heap.size+1+1) (ahd E S) (acc en S):World);have h:=HA.1;have hc7:Chg (fun k=>k=w.heap.size+1+1) w6 W7:=by rw[hW7];exact yF1 _ _ _ _ rfl
    have hLo:=HLo.out;have hM6:=h.st.mtr.box.chg HA.2.2.2.1 (fun q=>yC9 h.st.map h.st.mtr.box q);have hDm:¬Dd=mp:=fun q=>by obtain⟨⟨es,c,h1,_⟩,_⟩:=h.st.map;rw[←q,HA.2.1]at h1;cases h1
    have hKD:W7.heap[Dd]?=some (.deferred (some [])):=by have hl:Dd<W.heap.size:=(Array.getElem?_eq_some_iff.1 HA.2.1).1;rw[hc7.block Dd (Nat.lt_of_lt_of_le hl HA.2.2.2.1.size) (by have:=HA.2.2.2.2;omega),HA.2.2.2.1.block Dd hl hDm];exact HA.2.1
    exact zzQ9
   ·exact zzQ3
 ·go_simp;refine hK.out _ _ (.inr (HSC.out _ (HW1.1.below (by repeat (first|exact Below.refl _ _|refine Below.drew ?_|refine Below.alloc ?_ (Nat.le_refl _) _))))) ?_;clear hK;refine jS ?_;have hX:Below W1.heap.size W1 (W1.alloc (.cells z5 188)).drew:=(qB).drew;have hBX:yA (W1.alloc (.cells z5 188)).drew w.heap.size 188 5 W1.heap.size z5.toList:=by exact(yAa W1 z5 HW1.2.size rfl).below ((Below.refl _ _).drew)
  have HGt:Hid (w.heap.size+1+1<W1.heap.size):=by show _<_;exact HW1.1.ans.lt.2
  refine qO 5 rfl fun K hK=>?_;go_simp;refine(HCm.out _).mono ?_;rintro r v3 ⟨rfl,hb3⟩;have HV:Hid (Below W1.heap.size W1 v3∧Below w.heap.size w v3):=⟨hX.trans (hb3.mono hX.size),HW1.2.trans ((hX.trans (hb3.mono hX.size)).mono HW1.2.size)⟩;have HB3:Hid (StB w v3 base M T G cp a E en mp n D S):=HW1.1.below HV.1;have HBx:Hid (yA v3 w.heap.size 188 5 W1.heap.size z5.toList):=hBX.below hb3;have HNe:Hid (¬M=W1.heap.size∧¬G=W1.heap.size∧¬mp=W1.heap.size):=⟨fun q=>yAo HB3.mtr.box HBx.out (by decide) M rfl (by rw[q];rfl),fun q=>yAo HB3.mtr.row HBx.out (by decide) G rfl (by rw[q];rfl),HB3.map.ne HBx.out⟩;have y0:=HBx.cell (j:=0) rfl;have o0:=HBx.frozen 0;have y1:=HBx.cell (j:=1) rfl;have o1:=HBx.frozen 1;have y2:=HBx.cell (j:=2) rfl;have o2:=HBx.frozen 2;have y3:=HBx.cell (j:=3) rfl;have o3:=HBx.frozen 3;have y4:=HBx.cell (j:=4) rfl;have o4:=HBx.frozen 4;refine hK.out _ _ (.inr (HSC.out _ HB3.out)) ?_;clear hK hb3 hX hBX;refine jS ?_;refine yF6 (i:=7) (v:=.bool (acc en S)) rfl (by kernel_rfl) (by kernel_rfl) (by kernel_rfl) (by rfl) (fun _ _ _ h=>h) (Or.inl ⟨by rfl,?yqb7⟩) (HSC.out _ HB3.out) ?_;case yqb7=>exact zzR5
  try simp only[qA,List.getElem_toArray,List.getElem_cons_zero,List.getElem_cons_succ]
  refine j15b (HSC.out _ HB3.out) ?_;refine qO 10 rfl fun K hK=>?_;go_simp;refine hK.out _ _ (.inr (HSC.out _ (HB3.chg (Z:=fun k=>k=W1.heap.size) (((((Chg.of_set (S:=fun k=>k=W1.heap.size) _ W1.heap.size 0 _ rfl).trans (Chg.of_set (S:=fun k=>k=W1.heap.size) _ W1.heap.size 1 _ rfl)).trans (Chg.of_set (S:=fun k=>k=W1.heap.size) _ W1.heap.size 2 _ rfl)).trans (Chg.of_set (S:=fun k=>k=W1.heap.size) _ W1.heap.size 3 _ rfl)).trans (Chg.of_set (S:=fun k=>k=W1.heap.size) _ W1.heap.size 4 _ rfl)) (by have:=HNe.out;omega) (by have:=HNe.out;omega) (by have:=HNe.out;omega) (fun k q=>by have:=HGt.out;have:=HLo.out;omega)))) ?_;clear hK;refine jS ?_;refine qD ?_;dsimp only[NoPanic];obtain⟨b7,hb7⟩:=qE W1.heap.size;rw[←hb7]at HBx HNe HGt⊢;obtain⟨W4,hW4⟩:=qE (set5 v3 b7 sNo (acc en S):World);have hc4:Chg (fun k=>k=b7) v3 W4:=by rw[hW4];exact yF1 _ _ _ _ rfl
  have HR4:Hid (RaI w base M T G cp a E en mp n D S b7 0 W4 W4∧b7<W4.heap.size):=by have b4:=HBx.set5 sNo (acc en S);rw[←hW4]at b4;refine⟨⟨HB3.chg hc4 (by have:=HNe.out;omega) (by have:=HNe.out;omega) (by have:=HNe.out;omega) (fun k q=>by have:=HGt.out;have:=HLo.out;omega),b4,Chg.below HV.2 hc4 HV.2.size (fun k q=>by have:=HGt.out;omega),Nat.le_refl _⟩,b4.lt.2⟩
  have hW4':=hW4;simp only[set5,yE4]at hW4';simp only[Int.ofNat_zero,Int.natCast_zero]at hW4';rw[←hW4'];clear hW4 hW4' hc4 hb7 y0 y1 y2 y3 y4 o0 o1 o2 o3 o4;have m0:=HR4.1.st.ptr.cell (j:=0) rfl;obtain⟨q0,q1,q2,q3⟩:=HR4.1.st.set.c4;gi_wp2;have hbz:w.heap.size+1+1<W4.heap.size:=HR4.1.st.ans.lt.2;have hMz:=HR4.1.st.mtr.ltM;have hGz:=HR4.1.st.mtr.ltG;have hpz:=HR4.1.st.map.lt;refine yF (by decide) S rfl rfl (fun k W=>RaI w base M T G cp a E en mp n D S b7 k W4 W) ?hIZ ?hItZ ?hIsZ HR4.1
   (fun x=>{tmps:=#[.pointer (some ⟨M,0,none⟩),psV S,.pointer (some ⟨w.heap.size,0,none⟩),.pointer (some ⟨w.heap.size+1,0,none⟩),.pointer (some ⟨w.heap.size+1+1,0,none⟩),.pointer (some ⟨W0.heap.size,0,none⟩),.bool false,.pointer (some ⟨b7,0,none⟩),.int .i64 (x:Int),.tuple #[.agg #[.int .u64 0,.int .u64 0,.int .u64 0,.int .u64 0,.bool false],.bool false],.pointer (some ⟨M,0,none⟩),.pointer (some ⟨M,0,none⟩),.pointer (some ⟨M,1029,none⟩),.map (some mp),psV S,.tuple #[.agg #[.int .u64 0,.int .u64 0,.int .u64 0,.int .u64 0,.bool false],.bool false],.agg #[.int .u64 0,.int .u64 0,.int .u64 0,.int .u64 0,.bool false],.bool false,.bool false,undef,psV S,.pointer (some ⟨M,0,none⟩),.pointer (some ⟨M,0,none⟩),.pointer (some ⟨M,1025,none⟩),psV en,psV (sAnd S en),.agg #[.int .u64 0,.int .u64 0,.int .u64 0,.int .u64 0],.bool (acc en S),.agg #[.int .u64 0,.int .u64 0,.int .u64 0,.int .u64 0,.bool (acc en S)],psV S,.func (.func 160) #[psV S] #[],.int .i64 (x:Int),undef,undef,undef,undef,undef,undef,undef,undef,undef,undef,undef,undef,undef,undef,undef,undef,undef,undef,undef,undef,undef,undef,undef,undef,undef,undef,undef,undef],defers:= []}) ?assignZ ?bodyZ ?doneZ
  case hIZ=>exact zzQ42
  case hItZ=>exact fun k W hA=>hA.st.mtr.tab
  case hIsZ=>intro k k' W hA hk hno;exact⟨hA.st,by rw[yKn hk hno];exact hA.made,hA.low,hA.size⟩
  case assignZ=>intro l x W K hK;gi_wp2;exact hK
  case bodyZ=>
   intro l k x W hA hkx hx hSx hbet;have hxa:=HS.out x hSx;have zx:(x:Int)<(a:Int):=by omega
   have hcap:=hA.st.mtr.caps;have HA:Hid (RaI w base M T G cp a E en mp n D S b7 k W4 W∧S x=true∧(∀j,k≤j→j<x→S j=false)):=⟨hA,hSx,hbet⟩;have HU:Hid (∀wx:World,Calls Tryz.prog 161 #[psV (ahdT E S k),psV (E x)] wx fun e w'=>e=.returned (psV (sOr (ahdT E S k) (E x)))∧Below wx.heap.size wx w'):=fun wx=>yCw _ _ wx;have HS7:Hid (∀X,RaI w base M T G cp a E en mp n D S b7 k W4 X→(X.cell? ⟨w.heap.size,0,none⟩=some (.pointer (some ⟨M,0,none⟩))∧X.cell? ⟨M,1024,none⟩=some (.slice (some ⟨G,0,none⟩) a cp)∧X.cell? ⟨b7,0,none⟩=some (.int .u64 (wdN (ahdT E S k) 0:Int))∧X.cell? ⟨b7,1,none⟩=some (.int .u64 (wdN (ahdT E S k) 1:Int))∧X.cell? ⟨b7,2,none⟩=some (.int .u64 (wdN (ahdT E S k) 2:Int))∧X.cell? ⟨b7,3,none⟩=some (.int .u64 (wdN (ahdT E S k) 3:Int))∧X.cell? ⟨G,x*4,none⟩=some (.int .u64 (wdN (E x) 0:Int))∧X.cell? ⟨G,x*4+1,none⟩=some (.int .u64 (wdN (E x) 1:Int))∧X.cell? ⟨G,x*4+2,none⟩=some (.int .u64 (wdN (E x) 2:Int))∧X.cell? ⟨G,x*4+3,none⟩=some (.int .u64 (wdN (E x) 3:Int)))):=fun X h=>by obtain⟨g0,g1,g2,g3,_⟩:=h.st.mtr.edge4 hxa;exact⟨h.st.ptr.cell (j:=0) rfl,h.st.mtr.fol,h.made.cell (j:=0) rfl,h.made.cell (j:=1) rfl,h.made.cell (j:=2) rfl,h.made.cell (j:=3) rfl,g0,g1,g2,g3⟩
   have HBl:Hid (∀X,Below W.heap.size W X→RaI w base M T G cp a E en mp n D S b7 k W4 X):=fun X hb=>⟨HA.1.st.below hb,HA.1.made.below hb,HA.1.low.trans (hb.mono HA.1.low.size),Nat.le_trans HA.1.size hb.size⟩;clear hA hSx hbet;gi_wp2;refine yDc 11 (fun wz=>wz.cell? ⟨w.heap.size,0,none⟩=some (.pointer (some ⟨M,0,none⟩))∧wz.cell? ⟨M,1024,none⟩=some (.slice (some ⟨G,0,none⟩) a cp)∧wz.cell? ⟨b7,0,none⟩=some (.int .u64 (wdN (ahdT E S k) 0:Int))∧wz.cell? ⟨b7,1,none⟩=some (.int .u64 (wdN (ahdT E S k) 1:Int))∧wz.cell? ⟨b7,2,none⟩=some (.int .u64 (wdN (ahdT E S k) 2:Int))∧wz.cell? ⟨b7,3,none⟩=some (.int .u64 (wdN (ahdT E S k) 3:Int))∧wz.cell? ⟨G,x*4,none⟩=some (.int .u64 (wdN (E x) 0:Int))∧wz.cell? ⟨G,x*4+1,none⟩=some (.int .u64 (wdN (E x) 1:Int))∧wz.cell? ⟨G,x*4+2,none⟩=some (.int .u64 (wdN (E x) 2:Int))∧wz.cell? ⟨G,x*4+3,none⟩=some (.int .u64 (wdN (E x) 3:Int))) (by kernel_rfl) (by kernel_rfl) ?hletZ ?_;case hletZ=>rintro⟨a0,w0,hq⟩;exact nomatch (show Exit.outgrown=Exit.normal from hq.1)
   exact zzQ13
  case doneZ=>
   rintro Dd W hD hA hK;have m1:=hA.st.ptr.cell (j:=0) rfl;have m2:=hA.st.mtr.map;obtain⟨kk,hkk,hlen,htt⟩:∃kk:Nat,kk≤n∧(∀ty,(Builtin.len_ #[176] ty #[.map (some mp)]).run Tryz.prog W=.ok (.int .i64 (kk:Int)) W)∧StD W mp kk D E en:=⟨_,hA.st.map.1.size_le,fun ty=>hA.st.map.1.len Tryz.underlying176 ty,hA.st.map.tight⟩;by_cases hq:kk<1000
   ·have zk:¬(1000:Int)≤(kk:Int):=by omega
    have HRJ:RaJ w base M T G cp a E en mp n D S b7 256 W4 W:=⟨hA.st,hA.made,Chg.of_below hA.low,hA.size⟩;have hKj:=hK;have hAd:StD W.drew mp kk D E en:=htt.chg (S:=fun _=>False) (Chg.of_below ((Below.refl _ _).drew)) (fun q=>q);obtain⟨w6,hput,hst6,hc6⟩:=StI.put (S:=S) ⟨D,hAd⟩ (by unfold maxLen;omega);have HA:Hid (RaJ w base M T G cp a E en mp n D S b7 256 W4 W∧W.heap[Dd]?=some (.deferred (some []))∧StI w6 mp 1000 E en∧Chg (fun k=>k=mp) W w6∧W4.heap.size≤Dd):=by refine⟨HRJ,hKj,hst6.mono (by omega),?_,hD⟩;have kd:Chg (fun k=>k=mp) W W.drew:=Chg.of_below ((Below.refl _ _).drew);exact kd.trans hc6
    clear hA hK hst6 hc6 hAd m0 q0 q1 q2 q3 HRJ hKj htt;gi_wp2;clear hlen;have HS10:Hid (W.drew.cell? ⟨w.heap.size,0,none⟩=some (.pointer (some ⟨M,0,none⟩))∧W.drew.cell? ⟨M,1029,none⟩=some (.map (some mp))∧W.drew.cell? ⟨w.heap.size+1,0,none⟩=some (.int .u64 (wdN S 0:Int))∧W.drew.cell? ⟨w.heap.size+1,1,none⟩=some (.int .u64 (wdN S 1:Int))∧W.drew.cell? ⟨w.heap.size+1,2,none⟩=some (.int .u64 (wdN S 2:Int))∧W.drew.cell? ⟨w.heap.size+1,3,none⟩=some (.int .u64 (wdN S 3:Int))∧W.drew.cell? ⟨b7,0,none⟩=some (.int .u64 (wdN (ahd E S) 0:Int))∧W.drew.cell? ⟨b7,1,none⟩=some (.int .u64 (wdN (ahd E S) 1:Int))∧W.drew.cell? ⟨b7,2,none⟩=some (.int .u64 (wdN (ahd E S) 2:Int))∧W.drew.cell? ⟨b7,3,none⟩=some (.int .u64 (wdN (ahd E S) 3:Int))∧W.drew.cell? ⟨b7,4,none⟩=some (.bool (acc en S))):=by have h:=HA.1;exact⟨h.st.ptr.cell (j:=0) rfl,h.st.mtr.map,h.st.set.cell (j:=0) rfl,h.st.set.cell (j:=1) rfl,h.st.set.cell (j:=2) rfl,h.st.set.cell (j:=3) rfl,h.made.cell (j:=0) rfl,h.made.cell (j:=1) rfl,h.made.cell (j:=2) rfl,h.made.cell (j:=3) rfl,h.made.cell (j:=4) rfl⟩
    refine wpIn_wide.2 ?_;refine wp_region_noPanic ?_;refine yAb 6 (fun wz=>wz.cell? ⟨w.heap.size,0,none⟩=some (.pointer (some ⟨M,0,none⟩))∧wz.cell? ⟨M,1029,none⟩=some (.map (some mp))∧wz.cell? ⟨w.heap.size+1,0,none⟩=some (.int .u64 (wdN S 0:Int))∧wz.cell? ⟨w.heap.size+1,1,none⟩=some (.int .u64 (wdN S 1:Int))∧wz.cell? ⟨w.heap.size+1,2,none⟩=some (.int .u64 (wdN S 2:Int))∧wz.cell? ⟨w.heap.size+1,3,none⟩=some (.int .u64 (wdN S 3:Int))∧wz.cell? ⟨b7,0,none⟩=some (.int .u64 (wdN (ahd E S) 0:Int))∧wz.cell? ⟨b7,1,none⟩=some (.int .u64 (wdN (ahd E S) 1:Int))∧wz.cell? ⟨b7,2,none⟩=some (.int .u64 (wdN (ahd E S) 2:Int))∧wz.cell? ⟨b7,3,none⟩=some (.int .u64 (wdN (ahd E S) 3:Int))∧wz.cell? ⟨b7,4,none⟩=some (.bool (acc en S))) (by kernel_rfl) ?_;refine yB (i:=0) (v:=?vpuZ0) rfl (by kernel_rfl) (by kernel_rfl) (by kernel_rfl) (by kernel_rfl) (by decide) (fun _ _ _ h=>h) (Or.inl ⟨by rfl,?ypuZ0⟩) HS10.out ?_;case ypuZ0=>exact zzR2
    refine jS ?_;refine yB (i:=1) (v:=?vpuZ1) rfl (by kernel_rfl) (by kernel_rfl) (by kernel_rfl) (by kernel_rfl) (by decide) (fun _ _ _ h=>h) (Or.inl ⟨by rfl,?ypuZ1⟩) HS10.out ?_;case ypuZ1=>exact zzR2
    refine jS ?_;refine yB (i:=2) (v:=?vpuZ2) rfl (by kernel_rfl) (by kernel_rfl) (by kernel_rfl) (by kernel_rfl) (by decide) (fun _ _ _ h=>h) (Or.inl ⟨by rfl,?ypuZ2⟩) HS10.out ?_;case ypuZ2=>exact zzR2
    refine jS ?_;refine yB (i:=3) (v:=?vpuZ3) rfl (by kernel_rfl) (by kernel_rfl) (by kernel_rfl) (by kernel_rfl) (by decide) (fun _ _ _ h=>h) (Or.inl ⟨by rfl,?ypuZ3⟩) HS10.out ?_;case ypuZ3=>exact zzR2
    refine jS ?_;refine yB (i:=4) (v:=?vpuZ4) rfl (by kernel_rfl) (by kernel_rfl) (by kernel_rfl) (by kernel_rfl) (by decide) (fun _ _ _ h=>h) (Or.inl ⟨by rfl,?ypuZ4⟩) HS10.out ?_;case ypuZ4=>exact zzR2
    refine jS ?_;refine yB (i:=5) (v:=?vpuZ5) rfl (by kernel_rfl) (by kernel_rfl) (by kernel_rfl) (by kernel_rfl) (by decide) (fun _ _ _ h=>h) (Or.inl ⟨by rfl,?ypuZ5⟩) HS10.out ?_;case ypuZ5=>exact zzR2
    refine jS ?_;refine qO 6 rfl fun K hK=>?_;go_simp;refine hK.out _ _ (.inl rfl) ?_;clear hK;refine jS ?_;refine qD ?_;dsimp only[NoPanic];have hp:¬mp=b7:=HA.1.st.map.ne HA.1.made;have ha2:¬mp=w.heap.size+1+1:=HA.1.st.map.ne HA.1.st.ans;have hB6:yA w6 w.heap.size 188 5 b7 (stL (ahd E S) (acc en S)):=HA.1.made.chg HA.2.2.2.1 (fun q=>hp q.symm);have hA6:=HA.1.st.ans.chg HA.2.2.2.1 (fun q=>ha2 q.symm);have r0:=hB6.cell (j:=0) rfl;have a0:=hA6.cell (j:=0) rfl;have f0:=hA6.frozen 0;have r1:=hB6.cell (j:=1) rfl;have a1:=hA6.cell (j:=1) rfl;have f1:=hA6.frozen 1;have r2:=hB6.cell (j:=2) rfl;have a2:=hA6.cell (j:=2) rfl;have f2:=hA6.frozen 2;have r3:=hB6.cell (j:=3) rfl;have a3:=hA6.cell (j:=3) rfl;have f3:=hA6.frozen 3;have r4:=hB6.cell (j:=4) rfl;have a4:=hA6.cell (j:=4) rfl;have f4:=hA6.frozen 4;obtain⟨W7,hW7⟩:=qE (set5 w6 (w.heap.size+1+1) (ahd E S) (acc en S):World);have h:=HA.1;have hc7:Chg (fun k=>k=w.heap.size+1+1) w6 W7:=by rw[hW7];exact yF1 _ _ _ _ rfl
    have hLo:=HLo.out;have hM6:=h.st.mtr.box.chg HA.2.2.2.1 (fun q=>yC9 h.st.map h.st.mtr.box q);have hDm:¬Dd=mp:=fun q=>by obtain⟨⟨es,c,h1,_⟩,_⟩:=h.st.map;rw[←q,HA.2.1]at h1;cases h1
    have hKD:W7.heap[Dd]?=some (.deferred (some [])):=by have hl:Dd<W.heap.size:=(Array.getElem?_eq_some_iff.1 HA.2.1).1;rw[hc7.block Dd (Nat.lt_of_lt_of_le hl HA.2.2.2.1.size) (by have:=HA.2.2.2.2;omega),HA.2.2.2.1.block Dd hl hDm];exact HA.2.1
    exact zzQ9
   ·exact zzQ3
end
def StU (w:World) (mp:Nat) (E:Nat→PS) (en:PS):Prop:=∃n,StI w mp n E en
variable {w':World} {mp:Nat} {E:Nat→PS} {en:PS}
theorem StU.chg {S:Nat→Prop} (h:StU w mp E en) (hc:Chg S w w') (hn:¬S mp):StU w' mp E en:=by obtain⟨n,h⟩:=h;exact⟨n,h.chg hc hn⟩
def StW (base M:Nat) (T:Nat→PS) (G cp a:Nat) (E:Nat→PS) (en:PS) (mp:Nat) (S:PS) (w:World) (e:Ending) (w':World):Prop:=
 e=.returned (stV (ahd E S) (acc en S))∧Hid (MtrI w' base M T G cp a E en mp∧StU w' mp E en∧Chg (fun k=>k=mp) w w')
variable {base M G a:Nat} {T:Nat→PS}
theorem yM7 (S:PS) (w:World) (h:MtrI w base M T G cp a E en mp) (hm:StU w mp E en) (hS:∀p,S p=true→p<a) (ha:a≤256) (hbm:base≤mp):Calls Tryz.prog 138 #[.pointer (some ⟨M,0,none⟩),psV S] w (StW base M T G cp a E en mp S w):=by
 obtain⟨n,D,hD⟩:=hm;cases hh:Maps.has D (psK S)with
 |true=>
  refine(yOz S w h hD hh).mono ?_;rintro e w' ⟨rfl,H⟩;exact⟨rfl,H.1,⟨_,H.2.1⟩,H.2.2⟩
 |false=>
  refine(yTo S w h hD hh hS ha hbm).mono ?_;rintro e w' ⟨rfl,H⟩;exact⟨rfl,H.1,⟨_,H.2.1⟩,H.2.2⟩
structure MaU (w:World) (base M:Nat) (T:Nat→PS) (G cp a:Nat) (E:Nat→PS) (en:PS) (mp b5:Nat) (S:PS) (X:World):Prop where
 mtr:MtrI X base M T G cp a E en mp
 map:StU X mp E en
 box:yA X w.heap.size 188 5 b5 (stL (ahd E S) (acc en S))
 chg:Chg (fun k=>k=mp) w X
variable {X:World}
theorem MaU.below {X':World} {b5:Nat} {S:PS} (h:MaU w base M T G cp a E en mp b5 S X) (hb:Below X.heap.size X X'):MaU w base M T G cp a E en mp b5 S X':=
 ⟨h.mtr.below hb,h.map.chg (S:=fun _=>False) (Chg.of_below hb) (fun q=>q),h.box.below hb,h.chg.trans (Chg.of_below hb)⟩
theorem MaU.ne {b5:Nat} {S:PS} (h:MaU w base M T G cp a E en mp b5 S X):¬M=b5∧¬G=b5∧¬mp=b5∧¬M=mp∧¬G=mp:=by obtain⟨n,D,hD⟩:=h.map;exact⟨fun q=>yAo h.mtr.box h.box (by decide) M rfl (by rw[q];rfl),fun q=>yAo h.mtr.row h.box (by decide) G rfl (by rw[q];rfl),StD.ne hD h.box,fun q=>StD.ne hD h.mtr.box q.symm,fun q=>StD.ne hD h.mtr.row q.symm⟩
def MaP3 (base M:Nat) (T:Nat→PS) (G cp a:Nat) (E:Nat→PS) (en:PS) (mp:Nat) (s:ByteArray) (w:World) (e:Ending) (w':World):Prop:=∃b:Bool,e=.returned (.bool b)∧Hid ((b=true↔acc en (runS E T (sOne 0) (sb s))=true)∧MtrI w' base M T G cp a E en mp∧StU w' mp E en∧Chg (fun k=>k=mp) w w')
theorem yPc (s:ByteArray) (hs:s.size≤200) (w:World) (h:MtrI w base M T G cp a E en mp) (hm:StU w mp E en) (hT:∀b p,T b p=true→p<a) (ha0:0<a) (ha:a≤256) (hbm:base≤mp):Calls Tryz.prog 106 #[.pointer (some ⟨M,0,none⟩),.string s] w (MaP3 base M T G cp a E en mp s w):=by
 have HI:Hid (MtrI w base M T G cp a E en mp∧StU w mp E en∧base≤w.heap.size):=⟨h,hm,by have:=h.ltM;omega⟩;have HT:Hid (∀b p,T b p=true→p<a):=hT;have HWi:Hid (∀wx:World,Calls Tryz.prog 137 #[.agg #[.int .u64 0,.int .u64 0,.int .u64 0,.int .u64 0],.int .i64 0] wx fun e w'=>e=.returned (psV (sOne 0))∧Below wx.heap.size wx w'):=fun wx=>by have:=yFa sNo 0 (by omega) wx;rw[show sOr sNo (sOne 0)=sOne 0 by funext p;simp[sOr,sNo],yT5]at this;exact this
 have zs:¬(200:Int)<(s.size:Int):=by omega
 have hone:∀p,sOne 0 p=true→p<a:=fun p hp=>by
  have h0:p=0:=by simpa [sOne]using hp
  omega
 clear h hm hT;go_enter Tryz.func106,Tryz.ntmps106;go_wp2_with fail;refine(HWi.out _).mono ?_;rintro e w1 ⟨rfl,hb1⟩;have HSt:Hid (Calls Tryz.prog 138 #[.pointer (some ⟨M,0,none⟩),psV (sOne 0)] w1 (StW base M T G cp a E en mp (sOne 0) w1)):=yM7 (sOne 0) w1 (HI.1.below hb1) (HI.2.1.chg (S:=fun _=>False) (Chg.of_below hb1) (fun q=>q)) hone ha hbm;go_wp2_with fail;refine HSt.mono ?_;rintro e w2 ⟨rfl,H2⟩;obtain⟨W3,hW3⟩:=qE (w2.alloc (.cells (stL (ahd E (sOne 0)) (acc en (sOne 0))).toArray 188):World);have k3:Below w2.heap.size w2 W3:=by rw[hW3];exact qB
 have hsz:w.heap.size≤w2.heap.size:=Nat.le_trans hb1.size H2.2.2.size;have hx2:Chg (fun k=>k=mp) w w2:=(Chg.of_below hb1).trans H2.2.2;obtain⟨b5,hb5⟩:=qE w2.heap.size;have HW3:Hid (MaU w base M T G cp a E en mp b5 (sOne 0) W3∧w.heap.size≤b5):=by have b3:=yAa w2 (base:=w.heap.size) (t:=188) (sz:=5) (stL (ahd E (sOne 0)) (acc en (sOne 0))).toArray hsz rfl;exact⟨⟨H2.1.below k3,H2.2.1.chg (S:=fun _=>False) (Chg.of_below k3) (fun q=>q),by rw[hW3,hb5];exact b3,hx2.trans (Chg.of_below k3)⟩,by omega⟩
 go_upto_region 4 with fail;have hW3':=hW3;simp only[stL]at hW3';rw[←hW3',←hb5];clear hW3 hW3' k3 hsz hx2 hb5 H2 HSt hb1;go_wp2_with fail;go_loopw[6] (fun iv wr=>∃k:Nat,k≤s.size∧iv=.int .i64 k∧Hid (MaU w base M T G cp a E en mp b5 (runS E T (sOne 0) ((sb s).take k)) wr)) (fun iv _=>s.size-(intOf iv).toNat);case atStart=>exact⟨0,Nat.zero_le _,rfl,HW3.1⟩
 case round=>
  obtain⟨k,hk,rfl,HJ⟩:=hrel;by_cases hlt:k<s.size
  ·have zk:(k:Int)<(s.size:Int):=by omega
   obtain⟨x,hx⟩:∃x,(sb s)[k]?=some x:=⟨_,List.getElem?_eq_getElem (by rw[yAd];exact hlt)⟩;obtain⟨_,gx⟩:=yA4 hx;obtain⟨Sk,hSk⟩:=qE (runS E T (sOne 0) ((sb s).take k));have hxl:x.toNat<256:=x.toNat_lt;rw[←hSk]at HJ;have HN:Hid (runS E T (sOne 0) ((sb s).take (k+1))=stp E T Sk x∧True∧runS E T (sOne 0) (sb s)=runS E T (stp E T Sk x) ((sb s).drop (k+1))):=by
    have h1:(sb s).take (k+1)=(sb s).take k++ [x]:=by rw[List.take_add_one,hx];rfl
    have h2:runS E T (sOne 0) ((sb s).take (k+1))=stp E T Sk x:=by rw[h1,yNc,←hSk]
    refine⟨h2,trivial,?_⟩;rw[←h2,←yQm,List.take_append_drop]
   have HSk:Hid (∀X,MaU w base M T G cp a E en mp b5 Sk X→(X.cell? ⟨b5,0,none⟩=some (.int .u64 (wdN (ahd E Sk) 0:Int))∧X.cell? ⟨b5,1,none⟩=some (.int .u64 (wdN (ahd E Sk) 1:Int))∧X.cell? ⟨b5,2,none⟩=some (.int .u64 (wdN (ahd E Sk) 2:Int))∧X.cell? ⟨b5,3,none⟩=some (.int .u64 (wdN (ahd E Sk) 3:Int))∧X.cell? ⟨M,x.toNat*4,none⟩=some (.int .u64 (wdN (T x.toNat) 0:Int))∧X.cell? ⟨M,x.toNat*4+1,none⟩=some (.int .u64 (wdN (T x.toNat) 1:Int))∧X.cell? ⟨M,x.toNat*4+2,none⟩=some (.int .u64 (wdN (T x.toNat) 2:Int))∧X.cell? ⟨M,x.toNat*4+3,none⟩=some (.int .u64 (wdN (T x.toNat) 3:Int)))):=fun X h=>by obtain⟨g0,g1,g2,g3,_⟩:=h.mtr.taken4 hxl;exact⟨h.box.cell (j:=0) rfl,h.box.cell (j:=1) rfl,h.box.cell (j:=2) rfl,h.box.cell (j:=3) rfl,g0,g1,g2,g3⟩
   have HCm:Hid (∀wx:World,Calls Tryz.prog 139 #[psV (ahd E Sk),psV (T x.toNat)] wx fun e w'=>e=.returned (psV (stp E T Sk x))∧Below wx.heap.size wx w'):=fun wx=>by have:=yKd (ahd E Sk) (T x.toNat) wx;unfold stp;exact this
   have zx:(x.toNat:Int)<256:=by omega
   have HX:Hid ((sb s)[k]?=some x):=hx;clear hx hSk;go_upto_region 7 with fail;refine yAb 99 (fun wz=>wz.cell? ⟨b5,0,none⟩=some (.int .u64 (wdN (ahd E Sk) 0:Int))∧wz.cell? ⟨b5,1,none⟩=some (.int .u64 (wdN (ahd E Sk) 1:Int))∧wz.cell? ⟨b5,2,none⟩=some (.int .u64 (wdN (ahd E Sk) 2:Int))∧wz.cell? ⟨b5,3,none⟩=some (.int .u64 (wdN (ahd E Sk) 3:Int))∧wz.cell? ⟨M,x.toNat*4,none⟩=some (.int .u64 (wdN (T x.toNat) 0:Int))∧wz.cell? ⟨M,x.toNat*4+1,none⟩=some (.int .u64 (wdN (T x.toNat) 1:Int))∧wz.cell? ⟨M,x.toNat*4+2,none⟩=some (.int .u64 (wdN (T x.toNat) 2:Int))∧wz.cell? ⟨M,x.toNat*4+3,none⟩=some (.int .u64 (wdN (T x.toNat) 3:Int))) (by kernel_rfl) ?_;refine j12a 0 (HSk.out _ (HJ.below ((Below.refl _ _).drew))) ?_;iterate 9 refine j12b (HSk.out _ (HJ.below ((Below.refl _ _).drew))) ?_
   refine yEb (i:=10) (j:=11) (by kernel_rfl) rfl rfl (fun K hK=>?_) (fun K hK=>?_)
   ·go_simp;refine(HCm.out _).mono ?_;rintro r v3 ⟨rfl,hb3⟩;have HV:Hid (MaU w base M T G cp a E en mp b5 Sk v3):=HJ.below (((Below.refl wr.heap.size wr).drew).trans hb3);refine hK.out _ _ (.inr (HSk.out _ HV.out)) ?_;clear hK hb3;refine jS ?_;refine qO 11 rfl fun K hK=>?_;go_simp;refine hK.out _ _ (.inr (HSk.out _ (HV.below (by repeat (first|exact Below.refl _ _|refine Below.drew ?_|refine Below.alloc ?_ (Nat.le_refl _) _|refine yAc ?_ (Nat.le_refl _) _ _))))) ?_;clear hK;refine jS ?_;refine qO 12 rfl fun K hK=>?_;go_simp;refine hK.out _ _ (.inr (HSk.out _ (HV.below (by repeat (first|exact Below.refl _ _|refine Below.drew ?_|refine Below.alloc ?_ (Nat.le_refl _) _|refine yAc ?_ (Nat.le_refl _) _ _))))) ?_;clear hK;refine jS ?_;refine qD ?_;obtain⟨W4,hW4⟩:=qE (v3.alloc (.cells (psL (stp E T Sk x)).toArray 178):World);have k4:Below v3.heap.size v3 W4:=by rw[hW4];exact qB
    have HW4:Hid (MaU w base M T G cp a E en mp b5 Sk W4∧yA W4 w.heap.size 178 4 v3.heap.size (psL (stp E T Sk x))):=by have b4:=yAa v3 (base:=w.heap.size) (t:=178) (sz:=4) (psL (stp E T Sk x)).toArray HV.chg.size rfl;exact⟨HV.below k4,by rw[hW4];exact b4⟩
    have hW4':=hW4;simp only[psL]at hW4';rw[←hW4'];clear hW4 hW4' k4;exact zzQ11
   ·go_simp;refine hK.out _ _ (.inr (HSk.out _ (HJ.below (by repeat (first|exact Below.refl _ _|refine Below.drew ?_|refine Below.alloc ?_ (Nat.le_refl _) _|refine yAc ?_ (Nat.le_refl _) _ _))))) ?_;clear hK;refine jS ?_;have hX:Below wr.heap.size wr (wr.alloc (.cells z4 178)).drew:=(qB).drew;have hBX:yA (wr.alloc (.cells z4 178)).drew w.heap.size 178 4 wr.heap.size z4.toList:=(yAa wr z4 HJ.chg.size rfl).below ((Below.refl _ _).drew);refine qO 10 rfl fun K hK=>?_;go_simp;refine(HCm.out _).mono ?_;rintro r v3 ⟨rfl,hb3⟩;have HV:Hid (MaU w base M T G cp a E en mp b5 Sk v3):=HJ.below (hX.trans (hb3.mono hX.size));have HBx:Hid (yA v3 w.heap.size 178 4 wr.heap.size z4.toList):=hBX.below hb3;have y0:=HBx.cell (j:=0) rfl;have o0:=HBx.frozen 0;have y1:=HBx.cell (j:=1) rfl;have o1:=HBx.frozen 1;have y2:=HBx.cell (j:=2) rfl;have o2:=HBx.frozen 2;have y3:=HBx.cell (j:=3) rfl;have o3:=HBx.frozen 3;have hrow:∀cs:World,Chg (fun j=>j=wr.heap.size) v3 cs→MaU w base M T G cp a E en mp b5 Sk cs:=fun cs hc=>by
     have h:=HV.out;have hbs:=HI.2.2;have hws:=HJ.chg.size;obtain⟨_,D,hD⟩:=h.map;have n1:¬M=wr.heap.size:=by have:=HJ.mtr.ltM.2;omega
     have n2:¬G=wr.heap.size:=by have:=HJ.mtr.ltG.2;omega
     have n3:¬mp=wr.heap.size:=StD.ne hD HBx.out;have n4:¬b5=wr.heap.size:=by have:=HJ.box.lt.2;omega
     exact⟨h.mtr.chg hc n1 n2 (fun j q=>by omega),h.map.chg hc n3,h.box.chg hc n4,yF2 h.chg (hc.mono (fun j q=>by omega))⟩
    have HRow:Hid (∀cs:World,Chg (fun j=>j=wr.heap.size) v3 cs→MaU w base M T G cp a E en mp b5 Sk cs):=hrow;refine hK.out _ _ (.inr (HSk.out _ HV.out)) ?_;clear hK hb3 hX hBX hrow;refine jS ?_;refine qO 12 rfl fun K hK=>?_;go_simp;refine hK.out _ _ (.inr (HSk.out _ (HRow.out _ ((((Chg.of_set (S:=fun j=>j=wr.heap.size) _ wr.heap.size 0 _ rfl).trans (Chg.of_set (S:=fun j=>j=wr.heap.size) _ wr.heap.size 1 _ rfl)).trans (Chg.of_set (S:=fun j=>j=wr.heap.size) _ wr.heap.size 2 _ rfl)).trans (Chg.of_set (S:=fun j=>j=wr.heap.size) _ wr.heap.size 3 _ rfl))))) ?_;clear hK;refine jS ?_;refine qD ?_;obtain⟨W4,hW4⟩:=qE (set4 v3 wr.heap.size 0 (stp E T Sk x):World);have HW4:Hid (MaU w base M T G cp a E en mp b5 Sk W4∧yA W4 w.heap.size 178 4 wr.heap.size (psL (stp E T Sk x))):=by
     have hc:Chg (fun j=>j=wr.heap.size) v3 W4:=by rw[hW4];exact yBj _ _ _ _ rfl
     have b4:=yFv HBx.out 0 (stp E T Sk x);rw[←hW4]at b4;exact⟨HRow.out _ hc,b4⟩
    have hW4':=hW4;simp only[set4,Nat.zero_add]at hW4';rw[←hW4'];clear hW4 hW4' y0 y1 y2 y3 o0 o1 o2 o3;exact zzQ11
  ·obtain rfl:k=s.size:=by omega
   have zk:¬(s.size:Int)<(s.size:Int):=by omega
   have r4:=HJ.box.cell (j:=4) rfl;have HFl:Hid ((sb s).take s.size=sb s):=by show _=_;rw[←yAd,List.take_length]
   go_wp2_with fail;go_ret;exact⟨_,rfl,by rw[HFl.out],HJ.mtr,HJ.map,HJ.chg⟩
abbrev InB (lo hi k:Nat):Prop:=lo≤k∧k<hi
structure MchJ (w:World) (lo hi M:Nat) (p:ByteArray) (T:Nat→PS) (G cp a:Nat) (E:Nat→PS) (en:PS) (mp:Nat) (os:List (List Pat)) (n:Nat):Prop where
 gr:AltG (yAz n) os (sb p)
 chk:(yAr (sb p)).1=0
 mtr:MtrI w lo M T G cp a E en mp
 map:StU w mp E en
 tk:∀b p,T b p=true→p<a
 pos:0<a
 le:a≤256
 low:lo≤mp
 hM:M<hi
 hG:G<hi
 hm:mp<hi
 acc:∀s:List UInt8,acc en (runS E T (sOne 0) s)=true↔LgA os s
def yK7 (w:World) (lo hi M:Nat) (p:ByteArray):Prop:=∃T G cp a E en mp os n,MchJ w lo hi M p T G cp a E en mp os n
variable {S:Nat→Prop}
theorem MtrI.chg2 (h:MtrI w base M T G cp a E en mp) (hc:Chg S w w') (hM:¬S M) (hG:¬S G) (h0:¬S 1):MtrI w' base M T G cp a E en mp:=
 ⟨h.box.chg hc hM,yAp h.row hc (fun k q=>by simp[Value.ownBlock]at q;subst q;exact hG),h.new,h.tab.chg hc h0,h.low⟩
theorem yO5 {base' t sz n:Nat} {v:Value} {vs:List Value} (h:w.ownsRow base t sz v n vs) (hb:base'≤base):w.ownsRow base' t sz v n vs:=by
 rcases h.2 with q|⟨g,cap,cur,h1,h2,h3⟩
 ·exact⟨h.1,.inl q⟩
 ·exact⟨h.1,.inr ⟨g,cap,cur,h1,by omega,h3⟩⟩
variable {lo hi:Nat} {p:ByteArray}
theorem yK7.chg (h:yK7 w lo hi M p) (hc:Chg S w w') (hS:∀k,S k→¬InB lo hi k) (ht:1<lo→¬S 1):yK7 w' lo hi M p:=by obtain⟨T,G,cp,a,E,en,mp,os,n,h⟩:=h;exact⟨T,G,cp,a,E,en,mp,os,n,h.gr,h.chk,h.mtr.chg2 hc (fun q=>hS _ q ⟨h.mtr.ltM.1,h.hM⟩) (fun q=>hS _ q ⟨h.mtr.ltG.1,h.hG⟩) (ht h.mtr.low),h.map.chg hc (fun q=>hS _ q ⟨h.low,h.hm⟩),h.tk,h.pos,h.le,h.low,h.hM,h.hG,h.hm,h.acc⟩
def MtP (w:World) (lo hi M:Nat) (p s:ByteArray) (e:Ending) (w':World):Prop:=e=.returned (.bool (mtB p s))∧Hid (yK7 w' lo hi M p∧Chg (InB lo hi) w w')
theorem yPb (h:yK7 w lo hi M p) (s:ByteArray):Calls Tryz.prog 106 #[.pointer (some ⟨M,0,none⟩),.string s] w (MtP w lo hi M p s):=by
 obtain⟨T,G,cp,a,E,en,mp,os,n,h⟩:=h;by_cases hs:s.size≤200
 ·refine(yPc s hs w h.mtr h.map h.tk h.pos h.le h.low).mono ?_;rintro e w' ⟨b,rfl,H⟩;have hb:MatB p s b:=.inr ⟨h.chk,n,os,h.gr,by rw[H.1,h.acc];exact⟨fun q=>⟨hs,q⟩,fun q=>q.2⟩⟩;rw[yUp hb];exact⟨rfl,⟨T,G,cp,a,E,en,mp,os,n,h.gr,h.chk,H.2.1,H.2.2.1,h.tk,h.pos,h.le,h.low,h.hM,h.hG,h.hm,h.acc⟩,H.2.2.2.mono (fun k q=>by subst q;exact⟨h.low,h.hm⟩)⟩
 ·refine(yNo M s (by omega) w).mono ?_;rintro e w' ⟨rfl,rfl⟩;have hb:MatB p s false:=.inr ⟨h.chk,n,os,h.gr,⟨fun q=>(by cases q),fun q=>absurd q.1 hs⟩⟩;exact⟨by rw[←yUp hb],⟨T,G,cp,a,E,en,mp,os,n,h⟩,Chg.refl _ _⟩
def PatK (k:Int):Prop:=k=4∨k=5∨k=6∨k=7
def yCu (w:World) (lo hi:Nat) (n:Nd) (mv:Value):Prop:=(¬PatK n.kind∧mv=.pointer none)∨(PatK n.kind∧∃M,mv=.pointer (some ⟨M,0,none⟩)∧yK7 w lo hi M n.s)
theorem yK7.wide {lo' hi':Nat} (h:yK7 w lo hi M p) (hl:lo'≤lo) (hh:hi≤hi') (ht:1<lo'):yK7 w lo' hi' M p:=by obtain⟨T,G,cp,a,E,en,mp,os,n,h⟩:=h;exact⟨T,G,cp,a,E,en,mp,os,n,h.gr,h.chk,⟨yO5 h.mtr.box hl,yO5 h.mtr.row hl,h.mtr.new,h.mtr.tab,ht⟩,h.map,h.tk,h.pos,h.le,Nat.le_trans hl h.low,Nat.lt_of_lt_of_le h.hM hh,Nat.lt_of_lt_of_le h.hG hh,Nat.lt_of_lt_of_le h.hm hh,h.acc⟩
variable {mv:Value}
theorem yCu.chg (h:yCu w lo hi n mv) (hc:Chg S w w') (hS:∀k,S k→¬InB lo hi k) (ht:1<lo→¬S 1):yCu w' lo hi n mv:=by
 rcases h with h|⟨h1,M,h2,h3⟩
 ·exact .inl h
 ·exact .inr ⟨h1,M,h2,h3.chg hc hS ht⟩
theorem yCu.below (h:yCu w lo hi n mv) (hb:Below w.heap.size w w'):yCu w' lo hi n mv:=h.chg (S:=fun _=>False) (Chg.of_below hb) (fun k q=>q.elim) (fun _ q=>q)
def HoP (w:World) (lo hi:Nat) (n:Nd) (c:Ent) (mv:Value) (e:Ending) (w':World):Prop:=e=.returned (.bool (tstB n c))∧Hid (yCu w' lo hi n mv∧Chg (InB lo hi) w w')
theorem inS_eq (x:ByteArray) (n:Nd):inS x n=inR n.s n.hi n.t x:=rfl
theorem yTz (s t:ByteArray) (h:Bool) (w:World):(Instr.build 193 #[(0,.string s),(1,.bool h),(2,.string t)]).run Tryz.prog w=.ok (.agg #[.string s,.bool h,.string t]) w:=by kernel_rfl
theorem yLy (n:Nd) (mp:Option Addr) (x:ByteArray) (w:World):Calls Tryz.prog 107 #[.agg #[.int .i64 n.kind,.string n.s,.bool n.hi,.string n.t,.int .u64 n.lo,.int .u64 n.up,.int .i64 n.n,.pointer mp],.string x] w fun e w'=>e=.returned (.bool (inS x n))∧Below w.heap.size w w':=by
 have HI:Hid (∀w,Calls Tryz.prog 140 #[.agg #[.string n.s,.bool n.hi,.string n.t],.string x] w fun e w'=>e=.returned (.bool (inS x n))∧Below w.heap.size w w'):=fun w=>by rw[inS_eq];exact yIw n.s n.t x n.hi w
 have hbd:=yTz n.s n.t n.hi;obtain⟨W1,hW1⟩:=qE (w.alloc (.cells #[.int .i64 n.kind,.string n.s,.bool n.hi,.string n.t,.int .u64 n.lo,.int .u64 n.up,.int .i64 n.n,.pointer mp] 111):World);have HW1:Hid (Below w.heap.size w W1):=by rw[hW1];exact qB
 go_enter Tryz.func107,Tryz.ntmps107;go_wp2_with fail;rw[←hW1];clear hW1 hbd;refine(HI.out W1).mono ?_;rintro e w2 ⟨rfl,hb2⟩;have HE:Hid (Below w.heap.size w w2):=HW1.trans (hb2.mono HW1.size);clear hb2;go_wp2_with fail;go_ret;exact⟨rfl,HE.out⟩
theorem ySl (n:Nd) (c:Ent) (mv:Value) (w:World) (bl bh:Nat) (hT:yCu w bl bh n mv) (hb:bh≤w.heap.size):∃mp:Option Addr,mv=.pointer mp∧Calls Tryz.prog 74 #[.agg #[.int .i64 n.kind,.string n.s,.bool n.hi,.string n.t,.int .u64 n.lo,.int .u64 n.up,.int .i64 n.n,.pointer mp],c.c] w (HoP w bl bh n c mv):=by
 obtain⟨mp,hmp⟩:∃mp:Option Addr,mv=.pointer mp:=by
  rcases hT with⟨_,h⟩|⟨_,M,h,_⟩
  ·exact⟨_,h⟩
  ·exact⟨_,h⟩
 subst hmp;refine⟨mp,rfl,?_⟩;have HT:Hid (yCu w bl bh n (.pointer mp)):=hT;obtain⟨k,s,hi,t,lo,up,nn⟩:=n;have HS:Hid (∀(x:ByteArray) (w:World),Calls Tryz.prog 107 #[.agg #[.int .i64 k,.string s,.bool hi,.string t,.int .u64 lo,.int .u64 up,.int .i64 nn,.pointer mp],.string x] w fun e w'=>e=.returned (.bool (inS x ⟨k,s,hi,t,lo,up,nn⟩))∧Below w.heap.size w w'):=fun x w=>yLy ⟨k,s,hi,t,lo,up,nn⟩ mp x w;obtain⟨res,hres⟩:=qE (tstB ⟨k,s,hi,t,lo,up,nn⟩ c);have HR:Hid (res=tstB ⟨k,s,hi,t,lo,up,nn⟩ c):=hres;obtain⟨W2,hW2⟩:=qE ((w.alloc (.cells #[.int .i64 k,.string s,.bool hi,.string t,.int .u64 lo,.int .u64 up,.int .i64 nn,.pointer mp] 111)).alloc (.cells #[.string c.row,.string c.fam,.string c.qual,.int .u64 c.ts,.string c.val] 55):World);have HW2:Hid (Below w.heap.size w W2):=by rw[hW2];exact(qB).alloc (by simp) _
 have HFin:Hid (∀wx,Below w.heap.size w wx→HoP w bl bh ⟨k,s,hi,t,lo,up,nn⟩ c (.pointer mp) (.returned (.bool res)) wx):=fun wx hx=>⟨by rw[HR.out],HT.below hx,Chg.of_below hx⟩;have HFn2:Hid (∀wx,yCu wx bl bh ⟨k,s,hi,t,lo,up,nn⟩ (.pointer mp)→Chg (InB bl bh) w wx→HoP w bl bh ⟨k,s,hi,t,lo,up,nn⟩ c (.pointer mp) (.returned (.bool res)) wx):=fun wx h1 h2=>⟨by rw[HR.out],h1,h2⟩;have HMt:Hid (PatK k→∀x:ByteArray,Calls Tryz.prog 106 #[.pointer mp,.string x] W2 fun e w'=>e=.returned (.bool (mtB s x))∧yCu w' bl bh ⟨k,s,hi,t,lo,up,nn⟩ (.pointer mp)∧Chg (InB bl bh) w w'):=fun hp x=>by
  rcases HT.below HW2.out with⟨q,_⟩|⟨_,M,q,hM⟩
  ·exact absurd hp q
  ·cases q
   refine(yPb hM x).mono ?_;rintro e w' ⟨rfl,H⟩;exact⟨rfl,.inr ⟨hp,M,rfl,H.1⟩,(Chg.of_below HW2.out).trans H.2⟩
 clear hres hT;by_cases h1:k=1
 ·subst h1;have hv:res=true:=HR.trans (by simp[tstB]);exact yYd
 have b1:(k==1)=false:=by rw[beq_eq_false_iff_ne];exact h1
 by_cases h3:k=3
 ·subst h3;have hv:res=true:=HR.trans (by simp[tstB]);exact yYd
 have b3:(k==3)=false:=by rw[beq_eq_false_iff_ne];exact h3
 by_cases h4:k=4
 ·subst h4;have hv:res=mtB s c.row:=HR.trans (by simp[tstB]);have HM1:Hid (Calls Tryz.prog 106 #[.pointer mp,.string c.row] W2 fun e w'=>e=.returned (.bool (mtB s c.row))∧yCu w' bl bh ⟨4,s,hi,t,lo,up,nn⟩ (.pointer mp)∧Chg (InB bl bh) w w'):=HMt.out (by unfold PatK;omega) c.row;go_enter Tryz.func74,Tryz.ntmps74;go_wp2_with fail;rw[←hW2];clear hW2;refine HM1.mono ?_;rintro e w1 ⟨rfl,h1,h2⟩;have HE:Hid (HoP w bl bh ⟨4,s,hi,t,lo,up,nn⟩ c (.pointer mp) (.returned (.bool res)) w1):=HFn2.out w1 h1 h2;clear h1 h2;go_wp2_with fail;go_ret;exact hv▸HE.out
 have b4:(k==4)=false:=by rw[beq_eq_false_iff_ne];exact h4
 by_cases h5:k=5
 ·subst h5;have hv:res=mtB s c.fam:=HR.trans (by simp[tstB]);have HM1:Hid (Calls Tryz.prog 106 #[.pointer mp,.string c.fam] W2 fun e w'=>e=.returned (.bool (mtB s c.fam))∧yCu w' bl bh ⟨5,s,hi,t,lo,up,nn⟩ (.pointer mp)∧Chg (InB bl bh) w w'):=HMt.out (by unfold PatK;omega) c.fam;go_enter Tryz.func74,Tryz.ntmps74;go_wp2_with fail;rw[←hW2];clear hW2;refine HM1.mono ?_;rintro e w1 ⟨rfl,h1,h2⟩;have HE:Hid (HoP w bl bh ⟨5,s,hi,t,lo,up,nn⟩ c (.pointer mp) (.returned (.bool res)) w1):=HFn2.out w1 h1 h2;clear h1 h2;go_wp2_with fail;go_ret;exact hv▸HE.out
 have b5:(k==5)=false:=by rw[beq_eq_false_iff_ne];exact h5
 by_cases h6:k=6
 ·subst h6;have hv:res=mtB s c.qual:=HR.trans (by simp[tstB]);have HM1:Hid (Calls Tryz.prog 106 #[.pointer mp,.string c.qual] W2 fun e w'=>e=.returned (.bool (mtB s c.qual))∧yCu w' bl bh ⟨6,s,hi,t,lo,up,nn⟩ (.pointer mp)∧Chg (InB bl bh) w w'):=HMt.out (by unfold PatK;omega) c.qual;go_enter Tryz.func74,Tryz.ntmps74;go_wp2_with fail;rw[←hW2];clear hW2;refine HM1.mono ?_;rintro e w1 ⟨rfl,h1,h2⟩;have HE:Hid (HoP w bl bh ⟨6,s,hi,t,lo,up,nn⟩ c (.pointer mp) (.returned (.bool res)) w1):=HFn2.out w1 h1 h2;clear h1 h2;go_wp2_with fail;go_ret;exact hv▸HE.out
 have b6:(k==6)=false:=by rw[beq_eq_false_iff_ne];exact h6
 by_cases h7:k=7
 ·subst h7;have hv:res=mtB s c.val:=HR.trans (by simp[tstB]);have HM1:Hid (Calls Tryz.prog 106 #[.pointer mp,.string c.val] W2 fun e w'=>e=.returned (.bool (mtB s c.val))∧yCu w' bl bh ⟨7,s,hi,t,lo,up,nn⟩ (.pointer mp)∧Chg (InB bl bh) w w'):=HMt.out (by unfold PatK;omega) c.val;go_enter Tryz.func74,Tryz.ntmps74;go_wp2_with fail;rw[←hW2];clear hW2;refine HM1.mono ?_;rintro e w1 ⟨rfl,h1,h2⟩;have HE:Hid (HoP w bl bh ⟨7,s,hi,t,lo,up,nn⟩ c (.pointer mp) (.returned (.bool res)) w1):=HFn2.out w1 h1 h2;clear h1 h2;go_wp2_with fail;go_ret;exact hv▸HE.out
 have b7:(k==7)=false:=by rw[beq_eq_false_iff_ne];exact h7
 by_cases h8:k=8
 ·subst h8;have hv:res=inS c.row ⟨8,s,hi,t,lo,up,nn⟩:=HR.trans (by simp[tstB]);go_enter Tryz.func74,Tryz.ntmps74;go_wp2_with fail;rw[←hW2];clear hW2;refine(HS.out c.row W2).mono ?_;rintro e w1 ⟨rfl,hb1⟩;have HE:Hid (HoP w bl bh ⟨8,s,hi,t,lo,up,nn⟩ c (.pointer mp) (.returned (.bool res)) w1):=HFin.out w1 (HW2.trans (hb1.mono HW2.size));clear hb1;go_wp2_with fail;go_ret;exact hv▸HE.out
 have b8:(k==8)=false:=by rw[beq_eq_false_iff_ne];exact h8
 by_cases h9:k=9
 ·subst h9;have hv:res=inS c.qual ⟨9,s,hi,t,lo,up,nn⟩:=HR.trans (by simp[tstB]);go_enter Tryz.func74,Tryz.ntmps74;go_wp2_with fail;rw[←hW2];clear hW2;refine(HS.out c.qual W2).mono ?_;rintro e w1 ⟨rfl,hb1⟩;have HE:Hid (HoP w bl bh ⟨9,s,hi,t,lo,up,nn⟩ c (.pointer mp) (.returned (.bool res)) w1):=HFin.out w1 (HW2.trans (hb1.mono HW2.size));clear hb1;go_wp2_with fail;go_ret;exact hv▸HE.out
 have b9:(k==9)=false:=by rw[beq_eq_false_iff_ne];exact h9
 by_cases h10:k=10
 ·subst h10;have hv:res=(decide (lo≤c.ts) && (!hi || decide (c.ts<up))):=HR.trans (by simp[tstB]);have HE:Hid (HoP w bl bh ⟨10,s,hi,t,lo,up,nn⟩ c (.pointer mp) (.returned (.bool (decide (lo≤c.ts) && (!hi || decide (c.ts<up))))) W2):=by rw[←hv];exact HFin.out W2 HW2.out
  clear hv;by_cases g1:lo≤c.ts<;>cases hi<;>by_cases g2:c.ts<up
  all_goals simp only[g1,g2,decide_true,decide_false,Bool.not_true,Bool.not_false,Bool.true_and,Bool.false_and,Bool.true_or,Bool.false_or]at HE
  all_goals go_enter Tryz.func74,Tryz.ntmps74
  all_goals go_wp2_with fail
  all_goals rw[←hW2]
  all_goals go_ret
  all_goals exact HE.out
 have b10:(k==10)=false:=by rw[beq_eq_false_iff_ne];exact h10
 have hv:res=false:=HR.trans (by simp[tstB,h1,h3,h4,h5,h6,h7,h8,h9,h10]);exact yYd
structure KeJ (w:World) (lo hi:Nat) (n:Nd) (mv:Value) (g cp:Nat) (L:List Ent) (wr:World):Prop where
 own:OwnC wr w.heap.size g cp L
 tst:yCu wr lo hi n mv
 chg:Chg (InB lo hi) w wr
theorem KeJ.move {g:Nat} {wr:World} (h:KeJ w lo hi n mv g cp L wr) (hb:Below wr.heap.size wr w'):KeJ w lo hi n mv g cp L w':=
 ⟨h.own.below hb h.own.lt.2,h.tst.below hb,h.chg.trans (Chg.of_below hb)⟩
theorem KeJ.run {g:Nat} {wr:World} (h:KeJ w lo hi n mv g cp L wr) (hh:hi≤w.heap.size) (ht:yCu w' lo hi n mv) (hc:Chg (InB lo hi) wr w'):KeJ w lo hi n mv g cp L w':=
 ⟨yAp h.own hc (fun k q z=>by simp[Value.ownBlock]at q;subst q;have:=h.own.lt;have:=z.2;omega),ht,h.chg.trans hc⟩
theorem KeJ.push {g g' cp':Nat} {L':List Ent} (h:KeJ w lo hi n mv g cp L X) (hh:hi≤w.heap.size) (hl:lo≤hi) (hO:OwnC w' w.heap.size g' cp' L') (hg:X.grownBy w' (some g)):KeJ w lo hi n mv g' cp' L' w':=by have hc:Chg (fun k=>k=g) X w':=Chg.of_grown hg (fun k q=>by cases q;rfl);have hgl:=h.own.lt;refine⟨hO,h.tst.chg hc (fun k q z=>by have:=z.2;omega) (fun q z=>by omega),?_⟩;exact Chg.absorb h.chg hc (fun k q=>.inr (by omega))
def yS5 (n:Nd):Prop:=¬n.kind=3∧¬n.kind=11∧¬n.kind=12∧¬n.kind=13
theorem yLb (h:yS5 n) (pre:List Ent) (c:Ent):keepB n pre c=tstB n c∧yBb n c=c:=by unfold keepB yBb;rw[if_neg h.2.1,if_neg h.2.2.1,if_neg h.2.2.2,if_neg h.1];exact⟨rfl,rfl⟩
def KeP (w:World) (lo hi:Nat) (n:Nd) (mv:Value) (es:List Ent) (e:Ending) (w':World):Prop:=∃g cp,e=.returned (.slice (some ⟨g,0,none⟩) (leafM n es).length cp)∧Hid (KeJ w lo hi n mv g cp (leafM n es) w')
variable {b:Nat}
theorem yU2 (n:Nd) (hpl:yS5 n) (mp:Option Addr) {off:Nat} (h:CSl w b off cap es) (hl:es.length≤10000) (lo hi:Nat) (hT:yCu w lo hi n (.pointer mp)) (hh:hi≤w.heap.size) (hlh:lo≤hi) (hb:¬InB lo hi b):Calls Tryz.prog 73 #[.slice (some ⟨b,off,none⟩) es.length cap,.func (Fn.func 74) #[.agg #[.int .i64 n.kind,.string n.s,.bool n.hi,.string n.t,.int .u64 n.lo,.int .u64 n.up,.int .i64 n.n,.pointer mp]] #[]] w (KeP w lo hi n (.pointer mp) es):=by
 obtain⟨N,hN⟩:=qE es.length;have HL:Hid (N=es.length∧CSl w b off cap es∧¬InB lo hi b∧hi≤w.heap.size∧lo≤hi):=⟨hN,h,hb,hh,hlh⟩;have HLM:Hid (leafM n es=leafG n [] (es.take N)):=by show _=_;rw[hN,List.take_length];rfl
 have HPl:Hid (yS5 n):=hpl;obtain⟨W0,hW0⟩:=qE (w.alloc (.cells #[] 55):World);have HJ0:Hid (KeJ w lo hi n (.pointer mp) w.heap.size 0 [] W0):=by
  have k1:Below w.heap.size w W0:=by rw[hW0];exact qB
  exact⟨by rw[hW0];exact yC7 w,hT.below k1,Chg.of_below k1⟩
 have HHo:Hid (∀(c:Ent) (wx:World),yCu wx lo hi n (.pointer mp)→hi≤wx.heap.size→Calls Tryz.prog 74 #[.agg #[.int .i64 n.kind,.string n.s,.bool n.hi,.string n.t,.int .u64 n.lo,.int .u64 n.up,.int .i64 n.n,.pointer mp],c.c] wx (HoP wx lo hi n c (.pointer mp))):=fun c wx hx hz=>by
  obtain⟨mp',h1,h2⟩:=ySl n c (.pointer mp) wx lo hi hx hz;cases h1
  exact h2
 rw[←hN];rw[←hN]at hl;clear h hT hh hlh hb hpl hN;go_enter Tryz.func73,Tryz.ntmps73;go_wp2_with fail;rw[←hW0];clear hW0;go_loopw[5,11] (fun o iv wr=>∃(i g cp m:Nat),i≤N∧iv=.int .i64 (i:Int)∧o=.slice (some ⟨g,0,none⟩) m cp∧Hid (m=(leafG n [] (es.take i)).length∧KeJ w lo hi n (.pointer mp) g cp (leafG n [] (es.take i)) wr)) (fun _ iv _=>N-(intOf iv).toNat);case atStart=>exact⟨0,w.heap.size,0,0,Nat.zero_le _,rfl,rfl,rfl,HJ0.out⟩
 case round=>
  obtain⟨i,g,cp,m,hiN,rfl,rfl,HJ⟩:=hrel;by_cases hlt:i<N
  ·have zi:(i:Int)<(N:Int):=by omega
   obtain⟨c,hc⟩:∃c,es[i]?=some c:=⟨_,List.getElem?_eq_getElem (by have:=HL.1;omega)⟩;have HStep:Hid (leafG n [] (es.take (i+1))=leafG n [] (es.take i)++(if tstB n c then [c]else [])):=by show _=_;rw[yJv n hc,(yLb HPl.out (es.take i) c).1,(yLb HPl.out (es.take i) c).2]
   have HM:Hid (m=(leafG n [] (es.take i)).length):=HJ.1;have hml:m≤10000:=by rw[HJ.1];refine Nat.le_trans (yH _ _ _) ?_;rw[List.length_take];omega
   obtain⟨c0,c1,c2,c3,c4⟩:=(HL.2.1.chg HJ.2.chg HL.2.2.1).at_ i c hc;obtain⟨W1,hW1⟩:=qE (wr.alloc (.cells #[.string c.row,.string c.fam,.string c.qual,.int .u64 c.ts,.string c.val] 55):World);have hb1:Below wr.heap.size wr W1:=by rw[hW1];exact qB
   obtain⟨cb,hcb⟩:=qE wr.heap.size;have hsz:=HJ.2.chg.size;have HB1:Hid (KeJ w lo hi n (.pointer mp) g cp (leafG n [] (es.take i)) W1∧yA W1 w.heap.size 55 5 cb c.five∧hi≤W1.heap.size∧hi≤cb):=by refine⟨HJ.2.move hb1,?_,by have:=hb1.size;have:=HL.2.2.2.1;omega,by have:=HL.2.2.2.1;omega⟩;rw[hW1,hcb];exact yAa wr #[.string c.row,.string c.fam,.string c.qual,.int .u64 c.ts,.string c.val] hsz rfl
   go_upto_region 5 with fail;rw[←hW1,←hcb];clear hW1 hcb hb1 c0 c1 c2 c3 c4 hc;obtain⟨c0,c1,c2,c3,c4⟩:=HB1.2.1.c5;have HH1:Hid (Calls Tryz.prog 74 #[.agg #[.int .i64 n.kind,.string n.s,.bool n.hi,.string n.t,.int .u64 n.lo,.int .u64 n.up,.int .i64 n.n,.pointer mp],c.c] W1 (HoP W1 lo hi n c (.pointer mp))):=HHo.out c W1 HB1.1.tst HB1.2.2.1;go_wp2_with fail;refine HH1.mono ?_;rintro e w2 ⟨rfl,H2⟩;have HB2:Hid (KeJ w lo hi n (.pointer mp) g cp (leafG n [] (es.take i)) w2∧yA w2 w.heap.size 55 5 cb c.five):=by refine⟨HB1.1.run HL.2.2.2.1 H2.1 H2.2,HB1.2.1.chg H2.2 (fun q=>by have:=q.2;have:=HB1.2.2.2;omega)⟩
   clear c0 c1 c2 c3 c4 HH1;obtain⟨tb,htb⟩:=qE (tstB n c);rw[←htb];rw[←htb]at HStep;clear htb;cases tb
   ·have HN:Hid (m=(leafG n [] (es.take (i+1))).length∧KeJ w lo hi n (.pointer mp) g cp (leafG n [] (es.take (i+1))) w2):=by rw[HStep.out,if_neg (by decide),List.append_nil];exact⟨HM.out,HB2.1⟩
    exact yS8
   ·have HSt:Hid (leafG n [] (es.take (i+1))=leafG n [] (es.take i)++ [c]):=by show _=_;rw[HStep.out,if_pos rfl]
    obtain⟨d0,d1,d2,d3,d4⟩:=HB2.2.c5;have HKm:Hid (m=(leafG n [] (es.take i)).length):=HM.out;have hgl:=HB2.1.own.lt;have hz2:=HB2.1.chg.size;go_wp2_with (at_builtin;refine yAj _ rfl _ _ rfl w.heap.size g cp _ _ (leafG n [] (es.take i)) c rfl rfl HKm.out ?hO ?hc ?hl ?hb ?_);case hO=>exact HB2.1.own.below (qB) hgl.2
    case hc=>exact yBw w2 c
    case hl=>rw[←HKm.out];omega
    case hb=>simp;omega
    intro g' cp' w' hO' hgr;have HN:Hid (m+1=(leafG n [] (es.take (i+1))).length∧KeJ w lo hi n (.pointer mp) g' cp' (leafG n [] (es.take (i+1))) w'):=by rw[HSt.out];exact⟨by rw[List.length_append,←HKm.out];rfl,(HB2.1.move (qB)).push HL.2.2.2.1 HL.2.2.2.2 hO' hgr⟩
    exact yRs
  ·obtain rfl:i=N:=by omega
   have zi:¬(i:Int)<(i:Int):=by omega
   go_wp2_with fail;go_ret;refine⟨g,cp,?_,?_⟩
   ·rw[HLM.out,←HJ.1];rfl
   ·rw[HLM.out];exact HJ.2
theorem drop_cons' {l:List Ent} {i:Nat} {x:Ent} (h:l[i]?=some x):l.drop i=x::l.drop (i+1):=by exact zzQ93
theorem yJw (n:Nd) (h:n.kind=3):∀(es pre:List Ent),leafG n pre es=es.map (yBb n)
 | [],_=>rfl
 |c::es,pre=>by
  have hk:keepB n pre c=true:=by unfold keepB tstB;rw[if_neg (by omega),if_neg (by omega),if_neg (by omega),if_pos (.inr h)]
  unfold leafG
  rw[hk,if_pos rfl,yJw n h es _]
  rfl
theorem yP1 {off:Nat} (h:CSl w b off cap es) (hl:es.length≤10000):Calls Tryz.prog 103 #[.slice (some ⟨b,off,none⟩) es.length cap] w fun e w'=>∃g cp,e=.returned (.slice (some ⟨g,0,none⟩) es.length cp)∧OwnC w' w.heap.size g cp es∧Below w.heap.size w w':=by
 obtain⟨N,hN⟩:=qE es.length;have HL:Hid (CSl w b off cap es):=h;have HN:Hid (N=es.length):=hN;rw[←hN];rw[←hN]at hl;have hb1:Below w.heap.size w (w.alloc (.cells #[] 55)):=qB;have HO:Hid (OwnC (w.alloc (.cells #[] 55)) w.heap.size w.heap.size 0 []∧CSl (w.alloc (.cells #[] 55)) b off cap es):=⟨yC7 w,h.below hb1⟩;clear h hN hb1;have hnil:∀wx:World,(binOp .eql 28 (.slice (some ⟨b,off,none⟩) N cap) (.slice none 0 0)).run Tryz.prog wx=.ok (.bool false) wx:=fun wx=>Go.Lib.run_eql_slice_nil wx _ _ _ _ _ _ _ Tryz.underlying28;go_enter Tryz.func103,Tryz.ntmps103;go_wp2_with (at_builtin;refine yBa _ rfl _ _ rfl w.heap.size w.heap.size 0 0 b off N cap [] es rfl rfl rfl HN.out ?hO ?hc ?hl ?hb ?_);case hO=>exact HO.1
 case hc=>exact HO.2.at_
 case hl=>(have h9:=HN.out;simp;omega)
 case hb=>simp
 intro g' cp' w' hO' hgr;have HE:Hid (OwnC w' w.heap.size g' cp' es∧Below w.heap.size w w'):=⟨hO',(qB).grown hgr (by simp) (fun j hj=>by cases hj;omega)⟩;clear hO' hgr;go_wp2_with fail;go_ret;refine⟨g',cp',?_,HE.out⟩;first|rfl|(simp)
theorem yRy (n:Nd) (hk:n.kind=3) {off:Nat} (h:CSl w b off cap es) (hl:es.length≤10000):Calls Tryz.prog 66 #[.slice (some ⟨b,off,none⟩) es.length cap] w fun e w'=>∃g cp,e=.returned (.slice (some ⟨g,0,none⟩) (leafM n es).length cp)∧OwnC w' w.heap.size g cp (leafM n es)∧Below w.heap.size w w':=by
 obtain⟨N,hN⟩:=qE es.length;have HN:Hid (N=es.length):=hN;have HM:Hid (leafM n es=es.map (yBb n)):=yJw n hk es [];have HSt:Hid (∀c:Ent,yBb n c={c with val:=⟨#[]⟩}):=fun c=>by unfold yBb;rw[if_pos hk]
 have HCl:Hid (Calls Tryz.prog 103 #[.slice (some ⟨b,off,none⟩) N cap] w fun e w'=>∃g cp,e=.returned (.slice (some ⟨g,0,none⟩) N cp)∧OwnC w' w.heap.size g cp es∧Below w.heap.size w w'):=by rw[hN];exact yP1 h hl
 rw[←hN];rw[←hN]at hl;clear h hN hk;go_enter Tryz.func66,Tryz.ntmps66;go_wp2_with fail;refine HCl.mono ?_;rintro e w1 ⟨g,cp,rfl,hO1,hb1⟩;have HJ0:Hid (OwnC w1 w.heap.size g cp es∧Below w.heap.size w w1):=⟨hO1,hb1⟩;have hgw:=hO1.lt.1;clear hO1 hb1 HCl;go_wp2_with fail;go_loopw[9] (fun iv wr=>∃(i:Nat) (fs:List Ent),i≤N∧iv=.int .i64 (i:Int)∧Hid (fs=(es.take i).map (yBb n)++es.drop i∧OwnC wr w.heap.size g cp fs∧Below w.heap.size w wr)) (fun iv _=>N-(intOf iv).toNat);case atStart=>exact⟨0,es,Nat.zero_le _,rfl,rfl,HJ0.out⟩
 case round=>
  obtain⟨i,fs,hiN,rfl,HJ⟩:=hrel;by_cases hlt:i<N
  ·have zi:(i:Int)<(N:Int):=by omega
   obtain⟨c,hc⟩:∃c,es[i]?=some c:=⟨_,List.getElem?_eq_getElem (by have:=HN.out;omega)⟩;have hfi:fs[i]?=some c:=by rw[HJ.1,List.getElem?_append_right (by rw[List.length_map,List.length_take];omega)];rw[List.length_map,List.length_take,List.getElem?_drop];rw[show min i es.length=i by have:=HN.out;omega,Nat.sub_self,Nat.add_zero];exact hc
   obtain⟨-,-,-,-,c4⟩:=HJ.2.1.at i c hfi;simp only[Nat.zero_add]at c4;have f4:=World.ownsRow.frozenAt HJ.2.1 (i*5+4);have HJ2:Hid (∃fs',fs'=(es.take (i+1)).map (yBb n)++es.drop (i+1)∧OwnC (wr.setCell ⟨g,i*5+4,none⟩ (.string ⟨#[]⟩)) w.heap.size g cp fs'∧Below w.heap.size w (wr.setCell ⟨g,i*5+4,none⟩ (.string ⟨#[]⟩))):=by
    refine⟨fs.set i (yBb n c),?_,?_,yAc HJ.2.2 hgw _ _⟩
    ·rw[HJ.1,List.set_append_right _ _ (by rw[List.length_map,List.length_take];omega)];rw[List.length_map,List.length_take,show i-min i es.length=0 by have:=HN.out;omega];rw[drop_cons' hc,List.set_cons_zero,List.take_add_one,hc,Option.toList_some,List.map_append];simp
    ·refine HJ.2.1.set i 4 c (yBb n c) (.string ⟨#[]⟩) hfi (by omega) ?_;rw[HSt.out];rfl
   clear hfi hc;go_wp2_with fail;go_roundw;case rel=>
    obtain⟨fs',h1⟩:=HJ2.out;exact⟨i+1,fs',by omega,by go_num,h1⟩
   case measure=>go_light;simp[intOf];omega
  ·obtain rfl:i=N:=by omega
   have zi:¬(i:Int)<(i:Int):=by omega
   have HF:Hid (fs=leafM n es):=by show fs=_;rw[HJ.1,HM.out,List.drop_of_length_le (by rw[←HN.out];exact Nat.le_refl _),List.append_nil,HN.out,List.take_length]
   go_wp2_with fail;go_ret;refine⟨g,cp,?_,?_,HJ.2.2⟩
   ·rw[HM.out,List.length_map,←HN.out];rfl
   ·rw[←HF.out];exact HJ.2.1
end Go.Proofs.YtkidabedcgngcaaGreatDoor
