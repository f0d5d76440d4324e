import Derived.Test.YtnnagkfoiganfaaGreatDoorFkAR
import Derived.Test.YtnnagkfoiganfaaGreatDoorFkAS
import Derived.Test.YtnnagkfoiganfaaGreatDoorFkAN
namespace Go.Proofs.YtnnagkfoiganfaaGreatDoor
open Go.ChangeShapes Go.WideShapes Go.ChangeAt Go.RowKit Go.Deep XD XI XU XG XP XK XW XT XF XE XH XY _root_.List _root_.Nat Go.Proofs.Tryz
open _root_.Bool renaming false_eq_true->AH,and_eq_true->AI,or_eq_false_iff->Ac,or_eq_true->Ah,not_eq_true'->Ax,noConfusion->A0
open _root_.Go.Lib renaming compareBytes->AN
open _root_.List renaming length_append->AA,append_assoc->AB,length_singleton->AC,drop_left'->AE,take_left'->AF,mem_singleton->AJ,mem_cons_of_mem->AK,mem_append->AL,getElem?_eq_getElem->AO,pairwise_cons->AP,map_cons->AQ,mem_of_getElem?->AR,nil_append->AS,prefix_append->AT,prefix_refl->AV,map_append->AW,take_append_drop->AX,singleton_append->AY,cons_prefix_cons->AZ,getElem?_append->Ab,length_take->Ag,replicate->Ai,getElem?_eq_some_iff->Aj,length_eq_zero_iff->Ak,zipWith->Al,zipWith_cons_cons->Am,drop_eq_nil_of_le->An,mem_iff_getElem?->Ao,mem_of_mem_take->Ap,mem_of_mem_drop->Aq,length->Ar,mem_replicate->As,getElem?_drop->Au,flatMap_cons->Av,getElem?_map->Aw,length_cons->Ay,cons_append->Az,drop_drop->A6
open _root_.Nat renaming add_assoc->AD,le_trans->AM,add_left_comm->AU,zero_le->Ad,add_comm->Ae,zero_add->Af,add_zero->A7,le_refl->A8
open _root_.Option.some renaming injEq->Aa
open _root_.Prod renaming fst->AG
set_option linter.unusedVariables false
set_option linter.unusedSimpArgs false
set_option maxRecDepth 100000
set_option maxHeartbeats 64000000
variable {fs R o es:List Ent} {t':CT} {e:Ending} {w1 w2:Ww} {g k i r j:Nat} {M l L:List Ix} {c C:Ent} {rs:List (List Ent)} {s:Ba} {hints ok:Bool} {d:Int} {ds:List Int} {ys ka kb kc yp:List Nd} {ss:List yAx} {s':yAx} {X:List (List Ix)} {cd:List Bool} {bs:List Bk}
def MeP(t:CT)(es:List Ent)(w:Ww)(e:Ending)(w':Ww):Prop:=∃g cp,e=.returned (xg g (mean t es).length cp)/\Hid (OwnC w' w g cp (mean t es)/\Below w w w')
def MeC(m:Nat):Prop:=∀(w:Ww)(b o cap:Nat)(xs:List Nd)(t:CT)(rb ro rc:Nat)(es:List Ent),xs.length<=m->Win w b o cap xs->yBf xs t->(∀x∈xs,x.s.size<=maxLen)->CSl w rb ro rc es->Sub es es->es.length<=10000->
 Calls prog 108 #[(xy b o xs.length cap),(xy rb ro es.length rc)] w (MeP t es w)
abbrev MnS(g:Nat)(u v:Vv)(w:Ww):Prop:=xk w g 0 u/\xk w g 1 v
variable {t:CT} {w:Ww}
theorem MeP.up(h:MeP t es w1 e w2)(hb:Below w w w1)(hq:mean t es=mean t' fs):MeP t' fs w e w2:=by obtain⟨g,cp,rfl,hO,h2⟩:=h;rw[hq]at hO;exact⟨g,cp,by rw[hq],hO.mono hb.size,hb.trans (h2.mono hb.size)⟩
variable {m:Nat}
theorem xH8(H:MeC m):MeC (m+1):=by
 intro w b o cap xs t rb ro rc es hm hW hT hsz hC hS hel;obtain⟨ks,e,rfl,hK,hal,hIs⟩:=hT.knd;simp only[AA,AC]at hm;obtain⟨L,hL⟩:=qE ks.flatten.length;obtain⟨a3,ha3⟩:=qE ks.length;obtain⟨N,hN⟩:=qE es.length;have HT:Hid (∀wx,Below w w wx->Calls prog 91 #[.slice (some ⟨b,o,none⟩) (L+1) cap] wx λr w'=>r=.returned (xi e.f)/\w'=wx):=λwx hx=>by rw[hL];exact yIa (hW.k hx)
 have HKs:Hid (Calls prog 92 #[.slice (some ⟨b,o,none⟩) (L+1) cap] w λr w'=>∃g cp,r=.returned (xg g a3 cp)/\OwnV w' w g cp (yIb b o cap ks)/\Below w w w'):=by rw[ha3,hL];exact yK7 hW hal hIs
 have HN:Hid (∀{j:Nat}{k:List Nd}{u:CT},ks[j]?=some k->yBf k u->∃o' l c,(yIb b o cap ks)[j]?=some (.slice (some ⟨b,o',none⟩) l c)/\∀(wx:Ww)(rb ro rc M:Nat)(fs:List Ent),M=fs.length->Below w w wx->CSl wx rb ro rc fs->Sub fs fs->fs.length<=10000->Hid (Calls prog 108 #[(xy b o' l c),(xy rb ro M rc)] wx (MeP u fs wx))):=by intro j k u hk hu;obtain⟨o',c,hv,hWk⟩:=yK9 hW hk;have hkl:=yDl (AR hk);refine⟨o',_,c,hv,λwx rb ro rc M fs hM hx h1 h2 h3=>?_⟩;subst hM;exact H wx b o' c k u rb ro rc fs qo (hWk.k hx) hu (λx hx=>hsz x (List.mem_append_left _ (List.mem_flatten.2 ⟨k,AR hk,hx⟩))) h1 h2 h3
 have HR:=qH4 hN (λwx hx=>hC.k hx:(∀wx,Below w w wx->CSl wx rb ro rc es)) hS hel;have HM:=qH4 ha3 hL hW (hsz e (by simp));have hcp:=hW.cap;have hLc:L+1<=cap:=by have:=hW.X;rw[AA,AC]at this;omega
 rw[AA,AC,<-hL,<-hN];clear hW hT hIs H hal hm hL ha3 hN hC hS hel hsz;go_enter func108,ntmps108;go_wp2_with fail;refine HKs.mono ?_;rintro r w1 ⟨g,cp,rfl,hO,hb1⟩;have HO:=hidO hO;have hkc:=hO.caps;rw[yHr,<-HM.1]at hkc;have HB:Hid (∀wx,Below w1 w1 wx->Below w w wx):=λwx hx=>hb1.trans (hx.mono hb1.size);clear hO HKs;go_wp2_with fail;refine(HT.out w1 hb1).mono ?_;rintro r w1' ⟨rfl,hw1⟩;rw[hw1];clear hw1 HT;have hd:=(Below.refl w1 w1).drew;cases hK with
 |leaf _ hk=>
  have hq:¬e.f=14/\¬e.f=15/\¬e.f=16:=by refine⟨?_,?_,?_⟩<;>(intro q;simp[yAk,q]at hk)
  have z14:=iC.2 hq.1;have z15:=iC.2 hq.2.1;have z16:=iC.2 hq.2.2;obtain rfl:a3=0:=HM.1;obtain rfl:L=0:=HM.2.1;have HL:Hid (Calls prog 162 #[e.v,(xy rb ro N rc)] w1 λr w'=>MeP (.leaf e) es w1 r w'):=by rw[HR.1];refine(yTd e HM.2.2.2 (HR.2.1 _ hb1) (by have:=HR.2.2.2;omega)).mono ?_;rintro r w' ⟨g,cp,h1,h2⟩;exact⟨g,cp,h1,h2⟩
  obtain⟨k0,k1,k2,k3,k4,k5,k6⟩:=(HM.2.2.1.k hb1).U 0 e rfl;simp only[Nat.zero_mul,A7]at k0 k1 k2 k3 k4 k5 k6;clear hq hk;go_wp2_with fail;refine HL.mono ?_;intro r w2 h;have HE:=hidO (h.up hb1 rfl);obtain⟨g2,c2,rfl,-⟩:=h;go_wp2_with fail;go_ret;exact HE.out
 | @chain _ ta tb ka kb h14 ha hb=>
   have z14:=beq_iff_eq.2 h14;obtain rfl:a3=2:=HM.1;obtain⟨o0,l0,c0,v0,K0⟩:=HN.out (j:=0) rfl ha;obtain⟨o1,l1,c1,v1,K1⟩:=HN.out (j:=1) rfl hb;have sa:=yA7 ta HR.2.2.1;have HS:Hid (∀wx,Below w1 w1 wx->MnS g (xy b o0 l0 c0) (xy b o1 l1 c1) wx):=λwx hx=>⟨(HO.k hx).z v0,(HO.k hx).z v1⟩;have hS:=HS.out _ hd;have C0:=K0 w1.drew rb ro rc N es HR.1 (HB.out _ hd) (HR.2.1 _ (HB.out _ hd)) HR.2.2.1 HR.2.2.2;go_upto_region 4 with fail;refine yAe 99 (MnS g (xy b o0 l0 c0) (xy b o1 l1 c1)) qk ?_;refine ja 0 hS ?_;iterate 6 refine jb hS ?_
   refine qO 7 rfl λK hK=>?_;go_simp;go_at_call 108;refine C0.out.mono ?_;rintro r w3 ⟨g3,cp3,rfl,H3⟩;have b3:=hd.trans H3.2;have C1:=K1 w3 g3 0 cp3 _ (mean ta es) rfl (HB.out _ b3) H3.1.sl sa.self (AM (sa.X HR.2.2.1.ord) HR.2.2.2);clear C0;refine hK.out _ _ (.inr (HS.out _ b3)) (jS ?_);clear hK;refine qO 8 rfl λK hK=>?_;go_simp;go_at_call 108;refine C1.out.mono ?_;intro r w4 h4;have HE:=hidO (h4.up (t':=.chain e ta tb) (fs:=es) (HB.out _ b3) rfl);obtain⟨g4,c4,rfl,H4⟩:=h4;have b4:=b3.trans (H4.2.mono b3.size);refine hK.out _ _ (.inr (HS.out _ b4)) (jS ?_);clear hK;refine ja 9 (HS.out _ b4) ?_;refine qD ?_;go_wp2_with fail;go_ret;exact HE.out
 | @inter _ ta tb ka kb h15 ha hb=>
   have z14:(e.f==14)=false:=by rw[iC];omega
   have z15:=beq_iff_eq.2 h15;obtain rfl:a3=2:=HM.1;obtain⟨o0,l0,c0,v0,K0⟩:=HN.out (j:=0) rfl ha;obtain⟨o1,l1,c1,v1,K1⟩:=HN.out (j:=1) rfl hb;have sa:=yA7 ta HR.2.2.1;have sb':=yA7 tb HR.2.2.1;have HS:Hid (∀wx,Below w1 w1 wx->MnS g (xy b o0 l0 c0) (xy b o1 l1 c1) wx):=λwx hx=>⟨(HO.k hx).z v0,(HO.k hx).z v1⟩;have hS:=HS.out _ hd;have C0:=K0 w1.drew rb ro rc N es HR.1 (HB.out _ hd) (HR.2.1 _ (HB.out _ hd)) HR.2.2.1 HR.2.2.2;go_upto_region 6 with fail;refine yAe 99 (MnS g (xy b o0 l0 c0) (xy b o1 l1 c1)) qk ?_;refine ja 0 hS ?_;iterate 3 refine jb hS ?_
   refine ja 5 hS ?_;iterate 3 refine jb hS ?_
   refine qO 4 rfl λK hK=>?_;go_simp;go_at_call 108;refine C0.out.mono ?_;rintro r w3 ⟨g3,cp3,rfl,H3⟩;have b3:=hd.trans H3.2;have C1:=K1 w3 rb ro rc N es HR.1 (HB.out _ b3) (HR.2.1 _ (HB.out _ b3)) HR.2.2.1 HR.2.2.2;clear C0;refine hK.out _ _ (.inr (HS.out _ b3)) (jS ?_);clear hK;refine qO 9 rfl λK hK=>?_;go_simp;go_at_call 108;refine C1.out.mono ?_;rintro r w4 ⟨g4,cp4,rfl,H4⟩;have b4:=b3.trans (H4.2.mono b3.size);have C2:=hidO (yQv (H3.1.sl.k H4.2) H4.1.sl sa.f sb'.f (by have:=sa.X HR.2.2.1.ord;have:=HR.2.2.2;omega) (by have:=sb'.X HR.2.2.1.ord;have:=HR.2.2.2;omega));clear C1;refine hK.out _ _ (.inr (HS.out _ b4)) (jS ?_);clear hK;refine qO 10 rfl λK hK=>?_;go_simp;go_at_call 161;refine C2.out.mono ?_;rintro r w5 ⟨g5,c5,rfl,O5,H5⟩;have HE:Hid (MeP (.inter e ta tb) es w (.returned (xg g5 (uniM (mean ta es) (mean tb es)).length c5)) w5):=⟨g5,c5,rfl,O5.mono (HB.out _ b4).size,HB.out _ (b4.trans (H5.mono b4.size))⟩;have b5:=b4.trans (H5.mono b4.size);clear O5 H5;refine hK.out _ _ (.inr (HS.out _ b5)) (jS ?_);clear hK;refine ja 11 (HS.out _ b5) ?_;refine qD ?_;go_wp2_with fail;go_ret;exact HE.out
 | @cond _ ta tb tc ka kb kc h16 ha hb hc=>
   have z14:(e.f==14)=false:=by rw[iC];omega
   have z15:(e.f==15)=false:=by rw[iC];omega
   have z16:=beq_iff_eq.2 h16;obtain rfl:a3=3:=HM.1;obtain⟨o0,l0,c0,v0,K0⟩:=HN.out (j:=0) rfl ha;obtain⟨o1,l1,c1,v1,K1⟩:=HN.out (j:=1) rfl hb;obtain⟨o2,l2,c2,v2,K2⟩:=HN.out (j:=2) rfl hc;have C0:=K0 w1 rb ro rc N es HR.1 hb1 (HR.2.1 _ hb1) HR.2.2.1 HR.2.2.2;have x0:=HO.z v0;go_wp2_with fail;refine C0.out.mono ?_;rintro r w3 ⟨g3,cp3,rfl,H3⟩;have y1:=(HO.k H3.2).z v1;have y2:=(HO.k H3.2).z v2;have b3:=HB.out _ H3.2;have C1:=K1 w3 rb ro rc N es HR.1 b3 (HR.2.1 _ b3) HR.2.2.1 HR.2.2.2;have C2:=K2 w3 rb ro rc N es HR.1 b3 (HR.2.1 _ b3) HR.2.2.1 HR.2.2.2;have hM:mean (.cond e ta tb tc) es=if mean ta es= []then mean tc es else mean tb es:=by rw[mean]
   obtain⟨P,hP⟩:=qE ((mean ta es).length);have hlp:P<=10000:=by have:=(yA7 ta HR.2.2.1).X HR.2.2.1.ord;have:=HR.2.2.2;omega
   rw[<-hP];clear x0 C0;by_cases hz:P=0
   .have HMe:=hidO (hM.trans (iB (Ak.1 (hP.symm.trans hz))));subst hz;clear hM hP;go_wp2_with fail;refine C2.out.mono ?_;intro r w4 h4;exact xJr
   .have HMe:=hidO (hM.trans (iA λq=>hz (by rw[hP,q];rfl)));have zp:(0:Int)<(P:Int):=qo
    clear hM hP;go_wp2_with fail;refine C1.out.mono ?_;intro r w4 h4;exact xJr
theorem yVo:∀m,MeC m
 |0=>λw b o cap xs t rb ro rc es hm hW hT=>qw ((show IsT 1 xs from TrV.tree _ hT).X)
 |m+1=>xH8 (yVo m)
theorem yVy{es:List Ent}{t:CT}(hS:Sub es es)(hl:es.length<=10000):∀(P:List (Nat×Nat)),(P.flatMap λp=>mean t (segE es p)).length<=P.length*10000
 | []=>Ad _
 |p::P=>by
  have ih:=yVy hS hl P (t:=t)
  have h1:=(yA7 t (yJr hS p)).X (yJr hS p).ord
  have h2:(segE es p).length<=es.length:=by unfold segE;rw[List.length_drop,Ag];omega
  simp only[Av,AA,Ay]
  omega
structure MaJ(w:Ww)(b off cap:Nat)(es:List Ent)(t:CT)(A:List (Nat×Nat))(gr cr g cp i:Nat)(wr:Ww):Prop where
 rows:yGq wr w gr cr (A.map (segV b off cap))
 Z:OwnC wr w g cp ((A.take i).flatMap λp=>mean t (segE es p))
 k:Below w w wr
variable {xs:List Nd}
theorem yM{nb no nc:Nat}{b off cap:Nat}(hW:Win w nb no nc xs)(hT:yBf xs t)(hsz:∀x∈xs,x.s.size<=maxLen)(h:CSl w b off cap es)(hS:Sub es es)(hl:es.length<=10000):
  Calls prog 48 #[(xy nb no xs.length nc),(xy b off es.length cap)] w λe w'=>∃g cp,e=.returned (xg g (meanAll t es).length cp)/\OwnC w' w g cp (meanAll t es)/\Below w w w':=by
 obtain⟨A,hA⟩:=qE (allC es 0);have hAl:A.length<=10000:=by rw[hA];exact AM (yRl es _ 0) qo
 have HA:=qH2 hA hAl;have HMm:Hid (∀p∈A,p.1<=p.2/\p.2<=es.length):=λp hp=>yRk es _ 0 p (by rw[hA]at hp;exact hp);have HMA:Hid (meanAll t es=(A.take A.length).flatMap λp=>mean t (segE es p)):=by show _=_;rw[List.take_length,hA];rfl
 have HMe:Hid (∀(wx:Ww)(rb ro rc:Nat)(fs:List Ent),Below w w wx->CSl wx rb ro rc fs->Sub fs fs->fs.length<=10000->Calls prog 108 #[(xy nb no xs.length nc),(xy rb ro fs.length rc)] wx (MeP t fs wx)):=λwx rb ro rc fs hx hC hs hl=>yVo xs.length wx nb no nc xs t rb ro rc fs qr (hW.k hx) hT hsz hC hs hl;have HR:=qH3 h hS hl;obtain⟨W0,hW0⟩:=qW (xw w #[] 70);have HO0:Hid (OwnC W0 w w 0 []/\Below w w W0):=by rw[hW0];exact⟨yGa w,qB⟩
 have HRw:Hid (Calls prog 107 #[(xy b off es.length cap)] W0 λe w'=>∃g cp,e=.returned (xg g A.length cp)/\yGq w' W0 g cp (A.map (segV b off cap))/\Below W0 W0 w'):=by rw[hA];exact yTc (h.k HO0.2) qo
 obtain⟨N,hN⟩:=qE es.length;obtain⟨L,hL⟩:=qE xs.length;obtain⟨K,hK⟩:=qE A.length;have HKl:=qH1 hK;rw[<-hN]at HRw|-;rw[<-hL]at HMe|-;rw[<-hK]at HRw hAl HMA;clear hW hT hsz h hS hl hA hN hL hK;go_enter func48,ntmps48;go_wp2_with fail;rw[<-hW0];clear hW0;refine HRw.mono ?_;rintro e w1 ⟨gr,cr,rfl,hO1,hb1⟩;have HJ0:Hid (MaJ w b off cap es t A gr cr w 0 0 w1):=by
  refine⟨?_,HO0.1.k hb1 HO0.1.lt.2,HO0.2.trans (hb1.mono HO0.2.size)⟩;have hz:=HO0.2.size;rcases hO1.2 with⟨q,_⟩|⟨g9,cap9,cur,hv,q1,q2⟩
  .cases q
  .exact⟨hO1.1,.inr ⟨g9,cap9,cur,hv,qo,q2⟩⟩
 clear hO1 hb1 HRw HO0;go_wp2;go_loopw[5,7] (λo iv wr=>∃(i g cp m:Nat),i<=K/\iv=(xi i)/\o=(xg g m cp)/\Hid (m=((A.take i).flatMap λp=>mean t (segE es p)).length/\MaJ w b off cap es t A gr cr g cp i wr)) (λ_ iv _=>K-(intOf iv).toNat);case atStart=>exact⟨0,w,0,0,Ad _,rfl,rfl,rfl,HJ0.out⟩
 case round=>
  obtain⟨i,g,cp,m,hiK,rfl,rfl,HJ⟩:=hrel;by_cases hlt:i<K
  .have zi:(i:Int)<(K:Int):=qo
   obtain⟨⟨p1,p2⟩,hp⟩:∃p,A[i]?=some p:=qg (qw HKl.out);have hpm:=HMm.out (p1,p2) (AR hp);have HStep:Hid (((A.take (i+1)).flatMap λp=>mean t (segE es p))=((A.take i).flatMap λp=>mean t (segE es p))++mean t (segE es (p1,p2))):=by show _=_;rw[List.take_add_one,hp,Option.toList_some,List.flatMap_append];simp
   have hml:m<=100000000:=by rw[HJ.1];refine AM (yVy HR.2.1 HR.2.2 _) ?_;rw[Ag];have:=HA.2;omega
   have hgl:=HJ.2.Z.lt;have hbz:=HJ.2.k.size;have c0:(xk wr gr i (xy b (off+p1*5) (p2-p1) (cap-p1)):Prop):=HJ.2.rows.z (by rw[Aw,hp];rfl);have hseg:=yJr HR.2.1 (p1,p2);have hsl:(segE es (p1,p2)).length=p2-p1:=yJs hpm.2;have hml2:(mean t (segE es (p1,p2))).length<=10000:=by have h8:=(yA7 t hseg).X hseg.ord;have h9:=HR.2.2;rw[hsl]at h8;omega
   have HCall:Hid (Calls prog 108 #[(xy nb no L nc),(xy b (off+p1*5) (p2-p1) (cap-p1))] wr (MeP t (segE es (p1,p2)) wr)):=by have h9:=HMe.out wr b (off+p1*5) (cap-p1) (segE es (p1,p2)) HJ.2.k ((HR.1.k HJ.2.k).seg hpm.1 hpm.2) hseg (by rw[hsl];have:=HR.2.2;omega);rw[hsl]at h9;exact h9
   obtain⟨ml,hmle⟩:=qE ((mean t (segE es (p1,p2))).length);have HMl:Hid (ml=(mean t (segE es (p1,p2))).length):=hmle;rw[<-hmle]at hml2;clear hp hpm hseg hsl hmle;go_wp2_with fail;refine HCall.mono ?_;rintro e w3 ⟨g3,cp3,rfl,H3⟩;have HM3:Hid (MaJ w b off cap es t A gr cr g cp i w3):=by have hb3:=H3.2;exact⟨HJ.2.rows.k hb3,HJ.2.Z.k hb3 hgl.2,HJ.2.k.trans (hb3.mono hbz)⟩
   have HKm:Hid (m=((A.take i).flatMap λp=>mean t (segE es p)).length):=HJ.1;have hz3:=H3.2.size;rw[<-HMl.out];clear c0 HJ;go_wp2_with (at_builtin;refine wpA rfl (apK yY rfl w ((A.take i).flatMap λp=>mean t (segE es p)) (mean t (segE es (p1,p2))) rfl rfl HKm.out HMl.out ?hO ?hc ?hl ?hb ?_));case hO=>exact HM3.Z
   case hc=>exact H3.1.at
   case hl=>rw[<-HKm.out,<-HMl.out];omega
   case hb=>omega
   intro g' cp' w' hO' hgr _;have HN:Hid (m+ml=((A.take (i+1)).flatMap λp=>mean t (segE es p)).length/\MaJ w b off cap es t A gr cr g' cp' (i+1) w'):=by
    have hc':Chg (λk=>k=g) w3 w':=Chg.M hgr (λk q=>by cases q;rfl);have hne:¬gr=g:=λq=>yAc HM3.Z HM3.rows qj g rfl (by rw[<-q];rfl);refine⟨by rw[HStep.out,AA,<-HKm.out,<-HMl.out],?_,?_,?_⟩
    .exact yAh HM3.rows hc' (λk q=>by simp[Value.ownBlock]at q;subst q;exact hne)
    .rw[HStep.out];exact hO'
    .exact HM3.k.grown hgr HM3.k.size (λj hj=>by cases hj;omega)
   clear hO' hgr;go_wp2_with fail;go_roundw;case rel=>exact⟨i+1,g',cp',m+ml,qo,by go_num,rfl,HN.out⟩
   case measure=>go_light;simp[intOf];omega
  .obtain rfl:i=K:=qo
   have zi:¬(i:Int)<(i:Int):=qo
   go_wp2_with fail;go_ret;refine⟨g,cp,?_,?_,HJ.2.k⟩
   .rw[HMA.out,<-HJ.1];rfl
   .rw[HMA.out];exact HJ.2.Z
def yJp(xs:List Nd)(es R:List Ent):Prop:=(¬(yBe xs/\yBp es)/\R= [])\/((yBe xs/\yBp es)/\∃t,yBf xs t/\R=meanAll t es)
theorem xAh{T:List Ent}(h:yJp xs es R)(k:yJp xs es T):R=T:=by
 rcases h with⟨h1,rfl⟩|⟨h1,t,ht,rfl⟩
 .rcases k with⟨_,rfl⟩|⟨k1,_⟩
  .rfl
  .exact absurd k1 h1
 .rcases k with⟨k1,_⟩|⟨_,u,hu,rfl⟩
  .exact absurd h1 k1
  .rw[yFn ht hu]
theorem yNb(h:yBe xs):∃t,yBf xs t:=by obtain⟨_,s,hs,_⟩:=h;exact yUq (ShT.tree goodB hs)
theorem yNv(h:yBp es)(hk:∀e∈es,e.f=0)(hok:∀e∈es,e.ok):Sub es es:=⟨yKt h,λx hx=>⟨x,hx,yB1 x⟩,hk,hok⟩
def MeaP(xs:List Nd)(es:List Ent)(w:Ww)(e:Ending)(w':Ww):Prop:=∃g cp R,e=.returned (xg g R.length cp)/\Hid (yJp xs es R/\OwnC w' w g cp R/\Below w w w')
theorem yKd{o cp:Nat}(h:WdN w g o cp xs)(hok:∀e∈xs,e.ok){bc gc cc:Nat}(hC:OwnC w bc gc cc es)(hoe:∀e∈es,e.ok)(hk:∀e∈es,e.f=0)(hl:es.length<=1048576):
  Calls prog 11 #[.agg #[(xy g o xs.length cp)],xg gc es.length cc] w (MeaP xs es w):=by
 have HO:=qH5 h hok hC hoe hk;obtain⟨n,hn⟩:=qE xs.length;obtain⟨N,hN⟩:=qE es.length;have HN:=qH2 hn hN;obtain⟨W0,hW0⟩:=qW (xw w #[(xy g o n cp)] 25);have hb0:=qN hW0
 have HB0:=qH2 (by rw[hW0];exact yAa w _ qr rfl:yA W0 w 25 1 w [(xy g o n cp)]) hb0;have HF:Hid (Calls prog 8 #[.agg #[(xy g o n cp)]] W0 (yG6 xs W0)):=by rw[hn];exact yEf (h.k hb0 h.lt) hok
 have HV:Hid (∀wx,Below w w wx->Calls prog 9 #[xg gc N cc] wx (yIp (yBp es) wx)):=λwx hx=>by have h9:=yGv gc cc es bc wx (hC.k hx hC.lt.2) hoe hl;rw[yJu hk]at h9;rw[hN];exact h9
 rw[<-hn,<-hN];rw[<-hN]at hl;clear h hok hC hoe hk hn hN hb0;have c0:=HB0.1.z (j:=0) rfl;go_enter func11,ntmps11;go_upto_region 1 with fail;rw[<-hW0];clear hW0;go_wp2_with fail;refine HF.mono ?_;rintro e w1 ⟨r,rfl,hr,hb1⟩;have HR1:=qH3 hr (HB0.1.k hb1) (HB0.2.trans (hb1.mono HB0.2.size));clear hr hb1 HF c0;cases r
 case false=>
  have HE:Hid (yJp xs es []/\OwnC (xw w1 #[] 70) w w1 0 []/\Below w w (xw w1 #[] 70)):=
   ⟨.inl ⟨λq=>A0 (HR1.1.2 q.1),rfl⟩,(yGa w1).mono HR1.2.2.size,HR1.2.2.alloc HR1.2.2.size _⟩
  go_wp2_with fail;go_ret;exact⟨w1,0,[],rfl,HE.out⟩
 case true=>
 have HV1:=qH1 (HV.out w1 HR1.2.2);go_wp2_with fail;refine HV1.mono ?_;rintro e w2 ⟨r2,rfl,hr2,hb2⟩;have HR2:=qH3 hr2 (HR1.2.1.k hb2) (HR1.2.2.trans (hb2.mono HR1.2.2.size));clear hr2 hb2 HV1;cases r2
 case false=>
  have HE:Hid (yJp xs es []/\OwnC (xw w2 #[] 70) w w2 0 []/\Below w w (xw w2 #[] 70)):=
   ⟨.inl ⟨λq=>A0 (HR2.1.2 q.2),rfl⟩,(yGa w2).mono HR2.2.2.size,HR2.2.2.alloc HR2.2.2.size _⟩
  go_wp2_with fail;go_ret;exact⟨w2,0,[],rfl,HE.out⟩
 case true=>
 have hgf:yBe xs:=by have h9:=HR1.1;simpa using h9
 have hgr:yBp es:=by have h9:=HR2.1;simpa using h9
 obtain⟨t,ht⟩:=yNb hgf;have HT:Hid (yJp xs es (meanAll t es)):=.inr ⟨⟨hgf,hgr⟩,t,ht,rfl⟩;have HA:Hid (Calls prog 48 #[(xy g o n cp),xg gc N cc] w2 λe w'=>∃g cp,e=.returned (xg g (meanAll t es).length cp)/\OwnC w' w2 g cp (meanAll t es)/\Below w2 w2 w'):=by rw[HN.1,HN.2];have hNd:=HO.1.k HR2.2.2 HO.1.lt;have hCe:=HO.2.2.1.k HR2.2.2 HO.2.2.1.lt.2;exact yM ⟨hNd.at,hNd.lt,hNd.caps.1,by have h8:=hNd.caps.2;unfold maxLen at h8;omega,by have h8:=hgf.1;omega⟩ ht (λx hx=>(HO.2.1 x hx).s) hCe.sl (yNv hgr HO.2.2.2.2 HO.2.2.2.1) hgr.1.1
 have c0:=HR2.2.1.z (j:=0) rfl;clear hgf hgr ht;go_wp2_with fail;refine HA.mono ?_;rintro e w3 ⟨g3,cp3,rfl,hO3,hb3⟩;have HE:=qH3 HT.out (hO3.mono HR2.2.2.size) (HR2.2.2.trans (hb3.mono HR2.2.2.size));clear hO3 hb3;go_wp2_with fail;go_ret;exact⟨g3,cp3,meanAll t es,rfl,HE.out⟩
section
abbrev EvT:=Ent->It->List Ctr->It×List Ctr
def CAt(l:List Ix)(k n:Nat)(L:List Ix):Prop:=absG k n L<+:l.drop k
variable {n:Nat}
theorem CAt.app(h:CAt l k n (L++M)):CAt l k n L/\CAt l (k+L.length) (n+cntL L) M:=by unfold CAt at*;rw[yC9]at h;refine⟨(AT _ _).trans h,?_⟩;have⟨t,ht⟩:=h;exact⟨t,by rw[<-A6,<-ht,AB,AE (yAl _ _ _)]⟩
theorem CAt.one{x:Ix}(h:CAt l k n [x]):l[k]?=some (fixI k n x):=by have⟨t,ht⟩:=h;have:=congrArg (λl=>l[0]?) ht;simpa [absG]using this.symm
structure Frg(cd:List Bool)(L:List Ix)(E:EvT):Prop where
 X:∀c i own,own.length=cntL L->(E c i own).2.length=cntL L
 run:∀{l k n},CAt l k n L->∀{c i r own p q res},own.length=cntL L->p.length=n->LkR pfxB l c cd ⟨k+L.length,(E c i own).1::r,p++((E c i own).2++q)⟩ res->LkR pfxB l c cd ⟨k,i::r,p++(own++q)⟩ res
 dead:∀c i own,i.H=false->(E c i own).1.H=false/\(E c i own).1.G=i.G/\(E c i own).2=own
 old:∀c i own k,k∈(E c i own).2->k∈own\/k.j=c.j
def sqE(n:Nat)(E F:EvT):EvT:=λc i own=>((F c (E c i (own.take n)).1 (own.drop n)).1,(E c i (own.take n)).2++(F c (E c i (own.take n)).1 (own.drop n)).2)
def inE(n:Nat)(E F:EvT):EvT:=λc i own=>(yE5 (E c i (own.take n)).1 (F c i (own.drop n)).1,(E c i (own.take n)).2++(F c i (own.drop n)).2)
def idE:EvT:=λ_ i own=>(i,own)
theorem yM9 h:yK3 h h=h:=by unfold yK3;split<;>rfl
theorem yG4{own:List Ctr}(h:own.length=n+m):∃a b,own=a++b/\a.length=n/\b.length=m:=⟨own.take n,own.drop n,(AX ..).symm,by simp;omega,by simp;omega⟩
section
variable {E F:EvT} {n m:Nat}
theorem ySh(hE:∀c i own,i.H=false->(E c i own).1.H=false/\(E c i own).1.G=i.G/\(E c i own).2=own)(hF:∀c i own,i.H=false->(F c i own).1.H=false/\(F c i own).1.G=i.G/\(F c i own).2=own):
  ∀c i own,i.H=false->(sqE n E F c i own).1.H=false/\(sqE n E F c i own).1.G=i.G/\(sqE n E F c i own).2=own:=λc i own h=>by
 have⟨a1,a2,a3⟩:=hE c i (own.take n) h
 have⟨b1,b2,b3⟩:=hF c _ (own.drop n) a1
 exact⟨b1,b2.trans a2,by simp only[sqE];rw[a3,b3,AX]⟩
theorem yY1(hE:∀c i own k,k∈(E c i own).2->k∈own\/k.j=c.j)(hF:∀c i own k,k∈(F c i own).2->k∈own\/k.j=c.j):∀c i own k,k∈(sqE n E F c i own).2->k∈own\/k.j=c.j:=λc i own k h=>by
 rcases AL.1 h with h|h
 .exact(hE _ _ _ _ h).imp_left Ap
 .exact(hF _ _ _ _ h).imp_left Aq
theorem Frg.seq(h:Frg cd L E)(g:Frg cd M F):Frg cd (L++M) (sqE (cntL L) E F):=by
 refine⟨λc i own ho=>?_,λ{l k n} ha {c i r own p q res} ho hp hk=>?_,ySh h.dead g.dead,yY1 h.old g.old⟩
 .rw[yAj]at ho|-;simp only[sqE,AA];rw[h.X _ _ _ (by simp;omega),g.X _ _ _ (by simp;omega)]
 .rw[yAj]at ho;obtain⟨a,b,rfl,hla,hlb⟩:=yG4 ho;simp only[sqE,AF hla,AE hla,AA,AB]at hk|-;have ha':=ha.app;apply h.run ha'.1 hla hp;rw[<-AB];apply g.run ha'.2 hlb (by rw[AA,h.X _ _ _ hla,hp]);rw[AB,AD];exact hk
theorem Frg.inter(h:Frg cd L E)(g:Frg cd M F):Frg cd ([opI 2]++L++ [opI 3]++M++ [opI 4]) (inE (cntL L) E F):=by
 have z:∀o:Int,o≠1->cntL [opI o]=0:=λo ho=>by simp[cntL,cntI,opI,ho]
 have e:cntL ([opI 2]++L++ [opI 3]++M++ [opI 4])=cntL L+cntL M:=by simp only[yAj,z 2 qj,z 3 qj,z 4 qj];omega
 refine⟨λc i own ho=>?_,λ{l k n} ha {c i r own p q res} ho hp hk=>?_,λc i own hi=>?_,λc i own k hk=>?_⟩
 .rw[e]at ho|-;simp only[inE,AA];rw[h.X _ _ _ (by simp;omega),g.X _ _ _ (by simp;omega)]
 .rw[e]at ho;obtain⟨a,b,rfl,hla,hlb⟩:=yG4 ho;have⟨a1,a5⟩:=ha.app;have⟨a1,a4⟩:=a1.app;have⟨a1,a3⟩:=a1.app;have⟨a1,a2⟩:=a1.app;simp only[AA,AC,yAj,z 2 qj,z 3 qj]at a2 a3 a4 a5;simp only[inE,AF hla,AE hla,AA,AC,AB]at hk|-;refine .step a1.one ?_;show LkR pfxB l c cd ⟨k+1,i::i::r,_⟩ res;apply h.run a2 hla qo;refine .step (by simpa [AD]using a3.one) ?_;show LkR pfxB l c cd ⟨k+1+L.length+1,i::(E c i a).1::r,_⟩ res;rw[<-AB];apply g.run (by simpa [AD]using a4) hlb (by rw[AA,h.X _ _ _ hla,hp]);refine .step (by simpa [AD]using a5.one) ?_;show LkR pfxB l c cd ⟨k+1+L.length+1+M.length+1,yE5 (E c i a).1 (F c i b).1::r,_⟩ res;rw[AB];simpa [AD]using hk
 .have⟨a1,a2,a3⟩:=h.dead c i (own.take (cntL L)) hi;have⟨b1,b2,b3⟩:=g.dead c i (own.drop (cntL L)) hi;simp[inE,yE5,a1,b1,a2,b2,a3,b3,yM9,yC5]
 .rcases AL.1 hk with hk|hk
  .exact(h.old _ _ _ _ hk).imp_left Ap
  .exact(g.old _ _ _ _ hk).imp_left Aq
variable {m:Nat}
theorem xIm(b:Bool)(hb:cd[m]?=some b)(h:b=true->Frg cd L E)(g:b=false->Frg cd M F):
  Frg cd ([⟨5,(m:Nat),(L.length:Int)+2,false,yA8⟩]++L++ [⟨6,0,(M.length:Int)+1,false,yA8⟩]++M) (if b=true then sqE (cntL L) E idE else sqE (cntL L) idE F):=by
 have z:∀o a b:Int,o≠1->cntL [⟨o,a,b,false,yA8⟩]=0:=λo a b ho=>by simp[cntL,cntI,ho]
 have e:cntL ([⟨5,(m:Nat),(L.length:Int)+2,false,yA8⟩]++L++ [⟨6,0,(M.length:Int)+1,false,yA8⟩]++M)=cntL L+cntL M:=by simp only[yAj,z 5 _ _ qj,z 6 _ _ qj];omega
 have dI:∀c i own,i.H=false->(idE c i own).1.H=false/\(idE c i own).1.G=i.G/\(idE c i own).2=own:=λ_ _ _ h=>⟨h,rfl,rfl⟩;have oI:∀c i own k,k∈(idE c i own).2->k∈own\/k.j=c.j:=λ_ _ _ _ h=>.inl h
 have hr:∀{l:List Ix}{k n:Nat},CAt l k n ([⟨5,(m:Nat),(L.length:Int)+2,false,yA8⟩]++L++ [⟨6,0,(M.length:Int)+1,false,yA8⟩]++M)->
   (∀{c:Ent}{st:List It}{cs:List Ctr}{res:It×List Ctr},LkR pfxB l c cd ⟨if b=true then k+1 else k+L.length+2,st,cs⟩ res->LkR pfxB l c cd ⟨k,st,cs⟩ res)/\CAt l (k+1) n L/\
   (∀{c:Ent}{st:List It}{cs:List Ctr}{res:It×List Ctr},LkR pfxB l c cd ⟨k+L.length+M.length+2,st,cs⟩ res->LkR pfxB l c cd ⟨k+1+L.length,st,cs⟩ res)/\CAt l (k+L.length+2) (n+cntL L) M:=by
  intro l k n ha;have⟨a1,a4⟩:=ha.app;have⟨a1,a3⟩:=a1.app;have⟨a1,a2⟩:=a1.app;simp only[AA,AC,yAj,z 5 _ _ qj,z 6 _ _ qj]at a2 a3 a4;refine⟨λhk=>.step a1.one ?_,by simpa using a2,λhk=>.step (by simpa [AD]using a3.one) ?_,by simpa [AD,Ae,AU]using a4⟩
  .cases b
   .have e1:((L.length:Int)+2+(k:Int)).toNat=k+L.length+2:=qo
    simpa [stepL,fixI,hb,e1]using hk
   .simpa [stepL,fixI,hb]using hk
  .have e1:((M.length:Int)+1+((k+(L.length+1):Nat):Int)).toNat=k+L.length+M.length+2:=qo
   have e2:((M.length:Int)+1+((k:Int)+((L.length:Int)+1))).toNat=k+L.length+M.length+2:=qo
   simpa [stepL,fixI,e1,e2,AD,Ae,AU]using hk
 cases b
 .have g:=g rfl;refine⟨λc i own ho=>?_,λ{l k n} ha {c i r own p q res} ho hp hk=>?_,ySh dI g.dead,yY1 oI g.old⟩
  .rw[e]at ho|-;simp only[AH,if_false,sqE,idE,AA];rw[g.X _ _ _ (by simp;omega)];simp;omega
  .rw[e]at ho;obtain⟨a,b,rfl,hla,hlb⟩:=yG4 ho;have⟨h1,h2,h3,h4⟩:=hr ha;simp only[AH,if_false,sqE,idE,AF hla,AE hla,AA,AC,AB]at h1 hk|-;apply h1;rw[<-AB];apply g.run h4 hlb (by rw[AA,hla,hp]);rw[AB];simpa [AD,Ae,AU]using hk
 .have h:=h rfl;refine⟨λc i own ho=>?_,λ{l k n} ha {c i r own p q res} ho hp hk=>?_,ySh h.dead dI,yY1 h.old oI⟩
  .rw[e]at ho|-;simp only[if_true,sqE,idE,AA];rw[h.X _ _ _ (by simp;omega)];simp;omega
  .rw[e]at ho;obtain⟨a,b,rfl,hla,hlb⟩:=yG4 ho;have⟨h1,h2,h3,h4⟩:=hr ha;simp only[if_true,sqE,idE,AF hla,AE hla,AA,AC,AB]at h1 hk|-;refine h1 (h.run h2 hla hp (h3 ?_));simpa [AD,Ae,AU]using hk
end
noncomputable def lfE(n:Nd)(b:Bool):EvT:=λc i own=>leafI pfxB ⟨1,0,0,b,n⟩ c i own
theorem yP(n:Nd)(a b:Int)(f:Bool):cntL [⟨1,a,b,f,n⟩]=if yDg n.f=true then 1 else 0:=by simp[cntL,cntI]
theorem yCu{k:Int}:yDg k=true↔(k=11\/k=12\/k=13):=by unfold yDg;simp
variable {n:Nd}
theorem yOt(h:yDg n.f=true)(b:Bool) c (i:It) k (hi:i.H=true):
  lfE n b c i [k]=(if(yBi n k c).1=true then⟨true,i.strip || decide (n.f=3),i.G⟩else yC5 (if b=true then yBj (pfxB n.s) n c else noH),[(yBi n k c).2]):=by
 have h':=yCu.1 h;simp[lfE,leafI,hi,h']
theorem yOs(h:yDg n.f=false)(b:Bool) c (i:It) own (hi:i.H=true):
  lfE n b c i own=(if tstB n (yA0 i c)=true then⟨true,i.strip || decide (n.f=3),i.G⟩else yC5 (if b=true then yBj (pfxB n.s) n c else noH),own):=by
 have h':¬(n.f=11\/n.f=12\/n.f=13):=λq=>by rw[yCu.2 q]at h;cases h
 simp[lfE,leafI,hi,h']
theorem yHp(b:Bool) c (i:It) own (hi:i.H=false):lfE n b c i own=(i,own):=by simp[lfE,leafI,hi]
theorem xEa n k (c:Ent):(yBi n k c).2.j=c.j:=by
 have e:(yB n k c).j=c.j:=by
  unfold yB;split
  .rename_i h;simp only[yFe,AI]at h;exact yA4.1 h.1.2
  .rfl
 unfold yBi;split<;>exact e
theorem xIl(cd:List Bool) n (b:Bool):Frg cd [⟨1,0,0,b,n⟩] (lfE n b):=by
 refine⟨λc i own ho=>?_,λ{l k m} ha {c i r own p q res} ho hp hk=>.step ha.one ?_,λc i own hi=>?_,λc i own k hk=>?_⟩
 .exact(yQr ..).trans ho
 .rw[yP]at ho;show LkR pfxB l c cd ⟨k+1,(leafI pfxB (fixI k m ⟨1,0,0,b,n⟩) c i (p++(own++q))).1::r,(leafI pfxB (fixI k m ⟨1,0,0,b,n⟩) c i (p++(own++q))).2⟩ res;cases hi:i.H
  .rw[yHp _ _ _ _ hi]at hk;simpa [leafI,hi]using hk
  .cases h:yDg n.f
   .rw[yOs h _ _ _ _ hi]at hk;have h':¬(n.f=11\/n.f=12\/n.f=13):=λq=>by rw[yCu.2 q]at h;cases h
    simpa [leafI,hi,fixI,h',h]using hk
   .rw[h,iB rfl]at ho;match own,ho with
    | [d],_=>
      rw[yOt h _ _ _ _ hi]at hk;have h':=yCu.1 h;simpa [leafI,hi,fixI,h',h,<-hp]using hk
 .rw[yHp _ _ _ _ hi];exact⟨hi,rfl,rfl⟩
 .cases hi:i.H
  .rw[yHp _ _ _ _ hi]at hk;exact .inl hk
  .unfold lfE leafI at hk;rw[iB hi]at hk;dsimp only at hk;split at hk
   .rcases List.mem_or_eq_of_mem_set hk with q|q
    .exact .inl q
    .exact .inr (q▸xEa ..)
   .exact .inl hk
end
section
def runE(E:EvT):List (Ent×It)->List Ctr->List (Ent×It)
 | [],_=> []
 |x::r,own=>(x.1,(E x.1 x.2 own).1)::runE E r (E x.1 x.2 own).2
def outE(E:EvT):List (Ent×It)->List Ctr->List Ctr
 | [],own=>own
 |x::r,own=>outE E r (E x.1 x.2 own).2
def tlX:List (Ent×It)->List Ent
 | []=> []
 |x::r=>(if x.2.H=true then [yA0 x.2 x.1]else [])++tlX r
theorem yG0(E:EvT):∀(xs:List (Ent×It))(own:List Ctr),(runE E xs own).map AG=xs.map AG
 | [],_=>rfl
 |x::r,own=>by simp[runE,yG0 E r]
theorem yJv i j c d:yAf (yA0 i c) (yA0 j d)=yAf c d:=by unfold yA0;split<;>split<;>rfl
theorem xC2{c:Ent}{i:It}:∀{xs:List (Ent×It)},(∀d∈xs.map AG,yAf c d= -1)->∀x∈tlX xs,yAf (yA0 i c) x= -1
 | [],_,x,h=>by simp[tlX]at h
 |y::r,hd,x,h=>by
  simp only[tlX,AL]at h
  rcases h with h|h
  .split at h
   .rw[AJ.1 h,yJv];exact hd _ (by simp)
   .cases h
  .exact xC2 (λd hd'=>hd d (AK _ hd')) x h
theorem yPu:∀{xs:List (Ent×It)},Ord (xs.map AG)->Ord (tlX xs)
 | [],_=>.nil
 |y::r,h=>by
  have h':=AP.1 h
  simp only[tlX]
  split
  .exact AP.2 ⟨xC2 h'.1,yPu h'.2⟩
  .exact yPu h'.2
structure RwC(n:Nat)(xs:List (Ent×It))(own:List Ctr):Prop where
 X:own.length=n
 ord:Ord (xs.map AG)
 j:∃ρ,(∀k∈own,¬(k.used=true/\k.j=ρ))/\∀x∈xs.map AG,x.j=ρ
def Mn(E:EvT)(n:Nat)(R T:List Ent):Prop:=∀xs own,RwC n xs own->tlX xs=R->tlX (runE E xs own)=T
section
variable {E F:EvT} {n m:Nat} {T U:List Ent}
theorem xFs(hE:∀c i own,own.length=n->(E c i own).2.length=n):∀(xs:List (Ent×It))(a b:List Ctr),a.length=n->runE (sqE n E F) xs (a++b)=runE F (runE E xs a) b
 | [],_,_,_=>rfl
 |x::r,a,b,h=>by
  simp only[runE,sqE,AF h,AE h]
  rw[xFs hE r _ _ (hE _ _ _ h)]
theorem xFu:∀(xs:List (Ent×It))(own:List Ctr),runE idE xs own=xs
 | [],_=>rfl
 |x::r,own=>by simp only[runE,idE,xFu r]
theorem RwC.cut{xs:List (Ent×It)}{own:List Ctr}(h:RwC (n+m) xs own):∃a b,own=a++b/\RwC n xs a/\RwC m xs b:=by obtain⟨a,b,rfl,ha,hb⟩:=yG4 h.X;obtain⟨ρ,h1,h2⟩:=h.j;exact⟨a,b,rfl,⟨ha,h.ord,ρ,λk hk=>h1 k (by simp[hk]),h2⟩,⟨hb,h.ord,ρ,λk hk=>h1 k (by simp[hk]),h2⟩⟩
theorem Mn.sq(h:Mn E n R T)(g:Mn F m T U)(hE:∀c i own,own.length=n->(E c i own).2.length=n):Mn (sqE n E F) (n+m) R U:=by intro xs own hr ht;obtain⟨a,b,rfl,ha,hb⟩:=hr.cut;rw[xFs hE _ _ _ ha.X];refine g _ _ ⟨hb.X,by rw[yG0];exact hb.ord,by rw[yG0];exact hb.j⟩ (h _ _ ha ht)
theorem xH5:Mn idE n R R:=λxs own _ ht=>by rw[xFu];exact ht
theorem xFt(hE:∀c i own,own.length=n->(E c i own).2.length=n):∀(xs:List (Ent×It))(a b:List Ctr),a.length=n->runE (inE n E F) xs (a++b)=Al (λx y=>(x.1,yE5 x.2 y.2)) (runE E xs a) (runE F xs b)
 | [],_,_,_=>rfl
 |x::r,a,b,h=>by
  simp only[runE,inE,AF h,AE h,Am]
  rw[xFt hE r _ _ (hE _ _ _ h)]
theorem yYg:∀(ya yb:List (Ent×It)),ya.map AG=yb.map AG->(Al (λx y=>(x.1,yE5 x.2 y.2)) ya yb).map AG=ya.map AG
 | [],_,_=>rfl
 |x::ya,[],h=>by simp at h
 |x::ya,y::yb,h=>by simp only[AQ,List.cons.injEq]at h;simp[yYg ya yb h.2]
theorem yVm:∀(ya yb:List (Ent×It)),ya.map AG=yb.map AG->Ord (ya.map AG)->∀x,x∈tlX (Al (λx y=>(x.1,yE5 x.2 y.2)) ya yb)↔x∈tlX ya\/(x∈tlX yb/\∀y∈tlX ya,yAf x y≠0)
 | [],[],_,_,x=>by simp[tlX]
 | [],y::yb,h,_,x|x::ya,[],h,_,_=>by simp at h
 |(c,i)::ya,(d,j)::yb,h,ho,x=>by
  simp only[AQ,List.cons.injEq]at h
  obtain⟨rfl,h⟩:=h
  have ho':=AP.1 ho
  have l1:=λk=> @xC2 c k ya ho'.1
  have l2:=λk=> @xC2 c k yb (by rw[<-h];exact ho'.1)
  have ih:=yVm ya yb h ho'.2 x
  simp only[Am,tlX,AL,ih]
  have z:∀k e,yAf (yA0 k c) e= -1->yAf e (yA0 k c)≠0:=λk e q z=>qw (yA3 e (yA0 k c))
  cases hi:i.H
  .cases hj:j.H
   .simp[yE5,hi,hj,yC5]
   .simp only[yE5,hi,hj,AH,if_false,if_true,AJ,List.not_mem_nil,false_or]
    constructor
    .rintro(rfl|q|⟨q,r⟩)
     .exact .inr ⟨.inl rfl,λy hy q=>qw (l1 j y hy)⟩
     .exact .inl q
     .exact .inr ⟨.inr q,r⟩
    .rintro(q|⟨rfl|q,r⟩)
     .exact .inr (.inl q)
     .exact .inl rfl
     .exact .inr (.inr ⟨q,r⟩)
  .simp only[yE5,hi,if_true,AJ]
   constructor
   .rintro(rfl|q|⟨q,r⟩)
    .exact .inl (.inl rfl)
    .exact .inl (.inr q)
    .refine .inr ⟨.inr q,λy hy=>?_⟩
     rcases hy with rfl|hy
     .exact z _ _ (l2 i x q)
     .exact r y hy
   .rintro((rfl|q)|⟨q|q,r⟩)
    .exact .inl rfl
    .exact .inr (.inl q)
    .split at q
     .rw[AJ.1 q]at r
      exact absurd (by rw[yJv];exact yB1 c) (r _ (.inl rfl))
     .cases q
    .exact .inr (.inr ⟨q,λy hy=>r y (.inr hy)⟩)
theorem Mn.inter(h:Mn E n R T)(g:Mn F m R U)(hE:∀c i own,own.length=n->(E c i own).2.length=n):Mn (inE n E F) (n+m) R (uniM T U):=by
 intro xs own hr ht;obtain⟨a,b,rfl,ha,hb⟩:=hr.cut;rw[xFt hE _ _ _ ha.X,<-h _ _ ha ht,<-g _ _ hb ht];have e:(runE E xs a).map AG=(runE F xs b).map Prod.fst:=by rw[yG0,yG0]
 have o1:Ord ((runE E xs a).map AG):=by rw[yG0];exact ha.ord
 have o2:Ord ((runE F xs b).map AG):=by rw[yG0];exact ha.ord
 obtain⟨u1,u2⟩:=yFm (yPu o1) (yPu o2);exact yKu (yPu (by rw[yYg _ _ e];exact o1)) u1 λx=>(yVm _ _ e o1 x).trans (u2 x).symm
end
end
theorem yQu{a b:Ent}(h:yAf a b= -1):LeC a b:=by
 unfold yAf yAp at h;exact zzU3
theorem yMx(n:Nd)(i:It) c:yA0 ⟨true,i.strip || decide (n.f=3),i.G⟩ c=yB0 n (yA0 i c):=by unfold yA0 yB0;by_cases h:n.f=3<;>cases i.strip<;>simp[h]
theorem yWi i (c:Ent):(yA0 i c).j=c.j/\(yA0 i c).E=c.E/\(yA0 i c).C=c.C/\(yA0 i c).ts=c.ts:=by unfold yA0;split<;>simp
theorem xAd{n:Nd}(h:yDg n.f=false)(b:Bool):∀(xs:List (Ent×It))(own:List Ctr)(pre:List Ent),tlX (runE (lfE n b) xs own)=leafG n pre (tlX xs)
 | [],_,_=>rfl
 |x::r,own,pre=>by
  cases hi:x.2.H
  .simp only[runE,yHp _ _ _ _ hi,tlX,hi,AH,if_false,AS]
   exact xAd h b r own pre
  .have hk:∀c,keepB n pre c=tstB n c:=λc=>by
    have h':¬(n.f=11\/n.f=12\/n.f=13):=λq=>by rw[yCu.2 q]at h;cases h
    simp only[not_or]at h'
    simp[keepB,h']
   simp only[runE,yOs h _ _ _ _ hi,tlX,hi,if_true,AY,leafG,hk]
   rw[xAd h b r own (pre++ [yA0 x.2 x.1])]
   split
   .simp[yMx]
   .simp[yC5]
theorem yV0(n:Nd) k (c:Ent):(yB n k c).used=true/\(yB n k c).j=c.j/\(n.f=11->(yB n k c).E=c.E/\(yB n k c).C=c.C):=by
 unfold yB;split
 .rename_i q;simp only[yFe,AI,Ah,Ax,decide_eq_false_iff_not,yA4]at q;exact⟨q.1.1,q.1.2,λz=>q.2.resolve_left (λy=>y z)⟩
 .exact⟨rfl,rfl,λ_=>⟨rfl,rfl⟩⟩
def bef(n:Nd)(pre:List Ent)(c:Ent):Int:=if n.f=11 then(befN pre c:Int)else(pre.length:Int)
def Jc(n:Nd)(k:Ctr)(pre:List Ent)(c:Ent):Prop:=(yB n k c).count=bef n pre c\/(n.n<=(yB n k c).count/\n.n<=bef n pre c)
theorem xAe{n:Nd}(h:yDg n.f=true)(b:Bool)(ρ:Ba):∀(xs:List (Ent×It))(k:Ctr)(pre:List Ent),Ord (xs.map AG)->(∀x∈xs.map AG,x.j=ρ/\Jc n k pre x/\∀y∈pre,yAf y x= -1)->(∀y∈pre,y.j=ρ)->tlX (runE (lfE n b) xs [k])=leafG n pre (tlX xs)
 | [],_,_,_,_,_=>rfl
 |x::r,k,pre,ho,hx,hp=>by
  have ho':=AP.1 ho
  cases hi:x.2.H
  .simp only[runE,yHp _ _ _ _ hi,tlX,hi,AH,if_false,AS]
   exact xAe h b ρ r k pre ho'.2 (λy hy=>hx y (AK _ hy)) hp
  .have h':=yCu.1 h
   obtain⟨t1,t2,t3,t4⟩:=yWi x.2 x.1
   obtain⟨x1,x2,x3⟩:=hx x.1 (by simp)
   have hkey:∀d,yAf (yA0 x.2 x.1) d=yAf x.1 d:=λd=>by
    have:=yJv x.2 ⟨true,false,noH⟩ x.1 d
    simpa [yA0]using this
   have e1:=yV0 n k x.1
   have hb0:bef n pre (yA0 x.2 x.1)=bef n pre x.1:=by simp[bef,befN,colB,t2,t3]
   have hrest:tlX (runE (lfE n b) r [(yBi n k x.1).2])=leafG n (pre++ [yA0 x.2 x.1]) (tlX r):=by
    refine xAe h b ρ r _ _ ho'.2 (λd hd=>?_) (λy hy=>?_)
    .obtain⟨d1,d2,d3⟩:=hx d (AK _ hd);have hcd:=ho'.1 d hd;refine⟨d1,?_,λy hy=>?_⟩
     .have m1:(yBi n k x.1).2.used=true/\(yBi n k x.1).2.j=x.1.j/\(n.f=11->(yBi n k x.1).2.E=x.1.E/\(yBi n k x.1).2.C=x.1.C):=by unfold yBi;split<;>exact e1
      have m2:(yBi n k x.1).2.count=bef n pre x.1+1\/(n.n<=(yBi n k x.1).2.count/\n.n<=bef n pre x.1+1):=by unfold yBi;rcases x2 with q|q<;>split<;>simp only<;>omega
      have hs:yFe n (yBi n k x.1).2 d=(!decide (n.f=11) || (eqB x.1.E d.E && eqB x.1.C d.C)):=by
       have:eqB (yBi n k x.1).2.j d.j=true:=yA4.2 (by rw[m1.2.1,x1,d1]);unfold yFe;rw[m1.1,this];by_cases q:n.f=11
       .rw[(m1.2.2 q).1,(m1.2.2 q).2];simp
       .simp[q]
      unfold Jc yB;rw[hs];by_cases q:n.f=11
      .have hbf:∀P:List Ent,bef n P d=(befN P d:Int):=λP=>iB q;by_cases hc:(eqB x.1.E d.E && eqB x.1.C d.C)=true
       .rw[iB (by simp[hc])];have hc':=hc;rw[AI,yA4,yA4]at hc';have h9:bef n (pre++ [yA0 x.2 x.1]) d=bef n pre x.1+1:=by simp[bef,q,befN,colB,t2,t3,hc'.1,hc'.2]
        rw[h9];exact m2
       .rw[iA (by simp[q];simpa using hc)];left;have h0:befN (pre++ [yA0 x.2 x.1]) d=0:=by
         refine List.countP_eq_zero.2 λy hy=>?_;intro hcol;have hcol':y.E=d.E/\y.C=d.C:=by simp only[colB,AI,beq_iff_eq]at hcol;exact⟨toList_inj hcol.1,toList_inj hcol.2⟩
         refine hc ?_;rw[AI,yA4,yA4];rcases AL.1 hy with hy|hy
         .have l1:=yQu (x3 y hy);have l2:=yQu hcd;have r1:=(hp y hy).trans x1.symm;have r2:=x1.trans d1.symm;have f1:=(l1.2 r1).1.sand (l2.2 r2).1 hcol'.1.symm;have f2:=((l1.2 r1).2 f1.symm).sand ((l2.2 r2).2 (f1.trans hcol'.1)) hcol'.2.symm;exact⟨f1.trans hcol'.1,f2.trans hcol'.2⟩
         .rw[AJ.1 hy,t2,t3]at hcol';exact hcol'
        rw[hbf,h0];rfl
      .rw[iB (by simp[q])];have h9:bef n (pre++ [yA0 x.2 x.1]) d=bef n pre x.1+1:=by simp[bef,q]
       rw[h9];exact m2
     .rcases AL.1 hy with hy|hy
      .exact d3 y hy
      .rw[AJ.1 hy,hkey];exact hcd
    .rcases AL.1 hy with hy|hy
     .exact hp y hy
     .rw[AJ.1 hy,t1];exact x1
   simp only[runE,yOt h _ _ _ _ hi,tlX,hi,if_true,AY,leafG,hrest]
   have hk:(yBi n k x.1).1=keepB n pre (yA0 x.2 x.1):=by
    have k1:(yB n k x.1).count<n.n↔bef n pre x.1<n.n:=by rcases x2 with q|q<;>omega
    rw[<-hb0]at k1;unfold yBi keepB;rcases h' with q|q|q<;>simp only[bef,q,if_true]at k1<;>simp[q,k1]<;>split<;>simp_all<;>omega
   rw[hk]
   split
   .simp[yMx]
   .simp[yC5]
theorem xH4 n (b:Bool) R:Mn (lfE n b) (cntL [⟨1,0,0,b,n⟩]) R (leafM n R):=by
 intro xs own hr ht;subst ht;cases h:yDg n.f
 .exact xAd h b xs own []
 .have hl:=hr.X;rw[yP,h,iB rfl]at hl;match own,hl,hr with
  | [k],_,hr=>
    obtain⟨ρ,r1,r2⟩:=hr.j;refine xAe h b ρ xs k [] hr.ord (λx hx=>⟨r2 x hx,.inl ?_,λy hy=>by cases hy⟩) (λy hy=>by cases hy);have:yFe n k x=false:=by
     cases q:yFe n k x
     .rfl
     .simp only[yFe,AI,yA4]at q;exact absurd ⟨q.1.1,q.1.2.trans (r2 x hx)⟩ (r1 k (by simp))
    unfold yB;rw[this];simp[bef,befN]
noncomputable def evF(cd:List Bool):CT->Bool->Nat->EvT
 | .leaf n,s,_=>lfE n (!s)
 | .chain _ a b,s,f=>sqE (cntL (a.gen s f)) (evF cd a s f) (evF cd b (s || a.passes) (f+a.J))
 | .inter _ a b,s,f=>inE (cntL (a.gen s f)) (evF cd a s f) (evF cd b s (f+a.J))
 | .cond _ p a b,s,f=>if cd[f+p.J]?=some true then sqE (cntL (a.gen s (f+p.J+1))) (evF cd a s (f+p.J+1)) idE else sqE (cntL (a.gen s (f+p.J+1))) idE (evF cd b s (f+p.J+1+a.J))
theorem yCb:∀(t:CT)(s:Bool)(f:Nat),f+t.J<=cd.length->Frg cd (t.gen s f) (evF cd t s f)
 | .leaf n,s,f,_=>xIl cd n _
 | .chain _ a b,s,f,h=>by simp only[CT.J]at h;exact(yCb a s f qo).seq (yCb b _ _ qo)
 | .inter _ a b,s,f,h=>by simp only[CT.J]at h;exact(yCb a s f qo).inter (yCb b _ _ qo)
 | .cond _ p a b,s,f,h=>by
   simp only[CT.J]at h
   obtain⟨v,hv⟩:∃v,cd[f+p.J]?=some v:=qg qo
   have h9:=xIm v hv (λ_=>yCb a s (f+p.J+1) qo) (λ_=>yCb b s (f+p.J+1+a.J) qo)
   simp only[evF,hv,Aa]
   exact h9
def CdOk:CT->Nat->List Bool->List Ent->Prop
 | .leaf _,_,_,_=>True
 | .chain _ a b,f,cd,R=>CdOk a f cd R/\CdOk b (f+a.J) cd (mean a R)
 | .inter _ a b,f,cd,R=>CdOk a f cd R/\CdOk b (f+a.J) cd R
 | .cond _ p a b,f,cd,R=>cd[f+p.J]?=some (decide (0<(mean p R).length))/\CdOk a (f+p.J+1) cd R/\CdOk b (f+p.J+1+a.J) cd R
theorem yEd:∀(t:CT)(s:Bool)(f:Nat)(R:List Ent),f+t.J<=cd.length->CdOk t f cd R->Mn (evF cd t s f) (cntL (t.gen s f)) R (mean t R)
 | .leaf n,s,f,R,_,_=>xH4 n _ R
 | .chain _ a b,s,f,R,h,k=>by
   simp only[CT.J]at h
   rw[CT.gen,yAj]
   exact(yEd a s f R qo k.1).sq (yEd b _ _ _ qo k.2) (yCb a s f qo).X
 | .inter _ a b,s,f,R,h,k=>by
   simp only[CT.J]at h
   have e:cntL ((CT.inter ‹_› a b).gen s f)=cntL (a.gen s f)+cntL (b.gen s (f+a.J)):=by simp[CT.gen,yAj,cntL,cntI,opI]
   rw[e]
   exact(yEd a s f R qo k.1).inter (yEd b _ _ _ qo k.2) (yCb a s f qo).X
 | .cond _ p a b,s,f,R,h,k=>by
   simp only[CT.J]at h
   have e:cntL ((CT.cond ‹_› p a b).gen s f)=cntL (a.gen s (f+p.J+1))+cntL (b.gen s (f+p.J+1+a.J)):=by simp[CT.gen,yAj,cntL,cntI]
   rw[e]
   simp only[evF,k.1,Aa,decide_eq_true_eq,mean]
   by_cases hm:mean p R= []
   .rw[iA (by simp[hm]),iB hm]
    exact xH5.sq (yEd b _ _ _ qo k.2.2) (λ_ _ _ h=>h)
   .rw[iB (List.length_pos_iff.2 hm),iA hm]
    exact(yEd a _ _ _ qo k.2.1).sq xH5 (yCb a _ _ qo).X
def OneR(row:List Ent):Prop:=Ord row/\∃ρ,∀x∈row,x.j=ρ
abbrev st0(row:List Ent):List (Ent×It):=row.map λc=>(c,newI)
theorem yYv:∀row,tlX (st0 row)=row
 | []=>rfl
 |c::r=>by
  show [yA0 newI c]++tlX (st0 r)=_
  rw[yYv r];rfl
theorem yKb row:(st0 row).map AG=row:=by simp[st0,Function.comp_def]
variable {E:EvT}
theorem Frg.all(h:Frg cd L E){own:List Ctr}(ho:own.length=cntL L):LkR pfxB (absG 0 0 L) c cd ⟨0,[newI],own⟩ (E c newI own):=by have:=h.run (l:=absG 0 0 L) (k:=0) (n:=0) (AV _) (c:=c) (i:=newI) (r:= []) (p:= []) (q:= []) (res:=E c newI own) ho rfl;simp only[AS,List.append_nil,Af]at this;exact this (.fin (by rw[yAl];exact Nat.lt_irrefl _) rfl)
variable {row:List Ent}
theorem xHi(h:Frg cd L E){own:List Ctr}(hr:RowR (absG 0 0 L) cd row own o):own.length=cntL L->o=tlX (runE E (st0 row) own):=by
 induction hr with
 |nil cs=>intro _;rfl
 |cons hl _ ih=>
  rename_i c r cs cs' i out _;intro ho;have h1:=hl.one (h.all ho);obtain⟨rfl,rfl⟩:i=(E c newI cs).1/\cs'=(E c newI cs).2:=by rw[<-h1];exact⟨rfl,rfl⟩
  rw[ih (h.X _ _ _ ho)];simp only[st0,AQ,runE,tlX];split<;>simp
variable {n:Nat}
theorem xLg(h:OneR row):RwC n (st0 row) (Ai n newC):=by have⟨h1,ρ,h2⟩:=h;refine⟨by simp,by rw[yKb];exact h1,ρ,λk hk=>?_,by rw[yKb];exact h2⟩;rw[(As.1 hk).2];simp[newC]
theorem xFv(h:Frg cd L E){T:List Ent}(hM:Mn E (cntL L) row T)(hw:OneR row)(hr:RowR (yCx L).2 cd row (Ai (yCx L).1.toNat newC) o):o=T:=by have e:=xHi h hr (by simp[yCx]);rw[e];have:=hM _ _ (xLg (n:=cntL L) hw) (yYv row);simpa [yCx]using this
theorem yD8(hw:OneR row):∀(t:CT)(l:List Ix)(s:Bool)(f:Nat)(bs:List Bool)(R:List Ent)(Rest:List (Int×List Ix))(r:List Bool),bs.length=f->(∀cd,bs<+:cd->∃E,Frg cd l E/\Mn E (cntL l) row R)->
  CdR row ((t.V l s f).map yCx++Rest) bs r->∃bs',bs'.length=t.J/\CdR row Rest (bs++bs') r/\∀cd,bs++bs'<+:cd->CdOk t f cd R
 | .leaf n,l,s,f,bs,R,Rest,r,hf,hp,h=>⟨[],rfl,by simpa [CT.V]using h,λ_ _=>trivial⟩
 | .chain _ a b,l,s,f,bs,R,Rest,r,hf,hp,h=>by
   simp only[CT.V,AW,AB]at h
   have⟨b1,l1,h1,k1⟩:=yD8 hw a l s f bs R _ r hf hp h
   have hp1:∀cd,bs++b1<+:cd->∃E,Frg cd (l++a.gen s f) E/\Mn E (cntL (l++a.gen s f)) row (mean a R):=λcd hc=>by
    have⟨E,e1,e2⟩:=hp cd ((AT _ _).trans hc)
    have hle:=hc.length_le
    simp only[AA]at hle
    exact⟨_,e1.seq (yCb a s f qo),by rw[yAj];exact e2.sq (yEd a s f R qo (k1 cd hc)) e1.X⟩
   have⟨b2,l2,h2,k2⟩:=yD8 hw b _ _ _ (bs++b1) (mean a R) Rest r (by simp;omega) hp1 h1
   exact⟨b1++b2,by simp[CT.J,l1,l2],by simpa using h2,λcd hc=>⟨k1 cd ((by simp:bs++b1<+:bs++(b1++b2)).trans hc),k2 cd (by simpa using hc)⟩⟩
 | .inter _ a b,l,s,f,bs,R,Rest,r,hf,hp,h=>by
   simp only[CT.V,AW,AB]at h
   have⟨b1,l1,h1,k1⟩:=yD8 hw a l s f bs R _ r hf hp h
   have⟨b2,l2,h2,k2⟩:=yD8 hw b _ _ _ (bs++b1) R Rest r (by simp;omega) (λcd hc=>hp cd ((AT _ _).trans hc)) h1
   exact⟨b1++b2,by simp[CT.J,l1,l2],by simpa using h2,λcd hc=>⟨k1 cd ((by simp:bs++b1<+:bs++(b1++b2)).trans hc),k2 cd (by simpa using hc)⟩⟩
 | .cond _ p a b,l,s,f,bs,R,Rest,r,hf,hp,h=>by
   simp only[CT.V,AW,AB,AQ,List.map_nil,AY]at h
   have⟨b0,l0,h0,k0⟩:=yD8 hw p l s f bs R _ r hf hp h
   have⟨E,e1,e2⟩:=hp (bs++b0) (AT _ _)
   cases h0 with
   |cons hr h0=>
    rename_i o
    have ho:=xFv (e1.seq (yCb p s f (by simp;omega))) (by rw[yAj];exact e2.sq (yEd p s f R (by simp;omega) (k0 _ (AV _))) e1.X) hw hr
    rw[ho]at h0
    have⟨b1,l1,h1,k1⟩:=yD8 hw a l s (f+p.J+1) _ R _ r (by simp;omega) (λcd hc=>hp cd ((by simp:bs<+:bs++b0++ [decide (0<(mean p R).length)]).trans hc)) h0
    have⟨b2,l2,h2,k2⟩:=yD8 hw b l s (f+p.J+1+a.J) _ R Rest r (by simp;omega) (λcd hc=>hp cd ((by simp:bs<+:bs++b0++ [decide (0<(mean p R).length)]++b1).trans hc)) h1
    refine⟨b0++ [decide (0<(mean p R).length)]++b1++b2,by simp[CT.J];omega,by simpa using h2,λcd hc=>⟨?_,k1 cd (List.IsPrefix.trans (by simp) hc),k2 cd (by simpa using hc)⟩⟩
    obtain⟨z,rfl⟩:=hc
    have:f+p.J=(bs++b0).length:=by simp;omega
    simp only[this,AB]
    rw[<-AB,List.getElem?_append_right qr]
    simp
theorem xL0(cd:List Bool):Frg cd [] idE:=⟨λ_ _ _ h=>h,λ{_ _ _} _ {_ _ _ _ _ _ _} _ _ hk=>hk,λ_ _ _ h=>⟨h,rfl,rfl⟩,λ_ _ _ _ h=>.inl h⟩
variable {out:List Ent}
theorem xLf(h:RwsR (yCx (t.gen false 0)) ((t.V [] false 0).map yCx) rs out):(∀row∈rs,OneR row)->out=rs.flatMap (mean t):=by
 induction h with
 |nil=>intro _;rfl
 |cons hc hr _ ih=>
  rename_i row rs bs o out _;intro hw;have hw0:=hw row (by simp);have⟨b,l1,h1,k1⟩:=yD8 hw0 t [] false 0 [] row [] bs rfl (λcd _=>⟨idE,xL0 cd,xH5⟩) (by simpa using hc);cases h1
  simp only[AS]at k1 hr;rw[ih (λx hx=>hw x (AK _ hx)),xFv (yCb t false 0 qo) (yEd t false 0 row qo (k1 _ (AV _))) hw0 hr];simp
theorem xBy:∀{p x:List U8},p<+:x->AN x p≠ -1
 | [],[],_=>qj
 | [],_::_,_=>by simp[AN]
 |a::p,[],h=>by simp at h
 |a::p,b::x,h=>by
  obtain⟨rfl,k⟩:=AZ.1 h
  simp[AN,xBy k]
theorem xBz:∀{p c x:List U8},AN c p≠ -1->¬p<+:c->(AN c x= -1\/c=x)->¬p<+:x
 | [],c,x,_,h,_,_=>h (List.nil_prefix)
 |a::p,[],x,h,_,_,_=>h rfl
 |a::p,d::c,[],h,_,_,k=>by simp at k
 |a::p,d::c,b::x,h1,h2,h3,h4=>by
  obtain⟨rfl,h5⟩:=AZ.1 h4
  simp only[AN]at h1 h3
  by_cases z1:d<a
  .simp[z1]at h1
  .by_cases z2:a<d
   .simp only[z1,z2,if_true,if_false]at h3
    rcases h3 with h3|h3
    .omega
    .injection h3 with h3;subst h3;exact z1 z2
   .have e:=UInt8.le_antisymm (UInt8.not_lt.1 z2) (UInt8.not_lt.1 z1)
    subst e
    simp only[z1,if_false]at h1 h3
    exact xBz h1 (λq=>h2 (AZ.2 ⟨rfl,q⟩)) (h3.imp id λq=>(List.cons.inj q).2) h5
variable {x p:Ba}
theorem yGi:yBt x p=true↔p.data.toList<+:x.data.toList:=by
 unfold yBt;rw[AI,decide_eq_true_eq,beq_iff_eq,ByteArray.toList_eq,ByteArray.toList_eq];have e:(x.extract 0 p.size).data.toList=x.data.toList.take p.size:=by simp
 have hp:p.size=p.data.toList.length:=by rw[Array.length_toList];rfl
 rw[e,hp,List.prefix_iff_eq_take];constructor
 .rintro⟨_,h⟩;exact h.symm
 .intro h;refine⟨?_,h.symm⟩;have:=congrArg Ar h;simp only[Ag]at this;have:x.size=x.data.toList.length:=by rw[Array.length_toList];rfl
  omega
theorem yQl(h:lsB x p=true):yBt x p=false:=by
 cases q:yBt x p
 .rfl
 .exact absurd (yE2.1 h) (xBy (yGi.1 q))
theorem yKr{c:Ba}(h:lsB c p=false)(k:yBt c p=false)(hl:LeB c x):yBt x p=false:=by
 cases q:yBt x p
 .rfl
 .refine absurd (yGi.1 q) (xBz (c:=c.data.toList) (λz=>?_) (λz=>?_) (hl.imp id λz=>by rw[z]))
  .rw[yE2.2 z]at h;cases h
  .rw[yGi.2 z]at k;cases k
theorem yVj{a b c:Ba}(h:lsB a b=false)(hl:LeB a c):lsB c b=false:=by
 cases q:lsB c b
 .rfl
 .rw[hl.less q]at h;cases h
def HOk(h:Hn)(c:Ent):Prop:=(h.rank=0\/h.rank=1\/h.rank=3\/h.rank=4\/h.rank=6)\/(h.rank=2/\lsB c.C h.txt=true)\/(h.rank=5/\lsB c.j h.txt=true)
theorem xEg(p:Ba) n c:HOk (yBj p n c) c:=by
 unfold yBj HOk;repeat' split
 all_goals simp[noH, *]
variable {x:Ent}
theorem yUu{a b:Hn}(ha:HOk a c)(hb:HOk b c)(h:a.rank<b.rank\/(a.rank=b.rank/\lsB b.txt a.txt=false))(hs:yAy a c x=true):yAy b c x=true:=by
 have ls:∀{u v w:Ba},lsB u v=true->lsB w v=false->lsB u w=true:=λ{u v w} h k=>by
  rcases yEj v w with q|q|q
  .exact yE2.2 (yPi (yE2.1 h) q)
  .rw[<-yB5.1 q];exact h
  .have:cB w v= -1:=qw (yJ v w)
   rw[yE2.2 this]at k;cases k
 unfold yAy famB at*;rcases ha with(h1|h1|h1|h1|h1)|⟨h1,h2⟩|⟨h1,h2⟩<;>rcases hb with(k1|k1|k1|k1|k1)|⟨k1,k2⟩|⟨k1,k2⟩<;>simp only[h1,k1]at h hs|-<;>simp[yA4]at h hs|-;all_goals (try omega)
 all_goals (first|exact hs.1|exact hs.1.1|exact hs|(rw[hs.1.1];exact k2)|(rw[hs.1];exact k2)|(rw[hs];exact k2)|exact⟨hs.1,by rw[hs.2];exact k2⟩|exact⟨hs.1,ls hs.2 h⟩|exact ls hs h)
def Bhd(c x:Ent):Prop:=yAf c x= -1/\c.f=0/\x.f=0
structure Hi(n:Nat)(s:Bool)(E:EvT):Prop where
 ok:∀{c i own},i.H=true->(E c i own).1.H=false->HOk (E c i own).1.G c
 seen:s=true->∀{c i own},i.H=true->(E c i own).1.H=false->(E c i own).1.G=noH
 skip:∀{c i own x j},own.length=n->i.H=true->(E c i own).1.H=false->Bhd c x->yAy (E c i own).1.G c x=true->j.H=true->(E x j (E c i own).2).1.H=false/\(E x j (E c i own).2).2=(E c i own).2
theorem yFo c x:yAy noH c x=false:=by simp[yAy,noH]
theorem xEc{a b:Hn}(ha:HOk a c)(hb:HOk b c)(h:yAy (yK3 a b) c x=true):yAy a c x=true/\yAy b c x=true:=by
 unfold yK3 at h;split at h
 .rename_i q;refine⟨yUu hb ha (q.imp id λz=>⟨z.1,?_⟩) h,h⟩;cases y:lsB a.txt b.txt
  .rfl
  .have h1:=yE2.1 y;have h2:=yE2.1 z.2;have h3:=yJ a.txt b.txt;omega
 .rename_i q;refine⟨h,yUu ha hb ?_ h⟩;simp only[not_or,not_and,Bool.not_eq_true]at q;by_cases z:b.rank=a.rank
  .exact .inr ⟨z.symm,q.2 z⟩
  .exact .inl qo
theorem Hi.seq{s p:Bool}{F:EvT}(h:Hi n s E)(g:Hi m (s || p) F)(hl:∀c i own,own.length=n->(E c i own).2.length=n)(hE:∀c i own,i.H=false->(E c i own).1.H=false/\(E c i own).1.G=i.G/\(E c i own).2=own)(hF:∀c i own,i.H=false->(F c i own).1.H=false/\(F c i own).1.G=i.G/\(F c i own).2=own)(hp:p=false->n=0):Hi (n+m) s (sqE n E F):=by
 refine⟨λ{c i own} hi hd=>?_,λhs {c i own} hi hd=>?_,λ{c i own x j} ho hi hd hk hs hj=>?_⟩
 .cases q:(E c i (own.take n)).1.H
  .have:=h.ok hi q;rwa [<-(hF c _ (own.drop n) q).2.1]at this
  .exact g.ok q hd
 .cases q:(E c i (own.take n)).1.H
  .exact(hF c _ (own.drop n) q).2.1.trans (h.seen hs hi q)
  .exact g.seen (by simp[hs]) q hd
 .obtain⟨a,b,rfl,hla,hlb⟩:=yG4 ho;simp only[sqE,AF hla,AE hla,AF (hl c i a hla),AE (hl c i a hla)]at hd hs|-;cases q:(E c i a).1.H
  .rw[(hF c _ b q).2.1]at hs;rw[(hF c _ b q).2.2];have⟨k1,k2⟩:=h.skip hla hi q hk hs hj;rw[k2];exact⟨(hF x _ b k1).1,by rw[(hF x _ b k1).2.2]⟩
  .cases hpp:p
   .have z:=hp hpp;have e:∀c i own,own.length=n->(E c i own).2= []:=λc i own ho=>Ak.1 (by rw[hl c i own ho,z]);have ho2:=hl c i a hla;cases q2:(E x j (E c i a).2).1.H
    .exact⟨(hF x _ _ q2).1,by rw[(hF x _ _ q2).2.2,e _ _ _ ho2,e _ _ _ hla]⟩
    .have⟨k1,k2⟩:=g.skip hlb q hd hk hs q2;exact⟨k1,by rw[k2,e _ _ _ ho2,e _ _ _ hla]⟩
   .rw[g.seen (by simp[hpp]) q hd,yFo]at hs;cases hs
theorem Hi.inter{s:Bool}{F:EvT}(h:Hi n s E)(g:Hi m s F)(hl:∀c i own,own.length=n->(E c i own).2.length=n):Hi (n+m) s (inE n E F):=by
 have hj:∀l r:It,(yE5 l r).H=false->l.H=false/\r.H=false/\(yE5 l r).G=yK3 l.G r.G:=λl r q=>by unfold yE5 at q|-;cases h1:l.H<;>cases h2:r.H<;>simp_all[yC5]
 refine⟨λ{c i own} hi hd=>?_,λhs {c i own} hi hd=>?_,λ{c i own x j} ho hi hd hk hs hj'=>?_⟩
 .have⟨h1,h2,h3⟩:=hj _ _ hd;show HOk (yE5 _ _).G c;rw[h3];unfold yK3;split
  .exact g.ok hi h2
  .exact h.ok hi h1
 .have⟨h1,h2,h3⟩:=hj _ _ hd;show(yE5 _ _).G=noH;rw[h3,h.seen hs hi h1,g.seen hs hi h2,yM9]
 .obtain⟨a,b,rfl,hla,hlb⟩:=yG4 ho;simp only[inE,AF hla,AE hla,AF (hl c i a hla),AE (hl c i a hla)]at hd hs|-;have⟨h1,h2,h3⟩:=hj _ _ hd;rw[h3]at hs;have⟨s1,s2⟩:=xEc (h.ok hi h1) (g.ok hi h2) hs;have⟨k1,k2⟩:=h.skip hla hi h1 hk s1 hj';have⟨l1,l2⟩:=g.skip hlb hi h2 hk s2 hj';exact⟨by simp[yE5,k1,l1,yC5],by rw[k2,l2]⟩
theorem xLp(hp:p.size<=200)(h:mtB p s=true):yBt s (pfxB p)=true:=by
 have hm:MatB p s true:=by unfold mtB at h;exact @of_decide_eq_true _ (Classical.propDecidable _) h
 have hpm:p.size<=maxLen:=by unfold maxLen;omega
 rcases hm with⟨_,q⟩|⟨hc,n,os,hg,hb⟩
 .cases q
 .obtain⟨m,us,hu,hr⟩:=yZm hpm (yZn p hpm) hc;have:=ySv us (sb s) (by rw[yZq hu hg];exact(hb.1 rfl).2);rw[<-hr]at this;rw[yGi];unfold pfxB;rw[dif_pos hpm];exact this
section
theorem xD1(h:p.size<=200)(k:yBt s (pfxB p)=false):mtB p s=false:=by
 cases q:mtB p s
 .rfl
 .rw[xLp h q]at k;cases k
theorem yRf{X:Ent}(h:famB C X=true):X.j=C.j/\X.E=C.E:=by unfold famB at h;rwa [AI,yA4,yA4]at h
theorem xCy{n:Nd}{X:Ent}(hn:n.s.size<=200)(hc:yDg n.f=false)(ht:tstB n C=false)(hk:Bhd C X)(hs:yAy (yBj (pfxB n.s) n C) C X=true):tstB n X=false:=by
 have hl:=yQu hk.1;have hc':¬(n.f=11\/n.f=12\/n.f=13):=λq=>by rw[yCu.2 q]at hc;cases hc
 simp only[not_or]at hc';by_cases h4:n.f=4
 .simp only[tstB,yBj,h4]at ht hs|-;simp at ht hs|-;split at hs
  .exact xD1 hn (yQl (by simpa [yAy]using hs))
  .rename_i q;split at hs
   .have:X.j=C.j:=yA4.1 (by simpa [yAy]using hs);rw[this];exact ht
   .rename_i q2;exact xD1 hn (yKr (by simpa using q) (by simpa using q2) hl.1)
 by_cases h5:n.f=5
 .simp only[tstB,yBj,h5]at ht hs|-;simp[yAy]at ht hs|-;rw[(yRf hs).2];exact ht
 by_cases h6:n.f=6
 .simp only[tstB,yBj,h6]at ht hs|-;simp at ht hs|-;split at hs
  .have:famB C X=true/\lsB X.C (pfxB n.s)=true:=by simpa [yAy]using hs
   exact xD1 hn (yQl this.2)
  .rename_i q;split at hs
   .have:famB C X=true/\eqB X.C C.C=true:=by simpa [yAy]using hs
    rw[yA4.1 this.2];exact ht
   .rename_i q2;have:famB C X=true:=by simpa [yAy]using hs
    have⟨f1,f2⟩:=yRf this;exact xD1 hn (yKr (by simpa using q) (by simpa using q2) ((hl.2 f1.symm).2 f2.symm))
 by_cases h8:n.f=8
 .simp only[tstB,yBj,h8]at ht hs|-;simp[inS]at ht hs|-;split at hs
  .have:lsB X.j n.s=true:=by simpa [yAy]using hs
   simp[this]
  .rename_i q;intro _;have⟨z1,z2⟩:=ht (by simpa using q);exact⟨z1,yVj z2 hl.1⟩
 by_cases h9:n.f=9
 .simp only[tstB,yBj,h9]at ht hs|-;simp[inS]at ht hs|-;split at hs
  .have:famB C X=true/\lsB X.C n.s=true:=by simpa [yAy]using hs
   simp[this.2]
  .rename_i q;intro _;have⟨z1,z2⟩:=ht (by simpa using q);obtain⟨f1,f2⟩:=yRf (by simpa [yAy]using hs);exact⟨z1,yVj z2 ((hl.2 f1.symm).2 f2.symm)⟩
 by_cases h10:n.f=10
 .simp only[tstB,yBj,h10]at ht hs|-;simp at ht hs|-;split at hs
  .rename_i q;have h1:famB C X=true/\eqB X.C C.C=true:=by simpa [yAy]using hs
   have⟨f1,f2⟩:=yRf h1.1;have f3:=yA4.1 h1.2;have:=hk.1;simp only[yAf,yAp,yB5.2 f1.symm,yB5.2 f2.symm,yB5.2 f3.symm,hk.2.1,hk.2.2,yA2,yEc]at this;intro z;exfalso;simp at this;omega
  .rw[yFo]at hs;cases hs
 by_cases h1:n.f=1\/n.f=3
 .simp[tstB,h1]at ht
 .simp only[not_or]at h1;by_cases h7:n.f=7
  .simp[yBj,h7,yFo]at hs
  .simp[tstB,h1,h4,h5,h6,h7,h8,h9,h10]
theorem xIk{n:Nd}(hn:n.s.size<=200)(s:Bool):Hi (cntL [⟨1,0,0, !s,n⟩]) s (lfE n (!s)):=by
 have hd:∀{c i own},i.H=true->(lfE n (!s) c i own).1.H=false->(lfE n (!s) c i own).1.G=if s=true then noH else yBj (pfxB n.s) n c:=λ{c i own} hi hd=>by unfold lfE leafI at hd|-;rw[iB hi]at hd|-;dsimp only at hd|-;split at hd<;>split at hd<;>cases s<;>simp_all[yC5]
 refine⟨λhi hx=>?_,λhs {c i own} hi hx=>?_,λ{c i own x j} ho hi hx hk hs hj=>?_⟩
 .rw[hd hi hx];split
  .simp[HOk,noH]
  .exact xEg ..
 .rw[hd hi hx,iB hs]
 .rw[hd hi hx]at hs;cases s
  case true=>simp[yFo]at hs
  simp only[AH,if_false,Bool.not_false]at hs hx|-;have ec:∀(p:Ba),yBj p n (yA0 i c)=yBj p n c:=λp=>by unfold yA0;split<;>rfl
  cases h:yDg n.f
  .rw[yOs h _ _ _ _ hi]at hx|-;have ht:tstB n (yA0 i c)=false:=by
    cases q:tstB n (yA0 i c)
    .rfl
    .simp[q]at hx
   have h9:tstB n (yA0 j x)=false:=by
    refine xCy hn h ht ⟨by rw[yJv];exact hk.1,?_,?_⟩ ?_
    .unfold yA0;split<;>exact hk.2.1
    .unfold yA0;split<;>exact hk.2.2
    .rw[ec];unfold yA0;split<;>split<;>exact hs
   rw[yOs h _ _ _ _ hj,h9];exact⟨rfl,rfl⟩
  .rw[yP,h,iB rfl]at ho;match own,ho with
   | [k],_=>
     rw[yOt h _ _ _ _ hi]at hx|-;rw[yOt h _ _ _ _ hj];have hm:(yBi n k c).1=false:=by
      cases q:(yBi n k c).1
      .rfl
      .simp[q]at hx
     have h':=yCu.1 h;have h13:¬n.f=13:=λq=>by simp[yBj,q,yFo]at hs
     have hcn:¬(yB n k c).count<n.n:=λq=>by simp[yBi,q,h13]at hm
     have e1:=yV0 n k c;have hsp:yFe n (yB n k c) x=true:=by
      simp only[yFe,e1.1,e1.2.1,Bool.true_and,AI,Ah,Ax,decide_eq_false_iff_not,yA4];rcases h' with q|q|q
      .simp only[yBj,q,yAy]at hs;simp[yA4]at hs;have⟨f1,f2⟩:=yRf hs.1;rw[(e1.2.2 q).1,(e1.2.2 q).2];exact⟨f1.symm,.inr ⟨f2.symm,hs.2.symm⟩⟩
      .simp only[yBj,q,yAy]at hs;simp[yA4]at hs;exact⟨hs.symm,.inl qo⟩
      .exact absurd q h13
     have hm2:yBi n (yB n k c) x=(false,yB n k c):=by have:yB n (yB n k c) x=yB n k c:=iB hsp;simp[yBi,this,hcn,h13]
     have hm3:(yBi n k c).2=yB n k c:=by simp[yBi,hcn]
     rw[hm3,hm2];exact⟨rfl,rfl⟩
def CT.lv(P:Nd->Prop):CT->Prop
 | .leaf n=>P n
 | .chain _ a b| .inter _ a b=>a.lv P/\b.lv P
 | .cond _ p a b=>p.lv P/\a.lv P/\b.lv P
theorem yE1:∀(t:CT)(s:Bool)(f:Nat),t.passes=false->cntL (t.gen s f)=0
 | .leaf n,s,f,h=>by simp only[CT.passes]at h;simp[CT.gen,cntL,cntI,h]
 | .chain _ a b,s,f,h=>by
   simp only[CT.passes,Ac]at h
   rw[CT.gen,yAj,yE1 a _ _ h.1,yE1 b _ _ h.2]
 | .inter _ a b,s,f,h=>by
   simp only[CT.passes,Ac]at h
   simp[CT.gen,yAj,yE1 a _ _ h.1,yE1 b _ _ h.2,cntL,cntI,opI]
 | .cond _ p a b,s,f,h=>by
   simp only[CT.passes,Ac]at h
   simp[CT.gen,yAj,yE1 a _ _ h.1,yE1 b _ _ h.2,cntL,cntI]
theorem yJ8:∀(t:CT)(s:Bool)(f:Nat),t.J=0->f<=cd.length->t.lv (λn=>n.s.size<=200)->Hi (cntL (t.gen s f)) s (evF cd t s f)
 | .leaf n,s,f,_,_,h=>xIk h s
 | .chain _ a b,s,f,hi,hf,h=>by
   simp only[CT.J]at hi
   have fa:=yCb (cd:=cd) a s f qo
   rw[CT.gen,yAj]
   exact(yJ8 a s f qo hf h.1).seq (yJ8 b _ _ qo qo h.2) fa.X fa.dead (yCb b _ _ qo).dead (yE1 a s f)
 | .inter _ a b,s,f,hi,hf,h=>by
   simp only[CT.J]at hi
   have e:cntL ((CT.inter ‹_› a b).gen s f)=cntL (a.gen s f)+cntL (b.gen s (f+a.J)):=by simp[CT.gen,yAj,cntL,cntI,opI]
   rw[e]
   exact(yJ8 a s f qo hf h.1).inter (yJ8 b _ _ qo qo h.2) (yCb a s f qo).X
 | .cond _ p a b,s,f,hi,_,_=>by simp only[CT.J]at hi;omega
section
variable {E:EvT}
theorem yRi{p:Ent->Bool}{own:List Ctr}:∀{r:List Ent},(∀x∈r,p x=true->(E x newI own).1.H=false/\(E x newI own).2=own)->tlX (runE E (st0 r) own)=tlX (runE E (st0 (r.dropWhile p)) own)
 | [],_=>rfl
 |x::r,h=>by
  rw[List.dropWhile_cons]
  split
  .rename_i q
   have⟨h1,h2⟩:=h x (by simp) q
   rw[<-yRi λy hy=>h y (AK _ hy)]
   simp only[st0,AQ,runE,tlX,h1,h2,AH,if_false,AS]
  .rfl
theorem xMt(h:Frg [] L E)(hh:Hi (cntL L) false E){own:List Ctr}(hm:MvR (absG 0 0 L) hints es own out n):own.length=cntL L->es.Pairwise Bhd->out=tlX (runE E (st0 es) own):=by
 induction hm with
 |nil cs=>intro _ _;rfl
 |cons hl _ ih=>
  rename_i c r cs cs' i out _ _;intro ho hp;have hp':=AP.1 hp;have h1:=hl.one (h.all ho);obtain⟨rfl,rfl⟩:i=(E c newI cs).1/\cs'=(E c newI cs).2:=by rw[<-h1];exact⟨rfl,rfl⟩
  have h2:out=tlX (runE E (st0 r) (E c newI cs).2):=by
   by_cases q:(E c newI cs).1.H=false/\hints=true
   .rw[iB q]at ih;rw[ih (h.X _ _ _ ho) (hp'.2.sublist (List.dropWhile_sublist _))];exact(yRi λx hx hs=>hh.skip ho rfl q.1 (hp'.1 x hx) hs rfl).symm
   .rw[iA q]at ih;exact ih (h.X _ _ _ ho) hp'.2
  rw[h2];simp only[st0,AQ,runE,tlX];split<;>simp
theorem yZa:∀(xs ys:List (Ent×It))(own:List Ctr),runE E (xs++ys) own=runE E xs own++runE E ys (outE E xs own)
 | [],_,_=>rfl
 |x::xs,ys,own=>by simp only[Az,runE,outE,yZa xs ys]
theorem xFo:∀(xs ys:List (Ent×It)),tlX (xs++ys)=tlX xs++tlX ys
 | [],_=>rfl
 |x::xs,ys=>by simp only[Az,tlX,xFo xs ys,AB]
theorem yZw(h:∀c i own,own.length=n->(E c i own).2.length=n):∀(xs:List (Ent×It))(own:List Ctr),own.length=n->(outE E xs own).length=n
 | [],_,ho=>ho
 |x::xs,own,ho=>yZw h xs _ (h _ _ _ ho)
theorem yZv(h:∀c i own k,k∈(E c i own).2->k∈own\/k.j=c.j):∀(xs:List (Ent×It))(own:List Ctr)(k:Ctr),k∈outE E xs own->k∈own\/∃x∈xs.map AG,k.j=x.j
 | [],_,_,hk=>.inl hk
 |x::xs,own,k,hk=>by
  rcases yZv h xs _ k hk with q|⟨y,hy,q⟩
  .rcases h _ _ _ _ q with q|q
   .exact .inl q
   .exact .inr ⟨x.1,by simp,q⟩
  .exact .inr ⟨y,AK _ hy,q⟩
theorem xF2(hi:i<es.length):∃j,yF8 es i j:=by
 have:∀(f k:Nat),es.length-k<=f->i<k->k<=es.length->(∀m,i<=m->m<k->yDj es i m=true)->∃j,yF8 es i j:=by
  intro f;induction f with
  |zero=>intro k h1 h2 h3 h4;exact⟨k,h2,h3,h4,λq=>qo⟩
  |succ f ih=>
   intro k h1 h2 h3 h4;by_cases hk:k<es.length
   .cases hs:yDj es i k
    .exact⟨k,h2,h3,h4,λ_=>hs⟩
    .exact ih (k+1) qo qo qo λm m1 m2=>by
      by_cases e:m=k
      .rw[e];exact hs
      .exact h4 m m1 qo
   .exact⟨k,h2,h3,h4,λq=>absurd q hk⟩
 exact this _ (i+1) qr qo qo λm m1 m2=>by
  have:m=i:=qo
  subst this;simp[yDj]
theorem yN4{y:Ent}(hx:es[i]?=some x)(hy:es[k]?=some y)(h:yDj es i k=true):y.j=x.j:=by simp only[yDj,hx,hy,Option.map_some,beq_iff_eq,Aa]at h;exact toList_inj h
theorem ySm(h:x∈segE es (i,j)):∃k,i<=k/\k<j/\es[k]?=some x:=by
 have⟨q,hq⟩:=Ao.1 h;simp only[segE,Au,List.getElem?_take]at hq;split at hq
 .exact⟨i+q,qo,qo,hq⟩
 .cases hq
theorem yY9(ho:Ord es)(h:yF8 es i j):OneR (segE es (i,j)):=by
 refine⟨ho.sublist ((List.drop_sublist _ _).trans (List.take_sublist _ _)),?_⟩;have hi:i<es.length:=qv h.lt h.le
 refine⟨es[i].j,λx hx=>?_⟩;have⟨k,h1,h2,h3⟩:=ySm hx;exact yN4 (AO hi) h3 (h.same k h1 h2)
theorem xH(ho:Ord es)(h:yF8 es i j){y:Ent}(hx:x∈segE es (i,j))(hy:y∈es.drop j):¬x.j=y.j:=by
 intro e;have⟨q,hq⟩:=Ao.1 hy;rw[Au]at hq;have hj:j<es.length:=qw (qf hq)
 have⟨k,h1,h2,h3⟩:=ySm hx;have hi:i<es.length:=qw h.lt
 have e0:=AO hi;have ej:=AO hj;have h4:=yN4 e0 h3 (h.same k h1 h2);have hpw:=List.pairwise_iff_getElem.1 ho;have h5:=yQu (hpw i j hi hj h.lt);have h6:LeC es[j] y:=by
  cases q with
  |zero=>rw[A7,ej]at hq;cases hq;exact LeC.refl _
  |succ q=>
   have⟨hl,hv⟩:=Aj.1 hq;rw[<-hv];exact yQu (hpw j _ hj hl qo)
 have h7:=h5.1.sand h6.1 (by rw[<-e,h4]);have h8:=h.other hj;simp[yDj,e0,ej,h7]at h8
theorem xMa(ho:Ord es)(hl:∀c i own,own.length=n->(E c i own).2.length=n)(hd:∀c i own k,k∈(E c i own).2->k∈own\/k.j=c.j)(hM:∀R,Mn E n R (mean t R)):∀(f i:Nat)(own:List Ctr),es.length-i<=f->own.length=n->(∀k∈own,∀x∈es.drop i,¬(k.used=true/\k.j=x.j))->tlX (runE E (st0 (es.drop i)) own)=(allC es i).flatMap λp=>mean t (segE es p):=by
 intro f;induction f with
 |zero=>intro i own hf _ _;rw[yEv (by omega),An (by omega)];rfl
 |succ f ih=>
  intro i own hf hn hs;by_cases hi:i<es.length
  .have⟨j,hj⟩:=xF2 hi;have h1:=hj.lt;have h2:=hj.le;have e:es.drop i=segE es (i,j)++es.drop j:=by simp only[segE];rw[List.drop_take];have:=AX (j-i) (es.drop i);rw[A6,show i+(j-i)=j by omega]at this;exact this.symm
   rw[yF4 hj,Av,e];simp only[st0,AW];rw[yZa,xFo];have o1:=(yY9 ho hj).1;have hw:RwC n (st0 (segE es (i,j))) own:=by
    refine⟨hn,by rw[yKb];exact o1,es[i].j,λk hk=>hs k hk _ ?_,λx hx=>?_⟩
    .rw[List.drop_eq_getElem_cons hi];exact List.mem_cons_self
    .rw[yKb]at hx;have⟨k,k1,k2,k3⟩:=ySm hx;exact yN4 (AO hi) k3 (hj.same k k1 k2)
   rw[show tlX (runE E (List.map (λc=>(c,newI)) (segE es (i,j))) own)=mean t (segE es (i,j))from hM _ _ _ hw (yYv _)];congr 1;refine ih j _ qo (yZw hl _ _ hn) λk hk x hx q=>?_;rcases yZv hd _ _ k hk with z|⟨y,hy,z⟩
   .exact hs k z x (e▸List.mem_append_right _ hx) q
   .rw[yKb]at hy;exact xH ho hj hy hx (z.symm.trans q.2)
  .rw[yEv qo,An qo];rfl
end
end
section
theorem yG3(o a b:Int):yJc ⟨o,a,b,false,yA8⟩:=by simp[yJc,NoNd,yA8]
def GI(x:Ix)(rest m:Nat):Prop:=
 (x.op=1/\yBe [x.leaf]/\x.b=0/\x.a=0)\/(x.op=5/\yJc x/\0<=x.a/\x.a<m/\0<x.b/\x.b<=rest)\/
 (x.op=6/\yJc x/\x.a=0/\0<x.b/\x.b<=rest)\/((x.op=2\/x.op=3\/x.op=4)/\yJc x/\x.a=0/\x.b=0)
def GL:List Ix->Nat->Prop
 | [],_=>True
 |x::L,m=>GI x (L.length+1) m/\GL L m
theorem GI.mono{x:Ix}{r' m':Nat}(h:GI x r m)(hr:r<=r')(hm:m<=m'):GI x r' m':=by
 rcases h with h|⟨h1,h2,h3,h4,h5,h6⟩|⟨h1,h2,h3,h4,h5⟩|h
 .exact .inl h
 .exact .inr (.inl ⟨h1,h2,h3,qo,h5,qo⟩)
 .exact .inr (.inr (.inl ⟨h1,h2,h3,h4,qo⟩))
 .exact .inr (.inr (.inr h))
theorem GL.mono{m':Nat}(hm:m<=m'):∀{L:List Ix},GL L m->GL L m'
 | [],_=>trivial
 |x::L,h=>⟨h.1.mono qr hm,GL.mono hm h.2⟩
theorem GL.app{M:List Ix}(g:GL M m):∀{L:List Ix},GL L m->GL (L++M) m
 | [],_=>g
 |x::L,h=>⟨h.1.mono (by simp) qr,GL.app g h.2⟩
theorem GL.good{n m C N:Nat}:∀{L:List Ix}{k:Nat},GL L m->k+L.length<=N->n+cntL L<=C->∀j x,(absG k n L)[j]?=some x->yR5 x (k+j:Nat) N C m
 | [],_,_,_,_,j,x,h=>by simp[absG]at h
 |y::L,k,g,hN,hC,j,x,h=>by
  simp only[Ay,cntL]at hN hC
  cases j with
  |succ j=>
   have:=GL.good (n:=n+cntI y) (C:=C) (N:=N) (k:=k+1) g.2 (by omega) (by omega) j x (by simpa [absG]using h)
   rwa [show k+1+j=k+(j+1)by omega]at this
  |zero=>
   have h:fixI k n y=x:=by simpa [absG]using h
   subst h
   have hcn:yDg y.leaf.f=true↔cntK y.leaf.f:=yCu
   rcases g.1 with⟨h1,h2,h3,h4⟩|⟨h1,h2,h3,h4,h5,h6⟩|⟨h1,h2,h3,h4,h5⟩|⟨h1,h2,h3,h4⟩
   .refine .inl ⟨h1,h2,by simp[fixI,h1,h3],?_⟩
    by_cases q:yDg y.leaf.f=true
    .simp only[cntI,h1,q]at hC
     simp at hC
     exact .inl ⟨hcn.1 q,by simp[fixI,h1,q],by simp[fixI,h1,q];omega⟩
    .exact .inr ⟨λz=>q (hcn.2 z),by simp[fixI,h1,q,h4]⟩
   .refine .inr (.inl ⟨h1,h2,?_⟩)
    simp[fixI,h1];omega
   .refine .inr (.inr (.inl ⟨h1,h2,?_⟩))
    simp[fixI,h1];omega
   .refine .inr (.inr (.inr ⟨h1,h2,?_⟩))
    rcases h1 with h1|h1|h1<;>simp[fixI,h1,h3,h4]
theorem yHv:∀(t:CT)(s:Bool)(f:Nat),t.lv (λn=>yBe [n])->GL (t.gen s f) (f+t.J)
 | .leaf n,s,f,h=>⟨.inl ⟨rfl,h,rfl,rfl⟩,trivial⟩
 | .chain _ a b,s,f,h=>by
   simp only[CT.J]
   exact GL.app ((yHv b _ _ h.2).mono qo) ((yHv a _ _ h.1).mono qo)
 | .inter _ a b,s,f,h=>by
   have z:∀(o:Int)(m:Nat),o=2\/o=3\/o=4->GL [opI o] m:=λo m ho=>⟨.inr (.inr (.inr ⟨ho,yG3 ..,rfl,rfl⟩)),trivial⟩
   simp only[CT.J,CT.gen]
   exact GL.app (z 4 _ (by simp)) (GL.app ((yHv b _ _ h.2).mono qo) (GL.app (z 3 _ (by simp)) (GL.app ((yHv a _ _ h.1).mono qo) (z 2 _ (by simp)))))
 | .cond _ p a b,s,f,h=>by
   simp only[CT.J,CT.gen,AB]
   have h6:GL ([⟨6,0,((b.gen s (f+p.J+1+a.J)).length:Int)+1,false,yA8⟩]++b.gen s (f+p.J+1+a.J)) (f+(p.J+1+a.J+b.J)):=⟨.inr (.inr (.inl ⟨rfl,yG3 ..,rfl,by dsimp only;omega,by simp⟩)),(yHv b _ _ h.2.2).mono qo⟩
   exact⟨.inr (.inl ⟨rfl,yG3 ..,by dsimp only;omega,by dsimp only;omega,by dsimp only;omega,by simp;omega⟩),GL.app h6 ((yHv a _ _ h.2.1).mono qo)⟩
theorem yOj(h:ds[j]?=some 0\/ds[j]?=some d):∃ds',note ds j d=some ds'/\ds'[j]?=some d/\∀i,i≠j->ds'[i]?=ds[i]?:=by
 have hl:j<ds.length:=by rcases h with h|h<;>exact(Aj.1 h).1
 refine⟨ds.set j d,?_,by simp[hl],λi hi=>by rw[List.getElem?_set_ne (Ne.symm hi)]⟩;rcases h with h|h
 .exact yQd h (.inl rfl)
 .exact yQd h (.inr rfl)
theorem yJy{x:Ix}{e:Int}(hx:l[k]?=some x)(h5:¬x.op=5)(h6:¬x.op=6)(hf:yCz l k=some ds)(hd:ds[k]?=some d)(he:d+more x.op=e)(h1:least x.op<=d)(h2:e<=250)(hn:ds[k+1]?=some 0\/ds[k+1]?=some e):
  ∃ds',yCz l (k+1)=some ds'/\ds'[k+1]?=some e/\∀i,i≠k+1->ds'[i]?=ds[i]?:=by
 have⟨ds',a1,a2⟩:=yOj hn;refine⟨ds',?_,a2⟩;rw[yEp hf hx];unfold yL5;rw[hd];dsimp only;rw[iA qo,he];simp[ways,h5,h6,yCs,a1]
def Flw(L:List Ix)(dep:Nat):Prop:=1<=L.length/\∀(l:List Ix)(k n:Nat)(ds:List Int)(d:Nat),CAt l k n L->yCz l k=some ds->ds[k]?=some (d:Int)->1<=d->d+dep<=250->(∀j,k<j->j<k+L.length->ds[j]?=some 0)->(ds[k+L.length]?=some 0\/ds[k+L.length]?=some (d:Int))->
 ∃ds',yCz l (k+L.length)=some ds'/\ds'[k+L.length]?=some (d:Int)/\∀j,k+L.length<j->ds'[j]?=ds[j]?
section
variable {a b:Nat}
theorem Flw.mono(h:Flw L a)(hab:a<=b):Flw L b:=⟨h.1,λl k n ds d h1 h2 h3 h4 h5=>h.2 l k n ds d h1 h2 h3 h4 qo⟩
theorem Flw.seq(h:Flw L a)(g:Flw M a):Flw (L++M) a:=by have hl:=h.1;have gl:=g.1;refine⟨by simp;omega,λl k n ds d ha hf hd h1 h2 hz he=>?_⟩;rw[AA]at hz he|-;have⟨a1,a2⟩:=ha.app;have⟨d1,p1,p2,p3⟩:=h.2 l k n ds d a1 hf hd h1 h2 (λj j1 j2=>hz j j1 qo) (.inl (hz _ qo qo));have⟨d2,q1,q2,q3⟩:=g.2 l _ _ d1 d a2 p1 p2 h1 h2 (λj j1 j2=>by rw[p3 j j1];exact hz j qo qo) (by rw[p3 _ qo,AD];exact he);rw[AD]at q1 q2 q3;exact⟨d2,q1,q2,λj hj=>by rw[q3 j hj,p3 j qo]⟩
theorem xEl(x:Ix)(h:x.op=1):Flw [x] 0:=by refine⟨by simp,λl k n ds d ha hf hd h1 h2 _ he=>?_⟩;have hop:(fixI k n x).op=1:=h;have⟨d',p1,p2,p3⟩:=yJy ha.one (by rw[hop];decide) (by rw[hop];decide) hf hd (e:=(d:Int)) (by rw[hop];simp[more]) (by rw[hop];simp[least];omega) qo he;exact⟨d',p1,p2,λj hj=>p3 j (by simp at hj;omega)⟩
theorem Flw.inter(h:Flw L a)(g:Flw M a):Flw ([opI 2]++L++ [opI 3]++M++ [opI 4]) (a+1):=by have hl:=h.1;have gl:=g.1;refine⟨by simp,λl k n ds d ha hf hd h1 h2 hz he=>?_⟩;have⟨a1,a5⟩:=ha.app;have⟨a1,a4⟩:=a1.app;have⟨a1,a3⟩:=a1.app;have⟨a1,a2⟩:=a1.app;simp only[AA,AC]at a2 a3 a4 a5 hz he|-;have o:∀(k n:Nat)(o:Int),(fixI k n (opI o)).op=o:=λ_ _ _=>rfl;have⟨d1,p1,p2,p3⟩:=yJy a1.one (by rw[o];decide) (by rw[o];decide) hf hd (e:=((d+1:Nat):Int)) (by rw[o];simp[more]) (by rw[o];simp[least];omega) qo (.inl (hz _ qo qo));have⟨d2,q1,q2,q3⟩:=h.2 l _ _ d1 (d+1) a2 p1 p2 qo qo (λj j1 j2=>by rw[p3 j qo];exact hz j qo qo) (.inl (by rw[p3 _ qo];exact hz _ qo qo));rw[show k+1+L.length=k+(1+L.length)by omega]at q1 q2 q3;have⟨d3,r1,r2,r3⟩:=yJy a3.one (by rw[o];decide) (by rw[o];decide) q1 q2 (e:=((d+1:Nat):Int)) (by rw[o];simp[more]) (by rw[o];simp[least];omega) qo (.inl (by rw[q3 _ qo,p3 _ qo];exact hz _ qo qo));rw[show k+(1+L.length)+1=k+(1+L.length+1)by omega]at r1 r2 r3;have⟨d4,s1,s2,s3⟩:=g.2 l _ _ d3 (d+1) a4 r1 r2 qo qo (λj j1 j2=>by rw[r3 j qo,q3 j qo,p3 j qo];exact hz j qo qo) (.inl (by rw[r3 _ qo,q3 _ qo,p3 _ qo];exact hz _ qo qo));rw[show k+(1+L.length+1)+M.length=k+(1+L.length+1+M.length)by omega]at s1 s2 s3;have⟨d5,t1,t2,t3⟩:=yJy a5.one (by rw[o];decide) (by rw[o];decide) s1 s2 (e:=(d:Int)) (by rw[o];simp[more];omega) (by rw[o];simp[least];omega) qo (by rw[s3 _ qo,r3 _ qo,q3 _ qo,p3 _ qo,AD];exact he);rw[show k+(1+L.length+1+M.length)+1=k+(1+L.length+1+M.length+1)by omega]at t1 t2 t3;exact⟨d5,t1,t2,λj hj=>by rw[t3 j qo,s3 j qo,r3 j qo,q3 j qo,p3 j qo]⟩
theorem Flw.cond(h:Flw L a)(g:Flw M a)(m:Int):Flw ([⟨5,m,(L.length:Int)+2,false,yA8⟩]++L++ [⟨6,0,(M.length:Int)+1,false,yA8⟩]++M) a:=by
 have hl:=h.1;have gl:=g.1;refine⟨by simp,λl k n ds d ha hf hd h1 h2 hz he=>?_⟩;have⟨a1,a4⟩:=ha.app;have⟨a1,a3⟩:=a1.app;have⟨a1,a2⟩:=a1.app;simp only[AA,AC]at a2 a3 a4 hz he|-;have⟨e1,u1,u2,u3⟩:=yOj (ds:=ds) (j:=k+1) (d:=(d:Int)) (.inl (hz _ qo qo));have⟨d1,v1,v2,v3⟩:=yOj (ds:=e1) (j:=k+L.length+2) (d:=(d:Int)) (.inl (by rw[u3 _ qo];exact hz _ qo qo));have p1:yCz l (k+1)=some d1:=by
  rw[yEp hf a1.one];have w:ways k (fixI k n ⟨5,m,(L.length:Int)+2,false,yA8⟩)= [k+1,k+L.length+2]:=by simp[ways,fixI];omega
  simp only[yL5,hd,w,show(fixI k n ⟨5,m,(L.length:Int)+2,false,yA8⟩).op=5 from rfl];rw[iA (by simp[least,more];omega)];simp[yCs,more,u1,v1]
 have⟨d2,q1,q2,q3⟩:=h.2 l _ _ d1 d a2 p1 (by rw[v3 _ qo];exact u2) h1 h2 (λj j1 j2=>by rw[v3 j qo,u3 j qo];exact hz j qo qo) (.inl (by rw[v3 _ qo,u3 _ qo];exact hz _ qo qo));have⟨d3,w1,w2,w3⟩:=yOj (ds:=d2) (j:=k+(1+L.length+1+M.length)) (d:=(d:Int)) (by rw[q3 _ qo,v3 _ qo,u3 _ qo];exact he);rw[show k+1+L.length=k+(1+L.length)by omega]at q1 q2 q3;have r1:yCz l (k+(1+L.length)+1)=some d3:=by
  rw[yEp q1 a3.one];have w:ways (k+(1+L.length)) (fixI (k+(1+L.length)) (n+cntL ([⟨5,m,(L.length:Int)+2,false,yA8⟩]++L)) ⟨6,0,(M.length:Int)+1,false,yA8⟩)= [k+(1+L.length+1+M.length)]:=by simp[ways,fixI];omega
  simp only[yL5,q2,w,show(fixI (k+(1+L.length)) (n+cntL ([⟨5,m,(L.length:Int)+2,false,yA8⟩]++L)) ⟨6,0,(M.length:Int)+1,false,yA8⟩).op=6 from rfl];rw[iA (by simp[least,more];omega)];simp[yCs,more,w1]
 rw[show k+(1+L.length)+1=k+(1+L.length+1)by omega]at r1;have⟨d4,s1,s2,s3⟩:=g.2 l _ _ d3 d a4 r1 (by rw[w3 _ qo,q3 _ qo,<-v2];congr 1;omega) h1 h2 (λj j1 j2=>by rw[w3 j qo,q3 j qo,v3 j qo,u3 j qo];exact hz j qo qo) (.inr (by rw[<-w2];congr 1;omega));rw[show k+(1+L.length+1)+M.length=k+(1+L.length+1+M.length)by omega]at s1 s2 s3;exact⟨d4,s1,s2,λj hj=>by rw[s3 j hj,w3 j qo,q3 j qo,v3 j qo,u3 j qo]⟩
end
theorem yE8:∀(t:CT)(s:Bool)(f:Nat),Flw (t.gen s f) t.size
 | .leaf n,s,f=>(xEl _ rfl).mono (Ad _)
 | .chain _ a b,s,f=>((yE8 a _ _).mono (by simp only[CT.size];omega)).seq ((yE8 b _ _).mono (by simp only[CT.size];omega))
 | .inter _ a b,s,f=>by
   simp only[CT.size]
   exact Flw.inter (a:=a.size+b.size) ((yE8 a _ _).mono qo) ((yE8 b _ _).mono qo)
 | .cond _ p a b,s,f=>Flw.cond ((yE8 a _ _).mono (by simp only[CT.size];omega)) ((yE8 b _ _).mono (by simp only[CT.size];omega)) _
theorem yVw(hg:GL L m)(hf:Flw L 200)(hl:L.length<=4000)(hc:cntL L<=200):yCc (absG 0 0 L) (cntL L:Nat) m:=by
 have hl1:=hf.1;refine⟨by rw[yAl];exact hl1,by rw[yAl];exact hl,qo,qo,λk x hx=>?_,?_⟩
 .have:=hg.good (n:=0) (k:=0) (C:=cntL L) (N:=(absG 0 0 L).length) (by rw[yAl];omega) qo k x hx;simpa using this
 .have hz:∀j,0<j->j<=L.length->(1::Ai (absG 0 0 L).length (0:Int))[j]?=some 0:=λj j1 j2=>by obtain⟨j,rfl⟩:∃i,j=i+1:=⟨j-1,qo⟩;rw[List.getElem?_cons_succ,List.getElem?_replicate,iB (by rw[yAl];omega)]
  have⟨ds,h1,h2,_⟩:=hf.2 (absG 0 0 L) 0 0 _ 1 (AV _) rfl rfl qr qo (λj j1 j2=>hz j j1 qo) (.inl (by rw[Af];exact hz _ hl1 qr));rw[Af]at h1 h2;rw[yAl];exact⟨ds,h1,h2⟩
theorem yCo{S:Nat}:∀(t:CT)(l:List Ix)(s:Bool)(f:Nat),t.size<=S->S<=200->t.lv (λn=>yBe [n])->GL l f->(l= []\/Flw l 200)->∀k x,(t.V l s f)[k]?=some x->GL x (f+k)/\Flw x 200/\cntL x<=cntL l+t.size
 | .leaf n,l,s,f,_,_,_,_,_,k,x,h=>by simp[CT.V]at h
 | .chain _ a b,l,s,f,hS,hS2,hv,hg,hf,k,x,h=>by
   simp only[CT.size]at hS|-
   simp only[CT.V,Ab,yDe]at h
   split at h
   .have⟨h1,h2,h3⟩:=yCo a l s f qo hS2 hv.1 hg hf k x h
    exact⟨h1,h2,qo⟩
   .have ga:=(yE8 a s f).mono (b:=200) (by omega)
    have⟨h1,h2,h3⟩:=yCo b _ _ _ (by omega) hS2 hv.2 (GL.app (yHv a s f hv.1) (hg.mono (by omega))) (.inr (by rcases hf with rfl|hf;exact ga;exact hf.seq ga)) _ x h
    rw[yAj]at h3
    have:=yF a s f
    exact⟨by rwa [show f+a.J+(k-a.J)=f+k by omega]at h1,h2,qo⟩
 | .inter _ a b,l,s,f,hS,hS2,hv,hg,hf,k,x,h=>by
   simp only[CT.size]at hS|-
   simp only[CT.V,Ab,yDe]at h
   split at h
   .have⟨h1,h2,h3⟩:=yCo a l s f (by omega) hS2 hv.1 hg hf k x h
    exact⟨h1,h2,by omega⟩
   .have⟨h1,h2,h3⟩:=yCo b _ _ _ (by omega) hS2 hv.2 (hg.mono (by omega)) hf _ x h
    exact⟨by rwa [show f+a.J+(k-a.J)=f+k by omega]at h1,h2,by omega⟩
 | .cond _ p a b,l,s,f,hS,hS2,hv,hg,hf,k,x,h=>by
   simp only[CT.size]at hS|-
   simp only[CT.V,AB,Ab,yDe,AC]at h
   split at h
   .have⟨h1,h2,h3⟩:=yCo p l s f (by omega) hS2 hv.1 hg hf k x h
    exact⟨h1,h2,by omega⟩
   .split at h
    .rename_i q1 q2
     have:k=p.J:=by omega
     subst this
     simp at h
     subst h
     have ga:=(yE8 p s f).mono (b:=200) (by omega)
     have:=yF p s f
     exact⟨GL.app (yHv p s f hv.1) (hg.mono (by omega)),by rcases hf with rfl|hf;exact ga;exact hf.seq ga,by rw[yAj];omega⟩
    .split at h
     .have⟨h1,h2,h3⟩:=yCo a l s _ (by omega) hS2 hv.2.1 (hg.mono (by omega)) hf _ x h
      exact⟨by rwa [show f+p.J+1+(k-p.J-1)=f+k by omega]at h1,h2,by omega⟩
     .have⟨h1,h2,h3⟩:=yCo b l s _ (by omega) hS2 hv.2.2 (hg.mono (by omega)) hf _ x h
      exact⟨by rwa [show f+p.J+1+a.J+(k-p.J-1-a.J)=f+k by omega]at h1,h2,qo⟩
theorem yGe:∀t:CT,t.J<=t.size
 | .leaf _=>Ad _
 | .chain _ a b| .inter _ a b=>by have:=yGe a;have:=yGe b;simp only[CT.J,CT.size];omega
 | .cond _ a b c=>by have:=yGe a;have:=yGe b;have:=yGe c;simp only[CT.J,CT.size];omega
variable {m:Bk}
theorem xBv(hs:t.size<=200)(hv:t.lv (λn=>yBe [n]))(hb:bs.map Bk.vw=(t.V [] false 0).map yCx)(hm:m.vw=yCx (t.gen false 0)):yEk bs m:=by
 have hlen:bs.length=t.J:=by have:=congrArg Ar hb;simpa [yDe]using this
 have hi:=yGe t;have hg:=yE7 t false 0;have hc:=yF t false 0;obtain⟨h1,h2⟩:m.cnt=(cntL (t.gen false 0):Nat)/\m.l=absG 0 0 (t.gen false 0):=by simpa [yCx]using hm
 refine⟨qo,?_,λk x hx=>?_⟩
 .rw[h1,h2,hlen];exact yVw ((yHv t false 0 hv).mono qo) ((yE8 t false 0).mono hs) qo qo
 .have h3:=congrArg (λl=>l[k]?) hb;simp only[Aw,hx,Option.map_some]at h3;cases hy:(t.V [] false 0)[k]? with
  |none=>rw[hy]at h3;cases h3
  |some y=>
   rw[hy]at h3;obtain⟨h4,h5⟩:x.cnt=(cntL y:Nat)/\x.l=absG 0 0 y:=by simpa [yCx]using h3
   have⟨k1,k2,k3⟩:=yCo t [] false 0 qr hs hv trivial (.inl rfl) k y hy;have hb:=yTy t [] false 0 y (AR hy);simp only[List.length_nil,cntL]at hb k3;rw[h4,h5];exact yVw (by simpa using k1) k2 qo qo
end
variable {T:Type}
theorem TrV.Q{V:Nd->List T->T}{ss:List T}(h:TrV V ss xs){ts:List T}(k:TrV V ts ys):TrV V (ss++ts) (xs++ys):=by
 induction k with
 |nil=>simpa using h
 | @snoc ts os ys n ho k ih=>
   rw[<-AB,<-AB];refine .snoc n ho ?_;rw[AB];exact ih
variable {n:Nd}
theorem TrV.node2{V:Nd->List T->T}{a b:T}(hn:yAk n.f=2)(ha:TrV V [a] ka)(hb:TrV V [b] kb):TrV V [V n [a,b]] (ka++kb++ [n]):=TrV.snoc (ss:= []) (os:= [a,b]) n hn.symm (ha.Q hb)
theorem TrV.node3{V:Nd->List T->T}{a b c:T}(hn:yAk n.f=3)(ha:TrV V [a] ka)(hb:TrV V [b] kb)(hc:TrV V [c] kc):TrV V [V n [a,b,c]] (ka++kb++kc++ [n]):=TrV.snoc (ss:= []) (os:= [a,b,c]) n hn.symm ((ha.Q hb).Q hc)
theorem TrV.node0{V:Nd->List T->T}(hn:yAk n.f=0):TrV V [V n []] [n]:=TrV.snoc (ss:= []) (os:= []) (xs:= []) n hn.symm .nil
theorem yJa{k:Int}(h:k=14\/k=15):yAk k=2:=by unfold yAk;rw[iB h]
theorem yV6{k:Int}(h:k=16):yAk k=3:=by unfold yAk;rw[iA qo,iB h]
theorem yYs(h:TrV (yA6 goodB) ss xs):ShT goodB ss xs:=by
 induction h with
 |nil=>exact .nil
 |snoc n ho _ ih=>exact .snoc n ho ih
noncomputable def nkShp:CT->yAx
 | .leaf n=>yA6 goodB n []
 | .chain n a b| .inter n a b=>yA6 goodB n [nkShp a,nkShp b]
 | .cond n p a b=>yA6 goodB n [nkShp p,nkShp a,nkShp b]
theorem yDa:∀{t:CT}{xs:List Nd},yBf xs t->TrV (yA6 goodB) [nkShp t] xs
 | .leaf _,_,h=>by
   cases h.part with
   |leaf n hn=>exact TrV.node0 hn
 | .chain _ _ _,_,h=>by
   cases h.part with
   |chain n hn ha hb=>exact TrV.node2 (yJa (.inl hn)) (yDa ha) (yDa hb)
 | .inter _ _ _,_,h=>by
   cases h.part with
   |inter n hn ha hb=>exact TrV.node2 (yJa (.inr hn)) (yDa ha) (yDa hb)
 | .cond _ _ _ _,_,h=>by
   cases h.part with
   |cond n hn hp ha hb=>exact TrV.node3 (yV6 hn) (yDa hp) (yDa ha) (yDa hb)
def lvN(op:Int)(i:Nat)(s:yAx):Nat:=s.nest+if yBn op i s.f then 1 else 0
def yBw(s' s:yAx):Prop:=∀op i,lvN op i s'<=lvN op i s
theorem ySy(s:yAx):yBw s s:=λ_ _=>A8 _
theorem yBw.trans{a b c:yAx}(h:yBw a b)(k:yBw b c):yBw a c:=λop i=>AM (h op i) (k op i)
theorem yBw.nest{s:yAx}(h:yBw s' s):s'.nest<=s.nest:=by
 have h0:=h 15 0;have hl:∀k,yBn 15 0 k=false:=λk=>by
  have hs:¬yBz k<1:=by unfold yBz;split<;>(try split)<;>omega
  have h15:yBz 15=1:=rfl;simp[yBn,h15,hs]
 unfold lvN at h0;rw[hl,hl]at h0;simpa using h0
theorem yIy(op:Int):∀(os os':List yAx)(i a a':Nat),a<=a'->os.length=os'.length->(∀(j:Nat)(o o':yAx),os[j]?=some o->os'[j]?=some o'->yBw o o')->yAq op i a os<=yAq op i a' os'
 | [],[],i,a,a',h,_,_=>h
 |o::os,o'::os',i,a,a',h,hl,hd=>by
  unfold yAq
  refine yIy op os os' (i+1) _ _ ?_ (by simpa using hl) (λj x x' h1 h2=>hd (j+1) x x' (by simpa using h1) (by simpa using h2))
  have:=hd 0 o o' rfl rfl op i
  unfold lvN at this
  omega
 | [],_::_,_,_,_,_,hl,_|_::_,[],_,_,_,_,hl,_=>by simp at hl
theorem yKy(op:Int):∀(os:List yAx)(i a:Nat),a<=yAq op i a os
 | [],_,_=>A8 _
 |o::os,i,a=>by
  unfold yAq
  exact AM (Nat.le_max_left _ _) (yKy op os (i+1) _)
theorem yIz(op:Int):∀(os:List yAx)(i a j:Nat)(o:yAx),os[j]?=some o->lvN op (i+j) o<=yAq op i a os
 | [],_,_,j,o,h=>by simp at h
 |x::os,i,a,0,o,h=>by
  simp at h
  subst h
  unfold yAq lvN
  exact AM (Nat.le_max_right _ _) (yKy op os (i+1) _)
 |x::os,i,a,j+1,o,h=>by
  unfold yAq
  have:=yIz op os (i+1) (max a (x.nest+if yBn op i x.f then 1 else 0)) j o (by simpa using h)
  rw[show i+1+j=i+(j+1)by omega]at this
  exact this
theorem yGb n (os:List yAx) (j:Nat) (o:yAx) (h:os[j]?=some o):yBw o (yA6 goodB n os):=by
 intro op i;have h1:=yIz n.f os 0 0 j o h;rw[Af]at h1;show o.nest+_<=yAq n.f 0 0 os+(if yBn op i n.f then 1 else 0);unfold lvN at h1;by_cases h2:yBn op i o.f=true
 .by_cases h3:yBn op i n.f=true
  .rw[iB h2,iB h3];omega
  .have h4:yBn n.f j o.f=true:=by
    unfold yBn at h2 h3|-;simp only[Ah,decide_eq_true_eq,not_or]at h2 h3|-;refine .inr ?_;have h5:=h2.resolve_left h3.1;have h6:=h3.2;split at h5
    .rw[iB (by assumption)]at h6;exact xJc
    .rw[iA (by assumption)]at h6;exact xJc
   rw[iB h2];rw[iB h4]at h1;omega
 .rw[iA h2];omega
theorem yKm n (os os':List yAx) (hl:os.length=os'.length) (hd:∀(j:Nat)(o o':yAx),os[j]?=some o->os'[j]?=some o'->yBw o o'):yBw (yA6 goodB n os) (yA6 goodB n os'):=by intro op i;have:=yIy n.f os os' 0 0 0 qr hl hd;show yAq n.f 0 0 os+_<=yAq n.f 0 0 os'+_;have e:(yA6 goodB n os).f=(yA6 goodB n os').f:=rfl;rw[e];omega
theorem yQt(n:Nd)(h:n.f=1):∀(cs pre:List Ent),leafG n pre cs=cs
 | [],_=>rfl
 |c::cs,pre=>by
  have hk:keepB n pre c=true:=by unfold keepB tstB;simp[h]
  have hs:yB0 n c=c:=by unfold yB0;rw[iA qo]
  unfold leafG
  rw[hk,iB rfl,hs,yQt n h cs]
theorem yN(n:Nd)(h:n.f=2):∀(cs pre:List Ent),leafG n pre cs= []
 | [],_=>rfl
 |c::cs,pre=>by
  have hk:keepB n pre c=false:=by unfold keepB tstB;simp[h]
  unfold leafG
  rw[hk]
  simp only[AH,if_false]
  exact yN n h cs _
theorem yHo(n:Nd)(h:n.f=3):∀(cs pre:List Ent),leafG n pre cs=cs.map λc=>{c with val:=⟨#[]⟩}
 | [],_=>rfl
 |c::cs,pre=>by
  have hk:keepB n pre c=true:=by unfold keepB tstB;simp[h]
  have hs:yB0 n c={c with val:=⟨#[]⟩}:=by unfold yB0;rw[iB h]
  unfold leafG
  rw[hk,iB rfl,hs,yHo n h cs]
  rfl
theorem xG1 b (h:Ord b):uniM [] b=b:=by have⟨h1,h2⟩:=yFm (a:= []) List.Pairwise.nil h;exact yKu h1 h λx=>by rw[h2];simp
theorem xCw a (h:Ord a):uniM a []=a:=by have⟨h1,h2⟩:=yFm (b:= []) h List.Pairwise.nil;exact yKu h1 h λx=>by rw[h2];simp
theorem xFl{a b:List Ent}(ha:Ord a)(hb:Ord b)(h:∀x∈b,∃y∈a,yAf x y=0):uniM a b=a:=by
 have⟨h1,h2⟩:=yFm ha hb;refine yKu h1 ha λx=>?_;rw[h2];constructor
 .rintro(q|⟨q,z⟩)
  .exact q
  .have⟨y,hy,hk⟩:=h x q;exact absurd hk (z y hy)
 .exact .inl
theorem yDk:∀t:CT,mean t []= []
 | .leaf n=>rfl
 | .chain _ a b=>by unfold mean;rw[yDk a,yDk b]
 | .inter _ a b=>by unfold mean;rw[yDk a,yDk b];rfl
 | .cond _ p a b=>by unfold mean;rw[yDk p,yDk b];rfl
structure Nrm(t:CT)(y:List Nd)(u:CT):Prop where
 tree:yBf y u
 Z:yLx y y
 deep:yBw (nkShp u) (nkShp t)
 same:∀row,Sub row row->mean u row=mean t row
variable {y:List Nd} {u:CT}
theorem yOz{k:Int}(h:yBf y u)(hk:isK y k)(h0:k=1\/k=2\/k=3):∃n,u=.leaf n/\n.f=k:=by
 obtain⟨n,rfl,hn⟩:=hk;have ha:yAk n.f=0:=by unfold yAk;rw[iA qo,iA qo]
 exact⟨n,yFn h (TrV.node0 ha),hn⟩
theorem Nrm.all(h:Nrm t y u)(hk:isK y 1)(hS:Sub row row):mean t row=row:=by obtain⟨n,rfl,hn⟩:=yOz h.tree hk (.inl rfl);rw[<-h.same row hS];exact yQt n hn row []
theorem Nrm.non(h:Nrm t y u)(hk:isK y 2)(hS:Sub row row):mean t row= []:=by obtain⟨n,rfl,hn⟩:=yOz h.tree hk (.inr (.inl rfl));rw[<-h.same row hS];exact yN n hn row []
theorem Nrm.strip(h:Nrm t y u)(hk:isK y 3)(hS:Sub row row):mean t row=row.map λc=>{c with val:=⟨#[]⟩}:=by obtain⟨n,rfl,hn⟩:=yOz h.tree hk (.inr (.inr rfl));rw[<-h.same row hS];exact yHo n hn row []
theorem Nrm.up{s:CT}(h:Nrm t y u)(hd:yBw (nkShp t) (nkShp s))(hm:∀row,Sub row row->mean t row=mean s row):Nrm s y u:=⟨h.tree,h.Z,h.deep.trans hd,λrow hS=>(h.same row hS).trans (hm row hS)⟩
theorem kid2 n (a b:yAx):yBw a (yA6 goodB n [a,b])/\yBw b (yA6 goodB n [a,b]):=⟨yGb n _ 0 a rfl,yGb n _ 1 b rfl⟩
theorem kid3 n (p a b:yAx):yBw a (yA6 goodB n [p,a,b])/\yBw b (yA6 goodB n [p,a,b]):=⟨yGb n _ 1 a rfl,yGb n _ 2 b rfl⟩
theorem xL4 n {a b a' b':yAx} (ha:yBw a' a) (hb:yBw b' b):yBw (yA6 goodB n [a',b']) (yA6 goodB n [a,b]):=yKm n _ _ rfl λj o o' h1 h2=>by
 match j,h1,h2 with
 |0,h1,h2=>cases h1;cases h2;exact ha
 |1,h1,h2=>cases h1;cases h2;exact hb
 |j+2,h1,h2=>simp at h1
theorem xMx n {p a b p' a' b':yAx} (hp:yBw p' p) (ha:yBw a' a) (hb:yBw b' b):yBw (yA6 goodB n [p',a',b']) (yA6 goodB n [p,a,b]):=yKm n _ _ rfl λj o o' h1 h2=>by
 match j,h1,h2 with
 |0,h1,h2=>cases h1;cases h2;exact hp
 |1,h1,h2=>cases h1;cases h2;exact ha
 |2,h1,h2=>cases h1;cases h2;exact hb
 |j+3,h1,h2=>simp at h1
variable {a b ua:CT} {ya yb:List Nd}
theorem yZ6(n:Nd)(hn:n.f=14){ub:CT}(ha:Nrm a ya ua)(hb:Nrm b yb ub):∃u,Nrm (.chain n a b) (normOf n [ya,yb]) u:=by
 have hkid:=kid2 n (nkShp a) (nkShp b);have hmb:∀row,Sub row row->Sub (mean a row) (mean a row):=λrow hS=>(yA7 a hS).self;by_cases h1:isK ya 1\/isK yb 2
 .have e:normOf n [ya,yb]=yb:=by unfold normOf;simp only;rw[iB hn,iB h1]
  rw[e];refine⟨ub,hb.up hkid.2 λrow hS=>?_⟩;show _=mean b (mean a row);rcases h1 with h1|h1
  .rw[ha.all h1 hS]
  .rw[hb.non h1 hS,hb.non h1 (hmb row hS)]
 .by_cases h2:isK yb 1\/isK ya 2\/(isK ya 3/\isK yb 3)
  .have e:normOf n [ya,yb]=ya:=by unfold normOf;simp only;rw[iB hn,iA h1,iB h2]
   rw[e];refine⟨ua,ha.up hkid.1 λrow hS=>?_⟩;show _=mean b (mean a row);rcases h2 with h2|h2|h2
   .rw[hb.all h2 (hmb row hS)]
   .rw[ha.non h2 hS,yDk]
   .rw[hb.strip h2.2 (hmb row hS),ha.strip h2.1 hS,List.map_map];rfl
  .have e:normOf n [ya,yb]=ya++yb++ [n]:=by unfold normOf;simp only;rw[iB hn,iA h1,iA h2]
   rw[e];refine⟨.chain n ua ub,?_,?_,xL4 n ha.deep hb.deep,λrow hS=>?_⟩
   .have h9:=TrV.node2 (V:=ctV) (yJa (.inl hn)) ha.tree hb.tree;have e1:ctV n [ua,ub]=.chain n ua ub:=iB hn;rw[e1]at h9;exact h9
   .have h9:=TrV.node2 (V:=normOf) (yJa (.inl hn)) ha.Z hb.Z;rw[e]at h9;exact h9
   .show mean ub (mean ua row)=mean b (mean a row);rw[ha.same row hS,hb.same _ (hmb row hS)]
theorem yZ5(n:Nd)(hn:n.f=15){ub:CT}(ha:Nrm a ya ua)(hb:Nrm b yb ub):∃u,Nrm (.inter n a b) (normOf n [ya,yb]) u:=by
 have hn':¬n.f=14:=qo
 have hkid:=kid2 n (nkShp a) (nkShp b);by_cases h1:isK ya 2
 .have e:normOf n [ya,yb]=yb:=by unfold normOf;simp only;rw[iA hn',iB h1]
  rw[e];refine⟨ub,hb.up hkid.2 λrow hS=>?_⟩;show _=uniM (mean a row) (mean b row);rw[ha.non h1 hS,xG1 _ (yA7 b hS).ord]
 .by_cases h2:isK yb 2\/isK ya 1\/ya=yb
  .have e:normOf n [ya,yb]=ya:=by unfold normOf;simp only;rw[iA hn',iA h1,iB h2]
   rw[e];refine⟨ua,ha.up hkid.1 λrow hS=>?_⟩;show _=uniM (mean a row) (mean b row);rcases h2 with h2|h2|h2
   .rw[hb.non h2 hS,xCw _ (yA7 a hS).ord]
   .rw[ha.all h2 hS,xFl hS.ord (yA7 b hS).ord (yA7 b hS).key]
   .have hu:=yFn ha.tree (h2▸hb.tree);have hab:mean b row=mean a row:=by rw[<-hb.same row hS,<-ha.same row hS,hu]
    rw[hab,xFl (yA7 a hS).ord (yA7 a hS).ord λx hx=>⟨x,hx,yB1 x⟩]
  .have e:normOf n [ya,yb]=ya++yb++ [n]:=by unfold normOf;simp only;rw[iA hn',iA h1,iA h2]
   rw[e];refine⟨.inter n ua ub,?_,?_,xL4 n ha.deep hb.deep,λrow hS=>?_⟩
   .have h9:=TrV.node2 (V:=ctV) (yJa (.inr hn)) ha.tree hb.tree;have e1:ctV n [ua,ub]=.inter n ua ub:=iA hn';rw[e1]at h9;exact h9
   .have h9:=TrV.node2 (V:=normOf) (yJa (.inr hn)) ha.Z hb.Z;rw[e]at h9;exact h9
   .show uniM (mean ua row) (mean ub row)=uniM (mean a row) (mean b row);rw[ha.same row hS,hb.same row hS]
theorem xDx(n:Nd)(hn:n.f=16){p up ub:CT}(hp:Nrm p yp up)(ha:Nrm a ya ua)(hb:Nrm b yb ub):∃u,Nrm (.cond n p a b) (normOf n [yp,ya,yb]) u:=by
 have hkid:=kid3 n (nkShp p) (nkShp a) (nkShp b);by_cases h1:isK yp 1
 .have e:normOf n [yp,ya,yb]=ya:=by unfold normOf;simp only;rw[iB h1]
  rw[e];refine⟨ua,ha.up hkid.1 λrow hS=>?_⟩;show _=if mean p row= []then mean b row else mean a row
  rw[hp.all h1 hS];by_cases h0:row= []
  .rw[iB h0,h0,yDk,yDk]
  .rw[iA h0]
 .by_cases h2:isK yp 2
  .have e:normOf n [yp,ya,yb]=yb:=by unfold normOf;simp only;rw[iA h1,iB h2]
   rw[e];refine⟨ub,hb.up hkid.2 λrow hS=>?_⟩;show _=if mean p row= []then mean b row else mean a row
   rw[iB (hp.non h2 hS)]
  .by_cases h3:ya=yb
   .have e:normOf n [yp,ya,yb]=ya:=by unfold normOf;simp only;rw[iA h1,iA h2,iB h3]
    rw[e];refine⟨ua,ha.up hkid.1 λrow hS=>?_⟩;have hu:=yFn ha.tree (h3▸hb.tree);have hab:mean b row=mean a row:=by rw[<-hb.same row hS,<-ha.same row hS,hu]
    show _=if mean p row= []then mean b row else mean a row
    rw[hab];split<;>rfl
   .have e:normOf n [yp,ya,yb]=yp++ya++yb++ [n]:=by unfold normOf;simp only;rw[iA h1,iA h2,iA h3]
    rw[e];refine⟨.cond n up ua ub,?_,?_,xMx n hp.deep ha.deep hb.deep,λrow hS=>?_⟩
    .exact TrV.node3 (V:=ctV) (yV6 hn) hp.tree ha.tree hb.tree
    .have h9:=TrV.node3 (V:=normOf) (yV6 hn) hp.Z ha.Z hb.Z;rw[e]at h9;exact h9
    .show(if mean up row= []then mean ub row else mean ua row)=if mean p row= []then mean b row else mean a row
     rw[hp.same row hS,ha.same row hS,hb.same row hS]
theorem yFr:∀{t:CT}{xs:List Nd},yBf xs t->∃y u,yLx xs y/\Nrm t y u
 | .leaf n,_,h=>by
   cases h.part with
   |leaf _ hn=>
    have h0:=TrV.node0 (V:=normOf) hn
    exact⟨[n],.leaf n,h0,h,h0,ySy _,λ_ _=>rfl⟩
 | .chain n _ _,_,h=>by
   cases h.part with
   |chain _ hn ha hb=>
    have⟨ya,ua,na,ra⟩:=yFr ha
    have⟨yb,ub,nb,rb⟩:=yFr hb
    have⟨u,hu⟩:=yZ6 n hn ra rb
    exact⟨_,u,TrV.node2 (yJa (.inl hn)) na nb,hu⟩
 | .inter n _ _,_,h=>by
   cases h.part with
   |inter _ hn ha hb=>
    have⟨ya,ua,na,ra⟩:=yFr ha
    have⟨yb,ub,nb,rb⟩:=yFr hb
    have⟨u,hu⟩:=yZ5 n hn ra rb
    exact⟨_,u,TrV.node2 (yJa (.inr hn)) na nb,hu⟩
 | .cond n _ _ _,_,h=>by
   cases h.part with
   |cond _ hn hp ha hb=>
    have⟨yp,up,np,rp⟩:=yFr hp
    have⟨ya,ua,na,ra⟩:=yFr ha
    have⟨yb,ub,nb,rb⟩:=yFr hb
    have⟨u,hu⟩:=xDx n hn rp ra rb
    exact⟨_,u,TrV.node3 (yV6 hn) np na nb,hu⟩
theorem yZ9(h:yBe xs)(hy:yLx xs y):yBe y/\y.length<=xs.length/\yLx y y/\∀es R,(∀e∈es,e.f=0)->(∀e∈es,e.ok)->yJp xs es R->yJp y es R:=by
 have⟨t,ht⟩:=yNb h;have⟨y',u,hy',hN⟩:=yFr ht;obtain rfl:y=y':=yQe hy hy';have hm:=yJ7 xs.length qr hy;have hg:yBe y:=by
  refine⟨AM hm.2 h.1,nkShp u,yYs (yDa hN.tree),?_,?_⟩
  .have h9:=ShT.valid goodB (yYs (yDa hN.tree));have h10:=List.all_eq_true.2 λe he=>(yFv e).2 (yDd h e (hm.1 e he));rw[h10]at h9;simpa using h9
  .have⟨_,s,hs,_,hn⟩:=h;obtain rfl:s=nkShp t:=yY4 hs (yYs (yDa ht));exact AM hN.deep.nest hn
 refine⟨hg,hm.2,hN.Z,λes R hk hok hR=>?_⟩;rcases hR with⟨h1,rfl⟩|⟨h1,t',ht',rfl⟩
 .exact .inl ⟨λq=>h1 ⟨h,q.2⟩,rfl⟩
 .obtain rfl:t=t':=yFn ht ht';refine .inr ⟨⟨hg,h1.2⟩,u,hN.tree,?_⟩;have hS:=yNv h1.2 hk hok;unfold meanAll;congr 1;funext p;exact(hN.same _ (yJr hS p)).symm
theorem yXj(hn:yAk n.f=0)(h:yBq n):yBe [n]:=
 ⟨by simp,yA6 goodB n [],ShT.snoc (ss:= []) (os:= []) (xs:= []) n hn.symm .nil,by simp[yA6,yFv,h],by simp[yA6,yAq]⟩
theorem yEe{P:Nd->Prop}:∀{t:CT}{xs:List Nd},yBf xs t->(∀e∈xs,yAk e.f=0->P e)->t.lv P
 | .leaf n,_,h,g=>by
   cases h.part with
   |leaf _ hn=>exact g n (by simp) hn
 | .chain n a b,_,h,g=>by
   cases h.part with
   |chain _ hn ha hb=>exact⟨yEe ha λe he=>g e (by simp[he]),yEe hb λe he=>g e (by simp[he])⟩
 | .inter n a b,_,h,g=>by
   cases h.part with
   |inter _ hn ha hb=>exact⟨yEe ha λe he=>g e (by simp[he]),yEe hb λe he=>g e (by simp[he])⟩
 | .cond n p a b,_,h,g=>by
   cases h.part with
   |cond _ hn hp ha hb=>exact⟨yEe hp λe he=>g e (by simp[he]),yEe ha λe he=>g e (by simp[he]),yEe hb λe he=>g e (by simp[he])⟩
variable {m:Bk}
theorem xBu(hG:yBe xs)(ht:yBf xs t)(hv:bs.map Bk.vw=(t.V [] false 0).map yCx)(hm:m.vw=yCx (t.gen false 0)):yEk bs m:=
 xBv (by rw[ht.size];exact hG.1) (yEe ht λe he ha=>yXj ha (yDd hG e he)) hv hm
theorem yT4:∀(t:CT)(f:Nat)(cd:List Bool)(R:List Ent),t.J=0->CdOk t f cd R
 | .leaf _,_,_,_,_=>trivial
 | .chain _ a b,f,cd,R,h| .inter _ a b,f,cd,R,h=>by simp only[CT.J]at h;exact⟨yT4 a _ _ _ qo,yT4 b _ _ _ qo⟩
 | .cond _ p a b,f,cd,R,h=>by simp only[CT.J]at h;omega
theorem yR0:∀(f i:Nat),es.length-i<=f->∀p∈allC es i,yF8 es p.1 p.2
 |0,i,h,p,hp=>by rw[yEv qo]at hp;cases hp
 |f+1,i,h,p,hp=>by
  by_cases hi:i<es.length
  .obtain⟨j,hj⟩:=xF2 hi
   rw[yF4 hj]at hp
   rcases List.mem_cons.1 hp with rfl|hp
   .exact hj
   .exact yR0 f j (qw hj.lt) p hp
  .rw[yEv qo]at hp;cases hp
theorem yU5(hG:yBe xs)(hC:yYc xs X M)(hv:bs.map Bk.vw=X.map yCx)(hm:m.vw=yCx M)(hgr:yBp es)(hk:∀e∈es,e.f=0)(hoe:∀e∈es,e.ok):
  yEk bs m/\∀{hints ok:Bool}{out:List Ent}{n:Nat},RunM bs m es hints ok out n->ok=true/\yJp xs es out:=by
 rcases hC with⟨q,_⟩|⟨_,t,ht,rfl,rfl⟩
 .exact absurd hG q
 have hgc:=xBu hG ht hv hm;have ho:=(yNv hgr hk hoe).ord;refine⟨hgc,λ{hints ok out n} h=>?_⟩;rcases h with⟨q,_⟩|⟨_,rfl,h⟩
 .exact absurd ⟨hgc,hgr⟩ q
 refine⟨rfl,.inr ⟨⟨hG,hgr⟩,t,ht,?_⟩⟩;rcases h with⟨_,h,_⟩|⟨rfl,h⟩
 .rw[hm,hv]at h;rw[xLf h λrow hr=>?_,List.flatMap_map]
  .rfl
  .obtain⟨p,hp,rfl⟩:=List.mem_map.1 hr;exact yY9 ho (yR0 _ 0 qr p hp)
 .have hi:t.J=0:=by have:=congrArg Ar hv;simpa [yDe]using this.symm
  have hf:=yCb (cd:= []) t false 0 qo;obtain⟨e1,e2⟩:m.cnt=(cntL (t.gen false 0):Nat)/\m.l=absG 0 0 (t.gen false 0):=by simpa [yCx]using hm
  rw[e1,e2]at h;have hb:es.Pairwise Bhd:=ho.imp_of_mem λha hb q=>⟨q,hk _ ha,hk _ hb⟩;rw[xMt hf (yJ8 t false 0 hi (Ad _) (yEe ht λe he _=>(yDd hG e he).1)) h (by simp) hb];exact xMa ho hf.X hf.old (λR=>yEd t false 0 R qo (yT4 t 0 [] R hi)) _ 0 _ qr (by simp) λk hk=>by rw[(As.1 hk).2];simp[newC]
theorem xHc(hC:yYc xs X M)(hm:m.vw=yCx M)(h:¬(yBe xs/\yBp es)){n:Nat}(hr:RunM bs m es hints ok out n):ok=false:=by
 rcases hr with⟨_,q,_⟩|⟨⟨g1,g2⟩,_⟩
 .exact q
 .rcases hC with⟨_,_,rfl⟩|⟨q,_⟩
  .have:=g1.2.1.1;have e:=(Prod.mk.inj hm).2;rw[e]at this;exact absurd this (by simp[absG])
  .exact absurd ⟨q,g2⟩ h
end Go.Proofs.YtnnagkfoiganfaaGreatDoor
