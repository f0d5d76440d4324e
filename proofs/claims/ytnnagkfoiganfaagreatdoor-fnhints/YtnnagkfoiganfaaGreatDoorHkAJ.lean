import Derived.Test.YtnnagkfoiganfaaGreatDoorHkAE
namespace Go.Proofs.YtnnagkfoiganfaaGreatDoor
open Go.ChangeShapes Go.WideShapes Go.ChangeAt Go.RowKit Go.Deep XD XI XU XG XP XK XW XT XF XE XH _root_.List _root_.Nat XY Go.Proofs.Tryz
open _root_.Go renaming Ending->AK,wpList_append_own_at->AU,Operand->AV,bodyPost_ret->AY
open _root_.Go.IntKind renaming wrap_i64->AE
open _root_.Go.Obj renaming cells->AC
open _root_.List renaming length_append->AA,length_singleton->AB,append_assoc->AD,mem_of_getElem?->AG,mem_append->AH,mem_singleton->AJ,map_append->AL,singleton_append->AN,getElem?_map->AQ,take_add_one->AR,length_cons->AS,cons_append->AT
open _root_.Nat renaming le_refl->AF,zero_add->AI,add_assoc->AM,le_trans->AO,add_zero->AP,le_of_eq->AW,zero_le->AX
set_option linter.unusedVariables false
set_option linter.unusedSimpArgs false
set_option maxRecDepth 100000
set_option maxHeartbeats 64000000
variable {t:CT} {vs:List Vv} {v mv:Vv} {c P1 P3 c' g j hi B hi' T sz':Nat} {es L M N:List Ix} {S:Nat->Prop} {f:Option Nat} {cs:Array Vv} {wx wr':Ww} {Q:Exit->Act->Ww->Prop} {ops:Array Oper} {E:Prop} {oo:Oper}
def PaP(t:CT)(w:Ww)(r:AK)(w':Ww):Prop:=r=.returned t.passes/\Below w w w'
def PaC(n:Nat):Prop:=∀(w:Ww)(b o cap:Nat)(xs:List Nd)(t:CT),xs.length<=n->xs.length<=200->Win w b o cap xs->yA9 xs t->Calls prog 128 #[.slice (some ⟨b,o,none⟩) xs.length cap] w (PaP t w)
variable {n b o cap:Nat} {w:Ww} {xs:List Nd}
theorem yW0(H:PaC n)(hn:xs.length<=n)(h2:xs.length<=200)(hW:Win w b o cap xs)(hT:yA9 xs t):∀wx,Below w w wx->Calls prog 128 #[.slice (some ⟨b,o,none⟩) xs.length cap] wx (PaP t wx):=λwx hx=>H wx b o cap xs t hn h2 (hW.k hx) hT
theorem xDw(H:PaC n):PaC (n+1):=by
 intro w b o cap xs t hn hn2 hW hT;obtain⟨ks,e,rfl,hK,hal,hIs⟩:=hT.knd;simp only[AA,AB]at hn hn2;obtain⟨m,hm⟩:=qE ks.flatten.length;have HT:Hid (∀wx,Below w w wx->Calls prog 91 #[.slice (some ⟨b,o,none⟩) (m+1) cap] wx λr w'=>r=.returned (xi e.f)/\w'=wx):=λwx hx=>by rw[hm];exact yD8 (hW.k hx)
 obtain⟨a3,ha3⟩:=qE ks.length;have HKs:Hid (Calls prog 92 #[.slice (some ⟨b,o,none⟩) (m+1) cap] w λr w'=>∃g cp,r=.returned (xg g a3 cp)/\OwnV w' w g cp (yFg b o cap ks)/\Below w w w'):=by rw[ha3,hm];exact yEq hW hal hIs
 have HN:Hid (∀{j:Nat}{k:List Nd}{u:CT},ks[j]?=some k->yA9 k u->∃o' cap',(yFg b o cap ks)[j]?=some (.slice (some ⟨b,o',none⟩) k.length cap')/\∀wx,Below w w wx->Calls prog 128 #[.slice (some ⟨b,o',none⟩) k.length cap'] wx (PaP u wx)):=by intro j k u hk hu;obtain⟨o',cap',hv,hWk⟩:=yFf hW hk;have hkl:=yEp (AG hk);exact⟨o',cap',hv,yW0 H qo qo hWk hu⟩
 have HW:=qH1 hW;rw[AA,AB,<-hm];have HM:=qH2 ha3 hm;clear hW hT hIs H hal hn hn2 hm ha3;go_enter func128,ntmps128;go_wp2_with fail;refine HKs.mono ?_;rintro r w1 ⟨kg,kc,rfl,hO,hb1⟩;have s1:=hb1.size;have HO:=qH1 hO;have hkc:=hO.caps;rw[yE,<-HM.1]at hkc;have hkl:=hO.lt;clear hO HKs;go_wp2_with fail;refine(HT.out w1 hb1).mono ?_;rintro r w1' ⟨rfl,hw1⟩;rw[hw1];clear hw1;cases hK with
 |leaf _ hk=>
  have h16:¬e.f=16:=λq=>by rw[q]at hk;simp[yAl]at hk
  have z16:(e.f==16)=false:=by rw[iC];exact h16
  obtain rfl:a3=0:=HM.1;obtain rfl:m=0:=HM.2;have HC:=qH1 (yVa (HW.k hb1));go_wp2_with fail;refine HC.mono ?_;rintro r w2 ⟨rfl,hb2⟩;have HR:Hid (PaP (.leaf e) w (.returned (yCn e.f)) w2):=⟨rfl,hb1.trans (hb2.mono s1)⟩;go_wp2_with fail;go_ret;exact HR.out
 | @chain _ x y ka kb h hx hy=>?ch
 | @inter _ x y ka kb h hx hy=>?it
 | @cond _ z x y kc ka kb h hz hx hy=>?cd
 case' ch=>
  have z16:(e.f==16)=false:=by rw[iC];omega
  obtain rfl:a3=2:=HM.1;obtain⟨o1,c1,hv1,hc1⟩:=HN.out (j:=0) rfl hx;obtain⟨o2,c2,hv2,hc2⟩:=HN.out (j:=1) rfl hy
 case' it=>
  have z16:(e.f==16)=false:=by rw[iC];omega
  obtain rfl:a3=2:=HM.1;obtain⟨o1,c1,hv1,hc1⟩:=HN.out (j:=0) rfl hx;obtain⟨o2,c2,hv2,hc2⟩:=HN.out (j:=1) rfl hy
 case' cd=>
  have z16:(e.f==16)=true:=by rw[beq_iff_eq];exact h
  obtain rfl:a3=3:=HM.1;obtain⟨o1,c1,hv1,hc1⟩:=HN.out (j:=1) rfl hx;obtain⟨o2,c2,hv2,hc2⟩:=HN.out (j:=2) rfl hy
 all_goals
  have q0:=HO.z hv1;obtain⟨l1,hl1⟩:=qE ka.length;obtain⟨l2,hl2⟩:=qE kb.length;rw[<-hl1]at q0 hc1;rw[<-hl2]at hv2 hc2;have HC:=qH3 hc1 hc2 hv2;clear hc1 hc2 hv1 hv2 hl1 hl2;go_wp2_with fail;refine(HC.1 w1 hb1).mono ?_;rintro r w2 ⟨rfl,hb2⟩;have s2:=hb2.size;have k2:=hb1.trans (hb2.mono s1);have q1:=(HO.k hb2).z HC.2.2;clear q0;obtain⟨p1,hp1⟩:=qE x.passes;rw[<-hp1];have HP:=qH1 hp1;clear hp1;cases p1
  case true=>go_wp2_with fail;go_ret;exact⟨by show _=Ending.returned (x.passes || y.passes);rw[<-HP.out];rfl,k2⟩
  case false=>go_wp2_with fail;refine(HC.2.1 w2 k2).mono ?_;rintro r w3 ⟨rfl,hb3⟩;go_wp2_with fail;go_ret;exact⟨by show _=Ending.returned (x.passes || y.passes);rw[<-HP.out];rfl,k2.trans (hb3.mono k2.size)⟩
theorem yS8:∀n,PaC n
 |0=>λw b o cap xs t hn _ _ hT=>by have:=hT.part;cases this<;>simp at hn
 |n+1=>xDw (yS8 n)
structure ySi(w:Ww)(P1 P3 eb k:Nat):Prop where
 e:yA w P1 76 1 P1 [xp eb]
 U:yA w P3 3 1 P3 [xi k]
variable {eb O sz:Nat}
theorem yZ{t P:Nat}{X:List Ix}(h:yA w O t sz P vs)(hE:EmAt w eb v X c)(h1:t≠79)(h2:t≠153):¬EmS eb v P:=by
 rintro(q|q)
 .have:=yAb h hE.A h1 P rfl;rw[q]at this;exact this rfl
 .exact yAb h hE.j h2 P rfl q
variable {w':Ww} {v':Vv}
theorem ySi.K{k:Nat}{X X':List Ix}(h:ySi w P1 P3 eb k)(hE:EmAt w eb v X c)(hT:EmTo w w' eb v v' X' c'):ySi w' P1 P3 eb k:=
 ⟨h.e.i hT.i (yZ h.e hE qj qj),h.U.i hT.i (yZ h.U hE qj qj)⟩
abbrev labV(P1 P3:Nat):Vv:=.func (Fn.func 140) #[] #[xp P1,xp P3]
variable {cp:Nat} {y:Ix}
theorem EmAt.jump{k:Nat}{X:List Ix}(h:EmAt w eb (xg g n cp) X c)(hk:X[k]?=some y)(b:Int):
  EmTo w (xt w g (k*11+2) (xi b)) eb (xg g n cp) (xg g n cp) (X.set k {y with b:=b}) c:=by
 have hn:n=X.length:=by have⟨a,c',hv⟩:=h.j.slice;cases hv;rfl
 subst hn;have hO:OwnX w (eb+1) g cp X:=h.j;have hg:=hO.lt;have hch:Chg (λb=>b=g) w (xt w g (k*11+2) (xi b)):=Chg.D _ _ _ _ rfl;refine⟨⟨h.A.i hch (by omega),?_⟩,hch.mono (λj hj=>.inr (by subst hj;rfl)),λj hj=>.inl hj⟩;have:=hO.set k 2 y {y with b:=b} (xi b) hk (by omega) rfl;unfold RowX;unfold OwnX at this;rw[List.length_set]at this|-;exact this
theorem yLo{k:Nat}{X:List Ix}(h:EmAt w eb v X c)(hL:ySi w P1 P3 eb k)(hk:X[k]?=some y)(hl:X.length<=100000):Calls prog 140 #[xp P1,xp P3] w λr w'=>r=.returned (.tuple #[])/\EmTo w w' eb v v (X.set k {y with b:=(X.length:Int)}) c:=by
 have hkl:=qf hk;rcases h.j.cases with⟨_,h0⟩|⟨g,cp,hv,hO⟩
 .rw[h0]at hkl;simp at hkl
 subst hv;obtain⟨n,hn⟩:=qE X.length;rw[<-hn]at hkl hl h;have HJ:Hid (EmTo w (xt w g (k*11+2) (xi n)) eb (xg g n cp) (xg g n cp) (X.set k {y with b:=(n:Int)}) c):=h.jump hk _;have hcp:=hO.caps;rw[<-hn]at hcp;have HX:=qH3 hO hk hn;have HB:Hid (EmAt w eb (xg g n cp) X c/\ySi w P1 P3 eb k):=⟨h,hL⟩;have zk:(k:Int)<(n:Int):=by omega
 have hSd:SW (λw':Ww=>xk w' eb 0 (xg g n cp)/\xk w' P1 0 (xp eb)/\xk w' P3 0 (xi k)) w.drew:=⟨h.A.z (j:=0) rfl,hL.e.z (j:=0) rfl,hL.U.z (j:=0) rfl⟩;have cb:(xk w g (k*11+2) (xi y.b):Prop):=by have:=(hO.at k y hk).2.2.1;simpa using this
 have fb:w.frozen? (xd g (k*11+2))=false:=World.ownsRow.frozenAt hO _;rw[<-hn];clear h hL hk hn hO;go_enter func140,ntmps140;refine wpR 14 hSd ?_;refine ja 0 hSd ?_;iterate 11 refine jb hSd ?_
 refine kO 12 hSd ?_;refine kO 13 hSd ?_;refine kL 14 ?_;refine qD ?_;go_wp2_with fail;refine bodyPost_end (results_none rfl _ _ _) rfl ?_;exact⟨rfl,HJ.trans (EmTo.h HJ.U ((Below.refl _ _).drew))⟩
def JmpP(w:Ww)(eb c:Nat)(v:Vv)(X:List Ix)(x:Ix)(r:AK)(w':Ww):Prop:=∃P1 P3 v',r=.returned (labV P1 P3)/\ySi w' P1 P3 eb X.length/\EmTo w w' eb v v' (X++ [x]) c
theorem yIj{X:List Ix}(h:EmAt w eb v X c)(x:Ix)(hl:X.length<=100000):Calls prog 86 #[xp eb,x.v] w (JmpP w eb c v X x):=by
 have⟨va,vc,hv⟩:=h.j.slice;have⟨vn,hvn⟩:=qE X.length;rw[<-hvn]at hv;subst hv;have HE:=qH2 h hvn;have HL:=qH1 hl;clear h hvn hl;have⟨W0,hW0⟩:=qW (xw (w.alloc (AC #[xp eb] 76)) #[xi x.op,xi x.a,xi x.b,x.free,xi x.leaf.f,x.leaf.s,x.leaf.hi,x.leaf.t,xu x.leaf.lo,xu x.leaf.up,xi x.leaf.n] 153);have⟨P1,hP1⟩:=qE w;have⟨P2,hP2⟩:=qE (w.heap.size+1);have z1:(w.alloc (AC #[.pointer (some ⟨eb,0,none⟩)] 76)).heap.size=w+1:=by simp
 have HB0:Hid (yA W0 P1 76 1 P1 [.pointer (some ⟨eb,0,none⟩)]/\yA W0 P2 153 11 P2 x.ten/\Below w.heap.size w W0):=by have hb2:=yAa (w.alloc (AC #[.pointer (some ⟨eb,0,none⟩)] 76)) (O:=w.heap.size+1) (t:=153) (sz:=11) #[.int .i64 x.op,.int .i64 x.a,.int .i64 x.b,.bool x.free,.int .i64 x.leaf.f,.string x.leaf.s,.bool x.leaf.hi,.string x.leaf.t,.int .u64 x.leaf.lo,.int .u64 x.leaf.up,.int .i64 x.leaf.n] (z1▸AF _) rfl;rw[z1]at hb2;rw[hW0,hP1,hP2];exact⟨(yAa w _ (AF _) rfl).k (qB),hb2,(qB).alloc (by simp) _⟩
 clear z1;have HE0:=qH1 (HE.1.k HB0.2.2);have q0:=HE0.A.z (j:=0) rfl;have q1:=HB0.1.z (j:=0) rfl;have⟨W1,hW1⟩:=qW (W0.alloc (AC #[.int .i64 (vn:Int)] 3));have⟨P3,hP3⟩:=qE W0.heap.size;have hbA:Below W0 W0 W1:=hW1▸qB
 have HB1:Hid (yA W1 P3 3 1 P3 [.int .i64 (vn:Int)]/\yA W1 P1 76 1 P1 [.pointer (some ⟨eb,0,none⟩)]/\yA W1 P2 153 11 P2 x.ten/\EmAt W1 eb (.slice va vn vc) X c/\Below w.heap.size w W1):=by refine⟨?_,HB0.1.k hbA,HB0.2.1.k hbA,HE0.k hbA,HB0.2.2.trans (hbA.mono HB0.2.2.size)⟩;rw[hW1,hP3];exact yAa W0 _ (AF _) rfl
 clear hbA;go_enter func86,ntmps86;go_upto_region 1 with fail;rw[<-hW0,<-hP2,<-hP1];clear hW0 hP1 hP2;go_upto_region 2 with fail;rw[<-hW1,<-hP3];clear hW1 hP3 q0 q1;have q1:=HB1.2.1.z (j:=0) rfl;have d0:=HB1.2.2.1.z (j:=0) rfl;have d1:=HB1.2.2.1.z (j:=1) rfl;have d2:=HB1.2.2.1.z (j:=2) rfl;have d3:=HB1.2.2.1.z (j:=3) rfl;have d4:=HB1.2.2.1.z (j:=4) rfl;have d5:=HB1.2.2.1.z (j:=5) rfl;have d6:=HB1.2.2.1.z (j:=6) rfl;have d7:=HB1.2.2.1.z (j:=7) rfl;have d8:=HB1.2.2.1.z (j:=8) rfl;have d9:=HB1.2.2.1.z (j:=9) rfl;have d10:=HB1.2.2.1.z (j:=10) rfl;go_wp2_with fail;apply (yF3 HB1.2.2.2.1 x HL.out).mono;rintro r w2 ⟨rfl,v',hT⟩;have HR:Hid (JmpP w eb c (.slice va vn vc) X x (.returned (labV P1 P3)) w2):=by have hl:ySi W1 P1 P3 eb X.length:=⟨HB1.2.1,by rw[<-HE.2];exact HB1.1⟩;exact⟨P1,P3,v',rfl,hl.K HB1.2.2.2.1 hT,(EmTo.h HE.1 HB1.2.2.2.2).trans hT⟩
 clear hT q1 d0 d1 d2 d3 d4 d5 d6 d7 d8 d9 d10;go_wp2_with fail;go_ret;exact HR
theorem yY(k:Int) w:Calls prog 141 #[xi k] w λr w'=>r=.returned (yCn k)/\w'=w:=by
 go_enter func141,ntmps141;go_wp2_with fail;all_goals go_ret
 all_goals exact⟨by(have e0:yCn k=(k==11 || k==12 || k==13):=by simp only[yCn,Bool.decide_or,Bool.or_assoc];rfl);rw[e0];simp_all,rfl⟩
theorem EmAt.count{X:List Ix}(h:EmAt w eb v X c)(c':Nat):EmTo w (xt w eb 1 (xi c')) eb v v X c':=by have hset:Chg (λb=>b=eb) w (xt w eb 1 (xi c')):=Chg.D _ _ _ _ rfl;refine⟨⟨?_,h.j.i hset (λk hk q=>qw ((h.j.blk hk).1))⟩,hset.mono (λk hk=>.inl hk),λk hk=>.inl hk⟩;have:=h.A.set 1 (xi c');simpa using this
theorem yVw{n:Nd}{k:Nat}{f:Bool}(h:yCn n.f=false):absG k c [⟨1,0,0,f,n⟩]= [⟨1,0,0,f,n⟩]/\cntL [⟨1,0,0,f,n⟩]=0:=by simp[absG,fixI,cntL,cntI,h]
theorem ySd{n:Nd}{k:Nat}{f:Bool}(h:yCn n.f=true):absG k c [⟨1,0,0,f,n⟩]= [⟨1,(c:Int),0,f,n⟩]/\cntL [⟨1,0,0,f,n⟩]=1:=by simp[absG,fixI,cntL,cntI,h]
def yZr(w:Ww)(eb c:Nat)(v:Vv)(X:List Ix)(n:Nd)(s:Bool)(r:AK)(w':Ww):Prop:=∃v',r=.returned (s || yCn n.f)/\EmTo w w' eb v v' (X++absG X.length c [⟨1,0,0, !s,n⟩]) (c+cntL [⟨1,0,0, !s,n⟩])
theorem yP6{X:List Ix}(h:EmAt w eb v X c)(n:Nd)(s:Bool)(hl:X.length<=100000)(hc:c<=100000):Calls prog 87 #[xp eb,n.v,s] w (yZr w eb c v X n s):=by
 have HE:=qH1 h;have HL:=qH1 hl;clear h hl;have⟨W1,hW1⟩:=qW (xw (w.alloc (AC #[xi n.f,n.s,n.hi,n.t,xu n.lo,xu n.up,xi n.n] 83)) #[xi 1,xi 0,xi 0,(!s),xi n.f,n.s,n.hi,n.t,xu n.lo,xu n.up,xi n.n] 153);have⟨P1,hP1⟩:=qE w;have⟨P2,hP2⟩:=qE (w.heap.size+1);have z1:(w.alloc (AC #[xi n.f,n.s,n.hi,n.t,xu n.lo,xu n.up,.int .i64 n.n] 83)).heap.size=w+1:=by simp
 have HB1:Hid (yA W1 P1 83 7 P1 [.int .i64 n.f,.string n.s,.bool n.hi,.string n.t,.int .u64 n.lo,.int .u64 n.up,.int .i64 n.n]/\yA W1 P2 153 11 P2 (Ix.ten ⟨1,0,0, !s,n⟩)/\Below w.heap.size w W1/\w<=P2):=by have hb2:=yAa (w.alloc (AC #[.int .i64 n.f,.string n.s,.bool n.hi,.string n.t,.int .u64 n.lo,.int .u64 n.up,.int .i64 n.n] 83)) (O:=w.heap.size+1) (t:=153) (sz:=11) #[.int .i64 1,.int .i64 0,.int .i64 0,.bool (!s),.int .i64 n.f,.string n.s,.bool n.hi,.string n.t,.int .u64 n.lo,.int .u64 n.up,.int .i64 n.n] (z1▸AF _) rfl;rw[z1]at hb2;rw[hW1,hP1,hP2];exact⟨(yAa w _ (AF _) rfl).k (qB),hb2,(qB).alloc (by simp) _,qo⟩
 clear z1;have HE1:=qH1 (HE.k HB1.2.2.1);have HOf:Hid (∀k,v.ownBlock=some k->k≠P2):=λk hk q=>qv ((HE.j.blk hk).2) HB1.2.2.2
 have HeP:Hid (¬eb=P2):=λq=>qv HE.lt HB1.2.2.2
 go_enter func87,ntmps87;go_upto_region 2 with fail;rw[<-hW1,<-hP2,<-hP1];clear hW1 hP1 hP2;have q0:=HB1.1.z (j:=0) rfl;go_wp2_with fail;apply (yY n.f W1).mono;rintro r w1' ⟨rfl,hw1⟩;rw[hw1];clear hw1 q0;have⟨ct,hct⟩:=qE (yCn n.f);rw[<-hct];have HCt:=qH1 hct;clear hct;cases ct
 case false=>
  have HY:Hid (absG X.length c [⟨1,0,0, !s,n⟩]= [⟨1,0,0, !s,n⟩]/\cntL [⟨1,0,0, !s,n⟩]=0):=yVw HCt.symm;have d0:=HB1.2.1.z (j:=0) rfl;have d1:=HB1.2.1.z (j:=1) rfl;have d2:=HB1.2.1.z (j:=2) rfl;have d3:=HB1.2.1.z (j:=3) rfl;have d4:=HB1.2.1.z (j:=4) rfl;have d5:=HB1.2.1.z (j:=5) rfl;have d6:=HB1.2.1.z (j:=6) rfl;have d7:=HB1.2.1.z (j:=7) rfl;have d8:=HB1.2.1.z (j:=8) rfl;have d9:=HB1.2.1.z (j:=9) rfl;have d10:=HB1.2.1.z (j:=10) rfl;go_wp2_with fail;apply (yF3 HE1.out ⟨1,0,0, !s,n⟩ HL.out).mono;rintro r w2 ⟨rfl,v',hT⟩;have HR:Hid (yZr w eb c v X n s (.returned s) w2):=by refine⟨v',by rw[<-HCt];simp,?_⟩;rw[HY.1,HY.2];exact(EmTo.h HE HB1.2.2.1).trans hT
  exact xE9
 case true=>
  have HY:Hid (absG X.length c [⟨1,0,0, !s,n⟩]= [⟨1,(c:Int),0, !s,n⟩]/\cntL [⟨1,0,0, !s,n⟩]=1):=ySd HCt.symm;have q1:=HE1.A.z (j:=1) rfl;have q2:=HB1.2.1.z (j:=1) rfl;have f2:=HB1.2.1.frozen 1;have⟨W2,hW2⟩:=qE (xt W1 P2 1 (xi c):Ww);have hset:Chg (λb=>b=P2) W1 W2:=hW2▸(Chg.D _ _ _ _ rfl)
  have HE2:Hid (EmAt W2 eb v X c/\yA W2 P2 153 11 P2 (Ix.ten ⟨1,(c:Int),0, !s,n⟩)/\Below w w W2):=by
   refine⟨⟨HE1.A.i hset HeP,HE1.j.i hset (λk hk q=>HOf k hk q)⟩,?_,?_⟩
   .rw[hW2];exact HB1.2.1.set 1 _
   .rw[hW2];exact yAc HB1.2.2.1 HB1.2.2.2 _ _
  clear hset;go_upto_region 4 with fail;rw[<-hW2];clear hW2 q1 q2 f2;have q1:=HE2.1.A.z (j:=1) rfl;have f2:=HE2.1.A.frozen 1;have⟨W3,hW3⟩:=qE (xt W2 eb 1 (xi ((c:Int)+1)):Ww);have HE3:Hid (EmTo W2 W3 eb v v X (c+1)/\yA W3 P2 153 11 P2 (Ix.ten ⟨1,(c:Int),0, !s,n⟩)):=by rw[hW3];refine⟨by have:=HE2.1.count (c+1);rwa [Int.natCast_add]at this,HE2.2.1.Q (λq=>HeP q.symm) _ _⟩
  go_upto_region 5 with fail;rw[<-hW3];clear hW3 q1 f2;have d0:=HE3.2.z (j:=0) rfl;have d1:=HE3.2.z (j:=1) rfl;have d2:=HE3.2.z (j:=2) rfl;have d3:=HE3.2.z (j:=3) rfl;have d4:=HE3.2.z (j:=4) rfl;have d5:=HE3.2.z (j:=5) rfl;have d6:=HE3.2.z (j:=6) rfl;have d7:=HE3.2.z (j:=7) rfl;have d8:=HE3.2.z (j:=8) rfl;have d9:=HE3.2.z (j:=9) rfl;have d10:=HE3.2.z (j:=10) rfl;go_wp2_with fail;apply (yF3 HE3.1.U ⟨1,(c:Int),0, !s,n⟩ HL.out).mono;rintro r w2 ⟨rfl,v',hT⟩;have HR:Hid (yZr w eb c v X n s (.returned true) w2):=by refine⟨v',by rw[<-HCt];simp,?_⟩;rw[HY.1,HY.2];exact((EmTo.h HE HE2.2.2).trans HE3.1).trans hT
  exact xE9
theorem OwnX.low{base':Nat}(h:OwnX w O g cap es)(hb:base'<=O):OwnX w base' g cap es:=by
 refine⟨h.1,?_⟩;rcases h.2 with hn|⟨g',cap',cur,hv,h1,rest⟩
 .exact .inl hn
 .exact .inr ⟨g',cap',cur,hv,AO hb h1,rest⟩
def GeC(n:Nat):Prop:=∀(w:Ww)(b o cap:Nat)(xs:List Nd)(t:CT)(s:Bool)(f:Nat),xs.length<=n->xs.length<=200->f+xs.length<=1000->Win w b o cap xs->yA9 xs t->Calls prog 73 #[.slice (some ⟨b,o,none⟩) xs.length cap,s,xi f] w (GeP (t.gen s f) w)
structure GkC(w:Ww)(b o l cap:Nat)(u:CT):Prop where
 J:∀wx,Below w w wx->Calls prog 129 #[.slice (some ⟨b,o,none⟩) l cap] wx λr w'=>r=.returned (xi (u.J:Nat))/\w'=wx
 pass:∀wx,Below w w wx->Calls prog 128 #[.slice (some ⟨b,o,none⟩) l cap] wx (PaP u wx)
 gen:∀(s:Bool)(f:Nat),f+l<=1000->∀wx,Below w w wx->Calls prog 73 #[.slice (some ⟨b,o,none⟩) l cap,s,xi f] wx (GeP (u.gen s f) wx)
 le:u.J<=l
theorem xCd(H:GeC n)(hn:xs.length<=n)(h2:xs.length<=200)(hW:Win w b o cap xs)(hT:yA9 xs t):GkC w b o xs.length cap t:=by refine⟨λwx hx=>?_,yW0 (yS8 _) hn h2 hW hT,λs f hf wx hx=>H wx b o cap xs t s f hn h2 hf (hW.k hx) hT,by rw[<-hT.J];exact yNf xs⟩;rw[<-hT.J];exact yU4 (hW.k hx) h2
variable {W:Ww} {l:Nat} {u:CT}
theorem GkC.pass_in(h:Hid (GkC w b o l cap u))(hW:Below w w W)(wx:Ww)(hx:Below W W wx):Calls prog 128 #[.slice (some ⟨b,o,none⟩) l cap] wx λr w'=>r=.returned u.passes/\Below W W w'/\(∀b o,b<W.heap.size->w'.cell? (xd b o)=W.cell? (xd b o)):=by refine(h.out.pass wx (hW.trans (hx.mono hW.size))).mono ?_;rintro r w' ⟨h1,h2⟩;have k:=hx.trans (h2.mono hx.size);exact⟨h1,k,λb o hlt=>k.cell (p:=(xd b o)) hlt⟩
theorem GkC.ifs_in(h:Hid (GkC w b o l cap u))(hW:Below w w W)(wx:Ww)(hx:Below W W wx):Calls prog 129 #[.slice (some ⟨b,o,none⟩) l cap] wx λr w'=>r=.returned (xi (u.J:Nat))/\w'=wx:=
 h.out.J wx (hW.trans (hx.mono hW.size))
def GenI(X:List Ix)(W:Ww)(r:AK)(w':Ww):Prop:=∃g cp n,r=.returned (xg g n cp)/\Hid (n=X.length/\OwnX w' W g cp X)/\Below W W w'
theorem GkC.gen_in(h:Hid (GkC w b o l cap u))(hW:Below w w W)(s:Bool)(f:Nat)(z:Int)(hz:z=(f:Int))(hf:f+l<=1000)(wx:Ww)(hx:Below W W wx):Calls prog 73 #[.slice (some ⟨b,o,none⟩) l cap,s,xi z] wx (GenI (u.gen s f) W):=by subst hz;refine(h.out.gen s f hf wx (hW.trans (hx.mono hW.size))).mono ?_;rintro r w' ⟨g,cp,h1,h2,h3⟩;exact⟨g,cp,_,h1,⟨rfl,OwnX.low h2 hx.size⟩,hx.trans (h3.mono hx.size)⟩
abbrev ptrV(p:Nat):Vv:=(xp p)
abbrev xIk(n:Nd)(v:Vv)(k:Int):List Vv:= [.int .i64 n.f,.string n.s,.bool n.hi,.string n.t,.int .u64 n.lo,.int .u64 n.up,.int .i64 n.n,v,.int .i64 k]
def BoxT(w:Ww)(O p:Nat)(n:Nd)(v:Vv)(k:Int):Prop:=yA w O 149 9 p (xIk n v k)
def PRow(w:Ww)(O q cq:Nat)(ps:List Nat):Prop:=w.ownsRow O 71 1 (xg q ps.length cq) ps.length (ps.map ptrV)
def TrAt(w:Ww):CT->Nat->Nat->Nat->Option Nat->Prop
 | .leaf n,lo,hi,p,_=>yAl n.f=0/\∃v k,BoxT w lo p n v k/\p<hi
 | .chain n a b,lo,hi,p,f=>n.f=14/\∃m m2 pa pb q cq k,TrAt w a lo m pa f/\TrAt w b m m2 pb (f.map (· +a.J))/\lo<=m/\m<=m2/\BoxT w m2 p n (xg q 2 cq) k/\PRow w m2 q cq [pa,pb]/\p<hi/\q<hi
 | .inter n a b,lo,hi,p,f=>n.f=15/\∃m m2 pa pb q cq k,TrAt w a lo m pa f/\TrAt w b m m2 pb (f.map (· +a.J))/\lo<=m/\m<=m2/\BoxT w m2 p n (xg q 2 cq) k/\PRow w m2 q cq [pa,pb]/\p<hi/\q<hi
 | .cond n a b c,lo,hi,p,f=>n.f=16/\∃m m2 m3 pa pb pc q cq k,TrAt w a lo m pa f/\TrAt w b m m2 pb (f.map (· +a.J+1))/\TrAt w c m2 m3 pc (f.map (· +a.J+1+b.J))/\lo<=m/\m<=m2/\m2<=m3/\BoxT w m3 p n (xg q 3 cq) k/\PRow w m3 q cq [pa,pb,pc]/\p<hi/\q<hi/\∀f0,f=some f0->k=((f0+a.J:Nat):Int)
variable {q cq:Nat} {ps:List Nat}
theorem PRow.i(h:PRow w O q cq ps)(hc:Chg S w w')(hn:¬S q):PRow w' O q cq ps:=yAg h hc (λk hk=>by simp[Value.ownBlock]at hk;subst hk;exact hn)
theorem PRow.lt(h:PRow w O q cq ps):O<=q/\q<w.heap.size:=World.ownsRow.lt h q rfl
variable {p:Nat}
theorem PRow.z(h:PRow w O q cq ps)(hj:ps[j]?=some p):(xk w q j (ptrV p):Prop):=by have hl:=qf hj;rw[World.ownsRow.cellAt h j qo,AQ,hj];rfl
theorem PRow.caps(h:PRow w O q cq ps):ps.length<=cq/\cq<=maxLen:=by exact yL7
theorem TrAt.i(hc:Chg S w w'):∀{t:CT}{lo hi p:Nat}{f:Option Nat},TrAt w t lo hi p f->(∀b,lo<=b->b<hi->¬S b)->TrAt w' t lo hi p f:=by
 intro t;induction t with
 |leaf n=>intro lo hi p f h hS;obtain⟨h0,v,k,hb,hp⟩:=h;exact⟨h0,v,k,hb.i hc (hS p hb.lt.1 hp),hp⟩
 |chain n a b ha hb'|inter n a b ha hb'=>
  intro lo hi p f h hS;obtain⟨h0,m,m2,pa,pb,q,cq,k,h1,h2,l1,l2,hb,hr,hp,hq⟩:=h;have:=hb.lt;have:=hr.lt;exact⟨h0,m,m2,pa,pb,q,cq,k,ha h1 (λb h3 h4=>hS b h3 qo),hb' h2 (λb h3 h4=>hS b qo qo),l1,l2,hb.i hc (hS p qo hp),hr.i hc (hS q qo hq),hp,hq⟩
 |cond n a b c ha hb' hc'=>
  intro lo hi p f h hS;obtain⟨h0,m,m2,m3,pa,pb,pc,q,cq,k,h1,h2,h3,l1,l2,l3,hb,hr,hp,hq,hk⟩:=h;have:=hb.lt;have:=hr.lt;exact⟨h0,m,m2,m3,pa,pb,pc,q,cq,k,ha h1 (λb h3 h4=>hS b h3 qo),hb' h2 (λb h3 h4=>hS b qo qo),hc' h3 (λb h3 h4=>hS b qo qo),l1,l2,l3,hb.i hc (hS p qo hp),hr.i hc (hS q qo hq),hp,hq,hk⟩
variable {lo:Nat}
theorem TrAt.k(h:TrAt w t lo hi p f)(hb:Below B w w')(hB:hi<=B)(hs:B<=w.heap.size):TrAt w' t lo hi p f:=
 h.i (S:=λb=>B<=b) ⟨hb.os,hb.tape,hb.output,hb.size,λk hk hn=>hb.block k qo⟩ (λb h1 h2 h3=>qo)
theorem TrAt.high(h:TrAt w t lo hi p f)(hh:hi<=hi'):TrAt w t lo hi' p f:=by
 cases t with
 |leaf n=>obtain⟨h0,v,k,hb,hp⟩:=h;exact⟨h0,v,k,hb,qo⟩
 |chain n a b|inter n a b=>obtain⟨h0,m,m2,pa,pb,q,cq,k,h1,h2,l1,l2,hb,hr,hp,hq⟩:=h;exact⟨h0,m,m2,pa,pb,q,cq,k,h1,h2,l1,l2,hb,hr,qo,qo⟩
 |cond n a b c=>obtain⟨h0,m,m2,m3,pa,pb,pc,q,cq,k,h1,h2,h3,l1,l2,l3,hb,hr,hp,hq,hk⟩:=h;exact⟨h0,m,m2,m3,pa,pb,pc,q,cq,k,h1,h2,h3,l1,l2,l3,hb,hr,qo,qo,hk⟩
def EmP(w:Ww)(eb c:Nat)(v:Vv)(X:List Ix)(t:CT)(s:Bool)(f:Nat)(r:AK)(w':Ww):Prop:=∃v',r=.returned (s || t.passes)/\EmTo w w' eb v v' (X++absG X.length c (t.gen s f)) (c+cntL (t.gen s f))
def EmC(t:CT):Prop:=∀(w:Ww)(lo hi p f eb c:Nat)(v:Vv)(X:List Ix)(s:Bool),TrAt w t lo hi p (some f)->EmAt w eb v X c->hi<=eb->X.length+3*t.size<=50000->c+t.size<=50000->f+t.J<=50000->
 Calls prog 39 #[ptrV p,ptrV eb,s] w (EmP w eb c v X t s f)
theorem ySe{o:Int}(h1:o≠1)(h5:o≠5)(h6:o≠6)(k c:Nat):absG k c [opI o]= [opI o]/\cntL [opI o]=0:=by simp[absG,fixI,opI,cntL,cntI,h1,h5,h6]
structure Lst(w:Ww)(g:Nat)(X:List Ix):Prop where
 U:yBh w g 0 X
 lt:g<w.heap.size
theorem Lst.k{X:List Ix}(h:Lst w g X)(hb:Below w.heap.size w w'):Lst w' g X:=⟨h.U.k hb h.lt,Nat.lt_of_lt_of_le h.lt hb.size⟩
theorem OwnX.P{X:List Ix}(h:OwnX w O g cap X):Lst w g X:=⟨h.at,h.lt.2⟩
inductive LstF(w:Ww):List Vv->List (List Ix)->Prop
 |nil:LstF w [] []
 |cons {g n c:Nat} {X:List Ix} {us:List Vv} {ns:List (List Ix)} (hn:n=X.length) (h:Lst w g X) (r:LstF w us ns):LstF w (.slice (some ⟨g,0,none⟩) n c::us) (X::ns)
variable {us:List Vv} {ns:List (List Ix)}
theorem LstF.length(h:LstF w us ns):us.length=ns.length:=by
 induction h with
 |nil=>rfl
 |cons _ _ _ ih=>simp[ih]
theorem LstF.nth(h:LstF w us ns):∀(j:Nat)(u:Vv)(y:List Ix),us[j]?=some u->ns[j]?=some y->∃b' c,u=.slice (some ⟨b',0,none⟩) y.length c/\Lst w b' y:=by
 induction h with
 |nil=>intro j u y h;simp at h
 |cons hn h _ ih=>
  intro j u y hu hy;cases j with
  |zero=>simp at hu hy;subst hu hy;exact⟨_,_,by rw[hn],h⟩
  |succ j=>simp at hu hy;exact ih j u y hu hy
theorem yNr{X:List Ix}(h:LstF w us ns)(hc:cs=us.toArray)(hX:ns.flatten=X)(hn:n=ns.length)(ht:X.length<=1000000)(hl:ns.length<=1000):
  Calls prog 127 #[.slice (some ⟨w.heap.size,0,none⟩) n cp] (w.alloc (AC cs T)) (GeP X (w.alloc (AC cs T))):=by
 subst hc hX hn;have hb:Below w.heap.size w (w.alloc (AC us.toArray T)):=qB;refine yU5 w.heap.size cp us ns _ (λj u hu=>?_) (by simp) h.length (λj u y hu hy=>?_) ht hl
 .simp[hu]
 .obtain⟨b',c,h1,h2⟩:=h.nth j u y hu hy;have:=h2.k hb;exact⟨b',c,h1,this.U,this.lt⟩
theorem yNb(op:Int)(w:Ww):Calls prog 130 #[.int .i64 op] w λr w'=>∃g cp,r=.returned (.slice (some ⟨g,0,none⟩) 1 cp)/\Hid (Lst w' g [opI op])/\Below w.heap.size w w':=by refine(yU3 op w).mono ?_;rintro r w' ⟨g,cp,h1,h2,h3⟩;exact⟨g,cp,h1,h2.P,h3⟩
theorem emC{a:CT}{w:Ww}{lo m pa f eb:Nat}(Ha:EmC a)(hA:TrAt w a lo m pa (some f))(hm:m<=eb)(hw:eb<=w.heap.size)(hf:f+a.J<=50000){wx:Ww}{v:Vv}{X:List Ix}{c:Nat}(s:Bool)(hx:Below eb w wx)(hE:EmAt wx eb v X c)(h1:X.length+3*a.size<=50000)(h2:c+a.size<=50000):
  Hid (Calls prog 39 #[ptrV pa,ptrV eb,s] wx (EmP wx eb c v X a s f)):=Ha wx lo m pa f eb c v X s (hA.k hx hm hw) hE hm h1 h2 hf
theorem emR{n:Nd}{k:Int}(hb:BoxT w O p n v k)(hr:PRow w O q cq ps)(h:p<eb/\q<eb)(hx:Below eb w wx):xk wx p 7 v/\∀{j u},ps[j]?=some u->(xk wx q j (ptrV u):Prop):=
 ⟨(hx.cell h.1).trans (yA.z hb (j:=7) rfl),λhj=>(hx.cell h.2).trans (hr.z hj)⟩
theorem yVh n (a b:CT) (Ha:EmC a) (Hb:EmC b):EmC (.chain n a b):=by
 intro w lo hi p f eb c v X s hT hE hh hl hc hf;obtain⟨h0,m,m2,pa,pb,q,cq,k,hA,hB,l1,l2,hb,hr,hp,hq⟩:=hT;have hcq:=hr.caps.1;have hcm:=hr.caps.2;have hbl:=yA.lt hb;have hpq:p<eb/\q<eb:=qo
 have hel:=hE.lt;simp only[CT.size]at hl hc;simp only[CT.J]at hf;have hga:=yBp a s f;have hca:=yEt a s f;have HCL:Hid (∀wx,Below eb w wx->(λw':Ww=>xk w' p 7 (xg q 2 cq)/\xk w' q 0 (ptrV pa)/\xk w' q 1 (ptrV pb)) wx):=λwx hx=>have h:=emR hb hr hpq hx;⟨h.1,h.2 rfl,h.2 rfl⟩;have d0:=yA.z hb (j:=0) rfl;have z14:(n.f==14)=true:=by rw[beq_iff_eq];exact h0
 have hdr:=(Below.refl eb w).drew;have HA:=emC Ha hA qo qo qo s hdr (hE.k ((Below.refl _ _).drew)) qo qo;have HB:= @emC b w m m2 pb (f+a.J) eb Hb hB qo qo qo;obtain⟨c0,c1,c2⟩:=HCL.out w (Below.refl _ _);have hSd:=HCL.out _ hdr;clear hA hB hb hr Ha Hb h0 hdr;go_enter func39,ntmps39;go_upto_region 3 with fail;refine yAf 99 (λw':Ww=>xk w' p 7 (xg q 2 cq)/\xk w' q 0 (ptrV pa)/\xk w' q 1 (ptrV pb)) qk ?_;refine ja 0 hSd ?_;iterate 14 refine jb hSd ?_
 refine qO 15 rfl λK hK=>?_;go_simp;go_at_call 39;refine HA.mono ?_;rintro r w1 ⟨v1,rfl,T1⟩;have T1:=(EmTo.h hE ((Below.refl _ _).drew)).trans T1;have b1:=T1.k hE;have HC:=HB (s || a.passes) b1 T1.U (by rw[AA,yAj];omega) qo;refine hK.out _ _ (.inr (HCL.out _ b1)) (jS ?_);clear hK HA HB hga hca;refine qO 16 rfl λK hK=>?_;go_simp;go_at_call 39;refine HC.mono ?_;rintro r w2 ⟨v2,rfl,T2⟩;have HR:Hid (EmP w eb c v X (.chain n a b) s f (.returned (s || a.passes || b.passes)) w2):=by refine⟨v2,by simp only[CT.passes,Bool.or_assoc],?_⟩;have h9:=T1.trans T2;simp only[CT.gen,yCc,yA2];rw[AA,yAj]at h9;rw[<-AD,<-AM];exact h9
 have hS2:=HCL.out _ ((T1.trans T2).k hE);clear T2 T1 HC;refine hK.out _ _ (.inr hS2) (jS ?_);clear hK;refine kO 17 hS2 ?_;refine qD ?_;go_wp2;go_ret;exact HR.out
theorem yU7(a b:CT) n (X:List Ix) (c:Nat) (s:Bool) (f:Nat):
  X++absG X.length c ((CT.inter n a b).gen s f)=((((X++ [opI 2])++absG (X++ [opI 2]).length c (a.gen s f))++ [opI 3])++absG (((X++ [opI 2])++absG (X++ [opI 2]).length c (a.gen s f))++ [opI 3]).length (c+cntL (a.gen s f)) (b.gen s (f+a.J)))++ [opI 4]/\cntL ((CT.inter n a b).gen s f)=cntL (a.gen s f)+cntL (b.gen s (f+a.J)):=by
 have e2:=λk c=>ySe (o:=2) qj qj qj k c;have e3:=λk c=>ySe (o:=3) qj qj qj k c;have e4:=λk c=>ySe (o:=4) qj qj qj k c;have n2:=(e2 0 0).2;have n3:=(e3 0 0).2;have n4:=(e4 0 0).2;refine⟨?_,?_⟩
 .simp only[CT.gen,yCc,(e2 _ _).1,(e3 _ _).1,(e4 _ _).1,AA,AB,yAj,yA2,n2,n3,AI,AP,AD,AM]
 .simp only[CT.gen,yA2,n2,n3,n4];omega
variable {p:Prop}
theorem zEmE(h:p:=by cases sa<;>(simp only[Bool.false_or,Bool.true_or]at HR;go_wp2_with fail;go_ret;exact HR.out)):p:=h
theorem yVg n (a b:CT) (Ha:EmC a) (Hb:EmC b):EmC (.inter n a b):=by
 intro w lo hi p f eb c v X s hT hE hh hl hc hf;obtain⟨h0,m,m2,pa,pb,q,cq,k,hA,hB,l1,l2,hb,hr,hp,hq⟩:=hT;have hcq:=hr.caps.1;have hcm:=hr.caps.2;have hbl:=yA.lt hb;have hel:=hE.lt;simp only[CT.size]at hl hc;simp only[CT.J]at hf;have hga:=yBp a s f;have hca:=yEt a s f;have hgb:=yBp b s (f+a.J);have HCL:=hidO (λwx (hx:Below eb w wx)=>emR hb hr qo hx);have d0:=yA.z hb (j:=0) rfl;have z14:(n.f==14)=false:=by rw[iC];omega
 have z15:(n.f==15)=true:=by rw[beq_iff_eq];exact h0
 have HA:= @emC a w lo m pa f eb Ha hA qo qo qo;have HB:= @emC b w m m2 pb (f+a.J) eb Hb hB qo qo qo;have HL:=hidO (yU7 a b n X c s f);have HQ:Hid (opI 2=⟨2,0,0,false,yA3⟩):=rfl;clear hA hB hb hr Ha Hb h0;go_enter func39,ntmps39;go_wp2_with fail;refine(yF3 hE (opI 2) qo).mono ?_;rintro r w1 ⟨rfl,v1,T1⟩;obtain⟨c0,cj⟩:=HCL.out w1 (T1.k hE);have c1:=cj (j:=0) rfl;have C1:=HA s (T1.k hE) T1.U (by simp;omega) qo;clear d0 cj HA;go_wp2_with fail;refine C1.out.mono ?_;rintro r w2 ⟨v2,rfl,T2⟩;have T2:=T1.trans T2;obtain⟨sa,hsa⟩:∃sa,Hid (sa=(s || a.passes))/\sa=(s || a.passes):=⟨_,rfl,rfl⟩;rw[<-hsa.2];replace hsa:=hsa.1;clear T1 c0 c1 C1;go_wp2_with fail;refine(yF3 T2.U (opI 3) (by simp[yAj];omega)).mono ?_;rintro r w3 ⟨rfl,v3,T3⟩;have T3:=T2.trans T3;obtain⟨c0,cj⟩:=HCL.out w3 (T3.k hE);have c1:=cj (j:=1) rfl;have C2:=HB s (T3.k hE) T3.U (by simp[yAj];omega) qo;clear T2 cj HB;go_wp2_with fail;refine C2.out.mono ?_;rintro r w4 ⟨v4,rfl,T4⟩;have T4:=T3.trans T4;obtain⟨sb,hsb⟩:∃sb,Hid (sb=(s || b.passes))/\sb=(s || b.passes):=⟨_,rfl,rfl⟩;rw[<-hsb.2];replace hsb:=hsb.1;clear T3 c0 c1 C2;go_wp2_with fail;refine(yF3 T4.U (opI 4) (by simp[yAj];omega)).mono ?_;rintro r w5 ⟨rfl,v5,T5⟩;have HR:Hid (EmP w eb c v X (.inter n a b) s f (.returned (sa || sb)) w5):=by refine⟨v5,by rw[hsa.out,hsb.out];simp only[CT.passes];cases s<;>simp,?_⟩;rw[HL.1,HL.2,<-AM];exact T4.trans T5
 clear T5 T4;exact zEmE
variable {rest:List Oper} {o:Oper} {a:Act}
theorem yHl(w:Ww)(hgd:o.guard=none)(s x:AV)
  (ho:o.op=.call {callee:=.builtin .append,args:=#[s,x],argTypes:=#[30,30]})
  (O:Nat) (v:Vv) (b off m cx:Nat) (fs es:List Ix) (hs:a.eval s=v) (hx:a.eval x=.slice (some ⟨b,off,none⟩) m cx) (hm:m=es.length) (hO:RowX w O v fs)
  (hc:yBh w b off es) (hlen:fs.length+es.length<=2^30) (hbase:O<=w.heap.size)
  (h:∀v' w',AppX w w' O v v' fs es->wpList prog ops Q rest (a.put o.dst v') w'):wpList prog ops Q (o::rest) a w:=by
 subst hm;obtain⟨i,hi,hz0,hz1,hz2⟩:=info_parts Tryz.infoX;refine AU w hgd s x 30 ho O 153 i _ 11 104 underlying30 hi hz0 hz1 hz2 rfl (by decide) v fs.length (yB2 fs) hs hO ⟨b,off,none⟩ es.length cx (yB2 es) hx (yD es) (yPa hc) (yX2 es) ?_ ?_ hbase ?_
 .unfold maxLen;omega
 .omega
 .intro v' w' hO' hgr hnil hat;exact h v' w' ⟨by unfold RowX;rw[AA,yHf];exact hO',hgr,hat⟩
variable {bs:List Bk}
theorem yUq(h:∀x∈bs,x.v.oneCell'=true):∀u∈yFo bs,u.oneCell'=true:=by
 intro u hu;obtain⟨p,hp,he⟩:=List.mem_flatMap.1 (show u∈bs.flatMap Bk.two from hu);simp at he;rcases he with rfl|rfl
 .exact h p hp
 .rfl
theorem yHn(w:Ww)(hgd:o.guard=none)(s x:AV)
  (ho:o.op=.call {callee:=.builtin .append,args:=#[s,x],argTypes:=#[29,29]})
  (O:Nat) (v:Vv) (b off m cx:Nat) (fs es:List Bk) (hs:a.eval s=v) (hx:a.eval x=.slice (some ⟨b,off,none⟩) m cx) (hm:m=es.length) (hO:RowB w O v fs)
  (hc:yP9 w b off es) (h1:∀x∈es,x.v.oneCell'=true) (hlen:fs.length+es.length<=2^30) (hbase:O<=w.heap.size)
  (h:∀v' w',AppB w w' O v v' fs es->wpList prog ops Q rest (a.put o.dst v') w'):wpList prog ops Q (o::rest) a w:=by
 subst hm;obtain⟨i,hi,hz0,hz1,hz2⟩:=info_parts Tryz.infoB;refine AU w hgd s x 29 ho O 32 i _ 2 32 underlying29 hi hz0 hz1 hz2 rfl (by decide) v fs.length (yFo fs) hs hO ⟨b,off,none⟩ es.length cx (yFo es) hx (yG8 es) (λj u h=>by rw[Addr.add_mid];exact (xCn hc h1).1 j u h) (yUq h1) ?_ ?_ hbase ?_
 .unfold maxLen;omega
 .omega
 .intro v' w' hO' hgr hnil hat;exact h v' w' ⟨by unfold RowB;rw[AA,yHg];exact hO',hgr,hat,hnil⟩
theorem zJe (h:p:=by
 refine ja 9 hS3 ?_;refine qO 14 rfl λK hK=>?_;go_simp;go_at_call 129;refine(GkC.ifs_in HC1 k2 _ hS3.2.2).mono ?_;rintro r v4 ⟨rfl,hv4⟩;rw[hv4];clear hv4;refine hK.out _ _ (.inr hS3) ?_;clear hK;refine jS ?_;refine ja 15 hS3 ?_;refine qO 16 rfl λK hK=>?_;go_simp;go_at_call 73;refine(GkC.gen_in HC2 k2 _ (f+x.J) _ HWr.out hf2 _ hS3.2.2).mono ?_;rintro r v5 ⟨g3,p3,n3,rfl,HO3,hbb3⟩;have hS5:=SWm hS3 v5 <|⟨by rw[hbb3.cell (p:=(xd kg 0)) hkw];exact r0,by rw[hbb3.cell (p:=(xd kg 1)) hkw];exact r1,hbb3⟩;refine hK.out _ _ (.inr hS5) ?_;clear hK;refine jS ?_;refine qO 17 rfl λK hK=>?_;exact zzV1):p:=h
theorem zJz(h:p:=by clear HC;rintro r w8 ⟨g8,p8,rfl,hO8,hb8⟩;have H8:=qH2 hO8 hb8;clear hO8 hb8;go_wp2_with fail;go_ret;exact⟨g8,p8,rfl,H8.1.low k7.size,k7.trans (H8.2.mono k7.size)⟩):p:=h
theorem xHs(H:GeC n):GeC (n+1):=by
 intro w b o cap xs t s f hn hn2 hf hW hT;obtain⟨ks,e,rfl,hK,hal,hIs⟩:=hT.knd;simp only[AA,AB]at hn hn2 hf;obtain⟨m,hm⟩:=qE ks.flatten.length;have HT:Hid (∀wx,Below w w wx->Calls prog 91 #[xy b o (m+1) cap] wx λr w'=>r=.returned (xi e.f)/\w'=wx):=λwx hx=>by rw[hm];exact yD8 (hW.k hx)
 obtain⟨a3,ha3⟩:=qE ks.length;have HKs:Hid (Calls prog 92 #[xy b o (m+1) cap] w λr w'=>∃g cp,r=.returned (xg g a3 cp)/\OwnV w' w g cp (yFg b o cap ks)/\Below w w w'):=by rw[ha3,hm];exact yEq hW hal hIs
 have HN:Hid (∀{j:Nat}{k:List Nd}{u:CT},ks[j]?=some k->yA9 k u->∃o' cap',(yFg b o cap ks)[j]?=some (.slice (some ⟨b,o',none⟩) k.length cap')/\GkC w b o' k.length cap' u):=by intro j k u hk hu;obtain⟨o',cap',hv,hWk⟩:=yFf hW hk;have hkl:=yEp (AG hk);exact⟨o',cap',hv,xCd H qo qo hWk hu⟩
 have HW:=qH1 hW;rw[AA,AB,<-hm];rw[<-hm]at hf;have hcap:=hW.cap;have hcl:m+1<=cap:=by have:=hW.X;rw[AA,AB]at this;omega
 have HM:=qH2 ha3 hm;have HSz:Hid (t.size<=200):=by show _<=_;rw[hT.size,AA,AB];omega
 clear hW hT hIs H hal hn hn2 hm ha3;go_enter func73,ntmps73;go_wp2_with fail;refine HKs.mono ?_;rintro r w1 ⟨kg,kc1,rfl,hO,hb1⟩;have s1:=hb1.size;have HO:=qH1 hO;have hkc:=hO.caps;rw[yE,<-HM.1]at hkc;have hkl:=hO.lt;clear hO HKs;go_wp2_with fail;refine(HT.out w1 hb1).mono ?_;rintro r w1' ⟨rfl,hw1⟩;rw[hw1];clear hw1 HT;cases hK with
 |leaf _ hk=>
  have z14:(e.f==14)=false:=by rw[iC];exact λq=>by rw[q]at hk;simp[yAl]at hk
  have z15:(e.f==15)=false:=by rw[iC];exact λq=>by rw[q]at hk;simp[yAl]at hk
  have z16:(e.f==16)=false:=by rw[iC];exact λq=>by rw[q]at hk;simp[yAl]at hk
  obtain rfl:a3=0:=HM.1;obtain rfl:m=0:=HM.2;obtain⟨d0,d1,d2,d3,d4,d5,d6⟩:=((HW.k hb1).U) 0 e rfl;simp only[Nat.zero_mul,AP]at d0 d1 d2 d3 d4 d5 d6
  clear hk;go_wp2_with fail;go_ret;exact⟨w1,1,rfl,OwnX.low (yFw w1 ⟨1,0,0, !s,e⟩) s1,hb1.alloc s1 _⟩
 | @chain _ x y ka kb h hx hy=>?ch
 | @inter _ x y ka kb h hx hy=>?it
 | @cond _ x y z ka kb kc h hx hy hz=>?cd
 case' ch=>
  have z14:(e.f==14)=true:=by rw[beq_iff_eq];exact h
  obtain rfl:a3=2:=HM.1
 case' it=>
  have z14:(e.f==14)=false:=by rw[iC];omega
  have z15:(e.f==15)=true:=by rw[beq_iff_eq];exact h
  obtain rfl:a3=2:=HM.1
 case' cd=>
  have z14:(e.f==14)=false:=by rw[iC];omega
  have z15:(e.f==15)=false:=by rw[iC];omega
  have z16:(e.f==16)=true:=by rw[beq_iff_eq];exact h
  obtain rfl:a3=3:=HM.1
  obtain⟨o3,c3,hv3,hc3⟩:=HN.out (j:=2) rfl hz;have q2:=HO.z hv3;have hm3:m=ka.length+kb.length+kc.length:=by rw[HM.2];simp;omega
  clear hv3
 all_goals
  obtain⟨o1,c1,hv1,hc1⟩:=HN.out (j:=0) rfl hx;obtain⟨o2,c2,hv2,hc2⟩:=HN.out (j:=1) rfl hy;have q0:=HO.z hv1;have q1:=HO.z hv2;have hm2:ka.length+kb.length<=m:=by rw[HM.2];simp<;>omega
  obtain⟨l1,hl1⟩:=qE ka.length;obtain⟨l2,hl2⟩:=qE kb.length;rw[<-hl1]at q0 hc1 hm2;rw[<-hl2]at q1 hc2 hm2;have HC1:=qH1 hc1;have HC2:=qH1 hc2;have hi1:=hc1.le;have hi2:=hc2.le;have hf1:f+l1<=1000:=qo
  have hf2:f+x.J+l2<=1000:=qo
  clear hc1 hc2 hv1 hv2 hx hy
 .obtain⟨l3,hl3⟩:=qE kc.length;rw[<-hl1,<-hl2,<-hl3]at hm3;rw[<-hl3]at q2 hc3;have HC3:=qH1 hc3;obtain⟨Kn,hK⟩:=qE (f+x.J);have HF:Hid (Kn=f+x.J/\Kn+1+l2<=1000/\Kn+1+y.J+l3<=1000):=⟨hK,qo,qo⟩;have hKb:Kn<=1000:=qo
  have hyb:y.J<=1000:=qo
  have hWk:IntKind.i64.wrap ((f:Int)+(x.J:Int))=(Kn:Int):=by rw[AE];omega
  clear hc3 hl1 hl2 hl3 hm2 hm3 hz hK;go_wp2_with fail;refine(HC1.J w1 hb1).mono ?_;rintro r w1'' ⟨rfl,hw1⟩;rw[hw1];clear hw1;go_wp2_with fail;refine(GkC.gen_in HC2 hb1 s (Kn+1) _ qo HF.2.1 w1 (Below.refl _ _)).mono ?_;rintro r w2 ⟨g2,p2,n2,rfl,HO2,hb2⟩;have s2:=hb2.size;have k2:Below w w w2:=hb1.trans (hb2.mono s1);have r1:(xk w2 kg 1 (xy b o2 l2 c2):Prop):=by rw[hb2.cell (p:=(xd kg 1)) hkl.2];exact q1
  have r2:(xk w2 kg 2 (xy b o3 l3 c3):Prop):=by rw[hb2.cell (p:=(xd kg 2)) hkl.2];exact q2
  have L2:=qH2 HO2.2.P HO2.1;have hnb:n2<=1000:=by have h1:=yBp y s (Kn+1);have h2:=L2.out.2;have h3:=HSz.out;simp only[CT.size]at h3;omega
  clear HO2 q0 q1 q2 hWk;go_upto_region 14 with fail;go_cut[14] (λv wx=>∃g3 p3 n3,v=(xg g3 n3 p3)/\Hid (n3=(z.gen s (Kn+1+y.J)).length/\OwnX wx w2 g3 p3 (z.gen s (Kn+1+y.J)))/\Below w2 w2 wx);case first=>
   have hkw:kg<w2.heap.size:=qo
   have HWr:Hid (IntKind.i64.wrap (IntKind.i64.wrap ((Kn:Int)+1)+(y.J:Int))=((Kn+1+y.J:Nat):Int)):=by show _=_;rw[show IntKind.i64.wrap ((Kn:Int)+1)=(Kn:Int)+1 by rw[AE];omega,AE];omega
   have hSd:SW (λw':Ww=>xk w' kg 1 (xy b o2 l2 c2)/\xk w' kg 2 (xy b o3 l3 c3)/\Below w2 w2 w') w2.drew:=⟨r1,r2,(Below.refl _ _).drew⟩;refine wpR 99 hSd ?_;refine ja 0 hSd ?_;iterate 8 refine jb hSd ?_
   refine qO 9 rfl λK hK=>?_;go_simp;go_at_call 129;refine(GkC.ifs_in HC2 k2 _ hSd.2.2).mono ?_;rintro r v4 ⟨rfl,hv4⟩;rw[hv4];clear hv4;refine hK.out _ _ (.inr hSd) ?_;clear hK;refine jS ?_;refine ja 10 hSd ?_;refine qO 11 rfl λK hK=>?_;go_simp;go_at_call 73;refine(GkC.gen_in HC3 k2 s (Kn+1+y.J) _ HWr.out HF.2.2 _ hSd.2.2).mono ?_;rintro r v5 ⟨g3,p3,n3,rfl,HO3,hbb3⟩;have hS5:=SWm hSd v5 <|⟨by rw[hbb3.cell (p:=(xd kg 1)) hkw];exact r1,by rw[hbb3.cell (p:=(xd kg 2)) hkw];exact r2,hbb3⟩;refine hK.out _ _ (.inr hS5) ?_;clear hK;refine jS ?_;refine qO 12 rfl λK hK=>?_;exact zzV1
  case rest=>
  obtain⟨g3,p3,n3,rfl,HO3',hb3⟩:=hcut;obtain⟨w3,hw3⟩:=qW wc;subst hw3;have s3:=hb3.size;have k3:Below w w w3:=k2.trans (hb3.mono k2.size);have L3:=qH4 (L2.out.1.k hb3) L2.out.2 HO3'.2.P HO3'.1;have hnc:n3<=1000:=by have h1:=yBp z s (Kn+1+y.J);have h2:=L3.out.2.2.2;have h3:=HSz.out;simp only[CT.size]at h3;omega
  clear r1 r2 HO3' L2;obtain⟨w4,hw4⟩:=qW (xw w3 #[xi 5,xi Kn,xi ((n2:Int)+2),false,xi 0,xe,false,xe,xu 0,xu 0,xi 0] 153);have hb4:=qN hw4
  have k4:Below w w w4:=k3.trans (hb4.mono k3.size);have L4:Hid (Lst w4 w3 [⟨5,(Kn:Int),(n2:Int)+2,false,yA3⟩]):=by rw[hw4];exact(yFw w3 ⟨5,(Kn:Int),(n2:Int)+2,false,yA3⟩).P
  obtain⟨a4,ha4⟩:=qE w3;obtain⟨w5,hw5⟩:=qW (xw w4 #[xi 6,xi 0,xi ((n3:Int)+1),false,xi 0,xe,false,xe,xu 0,xu 0,xi 0] 153);have hb5:=qN hw5
  have k5:Below w w w5:=k4.trans (hb5.mono k4.size);have L5:Hid (Lst w5 w4 [⟨6,0,(n3:Int)+1,false,yA3⟩]):=by rw[hw5];exact(yFw w4 ⟨6,0,(n3:Int)+1,false,yA3⟩).P
  rw[<-ha4]at L4;obtain⟨a5,ha5⟩:=qE w4;rw[<-ha5]at L5;obtain⟨W6,hW6⟩:=qW (xw w5 #[xg a4 1 1,xg g2 n2 p2,xg a5 1 1,xg g3 n3 p3] 30);have k7:Below w w W6:=by rw[hW6];exact k5.trans (qB.mono k5.size)
  have HC:Hid (Calls prog 127 #[xg w5 4 4] W6 (GeP (CT.gen (.cond e x y z) s f) W6)):=by
   rw[hW6];have hF:=HF.1;refine yNr (ns:= [[⟨5,(Kn:Int),(n2:Int)+2,false,yA3⟩],y.gen s (Kn+1),[⟨6,0,(n3:Int)+1,false,yA3⟩],z.gen s (Kn+1+y.J)]) (.cons rfl (L4.out.k hb5) (.cons L3.out.2.1 ((L3.out.1.k hb4).k hb5) (.cons rfl L5.out (.cons L3.out.2.2.2 ((L3.out.2.2.1.k hb4).k hb5) .nil)))) rfl ?_ rfl ?_ (by simp)
   .rw[L3.out.2.1,L3.out.2.2.2,hF];simp[CT.gen]
   .exact qv (yBp (.cond e x y z) s f) HSz.out
  go_upto_region 16 with fail;rw[<-hw4,<-ha4];clear hw4 ha4;go_upto_region 17 with fail;rw[<-hw5,<-ha5];clear hw5 ha5;go_wp2_with fail;rw[<-hW6];clear hW6;refine HC.mono ?_;exact zJz
 all_goals
  clear hl1 hl2 hm2;go_wp2_with fail;refine(HC1.gen s f hf1 w1 hb1).mono ?_;rintro r w2 ⟨g2,p2,rfl,hO2,hb2⟩;have s2:=hb2.size;have k2:Below w w w2:=hb1.trans (hb2.mono s1);have HO2:=qH1 hO2.P;have r0:(xk w2 kg 0 (xy b o1 l1 c1):Prop):=by rw[hb2.cell (p:=(xd kg 0)) hkl.2];exact q0
  have r1:(xk w2 kg 1 (xy b o2 l2 c2):Prop):=by rw[hb2.cell (p:=(xd kg 1)) hkl.2];exact q1
  obtain⟨n2,hn2⟩:=qE ((x.gen s f).length);rw[<-hn2];have HN2:=qH1 hn2;have hkw:kg<w2.heap.size:=qo
  have HWr:Hid (IntKind.i64.wrap ((f:Int)+(x.J:Int))=((f+x.J:Nat):Int)):=by show _=_;rw[AE];omega
  clear hO2 hn2 q0 q1
 .go_upto_region 9 with fail;go_cut[11] (λv wx=>∃g3 p3 n3,v=(xg g3 n3 p3)/\Hid (n3=(y.gen s (f+x.J)).length/\OwnX wx w2 g3 p3 (y.gen s (f+x.J)))/\Below w2 w2 wx);case first=>
   have hSd:SW (λw':Ww=>xk w' kg 0 (xy b o1 l1 c1)/\xk w' kg 1 (xy b o2 l2 c2)/\Below w2 w2 w') w2.drew:=⟨r0,r1,(Below.refl _ _).drew⟩;refine wpR 99 hSd ?_;refine ja 0 hSd ?_;iterate 7 refine jb hSd ?_
   refine qO 8 rfl λK hK=>?_;go_simp;go_at_call 129;refine(GkC.ifs_in HC1 k2 _ hSd.2.2).mono ?_;rintro r v4 ⟨rfl,hv4⟩;rw[hv4];clear hv4;refine hK.out _ _ (.inr hSd) ?_;clear hK;refine jS ?_;refine ja 9 hSd ?_;refine qO 10 rfl λK hK=>?_;go_simp;go_at_call 73;refine(GkC.gen_in HC2 k2 s (f+x.J) _ HWr.out hf2 _ hSd.2.2).mono ?_;rintro r v5 ⟨g3,p3,n3,rfl,HO3,hbb3⟩;have hS5:=SWm hSd v5 <|⟨by rw[hbb3.cell (p:=(xd kg 0)) hkw];exact r0,by rw[hbb3.cell (p:=(xd kg 1)) hkw];exact r1,hbb3⟩;refine hK.out _ _ (.inr hS5) ?_;clear hK;refine jS ?_;refine qO 11 rfl λK hK=>?_;exact zzV1
  case rest=>
  obtain⟨g3,p3,n3,rfl,HO3',hb3⟩:=hcut;obtain⟨w3,hw3⟩:=qW wc;subst hw3;have k3:Below w w w3:=k2.trans (hb3.mono k2.size);have L3:=qH3 (HO2.out.k hb3) HO3'.2.P HO3'.1;clear r0 r1 HO3' HO2;go_wp2_with fail;refine(yNb 2 w3).mono ?_;rintro r w4 ⟨g4,p4,rfl,hL4,hb4⟩;have k4:Below w w w4:=k3.trans (hb4.mono k3.size);go_wp2_with fail;refine(yNb 3 w4).mono ?_;rintro r w5 ⟨g5,p5,rfl,hL5,hb5⟩;have k5:Below w w w5:=k4.trans (hb5.mono k4.size);go_wp2_with fail;refine(yNb 4 w5).mono ?_;rintro r w6 ⟨g6,p6,rfl,hL6,hb6⟩;have k6:Below w w w6:=k5.trans (hb6.mono k5.size);obtain⟨W7,hW7⟩:=qW (xw w6 #[xg g4 1 p4,xg g2 n2 p2,xg g5 1 p5,xg g3 n3 p3,xg g6 1 p6] 30);have k7:Below w w W7:=by rw[hW7];exact k6.trans (qB.mono k6.size)
  have HC:Hid (Calls prog 127 #[xg w6 5 5] W7 (GeP (CT.gen (.inter e x y) s f) W7)):=by rw[hW7];exact yNr (ns:= [[opI 2],x.gen s f,[opI 3],y.gen s (f+x.J),[opI 4]]) (.cons rfl ((hL4.out.k hb5).k hb6) (.cons HN2.out (((L3.out.1.k hb4).k hb5).k hb6) (.cons rfl (hL5.out.k hb6) (.cons L3.out.2.2 (((L3.out.2.1.k hb4).k hb5).k hb6) (.cons rfl hL6.out .nil))))) rfl (by simp[CT.gen]) rfl (qv (yBp (.inter e x y) s f) HSz.out) (by simp)
  go_wp2_with fail;rw[<-hW7];clear hW7;refine HC.mono ?_;exact zJz
 .go_upto_region 5 with fail;go_cut[9] (λv wx=>∃g3 p3 n3,v=(xg g3 n3 p3)/\Hid (n3=(y.gen (s || x.passes) (f+x.J)).length/\OwnX wx w2 g3 p3 (y.gen (s || x.passes) (f+x.J)))/\Below w2 w2 wx);case first=>
   have hSd:SW (λw':Ww=>xk w' kg 0 (xy b o1 l1 c1)/\xk w' kg 1 (xy b o2 l2 c2)/\Below w2 w2 w') w2.drew:=⟨r0,r1,(Below.refl _ _).drew⟩;cases s
   all_goals
    refine wpR 99 hSd ?_;refine ja 0 hSd ?_;iterate 7 refine jb hSd ?_
    refine ja 10 hSd ?_;iterate 3 refine jb hSd ?_
    refine qO 8 rfl λK hK=>?_;go_simp
   .go_at_call 128;refine(GkC.pass_in HC1 k2 _ hSd.2.2).mono ?_;rintro r v3 ⟨rfl,hv3,hc3⟩;have hS3:=SWm hSd v3 <|⟨by rw[hc3 kg 0 hkw];exact r0,by rw[hc3 kg 1 hkw];exact r1,hv3⟩;clear hc3;refine hK.out _ _ (.inr hS3) ?_;clear hK;refine jS ?_;exact zJe
   .have hS3:=hSd;refine hK.out _ _ (.inr hSd) ?_;clear hK;refine jS ?_;exact zJe
  case rest=>
  obtain⟨g3,p3,n3,rfl,HO3',hb3⟩:=hcut;obtain⟨w3,hw3⟩:=qW wc;subst hw3;have k3:=k2.trans (hb3.mono k2.size);have L3:=qH3 (HO2.out.k hb3) HO3'.2.P HO3'.1;clear r0 r1 HO3' HO2;obtain⟨W4,hW4⟩:=qW (xw w3 #[xg g2 n2 p2,xg g3 n3 p3] 30);have k7:Below w w W4:=by rw[hW4];exact k3.trans (qB.mono k3.size)
  have HC:Hid (Calls prog 127 #[xg w3 2 2] W4 (GeP (CT.gen (.chain e x y) s f) W4)):=by rw[hW4];exact yNr (ns:= [x.gen s f,y.gen (s || x.passes) (f+x.J)]) (.cons HN2.out L3.out.1 (.cons L3.out.2.2 L3.out.2.1 .nil)) rfl (by simp[CT.gen]) rfl (qv (yBp (.chain e x y) s f) HSz.out) (by simp)
  go_wp2_with fail;rw[<-hW4];clear hW4;refine HC.mono ?_;exact zJz
theorem yRu:∀n,GeC n
 |0=>λw b o cap xs t s f hn _ _ _ hT=>by have:=hT.part;cases this<;>simp at hn
 |n+1=>xHs (yRu n)
theorem yLq(op:Int)(w:Ww):Calls prog 114 #[xi op] w λr w'=>r=.returned (op==5 || op==6)/\w'=w:=by
 go_enter func114,ntmps114;go_wp2_with fail;all_goals go_ret
 all_goals simp_all
variable {x:Ix}
theorem yYz{X:List Ix}{k:Nat}(h:X[k]?=some x):cntL (X.take (k+1))=cntL (X.take k)+cntI x:=by rw[AR,h,yA2];simp[cntL]
theorem yZn{X:List Ix}{k:Nat}(h:X[k]?=some x):absG 0 0 (X.take (k+1))=absG 0 0 (X.take k)++ [fixI k (cntL (X.take k)) x]:=by have hk:=qf h;rw[AR,h,yCc,Option.toList_some];simp only[absG,AI];rw[List.length_take,Nat.min_eq_left (Nat.le_of_lt hk)]
theorem xEt(X:List Ix):cntL X<=X.length:=by
 induction X with
 |nil=>simp[cntL]
 |cons x r ih=>simp only[cntL,cntI,AS];split<;>omega
structure BlJ(w:Ww)(X:List Ix)(k:Nat)(v:Vv)(c:Nat)(wr:Ww):Prop where
 res:yA wr w 32 2 w [xh,xi 0]
 A:yA wr (w+1) 32 2 (w+1) [v,xi c]
 j:RowX wr (w+2) v (absG 0 0 (X.take k))
 k:Below w w wr
variable {wr:Ww}
theorem BlJ.K{X:List Ix}{k:Nat}(h:BlJ w X k v c wr)(hb:Below wr wr wr'):BlJ w X k v c wr':=
 ⟨h.res.k hb,h.A.k hb,h.j.k hb,h.k.trans (hb.mono h.k.size)⟩
theorem BlJ.count{X:List Ix}{k:Nat}(h:BlJ w X k v c wr)(c':Nat):BlJ w X k v c' (xt wr (w+1) 1 (xi c')):=by
 refine⟨h.res.Q qo _ _,?_,?_,yAc h.k qo _ _⟩
 .have:=h.A.set 1 (xi c');simpa using this
 .exact h.j.i (Chg.D (S:=λb=>b=w.heap.size+1) _ _ _ _ rfl) (λj hj q=>by have:=(h.j.blk hj).1;omega)
variable {w1:Ww}
theorem BlJ.next{X:List Ix}{k:Nat}(h:BlJ w X k v c' wr)(hx:X[k]?=some x)(hA:AppX wr w1 (w+2) v v' (absG 0 0 (X.take k)) [fixI k c x])(hc:c=cntL (X.take k)):
  BlJ w X (k+1) v' c' (xt w1 (w+1) 0 v'):=by
 have s0:=h.A.lt;have hch:=Chg.M hA.grown (λj hj=>(h.j.blk hj).1);have hr1:=h.res.i hch qo;have hbx:=h.A.i hch qo;have ne1:¬w.heap.size=w.heap.size+1:=qo
 refine⟨hr1.Q ne1 _ _,?_,?_,?_⟩
 .have:=hbx.set 0 v';simpa using this
 .have hset:Chg (λb=>b=w.heap.size+1) w1 (xt w1 (w+1) 0 v'):=Chg.D _ _ _ _ rfl;rw[yZn hx,<-hc];exact hA.Z.i hset (λj hj q=>by have:=(hA.Z.blk hj).1;omega)
 .have hb1:=Chg.k h.k hch (h.k.size) (λj hj=>by omega);exact yAc hb1 qo _ _
def BlP(X:List Ix)(w:Ww)(r:AK)(w':Ww):Prop:=∃v,r=.returned (.agg #[v,xi (cntL X:Nat)])/\RowX w' (w+2) v (absG 0 0 X)/\Below w w w'
theorem zzL0 (h:p:=by
 obtain⟨y,HY,HB,ho⟩:=HY.out;rw[<-ho]at n1;clear ho;have HY:=qH1 HY;obtain⟨d0,d1,d2,d3,d4,d5,d6,d7,d8,d9,d10⟩:=HB.c11;have q0:=HBn.A.z (j:=0) rfl;have HA:=qH2 (HBn.K (qB (o:=.cells #[xi y.op,xi y.a,xi y.b,y.free,xi y.leaf.f,y.leaf.s,y.leaf.hi,y.leaf.t,xu y.leaf.lo,xu y.leaf.up,xi y.leaf.n] 153))) (yFw Wn y).P;have HL:=qH2 (by rw[yAj,List.length_take];have:=HX.2.1;omega:(absG 0 0 (X.take k)).length+1<=2^30) (by have:=HBn.A.lt;omega:w.heap.size+2<=Wn.heap.size+1);clear HB;go_wp2_with (at_builtin;refine yHl _ rfl _ _ rfl (w+2) v Wn 0 1 1 (absG 0 0 (X.take k)) [y] rfl rfl rfl HA.1.j HA.2.U HL.1 (by simp;have:=HL.2;omega) ?_);intro v' w9 hA9;obtain⟨a',c9,hv9⟩:=hA9.Z.slice;obtain⟨n9,hn9⟩:=qE ((absG 0 0 (X.take k)++ [y]).length);rw[<-hn9]at hv9;clear hn9;subst hv9;have HJ9:=qH1 (HA.1.next Hx.out (by rw[HY.out];exact hA9) HC.out);have hch9:=HA.1.A.i (Chg.M (S:=λb=>w.heap.size+2<=b) hA9.grown (λj hj=>(HA.1.j.blk hj).1)) qo;have r0:=hch9.z (j:=0) rfl;have z0:=hch9.frozen 0;clear hA9 hch9 HA q0 d0 d1 d2 d3 d4 d5 d6 d7 d8 d9 d10;go_wp2_with fail;go_roundw;case rel=>exact⟨k+1,_,_,qo,by have:=xEt (X.take (k+1));rw[<-HCn.out,List.length_take]at this;omega,by go_num,HCn.out,HJ9.out⟩
 case measure=>simp[intOf];omega):p:=h
theorem yId{X:List Ix}(hX:Lst w b X)(hl:X.length<=10000)(hB:∀x∈X,0<=x.b/\x.b<=100000)(hn:n=X.length):Calls prog 72 #[xg b n cap] w (BlP X w):=by
 have HX:=qH3 hX hn.symm hB;have hnl:n<=10000:=qo
 clear hX hB hn hl;obtain⟨W1,hW1⟩:=qE ((xw (w.alloc (AC #[xh,xi 0] 32)) #[xh,xi 0] 32):Ww);have HJ1:Hid (BlJ w X 0 xh 0 W1):=by
  have z1:(w.alloc (AC #[xh,xi 0] 32)).heap.size=w.heap.size+1:=by simp
  have hb2:=yAa (xw w #[xh,xi 0] 32) (O:=w.heap.size+1) (t:=32) (sz:=2) #[.slice none 0 0,.int .i64 0] (by rw[z1];exact AF _) rfl;rw[z1]at hb2;rw[hW1];refine⟨(yAa w #[.slice none 0 0,.int .i64 0] (AF _) rfl).k (qB),hb2,yMr _ _,(qB).alloc (by simp) _⟩
 go_enter func72,ntmps72;go_upto_region 2 with fail;rw[<-hW1];clear hW1;go_wp2_with fail;go_loopw[4] (λiv wr=>∃(k c:Nat)(v:Vv),k<=n/\c<=10000/\iv=.int .i64 k/\Hid (c=cntL (X.take k))/\Hid (BlJ w X k v c wr)) (λiv _=>n-(intOf iv).toNat);case atStart=>exact⟨0,0,_,AX _,AX _,rfl,rfl,HJ1.out⟩
 case round=>
  obtain⟨k,c,v,hk,hc,rfl,HC,HJ⟩:=hrel;by_cases hlt:k<n
  .have zk:(k:Int)<(n:Int):=qo
   obtain⟨x,hx⟩:∃x,X[k]?=some x:=⟨_,List.getElem?_eq_getElem (by have:=HX.2.1;omega)⟩;have hbr:=HJ.k;obtain⟨d0,d1,d2,d3,d4,d5,d6,d7,d8,d9,d10⟩:=(HX.1.k hbr).U k x hx;simp only[AI]at d0 d1 d2 d3 d4 d5 d6 d7 d8 d9 d10;have hxb:=HX.2.2 x (AG hx);have Hx:=qH1 hx;obtain⟨Wn,hWn⟩:=qE (xw wr #[xi x.op,xi x.a,xi x.b,x.free,xi x.leaf.f,x.leaf.s,x.leaf.hi,x.leaf.t,xu x.leaf.lo,xu x.leaf.up,xi x.leaf.n] 153:Ww);obtain⟨P,hP⟩:=qE wr.heap.size;have HB2:Hid (yA Wn P 153 11 P x.ten/\Below wr.heap.size wr Wn/\P=wr.heap.size):=by rw[hWn,hP];exact⟨yAa wr _ (AF _) rfl,qB,rfl⟩
   clear hx hbr;go_upto_region 6 with fail;rw[<-hWn,<-hP];clear hWn hP d0 d1 d2 d3 d4 d5 d6 d7 d8 d9 d10;obtain⟨e0,e1,e2,e3,e4,e5,e6,e7,e8,e9,e10⟩:=HB2.1.c11;have f2:=HB2.1.frozen 2;have HBn:=qH1 (HJ.K HB2.2.1);have HP:Hid (w.heap.size+2<=P):=by show _<=_;rw[HB2.2.2];have:=HJ.A.lt;omega
   have HPr:Hid (∀j,v.ownBlock=some j->¬j=P):=λj hj q=>by have:=(HJ.j.blk hj).2;rw[q,HB2.2.2]at this;omega
   have HCx:Hid (cntL (X.take (k+1))=c+cntI x):=by show _=_;rw[yYz Hx.out,<-HC.out]
   by_cases hj:x.op=5\/x.op=6
   .have zj:(x.op==5 || x.op==6)=true:=by simpa using hj
    have n1:(x.op==1)=false:=by rw[iC];omega
    have HCn:Hid (c=cntL (X.take (k+1))):=by show _=_;rw[HCx.out,cntI,iA (by rintro⟨q,_⟩;omega)];rfl
    go_wp2_with fail;refine(yLq x.op Wn).mono ?_;rintro r w2' ⟨rfl,hw2⟩;rw[hw2];clear hw2;go_upto_region 8 with fail;have HY:Hid (∃y,fixI k c x=y/\yA (xt Wn P 2 (xi (x.b+(k:Int)))) P 153 11 P y.ten/\y.op=x.op):=⟨⟨x.op,x.a,x.b+(k:Int),x.free,x.leaf⟩,by unfold fixI;rw[iA (by rintro⟨q,_⟩;omega),iB hj],HB2.1.set 2 _,rfl⟩
    have HBn:=qH1 (HJ.K (yAc HB2.2.1 (AW HB2.2.2.symm) 2 (xi (x.b+(k:Int)))));generalize Wn.setCell (xd P 2) (.int .i64 (x.b+(k:Int)))=Wn at HY HBn |-;clear hj f2 e0 e1 e2 e3 e4 e5 e6 e7 e8 e9 e10;exact zzL0
   .have zj:(x.op==5 || x.op==6)=false:=by simpa using hj
    go_wp2_with fail;refine(yLq x.op Wn).mono ?_;rintro r w2' ⟨rfl,hw2⟩;rw[hw2];clear hw2 f2;by_cases h1:x.op=1
    .have n1:(x.op==1)=true:=by rw[beq_iff_eq];exact h1
     clear hj;go_wp2_with fail;refine(yHx x.leaf Wn).mono ?_;rintro r Wn ⟨rfl,hb3⟩;clear e0 e1 e2 e3 e4 e5 e6 e7 e8 e9 e10;have HB3:=qH2 (HB2.1.k hb3) (HBn.K hb3);clear HBn;obtain⟨ct,hct⟩:=qE (yCn x.leaf.f);rw[<-hct];clear hb3;cases ct
     case false=>
      have HY:Hid (∃y,fixI k c x=y/\yA Wn P 153 11 P y.ten/\y.op=x.op):=⟨x,by unfold fixI;rw[iA (by rintro⟨_,q⟩;rw[<-hct]at q;cases q),iA qo],HB3.1,rfl⟩
      have HCn:Hid (c=cntL (X.take (k+1))):=by show _=_;rw[HCx.out,cntI,iA (by rintro⟨_,q⟩;rw[<-hct]at q;cases q)];rfl
      have HBn:=qH1 HB3.2;clear h1 hct;exact zzL0
     case true=>
      have HCn:Hid (c+1=cntL (X.take (k+1))):=by show _=_;rw[HCx.out,cntI,iB ⟨h1,hct.symm⟩]
      obtain⟨W4,hW4⟩:=qE (xt Wn P 1 (xi (c:Int)):Ww);have HY:Hid (∃y,fixI k c x=y/\yA W4 P 153 11 P y.ten/\y.op=x.op):=by rw[hW4];exact⟨⟨x.op,(c:Int),x.b,x.free,x.leaf⟩,by unfold fixI;rw[iB ⟨h1,hct.symm⟩,iA qo],HB3.1.set 1 _,rfl⟩
      have HB4:Hid (BlJ w X k v c W4):=by rw[hW4];have hch:Chg (λb=>w.heap.size+2<=b) Wn (xt Wn P 1 (xi (c:Int))):=Chg.D _ _ _ _ HP.out;exact⟨HB3.2.res.i hch qo,HB3.2.A.i hch qo,HB3.2.j.i (Chg.D (S:=λb=>b=P) _ _ _ _ rfl) (λj hj q=>HPr.out j hj q),yAc HB3.2.k (by have:=HP.out;omega) _ _⟩
      clear h1 hct;have g1:=HB3.2.A.z (j:=1) rfl;have g2:=HB3.1.frozen 1;have g3:=HB3.1.z (j:=1) rfl;go_upto_region 10 with fail;rw[<-hW4];clear hW4 g1 g2 g3 HB3;have g1:=HB4.A.z (j:=1) rfl;have g2:=HB4.A.frozen 1;go_upto_region 11 with fail;obtain⟨Wn,hWn⟩:=qE (xt W4 (w+1) 1 (xi ((c:Int)+1)):Ww);have HBn:Hid (BlJ w X k v (c+1) Wn):=by rw[hWn];have:=HB4.count (c+1);rwa[Int.natCast_add]at this
      have HY:Hid (∃y,fixI k c x=y/\yA Wn P 153 11 P y.ten/\y.op=x.op):=by obtain⟨y,a,b,d⟩:=HY.out;rw[hWn];exact⟨y,a,b.Q (by have:=HP.out;omega) _ _,d⟩
      rw[<-hWn];clear hWn g1 g2;exact zzL0
    .have n1:(x.op==1)=false:=by rw[iC];exact h1
     have HY:Hid (∃y,fixI k c x=y/\yA Wn P 153 11 P y.ten/\y.op=x.op):=⟨x,by unfold fixI;rw[iA (by rintro⟨q,_⟩;exact h1 q),iA hj],HB2.1,rfl⟩
     have HCn:Hid (c=cntL (X.take (k+1))):=by show _=_;rw[HCx.out,cntI,iA (by rintro⟨q,_⟩;exact h1 q)];rfl
     clear hj h1 e0 e1 e2 e3 e4 e5 e6 e7 e8 e9 e10;exact zzL0
  .have zk:¬(k:Int)<(n:Int):=qo
   obtain rfl:k=n:=qo
   obtain⟨av,cv,hv⟩:=HJ.j.slice;obtain⟨nv,hnv⟩:=qE ((absG 0 0 (X.take k)).length);rw[<-hnv]at hv;clear hnv;subst hv;have HJ9:Hid (RowX wr (w+2) (.slice av nv cv) (absG 0 0 X)/\c=cntL X):=by have h1:=HJ.j;have h2:=HC.out;rw[List.take_of_length_le (AW HX.2.1)]at h1 h2;exact⟨h1,h2⟩
   have q0:=HJ.A.z (j:=0) rfl;have q1:=HJ.A.z (j:=1) rfl;obtain⟨p0,p1⟩:=HJ.res.c2;obtain⟨z0,z1⟩:=HJ.res.f2
   have HR:Hid (RowX (xt (wr.setCell (xd w 0) (.slice av nv cv)) w 1 (xi c)) (w+2) (.slice av nv cv) (absG 0 0 X)/\Below w w (xt (wr.setCell (xd w 0) (.slice av nv cv)) w 1 (xi c))):=
    ⟨(HJ9.1.i (Chg.D (S:=λb=>b=w.heap.size) _ _ _ _ rfl) (λj hj q=>by have:=(HJ9.1.blk hj).1;omega)).i (Chg.D (S:=λb=>b=w.heap.size) _ _ _ _ rfl) (λj hj q=>by have:=(HJ9.1.blk hj).1;omega),yAc (yAc HJ.k qr _ _) qr _ _⟩
   have hbx:yA (xt (wr.setCell (xd w 0) (.slice av nv cv)) w 1 (xi c)) w 32 2 w [.slice av nv cv,xi c]:=(HJ.res.set 0 _).set 1 _;obtain⟨c0,c1⟩:=hbx.c2;have HC0:=qH2 c0 c1;clear c0 c1 hbx;go_wp2_with fail;obtain⟨c0,c1⟩:=HC0.out;refine AY (v:=.agg #[.slice av nv cv,xi c]) (by simp[results,results72,go_sem,c0,c1]) rfl ⟨.slice av nv cv,by rw[<-HJ9.2],HR.1,HR.2⟩
theorem yYt(a b d:CT) n (X:List Ix) (c:Nat) (s:Bool) (f:Nat) {B C:List Ix} {cB k3 k5:Nat} (hB:B=absG (X.length+1) c (b.gen s (f+a.J+1))) (hcB:cB=c+cntL (b.gen s (f+a.J+1))) (hC:C=absG (X.length+1+B.length+1) cB (d.gen s (f+a.J+1+b.J))) (h3:k3=X.length+1+B.length+1) (h5:k5=k3+C.length):
  X++absG X.length c ((CT.cond n a b d).gen s f)=X++⟨5,((f+a.J:Nat):Int),(k3:Int),false,yA3⟩::(B++⟨6,0,(k5:Int),false,yA3⟩::C)/\c+cntL ((CT.cond n a b d).gen s f)=cB+cntL (d.gen s (f+a.J+1+b.J)):=by
 obtain⟨gb,hgb⟩:=qE (b.gen s (f+a.J+1));obtain⟨gd,hgd⟩:=qE (d.gen s (f+a.J+1+b.J));have hBl:B.length=gb.length:=by rw[hB,yAj,hgb]
 have hCl:C.length=gd.length:=by rw[hC,yAj,hgd]
 have j5:∀(k c:Nat)(u v:Int),fixI k c ⟨5,u,v,false,yA3⟩=⟨5,u,v+(k:Int),false,yA3⟩:=λk c u v=>by simp[fixI]
 have j6:∀(k c:Nat)(u v:Int),fixI k c ⟨6,u,v,false,yA3⟩=⟨6,u,v+(k:Int),false,yA3⟩:=λk c u v=>by simp[fixI]
 have n5:∀(u v:Int),cntI ⟨5,u,v,false,yA3⟩=0:=λu v=>by simp[cntI]
 have n6:∀(u v:Int),cntI ⟨6,u,v,false,yA3⟩=0:=λu v=>by simp[cntI]
 have e3:(gb.length:Int)+2+(X.length:Int)=(k3:Int):=qo
 have e5:(gd.length:Int)+1+((X.length+1+gb.length:Nat):Int)=(k5:Int):=qo
 have eg:(CT.cond n a b d).gen s f=⟨5,((f+a.J:Nat):Int),(gb.length:Int)+2,false,yA3⟩::(gb++⟨6,0,(gd.length:Int)+1,false,yA3⟩::gd):=by rw[hgb,hgd];simp[CT.gen]
 refine⟨?_,?_⟩
 .rw[eg,absG,yCc,absG,j5,j6,n5,n6,e3,e5,hC,hB,yAj,hcB,<-hgb,<-hgd];simp only[AP]
 .rw[eg,cntL,yA2,cntL,n5,n6,hcB,hgb,hgd];omega
theorem xCe{l r:List Ix}{k:Nat}(hk:k=l.length):(l++x::r)[k]?=some x:=by subst hk;simp
theorem xB7{l r:List Ix}{k:Nat}(hk:k=l.length):(l++x::r).set k y=l++y::r:=by subst hk;simp
theorem yYm n (a b d:CT) (Hb:EmC b) (Hd:EmC d):EmC (.cond n a b d):=by
 intro w lo hi p f eb c v X s hT hE hh hl hc hf;obtain⟨h0,m,m2,m3,pa,pb,pc,q,cq,k,hA,hB,hD,l1,l2,l3,hb,hr,hp,hq,hk⟩:=hT;have hcq:=hr.caps.1;have hcm:=hr.caps.2;have hbl:=yA.lt hb;have hel:=hE.lt;obtain rfl:=hk f rfl;simp only[CT.size]at hl hc;simp only[CT.J]at hf;have HCL:=hidO (λwx (hx:Below eb w wx)=>emR hb hr qo hx);have d0:=yA.z hb (j:=0) rfl;have d8:=yA.z hb (j:=8) rfl;obtain⟨Kf,hKf⟩:=qE (f+a.J);rw[<-hKf]at d8;have HK:=hidO hKf;have hgb:=yBp b s (f+a.J+1);have hcb:=yEt b s (f+a.J+1);have hgd:=yBp d s (f+a.J+1+b.J);have z14:(n.f==14)=false:=by rw[iC];omega
 have z15:(n.f==15)=false:=by rw[iC];omega
 have z16:(n.f==16)=true:=by rw[beq_iff_eq];exact h0
 have HB:= @emC b w m m2 pb (f+a.J+1) eb Hb hB qo qo qo;have HD:= @emC d w m2 m3 pc (f+a.J+1+b.J) eb Hd hD qo qo qo;have J0:=hidO (yIj hE ⟨5,(Kf:Int),0,false,yA3⟩ qo);clear hA hB hD hb hr Hb Hd h0 hKf hk;go_enter func39,ntmps39;go_wp2_with fail;refine J0.out.mono ?_;rintro r w1 ⟨P1,P3,v1,rfl,La,T1⟩;obtain⟨c0,cj⟩:=HCL.out w1 (T1.k hE);have c1:=cj (j:=1) rfl;have C1:=HB s (T1.k hE) T1.U (by simp;omega) qo;clear d0 d8 cj HB J0;go_wp2_with fail;refine C1.out.mono ?_;rintro r w2 ⟨v2,rfl,T2⟩;have La:=La.K T1.U T2;have T2:=T1.trans T2;obtain⟨sa,hsa⟩:∃sa,Hid (sa=(s || b.passes))/\sa=(s || b.passes):=⟨_,rfl,rfl⟩;rw[<-hsa.2];replace hsa:=hsa.1;have J1:=hidO (yIj T2.U ⟨6,0,0,false,yA3⟩ (by simp[yAj];omega));clear T1 c0 c1 C1;go_wp2_with fail;refine J1.out.mono ?_;rintro r w3 ⟨P4,P6,v3,rfl,Lb,T3⟩;have La:=La.K T2.U T3;have T3:=T2.trans T3;generalize hB':absG _ _ (b.gen s (f+a.J+1))=B at T2 T3 Lb;have hBl:B.length=(b.gen s (f+a.J+1)).length:=by rw[<-hB',yAj]
 have L1:=yLo T3.U La (k:=X.length) (y:=(⟨5,(Kf:Int),0,false,yA3⟩:Ix)) (by rw[AD,AD];exact xCe rfl) (by simp;omega);rw[AD,AD,AN,xB7 rfl]at L1;replace L1:=hidO L1;replace hB':=hidO hB';clear T2 J1;go_wp2_with fail;refine L1.out.mono ?_;rintro r w4 ⟨rfl,T4⟩;have Lb:=Lb.K T3.U T4;have T4:=T3.trans T4;obtain⟨c0,cj⟩:=HCL.out w4 (T4.k hE);have c2:=cj (j:=2) rfl;have C2:=HD s (T4.k hE) T4.U (by simp;omega) qo;clear T3 cj HD L1;go_wp2_with fail;refine C2.out.mono ?_;rintro r w5 ⟨v5,rfl,T5⟩;have Lb:=Lb.K T4.U T5;have T5:=T4.trans T5;obtain⟨sb,hsb⟩:∃sb,Hid (sb=(s || d.passes))/\sb=(s || d.passes):=⟨_,rfl,rfl⟩;rw[<-hsb.2];replace hsb:=hsb.1;generalize hC':absG _ _ (d.gen s (f+a.J+1+b.J))=C at T5;have hCl:C.length=(d.gen s (f+a.J+1+b.J)).length:=by rw[<-hC',yAj]
 rw[AD,AT,AD,AN,<-AT,<-AD]at T5;have L2:=yLo T5.U Lb (y:=⟨6,0,0,false,yA3⟩) (xCe (by simp)) (by simp;omega);rw[xB7 (by simp)]at L2;replace L2:=hidO L2;replace hC':=hidO hC';clear T4 c0 c2 C2;go_wp2_with fail;refine L2.out.mono ?_;rintro r w6 ⟨rfl,T6⟩;have T6:=T5.trans T6;have HR:Hid (EmP w eb c v X (.cond n a b d) s f (.returned (sa || sb)) w6):=by refine⟨v5,by rw[hsa.out,hsb.out];simp only[CT.passes];cases s<;>simp,?_⟩;obtain⟨e1,e2⟩:=yYt a b d n X c s f (B:=B) (C:=C) (by rw[<-hB'.out];simp) rfl (by rw[<-hC'.out];congr 1;simp;omega) rfl rfl;rw[e1,e2];rw[HK.out]at T6;refine cast (congrArg (λL=>EmTo w w6 eb v v5 L _) ?_) T6;simp;omega
 clear T6 T5 L2;exact zEmE
theorem yYl n:EmC (.leaf n):=by
 intro w lo hi p f eb c v X s hT hE hh hl hc hf;obtain⟨h0,vv,k,hb,hp⟩:=hT;have z14:(n.f==14)=false:=by rw[iC];exact λq=>by rw[q]at h0;simp[yAl]at h0
 have z15:(n.f==15)=false:=by rw[iC];exact λq=>by rw[q]at h0;simp[yAl]at h0
 have z16:(n.f==16)=false:=by rw[iC];exact λq=>by rw[q]at h0;simp[yAl]at h0
 have d0:=yA.z hb (j:=0) rfl;have d1:=yA.z hb (j:=1) rfl;have d2:=yA.z hb (j:=2) rfl;have d3:=yA.z hb (j:=3) rfl;have d4:=yA.z hb (j:=4) rfl;have d5:=yA.z hb (j:=5) rfl;have d6:=yA.z hb (j:=6) rfl;have HC:=qH1 (yP6 hE n s (by simp only[CT.size]at hl;omega) (by simp only[CT.size]at hc;omega));clear hE hb h0;go_enter func39,ntmps39;go_wp2_with fail;refine HC.mono ?_;rintro r w2 ⟨v',rfl,hT⟩;have HR:Hid (EmP w eb c v X (.leaf n) s f (.returned (s || yCn n.f)) w2):=⟨v',rfl,hT⟩;obtain⟨bb,hbb⟩:=qE ((s || yCn n.f));rw[<-hbb]at HR|-;clear hT d0 d1 d2 d3 d4 d5 d6 hbb;go_wp2;go_ret;exact HR.out
variable {w0:Ww}
theorem Cds.X{X:List (List Ix)}(h:Cds w0 w v X bs):bs.length=X.length:=by have:=congrArg List.length h.view;simpa using this
theorem Cds.K{X:List (List Ix)}(h:Cds w0 w v X bs)(hb:Below w.heap.size w w'):Cds w0 w' v X bs:=
 ⟨h.j.k hb,h.each.k hb,h.view,h.k.trans (hb.mono h.k.size)⟩
theorem Cds.weak{X:List (List Ix)}(h:Cds w1 w v X bs)(hb:Below w0.heap.size w0 w1):Cds w0 w v X bs:=
 ⟨h.j.low hb.size,h.each.low hb.size,h.view,hb.trans (h.k.mono hb.size)⟩
theorem Cds.one{X:List (List Ix)}(h:Cds w0 w v X bs):∀x∈bs,x.v.oneCell'=true:=λx hx=>by
 obtain⟨a,c,hv⟩:=(h.each x hx).slice
 rw[hv];rfl
theorem Cds.cells{X:List (List Ix)}(h:Cds w0 w (.slice (some ⟨g,0,none⟩) n cp) X bs):n=bs.length/\yP9 w g 0 bs:=by
 have hn:n=bs.length:=by obtain⟨a,c,hv⟩:=h.j.slice;cases hv;rfl
 refine⟨hn,?_⟩;subst hn;intro i x hx;have:=h.j.z hx;rw[AI];exact this
theorem Cds.app{X Y:List (List Ix)}{cs:List Bk}(h:Cds w0 w v X bs)(hs:w0.heap.size<=w.heap.size)(hE:Eac w w0.heap.size cs)(hY:cs.map Bk.vw=Y.map yC9)(hA:AppB w w' w0.heap.size v v' bs cs):Cds w0 w' v' (X++Y) (bs++cs):=by
 refine⟨hA.Z,λx hx=>?_,by rw[AL,AL,h.view,hY],?_⟩
 .rcases AH.1 hx with hx|hx
  .exact h.each.grown h.j hA.grown x hx
  .exact hE.grown h.j hA.grown x hx
 .exact h.k.grown hA.grown hs (λk hk=>(h.j.blk hk).1)
def CoP(X:List (List Ix))(w:Ww)(r:AK)(w':Ww):Prop:=∃g n cp bs,r=.returned (.slice (some ⟨g,0,none⟩) n cp)/\Hid (Cds w w' (.slice (some ⟨g,0,none⟩) n cp) X bs)/\Below w.heap.size w w'
theorem AppB.some{X Y:List Bk}(h:AppB w w' O (.slice (some ⟨g,0,none⟩) n cp) v' X Y):∃g' cp',v'=.slice (some ⟨g',0,none⟩) (X.length+Y.length) cp':=by
 rcases h.Z.cases with⟨h0,_⟩|⟨g',cp',hv,_⟩
 .have:=(h.nil.1 h0).1;cases this
 .exact⟨g',cp',by rw[hv,AA]⟩
theorem yCq(hgd:o.guard=none)(s x:AV)
  (ho:o.op=.call {callee:=.builtin .append,args:=#[s,x],argTypes:=#[29,29]})
  (g n cp b m cx:Nat) (X Y:List (List Ix)) (bs cs:List Bk) (hs:a.eval s=.slice (some ⟨g,0,none⟩) n cp) (hx:a.eval x=.slice (some ⟨b,0,none⟩) m cx)
  (hC:Cds w0 w (.slice (some ⟨g,0,none⟩) n cp) X bs) (hD:Cds w1 w (.slice (some ⟨b,0,none⟩) m cx) Y cs) (h01:w0.heap.size<=w1.heap.size) (hl:X.length+Y.length<=1000)
  (h:∀g' n' cp' bs' w',Hid (Cds w0 w' (.slice (some ⟨g',0,none⟩) n' cp') (X++Y) bs')->Below w0.heap.size w0 w'->wpList prog ops Q rest (a.put o.dst (.slice (some ⟨g',0,none⟩) n' cp')) w'):wpList prog ops Q (o::rest) a w:=by
 have hsz:=hC.k.size;obtain⟨hm,hcel⟩:=hD.cells;have hlb:=hC.X;have hlc:=hD.X;refine yHn w hgd s x ho w0.heap.size _ b 0 m cx bs cs hs hx hm hC.j hcel hD.one qo hsz ?_;exact zzV2
theorem yDf{K:Act->Ww->Prop}(hgd:oo.guard=none)(s x:AV)
  (ho:oo.op=.call {callee:=.builtin .append,args:=#[s,x],argTypes:=#[29,29]})
  (g n cp b m cx:Nat) (X Y:List (List Ix)) (bs cs:List Bk) (hs:a.eval s=.slice (some ⟨g,0,none⟩) n cp) (hx:a.eval x=.slice (some ⟨b,0,none⟩) m cx)
  (hC:Cds w0 w (.slice (some ⟨g,0,none⟩) n cp) X bs) (hD:Cds w1 w (.slice (some ⟨b,0,none⟩) m cx) Y cs) (h01:w0.heap.size<=w1.heap.size) (hl:X.length+Y.length<=1000)
  (h:∀g' n' cp' bs' w',Hid (Cds w0 w' (.slice (some ⟨g',0,none⟩) n' cp') (X++Y) bs')->Below w0.heap.size w0 w'->K (a.put oo.dst (.slice (some ⟨g',0,none⟩) n' cp')) w'):if Region.wanted oo (yielded ops a.tmps)=true then Oper.wp prog oo a w K Q else E:=by
 have hsz:=hC.k.size;obtain⟨hm,hcel⟩:=hD.cells;have hlb:=hC.X;have hlc:=hD.X;refine yFb w hgd s x ho w0.heap.size _ b 0 m cx bs cs hs hx hm hC.j hcel hD.one qo hsz ?_;exact zzV2
theorem xCf(t:CT):∀(s:Bool)(f:Nat),∀x∈t.gen s f,0<=x.b/\x.b<=3*(t.size:Int):=by
 induction t with
 |leaf n=>intro s f x hx;simp[CT.gen]at hx;subst hx;simp[CT.size]
 |chain n a b ha hb=>
  intro s f x hx;simp only[CT.gen,AH]at hx;simp only[CT.size];rcases hx with hx|hx
  .have:=ha _ _ x hx;omega
  .have:=hb _ _ x hx;omega
 |inter n a b ha hb=>
  intro s f x hx;simp only[CT.gen,AH,AJ]at hx;simp only[CT.size];have h0:∀o,(opI o).b=0:=λ_=>rfl;rcases hx with(((hx|hx)|hx)|hx)|hx
  .rw[hx,h0];omega
  .have:=ha _ _ x hx;omega
  .rw[hx,h0];omega
  .have:=hb _ _ x hx;omega
  .rw[hx,h0];omega
 |cond n a b c ha hb hc=>
  intro s f x hx;simp only[CT.gen,AH,AJ]at hx;have h1:=yBp b s (f+a.J+1);have h2:=yBp c s (f+a.J+1+b.J);simp only[CT.size];rcases hx with((hx|hx)|hx)|hx
  .rw[hx];show 0<=((b.gen s (f+a.J+1)).length:Int)+2/\_;simp only[];omega
  .have:=hb _ _ x hx;omega
  .rw[hx];show 0<=((c.gen s (f+a.J+1+b.J)).length:Int)+1/\_;simp only[];omega
  .have:=hc _ _ x hx;omega
structure Bfr(L:List Ix)(sz:Nat):Prop where
 X:L.length+3*sz<=5000
 bd:∀x∈L,0<=x.b/\x.b<=100000
theorem Bfr.less(h:Bfr L sz)(hs:sz'<=sz):Bfr L sz':=⟨by have:=h.X;omega,h.bd⟩
theorem Bfr.more{L:List Ix}{sz':Nat}{a:CT}(h:Bfr L sz)(hs:a.size+sz'<=sz)(hz:sz<=1000)(s:Bool)(f:Nat):Bfr (L++a.gen s f) sz':=by
 have h1:=yBp a s f;have h2:=h.X;refine⟨by rw[AA];omega,λx hx=>?_⟩;rcases AH.1 hx with hx|hx
 .exact h.bd x hx
 .have:=xCf a s f x hx;omega
def CoC(n:Nat):Prop:=∀(w:Ww)(b o cap gb nb cb:Nat)(xs:List Nd)(t:CT)(L:List Ix)(s:Bool)(f:Nat),xs.length<=n->xs.length<=200->f+xs.length<=1000->Win w b o cap xs->yA9 xs t->Lst w gb L->nb=L.length->Bfr L t.size->
 Calls prog 71 #[.slice (some ⟨b,o,none⟩) xs.length cap,.slice (some ⟨gb,0,none⟩) nb cb,.bool s,.int .i64 (f:Int)] w (CoP (t.V L s f) w)
structure CkC(w:Ww)(b o l cap:Nat)(u:CT):Prop where
 g:GkC w b o l cap u
 V:∀(L:List Ix)(s:Bool)(f gb nb cb:Nat),f+l<=1000->nb=L.length->Bfr L u.size->∀wx,Below w.heap.size w wx->Lst wx gb L->Calls prog 71 #[.slice (some ⟨b,o,none⟩) l cap,.slice (some ⟨gb,0,none⟩) nb cb,.bool s,.int .i64 (f:Int)] wx (CoP (u.V L s f) wx)
 J:u.J<=200
variable {o:Nat}
theorem xH1(H:CoC n)(hn:xs.length<=n)(h2:xs.length<=200)(hW:Win w b o cap xs)(hT:yA9 xs t):CkC w b o xs.length cap t:=by have g:=xCd (yRu _) hn h2 hW hT;exact⟨g,λL s f gb nb cb hf hl hB wx hx hL=>H wx b o cap gb nb cb xs t L s f hn h2 hf (hW.k hx) hT hL hl hB,by have:=g.le;omega⟩
theorem CkC.conds_in(h:Hid (CkC w b o l cap u))(L:List Ix)(s:Bool)(f gb nb cb:Nat)(z:Int)(hz:z=(f:Int))(hf:f+l<=1000)(hn:nb=L.length)(hB:Bfr L u.size)(wx:Ww)(hx:Below w.heap.size w wx)(hL:Lst wx gb L):
  Calls prog 71 #[.slice (some ⟨b,o,none⟩) l cap,.slice (some ⟨gb,0,none⟩) nb cb,.bool s,.int .i64 z] wx (CoP (u.V L s f) wx):=by
 subst hz;exact h.out.V L s f gb nb cb hf hn hB wx hx hL
theorem xEw(w:Ww):Cds w (w.alloc (AC #[] 32)) (.slice (some ⟨w.heap.size,0,none⟩) 0 0) [] []:=
 ⟨World.ownsRow_lit w #[] 0 (AF _) qj qj,(λx hx=>by cases hx),rfl,qB⟩
theorem Tryz.infoCt:(prog.info? 71).map (λi=>(i.zero,i.size,i.bytes))=some (some (.pointer none),1,8):=qk
structure AppC(w w':Ww)(O g n cp:Nat)(ps qs:List Nat)(g' cp':Nat):Prop where
 Z:PRow w' O g' cp' (ps++qs)
 grown:w.grownBy w' (some g)
 U:g'=g\/g'=w.heap.size
theorem xDy(qs:List Nat):∀u∈qs.map ptrV,u.oneCell'=true:=by intro u hu;obtain⟨p,_,rfl⟩:=List.mem_map.1 hu;rfl
theorem apCt:ApT 146 71 1 (λl=>l.map ptrV) PRow (λw b off qs=>∀j p,qs[j]?=some p->w.cell? ⟨b,off+j,none⟩=some (ptrV p)):=⟨⟨underlying146,_,_,Tryz.infoCt,rfl,qj,qj⟩,λ_ _=>AL,λ_=>by simp,Iff.rfl,λh=>⟨λj u hu=>by
 rw[AQ]at hu;obtain⟨r,hr,rfl⟩:=Option.map_eq_some_iff.1 hu;exact h j r hr,xDy _⟩⟩
def CtP(e:Nd)(ps:List Nat)(w:Ww)(r:AK)(w':Ww):Prop:=∃p q cq,r=.returned (ptrV p)/\BoxT w' w p e (xg q ps.length cq) 0/\PRow w' w q cq ps/\Below w w w'
theorem yFk(e:Nd)(b off m cx:Nat)(ps:List Nat)(w:Ww)(hm:m=ps.length)(hl:ps.length<=1000)(hb:b<w.heap.size)(hc:∀j p,ps[j]?=some p->(xk w b (off+j) (ptrV p):Prop)):Calls prog 36 #[e.v,(xy b off m cx)] w (CtP e ps w):=by
 have HC:Hid (m=ps.length/\∀wx,Below w w wx->∀j p,ps[j]?=some p->(xk wx b (off+j) (ptrV p):Prop)):=⟨hm,λwx hx j p hp=>by rw[hx.cell (p:=(xd b (off+j))) hb];exact hc j p hp⟩;clear hc hm;obtain⟨W0,hW0⟩:=qW (xw w #[xi e.f,e.s,e.hi,e.t,xu e.lo,xu e.up,xi e.n] 83);obtain⟨P0,hP0⟩:=qE w.heap.size;have hb0:Below w w W0:=by rw[hW0];exact qB
 have HB0:Hid (yA W0 P0 83 7 P0 [.int .i64 e.f,.string e.s,.bool e.hi,.string e.t,.int .u64 e.lo,.int .u64 e.up,.int .i64 e.n]):=by rw[hW0,hP0];exact yAa w _ (AF _) rfl
 have hSd:SW (λw':Ww=>w'.cell? ⟨P0,0,none⟩=some (.int .i64 e.f)/\w'.cell? ⟨P0,1,none⟩=some (.string e.s)/\w'.cell? ⟨P0,2,none⟩=some (.bool e.hi)/\w'.cell? ⟨P0,3,none⟩=some (.string e.t)/\w'.cell? ⟨P0,4,none⟩=some (.int .u64 e.lo)/\w'.cell? ⟨P0,5,none⟩=some (.int .u64 e.up)/\w'.cell? ⟨P0,6,none⟩=some (.int .i64 e.n)) W0.drew:=⟨HB0.z (j:=0) rfl,HB0.z (j:=1) rfl,HB0.z (j:=2) rfl,HB0.z (j:=3) rfl,HB0.z (j:=4) rfl,HB0.z (j:=5) rfl,HB0.z (j:=6) rfl⟩;go_enter func36,ntmps36;go_upto_region 1 with fail;rw[<-hW0,<-hP0];clear hW0 hP0;refine wpR 99 hSd ?_;refine ja 0 hSd ?_;refine ja 2 hSd ?_;obtain⟨V1,hV1⟩:=qW ((W0.alloc (AC #[] 71)).drew);obtain⟨G1,hG1⟩:=qE W0.heap.size;have hbV:Below W0.heap.size W0 V1:=by rw[hV1];exact(qB).drew
 have k1:=hb0.trans (hbV.mono hb0.size);have HV1:Hid (PRow V1 W0.heap.size G1 0 []):=by rw[hV1,hG1];have h9:PRow (W0.alloc (AC #[] 71)) W0.heap.size W0.heap.size 0 []:=World.ownsRow_lit W0 #[] 0 (AF _) qj qj;exact h9.i (S:=λ_=>False) (Chg.h ((Below.refl _ _).drew)) (λq=>q)
 have hS1:=SWm hSd V1 <|⟨by rw[hbV.cell (p:=⟨P0,0,none⟩) HB0.lt.2];exact HB0.z (j:=0) rfl,by rw[hbV.cell (p:=⟨P0,1,none⟩) HB0.lt.2];exact HB0.z (j:=1) rfl,by rw[hbV.cell (p:=⟨P0,2,none⟩) HB0.lt.2];exact HB0.z (j:=2) rfl,by rw[hbV.cell (p:=⟨P0,3,none⟩) HB0.lt.2];exact HB0.z (j:=3) rfl,by rw[hbV.cell (p:=⟨P0,4,none⟩) HB0.lt.2];exact HB0.z (j:=4) rfl,by rw[hbV.cell (p:=⟨P0,5,none⟩) HB0.lt.2];exact HB0.z (j:=5) rfl,by rw[hbV.cell (p:=⟨P0,6,none⟩) HB0.lt.2];exact HB0.z (j:=6) rfl⟩;have HBV:=qH3 (HB0.k hbV) hbV.size hb0.size;refine qO 1 rfl λK hK=>?_;go_simp;rw[<-hV1,<-hG1];clear hV1 hG1;refine hK.out _ _ (.inr hS1) (jS ?_);clear hK;refine qO 3 rfl λK hK=>?_;refine stA rfl (apK apCt rfl W0.heap.size [] ps rfl rfl rfl HC.1 HV1.out (HC.2 V1 k1) (by simp;omega) HBV.2.1 ?_);intro g2 c2 w2 a1 a2 _;have hgr:Below W0.heap.size W0 w2:=by have h1:=Chg.M a2 (λj hj=>by cases hj;exact HV1.lt.1);exact Chg.k hbV h1 HBV.2.1 (λj hj=>hj)
 have HR2:=qH2 a1 hgr;have hS2:=SWm hS1 w2 <|⟨by rw[hgr.cell (p:=⟨P0,0,none⟩) HB0.lt.2];exact HB0.z (j:=0) rfl,by rw[hgr.cell (p:=⟨P0,1,none⟩) HB0.lt.2];exact HB0.z (j:=1) rfl,by rw[hgr.cell (p:=⟨P0,2,none⟩) HB0.lt.2];exact HB0.z (j:=2) rfl,by rw[hgr.cell (p:=⟨P0,3,none⟩) HB0.lt.2];exact HB0.z (j:=3) rfl,by rw[hgr.cell (p:=⟨P0,4,none⟩) HB0.lt.2];exact HB0.z (j:=4) rfl,by rw[hgr.cell (p:=⟨P0,5,none⟩) HB0.lt.2];exact HB0.z (j:=5) rfl,by rw[hgr.cell (p:=⟨P0,6,none⟩) HB0.lt.2];exact HB0.z (j:=6) rfl⟩;clear a1 a2 hbV;refine hK.out _ _ (.inr hS2) (jS ?_);clear hK;simp only[AI];refine ja 4 hS2 ?_;obtain⟨V3,hV3⟩:=qW (w2.alloc (AC #[.int .i64 e.f,.string e.s,.bool e.hi,.string e.t,.int .u64 e.lo,.int .u64 e.up,.int .i64 e.n,(xg g2 m c2),.int .i64 0] 149));obtain⟨G3,hG3⟩:=qE w2.heap.size;have hb3:Below w2.heap.size w2 V3:=by rw[hV3];exact qB
 have HR:Hid (CtP e ps w (.returned (ptrV G3)) V3):=by
  have h1:=HR2.2.size;have h2:=hb0.size;refine⟨G3,g2,c2,rfl,?_,?_,(hb0.trans (HR2.2.mono h2)).trans (hb3.mono qo)⟩
  .rw[hV3,hG3,<-HC.1];exact yAa w2 _ qo rfl
  .have h9:=HR2.1.i (S:=λ_=>False) (Chg.h hb3) (λq=>q);refine⟨h9.1,?_⟩;rcases h9.2 with hn|⟨g',cap',cur,hv,h3,rest⟩
   .exact .inl hn
   .exact .inr ⟨g',cap',cur,hv,AO h2 h3,rest⟩
 have hS3:=SWm hS2 V3 <|⟨by rw[hb3.cell (p:=⟨P0,0,none⟩) (by show P0<_;have:=HB0.lt.2;have:=HR2.2.size;omega)];exact hS2.1,by rw[hb3.cell (p:=⟨P0,1,none⟩) (by show P0<_;have:=HB0.lt.2;have:=HR2.2.size;omega)];exact hS2.2.1,by rw[hb3.cell (p:=⟨P0,2,none⟩) (by show P0<_;have:=HB0.lt.2;have:=HR2.2.size;omega)];exact hS2.2.2.1,by rw[hb3.cell (p:=⟨P0,3,none⟩) (by show P0<_;have:=HB0.lt.2;have:=HR2.2.size;omega)];exact hS2.2.2.2.1,by rw[hb3.cell (p:=⟨P0,4,none⟩) (by show P0<_;have:=HB0.lt.2;have:=HR2.2.size;omega)];exact hS2.2.2.2.2.1,by rw[hb3.cell (p:=⟨P0,5,none⟩) (by show P0<_;have:=HB0.lt.2;have:=HR2.2.size;omega)];exact hS2.2.2.2.2.2.1,by rw[hb3.cell (p:=⟨P0,6,none⟩) (by show P0<_;have:=HB0.lt.2;have:=HR2.2.size;omega)];exact hS2.2.2.2.2.2.2⟩;refine qO 5 rfl λK hK=>?_;go_simp;rw[<-hV3,<-hG3];clear hV3 hG3;refine hK.out _ _ (.inr hS3) (jS ?_);clear hK;refine kO 6 hS3 ?_;refine qD ?_;go_wp2;go_ret;exact HR.out
theorem xEx{l:List Ix}(hb:Below w0 w0 w)(hR:RowX w O v (absG 0 0 l))(hB:w0<=O):
  Cds w0 (xw w #[v,xi (cntL l:Nat)] 32) (xg w 1 1) [l] [⟨v,(cntL l:Nat),absG 0 0 l⟩]:=by
 have ha:Below w w (xw w #[v,xi (cntL l:Nat)] 32):=qB;refine⟨?_,λx hx=>?_,rfl,hb.trans (ha.mono hb.size)⟩
 .exact World.ownsRow_lit w #[v,xi (cntL l:Nat)] 1 hb.size qj rfl
 .simp only[AJ]at hx;subst hx;exact(hR.k ha).low hB
theorem zBs(h:p:=by show _<=CT.size _;simp only[CT.size];omega):p:=h
theorem zHl(h:p:=by show _<=_;simp only[List.length_append,List.length_cons,List.length_nil,yBw];have:=HI.out;omega):p:=h
theorem zCh (h:p:=by
 refine ja 11 hS3 ?_;refine qO 16 rfl λK hK=>?_;go_simp;go_at_call 129;refine(GkC.ifs_in HG1 j6 _ hv3).mono ?_;rintro r v4 ⟨rfl,hv4⟩;rw[hv4];clear hv4;refine hK.out _ _ (.inr hS3) ?_;clear hK;refine jS ?_;refine ja 17 hS3 ?_;refine qO 18 rfl λK hK=>?_;go_simp;go_at_call 71;refine(CkC.conds_in HC2 _ _ (f+x.J) g6 n6 p6 _ HWr.out hf2 HO6.2 HBy.out _ (j6.trans (hv3.mono j6.size)) (HO6.1.k hv3)).mono ?_;rintro r v5 ⟨g5,n5,p5,bs5,rfl,D5,hb5⟩;have hB5:=hv3.trans (hb5.mono hv3.size);have hS5:=SWm hS3 v5 <|⟨by rw[hB5.cell (p:=(xd kg 0)) hkw];exact u0,by rw[hB5.cell (p:=(xd kg 1)) hkw];exact u1⟩;have C5:=C6.out.K hB5
 refine hK.out _ _ (.inr hS5) ?_;clear hK;refine jS ?_;refine qO 19 rfl λK hK=>?_;refine yDf rfl _ _ rfl g3 n3 p3 g5 n5 p5 _ _ bs3 bs5 rfl rfl C5 D5.out (by have h1:=x6.size;have h2:=hv3.size;omega) HLn.out ?_;intro g7 n7 p7 bs7 v6 C7 x7;have hS6:=SWm hS5 v6 <|⟨by rw[x7.cell (p:=(xd kg 0)) hkw1,<-x6.cell (p:=(xd kg 0)) hkw1];exact u0,by rw[x7.cell (p:=(xd kg 1)) hkw1,<-x6.cell (p:=(xd kg 1)) hkw1];exact u1⟩;refine hK.out _ _ (.inr hS6) ?_;clear hK;refine jS ?_;refine qO 20 rfl λK hK=>?_;go_simp;refine hK.out _ _ (.inr hS6) ?_;clear hK;refine jS ?_;refine qD ?_;clear C5 D5;go_wp2_with fail;go_ret;exact⟨g7,n7,p7,bs7,rfl,C7.out.weak hb1,hb1.trans (x7.mono s1)⟩):p:=h
theorem xBb(H:CoC n):CoC (n+1):=by
 intro w b o cap gb nb cb xs t L s f hn hn2 hf hW hT hLs hnb hBf;obtain⟨ks,e,rfl,hK,hal,hIs⟩:=hT.knd;simp only[AA,AB]at hn hn2 hf;obtain⟨m,hm⟩:=qE ks.flatten.length;have HT:Hid (∀wx,Below w w wx->Calls prog 91 #[xy b o (m+1) cap] wx λr w'=>r=.returned (xi e.f)/\w'=wx):=λwx hx=>by rw[hm];exact yD8 (hW.k hx)
 obtain⟨a3,ha3⟩:=qE ks.length;have HKs:Hid (Calls prog 92 #[xy b o (m+1) cap] w λr w'=>∃g cp,r=.returned (xg g a3 cp)/\OwnV w' w g cp (yFg b o cap ks)/\Below w w w'):=by rw[ha3,hm];exact yEq hW hal hIs
 have HN:Hid (∀{j:Nat}{k:List Nd}{u:CT},ks[j]?=some k->yA9 k u->∃o' cap',(yFg b o cap ks)[j]?=some (.slice (some ⟨b,o',none⟩) k.length cap')/\CkC w b o' k.length cap' u/\u.size=k.length):=by intro j k u hk hu;obtain⟨o',cap',hv,hWk⟩:=yFf hW hk;have hkl:=yEp (AG hk);exact⟨o',cap',hv,xH1 H qo qo hWk hu,hu.size⟩
 rw[AA,AB,<-hm];rw[<-hm]at hf hn2;have HM:=qH2 ha3 hm;have HSz:Hid (t.size<=200):=by show _<=_;rw[hT.size,AA,AB,<-hm];exact hn2
 have HL:=qH3 hLs hnb hBf;clear hW hT hIs H hal hn hn2 hm ha3 hLs hnb hBf;go_enter func71,ntmps71;go_wp2_with fail;refine HKs.mono ?_;rintro r w1 ⟨kg,kc1,rfl,hO,hb1⟩;have s1:=hb1.size;have HO:=qH1 hO;have hkc:=hO.caps;rw[yE,<-HM.1]at hkc;have hkl:=hO.lt;clear hO HKs;obtain⟨W1,hW1⟩:=qW (xw w1 #[] 32);obtain⟨G0,hG0⟩:=qE w1.heap.size;have C0:Hid (Cds w1 W1 (xg G0 0 0) [] []):=by rw[hW1,hG0];exact xEw w1
 have x1:=C0.out.k;have j1:=hb1.trans (x1.mono s1);go_upto_region 3 with fail;rw[<-hW1,<-hG0];clear hW1 hG0;go_wp2_with fail;refine(HT.out W1 j1).mono ?_;rintro r w1' ⟨rfl,hw1⟩;rw[hw1];clear hw1 HT;cases hK with
 |leaf _ hk=>
  have z14:(e.f==14)=false:=by rw[iC];exact λq=>by rw[q]at hk;simp[yAl]at hk
  have z15:(e.f==15)=false:=by rw[iC];exact λq=>by rw[q]at hk;simp[yAl]at hk
  have z16:(e.f==16)=false:=by rw[iC];exact λq=>by rw[q]at hk;simp[yAl]at hk
  clear hk;go_wp2_with fail;go_ret;exact⟨G0,0,0,[],rfl,C0.out.weak hb1,j1⟩
 | @chain _ x y ka kb h hx hy=>?ch
 | @inter _ x y ka kb h hx hy=>?it
 | @cond _ x y z ka kb kc h hx hy hz=>?cd
 case' ch=>
  have z14:(e.f==14)=true:=by rw[beq_iff_eq];exact h
  obtain rfl:a3=2:=HM.1
 case' it=>
  have z14:(e.f==14)=false:=by rw[iC];omega
  have z15:(e.f==15)=true:=by rw[beq_iff_eq];exact h
  obtain rfl:a3=2:=HM.1
 case' cd=>
  have z14:(e.f==14)=false:=by rw[iC];omega
  have z15:(e.f==15)=false:=by rw[iC];omega
  have z16:(e.f==16)=true:=by rw[beq_iff_eq];exact h
  obtain rfl:a3=3:=HM.1
  obtain⟨o3,c3,hv3,hc3,hz3⟩:=HN.out (j:=2) rfl hz;have q2:=(HO.k x1).z hv3;have hm3:m=ka.length+kb.length+kc.length:=by rw[HM.2];simp;omega
  clear hv3
 all_goals (obtain⟨o1,c1,hv1,hc1,hz1⟩:=HN.out (j:=0) rfl hx;obtain⟨o2,c2,hv2,hc2,hz2⟩:=HN.out (j:=1) rfl hy;have q0:=(HO.k x1).z hv1;have q1:=(HO.k x1).z hv2;have hm2:ka.length+kb.length<=m:=by rw[HM.2];simp<;>omega)
 all_goals (obtain⟨l1,hl1⟩:=qE ka.length;obtain⟨l2,hl2⟩:=qE kb.length;rw[<-hl1]at q0 hc1 hm2 hz1;rw[<-hl2]at q1 hc2 hm2 hz2;have HC1:=qH1 hc1;have HC2:=qH1 hc2;have HG1:=qH1 hc1.g;have HG2:=qH1 hc2.g;have hi1:=hc1.g.le;have HI:=qH4 hc1.J hc2.J hz1 hz2;have hkw1:=hkl.2;have hf1:f+l1<=1000:=qo;have HBx:Hid (Bfr L x.size):=HL.2.2.less zBs)
 case' cd=>
  obtain⟨l3,hl3⟩:=qE kc.length;rw[<-hl3]at q2 hc3 hm3 hz3;have HC3:=qH1 hc3;have hi2:=hc2.g.le;have HI3:=qH2 hc3.J hz3;obtain⟨Kn,hKn⟩:=qE (f+x.J);have HF:Hid (Kn=f+x.J/\Kn+1+l2<=1000/\Kn+1+y.J+l3<=1000):=⟨hKn,qo,qo⟩;have hKb:Kn<=1000:=qo
  have hyb:y.J<=1000:=qo
  have HWk:Hid (IntKind.i64.wrap ((f:Int)+(x.J:Int))=(Kn:Int)):=by show _=_;rw[AE];omega
  clear hc3 hl3 hm3 hz hz3 hKn
 all_goals (clear hc1 hc2 hv1 hv2 hl1 hl2 hx hy hz1 hz2;go_wp2_with fail;refine(CkC.conds_in HC1 L s f gb nb cb _ rfl hf1 HL.2.1 HBx.out W1 j1 (HL.1.k j1)).mono ?_;rintro r w2 ⟨g2,n2,p2,bs2,rfl,D2,hb2⟩;have C2:=qH1 (C0.out.K hb2);have hl2:Hid (([]:List (List Ix)).length+(x.V L s f).length<=1000):=zHl;have hs2:=qH1 x1.size)
 all_goals (go_wp2_with (at_builtin;refine yCq rfl _ _ rfl G0 0 0 g2 n2 p2 [] (x.V L s f) [] bs2 rfl rfl C2.out D2.out hs2.out hl2.out ?_);intro g3 n3 p3 bs3 w3 C3 x3;clear C2 D2 hb2 C0 hl2 hs2;have j3:Below w w w3:=hb1.trans (x3.mono s1);have t0:(xk w3 kg 0 (xy b o1 l1 c1):Prop):=(by rw[x3.cell (p:=(xd kg 0)) hkw1,<-x1.cell (p:=(xd kg 0)) hkw1];exact q0);have t1:(xk w3 kg 1 (xy b o2 l2 c2):Prop):=(by rw[x3.cell (p:=(xd kg 1)) hkw1,<-x1.cell (p:=(xd kg 1)) hkw1];exact q1);clear q0 q1)
 rotate_left 1
 .have hkw:kg<w3.heap.size:=by have:=x3.size;omega
  have hf2:f+x.J+l2<=1000:=qo
  have HWr:Hid (IntKind.i64.wrap ((f:Int)+(x.J:Int))=((f+x.J:Nat):Int)):=by show _=_;rw[AE];omega
  have HLn:Hid ((x.V L s f).length+(y.V L s (f+x.J)).length<=1000):=zHl
  have HBy:=qH1 (HL.2.2.less (sz':=y.size) zBs);have HLs:=qH1 (HL.1.k j3);clear hm2;go_upto_region 10 with fail;have hSd:SW (λw':Ww=>xk w' kg 0 (xy b o1 l1 c1)/\xk w' kg 1 (xy b o2 l2 c2)) w3.drew:=⟨t0,t1⟩;have hbd:=(Below.refl w3 w3).drew;refine wpR 99 hSd ?_;refine ja 0 hSd ?_;iterate 9 refine jb hSd ?_
  refine qO 10 rfl λK hK=>?_;go_simp;go_at_call 129;refine(GkC.ifs_in HG1 j3 _ hbd).mono ?_;rintro r v4 ⟨rfl,hv4⟩;rw[hv4];clear hv4;refine hK.out _ _ (.inr hSd) ?_;clear hK;refine jS ?_;refine ja 11 hSd ?_;refine qO 12 rfl λK hK=>?_;go_simp;go_at_call 71;refine(CkC.conds_in HC2 L s (f+x.J) gb nb cb _ HWr.out hf2 HL.2.1 HBy.out _ (j3.trans (hbd.mono j3.size)) (HLs.k hbd)).mono ?_;rintro r v5 ⟨g5,n5,p5,bs5,rfl,D5,hb5⟩;have hB5:Below w3 w3 v5:=hbd.trans (hb5.mono hbd.size);have hS5:=SWm hSd v5 <|⟨by rw[hB5.cell (p:=(xd kg 0)) hkw];exact t0,by rw[hB5.cell (p:=(xd kg 1)) hkw];exact t1⟩;have C5:=C3.out.K hB5
  refine hK.out _ _ (.inr hS5) ?_;clear hK;refine jS ?_;refine qO 13 rfl λK hK=>?_;refine yDf rfl _ _ rfl g3 n3 p3 g5 n5 p5 _ _ bs3 bs5 rfl rfl C5 D5.out (by have h1:=x3.size;have h2:=hbd.size;omega) HLn.out ?_;intro g6 n6 p6 bs6 v6 C6 x6;have hS6:=SWm hS5 v6 <|⟨by rw[x6.cell (p:=(xd kg 0)) hkw1,<-x3.cell (p:=(xd kg 0)) hkw1];exact t0,by rw[x6.cell (p:=(xd kg 1)) hkw1,<-x3.cell (p:=(xd kg 1)) hkw1];exact t1⟩;refine hK.out _ _ (.inr hS6) ?_;clear hK;refine jS ?_;refine qO 14 rfl λK hK=>?_;go_simp;refine hK.out _ _ (.inr hS6) ?_;clear hK;refine jS ?_;refine qD ?_;clear C5 D5;go_wp2_with fail;go_ret;exact⟨g6,n6,p6,bs6,rfl,C6.out.weak hb1,hb1.trans (x6.mono s1)⟩
 all_goals
  have HLs:=qH1 (HL.1.k j3);go_wp2_with fail;refine(HG1.gen s f hf1 w3 j3).mono ?_;rintro r w4 ⟨g4,p4,rfl,hO4,hb4⟩;obtain⟨n4,hn4⟩:=qE ((x.gen s f).length);rw[<-hn4];have HO4:=qH2 hO4.P hn4;clear hO4 hn4;obtain⟨W5,hW5⟩:=qW (xw w4 #[xg gb nb cb,xg g4 n4 p4] 30);have hb5:=qN hW5
  have HCt:Hid (Calls prog 127 #[xg w4 2 2] W5 (GeP (L++x.gen s f) W5)):=by rw[hW5];refine yNr (ns:= [L,x.gen s f]) (.cons HL.2.1 (HLs.k hb4) (.cons HO4.2 HO4.1 .nil)) rfl (by simp) rfl ?_ (by simp);have h1:=(HL.2.2.more (a:=x) (sz':=0) zBs (qw HSz.out) s f).X;omega
  go_wp2_with fail;rw[<-hW5];clear hW5;refine HCt.mono ?_;rintro r w6 ⟨g6,p6,rfl,hO6,hb6⟩;obtain⟨n6,hn6⟩:=qE ((L++x.gen s f).length);rw[<-hn6];have HO6:=qH2 hO6.P hn6;have hb36:Below w3 w3 w6:=(hb4.trans (hb5.mono hb4.size)).trans (hb6.mono (AO hb4.size hb5.size));clear hO6 hn6 HCt hb4 hb5 hb6 HO4 HLs;have C6:=qH1 (C3.out.K hb36);have x6:=C6.out.k;have j6:Below w w w6:=hb1.trans (x6.mono s1);have hkw3:kg<w3.heap.size:=by have:=x3.size;omega
 .have u0:(xk w6 kg 0 (xy b o1 l1 c1):Prop):=by rw[hb36.cell (p:=(xd kg 0)) hkw3];exact t0
  have u1:(xk w6 kg 1 (xy b o2 l2 c2):Prop):=by rw[hb36.cell (p:=(xd kg 1)) hkw3];exact t1
  have hf2:f+x.J+l2<=1000:=qo
  clear t0 t1 C3 hm2;have hkw:kg<w6.heap.size:=qw x6.size
  have HWr:Hid (IntKind.i64.wrap ((f:Int)+(x.J:Int))=((f+x.J:Nat):Int)):=by show _=_;rw[AE];omega
  have HLn:Hid ((x.V L s f).length+(y.V (L++x.gen s f) (s || x.passes) (f+x.J)).length<=1000):=zHl
  have HBy:=qH1 (HL.2.2.more (a:=x) (sz':=y.size) zBs (qw HSz.out) s f);go_upto_region 7 with fail;have hSd:SW (λw':Ww=>xk w' kg 0 (xy b o1 l1 c1)/\xk w' kg 1 (xy b o2 l2 c2)) w6.drew:=⟨u0,u1⟩;have hbd:=(Below.refl w6 w6).drew;cases s;all_goals (refine wpR 99 hSd ?_;refine ja 0 hSd ?_;iterate 9 refine jb hSd ?_)
  all_goals (refine ja 12 hSd ?_;iterate 3 refine jb hSd ?_)
  all_goals refine qO 10 rfl λK hK=>?_
  all_goals go_simp
  .go_at_call 128;refine(GkC.pass_in HG1 j6 _ hbd).mono ?_;rintro r v3 ⟨rfl,hv3,hc3⟩;have hS3:=SWm hSd v3 <|⟨by rw[hc3 kg 0 hkw];exact u0,by rw[hc3 kg 1 hkw];exact u1⟩;clear hc3;refine hK.out _ _ (.inr hS3) ?_;clear hK;refine jS ?_;exact zCh
  .have hv3:=hbd;have hS3:=hSd;refine hK.out _ _ (.inr hSd) ?_;clear hK;refine jS ?_;exact zCh
 .have t2:(xk w3 kg 2 (xy b o3 l3 c3):Prop):=by rw[x3.cell (p:=(xd kg 2)) hkw1,<-x1.cell (p:=(xd kg 2)) hkw1];exact q2
  have HB6:=qH1 (HL.2.2.more (a:=x) (sz':=0) zBs (qw HSz.out) s f);have HBk:Hid (Calls prog 72 #[xg g6 n6 p6] w6 (BlP (L++x.gen s f) w6)):=yId HO6.1 (qw HB6.X) HB6.bd HO6.2;clear q2 hm2;go_wp2_with fail;refine HBk.mono ?_;rintro r w7 ⟨v7,rfl,hR7,hb7⟩;obtain⟨va,vc,hv7⟩:=hR7.slice;obtain⟨vn,hvn⟩:=qE ((absG 0 0 (L++x.gen s f)).length);rw[<-hvn]at hv7;clear hvn;subst hv7;have hb37:Below w3 w3 w7:=hb36.trans (hb7.mono hb36.size);have x7:Below w1 w1 w7:=x3.trans (hb37.mono x3.size);obtain⟨ct,hct⟩:=qE (((cntL (L++x.gen s f):Nat):Int):Int);have HA:Hid (Cds w1 (xw w7 #[.slice va vn vc,xi ct] 32) (xg g3 n3 p3) (x.V L s f) bs3/\Cds w1 (xw w7 #[.slice va vn vc,xi ct] 32) (xg w7 1 1) [L++x.gen s f] [⟨.slice va vn vc,(cntL (L++x.gen s f):Nat),absG 0 0 (L++x.gen s f)⟩]):=by rw[hct];exact⟨(C3.out.K hb37).K qB,xEx x7 hR7 (qw x6.size)⟩
  rw[<-hct];clear hct hR7;have hl7:Hid ((x.V L s f).length+ [L++x.gen s f].length<=1000):=zHl
  go_wp2_with (at_builtin;refine yCq rfl _ _ rfl g3 n3 p3 w7.heap.size 1 1 (x.V L s f) [L++x.gen s f] bs3 _ rfl rfl HA.1 HA.2 (AF _) hl7.out ?_);intro g8 n8 p8 bs8 w8 C8 x8;have j8:Below w w w8:=hb1.trans (x8.mono s1);have v0:(xk w8 kg 0 (xy b o1 l1 c1):Prop):=by rw[x8.cell (p:=(xd kg 0)) hkw1,<-x3.cell (p:=(xd kg 0)) hkw1];exact t0
  have v1:(xk w8 kg 1 (xy b o2 l2 c2):Prop):=by rw[x8.cell (p:=(xd kg 1)) hkw1,<-x3.cell (p:=(xd kg 1)) hkw1];exact t1
  have v2:(xk w8 kg 2 (xy b o3 l3 c3):Prop):=by rw[x8.cell (p:=(xd kg 2)) hkw1,<-x3.cell (p:=(xd kg 2)) hkw1];exact t2
  clear HA HBk C6 C3 t0 t1 t2 hb36 hb37 hb7 HO6 hl7;have hWk:=HWk.out;go_wp2_with fail;refine(HG1.J w8 j8).mono ?_;rintro r w8' ⟨rfl,hw8⟩;rw[hw8];clear hw8;have HBy:=qH1 (HL.2.2.less (sz':=y.size) zBs);go_wp2_with fail;clear hWk;refine(CkC.conds_in HC2 L s (Kn+1) gb nb cb _ qo HF.2.1 HL.2.1 HBy.out w8 j8 (HL.1.k j8)).mono ?_;rintro r w9 ⟨g9,n9,p9,bs9,rfl,D9,hb9⟩;have C9:=qH1 (C8.out.K hb9);have hl9:Hid ((x.V L s f++ [L++x.gen s f]).length+(y.V L s (Kn+1)).length<=1000):=zHl
  have hs9:=qH1 x8.size;go_wp2_with (at_builtin;refine yCq rfl _ _ rfl g8 n8 p8 g9 n9 p9 _ (y.V L s (Kn+1)) bs8 bs9 rfl rfl C9.out D9.out hs9.out hl9.out ?_);intro g10 n10 p10 bs10 w10 C10 x10;obtain⟨XX,hXX⟩:=qE (x.V L s f++(L++x.gen s f)::y.V L s (Kn+1));rw[<-hXX]at C10;have HXX:=qH1 hXX;clear hXX;have j10:Below w w w10:=hb1.trans (x10.mono s1);have y1:(xk w10 kg 1 (xy b o2 l2 c2):Prop):=by rw[x10.cell (p:=(xd kg 1)) hkw1,<-x8.cell (p:=(xd kg 1)) hkw1];exact v1
  have y2:(xk w10 kg 2 (xy b o3 l3 c3):Prop):=by rw[x10.cell (p:=(xd kg 2)) hkw1,<-x8.cell (p:=(xd kg 2)) hkw1];exact v2
  clear C9 D9 hb9 v0 v1 v2 C8 hl9 hs9;have hkw:kg<w10.heap.size:=qw x10.size
  have HWr:Hid (IntKind.i64.wrap (IntKind.i64.wrap ((Kn:Int)+1)+(y.J:Int))=((Kn+1+y.J:Nat):Int)):=by show _=_;rw[show IntKind.i64.wrap ((Kn:Int)+1)=(Kn:Int)+1 by rw[AE];omega,AE];omega
  have HLn:Hid (XX.length+(z.V L s (Kn+1+y.J)).length<=1000):=by show _<=_;rw[HXX.out,AA,AS,yBw,yBw,yBw];have:=HI.out;have:=HI3.1;omega
  have HBz:=qH1 (HL.2.2.less (sz':=z.size) zBs);have HLs:=qH1 (HL.1.k j10);go_upto_region 16 with fail;have hSd:SW (λw':Ww=>xk w' kg 1 (xy b o2 l2 c2)/\xk w' kg 2 (xy b o3 l3 c3)) w10.drew:=⟨y1,y2⟩;have hbd:=(Below.refl w10 w10).drew;refine wpR 99 hSd ?_;refine ja 0 hSd ?_;iterate 10 refine jb hSd ?_
  refine qO 11 rfl λK hK=>?_;go_simp;go_at_call 129;refine(GkC.ifs_in HG2 j10 _ hbd).mono ?_;rintro r v4 ⟨rfl,hv4⟩;rw[hv4];clear hv4;refine hK.out _ _ (.inr hSd) ?_;clear hK;refine jS ?_;refine ja 12 hSd ?_;refine qO 13 rfl λK hK=>?_;go_simp;go_at_call 71;refine(CkC.conds_in HC3 L s (Kn+1+y.J) gb nb cb _ HWr.out HF.2.2 HL.2.1 HBz.out _ (j10.trans (hbd.mono j10.size)) (HLs.k hbd)).mono ?_;rintro r v5 ⟨g5,n5,p5,bs5,rfl,D5,hb5⟩;have hB5:Below w10 w10 v5:=hbd.trans (hb5.mono hbd.size);have hS5:=SWm hSd v5 <|⟨by rw[hB5.cell (p:=(xd kg 1)) hkw];exact y1,by rw[hB5.cell (p:=(xd kg 2)) hkw];exact y2⟩;have C5:=C10.out.K hB5
  refine hK.out _ _ (.inr hS5) ?_;clear hK;refine jS ?_;refine qO 14 rfl λK hK=>?_;refine yDf rfl _ _ rfl g10 n10 p10 g5 n5 p5 XX _ bs10 bs5 rfl rfl C5 D5.out (by have h1:=x10.size;have h2:=hbd.size;omega) HLn.out ?_;intro gz nz pz bsz vz Cz xz;have hS6:=SWm hS5 vz <|⟨by rw[xz.cell (p:=(xd kg 1)) hkw1,<-x10.cell (p:=(xd kg 1)) hkw1];exact y1,by rw[xz.cell (p:=(xd kg 2)) hkw1,<-x10.cell (p:=(xd kg 2)) hkw1];exact y2⟩;refine hK.out _ _ (.inr hS6) ?_;clear hK;refine jS ?_;refine qO 15 rfl λK hK=>?_;go_simp;refine hK.out _ _ (.inr hS6) ?_;clear hK;refine jS ?_;refine qD ?_;clear C5 D5;go_wp2_with fail;go_ret;exact⟨gz,nz,pz,bsz,rfl,by have h9:=Cz.out.weak hb1;rw[HXX.out,HF.1]at h9;show Cds _ _ _ _ _;simpa [CT.V]using h9,hb1.trans (xz.mono s1)⟩
theorem yPv:∀n,CoC n
 |0=>λw b o cap gb nb cb xs t L s f hn _ _ _ hT=>by have:=hT.part;cases this<;>simp at hn
 |n+1=>xBb (yPv n)
theorem yY0{X Y:List (List Ix)}(h:yLg xs X M)(k:yLg xs Y N):X=Y/\M=N:=by obtain⟨t,ht,rfl,rfl⟩:=h;obtain⟨u,hu,rfl,rfl⟩:=k;rw[yWb ht hu];exact⟨rfl,rfl⟩
def CmpU(xs:List Nd)(w:Ww)(r:AK)(w':Ww):Prop:=∃(a:Option Addr)(n c:Nat)(a':Option Addr)(n' c':Nat)(cnt:Int)(X:List (List Ix))(M:List Ix)(bs:List Bk),r=.returned (.agg #[.slice a n c,.slice a' n' c',.int .i64 cnt])/\CdU w w' (.slice a n c) (.slice a' n' c') cnt X M bs/\yLg xs X M
variable {cv:Vv} {cnt:Int}
theorem CdU.set{X:List (List Ix)}(h:CdU w0 w cv mv cnt X M bs)(hc:∀k,cv.ownBlock=some k->O<k)(hm:∀k,mv.ownBlock=some k->O<k)(he:∀x∈bs,∀k,x.v.ownBlock=some k->O<k)(hb:w0.heap.size<=O)(j:Nat)(u:Vv):
  CdU w0 (w.setCell ⟨O,j,none⟩ u) cv mv cnt X M bs:=by
 have hch:Chg (λb=>b=O) w (w.setCell ⟨O,j,none⟩ u):=Chg.D _ _ _ _ rfl;exact⟨⟨h.V.j.i hch (λk hk q=>by have:=hc k hk;omega),λx hx=>(h.V.each x hx).i hch (λk hk q=>by have:=he x hx k hk;omega),h.V.view,yAc h.V.k hb _ _⟩,h.main.i hch (λk hk q=>by have:=hm k hk;omega),h.cnt⟩
theorem CdU.weak{X:List (List Ix)}(h:CdU w1 w cv mv cnt X M bs)(hb:Below w0.heap.size w0 w1):CdU w0 w cv mv cnt X M bs:=⟨h.V.weak hb,h.main.low hb.size,h.cnt⟩
theorem CdU.set3{X:List (List Ix)}(h:CdU w1 w cv mv cnt X M bs)(hb:Below w0.heap.size w0 w1){p:Nat}(hp:w0.heap.size<=p)(hp1:p<w1.heap.size)(a b c:Vv):
  CdU w0 (((w.setCell ⟨p,0,none⟩ a).setCell ⟨p,1,none⟩ b).setCell ⟨p,2,none⟩ c) cv mv cnt X M bs:=by
 have hc:∀k,cv.ownBlock=some k->p<k:=λk hk=>by have:=(h.V.j.blk hk).1;omega
 have hm:∀k,mv.ownBlock=some k->p<k:=λk hk=>by have:=(h.main.blk hk).1;omega
 have he:∀x∈bs,∀k,x.v.ownBlock=some k->p<k:=λx hx k hk=>by have:=((h.V.each x hx).blk hk).1;omega
 exact(((h.weak hb).set hc hm he hp 0 a).set hc hm he hp 1 b).set hc hm he hp 2 c
theorem yJg(h:WdN w g o cp xs)(hok:∀e∈xs,e.ok)(hG:yB9 xs):Calls prog 28 #[.agg #[.slice (some ⟨g,o,none⟩) xs.length cp]] w (CmpU xs w):=by
 have HO:=qH2 h hok;have hgl:=h.lt;have hcp:=h.caps;obtain⟨n,hn⟩:=qE xs.length;have HN:=qH1 hn;obtain⟨W0,hW0⟩:=qE (xw (w.alloc (AC #[.slice (some ⟨g,o,none⟩) n cp] 25)) #[xh,xh,xi 0] 34:Ww);have hb0:Below w w W0:=by rw[hW0];exact(qB).alloc (by simp) _
 have hz0:W0.heap.size=w.heap.size+1+1:=by rw[hW0];simp
 have HK:Hid (∀wx,Below W0 W0 wx->xk wx w 0 (.slice (some ⟨g,o,none⟩) n cp)/\yA wx (w+1) 34 3 (w+1) [xh,xh,xi 0]/\WdN wx g o cp xs/\Below w w wx/\w.heap.size+2<=wx.heap.size):=by
  intro wx hx;refine⟨?_,?_,(HO.1.k hb0 hgl).k hx qo,hb0.trans (hx.mono qo),by have:=hx.size;omega⟩
  .rw[hx.cell (p:=(xd w 0)) (by show w.heap.size<_;omega),hW0];simp[go_sem]
  .refine yA.k ?_ hx;rw[hW0];have z1:(w.alloc (AC #[.slice (some ⟨g,o,none⟩) n cp] 25)).heap.size=w.heap.size+1:=by simp
   have hb2:=yAa (xw w #[.slice (some ⟨g,o,none⟩) n cp] 25) (O:=w.heap.size+1) (t:=34) (sz:=3) #[xh,xh,xi 0] (by rw[z1];exact AF _) rfl;rw[z1]at hb2;exact hb2
 have HF:Hid (Calls prog 8 #[.agg #[.slice (some ⟨g,o,none⟩) n cp]] W0 (yN1 xs W0)):=by rw[hn];exact yDx (HK.out W0 (Below.refl _ _)).2.2.1 hok
 rw[<-hn];clear h hok hn;have c0:=(HK.out W0 (Below.refl _ _)).1;go_enter func28,ntmps28;go_upto_region 1 with fail;rw[<-hW0];clear hW0;go_wp2_with fail;refine HF.mono ?_;rintro e w1 ⟨r,rfl,hr,hb1⟩;obtain rfl:r=true:=hr.2 hG;clear hr c0 HF;have c0:=(HK.out w1 hb1).1
 obtain⟨t,ht⟩:=yPh hG;have HT:Hid (yB9 xs/\yA9 xs t/\Win w1 g o cp xs):=⟨hG,ht,⟨(HK.out w1 hb1).2.2.1.at,(HK.out w1 hb1).2.2.1.lt,(HK.out w1 hb1).2.2.1.caps.1,by have:=hcp.2;unfold maxLen at this;omega,by have:=hG.1;omega⟩⟩;clear hG ht;obtain⟨V1,hV1⟩:=qE ((w1.alloc (AC #[] 153)).drew:Ww);have hbV:Below w1 w1 V1:=by rw[hV1];exact(qB).drew
 obtain⟨G1,hG1⟩:=qE w1;have HL:Hid (Lst V1 G1 []):=⟨λi e he=>by simp at he,by rw[hV1,hG1];simp⟩;have HCC:Hid (Calls prog 71 #[.slice (some ⟨g,o,none⟩) n cp,xg G1 0 0,false,xi 0] V1 (CoP (t.V [] false 0) V1)):=by rw[HN.out];refine yPv _ V1 g o cp G1 0 0 xs t [] false 0 qr HT.1.1 (by have:=HT.1.1;omega) (HT.2.2.k hbV) HT.2.1 HL.out rfl ⟨?_,λx hx=>by cases hx⟩;rw[HT.2.1.size];have:=HT.1.1;simp;omega
 have hSd:SW (λw':Ww=>xk w' w 0 (.slice (some ⟨g,o,none⟩) n cp)) w1.drew:=c0;go_upto_region 3 with fail;refine wpR 99 hSd ?_;refine ja 0 hSd ?_;refine jb hSd ?_;refine ja 4 hSd ?_;refine jb hSd ?_;refine qO 2 rfl λK hK=>?_;go_simp;rw[<-hV1,<-hG1];have hk1:=hb1.trans (hbV.mono hb1.size);have d0:=(HK.out V1 hk1).1;clear hV1 hG1;refine hK.out _ _ (.inr d0) ?_;clear hK;refine jS ?_;refine qO 3 rfl λK hK=>?_;go_simp;go_at_call 71;refine HCC.mono ?_;rintro r v2 ⟨g2,n2,p2,bs2,rfl,D2,hb2⟩;have hk2:=hk1.trans (hb2.mono hk1.size);have d2:=(HK.out v2 hk2).1;have HGe:Hid (Calls prog 73 #[.slice (some ⟨g,o,none⟩) n cp,false,xi 0] v2 (GeP (t.gen false 0) v2)):=by rw[HN.out];exact yRu _ v2 g o cp xs t false 0 qr HT.1.1 (by have:=HT.1.1;omega) ((HT.2.2.k hbV).k hb2) HT.2.1
 refine hK.out _ _ (.inr d2) ?_;clear hK;refine jS ?_;refine qO 6 rfl λK hK=>?_;go_simp;go_at_call 73;refine HGe.mono ?_;rintro r v3 ⟨g3,p3,rfl,hO3,hb3⟩;obtain⟨n3,hn3⟩:=qE ((t.gen false 0).length);rw[<-hn3];have HBk:Hid (Calls prog 72 #[xg g3 n3 p3] v3 (BlP (t.gen false 0) v3)):=by have h1:=yBp t false 0;have h2:=HT.2.1.size;have h3:=HT.1.1;exact yId hO3.P (by omega) (λx hx=>by have:=xCf t false 0 x hx;omega) hn3
 have hk3:Below W0 W0 v3:=hk2.trans (hb3.mono hk2.size);have d3:(xk v3 w 0 (.slice (some ⟨g,o,none⟩) n cp):Prop):=(HK.out v3 hk3).1;clear hO3 hn3 HGe;refine hK.out _ _ (.inr d3) ?_;clear hK;refine jS ?_;refine qO 7 rfl λK hK=>?_;go_simp;go_at_call 72;refine HBk.mono ?_;rintro r v4 ⟨mv,rfl,hR4,hb4⟩;have hk4:Below W0 W0 v4:=hk3.trans (hb4.mono hk3.size);have d4:(xk v4 w 0 (.slice (some ⟨g,o,none⟩) n cp):Prop):=(HK.out v4 hk4).1;obtain⟨ma,mc,hmv⟩:=hR4.slice;obtain⟨mn,hmn⟩:=qE ((absG 0 0 (t.gen false 0)).length);rw[<-hmn]at hmv;subst hmv;obtain⟨ct,hct⟩:=qE (((cntL (t.gen false 0):Nat):Int):Int);rw[<-hct]
 have HU:Hid (CdU V1 v4 (xg g2 n2 p2) (.slice ma mn mc) ct (t.V [] false 0) (t.gen false 0) bs2):=
  ⟨(D2.out.K hb3).K hb4,hR4.low (by have:=hb2.size;have:=hb3.size;omega),hct⟩
 have HB4:Hid (yA v4 (w+1) 34 3 (w+1) [xh,xh,xi 0]):=(HK.out v4 hk4).2.1;have kV:Hid (Below w w V1/\w.heap.size+1<V1.heap.size):=⟨(HK.out V1 hk1).2.2.2.1,by have:=(HK.out V1 hk1).2.2.2.2;omega⟩;clear hct hmn hR4 HBk HCC d0 d2 d3;refine hK.out _ _ (.inr d4) ?_;clear hK;refine jS ?_;refine ja 8 d4 ?_;obtain⟨f0,f1,f2⟩:=HB4.c3;obtain⟨z0,z1,z2⟩:=HB4.f3
 have HG:Hid (CmpU xs w (.returned (.agg #[xg g2 n2 p2,.slice ma mn mc,xi ct])) (xt ((v4.setCell (xd (w+1) 0) (xg g2 n2 p2)).setCell (xd (w+1) 1) (.slice ma mn mc)) (w+1) 2 (xi ct))):=
  ⟨_,_,_,_,_,_,_,_,_,_,rfl,HU.set3 kV.out.1 (by omega) kV.out.2 _ _ _,⟨t,HT.2.1,rfl,rfl⟩⟩
 have HB:Hid (yA (xt ((v4.setCell (xd (w+1) 0) (xg g2 n2 p2)).setCell (xd (w+1) 1) (.slice ma mn mc)) (w+1) 2 (xi ct)) (w+1) 34 3 (w+1) [xg g2 n2 p2,.slice ma mn mc,xi ct]):=((HB4.set 0 _).set 1 _).set 2 _;have d5:(xk (((v4.setCell (xd (w+1) 0) (xg g2 n2 p2)).setCell (xd (w+1) 1) (.slice ma mn mc)).setCell (xd (w+1) 2) (xi ct)) w 0 (.slice (some ⟨g,o,none⟩) n cp):Prop):=by
  rw[World.cell?_of_block (w:=v4)]
  .exact d4
  .have h9:=(((Chg.D (S:=λb=>b=w.heap.size+1) v4 (w+1) 0 (xg g2 n2 p2) rfl).trans (Chg.D (S:=λb=>b=w.heap.size+1) _ (w+1) 1 (.slice ma mn mc) rfl)).trans (Chg.D (S:=λb=>b=w.heap.size+1) _ (w+1) 2 (xi ct) rfl)).block w (by have:=hk4.size;omega) (by omega);exact h9
 have D5:Hid (xk (((v4.setCell (xd (w+1) 0) (xg g2 n2 p2)).setCell (xd (w+1) 1) (.slice ma mn mc)).setCell (xd (w+1) 2) (xi ct)) w 0 (.slice (some ⟨g,o,none⟩) n cp)):=d5;clear d5;refine qO 9 rfl λK hK=>?_;go_simp;refine hK.out _ _ (.inr D5.out) ?_;clear hK;refine jS ?_;refine qD ?_;go_wp2_with fail;obtain⟨e0,e1,e2⟩:=HB.c3;exact AY (v:=.agg #[xg g2 n2 p2,.slice ma mn mc,xi ct]) (by simp[results,results28,go_sem,e0,e1,e2]) rfl HG.out
end Go.Proofs.YtnnagkfoiganfaaGreatDoor
