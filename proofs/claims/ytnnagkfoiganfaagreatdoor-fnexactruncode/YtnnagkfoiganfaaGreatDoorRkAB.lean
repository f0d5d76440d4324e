import Derived.Test.YtnnagkfoiganfaaGreatDoorRkAA
import Derived.Deep.RegionLaw
import Derived.Deep.AppendLies
import Derived.Maps.AppendAt
import Derived.Recover
import Derived.RecoverIn
import Derived.Stop.Asserts
import Derived.Deep.DeepCutAuto
import Derived.BigQuiet
import Derived.Deep.QuietTactic
import Derived.Lib.TrailingZeros
import Derived.Laws.Bits64b
import Derived.RangeFuncNested
import Derived.RangeFuncBound
import Derived.RangeFuncCalls
import Derived.RangeFuncLeaves
import Derived.Shelf.Abstract
import Derived.Shelf.RegionOpen
import Derived.WalkKit
import Derived.OwnWalkIn
import Derived.TacticsInMore
import Derived.LoopNIn
import Derived.LoopIn
namespace Go.Proofs.YtnnagkfoiganfaaGreatDoor
open Go.ChangeShapes Go.WideShapes Go.ChangeAt Go.RowKit Go.Deep XD XI XU XG XP XK XW XT XF XE XH _root_.List _root_.Nat Go.Shelf Go.Proofs.Tryz
set_option linter.unusedVariables false
set_option linter.unusedSimpArgs false
set_option maxRecDepth 100000
set_option maxHeartbeats 40000000
variable {j:Nat}
theorem xDl {p:List UInt8} {b:Bool} {f:UInt8->Bool} (hj:j<=p.length) (h:¬(p[j]?=some 93/\b=true)):clsM p j b f=match yBw p j with| .inr e=>.inr e| .inl (a,b,k)=>clsM p k true (wider f a b):=by
 cases b
 .exact yKk hj
 .exact yOm hj (λq=>h ⟨q,rfl⟩)
def xIg (p:ByteArray) (i:Nat) (e:Ending):Prop:=
 (∃f k,yAq (sb p) i=.inl (f,k)/\e=.returned (.tuple #[xi k,.agg #[xi 0,xi 0]]))∨(∃c k,yAq (sb p) i=.inr (c,k)/\e=.returned (.tuple #[xi 0,.agg #[xi c,xi k]]))
variable {base rb:Nat} {w:World} {a:Act} {y:Value}
theorem yB7 {x z:Value} (hx:a.tmps.getD 4 undef=x) (ht:a.tmps.getD 5 undef=(xp rb)) (he:yA w base 158 2 rb [y,z]):
  (results Tryz.f143 a.tmps).run prog w=.ok (.tuple #[x,.agg #[y,z]]) w:=by
 obtain⟨q0,q1⟩:=he.c2;have h1:a.tmps[4]?.getD undef=x:=by rw[<-Array.getD_eq_getD_getElem?];exact hx
 have h2:a.tmps[5]?.getD undef=(xp rb):=by rw[<-Array.getD_eq_getD_getElem?];exact ht
 simp[results,results143,go_sem,h1,h2,q0,q1]
theorem yIe (p:ByteArray) (i:Nat) (w:World) (hp:p.size<=200) (hi:i<p.size):
  Calls prog 143 #[p,xi i] w λe w'=>xIg p (i+1) e/\Below w w w':=by
 obtain⟨W0,a2⟩:=qE (xw w #[xi 0,xi 0] 158:World);have a1:Hid (yA W0 w 158 2 w [xi 0,xi 0]/\Below w w W0):=by rw[a2];exact⟨yAa w _ qr rfl,qB⟩
 have HS:Hid (∀a b:Value,yA (xt (W0.setCell (xd w 0) a) w 1 b) w 158 2 w [a,b]/\Below w w (xt (W0.setCell (xd w 0) a) w 1 b)):=λa b=>⟨(a1.1.set 0 a).set 1 b,yAc (yAc a1.2 qr 0 _) qr 1 _⟩;obtain⟨r0,r1⟩:=a1.1.c2;obtain⟨f0,f1⟩:=a1.1.f2;clear a1;obtain⟨ng,j0,a4,hj0,a3⟩:∃(ng:Bool) (j0:Nat),j0=(if ng=true then i+2 else i+1)/\j0<=p.size/\(yCo (sb p) (i+1) ng j0 false (λ_=>false)/\(ng=true↔(sb p)[i+1]?=some 94)):=by
  by_cases hx:(sb p)[i+1]?=some 94
  .refine⟨true,i+2,rfl,by have:=yAn hx;rw[yAe]at this;omega,?_,⟨λ_=>hx,λ_=>rfl⟩⟩;unfold yCo yAq;rw[if_pos hx];rfl
  .refine⟨false,i+1,rfl,qo,?_,⟨λq=>(by cases q),λq=>absurd q hx⟩⟩;unfold yCo yAq;rw[if_neg hx];generalize clsM (sb p) (i+1) false (λ_=>false)=r;cases r<;>rfl
 have HM0:=qH1 a3.1;have HNG:=qH1 a3.2;have HJ0:=qH1 a4;clear a3 a4;go_enter func143,ntmps143;go_upto_region 1 with fail;rw[<-a2];clear a2;by_cases hi1:i+1<p.size
 .obtain⟨x0,a0⟩:∃x,(sb p)[i+1]?=some x:=qg (by rw[yAe];exact hi1);obtain⟨_,a8⟩:=yAr a0;have a5:(i:Int)+1<(p.size:Int):=qo
  cases ng
  .have a7:((x0.toNat:Int)==94)=false:=beq_eq_false_iff_ne.2 (yA8 (c:=94) (λq=>by have h1:=HNG.2 (by rw[a0,q]);cases h1));clear a0;exact zzQ1
  .have a6:x0=94:=by have h1:=HNG.1 rfl;rw[a0]at h1;exact Option.some.inj h1
   subst a6;clear a0;go_wp2_with fail;go_loopw[6,7] (λjv nv wr=>∃(j n:Nat) (f:UInt8->Bool),j<=p.size/\n<=j/\jv=(xi j)/\nv=(xi n)/\yCo (sb p) (i+1) true j (decide (0<n)) f/\wr=W0) (λjv _ _=>p.size-(intOf jv).toNat);case atStart=>exact⟨j0,0,λ_=>false,hj0,zero_le _,congrArg (Value.int .i64) (by rw[HJ0.out];simp<;>omega),rfl,HM0.out,rfl⟩
   case round=>
    obtain⟨j,n,f,hj,hnj,rfl,rfl,hE,hwr⟩:=hrel;have HE:=qH1 hE;rw[hwr];clear hE hwr HM0 HJ0 HNG;by_cases hlt:j<p.size
    .obtain⟨x,hx⟩:∃x,(sb p)[j]?=some x:=qg (by rw[yAe];exact hlt);obtain⟨_,gx⟩:=yAr hx;have HX:=qH1 hx;have zj:(j:Int)<(p.size:Int):=qo
     clear hx;by_cases hend:x=93/\0<n
     .obtain⟨rfl,hn0⟩:=hend;have zn:(0:Int)<(n:Int):=qo
      have HF:Hid (∃f',yAq (sb p) (i+1)=.inl (f',j+1)):=by refine⟨if true=true then λc=> !f c else f,?_⟩;rw[HE.eq,decide_eq_true hn0,yOl HX.out]
      obtain⟨f',hf'⟩:=HF.out;have HF':=qH1 hf';clear hf' HF;go_wp2_with fail;exact bodyPost_ret (v:=.tuple #[xi (j+1:Nat),.agg #[xi 0,xi 0]]) (yB7 rfl rfl (HS.out (xi 0) (xi 0)).1) rfl ⟨.inl ⟨f',j+1,HF'.out,rfl⟩,(HS.out (xi 0) (xi 0)).2⟩
     .have HG:Hid (clsM (sb p) j (decide (0<n)) f=match yBw (sb p) j with| .inr e=>.inr e| .inl (a,b,k)=>clsM (sb p) k true (wider f a b)):=xDl (by rw[yAe];omega) (λq=>hend ⟨by have h1:=q.1;rw[HX.out]at h1;exact Option.some.inj h1,by simpa using q.2⟩);obtain⟨lo,k,b,hch⟩:∃lo k b,chM (sb p) j=(lo,k,b):=⟨_,_,_,rfl⟩;have HCh:=qH1 hch;have hkl:b=true->k<=p.size/\j<k:=λq=>by subst q;have:=yEx hch;rw[yAe]at this;omega
      clear hch;have hpick:((x.toNat:Int)==93)=false∨(¬(0:Int)<(n:Int)):=by
       by_cases h93:x=93
       .exact .inr (λq=>hend ⟨h93,qo⟩)
       .exact .inl (beq_eq_false_iff_ne.2 (yA8 (c:=93) h93))
      clear hend;have hpk:(((x.toNat:Int)==93)=false)∨(((x.toNat:Int)==93)=true/\n=0):=by
       rcases hpick with q|q
       .exact .inl q
       .cases hq:((x.toNat:Int)==93)
        .exact .inl rfl
        .exact .inr ⟨rfl,qo⟩
      clear hpick;rcases hpk with h93|⟨h93,hn0⟩;case' inr=>
       have zn:¬(0:Int)<(n:Int):=qo
       clear hn0
      all_goals
       go_wp2_with fail
       refine(yD1 p j W0 hp qo lo k b HCh.out).mono ?_
       rintro e w1 ⟨rfl,hw1⟩
       rw[hw1]
       clear hw1
       cases b
       case false=>
        have HF:Hid (yAq (sb p) (i+1)=.inr (2,k)):=by show yAq (sb p) (i+1)=_;rw[HE.eq,HG.out];unfold yBw;rw[HCh.out]
        go_wp2_with fail;exact bodyPost_ret (v:=.tuple #[xi 0,.agg #[xi 2,xi k]]) (yB7 rfl rfl (HS.out (xi 2) (xi k)).1) rfl ⟨.inr ⟨2,k,HF.out,rfl⟩,(HS.out (xi 2) (xi k)).2⟩
       obtain⟨hks,hjk⟩:=hkl rfl
       clear hkl
       by_cases h45:(sb p)[k]?=some 45
       .obtain⟨hk2,gk⟩:=yAr h45;have HK:=qH1 h45;have zk:(k:Int)<(p.size:Int):=qo
        obtain⟨hh,m,b2,hch2⟩:∃hh m b2,chM (sb p) (k+1)=(hh,m,b2):=⟨_,_,_,rfl⟩;have HCh2:=qH1 hch2;have hml:b2=true->m<=p.size/\k<m:=λq=>by subst q;have:=yEx hch2;rw[yAe]at this;omega
        clear hch2 h45;go_wp2_with fail;refine(yD1 p (k+1) W0 hp qo hh m b2 HCh2.out).mono ?_;rintro e w2 ⟨rfl,hw2⟩;rw[hw2];clear hw2;cases b2
        .have HF:Hid (yAq (sb p) (i+1)=.inr (2,m)):=by show yAq (sb p) (i+1)=_;rw[HE.eq,HG.out];unfold yBw;rw[HCh.out];simp only[];rw[if_pos HK.out,HCh2.out]
         go_wp2_with fail;exact bodyPost_ret (v:=.tuple #[xi 0,.agg #[xi 2,xi m]]) (yB7 rfl rfl (HS.out (xi 2) (xi m)).1) rfl ⟨.inr ⟨2,m,HF.out,rfl⟩,(HS.out (xi 2) (xi m)).2⟩
        .obtain⟨hms,hkm⟩:=hml rfl;clear hml;by_cases hlo:hh<lo
         .have zlo:(hh.toNat:Int)<(lo.toNat:Int):=by have:=UInt8.lt_iff_toNat_lt.1 hlo;omega
          have HF:Hid (yAq (sb p) (i+1)=.inr (4,j)):=by show yAq (sb p) (i+1)=_;rw[HE.eq,HG.out];unfold yBw;rw[HCh.out];simp only[];rw[if_pos HK.out,HCh2.out];simp only[];rw[if_pos hlo]
          go_wp2_with fail;exact bodyPost_ret (v:=.tuple #[xi 0,.agg #[xi 4,xi j]]) (yB7 rfl rfl (HS.out (xi 4) (xi j)).1) rfl ⟨.inr ⟨4,j,HF.out,rfl⟩,(HS.out (xi 4) (xi j)).2⟩
         .have zlo:(lo.toNat:Int)<=(hh.toNat:Int):=by have:=UInt8.le_iff_toNat_le.1 (UInt8.not_lt.1 hlo);omega
          have HF:Hid (yCo (sb p) (i+1) true m true (wider f lo hh)):=by show yCo _ _ _ _ _ _;unfold yCo;rw[HE.eq,HG.out];unfold yBw;rw[HCh.out];simp only[];rw[if_pos HK.out,HCh2.out];simp only[];rw[if_neg hlo]
          clear hlo;go_wp2;go_roundw;case rel=>exact⟨m,n+1,wider f lo hh,hms,qo,rfl,by go_num,by rw[decide_eq_true (succ_pos n)];exact HF.out,trivial⟩
          case measure=>simp[intOf];omega
       .have HK:=qH1 h45;have HF:Hid (yCo (sb p) (i+1) true k true (wider f lo lo)):=by show yCo _ _ _ _ _ _;unfold yCo;rw[HE.eq,HG.out];unfold yBw;rw[HCh.out];simp only[];rw[if_neg HK.out]
        clear h45;by_cases hke:k<p.size
        .obtain⟨y,hy⟩:∃y,(sb p)[k]?=some y:=qg (by rw[yAe];exact hke);obtain⟨_,gy⟩:=yAr hy;have zk:(k:Int)<(p.size:Int):=qo
         have zy:((y.toNat:Int)==45)=false:=beq_eq_false_iff_ne.2 (yA8 (c:=45) (λq=>HK.out (by rw[hy,q])));clear hy;go_wp2;go_roundw;case rel=>exact⟨k,n+1,wider f lo lo,hks,qo,rfl,by go_num,by rw[decide_eq_true (succ_pos n)];exact HF.out,trivial⟩
         case measure=>simp[intOf];omega
        .have zk:¬(k:Int)<(p.size:Int):=qo
         go_wp2;go_roundw;case rel=>exact⟨k,n+1,wider f lo lo,hks,qo,rfl,by go_num,by rw[decide_eq_true (succ_pos n)];exact HF.out,trivial⟩
         case measure=>simp[intOf];omega
    .have HF:Hid (yAq (sb p) (i+1)=.inr (2,p.size)):=by show yAq (sb p) (i+1)=_;rw[HE.eq,clsM,dif_neg (by rw[yAe];exact hlt),yAe]
     have zj:¬(j:Int)<(p.size:Int):=qo
     go_wp2_with fail;exact bodyPost_ret (v:=.tuple #[xi 0,.agg #[xi 2,xi p.size]]) (yB7 rfl rfl (HS.out (xi 2) (xi p.size)).1) rfl ⟨.inr ⟨2,p.size,HF.out,rfl⟩,(HS.out (xi 2) (xi p.size)).2⟩
 .have a5:¬(i:Int)+1<(p.size:Int):=qo
  cases ng
  case true=>exact absurd (HNG.1 rfl) (by rw[getElem?_eq_none (by rw[yAe];omega)];exact λq=>by cases q)
  exact zzQ1
def yBp (p:List UInt8):Int×Nat:=if 200<p.length then(1,0)else chkM p 0 0 false
theorem xFq {z:Value} (ht:a.tmps.getD 2 undef=(xp rb)) (he:yA w base 158 2 rb [y,z]):
  (results Tryz.f89 a.tmps).run prog w=.ok (.agg #[y,z]) w:=by
 obtain⟨q0,q1⟩:=he.c2;have h2:a.tmps[2]?.getD undef=(xp rb):=by rw[<-Array.getD_eq_getD_getElem?];exact ht
 simp[results,results89,go_sem,h2,q0,q1]
def ChkP (p:ByteArray) (w:World) (e:Ending) (w':World):Prop:=e=.returned (.agg #[xi (yBp (sb p)).1,xi (yBp (sb p)).2])/\Below w w w'
variable {wr:World} {k:Nat}
theorem yEj {p:ByteArray} {c:Int} (hM:yBp (sb p)=(c,k)) (hd:a.defers= []) (ht:a.tmps.getD 2 undef=(xp w)) (hx:yA wr w 158 2 w [xi 0,xi 0]) (hb:Below w w wr):
  bodyPost prog Tryz.f89 (ChkP p w) .ret a (xt (wr.setCell (xd w 0) (xi c)) w 1 (xi k)):=
 bodyPost_ret (v:=.agg #[xi c,xi k]) (xFq ht ((hx.set 0 _).set 1 _)) hd ⟨by rw[hM],yAc (yAc hb qr 0 _) qr 1 _⟩
theorem yB6 (p:ByteArray) w (hpm:p.size<=maxLen):Calls prog 89 #[p] w (ChkP p w):=by
 obtain⟨W0,a4⟩:=qE (xw w #[xi 0,xi 0] 158:World);have a1:Hid (yA W0 w 158 2 w [xi 0,xi 0]/\Below w w W0):=by rw[a4];exact⟨yAa w _ qr rfl,qB⟩
 unfold maxLen at hpm;by_cases hp:200<p.size
 .have HM:Hid (yBp (sb p)=(1,0)):=by show yBp (sb p)=_;unfold yBp;rw[if_pos (by rw[yAe];exact hp)]
  have z2:(200:Int)<(p.size:Int):=qo
  obtain⟨r0,r1⟩:=a1.1.c2;obtain⟨f0,f1⟩:=a1.1.f2;go_enter func89,ntmps89;go_upto_region 1 with fail;rw[<-a4];clear a4;go_wp2_with fail;exact yEj HM.out rfl rfl a1.1 a1.2
 have a9:p.size<=200:=qo
 have HM:Hid (yBp (sb p)=chkM (sb p) 0 0 false):=by show yBp (sb p)=_;unfold yBp;rw[if_neg (by rw[yAe];exact hp)]
 have z2:¬(200:Int)<(p.size:Int):=qo
 go_enter func89,ntmps89;go_upto_region 1 with fail;rw[<-a4];clear a4 hp;go_wp2_with fail;go_loopw[3,4,5] (λov av iv wr=>∃(i o:Nat) (a:Bool),i<=p.size/\o<=i/\ov=(xi o)/\av=a/\iv=(xi i)/\yBp (sb p)=chkM (sb p) i o a/\Below W0 W0 wr) (λ_ _ iv _=>p.size-(intOf iv).toNat);case atStart=>exact⟨0,0,false,zero_le _,zero_le _,rfl,rfl,rfl,HM.out,Below.refl _ _⟩
 case round=>
  obtain⟨i,o,a,hi,aj,rfl,rfl,rfl,hE,hb⟩:=hrel;have HE:=qH1 hE;have HX:=qH2 (a1.1.below hb) (a1.2.trans (hb.mono a1.2.size));have HB:=qH1 hb;obtain⟨r0,r1⟩:=HX.1.c2;obtain⟨f0,f1⟩:=HX.1.f2;clear hE hb HM;by_cases hlt:i<p.size
  .obtain⟨c,hc⟩:∃x,(sb p)[i]?=some x:=qg (by rw[yAe];exact hlt);obtain⟨_,gc⟩:=yAr hc;have HC:Hid ((sb p)[i]?=some c):=hc;have zi:(i:Int)<(p.size:Int):=qo
   clear hc;by_cases h40:c=40
   .subst h40;by_cases ho:o=20
    .subst ho;have HF:Hid (yBp (sb p)=(3,i)):=by show yBp (sb p)=_;rw[HE.out,yDu HC.out,if_pos rfl]
     go_wp2_with fail;exact yEj HF.out rfl rfl HX.1 HX.2
    .have zo:¬(o:Int)=20:=qo
     have HF:Hid (yBp (sb p)=chkM (sb p) (i+1) (o+1) false):=by show yBp (sb p)=_;rw[HE.out,yDu HC.out,if_neg ho]
     go_wp2;go_roundw;case rel=>exact⟨i+1,o+1,false,qo,qo,by go_num,rfl,by go_num,HF.out,HB.out⟩
     case measure=>simp[intOf];omega
   have ag:((c.toNat:Int)==40)=false:=beq_eq_false_iff_ne.2 (yA8 (c:=40) h40);by_cases h41:c=41
   .subst h41;by_cases ho:o=0
    .subst ho;have HF:Hid (yBp (sb p)=(2,i)):=by show yBp (sb p)=_;rw[HE.out,yD4 HC.out,if_pos rfl]
     go_wp2_with fail;exact yEj HF.out rfl rfl HX.1 HX.2
    .have zo:¬(o:Int)=0:=qo
     have HF:Hid (yBp (sb p)=chkM (sb p) (i+1) (o-1) true):=by show yBp (sb p)=_;rw[HE.out,yD4 HC.out,if_neg ho]
     go_wp2;go_roundw;case rel=>exact⟨i+1,o-1,true,qo,qo,congrArg (Value.int .i64) qo,rfl,by go_num,HF.out,HB.out⟩
     case measure=>simp[intOf];omega
   have af:((c.toNat:Int)==41)=false:=beq_eq_false_iff_ne.2 (yA8 (c:=41) h41);by_cases h124:c=124
   .subst h124;have HF:Hid (yBp (sb p)=chkM (sb p) (i+1) o false):=by show yBp (sb p)=_;rw[HE.out,yKl HC.out]
    go_wp2;go_roundw;case rel=>exact⟨i+1,o,false,qo,qo,rfl,rfl,by go_num,HF.out,HB.out⟩
    case measure=>simp[intOf];omega
   have ah:((c.toNat:Int)==124)=false:=beq_eq_false_iff_ne.2 (yA8 (c:=124) h124);have HL:Hid (∀q:Bool,decide (isOp c)=q->Calls prog 142 #[.int .u8 (c.toNat:Int)] wr λe w'=>e=.returned q/\w'=wr):=λq hq=>by rw[<-hq];exact yBi c wr
   by_cases hop:isOp c
   .go_wp2_with fail;refine(HL.out true (decide_eq_true hop)).mono ?_;rintro e w3 ⟨rfl,a3⟩;rw[a3];clear a3 HL;cases a
    .have HF:Hid (yBp (sb p)=(2,i)):=by show yBp (sb p)=_;rw[HE.out,yR HC.out hop];rfl
     clear hop;go_wp2_with fail;exact yEj HF.out rfl rfl HX.1 HX.2
    .have HF:Hid (yBp (sb p)=chkM (sb p) (i+1) o true):=by show yBp (sb p)=_;rw[HE.out,yR HC.out hop,if_pos rfl]
     clear hop;exact xCz
   go_wp2_with fail;refine(HL.out false (decide_eq_false hop)).mono ?_;rintro e w3 ⟨rfl,a3⟩;rw[a3];have ab:=qH1 hop;clear a3 HL hop;by_cases h91:c=91
   .subst h91;go_wp2_with fail;refine(yIe p i wr a9 hlt).mono ?_;rintro e w4 ⟨hP,a2⟩;have a5:Below W0 W0 w4:=HB.trans (a2.mono HB.size);have ai:=a2.size;have a8:=HX.2.size;rcases hP with⟨f,k,hk,rfl⟩|⟨c4,k,hk,rfl⟩
    .have a6:=yBj hk;rw[yAe]at a6;obtain⟨W5,a0⟩:=qE (xw w4 #[xi 0,xi 0] 158:World);have HF:Hid (yBp (sb p)=chkM (sb p) k o true/\Below W0 W0 W5):=by refine⟨by rw[HE.out,yD5 HC.out,hk],?_⟩;rw[a0];exact a5.trans ((Below.refl _ _).alloc (by have:=HB.size;omega) _)
     clear hk a2 a5 r0 r1 f0 f1;go_wp2_with fail;rw[<-a0];go_roundw;case rel=>exact⟨k,o,true,a6.2,qo,rfl,rfl,rfl,HF.1,HF.2⟩
     case measure=>simp[intOf];omega
    .have aa:=yMt hk;obtain⟨W5,a0⟩:=qE (xw w4 #[xi c4,xi k] 158:World);have HF:Hid (yBp (sb p)=(c4,k)/\yA W5 w 158 2 w [xi 0,xi 0]/\Below w w W5/\yA W5 w 158 2 w4 [xi c4,xi k]):=by
      have a7:=qN a0
      refine⟨by rw[HE.out,yD5 HC.out,hk],(HX.1.below a2).below a7,(HX.2.trans (a2.mono a8)).trans (a7.mono qo),?_⟩;rw[a0];exact yAa w4 _ qo rfl
     have ak:(c4 != 0)=true:=by simpa using aa
     clear hk a2 a5 r0 r1 f0 f1;go_upto_region 29 with fail;rw[<-a0];clear a0;obtain⟨b0,b1⟩:=HF.2.2.2.c2;obtain⟨r0,r1⟩:=HF.2.1.c2;obtain⟨f0,f1⟩:=HF.2.1.f2;go_wp2_with fail;exact yEj HF.1 rfl rfl HF.2.1 HF.2.2.1
   have ae:((c.toNat:Int)==91)=false:=beq_eq_false_iff_ne.2 (yA8 (c:=91) h91);by_cases h93:c=93
   .subst h93;have HF:Hid (yBp (sb p)=(2,i)):=by show yBp (sb p)=_;rw[HE.out,yQ9 HC.out]
    go_wp2_with fail;exact yEj HF.out rfl rfl HX.1 HX.2
   have ac:((c.toNat:Int)==93)=false:=beq_eq_false_iff_ne.2 (yA8 (c:=93) h93);by_cases h92:c=92
   .subst h92;by_cases hl1:i+1=p.size
    .have HF:Hid (yBp (sb p)=(2,p.size)):=by show yBp (sb p)=_;rw[HE.out,yHu HC.out,if_pos (by rw[yAe];exact hl1),yAe]
     have zl:(i:Int)+1=(p.size:Int):=qo
     go_wp2_with fail;exact yEj HF.out rfl rfl HX.1 HX.2
    .have HF:Hid (yBp (sb p)=chkM (sb p) (i+2) o true):=by show yBp (sb p)=_;rw[HE.out,yHu HC.out,if_neg (by rw[yAe];exact hl1)]
     have zl:¬(i:Int)+1=(p.size:Int):=qo
     go_wp2;go_roundw;case rel=>exact⟨i+2,o,true,qo,qo,rfl,rfl,by go_num,HF.out,HB.out⟩
     case measure=>simp[intOf];omega
   have ad:((c.toNat:Int)==92)=false:=beq_eq_false_iff_ne.2 (yA8 (c:=92) h92);have HF:Hid (yBp (sb p)=chkM (sb p) (i+1) o true):=by show yBp (sb p)=_;rw[HE.out,yFe HC.out (λq=>q.elim ab.out (λq=>q.elim h124 (λq=>q.elim h41 h93))) h40 h91 h92]
   exact xCz
  .have zi:¬(i:Int)<(p.size:Int):=qo
   by_cases ho:0<o
   .have HF:Hid (yBp (sb p)=(2,p.size)):=by show yBp (sb p)=_;rw[HE.out,yHv (by rw[yAe];exact hlt),if_pos ho,yAe]
    have zo:(0:Int)<(o:Int):=qo
    go_wp2_with fail;exact yEj HF.out rfl rfl HX.1 HX.2
   .have HF:Hid (yBp (sb p)=(0,0)):=by show yBp (sb p)=_;rw[HE.out,yHv (by rw[yAe];exact hlt),if_neg ho]
    have zo:¬(0:Int)<(o:Int):=qo
    go_wp2_with fail;exact yEj HF.out rfl rfl HX.1 HX.2
def cut (p:List UInt8) (i k:Nat):List UInt8:=(p.drop i).take (k-i)
theorem yDe (p:List UInt8) (i:Nat):cut p i i= []:=by simp[cut]
variable {p:List UInt8} {i:Nat}
theorem yAw (h:k<=p.length):(cut p i k).length=k-i:=by simp[cut];omega
theorem yBq (h1:i<=j) (h2:j<=k):cut p i k=cut p i j++cut p j k:=by
 unfold cut;have:k-i=(j-i)+(k-j):=qo
 rw[this,take_add,drop_drop];congr 3;omega
theorem yCa {c:UInt8} (h:p[i]?=some c):cut p i (i+1)= [c]:=by have hi:=yAn h;unfold cut;rw[drop_eq_getElem_cons hi,Nat.add_sub_cancel_left,yCj h];simp
abbrev yB3 (c:UInt8):Prop:=yFw c∨c=40∨c=91∨c=46∨c=92
def RepG (A:List UInt8->Pat->Prop) (xs:List UInt8) (t:Pat):Prop:=
 ∃(ys ops:List UInt8) (a:Pat),xs=ys++ops/\A ys a/\(∀c∈ops,isOp c)/\t=(if ops= []then a else .rep a (ops.any (· != 43)) (ops.any (· != 63)))
def SeqG (A:List UInt8->Pat->Prop):List Pat->List UInt8->Prop
 | [],xs=>xs= []
 |t::ts,xs=>∃ys zs,xs=ys++zs/\RepG A ys t/\SeqG A ts zs
def AltG (A:List UInt8->Pat->Prop):List (List Pat)->List UInt8->Prop
 | [],xs=>False
 | [ts],xs=>SeqG A ts xs
 |ts::os,xs=>∃ys zs,xs=ys++124::zs/\SeqG A ts ys/\AltG A os zs
def yAm:Nat->List UInt8->Pat->Prop
 |0,_,_=>False
 |n+1,xs,t=>(∃c,xs= [c]/\¬yB3 c/\t=.byte c)∨(xs= [46]/\t=.cls (λ_=>true))∨(∃c,xs= [92,c]/\t=.byte c)∨
   (∃ys os,xs=40::ys++ [41]/\AltG (yAm n) os ys/\t=.alt os)∨(∃p i k f,p[i]?=some 91/\yAq p (i+1)=.inl (f,k)/\xs=cut p i k/\t=.cls f)
variable {A B:List UInt8->Pat->Prop} {t:Pat}
theorem RepG.mono (h:∀xs t,A xs t->B xs t) {xs:List UInt8}:RepG A xs t->RepG B xs t:=fun⟨ys,ops,a,h1,h2,h3,h4⟩=>⟨ys,ops,a,h1,h _ _ h2,h3,h4⟩
theorem SeqG.mono (h:∀xs t,A xs t->B xs t):∀{ts:List Pat} {xs:List UInt8},SeqG A ts xs->SeqG B ts xs
 | [],_,q=>q
 |_::_,_,⟨ys,zs,h1,h2,h3⟩=>⟨ys,zs,h1,h2.mono h,SeqG.mono h h3⟩
theorem AltG.mono (h:∀xs t,A xs t->B xs t):∀{os:List (List Pat)} {xs:List UInt8},AltG A os xs->AltG B os xs
 | [],_,q=>q
 | [_],_,q=>SeqG.mono h q
 |_::_::_,_,⟨ys,zs,h1,h2,h3⟩=>⟨ys,zs,h1,h2.mono h,AltG.mono h h3⟩
theorem yAm.mono:∀{n m:Nat} {xs:List UInt8} {t:Pat},n<=m->yAm n xs t->yAm m xs t
 |0,_,_,_,_,h=>h.elim
 |n+1,0,_,_,hm,_=>qo
 |n+1,m+1,xs,t,hm,h=>by
  rcases h with h|h|h|⟨ys,os,h1,h2,h3⟩|h
  .exact .inl h
  .exact .inr (.inl h)
  .exact .inr (.inr (.inl h))
  .exact .inr (.inr (.inr (.inl ⟨ys,os,h1,h2.mono (λ_ _ q=>yAm.mono qo q),h3⟩)))
  .exact .inr (.inr (.inr (.inr h)))
theorem SeqG.snoc:∀{ts:List Pat} {xs ys:List UInt8} {t:Pat},SeqG A ts xs->RepG A ys t->SeqG A (ts++ [t]) (xs++ys)
 | [],xs,ys,t,h,k=>by subst h;exact⟨ys,[],by simp,k,rfl⟩
 |s::ts,xs,ys,t,⟨us,vs,h1,h2,h3⟩,k=>⟨us,vs++ys,by rw[h1];simp,h2,SeqG.snoc h3 k⟩
theorem AltG.snoc:∀{os:List (List Pat)} {xs ys:List UInt8} {ts:List Pat},AltG A os xs->SeqG A ts ys->AltG A (os++ [ts]) (xs++124::ys)
 | [],_,_,_,h,_=>h.elim
 | [s],xs,ys,ts,h,k=>⟨xs,ys,rfl,h,k⟩
 |s::o::os,xs,ys,ts,⟨us,vs,h1,h2,h3⟩,k=>⟨us,vs++124::ys,by rw[h1];simp,h2,AltG.snoc h3 k⟩
structure yBy (p:List UInt8) (o i k:Nat) (t:Pat):Prop where
 lt:i<k
 le:k<=p.length
 chk:∀a,chkM p i o a=chkM p k o true
 gr:∃n,yAm n (cut p i k) t
structure yT9 (p:List UInt8) (o i k:Nat) (t:Pat):Prop where
 lt:i<k
 le:k<=p.length
 chk:∀a,chkM p i o a=chkM p k o true
 next:∀c,p[k]?=some c->¬isOp c
 gr:∃n,RepG (yAm n) (cut p i k) t
structure yKy (p:List UInt8) (o i k:Nat) (ts:List Pat):Prop where
 lei:i<=k
 le:k<=p.length
 chk:chkM p i o false=chkM p k o false
 gr:∃n,SeqG (yAm n) ts (cut p i k)
structure yDn (p:List UInt8) (o i k:Nat) (os:List (List Pat)):Prop where
 lei:i<=k
 le:k<=p.length
 chk:chkM p i o false=chkM p k o false
 gr:∃n,AltG (yAm n) os (cut p i k)
variable {o:Nat}
theorem yKy.nil (h:i<=p.length):yKy p o i i []:=⟨Nat.le_refl _,h,rfl,0,yDe p i⟩
variable {ts:List Pat}
theorem yKy.more (h:yKy p o i j ts) (r:yT9 p o j k t):yKy p o i k (ts++ [t]):=by
 obtain⟨n,hn⟩:=h.gr;obtain⟨m,hm⟩:=r.gr;refine⟨Nat.le_trans h.lei (Nat.le_of_lt r.lt),r.le,?_,max n m,?_⟩
 .rw[h.chk,r.chk,xB9 r.next]
 .rw[yBq h.lei (Nat.le_of_lt r.lt)];exact xCs
theorem yDn.one (h:yKy p o i k ts):yDn p o i k [ts]:=⟨h.lei,h.le,h.chk,h.gr⟩
variable {os:List (List Pat)}
theorem yDn.more (h:yDn p o i j os) (hb:p[j]?=some 124) (s:yKy p o (j+1) k ts):yDn p o i k (os++ [ts]):=by
 obtain⟨n,hn⟩:=h.gr;obtain⟨m,hm⟩:=s.gr;have hl:=s.lei;refine⟨Nat.le_trans h.lei (by omega),s.le,?_,max n m,?_⟩
 .rw[h.chk,yKl hb,s.chk]
 .rw[yBq h.lei (show j<=k by omega),yBq (show j<=j+1 by omega) hl,yCa hb];exact xCs
theorem yBy.group (h:p[i]?=some 40) (ho:¬o=20) (a:yDn p (o+1) (i+1) j os) (hj:p[j]?=some 41):yBy p o i (j+1) (.alt os):=by
 obtain⟨n,hn⟩:=a.gr;have hl:=a.lei;refine⟨by omega,yAn hj,λb=>?_,n+1,.inr (.inr (.inr (.inl ⟨_,os,?_,hn,rfl⟩)))⟩
 .rw[yDu h,if_neg ho,a.chk,yD4 hj,if_neg (by omega),Nat.add_sub_cancel]
 .rw[yBq (show i<=i+1 by omega) (show i+1<=j+1 by omega),yCa h,yBq hl (show j<=j+1 by omega),yCa hj];simp
theorem yBy.plain {c:UInt8} (h:p[i]?=some c) (hc:¬yB3 c):yBy p o i (i+1) (.byte c):=by refine⟨qo,yAn h,λa=>yFe h (λq=>hc (.inl q)) (λq=>hc (.inr (.inl q))) (λq=>hc (.inr (.inr (.inl q)))) (λq=>hc (.inr (.inr (.inr (.inr q))))),1,.inl ⟨c,yCa h,hc,rfl⟩⟩
theorem yBy.dot (h:p[i]?=some 46):yBy p o i (i+1) (.cls (λ_=>true)):=by refine⟨qo,yAn h,λa=>yFe h qj qj qj qj,1,.inr (.inl ⟨yCa h,rfl⟩)⟩
theorem yBy.esc {c:UInt8} (h:p[i]?=some 92) (hc:p[i+1]?=some c):yBy p o i (i+1+1) (.byte c):=by have hl:=yAn hc;refine⟨by omega,hl,λa=>by rw[yHu h,if_neg (by omega)],1,.inr (.inr (.inl ⟨c,?_,rfl⟩))⟩;rw[yBq (show i<=i+1 by omega) (show i+1<=i+1+1 by omega),yCa h,yCa hc];rfl
theorem yBy.class {f:UInt8->Bool} (h:p[i]?=some 91) (hc:yAq p (i+1)=.inl (f,k)):yBy p o i k (.cls f):=by have hl:=yBj hc;exact⟨qo,hl.2,λa=>by rw[yD5 h,hc],1,.inr (.inr (.inr (.inr ⟨p,i,k,f,h,hc,rfl,rfl⟩)))⟩
structure yL1 (p:List UInt8) (o i j k:Nat) (a:Pat) (op rp:Bool):Prop where
 atom:yBy p o i j a
 lt:j<=k
 le:k<=p.length
 chk:chkM p j o true=chkM p k o true
 ops:∀c∈cut p j k,isOp c
 opt:op=(cut p j k).any (· != 43)
 rpt:rp=(cut p j k).any (· != 63)
variable {a:Pat}
theorem yL1.zero (h:yBy p o i j a):yL1 p o i j j a false false:=
 ⟨h,Nat.le_refl _,h.le,rfl,by rw[yDe];simp,by rw[yDe];rfl,by rw[yDe];rfl⟩
variable {rp:Bool}
theorem yL1.more {op:Bool} {c:UInt8} (h:yL1 p o i j k a op rp) (hc:p[k]?=some c) (hop:isOp c):yL1 p o i j (k+1) a (op || c != 43) (rp || c != 63):=by
 have a0:cut p j (k+1)=cut p j k++ [c]:=by rw[yBq h.lt (show k<=k+1 by omega),yCa hc]
 refine⟨h.atom,qw h.lt,yAn hc,?_,?_,?_,?_⟩
 .rw[h.chk,yR hc hop,if_pos rfl]
 .rw[a0];intro d hd;rcases List.mem_append.1 hd with hd|hd
  .exact h.ops d hd
  .simp at hd;subst hd;exact hop
 .rw[a0,any_append,<-h.opt];simp
 .rw[a0,any_append,<-h.rpt];simp
theorem yL1.rep {op:Bool} (h:yL1 p o i j k a op rp) (hn:∀c,p[k]?=some c->¬isOp c):yT9 p o i k (if j=k then a else .rep a op rp):=by
 obtain⟨n,hg⟩:=h.atom.gr;have h1:=h.atom.lt;have h2:=h.lt;refine⟨qo,h.le,λb=>by rw[h.atom.chk,h.chk],hn,n,cut p i j,cut p j k,a,yBq qo h2,hg,h.ops,?_⟩;by_cases hjk:j=k
 .subst hjk;rw[if_pos rfl,if_pos (yDe p j)]
 .have:¬cut p j k= []:=λq=>by have:=yAw (p:=p) (i:=j) h.le;rw[q]at this;simp at this;omega
  rw[if_neg hjk,if_neg this,<-h.opt,<-h.rpt]
abbrev yRd (b:UInt8):Value:=.iface 348 (.agg #[.int .u8 (b.toNat:Int)])
def Bet (a b:Nat):Nat->Prop:=λk=>a<=k/\k<b
structure yC8 (w:World) (R:Nat->Prop) (g:Nat) (vs:List Value):Prop where
 blk:R g
 lt:g<w.heap.size
 val:∀(i:Nat) v,vs[i]?=some v->(xk w g i v:Prop)
variable {w':World} {R:Nat->Prop}
theorem yC8.chg {S:Nat->Prop} {g:Nat} {vs:List Value} (h:yC8 w R g vs) (hc:Chg S w w') (hS:∀k,S k->¬R k):yC8 w' R g vs:=
 ⟨h.blk,Nat.lt_of_lt_of_le h.lt hc.size,λi v hv=>by rw[hc.cell (p:=(xd g i)) h.lt (λq=>hS g q h.blk)];exact h.val i v hv⟩
def yRk (N:Pat->Value->Prop) (w:World) (lo:Nat->Prop) (ts:List Pat) (u:Value):Prop:=
 (ts= []/\u=xh)∨∃(g cp:Nat) (us:List Value),u=(xg g ts.length cp)/\us.length=ts.length/\yC8 w lo g us/\∀(i:Nat) x t,us[i]?=some x->ts[i]?=some t->N t x
def yUd (N:Pat->Value->Prop) (w:World) (lo:Nat->Prop) (os:List (List Pat)) (u:Value):Prop:=
 ∃(g cp:Nat) (us:List Value),u=(xg g os.length cp)/\us.length=os.length/\yC8 w lo g us/\∀(i:Nat) x ts,us[i]?=some x->os[i]?=some ts->yRk N w lo ts x
def yDl:Nat->World->(Nat->Prop)->Pat->Value->Prop
 |0,_,_,_,_=>False
 |n+1,w,lo,.byte b,v=>v=yRd b
 |n+1,w,lo,.cls f,v=>v=clsV f
 |n+1,w,lo,.rep t o r,v=>∃u,v=.iface 362 (.agg #[u,o,r])/\yDl n w lo t u
 |n+1,w,lo,.alt os,v=>∃u,v=.iface 304 (.agg #[u])/\yUd (yDl n w lo) w lo os u
variable {lo lo':Nat->Prop} {u:Value}
theorem yRk.mono {N M:Pat->Value->Prop} (hN:∀t v,N t v->M t v) (hV:∀g vs,yC8 w lo g vs->yC8 w' lo' g vs):yRk N w lo ts u->yRk M w' lo' ts u
 | .inl h=>.inl h
 | .inr ⟨g,cp,us,h1,h2,h3,h4⟩=>.inr ⟨g,cp,us,h1,h2,hV _ _ h3,λi x t hx ht=>hN _ _ (h4 i x t hx ht)⟩
theorem yUd.mono {N M:Pat->Value->Prop} (hN:∀t v,N t v->M t v) (hV:∀g vs,yC8 w lo g vs->yC8 w' lo' g vs):yUd N w lo os u->yUd M w' lo' os u
 |⟨g,cp,us,h1,h2,h3,h4⟩=>⟨g,cp,us,h1,h2,hV _ _ h3,λi x t hx ht=>(h4 i x t hx ht).mono hN hV⟩
theorem yDl.mono:∀{n m:Nat} {w w':World} {lo lo':Nat->Prop} (hV:∀g vs,yC8 w lo g vs->yC8 w' lo' g vs) {t:Pat} {v:Value},n<=m->yDl n w lo t v->yDl m w' lo' t v
 |0,_,_,_,_,_,_,_,_,_,h=>h.elim
 |n+1,0,_,_,_,_,_,_,_,hm,_=>qo
 |n+1,m+1,w,w',lo,lo',hV,.byte b,v,_,h=>h
 |n+1,m+1,w,w',lo,lo',hV,.cls f,v,_,h=>h
 |n+1,m+1,w,w',lo,lo',hV,.rep t o r,v,hm,⟨u,h1,h2⟩=>⟨u,h1,yDl.mono hV qo h2⟩
 |n+1,m+1,w,w',lo,lo',hV,.alt os,v,hm,⟨u,h1,h2⟩=>⟨u,h1,h2.mono (λt v q=>yDl.mono hV qo q) hV⟩
def yBt (w:World) (lo:Nat->Prop) (t:Pat) (v:Value):Prop:=∃n,yDl n w lo t v
def yFz (w:World) (lo:Nat->Prop) (ts:List Pat) (u:Value):Prop:=∃n,yRk (yDl n w lo) w lo ts u
def yDo (w:World) (lo:Nat->Prop) (os:List (List Pat)) (u:Value):Prop:=∃n,yUd (yDl n w lo) w lo os u
theorem yI6 {S:Nat->Prop} (hc:Chg S w w') (hS:∀k,S k->¬lo k) (hl:∀k,k<w.heap.size->lo k->lo' k):∀g vs,yC8 w lo g vs->yC8 w' lo' g vs:=λg vs h=>by
 have h1:=h.chg hc hS
 exact⟨hl g h.lt h1.blk,h1.lt,h1.val⟩
theorem yBt.move {S:Nat->Prop} {v:Value} (h:yBt w lo t v) (hc:Chg S w w') (hS:∀k,S k->¬lo k) (hl:∀k,k<w.heap.size->lo k->lo' k):yBt w' lo' t v:=by obtain⟨n,hn⟩:=h;exact⟨n,hn.mono (yI6 hc hS hl) qr⟩
theorem yFz.move {S:Nat->Prop} (h:yFz w lo ts u) (hc:Chg S w w') (hS:∀k,S k->¬lo k) (hl:∀k,k<w.heap.size->lo k->lo' k):yFz w' lo' ts u:=by exact xCo
theorem yDo.move {S:Nat->Prop} (h:yDo w lo os u) (hc:Chg S w w') (hS:∀k,S k->¬lo k) (hl:∀k,k<w.heap.size->lo k->lo' k):yDo w' lo' os u:=by exact xCo
theorem yJq (w:World) (lo:Nat->Prop) (b:UInt8):yBt w lo (.byte b) (yRd b):=⟨1,rfl⟩
theorem yMb (w:World) (lo:Nat->Prop) (f:UInt8->Bool):yBt w lo (.cls f) (clsV f):=⟨1,rfl⟩
theorem yWf {v:Value} (h:yBt w lo t v) (o r:Bool):yBt w lo (.rep t o r) (.iface 362 (.agg #[v,o,r])):=by obtain⟨n,hn⟩:=h;exact⟨n+1,v,rfl,hn⟩
theorem yWg (h:yDo w lo os u):yBt w lo (.alt os) (.iface 304 (.agg #[u])):=by obtain⟨n,hn⟩:=h;exact⟨n+1,u,rfl,hn⟩
theorem yPu:∀{ts:List Pat} {us:List Value},us.length=ts.length->(∀(i:Nat) x t,us[i]?=some x->ts[i]?=some t->yBt w lo t x)->∃n,∀(i:Nat) x t,us[i]?=some x->ts[i]?=some t->yDl n w lo t x
 | [],[],_,_=>⟨0,λi x t hx=>by simp at hx⟩
 |t::ts,u::us,hl,h=>by
  obtain⟨n,hn⟩:=yPu (ts:=ts) (us:=us) (by simpa using hl) (λi x t hx ht=>h (i+1) x t (by simpa using hx) (by simpa using ht))
  obtain⟨m,hm⟩:=h 0 u t rfl rfl
  refine⟨max n m,λi x t' hx ht=>?_⟩
  cases i with
  |zero=>simp at hx ht;subst hx ht;exact hm.mono (λ_ _ q=>q) (Nat.le_max_right _ _)
  |succ i=>exact(hn i x t' (by simpa using hx) (by simpa using ht)).mono (λ_ _ q=>q) (Nat.le_max_left _ _)
theorem yUo:∀{os:List (List Pat)} {us:List Value},us.length=os.length->(∀(i:Nat) x ts,us[i]?=some x->os[i]?=some ts->yFz w lo ts x)->∃n,∀(i:Nat) x ts,us[i]?=some x->os[i]?=some ts->yRk (yDl n w lo) w lo ts x
 | [],[],_,_=>⟨0,λi x t hx=>by simp at hx⟩
 |t::ts,u::us,hl,h=>by
  obtain⟨n,hn⟩:=yUo (os:=ts) (us:=us) (by simpa using hl) (λi x t hx ht=>h (i+1) x t (by simpa using hx) (by simpa using ht))
  obtain⟨m,hm⟩:=h 0 u t rfl rfl
  refine⟨max n m,λi x t' hx ht=>?_⟩
  cases i with
  |zero=>simp at hx ht;subst hx ht;exact hm.mono (λ_ _ q=>q.mono (λ_ _ q=>q) (Nat.le_max_right _ _)) (λ_ _ q=>q)
  |succ i=>exact(hn i x t' (by simpa using hx) (by simpa using ht)).mono (λ_ _ q=>q.mono (λ_ _ q=>q) (Nat.le_max_left _ _)) (λ_ _ q=>q)
theorem yBt.iface {v:Value} (h:yBt w lo t v):∃T c,v=.iface T (.agg c):=by
 obtain⟨n,hn⟩:=h;cases n with
 |zero=>exact hn.elim
 |succ n=>
  cases t with
  |byte b=>exact⟨_,_,hn⟩
  |cls f=>exact⟨_,_,hn⟩
  |rep t o r=>obtain⟨u,h1,_⟩:=hn;exact⟨_,_,h1⟩
  |alt os=>obtain⟨u,h1,_⟩:=hn;exact⟨_,_,h1⟩
def OwnN (w:World) (base:Nat) (v:Value) (us:List Value):Prop:=w.ownsRow base 346 1 v us.length us
def OwnQ (w:World) (base g cp:Nat) (us:List Value):Prop:=w.ownsRow base 316 1 (xg g us.length cp) us.length us
variable {cp:Nat} {us:List Value}
theorem OwnQ.lt {g:Nat} (h:OwnQ w base g cp us):base<=g/\g<w.heap.size:=World.ownsRow.lt h g rfl
theorem OwnQ.vals {g:Nat} (h:OwnQ w base g cp us) (hR:R g):yC8 w R g us:=by refine⟨hR,h.lt.2,λi v hv=>?_⟩;have hi:=qf hv;rw[World.ownsRow.cellAt h i qo,hv]
theorem OwnN.seq {v:Value} (h:OwnN w base v us) (hl:us.length=ts.length) (hN:∀(i:Nat) x t,us[i]?=some x->ts[i]?=some t->yBt w R t x) (hb:∀k,v.ownBlock=some k->R k):yFz w R ts v:=by
 obtain⟨n,hn⟩:=yPu hl hN;refine⟨n,?_⟩;have h':=h;rcases h.2 with⟨rfl,h0⟩|⟨g,cap,cur,rfl,h1,h2,h3⟩
 .left;refine⟨length_eq_zero_iff.1 qo,rfl⟩
 .right;have a0:=World.ownsRow.lt h' g rfl;refine⟨g,cap,us,by rw[hl],hl,⟨hb g rfl,a0.2,λi v hv=>?_⟩,hn⟩;have hi:=qf hv;rw[World.ownsRow.cellAt h' i qo,hv]
theorem Tryz.infoNode:(prog.info? 346).map (λi=>(i.zero,i.size,i.bytes))=some (some .nilIface,1,16):=qk
theorem Tryz.infoSeq:(prog.info? 316).map (λi=>(i.zero,i.size,i.bytes))=some (some (.agg #[xh]),1,24):=qk
def yI5 (p:ByteArray) (base g i o:Nat) (w:World) (R:Nat->Pat->Prop) (e:Ending) (w':World):Prop:=
 Chg (λk=>k=g) w w'/\((∃(k:Nat) (t:Pat) (v:Value),R k t/\e=.returned v/\yBt w' (Bet w w') t v/\PrAt w' base g p k o)∨(∃(c:Int) (k:Nat),¬c=0/\(∀a,chkM (sb p) i o a=(c,k))/\e=Pf c k))
def xAj (p:ByteArray) (base g i o:Nat) (w:World) (e:Ending) (w':World):Prop:=
 Chg (λk=>k=g) w w'/\((∃(k:Nat) (os:List (List Pat)) (u:Value),yDn (sb p) o i k os/\(∀c,(sb p)[k]?=some c->yFw c/\¬c=124)/\e=.returned (.agg #[u])/\yDo w' (Bet w w') os u/\PrAt w' base g p k o)∨(∃(c:Int) (k:Nat),¬c=0/\chkM (sb p) i o false=(c,k)/\e=Pf c k))
def AltC (p:ByteArray) (m:Nat):Prop:=∀(base g i o:Nat) (w:World),p.size-i<=m->i<=p.size->o<=20->PrAt w base g p i o->Calls prog 229 #[xp g] w (xAj p base g i o w)
def xCh (p:ByteArray) (m:Nat):Prop:=∀(base g i o:Nat) (w:World),p.size-i<=m->i<p.size->o<=20->(∀c,(sb p)[i]?=some c->¬yFw c)->PrAt w base g p i o->Calls prog 260 #[xp g] w (yI5 p base g i o w (yBy (sb p) o i))
variable {p:ByteArray}
theorem PrAt.open {g:Nat} (h:PrAt w base g p i o) (o':Nat):PrAt (xt w g 2 (xi o')) base g p i o':=yA.set h 2 (xi o')
theorem yDo.slice (h:yDo w lo os u):∃g n cp,u=(xg g n cp):=by obtain⟨n,g,cp,us,h1,_⟩:=h;exact⟨g,_,cp,h1⟩
variable {m:Nat}
theorem xB0 (H:AltC p m) (hp:p.size<=200) (base g q o:Nat) w (hm:p.size-(q+1)<=m) (hq:(sb p)[q]?=some 40) (ho:o<=20) (h:PrAt w base g p (q+1) o):
  Calls prog 264 #[xp g] w (yI5 p base g q o w (yBy (sb p) o q)):=by
 have HP:Hid (PrAt w base g p (q+1) o/\(sb p)[q]?=some 40):=⟨h,hq⟩;have aj:=h.lt.2;have ae:q+1<=p.size:=by have:=yAn hq;rw[yAe]at this;omega
 have c1:=h.cell (j:=1) rfl;have c2:=h.cell (j:=2) rfl;have f2:=h.frozen 2;clear h hq;by_cases ho20:o=20
 .subst ho20;go_enter func264,ntmps264;go_wp2_with fail;exact⟨rfl,Chg.refl _ _,.inr ⟨3,q,qj,λa=>by rw[yDu HP.2,if_pos rfl],by first|rfl|simp⟩⟩
 have ag:¬(o:Int)=20:=qo
 have HW:Hid (PrAt (xt w g 2 (xi (o+1:Nat))) base g p (q+1) (o+1)/\Chg (λk=>k=g) w (xt w g 2 (xi (o+1:Nat)))):=⟨PrAt.open HP.1 (o+1),Chg.of_set w g 2 _ rfl⟩;obtain⟨W,hW⟩:=qW (xt w g 2 (xi (o+1:Nat)));have a9:W.heap.size=w.heap.size:=by rw[hW];simp[World.setCell]
 rw[<-hW]at HW;have ac:W=(xt w g 2 (xi ((o:Int)+1))):=hW;have HZ:Hid (W.heap.size=w.heap.size):=a9;clear hW a9;go_enter func264,ntmps264;go_upto_region 4 with fail;rw[<-ac];clear ac c1 c2 f2;go_wp2_with fail;refine(H base g (q+1) (o+1) W hm ae qo HW.1).mono ?_;rintro e w2 ⟨a8,(⟨k,os,u,hA,hN,rfl,hU,ad⟩|⟨c,k,af,hk,rfl⟩)⟩;case inr=>
  refine⟨rfl,HW.2.trans a8,.inr ⟨c,k,af,λa=>?_,rfl⟩⟩;rw[yDu HP.2,if_neg ho20,hk]
 obtain⟨gu,nu,cu,rfl⟩:=hU.slice;have ah:k<=p.size:=by have:=hA.le;rw[yAe]at this;exact this
 have HA:Hid (yDn (sb p) (o+1) (q+1) k os/\(∀c,(sb p)[k]?=some c->yFw c/\¬c=124)):=⟨hA,hN⟩;have a4:Hid (yDo w2 (Bet w w2.heap.size) os (.slice (some ⟨gu,0,none⟩) nu cu)/\PrAt w2 base g p k (o+1)/\Chg (λk=>k=g) w w2):=⟨by rw[<-HZ.out];exact hU,ad,HW.2.trans a8⟩;clear a8 hA hN hU ad HW;obtain⟨W3,a5⟩:=qW (w2.alloc (Obj.cells #[.slice (some ⟨gu,0,none⟩) nu cu] 304));have ab:=a4.2.2.size;have a0:Hid (yDo W3 (Bet w.heap.size w2.heap.size) os (.slice (some ⟨gu,0,none⟩) nu cu)/\PrAt W3 base g p k (o+1)/\Chg (λk=>k=g) w W3/\yA W3 w.heap.size 304 1 w2.heap.size [.slice (some ⟨gu,0,none⟩) nu cu]):=by
  have hb:Below w2 w2 W3:=by rw[a5];exact qB
  refine⟨a4.1.move (S:=λ_=>False) (Chg.of_below hb) (λk q=>q.elim) (λk _ q=>q),yA.below a4.2.1 hb,a4.2.2.trans (Chg.of_below hb),?_⟩;rw[a5];exact yAa w2 _ ab rfl
 clear a4;go_upto_region 5 with fail;rw[<-a5];obtain⟨IB,a7⟩:=qE w2.heap.size;rw[<-a7]at a0;rw[<-a7];have ai:w.heap.size<=IB:=by omega
 clear a5 a7 ab;go_wp2_with fail;refine(yD0 41 a0.2.1 hp).mono ?_;rintro e w4 ⟨a1,(⟨hx,rfl,a2⟩|⟨hx,rfl,a2⟩)⟩;case inr=>
  have HF:Hid (PrAt w4 base g p k (o+1)/\Chg (λk=>k=g) w w4/\¬(sb p)[k]?=some 41):=⟨a2,a0.2.2.1.trans a1,hx⟩;clear a1 hx a2;go_wp2_with fail;refine(ySn HF.1).mono ?_;rintro e w5 ⟨rfl,rfl⟩;refine⟨rfl,HF.2.1,.inr ⟨2,k,by decide,λa=>?_,rfl⟩⟩;rw[yDu HP.2,if_neg ho20,HA.1.chk];by_cases hk:k<(sb p).length
  .obtain⟨c,hc⟩:∃c,(sb p)[k]?=some c:=qg hk;obtain⟨h1,h2⟩:=HA.2 c hc;rcases h1 with h1|h1|h1|h1
   .rw[yR hc h1];rfl
   .exact absurd h1 h2
   .subst h1;exact absurd hc HF.2.2
   .subst h1;rw[yQ9 hc]
  .rw[yHv hk,if_pos (by omega)];have:=HA.1.le;rw[show k=(sb p).length by omega]
 have HF:Hid (yDo w4 (Bet w IB) os (xg gu nu cu)/\PrAt w4 base g p (k+1) (o+1)/\Chg (λk=>k=g) w w4/\yA w4 w 304 1 IB [xg gu nu cu]/\(sb p)[k]?=some 41):=
  ⟨a0.1.move a1 (λk q=>by subst q;exact λz=>qw z.1) (λk _ q=>q),a2,a0.2.2.1.trans a1,yA.chg a0.2.2.2 a1 (by omega),hx⟩
 clear a1 hx a2 a0;go_wp2_with fail;refine(yNs _ w4).mono ?_;rintro e w5 ⟨rfl,aa⟩;rw[aa];clear aa;have d2:=HF.2.1.cell (j:=2) rfl;have g2:=HF.2.1.frozen 2;have a3:Hid (yDo (xt w4 g 2 (xi o)) (Bet w IB) os (xg gu nu cu)/\PrAt (xt w4 g 2 (xi o)) base g p (k+1) o/\Chg (λk=>k=g) w (xt w4 g 2 (xi o))/\yA (xt w4 g 2 (xi o)) w 304 1 IB [xg gu nu cu]):=by have hc:=Chg.of_set w4 g 2 (xi o) (S:=λk=>k=g) rfl;exact⟨HF.1.move hc (λk q=>by subst q;exact λz=>qw z.1) (λk _ q=>q),PrAt.open HF.2.1 o,HF.2.2.1.trans hc,yA.chg HF.2.2.2.1 hc (by omega)⟩
 have HC:Hid (yBy (sb p) o q (k+1) (.alt os)):=yBy.group HP.2 ho20 HA.1 HF.2.2.2.2;obtain⟨W6,a6⟩:=qW (xt w4 g 2 (xi o));rw[<-a6]at a3;clear HF HA;go_upto_region 7 with fail;rw[<-a6];clear a6 d2 g2;have b0:=a3.2.2.2.cell (j:=0) rfl;go_wp2;go_ret;exact⟨a3.2.2.1,.inl ⟨k+1,.alt os,_,HC.out,rfl,yWg (a3.1.move (S:=λ_=>False) (Chg.refl _ _) (λk q=>q.elim) (λk hk q=>⟨q.1,hk⟩)),a3.2.1⟩⟩
theorem yGy {x c:UInt8} (h:¬x=c):¬(x.toNat:Int)=(c.toNat:Int):=λq=>h (UInt8.toNat_inj.1 qo)
theorem xFt (H:AltC p m) (hp:p.size<=200):xCh p (m+1):=by
 intro base g i o w hm hi ho he h;obtain⟨x,hx⟩:∃x,(sb p)[i]?=some x:=qg (by rw[yAe];exact hi);have HX:Hid ((sb p)[i]?=some x/\¬yFw x):=⟨hx,he x hx⟩;have HP:Hid (PrAt w base g p i o):=h;have ab:=h.lt.2;clear h he hx;go_enter func260,ntmps260;go_wp2_with fail;refine(yJk HP.out hp HX.1).mono ?_;rintro e w1 ⟨rfl,a4,a3⟩;have a0:Hid (PrAt w1 base g p (i+1) o/\Chg (λk=>k=g) w w1):=⟨a4,a3⟩;have aa:=a3.size;clear a4 a3 HP;by_cases h46:x=46
 .subst h46;go_upto_region 5 with fail;apply wp_region_list;refine yA9 rfl _ _ rfl (setA (λ_=>false)) (by simp;exact yRe) ?_;simp only[Act.put,Act.eval,setIfInBounds_toArray,set_cons_succ,set_cons_zero];refine yCz rfl 263 #[.agg (setA (λ_=>false))] (by simp[execOp,go_sem,Act.eval,func263]) ?_;refine(yGv (λ_=>false) w1).mono ?_;rintro e w2 ⟨rfl,hb2⟩;simp only[Act.put,Act.eval,setIfInBounds_toArray,set_cons_succ,set_cons_zero];refine yA9 rfl _ _ rfl (setA (λ_=>true)) (by simp[Act.eval];exact yKr _ (yAg _)) ?_;simp only[Act.put,Act.eval,setIfInBounds_toArray,set_cons_succ,set_cons_zero];go_wp2;go_ret;exact⟨a0.2.trans (Chg.of_below hb2),.inl ⟨i+1,_,_,yBy.dot HX.1,rfl,yMb _ _ _,yA.below a0.1 hb2⟩⟩
 have a8:¬(x.toNat:Int)=46:=yGy (c:=46) h46;by_cases h92:x=92
 .subst h92;go_wp2_with fail;refine(yHi a0.1 hp qo).mono ?_;rintro e w2 ⟨a1,(⟨y,hy,rfl,a2⟩|⟨hy,rfl⟩)⟩;case inr=>
   refine⟨rfl,a0.2.trans a1,.inr ⟨2,i+1,by decide,λa=>?_,rfl⟩⟩;have h1:=yAn HX.1;have h2:¬i+1<(sb p).length:=λq=>by rw[getElem?_eq_getElem q]at hy;cases hy
   rw[yHu HX.1,if_pos (by omega)];rw[show i+1=(sb p).length by omega]
  have HF:Hid (PrAt w2 base g p (i+1+1) o/\Chg (λk=>k=g) w w2/\(sb p)[i+1]?=some y):=⟨a2,a0.2.trans a1,hy⟩;clear a1 hy a2;go_wp2;go_ret;exact⟨HF.2.1,.inl ⟨i+1+1,_,_,yBy.esc HX.1 HF.2.2,rfl,yJq _ _ _,HF.1⟩⟩
 have a6:¬(x.toNat:Int)=92:=yGy (c:=92) h92;by_cases h40:x=40
 .subst h40;go_wp2_with fail;refine(xB0 H hp base g i o w1 (by omega) HX.1 ho a0.1).mono ?_;rintro e w2 ⟨a1,(⟨k,t,v,hR,rfl,hN,a2⟩|⟨c,k,a5,hk,rfl⟩)⟩;case inr=>exact⟨rfl,a0.2.trans a1,.inr ⟨c,k,a5,hk,rfl⟩⟩
  have HF:Hid (yBy (sb p) o i k t/\yBt w2 (Bet w w2) t v/\PrAt w2 base g p k o/\Chg (λk=>k=g) w w2):=⟨hR,hN.move (S:=λ_=>False) (Chg.refl _ _) (λk q=>q.elim) (λk hk q=>⟨qw q.1,hk⟩),a2,a0.2.trans a1⟩;obtain⟨T,c,rfl⟩:=hN.iface;clear a1 hR hN a2;go_wp2;go_ret;exact⟨HF.2.2.2,.inl ⟨k,t,_,HF.1,rfl,HF.2.1,HF.2.2.1⟩⟩
 have a9:¬(x.toNat:Int)=40:=yGy (c:=40) h40;by_cases h91:x=91
 .subst h91;go_wp2_with fail;refine(yW2 a0.1 hp (by omega)).mono ?_;rintro e w2 ⟨a1,(⟨f,k,hk,rfl,a2⟩|⟨c,k,hk,rfl⟩)⟩;case inr=>exact⟨rfl,a0.2.trans a1,.inr ⟨c,k,yMt hk,λa=>by rw[yD5 HX.1,hk],rfl⟩⟩
  have HF:Hid (PrAt w2 base g p k o/\Chg (λk=>k=g) w w2/\yAq (sb p) (i+1)=.inl (f,k)):=⟨a2,a0.2.trans a1,hk⟩;clear a1 hk a2;go_wp2;go_ret;exact⟨HF.2.1,.inl ⟨k,_,_,yBy.class HX.1 HF.2.2,rfl,yMb _ _ _,HF.1⟩⟩
 have a7:¬(x.toNat:Int)=91:=yGy (c:=91) h91;have HS:Hid (¬yB3 x):=λq=>by
  rcases q with q|q|q|q|q
  .exact HX.2 q
  .exact h40 q
  .exact h91 q
  .exact h46 q
  .exact h92 q
 go_wp2;go_ret;exact⟨a0.2,.inl ⟨i+1,_,_,yBy.plain HX.1 HS.out,rfl,yJq _ _ _,a0.1⟩⟩
theorem yOd {p:List UInt8} {l:List UInt8} (h:inB p i l=true):∃c,p[i]?=some c/\c∈l:=by
 unfold inB at h;split at h
 .next c hc=>exact⟨c,hc,by simpa using h⟩
 .cases h
theorem yIy {p:List UInt8} {l:List UInt8} (h:inB p i l=false):∀c,p[i]?=some c->¬c∈l:=by intro c hc;unfold inB at h;rw[hc]at h;simpa using h
theorem yPs {c:UInt8}:c∈([42,43,63]:List UInt8)↔isOp c:=by simp[isOp]
structure RepJ (p:ByteArray) (base g i o j:Nat) (a:Pat) (v:Value) (RB:Nat) (w:World) (k:Nat) (op rp:Bool) (wr:World):Prop where
 ops:yL1 (sb p) o i j k a op rp
 rd:PrAt wr base g p k o
 box:yA wr w 362 3 RB [v,op,rp]
 node:yBt wr (Bet w RB) a v
 chg:Chg (λk=>k=g) w wr
theorem RepJ.move {g:Nat} {v:Value} {RB:Nat} {op:Bool} (h:RepJ p base g i o j a v RB w k op rp wr) (hb:Below wr wr w'):RepJ p base g i o j a v RB w k op rp w':=
 ⟨h.ops,yA.below h.rd hb,h.box.below hb,h.node.move (S:=λ_=>False) (Chg.of_below hb) (λk q=>q.elim) (λk _ q=>q),h.chg.trans (Chg.of_below hb)⟩
theorem RepJ.step {g:Nat} {v:Value} {RB:Nat} {op:Bool} {c:UInt8} (h:RepJ p base g i o j a v RB w k op rp wr) (hg:g<w.heap.size) (hc:(sb p)[k]?=some c) (ho:isOp c) (hP:PrAt w' base g p (k+1) o) (hC:Chg (λk=>k=g) wr w'):
  RepJ p base g i o j a v RB w (k+1) (op || c != 43) (rp || c != 63) (xt (w'.setCell (xd RB 1) (op || c != 43)) RB 2 (rp || c != 63)):=by
 have hr:=h.box.lt.1;have c1:=Chg.of_set w' RB 1 (op || c != 43) (S:=λk=>k=RB) rfl;have c2:=Chg.of_set (xt w' RB 1 (op || c != 43)) RB 2 (rp || c != 63) (S:=λk=>k=RB) rfl;have c3:=c1.trans c2;refine⟨h.ops.more hc ho,yA.chg hP c3 qo,((h.box.chg hC qo).set 1 _).set 2 _,?_,((h.chg.trans hC).absorb c3 (λj q=>.inr qo))⟩;exact(h.node.move hC (λk q=>by subst q;exact λz=>by have:=z.1;omega) (λk _ q=>q)).move c3 (λk q=>by subst q;exact λz=>by have:=z.2;omega) (λk _ q=>q)
def RepC (p:ByteArray) (m:Nat):Prop:=∀(base g i o:Nat) (w:World),p.size-i<=m->i<p.size->o<=20->(∀c,(sb p)[i]?=some c->¬yFw c)->PrAt w base g p i o->Calls prog 257 #[xp g] w (yI5 p base g i o w (yT9 (sb p) o i))
theorem xDd (H:xCh p m) (hp:p.size<=200):RepC p m:=by
 intro base g i o w hm hi ho he h;have HP:Hid (PrAt w base g p i o):=h;have al:=h.lt.2;clear h;go_enter func257,ntmps257;go_wp2_with fail;refine(H base g i o w hm hi ho he HP.out).mono ?_;rintro e w1 ⟨a8,(⟨j,a,v,hA,rfl,hN,ag⟩|⟨c,k,am,hk,rfl⟩)⟩;case inr=>exact⟨rfl,a8,.inr ⟨c,k,am,hk,rfl⟩⟩
 obtain⟨T,cs,rfl⟩:=hN.iface;have a2:Hid (yBy (sb p) o i j a/\yBt w1 (Bet w w1) a (.iface T (.agg cs))/\PrAt w1 base g p j o/\Chg (λk=>k=g) w w1):=⟨hA,hN,ag,a8⟩;clear a8 hA hN ag HP;go_wp2_with fail;refine(yDs ⟨#[42,43,63]⟩ a2.2.2.1 hp).mono ?_;rintro e w2 ⟨rfl,hb2⟩
 have a1:Hid (yBt w2 (Bet w w2) a (.iface T (.agg cs))/\PrAt w2 base g p j o/\Chg (λk=>k=g) w w2):=
  ⟨a2.2.1.move (S:=λ_=>False) (Chg.of_below hb2) (λk q=>q.elim) (λk hk q=>⟨q.1,by have:=hb2.size;omega⟩),yA.below a2.2.2.1 hb2,a2.2.2.2.trans (Chg.of_below hb2)⟩
 have HA:Hid (yBy (sb p) o i j a):=a2.1;obtain⟨q,hq⟩:=qE (inB (sb p) j (sb ⟨#[42,43,63]⟩));have HQ:Hid (inB (sb p) j [42,43,63]=q):=hq.symm;rw[<-hq];clear hb2 hq a2;cases q
 .have HR:Hid (yT9 (sb p) o i j a):=by have:=(yL1.zero HA.out).rep (λc hc a3=>yIy HQ.out c hc (yPs.2 a3));rw[if_pos rfl]at this;exact this
  go_wp2_with fail;go_ret;exact⟨a1.2.2,.inl ⟨j,a,_,HR.out,rfl,a1.1,a1.2.1⟩⟩
 have ak:j<=p.size:=by have:=HA.le;rw[yAe]at this;exact this
 obtain⟨W3,a5⟩:=qE (xw w2 #[.iface T (.agg cs),false,false] 362:World);have ab:=a1.2.2.size;have a9:Hid (RepJ p base g i o j a (.iface T (.agg cs)) w2 w j false false W3):=by
  have hb:=qN a5
  refine⟨yL1.zero HA.out,yA.below a1.2.1 hb,?_,a1.1.move (S:=λ_=>False) (Chg.of_below hb) (λk q=>q.elim) (λk _ q=>q),a1.2.2.trans (Chg.of_below hb)⟩;rw[a5];exact yAa w2 _ ab rfl
 have an:Hid (∃c,(sb p)[j]?=some c/\isOp c):=by obtain⟨c,h1,h2⟩:=yOd HQ.out;exact⟨c,h1,yPs.1 h2⟩
 clear a1;go_wp2_with fail;rw[<-a5];obtain⟨RB,a6⟩:=qE w2.heap.size;rw[<-a6]at a9;rw[<-a6];have aq:w.heap.size<=RB:=by omega
 clear a5 a6 ab;go_loopw[5] (λsg wr=>∃(k:Nat) (op rp:Bool),j<=k/\k<=p.size/\(k=j->∃c,(sb p)[j]?=some c/\isOp c)/\RepJ p base g i o j a (.iface T (.agg cs)) RB w k op rp wr) (λ_ wr=>p.size-atOf wr g);case atStart=>exact⟨j,false,false,Nat.le_refl _,ak,λ_=>an.out,a9.out⟩
 case round=>
  obtain⟨k,op,rp,au,ar,ac,hJ⟩:=hrel;have HJ:Hid (RepJ p base g i o j a (.iface T (.agg cs)) RB w k op rp wr/\(k=j->∃c,(sb p)[j]?=some c/\isOp c)/\atOf wr g=k):=⟨hJ,ac,yFg hJ.rd⟩;clear hJ ac a9;go_wp2_with fail;refine(yDs ⟨#[42,43,63]⟩ HJ.1.rd hp).mono ?_;rintro e w5 ⟨rfl,ae⟩;have a0:Hid (RepJ p base g i o j a (.iface T (.agg cs)) RB w k op rp w5):=HJ.1.move ae;obtain⟨q,hq⟩:=qE (inB (sb p) k (sb ⟨#[42,43,63]⟩));have aa:Hid (inB (sb p) k [42,43,63]=q):=hq.symm;rw[<-hq];clear ae hq;cases q
  .have HR:Hid (yT9 (sb p) o i k (.rep a op rp)):=by
    have h1:=a0.ops.rep (λc hc a3=>yIy aa.out c hc (yPs.2 a3));rw[if_neg (λq=>by
     obtain⟨c,hc,a3⟩:=HJ.2.1 q.symm
     rw[q]at hc
     exact yIy aa.out c hc (yPs.2 a3))]at h1
    exact h1
   obtain⟨b0,b1,b2⟩:=a0.box.c3;go_wp2_with fail;go_ret;exact⟨a0.chg,.inl ⟨k,_,_,HR.out,rfl,yWf (a0.node.move (S:=λ_=>False) (Chg.refl _ _) (λk q=>q.elim) (λk hk q=>⟨q.1,hk⟩)) op rp,a0.rd⟩⟩
  .obtain⟨c,hc,ad⟩:=yOd aa.out;have HC:Hid ((sb p)[k]?=some c/\isOp c):=⟨hc,yPs.1 ad⟩;have aj:k+1<=p.size:=by have:=yAn hc;rw[yAe]at this;omega
   clear hc ad;go_wp2_with fail;refine(yJk a0.rd hp HC.1).mono ?_;rintro e w6 ⟨rfl,af,a7⟩;have ai:=a0.step al HC.1 HC.2 af a7;have a4:=a0.box.chg a7 (show¬RB=g by omega);have b1:=a4.cell (j:=1) rfl;have b2:=a4.cell (j:=2) rfl;have g1:=a4.frozen 1;have g2:=a4.frozen 2;have ah:=qH1 ai;have ao:=qH1 HJ.2.2;clear ai a4 af a7 a0 HJ;rcases HC.2 with rfl|rfl|rfl<;>cases op<;>cases rp
   all_goals go_wp2_with fail
   all_goals go_roundw
   all_goals first
    |exact⟨k+1,_,_,qo,aj,λq=>qo,ah.out⟩
    |exact Nat.lt_of_le_of_lt (Nat.le_of_eq (congrArg (p.size- ·) (yFg ah.rd))) (by rw[ao.out];omega)
section
def xFz (p:ByteArray) (base g i o:Nat) (w:World) (e:Ending) (w':World):Prop:=
 Chg (λk=>k=g) w w'/\((∃(k:Nat) (ts:List Pat) (u:Value),yKy (sb p) o i k ts/\(∀c,(sb p)[k]?=some c->yFw c)/\e=.returned (.agg #[u])/\yFz w' (Bet w w') ts u/\PrAt w' base g p k o)∨(∃(c:Int) (k:Nat),¬c=0/\chkM (sb p) i o false=(c,k)/\e=Pf c k))
def SeqC (p:ByteArray) (m:Nat):Prop:=∀(base g i o:Nat) (w:World),p.size-i<=m->i<=p.size->o<=20->PrAt w base g p i o->Calls prog 243 #[xp g] w (xFz p base g i o w)
def NR (lo:Nat) (v:Value):Nat->Prop:=λk=>lo<=k/\¬v.ownBlock=some k
structure SeqJ (p:ByteArray) (base g i o:Nat) (w:World) (k:Nat) (ts:List Pat) (us:List Value) (v:Value) (wr:World):Prop where
 ok:yKy (sb p) o i k ts
 rd:PrAt wr base g p k o
 res:yA wr w 316 1 w [xh]
 box:yA wr w 316 1 (w+1) [v]
 row:OwnN wr (w+2) v us
 len:us.length=ts.length
 nodes:∀(i:Nat) x t,us[i]?=some x->ts[i]?=some t->yBt wr (NR (w+2) v) t x
 chg:Chg (λk=>k=g) w wr
 glt:g<w.heap.size
theorem OwnN.chg {S:Nat->Prop} {v:Value} (h:OwnN w base v us) (hc:Chg S w w') (hn:∀k,v.ownBlock=some k->¬S k):OwnN w' base v us:=yAh h hc hn
theorem OwnN.slice {v:Value} (h:OwnN w base v us):∃a cp,v=.slice a us.length cp:=by
 rcases h.2 with⟨rfl,h0⟩|⟨g,cap,cur,rfl,_⟩
 .exact⟨none,0,by rw[h0]⟩
 .exact⟨_,_,rfl⟩
variable {p:ByteArray} {base g i o:Nat} {w:World} {k:Nat} {ts:List Pat} {us:List Value} {v:Value} {wr:World}
theorem SeqJ.move (h:SeqJ p base g i o w k ts us v wr) (hb:Below wr wr w'):SeqJ p base g i o w k ts us v w':=
 ⟨h.ok,yA.below h.rd hb,h.res.below hb,h.box.below hb,h.row.chg (S:=λ_=>False) (Chg.of_below hb) (λ_ _ q=>q),h.len,λi x t hx ht=>(h.nodes i x t hx ht).move (S:=λ_=>False) (Chg.of_below hb) (λk q=>q.elim) (λk _ q=>q),h.chg.trans (Chg.of_below hb),h.glt⟩
structure SeqK (p:ByteArray) (base g i o:Nat) (w:World) (k:Nat) (ts:List Pat) (us:List Value) (v:Value) (t:Pat) (x:Value) (wr:World):Prop where
 ok:yKy (sb p) o i k (ts++ [t])
 rd:PrAt wr base g p k o
 res:yA wr w 316 1 w [xh]
 box:yA wr w 316 1 (w+1) [v]
 row:OwnN wr (w+2) v us
 len:us.length=ts.length
 nodes:∀(i:Nat) y s,(us++ [x])[i]?=some y->(ts++ [t])[i]?=some s->yBt wr (NR (w+2) v) s y
 chg:Chg (λk=>k=g) w wr
 glt:g<w.heap.size
variable {x:Value}
theorem SeqK.move (h:SeqK p base g i o w k ts us v t x wr) (hb:Below wr wr w'):SeqK p base g i o w k ts us v t x w':=
 ⟨h.ok,yA.below h.rd hb,h.res.below hb,h.box.below hb,h.row.chg (S:=λ_=>False) (Chg.of_below hb) (λ_ _ q=>q),h.len,λi x t hx ht=>(h.nodes i x t hx ht).move (S:=λ_=>False) (Chg.of_below hb) (λk q=>q.elim) (λk _ q=>q),h.chg.trans (Chg.of_below hb),h.glt⟩
variable {i:Nat}
theorem yHg {α:Type} {l:List α} {a b:α} (h:(l++ [a])[i]?=some b):l[i]?=some b∨(i=l.length/\b=a):=by
 by_cases hi:i<l.length
 .rw[getElem?_append_left hi]at h;exact .inl h
 .rw[getElem?_append_right qo]at h;have h2:=qf h;simp at h2;have:i-l.length=0:=qo
  rw[this]at h;simp at h;exact .inr ⟨qo,h.symm⟩
theorem SeqJ.rep {w6:World} {k6:Nat} (h:SeqJ p base g i o w k ts us v wr) (hC:Chg (λk=>k=g) wr w6) (hR:yT9 (sb p) o k k6 t) (hN:yBt w6 (Bet wr w6) t x) (hP:PrAt w6 base g p k6 o):SeqK p base g i o w k6 ts us v t x w6:=by
 have hg:=h.glt;have hz:=h.chg.size;have a0:=h.box.lt.2;have hv:∀j,v.ownBlock=some j->w.heap.size+2<=j/\j<wr.heap.size:=λj hj=>World.ownsRow.lt h.row j hj;refine⟨h.ok.more hR,hP,h.res.chg hC qo,h.box.chg hC qo,h.row.chg hC (λj hj q=>qw ((hv j hj).1)),h.len,?_,h.chg.trans hC,hg⟩;intro j y s hy hs;rcases yHg hy with hy|⟨hj,rfl⟩
 .rcases yHg hs with hs|⟨hj,rfl⟩
  .exact(h.nodes j y s hy hs).move hC (λq hq=>by subst hq;exact λz=>qw z.1) (λq _ z=>z)
  .have:=qf hy;have:=h.len;omega
 .rcases yHg hs with hs|⟨_,rfl⟩
  .have:=qf hs;have:=h.len;omega
  .refine hN.move (S:=λ_=>False) (Chg.refl _ _) (λq hq=>hq.elim) (λq _ z=>⟨?_,λe=>?_⟩)
   .have:=z.1;omega
   .have:=(hv q e).2;have:=z.1;omega
theorem SeqK.push {v':Value} (h:SeqK p base g i o w k ts us v t x wr) (hO:OwnN w' (w+2) v' (us++ [x])) (hg:wr.grownBy w' v.ownBlock) (hat:∀j,v'.ownBlock=some j->v.ownBlock=some j∨j=wr.heap.size):
  SeqJ p base g i o w k (ts++ [t]) (us++ [x]) v' (xt w' (w+1) 0 v')/\xk w' (w+1) 0 v/\w'.frozen? (xd (w+1) 0)=false:=by
 have a3:=h.glt;have hv:∀j,v.ownBlock=some j->w.heap.size+2<=j/\j<wr.heap.size:=λj hj=>World.ownsRow.lt h.row j hj;have a1:∀j,v'.ownBlock=some j->w.heap.size+2<=j/\j<w'.heap.size:=λj hj=>World.ownsRow.lt hO j hj;have hc:=Chg.of_grown hg (λj hj=>hj);have hs:Chg (λj=>j=w.heap.size+1) w' (xt w' (w+1) 0 v'):=Chg.of_set w' (w+1) 0 _ rfl;have a0:=h.box.chg hc (λq=>qw ((hv _ q).1));refine⟨⟨h.ok,?_,?_,a0.set 0 _,hO.chg hs (λj hj q=>qw ((a1 j hj).1)),by rw[length_append,length_append,h.len];rfl,?_,?_,a3⟩,a0.cell (j:=0) rfl,a0.frozen 0⟩
 .exact yA.chg (yA.chg h.rd hc (λq=>qw ((hv _ q).1))) hs (by omega)
 .exact(h.res.chg hc (λq=>qw ((hv _ q).1))).chg hs (by omega)
 .intro j y s hy a2;have h1:=(h.nodes j y s hy a2).move hc (λq hq z=>z.2 hq) (lo':=NR (w+2) v') (λq hq z=>⟨z.1,λe=>by rcases hat q e with e|e;exact z.2 e;omega⟩);exact h1.move hs (λq hq=>by subst hq;exact λz=>qw z.1) (λq _ z=>z)
 .exact(h.chg.absorb hc (λj q=>.inr (qw ((hv j q).1)))).absorb hs (λj q=>.inr (by omega))
variable {oo:Oper} {a:Act} {Q:Exit->Act->World->Prop}
theorem yIo {ops:Array Oper} {K:Act->World->Prop} {E:Prop} (w:World) (hgd:oo.guard=none) s x
  (ho:oo.op=.call {callee:=.builtin .append,args:=#[s,x],argTypes:=#[314,314]})
  (base n blk:Nat) (v y:Value) (us:List Value) (hn:n=us.length) (hs:a.eval s=v) (hx:a.eval x=(xg blk 1 1)) (hO:OwnN w base v us)
  (hc:(xk w blk 0 y:Prop)) (hy:y.oneCell'=true) (hlen:us.length<=1000) (hbase:base<=w.heap.size)
  (h:∀g' cp' w',OwnN w' base (xg g' (n+1) cp') (us++ [y])->w.grownBy w' v.ownBlock->(v.ownBlock=some g'∨g'=w.heap.size)->K (a.put oo.dst (xg g' (n+1) cp')) w'):if Region.wanted oo (yielded ops a.tmps)=true then Oper.wp prog oo a w K Q else E:=by
 subst hn;obtain⟨i,hi,a2,a1,a0⟩:=info_parts Tryz.infoNode;refine step_append_lies w hgd s x 314 ho base 346 i _ 1 16 underlying314 hi a2 a1 a0 rfl qj v us.length us hs hO (xd blk 0) 1 1 [y] hx rfl ?_ ?_ qj ?_ ?_ hbase w rfl ?_
 .exact xAp
 .intro u hu;simp at hu;subst hu;exact hy
 .unfold maxLen;omega
 .omega
 .intro g' cp' w' a5 a3 a4 a6;refine h g' cp' w' ?_ a3 a4;unfold OwnN;rw[length_append];exact a5
variable {p:ByteArray}
theorem xDa (H:RepC p m) (hp:p.size<=200):SeqC p m:=by
 intro base g i o w hm hi ho h;have ak:=h.lt.2;obtain⟨W0,a1⟩:=qW (xw (w.alloc (Obj.cells #[xh] 316)) #[xh] 316);have ae:Hid (SeqJ p base g i o w i [] [] xh W0):=by
  have hb:Below w w W0:=by rw[a1];exact(qB).alloc (by simp) _
  have h1:yA W0 w 316 1 w [xh]:=by rw[a1];exact yA.ofHeap (vs:=#[.slice none 0 0]) (heap_alloc2_old w _ _) qr rfl
  have h2:yA W0 w 316 1 (w+1) [xh]:=by rw[a1];exact yA.ofHeap (vs:=#[.slice none 0 0]) (heap_alloc2_new w _ _) qo rfl
  exact⟨yKy.nil (by rw[yAe];exact hi),yA.below h hb,h1,h2,World.ownsRow_nil ..,rfl,λi x t hx=>by simp at hx,Chg.of_below hb,ak⟩
 clear h;go_enter func243,ntmps243;go_wp2_with fail;rw[<-a1];clear a1;go_loopw[] (λwr=>∃(k:Nat) (ts:List Pat) (us:List Value) (v:Value),i<=k/\k<=p.size/\us.length<=k/\SeqJ p base g i o w k ts us v wr) (λwr=>p.size-atOf wr g);case atStart=>exact⟨i,[],[],_,Nat.le_refl _,hi,zero_le _,ae.out⟩
 case round=>
  obtain⟨k,ts,us,v,ax,aw,ar,hJ⟩:=hrel;have HJ:=qH2 hJ (yFg hJ.rd);obtain⟨va,vc,ag⟩:=hJ.row.slice;subst ag;clear hJ ae;have a8:=HJ.1.rd.lt.2;obtain⟨c0,c1⟩:=HJ.1.rd.c2;have e0:∀n:Out wr,(xk n.u g 0 p:Prop):=λn=>(n.out.cell (p:=(xd g 0)) a8).trans c0;have e1:∀n:Out wr,(xk n.u g 1 (xi k):Prop):=λn=>(n.out.cell (p:=(xd g 1)) a8).trans c1;obtain⟨q,hq⟩:=qE (inB (sb p) k (sb ⟨#[42,43,63,124,41,93]⟩));have HQ:=qH1 hq.symm;have HI:Hid (∀n:Out wr,(xf 256 #[xp g,.string ⟨#[42,43,63,124,41,93]⟩] n.u q:Prop)):=λn=>by rw[hq];exact yDs _ (yA.below HJ.1.rd n.out) hp
  clear c0 c1 hq;by_cases hgo:k<p.size/\q=false
  .obtain⟨a4,rfl⟩:=hgo;have z1:(k:Int)<(p.size:Int):=qo
   have an:Hid (∀c,(sb p)[k]?=some c->¬yFw c):=λc hc he=>yIy HQ.out c hc (by
    rcases he with(rfl|rfl|rfl)|rfl|rfl|rfl<;>simp)
   go_upto_region 2 with fail;refine yAs qk qk ?_;repeat (go_big_quiet_step ((first|rfl|(go_at_call 256;exact Calls.out_of (HI.out _)))))
   refine wpQuiet_nil ?_;rintro w1 ⟨⟨wx,hb1⟩,rfl⟩;have HJ1:=qH1 (HJ.1.move hb1);have ao:=qH1 HJ.2;have au:=hb1.size;clear e0 e1 HI hb1 HJ;have b0:=HJ1.box.cell (j:=0) rfl;have av:=HJ1.box.lt.2;have am:Hid (∀w',Below w1 w1 w'->Calls prog 257 #[xp g] w' (yI5 p base g k o w' (yT9 (sb p) o k))):=λw' hb=>H base g k o w' qo a4 ho an.out (yA.below HJ1.rd hb);go_upto_region 3 with fail
   go_region_law ((first
                |(go_simp;go_at_call 257;refine(am.out _ (Below.refl _ _).drew).mono ?_;rintro e' w6 ⟨a7,(⟨k6,t,x,a5,rfl,a6,ab⟩|⟨c6,k6,al,ai,rfl⟩)⟩;(case inr=>exact⟨rfl,(HJ1.move (Below.refl _ _).drew).chg.trans a7,.inr ⟨c6,k6,al,by rw[HJ1.ok.chk,ai],rfl⟩⟩);obtain⟨T6,a3,rfl⟩:=a6.iface;have a0:=qH2 ((HJ1.move (Below.refl _ _).drew).rep a7 a5 a6 ab) a5;have m6:=a0.1.box.cell (j:=0) rfl;have af:=a0.1.box.lt.2;have aq:∀o,(xk (w6.alloc o) (w+1) 0 (.slice va us.length vc):Prop):=λo=>by {rw[((Below.refl w6 w6).alloc qr o).cell (p:=(xd (w+1) 0)) af];exact m6};clear a7 a5 a6 ab)
                |(refine yIo _ (by rfl) _ _ (by rfl) (w+2) us.length w6 (.slice va us.length vc) (.iface T6 (.agg a3)) us rfl (by rfl) (by rfl) ?hO ?hc rfl ?hl ?hb ?_
                  case hO=>exact(a0.1.move (qB)).row
                  case hc=>simp
                  case hl=>omega
                  case hb=>have:=(a0.1.move ((Below.refl _ _).alloc qr (Obj.cells #[.iface T6 (.agg a3)] 346))).box.lt.2;omega
                  intro g7 ay w7 ac a9 aa
                  have a2:=(a0.1.move ((Below.refl _ _).alloc qr (Obj.cells #[.iface T6 (.agg a3)] 346))).push ac a9 (λj hj=>by have aj:g7=j:=by {simpa [Value.ownBlock]using hj};rw[<-aj];exact aa)
                  have ad:=qH1 a2.1
                  have m7:=a2.2.1
                  have f7:=a2.2.2
                  clear a2 ac a9 aa)))
   all_goals go_wp2_with fail
   all_goals go_roundw
   all_goals first
    |exact⟨k6,ts++ [t],us++ [.iface T6 (.agg a3)],_,qw a0.2.lt,by have:=a0.2.le;rw[yAe]at this;exact this,by have:=a0.2.lt;rw[length_append];simp;omega,ad.out⟩
    |(rw[ao.out,yFg ad.out.rd];have:=a0.2.lt;omega)
  .have HE:Hid (∀c,(sb p)[k]?=some c->yFw c):=by
    intro c hc;have hk:=yAn hc;rw[yAe]at hk;cases q
    .exact absurd ⟨hk,rfl⟩ hgo
    .obtain⟨d,hd,hm⟩:=yOd HQ.out;rw[hc]at hd;cases hd
     simp at hm;rcases hm with rfl|rfl|rfl|rfl|rfl|rfl<;>simp[yFw,isOp]
   have HX:=qH1 HJ.1;clear HQ HJ;have fin:∀w1,Below wr wr w1->Hid (SeqJ p base g i o w k ts us (.slice va us.length vc) w1):=λw1 hb=>HX.move hb;by_cases a4:k<p.size
   .have ah:q=true:=by
     cases q
     .exact absurd ⟨a4,rfl⟩ hgo
     .rfl
    subst ah;have z1:(k:Int)<(p.size:Int):=qo
    clear hgo;go_upto_region 2 with fail;refine yAs qk qk ?_;repeat (go_big_quiet_step ((first|rfl|(go_at_call 256;exact Calls.out_of (HI.out _)))))
    exact xG0
   .have z1:¬(k:Int)<(p.size:Int):=qo
    clear hgo;go_upto_region 2 with fail;refine yAs qk qk ?_;repeat (go_big_quiet_step (rfl))
    exact xG0
end
section
structure AltJ (p:ByteArray) (base g i o:Nat) (w:World) (k:Nat) (os:List (List Pat)) (us:List Value) (gq cp:Nat) (wr:World):Prop where
 ok:yDn (sb p) o i k os
 nxt:∀c,(sb p)[k]?=some c->yFw c
 rd:PrAt wr base g p k o
 res:yA wr w 304 1 w [xh]
 row:OwnQ wr (w+1) gq cp us
 len:us.length=os.length
 seqs:∀(i:Nat) x ts,us[i]?=some x->os[i]?=some ts->yFz wr (λj=>w.heap.size+1<=j/\¬j=gq) ts x
 chg:Chg (λk=>k=g) w wr
 glt:g<w.heap.size
theorem OwnQ.chg {S:Nat->Prop} {gq:Nat} (h:OwnQ w base gq cp us) (hc:Chg S w w') (hn:¬S gq):OwnQ w' base gq cp us:=yAh h hc (λk q=>by simp[Value.ownBlock]at q;subst q;exact hn)
variable {p:ByteArray} {base g i o:Nat} {w:World} {k:Nat} {os:List (List Pat)} {us:List Value} {gq cp:Nat} {wr:World}
theorem AltJ.read {k':Nat} (h:AltJ p base g i o w k os us gq cp wr) (hC:Chg (λk=>k=g) wr w') (hP:PrAt w' base g p k' o):
  yA w' w 304 1 w [xh]/\OwnQ w' (w+1) gq cp us/\(∀(i:Nat) x ts,us[i]?=some x->os[i]?=some ts->yFz w' (λj=>w.heap.size+1<=j/\¬j=gq) ts x)/\Chg (λk=>k=g) w w':=by
 have hg:=h.glt;have hq:=h.row.lt;exact⟨h.res.chg hC qo,h.row.chg hC qo,λi x ts hx ht=>(h.seqs i x ts hx ht).move hC (λq hq=>by subst hq;exact λz=>qw z.1) (λq _ z=>z),h.chg.trans hC⟩
variable {rest:List Oper} {a:Act} {Q:Exit->Act->World->Prop}
theorem yG9 {ops:Array Oper} {oo:Oper} (w:World) (hgd:oo.guard=none) s x
  (ho:oo.op=.call {callee:=.builtin .append,args:=#[s,x],argTypes:=#[302,302]})
  (base gq cp n b:Nat) (us:List Value) (y:Value) (hs:a.eval s=(xg gq n cp)) (hx:a.eval x=(xg b 1 1)) (hn:n=us.length) (hO:OwnQ w base gq cp us)
  (hc:(xk w b 0 y:Prop)) (hy:y.oneCell'=true) (hlen:us.length<=1000) (hbase:base<=w.heap.size)
  (h:∀g' cp' w',OwnQ w' base g' cp' (us++ [y])->w.grownBy w' (some gq)->(g'=gq∨g'=w.heap.size)->wpList prog ops Q rest (a.put oo.dst (xg g' (n+1) cp')) w'):wpList prog ops Q (oo::rest) a w:=by
 subst hn;obtain⟨i,hi,a4,a3,a2⟩:=info_parts Tryz.infoSeq;refine wpList_append_own_at w hgd s x 302 ho base 316 i _ 1 24 underlying302 hi a4 a3 a2 rfl qj (xg gq us.length cp) us.length us hs hO (xd b 0) 1 1 [y] hx rfl ?_ ?_ ?_ ?_ hbase ?_
 .exact xAp
 .intro u hu;simp at hu;subst hu;exact hy
 .unfold maxLen;omega
 .omega
 .intro v' w' a1 a6 a5 a0;rcases a1.2 with⟨h0,_⟩|⟨g',a7,cur,hv,_,_,hn,a8,_,_⟩
  .have:=(a5.1 h0).1;cases this
  .subst hv;refine h g' a7 w' ?_ a6 ?_
   .unfold OwnQ;rw[length_append];exact a1
   .simp[Value.ownBlock]at a0;exact a0
variable {w:World}
theorem yFz.slice (h:yFz w R ts u):∃a n cp,u=.slice a n cp:=by
 obtain⟨n,h|⟨g,cp,us,h1,_⟩⟩:=h
 .exact⟨_,_,_,h.2⟩
 .exact⟨_,_,_,h1⟩
variable {p:ByteArray}
theorem xDm (H:SeqC p m) (hp:p.size<=200):AltC p m:=by
 intro base g i o w hm hi ho h;have am:=h.lt.2;obtain⟨W0,a8⟩:=qW (xw w #[xh] 304);have a6:Hid (PrAt W0 base g p i o/\yA W0 w 304 1 w [xh]/\Chg (λk=>k=g) w W0/\W0.heap.size=w.heap.size+1):=by
  have hb:=qN a8
  refine⟨yA.below h hb,?_,Chg.of_below hb,by rw[a8];simp⟩;rw[a8];exact yAa w _ qr rfl
 clear h;go_enter func229,ntmps229;go_upto_region 1 with fail;rw[<-a8];clear a8;go_wp2_with fail;refine(H base g i o W0 hm hi ho a6.1).mono ?_;rintro e w1 ⟨a9,(⟨k,ts,u,hS,hE,rfl,hU,aq⟩|⟨c,k,ai,hk,rfl⟩)⟩;case inr=>exact⟨rfl,a6.2.2.1.trans a9,.inr ⟨c,k,ai,hk,rfl⟩⟩
 obtain⟨ua,un,uc,rfl⟩:=hU.slice;have af:i<=k/\k<=p.size:=by have h1:=hS.le;have h2:=hS.lei;rw[yAe]at h1;exact⟨h2,h1⟩
 obtain⟨W2,ab⟩:=qW (xw w1 #[.slice ua un uc] 316);have ak:Hid (AltJ p base g i o w k [ts] [.slice ua un uc] w1 1 W2):=by
  have hb:=qN ab
  have hz:=a6.2.2.2;have hs:=a9.size;refine⟨yDn.one hS,hE,yA.below aq hb,(a6.2.1.chg a9 qo).below hb,?_,rfl,?_,(a6.2.2.1.trans a9).trans (Chg.of_below hb),am⟩
  .rw[ab];exact World.ownsRow_lit w1 #[.slice ua un uc] 1 qo qj rfl
  .intro j x ss hx al;have hj:j=0:=by have:=qf hx;simpa using this
   subst hj;simp at hx al;subst hx al;exact hU.move (S:=λ_=>False) (Chg.of_below hb) (λq hq=>hq.elim) (λq hq z=>⟨qw z.1,qo⟩)
 clear a9 hS hE hU aq a6;go_wp2_with fail;rw[<-ab];obtain⟨aA,ah⟩:=qE w1;rw[<-ah]at ak;rw[<-ah];clear ab ah;go_loopw[3] (λsv wr=>∃(k gq cp:Nat) (os:List (List Pat)) (us:List Value),i<=k/\k<=p.size/\us.length<=k+1/\sv=(xg gq us.length cp)/\AltJ p base g i o w k os us gq cp wr) (λ_ wr=>p.size-atOf wr g);case atStart=>exact⟨k,aA,1,[ts],[.slice ua un uc],af.1,af.2,by simp,rfl,ak.out⟩
 case round=>
  obtain⟨k,gq,cp,os,us,aF,af,aC,rfl,hJ⟩:=hrel;have HJ:=qH2 hJ (yFg hJ.rd);clear hJ ak;go_wp2_with fail;refine(yD0 124 HJ.1.rd hp).mono ?_;rintro e w3 ⟨ae,(⟨hx,rfl,a1⟩|⟨hx,rfl,a1⟩)⟩
  .have az:k+1<=p.size:=by have:=yAn hx;rw[yAe]at this;omega
   have HX:=qH3 hx a1 (HJ.1.read ae a1);have a7:Hid (yDn (sb p) o i k os/\us.length=os.length/\atOf wr g=k):=⟨HJ.1.ok,HJ.1.len,HJ.2⟩;clear ae hx a1 HJ;go_wp2_with fail;refine(H base g (k+1) o w3 qo az ho HX.2.1).mono ?_;rintro e w4 ⟨ad,(⟨k4,aa,u4,ac,au,rfl,aj,ao⟩|⟨c,k4,ai,ay,rfl⟩)⟩;case inr=>
    refine⟨rfl,HX.2.2.2.2.2.trans ad,.inr ⟨c,k4,ai,?_,rfl⟩⟩;rw[a7.1.chk,yKl HX.1,ay]
   obtain⟨a4,a2,a3,rfl⟩:=aj.slice;have ax:k+1<=k4/\k4<=p.size:=by have h1:=ac.le;have h2:=ac.lei;rw[yAe]at h1;exact⟨h2,h1⟩
   obtain⟨W5,a5⟩:=qW (xw w4 #[.slice a4 a2 a3] 316);have a0:Hid (yDn (sb p) o i k4 (os++ [aa])/\(∀c,(sb p)[k4]?=some c->yFw c)/\PrAt W5 base g p k4 o/\yA W5 w 304 1 w [xh]/\OwnQ W5 (w+1) gq cp us/\(∀(i:Nat) x ts,(us++ [.slice a4 a2 a3])[i]?=some x->(os++ [aa])[i]?=some ts->yFz W5 (λj=>w.heap.size+1<=j/\¬j=gq) ts x)/\Chg (λk=>k=g) w W5/\xk W5 w4 0 (.slice a4 a2 a3)/\w.heap.size+1<=W5.heap.size):=by
    have hb:=qN a5
    have hq:=HX.2.2.2.1.lt;have aE:=ad.size;have aD:=hb.size;have hc:Chg (λk=>k=g) w3 W5:=ad.trans (Chg.of_below hb);refine⟨yDn.more a7.1 HX.1 ac,au,yA.below ao hb,HX.2.2.1.chg hc qo,HX.2.2.2.1.chg hc qo,?_,HX.2.2.2.2.2.trans hc,by rw[a5];simp,qo⟩;intro j y s hy hs;rcases yHg hy with hy|⟨hj,rfl⟩
    .rcases yHg hs with hs|⟨hj,rfl⟩
     .exact(HX.2.2.2.2.1 j y s hy hs).move hc (λq hq=>by subst hq;exact λz=>qw z.1) (λq _ z=>z)
     .have:=qf hy;have:=a7.2.1;omega
    .rcases yHg hs with hs|⟨_,rfl⟩
     .have:=qf hs;have:=a7.2.1;omega
     .exact aj.move (S:=λ_=>False) (Chg.of_below hb) (λq hq=>hq.elim) (λq _ z=>⟨qw z.1,λe=>qw z.1⟩)
   clear ad ac au aj ao HX;go_wp2_with (at_builtin;rw[<-a5];refine yG9 _ rfl _ _ rfl (w+1) gq cp us.length w4 us (.slice a4 a2 a3) rfl rfl rfl ?hO ?hc rfl ?hl ?hb ?_);case hO=>exact a0.2.2.2.2.1
   case hc=>exact a0.2.2.2.2.2.2.2.1
   case hl=>omega
   case hb=>exact a0.2.2.2.2.2.2.2.2
   intro g6 av w6 ar ag an;rw[<-a5]at ag;have aB:=qS a5
   have aw:Hid (AltJ p base g i o w k4 (os++ [aa]) (us++ [.slice a4 a2 a3]) g6 av w6):=by have hq:=a0.2.2.2.2.1.lt;have hc:Chg (λj=>j=gq) W5 w6:=Chg.of_grown ag (λj hj=>by cases hj;rfl);refine⟨a0.1,a0.2.1,yA.chg a0.2.2.1 hc (by omega),a0.2.2.2.1.chg hc (by omega),ar,by rw[length_append,length_append,a7.2.1];rfl,?_,a0.2.2.2.2.2.2.1.absorb hc (λj q=>.inr (by omega)),am⟩;intro j y s hy hs;exact(a0.2.2.2.2.2.1 j y s hy hs).move hc (λq hq z=>z.2 hq) (λq hq z=>⟨z.1,λe=>by rcases an with r|r;exact z.2 qo;omega⟩)
   clear ar ag an a5 a0;go_wp2;go_roundw;case rel=>exact⟨k4,g6,av,os++ [aa],us++ [.slice a4 a2 a3],qo,ax.2,by rw[length_append];simp;omega,by rw[length_append];rfl,aw.out⟩
   case measure=>rw[a7.2.2,yFg aw.rd];omega
  .have HX:=qH3 HJ.1.ok (λc hc=>⟨HJ.1.nxt c hc,λq=>by subst q;exact hx hc⟩:(∀c,(sb p)[k]?=some c->yFw c/\¬c=124)) HJ.1.len;have HR:=HJ.1.read ae a1;have HF:=qH2 a1 HR;clear HR ae hx a1 HJ;have r0:=HF.2.1.cell (j:=0) rfl;have rf:=HF.2.1.frozen 0;go_wp2;refine bodyPost_ret (v:=.agg #[xg gq us.length cp]) (by simp[results,results229,go_sem,World.cell?_setCell_same _ _ _ r0]) rfl ?_;have hc:=Chg.of_set w3 w 0 (xg gq us.length cp) (S:=λj=>j=w.heap.size) rfl;have hq:=HF.2.2.1.lt;refine⟨HF.2.2.2.2.absorb hc (λj q=>.inr qo),.inl ⟨k,os,_,HX.1,HX.2.1,rfl,?_,yA.chg HF.1 hc qo⟩⟩;obtain⟨n,hn⟩:=yUo HX.2.2 (λi x ts hx ht=>(HF.2.2.2.1 i x ts hx ht).move (S:=λ_=>False) (Chg.refl _ _) (λ_ q=>q.elim) (lo':=λj=>w.heap.size+1<=j) (λ_ _ q=>q.1));have hA:yDo w3 (λj=>w.heap.size+1<=j) os (xg gq us.length cp):=⟨n,gq,cp,us,by rw[HX.2.2],HX.2.2,HF.2.2.1.vals hq.1,hn⟩;exact hA.move hc (λj q=>by subst q;exact λz=>qo) (λj hj z=>⟨qo,qw hc.size⟩)
theorem xAc (hp:p.size<=200):∀m,xCh p m/\AltC p m
 |0=>by
  have h0:xCh p 0:=λbase g i o w hm hi=>qo
  exact⟨h0,xDm (xDa (xDd h0 hp) hp) hp⟩
 |m+1=>by
  have h1:=xFt (xAc hp m).2 hp
  exact⟨h1,xDm (xDa (xDd h1 hp) hp) hp⟩
theorem xCc (hp:p.size<=200) (base g i o:Nat) w (hi:i<=p.size) (ho:o<=20) (h:PrAt w base g p i o):Calls prog 229 #[xp g] w (xAj p base g i o w):=
 (xAc hp (p.size-i)).2 base g i o w qr hi ho h
end
theorem yYk (c a:Int) (w:World):(Instr.typeAssert (pfV c a) 20 321 true).run prog w=.ok (.tuple #[.agg #[xi c,xi a],true]) w:=qk
theorem xBh (w:World):(xf 228 #[.nilIface] w (.agg #[xi 0,xi 0]):Prop):=by go_enter func228,ntmps228;go_wp2_with fail;refine bodyPost_ret (v:=.agg #[xi 0,xi 0]) (by simp[results,results228,go_sem]) rfl ⟨rfl,?_⟩;exact qB
theorem xEw (c a:Int) (w:World):(xf 228 #[pfV c a] w (.agg #[xi c,xi a]):Prop):=by
 have a4:=yYk;obtain⟨W,hW⟩:=qE (xw w #[xi 0,xi 0] 321:World);have HW:Hid (yA W w 321 2 w [xi 0,xi 0]/\Below w w W):=by rw[hW];exact⟨yAa w _ qr rfl,qB⟩
 obtain⟨W2,a1⟩:=qE (xw W #[xi c,xi a] 321:World);have a0:Hid (yA W2 w 321 2 w [xi 0,xi 0]/\yA W2 w 321 2 W [xi c,xi a]/\Below w w W2):=by
  have hb:=qN a1
  refine⟨HW.1.below hb,?_,HW.2.trans (hb.mono HW.2.size)⟩;rw[a1];exact yAa W _ HW.2.size rfl
 go_enter func228,ntmps228;go_upto_region 1 with fail;rw[<-hW];clear hW;go_upto_region 7 with fail;rw[<-a1];clear a1 a4;obtain⟨b0,b1⟩:=a0.2.1.c2;obtain⟨r0,r1⟩:=a0.1.c2;obtain⟨f0,f1⟩:=a0.1.f2;have a3:=(a0.1.set 0 (xi c)).set 1 (xi a);obtain⟨p0,p1⟩:=a3.c2;obtain⟨W3,a2⟩:=qE (xt (W2.setCell (xd w 0) (xi c)) w 1 (xi a):World);rw[<-a2]at p0 p1;have a5:Hid (Below w w W3):=by show Below w w W3;rw[a2];exact yAc (yAc a0.2.2 qr 0 _) qr 1 _
 clear a3;go_wp2_with fail;rw[<-a2];refine bodyPost_ret (v:=.agg #[xi c,xi a]) (by simp[results,results228,go_sem,p0,p1]) rfl ⟨rfl,a5.out⟩
theorem xA6 (base rb eb:Nat) (c a:Int) (older:List PanicEntry) (w:World) (hc:¬c=0) (x:Value) (hr:yA w base 304 1 rb [x]) (he:yA w base 158 2 eb [xi 0,xi 0]) (hne:¬rb=eb):
  CallsD prog 227 #[xp rb,xp eb] (.panicking ({v:=pfV c a,recovered:=false}::older)) w λe u' w'=>
   e=.returned (.tuple #[])/\u'=.panicking ({v:=pfV c a,recovered:=true}::older)/\yA w' base 304 1 rb [xh]/\yA w' base 158 2 eb [xi c,xi a]/\Chg (λk=>k=rb∨k=eb) w w':=by
 refine callsD_of_wpS func227 rfl λc₀ cs hu=>?_;apply wpS_seq;apply wpS_region;simp[wpOpsS,go_sem,recoverD,hu,ntmps227,Exit.thenS];refine(xEw c a w).mono ?_;rintro e w1 ⟨rfl,a0⟩;simp[wpOpsS,go_sem];have ht:#[Value.pointer (some ⟨rb,0,none⟩),Value.pointer (some ⟨eb,0,none⟩)]++(((Array.replicate 12 undef).setIfInBounds 1 (pfV c a)).setIfInBounds 2 (Value.agg #[Value.int IntKind.i64 c,Value.int IntKind.i64 a])).setIfInBounds 0 (Value.pointer (some ⟨w1,0,none⟩))=#[.pointer (some ⟨rb,0,none⟩),.pointer (some ⟨eb,0,none⟩),.pointer (some ⟨w1,0,none⟩),pfV c a,.agg #[xi c,xi a],undef,undef,undef,undef,undef,undef,undef,undef,undef]:=by rfl
 rw[ht];clear ht;obtain⟨W2,a1⟩:=qE (xw w1 #[xi c,xi a] 321:World);have hb2:=qN a1
 have HB:Hid (yA W2 base 304 1 rb [x]/\yA W2 base 158 2 eb [xi 0,xi 0]/\Chg (λk=>k=rb∨k=eb) w W2):=
  ⟨(hr.below a0).below hb2,(he.below a0).below hb2,(Chg.of_below a0).trans (Chg.of_below hb2)⟩
 have d0:(xk W2 w1 0 (xi c):Prop):=by rw[a1];simp
 have d1:(xk W2 w1 1 (xi a):Prop):=by rw[a1];simp
 have a4:=(hr.below a0).lt.2;have a5:=(he.below a0).lt.2;obtain⟨FB,a3⟩:=qE w1.heap.size;rw[<-a1];rw[<-a3]at d0 d1⊢;have n1:¬FB=rb:=qo
 have n2:¬FB=eb:=qo
 clear a1 a3 a0 hb2 hr he a4 a5;have r0:=HB.1.cell (j:=0) rfl;have rf:=HB.1.frozen 0;obtain⟨e0,e1⟩:=HB.2.1.c2;obtain⟨f0,f1⟩:=HB.2.1.f2;have n3:¬eb=rb:=λq=>hne q.symm;have HF:∀w':World,Below W2 W2 w'->yA (xt ((w'.setCell (xd rb 0) xh).setCell (xd eb 0) (xi c)) eb 1 (xi a)) base 304 1 rb [xh]/\yA (xt ((w'.setCell (xd rb 0) xh).setCell (xd eb 0) (xi c)) eb 1 (xi a)) base 158 2 eb [xi c,xi a]/\Chg (λk=>k=rb∨k=eb) w (xt ((w'.setCell (xd rb 0) xh).setCell (xd eb 0) (xi c)) eb 1 (xi a)):=λw' hb=>by refine⟨((((HB.1.below hb).set 0 _).beside hne 0 _).beside hne 1 _),((((HB.2.1.below hb).beside n3 0 _).set 0 _).set 1 _),((((HB.2.2.trans (Chg.of_below hb)).trans (Chg.of_set _ rb 0 _ (.inl rfl))).trans (Chg.of_set _ eb 0 _ (.inr rfl))).trans (Chg.of_set _ eb 1 _ (.inr rfl)))⟩
 have a6:=qH1 HF;clear HF;refine wpS_of_wp ?_;go_upto_region 2 with fail;go_region;all_goals go_wp2_with fail
 have a2:=a6.out W2 (Below.refl _ _);have hdr:∀X:World,Below X X X.drew:=λX=>(Below.refl _ _).drew;exact⟨rfl,_,rfl,_,by simp[results,results227],rfl,rfl,a2.1.below (hdr _),a2.2.1.below (hdr _),a2.2.2.trans (Chg.of_below (hdr _))⟩
theorem xEj (rb eb:Nat) (w:World):
  CallsD prog 227 #[xp rb,xp eb] .returning w λe u' w'=>e=.returned (.tuple #[])/\u'=.returning/\Below w w w':=by
 refine callsD_of_wpS func227 rfl λc₀ cs hu=>?_;apply wpS_seq;apply wpS_region;simp[wpOpsS,go_sem,recoverD,hu,ntmps227,Exit.thenS];refine(xBh w).mono ?_;rintro e w1 ⟨rfl,a0⟩;simp[wpOpsS,go_sem];have ht:#[Value.pointer (some ⟨rb,0,none⟩),Value.pointer (some ⟨eb,0,none⟩)]++(((Array.replicate 12 undef).setIfInBounds 1 .nilIface).setIfInBounds 2 (Value.agg #[Value.int IntKind.i64 0,Value.int IntKind.i64 0])).setIfInBounds 0 (Value.pointer (some ⟨w1,0,none⟩))=#[.pointer (some ⟨rb,0,none⟩),.pointer (some ⟨eb,0,none⟩),.pointer (some ⟨w1,0,none⟩),.nilIface,.agg #[xi 0,xi 0],undef,undef,undef,undef,undef,undef,undef,undef,undef]:=by rfl
 rw[ht];clear ht;have HB:Hid (Below w w (xw w1 #[xi 0,xi 0] 321)):=a0.trans ((Below.refl _ _).alloc a0.size _);clear a0;refine wpS_of_wp ?_;go_wp2_with fail;refine⟨rfl,.returning,?_,_,by simp[results,results227],rfl,rfl,HB.out⟩;cases c₀
 simp_all
def yAj (p:List UInt8):Int×Nat:=if 200<p.length then(1,0)else chkM p 0 0 false
def yDv (p:ByteArray) (w:World) (e:Ending) (w':World):Prop:=
 ∃u:Value,e=.returned (.tuple #[.agg #[u],.agg #[xi (yAj (sb p)).1,xi (yAj (sb p)).2]])/\Below w w w'/\
  (((yAj (sb p)).1=0/\∃os,yDn (sb p) 0 0 p.size os/\yDo w' (Bet w w') os u)∨(¬(yAj (sb p)).1=0/\u=xh))
theorem yYc {eb:Nat} {a:Act} {x:Value} (hu:u.oneCell'=true) (ht:a.tmps.getD 2 undef=(xp rb)) (ht2:a.tmps.getD 3 undef=(xp eb)) (hr:yA w base 304 1 rb [u]) (he:yA w base 158 2 eb [x,y]):
  (results Tryz.f212 a.tmps).run prog w=.ok (.tuple #[.agg #[u],.agg #[x,y]]) w:=by
 have p0:=hr.cell (j:=0) rfl;obtain⟨q0,q1⟩:=he.c2;have h1:a.tmps[2]?.getD undef=(xp rb):=by rw[<-Array.getD_eq_getD_getElem?];exact ht
 have h2:a.tmps[3]?.getD undef=(xp eb):=by rw[<-Array.getD_eq_getD_getElem?];exact ht2
 simp[results,results212,go_sem,h1,h2,p0,q0,q1]
theorem yYd (p:ByteArray) (w wq:World) (a:Act) (c:Int) (k rb eb:Nat) (x:Value) (hrb:w.heap.size<=rb) (heb:w.heap.size<=eb) (hne:¬rb=eb) (hd:a.defers= [{target:=Target.fn (Fn.func 227) #[xp rb,xp eb],args:=#[]}])
  (ht:a.tmps.getD 2 undef=(xp rb)) (ht2:a.tmps.getD 3 undef=(xp eb)) (hM:yAj (sb p)=(c,k)) (hc:¬c=0) (hr:yA wq w 304 1 rb [x]) (he:yA wq w 158 2 eb [xi 0,xi 0]) (hB:Below w w wq):
  bodyPostD prog Tryz.f212 (λe w'=>yDv p w e w') (.panic [{v:=pfV c k,recovered:=false}]) a wq:=by
 show Leaves prog Tryz.f212 a.tmps (λe w'=>yDv p w e w') a.defers (.panicking [{v:=pfV c k,recovered:=false}]) wq;rw[hd];refine leaves_cons (f:=227) (args:=#[.pointer (some ⟨rb,0,none⟩),.pointer (some ⟨eb,0,none⟩)]) (by simp) (by simp[go_sem]) ?_;refine(xA6 w rb eb c k [] wq hc x hr he hne).mono ?_;rintro e u' w'' ⟨rfl,rfl,a0,a1,hC⟩;show Leaves prog Tryz.f212 a.tmps (λe w'=>yDv p w e w') [] (settle (.panicking [{v:=pfV c k,recovered:=true}])) _;refine⟨_,yYc rfl ht ht2 a0 a1,xh,by rw[hM],Chg.below hB hC hB.size (λj q=>qo),.inr ⟨by rw[hM];exact hc,rfl⟩⟩
theorem xEk (p:ByteArray) (w wq:World) (a:Act) (rb eb:Nat) (u:Value) (os:List (List Pat)) (hu:u.oneCell'=true) (hd:a.defers= [{target:=Target.fn (Fn.func 227) #[xp rb,xp eb],args:=#[]}])
  (ht:a.tmps.getD 2 undef=(xp rb)) (ht2:a.tmps.getD 3 undef=(xp eb)) (hM:yAj (sb p)=(0,0)) (hA:yDn (sb p) 0 0 p.size os) (hU:yDo wq (Bet w wq) os u) (hr:yA wq w 304 1 rb [u]) (he:yA wq w 158 2 eb [xi 0,xi 0]) (hB:Below w w wq):
  bodyPostD prog Tryz.f212 (λe w'=>yDv p w e w') .ret a wq:=by
 show Leaves prog Tryz.f212 a.tmps (λe w'=>yDv p w e w') a.defers .returning wq;rw[hd];refine leaves_cons (f:=227) (args:=#[.pointer (some ⟨rb,0,none⟩),.pointer (some ⟨eb,0,none⟩)]) (by simp) (by simp[go_sem]) ?_;refine(xEj rb eb wq).mono ?_;rintro e u' w'' ⟨rfl,rfl,hb⟩;show Leaves prog Tryz.f212 a.tmps (λe w'=>yDv p w e w') [] (settle .returning) w'';refine⟨_,yYc hu ht ht2 (hr.below hb) (he.below hb),u,by rw[hM];rfl,hB.trans (hb.mono hB.size),.inl ⟨by rw[hM],os,hA,hU.move (S:=λ_=>False) (Chg.of_below hb) (λq hq=>hq.elim) (λq hq z=>⟨z.1,by have:=hb.size;omega⟩)⟩⟩
theorem yA5 (p:ByteArray) w (hpm:p.size<=maxLen):Calls prog 212 #[p] w λe w'=>yDv p w e w':=by
 have af:∀(fn:Fn) (first cap:Array Value) (w:World),(Instr.makeFunc fn first cap).run prog w=.ok (.func fn first cap) w:=λ_ _ _ _=>rfl;obtain⟨W0,a6⟩:=qW (xw (w.alloc (Obj.cells #[xh] 304)) #[xi 0,xi 0] 158);have a2:Hid (yA W0 w 304 1 w [xh]/\yA W0 w 158 2 (w+1) [xi 0,xi 0]/\Below w w W0/\W0.heap.size=w.heap.size+2):=by rw[a6];refine⟨yA.ofHeap (vs:=#[.slice none 0 0]) (heap_alloc2_old w _ _) qr rfl,yA.ofHeap (vs:=#[.int .i64 0,.int .i64 0]) (heap_alloc2_new w _ _) qo rfl,(qB).alloc (by simp) _,by simp⟩
 unfold maxLen at hpm;by_cases hp:200<p.size
 .have HM:Hid (yAj (sb p)=(1,0)):=by show yAj (sb p)=_;unfold yAj;rw[if_pos (by rw[yAe];exact hp)]
  have z:¬(p.size:Int)<=200:=qo
  have z2:(200:Int)<(p.size:Int):=qo
  go_enter_defers func212,ntmps212;go_upto_region 1 with fail;rw[<-a6];clear a6;have r0:=a2.1.cell (j:=0) rfl;have rf:=a2.1.frozen 0;obtain⟨e0,e1⟩:=a2.2.1.c2;obtain⟨f0,f1⟩:=a2.2.1.f2;obtain⟨W1,a3⟩:=qW (xt ((W0.setCell (xd w 0) xh).setCell (xd (w+1) 0) (xi 1)) (w+1) 1 (xi 0));have a0:Hid (yA W1 w 304 1 w [xh]/\yA W1 w 158 2 (w+1) [xi 1,xi 0]/\Below w w W1):=by rw[a3];exact⟨(((a2.1.set 0 _).beside qo 0 _).beside qo 1 _),(((a2.2.1.beside qo 0 _).set 0 _).set 1 _),yAc (yAc (yAc a2.2.2.1 qr 0 _) qo 0 _) qo 1 _⟩
  go_wp2_with fail;rw[<-a3];show Leaves prog Tryz.f212 _ (λe w'=>yDv p w e w') [] .returning W1;refine⟨_,yYc (a:={tmps:=_,defers:= []}) rfl rfl rfl a0.1 a0.2.1,xh,by rw[HM.out];rfl,a0.2.2,.inr ⟨by rw[HM.out];decide,rfl⟩⟩
 have ae:p.size<=200:=qo
 have HM:Hid (yAj (sb p)=chkM (sb p) 0 0 false):=by show yAj (sb p)=_;unfold yAj;rw[if_neg (by rw[yAe];exact hp)]
 have z:(p.size:Int)<=200:=qo
 obtain⟨W1,a3⟩:=qW (xw W0 #[p,xi 0,xi 0] 324);have a0:Hid (yA W1 w 304 1 w [xh]/\yA W1 w 158 2 (w+1) [xi 0,xi 0]/\PrAt W1 w (w+2) p 0 0/\Below w w W1/\W1.heap.size=w.heap.size+3):=by
  have hb:=qN a3
  have hz:=a2.2.2.2;refine⟨a2.1.below hb,a2.2.1.below hb,?_,a2.2.2.1.trans (hb.mono qo),by rw[a3];simp;omega⟩;rw[a3,<-hz];exact yAa W0 #[p,xi 0,xi 0] qo rfl
 go_enter_defers func212,ntmps212;go_upto_region 1 with fail;rw[<-a6];have ad:=a2.2.2.2;clear a6 a2;go_upto_region 5 with fail;rw[<-a3];clear a3 ad;go_wp2_with fail;refine(xCc ae w (w+2) 0 0 W1 (zero_le _) (zero_le _) a0.2.2.1).mono ?_;rintro e w2 ⟨a5,(⟨k,os,u,hA,hN,rfl,hU,ac⟩|⟨c,k,hc,hk,rfl⟩)⟩;case inr=>
  have hb2:=Chg.below a0.2.2.2.1 a5 a0.2.2.2.1.size (λj q=>by omega);exact yYd p w w2 _ c k w (w+1) _ qr qo qo rfl rfl rfl (by rw[HM.out,hk]) hc (a0.1.chg a5 qo) (a0.2.1.chg a5 qo) hb2
 obtain⟨gu,nu,cu,rfl⟩:=hU.slice;have ag:k<=p.size:=by have:=hA.le;rw[yAe]at this;exact this
 have HA:=qH2 hA hN;have a4:Hid (yA w2 w 304 1 w [xh]/\yA w2 w 158 2 (w+1) [xi 0,xi 0]/\PrAt w2 w (w+2) p k 0/\Below w w w2/\yDo w2 (λj=>w.heap.size+3<=j) os (xg gu nu cu)):=by refine⟨a0.1.chg a5 qo,a0.2.1.chg a5 qo,ac,Chg.below a0.2.2.2.1 a5 a0.2.2.2.1.size (λj q=>qo),hU.move (S:=λ_=>False) (Chg.refl _ _) (λq hq=>hq.elim) (λq _ z=>by have h1:=z.1;rw[a0.2.2.2.2]at h1;exact h1)⟩
 clear a5 hA hN hU ac a0;obtain⟨W3,aa⟩:=qW (xt w2 w 0 (xg gu nu cu));have a1:Hid (yA W3 w 304 1 w [xg gu nu cu]/\yA W3 w 158 2 (w+1) [xi 0,xi 0]/\PrAt W3 w (w+2) p k 0/\Below w w W3/\yDo W3 (λj=>w.heap.size+3<=j) os (xg gu nu cu)):=by have hc:=Chg.of_set w2 w 0 (xg gu nu cu) (S:=λj=>j=w.heap.size) rfl;rw[aa];exact⟨a4.1.set 0 _,a4.2.1.chg hc qo,yA.chg a4.2.2.1 hc qo,yAc a4.2.2.2.1 qr 0 _,a4.2.2.2.2.move hc (λq hq=>by subst hq;exact λz=>qo) (λq _ z=>z)⟩
 have r0:=a4.1.cell (j:=0) rfl;have rf:=a4.1.frozen 0;clear a4;go_upto_region 6 with fail;rw[<-aa];clear aa r0 rf;have c1:=a1.2.2.1.cell (j:=1) rfl;by_cases hke:k=p.size
 .have zk:(k:Int)=(p.size:Int):=qo
  have a9:Hid (yAj (sb p)=(0,0)/\yDn (sb p) 0 0 p.size os):=by refine⟨?_,by rw[<-hke];exact HA.1⟩;rw[HM.out,HA.1.chk,yHv (by rw[yAe];omega),if_neg qo]
  clear HA hke;go_wp2_with fail;refine(yJm _ a1.2.2.1).mono ?_;rintro e w5 ⟨a7,(⟨hc,rfl⟩|⟨hc,rfl⟩)⟩;case inr=>exfalso;(simp at hc)<;>omega
  rw[a7];clear a7 hc c1;have r0:=a1.1.cell (j:=0) rfl;have rf:=a1.1.frozen 0;obtain⟨e0,e1⟩:=a1.2.1.c2;obtain⟨f0,f1⟩:=a1.2.1.f2;obtain⟨W6,ab⟩:=qW (xt ((W3.setCell (xd w 0) (xg gu nu cu)).setCell (xd (w+1) 0) (xi 0)) (w+1) 1 (xi 0));have a8:Hid (yA W6 w 304 1 w [xg gu nu cu]/\yA W6 w 158 2 (w+1) [xi 0,xi 0]/\Below w w W6/\yDo W6 (Bet w W6) os (xg gu nu cu)):=by have c1:=Chg.of_set W3 w 0 (xg gu nu cu) (S:=λj=>j=w.heap.size∨j=w.heap.size+1) (.inl rfl);have c2:=c1.trans (Chg.of_set _ (w+1) 0 (xi 0) (S:=λj=>j=w.heap.size∨j=w.heap.size+1) (.inr rfl));have c3:=c2.trans (Chg.of_set _ (w+1) 1 (xi 0) (S:=λj=>j=w.heap.size∨j=w.heap.size+1) (.inr rfl));rw[ab];exact⟨(((a1.1.set 0 _).beside qo 0 _).beside qo 1 _),(((a1.2.1.beside qo 0 _).set 0 _).set 1 _),yAc (yAc (yAc a1.2.2.2.1 qr 0 _) qo 0 _) qo 1 _,a1.2.2.2.2.move c3 (λq hq=>λz=>qo) (λq hq z=>⟨qo,qw c3.size⟩)⟩
  go_wp2_with fail;rw[<-ab];exact xEk p w W6 _ w (w+1) _ os rfl rfl rfl rfl a9.1 a9.2 a8.2.2.2 a8.1 a8.2.1 a8.2.2.1
 .have zk:¬(k:Int)=(p.size:Int):=qo
  have a9:Hid (yAj (sb p)=(2,k)):=by
   show yAj (sb p)=_;obtain⟨c,hc⟩:∃c,(sb p)[k]?=some c:=qg (by rw[yAe];omega);obtain⟨h1,h2⟩:=HA.2 c hc;rw[HM.out,HA.1.chk];rcases h1 with h1|h1|h1|h1
   .rw[yR hc h1];rfl
   .exact absurd h1 h2
   .subst h1;rw[yD4 hc,if_pos rfl]
   .subst h1;rw[yQ9 hc]
  clear HA hke;go_wp2_with fail;refine(yJm _ a1.2.2.1).mono ?_;rintro e w5 ⟨a7,(⟨hc,rfl⟩|⟨hc,rfl⟩)⟩
  .exfalso;(simp at hc)<;>omega
  rw[a7];exact yYd p w W3 _ 2 k w (w+1) _ qr qo qo rfl rfl rfl a9.out qj a1.1 a1.2.1 a1.2.2.2.1
theorem yLl (p:ByteArray) (w:World) (hpm:p.size<=maxLen):(xf 183 #[p] w (.agg #[xi (yAj (sb p)).1,xi (yAj (sb p)).2]):Prop):=by
 obtain⟨W0,a4⟩:=qW (xw w #[xi 0,xi 0] 158);have a3:Hid (yA W0 w 158 2 w [xi 0,xi 0]/\Below w w W0):=by rw[a4];exact⟨yAa w _ qr rfl,qB⟩
 obtain⟨c,hc⟩:=qE ((yAj (sb p)).1);obtain⟨k,hk⟩:=qE ((yAj (sb p)).2);rw[<-hc,<-hk];go_enter func183,ntmps183;go_upto_region 1 with fail;rw[<-a4];clear a4;go_wp2_with fail;refine(yA5 p W0 hpm).mono ?_;rintro e w1 ⟨u,rfl,a1,hu⟩;rw[<-hc,<-hk];obtain⟨ua,un,uc,rfl⟩:∃a n cp,u=.slice a n cp:=by
  rcases hu with⟨_,os,_,hU⟩|⟨_,rfl⟩
  .obtain⟨g,n,cp,rfl⟩:=hU.slice;exact⟨_,_,_,rfl⟩
  .exact⟨_,_,_,rfl⟩
 clear hu hc hk;obtain⟨W2,a2⟩:=qW (xw (w1.alloc (Obj.cells #[.slice ua un uc] 304)) #[xi c,xi k] 158);have a0:Hid (yA W2 w 158 2 w [xi 0,xi 0]/\yA W2 w 158 2 (w1+1) [xi c,xi k]/\Below w w W2):=by
  have hb2:Below w1 w1 W2:=by rw[a2];exact(qB).alloc (by simp) _
  have h1:=a3.2.size;have h2:=a1.size;refine⟨(a3.1.below a1).below hb2,?_,(a3.2.trans (a1.mono h1)).trans (hb2.mono (by omega))⟩;rw[a2];exact yA.ofHeap (vs:=#[.int .i64 c,.int .i64 (k:Int)]) (heap_alloc2_new w1 _ _) (by omega) rfl
 clear a1 a3;go_upto_region 2 with fail;rw[<-a2];clear a2;obtain⟨b0,b1⟩:=a0.2.1.c2;obtain⟨r0,r1⟩:=a0.1.c2;obtain⟨f0,f1⟩:=a0.1.f2;have a5:=(a0.1.set 0 (xi c)).set 1 (xi k);obtain⟨p0,p1⟩:=a5.c2;have a7:Hid (Below w w (xt (W2.setCell (xd w 0) (xi c)) w 1 (xi k))):=yAc (yAc a0.2.2 qr 0 _) qr 1 _;obtain⟨W3,a6⟩:=qW (xt (W2.setCell (xd w 0) (xi c)) w 1 (xi k));rw[<-a6]at p0 p1 a7;clear a5;go_wp2;rw[<-a6];refine bodyPost_ret (v:=.agg #[xi c,xi k]) (by simp[results,results183,go_sem,p0,p1]) rfl ⟨rfl,a7.out⟩
abbrev less (a b:ByteArray):Prop:=Op.bytesLess a.toList b.toList=true
theorem xBq (k:Int) (s:ByteArray) (h:Bool) (t:ByteArray) (l u n k':Int) (s':ByteArray) (h':Bool) (t':ByteArray) (l' u' n':Int) (wx:World):
  (binOp .eql 83 (.agg #[xi k,s,h,t,xu l,xu u,xi n]) (.agg #[xi k',s',h',t',xu l',xu u',xi n'])).run prog wx=.ok (decide (k=k'/\s.toList=s'.toList/\h=h'/\t.toList=t'.toList/\l=l'/\u=u'/\n=n')) wx:=by
 go_simp;repeat' split
 all_goals simp_all
theorem yXd (e:Nd) (w:World):Calls prog 88 #[e.v,.bool true,.bool false,.bool false,.bool false,.bool false] w λr w'=>∃b,r=.returned (.bool b)/\(b=true↔e.hi=false/\e.t.toList= []/\e.lo=0/\e.up=0/\e.n=0)/\Below w w w':=by exact yXl
theorem yT5 (e:Nd) (w:World):Calls prog 88 #[e.v,.bool true,.bool true,.bool true,.bool false,.bool false] w λr w'=>∃b,r=.returned (.bool b)/\(b=true↔e.lo=0/\e.up=0/\e.n=0)/\Below w w w':=by exact yXl
theorem yXe (e:Nd) (w:World):Calls prog 88 #[e.v,.bool false,.bool true,.bool false,.bool true,.bool false] w λr w'=>∃b,r=.returned (.bool b)/\(b=true↔e.s.toList= []/\e.t.toList= []/\e.n=0)/\Below w w w':=by exact yXl
theorem yXf (e:Nd) (w:World):Calls prog 88 #[e.v,.bool false,.bool false,.bool false,.bool false,.bool true] w λr w'=>∃b,r=.returned (.bool b)/\(b=true↔e.s.toList= []/\e.hi=false/\e.t.toList= []/\e.lo=0/\e.up=0)/\Below w w w':=by exact yXl
theorem yXc (e:Nd) (w:World):Calls prog 88 #[e.v,.bool false,.bool false,.bool false,.bool false,.bool false] w λr w'=>∃b,r=.returned (.bool b)/\(b=true↔e.s.toList= []/\e.hi=false/\e.t.toList= []/\e.lo=0/\e.up=0/\e.n=0)/\Below w w w':=by exact yXl
theorem yZv (e:Nd) (w:World):Calls prog 184 #[e.v] w λr w'=>∃b,r=.returned (.bool b)/\(b=true↔((e.hi=false/\e.t.toList= []/\e.up=0)∨(e.hi=true/\(less e.s e.t∨e.lo<e.up))))/\Below w w w':=by
 go_enter func184,ntmps184;go_wp2_with fail;all_goals go_ret
 all_goals exact⟨_,rfl,by simp_all[less],qB⟩
def yCb (e:Nd):Prop:=e.s.size<=200/\e.t.size<=200/\(e.hi=false->e.t.toList= []/\e.up=0)/\
 (((e.kind=4∨e.kind=5∨e.kind=6∨e.kind=7)/\(e.hi=false/\e.t.toList= []/\e.lo=0/\e.up=0/\e.n=0)/\(yAj (sb e.s)).1=0)∨
  ((e.kind=8∨e.kind=9)/\(e.lo=0/\e.up=0/\e.n=0)/\(e.hi=true->less e.s e.t))∨
  (e.kind=10/\(e.s.toList= []/\e.t.toList= []/\e.n=0)/\(e.hi=true->e.lo<e.up))∨
  ((e.kind=11∨e.kind=12∨e.kind=13)/\(e.s.toList= []/\e.hi=false/\e.t.toList= []/\e.lo=0/\e.up=0)/\1<=e.n/\e.n<=1000)∨
  ((e.kind=1∨e.kind=2∨e.kind=3∨e.kind=14∨e.kind=15∨e.kind=16)/\(e.s.toList= []/\e.hi=false/\e.t.toList= []/\e.lo=0/\e.up=0/\e.n=0)))
theorem yUt (c k:Int) (w:World):(Instr.field 158 (.agg #[xi c,xi k]) 0).run prog w=.ok (xi c) w:=qk
def xDo (e:Nd) (w:World) (r:Ending) (w':World):Prop:=∃b,r=.returned (.bool b)/\(b=true↔yCb e)/\Below w w w'
variable {p:Prop}
theorem zGf (h:p:=by go_wp2_with fail;go_ret;refine⟨_,rfl,⟨nofun,λq=>?_⟩,HW0.2.trans (hb1.mono hbw)⟩;have hB:=HB.out;simp[yCb]at q hB;simp_all):p:=h
theorem zGt (h:p:=by go_wp2_with fail;go_ret;refine⟨_,rfl,?_,HW0.2.trans (hb1.mono hbw)⟩;have hB:=HB.out;have hG:=HG.out;simp at hB;simp[yCb,less];simp_all;try omega):p:=h
theorem zGa (h:p:=by go_wp2_with fail;refine(yXd ⟨_,s,hi,t,lo,up,n⟩ _).mono ?_;rintro r w1 ⟨b,rfl,hb,hb1⟩;have HB:=qH1 hb;obtain⟨d0,d1,d2,d3,d4,d5,d6⟩:=(HW0.1.below hb1).c7;clear hb;cases b;exact zGf;exact xIl):p:=h
theorem zGb (h:p:=by go_wp2_with fail;refine(yT5 ⟨_,s,hi,t,lo,up,n⟩ _).mono ?_;rintro r w1 ⟨b,rfl,hb,hb1⟩;have HB:=qH1 hb;obtain⟨d0,d1,d2,d3,d4,d5,d6⟩:=(HW0.1.below hb1).c7;clear hb;cases b;exact zGf;cases hi<;>exact zGt):p:=h
theorem zGc (h:p:=by go_wp2_with fail;refine(yXf ⟨_,s,hi,t,lo,up,n⟩ _).mono ?_;rintro r w1 ⟨b,rfl,hb,hb1⟩;have HB:=qH1 hb;obtain⟨d0,d1,d2,d3,d4,d5,d6⟩:=(HW0.1.below hb1).c7;clear hb;cases b;exact zGf;by_cases h1:1<=n<;>exact zGt):p:=h
theorem zGe (h:p:=by go_wp2_with fail;refine(yXc ⟨_,s,hi,t,lo,up,n⟩ _).mono ?_;rintro r w1 ⟨b,rfl,hb,hb1⟩;have HB:=qH1 hb;clear hb;go_wp2_with fail;go_ret;refine⟨_,rfl,?_,HW0.2.trans (hb1.mono hbw)⟩;rw[HB.out];have hG:=HG.out;simp[yCb];simp_all):p:=h
theorem yZo (e:Nd) (w:World) (hs:e.s.size<=maxLen) (ht:e.t.size<=maxLen):Calls prog 40 #[e.v] w (xDo e w):=by
 obtain⟨kind,s,hi,t,lo,up,n⟩:=e;have HS:=qH1 hs;unfold maxLen at hs ht;simp only[]at hs ht;obtain⟨W0,a0⟩:=qE (w.alloc (Obj.cells #[.int .i64 kind,.string s,.bool hi,.string t,.int .u64 lo,.int .u64 up,.int .i64 n] 83):World);have HW0:Hid (yA W0 w.heap.size 83 7 w.heap.size [.int .i64 kind,.string s,.bool hi,.string t,.int .u64 lo,.int .u64 up,.int .i64 n]/\Below w.heap.size w W0):=by rw[a0];exact⟨yAa w _ (Nat.le_refl _) rfl,qB⟩
 have hbw:=HW0.2.size;obtain⟨c0,c1,c2,c3,c4,c5,c6⟩:=HW0.1.c7;go_enter func40,ntmps40;go_upto_region 1 with fail;rw[<-a0];clear a0;by_cases hgood:s.size<=200/\t.size<=200/\(hi=true∨(hi=false/\t.toList= []/\up=0));case neg=>
  have HG:Hid (¬yCb ⟨kind,s,hi,t,lo,up,n⟩):=λq=>hgood ⟨q.1,q.2.1,by
   cases hi
   .exact .inr ⟨rfl,q.2.2.1 rfl⟩
   .exact .inl rfl⟩
  by_cases h1:s.size<=200
  .have z1:¬(200:Int)<(s.size:Int):=qo
   by_cases h2:t.size<=200
   .have z2:¬(200:Int)<(t.size:Int):=qo
    have a2:hi=false:=by cases hi;rfl;exact absurd ⟨h1,h2,.inl rfl⟩ hgood
    subst a2;by_cases h3:t.toList= []
    .have h4:¬up=0:=λq=>hgood ⟨h1,h2,.inr ⟨rfl,h3,q⟩⟩;exact yVn
    .exact yVn
   .have z2:(200:Int)<(t.size:Int):=qo
    exact yVn
  .have z1:(200:Int)<(s.size:Int):=qo
   exact yVn
 have HG:=qH3 hgood.1 hgood.2.1 (λq=>hgood.2.2.elim (λz=>by rw[q]at z;cases z) (λz=>z.2):(hi=false->t.toList= []/\up=0));go_cut[27] (λs wx=>s=.bool false/\wx=W0);case first=>
  have z1:¬(200:Int)<(s.size:Int):=by have:=HG.1;omega
  have z2:¬(200:Int)<(t.size:Int):=by have:=HG.2.1;omega
  rcases hgood.2.2 with rfl|⟨rfl,h3,rfl⟩
  .go_wp2_with fail;go_meet;exact⟨rfl,rfl⟩
  .go_wp2_with fail;go_meet;exact⟨rfl,rfl⟩
 case rest=>
 obtain⟨rfl,rfl⟩:=hcut;clear hgood hs ht;obtain⟨c,hc⟩:=qE ((yAj (sb s)).1);obtain⟨k,hk⟩:=qE (((yAj (sb s)).2:Int):Int);have HV:=qH1 hc;have HC:Hid (∀w,Calls prog 89 #[.string s] w λe w'=>e=.returned (.agg #[.int .i64 c,.int .i64 k])/\Below w w w'):=λw=>by rw[hc,hk];exact yB6 s w HS.out
 clear hc hk;by_cases k1:kind=4∨kind=5∨kind=6∨kind=7
 .rcases k1 with rfl|rfl|rfl|rfl<;>exact zGa
 by_cases k2:kind=8∨kind=9
 .rcases k2 with rfl|rfl<;>exact zGb
 by_cases k3:kind=10
 .subst k3;go_wp2_with fail;refine(yXe ⟨_,s,hi,t,lo,up,n⟩ _).mono ?_;rintro r w1 ⟨b,rfl,hb,hb1⟩;have HB:=qH1 hb;obtain⟨d0,d1,d2,d3,d4,d5,d6⟩:=(HW0.1.below hb1).c7;clear hb;cases b;exact zGf;cases hi<;>exact zGt
 by_cases k4:kind=11∨kind=12∨kind=13
 .rcases k4 with rfl|rfl|rfl<;>exact zGc
 by_cases k5:kind=1∨kind=2∨kind=3∨kind=14∨kind=15∨kind=16
 .rcases k5 with rfl|rfl|rfl|rfl|rfl|rfl<;>exact zGe
 have HF:Hid (¬yCb ⟨kind,s,hi,t,lo,up,n⟩):=by show¬yCb _;simp only[yCb];rintro⟨_,_,_,q⟩;omega
 have a1:¬(1<=kind/\kind<=16):=qo
 by_cases k0:1<=kind
 .have a3:¬kind<=16:=λq=>a1 ⟨k0,q⟩;exact zF HW0.2
 .exact zF HW0.2
theorem yId (k:Int) w:Calls prog 144 #[xi k] w λe w'=>e=.returned (xi (yA0 k))/\w'=w:=by
 by_cases h14:k=14
 .subst h14;exact xDp
 by_cases h15:k=15
 .subst h15;exact xDp
 by_cases h16:k=16
 .subst h16;exact xDp
 have a2:(k==14)=false:=by simpa using h14
 have a1:(k==15)=false:=by simpa using h15
 have a0:(k==16)=false:=by simpa using h16
 have H:Hid (yA0 k=0):=by show yA0 k=0;unfold yA0;rw[if_neg qo,if_neg h16]
 go_enter func144,ntmps144;go_wp2;go_ret;exact⟨by rw[H.out];rfl,rfl⟩
theorem yJ0 (k:Int) w:Calls prog 145 #[xi k] w λe w'=>e=.returned (xi (yCc k))/\w'=w:=by
 by_cases h15:k=15
 .subst h15;go_enter func145,ntmps145;go_wp2;go_ret;exact⟨rfl,rfl⟩
 by_cases h14:k=14
 .subst h14;go_enter func145,ntmps145;go_wp2;go_ret;exact⟨rfl,rfl⟩
 have a1:(k==14)=false:=by simpa using h14
 have a0:(k==15)=false:=by simpa using h15
 have H:Hid (yCc k=3):=by show yCc k=3;unfold yCc;rw[if_neg h15,if_neg h14]
 go_enter func145,ntmps145;go_wp2;go_ret;exact⟨by rw[H.out];rfl,rfl⟩
theorem yLi (op:Int) (i:Nat) (kid:Int) w (hop:¬op=16):Calls prog 93 #[xi op,xi i,xi kid] w λe w'=>e=.returned (yCf op i kid)/\w'=w:=by
 have a0:(op==16)=false:=by simpa using hop
 by_cases hi:i=0
 .subst hi;have HL:Hid (yCf op 0 kid=decide (yCc kid<yCc op)):=by show yCf op 0 kid=_;unfold yCf;simp[hop]
  exact xF8
 .have zi:((i:Int)==0)=false:=by simpa using hi
  have HL:Hid (yCf op i kid=decide (yCc kid<=yCc op)):=by show yCf op i kid=_;unfold yCf;simp[hop,hi]
  exact xF8
structure Win (w:World) (b off cap:Nat) (xs:List Nd):Prop where
 at_:yH1 w b off xs
 lt:b<w.heap.size
 len:xs.length<=cap
 cap:cap<=9223372036854775807
 sm:xs.length<=281474976710656
variable {b cap:Nat} {xs:List Nd}
theorem Win.below {off:Nat} (h:Win w b off cap xs) (hb:Below w w w'):Win w' b off cap xs:=
 ⟨h.at_.below hb h.lt,qv hb.size h.lt,h.len,h.cap,h.sm⟩
variable {e:Nd}
theorem Win.kind {off:Nat} (h:Win w b off cap xs) (he:xs[i]?=some e):(xk w b (off+i*7) (xi e.kind):Prop):=(h.at_ i e he).1
theorem yMi {off:Nat} (h:Win w b off cap (xs++ [e])):Calls prog 91 #[.slice (some ⟨b,off,none⟩) (xs.length+1) cap] w λr w'=>r=.returned (xi e.kind)/\w'=w:=by have hk:=h.kind (i:=xs.length) (e:=e) (by simp);obtain⟨n,hn⟩:=qE xs.length;have h1:=h.len;have h2:=h.cap;rw[length_append,length_singleton]at h1;rw[<-hn]at hk h1⊢;clear h hn;go_enter func91,ntmps91;go_wp2;go_ret;exact⟨rfl,rfl⟩
def yVl (xs:List Nd) (w:World) (r:Ending) (w':World):Prop:=w'=w/\((∃i:Nat,r=.returned (xi i)/\i<=xs.length/\IsT 1 (xs.drop i))∨(r=.returned (xi (-1))/\∀j,j<=xs.length->¬IsT 1 (xs.drop j)))
theorem yJ1 {off:Nat} (h:Win w b off cap xs):Calls prog 90 #[.slice (some ⟨b,off,none⟩) xs.length cap] w (yVl xs w):=by
 have HW:=qH1 h;have h1:=h.len;have h2:=h.cap;have h3:=h.sm;obtain⟨n,hn⟩:=qE xs.length;have HN:=qH1 hn;rw[<-hn]at h1 h3⊢;clear h hn;go_enter func90,ntmps90;go_wp2;go_loopw[3,4] (λnv iv wr=>∃(i m:Nat),iv=(xi i)/\nv=(xi m)/\i<=n/\m<=1+3*(n-i)/\Sc m (xs.drop i)/\wr=w) (λ_ iv _=>(intOf iv).toNat);case atStart=>exact⟨n,1,rfl,rfl,Nat.le_refl _,qo,by rw[HN.out,drop_length];exact .nil,rfl⟩
 case round=>
  obtain⟨i,m,rfl,rfl,hi,hm,hS,rfl⟩:=hrel;have HS:=qH1 hS;clear hS;by_cases hm0:m=0
  .subst hm0;go_wp2;go_ret;refine⟨rfl,.inl ⟨i,rfl,qw HN.out,?_⟩⟩;have:=HS.tree (pre:= []);exact this.1 .nil
  .obtain⟨m',rfl⟩:∃m',m=m'+1:=⟨m-1,qo⟩;have zm:(0:Int)<(m':Int)+1:=qo
   by_cases hi0:i=0
   .subst hi0;go_wp2;go_ret;exact⟨rfl,.inr ⟨rfl,λj hj=>xEg HS.out j (zero_le _) hj⟩⟩
   .obtain⟨i',rfl⟩:∃i',i=i'+1:=⟨i-1,qo⟩;obtain⟨e,he⟩:∃e,xs[i']?=some e:=qg (qw HN.out);have hk:=HW.kind he;have a0:i'<xs.length:=qw HN.out
    have a2:Hid (Sc (m'+yA0 e.kind) (xs.drop i')):=by show Sc _ _;rw[drop_eq_getElem_cons a0,show xs[i']=e from Option.some.inj ((getElem?_eq_getElem a0).symm.trans he)];exact .cons e HS.out
    have ha:=yI3 e.kind;have zi:¬(i':Int)<0:=qo
    clear he a0;go_wp2_with fail;refine(yId e.kind _).mono ?_;rintro r w2 ⟨rfl,a1⟩;rw[a1];clear a1;go_wp2;go_roundw;case rel=>exact⟨i',m'+yA0 e.kind,by go_num,by go_num,qo,qo,a2.out,by first|rfl|trivial⟩
    case measure=>simp[intOf]<;>omega
theorem yS6 {off:Nat} (h:Win w b off cap xs):Calls prog 41 #[.slice (some ⟨b,off,none⟩) xs.length cap] w λr w'=>w'=w/\((r=.returned true/\IsT 1 xs)∨(r=.returned false/\¬IsT 1 xs)):=by
 have HW:=qH1 h;have h1:=h.len;have h2:=h.cap;have h3:=h.sm;obtain⟨n,hn⟩:=qE xs.length;have HN:=qH1 hn;have HF:Hid (Calls prog 90 #[.slice (some ⟨b,off,none⟩) n cap] w (yVl xs w)):=by rw[hn];exact yJ1 h
 rw[<-hn]at h1 h3⊢;clear h hn;by_cases hn0:n=0
 .subst hn0;have HE:Hid (¬IsT 1 xs):=λq=>qv q.len HN.out
  go_enter func41,ntmps41;go_wp2;go_ret;exact⟨rfl,.inr ⟨rfl,HE.out⟩⟩
 .have zn:(0:Int)<(n:Int):=qo
  go_enter func41,ntmps41;go_wp2_with fail;refine HF.mono ?_;rintro r w2 ⟨a0,(⟨i,rfl,hi,hT⟩|⟨rfl,hT⟩)⟩
  .rw[a0];clear a0;have HT:=qH2 hi hT;clear hi hT;by_cases hi0:i=0
   .subst hi0;go_wp2;go_ret;exact⟨rfl,.inl ⟨rfl,by simpa using HT.2⟩⟩
   .have zi:((i:Int)==0)=false:=by simpa using hi0
    go_wp2;go_ret;refine⟨rfl,.inr ⟨rfl,λq=>hi0 ?_⟩⟩;exact(yM1 (xs:=xs) (i:=0) (j:=i) (by simpa using q) HT.2 (zero_le _) HT.1).symm
  .rw[a0];clear a0;have HT:Hid (¬IsT 1 xs):=λq=>hT 0 (zero_le _) (by simpa using q);clear hT;go_wp2;go_ret;exact⟨rfl,.inr ⟨rfl,HT.out⟩⟩
def OwnV (w:World) (base g cp:Nat) (us:List Value):Prop:=w.ownsRow base 23 1 (xg g us.length cp) us.length us
theorem OwnV.lt {g:Nat} (h:OwnV w base g cp us):base<=g/\g<w.heap.size:=World.ownsRow.lt h g rfl
theorem OwnV.below {g:Nat} (h:OwnV w base g cp us) (hb:Below w w w'):OwnV w' base g cp us:=yAh h (Chg.of_below hb) (S:=λ_=>False) (λk q z=>z)
theorem OwnV.cell {g:Nat} (h:OwnV w base g cp us) {v:Value} (hv:us[j]?=some v):(xk w g j v:Prop):=by have hj:=qf hv;rw[World.ownsRow.cellAt h j qo,hv]
theorem OwnV.caps {g:Nat} (h:OwnV w base g cp us):us.length<=cp/\cp<=maxLen:=by exact yMx
theorem xBk (w:World) (hb:base<=w.heap.size):OwnV (xw w #[] 23) base w 0 []:=
 World.ownsRow_made w #[] 0 hb (zero_le _) (by simp)
theorem xBj (w:World) (hb:base<=w.heap.size) (v:Value):OwnV (xw w #[v] 23) base w 1 [v]:=
 World.ownsRow_lit w #[v] 1 hb qj rfl
theorem Tryz.infoNds:(prog.info? 23).map (λi=>(i.zero,i.size,i.bytes))=some (some (.slice none 0 0),1,24):=qk
theorem yHa {ops:Array Oper} {rest:List Oper} {oo:Oper} {a:Act} {Q:Exit->Act->World->Prop} (w:World) (hgd:oo.guard=none) s x
  (ho:oo.op=.call {callee:=.builtin .append,args:=#[s,x],argTypes:=#[161,161]})
  (base gq cp n b m cx:Nat) (us vs:List Value) (hs:a.eval s=(xg gq n cp)) (hx:a.eval x=.slice (some ⟨b,0,none⟩) m cx) (hn:n=us.length) (hm:m=vs.length) (hO:OwnV w base gq cp us)
  (hc:∀(j:Nat) v,vs[j]?=some v->w.cell? (xd b j)=some v) (hy:∀v∈vs,v.oneCell'=true) (hlen:us.length+vs.length<=1000) (hbase:base<=w.heap.size)
  (h:∀g' cp' w',OwnV w' base g' cp' (us++vs)->w.grownBy w' (some gq)->(g'=gq∨g'=w.heap.size)->wpList prog ops Q rest (a.put oo.dst (.slice (some ⟨g',0,none⟩) (n+m) cp')) w'):wpList prog ops Q (oo::rest) a w:=by
 subst hn hm;obtain⟨i,hi,a4,a3,a2⟩:=info_parts Tryz.infoNds;refine wpList_append_own_at w hgd s x 161 ho base 23 i _ 1 24 underlying161 hi a4 a3 a2 rfl qj (xg gq us.length cp) us.length us hs hO (xd b 0) vs.length cx vs hx (by simp) ?_ hy ?_ ?_ hbase ?_
 .intro j u hu;rw[Addr.add_mid,Nat.zero_add];exact hc j u hu
 .unfold maxLen;omega
 .omega
 .intro v' w' a1 a6 a5 a0;rcases a1.2 with⟨h0,_⟩|⟨g',a7,cur,hv,_,_,hn,a8,_,_⟩
  .have:=(a5.1 h0).1;cases this
  .subst hv;refine h g' a7 w' ?_ a6 ?_
   .unfold OwnV;rw[length_append];exact a1
   .simp[Value.ownBlock]at a0;exact a0
def yJ3 (b:Nat):Nat->Nat->List (List Nd)->List Value
 |_,_,[]=> []
 |o,cap,k::ks=>.slice (some ⟨b,o,none⟩) k.length cap::yJ3 b (o+k.length*7) (cap-k.length) ks
theorem yJ2 (b:Nat):∀(o cap:Nat) (ks:List (List Nd)),(yJ3 b o cap ks).length=ks.length
 |_,_,[]=>rfl
 |o,cap,k::ks=>by simp[yJ3,yJ2]
theorem yQe (b:Nat):∀(o cap:Nat) (ks:List (List Nd)),∀v∈yJ3 b o cap ks,v.oneCell'=true
 |_,_,[],v,h=>by cases h
 |o,cap,k::ks,v,h=>by
  rcases mem_cons.1 h with rfl|h
  .rfl
  .exact yQe b _ _ ks v h
theorem yH1.part {ys:List Nd} (h:yH1 w b o (xs++ys)):yH1 w b o xs/\yH1 w b (o+xs.length*7) ys:=by refine⟨λi e he=>h i e (by rw[getElem?_append_left (qf he)];exact he),λi e he=>?_⟩;have:=h (xs.length+i) e (by rw[getElem?_append_right qo,Nat.add_sub_cancel_left];exact he);rw[Nat.add_mul,<-Nat.add_assoc]at this;exact this
theorem yQf:∀{ks:List (List Nd)} {o cap:Nat} {rest:List Nd},Win w b o cap (ks.flatten++rest)->∀{j:Nat} {k:List Nd},ks[j]?=some k->∃o' cap',(yJ3 b o cap ks)[j]?=some (.slice (some ⟨b,o',none⟩) k.length cap')/\Win w b o' cap' k
 | [],_,_,_,_,j,k,h=>by simp at h
 |a::ks,o,cap,rest,hW,j,k,h=>by
  simp only[flatten_cons,append_assoc]at hW
  have hp:=hW.at_.part
  have hl:=hW.len
  have hc:=hW.cap
  have hs:=hW.sm
  simp only[length_append]at hl hs
  cases j with
  |zero=>
   simp at h
   subst h
   exact⟨o,cap,rfl,hp.1,hW.lt,qo,hc,qo⟩
  |succ j=>
   simp at h
   exact yQf (ks:=ks) (o:=o+a.length*7) (cap:=cap-a.length) (rest:=rest) ⟨hp.2,hW.lt,by simp only[length_append];omega,qo,by simp only[length_append];omega⟩ h
structure KiJ (w:World) (b o cap:Nat) (pre suf:List (List Nd)) (g cp:Nat) (wr:World):Prop where
 own:OwnV wr w g cp (yJ3 b (o+pre.flatten.length*7) (cap-pre.flatten.length) suf)
 below:Below w w wr
variable {ks:List (List Nd)}
theorem yS9 (h:Win w b o cap (ks.flatten++ [e])) (hk:ks.length=yA0 e.kind) (hT:∀k∈ks,IsT 1 k):
  Calls prog 92 #[.slice (some ⟨b,o,none⟩) (ks.flatten.length+1) cap] w λr w'=>∃g cp,r=.returned (xg g ks.length cp)/\OwnV w' w g cp (yJ3 b o cap ks)/\Below w w w':=by
 have HW:=qH2 h hT;have ab:=h.kind (i:=ks.flatten.length) (e:=e) (by simp);have h1:=h.len;have h2:=h.cap;have h3:=h.sm;obtain⟨n,hn⟩:=qE ks.flatten.length;have HN:=qH1 hn;rw[length_append,length_singleton]at h1 h3;rw[<-hn]at ab h1 h3⊢;have ha:=yI3 e.kind;have HA:=qH1 hk;obtain⟨W0,af⟩:=qW (xw w #[] 23);have ah:Hid (KiJ w b o cap ks [] w 0 W0):=by rw[af];exact⟨xBk w qr,qB⟩
 have av:(xk W0 b (o+n*7) (xi e.kind):Prop):=by rw[(Chg.of_below ah.below (S:=λ_=>False)).cell (p:=(xd b (o+n*7))) h.lt (λq=>q)];exact ab
 obtain⟨a,a5⟩:=qE (yA0 e.kind);have aq:Hid (Calls prog 144 #[xi e.kind] W0 λr w'=>r=.returned (xi a)/\w'=W0):=by rw[a5];exact yId e.kind W0
 have ay:Hid (ks.length=a):=by rw[a5];exact hk
 rw[hk,<-a5];rw[<-a5]at ha;clear h hn hT hk ab HA a5;go_enter func92,ntmps92;go_upto_region 3 with fail;rw[<-af];clear af;go_wp2_with fail;refine aq.mono ?_;rintro r w1 ⟨rfl,aj⟩;rw[aj];clear aj av aq;go_wp2;go_loopw[3,4,5] (λrv ov kv wr=>∃(c m g cp:Nat) (pre suf:List (List Nd)),ks=pre++suf/\pre.length=c/\suf.length+c=a/\m=pre.flatten.length/\m<=n/\kv=(xi c)/\rv=.slice (some ⟨b,o,none⟩) m cap/\ov=(xg g suf.length cp)/\KiJ w b o cap pre suf g cp wr) (λ_ _ kv _=>(intOf kv).toNat);case atStart=>exact⟨a,n,_,0,ks,[],by simp,ay.out,by simp,HN.out,Nat.le_refl _,rfl,rfl,rfl,ah.out⟩
 case round=>
  obtain⟨c,m,g,cp,pre,suf,an,al,ar,hm,aA,rfl,rfl,rfl,hJ⟩:=hrel;have HJ:=qH4 hJ an hm al;have aC:=hJ.own.lt;have ak:=hJ.below.size;clear hJ an hm al ah;obtain⟨q,hq⟩:=qE suf.length;have HQ:=qH1 hq;rw[<-hq]at ar⊢;clear hq;by_cases hc0:c=0
  .subst hc0;have HF:=qH2 (length_eq_zero_iff.1 HJ.2.2.2) (by omega:q=a);go_wp2;go_ret;have hp:=HF.1;have hj:=HJ.1.own;have hs:=HJ.2.1;rw[hp]at hj hs;simp at hj hs;refine⟨g,cp,by rw[<-HF.2];rfl,by rw[hs];exact hj,HJ.1.below⟩
  .obtain⟨c',rfl⟩:∃c',c=c'+1:=⟨c-1,qo⟩;have zc:(0:Int)<(c':Int)+1:=qo
   obtain⟨a0,k,a1⟩:∃a0 k,pre=a0++ [k]:=by
    rcases eq_nil_or_concat pre with h|⟨p',k,h⟩
    .have:=HJ.2.2.2;rw[h]at this;simp at this
    .exact⟨p',k,by rw[h,concat_eq_append]⟩
   obtain⟨m',a2⟩:=qE a0.flatten.length;have am:m=m'+k.length:=by rw[HJ.2.2.1,a1,a2];simp
   have a3:=HW.2 k (by rw[HJ.2.1,a1];simp);have aw:=a3.len;have ai:Win wr b o cap pre.flatten:=by have hw:=HW.1;rw[HJ.2.1]at hw;simp only[flatten_append,append_assoc]at hw;have h8:=hw.len;have h9:=hw.sm;simp only[length_append]at h8 h9;exact Win.below ⟨hw.at_.part.1,hw.lt,qo,hw.cap,qo⟩ HJ.1.below
   have HC:Hid (Calls prog 90 #[.slice (some ⟨b,o,none⟩) m cap] wr λr w'=>r=.returned (xi m')/\w'=wr):=by
    have hf:=yJ1 ai;rw[<-HJ.2.2.1]at hf;refine hf.mono ?_;have ad:pre.flatten.drop m'=k:=by rw[a1,a2];simp
    rintro r w2 ⟨a8,(⟨i,rfl,hi,a9⟩|⟨rfl,a9⟩)⟩
    .refine⟨?_,a8⟩;have au:m'<=pre.flatten.length:=by rw[a1,a2];simp
     have:i=m':=by
      rcases Nat.le_total i m' with aa|aa
      .exact yM1 a9 (by rw[ad];exact a3) aa au
      .exact(yM1 (by rw[ad];exact a3) a9 aa hi).symm
     rw[this]
    .exact absurd (by rw[ad];exact a3) (a9 m' (by rw[a1,a2];simp))
   have HP:=qH4 a1 a2 a3 am;have aB:m'<=m:=qo
   have z1:(m':Int)<=(m:Int):=qo
   have z2:(m:Int)<=(cap:Int):=qo
   have z3:(m':Int)<=(cap:Int):=qo
   clear ai a3 a1 a2 am aw;go_wp2_with fail;refine HC.mono ?_;rintro r w2 ⟨rfl,a8⟩;rw[a8];clear a8 HC;obtain⟨W5,a4⟩:=qW (xw wr #[.slice (some ⟨b,o+m'*7,none⟩) (m-m') (cap-m')] 23);have ae:=qN a4
   have az:=qS a4
   have ag:Hid (OwnV W5 w wr 1 [.slice (some ⟨b,o+m'*7,none⟩) (m-m') (cap-m')]/\OwnV W5 w g cp (yJ3 b (o+pre.flatten.length*7) (cap-pre.flatten.length) suf)/\Below w w W5):=by refine⟨?_,HJ.1.own.below ae,HJ.1.below.trans (ae.mono ak)⟩;rw[a4];exact xBj wr ak _
   go_wp2_with (at_builtin;rw[<-a4];refine yHa _ rfl _ _ rfl w wr 1 1 g q cp [.slice (some ⟨b,o+m'*7,none⟩) (m-m') (cap-m')] (yJ3 b (o+pre.flatten.length*7) (cap-pre.flatten.length) suf) rfl rfl rfl ?hm ?hO ?hc ?hy ?hl ?hb ?_);case hm=>rw[yJ2];exact HQ.out
   case hO=>exact ag.1
   case hc=>exact λj v hv=>ag.2.1.cell hv
   case hy=>exact yQe _ _ _ _
   case hl=>rw[yJ2,<-HQ.out];simp;omega
   case hb=>omega
   intro g' ao w' a6 ac ax;rw[<-a4]at ac;have a7:Hid (KiJ w b o cap a0 (k::suf) g' ao w'/\ks=a0++(k::suf)/\a0.length=c'/\(k::suf).length=q+1):=by
    have hP:=HP.out;refine⟨⟨?_,ag.2.2.grown ac qo (λj hj=>by cases hj;omega)⟩,by rw[HJ.2.1,hP.1];simp,?_,by rw[HQ.out];rfl⟩
    .have e1:(List.map List.length pre).sum=m'+k.length:=by rw[<-length_flatten,<-HJ.2.2.1];exact hP.2.2.2
     rw[e1]at a6;have e2:m-m'=k.length:=qo
     rw[e2]at a6;have e3:o+(m'+k.length)*7=o+m'*7+k.length*7:=qo
     have e4:cap-(m'+k.length)=cap-m'-k.length:=qo
     rw[e3,e4]at a6;rw[<-hP.2.1];exact a6
    .have:=HJ.2.2.2;rw[hP.1]at this;simpa using this
   clear a6 ac ax a4 ae;go_wp2;go_roundw;case rel=>exact⟨c',m',g',ao,a0,k::suf,a7.2.1,a7.2.2.1,qw a7.2.2.2,HP.2.1,qo,by go_num,rfl,by rw[a7.2.2.2];go_num,a7.1⟩
   case measure=>simp[intOf]<;>omega
section
variable (G:Nd->Bool)
def xF0 (n:Nat):Prop:=∀(w:World) (b o cap:Nat) (xs:List Nd) (s:yA1),xs.length<=n->Win w b o cap xs->ShT G [s] xs->(xf 42 #[.slice (some ⟨b,o,none⟩) xs.length cap] w (xi s.nest):Prop)
theorem yN0 (op:Int) {os:List yA1} {a:Nat} {o:yA1} (h:os[j]?=some o):yA2 op j a (os.drop j)=yA2 op (j+1) (max a (o.nest+if yCf op j o.kind then 1 else 0)) (os.drop (j+1)):=by exact xF5
structure NeJ (w:World) (b o cap:Nat) (ks:List (List Nd)) (g cp:Nat) (wr:World):Prop where
 own:OwnV wr w g cp (yJ3 b o cap ks)
 below:Below w w wr
theorem NeJ.move {g:Nat} (h:NeJ w b o cap ks g cp wr) (hb:Below wr wr w'):NeJ w b o cap ks g cp w':=⟨h.own.below hb,h.below.trans (hb.mono h.below.size)⟩
variable {n:Nat}
theorem xE6 (H:xF0 G n):xF0 G (n+1):=by
 intro w b o cap xs s hn hW hS;obtain⟨ys,e,os,rfl,ax,ak,hs⟩:=ShT.inv G hS;obtain⟨ks,rfl,hK⟩:=ShT.kids G ak;have ad:=Kids.length G hK;have HF:=qH6 hW hK hs ad (by simp at hn;rw[length_flatten];omega:ks.flatten.length<=n) H;have au:=yI3 e.kind;obtain⟨a3,a5⟩:=qE ks.length;have HA:=qH1 a5;have aB:a3<=3:=qo
 have aC:=hW.cap;have ar:ks.flatten.length+1<=281474976710656:=by have:=hW.sm;rw[length_append,length_singleton]at this;exact this
 have aw:ks.flatten.length+1<=cap:=by have:=hW.len;rw[length_append,length_singleton]at this;exact this
 have HT:=qH1 (yMi hW);have aa:Hid (Calls prog 92 #[.slice (some ⟨b,o,none⟩) (ks.flatten.length+1) cap] w λr w'=>∃g cp,r=.returned (xg g a3 cp)/\OwnV w' w g cp (yJ3 b o cap ks)/\Below w w w'):=by rw[a5];exact yS9 hW qo (Kids.tree G hK)
 have HB:Hid (∀o∈os,o.nest<=281474976710656):=λo' ho=>by obtain⟨k,hk,h3⟩:=yTc G hK ho;have h4:=yIx hk;have h5:=yNz G _ qr h3;omega
 have ao:Hid (yA2 e.kind 0 0 os=s.nest):=by show _=_;rw[hs];rfl
 rw[length_append,length_singleton];obtain⟨m,hm⟩:=qE ks.flatten.length;rw[<-hm]at HT aa aw ar⊢;obtain⟨sn,a2⟩:=qE s.nest;have an:Hid (yA2 e.kind 0 0 os=sn):=by rw[a2];exact ao
 rw[<-a2];clear hW hS ak hK hs ax ad H a5 hm hn a2 ao au;go_enter func42,ntmps42;go_wp2_with fail;refine HT.mono ?_;rintro r w1 ⟨rfl,ac⟩;rw[ac];clear ac HT;go_wp2_with fail;refine aa.mono ?_;rintro r w1 ⟨g,cp,rfl,hO,ai⟩;have al:Hid (NeJ w b o cap ks g cp w1):=⟨hO,ai⟩;clear hO ai aa;go_wp2;go_loopw[5,6] (λmv iv wr=>∃(j a:Nat),iv=(xi j)/\mv=(xi a)/\j<=a3/\a<=999999999999999/\yA2 e.kind j a (os.drop j)=sn/\NeJ w b o cap ks g cp wr) (λ_ iv _=>a3-(intOf iv).toNat);case atStart=>exact⟨0,0,rfl,rfl,zero_le _,qo,an.out,al.out⟩
 case round=>
  obtain⟨j,a,rfl,rfl,hj,ha,hN,hJ⟩:=hrel;have HJ:=qH2 hN hJ;have av:=hJ.own.lt;have az:=hJ.below.size;clear hN hJ al an;by_cases hlt:j<a3
  .have zj:(j:Int)<(a3:Int):=qo
   obtain⟨k,hk⟩:∃k,ks[j]?=some k:=qg (qw HA.out);obtain⟨os1,a4,a7⟩:=Kids.nth G HF.2.1 hk;obtain⟨o',a8,hv,aj⟩:=yQf HF.1 hk;have hc:=HJ.2.own.cell hv;have af:k.length<=n:=qv (yIx (mem_of_getElem? hk)) HF.2.2.2.2.1
   have a6:=aj.below HJ.2.below;have ab:=qH1 (HF.2.2.2.2.2 wr b o' a8 k os1 af a6 a7);obtain⟨ky,ke,ko,rfl,_,_,ae⟩:=ShT.inv G a7;have ah:os1.kind=ke.kind:=by rw[ae];rfl
   have a9:Hid (∀w2,Below wr wr w2->Calls prog 91 #[.slice (some ⟨b,o',none⟩) (ky++ [ke]).length a8] w2 λr w'=>r=.returned (xi os1.kind)/\w'=w2):=λw2 hb2=>by have:=yMi (a6.below hb2);rw[length_append,length_singleton,ah];exact this
   have aA:=HB.out os1 (mem_of_getElem? a4);have ay:Hid (yA2 e.kind (j+1) (max a (os1.nest+if yCf e.kind j os1.kind then 1 else 0)) (os.drop (j+1))=sn):=by show _=_;rw[<-yN0 e.kind a4];exact HJ.1
   obtain⟨kl,ag⟩:=qE ((ky++ [ke]).length);rw[<-ag]at hc ab a9;clear hk a4 a7 hv aj af a6 ae ah ag;go_wp2_with fail;refine ab.mono ?_;rintro r w2 ⟨rfl,hb2⟩;have HJ2:=qH1 (HJ.2.move hb2);have hc2:(xk w2 g j (.slice (some ⟨b,o',none⟩) kl a8):Prop):=by rw[(Chg.of_below hb2 (S:=λ_=>False)).cell (p:=(xd g j)) av.2 (λq=>q)];exact hc
   have am:=qH1 (a9.out w2 hb2);clear hc hb2 a9 ab;have fin:∀(x:Nat),x=os1.nest+(if yCf e.kind j os1.kind then 1 else 0)->x<=281474976710657->Hid (∀y:Nat,y=max a x->yA2 e.kind (j+1) y (os.drop (j+1))=sn):=λx hx _ y hy=>by rw[hy,hx];exact ay.out
   by_cases h16:e.kind=16
   .have a0:yCf e.kind j os1.kind=true:=by unfold yCf;rw[h16];rfl
    rw[a0]at fin;have HFin:=fin (os1.nest+1) rfl qo;have aq:(e.kind==16)=true:=by simpa using h16
    clear fin a0 h16;exact xGu
   .have aq:(e.kind==16)=false:=by simpa using h16
    go_wp2_with fail;refine am.mono ?_;rintro r w3 ⟨rfl,a1⟩;rw[a1];clear a1 am;go_wp2_with fail;refine(yLi e.kind j os1.kind _ h16).mono ?_;rintro r w3 ⟨rfl,a1⟩;rw[a1];clear a1;cases a0:yCf e.kind j os1.kind
    .rw[a0]at fin;have HFin:=fin os1.nest rfl qo;clear fin a0;by_cases hgt:a<os1.nest
     .have zg:(a:Int)<(os1.nest:Int):=qo
      refine zY ?_;exact⟨j+1,os1.nest,by go_num,rfl,qo,qo,HFin.out _ qo,HJ2.out⟩
     .have zg:¬(a:Int)<(os1.nest:Int):=qo
      refine zY ?_;exact⟨j+1,a,by go_num,rfl,qo,qo,HFin.out _ qo,HJ2.out⟩
    .rw[a0]at fin;have HFin:=fin (os1.nest+1) rfl qo;clear fin a0;exact xGu
  .have zj:¬(j:Int)<(a3:Int):=qo
   have hd:a=sn:=by have:=HJ.1;rw[drop_eq_nil_of_le (qv HA.out HF.2.2.2.1)]at this;exact this
   subst hd;go_wp2;go_ret;exact⟨rfl,HJ.2.below⟩
theorem yU3:∀n,xF0 G n
 |0=>λw b o cap xs s hn hW hS=>by
  obtain⟨ys,e,os,rfl,_⟩:=ShT.inv G hS
  simp at hn
 |n+1=>xE6 G (yU3 n)
end
theorem Tryz.cellsNd:prog.cellsOf 262=7:=qk
theorem xHy {α:Type} {cs:List α} (h:cs.length=7):∃c0 c1 c2 c3 c4 c5 c6,cs= [c0,c1,c2,c3,c4,c5,c6]:=by
 match cs,h with
 | [c0,c1,c2,c3,c4,c5,c6],_=>exact⟨c0,c1,c2,c3,c4,c5,c6,rfl⟩
theorem yWh {H:Type} {enc:TypeId×Value->H} {spare:Nat->Bool} {held:Bool} {fuel:Nat} {cs:List Value} {x:DataW H×List MemPlace}
  (h:DataW.trod enc prog w base spare held fuel 262 cs=some x):∃e:Nd,e.ok/\cs=e.seven:=by
 obtain⟨xs,n,_,_,hl,a7,hf⟩:=DataW.trod_struct underlying262 h;rw[Tryz.cellsNd]at hl;obtain⟨c0,c1,c2,c3,c4,c5,c6,rfl⟩:=xHy hl;obtain⟨x0,x1,x2,x3,x4,x5,x6,rfl⟩:=xHy (cs:=xs) a7;have h0:=hf 0 _ rfl;have h1:=hf 1 _ rfl;have h2:=hf 2 _ rfl;have h3:=hf 3 _ rfl;have h4:=hf 4 _ rfl;have h5:=hf 5 _ rfl;have h6:=hf 6 _ rfl;simp[Tryz.cellsStr,Tryz.cellsU64,Tryz.cellsI64,Tryz.cellsBool]at h0 h1 h2 h3 h4 h5 h6;obtain⟨a0,e0,_,b0⟩:=DataW.trod_int underlying2 h0;obtain⟨a1,e1,_,b1⟩:=DataW.trod_string underlying9 h1;obtain⟨a2,e2,_⟩:=DataW.trod_bool underlying4 h2;obtain⟨a3,e3,_,b3⟩:=DataW.trod_string underlying9 h3;obtain⟨a4,e4,_,b4⟩:=DataW.trod_int underlying68 h4;obtain⟨a5,e5,_,b5⟩:=DataW.trod_int underlying68 h5;obtain⟨a6,e6,_,b6⟩:=DataW.trod_int underlying2 h6;simp only[List.cons.injEq,and_true]at e0 e1 e2 e3 e4 e5 e6;exact⟨⟨a0,a1,a2,a3,a4,a5,a6⟩,⟨b1,b3,b0,b4,b5,b6⟩,by rw[e0,e1,e2,e3,e4,e5,e6]⟩
def xAi (w:World) (v:Value) (es:List Nd):Prop:=
 (∃a cap,v=.slice a 0 cap/\es= [])∨
 ∃b off cap,v=.slice (some ⟨b,off,none⟩) es.length cap/\yH1 w b off es/\b<w.heap.size/\es.length<=cap/\cap<=maxLen
variable {B:Nat}
theorem xAi.below {v:Value} {es:List Nd} (h:xAi w v es) (hb:Below B w w') (hB:w.heap.size<=B):xAi w' v es:=by exact xAq
variable {n:Nat}
theorem xAi.own {g:Nat} {es:List Nd} (h:yC7 w base g cap es) (hn:n=es.length):xAi w (xg g n cap) es:=by subst hn;exact .inr ⟨g,0,cap,rfl,h.at,h.lt.2,h.caps.1,h.caps.2⟩
open Classical in
noncomputable def goodB (e:Nd):Bool:=decide (yCb e)
theorem yKc e:goodB e=true↔yCb e:=by unfold goodB;simp
def yFk (xs:List Nd):Prop:=xs.length<=200/\∃s,ShT goodB [s] xs/\s.valid=true/\s.nest<=20
theorem yF (h:yFk xs):∀e∈xs,yCb e:=by obtain⟨_,s,hs,hv,_⟩:=h;have:=ShT.valid goodB hs;simp[hv]at this;exact λe he=>(yKc e).1 (this e he)
theorem xD {s t:yA1} (h:ShT goodB [s] xs) (k:ShT goodB [t] xs):s=t:=by have a:=ShT.fold goodB h [];have b:=ShT.fold goodB k [];rw[a]at b;simpa using b
def yOz (xs:List Nd) (w:World) (r:Ending) (w':World):Prop:=∃b,r=.returned (.bool b)/\(b=true↔yFk xs)/\Below w w w'
structure WdN (w:World) (g o cp:Nat) (xs:List Nd):Prop where
 nds:yH1 w g o xs
 lt:g<w.heap.size
 caps:xs.length<=cp/\cp<=maxLen
theorem WdN.at {g:Nat} (h:WdN w g o cp xs):yH1 w g o xs:=h.nds
theorem WdN.below {g:Nat} (h:WdN w g o cp xs) (hb:Below B w w') (hg:g<B):WdN w' g o cp xs:=
 ⟨h.at.below hb hg,by have:=hb.size;have:=h.lt;omega,h.caps⟩
theorem yC7.wd {g:Nat} (h:yC7 w base g cp xs):WdN w g 0 cp xs:=⟨h.at,h.lt.2,h.caps⟩
theorem yLc {g:Nat} (h:WdN w g o cp xs) (hok:∀e∈xs,e.ok):Calls prog 8 #[.agg #[.slice (some ⟨g,o,none⟩) xs.length cp]] w (yOz xs w):=by
 have HO:=qH2 h hok;have hg:=h.lt;have a1:=h.caps;obtain⟨n,hn⟩:=qE xs.length;have HN:=qH1 hn;rw[<-hn]at a1⊢;unfold maxLen at a1;clear h hok hn;obtain⟨W0,a3⟩:=qE (xw w #[.slice (some ⟨g,o,none⟩) n cp] 25:World);have HW0:Hid (yA W0 w 25 1 w [.slice (some ⟨g,o,none⟩) n cp]/\Below w w W0):=by rw[a3];exact⟨yAa w _ qr rfl,qB⟩
 have c0:=HW0.1.cell (j:=0) rfl;have s0:=HW0.2.size;go_enter func8,ntmps8;go_upto_region 1 with fail;rw[<-a3];clear a3;by_cases hbig:200<n
 .exact xF7
 have zb:¬(200:Int)<(n:Int):=qo
 go_wp2_with fail;clear c0;go_loopw[3] (λiv wr=>∃(j:Nat),iv=(xi j)/\j<=n/\(∀e∈xs.take j,yCb e)/\yA wr w 25 1 w [.slice (some ⟨g,o,none⟩) n cp]/\Below w w wr) (λiv _=>n-(intOf iv).toNat);case atStart=>exact⟨0,rfl,zero_le _,by simp,HW0.out⟩
 case round=>
  obtain⟨j,rfl,hj,hG,hB,hb⟩:=hrel;have HJ:=qH3 hG hB hb;have c0:=hB.cell (j:=0) rfl;have sr:=hb.size;clear hG hB hb HW0;by_cases hlt:j<n
  .have zj:(j:Int)<(n:Int):=qo
   obtain⟨e,he⟩:∃e,xs[j]?=some e:=qg (by have:=HN.out;omega);obtain⟨d0,d1,d2,d3,d4,d5,d6⟩:=(HO.1.at.below HJ.2.2 hg) j e he;have ok:=HO.2 e (mem_of_getElem? he);have HE:=qH4 ok.s ok.t (mem_of_getElem? he) (by rw[take_add_one,he];rfl:xs.take (j+1)=xs.take j++ [e]);clear ok he;go_wp2_with fail;refine(yZo e wr HE.1 HE.2.1).mono ?_;rintro r w2 ⟨b,rfl,hb,hb2⟩;have HB:=qH1 hb;have a4:=qH2 (HJ.2.1.below hb2) (HJ.2.2.trans (hb2.mono sr));clear hb hb2 c0 d0 d1 d2 d3 d4 d5 d6;cases b
   .have HF:Hid (¬yFk xs):=λq=>by have:=HB.2 (yF q e HE.2.2.1);cases this
    exact zF a4.2
   .go_wp2_with fail;go_roundw;case rel=>
     refine⟨j+1,by go_num,qo,?_,a4.1,a4.2⟩;intro e' a5;rw[HE.2.2.2]at a5;rcases List.mem_append.1 a5 with h|h
     .exact HJ.1 e' h
     .simp at h;subst h;exact HB.1 (by first|rfl|trivial)
    case measure=>simp[intOf];omega
  .have zj:¬(j:Int)<(n:Int):=qo
   have HA:Hid (∀e∈xs,yCb e):=by have h1:=HJ.1;rw[take_of_length_le (by have:=HN.out;omega)]at h1;exact h1
   have a2:Win wr g o cp xs:=⟨HO.1.at.below HJ.2.2 hg,qo,by rw[<-HN.out];exact a1.1,qo,by have:=HN.out;omega⟩;have HT:Hid (Calls prog 41 #[.slice (some ⟨g,o,none⟩) n cp] wr λr w'=>w'=wr/\((r=.returned true/\IsT 1 xs)∨(r=.returned false/\¬IsT 1 xs))):=by rw[HN.out];exact yS6 a2
   have a8:Hid (∀s,ShT goodB [s] xs->(xf 42 #[.slice (some ⟨g,o,none⟩) n cp] wr (xi s.nest):Prop)):=λs hs=>by rw[HN.out];exact yU3 goodB xs.length wr g o cp xs s qr a2 hs
   clear a2;go_wp2_with fail;refine HT.mono ?_;rintro r w2 ⟨a0,(⟨rfl,hT⟩|⟨rfl,hT⟩)⟩
   .rw[a0];clear a0;obtain⟨ss,hl,hs⟩:=IsT.shapes goodB hT;obtain⟨s,rfl⟩:∃s,ss= [s]:=by
     match ss,hl with
     | [s],_=>exact⟨s,rfl⟩
    have a7:=qH1 hs;have HV:Hid (s.valid=true):=by show s.valid=true;have h1:=ShT.valid goodB hs;have h2:=all_eq_true.2 (λe he=>(yKc e).2 (HA.out e he));rw[h2]at h1;simpa using h1
    have HF:Hid (yFk xs↔s.nest<=20):=by
     show yFk xs↔_;constructor
     .rintro⟨_,t,ht,_,hn⟩;rw[xD hs ht];exact hn
     .intro hn;exact⟨by have:=HN.out;omega,s,hs,HV.out,hn⟩
    clear hT hl hs;go_wp2_with fail;refine(a8.out s a7.out).mono ?_;rintro r w3 ⟨rfl,a6⟩;have a9:=qH1 (HJ.2.2.trans (a6.mono sr));clear a6 c0;go_wp2_with fail;go_ret;exact⟨_,rfl,by rw[HF.out];simp<;>omega,a9.out⟩
   .rw[a0];clear a0;have HF:Hid (¬yFk xs):=λq=>by obtain⟨_,s,hs,_⟩:=q;exact hT hs.tree
    clear hT;exact zF HJ.2.2
theorem yJc {g:Nat} (h:yC7 w base g cp xs) (hok:∀e∈xs,e.ok) (hc:cp<=281474976710656):Calls prog 8 #[.agg #[xg g xs.length cp]] w (yOz xs w):=yLc h.wd hok
section
section
variable {T:Type} (V:Nd->List T->T)
inductive TrV:List T->List Nd->Prop
 |nil:TrV [] []
 |snoc {ss os:List T} {xs:List Nd} (n:Nd) (ho:os.length=yA0 n.kind) (h:TrV (ss++os) xs):TrV (ss++ [V n os]) (xs++ [n])
def xEf (st:List T) (n:Nd):Option (List T):=
 if st.length<yA0 n.kind then none else some (st.take (st.length-yA0 n.kind)++ [V n (st.drop (st.length-yA0 n.kind))])
def yQr (st:List T):List Nd->Option (List T)
 | []=>some st
 |n::ns=>(xEf V st n).bind λs=>yQr s ns
theorem yQq (st:List T) xs ys:yQr V st (xs++ys)=(yQr V st xs).bind (λs=>yQr V s ys):=by
 induction xs generalizing st with
 |nil=>rfl
 |cons x xs ih=>
  simp only[cons_append,yQr];cases xEf V st x with
  |none=>rfl
  |some s=>exact ih s
theorem TrV.tree {ss:List T} (h:TrV V ss xs):IsT ss.length xs:=by exact xF2
theorem TrV.fold {ss:List T} (h:TrV V ss xs):∀st,yQr V st xs=some (st++ss):=by
 induction h with
 |nil=>intro st;simp[yQr]
 | @snoc ss os xs n ho h ih=>
   intro st;rw[yQq,ih];simp only[Option.bind_some,yQr,xEf];rw[if_neg (by simp;omega)];have hl:(st++(ss++os)).length-yA0 n.kind=(st++ss).length:=by simp;omega
   rw[hl,<-append_assoc,take_left,drop_left,append_assoc];simp
theorem TrV.one {ss ts:List T} (h:TrV V ss xs) (k:TrV V ts xs):ss=ts:=by have a:=h.fold V [];have b:=k.fold V [];rw[a]at b;simpa using b
theorem TrV.split {ss:List T} (h:TrV V ss xs):∀{a b:List T},ss=a++b->∃ys zs,xs=ys++zs/\TrV V a ys/\TrV V b zs:=by
 induction h with
 |nil=>intro a b e;obtain⟨rfl,rfl⟩:a= []/\b= []:=by simpa using e.symm
       exact⟨[],[],rfl,.nil,.nil⟩
 | @snoc ss os xs n ho h ih=>
   intro a b e;rcases eq_nil_or_concat b with rfl|⟨b',z,rfl⟩
   .simp at e;subst e;exact⟨xs++ [n],[],by simp,.snoc n ho h,.nil⟩
   .rw[concat_eq_append,<-append_assoc]at e;have e2:=append_inj' e rfl;obtain⟨e3,e4⟩:=e2;simp at e4;subst e3 e4;obtain⟨ys,zs,rfl,h1,h2⟩:=ih (a:=a) (b:=b'++os) (by simp);refine⟨ys,zs++ [n],by simp,h1,?_⟩;rw[concat_eq_append];exact .snoc n ho h2
theorem TrV.inv {s:T} (h:TrV V [s] xs):∃ys n os,xs=ys++ [n]/\os.length=yA0 n.kind/\TrV V os ys/\s=V n os:=by exact xGh
inductive KidV:List T->List (List Nd)->Prop
 |nil:KidV [] []
 |cons {o:T} {os:List T} {k:List Nd} {ks:List (List Nd)} (h:TrV V [o] k) (t:KidV os ks):KidV (o::os) (k::ks)
theorem TrV.kids:∀{os:List T} {ys:List Nd},TrV V os ys->∃ks,ys=ks.flatten/\KidV V os ks
 | [],ys,h=>by
   have:=(TrV.tree V h).zero
   subst this
   exact⟨[],rfl,.nil⟩
 |o::os,ys,h=>by
  obtain⟨a,b,rfl,h1,h2⟩:=TrV.split V h (a:= [o]) (b:=os) rfl
  obtain⟨ks,rfl,hk⟩:=TrV.kids h2
  exact⟨a::ks,rfl,.cons h1 hk⟩
theorem KidV.length {os:List T} (h:KidV V os ks):os.length=ks.length:=by
 induction h with
 |nil=>rfl
 |cons _ _ ih=>simp[ih]
theorem KidV.tree {os:List T} (h:KidV V os ks):∀k∈ks,IsT 1 k:=by exact xC2
theorem KidV.nth {os:List T} (h:KidV V os ks):∀{j:Nat} {k:List Nd},ks[j]?=some k->∃o,os[j]?=some o/\TrV V [o] k:=by
 induction h with
 |nil=>intro j k hk;simp at hk
 |cons h1 _ ih=>
  intro j k hk;cases j with
  |zero=>simp at hk;subst hk;exact⟨_,rfl,h1⟩
  |succ j=>simp at hk;simpa using ih hk
end
end
section
section
variable {α:Type} {f:α->List Value} {sz:Nat}
theorem yCk (hf:∀x,(f x).length=sz) (es:List α):(es.flatMap f).length=es.length*sz:=by
 induction es with
 |nil=>simp
 |cons e es ih=>rw[flatMap_cons,length_append,ih,hf,length_cons,Nat.add_mul];omega
theorem yFb (hf:∀x,(f x).length=sz):∀(es:List α) (k:Nat) (e:α),es[k]?=some e->∀j,j<sz->(es.flatMap f)[k*sz+j]?=(f e)[j]?
 | [],k,e,h,j,hj=>by simp at h
 |a::es,0,e,h,j,hj=>by
  simp at h;subst h
  rw[flatMap_cons,getElem?_append_left (by rw[hf];omega)]
  simp
 |a::es,k+1,e,h,j,hj=>by
  simp at h
  rw[flatMap_cons,getElem?_append_right (by rw[hf,Nat.add_mul];omega),hf]
  rw[show(k+1)*sz+j-sz=k*sz+j by rw[Nat.add_mul];omega]
  exact yFb hf es k e h j hj
theorem yMk (hf:∀x,(f x).length=sz):∀(es:List α) (k:Nat),k<=es.length->(es.take k).flatMap f=(es.flatMap f).take (k*sz)
 |es,0,_=>by simp
 | [],k+1,h=>by simp at h
 |a::es,k+1,h=>by rw[take_succ_cons,flatMap_cons,flatMap_cons,yMk hf es k (by simpa using h),take_append,hf,take_of_length_le (l:=f a) (by rw[hf,Nat.add_mul];omega),show(k+1)*sz-sz=k*sz by rw[Nat.add_mul];omega]
def OwnG (f:α->List Value) (sz ty:Nat) (w:World) (base g cap:Nat) (es:List α):Prop:=w.ownsRow base ty sz (xg g es.length cap) es.length (es.flatMap f)
variable {ty:Nat}
theorem OwnG.cell (hf:∀x,(f x).length=sz) {g:Nat} {es:List α} (h:OwnG f sz ty w base g cap es) {e:α} (he:es[i]?=some e) (j:Nat) (hj:j<sz):w.cell? (xd g (i*sz+j))=(f e)[j]?:=by
 have hi:=qf he;have h1:i*sz+j<es.length*sz:=by have:(i+1)*sz<=es.length*sz:=mul_le_mul_right sz hi;rw[Nat.add_mul]at this;omega
 have:=(World.ownsRow.cellAt h (i*sz+j) h1).trans (yFb hf es i e he j hj);simpa using this
theorem OwnG.lt {g:Nat} {es:List α} (h:OwnG f sz ty w base g cap es):base<=g/\g<w.heap.size:=World.ownsRow.lt h g rfl
theorem OwnG.chg {S:Nat->Prop} {g:Nat} {es:List α} (h:OwnG f sz ty w base g cap es) (hc:Chg S w w') (hn:¬S g):OwnG f sz ty w' base g cap es:=yAh h hc (λk q=>by simp[Value.ownBlock]at q;subst q;exact hn)
theorem OwnG.below {g:Nat} {es:List α} (h:OwnG f sz ty w base g cap es) (hb:Below w w w'):OwnG f sz ty w' base g cap es:=h.chg (Chg.of_below hb) (S:=λ_=>False) (λq=>q)
theorem OwnG.mono {base' g:Nat} {es:List α} (h:OwnG f sz ty w base g cap es) (hb:base'<=base):OwnG f sz ty w base' g cap es:=by exact yO0
theorem OwnG.caps {g:Nat} {es:List α} (h:OwnG f sz ty w base g cap es):es.length<=cap/\cap<=maxLen:=by exact yMx
theorem OwnG.take (hf:∀x,(f x).length=sz) {g:Nat} {es:List α} (h:OwnG f sz ty w base g cap es) (hk:k<=es.length):OwnG f sz ty w base g cap (es.take k):=by
 have hl:(es.take k).length=k:=by rw[length_take];omega
 rcases h.2 with⟨h0,_⟩|⟨g',a0,cur,hv,h1,h2,h3,h4,h5,h6⟩
 .cases h0
 .simp only[Value.slice.injEq,Option.some.injEq,Addr.mk.injEq,and_true,true_and]at hv;obtain⟨rfl,rfl⟩:=hv;refine⟨yCk hf _,.inr ⟨g,cap,cur,rfl,h1,h2,qo,h4,h5,?_⟩⟩;rw[hl,yMk hf es k hk,<-h6,take_take];congr 1;have:=mul_le_mul_right sz hk;omega
theorem yU1 (w:World) (hb:base<=w.heap.size):OwnG f sz ty (xw w #[] ty) base w 0 []:=
 World.ownsRow_made w #[] 0 hb (zero_le _) (by simp)
end
section
variable {α:Type} {f:α->List Value} {sz ty:Nat}
theorem yDb {ops:Array Oper} {rest:List Oper} {o:Oper} {a:Act} {Q:Exit->Act->World->Prop} (hf:∀x,(f x).length=sz) (w:World) (hgd:o.guard=none) s x (sty:Nat)
  (ho:o.op=.call {callee:=.builtin .append,args:=#[s,x],argTypes:=#[sty,sty]}) (hst:prog.underlying sty=some (.slice ty)) {z:Value} {bytes:Nat} (hin:(prog.info? ty).map (λi=>(i.zero,i.size,i.bytes))=some (some z,sz,bytes)) (hz:z.cells.size=sz) (hsz:0<sz) (hby:bytes<=1000)
  (h1:∀x,∀u∈f x,u.oneCell'=true)
  (base g cp n b cx:Nat) (fs:List α) (e:α) (hs:a.eval s=(xg g n cp)) (hx:a.eval x=(xg b 1 cx)) (hn:n=fs.length) (hO:OwnG f sz ty w base g cp fs)
  (hc:∀j u,(f e)[j]?=some u->(xk w b j u:Prop)) (hlen:fs.length<=1000000) (hbase:base<=w.heap.size)
  (h:∀g' cp' w',OwnG f sz ty w' base g' cp' (fs++ [e])->w.grownBy w' (some g)->(g'=g∨g'=w.heap.size)->wpList prog ops Q rest (a.put o.dst (xg g' (n+1) cp')) w'):wpList prog ops Q (o::rest) a w:=by
 subst hn;obtain⟨i,hi,a3,a2,a1⟩:=info_parts hin;refine wpList_append_own_at w hgd s x sty ho base ty i _ sz bytes hst hi a3 a2 a1 hz hsz (xg g fs.length cp) fs.length (fs.flatMap f) hs hO (xd b 0) 1 cx (f e) hx (by rw[hf];omega) (λj u hu=>by rw[Addr.add_mid,Nat.zero_add];exact hc j u hu) (h1 e) ?_ ?_ hbase ?_
 .unfold maxLen;omega
 .have:=Nat.mul_le_mul (show fs.length+1<=1000001 by omega) hby;omega
 .intro v' w' hO' a5 a4 a0;rcases hO'.2 with⟨h0,_⟩|⟨g',a6,cur,hv,_,_,hn,a7,_,_⟩
  .have:=(a4.1 h0).1;cases this
  .subst hv;refine h g' a6 w' ?_ a5 ?_
   .exact xAm
   .simp[Value.ownBlock]at a0;exact a0
theorem yBm (w:World) (cs:List Value) (ty:Nat):∀j u,cs[j]?=some u->(xk (w.alloc (Obj.cells cs.toArray ty)) w j u:Prop):=by intro j u hu;rw[World.cell?_alloc_new];simpa using hu
def setCs (w:World) (g:Nat):Nat->List Value->World
 |_,[]=>w
 |o,v::vs=>setCs (xt w g o v) g (o+1) vs
def setL:List Value->Nat->List Value->List Value
 |L,_,[]=>L
 |L,o,v::vs=>setL (L.set o v) (o+1) vs
theorem yIv:∀(vs:List Value) (L:List Value) (o j:Nat),(setL L o vs)[j]?=if o<=j/\j<o+vs.length/\j<L.length then vs[j-o]? else L[j]?
 | [],L,o,j=>by rw[setL,if_neg (by simp;omega)]
 |v::vs,L,o,j=>by
  rw[setL,yIv vs,length_set,length_cons]
  by_cases h1:j=o
  .subst h1
   rw[if_neg (by omega)]
   by_cases h2:j<L.length
   .rw[if_pos ⟨Nat.le_refl _,by omega,h2⟩,Nat.sub_self];simp[h2]
   .rw[if_neg (by omega)];simp[h2]
  .by_cases h2:o+1<=j/\j<o+1+vs.length/\j<L.length
   .rw[if_pos h2,if_pos (by omega),show j-o=(j-(o+1))+1 by omega,getElem?_cons_succ]
   .rw[if_neg h2,if_neg qo,getElem?_set_ne (λq=>h1 q.symm)]
theorem yAl {S:Nat->Prop} (g:Nat) (hs:S g):∀(vs:List Value) (o:Nat) (w:World),Chg S w (setCs w g o vs)
 | [],o,w=>Chg.of_below (Below.refl _ _)
 |v::vs,o,w=>(Chg.of_set w g o v hs).trans (yAl g hs vs (o+1) _)
theorem yBu {g:Nat} {v:Value} (hv:v.ownBlock=some g) (hv0:∃c,v=(xg g n c)):∀(vs:List Value) (o:Nat) (w:World) (L:List Value),w.ownsRow base ty sz v n L->(setCs w g o vs).ownsRow base ty sz v n (setL L o vs)
 | [],o,w,L,h=>h
 |x::vs,o,w,L,h=>by
  obtain⟨c,rfl⟩:=hv0
  exact yBu hv ⟨c,rfl⟩ vs (o+1) _ _ (World.ownsRow.stored h o x).1
theorem OwnG.setAll (hf:∀x,(f x).length=sz) {g:Nat} {es:List α} (h:OwnG f sz ty w base g cap es) {e:α} (hi:i<es.length):OwnG f sz ty (setCs w g (i*sz) (f e)) base g cap (es.set i e):=by
 have h1:=yBu (sz:=sz) (ty:=ty) (base:=base) (g:=g) (n:=es.length) (v:=(xg g es.length cap)) rfl ⟨cap,rfl⟩ (f e) (i*sz) w (es.flatMap f) h;have h2:setL (es.flatMap f) (i*sz) (f e)=(es.set i e).flatMap f:=by
  apply ext_getElem?;intro j;rw[yIv,hf,yCk hf];by_cases hs:sz=0
  .subst hs;rw[if_neg qo,getElem?_eq_none (by rw[yCk hf];omega),getElem?_eq_none (by rw[yCk hf];omega)]
  have hd:=div_add_mod j sz;have hm:=mod_lt j (Nat.pos_of_ne_zero hs);have hj:j=j/sz*sz+j%sz:=by rw[Nat.mul_comm];omega
  by_cases hjl:j/sz<es.length
  .obtain⟨x,hx⟩:∃x,(es.set i e)[j/sz]?=some x:=qg (by rw[length_set];exact hjl);obtain⟨y,hy⟩:∃y,es[j/sz]?=some y:=qg hjl;have g1:=yFb hf (es.set i e) (j/sz) x hx (j%sz) hm;have g2:=yFb hf es (j/sz) y hy (j%sz) hm;rw[<-hj]at g1 g2;rw[g1];by_cases hji:j/sz=i
   .have a1:x=e:=by rw[hji]at hx;rw[getElem?_set_self hi]at hx;exact(Option.some.inj hx).symm
    have a3:i*sz<=j:=by rw[<-hji];omega
    have a2:j<es.length*sz:=by have:=mul_le_mul_right sz (show j/sz+1<=es.length from hjl);rw[Nat.add_mul]at this;omega
    rw[if_pos ⟨a3,by rw[<-hji];omega,a2⟩,a1];congr 1;rw[<-hji];omega
   .have a0:x=y:=by rw[getElem?_set_ne (λq=>hji q.symm)]at hx;rw[hx]at hy;exact Option.some.inj hy
    rw[if_neg (λq=>hji ?_),g2,a0];have h3:j/sz≥i:=(le_div_iff_mul_le (Nat.pos_of_ne_zero hs)).2 q.1;have h4:j/sz<i+1:=(div_lt_iff_lt_mul (Nat.pos_of_ne_zero hs)).2 (by rw[Nat.add_mul];omega);omega
  .have h3:es.length*sz<=j:=qw (mul_le_mul_right sz (show es.length<=j/sz by omega))
   rw[if_neg (by omega),getElem?_eq_none (by rw[yCk hf];exact h3),getElem?_eq_none (by rw[yCk hf,length_set];exact h3)]
 rw[h2]at h1;unfold OwnG;rw[length_set];exact h1
end
end
structure Ix where
 op:Int
 a:Int
 b:Int
 free:Bool
 leaf:Nd
structure Ix.ok (e:Ix):Prop where
 op:(Lit.int .i64 e.op).wf=true
 a:(Lit.int .i64 e.a).wf=true
 b:(Lit.int .i64 e.b).wf=true
 leaf:e.leaf.ok
abbrev Ix.ten (e:Ix):List Value:= [.int .i64 e.op,.int .i64 e.a,.int .i64 e.b,.bool e.free,.int .i64 e.leaf.kind,.string e.leaf.s,.bool e.leaf.hi,.string e.leaf.t,.int .u64 e.leaf.lo,.int .u64 e.leaf.up,.int .i64 e.leaf.n]
abbrev Ix.v (e:Ix):Value:=.agg #[xi e.op,xi e.a,xi e.b,e.free,xi e.leaf.kind,e.leaf.s,e.leaf.hi,e.leaf.t,xu e.leaf.lo,xu e.leaf.up,xi e.leaf.n]
def yXn:Ix:=⟨0,0,0,false,xIn⟩
def cellsX (es:List Ix):List Value:=es.flatMap Ix.ten
theorem yDf (e:Ix) es:cellsX (e::es)=e.ten++cellsX es:=by simp[cellsX]
theorem yN8 (es:List Ix):(cellsX es).length=es.length*11:=by
 induction es with
 |nil=>rfl
 |cons e es ih=>rw[yDf,length_append,ih];simp;omega
theorem yMu es:∀(k:Nat) (e:Ix),es[k]?=some e->∀j,j<11->(cellsX es)[k*11+j]?=e.ten[j]?:=by
 induction es with
 |nil=>intro k e h;simp at h
 |cons f es ih=>
  intro k e h j hj;rw[yDf];cases k with
  |zero=>
   simp at h;subst h;rw[getElem?_append_left (by show 0*11+j<11;omega)];simp
  |succ k=>
   simp at h;rw[getElem?_append_right (by show 11<=(k+1)*11+j;omega)];have:(k+1)*11+j-f.ten.length=k*11+j:=by show(k+1)*11+j-11=_;omega
   rw[this];exact ih k e h j hj
theorem yW3 (es:List Ix):∀(k:Nat) (e e':Ix) (u:Value) (j:Nat),es[k]?=some e->j<11->e'.ten=e.ten.set j u->(cellsX es).set (k*11+j) u=cellsX (es.set k e'):=by
 induction es with
 |nil=>intro k e e' u j h;simp at h
 |cons f es ih=>
  intro k e e' u j h hj hc;rw[yDf];cases k with
  |zero=>
   simp at h;subst h;rw[set_append_left _ _ (by show 0*11+j<11;omega),set_cons_zero,yDf,hc];simp
  |succ k=>
   simp at h;rw[set_append_right _ _ (by show 11<=(k+1)*11+j;omega),set_cons_succ,yDf];have:(k+1)*11+j-f.ten.length=k*11+j:=by show(k+1)*11+j-11=_;omega
   rw[this,ih k e e' u j h hj hc]
def yB5 (w:World) (b off:Nat) (es:List Ix):Prop:=
 ∀i e,es[i]?=some e->xk w b (off+i*11) (xi e.op)/\xk w b (off+i*11+1) (xi e.a)/\xk w b (off+i*11+2) (xi e.b)/\xk w b (off+i*11+3) e.free/\xk w b (off+i*11+4) (xi e.leaf.kind)/\xk w b (off+i*11+5) e.leaf.s/\xk w b (off+i*11+6) e.leaf.hi/\xk w b (off+i*11+7) e.leaf.t/\xk w b (off+i*11+8) (xu e.leaf.lo)/\xk w b (off+i*11+9) (xu e.leaf.up)/\xk w b (off+i*11+10) (xi e.leaf.n)
variable {es:List Ix}
theorem yB5.below {off:Nat} (h:yB5 w b off es) (hb:Below B w w') (hlt:b<B):yB5 w' b off es:=by
 intro i e he;have:=h i e he;refine⟨?_,?_,?_,?_,?_,?_,?_,?_,?_,?_,?_⟩;all_goals rw[hb.cell (by exact hlt)]
 .exact this.1
 .exact this.2.1
 .exact this.2.2.1
 .exact this.2.2.2.1
 .exact this.2.2.2.2.1
 .exact this.2.2.2.2.2.1
 .exact this.2.2.2.2.2.2.1
 .exact this.2.2.2.2.2.2.2.1
 .exact this.2.2.2.2.2.2.2.2.1
 .exact this.2.2.2.2.2.2.2.2.2.1
 .exact this.2.2.2.2.2.2.2.2.2.2
theorem yB5.chg {S:Nat->Prop} {off:Nat} (h:yB5 w b off es) (hb:Chg S w w') (hlt:b<w.heap.size) (hn:¬S b):yB5 w' b off es:=by
 intro i e he;have:=h i e he;refine⟨?_,?_,?_,?_,?_,?_,?_,?_,?_,?_,?_⟩;all_goals rw[hb.cell (by exact hlt) (by exact hn)]
 .exact this.1
 .exact this.2.1
 .exact this.2.2.1
 .exact this.2.2.2.1
 .exact this.2.2.2.2.1
 .exact this.2.2.2.2.2.1
 .exact this.2.2.2.2.2.2.1
 .exact this.2.2.2.2.2.2.2.1
 .exact this.2.2.2.2.2.2.2.2.1
 .exact this.2.2.2.2.2.2.2.2.2.1
 .exact this.2.2.2.2.2.2.2.2.2.2
def OwnX (w:World) (base g cap:Nat) (es:List Ix):Prop:=w.ownsRow base 153 11 (xg g es.length cap) es.length (cellsX es)
theorem OwnX.at {g:Nat} (h:OwnX w base g cap es):yB5 w g 0 es:=by
 intro i e he;have hi:=qf he;have c:=λj (hj:j<11)=>(World.ownsRow.cellAt h (i*11+j) qo).trans (yMu es i e he j hj);refine⟨?_,?_,?_,?_,?_,?_,?_,?_,?_,?_,?_⟩
 .simpa using c 0 qo
 .simpa using c 1 qo
 .simpa using c 2 qo
 .simpa using c 3 qo
 .simpa using c 4 qo
 .simpa using c 5 qo
 .simpa using c 6 qo
 .simpa using c 7 qo
 .simpa using c 8 qo
 .simpa using c 9 qo
 .simpa using c 10 qo
theorem OwnX.lt {g:Nat} (h:OwnX w base g cap es):base<=g/\g<w.heap.size:=World.ownsRow.lt h g rfl
theorem OwnX.below {g:Nat} (h:OwnX w base g cap es) (hb:Below B w w') (hg:g<B):OwnX w' base g cap es:=by exact xAr
theorem OwnX.caps {g:Nat} {R:List Ix} (h:OwnX w base g cp R):R.length<=cp/\cp<=maxLen:=by exact yMx
theorem OwnX.set {g:Nat} (h:OwnX w base g cap es) (k j:Nat) (e e':Ix) (u:Value) (hk:es[k]?=some e) (hj:j<11) (hc:e'.ten=e.ten.set j u):
  OwnX (xt w g (k*11+j) u) base g cap (es.set k e'):=by
 have:=(World.ownsRow.stored h (k*11+j) u).1;rw[yW3 es k e e' u j hk hj hc]at this;unfold OwnX;rw[length_set];exact this
theorem Tryz.infoX:(prog.info? 153).map (λi=>(i.zero,i.size,i.bytes))=some (some (.agg #[xi 0,xi 0,xi 0,false,xi 0,xe,false,xe,xu 0,xu 0,xi 0]),11,104):=qk
theorem OwnX.put {g:Nat} (h:OwnX w base g cap es) (k:Nat) (f e:Ix) (hk:es[k]?=some f):
  OwnX (xt ((((((((((w.setCell (xd g (k*11)) (xi e.op)).setCell (xd g (k*11+1)) (xi e.a)).setCell (xd g (k*11+2)) (xi e.b)).setCell (xd g (k*11+3)) e.free).setCell (xd g (k*11+4)) (xi e.leaf.kind)).setCell (xd g (k*11+5)) e.leaf.s).setCell (xd g (k*11+6)) e.leaf.hi).setCell (xd g (k*11+7)) e.leaf.t).setCell (xd g (k*11+8)) (xu e.leaf.lo)).setCell (xd g (k*11+9)) (xu e.leaf.up)) g (k*11+10) (xi e.leaf.n)) base g cap (es.set k e):=by
 have a0:=qf hk;have g1:=h.set k 0 f ({f with op:=e.op}) (xi e.op) hk qo rfl;have g2:=g1.set k 1 ({f with op:=e.op}) ({f with op:=e.op,a:=e.a}) (xi e.a) (by simp[a0]) qo rfl;have g3:=g2.set k 2 ({f with op:=e.op,a:=e.a}) ({f with op:=e.op,a:=e.a,b:=e.b}) (xi e.b) (by simp[a0]) qo rfl;have g4:=g3.set k 3 ({f with op:=e.op,a:=e.a,b:=e.b}) ({f with op:=e.op,a:=e.a,b:=e.b,free:=e.free}) e.free (by simp[a0]) qo rfl;have g5:=g4.set k 4 ({f with op:=e.op,a:=e.a,b:=e.b,free:=e.free}) ({f with op:=e.op,a:=e.a,b:=e.b,free:=e.free,leaf:={f.leaf with kind:=e.leaf.kind}}) (xi e.leaf.kind) (by simp[a0]) qo rfl;have g6:=g5.set k 5 ({f with op:=e.op,a:=e.a,b:=e.b,free:=e.free,leaf:={f.leaf with kind:=e.leaf.kind}}) ({f with op:=e.op,a:=e.a,b:=e.b,free:=e.free,leaf:={f.leaf with kind:=e.leaf.kind,s:=e.leaf.s}}) e.leaf.s (by simp[a0]) qo rfl;have g7:=g6.set k 6 ({f with op:=e.op,a:=e.a,b:=e.b,free:=e.free,leaf:={f.leaf with kind:=e.leaf.kind,s:=e.leaf.s}}) ({f with op:=e.op,a:=e.a,b:=e.b,free:=e.free,leaf:={f.leaf with kind:=e.leaf.kind,s:=e.leaf.s,hi:=e.leaf.hi}}) e.leaf.hi (by simp[a0]) qo rfl;have g8:=g7.set k 7 ({f with op:=e.op,a:=e.a,b:=e.b,free:=e.free,leaf:={f.leaf with kind:=e.leaf.kind,s:=e.leaf.s,hi:=e.leaf.hi}}) ({f with op:=e.op,a:=e.a,b:=e.b,free:=e.free,leaf:={f.leaf with kind:=e.leaf.kind,s:=e.leaf.s,hi:=e.leaf.hi,t:=e.leaf.t}}) e.leaf.t (by simp[a0]) qo rfl;have g9:=g8.set k 8 ({f with op:=e.op,a:=e.a,b:=e.b,free:=e.free,leaf:={f.leaf with kind:=e.leaf.kind,s:=e.leaf.s,hi:=e.leaf.hi,t:=e.leaf.t}}) ({f with op:=e.op,a:=e.a,b:=e.b,free:=e.free,leaf:={f.leaf with kind:=e.leaf.kind,s:=e.leaf.s,hi:=e.leaf.hi,t:=e.leaf.t,lo:=e.leaf.lo}}) (xu e.leaf.lo) (by simp[a0]) qo rfl;have a2:=g9.set k 9 ({f with op:=e.op,a:=e.a,b:=e.b,free:=e.free,leaf:={f.leaf with kind:=e.leaf.kind,s:=e.leaf.s,hi:=e.leaf.hi,t:=e.leaf.t,lo:=e.leaf.lo}}) ({f with op:=e.op,a:=e.a,b:=e.b,free:=e.free,leaf:={f.leaf with kind:=e.leaf.kind,s:=e.leaf.s,hi:=e.leaf.hi,t:=e.leaf.t,lo:=e.leaf.lo,up:=e.leaf.up}}) (xu e.leaf.up) (by simp[a0]) qo rfl;have a1:=a2.set k 10 ({f with op:=e.op,a:=e.a,b:=e.b,free:=e.free,leaf:={f.leaf with kind:=e.leaf.kind,s:=e.leaf.s,hi:=e.leaf.hi,t:=e.leaf.t,lo:=e.leaf.lo,up:=e.leaf.up}}) e (xi e.leaf.n) (by simp[a0]) qo rfl;simpa only[set_set,Nat.add_zero]using a1
theorem yVu {fs:List Ix} {e:Ix} (h:fs.take k=es.take k) (hl:fs.length=es.length) (he:es[k]?=some e):(fs.set k e).take (k+1)=es.take (k+1):=by have a0:k<es.length:=qf he;rw[List.take_set,take_add_one,take_add_one (l:=es),he,getElem?_eq_getElem (by omega),h];simp only[Option.toList];rw[set_append_right _ _ (by simp;omega)];simp;rw[show k-min k es.length=0 by omega];rfl
theorem yVv (e:Ix) (left:Int) (w:World) (ho:e.ok) (h0:0<=left) (h1:left<=2^40):
  Calls prog 168 #[e.v,xi left] w λr w'=>∃x,r=.returned (xi x)/\(x= -1∨(0<=x/\x<=left))/\Below w w w':=by
 go_enter func168,ntmps168;go_wp2_with fail;refine(yR0 e.leaf left _ ho.leaf h0 h1).mono ?_;rintro r w1 ⟨x,rfl,hx,a0⟩;have k1:=((Below.refl _ _).alloc qr (Obj.cells #[xi e.op,xi e.a,xi e.b,e.free,xi e.leaf.kind,e.leaf.s,e.leaf.hi,e.leaf.t,xu e.leaf.lo,xu e.leaf.up,xi e.leaf.n] 264)).trans (a0.mono (by simp));have HX:Hid (x= -1∨(0<=x/\x<=left)):=by show _∨_;omega
 by_cases hx0:x<0
 .clear hx;go_wp2_with fail;go_ret;exact⟨_,rfl,.inl rfl,k1⟩
 .clear hx;go_wp2_with fail;go_ret;exact⟨_,rfl,HX.out,k1⟩
theorem yKu {a:World} (h:Below B a w) {g:Nat} (hg:B<=g) (o0 o1 o2 o3 o4 o5 o6 o7 o8 o9 o10:Nat) (v0 v1 v2 v3 v4 v5 v6 v7 v8 v9 v10:Value):
  Below B a (xt ((((((((((w.setCell (xd g o0) v0).setCell (xd g o1) v1).setCell (xd g o2) v2).setCell (xd g o3) v3).setCell (xd g o4) v4).setCell (xd g o5) v5).setCell (xd g o6) v6).setCell (xd g o7) v7).setCell (xd g o8) v8).setCell (xd g o9) v9) g o10 v10):=
 ((((((((((h.setCell hg _).setCell hg _).setCell hg _).setCell hg _).setCell hg _).setCell hg _).setCell hg _).setCell hg _).setCell hg _).setCell hg _).setCell hg _
theorem yVs (e:Ix) (w:World):(xf 173 #[e.v] w e.v:Prop):=by
 obtain⟨W0,a3⟩:=qE (xw ((w.alloc (Obj.cells #[xi e.op,xi e.a,xi e.b,e.free,xi e.leaf.kind,e.leaf.s,e.leaf.hi,e.leaf.t,xu e.leaf.lo,xu e.leaf.up,xi e.leaf.n] 264)).alloc (Obj.cells #[xi 0,xi 0,xi 0,false,xi 0,xe,false,xe,xu 0,xu 0,xi 0] 153)) #[xi e.op,xi e.a,xi e.b,e.free,xi 0,xe,false,xe,xu 0,xu 0,xi 0] 153:World);have HB:=qH1 (box3 a3);go_enter func173,ntmps173;go_upto_region 6 with fail;rw[<-a3];clear a3;obtain⟨_,_,_,_,a4,a5,a6,a7,a8,a9,ac⟩:=HB.1.c11;go_wp2_with fail;refine(yRw e.leaf _).mono ?_;rintro r w1 ⟨rfl,a2⟩;clear a4 a5 a6 a7 a8 a9 ac;have HC:=qH3 (HB.2.1.below a2) (HB.2.2.1.below a2) (HB.2.2.2.trans (a2.mono HB.2.2.2.size));obtain⟨b0,b1,b2,b3,b4,b5,b6,b7,b8,b9,aa⟩:=HC.2.1.c11;have bf:=λj=>HC.2.1.frozen j;go_upto_region 7 with fail;obtain⟨W7,a0⟩:=qE (setCs w1 (w+1+1) 4 [xi e.leaf.kind,e.leaf.s,e.leaf.hi,e.leaf.t,xu e.leaf.lo,xu e.leaf.up,xi e.leaf.n]:World);have a1:Chg (λq=>q=w.heap.size+1+1) w1 W7:=by rw[a0];exact yAl (S:=λq=>q=_) _ rfl _ _ _
 have H7:=qH3 (by rw[a0];exact yBu (v:=(xg (w+1+1) 1 1)) rfl ⟨1,rfl⟩ _ 4 w1 _ HC.2.1:yA W7 w 153 11 (w+1+1) e.ten) (HC.1.chg a1 qo) (Chg.below HC.2.2 a1 HC.2.2.size (λq hq=>qo));simp only[setCs,Nat.reduceAdd]at a0;rw[<-a0];clear a0 a1 bf b0 b1 b2 b3 b4 b5 b6 b7 b8 b9 aa;obtain⟨b0,b1,b2,b3,b4,b5,b6,b7,b8,b9,aa⟩:=H7.1.c11;obtain⟨d0,d1,d2,d3,d4,d5,d6,d7,d8,d9,ab⟩:=H7.2.1.c11;have df:=λj=>H7.2.1.frozen j;go_wp2_with fail;refine bodyPost_ret (v:=e.v) (by simp[results,results173,go_sem,d0,d1,d2,d3,d4,d5,d6,d7,d8,d9,ab]) rfl ⟨rfl,?_⟩;exact yKu H7.2.2 qo _ _ _ _ _ _ _ _ _ _ _ _ _ _ _ _ _ _ _ _ _ _
theorem yWv (e:Ix) (w:World):(xf 174 #[e.v,e.v] w true:Prop):=by have k0:Below w w (xw (w.alloc (Obj.cells #[xi e.op,xi e.a,xi e.b,e.free,xi e.leaf.kind,e.leaf.s,e.leaf.hi,e.leaf.t,xu e.leaf.lo,xu e.leaf.up,xi e.leaf.n] 153)) #[xi e.op,xi e.a,xi e.b,e.free,xi e.leaf.kind,e.leaf.s,e.leaf.hi,e.leaf.t,xu e.leaf.lo,xu e.leaf.up,xi e.leaf.n] 153):=(qB).alloc (by simp) _;go_enter func174,ntmps174;go_wp2_with fail;refine(yTn e.leaf _).mono ?_;rintro r w1 ⟨rfl,a0⟩;go_wp2_with fail;go_ret;exact⟨rfl,k0.trans (a0.mono (by simp;omega))⟩
inductive CT where
 |leaf (n:Nd)
 |chain (n:Nd) (a b:CT)
 |inter (n:Nd) (a b:CT)
 |cond (n:Nd) (a b c:CT)
def ctV (n:Nd):List CT->CT
 | [a,b]=>if n.kind=14 then .chain n a b else .inter n a b
 | [a,b,c]=>.cond n a b c
 |_=>.leaf n
def yIs (xs:List Nd) (t:CT):Prop:=TrV ctV [t] xs
inductive Part:CT->List Nd->Prop
 |leaf (n:Nd) (h:yA0 n.kind=0):Part (.leaf n) [n]
 |chain (n:Nd) {a b:CT} {ka kb:List Nd} (h:n.kind=14) (ha:yIs ka a) (hb:yIs kb b):Part (.chain n a b) (ka++kb++ [n])
 |inter (n:Nd) {a b:CT} {ka kb:List Nd} (h:n.kind=15) (ha:yIs ka a) (hb:yIs kb b):Part (.inter n a b) (ka++kb++ [n])
 |cond (n:Nd) {a b c:CT} {ka kb kc:List Nd} (h:n.kind=16) (ha:yIs ka a) (hb:yIs kb b) (hc:yIs kc c):Part (.cond n a b c) (ka++kb++kc++ [n])
theorem yEf {T:Type} {V:Nd->List T->T} {os:List T} {o:T} {k:List Nd} (h:KidV V os ks) (ho:os[j]?=some o) (hk:ks[j]?=some k):TrV V [o] k:=by
 obtain⟨o',h1,h2⟩:=KidV.nth _ h hk;rw[ho]at h1;cases h1
 exact h2
theorem yIs.part {t:CT} (h:yIs xs t):Part t xs:=by
 obtain⟨ys,n,os,rfl,hl,hT,rfl⟩:=TrV.inv _ h;obtain⟨ks,rfl,hK⟩:=TrV.kids _ hT;have a0:=hK.length;by_cases h14:n.kind=14
 .have ha:yA0 n.kind=2:=by unfold yA0;rw[if_pos (.inl h14)]
  rw[ha]at hl;match os,ks,hl,a0,hK with
  | [a,b],[ka,kb],_,_,hK=>
    have e1:ctV n [a,b]=.chain n a b:=if_pos h14;have e2: [ka,kb].flatten++ [n]=ka++kb++ [n]:=by simp
    rw[e1,e2];exact .chain n h14 (yEf hK (j:=0) rfl rfl) (yEf hK (j:=1) rfl rfl)
 .by_cases h15:n.kind=15
  .have ha:yA0 n.kind=2:=by unfold yA0;rw[if_pos (.inr h15)]
   rw[ha]at hl;match os,ks,hl,a0,hK with
   | [a,b],[ka,kb],_,_,hK=>
     have e1:ctV n [a,b]=.inter n a b:=if_neg h14;have e2: [ka,kb].flatten++ [n]=ka++kb++ [n]:=by simp
     rw[e1,e2];exact .inter n h15 (yEf hK (j:=0) rfl rfl) (yEf hK (j:=1) rfl rfl)
  .by_cases h16:n.kind=16
   .have ha:yA0 n.kind=3:=by unfold yA0;rw[if_neg qo,if_pos h16]
    rw[ha]at hl;match os,ks,hl,a0,hK with
    | [a,b,c],[ka,kb,kc],_,_,hK=>
      have e2: [ka,kb,kc].flatten++ [n]=ka++kb++kc++ [n]:=by simp
      rw[e2];exact .cond n h16 (yEf hK (j:=0) rfl rfl) (yEf hK (j:=1) rfl rfl) (yEf hK (j:=2) rfl rfl)
   .have ha:yA0 n.kind=0:=by unfold yA0;rw[if_neg qo,if_neg h16]
    have a1:os= []:=length_eq_zero_iff.1 qo;have a2:ks= []:=length_eq_zero_iff.1 qo;subst a1;subst a2;exact .leaf n ha
def yTk (k:Int):Bool:=decide (k=11∨k=12∨k=13)
def CT.size:CT->Nat
 | .leaf _=>1
 | .chain _ a b=>a.size+b.size+1
 | .inter _ a b=>a.size+b.size+1
 | .cond _ a b c=>a.size+b.size+c.size+1
theorem yYm (n:Nat):∀{t:CT} {xs:List Nd},xs.length<=n->yIs xs t->t.size=xs.length:=by
 induction n with
 |zero=>intro t xs hl h;have:=h.part;cases this<;>simp at hl
 |succ n ih=>
  intro t xs hl h;cases h.part with
  |leaf n h=>rfl
  |chain n h ha hb=>simp only[length_append,length_singleton]at hl⊢;simp only[CT.size,ih qo ha,ih qo hb]
  |inter n h ha hb=>simp only[length_append,length_singleton]at hl⊢;simp only[CT.size,ih qo ha,ih qo hb]
  |cond n h ha hb hc=>simp only[length_append,length_singleton]at hl⊢;simp only[CT.size,ih qo ha,ih qo hb,ih qo hc]
theorem yIs.size {t:CT} (h:yIs xs t):t.size=xs.length:=yYm _ qr h
section
inductive Pls (P:List UInt8->Prop):List UInt8->Prop
 |one {x:List UInt8} (h:P x):Pls P x
 |more {x y:List UInt8} (h:P x) (k:Pls P y):Pls P (x++y)
def RepL (P:List UInt8->Prop) (o r:Bool) (x:List UInt8):Prop:=(o=true/\x= [])∨(if r=true then Pls P x else P x)
mutual
def Lg:Pat->List UInt8->Prop
 | .byte b=>λx=>x= [b]
 | .cls f=>λx=>∃c,x= [c]/\f c=true
 | .rep t o r=>RepL (Lg t) o r
 | .alt os=>LgA os
def LgA:List (List Pat)->List UInt8->Prop
 | []=>λ_=>False
 |ts::os=>λx=>LgS ts x∨LgA os x
def LgS:List Pat->List UInt8->Prop
 | []=>λx=>x= []
 |t::ts=>λx=>∃y z,x=y++z/\Lg t y/\LgS ts z
end
theorem yU:∀(os:List (List Pat)) (x:List UInt8),LgA os x↔∃ts∈os,LgS ts x
 | [],x=>by simp[LgA]
 |ts::os,x=>by simp[LgA,yU os x]
mutual
def nulB:Pat->Bool
 | .byte _=>false
 | .cls _=>false
 | .rep t o _=>o || nulB t
 | .alt os=>nulA os
def nulA:List (List Pat)->Bool
 | []=>false
 |ts::os=>nulS ts || nulA os
def nulS:List Pat->Bool
 | []=>true
 |t::ts=>nulB t && nulS ts
end
abbrev PS:=Nat->Bool
def sOr (F G:PS):PS:=λi=>F i || G i
def sOne (a:Nat):PS:=λi=>i==a
def sNo:PS:=λ_=>false
structure Lay where
 nx:Nat
 fst:PS
 lst:PS
 tk:Nat->UInt8->Bool
 ed:Nat->Nat->Bool
def Lay.no (a:Nat):Lay:=⟨a,sNo,sNo,λ_ _=>false,λ_ _=>false⟩
def Lay.seq (g:Lay) (em nt:Bool) (l:Lay):Lay:=
 ⟨l.nx,if em=true then sOr g.fst l.fst else g.fst,if nt=true then sOr g.lst l.lst else l.lst,λp c=>g.tk p c || l.tk p c,λp q=>g.ed p q || l.ed p q || (g.lst p && l.fst q)⟩
def Lay.alt (g l:Lay):Lay:=⟨l.nx,sOr g.fst l.fst,sOr g.lst l.lst,λp c=>g.tk p c || l.tk p c,λp q=>g.ed p q || l.ed p q⟩
def Lay.rep (l:Lay) (r:Bool):Lay:=⟨l.nx,l.fst,l.lst,l.tk,λp q=>l.ed p q || (r && l.lst p && l.fst q)⟩
mutual
def lyP:Pat->Nat->Lay
 | .byte b,a=>⟨a+1,sOne a,sOne a,λp c=>p==a && c==b,λ_ _=>false⟩
 | .cls f,a=>⟨a+1,sOne a,sOne a,λp c=>p==a && f c,λ_ _=>false⟩
 | .rep t _ r,a=>(lyP t a).rep r
 | .alt os,a=>lyA os (Lay.no a)
def lyA:List (List Pat)->Lay->Lay
 | [],g=>g
 |ts::os,g=>lyA os (g.alt (lyS ts true (Lay.no g.nx)))
def lyS:List Pat->Bool->Lay->Lay
 | [],_,g=>g
 |t::ts,em,g=>lyS ts (em && nulB t) (g.seq em (nulB t) (lyP t g.nx))
end
inductive Pth (l:Lay):Nat->List UInt8->Nat->Prop
 |nil (p:Nat):Pth l p [] p
 |step {p p' q:Nat} {c:UInt8} {xs:List UInt8} (he:l.ed p p'=true) (ht:l.tk p' c=true) (h:Pth l p' xs q):Pth l p (c::xs) q
def Wd (l:Lay) (x:List UInt8):Prop:=∃c xs p q,x=c::xs/\l.fst p=true/\l.tk p c=true/\Pth l p xs q/\l.lst q=true
structure Spt (a:Nat) (l:Lay):Prop where
 le:a<=l.nx
 fst:∀p,l.fst p=true->a<=p/\p<l.nx
 lst:∀p,l.lst p=true->a<=p/\p<l.nx
 tk:∀p c,l.tk p c=true->a<=p/\p<l.nx
 ed:∀p q,l.ed p q=true->(a<=p/\p<l.nx)/\a<=q/\q<l.nx
structure Cor (a:Nat) (l:Lay) (P:List UInt8->Prop) (em:Bool):Prop where
 spt:Spt a l
 wd:∀x,P x↔(x= []/\em=true)∨Wd l x
variable {a p q:Nat} {xs:List UInt8}
theorem Pth.in {l:Lay} (hs:Spt a l) (h:Pth l p xs q) (hp:a<=p/\p<l.nx):a<=q/\q<l.nx:=by
 induction h with
 |nil p=>exact hp
 |step he ht h ih=>exact ih (hs.ed _ _ he).2
theorem Pth.cat {l:Lay} {r:Nat} {ys:List UInt8} (h:Pth l p xs q) (k:Pth l q ys r):Pth l p (xs++ys) r:=by
 induction h with
 |nil p=>exact k
 |step he ht h ih=>exact .step he ht (ih k)
theorem Pth.mono {l m:Lay} (h1:∀p q,l.ed p q=true->m.ed p q=true) (h2:∀p c,l.tk p c=true->m.tk p c=true) (h:Pth l p xs q):Pth m p xs q:=by
 induction h with
 |nil p=>exact .nil p
 |step he ht h ih=>exact .step (h1 _ _ he) (h2 _ _ ht) ih
theorem xHb {l:Lay}:¬Wd l []:=fun⟨c,xs,p,q,h,_⟩=>by cases h
variable {P:List UInt8->Prop} {em:Bool}
theorem Cor.nul {l:Lay} (h:Cor a l P em):P []↔em=true:=by
 rw[h.wd];constructor
 .rintro(⟨_,q⟩|q)
  .exact q
  .exact(xHb q).elim
 .exact λq=>.inl ⟨rfl,q⟩
theorem yZ1 (a:Nat):Cor a (Lay.no a) (λx=>x= []) true:=by
 refine⟨⟨Nat.le_refl _,?_,?_,?_,?_⟩,λx=>?_⟩
 .intro p h;cases h
 .intro p h;cases h
 .intro p c h;cases h
 .intro p q h;cases h
 .constructor
  .exact λh=>.inl ⟨h,rfl⟩
  .rintro(⟨h,_⟩|⟨c,xs,p,q,_,h,_⟩)
   .exact h
   .cases h
theorem xB7 (a:Nat):Cor a (Lay.no a) (λ_=>False) false:=by
 refine⟨(yZ1 a).spt,λx=>?_⟩;constructor
 .exact λh=>h.elim
 .rintro(⟨_,h⟩|⟨c,xs,p,q,_,h,_⟩)
  .cases h
  .cases h
theorem yZ0 (a:Nat) (f:UInt8->Bool) (T:Nat->UInt8->Bool) (hT:∀p c,T p c=(p==a && f c)):Cor a ⟨a+1,sOne a,sOne a,T,λ_ _=>false⟩ (λx=>∃c,x= [c]/\f c=true) false:=by
 refine⟨⟨le_succ _,?_,?_,?_,?_⟩,λx=>?_⟩
 .intro p h;simp[sOne]at h;simp;omega
 .intro p h;simp[sOne]at h;simp;omega
 .intro p c h;simp[hT]at h;simp;omega
 .intro p q h;cases h
 .constructor
  .rintro⟨c,rfl,hc⟩;exact .inr ⟨c,[],a,a,rfl,by simp[sOne],by simp[hT,hc],.nil a,by simp[sOne]⟩
  .rintro(⟨_,h⟩|⟨c,xs,p,q,rfl,h1,h2,h3,_⟩)
   .cases h
   .cases h3 with
    |nil=>simp[hT]at h2;exact⟨c,rfl,h2.2⟩
    |step he _ _=>cases he
section
variable {a:Nat} {g l:Lay} {em nt:Bool}
theorem yUp (hg:Spt a g) (hl:Spt g.nx l) (h:Pth (g.seq em nt l) p xs q):
  ((g.nx<=p/\p<l.nx)->Pth l p xs q)/\((a<=p/\p<g.nx)->Pth g p xs q∨∃xs1 c xs2 p1 q1,xs=xs1++c::xs2/\Pth g p xs1 p1/\g.lst p1=true/\l.fst q1=true/\l.tk q1 c=true/\Pth l q1 xs2 q):=by
 induction h with
 |nil p=>exact⟨λ_=>.nil p,λ_=>.inl (.nil p)⟩
 | @step p p' q c xs he ht h ih=>
   simp only[Lay.seq,Bool.or_eq_true,Bool.and_eq_true]at he ht;refine⟨λhp=>?_,λhp=>?_⟩
   .rcases he with(he|he)|he
    .have:=(hg.ed _ _ he).1;omega
    .have a0:=(hl.ed _ _ he).2;rcases ht with ht|ht
     .have:=hg.tk _ _ ht;omega
     .exact .step he ht (ih.1 a0)
    .have:=hg.lst _ he.1;omega
   .rcases he with(he|he)|he
    .have a0:=(hg.ed _ _ he).2;rcases ht with ht|ht
     .rcases ih.2 a0 with k|⟨xs1,c1,xs2,p1,q1,rfl,k1,k2⟩
      .exact .inl (.step he ht k)
      .exact .inr ⟨c::xs1,c1,xs2,p1,q1,rfl,.step he ht k1,k2⟩
     .have:=hl.tk _ _ ht;omega
    .have:=(hl.ed _ _ he).1;omega
    .have a0:=hl.fst _ he.2;rcases ht with ht|ht
     .have:=hg.tk _ _ ht;omega
     .exact .inr ⟨[],c,xs,p,p',rfl,.nil p,he.1,he.2,ht,ih.1 a0⟩
theorem xHi (h:Pth g p xs q):Pth (g.seq em nt l) p xs q:=h.mono (λp q h=>by simp[Lay.seq,h]) (λp c h=>by simp[Lay.seq,h])
theorem xHh (h:Pth l p xs q):Pth (g.seq em nt l) p xs q:=h.mono (λp q h=>by simp[Lay.seq,h]) (λp c h=>by simp[Lay.seq,h])
theorem xFl {G:List UInt8->Prop} (hg:Cor a g G em) (hl:Cor g.nx l P nt):Cor a (g.seq em nt l) (λx=>∃y z,x=y++z/\G y/\P z) (em && nt):=by
 have sg:=hg.spt;have sl:=hl.spt;have a4:=sg.le;have a3:=sl.le;have ff:∀p,(g.seq em nt l).fst p=true↔g.fst p=true∨(em=true/\l.fst p=true):=λp=>by cases em<;>simp[Lay.seq,sOr]
 have fl:∀p,(g.seq em nt l).lst p=true↔(nt=true/\g.lst p=true)∨l.lst p=true:=λp=>by cases nt<;>simp[Lay.seq,sOr]
 refine⟨⟨Nat.le_trans a4 a3,λp h=>?_,λp h=>?_,λp c h=>?_,λp q h=>?_⟩,λx=>?_⟩
 .show a<=p/\p<l.nx;rcases(ff p).1 h with h|⟨_,h⟩
  .have:=sg.fst p h;omega
  .have:=sl.fst p h;omega
 .show a<=p/\p<l.nx;rcases(fl p).1 h with⟨_,h⟩|h
  .have:=sg.lst p h;omega
  .have:=sl.lst p h;omega
 .show a<=p/\p<l.nx;simp only[Lay.seq,Bool.or_eq_true]at h;rcases h with h|h
  .have:=sg.tk p c h;omega
  .have:=sl.tk p c h;omega
 .show(a<=p/\p<l.nx)/\a<=q/\q<l.nx;simp only[Lay.seq,Bool.or_eq_true,Bool.and_eq_true]at h;rcases h with(h|h)|⟨h,k⟩
  .have:=sg.ed p q h;omega
  .have:=sl.ed p q h;omega
  .have:=sg.lst p h;have:=sl.fst q k;omega
 .constructor
  .rintro⟨y,z,rfl,hy,hz⟩;rcases(hg.wd y).1 hy with⟨rfl,e1⟩|⟨c,xs,p,q,rfl,h1,h2,h3,h4⟩
   .rcases(hl.wd z).1 hz with⟨rfl,e2⟩|⟨c,xs,p,q,rfl,h1,h2,h3,h4⟩
    .exact .inl ⟨rfl,by rw[e1,e2];rfl⟩
    .exact .inr ⟨c,xs,p,q,rfl,(ff p).2 (.inr ⟨e1,h1⟩),by simp[Lay.seq,h2],xHh h3,(fl q).2 (.inr h4)⟩
   .rcases(hl.wd z).1 hz with⟨rfl,e2⟩|⟨c',a2,p',q',rfl,k1,k2,k3,k4⟩
    .exact .inr ⟨c,xs,p,q,by simp,(ff p).2 (.inl h1),by simp[Lay.seq,h2],xHi h3,(fl q).2 (.inl ⟨e2,h4⟩)⟩
    .refine .inr ⟨c,xs++c'::a2,p,q',by simp,(ff p).2 (.inl h1),by simp[Lay.seq,h2],(xHi h3).cat (.step ?_ (by simp[Lay.seq,k2]) (xHh k3)),(fl q').2 (.inr k4)⟩;simp[Lay.seq,h4,k1]
  .rintro(⟨rfl,e⟩|⟨c,xs,p,q,rfl,h1,h2,h3,h4⟩)
   .simp only[Bool.and_eq_true]at e;exact⟨[],[],rfl,hg.nul.2 e.1,hl.nul.2 e.2⟩
   .simp only[Lay.seq,Bool.or_eq_true]at h2;rcases(ff p).1 h1 with k1|⟨e1,k1⟩
    .have hp:=sg.fst p k1;have t1:g.tk p c=true:=by
      rcases h2 with h2|h2
      .exact h2
      .have:=sl.tk p c h2;omega
     rcases(yUp sg sl h3).2 hp with k|⟨a1,c1,a0,p1,q1,rfl,k2,k3,k4,k5,k6⟩
     .have hq:=k.in sg hp;rcases(fl q).1 h4 with⟨e2,h4⟩|h4
      .exact⟨c::xs,[],by simp,(hg.wd _).2 (.inr ⟨c,xs,p,q,rfl,k1,t1,k,h4⟩),hl.nul.2 e2⟩
      .have:=sl.lst q h4;omega
     .have hq:=k6.in sl (sl.fst _ k4);rcases(fl q).1 h4 with⟨_,h4⟩|h4
      .have:=sg.lst q h4;omega
      .exact⟨c::a1,c1::a0,by simp,(hg.wd _).2 (.inr ⟨c,a1,p,p1,rfl,k1,t1,k2,k3⟩),(hl.wd _).2 (.inr ⟨c1,a0,q1,q,rfl,k4,k5,k6,h4⟩)⟩
    .have hp:=sl.fst p k1;have t1:l.tk p c=true:=by
      rcases h2 with h2|h2
      .have:=sg.tk p c h2;omega
      .exact h2
     have k:=(yUp sg sl h3).1 hp;have hq:=k.in sl hp;rcases(fl q).1 h4 with⟨_,h4⟩|h4
     .have:=sg.lst q h4;omega
     .exact⟨[],c::xs,rfl,hg.nul.2 e1,(hl.wd _).2 (.inr ⟨c,xs,p,q,rfl,k1,t1,k,h4⟩)⟩
theorem yVj (hg:Spt a g) (hl:Spt g.nx l) (h:Pth (g.alt l) p xs q):
  ((g.nx<=p/\p<l.nx)->Pth l p xs q)/\((a<=p/\p<g.nx)->Pth g p xs q):=by
 induction h with
 |nil p=>exact⟨λ_=>.nil p,λ_=>.nil p⟩
 | @step p p' q c xs he ht h ih=>
   simp only[Lay.alt,Bool.or_eq_true]at he ht;refine⟨λhp=>?_,λhp=>?_⟩
   .rcases he with he|he
    .have:=(hg.ed _ _ he).1;omega
    .have a0:=(hl.ed _ _ he).2;rcases ht with ht|ht
     .have:=hg.tk _ _ ht;omega
     .exact .step he ht (ih.1 a0)
   .rcases he with he|he
    .have a0:=(hg.ed _ _ he).2;rcases ht with ht|ht
     .exact .step he ht (ih.2 a0)
     .have:=hl.tk _ _ ht;omega
    .have:=(hl.ed _ _ he).1;omega
theorem xI4 (h:Pth g p xs q):Pth (g.alt l) p xs q:=h.mono (λp q h=>by simp[Lay.alt,h]) (λp c h=>by simp[Lay.alt,h])
theorem xI3 (h:Pth l p xs q):Pth (g.alt l) p xs q:=h.mono (λp q h=>by simp[Lay.alt,h]) (λp c h=>by simp[Lay.alt,h])
theorem xFn {G:List UInt8->Prop} (hg:Cor a g G em) (hl:Cor g.nx l P nt):Cor a (g.alt l) (λx=>G x∨P x) (em || nt):=by
 have sg:=hg.spt;have sl:=hl.spt;have a1:=sg.le;have a0:=sl.le;refine⟨⟨Nat.le_trans a1 a0,λp h=>?_,λp h=>?_,λp c h=>?_,λp q h=>?_⟩,λx=>?_⟩
 .show a<=p/\p<l.nx;simp only[Lay.alt,sOr,Bool.or_eq_true]at h;rcases h with h|h
  .have:=sg.fst p h;omega
  .have:=sl.fst p h;omega
 .show a<=p/\p<l.nx;simp only[Lay.alt,sOr,Bool.or_eq_true]at h;rcases h with h|h
  .have:=sg.lst p h;omega
  .have:=sl.lst p h;omega
 .show a<=p/\p<l.nx;simp only[Lay.alt,Bool.or_eq_true]at h;rcases h with h|h
  .have:=sg.tk p c h;omega
  .have:=sl.tk p c h;omega
 .show(a<=p/\p<l.nx)/\a<=q/\q<l.nx;simp only[Lay.alt,Bool.or_eq_true]at h;rcases h with h|h
  .have:=sg.ed p q h;omega
  .have:=sl.ed p q h;omega
 .constructor
  .rintro(h|h)
   .rcases(hg.wd x).1 h with⟨rfl,e1⟩|⟨c,xs,p,q,rfl,h1,h2,h3,h4⟩
    .exact .inl ⟨rfl,by rw[e1];rfl⟩
    .exact .inr ⟨c,xs,p,q,rfl,by simp[Lay.alt,sOr,h1],by simp[Lay.alt,h2],xI4 h3,by simp[Lay.alt,sOr,h4]⟩
   .rcases(hl.wd x).1 h with⟨rfl,e1⟩|⟨c,xs,p,q,rfl,h1,h2,h3,h4⟩
    .exact .inl ⟨rfl,by rw[e1,Bool.or_true]⟩
    .exact .inr ⟨c,xs,p,q,rfl,by simp[Lay.alt,sOr,h1],by simp[Lay.alt,h2],xI3 h3,by simp[Lay.alt,sOr,h4]⟩
  .rintro(⟨rfl,e⟩|⟨c,xs,p,q,rfl,h1,h2,h3,h4⟩)
   .simp only[Bool.or_eq_true]at e;rcases e with e|e
    .exact .inl (hg.nul.2 e)
    .exact .inr (hl.nul.2 e)
   .simp only[Lay.alt,sOr,Bool.or_eq_true]at h1 h2 h4;rcases h1 with k1|k1
    .have hp:=sg.fst p k1;have k:=(yVj sg sl h3).2 hp;have hq:=k.in sg hp;refine .inl ((hg.wd _).2 (.inr ⟨c,xs,p,q,rfl,k1,?_,k,?_⟩))
     .rcases h2 with h2|h2
      .exact h2
      .have:=sl.tk p c h2;omega
     .rcases h4 with h4|h4
      .exact h4
      .have:=sl.lst q h4;omega
    .have hp:=sl.fst p k1;have k:=(yVj sg sl h3).1 hp;have hq:=k.in sl hp;refine .inr ((hl.wd _).2 (.inr ⟨c,xs,p,q,rfl,k1,?_,k,?_⟩))
     .rcases h2 with h2|h2
      .have:=sg.tk p c h2;omega
      .exact h2
     .rcases h4 with h4|h4
      .have:=sg.lst q h4;omega
      .exact h4
end
theorem xEo {l:Lay} {r:Bool} (h:Pth l p xs q):Pth (l.rep r) p xs q:=Pth.mono (l:=l) (m:=l.rep r) (λp q k=>by simp[Lay.rep,k]) (λp c k=>k) h
theorem xBc {l:Lay} (h:Pth (l.rep true) p xs q):Pth l p xs q∨∃xs1 c xs2 p1 q1,xs=xs1++c::xs2/\Pth l p xs1 p1/\l.lst p1=true/\l.fst q1=true/\l.tk q1 c=true/\Pth (l.rep true) q1 xs2 q:=by
 induction h with
 |nil p=>exact .inl (.nil p)
 | @step p p' q c xs he ht h ih=>
   simp only[Lay.rep,Bool.or_eq_true,Bool.and_eq_true,true_and]at he ht;rcases he with he|he
   .rcases ih with k|⟨xs1,c1,xs2,p1,q1,rfl,k1,k2⟩
    .exact .inl (.step he ht k)
    .exact .inr ⟨c::xs1,c1,xs2,p1,q1,rfl,.step he ht k1,k2⟩
   .exact .inr ⟨[],c,xs,p,p',rfl,.nil p,he.1,he.2,ht,h⟩
theorem yPo {l:Lay} (hw:∀x,Wd l x->P x):∀(n:Nat) {x:List UInt8},x.length<=n->Wd (l.rep true) x->Pls P x
 |0,x,hn,⟨c,xs,p,q,hx,_⟩=>by subst hx;simp at hn
 |n+1,x,hn,⟨c,xs,p,q,hx,h1,h2,h3,h4⟩=>by
  subst hx
  rcases xBc h3 with k|⟨xs1,c1,xs2,p1,q1,rfl,k1,k2,k3,k4,k5⟩
  .exact .one (hw _ ⟨c,xs,p,q,rfl,h1,h2,k,h4⟩)
  .have e:c::(xs1++c1::xs2)=(c::xs1)++(c1::xs2):=by simp
   rw[e]
   refine .more (hw _ ⟨c,xs1,p,p1,rfl,h1,h2,k1,k2⟩) (yPo hw n ?_ ⟨c1,xs2,q1,q,rfl,k3,k4,k5,h4⟩)
   simp at hn⊢;omega
theorem xFm {l:Lay} (h:Cor a l P em) (o r:Bool):Cor a (l.rep r) (RepL P o r) (o || em):=by
 have s:=h.spt;refine⟨⟨s.le,s.fst,s.lst,s.tk,λp q k=>?_⟩,λx=>?_⟩
 .simp only[Lay.rep,Bool.or_eq_true,Bool.and_eq_true]at k;rcases k with k|⟨⟨_,k1⟩,k2⟩
  .exact s.ed p q k
  .exact⟨s.lst p k1,s.fst q k2⟩
 .cases r with
  |false=>
   have e:∀x,Wd (l.rep false) x↔Wd l x:=λx=>by
    have:l.rep false=l:=by simp[Lay.rep]
    rw[this]
   unfold RepL;rw[if_neg (by decide),e,h.wd];cases o<;>cases em<;>simp
  |true=>
   unfold RepL;rw[if_pos rfl];constructor
   .rintro(⟨rfl,rfl⟩|k)
    .exact .inl ⟨rfl,rfl⟩
    .induction k with
     |one hx=>
      rcases(h.wd _).1 hx with⟨rfl,e⟩|⟨c,xs,p,q,rfl,h1,h2,h3,h4⟩
      .exact .inl ⟨rfl,by rw[e,Bool.or_true]⟩
      .exact .inr ⟨c,xs,p,q,rfl,h1,h2,xEo h3,h4⟩
     | @more x y hx k ih=>
       rcases(h.wd _).1 hx with⟨rfl,e⟩|⟨c,xs,p,q,rfl,h1,h2,h3,h4⟩
       .exact ih
       .rcases ih with⟨rfl,e⟩|⟨c',a0,p',q',rfl,k1,k2,k3,k4⟩
        .exact .inr ⟨c,xs,p,q,by simp,h1,h2,xEo h3,h4⟩
        .refine .inr ⟨c,xs++c'::a0,p,q',by simp,h1,h2,(xEo h3).cat (.step ?_ k2 k3),k4⟩;have a1:l.fst p'=true:=k1;simp[Lay.rep,h4,a1]
   .rintro(⟨rfl,e⟩|k)
    .simp only[Bool.or_eq_true]at e;rcases e with e|e
     .exact .inl ⟨e,rfl⟩
     .exact .inr (.one (h.nul.2 e))
    .exact .inr (yPo (λx hx=>(h.wd x).2 (.inr hx)) _ qr k)
theorem Cor.iff {l:Lay} {Q:List UInt8->Prop} (h:Cor a l P em) (hq:∀x,Q x↔P x):Cor a l Q em:=⟨h.spt,λx=>(hq x).trans (h.wd x)⟩
mutual
theorem yQ7:∀(t:Pat) (a:Nat),Cor a (lyP t a) (Lg t) (nulB t)
 | .byte b,a=>by
   refine(yZ0 a (λc=>c==b) _ (λp c=>rfl)).iff (λx=>?_)
   simp[Lg]
 | .cls f,a=>by
   refine(yZ0 a f _ (λp c=>rfl)).iff (λx=>?_)
   simp[Lg]
 | .rep t o r,a=>by
   have:=xFm (yQ7 t a) o r
   simp only[lyP,nulB,Lg]
   exact this
 | .alt os,a=>by
   have:=xH9 os a (Lay.no a) _ _ (xB7 a)
   simp only[lyP,nulB,Lg]
   refine(show Cor a (lyA os (Lay.no a)) _ (nulA os)from ?_)
   rw[Bool.false_or]at this
   exact this.iff (λx=>by simp)
theorem xH9:∀(os:List (List Pat)) (a:Nat) (g:Lay) (G:List UInt8->Prop) (em:Bool),Cor a g G em->Cor a (lyA os g) (λx=>G x∨LgA os x) (em || nulA os)
 | [],a,g,G,em,h=>by
   simp only[lyA,nulA,LgA,or_false,Bool.or_false]
   exact h
 |ts::os,a,g,G,em,h=>by
  have h1:=xFo ts g.nx (Lay.no g.nx) _ _ (yZ1 g.nx)
  rw[Bool.true_and]at h1
  have h2:=xH9 os a _ _ _ (xFn h h1)
  simp only[lyA,nulA,LgA,<-Bool.or_assoc]
  refine h2.iff (λx=>?_)
  have e:(∃y z,x=y++z/\y= []/\LgS ts z)↔LgS ts x:=by
   constructor
   .rintro⟨y,z,rfl,rfl,h⟩;exact h
   .exact λh=>⟨[],x,rfl,rfl,h⟩
  rw[e,or_assoc]
theorem xFo:∀(ts:List Pat) (a:Nat) (g:Lay) (G:List UInt8->Prop) (em:Bool),Cor a g G em->Cor a (lyS ts em g) (λx=>∃y z,x=y++z/\G y/\LgS ts z) (em && nulS ts)
 | [],a,g,G,em,h=>by
   simp only[lyS,nulS,LgS,Bool.and_true]
   refine h.iff (λx=>?_)
   constructor
   .rintro⟨y,z,rfl,hy,rfl⟩;simpa using hy
   .exact λh=>⟨x,[],by simp,h,rfl⟩
 |t::ts,a,g,G,em,h=>by
  have h2:=xFo ts a _ _ _ (xFl h (yQ7 t g.nx))
  simp only[lyS,nulS,LgS,<-Bool.and_assoc]
  refine h2.iff (λx=>?_)
  constructor
  .rintro⟨y,z,rfl,hy,u,v,rfl,hu,hv⟩;exact⟨y++u,v,by simp,⟨y,u,rfl,hy,hu⟩,hv⟩
  .rintro⟨y,z,rfl,⟨u,v,rfl,hu,hv⟩,hz⟩;exact⟨u,v++z,by simp,hu,v,z,rfl,hv,hz⟩
end
end
def ofB (f:Nat->Bool):Nat->Nat
 |0=>0
 |n+1=>ofB f n |||(if f n=true then 2^n else 0)
theorem yCs (f:Nat->Bool):∀(n j:Nat),(ofB f n).testBit j=(decide (j<n) && f j)
 |0,j=>by simp[ofB]
 |n+1,j=>by
  unfold ofB
  rw[testBit_or,yCs f n j]
  by_cases hf:f n=true
  .rw[if_pos hf,testBit_two_pow]
   by_cases h:j=n
   .subst h;simp[hf]
   .have h1:decide (n=j)=false:=by simp;omega
    have h2:decide (j<n+1)=decide (j<n):=by rw[decide_eq_decide];omega
    rw[h1,h2];simp
  .rw[if_neg hf,zero_testBit]
   by_cases h:j=n
   .subst h;simp[hf]
   .have h2:decide (j<n+1)=decide (j<n):=by rw[decide_eq_decide];omega
    rw[h2];simp
theorem yYy (f:Nat->Bool) (n:Nat):ofB f n<2^n:=by
 refine lt_pow_two_of_testBit _ (λi hi=>?_);rw[yCs];have:decide (i<n)=false:=by simp;omega
 rw[this];rfl
theorem yMo {x:Nat} {f:Nat->Bool} (hx:x<2^n) (h:∀j,j<n->x.testBit j=f j):x=ofB f n:=by
 refine eq_of_testBit_eq (λj=>?_);rw[yCs];by_cases hj:j<n
 .rw[h j hj];simp[hj]
 .rw[testBit_lt_two_pow (Nat.lt_of_lt_of_le hx (Nat.pow_le_pow_right qj qo))];simp[hj]
theorem yGw {f g:Nat->Bool} (h:∀j,j<n->f j=g j):ofB f n=ofB g n:=yMo (yYy f n) (λj hj=>by rw[yCs,h j hj];simp[hj])
def wdF (S:PS) (i b:Nat):Nat:=ofB (λj=>S (64*i+j) && decide (b<=j)) 64
def wdN (S:PS) (i:Nat):Nat:=ofB (λj=>S (64*i+j)) 64
theorem xAt S (i:Nat):wdF S i 0=wdN S i:=yGw (λj _=>by simp)
theorem yF3 S (i:Nat):wdN S i<18446744073709551616:=yYy _ 64
theorem xC7 S (i b:Nat):wdF S i b<18446744073709551616:=yYy _ 64
def sAnd (F G:PS):PS:=λi=>F i && G i
theorem xIo S T (i:Nat):bits .or .u64 (wdN S i:Int) (wdN T i:Int)=((wdN (sOr S T) i:Nat):Int):=by rw[bits_or_u64_nat _ _ (yF3 _ _) (yF3 _ _)];congr 1;refine yMo (or_lt_two_pow (yF3 _ _) (yF3 _ _)) (λj hj=>?_);rw[testBit_or];unfold wdN;rw[yCs,yCs];simp[hj,sOr]
theorem xHc S T (i:Nat):bits .and .u64 (wdN S i:Int) (wdN T i:Int)=((wdN (sAnd S T) i:Nat):Int):=by rw[bits_and_u64_nat _ _ (yF3 _ _) (yF3 _ _)];congr 1;refine yMo (and_lt_two_pow _ (yF3 _ _)) (λj hj=>?_);rw[testBit_and];unfold wdN;rw[yCs,yCs];simp[hj,sAnd]
theorem yMy S (a i:Nat) (hi:i=a/64):bits .or .u64 (wdN S i:Int) ((2^(a%64):Nat):Int)=((wdN (sOr S (sOne a)) i:Nat):Int):=by
 have hp:=Nat.pow_lt_pow_right (a:=2) qj (mod_lt a qj:a%64<64);rw[bits_or_u64_nat _ _ (yF3 _ _) hp];congr 1;refine yMo (or_lt_two_pow (yF3 _ _) hp) (λj hj=>?_);rw[testBit_or,testBit_two_pow];unfold wdN;rw[yCs];have h:decide (a%64=j)=(64*i+j==a):=by rw[Bool.eq_iff_iff,decide_eq_true_eq,beq_iff_eq];omega
 simp only[hj,decide_true,Bool.true_and,sOr,sOne,h]
theorem yBf S (a i:Nat) (hi:¬i=a/64):wdN (sOr S (sOne a)) i=wdN S i:=by
 refine yGw (λj hj=>?_);have h:(64*i+j==a)=false:=by rw[beq_eq_false_iff_ne];omega
 simp only[sOr,sOne,h,Bool.or_false]
theorem xFd (x:Nat) (h0:x≠0) (hx:x<18446744073709551616):Lib.ctz 64 x<64/\x.testBit (Lib.ctz 64 x)=true/\(∀j,j<Lib.ctz 64 x->x.testBit j=false)/\∀j,(x &&& (x-1)).testBit j=(decide (Lib.ctz 64 x<j) && x.testBit j):=by
 obtain⟨m,hm,hk⟩:=Lib.ctzFrom_spec 64 x (by omega) hx;have e:Lib.ctz 64 x=Lib.ctzFrom 64 x:=by simp[Lib.ctz,h0]
 rw[e];generalize Lib.ctzFrom 64 x=k at hm hk;have hb:∀j,x.testBit j=(decide (k<=j) && (2*m+1).testBit (j-k)):=λj=>by rw[hm,Nat.mul_comm,testBit_mul_two_pow]
 have hp:0<2^k:=Nat.pow_pos qj;have hd:(x-1)/2^k=2*m:=by
  have h1:x-1=2^k*(2*m)+(2^k-1):=by rw[hm,Nat.mul_add];omega
  rw[h1,mul_add_div hp,div_eq_of_lt (by omega),Nat.add_zero]
 have a0:∀j,k<=j->(x-1).testBit j=(2*m).testBit (j-k):=λj hj=>by rw[<-hd,testBit_div_two_pow];congr 1;omega
 refine⟨hk,by rw[hb];simp,λj hj=>by rw[hb];have:decide (k<=j)=false:=by simp;omega
                                       rw[this];rfl,λj=>?_⟩
 rw[testBit_and,hb j];by_cases h1:k<=j
 .rw[a0 j h1];by_cases h2:j=k
  .subst h2;simp
  .obtain⟨t,rfl⟩:∃t,j=k+(t+1):=⟨j-k-1,by omega⟩;have e3:k+(t+1)-k=t+1:=by omega
   have e4:decide (k<k+(t+1))=true:=by simp
   have d1:(2*m+1)/2=m:=by omega
   have d2:(2*m)/2=m:=by omega
   rw[e3,e4,testBit_succ,testBit_succ,d1,d2];simp
 .have h2:decide (k<=j)=false:=by simp;omega
  have h3:decide (k<j)=false:=by simp;omega
  rw[h2,h3];simp
theorem xE {S:PS} {x:Nat} (hx:x=wdF S i b) (h0:x≠0):Lib.ctz 64 x<64/\S (64*i+Lib.ctz 64 x)=true/\b<=Lib.ctz 64 x/\(∀j,b<=j->j<Lib.ctz 64 x->S (64*i+j)=false)/\x &&& (x-1)=wdF S i (Lib.ctz 64 x+1):=by
 have hl:x<18446744073709551616:=by rw[hx];exact xC7 _ _ _
 obtain⟨h1,h2,h3,h4⟩:=xFd x h0 hl;generalize Lib.ctz 64 x=k at h1 h2 h3 h4;have hb:∀j,j<64->x.testBit j=(S (64*i+j) && decide (b<=j)):=λj hj=>by rw[hx];unfold wdF;rw[yCs];simp[hj]
 rw[hb k h1,Bool.and_eq_true,decide_eq_true_eq]at h2;refine⟨h1,h2.1,h2.2,λj hbj hj=>?_,?_⟩
 .have:=h3 j hj;rw[hb j qo]at this;simpa [hbj]using this
 .refine yMo (and_lt_two_pow _ qo) (λj hj=>?_);rw[h4 j,hb j hj];by_cases q:k<j
  .have q1:decide (k+1<=j)=true:=by simp;omega
   have q2:decide (b<=j)=true:=by have:=h2.2;simp;omega
   rw[q1,q2];simp[q]
  .have q1:decide (k+1<=j)=false:=by simp;omega
   rw[q1];simp[q]
theorem xAu {S:PS} (h:wdF S i b=0) (j:Nat) (hb:b<=j) (hj:j<64):S (64*i+j)=false:=by
 have h1:(wdF S i b).testBit j=(S (64*i+j) && decide (b<=j)):=by unfold wdF;rw[yCs];simp[hj]
 rw[h,zero_testBit]at h1;simpa [hb]using h1.symm
theorem yR5 (x:Nat) (h0:x≠0) (hx:x<18446744073709551616):bits .and .u64 (x:Int) (IntKind.u64.wrap ((x:Int)-1))=((x &&& (x-1):Nat):Int):=by
 have e1:IntKind.u64.wrap ((x:Int)-1)=((x-1:Nat):Int):=by rw[IntKind.wrap_u64];omega
 rw[e1,bits_and_u64_nat x _ hx qo]
def psL (S:PS):List Value:= [.int .u64 (wdN S 0:Int),.int .u64 (wdN S 1:Int),.int .u64 (wdN S 2:Int),.int .u64 (wdN S 3:Int)]
abbrev psV (S:PS):Value:=.agg #[xu (wdN S 0),xu (wdN S 1),xu (wdN S 2),xu (wdN S 3)]
variable {T:PS}
theorem yDc {S:PS} (h:∀p,p<256->S p=T p) (hi:i<4):wdN S i=wdN T i:=yGw (λj hj=>h _ qo)
theorem yF2 (i:Nat):wdN sNo i=0:=by refine(yMo qj (λj _=>?_)).symm;simp[sNo]
theorem xD9 {S:PS} (h:wdN S i=wdN T i) (j:Nat) (hj:j<64):S (64*i+j)=T (64*i+j):=by
 have h1:(wdN S i).testBit j=S (64*i+j):=by unfold wdN;rw[yCs];simp[hj]
 have h2:(wdN T i).testBit j=T (64*i+j):=by unfold wdN;rw[yCs];simp[hj]
 rw[<-h1,<-h2,h]
theorem yO1 {S:PS} (h:∀i,i<4->wdN S i=wdN T i) (p:Nat) (hp:p<256):S p=T p:=by have:=xD9 (h (p/64) (by omega)) (p%64) (by omega);rwa [show 64*(p/64)+p%64=p by omega]at this
def TabD (w:World):Prop:=∀j,j<64->(xk w 1 j (.int .u8 (Lib.deBruijn64tab.getD j 0)):Prop)
theorem TabD.lt (h:TabD w):1<w.heap.size:=by have h0:=h 0 qo;apply Classical.byContradiction;intro hn;rw[World.cell?,Array.getElem?_eq_none (by simp only;omega)]at h0;simp at h0
theorem xE7 (x a:Nat) (hx:x<18446744073709551616) (hx0:x≠0) (hlow:x &&& (18446744073709551616-x)=a):
  IntKind.u64.wrap (bits BinOp.and IntKind.u64 (x:Int) (IntKind.u64.wrap (-(x:Int)))*285870213051353865)/288230376151711744=((a*285870213051353865%18446744073709551616/288230376151711744:Nat):Int):=by
 have e1:IntKind.u64.wrap (-(x:Int))=((18446744073709551616-x:Nat):Int):=by rw[IntKind.wrap_u64];omega
 rw[e1,bits_and_u64_nat x _ hx qo,hlow,IntKind.wrap_u64];omega
theorem xIp (x k idx:Nat) (w:World) (hx0:((x:Int)==0)=false)
  (key:IntKind.u64.wrap (bits BinOp.and IntKind.u64 (x:Int) (IntKind.u64.wrap (-(x:Int)))*285870213051353865)/288230376151711744=(idx:Int))
  (hi:idx<64) (hk:k<64) (hcell:(xk w 1 idx (.int .u8 k):Prop)):
  Calls prog 258 #[xu x] w λe w'=>e=.returned (xi k)/\w'=w:=by
 go_enter func258,ntmps258;go_wp2_with (simp only[key]);go_ret;exact⟨rfl,rfl⟩
theorem xEb (x:Nat) (hx:x<18446744073709551616) (hx0:x≠0) w (hT:TabD w):Calls prog 258 #[xu x] w λe w'=>e=.returned (xi (Lib.ctz 64 x))/\w'=w:=by obtain⟨a2,hk⟩:=Lib.lowest_bit 64 x hx0 hx;obtain⟨hi,a1⟩:=Lib.deBruijn64_at _ hk;have a0:=hT _ hi;rw[a1]at a0;exact xIp x _ _ w (by simp;omega) (xE7 x _ hx hx0 a2) hi hk a0
theorem xBg S {k:Nat} (hk:k<4) (w:World):(Instr.index 328 (psV S) (xi k)).run prog w=.ok (xu (wdN S k)) w:=by rcases(by omega:k=0∨k=1∨k=2∨k=3)with rfl|rfl|rfl|rfl<;>kernel_rfl
theorem yWl S (l m:Nat) (hm:1<=m) (J:Nat->World->Prop)
  (hY:∀k x W,J k W->k<=x->x<256->S x=true->(∀j,k<=j->j<x->S j=false)->YieldAt Fence.wide (m-1) prog l #[xi x] W λe W'=>e=.returned true/\J (x+1) W')
  (hJs:∀k k' W,J k W->k<=k'->(∀j,k<=j->j<k'->S j=false)->J k' W) (hJd:∀k W,J k W->J k W.drew) (hJa:∀k W (o:Obj),J k W->J k (W.alloc o)) (hJt:∀k W,J k W->TabD W) (W:World) (h0:J 0 W):
  CallsIn Fence.wide m prog 246 #[psV S,.func (.yield l) #[] #[]] W λe W'=>(∃v,e=.returned v)/\J 256 W':=by
 have aa:Hid (J 0 (xw W (psL S).toArray 328)):=hJa _ _ _ h0;refine callsIn_of_wp func246 rfl trivial ?_ rfl;simp only[ntmps246,size_toArray,length_cons,length_nil,Nat.reduceAdd,Nat.reduceSub,Array.replicate_succ,Array.replicate_zero,push_toArray,append_toArray,nil_append,cons_append];gi_wp2;gi_loopw [7] (λiv wr=>∃i:Nat,i<=4/\iv=(xi i)/\J (64*i) wr) (λiv _=>4-(intOf iv).toNat);case atStart=>exact⟨0,by omega,rfl,aa.out⟩
 case round=>
  obtain⟨i,hi,rfl,a2⟩:=hrel;by_cases hlt:i<4
  .have zi:(i:Int)<4:=by omega
   have ab:=λw=>xBg S hlt w;have a3:Hid (J (64*i) wr):=a2;clear a2;gi_wp2;gi_loopw [5] (λxv wr=>∃x b:Nat,xv=(xu x)/\Hid (x=wdF S i b)/\b<=64/\Hid (J (64*i+b) wr)) (λxv _=>(intOf xv).toNat);case atStart=>exact⟨wdN S i,0,rfl,(xAt S i).symm,by omega,a3.out⟩
   case round=>
    obtain⟨x,b,rfl,HX,hb,a0⟩:=hrel;by_cases hx0:x=0
    .subst hx0;have hn:Hid (J (64*(i+1)) wr):=hJs _ _ _ a0.out (by omega) (λj h1 h2=>by
      have:=xAu HX.symm (j-64*i) (by omega) (by omega)
      rwa [show 64*i+(j-64*i)=j by omega]at this)
     clear a0 HX a3;gi_wp2;go_roundw;case rel=>exact⟨i+1,qo,by go_num,hn.out⟩
     case measure=>simp[intOf];omega
    .have a5:x<18446744073709551616:=by rw[HX.out];exact xC7 _ _ _
     obtain⟨h1,h2,h3,h4,h5⟩:=xE HX.out hx0;have HT:=xEb x a5 hx0 wr (hJt _ _ a0.out);obtain⟨k,hk⟩:=qE (Lib.ctz 64 x);rw[<-hk]at h1 h2 h3 h4 h5 HT;obtain⟨fn,tmps,assign,body,hy,hR⟩:=hY _ (64*i+k) wr a0.out qo (by omega) h2 (λj q1 q2=>by
      have:=h4 (j-64*i) (by omega) (by omega)
      rwa [show 64*i+(j-64*i)=j by omega]at this)
     have e0:((64*i+k:Nat):Int)=(i:Int)*64+(k:Int):=by omega
     rw[e0]at hy;have zx:((x:Int)==0)=false:=by simp;omega
     have HN:Hid (x &&& (x-1)=wdF S i (k+1)/\x &&& (x-1)<x):=⟨h5,qw (and_le_right (n:=x) (m:=x-1))⟩;have a1:bits .and .u64 (x:Int) ((x:Int)-1)=((x &&& (x-1):Nat):Int):=by have:=yR5 x hx0 a5;rwa [IntKind.wrap_u64,Int.emod_eq_of_lt (by omega) (by omega)]at this
     have a8:Hid (Calls prog 258 #[xu x] wr λe w'=>e=.returned (xi k)/\w'=wr):=HT;obtain⟨y,a4⟩:=qE (x &&& (x-1));rw[<-a4]at a1 HN;clear HT hk h2 h3 h4 h5 a3 a0 e0 a4;gi_wp2;refine⟨trivial,(callsIn_wide.2 a8.out).mono ?_⟩;rintro e w' ⟨rfl,a6⟩;rw[a6];clear a6 a8;gi_wp2;refine hR.mono ?_;rintro e W3 ⟨rfl,a7⟩;have a9:Hid (J (64*i+(k+1)) W3):=a7;clear a7 hR hy;gi_wp2_with (simp only[a1]);go_roundw;case rel=>exact⟨y,k+1,by first|rfl|rw[a1],HN.1,by omega,a9.out⟩
     case measure=>have:=HN.2;simp[intOf,a1];omega
  .obtain rfl:i=4:=by omega
   gi_wp2;go_end0;exact⟨⟨_,rfl⟩,a2⟩
theorem yH5 {g:Operand} {ps:Array Tmp} {assign body:Code} {Q:Exit->Act->World->Prop} {a:Act} (h1:2<=n) (S:PS)
  (hg:a.eval g=.func (.func 246) #[psV S] #[]) (hps:ps.size=1) (I:Nat->World->Prop) (hI:OwnFrom w.heap.size I) (hIt:∀k W,I k W->TabD W)
  (hIs:∀k k' W,I k W->k<=k'->(∀j,k<=j->j<k'->S j=false)->I k' W) (h0:I 0 w) (a₁:Nat->Act)
  (hassign:∀(l x:Nat) (W:World) (K:Act->World->Prop),K (a₁ x) W->assign.wpIn (Fence.wide.inRound l) (n-1-1) prog (Exit.then K (λ_ _ _=>False)) {tmps:=(ps.zip #[.int .i64 (x:Int)]).foldl (λt (p,v)=>t.setIfInBounds p v) a.tmps,defers:= []} W)
  (hbody:∀(l k x:Nat) (W:World),I k W->k<=x->x<256->S x=true->(∀j,k<=j->j<x->S j=false)->body.wpIn (Fence.wide.inRound l) (n-1-1) prog (λe _ W'=>e=.normal/\KeepsFrom w W W'/\I (x+1) W') (a₁ x) W)
  (hdone:∀(D:Nat) (W:World),w.heap.size<=D->I 256 W->W.heap[D]?=some (.deferred (some []))->Q .normal {a with defers:={target:=.collected D,args:=#[]}::a.defers} W):
  (Code.rangeFunc g ps assign body).wpIn Fence.wide n prog Q a w:=by
 refine wpIn_rangeFunc ?_;intro fn aa;obtain⟨rec,a0⟩:∃rec:LoopState->Option Code->Loop,rec=λst pe=>{state:=st,pending:=pe,fn,tmps:=a.tmps,params:=ps,assign,body,defers:=w.heap.size}:=⟨_,rfl⟩;obtain⟨W1,a2⟩:∃W1,(w.alloc (.deferred (some []))).alloc (.loop (rec .ready none))=W1:=⟨_,rfl⟩;have ac:W1.heap[w.heap.size+1]?=some (.loop (rec .ready none)):=by rw[<-a2];have:=World.alloc_heap_new (w.alloc (.deferred (some []))) (.loop (rec .ready none));rwa [World.size_alloc]at this
 have ad:W1.heap[w.heap.size]?=some (.deferred (some [])):=by rw[<-a2];exact(Below.heap_alloc _ _ _ (by simp)).trans (World.alloc_heap_new w _)
 have ae:I 0 W1:=by rw[<-a2];exact hI.alloc _ (hI.alloc _ h0)
 refine⟨w+1,[{target:=.collected w.heap.size,args:=#[]}],W1,{target:=.fn (.func 246) #[],args:=#[psV S,.func (.yield (w.heap.size+1)) #[] #[]]},W1,246,
  #[psV S,.func (.yield (w.heap.size+1)) #[] #[]],W1,?_,?_,λ_ _=>trivial,?_,λ_=>qo,?_⟩
 .rw[<-a2,a0];exact run_enterLoop_outer _ _ _ _ _
 .simp only[resolve,hg];simp[go_sem]
 .simp[invoke,go_sem]
 .have a4:∀(k:Nat) {A B:World} {row:Option Nat},(I k A/\A.heap[w.heap.size+1]?=some (.loop (rec .ready none))/\A.heap[w.heap.size]?=some (.deferred (some [])))->A.grownBy B none->(I k B/\B.heap[w.heap.size+1]?=some (.loop (rec .ready none))/\B.heap[w.heap.size]?=some (.deferred (some []))):=λk A B row h hgr=>
   ⟨hI k A B none h.1 hgr (λr e=>by cases e),(hgr.block _ (Array.getElem?_eq_some_iff.1 h.2.1).1 (by simp)).trans h.2.1,(hgr.block _ (Array.getElem?_eq_some_iff.1 h.2.2).1 (by simp)).trans h.2.2⟩
  refine(yWl S (w.heap.size+1) (n-1) qo (λk W=>I k W/\W.heap[w.heap.size+1]?=some (.loop (rec .ready none))/\W.heap[w.heap.size]?=some (.deferred (some []))) ?_ (λk k' W h q1 q2=>⟨hIs k k' W h.1 q1 q2,h.2⟩) (λk W h=>a4 k (row:=none) h ⟨rfl,rfl,rfl,Nat.le_refl _,λ_ _ _=>rfl⟩) (λk W o h=>a4 k (row:=none) h (World.grownBy_alloc W o none)) (λk W h=>hIt k W h.1) W1 ⟨ae,ac,ad⟩).mono ?_
  .rintro k x W ⟨hi,hl,hk⟩ a7 hx hS ab;have a6:=(Array.getElem?_eq_some_iff.1 hl).1;have hy:=run_yield (P:=prog) (args:=#[.int .i64 (x:Int)]) hl (by rw[a0];exact hps.symm);rw[a0]at hy;refine⟨fn,_,assign,body,hy,roundIn_of_wpIn aa (hassign _ x W _ ⟨_,run_beginRound hl (by rw[a0]),?_⟩)⟩;have hl2:(W.putObj (w+1) (.loop {rec .ready none with state:=.busy})).heap[w.heap.size+1]?=some (.loop {rec .ready none with state:=.busy}):=World.putObj_heap_same a6;have a8:(W.putObj (w+1) (.loop {rec .ready none with state:=.busy})).heap[w.heap.size]?=some (.deferred (some [])):=(World.putObj_heap_other qo).trans hk;refine wpIn_mono (hbody _ k x _ (hI.putObj _ hi qo hl rfl) a7 hx hS ab) ?_;rintro e a3 W3 ⟨rfl,a5,a9⟩;have a1:=a5.same _ _ qo hl2 rfl;have hr:=run_endRound (P:=prog) none a1;rw[a0]at hr a1;refine⟨_,_,hr,rfl,hI.putObj _ a9 qo a1 rfl,?_,(World.putObj_heap_other qo).trans (a5.same _ _ qr a8 rfl)⟩;rw[a0];exact World.putObj_heap_same (Array.getElem?_eq_some_iff.1 a1).1
  .rintro e W2 ⟨⟨v,rfl⟩,hi,hl,hk⟩;exact⟨none,_,by have:=run_endLoop (P:=prog) hl (by rw[a0];simp);rw[a0]at this;exact this,hdone _ _ qr (hI.putObj _ hi qo hl rfl) ((World.putObj_heap_other qo).trans hk)⟩
end Go.Proofs.YtnnagkfoiganfaaGreatDoor
