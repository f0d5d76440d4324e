import Derived.Test.YtnnagkfoiganfaaGreatDoorFkAO
import Derived.Test.YtnnagkfoiganfaaGreatDoorFkAP
namespace Go.Proofs.YtnnagkfoiganfaaGreatDoor
open Go.ChangeShapes Go.WideShapes Go.ChangeAt Go.RowKit Go.Deep XD XI XU XG XP XK XW XT XF XE XH XY _root_.List _root_.Nat Go.Proofs.Tryz
open _root_.List renaming take_add_one->AB,take_length->AC,length_take->AD
open _root_.Nat renaming zero_le->AA,le_trans->AE
set_option linter.unusedVariables false
set_option linter.unusedSimpArgs false
set_option maxRecDepth 100000
set_option maxHeartbeats 64000000
variable {N g cap i O:Nat} {l l' L0 la lb es:List Ent} {wr:Ww} {p:Prop} {b:Bool} {bs:List Bool}
theorem yHw:∀(a L:List Ent),(a.foldl into L).length<=L.length+a.length
 | [],L=>Nat.le_refl _
 |e::a,L=>by
  have h1:=yHw a (into L e)
  have h2:=yK4 L e
  show(a.foldl into (into L e)).length<=_
  simp only[List.length_cons]
  omega
structure UnJ(w:Ww)(l L0:List Ent)(wr:Ww)(i m g cp:Nat):Prop where
 X:m=((l.take i).foldl into L0).length
 Z:OwnE wr w g cp ((l.take i).foldl into L0)
 bel:Below w w wr
variable {w:Ww}
theorem UnJ.next{m cp:Nat}(h:UnJ w l L0 wr N m g cp)(hN:N=l.length):UnJ w l' (l.foldl into L0) wr 0 m g cp:=by
 have h1:l.take N=l:=by rw[hN,AC]
 have h2:=h.X;have h3:=h.Z;rw[h1]at h2 h3;exact⟨h2,h3,h.bel⟩
theorem unQ{b o:Nat}(hC:CSl w b o cap l)(hN:N=l.length)(hk:∀x∈l,x.f=0)(hl:L0.length+l.length<=200000):Hid (∀i m g cp wr,i<N->UnJ w l L0 wr i m g cp->∃c:Ent,(xk wr b (o+i*5) c.j/\xk wr b (o+i*5+1) c.E/\xk wr b (o+i*5+2) c.C/\xk wr b (o+i*5+3) (xu c.ts)/\xk wr b (o+i*5+4) c.val)/\m<=1048576/\
  Hid (∀wx,(xf 97 #[.agg #[c.j,c.E,c.C,xu c.ts,c.val]] wx (.agg #[c.j,c.E,c.C,xu c.ts,xi c.f,c.val]):Prop))/\
  Hid (∀w2,Below wr wr w2->Calls prog 135 #[xg g m cp,.agg #[c.j,c.E,c.C,xu c.ts,xi c.f,c.val]] w2 λr w'=>∃m' g' cp',r=.returned (xg g' m' cp')/\Hid (UnJ w l L0 w' (i+1) m' g' cp'))):=by
 intro i m g cp wr hi h;obtain⟨c,hc⟩:∃c,l[i]?=some c:=qg qo;have hm:=h.X;have:=yHw (l.take i) L0;rw[AD]at this;have hP:putE c=c:=by have:=hk c (List.mem_of_getElem? hc);cases c;simp only[putE]at*;subst this;rfl
 have hS:(l.take (i+1)).foldl into L0=into ((l.take i).foldl into L0) c:=by rw[AB,hc,Option.toList_some,List.foldl_append];rfl
 refine⟨c,(hC.k h.bel).U i c hc,qo,λwx=>by have:=yKc c wx;rwa [hP]at this,λw2 hb=>?_⟩;have hO:=h.Z.k hb h.Z.lt.2;rw[hm];apply (yQ5 g 0 cp _ c w2 hO.at hO.lt.2 qo).mono;rintro r w' ⟨g',cp',rfl,hO',hb'⟩;refine⟨_,g',cp',rfl,by rw[hS],?_,h.bel.trans ((hb.trans (hb'.mono hb.size)).mono h.bel.size)⟩;rw[hS];exact⟨hO'.1,hO'.2.imp_right fun⟨g9,c9,cur,hv,q1,q2⟩=>⟨g9,c9,cur,hv,AE (AE h.bel.size hb.size) q1,q2⟩⟩
theorem zUn (h:p:=by
 have⟨c,⟨c0,c1,c2,c3,c4⟩,hm,HP,HI⟩:=Q i m g cp wr hlt HJ;go_wp2_with fail;apply (HP.out _).mono;rintro e w2 ⟨rfl,hb2⟩;have HI:=hidO (HI w2 hb2);clear c0 c1 c2 c3 c4 hb2;go_wp2_with fail;apply HI.mono;rintro e w3 ⟨m',g',cp',rfl,HJ2⟩;clear HI HP;go_wp2_with fail;go_roundw;case rel=>exact⟨i+1,g',cp',m',qo,by go_num,rfl,HJ2⟩
 case measure=>go_light;simp[intOf];omega):p:=h
theorem yQv{ba oa ca bb ob cb:Nat}(ha:CSl w ba oa ca la)(hb:CSl w bb ob cb lb)(hka:∀x∈la,x.f=0)(hkb:∀x∈lb,x.f=0)(hla:la.length<=100000)(hlb:lb.length<=100000):Calls prog 161 #[(xy ba oa la.length ca),(xy bb ob lb.length cb)] w λe w'=>∃g cp,e=.returned (xg g (uniM la lb).length cp)/\OwnC w' w g cp (uniM la lb)/\Below w w w':=by
 obtain⟨NA,hNA⟩:∃N,N=la.length:=⟨_,rfl⟩;obtain⟨NB,hNB⟩:∃N,N=lb.length:=⟨_,rfl⟩;have HN:=qH2 hNA hNB;have HNA:=qH1 hNA;have HNB:=qH1 hNB;have HR:=qH2 (λwx hx=>ha.k hx:(∀wx,Below w w wx->CSl wx ba oa ca la)) (λwx hx=>hb.k hx:(∀wx,Below w w wx->CSl wx bb ob cb lb));have QB:=unQ (L0:= []) hb HNB hkb (by simp;omega);have QA:=unQ (L0:=lb.foldl into []) ha HNA hka (by have:=yHw lb [];simp at this;omega);have HO0:Hid (UnJ w lb [] (xw w #[] 165) 0 0 w 0):=⟨rfl,World.ownsRow_made w #[] 0 qr (AA _) (by simp),qB⟩;have HPre:Hid ((lb.foldl into []).length<=100000):=by show _<=_;have:=yHw lb [];simp only[List.length_nil]at this;omega
 have⟨U,hU⟩:=qE (uniM la lb);have HU:Hid (U=uniM la lb):=hU;rw[<-hU];clear hU;rw[<-hNA,<-hNB];rw[<-hNA]at hla;rw[<-hNB]at hlb;clear ha hb hka hkb hNA hNB;go_enter func161,ntmps161;go_wp2_with fail;go_loopw[5,6] (λo iv wr=>∃(i g cp m:Nat),i<=NB/\iv=(xi i)/\o=(xg g m cp)/\Hid (UnJ w lb [] wr i m g cp)) (λ_ iv _=>NB-(intOf iv).toNat);case atStart=>exact⟨0,w,0,0,AA _,rfl,rfl,HO0⟩
 case round=>
  obtain⟨i,g,cp,m,hiN,rfl,rfl,HJ⟩:=hrel;by_cases hlt:i<NB
  .have zi:(i:Int)<(NB:Int):=qo
   have Q:=QB;exact zUn
  .obtain rfl:i=NB:=qo
   have zi:¬(i:Int)<(i:Int):=qo
   have HJ1:=hidO (HJ.next (l':=la) HNB);clear HJ;go_wp2_with fail;go_loopw[5,7] (λo iv wr=>∃(i g cp m:Nat),i<=NA/\iv=(xi i)/\o=(xg g m cp)/\Hid (UnJ w la (lb.foldl into []) wr i m g cp)) (λ_ iv _=>NA-(intOf iv).toNat);case atStart=>exact⟨0,g,cp,m,AA _,rfl,rfl,HJ1⟩
   case round=>
    obtain⟨i,g,cp,m,hiN,rfl,rfl,HJ⟩:=hrel;by_cases hlt:i<NA
    .have zi:(i:Int)<(NA:Int):=qo
     have Q:=QA;exact zUn
    .obtain rfl:i=NA:=qo
     have zi:¬(i:Int)<(i:Int):=qo
     have hUl:m<=200000:=by rw[HJ.X];have:=yHw (la.take i) (lb.foldl into []);rw[AD]at this;have h0:=HPre.out;omega
     obtain⟨ob5,hob5⟩:∃x,x=wr:=⟨_,rfl⟩;have HJ2:Hid (m=U.length/\OwnE wr w g cp U/\Below w w wr):=by have:=HJ.next (l':= []) HNA;rw[HU];exact⟨this.X,this.Z,this.bel⟩
     clear HJ HJ1;have HC0:Hid (OwnC (xw wr #[] 70) w wr 0 []/\Below wr wr (xw wr #[] 70)):=⟨(yGa wr).mono HJ2.2.2.size,qB⟩;go_wp2_with fail;go_loopw[8,9] (λo iv wx=>∃(i g5 cp5:Nat),i<=m/\iv=(xi i)/\o=(xg g5 i cp5)/\Hid (i=(U.take i).length/\OwnC wx w g5 cp5 (U.take i)/\OwnE wx w g cp U/\Below w w wx)) (λ_ iv _=>m-(intOf iv).toNat);case atStart=>exact⟨0,wr,0,AA _,rfl,rfl,rfl,HC0.1,HJ2.2.1.k HC0.2 HJ2.2.1.lt.2,HJ2.2.2.trans (HC0.2.mono HJ2.2.2.size)⟩
     case round=>
      obtain⟨i,g5,cp5,him,rfl,rfl,HQ⟩:=hrel;by_cases hlt2:i<m
      .have zi2:(i:Int)<(m:Int):=qo
       obtain⟨x,hx⟩:∃x,U[i]?=some x:=qg (by have:=HJ2.1;omega);have HX:Hid (U.take (i+1)=U.take i++ [x]):=by show _=_;rw[AB,hx];rfl
       have⟨c0,c1,c2,c3,c4,c5⟩:=HQ.2.2.1.at i x hx;simp only[Nat.zero_add]at c0 c1 c2 c3 c4 c5;have hgl:=HQ.2.2.1.lt;have hg5:=HQ.2.1.lt;have hbs:=HQ.2.2.2.size;have hne:¬g=g5:=λq=>yAc HQ.2.1 HQ.2.2.1 qj g5 rfl (by rw[<-q];rfl);have HSc:Hid (∀wx,(xf 136 #[.agg #[x.j,x.E,x.C,xu x.ts,xi x.f,x.val]] wx x.c:Prop)):=λwx=>yIv x wx;clear hx;go_wp2_with fail;apply (HSc.out _).mono;rintro e w3 ⟨rfl,hb3⟩;have hs3:=hb3.size;have HM3:Hid (OwnC w3 w g5 cp5 (U.take i)/\OwnE w3 w g cp U/\Below w w w3):=⟨HQ.2.1.k hb3 hg5.2,HQ.2.2.1.k hb3 hgl.2,HQ.2.2.2.trans (hb3.mono hbs)⟩;have HTM:Hid (i=(U.take i).length):=HQ.1;clear c0 c1 c2 c3 c4 c5 hb3;go_wp2_with (at_builtin;refine wpA rfl (apK yY rfl w (U.take i) [x] rfl rfl HTM rfl ?hO ?hc (lN ?hl) ?hb ?_));case hO=>exact HM3.1.k (qB) qo
       case hc=>exact yIn w3 x
       case hl=>rw[<-HTM];omega
       case hb=>simp;omega
       intro g' cp' w' hO' hgr _;have HN2:Hid (i+1=(U.take (i+1)).length/\OwnC w' w g' cp' (U.take (i+1))/\OwnE w' w g cp U/\Below w w w'):=by have hc':Chg (λk=>k=g5) (xw w3 #[x.j,x.E,x.C,xu x.ts,x.val] 70) w':=Chg.M hgr (λk q=>by cases q;rfl);rw[HX];refine⟨by rw[List.length_append,<-HTM];rfl,hO',?_,(HM3.2.2.alloc HM3.2.2.size _).grown hgr (by simp;omega) (λj hj=>by cases hj;omega)⟩;exact yAh (HM3.2.1.k (qB) qo) hc' (λk q=>by simp[Value.ownBlock]at q;subst q;exact hne)
       clear hO' hgr;go_wp2_with fail;go_roundw;case rel=>exact⟨i+1,g',cp',qo,by go_num,rfl,HN2⟩
       case measure=>go_light;simp[intOf];omega
      .obtain rfl:i=m:=qo
       have zi2:¬(i:Int)<(i:Int):=qo
       have HT:Hid (U.take i=U):=by show U.take i=U;rw[HJ2.1,AC]
       go_wp2_with fail;go_ret;refine⟨g5,cp5,?_,?_,HQ.2.2.2⟩
       .rw[<-HJ2.1];rfl
       .have:=HQ.2.1;rw[HT]at this;exact this
theorem yJr(h:Sub es es)(p:Nat×Nat):Sub (segE es p) (segE es p):=by have hs:(segE es p).Sublist es:=(List.drop_sublist _ _).trans (List.take_sublist _ _);exact⟨h.ord.sublist hs,λx hx=>⟨x,hx,yB1 x⟩,λx hx=>h.f x (hs.subset hx),λx hx=>h.ok x (hs.subset hx)⟩
noncomputable def meanAll(t:CT)(es:List Ent):List Ent:=(allC es 0).flatMap λp=>mean t (segE es p)
abbrev blF(b:Bool):List Vv:= [.bool b]
abbrev yIq(w:Ww)(O g cap:Nat)(bs:List Bool):Prop:=OwnG blF 1 4 w O g cap bs
theorem yT8(b:Bool):(blF b).length=1:=rfl
theorem Tryz.infoBl:(prog.info? 4).map (λi=>(i.zero,i.size,i.bytes))=some (some (.bool false),1,1):=by kernel_rfl
theorem yIq.get(h:yIq w O g cap bs)(hi:bs[i]?=some b):(xk w g (0+i) b:Prop):=by have:=h.z yT8 hi 0 (by decide);simpa using this
structure ByG where
 w:Ww
 bs:List Bk
 m:Bk
 nb:Nat
 ub:Nat
 uo:Nat
 uc:Nat
 N:Nat
 bI:Nat
 oI:Nat
 cI:Nat
 b:Nat
 off:Nat
 cap:Nat
 es:List Ent
 M:Nat
 A:List (Nat×Nat)
def RunM(bs:List Bk)(m:Bk)(es:List Ent)(hints:Bool)(ok:Bool)(out:List Ent)(n:Nat):Prop:=
 (¬(yEk bs m/\yBp es)/\ok=false/\out= []/\n=0)\/((yEk bs m/\yBp es)/\ok=true/\((¬bs= []/\RwsR m.vw (bs.map Bk.vw) ((allC es 0).map (segE es)) out/\n=es.length)\/(bs= []/\MvR m.l hints es (List.replicate m.cnt.toNat newC) out n)))
def RunP(bs:List Bk)(m:Bk)(es:List Ent)(hints:Bool)(w:Ww)(e:Ending)(w':Ww):Prop:=
 ∃(ok:Bool)(a:Option Addr)(n c ops:Nat),e=.returned (.agg #[ok,.slice a n c,xi ops])/\Hid (∃out,n=out.length/\RunM bs m es hints ok out ops/\RowC w' w (.slice a n c) out/\Below w w w')
end Go.Proofs.YtnnagkfoiganfaaGreatDoor
