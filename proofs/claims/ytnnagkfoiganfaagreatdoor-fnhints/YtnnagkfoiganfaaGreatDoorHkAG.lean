import Derived.Test.YtnnagkfoiganfaaGreatDoorHkAB
import Derived.Test.YtnnagkfoiganfaaGreatDoorHkAC
namespace Go.Proofs.YtnnagkfoiganfaaGreatDoor
open Go.ChangeShapes Go.WideShapes Go.ChangeAt Go.RowKit Go.Deep XD XI XU XG XP XK XW XT XF XE XH _root_.List _root_.Nat XY Go.Proofs.Tryz
open _root_.Bool renaming and_eq_true->AA,or_eq_true->AC,eq_iff_iff->AE
open _root_.Go.World.ownsRow renaming frozenAt->AB
open _root_.Nat renaming le_refl->AH,zero_le->AI
open _root_.Option.some renaming inj->AD
open _root_.Prod.mk renaming injEq->AG
open _root_.Sum.inl renaming injEq->AF
set_option linter.unusedVariables false
set_option linter.unusedSimpArgs false
set_option maxRecDepth 100000
set_option maxHeartbeats 64000000
variable {i k K n N:Nat} {zs xs y:List U8} {c:U8} {A:List U8->Pat->Prop} {r:Ending} {w:Ww} {F:Nat->Nat->Bool} {q:Prop} {P Q:List U8->Prop} {b it:Bool}
def MaF(N:Nat)(F:Nat->Nat->Bool)(w:Ww)(r:Ending)(w':Ww):Prop:=∃g cp ρ γ f,r=.returned (slV g N cp)/\Hid (MatO w' w g cp N N ρ γ f/\∀i j,i<=j->j<N->f i j=F i j)/\Below w w w'
theorem yO8(n:Nat)(hn:n<=1000) w:Calls prog 239 #[xi n] w (MaF (n+1) (λi j=>i==j) w):=by
 go_enter func239,ntmps239;go_wp2_with fail;apply (yCu n hn w).mono;rintro r w1 ⟨g,cp,ρ,γ,rfl,HM,a1⟩;have a4:=HM.out.out.caps;go_wp2;go_loopw[4] (λiv wr=>∃(k:Nat)(f:Nat->Nat->Bool),k<=n+1/\iv=(xi k)/\Hid (MatO wr w g cp (n+1) (n+1) ρ γ f/\(∀i j,i<=j->j<n+1->f i j=(i==j && decide (i<k)))/\Below w w wr)) (λiv _=>n+1-(intOf iv).toNat);case atStart=>exact⟨0,_,AI _,rfl,HM.out,λi j _ _=>by simp,a1⟩
 case round=>
  obtain⟨k,f,hk,rfl,HJ⟩:=hrel;by_cases hlt:k<=n
  .have zk:(k:Int)<=(n:Int):=qo
   have a0:k<n+1:=qo
   have c0:=HJ.1.z a0;have c1:=(HJ.1.j k a0).z a0;have z1:wr.frozen? (xd (ρ k) k)=false:=AB (HJ.1.j k a0) _;have a3:=(HJ.1.j k a0).caps;have a2:Hid (MatO (xt wr (ρ k) k true) w g cp (n+1) (n+1) ρ γ (upd2 f k k true)/\(∀i j,i<=j->j<n+1->upd2 f k k true i j=(i==j && decide (i<k+1)))/\Below w w (xt wr (ρ k) k true)):=by
    refine⟨HJ.1.set a0 a0 true,λi j hij hj=>?_,yAc HJ.2.2 (HJ.1.j k a0).lt.1 _ _⟩;unfold upd2;by_cases e:i=k/\j=k
    .rw[iB e];simp[e.1,e.2]
    .rw[iA e,HJ.2.1 i j hij hj];exact zzU8
   have zr:(k:Int)<(((n+1:Nat)):Int):=qo
   refine zY ?_;exact⟨k+1,upd2 f k k true,qo,by go_num,a2.out⟩
  .obtain rfl:k=n+1:=qo
   have zk:¬(((n+1:Nat):Int))<=(n:Int):=qo
   go_wp2;go_ret;refine⟨g,cp,ρ,γ,f,rfl,⟨HJ.1,λi j hij hj=>?_⟩,HJ.2.2⟩;rw[HJ.2.1 i j hij hj];have:i<n+1:=qo
   simp[this]
def orF(fa fb:Nat->Nat->Bool)(k j:Nat):Nat->Nat->Bool:=λx y=>(fa x y || fb x y) && (decide (x<k) || (x==k && decide (y<j)))
theorem zOr {p:Prop} (h:p:=by
 refine wpR 22 hSd ?_;refine ja 0 hSd ?_;iterate 20 refine jb hSd ?_
 refine kO 21 hSd ?_;refine kL 22 ?_;refine qD ?_;unfold SW at hSd;refine zY ?_;exact⟨j+1,qo,qo,by go_num,_,HJ2.out _ rfl⟩):p:=h
theorem yO6(n ga ca gb cb:Nat)(ρa γa ρb γb:Nat->Nat)(fa fb:Nat->Nat->Bool) w (hn:n<=1000) (ha:MatR w ga (n+1) ρa γa fa) (hb:MatR w gb (n+1) ρb γb fb) (hca:n+1<=ca) (hcb:n+1<=cb):Calls prog 224 #[slV ga (n+1) ca,slV gb (n+1) cb] w (MaF (n+1) (λi j=>fa i j || fb i j) w):=by
 have HR:=qH2 ha hb;go_enter func224,ntmps224;go_wp2_with fail;apply (yCu n hn w).mono;rintro r w1 ⟨g,cp,ρ,γ,rfl,HM,ac⟩;have ag:=HM.out.out.caps;go_wp2;go_loopw[6] (λiv wr=>∃(k:Nat)(f:Nat->Nat->Bool),k<=n+1/\iv=(xi k)/\Hid (MatO wr w g cp (n+1) (n+1) ρ γ f/\(∀i j,i<=j->j<n+1->f i j=orF fa fb k 0 i j)/\Below w w wr)) (λiv _=>n+1-(intOf iv).toNat);case atStart=>exact⟨0,_,AI _,rfl,HM.out,λi j _ _=>by simp[orF],ac⟩
 case round=>
  obtain⟨k,f0,hk,rfl,a4⟩:=hrel;have⟨Wr,ad⟩:=qW wr;subst ad;by_cases hlt:k<n+1
  .have zk:(k:Int)<((n+1:Nat):Int):=qo
   go_wp2;go_loopw[7] (λjv wr=>∃(j:Nat)(f:Nat->Nat->Bool),k<=j/\j<=n+1/\jv=(xi j)/\Hid (MatO wr w g cp (n+1) (n+1) ρ γ f/\(∀x y,x<=y->y<n+1->f x y=orF fa fb k j x y)/\Below w w wr)) (λjv _=>n+1-(intOf jv).toNat);case atStart=>exact⟨k,f0,AH _,qo,rfl,a4.1,λx y hxy hy=>by
    rw[a4.2.1 x y hxy hy]
    unfold orF
    congr 1
    rw[AE];simp only[AC,AA,decide_eq_true_eq,beq_iff_eq];omega,a4.2.2⟩
   case round=>
    obtain⟨j,f,af,hj,rfl,HJ⟩:=hrel;by_cases hlj:j<n+1
    .have zj:(j:Int)<((n+1:Nat):Int):=qo
     have a7:=HR.1.k HJ.2.2 qr;have a6:=HR.2.k HJ.2.2 qr;have c0:=HJ.1.z hlt;have c1:=(HJ.1.j k hlt).z hlj;have z1:wr.frozen? (xd (ρ k) j)=false:=AB (HJ.1.j k hlt) _;have ae:=(HJ.1.j k hlt).caps;have a0:=a7.out k hlt;have a1:=a7.j k j hlt hlj;have b0:=a6.out k hlt;have b1:=a6.j k j hlt hlj;have ah:=HR.1.cap k hlt;have hc2:=HR.2.cap k hlt;have HJ2:Hid (∀v:Bool,v=(fa k j || fb k j)->Hid (MatO (wr.setCell (xd (ρ k) j) v).drew w g cp (n+1) (n+1) ρ γ (upd2 f k j v)/\(∀x y,x<=y->y<n+1->upd2 f k j v x y=orF fa fb k (j+1) x y)/\Below w w (wr.setCell (xd (ρ k) j) v).drew)):=λv hv=>by
      refine⟨(HJ.1.set hlt hlj v).k ((Below.refl _ _).drew),λx y hxy hy=>?_,(yAc HJ.2.2 (HJ.1.j k hlt).lt.1 _ _).drew⟩;unfold upd2;by_cases e:x=k/\y=j
      .rw[iB e,hv];simp[orF,e.1,e.2]
      .rw[iA e,HJ.2.1 x y hxy hy];unfold orF;congr 1;exact zzU8
     obtain⟨aa,a9⟩:∃aa,fa k j=aa:=⟨_,rfl⟩;obtain⟨a2,a8⟩:∃a2,fb k j=a2:=⟨_,rfl⟩;rw[a9]at a1 HJ2;rw[a8]at b1 HJ2;clear a7 a6 a9 a8;have hSd:SW (λw':Ww=>xk w' g k (slV (ρ k) (n+1) (γ k))/\xk w' ga k (slV (ρa k) (n+1) (γa k))/\xk w' (ρa k) j aa/\xk w' gb k (slV (ρb k) (n+1) (γb k))/\xk w' (ρb k) j a2) wr.drew:=⟨c0,a0,a1,b0,b1⟩;go_upto_region 8 with fail;cases aa<;>exact zOr
    .obtain rfl:j=n+1:=qo
     have zj:¬((n+1:Nat):Int)<((n+1:Nat):Int):=qo
     have a5:Hid (MatO wr w g cp (n+1) (n+1) ρ γ f/\(∀x y,x<=y->y<n+1->f x y=orF fa fb (k+1) 0 x y)/\Below w w wr):=by refine⟨HJ.1,λx y hxy hy=>?_,HJ.2.2⟩;rw[HJ.2.1 x y hxy hy];unfold orF;congr 1;rw[AE];simp only[AC,AA,decide_eq_true_eq,beq_iff_eq];omega
     refine zY ?_;exact⟨k+1,f,qo,by go_num,a5.out⟩
  .obtain rfl:k=n+1:=qo
   have zk:¬((n+1:Nat):Int)<((n+1:Nat):Int):=qo
   go_wp2;go_ret;refine⟨g,cp,ρ,γ,f0,rfl,⟨a4.1,λi j hij hj=>?_⟩,a4.2.2⟩;rw[a4.2.1 i j hij hj];have:i<n+1:=qo
   simp[orF,this]
def thF(fa fb:Nat->Nat->Bool)(i j K:Nat):Bool:=(List.range K).any (λk=>decide (i<=k) && decide (k<=j) && fa i k && fb k j)
theorem ySq(fa fb:Nat->Nat->Bool)(i j k:Nat):thF fa fb i j (k+1)=(thF fa fb i j k || (decide (i<=k) && decide (k<=j) && fa i k && fb k j)):=by simp[thF,range_succ,any_append]
variable {fa fb:Nat->Nat->Bool} {j:Nat}
theorem yMd(h:¬i<=k\/¬k<=j\/fa i k=false):thF fa fb i j (k+1)=thF fa fb i j k:=by rw[ySq];rcases h with h|h|h<;>simp[h]
theorem yIx{i:Nat}:∀(k:Nat),k<=i->thF fa fb i j k=false
 |0,_=>rfl
 |k+1,h=>by rw[yMd (.inl qo),yIx k qo]
theorem xDc:thF fa fb i j K=true↔∃k,k<K/\i<=k/\k<=j/\fa i k=true/\fb k j=true:=by
 simp only[thF,any_eq_true,mem_range,AA,decide_eq_true_eq];constructor
 .rintro⟨k,h0,⟨⟨h1,h2⟩,h3⟩,h4⟩;exact⟨k,h0,h1,h2,h3,h4⟩
 .rintro⟨k,h0,h1,h2,h3,h4⟩;exact⟨k,h0,⟨⟨h1,h2⟩,h3⟩,h4⟩
def stF(fa fb:Nat->Nat->Bool)(N i k j x y:Nat):Bool:=if x<i then thF fa fb x y N else if x=i then thF fa fb i y (if y<j then k+1 else k)else false
theorem yRi(n ga ca gb cb:Nat)(ρa γa ρb γb:Nat->Nat)(fa fb:Nat->Nat->Bool) w (hn:n<=1000) (ha:MatR w ga (n+1) ρa γa fa) (hb:MatR w gb (n+1) ρb γb fb) (hca:n+1<=ca) (hcb:n+1<=cb):Calls prog 242 #[slV ga (n+1) ca,slV gb (n+1) cb] w (MaF (n+1) (λi j=>thF fa fb i j (n+1)) w):=by
 have HR:=qH2 ha hb;go_enter func242,ntmps242;go_wp2_with fail;apply (yCu n hn w).mono;rintro r w1 ⟨g,cp,ρ,γ,rfl,HM,ai⟩;have am:=HM.out.out.caps;go_wp2;go_loopw[6] (λiv wr=>∃(i:Nat)(f:Nat->Nat->Bool),i<=n+1/\iv=(xi i)/\Hid (MatO wr w g cp (n+1) (n+1) ρ γ f/\(∀x y,x<=y->y<n+1->f x y=stF fa fb (n+1) i 0 0 x y)/\Below w w wr)) (λiv _=>n+1-(intOf iv).toNat);case atStart=>exact⟨0,_,AI _,rfl,HM.out,λx y _ _=>by
  unfold stF
  rw[iA qo]
  split
  .rw[iA qo];rfl
  .rfl,ai⟩
 case round=>
  obtain⟨i,f0,hi,rfl,a6⟩:=hrel;have⟨Wr,ak⟩:=qE (wr:Ww);subst ak;by_cases hli:i<n+1
  .have zi:(i:Int)<((n+1:Nat):Int):=qo
   go_wp2;go_loopw[7] (λkv wr=>∃(k:Nat)(f:Nat->Nat->Bool),i<=k/\k<=n+1/\kv=(xi k)/\Hid (MatO wr w g cp (n+1) (n+1) ρ γ f/\(∀x y,x<=y->y<n+1->f x y=stF fa fb (n+1) i k 0 x y)/\Below w w wr)) (λkv _=>n+1-(intOf kv).toNat);case atStart=>exact⟨i,f0,AH _,qo,rfl,a6.1,λx y hxy hy=>by
    rw[a6.2.1 x y hxy hy]
    unfold stF
    split
    .rfl
    .split
     .rw[iA qo,iA qo,yIx 0 qo,yIx i qr]
     .rfl,a6.2.2⟩
   case round=>
    obtain⟨k,f1,ag,hk,rfl,a3⟩:=hrel;have⟨Ws,aj⟩:=qE (wr:Ww);subst aj;by_cases hlk:k<n+1
    .have zk:(k:Int)<((n+1:Nat):Int):=qo
     have a8:=HR.1.k a3.2.2 qr;have a0:=a8.out i hli;have a1:=a8.j i k hli hlk;have ah:=HR.1.cap i hli;obtain⟨ac,ab⟩:∃ac,fa i k=ac:=⟨_,rfl⟩;rw[ab]at a1;have ae:=qH1 ab;cases ac
     case false=>
      have a2:Hid (MatO Ws w g cp (n+1) (n+1) ρ γ f1/\(∀x y,x<=y->y<n+1->f1 x y=stF fa fb (n+1) i (k+1) 0 x y)/\Below w w Ws):=by
       refine⟨a3.1,λx y hxy hy=>?_,a3.2.2⟩;rw[a3.2.1 x y hxy hy];unfold stF;split
       .rfl
       .split
        .rw[iA qo,iA qo,yMd (.inr (.inr ae.out))]
        .rfl
      go_wp2;go_roundw;case rel=>first|exact⟨k+1,qo,qo,by go_num,f1,a2.out⟩|exact⟨k+1,qo,qo,qo,by go_num,f1,a2.out⟩|exact⟨k+1,f1,qo,qo,by go_num,a2.out⟩
      case measure=>simp[intOf];omega
     case true=>
     go_wp2_with fail;clear a0 a1 ah;go_loopw[8] (λjv wr=>∃(j:Nat)(f:Nat->Nat->Bool),k<=j/\j<=n+1/\jv=(xi j)/\Hid (MatO wr w g cp (n+1) (n+1) ρ γ f/\(∀x y,x<=y->y<n+1->f x y=stF fa fb (n+1) i k j x y)/\Below w w wr)) (λjv _=>n+1-(intOf jv).toNat);case atStart=>exact⟨k,f1,AH _,qo,rfl,a3.1,λx y hxy hy=>by
      rw[a3.2.1 x y hxy hy]
      unfold stF
      split
      .rfl
      .split
       .rw[iA qo]
        split
        .rw[yMd (.inr (.inl qo))]
        .rfl
       .rfl,a3.2.2⟩
     case round=>
      obtain⟨j,f,af,hj,rfl,HJ⟩:=hrel;by_cases hlj:j<n+1
      .have zj:(j:Int)<((n+1:Nat):Int):=qo
       have a7:=HR.2.k HJ.2.2 qr;have c0:=HJ.1.z hli;have c1:=(HJ.1.j i hli).z hlj;have z1:wr.frozen? (xd (ρ i) j)=false:=AB (HJ.1.j i hli) _;have al:=(HJ.1.j i hli).caps;have b0:=a7.out k hlk;have b1:=a7.j k j hlk hlj;have hc2:=HR.2.cap k hlk;have HJ2:Hid (∀v:Bool,v=(f i j || fb k j)->Hid (MatO (wr.setCell (xd (ρ i) j) v).drew w g cp (n+1) (n+1) ρ γ (upd2 f i j v)/\(∀x y,x<=y->y<n+1->upd2 f i j v x y=stF fa fb (n+1) i k (j+1) x y)/\Below w w (wr.setCell (xd (ρ i) j) v).drew)):=λv hv=>by
        refine⟨(HJ.1.set hli hlj v).k ((Below.refl _ _).drew),λx y hxy hy=>?_,(yAc HJ.2.2 (HJ.1.j i hli).lt.1 _ _).drew⟩;unfold upd2;by_cases e:x=i/\y=j
        .rw[iB e,hv,HJ.2.1 i j qo hlj,e.1,e.2];unfold stF;rw[iA qo,iB rfl,iA qo,iA qo,iB rfl,iB qo,ySq,ae.out];have h1:=ag;simp[h1,af]
        .rw[iA e,HJ.2.1 x y hxy hy];unfold stF;split
         .rfl
         .split
          .have h1:y≠j:=λq=>e ⟨by assumption,q⟩;by_cases h2:y<j
           .rw[iB h2,iB qo]
           .rw[iA h2,iA qo]
          .rfl
       obtain⟨ov,a9⟩:∃ov,f i j=ov:=⟨_,rfl⟩;obtain⟨a4,aa⟩:∃a4,fb k j=a4:=⟨_,rfl⟩;rw[a9]at c1 HJ2;rw[aa]at b1 HJ2;clear a7 a9 aa;have hSd:SW (λw':Ww=>xk w' g i (slV (ρ i) (n+1) (γ i))/\xk w' (ρ i) j ov/\xk w' gb k (slV (ρb k) (n+1) (γb k))/\xk w' (ρb k) j a4) wr.drew:=⟨c0,c1,b0,b1⟩;go_upto_region 12 with fail;cases ov<;>exact zOr
      .obtain rfl:j=n+1:=qo
       have zj:¬((n+1:Nat):Int)<((n+1:Nat):Int):=qo
       have a2:Hid (MatO wr w g cp (n+1) (n+1) ρ γ f/\(∀x y,x<=y->y<n+1->f x y=stF fa fb (n+1) i (k+1) 0 x y)/\Below w w wr):=by
        refine⟨HJ.1,λx y hxy hy=>?_,HJ.2.2⟩;rw[HJ.2.1 x y hxy hy];unfold stF;split
        .rfl
        .split
         .first|rw[iB hy,iA qo]|rw[iA qo]
         .rfl
       refine zX ?_;first|exact⟨k+1,qo,qo,by go_num,f,a2.out⟩|exact⟨k+1,qo,qo,qo,by go_num,f,a2.out⟩|exact⟨k+1,f,qo,qo,by go_num,a2.out⟩
    .obtain rfl:k=n+1:=qo
     have zk:¬((n+1:Nat):Int)<((n+1:Nat):Int):=qo
     have a2:Hid (MatO Ws w g cp (n+1) (n+1) ρ γ f1/\(∀x y,x<=y->y<n+1->f1 x y=stF fa fb (n+1) (i+1) 0 0 x y)/\Below w w Ws):=by
      refine⟨a3.1,λx y hxy hy=>?_,a3.2.2⟩;rw[a3.2.1 x y hxy hy];unfold stF;by_cases h1:x<i
      .rw[iB h1,iB qo]
      .by_cases h2:x=i
       .rw[iA h1,iB h2,iA qo,iB qo,h2]
       .rw[iA h1,iA h2,iA qo];split
        .rw[iA qo,yIx 0 qo]
        .rfl
     refine zX ?_;first|exact⟨i+1,f1,qo,by go_num,a2.out⟩|exact⟨i+1,qo,by go_num,f1,a2.out⟩
  .obtain rfl:i=n+1:=qo
   have zi:¬((n+1:Nat):Int)<((n+1:Nat):Int):=qo
   go_wp2_with fail;go_ret;refine⟨g,cp,ρ,γ,f0,rfl,⟨a6.1,λx y hxy hy=>?_⟩,a6.2.2⟩;rw[a6.2.1 x y hxy hy];unfold stF;rw[iB qo]
variable {m:Nat}
theorem yCk{p:List U8}(h:cut p j m=c::zs)(hm:m<=p.length):p[j]?=some c/\cut p (j+1) m=zs/\j<m:=by exact xG
theorem yR0{p:List U8}(h:cut p j m=xs++zs)(hm:m<=p.length):cut p j (j+xs.length)=xs/\cut p (j+xs.length) m=zs/\j+xs.length<=max j m:=by
 have hl:=congrArg List.length h;rw[yAx hm,length_append]at hl;by_cases hjm:j<=m
 .exact xF6
 .have hx:xs= []:=length_eq_zero_iff.1 qo;subst hx;refine⟨by simp[yDm],by simpa using h,by simp;omega⟩
theorem yZ2(h:TokG A xs)(hA:∀ys t,A ys t->ys≠ []):xs= []\/(∃c zs,xs=c::zs/\(c=124\/isOp c)/\TokG A zs)\/(∃ys zs t,xs=ys++zs/\A ys t/\TokG A zs):=by
 cases h with
 |nil=>exact .inl rfl
 |sign hc h=>exact .inr (.inl ⟨_,_,rfl,hc,h⟩)
 |atom ha h=>exact .inr (.inr ⟨_,_,_,rfl,ha,h⟩)
def EndC(p:Ba)(n:Nat):Prop:=∀(i k:Nat)(t:Pat)(w:Ww),yAn n (cut (sb p) i k) t->k<=p.size->(xf 207 #[p,xi i] w (xi k):Prop)
theorem xHw{p:Ba}(hp:p.size<=200)(H:EndC p n):EndC p (n+1):=by
 intro i k t w hA hk;have a1:k<=(sb p).length:=by rw[yAe];exact hk
 have⟨c,ys,hc,_⟩:=hA.first;have⟨ae,_,aH⟩:=yCk hc a1;obtain⟨hi,gi⟩:=yAw ae;have zi:(i:Int)<(p.size:Int):=qo
 have ar:=yAx (p:=sb p) (i:=i) a1;have HP:Hid ((sb p)[i]?=some c/\(cut (sb p) i k).length=k-i):=⟨ae,ar⟩;clear hc ae ar;have one:∀d,¬d=92->¬d=91->¬d=40->c=d->k=i+1->(xf 207 #[p,xi i] w (xi k):Prop):=λd h92 h91 h40 a0 a2=>by
  subst a0 a2;have aN:((c.toNat:Int)==92)=false:=iC.2 (yA7 (c:=92) h92);have aO:((c.toNat:Int)==91)=false:=iC.2 (yA7 (c:=91) h91);have aQ:((c.toNat:Int) != 40)=true:=by have:=yA7 (c:=40) h40;simpa using this
  exact xFa
 have az:=hA;rcases hA with⟨d,h1,hs,_⟩|⟨h1,_⟩|⟨d,h1,_⟩|⟨zs,os,h1,hT,_⟩|⟨q,j,m,f,h1,h2,h3,_⟩
 .have a2:k=i+1:=by have:=HP.2;rw[h1]at this;simp at this;omega
  have a0:c=d:=by have:=(yCk h1 a1).1;rw[HP.1]at this;exact AD this
  exact one d (λq=>hs (.inr (.inr (.inr (.inr q))))) (λq=>hs (.inr (.inr (.inl q)))) (λq=>hs (.inr (.inl q))) a0 a2
 .have a2:k=i+1:=by have:=HP.2;rw[h1]at this;simp at this;omega
  have a0:c=46:=by have:=(yCk h1 a1).1;rw[HP.1]at this;exact AD this
  exact one 46 qj qj qj a0 a2
 .have a2:k=i+2:=by have:=HP.2;rw[h1]at this;simp at this;omega
  have a0:c=92:=by have:=(yCk h1 a1).1;rw[HP.1]at this;exact AD this
  subst a0 a2;clear one;exact xFa
 .obtain⟨af,ao,_⟩:=yCk (zs:=zs++ [41]) (by simpa using h1) a1;have aK:c=40:=by rw[HP.1]at af;exact AD af
  subst aK;obtain⟨ab,aa,an⟩:=yR0 ao a1;obtain⟨e,he⟩:=qE (i+1+zs.length);rw[<-he]at ab aa an;obtain⟨aA,am,aX⟩:=yCk aa a1;have a2:k=e+1:=by have h3:=yAx (p:=sb p) (i:=e+1) a1;rw[am]at h3;simp at h3;omega
  obtain⟨aW,ge⟩:=yAw aA;have HT:Hid (TokG (yAn n) (cut (sb p) (i+1) e)):=by show TokG (yAn n) (cut (sb p) (i+1) e);rw[ab];exact hT.tok
  have aI:i+1<=e:=qo
  have HK:=qH1 a2;have HH:Hid (EndC p n):=H;clear one h1 hT az ao ab aa an am aA af he a2 H;go_enter func207,ntmps207;go_wp2;go_loopw[7] (λjv wr=>∃(j:Nat),jv=(xi j)/\i+1<=j/\j<=e/\TokG (yAn n) (cut (sb p) j e)/\Below w w wr) (λjv _=>e-(intOf jv).toNat);case atStart=>exact⟨i+1,by go_num,AH _,aI,HT.out,Below.refl _ _⟩
  case round=>
   obtain⟨j,rfl,aV,aU,ay,hb⟩:=hrel;have ai:Hid (TokG (yAn n) (cut (sb p) j e)):=ay;have hs:=hb.size;clear ay HT;have ag:e<=(sb p).length:=by rw[yAe];omega
   have aS:j<p.size:=qo
   have zj:(j:Int)<(p.size:Int):=qo
   by_cases hje:j=e
   .subst hje;go_wp2;go_ret;exact⟨by rw[HK.out];rfl,hb⟩
   .have aG:=yZ2 ai.out (λys t q=>by obtain⟨c,zs,h,_⟩:=q.first;rw[h];simp);rcases aG with h0|⟨c',aC,h0,a8,a7⟩|⟨a3,aC,t',h0,ah,a7⟩
    .have h3:=yAx (p:=sb p) (i:=j) ag;rw[h0]at h3;simp at h3;omega
    .obtain⟨a5,av,aR⟩:=yCk h0 ag;obtain⟨_,gj⟩:=yAw a5;have HN:Hid (TokG (yAn n) (cut (sb p) (j+1) e)):=by show TokG (yAn n) (cut (sb p) (j+1) e);rw[av];exact a7
     have a9:((c'.toNat:Int) != 41)=true:=by
      have h5:¬c'=41:=λq=>by subst q;rcases a8 with q|q|q|q<;>exact absurd q qj
      have:=yA7 (c:=41) h5;simpa using this
     clear a5 av h0 a7 ai;by_cases h124:c'=124
     .subst h124;clear a8;exact xBs
     .have aD:((c'.toNat:Int)==124)=false:=iC.2 (yA7 (c:=124) h124);have aq:isOp c':=a8.elim (λq=>absurd q h124) (λq=>q);have aj:Hid (Calls prog 142 #[.int .u8 (c'.toNat:Int)] wr λe w'=>e=.returned true/\w'=wr):=by have:=yBd c' wr;rw[decide_eq_true aq]at this;exact this
      clear a8 aq;go_wp2_with fail;refine aj.mono ?_;rintro e' w5 ⟨rfl,a4⟩;rw[a4];clear a4;exact xBs
    .obtain⟨ad,hy2,aF⟩:=yR0 h0 ag;obtain⟨c',yt,ac,a9,al,ak⟩:=ah.first;have aE:0<a3.length:=by rw[ac];simp
     have au:j+a3.length<=e:=qo
     obtain⟨a5,_,_⟩:=yCk (c:=c') (zs:=yt) (by rw[ad];exact ac) (by rw[yAe];omega);obtain⟨_,gj⟩:=yAw a5;have aP:((c'.toNat:Int) != 41)=true:=by have:=yA7 (c:=41) a9;simpa using this
     have aD:((c'.toNat:Int)==124)=false:=iC.2 (yA7 (c:=124) al);have aj:Hid (Calls prog 142 #[.int .u8 (c'.toNat:Int)] wr λe w'=>e=.returned false/\w'=wr):=by have:=yBd c' wr;rw[decide_eq_false ak]at this;exact this
     have HN:Hid (TokG (yAn n) (cut (sb p) (j+a3.length) e)):=by show TokG (yAn n) (cut (sb p) (j+a3.length) e);rw[hy2];exact a7
     obtain⟨m,hm⟩:=qE (j+a3.length);have aM:Hid ((xf 207 #[p,xi j] wr (xi m):Prop)):=by rw[hm];exact HH.out j (j+a3.length) t' wr (by rw[ad];exact ah) qo
     rw[<-hm]at HN au;have aT:j<m:=qo
     clear h0 a7 ai ah ad hy2 aF ac a5 a9 al ak hm aE;go_wp2_with fail;refine aj.mono ?_;rintro e' w5 ⟨rfl,a4⟩;rw[a4];clear a4;go_wp2_with fail;refine aM.mono ?_;rintro e' w6 ⟨rfl,aw⟩;have aL:=hb.trans (aw.mono hs);clear aw;refine zY ?_;exact⟨m,rfl,qo,au,HN.out,aL⟩
 .have a0:=yL0 h1 h2 h3 a1 aH;have aJ:c=91:=by have:=a0.1;rw[HP.1]at this;exact AD this
  subst aJ;have aB:=qH1 a0.2;clear one h1 h2 h3 a0 az;go_enter func207,ntmps207;go_wp2_with fail;refine(yIf p i w hp hi).mono ?_;rintro e w4 ⟨hP,ax⟩;rcases hP with⟨f',k',a6,rfl⟩|⟨c4,k',a6,rfl⟩;case inr=>rw[aB.out]at a6;cases a6
  obtain⟨rfl,rfl⟩:f=f'/\k=k':=by rw[aB.out]at a6;simpa using a6
  go_wp2;go_ret;exact⟨rfl,ax.trans ((Below.refl _ _).alloc ax.size _)⟩
theorem yJ5{p:Ba}(hp:p.size<=200):∀n,EndC p n
 |0=>λi k t w h=>h.elim
 |n+1=>xHw hp (yJ5 hp n)
def plK(fa:Nat->Nat->Bool):Nat->Nat->Nat->Bool
 |0=>fa
 |K+1=>λi j=>plK fa K i j || (decide (i<=K) && decide (K<=j) && plK fa K i K && plK fa K K j)
def MaG(N:Nat)(F:Nat->Nat->Bool)(w:Ww)(r:Ending)(w':Ww):Prop:=∃g cp ρ γ f,r=.returned (slV g N cp)/\N<=cp/\Hid (MatR w' g N ρ γ f/\∀i j,i<=j->j<N->f i j=F i j)/\Below w w w'
theorem MaF.g{w':Ww}(h:MaF N F w r w'):MaG N F w r w':=by have⟨g,cp,ρ,γ,f,h1,h2,h3⟩:=h;exact⟨g,cp,ρ,γ,f,h1,h2.out.1.out.caps.1,⟨h2.out.1.read,h2.out.2⟩,h3⟩
def viaF(fo:Nat->Nat->Bool)(k:Nat):Nat->Nat->Bool:=λx y=>decide (x<=k) && decide (k<=y) && fo x k && fo k y
variable {p:Prop}
theorem zPe (h:p:=by
 refine qO 40 rfl λK hK=>?_;go_simp;refine hK.out _ _ (.inr hSd) (jS ?_);clear hK;refine qO 41 rfl λK hK=>?_;go_simp;refine hK.out _ _ (.inl rfl) (jS ?_);clear hK;refine qD ?_;obtain⟨v,hv⟩:=qE (fo i j || viaF fo k i j);have HJ3:=HJ2.out v hv;rw[HV.1]at hv;unfold viaF at hv;rw[HV.2.1,HV.2.2]at hv;(try simp[hik]at hv);(try simp[hkj]at hv);(try simp at hv);subst hv;unfold SW at hSd;refine zX ?_;first|exact⟨j+1,by omega,by omega,by go_num,_,HJ3⟩|exact⟨j+1,_,by omega,by omega,by go_num,HJ3⟩):p:=h
theorem zPi (k:q) (h:q->p:=by
 intro zz;refine wpR 41 hSd ?_;refine ja 0 hSd ?_;iterate 14 refine jb hSd ?_
 refine ja 15 hSd (v:=true) ?_;iterate 3 refine jb hSd ?_
 exact zz):p:=h k
theorem zPf (h:p:=by
 refine zPi ?_;refine ja 19 hSd (v:=true) ?_;iterate 20 refine jb hSd ?_
 exact zPe):p:=h
theorem yRj(n ga ca:Nat)(ρa γa:Nat->Nat)(fa:Nat->Nat->Bool) w (hn:n<=1000) (ha:MatR w ga (n+1) ρa γa fa) (hca:n+1<=ca):Calls prog 241 #[slV ga (n+1) ca] w (MaG (n+1) (plK fa (n+1)) w):=by
 have HR:=qH1 ha;clear ha;go_enter func241,ntmps241;go_wp2_with fail;go_loopw[3,4] (λov kv wr=>∃(k go co:Nat)(ρo γo:Nat->Nat)(fo:Nat->Nat->Bool),k<=n+1/\kv=(xi k)/\ov=slV go (n+1) co/\n+1<=co/\Hid (MatR wr go (n+1) ρo γo fo/\(∀x y,x<=y->y<n+1->fo x y=plK fa k x y)/\Below w w wr)) (λ_ kv _=>n+1-(intOf kv).toNat);case atStart=>exact⟨0,ga,ca,ρa,γa,fa,AI _,rfl,rfl,hca,HR.out,λ_ _ _ _=>rfl,Below.refl _ _⟩
 case round=>
  obtain⟨k,go,co,ρo,γo,fo,hk,rfl,rfl,af,HO⟩:=hrel;obtain⟨Wk,ai⟩:=qE (wr:Ww);subst ai;by_cases hlk:k<n+1
  .have zk:(k:Int)<((n+1:Nat):Int):=qo
   go_wp2_with fail;refine(yCu n hn Wk).mono ?_;rintro r w1 ⟨g,cp,ρ,γ,rfl,HM,ag⟩;have ad:=HM.out.out.caps;go_wp2_with fail;go_loopw[6] (λiv wr=>∃(i:Nat)(f:Nat->Nat->Bool),i<=n+1/\iv=(xi i)/\Hid (MatO wr Wk g cp (n+1) (n+1) ρ γ f/\(∀x y,x<=y->y<n+1->f x y=orF fo (viaF fo k) i 0 x y)/\Below Wk Wk wr)) (λiv _=>n+1-(intOf iv).toNat);case atStart=>exact⟨0,_,AI _,rfl,HM.out,λx y _ _=>by simp[orF],ag⟩
   case round=>
    obtain⟨i,f0,hi,rfl,a6⟩:=hrel;obtain⟨Wr,ah⟩:=qE (wr:Ww);subst ah;by_cases hlt:i<n+1
    .have zi:(i:Int)<((n+1:Nat):Int):=qo
     go_wp2_with fail;go_loopw[7] (λjv wr=>∃(j:Nat)(f:Nat->Nat->Bool),i<=j/\j<=n+1/\jv=(xi j)/\Hid (MatO wr Wk g cp (n+1) (n+1) ρ γ f/\(∀x y,x<=y->y<n+1->f x y=orF fo (viaF fo k) i j x y)/\Below Wk Wk wr)) (λjv _=>n+1-(intOf jv).toNat);case atStart=>exact⟨i,f0,AH _,qo,rfl,a6.1,λx y hxy hy=>by
      rw[a6.2.1 x y hxy hy]
      unfold orF
      congr 1
      rw[AE];simp only[AC,AA,decide_eq_true_eq,beq_iff_eq];omega,a6.2.2⟩
     case round=>
      obtain⟨j,f,hij,hj,rfl,HJ⟩:=hrel;by_cases hlj:j<n+1
      .have zj:(j:Int)<((n+1:Nat):Int):=qo
       have a5:=HO.1.k HJ.2.2 qr;have c0:=HJ.1.z hlt;have c1:=(HJ.1.j i hlt).z hlj;have z1:wr.frozen? (xd (ρ i) j)=false:=AB (HJ.1.j i hlt) _;have aj:=(HJ.1.j i hlt).caps;have a0:=a5.out i hlt;have a1:=a5.j i j hlt hlj;have a2:=a5.j i k hlt hlk;have a3:=a5.out k hlk;have a4:=a5.j k j hlk hlj;have ak:=HO.1.cap i hlt;have hc2:=HO.1.cap k hlk;have HJ2:Hid (∀v:Bool,v=(fo i j || viaF fo k i j)->Hid (MatO (wr.setCell (xd (ρ i) j) v).drew Wk g cp (n+1) (n+1) ρ γ (upd2 f i j v)/\(∀x y,x<=y->y<n+1->upd2 f i j v x y=orF fo (viaF fo k) i (j+1) x y)/\Below Wk Wk (wr.setCell (xd (ρ i) j) v).drew)):=λv hv=>by
        refine⟨(HJ.1.set hlt hlj v).k ((Below.refl _ _).drew),λx y hxy hy=>?_,(yAc HJ.2.2 (HJ.1.j i hlt).lt.1 _ _).drew⟩;unfold upd2;by_cases e:x=i/\y=j
        .rw[iB e,hv];simp[orF,e.1,e.2]
        .rw[iA e,HJ.2.1 x y hxy hy];unfold orF;congr 1;exact zzU8
       obtain⟨a7,aa⟩:∃a7,fo i j=a7:=⟨_,rfl⟩;obtain⟨a8,ac⟩:∃a8,fo i k=a8:=⟨_,rfl⟩;obtain⟨a9,ab⟩:∃a9,fo k j=a9:=⟨_,rfl⟩;have HV:=qH3 aa ac ab;rw[aa]at a1;rw[ac]at a2;rw[ab]at a4;clear a5 aa ac ab c1;have c1:=(HJ.1.j i hlt).z hlj;have hSd:SW (λw':Ww=>xk w' g i (slV (ρ i) (n+1) (γ i))/\xk w' go i (slV (ρo i) (n+1) (γo i))/\xk w' (ρo i) j a7/\xk w' (ρo i) k a8/\xk w' go k (slV (ρo k) (n+1) (γo k))/\xk w' (ρo k) j a9) wr.drew:=⟨c0,a0,a1,a2,a3,a4⟩;go_upto_region 12 with fail;cases a7
       case true=>
        refine wpR 41 hSd ?_;refine ja 0 hSd ?_;iterate 39 refine jb hSd ?_
        exact zPe
       case false=>
        by_cases hik:i<=k
        .have hd1:decide ((i:Int)<=(k:Int))=true:=by simp;omega
         by_cases hkj:k<=j
         .have hd2:decide ((k:Int)<=(j:Int))=true:=by simp;omega
          cases a8<;>exact zPf
         .have hd2:decide ((k:Int)<=(j:Int))=false:=by simp;omega
          refine zPi ?_;refine ja 19 hSd (v:=false) ?_;iterate 20 refine jb hSd ?_
          exact zPe
        .have hd1:decide ((i:Int)<=(k:Int))=false:=by simp;omega
         refine wpR 41 hSd ?_;refine ja 0 hSd ?_;iterate 14 refine jb hSd ?_
         refine ja 15 hSd (v:=false) ?_;iterate 24 refine jb hSd ?_
         exact zPe
      .obtain rfl:j=n+1:=qo
       have zj:¬((n+1:Nat):Int)<((n+1:Nat):Int):=qo
       have HJ2:Hid (MatO wr Wk g cp (n+1) (n+1) ρ γ f/\(∀x y,x<=y->y<n+1->f x y=orF fo (viaF fo k) (i+1) 0 x y)/\Below Wk Wk wr):=by refine⟨HJ.1,λx y hxy hy=>?_,HJ.2.2⟩;rw[HJ.2.1 x y hxy hy];unfold orF;congr 1;rw[AE];simp only[AC,AA,decide_eq_true_eq,beq_iff_eq];omega
       refine zX ?_;first|exact⟨i+1,f,qo,by go_num,HJ2.out⟩|exact⟨i+1,qo,by go_num,f,HJ2.out⟩
    .obtain rfl:i=n+1:=qo
     have zi:¬((n+1:Nat):Int)<((n+1:Nat):Int):=qo
     have ae:Hid (MatR Wr g (n+1) ρ γ f0/\(∀x y,x<=y->y<n+1->f0 x y=plK fa (k+1) x y)/\Below w w Wr):=by
      refine⟨a6.1.read,λx y hxy hy=>?_,HO.2.2.trans (a6.2.2.mono HO.2.2.size)⟩;rw[a6.2.1 x y hxy hy];have hx:x<n+1:=qo
      simp only[orF,viaF,plK,hx,decide_true,Bool.true_or,Bool.and_true];rw[HO.2.1 x y hxy hy];by_cases h1:x<=k
      .by_cases h2:k<=y
       .rw[HO.2.1 x k h1 hlk,HO.2.1 k y h2 hy]
       .simp[h2]
      .simp[h1]
     refine zX ?_;first|exact⟨k+1,g,cp,ρ,γ,f0,qo,by go_num,rfl,ad.1,ae.out⟩|exact⟨k+1,qo,by go_num,g,cp,rfl,ad.1,ρ,γ,f0,ae.out⟩|exact⟨k+1,g,cp,qo,by go_num,rfl,ad.1,ρ,γ,f0,ae.out⟩
  .obtain rfl:k=n+1:=qo
   have zk:¬((n+1:Nat):Int)<((n+1:Nat):Int):=qo
   go_wp2_with fail;go_ret;exact⟨go,co,ρo,γo,fo,rfl,af,⟨HO.1,HO.2.1⟩,HO.2.2⟩
inductive Ch(fa:Nat->Nat->Bool)(K:Nat):Nat->Nat->Prop
 |one {i j:Nat} (h:fa i j=true) (hij:i<=j):Ch fa K i j
 |more {i m j:Nat} (h:fa i m=true) (him:i<=m) (hm:m<K) (k:Ch fa K m j):Ch fa K i j
theorem Ch.le(h:Ch fa K i j):i<=j:=by
 induction h with
 |one _ h=>exact h
 |more _ h _ _ ih=>omega
theorem Ch.mono{K':Nat}(h:Ch fa K i j)(hK:K<=K'):Ch fa K' i j:=by
 induction h with
 |one h h'=>exact .one h h'
 |more h h1 h2 _ ih=>exact .more h h1 qo ih
theorem Ch.cat(h:Ch fa K i m)(hm:m<K)(k:Ch fa K m j):Ch fa K i j:=by
 induction h with
 |one h h'=>exact .more h h' hm k
 |more h h1 h2 _ ih=>exact .more h h1 h2 (ih hm k)
theorem Ch.split(h:Ch fa (K+1) i j):Ch fa K i j\/(Ch fa K i K/\Ch fa K K j):=by
 induction h with
 |one h h'=>exact .inl (.one h h')
 | @more i m j h h1 h2 _ ih=>
   by_cases e:m=K
   .subst e;rcases ih with k|⟨_,k⟩
    .exact .inr ⟨.one h h1,k⟩
    .exact .inr ⟨.one h h1,k⟩
   .rcases ih with k|⟨k1,k2⟩
    .exact .inl (.more h h1 qo k)
    .exact .inr ⟨.more h h1 qo k1,k2⟩
theorem yGj(fa:Nat->Nat->Bool):∀(K i j:Nat),i<=j->(plK fa K i j=true↔Ch fa K i j)
 |0,i,j,hij=>by
  constructor
  .exact λh=>.one h hij
  .intro h
   cases h with
   |one h _=>exact h
   |more _ _ h _=>omega
 |K+1,i,j,hij=>by
  simp only[plK,AC,AA,decide_eq_true_eq]
  constructor
  .rintro(h|⟨⟨⟨h1,h2⟩,h3⟩,h4⟩)
   .exact((yGj fa K i j hij).1 h).mono qo
   .exact(((yGj fa K i K h1).1 h3).mono qo).cat qo (((yGj fa K K j h2).1 h4).mono qo)
  .intro h
   rcases h.split with k|⟨k1,k2⟩
   .exact .inl ((yGj fa K i j hij).2 k)
   .exact .inr ⟨⟨⟨k1.le,k2.le⟩,(yGj fa K i K k1.le).2 k1⟩,(yGj fa K K j k2.le).2 k2⟩
def RelW(s:List U8)(f:Nat->Nat->Bool)(P:List U8->Prop):Prop:=∀i j,i<=j->j<=s.length->(f i j=true↔P (cut s i j))
variable {s x:List U8}
theorem yPs(hij:i<=j)(hj:j<=s.length)(h:cut s i j=x++y):∃m,i<=m/\m<=j/\x=cut s i m/\y=cut s m j:=by have⟨h1,h2,h3⟩:=yPt h hj hij;exact⟨i+x.length,qo,h3,h1.symm,h2.symm⟩
theorem RelW.plus(h:RelW s fa P):RelW s (plK fa (s.length+1)) (Pls P):=by
 intro i j hij hj;rw[yGj fa _ i j hij];constructor
 .intro k;induction k with
  |one h' h1=>exact .one ((h _ _ h1 hj).1 h')
  | @more i m j h' h1 h2 k ih=>
    have a0:=k.le;rw[yBq h1 a0];exact .more ((h i m h1 qo).1 h') (ih a0 hj)
 .intro k;generalize hx:cut s i j=x at k;induction k generalizing i j with
  |one h'=>subst hx;exact .one ((h i j hij hj).2 h') hij
  |more h' k ih=>
   have⟨m,h1,h2,h3,h4⟩:=yPs hij hj hx;exact .more ((h i m h1 qo).2 (by rw[<-h3];exact h')) h1 qo (ih m j h2 hj h4.symm)
theorem RelW.or(h:RelW s fa P)(k:RelW s fb Q):RelW s (λi j=>fa i j || fb i j) (λx=>P x\/Q x):=by intro i j hij hj;rw[AC,h i j hij hj,k i j hij hj]
theorem yUg(s:List U8):RelW s (λi j=>i==j) (λx=>x= []):=by
 intro i j hij hj;rw[beq_iff_eq];constructor
 .intro e;rw[e];exact yDm s j
 .intro e;have:=yAx (p:=s) (i:=i) hj;rw[e]at this;simp at this;omega
theorem RelW.then(h:RelW s fa P)(k:RelW s fb Q):RelW s (λi j=>thF fa fb i j (s.length+1)) (λx=>∃y z,x=y++z/\P y/\Q z):=by
 intro i j hij hj;rw[xDc];constructor
 .rintro⟨m,h0,h1,h2,h3,h4⟩;exact⟨cut s i m,cut s m j,yBq h1 h2,(h i m h1 qo).1 h3,(k m j h2 hj).1 h4⟩
 .rintro⟨y,z,hx,hy,hz⟩;have⟨m,h1,h2,h3,h4⟩:=yPs hij hj hx;exact⟨m,qo,h1,h2,(h i m h1 qo).2 (by rw[<-h3];exact hy),(k m j h2 hj).2 (by rw[<-h4];exact hz)⟩
theorem RelW.iff{f g:Nat->Nat->Bool}(h:RelW s f P)(hf:∀i j,i<=j->j<s.length+1->g i j=f i j)(hp:∀x,Q x↔P x):RelW s g Q:=by intro i j hij hj;rw[hf i j hij qo,h i j hij hj,hp]
theorem Pls.mono(h:∀x,P x->Q x)(k:Pls P x):Pls Q x:=by
 induction k with
 |one k=>exact .one (h _ k)
 |more k _ ih=>exact .more (h _ k) ih
theorem Pls.cat(h:Pls P x)(k:Pls P y):Pls P (x++y):=by
 induction h with
 |one h=>exact .more h k
 |more h _ ih=>rw[append_assoc];exact .more h ih
theorem yOc(P:List U8->Prop)(o r:Bool)(x:List U8):Pls (RepL P o r) x↔RepL P o true x:=by
 have a0:∀y,RepL P o r y->RepL P o true y:=by
  intro y h;rcases h with h|h
  .exact .inl h
  .refine .inr ?_;rw[iB rfl];cases r with
   |true=>rw[iB rfl]at h;exact h
   |false=>rw[iA qj]at h;exact .one h
 constructor
 .intro k;induction k with
  |one h=>exact a0 _ h
  | @more y z h k ih=>
    rcases a0 y h with⟨ho,hy⟩|hy
    .rw[hy];exact ih
    .rcases ih with⟨ho,hz⟩|hz
     .rw[hz,append_nil];exact .inr hy
     .rw[iB rfl]at hy hz;exact .inr (by rw[iB rfl];exact hy.cat hz)
 .rintro(h|h)
  .exact .one (.inl h)
  .rw[iB rfl]at h;exact h.mono (λy hy=>.inr (by
    cases r with
    |true=>rw[iB rfl];exact .one hy
    |false=>rw[iA qj];exact hy))
theorem ySs(P:List U8->Prop)(o r:Bool)(x:List U8):(RepL P o r x\/x= [])↔RepL P true r x:=by
 constructor
 .rintro((⟨_,h⟩|h)|h)
  .exact .inl ⟨rfl,h⟩
  .exact .inr h
  .exact .inl ⟨rfl,h⟩
 .rintro(⟨_,h⟩|h)
  .exact .inr h
  .exact .inl (.inr h)
theorem yR4{p:List U8}{f g:U8->Bool}(h:clsM p j b f=.inl (g,k)):j<p.length:=by
 unfold clsM at h;split at h
 .assumption
 .cases h
theorem yX8{p:List U8}{g f:U8->Bool}(h:clsM p j it g=.inl (f,n)):
  (p[j]?=some 93/\it=true/\g=f/\j+1=n)\/
  ∃x lo k1,p[j]?=some x/\¬x=93/\chM p j=(lo,k1,true)/\k1<p.length/\∃y,p[k1]?=some y/\
   ((y=45/\∃hi m,chM p (k1+1)=(hi,m,true)/\clsM p m true (λc=>g c || (decide (lo<=c) && decide (c<=hi)))=.inl (f,n))\/
    (¬y=45/\clsM p k1 true (λc=>g c || (decide (lo<=c) && decide (c<=lo)))=.inl (f,n))):=by
 have hj:=yR4 h;unfold clsM at h;rw[dif_pos hj]at h;split at h
 .next hc=>
  simp only[AF,AG]at h;exact .inl ⟨hc.1,hc.2,h.1,h.2⟩
 .split at h
  .cases h
  .next a b k hk=>
   refine .inr ?_;obtain⟨x,hx⟩:∃x,p[j]?=some x:=qg hj;unfold yCh at hk;split at hk
   .cases hk
   .next lo k1 hch=>
    have a0:¬x=93:=λq=>by unfold chM at hch;rw[hx]at hch;simp[q]at hch
    split at hk
    .next h45=>
     split at hk
     .cases hk
     .next hi m hch2=>
      split at hk
      .cases hk
      .simp only[AF,AG]at hk;obtain⟨rfl,rfl,rfl⟩:=hk;exact⟨x,lo,k1,hx,a0,hch,yAq h45,45,h45,.inl ⟨rfl,hi,m,hch2,h⟩⟩
    .next h45=>
     simp only[AF,AG]at hk;obtain⟨rfl,rfl,rfl⟩:=hk;have a1:=yR4 h;obtain⟨y,hy⟩:∃y,p[k1]?=some y:=qg a1;exact⟨x,lo,k1,hx,a0,hch,a1,y,hy,.inr ⟨λq=>h45 (by rw[hy,q]),h⟩⟩
theorem yO7(q:Ba)(hq:q.size<=200)(b:U8)(f:U8->Bool)(h:yAt (sb q) 1=.inl (f,q.size)) w:Calls prog 255 #[q,.int .u8 (b.toNat:Int)] w λe w'=>e=.returned (f b)/\w'=w:=by
 obtain⟨ng,f0,j0,hj0,a0,hf,hng⟩:∃(ng:Bool)(f0:U8->Bool)(j0:Nat),j0=(if ng=true then 2 else 1)/\clsM (sb q) j0 false (λ_=>false)=.inl (f0,q.size)/\(∀c,f c=(f0 c != ng))/\(ng=true↔(sb q)[1]?=some 94):=by
  unfold yAt at h;split at h
  .next h94=>
   split at h
   .next g k hk=>
    simp only[AF,AG]at h;obtain⟨rfl,rfl⟩:=h;exact⟨true,g,2,rfl,hk,λc=>by show(!g c)=(g c != true);cases g c<;>rfl,⟨λ_=>h94,λ_=>rfl⟩⟩
   .cases h
  .next h94=>exact⟨false,f,1,rfl,h,λc=>by cases f c<;>rfl,⟨λq=>(by cases q),λq=>absurd q h94⟩⟩
 have hjl:=yR4 a0;rw[yAe]at hjl;have a2:1<q.size:=by
  cases ng
  .simp at hj0;omega
  .have:=yAq (hng.1 rfl);rw[yAe]at this;exact this
 obtain⟨x1,hx1⟩:∃x,(sb q)[1]?=some x:=qg (by rw[yAe];exact a2);have⟨_,a3⟩:=yAw hx1;have HC0:=qH1 a0;have HFn:=qH1 hf;have z1:(1:Int)<(q.size:Int):=qo
 cases ng
 case false=>
  have a1:((x1.toNat:Int)==94)=false:=iC.2 (yA7 (c:=94) (λq=>by have h1:=hng.2 (by rw[hx1,q]);cases h1));obtain rfl:j0=1:=by simpa using hj0
  exact zzQ4
 case true=>
  have a1:((x1.toNat:Int)==94)=true:=by
   have h1:=hng.1 rfl;rw[hx1]at h1;cases h1
   rfl
  obtain rfl:j0=2:=by simpa using hj0
  exact zzQ4
end Go.Proofs.YtnnagkfoiganfaaGreatDoor
