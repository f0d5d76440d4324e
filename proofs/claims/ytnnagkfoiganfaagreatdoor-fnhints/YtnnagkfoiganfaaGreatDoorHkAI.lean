import Derived.Test.YtnnagkfoiganfaaGreatDoorHkAG
import Derived.Test.YtnnagkfoiganfaaGreatDoorHkAF
import Derived.Test.YtnnagkfoiganfaaGreatDoorHkAE
namespace Go.Proofs.YtnnagkfoiganfaaGreatDoor
open Go.ChangeShapes Go.WideShapes Go.ChangeAt Go.RowKit Go.Deep XD XI XU XG XP XK XW XT XF XE XH _root_.List _root_.Nat XY Go.Proofs.Tryz
open _root_.And renaming intro->AC
open _root_.Go renaming Ending->AR,bodyPost_ret->AT
open _root_.Go.ByteArray renaming toList_eq->AI
open _root_.Go.IntKind renaming wrap_i64->AG
open _root_.Go.Obj renaming cells->AJ
open _root_.List renaming mem_of_getElem?->AB,replicate->AH,take_of_length_le->AK,getElem?_eq_getElem->AL,getElem?_append_right->AM,length_append->AP,getElem?_map->AQ,take_add_one->AS,getElem?_append_left->AU,mem_append->AV,length_eq_zero_iff->AW,getElem?_replicate->AX,length->Aa,length_singleton->Ab,append_assoc->Ac
open _root_.Nat renaming le_refl->AA,zero_le->AD,le_trans->AF,lt_of_lt_of_le->AN,zero_add->AO,sub_zero->AY,add_zero->AZ
open _root_.True renaming intro->AE
set_option linter.unusedVariables false
set_option linter.unusedSimpArgs false
set_option maxRecDepth 100000
set_option maxHeartbeats 64000000
variable {g j' g' cp' m' t blk nw id conds eb T sz off o len b0 cap b lo c O cp n cb:Nat} {A:List U8->Pat->Prop} {r:Ending} {P:List U8->Prop} {F fa fb f f':Nat->Nat->Bool} {ρ' γ':Nat->Nat} {τ:U8->Bool} {Q:Exit->Act->Ww->Prop} {oo:Oper} {rest:List Oper} {ops:Array Oper} {row:Option Nat} {cs ws:Array Vv} {v bv:Vv} {S:Nat->Prop} {Wa w2 B w W W':Ww} {jj:Int} {bs:List Bk} {es:List Nd} {P':Program} {y:Ix} {a:Act} {e:Nd}
def yEg(w:Ww)(O g cp:Nat)(us:List Vv):Prop:=w.ownsRow O 9 1 (xg g us.length cp) us.length us
variable {us:List Vv}
theorem yEg.lt(h:yEg w O g cp us):O<=g/\g<w.heap.size:=World.ownsRow.lt h g rfl
variable {w':Ww}
theorem yEg.k(h:yEg w O g cp us)(hb:Below w w w'):yEg w' O g cp us:=yAg h (Chg.h hb) (S:=λ_=>False) (λk q z=>z)
theorem yLi(w:Ww)(hb:O<=w.heap.size):yEg (xw w #[] 9) O w 0 []:=
 World.ownsRow_made w #[] 0 hb (AD _) (by simp)
theorem Tryz.infoStr:(prog.info? 9).map (λi=>(i.zero,i.size,i.bytes))=some (some (.string ⟨#[]⟩),1,16):=qk
theorem xH4:ApT 275 9 1 (λl=>l) yEg AtV:=apTV ⟨underlying275,_,_,Tryz.infoStr,rfl,qj,qj⟩ Iff.rfl
theorem yQh{k:Nat}{xs:List U8}(h:TokN A k xs):k<=xs.length:=by
 induction h with
 |nil=>exact AA _
 |bar _ ih=>simpa using ih
 |op _ _ ih|atom _ _ ih=>simp;omega
variable {j:Nat}
theorem yBz(p:Ba){f:Nat}(hj:j<=p.size):sb (p.extract f j)=cut (sb p) f j:=by unfold sb cut;simp[ByteArray.data_extract,extract_eq_take_drop]
structure PaS(n:Nat)(p:List U8)(os:List (List Pat))(j f i:Nat)(r:List U8):Prop where
 ri:r=cut p j (j+r.length)
 rl:j+r.length<=p.length
 fj:f<=j
 tok:TokN (yAn n) 0 r
 cur:∃ts,os[i]?=some ts/\SeqG (yAn n) ts (cut p f (j+r.length))
 rest:(j+r.length=p.length/\i+1=os.length)\/(p[j+r.length]?=some 124/\AltG (yAn n) (os.drop (i+1)) (cut p (j+r.length+1) p.length))
variable {os:List (List Pat)}
theorem yS9{p:List U8}{i:Nat}(hj:j<=p.length)(h:AltG (yAn n) (os.drop i) (cut p j p.length)):∃r,PaS n p os j j i r:=by
 rcases hd:os.drop i with _|⟨ts,_|⟨o,a0⟩⟩
 .rw[hd]at h;exact h.elim
 .rw[hd]at h;have hl:=yAx (p:=p) (i:=j) (k:=p.length) qr;have a1:i+1=os.length:=by have:=congrArg Aa hd;simp at this;omega
  have h0:os[i]?=some ts:=by have:=congrArg (λl=>l[0]?) hd;simpa using this
  refine⟨cut p j p.length,?_,by omega,AA _,SeqG.tokn h,⟨ts,h0,?_⟩,.inl ⟨by omega,a1⟩⟩
  .rw[hl,show j+(p.length-j)=p.length by omega]
  .rw[hl,show j+(p.length-j)=p.length by omega];exact h
 .rw[hd]at h;have⟨ys,zs,h1,h2,h3⟩:=h;have⟨k1,k2,k3⟩:=yPt h1 qr hj;have⟨g1,g2,g3⟩:=yHw k2 qr;have h0:os[i]?=some ts:=by have:=congrArg (λl=>l[0]?) hd;simpa using this
  have a2:os.drop (i+1)=o::a0:=by have:=congrArg List.tail hd;simpa using this
  exact⟨ys,k1.symm,k3,AA _,SeqG.tokn h2,⟨ts,h0,by rw[k1];exact h2⟩,.inr ⟨g1,by rw[a2,g2];exact h3⟩⟩
theorem PaS.next{p:List U8}{f i:Nat}{x r:List U8}(h:PaS n p os j f i (x++r))(ht:TokN (yAn n) 0 r):PaS n p os (j+x.length) f i r:=by
 have hl:j+x.length+r.length=j+(x++r).length:=by simp;omega
 have a1:=h.ri;have a0:=h.rl;rw[<-hl]at a1 a0;have⟨_,k2,_⟩:=yPt a1.symm a0 qo;refine⟨?_,a0,by have:=h.fj;omega,ht,?_,?_⟩
 .exact k2.symm
 .rw[hl];exact h.cur
 .rw[hl];exact h.rest
def yP7(n:Nat)(os:List (List Pat))(us:List Vv)(m:Nat):Prop:=∀(t:Nat)(u:Vv),us[t]?=some u->∃s ts,u=.string s/\os[t]?=some ts/\SeqG (yAn n) ts (sb s)/\s.size<=m
variable {m:Nat} {s:Ba} {ts:List Pat}
theorem yP7.snoc(h:yP7 n os us m)(ho:os[us.length]?=some ts)(hs:SeqG (yAn n) ts (sb s))(hm:s.size<=m):yP7 n os (us++ [.string s]) m:=by
 intro t u hu;rcases Nat.lt_or_ge t us.length with q|q
 .rw[AU q]at hu;exact h t u hu
 .have ht:t=us.length:=by have:=qf hu;simp at this;omega
  subst ht;simp at hu;subst hu;exact⟨s,ts,rfl,ho,hs,hm⟩
structure PaK(p:Ba)(n:Nat)(os:List (List Pat))(w:Ww)(j f g cp:Nat)(us:List Vv)(wr:Ww):Prop where
 st:∃r,PaS n (sb p) os j f us.length r
 strs:yP7 n os us p.size
 Z:yEg wr w g cp us
 k:Below w w wr
variable {p:Ba} {wr:Ww}
theorem PaK.K{f:Nat}(h:PaK p n os w j f g cp us wr)(hb:Below wr wr w')(hs:∃r,PaS n (sb p) os j' f us.length r):PaK p n os w j' f g cp us w':=
 ⟨hs,h.strs,h.Z.k hb,h.k.trans (hb.mono h.k.size)⟩
def PrtP(n:Nat)(os:List (List Pat))(m:Nat)(w:Ww)(e:AR)(w':Ww):Prop:=∃g cp us,e=.returned (xg g os.length cp)/\us.length=os.length/\Hid (yEg w' w g cp us/\yP7 n os us m)/\Below w w w'
theorem yO4(hp:p.size<=200)(h:AltG (yAn n) os (sb p)) w:Calls prog 206 #[p] w (PrtP n os p.size w):=by
 have a5:=(yAe p).symm;have au:cut (sb p) 0 p.size=sb p:=by show(List.drop 0 (sb p)).take (p.size-0)=sb p;rw[drop_zero,AY,AK (Nat.le_of_eq a5.symm)]
 have aF:os.length<=201:=by have⟨k,h1,h2⟩:=h.tokn;have:=yQh h2;rw[<-a5]at this;omega
 have a3:=qH1 a5;have⟨W0,ai⟩:=qE (xw w #[] 9:Ww);have ax:Hid (PaK p n os w 0 0 w 0 [] W0):=by rw[ai];refine⟨yS9 (AD _) ?_,λt u hu=>by simp at hu,yLi w qr,qB⟩;rw[<-a5,au];exact h
 clear h a5 au;go_enter func206,ntmps206;go_upto_region 2 with fail;rw[<-ai];go_wp2;go_loopw[3,4,5] (λo fv jv wr=>∃(j f g cp m:Nat)(us:List Vv),jv=(xi j)/\fv=(xi f)/\f<=j/\j<=p.size/\m<=201/\o=(xg g m cp)/\Hid (PaK p n os w j f g cp us wr/\m=us.length)) (λ_ _ jv _=>p.size-(intOf jv).toNat);case atStart=>exact⟨0,0,_,0,0,[],rfl,rfl,AA _,AD _,AD _,rfl,ax,rfl⟩
 case round=>
  obtain⟨j,f,g,cp,m,us,rfl,rfl,aJ,af,ao,rfl,HJ⟩:=hrel;have aI:=HJ.1.Z.lt;have am:=HJ.1.k.size;have z1:(f:Int)<=(j:Int):=qo
  have z2:(j:Int)<=(p.size:Int):=qo
  have⟨r,hS⟩:=HJ.1.st;have HP:=qH1 hS;by_cases hlt:j<p.size
  .have zj:(j:Int)<(p.size:Int):=qo
   rcases yJb HP.tok with⟨h0,_⟩|⟨m',zs,h0,hm,hT⟩|⟨c,zs,h0,ae,hT⟩|⟨ys,zs,t,h0,hA,hT⟩
   .have ad:(sb p)[j]?=some 124/\AltG (yAn n) (os.drop (us.length+1)) (cut (sb p) (j+1) (sb p).length):=by
     rcases HP.rest with⟨q,_⟩|q
     .rw[h0]at q;simp at q;have:=a3.out;omega
     .rw[h0]at q;simpa using q
    have⟨ts,a2,a1⟩:=HP.cur;rw[h0]at a1;simp only[length_nil,AZ]at a1;have⟨_,gj⟩:=yAw ad.1;have HT:Hid (AltG (yAn n) (os.drop (us.length+1)) (cut (sb p) (j+1) (sb p).length)/\os[us.length]?=some ts/\SeqG (yAn n) ts (sb (p.extract f j))/\us.length+1<=os.length):=by refine⟨ad.2,a2,by rw[yBz p af];exact a1,qf a2⟩
    have HM:=qH1 HJ.2;go_wp2_with (at_builtin;refine wpA rfl (apK xH4 rfl w us [p.extract f j] rfl rfl HM rfl ?hO (atV1 ?hc ?hy) (lN ?hl) ?hb ?_));case hO=>exact HJ.1.Z.k (qB)
    case hy=>rfl
    case hl=>rw[<-HM];omega
    case hb=>first|omega|(simp;omega)
    intro g' a9 w' a8 a7 ah;have aD:Hid (PaK p n os w (j+1) (j+1) g' a9 (us++ [.string (p.extract f j)]) w'/\m+1=(us++ [Value.string (p.extract f j)]).length):=by
     refine⟨⟨?_,HJ.1.strs.snoc HT.2.1 HT.2.2.1 (by rw[<-yAe,yBz p af,yAx (by rw[yAe];exact af)];omega),a8,?_⟩,by rw[HM];simp⟩
     .rw[AP,Ab];exact yS9 (by have:=a3.out;omega) HT.1
     .exact(HJ.1.k.trans ((Below.refl _ _).alloc am _)).grown a7 (by simp;omega) (λj hj=>by cases hj;omega)
    have aB:m+1<=201:=by have h1:=HT.2.2.2;have h2:=HM.out;omega
    clear a8 a7 ah;refine zY ?_;exact⟨j+1,j+1,g',a9,m+1,us++ [.string (p.extract f j)],by go_num,by go_num,AA _,qo,aB,by first|rfl|go_num,aD⟩
   .omega
   .have a0:=HP.out;rw[h0]at a0;have av:cut (sb p) j (j+(c::zs).length)=c::zs:=a0.ri.symm;have⟨a6,_,_⟩:=yHw av (by have:=a0.rl;exact this);have⟨_,gj⟩:=yAw a6;have HT:Hid (PaS n (sb p) os (j+1) f us.length zs):=PaS.next (x:= [c]) a0 hT;have ay:((c.toNat:Int)==124)=false:=iC.2 (yA7 (c:=124) (λq=>by subst q;exact absurd ae qj));have aj:Hid (Calls prog 142 #[.int .u8 (c.toNat:Int)] wr λe w'=>e=.returned true/\w'=wr):=by have:=yBd c wr;rw[decide_eq_true ae]at this;exact this
    clear h0 hT a6 ae a0 av;go_wp2_with fail;apply aj.mono;rintro e' w5 ⟨rfl,a4⟩;rw[a4];clear a4;refine zY ?_;exact⟨j+1,f,g,cp,m,us,by go_num,rfl,qo,qo,ao,rfl,HJ.1.K (Below.refl _ _) ⟨_,HT⟩,HJ.2⟩
   .have a0:=HP.out;rw[h0]at a0;have⟨c,yt,aa,az,al,ak⟩:=hA.first;have aA:0<ys.length:=by rw[aa];simp
    have ac:=a0.rl;have aq:j+ys.length<=p.size:=by rw[AP]at ac;have:=a3.out;omega
    have⟨ab,_,_⟩:=yPt a0.ri.symm ac qo;have⟨a6,_,_⟩:=yHw (c:=c) (zs:=yt) (ab▸aa) (by rw[<-a3];exact aq);have⟨_,gj⟩:=yAw a6;have ay:((c.toNat:Int)==124)=false:=iC.2 (yA7 (c:=124) al);have aj:Hid (Calls prog 142 #[.int .u8 (c.toNat:Int)] wr λe w'=>e=.returned false/\w'=wr):=by have:=yBd c wr;rw[decide_eq_false ak]at this;exact this
    have⟨i2,ag⟩:=qE (j+ys.length);have HT:Hid (PaS n (sb p) os i2 f us.length zs):=ag▸(PaS.next a0 hT)
    have aE:Hid ((xf 207 #[p,xi j] wr (xi i2):Prop)):=by rw[ag];exact yJ5 hp n j (j+ys.length) t wr (by rw[ab];exact hA) qo
    have aH:j<i2:=qo
    have aG:i2<=p.size:=qo
    clear h0 hT hA ab aa a6 az al ak ag aA aq a0 ac;go_wp2_with fail;apply aj.mono;rintro e' w5 ⟨rfl,a4⟩;rw[a4];clear a4;go_wp2_with fail;apply aE.mono;rintro e' w6 ⟨rfl,aw⟩;have aC:=qH2 (HJ.1.K aw ⟨_,HT⟩) HJ.2;clear aw;refine zY ?_;exact⟨i2,f,g,cp,m,us,rfl,rfl,qo,qo,ao,rfl,aC⟩
  .have zj:¬(j:Int)<(p.size:Int):=qo
   obtain rfl:j=p.size:=qo
   have an:r= []:=by have h1:=HP.rl;have h2:=a3.out;exact AW.1 qo
   have ar:us.length+1=os.length:=by
    rcases HP.rest with⟨_,q⟩|⟨q,_⟩
    .exact q
    .have:=yAq q;have:=a3.out;omega
   have⟨ts,a2,a1⟩:=HP.cur;rw[an]at a1;simp only[length_nil,AZ]at a1;have HT:=qH3 a2 (by rw[yBz p qr];exact a1:SeqG (yAn n) ts (sb (p.extract f p.size))) ar;have HM:=qH1 HJ.2;clear an ar a2 a1;go_wp2_with (at_builtin;refine wpA rfl (apK xH4 rfl w us [p.extract f p.size] rfl rfl HM rfl ?hO2 (atV1 ?hc2 ?hy2) (lN ?hl2) ?hb2 ?_));case hO2=>exact HJ.1.Z.k (qB)
   case hy2=>rfl
   case hl2=>rw[<-HM];omega
   case hb2=>first|omega|(simp;omega)
   intro g' a9 w' a8 a7 ah;have HR:Hid (PrtP n os p.size w (.returned (xg g' (m+1) a9)) w'):=by refine⟨g',a9,us++ [.string (p.extract f p.size)],?_,by rw[AP,Ab];exact HT.2.2,⟨a8,HJ.1.strs.snoc HT.1 HT.2.1 (by rw[<-yAe,yBz p qr,yAx (by rw[yAe];exact AA _)];omega)⟩,(HJ.1.k.trans ((Below.refl _ _).alloc am _)).grown a7 (by simp;omega) (λj hj=>by cases hj;omega)⟩;rw[HM,HT.2.2]
   clear a8 a7 ah;go_wp2_with fail;go_ret;exact HR
def MxG(s:Ba)(P:List U8->Prop)(w:Ww)(r:AR)(w':Ww):Prop:=∃g cp ρ γ f,r=.returned (slV g (s.size+1) cp)/\s.size+1<=cp/\Hid (MatR w' g (s.size+1) ρ γ f/\RelW (sb s) f P)/\Below w w w'
theorem MaG.says(h:MaG (s.size+1) F w r w')(hF:RelW (sb s) F P):MxG s P w r w':=by have⟨g,cp,ρ,γ,f,h1,h2,h3,h4⟩:=h;exact⟨g,cp,ρ,γ,f,h1,h2,⟨h3.out.1,hF.iff (λi j hij hj=>h3.out.2 i j hij (by rw[yAe]at hj;exact hj)) (λ_=>Iff.rfl)⟩,h4⟩
def AltW(s:Ba)(m:Nat):Prop:=∀(n:Nat)(os:List (List Pat))(p:Ba)(w:Ww),p.size<=m->p.size<=200->AltG (yAn n) os (sb p)->Calls prog 205 #[p,s] w (MxG s (LgA os) w)
def SeqW(s:Ba)(m:Nat):Prop:=∀(n:Nat)(ts:List Pat)(p:Ba)(w:Ww),p.size<=m->p.size<=200->SeqG (yAn n) ts (sb p)->Calls prog 225 #[p,s] w (MxG s (LgS ts) w)
def AtmW(s:Ba)(m:Nat):Prop:=∀(n:Nat)(t:Pat)(p:Ba)(w:Ww),p.size<=m->p.size<=200->yAn n (sb p) t->Calls prog 240 #[p,s] w (MxG s (Lg t) w)
theorem xBl(os:List (List Pat))(ts:List Pat)(x:List U8):LgA (os++ [ts]) x↔LgA os x\/LgS ts x:=by
 rw[ySh,ySh];constructor
 .rintro⟨t,ht,h⟩;rcases AV.1 ht with q|q
  .exact .inl ⟨t,q,h⟩
  .simp at q;subst q;exact .inr h
 .rintro(⟨t,ht,h⟩|h)
  .exact⟨t,mem_append_left _ ht,h⟩
  .exact⟨ts,by simp,h⟩
theorem yT2(hs:s.size<=200)(H:SeqW s m):AltW s m:=by
 intro n os p w a8 hp hG;have HH:=qH3 H a8 hp;have ai:Hid (∀wx,Calls prog 206 #[p] wx (PrtP n os p.size wx)):=λwx=>yO4 hp hG wx;have ae:os.length<=201:=by have⟨k,h1,h2⟩:=hG.tokn;have:=yQh h2;rw[yAe]at this;omega
 have aj:=qH1 (yCu s.size qo w);go_enter func205,ntmps205;go_wp2_with fail;apply aj.mono;rintro r w1 ⟨g,cp,ρ,γ,rfl,HM,ab⟩;have ag:=HM.out.out.caps.1;go_wp2_with fail;refine(ai.out w1).mono ?_;rintro r w2 ⟨gq,cq,us,rfl,a5,HU,hb2⟩;have af:=HU.1.lt;have k2:=ab.trans (hb2.mono ab.size);obtain⟨N,hN⟩:=qE os.length;rw[<-hN]at ae|-;have HN:=qH2 hN (by rw[a5,hN]:us.length=N);have ak:=qH1 (HM.read.k hb2 qr);clear hN a5;go_wp2;go_loopw[5,7] (λov kv wr=>∃(k go co:Nat)(ρo γo:Nat->Nat)(f:Nat->Nat->Bool),k<=N/\kv=(xi k)/\ov=slV go (s.size+1) co/\s.size+1<=co/\Hid (MatR wr go (s.size+1) ρo γo f/\RelW (sb s) f (LgA (os.take k))/\Below w2 w2 wr)) (λ_ kv _=>N-(intOf kv).toNat);case atStart=>exact⟨0,g,cp,ρ,γ,_,AD _,rfl,rfl,ag,ak.out,λi j _ _=>by simp[LgA],Below.refl _ _⟩
 case round=>
  obtain⟨k,go,co,ρo,γo,f,hk,rfl,rfl,a9,HO⟩:=hrel;by_cases hlt:k<N
  .have zk:(k:Int)<(N:Int):=qo
   obtain⟨u,hu⟩:∃u,us[k]?=some u:=qg (by rw[HN.2];exact hlt);obtain⟨x,ts,rfl,a6,a7,ac⟩:=HU.2 k u hu;have c0:(xk wr gq k x:Prop):=by rw[HO.2.2.cell (p:=(xd gq k)) af.2,World.ownsRow.cellAt HU.1 k (by rw[HN.2];omega),hu]
   have HC:=qH1 (HH.1 n ts x wr (qw HH.2.1) (qw HH.2.2) a7);have HT:=qH1 a6;clear hu a6 a7 ac;go_wp2_with fail;refine HC.mono ?_;rintro e w3 ⟨g3,p3,ρ3,γ3,f3,rfl,ad,a4,a1⟩;have al:=qH1 (yO6 s.size go co g3 p3 ρo γo ρ3 γ3 f f3 w3 qo (HO.1.k a1 qr) a4.1 a9 ad);clear c0;go_wp2_with fail;refine al.mono ?_;rintro e w4 ⟨g4,p4,ρ4,γ4,f4,rfl,a2,aa⟩;have a3:=a2.1.out.caps.1;have a0:Hid (MatR w4 g4 (s.size+1) ρ4 γ4 f4/\RelW (sb s) f4 (LgA (os.take (k+1)))/\Below w2 w2 w4):=by refine⟨a2.1.read,?_,(HO.2.2.trans (a1.mono HO.2.2.size)).trans (aa.mono (AF HO.2.2.size a1.size))⟩;refine(HO.2.1.or a4.2).iff (λi j hij hj=>a2.2 i j hij (by rw[yAe]at hj;exact hj)) (λy=>?_);rw[AS,HT.out];exact xBl _ _ _
   clear a2 a4 a1 aa;refine zY ?_;first|exact⟨k+1,g4,p4,ρ4,γ4,f4,qo,by go_num,rfl,a3,a0⟩|exact⟨k+1,g4,p4,qo,by go_num,rfl,a3,ρ4,γ4,f4,a0⟩|exact⟨k+1,qo,by go_num,g4,p4,rfl,a3,ρ4,γ4,f4,a0⟩
  .obtain rfl:k=N:=qo
   have zk:¬(k:Int)<(k:Int):=qo
   have a0:Hid (MatR wr go (s.size+1) ρo γo f/\RelW (sb s) f (LgA os)):=by have h9:=HO.2.1;rw[AK (by rw[HN.1];exact AA _)]at h9;exact⟨HO.1,h9⟩
   have ah:=k2.trans (HO.2.2.mono k2.size);go_wp2;go_ret;exact⟨go,co,ρo,γo,f,rfl,a9,a0,ah⟩
theorem RelW.plus_sb(h:RelW (sb s) fa P):RelW (sb s) (plK fa (s.size+1)) (Pls P):=by have:=h.plus;rw[yAe]at this;exact this
theorem RelW.then_sb{Q:List U8->Prop}(h:RelW (sb s) fa P)(k:RelW (sb s) fb Q):RelW (sb s) (λi j=>thF fa fb i j (s.size+1)) (λx=>∃y z,x=y++z/\P y/\Q z):=by have:=h.then k;rw[yAe]at this;exact this
theorem MxG.iff{Q:List U8->Prop}(h:MxG s P w r w')(hq:∀x,Q x↔P x):MxG s Q w r w':=by have⟨g,cp,ρ,γ,f,h1,h2,h3,h4⟩:=h;exact⟨g,cp,ρ,γ,f,h1,h2,⟨h3.1,h3.2.iff (λ_ _ _ _=>rfl) hq⟩,h4⟩
variable {ρ γ:Nat->Nat}
theorem yOo(hs:s.size<=200)(hM:MatR w g (s.size+1) ρ γ f)(hR:RelW (sb s) f P)(hc:s.size+1<=cp):Calls prog 241 #[slV g (s.size+1) cp] w (MxG s (Pls P) w):=
 (yRj s.size g cp ρ γ f w qo hM hc).mono (λr w' h=>MaG.says h hR.plus_sb)
theorem yW6(hs:s.size<=200){Q:List U8->Prop}(hM:MatR w g (s.size+1) ρ γ f)(hR:RelW (sb s) f P)(hc:s.size+1<=cp)(hM':MatR w g' (s.size+1) ρ' γ' f')(hR':RelW (sb s) f' Q)(hc':s.size+1<=cp'):Calls prog 224 #[slV g (s.size+1) cp,slV g' (s.size+1) cp'] w (MxG s (λx=>P x\/Q x) w):=
 (yO6 s.size g cp g' cp' ρ γ ρ' γ' f f' w qo hM hM' hc hc').mono (λr w' h=>MaG.says h.g (hR.or hR'))
theorem yWc(hs:s.size<=200){Q:List U8->Prop}(hM:MatR w g (s.size+1) ρ γ f)(hR:RelW (sb s) f P)(hc:s.size+1<=cp)(hM':MatR w g' (s.size+1) ρ' γ' f')(hR':RelW (sb s) f' Q)(hc':s.size+1<=cp'):Calls prog 242 #[slV g (s.size+1) cp,slV g' (s.size+1) cp'] w (MxG s (λx=>∃y z,x=y++z/\P y/\Q z) w):=
 (yRi s.size g cp g' cp' ρ γ ρ' γ' f f' w qo hM hM' hc hc').mono (λr w' h=>MaG.says h.g (hR.then_sb hR'))
theorem yF0(hs:s.size<=200) w:Calls prog 239 #[xi s.size] w (MxG s (λx=>x= []) w):=
 (yO8 s.size qo w).mono (λr w' h=>MaG.says h.g (yUg (sb s)))
def opL(P:List U8->Prop)(l:List U8):List U8->Prop:=RepL P (l.any (· != 43)) (l.any (· != 63))
theorem yW9(P:List U8->Prop)(x:List U8):opL P [] x↔P x:=by simp[opL,RepL]
theorem yMy(P:List U8->Prop)(l:List U8)(c:U8):opL P (l++ [c])=RepL P (l.any (· != 43) || c != 43) (l.any (· != 63) || c != 63):=by simp[opL,any_append]
theorem xHp(a:Pat)(ops:List U8)(x:List U8):Lg (if ops= []then a else .rep a (ops.any (· != 43)) (ops.any (· != 63))) x↔opL (Lg a) ops x:=by
 by_cases h:ops= []
 .rw[iB h,h,yW9]
 .rw[iA h];rfl
theorem xIo(P:List U8->Prop)(l:List U8)(x:List U8):opL P (l++ [42]) x↔(Pls (opL P l) x\/x= []):=by rw[yMy];have h1:=yOc P (l.any (· != 43)) (l.any (· != 63)) x;have h2:=ySs P (l.any (· != 43)) true x;rw[show(l.any (· != 43) || (42:U8) != 43)=true by simp,show(l.any (· != 63) || (42:U8) != 63)=true by simp];unfold opL;rw[h1,h2]
theorem xIn(P:List U8->Prop)(l:List U8)(x:List U8):opL P (l++ [43]) x↔Pls (opL P l) x:=by rw[yMy];have h1:=yOc P (l.any (· != 43)) (l.any (· != 63)) x;rw[show(l.any (· != 43) || (43:U8) != 43)=l.any (· != 43)by simp,show(l.any (· != 63) || (43:U8) != 63)=true by simp];unfold opL;rw[h1]
theorem xIm(P:List U8->Prop)(l:List U8)(x:List U8):opL P (l++ [63]) x↔(opL P l x\/x= []):=by rw[yMy];have h2:=ySs P (l.any (· != 43)) (l.any (· != 63)) x;rw[show(l.any (· != 43) || (63:U8) != 43)=true by simp,show(l.any (· != 63) || (63:U8) != 63)=l.any (· != 63)by simp];unfold opL;rw[h2]
structure SeqX(n m:Nat)(p:Ba)(a:Pat)(as_ ops:List U8)(ts:List Pat):Prop where
 X:0<as_.length
 le:as_.length+ops.length<=p.size
 atom:yAn n (cut (sb p) 0 as_.length) a
 sg:∀c∈ops,isOp c
 U:∀k c,ops[k]?=some c->(sb p)[as_.length+k]?=some c
 rest:SeqG (yAn n) ts (cut (sb p) (as_.length+ops.length) p.size)
 stop:∀c,(sb p)[as_.length+ops.length]?=some c->¬isOp c
theorem yWm{t:Pat}(h:SeqG (yAn n) (t::ts) (sb p)):∃a as_ ops,SeqX n 0 p a as_ ops ts/\∀x,Lg t x↔opL (Lg a) ops x:=by
 have⟨ys,zs,hx,⟨as_,ops,a,a3,hA,a6,ht⟩,hG⟩:=h;have a0:sb p=as_++(ops++zs):=by rw[hx,a3,Ac]
 have hl:p.size=as_.length+(ops.length+zs.length):=by rw[<-yAe,a0];simp
 have⟨c,yt,a5,_,_,aa⟩:=hA.first;have h1:cut (sb p) 0 as_.length=as_:=by unfold cut;rw[a0];simp
 have h2:cut (sb p) (as_.length+ops.length) p.size=zs:=by
  unfold cut;have e:as_.length+ops.length=(as_++ops).length:=by simp
  rw[a0,<-Ac,e,drop_left];exact AK (by rw[<-e];omega)
 refine⟨a,as_,ops,⟨by rw[a5];simp,by omega,by rw[h1];exact hA,a6,λk c hk=>?_,by rw[h2];exact hG,λc hc=>?_⟩,λx=>by rw[ht];exact xHp a ops x⟩
 .have a7:=qf hk;rw[a0,AM (by omega),Nat.add_sub_cancel_left,AU a7];exact hk
 .rw[a0,AM (by omega),show as_.length+ops.length-as_.length=ops.length by omega,AM qr,Nat.sub_self]at hc;cases ts with
  |nil=>rw[show zs= []from hG]at hc;simp at hc
  |cons t' ts'=>
   have⟨y2,z2,hz,⟨a2,o2,b2,hy2,a8,_,_⟩,_⟩:=hG;have⟨c2,a9,a4,_,_,a1⟩:=a8.first;rw[hz,hy2,a4]at hc;simp at hc;rw[<-hc];exact a1
theorem yZ9(hs:s.size<=200)(HA:AtmW s (m+1))(HS:SeqW s m):SeqW s (m+1):=by
 intro n ts p w aH hp hG;cases ts with
 |nil=>
  have h0:=hG;have hz:p.toList= []:=by rw[AI];exact h0
  have q1:(p.toList== [])=true:=by rw[hz];rfl
  have HE:=qH1 (yF0 hs w);go_enter func225,ntmps225;go_wp2_with fail;apply HE.mono;rintro e w1 ⟨g1,p1,ρ1,γ1,f1,rfl,aA,aw,ai⟩;have HR:Hid (MxG s (LgS []) w (.returned (slV g1 (s.size+1) p1)) w1):=⟨g1,p1,ρ1,γ1,f1,rfl,aA,⟨aw.1,aw.2.iff (λ_ _ _ _=>rfl) (λx=>by simp[LgS])⟩,ai⟩;go_wp2;go_ret;exact HR.out
 |cons t ts=>
  obtain⟨a,as_,ops,hX,au⟩:=yWm hG;have HX:Hid (SeqX n 0 p a as_ ops ts/\∀x,Lg t x↔opL (Lg a) ops x):=⟨hX,au⟩;have q1:(p.toList== [])=false:=by
   have h1:=hX.X;have h2:=hX.le;have hz:p.toList≠ []:=λq=>by rw[AI]at q;have:=yAe p;rw[show sb p= []from q]at this;simp at this;omega
   cases hq:p.toList with
   |nil=>exact absurd hq hz
   |cons _ _=>rfl
  obtain⟨j1,a6⟩:=qE as_.length;obtain⟨no,ah⟩:=qE ops.length;have aI:j1+no<=p.size:=by rw[a6,ah];exact hX.le
  have aJ:0<j1:=by rw[a6];exact hX.X
  have aE:Hid ((xf 207 #[p,xi 0] w (xi j1):Prop)):=by have h9:=yJ5 hp n 0 j1 a w (by rw[a6];exact hX.atom) qo;exact h9
  have aF:Hid (∀wx,Calls prog 240 #[(p.extract 0 j1),s] wx (MxG s (Lg a) wx)):=λwx=>by
   have ay:(p.extract 0 j1).size=j1:=by rw[<-yAe,yBz p qo,yAx (by rw[yAe];omega)];omega
   exact HA n a _ wx qo qo (by rw[yBz p qo,a6];exact hX.atom)
  have aD:Hid (∀wx,Calls prog 225 #[(p.extract (j1+no) p.size),s] wx (MxG s (LgS ts) wx)):=λwx=>by
   have ay:(p.extract (j1+no) p.size).size=p.size-(j1+no):=by rw[<-yAe,yBz p qr,yAx (by rw[yAe];exact AA _)]
   exact HS n ts _ wx qo qo (by rw[yBz p qr,a6,ah];exact hX.rest)
  have HL:=qH2 a6 ah;have z1:(j1:Int)<=(p.size:Int):=qo
  clear HA HS hG hX au a6 ah;go_enter func225,ntmps225;go_wp2_with fail;refine aE.mono ?_;rintro e w1 ⟨rfl,ai⟩;go_wp2_with fail;refine(aF.out w1).mono ?_;rintro e w2 ⟨g2,p2,ρ2,γ2,f2,rfl,az,av,hb2⟩;have aC:=ai.trans (hb2.mono ai.size);go_wp2;go_loopw[5,6] (λjv rv wr=>∃(J k go co:Nat)(ρo γo:Nat->Nat)(f:Nat->Nat->Bool),J<=p.size/\k<=no/\jv=(xi J)/\rv=slV go (s.size+1) co/\s.size+1<=co/\Hid (MatR wr go (s.size+1) ρo γo f/\RelW (sb s) f (opL (Lg a) (ops.take k))/\Below w w wr)/\Hid (J=j1+k)) (λjv _ _=>p.size-(intOf jv).toNat);case atStart=>exact⟨j1,0,g2,p2,ρ2,γ2,f2,qo,AD _,rfl,rfl,az,⟨av.1,av.2.iff (λ_ _ _ _=>rfl) (λx=>by rw[take_zero];exact yW9 _ _),aC⟩,rfl⟩
  case round=>
   obtain⟨J,k,go,co,ρo,γo,f,hJ,hk,rfl,rfl,ab,HO,HJ⟩:=hrel;by_cases hlt:k<no
   .obtain⟨c,hc⟩:∃c,ops[k]?=some c:=qg (by rw[<-HL.2];exact hlt);have HK:=qH2 (by rw[AS,hc];rfl:ops.take (k+1)=ops.take k++ [c]) (by rw[HJ.out,HL.1];exact HX.1.U k c hc:(sb p)[J]?=some c);have aB:=HX.1.sg c (AB hc);have a9:Hid (J+1=j1+(k+1)):=by show _=_;rw[HJ.out];omega
    clear hc;rcases aB with rfl|rfl|rfl
    .obtain⟨_,gj⟩:=yAw HK.2;have zj:(J:Int)<(p.size:Int):=by have:=yAq HK.2;rw[yAe]at this;omega
     have a8:Hid (Calls prog 142 #[.int .u8 ((42:U8).toNat:Int)] wr λe w'=>e=.returned true/\w'=wr):=by have:=yBd 42 wr;rw[decide_eq_true qj]at this;exact this
     have aj:J<p.size:=qo
     go_wp2_with fail;refine a8.mono ?_;rintro e' w9 ⟨rfl,a2⟩;rw[a2];clear a2;go_wp2_with fail;refine(yOo hs HO.1 HO.2.1 ab).mono ?_;rintro e w3 ⟨g3,p3,ρ3,γ3,f3,rfl,a5,a3,a1⟩;have a4:=qH1 (HO.2.2.trans (a1.mono HO.2.2.size));clear a1;go_wp2_with fail;refine(yF0 hs w3).mono ?_;rintro e w5 ⟨g5,p5,ρ5,γ5,f5,rfl,ak,af,a7⟩;have an:=qH1 (yW6 hs (a3.1.k a7 qr) a3.2 a5 af.1 af.2 ak);have ag:=qH1 (a4.trans (a7.mono a4.size));clear a7;go_wp2_with fail;refine an.mono ?_;rintro e w6 ⟨g6,p6,ρ6,γ6,f6,rfl,aa,ae,ac⟩;have aq:=qH1 (ag.trans (ac.mono ag.size));clear ac;have a0:Hid (MatR w6 g6 (s.size+1) ρ6 γ6 f6/\RelW (sb s) f6 (opL (Lg a) (ops.take (k+1)))/\Below w w w6):=⟨ae.1,ae.2.iff (λ_ _ _ _=>rfl) (λx=>by rw[HK.1];exact(xIo _ _ x)),aq.out⟩;exact xFo
    .obtain⟨_,gj⟩:=yAw HK.2;have zj:(J:Int)<(p.size:Int):=by have:=yAq HK.2;rw[yAe]at this;omega
     have a8:Hid (Calls prog 142 #[.int .u8 ((43:U8).toNat:Int)] wr λe w'=>e=.returned true/\w'=wr):=by have:=yBd 43 wr;rw[decide_eq_true qj]at this;exact this
     have aj:J<p.size:=qo
     go_wp2_with fail;refine a8.mono ?_;rintro e' w9 ⟨rfl,a2⟩;rw[a2];clear a2;go_wp2_with fail;refine(yOo hs HO.1 HO.2.1 ab).mono ?_;rintro e w3 ⟨g3,p3,ρ3,γ3,f3,rfl,a5,a3,a1⟩;have a4:=qH1 (HO.2.2.trans (a1.mono HO.2.2.size));clear a1;have a0:Hid (MatR w3 g3 (s.size+1) ρ3 γ3 f3/\RelW (sb s) f3 (opL (Lg a) (ops.take (k+1)))/\Below w w w3):=⟨a3.1,a3.2.iff (λ_ _ _ _=>rfl) (λx=>by rw[HK.1];exact(xIn _ _ x)),a4.out⟩;refine zY ?_;first|exact⟨J+1,k+1,g3,p3,ρ3,γ3,f3,qo,qo,by go_num,rfl,a5,a0,a9⟩|exact⟨J+1,qo,by go_num,g3,p3,rfl,a5,k+1,ρ3,γ3,f3,qo,a0,a9⟩|trace_state
    .obtain⟨_,gj⟩:=yAw HK.2;have zj:(J:Int)<(p.size:Int):=by have:=yAq HK.2;rw[yAe]at this;omega
     have a8:Hid (Calls prog 142 #[.int .u8 ((63:U8).toNat:Int)] wr λe w'=>e=.returned true/\w'=wr):=by have:=yBd 63 wr;rw[decide_eq_true qj]at this;exact this
     have aj:J<p.size:=qo
     go_wp2_with fail;refine a8.mono ?_;rintro e' w9 ⟨rfl,a2⟩;rw[a2];clear a2;go_wp2_with fail;refine(yF0 hs wr).mono ?_;rintro e w5 ⟨g5,p5,ρ5,γ5,f5,rfl,ak,af,a7⟩;have an:=qH1 (yW6 hs (HO.1.k a7 qr) HO.2.1 ab af.1 af.2 ak);have ag:=qH1 (HO.2.2.trans (a7.mono HO.2.2.size));clear a7;go_wp2_with fail;refine an.mono ?_;rintro e w6 ⟨g6,p6,ρ6,γ6,f6,rfl,aa,ae,ac⟩;have aq:=qH1 (ag.trans (ac.mono ag.size));clear ac;have a0:Hid (MatR w6 g6 (s.size+1) ρ6 γ6 f6/\RelW (sb s) f6 (opL (Lg a) (ops.take (k+1)))/\Below w w w6):=⟨ae.1,ae.2.iff (λ_ _ _ _=>rfl) (λx=>by rw[HK.1];exact(xIm _ _ x)),aq.out⟩;exact xFo
   .obtain rfl:k=no:=qo
    have a0:Hid (MatR wr go (s.size+1) ρo γo f/\RelW (sb s) f (Lg t)/\Below w w wr):=by refine⟨HO.1,HO.2.1.iff (λ_ _ _ _=>rfl) (λx=>?_),HO.2.2⟩;rw[AK (by rw[HL.2];exact AA _)];exact HX.2 x
    have ax:Hid (∀wx,Below wr wr wx->Calls prog 225 #[(p.extract J p.size),s] wx (MxG s (LgS ts) wx)):=λwx _=>by rw[HJ.out];exact aD.out wx
    by_cases aj:J<p.size
    .obtain⟨c,hc⟩:∃c,(sb p)[J]?=some c:=qg (by rw[yAe];exact aj);obtain⟨_,gj⟩:=yAw hc;have zj:(J:Int)<(p.size:Int):=qo
     have ar:=HX.1.stop c (by rw[<-HL.1,<-HL.2,<-HJ.out];exact hc);have a8:Hid (Calls prog 142 #[.int .u8 (c.toNat:Int)] wr λe w'=>e=.returned false/\w'=wr):=by have:=yBd c wr;rw[decide_eq_false ar]at this;exact this
     clear hc ar;go_wp2_with fail;refine a8.mono ?_;rintro e' w9 ⟨rfl,a2⟩;rw[a2];clear a2;exact zzU1
    .have zj:¬(J:Int)<(p.size:Int):=qo
     have aG:(J:Int)<=(p.size:Int):=qo
     exact zzU1
theorem xAg{s:List U8}(h:∀i j,i<=j->j<s.length+1->f i j=(decide (j=i+1) && ((s[i]?).map τ).getD false)):RelW s f (λx=>∃c,x= [c]/\τ c=true):=by
 intro i j hij hj;rw[h i j hij (by omega),Bool.and_eq_true,decide_eq_true_eq];constructor
 .rintro⟨rfl,h2⟩;cases hc:s[i]? with
  |none=>rw[hc]at h2;cases h2
  |some c=>rw[hc]at h2;exact⟨c,yCb hc,h2⟩
 .rintro⟨c,hx,hc⟩;have hl:=yAx (p:=s) (i:=i) hj;rw[hx]at hl;have e:j=i+1:=by simp at hl;omega
  subst e;have hi:i<s.length:=by omega
  have h1:=yCb (p:=s) (i:=i) (AL hi);rw[hx]at h1;have h2:c=s[i]:=by simpa using h1
  exact⟨rfl,by rw[AL hi,<-h2];exact hc⟩
theorem nu8{d c:U8}(h:¬d=c):((d.toNat:Int)==(c.toNat:Int))=false:=iC.2 (yA7 (c:=c) h)
theorem u8b(c x:U8):(x==c)=((c.toNat:Int)==(x.toNat:Int)):=by rw[Bool.eq_iff_iff,beq_iff_eq,beq_iff_eq];exact⟨λq=>by rw[q],λq=>UInt8.toNat_inj.1 qo⟩
theorem zAtE{p:Prop}(h:p:=by (try(rw[<-a1];clear a1));go_wp2_with fail;refine⟨⟨k+1,upd2 f k (k+1) _,qo,by go_num,by first|exact HJ2.out _ (.inl rfl)|exact HJ2.out _ (.inr rfl)⟩,?_⟩;go_light;simp[intOf];omega):p:=h
theorem atm{φ:U8->Bool}(hs:s.size<=200)(q:Ba)(d:U8)(hq:(sb q)[0]?=some d)(hP:∀x,(∃c,x= [c]/\φ c=true)↔P x)(h40:((d.toNat:Int)==40)=false)(K:Hid ((((d.toNat:Int)==46)=true/\((d.toNat:Int)==92)=false/\((d.toNat:Int)==91)=false/\∀x,φ x=true)\/((d.toNat:Int)==46)=false/\Hid ((((d.toNat:Int)==92)=false/\((d.toNat:Int)==91)=false/\∀x:U8,φ x=((d.toNat:Int)==(x.toNat:Int)))\/(((d.toNat:Int)==92)=true/\((d.toNat:Int)==91)=false/\∃c,(sb q)[1]?=some c/\∀x:U8,φ x=((c.toNat:Int)==(x.toNat:Int)))\/((d.toNat:Int)==92)=false/\((d.toNat:Int)==91)=true/\∀(b:U8)(wx:Ww),Calls prog 255 #[q,.int .u8 (b.toNat:Int)] wx λe w'=>e=.returned (φ b)/\w'=wx))) w:Calls prog 240 #[q,s] w (MxG s P w):=by
 obtain⟨_,gq⟩:=yAw hq;have zq:(0:Int)<(q.size:Int):=by have:=qf hq;rw[yAe]at this;omega
 have a4:Hid (Calls prog 223 #[xi s.size] w (MaP (s.size+1) (λ_ _=>false) w)):=yCu s.size qo w;clear hq;go_enter func240,ntmps240;go_wp2_with fail;refine a4.mono ?_;rintro r w1 ⟨g,cp,ρ,γ,rfl,HM,a3⟩;have hcp:=HM.out.out.caps;go_wp2;go_loopw[6] (λiv wr=>∃(k:Nat)(f:Nat->Nat->Bool),k<=s.size/\iv=(xi k)/\Hid (MatO wr w g cp (s.size+1) (s.size+1) ρ γ f/\(∀i j,i<=j->j<s.size+1->f i j=(decide (j=i+1) && (((sb s)[i]?).map φ).getD false && decide (i<k)))/\Below w w wr)) (λiv _=>s.size-(intOf iv).toNat);case atStart=>exact⟨0,_,AD _,rfl,HM.out,λi j _ _=>by simp,a3⟩
 case round=>
  obtain⟨k,f,hk,rfl,HJ⟩:=hrel;by_cases hlt:k<s.size
  .have zk:(k:Int)<(s.size:Int):=qo
   obtain⟨x,hx⟩:∃x,(sb s)[k]?=some x:=qg (by rw[yAe];exact hlt);obtain⟨_,gx⟩:=yAw hx;have c0:(xk wr g k (slV (ρ k) (s.size+1) (γ k)):Prop):=HJ.1.z qo;have a0:k<s.size+1:=qo
   have c1:(xk wr (ρ k) (k+1) (f k (k+1)):Prop):=(HJ.1.j k a0).z qo;have y1:wr.frozen? (xd (ρ k) (k+1))=false:=World.ownsRow.frozenAt (HJ.1.j k a0) _;have a8:=(HJ.1.j k a0).caps;obtain⟨bv,a1⟩:=qE (φ x);have HJ2:Hid (∀W,W=(wr.setCell (xd (ρ k) (k+1)) bv).drew\/W=(wr.setCell (xd (ρ k) (k+1)) bv).drew.drew->MatO W w g cp (s.size+1) (s.size+1) ρ γ (upd2 f k (k+1) bv)/\(∀i j,i<=j->j<s.size+1->upd2 f k (k+1) bv i j=(decide (j=i+1) && (((sb s)[i]?).map φ).getD false && decide (i<k+1)))/\Below w w W):=by
    intro W hW;have a5:MatO W w g cp (s.size+1) (s.size+1) ρ γ (upd2 f k (k+1) bv)/\Below w w W:=by rcases hW with rfl|rfl;exact⟨(HJ.1.set a0 qo bv).k ((Below.refl _ _).drew),(yAc HJ.2.2 (HJ.1.j k a0).lt.1 _ _).drew⟩;exact⟨(HJ.1.set a0 qo bv).k ((Below.refl _ _).drew.drew),(yAc HJ.2.2 (HJ.1.j k a0).lt.1 _ _).drew.drew⟩
    refine⟨a5.1,λi j hij hj=>?_,a5.2⟩;unfold upd2;by_cases e:i=k/\j=k+1
    .rw[iB e,e.1,e.2,hx,a1];simp
    .rw[iA e,HJ.2.1 i j hij hj];by_cases e2:j=i+1
     .have h1:i≠k:=λq=>e ⟨q,qo⟩;have h2:decide (i<k)=decide (i<k+1):=by rw[decide_eq_decide];omega
      rw[h2]
     .simp[e2]
   clear hx;rcases K.out with ⟨z46,z92,z91,e⟩|⟨z46,K⟩
   .obtain rfl:bv=true:=a1.trans (e x);clear a1;go_upto_region 7 with fail;refine yAf 99 (λ_=>True) qk ?_;refine ja 0 AE ?_;refine jb AE ?_;refine ja 2 AE (v:=true) ?_;iterate 8 refine jb AE ?_
    refine kO 11 AE ?_;refine qD ?_;exact zAtE
   .go_upto_region 7 with fail;refine yAf 99 (λ_=>True) qk ?_;refine ja 0 AE ?_;refine jb AE ?_;refine ja 2 AE (v:=false) ?_;iterate 8 refine jb AE ?_
    refine kO 11 AE ?_;refine qD ?_;rcases K.out with ⟨z92,z91,e⟩|⟨z92,z91,c,h1,e⟩|⟨z92,z91,e⟩
    .rw[e x]at a1;exact zAtE
    .rw[e x]at a1;obtain⟨_,aa⟩:=yAw h1;have a5:(1:Int)<(q.size:Int):=by have:=qf h1;rw[yAe]at this;omega
     clear h1 e;go_upto_region 9 with fail;refine yAf 99 (λ_=>True) qk ?_;refine ja 0 AE ?_;iterate 5 refine jb AE ?_
     refine kO 6 AE ?_;refine qD ?_;exact zAtE
    .go_wp2_with fail;refine(e x _).mono ?_;rintro e wh ⟨rfl,a2⟩;rw[a2];exact zAtE
  .obtain rfl:k=s.size:=qo
   have zk:¬(s.size:Int)<(s.size:Int):=qo
   go_wp2;go_ret;refine⟨g,cp,ρ,γ,f,rfl,hcp.1,⟨HJ.1.read,(xAg (τ:=φ) (λi j hij hj=>?_)).iff (λ_ _ _ _=>rfl) (λy=>(hP y).symm)⟩,HJ.2.2⟩;rw[yAe]at hj;rw[HJ.2.1 i j hij hj];by_cases e:j=i+1
   .have h1:i<s.size:=qo
    simp[h1]
   .simp[e]
theorem yZd(H:AltW s m)(q:Ba)(ys:List U8)(n:Nat)(os:List (List Pat))(hq:sb q=40::ys++ [41])(hqm:q.size<=m+1)(hqs:q.size<=200)(hG:AltG (yAn n) os ys) w:Calls prog 240 #[q,s] w (MxG s (LgA os) w):=by
 have a0:q.size=ys.length+2:=by rw[<-yAe,hq];simp
 have⟨d,hd⟩:=qE (40:U8);have⟨_,gq⟩:=yAw (s:=q) (i:=0) (x:=d) (by rw[hq,hd];rfl);have a2:((d.toNat:Int)==40)=true:=by rw[hd];rfl
 have zq:(0:Int)<(q.size:Int):=qo
 have hx:sb (q.extract 1 (q.size-1))=ys:=by rw[yBz q qo,hq,a0];simp[cut]
 have HC:=qH1 (H n os _ w (by rw[<-yAe,hx];omega) (by rw[<-yAe,hx];omega) (hx▸hG));have⟨M,hM⟩:=qE (q.size-1);have z1:(1:Int)<=(M:Int):=qo
 have z2:(M:Int)<=(q.size:Int):=qo
 have z3:((q.size:Int)-1)=(M:Int):=qo
 have z4:=hqs;rw[<-hM]at HC;clear hq hqm hqs hG hx hd a0 hM;go_enter func240,ntmps240;go_wp2_with fail;apply HC.mono;rintro r w1 ⟨g,cp,ρ,γ,f,rfl,a1,HM,hb⟩;go_wp2;go_ret;exact⟨g,cp,ρ,γ,f,rfl,a1,HM,hb⟩
theorem yHr(c k:Int)(w:Ww):(Instr.field 158 (.agg #[xi c,xi k]) 0).run prog w=.ok (xi c) w:=qk
theorem xBg(hs:s.size<=200)(H:AltW s m):AtmW s (m+1):=by
 intro n t q w a1 hq hG;cases n with
 |zero=>exact hG.elim
 |succ n=>
  rcases hG with⟨c,h1,h2,rfl⟩|⟨h1,rfl⟩|⟨c,h1,rfl⟩|⟨ys,os,h1,h2,rfl⟩|⟨p,i,k,f,h1,h2,h3,rfl⟩
  .unfold yB3 at h2;exact atm (φ:=λx=>x==c) hs q c (by rw[h1];rfl) (λ_=>by simp[Lg]) (nu8 (c:=40) λe=>h2 (.inr (.inl e))) (.inr ⟨nu8 (c:=46) λe=>h2 (.inr (.inr (.inr (.inl e)))),.inl ⟨nu8 (c:=92) λe=>h2 (.inr (.inr (.inr (.inr e)))),nu8 (c:=91) λe=>h2 (.inr (.inr (.inl e))),u8b c⟩⟩) w
  .exact atm (φ:=λ_=>true) hs q 46 (by rw[h1];rfl) (λ_=>Iff.rfl) rfl (.inl ⟨rfl,rfl,rfl,λ_=>rfl⟩) w
  .exact atm (φ:=λx=>x==c) hs q 92 (by rw[h1];rfl) (λ_=>by simp[Lg]) rfl (.inr ⟨rfl,.inr (.inl ⟨rfl,rfl,c,by rw[h1];rfl,u8b c⟩)⟩) w
  .exact yZd H q ys n os h1 a1 hq h2 w
  .have hg:=yBe h2;have a2:=hg.2;have hl:(sb q).length=k-i:=by rw[h3,yAx a2]
   have a0:∀t,i+t<k->(sb q)[t]?=p[i+t]?:=λt ht=>by rw[h3];unfold cut;rw[getElem?_take,iB qo,getElem?_drop]
   have e:=yFl (q:=sb q) (j:=1) h2 (λt ht=>by rw[a0 (1+t) qo];congr 1;omega)
   refine atm hs q 91 (by rw[a0 0 qo];exact h1) (λ_=>Iff.rfl) rfl (.inr ⟨rfl,.inr (.inr ⟨rfl,rfl,λb=>yO7 q hq b f ?_⟩)⟩) w;rw[e];have:1+(k-(i+1))=q.size:=by rw[<-yAe,hl];omega
   rw[this]
theorem yZ8(hs:s.size<=200):SeqW s 0:=by
 intro n ts p w a3 hp hG;have h0:sb p= []:=AW.1 (by rw[yAe];omega);cases ts with
 |nil=>
  have hz:p.toList= []:=by rw[AI];exact h0
  have q1:(p.toList== [])=true:=by rw[hz];rfl
  have HE:=qH1 (yF0 hs w);go_enter func225,ntmps225;go_wp2_with fail;apply HE.mono;rintro e w1 ⟨g1,p1,ρ1,γ1,f1,rfl,a1,a0,a2⟩;have HR:Hid (MxG s (LgS []) w (.returned (slV g1 (s.size+1) p1)) w1):=⟨g1,p1,ρ1,γ1,f1,rfl,a1,⟨a0.1,a0.2.iff (λ_ _ _ _=>rfl) (λx=>by simp[LgS])⟩,a2⟩;go_wp2;go_ret;exact HR.out
 |cons t ts=>
  have⟨a,as_,ops,hX,_⟩:=yWm hG;have h1:=hX.X;have h2:=hX.le;omega
theorem yJn(hs:s.size<=200):∀m,SeqW s m
 |0=>yZ8 hs
 |m+1=>yZ9 hs (xBg hs (yT2 hs (yJn hs m))) (yJn hs m)
theorem yZf(hs:s.size<=200)(m:Nat):AltW s m:=yT2 hs (yJn hs m)
theorem yGz(p s:Ba)(hpm:p.size<=maxLen)(hc0:¬(yA0 (sb p)).1=0)(w:Ww):(xf 169 #[p,s] w false:Prop):=by
 have⟨c,hc⟩:=qE ((yA0 (sb p)).1);have⟨k,hk⟩:=qE (((yA0 (sb p)).2:Int):Int);have HS:Hid (∀w,(xf 89 #[p] w (.agg #[xi c,xi k]):Prop)):=λw=>by rw[hc,hk];exact yBm p w hpm
 have a0:=yHr c k;rw[<-hc]at hc0;clear hc hk;exact xB1
theorem yKt(p s:Ba)(hpm:p.size<=maxLen)(hs:200<s.size)(w:Ww):(xf 169 #[p,s] w false:Prop):=by
 by_cases hc0:(yA0 (sb p)).1=0
 .have⟨k,hk⟩:=qE (((yA0 (sb p)).2:Int):Int);have HS:Hid (∀w,(xf 89 #[p] w (.agg #[xi 0,xi k]):Prop)):=λw=>by rw[<-hc0,hk];exact yBm p w hpm
  have a0:=yHr 0 k;have zs:¬(s.size:Int)<=200:=qo
  clear hk hc0;exact xB1
 .exact yGz p s hpm hc0 w
theorem yOa(p s:Ba)(hpm:p.size<=maxLen)(hc0:(yA0 (sb p)).1=0)(hs:s.size<=200)(n:Nat)(os:List (List Pat))(hG:AltG (yAn n) os (sb p))(w:Ww):Calls prog 169 #[p,s] w λe w'=>∃b:Bool,e=.returned b/\Hid (b=true↔LgA os (sb s))/\Below w w w':=by
 have hp:p.size<=200:=by apply Classical.byContradiction;intro h6;unfold yA0 at hc0;rw[iB (by rw[yAe];omega)]at hc0;exact absurd hc0 qj
 have⟨k,hk⟩:=qE (((yA0 (sb p)).2:Int):Int);have HS:Hid (∀w,(xf 89 #[p] w (.agg #[xi 0,xi k]):Prop)):=λw=>by rw[<-hc0,hk];exact yBm p w hpm
 have HA:Hid (∀w,Calls prog 205 #[p,s] w (MxG s (LgA os) w)):=λw=>yZf hs 200 n os p w hp hp hG;have a1:=yHr 0 k;have zs:(s.size:Int)<=200:=qo
 clear hk hc0 hG;go_enter func169,ntmps169;go_wp2_with fail;apply (HS.out _).mono;rintro e w1 ⟨rfl,a0⟩;go_wp2_with fail;refine(HA.out _).mono ?_;rintro e w2 ⟨g,cp,ρ,γ,f,rfl,a2,HM,hb2⟩;have c0:=HM.1.out 0 qo;have c1:=HM.1.j 0 s.size qo qo;have a3:=HM.1.cap 0 qo;have z9:(s.size:Int)<((s.size+1:Nat):Int):=qo
 have z8:(s.size:Int)<(s.size:Int)+1:=qo
 have z7:(0:Int)<(s.size:Int)+1:=qo
 have HB:Hid (f 0 s.size=true↔LgA os (sb s)):=by
  have h:=HM.2 0 s.size qo (by rw[yAe];omega);have e:cut (sb s) 0 s.size=sb s:=by unfold cut;rw[drop_zero,AY,<-yAe,take_length]
  rw[e]at h;exact h
 go_wp2;go_ret;exact⟨_,rfl,HB,a0.trans (hb2.mono a0.size)⟩
theorem yA8(c:U8) w:Calls prog 208 #[.int .u8 (c.toNat:Int)] w λe w'=>e=.returned (decide (yB3 c))/\w'=w:=by
 by_cases h42:c=42
 .subst h42;exact yKm
 by_cases h43:c=43
 .subst h43;exact yKm
 by_cases h63:c=63
 .subst h63;exact yKm
 by_cases h124:c=124
 .subst h124;exact yKm
 by_cases h40:c=40
 .subst h40;exact yKm
 by_cases h41:c=41
 .subst h41;exact yKm
 by_cases h91:c=91
 .subst h91;exact yKm
 by_cases h93:c=93
 .subst h93;exact yKm
 by_cases h46:c=46
 .subst h46;exact yKm
 by_cases h92:c=92
 .subst h92;exact yKm
 have a6:((c.toNat:Int)==42)=false:=iC.2 (yA7 (c:=42) h42);have a5:((c.toNat:Int)==43)=false:=iC.2 (yA7 (c:=43) h43);have a3:((c.toNat:Int)==63)=false:=iC.2 (yA7 (c:=63) h63);have a9:((c.toNat:Int)==124)=false:=iC.2 (yA7 (c:=124) h124);have a8:((c.toNat:Int)==40)=false:=iC.2 (yA7 (c:=40) h40);have a7:((c.toNat:Int)==41)=false:=iC.2 (yA7 (c:=41) h41);have a2:((c.toNat:Int)==91)=false:=iC.2 (yA7 (c:=91) h91);have a0:((c.toNat:Int)==93)=false:=iC.2 (yA7 (c:=93) h93);have a4:((c.toNat:Int)==46)=false:=iC.2 (yA7 (c:=46) h46);have a1:((c.toNat:Int)==92)=false:=iC.2 (yA7 (c:=92) h92);have H:Hid (decide (yB3 c)=false):=decide_eq_false (λq=>by rcases q with((q|q|q)|q|q|q)|q|q|q|q<;>contradiction);go_enter func208,ntmps208;go_wp2;go_ret;exact⟨by rw[H.out];rfl,rfl⟩
theorem yD3(w:Ww)(hgd:oo.guard=none) s x
  (ho:oo.op=.call {callee:=.builtin .append,args:=#[s,x],argTypes:=#[275,275]})
  (O gq cp n b:Nat) (us:List Vv) (y:Vv) (hs:a.eval s=(xg gq n cp)) (hx:a.eval x=.slice (some ⟨b,0,none⟩) 1 1) (hn:n=us.length) (hO:yEg w O gq cp us)
  (hc:w.cell? (xd b 0)=some y) (hy:y.oneCell'=true) (hlen:us.length<=1000) (hbase:O<=w.heap.size)
  (h:∀g' cp' w',yEg w' O g' cp' (us++ [y])->w.grownBy w' (some gq)->(g'=gq\/g'=w.heap.size)->wpList prog ops Q rest (a.put oo.dst (.slice (some ⟨g',0,none⟩) (n+1) cp')) w'):wpList prog ops Q (oo::rest) a w:=by
 subst hn;obtain⟨i,hi,a4,a3,a2⟩:=info_parts Tryz.infoStr;refine wpList_append_own_at w hgd s x 275 ho O 9 i _ 1 16 underlying275 hi a4 a3 a2 rfl qj (xg gq us.length cp) us.length us hs hO (xd b 0) 1 1 [y] hx rfl ?_ ?_ ?_ ?_ hbase ?_
 .exact xGd
 .intro u hu;simp at hu;subst hu;exact hy
 .unfold maxLen;omega
 .omega
 .intro v' w' a1 a6 a5 a0;rcases a1.2 with⟨h0,_⟩|⟨g',a7,cur,hv,_,_,hn,a8,_,_⟩
  .have:=(a5.1 h0).1;cases this
  .subst hv;refine h g' a7 w' ?_ a6 ?_
   .unfold yEg;rw[AP];exact a1
   .simp[Value.ownBlock]at a0;exact a0
structure PaJ(p:Ba)(n k:Nat)(w:Ww)(j m g cp:Nat)(us:List Vv)(wr:Ww):Prop where
 tok:TokN (yAn n) m (cut (sb p) j p.size)
 cnt:us.length+m=k
 Z:yEg wr w g cp us
 k:Below w w wr
theorem PaJ.K{k:Nat}(h:PaJ p n k w j m g cp us wr)(hb:Below wr wr w')(ht:TokN (yAn n) m' (cut (sb p) j' p.size))(hm:m=m'):PaJ p n k w j' m' g cp us w':=
 ⟨ht,by rw[<-hm];exact h.cnt,h.Z.k hb,h.k.trans (hb.mono h.k.size)⟩
theorem yO5(hp:p.size<=200){k:Nat}(h:TokN (yAn n) k (cut (sb p) 0 p.size))(w:Ww):Calls prog 206 #[p] w λe w'=>∃g cp,e=.returned (xg g (k+1) cp)/\Below w w w':=by
 have az:k<=200:=by have h1:=yQh h;rw[yAx (by rw[yAe];exact AA _)]at h1;omega
 have ai:p.size<=(sb p).length:=by rw[yAe];exact AA _
 have a8:=qH1 ai;obtain⟨W0,ac⟩:=qW (xw w #[] 9);have al:Hid (PaJ p n k w 0 k w 0 [] W0):=by rw[ac];exact⟨h,by simp,yLi w qr,qB⟩
 clear h ai;go_enter func206,ntmps206;go_upto_region 2 with fail;rw[<-ac];clear ac;go_wp2;go_loopw[3,4,5] (λo fv jv wr=>∃(j f m g cp:Nat)(us:List Vv),jv=(xi j)/\fv=(xi f)/\f<=j/\j<=p.size/\us.length<=k/\o=(xg g us.length cp)/\PaJ p n k w j m g cp us wr) (λ_ _ jv _=>p.size-(intOf jv).toNat);case atStart=>exact⟨0,0,k,_,0,[],rfl,rfl,AA _,AD _,AD _,rfl,al.out⟩
 case round=>
  obtain⟨j,f,m,g,cp,us,rfl,rfl,aF,aB,ag,rfl,hJ⟩:=hrel;have HJ:=qH1 hJ;have aE:=hJ.Z.lt;have ah:=hJ.k.size;clear hJ al;have z1:(f:Int)<=(j:Int):=qo
  have z2:(j:Int)<=(p.size:Int):=qo
  by_cases hlt:j<p.size
  .have zj:(j:Int)<(p.size:Int):=qo
   rcases yJb HJ.tok with⟨h0,_⟩|⟨m',zs,h0,hm,hT⟩|⟨c,zs,h0,a6,hT⟩|⟨ys,zs,t,h0,hA,hT⟩
   .have h3:=yAx (p:=sb p) (i:=j) a8.out;rw[h0]at h3;simp at h3;omega
   .obtain⟨a0,a4,_⟩:=yCk h0 a8.out;obtain⟨_,gj⟩:=yAw a0;have HT:=qH2 (by rw[a4];exact hT:TokN (yAn n) m' (cut (sb p) (j+1) p.size)) hm;clear h0 hT hm a0 a4;go_wp2_with (at_builtin;refine yD3 _ rfl _ _ rfl w g cp us.length wr us (p.extract f j) rfl rfl rfl ?hO ?hc ?hy ?hl ?hb ?_);case hO=>exact HJ.Z.k (qB)
    case hc=>simp
    case hy=>rfl
    case hl=>omega
    case hb=>simp;omega
    intro g' a5 w' a7 a3 ab;have am:Hid (∃y,PaJ p n k w (j+1) m' g' a5 (us++ [y]) w'/\us.length+1<=k):=by refine⟨_,⟨HT.1,by have:=HJ.cnt;have:=HT.2;simp;omega,a7,?_⟩,qv HJ.cnt HT.2⟩;exact(HJ.k.trans ((Below.refl _ _).alloc ah _)).grown a3 (by simp;omega) (λj hj=>by cases hj;omega)
    clear a7 a3 ab;obtain⟨y,ak,aA⟩:=am.out;have aw:Hid (PaJ p n k w (j+1) m' g' a5 (us++ [y]) w'):=ak;clear ak am;refine zY ?_;exact⟨j+1,j+1,m',g',a5,us++ [y],by go_num,by go_num,AA _,qo,by simp;omega,by simp,aw.out⟩
   .obtain⟨a0,a4,_⟩:=yCk h0 a8.out;obtain⟨_,gj⟩:=yAw a0;have HT:Hid (TokN (yAn n) m (cut (sb p) (j+1) p.size)):=by show TokN (yAn n) m (cut (sb p) (j+1) p.size);rw[a4];exact hT
    have an:((c.toNat:Int)==124)=false:=iC.2 (yA7 (c:=124) (λq=>by subst q;exact absurd a6 qj));have ad:Hid (Calls prog 142 #[.int .u8 (c.toNat:Int)] wr λe w'=>e=.returned true/\w'=wr):=by have:=yBd c wr;rw[decide_eq_true a6]at this;exact this
    clear h0 hT a0 a4 a6;go_wp2_with fail;refine ad.mono ?_;rintro e' w5 ⟨rfl,a2⟩;rw[a2];clear a2;refine zY ?_;exact⟨j+1,f,m,g,cp,us,by go_num,rfl,qo,qo,ag,rfl,HJ.K (Below.refl _ _) HT.out rfl⟩
   .obtain⟨a9,hy2,ar⟩:=yR0 h0 a8.out;obtain⟨c,yt,a1,ao,af,ae⟩:=hA.first;have aq:0<ys.length:=by rw[a1];simp
    have au:j+ys.length<=p.size:=qo
    obtain⟨a0,_,_⟩:=yCk (c:=c) (zs:=yt) (by rw[a9];exact a1) (by rw[yAe];omega);obtain⟨_,gj⟩:=yAw a0;have an:((c.toNat:Int)==124)=false:=iC.2 (yA7 (c:=124) af);have ad:Hid (Calls prog 142 #[.int .u8 (c.toNat:Int)] wr λe w'=>e=.returned false/\w'=wr):=by have:=yBd c wr;rw[decide_eq_false ae]at this;exact this
    obtain⟨i2,aa⟩:=qE (j+ys.length);have HT:Hid (TokN (yAn n) m (cut (sb p) i2 p.size)):=by show TokN (yAn n) m (cut (sb p) i2 p.size);rw[aa,hy2];exact hT
    have ax:Hid ((xf 207 #[p,xi j] wr (xi i2):Prop)):=by rw[aa];exact yJ5 hp n j (j+ys.length) t wr (by rw[a9];exact hA) qo
    have aD:j<i2:=qo
    have aC:i2<=p.size:=qo
    clear h0 hT hA a9 hy2 ar a1 a0 ao af ae aa aq au;go_wp2_with fail;refine ad.mono ?_;rintro e' w5 ⟨rfl,a2⟩;rw[a2];clear a2;go_wp2_with fail;refine ax.mono ?_;rintro e' w6 ⟨rfl,aj⟩;have av:=qH1 (HJ.K aj HT.out rfl);clear aj;refine zY ?_;exact⟨i2,f,m,g,cp,us,rfl,rfl,qo,qo,ag,rfl,av.out⟩
  .have zj:¬(j:Int)<(p.size:Int):=qo
   obtain rfl:j=p.size:=qo
   have ay:m=0:=by
    rcases yJb HJ.tok with⟨_,h0⟩|⟨m',zs,h0,hm,hT⟩|⟨c,zs,h0,a6,hT⟩|⟨ys,zs,t,h0,hA,hT⟩
    .exact h0
    .rw[yDm]at h0;cases h0
    .rw[yDm]at h0;cases h0
    .rw[yDm]at h0;obtain⟨c,yt,a1,_⟩:=hA.first;rw[a1]at h0;cases h0
   have HM:Hid (us.length=k):=by have:=HJ.cnt;show us.length=k;omega
   go_wp2_with (at_builtin;refine yD3 _ rfl _ _ rfl w g cp us.length wr us (p.extract f p.size) rfl rfl rfl ?hO ?hc ?hy ?hl ?hb ?_);case hO=>exact HJ.Z.k (qB)
   case hy=>rfl
   case hl=>omega
   case hb=>first|omega|(simp;omega)
   intro g' a5 w' a7 a3 ab;have HB:=qH1 ((HJ.k.trans ((Below.refl _ _).alloc ah _)).grown a3 (by simp;omega) (λj hj=>by cases hj;omega));clear a7 a3 ab;go_wp2;go_ret;refine⟨g',a5,?_,HB.out⟩;rw[<-HM.out];first|rfl|trace_state
structure PsJ(p:Ba)(n:Nat)(w:Ww)(ts:List Pat)(i g cp:Nat)(xs:List U8)(us:List Pat)(wr:Ww):Prop where
 seq:SeqG (yAn n) us (cut (sb p) i p.size)
 pre:yBa ts=(xs++(yBa us).1,(yBa us).2)
 Z:OwnY wr (w+1) g cp xs
 res:yA wr w 268 2 w [xe,false]
 k:Below w w wr
theorem PsJ.K{i:Nat}{xs:List U8}{us:List Pat}(h:PsJ p n w ts i g cp xs us wr)(hb:Below wr wr w'):PsJ p n w ts i g cp xs us w':=
 ⟨h.seq,h.pre,h.Z.k hb,h.res.k hb,h.k.trans (hb.mono h.k.size)⟩
theorem yWr(c k:Int)(w:Ww):(Instr.field 158 (.agg #[xi c,xi k]) 0).run prog w=.ok (xi c) w:=qk
theorem yJe(p:Ba)(w:Ww)(hpm:p.size<=maxLen)(r:List U8×Bool)(hr:yT4 p r):(xf 171 #[p] w (.agg #[.string ⟨r.1.toArray⟩,r.2]):Prop):=by
 have HR:=qH1 hr;clear hr;obtain⟨W0,ae⟩:=qW (xw w #[xe,false] 268);have a6:Hid (yA W0 w 268 2 w [xe,false]/\Below w w W0/\w.heap.size+1<=W0.heap.size):=by rw[ae];exact⟨yAa w _ qr rfl,qB,by simp⟩
 obtain⟨c,hc⟩:=qE ((yA0 (sb p)).1);obtain⟨k,hk⟩:=qE (((yA0 (sb p)).2:Int):Int);have HC:=qH1 hc;have HS:Hid (∀w,(xf 89 #[p] w (.agg #[xi c,xi k]):Prop)):=λw=>by rw[hc,hk];exact yBm p w hpm
 have aB:=yWr c k;clear hc hk;have zero:∀w2:Ww,yA w2 w 268 2 w [xe,false]->Below w w w2->Hid (yA (xt (w2.setCell (xd w 0) xe) w 1 false) w 268 2 w [xe,false]/\Below w w (xt (w2.setCell (xd w 0) xe) w 1 false)):=λw2 h1 h2=>
  ⟨yCs h1 _ _,yAc (yAc h2 qr 0 _) qr 1 _⟩
 have HZ:=qH1 zero;clear zero;go_enter func171,ntmps171;go_upto_region 1 with fail;rw[<-ae];clear ae;have s0:=a6.2.1.size;by_cases hc0:c=0
 .have q0:(yA0 (sb p)).1=0:=by rw[<-HC.out];exact hc0
  obtain⟨os,ho⟩:=yQy p q0;have hp:p.size<=200:=by apply Classical.byContradiction;intro h6;unfold yA0 at q0;rw[iB (by rw[yAe];omega)]at q0;exact absurd q0 qj
  have af:=qH1 (HR.2 q0 os ho);obtain⟨n,hg⟩:=ho.gr;obtain⟨m,hm,hT⟩:=hg.tokn;have HT:=qH3 hm hT hg;subst hc0;clear q0 ho hg hm hT HR HC;go_wp2_with fail;refine(HS.out W0).mono ?_;rintro e w1 ⟨rfl,a4⟩;have a3:=qH3 (a6.1.k a4) (a6.2.1.trans (a4.mono s0)) (by have:=a6.2.2;have:=a4.size;omega:w.heap.size+1<=w1.heap.size);have s1:=a3.2.1.size;clear a4 a6 HS;go_wp2_with fail;refine(yO5 hp HT.2.1 w1).mono ?_;rintro e w2 ⟨g2,aC,rfl,hb2⟩;have a5:=qH3 (a3.1.k hb2) (a3.2.1.trans (hb2.mono s1)) (by have:=a3.2.2;have:=hb2.size;omega:w.heap.size+1<=w2.heap.size);clear hb2 a3;obtain⟨r0,r1⟩:=a5.1.c2;obtain⟨f0,f1⟩:=a5.1.f2;by_cases hm0:m=0
  .subst hm0;obtain⟨ts,aq,hS⟩:∃ts,r=yBa ts/\SeqG (yAn n) ts (cut (sb p) 0 p.size):=by
    have h1:=HT.1;have h2:=HT.2.2;have h3:=af.out;match os,h1,h2,h3 with
    | [ts],_,h2,h3=>exact⟨ts,h3,h2⟩
   subst aq;have ao:=a5.2.2;obtain⟨W3,aa⟩:=qW (xw w2 #[] 5);have an:Hid (PsJ p n w ts 0 w2 0 [] ts W3):=by
    have al:=qN aa
    refine⟨hS,by simp,?_,a5.1.k al,a5.2.1.trans (al.mono qo)⟩;rw[aa];exact yT w2 ao
   clear hS a5 HT af r0 r1 f0 f1 HZ;go_upto_region 4 with fail;rw[<-aa];clear aa;go_wp2;go_loopw[3,4] (λo iv wr=>∃(i g cp:Nat)(xs:List U8)(us:List Pat),iv=(xi i)/\i<=p.size/\xs.length<=i/\o=(xg g xs.length cp)/\PsJ p n w ts i g cp xs us wr) (λ_ iv _=>p.size-(intOf iv).toNat);case atStart=>exact⟨0,_,0,[],ts,rfl,AD _,AD _,rfl,an.out⟩
   case round=>
    obtain⟨i,g,cp,xs,us,rfl,az,aw,rfl,hJ⟩:=hrel;have HJ:=qH1 hJ;have aA:=hJ.Z.lt;have ax:=hJ.k.size;clear hJ an;by_cases hlt:i<p.size
    .have zi:=qo
     obtain⟨t,us',j,c,a,ah,a8⟩:=yMn HJ.seq (by rw[yAe];exact AA _) hlt;have a7:=qH2 ah a8;have hij:=a8.lt;have ar:=a8.le;obtain⟨_,gi⟩:=yAw a8.at0;clear ah a8;go_wp2_with fail;refine(yJ5 hp n i j a wr a7.2.atom ar).mono ?_;rintro e w6 ⟨rfl,ad⟩;have HJ6:=qH1 (HJ.K ad);have ay:=ad.size;clear ad HJ;rcases a7.2.what with⟨b,rfl,hs,hn,hb,hS⟩|⟨ak,hw⟩
     .obtain⟨j0,rfl⟩:∃j0,j=j0+1:=⟨j-1,qo⟩;obtain⟨_,gb⟩:=yAw (show(sb p)[j0]?=some b from hb);have HB:=qH2 hn hS;have HP:Hid (yBa ts=(xs++ [b]++(yBa us').1,(yBa us').2)):=by show yBa ts=_;rw[HJ6.pre,a7.1];simp[yBa]
      have au:=qo
      clear hn hb hS a7;by_cases ac:j0+1<p.size
      .obtain⟨d,hd⟩:∃d,(sb p)[j0+1]?=some d:=qg (by rw[yAe];exact ac);obtain⟨_,gd⟩:=yAw hd;have aj:=HB.1 d hd ac;have ag:=qo
       have a9:Hid (Calls prog 142 #[.int .u8 (d.toNat:Int)] w6 λe w'=>e=.returned false/\w'=w6):=by have:=yBd d w6;rw[decide_eq_false aj]at this;exact this
       clear hd aj;rcases hs with hs|rfl
       .skip;have a1:Hid (Calls prog 208 #[.int .u8 (c.toNat:Int)] w6 λe w'=>e=.returned false/\w'=w6):=by have:=yA8 c w6;rw[decide_eq_false hs]at this;exact this
        clear hs;go_wp2_with fail;refine a1.mono ?_;rintro e' w7 ⟨rfl,a0⟩;rw[a0];clear a0;go_wp2_with fail;refine a9.mono ?_;rintro e' w8 ⟨rfl,a2⟩;rw[a2];clear a2;go_wp2_with (at_builtin;refine yBy _ rfl _ _ rfl (w+1) g cp xs.length w6 0 1 1 xs [b] rfl rfl rfl rfl ?hO ?hc ?hl ?hb ?_);case hO=>exact HJ6.Z.k (qB)
        case hc=>exact(yG3 w6 qr b rfl).at
        case hl=>first|omega|(simp;omega)
        case hb=>first|omega|(simp;omega)
        exact yZu
       .skip;have a1:=qH1 (yA8 92 w6);go_wp2_with fail;refine a1.mono ?_;rintro e' w7 ⟨rfl,a0⟩;rw[a0];clear a0;go_wp2_with fail;refine a9.mono ?_;rintro e' w8 ⟨rfl,a2⟩;rw[a2];clear a2;go_wp2_with (at_builtin;refine yBy _ rfl _ _ rfl (w+1) g cp xs.length w6 0 1 1 xs [b] rfl rfl rfl rfl ?hO ?hc ?hl ?hb ?_);case hO=>exact HJ6.Z.k (qB)
        case hc=>exact(yG3 w6 qr b rfl).at
        case hl=>first|omega|(simp;omega)
        case hb=>first|omega|(simp;omega)
        exact yZu
      .have ag:=qo
       rcases hs with hs|rfl
       .skip;have a1:Hid (Calls prog 208 #[.int .u8 (c.toNat:Int)] w6 λe w'=>e=.returned false/\w'=w6):=by have:=yA8 c w6;rw[decide_eq_false hs]at this;exact this
        clear hs;go_wp2_with fail;refine a1.mono ?_;rintro e' w7 ⟨rfl,a0⟩;rw[a0];clear a0;go_wp2_with (at_builtin;refine yBy _ rfl _ _ rfl (w+1) g cp xs.length w6 0 1 1 xs [b] rfl rfl rfl rfl ?hO ?hc ?hl ?hb ?_);case hO=>exact HJ6.Z.k (qB)
        case hc=>exact(yG3 w6 qr b rfl).at
        case hl=>first|omega|(simp;omega)
        case hb=>first|omega|(simp;omega)
        exact yZu
       .skip;have a1:=qH1 (yA8 92 w6);go_wp2_with fail;refine a1.mono ?_;rintro e' w7 ⟨rfl,a0⟩;rw[a0];clear a0;go_wp2_with (at_builtin;refine yBy _ rfl _ _ rfl (w+1) g cp xs.length w6 0 1 1 xs [b] rfl rfl rfl rfl ?hO ?hc ?hl ?hb ?_);case hO=>exact HJ6.Z.k (qB)
        case hc=>exact(yG3 w6 qr b rfl).at
        case hl=>first|omega|(simp;omega)
        case hb=>first|omega|(simp;omega)
        exact yZu
     .have HP:Hid (yBa ts=(xs,false)):=by show yBa ts=_;rw[HJ6.pre,a7.1,yG2 ak];simp
      clear a7 ak;rcases hw with⟨hs,am⟩|⟨hs,d,hd,ai,ac⟩
      .have av:((c.toNat:Int) != 92)=true:=by have:=yA7 (c:=92) am;simpa using this
       have a1:Hid (Calls prog 208 #[.int .u8 (c.toNat:Int)] w6 λe w'=>e=.returned true/\w'=w6):=by have:=yA8 c w6;rw[decide_eq_true hs]at this;exact this
       clear hs am;go_wp2_with fail;refine a1.mono ?_;rintro e' w7 ⟨rfl,a0⟩;rw[a0];clear a0;exact xC3
      .obtain⟨_,gd⟩:=yAw hd;have ag:=qo
       have a9:Hid (Calls prog 142 #[.int .u8 (d.toNat:Int)] w6 λe w'=>e=.returned true/\w'=w6):=by have:=yBd d w6;rw[decide_eq_true ai]at this;exact this
       clear hd ai;rcases hs with hs|rfl
       .skip;have a1:Hid (Calls prog 208 #[.int .u8 (c.toNat:Int)] w6 λe w'=>e=.returned false/\w'=w6):=by have:=yA8 c w6;rw[decide_eq_false hs]at this;exact this
        clear hs;go_wp2_with fail;refine a1.mono ?_;rintro e' w7 ⟨rfl,a0⟩;rw[a0];clear a0;go_wp2_with fail;refine a9.mono ?_;rintro e' w8 ⟨rfl,a2⟩;rw[a2];clear a2;exact xC3
       .skip;have a1:=qH1 (yA8 92 w6);go_wp2_with fail;refine a1.mono ?_;rintro e' w7 ⟨rfl,a0⟩;rw[a0];clear a0;go_wp2_with fail;refine a9.mono ?_;rintro e' w8 ⟨rfl,a2⟩;rw[a2];clear a2;exact xC3
    .have zi:=qo
     obtain rfl:i=p.size:=qo
     have HP:Hid (yBa ts=(xs,true)):=by show yBa ts=_;rw[HJ.pre,yMo HJ.seq (by rw[yAe];exact AA _)];simp[yBa]
     have hcv:=yHe HJ.Z;obtain⟨r0,r1⟩:=HJ.res.c2;obtain⟨f0,f1⟩:=HJ.res.f2;obtain⟨W9,hW9⟩:=qW (set2 wr w (.string ⟨xs.toArray⟩) true);have HW9:Hid (yA W9 w 268 2 w [.string ⟨xs.toArray⟩,true]/\Below w w W9):=by rw[hW9];exact⟨yCs HJ.res _ _,yAc (yAc HJ.k qr 0 _) qr 1 _⟩
     obtain⟨p0,p1⟩:=HW9.1.c2;unfold set2 at hW9;go_wp2;rw[<-hW9,HP.out];refine AT (v:=.agg #[.string ⟨xs.toArray⟩,true]) (by simp[results,results171,go_sem,p0,p1]) rfl ⟨rfl,HW9.2⟩
  .have ab:r=([],false):=by
    have h1:=HT.1;rw[af.out];match os,h1 with
    | [],_=>rfl
    | [_],h1=>simp at h1;omega
    |_::_::_,_=>rfl
   subst ab;have zm:=qo
   have HZ9:=HZ.out w2 a5.1 a5.2.1;obtain⟨p0,p1⟩:=HZ9.1.c2;obtain⟨W9,hW9⟩:=qW (xt (w2.setCell (xd w 0) xe) w 1 false);exact xF4
 .have ab:=HR.1 (by rw[<-HC.out];exact hc0);subst ab;have zc:(c != 0)=true:=by simpa using hc0
  clear HR HC;go_wp2_with fail;refine(HS.out W0).mono ?_;rintro e w1 ⟨rfl,a4⟩;have a3:=qH2 (a6.1.k a4) (a6.2.1.trans (a4.mono s0));clear a4 a6;obtain⟨r0,r1⟩:=a3.1.c2;obtain⟨f0,f1⟩:=a3.1.f2;have HZ9:=HZ.out w1 a3.1 a3.2;obtain⟨p0,p1⟩:=HZ9.1.c2;obtain⟨W9,hW9⟩:=qW (xt (w1.setCell (xd w 0) xe) w 1 false);exact xF4
section
structure Nd.sm(K:Int)(e:Nd):Prop where
 s:e.s.size<=200000
 t:e.t.size<=300000
 lo:0<=e.lo/\e.lo<=50000
 up:0<=e.up/\e.up<=100000
 n:0<=e.n/\e.n<=K
 f:0<=e.f/\e.f<=100000
abbrev Nd.small:Nd->Prop:=Nd.sm 100000
theorem yV6{x:Int}(h:0<=x/\x<=200000):(Lit.int .u64 x).wf=true:=by
 have h1:IntKind.u64.min=0:=by decide
 have h2:IntKind.u64.max=18446744073709551615:=by decide
 simp[Lit.wf,h1,h2];omega
theorem yJ{x:Int}(h:0<=x/\x<=200000):(Lit.int .i64 x).wf=true:=by
 have h1:IntKind.i64.min= -9223372036854775808:=by decide
 have h2:IntKind.i64.max=9223372036854775807:=by decide
 simp[Lit.wf,h1,h2];omega
theorem yZw(x:Int)(h:0<=x/\x<=200000):IntKind.u64.wrap x=x:=by simp only[IntKind.wrap,IntKind.bits,IntKind.signed,Bool.false_and,Bool.false_eq_true,if_false];omega
theorem Nd.sm.ok{K:Int}(h:e.sm K)(hK:K<=200000):e.ok:=⟨AF h.s (by decide),AF h.t (by decide),yJ ⟨h.f.1,by have:=h.f.2;omega⟩,yV6 ⟨h.lo.1,by have:=h.lo.2;omega⟩,yV6 ⟨h.up.1,by have:=h.up.2;omega⟩,yJ ⟨h.n.1,Int.le_trans h.n.2 hK⟩⟩
theorem Nd.small_zero:yA3.small:=⟨by decide,by decide,by decide,by decide,by decide,by decide⟩
structure DInv(O cb:Nat)(bv:Vv)(n:Nat)(w wr:Ww):Prop where
 d:yAm O cb bv n wr
 c:Chg (λk=>k=cb) w wr
 lt:cb<w
 hb:O<=w
theorem DInv.start(h:yAm O cb bv n w):DInv O cb bv n w w:=⟨h,Chg.h (Below.refl _ _),h.lt.2,h.O⟩
variable {w1:Ww}
theorem DInv.call(h:DInv O cb bv n w wr)(hd:Drew O cb bv n wr w1):DInv O cb bv n w w1:=⟨hd.1,h.c.trans hd.2,h.lt,h.hb⟩
theorem DInv.k(h:DInv O cb bv n w wr)(hd:Below wr wr w1):DInv O cb bv n w w1:=⟨h.d.k hd,h.c.trans (Chg.h hd),h.lt,h.hb⟩
theorem DInv.grow(h:DInv O cb bv n w wr)(hg:wr.grownBy w1 row)(hr:∀k,row=some k->w<=k):DInv O cb bv n w w1:=by have hc:Chg (λk=>row=some k) wr w1:=Chg.M hg (λk q=>q);have hl:=h.lt;have hbb:=h.hb;exact⟨h.d.i hc (λq=>by have:=hr _ q;omega) (λk q=>by have:=hr _ q;omega),Chg.grown_new h.c hg hr,h.lt,h.hb⟩
def LefP(O cb:Nat)(bv:Vv)(n:Nat)(w:Ww)(e:AR)(w':Ww):Prop:=∃f:Nd,e=.returned f.v/\f.small/\Drew O cb bv n w w'
def C7(W:Ww)(g:Nat)(f:Nd):Prop:=xk W g 0 (xi f.f)/\xk W g 1 f.s/\xk W g 2 f.hi/\xk W g 3 f.t/\xk W g 4 (xu f.lo)/\xk W g 5 (xu f.up)/\xk W g 6 (xi f.n)
theorem yA.c7n{f:Nd}(h:yA W b 83 7 g f.seven):C7 W g f:=⟨h.z rfl,h.z rfl,h.z rfl,h.z rfl,h.z rfl,h.z rfl,h.z rfl⟩
structure Ent.fine(e:Ent):Prop where
 j:e.j.size<=1000
 E:e.E.size<=1000
 C:e.C.size<=1000
 val:e.val.size<=1000
 ts:0<=e.ts/\e.ts<=18446744073709551615
 f:0<=e.f/\e.f<=3
def BX(O cb:Nat)(bv:Vv)(n T sz:Nat)(P:List Vv->Prop)(B:Ww)(eb:Nat)(W:Ww):Prop:=∃vs,yA W B T sz eb vs/\DInv O cb bv n B W/\P vs
section
variable {P:List Vv->Prop}
theorem BX.put(h:BX O cb bv n T sz P B eb W)(j:Nat)(u:Vv)(hP:∀vs,P vs->P (vs.set j u)):BX O cb bv n T sz P B eb (xt W eb j u):=by have⟨vs,h1,h2,h3⟩:=h;exact⟨vs.set j u,h1.set j u,h2.grow (yDj W eb j u) (λk q=>by cases q;exact h1.lt.1),hP _ h3⟩
theorem BX.call(h:BX O cb bv n T sz P B eb W)(hd:Drew O cb bv n W W'):BX O cb bv n T sz P B eb W'/\∀j,W'.cell? (xd eb j)=W.cell? (xd eb j):=by
 have⟨vs,h1,h2,h3⟩:=h;have hne:¬eb=cb:=by have:=h1.lt.1;have:=h2.lt;omega
 exact⟨⟨vs,h1.i hd.2 hne,h2.call hd,h3⟩,λj=>hd.2.z (p:=(xd eb j)) h1.lt.2 hne⟩
theorem BX.k(h:BX O cb bv n T sz P B eb W)(hb:Below W W W'):BX O cb bv n T sz P B eb W':=by have⟨vs,h1,h2,h3⟩:=h;exact⟨vs,h1.k hb,h2.k hb,h3⟩
theorem BX.dinv(h:BX O cb bv n T sz P B eb W):DInv O cb bv n B W:=by have⟨vs,h1,h2,h3⟩:=h;exact h2
theorem BX.dr(h:BX O cb bv n T sz P B eb W):BX O cb bv n T sz P B eb W.drew:=h.k ((Below.refl _ _).drew)
theorem BX.new(h:yAm O cb bv n B)(hP:P cs.toList)(hz:cs.size=sz)(hW:W=(xw B cs T)):BX O cb bv n T sz P B B W:=by subst hW;exact⟨_,yAa B cs qr hz,(DInv.start h).k (qB),hP⟩
end
def NdP(K:Int)(vs:List Vv):Prop:=∃f:Nd,vs=f.seven/\f.sm K
abbrev NE(O cb:Nat)(bv:Vv)(n:Nat)(K:Int):=BX O cb bv n 83 7 (NdP K)
def NC(O cb:Nat)(bv:Vv)(n:Nat)(K:Int)(B:Ww)(eb:Nat)(W:Ww):Prop:=∃f:Nd,NE O cb bv n K B eb W/\f.sm K/\C7 W eb f/\(∀j,W.frozen? (xd eb j)=false)
section
variable {K:Int}
def FOk(K:Int):Nat->Vv->Prop
 |0,v=>∃k,v=.int .i64 k/\0<=k/\k<=100000
 |1,v=>∃s,v=.string s/\s.size<=200000
 |2,v=>∃b,v=.bool b
 |3,v=>∃s,v=.string s/\s.size<=300000
 |4,v=>∃k,v=(xu k)/\0<=k/\k<=50000
 |5,v=>∃k,v=(xu k)/\0<=k/\k<=100000
 |6,v=>∃k,v=(xi k)/\0<=k/\k<=K
 |_,_=>False
theorem NdP.set(hv:FOk K j v)(vs:List Vv)(h:NdP K vs):NdP K (vs.set j v):=by
 obtain⟨f,rfl,hs⟩:=h;match j,hv with
 |0,⟨k,e,h1,h2⟩=>exact⟨{f with f:=k},by rw[e];rfl,hs.1,hs.2,hs.3,hs.4,hs.5,h1,h2⟩
 |1,⟨k,e,h1⟩=>exact⟨{f with s:=k},by rw[e];rfl,h1,hs.2,hs.3,hs.4,hs.5,hs.6⟩
 |2,⟨k,e⟩=>exact⟨{f with hi:=k},by rw[e];rfl,hs.1,hs.2,hs.3,hs.4,hs.5,hs.6⟩
 |3,⟨k,e,h1⟩=>exact⟨{f with t:=k},by rw[e];rfl,hs.1,h1,hs.3,hs.4,hs.5,hs.6⟩
 |4,⟨k,e,h1,h2⟩=>exact⟨{f with lo:=k},by rw[e];rfl,hs.1,hs.2,⟨h1,h2⟩,hs.4,hs.5,hs.6⟩
 |5,⟨k,e,h1,h2⟩=>exact⟨{f with up:=k},by rw[e];rfl,hs.1,hs.2,hs.3,⟨h1,h2⟩,hs.5,hs.6⟩
 |6,⟨k,e,h1,h2⟩=>exact⟨{f with n:=k},by rw[e];rfl,hs.1,hs.2,hs.3,hs.4,⟨h1,h2⟩,hs.6⟩
theorem NE.nc(h:NE O cb bv n K B eb W):NC O cb bv n K B eb W:=by have ⟨vs,hf,hd,f,e,hs⟩:=h;subst e;exact⟨f,h,hs,hf.c7n,hf.frozen⟩
end
def EtP(vs:List Vv):Prop:=∃f:Ent,vs=f.cells/\f.fine
def EOk:Nat->Vv->Prop
 |0,v|1,v|2,v|5,v=>∃s,v=.string s/\s.size<=1000
 |3,v=>∃k,v=(xu k)/\0<=k/\k<=18446744073709551615
 |4,v=>∃k,v=(xi k)/\0<=k/\k<=3
 |_,_=>False
theorem EtP.set(hv:EOk j v)(vs:List Vv)(h:EtP vs):EtP (vs.set j v):=by
 obtain⟨f,rfl,hs⟩:=h;match j,hv with
 |0,⟨k,e,h1⟩=>exact⟨{f with j:=k},by rw[e];rfl,h1,hs.2,hs.3,hs.4,hs.5,hs.6⟩
 |1,⟨k,e,h1⟩=>exact⟨{f with E:=k},by rw[e];rfl,hs.1,h1,hs.3,hs.4,hs.5,hs.6⟩
 |2,⟨k,e,h1⟩=>exact⟨{f with C:=k},by rw[e];rfl,hs.1,hs.2,h1,hs.4,hs.5,hs.6⟩
 |3,⟨k,e,h1,h2⟩=>exact⟨{f with ts:=k},by rw[e];rfl,hs.1,hs.2,hs.3,hs.4,⟨h1,h2⟩,hs.6⟩
 |4,⟨k,e,h1,h2⟩=>exact⟨{f with f:=k},by rw[e];rfl,hs.1,hs.2,hs.3,hs.4,hs.5,⟨h1,h2⟩⟩
 |5,⟨k,e,h1⟩=>exact⟨{f with val:=k},by rw[e];rfl,hs.1,hs.2,hs.3,h1,hs.5,hs.6⟩
def xG3(l:List Vv):Bool:=l.all fun| .string s=>decide (s.size<=1000)|_=>false
theorem xIp(h:yAm O cb bv n W)(hb:blk=W)(hn:ws.size=nw)(h1:1<=nw)(h2:nw<=100)(ho:xG3 ws.toList=true):
  Calls prog 177 #[xp cb,xg blk nw nw] (xw W ws t) λe w'=>∃s:Ba,e=.returned s/\s.size<=1000/\Drew O cb bv n W w':=by
 have hbl:Below W W (xw W ws t):=qB;refine(yDi O cb bv n blk nw _ (h.k hbl) h1 h2 (by have:=h.lt.2;omega) (by rw[hb];simp) ?_).mono ?_
 .intro k hk;have hk':k<ws.toList.length:=by rw[Array.length_toList];omega
  have:=List.all_eq_true.1 ho _ (List.getElem_mem hk');have hc:(xk (W.alloc (.cells ws t)) blk k ws.toList[k]:Prop):=by rw[hb];simp[hk]
  rw[hc];cases hv:ws.toList[k]<;>rw[hv]at this<;>simp at this
  exact⟨_,rfl,this⟩
 .rintro e w' ⟨s,he,hs,hd⟩;exact⟨s,he,hs,hd.1,(Chg.h hbl).trans hd.2⟩
variable {p:Prop}
theorem zN(h:p:=by repeat (first|assumption|with_reducible refine BX.dr ?_|with_reducible refine BX.al ?_ _|(with_reducible refine BX.put ?_ _ _ ?_;rotate_left;(first|(apply NdP.set;simp only[FOk])|(refine EtP.set ?_;simp only[EOk]));first|exact⟨_,rfl⟩|exact⟨_,rfl,by omega,by omega⟩|exact⟨_,rfl,by(try rw[yDr]);first|omega|decide⟩))):p:=h
def set7(w:Ww)(g:Nat)(f:Nd):Ww:=(xt ((((((w.setCell (xd g 0) (xi f.f)).setCell (xd g 1) f.s).setCell (xd g 2) f.hi).setCell (xd g 3) f.t).setCell (xd g 4) (xu f.lo)).setCell (xd g 5) (xu f.up)) g 6 (xi f.n))
theorem yA.set7(h:yA w O t 7 g e.seven)(f:Nd):yA (Go.Proofs.YtnnagkfoiganfaaGreatDoor.set7 w g f) O t 7 g f.seven:=by have:=((((((h.set 0 (xi f.f)).set 1 f.s).set 2 f.hi).set 3 f.t).set 4 (xu f.lo)).set 5 (xu f.up)).set 6 (xi f.n);exact this
theorem xBf(w:Ww)(g:Nat) f (hs:S g):Chg S w (set7 w g f):=
 ((((((Chg.D w g 0 _ hs).trans (Chg.D _ g 1 _ hs)).trans (Chg.D _ g 2 _ hs)).trans (Chg.D _ g 3 _ hs)).trans (Chg.D _ g 4 _ hs)).trans (Chg.D _ g 5 _ hs)).trans (Chg.D _ g 6 _ hs)
theorem NE.fin(h0:yAm O cb bv n w)(ha:Wa=(xw w #[xi 0,xe,false,xe,xu 0,xu 0,xi 0] 83))(hd:Drew O cb bv n Wa B)(h:NE O cb bv n 100000 B eb W):∃(f:Nd)(WF:Ww),WF=set7 W w f/\Hid (LefP O cb bv n w (.returned f.v) WF)/\C7 W eb f/\C7 W w yA3/\(∀j,W.frozen? (xd w j)=false)/\C7 WF w f:=by
 obtain⟨_,h1,h2,f,rfl,h3⟩:=h;have hb:=qN ha
 have hA:yA Wa w 83 7 w yA3.seven:=ha▸(yAa w _ qr rfl)
 have hl:=h0.lt.2;have hr:=(hA.i hd.2 (by omega)).i h2.c (by omega);have hg:=(((DInv.start h0).k hb).call hd).c.trans h2.c;have hcg:Chg (λk=>k=w) W (set7 W w f):=xBf W w f rfl;have hrl:=hr.lt;refine⟨f,_,rfl,⟨f,rfl,h3,h2.d.i hcg (by omega) (λk q=>by have:=h0.O;omega),?_⟩,h1.c7n,hr.c7n,hr.frozen,(hr.set7 f).c7n⟩;exact⟨hcg.os.trans hg.os,hcg.tape.trans hg.tape,hcg.output.trans hg.output,AF hg.size hcg.size,λk hk hn=>(hcg.block k (AN hk hg.size) (by omega)).trans (hg.block k hk hn)⟩
theorem rgT{P:Program}(L:Nat)(S:Ww->Prop)(hm:P.follows .mixedOrders=true)(hS:S w.drew)(h:S w.drew->AnyT P .any ops Q S L ops.size (Array.replicate ops.size false) a w.drew):(Code.region id ops true).wp P Q a w:=yAf L S hm (h hS)
theorem zR3 (h:p:=by
 refine rgT 6 (λwz:Ww=>xk wz eb 1 f.s) (by kernel_rfl) (by go_simp) (λhS=>?_);apply ja 0 hS;iterate 2 apply jb hS
 refine qO 3 rfl λK hK=>?_;go_simp;apply (yBi _ _ _ _ _ _ _ (A.out _ (by exact zN)).1 (by omega) (by omega) (by omega)).mono;rintro e W8 ⟨s,rfl,hs0,hd⟩;have hS8:=(((A _ (by exact zN)).2 _ hd).2 1).trans hS;have⟨f8,H8,hs8,⟨b0,b1,b2,b3,b4,b5,b6⟩,z8⟩:=((A _ (by exact zN)).2 _ hd).1;clear hd;apply hK.out _ _ (.inr hS8);clear hK;refine jS ?_;have hcat:¬9223372036854775807<f.s.size+s.size:=by have:=hs.s;omega
 refine ja 4 hS8 ?_;refine jb hS8 ?_;refine qO 6 rfl λK hK=>?_;go_simp;refine hK.out _ _ (.inl rfl) (jS ?_);clear hK;refine qD ?_;have:=hs.s;go_wp2_with fail;go_meet;exact zN):p:=h
theorem zR4 (h:p:=by
 have hl:=hs.lo;have hw9:IntKind.u64.wrap (f.lo+1)=f.lo+1:=yZw _ ⟨qo,qo⟩;refine rgT 8 (λwz:Ww=>xk wz eb 4 (xu f.lo)) (by kernel_rfl) (by go_simp) (λhS=>?_);apply ja 0 hS;iterate 3 apply jb hS
 refine qO 4 rfl λK hK=>?_;go_simp;apply (yAp _ _ _ _ _ _ (A.out _ (by exact zN)).1 (by omega) (by omega)).mono;rintro e W8 ⟨x,rfl,hy0,hy1,hd⟩;have hS8:=(((A _ (by exact zN)).2 _ hd).2 4).trans hS;have⟨f8,H8,hs8,⟨b0,b1,b2,b3,b4,b5,b6⟩,z8⟩:=((A _ (by exact zN)).2 _ hd).1;clear hd;have hw:=yZw x ⟨by omega,by omega⟩;have hw8:IntKind.u64.wrap (f.lo+1+x)=f.lo+1+x:=yZw _ ⟨qo,qo⟩;apply hK.out _ _ (.inr hS8);clear hK;refine jS ?_;refine ja 5 hS8 ?_;iterate 2 refine jb hS8 ?_
 refine qO 8 rfl λK hK=>?_;go_simp;refine hK.out _ _ (.inl rfl) (jS ?_);clear hK;refine qD ?_;go_wp2_with fail;go_meet;exact zN):p:=h
theorem yNn(O cb:Nat)(bv:Vv)(n:Nat) w (h:yAm O cb bv n w):
  Calls prog 132 #[xp cb] w (LefP O cb bv n w):=by
 have⟨Wa,hWa⟩:=qE (xw w #[xi 0,xe,false,xe,xu 0,xu 0,xi 0] 83:Ww);have hba:yAm O cb bv n Wa:=hWa▸(h.k (qB))
 have HW:Hid (Wa=(xw w #[xi 0,xe,false,xe,.int .u64 0,.int .u64 0,.int .i64 0] 83)):=hWa;go_enter func132,ntmps132;go_wp2_with fail;rw[<-hWa];clear hWa;apply (yAp O cb bv n 16 _ hba (by omega) (by omega)).mono;rintro e w1 ⟨x,rfl,hx0,hx1,hd⟩;have⟨W2,hW2⟩:=qE (w1.alloc (AJ #[.int .i64 0,.string ⟨#[]⟩,.bool false,.string ⟨#[]⟩,.int .u64 0,.int .u64 0,.int .i64 0] 83):Ww);have HR:Hid (∀W,NE O cb bv n 100000 w1 w1.heap.size W->_):=λW=>NE.fin h HW hd;have H:=NE.nc (K:=100000) (BX.new hd.1 ⟨yA3,rfl,Nd.small_zero⟩ rfl hW2);go_upto_region 3 with fail;have⟨eb,heb⟩:=qE w1.heap.size;rw[<-hW2,<-heb];rw[<-heb]at H HR;clear hW2 heb hd HW h hba;go_upto_block 0 with fail;have A:Hid (∀W,NE O cb bv n 100000 w1 eb W->yAm O cb bv n W/\∀W',Drew O cb bv n W W'->NC O cb bv n 100000 w1 eb W'/\∀j,W'.cell? ⟨eb,j,none⟩=W.cell? ⟨eb,j,none⟩):=λW h=>⟨h.dinv.d,λW' d=>⟨NE.nc (h.call d).1,(h.call d).2⟩⟩;have⟨f,H,hs,⟨c0,c1,c2,c3,c4,c5,c6⟩,z⟩:=H;go_cut[] (λwx=>NE O cb bv n 100000 w1 eb wx);case first=>
  go_wp2_with (first
   |(go_at_call 74;go_must (apply (yAp _ _ _ _ _ _ (A.out _ (by exact zN)).1 (by omega) (by omega)).mono;rintro e W ⟨x,rfl,hx0,hx1,hd⟩;have⟨f,H,hs,⟨c0,c1,c2,c3,c4,c5,c6⟩,z⟩:=((A _ (by exact zN)).2 _ hd).1;have hw:=yZw x ⟨by omega,by omega⟩;clear hd))
   |(go_at_call 31;go_must (apply (yBb _ _ _ _ _ _ (A.out _ (by exact zN)).1 (by omega) (by omega)).mono;rintro e W ⟨v,rfl,hv,hd⟩;have⟨f,H,hs,⟨c0,c1,c2,c3,c4,c5,c6⟩,z⟩:=((A _ (by exact zN)).2 _ hd).1;clear hd;rcases hv with rfl|rfl))
   |(go_at_call 178;go_must (apply (yBi _ _ _ _ _ _ _ (A.out _ (by exact zN)).1 (by omega) (by omega) (by omega)).mono;rintro e W ⟨s,rfl,hs0,hd⟩;have⟨f,H,hs,⟨c0,c1,c2,c3,c4,c5,c6⟩,z⟩:=((A _ (by exact zN)).2 _ hd).1;clear hd))
   |(go_at_call 176;go_must (apply (yOp _ _ _ _ _ (A.out _ (by exact zN)).1).mono;rintro e W ⟨s,rfl,hs0,hd⟩;have⟨f,H,hs,⟨c0,c1,c2,c3,c4,c5,c6⟩,z⟩:=((A _ (by exact zN)).2 _ hd).1;clear hd))
   |(go_at_call 177;go_must (refine(xIp (A.out _ (by exact zN)).1 (by simp) (by rfl) (by omega) (by omega) (by rfl)).mono ?_;rintro e W ⟨s,rfl,hs0,hd⟩;obtain⟨f,H,hs,⟨c0,c1,c2,c3,c4,c5,c6⟩,z⟩:=((A.out _ (by exact zN)).2 _ hd).1;clear hd)))
  all_goals first|(go_meet;case rel=>exact zN)|skip
  all_goals first|(go_not_at_region 38;exact zR3)|exact zR4
 case rest=>have⟨f,WF,hWF,HR,⟨k0,k1,k2,k3,k4,k5,k6⟩,⟨l0,l1,l2,l3,l4,l5,l6⟩,lf,p0,p1,p2,p3,p4,p5,p6⟩:=HR _ hcut;simp only[set7]at hWF;go_wp2_with fail;rw[<-hWF];exact AT (by simp[results,results132,go_sem,p0,p1,p2,p3,p4,p5,p6]) rfl HR
end
variable {xs:List Nd}
theorem yVd{T:Type}(V:Nd->List T->T){ns:List T}(h:yE6 V [] (xs.take j)=some ns)(he:xs[j]?=some e)(hl:yAl e.f<=ns.length):yE6 V [] (xs.take (j+1))=some (ns.take (ns.length-yAl e.f)++ [V e (ns.drop (ns.length-yAl e.f))]):=by exact xIa
theorem yVc{T:Type}(V:Nd->List T->T){ns:List T}(h:yE6 V [] (xs.take j)=some ns)(he:xs[j]?=some e)(hl:ns.length<yAl e.f):yE6 V [] xs=none:=by exact zzT3
abbrev YesP(w:Ww)(r:AR)(w':Ww):Prop:=r=.returned true/\Below w w w'
theorem noNd(h:NoNd e):e=yA3:=by
 obtain⟨k,s,hi,t,lo,up,n⟩:=e;obtain⟨rfl,h1,rfl,h2,rfl,rfl,rfl⟩:=h;have z:∀s:Ba,s.toList= []->s=⟨#[]⟩:=λs h=>by rw[AI]at h;exact ByteArray.ext (by simpa using h)
 simp only at h1 h2;rw[z s h1,z t h2];rfl
variable {x:Ix} {cnt:Int}
theorem yN0.forms{k n conds:Int}(h:yN0 x k n cnt conds):
  (∃a f e,x=⟨1,a,0,f,e⟩/\yB9 [e]/\((cntK e.f/\0<=a/\a<cnt)\/(¬cntK e.f/\a=0)))\/(∃a b,x=⟨5,a,b,false,yA3⟩/\0<=a/\a<conds/\k<b/\b<=n)\/
   (∃b,x=⟨6,0,b,false,yA3⟩/\k<b/\b<=n)\/∃o,x=⟨o,0,0,false,yA3⟩/\(o=2\/o=3\/o=4):=by
 obtain⟨o,a,b,f,e⟩:=x;rcases h with⟨rfl,hF,rfl,hA⟩|⟨rfl,⟨rfl,hN⟩,hA⟩|⟨rfl,⟨rfl,hN⟩,rfl,hA⟩|⟨ho,⟨rfl,hN⟩,rfl,rfl⟩
 .exact .inl ⟨a,f,e,rfl,hF,hA⟩
 .exact .inr (.inl ⟨a,b,by rw[<-noNd hN],hA⟩)
 .exact .inr (.inr (.inl ⟨b,by rw[<-noNd hN],hA⟩))
 .exact .inr (.inr (.inr ⟨o,by rw[<-noNd hN],ho⟩))
theorem insB(x:Ix)(w:Ww):∃W0,W0=w.alloc (AJ #[.int .i64 x.op,.int .i64 x.a,.int .i64 x.b,.bool x.free,.int .i64 x.leaf.f,.string x.leaf.s,.bool x.leaf.hi,.string x.leaf.t,.int .u64 x.leaf.lo,.int .u64 x.leaf.up,.int .i64 x.leaf.n] 153)/\Below w.heap.size w W0/\yA W0 w 153 11 w [xi x.op,xi x.a,xi x.b,x.free,xi x.leaf.f,x.leaf.s,x.leaf.hi,x.leaf.t,xu x.leaf.lo,xu x.leaf.up,xi x.leaf.n]:=
 ⟨_,rfl,qB,yAa w _ qr rfl⟩
theorem yPg{k n conds:Int}(w:Ww)(h:yN0 x k n cnt conds)(ho:x.ok):Calls prog 112 #[x.v,.int .i64 k,.int .i64 n,.int .i64 cnt,.int .i64 conds] w (YesP w):=by
 obtain⟨W0,hW0,hb0,B0⟩:=insB x w;rcases h.forms with⟨a,f,e,rfl,hF,hA⟩|⟨a,b,rfl,h1,h2,h3,h4⟩|⟨b,rfl,h1,h2⟩|⟨o,rfl,hO⟩
 .obtain⟨W1,hW1⟩:=qW (W0.alloc (AJ #[.int .i64 e.f,.string e.s,.bool e.hi,.string e.t,.int .u64 e.lo,.int .u64 e.up,.int .i64 e.n] 83));have hb1:Below W0.heap.size W0 W1:=by rw[hW1];exact qB
  have C1:=hidO (yJf (w:=W1) (xs:= [e]) (O:=W0.heap.size) (g:=W0.heap.size) (cp:=1) (by rw[hW1];exact yOq W0 e) (λd hd=>by simp at hd;subst hd;exact ho.leaf) qj);have HF:=hidO hF;obtain⟨c0,c1,c2,c3,c4,c5,c6,c7,c8,c9,c10⟩:=B0.c11;clear ho hF;go_enter func112,ntmps112;go_upto_region 1 with fail;rw[<-hW0];clear hW0;go_wp2_with fail;rw[<-hW1];clear hW1 c0 c1 c2 c3 c4 c5 c6 c7 c8 c9 c10;refine C1.out.mono ?_;rintro r w2 ⟨r2,rfl,hr,hb2⟩;obtain rfl:r2=true:=hr.2 HF.out;have k2:=hb1.trans (hb2.mono hb1.size);obtain⟨c0,c1,c2,c3,c4,c5,c6,c7,c8,c9,c10⟩:=(B0.k k2).c11;clear C1 hr;go_wp2_with fail;refine(yPu e _).mono ?_;rintro r w3 ⟨q,rfl,hq,hb3⟩;have k3:=k2.trans (hb3.mono k2.size);have HE:=hidO (hb0.trans (k3.mono hb0.size));exact zzT2
 all_goals simp only[yA3]at*
 all_goals obtain⟨c0,c1,c2,c3,c4,c5,c6,c7,c8,c9,c10⟩:=B0.c11
 all_goals clear ho
 all_goals go_enter func112,ntmps112
 all_goals go_upto_region 1 with fail
 all_goals rw[<-hW0]
 all_goals clear hW0
 .go_wp2_with fail;go_ret;exact⟨by simp[h2,h3,h4],hb0⟩
 .go_wp2_with fail;go_ret;exact⟨by simp[h1,h2],hb0⟩
 .rcases hO with rfl|rfl|rfl;all_goals go_wp2_with fail
  all_goals go_ret
  all_goals exact⟨rfl,hb0⟩
variable {l:List Ix} {ds:List Int}
theorem yYg{k:Nat}(h:yB1 l cnt conds)(hf:yCo l k=some ds)(hx:l[k]?=some x):ds.length=l.length+1/\∃d ds',ds[k]?=some d/\least x.op<=d/\1<=d+more x.op/\d<=250/\d+more x.op<=250/\yCi (d+more x.op) (ways k x) ds=some ds'/\yCo l (k+1)=some ds':=by
 have hk:=qf hx;have hl:=(yRv hf).X;obtain⟨d,hd⟩:∃d,ds[k]?=some d:=qg qo;have hr:=(yRv hf).ran d (AB hd);have h1:=yHu h (k:=k+1) qo;rw[yEa hf hx]at h1|-;unfold yKs at h1|-;rw[hd]at h1|-;simp only at h1|-;split at h1
 .exact absurd rfl h1
 .rename_i hn;rw[iA hn];obtain⟨ds',hs⟩:∃ds',yCi (d+more x.op) (ways k x) ds=some ds':=by
   cases hq:yCi (d+more x.op) (ways k x) ds with
   |none=>exact absurd hq h1
   |some e=>exact⟨e,rfl⟩
  refine⟨hl,d,ds',rfl,qo,?_,hr.2,qo,hs,hs⟩;have:1<=least x.op+more x.op:=by unfold least more;split<;>split<;>(try split)<;>omega
  omega
variable {ds':List Int} {d:Int}
theorem yM1(h:note ds j d=some ds'):∃e,ds[j]?=some e/\(e=0\/e=d)/\ds'=ds.set j d:=by
 unfold note at h;cases hj:ds[j]? with
 |none=>rw[hj]at h;cases h
 |some e=>
  rw[hj]at h;simp only at h;split at h
  .exact⟨e,rfl,‹_›,(Option.some.inj h).symm⟩
  .cases h
theorem yJp(h:OwnZ 2 w O g cp ds .i64)(hn:note ds j d=some ds')(hd:1<=d/\d<=250)(hl:ds.length=n+1)(hL:n<=4000)(hj:jj=(j:Int)):
  Hid (Calls prog 113 #[xg g (n+1) cp,xi jj,xi d] w λr w'=>r=.returned true/\Hid (OwnZ 2 w' O g cp ds' .i64)/\Chg (λq=>q=g) w w'):=by
 obtain⟨e,he,h0,rfl⟩:=yM1 hn;subst hj;have:=yUv O g cp ds j d e w h he qo;rw[hl]at this;apply this.mono;rintro r w' ⟨b,rfl,hb,hO,hc⟩;obtain rfl:b=true:=hb.2 ⟨h0,hd⟩;exact⟨rfl,hO rfl,hc⟩
theorem zVj {p:Prop} (h:p:=by
 have⟨x0,x1,x2,x3,x4,x5,x6,x7,x8,x9,x10⟩:=(B2.k hb3).c11;have N1:=yJp (jj:=(k:Int)+1) (HO2.k hb3) HNt.1 HNt.2.1 HNt.2.2.1 p1 qo;go_wp2_with fail;apply N1.out.mono;rintro r w4 ⟨rfl,HO4,hC4⟩;have B4:=(B2.k hb3).i hC4 qo;have kw4:=Chg.k kw3 hC4 kw3.size (λq hq=>qo);clear x0 x1 x2 x3 x4 x5 x6 x7 x8 x9 x10 N1;have⟨x0,x1,x2,x3,x4,x5,x6,x7,x8,x9,x10⟩:=B4.c11;go_wp2_with fail;apply (yIh _ _).mono;rintro r w5 ⟨r3,rfl,hr3,hb5⟩;obtain rfl:r3=false:=by cases r3;rfl;exact absurd (hr3.1 rfl) qo
 have HN:=hidO (And.intro HNt.2.2.2 (HO4.k hb5));have kw5:=kw4.trans (hb5.mono kw4.size);clear x0 x1 x2 x3 x4 x5 x6 x7 x8 x9 x10 hr3;have⟨x0,x1,x2,x3,x4,x5,x6,x7,x8,x9,x10⟩:=(B4.k hb5).c11;refine zX ?_;exact⟨k+1,_,qo,by go_num,HN,kw5⟩):p:=h
theorem zVm {p:Prop} (h:p:=by
 have⟨x0,x1,x2,x3,x4,x5,x6,x7,x8,x9,x10⟩:=B4.c11;go_wp2_with fail;apply (yIh _ _).mono;rintro r w5 ⟨r3,rfl,hr3,hb5⟩;obtain rfl:r3=true:=hr3.2 (by simp);have N2:=yJp (jj:=b) (HO4.k hb5) HNt.1 HNt.2.1 HNt.2.2.1 p1 qo;have kw5:=kw4.trans (hb5.mono kw4.size);clear x0 x1 x2 x3 x4 x5 x6 x7 x8 x9 x10 hr3;have⟨x0,x1,x2,x3,x4,x5,x6,x7,x8,x9,x10⟩:=(B4.k hb5).c11;go_wp2_with fail;apply N2.out.mono;rintro r w6 ⟨rfl,HO6,hC6⟩;have HN:=hidO (And.intro HNt.2.2.2 HO6);have kw6:=Chg.k kw5 hC6 kw5.size (λq hq=>qo);clear N2 x0 x1 x2 x3 x4 x5 x6 x7 x8 x9 x10;refine zX ?_;exact⟨k+1,_,qo,by go_num,HN,kw6⟩):p:=h
theorem yGe{x:Bk}w (hG:yB1 x.l x.cnt conds) (h:yC5 w x.v x.l) (ho:x.ok) (hcd:conds<=1000):Calls prog 51 #[x.val,xi conds] w (YesP w):=by
 have⟨v,cnt,l⟩:=x;obtain⟨p0,p1,p2,p3,-⟩:=id hG;obtain⟨b0,off,cap,rfl,hE,hbl,hcap⟩:∃b0 off cap,v=(xy b0 off l.length cap)/\yBh w b0 off l/\b0<w/\(l.length<=cap/\cap<=maxLen):=by
  exact xFn
 simp only at p0 p1 p2 p3 hG;have⟨W0,hW0⟩:=qE (xw w #[(xy b0 off l.length cap),xi cnt] 32:Ww);have hb0:=qN hW0
 have B0:yA W0 w 32 2 w [(xy b0 off l.length cap),xi cnt]:=hW0▸(yAa w _ qr rfl)
 have HE:Hid (∀wx,Below W0 W0 wx->yBh wx b0 off l):=λwx hx=>(hE.k hb0 hbl).k hx (by have:=hb0.size;omega);have HG:=hidO hG;have HOk:=qH1 ho.ins;have⟨k0,k1⟩:=B0.c2;have z0:¬(l.length:Int)<1:=qo
 have z1:¬(4000:Int)<(l.length:Int):=qo
 have z2:¬cnt<0:=qo
 have z3:¬200<cnt:=qo
 unfold maxLen at hcap;clear h ho hE hG;go_enter func51,ntmps51;go_upto_region 1 with fail;rw[<-hW0];clear hW0;have⟨W1,hW1⟩:=qE (xw W0 #[xi 1] 2:Ww);have hb1:=qN hW1
 have HO1:Hid (OwnZ 2 W1 W0 W0 1 (1::AH 0 0) .i64):=hW1▸(World.ownsRow_lit W0 #[xi 1] 1 qr qj rfl)
 go_upto_region 5 with fail;rw[<-hW1];clear hW1 k0 k1;go_wp2_with fail;go_loopw[6,7] (λd i wr=>∃(k g cp:Nat),k<=l.length/\i=(xi k)/\d=(xg g (k+1) cp)/\Hid (OwnZ 2 wr W0 g cp (1::AH k 0) .i64)/\Below W0 W0 wr) (λ_ i _=>l.length-(intOf i).toNat);case atStart=>exact⟨0,_,_,AD _,rfl,rfl,HO1,hb1⟩
 case round=>
  obtain⟨k,g,cp,hk,rfl,rfl,HO,hb⟩:=hrel;by_cases hlt:k<l.length
  .have zk:(k:Int)<(l.length:Int):=qo
   have ba:Below wr wr (xw wr #[xi 0] 2):=qB;have HOa:=hidO (HO.k ba);go_wp2_with (at_builtin;refine yHm _ rfl _ _ rfl W0 g cp (k+1) wr 1 1 (1::AH k 0) [0] rfl rfl (by simp) rfl HOa ?hc ?hl ?hb ?_);case hc=>intro j d hd;(have hj:j=0:=by(have:=qf hd;simp at this;omega));subst hj;obtain rfl:=Option.some.inj hd;simp
   case hl=>simp;omega
   case hb=>simp;have:=hb.size;omega
   intro g' cp' w' hO' hgr;have HO':Hid (OwnZ 2 w' W0 g' cp' (1::AH (k+1) 0) .i64):=by rw[List.replicate_succ'];exact hO'
   have b1:=hb.trans (ba.mono hb.size);have hb':=b1.grown hgr b1.size (λj hj=>by have:=HOa.lt.1;cases hj;omega);clear hO' hgr;refine zX ?_;exact⟨k+1,g',cp',qo,by go_num,rfl,HO',hb'⟩
  .have zk:¬(k:Int)<(l.length:Int):=qo
   obtain rfl:k=l.length:=qo
   go_wp2_with fail;go_loopw[8] (λi wr=>∃(k:Nat)(ds:List Int),k<=l.length/\i=(xi k)/\Hid (yCo l k=some ds/\OwnZ 2 wr W0 g cp ds .i64)/\Below W0 W0 wr) (λi _=>l.length-(intOf i).toNat);case atStart=>exact⟨0,_,AD _,rfl,⟨rfl,HO⟩,hb⟩
   case round=>
    obtain⟨k,ds,hk,rfl,HJ,hb⟩:=hrel;have⟨k0,k1⟩:=(B0.k hb).c2;by_cases hlt:k<l.length
    .have zk:(k:Int)<(l.length:Int):=qo
     have zk1:(k:Int)<(l.length:Int)+1:=qo
     obtain⟨x,hx⟩:∃x,l[k]?=some x:=qg hlt;have⟨hdl,d,ds',hd,hle,hd1,hd2,hd3,hns,hfl⟩:=yYg HG HJ.1 hx;have⟨c0,c1,c2,c3,c4,c5,c6,c7,c8,c9,c10⟩:=HE wr hb k _ hx;have⟨W2,hW2,hb2,B2⟩:=insB x wr;have C1:=hidO (yPg W2 (yB5 HG hx) (HOk x (AB hx)));have HO2:=hidO (HJ.2.k hb2);have kw2:=hb.trans (hb2.mono hb.size);have hgz:=HJ.2.lt;have⟨m0,m1⟩:=(B0.k kw2).c2;have⟨e0,e1⟩:=HO2.z hd;have hwk:IntKind.i64.wrap ((k:Int)+1)=(k:Int)+1:=by rw[AG];omega
     have kw3:=λw3 (hb3:Below W2 W2 w3)=>kw2.trans (hb3.mono kw2.size);rcases(yB5 HG hx).forms with⟨a,f,e,rfl,-⟩|⟨a,b,rfl,-,-,h3,h4⟩|⟨b,rfl,h3,h4⟩|⟨o,rfl,rfl|rfl|rfl⟩;all_goals dsimp only[yA3]at B2 hW2 c0 c1 c2 c3 c4 c5 c6 c7 c8 c9 c10
     all_goals have⟨x0,x1,x2,x3,x4,x5,x6,x7,x8,x9,x10⟩:=B2.c11
     all_goals simp[more,least,ways,yCi,Option.bind_eq_some_iff,<-Int.sub_eq_add_neg]at hle hd1 hd3 hns
     all_goals have hwp:IntKind.i64.wrap (d+1)=d+1:=by rw[AG];omega
     all_goals have hwm:IntKind.i64.wrap (d-1)=d-1:=by rw[AG];omega
     all_goals have hdz:(d==0)=false:=by rw[iC];omega
     all_goals go_upto_region 13 with fail
     all_goals rw[<-hW2]
     all_goals clear hW2 c0 c1 c2 c3 c4 c5 c6 c7 c8 c9 c10 k0 k1 hx hwk
     all_goals go_wp2_with fail
     all_goals apply C1.out.mono
     all_goals rintro r w3 ⟨rfl,hb3⟩
     all_goals replace kw3:=kw3 w3 hb3
     all_goals clear C1 m0 m1 e0 e1 x0 x1 x2 x3 x4 x5 x6 x7 x8 x9 x10
     .have HNt:=hidO (AC hns (AC (AC hd1 hd3) (AC hdl hfl)));exact zVj
     .have⟨ds1,hn1,hn2⟩:=hns;have⟨x0,x1,x2,x3,x4,x5,x6,x7,x8,x9,x10⟩:=(B2.k hb3).c11;have N1:=yJp (jj:=(k:Int)+1) (HO2.k hb3) hn1 ⟨hd1,hd3⟩ hdl p1 qo;have hl1:ds1.length=l.length+1:=by obtain⟨_,_,_,rfl⟩:=yM1 hn1;simpa using hdl
      have HNt:=hidO (AC hn2 (AC (AC hd1 hd3) (AC hl1 hfl)));clear hn1 hn2 hl1;go_wp2_with fail;apply N1.out.mono;rintro r w4 ⟨rfl,HO4,hC4⟩;have B4:=(B2.k hb3).i hC4 qo;have kw4:=Chg.k kw3 hC4 kw3.size (λq hq=>qo);clear x0 x1 x2 x3 x4 x5 x6 x7 x8 x9 x10 N1;exact zVm
     .have HNt:=hidO (AC hns (AC (AC hd1 hd3) (AC hdl hfl)));have HO4:=hidO (HO2.k hb3);have B4:=B2.k hb3;have kw4:=kw3;clear kw3;exact zVm
     all_goals try have hq:¬d<2:=qo
     all_goals have HNt:=hidO (AC hns (AC (AC hd1 hd3) (AC hdl hfl)))
     all_goals exact zVj
    .exact zzT4
variable {u:Vv}
theorem yKq{m:Bk}(hG:yHj bs m)(h:yGp w u bs)(hok:∀x∈bs,x.ok)(hm:yC5 w m.v m.l)(hmo:m.ok):Calls prog 13 #[.agg #[u,m.v,xi m.cnt]] w (YesP w):=by
 have⟨p0,gm,gb⟩:=hG;obtain⟨ua,cap,rfl⟩:∃ua cap,u=.slice ua bs.length cap:=by
  exact xFj
 have hu2:=hm.cells;have⟨W0,hW0⟩:=qE (xw w #[.slice ua bs.length cap,m.v,xi m.cnt] 34:Ww);have hb0:=qN hW0
 have B0:yA W0 w 34 3 w [.slice ua bs.length cap,m.v,xi m.cnt]:=hW0▸(yAa w _ qr rfl)
 have HI:Hid (∀wx,Below W0 W0 wx->yGp wx (.slice ua bs.length cap) bs):=λwx hx=>(h.k hb0).k hx;have HGb:Hid (∀k x,bs[k]?=some x->yB1 x.l x.cnt k/\x.ok):=λk x hx=>⟨gb k x hx,hok x (AB hx)⟩;have C1:=hidO (yGe W0 gm (hm.k hb0 qr) hmo qo);have⟨k0,k1,k2⟩:=B0.c3;have z0:¬(200:Int)<(bs.length:Int):=qo
 clear h hok hm hmo gm gb;go_enter func13,ntmps13;go_upto_region 1 with fail;rw[<-hW0];clear hW0;go_wp2_with fail;apply C1.out.mono;rintro r w1 ⟨rfl,hb1⟩;clear k0 k1 k2 C1;go_wp2_with fail;go_loopw[3] (λi wr=>∃(k:Nat),k<=bs.length/\i=(xi k)/\Below W0 W0 wr) (λi _=>bs.length-(intOf i).toNat);case atStart=>exact⟨0,AD _,rfl,hb1⟩
 case round=>
  obtain⟨k,hk,rfl,hb⟩:=hrel;obtain⟨k0,-,-⟩:=(B0.k hb).c3;by_cases hlt:k<bs.length
  .obtain⟨x,hx⟩:∃x,bs[k]?=some x:=qg hlt;have zk:(k:Int)<(bs.length:Int):=qo
   obtain⟨b0,off,rfl,c0,c1,hX⟩:∃b0 off,ua=some ⟨b0,off,none⟩/\xk wr b0 (off+k*2) x.v/\xk wr b0 (off+k*2+1) (xi x.cnt)/\yC5 wr x.v x.l:=by
    rcases HI wr hb with⟨a,cap',hq,hl⟩|⟨b,off,cap',hq,hE,_⟩
    .subst hl;simp at hlt
    .cases hq
     have⟨c0,c1,c2⟩:=hE k x hx;exact⟨b,off,rfl,c0,c1,c2⟩
   have C2:=hidO (yGe wr (HGb k x hx).1 hX (HGb k x hx).2 qo);have hu:=hX.cells;clear hX hx;go_wp2_with fail;apply C2.out.mono;rintro r w3 ⟨rfl,hb3⟩;have kb3:=hb.trans (hb3.mono hb.size);clear C2 k0 c0 c1;exact zzT5
  .have zk:¬(k:Int)<(bs.length:Int):=qo
   have HB:=hidO (hb0.trans (hb.mono hb0.size));go_wp2_with fail;go_ret;exact⟨rfl,HB⟩
section
theorem yC4.i(h:yC4 w O g cap es)(hc:Chg S w w')(hn:¬S g):yC4 w' O g cap es:=yAg h hc (λk q=>by simp[Value.ownBlock]at q;subst q;exact hn)
theorem wGen{c:Code}{P:List Vv->Prop}(h:BX O cb bv n T sz P B eb W)(k:∀W',BX O cb bv n T sz P B eb W'->c.wp P' Q a W'):c.wp P' Q a W:=k W h
def yM6:List Vv->Bool
 | []=>true
 | (xi k):: .string s:: .bool _:: .string t:: (xu l):: (xu u):: (xi n)::r=>decide ((s.size<=200000/\t.size<=300000)/\(0<=l/\l<=50000)/\(0<=u/\u<=100000)/\(0<=n/\n<=100000)/\0<=k/\k<=100000) && yM6 r
 |_=>false
theorem Nd.sm.nds(h:e.small):yM6 e.seven=true:=by simp only[yM6,Bool.and_true,decide_eq_true_eq];exact⟨⟨h.s,h.t⟩,h.lo,h.up,h.n,h.f⟩
theorem yTg:∀{l:List Vv},yM6 l=true->∃es:List Nd,l=yL3 es/\∀e∈es,e.small
 | [],_=>⟨[],rfl,λ_ q=>by cases q⟩
 | (xi k):: .string s:: .bool b:: .string t:: (xu l):: (xu u):: (xi n)::r,h=>by
   simp only[yM6,Bool.and_eq_true,decide_eq_true_eq]at h
   have⟨es,h1,h2⟩:=yTg h.2
   have⟨⟨q1,q2⟩,q3,q4,q5,q6⟩:=h.1
   refine⟨⟨k,s,b,t,l,u,n⟩::es,by rw[h1];rfl,λe he=>?_⟩
   rcases List.mem_cons.1 he with rfl|he
   .exact⟨q1,q2,q3,q4,q5,q6⟩
   .exact h2 e he
def DnR(w W:Ww)(g cp len:Nat):Prop:=∃xs:List Nd,len=xs.length/\(∀e∈xs,e.small)/\yC4 W w g cp xs
section
variable {la lb gb ob cx:Nat}
theorem DnR.i(h:DnR w W g cp len)(hc:Chg S W W')(hn:¬S g):DnR w W' g cp len:=by have⟨xs,h1,h2,h3⟩:=h;exact⟨xs,h1,h2,h3.i hc hn⟩
theorem DnR.lt(h:DnR w W g cp len):w<=g/\g<W:=by have⟨xs,h1,h2,h3⟩:=h;exact h3.lt
theorem DnR.k(h:DnR w W g cp len)(hb:Below W W W'):DnR w W' g cp len:=h.i (S:=λ_=>False) (Chg.h hb) (λq=>q)
theorem DnR.drew(h:DnR w W g cp len)(hl:cb<w)(hd:Drew O cb bv n W W'):DnR w W' g cp len:=h.i hd.2 (qw h.lt)
theorem yXh(h:yD1 w b off es)(hb:Chg S w w')(hlt:b<w)(hn:¬S b):yD1 w' b off es:=by
 intro i e he;have:=h i e he;refine⟨?_,?_,?_,?_,?_,?_,?_⟩;all_goals rw[hb.z (by exact hlt) (by exact hn)]
 .exact this.1
 .exact this.2.1
 .exact this.2.2.1
 .exact this.2.2.2.1
 .exact this.2.2.2.2.1
 .exact this.2.2.2.2.2.1
 .exact this.2.2.2.2.2.2
def Src(p:Nd->Prop)(W:Ww)(b o len:Nat):Prop:=∃ys:List Nd,len=ys.length/\(∀e∈ys,p e)/\yD1 W b o ys
theorem DnR.src(h:DnR w W g cp len):Src Nd.small W g 0 len:=by have⟨xs,h1,h2,h3⟩:=h;exact⟨xs,h1,h2,h3.at⟩
theorem Src.i{p:Nd->Prop}(h:Src p W b o len)(hb:b<W)(hc:Chg S W W')(hn:¬S b):Src p W' b o len:=by have⟨xs,h1,h2,h3⟩:=h;exact⟨xs,h1,h2,yXh h3 hc hb hn⟩
theorem DnR.lit(hb:w.heap.size<=W)(hok:yM6 cs.toList=true)(hz:cs.size=len*7)(h6:len<=100):DnR w (xw W cs 83) W len len:=by
 have⟨es,h1,h2⟩:=yTg hok;have hl:len=es.length:=by have:=congrArg Aa h1;rw[yNa,Array.length_toList]at this;omega
 subst hl;refine⟨es,rfl,h2,?_⟩;have h:=World.ownsRow_lit (base:=w.heap.size) (e:=83) (size:=7) W cs es.length hb (by unfold maxLen;omega) hz;unfold yC4;rw[<-h1];exact h
variable {o:Oper} {s x:Operand}
theorem apN(hgd:o.guard=none)(ho:o.op=.call {callee:=.builtin .append,args:=#[s,x],argTypes:=#[23,23]})
  (hs:a.eval s=(xg g la cp)) (hx:a.eval x=(xy gb ob lb cx)) (HA:Hid (DInv O cb bv n w W/\DnR w W g cp la)) (HB:Src Nd.small W gb ob lb) (hl:la+lb<=100000)
  (h:∀g' cp' w',Hid (DInv O cb bv n w w'/\DnR w w' g' cp' (la+lb))->Hid (∀g2 c2 l2,DnR w W g2 c2 l2->¬g2=g->DnR w w' g2 c2 l2)->wpList prog ops Q rest (a.put o.dst (xg g' (la+lb) cp')) w'):wpList prog ops Q (o::rest) a W:=by
 obtain⟨HD,xs,rfl,h2,h3⟩:=HA;obtain⟨es,rfl,h5,h6⟩:=HB;exact wpA hgd (apK apNd ho w xs es hs hx rfl rfl h3 h6 qo HD.c.size λg' cp' w' hO hgr hat=>h g' cp' w' ⟨HD.grow hgr (λk q=>by cases q;exact h3.lt.1),xs++es,by simp,λe he=>(AV.1 he).elim (h2 e) (h5 e),hO⟩ λg2 c2 l2 hr hn=>hr.i (Chg.M (S:=λk=>k=g) hgr (λk q=>by cases q;rfl)) hn)
theorem apS(hgd:o.guard=none)(ho:o.op=.call {callee:=.builtin .append,args:=#[s,x],argTypes:=#[23,23]})
  (hs:a.eval s=(xg g la cp)) (hx:a.eval x=(xg W lb lb)) (HA:Hid (DInv O cb bv n w W/\DnR w W g cp la)) (hok:yM6 cs.toList=true) (hz:cs.size=lb*7) (hl:la<=10000) (h1:lb<=100)
  (h:∀g' cp' w',Hid (DInv O cb bv n w w'/\DnR w w' g' cp' (la+lb))->wpList prog ops Q rest (a.put o.dst (xg g' (la+lb) cp')) w'):wpList prog ops Q (o::rest) a (xw W cs 83):=
 have hb:=qB
 apN hgd ho hs hx ⟨HA.1.k hb,HA.2.k hb⟩ (DnR.lit HA.1.c.size hok hz h1).src qo λg' cp' w' h9 _=>h g' cp' w' h9
theorem apP(hgd:o.guard=none)(ho:o.op=.call {callee:=.builtin .append,args:=#[s,x],argTypes:=#[23,23]})
  (hs:a.eval s=(xg W lb lb)) (hx:a.eval x=(xg g la cp)) (HA:Hid (DInv O cb bv n w W/\DnR w W g cp la)) (hok:yM6 cs.toList=true) (hz:cs.size=lb*7) (hl:la<=10000) (h1:lb<=100)
  (h:∀g' cp' w',Hid (DInv O cb bv n w w'/\DnR w w' g' cp' (lb+la))->wpList prog ops Q rest (a.put o.dst (xg g' (lb+la) cp')) w'):wpList prog ops Q (o::rest) a (xw W cs 83):=
 have hb:=qB
 apN hgd ho hs hx ⟨HA.1.k hb,DnR.lit HA.1.c.size hok hz h1⟩ (HA.2.k hb).src qo λg' cp' w' h9 _=>h g' cp' w' h9
end
def TreP(O cb:Nat)(bv:Vv)(n m:Nat)(w:Ww)(e:AR)(w':Ww):Prop:=∃g cp len:Nat,e=.returned (xg g len cp)/\len<=m/\0<len/\Hid (DInv O cb bv n w w'/\DnR w w' g cp len)
def TreC(O cb:Nat)(bv:Vv)(n:Nat)(z:Int)(m:Nat):Prop:=∀w,yAm O cb bv n w->Calls prog 75 #[xp cb,xi z] w (TreP O cb bv n m w)
theorem DInv.up(hd:DInv O cb bv n w W)(h:DInv O cb bv n W w'/\DnR W w' g cp len):Hid (DInv O cb bv n w w'/\DnR w w' g cp len/\∀g2 c2 l2,DnR w W g2 c2 l2->DnR w w' g2 c2 l2/\¬g=g2):=by have⟨h4,xs,h5,h6,h7⟩:=h;have hz:=hd.c.size;have hl:=hd.lt;have:=h7.lt;refine⟨⟨h4.d,hd.c.trans h4.c,hd.lt,hd.hb⟩,⟨xs,h5,h6,h7.mono hz⟩,λg2 c2 l2 hr=>?_⟩;have hq:=hr.lt;exact⟨hr.i h4.c qo,qo⟩
variable {p:Prop}
theorem zTl(h:p:=by go_wp2_with (at_builtin;refine apS rfl rfl rfl rfl H4 (by rfl) (by rfl) qo qo ?_);intro g5 c5 w5 H5;go_wp2_with fail;go_ret;exact⟨g5,c5,_,rfl,qo,qo,H5⟩):p:=h
theorem zTa(h:p:=by go_wp2_with (at_builtin;refine apN rfl rfl rfl rfl HX HB.src qo ?_);intro g4 c4 w4 H4 _;exact zTl):p:=h
theorem zTi(h:p:=by go_wp2_with fail;apply (HT.out _ HX.1.d).mono;rintro e w7 ⟨gc,cd,lc,rfl,hCl,hC0,K⟩;have HY:=HX.1.up K;have HA:=HY.2.2 _ _ _ HX.2;clear K;go_wp2_with (at_builtin;refine apN rfl rfl rfl rfl ⟨HY.1,HA.1⟩ (HY.2.2 _ _ _ HB).1.src qo ?_);intro g3 c3 w3 H3 HK;go_wp2_with (at_builtin;refine apN rfl rfl rfl rfl H3 (HK _ _ _ HY.2.1 HA.2).src qo ?_);intro g4 c4 w4 H4 _;exact zTl):p:=h
theorem zTf(h:p:=by go_wp2_with fail;apply (yNn O cb bv n _ H1.d).mono;rintro e w2 ⟨f,rfl,hf,hd⟩;have H2:=qH2 (H1.call hd) hf.nds;clear hd hf;go_wp2_with fail;go_ret;exact⟨_,1,1,rfl,qo,qo,H2.1.k (qB),DnR.lit H2.1.c.size H2.2 rfl qo⟩):p:=h
theorem yGt(O cb:Nat)(bv:Vv)(n:Nat)(z:Int)(m:Nat)(hz0:0<=z)(hz1:z<=100)(hm:m<=1000)(HT0:0<z->TreC O cb bv n (z-1) m):TreC O cb bv n z (3*m+1):=by
 intro w h;have HD:=qH1 (DInv.start h);have HS:=qH1 HT0;clear h HT0;go_enter func75,ntmps75;go_wp2_with fail;apply (yAp O cb bv n 10 _ HD.d qo qo).mono;rintro e w1 ⟨x,rfl,hx0,hx1,hd⟩;have H1:=qH1 (HD.call hd);clear hd;by_cases hz:z=0
 .subst hz;exact zTf
 have hzb:(z==0)=false:=by rw[iC];exact hz
 by_cases hx2:x<2
 .exact zTf
 have HT:=qH1 (HS qo);clear HS;go_wp2_with fail;apply (HT.out _ H1.d).mono;rintro e w2 ⟨ga,ca,la,rfl,hAl,hA0,K⟩;have H2:=H1.up K;clear K;go_wp2_with fail;apply (HT.out _ H2.1.d).mono;rintro e w3 ⟨gb,cc,lb,rfl,hBl,hB0,K⟩;have H3:=H2.1.up K;have HX:=qH2 H3.1 ((H3.2.2 _ _ _ H2.2.1).1);have HB:=qH1 H3.2.1;clear K H3 H2 HD;by_cases hx6:x<6
 .exact zTa
 by_cases hx8:x<8
 .exact zTa
 by_cases hx9:x=8
 .subst hx9;go_wp2_with fail;apply (yBb O cb bv n 3 _ HX.1.d qo qo).mono;rintro e w9 ⟨v,rfl,hv,hd⟩;have hl:=H1.lt;have HX:=qH2 (HX.1.call hd) (HX.2.drew hl hd);have HB:=qH1 (HB.drew hl hd);clear hd;rcases hv with rfl|rfl
  .have HB:=qH1 HX.2;exact zTa
  .exact zTi
 .have hxb:(x==8)=false:=by rw[iC];exact hx9
  exact zTi
end
def yVx(js:List Nat)(w:Ww)(r:AR)(w':Ww):Prop:=∃g,r=.returned (xg g js.length js.length)/\(∀(i j:Nat),js[i]?=some j->(xk w' g i (xi j):Prop))/\w.heap.size<=g/\g<w'.heap.size/\Below w w w'
theorem yV7(x:Ix)(k:Nat) w (hk:k<=1000000) (hb:(x.op=5\/x.op=6)->0<=x.b):Calls prog 167 #[x.v,xi k] w (yVx (ways k x) w):=by
 have⟨op,a,b,free,⟨kind,s,hi,t,lo,up,nn⟩⟩:=x;simp only at hb;have⟨js,a1⟩:=qE (ways k ⟨op,a,b,free,⟨kind,s,hi,t,lo,up,nn⟩⟩);rw[<-a1];have HJ:=qH1 a1;have⟨W0,a0⟩:=qE (xw w #[xi op,xi a,xi b,free,xi kind,s,hi,t,xu lo,xu up,xi nn] 153:Ww);have a6:=qN a0
 have a2:=qS a0
 obtain⟨c0,c2⟩:xk W0 w 0 (xi op)/\xk W0 w 2 (xi b):=a0▸⟨by simp,by simp⟩
 have a7:IntKind.i64.wrap ((k:Int)+1)=(k:Int)+1:=by rw[AG];omega
 have HA:Hid (∀(vs:List Int),vs=js.map (λj:Nat=>(j:Int))->yVx js w (.returned (xg (w+1) js.length js.length)) (xw W0 (vs.map λd=>Value.int .i64 d).toArray 3)):=by
  intro vs a3;have a5:Below W0 W0 (xw W0 (vs.map λd=>Value.int .i64 d).toArray 3):=qB;refine⟨w+1,rfl,λi j hj=>?_,qo,by rw[<-a2];simp,a6.trans (a5.mono qo)⟩;have h1:(vs.map λd=>Value.int .i64 d)[i]?=some (.int .i64 (j:Int)):=by rw[a3,AQ,AQ,hj];rfl
  rw[<-a2];simp[h1]
 go_enter func167,ntmps167;go_upto_region 1 with fail;rw[<-a0];clear a0;by_cases h5:op=5
 .subst h5;have hj:js= [k+1,b.toNat]:=by rw[HJ.out];rfl
  have a4:=hb (.inl rfl);have H:Hid (yVx js w (.returned (xg (w.heap.size+1) 2 2)) (W0.alloc (AJ #[.int .i64 ((k:Int)+1),.int .i64 b] 3))):=by have:=HA.out [(k:Int)+1,b] (by rw[hj];simp;omega);rw[hj]at this|-;exact this
  clear hj hb;go_wp2_with fail;go_ret;exact H.out
 by_cases h6:op=6
 .subst h6;have hj:js= [b.toNat]:=by rw[HJ.out];rfl
  have a4:=hb (.inr rfl);have H:Hid (yVx js w (.returned (xg (w.heap.size+1) 1 1)) (W0.alloc (AJ #[.int .i64 b] 3))):=by have:=HA.out [b] (by rw[hj];simp;omega);rw[hj]at this|-;exact this
  clear hj hb;go_wp2_with fail;go_ret;exact H.out
 have hj:js= [k+1]:=by rw[HJ.out];simp[ways,h5,h6]
 have H:Hid (yVx js w (.returned (xg (w.heap.size+1) 1 1)) (W0.alloc (AJ #[.int .i64 ((k:Int)+1)] 3))):=by have:=HA.out [(k:Int)+1] (by rw[hj];simp);rw[hj]at this|-;exact this
 clear hj hb;go_wp2_with fail;go_ret;exact H.out
theorem Tryz.infoInt:(prog.info? 3).map (λi=>(i.zero,i.size,i.bytes))=some (some (.int .i64 0),1,8):=qk
theorem yU0(n:Nat):(madeCells #[xi 0] n).toList=(AH n (0:Int)).map λd=>Value.int .i64 d:=by
 apply ext_getElem?;intro j;by_cases hj:j<n
 .rw[AQ,AX,iB hj];simp[madeCells,hj,mod_one]
 .rw[AQ,AX,iA hj];simp[madeCells,hj]
variable {js:List Nat}
theorem yUt(h:yCi d (js.take m) ds=some ds')(hj:js[m]?=some j):yCi d (js.take (m+1)) ds=note ds' j d:=by
 have a0:∀(xs:List Nat)(es:List Int),yCi d (xs++ [j]) es=(yCi d xs es).bind λe=>note e j d:=by
  intro xs;induction xs with
  |nil=>intro es;simp[yCi]
  |cons x xs ih=>
   intro es;simp only[cons_append,yCi];cases note es x d with
   |none=>rfl
   |some e=>simp[ih]
 rw[AS,hj];simp only[Option.toList];rw[a0,h];rfl
theorem yUu(h:yCi d (js.take m) ds=none):yCi d js ds=none:=by
 have a0:∀(xs ys:List Nat)(es:List Int),yCi d xs es=none->yCi d (xs++ys) es=none:=by
  intro xs;induction xs with
  |nil=>intro ys es q;simp[yCi]at q
  |cons x xs ih=>
   intro ys es q;simp only[cons_append,yCi]at q|-;cases hn:note es x d with
   |none=>rfl
   |some e=>
    rw[hn]at q;exact ih ys e q
 have:=a0 (js.take m) (js.drop m) ds h;rw[take_append_drop]at this;exact this
theorem yXe{e:List Int}(h:yCi d js ds=some e)(m:Nat):∃es,yCi d (js.take m) ds=some es:=by
 cases q:yCi d (js.take m) ds with
 |none=>rw[yUu q]at h;cases h
 |some es=>exact⟨es,rfl⟩
theorem xC7{k:Nat}(h:yN0 x k l.length cnt conds)(hk:k<l.length):(ways k x).length<=2/\(∀(m j:Nat),(ways k x)[m]?=some j->j<=l.length)/\((x.op=5\/x.op=6)->0<=x.b):=by
 rcases h.forms with⟨a,f,e,rfl,-⟩|⟨a,b,rfl,-,-,h3,h4⟩|⟨b,rfl,h3,h4⟩|⟨o,rfl,rfl|rfl|rfl⟩;all_goals refine⟨by simp[ways],λm j hm=>?_,λ_=>by simp only;omega⟩
 all_goals have:=AB hm
 all_goals simp[ways]at this
 all_goals omega
variable {p:Prop}
theorem zVdF (h:p:=by
 rintro r w4 ⟨gw,rfl,hcw,hgw1,hgw2,hb4⟩;have hgne:¬gw=W0.heap.size:=qw HO3.lt.2
 have HCw:Hid (∀(i j:Nat),js[i]?=some j->(xk w4 gw i (xi j):Prop)):=hcw;have HO4:=hidO (HO3.k hb4);have kw4:=kw3.trans (hb4.mono kw3.size);have hjl:js.length<=2:=HJS.1;clear hcw x0 x1 x2 x3 x4 x5 x6 x7 x8 x9 x10 e0 e1;go_wp2;go_loopw[54] (λi wi=>∃(m:Nat)(es:List Int),m<=js.length/\i=(xi m)/\Hid (yCi D (js.take m) ds=some es/\OwnZ 3 wi W0 W0 (l.length+1) es .i64/\Chg (λq=>q=W0.heap.size) w4 wi)/\Below W0 W0 wi) (λi _=>js.length-(intOf i).toNat);case atStart=>exact⟨0,ds,Nat.zero_le _,rfl,⟨rfl,HO4.out,Chg.refl _ _⟩,kw4⟩
 case round=>
  obtain⟨m,es,hm,rfl,HN,hbi⟩:=hrel;by_cases hml:m<js.length
  .have zm:(m:Int)<(js.length:Int):=by omega
   obtain⟨j,hj⟩:∃j,js[m]?=some j:=qg hml;have hjn:=HJS.2.1 m j hj;have zj:(j:Int)<(l.length:Int)+1:=by omega
   obtain⟨es',hn⟩:=yXe HNS.1 (m+1);have HN2:=hidO hn;rw[yUt HN.1 hj]at hn;obtain⟨e',he',h0,rfl⟩:=yM1 hn;obtain⟨f0,f1⟩:=HN.2.1.z he';have w0:(xk wr gw m (xi j):Prop):=by rw[HN.2.2.z (p:=(xd gw m)) hgw2 hgne];exact HCw.out m j hj
   have HN3:=hidO (And.intro HN2.out (And.intro (HN.2.1.set j D) (HN.2.2.trans (Chg.D _ _ j (xi D) rfl))));have kb5:Below W0 W0 (xt wr W0 j (xi D)):=hbi.setCell qr _;clear hn hj he';by_cases hez:e'=0
   .subst hez;exact xFt
   .have hed:e'=D:=by omega
    subst hed;have hez2:(e'==0)=false:=by rw[iC];exact hez
    exact xFt
  .have zm:¬(m:Int)<(js.length:Int):=by omega
   have h1:=HN.1;rw[List.take_of_length_le (by omega),HNS.1]at h1;obtain rfl:=Option.some.inj h1;have HQ:=hidO (And.intro HNS.2 HN.2.1);clear h1;refine zY ?_;exact⟨k+1,_,by omega,by go_num,HQ,hbi⟩):p:=h
theorem yM(hG:yB1 l cnt conds)(hE:yBh w b0 off l)(hbl:b0<w.heap.size)(hcap:l.length<=cap/\cap<=maxLen):Calls prog 116 #[.agg #[(xy b0 off l.length cap),.int .i64 cnt]] w (YesP w):=by
 obtain⟨i,hi,hz0,hz1,hz2⟩:=info_parts Tryz.infoInt;have HI:Hid (prog.info? 3=some i/\i.zero=some (.int .i64 0)/\i.size=1/\i.bytes=8):=⟨hi,hz0,hz1,hz2⟩;clear hi hz0 hz1 hz2;obtain⟨p0,p1,-⟩:=id hG;unfold maxLen at hcap;obtain⟨W0,hW0⟩:=qW (w.alloc (AJ #[(xy b0 off l.length cap),.int .i64 cnt] 32));have hb0:Below w.heap.size w W0:=by rw[hW0];exact qB
 have B0:yA W0 w.heap.size 32 2 w.heap.size [(xy b0 off l.length cap),.int .i64 cnt]:=by rw[hW0];exact yAa w _ (AA _) rfl
 have HE:Hid (∀wx,Below W0.heap.size W0 wx->yBh wx b0 off l):=λwx hx=>(hE.k hb0 hbl).k hx (qw hb0.size);have HG:=hidO hG;obtain⟨k0,-⟩:=B0.c2;have hwn:IntKind.i64.wrap ((l.length:Int)+1)=(l.length:Int)+1:=by rw[AG];omega
 clear hE hG;go_enter func116,ntmps116;go_upto_region 1 with fail;rw[<-hW0];clear hW0;go_wp2_with (at_make;refine wpList_make_full _ rfl _ _ 259 rfl W0.heap.size 3 i _ 1 underlying259 HI.1 HI.2.1 HI.2.2.1 _ _ _ _ (l.length+1) rfl rfl ?_ ?_ ?hb ?hm ?hs ?_);case hb=>rw[HI.2.2.2];omega
 case hm=>unfold maxLen;omega
 case hs=>exact AA _
 .rfl
 .rfl
 intro w1 hown hgrow;rw[yU0]at hown;have HO1:Hid (OwnZ 3 w1 W0 W0 (l.length+1) (AH (l.length+1) 0) .i64):=by unfold Hid OwnZ;rw[List.length_replicate];exact hown
 have hb1:Below W0 W0 w1:=(Below.refl _ _).grown hgrow qr (λk hk=>by cases hk);clear hown hgrow k0;obtain⟨e0,e1⟩:=HO1.z (j:=0) (d:=0) rfl;have HO2:Hid (OwnZ 3 (w1.setCell (xd W0.heap.size 0) (.int .i64 1)) W0.heap.size W0.heap.size (l.length+1) (1::AH l.length 0) .i64):=HO1.set 0 1;have hb2:Below W0.heap.size W0 (w1.setCell ⟨W0.heap.size,0,none⟩ (.int .i64 1)):=hb1.setCell (AA _) _;obtain⟨k0,-⟩:=(B0.k hb1).c2;obtain⟨W2,hW2⟩:=qW (w1.setCell ⟨W0.heap.size,0,none⟩ (.int .i64 1));rw[<-hW2]at HO2 hb2;go_upto_region 3 with fail;rw[<-hW2];clear hW2 e0 e1 k0;obtain⟨k0,-⟩:=(B0.k hb2).c2;go_wp2;go_loopw[21] (λi wr=>∃(k:Nat)(ds:List Int),k<=l.length/\i=.int .i64 k/\Hid (yCo l k=some ds/\OwnZ 3 wr W0.heap.size W0.heap.size (l.length+1) ds .i64)/\Below W0.heap.size W0 wr) (λi _=>l.length-(intOf i).toNat);case atStart=>exact⟨0,_,AD _,rfl,⟨rfl,HO2.out⟩,hb2⟩
 case round=>
  clear k0;obtain⟨k,ds,hk,rfl,HJ,hb⟩:=hrel;obtain⟨k0,-⟩:=(B0.k hb).c2;by_cases hlt:k<l.length
  .have zk:(k:Int)<(l.length:Int):=by omega
   have zk1:(k:Int)<(l.length:Int)+1:=by omega
   obtain⟨x,hx⟩:∃x,l[k]?=some x:=⟨_,AL hlt⟩;obtain⟨hdl,d,ds',hd,hle,hd1,hd2,hd3,hns,hfl⟩:=yYg HG.out HJ.1 hx;obtain⟨c0,c1,c2,c3,c4,c5,c6,c7,c8,c9,c10⟩:=HE.out wr hb k _ hx;obtain⟨W3,hW3,hb3,B3⟩:=insB x wr;have HO3:=hidO (HJ.2.k hb3);have kw3:=hb.trans (hb3.mono hb.size);obtain⟨e0,e1⟩:=HO3.z hd;have hz:=HJ.2.lt;have hj:=xC7 (yB5 HG.out hx) hlt;obtain⟨js,hjs⟩:=qE (ways k x);have HWy:Hid (Calls prog 167 #[x.v,.int .i64 k] W3 (yVx js W3)):=by rw[hjs];exact yV7 x k W3 (by omega) hj.2.2
   rw[<-hjs]at hj hns;have HJS:=hidO hj;clear hjs hj;rcases(yB5 HG.out hx).forms with⟨a,f,e,rfl,-⟩|⟨a,b,rfl,-,-,h3,h4⟩|⟨b,rfl,h3,h4⟩|⟨o,rfl,rfl|rfl|rfl⟩;all_goals dsimp only[yA3,Ix.v]at B3 hW3 HWy c0 c1 c2 c3 c4 c5 c6 c7 c8 c9 c10
   all_goals obtain⟨x0,x1,x2,x3,x4,x5,x6,x7,x8,x9,x10⟩:=B3.c11
   all_goals simp[more,least]at hle hd1 hd3 hns
   all_goals have HNS:=hidO (AC hns hfl)
   all_goals have hwl:IntKind.i64.wrap (d+1)=d+1:=by rw[AG];omega
   all_goals have hwm:IntKind.i64.wrap (d+ -1)=d+ -1:=by rw[AG];omega
   all_goals clear hns hfl hx hd hdl
   all_goals go_upto_region 6 with fail
   all_goals rw[<-hW3]
   all_goals clear hW3 c0 c1 c2 c3 c4 c5 c6 c7 c8 c9 c10 k0
   all_goals go_wp2_with fail
   all_goals refine HWy.mono ?_
   all_goals clear HWy
   iterate 3
    .obtain⟨D,rfl⟩:=qE d;exact zVdF
   .generalize d+1=D at HNS|-;exact zVdF
   .obtain⟨D,rfl⟩:=qE d;exact zVdF
   .generalize d+ -1=D at HNS|-;exact zVdF
  .exact zzT4
theorem yX3(x:Ix)(wx:Ww):(binOp .eql 153 x.v x.v).run prog wx=.ok true wx:=by go_simp
theorem yL9{a:Int}{f:Bool}(hv:v.cells=#[v])(hF:yB9 [e])(hA:(cntK e.f/\0<=a/\a<cnt)\/(¬cntK e.f/\a=0))(ho:e.ok):Calls prog 166 #[.agg #[v,xi cnt],(⟨1,a,0,f,e⟩:Ix).v] w (YesP w):=by
 obtain⟨W,hW⟩:=qW (xw w #[v,xi cnt] 32);have hb:=qN hW
 have BB:yA W w 32 2 w [v,xi cnt]:=by rw[hW];exact yAa w _ qr rfl
 obtain⟨W0,hW0,hb0,B0⟩:=insB ⟨1,a,0,f,e⟩ W;have hz:=qS hW
 have k0:=hb.trans (hb0.mono hb.size);obtain⟨W1,hW1⟩:=qW (xw W0 #[xi e.f,e.s,e.hi,e.t,xu e.lo,xu e.up,xi e.n] 83);have hb1:=qN hW1
 have C1:=hidO (yJz (w:=W1) (xs:= [e]) (O:=W0.heap.size) (g:=W0.heap.size) (cp:=1) (by rw[hW1];exact yOq W0 e) hF);rw[hW]at hW0;rw[hz]at B0;dsimp only at hW0 B0;obtain⟨c0,c1,c2,c3,c4,c5,c6,c7,c8,c9,c10⟩:=B0.c11;clear hF ho hW hz;go_enter func166,ntmps166;go_upto_region 1 with fail;rw[<-hW0];clear hW0;go_wp2_with fail;rw[<-hW1];clear hW1 c0 c1 c2 c3 c4 c5 c6 c7 c8 c9 c10;refine C1.out.mono ?_;rintro r w2 ⟨rfl,hb2⟩;have k2:=hb1.trans (hb2.mono hb1.size);obtain⟨c0,c1,c2,c3,c4,c5,c6,c7,c8,c9,c10⟩:=(B0.k k2).c11;clear C1;go_wp2_with fail;refine(yJ1 e.f _).mono ?_;rintro r w3 ⟨q,rfl,hq,hb3⟩;have k3:=k2.trans (hb3.mono k2.size);have HE:=hidO (k0.trans (k3.mono k0.size));have b1:=((BB.k hb0).k k3).z (j:=1) rfl;exact zzT2
theorem yN4{k:Nat}(h:yBh w b0 off l)(hlt:b0<w.heap.size)(hc:l.length<=cap/\cap<=maxLen)(hy:l[k]?=some y)(hG:yN0 y k l.length cnt conds)(ho:y.ok):Calls prog 115 #[.agg #[(xy b0 off l.length cap),xi cnt],xi k,xi conds] w (YesP w):=by
 have hkl:=qf hy;have zk:=qo
 unfold maxLen at hc;obtain⟨W0,hW0⟩:=qE (xw w #[(xy b0 off l.length cap),xi cnt] 32:Ww);have hb0:=qN hW0
 have B0:yA W0 w 32 2 w [(xy b0 off l.length cap),xi cnt]:=by rw[hW0];exact yAa w _ qr rfl
 obtain⟨c0,c1,c2,c3,c4,c5,c6,c7,c8,c9,c10⟩:=(h.k hb0 hlt) k _ hy;obtain⟨W1,hW1,hb1,B1⟩:=insB y W0;have k1:=hb0.trans (hb1.mono hb0.size);obtain⟨m0,m1⟩:=B0.c2;obtain⟨n0,n1⟩:=(B0.k hb1).c2;have hq:=yX3 y;have hol:=ho.leaf;go_enter func115,ntmps115;go_upto_region 1 with fail;rw[<-hW0];clear hW0 h hy ho;rcases hG.forms with⟨a,f,e,rfl,hF,hA⟩|⟨a,b,rfl,h1,h2,h3,h4⟩|⟨b,rfl,h3,h4⟩|⟨o,rfl,rfl|rfl|rfl⟩;all_goals dsimp only[yA3,Ix.v]at B1 hW1 c0 c1 c2 c3 c4 c5 c6 c7 c8 c9 c10 hq
 all_goals obtain⟨x0,x1,x2,x3,x4,x5,x6,x7,x8,x9,x10⟩:=B1.c11
 all_goals clear hG
 all_goals go_upto_region 2 with fail
 all_goals rw[<-hW1]
 all_goals clear hW1 m0 m1 c0 c1 c2 c3 c4 c5 c6 c7 c8 c9 c10
 .have C1:=hidO (yL9 (f:=f) (w:=W1) (v:=(xy b0 off l.length cap)) (cnt:=cnt) rfl hF hA hol);clear hF hA hol;go_wp2_with fail;refine C1.out.mono ?_;rintro r w2 ⟨rfl,hb2⟩;have HE:=hidO (k1.trans (hb2.mono k1.size));go_wp2_with fail;go_ret;exact⟨rfl,HE.out⟩
 all_goals go_wp2_with fail
 all_goals go_ret
 .exact⟨by simp[h2],k1⟩
 all_goals exact⟨rfl,k1⟩
section
theorem yZz(O cb:Nat)(bv:Vv)(n:Nat)(z:Int)(h0:0<=z)(h3:z<=3):TreC O cb bv n z 40:=by
 have t0:=yGt O cb bv n 0 0 qo qo qo (λq=>absurd q qo);have t1:=yGt O cb bv n 1 1 qo qo qo (λ_=>t0);have t2:=yGt O cb bv n 2 4 qo qo qo (λ_=>t1);have t3:=yGt O cb bv n 3 13 qo qo qo (λ_=>t2);have up:∀m,m<=40->TreC O cb bv n z m->TreC O cb bv n z 40:=λm hm h w hw=>(h w hw).mono λe w' ⟨g,cp,len,h1,h2,h3⟩=>⟨g,cp,len,h1,qo,h3⟩;have hz:z=0\/z=1\/z=2\/z=3:=qo
 rcases hz with rfl|rfl|rfl|rfl
 .exact up _ qo t0
 .exact up _ qo t1
 .exact up _ qo t2
 .exact t3
def AnyR(p:Nd->Prop)(w W:Ww)(b o len c:Nat):Prop:=Src p W b o len/\(w.heap.size<=b/\b<W.heap.size)/\len<=c/\c<=maxLen
def FltP(p:Nd->Prop)(lo m:Nat)(O cb:Nat)(bv:Vv)(n:Nat)(w:Ww)(e:AR)(w':Ww):Prop:=∃b o c len:Nat,e=.returned (.agg #[(xy b o len c)])/\lo<=len/\len<=m/\Hid (DInv O cb bv n w w'/\AnyR p w w' b o len c)
abbrev FilP(O cb:Nat)(bv:Vv)(n m:Nat):=FltP Nd.small 1 m O cb bv n
abbrev AnyP(O cb:Nat)(bv:Vv)(n:Nat):=FltP Nd.ok 0 1001 O cb bv n
section
variable {p:Nd->Prop}
theorem DnR.any(h:DnR w W g cp len):AnyR Nd.small w W g 0 len cp:=by have ⟨xs,h1,h2,h3⟩:=h;exact⟨h.src,h.lt,by rw[h1];exact h3.caps.1,h3.caps.2⟩
theorem AnyR.i(h:AnyR p w W b o len c)(hc:Chg S W W')(hn:¬S b):AnyR p w W' b o len c:=⟨h.1.i h.2.1.2 hc hn,⟨h.2.1.1,AN h.2.1.2 hc.size⟩,h.2.2⟩
theorem AnyR.ok(h:AnyR Nd.small w W b o len c):AnyR Nd.ok w W b o len c:=by obtain⟨⟨ys,h1,h2,h3⟩,h4⟩:=h;exact⟨⟨ys,h1,λe he=>(h2 e he).ok qj,h3⟩,h4⟩
theorem DInv.upA(hd:DInv O cb bv n w W)(h:DInv O cb bv n W W'/\AnyR p W W' b o len c):Hid (DInv O cb bv n w W'/\AnyR p w W' b o len c):=
 ⟨⟨h.1.d,hd.c.trans h.1.c,hd.lt,hd.hb⟩,h.2.1,⟨AF hd.c.size h.2.2.1.1,h.2.2.1.2⟩,h.2.2.2⟩
theorem yNi(h:yAm O cb bv n w):∃Wa,Wa=w.alloc (.cells #[.slice none 0 0] 25)/\Hid (DInv O cb bv n Wa Wa)/\Hid (∀p W b o len c lo m,DInv O cb bv n Wa W/\AnyR p Wa W b o len c->lo<=len->len<=m->
  ∃W9,W9=W.setCell (xd w.heap.size 0) (.slice (some ⟨b,o,none⟩) len c)/\W.cell? (xd w.heap.size 0)=some (.slice none 0 0)/\W.frozen? ⟨w.heap.size,0,none⟩=false/\W9.cell? ⟨w.heap.size,0,none⟩=some (.slice (some ⟨b,o,none⟩) len c)/\Hid (FltP p lo m O cb bv n w (.returned (.agg #[.slice (some ⟨b,o,none⟩) len c])) W9)):=by
 have hb:Below w.heap.size w (w.alloc (.cells #[.slice none 0 0] 25)):=qB;have hB:=yAa w (O:=w.heap.size) (t:=25) (sz:=1) #[.slice none 0 0] (AA _) rfl;have hcb:=h.lt.2;refine⟨_,rfl,DInv.start (h.k hb),λp W b o len c lo m hW hl h0=>⟨_,rfl,?_⟩⟩;have hB':=hB.i hW.1.c (by omega);have H:=(DInv.k (DInv.start h) hb).upA hW;have hg:=hW.2.2.1.1;have hc:Chg (λk=>k=w.heap.size) W (xt W w 0 (.slice (some ⟨b,o,none⟩) len c)):=Chg.D _ _ _ _ rfl;refine⟨hB'.z rfl,hB'.frozen 0,(hB'.set 0 _).z rfl,b,o,c,len,rfl,hl,h0,H.1.grow (yDj W w 0 _) (λk q=>by cases q;exact AA _),H.2.i hc ?_⟩;have:=hB.lt.2;omega
end
theorem yFj(O cb:Nat)(bv:Vv)(n:Nat)(w:Ww)(h:yAm O cb bv n w):
  Calls prog 30 #[.pointer (some ⟨cb,0,none⟩)] w (FilP O cb bv n 40 w):=by
 obtain⟨Wa,hWa,HA,HR⟩:=yNi h;clear h;go_enter func30,ntmps30;go_wp2_with fail;rw[<-hWa];refine(yAp O cb bv n 3 _ HA.d qo qo).mono ?_;rintro e w1 ⟨x,rfl,hx0,hx1,hd⟩;have H1:=HA.call hd;go_wp2_with fail;refine(yZz O cb bv n (1+x) qo qo _ H1.d).mono ?_;rintro e w2 ⟨g,cp,len,rfl,hl,h0,K⟩;have H2:=H1.up K.out;obtain⟨W9,hW9,c0,f0,p0,HF⟩:=HR.out _ _ _ _ _ _ 1 40 ⟨H2.1,H2.2.1.any⟩ h0 hl;clear hd H1 hWa;go_wp2;rw[<-hW9];exact AT (by simp[results,results30,go_sem,p0]) rfl HF.out
end
theorem yN3{x:Bk}(hG:yB1 x.l x.cnt conds)(h:yC5 w x.v x.l)(ho:x.ok)(hcd:conds<=1000):Calls prog 52 #[x.val,xi conds] w (YesP w):=by
 obtain⟨v,cnt,l⟩:=x;obtain⟨p0,p1,p2,p3,-⟩:=id hG;obtain⟨b0,off,cap,rfl,hE,hbl,hcap⟩:∃b0 off cap,v=(xy b0 off l.length cap)/\yBh w b0 off l/\b0<w.heap.size/\(l.length<=cap/\cap<=maxLen):=by
  exact xFn
 simp only at p0 p1 p2 p3 hG;obtain⟨W0,hW0⟩:=qW (xw w #[(xy b0 off l.length cap),xi cnt] 32);have hb0:=qN hW0
 have B0:yA W0 w 32 2 w [(xy b0 off l.length cap),xi cnt]:=by rw[hW0];exact yAa w _ qr rfl
 have HE:Hid (∀wx,Below W0 W0 wx->yBh wx b0 off l/\b0<wx.heap.size):=λwx hx=>⟨(hE.k hb0 hbl).k hx (qw hb0.size),qv hb0.size hx.size⟩;have HG:=hidO (AC hG (AC hcap ho.ins));obtain⟨k0,k1⟩:=B0.c2;have z0:=qo
 have z1:=qo
 have z2:=qo
 have z3:=qo
 clear h ho hE hG hcap;go_enter func52,ntmps52;go_upto_region 1 with fail;rw[<-hW0];clear hW0;go_wp2;go_loopw[29] (λi wr=>∃(k:Nat),k<=l.length/\i=(xi k)/\Below W0 W0 wr) (λi _=>l.length-(intOf i).toNat);case atStart=>exact⟨0,AD _,rfl,Below.refl _ _⟩
 case round=>
  obtain⟨k,hk,rfl,hb⟩:=hrel;clear k0 k1;obtain⟨k0,k1⟩:=(B0.k hb).c2;obtain⟨hI,hI2⟩:=HE.out wr hb;by_cases hlt:k<l.length
  .obtain⟨y,hy⟩:∃y,l[k]?=some y:=qg hlt;have zk:=qo
   have C1:=hidO (yN4 hI hI2 HG.2.1 hy (yB5 HG.1 hy) (HG.2.2 y (AB hy)));clear hy hI;go_wp2_with fail;refine C1.out.mono ?_;rintro r w3 ⟨rfl,hb3⟩;have kb3:=hb.trans (hb3.mono hb.size);clear C1 k0 k1;exact zzT5
  .have zk:=qo
   have C1:=hidO (yM HG.1 hI hI2 HG.2.1);clear hI;go_wp2_with fail;refine C1.out.mono ?_;rintro r w3 ⟨rfl,hb3⟩;have HB:=hidO (hb0.trans ((hb.trans (hb3.mono hb.size)).mono hb0.size));go_wp2_with fail;go_ret;exact⟨rfl,HB.out⟩
theorem yMa{m:Bk}(hG:yHj bs m)(h:yGp w u bs)(hok:∀x∈bs,x.ok)(hm:yC5 w m.v m.l)(hmo:m.ok):(xf 14 #[.agg #[u,m.v,xi m.cnt]] w true:Prop):=by
 have p0:=hG.1
 have HGb:Hid (∀k x,bs[k]?=some x->yB1 x.l x.cnt k/\x.ok):=λk x hx=>⟨hG.2.2 k x hx,hok x (AB hx)⟩
 obtain⟨ua,cap,rfl⟩:∃ua cap,u=.slice ua bs.length cap:=by
  exact xFj
 have hu2:=hm.cells;obtain⟨W0,hW0⟩:=qW (xw w #[.slice ua bs.length cap,m.v,xi m.cnt] 34);have hb0:=qN hW0
 have B0:yA W0 w 34 3 w [.slice ua bs.length cap,m.v,xi m.cnt]:=by rw[hW0];exact yAa w _ qr rfl
 have HI:Hid (∀wx,Below W0 W0 wx->yGp wx (.slice ua bs.length cap) bs):=λwx hx=>(h.k hb0).k hx;have HM:Hid (∀wx,Below W0 W0 wx->(xf 52 #[.agg #[m.v,xi m.cnt],xi bs.length] wx true:Prop)):=λwx hx=>yN3 hG.2.1 ((hm.k hb0 qr).k hx qr) hmo qo
 obtain⟨k0,k1,k2⟩:=B0.c3;have z0:=qo
 clear h hok hm hmo hG;go_enter func14,ntmps14;go_upto_region 1 with fail;rw[<-hW0];clear hW0;go_wp2_with fail;clear k0 k1 k2;go_loopw[12] (λi wr=>∃(k:Nat),k<=bs.length/\i=(xi k)/\Below W0 W0 wr) (λi _=>bs.length-(intOf i).toNat);case atStart=>exact⟨0,AD _,rfl,Below.refl _ _⟩
 case round=>
  obtain⟨k,hk,rfl,hb⟩:=hrel;obtain⟨k0,k1,k2⟩:=(B0.k hb).c3;by_cases hlt:k<bs.length
  .obtain⟨x,hx⟩:∃x,bs[k]?=some x:=qg hlt;have zk:=qo
   obtain⟨b0,off,rfl,c0,c1,hX⟩:∃b0 off,ua=some ⟨b0,off,none⟩/\xk wr b0 (off+k*2) x.v/\xk wr b0 (off+k*2+1) (xi x.cnt)/\yC5 wr x.v x.l:=by
    rcases HI.out wr hb with⟨a,cap',hq,hl⟩|⟨b,off,cap',hq,hE,_⟩
    .subst hl;simp at hlt
    .cases hq
     obtain⟨c0,c1,c2⟩:=hE k x hx;exact⟨b,off,rfl,c0,c1,c2⟩
   obtain⟨hg,ho⟩:=HGb.out k x hx;obtain⟨xv,xcnt,xl⟩:=x;obtain⟨xa,xn,xc,hxv,hxn⟩:=hX.one;simp only at hxv hxn c0 c1 hX;subst hxn;subst hxv;obtain⟨W1,hW1⟩:=qW (xw wr #[.slice xa xl.length xc,xi xcnt] 32);have hb1:=qN hW1
   have B1:yA W1 wr 32 2 wr [.slice xa xl.length xc,xi xcnt]:=by rw[hW1];exact yAa wr _ qr rfl
   obtain⟨n0,n1⟩:=B1.c2;have C1:=hidO (yN3 (w:=W1) hg (hX.k hb1 qr) ho qo);have kb1:=hb.trans (hb1.mono hb.size);clear hX hx hg ho;go_upto_region 6 with fail;rw[<-hW1];clear hW1 c0 c1 k0 k1 k2;go_wp2_with fail;refine C1.out.mono ?_;rintro r w3 ⟨rfl,hb3⟩;have kb3:=kb1.trans (hb3.mono kb1.size);clear C1 n0 n1;exact zzT5
  .have zk:=qo
   have C1:=hidO (HM.out wr hb);go_wp2_with fail;refine C1.out.mono ?_;rintro r w3 ⟨rfl,hb3⟩;have HB:=hidO (hb0.trans ((hb.trans (hb3.mono hb.size)).mono hb0.size));go_wp2_with fail;go_ret;exact⟨rfl,HB.out⟩
abbrev limN:Nd:=⟨11,⟨#[]⟩,false,⟨#[]⟩,0,0,2⟩
abbrev limO:Obj:=.cells #[xi 11,xe,false,xe,xu 0,xu 0,xi 2] 83
def LimI(O cb:Nat)(bv:Vv)(n:Nat)(B:Ww)(nv iv:Vv)(W:Ww):Prop:=∃i g cp len:Nat,iv=(xi i)/\nv=(xg g len cp)/\i<=110/\len<=4+3*i/\0<len/\Hid (DInv O cb bv n B W/\DnR B W g cp len)
theorem xEe(h:DInv O cb bv n w w2):∃B,B=w2.alloc limO/\Hid (DInv O cb bv n B B)/\Hid (∀W,DInv O cb bv n B W->C7 W w2 limN)/\Hid (∀W g cp len,DInv O cb bv n B W/\DnR B W g cp len->DInv O cb bv n w W/\AnyR Nd.small w W g 0 len cp):=by have hb:Below w2 w2 (w2.alloc limO):=qB;have hB:=yAa w2 (O:=w2.heap.size) (t:=83) (sz:=7) #[xi 11,xe,false,xe,xu 0,xu 0,xi 2] qr rfl;have hcb:=h.d.lt.2;have h2:=h.k hb;exact⟨_,rfl,DInv.start h2.d,λW hW=>yA.c7n (f:=limN) (hB.i hW.c (by omega)),λW g cp len hW=>⟨(h2.up hW).1,(h2.up hW).2.1.any⟩⟩
theorem yZh{o:Obj}(h:g<W.heap.size):(W.alloc o).setCell (xd g j) v=(W.setCell ⟨g,j,none⟩ v).alloc o:=by go_simp
theorem yK3{o:Obj}(h:g<W.heap.size)(hc:(xk W g 0 u:Prop)):(xk ((W.setCell (xd g 0) v).alloc o) g 0 v:Prop):=by go_simp
theorem zLo (h:p:=by
 obtain⟨i,g,cp,len,rfl,rfl,hi,hl,h0,HJ⟩:=hrel;obtain⟨b0,b1,b2,b3,b4,b5,b6⟩:=HC.out _ HJ.1;obtain⟨W9,hW9,c0,f0,p0,HF⟩:=HR.out _ _ _ _ _ _ 1 1000 (HU.out _ _ _ _ HJ.out) h0 qo
 go_wp2_with (at_builtin;first
  |(refine apS rfl rfl rfl rfl H4 (by rfl) (by rfl) qo qo ?_;intro g5 c5 w5 H5)
  |(refine apS rfl rfl rfl rfl HJ (by rfl) (by rfl) qo qo ?_;intro g5 c5 w5 H5)
  |(refine apP rfl rfl rfl rfl HJ (by rfl) (by rfl) qo qo ?_;intro g4 c4 w4 H4))
 all_goals first
  |exact⟨⟨i+1,_,_,_,rfl,rfl,qo,qo,qo,H5⟩,by simp[intOf];omega⟩
  |(rw[<-hW9];exact bodyPost_ret (by simp[results,results76,go_sem,p0]) rfl HF.out)):p:=h
theorem zLs (h:p:=by
 obtain⟨W9,hW9,c0,f0,p0,HF⟩:=HR.out _ _ _ _ _ _ 1 1000 (HU.out _ _ _ _ HX.out) qo qo;have hlt:=Nat.lt_of_lt_of_le hlw HX.1.c.size;clear hW9;go_wp2_with fail;have hF:∀W g cp len,DInv O cb bv n B W/\DnR B W g cp len->len<=1000->0<len->FilP O cb bv n 1000 w (.returned (.agg #[xg g len cp])) (xt W w 0 (xg g len cp)):=λW g cp len h1 h2 h3=>by obtain⟨W9,rfl,-,-,-,HF⟩:=HR.out _ _ _ _ _ _ 1 1000 (HU.out _ _ _ _ h1) h3 h2;exact HF.out
 refine bodyPost_ret (by simp[results,results76,go_sem,yK3 hlt c0];rfl) rfl ?_;rw[<-yZh hlt];exact hF _ _ 1 1 ⟨HX.1.k (qB),DnR.lit HX.1.c.size (by have:(⟨#[]⟩:Ba).size=0:=rfl;simp[yM6];omega) (by rfl) qo⟩ qo qo):p:=h
theorem yK1(O cb:Nat)(bv:Vv)(n:Nat) w (h:yAm O cb bv n w):
  Calls prog 76 #[xp cb] w (FilP O cb bv n 1000 w):=by
 obtain⟨Wa,hWa,HA,HR⟩:=yNi h;clear h;go_enter func76,ntmps76;go_wp2_with fail;rw[<-hWa];refine(yAp O cb bv n 6 _ HA.d qo qo).mono ?_;rintro e w1 ⟨x,rfl,hx0,hx1,hd⟩;have H1:=qH1 (HA.call hd);clear hd;go_wp2_with fail;refine(yAp O cb bv n 2 _ H1.d qo qo).mono ?_;rintro e w2 ⟨y,rfl,hy0,hy1,hd⟩;obtain⟨B,hB,HB,HC,HU⟩:=xEe (H1.call hd);have hwB:Hid (w.heap.size<B.heap.size):=by have h1:=H1.c.size;have h2:=hd.2.size;rw[hWa]at h1;simp at h1;show _<_;rw[hB];simp;omega
 clear hd hWa;go_upto_region 5 with fail;have e3:w2.heap.size+1=B.heap.size:=by rw[hB];simp
 rw[<-hB,e3];clear hB e3;have H4:Hid (DInv O cb bv n B (B.alloc limO)/\DnR B (B.alloc limO) B.heap.size 1 1):=⟨HB.k (qB),DnR.lit (AA _) (by rfl) (by rfl) qo⟩;obtain⟨W4,hW4⟩:=qE (B.alloc limO);rw[<-hW4]at H4|-;clear hW4;obtain⟨b0,b1,b2,b3,b4,b5,b6⟩:=HC.out _ H4.1;by_cases x3:x=3
 .subst x3;go_wp2_with fail;go_loopw[6,7] (λnv iv wr=>LimI O cb bv n B nv iv wr) (λ_ iv _=>200-(intOf iv).toNat);case atStart=>exact⟨0,_,4,4,rfl,rfl,qo,qo,qo,H4.1.k (qB),DnR.lit H4.1.c.size (by rfl) (by rfl) qo⟩
  case round=>exact zLo
 by_cases x0:x=0
 .subst x0;go_wp2_with fail;go_loopw[6,8] (λnv iv wr=>LimI O cb bv n B nv iv wr) (λ_ iv _=>200-(intOf iv).toNat);case atStart=>exact⟨0,_,1,1,rfl,rfl,qo,qo,by omega,H4.out⟩
  case round=>exact zLo
 by_cases x1:x=1
 .subst x1;go_wp2_with fail;go_loopw[6,9] (λnv iv wr=>LimI O cb bv n B nv iv wr) (λ_ iv _=>200-(intOf iv).toNat);case atStart=>exact⟨0,_,1,1,rfl,rfl,by omega,by omega,by omega,H4.out⟩
  case round=>exact zLo
 by_cases x2:x=2
 .subst x2;go_wp2_with fail;go_loopw[6,10] (λnv iv wr=>LimI O cb bv n B nv iv wr) (λ_ iv _=>200-(intOf iv).toNat);case atStart=>exact⟨0,_,1,1,rfl,rfl,by omega,by omega,by omega,H4.out⟩
  case round=>exact zLo
 have hlw:w.heap.size<B.heap.size:=hwB;clear hwB;by_cases x4:x=4
 .subst x4;have HX:=H4;exact zLs
 .obtain rfl:x=5:=by omega
  obtain⟨k,rfl⟩:∃k:Nat,y=(k:Int):=⟨y.toNat,by omega⟩;have HM:=yJu 97 (200+k) W4 (by omega);rw[show((200+k:Nat):Int)=200+(k:Int)by omega]at HM;go_wp2_with fail;refine HM.mono ?_;rintro e WQ ⟨s,rfl,hs,hb⟩;have HX:Hid (DInv O cb bv n B WQ/\DnR B WQ B.heap.size 1 1):=⟨H4.1.k hb,H4.2.k hb⟩;clear hb;exact zLs
section
theorem Ent.fine.ok{e:Ent}(h:e.fine):e.ok where
 j:=AF h.j qj
 E:=AF h.E qj
 C:=AF h.C qj
 val:=AF h.val qj
 ts:=by
  have:=h.ts;have h1:IntKind.u64.min=0:=qj
  have h2:IntKind.u64.max=18446744073709551615:=qj
  simp[Lit.wf,h1,h2];omega
 f:=yJ ⟨h.f.1,qw h.f.2⟩
theorem yYh:yZv.fine:=⟨qj,qj,qj,qj,qj,qj⟩
abbrev entO:Obj:=.cells #[xe,xe,xe,xu 0,xi 0,xe] 165
def C6(W:Ww)(g:Nat)(f:Ent):Prop:=xk W g 0 f.j/\xk W g 1 f.E/\xk W g 2 f.C/\xk W g 3 (xu f.ts)/\xk W g 4 (xi f.f)/\xk W g 5 f.val
theorem yA.c6n{f:Ent}(h:yA W b 165 6 g f.cells):C6 W g f:=⟨h.z rfl,h.z rfl,h.z rfl,h.z rfl,h.z rfl,h.z rfl⟩
section
abbrev EE(O cb:Nat)(bv:Vv)(n:Nat):=BX O cb bv n 165 6 EtP
theorem EE.ec(h:EE O cb bv n B eb W):∃f:Ent,EE O cb bv n B eb W/\f.fine/\C6 W eb f/\(∀j,W.frozen? (xd eb j)=false):=by have ⟨vs,hf,hd,f,e,hs⟩:=h;subst e;exact⟨f,h,hs,hf.c6n,hf.frozen⟩
def set6(w:Ww)(g:Nat)(f:Ent):Ww:=(xt (((((w.setCell (xd g 0) f.j).setCell (xd g 1) f.E).setCell (xd g 2) f.C).setCell (xd g 3) (xu f.ts)).setCell (xd g 4) (xi f.f)) g 5 f.val)
theorem EE.fin(h0:yAm O cb bv n w)(hB:B=w.alloc entO)(h:EE O cb bv n B eb W):∃(f:Ent)(WF:Ww),WF=set6 W w f/\Hid (f.fine/\Drew O cb bv n w WF)/\C6 W eb f/\C6 W w yZv/\(∀j,W.frozen? (xd w j)=false)/\C6 WF w f:=by
 obtain⟨_,h1,h2,f,rfl,h3⟩:=h;have hb:=qN hB
 have hA:yA B w 165 6 w yZv.cells:=by rw[hB];exact yAa w _ qr rfl
 have hl:=h0.lt.2;have hr:=hA.i h2.c qo;have hs:=(((((hr.set 0 f.j).set 1 f.E).set 2 f.C).set 3 (xu f.ts)).set 4 (xi f.f)).set 5 f.val;have hp:∀W j u,DInv O cb bv n w W->DInv O cb bv n w (xt W w j u):=λW j u h=>h.grow (yDj W _ j u) (λk q=>by cases q;exact AA _);have hd:DInv O cb bv n w W:=⟨h2.d,(Chg.h hb).trans h2.c,hl,h0.O⟩;have hf:=hp _ 5 f.val (hp _ 4 (xi f.f) (hp _ 3 (xu f.ts) (hp _ 2 f.C (hp _ 1 f.E (hp _ 0 f.j hd)))));exact⟨f,_,rfl,⟨h3,hf.d,hf.c⟩,h1.c6n,hr.c6n,hr.frozen,yA.c6n hs⟩
end
theorem zWf(h:p:=by refine wGen (by exact zN:EE O cb bv n B (w+1) _) ?_;intro W H;obtain⟨f,WF,hWF,HF,⟨k0,k1,k2,k3,k4,k5⟩,⟨l0,l1,l2,l3,l4,l5⟩,lf,p0,p1,p2,p3,p4,p5⟩:=HR.out _ H;simp only[set6]at hWF;go_wp2;rw[<-hWF];exact bodyPost_ret (by simp[results,results137,go_sem,p0,p1,p2,p3,p4,p5]) rfl ⟨f,rfl,HF.out⟩):p:=h
theorem xGt(O cb:Nat)(bv:Vv)(n:Nat) w (h:yAm O cb bv n w):
  Calls prog 137 #[xp cb] w λr w'=>∃e:Ent,r=.returned e.v/\e.fine/\Drew O cb bv n w w':=by
 obtain⟨B,hB⟩:=qE (w.alloc entO);obtain⟨W0,hW0⟩:=qE (B.alloc entO);have hzB:=qS hB
 have hd0:yAm O cb bv n B:=by rw[hB];exact h.k (qB)
 have H0:EE O cb bv n B B W0:=BX.new hd0 ⟨yZv,rfl,yYh⟩ rfl hW0;have HR:Hid (∀W,EE O cb bv n B B W->_):=λW=>EE.fin h hB;have A:Hid (∀W,EE O cb bv n B B W->yAm O cb bv n W/\∀W',Drew O cb bv n W W'->_):=λW h=>⟨h.dinv.d,λW' d=>EE.ec (h.call d).1⟩;obtain⟨f,H,hs,⟨c0,c1,c2,c3,c4,c5⟩,z⟩:=H0.ec;rw[hzB]at H HR A c0 c1 c2 c3 c4 c5 z;clear h hd0 H0 hzB;go_enter func137,ntmps137;go_upto_region 2 with fail;rw[<-hB,<-hW0];clear hB hW0
 go_upto_region 12 with(first
  |(go_at_call 179;refine(xAc _ _ _ _ _ (A.out _ (by exact zN)).1).mono ?_;rintro e W ⟨s,rfl,hs0,hd⟩;obtain⟨f,H,hs,⟨c0,c1,c2,c3,c4,c5⟩,z⟩:=(A.out _ (by exact zN)).2 _ hd;clear hd)
  |(go_at_call 180;refine(xA6 _ _ _ _ _ (A.out _ (by exact zN)).1).mono ?_;rintro e W ⟨s,rfl,hs0,hd⟩;obtain⟨f,H,hs,⟨c0,c1,c2,c3,c4,c5⟩,z⟩:=(A.out _ (by exact zN)).2 _ hd;clear hd)
  |(go_at_call 181;refine(yWt _ _ _ _ _ (A.out _ (by exact zN)).1).mono ?_;rintro e W ⟨s,rfl,hs0,hd⟩;obtain⟨f,H,hs,⟨c0,c1,c2,c3,c4,c5⟩,z⟩:=(A.out _ (by exact zN)).2 _ hd;clear hd)
  |(go_at_call 182;refine(xD _ _ _ _ _ (A.out _ (by exact zN)).1).mono ?_;rintro e W ⟨s,rfl,⟨ht0,ht1⟩,hd⟩;obtain⟨f,H,hs,⟨c0,c1,c2,c3,c4,c5⟩,z⟩:=(A.out _ (by exact zN)).2 _ hd;clear hd)
  |(go_at_call 74;refine(yAp _ _ _ _ _ _ (A.out _ (by exact zN)).1 qo qo).mono ?_;rintro e W ⟨s,rfl,hx0,hx1,hd⟩;obtain⟨f,H,hs,⟨c0,c1,c2,c3,c4,c5⟩,z⟩:=(A.out _ (by exact zN)).2 _ hd;clear hd)
  |(go_at_call 178;refine(yBi _ _ _ _ _ _ _ (A.out _ (by exact zN)).1 (by omega) (by omega) (by omega)).mono ?_;rintro e W ⟨s,rfl,hs0,hd⟩;obtain⟨f,H,hs,⟨c0,c1,c2,c3,c4,c5⟩,z⟩:=(A.out _ (by exact zN)).2 _ hd;clear hd))
 all_goals exact zWf
end
theorem FltP.up{p:Nd->Prop}{e:AR}(hd:DInv O cb bv n w W)(h:FltP p lo m O cb bv n W e w'):FltP p lo m O cb bv n w e w':=by have⟨b,o,c,len,h1,h2,h3,h4⟩:=h;exact⟨b,o,c,len,h1,h2,h3,hd.upA h4⟩
theorem NE.mono(h:NE O cb bv n 100000 B eb W):NE O cb bv n 200000 B eb W:=by have⟨vs,h1,h2,f,h3,h⟩:=h;exact⟨vs,h1,h2,f,h3,h.s,h.t,h.lo,h.up,⟨h.n.1,Int.le_trans h.n.2 qj⟩,h.f⟩
theorem xDe{W9:Ww}(hd:DInv O cb bv n B W)(hO:yC4 W B g c xs)(hs:∀e∈xs,e.ok){i:Nat}{e0 f:Nd}(he:xs[i]?=some e0)(hf:f.ok)(h9:W9=(xt ((((((W.setCell (xd g (i*7)) (xi f.f)).setCell (xd g (i*7+1)) f.s).setCell (xd g (i*7+2)) f.hi).setCell (xd g (i*7+3)) f.t).setCell (xd g (i*7+4)) (xu f.lo)).setCell (xd g (i*7+5)) (xu f.up)) g (i*7+6) (xi f.n))):DInv O cb bv n B W9/\AnyR Nd.ok B W9 g 0 xs.length c:=by
 have hp:=hO.put i e0 f he;rw[<-h9]at hp;have hc:Chg (λk=>k=g) W W9:=h9▸(((((((Chg.D (S:=λk=>k=g) _ _ _ _ rfl).trans (Chg.D (S:=λk=>k=g) _ _ _ _ rfl)).trans (Chg.D (S:=λk=>k=g) _ _ _ _ rfl)).trans (Chg.D (S:=λk=>k=g) _ _ _ _ rfl)).trans (Chg.D (S:=λk=>k=g) _ _ _ _ rfl)).trans (Chg.D (S:=λk=>k=g) _ _ _ _ rfl)).trans (Chg.D (S:=λk=>k=g) _ _ _ _ rfl))
 have hl:=hO.lt;have hlt:=hd.lt;have hbb:=hd.hb;have hcp:=hp.caps;rw[List.length_set]at hcp;refine⟨⟨hd.d.i hc qo (λk q=>qo),⟨hc.os.trans hd.c.os,hc.tape.trans hd.c.tape,hc.output.trans hd.c.output,AF hd.c.size hc.size,λk hk hnk=>(hc.block k (AN hk hd.c.size) qo).trans (hd.c.block k hk hnk)⟩,hlt,hbb⟩,⟨xs.set i f,by simp,λe h=>?_,hp.at⟩,hp.lt,hcp⟩;rcases List.mem_or_eq_of_mem_set h with q|q
 .exact hs e q
 .rw[q];exact hf
theorem xAs(h:yD1 w b 0 xs):yD1 w b 7 (xs.drop 1):=by intro i e he;rw[List.getElem?_drop]at he;have:=h (1+i) e he;rw[show 0+(1+i)*7=7+i*7 by omega]at this;exact this
theorem zSr(h:p:=by go_wp2_with fail;rw[<-hW9];exact bodyPost_ret (by simp[results,results77,go_sem,p0]) rfl HZ):p:=h
theorem zSb(h:p:=by apply wGen (by exact zN:NE O cb bv n 200000 w6 eb _);intro W H;obtain⟨f9,-,hs9,⟨k0,k1,k2,k3,k4,k5,k6⟩,z9⟩:=NE.nc H;have⟨hd9,hO9⟩:=HO W H.dinv;have⟨d0,d1,d2,d3,d4,d5,d6⟩:=hO9.at i _ HF.1;simp only[Nat.zero_add]at d0 d1 d2 d3 d4 d5 d6;have hfz:=λj=>World.ownsRow.frozenAt hO9 j;have⟨WP,hWP⟩:=qE ((xt ((((((W.setCell (xd g5 (i*7)) (xi f9.f)).setCell (xd g5 (i*7+1)) f9.s).setCell (xd g5 (i*7+2)) f9.hi).setCell (xd g5 (i*7+3)) f9.t).setCell (xd g5 (i*7+4)) (xu f9.lo)).setCell (xd g5 (i*7+5)) (xu f9.up)) g5 (i*7+6) (xi f9.n)):Ww);have⟨W9,hW9,r0,rf,p0,HZ⟩:=HR _ _ _ _ _ _ 0 1001 (xDe hd9 hO9 (λe he=>(HF.2.2 e he).ok qj) HF.1 (hs9.ok qj) hWP) qo (by rw[<-HN];omega);rw[<-HN]at hW9 p0 HZ;have HD:=qH1 (And.intro hd9 hO9);clear hd9 hO9;go_upto_region 28 with fail;rw[<-hWP];clear hWP k0 k1 k2 k3 k4 k5 k6 d0 d1 d2 d3 d4 d5 d6 hfz z9;exact zSr):p:=h
theorem yK0(O cb:Nat)(bv:Vv)(n:Nat)(b0 w:Ww)(h:DInv O cb bv n b0 w){N:Nat}(hA:AnyR Nd.small b0 w g o N cp)(hl:N<=1000)(h0:0<N):
  Calls prog 77 #[.pointer (some ⟨cb,0,none⟩),.agg #[(xy g o N cp)]] w (AnyP O cb bv n w):=by
 have⟨X,hX⟩:=qE (w.alloc (.cells #[(xy g o N cp)] 25));have hbX:Below w.heap.size w X:=hX▸qB
 have hXz:X.heap.size=w+1:=by rw[hX];simp
 have hdX:=(DInv.start h.d).k hbX;have⟨B,hB,HB,HR⟩:=yNi hdX.d;rw[hXz]at HR;have HS:Hid (∀W,DInv O cb bv n B W->xk W w 0 (xy g o N cp)/\Src Nd.small W g o N):=λW hW=>by
  have hbB:=qN hB
  have hbx:=(yAa w (O:=w.heap.size) (t:=25) (sz:=1) #[(xy g o N cp)] (AA _) rfl);rw[<-hX]at hbx;have hc:=h.d.lt.2;have h1:=hA.2.1;have h2:=h.lt;have h3:=hbX.size;have h4:=hbB.size;exact⟨((hbx.k hbB).i hW.c qo).z rfl,((hA.1.i h1.2 (Chg.h hbX) (S:=λ_=>False) (λq=>q)).i qo (Chg.h hbB) (S:=λ_=>False) (λq=>q)).i qo hW.c qo⟩
 have hNc:N<=cp/\cp<=9223372036854775807:=by have:=hA.2.2;unfold maxLen at this;omega
 have hNb:((N:Int)==0)=false:=by rw[iC];omega
 suffices hh:Calls prog 77 #[.pointer (some ⟨cb,0,none⟩),.agg #[(xy g o N cp)]] w (AnyP O cb bv n X)from hh.mono λe w' q=>FltP.up hdX q;have⟨WE,hWE⟩:=qE (B.alloc (.cells #[] 83));have HE:Hid (DInv O cb bv n B WE/\DnR B WE B 0 0):=hWE▸⟨HB.k (qB),DnR.lit qr (by rfl) (by rfl) qo⟩
 have HW:=qH1 hWE;have c0:=(HS _ HB).1;have c1:=(HS _ HE.1).1;rw[hWE]at c1;clear h hA hdX hXz hbX hWE;go_enter func77,ntmps77;go_upto_region 1 with fail;rw[<-hX,<-hB];clear hX hB;go_wp2_with (at_builtin;rw[<-HW];refine apN rfl rfl rfl rfl HE (HS _ HE.1).2 qo ?_);intro g5 c5 w5 H5 _;(try simp only[AO]at H5);(try simp only[AO]);clear c0 c1;go_wp2_with fail;apply (yAp O cb bv n (N:Int) _ H5.1.d qo qo).mono;rintro e w6 ⟨ii,rfl,hi0,hi1,hd⟩;obtain⟨i,rfl⟩:∃k:Nat,ii=(k:Int):=⟨ii.toNat,qo⟩;have hiN:i<N:=qo
 have⟨xs,hN,hs,hO⟩:=H5.2.drew H5.1.lt hd;have H6:=H5.1.call hd;obtain⟨f,hf⟩:∃f,xs[i]?=some f:=qg qo;obtain⟨f0,hf0⟩:∃f,xs[0]?=some f:=qg qo;have HN:=qH1 hN;have HF:=qH3 hf (⟨hs f (AB hf),hs f0 (AB hf0),hf0⟩:(f.small/\f0.small/\xs[0]?=some f0)) hs;have HO:Hid (∀W,DInv O cb bv n w6 W->DInv O cb bv n B W/\yC4 W B g5 c5 xs):=λW hW=>by have:=hO.lt;have:=H6.lt;exact⟨⟨hW.d,H6.c.trans hW.c,H6.lt,H6.hb⟩,hO.i hW.c qo⟩
 have hNc5:N<=c5/\c5<=9223372036854775807:=by have:=hO.caps;unfold maxLen at this;omega
 have hsl:=hO.lt.2;have⟨d0,d1,d2,d3,d4,d5,d6⟩:=hO.at i f hf;simp only[AO]at d0 d1 d2 d3 d4 d5 d6;have⟨W7,hW7⟩:=qW (xw w6 #[.int .i64 f.f,.string f.s,.bool f.hi,.string f.t,.int .u64 f.lo,.int .u64 f.up,.int .i64 f.n] 83);have H7:NE O cb bv n 100000 w6 w6.heap.size W7:=BX.new H6.d ⟨f,rfl,hs f (AB hf)⟩ rfl hW7;clear hf hf0 hs hO hN hd H6 H5;have⟨eb,heb⟩:=qE w6.heap.size;rw[<-heb]at H7;go_upto_region 6 with fail;rw[<-hW7,<-heb];clear hW7 heb d0 d1 d2 d3 d4 d5 d6;have A:Hid (∀W,NE O cb bv n 200000 w6 eb W->yAm O cb bv n W/\(∀W',Drew O cb bv n W W'->NC O cb bv n 200000 w6 eb W')/\∀W',Below W.heap.size W W'->NC O cb bv n 200000 w6 eb W'):=λW h=>⟨h.dinv.d,λW' hd=>NE.nc (h.call hd).1,λW' hb=>NE.nc (h.k hb)⟩;go_wp2_with fail;apply (yAp O cb bv n 10 _ H7.dinv.d qo (by omega)).mono;rintro e w8 ⟨x,rfl,hx0,hx1,hd⟩;have⟨f8,H,hs,⟨c0,c1,c2,c3,c4,c5',c6⟩,z⟩:=NE.nc (H7.call hd).1;have hd8:=H.dinv;have H:=NE.mono H;clear hd H7;have hsn:=hs.n;have hss:=hs.s;have hsl':=hs.lo;have hx:x=0\/x=1\/x=2\/x=3\/x=4\/x=5\/x=8\/x=9\/x=6\/x=7:=by omega
 rcases hx with rfl|rfl|rfl|rfl|rfl|rfl|rfl|rfl|rfl|rfl
 iterate 8
  .go_upto_region 27 with(first
    |(go_at_call 74;apply (yAp _ _ _ _ _ _ (A.out _ (by exact zN)).1 (by omega) (by omega)).mono;rintro e W ⟨x,rfl,hx0,hx1,hd⟩;have⟨f,H,hs,⟨c0,c1,c2,c3,c4,c5',c6⟩,z⟩:=(A _ (by exact zN)).2.1 _ hd;clear hd)
    |(go_at_call 133;apply (yJu 97 201 _ (by omega)).mono;rintro e W ⟨s,rfl,hs0,hd⟩;have⟨f,H,hs,⟨c0,c1,c2,c3,c4,c5',c6⟩,z⟩:=(A _ (by exact zN)).2.2 _ hd;clear hd))
   exact zSb
 .have⟨hd9,hO9⟩:=HO _ hd8;have HQ:Hid (Src Nd.ok w8 g5 7 (N-1)/\DInv O cb bv n B w8/\(B<=g5/\g5<w8)):=⟨⟨xs.drop 1,by rw[List.length_drop,<-HN],λe he=>(HF.2.2 e (List.mem_of_mem_drop he)).ok qj,xAs hO9.at⟩,hd9,hO9.lt⟩;clear hd9 hO9;go_upto_region 20 with fail;by_cases hc1:c5=1
  .obtain rfl:N=1:=by omega
   subst hc1;have⟨W9,hW9,r0,rf,p0,HZ⟩:=HR Nd.ok w8 g5 0 0 0 0 1001 ⟨HQ.2.1,⟨[],rfl,λe he=>(by cases he),λi e he=>by simp at he⟩,HQ.2.2,by omega,by omega⟩ (by omega) (by omega);exact zSr
  .have zc:¬((c5:Int)-1=0):=by omega
   have⟨W9,hW9,r0,rf,p0,HZ⟩:=HR _ _ _ _ _ (c5-1) 0 1001 ⟨HQ.2.1,HQ.1,HQ.2.2,by omega,by unfold maxLen;omega⟩ (by omega) (by omega);exact zSr
 .have⟨hd9,hO9⟩:=HO _ hd8;have⟨d0,d1,d2,d3,d4,d5,d6⟩:=hO9.at 0 _ HF.2.1.2.2;simp only[AO,Nat.zero_mul]at d0 d1 d2 d3 d4 d5 d6;have HQ:Hid (DInv O cb bv n B w8/\DnR B w8 g5 c5 N):=⟨hd9,xs,HN,HF.2.2,hO9⟩;clear hd9 hO9;go_wp2_with (at_builtin;refine apS rfl rfl rfl rfl HQ HF.2.1.2.1.nds (by rfl) (by omega) (by omega) ?_);intro g9 c9 w9 H9;have⟨W9,hW9,r0,rf,p0,HZ⟩:=HR _ _ _ _ _ _ 0 1001 ⟨H9.1,H9.2.any.ok⟩ (by omega) (by omega);exact zSr
section
section
variable {p:Nd->Prop}
theorem AnyR.k(h:AnyR p w W b o len c)(hb:Below W W W'):AnyR p w W' b o len c:=h.i (S:=λ_=>False) (Chg.h hb) (λq=>q)
theorem AnyR.drew(h:AnyR p w W b o len c)(hl:cb<w.heap.size)(hd:Drew O cb bv n W W'):AnyR p w W' b o len c:=h.i hd.2 (qw h.2.1)
theorem AnyR.put(hd:DInv O cb bv n w W)(h:AnyR p w W b o len c)(hg:w.heap.size<=g)(hn:¬b=g)(j:Nat)(u:Vv):DInv O cb bv n w (xt W g j u)/\AnyR p w (xt W g j u) b o len c:=
 ⟨hd.grow (yDj W g j u) (λk q=>by cases q;exact hg),h.i (Chg.D (S:=λk=>k=g) _ _ _ _ rfl) hn⟩
end
theorem zAr(h:p:=by go_wp2_with fail;rw[<-hW9];exact bodyPost_ret (by simp[results,results32,go_sem,p0]) rfl HZ.out):p:=h
theorem yPp(O cb:Nat)(bv:Vv)(n:Nat) w (h:yAm O cb bv n w):
  Calls prog 32 #[xp cb] w (AnyP O cb bv n w):=by
 obtain⟨Wa,hWa,HA,HR⟩:=yNi h;clear h;go_enter func32,ntmps32;go_wp2_with fail;rw[<-hWa];refine(yBb O cb bv n 20 _ HA.d qo qo).mono ?_;rintro e w1 ⟨v,rfl,hv,hd⟩;have H1:=qH1 (HA.call hd);clear hd hWa;rcases hv with rfl|rfl
 .go_wp2_with fail;refine(yK1 O cb bv n w1 H1.d).mono ?_;rintro e w2 ⟨b,o,c,len,rfl,h0,hl,K⟩;have H2:=H1.upA K.out;obtain⟨W9,hW9,r0,rf,p0,HZ⟩:=HR.out _ _ _ _ _ _ 0 1001 ⟨H2.1,H2.2.ok⟩ qo qo;exact zAr
 .go_wp2_with fail;refine(yFj O cb bv n w1 H1.d).mono ?_;rintro e w2 ⟨b,o,c,len,rfl,h0,hl,K⟩;have H2:=H1.upA K.out;obtain⟨W3,hW3⟩:=qE (xw w2 #[(xy b o len c)] 25:Ww);have k3:=qN hW3
  have H3:=qH2 (H2.1.k k3) (H2.2.k k3);obtain⟨tb,htb⟩:=qE w2;have HB:=qH2 (by rw[hW3,htb];exact yAa w2 _ H2.1.c.size rfl:yA W3 Wa 25 1 tb [(xy b o len c)]) (by rw[htb];exact H2.2.2.1.2:b<tb);clear K k3;go_upto_region 4 with fail;rw[<-hW3,<-htb];clear hW3 htb H2;go_wp2_with fail;refine(yBb O cb bv n 8 _ H3.1.d qo qo).mono ?_;rintro e w4 ⟨v,rfl,hv,hd⟩;have hcl:=H3.1.lt;have H4:=qH2 (H3.1.call hd) (H3.2.drew hcl hd);have HT:=qH1 (HB.1.i hd.2 (by have:=HB.1.lt;omega));clear hd;rcases hv with rfl|rfl
  .have t4:=HT.z (j:=0) rfl;go_wp2_with fail;refine(yK0 O cb bv n Wa w4 H4.1 H4.2 qo qo).mono ?_;rintro e w5 ⟨b5,o5,c5,len5,rfl,-,hl5,K⟩;have H5:=H4.1.upA K.out;have h5:=K.out.2.2.1.1;have HX:=HT.i K.out.1.c (by have:=HT.lt;omega);have ht:=HX.lt.1;have htl:=HT.lt.2;have t5:=HX.z (j:=0) rfl;have tf:=HX.frozen 0;obtain⟨W9,hW9,r0,rf,p0,HZ⟩:=HR.out _ _ _ _ _ _ 0 1001 (H5.2.put H5.1 ht qo 0 (xy b5 o5 len5 c5)) qo hl5;clear K h5 HX ht htl t4 hcl;exact zAr
  .have t4:=HT.z (j:=0) rfl;obtain⟨W9,hW9,r0,rf,p0,HZ⟩:=HR.out _ _ _ _ _ _ 0 1001 ⟨H4.1,H4.2.ok⟩ qo qo;exact zAr
end
end Go.Proofs.YtnnagkfoiganfaaGreatDoor
