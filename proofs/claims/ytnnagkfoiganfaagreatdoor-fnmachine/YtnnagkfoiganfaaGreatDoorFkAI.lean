import Derived.Test.YtnnagkfoiganfaaGreatDoorFkAE
import Derived.Test.YtnnagkfoiganfaaGreatDoorFkAG
import Derived.Test.YtnnagkfoiganfaaGreatDoorFkAF
namespace Go.Proofs.YtnnagkfoiganfaaGreatDoor
open Go.ChangeShapes Go.WideShapes Go.ChangeAt Go.RowKit Go.Deep XD XI XU XG XP XK XW XT XF XE XH _root_.List _root_.Nat XY Go.Proofs.Tryz
open _root_.And renaming intro->AA
open _root_.Go.ByteArray renaming toList_eq->AH
open _root_.Go.IntKind renaming wrap_i64->AE
open _root_.Go.Obj renaming cells->AK
open _root_.List renaming mem_of_getElem?->AB,replicate->AG,take_of_length_le->AI,getElem?_eq_getElem->AJ,getElem?_append_right->AL,getElem?_map->AM,length_append->AO,take_add_one->AP,getElem?_append_left->AQ,length_eq_zero_iff->AR,getElem?_replicate->AS,length_singleton->AU,append_assoc->AV
open _root_.Nat renaming le_refl->AC,zero_le->AF,add_zero->AN,sub_zero->AT
open _root_.True renaming intro->AD
set_option linter.unusedVariables false
set_option linter.unusedSimpArgs false
set_option maxRecDepth 100000
set_option maxHeartbeats 64000000
variable {g i j' g' cp' conds b0 off:Nat} {A:List U8->Pat->Prop} {wr:Ww} {r:Ending} {F fa fb f f':Nat->Nat->Bool} {Q:List U8->Prop} {ρ' γ':Nat->Nat} {ts:List Pat} {t:Pat} {τ:U8->Bool} {jj a:Int} {bs:List Bk} {u v:Vv} {y:Ix} {es:List Ent}
def yH0(w:Ww)(O g cp:Nat)(us:List Vv):Prop:=w.ownsRow O 9 1 (xg g us.length cp) us.length us
variable {w:Ww} {O cp:Nat} {us:List Vv}
theorem yH0.lt(h:yH0 w O g cp us):O<=g/\g<w.heap.size:=World.ownsRow.lt h g rfl
variable {w':Ww}
theorem yH0.k(h:yH0 w O g cp us)(hb:Below w w w'):yH0 w' O g cp us:=yAh h (Chg.h hb) (S:=λ_=>False) (λk q z=>z)
theorem yW0(w:Ww)(hb:O<=w.heap.size):yH0 (xw w #[] 9) O w 0 []:=
 World.ownsRow_made w #[] 0 hb (AF _) (by simp)
theorem Tryz.infoStr:(prog.info? 9).map (λi=>(i.zero,i.size,i.bytes))=some (some (.string ⟨#[]⟩),1,16):=qk
theorem xL9:ApT 275 9 1 (λl=>l) yH0 AtV:=apTV ⟨underlying275,_,_,Tryz.infoStr,rfl,qj,qj⟩ Iff.rfl
theorem yYu{k:Nat}{xs:List U8}(h:TokN A k xs):k<=xs.length:=by
 induction h with
 |nil=>exact AC _
 |bar _ ih=>simpa using ih
 |op _ _ ih|atom _ _ ih=>simp;omega
variable {j:Nat}
theorem yB7(p:Ba){f:Nat}(hj:j<=p.size):sb (p.extract f j)=cut (sb p) f j:=by unfold sb cut;simp[ByteArray.data_extract,extract_eq_take_drop]
structure PaS(n:Nat)(p:List U8)(os:List (List Pat))(j f i:Nat)(r:List U8):Prop where
 ri:r=cut p j (j+r.length)
 rl:j+r.length<=p.length
 fj:f<=j
 tok:TokN (yAu n) 0 r
 cur:∃ts,os[i]?=some ts/\SeqG (yAu n) ts (cut p f (j+r.length))
 rest:(j+r.length=p.length/\i+1=os.length)\/(p[j+r.length]?=some 124/\AltG (yAu n) (os.drop (i+1)) (cut p (j+r.length+1) p.length))
variable {n:Nat} {os:List (List Pat)}
theorem yVe{p:List U8}(hj:j<=p.length)(h:AltG (yAu n) (os.drop i) (cut p j p.length)):∃r,PaS n p os j j i r:=by
 rcases hd:os.drop i with _|⟨ts,_|⟨o,a0⟩⟩
 .rw[hd]at h;exact h.elim
 .rw[hd]at h;have hl:=yA5 (p:=p) (i:=j) (k:=p.length) qr;have a1:i+1=os.length:=by have:=congrArg List.length hd;simp at this;omega
  have h0:os[i]?=some ts:=by have:=congrArg (λl=>l[0]?) hd;simpa using this
  refine⟨cut p j p.length,?_,by omega,AC _,SeqG.tokn h,⟨ts,h0,?_⟩,.inl ⟨by omega,a1⟩⟩
  .rw[hl,show j+(p.length-j)=p.length by omega]
  .rw[hl,show j+(p.length-j)=p.length by omega];exact h
 .rw[hd]at h;have⟨ys,zs,h1,h2,h3⟩:=h;have⟨k1,k2,k3⟩:=yRn h1 qr hj;have⟨g1,g2,g3⟩:=yIe k2 qr;have h0:os[i]?=some ts:=by have:=congrArg (λl=>l[0]?) hd;simpa using this
  have a2:os.drop (i+1)=o::a0:=by have:=congrArg List.tail hd;simpa using this
  exact⟨ys,k1.symm,k3,AC _,SeqG.tokn h2,⟨ts,h0,by rw[k1];exact h2⟩,.inr ⟨g1,by rw[a2,g2];exact h3⟩⟩
theorem PaS.next{p:List U8}{f:Nat}{x r:List U8}(h:PaS n p os j f i (x++r))(ht:TokN (yAu n) 0 r):PaS n p os (j+x.length) f i r:=by
 have hl:j+x.length+r.length=j+(x++r).length:=by simp;omega
 have a1:=h.ri;have a0:=h.rl;rw[<-hl]at a1 a0;have⟨_,k2,_⟩:=yRn a1.symm a0 qo;refine⟨?_,a0,by have:=h.fj;omega,ht,?_,?_⟩
 .exact k2.symm
 .rw[hl];exact h.cur
 .rw[hl];exact h.rest
def yR3(n:Nat)(os:List (List Pat))(us:List Vv)(m:Nat):Prop:=∀(t:Nat)(u:Vv),us[t]?=some u->∃s ts,u=.string s/\os[t]?=some ts/\SeqG (yAu n) ts (sb s)/\s.size<=m
variable {m:Nat} {s:Ba}
theorem yR3.snoc(h:yR3 n os us m){ts:List Pat}(ho:os[us.length]?=some ts)(hs:SeqG (yAu n) ts (sb s))(hm:s.size<=m):yR3 n os (us++ [.string s]) m:=by
 intro t u hu;rcases Nat.lt_or_ge t us.length with q|q
 .rw[AQ q]at hu;exact h t u hu
 .have ht:t=us.length:=by have:=qf hu;simp at this;omega
  subst ht;simp at hu;subst hu;exact⟨s,ts,rfl,ho,hs,hm⟩
structure PaK(p:Ba)(n:Nat)(os:List (List Pat))(w:Ww)(j f g cp:Nat)(us:List Vv)(wr:Ww):Prop where
 st:∃r,PaS n (sb p) os j f us.length r
 strs:yR3 n os us p.size
 Z:yH0 wr w g cp us
 k:Below w w wr
variable {p:Ba}
theorem PaK.K{f:Nat}(h:PaK p n os w j f g cp us wr)(hb:Below wr wr w')(hs:∃r,PaS n (sb p) os j' f us.length r):PaK p n os w j' f g cp us w':=
 ⟨hs,h.strs,h.Z.k hb,h.k.trans (hb.mono h.k.size)⟩
def PrtP(n:Nat)(os:List (List Pat))(m:Nat)(w:Ww)(e:Ending)(w':Ww):Prop:=∃g cp us,e=.returned (xg g os.length cp)/\us.length=os.length/\Hid (yH0 w' w g cp us/\yR3 n os us m)/\Below w w w'
theorem yQw(hp:p.size<=200)(h:AltG (yAu n) os (sb p)) w:Calls prog 206 #[p] w (PrtP n os p.size w):=by
 have a5:=(yAd p).symm;have au:cut (sb p) 0 p.size=sb p:=by show(List.drop 0 (sb p)).take (p.size-0)=sb p;rw[drop_zero,AT,AI (Nat.le_of_eq a5.symm)]
 have aF:os.length<=201:=by have⟨k,h1,h2⟩:=h.tokn;have:=yYu h2;rw[<-a5]at this;omega
 have a3:=qH1 a5;have⟨W0,ai⟩:=qE (xw w #[] 9:Ww);have ax:Hid (PaK p n os w 0 0 w 0 [] W0):=by rw[ai];refine⟨yVe (AF _) ?_,λt u hu=>by simp at hu,yW0 w qr,qB⟩;rw[<-a5,au];exact h
 clear h a5 au;go_enter func206,ntmps206;go_upto_region 2 with fail;rw[<-ai];go_wp2;go_loopw[3,4,5] (λo fv jv wr=>∃(j f g cp m:Nat)(us:List Vv),jv=(xi j)/\fv=(xi f)/\f<=j/\j<=p.size/\m<=201/\o=(xg g m cp)/\Hid (PaK p n os w j f g cp us wr/\m=us.length)) (λ_ _ jv _=>p.size-(intOf jv).toNat);case atStart=>exact⟨0,0,_,0,0,[],rfl,rfl,AC _,AF _,AF _,rfl,ax,rfl⟩
 case round=>
  obtain⟨j,f,g,cp,m,us,rfl,rfl,aJ,af,ao,rfl,HJ⟩:=hrel;have aI:=HJ.1.Z.lt;have am:=HJ.1.k.size;have z1:(f:Int)<=(j:Int):=qo
  have z2:(j:Int)<=(p.size:Int):=qo
  have⟨r,hS⟩:=HJ.1.st;have HP:=qH1 hS;by_cases hlt:j<p.size
  .have zj:(j:Int)<(p.size:Int):=qo
   rcases yYt HP.tok with⟨h0,_⟩|⟨m',zs,h0,hm,hT⟩|⟨c,zs,h0,ae,hT⟩|⟨ys,zs,t,h0,hA,hT⟩
   .have ad:(sb p)[j]?=some 124/\AltG (yAu n) (os.drop (us.length+1)) (cut (sb p) (j+1) (sb p).length):=by
     rcases HP.rest with⟨q,_⟩|q
     .rw[h0]at q;simp at q;have:=a3.out;omega
     .rw[h0]at q;simpa using q
    have⟨ts,a2,a1⟩:=HP.cur;rw[h0]at a1;simp only[length_nil,AN]at a1;have⟨_,gj⟩:=yA9 ad.1;have HT:Hid (AltG (yAu n) (os.drop (us.length+1)) (cut (sb p) (j+1) (sb p).length)/\os[us.length]?=some ts/\SeqG (yAu n) ts (sb (p.extract f j))/\us.length+1<=os.length):=by refine⟨ad.2,a2,by rw[yB7 p af];exact a1,qf a2⟩
    have HM:=qH1 HJ.2;go_wp2_with (at_builtin;refine wpA rfl (apK xL9 rfl w us [p.extract f j] rfl rfl HM rfl ?hO (atV1 ?hc ?hy) (lN ?hl) ?hb ?_));case hO=>exact HJ.1.Z.k (qB)
    case hy=>rfl
    case hl=>rw[<-HM];omega
    case hb=>first|omega|(simp;omega)
    intro g' a9 w' a8 a7 ah;have aD:Hid (PaK p n os w (j+1) (j+1) g' a9 (us++ [.string (p.extract f j)]) w'/\m+1=(us++ [Value.string (p.extract f j)]).length):=by
     refine⟨⟨?_,HJ.1.strs.snoc HT.2.1 HT.2.2.1 (by rw[<-yAd,yB7 p af,yA5 (by rw[yAd];exact af)];omega),a8,?_⟩,by rw[HM];simp⟩
     .rw[AO,AU];exact yVe (by have:=a3.out;omega) HT.1
     .exact(HJ.1.k.trans ((Below.refl _ _).alloc am _)).grown a7 (by simp;omega) (λj hj=>by cases hj;omega)
    have aB:m+1<=201:=by have h1:=HT.2.2.2;have h2:=HM.out;omega
    clear a8 a7 ah;refine zY ?_;exact⟨j+1,j+1,g',a9,m+1,us++ [.string (p.extract f j)],by go_num,by go_num,AC _,qo,aB,by first|rfl|go_num,aD⟩
   .omega
   .have a0:=HP.out;rw[h0]at a0;have av:cut (sb p) j (j+(c::zs).length)=c::zs:=a0.ri.symm;have⟨a6,_,_⟩:=yIe av (by have:=a0.rl;exact this);have⟨_,gj⟩:=yA9 a6;have HT:Hid (PaS n (sb p) os (j+1) f us.length zs):=PaS.next (x:= [c]) a0 hT;have ay:((c.toNat:Int)==124)=false:=iC.2 (yCp (c:=124) (λq=>by subst q;exact absurd ae qj));have aj:Hid (Calls prog 142 #[.int .u8 (c.toNat:Int)] wr λe w'=>e=.returned true/\w'=wr):=by have:=yCt c wr;rw[decide_eq_true ae]at this;exact this
    clear h0 hT a6 ae a0 av;go_wp2_with fail;apply aj.mono;rintro e' w5 ⟨rfl,a4⟩;rw[a4];clear a4;refine zY ?_;exact⟨j+1,f,g,cp,m,us,by go_num,rfl,qo,qo,ao,rfl,HJ.1.K (Below.refl _ _) ⟨_,HT⟩,HJ.2⟩
   .have a0:=HP.out;rw[h0]at a0;have⟨c,yt,aa,az,al,ak⟩:=hA.first;have aA:0<ys.length:=by rw[aa];simp
    have ac:=a0.rl;have aq:j+ys.length<=p.size:=by rw[AO]at ac;have:=a3.out;omega
    have⟨ab,_,_⟩:=yRn a0.ri.symm ac qo;have⟨a6,_,_⟩:=yIe (c:=c) (zs:=yt) (ab▸aa) (by rw[<-a3];exact aq);have⟨_,gj⟩:=yA9 a6;have ay:((c.toNat:Int)==124)=false:=iC.2 (yCp (c:=124) al);have aj:Hid (Calls prog 142 #[.int .u8 (c.toNat:Int)] wr λe w'=>e=.returned false/\w'=wr):=by have:=yCt c wr;rw[decide_eq_false ak]at this;exact this
    have⟨i2,ag⟩:=qE (j+ys.length);have HT:Hid (PaS n (sb p) os i2 f us.length zs):=ag▸(PaS.next a0 hT)
    have aE:Hid ((xf 207 #[p,xi j] wr (xi i2):Prop)):=by rw[ag];exact yTv hp n j (j+ys.length) t wr (by rw[ab];exact hA) qo
    have aH:j<i2:=qo
    have aG:i2<=p.size:=qo
    clear h0 hT hA ab aa a6 az al ak ag aA aq a0 ac;go_wp2_with fail;apply aj.mono;rintro e' w5 ⟨rfl,a4⟩;rw[a4];clear a4;go_wp2_with fail;apply aE.mono;rintro e' w6 ⟨rfl,aw⟩;have aC:=qH2 (HJ.1.K aw ⟨_,HT⟩) HJ.2;clear aw;refine zY ?_;exact⟨i2,f,g,cp,m,us,rfl,rfl,qo,qo,ao,rfl,aC⟩
  .have zj:¬(j:Int)<(p.size:Int):=qo
   obtain rfl:j=p.size:=qo
   have an:r= []:=by have h1:=HP.rl;have h2:=a3.out;exact AR.1 qo
   have ar:us.length+1=os.length:=by
    rcases HP.rest with⟨_,q⟩|⟨q,_⟩
    .exact q
    .have:=yAt q;have:=a3.out;omega
   have⟨ts,a2,a1⟩:=HP.cur;rw[an]at a1;simp only[length_nil,AN]at a1;have HT:=qH3 a2 (by rw[yB7 p qr];exact a1:SeqG (yAu n) ts (sb (p.extract f p.size))) ar;have HM:=qH1 HJ.2;clear an ar a2 a1;go_wp2_with (at_builtin;refine wpA rfl (apK xL9 rfl w us [p.extract f p.size] rfl rfl HM rfl ?hO2 (atV1 ?hc2 ?hy2) (lN ?hl2) ?hb2 ?_));case hO2=>exact HJ.1.Z.k (qB)
   case hy2=>rfl
   case hl2=>rw[<-HM];omega
   case hb2=>first|omega|(simp;omega)
   intro g' a9 w' a8 a7 ah;have HR:Hid (PrtP n os p.size w (.returned (xg g' (m+1) a9)) w'):=by refine⟨g',a9,us++ [.string (p.extract f p.size)],?_,by rw[AO,AU];exact HT.2.2,⟨a8,HJ.1.strs.snoc HT.1 HT.2.1 (by rw[<-yAd,yB7 p qr,yA5 (by rw[yAd];exact AC _)];omega)⟩,(HJ.1.k.trans ((Below.refl _ _).alloc am _)).grown a7 (by simp;omega) (λj hj=>by cases hj;omega)⟩;rw[HM,HT.2.2]
   clear a8 a7 ah;go_wp2_with fail;go_ret;exact HR
def MxG(s:Ba)(P:List U8->Prop)(w:Ww)(r:Ending)(w':Ww):Prop:=∃g cp ρ γ f,r=.returned (slV g (s.size+1) cp)/\s.size+1<=cp/\Hid (MatR w' g (s.size+1) ρ γ f/\RelW (sb s) f P)/\Below w w w'
variable {P:List U8->Prop}
theorem MaG.says(h:MaG (s.size+1) F w r w')(hF:RelW (sb s) F P):MxG s P w r w':=by have⟨g,cp,ρ,γ,f,h1,h2,h3,h4⟩:=h;exact⟨g,cp,ρ,γ,f,h1,h2,⟨h3.out.1,hF.iff (λi j hij hj=>h3.out.2 i j hij (by rw[yAd]at hj;exact hj)) (λ_=>Iff.rfl)⟩,h4⟩
def AltW(s:Ba)(m:Nat):Prop:=∀(n:Nat)(os:List (List Pat))(p:Ba)(w:Ww),p.size<=m->p.size<=200->AltG (yAu n) os (sb p)->Calls prog 205 #[p,s] w (MxG s (LgA os) w)
def SeqW(s:Ba)(m:Nat):Prop:=∀(n:Nat)(ts:List Pat)(p:Ba)(w:Ww),p.size<=m->p.size<=200->SeqG (yAu n) ts (sb p)->Calls prog 225 #[p,s] w (MxG s (LgS ts) w)
def AtmW(s:Ba)(m:Nat):Prop:=∀(n:Nat)(t:Pat)(p:Ba)(w:Ww),p.size<=m->p.size<=200->yAu n (sb p) t->Calls prog 240 #[p,s] w (MxG s (Lg t) w)
theorem xE4(os:List (List Pat))(ts:List Pat)(x:List U8):LgA (os++ [ts]) x↔LgA os x\/LgS ts x:=by
 rw[yUg,yUg];constructor
 .rintro⟨t,ht,h⟩;rcases List.mem_append.1 ht with q|q
  .exact .inl ⟨t,q,h⟩
  .simp at q;subst q;exact .inr h
 .rintro(⟨t,ht,h⟩|h)
  .exact⟨t,mem_append_left _ ht,h⟩
  .exact⟨ts,by simp,h⟩
theorem yV8(hs:s.size<=200)(H:SeqW s m):AltW s m:=by
 intro n os p w a8 hp hG;have HH:=qH3 H a8 hp;have ai:Hid (∀wx,Calls prog 206 #[p] wx (PrtP n os p.size wx)):=λwx=>yQw hp hG wx;have ae:os.length<=201:=by have⟨k,h1,h2⟩:=hG.tokn;have:=yYu h2;rw[yAd]at this;omega
 have aj:=qH1 (yC4 s.size qo w);go_enter func205,ntmps205;go_wp2_with fail;apply aj.mono;rintro r w1 ⟨g,cp,ρ,γ,rfl,HM,ab⟩;have ag:=HM.out.out.caps.1;go_wp2_with fail;refine(ai.out w1).mono ?_;rintro r w2 ⟨gq,cq,us,rfl,a5,HU,hb2⟩;have af:=HU.1.lt;have k2:=ab.trans (hb2.mono ab.size);obtain⟨N,hN⟩:=qE os.length;rw[<-hN]at ae|-;have HN:=qH2 hN (by rw[a5,hN]:us.length=N);have ak:=qH1 (HM.read.k hb2 qr);clear hN a5;go_wp2;go_loopw[5,7] (λov kv wr=>∃(k go co:Nat)(ρo γo:Nat->Nat)(f:Nat->Nat->Bool),k<=N/\kv=(xi k)/\ov=slV go (s.size+1) co/\s.size+1<=co/\Hid (MatR wr go (s.size+1) ρo γo f/\RelW (sb s) f (LgA (os.take k))/\Below w2 w2 wr)) (λ_ kv _=>N-(intOf kv).toNat);case atStart=>exact⟨0,g,cp,ρ,γ,_,AF _,rfl,rfl,ag,ak.out,λi j _ _=>by simp[LgA],Below.refl _ _⟩
 case round=>
  obtain⟨k,go,co,ρo,γo,f,hk,rfl,rfl,a9,HO⟩:=hrel;by_cases hlt:k<N
  .have zk:(k:Int)<(N:Int):=qo
   obtain⟨u,hu⟩:∃u,us[k]?=some u:=qg (by rw[HN.2];exact hlt);obtain⟨x,ts,rfl,a6,a7,ac⟩:=HU.2 k u hu;have c0:(xk wr gq k x:Prop):=by rw[HO.2.2.cell (p:=(xd gq k)) af.2,World.ownsRow.cellAt HU.1 k (by rw[HN.2];omega),hu]
   have HC:=qH1 (HH.1 n ts x wr (qw HH.2.1) (qw HH.2.2) a7);have HT:=qH1 a6;clear hu a6 a7 ac;go_wp2_with fail;refine HC.mono ?_;rintro e w3 ⟨g3,p3,ρ3,γ3,f3,rfl,ad,a4,a1⟩;have al:=qH1 (yQx s.size go co g3 p3 ρo γo ρ3 γ3 f f3 w3 qo (HO.1.k a1 qr) a4.1 a9 ad);clear c0;go_wp2_with fail;refine al.mono ?_;rintro e w4 ⟨g4,p4,ρ4,γ4,f4,rfl,a2,aa⟩;have a3:=a2.1.out.caps.1;have a0:Hid (MatR w4 g4 (s.size+1) ρ4 γ4 f4/\RelW (sb s) f4 (LgA (os.take (k+1)))/\Below w2 w2 w4):=by refine⟨a2.1.read,?_,(HO.2.2.trans (a1.mono HO.2.2.size)).trans (aa.mono (Nat.le_trans HO.2.2.size a1.size))⟩;refine(HO.2.1.or a4.2).iff (λi j hij hj=>a2.2 i j hij (by rw[yAd]at hj;exact hj)) (λy=>?_);rw[AP,HT.out];exact xE4 _ _ _
   clear a2 a4 a1 aa;refine zY ?_;first|exact⟨k+1,g4,p4,ρ4,γ4,f4,qo,by go_num,rfl,a3,a0⟩|exact⟨k+1,g4,p4,qo,by go_num,rfl,a3,ρ4,γ4,f4,a0⟩|exact⟨k+1,qo,by go_num,g4,p4,rfl,a3,ρ4,γ4,f4,a0⟩
  .obtain rfl:k=N:=qo
   have zk:¬(k:Int)<(k:Int):=qo
   have a0:Hid (MatR wr go (s.size+1) ρo γo f/\RelW (sb s) f (LgA os)):=by have h9:=HO.2.1;rw[AI (by rw[HN.1];exact AC _)]at h9;exact⟨HO.1,h9⟩
   have ah:=k2.trans (HO.2.2.mono k2.size);go_wp2;go_ret;exact⟨go,co,ρo,γo,f,rfl,a9,a0,ah⟩
theorem RelW.plus_sb(h:RelW (sb s) fa P):RelW (sb s) (plK fa (s.size+1)) (Pls P):=by have:=h.plus;rw[yAd]at this;exact this
theorem RelW.then_sb(h:RelW (sb s) fa P)(k:RelW (sb s) fb Q):RelW (sb s) (λi j=>thF fa fb i j (s.size+1)) (λx=>∃y z,x=y++z/\P y/\Q z):=by have:=h.then k;rw[yAd]at this;exact this
theorem MxG.iff(h:MxG s P w r w')(hq:∀x,Q x↔P x):MxG s Q w r w':=by have⟨g,cp,ρ,γ,f,h1,h2,h3,h4⟩:=h;exact⟨g,cp,ρ,γ,f,h1,h2,⟨h3.1,h3.2.iff (λ_ _ _ _=>rfl) hq⟩,h4⟩
variable {ρ γ:Nat->Nat}
theorem yP9(hs:s.size<=200)(hM:MatR w g (s.size+1) ρ γ f)(hR:RelW (sb s) f P)(hc:s.size+1<=cp):Calls prog 241 #[slV g (s.size+1) cp] w (MxG s (Pls P) w):=
 (yTf s.size g cp ρ γ f w qo hM hc).mono (λr w' h=>MaG.says h hR.plus_sb)
theorem yZx(hs:s.size<=200)(hM:MatR w g (s.size+1) ρ γ f)(hR:RelW (sb s) f P)(hc:s.size+1<=cp)(hM':MatR w g' (s.size+1) ρ' γ' f')(hR':RelW (sb s) f' Q)(hc':s.size+1<=cp'):Calls prog 224 #[slV g (s.size+1) cp,slV g' (s.size+1) cp'] w (MxG s (λx=>P x\/Q x) w):=
 (yQx s.size g cp g' cp' ρ γ ρ' γ' f f' w qo hM hM' hc hc').mono (λr w' h=>MaG.says h.g (hR.or hR'))
theorem yYw(hs:s.size<=200)(hM:MatR w g (s.size+1) ρ γ f)(hR:RelW (sb s) f P)(hc:s.size+1<=cp)(hM':MatR w g' (s.size+1) ρ' γ' f')(hR':RelW (sb s) f' Q)(hc':s.size+1<=cp'):Calls prog 242 #[slV g (s.size+1) cp,slV g' (s.size+1) cp'] w (MxG s (λx=>∃y z,x=y++z/\P y/\Q z) w):=
 (yTe s.size g cp g' cp' ρ γ ρ' γ' f f' w qo hM hM' hc hc').mono (λr w' h=>MaG.says h.g (hR.then_sb hR'))
theorem yGf(hs:s.size<=200) w:Calls prog 239 #[xi s.size] w (MxG s (λx=>x= []) w):=
 (yQz s.size qo w).mono (λr w' h=>MaG.says h.g (yWr (sb s)))
def opL(P:List U8->Prop)(l:List U8):List U8->Prop:=RepL P (l.any (· != 43)) (l.any (· != 63))
theorem yZz(P:List U8->Prop)(x:List U8):opL P [] x↔P x:=by simp[opL,RepL]
theorem yOf(P:List U8->Prop)(l:List U8)(c:U8):opL P (l++ [c])=RepL P (l.any (· != 43) || c != 43) (l.any (· != 63) || c != 63):=by simp[opL,any_append]
theorem xLw(a:Pat)(ops:List U8)(x:List U8):Lg (if ops= []then a else .rep a (ops.any (· != 43)) (ops.any (· != 63))) x↔opL (Lg a) ops x:=by
 by_cases h:ops= []
 .rw[iB h,h,yZz]
 .rw[iA h];rfl
theorem xMr(P:List U8->Prop)(l:List U8)(x:List U8):opL P (l++ [42]) x↔(Pls (opL P l) x\/x= []):=by rw[yOf];have h1:=yPy P (l.any (· != 43)) (l.any (· != 63)) x;have h2:=yUv P (l.any (· != 43)) true x;rw[show(l.any (· != 43) || (42:U8) != 43)=true by simp,show(l.any (· != 63) || (42:U8) != 63)=true by simp];unfold opL;rw[h1,h2]
theorem xMq(P:List U8->Prop)(l:List U8)(x:List U8):opL P (l++ [43]) x↔Pls (opL P l) x:=by rw[yOf];have h1:=yPy P (l.any (· != 43)) (l.any (· != 63)) x;rw[show(l.any (· != 43) || (43:U8) != 43)=l.any (· != 43)by simp,show(l.any (· != 63) || (43:U8) != 63)=true by simp];unfold opL;rw[h1]
theorem xMp(P:List U8->Prop)(l:List U8)(x:List U8):opL P (l++ [63]) x↔(opL P l x\/x= []):=by rw[yOf];have h2:=yUv P (l.any (· != 43)) (l.any (· != 63)) x;rw[show(l.any (· != 43) || (63:U8) != 43)=true by simp,show(l.any (· != 63) || (63:U8) != 63)=l.any (· != 63)by simp];unfold opL;rw[h2]
structure SeqX(n m:Nat)(p:Ba)(a:Pat)(as_ ops:List U8)(ts:List Pat):Prop where
 X:0<as_.length
 le:as_.length+ops.length<=p.size
 atom:yAu n (cut (sb p) 0 as_.length) a
 sg:∀c∈ops,isOp c
 U:∀k c,ops[k]?=some c->(sb p)[as_.length+k]?=some c
 rest:SeqG (yAu n) ts (cut (sb p) (as_.length+ops.length) p.size)
 stop:∀c,(sb p)[as_.length+ops.length]?=some c->¬isOp c
theorem yY8(h:SeqG (yAu n) (t::ts) (sb p)):∃a as_ ops,SeqX n 0 p a as_ ops ts/\∀x,Lg t x↔opL (Lg a) ops x:=by
 have⟨ys,zs,hx,⟨as_,ops,a,a3,hA,a6,ht⟩,hG⟩:=h;have a0:sb p=as_++(ops++zs):=by rw[hx,a3,AV]
 have hl:p.size=as_.length+(ops.length+zs.length):=by rw[<-yAd,a0];simp
 have⟨c,yt,a5,_,_,aa⟩:=hA.first;have h1:cut (sb p) 0 as_.length=as_:=by unfold cut;rw[a0];simp
 have h2:cut (sb p) (as_.length+ops.length) p.size=zs:=by
  unfold cut;have e:as_.length+ops.length=(as_++ops).length:=by simp
  rw[a0,<-AV,e,drop_left];exact AI (by rw[<-e];omega)
 refine⟨a,as_,ops,⟨by rw[a5];simp,by omega,by rw[h1];exact hA,a6,λk c hk=>?_,by rw[h2];exact hG,λc hc=>?_⟩,λx=>by rw[ht];exact xLw a ops x⟩
 .have a7:=qf hk;rw[a0,AL (by omega),Nat.add_sub_cancel_left,AQ a7];exact hk
 .rw[a0,AL (by omega),show as_.length+ops.length-as_.length=ops.length by omega,AL qr,Nat.sub_self]at hc;cases ts with
  |nil=>rw[show zs= []from hG]at hc;simp at hc
  |cons t' ts'=>
   have⟨y2,z2,hz,⟨a2,o2,b2,hy2,a8,_,_⟩,_⟩:=hG;have⟨c2,a9,a4,_,_,a1⟩:=a8.first;rw[hz,hy2,a4]at hc;simp at hc;rw[<-hc];exact a1
theorem xD(hs:s.size<=200)(HA:AtmW s (m+1))(HS:SeqW s m):SeqW s (m+1):=by
 intro n ts p w aH hp hG;cases ts with
 |nil=>
  have h0:=hG;have hz:p.toList= []:=by rw[AH];exact h0
  have q1:(p.toList== [])=true:=by rw[hz];rfl
  have HE:=qH1 (yGf hs w);go_enter func225,ntmps225;go_wp2_with fail;apply HE.mono;rintro e w1 ⟨g1,p1,ρ1,γ1,f1,rfl,aA,aw,ai⟩;have HR:Hid (MxG s (LgS []) w (.returned (slV g1 (s.size+1) p1)) w1):=⟨g1,p1,ρ1,γ1,f1,rfl,aA,⟨aw.1,aw.2.iff (λ_ _ _ _=>rfl) (λx=>by simp[LgS])⟩,ai⟩;go_wp2;go_ret;exact HR.out
 |cons t ts=>
  obtain⟨a,as_,ops,hX,au⟩:=yY8 hG;have HX:Hid (SeqX n 0 p a as_ ops ts/\∀x,Lg t x↔opL (Lg a) ops x):=⟨hX,au⟩;have q1:(p.toList== [])=false:=by
   have h1:=hX.X;have h2:=hX.le;have hz:p.toList≠ []:=λq=>by rw[AH]at q;have:=yAd p;rw[show sb p= []from q]at this;simp at this;omega
   cases hq:p.toList with
   |nil=>exact absurd hq hz
   |cons _ _=>rfl
  obtain⟨j1,a6⟩:=qE as_.length;obtain⟨no,ah⟩:=qE ops.length;have aI:j1+no<=p.size:=by rw[a6,ah];exact hX.le
  have aJ:0<j1:=by rw[a6];exact hX.X
  have aE:Hid ((xf 207 #[p,xi 0] w (xi j1):Prop)):=by have h9:=yTv hp n 0 j1 a w (by rw[a6];exact hX.atom) qo;exact h9
  have aF:Hid (∀wx,Calls prog 240 #[(p.extract 0 j1),s] wx (MxG s (Lg a) wx)):=λwx=>by
   have ay:(p.extract 0 j1).size=j1:=by rw[<-yAd,yB7 p qo,yA5 (by rw[yAd];omega)];omega
   exact HA n a _ wx qo qo (by rw[yB7 p qo,a6];exact hX.atom)
  have aD:Hid (∀wx,Calls prog 225 #[(p.extract (j1+no) p.size),s] wx (MxG s (LgS ts) wx)):=λwx=>by
   have ay:(p.extract (j1+no) p.size).size=p.size-(j1+no):=by rw[<-yAd,yB7 p qr,yA5 (by rw[yAd];exact AC _)]
   exact HS n ts _ wx qo qo (by rw[yB7 p qr,a6,ah];exact hX.rest)
  have HL:=qH2 a6 ah;have z1:(j1:Int)<=(p.size:Int):=qo
  clear HA HS hG hX au a6 ah;go_enter func225,ntmps225;go_wp2_with fail;refine aE.mono ?_;rintro e w1 ⟨rfl,ai⟩;go_wp2_with fail;refine(aF.out w1).mono ?_;rintro e w2 ⟨g2,p2,ρ2,γ2,f2,rfl,az,av,hb2⟩;have aC:=ai.trans (hb2.mono ai.size);go_wp2;go_loopw[5,6] (λjv rv wr=>∃(J k go co:Nat)(ρo γo:Nat->Nat)(f:Nat->Nat->Bool),J<=p.size/\k<=no/\jv=(xi J)/\rv=slV go (s.size+1) co/\s.size+1<=co/\Hid (MatR wr go (s.size+1) ρo γo f/\RelW (sb s) f (opL (Lg a) (ops.take k))/\Below w w wr)/\Hid (J=j1+k)) (λjv _ _=>p.size-(intOf jv).toNat);case atStart=>exact⟨j1,0,g2,p2,ρ2,γ2,f2,qo,AF _,rfl,rfl,az,⟨av.1,av.2.iff (λ_ _ _ _=>rfl) (λx=>by rw[take_zero];exact yZz _ _),aC⟩,rfl⟩
  case round=>
   obtain⟨J,k,go,co,ρo,γo,f,hJ,hk,rfl,rfl,ab,HO,HJ⟩:=hrel;by_cases hlt:k<no
   .obtain⟨c,hc⟩:∃c,ops[k]?=some c:=qg (by rw[<-HL.2];exact hlt);have HK:=qH2 (by rw[AP,hc];rfl:ops.take (k+1)=ops.take k++ [c]) (by rw[HJ.out,HL.1];exact HX.1.U k c hc:(sb p)[J]?=some c);have aB:=HX.1.sg c (AB hc);have a9:Hid (J+1=j1+(k+1)):=by show _=_;rw[HJ.out];omega
    clear hc;rcases aB with rfl|rfl|rfl
    .obtain⟨_,gj⟩:=yA9 HK.2;have zj:(J:Int)<(p.size:Int):=by have:=yAt HK.2;rw[yAd]at this;omega
     have a8:Hid (Calls prog 142 #[.int .u8 ((42:U8).toNat:Int)] wr λe w'=>e=.returned true/\w'=wr):=by have:=yCt 42 wr;rw[decide_eq_true qj]at this;exact this
     have aj:J<p.size:=qo
     go_wp2_with fail;refine a8.mono ?_;rintro e' w9 ⟨rfl,a2⟩;rw[a2];clear a2;go_wp2_with fail;refine(yP9 hs HO.1 HO.2.1 ab).mono ?_;rintro e w3 ⟨g3,p3,ρ3,γ3,f3,rfl,a5,a3,a1⟩;have a4:=qH1 (HO.2.2.trans (a1.mono HO.2.2.size));clear a1;go_wp2_with fail;refine(yGf hs w3).mono ?_;rintro e w5 ⟨g5,p5,ρ5,γ5,f5,rfl,ak,af,a7⟩;have an:=qH1 (yZx hs (a3.1.k a7 qr) a3.2 a5 af.1 af.2 ak);have ag:=qH1 (a4.trans (a7.mono a4.size));clear a7;go_wp2_with fail;refine an.mono ?_;rintro e w6 ⟨g6,p6,ρ6,γ6,f6,rfl,aa,ae,ac⟩;have aq:=qH1 (ag.trans (ac.mono ag.size));clear ac;have a0:Hid (MatR w6 g6 (s.size+1) ρ6 γ6 f6/\RelW (sb s) f6 (opL (Lg a) (ops.take (k+1)))/\Below w w w6):=⟨ae.1,ae.2.iff (λ_ _ _ _=>rfl) (λx=>by rw[HK.1];exact(xMr _ _ x)),aq.out⟩;exact xJt
    .obtain⟨_,gj⟩:=yA9 HK.2;have zj:(J:Int)<(p.size:Int):=by have:=yAt HK.2;rw[yAd]at this;omega
     have a8:Hid (Calls prog 142 #[.int .u8 ((43:U8).toNat:Int)] wr λe w'=>e=.returned true/\w'=wr):=by have:=yCt 43 wr;rw[decide_eq_true qj]at this;exact this
     have aj:J<p.size:=qo
     go_wp2_with fail;refine a8.mono ?_;rintro e' w9 ⟨rfl,a2⟩;rw[a2];clear a2;go_wp2_with fail;refine(yP9 hs HO.1 HO.2.1 ab).mono ?_;rintro e w3 ⟨g3,p3,ρ3,γ3,f3,rfl,a5,a3,a1⟩;have a4:=qH1 (HO.2.2.trans (a1.mono HO.2.2.size));clear a1;have a0:Hid (MatR w3 g3 (s.size+1) ρ3 γ3 f3/\RelW (sb s) f3 (opL (Lg a) (ops.take (k+1)))/\Below w w w3):=⟨a3.1,a3.2.iff (λ_ _ _ _=>rfl) (λx=>by rw[HK.1];exact(xMq _ _ x)),a4.out⟩;refine zY ?_;first|exact⟨J+1,k+1,g3,p3,ρ3,γ3,f3,qo,qo,by go_num,rfl,a5,a0,a9⟩|exact⟨J+1,qo,by go_num,g3,p3,rfl,a5,k+1,ρ3,γ3,f3,qo,a0,a9⟩|trace_state
    .obtain⟨_,gj⟩:=yA9 HK.2;have zj:(J:Int)<(p.size:Int):=by have:=yAt HK.2;rw[yAd]at this;omega
     have a8:Hid (Calls prog 142 #[.int .u8 ((63:U8).toNat:Int)] wr λe w'=>e=.returned true/\w'=wr):=by have:=yCt 63 wr;rw[decide_eq_true qj]at this;exact this
     have aj:J<p.size:=qo
     go_wp2_with fail;refine a8.mono ?_;rintro e' w9 ⟨rfl,a2⟩;rw[a2];clear a2;go_wp2_with fail;refine(yGf hs wr).mono ?_;rintro e w5 ⟨g5,p5,ρ5,γ5,f5,rfl,ak,af,a7⟩;have an:=qH1 (yZx hs (HO.1.k a7 qr) HO.2.1 ab af.1 af.2 ak);have ag:=qH1 (HO.2.2.trans (a7.mono HO.2.2.size));clear a7;go_wp2_with fail;refine an.mono ?_;rintro e w6 ⟨g6,p6,ρ6,γ6,f6,rfl,aa,ae,ac⟩;have aq:=qH1 (ag.trans (ac.mono ag.size));clear ac;have a0:Hid (MatR w6 g6 (s.size+1) ρ6 γ6 f6/\RelW (sb s) f6 (opL (Lg a) (ops.take (k+1)))/\Below w w w6):=⟨ae.1,ae.2.iff (λ_ _ _ _=>rfl) (λx=>by rw[HK.1];exact(xMp _ _ x)),aq.out⟩;exact xJt
   .obtain rfl:k=no:=qo
    have a0:Hid (MatR wr go (s.size+1) ρo γo f/\RelW (sb s) f (Lg t)/\Below w w wr):=by refine⟨HO.1,HO.2.1.iff (λ_ _ _ _=>rfl) (λx=>?_),HO.2.2⟩;rw[AI (by rw[HL.2];exact AC _)];exact HX.2 x
    have ax:Hid (∀wx,Below wr wr wx->Calls prog 225 #[(p.extract J p.size),s] wx (MxG s (LgS ts) wx)):=λwx _=>by rw[HJ.out];exact aD.out wx
    by_cases aj:J<p.size
    .obtain⟨c,hc⟩:∃c,(sb p)[J]?=some c:=qg (by rw[yAd];exact aj);obtain⟨_,gj⟩:=yA9 hc;have zj:(J:Int)<(p.size:Int):=qo
     have ar:=HX.1.stop c (by rw[<-HL.1,<-HL.2,<-HJ.out];exact hc);have a8:Hid (Calls prog 142 #[.int .u8 (c.toNat:Int)] wr λe w'=>e=.returned false/\w'=wr):=by have:=yCt c wr;rw[decide_eq_false ar]at this;exact this
     clear hc ar;go_wp2_with fail;refine a8.mono ?_;rintro e' w9 ⟨rfl,a2⟩;rw[a2];clear a2;exact zzU1
    .have zj:¬(J:Int)<(p.size:Int):=qo
     have aG:(J:Int)<=(p.size:Int):=qo
     exact zzU1
theorem xDj{s:List U8}(h:∀i j,i<=j->j<s.length+1->f i j=(decide (j=i+1) && ((s[i]?).map τ).getD false)):RelW s f (λx=>∃c,x= [c]/\τ c=true):=by
 intro i j hij hj;rw[h i j hij (by omega),Bool.and_eq_true,decide_eq_true_eq];constructor
 .rintro⟨rfl,h2⟩;cases hc:s[i]? with
  |none=>rw[hc]at h2;cases h2
  |some c=>rw[hc]at h2;exact⟨c,yCl hc,h2⟩
 .rintro⟨c,hx,hc⟩;have hl:=yA5 (p:=s) (i:=i) hj;rw[hx]at hl;have e:j=i+1:=by simp at hl;omega
  subst e;have hi:i<s.length:=by omega
  have h1:=yCl (p:=s) (i:=i) (AJ hi);rw[hx]at h1;have h2:c=s[i]:=by simpa using h1
  exact⟨rfl,by rw[AJ hi,<-h2];exact hc⟩
theorem nu8{d c:U8}(h:¬d=c):((d.toNat:Int)==(c.toNat:Int))=false:=iC.2 (yCp (c:=c) h)
theorem u8b(c x:U8):(x==c)=((c.toNat:Int)==(x.toNat:Int)):=by rw[Bool.eq_iff_iff,beq_iff_eq,beq_iff_eq];exact⟨λq=>by rw[q],λq=>UInt8.toNat_inj.1 qo⟩
variable {p:Prop}
theorem zAtE(h:p:=by (try(rw[<-a1];clear a1));go_wp2_with fail;refine⟨⟨k+1,upd2 f k (k+1) _,qo,by go_num,by first|exact HJ2.out _ (.inl rfl)|exact HJ2.out _ (.inr rfl)⟩,?_⟩;go_light;simp[intOf];omega):p:=h
theorem atm{φ:U8->Bool}(hs:s.size<=200)(q:Ba)(d:U8)(hq:(sb q)[0]?=some d)(hP:∀x,(∃c,x= [c]/\φ c=true)↔P x)(h40:((d.toNat:Int)==40)=false)(K:Hid ((((d.toNat:Int)==46)=true/\((d.toNat:Int)==92)=false/\((d.toNat:Int)==91)=false/\∀x,φ x=true)\/((d.toNat:Int)==46)=false/\Hid ((((d.toNat:Int)==92)=false/\((d.toNat:Int)==91)=false/\∀x:U8,φ x=((d.toNat:Int)==(x.toNat:Int)))\/(((d.toNat:Int)==92)=true/\((d.toNat:Int)==91)=false/\∃c,(sb q)[1]?=some c/\∀x:U8,φ x=((c.toNat:Int)==(x.toNat:Int)))\/((d.toNat:Int)==92)=false/\((d.toNat:Int)==91)=true/\∀(b:U8)(wx:Ww),Calls prog 255 #[q,.int .u8 (b.toNat:Int)] wx λe w'=>e=.returned (φ b)/\w'=wx))) w:Calls prog 240 #[q,s] w (MxG s P w):=by
 obtain⟨_,gq⟩:=yA9 hq;have zq:(0:Int)<(q.size:Int):=by have:=qf hq;rw[yAd]at this;omega
 have a4:Hid (Calls prog 223 #[xi s.size] w (MaP (s.size+1) (λ_ _=>false) w)):=yC4 s.size qo w;clear hq;go_enter func240,ntmps240;go_wp2_with fail;refine a4.mono ?_;rintro r w1 ⟨g,cp,ρ,γ,rfl,HM,a3⟩;have hcp:=HM.out.out.caps;go_wp2;go_loopw[6] (λiv wr=>∃(k:Nat)(f:Nat->Nat->Bool),k<=s.size/\iv=(xi k)/\Hid (MatO wr w g cp (s.size+1) (s.size+1) ρ γ f/\(∀i j,i<=j->j<s.size+1->f i j=(decide (j=i+1) && (((sb s)[i]?).map φ).getD false && decide (i<k)))/\Below w w wr)) (λiv _=>s.size-(intOf iv).toNat);case atStart=>exact⟨0,_,AF _,rfl,HM.out,λi j _ _=>by simp,a3⟩
 case round=>
  obtain⟨k,f,hk,rfl,HJ⟩:=hrel;by_cases hlt:k<s.size
  .have zk:(k:Int)<(s.size:Int):=qo
   obtain⟨x,hx⟩:∃x,(sb s)[k]?=some x:=qg (by rw[yAd];exact hlt);obtain⟨_,gx⟩:=yA9 hx;have c0:(xk wr g k (slV (ρ k) (s.size+1) (γ k)):Prop):=HJ.1.z qo;have a0:k<s.size+1:=qo
   have c1:(xk wr (ρ k) (k+1) (f k (k+1)):Prop):=(HJ.1.j k a0).z qo;have y1:wr.frozen? (xd (ρ k) (k+1))=false:=World.ownsRow.frozenAt (HJ.1.j k a0) _;have a8:=(HJ.1.j k a0).caps;obtain⟨bv,a1⟩:=qE (φ x);have HJ2:Hid (∀W,W=(wr.setCell (xd (ρ k) (k+1)) bv).drew\/W=(wr.setCell (xd (ρ k) (k+1)) bv).drew.drew->MatO W w g cp (s.size+1) (s.size+1) ρ γ (upd2 f k (k+1) bv)/\(∀i j,i<=j->j<s.size+1->upd2 f k (k+1) bv i j=(decide (j=i+1) && (((sb s)[i]?).map φ).getD false && decide (i<k+1)))/\Below w w W):=by
    intro W hW;have a5:MatO W w g cp (s.size+1) (s.size+1) ρ γ (upd2 f k (k+1) bv)/\Below w w W:=by rcases hW with rfl|rfl;exact⟨(HJ.1.set a0 qo bv).k ((Below.refl _ _).drew),(yAb HJ.2.2 (HJ.1.j k a0).lt.1 _ _).drew⟩;exact⟨(HJ.1.set a0 qo bv).k ((Below.refl _ _).drew.drew),(yAb HJ.2.2 (HJ.1.j k a0).lt.1 _ _).drew.drew⟩
    refine⟨a5.1,λi j hij hj=>?_,a5.2⟩;unfold upd2;by_cases e:i=k/\j=k+1
    .rw[iB e,e.1,e.2,hx,a1];simp
    .rw[iA e,HJ.2.1 i j hij hj];by_cases e2:j=i+1
     .have h1:i≠k:=λq=>e ⟨q,qo⟩;have h2:decide (i<k)=decide (i<k+1):=by rw[decide_eq_decide];omega
      rw[h2]
     .simp[e2]
   clear hx;rcases K.out with ⟨z46,z92,z91,e⟩|⟨z46,K⟩
   .obtain rfl:bv=true:=a1.trans (e x);clear a1;go_upto_region 7 with fail;refine yAe 99 (λ_=>True) qk ?_;refine ja 0 AD ?_;refine jb AD ?_;refine ja 2 AD (v:=true) ?_;iterate 8 refine jb AD ?_
    refine kO 11 AD ?_;refine qD ?_;exact zAtE
   .go_upto_region 7 with fail;refine yAe 99 (λ_=>True) qk ?_;refine ja 0 AD ?_;refine jb AD ?_;refine ja 2 AD (v:=false) ?_;iterate 8 refine jb AD ?_
    refine kO 11 AD ?_;refine qD ?_;rcases K.out with ⟨z92,z91,e⟩|⟨z92,z91,c,h1,e⟩|⟨z92,z91,e⟩
    .rw[e x]at a1;exact zAtE
    .rw[e x]at a1;obtain⟨_,aa⟩:=yA9 h1;have a5:(1:Int)<(q.size:Int):=by have:=qf h1;rw[yAd]at this;omega
     clear h1 e;go_upto_region 9 with fail;refine yAe 99 (λ_=>True) qk ?_;refine ja 0 AD ?_;iterate 5 refine jb AD ?_
     refine kO 6 AD ?_;refine qD ?_;exact zAtE
    .go_wp2_with fail;refine(e x _).mono ?_;rintro e wh ⟨rfl,a2⟩;rw[a2];exact zAtE
  .obtain rfl:k=s.size:=qo
   have zk:¬(s.size:Int)<(s.size:Int):=qo
   go_wp2;go_ret;refine⟨g,cp,ρ,γ,f,rfl,hcp.1,⟨HJ.1.read,(xDj (τ:=φ) (λi j hij hj=>?_)).iff (λ_ _ _ _=>rfl) (λy=>(hP y).symm)⟩,HJ.2.2⟩;rw[yAd]at hj;rw[HJ.2.1 i j hij hj];by_cases e:j=i+1
   .have h1:i<s.size:=qo
    simp[h1]
   .simp[e]
theorem xC(H:AltW s m)(q:Ba)(ys:List U8)(n:Nat)(os:List (List Pat))(hq:sb q=40::ys++ [41])(hqm:q.size<=m+1)(hqs:q.size<=200)(hG:AltG (yAu n) os ys) w:Calls prog 240 #[q,s] w (MxG s (LgA os) w):=by
 have a0:q.size=ys.length+2:=by rw[<-yAd,hq];simp
 have⟨d,hd⟩:=qE (40:U8);have⟨_,gq⟩:=yA9 (s:=q) (i:=0) (x:=d) (by rw[hq,hd];rfl);have a2:((d.toNat:Int)==40)=true:=by rw[hd];rfl
 have zq:(0:Int)<(q.size:Int):=qo
 have hx:sb (q.extract 1 (q.size-1))=ys:=by rw[yB7 q qo,hq,a0];simp[cut]
 have HC:=qH1 (H n os _ w (by rw[<-yAd,hx];omega) (by rw[<-yAd,hx];omega) (hx▸hG));have⟨M,hM⟩:=qE (q.size-1);have z1:(1:Int)<=(M:Int):=qo
 have z2:(M:Int)<=(q.size:Int):=qo
 have z3:((q.size:Int)-1)=(M:Int):=qo
 have z4:=hqs;rw[<-hM]at HC;clear hq hqm hqs hG hx hd a0 hM;go_enter func240,ntmps240;go_wp2_with fail;apply HC.mono;rintro r w1 ⟨g,cp,ρ,γ,f,rfl,a1,HM,hb⟩;go_wp2;go_ret;exact⟨g,cp,ρ,γ,f,rfl,a1,HM,hb⟩
theorem yH7(c k:Int)(w:Ww):(Instr.field 158 (.agg #[xi c,xi k]) 0).run prog w=.ok (xi c) w:=qk
theorem xE0(hs:s.size<=200)(H:AltW s m):AtmW s (m+1):=by
 intro n t q w a1 hq hG;cases n with
 |zero=>exact hG.elim
 |succ n=>
  rcases hG with⟨c,h1,h2,rfl⟩|⟨h1,rfl⟩|⟨c,h1,rfl⟩|⟨ys,os,h1,h2,rfl⟩|⟨p,i,k,f,h1,h2,h3,rfl⟩
  .unfold yCr at h2;exact atm (φ:=λx=>x==c) hs q c (by rw[h1];rfl) (λ_=>by simp[Lg]) (nu8 (c:=40) λe=>h2 (.inr (.inl e))) (.inr ⟨nu8 (c:=46) λe=>h2 (.inr (.inr (.inr (.inl e)))),.inl ⟨nu8 (c:=92) λe=>h2 (.inr (.inr (.inr (.inr e)))),nu8 (c:=91) λe=>h2 (.inr (.inr (.inl e))),u8b c⟩⟩) w
  .exact atm (φ:=λ_=>true) hs q 46 (by rw[h1];rfl) (λ_=>Iff.rfl) rfl (.inl ⟨rfl,rfl,rfl,λ_=>rfl⟩) w
  .exact atm (φ:=λx=>x==c) hs q 92 (by rw[h1];rfl) (λ_=>by simp[Lg]) rfl (.inr ⟨rfl,.inr (.inl ⟨rfl,rfl,c,by rw[h1];rfl,u8b c⟩)⟩) w
  .exact xC H q ys n os h1 a1 hq h2 w
  .have hg:=yBk h2;have a2:=hg.2;have hl:(sb q).length=k-i:=by rw[h3,yA5 a2]
   have a0:∀t,i+t<k->(sb q)[t]?=p[i+t]?:=λt ht=>by rw[h3];unfold cut;rw[getElem?_take,iB qo,getElem?_drop]
   have e:=yF0 (q:=sb q) (j:=1) h2 (λt ht=>by rw[a0 (1+t) qo];congr 1;omega)
   refine atm hs q 91 (by rw[a0 0 qo];exact h1) (λ_=>Iff.rfl) rfl (.inr ⟨rfl,.inr (.inr ⟨rfl,rfl,λb=>yQy q hq b f ?_⟩)⟩) w;rw[e];have:1+(k-(i+1))=q.size:=by rw[<-yAd,hl];omega
   rw[this]
theorem xC9(hs:s.size<=200):SeqW s 0:=by
 intro n ts p w a3 hp hG;have h0:sb p= []:=AR.1 (by rw[yAd];omega);cases ts with
 |nil=>
  have hz:p.toList= []:=by rw[AH];exact h0
  have q1:(p.toList== [])=true:=by rw[hz];rfl
  have HE:=qH1 (yGf hs w);go_enter func225,ntmps225;go_wp2_with fail;apply HE.mono;rintro e w1 ⟨g1,p1,ρ1,γ1,f1,rfl,a1,a0,a2⟩;have HR:Hid (MxG s (LgS []) w (.returned (slV g1 (s.size+1) p1)) w1):=⟨g1,p1,ρ1,γ1,f1,rfl,a1,⟨a0.1,a0.2.iff (λ_ _ _ _=>rfl) (λx=>by simp[LgS])⟩,a2⟩;go_wp2;go_ret;exact HR.out
 |cons t ts=>
  have⟨a,as_,ops,hX,_⟩:=yY8 hG;have h1:=hX.X;have h2:=hX.le;omega
theorem yKl(hs:s.size<=200):∀m,SeqW s m
 |0=>xC9 hs
 |m+1=>xD hs (xE0 hs (yV8 hs (yKl hs m))) (yKl hs m)
theorem xCb(hs:s.size<=200)(m:Nat):AltW s m:=yV8 hs (yKl hs m)
theorem yHf(p s:Ba)(hpm:p.size<=maxLen)(hc0:¬(yAr (sb p)).1=0)(w:Ww):(xf 169 #[p,s] w false:Prop):=by
 have⟨c,hc⟩:=qE ((yAr (sb p)).1);have⟨k,hk⟩:=qE (((yAr (sb p)).2:Int):Int);have HS:Hid (∀w,(xf 89 #[p] w (.agg #[xi c,xi k]):Prop)):=λw=>by rw[hc,hk];exact yCd p w hpm
 have a0:=yH7 c k;rw[<-hc]at hc0;clear hc hk;exact xFg
theorem yL6(p s:Ba)(hpm:p.size<=maxLen)(hs:200<s.size)(w:Ww):(xf 169 #[p,s] w false:Prop):=by
 by_cases hc0:(yAr (sb p)).1=0
 .have⟨k,hk⟩:=qE (((yAr (sb p)).2:Int):Int);have HS:Hid (∀w,(xf 89 #[p] w (.agg #[xi 0,xi k]):Prop)):=λw=>by rw[<-hc0,hk];exact yCd p w hpm
  have a0:=yH7 0 k;have zs:¬(s.size:Int)<=200:=qo
  clear hk hc0;exact xFg
 .exact yHf p s hpm hc0 w
theorem yPx(p s:Ba)(hpm:p.size<=maxLen)(hc0:(yAr (sb p)).1=0)(hs:s.size<=200)(n:Nat)(os:List (List Pat))(hG:AltG (yAu n) os (sb p))(w:Ww):Calls prog 169 #[p,s] w λe w'=>∃b:Bool,e=.returned b/\Hid (b=true↔LgA os (sb s))/\Below w w w':=by
 have hp:p.size<=200:=by apply Classical.byContradiction;intro h6;unfold yAr at hc0;rw[iB (by rw[yAd];omega)]at hc0;exact absurd hc0 qj
 have⟨k,hk⟩:=qE (((yAr (sb p)).2:Int):Int);have HS:Hid (∀w,(xf 89 #[p] w (.agg #[xi 0,xi k]):Prop)):=λw=>by rw[<-hc0,hk];exact yCd p w hpm
 have HA:Hid (∀w,Calls prog 205 #[p,s] w (MxG s (LgA os) w)):=λw=>xCb hs 200 n os p w hp hp hG;have a1:=yH7 0 k;have zs:(s.size:Int)<=200:=qo
 clear hk hc0 hG;go_enter func169,ntmps169;go_wp2_with fail;apply (HS.out _).mono;rintro e w1 ⟨rfl,a0⟩;go_wp2_with fail;refine(HA.out _).mono ?_;rintro e w2 ⟨g,cp,ρ,γ,f,rfl,a2,HM,hb2⟩;have c0:=HM.1.out 0 qo;have c1:=HM.1.j 0 s.size qo qo;have a3:=HM.1.cap 0 qo;have z9:(s.size:Int)<((s.size+1:Nat):Int):=qo
 have z8:(s.size:Int)<(s.size:Int)+1:=qo
 have z7:(0:Int)<(s.size:Int)+1:=qo
 have HB:Hid (f 0 s.size=true↔LgA os (sb s)):=by
  have h:=HM.2 0 s.size qo (by rw[yAd];omega);have e:cut (sb s) 0 s.size=sb s:=by unfold cut;rw[drop_zero,AT,<-yAd,take_length]
  rw[e]at h;exact h
 go_wp2;go_ret;exact⟨_,rfl,HB,a0.trans (hb2.mono a0.size)⟩
variable {xs:List Nd} {e:Nd}
theorem yXn{T:Type}(V:Nd->List T->T){ns:List T}(h:yB8 V [] (xs.take j)=some ns)(he:xs[j]?=some e)(hl:yAk e.f<=ns.length):yB8 V [] (xs.take (j+1))=some (ns.take (ns.length-yAk e.f)++ [V e (ns.drop (ns.length-yAk e.f))]):=by exact xJy
theorem yXm{T:Type}(V:Nd->List T->T){ns:List T}(h:yB8 V [] (xs.take j)=some ns)(he:xs[j]?=some e)(hl:ns.length<yAk e.f):yB8 V [] xs=none:=by exact zzT3
abbrev YesP(w:Ww)(r:Ending)(w':Ww):Prop:=r=.returned true/\Below w w w'
theorem noNd(h:NoNd e):e=yA8:=by
 obtain⟨k,s,hi,t,lo,up,n⟩:=e;obtain⟨rfl,h1,rfl,h2,rfl,rfl,rfl⟩:=h;have z:∀s:Ba,s.toList= []->s=⟨#[]⟩:=λs h=>by rw[AH]at h;exact ByteArray.ext (by simpa using h)
 simp only at h1 h2;rw[z s h1,z t h2];rfl
variable {x:Ix} {cnt:Int}
theorem yR5.forms{k n conds:Int}(h:yR5 x k n cnt conds):
  (∃a f e,x=⟨1,a,0,f,e⟩/\yBe [e]/\((cntK e.f/\0<=a/\a<cnt)\/(¬cntK e.f/\a=0)))\/(∃a b,x=⟨5,a,b,false,yA8⟩/\0<=a/\a<conds/\k<b/\b<=n)\/
   (∃b,x=⟨6,0,b,false,yA8⟩/\k<b/\b<=n)\/∃o,x=⟨o,0,0,false,yA8⟩/\(o=2\/o=3\/o=4):=by
 obtain⟨o,a,b,f,e⟩:=x;rcases h with⟨rfl,hF,rfl,hA⟩|⟨rfl,⟨rfl,hN⟩,hA⟩|⟨rfl,⟨rfl,hN⟩,rfl,hA⟩|⟨ho,⟨rfl,hN⟩,rfl,rfl⟩
 .exact .inl ⟨a,f,e,rfl,hF,hA⟩
 .exact .inr (.inl ⟨a,b,by rw[<-noNd hN],hA⟩)
 .exact .inr (.inr (.inl ⟨b,by rw[<-noNd hN],hA⟩))
 .exact .inr (.inr (.inr ⟨o,by rw[<-noNd hN],ho⟩))
theorem insB(x:Ix)(w:Ww):∃W0,W0=w.alloc (AK #[.int .i64 x.op,.int .i64 x.a,.int .i64 x.b,.bool x.free,.int .i64 x.leaf.f,.string x.leaf.s,.bool x.leaf.hi,.string x.leaf.t,.int .u64 x.leaf.lo,.int .u64 x.leaf.up,.int .i64 x.leaf.n] 153)/\Below w.heap.size w W0/\yA W0 w 153 11 w [xi x.op,xi x.a,xi x.b,x.free,xi x.leaf.f,x.leaf.s,x.leaf.hi,x.leaf.t,xu x.leaf.lo,xu x.leaf.up,xi x.leaf.n]:=
 ⟨_,rfl,qB,yAa w _ qr rfl⟩
theorem yR{k n conds:Int}(w:Ww)(h:yR5 x k n cnt conds)(ho:x.ok):Calls prog 112 #[x.v,.int .i64 k,.int .i64 n,.int .i64 cnt,.int .i64 conds] w (YesP w):=by
 obtain⟨W0,hW0,hb0,B0⟩:=insB x w;rcases h.forms with⟨a,f,e,rfl,hF,hA⟩|⟨a,b,rfl,h1,h2,h3,h4⟩|⟨b,rfl,h1,h2⟩|⟨o,rfl,hO⟩
 .obtain⟨W1,hW1⟩:=qW (W0.alloc (AK #[.int .i64 e.f,.string e.s,.bool e.hi,.string e.t,.int .u64 e.lo,.int .u64 e.up,.int .i64 e.n] 83));have hb1:Below W0.heap.size W0 W1:=by rw[hW1];exact qB
  have C1:=hidO (yKe (w:=W1) (xs:= [e]) (O:=W0.heap.size) (g:=W0.heap.size) (cp:=1) (by rw[hW1];exact yQb W0 e) (λd hd=>by simp at hd;subst hd;exact ho.leaf) qj);have HF:=hidO hF;obtain⟨c0,c1,c2,c3,c4,c5,c6,c7,c8,c9,c10⟩:=B0.c11;clear ho hF;go_enter func112,ntmps112;go_upto_region 1 with fail;rw[<-hW0];clear hW0;go_wp2_with fail;rw[<-hW1];clear hW1 c0 c1 c2 c3 c4 c5 c6 c7 c8 c9 c10;refine C1.out.mono ?_;rintro r w2 ⟨r2,rfl,hr,hb2⟩;obtain rfl:r2=true:=hr.2 HF.out;have k2:=hb1.trans (hb2.mono hb1.size);obtain⟨c0,c1,c2,c3,c4,c5,c6,c7,c8,c9,c10⟩:=(B0.k k2).c11;clear C1 hr;go_wp2_with fail;refine(yRo e _).mono ?_;rintro r w3 ⟨q,rfl,hq,hb3⟩;have k3:=k2.trans (hb3.mono k2.size);have HE:=hidO (hb0.trans (k3.mono hb0.size));exact zzT2
 all_goals simp only[yA8]at*
 all_goals obtain⟨c0,c1,c2,c3,c4,c5,c6,c7,c8,c9,c10⟩:=B0.c11
 all_goals clear ho
 all_goals go_enter func112,ntmps112
 all_goals go_upto_region 1 with fail
 all_goals rw[<-hW0]
 all_goals clear hW0
 .go_wp2_with fail;go_ret;exact⟨by simp[h2,h3,h4],hb0⟩
 .go_wp2_with fail;go_ret;exact⟨by simp[h1,h2],hb0⟩
 .rcases hO with rfl|rfl|rfl;all_goals go_wp2_with fail
  all_goals go_ret
  all_goals exact⟨rfl,hb0⟩
variable {l:List Ix} {ds:List Int}
theorem xBe{k:Nat}(h:yCc l cnt conds)(hf:yCz l k=some ds)(hx:l[k]?=some x):ds.length=l.length+1/\∃d ds',ds[k]?=some d/\least x.op<=d/\1<=d+more x.op/\d<=250/\d+more x.op<=250/\yCs (d+more x.op) (ways k x) ds=some ds'/\yCz l (k+1)=some ds':=by
 have hk:=qf hx;have hl:=(yTr hf).X;obtain⟨d,hd⟩:∃d,ds[k]?=some d:=qg qo;have hr:=(yTr hf).ran d (AB hd);have h1:=yId h (k:=k+1) qo;rw[yEp hf hx]at h1|-;unfold yL5 at h1|-;rw[hd]at h1|-;simp only at h1|-;split at h1
 .exact absurd rfl h1
 .rename_i hn;rw[iA hn];obtain⟨ds',hs⟩:∃ds',yCs (d+more x.op) (ways k x) ds=some ds':=by
   cases hq:yCs (d+more x.op) (ways k x) ds with
   |none=>exact absurd hq h1
   |some e=>exact⟨e,rfl⟩
  refine⟨hl,d,ds',rfl,qo,?_,hr.2,qo,hs,hs⟩;have:1<=least x.op+more x.op:=by unfold least more;split<;>split<;>(try split)<;>omega
  omega
variable {ds':List Int} {d:Int}
theorem yOi(h:note ds j d=some ds'):∃e,ds[j]?=some e/\(e=0\/e=d)/\ds'=ds.set j d:=by
 unfold note at h;cases hj:ds[j]? with
 |none=>rw[hj]at h;cases h
 |some e=>
  rw[hj]at h;simp only at h;split at h
  .exact⟨e,rfl,‹_›,(Option.some.inj h).symm⟩
  .cases h
theorem yKv(h:OwnZ 2 w O g cp ds .i64)(hn:note ds j d=some ds')(hd:1<=d/\d<=250)(hl:ds.length=n+1)(hL:n<=4000)(hj:jj=(j:Int)):
  Hid (Calls prog 113 #[xg g (n+1) cp,xi jj,xi d] w λr w'=>r=.returned true/\Hid (OwnZ 2 w' O g cp ds' .i64)/\Chg (λq=>q=g) w w'):=by
 obtain⟨e,he,h0,rfl⟩:=yOi hn;subst hj;have:=yW5 O g cp ds j d e w h he qo;rw[hl]at this;apply this.mono;rintro r w' ⟨b,rfl,hb,hO,hc⟩;obtain rfl:b=true:=hb.2 ⟨h0,hd⟩;exact⟨rfl,hO rfl,hc⟩
theorem zVj (h:p:=by
 have⟨x0,x1,x2,x3,x4,x5,x6,x7,x8,x9,x10⟩:=(B2.k hb3).c11;have N1:=yKv (jj:=(k:Int)+1) (HO2.k hb3) HNt.1 HNt.2.1 HNt.2.2.1 p1 qo;go_wp2_with fail;apply N1.out.mono;rintro r w4 ⟨rfl,HO4,hC4⟩;have B4:=(B2.k hb3).i hC4 qo;have kw4:=Chg.k kw3 hC4 kw3.size (λq hq=>qo);clear x0 x1 x2 x3 x4 x5 x6 x7 x8 x9 x10 N1;have⟨x0,x1,x2,x3,x4,x5,x6,x7,x8,x9,x10⟩:=B4.c11;go_wp2_with fail;apply (yI7 _ _).mono;rintro r w5 ⟨r3,rfl,hr3,hb5⟩;obtain rfl:r3=false:=by cases r3;rfl;exact absurd (hr3.1 rfl) qo
 have HN:=hidO (And.intro HNt.2.2.2 (HO4.k hb5));have kw5:=kw4.trans (hb5.mono kw4.size);clear x0 x1 x2 x3 x4 x5 x6 x7 x8 x9 x10 hr3;have⟨x0,x1,x2,x3,x4,x5,x6,x7,x8,x9,x10⟩:=(B4.k hb5).c11;refine zX ?_;exact⟨k+1,_,qo,by go_num,HN,kw5⟩):p:=h
theorem zVm (h:p:=by
 have⟨x0,x1,x2,x3,x4,x5,x6,x7,x8,x9,x10⟩:=B4.c11;go_wp2_with fail;apply (yI7 _ _).mono;rintro r w5 ⟨r3,rfl,hr3,hb5⟩;obtain rfl:r3=true:=hr3.2 (by simp);have N2:=yKv (jj:=b) (HO4.k hb5) HNt.1 HNt.2.1 HNt.2.2.1 p1 qo;have kw5:=kw4.trans (hb5.mono kw4.size);clear x0 x1 x2 x3 x4 x5 x6 x7 x8 x9 x10 hr3;have⟨x0,x1,x2,x3,x4,x5,x6,x7,x8,x9,x10⟩:=(B4.k hb5).c11;go_wp2_with fail;apply N2.out.mono;rintro r w6 ⟨rfl,HO6,hC6⟩;have HN:=hidO (And.intro HNt.2.2.2 HO6);have kw6:=Chg.k kw5 hC6 kw5.size (λq hq=>qo);clear N2 x0 x1 x2 x3 x4 x5 x6 x7 x8 x9 x10;refine zX ?_;exact⟨k+1,_,qo,by go_num,HN,kw6⟩):p:=h
theorem yGx{x:Bk}w (hG:yCc x.l x.cnt conds) (h:yDw w x.v x.l) (ho:x.ok) (hcd:conds<=1000):Calls prog 51 #[x.val,xi conds] w (YesP w):=by
 have⟨v,cnt,l⟩:=x;obtain⟨p0,p1,p2,p3,-⟩:=id hG;obtain⟨b0,off,cap,rfl,hE,hbl,hcap⟩:∃b0 off cap,v=(xy b0 off l.length cap)/\yDf w b0 off l/\b0<w/\(l.length<=cap/\cap<=maxLen):=by
  exact xJs
 simp only at p0 p1 p2 p3 hG;have⟨W0,hW0⟩:=qE (xw w #[(xy b0 off l.length cap),xi cnt] 32:Ww);have hb0:=qN hW0
 have B0:yA W0 w 32 2 w [(xy b0 off l.length cap),xi cnt]:=hW0▸(yAa w _ qr rfl)
 have HE:Hid (∀wx,Below W0 W0 wx->yDf wx b0 off l):=λwx hx=>(hE.k hb0 hbl).k hx (by have:=hb0.size;omega);have HG:=hidO hG;have HOk:=qH1 ho.ins;have⟨k0,k1⟩:=B0.c2;have z0:¬(l.length:Int)<1:=qo
 have z1:¬(4000:Int)<(l.length:Int):=qo
 have z2:¬cnt<0:=qo
 have z3:¬200<cnt:=qo
 unfold maxLen at hcap;clear h ho hE hG;go_enter func51,ntmps51;go_upto_region 1 with fail;rw[<-hW0];clear hW0;have⟨W1,hW1⟩:=qE (xw W0 #[xi 1] 2:Ww);have hb1:=qN hW1
 have HO1:Hid (OwnZ 2 W1 W0 W0 1 (1::AG 0 0) .i64):=hW1▸(World.ownsRow_lit W0 #[xi 1] 1 qr qj rfl)
 go_upto_region 5 with fail;rw[<-hW1];clear hW1 k0 k1;go_wp2_with fail;go_loopw[6,7] (λd i wr=>∃(k g cp:Nat),k<=l.length/\i=(xi k)/\d=(xg g (k+1) cp)/\Hid (OwnZ 2 wr W0 g cp (1::AG k 0) .i64)/\Below W0 W0 wr) (λ_ i _=>l.length-(intOf i).toNat);case atStart=>exact⟨0,_,_,AF _,rfl,rfl,HO1,hb1⟩
 case round=>
  obtain⟨k,g,cp,hk,rfl,rfl,HO,hb⟩:=hrel;by_cases hlt:k<l.length
  .have zk:(k:Int)<(l.length:Int):=qo
   have ba:Below wr wr (xw wr #[xi 0] 2):=qB;have HOa:=hidO (HO.k ba);go_wp2_with (at_builtin;refine yH3 _ rfl _ _ rfl W0 g cp (k+1) wr 1 1 (1::AG k 0) [0] rfl rfl (by simp) rfl HOa ?hc ?hl ?hb ?_);case hc=>intro j d hd;(have hj:j=0:=by(have:=qf hd;simp at this;omega));subst hj;obtain rfl:=Option.some.inj hd;simp
   case hl=>simp;omega
   case hb=>simp;have:=hb.size;omega
   intro g' cp' w' hO' hgr;have HO':Hid (OwnZ 2 w' W0 g' cp' (1::AG (k+1) 0) .i64):=by rw[List.replicate_succ'];exact hO'
   have b1:=hb.trans (ba.mono hb.size);have hb':=b1.grown hgr b1.size (λj hj=>by have:=HOa.lt.1;cases hj;omega);clear hO' hgr;refine zX ?_;exact⟨k+1,g',cp',qo,by go_num,rfl,HO',hb'⟩
  .have zk:¬(k:Int)<(l.length:Int):=qo
   obtain rfl:k=l.length:=qo
   go_wp2_with fail;go_loopw[8] (λi wr=>∃(k:Nat)(ds:List Int),k<=l.length/\i=(xi k)/\Hid (yCz l k=some ds/\OwnZ 2 wr W0 g cp ds .i64)/\Below W0 W0 wr) (λi _=>l.length-(intOf i).toNat);case atStart=>exact⟨0,_,AF _,rfl,⟨rfl,HO⟩,hb⟩
   case round=>
    obtain⟨k,ds,hk,rfl,HJ,hb⟩:=hrel;have⟨k0,k1⟩:=(B0.k hb).c2;by_cases hlt:k<l.length
    .have zk:(k:Int)<(l.length:Int):=qo
     have zk1:(k:Int)<(l.length:Int)+1:=qo
     obtain⟨x,hx⟩:∃x,l[k]?=some x:=qg hlt;have⟨hdl,d,ds',hd,hle,hd1,hd2,hd3,hns,hfl⟩:=xBe HG HJ.1 hx;have⟨c0,c1,c2,c3,c4,c5,c6,c7,c8,c9,c10⟩:=HE wr hb k _ hx;have⟨W2,hW2,hb2,B2⟩:=insB x wr;have C1:=hidO (yR W2 (yCf HG hx) (HOk x (AB hx)));have HO2:=hidO (HJ.2.k hb2);have kw2:=hb.trans (hb2.mono hb.size);have hgz:=HJ.2.lt;have⟨m0,m1⟩:=(B0.k kw2).c2;have⟨e0,e1⟩:=HO2.z hd;have hwk:IntKind.i64.wrap ((k:Int)+1)=(k:Int)+1:=by rw[AE];omega
     have kw3:=λw3 (hb3:Below W2 W2 w3)=>kw2.trans (hb3.mono kw2.size);rcases(yCf HG hx).forms with⟨a,f,e,rfl,-⟩|⟨a,b,rfl,-,-,h3,h4⟩|⟨b,rfl,h3,h4⟩|⟨o,rfl,rfl|rfl|rfl⟩;all_goals dsimp only[yA8]at B2 hW2 c0 c1 c2 c3 c4 c5 c6 c7 c8 c9 c10
     all_goals have⟨x0,x1,x2,x3,x4,x5,x6,x7,x8,x9,x10⟩:=B2.c11
     all_goals simp[more,least,ways,yCs,Option.bind_eq_some_iff,<-Int.sub_eq_add_neg]at hle hd1 hd3 hns
     all_goals have hwp:IntKind.i64.wrap (d+1)=d+1:=by rw[AE];omega
     all_goals have hwm:IntKind.i64.wrap (d-1)=d-1:=by rw[AE];omega
     all_goals have hdz:(d==0)=false:=by rw[iC];omega
     all_goals go_upto_region 13 with fail
     all_goals rw[<-hW2]
     all_goals clear hW2 c0 c1 c2 c3 c4 c5 c6 c7 c8 c9 c10 k0 k1 hx hwk
     all_goals go_wp2_with fail
     all_goals apply C1.out.mono
     all_goals rintro r w3 ⟨rfl,hb3⟩
     all_goals replace kw3:=kw3 w3 hb3
     all_goals clear C1 m0 m1 e0 e1 x0 x1 x2 x3 x4 x5 x6 x7 x8 x9 x10
     .have HNt:=hidO (AA hns (AA (AA hd1 hd3) (AA hdl hfl)));exact zVj
     .have⟨ds1,hn1,hn2⟩:=hns;have⟨x0,x1,x2,x3,x4,x5,x6,x7,x8,x9,x10⟩:=(B2.k hb3).c11;have N1:=yKv (jj:=(k:Int)+1) (HO2.k hb3) hn1 ⟨hd1,hd3⟩ hdl p1 qo;have hl1:ds1.length=l.length+1:=by obtain⟨_,_,_,rfl⟩:=yOi hn1;simpa using hdl
      have HNt:=hidO (AA hn2 (AA (AA hd1 hd3) (AA hl1 hfl)));clear hn1 hn2 hl1;go_wp2_with fail;apply N1.out.mono;rintro r w4 ⟨rfl,HO4,hC4⟩;have B4:=(B2.k hb3).i hC4 qo;have kw4:=Chg.k kw3 hC4 kw3.size (λq hq=>qo);clear x0 x1 x2 x3 x4 x5 x6 x7 x8 x9 x10 N1;exact zVm
     .have HNt:=hidO (AA hns (AA (AA hd1 hd3) (AA hdl hfl)));have HO4:=hidO (HO2.k hb3);have B4:=B2.k hb3;have kw4:=kw3;clear kw3;exact zVm
     all_goals try have hq:¬d<2:=qo
     all_goals have HNt:=hidO (AA hns (AA (AA hd1 hd3) (AA hdl hfl)))
     all_goals exact zVj
    .exact zzT4
theorem yL3{m:Bk}(hG:yEk bs m)(h:yIr w u bs)(hok:∀x∈bs,x.ok)(hm:yDw w m.v m.l)(hmo:m.ok):Calls prog 13 #[.agg #[u,m.v,xi m.cnt]] w (YesP w):=by
 have⟨p0,gm,gb⟩:=hG;obtain⟨ua,cap,rfl⟩:∃ua cap,u=.slice ua bs.length cap:=by
  exact xJk
 have hu2:=hm.cells;have⟨W0,hW0⟩:=qE (xw w #[.slice ua bs.length cap,m.v,xi m.cnt] 34:Ww);have hb0:=qN hW0
 have B0:yA W0 w 34 3 w [.slice ua bs.length cap,m.v,xi m.cnt]:=hW0▸(yAa w _ qr rfl)
 have HI:Hid (∀wx,Below W0 W0 wx->yIr wx (.slice ua bs.length cap) bs):=λwx hx=>(h.k hb0).k hx;have HGb:Hid (∀k x,bs[k]?=some x->yCc x.l x.cnt k/\x.ok):=λk x hx=>⟨gb k x hx,hok x (AB hx)⟩;have C1:=hidO (yGx W0 gm (hm.k hb0 qr) hmo qo);have⟨k0,k1,k2⟩:=B0.c3;have z0:¬(200:Int)<(bs.length:Int):=qo
 clear h hok hm hmo gm gb;go_enter func13,ntmps13;go_upto_region 1 with fail;rw[<-hW0];clear hW0;go_wp2_with fail;apply C1.out.mono;rintro r w1 ⟨rfl,hb1⟩;clear k0 k1 k2 C1;go_wp2_with fail;go_loopw[3] (λi wr=>∃(k:Nat),k<=bs.length/\i=(xi k)/\Below W0 W0 wr) (λi _=>bs.length-(intOf i).toNat);case atStart=>exact⟨0,AF _,rfl,hb1⟩
 case round=>
  obtain⟨k,hk,rfl,hb⟩:=hrel;obtain⟨k0,-,-⟩:=(B0.k hb).c3;by_cases hlt:k<bs.length
  .obtain⟨x,hx⟩:∃x,bs[k]?=some x:=qg hlt;have zk:(k:Int)<(bs.length:Int):=qo
   obtain⟨b0,off,rfl,c0,c1,hX⟩:∃b0 off,ua=some ⟨b0,off,none⟩/\xk wr b0 (off+k*2) x.v/\xk wr b0 (off+k*2+1) (xi x.cnt)/\yDw wr x.v x.l:=by
    rcases HI wr hb with⟨a,cap',hq,hl⟩|⟨b,off,cap',hq,hE,_⟩
    .subst hl;simp at hlt
    .cases hq
     have⟨c0,c1,c2⟩:=hE k x hx;exact⟨b,off,rfl,c0,c1,c2⟩
   have C2:=hidO (yGx wr (HGb k x hx).1 hX (HGb k x hx).2 qo);have hu:=hX.cells;clear hX hx;go_wp2_with fail;apply C2.out.mono;rintro r w3 ⟨rfl,hb3⟩;have kb3:=hb.trans (hb3.mono hb.size);clear C2 k0 c0 c1;exact zzT5
  .have zk:¬(k:Int)<(bs.length:Int):=qo
   have HB:=hidO (hb0.trans (hb.mono hb0.size));go_wp2_with fail;go_ret;exact⟨rfl,HB⟩
def yYb(js:List Nat)(w:Ww)(r:Ending)(w':Ww):Prop:=∃g,r=.returned (xg g js.length js.length)/\(∀(i j:Nat),js[i]?=some j->(xk w' g i (xi j):Prop))/\w.heap.size<=g/\g<w'.heap.size/\Below w w w'
theorem yYn(x:Ix)(k:Nat) w (hk:k<=1000000) (hb:(x.op=5\/x.op=6)->0<=x.b):Calls prog 167 #[x.v,xi k] w (yYb (ways k x) w):=by
 have⟨op,a,b,free,⟨kind,s,hi,t,lo,up,nn⟩⟩:=x;simp only at hb;have⟨js,a1⟩:=qE (ways k ⟨op,a,b,free,⟨kind,s,hi,t,lo,up,nn⟩⟩);rw[<-a1];have HJ:=qH1 a1;have⟨W0,a0⟩:=qE (xw w #[xi op,xi a,xi b,free,xi kind,s,hi,t,xu lo,xu up,xi nn] 153:Ww);have a6:=qN a0
 have a2:=qS a0
 obtain⟨c0,c2⟩:xk W0 w 0 (xi op)/\xk W0 w 2 (xi b):=a0▸⟨by simp,by simp⟩
 have a7:IntKind.i64.wrap ((k:Int)+1)=(k:Int)+1:=by rw[AE];omega
 have HA:Hid (∀(vs:List Int),vs=js.map (λj:Nat=>(j:Int))->yYb js w (.returned (xg (w+1) js.length js.length)) (xw W0 (vs.map λd=>Value.int .i64 d).toArray 3)):=by
  intro vs a3;have a5:Below W0 W0 (xw W0 (vs.map λd=>Value.int .i64 d).toArray 3):=qB;refine⟨w+1,rfl,λi j hj=>?_,qo,by rw[<-a2];simp,a6.trans (a5.mono qo)⟩;have h1:(vs.map λd=>Value.int .i64 d)[i]?=some (.int .i64 (j:Int)):=by rw[a3,AM,AM,hj];rfl
  rw[<-a2];simp[h1]
 go_enter func167,ntmps167;go_upto_region 1 with fail;rw[<-a0];clear a0;by_cases h5:op=5
 .subst h5;have hj:js= [k+1,b.toNat]:=by rw[HJ.out];rfl
  have a4:=hb (.inl rfl);have H:Hid (yYb js w (.returned (xg (w.heap.size+1) 2 2)) (W0.alloc (AK #[.int .i64 ((k:Int)+1),.int .i64 b] 3))):=by have:=HA.out [(k:Int)+1,b] (by rw[hj];simp;omega);rw[hj]at this|-;exact this
  clear hj hb;go_wp2_with fail;go_ret;exact H.out
 by_cases h6:op=6
 .subst h6;have hj:js= [b.toNat]:=by rw[HJ.out];rfl
  have a4:=hb (.inr rfl);have H:Hid (yYb js w (.returned (xg (w.heap.size+1) 1 1)) (W0.alloc (AK #[.int .i64 b] 3))):=by have:=HA.out [b] (by rw[hj];simp;omega);rw[hj]at this|-;exact this
  clear hj hb;go_wp2_with fail;go_ret;exact H.out
 have hj:js= [k+1]:=by rw[HJ.out];simp[ways,h5,h6]
 have H:Hid (yYb js w (.returned (xg (w.heap.size+1) 1 1)) (W0.alloc (AK #[.int .i64 ((k:Int)+1)] 3))):=by have:=HA.out [(k:Int)+1] (by rw[hj];simp);rw[hj]at this|-;exact this
 clear hj hb;go_wp2_with fail;go_ret;exact H.out
theorem Tryz.infoInt:(prog.info? 3).map (λi=>(i.zero,i.size,i.bytes))=some (some (.int .i64 0),1,8):=qk
theorem yX(n:Nat):(madeCells #[xi 0] n).toList=(AG n (0:Int)).map λd=>Value.int .i64 d:=by
 apply ext_getElem?;intro j;by_cases hj:j<n
 .rw[AM,AS,iB hj];simp[madeCells,hj,mod_one]
 .rw[AM,AS,iA hj];simp[madeCells,hj]
variable {js:List Nat}
theorem yW3(h:yCs d (js.take m) ds=some ds')(hj:js[m]?=some j):yCs d (js.take (m+1)) ds=note ds' j d:=by
 have a0:∀(xs:List Nat)(es:List Int),yCs d (xs++ [j]) es=(yCs d xs es).bind λe=>note e j d:=by
  intro xs;induction xs with
  |nil=>intro es;simp[yCs]
  |cons x xs ih=>
   intro es;simp only[cons_append,yCs];cases note es x d with
   |none=>rfl
   |some e=>simp[ih]
 rw[AP,hj];simp only[Option.toList];rw[a0,h];rfl
theorem yW4(h:yCs d (js.take m) ds=none):yCs d js ds=none:=by
 have a0:∀(xs ys:List Nat)(es:List Int),yCs d xs es=none->yCs d (xs++ys) es=none:=by
  intro xs;induction xs with
  |nil=>intro ys es q;simp[yCs]at q
  |cons x xs ih=>
   intro ys es q;simp only[cons_append,yCs]at q|-;cases hn:note es x d with
   |none=>rfl
   |some e=>
    rw[hn]at q;exact ih ys e q
 have:=a0 (js.take m) (js.drop m) ds h;rw[take_append_drop]at this;exact this
theorem yZ7{e:List Int}(h:yCs d js ds=some e)(m:Nat):∃es,yCs d (js.take m) ds=some es:=by
 cases q:yCs d (js.take m) ds with
 |none=>rw[yW4 q]at h;cases h
 |some es=>exact⟨es,rfl⟩
theorem xGz{k:Nat}(h:yR5 x k l.length cnt conds)(hk:k<l.length):(ways k x).length<=2/\(∀(m j:Nat),(ways k x)[m]?=some j->j<=l.length)/\((x.op=5\/x.op=6)->0<=x.b):=by
 rcases h.forms with⟨a,f,e,rfl,-⟩|⟨a,b,rfl,-,-,h3,h4⟩|⟨b,rfl,h3,h4⟩|⟨o,rfl,rfl|rfl|rfl⟩;all_goals refine⟨by simp[ways],λm j hm=>?_,λ_=>by simp only;omega⟩
 all_goals have:=AB hm
 all_goals simp[ways]at this
 all_goals omega
theorem zVdF (h:p:=by
 rintro r w4 ⟨gw,rfl,hcw,hgw1,hgw2,hb4⟩;have hgne:¬gw=W0.heap.size:=qw HO3.lt.2
 have HCw:Hid (∀(i j:Nat),js[i]?=some j->(xk w4 gw i (xi j):Prop)):=hcw;have HO4:=hidO (HO3.k hb4);have kw4:=kw3.trans (hb4.mono kw3.size);have hjl:js.length<=2:=HJS.1;clear hcw x0 x1 x2 x3 x4 x5 x6 x7 x8 x9 x10 e0 e1;go_wp2;go_loopw[54] (λi wi=>∃(m:Nat)(es:List Int),m<=js.length/\i=(xi m)/\Hid (yCs D (js.take m) ds=some es/\OwnZ 3 wi W0 W0 (l.length+1) es .i64/\Chg (λq=>q=W0.heap.size) w4 wi)/\Below W0 W0 wi) (λi _=>js.length-(intOf i).toNat);case atStart=>exact⟨0,ds,Nat.zero_le _,rfl,⟨rfl,HO4.out,Chg.refl _ _⟩,kw4⟩
 case round=>
  obtain⟨m,es,hm,rfl,HN,hbi⟩:=hrel;by_cases hml:m<js.length
  .have zm:(m:Int)<(js.length:Int):=by omega
   obtain⟨j,hj⟩:∃j,js[m]?=some j:=qg hml;have hjn:=HJS.2.1 m j hj;have zj:(j:Int)<(l.length:Int)+1:=by omega
   obtain⟨es',hn⟩:=yZ7 HNS.1 (m+1);have HN2:=hidO hn;rw[yW3 HN.1 hj]at hn;obtain⟨e',he',h0,rfl⟩:=yOi hn;obtain⟨f0,f1⟩:=HN.2.1.z he';have w0:(xk wr gw m (xi j):Prop):=by rw[HN.2.2.z (p:=(xd gw m)) hgw2 hgne];exact HCw.out m j hj
   have HN3:=hidO (And.intro HN2.out (And.intro (HN.2.1.set j D) (HN.2.2.trans (Chg.D _ _ j (xi D) rfl))));have kb5:Below W0 W0 (xt wr W0 j (xi D)):=hbi.setCell qr _;clear hn hj he';by_cases hez:e'=0
   .subst hez;exact xJz
   .have hed:e'=D:=by omega
    subst hed;have hez2:(e'==0)=false:=by rw[iC];exact hez
    exact xJz
  .have zm:¬(m:Int)<(js.length:Int):=by omega
   have h1:=HN.1;rw[List.take_of_length_le (by omega),HNS.1]at h1;obtain rfl:=Option.some.inj h1;have HQ:=hidO (And.intro HNS.2 HN.2.1);clear h1;refine zY ?_;exact⟨k+1,_,by omega,by go_num,HQ,hbi⟩):p:=h
variable {cap:Nat}
theorem yNq(hG:yCc l cnt conds)(hE:yDf w b0 off l)(hbl:b0<w.heap.size)(hcap:l.length<=cap/\cap<=maxLen):Calls prog 116 #[.agg #[(xy b0 off l.length cap),.int .i64 cnt]] w (YesP w):=by
 obtain⟨i,hi,hz0,hz1,hz2⟩:=info_parts Tryz.infoInt;have HI:Hid (prog.info? 3=some i/\i.zero=some (.int .i64 0)/\i.size=1/\i.bytes=8):=⟨hi,hz0,hz1,hz2⟩;clear hi hz0 hz1 hz2;obtain⟨p0,p1,-⟩:=id hG;unfold maxLen at hcap;obtain⟨W0,hW0⟩:=qW (w.alloc (AK #[(xy b0 off l.length cap),.int .i64 cnt] 32));have hb0:Below w.heap.size w W0:=by rw[hW0];exact qB
 have B0:yA W0 w.heap.size 32 2 w.heap.size [(xy b0 off l.length cap),.int .i64 cnt]:=by rw[hW0];exact yAa w _ (AC _) rfl
 have HE:Hid (∀wx,Below W0.heap.size W0 wx->yDf wx b0 off l):=λwx hx=>(hE.k hb0 hbl).k hx (qw hb0.size);have HG:=hidO hG;obtain⟨k0,-⟩:=B0.c2;have hwn:IntKind.i64.wrap ((l.length:Int)+1)=(l.length:Int)+1:=by rw[AE];omega
 clear hE hG;go_enter func116,ntmps116;go_upto_region 1 with fail;rw[<-hW0];clear hW0;go_wp2_with (at_make;refine wpList_make_full _ rfl _ _ 259 rfl W0.heap.size 3 i _ 1 underlying259 HI.1 HI.2.1 HI.2.2.1 _ _ _ _ (l.length+1) rfl rfl ?_ ?_ ?hb ?hm ?hs ?_);case hb=>rw[HI.2.2.2];omega
 case hm=>unfold maxLen;omega
 case hs=>exact AC _
 .rfl
 .rfl
 intro w1 hown hgrow;rw[yX]at hown;have HO1:Hid (OwnZ 3 w1 W0 W0 (l.length+1) (AG (l.length+1) 0) .i64):=by unfold Hid OwnZ;rw[List.length_replicate];exact hown
 have hb1:Below W0 W0 w1:=(Below.refl _ _).grown hgrow qr (λk hk=>by cases hk);clear hown hgrow k0;obtain⟨e0,e1⟩:=HO1.z (j:=0) (d:=0) rfl;have HO2:Hid (OwnZ 3 (w1.setCell (xd W0.heap.size 0) (.int .i64 1)) W0.heap.size W0.heap.size (l.length+1) (1::AG l.length 0) .i64):=HO1.set 0 1;have hb2:Below W0.heap.size W0 (w1.setCell ⟨W0.heap.size,0,none⟩ (.int .i64 1)):=hb1.setCell (AC _) _;obtain⟨k0,-⟩:=(B0.k hb1).c2;obtain⟨W2,hW2⟩:=qW (w1.setCell ⟨W0.heap.size,0,none⟩ (.int .i64 1));rw[<-hW2]at HO2 hb2;go_upto_region 3 with fail;rw[<-hW2];clear hW2 e0 e1 k0;obtain⟨k0,-⟩:=(B0.k hb2).c2;go_wp2;go_loopw[21] (λi wr=>∃(k:Nat)(ds:List Int),k<=l.length/\i=.int .i64 k/\Hid (yCz l k=some ds/\OwnZ 3 wr W0.heap.size W0.heap.size (l.length+1) ds .i64)/\Below W0.heap.size W0 wr) (λi _=>l.length-(intOf i).toNat);case atStart=>exact⟨0,_,AF _,rfl,⟨rfl,HO2.out⟩,hb2⟩
 case round=>
  clear k0;obtain⟨k,ds,hk,rfl,HJ,hb⟩:=hrel;obtain⟨k0,-⟩:=(B0.k hb).c2;by_cases hlt:k<l.length
  .have zk:(k:Int)<(l.length:Int):=by omega
   have zk1:(k:Int)<(l.length:Int)+1:=by omega
   obtain⟨x,hx⟩:∃x,l[k]?=some x:=⟨_,AJ hlt⟩;obtain⟨hdl,d,ds',hd,hle,hd1,hd2,hd3,hns,hfl⟩:=xBe HG.out HJ.1 hx;obtain⟨c0,c1,c2,c3,c4,c5,c6,c7,c8,c9,c10⟩:=HE.out wr hb k _ hx;obtain⟨W3,hW3,hb3,B3⟩:=insB x wr;have HO3:=hidO (HJ.2.k hb3);have kw3:=hb.trans (hb3.mono hb.size);obtain⟨e0,e1⟩:=HO3.z hd;have hz:=HJ.2.lt;have hj:=xGz (yCf HG.out hx) hlt;obtain⟨js,hjs⟩:=qE (ways k x);have HWy:Hid (Calls prog 167 #[x.v,.int .i64 k] W3 (yYb js W3)):=by rw[hjs];exact yYn x k W3 (by omega) hj.2.2
   rw[<-hjs]at hj hns;have HJS:=hidO hj;clear hjs hj;rcases(yCf HG.out hx).forms with⟨a,f,e,rfl,-⟩|⟨a,b,rfl,-,-,h3,h4⟩|⟨b,rfl,h3,h4⟩|⟨o,rfl,rfl|rfl|rfl⟩;all_goals dsimp only[yA8,Ix.v]at B3 hW3 HWy c0 c1 c2 c3 c4 c5 c6 c7 c8 c9 c10
   all_goals obtain⟨x0,x1,x2,x3,x4,x5,x6,x7,x8,x9,x10⟩:=B3.c11
   all_goals simp[more,least]at hle hd1 hd3 hns
   all_goals have HNS:=hidO (AA hns hfl)
   all_goals have hwl:IntKind.i64.wrap (d+1)=d+1:=by rw[AE];omega
   all_goals have hwm:IntKind.i64.wrap (d+ -1)=d+ -1:=by rw[AE];omega
   all_goals clear hns hfl hx hd hdl
   all_goals go_upto_region 6 with fail
   all_goals rw[<-hW3]
   all_goals clear hW3 c0 c1 c2 c3 c4 c5 c6 c7 c8 c9 c10 k0
   all_goals go_wp2_with fail
   all_goals refine HWy.mono ?_
   all_goals clear HWy
   iterate 3
    .obtain⟨D,rfl⟩:=qE d;exact zVdF
   .generalize d+1=D at HNS|-;exact zVdF
   .obtain⟨D,rfl⟩:=qE d;exact zVdF
   .generalize d+ -1=D at HNS|-;exact zVdF
  .exact zzT4
def yYc(xs:List Nd)(X:List (List Ix))(M:List Ix):Prop:=(¬yBe xs/\X= []/\M= [])\/(yBe xs/\∃t,yBf xs t/\X=t.V [] false 0/\M=t.gen false 0)
theorem xA7(h:yBe xs):∃t,yBf xs t:=by obtain⟨hl,s,hs,_⟩:=h;exact yUq (ShT.tree goodB hs)
structure CdU(w0 w:Ww)(cv mv:Vv)(cnt:Int)(X:List (List Ix))(M:List Ix)(bs:List Bk):Prop where
 V:Cds w0 w cv X bs
 main:RowX w w0 mv (absG 0 0 M)
 cnt:cnt=(cntL M:Nat)
theorem xIx(w0 w:Ww)(hb:Below w0 w0 w):CdU w0 w xh xh 0 [] [] []:=
 ⟨⟨yU7 _ _,(λx hx=>by cases hx),rfl,hb⟩,yN7 _ _,rfl⟩
theorem xAz(x:Ix)(wx:Ww):(binOp .eql 153 x.v x.v).run prog wx=.ok true wx:=by go_simp
theorem yNp{f:Bool}(hv:v.cells=#[v])(hF:yBe [e])(hA:(cntK e.f/\0<=a/\a<cnt)\/(¬cntK e.f/\a=0))(ho:e.ok):Calls prog 166 #[.agg #[v,xi cnt],(⟨1,a,0,f,e⟩:Ix).v] w (YesP w):=by
 obtain⟨W,hW⟩:=qW (xw w #[v,xi cnt] 32);have hb:=qN hW
 have BB:yA W w 32 2 w [v,xi cnt]:=by rw[hW];exact yAa w _ qr rfl
 obtain⟨W0,hW0,hb0,B0⟩:=insB ⟨1,a,0,f,e⟩ W;have hz:=qS hW
 have k0:=hb.trans (hb0.mono hb.size);obtain⟨W1,hW1⟩:=qW (xw W0 #[xi e.f,e.s,e.hi,e.t,xu e.lo,xu e.up,xi e.n] 83);have hb1:=qN hW1
 have C1:=hidO (yLb (w:=W1) (xs:= [e]) (O:=W0.heap.size) (g:=W0.heap.size) (cp:=1) (by rw[hW1];exact yQb W0 e) (λd hd=>by simp at hd;subst hd;exact ho));have HF:=hidO hF;rw[hW]at hW0;rw[hz]at B0;dsimp only at hW0 B0;obtain⟨c0,c1,c2,c3,c4,c5,c6,c7,c8,c9,c10⟩:=B0.c11;clear hF ho hW hz;go_enter func166,ntmps166;go_upto_region 1 with fail;rw[<-hW0];clear hW0;go_wp2_with fail;rw[<-hW1];clear hW1 c0 c1 c2 c3 c4 c5 c6 c7 c8 c9 c10;refine C1.out.mono ?_;rintro r w2 ⟨r2,rfl,hr,hb2⟩;obtain rfl:r2=true:=hr.2 HF.out;have k2:=hb1.trans (hb2.mono hb1.size);obtain⟨c0,c1,c2,c3,c4,c5,c6,c7,c8,c9,c10⟩:=(B0.k k2).c11;clear C1 hr;go_wp2_with fail;refine(yLc e.f _).mono ?_;rintro r w3 ⟨q,rfl,hq,hb3⟩;have k3:=k2.trans (hb3.mono k2.size);have HE:=hidO (k0.trans (k3.mono k0.size));have b1:=((BB.k hb0).k k3).z (j:=1) rfl;exact zzT2
theorem yPs{k:Nat}(h:yDf w b0 off l)(hlt:b0<w.heap.size)(hc:l.length<=cap/\cap<=maxLen)(hy:l[k]?=some y)(hG:yR5 y k l.length cnt conds)(ho:y.ok):Calls prog 115 #[.agg #[(xy b0 off l.length cap),xi cnt],xi k,xi conds] w (YesP w):=by
 have hkl:=qf hy;have zk:(k:Int)<(l.length:Int):=qo
 unfold maxLen at hc;obtain⟨W0,hW0⟩:=qE (xw w #[(xy b0 off l.length cap),xi cnt] 32:Ww);have hb0:=qN hW0
 have B0:yA W0 w 32 2 w [(xy b0 off l.length cap),xi cnt]:=by rw[hW0];exact yAa w _ qr rfl
 obtain⟨c0,c1,c2,c3,c4,c5,c6,c7,c8,c9,c10⟩:=(h.k hb0 hlt) k _ hy;obtain⟨W1,hW1,hb1,B1⟩:=insB y W0;have k1:=hb0.trans (hb1.mono hb0.size);obtain⟨m0,m1⟩:=B0.c2;obtain⟨n0,n1⟩:=(B0.k hb1).c2;have hq:=xAz y;have hol:=ho.leaf;go_enter func115,ntmps115;go_upto_region 1 with fail;rw[<-hW0];clear hW0 h hy ho;rcases hG.forms with⟨a,f,e,rfl,hF,hA⟩|⟨a,b,rfl,h1,h2,h3,h4⟩|⟨b,rfl,h3,h4⟩|⟨o,rfl,rfl|rfl|rfl⟩;all_goals dsimp only[yA8,Ix.v]at B1 hW1 c0 c1 c2 c3 c4 c5 c6 c7 c8 c9 c10 hq
 all_goals obtain⟨x0,x1,x2,x3,x4,x5,x6,x7,x8,x9,x10⟩:=B1.c11
 all_goals clear hG
 all_goals go_upto_region 2 with fail
 all_goals rw[<-hW1]
 all_goals clear hW1 m0 m1 c0 c1 c2 c3 c4 c5 c6 c7 c8 c9 c10
 .have C1:=hidO (yNp (f:=f) (w:=W1) (v:=(xy b0 off l.length cap)) (cnt:=cnt) rfl hF hA hol);clear hF hA hol;go_wp2_with fail;refine C1.out.mono ?_;rintro r w2 ⟨rfl,hb2⟩;have HE:=hidO (k1.trans (hb2.mono k1.size));go_wp2_with fail;go_ret;exact⟨rfl,HE.out⟩
 all_goals go_wp2_with fail
 all_goals go_ret
 .exact⟨by simp[h2],k1⟩
 all_goals exact⟨rfl,k1⟩
theorem yPr{x:Bk}(hG:yCc x.l x.cnt conds)(h:yDw w x.v x.l)(ho:x.ok)(hcd:conds<=1000):Calls prog 52 #[x.val,xi conds] w (YesP w):=by
 obtain⟨v,cnt,l⟩:=x;obtain⟨p0,p1,p2,p3,-⟩:=id hG;obtain⟨b0,off,cap,rfl,hE,hbl,hcap⟩:∃b0 off cap,v=(xy b0 off l.length cap)/\yDf w b0 off l/\b0<w.heap.size/\(l.length<=cap/\cap<=maxLen):=by
  exact xJs
 simp only at p0 p1 p2 p3 hG;obtain⟨W0,hW0⟩:=qW (xw w #[(xy b0 off l.length cap),xi cnt] 32);have hb0:=qN hW0
 have B0:yA W0 w 32 2 w [(xy b0 off l.length cap),xi cnt]:=by rw[hW0];exact yAa w _ qr rfl
 have HE:Hid (∀wx,Below W0 W0 wx->yDf wx b0 off l/\b0<wx.heap.size):=λwx hx=>⟨(hE.k hb0 hbl).k hx (qw hb0.size),qv hb0.size hx.size⟩;have HG:=hidO (AA hG (AA hcap ho.ins));obtain⟨k0,k1⟩:=B0.c2;have z0:¬(l.length:Int)<1:=qo
 have z1:¬(4000:Int)<(l.length:Int):=qo
 have z2:¬cnt<0:=qo
 have z3:¬200<cnt:=qo
 clear h ho hE hG hcap;go_enter func52,ntmps52;go_upto_region 1 with fail;rw[<-hW0];clear hW0;go_wp2;go_loopw[29] (λi wr=>∃(k:Nat),k<=l.length/\i=(xi k)/\Below W0 W0 wr) (λi _=>l.length-(intOf i).toNat);case atStart=>exact⟨0,AF _,rfl,Below.refl _ _⟩
 case round=>
  obtain⟨k,hk,rfl,hb⟩:=hrel;clear k0 k1;obtain⟨k0,k1⟩:=(B0.k hb).c2;obtain⟨hI,hI2⟩:=HE.out wr hb;by_cases hlt:k<l.length
  .obtain⟨y,hy⟩:∃y,l[k]?=some y:=qg hlt;have zk:(k:Int)<(l.length:Int):=qo
   have C1:=hidO (yPs hI hI2 HG.2.1 hy (yCf HG.1 hy) (HG.2.2 y (AB hy)));clear hy hI;go_wp2_with fail;refine C1.out.mono ?_;rintro r w3 ⟨rfl,hb3⟩;have kb3:=hb.trans (hb3.mono hb.size);clear C1 k0 k1;exact zzT5
  .have zk:¬(k:Int)<(l.length:Int):=qo
   have C1:=hidO (yNq HG.1 hI hI2 HG.2.1);clear hI;go_wp2_with fail;refine C1.out.mono ?_;rintro r w3 ⟨rfl,hb3⟩;have HB:=hidO (hb0.trans ((hb.trans (hb3.mono hb.size)).mono hb0.size));go_wp2_with fail;go_ret;exact⟨rfl,HB.out⟩
theorem xCu(h:yDw w v []):(xf 52 #[.agg #[v,xi cnt],xi conds] w false:Prop):=by obtain⟨a,n,c,rfl,hn⟩:=h.one;obtain rfl:n=0:=hn;have hb0:Below w w (xw w #[.slice a 0 c,xi cnt] 32):=qB;clear h;go_enter func52,ntmps52;go_wp2;go_ret;exact⟨rfl,hb0⟩
def xGf(bs:List Bk)(m:Bk):Prop:=yEk bs m\/bs= []/\m.l= []
theorem yH{m:Bk}(hG:xGf bs m)(h:yIr w u bs)(hok:∀x∈bs,x.ok)(hm:yDw w m.v m.l)(hmo:m.ok):Calls prog 14 #[.agg #[u,m.v,xi m.cnt]] w (yUi (yEk bs m) w):=by
 have p0:bs.length<=200:=by
  rcases hG with q|⟨rfl,_⟩
  .exact q.1
  .simp
 have HGb:Hid (∀k x,bs[k]?=some x->yCc x.l x.cnt k/\x.ok):=λk x hx=>by
  rcases hG with q|⟨rfl,_⟩
  .exact⟨q.2.2 k x hx,hok x (AB hx)⟩
  .simp at hx
 obtain⟨ua,cap,rfl⟩:∃ua cap,u=.slice ua bs.length cap:=by
  exact xJk
 have hu2:=hm.cells;obtain⟨W0,hW0⟩:=qW (xw w #[.slice ua bs.length cap,m.v,xi m.cnt] 34);have hb0:=qN hW0
 have B0:yA W0 w 34 3 w [.slice ua bs.length cap,m.v,xi m.cnt]:=by rw[hW0];exact yAa w _ qr rfl
 have HI:Hid (∀wx,Below W0 W0 wx->yIr wx (.slice ua bs.length cap) bs):=λwx hx=>(h.k hb0).k hx;have HM:Hid (∀wx,Below W0 W0 wx->Calls prog 52 #[.agg #[m.v,xi m.cnt],xi bs.length] wx (yUi (yEk bs m) wx)):=λwx hx=>by
  have hI:=(hm.k hb0 qr).k hx qr;rcases hG with q|⟨rfl,hl⟩
  .exact(yPr q.2.1 hI hmo qo).mono λr w' k=>⟨true,k.1,by simp[q],k.2⟩
  .rw[hl]at hI;exact(xCu hI).mono λr w' k=>⟨false,k.1,by simp[yEk,yCc,hl],k.2⟩
 obtain⟨k0,k1,k2⟩:=B0.c3;have z0:¬(200:Int)<(bs.length:Int):=qo
 clear h hok hm hmo hG;go_enter func14,ntmps14;go_upto_region 1 with fail;rw[<-hW0];clear hW0;go_wp2_with fail;clear k0 k1 k2;go_loopw[12] (λi wr=>∃(k:Nat),k<=bs.length/\i=(xi k)/\Below W0 W0 wr) (λi _=>bs.length-(intOf i).toNat);case atStart=>exact⟨0,AF _,rfl,Below.refl _ _⟩
 case round=>
  obtain⟨k,hk,rfl,hb⟩:=hrel;obtain⟨k0,k1,k2⟩:=(B0.k hb).c3;by_cases hlt:k<bs.length
  .obtain⟨x,hx⟩:∃x,bs[k]?=some x:=qg hlt;have zk:(k:Int)<(bs.length:Int):=qo
   obtain⟨b0,off,rfl,c0,c1,hX⟩:∃b0 off,ua=some ⟨b0,off,none⟩/\xk wr b0 (off+k*2) x.v/\xk wr b0 (off+k*2+1) (xi x.cnt)/\yDw wr x.v x.l:=by
    rcases HI.out wr hb with⟨a,cap',hq,hl⟩|⟨b,off,cap',hq,hE,_⟩
    .subst hl;simp at hlt
    .cases hq
     obtain⟨c0,c1,c2⟩:=hE k x hx;exact⟨b,off,rfl,c0,c1,c2⟩
   obtain⟨hg,ho⟩:=HGb.out k x hx;obtain⟨xv,xcnt,xl⟩:=x;obtain⟨xa,xn,xc,hxv,hxn⟩:=hX.one;simp only at hxv hxn c0 c1 hX;subst hxn;subst hxv;obtain⟨W1,hW1⟩:=qW (xw wr #[.slice xa xl.length xc,xi xcnt] 32);have hb1:=qN hW1
   have B1:yA W1 wr 32 2 wr [.slice xa xl.length xc,xi xcnt]:=by rw[hW1];exact yAa wr _ qr rfl
   obtain⟨n0,n1⟩:=B1.c2;have C1:=hidO (yPr (w:=W1) hg (hX.k hb1 qr) ho qo);have kb1:=hb.trans (hb1.mono hb.size);clear hX hx hg ho;go_upto_region 6 with fail;rw[<-hW1];clear hW1 c0 c1 k0 k1 k2;go_wp2_with fail;refine C1.out.mono ?_;rintro r w3 ⟨rfl,hb3⟩;have kb3:=kb1.trans (hb3.mono kb1.size);clear C1 n0 n1;exact zzT5
  .have zk:¬(k:Int)<(bs.length:Int):=qo
   have C1:=hidO (HM.out wr hb);go_wp2_with fail;refine C1.out.mono ?_;rintro r w3 ⟨q,rfl,hq,hb3⟩;have HB:=hidO (AA hq (hb0.trans ((hb.trans (hb3.mono hb.size)).mono hb0.size)));clear hq;go_wp2_with fail;go_ret;exact⟨q,rfl,HB.out⟩
theorem OwnC.put(h:OwnC w O g cap es)(k:Nat)(f e:Ent)(hk:es[k]?=some f):
  OwnC (xt ((((w.setCell (xd g (k*5)) e.j).setCell (xd g (k*5+1)) e.E).setCell (xd g (k*5+2)) e.C).setCell (xd g (k*5+3)) (xu e.ts)) g (k*5+4) e.val) O g cap (es.set k e):=by have h1:=OwnG.setAll (f:=Ent.five) (λ_=>rfl) h (e:=e) (qf hk);simp only[setCs,AN,Nat.add_assoc,Nat.reduceAdd]at h1;exact h1
theorem yNc(h:yBe xs):∃y,yLx xs y/\y≠ []/\y.length<=200/\∀x∈y,x∈xs:=by obtain⟨hl,s,hs,_⟩:=h;obtain⟨y,hy⟩:=xD0 (ShT.tree goodB hs);obtain⟨h1,h2⟩:=yJ7 _ qr hy;exact⟨y,hy,xFn hy,qo,h1⟩
end Go.Proofs.YtnnagkfoiganfaaGreatDoor
