import Derived.Test.YtnnagkfoiganfaaGreatDoorRkAF
import Derived.Test.YtnnagkfoiganfaaGreatDoorRkAG
namespace Go.Proofs.YtnnagkfoiganfaaGreatDoor
open Go.ChangeShapes Go.WideShapes Go.ChangeAt Go.RowKit Go.Deep XD XI XU XG XP XK XW XT XF XE XH _root_.List _root_.Nat Go.Proofs.Tryz
set_option linter.unusedVariables false
set_option linter.unusedSimpArgs false
set_option maxRecDepth 100000
set_option maxHeartbeats 40000000
theorem yBc(c:UInt8) w:Calls prog 208 #[.int .u8 (c.toNat:Int)] w λe w'=>e=.returned (decide (yB3 c))/\w'=w:=by
 by_cases h42:c=42
 .subst h42;exact yK1
 by_cases h43:c=43
 .subst h43;exact yK1
 by_cases h63:c=63
 .subst h63;exact yK1
 by_cases h124:c=124
 .subst h124;exact yK1
 by_cases h40:c=40
 .subst h40;exact yK1
 by_cases h41:c=41
 .subst h41;exact yK1
 by_cases h91:c=91
 .subst h91;exact yK1
 by_cases h93:c=93
 .subst h93;exact yK1
 by_cases h46:c=46
 .subst h46;exact yK1
 by_cases h92:c=92
 .subst h92;exact yK1
 have a6:((c.toNat:Int)==42)=false:=beq_eq_false_iff_ne.2 (yA8 (c:=42) h42);have a5:((c.toNat:Int)==43)=false:=beq_eq_false_iff_ne.2 (yA8 (c:=43) h43);have a3:((c.toNat:Int)==63)=false:=beq_eq_false_iff_ne.2 (yA8 (c:=63) h63);have a9:((c.toNat:Int)==124)=false:=beq_eq_false_iff_ne.2 (yA8 (c:=124) h124);have a8:((c.toNat:Int)==40)=false:=beq_eq_false_iff_ne.2 (yA8 (c:=40) h40);have a7:((c.toNat:Int)==41)=false:=beq_eq_false_iff_ne.2 (yA8 (c:=41) h41);have a2:((c.toNat:Int)==91)=false:=beq_eq_false_iff_ne.2 (yA8 (c:=91) h91);have a0:((c.toNat:Int)==93)=false:=beq_eq_false_iff_ne.2 (yA8 (c:=93) h93);have a4:((c.toNat:Int)==46)=false:=beq_eq_false_iff_ne.2 (yA8 (c:=46) h46);have a1:((c.toNat:Int)==92)=false:=beq_eq_false_iff_ne.2 (yA8 (c:=92) h92);have H:Hid (decide (yB3 c)=false):=decide_eq_false (λq=>by rcases q with((q|q|q)|q|q|q)|q|q|q|q<;>contradiction);go_enter func208,ntmps208;go_wp2;go_ret;exact⟨by rw[H.out];rfl,rfl⟩
def yEy(w:World)(base g cp:Nat)(us:List Value):Prop:=w.ownsRow base 9 1 (xg g us.length cp) us.length us
variable {w:World} {base cp:Nat} {us:List Value}
theorem yEy.lt{g:Nat}(h:yEy w base g cp us):base<=g/\g<w.heap.size:=World.ownsRow.lt h g rfl
variable {w':World}
theorem yEy.below{g:Nat}(h:yEy w base g cp us)(hb:Below w w w'):yEy w' base g cp us:=yAh h (Chg.of_below hb) (S:=λ_=>False) (λk q z=>z)
theorem yL6(w:World)(hb:base<=w.heap.size):yEy (xw w #[] 9) base w 0 []:=
 World.ownsRow_made w #[] 0 hb (zero_le _) (by simp)
theorem Tryz.infoStr:(prog.info? 9).map (λi=>(i.zero,i.size,i.bytes))=some (some (.string ⟨#[]⟩),1,16):=qk
theorem yBz{ops:Array Oper}{rest:List Oper}{oo:Oper}{a:Act}{Q:Exit->Act->World->Prop}(w:World)(hgd:oo.guard=none) s x
  (ho:oo.op=.call {callee:=.builtin .append,args:=#[s,x],argTypes:=#[275,275]})
  (base gq cp n b:Nat) (us:List Value) (y:Value) (hs:a.eval s=(xg gq n cp)) (hx:a.eval x=.slice (some ⟨b,0,none⟩) 1 1) (hn:n=us.length) (hO:yEy w base gq cp us)
  (hc:w.cell? (xd b 0)=some y) (hy:y.oneCell'=true) (hlen:us.length<=1000) (hbase:base<=w.heap.size)
  (h:∀g' cp' w',yEy w' base g' cp' (us++ [y])->w.grownBy w' (some gq)->(g'=gq\/g'=w.heap.size)->wpList prog ops Q rest (a.put oo.dst (.slice (some ⟨g',0,none⟩) (n+1) cp')) w'):wpList prog ops Q (oo::rest) a w:=by
 subst hn;obtain⟨i,hi,a4,a3,a2⟩:=info_parts Tryz.infoStr;refine wpList_append_own_at w hgd s x 275 ho base 9 i _ 1 16 underlying275 hi a4 a3 a2 rfl qj (xg gq us.length cp) us.length us hs hO (xd b 0) 1 1 [y] hx rfl ?_ ?_ ?_ ?_ hbase ?_
 .exact xAp
 .intro u hu;simp at hu;subst hu;exact hy
 .unfold maxLen;omega
 .omega
 .intro v' w' a1 a6 a5 a0;rcases a1.2 with⟨h0,_⟩|⟨g',a7,cur,hv,_,_,hn,a8,_,_⟩
  .have:=(a5.1 h0).1;cases this
  .subst hv;refine h g' a7 w' ?_ a6 ?_
   .unfold yEy;rw[length_append];exact a1
   .simp[Value.ownBlock]at a0;exact a0
variable {k:Nat}
theorem yRv{A:List UInt8->Pat->Prop}{xs:List UInt8}(h:TokN A k xs):k<=xs.length:=by
 induction h with
 |nil=>exact Nat.le_refl _
 |bar _ ih=>simpa using ih
 |op _ _ ih=>simp;omega
 |atom _ _ ih=>simp;omega
structure PaJ(p:ByteArray)(n k:Nat)(w:World)(j m g cp:Nat)(us:List Value)(wr:World):Prop where
 tok:TokN (yAm n) m (cut (sb p) j p.size)
 cnt:us.length+m=k
 own:yEy wr w g cp us
 below:Below w w wr
variable {n j m:Nat} {wr:World}
theorem PaJ.move{p:ByteArray}{g:Nat}(h:PaJ p n k w j m g cp us wr)(hb:Below wr wr w'){j' m':Nat}(ht:TokN (yAm n) m' (cut (sb p) j' p.size))(hm:m=m'):PaJ p n k w j' m' g cp us w':=
 ⟨ht,by rw[<-hm];exact h.cnt,h.own.below hb,h.below.trans (hb.mono h.below.size)⟩
theorem yQ{p:ByteArray}(hp:p.size<=200)(h:TokN (yAm n) k (cut (sb p) 0 p.size))(w:World):Calls prog 206 #[p] w λe w'=>∃g cp,e=.returned (xg g (k+1) cp)/\Below w w w':=by
 have az:k<=200:=by have h1:=yRv h;rw[yAw (by rw[yAe];exact Nat.le_refl _)]at h1;omega
 have ai:p.size<=(sb p).length:=by rw[yAe];exact Nat.le_refl _
 have a8:=qH1 ai;obtain⟨W0,ac⟩:=qW (xw w #[] 9);have al:Hid (PaJ p n k w 0 k w 0 [] W0):=by rw[ac];exact⟨h,by simp,yL6 w qr,qB⟩
 clear h ai;go_enter func206,ntmps206;go_upto_region 2 with fail;rw[<-ac];clear ac;go_wp2;go_loopw[3,4,5] (λo fv jv wr=>∃(j f m g cp:Nat)(us:List Value),jv=(xi j)/\fv=(xi f)/\f<=j/\j<=p.size/\us.length<=k/\o=(xg g us.length cp)/\PaJ p n k w j m g cp us wr) (λ_ _ jv _=>p.size-(intOf jv).toNat);case atStart=>exact⟨0,0,k,_,0,[],rfl,rfl,Nat.le_refl _,zero_le _,zero_le _,rfl,al.out⟩
 case round=>
  obtain⟨j,f,m,g,cp,us,rfl,rfl,aF,aB,ag,rfl,hJ⟩:=hrel;have HJ:=qH1 hJ;have aE:=hJ.own.lt;have ah:=hJ.below.size;clear hJ al;have z1:(f:Int)<=(j:Int):=qo
  have z2:(j:Int)<=(p.size:Int):=qo
  by_cases hlt:j<p.size
  .have zj:(j:Int)<(p.size:Int):=qo
   rcases yI9 HJ.tok with⟨h0,_⟩|⟨m',zs,h0,hm,hT⟩|⟨c,zs,h0,a6,hT⟩|⟨ys,zs,t,h0,hA,hT⟩
   .have h3:=yAw (p:=sb p) (i:=j) a8.out;rw[h0]at h3;simp at h3;omega
   .obtain⟨a0,a4,_⟩:=yCl h0 a8.out;obtain⟨_,gj⟩:=yAr a0;have HT:=qH2 (by rw[a4];exact hT:TokN (yAm n) m' (cut (sb p) (j+1) p.size)) hm;clear h0 hT hm a0 a4;go_wp2_with (at_builtin;refine yBz _ rfl _ _ rfl w g cp us.length wr us (p.extract f j) rfl rfl rfl ?hO ?hc ?hy ?hl ?hb ?_);case hO=>exact HJ.own.below (qB)
    case hc=>simp
    case hy=>rfl
    case hl=>omega
    case hb=>simp;omega
    intro g' a5 w' a7 a3 ab;have am:Hid (∃y,PaJ p n k w (j+1) m' g' a5 (us++ [y]) w'/\us.length+1<=k):=by refine⟨_,⟨HT.1,by have:=HJ.cnt;have:=HT.2;simp;omega,a7,?_⟩,qv HJ.cnt HT.2⟩;exact(HJ.below.trans ((Below.refl _ _).alloc ah _)).grown a3 (by simp;omega) (λj hj=>by cases hj;omega)
    clear a7 a3 ab;obtain⟨y,ak,aA⟩:=am.out;have aw:Hid (PaJ p n k w (j+1) m' g' a5 (us++ [y]) w'):=ak;clear ak am;refine zY ?_;exact⟨j+1,j+1,m',g',a5,us++ [y],by go_num,by go_num,Nat.le_refl _,qo,by simp;omega,by simp,aw.out⟩
   .obtain⟨a0,a4,_⟩:=yCl h0 a8.out;obtain⟨_,gj⟩:=yAr a0;have HT:Hid (TokN (yAm n) m (cut (sb p) (j+1) p.size)):=by show TokN (yAm n) m (cut (sb p) (j+1) p.size);rw[a4];exact hT
    have an:((c.toNat:Int)==124)=false:=beq_eq_false_iff_ne.2 (yA8 (c:=124) (λq=>by subst q;exact absurd a6 qj));have ad:Hid (Calls prog 142 #[.int .u8 (c.toNat:Int)] wr λe w'=>e=.returned true/\w'=wr):=by have:=yBi c wr;rw[decide_eq_true a6]at this;exact this
    clear h0 hT a0 a4 a6;go_wp2_with fail;refine ad.mono ?_;rintro e' w5 ⟨rfl,a2⟩;rw[a2];clear a2;refine zY ?_;exact⟨j+1,f,m,g,cp,us,by go_num,rfl,qo,qo,ag,rfl,HJ.move (Below.refl _ _) HT.out rfl⟩
   .obtain⟨a9,hy2,ar⟩:=yTt h0 a8.out;obtain⟨c,yt,a1,ao,af,ae⟩:=hA.first;have aq:0<ys.length:=by rw[a1];simp
    have au:j+ys.length<=p.size:=qo
    obtain⟨a0,_,_⟩:=yCl (c:=c) (zs:=yt) (by rw[a9];exact a1) (by rw[yAe];omega);obtain⟨_,gj⟩:=yAr a0;have an:((c.toNat:Int)==124)=false:=beq_eq_false_iff_ne.2 (yA8 (c:=124) af);have ad:Hid (Calls prog 142 #[.int .u8 (c.toNat:Int)] wr λe w'=>e=.returned false/\w'=wr):=by have:=yBi c wr;rw[decide_eq_false ae]at this;exact this
    obtain⟨i2,aa⟩:=qE (j+ys.length);have HT:Hid (TokN (yAm n) m (cut (sb p) i2 p.size)):=by show TokN (yAm n) m (cut (sb p) i2 p.size);rw[aa,hy2];exact hT
    have ax:Hid ((xf 207 #[p,xi j] wr (xi i2):Prop)):=by rw[aa];exact yKf hp n j (j+ys.length) t wr (by rw[a9];exact hA) qo
    have aD:j<i2:=qo
    have aC:i2<=p.size:=qo
    clear h0 hT hA a9 hy2 ar a1 a0 ao af ae aa aq au;go_wp2_with fail;refine ad.mono ?_;rintro e' w5 ⟨rfl,a2⟩;rw[a2];clear a2;go_wp2_with fail;refine ax.mono ?_;rintro e' w6 ⟨rfl,aj⟩;have av:=qH1 (HJ.move aj HT.out rfl);clear aj;refine zY ?_;exact⟨i2,f,m,g,cp,us,rfl,rfl,qo,qo,ag,rfl,av.out⟩
  .have zj:¬(j:Int)<(p.size:Int):=qo
   obtain rfl:j=p.size:=qo
   have ay:m=0:=by
    rcases yI9 HJ.tok with⟨_,h0⟩|⟨m',zs,h0,hm,hT⟩|⟨c,zs,h0,a6,hT⟩|⟨ys,zs,t,h0,hA,hT⟩
    .exact h0
    .rw[yDe]at h0;cases h0
    .rw[yDe]at h0;cases h0
    .rw[yDe]at h0;obtain⟨c,yt,a1,_⟩:=hA.first;rw[a1]at h0;cases h0
   have HM:Hid (us.length=k):=by have:=HJ.cnt;show us.length=k;omega
   go_wp2_with (at_builtin;refine yBz _ rfl _ _ rfl w g cp us.length wr us (p.extract f p.size) rfl rfl rfl ?hO ?hc ?hy ?hl ?hb ?_);case hO=>exact HJ.own.below (qB)
   case hy=>rfl
   case hl=>omega
   case hb=>first|omega|(simp;omega)
   intro g' a5 w' a7 a3 ab;have HB:=qH1 ((HJ.below.trans ((Below.refl _ _).alloc ah _)).grown a3 (by simp;omega) (λj hj=>by cases hj;omega));clear a7 a3 ab;go_wp2;go_ret;refine⟨g',a5,?_,HB.out⟩;rw[<-HM.out];first|rfl|trace_state
variable {f:Nat}
theorem yB0(p:ByteArray)(hj:j<=p.size):sb (p.extract f j)=cut (sb p) f j:=by unfold sb cut;simp[ByteArray.data_extract,extract_eq_take_drop]
structure PaS(n:Nat)(p:List UInt8)(os:List (List Pat))(j f i:Nat)(r:List UInt8):Prop where
 ri:r=cut p j (j+r.length)
 rl:j+r.length<=p.length
 fj:f<=j
 tok:TokN (yAm n) 0 r
 cur:∃ts,os[i]?=some ts/\SeqG (yAm n) ts (cut p f (j+r.length))
 rest:(j+r.length=p.length/\i+1=os.length)\/(p[j+r.length]?=some 124/\AltG (yAm n) (os.drop (i+1)) (cut p (j+r.length+1) p.length))
variable {os:List (List Pat)} {i:Nat}
theorem yUz{p:List UInt8}(hj:j<=p.length)(h:AltG (yAm n) (os.drop i) (cut p j p.length)):∃r,PaS n p os j j i r:=by
 rcases hd:os.drop i with _|⟨ts,_|⟨o,a0⟩⟩
 .rw[hd]at h;exact h.elim
 .rw[hd]at h;have hl:=yAw (p:=p) (i:=j) (k:=p.length) qr;have a1:i+1=os.length:=by have:=congrArg List.length hd;simp at this;omega
  have h0:os[i]?=some ts:=by have:=congrArg (λl=>l[0]?) hd;simpa using this
  refine⟨cut p j p.length,?_,by omega,Nat.le_refl _,SeqG.tokn h,⟨ts,h0,?_⟩,.inl ⟨by omega,a1⟩⟩
  .rw[hl,show j+(p.length-j)=p.length by omega]
  .rw[hl,show j+(p.length-j)=p.length by omega];exact h
 .rw[hd]at h;obtain⟨ys,zs,h1,h2,h3⟩:=h;obtain⟨k1,k2,k3⟩:=yQ4 h1 qr hj;obtain⟨g1,g2,g3⟩:=yHo k2 qr;have h0:os[i]?=some ts:=by have:=congrArg (λl=>l[0]?) hd;simpa using this
  have a2:os.drop (i+1)=o::a0:=by have:=congrArg List.tail hd;simpa using this
  exact⟨ys,k1.symm,k3,Nat.le_refl _,SeqG.tokn h2,⟨ts,h0,by rw[k1];exact h2⟩,.inr ⟨g1,by rw[a2,g2];exact h3⟩⟩
theorem PaS.next{p:List UInt8}{x r:List UInt8}(h:PaS n p os j f i (x++r))(ht:TokN (yAm n) 0 r):PaS n p os (j+x.length) f i r:=by
 have hl:j+x.length+r.length=j+(x++r).length:=by simp;omega
 have a1:=h.ri;have a0:=h.rl;rw[<-hl]at a1 a0;obtain⟨_,k2,_⟩:=yQ4 a1.symm a0 qo;refine⟨?_,a0,by have:=h.fj;omega,ht,?_,?_⟩
 .exact k2.symm
 .rw[hl];exact h.cur
 .rw[hl];exact h.rest
def yRj(n:Nat)(os:List (List Pat))(us:List Value)(m:Nat):Prop:=∀(t:Nat)(u:Value),us[t]?=some u->∃s ts,u=.string s/\os[t]?=some ts/\SeqG (yAm n) ts (sb s)/\s.size<=m
variable {s:ByteArray} {ts:List Pat}
theorem yRj.snoc(h:yRj n os us m)(ho:os[us.length]?=some ts)(hs:SeqG (yAm n) ts (sb s))(hm:s.size<=m):yRj n os (us++ [.string s]) m:=by
 intro t u hu;rcases Nat.lt_or_ge t us.length with q|q
 .rw[getElem?_append_left q]at hu;exact h t u hu
 .have ht:t=us.length:=by have:=qf hu;simp at this;omega
  subst ht;simp at hu;subst hu;exact⟨s,ts,rfl,ho,hs,hm⟩
structure PaK(p:ByteArray)(n:Nat)(os:List (List Pat))(w:World)(j f g cp:Nat)(us:List Value)(wr:World):Prop where
 st:∃r,PaS n (sb p) os j f us.length r
 strs:yRj n os us p.size
 own:yEy wr w g cp us
 below:Below w w wr
variable {p:ByteArray}
theorem PaK.move{g:Nat}(h:PaK p n os w j f g cp us wr)(hb:Below wr wr w'){j':Nat}(hs:∃r,PaS n (sb p) os j' f us.length r):PaK p n os w j' f g cp us w':=
 ⟨hs,h.strs,h.own.below hb,h.below.trans (hb.mono h.below.size)⟩
def PrtP(n:Nat)(os:List (List Pat))(m:Nat)(w:World)(e:Ending)(w':World):Prop:=∃g cp us,e=.returned (xg g os.length cp)/\us.length=os.length/\Hid (yEy w' w g cp us/\yRj n os us m)/\Below w w w'
theorem yP9(hp:p.size<=200)(h:AltG (yAm n) os (sb p)) w:Calls prog 206 #[p] w (PrtP n os p.size w):=by
 have a5:=(yAe p).symm;have au:cut (sb p) 0 p.size=sb p:=by show(List.drop 0 (sb p)).take (p.size-0)=sb p;rw[drop_zero,Nat.sub_zero,take_of_length_le (Nat.le_of_eq a5.symm)]
 have aF:os.length<=201:=by obtain⟨k,h1,h2⟩:=h.tokn;have:=yRv h2;rw[<-a5]at this;omega
 have a3:=qH1 a5;obtain⟨W0,ai⟩:=qE (xw w #[] 9:World);have ax:Hid (PaK p n os w 0 0 w 0 [] W0):=by rw[ai];refine⟨yUz (zero_le _) ?_,λt u hu=>by simp at hu,yL6 w qr,qB⟩;rw[<-a5,au];exact h
 clear h a5 au;go_enter func206,ntmps206;go_upto_region 2 with fail;rw[<-ai];clear ai;go_wp2_with fail;go_loopw[3,4,5] (λo fv jv wr=>∃(j f g cp m:Nat)(us:List Value),jv=(xi j)/\fv=(xi f)/\f<=j/\j<=p.size/\m<=201/\o=(xg g m cp)/\Hid (PaK p n os w j f g cp us wr/\m=us.length)) (λ_ _ jv _=>p.size-(intOf jv).toNat);case atStart=>exact⟨0,0,_,0,0,[],rfl,rfl,Nat.le_refl _,zero_le _,zero_le _,rfl,ax.out,rfl⟩
 case round=>
  obtain⟨j,f,g,cp,m,us,rfl,rfl,aJ,af,ao,rfl,HJ⟩:=hrel;have aI:=HJ.1.own.lt;have am:=HJ.1.below.size;clear ax;have z1:(f:Int)<=(j:Int):=qo
  have z2:(j:Int)<=(p.size:Int):=qo
  obtain⟨r,hS⟩:=HJ.1.st;have HP:=qH1 hS;clear hS;by_cases hlt:j<p.size
  .have zj:(j:Int)<(p.size:Int):=qo
   rcases yI9 HP.tok with⟨h0,_⟩|⟨m',zs,h0,hm,hT⟩|⟨c,zs,h0,ae,hT⟩|⟨ys,zs,t,h0,hA,hT⟩
   .have ad:(sb p)[j]?=some 124/\AltG (yAm n) (os.drop (us.length+1)) (cut (sb p) (j+1) (sb p).length):=by
     rcases HP.rest with⟨q,_⟩|q
     .rw[h0]at q;simp at q;have:=a3.out;omega
     .rw[h0]at q;simpa using q
    obtain⟨ts,a2,a1⟩:=HP.cur;rw[h0]at a1;simp only[length_nil,Nat.add_zero]at a1;obtain⟨_,gj⟩:=yAr ad.1;have HT:Hid (AltG (yAm n) (os.drop (us.length+1)) (cut (sb p) (j+1) (sb p).length)/\os[us.length]?=some ts/\SeqG (yAm n) ts (sb (p.extract f j))/\us.length+1<=os.length):=by refine⟨ad.2,a2,by rw[yB0 p af];exact a1,qf a2⟩
    have HM:=qH1 HJ.2;clear h0 ad a2 a1;go_wp2_with (at_builtin;refine yBz _ rfl _ _ rfl w g cp m wr us (p.extract f j) rfl rfl HM.out ?hO ?hc ?hy ?hl ?hb ?_);case hO=>exact HJ.1.own.below (qB)
    case hy=>rfl
    case hl=>rw[<-HM.out];omega
    case hb=>first|omega|(simp;omega)
    intro g' a9 w' a8 a7 ah;have aD:Hid (PaK p n os w (j+1) (j+1) g' a9 (us++ [.string (p.extract f j)]) w'/\m+1=(us++ [Value.string (p.extract f j)]).length):=by
     refine⟨⟨?_,HJ.1.strs.snoc HT.2.1 HT.2.2.1 (by rw[<-yAe,yB0 p af,yAw (by rw[yAe];exact af)];omega),a8,?_⟩,by rw[HM.out];simp⟩
     .rw[length_append,length_singleton];exact yUz (by have:=a3.out;omega) HT.1
     .exact(HJ.1.below.trans ((Below.refl _ _).alloc am _)).grown a7 (by simp;omega) (λj hj=>by cases hj;omega)
    have aB:m+1<=201:=by have h1:=HT.2.2.2;have h2:=HM.out;omega
    clear a8 a7 ah;go_wp2_with fail;go_roundw;case rel=>exact⟨j+1,j+1,g',a9,m+1,us++ [.string (p.extract f j)],by go_num,by go_num,Nat.le_refl _,qo,aB,by first|rfl|go_num,aD⟩
    case measure=>simp[intOf];omega
   .omega
   .have a0:=HP.out;rw[h0]at a0;have av:cut (sb p) j (j+(c::zs).length)=c::zs:=a0.ri.symm;obtain⟨a6,_,_⟩:=yHo av (by have:=a0.rl;exact this);obtain⟨_,gj⟩:=yAr a6;have HT:Hid (PaS n (sb p) os (j+1) f us.length zs):=PaS.next (x:= [c]) a0 hT;have ay:((c.toNat:Int)==124)=false:=beq_eq_false_iff_ne.2 (yA8 (c:=124) (λq=>by subst q;exact absurd ae qj));have aj:Hid (Calls prog 142 #[.int .u8 (c.toNat:Int)] wr λe w'=>e=.returned true/\w'=wr):=by have:=yBi c wr;rw[decide_eq_true ae]at this;exact this
    clear h0 hT a6 ae a0 av;go_wp2_with fail;refine aj.mono ?_;rintro e' w5 ⟨rfl,a4⟩;rw[a4];clear a4;go_wp2_with fail;go_roundw;case rel=>exact⟨j+1,f,g,cp,m,us,by go_num,rfl,qo,qo,ao,rfl,HJ.1.move (Below.refl _ _) ⟨_,HT.out⟩,HJ.2⟩
    case measure=>simp[intOf];omega
   .have a0:=HP.out;rw[h0]at a0;obtain⟨c,yt,aa,az,al,ak⟩:=hA.first;have aA:0<ys.length:=by rw[aa];simp
    have ac:=a0.rl;have aq:j+ys.length<=p.size:=by rw[length_append]at ac;have:=a3.out;omega
    obtain⟨ab,_,_⟩:=yQ4 a0.ri.symm ac qo;obtain⟨a6,_,_⟩:=yHo (c:=c) (zs:=yt) (by rw[ab];exact aa) (by rw[<-a3.out];exact aq);obtain⟨_,gj⟩:=yAr a6;have ay:((c.toNat:Int)==124)=false:=beq_eq_false_iff_ne.2 (yA8 (c:=124) al);have aj:Hid (Calls prog 142 #[.int .u8 (c.toNat:Int)] wr λe w'=>e=.returned false/\w'=wr):=by have:=yBi c wr;rw[decide_eq_false ak]at this;exact this
    obtain⟨i2,ag⟩:=qE (j+ys.length);have HT:Hid (PaS n (sb p) os i2 f us.length zs):=by rw[ag];exact PaS.next a0 hT
    have aE:Hid ((xf 207 #[p,xi j] wr (xi i2):Prop)):=by rw[ag];exact yKf hp n j (j+ys.length) t wr (by rw[ab];exact hA) qo
    have aH:j<i2:=qo
    have aG:i2<=p.size:=qo
    clear h0 hT hA ab aa a6 az al ak ag aA aq a0 ac;go_wp2_with fail;refine aj.mono ?_;rintro e' w5 ⟨rfl,a4⟩;rw[a4];clear a4;go_wp2_with fail;refine aE.mono ?_;rintro e' w6 ⟨rfl,aw⟩;have aC:=qH2 (HJ.1.move aw ⟨_,HT.out⟩) HJ.2;clear aw;go_wp2_with fail;go_roundw;case rel=>exact⟨i2,f,g,cp,m,us,rfl,rfl,qo,qo,ao,rfl,aC.out⟩
    case measure=>simp[intOf];omega
  .have zj:¬(j:Int)<(p.size:Int):=qo
   obtain rfl:j=p.size:=qo
   have an:r= []:=by have h1:=HP.rl;have h2:=a3.out;exact length_eq_zero_iff.1 qo
   have ar:us.length+1=os.length:=by
    rcases HP.rest with⟨_,q⟩|⟨q,_⟩
    .exact q
    .have:=yAn q;have:=a3.out;omega
   obtain⟨ts,a2,a1⟩:=HP.cur;rw[an]at a1;simp only[length_nil,Nat.add_zero]at a1;have HT:=qH3 a2 (by rw[yB0 p qr];exact a1:SeqG (yAm n) ts (sb (p.extract f p.size))) ar;have HM:=qH1 HJ.2;clear an ar a2 a1;go_wp2_with (at_builtin;refine yBz _ rfl _ _ rfl w g cp m wr us (p.extract f p.size) rfl rfl HM.out ?hO2 ?hc2 ?hy2 ?hl2 ?hb2 ?_);case hO2=>exact HJ.1.own.below (qB)
   case hy2=>rfl
   case hl2=>rw[<-HM.out];omega
   case hb2=>first|omega|(simp;omega)
   intro g' a9 w' a8 a7 ah;have HR:Hid (PrtP n os p.size w (.returned (xg g' (m+1) a9)) w'):=by refine⟨g',a9,us++ [.string (p.extract f p.size)],?_,by rw[length_append,length_singleton];exact HT.2.2,⟨a8,HJ.1.strs.snoc HT.1 HT.2.1 (by rw[<-yAe,yB0 p qr,yAw (by rw[yAe];exact Nat.le_refl _)];omega)⟩,(HJ.1.below.trans ((Below.refl _ _).alloc am _)).grown a7 (by simp;omega) (λj hj=>by cases hj;omega)⟩;rw[HM.out,HT.2.2]
   clear a8 a7 ah;go_wp2_with fail;go_ret;exact HR.out
def MxG(s:ByteArray)(P:List UInt8->Prop)(w:World)(r:Ending)(w':World):Prop:=∃g cp ρ γ f,r=.returned (slV g (s.size+1) cp)/\s.size+1<=cp/\Hid (MatR w' g (s.size+1) ρ γ f/\RelW (sb s) f P)/\Below w w w'
variable {P:List UInt8->Prop}
theorem MaG.says{F:Nat->Nat->Bool}{r:Ending}(h:MaG (s.size+1) F w r w')(hF:RelW (sb s) F P):MxG s P w r w':=by obtain⟨g,cp,ρ,γ,f,h1,h2,h3,h4⟩:=h;exact⟨g,cp,ρ,γ,f,h1,h2,⟨h3.out.1,hF.iff (λi j hij hj=>h3.out.2 i j hij (by rw[yAe]at hj;exact hj)) (λ_=>Iff.rfl)⟩,h4⟩
def AltW(s:ByteArray)(m:Nat):Prop:=∀(n:Nat)(os:List (List Pat))(p:ByteArray)(w:World),p.size<=m->p.size<=200->AltG (yAm n) os (sb p)->Calls prog 205 #[p,s] w (MxG s (LgA os) w)
def SeqW(s:ByteArray)(m:Nat):Prop:=∀(n:Nat)(ts:List Pat)(p:ByteArray)(w:World),p.size<=m->p.size<=200->SeqG (yAm n) ts (sb p)->Calls prog 225 #[p,s] w (MxG s (LgS ts) w)
def AtmW(s:ByteArray)(m:Nat):Prop:=∀(n:Nat)(t:Pat)(p:ByteArray)(w:World),p.size<=m->p.size<=200->yAm n (sb p) t->Calls prog 240 #[p,s] w (MxG s (Lg t) w)
theorem xCf(os:List (List Pat))(ts:List Pat)(x:List UInt8):LgA (os++ [ts]) x↔LgA os x\/LgS ts x:=by
 rw[yU,yU];constructor
 .rintro⟨t,ht,h⟩;rcases List.mem_append.1 ht with q|q
  .exact .inl ⟨t,q,h⟩
  .simp at q;subst q;exact .inr h
 .rintro(⟨t,ht,h⟩|h)
  .exact⟨t,mem_append_left _ ht,h⟩
  .exact⟨ts,by simp,h⟩
theorem yVi(hs:s.size<=200)(H:SeqW s m):AltW s m:=by
 intro n os p w a8 hp hG;have HH:=qH3 H a8 hp;have ai:Hid (∀wx,Calls prog 206 #[p] wx (PrtP n os p.size wx)):=λwx=>yP9 hp hG wx;have ae:os.length<=201:=by obtain⟨k,h1,h2⟩:=hG.tokn;have:=yRv h2;rw[yAe]at this;omega
 have aj:=qH1 (yBn s.size qo w);clear H a8 hp hG;go_enter func205,ntmps205;go_wp2_with fail;refine aj.mono ?_;rintro r w1 ⟨g,cp,ρ,γ,rfl,HM,ab⟩;have ag:=HM.out.out.caps.1;go_wp2_with fail;refine(ai.out w1).mono ?_;rintro r w2 ⟨gq,cq,us,rfl,a5,HU,hb2⟩;have af:=HU.1.lt;have k2:=ab.trans (hb2.mono ab.size);obtain⟨N,hN⟩:=qE os.length;rw[<-hN]at ae|-;have HN:=qH2 hN (by rw[a5,hN]:us.length=N);have ak:=qH1 (HM.read.below hb2 qr);clear hN a5;go_wp2;go_loopw[5,7] (λov kv wr=>∃(k go co:Nat)(ρo γo:Nat->Nat)(f:Nat->Nat->Bool),k<=N/\kv=(xi k)/\ov=slV go (s.size+1) co/\s.size+1<=co/\Hid (MatR wr go (s.size+1) ρo γo f/\RelW (sb s) f (LgA (os.take k))/\Below w2 w2 wr)) (λ_ kv _=>N-(intOf kv).toNat);case atStart=>exact⟨0,g,cp,ρ,γ,_,zero_le _,rfl,rfl,ag,ak.out,λi j _ _=>by simp[LgA],Below.refl _ _⟩
 case round=>
  obtain⟨k,go,co,ρo,γo,f,hk,rfl,rfl,a9,HO⟩:=hrel;by_cases hlt:k<N
  .have zk:(k:Int)<(N:Int):=qo
   obtain⟨u,hu⟩:∃u,us[k]?=some u:=qg (by rw[HN.2];exact hlt);obtain⟨x,ts,rfl,a6,a7,ac⟩:=HU.2 k u hu;have c0:(xk wr gq k x:Prop):=by rw[HO.2.2.cell (p:=(xd gq k)) af.2,World.ownsRow.cellAt HU.1 k (by rw[HN.2];omega),hu]
   have HC:=qH1 (HH.1 n ts x wr (qw HH.2.1) (qw HH.2.2) a7);have HT:=qH1 a6;clear hu a6 a7 ac;go_wp2_with fail;refine HC.mono ?_;rintro e w3 ⟨g3,p3,ρ3,γ3,f3,rfl,ad,a4,a1⟩;have al:=qH1 (yQa s.size go co g3 p3 ρo γo ρ3 γ3 f f3 w3 qo (HO.1.below a1 qr) a4.1 a9 ad);clear c0;go_wp2_with fail;refine al.mono ?_;rintro e w4 ⟨g4,p4,ρ4,γ4,f4,rfl,a2,aa⟩;have a3:=a2.1.out.caps.1;have a0:Hid (MatR w4 g4 (s.size+1) ρ4 γ4 f4/\RelW (sb s) f4 (LgA (os.take (k+1)))/\Below w2 w2 w4):=by refine⟨a2.1.read,?_,(HO.2.2.trans (a1.mono HO.2.2.size)).trans (aa.mono (Nat.le_trans HO.2.2.size a1.size))⟩;refine(HO.2.1.or a4.2).iff (λi j hij hj=>a2.2 i j hij (by rw[yAe]at hj;exact hj)) (λy=>?_);rw[take_add_one,HT.out];exact xCf _ _ _
   clear a2 a4 a1 aa;refine zY ?_;first|exact⟨k+1,g4,p4,ρ4,γ4,f4,qo,by go_num,rfl,a3,a0⟩|exact⟨k+1,g4,p4,qo,by go_num,rfl,a3,ρ4,γ4,f4,a0⟩|exact⟨k+1,qo,by go_num,g4,p4,rfl,a3,ρ4,γ4,f4,a0⟩
  .obtain rfl:k=N:=qo
   have zk:¬(k:Int)<(k:Int):=qo
   have a0:Hid (MatR wr go (s.size+1) ρo γo f/\RelW (sb s) f (LgA os)):=by have h9:=HO.2.1;rw[take_of_length_le (by rw[HN.1];exact Nat.le_refl _)]at h9;exact⟨HO.1,h9⟩
   have ah:=k2.trans (HO.2.2.mono k2.size);go_wp2;go_ret;exact⟨go,co,ρo,γo,f,rfl,a9,a0,ah⟩
theorem RelW.plus_sb{fa:Nat->Nat->Bool}(h:RelW (sb s) fa P):RelW (sb s) (plK fa (s.size+1)) (Pls P):=by have:=h.plus;rw[yAe]at this;exact this
variable {Q:List UInt8->Prop}
theorem RelW.then_sb{fa fb:Nat->Nat->Bool}(h:RelW (sb s) fa P)(k:RelW (sb s) fb Q):RelW (sb s) (λi j=>thF fa fb i j (s.size+1)) (λx=>∃y z,x=y++z/\P y/\Q z):=by have:=h.then k;rw[yAe]at this;exact this
theorem MxG.iff{r:Ending}(h:MxG s P w r w')(hq:∀x,Q x↔P x):MxG s Q w r w':=by obtain⟨g,cp,ρ,γ,f,h1,h2,h3,h4⟩:=h;exact⟨g,cp,ρ,γ,f,h1,h2,⟨h3.out.1,h3.out.2.iff (λ_ _ _ _=>rfl) hq⟩,h4⟩
variable {ρ γ:Nat->Nat} {f:Nat->Nat->Bool}
theorem yPq(hs:s.size<=200){g:Nat}(hM:MatR w g (s.size+1) ρ γ f)(hR:RelW (sb s) f P)(hc:s.size+1<=cp):Calls prog 241 #[slV g (s.size+1) cp] w (MxG s (Pls P) w):=
 (yTa s.size g cp ρ γ f w qo hM hc).mono (λr w' h=>MaG.says h hR.plus_sb)
theorem yYr(hs:s.size<=200){g g' cp':Nat}{ρ' γ':Nat->Nat}{f':Nat->Nat->Bool}(hM:MatR w g (s.size+1) ρ γ f)(hR:RelW (sb s) f P)(hc:s.size+1<=cp)(hM':MatR w g' (s.size+1) ρ' γ' f')(hR':RelW (sb s) f' Q)(hc':s.size+1<=cp'):Calls prog 224 #[slV g (s.size+1) cp,slV g' (s.size+1) cp'] w (MxG s (λx=>P x\/Q x) w):=
 (yQa s.size g cp g' cp' ρ γ ρ' γ' f f' w qo hM hM' hc hc').mono (λr w' h=>MaG.says h.g (hR.or hR'))
theorem yO8(hs:s.size<=200){g g' cp':Nat}{ρ' γ':Nat->Nat}{f':Nat->Nat->Bool}(hM:MatR w g (s.size+1) ρ γ f)(hR:RelW (sb s) f P)(hc:s.size+1<=cp)(hM':MatR w g' (s.size+1) ρ' γ' f')(hR':RelW (sb s) f' Q)(hc':s.size+1<=cp'):Calls prog 242 #[slV g (s.size+1) cp,slV g' (s.size+1) cp'] w (MxG s (λx=>∃y z,x=y++z/\P y/\Q z) w):=
 (yT s.size g cp g' cp' ρ γ ρ' γ' f f' w qo hM hM' hc hc').mono (λr w' h=>MaG.says h.g (hR.then_sb hR'))
theorem yFr(hs:s.size<=200) w:Calls prog 239 #[xi s.size] w (MxG s (λx=>x= []) w):=
 (yQc s.size qo w).mono (λr w' h=>MaG.says h.g (yV5 (sb s)))
def opL(P:List UInt8->Prop)(l:List UInt8):List UInt8->Prop:=RepL P (l.any (· != 43)) (l.any (· != 63))
theorem yYu(P:List UInt8->Prop)(x:List UInt8):opL P [] x↔P x:=by simp[opL,RepL]
theorem yNt(P:List UInt8->Prop)(l:List UInt8)(c:UInt8):opL P (l++ [c])=RepL P (l.any (· != 43) || c != 43) (l.any (· != 63) || c != 63):=by simp[opL,any_append]
theorem xH3(a:Pat)(ops:List UInt8)(x:List UInt8):Lg (if ops= []then a else .rep a (ops.any (· != 43)) (ops.any (· != 63))) x↔opL (Lg a) ops x:=by
 by_cases h:ops= []
 .rw[if_pos h,h,yYu]
 .rw[if_neg h];rfl
theorem xIu(P:List UInt8->Prop)(l:List UInt8)(x:List UInt8):opL P (l++ [42]) x↔(Pls (opL P l) x\/x= []):=by rw[yNt];have h1:=yPg P (l.any (· != 43)) (l.any (· != 63)) x;have h2:=yUl P (l.any (· != 43)) true x;rw[show(l.any (· != 43) || (42:UInt8) != 43)=true by simp,show(l.any (· != 63) || (42:UInt8) != 63)=true by simp];unfold opL;rw[h1,h2]
theorem xIt(P:List UInt8->Prop)(l:List UInt8)(x:List UInt8):opL P (l++ [43]) x↔Pls (opL P l) x:=by rw[yNt];have h1:=yPg P (l.any (· != 43)) (l.any (· != 63)) x;rw[show(l.any (· != 43) || (43:UInt8) != 43)=l.any (· != 43)by simp,show(l.any (· != 63) || (43:UInt8) != 63)=true by simp];unfold opL;rw[h1]
theorem xIs(P:List UInt8->Prop)(l:List UInt8)(x:List UInt8):opL P (l++ [63]) x↔(opL P l x\/x= []):=by rw[yNt];have h2:=yUl P (l.any (· != 43)) (l.any (· != 63)) x;rw[show(l.any (· != 43) || (63:UInt8) != 43)=true by simp,show(l.any (· != 63) || (63:UInt8) != 63)=l.any (· != 63)by simp];unfold opL;rw[h2]
structure SeqX(n m:Nat)(p:ByteArray)(a:Pat)(as_ ops:List UInt8)(ts:List Pat):Prop where
 len:0<as_.length
 le:as_.length+ops.length<=p.size
 atom:yAm n (cut (sb p) 0 as_.length) a
 sg:∀c∈ops,isOp c
 at_:∀k c,ops[k]?=some c->(sb p)[as_.length+k]?=some c
 rest:SeqG (yAm n) ts (cut (sb p) (as_.length+ops.length) p.size)
 stop:∀c,(sb p)[as_.length+ops.length]?=some c->¬isOp c
theorem yY{t:Pat}(h:SeqG (yAm n) (t::ts) (sb p)):∃a as_ ops,SeqX n 0 p a as_ ops ts/\∀x,Lg t x↔opL (Lg a) ops x:=by
 obtain⟨ys,zs,hx,⟨as_,ops,a,a3,hA,a6,ht⟩,hG⟩:=h;have a0:sb p=as_++(ops++zs):=by rw[hx,a3,append_assoc]
 have hl:p.size=as_.length+(ops.length+zs.length):=by rw[<-yAe,a0];simp
 obtain⟨c,yt,a5,_,_,aa⟩:=hA.first;have h1:cut (sb p) 0 as_.length=as_:=by unfold cut;rw[a0];simp
 have h2:cut (sb p) (as_.length+ops.length) p.size=zs:=by
  unfold cut;have e:as_.length+ops.length=(as_++ops).length:=by simp
  rw[a0,<-append_assoc,e,drop_left];exact take_of_length_le (by rw[<-e];omega)
 refine⟨a,as_,ops,⟨by rw[a5];simp,by omega,by rw[h1];exact hA,a6,λk c hk=>?_,by rw[h2];exact hG,λc hc=>?_⟩,λx=>by rw[ht];exact xH3 a ops x⟩
 .have a7:=qf hk;rw[a0,getElem?_append_right (by omega),Nat.add_sub_cancel_left,getElem?_append_left a7];exact hk
 .rw[a0,getElem?_append_right (by omega),show as_.length+ops.length-as_.length=ops.length by omega,getElem?_append_right qr,Nat.sub_self]at hc;cases ts with
  |nil=>rw[show zs= []from hG]at hc;simp at hc
  |cons t' ts'=>
   obtain⟨y2,z2,hz,⟨a2,o2,b2,hy2,a8,_,_⟩,_⟩:=hG;obtain⟨c2,a9,a4,_,_,a1⟩:=a8.first;rw[hz,hy2,a4]at hc;simp at hc;rw[<-hc];exact a1
theorem xA4(hs:s.size<=200)(HA:AtmW s (m+1))(HS:SeqW s m):SeqW s (m+1):=by
 intro n ts p w aH hp hG;cases ts with
 |nil=>
  have h0:=hG;have hz:p.toList= []:=by rw[ByteArray.toList_eq];exact h0
  have q1:(p.toList== [])=true:=by rw[hz];rfl
  have HE:=qH1 (yFr hs w);clear hz h0 hG;go_enter func225,ntmps225;go_wp2_with fail;refine HE.mono ?_;rintro e w1 ⟨g1,p1,ρ1,γ1,f1,rfl,aA,aw,ai⟩;have HR:Hid (MxG s (LgS []) w (.returned (slV g1 (s.size+1) p1)) w1):=⟨g1,p1,ρ1,γ1,f1,rfl,aA,⟨aw.1,aw.2.iff (λ_ _ _ _=>rfl) (λx=>by simp[LgS])⟩,ai⟩;go_wp2;go_ret;exact HR.out
 |cons t ts=>
  obtain⟨a,as_,ops,hX,au⟩:=yY hG;have HX:Hid (SeqX n 0 p a as_ ops ts/\∀x,Lg t x↔opL (Lg a) ops x):=⟨hX,au⟩;have q1:(p.toList== [])=false:=by
   have h1:=hX.len;have h2:=hX.le;have hz:p.toList≠ []:=λq=>by rw[ByteArray.toList_eq]at q;have:=yAe p;rw[show sb p= []from q]at this;simp at this;omega
   cases hq:p.toList with
   |nil=>exact absurd hq hz
   |cons _ _=>rfl
  obtain⟨j1,a6⟩:=qE as_.length;obtain⟨no,ah⟩:=qE ops.length;have aI:j1+no<=p.size:=by rw[a6,ah];exact hX.le
  have aJ:0<j1:=by rw[a6];exact hX.len
  have aE:Hid ((xf 207 #[p,xi 0] w (xi j1):Prop)):=by have h9:=yKf hp n 0 j1 a w (by rw[a6];exact hX.atom) qo;exact h9
  have aF:Hid (∀wx,Calls prog 240 #[(p.extract 0 j1),s] wx (MxG s (Lg a) wx)):=λwx=>by
   have ay:(p.extract 0 j1).size=j1:=by rw[<-yAe,yB0 p qo,yAw (by rw[yAe];omega)];omega
   exact HA n a _ wx qo qo (by rw[yB0 p qo,a6];exact hX.atom)
  have aD:Hid (∀wx,Calls prog 225 #[(p.extract (j1+no) p.size),s] wx (MxG s (LgS ts) wx)):=λwx=>by
   have ay:(p.extract (j1+no) p.size).size=p.size-(j1+no):=by rw[<-yAe,yB0 p qr,yAw (by rw[yAe];exact Nat.le_refl _)]
   exact HS n ts _ wx qo qo (by rw[yB0 p qr,a6,ah];exact hX.rest)
  have HL:=qH2 a6 ah;have z1:(j1:Int)<=(p.size:Int):=qo
  clear HA HS hG hX au a6 ah;go_enter func225,ntmps225;go_wp2_with fail;refine aE.mono ?_;rintro e w1 ⟨rfl,ai⟩;go_wp2_with fail;refine(aF.out w1).mono ?_;rintro e w2 ⟨g2,p2,ρ2,γ2,f2,rfl,az,av,hb2⟩;have aC:=ai.trans (hb2.mono ai.size);go_wp2;go_loopw[5,6] (λjv rv wr=>∃(J k go co:Nat)(ρo γo:Nat->Nat)(f:Nat->Nat->Bool),J<=p.size/\k<=no/\jv=(xi J)/\rv=slV go (s.size+1) co/\s.size+1<=co/\Hid (MatR wr go (s.size+1) ρo γo f/\RelW (sb s) f (opL (Lg a) (ops.take k))/\Below w w wr)/\Hid (J=j1+k)) (λjv _ _=>p.size-(intOf jv).toNat);case atStart=>exact⟨j1,0,g2,p2,ρ2,γ2,f2,qo,zero_le _,rfl,rfl,az,⟨av.1,av.2.iff (λ_ _ _ _=>rfl) (λx=>by rw[take_zero];exact yYu _ _),aC⟩,rfl⟩
  case round=>
   obtain⟨J,k,go,co,ρo,γo,f,hJ,hk,rfl,rfl,ab,HO,HJ⟩:=hrel;by_cases hlt:k<no
   .obtain⟨c,hc⟩:∃c,ops[k]?=some c:=qg (by rw[<-HL.2];exact hlt);have HK:=qH2 (by rw[take_add_one,hc];rfl:ops.take (k+1)=ops.take k++ [c]) (by rw[HJ.out,HL.1];exact HX.1.at_ k c hc:(sb p)[J]?=some c);have aB:=HX.1.sg c (mem_of_getElem? hc);have a9:Hid (J+1=j1+(k+1)):=by show _=_;rw[HJ.out];omega
    clear hc;rcases aB with rfl|rfl|rfl
    .obtain⟨_,gj⟩:=yAr HK.2;have zj:(J:Int)<(p.size:Int):=by have:=yAn HK.2;rw[yAe]at this;omega
     have a8:Hid (Calls prog 142 #[.int .u8 ((42:UInt8).toNat:Int)] wr λe w'=>e=.returned true/\w'=wr):=by have:=yBi 42 wr;rw[decide_eq_true qj]at this;exact this
     have aj:J<p.size:=qo
     go_wp2_with fail;refine a8.mono ?_;rintro e' w9 ⟨rfl,a2⟩;rw[a2];clear a2;go_wp2_with fail;refine(yPq hs HO.1 HO.2.1 ab).mono ?_;rintro e w3 ⟨g3,p3,ρ3,γ3,f3,rfl,a5,a3,a1⟩;have a4:=qH1 (HO.2.2.trans (a1.mono HO.2.2.size));clear a1;go_wp2_with fail;refine(yFr hs w3).mono ?_;rintro e w5 ⟨g5,p5,ρ5,γ5,f5,rfl,ak,af,a7⟩;have an:=qH1 (yYr hs (a3.1.below a7 qr) a3.2 a5 af.1 af.2 ak);have ag:=qH1 (a4.trans (a7.mono a4.size));clear a7;go_wp2_with fail;refine an.mono ?_;rintro e w6 ⟨g6,p6,ρ6,γ6,f6,rfl,aa,ae,ac⟩;have aq:=qH1 (ag.trans (ac.mono ag.size));clear ac;have a0:Hid (MatR w6 g6 (s.size+1) ρ6 γ6 f6/\RelW (sb s) f6 (opL (Lg a) (ops.take (k+1)))/\Below w w w6):=⟨ae.1,ae.2.iff (λ_ _ _ _=>rfl) (λx=>by rw[HK.1];exact(xIu _ _ x)),aq.out⟩;refine zY ?_;first|exact⟨J+1,k+1,g6,p6,ρ6,γ6,f6,qo,qo,by go_num,rfl,aa,a0,a9⟩|exact⟨J+1,qo,by go_num,g6,p6,rfl,aa,k+1,ρ6,γ6,f6,qo,a0,a9⟩|trace_state
    .obtain⟨_,gj⟩:=yAr HK.2;have zj:(J:Int)<(p.size:Int):=by have:=yAn HK.2;rw[yAe]at this;omega
     have a8:Hid (Calls prog 142 #[.int .u8 ((43:UInt8).toNat:Int)] wr λe w'=>e=.returned true/\w'=wr):=by have:=yBi 43 wr;rw[decide_eq_true qj]at this;exact this
     have aj:J<p.size:=qo
     go_wp2_with fail;refine a8.mono ?_;rintro e' w9 ⟨rfl,a2⟩;rw[a2];clear a2;go_wp2_with fail;refine(yPq hs HO.1 HO.2.1 ab).mono ?_;rintro e w3 ⟨g3,p3,ρ3,γ3,f3,rfl,a5,a3,a1⟩;have a4:=qH1 (HO.2.2.trans (a1.mono HO.2.2.size));clear a1;have a0:Hid (MatR w3 g3 (s.size+1) ρ3 γ3 f3/\RelW (sb s) f3 (opL (Lg a) (ops.take (k+1)))/\Below w w w3):=⟨a3.1,a3.2.iff (λ_ _ _ _=>rfl) (λx=>by rw[HK.1];exact(xIt _ _ x)),a4.out⟩;refine zY ?_;first|exact⟨J+1,k+1,g3,p3,ρ3,γ3,f3,qo,qo,by go_num,rfl,a5,a0,a9⟩|exact⟨J+1,qo,by go_num,g3,p3,rfl,a5,k+1,ρ3,γ3,f3,qo,a0,a9⟩|trace_state
    .obtain⟨_,gj⟩:=yAr HK.2;have zj:(J:Int)<(p.size:Int):=by have:=yAn HK.2;rw[yAe]at this;omega
     have a8:Hid (Calls prog 142 #[.int .u8 ((63:UInt8).toNat:Int)] wr λe w'=>e=.returned true/\w'=wr):=by have:=yBi 63 wr;rw[decide_eq_true qj]at this;exact this
     have aj:J<p.size:=qo
     go_wp2_with fail;refine a8.mono ?_;rintro e' w9 ⟨rfl,a2⟩;rw[a2];clear a2;go_wp2_with fail;refine(yFr hs wr).mono ?_;rintro e w5 ⟨g5,p5,ρ5,γ5,f5,rfl,ak,af,a7⟩;have an:=qH1 (yYr hs (HO.1.below a7 qr) HO.2.1 ab af.1 af.2 ak);have ag:=qH1 (HO.2.2.trans (a7.mono HO.2.2.size));clear a7;go_wp2_with fail;refine an.mono ?_;rintro e w6 ⟨g6,p6,ρ6,γ6,f6,rfl,aa,ae,ac⟩;have aq:=qH1 (ag.trans (ac.mono ag.size));clear ac;have a0:Hid (MatR w6 g6 (s.size+1) ρ6 γ6 f6/\RelW (sb s) f6 (opL (Lg a) (ops.take (k+1)))/\Below w w w6):=⟨ae.1,ae.2.iff (λ_ _ _ _=>rfl) (λx=>by rw[HK.1];exact(xIs _ _ x)),aq.out⟩;refine zY ?_;first|exact⟨J+1,k+1,g6,p6,ρ6,γ6,f6,qo,qo,by go_num,rfl,aa,a0,a9⟩|exact⟨J+1,qo,by go_num,g6,p6,rfl,aa,k+1,ρ6,γ6,f6,qo,a0,a9⟩|trace_state
   .obtain rfl:k=no:=qo
    have a0:Hid (MatR wr go (s.size+1) ρo γo f/\RelW (sb s) f (Lg t)/\Below w w wr):=by refine⟨HO.1,HO.2.1.iff (λ_ _ _ _=>rfl) (λx=>?_),HO.2.2⟩;rw[take_of_length_le (by rw[HL.2];exact Nat.le_refl _)];exact HX.2 x
    have ax:Hid (∀wx,Below wr wr wx->Calls prog 225 #[(p.extract J p.size),s] wx (MxG s (LgS ts) wx)):=λwx _=>by rw[HJ.out];exact aD.out wx
    by_cases aj:J<p.size
    .obtain⟨c,hc⟩:∃c,(sb p)[J]?=some c:=qg (by rw[yAe];exact aj);obtain⟨_,gj⟩:=yAr hc;have zj:(J:Int)<(p.size:Int):=qo
     have ar:=HX.1.stop c (by rw[<-HL.1,<-HL.2,<-HJ.out];exact hc);have a8:Hid (Calls prog 142 #[.int .u8 (c.toNat:Int)] wr λe w'=>e=.returned false/\w'=wr):=by have:=yBi c wr;rw[decide_eq_false ar]at this;exact this
     clear hc ar;go_wp2_with fail;refine a8.mono ?_;rintro e' w9 ⟨rfl,a2⟩;rw[a2];clear a2;go_wp2_with fail;refine(ax.out wr (Below.refl _ _)).mono ?_;rintro e w3 ⟨g3,p3,ρ3,γ3,f3,rfl,a5,a3,a1⟩;have a4:=qH1 (a0.2.2.trans (a1.mono a0.2.2.size));have am:Hid (Calls prog 242 #[slV go (s.size+1) co,slV g3 (s.size+1) p3] w3 (MxG s (LgS (t::ts)) w3)):=(yO8 hs (a0.1.below a1 qr) a0.2.1 ab a3.1 a3.2 a5).mono (λr w' h=>MxG.iff h (λx=>by simp[LgS]));clear a1;go_wp2_with fail;refine am.mono ?_;rintro e w4 ⟨g4,p4,ρ4,γ4,f4,rfl,al,ao,ad⟩;have HR:Hid (MxG s (LgS (t::ts)) w (.returned (slV g4 (s.size+1) p4)) w4):=⟨g4,p4,ρ4,γ4,f4,rfl,al,ao,a4.trans (ad.mono a4.size)⟩;clear ad;go_wp2;go_ret;exact HR.out
    .have zj:¬(J:Int)<(p.size:Int):=qo
     have aG:(J:Int)<=(p.size:Int):=qo
     go_wp2_with fail;refine(ax.out wr (Below.refl _ _)).mono ?_;rintro e w3 ⟨g3,p3,ρ3,γ3,f3,rfl,a5,a3,a1⟩;have a4:=qH1 (a0.2.2.trans (a1.mono a0.2.2.size));have am:Hid (Calls prog 242 #[slV go (s.size+1) co,slV g3 (s.size+1) p3] w3 (MxG s (LgS (t::ts)) w3)):=(yO8 hs (a0.1.below a1 qr) a0.2.1 ab a3.1 a3.2 a5).mono (λr w' h=>MxG.iff h (λx=>by simp[LgS]));clear a1;go_wp2_with fail;refine am.mono ?_;rintro e w4 ⟨g4,p4,ρ4,γ4,f4,rfl,al,ao,ad⟩;have HR:Hid (MxG s (LgS (t::ts)) w (.returned (slV g4 (s.size+1) p4)) w4):=⟨g4,p4,ρ4,γ4,f4,rfl,al,ao,a4.trans (ad.mono a4.size)⟩;clear ad;go_wp2;go_ret;exact HR.out
theorem yNo{s:List UInt8}{τ:UInt8->Bool}(h:∀i j,i<=j->j<s.length+1->f i j=(decide (j=i+1) && ((s[i]?).map τ).getD false)):RelW s f (λx=>∃c,x= [c]/\τ c=true):=by
 intro i j hij hj;rw[h i j hij (by omega),Bool.and_eq_true,decide_eq_true_eq];constructor
 .rintro⟨rfl,h2⟩;cases hc:s[i]? with
  |none=>rw[hc]at h2;cases h2
  |some c=>rw[hc]at h2;exact⟨c,yCa hc,h2⟩
 .rintro⟨c,hx,hc⟩;have hl:=yAw (p:=s) (i:=i) hj;rw[hx]at hl;have e:j=i+1:=by simp at hl;omega
  subst e;have hi:i<s.length:=by omega
  have h1:=yCa (p:=s) (i:=i) (getElem?_eq_getElem hi);rw[hx]at h1;have h2:c=s[i]:=by simpa using h1
  exact⟨rfl,by rw[getElem?_eq_getElem hi,<-h2];exact hc⟩
theorem xCb(hs:s.size<=200)(q:ByteArray)(c:UInt8)(hq:sb q= [c])(h40:¬c=40)(h46:¬c=46)(h92:¬c=92)(h91:¬c=91) w:Calls prog 240 #[q,s] w (MxG s (Lg (.byte c)) w):=by
 have a2:q.size=1:=by rw[<-yAe,hq];rfl
 obtain⟨_,gq⟩:=yAr (s:=q) (i:=0) (x:=c) (by rw[hq];rfl);have zq:(0:Int)<(q.size:Int):=by omega
 have a7:((c.toNat:Int)==40)=false:=beq_eq_false_iff_ne.2 (yA8 (c:=40) h40);have z46:((c.toNat:Int)==46)=false:=beq_eq_false_iff_ne.2 (yA8 (c:=46) h46);have a5:((c.toNat:Int)==92)=false:=beq_eq_false_iff_ne.2 (yA8 (c:=92) h92);have a6:((c.toNat:Int)==91)=false:=beq_eq_false_iff_ne.2 (yA8 (c:=91) h91);have a4:Hid (Calls prog 223 #[xi s.size] w (MaP (s.size+1) (λ_ _=>false) w)):=yBn s.size (by omega) w;clear hq h40 h46 h92 h91 a2;go_enter func240,ntmps240;go_wp2_with fail;refine a4.mono ?_;rintro r w1 ⟨g,cp,ρ,γ,rfl,HM,a3⟩;have hcp:=HM.out.out.caps;go_wp2;go_loopw[6] (λiv wr=>∃(k:Nat)(f:Nat->Nat->Bool),k<=s.size/\iv=(xi k)/\Hid (MatO wr w g cp (s.size+1) (s.size+1) ρ γ f/\(∀i j,i<=j->j<s.size+1->f i j=(decide (j=i+1) && (((sb s)[i]?).map (λx=>x==c)).getD false && decide (i<k)))/\Below w w wr)) (λiv _=>s.size-(intOf iv).toNat);case atStart=>exact⟨0,_,zero_le _,rfl,HM.out,λi j _ _=>by simp,a3⟩
 case round=>
  obtain⟨k,f,hk,rfl,HJ⟩:=hrel;by_cases hlt:k<s.size
  .have zk:(k:Int)<(s.size:Int):=by omega
   obtain⟨x,hx⟩:∃x,(sb s)[k]?=some x:=qg (by rw[yAe];exact hlt);obtain⟨_,gx⟩:=yAr hx;have c0:(xk wr g k (slV (ρ k) (s.size+1) (γ k)):Prop):=HJ.1.cell (by omega);have a0:k<s.size+1:=by omega
   have c1:(xk wr (ρ k) (k+1) (f k (k+1)):Prop):=(HJ.1.row k a0).cell (by omega);have y1:wr.frozen? (xd (ρ k) (k+1))=false:=World.ownsRow.frozenAt (HJ.1.row k a0) _;have a8:=(HJ.1.row k a0).caps;obtain⟨bv,a1⟩:=qE (((c.toNat:Int)==(x.toNat:Int)));have HV:Hid (bv=(x==c)):=by show _=_;rw[a1,Bool.eq_iff_iff,beq_iff_eq,beq_iff_eq];exact⟨λq=>UInt8.toNat_inj.1 (by omega),λq=>by rw[q]⟩
   have HX:Hid ((sb s)[k]?=some x):=hx;clear hx;go_upto_region 7 with fail;refine yAf 99 (λ_=>True) (by kernel_rfl) ?_;refine ja 0 True.intro ?_;refine jb True.intro ?_;refine ja 2 True.intro (v:=false) ?_;iterate 8 refine jb True.intro ?_
   refine kO 11 True.intro ?_;refine qD ?_;rw[<-a1];clear a1;have HJ2:Hid (MatO (wr.setCell (xd (ρ k) (k+1)) bv).drew w g cp (s.size+1) (s.size+1) ρ γ (upd2 f k (k+1) bv)/\(∀i j,i<=j->j<s.size+1->upd2 f k (k+1) bv i j=(decide (j=i+1) && (((sb s)[i]?).map (λx=>x==c)).getD false && decide (i<k+1)))/\Below w w (wr.setCell (xd (ρ k) (k+1)) bv).drew):=by
    refine⟨(HJ.1.set a0 (by omega) bv).below ((Below.refl _ _).drew),λi j hij hj=>?_,(yAc HJ.2.2 (HJ.1.row k a0).lt.1 _ _).drew⟩;unfold upd2;by_cases e:i=k/\j=k+1
    .rw[if_pos e,e.1,e.2,HX.out,HV.out];simp
    .rw[if_neg e,HJ.2.1 i j hij hj];by_cases e2:j=i+1
     .have h1:i≠k:=λq=>e ⟨q,by omega⟩;have h2:decide (i<k)=decide (i<k+1):=by rw[decide_eq_decide];omega
      rw[h2]
     .simp[e2]
   exact xAn
  .exact xGq
theorem xFw(hs:s.size<=200)(q:ByteArray)(fc:UInt8->Bool)(hq91:(sb q)[0]?=some 91)(hqs:q.size<=200)(hcl:yAq (sb q) 1=.inl (fc,q.size)) w:Calls prog 240 #[q,s] w (MxG s (Lg (.cls fc)) w):=by
 obtain⟨d,hd⟩:=qE (91:UInt8);rw[<-hd]at hq91;have ab:0<q.size:=by have:=yAn hq91;rw[yAe]at this;exact this
 obtain⟨_,gq⟩:=yAr (s:=q) (i:=0) (x:=d) hq91;have a9:((d.toNat:Int)==40)=false:=by rw[hd];rfl
 have z46:((d.toNat:Int)==46)=false:=by rw[hd];rfl
 have a7:((d.toNat:Int)==92)=false:=by rw[hd];rfl
 have a8:((d.toNat:Int)==91)=true:=by rw[hd];rfl
 have a6:Hid (∀(b:UInt8)(wx:World),Calls prog 255 #[q,.int .u8 (b.toNat:Int)] wx λe w'=>e=.returned (fc b)/\w'=wx):=λb wx=>yQb q hqs b fc hcl wx;have zq:(0:Int)<(q.size:Int):=qo
 have a5:Hid (Calls prog 223 #[xi s.size] w (MaP (s.size+1) (λ_ _=>false) w)):=yBn s.size qo w;clear hq91 hd hqs hcl;go_enter func240,ntmps240;go_wp2_with fail;refine a5.mono ?_;rintro r w1 ⟨g,cp,ρ,γ,rfl,HM,a4⟩;have a3:=HM.out.out.caps;go_wp2;go_loopw[6] (λiv wr=>∃(k:Nat)(f:Nat->Nat->Bool),k<=s.size/\iv=(xi k)/\Hid (MatO wr w g cp (s.size+1) (s.size+1) ρ γ f/\(∀i j,i<=j->j<s.size+1->f i j=(decide (j=i+1) && (((sb s)[i]?).map (λx=>fc x)).getD false && decide (i<k)))/\Below w w wr)) (λiv _=>s.size-(intOf iv).toNat);case atStart=>exact⟨0,_,zero_le _,rfl,HM.out,λi j _ _=>by simp,a4⟩
 case round=>
  obtain⟨k,f,hk,rfl,HJ⟩:=hrel;by_cases hlt:k<s.size
  .have zk:(k:Int)<(s.size:Int):=qo
   obtain⟨x,hx⟩:∃x,(sb s)[k]?=some x:=qg (by rw[yAe];exact hlt);obtain⟨_,gx⟩:=yAr hx;have c0:(xk wr g k (slV (ρ k) (s.size+1) (γ k)):Prop):=HJ.1.cell qo;have a0:k<s.size+1:=qo
   have c1:(xk wr (ρ k) (k+1) (f k (k+1)):Prop):=(HJ.1.row k a0).cell qo;have y1:wr.frozen? (xd (ρ k) (k+1))=false:=World.ownsRow.frozenAt (HJ.1.row k a0) _;have aa:=(HJ.1.row k a0).caps;obtain⟨bv,a1⟩:=qE ((fc x));have HV:Hid (bv=(λx=>fc x) x):=by exact a1
   have HX:Hid ((sb s)[k]?=some x):=hx;clear hx;go_upto_region 7 with fail;refine yAf 99 (λ_=>True) qk ?_;refine ja 0 True.intro ?_;refine jb True.intro ?_;refine ja 2 True.intro (v:=false) ?_;iterate 8 refine jb True.intro ?_
   refine kO 11 True.intro ?_;refine qD ?_;go_wp2_with fail;refine(a6.out x _).mono ?_;rintro e wh ⟨rfl,a2⟩;rw[a2];rw[<-a1];clear a1;have HJ2:Hid (MatO (wr.setCell (xd (ρ k) (k+1)) bv).drew w g cp (s.size+1) (s.size+1) ρ γ (upd2 f k (k+1) bv)/\(∀i j,i<=j->j<s.size+1->upd2 f k (k+1) bv i j=(decide (j=i+1) && (((sb s)[i]?).map (λx=>fc x)).getD false && decide (i<k+1)))/\Below w w (wr.setCell (xd (ρ k) (k+1)) bv).drew):=by
    refine⟨(HJ.1.set a0 qo bv).below ((Below.refl _ _).drew),λi j hij hj=>?_,(yAc HJ.2.2 (HJ.1.row k a0).lt.1 _ _).drew⟩;unfold upd2;by_cases e:i=k/\j=k+1
    .rw[if_pos e,e.1,e.2,HX.out,HV.out];simp
    .rw[if_neg e,HJ.2.1 i j hij hj];by_cases e2:j=i+1
     .have h1:i≠k:=λq=>e ⟨q,qo⟩;have h2:decide (i<k)=decide (i<k+1):=by rw[decide_eq_decide];omega
      rw[h2]
     .simp[e2]
   exact xAn
  .obtain rfl:k=s.size:=qo
   have zk:¬(s.size:Int)<(s.size:Int):=qo
   go_wp2;go_ret;refine⟨g,cp,ρ,γ,f,rfl,a3.1,⟨HJ.1.read,(yNo (τ:=λx=>fc x) (λi j hij hj=>?_)).iff (λ_ _ _ _=>rfl) (λy=>by simp[Lg])⟩,HJ.2.2⟩;rw[yAe]at hj;rw[HJ.2.1 i j hij hj];by_cases e:j=i+1
   .have h1:i<s.size:=qo
    simp[h1]
   .simp[e]
theorem xFu(hs:s.size<=200)(q:ByteArray)(d c:UInt8)(hq:sb q= [d,c])(hd:d=92) w:Calls prog 240 #[q,s] w (MxG s (Lg (.byte c)) w):=by
 have a2:q.size=2:=by rw[<-yAe,hq];rfl
 obtain⟨_,gq⟩:=yAr (s:=q) (i:=0) (x:=d) (by rw[hq];rfl);obtain⟨_,aa⟩:=yAr (s:=q) (i:=1) (x:=c) (by rw[hq];rfl);have a5:(1:Int)<(q.size:Int):=qo
 have a8:((d.toNat:Int)==40)=false:=by rw[hd];rfl
 have z46:((d.toNat:Int)==46)=false:=by rw[hd];rfl
 have a6:((d.toNat:Int)==92)=true:=by rw[hd];rfl
 have a7:((d.toNat:Int)==91)=false:=by rw[hd];rfl
 have zq:(0:Int)<(q.size:Int):=qo
 have a4:Hid (Calls prog 223 #[xi s.size] w (MaP (s.size+1) (λ_ _=>false) w)):=yBn s.size qo w;clear hq hd a2;go_enter func240,ntmps240;go_wp2_with fail;refine a4.mono ?_;rintro r w1 ⟨g,cp,ρ,γ,rfl,HM,a3⟩;have hcp:=HM.out.out.caps;go_wp2;go_loopw[6] (λiv wr=>∃(k:Nat)(f:Nat->Nat->Bool),k<=s.size/\iv=(xi k)/\Hid (MatO wr w g cp (s.size+1) (s.size+1) ρ γ f/\(∀i j,i<=j->j<s.size+1->f i j=(decide (j=i+1) && (((sb s)[i]?).map (λx=>x==c)).getD false && decide (i<k)))/\Below w w wr)) (λiv _=>s.size-(intOf iv).toNat);case atStart=>exact⟨0,_,zero_le _,rfl,HM.out,λi j _ _=>by simp,a3⟩
 case round=>
  obtain⟨k,f,hk,rfl,HJ⟩:=hrel;by_cases hlt:k<s.size
  .have zk:(k:Int)<(s.size:Int):=qo
   obtain⟨x,hx⟩:∃x,(sb s)[k]?=some x:=qg (by rw[yAe];exact hlt);obtain⟨_,gx⟩:=yAr hx;have c0:(xk wr g k (slV (ρ k) (s.size+1) (γ k)):Prop):=HJ.1.cell qo;have a0:k<s.size+1:=qo
   have c1:(xk wr (ρ k) (k+1) (f k (k+1)):Prop):=(HJ.1.row k a0).cell qo;have y1:wr.frozen? (xd (ρ k) (k+1))=false:=World.ownsRow.frozenAt (HJ.1.row k a0) _;have a9:=(HJ.1.row k a0).caps;obtain⟨bv,a1⟩:=qE (((c.toNat:Int)==(x.toNat:Int)));have HV:Hid (bv=(λx=>x==c) x):=by show _=_;rw[a1,Bool.eq_iff_iff,beq_iff_eq,beq_iff_eq];exact⟨λq=>UInt8.toNat_inj.1 qo,λq=>by rw[q]⟩
   have HX:Hid ((sb s)[k]?=some x):=hx;clear hx;go_upto_region 7 with fail;refine yAf 99 (λ_=>True) qk ?_;refine ja 0 True.intro ?_;refine jb True.intro ?_;refine ja 2 True.intro (v:=false) ?_;iterate 8 refine jb True.intro ?_
   refine kO 11 True.intro ?_;refine qD ?_;go_upto_region 9 with fail;refine yAf 99 (λ_=>True) qk ?_;refine ja 0 True.intro ?_;iterate 5 refine jb True.intro ?_
   refine kO 6 True.intro ?_;refine qD ?_;rw[<-a1];clear a1;have HJ2:Hid (MatO (wr.setCell (xd (ρ k) (k+1)) bv).drew.drew w g cp (s.size+1) (s.size+1) ρ γ (upd2 f k (k+1) bv)/\(∀i j,i<=j->j<s.size+1->upd2 f k (k+1) bv i j=(decide (j=i+1) && (((sb s)[i]?).map (λx=>x==c)).getD false && decide (i<k+1)))/\Below w w (wr.setCell (xd (ρ k) (k+1)) bv).drew.drew):=by
    refine⟨(HJ.1.set a0 qo bv).below ((Below.refl _ _).drew.drew),λi j hij hj=>?_,(yAc HJ.2.2 (HJ.1.row k a0).lt.1 _ _).drew.drew⟩;unfold upd2;by_cases e:i=k/\j=k+1
    .rw[if_pos e,e.1,e.2,HX.out,HV.out];simp
    .rw[if_neg e,HJ.2.1 i j hij hj];by_cases e2:j=i+1
     .have h1:i≠k:=λq=>e ⟨q,qo⟩;have h2:decide (i<k)=decide (i<k+1):=by rw[decide_eq_decide];omega
      rw[h2]
     .simp[e2]
   exact xAn
  .exact xGq
theorem xFv(hs:s.size<=200)(q:ByteArray)(d:UInt8)(hq:sb q= [d])(hd:d=46) w:Calls prog 240 #[q,s] w (MxG s (Lg (.cls (λ_=>true))) w):=by
 have a3:q.size=1:=by rw[<-yAe,hq];rfl
 obtain⟨_,gq⟩:=yAr (s:=q) (i:=0) (x:=d) (by rw[hq];rfl);have a9:((d.toNat:Int)==40)=false:=by rw[hd];rfl
 have z46:((d.toNat:Int)==46)=true:=by rw[hd];rfl
 have a7:((d.toNat:Int)==92)=false:=by rw[hd];rfl
 have a8:((d.toNat:Int)==91)=false:=by rw[hd];rfl
 have zq:(0:Int)<(q.size:Int):=qo
 have a6:Hid (Calls prog 223 #[xi s.size] w (MaP (s.size+1) (λ_ _=>false) w)):=yBn s.size qo w;clear hq hd a3;go_enter func240,ntmps240;go_wp2_with fail;refine a6.mono ?_;rintro r w1 ⟨g,cp,ρ,γ,rfl,HM,a5⟩;have a4:=HM.out.out.caps;go_wp2;go_loopw[6] (λiv wr=>∃(k:Nat)(f:Nat->Nat->Bool),k<=s.size/\iv=(xi k)/\Hid (MatO wr w g cp (s.size+1) (s.size+1) ρ γ f/\(∀i j,i<=j->j<s.size+1->f i j=(decide (j=i+1) && (((sb s)[i]?).map (λ_=>true)).getD false && decide (i<k)))/\Below w w wr)) (λiv _=>s.size-(intOf iv).toNat);case atStart=>exact⟨0,_,zero_le _,rfl,HM.out,λi j _ _=>by simp,a5⟩
 case round=>
  obtain⟨k,f,hk,rfl,HJ⟩:=hrel;by_cases hlt:k<s.size
  .have zk:(k:Int)<(s.size:Int):=qo
   obtain⟨x,hx⟩:∃x,(sb s)[k]?=some x:=qg (by rw[yAe];exact hlt);obtain⟨_,gx⟩:=yAr hx;have c0:(xk wr g k (slV (ρ k) (s.size+1) (γ k)):Prop):=HJ.1.cell qo;have a0:k<s.size+1:=qo
   have c1:(xk wr (ρ k) (k+1) (f k (k+1)):Prop):=(HJ.1.row k a0).cell qo;have y1:wr.frozen? (xd (ρ k) (k+1))=false:=World.ownsRow.frozenAt (HJ.1.row k a0) _;have aa:=(HJ.1.row k a0).caps;obtain⟨bv,a1⟩:=qE ((true));have HV:Hid (bv=(λ_=>true) x):=by exact a1
   have HX:Hid ((sb s)[k]?=some x):=hx;clear hx;go_upto_region 7 with fail;refine yAf 99 (λ_=>True) qk ?_;refine ja 0 True.intro ?_;refine jb True.intro ?_;refine ja 2 True.intro (v:=true) ?_;iterate 8 refine jb True.intro ?_
   refine kO 11 True.intro ?_;refine qD ?_;have a2:(Value.bool true)=Value.bool bv:=by rw[a1]
   rw[a2];clear a1 a2;have HJ2:Hid (MatO (wr.setCell (xd (ρ k) (k+1)) bv).drew w g cp (s.size+1) (s.size+1) ρ γ (upd2 f k (k+1) bv)/\(∀i j,i<=j->j<s.size+1->upd2 f k (k+1) bv i j=(decide (j=i+1) && (((sb s)[i]?).map (λ_=>true)).getD false && decide (i<k+1)))/\Below w w (wr.setCell (xd (ρ k) (k+1)) bv).drew):=by
    refine⟨(HJ.1.set a0 qo bv).below ((Below.refl _ _).drew),λi j hij hj=>?_,(yAc HJ.2.2 (HJ.1.row k a0).lt.1 _ _).drew⟩;unfold upd2;by_cases e:i=k/\j=k+1
    .rw[if_pos e,e.1,e.2,HX.out,HV.out];simp
    .rw[if_neg e,HJ.2.1 i j hij hj];by_cases e2:j=i+1
     .have h1:i≠k:=λq=>e ⟨q,qo⟩;have h2:decide (i<k)=decide (i<k+1):=by rw[decide_eq_decide];omega
      rw[h2]
     .simp[e2]
   exact xAn
  .obtain rfl:k=s.size:=qo
   have zk:¬(s.size:Int)<(s.size:Int):=qo
   go_wp2;go_ret;refine⟨g,cp,ρ,γ,f,rfl,a4.1,⟨HJ.1.read,(yNo (τ:=λ_=>true) (λi j hij hj=>?_)).iff (λ_ _ _ _=>rfl) (λy=>by simp[Lg])⟩,HJ.2.2⟩;rw[yAe]at hj;rw[HJ.2.1 i j hij hj];by_cases e:j=i+1
   .have h1:i<s.size:=qo
    simp[h1]
   .simp[e]
theorem yZ9(H:AltW s m)(q:ByteArray)(ys:List UInt8)(n:Nat)(os:List (List Pat))(hq:sb q=40::ys++ [41])(hqm:q.size<=m+1)(hqs:q.size<=200)(hG:AltG (yAm n) os ys) w:Calls prog 240 #[q,s] w (MxG s (LgA os) w):=by
 have a0:q.size=ys.length+2:=by rw[<-yAe,hq];simp
 obtain⟨d,hd⟩:=qE (40:UInt8);obtain⟨_,gq⟩:=yAr (s:=q) (i:=0) (x:=d) (by rw[hq,hd];rfl);have a2:((d.toNat:Int)==40)=true:=by rw[hd];rfl
 have zq:(0:Int)<(q.size:Int):=qo
 have hx:sb (q.extract 1 (q.size-1))=ys:=by rw[yB0 q qo,hq,a0];simp[cut]
 have HC:=qH1 (H n os _ w (by rw[<-yAe,hx];omega) (by rw[<-yAe,hx];omega) (by rw[hx];exact hG));obtain⟨M,hM⟩:=qE (q.size-1);have z1:(1:Int)<=(M:Int):=qo
 have z2:(M:Int)<=(q.size:Int):=qo
 have z3:((q.size:Int)-1)=(M:Int):=qo
 have z4:=hqs;rw[<-hM]at HC;clear hq hqm hqs hG hx hd a0 hM;go_enter func240,ntmps240;go_wp2_with fail;refine HC.mono ?_;rintro r w1 ⟨g,cp,ρ,γ,f,rfl,a1,HM,hb⟩;go_wp2_with fail;go_ret;exact⟨g,cp,ρ,γ,f,rfl,a1,HM,hb⟩
theorem yHh(c k:Int)(w:World):(Instr.field 158 (.agg #[xi c,xi k]) 0).run prog w=.ok (xi c) w:=qk
theorem xCa(hs:s.size<=200)(H:AltW s m):AtmW s (m+1):=by
 intro n t q w a1 hq hG;cases n with
 |zero=>exact hG.elim
 |succ n=>
  rcases hG with⟨c,h1,h2,rfl⟩|⟨h1,rfl⟩|⟨c,h1,rfl⟩|⟨ys,os,h1,h2,rfl⟩|⟨p,i,k,f,h1,h2,h3,rfl⟩
  .unfold yB3 at h2;exact xCb hs q c h1 (λe=>h2 (.inr (.inl e))) (λe=>h2 (.inr (.inr (.inr (.inl e))))) (λe=>h2 (.inr (.inr (.inr (.inr e))))) (λe=>h2 (.inr (.inr (.inl e)))) w
  .exact xFv hs q 46 h1 rfl w
  .exact xFu hs q 92 c h1 rfl w
  .exact yZ9 H q ys n os h1 a1 hq h2 w
  .have hg:=yBj h2;have a2:=hg.2;have hl:(sb q).length=k-i:=by rw[h3,yAw a2]
   have a0:∀t,i+t<k->(sb q)[t]?=p[i+t]?:=λt ht=>by rw[h3];unfold cut;rw[getElem?_take,if_pos qo,getElem?_drop]
   have e:=yFd (q:=sb q) (j:=1) h2 (λt ht=>by rw[a0 (1+t) qo];congr 1;omega)
   refine xFw hs q f (by have:=a0 0 qo;rw[this];exact h1) hq ?_ w;rw[e];have:1+(k-(i+1))=q.size:=by rw[<-yAe,hl];omega
   rw[this]
theorem xA3(hs:s.size<=200):SeqW s 0:=by
 intro n ts p w a3 hp hG;have h0:sb p= []:=length_eq_zero_iff.1 (by rw[yAe];omega);cases ts with
 |nil=>
  have hz:p.toList= []:=by rw[ByteArray.toList_eq];exact h0
  have q1:(p.toList== [])=true:=by rw[hz];rfl
  have HE:=qH1 (yFr hs w);clear hz h0 hG;go_enter func225,ntmps225;go_wp2_with fail;refine HE.mono ?_;rintro e w1 ⟨g1,p1,ρ1,γ1,f1,rfl,a1,a0,a2⟩;have HR:Hid (MxG s (LgS []) w (.returned (slV g1 (s.size+1) p1)) w1):=⟨g1,p1,ρ1,γ1,f1,rfl,a1,⟨a0.1,a0.2.iff (λ_ _ _ _=>rfl) (λx=>by simp[LgS])⟩,a2⟩;go_wp2;go_ret;exact HR.out
 |cons t ts=>
  obtain⟨a,as_,ops,hX,_⟩:=yY hG;have h1:=hX.len;have h2:=hX.le;omega
theorem yJj(hs:s.size<=200):∀m,SeqW s m
 |0=>xA3 hs
 |m+1=>xA4 hs (xCa hs (yVi hs (yJj hs m))) (yJj hs m)
theorem xAb(hs:s.size<=200)(m:Nat):AltW s m:=yVi hs (yJj hs m)
theorem yGo(p s:ByteArray)(hpm:p.size<=maxLen)(hc0:¬(yAj (sb p)).1=0)(w:World):(xf 169 #[p,s] w false:Prop):=by
 obtain⟨c,hc⟩:=qE ((yAj (sb p)).1);obtain⟨k,hk⟩:=qE (((yAj (sb p)).2:Int):Int);have HS:Hid (∀w,(xf 89 #[p] w (.agg #[xi c,xi k]):Prop)):=λw=>by rw[hc,hk];exact yB6 p w hpm
 have a0:=yHh c k;rw[<-hc]at hc0;clear hc hk;exact xC3
theorem yLa(p s:ByteArray)(hpm:p.size<=maxLen)(hs:200<s.size)(w:World):(xf 169 #[p,s] w false:Prop):=by
 by_cases hc0:(yAj (sb p)).1=0
 .obtain⟨k,hk⟩:=qE (((yAj (sb p)).2:Int):Int);have HS:Hid (∀w,(xf 89 #[p] w (.agg #[xi 0,xi k]):Prop)):=λw=>by rw[<-hc0,hk];exact yB6 p w hpm
  have a0:=yHh 0 k;have zs:¬(s.size:Int)<=200:=qo
  clear hk hc0;exact xC3
 .exact yGo p s hpm hc0 w
theorem yPf(p s:ByteArray)(hpm:p.size<=maxLen)(hc0:(yAj (sb p)).1=0)(hs:s.size<=200)(n:Nat)(os:List (List Pat))(hG:AltG (yAm n) os (sb p))(w:World):Calls prog 169 #[p,s] w λe w'=>∃b:Bool,e=.returned b/\Hid (b=true↔LgA os (sb s))/\Below w w w':=by
 have hp:p.size<=200:=by apply Classical.byContradiction;intro h6;unfold yAj at hc0;rw[if_pos (by rw[yAe];omega)]at hc0;exact absurd hc0 qj
 obtain⟨k,hk⟩:=qE (((yAj (sb p)).2:Int):Int);have HS:Hid (∀w,(xf 89 #[p] w (.agg #[xi 0,xi k]):Prop)):=λw=>by rw[<-hc0,hk];exact yB6 p w hpm
 have HA:Hid (∀w,Calls prog 205 #[p,s] w (MxG s (LgA os) w)):=λw=>xAb hs 200 n os p w hp hp hG;have a1:=yHh 0 k;have zs:(s.size:Int)<=200:=qo
 clear hk hc0 hG;go_enter func169,ntmps169;go_wp2_with fail;refine(HS.out _).mono ?_;rintro e w1 ⟨rfl,a0⟩;go_wp2_with fail;refine(HA.out _).mono ?_;rintro e w2 ⟨g,cp,ρ,γ,f,rfl,a2,HM,hb2⟩;have c0:=HM.1.out 0 qo;have c1:=HM.1.row 0 s.size qo qo;have a3:=HM.1.cap 0 qo;have z9:(s.size:Int)<((s.size+1:Nat):Int):=qo
 have z8:(s.size:Int)<(s.size:Int)+1:=qo
 have z7:(0:Int)<(s.size:Int)+1:=qo
 have HB:Hid (f 0 s.size=true↔LgA os (sb s)):=by
  have h:=HM.2 0 s.size qo (by rw[yAe];omega);have e:cut (sb s) 0 s.size=sb s:=by unfold cut;rw[drop_zero,Nat.sub_zero,<-yAe,take_length]
  rw[e]at h;exact h
 go_wp2;go_ret;exact⟨_,rfl,HB,a0.trans (hb2.mono a0.size)⟩
structure PsJ(p:ByteArray)(n:Nat)(w:World)(ts:List Pat)(i g cp:Nat)(xs:List UInt8)(us:List Pat)(wr:World):Prop where
 seq:SeqG (yAm n) us (cut (sb p) i p.size)
 pre:yBh ts=(xs++(yBh us).1,(yBh us).2)
 own:OwnY wr (w+1) g cp xs
 res:yA wr w 268 2 w [xe,false]
 below:Below w w wr
theorem PsJ.move{g:Nat}{xs:List UInt8}{us:List Pat}(h:PsJ p n w ts i g cp xs us wr)(hb:Below wr wr w'):PsJ p n w ts i g cp xs us w':=
 ⟨h.seq,h.pre,h.own.below hb,h.res.below hb,h.below.trans (hb.mono h.below.size)⟩
theorem yYg(c k:Int)(w:World):(Instr.field 158 (.agg #[xi c,xi k]) 0).run prog w=.ok (xi c) w:=qk
theorem yJb(p:ByteArray)(w:World)(hpm:p.size<=maxLen)(r:List UInt8×Bool)(hr:yVk p r):(xf 171 #[p] w (.agg #[.string ⟨r.1.toArray⟩,r.2]):Prop):=by
 have HR:=qH1 hr;clear hr;obtain⟨W0,ae⟩:=qW (xw w #[xe,false] 268);have a6:Hid (yA W0 w 268 2 w [xe,false]/\Below w w W0/\w.heap.size+1<=W0.heap.size):=by rw[ae];exact⟨yAa w _ qr rfl,qB,by simp⟩
 obtain⟨c,hc⟩:=qE ((yAj (sb p)).1);obtain⟨k,hk⟩:=qE (((yAj (sb p)).2:Int):Int);have HC:=qH1 hc;have HS:Hid (∀w,(xf 89 #[p] w (.agg #[xi c,xi k]):Prop)):=λw=>by rw[hc,hk];exact yB6 p w hpm
 have aB:=yYg c k;clear hc hk;have zero:∀w2:World,yA w2 w 268 2 w [xe,false]->Below w w w2->Hid (yA (xt (w2.setCell (xd w 0) xe) w 1 false) w 268 2 w [xe,false]/\Below w w (xt (w2.setCell (xd w 0) xe) w 1 false)):=λw2 h1 h2=>
  ⟨yCr h1 _ _,yAc (yAc h2 qr 0 _) qr 1 _⟩
 have HZ:=qH1 zero;clear zero;go_enter func171,ntmps171;go_upto_region 1 with fail;rw[<-ae];clear ae;have s0:=a6.2.1.size;by_cases hc0:c=0
 .have q0:(yAj (sb p)).1=0:=by rw[<-HC.out];exact hc0
  obtain⟨os,ho⟩:=ySm p hpm q0;have hp:p.size<=200:=by apply Classical.byContradiction;intro h6;unfold yAj at q0;rw[if_pos (by rw[yAe];omega)]at q0;exact absurd q0 qj
  have af:=qH1 (HR.2 q0 os ho);obtain⟨n,hg⟩:=ho.gr;obtain⟨m,hm,hT⟩:=hg.tokn;have HT:=qH3 hm hT hg;subst hc0;clear q0 ho hg hm hT HR HC;go_wp2_with fail;refine(HS.out W0).mono ?_;rintro e w1 ⟨rfl,a4⟩;have a3:=qH3 (a6.1.below a4) (a6.2.1.trans (a4.mono s0)) (by have:=a6.2.2;have:=a4.size;omega:w.heap.size+1<=w1.heap.size);have s1:=a3.2.1.size;clear a4 a6 HS;go_wp2_with fail;refine(yQ hp HT.2.1 w1).mono ?_;rintro e w2 ⟨g2,aC,rfl,hb2⟩;have a5:=qH3 (a3.1.below hb2) (a3.2.1.trans (hb2.mono s1)) (by have:=a3.2.2;have:=hb2.size;omega:w.heap.size+1<=w2.heap.size);clear hb2 a3;obtain⟨r0,r1⟩:=a5.1.c2;obtain⟨f0,f1⟩:=a5.1.f2;by_cases hm0:m=0
  .subst hm0;obtain⟨ts,aq,hS⟩:∃ts,r=yBh ts/\SeqG (yAm n) ts (cut (sb p) 0 p.size):=by
    have h1:=HT.1;have h2:=HT.2.2;have h3:=af.out;match os,h1,h2,h3 with
    | [ts],_,h2,h3=>exact⟨ts,h3,h2⟩
   subst aq;have ao:=a5.2.2;obtain⟨W3,aa⟩:=qW (xw w2 #[] 5);have an:Hid (PsJ p n w ts 0 w2 0 [] ts W3):=by
    have al:=qN aa
    refine⟨hS,by simp,?_,a5.1.below al,a5.2.1.trans (al.mono qo)⟩;rw[aa];exact yU0 w2 ao
   clear hS a5 HT af r0 r1 f0 f1 HZ;go_upto_region 4 with fail;rw[<-aa];clear aa;go_wp2;go_loopw[3,4] (λo iv wr=>∃(i g cp:Nat)(xs:List UInt8)(us:List Pat),iv=(xi i)/\i<=p.size/\xs.length<=i/\o=(xg g xs.length cp)/\PsJ p n w ts i g cp xs us wr) (λ_ iv _=>p.size-(intOf iv).toNat);case atStart=>exact⟨0,_,0,[],ts,rfl,zero_le _,zero_le _,rfl,an.out⟩
   case round=>
    obtain⟨i,g,cp,xs,us,rfl,az,aw,rfl,hJ⟩:=hrel;have HJ:=qH1 hJ;have aA:=hJ.own.lt;have ax:=hJ.below.size;clear hJ an;by_cases hlt:i<p.size
    .have zi:(i:Int)<(p.size:Int):=qo
     obtain⟨t,us',j,c,a,ah,a8⟩:=yNi HJ.seq (by rw[yAe];exact Nat.le_refl _) hlt;have a7:=qH2 ah a8;have hij:=a8.lt;have ar:=a8.le;obtain⟨_,gi⟩:=yAr a8.at0;clear ah a8;go_wp2_with fail;refine(yKf hp n i j a wr a7.2.atom ar).mono ?_;rintro e w6 ⟨rfl,ad⟩;have HJ6:=qH1 (HJ.move ad);have ay:=ad.size;clear ad HJ;rcases a7.2.what with⟨b,rfl,hs,hn,hb,hS⟩|⟨ak,hw⟩
     .obtain⟨j0,rfl⟩:∃j0,j=j0+1:=⟨j-1,qo⟩;obtain⟨_,gb⟩:=yAr (show(sb p)[j0]?=some b from hb);have HB:=qH2 hn hS;have HP:Hid (yBh ts=(xs++ [b]++(yBh us').1,(yBh us').2)):=by show yBh ts=_;rw[HJ6.pre,a7.1];simp[yBh]
      have au:(j0:Int)<(p.size:Int):=qo
      clear hn hb hS a7;by_cases ac:j0+1<p.size
      .obtain⟨d,hd⟩:∃d,(sb p)[j0+1]?=some d:=qg (by rw[yAe];exact ac);obtain⟨_,gd⟩:=yAr hd;have aj:=HB.1 d hd ac;have ag:(j0:Int)+1<(p.size:Int):=qo
       have a9:Hid (Calls prog 142 #[.int .u8 (d.toNat:Int)] w6 λe w'=>e=.returned false/\w'=w6):=by have:=yBi d w6;rw[decide_eq_false aj]at this;exact this
       clear hd aj;rcases hs with hs|rfl
       .skip;have a1:Hid (Calls prog 208 #[.int .u8 (c.toNat:Int)] w6 λe w'=>e=.returned false/\w'=w6):=by have:=yBc c w6;rw[decide_eq_false hs]at this;exact this
        clear hs;go_wp2_with fail;refine a1.mono ?_;rintro e' w7 ⟨rfl,a0⟩;rw[a0];clear a0;go_wp2_with fail;refine a9.mono ?_;rintro e' w8 ⟨rfl,a2⟩;rw[a2];clear a2;go_wp2_with (at_builtin;refine yBg _ rfl _ _ rfl (w+1) g cp xs.length w6 0 1 1 xs [b] rfl rfl rfl rfl ?hO ?hc ?hl ?hb ?_);case hO=>exact HJ6.own.below (qB)
        case hc=>exact(yGu w6 qr b rfl).at
        case hl=>first|omega|(simp;omega)
        case hb=>first|omega|(simp;omega)
        exact xAs
       .skip;have a1:=qH1 (yBc 92 w6);go_wp2_with fail;refine a1.mono ?_;rintro e' w7 ⟨rfl,a0⟩;rw[a0];clear a0;go_wp2_with fail;refine a9.mono ?_;rintro e' w8 ⟨rfl,a2⟩;rw[a2];clear a2;go_wp2_with (at_builtin;refine yBg _ rfl _ _ rfl (w+1) g cp xs.length w6 0 1 1 xs [b] rfl rfl rfl rfl ?hO ?hc ?hl ?hb ?_);case hO=>exact HJ6.own.below (qB)
        case hc=>exact(yGu w6 qr b rfl).at
        case hl=>first|omega|(simp;omega)
        case hb=>first|omega|(simp;omega)
        exact xAs
      .have ag:¬(j0:Int)+1<(p.size:Int):=qo
       rcases hs with hs|rfl
       .skip;have a1:Hid (Calls prog 208 #[.int .u8 (c.toNat:Int)] w6 λe w'=>e=.returned false/\w'=w6):=by have:=yBc c w6;rw[decide_eq_false hs]at this;exact this
        clear hs;go_wp2_with fail;refine a1.mono ?_;rintro e' w7 ⟨rfl,a0⟩;rw[a0];clear a0;go_wp2_with (at_builtin;refine yBg _ rfl _ _ rfl (w+1) g cp xs.length w6 0 1 1 xs [b] rfl rfl rfl rfl ?hO ?hc ?hl ?hb ?_);case hO=>exact HJ6.own.below (qB)
        case hc=>exact(yGu w6 qr b rfl).at
        case hl=>first|omega|(simp;omega)
        case hb=>first|omega|(simp;omega)
        exact xAs
       .skip;have a1:=qH1 (yBc 92 w6);go_wp2_with fail;refine a1.mono ?_;rintro e' w7 ⟨rfl,a0⟩;rw[a0];clear a0;go_wp2_with (at_builtin;refine yBg _ rfl _ _ rfl (w+1) g cp xs.length w6 0 1 1 xs [b] rfl rfl rfl rfl ?hO ?hc ?hl ?hb ?_);case hO=>exact HJ6.own.below (qB)
        case hc=>exact(yGu w6 qr b rfl).at
        case hl=>first|omega|(simp;omega)
        case hb=>first|omega|(simp;omega)
        exact xAs
     .have HP:Hid (yBh ts=(xs,false)):=by show yBh ts=_;rw[HJ6.pre,a7.1,yGt ak];simp
      clear a7 ak;rcases hw with⟨hs,am⟩|⟨hs,d,hd,ai,ac⟩
      .have av:((c.toNat:Int) != 92)=true:=by have:=yA8 (c:=92) am;simpa using this
       have a1:Hid (Calls prog 208 #[.int .u8 (c.toNat:Int)] w6 λe w'=>e=.returned true/\w'=w6):=by have:=yBc c w6;rw[decide_eq_true hs]at this;exact this
       clear hs am;go_wp2_with fail;refine a1.mono ?_;rintro e' w7 ⟨rfl,a0⟩;rw[a0];clear a0;exact xD6
      .obtain⟨_,gd⟩:=yAr hd;have ag:(j:Int)<(p.size:Int):=qo
       have a9:Hid (Calls prog 142 #[.int .u8 (d.toNat:Int)] w6 λe w'=>e=.returned true/\w'=w6):=by have:=yBi d w6;rw[decide_eq_true ai]at this;exact this
       clear hd ai;rcases hs with hs|rfl
       .skip;have a1:Hid (Calls prog 208 #[.int .u8 (c.toNat:Int)] w6 λe w'=>e=.returned false/\w'=w6):=by have:=yBc c w6;rw[decide_eq_false hs]at this;exact this
        clear hs;go_wp2_with fail;refine a1.mono ?_;rintro e' w7 ⟨rfl,a0⟩;rw[a0];clear a0;go_wp2_with fail;refine a9.mono ?_;rintro e' w8 ⟨rfl,a2⟩;rw[a2];clear a2;exact xD6
       .skip;have a1:=qH1 (yBc 92 w6);go_wp2_with fail;refine a1.mono ?_;rintro e' w7 ⟨rfl,a0⟩;rw[a0];clear a0;go_wp2_with fail;refine a9.mono ?_;rintro e' w8 ⟨rfl,a2⟩;rw[a2];clear a2;exact xD6
    .have zi:¬(i:Int)<(p.size:Int):=qo
     obtain rfl:i=p.size:=qo
     have HP:Hid (yBh ts=(xs,true)):=by show yBh ts=_;rw[HJ.pre,yNj HJ.seq (by rw[yAe];exact Nat.le_refl _)];simp[yBh]
     have hcv:=yG7 HJ.own;obtain⟨r0,r1⟩:=HJ.res.c2;obtain⟨f0,f1⟩:=HJ.res.f2;obtain⟨W9,hW9⟩:=qW (set2 wr w (.string ⟨xs.toArray⟩) true);have HW9:Hid (yA W9 w 268 2 w [.string ⟨xs.toArray⟩,true]/\Below w w W9):=by rw[hW9];exact⟨yCr HJ.res _ _,yAc (yAc HJ.below qr 0 _) qr 1 _⟩
     obtain⟨p0,p1⟩:=HW9.1.c2;unfold set2 at hW9;go_wp2;rw[<-hW9,HP.out];refine bodyPost_ret (v:=.agg #[.string ⟨xs.toArray⟩,true]) (by simp[results,results171,go_sem,p0,p1]) rfl ⟨rfl,HW9.2⟩
  .have ab:r=([],false):=by
    have h1:=HT.1;rw[af.out];match os,h1 with
    | [],_=>rfl
    | [_],h1=>simp at h1;omega
    |_::_::_,_=>rfl
   subst ab;have zm:(1:Int)<(m:Int)+1:=qo
   have HZ9:=HZ.out w2 a5.1 a5.2.1;obtain⟨p0,p1⟩:=HZ9.1.c2;obtain⟨W9,hW9⟩:=qW (xt (w2.setCell (xd w 0) xe) w 1 false);exact xGb
 .have ab:=HR.1 (by rw[<-HC.out];exact hc0);subst ab;have zc:(c != 0)=true:=by simpa using hc0
  clear HR HC;go_wp2_with fail;refine(HS.out W0).mono ?_;rintro e w1 ⟨rfl,a4⟩;have a3:=qH2 (a6.1.below a4) (a6.2.1.trans (a4.mono s0));clear a4 a6;obtain⟨r0,r1⟩:=a3.1.c2;obtain⟨f0,f1⟩:=a3.1.f2;have HZ9:=HZ.out w1 a3.1 a3.2;obtain⟨p0,p1⟩:=HZ9.1.c2;obtain⟨W9,hW9⟩:=qW (xt (w1.setCell (xd w 0) xe) w 1 false);exact xGb
end Go.Proofs.YtnnagkfoiganfaaGreatDoor
