import Derived.Test.YtnnagkfoiganfaaGreatDoorHkAK
namespace Go.Proofs.YtnnagkfoiganfaaGreatDoor
open Go.ChangeShapes Go.WideShapes Go.ChangeAt Go.RowKit Go.Deep XD XI XU XG XP XK XW XT XF XE XH _root_.List _root_.Nat XY Go.Shelf Go.Proofs.Tryz
open _root_.Go renaming wp_region_noPanic->AJ,info_parts->AO,run_append_own_at->AQ,wpIn_wide->AS,NoPanic->AU
open _root_.Go.Obj renaming cells->AF
open _root_.Go.Region renaming wanted->AA
open _root_.List renaming replicate->AB,length_singleton->AD,getElem?_append->AE,length_append->AG,append_assoc->AH,getElem?_eq_some_iff->AK,length_cons->AN
open _root_.Nat renaming le_refl->AC,zero_le->AI,add_assoc->AL,le_of_lt->AM,reduceAdd->AP,zero_add->AR,le_succ_of_le->AT
set_option linter.unusedVariables false
set_option linter.unusedSimpArgs false
set_option maxRecDepth 100000
set_option maxHeartbeats 64000000
variable {W:Ww} {c:Ent} {cs0 cs:List Ctr} {hints:Bool} {n' off g r b:Nat} {X:List Ent} {S:Nat->Prop} {Q:Exit->Act->Ww->Prop} {K:Act->Ww->Prop} {ops:Array Oper} {L M:List Ix} {d e:Int} {ds:List Int} {bs:List Bk} {t:CT} {xs:List Nd}
abbrev Ctr.five(k:Ctr):List Vv:= [.bool k.used,.string k.j,.string k.E,.string k.C,.int .i64 k.count]
abbrev Ctr.v(k:Ctr):Vv:=.agg #[k.used,k.j,k.E,k.C,xi k.count]
theorem yGm(k:Ctr):k.five.length=5:=rfl
theorem xEn(k:Ctr):∀u∈k.five,u.oneCell'=true:=λu hu=>by simp at hu;rcases hu with rfl|rfl|rfl|rfl|rfl<;>rfl
theorem Tryz.infoCtr:(prog.info? 198).map (λi=>(i.zero,i.size,i.bytes))=some (some newC.v,5,64):=qk
theorem Tryz.infoItm:(prog.info? 115).map (λi=>(i.zero,i.size,i.bytes))=some (some (yBg noH).v,4,32):=qk
abbrev yF6(w:Ww)(O g cap:Nat)(es:List Ctr):Prop:=OwnG Ctr.five 5 198 w O g cap es
abbrev xH7(w:Ww)(O g cap:Nat)(es:List It):Prop:=OwnG It.four 4 115 w O g cap es
theorem yLt(m:Nat)(w:Ww)(hm:m<=1000):Calls prog 57 #[xi m] w λe w'=>∃g cp,e=.returned (xg g m cp)/\yF6 w' w g cp (AB m newC)/\Below w w w':=by
 obtain⟨W1,a3⟩:=qW (xw w #[] 198);have HS:Hid (yF6 W1 w w 0 (AB 0 newC)/\Below w w W1):=by rw[a3];exact⟨yTa w qr,qB⟩
 go_enter func57,ntmps57;go_upto_region 2 with fail;rw[<-a3];clear a3;go_wp2;go_loopw[3,4] (λov iv wr=>∃(i g cp:Nat),i<=m/\iv=(xi i)/\ov=(xg g i cp)/\Hid (yF6 wr w g cp (AB i newC)/\Below w w wr)) (λ_ iv _=>m-(intOf iv).toNat);case atStart=>exact⟨0,_,0,AI _,rfl,rfl,HS.out⟩
 case round=>
  clear HS;obtain⟨i,g,cp,hi,rfl,rfl,HJ⟩:=hrel;have a7:=HJ.1.lt;have sr:=HJ.2.size;by_cases hlt:i<m
  .have z:(i:Int)<(m:Int):=qo
   obtain⟨W2,a0⟩:=qW (xw wr #[false,xe,xe,xe,xi 0] 198);have hb2:=qN a0
   have a1:=qH4 (HJ.1.k hb2) (HJ.2.trans (hb2.mono sr)) (by rw[a0];exact yBj wr newC.five 198:(∀j u,newC.five[j]?=some u->(xk W2 wr j u:Prop))) (by simp:i=(AB i newC).length);have s2:=hb2.size;clear hb2;go_wp2_with (at_builtin;(try rw[<-a0]);refine yE9 yGm _ rfl _ _ 110 rfl underlying110 Tryz.infoCtr rfl qj qj xEn w g cp i wr 1 (AB i newC) newC rfl rfl a1.2.2.2 a1.1 a1.2.2.1 ?hl ?hb ?_);case hl=>rw[length_replicate];omega
   case hb=>omega
   intro g' a6 w' a5 a2 a8;have a4:W2.grownBy w' (some g):=by first|exact a2|(rw[a0];exact a2)
   have HR:=qH2 (by rw[replicate_succ'];exact a5:yF6 w' w g' a6 (AB (i+1) newC)) (a1.2.1.grown a4 qo (λj hj=>by cases hj;exact a7.1));clear a5 a2 a4 a8 a0;refine zY ?_;exact⟨i+1,g',a6,qo,by go_num,rfl,HR.out⟩
  .have z:¬(i:Int)<(m:Int):=qo
   obtain rfl:i=m:=qo
   go_wp2;go_ret;exact⟨g,cp,rfl,HJ.out⟩
structure MeI(n:Nd)(k:Ctr)(c:Ent)(w wr:Ww):Prop where
 n:yA wr w 83 7 w n.seven
 kc:yA wr w 198 5 (w+1) k.five
 c:yA wr w 70 5 (w+2) c.five
 r:yA wr w 198 5 (w+3) newC.five
 k:Below w w wr
variable {n:Nd} {w wr:Ww}
theorem MeI.setK{k k':Ctr}(h:MeI n k c w wr)(hW:W=setCs wr (w+1) 0 k'.five):MeI n k' c w W:=by
 have hc:Chg (λq=>q=w.heap.size+1) wr W:=by rw[hW];exact yAo (S:=λq=>q=w.heap.size+1) _ rfl _ _ _
 refine⟨h.n.i hc qo,by rw[hW];exact h.kc.setCs k'.five,h.c.i hc qo,h.r.i hc qo,Chg.k h.k hc h.k.size (λq e=>qo)⟩
theorem MeI.setR{k:Ctr}(h:MeI n k c w wr)(hW:W=setCs wr (w+3) 0 k.five):yA W w 198 5 (w+3) k.five/\Below w w W:=by
 have hc:Chg (λq=>q=w.heap.size+3) wr W:=by rw[hW];exact yAo (S:=λq=>q=w.heap.size+3) _ rfl _ _ _
 exact⟨by rw[hW];exact h.r.setCs k.five,Chg.k h.k hc h.k.size (λq e=>qo)⟩
theorem MeI.up{k:Ctr}(h:MeI n k c w wr)(v:Int):MeI n {k with count:=v} c w (xt wr (w+1) 4 (xi v)):=by have hc:Chg (λq=>q=w.heap.size+1) wr (xt wr (w+1) 4 (xi v)):=Chg.D _ _ _ _ rfl;exact⟨h.n.i hc qo,h.kc.set 4 _,h.c.i hc (by omega),h.r.i hc (by omega),Chg.k h.k hc h.k.size (λq e=>by omega)⟩
theorem MeI.new(n:Nd)(k:Ctr)(c:Ent)(w W0:Ww)(hW0:W0=(xw (((w.alloc (AF #[xi n.f,n.s,n.hi,n.t,xu n.lo,xu n.up,xi n.n] 83)).alloc (AF #[k.used,k.j,k.E,k.C,xi k.count] 198)).alloc (AF #[c.j,c.E,c.C,xu c.ts,c.val] 70)) #[false,xe,xe,xe,xi 0] 198)):MeI n k c w W0:=by obtain⟨a,b,d,e,f⟩:=box4 hW0;exact⟨a,b,d,e,f⟩
theorem yXm(n:Nd)(k:Ctr)(c:Ent)(w:Ww)(hk:n.f=11\/n.f=12\/n.f=13)(hc:0<=k.count/\k.count<=1000000):
  (xf 121 #[n.v,k.v,c.c] w (.tuple #[(yCm n k c).1,(yCm n k c).2.v]):Prop):=by
 obtain⟨W0,aa⟩:=qW (xw (((w.alloc (AF #[xi n.f,n.s,n.hi,n.t,xu n.lo,xu n.up,xi n.n] 83)).alloc (AF #[k.used,k.j,k.E,k.C,xi k.count] 198)).alloc (AF #[c.j,c.E,c.C,xu c.ts,c.val] 70)) #[false,xe,xe,xe,xi 0] 198);have H0:=qH1 (MeI.new n k c w W0 aa);obtain⟨sm,ab⟩:=qE (yOf n k c);have a4:=qH1 ab;obtain⟨k1,a3⟩:=qE (yC2 n k c);have a1:=qH2 a3 (by rw[a3];rfl:yCm n k c=if k1.count<n.n then(decide (¬n.f=13),{k1 with count:=k1.count+1})else(decide (n.f=13),k1));have af:0<=k1.count/\k1.count<=1000000:=by rw[a3];unfold yC2;split<;>simp_all
 obtain⟨M,hM⟩:=qE (yCm n k c);have HM:=qH1 hM;rw[<-hM];clear ab a3 hM;obtain⟨e1,h1⟩:∃b,(k.j.toList==c.j.toList)=b:=⟨_,rfl⟩;obtain⟨e2,h2⟩:∃b,(k.E.toList==c.E.toList)=b:=⟨_,rfl⟩;obtain⟨e3,h3⟩:∃b,(k.C.toList==c.C.toList)=b:=⟨_,rfl⟩;obtain⟨us,a6⟩:∃us,k.used=us:=⟨_,rfl⟩;obtain⟨kd,a7⟩:∃kd,n.f=kd:=⟨_,rfl⟩;have a5:Hid (sm=(us && e1 && (!decide (kd=11) || (e2 && e3)))):=by show _=_;rw[a4.out];unfold yOf eqB;rw[h1,h2,h3,a6,a7]
 have HU:=qH2 a6 a7;clear a6 a7;go_enter func121,ntmps121;go_upto_region 1 with fail;rw[<-aa];clear aa;have n0:=H0.n.z (j:=0) rfl;obtain⟨x0,x1,x2,x3⟩:=H0.kc.c4;obtain⟨y0,y1,y2⟩:=H0.c.c3;rw[HU.1]at x0;rw[HU.2]at n0 hk;go_cut[8] (λv wx=>v=(us && e1)/\wx=W0);case first=>
  cases us<;>cases e1
  all_goals
   go_wp2_with fail
   go_meet
   exact⟨rfl,rfl⟩
 case rest=>
  obtain⟨rfl,rfl⟩:=hcut;go_upto_if 21 with fail;go_cut[8] (λv wx=>v=sm/\wx=wc);case first=>
   obtain⟨s1,ac⟩:∃s1,(us && e1)=s1:=⟨_,rfl⟩;rw[ac]at a5|-;by_cases k11:kd=11
   .subst k11;cases s1<;>cases e2<;>cases e3
    all_goals
     go_wp2_with fail
     go_meet
     exact⟨by rw[a5.out];rfl,rfl⟩
   .have kb:=qn k11
    have ag:Hid (sm=s1):=by show _=_;rw[a5.out];simp[k11]
    go_wp2_with fail;go_meet;exact⟨by rw[ag.out],rfl⟩
  case rest=>
   obtain⟨rfl,rfl⟩:=hcut;go_upto_if 38 with fail;go_cut[] (λwx=>Hid (MeI n k1 c w wx));case first=>
    rcases(show sm=true\/sm=false by cases sm<;>simp)with rfl|rfl
    .have a2:k1=k:=by rw[a1.1];unfold yC2;rw[<-a4.out];rfl
     go_wp2_with fail;go_meet;rw[a2];exact H0.out
    .have a2:k1=⟨true,c.j,c.E,c.C,0⟩:=by rw[a1.1];unfold yC2;rw[<-a4.out];rfl
     have x4:=H0.kc.z (j:=4) rfl;have f:=H0.kc.frozen;obtain⟨W1,a9⟩:=qW (setCs wc (w+1) 0 (⟨true,c.j,c.E,c.C,0⟩:Ctr).five);have HR:Hid (MeI n k1 c w W1):=by rw[a2];exact H0.setK a9
     simp only[setCs,AP]at a9;clear a2;go_wp2_with fail;rw[<-a9];go_meet;exact HR.out
   case rest=>
    have H1:=qH1 hcut;clear hcut H0 a4 a5 n0 x0 x1 x2 x3 y0 y1 y2;have m0:=H1.n.z (j:=0) rfl;have m6:=H1.n.z (j:=6) rfl;have x4:=H1.kc.z (j:=4) rfl;have f4:=H1.kc.frozen 4;rw[HU.2]at m0;obtain⟨ct,ae⟩:∃ct,k1.count=ct:=⟨_,rfl⟩;obtain⟨nn,ad⟩:∃nn,n.n=nn:=⟨_,rfl⟩;rw[ae]at x4 af a1;rw[ad]at m6 a1;have fin:∀(k2:Ctr)(b:Bool)(W:Ww),MeI n k2 c w W->M=(b,k2)->Hid (∀V,V=setCs W (w+3) 0 k2.five->xk V (w+3) 0 k2.used/\xk V (w+3) 1 k2.j/\xk V (w+3) 2 k2.E/\xk V (w+3) 3 k2.C/\xk V (w+3) 4 (xi k2.count)/\Below w w V):=λk2 b W h9 hM9 V hV=>by obtain⟨q1,q2⟩:=h9.setR hV;exact⟨q1.z (j:=0) rfl,q1.z (j:=1) rfl,q1.z (j:=2) rfl,q1.z (j:=3) rfl,q1.z (j:=4) rfl,q2⟩
    have HF:=qH1 fin;clear fin;by_cases hl:ct<nn
    .obtain⟨k2,a0⟩:=qE ({k1 with count:=ct+1}:Ctr);have HMe:Hid (M=(decide (¬kd=13),k2)):=by show _=_;rw[HM.out,a1.2,iB hl,a0,HU.2]
     obtain⟨W2,a8⟩:=qW (xt wc (w+1) 4 (xi (ct+1)));have H2:Hid (MeI n k2 c w W2):=by rw[a0,a8];exact H1.up _
     clear a0;go_upto_region 9 with fail;rw[<-a8];clear a8 m0 m6 x4 f4 H1;have m0:=H2.n.z (j:=0) rfl;rw[HU.2]at m0;obtain⟨q0,q1,q2,q3,q4⟩:=H2.kc.c5;obtain⟨r0,r1,r2,r3,r4⟩:=H2.r.c5;have rf:=H2.r.frozen;obtain⟨V,hV⟩:=qW (setCs W2 (w+1+1+1) 0 k2.five);obtain⟨v0,v1,v2,v3,v4,hbV⟩:=(HF.out k2 _ W2 H2.out HMe.out).out V hV;exact xF9
    .obtain⟨k2,a0⟩:=qE (k1:Ctr);have HMe:Hid (M=(decide (kd=13),k2)):=by show _=_;rw[HM.out,a1.2,iA hl,a0,HU.2]
     have H2:Hid (MeI n k2 c w wc):=by rw[a0];exact H1.out
     clear a0;go_upto_region 9 with fail;clear m0 m6 x4 f4 H1;have m0:=H2.n.z (j:=0) rfl;rw[HU.2]at m0;obtain⟨q0,q1,q2,q3,q4⟩:=H2.kc.c5;obtain⟨r0,r1,r2,r3,r4⟩:=H2.r.c5;have rf:=H2.r.frozen;obtain⟨V,hV⟩:=qW (setCs wc (w+1+1+1) 0 k2.five);obtain⟨v0,v1,v2,v3,v4,hbV⟩:=(HF.out k2 _ wc H2.out HMe.out).out V hV;exact xF9
inductive MvR(l:List Ix)(hints:Bool):List Ent->List Ctr->Nat->Prop
 |nil (cs:List Ctr):MvR l hints [] cs 0
 |cons {c:Ent} {r:List Ent} {cs cs':List Ctr} {i:It} {n:Nat} (h:LkR pfxB l c [] ⟨0,[newI],cs⟩ (i,cs')) (hr:MvR l hints (if i.H=false/\hints=true then r.dropWhile (yAz i.G c)else r) cs' n):MvR l hints (c::r) cs (n+1)
theorem yYo{p:Ent->Bool}:∀(es:List Ent),es.drop (es.takeWhile p).length=es.dropWhile p
 | []=>rfl
 |a::es=>by
  rw[takeWhile_cons,dropWhile_cons]
  split
  .rw[AN,drop_succ_cons];exact yYo es
  .rfl
variable {l:List Ix} {row:List Ent} {n j m:Nat}
theorem MvR.step{hints:Bool}{cs0 cs cs':List Ctr}{c:Ent}{i:It}
  (h:∀k,MvR l hints (row.drop n) cs k->MvR l hints row cs0 (m+k)) (hc:row[n]?=some c) (hl:LkR pfxB l c [] ⟨0,[newI],cs⟩ (i,cs'))
  (hj:j=if i.H=false/\hints=true then n+1+((row.drop (n+1)).takeWhile (yAz i.G c)).length else n+1) (k:Nat) (ho:MvR l hints (row.drop j) cs' k):MvR l hints row cs0 (m+1+k):=by
 have⟨hn,hv⟩:=AK.1 hc;have a0:row.drop j=(if i.H=false/\hints=true then(row.drop (n+1)).dropWhile (yAz i.G c)else row.drop (n+1)):=by
  rw[hj];split
  .rw[<-yYo,drop_drop]
  .rfl
 rw[a0]at ho;have h1:=h _ (by rw[drop_eq_getElem_cons hn,hv];exact .cons hl ho);rwa [show m+(k+1)=m+1+k by omega]at h1
theorem MvR.done(h:∀k,MvR l hints (row.drop n) cs k->MvR l hints row cs0 (m+k))(hn:row.length<=n):MvR l hints row cs0 m:=h 0 (by rw[drop_eq_nil_of_le hn];exact .nil _)
theorem MvR.one(h:MvR l hints row cs n)(k:MvR l hints row cs n'):n=n':=by
 induction h generalizing n' with
 |nil cs=>cases k;rfl
 |cons h _ ih=>cases k with
  |cons h' k'=>
   have:=h.one h';simp only[Prod.mk.injEq]at this;obtain⟨rfl,rfl⟩:=this;rw[ih k']
def yE4(es:List Ent)(i k:Nat):Bool:=(es[k]?.map λx=>x.j.toList)==(es[i]?.map λx=>x.j.toList)
def yKv(es:List Ent)(i:Nat):Nat->Nat->Nat
 |0,j=>j
 |f+1,j=>if j<es.length then(if yE4 es i j then yKv es i f (j+1)else j)else j
def rEnd(es:List Ent)(i:Nat):Nat:=yKv es i (es.length-i) i
structure yIw(es:List Ent)(i j:Nat):Prop where
 lt:i<j
 le:j<=es.length
 same:∀k,i<=k->k<j->yE4 es i k=true
 other:j<es.length->yE4 es i j=false
variable {es:List Ent}
theorem yS5{i:Nat}(h:yIw es i j):∀(f k:Nat),i<=k->k<=j->j-k<=f->yKv es i f k=j
 |0,k,_,hk,hf=>by unfold yKv;omega
 |f+1,k,h1,hk,hf=>by
  unfold yKv
  by_cases hkj:k=j
  .subst hkj
   by_cases hl:k<es.length
   .rw[iB hl,h.other hl];rfl
   .rw[iA hl]
  .have hlt:k<j:=qo
   rw[iB (qw h.le),h.same k h1 hlt,iB rfl]
   exact yS5 h f (k+1) qo qo qo
theorem xDq{i:Nat}(h:yIw es i j):rEnd es i=j:=yS5 h _ i qr (AM h.lt) (qw h.le)
def yIv(es:List Ent):Nat->Nat->List (Nat×Nat)
 |0,_=> []
 |f+1,i=>if i<es.length then(i,rEnd es i)::yIv es f (rEnd es i)else []
def allC(es:List Ent)(i:Nat):List (Nat×Nat):=yIv es (es.length-i) i
theorem yLy(hE:∀i,i<es.length->i<rEnd es i):∀(f g i:Nat),es.length-i<=f->es.length-i<=g->yIv es f i=yIv es g i
 |0,0,i,_,_=>rfl
 |0,g+1,i,h1,_|f+1,0,i,_,h2=>by unfold yIv;rw[iA qo]
 |f+1,g+1,i,h1,h2=>by
  unfold yIv
  by_cases hi:i<es.length
  .rw[iB hi,iB hi]
   have:=hE i hi
   rw[yLy hE f g (rEnd es i) qo qo]
  .rw[iA hi,iA hi]
theorem yS4 es (i:Nat):∀(f k:Nat),k<=yKv es i f k
 |0,k=>AC _
 |f+1,k=>by
  unfold yKv
  split
  .split
   .exact Nat.le_trans (le_succ k) (yS4 es i f (k+1))
   .exact AC _
  .exact AC _
theorem yWs{i:Nat}(hi:i<es.length):i<rEnd es i:=by unfold rEnd;obtain⟨f,hf⟩:∃f,es.length-i=f+1:=⟨es.length-i-1,qo⟩;rw[hf];unfold yKv;rw[iB hi,show yE4 es i i=true by simp[yE4],iB rfl];exact yS4 es i f (i+1)
theorem yP4{i:Nat}(h:yIw es i j):allC es i=(i,j)::allC es j:=by
 have hi:i<es.length:=qv h.lt h.le
 unfold allC;obtain⟨f,hf⟩:∃f,es.length-i=f+1:=⟨es.length-i-1,qo⟩;rw[hf];conv=>lhs;unfold yIv
 rw[iB hi,xDq h];rw[yLy (λi hi=>yWs hi) f (es.length-j) j (qw h.lt) qr]
theorem yZi{i:Nat}(h:es.length<=i):allC es i= []:=by unfold allC;rw[show es.length-i=0 by omega];rfl
def segE(es:List Ent)(p:Nat×Nat):List Ent:=(es.take p.2).drop p.1
variable {cap:Nat}
theorem CSl.seg(h:CSl w b off cap es){i:Nat}(hij:i<=j)(hj:j<=es.length):CSl w b (off+i*5) (cap-i) (segE es (i,j)):=(h.take hj).drop (by rw[length_take];omega)
theorem yEn{i:Nat}(hj:j<=es.length):(segE es (i,j)).length=j-i:=by unfold segE;rw[length_drop,length_take];simp only;omega
def segV(b off cap:Nat)(p:Nat×Nat):Vv:=(xy b (off+p.1*5) (p.2-p.1) (cap-p.1))
def yEh(w:Ww)(O g cp:Nat)(us:List Vv):Prop:=w.ownsRow O 26 1 (xg g us.length cp) us.length us
variable {O cp:Nat} {us:List Vv}
theorem yEh.lt(h:yEh w O g cp us):O<=g/\g<w:=World.ownsRow.lt h g rfl
variable {w':Ww}
theorem yEh.k(h:yEh w O g cp us)(hb:Below w w w'):yEh w' O g cp us:=yAg h (Chg.h hb) (S:=λ_=>False) (λk q z=>z)
theorem yEh.z(h:yEh w O g cp us){v:Vv}(hv:us[j]?=some v):(xk w g j v:Prop):=by have:=World.ownsRow.cellAt h j (by have:=qf hv;omega);rw[this,hv]
theorem yW4(w:Ww)(hb:O<=w):yEh (xw w #[] 26) O w 0 []:=
 World.ownsRow_made w #[] 0 hb (AI _) (by simp)
theorem Tryz.infoCs:(prog.info? 26).map (λi=>(i.zero,i.size,i.bytes))=some (some (.slice none 0 0),1,24):=qk
theorem apCs:ApT 185 26 1 (λl=>l) yEh AtV:=apTV ⟨underlying185,_,_,Tryz.infoCs,rfl,qj,qj⟩ Iff.rfl
theorem yRh(h:CSl w b off cap es)(hl:es.length<=1048576):Calls prog 107 #[(xy b off es.length cap)] w λe w'=>∃g cp,e=.returned (xg g (allC es 0).length cp)/\yEh w' w g cp ((allC es 0).map (segV b off cap))/\Below w w w':=by
 have⟨N,hN⟩:=qE es.length;have HL:=qH2 h hN;have am:N<=cap:=hN▸h.X
 have al:cap<=9223372036854775807:=by have:=h.cap;unfold maxLen at this;omega
 have⟨A,hA⟩:=qE (allC es 0);have HA:=qH1 hA;rw[<-hN,<-hA];rw[<-hN]at hl;have a9:Hid (yEh (xw w #[] 26) w w 0 []/\Below w w (xw w #[] 26)):=⟨yW4 w qr,qB⟩;clear h hN hA;go_enter func107,ntmps107;go_wp2;go_loopw[3,4] (λo iv wr=>∃(i g cp m:Nat),i<=N/\iv=(xi i)/\o=(xg g m cp)/\m<=i/\Hid (∃P,A=P++allC es i/\m=P.length/\yEh wr w g cp (P.map (segV b off cap))/\Below w w wr)) (λ_ iv _=>N-(intOf iv).toNat);case atStart=>exact⟨0,w,0,0,AI _,rfl,rfl,AC _,[],HA.out,rfl,a9.1,a9.2⟩
 case round=>
  obtain⟨i,g,cp,m,ak,rfl,rfl,ai,HJ⟩:=hrel;by_cases hlt:i<N
  .have zi:(i:Int)<(N:Int):=qo
   obtain⟨c,hc⟩:∃c,es[i]?=some c:=qg (qw HL.2);have aa:=qH1 hc;have⟨P,hP⟩:=HJ.out;have HP:=qH1 hP;clear hP HJ hc;obtain⟨wo,ac⟩:=qW wr;subst ac;go_wp2;go_loopw[5] (λjv wx=>∃j:Nat,i<=j/\j<=N/\jv=(xi j)/\Hid ((∀k,i<=k->k<j->yE4 es i k=true)/\Below wo wo wx)) (λjv _=>N-(intOf jv).toNat);case atStart=>exact⟨i,AC _,qo,rfl,λk h1 h2=>qo,Below.refl _ _⟩
   case round=>
    obtain⟨j,hij,aj,rfl,HQ⟩:=hrel;have ab:=qH1 (HP.2.2.2.trans (HQ.2.mono HP.2.2.2.size));by_cases hjl:j<N
    .have zj:(j:Int)<(N:Int):=qo
     obtain⟨x,hx⟩:∃x,es[j]?=some x:=qg (qw HL.2);have f0:=((HL.1.k ab.out).U j x hx).1;have f1:=((HL.1.k ab.out).U i c aa.out).1;have a1:(λw':Ww=>xk w' b (off+j*5) x.j/\xk w' b (off+i*5) c.j) wr.drew:=⟨f0,f1⟩;have a0:=qH1 (HQ.2.trans (((Below.refl _ _).drew).mono HQ.2.size));have a8:Hid (yE4 es i j=(x.j.toList==c.j.toList)):=by show yE4 es i j=_;unfold yE4;rw[hx,aa.out];rfl
     clear f0 f1 hx;cases hr:(x.j.toList==c.j.toList)
     .have HE:Hid (yIw es i j):=by
       have h0:=a8.out;rw[hr]at h0;have ah:¬i=j:=λq=>by subst q;rw[show yE4 es i i=true by simp[yE4]]at h0;cases h0
       exact⟨qo,by rw[<-HL.2];omega,HQ.1,λ_=>h0⟩
      go_upto_region 5 with fail;refine yAf 99 (λw':Ww=>xk w' b (off+j*5) x.j/\xk w' b (off+i*5) c.j) qk ?_;refine ja 0 a1 ?_;iterate 16 refine jb a1 ?_
      refine qD ?_;have HX:Hid (A=(P++ [(i,j)])++allC es j):=by show _=_;rw[HP.1,yP4 HE.out];simp
      have ae:=hij;have a7:Hid (m=(P.map (segV b off cap)).length):=by rw[length_map];exact HP.2.1
      have a3:=HP.2.2.2.size;have ad:=HP.2.2.1.lt;have af:=a0.size;go_wp2_with (at_builtin;refine wpA rfl (apK apCs rfl w (P.map (segV b off cap)) [segV b off cap (i,j)] rfl rfl a7.out rfl ?hO (atV1 ?hc ?hy) (lN ?hl) ?hb ?_));case hO=>exact(HP.2.2.1.k a0.out).k (qB)
      case hc=>simp[go_sem,segV]
      case hy=>rfl
      case hl=>(have h9:=HP.2.1;simp;omega)
      case hb=>exact AT (HP.2.2.2.trans (a0.mono a3)).size
      intro g' a5 w' a4 a2 a6;exact zzU2
     .have ag:Hid (∀k,i<=k->k<j+1->yE4 es i k=true):=λk h1 h2=>by
       by_cases hk:k=j
       .rw[hk,a8.out];exact hr
       .exact HQ.1 k h1 (by omega)
      go_upto_region 5 with fail;refine yAf 99 (λw':Ww=>xk w' b (off+j*5) x.j/\xk w' b (off+i*5) c.j) (by kernel_rfl) ?_;refine ja 0 a1 ?_;iterate 16 refine jb a1 ?_
      refine qD ?_;go_wp2;go_roundw;case rel=>exact⟨j+1,by omega,by omega,by go_num,ag.out,a0.out⟩
      case measure=>go_light;simp[intOf];omega
    .obtain rfl:j=N:=by omega
     have zj:¬(j:Int)<(j:Int):=by omega
     have a0:Hid (Below wo wo wr.drew):=HQ.2.trans (((Below.refl _ _).drew).mono HQ.2.size);have HE:Hid (yIw es i j):=⟨hlt,by rw[<-HL.2];omega,HQ.1,λq=>by rw[<-HL.2]at q;omega⟩;have a1:(λ_:Ww=>True) wr.drew:=trivial;go_upto_region 5 with fail;refine yAf 99 (λ_:Ww=>True) (by kernel_rfl) ?_;refine ja 0 a1 ?_;iterate 16 refine jb a1 ?_
     refine qD ?_;have HX:Hid (A=(P++ [(i,j)])++allC es j):=by show _=_;rw[HP.1,yP4 HE.out];simp
     have ae:i<=j:=hij;have a7:Hid (m=(P.map (segV b off cap)).length):=by rw[length_map];exact HP.2.1
     have a3:=HP.2.2.2.size;have ad:=HP.2.2.1.lt;have af:=a0.size;go_wp2_with (at_builtin;refine wpA rfl (apK apCs rfl w (P.map (segV b off cap)) [segV b off cap (i,j)] rfl rfl a7.out rfl ?hO (atV1 ?hc ?hy) (lN ?hl) ?hb ?_));case hO=>exact(HP.2.2.1.k a0.out).k (qB)
     case hc=>simp[go_sem,segV]
     case hy=>rfl
     case hl=>(have h9:=HP.2.1;simp;omega)
     case hb=>exact AT (HP.2.2.2.trans (a0.mono a3)).size
     intro g' a5 w' a4 a2 a6;exact zzU2
  .obtain rfl:i=N:=by omega
   have zi:¬(i:Int)<(i:Int):=by omega
   obtain⟨P,hP⟩:=HJ.out;have HE:Hid (A=P/\m=P.length/\yEh wr w g cp (P.map (segV b off cap))/\Below w w wr):=⟨by rw[hP.1,yZi (by rw[<-HL.2];omega),append_nil],hP.2⟩;clear hP HJ;go_wp2;go_ret;refine⟨g,cp,?_,?_,HE.2.2.2⟩
   .rw[HE.1,<-HE.2.1];rfl
   .rw[HE.1];exact HE.2.2.1
theorem yPr es:∀(f i:Nat),(yIv es f i).length<=f
 |0,i=>AC _
 |f+1,i=>by
  unfold yIv
  split
  .have:=yPr es f (rEnd es i)
   simp
   omega
  .simp
theorem yS3(es:List Ent)(i:Nat):∀(f k:Nat),k<=es.length->yKv es i f k<=es.length
 |0,k,h=>h
 |f+1,k,h=>by
  unfold yKv
  split
  .split
   .exact yS3 es i f (k+1) qo
   .exact h
  .exact h
theorem yPq(es:List Ent):∀(f i:Nat)(p:Nat×Nat),p∈yIv es f i->p.1<=p.2/\p.2<=es.length
 |0,i,p,h=>by simp[yIv]at h
 |f+1,i,p,h=>by
  unfold yIv at h
  split at h
  .rename_i hi
   rcases mem_cons.1 h with rfl|h
   .exact⟨AM (yWs hi),yS3 es i _ i (AM hi)⟩
   .exact yPq es f _ p h
  .simp at h
theorem yA6.flat(h:yA6 w b off es):∀(j:Nat)(u:Vv),(yC7 es)[j]?=some u->(xk w b (off+j) u:Prop):=by
 intro j u hu;have hl:=qf hu;rw[yDa]at hl;have hk:j/5<es.length:=by omega
 obtain⟨e,he⟩:∃e,es[j/5]?=some e:=qg hk;have h5:=yL4 es (j/5) e he (j%5) (by omega);rw[show j/5*5+j%5=j by omega,hu]at h5;obtain⟨h0,h1,h2,h3,h4⟩:=h (j/5) e he;have hm:j%5<5:=by omega
 have hj:off+j=off+j/5*5+j%5:=by omega
 rw[hj];generalize j%5=r at h5 hm;match r,hm,h5 with
 |0,_,h5=>cases h5;exact h0
 |1,_,h5=>cases h5;exact h1
 |2,_,h5=>cases h5;exact h2
 |3,_,h5=>cases h5;exact h3
 |4,_,h5=>cases h5;exact h4
def RowC(w:Ww)(O:Nat)(v:Vv)(es:List Ent):Prop:=w.ownsRow O 70 5 v es.length (yC7 es)
theorem RowC.cases{v:Vv}(h:RowC w O v es):(v=xh/\es= [])\/∃g cp,v=(xg g es.length cp)/\OwnC w O g cp es:=by
 rcases h.2 with⟨h0,h1⟩|⟨g',a0,cur,hv,rest⟩
 .refine .inl ⟨h0,?_⟩;have:es.length=0:=h1;exact length_eq_zero_iff.1 this
 .subst hv;exact .inr ⟨g',a0,rfl,h⟩
theorem yS0(w:Ww)(O:Nat):RowC w O xh []:=⟨rfl,.inl ⟨rfl,rfl⟩⟩
theorem RowC.i{v:Vv}(h:RowC w O v X)(hc:Chg S w w')(hn:∀k,v.ownBlock=some k->¬S k):RowC w' O v X:=yAg h hc hn
theorem RowC.k{v:Vv}(h:RowC w O v X)(hb:Below w w w'):RowC w' O v X:=h.i (S:=λ_=>False) (Chg.h hb) (λ_ _ q=>q)
theorem RowC.blk{v:Vv}(h:RowC w O v X){k:Nat}(hk:v.ownBlock=some k):O<=k/\k<w.heap.size:=by exact xBv
variable {oo:Oper} {a:Act} {E:Prop}
theorem yIr(w:Ww)(hgd:oo.guard=none) s x
  (ho:oo.op=.call {callee:=.builtin .append,args:=#[s,x],argTypes:=#[26,26]})
  (O g cp n b off m cx:Nat) (fs es:List Ent) (hs:a.eval s=(xg g n cp)) (hx:a.eval x=.slice (some ⟨b,off,none⟩) m cx) (hn:n=fs.length) (hm:m=es.length) (hO:OwnC w O g cp fs)
  (hc:yA6 w b off es) (hlen:fs.length+es.length<=2^30) (hbase:O<=w.heap.size)
  (h:∀g' cp' w',OwnC w' O g' cp' (fs++es)->w.grownBy w' (some g)->(g'=g\/g'=w.heap.size)->K (a.put oo.dst (xg g' (n+m) cp')) w'):if AA oo (yielded ops a.tmps)=true then Oper.wp prog oo a w K Q else E:=by
 have hw:AA oo (yielded ops a.tmps)=true:=by simp[AA,hgd]
 rw[iB hw];subst hn;subst hm;obtain⟨i,hi,a4,a3,a2⟩:=AO Tryz.infoCel;obtain⟨v',w',hr,a0,a7,a5,a1⟩:=AQ (P:=prog) w O 26 oo.type 70 i _ 5 72 underlying26 hi a4 a3 a2 rfl qj (xg g fs.length cp) fs.length (yC7 fs) hO (xd b off) es.length cx (yC7 es) (yDa es) (λj u hu=>by rw[Addr.add_mid];exact hc.flat j u hu) ((λu h=>by obtain⟨e,_,h⟩:=mem_flatMap.1 h;exact yNh e u h)) (by unfold maxLen;omega) qo hbase;rw[<-yEu]at a0;have a6:(fs++es).length=fs.length+es.length:=by simp
 rcases a0.2 with⟨hv,_⟩|⟨g',a9,cur,hv,h1,h2,h3⟩
 .have:=(a5.1 hv).1;simp at this
 .subst hv;have a8:=h g' a9 w' (by unfold OwnC;rw[a6];exact a0) a7 (by simp[Value.ownBlock]at a1;exact a1);unfold Oper.wp;simp[execOp,ho,resolve,invoke,builtin,hs,hx,hr,Result.andThen];exact a8
theorem yGx(w:Ww)(hgd:oo.guard=none) x (ho:oo.op=.buildSlice 26 1 #[(0,x)]) (e:Ent) (hx:a.eval x=e.c)
  (h:K (a.put oo.dst (xg w 1 1)) (xw w #[e.j,e.E,e.C,xu e.ts,e.val] 70)):if AA oo (yielded ops a.tmps)=true then Oper.wp prog oo a w K Q else E:=by
 have hw:AA oo (yielded ops a.tmps)=true:=by simp[AA,hgd]
 rw[iB hw];obtain⟨i,hi,a1,a0,a2⟩:=AO Tryz.infoCel;refine wp_buildSlice 26 70 1 #[(0,x)] ho _ i _ underlying26 hi a1 (by rw[a0];decide) (by rw[a0];decide) ?_ h;rw[a0,show(Array.map (λx=>(x.1,a.eval x.2)) #[(0,x)]).toList= [(0,a.eval x)]from by simp,hx];kernel_rfl
theorem yD4(w:Ww)(hgd:oo.guard=none) s x
  (ho:oo.op=.call {callee:=.builtin .append,args:=#[s,x],argTypes:=#[26,26]})
  (O:Nat) (a0:Option Addr) (n c0 b off m cx:Nat) (fs es:List Ent) (hs:a.eval s=.slice a0 n c0) (hx:a.eval x=.slice (some ⟨b,off,none⟩) m cx) (hn:n=fs.length) (hm:m=es.length) (hO:RowC w O (.slice a0 n c0) fs)
  (hc:yA6 w b off es) (hlen:fs.length+es.length<=2^30) (hbase:O<=w.heap.size)
  (h:∀a' c' w',RowC w' O (.slice a' (n+m) c') (fs++es)->w.grownBy w' (Value.slice a0 n c0).ownBlock->((Value.slice a' (n+m) c').ownBlock=(Value.slice a0 n c0).ownBlock\/(Value.slice a' (n+m) c').ownBlock=some w.heap.size)->K (a.put oo.dst (.slice a' (n+m) c')) w'):if AA oo (yielded ops a.tmps)=true then Oper.wp prog oo a w K Q else E:=by
 have hw:AA oo (yielded ops a.tmps)=true:=by simp[AA,hgd]
 rw[iB hw];subst hn;subst hm;obtain⟨i,hi,a5,a4,a3⟩:=AO Tryz.infoCel;obtain⟨v',w',hr,a2,a6,a9,a8⟩:=AQ (P:=prog) w O 26 oo.type 70 i _ 5 72 underlying26 hi a5 a4 a3 rfl qj (.slice a0 fs.length c0) fs.length (yC7 fs) hO (xd b off) es.length cx (yC7 es) (yDa es) (λj u hu=>by rw[Addr.add_mid];exact hc.flat j u hu) ((λu h=>by obtain⟨e,_,h⟩:=mem_flatMap.1 h;exact yNh e u h)) (by unfold maxLen;omega) qo hbase;rw[<-yEu]at a2;have a1:(fs++es).length=fs.length+es.length:=by simp
 have hR:RowC w' O v' (fs++es):=by unfold RowC;rw[a1];exact a2
 obtain⟨a',c',rfl⟩:∃a' c',v'=.slice a' (fs.length+es.length) c':=by
  rcases hR.cases with⟨q,q2⟩|⟨g,cp,q,_⟩
  .have h9:(fs++es).length=0:=by rw[q2];rfl
   rw[a1]at h9;exact⟨none,0,by rw[h9];exact q⟩
  .exact⟨_,_,by rw[<-a1];exact q⟩
 have a7:=h a' c' w' hR a6 a8;unfold Oper.wp;simp[execOp,ho,resolve,invoke,builtin,hs,hx,hr,Result.andThen];exact a7
abbrev blF(b:Bool):List Vv:= [.bool b]
abbrev yF7(w:Ww)(O g cap:Nat)(bs:List Bool):Prop:=OwnG blF 1 4 w O g cap bs
theorem yNv(b:Bool):(blF b).length=1:=rfl
theorem Tryz.infoBl:(prog.info? 4).map (λi=>(i.zero,i.size,i.bytes))=some (some (.bool false),1,1):=by kernel_rfl
theorem yF7.get{bs:List Bool}(h:yF7 w O g cap bs){i:Nat}{b:Bool}(hi:bs[i]?=some b):(xk w g (0+i) b:Prop):=by have:=h.z yNv hi 0 (by decide);simpa using this
structure ByG where
 w:Ww
 bs:List Bk
 m:Bk
 nb:Nat
 ub:Nat
 uo:Nat
 uc:Nat
 N:Nat
 bI:Nat
 oI:Nat
 cI:Nat
 b:Nat
 off:Nat
 cap:Nat
 es:List Ent
 M:Nat
 A:List (Nat×Nat)
structure RwI2(p b off cap:Nat)(es:List Ent)(W:Ww):Prop where
 A:(xk W p 0 (xy b off es.length cap):Prop)
 sl:CSl W b off cap es
theorem xAa(es:List Ent)(p b off cap:Nat)(hN0:es.length<=10000)(l m:Nat)(hm:1<=m)(J:Nat->Ww->Prop)
  (hY:∀i j W,J i W->yIw es i j->YieldAt Fence.wide (m-1) prog l #[segV b off cap (i,j)] W λe W'=>e=.returned true/\J j W')
  (hJd:∀k W,J k W->J k W.drew) (hJr:∀k W,J k W->RwI2 p b off cap es W) (W:Ww) (h0:J 0 W):
  CallsIn Fence.wide m prog 199 #[.func (.yield l) #[] #[],xp p] W λe W'=>(∃v,e=.returned v)/\J es.length W':=by
 have⟨N,hN⟩:=qE es.length;have HN:Hid (N=es.length):=hN;have a8:Hid (J 0 W):=h0;have HR:Hid (∀k W,J k W->xk W p 0 (xy b off N cap)/\CSl W b off cap es):=λk W h=>hN▸⟨(hJr k W h).A,(hJr k W h).sl⟩
 have a6:=(hJr 0 W h0).sl.X;have ab:cap<=9223372036854775807:=by have:=(hJr 0 W h0).sl.cap;unfold maxLen at this;omega
 have HY:Hid (∀i j W,J i W->yIw es i j->YieldAt Fence.wide (m-1) prog l #[segV b off cap (i,j)] W λe W'=>e=.returned true/\J j W'):=hY;rw[<-hN]at hN0 a6|-;clear hN h0 hJr hY;refine callsIn_of_wp func199 rfl trivial ?_ rfl;simp only[ntmps199,size_toArray,AN,length_nil,AP,Nat.reduceSub,Array.replicate_succ,Array.replicate_zero,push_toArray,append_toArray,nil_append,cons_append];gi_wp2;gi_loopw [3] (λiv wr=>∃i:Nat,i<=N/\iv=(xi i)/\Hid (J i wr)) (λiv _=>N-(intOf iv).toNat);case atStart=>exact⟨0,AI _,rfl,a8.out⟩
 case round=>
  obtain⟨i,aa,rfl,HJ⟩:=hrel;have x0:=(HR.out i wr HJ.out).1;by_cases hlt:i<N
  .have zi:(i:Int)<(N:Int):=by omega
   obtain⟨c,hc⟩:∃c,es[i]?=some c:=qg (qw HN.out);have a3:Hid (es[i]?=some c):=hc;obtain⟨wo,a4⟩:=qW wr;subst a4;gi_wp2;clear x0;gi_loopw [4] (λjv wx=>∃j:Nat,i<j/\j<=N/\jv=(xi j)/\Hid ((∀k,i<=k->k<j->yE4 es i k=true)/\J i wx)) (λjv _=>N-(intOf jv).toNat);case atStart=>exact⟨i+1,by omega,by omega,by go_num,λk h1 h2=>by rw[show k=i by omega];simp[yE4],HJ.out⟩
   case round=>
    obtain⟨j,hij,a9,rfl,HQ⟩:=hrel;have a1:=HR.out i wr HQ.2;by_cases hjl:j<N
    .have zj:(j:Int)<(N:Int):=qo
     obtain⟨x,hx⟩:∃x,es[j]?=some x:=qg (qw HN.out);have f0:=(a1.2.U j x hx).1;have f1:=(a1.2.U i c a3.out).1;have a0:SW (λw':Ww=>xk w' p 0 (xy b off N cap)/\xk w' b (off+j*5) x.j/\xk w' b (off+i*5) c.j) wr.drew:=⟨a1.1,f0,f1⟩;have HJd:=qH1 (hJd _ _ HQ.2);have a2:Hid (yE4 es i j=(x.j.toList==c.j.toList)):=by show yE4 es i j=_;unfold yE4;rw[hx,a3.out];rfl
     clear f0 f1 hx a1;cases hr:(x.j.toList==c.j.toList)
     .have HE:Hid (yIw es i j):=by have h0:=a2.out;rw[hr]at h0;exact⟨hij,by rw[<-HN.out];omega,HQ.1,λ_=>h0⟩
      gi_wp2;refine AS.2 ?_;refine AJ ?_;refine wpR 99 a0 ?_;refine ja 0 a0 ?_;iterate 16 refine jb a0 ?_
      refine qD ?_;dsimp only[AU];clear a0;exact xGf
     .have a7:Hid (∀k,i<=k->k<j+1->yE4 es i k=true):=λk h1 h2=>by
       by_cases hk:k=j
       .rw[hk,a2.out];exact hr
       .exact HQ.1 k h1 qo
      gi_wp2;refine AS.2 ?_;refine AJ ?_;refine yAf 99 (λw':Ww=>xk w' p 0 (xy b off N cap)/\xk w' b (off+j*5) x.j/\xk w' b (off+i*5) c.j) (by kernel_rfl) ?_;refine ja 0 a0 ?_;iterate 16 refine jb a0 ?_
      refine qD ?_;dsimp only[AU];clear a0;gi_wp2;go_roundw;case rel=>exact⟨j+1,by omega,by omega,by go_num,a7.out,HJd.out⟩
      case measure=>simp[intOf];omega
    .have zj:¬(j:Int)<(N:Int):=by omega
     have hd:decide ((j:Int)<(N:Int))=false:=by simp;omega
     have HE:Hid (yIw es i j):=⟨hij,by rw[<-HN.out];omega,HQ.1,λq=>by rw[<-HN.out]at q;omega⟩;have HJd:Hid (J i wr.drew):=hJd _ _ HQ.2;have a0:SW (λw':Ww=>xk w' p 0 (xy b off N cap)) wr.drew:=a1.1;clear a1;gi_wp2;refine AS.2 ?_;refine AJ ?_;refine wpR 99 a0 ?_;refine ja 0 a0 ?_;iterate 16 refine jb a0 ?_
     refine qD ?_;dsimp only[AU];clear a0 zj hd;exact xGf
  .have a5:i=N:=by omega
   have zi:¬(i:Int)<(N:Int):=by omega
   have HF:Hid (J N wr):=by rw[<-a5];exact HJ.out
   clear HJ;gi_wp2;go_end0;exact⟨⟨_,rfl⟩,HF.out⟩
theorem yIz(hk:∀e∈es,e.f=0):es.map putE=es:=by
 conv=>rhs;rw[<-map_id es]
 refine map_congr_left λe he=>?_;have:=hk e he;cases e
 simp only[putE,id]at*;subst this;rfl
def RunM(bs:List Bk)(m:Bk)(es:List Ent)(hints:Bool)(n:Nat):Prop:=(¬bs= []/\n=es.length)\/(bs= []/\MvR m.l hints es (AB m.cnt.toNat newC) n)
def RunP(bs:List Bk)(m:Bk)(es:List Ent)(hints:Bool)(w:Ww)(e:Ending)(w':Ww):Prop:=
 ∃(a:Option Addr)(n c ops:Nat),e=.returned (.agg #[true,.slice a n c,xi ops])/\Hid (RunM bs m es hints ops/\Below w w w')
def CAt(l:List Ix)(k n:Nat)(L:List Ix):Prop:=absG k n L<+:l.drop k
theorem CAt.app{k:Nat}(h:CAt l k n (L++M)):CAt l k n L/\CAt l (k+L.length) (n+cntL L) M:=by unfold CAt at*;rw[yCc]at h;refine⟨(List.prefix_append _ _).trans h,?_⟩;have⟨t,ht⟩:=h;exact⟨t,by rw[<-List.drop_drop,<-ht,AH,List.drop_left' (yAj _ _ _)]⟩
variable {x:Ix}
theorem CAt.one{k:Nat}(h:CAt l k n [x]):l[k]?=some (fixI k n x):=by have⟨t,ht⟩:=h;have:=congrArg (λl=>l[0]?) ht;simpa [absG]using this.symm
theorem yX5{k:Int}:yCn k=true↔(k=11\/k=12\/k=13):=by unfold yCn;simp
def CT.lv(P:Nd->Prop):CT->Prop
 | .leaf n=>P n
 | .chain _ a b| .inter _ a b=>a.lv P/\b.lv P
 | .cond _ p a b=>p.lv P/\a.lv P/\b.lv P
section
theorem yGk(o a b:Int):yIk ⟨o,a,b,false,yA3⟩:=by simp[yIk,NoNd,yA3]
def GI(x:Ix)(rest m:Nat):Prop:=
 (x.op=1/\yB9 [x.leaf]/\x.b=0/\x.a=0)\/(x.op=5/\yIk x/\0<=x.a/\x.a<m/\0<x.b/\x.b<=rest)\/
 (x.op=6/\yIk x/\x.a=0/\0<x.b/\x.b<=rest)\/((x.op=2\/x.op=3\/x.op=4)/\yIk x/\x.a=0/\x.b=0)
def GL:List Ix->Nat->Prop
 | [],_=>True
 |x::L,m=>GI x (L.length+1) m/\GL L m
theorem GI.mono{r' m':Nat}(h:GI x r m)(hr:r<=r')(hm:m<=m'):GI x r' m':=by
 rcases h with h|⟨h1,h2,h3,h4,h5,h6⟩|⟨h1,h2,h3,h4,h5⟩|h
 .exact .inl h
 .exact .inr (.inl ⟨h1,h2,h3,qo,h5,qo⟩)
 .exact .inr (.inr (.inl ⟨h1,h2,h3,h4,qo⟩))
 .exact .inr (.inr (.inr h))
theorem GL.mono{m':Nat}(hm:m<=m'):∀{L:List Ix},GL L m->GL L m'
 | [],_=>trivial
 |x::L,h=>⟨h.1.mono qr hm,GL.mono hm h.2⟩
theorem GL.app{M:List Ix}(g:GL M m):∀{L:List Ix},GL L m->GL (L++M) m
 | [],_=>g
 |x::L,h=>⟨h.1.mono (by simp) qr,GL.app g h.2⟩
theorem GL.good{n m C N:Nat}:∀{L:List Ix}{k:Nat},GL L m->k+L.length<=N->n+cntL L<=C->∀j x,(absG k n L)[j]?=some x->yN0 x (k+j:Nat) N C m
 | [],_,_,_,_,j,x,h=>by simp[absG]at h
 |y::L,k,g,hN,hC,j,x,h=>by
  simp only[AN,cntL]at hN hC
  cases j with
  |succ j=>
   have:=GL.good (n:=n+cntI y) (C:=C) (N:=N) (k:=k+1) g.2 (by omega) (by omega) j x (by simpa [absG]using h)
   rwa [show k+1+j=k+(j+1)by omega]at this
  |zero=>
   have h:fixI k n y=x:=by simpa [absG]using h
   subst h
   have hcn:yCn y.leaf.f=true↔cntK y.leaf.f:=yX5
   rcases g.1 with⟨h1,h2,h3,h4⟩|⟨h1,h2,h3,h4,h5,h6⟩|⟨h1,h2,h3,h4,h5⟩|⟨h1,h2,h3,h4⟩
   .refine .inl ⟨h1,h2,by simp[fixI,h1,h3],?_⟩
    by_cases q:yCn y.leaf.f=true
    .simp only[cntI,h1,q]at hC
     simp at hC
     exact .inl ⟨hcn.1 q,by simp[fixI,h1,q],by simp[fixI,h1,q];omega⟩
    .exact .inr ⟨λz=>q (hcn.2 z),by simp[fixI,h1,q,h4]⟩
   .refine .inr (.inl ⟨h1,h2,?_⟩)
    simp[fixI,h1];omega
   .refine .inr (.inr (.inl ⟨h1,h2,?_⟩))
    simp[fixI,h1];omega
   .refine .inr (.inr (.inr ⟨h1,h2,?_⟩))
    rcases h1 with h1|h1|h1<;>simp[fixI,h1,h3,h4]
theorem yHb:∀(t:CT)(s:Bool)(f:Nat),t.lv (λn=>yB9 [n])->GL (t.gen s f) (f+t.J)
 | .leaf n,s,f,h=>⟨.inl ⟨rfl,h,rfl,rfl⟩,trivial⟩
 | .chain _ a b,s,f,h=>by
   simp only[CT.J]
   exact GL.app ((yHb b _ _ h.2).mono qo) ((yHb a _ _ h.1).mono qo)
 | .inter _ a b,s,f,h=>by
   have z:∀(o:Int)(m:Nat),o=2\/o=3\/o=4->GL [opI o] m:=λo m ho=>⟨.inr (.inr (.inr ⟨ho,yGk ..,rfl,rfl⟩)),trivial⟩
   simp only[CT.J,CT.gen]
   exact GL.app (z 4 _ (by simp)) (GL.app ((yHb b _ _ h.2).mono qo) (GL.app (z 3 _ (by simp)) (GL.app ((yHb a _ _ h.1).mono qo) (z 2 _ (by simp)))))
 | .cond _ p a b,s,f,h=>by
   simp only[CT.J,CT.gen,AH]
   have h6:GL ([⟨6,0,((b.gen s (f+p.J+1+a.J)).length:Int)+1,false,yA3⟩]++b.gen s (f+p.J+1+a.J)) (f+(p.J+1+a.J+b.J)):=⟨.inr (.inr (.inl ⟨rfl,yGk ..,rfl,by dsimp only;omega,by simp⟩)),(yHb b _ _ h.2.2).mono qo⟩
   exact⟨.inr (.inl ⟨rfl,yGk ..,by dsimp only;omega,by dsimp only;omega,by dsimp only;omega,by simp;omega⟩),GL.app h6 ((yHb a _ _ h.2.1).mono qo)⟩
theorem yM2(h:ds[j]?=some 0\/ds[j]?=some d):∃ds',note ds j d=some ds'/\ds'[j]?=some d/\∀i,i≠j->ds'[i]?=ds[i]?:=by
 have hl:j<ds.length:=by rcases h with h|h<;>exact(AK.1 h).1
 refine⟨ds.set j d,?_,by simp[hl],λi hi=>by rw[List.getElem?_set_ne (Ne.symm hi)]⟩;rcases h with h|h
 .exact yOs h (.inl rfl)
 .exact yOs h (.inr rfl)
theorem yI2{k:Nat}(hx:l[k]?=some x)(h5:¬x.op=5)(h6:¬x.op=6)(hf:yCo l k=some ds)(hd:ds[k]?=some d)(he:d+more x.op=e)(h1:least x.op<=d)(h2:e<=250)(hn:ds[k+1]?=some 0\/ds[k+1]?=some e):
  ∃ds',yCo l (k+1)=some ds'/\ds'[k+1]?=some e/\∀i,i≠k+1->ds'[i]?=ds[i]?:=by
 have⟨ds',a1,a2⟩:=yM2 hn;refine⟨ds',?_,a2⟩;rw[yEa hf hx];unfold yKs;rw[hd];dsimp only;rw[iA qo,he];simp[ways,h5,h6,yCi,a1]
def Flw(L:List Ix)(dep:Nat):Prop:=1<=L.length/\∀(l:List Ix)(k n:Nat)(ds:List Int)(d:Nat),CAt l k n L->yCo l k=some ds->ds[k]?=some (d:Int)->1<=d->d+dep<=250->(∀j,k<j->j<k+L.length->ds[j]?=some 0)->(ds[k+L.length]?=some 0\/ds[k+L.length]?=some (d:Int))->
 ∃ds',yCo l (k+L.length)=some ds'/\ds'[k+L.length]?=some (d:Int)/\∀j,k+L.length<j->ds'[j]?=ds[j]?
section
variable {a:Nat}
theorem Flw.mono(h:Flw L a)(hab:a<=b):Flw L b:=⟨h.1,λl k n ds d h1 h2 h3 h4 h5=>h.2 l k n ds d h1 h2 h3 h4 qo⟩
theorem Flw.seq(h:Flw L a)(g:Flw M a):Flw (L++M) a:=by have hl:=h.1;have gl:=g.1;refine⟨by simp;omega,λl k n ds d ha hf hd h1 h2 hz he=>?_⟩;rw[AG]at hz he|-;have⟨a1,a2⟩:=ha.app;have⟨d1,p1,p2,p3⟩:=h.2 l k n ds d a1 hf hd h1 h2 (λj j1 j2=>hz j j1 qo) (.inl (hz _ qo qo));have⟨d2,q1,q2,q3⟩:=g.2 l _ _ d1 d a2 p1 p2 h1 h2 (λj j1 j2=>by rw[p3 j j1];exact hz j qo qo) (by rw[p3 _ qo,AL];exact he);rw[AL]at q1 q2 q3;exact⟨d2,q1,q2,λj hj=>by rw[q3 j hj,p3 j qo]⟩
theorem xA5(x:Ix)(h:x.op=1):Flw [x] 0:=by refine⟨by simp,λl k n ds d ha hf hd h1 h2 _ he=>?_⟩;have hop:(fixI k n x).op=1:=h;have⟨d',p1,p2,p3⟩:=yI2 ha.one (by rw[hop];decide) (by rw[hop];decide) hf hd (e:=(d:Int)) (by rw[hop];simp[more]) (by rw[hop];simp[least];omega) qo he;exact⟨d',p1,p2,λj hj=>p3 j (by simp at hj;omega)⟩
theorem Flw.inter(h:Flw L a)(g:Flw M a):Flw ([opI 2]++L++ [opI 3]++M++ [opI 4]) (a+1):=by have hl:=h.1;have gl:=g.1;refine⟨by simp,λl k n ds d ha hf hd h1 h2 hz he=>?_⟩;have⟨a1,a5⟩:=ha.app;have⟨a1,a4⟩:=a1.app;have⟨a1,a3⟩:=a1.app;have⟨a1,a2⟩:=a1.app;simp only[AG,AD]at a2 a3 a4 a5 hz he|-;have o:∀(k n:Nat)(o:Int),(fixI k n (opI o)).op=o:=λ_ _ _=>rfl;have⟨d1,p1,p2,p3⟩:=yI2 a1.one (by rw[o];decide) (by rw[o];decide) hf hd (e:=((d+1:Nat):Int)) (by rw[o];simp[more]) (by rw[o];simp[least];omega) qo (.inl (hz _ qo qo));have⟨d2,q1,q2,q3⟩:=h.2 l _ _ d1 (d+1) a2 p1 p2 qo qo (λj j1 j2=>by rw[p3 j qo];exact hz j qo qo) (.inl (by rw[p3 _ qo];exact hz _ qo qo));rw[show k+1+L.length=k+(1+L.length)by omega]at q1 q2 q3;have⟨d3,r1,r2,r3⟩:=yI2 a3.one (by rw[o];decide) (by rw[o];decide) q1 q2 (e:=((d+1:Nat):Int)) (by rw[o];simp[more]) (by rw[o];simp[least];omega) qo (.inl (by rw[q3 _ qo,p3 _ qo];exact hz _ qo qo));rw[show k+(1+L.length)+1=k+(1+L.length+1)by omega]at r1 r2 r3;have⟨d4,s1,s2,s3⟩:=g.2 l _ _ d3 (d+1) a4 r1 r2 qo qo (λj j1 j2=>by rw[r3 j qo,q3 j qo,p3 j qo];exact hz j qo qo) (.inl (by rw[r3 _ qo,q3 _ qo,p3 _ qo];exact hz _ qo qo));rw[show k+(1+L.length+1)+M.length=k+(1+L.length+1+M.length)by omega]at s1 s2 s3;have⟨d5,t1,t2,t3⟩:=yI2 a5.one (by rw[o];decide) (by rw[o];decide) s1 s2 (e:=(d:Int)) (by rw[o];simp[more];omega) (by rw[o];simp[least];omega) qo (by rw[s3 _ qo,r3 _ qo,q3 _ qo,p3 _ qo,AL];exact he);rw[show k+(1+L.length+1+M.length)+1=k+(1+L.length+1+M.length+1)by omega]at t1 t2 t3;exact⟨d5,t1,t2,λj hj=>by rw[t3 j qo,s3 j qo,r3 j qo,q3 j qo,p3 j qo]⟩
theorem Flw.cond(h:Flw L a)(g:Flw M a)(m:Int):Flw ([⟨5,m,(L.length:Int)+2,false,yA3⟩]++L++ [⟨6,0,(M.length:Int)+1,false,yA3⟩]++M) a:=by
 have hl:=h.1;have gl:=g.1;refine⟨by simp,λl k n ds d ha hf hd h1 h2 hz he=>?_⟩;have⟨a1,a4⟩:=ha.app;have⟨a1,a3⟩:=a1.app;have⟨a1,a2⟩:=a1.app;simp only[AG,AD]at a2 a3 a4 hz he|-;have⟨e1,u1,u2,u3⟩:=yM2 (ds:=ds) (j:=k+1) (d:=(d:Int)) (.inl (hz _ qo qo));have⟨d1,v1,v2,v3⟩:=yM2 (ds:=e1) (j:=k+L.length+2) (d:=(d:Int)) (.inl (by rw[u3 _ qo];exact hz _ qo qo));have p1:yCo l (k+1)=some d1:=by
  rw[yEa hf a1.one];have w:ways k (fixI k n ⟨5,m,(L.length:Int)+2,false,yA3⟩)= [k+1,k+L.length+2]:=by simp[ways,fixI];omega
  simp only[yKs,hd,w,show(fixI k n ⟨5,m,(L.length:Int)+2,false,yA3⟩).op=5 from rfl];rw[iA (by simp[least,more];omega)];simp[yCi,more,u1,v1]
 have⟨d2,q1,q2,q3⟩:=h.2 l _ _ d1 d a2 p1 (by rw[v3 _ qo];exact u2) h1 h2 (λj j1 j2=>by rw[v3 j qo,u3 j qo];exact hz j qo qo) (.inl (by rw[v3 _ qo,u3 _ qo];exact hz _ qo qo));have⟨d3,w1,w2,w3⟩:=yM2 (ds:=d2) (j:=k+(1+L.length+1+M.length)) (d:=(d:Int)) (by rw[q3 _ qo,v3 _ qo,u3 _ qo];exact he);rw[show k+1+L.length=k+(1+L.length)by omega]at q1 q2 q3;have r1:yCo l (k+(1+L.length)+1)=some d3:=by
  rw[yEa q1 a3.one];have w:ways (k+(1+L.length)) (fixI (k+(1+L.length)) (n+cntL ([⟨5,m,(L.length:Int)+2,false,yA3⟩]++L)) ⟨6,0,(M.length:Int)+1,false,yA3⟩)= [k+(1+L.length+1+M.length)]:=by simp[ways,fixI];omega
  simp only[yKs,q2,w,show(fixI (k+(1+L.length)) (n+cntL ([⟨5,m,(L.length:Int)+2,false,yA3⟩]++L)) ⟨6,0,(M.length:Int)+1,false,yA3⟩).op=6 from rfl];rw[iA (by simp[least,more];omega)];simp[yCi,more,w1]
 rw[show k+(1+L.length)+1=k+(1+L.length+1)by omega]at r1;have⟨d4,s1,s2,s3⟩:=g.2 l _ _ d3 d a4 r1 (by rw[w3 _ qo,q3 _ qo,<-v2];congr 1;omega) h1 h2 (λj j1 j2=>by rw[w3 j qo,q3 j qo,v3 j qo,u3 j qo];exact hz j qo qo) (.inr (by rw[<-w2];congr 1;omega));rw[show k+(1+L.length+1)+M.length=k+(1+L.length+1+M.length)by omega]at s1 s2 s3;exact⟨d4,s1,s2,λj hj=>by rw[s3 j hj,w3 j qo,q3 j qo,v3 j qo,u3 j qo]⟩
end
theorem yEs:∀(t:CT)(s:Bool)(f:Nat),Flw (t.gen s f) t.size
 | .leaf n,s,f=>(xA5 _ rfl).mono (AI _)
 | .chain _ a b,s,f=>((yEs a _ _).mono (by simp only[CT.size];omega)).seq ((yEs b _ _).mono (by simp only[CT.size];omega))
 | .inter _ a b,s,f=>by
   simp only[CT.size]
   exact Flw.inter (a:=a.size+b.size) ((yEs a _ _).mono qo) ((yEs b _ _).mono qo)
 | .cond _ p a b,s,f=>Flw.cond ((yEs a _ _).mono (by simp only[CT.size];omega)) ((yEs b _ _).mono (by simp only[CT.size];omega)) _
theorem yTp(hg:GL L m)(hf:Flw L 200)(hl:L.length<=4000)(hc:cntL L<=200):yB1 (absG 0 0 L) (cntL L:Nat) m:=by
 have hl1:=hf.1;refine⟨by rw[yAj];exact hl1,by rw[yAj];exact hl,qo,qo,λk x hx=>?_,?_⟩
 .have:=hg.good (n:=0) (k:=0) (C:=cntL L) (N:=(absG 0 0 L).length) (by rw[yAj];omega) qo k x hx;simpa using this
 .have hz:∀j,0<j->j<=L.length->(1::AB (absG 0 0 L).length (0:Int))[j]?=some 0:=λj j1 j2=>by obtain⟨j,rfl⟩:∃i,j=i+1:=⟨j-1,qo⟩;rw[List.getElem?_cons_succ,List.getElem?_replicate,iB (by rw[yAj];omega)]
  have⟨ds,h1,h2,_⟩:=hf.2 (absG 0 0 L) 0 0 _ 1 (List.prefix_refl _) rfl rfl qr qo (λj j1 j2=>hz j j1 qo) (.inl (by rw[AR];exact hz _ hl1 qr));rw[AR]at h1 h2;rw[yAj];exact⟨ds,h1,h2⟩
theorem yCg{S:Nat}:∀(t:CT)(l:List Ix)(s:Bool)(f:Nat),t.size<=S->S<=200->t.lv (λn=>yB9 [n])->GL l f->(l= []\/Flw l 200)->∀k x,(t.V l s f)[k]?=some x->GL x (f+k)/\Flw x 200/\cntL x<=cntL l+t.size
 | .leaf n,l,s,f,_,_,_,_,_,k,x,h=>by simp[CT.V]at h
 | .chain _ a b,l,s,f,hS,hS2,hv,hg,hf,k,x,h=>by
   simp only[CT.size]at hS|-
   simp only[CT.V,AE,yBw]at h
   split at h
   .have⟨h1,h2,h3⟩:=yCg a l s f qo hS2 hv.1 hg hf k x h
    exact⟨h1,h2,qo⟩
   .have ga:=(yEs a s f).mono (b:=200) (by omega)
    have⟨h1,h2,h3⟩:=yCg b _ _ _ (by omega) hS2 hv.2 (GL.app (yHb a s f hv.1) (hg.mono (by omega))) (.inr (by rcases hf with rfl|hf;exact ga;exact hf.seq ga)) _ x h
    rw[yA2]at h3
    have:=yEt a s f
    exact⟨by rwa [show f+a.J+(k-a.J)=f+k by omega]at h1,h2,qo⟩
 | .inter _ a b,l,s,f,hS,hS2,hv,hg,hf,k,x,h=>by
   simp only[CT.size]at hS|-
   simp only[CT.V,AE,yBw]at h
   split at h
   .have⟨h1,h2,h3⟩:=yCg a l s f (by omega) hS2 hv.1 hg hf k x h
    exact⟨h1,h2,by omega⟩
   .have⟨h1,h2,h3⟩:=yCg b _ _ _ (by omega) hS2 hv.2 (hg.mono (by omega)) hf _ x h
    exact⟨by rwa [show f+a.J+(k-a.J)=f+k by omega]at h1,h2,by omega⟩
 | .cond _ p a b,l,s,f,hS,hS2,hv,hg,hf,k,x,h=>by
   simp only[CT.size]at hS|-
   simp only[CT.V,AH,AE,yBw,AD]at h
   split at h
   .have⟨h1,h2,h3⟩:=yCg p l s f (by omega) hS2 hv.1 hg hf k x h
    exact⟨h1,h2,by omega⟩
   .split at h
    .rename_i q1 q2
     have:k=p.J:=by omega
     subst this
     simp at h
     subst h
     have ga:=(yEs p s f).mono (b:=200) (by omega)
     have:=yEt p s f
     exact⟨GL.app (yHb p s f hv.1) (hg.mono (by omega)),by rcases hf with rfl|hf;exact ga;exact hf.seq ga,by rw[yA2];omega⟩
    .split at h
     .have⟨h1,h2,h3⟩:=yCg a l s _ (by omega) hS2 hv.2.1 (hg.mono (by omega)) hf _ x h
      exact⟨by rwa [show f+p.J+1+(k-p.J-1)=f+k by omega]at h1,h2,by omega⟩
     .have⟨h1,h2,h3⟩:=yCg b l s _ (by omega) hS2 hv.2.2 (hg.mono (by omega)) hf _ x h
      exact⟨by rwa [show f+p.J+1+a.J+(k-p.J-1-a.J)=f+k by omega]at h1,h2,qo⟩
theorem yFz:∀t:CT,t.J<=t.size
 | .leaf _=>AI _
 | .chain _ a b| .inter _ a b=>by have:=yFz a;have:=yFz b;simp only[CT.J,CT.size];omega
 | .cond _ a b c=>by have:=yFz a;have:=yFz b;have:=yFz c;simp only[CT.J,CT.size];omega
theorem yYw{m:Bk}(hs:t.size<=200)(hv:t.lv (λn=>yB9 [n]))(hb:bs.map Bk.vw=(t.V [] false 0).map yC9)(hm:m.vw=yC9 (t.gen false 0)):yHj bs m:=by
 have hlen:bs.length=t.J:=by have:=congrArg List.length hb;simpa [yBw]using this
 have hi:=yFz t;have hg:=yBp t false 0;have hc:=yEt t false 0;obtain⟨h1,h2⟩:m.cnt=(cntL (t.gen false 0):Nat)/\m.l=absG 0 0 (t.gen false 0):=by simpa [yC9]using hm
 refine⟨qo,?_,λk x hx=>?_⟩
 .rw[h1,h2,hlen];exact yTp ((yHb t false 0 hv).mono qo) ((yEs t false 0).mono hs) qo qo
 .have h3:=congrArg (λl=>l[k]?) hb;simp only[List.getElem?_map,hx,Option.map_some]at h3;cases hy:(t.V [] false 0)[k]? with
  |none=>rw[hy]at h3;cases h3
  |some y=>
   rw[hy]at h3;obtain⟨h4,h5⟩:x.cnt=(cntL y:Nat)/\x.l=absG 0 0 y:=by simpa [yC9]using h3
   have⟨k1,k2,k3⟩:=yCg t [] false 0 qr hs hv trivial (.inl rfl) k y hy;have hb:=yR2 t [] false 0 y (List.mem_of_getElem? hy);simp only[List.length_nil,cntL]at hb k3;rw[h4,h5];exact yTp (by simpa using k1) k2 qo qo
end
theorem yVb{n:Nd}(hn:yAl n.f=0)(h:yCz n):yB9 [n]:=
 ⟨by simp,yD5 goodB n [],ShT.snoc (ss:= []) (os:= []) (xs:= []) n hn.symm .nil,by simp[yD5,yH,h],by simp[yD5,yA4]⟩
theorem yEl{P:Nd->Prop}:∀{t:CT}{xs:List Nd},yA9 xs t->(∀e∈xs,yAl e.f=0->P e)->t.lv P
 | .leaf n,_,h,g=>by
   cases h.part with
   |leaf _ hn=>exact g n (by simp) hn
 | .chain n a b,_,h,g=>by
   cases h.part with
   |chain _ hn ha hb=>exact⟨yEl ha λe he=>g e (by simp[he]),yEl hb λe he=>g e (by simp[he])⟩
 | .inter n a b,_,h,g=>by
   cases h.part with
   |inter _ hn ha hb=>exact⟨yEl ha λe he=>g e (by simp[he]),yEl hb λe he=>g e (by simp[he])⟩
 | .cond n p a b,_,h,g=>by
   cases h.part with
   |cond _ hn hp ha hb=>exact⟨yEl hp λe he=>g e (by simp[he]),yEl ha λe he=>g e (by simp[he]),yEl hb λe he=>g e (by simp[he])⟩
theorem yYv{m:Bk}(hG:yB9 xs)(ht:yA9 xs t)(hv:bs.map Bk.vw=(t.V [] false 0).map yC9)(hm:m.vw=yC9 (t.gen false 0)):yHj bs m:=
 yYw (by rw[ht.size];exact hG.1) (yEl ht λe he ha=>yVb ha (yDk hG e he)) hv hm
end Go.Proofs.YtnnagkfoiganfaaGreatDoor
