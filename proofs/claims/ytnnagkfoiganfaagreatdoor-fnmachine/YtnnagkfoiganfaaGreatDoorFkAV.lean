import Derived.Test.YtnnagkfoiganfaaGreatDoorFkAT
import Derived.Test.YtnnagkfoiganfaaGreatDoorFkAU
import Derived.Test.YtnnagkfoiganfaaGreatDoorFkAM
namespace Go.Proofs.YtnnagkfoiganfaaGreatDoor
open Go.ChangeShapes Go.WideShapes Go.ChangeAt Go.RowKit Go.Deep XD XI XU XG XP XK XW XT XF XE XH _root_.List _root_.Nat XY Go.Proofs.Tryz
open _root_.List renaming mem_append->AA,mem_singleton->AB,mem_iff_getElem?->AD
open _root_.Nat renaming le_trans->AC
set_option linter.unusedVariables false
set_option linter.unusedSimpArgs false
set_option maxRecDepth 100000
set_option maxHeartbeats 64000000
variable {x m:Bk} {M:List Ix} {X:List (List Ix)} {mv cv v:Vv} {nc gc cc ml mc ul uc c O base':Nat} {ma ua a a':Option Addr} {w' w0 w:Ww} {bs:List Bk} {ys:List Nd} {cnt:Int} {e:Ending} {R es:List Ent} {p:Prop}
section
section
variable {P:Nd->Prop}
theorem yHu(hz:P yA8):∀(t:CT)(s:Bool)(f:Nat),t.lv P->∀x∈t.gen s f,P x.leaf
 | .leaf n,s,f,h,x,hx=>by rw[AB.1 hx];exact h
 | .chain _ a b,s,f,h,x,hx=>(AA.1 hx).elim (yHu hz a s f h.1 x) (yHu hz b _ _ h.2 x)
 | .inter _ a b,s,f,h,x,hx=>by
   simp only[CT.gen,AA,AB]at hx
   rcases hx with(((rfl|hx)|rfl)|hx)|rfl
   .exact hz
   .exact yHu hz a s f h.1 x hx
   .exact hz
   .exact yHu hz b _ _ h.2 x hx
   .exact hz
 | .cond _ p a b,s,f,h,x,hx=>by
   simp only[CT.gen,AA,AB]at hx
   rcases hx with((rfl|hx)|rfl)|hx
   .exact hz
   .exact yHu hz a _ _ h.2.1 x hx
   .exact hz
   .exact yHu hz b _ _ h.2.2 x hx
theorem yD9(hz:P yA8):∀(t:CT)(l:List Ix)(s:Bool)(f:Nat),t.lv P->(∀x∈l,P x.leaf)->∀L∈t.V l s f,∀x∈L,P x.leaf
 | .leaf n,l,s,f,h,hl,L,hL=>by simp[CT.V]at hL
 | .chain _ a b,l,s,f,h,hl,L,hL=>(AA.1 hL).elim (yD9 hz a l s f h.1 hl L) (yD9 hz b _ _ _ h.2 (λx hx=>(AA.1 hx).elim (hl x) (yHu hz a s f h.1 x)) L)
 | .inter _ a b,l,s,f,h,hl,L,hL=>(AA.1 hL).elim (yD9 hz a l s f h.1 hl L) (yD9 hz b l _ _ h.2 hl L)
 | .cond _ p a b,l,s,f,h,hl,L,hL=>by
   simp only[CT.V,AA,AB]at hL
   rcases hL with((hL|rfl)|hL)|hL
   .exact yD9 hz p l s f h.1 hl L hL
   .exact λx hx=>(AA.1 hx).elim (hl x) (yHu hz p s f h.1 x)
   .exact yD9 hz a l _ _ h.2.1 hl L hL
   .exact yD9 hz b l _ _ h.2.2 hl L hL
theorem yUe:∀{L:List Ix}{k c:Nat},(∀x∈L,P x.leaf)->∀x∈absG k c L,P x.leaf
 | [],_,_,_,x,hx=>by simp[absG]at hx
 |y::L,k,c,h,x,hx=>by
  simp only[absG,List.mem_cons]at hx
  rcases hx with rfl|hx
  .exact h y (by simp)
  .exact yUe (λz hz=>h z (List.mem_cons_of_mem _ hz)) x hx
end
theorem xG{k:Nat}(h:yCc x.l x.cnt k)(hk:k<=200)(hl:∀e∈x.l,e.leaf.ok):x.ok:=by
 have⟨h1,h2,h3,h4,h5,_⟩:=h;refine⟨yJ5 ⟨h3,qo⟩,λe he=>?_⟩;have⟨j,hj⟩:=AD.1 he;have hj2:=qf hj;have hg:=h5 j e hj;have:(0<=e.op/\e.op<=200000)/\(0<=e.a/\e.a<=200000)/\(0<=e.b/\e.b<=200000):=by
  rcases hg with⟨g1,_,g2,g3⟩|⟨g1,_,g2⟩|⟨g1,_,g2⟩|⟨g1,_,g2⟩
  .rcases g3 with g3|g3<;>omega
  all_goals omega
 exact⟨yJ5 this.1,yJ5 this.2.1,yJ5 this.2.2,hl e he⟩
theorem xBt(hC:yYc ys X M)(hok:∀e∈ys,e.ok)(hv:bs.map Bk.vw=X.map yCx)(hm:m.vw=yCx M):(∀x∈bs,x.ok)/\m.ok/\xGf bs m:=by
 obtain⟨h1,h2⟩:m.cnt=(cntL M:Nat)/\m.l=absG 0 0 M:=by simpa [yCx]using hm
 have hz:yA8.ok:=⟨qj,qj,qj,qj,qj,qj⟩;rcases hC with⟨_,rfl,rfl⟩|⟨hG,t,ht,rfl,rfl⟩
 .obtain rfl:bs= []:=by simpa using hv
  exact⟨λx hx=>(by cases hx),⟨by rw[h1];decide,λe he=>by rw[h2]at he;simp[absG]at he⟩,.inr ⟨rfl,h2⟩⟩
 .have hg:=xBu hG ht hv hm;have hl:=yEe ht λe he _=>hok e he;refine⟨λx hx=>?_,xG hg.2.1 hg.1 (by rw[h2];exact yUe (yHu hz t false 0 hl)),.inl hg⟩;have⟨j,hj⟩:=AD.1 hx;have hj2:=qf hj;apply xG (hg.2.2 j x hj) (qw hg.1);have h3:=congrArg (λl=>l[j]?) hv;simp only[List.getElem?_map,hj,Option.map_some]at h3;cases hy:(t.V [] false 0)[j]? with
  |none=>rw[hy]at h3;cases h3
  |some y=>
   rw[hy]at h3;obtain⟨_,h5⟩:x.cnt=(cntL y:Nat)/\x.l=absG 0 0 y:=by simpa [yCx]using h3
   rw[h5];exact yUe (yD9 hz t [] false 0 hl (λx hx=>by cases hx) y (List.mem_of_getElem? hy))
structure CdI(w:Ww)(cv mv:Vv)(cnt:Int)(ys:List Nd)(bs:List Bk)(M:List Ix)(X:List (List Ix)):Prop where
 cu:yIr w cv bs
 cm:yDw w mv (absG 0 0 M)
 of:yYc ys X M
 view:bs.map Bk.vw=X.map yCx
 cnt:cnt=(cntL M:Nat)
theorem CdI.k(h:CdI w cv mv cnt ys bs M X)(hb:Below w w w'):CdI w' cv mv cnt ys bs M X:={h with cu:=h.cu.k hb,cm:=h.cm.k hb qr}
theorem xF9(h:CdU w0 w cv mv cnt X M bs)(hC:yYc ys X M):CdI w cv mv cnt ys bs M X:=⟨h.V.j.inB h.V.each,h.main.in,hC,h.V.view,h.cnt⟩
def FmR(ys:List Nd)(es:List Ent)(w:Ww)(e:Ending)(w':Ww):Prop:=
 ∃(ok:Bool)(a:Option Addr)(n c ops:Nat),e=.returned (.agg #[ok,.slice a n c,xi ops])/\Hid (∃out,RowC w' w (.slice a n c) out/\Below w w w'/\(yBe ys/\yBp es->ok=true/\yJp ys es out)/\(¬(yBe ys/\yBp es)->ok=false))
theorem xEk(h:CdI w (.slice ua ul uc) (.slice ma ml mc) cnt ys bs M X)(hok:∀e∈ys,e.ok){bc:Nat}(hC:OwnC w bc gc cc es)(hoe:∀e∈es,e.ok)(hk:∀e∈es,e.f=0)(hn:nc=es.length)(hl:nc<=100)(hT:TabD w)(hints:Bool):
  Calls prog 10 #[.agg #[.slice ua ul uc,.slice ma ml mc,xi cnt],xg gc nc cc,hints] w (FmR ys es w):=by
 have⟨m,hm⟩:=qE (⟨.slice ma ml mc,cnt,absG 0 0 M⟩:Bk);have hmv:m.vw=yCx M:=by rw[hm];simp[yCx,h.cnt]
 have ho:=xBt h.of hok h.view hmv;have hcm:yDw w m.v m.l:=hm▸h.cm
 have h9:=yXf (m:=m) h.cu ho.1 hcm ho.2.1 hC hoe hk qo hT hints hn λwx hx=>yH ho.2.2 (h.cu.k hx) ho.1 (hcm.k hx qr) ho.2.1;rw[hm]at h9;apply h9.mono;rintro e w' ⟨ok,a,n,c,ops,rfl,H⟩;have⟨out,h1,h2,h3,h4⟩:=H;rw[<-hm]at h2;exact⟨ok,a,n,c,ops,rfl,out,h3,h4,λq=>(yU5 q.1 h.of h.view hmv q.2 hk hoe).2 h2,λq=>xHc h.of hmv q h2⟩
theorem xBb(a a':Option Addr)(c c':Nat)(w:Ww):(xf 15 #[.slice a 0 c,.slice a' 0 c'] w true:Prop):=by
 go_enter func15,ntmps15;go_wp2;go_loopw[5] (λi wr=>i=(xi 0)/\wr=w) (λ_ _=>0);case atStart=>exact⟨rfl,rfl⟩
 case round=>obtain⟨rfl,rfl⟩:=hrel;go_wp2;go_ret;exact⟨rfl,Below.refl _ _⟩
theorem xL1{n n' c':Nat}(h:RowC w O (.slice a n c) es)(h':RowC w base' (.slice a' n' c') es):(xf 15 #[.slice a n c,.slice a' n' c'] w true:Prop):=by
 have key:∀{O:Nat}{a:Option Addr}{n c:Nat},RowC w O (.slice a n c) es->n=es.length/\(n=0\/∃g,a=some ⟨g,0,none⟩/\OwnC w O g c es):=λ{O a n c} h=>by
  rcases h.2 with⟨q,l⟩|⟨g,cap,cur,q,r⟩
  .cases q;exact⟨l.symm,.inl rfl⟩
  .cases q;exact⟨rfl,.inr ⟨g,rfl,h⟩⟩
 have⟨l1,k1⟩:=key h;have⟨l2,k2⟩:=key h';rcases k1 with q|⟨g,rfl,k1⟩
 .rw[q]at l1;rw[<-l1]at l2;rw[q,l2];exact xBb _ _ _ _ _
 .rcases k2 with q|⟨g',rfl,k2⟩
  .rw[q]at l2;rw[<-l2]at l1;rw[q,l1];exact xBb _ _ _ _ _
  .rw[l1,l2];exact yS4 k1 k2
end
structure FmI(w0:Ww)(tf tc b o c nf:Nat)(cv mv:Vv)(cnt:Int)(gc cc nc:Nat)(ys:List Nd)(es:List Ent)(bs:List Bk)(M:List Ix)(X:List (List Ix))(w:Ww):Prop where
 bf:yA w w0 25 1 tf [(xy b o nf c)]
 bc:yA w w0 34 3 tc [cv,mv,xi cnt]
 wd:WdN w b o c ys
 cd:CdI w cv mv cnt ys bs M X
 ce:OwnC w w0 gc cc es
 tab:TabD w
 k:Below w0 w0 w
 lf:nf=ys.length
 lc:nc=es.length
 yo:∀e∈ys,e.ok
 eo:∀e∈es,e.ok
 ek:∀e∈es,e.f=0
 cl:nc<=100
theorem FmI.up{tf tc b o nf:Nat}(h:FmI w0 tf tc b o c nf cv mv cnt gc cc nc ys es bs M X w)(hb:Below w w w'):FmI w0 tf tc b o c nf cv mv cnt gc cc nc ys es bs M X w':=
 {h with bf:=h.bf.k hb,bc:=h.bc.k hb,wd:=h.wd.k hb h.wd.lt,cd:=h.cd.k hb,ce:=h.ce.k hb h.ce.lt.2,tab:=h.tab.i (S:=λ_=>False) (Chg.h hb) (λq=>q),k:=h.k.trans (hb.mono h.k.size)}
theorem xDg(h:RowC w O v es)(hb:base'<=O):RowC w base' v es:=by
 refine⟨h.1,?_⟩;rcases h.2 with q|⟨g,cap,cur,q1,q2,q3⟩
 .exact .inl q
 .exact .inr ⟨g,cap,cur,q1,AC hb q2,q3⟩
theorem xBc(h:FmR ys es w e w')(hg:yBe ys/\yBp es)(hM:yJp ys es R)(h0:w0.heap.size<=w):∃(a:Option Addr)(n c p:Nat),e=.returned (.agg #[.bool true,.slice a n c,.int .i64 (p:Int)])/\∃W t,W=w'.alloc (Obj.cells #[.bool true,.slice a n c,.int .i64 (p:Int)] 39)/\t=w'/\Hid (Below w.heap.size w W/\∀wx,Below W.heap.size W wx->yA wx w0 39 3 t [true,.slice a n c,xi p]/\RowC wx w0 (.slice a n c) R):=by obtain⟨ok,a,n,c,p,rfl,out,q1,q2,q3,-⟩:=h;obtain⟨rfl,q4⟩:=q3 hg;obtain rfl:=xAh q4 hM;have k1:Below w' w' (xw w' #[true,.slice a n c,xi p] 39):=qB;exact⟨a,n,c,p,rfl,_,_,rfl,rfl,q2.trans (k1.mono q2.size),λwx hx=>⟨yA.k (yAa w' _ (AC h0 q2.size) rfl) hx,((xDg q1 h0).k k1).k hx⟩⟩
theorem zFmB (h:p:=by
 have HRn:Hid (Calls prog 10 #[.agg #[.slice ca cn ck,.slice ma mn mk,xi cnt],xg gc nc cc,true] wy (FmR ys es wy)):=by have h9:=HN.out wy HBy;exact xEk h9.cd h9.yo h9.ce h9.eo h9.ek h9.lc h9.cl h9.tab true
 have hfd:∀(ok:Bool)(a:Option Addr)(n c ops:Nat)(W:Ww),(Instr.field 39 (.agg #[ok,.slice a n c,xi ops]) 0).run prog W=.ok ok W:=λok a n c ops W=>qk
 have d0:=(HN wy HBy).bc.z (j:=0) rfl;have d1:=(HN wy HBy).bc.z (j:=1) rfl;have d2:=(HN wy HBy).bc.z (j:=2) rfl;go_wp2_with fail;apply HRn.mono;rintro e w8 ⟨ok,a8,n8,c8,ops8,rfl,H8⟩;have⟨out,_,hb8,_,hno⟩:=H8;obtain rfl:ok=false:=hno HBad;have HB8:=qH1 ((HN wy HBy).k.trans (hb8.mono (HN wy HBy).k.size));clear hno hb8 H8;go_wp2_with fail;go_ret;exact⟨rfl,HB8⟩):p:=h
theorem yMe(v0:Vv)(n0:Nat)(w:Ww)(h0:yG7 w v0 n0)(hg:TabD w):(xf 3 #[v0] w true:Prop):=by
 have⟨a0,cap0,hv0⟩:=h0.slice;subst hv0;have HI:=qH2 h0 hg;have hr0:=h0.1;unfold maxLen at hr0;clear h0 hg;by_cases hbig:1048576<n0
 .have z:(1048576:Int)<(n0:Int):=qo
  go_enter func3,ntmps3;go_wp2_with fail;go_ret;exact⟨rfl,Below.refl _ _⟩
 have z:¬(1048576:Int)<(n0:Int):=qo
 have h10:n0<=1048576:=qo
 go_enter func3,ntmps3;go_wp2_with fail;apply (yJm _ n0 _ (HI.1.code h10)).mono;rintro e w1 ⟨b,o,c,ys,gc,cc,es,rfl,hyl,hel,H1⟩;have hb1:=H1.2.2;have⟨W1,hW1⟩:=qE (xw w1 #[(xy b o ys.length c)] 25:Ww);have⟨tf,htf⟩:=qE w1;have⟨nf,hnf⟩:=qE ys.length;have⟨nc,hnc⟩:=qE es.length;rw[<-hnf]at hW1 hyl|-;rw[<-hnc]at hel|-;have HW1:Hid (yA W1 w 25 1 tf [(xy b o nf c)]/\WdN W1 b o c ys/\OwnC W1 w gc cc es/\TabD W1/\Below w w W1/\(∀e∈ys,e.ok)/\(∀e∈es,e.ok)/\(∀e∈es,e.f=0)/\nf=ys.length/\nc=es.length/\nc<=100):=by
  have s1:=hb1.size;have k1:Below w1 w1 W1:=hW1▸qB
  have kw:=hb1.trans (k1.mono s1);have⟨⟨y1,y2,y3,y4⟩,⟨e1,e2,e3⟩,_⟩:=H1;exact⟨by rw[hW1,htf];exact yAa w1 _ s1 rfl,(WdN.mk y2 y3.2 y4).k k1 y3.2,e1.k k1 e1.lt.2,HI.2.i (S:=λ_=>False) (Chg.h kw) (λq=>q),kw,y1,e2,e3,hnf,hnc,hel⟩
 clear H1 hb1 hnf hnc hel HI;have c1:=HW1.1.z (j:=0) rfl;have HCm:Hid (Calls prog 7 #[.agg #[(xy b o nf c)]] W1 (CmpI ys W1)):=by rw[HW1.2.2.2.2.2.2.2.2.1];exact yFu HW1.2.1 HW1.2.2.2.2.2.1
 go_upto_region 4 with fail;rw[<-hW1,<-htf];clear hW1 htf;go_wp2_with fail;apply HCm.mono;rintro e w2 ⟨ca,cn,ck,ma,mn,mk,cnt,X,M,bs,rfl,hCd,hOf,_⟩;have hb2:=hCd.V.k;have⟨W2,hW2⟩:=qE (w2.alloc (Obj.cells #[.slice ca cn ck,.slice ma mn mk,.int .i64 cnt] 34):Ww);have⟨tc,htc⟩:=qE w2.heap.size;have HN:Hid (∀wx,Below W2.heap.size W2 wx->FmI w tf tc b o c nf (.slice ca cn ck) (.slice ma mn mk) cnt gc cc nc ys es bs M X wx):=by
  have k2:Below w2 w2 W2:=hW2▸qB
  have kk:=hb2.trans (k2.mono hb2.size);have⟨q1,q2,q3,q4,q5,q6,q7,q8,q9,q10,q11⟩:=HW1;intro wx hx;refine FmI.up (w:=W2) ⟨q1.k kk,?_,q2.k kk q2.lt,(xF9 hCd hOf).k k2,q3.k kk q3.lt.2,q4.i (S:=λ_=>False) (Chg.h kk) (λq=>q),q5.trans (kk.mono q5.size),q9,q10,q6,q7,q8,q11⟩ hx;rw[hW2,htc];exact yAa w2 _ (AC q5.size hb2.size) rfl
 clear hCd hOf hb2 HCm HW1 c1;have HVf:Hid (Calls prog 8 #[.agg #[(xy b o nf c)]] W2 (yG6 ys W2)):=by have h9:=HN.out W2 (Below.refl _ _);rw[h9.lf];exact yEf h9.wd h9.yo
 have HVc:Hid (∀wx,Below W2.heap.size W2 wx->Calls prog 9 #[(xg gc nc cc)] wx (yIp (yBp es) wx)):=λwx hx=>by have h9:=HN.out wx hx;have h8:=yGv gc cc es w.heap.size wx h9.ce h9.eo (by have:=h9.lc;have:=h9.cl;omega);rw[yJu h9.ek]at h8;rw[h9.lc];exact h8
 have c1:=(HN W2 (Below.refl _ _)).bf.z (j:=0) rfl;go_upto_region 5 with fail;rw[<-hW2,<-htc];clear hW2 htc;go_wp2_with fail;apply HVf.mono;rintro e w3 ⟨r,rfl,hr,hb3⟩;have HG:=qH1 hr;have HB3:=qH1 hb3;clear hr hb3 c1 HVf;cases r
 case false=>
  have HBad:Hid (¬(yBe ys/\yBp es)):=λq=>Bool.noConfusion (HG.2 q.1);have⟨wy,hwy⟩:=qE (w3:Ww);have HBy:Hid (Below W2.heap.size W2 wy):=hwy▸HB3.out
  rw[<-hwy];clear hwy HB3 HG HVc;exact zFmB
 case true=>
 have HG1:=qH1 (HG.1 (by first|rfl|trivial));have HVc3:=qH1 (HVc w3 HB3);clear HG HVc;go_wp2_with fail;apply HVc3.mono;rintro e w4 ⟨r2,rfl,hr2,hb4⟩;have HG2:=qH1 hr2;have HB4:=qH1 (HB3.trans (hb4.mono HB3.size));clear hr2 hb4 HVc3 HB3;cases r2
 case false=>
  have HBad:Hid (¬(yBe ys/\yBp es)):=λq=>Bool.noConfusion (HG2.2 q.2);have⟨wy,hwy⟩:=qE (w4:Ww);have HBy:Hid (Below W2.heap.size W2 wy):=hwy▸HB4.out
  rw[<-hwy];clear hwy HB4 HG2;exact zFmB
 case true=>
 have HGd:=qH2 HG1 (HG2.1 (by first|rfl|trivial));clear HG1 HG2;have HMe:Hid (Calls prog 11 #[.agg #[(xy b o nf c)],(xg gc nc cc)] w4 (MeaP ys es w4)):=by have h9:=HN.out w4 HB4;rw[h9.lf,h9.lc];exact yKd h9.wd h9.yo h9.ce h9.eo h9.ek (by have:=h9.lc;have:=h9.cl;omega)
 have c1:=(HN w4 HB4).bf.z (j:=0) rfl;go_upto_region 8 with apply HMe.mono;rintro e w5 ⟨gm,cm,R,rfl,H5⟩;have⟨nm,hnm⟩:=qE R.length;rw[<-hnm];have HB5:=qH1 (HB4.trans (H5.2.2.mono HB4.size));have HMO:=qH2 H5.1 hnm;have HM5:Hid (∀wx,Below w5.heap.size w5 wx->RowC wx w.heap.size (xg gm nm cm) R):=λwx hx=>by
  have h9:RowC w5 w.heap.size (xg gm nm cm) R:=hnm▸(H5.2.1.mono (AC (HN.out w4 HB4.out).k.size (Nat.le_refl _)))
  exact h9.k hx
 clear H5 hnm HMe c1 HB4;have HRn5:Hid (Calls prog 10 #[.agg #[.slice ca cn ck,.slice ma mn mk,.int .i64 cnt],(xg gc nc cc),.bool true] w5 (FmR ys es w5)):=by have h9:=HN.out w5 HB5;exact xEk h9.cd h9.yo h9.ce h9.eo h9.ek h9.lc h9.cl h9.tab true
 have d0:=(HN w5 HB5).bc.z (j:=0) rfl;have d1:=(HN w5 HB5).bc.z (j:=1) rfl;have d2:=(HN w5 HB5).bc.z (j:=2) rfl;go_wp2_with fail;apply HRn5.mono;intro e w6 h6;obtain⟨a5,n5,c5,p5,rfl,W6,ta,hW6,hta,HS5⟩:=xBc h6 HGd HMO.1 (HN w5 HB5).k.size;have HB6:=hidO (HB5.trans (HS5.1.mono HB5.size));clear h6 HRn5 d0 d1 d2;go_upto_region 9 with fail;rw[<-hW6,<-hta];clear hW6 hta;have HRn6:Hid (Calls prog 10 #[.agg #[.slice ca cn ck,.slice ma mn mk,xi cnt],xg gc nc cc,false] W6 (FmR ys es W6)):=by have h9:=HN.out W6 HB6;exact xEk h9.cd h9.yo h9.ce h9.eo h9.ek h9.lc h9.cl h9.tab false
 have d0:=(HN W6 HB6).bc.z (j:=0) rfl;have d1:=(HN W6 HB6).bc.z (j:=1) rfl;have d2:=(HN W6 HB6).bc.z (j:=2) rfl;go_wp2_with fail;apply HRn6.mono;intro e w7 h7;obtain⟨a6,n6,c6,p6,rfl,W7,tb,hW7,htb,HS6⟩:=xBc h7 HGd HMO.1 (HN W6 HB6).k.size;have HB7:=hidO (HB6.trans (HS6.1.mono HB6.size));clear h7 HRn6 d0 d1 d2;go_upto_region 10 with fail;rw[<-hW7,<-htb];clear hW7 htb;have HNm:Hid (Calls prog 12 #[.agg #[(xy b o nf c)]] W7 (NrmU ys W7)):=by have h9:=HN.out W7 HB7;rw[h9.lf];exact yMb h9.wd h9.yo
 have c1:=(HN W7 HB7).bf.z (j:=0) rfl;go_wp2_with fail;apply HNm.mono;rintro e w8 ⟨an,nn,cn8,R8,rfl,hU8,hR8,hb8⟩;obtain⟨HR8,g8,hq8⟩:Hid (yBe R8/\(∀e∈R8,e.ok)/\yJp R8 es R/\nn=R8.length)/\∃g8,an=some ⟨g8,0,none⟩/\yBb w8 W7 g8 cn8 R8:=by
  have h9:=HN.out W7 HB7;rcases hR8 with q|⟨hgf,hNf⟩
  .exact absurd HGd.1 q.1
  have⟨y,hy,hyne,_,hym⟩:=yNc hgf;obtain rfl:=yQe hNf hy;have⟨hgR,_,_,hME⟩:=yZ9 hgf hNf;rcases hU8 with⟨_,q⟩|⟨g,cp,q,hO⟩
  .exact absurd q hyne
  .cases q
   exact⟨⟨hgR,λe he=>h9.yo e (hym e he),hME es R h9.ek h9.eo HMO.1,rfl⟩,g,rfl,hO⟩
 obtain⟨rfl,hO8⟩:=hq8;have HB8:=qH1 (HB7.trans (hb8.mono HB7.size));have HK8:=qH1 hb8;have HC8:Hid (Calls prog 7 #[.agg #[xg g8 nn cn8]] w8 (CmpI R8 w8)):=by rw[HR8.2.2.2];exact yFu hO8.wd HR8.2.1
 clear hU8 hR8 hb8 hO8 HNm c1;go_wp2_with fail;apply HC8.mono;rintro e w9 ⟨ca9,cn9,ck9,ma9,mn9,mk9,cnt9,X9,M9,bs9,rfl,hCd9,hOf9,_⟩;have HB9:=qH1 (HB8.trans (hCd9.V.k.mono HB8.size));have HK9:=qH1 (HK8.trans (hCd9.V.k.mono HK8.size));have HR9:Hid (Calls prog 10 #[.agg #[.slice ca9 cn9 ck9,.slice ma9 mn9 mk9,xi cnt9],xg gc nc cc,true] w9 (FmR R8 es w9)):=by have h9:=HN.out w9 HB9;exact xEk (xF9 hCd9 hOf9) HR8.2.1 h9.ce h9.eo h9.ek h9.lc h9.cl h9.tab true
 clear hCd9 hOf9 HC8 HB8 HK8;go_wp2_with fail;apply HR9.mono;intro e w10 h10;obtain⟨a9,n9,c9,p9,rfl,W10,td,hW10,htd,HS9⟩:=xBc h10 ⟨HR8.1,HGd.2⟩ HR8.2.2.1 (HN w9 HB9).k.size;have HB10:=hidO (HB9.trans (HS9.1.mono HB9.size));have HK10:=hidO (HK9.trans (HS9.1.mono HK9.size));clear h10 HR9;go_upto_region 11 with fail;rw[<-hW10,<-htd];clear hW10 htd;have HF:Hid (∀wx,Below W10 W10 wx->FmI w tf tc b o c nf (.slice ca cn ck) (.slice ma mn mk) cnt gc cc nc ys es bs M X wx/\(yA wx w 39 3 ta [true,.slice a5 n5 c5,xi p5]/\RowC wx w (.slice a5 n5 c5) R)/\(yA wx w 39 3 tb [true,.slice a6 n6 c6,xi p6]/\RowC wx w (.slice a6 n6 c6) R)/\(yA wx w 39 3 td [true,.slice a9 n9 c9,xi p9]/\RowC wx w (.slice a9 n9 c9) R)/\RowC wx w (xg gm nm cm) R):=λwx hx=>by have k7:=HK10.trans (hx.mono HK10.size);have k6:=HS6.1.trans (k7.mono HS6.1.size);have k5:=HS5.1.trans (k6.mono HS5.1.size);exact⟨HN wx (HB10.trans (hx.mono HB10.size)),HS5.2 wx k6,HS6.2 wx k7,HS9.2 wx hx,HM5 wx k5⟩
 have⟨m,hm⟩:=qE (⟨.slice ma mn mk,cnt,absG 0 0 M⟩:Bk);obtain⟨Y,hY⟩:∃Y:Ending->Ww->Prop,Y=λe w'=>e=.returned true/\Hid (Below W10 W10 w'):=⟨_,rfl⟩;have HSx:Hid (∀wx,Below W10 W10 wx->(xk wx tc 0 (.slice ca cn ck)/\xk wx tc 1 (.slice ma mn mk)/\xk wx tc 2 (xi cnt)/\xk wx ta 0 true/\xk wx ta 1 (.slice a5 n5 c5)/\xk wx tb 0 true/\xk wx tb 1 (.slice a6 n6 c6)/\xk wx td 0 true/\xk wx td 1 (.slice a9 n9 c9))/\Hid (Calls prog 13 #[.agg #[.slice ca cn ck,.slice ma mn mk,xi cnt]] wx Y/\Calls prog 14 #[.agg #[.slice ca cn ck,.slice ma mn mk,xi cnt]] wx Y/\∀a n c,RowC wx w (.slice a n c) R->Calls prog 15 #[.slice a n c,xg gm nm cm] wx Y)):=λwx hx=>by
  have⟨f1,f2,f3,f4,f5⟩:=HF wx hx;have hmv:m.vw=yCx M:=by rw[hm];simp[yCx,f1.cd.cnt]
  have ho:=xBt f1.cd.of f1.yo f1.cd.view hmv;have hgc:=(yU5 HGd.1 f1.cd.of f1.cd.view hmv HGd.2 f1.ek f1.eo).1;have e1:=yL3 hgc f1.cd.cu ho.1 (hm▸f1.cd.cm) ho.2.1;have e2:=yH (.inl hgc) f1.cd.cu ho.1 (hm▸f1.cd.cm) ho.2.1;rw[hm]at e1 e2 hgc;have up:∀{k a},Calls prog k a wx (YesP wx)->Calls prog k a wx Y:=λh=>h.mono λe w' q=>hY▸⟨q.1,hx.trans (q.2.mono hx.size)⟩
  exact⟨⟨f1.bc.z (j:=0) rfl,f1.bc.z (j:=1) rfl,f1.bc.z (j:=2) rfl,f2.1.z (j:=0) rfl,f2.1.z (j:=1) rfl,f3.1.z (j:=0) rfl,f3.1.z (j:=1) rfl,f4.1.z (j:=0) rfl,f4.1.z (j:=1) rfl⟩,up e1,up (e2.mono λe w' ⟨r,q1,q2,q3⟩=>⟨by rw[q1,q2.2 hgc],q3⟩),λa n c h=>up (xL1 h f5)⟩
 subst hY;clear HS5 HS6 HS9 HM5 HN HK10 HB10 hm;have HX:Hid (Below W10 W10 W10):=Below.refl _ _;have⟨⟨d0,d1,d2,d3,d4,d5,d6,d7,d8⟩,hc⟩:=HSx _ HX;go_wp2_with fail;apply hc.out.1.mono;rintro e x ⟨rfl,HX⟩;clear hc d0 d1 d2 d3 d4 d5 d6 d7 d8;have⟨⟨d0,d1,d2,d3,d4,d5,d6,d7,d8⟩,hc⟩:=HSx _ HX;go_wp2_with fail;apply hc.out.2.1.mono;rintro e x ⟨rfl,HX⟩;clear hc d0 d1 d2 d3 d4 d5 d6 d7 d8;have⟨⟨d0,d1,d2,d3,d4,d5,d6,d7,d8⟩,hc⟩:=HSx _ HX;go_wp2_with fail;apply (hc.out.2.2 _ _ _ (HF.out _ HX.out).2.1.2).mono;rintro e x ⟨rfl,HX⟩;clear hc d0 d1 d2 d3 d4 d5 d6 d7 d8;have⟨⟨d0,d1,d2,d3,d4,d5,d6,d7,d8⟩,hc⟩:=HSx _ HX;go_wp2_with fail;apply (hc.out.2.2 _ _ _ (HF.out _ HX.out).2.2.1.2).mono;rintro e x ⟨rfl,HX⟩;clear hc d0 d1 d2 d3 d4 d5 d6 d7 d8;have⟨⟨d0,d1,d2,d3,d4,d5,d6,d7,d8⟩,hc⟩:=HSx _ HX;go_wp2_with fail;apply (hc.out.2.2 _ _ _ (HF.out _ HX.out).2.2.2.1.2).mono;rintro e x ⟨rfl,HX⟩;clear hc d0 d1 d2 d3 d4 d5 d6 d7 d8;obtain⟨⟨d0,d1,d2,d3,d4,d5,d6,d7,d8⟩,-⟩:=HSx _ HX;go_wp2_with fail;go_ret;exact⟨rfl,(HF _ HX).1.k⟩
end Go.Proofs.YtnnagkfoiganfaaGreatDoor
