import Derived.Test.YtehfleefkdojpaaGreatDoorSkAK
import Derived.Test.YtehfleefkdojpaaGreatDoorSkAM
import Derived.Test.YtehfleefkdojpaaGreatDoorSkAL
namespace Go.Proofs.YtehfleefkdojpaaGreatDoor
open Go.ChangeShapes Go.WideShapes Go.ChangeAt Go.RowKit Go.Deep _root_.List _root_.Nat Go.Proofs.Tryz
set_option linter.unusedVariables false
set_option linter.unusedSimpArgs false
set_option maxRecDepth 100000
set_option maxHeartbeats 16000000
structure StK(B:Nat)(v:Value)(tb:List Tb)(k:Nat)(w:World):Prop where
 st:∃xs,yBs w B v xs/\xs.map Tx.tb=tb
 good:GoodS tb
 small:∀e∈yAt tb,e.small
 len:tb.length<=k+1
 cnt:(yAt tb).length<=900*k
variable {S:Nat->Prop} {B k:Nat} {w w':World}
theorem StK.chg{v:Value}{tb:List Tb}(h:StK B v tb k w)(hc:Chg S w w')(hn:∀j,B<=j->¬S j):StK B v tb k w':=by obtain⟨xs,h1,h2⟩:=h.st;exact⟨⟨xs,h1.chg hc (λj hj _=>hn j hj),h2⟩,h.good,h.small,h.len,h.cnt⟩
theorem StK.below{v:Value}{tb:List Tb}(h:StK B v tb k w)(hb:Below w.heap.size w w'):StK B v tb k w':=
 h.chg (S:=λ_=>False) (Chg.of_below hb) (λ_ _ q=>q)
theorem StK.at{v:Value}{tb:List Tb}(h:StK B v tb k w):StAt w v tb:=by obtain⟨xs,h1,h2⟩:=h.st;have:=h1.st (by rw[h2];exact h.good);rw[h2]at this;exact this
theorem StK.goodD{v:Value}{tb:List Tb}(h:StK B v tb k w)(hk:k<=10):yCa tb:=⟨h.good,λe he=>(h.small e he).ok,by have:=h.cnt;omega⟩
def CmdP(k:Nat)(w:World)(e:Ending)(w':World):Prop:=∃(a:Option Addr)(m c:Nat)(tb:List Tb),e=.returned (.agg #[.slice a m c])/\StK w.heap.size (.slice a m c) tb (k+1) w'/\Below w.heap.size w w'
theorem CmdP.of{out:List Tb}{e:Ending}(h:yBy w out e w')(hg:GoodS out)(hs:∀e∈yAt out,e.small)(hl:out.length<=k+2)(hc:(yAt out).length<=900*(k+1)):CmdP k w e w':=by
 obtain⟨v,xs,rfl,hS,rfl,hb⟩:=h;obtain⟨a,m,c,rfl⟩:∃a m c,v=.slice a m c:=by rcases hS.row with⟨_,a,c,q⟩|⟨g,cp,q,_⟩<;>exact⟨_,_,_,q⟩
 exact⟨a,m,c,_,rfl,⟨⟨xs,hS,rfl⟩,hg,hs,hl,hc⟩,hb⟩
variable {w1:World}
theorem CmdP.less{ts out:List Tb}{v:Value}{e:Ending}(h:yBy w out e w')(hs:StK B v ts k w1)(hg:GoodS out)(hl:Less out ts)(hn:out.length<=ts.length+1):CmdP k w e w':=
 CmdP.of h hg (λe he=>hs.small e (hl.2 e he)) (by have:=hs.len;omega) (by have:=hs.cnt;have:=hl.1;omega)
theorem yTl{v:Value}{tb:List Tb}(h:StK B v tb k w)(hk:k<=9)(row:ByteArray)(hr:row.size<=1000):
  Calls prog 35 #[.agg #[v],.string row] w (CmdP k w):=by
 obtain⟨g,cp,ts,rfl,hT,ht,hB,hc,hm⟩:=h.at;have hd:=h.goodD (by omega);obtain⟨s1,s2⟩:=hd.sizes ht;refine(yFn g 0 cp ts row w hT (hd.oks ht) hB (by omega) (by omega) (λt q=>by have:=s2 t q;omega)).mono ?_;rintro e w' ⟨out,hS,hP⟩;rw[ht]at hS;exact CmdP.less hP h (yIs hd.good hS).1 (yQm hd.good hS) (yYh hd.good hS)
theorem yUf{v:Value}{tb:List Tb}(h:StK B v tb k w)(hk:k<=9)(row:ByteArray):
  Calls prog 34 #[.agg #[v],.string row] w (CmdP k w):=by
 obtain⟨g,cp,ts,rfl,hT,ht,hB,hc,hm⟩:=h.at;have hd:=h.goodD (by omega);obtain⟨s1,s2⟩:=hd.sizes ht;refine(yFo g 0 cp ts row w hT (hd.oks ht) hB (by omega) (λt q=>by have:=s2 t q;omega)).mono ?_;rintro e w' ⟨out,hS,hP⟩;rw[ht]at hS;exact CmdP.less hP h (yGy hd.good hS).1 (yQw hd.good hS) (by have:=(yYr hS).2;omega)
theorem yP9{v:Value}{tb:List Tb}(h:StK B v tb k w)(hk:k<=9)(row:ByteArray):
  Calls prog 33 #[.agg #[v],.string row] w (CmdP k w):=by
 obtain⟨g,cp,ts,rfl,hT,ht,hB,hc,hm⟩:=h.at;have hd:=h.goodD (by omega);obtain⟨s1,s2⟩:=hd.sizes ht;refine(yEu g 0 cp ts row w hT (hd.oks ht) hB (by omega) (λt q=>by have:=s2 t q;omega)).mono ?_;rintro e w' ⟨out,hS,hP⟩;rw[ht]at hS;exact CmdP.less hP h (yIy hd.good hS).1 (yQ8 hd.good hS) (by have:=(yZe hS).2;omega)
variable {es:List Ent}
theorem yS9{v:Value}{tb:List Tb}(h:StK B v tb k w)(hk:k<=8){b2 g2 c2:Nat}(he:OwnE w b2 g2 c2 es)(hs:∀e∈es,e.small)(hl:es.length<=100):
  Calls prog 47 #[.agg #[v],.slice (some ⟨g2,0,none⟩) es.length c2] w (CmdP k w):=by
 obtain⟨g,cp,ts,rfl,hT,ht,hB,hc,hm⟩:=h.at;have hd:=h.goodD (by omega);obtain⟨s1,s2⟩:=hd.sizes ht;refine(yJb g 0 cp ts ⟨g2,0,c2,es⟩ w hT (hd.oks ht) hB (by omega) (λt q=>by have:=s2 t q;omega) ⟨he.at,he.lt.2,(yAn.caps he).1,(yAn.caps he).2⟩ (λe q=>(hs e q).ok) (by show es.length<=_;omega)).mono ?_;rintro e w' ⟨out,hS,hP⟩;rw[ht]at hS;obtain⟨l1,l2,l3⟩:=yY hS;refine CmdP.of hP (yYa hd.good hS) (λe he=>?_) (by have:=h.len;omega) ?_
 .rcases l2 e he with q|q
  .exact h.small e q
  .exact hs e q
 .have h1:=h.len;have h2:=h.cnt;have h3:tb.length*es.length<=9*100:=Nat.mul_le_mul (by omega) hl;have h4:(⟨g2,0,c2,es⟩:Rm).es.length=es.length:=rfl;rw[h4]at l1;omega
theorem yP5:GoodS [(⟨⟨#[]⟩,[]⟩:Tb)]:=
 ⟨by simp,by simp,λt ht=>by simp at ht;subst ht;rfl,yIf.2 ⟨⟨by decide,by simp,λes he=>by simp at he⟩,λes he=>by simp at he⟩⟩
theorem yWi(w:World)(base:Nat)(hb:base<=w.heap.size)(x:Value):OwnP (w.alloc (Obj.cells #[.string ⟨#[]⟩,x] 56)) base w.heap.size 1 [(⟨#[]⟩,x)]:=
 ⟨rfl,.inr ⟨w.heap.size,1,#[.string ⟨#[]⟩,x],rfl,hb,by rw[show(w.alloc (Obj.cells #[.string ⟨#[]⟩,x] 56)).heap=w.heap.push (Obj.cells #[.string ⟨#[]⟩,x] 56)from rfl];exact Array.getElem?_push_size,by simp,by unfold maxLen;omega,by simp,by simp[yAs]⟩⟩
theorem yL4(w:World):
  Calls prog 45 #[] w λe w'=>∃a m c,e=.returned (.agg #[.slice a m c])/\StK w.heap.size (.slice a m c) [⟨⟨#[]⟩,[]⟩] 0 w'/\Below w.heap.size w w':=by
 have HN:Hid (StK w.heap.size (.slice (some ⟨w.heap.size+1+1,0,none⟩) 1 1) [⟨⟨#[]⟩,[]⟩] 0 (((w.alloc (Obj.cells #[.slice (some ⟨w.heap.size+1+1,0,none⟩) 1 1] 28)).alloc (Obj.cells #[] 60)).alloc (Obj.cells #[.string ⟨#[]⟩,.slice (some ⟨w.heap.size+1,0,none⟩) 0 0] 56))):=by
  have h1:=yEv (w.alloc (Obj.cells #[.slice (some ⟨w.heap.size+1+1,0,none⟩) 1 1] 28)) w.heap.size (by simp);have h2:=yWi ((w.alloc (Obj.cells #[.slice (some ⟨w.heap.size+1+1,0,none⟩) 1 1] 28)).alloc (Obj.cells #[] 60)) w.heap.size (by simp;omega) (.slice (some ⟨w.heap.size+1,0,none⟩) 0 0);rw[show(w.alloc (Obj.cells #[.slice (some ⟨w.heap.size+1+1,0,none⟩) 1 1] 28)).heap.size=w.heap.size+1 by simp]at h1;rw[show((w.alloc (Obj.cells #[.slice (some ⟨w.heap.size+1+1,0,none⟩) 1 1] 28)).alloc (Obj.cells #[] 60)).heap.size=w.heap.size+1+1 by simp]at h2;refine⟨⟨[⟨⟨#[]⟩,.slice (some ⟨w.heap.size+1,0,none⟩) 0 0,[]⟩],⟨.inr ⟨_,1,rfl,h2⟩,λt ht=>?_,λt ht r hr=>?_⟩,rfl⟩,yP5,λe he=>by simp[yAt]at he,by simp,by simp[yAt]⟩
  .simp at ht;subst ht;exact⟨_,_,rfl,yB h1 (qB)⟩
  .simp at ht;subst ht;simp at hr
 go_enter func45,ntmps45;go_wp2;refine bodyPost_ret (v:=.agg #[.slice (some ⟨w.heap.size+1+1,0,none⟩) 1 1]) (by simp[results,results45,go_sem]) rfl ⟨_,_,_,rfl,HN.out,?_⟩;exact((qB).alloc (by simp) _).alloc (by simp;omega) _
theorem StK.up{v:Value}{tb:List Tb}{k':Nat}(h:StK B v tb k w)(hk:k<=k'):StK B v tb k' w:=
 ⟨h.st,h.good,h.small,by have:=h.len;omega,by have:=h.cnt;omega⟩
theorem StK.low{B':Nat}{v:Value}{tb:List Tb}(h:StK B v tb k w)(hb:B'<=B):StK B' v tb k w:=by obtain⟨xs,h1,h2⟩:=h.st;exact⟨⟨xs,h1.mono hb,h2⟩,h.good,h.small,h.len,h.cnt⟩
structure SI(base cb:Nat)(bv:Value)(n:Nat)(w:World)(vb:Nat)(v:Value)(tb:List Tb)(k:Nat)(wr:World):Prop where
 x:XInv base cb bv n w 28 1 vb w.heap.size [v] [.slice none 0 0] wr
 s:∃B,w.heap.size<B/\StK B v tb k wr
variable {base cb n vb:Nat} {bv:Value} {wr:World}
theorem SI.call{v:Value}{tb:List Tb}(h:SI base cb bv n w vb v tb k wr)(hd:Drew base cb bv n wr w1):SI base cb bv n w vb v tb k w1:=by obtain⟨B,h1,h2⟩:=h.s;exact⟨h.x.call hd,B,h1,h2.chg hd.2 (λj hj q=>by have:=h.x.lt;omega)⟩
theorem SI.next{v:Value}{tb:List Tb}(h:SI base cb bv n w vb v tb k wr)(hb:Below wr.heap.size wr w1){v':Value}{tb':List Tb}(hs:StK wr.heap.size v' tb' (k+1) w1):SI base cb bv n w vb v' tb' (k+1) (w1.setCell ⟨vb,0,none⟩ v'):=by have hv:=World.ownsRow.lt h.x.var vb rfl;have hr:=World.ownsRow.lt h.x.res w.heap.size rfl;refine⟨(h.x.below hb).set 0 v',wr.heap.size,hr.2,hs.chg (Chg.of_set (S:=λj=>j=vb) _ _ _ _ rfl) (λj hj q=>by omega)⟩
theorem SI.cells{v:Value}{tb:List Tb}(h:SI base cb bv n w vb v tb k wr):wr.cell? ⟨vb,0,none⟩=some v/\wr.frozen? ⟨vb,0,none⟩=false:=
 ⟨by rw[(h.x.cell 0 (by decide)).1];rfl,(h.x.cell 0 (by decide)).2⟩
def ReaP(base cb:Nat)(bv:Value)(n:Nat)(w:World)(e:Ending)(w':World):Prop:=∃(a:Option Addr)(m c:Nat)(tb:List Tb),e=.returned (.agg #[.slice a m c])/\StK w.heap.size (.slice a m c) tb 8 w'/\Drew base cb bv n w w'
theorem yRw(base cb:Nat)(a:Option Addr)(n cap:Nat)(w:World)(h:yAd base cb (.slice a n cap) n w)(hn:n<=1048576):
  Calls prog 18 #[.pointer (some ⟨cb,0,none⟩),.slice a n cap] w (ReaP base cb (.slice a n cap) n w):=by
 have an:=h.lt;have aq:=h.base;obtain⟨Wa,a0⟩:=qE (w.alloc (Obj.cells #[.slice none 0 0] 28):World);have ah:Below w.heap.size w Wa:=by rw[a0];exact qB
 have ar:Wa.heap.size=w.heap.size+1:=by rw[a0];simp
 have HR:Hid (yA Wa w.heap.size 28 1 w.heap.size [.slice none 0 0]/\yAd base cb (.slice a n cap) n Wa):=by refine⟨?_,h.below ah⟩;rw[a0];exact yAa w #[.slice none 0 0] (Nat.le_refl _) rfl
 clear h;go_enter func18,ntmps18;go_upto_region 1 with fail;rw[<-a0];clear a0;go_wp2_with fail;refine(yL4 _).mono ?_;rintro e w1 ⟨ea,em,ec,rfl,hE,hb1⟩;obtain⟨Wb,a7⟩:=qE (w1.alloc (Obj.cells #[.slice ea em ec] 28):World);have ag:Below w1.heap.size w1 Wb:=by rw[a7];exact qB
 have s1:=hb1.size;have H0:Hid (SI base cb (.slice a n cap) n w w1.heap.size (.slice ea em ec) [⟨⟨#[]⟩,[]⟩] 0 Wb):=by
  have hx:Below Wa.heap.size Wa Wb:=hb1.trans (ag.mono s1);refine⟨⟨?_,?_,by omega,HR.2.below hx,(Chg.of_below ah).trans (Chg.of_below hx),an.2,aq⟩,Wa.heap.size,by omega,hE.below ag⟩
  .rw[a7];exact yAa w1 #[.slice ea em ec] (by omega) rfl
  .exact HR.1.below hx
 clear hE;go_upto_region 2 with fail;rw[<-a7];clear a7;generalize hvb:w1.heap.size=vb at*;go_wp2_with fail;refine(yAh base cb _ n 7 _ H0.x.d (by omega) (by omega)).mono ?_;rintro e w2 ⟨x,rfl,aa,al,af⟩;obtain⟨x,rfl⟩:=Int.eq_ofNat_of_zero_le aa;have H2:Hid (SI base cb (.slice a n cap) n w vb (.slice ea em ec) [⟨⟨#[]⟩,[]⟩] 0 w2):=H0.call af;clear af aa;obtain⟨N,hN⟩:=qE (2+x:Nat);have aw:N<=8:=by omega
 have ab:(2:Int)+(x:Int)=(N:Int):=by omega
 clear hN;go_upto_region 4 with fail;try rw[ab]
 clear ab al;go_loopw[7] (λi wr=>∃(k:Nat)(sa:Option Addr)(sm sc:Nat)(tb:List Tb),k<=N/\i=.int .i64 k/\SI base cb (.slice a n cap) n w vb (.slice sa sm sc) tb k wr) (λi _=>N-(intOf i).toNat);case atStart=>exact⟨0,_,_,_,_,zero_le _,rfl,H2.out⟩
 case round=>
  obtain⟨k,sa,sm,sc,tb,hk,rfl,hS⟩:=hrel;have HS:Hid (SI base cb (.slice a n cap) n w vb (.slice sa sm sc) tb k wr):=hS;clear hS;by_cases hlt2:k<N
  .have zk:(k:Int)<(N:Int):=by omega
   go_wp2_with fail;refine(yAh base cb _ n 9 _ HS.x.d (by omega) (by omega)).mono ?_;rintro e w3 ⟨y,rfl,av,au,ae⟩;have H3:Hid (SI base cb (.slice a n cap) n w vb (.slice sa sm sc) tb k w3):=HS.call ae;clear ae;go_wp2_with fail;refine(yQq base cb _ n _ H3.x.d).mono ?_;rintro e w4 ⟨row,rfl,am,ad⟩;have H4:Hid (SI base cb (.slice a n cap) n w vb (.slice sa sm sc) tb k w4):=H3.call ad;clear ad;by_cases hy4:y<4
   .go_upto_region 9 with fail;have a3:SW (λw':World=>w'.cell? ⟨vb,0,none⟩=some (.slice sa sm sc)) w4.drew:=H4.cells.1;have aj:Hid (SI base cb (.slice a n cap) n w vb (.slice sa sm sc) tb k w4.drew):=H4.call ⟨H4.x.d.below ((Below.refl _ _).drew),Chg.of_below ((Below.refl _ _).drew)⟩;refine wpR 7 a3 ?_;refine j0a 0 a3 ?_;iterate 2 refine j0b a3 ?_
    refine qO 3 rfl λK hK=>?_;go_simp;go_at_call 49;refine(yTo a n cap _ hn).mono ?_;rintro r v5 ⟨z,rfl,hz,ac⟩;rw[ac];clear ac;refine hK.out _ _ (.inr a3) ?_;clear hK;refine jS ?_;have ak:IntKind.i64.wrap ((z:Int)/2)=((z/2:Nat):Int):=by rw[IntKind.wrap_i64];omega
    refine qO 4 rfl λK hK=>?_;go_simp;refine hK.out _ _ (.inr a3) ?_;clear hK;refine jS ?_;refine qO 5 rfl λK hK=>?_;go_simp;go_at_call 48;refine(yP base cb _ n (z/2) _ aj.x.d (by omega)).mono ?_;rintro r w5 ⟨g5,p5,es,rfl,ao,a4⟩;have H5:Hid (SI base cb (.slice a n cap) n w vb (.slice sa sm sc) tb k w5):=aj.call ⟨a4.d,a4.c⟩;have ai:Hid (OwnE w5 w4.drew.heap.size g5 p5 es/\∀e∈es,e.small):=⟨a4.row,a4.ok⟩;clear a4 ak;refine hK.out _ _ (.inr H5.cells.1) ?_;clear hK;refine jS ?_;have HW:Hid (Calls prog 47 #[.agg #[.slice sa sm sc],.slice (some ⟨g5,0,none⟩) es.length p5] w5 (CmdP k w5)):=by obtain⟨B,_,q⟩:=H5.s;exact yS9 q (by omega) ai.1 ai.2 ao
    refine qO 6 rfl λK hK=>?_;go_simp;go_at_call 47;refine HW.mono ?_;rintro r w6 ⟨a6,m6,c6,a9,rfl,h6,a8⟩;have H6:Hid (SI base cb (.slice a n cap) n w vb (.slice a6 m6 c6) a9 (k+1) (w6.setCell ⟨vb,0,none⟩ (.slice a6 m6 c6))):=H5.next a8 h6;clear h6;obtain⟨c0,f0⟩:=(H5.call ⟨H5.x.d.below a8,Chg.of_below a8⟩).cells;refine hK.out _ _ (.inr c0) ?_;clear hK;refine jS ?_;refine qO 7 rfl λK hK=>?_;go_simp;refine hK.out _ _ (.inl rfl) ?_;clear hK c0 f0;refine jS ?_;refine qD ?_;go_wp2_with fail;go_roundw;case rel=>go_light;exact⟨k+1,a6,m6,c6,a9,by omega,by go_num,H6.out⟩
    case measure=>go_light;simp[intOf];omega
   by_cases hy7:y<7
   .obtain⟨c0,f0⟩:=H4.cells;have HC:Hid (∃B,StK B (.slice sa sm sc) tb k w4):=by obtain⟨B,_,q⟩:=H4.s;exact⟨B,q⟩
    obtain⟨B,hst⟩:=HC.out;have HC2:Hid (Calls prog 35 #[.agg #[.slice sa sm sc],.string row] w4 (CmdP k w4)):=yTl hst (by omega) row am;exact yX8
   by_cases hy8:y=7
   .obtain⟨c0,f0⟩:=H4.cells;have HC:Hid (∃B,StK B (.slice sa sm sc) tb k w4):=by obtain⟨B,_,q⟩:=H4.s;exact⟨B,q⟩
    obtain⟨B,hst⟩:=HC.out;have HC2:Hid (Calls prog 34 #[.agg #[.slice sa sm sc],.string row] w4 (CmdP k w4)):=yUf hst (by omega) row;exact yX8
   .obtain⟨c0,f0⟩:=H4.cells;have HC:Hid (∃B,StK B (.slice sa sm sc) tb k w4):=by obtain⟨B,_,q⟩:=H4.s;exact⟨B,q⟩
    obtain⟨B,hst⟩:=HC.out;have HC2:Hid (Calls prog 33 #[.agg #[.slice sa sm sc],.string row] w4 (CmdP k w4)):=yP9 hst (by omega) row;exact yX8
  .have zk:¬(k:Int)<(N:Int):=by omega
   obtain⟨c0,f0⟩:=HS.cells;have hr:=HS.x.cellRes 0 (by decide);have r0:wr.cell? ⟨w.heap.size,0,none⟩=some (.slice none 0 0):=hr.1;have r1:=hr.2;have HF:Hid (ReaP base cb (.slice a n cap) n w (.returned (.agg #[.slice sa sm sc])) (wr.setCell ⟨w.heap.size,0,none⟩ (.slice sa sm sc))):=by obtain⟨B,hB,hst⟩:=HS.s;have hX:=HS.x.setRes 0 (.slice sa sm sc);exact⟨sa,sm,sc,tb,rfl,((hst.chg (Chg.of_set (S:=λj=>j=w.heap.size) _ _ _ _ rfl) (λj hj q=>by omega)).low (by omega)).up (by omega),hX.d,hX.c⟩
   clear hr;go_wp2_with fail;have e0:(wr.setCell ⟨w.heap.size,0,none⟩ (.slice sa sm sc)).cell? ⟨w.heap.size,0,none⟩=some (.slice sa sm sc):=((HS.x.setRes 0 (.slice sa sm sc)).cellRes 0 (by decide)).1;exact bodyPost_ret (v:=.agg #[.slice sa sm sc]) (by simp[results,results18,go_sem,e0]) rfl HF.out
def Rz.atB(P:Nat->Prop)(w:World)(r:Rz):Prop:=r.es≠ []->∃b off,r.a=some ⟨b,off,none⟩/\P b/\yAe w b off r.es/\b<w.heap.size/\r.es.length<=r.cap/\r.cap<=maxLen
structure Tz.atB(P:Nat->Prop)(w:World)(t:Tz)(b off:Nat):Prop where
 a:t.a=some ⟨b,off,none⟩
 lo:t.l≠ []->P b
 lt:b<w.heap.size
 cap:t.l.length<=t.cap/\t.cap<=maxLen
 runs:∀i r,t.l[i]?=some r->w.cell? ⟨b,off+i,none⟩=some r.u/\r.atB P w
def TzsB(P:Nat->Prop)(w:World)(g:Nat)(ts:List Tz):Prop:=P g/\g<w.heap.size/\∀i t,ts[i]?=some t->w.cell? ⟨g,i*2,none⟩=some (.string t.lo)/\w.cell? ⟨g,i*2+1,none⟩=some t.u/\∃b off,t.atB P w b off
theorem yQ7{b off:Nat}(h:yAe w b off es)(hc:Chg S w w')(hb:b<w.heap.size)(hn:¬S b):yAe w' b off es:=by
 intro i e he;have:=h i e he;refine⟨?_,?_,?_,?_,?_,?_⟩<;>(rw[hc.cell (by exact hb) (by exact hn)])
 .exact this.1
 .exact this.2.1
 .exact this.2.2.1
 .exact this.2.2.2.1
 .exact this.2.2.2.2.1
 .exact this.2.2.2.2.2
variable {P:Nat->Prop} {r:Rz}
theorem Rz.atB.chg(h:r.atB P w)(hc:Chg S w w')(hn:∀k,P k->¬S k):r.atB P w':=λq=>by
 obtain⟨b,off,h1,h2,h3,h4,h5⟩:=h q
 exact⟨b,off,h1,h2,yQ7 h3 hc h4 (hn b h2),by have:=hc.size;omega,h5⟩
variable {g:Nat}
theorem TzsB.chg{ts:List Tz}(h:TzsB P w g ts)(hc:Chg S w w')(hn:∀k,P k->¬S k):TzsB P w' g ts:=by obtain⟨h1,h2,h3⟩:=h;have hs:=hc.size;refine⟨h1,by omega,λi t ht=>?_⟩;obtain⟨c0,c1,b,off,hA⟩:=h3 i t ht;refine⟨by rw[hc.cell (by exact h2) (hn g h1)];exact c0,by rw[hc.cell (by exact h2) (hn g h1)];exact c1,b,off,hA.a,hA.lo,by have:=hA.lt;omega,hA.cap,λj r hr=>?_⟩;obtain⟨d0,d1⟩:=hA.runs j r hr;exact⟨by rw[hc.cell (by exact hA.lt) (hn b (hA.lo (λq=>by rw[q]at hr;simp at hr)))];exact d0,d1.chg hc hn⟩
theorem Rz.atB.z(h:r.atB P w):r.at w:=λq=>by
 obtain⟨b,off,h1,_,h3⟩:=h q
 exact⟨b,off,h1,h3⟩
theorem TzsB.z{ts:List Tz}(h:TzsB P w g ts):yFg w g 0 ts:=by intro i t ht;obtain⟨c0,c1,b,off,hA⟩:=h.2.2 i t ht;rw[Nat.zero_add];refine⟨c0,c1,λj r hr=>?_⟩;obtain⟨d0,d1⟩:=hA.runs j r hr;exact⟨b,off,hA.a,hA.lt,d0,d1.z⟩
def Rz.rm(r:Rz):Rm:=⟨blkV r.u,offV r.u,r.cap,r.es⟩
def Tz.tm(t:Tz):Tm:=⟨t.lo,blkV t.u,offV t.u,t.cap,t.l.map Rz.rm⟩
variable {cp:Nat}
theorem TzsB.st{ts:List Tz}(h:TzsB P w g ts)(hc:ts.length<=cp)(hm:cp<=maxLen)(hg:GoodS (tbz ts)):StAt w (.slice (some ⟨g,0,none⟩) ts.length cp) (tbz ts):=by
 refine⟨g,cp,ts.map Tz.tm,by rw[length_map],λi t ht=>?_,?_,h.2.1,by rw[length_map];exact hc,hm⟩
 .rw[getElem?_map]at ht;obtain⟨p,hp,rfl⟩:=Option.map_eq_some_iff.1 ht;obtain⟨c0,c1,b,off,hA⟩:=h.2.2 i p hp;rw[Nat.zero_add];have hu:p.tm.u=p.u:=by unfold Tz.tm Tm.u Tz.u;rw[hA.a];simp[blkV,offV]
  have hb:p.tm.b=b:=by unfold Tz.tm Tz.u;rw[hA.a];rfl
  have ho:p.tm.off=off:=by unfold Tz.tm Tz.u;rw[hA.a];rfl
  refine⟨c0,by rw[hu];exact c1,?_,by rw[hb];exact hA.lt,by simpa [Tz.tm]using hA.cap.1,hA.cap.2⟩;rw[hb,ho];intro j r hr;have y:(p.l.map Rz.rm)[j]?=some r:=hr;rw[getElem?_map]at y;obtain⟨q,hq,rfl⟩:=Option.map_eq_some_iff.1 y;obtain⟨d0,d1⟩:=hA.runs j q hq;have a6:q.es≠ []:=((hg.tabs i p.tb (by unfold tbz;rw[getElem?_map,hp];rfl)).rows q.es (List.mem_map.2 ⟨q,mem_of_getElem? hq,rfl⟩)).1;obtain⟨b',a3,h1,_,h3,h4,h5,h6⟩:=d1 a6;have a4:q.rm.u=q.u:=by unfold Rz.rm Rm.u Rz.u;rw[h1];simp[blkV,offV]
  have a0:q.rm.b=b':=by unfold Rz.rm Rz.u;rw[h1];rfl
  have a5:q.rm.off=a3:=by unfold Rz.rm Rz.u;rw[h1];rfl
  exact⟨by rw[a4];exact d0,by rw[a0,a5];exact h3,by rw[a0];exact h4,h5,h6⟩
 .unfold tbs tbz;rw[map_map];exact map_congr_left λt _=>by simp[Tz.tm,Tm.tb,Tz.tb,Rz.rm,Function.comp_def]
theorem Rz.atB.imp{P':Nat->Prop}(h:r.atB P w)(hp:∀k,P k->P' k):r.atB P' w:=λq=>by
 obtain⟨b,off,h1,h2,h3⟩:=h q
 exact⟨b,off,h1,hp b h2,h3⟩
theorem TzsB.imp{P':Nat->Prop}{ts:List Tz}(h:TzsB P w g ts)(hp:∀k,P k->P' k):TzsB P' w g ts:=by obtain⟨h1,h2,h3⟩:=h;refine⟨hp g h1,h2,λi t ht=>?_⟩;obtain⟨c0,c1,b,off,hA⟩:=h3 i t ht;exact⟨c0,c1,b,off,hA.a,λq=>hp b (hA.lo q),hA.lt,hA.cap,λj r hr=>⟨(hA.runs j r hr).1,(hA.runs j r hr).2.imp hp⟩⟩
def Rw.rz(r:Rw):Rz:=⟨adrV r.u,capV r.u,r.es⟩
def Tx.tz(t:Tx):Tz:=⟨t.lo,adrV t.v,capV t.v,t.rs.map Rw.rz⟩
theorem OwnK.rz{r:Rw}(h:OwnK w base r)(hp:∀k,base<=k->k<w.heap.size->P k):r.rz.u=r.u/\r.rz.atB P w:=by
 unfold Rw.rz Rz.u;rcases h with⟨_,he,a,c,hu⟩|⟨g,cp,_,hu,hO⟩
 .rw[hu,he];exact⟨rfl,λq=>absurd rfl q⟩
 .have hc:=yAn.caps hO;rw[hu];exact⟨rfl,λ_=>⟨g,0,rfl,hp g hO.lt.1 hO.lt.2,hO.at,hO.lt.2,hc.1,hc.2⟩⟩
theorem yAn.tz{t:Tx}(h:yAn w base t.v t.rs)(hk:∀r∈t.rs,OwnK w base r)(hp:∀k,base<=k->k<w.heap.size->P k):t.tz.u=t.v/\∃b off,t.tz.atB P w b off:=by
 unfold Tx.tz Tz.u;obtain⟨g,cp,hv,hO⟩:=h
 .have hc:=yAn.caps hO;have y:=World.ownsRow.lt hO g rfl;rw[hv];refine⟨by simp[adrV,capV],g,0,rfl,λ_=>hp g y.1 y.2,y.2,⟨by simpa [capV]using hc.1,hc.2⟩,λi r hr=>?_⟩;have a0:(t.rs.map Rw.rz)[i]?=some r:=hr;rw[getElem?_map]at a0;obtain⟨q,hq,rfl⟩:=Option.map_eq_some_iff.1 a0;obtain⟨k1,k2⟩:=(hk q (mem_of_getElem? hq)).rz hp;have hl:=(List.getElem?_eq_some_iff.1 hq).1;have:=World.ownsRow.cellAt hO i (by omega);rw[getElem?_map,hq]at this;rw[k1,Nat.zero_add];exact⟨this,k2⟩
theorem yQk(xs:List Tx):tbz (xs.map Tx.tz)=xs.map Tx.tb:=by unfold tbz;rw[map_map];exact map_congr_left λt _=>by simp[Tx.tz,Tz.tb,Tx.tb,Rw.rz,Function.comp_def]
variable {xs:List Tx}
theorem yPp(hO:OwnP w base g cp (xs.map Tx.pr))(hg:P g)(hr:∀t∈xs,t.tz.u=t.v/\∃b off,t.tz.atB P w b off):TzsB P w g (xs.map Tx.tz):=by refine⟨hg,hO.lt.2,λi t ht=>?_⟩;rw[getElem?_map]at ht;obtain⟨p,hp,rfl⟩:=Option.map_eq_some_iff.1 ht;obtain⟨c0,c1⟩:=hO.cells (p:=p.pr) (i:=i) (by rw[getElem?_map,hp];rfl);obtain⟨h1,h2⟩:=hr p (mem_of_getElem? hp);exact⟨c0,by rw[h1];exact c1,h2⟩
structure SpK(tb:List Tb):Prop where
 len:tb.length<=1000
 lo:∀t∈tb,t.lo.size<=1000
 runs:∀t∈tb,t.rs.length<=1000
 small:∀e∈yAt tb,e.small
 cnt:GoodS tb->(yAt tb).length<=9000
variable {t:Tb}
theorem yFv{tb:List Tb}{e:Ent}(ht:t∈tb)(hs:es∈t.rs)(he:e∈es):e∈yAt tb:=by unfold yAt;exact mem_flatMap.2 ⟨t,ht,List.mem_flatten.2 ⟨es,hs,he⟩⟩
theorem SpK.ok{ts:List Tz}(h:SpK (tbz ts)):okTz ts:=by
 intro t ht;have hm:t.tb∈tbz ts:=List.mem_map.2 ⟨t,ht,rfl⟩;refine⟨λr hr e he=>(h.small e (yFv hm (List.mem_map.2 ⟨r,hr,rfl⟩) he)).ok,?_,?_⟩
 .have:=h.runs _ hm;simp[Tz.tb]at this;omega
 .have:t.lo.size<=1000:=h.lo _ hm;unfold maxLen;omega
theorem SpK.good{tb:List Tb}(h:SpK tb)(hg:GoodS tb):yCa tb:=⟨hg,λe he=>(h.small e he).ok,h.cnt hg⟩
theorem StK.spK{v:Value}{tb:List Tb}(h:StK B v tb k w)(hk:k<=8):SpK tb:=by
 have hG:=h.good;refine⟨by have:=h.len;omega,λt ht=>?_,λt ht=>?_,h.small,λ_=>by have:=h.cnt;omega⟩;all_goals obtain⟨i,hi⟩:=getElem?_of_mem ht
 .have:=(hG.tabs i t hi).size;omega
 .have:=(hG.tabs i t hi).runs.1;omega
variable {i:Nat}
theorem yV{tb:List Tb}{lo:ByteArray}(ht:tb[i]?=some t):yAt (tb.set i ⟨lo,t.rs⟩)=yAt tb:=by
 have h1:∀l:List Tb,yAt l=(l.map Tb.rs).flatten.flatten:=λl=>by
  unfold yAt;induction l with
  |nil=>rfl
  |cons a l ih=>simp[ih]
 rw[h1,h1,map_set];congr 2;refine ext_getElem? (λj=>?_);rw[getElem?_set];split
 .rename_i e;subst e;rw[getElem?_map,ht];split
  .rfl
  .rename_i hl;rw[length_map]at hl;have:=(List.getElem?_eq_some_iff.1 ht).1;omega
 .rfl
theorem SpK.lo'{tb:List Tb}{lo:ByteArray}(h:SpK tb)(hc:(yAt tb).length<=9000)(ht:tb[i]?=some t)(hl:lo.size<=1000):SpK (tb.set i ⟨lo,t.rs⟩):=by
 have hm:=mem_of_getElem? ht;refine⟨by rw[length_set];exact h.len,λx hx=>?_,λx hx=>?_,by rw[yV ht];exact h.small,λ_=>by rw[yV ht];exact hc⟩
 .rcases mem_or_eq_of_mem_set hx with q|q
  .exact h.lo x q
  .rw[q];exact hl
 .rcases mem_or_eq_of_mem_set hx with q|q
  .exact h.runs x q
  .rw[q];exact h.runs t hm
theorem yNz{tb:List Tb}{e:Ent}(he:e∈yAt (tb.set i t)):e∈yAt tb\/∃es∈t.rs,e∈es:=by
 unfold yAt at he;obtain⟨x,hx,hm⟩:=mem_flatMap.1 he;obtain⟨es,h1,h2⟩:=List.mem_flatten.1 hm;rcases mem_or_eq_of_mem_set hx with q|q
 .exact .inl (yFv q h1 h2)
 .subst q;exact .inr ⟨es,h1,h2⟩
variable {rs:List (List Ent)}
theorem SpK.runs'{tb:List Tb}(h:SpK tb)(ht:tb[i]?=some t)(hr:rs.length<=1000)(hs:∀es∈rs,∀e∈es,e.small)(hc:GoodS (tb.set i ⟨t.lo,rs⟩)->(yAt (tb.set i ⟨t.lo,rs⟩)).length<=9000):SpK (tb.set i ⟨t.lo,rs⟩):=by
 have hm:=mem_of_getElem? ht;refine⟨by rw[length_set];exact h.len,λx hx=>?_,λx hx=>?_,λe he=>?_,hc⟩
 .rcases mem_or_eq_of_mem_set hx with q|q
  .exact h.lo x q
  .rw[q];exact h.lo t hm
 .rcases mem_or_eq_of_mem_set hx with q|q
  .exact h.runs x q
  .rw[q];exact hr
 .rcases yNz he with q|⟨es,h1,h2⟩
  .exact h.small e q
  .exact hs es h1 e h2
theorem yTs{tb:List Tb}{u:Tb}(ht:tb[i]?=some t):(tb.set i u)[i]?=some u:=by rw[getElem?_set_self (List.getElem?_eq_some_iff.1 ht).1]
theorem yZj{tb:List Tb}(ht:tb[i]?=some t):¬GoodS (tb.set i ⟨t.lo,rs++ [[]]⟩):=λh=>
 ((h.tabs i _ (yTs ht)).rows [] (by simp)).1 rfl
theorem yX{tb:List Tb}(ht:tb[i]?=some t)(hl:50<rs.length):¬GoodS (tb.set i ⟨t.lo,rs⟩):=λh=>by
 have:=(h.tabs i _ (yTs ht)).runs.1
 simp only at this
 omega
theorem yVq{tb:List Tb}(ht:tb[i]?=some t):¬GoodS (tb++ [t]):=λh=>by
 have hi:=(List.getElem?_eq_some_iff.1 ht).1
 have h1:(tb++ [t])[i]?=some t:=by rw[getElem?_append_left hi];exact ht
 have h2:(tb++ [t])[i+(tb.length-1-i)+1]?=some t:=by rw[getElem?_append_right (by omega),show i+(tb.length-1-i)+1-tb.length=0 by omega];rfl
 have:=yN2 h (tb.length-1-i) i t t h1 h2
 have h3:=(yAv t.lo t.lo).1 this
 rw[(yBn (a:=t.lo) (b:=t.lo)).2 rfl]at h3
 cases h3
theorem SpK.twice{tb:List Tb}(h:SpK tb)(hl:tb.length<=100)(ht:tb[i]?=some t):SpK (tb++ [t]):=by
 have hm:=mem_of_getElem? ht;refine⟨by simp;omega,λx hx=>?_,λx hx=>?_,λe he=>?_,λq=>absurd q (yVq ht)⟩
 .rcases List.mem_append.1 hx with q|q
  .exact h.lo x q
  .simp at q;subst q;exact h.lo _ hm
 .rcases List.mem_append.1 hx with q|q
  .exact h.runs x q
  .simp at q;subst q;exact h.runs _ hm
 .rw[yDe]at he;rcases List.mem_append.1 he with q|q
  .exact h.small e q
  .refine h.small e ?_;unfold yAt at q|-;simp at q;exact mem_flatMap.2 ⟨t,hm,by simpa using q⟩
theorem yYi:SpK []:=⟨by simp,λt ht=>by simp at ht,λt ht=>by simp at ht,λe he=>by simp[yAt]at he,λh=>by have:=h.ne;simp at this⟩
theorem yVe:∀(tb:List Tb)(i:Nat)(t:Tb)(rs:List (List Ent)),tb[i]?=some t->rs.flatten.length<=t.rs.flatten.length+1->(yAt (tb.set i ⟨t.lo,rs⟩)).length<=(yAt tb).length+1
 | [],i,t,rs,h,_=>by simp at h
 |a::tb,0,t,rs,h,hl=>by
  simp at h;subst h
  unfold yAt
  simp only[set_cons_zero,flatMap_cons,length_append]
  omega
 |a::tb,i+1,t,rs,h,hl=>by
  have:=yVe tb i t rs (by simpa using h) hl
  unfold yAt at this|-
  simp only[set_cons_succ,flatMap_cons,length_append]at this|-
  omega
variable {t:Tx}
theorem yBs.setLo{ys:List Tx}(h:yBs w base (.slice (some ⟨g,0,none⟩) ys.length cp) ys)(ht:ys[i]?=some t)(lo:ByteArray):yBs (w.setCell ⟨g,i*2,none⟩ (.string lo)) base (.slice (some ⟨g,0,none⟩) ys.length cp) (ys.set i ⟨lo,t.v,t.rs⟩):=by
 obtain⟨hO⟩:Nonempty (OwnP w base g cp (ys.map Tx.pr)):=by
  rcases h.row with⟨q,_⟩|⟨g',cp',q,hO⟩
  .rw[q]at ht;simp at ht
  .cases q;exact⟨hO⟩
 have a0:=yAk w g (i*2) (.string lo);have y:yAw (w.setCell ⟨g,i*2,none⟩ (.string lo)) base ys:=yAw.grown ⟨h.runs,h.ents⟩ hO a0;have hm:=mem_of_getElem? ht;refine⟨.inr ⟨g,cp,by rw[length_set],?_⟩,λx hx=>?_,λx hx=>?_⟩
 .rw[map_set];have:=hO.set i 0 t.pr (lo,t.v) (.string lo) (by rw[getElem?_map,ht];rfl) (by omega) rfl;exact this
 .rcases mem_or_eq_of_mem_set hx with q|q
  .exact y.runs x q
  .rw[q];exact y.runs t hm
 .rcases mem_or_eq_of_mem_set hx with q|q
  .exact y.ents x q
  .rw[q];exact y.ents t hm
variable {T sz q:Nat} {vs:List Value}
theorem XInv.other{rb:Nat}{zs:List Value}(h:XInv base cb bv n w T sz vb rb vs zs wr)(hq:w.heap.size<=q)(h1:¬vb=q)(h2:¬rb=q)(j:Nat)(u:Value):XInv base cb bv n w T sz vb rb vs zs (wr.setCell ⟨q,j,none⟩ u):=by have a0:=h.lt;have a3:=h.hb;have y:Chg (λk=>k=q) wr (wr.setCell ⟨q,j,none⟩ u):=Chg.of_set _ _ _ _ rfl;exact⟨yAg h.var y (λk e=>by simp[Value.ownBlock]at e;subst e;exact h1),yAg h.res y (λk e=>by simp[Value.ownBlock]at e;subst e;exact h2),h.ne,h.d.chg y (by omega) (λk e=>by omega),Chg.grown_new h.c (yAk wr q j u) (λk hk=>by cases hk;exact hq),h.lt,h.hb⟩
theorem OwnK.typed{base':Nat}{r:Rw}{v:Value}{us:List Value}(h:OwnK w base r)(hv:w.ownsRow base' T sz v n us)(hT:T≠64)(hg:w.grownBy w' v.ownBlock):OwnK w' base r:=by
 refine h.kept hg (λg hg1 hg2=>?_);rcases h with⟨q,_⟩|⟨g',cp,hk,hu,hO⟩
 .rw[q]at hg1;cases hg1
 .rw[hk]at hg1;have e1:g'=g:=Option.some.inj hg1;subst e1;exact yAb hv hO hT g' hg2 rfl
theorem yAw.box{base':Nat}{ts:List Tx}(h:yAw w base ts)(hv:yA w base' 28 1 vb vs)(j:Nat)(u:Value):yAw (w.setCell ⟨vb,j,none⟩ u) base ts:=by refine⟨λt ht=>(h.runs t ht).kept (yAk w vb j u) (λg hg1 hg2=>?_),λt ht r hr=>(h.ents t ht r hr).typed hv (by decide) (yAk w vb j u)⟩;obtain⟨g',cp,y,hO⟩:=h.runs t ht;rw[y]at hg1;exact yAb hv hO (by decide) g hg2 hg1
theorem XInv.grown{rb:Nat}{zs:List Value}(h:XInv base cb bv n w T sz vb rb vs zs wr)(hg:wr.grownBy w1 (some q))(hq:w.heap.size<=q)(h1:¬vb=q)(h2:¬rb=q):XInv base cb bv n w T sz vb rb vs zs w1:=by have a0:=h.lt;have a3:=h.hb;have y:Chg (λk=>k=q) wr w1:=Chg.of_grown (S:=λk=>k=q) hg (λk hk=>by cases hk;rfl);exact⟨yAg h.var y (λk e=>by simp[Value.ownBlock]at e;subst e;exact h1),yAg h.res y (λk e=>by simp[Value.ownBlock]at e;subst e;exact h2),h.ne,h.d.chg y (by omega) (λk e=>by omega),Chg.grown_new h.c hg (λk hk=>by cases hk;exact hq),h.lt,h.hb⟩
theorem yDp.get(h:yDp xs){j:Nat}{a b:Tx}(hij:i≠j)(ha:xs[i]?=some a)(hb:xs[j]?=some b):∀k,a.v.ownBlock=some k->b.v.ownBlock≠some k:=by
 obtain⟨h1,rfl⟩:=List.getElem?_eq_some_iff.1 ha;obtain⟨h2,rfl⟩:=List.getElem?_eq_some_iff.1 hb;unfold yDp at h;rw[List.pairwise_iff_getElem]at h;intro k hk y;rcases Nat.lt_or_gt_of_ne hij with q|q
 .exact h i j h1 h2 q k hk y
 .exact h j i h2 h1 q k y hk
theorem yDp.set(h:yDp xs){t':Tx}(ht:xs[i]?=some t)(hn:∀k,t'.v.ownBlock=some k->t.v.ownBlock=some k\/∀x∈xs,x.v.ownBlock≠some k):yDp (xs.set i t'):=by
 unfold yDp;rw[List.pairwise_iff_getElem];intro a b ha hb a4 k hk y;have a3:a<xs.length:=by simpa using ha
 have a0:b<xs.length:=by simpa using hb
 rw[List.getElem_set]at hk y;split at hk
 .rename_i e;subst e;rw[if_neg (by omega)]at y;rcases hn k hk with q|q
  .exact h.get (by omega) ht (getElem?_eq_getElem a0) k q y
  .exact q _ (getElem_mem a0) y
 .split at y
  .rename_i e;subst e;rcases hn k y with q|q
   .exact h.get (by omega) (getElem?_eq_getElem a3) ht k hk q
   .exact q _ (getElem_mem a3) hk
  .exact h.get (by omega) (getElem?_eq_getElem a3) (getElem?_eq_getElem a0) k hk y
def SpoP(base cb:Nat)(bv:Value)(n:Nat)(w:World)(e:Ending)(w':World):Prop:=∃(g cp:Nat)(ts:List Tz),e=.returned (.agg #[.slice (some ⟨g,0,none⟩) ts.length cp])/\ts.length<=cp/\cp<=maxLen/\TzsB (λk=>w.heap.size<=k) w' g ts/\SpK (tbz ts)/\Drew base cb bv n w w'
structure SqJ(base cb:Nat)(bv:Value)(n:Nat)(w:World)(vb B g cp:Nat)(xs:List Tx)(wr:World):Prop where
 x:XInv base cb bv n w 28 1 vb (w.heap.size+1) [.slice (some ⟨g,0,none⟩) xs.length cp] [.slice none 0 0] wr
 st:yBs wr B (.slice (some ⟨g,0,none⟩) xs.length cp) xs
 ap:yDp xs
 b1:w.heap.size+1<B
 b2:B<=vb
 gl:B<=g/\g<vb
theorem SqJ.call(h:SqJ base cb bv n w vb B g cp xs wr)(hd:Drew base cb bv n wr w1):SqJ base cb bv n w vb B g cp xs w1:=
 ⟨h.x.call hd,h.st.chg hd.2 (λj hj _ q=>by have:=h.x.lt;have:=h.b1;omega),h.ap,h.b1,h.b2,h.gl⟩
theorem SqJ.cells(h:SqJ base cb bv n w vb B g cp xs wr):wr.cell? ⟨vb,0,none⟩=some (.slice (some ⟨g,0,none⟩) xs.length cp)/\wr.frozen? ⟨vb,0,none⟩=false:=
 ⟨by rw[(h.x.cell 0 (by decide)).1];rfl,(h.x.cell 0 (by decide)).2⟩
theorem SqJ.own(h:SqJ base cb bv n w vb B g cp xs wr)(hne:xs≠ []):OwnP wr B g cp (xs.map Tx.pr):=by
 rcases h.st.row with⟨q,_⟩|⟨g',cp',q,hO⟩
 .exact absurd q hne
 .cases q;exact hO
theorem SqJ.tab(h:SqJ base cb bv n w vb B g cp xs wr)(ht:xs[i]?=some t):wr.cell? ⟨g,i*2,none⟩=some (.string t.lo)/\wr.cell? ⟨g,i*2+1,none⟩=some t.v/\(∀j,wr.frozen? ⟨g,j,none⟩=false):=by have hO:=h.own (λq=>by rw[q]at ht;simp at ht);obtain⟨c0,c1⟩:=hO.cells (p:=t.pr) (i:=i) (by rw[getElem?_map,ht];rfl);exact⟨c0,c1,λj=>World.ownsRow.frozenAt hO j⟩
theorem yL3{ts:List Tz}{wf:World}(hx:XInv base cb bv n w 28 1 vb (w.heap.size+1) [.slice (some ⟨g,0,none⟩) ts.length cp] [.slice none 0 0] wf)(hb:w.heap.size+1<B)(hT:TzsB (λk=>B<=k) wf g ts)(hl:ts.length<=cp/\cp<=maxLen)(hk:SpK (tbz ts)):
  wf.cell? ⟨vb,0,none⟩=some (.slice (some ⟨g,0,none⟩) ts.length cp)/\wf.cell? ⟨w.heap.size+1,0,none⟩=some (.slice none 0 0)/\wf.frozen? ⟨w.heap.size+1,0,none⟩=false/\(wf.setCell ⟨w.heap.size+1,0,none⟩ (.slice (some ⟨g,0,none⟩) ts.length cp)).cell? ⟨w.heap.size+1,0,none⟩=some (.slice (some ⟨g,0,none⟩) ts.length cp)/\
  SpoP base cb bv n w (.returned (.agg #[.slice (some ⟨g,0,none⟩) ts.length cp])) (wf.setCell ⟨w.heap.size+1,0,none⟩ (.slice (some ⟨g,0,none⟩) ts.length cp)):=by
 have hX:=hx.setRes 0 (.slice (some ⟨g,0,none⟩) ts.length cp);refine⟨by rw[(hx.cell 0 (by decide)).1];rfl,by rw[(hx.cellRes 0 (by decide)).1];rfl,(hx.cellRes 0 (by decide)).2,by rw[(hX.cellRes 0 (by decide)).1];rfl,g,cp,ts,rfl,hl.1,hl.2,?_,hk,hX.d,hX.c⟩;exact(hT.chg (Chg.of_set (S:=λj=>j=w.heap.size+1) _ _ _ _ rfl) (λj hj q=>by omega)).imp (λj hj=>by omega)
theorem SqJ.z(h:SqJ base cb bv n w vb B g cp xs wr)(hne:xs≠ []):TzsB (λk=>B<=k) wr g (xs.map Tx.tz)/\xs.length<=cp/\cp<=maxLen:=by
 have hO:=h.own hne;have y:wr.ownsRow B 56 2 (.slice (some ⟨g,0,none⟩) xs.length cp) xs.length (yAs (xs.map Tx.pr)):=by have:=hO;unfold OwnP at this;rw[length_map]at this;exact this
 have hc:=yAn.caps y;exact⟨yPp hO h.gl.1 (λt ht=>(h.st.runs t ht).tz (h.st.ents t ht) (λk q _=>q)),hc.1,hc.2⟩
theorem SqJ.fin(h:SqJ base cb bv n w vb B g cp xs wr)(hne:xs≠ [])(hk:SpK (xs.map Tx.tb)){N:Nat}(hN:N=xs.length):
  wr.cell? ⟨vb,0,none⟩=some (.slice (some ⟨g,0,none⟩) N cp)/\wr.cell? ⟨w.heap.size+1,0,none⟩=some (.slice none 0 0)/\wr.frozen? ⟨w.heap.size+1,0,none⟩=false/\(wr.setCell ⟨w.heap.size+1,0,none⟩ (.slice (some ⟨g,0,none⟩) N cp)).cell? ⟨w.heap.size+1,0,none⟩=some (.slice (some ⟨g,0,none⟩) N cp)/\
  SpoP base cb bv n w (.returned (.agg #[.slice (some ⟨g,0,none⟩) N cp])) (wr.setCell ⟨w.heap.size+1,0,none⟩ (.slice (some ⟨g,0,none⟩) N cp)):=by
 subst hN;obtain⟨h1,h2,h3⟩:=h.z hne;have:=yL3 (ts:=xs.map Tx.tz) (cp:=cp) (g:=g) (B:=B) (by rw[length_map];exact h.x) h.b1 h1 ⟨by rw[length_map];exact h2,h3⟩ (by rw[yQk];exact hk);rw[length_map]at this;exact this
theorem SqJ.lo(h:SqJ base cb bv n w vb B g cp xs wr)(ht:xs[i]?=some t)(lo:ByteArray):SqJ base cb bv n w vb B g cp (xs.set i ⟨lo,t.v,t.rs⟩) (wr.setCell ⟨g,i*2,none⟩ (.string lo)):=by
 have hg:=h.gl;have hb:=h.b1;refine⟨by rw[length_set];exact h.x.other (by omega) (by omega) (by omega) _ _,by rw[length_set];exact h.st.setLo ht lo,?_,h.b1,h.b2,h.gl⟩;have:=h.ap;unfold yDp at this|-;rw[List.pairwise_iff_getElem]at this|-;have hit:=List.getElem?_eq_some_iff.1 ht;have key:∀j (hj:j<(xs.set i ⟨lo,t.v,t.rs⟩).length),(xs.set i ⟨lo,t.v,t.rs⟩)[j].v=(xs[j]'(by simpa using hj)).v/\(xs.set i ⟨lo,t.v,t.rs⟩)[j].rs=(xs[j]'(by simpa using hj)).rs:=λj hj=>by
  rw[List.getElem_set];split
  .rename_i e;subst e;rw[hit.2];exact⟨rfl,rfl⟩
  .exact⟨rfl,rfl⟩
 intro j k hj hk y;rw[(key j hj).1,(key k hk).1];exact this j k (by simpa using hj) (by simpa using hk) y
theorem SqJ.row(h:SqJ base cb bv n w vb B g cp xs wr)(ht:xs[i]?=some t):∃gt tc,t.v=.slice (some ⟨gt,0,none⟩) t.rs.length tc/\wr.ownsRow B 60 1 (.slice (some ⟨gt,0,none⟩) t.rs.length tc) t.rs.length (t.rs.map Rw.u)/\B<=gt/\gt<wr.heap.size/\¬vb=gt/\¬g=gt:=by
 have hm:=mem_of_getElem? ht;obtain⟨gt,tc,hv,hO⟩:=h.st.runs t hm;have hP:=h.own (λq=>by rw[q]at ht;simp at ht);have hl:=World.ownsRow.lt hO gt rfl;refine⟨gt,tc,hv,hO,hl.1,hl.2,λq=>?_,λq=>?_⟩
 .exact yAb h.x.var hO (by decide) vb rfl (by rw[q];rfl)
 .exact yAb hP hO (by decide) g rfl (by rw[q];rfl)
theorem SqJ.more(h:SqJ base cb bv n w vb B g cp xs wr)(ht:xs[i]?=some t){W4 w5:World}(hb:Below wr.heap.size wr W4){g3 n3 c3:Nat}{ns:List Rw}(hA:AppR W4 w5 B t.v (.slice (some ⟨g3,0,none⟩) n3 c3) (t.rs.map Rw.u) (ns.map Rw.u))(hk:∀r∈ns,OwnK W4 B r):
  (w5.cell? ⟨vb,0,none⟩=some (.slice (some ⟨g,0,none⟩) xs.length cp)/\w5.cell? ⟨g,i*2+1,none⟩=some t.v/\w5.frozen? ⟨g,i*2+1,none⟩=false)/\SqJ base cb bv n w vb B g cp (xs.set i ⟨t.lo,.slice (some ⟨g3,0,none⟩) n3 c3,t.rs++ns⟩) (w5.setCell ⟨g,i*2+1,none⟩ (.slice (some ⟨g3,0,none⟩) n3 c3)):=by
 obtain⟨gt,tc,hv,hO,hB,a8,n1,n2⟩:=h.row ht;have a3:xs≠ []:=λq=>by rw[q]at ht;simp at ht
 have hm:=mem_of_getElem? ht;have hb1:=h.b1;have a9:=h.gl;have a7:=hb.size;have y:W4.grownBy w5 (some gt):=by have:=hA.grown;rw[hv]at this;exact this
 have a0:=yB hO hb;have X5:=(h.x.below hb).grown y (by omega) n1 (by omega);have P4:OwnP W4 B g cp (xs.map Tx.pr):=(h.own a3).below hb (h.own a3).lt.2;have P5:OwnP w5 B g cp (xs.map Tx.pr):=World.ownsRow.kept P4 y (.inr (λq=>n2 (Option.some.inj q)));have T4:yAw W4 B xs:=yAw.below ⟨h.st.runs,h.st.ents⟩ hb;have a4:yAn w5 B (.slice (some ⟨g3,0,none⟩) n3 c3) (t.rs++ns):=yAn.of hA.row (by rw[map_append]);have a6:∀r∈t.rs++ns,OwnK w5 B r:=λr hr=>by
  rcases List.mem_append.1 hr with q|q
  .exact(T4.ents t hm r q).typed a0 (by decide) y
  .exact(hk r q).typed a0 (by decide) y
 have T5:yAw w5 B (xs.set i ⟨t.lo,.slice (some ⟨g3,0,none⟩) n3 c3,t.rs++ns⟩):=by
  refine⟨λx hx=>?_,λx hx r hr=>?_⟩
  .obtain⟨j,hj⟩:=getElem?_of_mem hx;rw[getElem?_set]at hj;split at hj
   .split at hj
    .cases hj;exact a4
    .cases hj
   .rename_i hij;exact(T4.runs x (mem_of_getElem? hj)).kept y (λk hk q=>by
     have e:gt=k:=Option.some.inj q
     subst e
     exact h.ap.get hij ht hj gt (by rw[hv];rfl) hk)
  .rcases mem_or_eq_of_mem_set hx with q|q
   .exact(T4.ents x q r hr).typed a0 (by decide) y
   .subst q;exact a6 r hr
 obtain⟨c0,c1⟩:=P5.cells (p:=t.pr) (i:=i) (by rw[getElem?_map,ht];rfl);refine⟨⟨by rw[(X5.cell 0 (by decide)).1];rfl,c1,World.ownsRow.frozenAt P5 _⟩,⟨by rw[length_set];exact X5.other (by omega) (by omega) (by omega) _ _,?_,h.ap.set ht (λk hk=>?_),h.b1,h.b2,h.gl⟩⟩
 .have T6:=yAw.grown T5 P5 (yAk w5 g (i*2+1) (.slice (some ⟨g3,0,none⟩) n3 c3));refine⟨.inr ⟨g,cp,by rw[length_set],?_⟩,T6.runs,T6.ents⟩;rw[map_set];exact P5.setRuns (p:=t.pr) (by rw[getElem?_map,ht];rfl) _
 .rcases hA.blk with q|q
  .left;rw[<-q];exact hk
  .right;intro x hx a5;have e:W4.heap.size=k:=Option.some.inj (q.symm.trans hk);have:=(h.st.runs x hx).blk k a5;omega
theorem SqJ.twice(h:SqJ base cb bv n w vb B g cp xs wr)(ht:xs[i]?=some t){W4 w5:World}(hb:Below wr.heap.size wr W4){g3 n3 c3:Nat}(hA:AppT W4 w5 B (.slice (some ⟨g,0,none⟩) xs.length cp) (.slice (some ⟨g3,0,none⟩) n3 c3) (xs.map Tx.pr) [(t.lo,t.v)])(hn:n3=(xs++ [t]).length):
  (w5.cell? ⟨vb,0,none⟩=some (.slice (some ⟨g,0,none⟩) xs.length cp)/\w5.frozen? ⟨vb,0,none⟩=false)/\XInv base cb bv n w 28 1 vb (w.heap.size+1) [.slice (some ⟨g3,0,none⟩) n3 c3] [.slice none 0 0] (w5.setCell ⟨vb,0,none⟩ (.slice (some ⟨g3,0,none⟩) n3 c3))/\TzsB (λk=>B<=k) (w5.setCell ⟨vb,0,none⟩ (.slice (some ⟨g3,0,none⟩) n3 c3)) g3 ((xs++ [t]).map Tx.tz)/\n3<=c3/\c3<=maxLen:=by
 have a3:xs≠ []:=λq=>by rw[q]at ht;simp at ht
 have hm:=mem_of_getElem? ht;have hb1:=h.b1;have a8:=h.gl;have a7:=hb.size;have a6:=World.ownsRow.lt h.x.var vb rfl;have a4:W4.grownBy w5 (some g):=hA.grown;have X5:=(h.x.below hb).grown a4 (by omega) (by omega) (by omega);have P4:OwnP W4 B g cp (xs.map Tx.pr):=(h.own a3).below hb (h.own a3).lt.2;have T4:yAw W4 B xs:=yAw.below ⟨h.st.runs,h.st.ents⟩ hb;have T5:yAw w5 B xs:=yAw.grown T4 P4 a4;have T6:=T5.box X5.var 0 (.slice (some ⟨g3,0,none⟩) n3 c3);have y:=hA.row;have a9:g3=g\/g3=W4.heap.size:=by
  rcases hA.blk with q|q
  .exact .inl (Option.some.inj q)
  .exact .inr (Option.some.inj q)
 have hl3:((xs.map Tx.pr)++ [(t.lo,t.v)])=(xs++ [t]).map Tx.pr:=by simp[Tx.pr]
 rw[hl3,length_map,<-hn]at y;have a5:=yAn.caps y;have R6:OwnP (w5.setCell ⟨vb,0,none⟩ (.slice (some ⟨g3,0,none⟩) n3 c3)) B g3 c3 ((xs++ [t]).map Tx.pr):=by unfold OwnP;rw[length_map,<-hn];exact World.ownsRow.kept y (yAk w5 vb 0 _) (.inr (λq=>by have:g3=vb:=Option.some.inj q;omega))
 refine⟨⟨by rw[(X5.cell 0 (by decide)).1];rfl,(X5.cell 0 (by decide)).2⟩,X5.set 0 _,yPp R6 (show B<=g3 by omega) (λx hx=>?_),a5.1,a5.2⟩;have a0:x∈xs:=by
  rcases List.mem_append.1 hx with q|q
  .exact q
  .simp at q;subst q;exact hm
 exact(T6.runs x a0).tz (T6.ents x a0) (λk q _=>q)
theorem yW0{l:List (List Ent)}{e e':List Ent}(h:l[0]?=some e)(hl:e'.length<=e.length+1):(l.set 0 e').flatten.length<=l.flatten.length+1:=by
 cases l with
 |nil=>simp at h
 |cons a l=>simp at h;subst h;simp only[set_cons_zero,flatten_cons,length_append];omega
def lenC:Option Value->Nat
 |some (.slice _ n _)=>n
 |_=>0
theorem yQo{α:Type}{l:List α}{a:α}(h:l[i]?=some a):l.set i a=l:=by
 refine ext_getElem? (λj=>?_);rw[getElem?_set];split
 .rename_i e;subst e;rw[h];split
  .rfl
  .rename_i hl;exact absurd (List.getElem?_eq_some_iff.1 h).1 hl
 .rfl
def Rm.rz'(r:Rm):Rz:=⟨some ⟨r.b,r.off,none⟩,r.cap,r.es⟩
def spoT(t:Tx)(r:Rm):Tz:=⟨t.lo,adrV t.v,capV t.v,(t.rs.map Rw.rz).set 0 r.rz'⟩
theorem SqJ.spoil(h:SqJ base cb bv n w vb B g cp xs wr)(ht:xs[i]?=some t){gt M tc:Nat}(hv:t.v=.slice (some ⟨gt,0,none⟩) M tc){r:Rm}(hr:r.at wr)(hB:B<=r.b)(hg:¬r.b=gt)(hcap:r.es.length<=r.cap/\r.cap<=maxLen):
  XInv base cb bv n w 28 1 vb (w.heap.size+1) [.slice (some ⟨g,0,none⟩) xs.length cp] [.slice none 0 0] (wr.setCell ⟨gt,0,none⟩ r.u)/\TzsB (λk=>B<=k) (wr.setCell ⟨gt,0,none⟩ r.u) g ((xs.map Tx.tz).set i (spoT t r))/\xs.length<=cp/\cp<=maxLen:=by
 obtain⟨ah,ag,a3,hO,af,ab,n1,n2⟩:=h.row ht;have e:=hv.symm.trans a3;simp only[Value.slice.injEq,Option.some.injEq,Addr.mk.injEq,and_true]at e;obtain⟨rfl,rfl,rfl⟩:=e;have a5:xs≠ []:=λq=>by rw[q]at ht;simp at ht
 have hm:=mem_of_getElem? ht;have hb1:=h.b1;have ac:=h.gl;have a4:=yAk wr gt 0 r.u;have ad:Chg (λk=>k=gt) wr (wr.setCell ⟨gt,0,none⟩ r.u):=Chg.of_set _ _ _ _ rfl;have P6:OwnP (wr.setCell ⟨gt,0,none⟩ r.u) B g cp (xs.map Tx.pr):=World.ownsRow.kept (h.own a5) a4 (.inr (λq=>n2 (Option.some.inj q)));have a8:=(World.ownsRow.stored hO 0 r.u).1;have a9:∀x∈xs,∀y∈x.rs,OwnK (wr.setCell ⟨gt,0,none⟩ r.u) B y:=λx hx y hy=>(h.st.ents x hx y hy).typed hO (by decide) a4;have ae:wr.ownsRow B 56 2 (.slice (some ⟨g,0,none⟩) xs.length cp) xs.length (yAs (xs.map Tx.pr)):=by have:=h.own a5;unfold OwnP at this;rw[length_map]at this;exact this
 have a7:=yAn.caps ae;have a6:=yAn.caps hO;refine⟨h.x.other (by omega) n1 (by omega) _ _,⟨ac.1,P6.lt.2,λj x hx=>?_⟩,a7.1,a7.2⟩;rw[getElem?_set]at hx;split at hx
 .rename_i e;subst e;split at hx
  .cases hx
   obtain⟨c0,c1⟩:=P6.cells (p:=t.pr) (i:=i) (by rw[getElem?_map,ht];rfl);refine⟨c0,?_,gt,0,?_,λ_=>af,?_,⟨?_,?_⟩,λm y hy=>?_⟩
   .rw[c1];unfold spoT Tz.u Tx.pr;rw[a3];simp[adrV,capV]
   .unfold spoT;rw[a3];rfl
   .simpa using ab
   .unfold spoT;rw[a3];simpa [capV]using a6.1
   .unfold spoT;rw[a3];exact a6.2
   .have a0:((t.rs.map Rw.rz).set 0 r.rz')[m]?=some y:=hy;rw[getElem?_set]at a0;split at a0
    .rename_i e;subst e;split at a0
     .rename_i hl;cases a0
      have:=World.ownsRow.cellAt a8 0 (by simp at hl;omega);rw[getElem?_set_self (by simpa using hl)]at this;refine⟨this,λq=>⟨r.b,r.off,rfl,hB,yQ7 hr.ents ad hr.lt hg,by simpa using hr.lt,hcap⟩⟩
     .cases a0
    .rename_i e;rw[getElem?_map]at a0;obtain⟨p,hp,rfl⟩:=Option.map_eq_some_iff.1 a0;obtain⟨k1,k2⟩:=(a9 t hm p (mem_of_getElem? hp)).rz (P:=λk=>B<=k) (λk q _=>q);have hl:=(List.getElem?_eq_some_iff.1 hp).1;have:=World.ownsRow.cellAt a8 m (by omega);rw[getElem?_set_ne (by omega),getElem?_map,hp]at this;rw[k1,Nat.zero_add];exact⟨this,k2⟩
  .cases hx
 .rename_i hij;rw[getElem?_map]at hx;obtain⟨p,hp,rfl⟩:=Option.map_eq_some_iff.1 hx;obtain⟨c0,c1⟩:=P6.cells (p:=p.pr) (i:=j) (by rw[getElem?_map,hp];rfl);have aa:yAn (wr.setCell ⟨gt,0,none⟩ r.u) B p.v p.rs:=(h.st.runs p (mem_of_getElem? hp)).kept a4 (λk hk q=>by
   have e:gt=k:=Option.some.inj q
   subst e
   exact h.ap.get hij ht hp gt (by rw[a3];rfl) hk)
  obtain⟨k1,k2⟩:=aa.tz (a9 p (mem_of_getElem? hp)) (P:=λk=>B<=k) (λk q _=>q);exact⟨c0,by rw[k1];exact c1,k2⟩
theorem yYg(xs:List Tx)(i:Nat)(t:Tx)(r:Rm):tbz ((xs.map Tx.tz).set i (spoT t r))=(xs.map Tx.tb).set i ⟨t.lo,(t.tb.rs).set 0 r.es⟩:=by have h1:=yQk xs;unfold tbz at h1|-;rw[map_set,h1];congr 1;unfold spoT Tz.tb;simp[map_set,Rm.rz',Rw.rz,Tx.tb,Function.comp_def]
theorem yI9(base cb:Nat)(a:Option Addr)(n cap:Nat)(w:World)(h:yAd base cb (.slice a n cap) n w){sa:Option Addr}{sm sc:Nat}{tb:List Tb}(hs:StK 0 (.slice sa sm sc) tb 8 w):
  Calls prog 19 #[.pointer (some ⟨cb,0,none⟩),.agg #[.slice sa sm sc]] w (SpoP base cb (.slice a n cap) n w):=by
 have b7:=h.lt;have bg:=h.base;obtain⟨Wa,aw⟩:=qE ((w.alloc (Obj.cells #[.slice sa sm sc] 28)).alloc (Obj.cells #[.slice none 0 0] 28):World);have aS:Below w.heap.size w Wa:=by rw[aw];exact(qB).alloc (by simp) _
 have bK:Wa.heap.size=w.heap.size+2:=by rw[aw];simp
 have HR:Hid (yA Wa w.heap.size 28 1 (w.heap.size+1) [.slice none 0 0]/\yAd base cb (.slice a n cap) n Wa):=by refine⟨?_,h.below aS⟩;have:=yAa (w.alloc (Obj.cells #[.slice sa sm sc] 28)) (base:=w.heap.size) (t:=28) (sz:=1) #[.slice none 0 0] (by simp) rfl;rw[aw];simpa using this
 have c0:Wa.cell? ⟨w.heap.size,0,none⟩=some (.slice sa sm sc):=by rw[aw];simp[go_sem]
 have hSw:=hs.below aS;have HC:Hid (Calls prog 50 #[.agg #[.slice sa sm sc]] Wa (yV1 Wa tb)):=by obtain⟨g,cp,ts,hv,hT,ht,hB,hc,hm⟩:=hSw.at;have hd:=hSw.goodD (by omega);obtain⟨s1,s2⟩:=hd.sizes ht;have:=yF6 g 0 cp ts Wa hT hB (by omega) (λt q=>by have:=s2 t q;omega);rw[hv];unfold tbs at ht;rw[ht]at this;exact this
 have HK:Hid (GoodS tb/\SpK tb/\(yAt tb).length<=8000):=⟨hs.good,hs.spK (by omega),by have:=hs.cnt;omega⟩;clear h hs hSw;go_enter func19,ntmps19;go_upto_region 1 with fail;rw[<-aw];clear aw;go_wp2_with fail;refine HC.mono ?_;rintro e w1 ⟨v,xs,rfl,aT,aI,hb1,bi⟩;have HX:Hid (xs.map Tx.tb=tb):=aI;have aM:xs≠ []:=λq=>by have:=HK.1.ne;rw[<-aI,q]at this;simp at this
 have bu:xs.length<=100:=by have:=HK.1.le;rw[<-aI,length_map]at this;exact this
 obtain⟨g,cp,rfl,ba⟩:∃g cp,v=.slice (some ⟨g,0,none⟩) xs.length cp/\OwnP w1 Wa.heap.size g cp (xs.map Tx.pr):=by
  rcases aT.row with⟨q,_⟩|⟨g,cp,q,hO⟩
  .exact absurd q aM
  .exact⟨g,cp,q,hO⟩
 have b9:=ba.lt;obtain⟨Wb,aN⟩:=qE (w1.alloc (Obj.cells #[.slice (some ⟨g,0,none⟩) xs.length cp] 28):World);have bf:Below w1.heap.size w1 Wb:=by rw[aN];exact qB
 have s1:=hb1.size;have H0:Hid (SqJ base cb (.slice a n cap) n w w1.heap.size Wa.heap.size g cp xs Wb):=by
  have hx:Below Wa.heap.size Wa Wb:=hb1.trans (bf.mono s1);refine⟨⟨?_,?_,by omega,HR.2.below hx,(Chg.of_below aS).trans (Chg.of_below hx),b7.2,bg⟩,aT.below bf,bi,by omega,by omega,b9⟩
  .rw[aN];exact yAa w1 #[.slice (some ⟨g,0,none⟩) xs.length cp] (by omega) rfl
  .exact HR.1.below hx
 have c1:=H0.cells.1;clear aT ba bi aI b7 bg b9 c0;go_upto_region 2 with fail;rw[<-aN];clear aN;generalize w1.heap.size=vb at*;generalize Wa.heap.size=B at*;obtain⟨N,hN⟩:=qE (xs.length:Nat);have HN:Hid (N=xs.length):=hN;have bR:1<=N:=by rw[hN];exact List.length_pos_iff.2 aM
 rw[<-hN]at c1 bu|-;clear hN;have ak:Hid (xs≠ []):=aM;clear aM;have zn:((N:Int)==0)=false:=beq_eq_false_iff_ne.2 (by omega);have bJ:¬(N:Int)=0:=by omega
 go_wp2_with fail;refine(yAh base cb _ n (N:Int) _ H0.x.d (by omega) (by omega)).mono ?_;rintro e w2 ⟨i,rfl,b8,bO,bd⟩;obtain⟨i,rfl⟩:=Int.eq_ofNat_of_zero_le b8;have H2:Hid (SqJ base cb (.slice a n cap) n w vb B g cp xs w2):=H0.call bd;clear bd b8 c1 zn;go_wp2_with fail;refine(yAh base cb _ n 7 _ H2.x.d (by omega) (by omega)).mono ?_;rintro e w3 ⟨k,rfl,bB,bA,bb⟩;have H3:Hid (SqJ base cb (.slice a n cap) n w vb B g cp xs w3):=H2.call bb;clear bb;obtain⟨t,ht⟩:∃t,xs[i]?=some t:=⟨_,getElem?_eq_getElem (by have:=HN.out;omega)⟩;have HT:Hid (xs[i]?=some t):=ht;have hiN:i<N:=by omega
 clear ht;have a3:Hid (tb[i]?=some t.tb):=by show tb[i]?=some t.tb;rw[<-HX.out,getElem?_map,HT.out];rfl
 have bz:k=0\/k=1\/k=2\/k=3\/k=4\/k=5\/k=6:=by omega
 clear bB bA;rcases bz with rfl|rfl|rfl|rfl|rfl|rfl|rfl
 .obtain⟨t0,aK⟩:∃t,xs[0]?=some t:=⟨_,getElem?_eq_getElem (by have:=HN.out;omega)⟩;obtain⟨m0,m1,m2⟩:=H3.tab aK;rw[Nat.zero_mul]at m0;have mf:=m2 0;have c1:=H3.cells.1;rw[<-HN.out]at c1;obtain⟨W4,a4⟩:=qE (w3.setCell ⟨g,0,none⟩ (.string ⟨#[97]⟩):World);have hJ:=H3.lo aK ⟨#[97]⟩;rw[Nat.zero_mul,<-a4]at hJ;have aC:SpK ((xs.set 0 ⟨⟨#[97]⟩,t0.v,t0.rs⟩).map Tx.tb):=by rw[map_set];have:=HK.2.1.lo' (i:=0) (t:=t0.tb) (lo:=⟨#[97]⟩) (by have:=HK.2.2;omega) (by rw[<-HX.out,getElem?_map,aK];rfl) (by decide);rw[<-HX.out]at this;exact this
  obtain⟨d0,r0,r1,e0,hF⟩:=hJ.fin (λq=>ak.out (by have:=congrArg List.length q;rw[length_set]at this;exact List.eq_nil_of_length_eq_zero this)) aC (N:=N) (by rw[length_set];exact HN.out);have HF:Hid (SpoP base cb (.slice a n cap) n w (.returned (.agg #[.slice (some ⟨g,0,none⟩) N cp])) (W4.setCell ⟨w.heap.size+1,0,none⟩ (.slice (some ⟨g,0,none⟩) N cp))):=hF;clear hF hJ aC m1 m2 aK;go_upto_region 8 with fail;rw[<-a4];clear a4 m0 mf c1;exact yO8
 .go_upto_region 9 with fail;obtain⟨gt,tc,a6,aa,aq,ao,an,am⟩:=H3.row HT.out;obtain⟨M,hM⟩:=qE (t.rs.length:Nat);rw[<-hM]at a6 aa;have HM:Hid (M=t.rs.length/\t.v=.slice (some ⟨gt,0,none⟩) M tc):=⟨hM,a6⟩;have bk:M<=50:=by
   have h1:=(HK.1.tabs i t.tb a3.out).runs.1;have h2:(t.tb.rs).length=t.rs.length:=by simp[Tx.tb]
   omega
  clear hM aa aq ao an am;obtain⟨m0,m1,m2⟩:=H3.tab HT.out;rw[a6]at m1;have c1:=H3.cells.1;rw[<-HN.out]at c1;have aE:(i:Int)<(N:Int):=by omega
  have a8:Hid (SqJ base cb (.slice a n cap) n w vb B g cp xs w3.drew):=H3.call ⟨H3.x.d.below ((Below.refl _ _).drew),Chg.of_below ((Below.refl _ _).drew)⟩;have al:Hid (∀W,Below w3.drew.heap.size w3.drew W->W.cell? ⟨vb,0,none⟩=some (.slice (some ⟨g,0,none⟩) N cp)):=λW hW=>by have k2:=(a8.call ⟨a8.x.d.below hW,Chg.of_below hW⟩).cells.1;rw[<-HN.out]at k2;exact k2
  have a5:SW (λw':World=>w'.cell? ⟨vb,0,none⟩=some (.slice (some ⟨g,0,none⟩) N cp)) w3.drew:=c1;have n0:w3.drew.cell? ⟨g,i*2,none⟩=some (.string t.lo):=m0;have n1:w3.drew.cell? ⟨g,i*2+1,none⟩=some (.slice (some ⟨gt,0,none⟩) M tc):=m1;clear c1 m0 m1 m2 a6;refine wpR 10 a5 ?_;refine j0a 0 a5 ?_;iterate 5 refine j0b a5 ?_
  refine qO 6 rfl λK hK=>?_;go_simp;refine hK.out _ _ (.inr a5) ?_;clear hK;refine jS ?_;clear n0 n1;obtain⟨W4,a4⟩:=qE ((w3.alloc (Obj.cells #[.string t.lo,.slice (some ⟨gt,0,none⟩) M tc] 56)).drew:World);have a7:Below w3.drew.heap.size w3.drew W4:=by
   have:W4=w3.drew.alloc (Obj.cells #[.string t.lo,.slice (some ⟨gt,0,none⟩) M tc] 56):=by rw[a4];rfl
   rw[this];exact qB
  have ac:=al.out W4 a7;have bL:w3.drew.heap.size=w3.heap.size:=rfl;refine qO 7 rfl λK hK=>?_;go_simp;rw[<-a4];refine hK.out _ _ (.inr ac) ?_;clear hK;refine jS ?_;have ab:Hid (OwnP W4 B g cp (xs.map Tx.pr)):=(a8.own ak.out).below a7 (a8.own ak.out).lt.2;have bn:Hid (B<=W4.heap.size/\Below w3.drew.heap.size w3.drew W4):=⟨by have:=ab.lt;omega,a7⟩;have aZ:Hid (∀k p,[(t.lo,Value.slice (some ⟨gt,0,none⟩) M tc)][k]?=some p->W4.cell? ⟨w3.heap.size,0+k*2,none⟩=some (.string p.1)/\W4.cell? ⟨w3.heap.size,0+k*2+1,none⟩=some p.2):=by rw[a4];exact yCh
  clear a4 a7;refine qO 8 rfl λK hK=>?_;refine yB6 _ (by rfl) _ _ (by rfl) B (.slice (some ⟨g,0,none⟩) N cp) (xs.map Tx.pr) w3.heap.size 0 1 1 [(t.lo,.slice (some ⟨gt,0,none⟩) M tc)] (by rfl) (by rfl) rfl ?_ aZ.out ?_ ?_ bn.1 ?_
  .have:=ab.out;unfold OwnP at this;rw[length_map,<-HN.out]at this;rw[length_map,<-HN.out];exact this
  .intro p hp;simp at hp;subst hp;rfl
  .rw[length_map,<-HN.out];simp;omega
  intro v' w5 hA;obtain⟨g3,c3,rfl⟩:=hA.form (.inr (by simp));obtain⟨n3,af⟩:=qE ((xs.map Tx.pr++ [(t.lo,Value.slice (some ⟨gt,0,none⟩) M tc)]).length);rw[<-af]at hA|-;have ax:n3=(xs++ [t]).length:=by rw[af];simp
  obtain⟨⟨k0,k1⟩,ar,au,az,ay⟩:=a8.twice HT.out bn.2 (by rw[<-HN.out,HM.2];exact hA) ax;rw[<-HN.out]at k0;obtain⟨W6,a9⟩:=qE (w5.setCell ⟨vb,0,none⟩ (.slice (some ⟨g3,0,none⟩) n3 c3):World);rw[<-a9]at ar au;have ad:=yL3 (ts:=(xs++ [t]).map Tx.tz) (by rw[length_map,<-ax];exact ar) H3.b1 au ⟨by rw[length_map,<-ax];exact az,ay⟩ (by
   rw[yQk,map_append,HX.out]
   have:=HK.2.1.twice HK.1.le a3.out
   exact this)
  rw[length_map,<-ax]at ad;obtain⟨d0,r0,r1,e0,hF⟩:=ad;have HF:Hid (SpoP base cb (.slice a n cap) n w (.returned (.agg #[.slice (some ⟨g3,0,none⟩) n3 c3])) (W6.setCell ⟨w.heap.size+1,0,none⟩ (.slice (some ⟨g3,0,none⟩) n3 c3))):=hF;clear hF ar au af ax az ay;clear hA;refine hK.out _ _ (.inr k0) ?_;clear hK;refine jS ?_;refine qO 9 rfl λK hK=>?_;go_simp;refine hK.out _ _ (.inr k0) ?_;clear hK;refine jS ?_;refine qO 10 rfl λK hK=>?_;go_simp;rw[<-a9];refine hK.out _ _ (.inl rfl) ?_;clear hK a9 k0 k1;refine jS ?_;refine qD ?_;go_wp2_with fail;exact bodyPost_ret (v:=.agg #[.slice (some ⟨g3,0,none⟩) n3 c3]) (by simp[results,results19,go_sem,e0]) rfl HF.out
 .go_upto_region 11 with fail;obtain⟨gt,tc,a6,aa,aq,ao,an,am⟩:=H3.row HT.out;obtain⟨M,hM⟩:=qE (t.rs.length:Nat);rw[<-hM]at a6 aa;have HM:Hid (M=t.rs.length/\t.v=.slice (some ⟨gt,0,none⟩) M tc):=⟨hM,a6⟩;have bk:M<=50:=by
   have h1:=(HK.1.tabs i t.tb a3.out).runs.1;have h2:(t.tb.rs).length=t.rs.length:=by simp[Tx.tb]
   omega
  have ae:Hid (w3.ownsRow B 60 1 (.slice (some ⟨gt,0,none⟩) M tc) M (t.rs.map Rw.u)/\B<=w3.heap.size):=⟨aa,by omega⟩;clear hM aa aq ao an am;obtain⟨m0,m1,m2⟩:=H3.tab HT.out;rw[a6]at m1;have c1:=H3.cells.1;rw[<-HN.out]at c1;have aE:(i:Int)<(N:Int):=by omega
  have a8:Hid (SqJ base cb (.slice a n cap) n w vb B g cp xs w3.drew):=H3.call ⟨H3.x.d.below ((Below.refl _ _).drew),Chg.of_below ((Below.refl _ _).drew)⟩;have al:Hid (∀W,Below w3.drew.heap.size w3.drew W->W.cell? ⟨vb,0,none⟩=some (.slice (some ⟨g,0,none⟩) N cp)/\W.cell? ⟨g,i*2+1,none⟩=some (.slice (some ⟨gt,0,none⟩) M tc)):=λW hW=>by have ag:=a8.call ⟨a8.x.d.below hW,Chg.of_below hW⟩;obtain⟨_,k1,_⟩:=ag.tab HT.out;have k2:=ag.cells.1;rw[<-HN.out]at k2;rw[HM.2]at k1;exact⟨k2,k1⟩
  have a5:SW (λw':World=>w'.cell? ⟨vb,0,none⟩=some (.slice (some ⟨g,0,none⟩) N cp)/\w'.cell? ⟨g,i*2+1,none⟩=some (.slice (some ⟨gt,0,none⟩) M tc)) w3.drew:=⟨c1,m1⟩;clear c1 m0 m1 m2 a6;refine wpR 14 a5 ?_;refine j0a 0 a5 ?_;iterate 9 refine j0b a5 ?_
  obtain⟨W4,a4⟩:=qE ((w3.alloc (Obj.cells #[.slice none 0 0] 60)).drew:World);have a7:Below w3.drew.heap.size w3.drew W4:=by
   have:W4=w3.drew.alloc (Obj.cells #[.slice none 0 0] 60):=by rw[a4];rfl
   rw[this];exact qB
  have ac:=al.out W4 a7;refine qO 10 rfl λK hK=>?_;go_simp;rw[<-a4];refine hK.out _ _ (.inr ac) ?_;clear hK;refine jS ?_;have ab:Hid (W4.ownsRow B 60 1 (.slice (some ⟨gt,0,none⟩) M tc) (t.rs.map Rw.u).length (t.rs.map Rw.u)/\B<=W4.heap.size/\Below w3.drew.heap.size w3.drew W4):=by have s4:=a7.size;have s5:w3.drew.heap.size=w3.heap.size:=rfl;have aU:=ae.out;refine⟨?_,by omega,a7⟩;rw[length_map,<-HM.1];exact yB (yB aU.1 ((Below.refl _ _).drew)) a7
  have aZ:Hid (∀j u,[Value.slice none 0 0][j]?=some u->W4.cell? ⟨w3.heap.size,0+j,none⟩=some u):=by rw[a4];exact yCd
  clear a4 a7;refine qO 11 rfl λK hK=>?_;refine yB7 _ (by rfl) _ _ (by rfl) B (.slice (some ⟨gt,0,none⟩) M tc) (t.rs.map Rw.u) w3.heap.size 0 1 1 [.slice none 0 0] (by rfl) (by rfl) rfl ab.1 aZ.out ?_ ?_ ab.2.1 ?_
  .intro u hu;simp at hu;subst hu;rfl
  .rw[length_map,<-HM.1];simp;omega
  intro v' w5 hA;obtain⟨g3,c3,rfl⟩:=hA.form (by simp);obtain⟨n3,af⟩:=qE ((t.rs.map Rw.u++ [Value.slice none 0 0]).length);rw[<-af]at hA|-;obtain⟨⟨k0,k1,k2⟩,ah⟩:=a8.more HT.out ab.2.2 (ns:= [⟨.slice none 0 0,[],none⟩]) (by rw[HM.2];exact hA) (λr hr=>by simp at hr;subst hr;exact .inl ⟨rfl,rfl,_,_,rfl⟩);rw[<-HN.out]at k0;rw[HM.2]at k1;obtain⟨W6,a9⟩:=qE (w5.setCell ⟨g,i*2+1,none⟩ (.slice (some ⟨g3,0,none⟩) n3 c3):World);rw[<-a9]at ah;have ad:=ah.fin (λq=>ak.out (by have:=congrArg List.length q;rw[length_set]at this;exact List.eq_nil_of_length_eq_zero this)) (by
   rw[map_set,HX.out]
   have:=HK.2.1.runs' (i:=i) (t:=t.tb) (rs:=t.tb.rs++ [[]]) a3.out (by simp[Tx.tb];have:=HM.1;omega) (λes hes e he=>by
    rcases List.mem_append.1 hes with q|q
    .exact HK.2.1.small e (yFv (mem_of_getElem? a3.out) q he)
    .simp at q;subst q;simp at he) (λq=>absurd q (yZj a3.out))
   simpa [Tx.tb]using this) (N:=N) (by rw[length_set];exact HN.out)
  obtain⟨d0,r0,r1,e0,hF⟩:=ad;have HF:Hid (SpoP base cb (.slice a n cap) n w (.returned (.agg #[.slice (some ⟨g,0,none⟩) N cp])) (W6.setCell ⟨w.heap.size+1,0,none⟩ (.slice (some ⟨g,0,none⟩) N cp))):=hF;clear hF ah af hA;refine hK.out _ _ (.inr ⟨k0,k1⟩) ?_;clear hK;refine jS ?_;refine qO 12 rfl λK hK=>?_;go_simp;refine hK.out _ _ (.inr ⟨k0,k1⟩) ?_;clear hK;refine jS ?_;refine qO 13 rfl λK hK=>?_;go_simp;refine hK.out _ _ (.inr ⟨k0,k1⟩) ?_;clear hK;refine jS ?_;refine qO 14 rfl λK hK=>?_;go_simp;rw[<-a9];refine hK.out _ _ (.inl rfl) ?_;clear hK a9 k0 k1 k2;refine jS ?_;refine qD ?_;exact yO8
 .obtain⟨gt,tc,a6,aa,aq,ao,an,am⟩:=H3.row HT.out;obtain⟨M,hM⟩:=qE (t.rs.length:Nat);rw[<-hM]at a6 aa;have HM:Hid (M=t.rs.length/\t.v=.slice (some ⟨gt,0,none⟩) M tc):=⟨hM,a6⟩;have bk:M<=50:=by
   have h1:=(HK.1.tabs i t.tb a3.out).runs.1;have h2:(t.tb.rs).length=t.rs.length:=by simp[Tx.tb]
   omega
  have ae:Hid (w3.ownsRow B 60 1 (.slice (some ⟨gt,0,none⟩) M tc) M (t.rs.map Rw.u)/\B<=w3.heap.size):=⟨aa,by omega⟩;clear hM aq an am;obtain⟨m0,m1,m2⟩:=H3.tab HT.out;rw[a6]at m1;have c1:=H3.cells.1;rw[<-HN.out]at c1;have aE:(i:Int)<(N:Int):=by omega
  have a8:Hid (SqJ base cb (.slice a n cap) n w vb B g cp xs w3.drew):=H3.call ⟨H3.x.d.below ((Below.refl _ _).drew),Chg.of_below ((Below.refl _ _).drew)⟩;by_cases hM0:M=0
  .have zM:¬(0:Int)<(M:Int):=by omega
   obtain⟨d0,r0,r1,e0,hF⟩:=H3.fin ak.out (by rw[HX.out];exact HK.2.1) HN.out;have HF:Hid (SpoP base cb (.slice a n cap) n w (.returned (.agg #[.slice (some ⟨g,0,none⟩) N cp])) (w3.setCell ⟨w.heap.size+1,0,none⟩ (.slice (some ⟨g,0,none⟩) N cp))):=hF;clear hF m0 m2 a6;exact yO8
  have zM:(0:Int)<(M:Int):=by omega
  obtain⟨x,hx⟩:∃x,t.rs[0]?=some x:=⟨_,getElem?_eq_getElem (by have:=HM.1;omega)⟩;have av:=mem_of_getElem? hx;have bw:=mem_of_getElem? HT.out;have b0:x.es≠ []:=((HK.1.tabs i t.tb a3.out).rows x.es (List.mem_map.2 ⟨x,av,rfl⟩)).1;obtain⟨gk,ck,aG,aH⟩:∃gk ck,x.u=.slice (some ⟨gk,0,none⟩) x.es.length ck/\OwnE w3 B gk ck x.es:=by
   rcases H3.st.ents t bw x av with⟨_,q,_⟩|⟨gk,ck,_,q,hE⟩
   .exact absurd q b0
   .exact⟨gk,ck,q,hE⟩
  have bQ:=aH.lt;have bP:¬gk=gt:=λq=>yAb aa aH (by decide) gt rfl (by rw[q];rfl);obtain⟨Lx,aW⟩:=qE (x.es.length:Nat);have ai:Hid (t.rs[0]?=some x/\Lx=x.es.length/\OwnE w3 B gk ck x.es/\x.u=.slice (some ⟨gk,0,none⟩) Lx ck):=⟨hx,aW,aH,by rw[aW];exact aG⟩;have al:Hid (∀W,SqJ base cb (.slice a n cap) n w vb B g cp xs W->W.cell? ⟨vb,0,none⟩=some (.slice (some ⟨g,0,none⟩) N cp)/\W.cell? ⟨g,i*2+1,none⟩=some (.slice (some ⟨gt,0,none⟩) M tc)/\W.cell? ⟨gt,0,none⟩=some (.slice (some ⟨gk,0,none⟩) Lx ck)):=λW ag=>by obtain⟨_,k1,_⟩:=ag.tab HT.out;have k2:=ag.cells.1;rw[<-HN.out]at k2;rw[HM.2]at k1;obtain⟨bF,bq,aQ,aV,_⟩:=ag.row HT.out;have e:=HM.2.symm.trans aQ;simp only[Value.slice.injEq,Option.some.injEq,Addr.mk.injEq,and_true]at e;obtain⟨rfl,_,rfl⟩:=e;have k3:=World.ownsRow.cellAt aV 0 (by have:=HM.1;omega);rw[getElem?_map,ai.1]at k3;exact⟨k2,k1,by rw[k3];show some x.u=_;rw[ai.2.2.2]⟩
  clear hx av b0 aH aW aG aa;go_upto_region 13 with fail;have a5:SW (λw':World=>w'.cell? ⟨vb,0,none⟩=some (.slice (some ⟨g,0,none⟩) N cp)/\w'.cell? ⟨g,i*2+1,none⟩=some (.slice (some ⟨gt,0,none⟩) M tc)/\w'.cell? ⟨gt,0,none⟩=some (.slice (some ⟨gk,0,none⟩) Lx ck)) w3.drew:=al.out _ a8.out;clear c1 m0 m1 m2 a6;refine wpR 17 a5 ?_;refine j0a 0 a5 ?_;iterate 14 refine j0b a5 ?_
  have aY:Hid (Calls prog 51 #[.pointer (some ⟨cb,0,none⟩),.agg #[.slice (some ⟨gk,0,none⟩) Lx ck]] w3.drew λx' w'=>∃r':Rm,x'=.returned (.agg #[.slice (some ⟨r'.b,r'.off,none⟩) r'.es.length r'.cap])/\yEs w3.drew gk x.es r' w'/\Drew base cb (.slice a n cap) n w3.drew w'):=by
   have hE:=ai.2.2.1;have aB:=yAn.caps hE;have aL:∀e∈x.es,e.small:=λe he=>HK.2.1.small e (yFv (mem_of_getElem? a3.out) (List.mem_map.2 ⟨x,mem_of_getElem? ai.1,rfl⟩) he);have bx:x.es.length<=100000:=by have h1:=((HK.1.tabs i t.tb a3.out).runs.2 x.es (List.mem_map.2 ⟨x,mem_of_getElem? ai.1,rfl⟩)).1.1;omega
   have:=yPf base cb (.slice a n cap) n ⟨gk,0,ck,x.es⟩ w3.drew a8.x.d ⟨hE.at,hE.lt.2,aB.1,aB.2⟩ aL bx (by have:=H3.x.lt;have:=H3.b1;show¬gk=cb;omega);rw[<-ai.2.1]at this;exact this
  refine qO 15 rfl λK hK=>?_;go_simp;go_at_call 51;refine aY.mono ?_;rintro rr w4 ⟨r',rfl,aj,aA⟩;have H4:Hid (SqJ base cb (.slice a n cap) n w vb B g cp xs w4):=a8.call aA;have ac:=al.out w4 H4.out;have br:w3.drew.heap.size=w3.heap.size:=rfl;have b5:B<=r'.b:=by rcases aj.blk with q|q<;>omega
  have b4:¬r'.b=gt:=by
   rcases aj.blk with q|q
   .omega
   .omega
  obtain⟨W6,a9⟩:=qE (w4.setCell ⟨gt,0,none⟩ (.slice (some ⟨r'.b,r'.off,none⟩) r'.es.length r'.cap):World);obtain⟨ar,au,az,ay⟩:=H4.spoil HT.out HM.2 aj.at_ b5 b4 ⟨aj.at_.len,aj.at_.cap⟩;have b3:r'.u=.slice (some ⟨r'.b,r'.off,none⟩) r'.es.length r'.cap:=rfl;rw[b3,<-a9]at ar au;have ad:=yL3 (ts:=(xs.map Tx.tz).set i (spoT t r')) (by rw[length_set,length_map];exact ar) H3.b1 au ⟨by rw[length_set,length_map];exact az,ay⟩ (by
   rw[yYg,HX.out]
   have h0:(t.tb.rs)[0]?=some x.es:=by simp[Tx.tb,ai.1]
   refine HK.2.1.runs' a3.out (by rw[length_set];exact HK.2.1.runs _ (mem_of_getElem? a3.out)) (λes hes e he=>?_) (λ_=>?_)
   .rcases mem_or_eq_of_mem_set hes with q|q
    .exact HK.2.1.small e (yFv (mem_of_getElem? a3.out) q he)
    .subst q;exact aj.ok e he
   .have:=yVe tb i t.tb ((t.tb.rs).set 0 r'.es) a3.out (yW0 h0 aj.len)
    have:=HK.2.2
    omega)
  rw[length_set,length_map,<-HN.out]at ad;obtain⟨d0,r0,r1,e0,hF⟩:=ad;have HF:Hid (SpoP base cb (.slice a n cap) n w (.returned (.agg #[.slice (some ⟨g,0,none⟩) N cp])) (W6.setCell ⟨w.heap.size+1,0,none⟩ (.slice (some ⟨g,0,none⟩) N cp))):=hF;have bD:w4.frozen? ⟨gt,0,none⟩=false:=by obtain⟨bF,bq,aQ,aV,_⟩:=H4.row HT.out;have e:=HM.2.symm.trans aQ;simp only[Value.slice.injEq,Option.some.injEq,Addr.mk.injEq,and_true]at e;obtain⟨rfl,_,rfl⟩:=e;exact World.ownsRow.frozenAt aV 0
  clear hF ar au az ay aj aA b5 b4 b3;refine hK.out _ _ (.inr ac) ?_;clear hK;refine jS ?_;refine qO 16 rfl λK hK=>?_;go_simp;refine hK.out _ _ (.inr ac) ?_;clear hK;refine jS ?_;obtain⟨k0,k1,k2⟩:=ac;refine qO 17 rfl λK hK=>?_;go_simp;rw[<-a9];refine hK.out _ _ (.inl rfl) ?_;clear hK a9 k0 k1 k2 bD;refine jS ?_;refine qD ?_;exact yO8
 .have c1:=H3.cells;rw[<-HN.out]at c1;have c2:=c1.2;obtain⟨W4,a4⟩:=qE ((w3.setCell ⟨vb,0,none⟩ (.slice (some ⟨w3.heap.size,0,none⟩) 0 0)).alloc (Obj.cells #[] 56):World);have bM:=World.ownsRow.lt H3.x.var vb rfl;have hX:=(H3.x.set 0 (.slice (some ⟨w3.heap.size,0,none⟩) 0 0)).below (w1:=W4) (by rw[a4];exact qB);have bj:TzsB (λk=>B<=k) W4 w3.heap.size []:=by refine⟨?_,by rw[a4];simp,λj x hx=>by simp at hx⟩;have:=H3.b2;show B<=w3.heap.size;omega
  have c3:=c1.1;obtain⟨d0,r0,r1,e0,hF⟩:=yL3 (ts:= []) hX H3.b1 bj ⟨Nat.le_refl _,by unfold maxLen;omega⟩ yYi;have HF:Hid (SpoP base cb (.slice a n cap) n w (.returned (.agg #[.slice (some ⟨w3.heap.size,0,none⟩) 0 0])) (W4.setCell ⟨w.heap.size+1,0,none⟩ (.slice (some ⟨w3.heap.size,0,none⟩) 0 0))):=hF;clear hF hX bj c1;rw[length_nil]at d0 e0;go_upto_region 16 with fail;rw[<-a4];clear a4 c2 c3;go_wp2_with fail;exact bodyPost_ret (v:=.agg #[.slice (some ⟨w3.heap.size,0,none⟩) 0 0]) (by simp[results,results19,go_sem,e0]) rfl HF.out
 .go_upto_region 17 with fail;have a5:SW (λw':World=>w'.cell? ⟨vb,0,none⟩=some (.slice (some ⟨g,0,none⟩) N cp)) w3.drew:=by have:=H3.cells.1;rw[<-HN.out]at this;exact this
  have a8:Hid (SqJ base cb (.slice a n cap) n w vb B g cp xs w3.drew):=H3.call ⟨H3.x.d.below ((Below.refl _ _).drew),Chg.of_below ((Below.refl _ _).drew)⟩;have aE:(i:Int)<(N:Int):=by omega
  refine wpR 7 a5 ?_;refine j0a 0 a5 ?_;iterate 3 refine j0b a5 ?_
  refine qO 4 rfl λK hK=>?_;go_simp;go_at_call 52;refine(yAu base cb _ n 1 2 _ a8.x.d (by omega) (by omega) (by omega)).mono ?_;rintro r w4 ⟨s,rfl,hs,aA⟩;have H4:Hid (SqJ base cb (.slice a n cap) n w vb B g cp xs w4):=a8.call aA;clear aA;have ac:=SWm a5 w4 <|by
   have:=H4.cells.1;rw[<-HN.out]at this;exact this
  refine hK.out _ _ (.inr ac) ?_;clear hK;refine jS ?_;refine qO 5 rfl λK hK=>?_;go_simp;refine hK.out _ _ (.inr ac) ?_;clear hK;refine jS ?_;refine qO 6 rfl λK hK=>?_;go_simp;refine hK.out _ _ (.inr ac) ?_;clear hK;refine jS ?_;obtain⟨m0,m1,m2⟩:=H4.tab HT.out;have mf:=m2 (i*2);obtain⟨W4,a4⟩:=qE (w4.setCell ⟨g,i*2,none⟩ (.string s):World);have hJ:=H4.lo HT.out s;rw[<-a4]at hJ;have aC:SpK ((xs.set i ⟨s,t.v,t.rs⟩).map Tx.tb):=by rw[map_set];have:=HK.2.1.lo' (i:=i) (t:=t.tb) (lo:=s) (by have:=HK.2.2;omega) a3.out (by omega);rw[<-HX.out]at this;exact this
  obtain⟨d0,r0,r1,e0,hF⟩:=hJ.fin (λq=>ak.out (by have:=congrArg List.length q;rw[length_set]at this;exact List.eq_nil_of_length_eq_zero this)) aC (N:=N) (by rw[length_set];exact HN.out);have HF:Hid (SpoP base cb (.slice a n cap) n w (.returned (.agg #[.slice (some ⟨g,0,none⟩) N cp])) (W4.setCell ⟨w.heap.size+1,0,none⟩ (.slice (some ⟨g,0,none⟩) N cp))):=hF;clear hF hJ aC m1 m2;refine qO 7 rfl λK hK=>?_;go_simp;rw[<-a4];refine hK.out _ _ (.inl rfl) ?_;clear hK a4 m0 mf;refine jS ?_;refine qD ?_;exact yO8
 .go_upto_region 19 with fail;go_loopw[100] (λq wr=>∃(v':Value)(a0:List Rw),SqJ base cb (.slice a n cap) n w vb B g cp (xs.set i ⟨t.lo,v',a0⟩) wr/\a0.length<=51/\(∀r∈a0,(r.es≠ []/\r.es.length<=10000)/\∀e∈r.es,e.small)/\(a0= []->t.rs= [])) (λ_ wr=>51-lenC (wr.cell? ⟨g,i*2+1,none⟩));case atStart=>
   refine⟨t.v,t.rs,by rw[yQo HT.out];exact H3.out,?_,λr hr=>⟨⟨?_,?_⟩,λe he=>?_⟩,λq=>q⟩
   .have h1:=(HK.1.tabs i t.tb a3.out).runs.1;have h2:(t.tb.rs).length=t.rs.length:=by simp[Tx.tb]
    omega
   .exact((HK.1.tabs i t.tb a3.out).rows r.es (List.mem_map.2 ⟨r,hr,rfl⟩)).1
   .exact((HK.1.tabs i t.tb a3.out).runs.2 r.es (List.mem_map.2 ⟨r,hr,rfl⟩)).1.1
   .exact HK.2.1.small e (yFv (mem_of_getElem? a3.out) (List.mem_map.2 ⟨r,hr,rfl⟩) he)
  case round=>
   obtain⟨v',a0,hJ,hl,aL,b6⟩:=hrel;have HJ:Hid (SqJ base cb (.slice a n cap) n w vb B g cp (xs.set i ⟨t.lo,v',a0⟩) wr/\a0.length<=51/\(∀r∈a0,(r.es≠ []/\r.es.length<=10000)/\∀e∈r.es,e.small)/\(a0= []->t.rs= [])):=⟨hJ,hl,aL,b6⟩;clear hJ aL b6;have aD:Hid ((xs.set i ⟨t.lo,v',a0⟩)[i]?=some ⟨t.lo,v',a0⟩):=by show(xs.set i ⟨t.lo,v',a0⟩)[i]?=_;rw[getElem?_set_self (by have:=HN.out;omega)]
   have aX:Hid (N=(xs.set i ⟨t.lo,v',a0⟩).length):=by show N=_;rw[length_set];exact HN.out
   obtain⟨gt,tc,a6,aa,aq,ao,an,am⟩:=HJ.1.row aD.out;have aJ:v'=.slice (some ⟨gt,0,none⟩) a0.length tc:=a6;have aR:wr.ownsRow B 60 1 (.slice (some ⟨gt,0,none⟩) a0.length tc) a0.length (a0.map Rw.u):=aa;obtain⟨M,hM⟩:=qE (a0.length:Nat);rw[<-hM]at aJ aR hl;have HM:Hid (M=a0.length/\v'=.slice (some ⟨gt,0,none⟩) M tc):=⟨hM,aJ⟩;have ae:Hid (wr.ownsRow B 60 1 (.slice (some ⟨gt,0,none⟩) M tc) M (a0.map Rw.u)/\B<=wr.heap.size/\gt<wr.heap.size):=⟨aR,by omega,ao⟩;obtain⟨m0,m1,m2⟩:=HJ.1.tab aD.out;have aP:wr.cell? ⟨g,i*2+1,none⟩=some (.slice (some ⟨gt,0,none⟩) M tc):=by rw[m1];show some v'=_;rw[aJ]
   have c1:=HJ.1.cells.1;rw[<-aX.out]at c1;have aE:(i:Int)<(N:Int):=by omega
   clear hM aa aR aq ao an am a6 aJ m0 m1 m2;by_cases hM0:M=0
   .have zM:¬(0:Int)<(M:Int):=by omega
    have ad:=HJ.1.fin (λq=>ak.out (by have:=congrArg List.length q;rw[length_set]at this;exact List.eq_nil_of_length_eq_zero this)) (by
     rw[map_set,HX.out]
     have h1:tb.set i (Tx.mk t.lo v' a0).tb=tb.set i ⟨t.tb.lo,a0.map Rw.es⟩:=rfl
     rw[h1]
     refine HK.2.1.runs' a3.out (by rw[length_map];have:=HJ.2.1;omega) (λes hes e he=>?_) (λhgd=>?_)
     .obtain⟨y,hy,rfl⟩:=List.mem_map.1 hes
      exact(HJ.2.2.1 y hy).2 e he
     .have e0:a0= []:=List.eq_nil_of_length_eq_zero (by have:=HM.1;omega)
      have e1:=HJ.2.2.2 e0
      have e2:tb.set i ⟨t.tb.lo,a0.map Rw.es⟩=tb:=by
       rw[e0]
       have:t.tb=⟨t.tb.lo,List.map Rw.es []⟩:=by simp[Tx.tb,e1]
       rw[<-this]
       exact yQo a3.out
      rw[e2]
      have:=HK.2.2
      omega) (N:=N) (by rw[length_set];exact HN.out)
    obtain⟨d0,r0,r1,e0,hF⟩:=ad;have HF:Hid (SpoP base cb (.slice a n cap) n w (.returned (.agg #[.slice (some ⟨g,0,none⟩) N cp])) (wr.setCell ⟨w.heap.size+1,0,none⟩ (.slice (some ⟨g,0,none⟩) N cp))):=hF;clear hF;clear HM ae;exact yO8
   by_cases hM51:M<51;case neg=>
    have zM:(0:Int)<(M:Int):=by omega
    have bo:¬(M:Int)<51:=by omega
    have ad:=HJ.1.fin (λq=>ak.out (by have:=congrArg List.length q;rw[length_set]at this;exact List.eq_nil_of_length_eq_zero this)) (by
     rw[map_set,HX.out]
     have h1:tb.set i (Tx.mk t.lo v' a0).tb=tb.set i ⟨t.tb.lo,a0.map Rw.es⟩:=rfl
     rw[h1]
     refine HK.2.1.runs' a3.out (by rw[length_map];have:=HJ.2.1;omega) (λes hes e he=>?_) (λhgd=>?_)
     .obtain⟨y,hy,rfl⟩:=List.mem_map.1 hes
      exact(HJ.2.2.1 y hy).2 e he
     .exact absurd hgd (yX a3.out (by rw[length_map];have:=HM.1;omega))) (N:=N) (by rw[length_set];exact HN.out)
    obtain⟨d0,r0,r1,e0,hF⟩:=ad;have HF:Hid (SpoP base cb (.slice a n cap) n w (.returned (.agg #[.slice (some ⟨g,0,none⟩) N cp])) (wr.setCell ⟨w.heap.size+1,0,none⟩ (.slice (some ⟨g,0,none⟩) N cp))):=hF;clear hF;clear HM ae;exact yO8
   case pos=>
   have zM:(0:Int)<(M:Int):=by omega
   have bo:(M:Int)<51:=by omega
   go_upto_region 20 with fail;have bN:M<=tc:=by have:=yAn.caps ae.1;omega
   have bI:(1:Int)<=(tc:Int):=by omega
   have br:wr.drew.heap.size=wr.heap.size:=rfl;have aO:Hid (SqJ base cb (.slice a n cap) n w vb B g cp (xs.set i ⟨t.lo,v',a0⟩) wr.drew):=HJ.1.call ⟨HJ.1.x.d.below ((Below.refl _ _).drew),Chg.of_below ((Below.refl _ _).drew)⟩;have al:Hid (∀W,Below wr.drew.heap.size wr.drew W->W.cell? ⟨vb,0,none⟩=some (.slice (some ⟨g,0,none⟩) N cp)/\W.cell? ⟨g,i*2+1,none⟩=some (.slice (some ⟨gt,0,none⟩) M tc)):=λW hW=>by have ag:=aO.call ⟨aO.x.d.below hW,Chg.of_below hW⟩;obtain⟨_,k1,_⟩:=ag.tab aD.out;have k2:=ag.cells.1;rw[<-aX.out]at k2;refine⟨k2,?_⟩;rw[k1];show some v'=_;rw[HM.2]
   obtain⟨x,hx⟩:∃x,a0[0]?=some x:=⟨_,getElem?_eq_getElem (by have:=HM.1;omega)⟩;have aY:Hid (Calls prog 53 #[.slice (some ⟨gt,0,none⟩) 1 tc] wr.drew λe w'=>∃(g2 n2 c2:Nat)(ns:List Rw),e=.returned (.slice (some ⟨g2,0,none⟩) n2 c2)/\Hid (n2=(ns.map Rw.u).length/\ns.map Rw.es= [x.es]/\w'.ownsRow wr.drew.heap.size 60 1 (.slice (some ⟨g2,0,none⟩) n2 c2) n2 (ns.map Rw.u)/\∀r∈ns,OwnK w' wr.drew.heap.size r)/\Below wr.drew.heap.size wr.drew w'):=by
    have av:=mem_of_getElem? hx;have bt:=(HJ.2.2.1 x av).1;rcases aO.st.ents _ (mem_of_getElem? aD.out) x av with⟨_,q,_⟩|⟨gk,ck,_,aG,hE⟩
    .exact absurd q bt.1
    have aB:=yAn.caps hE;have bE:wr.drew.cell? ⟨gt,0,none⟩=some x.u:=by have:=World.ownsRow.cellAt ae.1 0 (by omega);rw[getElem?_map,hx]at this;exact this
    have bC:yC9 wr.drew (.slice (some ⟨gt,0,none⟩) 1 tc) [⟨gk,0,ck,x.es⟩]:=by
     refine .inr ⟨gt,0,tc,rfl,λj r hr=>?_,ae.2.2,by simp;omega,(yAn.caps ae.1).2⟩;have hj:j=0:=by have:=(List.getElem?_eq_some_iff.1 hr).1;simp at this;omega
     subst hj;simp at hr;subst hr;exact⟨by rw[Nat.add_zero,bE,aG],hE.at,hE.lt.2,aB.1,aB.2⟩
    refine(yCy _ [⟨gk,0,ck,x.es⟩] wr.drew bC (by simp) (by simp[totM];omega)).mono ?_;rintro e w' ⟨u,ns,rfl,hC,⟨g2,c2,rfl,hO⟩,hb⟩;exact⟨g2,ns.length,c2,ns,rfl,⟨by simp,by have:=hC.same;simpa using this,hO,hC.ents⟩,hb⟩
   have a5:SW (λw':World=>w'.cell? ⟨vb,0,none⟩=some (.slice (some ⟨g,0,none⟩) N cp)/\w'.cell? ⟨g,i*2+1,none⟩=some (.slice (some ⟨gt,0,none⟩) M tc)) wr.drew:=⟨c1,aP⟩;have ai:Hid (a0[0]?=some x):=hx;have bH:Hid (lenC (wr.cell? ⟨g,i*2+1,none⟩)=M):=by show lenC (wr.cell? ⟨g,i*2+1,none⟩)=M;rw[aP];rfl
   clear c1 aP hx;refine wpR 20 a5 ?_;refine j0a 0 a5 ?_;iterate 15 refine j0b a5 ?_
   refine qO 16 rfl λK hK=>?_;go_simp;go_at_call 53;refine aY.mono ?_;rintro rr W4 ⟨g2,n2,c2,ns,rfl,HC,a7⟩;have ac:=al.out W4 a7;refine hK.out _ _ (.inr ac) ?_;clear hK;refine jS ?_;have ab:Hid (W4.ownsRow B 60 1 (.slice (some ⟨gt,0,none⟩) M tc) (a0.map Rw.u).length (a0.map Rw.u)/\B<=W4.heap.size/\Below wr.drew.heap.size wr.drew W4/\ns.length=1):=by
    have s4:=a7.size;have aU:=ae.out;refine⟨?_,by omega,a7,?_⟩
    .rw[length_map,<-HM.1];exact yB (yB aU.1 ((Below.refl _ _).drew)) a7
    .have:=congrArg List.length HC.2.1;simpa using this
   clear a7;refine qO 17 rfl λK hK=>?_;refine yB7 _ (by rfl) _ _ (by rfl) B (.slice (some ⟨gt,0,none⟩) M tc) (a0.map Rw.u) g2 0 n2 c2 (ns.map Rw.u) (by rfl) (by rfl) HC.1 ab.1 (λj u hu=>?_) (λu hu=>?_) ?_ ab.2.1 ?_
   .have hl2:=(List.getElem?_eq_some_iff.1 hu).1;have:=World.ownsRow.cellAt HC.2.2.1 j (by have:=HC.1;omega);rw[hu]at this;rw[Nat.zero_add];exact this
   .obtain⟨y,hy,rfl⟩:=List.mem_map.1 hu;rcases HC.2.2.2 y hy with⟨_,_,a,c,q⟩|⟨g,cp,_,q,_⟩<;>rw[q]<;>rfl
   .rw[length_map,length_map,<-HM.1,ab.2.2.2];omega
   intro v3 w5 hA;obtain⟨g3,c3,rfl⟩:=hA.form (by simp);obtain⟨n3,af⟩:=qE ((a0.map Rw.u++ns.map Rw.u).length);rw[<-af]at hA|-;obtain⟨⟨k0,k1,k2⟩,ah⟩:=aO.more aD.out ab.2.2.1 (ns:=ns) (by show AppR W4 w5 B v' _ _ _;rw[HM.2];exact hA) (λr hr=>(HC.2.2.2 r hr).mono (by have:=ae.2.1;omega));rw[set_set]at ah;rw[<-aX.out]at k0;have aF:w5.cell? ⟨g,i*2+1,none⟩=some (.slice (some ⟨gt,0,none⟩) M tc):=by rw[k1];show some v'=_;rw[HM.2]
   have bG:Hid (n3=M+1):=by show n3=M+1;rw[af];simp[ab.2.2.2,<-HM.1]
   obtain⟨W6,a9⟩:=qE (w5.setCell ⟨g,i*2+1,none⟩ (.slice (some ⟨g3,0,none⟩) n3 c3):World);rw[<-a9]at ah;have bm:Hid (SqJ base cb (.slice a n cap) n w vb B g cp (xs.set i ⟨t.lo,.slice (some ⟨g3,0,none⟩) n3 c3,a0++ns⟩) W6/\lenC (W6.cell? ⟨g,i*2+1,none⟩)=n3):=by refine⟨ah,?_⟩;obtain⟨_,q,_⟩:=ah.tab (i:=i) (t:=⟨t.lo,.slice (some ⟨g3,0,none⟩) n3 c3,a0++ns⟩) (by rw[getElem?_set_self (by have:=HN.out;omega)]);rw[q];rfl
   clear ah af hA k1;refine hK.out _ _ (.inr ⟨k0,aF⟩) ?_;clear hK;refine jS ?_;refine qO 18 rfl λK hK=>?_;go_simp;refine hK.out _ _ (.inr ⟨k0,aF⟩) ?_;clear hK;refine jS ?_;refine qO 19 rfl λK hK=>?_;go_simp;refine hK.out _ _ (.inr ⟨k0,aF⟩) ?_;clear hK;refine jS ?_;refine qO 20 rfl λK hK=>?_;go_simp;rw[<-a9];refine hK.out _ _ (.inl rfl) ?_;clear hK a9 k0 aF k2;refine jS ?_;refine qD ?_;go_wp2_with fail;go_roundw;case rel=>
    go_light;refine⟨_,a0++ns,bm.1,?_,λr hr=>?_,λq=>?_⟩
    .rw[length_append,ab.2.2.2,<-HM.1];omega
    .rcases List.mem_append.1 hr with q|q
     .exact HJ.2.2.1 r q
     .have h1:r.es∈ns.map Rw.es:=List.mem_map.2 ⟨r,q,rfl⟩;rw[HC.2.1]at h1;simp at h1;rw[h1];exact HJ.2.2.1 x (mem_of_getElem? ai.out)
    .have:=congrArg List.length q;rw[length_append,ab.2.2.2]at this;simp at this
   case measure=>go_light;rw[bm.2,bH.out,bG.out];omega
structure SaJ(bv:Value)(n:Nat)(w:World)(cb fb:Nat)(fv:Value)(wr:World):Prop where
 r2:yA wr w.heap.size 25 1 w.heap.size [.slice none 0 0]
 r3:yA wr w.heap.size 28 1 (w.heap.size+1) [.slice none 0 0]
 r4:yA wr w.heap.size 30 3 (w.heap.size+2) (rgv ⟨#[]⟩ false ⟨#[]⟩)
 f:yA wr w.heap.size 25 1 fb [fv]
 d:yAd cb cb bv n wr
 b:Below w.heap.size w wr
 c:cb=w.heap.size+3
 l:cb<fb
variable {fb:Nat} {fv:Value}
theorem SaJ.chg(h:SaJ bv n w cb fb fv wr)(hc:Chg S wr w1)(hd:yAd cb cb bv n w1)(hb:Below w.heap.size w w1)(h2:∀k,k<w.heap.size+3->¬S k)(hf:¬S fb):SaJ bv n w cb fb fv w1:=
 ⟨h.r2.chg hc (h2 _ (by omega)),h.r3.chg hc (h2 _ (by omega)),h.r4.chg hc (h2 _ (by omega)),h.f.chg hc hf,hd,hb,h.c,h.l⟩
theorem SaJ.call(h:SaJ bv n w cb fb fv wr)(hd:Drew cb cb bv n wr w1):SaJ bv n w cb fb fv w1:=by have hc:=h.c;have hl:=h.l;have hs:=h.b.size;exact h.chg hd.2 hd.1 (Chg.below h.b hd.2 (by omega) (λk q=>by omega)) (λk hk q=>by omega) (by omega)
theorem SaJ.below(h:SaJ bv n w cb fb fv wr)(hb:Below wr.heap.size wr w1):SaJ bv n w cb fb fv w1:=
 h.call ⟨h.d.below hb,Chg.of_below hb⟩
theorem SaJ.other(h:SaJ bv n w cb fb fv wr)(hq:cb<q)(hf:¬fb=q)(j:Nat)(u:Value):SaJ bv n w cb fb fv (wr.setCell ⟨q,j,none⟩ u):=by have hc:=h.c;have y:Chg (λk=>k=q) wr (wr.setCell ⟨q,j,none⟩ u):=Chg.of_set _ _ _ _ rfl;exact h.chg y (h.d.chg y (by omega) (λk e=>by omega)) (h.b.setCell (by show w.heap.size<=q;omega) _) (λk hk e=>by omega) hf
theorem SaJ.setF(h:SaJ bv n w cb fb fv wr)(u:Value):SaJ bv n w cb fb u (wr.setCell ⟨fb,0,none⟩ u):=by have hc:=h.c;have hl:=h.l;have y:Chg (λk=>k=fb) wr (wr.setCell ⟨fb,0,none⟩ u):=Chg.of_set _ _ _ _ rfl;exact⟨h.r2.chg y (by omega),h.r3.chg y (by omega),h.r4.chg y (by omega),h.f.set 0 u,h.d.chg y (by omega) (λk e=>by omega),h.b.setCell (by show w.heap.size<=fb;omega) _,h.c,h.l⟩
structure SaS(bv:Value)(n:Nat)(w:World)(cb fb:Nat)(fv:Value)(sb g cp:Nat)(ts:List Tz)(wr:World):Prop where
 j:SaJ bv n w cb fb fv wr
 s:yA wr w.heap.size 28 1 sb [.slice (some ⟨g,0,none⟩) ts.length cp]
 t:TzsB (λk=>fb<k/\k≠sb) wr g ts
 k:SpK (tbz ts)
 c:ts.length<=cp/\cp<=maxLen
 l:fb<sb
theorem SaS.call{sb:Nat}{ts:List Tz}(h:SaS bv n w cb fb fv sb g cp ts wr)(hd:Drew cb cb bv n wr w1):SaS bv n w cb fb fv sb g cp ts w1:=by have hl:=h.l;have hl2:=h.j.l;exact⟨h.j.call hd,h.s.chg hd.2 (by omega),h.t.chg hd.2 (λk hk q=>by omega),h.k,h.c,h.l⟩
theorem SaS.below{sb:Nat}{ts:List Tz}(h:SaS bv n w cb fb fv sb g cp ts wr)(hb:Below wr.heap.size wr w1):SaS bv n w cb fb fv sb g cp ts w1:=
 h.call ⟨h.j.d.below hb,Chg.of_below hb⟩
theorem TzsB.lt{ts:List Tz}(h:TzsB P w g ts):TzsB (λk=>P k/\k<w.heap.size) w g ts:=by obtain⟨h1,h2,h3⟩:=h;refine⟨⟨h1,h2⟩,h2,λi t ht=>?_⟩;obtain⟨c0,c1,b,off,hA⟩:=h3 i t ht;refine⟨c0,c1,b,off,hA.a,λq=>⟨hA.lo q,hA.lt⟩,hA.lt,hA.cap,λj r hr=>⟨(hA.runs j r hr).1,λq=>?_⟩⟩;obtain⟨b',y,k1,k2,k3,k4,k5⟩:=(hA.runs j r hr).2 q;exact⟨b',y,k1,⟨k2,k4⟩,k3,k4,k5⟩
structure SaR(bv:Value)(n:Nat)(w:World)(cb fb:Nat)(fv:Value)(sb gb g cp:Nat)(ts:List Tz)(lo:ByteArray)(hv:Value)(hi:ByteArray)(wr:World):Prop where
 j:SaJ bv n w cb fb fv wr
 s:yA wr w.heap.size 28 1 sb [.slice (some ⟨g,0,none⟩) ts.length cp]
 r:yA wr w.heap.size 30 3 gb [.string lo,hv,.string hi]
 t:TzsB (λk=>fb<k/\k≠sb/\k≠gb) wr g ts
 k:SpK (tbz ts)
 c:ts.length<=cp/\cp<=maxLen
 l:fb<sb/\sb<gb
theorem SaR.call{sb gb:Nat}{ts:List Tz}{lo:ByteArray}{hv:Value}{hi:ByteArray}(h:SaR bv n w cb fb fv sb gb g cp ts lo hv hi wr)(hd:Drew cb cb bv n wr w1):SaR bv n w cb fb fv sb gb g cp ts lo hv hi w1:=by have hl:=h.l;have hl2:=h.j.l;exact⟨h.j.call hd,h.s.chg hd.2 (by omega),h.r.chg hd.2 (by omega),h.t.chg hd.2 (λk hk q=>by omega),h.k,h.c,h.l⟩
theorem SaR.put{sb gb:Nat}{ts:List Tz}{lo:ByteArray}{hv:Value}{hi:ByteArray}(h:SaR bv n w cb fb fv sb gb g cp ts lo hv hi wr)(lo':ByteArray)(hv':Value)(hi':ByteArray):SaR bv n w cb fb fv sb gb g cp ts lo' hv' hi' (((wr.setCell ⟨gb,0,none⟩ (.string lo')).setCell ⟨gb,1,none⟩ hv').setCell ⟨gb,2,none⟩ (.string hi')):=by have hl:=h.l;have hl2:=h.j.l;have o1:∀{W:World}(j:Nat)(u:Value),Chg (λk=>k=gb) W (W.setCell ⟨gb,j,none⟩ u):=λj u=>Chg.of_set _ _ _ _ rfl;exact⟨((h.j.other (by omega) (by omega) 0 _).other (by omega) (by omega) 1 _).other (by omega) (by omega) 2 _,((h.s.chg (o1 0 _) (by omega)).chg (o1 1 _) (by omega)).chg (o1 2 _) (by omega),((h.r.set 0 _).set 1 _).set 2 _,((h.t.chg (o1 0 _) (λk hk q=>by omega)).chg (o1 1 _) (λk hk q=>by omega)).chg (o1 2 _) (λk hk q=>by omega),h.k,h.c,h.l⟩
theorem StK.z{v:Value}{tb:List Tb}(h:StK B v tb k w)(hk:k<=8):∃(g cp:Nat)(ts:List Tz),v=.slice (some ⟨g,0,none⟩) ts.length cp/\TzsB (λk=>B<=k/\k<w.heap.size) w g ts/\SpK (tbz ts)/\(ts.length<=cp/\cp<=maxLen):=by
 obtain⟨xs,hS,hx⟩:=h.st;rcases hS.row with⟨q,_⟩|⟨g,cp,hv,hO⟩
 .have:=h.good.ne;rw[<-hx,q]at this;simp at this
 .have y:w.ownsRow B 56 2 (.slice (some ⟨g,0,none⟩) xs.length cp) xs.length (yAs (xs.map Tx.pr)):=by have:=hO;unfold OwnP at this;rw[length_map]at this;exact this
  have hc:=yAn.caps y;refine⟨g,cp,xs.map Tx.tz,by rw[length_map];exact hv,yPp hO hO.lt (λt ht=>(hS.runs t ht).tz (hS.ents t ht) (λk q r=>⟨q,r⟩)),by rw[yQk,hx];exact h.spK hk,by rw[length_map];exact hc⟩
def DsaP(w:World)(e:Ending)(w':World):Prop:=∃(fa:Option Addr)(fn fk:Nat)(g cp:Nat)(ts:List Tz)(lo:ByteArray)(bb:Bool)(hi:ByteArray),e=.returned (.tuple #[.agg #[.slice fa fn fk],.agg #[.slice (some ⟨g,0,none⟩) ts.length cp],.agg #[.string lo,.bool bb,.string hi]])/\lo.size<=1000/\hi.size<=1000/\Hid (TzsB (λk=>w.heap.size<=k) w' g ts/\SpK (tbz ts)/\(ts.length<=cp/\cp<=maxLen)/\Below w.heap.size w w')
theorem yMv(a:Option Addr)(n cap:Nat)(w:World)(h:yEj w w.heap.size (.slice a n cap) n):Calls prog 4 #[.slice a n cap] w (DsaP w):=by
 have hn:=h.1;obtain⟨Wa,a4⟩:=qE (((w.alloc (Obj.cells #[.slice none 0 0] 25)).alloc (Obj.cells #[.slice none 0 0] 28)).alloc (Obj.cells #[.string ⟨#[]⟩,.bool false,.string ⟨#[]⟩] 30):World);have ao:Below w.heap.size w Wa:=by rw[a4];exact((qB).alloc (by simp) _).alloc (by simp;omega) _
 have aj:Wa.heap.size=w.heap.size+3:=by rw[a4];simp
 have HB:Hid (yA Wa w.heap.size 25 1 w.heap.size [.slice none 0 0]/\yA Wa w.heap.size 28 1 (w.heap.size+1) [.slice none 0 0]/\yA Wa w.heap.size 30 3 (w.heap.size+2) (rgv ⟨#[]⟩ false ⟨#[]⟩)/\yEj Wa Wa.heap.size (.slice a n cap) n):=by
  have b1:=yAa w (base:=w.heap.size) (t:=25) (sz:=1) #[.slice none 0 0] (Nat.le_refl _) rfl;have b2:=yAa (w.alloc (Obj.cells #[.slice none 0 0] 25)) (base:=w.heap.size) (t:=28) (sz:=1) #[.slice none 0 0] (by simp) rfl;have b3:=yAa ((w.alloc (Obj.cells #[.slice none 0 0] 25)).alloc (Obj.cells #[.slice none 0 0] 28)) (base:=w.heap.size) (t:=30) (sz:=3) #[.string ⟨#[]⟩,.bool false,.string ⟨#[]⟩] (by simp;omega) rfl;rw[show(w.alloc (Obj.cells #[.slice none 0 0] 25)).heap.size=w.heap.size+1 by simp]at b2;rw[show((w.alloc (Obj.cells #[.slice none 0 0] 25)).alloc (Obj.cells #[.slice none 0 0] 28)).heap.size=w.heap.size+2 by simp]at b3;refine⟨?_,?_,by rw[a4];exact b3,h.up ao⟩
  .rw[a4];exact(b1.below (qB)).below (qB)
  .rw[a4];exact b2.below (qB)
 clear h;go_enter func4,ntmps4;go_upto_region 1 with fail;rw[<-a4];clear a4;go_wp2_with fail;refine(yWk _ n Wa HB.2.2.2).mono ?_;rintro e w1 ⟨rfl,a9,hb1⟩;obtain⟨cb,aa⟩:=qE Wa.heap.size;rw[<-aa]at a9|-;have a3:Hid (yAd cb cb (.slice a n cap) n w1/\Below Wa.heap.size Wa w1/\cb=Wa.heap.size/\Wa.heap.size=w.heap.size+3/\Wa.heap.size<=w1.heap.size/\cb<w1.heap.size):=⟨a9,hb1,aa,aj,hb1.size,a9.lt.2⟩;clear a9 hb1 aa aj;go_wp2_with fail;refine(yJ4 cb cb _ n w1 a3.1).mono ?_;rintro e w2 ⟨fg,fc,fx,rfl,bG,aW,a5⟩;obtain⟨W3,af⟩:=qE (w2.alloc (Obj.cells #[.slice (some ⟨fg,0,none⟩) fx.length fc] 25):World);have hb3:Below w2.heap.size w2 W3:=by rw[af];exact qB
 obtain⟨fb,am⟩:=qE w2.heap.size;have H3:Hid (SaJ (.slice a n cap) n w cb fb (.slice (some ⟨fg,0,none⟩) fx.length fc) W3/\yAj W3 w1.heap.size fg fc fx/\∀e∈fx,e.small):=by have ac:=a3.2.1;have aa:=a3.2.2.1;have aj:=a3.2.2.2.1;have bD:=a3.2.2.2.2.1;have bE:=a3.2.2.2.2.2;have bC:=a5.2.2.c.size;have ab:=a5.2.2.c;have aY:Below w.heap.size w w1:=ao.trans (ac.mono (by omega));have aX:Below w.heap.size w w2:=Chg.below aY ab (by omega) (λk q=>by omega);have q2:=(HB.1.below ac).chg ab (by omega);have q3:=(HB.2.1.below ac).chg ab (by omega);have q4:=(HB.2.2.1.below ac).chg ab (by omega);refine⟨⟨q2.below hb3,q3.below hb3,q4.below hb3,?_,a5.2.2.d.below hb3,aX.trans (hb3.mono (by omega)),by omega,by omega⟩,a5.2.1.below hb3 a5.2.1.lt.2,a5.1⟩;rw[af,am];exact yAa w2 #[.slice (some ⟨fg,0,none⟩) fx.length fc] (by omega) rfl
 clear a5;go_upto_region 3 with fail;rw[<-af,<-am];clear af am;go_wp2_with fail;refine(yAx cb cb _ n 25 _ H3.1.d (by omega) (by omega)).mono ?_;rintro e w4 ⟨o4,rfl,aO,an⟩;have H4:Hid (SaJ (.slice a n cap) n w cb fb (.slice (some ⟨fg,0,none⟩) fx.length fc) w4/\yAj w4 w1.heap.size fg fc fx/\∀e∈fx,e.small):=by have:=a3.2.2.2.2.2;exact⟨H3.1.call an,yAg H3.2.1 an.2 (λk q=>by have:=(World.ownsRow.lt H3.2.1 k q).1;omega),H3.2.2⟩
 clear an;go_upto_if 14 with fail;go_cut[17] (λq wx=>∃(fa:Option Addr)(fn fk:Nat),SaJ (.slice a n cap) n w cb fb (.slice fa fn fk) wx);case first=>
  rcases aO with rfl|rfl
  .have c4:=H4.1.f.cell (j:=0) rfl;have z4:=H4.1.f.frozen 0;go_wp2_with fail;refine(yKs cb cb _ n _ H4.1.d H4.2.1 H4.2.2 (by omega) aW).mono ?_;rintro e w5 ⟨b5,o5,k5,ys,rfl,bF,aI⟩;have H5:Hid (SaJ (.slice a n cap) n w cb fb (.slice (some ⟨fg,0,none⟩) fx.length fc) w5):=H4.1.call ⟨aI.2.2.2.2.d,aI.2.2.2.2.c⟩;clear c4 z4;have c5:=H5.f.cell (j:=0) rfl;have z5:=H5.f.frozen 0;have H6:Hid (SaJ (.slice a n cap) n w cb fb (.slice (some ⟨b5,o5,none⟩) ys.length k5) (w5.setCell ⟨fb,0,none⟩ (.slice (some ⟨b5,o5,none⟩) ys.length k5))):=H5.setF _;go_wp2_with fail;go_meet;exact⟨_,_,_,H6.out⟩
  .go_wp2_with fail;go_meet;exact⟨_,_,_,H4.1⟩
 case rest=>
  obtain⟨fa,fn,fk,hJ⟩:=hcut;have HJ:Hid (SaJ (.slice a n cap) n w cb fb (.slice fa fn fk) wc):=hJ;clear hJ H3 H4 a3 HB ao;go_wp2_with fail;refine(yRw cb cb a n cap wc HJ.d hn).mono ?_;rintro e w5 ⟨sa,sm,sc,tb,rfl,au,az⟩;have y:Hid (SaJ (.slice a n cap) n w cb fb (.slice fa fn fk) w5/\StK wc.heap.size (.slice sa sm sc) tb 8 w5/\fb<wc.heap.size):=⟨HJ.call az,au,HJ.f.lt.2⟩;clear au az;obtain⟨W6,ae⟩:=qE (w5.alloc (Obj.cells #[.slice sa sm sc] 28):World);have ad:Below w5.heap.size w5 W6:=by rw[ae];exact qB
  have H6:Hid (SaJ (.slice a n cap) n w cb fb (.slice fa fn fk) W6/\yA W6 w.heap.size 28 1 w5.heap.size [.slice sa sm sc]/\StK wc.heap.size (.slice sa sm sc) tb 8 W6/\fb<w5.heap.size):=by have s5:=y.1.b.size;refine⟨y.1.below ad,?_,y.2.1.below ad,y.1.f.lt.2⟩;rw[ae];exact yAa w5 #[.slice sa sm sc] s5 rfl
  have HZ:Hid (∃(g cp:Nat)(ts:List Tz),Value.slice sa sm sc=.slice (some ⟨g,0,none⟩) ts.length cp/\TzsB (λk=>fb<k/\k≠w5.heap.size) W6 g ts/\SpK (tbz ts)/\(ts.length<=cp/\cp<=maxLen)):=by obtain⟨g,cp,ts,h1,h2,h3,h4⟩:=y.2.1.z (by omega);have aU:=y.2.2;exact⟨g,cp,ts,h1,(h2.chg (S:=λ_=>False) (Chg.of_below ad) (λ_ _ q=>q)).imp (λk hk=>by omega),h3,h4⟩
  go_upto_region 6 with fail;rw[<-ae];obtain⟨sb,av⟩:=qE w5.heap.size;rw[<-av]at H6 HZ|-;have aZ:Hid (cb<wc.heap.size):=by have:=y.2.2;have:=y.1.l;show cb<wc.heap.size;omega
  clear ae ad av y HJ;go_wp2_with fail;refine(yAx cb cb _ n 25 _ H6.1.d (by omega) (by omega)).mono ?_;rintro e w7 ⟨o7,rfl,aN,a6⟩;have H7:Hid (SaJ (.slice a n cap) n w cb fb (.slice fa fn fk) w7/\yA w7 w.heap.size 28 1 sb [.slice sa sm sc]/\StK wc.heap.size (.slice sa sm sc) tb 8 w7/\fb<sb/\∃(g cp:Nat)(ts:List Tz),Value.slice sa sm sc=.slice (some ⟨g,0,none⟩) ts.length cp/\TzsB (λk=>fb<k/\k≠sb) w7 g ts/\SpK (tbz ts)/\(ts.length<=cp/\cp<=maxLen)):=by have hl:=H6.1.l;have hl2:=H6.2.2.2;obtain⟨g,cp,ts,h1,h2,h3,h4⟩:=HZ.out;have aU:=aZ.out;exact⟨H6.1.call a6,H6.2.1.chg a6.2 (by omega),H6.2.2.1.chg a6.2 (λj hj q=>by omega),hl2,g,cp,ts,h1,h2.chg a6.2 (λk hk q=>by omega),h3,h4⟩
  clear a6 H6 HZ;go_upto_if 22 with fail;go_cut[25] (λq wx=>∃(g cp N:Nat)(ts:List Tz),N=ts.length/\SaS (.slice a n cap) n w cb fb (.slice fa fn fk) sb g cp ts wx);case first=>
   rcases aN with rfl|rfl
   .have c7:=H7.2.1.cell (j:=0) rfl;have z7:=H7.2.1.frozen 0;have b0:Hid (Calls prog 19 #[.pointer (some ⟨cb,0,none⟩),.agg #[.slice sa sm sc]] w7 (SpoP cb cb (.slice a n cap) n w7)):=yI9 cb cb a n cap w7 H7.1.d (H7.2.2.1.low (zero_le _));go_wp2_with fail;refine b0.mono ?_;rintro e w8 ⟨g,cp,ts,rfl,aw,aQ,aD,aF,a8⟩;obtain⟨N,hN⟩:=qE (ts.length:Nat);have H8:Hid (SaS (.slice a n cap) n w cb fb (.slice fa fn fk) sb g cp ts (w8.setCell ⟨sb,0,none⟩ (.slice (some ⟨g,0,none⟩) N cp))):=by have aG:=H7.1.call a8;have hl:=aG.l;have aV:=H7.2.2.2.1;have a7:=H7.2.1.chg a8.2 (by omega);have bB:=H7.2.1.lt.2;rw[hN];exact⟨aG.other (by omega) (by omega) 0 _,a7.set 0 _,(aD.chg (Chg.of_set (S:=λj=>j=sb) _ _ _ _ rfl) (λk hk q=>by omega)).imp (λk hk=>by omega),aF,⟨aw,aQ⟩,aV⟩
    have HN:Hid (N=ts.length):=hN;have a7:=H7.2.1.chg a8.2 (by have:=H7.1.l;have:=H7.2.2.2.1;omega);clear c7 z7 aD aF a8;have c8:=a7.cell (j:=0) rfl;have z8:=a7.frozen 0;rw[<-hN];clear hN a7 aw;go_wp2_with fail;go_meet;exact⟨g,cp,N,ts,HN.out,H8.out⟩
   .go_wp2_with fail;go_meet;obtain⟨g,cp,ts,h1,h2,h3,h4⟩:=H7.2.2.2.2;have hb:=H7.2.1;rw[h1]at hb;exact⟨g,cp,ts.length,ts,rfl,H7.1,hb,h2,h3,h4,H7.2.2.2.1⟩
  case rest=>
   obtain⟨g,cp,N,ts,hN,a0⟩:=hcut;have HN:Hid (N=ts.length):=hN;obtain⟨aH,ag⟩:=qE (wc.alloc (Obj.cells #[.string ⟨#[]⟩,.bool false,.string ⟨#[]⟩] 30):World);have aq:Below wc.heap.size wc aH:=by rw[ag];exact qB
   have ai:Hid (SaR (.slice a n cap) n w cb fb (.slice fa fn fk) sb wc.heap.size g cp ts ⟨#[]⟩ (.bool false) ⟨#[]⟩ aH):=by
    have aE:=a0.below aq;have aL:=a0.s.lt.2;refine⟨aE.j,aE.s,?_,?_,a0.k,a0.c,a0.l,aL⟩
    .rw[ag];exact yAa wc #[.string ⟨#[]⟩,.bool false,.string ⟨#[]⟩] a0.j.b.size rfl
    .exact(a0.t.lt.chg (S:=λ_=>False) (Chg.of_below aq) (λ_ _ q=>q)).imp (λk hk=>by omega)
   clear a0 hN H7;go_upto_region 9 with fail;rw[<-ag];obtain⟨gb,ay⟩:=qE wc.heap.size;rw[<-ay]at ai|-;clear ag aq ay;go_wp2_with fail;refine(yAx cb cb _ n 2 _ ai.j.d (by omega) (by omega)).mono ?_;rintro e aK ⟨b9,rfl,aP,aB⟩;have ar:Hid (SaR (.slice a n cap) n w cb fb (.slice fa fn fk) sb gb g cp ts ⟨#[]⟩ (.bool false) ⟨#[]⟩ aK):=ai.call aB;clear aB ai;go_upto_if 28 with fail;go_cut[30] (λq wx=>∃(lo:ByteArray)(bb:Bool)(hi:ByteArray),lo.size<=1000/\hi.size<=1000/\SaR (.slice a n cap) n w cb fb (.slice fa fn fk) sb gb g cp ts lo (.bool bb) hi wx);case first=>
    rcases aP with rfl|rfl
    .go_wp2_with fail;refine(yRx cb cb _ n _ ar.j.d).mono ?_;rintro e aJ ⟨lo,hv,hi,rfl,ax,ak,al,aA⟩;obtain⟨bb,rfl⟩:∃bb:Bool,hv=.bool bb:=by rcases ax with q|q<;>exact⟨_,q⟩
     have ah:=ar.call aA;have HP:Hid (SaR (.slice a n cap) n w cb fb (.slice fa fn fk) sb gb g cp ts lo (.bool bb) hi (((aJ.setCell ⟨gb,0,none⟩ (.string lo)).setCell ⟨gb,1,none⟩ (.bool bb)).setCell ⟨gb,2,none⟩ (.string hi))):=ah.put lo (.bool bb) hi;obtain⟨k0,k1,k2⟩:=ah.r.c3;obtain⟨z0,z1,z2⟩:=ah.r.f3;clear ah aA ax;go_wp2_with fail;go_meet;exact⟨lo,bb,hi,ak,al,HP.out⟩
    .go_wp2_with fail;go_meet;exact⟨⟨#[]⟩,false,⟨#[]⟩,by decide,by decide,ar.out⟩
   case rest=>
    obtain⟨lo,bb,hi,ak,al,hR⟩:=hcut;have HR:Hid (SaR (.slice a n cap) n w cb fb (.slice fa fn fk) sb gb g cp ts lo (.bool bb) hi wc):=hR;clear hR;have f0:=HR.j.f.cell (j:=0) rfl;have s0:=HR.s.cell (j:=0) rfl;rw[<-HN.out]at s0;obtain⟨g0,g1,g2⟩:=HR.r.c3;have p0:=HR.j.r2.cell (j:=0) rfl;have q0:=HR.j.r3.cell (j:=0) rfl;obtain⟨r0,r1,r2⟩:=HR.j.r4.c3;have pf:=HR.j.r2.frozen 0;have qf:=HR.j.r3.frozen 0;obtain⟨b8,b7,b6⟩:=HR.j.r4.f3;have aS:=HR.j.l;have aT:=HR.j.c;have aR:=HR.l;have bn:¬fb=w.heap.size:=by omega
    have bA:¬w.heap.size=fb:=by omega
    have bm:¬fb=w.heap.size+1:=by omega
    have bz:¬w.heap.size+1=fb:=by omega
    have bk:¬fb=w.heap.size+2:=by omega
    have bx:¬w.heap.size+2=fb:=by omega
    have bf:¬sb=w.heap.size:=by omega
    have br:¬w.heap.size=sb:=by omega
    have bd:¬sb=w.heap.size+1:=by omega
    have bq:¬w.heap.size+1=sb:=by omega
    have ba:¬sb=w.heap.size+2:=by omega
    have bo:¬w.heap.size+2=sb:=by omega
    have bj:¬gb=w.heap.size:=by omega
    have bw:¬w.heap.size=gb:=by omega
    have bi:¬gb=w.heap.size+1:=by omega
    have bu:¬w.heap.size+1=gb:=by omega
    have bg:¬gb=w.heap.size+2:=by omega
    have bt:¬w.heap.size+2=gb:=by omega
    clear aS aT aR;obtain⟨WZ,aC⟩:=qE ((((((wc.setCell ⟨w.heap.size,0,none⟩ (.slice fa fn fk)).setCell ⟨w.heap.size+1,0,none⟩ (.slice (some ⟨g,0,none⟩) N cp)).setCell ⟨w.heap.size+1+1,0,none⟩ (.string lo)).setCell ⟨w.heap.size+1+1,1,none⟩ (.bool bb)).setCell ⟨w.heap.size+1+1,2,none⟩ (.string hi)).drew:World);have HZ:Hid (yA WZ w.heap.size 25 1 w.heap.size [.slice fa fn fk]/\yA WZ w.heap.size 28 1 (w.heap.size+1) [.slice (some ⟨g,0,none⟩) N cp]/\yA WZ w.heap.size 30 3 (w.heap.size+1+1) [.string lo,.bool bb,.string hi]/\DsaP w (.returned (.tuple #[.agg #[.slice fa fn fk],.agg #[.slice (some ⟨g,0,none⟩) N cp],.agg #[.string lo,.bool bb,.string hi]])) WZ):=by have aM:yA wc w.heap.size 30 3 (w.heap.size+1+1) (rgv ⟨#[]⟩ false ⟨#[]⟩):=HR.j.r4;have b2:=((((HR.j.r2.set 0 (.slice fa fn fk)).beside (k:=w.heap.size+1) (by omega) 0 (.slice (some ⟨g,0,none⟩) N cp)).beside (k:=w.heap.size+1+1) (by omega) 0 (.string lo)).beside (k:=w.heap.size+1+1) (by omega) 1 (.bool bb)).beside (k:=w.heap.size+1+1) (by omega) 2 (.string hi);have b3:=((((HR.j.r3.beside (k:=w.heap.size) (by omega) 0 (.slice fa fn fk)).set 0 (.slice (some ⟨g,0,none⟩) N cp)).beside (k:=w.heap.size+1+1) (by omega) 0 (.string lo)).beside (k:=w.heap.size+1+1) (by omega) 1 (.bool bb)).beside (k:=w.heap.size+1+1) (by omega) 2 (.string hi);have b4:=((((aM.beside (k:=w.heap.size) (by omega) 0 (.slice fa fn fk)).beside (k:=w.heap.size+1) (by omega) 0 (.slice (some ⟨g,0,none⟩) N cp)).set 0 (.string lo)).set 1 (.bool bb)).set 2 (.string hi);have hd:∀W:World,Below W.heap.size W W.drew:=λW=>(Below.refl _ _).drew;have hc:=HR.j.c;have hl:=HR.j.l;have o:∀{W:World}(q j:Nat)(u:Value),Chg (λk=>k=q) W (W.setCell ⟨q,j,none⟩ u):=λq j u=>Chg.of_set _ _ _ _ rfl;have ht:=((((HR.t.chg (o w.heap.size 0 (.slice fa fn fk)) (λk hk q=>by omega)).chg (o (w.heap.size+1) 0 (.slice (some ⟨g,0,none⟩) N cp)) (λk hk q=>by omega)).chg (o (w.heap.size+1+1) 0 (.string lo)) (λk hk q=>by omega)).chg (o (w.heap.size+1+1) 1 (.bool bb)) (λk hk q=>by omega)).chg (o (w.heap.size+1+1) 2 (.string hi)) (λk hk q=>by omega);have hb:=((((HR.j.b.setCell (p:=⟨w.heap.size,0,none⟩) (Nat.le_refl _) (.slice fa fn fk)).setCell (p:=⟨w.heap.size+1,0,none⟩) (by show w.heap.size<=w.heap.size+1;omega) (.slice (some ⟨g,0,none⟩) N cp)).setCell (p:=⟨w.heap.size+1+1,0,none⟩) (by show w.heap.size<=w.heap.size+1+1;omega) (.string lo)).setCell (p:=⟨w.heap.size+1+1,1,none⟩) (by show w.heap.size<=w.heap.size+1+1;omega) (.bool bb)).setCell (p:=⟨w.heap.size+1+1,2,none⟩) (by show w.heap.size<=w.heap.size+1+1;omega) (.string hi);rw[aC];refine⟨b2.below (hd _),b3.below (hd _),b4.below (hd _),fa,fn,fk,g,cp,ts,lo,bb,hi,by rw[HN.out],ak,al,(ht.chg (S:=λ_=>False) (Chg.of_below (hd _)) (λ_ _ q=>q)).imp (λk hk=>by omega),HR.k,HR.c,hb.drew⟩
    go_wp2_with fail;go_region;go_wp2_with fail;rw[<-aC];have e0:=HZ.1.cell (j:=0) rfl;have e1:=HZ.2.1.cell (j:=0) rfl;obtain⟨e2,e3,e4⟩:=HZ.2.2.1.c3;exact bodyPost_ret (v:=.tuple #[.agg #[.slice fa fn fk],.agg #[.slice (some ⟨g,0,none⟩) N cp],.agg #[.string lo,.bool bb,.string hi]]) (by simp[results,results4,go_sem,e0,e1,e2,e3,e4]) rfl HZ.2.2.2
end Go.Proofs.YtehfleefkdojpaaGreatDoor
