import Derived.Test.YtnnagkfoiganfaaGreatDoorRkAB
namespace Go.Proofs.YtnnagkfoiganfaaGreatDoor
open Go.ChangeShapes Go.WideShapes Go.ChangeAt Go.RowKit Go.Deep XD XI XU XG XP XK XW XT XF XE XH _root_.List _root_.Nat Go.Proofs.Tryz
set_option linter.unusedVariables false
set_option linter.unusedSimpArgs false
set_option maxRecDepth 100000
set_option maxHeartbeats 40000000
def LyC (base:Nat) (w0:World) (t:Pat) (v:Value):Prop:=∀(M:Nat) (T:Nat->PS) (G cp a:Nat) (E:Nat->PS) (en:PS) (mp:Nat) (w:World),MtrI w base M T G cp a E en mp->Below base w0 w->a+wtP t<=256->
 Calls prog 237 #[xp M,v] w (LayR base M T G E en mp (lyP t a) w)
variable {w:World}
theorem yZ4 {S:Nat->Prop} {w5 w6:World} (hx:Chg S w w5) (hc:Chg (λk=>w.heap.size<=k) w5 w6):Chg S w w6:=
 ⟨hc.os.trans hx.os,hc.tape.trans hx.tape,hc.output.trans hx.output,Nat.le_trans hx.size hc.size,λj hj hn=>(hc.block j (Nat.lt_of_lt_of_le hj hx.size) qo).trans (hx.block j hj hn)⟩
variable {base M mp G:Nat} {T E:Nat->PS} {en:PS}
theorem yHl {w5:World} {G1 cp1 nx:Nat} {g:Nat} {vs:List Value} (hm:MtrI w5 base M T G1 cp1 nx E en mp) (hb:yA w5 w 343 8 g vs) (hx:Chg (λk=>k=M∨k=G) w w5) F L:
  MtrI (setSp w5 g F L) base M T G1 cp1 nx E en mp/\yA (setSp w5 g F L) w 343 8 g (spL F L)/\Chg (λk=>k=M∨k=G) w (setSp w5 g F L):=by
 have hc:Chg (λk=>k=g) w5 (setSp w5 g F L):=yKm w5 _ _ _ rfl;have a1:¬G1=g:=λq=>yAb hm.row hb qj G1 rfl (by rw[q];rfl);have a0:¬M=g:=λq=>yAb hm.box hb qj M rfl (by rw[q];rfl);have h1:=hb.lt.1;refine⟨⟨hm.box.chg hc a0,yAh hm.row hc (λk q=>by simp[Value.ownBlock]at q;subst q;exact a1),hm.new,hm.tab.chg hc (λq=>?_),hm.low⟩,hb.setSp _ _,yZ4 hx (hc.mono (λk q=>by omega))⟩;have h2:=hm.tab;have h3:w5.heap[g]?=some (.cells vs.toArray 343 (0,0)):=hb.heap;have h4:=h2 8 (by omega);rw[q]at h4;have h5:=hb.len;rw[World.cell?,h3]at h4;simp[getElem?_eq_none (show vs.length<=8 by omega)]at h4
variable {w0:World} {t:Pat} {u:Value}
theorem yP8 (hu:∃X c,u=.iface X (.agg c)) (H:LyC base w0 t u) (o:Bool):LyC base w0 (.rep t o true) (.iface 362 (.agg #[u,o,true])):=by
 intro M T G cp a E en mp w h ab aa;obtain⟨ux,uc,rfl⟩:=hu;obtain⟨l,hl⟩:=qE (lyP t a);have a4:=(yQ7 t a).spt;have ac:=nx_P t a;simp only[wtP]at aa;rw[<-hl]at a4 ac;obtain⟨W0,a7⟩:=qW (xw (w.alloc (.cells zsA 343)) #[.iface ux (.agg uc),o,true] 362);have a1:Hid (yA W0 w 343 8 w zsA.toList/\yA W0 w 362 3 (w+1) [.iface ux (.agg uc),o,true]/\Below w w W0/\MtrI W0 base M T G cp a E en mp):=by
  obtain⟨b1,b2,k0⟩:=box2 a7;exact⟨b1,b2,k0,h.below k0⟩
 have am:=h.ltM;have an:=h.ltG;have ak:=h.ne;have HL:Hid (Calls prog 237 #[xp M,.iface ux (.agg uc)] W0 (LayR base M T G E en mp l W0)):=by rw[hl];exact H M T G cp a E en mp W0 a1.2.2.2 (ab.trans (a1.2.2.1.mono qo)) aa
 have a8:=qH3 a4 (by omega:l.nx<=256) hl;clear h H hl a4 ac ab;have ai:=asRB #[.iface ux (.agg uc),o,true];have ah:=asRC #[.iface ux (.agg uc),o,true];have ag:=asRR #[.iface ux (.agg uc),o,true];go_enter func237,ntmps237;go_wp2_with fail;have a6:=a7;simp only[zsA]at a6;rw[<-a6];clear a7 a6 ai ah ag;refine HL.mono ?_;rintro e w1 ⟨G1,ad,rfl,H1⟩;have q0:=a1.2.2.1.size;have al:=H1.2.1.size;obtain⟨W2,a2⟩:=qW (xw w1 (spL l.fst l.lst).toArray 343);have k2:=qN a2
 have a0:Hid (yA W2 w 343 8 w zsA.toList/\yA W2 w 362 3 (w+1) [.iface ux (.agg uc),o,true]/\yA W2 w 343 8 w1 (spL l.fst l.lst)/\MtrI W2 base M (yCp T l) G1 ad l.nx (yBo E l) en mp/\Chg (λk=>k=M∨k=G) w W2/\(G1=G∨w.heap.size<=G1)):=by
  refine⟨(a1.1.chg H1.2.1 qo).below k2,(a1.2.1.chg H1.2.1 qo).below k2,?_,H1.1.below k2,((Chg.of_below a1.2.2.1).trans H1.2.1).trans (Chg.of_below k2),?_⟩
  .rw[a2];exact yAa w1 _ qo rfl
  .rcases H1.2.2 with q|q
   .exact .inl q
   .exact .inr qo
 have b2:=a0.2.1.cell (j:=2) rfl;obtain⟨s0,s1,s2,s3,s4,s5,s6,s7⟩:=a0.2.2.1.c8;obtain⟨g0,g1,g2,g3,g4,g5,g6,g7⟩:=a0.2.2.1.f8;go_upto_region 20 with fail;have a5:=a2;simp only[spL]at a5;rw[<-a5];clear a2 a5;have aj:=qH1 (yIh l.lst l.fst W2 a0.2.2.2.1 (λp hp=>(a8.1.lst p hp).2) a8.2.1);go_wp2_with fail;refine aj.mono ?_;rintro e w5 ⟨⟨v,rfl⟩,H5⟩;have af:¬G1=w.heap.size:=λq=>yAb a0.2.2.2.1.row a0.1 qj G1 rfl (by rw[q];rfl);have ae:¬G1=w1.heap.size:=λq=>yAb a0.2.2.2.1.row a0.2.2.1 qj G1 rfl (by rw[q];rfl);have a3:=a0.1.chg H5.2 (λq=>af q.symm);have a9:=a0.2.2.1.chg H5.2 (λq=>ae q.symm);clear s0 g0;clear s1 g1;clear s2 g2;clear s3 g3;clear s4 g4;clear s5 g5;clear s6 g6;clear s7 g7;obtain⟨r0,r1,r2,r3,r4,r5,r6,r7⟩:=a3.c8;obtain⟨f0,f1,f2,f3,f4,f5,f6,f7⟩:=a3.f8;obtain⟨s0,s1,s2,s3,s4,s5,s6,s7⟩:=a9.c8;obtain⟨g0,g1,g2,g3,g4,g5,g6,g7⟩:=a9.f8;have HF:Hid (LayR base M T G E en mp (lyP (.rep t o true) a) w (.returned (spV l.fst l.lst)) (setSp w5 w l.fst l.lst)/\yA (setSp w5 w l.fst l.lst) w 343 8 w (spL l.fst l.lst)):=by
  have hx:Chg (λk=>k=M∨k=G) w w5:=by
   have h2:=a0.2.2.2.2.1;have h3:=H5.2;refine⟨h3.os.trans h2.os,h3.tape.trans h2.tape,h3.output.trans h2.output,Nat.le_trans h2.size h3.size,λj hj hn=>(h3.block j (Nat.lt_of_lt_of_le hj h2.size) (λq=>?_)).trans (h2.block j hj hn)⟩;rcases a0.2.2.2.2.2 with z|z
   .exact hn (.inr qo)
   .omega
  obtain⟨f1,f2,f3⟩:=yHl H5.1 a3 hx l.fst l.lst;have e1:(lyP (.rep t o true) a)=l.rep true:=by rw[a8.2.2];rfl
  rw[e1];refine⟨⟨G1,ad,rfl,⟨f1.iff (λb p _ _=>rfl) (λq p _ _=>?_) (λp hp q=>?_),f3,a0.2.2.2.2.2⟩⟩,f2⟩
  .simp[yBo,Lay.rep,Bool.or_assoc]
  .have:=f1.new p hp q;simpa [yBo,Lay.rep,Bool.or_assoc]using this
 clear a3 a9;exact xGr
theorem yOa (hu:∃X c,u=.iface X (.agg c)) (H:LyC base w0 t u) (o:Bool):LyC base w0 (.rep t o false) (.iface 362 (.agg #[u,o,false])):=by
 intro M T G cp a E en mp w h aa a9;obtain⟨ux,uc,rfl⟩:=hu;obtain⟨l,hl⟩:=qE (lyP t a);have a4:=(yQ7 t a).spt;have ab:=nx_P t a;simp only[wtP]at a9;rw[<-hl]at a4 ab;obtain⟨W0,a7⟩:=qW (xw (w.alloc (.cells zsA 343)) #[.iface ux (.agg uc),o,false] 362);have a1:Hid (yA W0 w 343 8 w zsA.toList/\yA W0 w 362 3 (w+1) [.iface ux (.agg uc),o,false]/\Below w w W0/\MtrI W0 base M T G cp a E en mp):=by
  obtain⟨b1,b2,k0⟩:=box2 a7;exact⟨b1,b2,k0,h.below k0⟩
 have aj:=h.ltM;have ak:=h.ltG;have ah:=h.ne;have HL:Hid (Calls prog 237 #[xp M,.iface ux (.agg uc)] W0 (LayR base M T G E en mp l W0)):=by rw[hl];exact H M T G cp a E en mp W0 a1.2.2.2 (aa.trans (a1.2.2.1.mono qo)) a9
 have ag:=qH3 a4 (by omega:l.nx<=256) hl;clear h H hl a4 ab aa;have af:=asRB #[.iface ux (.agg uc),o,false];have ae:=asRC #[.iface ux (.agg uc),o,false];have ad:=asRR #[.iface ux (.agg uc),o,false];go_enter func237,ntmps237;go_wp2_with fail;have a6:=a7;simp only[zsA]at a6;rw[<-a6];clear a7 a6 af ae ad;refine HL.mono ?_;rintro e w1 ⟨G1,ac,rfl,H1⟩;have q0:=a1.2.2.1.size;have ai:=H1.2.1.size;obtain⟨W2,a2⟩:=qW (xw w1 (spL l.fst l.lst).toArray 343);have k2:=qN a2
 have a0:Hid (yA W2 w 343 8 w zsA.toList/\yA W2 w 362 3 (w+1) [.iface ux (.agg uc),o,false]/\yA W2 w 343 8 w1 (spL l.fst l.lst)/\MtrI W2 base M (yCp T l) G1 ac l.nx (yBo E l) en mp/\Chg (λk=>k=M∨k=G) w W2/\(G1=G∨w.heap.size<=G1)):=by
  refine⟨(a1.1.chg H1.2.1 qo).below k2,(a1.2.1.chg H1.2.1 qo).below k2,?_,H1.1.below k2,((Chg.of_below a1.2.2.1).trans H1.2.1).trans (Chg.of_below k2),?_⟩
  .rw[a2];exact yAa w1 _ qo rfl
  .rcases H1.2.2 with q|q
   .exact .inl q
   .exact .inr qo
 have b2:=a0.2.1.cell (j:=2) rfl;obtain⟨s0,s1,s2,s3,s4,s5,s6,s7⟩:=a0.2.2.1.c8;obtain⟨g0,g1,g2,g3,g4,g5,g6,g7⟩:=a0.2.2.1.f8;go_upto_region 20 with fail;have a5:=a2;simp only[spL]at a5;rw[<-a5];clear a2 a5;have a3:=a0.1;have a8:=a0.2.2.1;clear s0 g0;clear s1 g1;clear s2 g2;clear s3 g3;clear s4 g4;clear s5 g5;clear s6 g6;clear s7 g7;obtain⟨r0,r1,r2,r3,r4,r5,r6,r7⟩:=a3.c8;obtain⟨f0,f1,f2,f3,f4,f5,f6,f7⟩:=a3.f8;obtain⟨s0,s1,s2,s3,s4,s5,s6,s7⟩:=a8.c8;obtain⟨g0,g1,g2,g3,g4,g5,g6,g7⟩:=a8.f8;have HF:Hid (LayR base M T G E en mp (lyP (.rep t o false) a) w (.returned (spV l.fst l.lst)) (setSp W2 w l.fst l.lst)/\yA (setSp W2 w l.fst l.lst) w 343 8 w (spL l.fst l.lst)):=by
  obtain⟨f1,f2,f3⟩:=yHl a0.2.2.2.1 a3 a0.2.2.2.2.1 l.fst l.lst;have e1:(lyP (.rep t o false) a)=l.rep false:=by rw[ag.2.2];rfl
  rw[e1];refine⟨⟨G1,ac,rfl,⟨f1.iff (λb p _ _=>rfl) (λq p _ _=>?_) (λp hp q=>?_),f3,a0.2.2.2.2.2⟩⟩,f2⟩
  .simp[yBo,Lay.rep]
  .have:=f1.new p hp q;simpa [yBo,Lay.rep]using this
 clear a3 a8;exact xGr
theorem xFg (hu:∃X c,u=.iface X (.agg c)) (H:LyC base w0 t u) (o r:Bool):LyC base w0 (.rep t o r) (.iface 362 (.agg #[u,o,r])):=by
 cases r with
 |true=>exact yP8 hu H o
 |false=>exact yOa hu H o
def NulV (w:World) (t:Pat) (v:Value):Prop:=∃(T:Nat) (c:Array Value) (f:Nat),v=.iface T (.agg c)/\
 ((T=348/\f=285)∨(T=360/\f=286)∨(T=362/\f=287)∨(T=304/\f=238))/\
 Hid (∀w',Below w w w'->Calls prog f #[.agg c] w' λe w''=>e=.returned (nulB t)/\Below w' w' w'')
theorem xBn (w:World) (b:UInt8):NulV w (.byte b) (yRd b):=by refine⟨_,_,_,rfl,.inl ⟨rfl,rfl⟩,λw' _=>?_⟩;go_enter func285,ntmps285;go_wp2;go_ret;exact⟨rfl,qB⟩
theorem xE3 (w:World) (f:UInt8->Bool):NulV w (.cls f) (clsV f):=by refine⟨_,_,_,rfl,.inr (.inl ⟨rfl,rfl⟩),λw' _=>?_⟩;go_enter func286,ntmps286;go_wp2;go_ret;exact⟨rfl,qB⟩
theorem xE2 (h:NulV w t u) (o r:Bool):NulV w (.rep t o r) (.iface 362 (.agg #[u,o,r])):=by
 refine⟨_,_,_,rfl,.inr (.inr (.inl ⟨rfl,rfl⟩)),λw' hw=>?_⟩;obtain⟨T,c,f,rfl,ht,HC⟩:=h;have hb:∀o:Obj,Below w' w' (w'.alloc o):=λo=>qB;have HB:Hid (∀o:Obj,Below w' w' (w'.alloc o)/\Below w w (w'.alloc o)):=λo=>⟨hb o,hw.trans ((hb o).mono hw.size)⟩;clear hb;cases o with
 |true=>
  go_enter func287,ntmps287;go_wp2;go_ret;exact⟨by simp[nulB],(HB.out _).1⟩
 |false=>
  rcases ht with⟨rfl,rfl⟩|⟨rfl,rfl⟩|⟨rfl,rfl⟩|⟨rfl,rfl⟩;all_goals go_enter func287,ntmps287
  all_goals go_wp2_with fail
  all_goals refine(HC.out _ (HB.out _).2).mono ?_
  all_goals rintro e w1 ⟨rfl,a0⟩
  all_goals go_wp2_with fail
  all_goals go_ret
  all_goals exact⟨by simp[nulB],(HB.out _).1.trans (a0.mono (HB.out _).1.size)⟩
theorem yGx:∀ts:List Pat,nulS ts=ts.all nulB
 | []=>rfl
 |t::ts=>by simp[nulS,yGx ts]
theorem yNv:∀os:List (List Pat),nulA os=os.any nulS
 | []=>rfl
 |t::ts=>by simp[nulA,yNv ts]
def NulQ (w:World) (ts:List Pat) (u:Value):Prop:=∃(a:Option Addr) (n c:Nat),u=.slice a n c/\Hid (∀w',Below w w w'->Calls prog 254 #[.agg #[.slice a n c]] w' λe w''=>e=.returned (nulS ts)/\Below w' w' w'')
variable {lo:Nat->Prop} {ts:List Pat}
theorem xE1 (h:yRk (λt v=>wtP t<=500->NulV w t v) w lo ts u) (hwt:wtS ts<=500):NulQ w ts u:=by
 rcases h with⟨rfl,rfl⟩|⟨g,cp,us,rfl,a2,hV,hN⟩
 .refine⟨none,0,0,rfl,λw' hw=>?_⟩;go_enter func254,ntmps254;go_wp2;go_loopw[8] (λiv wr=>iv=(xi 0)/\Hid (Below w' w' wr)) (λ_ _=>0);case atStart=>exact⟨rfl,qB⟩
  case round=>obtain⟨rfl,HB⟩:=hrel;go_wp2;go_ret;exact⟨rfl,HB.out⟩
 .refine⟨_,_,_,rfl,λw' hw=>?_⟩;obtain⟨n,hn⟩:=qE ts.length;have a3:n<=500:=qw (yRo ts)
  have HH:=qH5 hn (by rw[hn];exact a2:us.length=n) hV hw (λi x t hx ht=>hN i x t hx ht (Nat.le_trans (yRn (mem_of_getElem? ht)) hwt):(∀(i:Nat) x t,us[i]?=some x->ts[i]?=some t->NulV w t x));rw[<-hn];clear a2 hV hN hw hn;go_enter func254,ntmps254;go_wp2;go_loopw[8] (λiv wr=>∃k:Nat,k<=n/\iv=(xi k)/\Hid (Below w' w' wr/\(ts.take k).all nulB=true)) (λiv _=>n-(intOf iv).toNat);case atStart=>exact⟨0,zero_le _,rfl,qB,by simp⟩
  case round=>
   obtain⟨k,hk,rfl,HB⟩:=hrel;by_cases hlt:k<n
   .have zk:(k:Int)<(n:Int):=qo
    obtain⟨x,hx⟩:∃x,us[k]?=some x:=qg (by rw[HH.2.1];exact hlt);obtain⟨t,ht⟩:∃t,ts[k]?=some t:=qg (by rw[<-HH.1];exact hlt);obtain⟨T,c,f,rfl,hT,HC⟩:=HH.2.2.2.2 k x t hx ht;have a0:=HH.2.2.2.1.trans (HB.1.mono HH.2.2.2.1.size);have c0:(xk wr g k (.iface T (.agg c)):Prop):=by rw[a0.cell (p:=(xd g k)) HH.2.2.1.lt];exact HH.2.2.1.val k _ hx
    have HX:Hid (ts[k]?=some t/\∀w2,Below wr wr w2->Below w w w2):=⟨ht,λw2 h2=>a0.trans (h2.mono a0.size)⟩;clear hx ht a0;cases hnb:nulB t with
    |true=>
     have HN:Hid ((ts.take (k+1)).all nulB=true):=by show _=_;rw[take_add_one,HX.1,all_append,HB.2];simp[hnb]
     rw[hnb]at HC;clear hnb;rcases hT with⟨rfl,rfl⟩|⟨rfl,rfl⟩|⟨rfl,rfl⟩|⟨rfl,rfl⟩;all_goals go_wp2_with fail
     all_goals refine(HC.out _ (HX.2 _ (Below.refl _ _))).mono ?_
     all_goals rintro e w1 ⟨rfl,a1⟩
     all_goals go_wp2_with fail
     all_goals refine⟨⟨k+1,qo,by go_num,HB.1.trans (a1.mono HB.1.size),HN.out⟩,?_⟩
     all_goals go_light
     all_goals simp[intOf]
     all_goals omega
    |false=>
     have HN:Hid (nulS ts=false):=by show _=_;rw[yGx,all_eq_false];exact⟨t,mem_of_getElem? HX.1,by simp[hnb]⟩
     rw[hnb]at HC;clear hnb;rcases hT with⟨rfl,rfl⟩|⟨rfl,rfl⟩|⟨rfl,rfl⟩|⟨rfl,rfl⟩;all_goals go_wp2_with fail
     all_goals refine(HC.out _ (HX.2 _ (Below.refl _ _))).mono ?_
     all_goals rintro e w1 ⟨rfl,a1⟩
     all_goals go_wp2_with fail
     all_goals go_ret
     all_goals exact⟨by rw[HN.out];rfl,HB.1.trans (a1.mono HB.1.size)⟩
   .obtain rfl:k=n:=qo
    have zk:¬(k:Int)<(k:Int):=qo
    go_wp2;go_ret;refine⟨?_,HB.1⟩;have:=HB.2;rw[HH.1,take_length]at this;rw[yGx,this];rfl
variable {os:List (List Pat)}
theorem xE4 (h:yUd (λt v=>wtP t<=500->NulV w t v) w lo os u) (hwt:wtA os<=500):∃(a:Option Addr) (n c:Nat),u=.slice a n c/\Hid (∀w',Below w w w'->Calls prog 238 #[.agg #[.slice a n c]] w' λe w''=>e=.returned (nulA os)/\Below w' w' w''):=by
 obtain⟨g,cp,us,rfl,a4,hV,hN⟩:=h;refine⟨_,_,_,rfl,λw' hw=>?_⟩;obtain⟨n,hn⟩:=qE os.length;have a5:n<=500:=by have:=yRr os;omega
 have HH:=qH5 hn (by rw[hn];exact a4:us.length=n) hV hw (λi x t hx ht=>xE1 (hN i x t hx ht) (Nat.le_trans (yRq (mem_of_getElem? ht)) hwt):(∀(i:Nat) x t,us[i]?=some x->os[i]?=some t->NulQ w t x));rw[<-hn];clear a4 hV hN hw hn;go_enter func238,ntmps238;go_wp2_with fail;go_loopw[8] (λiv wr=>∃k:Nat,k<=n/\iv=(xi k)/\Hid (Below w' w' wr/\(os.take k).any nulS=false)) (λiv _=>n-(intOf iv).toNat);case atStart=>exact⟨0,zero_le _,rfl,qB,by simp⟩
 case round=>
  obtain⟨k,hk,rfl,HB⟩:=hrel;by_cases hlt:k<n
  .have zk:(k:Int)<(n:Int):=qo
   obtain⟨x,hx⟩:∃x,us[k]?=some x:=qg (by rw[HH.2.1];exact hlt);obtain⟨t,ht⟩:∃t,os[k]?=some t:=qg (by rw[<-HH.1];exact hlt);obtain⟨sa,sn,sc,rfl,HC⟩:=HH.2.2.2.2 k x t hx ht;have a2:=HH.2.2.2.1.trans (HB.1.mono HH.2.2.2.1.size);have c0:(xk wr g k (.slice sa sn sc):Prop):=by rw[a2.cell (p:=(xd g k)) HH.2.2.1.lt];exact HH.2.2.1.val k _ hx
   have HX:Hid (os[k]?=some t/\∀w2,Below wr wr w2->Below w w w2):=⟨ht,λw2 h2=>a2.trans (h2.mono a2.size)⟩;have a0:Hid (∀o:Obj,Below wr wr (wr.alloc o)):=λo=>qB;clear hx ht a2;cases hnb:nulS t with
   |false=>
    have HN:Hid ((os.take (k+1)).any nulS=false):=by show _=_;rw[take_add_one,HX.1,any_append,HB.2];simp[hnb]
    rw[hnb]at HC;clear hnb;go_wp2_with fail;refine(HC.out _ (HX.2 _ (a0.out _))).mono ?_;rintro e w1 ⟨rfl,a1⟩;have a3:=qH1 (HB.1.trans (((a0.out _).trans (a1.mono (a0.out _).size)).mono HB.1.size));clear a1;go_wp2_with fail;refine⟨⟨k+1,qo,by go_num,a3.out,HN.out⟩,?_⟩;go_light;simp[intOf];omega
   |true=>
    have HN:Hid (nulA os=true):=by show _=_;rw[yNv,any_eq_true];exact⟨t,mem_of_getElem? HX.1,hnb⟩
    rw[hnb]at HC;clear hnb;go_wp2_with fail;refine(HC.out _ (HX.2 _ (a0.out _))).mono ?_;rintro e w1 ⟨rfl,a1⟩;have a3:=qH1 (HB.1.trans (((a0.out _).trans (a1.mono (a0.out _).size)).mono HB.1.size));clear a1;go_wp2_with fail;go_ret;exact⟨by rw[HN.out];rfl,a3.out⟩
  .obtain rfl:k=n:=qo
   have zk:¬(k:Int)<(k:Int):=qo
   go_wp2_with fail;go_ret;refine⟨?_,HB.1⟩;have:=HB.2;rw[HH.1,take_length]at this;rw[yNv,this];rfl
theorem yNu:∀(n:Nat) {w:World} {lo:Nat->Prop} {t:Pat} {v:Value},yDl n w lo t v->wtP t<=500->NulV w t v
 |0,_,_,_,_,h,_=>h.elim
 |n+1,w,lo,.byte b,v,h,_=>by rw[show v=yRd b from h];exact xBn w b
 |n+1,w,lo,.cls f,v,h,_=>by rw[show v=clsV f from h];exact xE3 w f
 |n+1,w,lo,.rep t o r,v,⟨u,h1,h2⟩,hw=>by rw[h1];exact xE2 (yNu n h2 (by simpa only[wtP]using hw)) o r
 |n+1,w,lo,.alt os,v,⟨u,h1,h2⟩,hw=>by
  obtain⟨a,m,c,rfl,HC⟩:=xE4 (h2.mono (M:=λt v=>wtP t<=500->NulV w t v) (λt v q=>yNu n q) (λ_ _ q=>q)) (by simp only[wtP]at hw;omega)
  exact⟨_,_,_,h1,.inr (.inr (.inr ⟨rfl,rfl⟩)),λw' hw=>by have:=HC.out w' hw;simpa only[nulB]using this⟩
section
theorem yU8:∀(ts:List Pat) (t:Pat) (em:Bool) (g:Lay),lyS (ts++ [t]) em g=(lyS ts em g).seq (em && nulS ts) (nulB t) (lyP t (lyS ts em g).nx)
 | [],t,em,g=>by simp[lyS,nulS]
 |s::ts,t,em,g=>by simp only[cons_append,lyS,yU8 ts t,nulS,Bool.and_assoc]
theorem yYz (ts:List Pat) (t:Pat):nulS (ts++ [t])=(nulS ts && nulB t):=by rw[yGx,yGx,all_append];simp
theorem yRp:∀(l m:List Pat),wtS (l++m)=wtS l+wtS m
 | [],m=>by simp[wtS]
 |t::l,m=>by simp only[cons_append,wtS,yRp l m];omega
structure SqB (w X:World) (nt:Nat) (uv:Value) (base M:Nat) (T:Nat->PS) (G cp a:Nat) (E:Nat->PS) (en:PS) (mp:Nat) (F L:PS) (G0:Nat):Prop where
 mtr:MtrI X base M T G cp a E en mp
 node:yA X w nt 1 w [uv]
 ans:yA X w 343 8 (w+1) zsA.toList
 sofar:yA X w 343 8 (w+1+1) (spL F L)
 chg:Chg (λk=>k=M∨k=G0) w X
 at_:G=G0∨w.heap.size<=G
section
variable {w X X':World} {nt:Nat} {uv:Value} {base M:Nat} {T:Nat->PS} {G cp a:Nat} {E:Nat->PS} {en:PS} {mp:Nat} {F L:PS} {G0:Nat}
theorem SqB.below (h:SqB w X nt uv base M T G cp a E en mp F L G0) (hb:Below X X X'):SqB w X' nt uv base M T G cp a E en mp F L G0:=
 ⟨h.mtr.below hb,h.node.below hb,h.ans.below hb,h.sofar.below hb,h.chg.trans (Chg.of_below hb),h.at_⟩
theorem SqB.gs (h:SqB w X nt uv base M T G cp a E en mp F L G0) (hnt:nt≠328):¬G=w.heap.size/\¬G=w.heap.size+1/\¬G=w.heap.size+1+1:=
 ⟨λq=>yAb h.mtr.row h.node (λe=>hnt e.symm) G rfl (by rw[q];rfl),λq=>yAb h.mtr.row h.ans qj G rfl (by rw[q];rfl),λq=>yAb h.mtr.row h.sofar qj G rfl (by rw[q];rfl)⟩
theorem SqB.laid (h:SqB w X nt uv base M T G cp a E en mp F L G0) (hnt:nt≠328) (hM:M<w.heap.size) {l:Lay} {G1 cp1:Nat} (hm:MtrI X' base M (yCp T l) G1 cp1 l.nx (yBo E l) en mp) (hc:Chg (λk=>k=M∨k=G) X X') (ha:G1=G∨X.heap.size<=G1):SqB w X' nt uv base M (yCp T l) G1 cp1 l.nx (yBo E l) en mp F L G0:=by
 obtain⟨g1,g2,g3⟩:=h.gs hnt;refine⟨hm,h.node.chg hc qo,h.ans.chg hc qo,h.sofar.chg hc qo,?_,?_⟩
 .refine⟨hc.os.trans h.chg.os,hc.tape.trans h.chg.tape,hc.output.trans h.chg.output,Nat.le_trans h.chg.size hc.size,λj hj hn=>(hc.block j (Nat.lt_of_lt_of_le hj h.chg.size) (λq=>?_)).trans (h.chg.block j hj hn)⟩;rcases q with q|q
  .exact hn (.inl q)
  .rcases h.at_ with z|z
   .exact hn (.inr qo)
   .omega
 .have:=h.chg.size;rcases ha with q|q
  .rw[q];exact h.at_
  .exact .inr qo
theorem SqB.conn (h:SqB w X nt uv base M T G cp a E en mp F L G0) (hnt:nt≠328) {E':Nat->PS} (hm:MtrI X' base M T G cp a E' en mp) (hc:Chg (λk=>k=G) X X'):SqB w X' nt uv base M T G cp a E' en mp F L G0:=by
 obtain⟨g1,g2,g3⟩:=h.gs hnt;refine⟨hm,h.node.chg hc qo,h.ans.chg hc qo,h.sofar.chg hc qo,?_,h.at_⟩;refine⟨hc.os.trans h.chg.os,hc.tape.trans h.chg.tape,hc.output.trans h.chg.output,Nat.le_trans h.chg.size hc.size,λj hj hn=>(hc.block j (Nat.lt_of_lt_of_le hj h.chg.size) (λq=>?_)).trans (h.chg.block j hj hn)⟩;rcases h.at_ with z|z
 .exact hn (.inr qo)
 .omega
theorem SqB.set (h:SqB w X nt uv base M T G cp a E en mp F L G0) (hM:M<w.heap.size) (hnt:nt≠328) {o:Nat} S {F' L':PS} (he:yV3 (spL F L) o S=spL F' L') (hlow:base<=w.heap.size):SqB w (set4 X (w+1+1) o S) nt uv base M T G cp a E en mp F' L' G0:=by obtain⟨g1,g2,g3⟩:=h.gs hnt;have hc:Chg (λk=>k=w.heap.size+1+1) X (set4 X (w+1+1) o S):=yBa X _ _ _ rfl;refine⟨h.mtr.chg hc qo g3 (λk q=>qo),h.node.chg hc (by omega),h.ans.chg hc (by omega),?_,yZ4 h.chg (hc.mono (λk q=>by omega)),h.at_⟩;have h1:=yFo h.sofar o S;rw[he]at h1;exact h1
end
theorem yPh F L S:yV3 (spL F L) 0 S=spL S L:=rfl
theorem yNf F L S:yV3 (spL F L) 4 S=spL F S:=rfl
def LqC (base:Nat) (w0:World) (ts:List Pat) (u:Value):Prop:=∃(sa:Option Addr) (sn sc:Nat),u=.slice sa sn sc/\∀(M:Nat) (T:Nat->PS) (G cp a:Nat) (E:Nat->PS) (en:PS) (mp:Nat) (w:World),MtrI w base M T G cp a E en mp->Below base w0 w->a+wtS ts<=256->
 Calls prog 252 #[xp M,.agg #[.slice sa sn sc]] w (LayR base M T G E en mp (lyS ts true (Lay.no a)) w)
def SqI (w X:World) (uv:Value) (base M:Nat) (T:Nat->PS) (G cp:Nat) (E:Nat->PS) (en:PS) (mp:Nat) (g:Lay) (G0:Nat):Prop:=SqB w X 316 uv base M (yCp T g) G cp g.nx (yBo E g) en mp g.fst g.lst G0
theorem yNb {w W0 base M T G cp a E en mp v t} (h:MtrI w base M T G cp a E en mp) (hW0:W0=((w.alloc (.cells #[v] t)).alloc (.cells zsA 343)).alloc (.cells zsA 343)):SqB w W0 t v base M (yCp T (Lay.no a)) G cp a (yBo E (Lay.no a)) en mp (Lay.no a).fst (Lay.no a).lst G:=by
 obtain⟨b1,b2,b3,k0⟩:=box3 hW0;have hz:spL (Lay.no a).fst (Lay.no a).lst=zsA.toList:=by show spL sNo sNo=_;simp only[spL,yF2];rfl
 exact⟨(h.below k0).iff (λb p _ _=>by simp[yCp,Lay.no]) (λq p _ _=>by simp[yBo,Lay.no]) (λp hp q=>by have:=h.new p hp q;simp[yBo,Lay.no,this]),b1,b2,by rw[hz];exact b3,Chg.of_below k0,.inl rfl⟩
theorem yWo (base:Nat) (w0:World):LqC base w0 [] xh:=by
 refine⟨none,0,0,rfl,λM T G cp a E en mp w h hw0 hwt=>?_⟩;obtain⟨W0,a1⟩:=qE (xw ((w.alloc (.cells #[xh] 316)).alloc (.cells zsA 343)) zsA 343:World);have a4:=h.ltM;have a3:=Nat.le_of_lt (Nat.lt_of_le_of_lt h.ltM.1 h.ltM.2);have a5:=qH1 h.ltG.1;have a2:=qH1 (yNb h a1)
 clear h;go_enter func252,ntmps252;go_wp2_with fail;have a0:=a1;simp only[zsA]at a0;rw[<-a0];clear a1 a0;go_loopw[14] (λiv wr=>iv=(xi 0)/\wr=W0) (λ_ _=>0);case atStart=>exact⟨rfl,rfl⟩
 case round=>
  obtain⟨rfl,rfl⟩:=hrel;have HJ:=a2;obtain⟨s0,s1,s2,s3,s4,s5,s6,s7⟩:=HJ.sofar.c8;obtain⟨r0,r1,r2,r3,r4,r5,r6,r7⟩:=HJ.ans.c8;obtain⟨f0,f1,f2,f3,f4,f5,f6,f7⟩:=HJ.ans.f8;have HF:Hid (LayR base M T G E en mp (lyS [] true (Lay.no a)) w (.returned (spV (lyS [] true (Lay.no a)).fst (lyS [] true (Lay.no a)).lst)) (setSp wr (w.heap.size+1) (lyS [] true (Lay.no a)).fst (lyS [] true (Lay.no a)).lst)/\yA (setSp wr (w.heap.size+1) (lyS [] true (Lay.no a)).fst (lyS [] true (Lay.no a)).lst) w.heap.size 343 8 (w.heap.size+1) (spL (lyS [] true (Lay.no a)).fst (lyS [] true (Lay.no a)).lst)):=by obtain⟨f1,f2,f3⟩:=yHl HJ.mtr HJ.ans HJ.chg (lyS [] true (Lay.no a)).fst (lyS [] true (Lay.no a)).lst;exact⟨⟨_,_,rfl,⟨f1,f3,HJ.at_⟩⟩,f2⟩
  go_wp2_with fail;exact bodyPost_ret (v:=spV (lyS [] true (Lay.no a)).fst (lyS [] true (Lay.no a)).lst) (yJd (base:=w.heap.size) (g:=w.heap.size+1) rfl HF.2) rfl HF.1
theorem xHf {w W v base M T G1 cp1 E en mp G} {gk l L:Lay} {em nt:Bool} (hL:L=gk.seq em nt l) (h8:SqB w W 316 v base M (yCp (yCp T gk) l) G1 cp1 l.nx (λp q=>yBo (yBo E gk) l p q || (gk.lst p && l.fst q)) en mp (gk.seq em nt l).fst (gk.seq em nt l).lst G):SqI w W v base M T G1 cp1 E en mp L G:=by
 subst hL;refine⟨h8.mtr.iff (λb p _ _=>by simp[yCp,Lay.seq,Bool.or_assoc]) (λq p _ _=>by simp[yBo,Lay.seq,Bool.or_assoc]) (λp hp q=>?_),h8.node,h8.ans,h8.sofar,h8.chg,h8.at_⟩;have:=h8.mtr.new p hp q;simpa [yBo,Lay.seq,Bool.or_assoc]using this
variable {p:Prop}
theorem zNw (h:p:=by have HW8:=qH1 (xHf HNz.1 h8);clear h8;simp only[set4]at HW8;go_wp2_with fail;refine⟨⟨k+1,G1,cp1,by omega,by go_num,by rw[HNz.2]<;>rfl,HW8⟩,?_⟩;go_light;simp[intOf];omega):p:=h
theorem zNf (h:p:=by go_wp2_with fail;refine HCf.mono ?_;rintro e w6 ⟨rfl,hb6⟩;have HW6:=qH2 (HW4.1.below hb6) (HW4.2.below hb6);obtain⟨_,_,_,_,s4,s5,s6,s7⟩:=HW6.1.sofar.c8;obtain⟨_,_,_,_,f4,f5,f6,f7⟩:=HW6.1.sofar.f8;obtain⟨_,_,_,_,ee4,ee5,ee6,ee7⟩:=HW6.2.c8;have h8:=HW6.1.set hM0.2 (by decide) l.lst (yNf _ _ _) hlow;exact zNw):p:=h
theorem zNt (h:p:=by go_wp2_with fail;refine HCf.mono ?_;rintro e w6 ⟨rfl,hb6⟩;have HW6:=qH2 (HW4.1.below hb6) (HW4.2.below hb6);obtain⟨_,_,_,_,s4,s5,s6,s7⟩:=HW6.1.sofar.c8;obtain⟨_,_,_,_,f4,f5,f6,f7⟩:=HW6.1.sofar.f8;obtain⟨_,_,_,_,ee4,ee5,ee6,ee7⟩:=HW6.2.c8;go_wp2_with fail;refine(HUl.out _).mono ?_;rintro e w7 ⟨rfl,hb7⟩;clear s4 s5 s6 s7 f4 f5 f6 f7;have HB7:=HW6.1.sofar.below hb7;obtain⟨_,_,_,_,s4,s5,s6,s7⟩:=HB7.c8;obtain⟨_,_,_,_,f4,f5,f6,f7⟩:=HB7.f8;have h8:=(HW6.1.below hb7).set hM0.2 (by decide) (sOr gk.lst l.lst) (yNf _ _ _) hlow;clear HB7 hb7;exact zNw):p:=h
theorem zNs (h:p:=by
 cases hnb:nulB t<;>rw[hnb]at HCe<;>have HNz:=qH1 (HNx.out _ hnb.symm)<;>have HCf:=qH1 HCe<;>clear hnb HCe<;>rcases hT with⟨rfl,rfl⟩|⟨rfl,rfl⟩|⟨rfl,rfl⟩|⟨rfl,rfl⟩
 iterate 4 exact zNf
 iterate 4 exact zNt):p:=h
variable {g0 cp0:Nat}
theorem yS2 {us:List Value} (hul:us.length=ts.length) (hV:yC8 w0 lo g0 us) (hlo:g0<base) (hN:∀(i:Nat) x t,us[i]?=some x->ts[i]?=some t->LyC base w0 t x/\NulV w0 t x) (hw5:base=w0.heap.size):LqC base w0 ts (xg g0 ts.length cp0):=by
 refine⟨_,_,_,rfl,λM T G cp a E en mp w h hw0 a4=>?_⟩;obtain⟨n,hn⟩:=qE ts.length;have aD:n<=256:=by have:=yRo ts;omega
 rw[<-hn];obtain⟨W0,aj⟩:=qE (xw ((w.alloc (.cells #[xg g0 n cp0] 316)).alloc (.cells zsA 343)) zsA 343:World);have hM0:=h.ltM;have hlow:=Nat.le_of_lt (Nat.lt_of_le_of_lt h.ltM.1 h.ltM.2);have av:=qH1 h.ltG.1;have aq:=qH1 (yNb h aj)
 have HH:=qH7 hn (by rw[hn];exact hul:us.length=n) hV hw0 hN a4 hw5;clear h hul hV hN hw0 hn a4 hw5;go_enter func252,ntmps252;go_wp2_with fail;have ai:=aj;simp only[zsA]at ai;rw[<-ai];clear aj ai;go_loopw[6,14] (λev iv wr=>∃(k Gk ck:Nat),k<=n/\iv=(xi k)/\ev=(nulS (ts.take k))/\Hid (SqI w wr (xg g0 n cp0) base M T Gk ck E en mp (lyS (ts.take k) true (Lay.no a)) G)) (λ_ iv _=>n-(intOf iv).toNat);case atStart=>exact⟨0,G,cp,zero_le _,rfl,rfl,aq.out⟩
 case round=>
  clear aq;obtain⟨k,Gk,ck,hk,rfl,rfl,HJ⟩:=hrel;by_cases hlt:k<n
  .have zk:(k:Int)<(n:Int):=qo
   obtain⟨x,hx⟩:∃x,us[k]?=some x:=qg (by rw[HH.2.1];exact hlt);obtain⟨t,ht⟩:∃t,ts[k]?=some t:=qg (by rw[<-HH.1];exact hlt);obtain⟨au,X,c,f,rfl,hT,HC⟩:=HH.2.2.2.2.1 k x t hx ht;have a5:=Chg.below HH.2.2.2.1 HJ.chg hlow (λj q=>by rcases q with q|q;omega;have:=av.out;omega);have c0:(xk wr g0 k (.iface X (.agg c)):Prop):=by rw[a5.cell (p:=(xd g0 k)) hlo];exact HH.2.2.1.val k _ hx
   obtain⟨gk,a3⟩:=qE (lyS (ts.take k) true (Lay.no a));obtain⟨l,hl⟩:=qE (lyP t gk.nx);obtain⟨em,af⟩:=qE (nulS (ts.take k));have ae:ts.take (k+1)=ts.take k++ [t]:=by rw[take_add_one,ht];rfl
   have ax:wtS (ts.take k)+wtP t<=wtS ts:=by have h1:ts=ts.take (k+1)++ts.drop (k+1):=(take_append_drop _ _).symm;have h2:=congrArg wtS h1;rw[yRp,ae,yRp]at h2;simp only[wtS]at h2;omega
   have az:gk.nx<=a+wtS (ts.take k):=by rw[a3];have:=nx_S (ts.take k) true (Lay.no a);simpa [Lay.no]using this
   have a4:=HH.2.2.2.2.2.1;have am:Spt a gk:=by rw[a3];exact(xFo (ts.take k) a (Lay.no a) (λx=>x= []) true (yZ1 a)).spt
   have al:Spt gk.nx l:=by rw[hl];exact(yQ7 t gk.nx).spt
   have an:l.nx<=256:=by have:=nx_P t gk.nx;rw[hl];omega
   rw[<-a3]at HJ;have HNx:Hid (∀nt,nt=nulB t->lyS (ts.take (k+1)) true (Lay.no a)=gk.seq em nt l/\nulS (ts.take (k+1))=(em && nt)):=λnt hnt=>by rw[ae,yU8,yYz,<-a3,<-af,<-hl,hnt];exact⟨by simp,rfl⟩
   have HL:Hid (Calls prog 237 #[xp M,.iface X (.agg c)] wr (LayR base M (yCp T gk) Gk (yBo E gk) en mp l wr)):=by rw[hl];exact au M (yCp T gk) Gk ck gk.nx (yBo E gk) en mp wr HJ.mtr a5 qo
   have ad:=qH4 am al an (λwx hq=>by rw[<-HH.2.2.2.2.2.2];exact hq:(∀wx,Below base w0 wx->Below w0 w0 wx));have aE:=qH1 a5;rw[<-af];clear hx ht au a5 a3 hl af ae ax az a4 am al an;go_wp2_with fail;refine HL.mono ?_;rintro e w1 ⟨G1,cp1,rfl,H1⟩;clear c0 HL;obtain⟨W2,a7⟩:=qE (xw w1 (spL l.fst l.lst).toArray 343:World);have k2:=qN a7
   have a8:=HJ.laid qj hM0.2 H1.1 H1.2.1 H1.2.2;have ay:=a8.chg.size;have a0:=qH2 (a8.below k2) (by rw[a7];exact yAa w1 _ ay rfl:yA W2 w 343 8 w1.heap.size (spL l.fst l.lst));have aC:=a8.sofar.lt.2;obtain⟨s0,s1,s2,s3,s4,s5,s6,s7⟩:=a0.1.sofar.c8;obtain⟨ac,ab,aa,a9,ee4,ee5,ee6,ee7⟩:=a0.2.c8;have aw:=qH1 (yIh gk.lst l.fst W2 a0.1.mtr (λp hp=>by have h1:=(ad.1.lst p hp).2;have h2:=ad.2.1.le;omega) ad.2.2.1);clear a8 k2 H1;go_upto_region 7 with fail;have ah:=a7;simp only[spL]at ah;rw[<-ah];clear a7 ah;go_wp2_with fail;refine aw.mono ?_;rintro e w3 ⟨⟨v,rfl⟩,H3⟩;have aA:¬G1=w1.heap.size:=λq=>yAb a0.1.mtr.row a0.2 qj G1 rfl (by rw[q];rfl);have a2:=qH2 (a0.1.conn qj H3.1 H3.2) (a0.2.chg H3.2 (λq=>aA q.symm));clear H3 aw a0;clear s0 s1 s2 s3 s4 s5 s6 s7 ac ab aa a9 ee4 ee5 ee6 ee7;obtain⟨s0,s1,s2,s3,s4,s5,s6,s7⟩:=a2.1.sofar.c8;obtain⟨f0,f1,f2,f3,f4,f5,f6,f7⟩:=a2.1.sofar.f8;obtain⟨ac,ab,aa,a9,ee4,ee5,ee6,ee7⟩:=a2.2.c8;have aB:Hid (∀wx:World,Calls prog 247 #[psV gk.fst,psV l.fst] wx λe w'=>e=.returned (psV (sOr gk.fst l.fst))/\Below wx wx w'):=λwx=>yDa gk.fst l.fst wx;have HUl:Hid (∀wx:World,Calls prog 247 #[psV gk.lst,psV l.lst] wx λe w'=>e=.returned (psV (sOr gk.lst l.lst))/\Below wx wx w'):=λwx=>yDa gk.lst l.lst wx;have ar:Hid (∀wx,Chg (λk=>k=M∨k=G) w wx->Below w0.heap.size w0 wx):=λwx hq=>ad.2.2.2 wx (Chg.below HH.2.2.2.1 hq hlow (λj q=>by rcases q with q|q;omega;have:=av.out;omega));cases em with
   |true=>
    go_wp2_with fail;refine(aB.out _).mono ?_;rintro e w4 ⟨rfl,a6⟩;have HW4:Hid (SqB w (set4 w4 (w.heap.size+1+1) 0 (sOr gk.fst l.fst)) 316 (.slice (some ⟨g0,0,none⟩) n cp0) base M (yCp (yCp T gk) l) G1 cp1 l.nx (λp q=>yBo (yBo E gk) l p q || (gk.lst p && l.fst q)) en mp (sOr gk.fst l.fst) gk.lst G/\yA (set4 w4 (w.heap.size+1+1) 0 (sOr gk.fst l.fst)) w.heap.size 343 8 w1.heap.size (spL l.fst l.lst)):=⟨(a2.1.below a6).set hM0.2 qj _ (yPh _ _ _) hlow,(a2.2.below a6).chg (yBa (S:=λj=>j=w.heap.size+1+1) w4 _ _ _ rfl) qo⟩;have ak:=a2.1.sofar.below a6;clear s0 s1 s2 s3 s4 s5 s6 s7 f0 f1 f2 f3 f4 f5 f6 f7 ac ab aa a9 ee4 ee5 ee6 ee7;obtain⟨s0,s1,s2,s3,s4,s5,s6,s7⟩:=ak.c8;obtain⟨f0,f1,f2,f3,f4,f5,f6,f7⟩:=ak.f8;clear ak a6;go_upto_region 10 with fail;obtain⟨W5,a1⟩:=qE (set4 w4 (w.heap.size+1+1) 0 (sOr gk.fst l.fst):World);have ag:=a1;simp only[set4,Nat.zero_add]at ag;rw[<-ag];rw[<-a1]at HW4;clear a1 ag;clear s0 s1 s2 s3 s4 s5 s6 s7 f0 f1 f2 f3 f4 f5 f6 f7;have HCe:=HC.out W5 (ar.out W5 HW4.1.chg);exact zNs
   |false=>
    go_upto_region 10 with fail;obtain⟨W5,a1⟩:=qE (w3:World);have HW4:=a2;rw[<-a1]at HW4;rw[<-a1];clear s0 s1 s2 s3 s4 s5 s6 s7 f0 f1 f2 f3 f4 f5 f6 f7 ac ab aa a9 ee4 ee5 ee6 ee7;clear a1;have HCe:=HC.out W5 (ar.out W5 HW4.1.chg);exact zNs
  .obtain rfl:k=n:=qo
   have zk:¬(k:Int)<(k:Int):=qo
   have ao:ts.take k=ts:=by rw[HH.1,take_length]
   rw[ao]at HJ;clear ao;obtain⟨s0,s1,s2,s3,s4,s5,s6,s7⟩:=HJ.sofar.c8;obtain⟨r0,r1,r2,r3,r4,r5,r6,r7⟩:=HJ.ans.c8;obtain⟨f0,f1,f2,f3,f4,f5,f6,f7⟩:=HJ.ans.f8;have HF:Hid (LayR base M T G E en mp (lyS ts true (Lay.no a)) w (.returned (spV (lyS ts true (Lay.no a)).fst (lyS ts true (Lay.no a)).lst)) (setSp wr (w.heap.size+1) (lyS ts true (Lay.no a)).fst (lyS ts true (Lay.no a)).lst)/\yA (setSp wr (w.heap.size+1) (lyS ts true (Lay.no a)).fst (lyS ts true (Lay.no a)).lst) w.heap.size 343 8 (w.heap.size+1) (spL (lyS ts true (Lay.no a)).fst (lyS ts true (Lay.no a)).lst)):=by obtain⟨f1,f2,f3⟩:=yHl HJ.mtr HJ.ans HJ.chg (lyS ts true (Lay.no a)).fst (lyS ts true (Lay.no a)).lst;exact⟨⟨_,_,rfl,⟨f1,f3,HJ.at_⟩⟩,f2⟩
   go_wp2_with fail;exact bodyPost_ret (v:=spV (lyS ts true (Lay.no a)).fst (lyS ts true (Lay.no a)).lst) (yJd (base:=w.heap.size) (g:=w.heap.size+1) rfl HF.2) rfl HF.1
end
theorem yU9:∀(os:List (List Pat)) (ts:List Pat) (g:Lay),lyA (os++ [ts]) g=(lyA os g).alt (lyS ts true (Lay.no (lyA os g).nx))
 | [],ts,g=>by simp[lyA]
 |o::os,ts,g=>by simp only[cons_append,lyA,yU9 os ts]
theorem yRs:∀(l m:List (List Pat)),wtA (l++m)=wtA l+wtA m
 | [],m=>by simp[wtA]
 |t::l,m=>by simp only[cons_append,wtA,yRs l m];omega
theorem ySz (h:LqC base w0 ts u):∃(sa:Option Addr) (sn sc:Nat),u=.slice sa sn sc/\∀(M:Nat) (T:Nat->PS) (G cp a:Nat) (E:Nat->PS) (en:PS) (mp:Nat) (w:World),MtrI w base M T G cp a E en mp->Below base w0 w->a+wtS ts<=256->
 Calls prog 237 #[xp M,.iface 316 (.agg #[.slice sa sn sc])] w (LayR base M T G E en mp (lyS ts true (Lay.no a)) w):=by
 obtain⟨sa,sn,sc,rfl,H⟩:=h;refine⟨sa,sn,sc,rfl,λM T G cp a E en mp w h hw0 hwt=>?_⟩;obtain⟨l,hl⟩:=qE (lyS ts true (Lay.no a));obtain⟨W0,a0⟩:=qW (xw (w.alloc (.cells zsA 343)) #[.slice sa sn sc] 316);have HW0:Hid (yA W0 w 343 8 w zsA.toList/\Below w w W0/\MtrI W0 base M T G cp a E en mp):=by
  have b1:=yAa w (base:=w.heap.size) (t:=343) (sz:=8) zsA qr rfl;have k0:Below w w W0:=by rw[a0];exact(qB).alloc (by simp) _
  refine⟨?_,k0,h.below k0⟩;rw[a0];exact b1.below (qB)
 have a6:=h.ltM;have a7:=h.ltG;have HL:Hid (Calls prog 252 #[xp M,.agg #[.slice sa sn sc]] W0 (LayR base M T G E en mp l W0)):=by rw[hl];exact H M T G cp a E en mp W0 HW0.2.2 (hw0.trans (HW0.2.1.mono qo)) hwt
 rw[<-hl];clear h H hl hw0;have a5:=asSB #[.slice sa sn sc];have a4:=asSC #[.slice sa sn sc];have a3:=asSR #[.slice sa sn sc];have a2:=asSS #[.slice sa sn sc];go_enter func237,ntmps237;go_wp2_with fail;have a1:=a0;simp only[zsA]at a1;rw[<-a1];clear a0 a1 a5 a4 a3 a2;refine HL.mono ?_;rintro e w5 ⟨G1,cp1,rfl,H1⟩;have q0:=HW0.2.1.size;have HB5:=HW0.1.chg H1.2.1 qo;obtain⟨r0,r1,r2,r3,r4,r5,r6,r7⟩:=HB5.c8;obtain⟨f0,f1,f2,f3,f4,f5,f6,f7⟩:=HB5.f8;exact xGw
def AlI (w X:World) (uv:Value) (base M:Nat) (T:Nat->PS) (G cp:Nat) (E:Nat->PS) (en:PS) (mp:Nat) (g:Lay) (G0:Nat):Prop:=SqB w X 304 uv base M (yCp T g) G cp g.nx (yBo E g) en mp g.fst g.lst G0
theorem yS3 {g0 cp0:Nat} {us:List Value} (hul:us.length=os.length) (hV:yC8 w0 lo g0 us) (hlo:g0<base) (hN:∀(i:Nat) x t,us[i]?=some x->os[i]?=some t->LqC base w0 t x) (M:Nat) (T:Nat->PS) (G cp a:Nat) (E:Nat->PS) en (mp:Nat) w (h:MtrI w base M T G cp a E en mp) (hw0:Below base w0 w) (hwt:a+wtA os<=256):
 Calls prog 253 #[xp M,.agg #[xg g0 os.length cp0]] w (LayR base M T G E en mp (lyA os (Lay.no a)) w):=by
 obtain⟨n,hn⟩:=qE os.length;have aH:n<=256:=qw (yRr os)
 rw[<-hn];obtain⟨W0,ae⟩:=qW (xw ((w.alloc (.cells #[xg g0 n cp0] 304)).alloc (.cells zsA 343)) zsA 343);have af:=h.ltM;have a7:=Nat.le_of_lt (Nat.lt_of_le_of_lt h.ltM.1 h.ltM.2);have aF:=qH1 h.ltG.1;have aw:=qH1 (yNb h ae)
 have HH:=qH6 hn (by rw[hn];exact hul:us.length=n) hV hw0 hN hwt;clear h hul hV hN hw0 hn hwt;go_enter func253,ntmps253;go_wp2_with fail;have ad:=ae;simp only[zsA]at ad;rw[<-ad];clear ae ad;go_loopw[13] (λiv wr=>∃(k Gk ck:Nat),k<=n/\iv=(xi k)/\Hid (AlI w wr (xg g0 n cp0) base M T Gk ck E en mp (lyA (os.take k) (Lay.no a)) G)) (λiv _=>n-(intOf iv).toNat);case atStart=>exact⟨0,G,cp,zero_le _,rfl,aw.out⟩
 case round=>
  clear aw;obtain⟨k,Gk,ck,hk,rfl,HJ⟩:=hrel;by_cases hlt:k<n
  .have zk:(k:Int)<(n:Int):=qo
   obtain⟨x,hx⟩:∃x,us[k]?=some x:=qg (by rw[HH.2.1];exact hlt);obtain⟨t,ht⟩:∃t,os[k]?=some t:=qg (by rw[<-HH.1];exact hlt);obtain⟨sa,sn,sc,rfl,ax⟩:=ySz (HH.2.2.2.2.1 k x t hx ht);have a8:=Chg.below HH.2.2.2.1 HJ.chg a7 (λj q=>by rcases q with q|q;omega;have:=aF.out;omega);have c0:(xk wr g0 k (.slice sa sn sc):Prop):=by rw[a8.cell (p:=(xd g0 k)) hlo];exact HH.2.2.1.val k _ hx
   obtain⟨gk,a2⟩:=qE (lyA (os.take k) (Lay.no a));obtain⟨l,hl⟩:=qE (lyS t true (Lay.no gk.nx));have a6:os.take (k+1)=os.take k++ [t]:=by rw[take_add_one,ht];rfl
   have az:wtA (os.take k)+wtS t<=wtA os:=by have h1:os=os.take (k+1)++os.drop (k+1):=(take_append_drop _ _).symm;have h2:=congrArg wtA h1;rw[yRs,a6,yRs]at h2;simp only[wtA]at h2;omega
   have aB:gk.nx<=a+wtA (os.take k):=by rw[a2];have:=nx_A (os.take k) (Lay.no a);simpa [Lay.no]using this
   have hwt:=HH.2.2.2.2.2;rw[<-a2]at HJ;have aE:Hid (lyA (os.take (k+1)) (Lay.no a)=gk.alt l):=by show _=_;rw[a6,yU9,<-a2,<-hl]
   have k0:∀o:Obj,Below wr wr (wr.alloc o):=λo=>qB;have ay:Hid (∀o:Obj,SqB w (wr.alloc o) 304 (xg g0 n cp0) base M (yCp T gk) Gk ck gk.nx (yBo E gk) en mp gk.fst gk.lst G):=λo=>SqB.below HJ.out (k0 o);have HL:Hid (∀o:Obj,Calls prog 237 #[xp M,.iface 316 (.agg #[.slice sa sn sc])] (wr.alloc o) (LayR base M (yCp T gk) Gk (yBo E gk) en mp l (wr.alloc o))):=λo=>by rw[hl];exact ax M (yCp T gk) Gk ck gk.nx (yBo E gk) en mp _ (ay.out o).mtr (a8.trans ((k0 o).mono (qw HJ.chg.size))) qo
   clear hx ht ax a8 a2 hl a6 az aB hwt k0;go_wp2_with fail;refine(HL.out _).mono ?_;rintro e w1 ⟨G1,ao,rfl,H1⟩;clear c0 HL;obtain⟨W2,a4⟩:=qW (xw w1 (spL l.fst l.lst).toArray 343);have k2:=qN a4
   have a5:=(ay.out _).laid qj af.2 H1.1 H1.2.1 H1.2.2;have aA:=a5.chg.size;have a1:=qH2 (a5.below k2) (by rw[a4];exact yAa w1 _ aA rfl:yA W2 w 343 8 w1 (spL l.fst l.lst));have aG:=a5.sofar.lt.2;obtain⟨s0,s1,s2,s3,s4,s5,s6,s7⟩:=a1.1.sofar.c8;obtain⟨f0,f1,f2,f3,f4,f5,f6,f7⟩:=a1.1.sofar.f8;obtain⟨an,am,al,ak,aj,ai,ah,ag⟩:=a1.2.c8;have aD:Hid (∀wx:World,(xf 247 #[psV gk.fst,psV l.fst] wx (psV (sOr gk.fst l.fst)):Prop)):=λwx=>yDa gk.fst l.fst wx;have aC:Hid (∀wx:World,(xf 247 #[psV gk.lst,psV l.lst] wx (psV (sOr gk.lst l.lst)):Prop)):=λwx=>yDa gk.lst l.lst wx;clear a5 k2 H1;go_upto_region 6 with fail;have ac:=a4;simp only[spL]at ac;rw[<-ac];clear a4 ac;go_wp2_with fail;refine(aD.out _).mono ?_;rintro e w4 ⟨rfl,a3⟩;have a0:Hid (SqB w (set4 w4 (w+1+1) 0 (sOr gk.fst l.fst)) 304 (xg g0 n cp0) base M (yCp (yCp T gk) l) G1 ao l.nx (yBo (yBo E gk) l) en mp (sOr gk.fst l.fst) gk.lst G/\yA (set4 w4 (w+1+1) 0 (sOr gk.fst l.fst)) w 343 8 w1 (spL l.fst l.lst)):=⟨(a1.1.below a3).set af.2 qj _ (yPh _ _ _) a7,(a1.2.below a3).chg (yBa (S:=λj=>j=w.heap.size+1+1) w4 _ _ _ rfl) qo⟩;have au:=a1.1.sofar.below a3;clear s0 s1 s2 s3 s4 s5 s6 s7 f0 f1 f2 f3 f4 f5 f6 f7 an am al ak aj ai ah ag;obtain⟨s0,s1,s2,s3,s4,s5,s6,s7⟩:=au.c8;obtain⟨f0,f1,f2,f3,f4,f5,f6,f7⟩:=au.f8;clear au a3;go_upto_region 7 with fail;obtain⟨W5,ab⟩:=qW (set4 w4 (w+1+1) 0 (sOr gk.fst l.fst));have aa:=ab;simp only[set4,Nat.zero_add]at aa;rw[<-aa];rw[<-ab]at a0;clear ab aa;clear s0 s1 s2 s3 s4 s5 s6 s7 f0 f1 f2 f3 f4 f5 f6 f7;obtain⟨s0,s1,s2,s3,s4,s5,s6,s7⟩:=a0.1.sofar.c8;obtain⟨f0,f1,f2,f3,f4,f5,f6,f7⟩:=a0.1.sofar.f8;obtain⟨an,am,al,ak,aj,ai,ah,ag⟩:=a0.2.c8;go_wp2_with fail;refine(aC.out _).mono ?_;rintro e w7 ⟨rfl,a9⟩;clear s0 s1 s2 s3 s4 s5 s6 s7 f0 f1 f2 f3 f4 f5 f6 f7 an am al ak aj ai ah ag;have ar:=a0.1.sofar.below a9;obtain⟨s0,s1,s2,s3,s4,s5,s6,s7⟩:=ar.c8;obtain⟨f0,f1,f2,f3,f4,f5,f6,f7⟩:=ar.f8;have aq:Hid (AlI w (set4 w7 (w+1+1) 4 (sOr gk.lst l.lst)) (xg g0 n cp0) base M T G1 ao E en mp (gk.alt l) G):=by have h8:=(a0.1.below a9).set af.2 qj (sOr gk.lst l.lst) (yNf _ _ _) a7;refine⟨h8.mtr.iff (λb p _ _=>by simp[yCp,Lay.alt,Bool.or_assoc]) (λq p _ _=>by simp[yBo,Lay.alt,Bool.or_assoc]) (λp hp q=>?_),h8.node,h8.ans,h8.sofar,h8.chg,h8.at_⟩;have:=h8.mtr.new p hp q;simpa [yBo,Lay.alt,Bool.or_assoc]using this
   rw[<-aE.out]at aq;simp only[set4]at aq;clear ar a9;go_wp2_with fail;refine⟨⟨k+1,G1,ao,qo,by go_num,aq⟩,?_⟩;go_light;simp[intOf];omega
  .obtain rfl:k=n:=qo
   have zk:¬(k:Int)<(k:Int):=qo
   have av:os.take k=os:=by rw[HH.1,take_length]
   rw[av]at HJ;clear av;obtain⟨s0,s1,s2,s3,s4,s5,s6,s7⟩:=HJ.sofar.c8;obtain⟨r0,r1,r2,r3,r4,r5,r6,r7⟩:=HJ.ans.c8;obtain⟨f0,f1,f2,f3,f4,f5,f6,f7⟩:=HJ.ans.f8;have HF:Hid (LayR base M T G E en mp (lyA os (Lay.no a)) w (.returned (spV (lyA os (Lay.no a)).fst (lyA os (Lay.no a)).lst)) (setSp wr (w+1) (lyA os (Lay.no a)).fst (lyA os (Lay.no a)).lst)/\yA (setSp wr (w+1) (lyA os (Lay.no a)).fst (lyA os (Lay.no a)).lst) w 343 8 (w+1) (spL (lyA os (Lay.no a)).fst (lyA os (Lay.no a)).lst)):=by obtain⟨f1,f2,f3⟩:=yHl HJ.mtr HJ.ans HJ.chg (lyA os (Lay.no a)).fst (lyA os (Lay.no a)).lst;exact⟨⟨_,_,rfl,⟨f1,f3,HJ.at_⟩⟩,f2⟩
   go_wp2;exact bodyPost_ret (v:=spV (lyA os (Lay.no a)).fst (lyA os (Lay.no a)).lst) (yS (base:=w.heap.size) (g:=w.heap.size+1) rfl HF.2) rfl HF.1
variable {n:Nat}
theorem yS0 {g0 cp0:Nat} (H:∀(M:Nat) (T:Nat->PS) (G cp a:Nat) (E:Nat->PS) (en:PS) (mp:Nat) (w:World),MtrI w base M T G cp a E en mp->Below base w0 w->a+wtA os<=256->
 Calls prog 253 #[xp M,.agg #[xg g0 n cp0]] w (LayR base M T G E en mp (lyA os (Lay.no a)) w)):LyC base w0 (.alt os) (.iface 304 (.agg #[xg g0 n cp0])):=by
 intro M T G cp a E en mp w h a2 a3;obtain⟨l,hl⟩:=qE (lyA os (Lay.no a));have hl2:lyP (.alt os) a=l:=by rw[hl];simp only[lyP]
 simp only[wtP]at a3;obtain⟨W0,a0⟩:=qW (xw (w.alloc (.cells zsA 343)) #[xg g0 n cp0] 304);have HW0:Hid (yA W0 w 343 8 w zsA.toList/\Below w w W0/\MtrI W0 base M T G cp a E en mp):=by
  have b1:=yAa w (base:=w.heap.size) (t:=343) (sz:=8) zsA qr rfl;have k0:Below w w W0:=by rw[a0];exact(qB).alloc (by simp) _
  refine⟨?_,k0,h.below k0⟩;rw[a0];exact b1.below (qB)
 have a9:=h.ltM;have aa:=h.ltG;have HL:Hid (Calls prog 253 #[xp M,.agg #[xg g0 n cp0]] W0 (LayR base M T G E en mp l W0)):=by rw[hl];exact H M T G cp a E en mp W0 HW0.2.2 (a2.trans (HW0.2.1.mono qo)) qo
 rw[hl2];clear h H hl hl2 a2;have a8:=asAB #[xg g0 n cp0];have a7:=asAC #[xg g0 n cp0];have a6:=asAR #[xg g0 n cp0];have a5:=asAS #[xg g0 n cp0];have a4:=asAA #[xg g0 n cp0];go_enter func237,ntmps237;go_wp2_with fail;have a1:=a0;simp only[zsA]at a1;rw[<-a1];clear a0 a1 a8 a7 a6 a5 a4;refine HL.mono ?_;rintro e w5 ⟨G1,cp1,rfl,H1⟩;have q0:=HW0.2.1.size;have HB5:=HW0.1.chg H1.2.1 qo;have r0:=HB5.cell (j:=0) rfl;have f0:=HB5.frozen 0;have r1:=HB5.cell (j:=1) rfl;have f1:=HB5.frozen 1;have r2:=HB5.cell (j:=2) rfl;have f2:=HB5.frozen 2;have r3:=HB5.cell (j:=3) rfl;have f3:=HB5.frozen 3;have r4:=HB5.cell (j:=4) rfl;have f4:=HB5.frozen 4;have r5:=HB5.cell (j:=5) rfl;have f5:=HB5.frozen 5;have r6:=HB5.cell (j:=6) rfl;have f6:=HB5.frozen 6;have r7:=HB5.cell (j:=7) rfl;have f7:=HB5.frozen 7;exact xGw
theorem xBx (hlo:∀k,lo k->k<base) (hw5:base=w0.heap.size) (h:yRk (λt v=>wtP t<=500->LyC base w0 t v/\NulV w0 t v) w0 lo ts u) (hwt:wtS ts<=500):LqC base w0 ts u:=by
 rcases h with⟨rfl,rfl⟩|⟨g,cp,us,rfl,a0,hV,hN⟩
 .exact yWo base w0
 .exact yS2 a0 hV (hlo g hV.blk) (λi x t hx ht=>hN i x t hx ht (Nat.le_trans (yRn (mem_of_getElem? ht)) hwt)) hw5
theorem yS1 (hlo:∀k,lo k->k<base) (hw5:base=w0.heap.size):∀(n:Nat) {t:Pat} {v:Value},yDl n w0 lo t v->wtP t<=500->LyC base w0 t v
 |0,_,_,h,_=>h.elim
 |n+1,.byte b,v,h,_=>by
  rw[show v=yRd b from h]
  intro M T G cp a E en mp w hm _ hwt
  simp only[wtP]at hwt
  exact xBy b w hm qo
 |n+1,.cls f,v,h,_=>by
  rw[show v=clsV f from h]
  intro M T G cp a E en mp w hm _ hwt
  simp only[wtP]at hwt
  exact xFh f w hm qo
 |n+1,.rep t o r,v,⟨u,h1,h2⟩,hw=>by
  rw[h1]
  exact xFg (yBt.iface ⟨n,h2⟩) (yS1 hlo hw5 n h2 (by simpa only[wtP]using hw)) o r
 |n+1,.alt os,v,⟨u,h1,⟨g,cp,us,h2,h3,h4,h5⟩⟩,hw=>by
  rw[h1,h2]
  simp only[wtP]at hw
  refine yS0 (λM T G cp' a E en mp w hm hw0 hwt=>yS3 h3 h4 (hlo g h4.blk) (λi x ts hx hts=>?_) M T G cp' a E en mp w hm hw0 hwt)
  exact xBx hlo hw5 ((h5 i x ts hx hts).mono (λt v q hq=>⟨yS1 hlo hw5 n q hq,yNu n q hq⟩) (λ_ _ q=>q)) (qw (yRq (mem_of_getElem? hts)))
def mtrZ (fv mv:Value):Array Value:=(Array.replicate 1024 (.int .u64 0))++#[fv,xu 0,xu 0,xu 0,xu 0,mv]
theorem yX (a:Option Addr) (n c:Nat) (m:Option Nat) (w:World):(Instr.build 338 #[(1,.slice a n c),(3,.map m)]).run prog w=.ok (.agg (mtrZ (.slice a n c) (.map m))) w:=qk
theorem yPw:∃F:Value->Value->Array Value,∀fv mv,F fv mv=mtrZ fv mv:=⟨_,λ_ _=>rfl⟩
noncomputable def mtrA (fv mv:Value):Array Value:=Classical.choose yPw fv mv
theorem ySq (fv mv:Value):mtrA fv mv=mtrZ fv mv:=Classical.choose_spec yPw fv mv
theorem yRf (a:Option Addr) (n c:Nat) (m:Option Nat) (w:World):(Instr.build 338 #[(1,.slice a n c),(3,.map m)]).run prog w=.ok (.agg (mtrA (.slice a n c) (.map m))) w:=by rw[ySq];exact yX a n c m w
theorem yPx (fv mv:Value):(mtrA fv mv).size=1030:=by rw[ySq];simp[mtrZ]
theorem yY2 (fv:Value) (mp:Nat):(mtrA fv (.map (some mp))).toList=rngV 1030 (mV (λ_=>sNo) fv sNo mp):=by
 rw[ySq];refine ext_getElem? (λi=>?_);by_cases hi:i<1030
 .rw[yDq hi];unfold mtrZ mV eV;rw[Array.toList_append,Array.toList_replicate];by_cases h1:i<1024
  .rw[getElem?_append_left (by simpa using h1),if_pos h1,yF2];rw[getElem?_replicate,if_pos h1];rfl
  .rw[getElem?_append_right (by simpa using h1),if_neg h1];simp only[length_replicate,yF2];rcases(by omega:i=1024∨i=1025∨i=1026∨i=1027∨i=1028∨i=1029)with rfl|rfl|rfl|rfl|rfl|rfl<;>rfl
 .rw[getElem?_eq_none (by simp[mtrZ];omega),getElem?_eq_none (by rw[yIw];omega)]
theorem xBr (w:World) (hT:TabD w) (u:Value):MtrI (xw (((w.alloc (.cells #[u] 304)).alloc (.cells z4 328)).alloc (.map #[] 0)) (mtrA (xg (w+1) 1 1) (.map (some (w+1+1)))) 338) w (w+1+1+1) (λ_=>sNo) (w+1) 1 1 (λ_=>sNo) sNo (w+1+1):=by
 obtain⟨W1,a2⟩:=qE (xw w #[u] 304:World);have k1:∀(x:World) (o:Obj),Below x x (x.alloc o):=λx o=>qB;have z1:=qS a2
 rw[<-a2];obtain⟨W2,a0⟩:=qE (xw W1 z4 328:World);have z2:W2.heap.size=w.heap.size+1+1:=by rw[a0];simp[z1]
 have r2:W2.ownsRow w 328 4 (xg (w+1) 1 1) 1 z4.toList:=by have:=World.ownsRow_lit W1 (base:=w.heap.size) (e:=328) (size:=4) z4 1 qo qj rfl;rw[z1]at this;rw[a0];exact this
 rw[<-a0];obtain⟨W3,a1⟩:=qE (W2.alloc (.map #[] 0):World);have z3:W3.heap.size=w.heap.size+1+1+1:=by rw[a1];simp[z2]
 rw[<-a1];have h3:Below W2 W2 W3:=by rw[a1];exact k1 _ _
 have b4:=yAa W3 (base:=w.heap.size) (t:=338) (sz:=1030) (mtrA (xg (w+1) 1 1) (.map (some (w+1+1)))) qo (yPx _ _);rw[yY2,z3]at b4;have hw:Below w w W1:=by rw[a2];exact k1 _ _
 have a3:Below W1 W1 W2:=by rw[a0];exact k1 _ _
 refine⟨b4,?_,λp _ q=>rfl,?_,hT.lt⟩
 .have r4:=yAh (yAh r2 (Chg.of_below h3 (S:=λ_=>False)) (λ_ _ q=>q)) (Chg.of_below (k1 W3 (.cells (mtrA (xg (w+1) 1 1) (.map (some (w+1+1)))) 338)) (S:=λ_=>False)) (λ_ _ q=>q);have e:rngV (4*1) (eV (λ_=>sNo))=z4.toList:=by have:=yZw (E:=λ_=>sNo) (a:=0) (λ_=>rfl);rw[<-this];rfl
  rw[e];exact r4
 .exact(((hT.chg (Chg.of_below hw (S:=λ_=>False)) (λq=>q)).chg (Chg.of_below a3 (S:=λ_=>False)) (λq=>q)).chg (Chg.of_below h3 (S:=λ_=>False)) (λq=>q)).chg (Chg.of_below (k1 W3 _) (S:=λ_=>False)) (λq=>q)
def mkE (l:Lay):Nat->PS:=λp q=>l.ed p q || (p==0 && l.fst q)
def mkT (l:Lay):Nat->PS:=λb p=>l.tk p (UInt8.ofNat b)
def mkN (l:Lay) (em:Bool):PS:=λp=>l.lst p || (em && p==0)
def MkR (os:List (List Pat)) (w:World) (e:Ending) (w':World):Prop:=∃M G cp mp,e=.returned (xp M)/\
 Hid (MtrI w' w M (mkT (lyA os (Lay.no 1))) G cp (lyA os (Lay.no 1)).nx (mkE (lyA os (Lay.no 1))) (mkN (lyA os (Lay.no 1)) (nulA os)) mp/\w'.heap[mp]?=some (.map #[] 0)/\w.heap.size<=mp/\Below w w w')
variable {cp:Nat}
theorem MtrI.ends4 {a:Nat} (h:MtrI w base M T G cp a E en mp):xk w M 1025 (xu (wdN en 0))/\xk w M 1026 (xu (wdN en 1))/\xk w M 1027 (xu (wdN en 2))/\xk w M 1028 (xu (wdN en 3))/\w.frozen? (xd M 1025)=false/\w.frozen? (xd M 1026)=false/\w.frozen? (xd M 1027)=false/\w.frozen? (xd M 1028)=false:=
 ⟨h.ends (j:=0) qo,h.ends (j:=1) qo,h.ends (j:=2) qo,h.ends (j:=3) qo,h.frzM _,h.frzM _,h.frzM _,h.frzM _⟩
variable {w':World}
theorem yGf {S:Nat->Prop} (h:w.heap[mp]?=some (.map #[] 0)) (hc:Chg S w w') (hn:¬S mp):w'.heap[mp]?=some (.map #[] 0):=(hc.block mp (Array.getElem?_eq_some_iff.1 h).1 hn).trans h
theorem xEm {e size g:Nat} {vs:List Value} (h:w.ownsRow base e size (xg g n cp) n vs) (hm:w.heap[mp]?=some (.map #[] 0)):¬mp=g:=λq=>by
 rcases h.2 with⟨h0,_⟩|⟨g',cap',cur,hv,_,hh,_⟩
 .cases h0
 .simp at hv
  rw[<-hv.1,<-q,hm]at hh
  cases hh
theorem xFb (w:World):(Instr.makeSlice 335 (xi 1) (xi 1)).run prog w=.ok (xg w 1 1) (xw w z4 328):=qk
theorem xFc (w:World):(Instr.makeMap 336 none).run prog w=.ok (.map (some w)) (w.alloc (.map #[] 0)):=qk
variable {rest:List Oper} {Q:Exit->Act->World->Prop}
theorem yIk {ops:Array Oper} {o:Oper} {a:Act} (w:World) (hgd:o.guard=none) x y (ho:o.op=.build 338 #[(1,x),(3,y)]) {b:Option Addr} {n c:Nat} {m:Option Nat} (hx:a.eval x=.slice b n c) (hy:a.eval y=.map m)
  (h:wpList prog ops Q rest (a.put o.dst (.agg (mtrA (.slice b n c) (.map m)))) w):wpList prog ops Q (o::rest) a w:=by
 refine wpList_plain hgd λK hK=>?_;have hb:=yRf b n c m w;unfold Oper.wp execOp;simp only[ho,Sem.run_bind,Sem.run_pure,Result.andThen_ok,map_toArray,map_cons,map_nil,hx,hy,hb];exact hK _ _ h
theorem yIq {d:Nat} (w:World) (hT:TabD w) (hlo:∀k,lo k->k<w.heap.size) (hA:yUd (yDl d w lo) w lo os u) (hwt:wtA os<=250):∃(sa:Option Addr) (sn sc:Nat),u=.slice sa sn sc/\Calls prog 221 #[.agg #[.slice sa sn sc]] w (MkR os w):=by
 have am:=hA;obtain⟨g,a1,us,rfl,h3,h4,h5⟩:=hA;refine⟨_,_,_,rfl,?_⟩;obtain⟨n,hn⟩:=qE os.length;have al:=yS1 hlo rfl (d+1) (t:=.alt os) ⟨_,rfl,am⟩ (by simp only[wtP];omega);obtain⟨T0,c0,f0,hv,ar,HC⟩:=yNu (d+1) (w:=w) (lo:=lo) (t:=.alt os) (v:=.iface 304 (.agg #[xg g os.length a1])) ⟨_,rfl,am⟩ (by simp only[wtP];omega);simp only[Value.iface.injEq,Value.agg.injEq]at hv;obtain⟨rfl,rfl⟩:=hv;have ay:f0=238:=by
  rcases ar with⟨q,_⟩|⟨q,_⟩|⟨q,_⟩|⟨_,q⟩
  .exact absurd q qj
  .exact absurd q qj
  .exact absurd q qj
  .exact q
 subst ay;rw[<-hn]at al HC⊢;obtain⟨l,hl⟩:=qE (lyA os (Lay.no 1));have hl2:lyP (.alt os) 1=l:=by rw[hl];simp only[lyP]
 obtain⟨em,ag⟩:=qE (nulA os);have aC:Hid (∀w',Below w w w'->Calls prog 238 #[.agg #[xg g n a1]] w' λe w''=>e=.returned em/\Below w' w' w''):=λw' hw=>by have:=HC.out w' hw;rw[ag];simpa only[nulB]using this
 obtain⟨W0,a5⟩:=qW (xw (((w.alloc (.cells #[.slice (some ⟨g,0,none⟩) n a1] 304)).alloc (.cells z4 328)).alloc (.map #[] 0)) (mtrA (.slice (some ⟨w.heap.size+1,0,none⟩) 1 1) (.map (some (w.heap.size+1+1)))) 338);have k0:Below w.heap.size w W0:=by rw[a5];exact(((qB).alloc (by simp) _).alloc (by simp;omega) _).alloc (by simp;omega) _
 have af:=xBr w hT (.slice (some ⟨g,0,none⟩) n a1);rw[<-a5]at af;have aq:W0.heap[w.heap.size+1+1]?=some (.map #[] 0):=by
  rw[a5];have z:(((w.alloc (.cells #[.slice (some ⟨g,0,none⟩) n a1] 304)).alloc (.cells z4 328))).heap.size=w.heap.size+1+1:=by simp
  rw[<-z];exact(Below.heap_alloc _ _ _ (by simp)).trans (World.alloc_heap_new _ _)
 have ae:yA W0 w 304 1 w [xg g n a1]:=by have k1:∀(x:World) (o:Obj),Below x x (x.alloc o):=λx o=>qB;have b1:=yAa w (base:=w.heap.size) (t:=304) (sz:=1) #[xg g n a1] qr rfl;rw[a5];exact((b1.below (k1 _ _)).below (k1 _ _)).below (k1 _ _)
 have HL:Hid (Calls prog 237 #[xp (w+1+1+1),.iface 304 (.agg #[xg g n a1])] W0 (LayR w (w+1+1+1) (λ_=>sNo) (w+1) (λ_=>sNo) sNo (w+1+1) l W0)):=by rw[<-hl2];exact al _ _ _ _ _ _ _ _ W0 af k0 (by simp only[wtP];omega)
 have ad:=qH3 aq ae k0;have ao:Spt 1 l:=by rw[<-hl2];exact(yQ7 (.alt os) 1).spt
 have a8:=qH3 ao hl ag;have az:=yRf (some ⟨w+1,0,none⟩) 1 1 (some (w+1+1));have b0:=ae.cell (j:=0) rfl;have au:=yPx (xg (w+1) 1 1) (.map (some (w+1+1)));clear am h3 h4 h5 al HC ar hl hl2 ag af aq ae k0 ao hlo hT hn;have ax:=xFb;have aw:=xFc;go_enter func221,ntmps221;go_upto_region 2 with(refine yIk _ rfl _ _ rfl rfl rfl ?_);rw[<-a5];clear a5 az au ax aw;go_wp2_with fail;refine HL.mono ?_;rintro e w1 ⟨G1,a6,rfl,H1⟩;obtain⟨W2,ac⟩:=qW (xw w1 (spL l.fst l.lst).toArray 343);have k2:=qN ac
 have a0:Hid (MtrI W2 w (w+1+1+1) (yCp (λ_=>sNo) l) G1 a6 l.nx (yBo (λ_=>sNo) l) sNo (w+1+1)/\yA W2 w 304 1 w [xg g n a1]/\yA W2 w 343 8 w1 (spL l.fst l.lst)/\W2.heap[w.heap.size+1+1]?=some (.map #[] 0)/\Below w w W2):=by have q1:=ad.2.2.size;have q2:=H1.2.1.size;have av:=ad.2.1.chg H1.2.1 qo;have a4:=yGf ad.1 H1.2.1 qo;have aA:=Chg.below ad.2.2 H1.2.1 q1 (λk q=>by omega);exact⟨H1.1.below k2,av.below k2,by rw[ac];exact yAa w1 _ qo rfl,yGf a4 (Chg.of_below k2 (S:=λ_=>False)) (λq=>q),aA.trans (k2.mono qo)⟩
 have aE:=a8.1.le;have aF:=a0.1.caps;have z0:(0:Int)<(l.nx:Int):=qo
 have aD:0<l.nx:=qo
 have c0:=a0.1.fol;obtain⟨g0,g1,g2,g3,g4,g5,g6,g7⟩:=a0.2.2.1.c8;obtain⟨e0,e1,e2,e3,y0,y1,y2,y3⟩:=a0.1.edge4 (p:=0) qo;simp only[Nat.zero_mul,Nat.zero_add]at e0 e1 e2 e3 y0 y1 y2 y3;clear b0 HL H1;go_upto_region 3 with fail;have ak:=ac;simp only[spL]at ak;rw[<-ak];clear ac ak k2;have an:=qH5 c0 g0 g1 g2 g3;refine yAf 7 (λwz=>xk wz (w+1+1+1) 1024 (xg G1 l.nx a6)/\xk wz w1 0 (xu (wdN l.fst 0))/\xk wz w1 1 (xu (wdN l.fst 1))/\xk wz w1 2 (xu (wdN l.fst 2))/\xk wz w1 3 (xu (wdN l.fst 3))) qk ?_;refine ja 0 an.out ?_;iterate 6 refine jb an.out ?_
 refine kL 7 ?_;refine qD ?_;obtain⟨W3,aj⟩:=qW ((set4 W2 G1 0 l.fst).drew);have aG:=a0.1.ltG.1;have a2:Hid (MtrI W3 w (w+1+1+1) (yCp (λ_=>sNo) l) G1 a6 l.nx (updE (yBo (λ_=>sNo) l) 0 l.fst) sNo (w+1+1)/\yA W3 w 304 1 w [xg g n a1]/\yA W3 w 343 8 w1 (spL l.fst l.lst)/\W3.heap[w.heap.size+1+1]?=some (.map #[] 0)/\Below w w W3):=by
  have kd:Below (set4 W2 G1 0 l.fst).heap.size (set4 W2 G1 0 l.fst) W3:=by rw[aj];exact(Below.refl _ _).drew
  have hc:=(yBa (S:=λk=>k=G1) W2 G1 0 l.fst rfl).trans (Chg.of_below kd);have hm:=a0.1.setE (p:=0) qo l.fst;simp only[Nat.mul_zero]at hm;have hm:=hm.below kd;have hb:∀{t sz g:Nat} {vs:List Value},t≠328->yA W2 w t sz g vs->yA W3 w t sz g vs:=λhne h=>h.chg hc (λq=>yAb a0.1.row h (λe=>hne e.symm) G1 rfl (by rw[<-q];rfl));have a4:=a0.2.2.2.1;exact⟨hm,hb qj a0.2.1,hb qj a0.2.2.1,yGf a4 hc (xEm a0.1.row a4),Chg.below a0.2.2.2.2 hc a0.2.2.2.2.size (λk q=>qo)⟩
 have ai:=aj;simp only[set4,Nat.zero_add]at ai;rw[<-ai];clear aj ai an c0 e0 e1 e2 e3 y0 y1 y2 y3 g0 g1 g2 g3 g4 g5 g6 g7;obtain⟨e0,e1,e2,e3,y0,y1,y2,y3⟩:=a2.1.ends4;have g4:=a2.2.2.1.cell (j:=4) rfl;have g5:=a2.2.2.1.cell (j:=5) rfl;have g6:=a2.2.2.1.cell (j:=6) rfl;have g7:=a2.2.2.1.cell (j:=7) rfl;go_upto_region 5 with fail;obtain⟨W4,ab⟩:=qW (set4 W3 (w+1+1+1) 1025 l.lst);have a7:Hid (MtrI W4 w (w+1+1+1) (mkT l) G1 a6 l.nx (mkE l) l.lst (w+1+1)/\yA W4 w 304 1 w [xg g n a1]/\W4.heap[w.heap.size+1+1]?=some (.map #[] 0)/\Below w w W4):=by
  have hc:Chg (λk=>k=(w+1+1+1)) W3 W4:=by rw[ab];exact yBa _ _ _ _ rfl
  have hm:=a2.1.setEn l.lst;rw[<-ab]at hm;refine⟨hm.iff (λb p _ _=>by simp[mkT,yCp,sNo]) (λq p _ _=>?_) (λp hp q=>?_),a2.2.1.chg hc qo,yGf a2.2.2.2.1 hc qo,Chg.below a2.2.2.2.2 hc a2.2.2.2.2.size (λk q=>qo)⟩
  .unfold mkE updE;by_cases h0:q=0
   .subst h0;have he:l.ed 0 p=false:=by
     cases hx:l.ed 0 p with
     |false=>rfl
     |true=>have:=(a8.1.ed 0 p hx).1.1;omega
    simp[he]
   .rw[if_neg h0];simp[yBo,sNo,h0]
  .have h0:¬p=0:=qo
   have:=hm.new p hp q;unfold updE at this;rw[if_neg h0]at this;simp[yBo,sNo]at this;simp[mkE,this,h0]
 have ah:=ab;simp only[set4,Nat.reduceAdd]at ah;rw[<-ah];clear ab ah e0 e1 e2 e3 y0 y1 y2 y3 g4 g5 g6 g7;have b0:=a7.2.1.cell (j:=0) rfl;go_wp2_with fail;refine(aC.out _ a7.2.2.2).mono ?_;rintro e w5 ⟨rfl,aa⟩;have a3:=qH3 (a7.1.below aa) (yGf a7.2.2.1 (Chg.of_below aa (S:=λ_=>False)) (λq=>q)) (a7.2.2.2.trans (aa.mono a7.2.2.2.size));clear aa b0;cases em with
 |false=>
  go_wp2;go_ret;refine⟨_,G1,a6,w+1+1,rfl,?_⟩;rw[<-a8.2.1,<-a8.2.2];exact⟨a3.1.iffEn (λp _=>by simp[mkN]),a3.2.1,qo,a3.2.2⟩
 |true=>
  obtain⟨e0,e1,e2,e3,y0,y1,y2,y3⟩:=a3.1.ends4;have aB:Hid (∀wx:World,(xf 233 #[psV l.lst,xi 0] wx (psV (sOr l.lst (sOne 0))):Prop)):=λwx=>yE1 l.lst 0 qo wx;go_wp2_with fail;refine(aB.out _).mono ?_;rintro e w6 ⟨rfl,a9⟩;have h6:=a3.1.below a9;clear e0 e1 e2 e3 y0 y1 y2 y3;obtain⟨e0,e1,e2,e3,y0,y1,y2,y3⟩:=h6.ends4;have HF:Hid (MkR os w (.returned (xp (w+1+1+1))) (set4 w6 (w+1+1+1) 1025 (sOr l.lst (sOne 0)))):=by have hc:Chg (λk=>k=(w+1+1+1)) w6 (set4 w6 (w+1+1+1) 1025 (sOr l.lst (sOne 0))):=yBa _ _ _ _ rfl;have hb:=a3.2.2.trans (a9.mono a3.2.2.size);have a4:=yGf a3.2.1 (Chg.of_below a9 (S:=λ_=>False)) (λq=>q);refine⟨_,G1,a6,w+1+1,rfl,?_⟩;rw[<-a8.2.1,<-a8.2.2];exact⟨(h6.setEn _).iffEn (λp _=>by simp[mkN,sOr,sOne]),yGf a4 hc qo,qo,Chg.below hb hc hb.size (λk q=>qo)⟩
  simp only[set4,Nat.reduceAdd]at HF;clear h6 a9;go_wp2;go_ret;exact HF.out
def stp (E T:Nat->PS) (S:PS) (c:UInt8):PS:=sAnd (ahd E S) (T c.toNat)
def runS (E T:Nat->PS):PS->List UInt8->PS
 |S,[]=>S
 |S,c::xs=>runS E T (stp E T S c) xs
theorem yPk (E T:Nat->PS):∀(S:PS) (xs:List UInt8) (c:UInt8),runS E T S (xs++ [c])=stp E T (runS E T S xs) c
 |S,[],c=>rfl
 |S,x::xs,c=>yPk E T (stp E T S x) xs c
theorem xAd (E:Nat->PS) S (q:Nat):ahd E S q=true↔∃p,p<256/\S p=true/\E p q=true:=by
 unfold ahd ahdT;rw[any_eq_true];constructor
 .rintro⟨p,hp,hx⟩;rw[Bool.and_eq_true]at hx;exact⟨p,mem_range.1 hp,hx.1,hx.2⟩
 .rintro⟨p,hp,h1,h2⟩;exact⟨p,mem_range.2 hp,by rw[h1,h2];rfl⟩
theorem yJ (l:Lay) S (c:UInt8) (q:Nat):stp (mkE l) (mkT l) S c q=true↔(∃p,p<256/\S p=true/\mkE l p q=true)/\l.tk q c=true:=by
 unfold stp sAnd;rw[Bool.and_eq_true,xAd];have:mkT l c.toNat q=l.tk q c:=by unfold mkT;congr 1;simp
 rw[this]
theorem yNk (l:Lay) {a:Nat} (hs:Spt a l) (ha:1<=a) (hn:l.nx<=256):∀(xs:List UInt8) (S:PS),(∀p,S p=true->1<=p/\p<256)->∀q,runS (mkE l) (mkT l) S xs q=true↔∃p,S p=true/\Pth l p xs q
 | [],S,hS,q=>by
   constructor
   .exact λh=>⟨q,h,.nil q⟩
   .rintro⟨p,hp,h⟩;cases h;exact hp
 |c::xs,S,hS,q=>by
  have hS':∀p,stp (mkE l) (mkT l) S c p=true->1<=p/\p<256:=λp hp=>by
   have:=hs.tk p c ((yJ l S c p).1 hp).2
   omega
  show runS (mkE l) (mkT l) (stp (mkE l) (mkT l) S c) xs q=true↔_
  rw[yNk l hs ha hn xs _ hS' q]
  constructor
  .rintro⟨p',hp',hP⟩
   obtain⟨⟨p,_,hp,he⟩,ht⟩:=(yJ l S c p').1 hp'
   have h1:=(hS p hp).1
   have he':l.ed p p'=true:=by
    unfold mkE at he;have:(p==0)=false:=by rw[beq_eq_false_iff_ne];omega
    simpa [this]using he
   exact⟨p,hp,.step he' ht hP⟩
  .rintro⟨p,hp,hP⟩;cases hP with
   |step he ht hP=>
    refine⟨_,(yJ l S c _).2 ⟨⟨p,(hS p hp).2,hp,?_⟩,ht⟩,hP⟩;unfold mkE;rw[he];rfl
theorem xEi (l:Lay) (hs:Spt 1 l) (hn:l.nx<=256) (em:Bool) (xs:List UInt8):acc (mkN l em) (runS (mkE l) (mkT l) (sOne 0) xs)=true↔(xs= []/\em=true)∨Wd l xs:=by
 have a2:∀S:PS,acc (mkN l em) S=true↔∃p,p<256/\S p=true/\mkN l em p=true:=λS=>by
  unfold acc;rw[any_eq_true];constructor
  .rintro⟨p,hp,hx⟩;rw[Bool.and_eq_true]at hx;exact⟨p,mem_range.1 hp,hx.1,hx.2⟩
  .rintro⟨p,hp,h1,h2⟩;exact⟨p,mem_range.2 hp,by rw[h1,h2];rfl⟩
 rw[a2];cases xs with
 |nil=>
  constructor
  .rintro⟨p,_,hp,hN⟩;have h0:p=0:=by simpa [runS,sOne]using hp
   subst h0;unfold mkN at hN;have hl:l.lst 0=false:=by
    cases hx:l.lst 0 with
    |false=>rfl
    |true=>have:=(hs.lst 0 hx).1;omega
   rw[hl]at hN;exact .inl ⟨rfl,by simpa using hN⟩
  .rintro(⟨_,h⟩|h)
   .exact⟨0,qo,rfl,by simp[mkN,h]⟩
   .exact(xHb h).elim
 |cons c xs=>
  have a1:∀p,stp (mkE l) (mkT l) (sOne 0) c p=true->1<=p/\p<256:=λp hp=>qw (hs.tk p c ((yJ l _ c p).1 hp).2)
  have a0:∀p,stp (mkE l) (mkT l) (sOne 0) c p=true↔l.fst p=true/\l.tk p c=true:=λp=>by
   rw[yJ];constructor
   .rintro⟨⟨p0,_,h0,he⟩,ht⟩;have:p0=0:=by simpa [sOne]using h0
    subst this;refine⟨?_,ht⟩;have hl:l.ed 0 p=false:=by
     cases hx:l.ed 0 p with
     |false=>rfl
     |true=>have:=(hs.ed 0 p hx).1.1;omega
    simpa [mkE,hl]using he
   .rintro⟨h1,h2⟩;exact⟨⟨0,qo,rfl,by simp[mkE,h1]⟩,h2⟩
  constructor
  .rintro⟨q,_,hq,hN⟩;obtain⟨p,hp,hP⟩:=(yNk l hs qr hn xs _ a1 q).1 hq;obtain⟨h1,h2⟩:=(a0 p).1 hp;have a4:=(Pth.in hs hP (hs.fst p h1)).1;have hl:l.lst q=true:=by
    unfold mkN at hN;have:(q==0)=false:=by rw[beq_eq_false_iff_ne];omega
    simpa [this]using hN
   exact .inr ⟨c,xs,p,q,rfl,h1,h2,hP,hl⟩
  .rintro(⟨h,_⟩|⟨c',a3,p,q,he,h1,h2,h3,h4⟩)
   .cases h
   .cases he
    refine⟨q,qw ((hs.lst q h4).2),?_,by simp[mkN,h4]⟩;exact(yNk l hs qr hn xs _ a1 q).2 ⟨p,(a0 p).2 ⟨h1,h2⟩,h3⟩
theorem yYb (os:List (List Pat)) (hn:(lyA os (Lay.no 1)).nx<=256) (xs:List UInt8):acc (mkN (lyA os (Lay.no 1)) (nulA os)) (runS (mkE (lyA os (Lay.no 1))) (mkT (lyA os (Lay.no 1))) (sOne 0) xs)=true↔LgA os xs:=by
 have hc:=yQ7 (.alt os) 1;have e1:lyP (.alt os) 1=lyA os (Lay.no 1):=by simp only[lyP]
 have e2:nulB (.alt os)=nulA os:=by simp only[nulB]
 rw[e1,e2]at hc;rw[xEi _ hc.spt hn,<-hc.wd];simp only[Lg]
theorem yPl (E T:Nat->PS):∀(xs:List UInt8) (S:PS),(∀p,p<256->S p=false)->∀p,p<256->runS E T S xs p=false
 | [],S,h,p,hp=>h p hp
 |c::xs,S,h,p,hp=>by
  refine yPl E T xs (stp E T S c) (λq hq=>?_) p hp
  cases hx:stp E T S c q with
  |false=>rfl
  |true=>
   unfold stp sAnd at hx
   rw[Bool.and_eq_true,xAd]at hx
   obtain⟨⟨r,hr,h1,_⟩,_⟩:=hx
   rw[h r hr]at h1
   cases h1
theorem yUr (E T:Nat->PS):∀(S:PS) (xs ys:List UInt8),runS E T S (xs++ys)=runS E T (runS E T S xs) ys
 |S,[],ys=>rfl
 |S,x::xs,ys=>yUr E T (stp E T S x) xs ys
structure MaI (w:World) (base M:Nat) (T:Nat->PS) (G cp a:Nat) (E:Nat->PS) (en:PS) (mp n b5:Nat) (S:PS) (X:World):Prop where
 mtr:MtrI X base M T G cp a E en mp
 map:StI X mp n E en
 box:yA X w 330 5 b5 (stL (ahd E S) (acc en S))
 chg:Chg (λk=>k=mp) w X
theorem MaI.below {X X':World} {a:Nat} {b5:Nat} {S:PS} (h:MaI w base M T G cp a E en mp n b5 S X) (hb:Below X X X'):MaI w base M T G cp a E en mp n b5 S X':=
 ⟨h.mtr.below hb,h.map.chg (S:=λ_=>False) (Chg.of_below hb) (λq=>q),h.box.below hb,h.chg.trans (Chg.of_below hb)⟩
variable {p q:List UInt8} {i j k:Nat}
theorem yKn {c:UInt8} (h:chM p i=(c,k,true)) (ha:∀t,i+t<k->q[j+t]?=p[i+t]?):chM q j=(c,j+(k-i),true):=by
 have hg:=yEx h;have h0:=ha 0 qo;simp only[Nat.add_zero]at h0;unfold chM at h⊢;rw[h0];split at h
 .cases h
 .next d hd=>
  split at h
  .cases h
  .next hn=>
   rw[if_neg hn];split at h
   .next h92=>
    rw[if_pos h92];split at h
    .cases h
    .next e he=>
     simp only[Prod.mk.injEq,and_true]at h;obtain⟨rfl,rfl⟩:=h;have h1:=ha 1 qo;rw[h1,he];simp only[Prod.mk.injEq,and_true,true_and];omega
   .next h92=>
    rw[if_neg h92];simp only[Prod.mk.injEq,and_true]at h;obtain⟨rfl,rfl⟩:=h;simp only[Prod.mk.injEq,and_true,true_and];omega
theorem yTj {a b:UInt8} (h:yBw p i=.inl (a,b,k)) (ha:∀t,i+t<=k->q[j+t]?=p[i+t]?):yBw q j=.inl (a,b,j+(k-i)):=by
 unfold yBw at h⊢;split at h
 .cases h
 .next lo k1 hk1=>
  have hg:=yEx hk1;split at h
  .next h45=>
   split at h
   .cases h
   .next hi m hm=>
    have a0:=yEx hm;split at h
    .cases h
    .next hle=>
     simp only[Sum.inl.injEq,Prod.mk.injEq]at h;obtain⟨rfl,rfl,rfl⟩:=h;have e1:=yKn (q:=q) (j:=j) hk1 (λt ht=>ha t (by omega));have e2:q[j+(k1-i)]?=some 45:=by rw[ha (k1-i) (by omega),show i+(k1-i)=k1 by omega];exact h45
     have e3:=yKn (q:=q) (j:=j+(k1-i)+1) hm (λt ht=>by have:=ha (k1-i+1+t) qo;rw[show j+(k1-i)+1+t=j+(k1-i+1+t)by omega,this];congr 1;omega);rw[e1];simp only[];rw[if_pos e2,e3];simp only[];rw[if_neg hle];simp only[Sum.inl.injEq,Prod.mk.injEq,true_and];omega
  .next h45=>
   simp only[Sum.inl.injEq,Prod.mk.injEq]at h;obtain⟨rfl,rfl,rfl⟩:=h;have e1:=yKn (q:=q) (j:=j) hk1 (λt ht=>ha t (by omega));have e2:¬q[j+(k1-i)]?=some 45:=by rw[ha (k1-i) (by omega),show i+(k1-i)=k1 by omega];exact h45
   rw[e1];simp only[];rw[if_neg e2]
theorem yHt:∀(n:Nat) {p q:List UInt8} {i j k:Nat} {b:Bool} {f g:UInt8->Bool},p.length-i<=n->clsM p i b f=.inl (g,k)->(∀t,i+t<k->q[j+t]?=p[i+t]?)->clsM q j b f=.inl (g,j+(k-i))
 |n,p,q,i,j,k,b,f,g,hn,h,ha=>by
  have hg:=yHs _ qr h
  have h0:=ha 0 (by omega)
  simp only[Nat.add_zero]at h0
  rw[clsM]at h
  split at h
  .next hi=>
   have hj:j<q.length:=by rw[getElem?_eq_getElem hi]at h0;exact yAn h0
   rw[clsM,dif_pos hj,h0]
   split at h
   .next he=>
    rw[if_pos he];simp only[Sum.inl.injEq,Prod.mk.injEq]at h;obtain⟨rfl,rfl⟩:=h;simp only[Sum.inl.injEq,Prod.mk.injEq,true_and];omega
   .next he=>
    rw[if_neg he];split at h
    .cases h
    .next a b' k' hk=>
     have h1:=yFq hk;have h2:=yHs _ qr h;have e1:=yTj (q:=q) (j:=j) hk (λt ht=>ha t (by omega));match n,hn with
     |0,hn=>omega
     |n+1,hn=>
      have e2:=yHt n (q:=q) (j:=j+(k'-i)) (by omega) h (λt ht=>by have:=ha (k'-i+t) (by omega);rw[show j+(k'-i)+t=j+(k'-i+t)by omega,this];congr 1;omega);split
      .next e hh=>rw[e1]at hh;cases hh
      .next a2 b2 k2 hh=>
       rw[e1]at hh;simp only[Sum.inl.injEq,Prod.mk.injEq]at hh;obtain⟨rfl,rfl,rfl⟩:=hh;rw[e2];simp only[Sum.inl.injEq,Prod.mk.injEq,true_and];omega
  .cases h
theorem yFd {g:UInt8->Bool} (h:yAq p i=.inl (g,k)) (ha:∀t,i+t<k->q[j+t]?=p[i+t]?):yAq q j=.inl (g,j+(k-i)):=by
 have hg:=yBj h;have h0:=ha 0 (by omega);simp only[Nat.add_zero]at h0;unfold yAq at h⊢;rw[h0];split at h
 .next h94=>
  rw[if_pos h94];split at h
  .next f k' hc=>
   have a0:=yHs _ qr hc;simp only[Sum.inl.injEq,Prod.mk.injEq]at h;obtain⟨rfl,rfl⟩:=h;have e:=yHt _ qr (q:=q) (j:=j+1) hc (λt ht=>by have:=ha (1+t) (by omega);rw[show j+1+t=j+(1+t)by omega,this];congr 1;omega);rw[e];simp only[Sum.inl.injEq,Prod.mk.injEq,true_and];omega
  .cases h
 .next h94=>
  rw[if_neg h94];exact yHt _ qr h ha
section
inductive TokG (A:List UInt8->Pat->Prop):List UInt8->Prop
 |nil:TokG A []
 |sign {c:UInt8} {zs:List UInt8} (hc:c=124∨isOp c) (h:TokG A zs):TokG A (c::zs)
 |atom {xs zs:List UInt8} {t:Pat} (ha:A xs t) (h:TokG A zs):TokG A (xs++zs)
variable {A:List UInt8->Pat->Prop} {xs ys:List UInt8}
theorem TokG.cat (h:TokG A xs) (k:TokG A ys):TokG A (xs++ys):=by
 induction h with
 |nil=>exact k
 |sign hc _ ih=>exact .sign hc ih
 |atom ha _ ih=>rw[append_assoc];exact .atom ha ih
theorem TokG.ops:∀{l:List UInt8},(∀c∈l,isOp c)->TokG A l
 | [],_=>.nil
 |c::l,h=>.sign (.inr (h c (by simp))) (TokG.ops (λd hd=>h d (by simp[hd])))
theorem RepG.tok:RepG A xs t->TokG A xs
 |⟨ys,ops,a,h1,h2,h3,_⟩=>by rw[h1];exact .atom h2 (TokG.ops h3)
theorem SeqG.tok:∀{ts:List Pat} {xs:List UInt8},SeqG A ts xs->TokG A xs
 | [],_,h=>by rw[show _= []from h];exact .nil
 |_::_,_,⟨ys,zs,h1,h2,h3⟩=>by rw[h1];exact h2.tok.cat (SeqG.tok h3)
theorem AltG.tok:∀{os:List (List Pat)} {xs:List UInt8},AltG A os xs->TokG A xs
 | [],_,h=>h.elim
 | [_],_,h=>SeqG.tok h
 |_::_::_,_,⟨ys,zs,h1,h2,h3⟩=>by rw[h1];exact h2.tok.cat (.sign (.inl rfl) (AltG.tok h3))
theorem yAm.first:∀{n:Nat} {xs:List UInt8} {t:Pat},yAm n xs t->∃c ys,xs=c::ys/\¬c=41/\¬c=124/\¬isOp c
 |0,_,_,h=>h.elim
 |n+1,xs,t,h=>by
  rcases h with⟨c,rfl,hs,_⟩|⟨rfl,_⟩|⟨c,rfl,_⟩|⟨ys,os,rfl,_,_⟩|⟨p,i,k,f,h1,h2,rfl,_⟩
  .exact⟨c,[],rfl,λq=>hs (.inl (.inr (.inr (.inl q)))),λq=>hs (.inl (.inr (.inl q))),λq=>hs (.inl (.inl q))⟩
  .exact⟨46,[],rfl,qj,qj,by decide⟩
  .exact⟨92,[c],rfl,by decide,by decide,by decide⟩
  .exact⟨40,ys++ [41],rfl,by decide,by decide,by decide⟩
  .have hg:=yBj h2
   refine⟨91,cut p (i+1) k,?_,by decide,by decide,by decide⟩
   rw[yBq (show i<=i+1 by omega) (show i+1<=k by omega),yCa h1]
   rfl
variable {m:Nat}
theorem yMs {f:UInt8->Bool} (h1:q[j]?=some 91) (h2:yAq q (j+1)=.inl (f,m)) (hc:cut p i k=cut q j m) (hk:k<=p.length) (hik:i<k):p[i]?=some 91/\yAq p (i+1)=.inl (f,k):=by
 have hg:=yBj h2;have hl:k-i=m-j:=by have h3:=congrArg List.length hc;rw[yAw hk,yAw hg.2]at h3;exact h3
 have a0:∀t,t<k-i->p[i+t]?=q[j+t]?:=λt ht=>by have h3:=congrArg (λl=>l[t]?) hc;simp only[cut,getElem?_take,getElem?_drop]at h3;rw[if_pos ht,if_pos (by omega)]at h3;exact h3
 refine⟨by have:=a0 0 (by omega);simpa [h1]using this,?_⟩;have e:=yFd (q:=p) (j:=i+1) h2 (λt ht=>by have:=a0 (1+t) (by omega);rw[show i+1+t=i+(1+t)by omega,this];congr 1;omega);rw[e];simp only[Sum.inl.injEq,Prod.mk.injEq,true_and];omega
end
section
def yBh:List Pat->List UInt8×Bool
 | []=>([],true)
 | .byte c::ts=>(c::(yBh ts).1,(yBh ts).2)
 | .cls _::_=>([],false)
 | .rep _ _ _::_=>([],false)
 | .alt _::_=>([],false)
def yUy:List (List Pat)->List UInt8×Bool
 | [ts]=>yBh ts
 |_=>([],false)
def yQk:Pat->Prop
 | .byte _=>True
 |_=>False
theorem yGt (h:¬yQk t) (ts:List Pat):yBh (t::ts)=([],false):=by
 cases t with
 |byte b=>exact(h trivial).elim
 |_=>rfl
inductive TokN (A:List UInt8->Pat->Prop):Nat->List UInt8->Prop
 |nil:TokN A 0 []
 |bar {k:Nat} {zs:List UInt8} (h:TokN A k zs):TokN A (k+1) (124::zs)
 |op {k:Nat} {c:UInt8} {zs:List UInt8} (hc:isOp c) (h:TokN A k zs):TokN A k (c::zs)
 |atom {k:Nat} {xs zs:List UInt8} {t:Pat} (ha:A xs t) (h:TokN A k zs):TokN A k (xs++zs)
variable {A:List UInt8->Pat->Prop} {m:Nat} {xs:List UInt8}
theorem TokN.cat {ys:List UInt8} (h:TokN A k xs) (q:TokN A m ys):TokN A (k+m) (xs++ys):=by
 induction h with
 |nil=>simpa using q
 |bar _ ih=>rw[show∀k,k+1+m=(k+m)+1 from λk=>qo];exact .bar ih
 |op hc _ ih=>exact .op hc ih
 |atom ha _ ih=>rw[append_assoc];exact .atom ha ih
theorem TokN.ops:∀{l:List UInt8},(∀c∈l,isOp c)->TokN A 0 l
 | [],_=>.nil
 |c::l,h=>.op (h c (by simp)) (TokN.ops (λd hd=>h d (by simp[hd])))
theorem RepG.tokn:RepG A xs t->TokN A 0 xs
 |⟨ys,ops,a,h1,h2,h3,_⟩=>by rw[h1];exact .atom h2 (TokN.ops h3)
theorem SeqG.tokn:∀{ts:List Pat} {xs:List UInt8},SeqG A ts xs->TokN A 0 xs
 | [],_,h=>by rw[show _= []from h];exact .nil
 |_::_,_,⟨ys,zs,h1,h2,h3⟩=>by rw[h1];simpa using h2.tokn.cat (SeqG.tokn h3)
theorem AltG.tokn:∀{os:List (List Pat)} {xs:List UInt8},AltG A os xs->∃k,os.length=k+1/\TokN A k xs
 | [],_,h=>h.elim
 | [_],_,h=>⟨0,rfl,SeqG.tokn h⟩
 |_::o::os,_,⟨ys,zs,h1,h2,h3⟩=>by
  obtain⟨k,hk,hT⟩:=AltG.tokn h3
  refine⟨k+1,by simp at hk⊢;omega,?_⟩
  rw[h1]
  have:=h2.tokn.cat (TokN.bar hT)
  simpa using this
theorem yI9 (h:TokN A k xs):(xs= []/\k=0)∨(∃m zs,xs=124::zs/\k=m+1/\TokN A m zs)∨(∃c zs,xs=c::zs/\isOp c/\TokN A k zs)∨(∃ys zs t,xs=ys++zs/\A ys t/\TokN A k zs):=by
 cases h with
 |nil=>exact .inl ⟨rfl,rfl⟩
 |bar h=>exact .inr (.inl ⟨_,_,rfl,rfl,h⟩)
 |op hc h=>exact .inr (.inr (.inl ⟨_,_,rfl,hc,h⟩))
 |atom ha h=>exact .inr (.inr (.inr ⟨_,_,_,rfl,ha,h⟩))
variable {zs:List UInt8}
theorem yHo {c:UInt8} (h:cut p j m=c::zs) (hm:m<=p.length):p[j]?=some c/\cut p (j+1) m=zs/\j<m:=by exact xGm
theorem yQ4 (h:cut p j m=xs++zs) (hm:m<=p.length) (hjm:j<=m):cut p j (j+xs.length)=xs/\cut p (j+xs.length) m=zs/\j+xs.length<=m:=by have hl:=congrArg List.length h;rw[yAw hm,length_append]at hl;exact xGe
theorem yAm.byte:∀{n:Nat} {xs:List UInt8} {t:Pat},yAm n xs t->∃c ys,xs=c::ys/\((∃b,t=.byte b/\xs.getLast?=some b/\(¬yB3 c∨c=92))∨(¬yQk t/\yB3 c/\¬c=92))
 |0,_,_,h=>h.elim
 |n+1,xs,t,h=>by
  rcases h with⟨c,rfl,hs,rfl⟩|⟨rfl,rfl⟩|⟨c,rfl,rfl⟩|⟨ys,os,rfl,_,rfl⟩|⟨p,i,k,f,h1,h2,rfl,rfl⟩
  .exact⟨c,[],rfl,.inl ⟨c,rfl,rfl,.inl hs⟩⟩
  .exact⟨46,[],rfl,.inr ⟨λh=>h,by decide,by decide⟩⟩
  .exact⟨92,[c],rfl,.inl ⟨c,rfl,rfl,.inr rfl⟩⟩
  .exact⟨40,ys++ [41],rfl,.inr ⟨λh=>h,by decide,by decide⟩⟩
  .have hg:=yBj h2
   refine⟨91,cut p (i+1) k,?_,.inr ⟨λh=>h,by decide,by decide⟩⟩
   rw[yBq (show i<=i+1 by omega) (show i+1<=k by omega),yCa h1]
   rfl
structure xFy (n:Nat) (p:List UInt8) (i m j:Nat) (c:UInt8) (a t:Pat) (ts:List Pat):Prop where
 atom:yAm n (cut p i j) a
 lt:i<j
 le:j<=m
 at0:p[i]?=some c
 what:(∃b,t=.byte b/\(¬yB3 c∨c=92)/\(∀d,p[j]?=some d->j<m->¬isOp d)/\p[j-1]?=some b/\SeqG (yAm n) ts (cut p j m))∨(¬yQk t/\((yB3 c/\¬c=92)∨((¬yB3 c∨c=92)/\∃d,p[j]?=some d/\isOp d/\j<m)))
theorem yNi (h:SeqG (yAm n) ts (cut p i m)) (hm:m<=p.length) (him:i<m):∃t ts' j c a,ts=t::ts'/\xFy n p i m j c a t ts':=by
 cases ts with
 |nil=>
  have hl:=yAw (p:=p) (i:=i) hm;rw[show cut p i m= []from h]at hl;simp at hl;omega
 |cons t ts'=>
  obtain⟨ys,zs,h1,⟨xa,ops,a,h2,h3,h4,h5⟩,h6⟩:=h;rw[h2,append_assoc]at h1;obtain⟨c1,c2,c3⟩:=yQ4 h1 hm (by omega);obtain⟨c,xb,hc,hw⟩:=h3.byte;have ab:0<xa.length:=by rw[hc];simp
  obtain⟨p0,_,_⟩:=yHo (c1.trans hc) (by omega);refine⟨t,ts',i+xa.length,c,a,rfl,⟨by rw[c1];exact h3,by omega,c3,p0,?_⟩⟩;cases ops with
  |nil=>
   have a5:t=a:=h5;subst a5;rw[nil_append]at c2;rcases hw with⟨b,hb,a0,hs⟩|⟨hb,hs⟩
   .left;refine⟨b,hb,hs,?_,?_,by rw[c2];exact h6⟩
    .intro d hd aa;cases ts' with
     |nil=>
      have hl:=yAw (p:=p) (i:=i+xa.length) hm;rw[c2,show zs= []from h6]at hl;simp at hl;omega
     |cons t2 ts2=>
      obtain⟨a8,a1,e1,⟨a9,a4,a2,e2,e3,_,_⟩,_⟩:=h6;obtain⟨a7,a3,hc2,_,_,hn⟩:=e3.first;rw[e1,e2,hc2]at c2;have:=(yHo (p:=p) (c:=a7) (zs:=a3++a4++a1) (by rw[c2];simp) hm).1;rw[hd]at this;rw[Option.some.inj this];exact hn
    .have hg:xa[xa.length-1]?=some b:=by rw[<-getLast?_eq_getElem?];exact a0
     have e:=congrArg (λl=>l[xa.length-1]?) c1;simp only[cut,getElem?_take,getElem?_drop]at e;rw[if_pos qo,hg]at e;rw[show i+xa.length-1=i+(xa.length-1)by omega];exact e
   .exact .inr ⟨hb,.inl hs⟩
  |cons o ops=>
   right;have a6:¬yQk t:=by rw[h5,if_neg (by simp)];exact λh=>h
   refine⟨a6,?_⟩;obtain⟨q1,_,q3⟩:=yHo (p:=p) (c:=o) (zs:=ops++zs) (by rw[c2];simp) hm;rcases hw with⟨b,hb,a0,hs⟩|⟨hb,hs⟩
   .exact .inr ⟨hs,o,q1,h4 o (by simp),q3⟩
   .exact .inl hs
theorem yNj (h:SeqG (yAm n) ts (cut p m m)) (hm:m<=p.length):ts= []:=by
 cases ts with
 |nil=>rfl
 |cons t ts=>
  obtain⟨ys,zs,h1,⟨xa,ops,a,h2,h3,_,_⟩,_⟩:=h;obtain⟨c,xb,hc,_⟩:=h3.first;rw[yDe,h2,hc]at h1;simp at h1
end
inductive Tag (n:Nat):UInt8->List UInt8->Pat->Prop
 |plain {c:UInt8} (h:¬yB3 c):Tag n c [] (.byte c)
 |dot:Tag n 46 [] (.cls (λ_=>true))
 |esc {d:UInt8}:Tag n 92 [d] (.byte d)
 |group {ys:List UInt8} {os:List (List Pat)} (h:AltG (yAm n) os ys):Tag n 40 (ys++ [41]) (.alt os)
 |cls {zs:List UInt8} {f:UInt8->Bool} (h:∀r,yAq (91::zs++r) 1=.inl (f,zs.length+1)):Tag n 91 zs (.cls f)
variable {xs:List UInt8}
theorem yAm.tag (h:yAm (n+1) xs t):∃c zs,xs=c::zs/\Tag n c zs t:=by
 rcases h with⟨c,rfl,hs,rfl⟩|⟨rfl,rfl⟩|⟨c,rfl,rfl⟩|⟨ys,os,rfl,ho,rfl⟩|⟨p,i,k,f,h1,h2,rfl,rfl⟩
 .exact⟨c,[],rfl,.plain hs⟩
 .exact⟨46,[],rfl,.dot⟩
 .exact⟨92,[c],rfl,.esc⟩
 .exact⟨40,ys++ [41],rfl,.group ho⟩
 .have hg:=yBj h2;have e:cut p i k=91::cut p (i+1) k:=by rw[yBq (show i<=i+1 by omega) (show i+1<=k by omega),yCa h1];rfl
  refine⟨91,_,e,.cls λr=>?_⟩;have hl:=congrArg List.length e;rw[length_cons]at hl;have h3:=yMs (p:=91::cut p (i+1) k++r) (i:=0) (k:=(cut p (i+1) k).length+1) h1 h2 ?_ (by simp) (by omega)
  .exact h3.2
  .rw[<-hl,<-e];show(List.drop 0 (cut p i k++r)).take ((cut p i k).length-0)=_;rw[drop_zero,Nat.sub_zero,take_left]
variable {A:List UInt8->Pat->Prop}
theorem xEc {B:List UInt8->Pat->Prop} (hA:∀ys t,A ys t->∃c zs,ys=c::zs/\¬c=41/\¬c=124/\¬isOp c) (hB:∀ys t,B ys t->∃c zs,ys=c::zs/\¬c=41/\¬c=124/\¬isOp c)
  (U:∀xs ys t t' r r',A xs t->B ys t'->xs++r=ys++r'->xs=ys) {xs:List UInt8} (h:TokG A xs):∀{ys r r':List UInt8},TokG B ys->xs++41::r=ys++41::r'->xs=ys:=by
 induction h with
 |nil=>
  intro ys r r' k e;cases k with
  |nil=>rfl
  |sign hc _=>
   simp at e;exfalso;rw[<-e.1]at hc;rcases hc with q|q|q|q<;>exact absurd q qj
  |atom ha _=>
   obtain⟨c,zs,rfl,a1,_⟩:=hB _ _ ha;simp at e;exact absurd e.1.symm a1
 | @sign c zs hc h ih=>
   intro ys r r' k e;cases k with
   |nil=>
    simp at e;exfalso;rw[e.1]at hc;rcases hc with q|q|q|q<;>exact absurd q qj
   |sign hc' k'=>
    simp at e;rw[e.1,ih k' e.2]
   |atom ha _=>
    obtain⟨c,zs,rfl,_,a2,a0⟩:=hB _ _ ha;simp at e;rw[e.1]at hc;exact absurd hc (λq=>q.elim a2 a0)
 | @atom us zs t ha h ih=>
   intro ys r r' k e;cases k with
   |nil=>
    obtain⟨c,zs,rfl,a1,_⟩:=hA _ _ ha;simp at e;exact absurd e.1 a1
   |sign hc' k'=>
    obtain⟨c,zs,rfl,_,a2,a0⟩:=hA _ _ ha;simp at e;rw[<-e.1]at hc';exact absurd hc' (λq=>q.elim a2 a0)
   |atom hb k'=>
    rw[append_assoc,append_assoc]at e;have q:=U _ _ _ _ _ _ ha hb e;subst q;rw[ih k' (append_cancel_left e)]
theorem yI2:∀{n m:Nat} {xs ys:List UInt8} {t t':Pat} {r r':List UInt8},yAm n xs t->yAm m ys t'->xs++r=ys++r'->xs=ys
 |0,_,_,_,_,_,_,_,h,_,_=>h.elim
 |_+1,0,_,_,_,_,_,_,_,h,_=>h.elim
 |n+1,m+1,xs,ys,t,t',r,r',h,k,e=>by
  obtain⟨c,zs,rfl,hT⟩:=h.tag
  obtain⟨c',zs',rfl,hT'⟩:=k.tag
  simp only[cons_append,List.cons.injEq]at e
  obtain⟨rfl,e⟩:=e
  congr 1
  cases hT with
  |plain h1=>
   cases hT' with
   |plain _=>rfl
   |dot=>rfl
   |esc=>exact absurd h1 qj
   |group _=>exact absurd h1 qj
   |cls _=>exact absurd h1 qj
  |dot=>
   cases hT' with
   |plain _=>rfl
   |dot=>rfl
  |esc=>
   cases hT' with
   |plain h1=>exact absurd h1 qj
   |esc=>simp at e;rw[e.1]
  |group h1=>
   cases hT' with
   |plain h1=>exact absurd h1 qj
   |group h2=>
    rw[append_assoc,append_assoc]at e
    rw[xEc (λys t q=>q.first) (λys t q=>q.first) (λxs ys t t' r r' a b e=>yI2 a b e) h1.tok h2.tok e]
  |cls h1=>
   cases hT' with
   |plain h1=>exact absurd h1 qj
   |cls h2=>
    have a:=h1 r
    have b:=h2 r'
    rw[cons_append,e]at a
    rw[cons_append,a]at b
    simp at b
    exact(append_inj e b.2).1
variable {m:Nat}
theorem xAw (h:TokN (yAm n) k xs):∀{j:Nat} {ys:List UInt8},TokN (yAm m) j ys->xs=ys->k=j:=by
 induction h with
 |nil=>
  intro j ys q e;cases q with
  |nil=>rfl
  |bar _=>cases e
  |op _ _=>cases e
  |atom ha _=>obtain⟨c,zs,rfl,_⟩:=ha.first;cases e
 |bar h ih=>
  intro j ys q e;cases q with
  |nil=>cases e
  |bar q'=>simp at e;rw[ih q' e]
  |op hc _=>simp at e;rw[<-e.1]at hc;exact absurd hc qj
  |atom ha _=>obtain⟨c,zs,rfl,_,a1,_⟩:=ha.first;simp at e;exact absurd e.1.symm a1
 |op hc h ih=>
  intro j ys q e;cases q with
  |nil=>cases e
  |bar _=>simp at e;rw[e.1]at hc;exact absurd hc qj
  |op hc' q'=>simp at e;exact ih q' e.2
  |atom ha _=>obtain⟨c,zs,rfl,_,_,a0⟩:=ha.first;simp at e;rw[e.1]at hc;exact absurd hc a0
 |atom ha h ih=>
  intro j ys q e;cases q with
  |nil=>obtain⟨c,zs,rfl,_⟩:=ha.first;cases e
  |bar _=>obtain⟨c,zs,rfl,_,a1,_⟩:=ha.first;simp at e;exact absurd e.1 a1
  |op hc _=>obtain⟨c,zs,rfl,_,_,a0⟩:=ha.first;simp at e;rw[<-e.1]at hc;exact absurd hc a0
  |atom hb q'=>
   have u:=yI2 ha hb e;subst u;exact ih q' (append_cancel_left e)
theorem yPp:∀{ts us:List Pat} {i:Nat},i<=p.length->SeqG (yAm n) ts (cut p i p.length)->SeqG (yAm m) us (cut p i p.length)->yBh ts=yBh us
 | [],us,i,hi,h,k=>by
   have hip:i=p.length:=by have hl:=yAw (p:=p) (i:=i) qr;rw[show cut p i p.length= []from h]at hl;simp at hl;omega
   subst hip
   rw[yNj k qr]
 |t::ts,us,i,hi,h,k=>by
  have him:i<p.length:=by refine Nat.lt_of_le_of_ne hi λq=>?_;subst q;exact absurd (yNj h qr) (by simp)
  obtain⟨t1,a3,j,c,a,e1,h1⟩:=yNi h qr him;obtain⟨rfl,rfl⟩:t1=t/\a3=ts:=by simpa using e1.symm
  obtain⟨u1,a6,j',c',a',rfl,k1⟩:=yNi k qr him;have e2:=yI2 (r:=cut p j p.length) (r':=cut p j' p.length) h1.atom k1.atom (by rw[<-yBq (Nat.le_of_lt h1.lt) h1.le,<-yBq (Nat.le_of_lt k1.lt) k1.le]);have e3:j=j':=by have hl:=congrArg List.length e2;rw[yAw h1.le,yAw k1.le]at hl;have:=h1.lt;have:=k1.lt;omega
  subst e3;obtain rfl:c=c':=Option.some.inj (h1.at0.symm.trans k1.at0);rcases h1.what with⟨b,rfl,hs,hn,hb,hS⟩|⟨a5,hw⟩
  .rcases k1.what with⟨b',rfl,_,_,a2,kS⟩|⟨_,(⟨s1,s2⟩|⟨_,d,hd,a0,a1⟩)⟩
   .obtain rfl:b=b':=Option.some.inj (hb.symm.trans a2);simp only[yBh];rw[yPp h1.le hS kS]
   .exact absurd hs (λq=>q.elim (λz=>z s1) s2)
   .exact absurd a0 (hn d hd a1)
  .rw[yGt a5];rcases k1.what with⟨b',rfl,hs,hn,a2,kS⟩|⟨a4,_⟩
   .rcases hw with⟨s1,s2⟩|⟨_,d,hd,a0,a1⟩
    .exact absurd hs (λq=>q.elim (λz=>z s1) s2)
    .exact absurd a0 (hn d hd a1)
   .rw[yGt a4]
theorem yW {us:List (List Pat)} (h:yDn p 0 0 p.length os) (k:yDn p 0 0 p.length us):yUy os=yUy us:=by
 obtain⟨n,h1⟩:=h.gr;obtain⟨m,k1⟩:=k.gr;obtain⟨j,hj,hT⟩:=h1.tokn;obtain⟨j',a0,kT⟩:=k1.tokn;have e:=xAw hT kT rfl;match os,us,h1,k1,hj,a0 with
 | [ts],[us],h1,k1,_,_=>exact yPp (zero_le _) h1 k1
 | [ts],u::v::us,h1,k1,hj,a0=>simp at hj a0;omega
 |t::v::ts,[us],h1,k1,hj,a0=>simp at hj a0;omega
 |t::v::ts,u::x::us,h1,k1,hj,a0=>rfl
abbrev ub (x:UInt8):Value:=.int .u8 (x.toNat:Int)
def yXk (w:World) (b off:Nat) (xs:List UInt8):Prop:=∀i x,xs[i]?=some x->(xk w b (off+i) (ub x):Prop)
variable {B:Nat}
theorem yXk.below {b off:Nat} (h:yXk w b off xs) (hb:Below B w w') (hlt:b<B):yXk w' b off xs:=by intro i x hx;rw[hb.cell (p:=(xd b (off+i))) hlt];exact h i x hx
def OwnY (w:World) (base g cp:Nat) (xs:List UInt8):Prop:=w.ownsRow base 5 1 (xg g xs.length cp) xs.length (xs.map ub)
theorem OwnY.lt {g:Nat} (h:OwnY w base g cp xs):base<=g/\g<w.heap.size:=World.ownsRow.lt h g rfl
theorem OwnY.chg {S:Nat->Prop} {g:Nat} (h:OwnY w base g cp xs) (hc:Chg S w w') (hn:¬S g):OwnY w' base g cp xs:=yAh h hc (λk q=>by simp[Value.ownBlock]at q;subst q;exact hn)
theorem OwnY.below {g:Nat} (h:OwnY w base g cp xs) (hb:Below w w w'):OwnY w' base g cp xs:=h.chg (Chg.of_below hb) (S:=λ_=>False) (λq=>q)
theorem OwnY.at {g:Nat} (h:OwnY w base g cp xs):yXk w g 0 xs:=by intro k x hx;have hk:=qf hx;rw[Nat.zero_add,World.ownsRow.cellAt h k qo,getElem?_map,hx];rfl
theorem OwnY.caps {g:Nat} (h:OwnY w base g cp xs):xs.length<=cp/\cp<=maxLen:=by exact yMx
variable {base':Nat}
theorem OwnY.mono {g:Nat} (h:OwnY w base g cp xs) (hb:base'<=base):OwnY w base' g cp xs:=by exact yO0
theorem xHd (xs:List UInt8):∀u∈xs.map ub,u.oneCell'=true:=by intro u hu;obtain⟨r,_,rfl⟩:=List.mem_map.1 hu;rfl
theorem Tryz.infoByte:(prog.info? 5).map (λi=>(i.zero,i.size,i.bytes))=some (some (.int .u8 0),1,1):=qk
theorem yBg {ops:Array Oper} {o:Oper} {a:Act} (w:World) (hgd:o.guard=none) s x
  (ho:o.op=.call {callee:=.builtin .append,args:=#[s,x],argTypes:=#[22,22]})
  (base g cp n b off m cx:Nat) (l k:List UInt8) (hs:a.eval s=(xg g n cp)) (hx:a.eval x=.slice (some ⟨b,off,none⟩) m cx) (hn:n=l.length) (hm:m=k.length) (hO:OwnY w base g cp l)
  (hc:yXk w b off k) (hlen:l.length+k.length<=2^30) (hbase:base<=w.heap.size)
  (h:∀g' cp' w',OwnY w' base g' cp' (l++k)->w.grownBy w' (some g)->(g'=g∨g'=w.heap.size)->wpList prog ops Q rest (a.put o.dst (xg g' (n+m) cp')) w'):wpList prog ops Q (o::rest) a w:=by
 subst hn hm;obtain⟨i,hi,a4,a3,a2⟩:=info_parts Tryz.infoByte;refine wpList_append_own_at w hgd s x 22 ho base 5 i _ 1 1 underlying22 hi a4 a3 a2 rfl qj (xg g l.length cp) l.length (l.map ub) hs hO (xd b off) k.length cx (k.map ub) hx (by simp) ?_ (xHd k) ?_ ?_ hbase ?_
 .intro j u hu;rw[getElem?_map]at hu;cases hk:k[j]? with
  |none=>rw[hk]at hu;cases hu
  |some r=>
   rw[hk]at hu;simp at hu;rw[Addr.add_mid,hc j r hk,<-hu]
 .unfold maxLen;omega
 .omega
 .intro v' w' a1 a6 a5 a0;rcases a1.2 with⟨h0,_⟩|⟨g',a7,cur,hv,_,_,hn,a8,_,_⟩
  .have:=(a5.1 h0).1;cases this
  .subst hv;refine h g' a7 w' ?_ a6 ?_
   .unfold OwnY;rw[length_append,map_append];exact a1
   .simp[Value.ownBlock]at a0;exact a0
theorem yU0 (w:World) (hb:base<=w.heap.size):OwnY (xw w #[] 5) base w 0 []:=
 World.ownsRow_made w #[] 0 hb (zero_le _) (by simp)
theorem yGu (w:World) (hb:base<=w.heap.size) (x:UInt8) {v:Int} (hv:v=(x.toNat:Int)):OwnY (xw w #[.int .u8 v] 5) base w 1 [x]:=by subst hv;exact World.ownsRow_lit w #[ub x] 1 hb qj rfl
theorem yYl (b:UInt8) (w:World):(Instr.typeAssert (yRd b) 346 348 true).run prog w=.ok (.tuple #[.agg #[.int .u8 (b.toNat:Int)],true]) w:=qk
theorem xBi {T:Nat} (hT:T=360∨T=362∨T=304) (cs:Array Value) (w:World):(Instr.typeAssert (.iface T (.agg cs)) 346 348 true).run prog w=.ok (.tuple #[.agg #[.int .u8 0],false]) w:=by rcases hT with rfl|rfl|rfl<;>kernel_rfl
variable {cap:Nat} {zs:List UInt8}
theorem yG7 {g:Nat} (h:OwnY w base g cap zs):(convert 22 9 (xg g zs.length cap)).run prog w=.ok (.string ⟨zs.toArray⟩) w:=by refine run_convert_bytes_back (P:=prog) w 22 9 5 (xd g 0) cap zs underlying22 underlying5 underlying9 ?_;intro i hi;have:=World.ownsRow.cellAt h i qo;rw[Addr.add_mid,Nat.zero_add,this,getElem?_map,getElem?_eq_getElem hi];rfl
theorem yBt.kind {v:Value} (h:yBt w lo t v):(∃b,t=.byte b/\v=yRd b)∨(¬yQk t/\∃T cs,v=.iface T (.agg cs)/\(T=360∨T=362∨T=304)):=by
 obtain⟨n,hn⟩:=h;cases n with
 |zero=>exact hn.elim
 |succ n=>
  cases t with
  |byte b=>exact .inl ⟨b,rfl,hn⟩
  |cls f=>exact .inr ⟨λh=>h,_,_,hn,.inl rfl⟩
  |rep t o r=>obtain⟨u,h1,_⟩:=hn;exact .inr ⟨λh=>h,_,_,h1,.inr (.inl rfl)⟩
  |alt os=>obtain⟨u,h1,_⟩:=hn;exact .inr ⟨λh=>h,_,_,h1,.inr (.inr rfl)⟩
variable {R:Nat->Prop}
theorem yFz.nth (h:yFz w R ts u):∃a cp,u=.slice a ts.length cp/\∀k t,ts[k]?=some t->∃gs v,a=some ⟨gs,0,none⟩/\gs<w.heap.size/\xk w gs k v/\yBt w R t v:=by
 obtain⟨n,h|⟨g,cp,us,h1,h2,h3,h4⟩⟩:=h
 .obtain⟨rfl,rfl⟩:=h;exact⟨none,0,rfl,λk t ht=>by simp at ht⟩
 .refine⟨_,cp,h1,λk t ht=>?_⟩;have hk:=qf ht;obtain⟨v,hv⟩:∃v,us[k]?=some v:=qg qo;exact⟨g,v,rfl,h3.lt,h3.val k v hv,n,h4 k v t hv ht⟩
structure PxJ (w:World) (ts:List Pat) (k g cp:Nat) (xs:List UInt8) (wr:World):Prop where
 len:xs.length=k
 pre:yBh ts=(xs++(yBh (ts.drop k)).1,(yBh (ts.drop k)).2)
 own:OwnY wr (w+2) g cp xs
 res:yA wr w 268 2 (w+1) [xe,false]
 below:Below w w wr
def set2 (w:World) (g:Nat) (a b:Value):World:=(xt (w.setCell (xd g 0) a) g 1 b)
theorem yCr {t g:Nat} {x y:Value} (h:yA w base t 2 g [x,y]) (a b:Value):yA (set2 w g a b) base t 2 g [a,b]:=((h.set 0 a).set 1 b)
theorem ySl (h:yFz w R ts u) (hl:ts.length<=1000):(xf 222 #[.agg #[u]] w (.agg #[.string ⟨(yBh ts).1.toArray⟩,(yBh ts).2]):Prop):=by
 obtain⟨a,cp,rfl,hn⟩:=h.nth;have HN:=qH1 hn;clear h hn;obtain⟨n,a8⟩:=qE ts.length;have HL:=qH1 a8;rw[<-a8]at hl⊢;clear a8;obtain⟨W0,a7⟩:=qW (xw ((w.alloc (Obj.cells #[.slice a n cp] 316)).alloc (Obj.cells #[xe,false] 268)) #[] 5);have ad:Hid (PxJ w ts 0 (w+2) 0 [] W0/\xk W0 w 0 (.slice a n cp)):=by
  obtain⟨V,hV⟩:=qW (xw (w.alloc (Obj.cells #[.slice a n cp] 316)) #[xe,false] 268);have hz:V.heap.size=w.heap.size+2:=by rw[hV];simp
  have am:Below w w V:=by rw[hV];exact(qB).alloc (by simp) _
  have b1:yA V w 316 1 w [.slice a n cp]:=by rw[hV];exact yA.ofHeap (vs:=#[.slice a n cp]) (heap_alloc2_old w _ _) qr rfl
  have b2:yA V w 268 2 (w+1) [xe,false]:=by rw[hV];exact yA.ofHeap (vs:=#[.string ⟨#[]⟩,.bool false]) (heap_alloc2_new w _ _) qo rfl
  have ac:Below V V W0:=by rw[a7,<-hV];exact qB
  refine⟨⟨rfl,by simp,?_,b2.below ac,am.trans (ac.mono qo)⟩,(b1.below ac).cell (j:=0) rfl⟩;rw[a7,<-hV,<-hz];exact yU0 V qr
 go_enter func222,ntmps222;go_upto_region 2 with fail;rw[<-a7];clear a7;have c0:=ad.2;go_wp2_with fail;clear c0;go_loopw[3,12] (λo i wr=>∃(k g cq:Nat) (xs:List UInt8),k<=n/\i=(xi k)/\o=(xg g k cq)/\PxJ w ts k g cq xs wr) (λ_ i _=>n-(intOf i).toNat);case atStart=>exact⟨0,_,0,[],zero_le _,rfl,rfl,ad.1⟩
 case round=>
  obtain⟨k,g,cq,xs,hk,rfl,rfl,hJ⟩:=hrel;have HJ:Hid (PxJ w ts k g cq xs wr):=hJ;have ar:=hJ.own.lt;have a6:=hJ.len;have af:=hJ.below.size;obtain⟨r0,r1⟩:=hJ.res.c2;obtain⟨f0,f1⟩:=hJ.res.f2;clear hJ ad;by_cases hlt:k<n
  .have zk:(k:Int)<(n:Int):=qo
   obtain⟨t,ht⟩:∃t,ts[k]?=some t:=qg (qw HL.out);obtain⟨gs,v,rfl,al,hv,hN⟩:=HN.out k t ht;have ae:(xk wr gs k v:Prop):=by rw[(Chg.of_below HJ.below (S:=λ_=>False)).cell (p:=(xd gs k)) al (λq=>q)];exact hv
   have ah:ts.drop k=t::ts.drop (k+1):=by rw[drop_eq_getElem_cons (qw HL.out)];congr 1;exact Option.some.inj ((getElem?_eq_getElem (qw HL.out)).symm.trans ht)
   have HD:Hid (ts.drop k=t::ts.drop (k+1)):=ah;clear hv ah ht;rcases hN.kind with⟨b,rfl,rfl⟩|⟨ag,T,cs,rfl,hT⟩
   .have ha:=yYl b;clear hN;have HP:Hid (yBh ts=((xs++ [b])++(yBh (ts.drop (k+1))).1,(yBh (ts.drop (k+1))).2)):=by show yBh ts=_;rw[HJ.pre,HD.out];simp[yBh]
    obtain⟨W5,a2⟩:=qW (xw wr #[.int .u8 (b.toNat:Int)] 348);have a3:=qN a2
    have ak:=qS a2
    have a1:Hid (PxJ w ts k g cq xs W5):=⟨HJ.len,HJ.pre,HJ.own.below a3,HJ.res.below a3,HJ.below.trans (a3.mono af)⟩;have b5:(xk W5 wr 0 (.int .u8 (b.toNat:Int)):Prop):=by rw[a2];exact(yAa wr (base:=0) (t:=348) (sz:=1) #[.int .u8 (b.toNat:Int)] (zero_le _) rfl).cell (j:=0) rfl
    go_upto_region 6 with fail;rw[<-a2];clear a2 ae r0 r1 f0 f1 ha HJ;obtain⟨W6,a0⟩:=qW (xw W5 #[.int .u8 (b.toNat:Int)] 5);have ab:=qN a0
    have aq:=qS a0
    have a5:Hid (PxJ w ts k g cq xs W6/\yXk W6 (wr+1) 0 [b]):=by refine⟨⟨a1.len,a1.pre,a1.own.below ab,a1.res.below ab,a1.below.trans (ab.mono qo)⟩,?_⟩;rw[a0,<-ak];exact(yGu W5 qr b rfl).at
    go_wp2_with (at_builtin;rw[<-a0];refine yBg _ rfl _ _ rfl (w+2) g cq k (wr+1) 0 1 1 xs [b] rfl rfl ?hn rfl ?hO ?hc ?hl ?hb ?_);case hn=>exact a6.symm
    case hO=>exact a5.1.own
    case hc=>exact a5.2
    case hl=>simp;omega
    case hb=>omega
    intro g' aj w' ai a9 an;rw[<-a0]at a9;have ao:Hid (PxJ w ts (k+1) g' aj (xs++ [b]) w'):=by have hC:Chg (λj=>j=g) W6 w':=Chg.of_grown a9 (λj hj=>by cases hj;rfl);refine⟨by simp[a6],HP.out,ai,a5.1.res.chg hC (by omega),?_⟩;exact Chg.below a5.1.below hC a5.1.below.size (λj q=>by omega)
    clear ai a9 an a0 b5;refine zY ?_;exact⟨k+1,g',aj,xs++ [b],qo,by go_num,rfl,ao.out⟩
   .have ha:=xBi hT cs;have HP:Hid (yBh ts=(xs,false)):=by show yBh ts=_;rw[HJ.pre,HD.out,yGt ag];simp
    obtain⟨W5,a2⟩:=qW (xw wr #[.int .u8 0] 348);have a3:=qN a2
    have a1:Hid (PxJ w ts k g cq xs W5):=⟨HJ.len,HJ.pre,HJ.own.below a3,HJ.res.below a3,HJ.below.trans (a3.mono af)⟩;go_upto_region 6 with fail;rw[<-a2];clear a2 ae r0 r1 f0 f1 ha HJ hN ag hT;have aa:=yG7 a1.own;rw[a6]at aa;obtain⟨r0,r1⟩:=a1.res.c2;obtain⟨f0,f1⟩:=a1.res.f2;obtain⟨W6,a0⟩:=qW (set2 W5 (w+1) (.string ⟨xs.toArray⟩) false);have a4:Hid (yA W6 w 268 2 (w+1) [.string ⟨xs.toArray⟩,false]/\Below w w W6):=by rw[a0];exact⟨yCr a1.res _ _,yAc (yAc a1.below qo 0 _) qo 1 _⟩
    obtain⟨p0,p1⟩:=a4.1.c2;unfold set2 at a0;go_wp2_with fail;rw[<-a0];rw[HP.out];refine bodyPost_ret (v:=.agg #[.string ⟨xs.toArray⟩,false]) (by simp[results,results222,go_sem,p0,p1]) rfl ⟨rfl,a4.2⟩
  .have zk:¬(k:Int)<(n:Int):=qo
   have HP:Hid (yBh ts=(xs,true)):=by show yBh ts=_;rw[HJ.pre,drop_eq_nil_of_le (qw HL.out)];simp[yBh]
   have aa:=yG7 HJ.own;rw[a6]at aa;obtain⟨W6,a0⟩:=qW (set2 wr (w+1) (.string ⟨xs.toArray⟩) true);have a4:Hid (yA W6 w 268 2 (w+1) [.string ⟨xs.toArray⟩,true]/\Below w w W6):=by rw[a0];exact⟨yCr HJ.res _ _,yAc (yAc HJ.below qo 0 _) qo 1 _⟩
   obtain⟨p0,p1⟩:=a4.1.c2;unfold set2 at a0;go_wp2_with fail;rw[<-a0];rw[HP.out];refine bodyPost_ret (v:=.agg #[.string ⟨xs.toArray⟩,true]) (by simp[results,results222,go_sem,p0,p1]) rfl ⟨rfl,a4.2⟩
theorem yDo.nth (h:yDo w R os u):∃g cp,u=(xg g os.length cp)/\g<w.heap.size/\∀k ts,os[k]?=some ts->∃v,xk w g k v/\yFz w R ts v:=by obtain⟨n,g,cp,us,h1,h2,h3,h4⟩:=h;refine⟨g,cp,h1,h3.lt,λk ts ht=>?_⟩;have hk:=qf ht;obtain⟨v,hv⟩:∃v,us[k]?=some v:=qg qo;exact⟨v,h3.val k v hv,n,h4 k v ts hv ht⟩
theorem ySm (p:ByteArray) (hp:p.size<=maxLen):(yAj (sb p)).1=0->∃os,yDn (sb p) 0 0 p.size os:=by
 intro h;obtain⟨e,w',fr,⟨u,_,_,(⟨_,os,h1,_⟩|⟨h1,_⟩)⟩,_⟩:=yA5 p default hp []
 .exact⟨os,h1⟩
 .exact absurd h h1
def yVk (p:ByteArray) (r:List UInt8×Bool):Prop:=(¬(yAj (sb p)).1=0->r=([],false))/\((yAj (sb p)).1=0->∀os,yDn (sb p) 0 0 p.size os->r=yUy os)
theorem yJl (p:ByteArray) (hp:p.size<=maxLen):∃r,yVk p r:=by
 by_cases h:(yAj (sb p)).1=0
 .obtain⟨os,ho⟩:=ySm p hp h;refine⟨yUy os,λq=>absurd h q,λ_ us hu=>yW (by rw[yAe];exact ho) (by rw[yAe];exact hu)⟩
 .exact⟨_,λ_=>rfl,λq=>absurd q h⟩
theorem yUq (hA:∀xs t,A xs t->0<xs.length):∀{ts:List Pat} {xs:List UInt8},SeqG A ts xs->ts.length<=xs.length
 | [],_,_=>zero_le _
 |_::ts,_,⟨ys,zs,h1,⟨us,ops,a,h2,h3,_⟩,h4⟩=>by
  have:=yUq hA h4
  have:=hA _ _ h3
  rw[h1,h2]
  simp
  omega
theorem yJ5 (p:ByteArray) (w:World) (hpm:p.size<=maxLen) (r:List UInt8×Bool) (hr:yVk p r):(xf 198 #[p] w (.agg #[.string ⟨r.1.toArray⟩,r.2]):Prop):=by
 have HR:=qH1 hr;clear hr;obtain⟨W0,aa⟩:=qW (xw w #[xe,false] 268);have a6:Hid (yA W0 w 268 2 w [xe,false]/\Below w w W0):=by rw[aa];exact⟨yAa w _ qr rfl,qB⟩
 obtain⟨c,hc⟩:=qE ((yAj (sb p)).1);obtain⟨k,hk⟩:=qE ((yAj (sb p)).2);have HC:=qH1 hc;go_enter func198,ntmps198;go_upto_region 1 with fail;rw[<-aa];clear aa;go_wp2_with fail;refine(yA5 p W0 hpm).mono ?_;rintro e w1 ⟨u,rfl,a4,hu⟩;rw[<-hc,<-hk];have HU:=qH1 hu;obtain⟨ua,un,uc,rfl⟩:∃a n cp,u=.slice a n cp:=by
  rcases hu with⟨_,os,_,hU⟩|⟨_,rfl⟩
  .obtain⟨g,n,cp,rfl⟩:=hU.slice;exact⟨_,_,_,rfl⟩
  .exact⟨_,_,_,rfl⟩
 clear hu hc hk;have h1:=a6.2.size;have h2:=a4.size;obtain⟨W2,a3⟩:=qW (xw (w1.alloc (Obj.cells #[.slice ua un uc] 304)) #[xi c,xi k] 158);have hb2:Below w1 w1 W2:=by rw[a3];exact(qB).alloc (by simp) _
 have a1:Hid (yA W2 w 268 2 w [xe,false]/\yA W2 w 158 2 (w1+1) [xi c,xi k]/\yA W2 w 304 1 w1 [.slice ua un uc]/\Below w w W2):=by
  refine⟨(a6.1.below a4).below hb2,?_,?_,(a6.2.trans (a4.mono h1)).trans (hb2.mono qo)⟩
  .rw[a3];exact yA.ofHeap (vs:=#[.int .i64 c,.int .i64 (k:Int)]) (heap_alloc2_new w1 _ _) qo rfl
  .rw[a3];exact yA.ofHeap (vs:=#[.slice ua un uc]) (heap_alloc2_old w1 _ _) qo rfl
 have ab:Hid (((yAj (sb p)).1=0/\∃os,yDn (sb p) 0 0 p.size os/\yDo W2 (Bet W0 w1) os (.slice ua un uc))∨(¬(yAj (sb p)).1=0/\Value.slice ua un uc=xh)):=by
  rcases HU.out with⟨q,os,ho,hU⟩|q
  .exact .inl ⟨q,os,ho,hU.move (S:=λ_=>False) (Chg.of_below hb2) (λq hq=>hq.elim) (λq _ z=>z)⟩
  .exact .inr q
 clear a4 hb2 a6 HU;go_upto_region 2 with fail;rw[<-a3];clear a3;have b0:=a1.2.1.cell (j:=0) rfl;have a0:=a1.2.2.1.cell (j:=0) rfl;obtain⟨r0,r1⟩:=a1.1.c2;obtain⟨f0,f1⟩:=a1.1.f2;have a7:∀(hz:¬c=0∨¬(un:Int)=1),r=([],false):=λhz=>by
  rcases ab.out with⟨q,os,ho,hU⟩|⟨q,hn⟩
  .obtain⟨g,cp,e,_,_⟩:=hU.nth;simp at e;have:=HR.2 q os ho;rw[this];have a2:c=0:=by rw[HC.out];exact q
   rcases os with _|⟨o1,_|⟨o2,os⟩⟩
   .rfl
   .exfalso;simp at e;rcases hz with hz|hz
    .exact hz a2
    .exact hz (by rw[e.2.1];rfl)
   .rfl
  .exact HR.1 q
 by_cases hz:¬c=0∨¬(un:Int)=1
 .have e:=a7 hz;subst e;clear a7;obtain⟨W6,hW6⟩:=qW (set2 W2 w xe false);have HW6:Hid (yA W6 w 268 2 w [xe,false]/\Below w w W6):=by rw[hW6];exact⟨yCr a1.1 _ _,yAc (yAc a1.2.2.2 qr 0 _) qr 1 _⟩
  obtain⟨p0,p1⟩:=HW6.1.c2;unfold set2 at hW6;by_cases a2:c=0
  .have a8:=hz.elim (λq=>absurd a2 q) (λq=>q);have ad:((un:Int) != 1)=true:=by simpa using a8
   subst a2;exact xF9
  .have zc:(c != 0)=true:=by simpa using a2
   exact xF9
 .have a2:=Classical.not_not.1 (λq=>hz (.inl q));have a8:=Classical.not_not.1 (λq=>hz (.inr q));clear hz a7;have q0:(yAj (sb p)).1=0:=by rw[<-HC.out];exact a2
  obtain⟨g,ts,v,rfl,ac,hS,hP,hl⟩:∃g ts v,ua=some ⟨g,0,none⟩/\xk W2 g 0 v/\yFz W2 (Bet W0 w1) ts v/\r=yBh ts/\ts.length<=1000:=by
   rcases ab.out with⟨q,os,ho,hU⟩|⟨q,hn⟩
   .obtain⟨g,cp,e,_,hn⟩:=hU.nth;simp at e;obtain⟨ts,rfl⟩:∃ts,os= [ts]:=by
     rcases os with _|⟨o1,_|⟨o2,os⟩⟩
     .exfalso;simp at e;omega
     .exact⟨o1,rfl⟩
     .exfalso;simp at e;omega
    obtain⟨v,hv,hS⟩:=hn 0 ts rfl;refine⟨g,ts,v,e.1,hv,hS,HR.2 q _ ho,?_⟩;obtain⟨n,hg⟩:=ho.gr;have h3:=yUq (λxs t (z:yAm n xs t)=>by obtain⟨c,ys,e,_⟩:=z.first;rw[e];simp) hg;have h4:=yAw (p:=sb p) (i:=0) (k:=p.size) (by rw[yAe];exact Nat.le_refl _);have h5:p.size<=200:=by apply Classical.byContradiction;intro h6;unfold yAj at q0;rw[if_pos (by rw[yAe];omega)]at q0;exact absurd q0 qj
    omega
   .exact absurd q0 q
  obtain⟨va,vn,vc,rfl⟩:=hS.slice;have HS:=qH1 hS;clear hS ab;subst a2;obtain rfl:un=1:=qo
  clear a8 q0;go_wp2_with fail;refine(ySl HS.out hl).mono ?_;rintro e w5 ⟨rfl,a9⟩;subst hP;have s2:=a1.2.2.2.size;have a5:=qH2 (a1.1.below a9) (a1.2.2.2.trans (a9.mono s2));clear ac b0 a0 r0 r1 f0 f1 a9;obtain⟨r0,r1⟩:=a5.1.c2;obtain⟨f0,f1⟩:=a5.1.f2;obtain⟨x,hx⟩:=qE (⟨(yBh ts).1.toArray⟩:ByteArray);obtain⟨y,hy⟩:=qE ((yBh ts).2:Bool);rw[<-hx,<-hy];obtain⟨W6,hW6⟩:=qW (set2 w5 w x y);have HW6:Hid (yA W6 w 268 2 w [x,y]/\Below w w W6):=by rw[hW6];exact⟨yCr a5.1 _ _,yAc (yAc a5.2 qr 0 _) qr 1 _⟩
  obtain⟨p0,p1⟩:=HW6.1.c2;unfold set2 at hW6;subst hx hy;go_wp2;rw[<-hW6];refine bodyPost_ret (v:=.agg #[.string ⟨(yBh ts).1.toArray⟩,(yBh ts).2]) (by simp[results,results198,go_sem,p0,p1]) rfl ⟨rfl,HW6.2⟩
theorem yPz (M:Nat) (s:ByteArray) (hs:200<s.size) w:Calls prog 218 #[xp M,s] w λe w'=>e=.returned false/\w'=w:=by
 have zs:(200:Int)<(s.size:Int):=qo
 go_enter func218,ntmps218;go_wp2;go_ret;exact⟨rfl,rfl⟩
theorem yCl {c:UInt8} (h:cut p j m=c::zs) (hm:m<=p.length):p[j]?=some c/\cut p (j+1) m=zs/\j<m:=by exact xGm
theorem yTt (h:cut p j m=xs++zs) (hm:m<=p.length):cut p j (j+xs.length)=xs/\cut p (j+xs.length) m=zs/\j+xs.length<=max j m:=by
 have hl:=congrArg List.length h;rw[yAw hm,length_append]at hl;by_cases hjm:j<=m
 .exact xGe
 .have hx:xs= []:=length_eq_zero_iff.1 qo;subst hx;refine⟨by simp[yDe],by simpa using h,by simp;omega⟩
theorem xAx (h:TokG A xs) (hA:∀ys t,A ys t->ys≠ []):xs= []∨(∃c zs,xs=c::zs/\(c=124∨isOp c)/\TokG A zs)∨(∃ys zs t,xs=ys++zs/\A ys t/\TokG A zs):=by
 cases h with
 |nil=>exact .inl rfl
 |sign hc h=>exact .inr (.inl ⟨_,_,rfl,hc,h⟩)
 |atom ha h=>exact .inr (.inr ⟨_,_,_,rfl,ha,h⟩)
def EndC (p:ByteArray) (n:Nat):Prop:=∀(i k:Nat) (t:Pat) (w:World),yAm n (cut (sb p) i k) t->k<=p.size->(xf 207 #[p,xi i] w (xi k):Prop)
variable {p:ByteArray}
theorem xH8 (hp:p.size<=200) (H:EndC p n):EndC p (n+1):=by
 intro i k t w hA hk;have a1:k<=(sb p).length:=by rw[yAe];exact hk
 obtain⟨c,ys,hc,_⟩:=hA.first;obtain⟨ae,_,aH⟩:=yCl hc a1;obtain⟨hi,gi⟩:=yAr ae;have zi:(i:Int)<(p.size:Int):=qo
 have ar:=yAw (p:=sb p) (i:=i) a1;have HP:Hid ((sb p)[i]?=some c/\(cut (sb p) i k).length=k-i):=⟨ae,ar⟩;clear hc ae ar;have one:∀d,¬d=92->¬d=91->¬d=40->c=d->k=i+1->(xf 207 #[p,xi i] w (xi k):Prop):=λd h92 h91 h40 a0 a2=>by
  subst a0 a2;have aN:((c.toNat:Int)==92)=false:=beq_eq_false_iff_ne.2 (yA8 (c:=92) h92);have aO:((c.toNat:Int)==91)=false:=beq_eq_false_iff_ne.2 (yA8 (c:=91) h91);have aQ:((c.toNat:Int) != 40)=true:=by have:=yA8 (c:=40) h40;simpa using this
  go_enter func207,ntmps207;go_wp2;go_ret;exact⟨rfl,Below.refl _ _⟩
 have az:=hA;rcases hA with⟨d,h1,hs,_⟩|⟨h1,_⟩|⟨d,h1,_⟩|⟨zs,os,h1,hT,_⟩|⟨q,j,m,f,h1,h2,h3,_⟩
 .have a2:k=i+1:=by have:=HP.2;rw[h1]at this;simp at this;omega
  have a0:c=d:=by have:=(yCl h1 a1).1;rw[HP.1]at this;exact Option.some.inj this
  exact one d (λq=>hs (.inr (.inr (.inr (.inr q))))) (λq=>hs (.inr (.inr (.inl q)))) (λq=>hs (.inr (.inl q))) a0 a2
 .have a2:k=i+1:=by have:=HP.2;rw[h1]at this;simp at this;omega
  have a0:c=46:=by have:=(yCl h1 a1).1;rw[HP.1]at this;exact Option.some.inj this
  exact one 46 qj qj qj a0 a2
 .have a2:k=i+2:=by have:=HP.2;rw[h1]at this;simp at this;omega
  have a0:c=92:=by have:=(yCl h1 a1).1;rw[HP.1]at this;exact Option.some.inj this
  subst a0 a2;clear one;go_enter func207,ntmps207;go_wp2;go_ret;exact⟨rfl,Below.refl _ _⟩
 .obtain⟨af,ao,_⟩:=yCl (zs:=zs++ [41]) (by simpa using h1) a1;have aK:c=40:=by rw[HP.1]at af;exact Option.some.inj af
  subst aK;obtain⟨ab,aa,an⟩:=yTt ao a1;obtain⟨e,he⟩:=qE (i+1+zs.length);rw[<-he]at ab aa an;obtain⟨aA,am,aX⟩:=yCl aa a1;have a2:k=e+1:=by have h3:=yAw (p:=sb p) (i:=e+1) a1;rw[am]at h3;simp at h3;omega
  obtain⟨aW,ge⟩:=yAr aA;have HT:Hid (TokG (yAm n) (cut (sb p) (i+1) e)):=by show TokG (yAm n) (cut (sb p) (i+1) e);rw[ab];exact hT.tok
  have aI:i+1<=e:=qo
  have HK:=qH1 a2;have HH:Hid (EndC p n):=H;clear one h1 hT az ao ab aa an am aA af he a2 H;go_enter func207,ntmps207;go_wp2;go_loopw[7] (λjv wr=>∃(j:Nat),jv=(xi j)/\i+1<=j/\j<=e/\TokG (yAm n) (cut (sb p) j e)/\Below w w wr) (λjv _=>e-(intOf jv).toNat);case atStart=>exact⟨i+1,by go_num,Nat.le_refl _,aI,HT.out,Below.refl _ _⟩
  case round=>
   obtain⟨j,rfl,aV,aU,ay,hb⟩:=hrel;have ai:Hid (TokG (yAm n) (cut (sb p) j e)):=ay;have hs:=hb.size;clear ay HT;have ag:e<=(sb p).length:=by rw[yAe];omega
   have aS:j<p.size:=qo
   have zj:(j:Int)<(p.size:Int):=qo
   by_cases hje:j=e
   .subst hje;go_wp2;go_ret;exact⟨by rw[HK.out];rfl,hb⟩
   .have aG:=xAx ai.out (λys t q=>by obtain⟨c,zs,h,_⟩:=q.first;rw[h];simp);rcases aG with h0|⟨c',aC,h0,a8,a7⟩|⟨a3,aC,t',h0,ah,a7⟩
    .have h3:=yAw (p:=sb p) (i:=j) ag;rw[h0]at h3;simp at h3;omega
    .obtain⟨a5,av,aR⟩:=yCl h0 ag;obtain⟨_,gj⟩:=yAr a5;have HN:Hid (TokG (yAm n) (cut (sb p) (j+1) e)):=by show TokG (yAm n) (cut (sb p) (j+1) e);rw[av];exact a7
     have a9:((c'.toNat:Int) != 41)=true:=by
      have h5:¬c'=41:=λq=>by subst q;rcases a8 with q|q|q|q<;>exact absurd q qj
      have:=yA8 (c:=41) h5;simpa using this
     clear a5 av h0 a7 ai;by_cases h124:c'=124
     .subst h124;clear a8;exact xCq
     .have aD:((c'.toNat:Int)==124)=false:=beq_eq_false_iff_ne.2 (yA8 (c:=124) h124);have aq:isOp c':=a8.elim (λq=>absurd q h124) (λq=>q);have aj:Hid (Calls prog 142 #[.int .u8 (c'.toNat:Int)] wr λe w'=>e=.returned true/\w'=wr):=by have:=yBi c' wr;rw[decide_eq_true aq]at this;exact this
      clear a8 aq;go_wp2_with fail;refine aj.mono ?_;rintro e' w5 ⟨rfl,a4⟩;rw[a4];clear a4;exact xCq
    .obtain⟨ad,hy2,aF⟩:=yTt h0 ag;obtain⟨c',yt,ac,a9,al,ak⟩:=ah.first;have aE:0<a3.length:=by rw[ac];simp
     have au:j+a3.length<=e:=qo
     obtain⟨a5,_,_⟩:=yCl (c:=c') (zs:=yt) (by rw[ad];exact ac) (by rw[yAe];omega);obtain⟨_,gj⟩:=yAr a5;have aP:((c'.toNat:Int) != 41)=true:=by have:=yA8 (c:=41) a9;simpa using this
     have aD:((c'.toNat:Int)==124)=false:=beq_eq_false_iff_ne.2 (yA8 (c:=124) al);have aj:Hid (Calls prog 142 #[.int .u8 (c'.toNat:Int)] wr λe w'=>e=.returned false/\w'=wr):=by have:=yBi c' wr;rw[decide_eq_false ak]at this;exact this
     have HN:Hid (TokG (yAm n) (cut (sb p) (j+a3.length) e)):=by show TokG (yAm n) (cut (sb p) (j+a3.length) e);rw[hy2];exact a7
     obtain⟨m,hm⟩:=qE (j+a3.length);have aM:Hid ((xf 207 #[p,xi j] wr (xi m):Prop)):=by rw[hm];exact HH.out j (j+a3.length) t' wr (by rw[ad];exact ah) qo
     rw[<-hm]at HN au;have aT:j<m:=qo
     clear h0 a7 ai ah ad hy2 aF ac a5 a9 al ak hm aE;go_wp2_with fail;refine aj.mono ?_;rintro e' w5 ⟨rfl,a4⟩;rw[a4];clear a4;go_wp2_with fail;refine aM.mono ?_;rintro e' w6 ⟨rfl,aw⟩;have aL:=hb.trans (aw.mono hs);clear aw;refine zY ?_;exact⟨m,rfl,qo,au,HN.out,aL⟩
 .have a0:=yMs h1 h2 h3 a1 aH;have aJ:c=91:=by have:=a0.1;rw[HP.1]at this;exact Option.some.inj this
  subst aJ;have aB:=qH1 a0.2;clear one h1 h2 h3 a0 az;go_enter func207,ntmps207;go_wp2_with fail;refine(yIe p i w hp hi).mono ?_;rintro e w4 ⟨hP,ax⟩;rcases hP with⟨f',k',a6,rfl⟩|⟨c4,k',a6,rfl⟩;case inr=>rw[aB.out]at a6;cases a6
  obtain⟨rfl,rfl⟩:f=f'/\k=k':=by rw[aB.out]at a6;simpa using a6
  go_wp2;go_ret;exact⟨rfl,ax.trans ((Below.refl _ _).alloc ax.size _)⟩
theorem yKf (hp:p.size<=200):∀n,EndC p n
 |0=>λi k t w h=>h.elim
 |n+1=>xH8 hp (yKf hp n)
theorem yBc (c:UInt8) w:Calls prog 208 #[.int .u8 (c.toNat:Int)] w λe w'=>e=.returned (decide (yB3 c))/\w'=w:=by
 by_cases h42:c=42
 .subst h42;exact yK1
 by_cases h43:c=43
 .subst h43;exact yK1
 by_cases h63:c=63
 .subst h63;exact yK1
 by_cases h124:c=124
 .subst h124;exact yK1
 by_cases h40:c=40
 .subst h40;exact yK1
 by_cases h41:c=41
 .subst h41;exact yK1
 by_cases h91:c=91
 .subst h91;exact yK1
 by_cases h93:c=93
 .subst h93;exact yK1
 by_cases h46:c=46
 .subst h46;exact yK1
 by_cases h92:c=92
 .subst h92;exact yK1
 have a6:((c.toNat:Int)==42)=false:=beq_eq_false_iff_ne.2 (yA8 (c:=42) h42);have a5:((c.toNat:Int)==43)=false:=beq_eq_false_iff_ne.2 (yA8 (c:=43) h43);have a3:((c.toNat:Int)==63)=false:=beq_eq_false_iff_ne.2 (yA8 (c:=63) h63);have a9:((c.toNat:Int)==124)=false:=beq_eq_false_iff_ne.2 (yA8 (c:=124) h124);have a8:((c.toNat:Int)==40)=false:=beq_eq_false_iff_ne.2 (yA8 (c:=40) h40);have a7:((c.toNat:Int)==41)=false:=beq_eq_false_iff_ne.2 (yA8 (c:=41) h41);have a2:((c.toNat:Int)==91)=false:=beq_eq_false_iff_ne.2 (yA8 (c:=91) h91);have a0:((c.toNat:Int)==93)=false:=beq_eq_false_iff_ne.2 (yA8 (c:=93) h93);have a4:((c.toNat:Int)==46)=false:=beq_eq_false_iff_ne.2 (yA8 (c:=46) h46);have a1:((c.toNat:Int)==92)=false:=beq_eq_false_iff_ne.2 (yA8 (c:=92) h92);have H:Hid (decide (yB3 c)=false):=decide_eq_false (λq=>by rcases q with((q|q|q)|q|q|q)|q|q|q|q<;>contradiction);go_enter func208,ntmps208;go_wp2;go_ret;exact⟨by rw[H.out];rfl,rfl⟩
def yEy (w:World) (base g cp:Nat) (us:List Value):Prop:=w.ownsRow base 9 1 (xg g us.length cp) us.length us
variable {us:List Value}
theorem yEy.lt {g:Nat} (h:yEy w base g cp us):base<=g/\g<w.heap.size:=World.ownsRow.lt h g rfl
theorem yEy.below {g:Nat} (h:yEy w base g cp us) (hb:Below w w w'):yEy w' base g cp us:=yAh h (Chg.of_below hb) (S:=λ_=>False) (λk q z=>z)
theorem yL6 (w:World) (hb:base<=w.heap.size):yEy (xw w #[] 9) base w 0 []:=
 World.ownsRow_made w #[] 0 hb (zero_le _) (by simp)
theorem Tryz.infoStr:(prog.info? 9).map (λi=>(i.zero,i.size,i.bytes))=some (some (.string ⟨#[]⟩),1,16):=qk
theorem yBz {ops:Array Oper} {oo:Oper} {a:Act} (w:World) (hgd:oo.guard=none) s x
  (ho:oo.op=.call {callee:=.builtin .append,args:=#[s,x],argTypes:=#[275,275]})
  (base gq cp n b:Nat) (us:List Value) (y:Value) (hs:a.eval s=(xg gq n cp)) (hx:a.eval x=.slice (some ⟨b,0,none⟩) 1 1) (hn:n=us.length) (hO:yEy w base gq cp us)
  (hc:w.cell? (xd b 0)=some y) (hy:y.oneCell'=true) (hlen:us.length<=1000) (hbase:base<=w.heap.size)
  (h:∀g' cp' w',yEy w' base g' cp' (us++ [y])->w.grownBy w' (some gq)->(g'=gq∨g'=w.heap.size)->wpList prog ops Q rest (a.put oo.dst (.slice (some ⟨g',0,none⟩) (n+1) cp')) w'):wpList prog ops Q (oo::rest) a w:=by
 subst hn;obtain⟨i,hi,a4,a3,a2⟩:=info_parts Tryz.infoStr;refine wpList_append_own_at w hgd s x 275 ho base 9 i _ 1 16 underlying275 hi a4 a3 a2 rfl qj (xg gq us.length cp) us.length us hs hO (xd b 0) 1 1 [y] hx rfl ?_ ?_ ?_ ?_ hbase ?_
 .exact xAp
 .intro u hu;simp at hu;subst hu;exact hy
 .unfold maxLen;omega
 .omega
 .intro v' w' a1 a6 a5 a0;rcases a1.2 with⟨h0,_⟩|⟨g',a7,cur,hv,_,_,hn,a8,_,_⟩
  .have:=(a5.1 h0).1;cases this
  .subst hv;refine h g' a7 w' ?_ a6 ?_
   .unfold yEy;rw[length_append];exact a1
   .simp[Value.ownBlock]at a0;exact a0
theorem yRv (h:TokN A k xs):k<=xs.length:=by
 induction h with
 |nil=>exact Nat.le_refl _
 |bar _ ih=>simpa using ih
 |op _ _ ih=>simp;omega
 |atom _ _ ih=>simp;omega
structure PaJ (p:ByteArray) (n k:Nat) (w:World) (j m g cp:Nat) (us:List Value) (wr:World):Prop where
 tok:TokN (yAm n) m (cut (sb p) j p.size)
 cnt:us.length+m=k
 own:yEy wr w g cp us
 below:Below w w wr
theorem PaJ.move {g:Nat} {wr:World} (h:PaJ p n k w j m g cp us wr) (hb:Below wr wr w') {j' m':Nat} (ht:TokN (yAm n) m' (cut (sb p) j' p.size)) (hm:m=m'):PaJ p n k w j' m' g cp us w':=
 ⟨ht,by rw[<-hm];exact h.cnt,h.own.below hb,h.below.trans (hb.mono h.below.size)⟩
theorem yQ (hp:p.size<=200) (h:TokN (yAm n) k (cut (sb p) 0 p.size)) (w:World):Calls prog 206 #[p] w λe w'=>∃g cp,e=.returned (xg g (k+1) cp)/\Below w w w':=by
 have az:k<=200:=by have h1:=yRv h;rw[yAw (by rw[yAe];exact Nat.le_refl _)]at h1;omega
 have ai:p.size<=(sb p).length:=by rw[yAe];exact Nat.le_refl _
 have a8:=qH1 ai;obtain⟨W0,ac⟩:=qW (xw w #[] 9);have al:Hid (PaJ p n k w 0 k w 0 [] W0):=by rw[ac];exact⟨h,by simp,yL6 w qr,qB⟩
 clear h ai;go_enter func206,ntmps206;go_upto_region 2 with fail;rw[<-ac];clear ac;go_wp2;go_loopw[3,4,5] (λo fv jv wr=>∃(j f m g cp:Nat) (us:List Value),jv=(xi j)/\fv=(xi f)/\f<=j/\j<=p.size/\us.length<=k/\o=(xg g us.length cp)/\PaJ p n k w j m g cp us wr) (λ_ _ jv _=>p.size-(intOf jv).toNat);case atStart=>exact⟨0,0,k,_,0,[],rfl,rfl,Nat.le_refl _,zero_le _,zero_le _,rfl,al.out⟩
 case round=>
  obtain⟨j,f,m,g,cp,us,rfl,rfl,aF,aB,ag,rfl,hJ⟩:=hrel;have HJ:=qH1 hJ;have aE:=hJ.own.lt;have ah:=hJ.below.size;clear hJ al;have z1:(f:Int)<=(j:Int):=qo
  have z2:(j:Int)<=(p.size:Int):=qo
  by_cases hlt:j<p.size
  .have zj:(j:Int)<(p.size:Int):=qo
   rcases yI9 HJ.tok with⟨h0,_⟩|⟨m',zs,h0,hm,hT⟩|⟨c,zs,h0,a6,hT⟩|⟨ys,zs,t,h0,hA,hT⟩
   .have h3:=yAw (p:=sb p) (i:=j) a8.out;rw[h0]at h3;simp at h3;omega
   .obtain⟨a0,a4,_⟩:=yCl h0 a8.out;obtain⟨_,gj⟩:=yAr a0;have HT:=qH2 (by rw[a4];exact hT:TokN (yAm n) m' (cut (sb p) (j+1) p.size)) hm;clear h0 hT hm a0 a4;go_wp2_with (at_builtin;refine yBz _ rfl _ _ rfl w g cp us.length wr us (p.extract f j) rfl rfl rfl ?hO ?hc ?hy ?hl ?hb ?_);case hO=>exact HJ.own.below (qB)
    case hc=>simp
    case hy=>rfl
    case hl=>omega
    case hb=>simp;omega
    intro g' a5 w' a7 a3 ab;have am:Hid (∃y,PaJ p n k w (j+1) m' g' a5 (us++ [y]) w'/\us.length+1<=k):=by refine⟨_,⟨HT.1,by have:=HJ.cnt;have:=HT.2;simp;omega,a7,?_⟩,qv HJ.cnt HT.2⟩;exact(HJ.below.trans ((Below.refl _ _).alloc ah _)).grown a3 (by simp;omega) (λj hj=>by cases hj;omega)
    clear a7 a3 ab;obtain⟨y,ak,aA⟩:=am.out;have aw:Hid (PaJ p n k w (j+1) m' g' a5 (us++ [y]) w'):=ak;clear ak am;refine zY ?_;exact⟨j+1,j+1,m',g',a5,us++ [y],by go_num,by go_num,Nat.le_refl _,qo,by simp;omega,by simp,aw.out⟩
   .obtain⟨a0,a4,_⟩:=yCl h0 a8.out;obtain⟨_,gj⟩:=yAr a0;have HT:Hid (TokN (yAm n) m (cut (sb p) (j+1) p.size)):=by show TokN (yAm n) m (cut (sb p) (j+1) p.size);rw[a4];exact hT
    have an:((c.toNat:Int)==124)=false:=beq_eq_false_iff_ne.2 (yA8 (c:=124) (λq=>by subst q;exact absurd a6 qj));have ad:Hid (Calls prog 142 #[.int .u8 (c.toNat:Int)] wr λe w'=>e=.returned true/\w'=wr):=by have:=yBi c wr;rw[decide_eq_true a6]at this;exact this
    clear h0 hT a0 a4 a6;go_wp2_with fail;refine ad.mono ?_;rintro e' w5 ⟨rfl,a2⟩;rw[a2];clear a2;refine zY ?_;exact⟨j+1,f,m,g,cp,us,by go_num,rfl,qo,qo,ag,rfl,HJ.move (Below.refl _ _) HT.out rfl⟩
   .obtain⟨a9,hy2,ar⟩:=yTt h0 a8.out;obtain⟨c,yt,a1,ao,af,ae⟩:=hA.first;have aq:0<ys.length:=by rw[a1];simp
    have au:j+ys.length<=p.size:=qo
    obtain⟨a0,_,_⟩:=yCl (c:=c) (zs:=yt) (by rw[a9];exact a1) (by rw[yAe];omega);obtain⟨_,gj⟩:=yAr a0;have an:((c.toNat:Int)==124)=false:=beq_eq_false_iff_ne.2 (yA8 (c:=124) af);have ad:Hid (Calls prog 142 #[.int .u8 (c.toNat:Int)] wr λe w'=>e=.returned false/\w'=wr):=by have:=yBi c wr;rw[decide_eq_false ae]at this;exact this
    obtain⟨i2,aa⟩:=qE (j+ys.length);have HT:Hid (TokN (yAm n) m (cut (sb p) i2 p.size)):=by show TokN (yAm n) m (cut (sb p) i2 p.size);rw[aa,hy2];exact hT
    have ax:Hid ((xf 207 #[p,xi j] wr (xi i2):Prop)):=by rw[aa];exact yKf hp n j (j+ys.length) t wr (by rw[a9];exact hA) qo
    have aD:j<i2:=qo
    have aC:i2<=p.size:=qo
    clear h0 hT hA a9 hy2 ar a1 a0 ao af ae aa aq au;go_wp2_with fail;refine ad.mono ?_;rintro e' w5 ⟨rfl,a2⟩;rw[a2];clear a2;go_wp2_with fail;refine ax.mono ?_;rintro e' w6 ⟨rfl,aj⟩;have av:=qH1 (HJ.move aj HT.out rfl);clear aj;refine zY ?_;exact⟨i2,f,m,g,cp,us,rfl,rfl,qo,qo,ag,rfl,av.out⟩
  .have zj:¬(j:Int)<(p.size:Int):=qo
   obtain rfl:j=p.size:=qo
   have ay:m=0:=by
    rcases yI9 HJ.tok with⟨_,h0⟩|⟨m',zs,h0,hm,hT⟩|⟨c,zs,h0,a6,hT⟩|⟨ys,zs,t,h0,hA,hT⟩
    .exact h0
    .rw[yDe]at h0;cases h0
    .rw[yDe]at h0;cases h0
    .rw[yDe]at h0;obtain⟨c,yt,a1,_⟩:=hA.first;rw[a1]at h0;cases h0
   have HM:Hid (us.length=k):=by have:=HJ.cnt;show us.length=k;omega
   go_wp2_with (at_builtin;refine yBz _ rfl _ _ rfl w g cp us.length wr us (p.extract f p.size) rfl rfl rfl ?hO ?hc ?hy ?hl ?hb ?_);case hO=>exact HJ.own.below (qB)
   case hy=>rfl
   case hl=>omega
   case hb=>first|omega|(simp;omega)
   intro g' a5 w' a7 a3 ab;have HB:=qH1 ((HJ.below.trans ((Below.refl _ _).alloc ah _)).grown a3 (by simp;omega) (λj hj=>by cases hj;omega));clear a7 a3 ab;go_wp2;go_ret;refine⟨g',a5,?_,HB.out⟩;rw[<-HM.out];first|rfl|trace_state
variable {f:Nat}
theorem yB0 (p:ByteArray) (hj:j<=p.size):sb (p.extract f j)=cut (sb p) f j:=by unfold sb cut;simp[ByteArray.data_extract,extract_eq_take_drop]
structure PaS (n:Nat) (p:List UInt8) (os:List (List Pat)) (j f i:Nat) (r:List UInt8):Prop where
 ri:r=cut p j (j+r.length)
 rl:j+r.length<=p.length
 fj:f<=j
 tok:TokN (yAm n) 0 r
 cur:∃ts,os[i]?=some ts/\SeqG (yAm n) ts (cut p f (j+r.length))
 rest:(j+r.length=p.length/\i+1=os.length)∨(p[j+r.length]?=some 124/\AltG (yAm n) (os.drop (i+1)) (cut p (j+r.length+1) p.length))
theorem yUz {p:List UInt8} (hj:j<=p.length) (h:AltG (yAm n) (os.drop i) (cut p j p.length)):∃r,PaS n p os j j i r:=by
 rcases hd:os.drop i with _|⟨ts,_|⟨o,a0⟩⟩
 .rw[hd]at h;exact h.elim
 .rw[hd]at h;have hl:=yAw (p:=p) (i:=j) (k:=p.length) qr;have a1:i+1=os.length:=by have:=congrArg List.length hd;simp at this;omega
  have h0:os[i]?=some ts:=by have:=congrArg (λl=>l[0]?) hd;simpa using this
  refine⟨cut p j p.length,?_,by omega,Nat.le_refl _,SeqG.tokn h,⟨ts,h0,?_⟩,.inl ⟨by omega,a1⟩⟩
  .rw[hl,show j+(p.length-j)=p.length by omega]
  .rw[hl,show j+(p.length-j)=p.length by omega];exact h
 .rw[hd]at h;obtain⟨ys,zs,h1,h2,h3⟩:=h;obtain⟨k1,k2,k3⟩:=yQ4 h1 qr hj;obtain⟨g1,g2,g3⟩:=yHo k2 qr;have h0:os[i]?=some ts:=by have:=congrArg (λl=>l[0]?) hd;simpa using this
  have a2:os.drop (i+1)=o::a0:=by have:=congrArg List.tail hd;simpa using this
  exact⟨ys,k1.symm,k3,Nat.le_refl _,SeqG.tokn h2,⟨ts,h0,by rw[k1];exact h2⟩,.inr ⟨g1,by rw[a2,g2];exact h3⟩⟩
variable {x:List UInt8}
theorem PaS.next {p:List UInt8} {r:List UInt8} (h:PaS n p os j f i (x++r)) (ht:TokN (yAm n) 0 r):PaS n p os (j+x.length) f i r:=by
 have hl:j+x.length+r.length=j+(x++r).length:=by simp;omega
 have a1:=h.ri;have a0:=h.rl;rw[<-hl]at a1 a0;obtain⟨_,k2,_⟩:=yQ4 a1.symm a0 qo;refine⟨?_,a0,by have:=h.fj;omega,ht,?_,?_⟩
 .exact k2.symm
 .rw[hl];exact h.cur
 .rw[hl];exact h.rest
def yRj (n:Nat) (os:List (List Pat)) (us:List Value) (m:Nat):Prop:=∀(t:Nat) (u:Value),us[t]?=some u->∃s ts,u=.string s/\os[t]?=some ts/\SeqG (yAm n) ts (sb s)/\s.size<=m
theorem yRj.snoc (h:yRj n os us m) {s:ByteArray} (ho:os[us.length]?=some ts) (hs:SeqG (yAm n) ts (sb s)) (hm:s.size<=m):yRj n os (us++ [.string s]) m:=by
 intro t u hu;rcases Nat.lt_or_ge t us.length with q|q
 .rw[getElem?_append_left q]at hu;exact h t u hu
 .have ht:t=us.length:=by have:=qf hu;simp at this;omega
  subst ht;simp at hu;subst hu;exact⟨s,ts,rfl,ho,hs,hm⟩
structure PaK (p:ByteArray) (n:Nat) (os:List (List Pat)) (w:World) (j f g cp:Nat) (us:List Value) (wr:World):Prop where
 st:∃r,PaS n (sb p) os j f us.length r
 strs:yRj n os us p.size
 own:yEy wr w g cp us
 below:Below w w wr
theorem PaK.move {g:Nat} {wr:World} (h:PaK p n os w j f g cp us wr) (hb:Below wr wr w') {j':Nat} (hs:∃r,PaS n (sb p) os j' f us.length r):PaK p n os w j' f g cp us w':=
 ⟨hs,h.strs,h.own.below hb,h.below.trans (hb.mono h.below.size)⟩
def PrtP (n:Nat) (os:List (List Pat)) (m:Nat) (w:World) (e:Ending) (w':World):Prop:=∃g cp us,e=.returned (xg g os.length cp)/\us.length=os.length/\Hid (yEy w' w g cp us/\yRj n os us m)/\Below w w w'
theorem yP9 (hp:p.size<=200) (h:AltG (yAm n) os (sb p)) w:Calls prog 206 #[p] w (PrtP n os p.size w):=by
 have a5:=(yAe p).symm;have au:cut (sb p) 0 p.size=sb p:=by show(List.drop 0 (sb p)).take (p.size-0)=sb p;rw[drop_zero,Nat.sub_zero,take_of_length_le (Nat.le_of_eq a5.symm)]
 have aF:os.length<=201:=by obtain⟨k,h1,h2⟩:=h.tokn;have:=yRv h2;rw[<-a5]at this;omega
 have a3:=qH1 a5;obtain⟨W0,ai⟩:=qE (xw w #[] 9:World);have ax:Hid (PaK p n os w 0 0 w 0 [] W0):=by rw[ai];refine⟨yUz (zero_le _) ?_,λt u hu=>by simp at hu,yL6 w qr,qB⟩;rw[<-a5,au];exact h
 clear h a5 au;go_enter func206,ntmps206;go_upto_region 2 with fail;rw[<-ai];clear ai;go_wp2_with fail;go_loopw[3,4,5] (λo fv jv wr=>∃(j f g cp m:Nat) (us:List Value),jv=(xi j)/\fv=(xi f)/\f<=j/\j<=p.size/\m<=201/\o=(xg g m cp)/\Hid (PaK p n os w j f g cp us wr/\m=us.length)) (λ_ _ jv _=>p.size-(intOf jv).toNat);case atStart=>exact⟨0,0,_,0,0,[],rfl,rfl,Nat.le_refl _,zero_le _,zero_le _,rfl,ax.out,rfl⟩
 case round=>
  obtain⟨j,f,g,cp,m,us,rfl,rfl,aJ,af,ao,rfl,HJ⟩:=hrel;have aI:=HJ.1.own.lt;have am:=HJ.1.below.size;clear ax;have z1:(f:Int)<=(j:Int):=qo
  have z2:(j:Int)<=(p.size:Int):=qo
  obtain⟨r,hS⟩:=HJ.1.st;have HP:=qH1 hS;clear hS;by_cases hlt:j<p.size
  .have zj:(j:Int)<(p.size:Int):=qo
   rcases yI9 HP.tok with⟨h0,_⟩|⟨m',zs,h0,hm,hT⟩|⟨c,zs,h0,ae,hT⟩|⟨ys,zs,t,h0,hA,hT⟩
   .have ad:(sb p)[j]?=some 124/\AltG (yAm n) (os.drop (us.length+1)) (cut (sb p) (j+1) (sb p).length):=by
     rcases HP.rest with⟨q,_⟩|q
     .rw[h0]at q;simp at q;have:=a3.out;omega
     .rw[h0]at q;simpa using q
    obtain⟨ts,a2,a1⟩:=HP.cur;rw[h0]at a1;simp only[length_nil,Nat.add_zero]at a1;obtain⟨_,gj⟩:=yAr ad.1;have HT:Hid (AltG (yAm n) (os.drop (us.length+1)) (cut (sb p) (j+1) (sb p).length)/\os[us.length]?=some ts/\SeqG (yAm n) ts (sb (p.extract f j))/\us.length+1<=os.length):=by refine⟨ad.2,a2,by rw[yB0 p af];exact a1,qf a2⟩
    have HM:=qH1 HJ.2;clear h0 ad a2 a1;go_wp2_with (at_builtin;refine yBz _ rfl _ _ rfl w g cp m wr us (p.extract f j) rfl rfl HM.out ?hO ?hc ?hy ?hl ?hb ?_);case hO=>exact HJ.1.own.below (qB)
    case hy=>rfl
    case hl=>rw[<-HM.out];omega
    case hb=>first|omega|(simp;omega)
    intro g' a9 w' a8 a7 ah;have aD:Hid (PaK p n os w (j+1) (j+1) g' a9 (us++ [.string (p.extract f j)]) w'/\m+1=(us++ [Value.string (p.extract f j)]).length):=by
     refine⟨⟨?_,HJ.1.strs.snoc HT.2.1 HT.2.2.1 (by rw[<-yAe,yB0 p af,yAw (by rw[yAe];exact af)];omega),a8,?_⟩,by rw[HM.out];simp⟩
     .rw[length_append,length_singleton];exact yUz (by have:=a3.out;omega) HT.1
     .exact(HJ.1.below.trans ((Below.refl _ _).alloc am _)).grown a7 (by simp;omega) (λj hj=>by cases hj;omega)
    have aB:m+1<=201:=by have h1:=HT.2.2.2;have h2:=HM.out;omega
    clear a8 a7 ah;go_wp2_with fail;go_roundw;case rel=>exact⟨j+1,j+1,g',a9,m+1,us++ [.string (p.extract f j)],by go_num,by go_num,Nat.le_refl _,qo,aB,by first|rfl|go_num,aD⟩
    case measure=>simp[intOf];omega
   .omega
   .have a0:=HP.out;rw[h0]at a0;have av:cut (sb p) j (j+(c::zs).length)=c::zs:=a0.ri.symm;obtain⟨a6,_,_⟩:=yHo av (by have:=a0.rl;exact this);obtain⟨_,gj⟩:=yAr a6;have HT:Hid (PaS n (sb p) os (j+1) f us.length zs):=PaS.next (x:= [c]) a0 hT;have ay:((c.toNat:Int)==124)=false:=beq_eq_false_iff_ne.2 (yA8 (c:=124) (λq=>by subst q;exact absurd ae qj));have aj:Hid (Calls prog 142 #[.int .u8 (c.toNat:Int)] wr λe w'=>e=.returned true/\w'=wr):=by have:=yBi c wr;rw[decide_eq_true ae]at this;exact this
    clear h0 hT a6 ae a0 av;go_wp2_with fail;refine aj.mono ?_;rintro e' w5 ⟨rfl,a4⟩;rw[a4];clear a4;go_wp2_with fail;go_roundw;case rel=>exact⟨j+1,f,g,cp,m,us,by go_num,rfl,qo,qo,ao,rfl,HJ.1.move (Below.refl _ _) ⟨_,HT.out⟩,HJ.2⟩
    case measure=>simp[intOf];omega
   .have a0:=HP.out;rw[h0]at a0;obtain⟨c,yt,aa,az,al,ak⟩:=hA.first;have aA:0<ys.length:=by rw[aa];simp
    have ac:=a0.rl;have aq:j+ys.length<=p.size:=by rw[length_append]at ac;have:=a3.out;omega
    obtain⟨ab,_,_⟩:=yQ4 a0.ri.symm ac qo;obtain⟨a6,_,_⟩:=yHo (c:=c) (zs:=yt) (by rw[ab];exact aa) (by rw[<-a3.out];exact aq);obtain⟨_,gj⟩:=yAr a6;have ay:((c.toNat:Int)==124)=false:=beq_eq_false_iff_ne.2 (yA8 (c:=124) al);have aj:Hid (Calls prog 142 #[.int .u8 (c.toNat:Int)] wr λe w'=>e=.returned false/\w'=wr):=by have:=yBi c wr;rw[decide_eq_false ak]at this;exact this
    obtain⟨i2,ag⟩:=qE (j+ys.length);have HT:Hid (PaS n (sb p) os i2 f us.length zs):=by rw[ag];exact PaS.next a0 hT
    have aE:Hid ((xf 207 #[p,xi j] wr (xi i2):Prop)):=by rw[ag];exact yKf hp n j (j+ys.length) t wr (by rw[ab];exact hA) qo
    have aH:j<i2:=qo
    have aG:i2<=p.size:=qo
    clear h0 hT hA ab aa a6 az al ak ag aA aq a0 ac;go_wp2_with fail;refine aj.mono ?_;rintro e' w5 ⟨rfl,a4⟩;rw[a4];clear a4;go_wp2_with fail;refine aE.mono ?_;rintro e' w6 ⟨rfl,aw⟩;have aC:=qH2 (HJ.1.move aw ⟨_,HT.out⟩) HJ.2;clear aw;go_wp2_with fail;go_roundw;case rel=>exact⟨i2,f,g,cp,m,us,rfl,rfl,qo,qo,ao,rfl,aC.out⟩
    case measure=>simp[intOf];omega
  .have zj:¬(j:Int)<(p.size:Int):=qo
   obtain rfl:j=p.size:=qo
   have an:r= []:=by have h1:=HP.rl;have h2:=a3.out;exact length_eq_zero_iff.1 qo
   have ar:us.length+1=os.length:=by
    rcases HP.rest with⟨_,q⟩|⟨q,_⟩
    .exact q
    .have:=yAn q;have:=a3.out;omega
   obtain⟨ts,a2,a1⟩:=HP.cur;rw[an]at a1;simp only[length_nil,Nat.add_zero]at a1;have HT:=qH3 a2 (by rw[yB0 p qr];exact a1:SeqG (yAm n) ts (sb (p.extract f p.size))) ar;have HM:=qH1 HJ.2;clear an ar a2 a1;go_wp2_with (at_builtin;refine yBz _ rfl _ _ rfl w g cp m wr us (p.extract f p.size) rfl rfl HM.out ?hO2 ?hc2 ?hy2 ?hl2 ?hb2 ?_);case hO2=>exact HJ.1.own.below (qB)
   case hy2=>rfl
   case hl2=>rw[<-HM.out];omega
   case hb2=>first|omega|(simp;omega)
   intro g' a9 w' a8 a7 ah;have HR:Hid (PrtP n os p.size w (.returned (xg g' (m+1) a9)) w'):=by refine⟨g',a9,us++ [.string (p.extract f p.size)],?_,by rw[length_append,length_singleton];exact HT.2.2,⟨a8,HJ.1.strs.snoc HT.1 HT.2.1 (by rw[<-yAe,yB0 p qr,yAw (by rw[yAe];exact Nat.le_refl _)];omega)⟩,(HJ.1.below.trans ((Below.refl _ _).alloc am _)).grown a7 (by simp;omega) (λj hj=>by cases hj;omega)⟩;rw[HM.out,HT.2.2]
   clear a8 a7 ah;go_wp2_with fail;go_ret;exact HR.out
variable {ρ γ ρ' γ':Nat->Nat}
theorem ySf {N:Nat} (h:∀i,i<k->ρ' i=ρ i/\γ' i=γ i):yNl N k ρ' γ'=yNl N k ρ γ:=by unfold yNl;apply map_congr_left;intro i hi;rw[mem_range]at hi;rw[(h i hi).1,(h i hi).2]
def updN (ρ:Nat->Nat) (k r:Nat):Nat->Nat:=λi=>if i=k then r else ρ i
theorem yE2 (ρ:Nat->Nat) (k r:Nat) (h:i<k):updN ρ k r i=ρ i:=by simp[updN,ne_of_lt h]
theorem yHc (ρ:Nat->Nat) (k r:Nat):updN ρ k r k=r:=by simp[updN]
structure RowJ (w wi:World) (n g cp k r c j:Nat) (ρ γ:Nat->Nat):Prop where
 row:BRow wi w r c j (λ_=>false)
 mat:MatO wi w g cp (n+1) k ρ γ (λ_ _=>false)
 off:∀i,i<k->ρ i≠r
 below:Below w w wi
variable {wi:World} {r:Nat}
theorem RowJ.move {g c:Nat} (h:RowJ w wi n g cp k r c j ρ γ) (hb:Below wi wi w'):RowJ w w' n g cp k r c j ρ γ:=
 ⟨h.row.chg (S:=λ_=>False) (Chg.of_below hb) (λq=>q),h.mat.below hb,h.off,h.below.trans (hb.mono h.below.size)⟩
theorem RowJ.next {g c r' c':Nat} (h:RowJ w wi n g cp k r c j ρ γ) (hr:BRow w' w r' c' (j+1) (λ_=>false)) (hg:wi.grownBy w' (some r)) (hat:r'=r∨r'=wi.heap.size):RowJ w w' n g cp k r' c' (j+1) ρ γ:=by
 have a0:Chg (λb=>b=r) wi w':=Chg.of_grown hg (λb hb=>by cases hb;rfl);have a1:=h.row.lt;refine⟨hr,h.mat.chg a0 (λq=>(h.row.off h.mat.out) q.symm) (λi hi=>h.off i hi),λi hi=>?_,Chg.below h.below a0 h.below.size (λb hb=>by omega)⟩;rcases hat with q|q
 .rw[q];exact h.off i hi
 .rw[q];have:=(h.mat.row i hi).lt.2;omega
variable {g' cp':Nat}
theorem RowJ.done {g c:Nat} (h:RowJ w wi n g cp k r c (n+1) ρ γ) (ho:ORow w' w g' cp' (n+1) (k+1) (updN ρ k r) (updN γ k c)) (hg:wi.grownBy w' (some g)):
  MatO w' w g' cp' (n+1) (k+1) (updN ρ k r) (updN γ k c) (λ_ _=>false)/\Below w w w':=by
 have a0:Chg (λb=>b=g) wi w':=Chg.of_grown hg (λb hb=>by cases hb;rfl);have a1:=h.mat.out.lt;refine⟨⟨ho,λi hi=>?_,λi j hi hj hne=>?_⟩,Chg.below h.below a0 h.below.size (λb hb=>by omega)⟩
 .by_cases e:i=k
  .subst e;rw[yHc,yHc];exact h.row.chg a0 (λq=>h.row.off h.mat.out q)
  .rw[yE2 _ _ _ qo,yE2 _ _ _ qo];exact(h.mat.row i qo).chg a0 (λq=>(h.mat.row i qo).off h.mat.out q)
 .by_cases e:i=k
  .subst e;rw[yHc,yE2 _ _ _ qo];exact λq=>h.off j qo q.symm
  .by_cases e':j=k
   .subst e';rw[yHc,yE2 _ _ _ qo];exact h.off i qo
   .rw[yE2 _ _ _ qo,yE2 _ _ _ qo];exact h.mat.inj i j qo qo hne
theorem yBn (n:Nat) (hn:n<=1000) w:Calls prog 223 #[xi n] w (MaP (n+1) (λ_ _=>false) w):=by
 obtain⟨W0,a4⟩:=qE (xw w #[] 118:World);have ab:Hid (MatO W0 w w 0 (n+1) 0 (λ_=>0) (λ_=>0) (λ_ _=>false)/\Below w w W0):=by rw[a4];exact⟨⟨World.ownsRow_lit w #[] 0 qr qj qj,λi hi=>qo,λi j hi=>qo⟩,qB⟩
 go_enter func223,ntmps223;go_upto_region 2 with fail;rw[<-a4];clear a4;go_wp2_with fail;go_loopw[3,4] (λov iv wr=>∃(k g cp:Nat) (ρ γ:Nat->Nat),k<=n+1/\iv=(xi k)/\ov=slV g k cp/\Hid (MatO wr w g cp (n+1) k ρ γ (λ_ _=>false)/\Below w w wr)) (λ_ iv _=>n+1-(intOf iv).toNat);case atStart=>exact⟨0,_,0,_,_,zero_le _,rfl,rfl,ab.out⟩
 case round=>
  obtain⟨k,g,cp,ρ,γ,hk,rfl,rfl,HM⟩:=hrel;obtain⟨Wr,a8⟩:=qE (wr:World);subst a8;by_cases hlt:k<=n
  .have zk:(k:Int)<=(n:Int):=qo
   obtain⟨W1,a2⟩:=qE (xw Wr #[] 4:World);obtain⟨r0,a3⟩:=qE Wr.heap.size;have ad:Hid (RowJ w W1 n g cp k r0 0 0 ρ γ):=by
    have a7:=qN a2
    refine⟨?_,HM.1.below a7,λi hi q=>?_,HM.2.trans (a7.mono HM.2.size)⟩
    .rw[a2,a3];exact World.ownsRow_lit Wr #[] 0 HM.2.size qj qj
    .have:=(HM.1.row i hi).lt.2;omega
   go_upto_region 6 with fail;rw[<-a2,<-a3];clear a2 a3;go_wp2_with fail;go_loopw[5,6] (λrv jv wi=>∃(j r c:Nat),j<=n+1/\jv=(xi j)/\rv=slV r j c/\Hid (RowJ w wi n g cp k r c j ρ γ)) (λ_ jv _=>n+1-(intOf jv).toNat);case atStart=>exact⟨0,r0,0,zero_le _,rfl,rfl,ad.out⟩
   case round=>
    obtain⟨j,r,c,hj,rfl,rfl,HJ⟩:=hrel;by_cases hlj:j<=n
    .have zj:(j:Int)<=(n:Int):=qo
     have HA:Hid (RowJ w (xw wr #[false] 4) n g cp k r c j ρ γ/\w.heap.size<=(wr.alloc (Obj.cells #[false] 4)).heap.size):=by have h1:=HJ.move ((Below.refl wr wr).alloc qr (Obj.cells #[false] 4));exact⟨h1,h1.below.size⟩
     go_wp2_with (at_builtin;refine yIm _ rfl _ _ rfl w r c j wr 1 (λ_=>false) false rfl rfl HA.1.row (by simp[go_sem]) rfl qo HA.2 ?_);intro r' c' w' a5 a0 a1;have ac:=qH1 (HA.1.next a5 a0 (by simpa using a1));clear a5 a0 a1;go_wp2_with fail;go_roundw;case rel=>exact⟨j+1,r',c',qo,by go_num,rfl,ac.out⟩
     case measure=>simp[intOf];omega
    .obtain rfl:j=n+1:=qo
     have zj:¬(((n+1:Nat):Int))<=(n:Int):=qo
     have HA:Hid (RowJ w (xw wr #[slV r (n+1) c] 118) n g cp k r c (n+1) ρ γ/\w.heap.size<=(wr.alloc (Obj.cells #[slV r (n+1) c] 118)).heap.size/\ORow (xw wr #[slV r (n+1) c] 118) w g cp (n+1) k (updN ρ k r) (updN γ k c)):=by have h1:=HJ.move ((Below.refl wr wr).alloc qr (Obj.cells #[slV r (n+1) c] 118));refine⟨h1,h1.below.size,?_⟩;have h2:=h1.mat.out;unfold ORow at h2⊢;rw[ySf (λi hi=>⟨yE2 ρ k r hi,yE2 γ k c hi⟩)];exact h2
     go_wp2_with (at_builtin;refine yH _ rfl _ _ rfl w g cp (n+1) k wr 1 r c (updN ρ k r) (updN γ k c) rfl rfl HA.2.2 (by simp[go_sem]) (yHc _ _ _) (yHc _ _ _) qo HA.2.1 ?_);intro g' a9 w' a6 a0 a1;have aa:=qH1 (HA.1.done a6 a0);clear a6 a0 a1;go_wp2_with fail;go_roundw;case rel=>exact⟨k+1,g',a9,updN ρ k r,updN γ k c,qo,by go_num,rfl,aa.out⟩
     case measure=>simp[intOf];omega
  .obtain rfl:k=n+1:=qo
   have zk:¬(((n+1:Nat):Int))<=(n:Int):=qo
   go_wp2_with fail;go_ret;exact⟨g,cp,ρ,γ,rfl,HM.1,HM.2⟩
def MaF (N:Nat) (F:Nat->Nat->Bool) (w:World) (r:Ending) (w':World):Prop:=∃g cp ρ γ f,r=.returned (slV g N cp)/\Hid (MatO w' w g cp N N ρ γ f/\∀i j,i<=j->j<N->f i j=F i j)/\Below w w w'
theorem yQc (n:Nat) (hn:n<=1000) w:Calls prog 239 #[xi n] w (MaF (n+1) (λi j=>i==j) w):=by
 go_enter func239,ntmps239;go_wp2_with fail;refine(yBn n hn w).mono ?_;rintro r w1 ⟨g,cp,ρ,γ,rfl,HM,a1⟩;have a4:=HM.out.out.caps;go_wp2;go_loopw[4] (λiv wr=>∃(k:Nat) (f:Nat->Nat->Bool),k<=n+1/\iv=(xi k)/\Hid (MatO wr w g cp (n+1) (n+1) ρ γ f/\(∀i j,i<=j->j<n+1->f i j=(i==j && decide (i<k)))/\Below w w wr)) (λiv _=>n+1-(intOf iv).toNat);case atStart=>exact⟨0,_,zero_le _,rfl,HM.out,λi j _ _=>by simp,a1⟩
 case round=>
  obtain⟨k,f,hk,rfl,HJ⟩:=hrel;by_cases hlt:k<=n
  .have zk:(k:Int)<=(n:Int):=qo
   have a0:k<n+1:=qo
   have c0:=HJ.1.cell a0;have c1:=(HJ.1.row k a0).cell a0;have z1:wr.frozen? (xd (ρ k) k)=false:=World.ownsRow.frozenAt (HJ.1.row k a0) _;have a3:=(HJ.1.row k a0).caps;have a2:Hid (MatO (xt wr (ρ k) k true) w g cp (n+1) (n+1) ρ γ (upd2 f k k true)/\(∀i j,i<=j->j<n+1->upd2 f k k true i j=(i==j && decide (i<k+1)))/\Below w w (xt wr (ρ k) k true)):=by
    refine⟨HJ.1.set a0 a0 true,λi j hij hj=>?_,yAc HJ.2.2 (HJ.1.row k a0).lt.1 _ _⟩;unfold upd2;by_cases e:i=k/\j=k
    .rw[if_pos e];simp[e.1,e.2]
    .rw[if_neg e,HJ.2.1 i j hij hj];rw[Bool.eq_iff_iff];simp only[Bool.or_eq_true,Bool.and_eq_true,decide_eq_true_eq,beq_iff_eq];omega
   have zr:(k:Int)<(((n+1:Nat)):Int):=qo
   refine zY ?_;exact⟨k+1,upd2 f k k true,qo,by go_num,a2.out⟩
  .obtain rfl:k=n+1:=qo
   have zk:¬(((n+1:Nat):Int))<=(n:Int):=qo
   go_wp2;go_ret;refine⟨g,cp,ρ,γ,f,rfl,⟨HJ.1,λi j hij hj=>?_⟩,HJ.2.2⟩;rw[HJ.2.1 i j hij hj];have:i<n+1:=qo
   simp[this]
def orF (fa fb:Nat->Nat->Bool) (k j:Nat):Nat->Nat->Bool:=λx y=>(fa x y || fb x y) && (decide (x<k) || (x==k && decide (y<j)))
theorem yQa (n ga ca gb cb:Nat) (ρa γa ρb γb:Nat->Nat) (fa fb:Nat->Nat->Bool) w (hn:n<=1000) (ha:MatR w ga (n+1) ρa γa fa) (hb:MatR w gb (n+1) ρb γb fb) (hca:n+1<=ca) (hcb:n+1<=cb):Calls prog 224 #[slV ga (n+1) ca,slV gb (n+1) cb] w (MaF (n+1) (λi j=>fa i j || fb i j) w):=by
 have HR:=qH2 ha hb;clear ha hb;go_enter func224,ntmps224;go_wp2_with fail;refine(yBn n hn w).mono ?_;rintro r w1 ⟨g,cp,ρ,γ,rfl,HM,ac⟩;have ag:=HM.out.out.caps;go_wp2;go_loopw[6] (λiv wr=>∃(k:Nat) (f:Nat->Nat->Bool),k<=n+1/\iv=(xi k)/\Hid (MatO wr w g cp (n+1) (n+1) ρ γ f/\(∀i j,i<=j->j<n+1->f i j=orF fa fb k 0 i j)/\Below w w wr)) (λiv _=>n+1-(intOf iv).toNat);case atStart=>exact⟨0,_,zero_le _,rfl,HM.out,λi j _ _=>by simp[orF],ac⟩
 case round=>
  obtain⟨k,f0,hk,rfl,a4⟩:=hrel;obtain⟨Wr,ad⟩:=qW wr;subst ad;by_cases hlt:k<n+1
  .have zk:(k:Int)<((n+1:Nat):Int):=qo
   go_wp2;go_loopw[7] (λjv wr=>∃(j:Nat) (f:Nat->Nat->Bool),k<=j/\j<=n+1/\jv=(xi j)/\Hid (MatO wr w g cp (n+1) (n+1) ρ γ f/\(∀x y,x<=y->y<n+1->f x y=orF fa fb k j x y)/\Below w w wr)) (λjv _=>n+1-(intOf jv).toNat);case atStart=>exact⟨k,f0,Nat.le_refl _,qo,rfl,a4.1,λx y hxy hy=>by
    rw[a4.2.1 x y hxy hy]
    unfold orF
    congr 1
    rw[Bool.eq_iff_iff];simp only[Bool.or_eq_true,Bool.and_eq_true,decide_eq_true_eq,beq_iff_eq];omega,a4.2.2⟩
   case round=>
    obtain⟨j,f,af,hj,rfl,HJ⟩:=hrel;by_cases hlj:j<n+1
    .have zj:(j:Int)<((n+1:Nat):Int):=qo
     have a7:=HR.1.below HJ.2.2 qr;have a6:=HR.2.below HJ.2.2 qr;have c0:=HJ.1.cell hlt;have c1:=(HJ.1.row k hlt).cell hlj;have z1:wr.frozen? (xd (ρ k) j)=false:=World.ownsRow.frozenAt (HJ.1.row k hlt) _;have ae:=(HJ.1.row k hlt).caps;have a0:=a7.out k hlt;have a1:=a7.row k j hlt hlj;have b0:=a6.out k hlt;have b1:=a6.row k j hlt hlj;have ah:=HR.1.cap k hlt;have hc2:=HR.2.cap k hlt;have a5:Hid (∀v:Bool,v=(fa k j || fb k j)->Hid (MatO (wr.setCell (xd (ρ k) j) v).drew w g cp (n+1) (n+1) ρ γ (upd2 f k j v)/\(∀x y,x<=y->y<n+1->upd2 f k j v x y=orF fa fb k (j+1) x y)/\Below w w (wr.setCell (xd (ρ k) j) v).drew)):=λv hv=>by
      refine⟨(HJ.1.set hlt hlj v).below ((Below.refl _ _).drew),λx y hxy hy=>?_,(yAc HJ.2.2 (HJ.1.row k hlt).lt.1 _ _).drew⟩;unfold upd2;by_cases e:x=k/\y=j
      .rw[if_pos e,hv];simp[orF,e.1,e.2]
      .rw[if_neg e,HJ.2.1 x y hxy hy];unfold orF;congr 1;rw[Bool.eq_iff_iff];simp only[Bool.or_eq_true,Bool.and_eq_true,decide_eq_true_eq,beq_iff_eq];omega
     obtain⟨aa,a9⟩:∃aa,fa k j=aa:=⟨_,rfl⟩;obtain⟨a2,a8⟩:∃a2,fb k j=a2:=⟨_,rfl⟩;have HV:=qH2 a9 a8;rw[a9]at a1;rw[a8]at b1;clear a7 a6 a9 a8;go_upto_region 8 with fail;cases aa
     case false=>
      have a3:(λw':World=>xk w' g k (slV (ρ k) (n+1) (γ k))/\xk w' ga k (slV (ρa k) (n+1) (γa k))/\xk w' (ρa k) j false/\xk w' gb k (slV (ρb k) (n+1) (γb k))/\xk w' (ρb k) j a2) wr.drew:=⟨c0,a0,a1,b0,b1⟩;refine yAf 22 (λw':World=>xk w' g k (slV (ρ k) (n+1) (γ k))/\xk w' ga k (slV (ρa k) (n+1) (γa k))/\xk w' (ρa k) j false/\xk w' gb k (slV (ρb k) (n+1) (γb k))/\xk w' (ρb k) j a2) qk ?_;refine ja 0 a3 ?_;iterate 20 refine jb a3 ?_
      refine kO 21 a3 ?_;refine kL 22 ?_;refine qD ?_;have ab:=a5.out a2 (by rw[HV.1,HV.2];rfl);refine zY ?_;exact⟨j+1,qo,qo,by go_num,upd2 f k j a2,ab⟩
     case true=>
      have a3:(λw':World=>xk w' g k (slV (ρ k) (n+1) (γ k))/\xk w' ga k (slV (ρa k) (n+1) (γa k))/\xk w' (ρa k) j true/\xk w' gb k (slV (ρb k) (n+1) (γb k))/\xk w' (ρb k) j a2) wr.drew:=⟨c0,a0,a1,b0,b1⟩;refine yAf 22 (λw':World=>xk w' g k (slV (ρ k) (n+1) (γ k))/\xk w' ga k (slV (ρa k) (n+1) (γa k))/\xk w' (ρa k) j true/\xk w' gb k (slV (ρb k) (n+1) (γb k))/\xk w' (ρb k) j a2) qk ?_;refine ja 0 a3 ?_;iterate 20 refine jb a3 ?_
      refine kO 21 a3 ?_;refine kL 22 ?_;refine qD ?_;have ab:=a5.out true (by rw[HV.1,HV.2];rfl);refine zY ?_;exact⟨j+1,qo,qo,by go_num,upd2 f k j true,ab⟩
    .obtain rfl:j=n+1:=qo
     have zj:¬((n+1:Nat):Int)<((n+1:Nat):Int):=qo
     have a5:Hid (MatO wr w g cp (n+1) (n+1) ρ γ f/\(∀x y,x<=y->y<n+1->f x y=orF fa fb (k+1) 0 x y)/\Below w w wr):=by refine⟨HJ.1,λx y hxy hy=>?_,HJ.2.2⟩;rw[HJ.2.1 x y hxy hy];unfold orF;congr 1;rw[Bool.eq_iff_iff];simp only[Bool.or_eq_true,Bool.and_eq_true,decide_eq_true_eq,beq_iff_eq];omega
     refine zY ?_;exact⟨k+1,f,qo,by go_num,a5.out⟩
  .obtain rfl:k=n+1:=qo
   have zk:¬((n+1:Nat):Int)<((n+1:Nat):Int):=qo
   go_wp2;go_ret;refine⟨g,cp,ρ,γ,f0,rfl,⟨a4.1,λi j hij hj=>?_⟩,a4.2.2⟩;rw[a4.2.1 i j hij hj];have:i<n+1:=qo
   simp[orF,this]
def thF (fa fb:Nat->Nat->Bool) (i j K:Nat):Bool:=(List.range K).any (λk=>decide (i<=k) && decide (k<=j) && fa i k && fb k j)
theorem yUi (fa fb:Nat->Nat->Bool) (i j k:Nat):thF fa fb i j (k+1)=(thF fa fb i j k || (decide (i<=k) && decide (k<=j) && fa i k && fb k j)):=by simp[thF,range_succ,any_append]
variable {fa fb:Nat->Nat->Bool}
theorem yM4 (h:¬i<=k∨¬k<=j∨fa i k=false):thF fa fb i j (k+1)=thF fa fb i j k:=by rw[yUi];rcases h with h|h|h<;>simp[h]
theorem yIu:∀(k:Nat),k<=i->thF fa fb i j k=false
 |0,_=>rfl
 |k+1,h=>by rw[yM4 (.inl qo),yIu k qo]
variable {K:Nat}
theorem xEd:thF fa fb i j K=true↔∃k,k<K/\i<=k/\k<=j/\fa i k=true/\fb k j=true:=by
 simp only[thF,any_eq_true,mem_range,Bool.and_eq_true,decide_eq_true_eq];constructor
 .rintro⟨k,h0,⟨⟨h1,h2⟩,h3⟩,h4⟩;exact⟨k,h0,h1,h2,h3,h4⟩
 .rintro⟨k,h0,h1,h2,h3,h4⟩;exact⟨k,h0,⟨⟨h1,h2⟩,h3⟩,h4⟩
def stF (fa fb:Nat->Nat->Bool) (N i k j x y:Nat):Bool:=if x<i then thF fa fb x y N else if x=i then thF fa fb i y (if y<j then k+1 else k)else false
theorem yT (n ga ca gb cb:Nat) (ρa γa ρb γb:Nat->Nat) (fa fb:Nat->Nat->Bool) w (hn:n<=1000) (ha:MatR w ga (n+1) ρa γa fa) (hb:MatR w gb (n+1) ρb γb fb) (hca:n+1<=ca) (hcb:n+1<=cb):Calls prog 242 #[slV ga (n+1) ca,slV gb (n+1) cb] w (MaF (n+1) (λi j=>thF fa fb i j (n+1)) w):=by
 have HR:=qH2 ha hb;clear ha hb;go_enter func242,ntmps242;go_wp2_with fail;refine(yBn n hn w).mono ?_;rintro r w1 ⟨g,cp,ρ,γ,rfl,HM,ai⟩;have am:=HM.out.out.caps;go_wp2_with fail;go_loopw[6] (λiv wr=>∃(i:Nat) (f:Nat->Nat->Bool),i<=n+1/\iv=(xi i)/\Hid (MatO wr w g cp (n+1) (n+1) ρ γ f/\(∀x y,x<=y->y<n+1->f x y=stF fa fb (n+1) i 0 0 x y)/\Below w w wr)) (λiv _=>n+1-(intOf iv).toNat);case atStart=>exact⟨0,_,zero_le _,rfl,HM.out,λx y _ _=>by
  unfold stF
  rw[if_neg qo]
  split
  .rw[if_neg qo];rfl
  .rfl,ai⟩
 case round=>
  obtain⟨i,f0,hi,rfl,a6⟩:=hrel;obtain⟨Wr,ak⟩:=qE (wr:World);subst ak;by_cases hli:i<n+1
  .have zi:(i:Int)<((n+1:Nat):Int):=qo
   go_wp2_with fail;go_loopw[7] (λkv wr=>∃(k:Nat) (f:Nat->Nat->Bool),i<=k/\k<=n+1/\kv=(xi k)/\Hid (MatO wr w g cp (n+1) (n+1) ρ γ f/\(∀x y,x<=y->y<n+1->f x y=stF fa fb (n+1) i k 0 x y)/\Below w w wr)) (λkv _=>n+1-(intOf kv).toNat);case atStart=>exact⟨i,f0,Nat.le_refl _,qo,rfl,a6.1,λx y hxy hy=>by
    rw[a6.2.1 x y hxy hy]
    unfold stF
    split
    .rfl
    .split
     .rw[if_neg qo,if_neg qo,yIu 0 qo,yIu i qr]
     .rfl,a6.2.2⟩
   case round=>
    obtain⟨k,f1,ag,hk,rfl,a3⟩:=hrel;obtain⟨Ws,aj⟩:=qE (wr:World);subst aj;by_cases hlk:k<n+1
    .have zk:(k:Int)<((n+1:Nat):Int):=qo
     have a8:=HR.1.below a3.2.2 qr;have a0:=a8.out i hli;have a1:=a8.row i k hli hlk;have ah:=HR.1.cap i hli;obtain⟨ac,ab⟩:∃ac,fa i k=ac:=⟨_,rfl⟩;rw[ab]at a1;have ae:=qH1 ab;clear a8 ab;cases ac
     case false=>
      have a2:Hid (MatO Ws w g cp (n+1) (n+1) ρ γ f1/\(∀x y,x<=y->y<n+1->f1 x y=stF fa fb (n+1) i (k+1) 0 x y)/\Below w w Ws):=by
       refine⟨a3.1,λx y hxy hy=>?_,a3.2.2⟩;rw[a3.2.1 x y hxy hy];unfold stF;split
       .rfl
       .split
        .rw[if_neg qo,if_neg qo,yM4 (.inr (.inr ae.out))]
        .rfl
      go_wp2;go_roundw;case rel=>first|exact⟨k+1,qo,qo,by go_num,f1,a2.out⟩|exact⟨k+1,qo,qo,qo,by go_num,f1,a2.out⟩|exact⟨k+1,f1,qo,qo,by go_num,a2.out⟩
      case measure=>simp[intOf];omega
     case true=>
     go_wp2_with fail;clear a0 a1 ah;go_loopw[8] (λjv wr=>∃(j:Nat) (f:Nat->Nat->Bool),k<=j/\j<=n+1/\jv=(xi j)/\Hid (MatO wr w g cp (n+1) (n+1) ρ γ f/\(∀x y,x<=y->y<n+1->f x y=stF fa fb (n+1) i k j x y)/\Below w w wr)) (λjv _=>n+1-(intOf jv).toNat);case atStart=>exact⟨k,f1,Nat.le_refl _,qo,rfl,a3.1,λx y hxy hy=>by
      rw[a3.2.1 x y hxy hy]
      unfold stF
      split
      .rfl
      .split
       .rw[if_neg qo]
        split
        .rw[yM4 (.inr (.inl qo))]
        .rfl
       .rfl,a3.2.2⟩
     case round=>
      obtain⟨j,f,af,hj,rfl,HJ⟩:=hrel;by_cases hlj:j<n+1
      .have zj:(j:Int)<((n+1:Nat):Int):=qo
       have a7:=HR.2.below HJ.2.2 qr;have c0:=HJ.1.cell hli;have c1:=(HJ.1.row i hli).cell hlj;have z1:wr.frozen? (xd (ρ i) j)=false:=World.ownsRow.frozenAt (HJ.1.row i hli) _;have al:=(HJ.1.row i hli).caps;have b0:=a7.out k hlk;have b1:=a7.row k j hlk hlj;have hc2:=HR.2.cap k hlk;have a2:Hid (∀v:Bool,v=(f i j || fb k j)->Hid (MatO (wr.setCell (xd (ρ i) j) v).drew w g cp (n+1) (n+1) ρ γ (upd2 f i j v)/\(∀x y,x<=y->y<n+1->upd2 f i j v x y=stF fa fb (n+1) i k (j+1) x y)/\Below w w (wr.setCell (xd (ρ i) j) v).drew)):=λv hv=>by
        refine⟨(HJ.1.set hli hlj v).below ((Below.refl _ _).drew),λx y hxy hy=>?_,(yAc HJ.2.2 (HJ.1.row i hli).lt.1 _ _).drew⟩;unfold upd2;by_cases e:x=i/\y=j
        .rw[if_pos e,hv,HJ.2.1 i j qo hlj,e.1,e.2];unfold stF;rw[if_neg qo,if_pos rfl,if_neg qo,if_neg qo,if_pos rfl,if_pos qo,yUi,ae.out];have h1:=ag;simp[h1,af]
        .rw[if_neg e,HJ.2.1 x y hxy hy];unfold stF;split
         .rfl
         .split
          .have h1:y≠j:=λq=>e ⟨by assumption,q⟩;by_cases h2:y<j
           .rw[if_pos h2,if_pos qo]
           .rw[if_neg h2,if_neg qo]
          .rfl
       obtain⟨ov,a9⟩:∃ov,f i j=ov:=⟨_,rfl⟩;obtain⟨a4,aa⟩:∃a4,fb k j=a4:=⟨_,rfl⟩;have HV:=qH2 a9 aa;rw[a9]at c1;rw[aa]at b1;clear a7 a9 aa;go_upto_region 12 with fail;cases ov
       case false=>
        have a5:(λw':World=>xk w' g i (slV (ρ i) (n+1) (γ i))/\xk w' (ρ i) j false/\xk w' gb k (slV (ρb k) (n+1) (γb k))/\xk w' (ρb k) j a4) wr.drew:=⟨c0,c1,b0,b1⟩;refine yAf 22 (λw':World=>xk w' g i (slV (ρ i) (n+1) (γ i))/\xk w' (ρ i) j false/\xk w' gb k (slV (ρb k) (n+1) (γb k))/\xk w' (ρb k) j a4) qk ?_;refine ja 0 a5 ?_;iterate 20 refine jb a5 ?_
        refine qO 21 rfl λK hK=>?_;go_simp;refine hK.out _ _ (.inr a5) ?_;clear hK;refine jS ?_;refine qO 22 rfl λK hK=>?_;go_simp;refine hK.out _ _ (.inl rfl) ?_;clear hK;refine jS ?_;refine qD ?_;have ad:=a2.out a4 (by rw[HV.1,HV.2];rfl);go_wp2;go_roundw;case rel=>exact⟨j+1,qo,qo,by go_num,upd2 f i j a4,ad⟩
        case measure=>simp[intOf];omega
       case true=>
        have a5:(λw':World=>xk w' g i (slV (ρ i) (n+1) (γ i))/\xk w' (ρ i) j true/\xk w' gb k (slV (ρb k) (n+1) (γb k))/\xk w' (ρb k) j a4) wr.drew:=⟨c0,c1,b0,b1⟩;refine yAf 22 (λw':World=>xk w' g i (slV (ρ i) (n+1) (γ i))/\xk w' (ρ i) j true/\xk w' gb k (slV (ρb k) (n+1) (γb k))/\xk w' (ρb k) j a4) qk ?_;refine ja 0 a5 ?_;iterate 20 refine jb a5 ?_
        refine qO 21 rfl λK hK=>?_;go_simp;refine hK.out _ _ (.inr a5) ?_;clear hK;refine jS ?_;refine qO 22 rfl λK hK=>?_;go_simp;refine hK.out _ _ (.inl rfl) ?_;clear hK;refine jS ?_;refine qD ?_;have ad:=a2.out true (by rw[HV.1,HV.2];rfl);go_wp2;go_roundw;case rel=>exact⟨j+1,qo,qo,by go_num,upd2 f i j true,ad⟩
        case measure=>simp[intOf];omega
      .obtain rfl:j=n+1:=qo
       have zj:¬((n+1:Nat):Int)<((n+1:Nat):Int):=qo
       have a2:Hid (MatO wr w g cp (n+1) (n+1) ρ γ f/\(∀x y,x<=y->y<n+1->f x y=stF fa fb (n+1) i (k+1) 0 x y)/\Below w w wr):=by
        refine⟨HJ.1,λx y hxy hy=>?_,HJ.2.2⟩;rw[HJ.2.1 x y hxy hy];unfold stF;split
        .rfl
        .split
         .first|rw[if_pos hy,if_neg qo]|rw[if_neg qo]
         .rfl
       go_wp2;go_roundw;case rel=>first|exact⟨k+1,qo,qo,by go_num,f,a2.out⟩|exact⟨k+1,qo,qo,qo,by go_num,f,a2.out⟩|exact⟨k+1,f,qo,qo,by go_num,a2.out⟩
       case measure=>simp[intOf];omega
    .obtain rfl:k=n+1:=qo
     have zk:¬((n+1:Nat):Int)<((n+1:Nat):Int):=qo
     have a2:Hid (MatO Ws w g cp (n+1) (n+1) ρ γ f1/\(∀x y,x<=y->y<n+1->f1 x y=stF fa fb (n+1) (i+1) 0 0 x y)/\Below w w Ws):=by
      refine⟨a3.1,λx y hxy hy=>?_,a3.2.2⟩;rw[a3.2.1 x y hxy hy];unfold stF;by_cases h1:x<i
      .rw[if_pos h1,if_pos qo]
      .by_cases h2:x=i
       .rw[if_neg h1,if_pos h2,if_neg qo,if_pos qo,h2]
       .rw[if_neg h1,if_neg h2,if_neg qo];split
        .rw[if_neg qo,yIu 0 qo]
        .rfl
     go_wp2;go_roundw;case rel=>first|exact⟨i+1,f1,qo,by go_num,a2.out⟩|exact⟨i+1,qo,by go_num,f1,a2.out⟩
     case measure=>simp[intOf];omega
  .obtain rfl:i=n+1:=qo
   have zi:¬((n+1:Nat):Int)<((n+1:Nat):Int):=qo
   go_wp2_with fail;go_ret;refine⟨g,cp,ρ,γ,f0,rfl,⟨a6.1,λx y hxy hy=>?_⟩,a6.2.2⟩;rw[a6.2.1 x y hxy hy];unfold stF;rw[if_pos qo]
def plK (fa:Nat->Nat->Bool):Nat->Nat->Nat->Bool
 |0=>fa
 |K+1=>λi j=>plK fa K i j || (decide (i<=K) && decide (K<=j) && plK fa K i K && plK fa K K j)
def MaG (N:Nat) (F:Nat->Nat->Bool) (w:World) (r:Ending) (w':World):Prop:=∃g cp ρ γ f,r=.returned (slV g N cp)/\N<=cp/\Hid (MatR w' g N ρ γ f/\∀i j,i<=j->j<N->f i j=F i j)/\Below w w w'
variable {r:Ending}
theorem MaF.g {N:Nat} {F:Nat->Nat->Bool} (h:MaF N F w r w'):MaG N F w r w':=by obtain⟨g,cp,ρ,γ,f,h1,h2,h3⟩:=h;exact⟨g,cp,ρ,γ,f,h1,h2.out.1.out.caps.1,⟨h2.out.1.read,h2.out.2⟩,h3⟩
def viaF (fo:Nat->Nat->Bool) (k:Nat):Nat->Nat->Bool:=λx y=>decide (x<=k) && decide (k<=y) && fo x k && fo k y
variable {p:Prop}
theorem zPe (h:p:=by
 refine qO 40 rfl λK hK=>?_;go_simp;refine hK.out _ _ (.inr hSd) ?_;clear hK;refine jS ?_;refine qO 41 rfl λK hK=>?_;go_simp;refine hK.out _ _ (.inl rfl) ?_;clear hK;refine jS ?_;refine qD ?_;obtain⟨v,hv⟩:=qE (fo i j || viaF fo k i j);have HJ3:=HJ2.out v hv;rw[HV.1]at hv;unfold viaF at hv;rw[HV.2.1,HV.2.2]at hv;(try simp[hik]at hv);(try simp[hkj]at hv);(try simp at hv);subst hv;unfold SW at hSd;go_wp2;go_roundw;case rel=>first|exact⟨j+1,by omega,by omega,by go_num,_,HJ3⟩|exact⟨j+1,_,by omega,by omega,by go_num,HJ3⟩
 case measure=>simp[intOf];omega):p:=h
theorem zPi {q:Prop} (k:q) (h:q->p:=by
 intro zz;refine wpR 41 hSd ?_;refine ja 0 hSd ?_;iterate 14 refine jb hSd ?_
 refine ja 15 hSd (v:=true) ?_;iterate 3 refine jb hSd ?_
 exact zz):p:=h k
theorem zPf (h:p:=by
 refine zPi ?_;refine ja 19 hSd (v:=true) ?_;iterate 20 refine jb hSd ?_
 exact zPe):p:=h
theorem yTa (n ga ca:Nat) (ρa γa:Nat->Nat) (fa:Nat->Nat->Bool) w (hn:n<=1000) (ha:MatR w ga (n+1) ρa γa fa) (hca:n+1<=ca):Calls prog 241 #[slV ga (n+1) ca] w (MaG (n+1) (plK fa (n+1)) w):=by
 have HR:=qH1 ha;clear ha;go_enter func241,ntmps241;go_wp2_with fail;go_loopw[3,4] (λov kv wr=>∃(k go co:Nat) (ρo γo:Nat->Nat) (fo:Nat->Nat->Bool),k<=n+1/\kv=(xi k)/\ov=slV go (n+1) co/\n+1<=co/\Hid (MatR wr go (n+1) ρo γo fo/\(∀x y,x<=y->y<n+1->fo x y=plK fa k x y)/\Below w w wr)) (λ_ kv _=>n+1-(intOf kv).toNat);case atStart=>exact⟨0,ga,ca,ρa,γa,fa,zero_le _,rfl,rfl,hca,HR.out,λ_ _ _ _=>rfl,Below.refl _ _⟩
 case round=>
  obtain⟨k,go,co,ρo,γo,fo,hk,rfl,rfl,af,HO⟩:=hrel;obtain⟨Wk,ai⟩:=qE (wr:World);subst ai;by_cases hlk:k<n+1
  .have zk:(k:Int)<((n+1:Nat):Int):=qo
   go_wp2_with fail;refine(yBn n hn Wk).mono ?_;rintro r w1 ⟨g,cp,ρ,γ,rfl,HM,ag⟩;have ad:=HM.out.out.caps;go_wp2_with fail;go_loopw[6] (λiv wr=>∃(i:Nat) (f:Nat->Nat->Bool),i<=n+1/\iv=(xi i)/\Hid (MatO wr Wk g cp (n+1) (n+1) ρ γ f/\(∀x y,x<=y->y<n+1->f x y=orF fo (viaF fo k) i 0 x y)/\Below Wk Wk wr)) (λiv _=>n+1-(intOf iv).toNat);case atStart=>exact⟨0,_,zero_le _,rfl,HM.out,λx y _ _=>by simp[orF],ag⟩
   case round=>
    obtain⟨i,f0,hi,rfl,a6⟩:=hrel;obtain⟨Wr,ah⟩:=qE (wr:World);subst ah;by_cases hlt:i<n+1
    .have zi:(i:Int)<((n+1:Nat):Int):=qo
     go_wp2_with fail;go_loopw[7] (λjv wr=>∃(j:Nat) (f:Nat->Nat->Bool),i<=j/\j<=n+1/\jv=(xi j)/\Hid (MatO wr Wk g cp (n+1) (n+1) ρ γ f/\(∀x y,x<=y->y<n+1->f x y=orF fo (viaF fo k) i j x y)/\Below Wk Wk wr)) (λjv _=>n+1-(intOf jv).toNat);case atStart=>exact⟨i,f0,Nat.le_refl _,qo,rfl,a6.1,λx y hxy hy=>by
      rw[a6.2.1 x y hxy hy]
      unfold orF
      congr 1
      rw[Bool.eq_iff_iff];simp only[Bool.or_eq_true,Bool.and_eq_true,decide_eq_true_eq,beq_iff_eq];omega,a6.2.2⟩
     case round=>
      obtain⟨j,f,hij,hj,rfl,HJ⟩:=hrel;by_cases hlj:j<n+1
      .have zj:(j:Int)<((n+1:Nat):Int):=qo
       have a5:=HO.1.below HJ.2.2 qr;have c0:=HJ.1.cell hlt;have c1:=(HJ.1.row i hlt).cell hlj;have z1:wr.frozen? (xd (ρ i) j)=false:=World.ownsRow.frozenAt (HJ.1.row i hlt) _;have aj:=(HJ.1.row i hlt).caps;have a0:=a5.out i hlt;have a1:=a5.row i j hlt hlj;have a2:=a5.row i k hlt hlk;have a3:=a5.out k hlk;have a4:=a5.row k j hlk hlj;have ak:=HO.1.cap i hlt;have hc2:=HO.1.cap k hlk;have HJ2:Hid (∀v:Bool,v=(fo i j || viaF fo k i j)->Hid (MatO (wr.setCell (xd (ρ i) j) v).drew Wk g cp (n+1) (n+1) ρ γ (upd2 f i j v)/\(∀x y,x<=y->y<n+1->upd2 f i j v x y=orF fo (viaF fo k) i (j+1) x y)/\Below Wk Wk (wr.setCell (xd (ρ i) j) v).drew)):=λv hv=>by
        refine⟨(HJ.1.set hlt hlj v).below ((Below.refl _ _).drew),λx y hxy hy=>?_,(yAc HJ.2.2 (HJ.1.row i hlt).lt.1 _ _).drew⟩;unfold upd2;by_cases e:x=i/\y=j
        .rw[if_pos e,hv];simp[orF,e.1,e.2]
        .rw[if_neg e,HJ.2.1 x y hxy hy];unfold orF;congr 1;rw[Bool.eq_iff_iff];simp only[Bool.or_eq_true,Bool.and_eq_true,decide_eq_true_eq,beq_iff_eq];omega
       obtain⟨a7,aa⟩:∃a7,fo i j=a7:=⟨_,rfl⟩;obtain⟨a8,ac⟩:∃a8,fo i k=a8:=⟨_,rfl⟩;obtain⟨a9,ab⟩:∃a9,fo k j=a9:=⟨_,rfl⟩;have HV:=qH3 aa ac ab;rw[aa]at a1;rw[ac]at a2;rw[ab]at a4;clear a5 aa ac ab c1;have c1:=(HJ.1.row i hlt).cell hlj;have hSd:SW (λw':World=>xk w' g i (slV (ρ i) (n+1) (γ i))/\xk w' go i (slV (ρo i) (n+1) (γo i))/\xk w' (ρo i) j a7/\xk w' (ρo i) k a8/\xk w' go k (slV (ρo k) (n+1) (γo k))/\xk w' (ρo k) j a9) wr.drew:=⟨c0,a0,a1,a2,a3,a4⟩;go_upto_region 12 with fail;cases a7
       case true=>
        refine wpR 41 hSd ?_;refine ja 0 hSd ?_;iterate 39 refine jb hSd ?_
        exact zPe
       case false=>
        by_cases hik:i<=k
        .have hd1:decide ((i:Int)<=(k:Int))=true:=by simp;omega
         by_cases hkj:k<=j
         .have hd2:decide ((k:Int)<=(j:Int))=true:=by simp;omega
          cases a8<;>exact zPf
         .have hd2:decide ((k:Int)<=(j:Int))=false:=by simp;omega
          refine zPi ?_;refine ja 19 hSd (v:=false) ?_;iterate 20 refine jb hSd ?_
          exact zPe
        .have hd1:decide ((i:Int)<=(k:Int))=false:=by simp;omega
         refine wpR 41 hSd ?_;refine ja 0 hSd ?_;iterate 14 refine jb hSd ?_
         refine ja 15 hSd (v:=false) ?_;iterate 24 refine jb hSd ?_
         exact zPe
      .obtain rfl:j=n+1:=qo
       have zj:¬((n+1:Nat):Int)<((n+1:Nat):Int):=qo
       have HJ2:Hid (MatO wr Wk g cp (n+1) (n+1) ρ γ f/\(∀x y,x<=y->y<n+1->f x y=orF fo (viaF fo k) (i+1) 0 x y)/\Below Wk Wk wr):=by refine⟨HJ.1,λx y hxy hy=>?_,HJ.2.2⟩;rw[HJ.2.1 x y hxy hy];unfold orF;congr 1;rw[Bool.eq_iff_iff];simp only[Bool.or_eq_true,Bool.and_eq_true,decide_eq_true_eq,beq_iff_eq];omega
       go_wp2;go_roundw;case rel=>first|exact⟨i+1,f,qo,by go_num,HJ2.out⟩|exact⟨i+1,qo,by go_num,f,HJ2.out⟩
       case measure=>simp[intOf];omega
    .obtain rfl:i=n+1:=qo
     have zi:¬((n+1:Nat):Int)<((n+1:Nat):Int):=qo
     have ae:Hid (MatR Wr g (n+1) ρ γ f0/\(∀x y,x<=y->y<n+1->f0 x y=plK fa (k+1) x y)/\Below w w Wr):=by
      refine⟨a6.1.read,λx y hxy hy=>?_,HO.2.2.trans (a6.2.2.mono HO.2.2.size)⟩;rw[a6.2.1 x y hxy hy];have hx:x<n+1:=qo
      simp only[orF,viaF,plK,hx,decide_true,Bool.true_or,Bool.and_true];rw[HO.2.1 x y hxy hy];by_cases h1:x<=k
      .by_cases h2:k<=y
       .rw[HO.2.1 x k h1 hlk,HO.2.1 k y h2 hy]
       .simp[h2]
      .simp[h1]
     go_wp2;go_roundw;case rel=>first|exact⟨k+1,g,cp,ρ,γ,f0,qo,by go_num,rfl,ad.1,ae.out⟩|exact⟨k+1,qo,by go_num,g,cp,rfl,ad.1,ρ,γ,f0,ae.out⟩|exact⟨k+1,g,cp,qo,by go_num,rfl,ad.1,ρ,γ,f0,ae.out⟩
     case measure=>simp[intOf];omega
  .obtain rfl:k=n+1:=qo
   have zk:¬((n+1:Nat):Int)<((n+1:Nat):Int):=qo
   go_wp2_with fail;go_ret;exact⟨go,co,ρo,γo,fo,rfl,af,⟨HO.1,HO.2.1⟩,HO.2.2⟩
inductive Ch (fa:Nat->Nat->Bool) (K:Nat):Nat->Nat->Prop
 |one {i j:Nat} (h:fa i j=true) (hij:i<=j):Ch fa K i j
 |more {i m j:Nat} (h:fa i m=true) (him:i<=m) (hm:m<K) (k:Ch fa K m j):Ch fa K i j
theorem Ch.le (h:Ch fa K i j):i<=j:=by
 induction h with
 |one _ h=>exact h
 |more _ h _ _ ih=>omega
theorem Ch.mono {K':Nat} (h:Ch fa K i j) (hK:K<=K'):Ch fa K' i j:=by
 induction h with
 |one h h'=>exact .one h h'
 |more h h1 h2 _ ih=>exact .more h h1 qo ih
theorem Ch.cat (h:Ch fa K i m) (hm:m<K) (k:Ch fa K m j):Ch fa K i j:=by
 induction h with
 |one h h'=>exact .more h h' hm k
 |more h h1 h2 _ ih=>exact .more h h1 h2 (ih hm k)
theorem Ch.split (h:Ch fa (K+1) i j):Ch fa K i j∨(Ch fa K i K/\Ch fa K K j):=by
 induction h with
 |one h h'=>exact .inl (.one h h')
 | @more i m j h h1 h2 _ ih=>
   by_cases e:m=K
   .subst e;rcases ih with k|⟨_,k⟩
    .exact .inr ⟨.one h h1,k⟩
    .exact .inr ⟨.one h h1,k⟩
   .rcases ih with k|⟨k1,k2⟩
    .exact .inl (.more h h1 qo k)
    .exact .inr ⟨.more h h1 qo k1,k2⟩
theorem yGb (fa:Nat->Nat->Bool):∀(K i j:Nat),i<=j->(plK fa K i j=true↔Ch fa K i j)
 |0,i,j,hij=>by
  constructor
  .exact λh=>.one h hij
  .intro h
   cases h with
   |one h _=>exact h
   |more _ _ h _=>omega
 |K+1,i,j,hij=>by
  simp only[plK,Bool.or_eq_true,Bool.and_eq_true,decide_eq_true_eq]
  constructor
  .rintro(h|⟨⟨⟨h1,h2⟩,h3⟩,h4⟩)
   .exact((yGb fa K i j hij).1 h).mono qo
   .exact(((yGb fa K i K h1).1 h3).mono qo).cat qo (((yGb fa K K j h2).1 h4).mono qo)
  .intro h
   rcases h.split with k|⟨k1,k2⟩
   .exact .inl ((yGb fa K i j hij).2 k)
   .exact .inr ⟨⟨⟨k1.le,k2.le⟩,(yGb fa K i K k1.le).2 k1⟩,(yGb fa K K j k2.le).2 k2⟩
def RelW (s:List UInt8) (f:Nat->Nat->Bool) (P:List UInt8->Prop):Prop:=∀i j,i<=j->j<=s.length->(f i j=true↔P (cut s i j))
variable {s:List UInt8}
theorem yQ3 {y:List UInt8} (hij:i<=j) (hj:j<=s.length) (h:cut s i j=x++y):∃m,i<=m/\m<=j/\x=cut s i m/\y=cut s m j:=by obtain⟨h1,h2,h3⟩:=yQ4 h hj hij;exact⟨i+x.length,qo,h3,h1.symm,h2.symm⟩
variable {P:List UInt8->Prop}
theorem RelW.plus (h:RelW s fa P):RelW s (plK fa (s.length+1)) (Pls P):=by
 intro i j hij hj;rw[yGb fa _ i j hij];constructor
 .intro k;induction k with
  |one h' h1=>exact .one ((h _ _ h1 hj).1 h')
  | @more i m j h' h1 h2 k ih=>
    have a0:=k.le;rw[yBq h1 a0];exact .more ((h i m h1 qo).1 h') (ih a0 hj)
 .intro k;generalize hx:cut s i j=x at k;induction k generalizing i j with
  |one h'=>subst hx;exact .one ((h i j hij hj).2 h') hij
  |more h' k ih=>
   obtain⟨m,h1,h2,h3,h4⟩:=yQ3 hij hj hx;exact .more ((h i m h1 qo).2 (by rw[<-h3];exact h')) h1 qo (ih m j h2 hj h4.symm)
variable {Q:List UInt8->Prop}
theorem RelW.or (h:RelW s fa P) (k:RelW s fb Q):RelW s (λi j=>fa i j || fb i j) (λx=>P x∨Q x):=by intro i j hij hj;rw[Bool.or_eq_true,h i j hij hj,k i j hij hj]
theorem yV5 (s:List UInt8):RelW s (λi j=>i==j) (λx=>x= []):=by
 intro i j hij hj;rw[beq_iff_eq];constructor
 .intro e;rw[e];exact yDe s j
 .intro e;have:=yAw (p:=s) (i:=i) hj;rw[e]at this;simp at this;omega
theorem RelW.then (h:RelW s fa P) (k:RelW s fb Q):RelW s (λi j=>thF fa fb i j (s.length+1)) (λx=>∃y z,x=y++z/\P y/\Q z):=by
 intro i j hij hj;rw[xEd];constructor
 .rintro⟨m,h0,h1,h2,h3,h4⟩;exact⟨cut s i m,cut s m j,yBq h1 h2,(h i m h1 qo).1 h3,(k m j h2 hj).1 h4⟩
 .rintro⟨y,z,hx,hy,hz⟩;obtain⟨m,h1,h2,h3,h4⟩:=yQ3 hij hj hx;exact⟨m,qo,h1,h2,(h i m h1 qo).2 (by rw[<-h3];exact hy),(k m j h2 hj).2 (by rw[<-h4];exact hz)⟩
theorem RelW.iff {f g:Nat->Nat->Bool} (h:RelW s f P) (hf:∀i j,i<=j->j<s.length+1->g i j=f i j) (hp:∀x,Q x↔P x):RelW s g Q:=by intro i j hij hj;rw[hf i j hij qo,h i j hij hj,hp]
theorem Pls.mono (h:∀x,P x->Q x) (k:Pls P x):Pls Q x:=by
 induction k with
 |one k=>exact .one (h _ k)
 |more k _ ih=>exact .more (h _ k) ih
theorem Pls.cat {y:List UInt8} (h:Pls P x) (k:Pls P y):Pls P (x++y):=by
 induction h with
 |one h=>exact .more h k
 |more h _ ih=>rw[append_assoc];exact .more h ih
theorem yPg (P:List UInt8->Prop) (o r:Bool) (x:List UInt8):Pls (RepL P o r) x↔RepL P o true x:=by
 have a0:∀y,RepL P o r y->RepL P o true y:=by
  intro y h;rcases h with h|h
  .exact .inl h
  .refine .inr ?_;rw[if_pos rfl];cases r with
   |true=>rw[if_pos rfl]at h;exact h
   |false=>rw[if_neg qj]at h;exact .one h
 constructor
 .intro k;induction k with
  |one h=>exact a0 _ h
  | @more y z h k ih=>
    rcases a0 y h with⟨ho,hy⟩|hy
    .rw[hy];exact ih
    .rcases ih with⟨ho,hz⟩|hz
     .rw[hz,append_nil];exact .inr hy
     .rw[if_pos rfl]at hy hz;exact .inr (by rw[if_pos rfl];exact hy.cat hz)
 .rintro(h|h)
  .exact .one (.inl h)
  .rw[if_pos rfl]at h;exact h.mono (λy hy=>.inr (by
    cases r with
    |true=>rw[if_pos rfl];exact .one hy
    |false=>rw[if_neg qj];exact hy))
theorem yUl (P:List UInt8->Prop) (o r:Bool) (x:List UInt8):(RepL P o r x∨x= [])↔RepL P true r x:=by
 constructor
 .rintro((⟨_,h⟩|h)|h)
  .exact .inl ⟨rfl,h⟩
  .exact .inr h
  .exact .inl ⟨rfl,h⟩
 .rintro(⟨_,h⟩|h)
  .exact .inr h
  .exact .inl (.inr h)
variable {b:Bool}
theorem yTv {p:List UInt8} {f g:UInt8->Bool} (h:clsM p j b f=.inl (g,k)):j<p.length:=by
 unfold clsM at h;split at h
 .assumption
 .cases h
theorem yZm {p:List UInt8} {it:Bool} {g f:UInt8->Bool} (h:clsM p j it g=.inl (f,n)):
  (p[j]?=some 93/\it=true/\g=f/\j+1=n)∨
  ∃x lo k1,p[j]?=some x/\¬x=93/\chM p j=(lo,k1,true)/\k1<p.length/\∃y,p[k1]?=some y/\
   ((y=45/\∃hi m,chM p (k1+1)=(hi,m,true)/\clsM p m true (λc=>g c || (decide (lo<=c) && decide (c<=hi)))=.inl (f,n))∨
    (¬y=45/\clsM p k1 true (λc=>g c || (decide (lo<=c) && decide (c<=lo)))=.inl (f,n))):=by
 have hj:=yTv h;unfold clsM at h;rw[dif_pos hj]at h;split at h
 .next hc=>
  simp only[Sum.inl.injEq,Prod.mk.injEq]at h;exact .inl ⟨hc.1,hc.2,h.1,h.2⟩
 .split at h
  .cases h
  .next a b k hk=>
   refine .inr ?_;obtain⟨x,hx⟩:∃x,p[j]?=some x:=qg hj;unfold yBw at hk;split at hk
   .cases hk
   .next lo k1 hch=>
    have a0:¬x=93:=λq=>by unfold chM at hch;rw[hx]at hch;simp[q]at hch
    split at hk
    .next h45=>
     split at hk
     .cases hk
     .next hi m hch2=>
      split at hk
      .cases hk
      .simp only[Sum.inl.injEq,Prod.mk.injEq]at hk;obtain⟨rfl,rfl,rfl⟩:=hk;exact⟨x,lo,k1,hx,a0,hch,yAn h45,45,h45,.inl ⟨rfl,hi,m,hch2,h⟩⟩
    .next h45=>
     simp only[Sum.inl.injEq,Prod.mk.injEq]at hk;obtain⟨rfl,rfl,rfl⟩:=hk;have a1:=yTv h;obtain⟨y,hy⟩:∃y,p[k1]?=some y:=qg a1;exact⟨x,lo,k1,hx,a0,hch,a1,y,hy,.inr ⟨λq=>h45 (by rw[hy,q]),h⟩⟩
theorem yQb (q:ByteArray) (hq:q.size<=200) (b:UInt8) (f:UInt8->Bool) (h:yAq (sb q) 1=.inl (f,q.size)) w:Calls prog 255 #[q,.int .u8 (b.toNat:Int)] w λe w'=>e=.returned (f b)/\w'=w:=by
 obtain⟨ng,f0,j0,hj0,a0,hf,hng⟩:∃(ng:Bool) (f0:UInt8->Bool) (j0:Nat),j0=(if ng=true then 2 else 1)/\clsM (sb q) j0 false (λ_=>false)=.inl (f0,q.size)/\(∀c,f c=(f0 c != ng))/\(ng=true↔(sb q)[1]?=some 94):=by
  unfold yAq at h;split at h
  .next h94=>
   split at h
   .next g k hk=>
    simp only[Sum.inl.injEq,Prod.mk.injEq]at h;obtain⟨rfl,rfl⟩:=h;exact⟨true,g,2,rfl,hk,λc=>by show(!g c)=(g c != true);cases g c<;>rfl,⟨λ_=>h94,λ_=>rfl⟩⟩
   .cases h
  .next h94=>exact⟨false,f,1,rfl,h,λc=>by cases f c<;>rfl,⟨λq=>(by cases q),λq=>absurd q h94⟩⟩
 have hjl:=yTv a0;rw[yAe]at hjl;have a2:1<q.size:=by
  cases ng
  .simp at hj0;omega
  .have:=yAn (hng.1 rfl);rw[yAe]at this;exact this
 obtain⟨x1,hx1⟩:∃x,(sb q)[1]?=some x:=qg (by rw[yAe];exact a2);obtain⟨_,a3⟩:=yAr hx1;have HC0:=qH1 a0;have HFn:=qH1 hf;have z1:(1:Int)<(q.size:Int):=qo
 clear h a0 hf;cases ng
 case false=>
  have a1:((x1.toNat:Int)==94)=false:=beq_eq_false_iff_ne.2 (yA8 (c:=94) (λq=>by have h1:=hng.2 (by rw[hx1,q]);cases h1));obtain rfl:j0=1:=by simpa using hj0
  exact zzQ4
 case true=>
  have a1:((x1.toNat:Int)==94)=true:=by
   have h1:=hng.1 rfl;rw[hx1]at h1;cases h1
   rfl
  obtain rfl:j0=2:=by simpa using hj0
  exact zzQ4
def MxG (s:ByteArray) (P:List UInt8->Prop) (w:World) (r:Ending) (w':World):Prop:=∃g cp ρ γ f,r=.returned (slV g (s.size+1) cp)/\s.size+1<=cp/\Hid (MatR w' g (s.size+1) ρ γ f/\RelW (sb s) f P)/\Below w w w'
variable {s:ByteArray}
theorem MaG.says {F:Nat->Nat->Bool} (h:MaG (s.size+1) F w r w') (hF:RelW (sb s) F P):MxG s P w r w':=by obtain⟨g,cp,ρ,γ,f,h1,h2,h3,h4⟩:=h;exact⟨g,cp,ρ,γ,f,h1,h2,⟨h3.out.1,hF.iff (λi j hij hj=>h3.out.2 i j hij (by rw[yAe]at hj;exact hj)) (λ_=>Iff.rfl)⟩,h4⟩
def AltW (s:ByteArray) (m:Nat):Prop:=∀(n:Nat) (os:List (List Pat)) (p:ByteArray) (w:World),p.size<=m->p.size<=200->AltG (yAm n) os (sb p)->Calls prog 205 #[p,s] w (MxG s (LgA os) w)
def SeqW (s:ByteArray) (m:Nat):Prop:=∀(n:Nat) (ts:List Pat) (p:ByteArray) (w:World),p.size<=m->p.size<=200->SeqG (yAm n) ts (sb p)->Calls prog 225 #[p,s] w (MxG s (LgS ts) w)
def AtmW (s:ByteArray) (m:Nat):Prop:=∀(n:Nat) (t:Pat) (p:ByteArray) (w:World),p.size<=m->p.size<=200->yAm n (sb p) t->Calls prog 240 #[p,s] w (MxG s (Lg t) w)
theorem xCf (os:List (List Pat)) (ts:List Pat) (x:List UInt8):LgA (os++ [ts]) x↔LgA os x∨LgS ts x:=by
 rw[yU,yU];constructor
 .rintro⟨t,ht,h⟩;rcases List.mem_append.1 ht with q|q
  .exact .inl ⟨t,q,h⟩
  .simp at q;subst q;exact .inr h
 .rintro(⟨t,ht,h⟩|h)
  .exact⟨t,mem_append_left _ ht,h⟩
  .exact⟨ts,by simp,h⟩
theorem yVi (hs:s.size<=200) (H:SeqW s m):AltW s m:=by
 intro n os p w a8 hp hG;have HH:=qH3 H a8 hp;have ai:Hid (∀wx,Calls prog 206 #[p] wx (PrtP n os p.size wx)):=λwx=>yP9 hp hG wx;have ae:os.length<=201:=by obtain⟨k,h1,h2⟩:=hG.tokn;have:=yRv h2;rw[yAe]at this;omega
 have aj:=qH1 (yBn s.size qo w);clear H a8 hp hG;go_enter func205,ntmps205;go_wp2_with fail;refine aj.mono ?_;rintro r w1 ⟨g,cp,ρ,γ,rfl,HM,ab⟩;have ag:=HM.out.out.caps.1;go_wp2_with fail;refine(ai.out w1).mono ?_;rintro r w2 ⟨gq,cq,us,rfl,a5,HU,hb2⟩;have af:=HU.1.lt;have k2:=ab.trans (hb2.mono ab.size);obtain⟨N,hN⟩:=qE os.length;rw[<-hN]at ae⊢;have HN:=qH2 hN (by rw[a5,hN]:us.length=N);have ak:=qH1 (HM.read.below hb2 qr);clear hN a5;go_wp2;go_loopw[5,7] (λov kv wr=>∃(k go co:Nat) (ρo γo:Nat->Nat) (f:Nat->Nat->Bool),k<=N/\kv=(xi k)/\ov=slV go (s.size+1) co/\s.size+1<=co/\Hid (MatR wr go (s.size+1) ρo γo f/\RelW (sb s) f (LgA (os.take k))/\Below w2 w2 wr)) (λ_ kv _=>N-(intOf kv).toNat);case atStart=>exact⟨0,g,cp,ρ,γ,_,zero_le _,rfl,rfl,ag,ak.out,λi j _ _=>by simp[LgA],Below.refl _ _⟩
 case round=>
  obtain⟨k,go,co,ρo,γo,f,hk,rfl,rfl,a9,HO⟩:=hrel;by_cases hlt:k<N
  .have zk:(k:Int)<(N:Int):=qo
   obtain⟨u,hu⟩:∃u,us[k]?=some u:=qg (by rw[HN.2];exact hlt);obtain⟨x,ts,rfl,a6,a7,ac⟩:=HU.2 k u hu;have c0:(xk wr gq k x:Prop):=by rw[HO.2.2.cell (p:=(xd gq k)) af.2,World.ownsRow.cellAt HU.1 k (by rw[HN.2];omega),hu]
   have HC:=qH1 (HH.1 n ts x wr (qw HH.2.1) (qw HH.2.2) a7);have HT:=qH1 a6;clear hu a6 a7 ac;go_wp2_with fail;refine HC.mono ?_;rintro e w3 ⟨g3,p3,ρ3,γ3,f3,rfl,ad,a4,a1⟩;have al:=qH1 (yQa s.size go co g3 p3 ρo γo ρ3 γ3 f f3 w3 qo (HO.1.below a1 qr) a4.1 a9 ad);clear c0;go_wp2_with fail;refine al.mono ?_;rintro e w4 ⟨g4,p4,ρ4,γ4,f4,rfl,a2,aa⟩;have a3:=a2.1.out.caps.1;have a0:Hid (MatR w4 g4 (s.size+1) ρ4 γ4 f4/\RelW (sb s) f4 (LgA (os.take (k+1)))/\Below w2 w2 w4):=by refine⟨a2.1.read,?_,(HO.2.2.trans (a1.mono HO.2.2.size)).trans (aa.mono (Nat.le_trans HO.2.2.size a1.size))⟩;refine(HO.2.1.or a4.2).iff (λi j hij hj=>a2.2 i j hij (by rw[yAe]at hj;exact hj)) (λy=>?_);rw[take_add_one,HT.out];exact xCf _ _ _
   clear a2 a4 a1 aa;refine zY ?_;first|exact⟨k+1,g4,p4,ρ4,γ4,f4,qo,by go_num,rfl,a3,a0⟩|exact⟨k+1,g4,p4,qo,by go_num,rfl,a3,ρ4,γ4,f4,a0⟩|exact⟨k+1,qo,by go_num,g4,p4,rfl,a3,ρ4,γ4,f4,a0⟩
  .obtain rfl:k=N:=qo
   have zk:¬(k:Int)<(k:Int):=qo
   have a0:Hid (MatR wr go (s.size+1) ρo γo f/\RelW (sb s) f (LgA os)):=by have h9:=HO.2.1;rw[take_of_length_le (by rw[HN.1];exact Nat.le_refl _)]at h9;exact⟨HO.1,h9⟩
   have ah:=k2.trans (HO.2.2.mono k2.size);go_wp2;go_ret;exact⟨go,co,ρo,γo,f,rfl,a9,a0,ah⟩
theorem RelW.plus_sb (h:RelW (sb s) fa P):RelW (sb s) (plK fa (s.size+1)) (Pls P):=by have:=h.plus;rw[yAe]at this;exact this
theorem RelW.then_sb (h:RelW (sb s) fa P) (k:RelW (sb s) fb Q):RelW (sb s) (λi j=>thF fa fb i j (s.size+1)) (λx=>∃y z,x=y++z/\P y/\Q z):=by have:=h.then k;rw[yAe]at this;exact this
theorem MxG.iff (h:MxG s P w r w') (hq:∀x,Q x↔P x):MxG s Q w r w':=by obtain⟨g,cp,ρ,γ,f,h1,h2,h3,h4⟩:=h;exact⟨g,cp,ρ,γ,f,h1,h2,⟨h3.out.1,h3.out.2.iff (λ_ _ _ _=>rfl) hq⟩,h4⟩
variable {f:Nat->Nat->Bool}
theorem yPq (hs:s.size<=200) {g:Nat} (hM:MatR w g (s.size+1) ρ γ f) (hR:RelW (sb s) f P) (hc:s.size+1<=cp):Calls prog 241 #[slV g (s.size+1) cp] w (MxG s (Pls P) w):=
 (yTa s.size g cp ρ γ f w qo hM hc).mono (λr w' h=>MaG.says h hR.plus_sb)
theorem yYr (hs:s.size<=200) {g:Nat} {f':Nat->Nat->Bool} (hM:MatR w g (s.size+1) ρ γ f) (hR:RelW (sb s) f P) (hc:s.size+1<=cp) (hM':MatR w g' (s.size+1) ρ' γ' f') (hR':RelW (sb s) f' Q) (hc':s.size+1<=cp'):Calls prog 224 #[slV g (s.size+1) cp,slV g' (s.size+1) cp'] w (MxG s (λx=>P x∨Q x) w):=
 (yQa s.size g cp g' cp' ρ γ ρ' γ' f f' w qo hM hM' hc hc').mono (λr w' h=>MaG.says h.g (hR.or hR'))
theorem yO8 (hs:s.size<=200) {g:Nat} {f':Nat->Nat->Bool} (hM:MatR w g (s.size+1) ρ γ f) (hR:RelW (sb s) f P) (hc:s.size+1<=cp) (hM':MatR w g' (s.size+1) ρ' γ' f') (hR':RelW (sb s) f' Q) (hc':s.size+1<=cp'):Calls prog 242 #[slV g (s.size+1) cp,slV g' (s.size+1) cp'] w (MxG s (λx=>∃y z,x=y++z/\P y/\Q z) w):=
 (yT s.size g cp g' cp' ρ γ ρ' γ' f f' w qo hM hM' hc hc').mono (λr w' h=>MaG.says h.g (hR.then_sb hR'))
theorem yFr (hs:s.size<=200) w:Calls prog 239 #[xi s.size] w (MxG s (λx=>x= []) w):=
 (yQc s.size qo w).mono (λr w' h=>MaG.says h.g (yV5 (sb s)))
def opL (P:List UInt8->Prop) (l:List UInt8):List UInt8->Prop:=RepL P (l.any (· != 43)) (l.any (· != 63))
theorem yYu (P:List UInt8->Prop) (x:List UInt8):opL P [] x↔P x:=by simp[opL,RepL]
theorem yNt (P:List UInt8->Prop) (l:List UInt8) (c:UInt8):opL P (l++ [c])=RepL P (l.any (· != 43) || c != 43) (l.any (· != 63) || c != 63):=by simp[opL,any_append]
theorem xH3 (a:Pat) (ops:List UInt8) (x:List UInt8):Lg (if ops= []then a else .rep a (ops.any (· != 43)) (ops.any (· != 63))) x↔opL (Lg a) ops x:=by
 by_cases h:ops= []
 .rw[if_pos h,h,yYu]
 .rw[if_neg h];rfl
theorem xIu (P:List UInt8->Prop) (l:List UInt8) (x:List UInt8):opL P (l++ [42]) x↔(Pls (opL P l) x∨x= []):=by rw[yNt];have h1:=yPg P (l.any (· != 43)) (l.any (· != 63)) x;have h2:=yUl P (l.any (· != 43)) true x;rw[show(l.any (· != 43) || (42:UInt8) != 43)=true by simp,show(l.any (· != 63) || (42:UInt8) != 63)=true by simp];unfold opL;rw[h1,h2]
theorem xIt (P:List UInt8->Prop) (l:List UInt8) (x:List UInt8):opL P (l++ [43]) x↔Pls (opL P l) x:=by rw[yNt];have h1:=yPg P (l.any (· != 43)) (l.any (· != 63)) x;rw[show(l.any (· != 43) || (43:UInt8) != 43)=l.any (· != 43)by simp,show(l.any (· != 63) || (43:UInt8) != 63)=true by simp];unfold opL;rw[h1]
theorem xIs (P:List UInt8->Prop) (l:List UInt8) (x:List UInt8):opL P (l++ [63]) x↔(opL P l x∨x= []):=by rw[yNt];have h2:=yUl P (l.any (· != 43)) (l.any (· != 63)) x;rw[show(l.any (· != 43) || (63:UInt8) != 43)=true by simp,show(l.any (· != 63) || (63:UInt8) != 63)=l.any (· != 63)by simp];unfold opL;rw[h2]
structure SeqX (n m:Nat) (p:ByteArray) (a:Pat) (as_ ops:List UInt8) (ts:List Pat):Prop where
 len:0<as_.length
 le:as_.length+ops.length<=p.size
 atom:yAm n (cut (sb p) 0 as_.length) a
 sg:∀c∈ops,isOp c
 at_:∀k c,ops[k]?=some c->(sb p)[as_.length+k]?=some c
 rest:SeqG (yAm n) ts (cut (sb p) (as_.length+ops.length) p.size)
 stop:∀c,(sb p)[as_.length+ops.length]?=some c->¬isOp c
variable {p:ByteArray}
theorem yY (h:SeqG (yAm n) (t::ts) (sb p)):∃a as_ ops,SeqX n 0 p a as_ ops ts/\∀x,Lg t x↔opL (Lg a) ops x:=by
 obtain⟨ys,zs,hx,⟨as_,ops,a,a3,hA,a6,ht⟩,hG⟩:=h;have a0:sb p=as_++(ops++zs):=by rw[hx,a3,append_assoc]
 have hl:p.size=as_.length+(ops.length+zs.length):=by rw[<-yAe,a0];simp
 obtain⟨c,yt,a5,_,_,aa⟩:=hA.first;have h1:cut (sb p) 0 as_.length=as_:=by unfold cut;rw[a0];simp
 have h2:cut (sb p) (as_.length+ops.length) p.size=zs:=by
  unfold cut;have e:as_.length+ops.length=(as_++ops).length:=by simp
  rw[a0,<-append_assoc,e,drop_left];exact take_of_length_le (by rw[<-e];omega)
 refine⟨a,as_,ops,⟨by rw[a5];simp,by omega,by rw[h1];exact hA,a6,λk c hk=>?_,by rw[h2];exact hG,λc hc=>?_⟩,λx=>by rw[ht];exact xH3 a ops x⟩
 .have a7:=qf hk;rw[a0,getElem?_append_right (by omega),Nat.add_sub_cancel_left,getElem?_append_left a7];exact hk
 .rw[a0,getElem?_append_right (by omega),show as_.length+ops.length-as_.length=ops.length by omega,getElem?_append_right qr,Nat.sub_self]at hc;cases ts with
  |nil=>rw[show zs= []from hG]at hc;simp at hc
  |cons t' ts'=>
   obtain⟨y2,z2,hz,⟨a2,o2,b2,hy2,a8,_,_⟩,_⟩:=hG;obtain⟨c2,a9,a4,_,_,a1⟩:=a8.first;rw[hz,hy2,a4]at hc;simp at hc;rw[<-hc];exact a1
theorem xA4 (hs:s.size<=200) (HA:AtmW s (m+1)) (HS:SeqW s m):SeqW s (m+1):=by
 intro n ts p w aH hp hG;cases ts with
 |nil=>
  have h0:=hG;have hz:p.toList= []:=by rw[ByteArray.toList_eq];exact h0
  have q1:(p.toList== [])=true:=by rw[hz];rfl
  have HE:=qH1 (yFr hs w);clear hz h0 hG;go_enter func225,ntmps225;go_wp2_with fail;refine HE.mono ?_;rintro e w1 ⟨g1,p1,ρ1,γ1,f1,rfl,aA,aw,ai⟩;have HR:Hid (MxG s (LgS []) w (.returned (slV g1 (s.size+1) p1)) w1):=⟨g1,p1,ρ1,γ1,f1,rfl,aA,⟨aw.1,aw.2.iff (λ_ _ _ _=>rfl) (λx=>by simp[LgS])⟩,ai⟩;go_wp2;go_ret;exact HR.out
 |cons t ts=>
  obtain⟨a,as_,ops,hX,au⟩:=yY hG;have HX:Hid (SeqX n 0 p a as_ ops ts/\∀x,Lg t x↔opL (Lg a) ops x):=⟨hX,au⟩;have q1:(p.toList== [])=false:=by
   have h1:=hX.len;have h2:=hX.le;have hz:p.toList≠ []:=λq=>by rw[ByteArray.toList_eq]at q;have:=yAe p;rw[show sb p= []from q]at this;simp at this;omega
   cases hq:p.toList with
   |nil=>exact absurd hq hz
   |cons _ _=>rfl
  obtain⟨j1,a6⟩:=qE as_.length;obtain⟨no,ah⟩:=qE ops.length;have aI:j1+no<=p.size:=by rw[a6,ah];exact hX.le
  have aJ:0<j1:=by rw[a6];exact hX.len
  have aE:Hid ((xf 207 #[p,xi 0] w (xi j1):Prop)):=by have h9:=yKf hp n 0 j1 a w (by rw[a6];exact hX.atom) qo;exact h9
  have aF:Hid (∀wx,Calls prog 240 #[(p.extract 0 j1),s] wx (MxG s (Lg a) wx)):=λwx=>by
   have ay:(p.extract 0 j1).size=j1:=by rw[<-yAe,yB0 p qo,yAw (by rw[yAe];omega)];omega
   exact HA n a _ wx qo qo (by rw[yB0 p qo,a6];exact hX.atom)
  have aD:Hid (∀wx,Calls prog 225 #[(p.extract (j1+no) p.size),s] wx (MxG s (LgS ts) wx)):=λwx=>by
   have ay:(p.extract (j1+no) p.size).size=p.size-(j1+no):=by rw[<-yAe,yB0 p qr,yAw (by rw[yAe];exact Nat.le_refl _)]
   exact HS n ts _ wx qo qo (by rw[yB0 p qr,a6,ah];exact hX.rest)
  have HL:=qH2 a6 ah;have z1:(j1:Int)<=(p.size:Int):=qo
  clear HA HS hG hX au a6 ah;go_enter func225,ntmps225;go_wp2_with fail;refine aE.mono ?_;rintro e w1 ⟨rfl,ai⟩;go_wp2_with fail;refine(aF.out w1).mono ?_;rintro e w2 ⟨g2,p2,ρ2,γ2,f2,rfl,az,av,hb2⟩;have aC:=ai.trans (hb2.mono ai.size);go_wp2;go_loopw[5,6] (λjv rv wr=>∃(J k go co:Nat) (ρo γo:Nat->Nat) (f:Nat->Nat->Bool),J<=p.size/\k<=no/\jv=(xi J)/\rv=slV go (s.size+1) co/\s.size+1<=co/\Hid (MatR wr go (s.size+1) ρo γo f/\RelW (sb s) f (opL (Lg a) (ops.take k))/\Below w w wr)/\Hid (J=j1+k)) (λjv _ _=>p.size-(intOf jv).toNat);case atStart=>exact⟨j1,0,g2,p2,ρ2,γ2,f2,qo,zero_le _,rfl,rfl,az,⟨av.1,av.2.iff (λ_ _ _ _=>rfl) (λx=>by rw[take_zero];exact yYu _ _),aC⟩,rfl⟩
  case round=>
   obtain⟨J,k,go,co,ρo,γo,f,hJ,hk,rfl,rfl,ab,HO,HJ⟩:=hrel;by_cases hlt:k<no
   .obtain⟨c,hc⟩:∃c,ops[k]?=some c:=qg (by rw[<-HL.2];exact hlt);have HK:=qH2 (by rw[take_add_one,hc];rfl:ops.take (k+1)=ops.take k++ [c]) (by rw[HJ.out,HL.1];exact HX.1.at_ k c hc:(sb p)[J]?=some c);have aB:=HX.1.sg c (mem_of_getElem? hc);have a9:Hid (J+1=j1+(k+1)):=by show _=_;rw[HJ.out];omega
    clear hc;rcases aB with rfl|rfl|rfl
    .obtain⟨_,gj⟩:=yAr HK.2;have zj:(J:Int)<(p.size:Int):=by have:=yAn HK.2;rw[yAe]at this;omega
     have a8:Hid (Calls prog 142 #[.int .u8 ((42:UInt8).toNat:Int)] wr λe w'=>e=.returned true/\w'=wr):=by have:=yBi 42 wr;rw[decide_eq_true qj]at this;exact this
     have aj:J<p.size:=qo
     go_wp2_with fail;refine a8.mono ?_;rintro e' w9 ⟨rfl,a2⟩;rw[a2];clear a2;go_wp2_with fail;refine(yPq hs HO.1 HO.2.1 ab).mono ?_;rintro e w3 ⟨g3,p3,ρ3,γ3,f3,rfl,a5,a3,a1⟩;have a4:=qH1 (HO.2.2.trans (a1.mono HO.2.2.size));clear a1;go_wp2_with fail;refine(yFr hs w3).mono ?_;rintro e w5 ⟨g5,p5,ρ5,γ5,f5,rfl,ak,af,a7⟩;have an:=qH1 (yYr hs (a3.1.below a7 qr) a3.2 a5 af.1 af.2 ak);have ag:=qH1 (a4.trans (a7.mono a4.size));clear a7;go_wp2_with fail;refine an.mono ?_;rintro e w6 ⟨g6,p6,ρ6,γ6,f6,rfl,aa,ae,ac⟩;have aq:=qH1 (ag.trans (ac.mono ag.size));clear ac;have a0:Hid (MatR w6 g6 (s.size+1) ρ6 γ6 f6/\RelW (sb s) f6 (opL (Lg a) (ops.take (k+1)))/\Below w w w6):=⟨ae.1,ae.2.iff (λ_ _ _ _=>rfl) (λx=>by rw[HK.1];exact(xIu _ _ x)),aq.out⟩;refine zY ?_;first|exact⟨J+1,k+1,g6,p6,ρ6,γ6,f6,qo,qo,by go_num,rfl,aa,a0,a9⟩|exact⟨J+1,qo,by go_num,g6,p6,rfl,aa,k+1,ρ6,γ6,f6,qo,a0,a9⟩|trace_state
    .obtain⟨_,gj⟩:=yAr HK.2;have zj:(J:Int)<(p.size:Int):=by have:=yAn HK.2;rw[yAe]at this;omega
     have a8:Hid (Calls prog 142 #[.int .u8 ((43:UInt8).toNat:Int)] wr λe w'=>e=.returned true/\w'=wr):=by have:=yBi 43 wr;rw[decide_eq_true qj]at this;exact this
     have aj:J<p.size:=qo
     go_wp2_with fail;refine a8.mono ?_;rintro e' w9 ⟨rfl,a2⟩;rw[a2];clear a2;go_wp2_with fail;refine(yPq hs HO.1 HO.2.1 ab).mono ?_;rintro e w3 ⟨g3,p3,ρ3,γ3,f3,rfl,a5,a3,a1⟩;have a4:=qH1 (HO.2.2.trans (a1.mono HO.2.2.size));clear a1;have a0:Hid (MatR w3 g3 (s.size+1) ρ3 γ3 f3/\RelW (sb s) f3 (opL (Lg a) (ops.take (k+1)))/\Below w w w3):=⟨a3.1,a3.2.iff (λ_ _ _ _=>rfl) (λx=>by rw[HK.1];exact(xIt _ _ x)),a4.out⟩;refine zY ?_;first|exact⟨J+1,k+1,g3,p3,ρ3,γ3,f3,qo,qo,by go_num,rfl,a5,a0,a9⟩|exact⟨J+1,qo,by go_num,g3,p3,rfl,a5,k+1,ρ3,γ3,f3,qo,a0,a9⟩|trace_state
    .obtain⟨_,gj⟩:=yAr HK.2;have zj:(J:Int)<(p.size:Int):=by have:=yAn HK.2;rw[yAe]at this;omega
     have a8:Hid (Calls prog 142 #[.int .u8 ((63:UInt8).toNat:Int)] wr λe w'=>e=.returned true/\w'=wr):=by have:=yBi 63 wr;rw[decide_eq_true qj]at this;exact this
     have aj:J<p.size:=qo
     go_wp2_with fail;refine a8.mono ?_;rintro e' w9 ⟨rfl,a2⟩;rw[a2];clear a2;go_wp2_with fail;refine(yFr hs wr).mono ?_;rintro e w5 ⟨g5,p5,ρ5,γ5,f5,rfl,ak,af,a7⟩;have an:=qH1 (yYr hs (HO.1.below a7 qr) HO.2.1 ab af.1 af.2 ak);have ag:=qH1 (HO.2.2.trans (a7.mono HO.2.2.size));clear a7;go_wp2_with fail;refine an.mono ?_;rintro e w6 ⟨g6,p6,ρ6,γ6,f6,rfl,aa,ae,ac⟩;have aq:=qH1 (ag.trans (ac.mono ag.size));clear ac;have a0:Hid (MatR w6 g6 (s.size+1) ρ6 γ6 f6/\RelW (sb s) f6 (opL (Lg a) (ops.take (k+1)))/\Below w w w6):=⟨ae.1,ae.2.iff (λ_ _ _ _=>rfl) (λx=>by rw[HK.1];exact(xIs _ _ x)),aq.out⟩;refine zY ?_;first|exact⟨J+1,k+1,g6,p6,ρ6,γ6,f6,qo,qo,by go_num,rfl,aa,a0,a9⟩|exact⟨J+1,qo,by go_num,g6,p6,rfl,aa,k+1,ρ6,γ6,f6,qo,a0,a9⟩|trace_state
   .obtain rfl:k=no:=qo
    have a0:Hid (MatR wr go (s.size+1) ρo γo f/\RelW (sb s) f (Lg t)/\Below w w wr):=by refine⟨HO.1,HO.2.1.iff (λ_ _ _ _=>rfl) (λx=>?_),HO.2.2⟩;rw[take_of_length_le (by rw[HL.2];exact Nat.le_refl _)];exact HX.2 x
    have ax:Hid (∀wx,Below wr wr wx->Calls prog 225 #[(p.extract J p.size),s] wx (MxG s (LgS ts) wx)):=λwx _=>by rw[HJ.out];exact aD.out wx
    by_cases aj:J<p.size
    .obtain⟨c,hc⟩:∃c,(sb p)[J]?=some c:=qg (by rw[yAe];exact aj);obtain⟨_,gj⟩:=yAr hc;have zj:(J:Int)<(p.size:Int):=qo
     have ar:=HX.1.stop c (by rw[<-HL.1,<-HL.2,<-HJ.out];exact hc);have a8:Hid (Calls prog 142 #[.int .u8 (c.toNat:Int)] wr λe w'=>e=.returned false/\w'=wr):=by have:=yBi c wr;rw[decide_eq_false ar]at this;exact this
     clear hc ar;go_wp2_with fail;refine a8.mono ?_;rintro e' w9 ⟨rfl,a2⟩;rw[a2];clear a2;go_wp2_with fail;refine(ax.out wr (Below.refl _ _)).mono ?_;rintro e w3 ⟨g3,p3,ρ3,γ3,f3,rfl,a5,a3,a1⟩;have a4:=qH1 (a0.2.2.trans (a1.mono a0.2.2.size));have am:Hid (Calls prog 242 #[slV go (s.size+1) co,slV g3 (s.size+1) p3] w3 (MxG s (LgS (t::ts)) w3)):=(yO8 hs (a0.1.below a1 qr) a0.2.1 ab a3.1 a3.2 a5).mono (λr w' h=>MxG.iff h (λx=>by simp[LgS]));clear a1;go_wp2_with fail;refine am.mono ?_;rintro e w4 ⟨g4,p4,ρ4,γ4,f4,rfl,al,ao,ad⟩;have HR:Hid (MxG s (LgS (t::ts)) w (.returned (slV g4 (s.size+1) p4)) w4):=⟨g4,p4,ρ4,γ4,f4,rfl,al,ao,a4.trans (ad.mono a4.size)⟩;clear ad;go_wp2;go_ret;exact HR.out
    .have zj:¬(J:Int)<(p.size:Int):=qo
     have aG:(J:Int)<=(p.size:Int):=qo
     go_wp2_with fail;refine(ax.out wr (Below.refl _ _)).mono ?_;rintro e w3 ⟨g3,p3,ρ3,γ3,f3,rfl,a5,a3,a1⟩;have a4:=qH1 (a0.2.2.trans (a1.mono a0.2.2.size));have am:Hid (Calls prog 242 #[slV go (s.size+1) co,slV g3 (s.size+1) p3] w3 (MxG s (LgS (t::ts)) w3)):=(yO8 hs (a0.1.below a1 qr) a0.2.1 ab a3.1 a3.2 a5).mono (λr w' h=>MxG.iff h (λx=>by simp[LgS]));clear a1;go_wp2_with fail;refine am.mono ?_;rintro e w4 ⟨g4,p4,ρ4,γ4,f4,rfl,al,ao,ad⟩;have HR:Hid (MxG s (LgS (t::ts)) w (.returned (slV g4 (s.size+1) p4)) w4):=⟨g4,p4,ρ4,γ4,f4,rfl,al,ao,a4.trans (ad.mono a4.size)⟩;clear ad;go_wp2;go_ret;exact HR.out
theorem yNo {s:List UInt8} {τ:UInt8->Bool} (h:∀i j,i<=j->j<s.length+1->f i j=(decide (j=i+1) && ((s[i]?).map τ).getD false)):RelW s f (λx=>∃c,x= [c]/\τ c=true):=by
 intro i j hij hj;rw[h i j hij (by omega),Bool.and_eq_true,decide_eq_true_eq];constructor
 .rintro⟨rfl,h2⟩;cases hc:s[i]? with
  |none=>rw[hc]at h2;cases h2
  |some c=>rw[hc]at h2;exact⟨c,yCa hc,h2⟩
 .rintro⟨c,hx,hc⟩;have hl:=yAw (p:=s) (i:=i) hj;rw[hx]at hl;have e:j=i+1:=by simp at hl;omega
  subst e;have hi:i<s.length:=by omega
  have h1:=yCa (p:=s) (i:=i) (getElem?_eq_getElem hi);rw[hx]at h1;have h2:c=s[i]:=by simpa using h1
  exact⟨rfl,by rw[getElem?_eq_getElem hi,<-h2];exact hc⟩
theorem xCb (hs:s.size<=200) (q:ByteArray) (c:UInt8) (hq:sb q= [c]) (h40:¬c=40) (h46:¬c=46) (h92:¬c=92) (h91:¬c=91) w:Calls prog 240 #[q,s] w (MxG s (Lg (.byte c)) w):=by
 have a2:q.size=1:=by rw[<-yAe,hq];rfl
 obtain⟨_,gq⟩:=yAr (s:=q) (i:=0) (x:=c) (by rw[hq];rfl);have zq:(0:Int)<(q.size:Int):=by omega
 have a7:((c.toNat:Int)==40)=false:=beq_eq_false_iff_ne.2 (yA8 (c:=40) h40);have z46:((c.toNat:Int)==46)=false:=beq_eq_false_iff_ne.2 (yA8 (c:=46) h46);have a5:((c.toNat:Int)==92)=false:=beq_eq_false_iff_ne.2 (yA8 (c:=92) h92);have a6:((c.toNat:Int)==91)=false:=beq_eq_false_iff_ne.2 (yA8 (c:=91) h91);have a4:Hid (Calls prog 223 #[xi s.size] w (MaP (s.size+1) (λ_ _=>false) w)):=yBn s.size (by omega) w;clear hq h40 h46 h92 h91 a2;go_enter func240,ntmps240;go_wp2_with fail;refine a4.mono ?_;rintro r w1 ⟨g,cp,ρ,γ,rfl,HM,a3⟩;have hcp:=HM.out.out.caps;go_wp2;go_loopw[6] (λiv wr=>∃(k:Nat) (f:Nat->Nat->Bool),k<=s.size/\iv=(xi k)/\Hid (MatO wr w g cp (s.size+1) (s.size+1) ρ γ f/\(∀i j,i<=j->j<s.size+1->f i j=(decide (j=i+1) && (((sb s)[i]?).map (λx=>x==c)).getD false && decide (i<k)))/\Below w w wr)) (λiv _=>s.size-(intOf iv).toNat);case atStart=>exact⟨0,_,zero_le _,rfl,HM.out,λi j _ _=>by simp,a3⟩
 case round=>
  obtain⟨k,f,hk,rfl,HJ⟩:=hrel;by_cases hlt:k<s.size
  .have zk:(k:Int)<(s.size:Int):=by omega
   obtain⟨x,hx⟩:∃x,(sb s)[k]?=some x:=qg (by rw[yAe];exact hlt);obtain⟨_,gx⟩:=yAr hx;have c0:(xk wr g k (slV (ρ k) (s.size+1) (γ k)):Prop):=HJ.1.cell (by omega);have a0:k<s.size+1:=by omega
   have c1:(xk wr (ρ k) (k+1) (f k (k+1)):Prop):=(HJ.1.row k a0).cell (by omega);have y1:wr.frozen? (xd (ρ k) (k+1))=false:=World.ownsRow.frozenAt (HJ.1.row k a0) _;have a8:=(HJ.1.row k a0).caps;obtain⟨bv,a1⟩:=qE (((c.toNat:Int)==(x.toNat:Int)));have HV:Hid (bv=(x==c)):=by show _=_;rw[a1,Bool.eq_iff_iff,beq_iff_eq,beq_iff_eq];exact⟨λq=>UInt8.toNat_inj.1 (by omega),λq=>by rw[q]⟩
   have HX:Hid ((sb s)[k]?=some x):=hx;clear hx;go_upto_region 7 with fail;refine yAf 99 (λ_=>True) (by kernel_rfl) ?_;refine ja 0 True.intro ?_;refine jb True.intro ?_;refine ja 2 True.intro (v:=false) ?_;iterate 8 refine jb True.intro ?_
   refine kO 11 True.intro ?_;refine qD ?_;rw[<-a1];clear a1;have HJ2:Hid (MatO (wr.setCell (xd (ρ k) (k+1)) bv).drew w g cp (s.size+1) (s.size+1) ρ γ (upd2 f k (k+1) bv)/\(∀i j,i<=j->j<s.size+1->upd2 f k (k+1) bv i j=(decide (j=i+1) && (((sb s)[i]?).map (λx=>x==c)).getD false && decide (i<k+1)))/\Below w w (wr.setCell (xd (ρ k) (k+1)) bv).drew):=by
    refine⟨(HJ.1.set a0 (by omega) bv).below ((Below.refl _ _).drew),λi j hij hj=>?_,(yAc HJ.2.2 (HJ.1.row k a0).lt.1 _ _).drew⟩;unfold upd2;by_cases e:i=k/\j=k+1
    .rw[if_pos e,e.1,e.2,HX.out,HV.out];simp
    .rw[if_neg e,HJ.2.1 i j hij hj];by_cases e2:j=i+1
     .have h1:i≠k:=λq=>e ⟨q,by omega⟩;have h2:decide (i<k)=decide (i<k+1):=by rw[decide_eq_decide];omega
      rw[h2]
     .simp[e2]
   exact xAn
  .exact xGq
theorem xFv (hs:s.size<=200) (q:ByteArray) (d:UInt8) (hq:sb q= [d]) (hd:d=46) w:Calls prog 240 #[q,s] w (MxG s (Lg (.cls (λ_=>true))) w):=by
 have a3:q.size=1:=by rw[<-yAe,hq];rfl
 obtain⟨_,gq⟩:=yAr (s:=q) (i:=0) (x:=d) (by rw[hq];rfl);have a9:((d.toNat:Int)==40)=false:=by rw[hd];rfl
 have z46:((d.toNat:Int)==46)=true:=by rw[hd];rfl
 have a7:((d.toNat:Int)==92)=false:=by rw[hd];rfl
 have a8:((d.toNat:Int)==91)=false:=by rw[hd];rfl
 have zq:(0:Int)<(q.size:Int):=qo
 have a6:Hid (Calls prog 223 #[xi s.size] w (MaP (s.size+1) (λ_ _=>false) w)):=yBn s.size qo w;clear hq hd a3;go_enter func240,ntmps240;go_wp2_with fail;refine a6.mono ?_;rintro r w1 ⟨g,cp,ρ,γ,rfl,HM,a5⟩;have a4:=HM.out.out.caps;go_wp2;go_loopw[6] (λiv wr=>∃(k:Nat) (f:Nat->Nat->Bool),k<=s.size/\iv=(xi k)/\Hid (MatO wr w g cp (s.size+1) (s.size+1) ρ γ f/\(∀i j,i<=j->j<s.size+1->f i j=(decide (j=i+1) && (((sb s)[i]?).map (λ_=>true)).getD false && decide (i<k)))/\Below w w wr)) (λiv _=>s.size-(intOf iv).toNat);case atStart=>exact⟨0,_,zero_le _,rfl,HM.out,λi j _ _=>by simp,a5⟩
 case round=>
  obtain⟨k,f,hk,rfl,HJ⟩:=hrel;by_cases hlt:k<s.size
  .have zk:(k:Int)<(s.size:Int):=qo
   obtain⟨x,hx⟩:∃x,(sb s)[k]?=some x:=qg (by rw[yAe];exact hlt);obtain⟨_,gx⟩:=yAr hx;have c0:(xk wr g k (slV (ρ k) (s.size+1) (γ k)):Prop):=HJ.1.cell qo;have a0:k<s.size+1:=qo
   have c1:(xk wr (ρ k) (k+1) (f k (k+1)):Prop):=(HJ.1.row k a0).cell qo;have y1:wr.frozen? (xd (ρ k) (k+1))=false:=World.ownsRow.frozenAt (HJ.1.row k a0) _;have aa:=(HJ.1.row k a0).caps;obtain⟨bv,a1⟩:=qE ((true));have HV:Hid (bv=(λ_=>true) x):=by exact a1
   have HX:Hid ((sb s)[k]?=some x):=hx;clear hx;go_upto_region 7 with fail;refine yAf 99 (λ_=>True) qk ?_;refine ja 0 True.intro ?_;refine jb True.intro ?_;refine ja 2 True.intro (v:=true) ?_;iterate 8 refine jb True.intro ?_
   refine kO 11 True.intro ?_;refine qD ?_;have a2:(Value.bool true)=Value.bool bv:=by rw[a1]
   rw[a2];clear a1 a2;have HJ2:Hid (MatO (wr.setCell (xd (ρ k) (k+1)) bv).drew w g cp (s.size+1) (s.size+1) ρ γ (upd2 f k (k+1) bv)/\(∀i j,i<=j->j<s.size+1->upd2 f k (k+1) bv i j=(decide (j=i+1) && (((sb s)[i]?).map (λ_=>true)).getD false && decide (i<k+1)))/\Below w w (wr.setCell (xd (ρ k) (k+1)) bv).drew):=by
    refine⟨(HJ.1.set a0 qo bv).below ((Below.refl _ _).drew),λi j hij hj=>?_,(yAc HJ.2.2 (HJ.1.row k a0).lt.1 _ _).drew⟩;unfold upd2;by_cases e:i=k/\j=k+1
    .rw[if_pos e,e.1,e.2,HX.out,HV.out];simp
    .rw[if_neg e,HJ.2.1 i j hij hj];by_cases e2:j=i+1
     .have h1:i≠k:=λq=>e ⟨q,qo⟩;have h2:decide (i<k)=decide (i<k+1):=by rw[decide_eq_decide];omega
      rw[h2]
     .simp[e2]
   exact xAn
  .obtain rfl:k=s.size:=qo
   have zk:¬(s.size:Int)<(s.size:Int):=qo
   go_wp2;go_ret;refine⟨g,cp,ρ,γ,f,rfl,a4.1,⟨HJ.1.read,(yNo (τ:=λ_=>true) (λi j hij hj=>?_)).iff (λ_ _ _ _=>rfl) (λy=>by simp[Lg])⟩,HJ.2.2⟩;rw[yAe]at hj;rw[HJ.2.1 i j hij hj];by_cases e:j=i+1
   .have h1:i<s.size:=qo
    simp[h1]
   .simp[e]
theorem xFu (hs:s.size<=200) (q:ByteArray) (d c:UInt8) (hq:sb q= [d,c]) (hd:d=92) w:Calls prog 240 #[q,s] w (MxG s (Lg (.byte c)) w):=by
 have a2:q.size=2:=by rw[<-yAe,hq];rfl
 obtain⟨_,gq⟩:=yAr (s:=q) (i:=0) (x:=d) (by rw[hq];rfl);obtain⟨_,aa⟩:=yAr (s:=q) (i:=1) (x:=c) (by rw[hq];rfl);have a5:(1:Int)<(q.size:Int):=qo
 have a8:((d.toNat:Int)==40)=false:=by rw[hd];rfl
 have z46:((d.toNat:Int)==46)=false:=by rw[hd];rfl
 have a6:((d.toNat:Int)==92)=true:=by rw[hd];rfl
 have a7:((d.toNat:Int)==91)=false:=by rw[hd];rfl
 have zq:(0:Int)<(q.size:Int):=qo
 have a4:Hid (Calls prog 223 #[xi s.size] w (MaP (s.size+1) (λ_ _=>false) w)):=yBn s.size qo w;clear hq hd a2;go_enter func240,ntmps240;go_wp2_with fail;refine a4.mono ?_;rintro r w1 ⟨g,cp,ρ,γ,rfl,HM,a3⟩;have hcp:=HM.out.out.caps;go_wp2;go_loopw[6] (λiv wr=>∃(k:Nat) (f:Nat->Nat->Bool),k<=s.size/\iv=(xi k)/\Hid (MatO wr w g cp (s.size+1) (s.size+1) ρ γ f/\(∀i j,i<=j->j<s.size+1->f i j=(decide (j=i+1) && (((sb s)[i]?).map (λx=>x==c)).getD false && decide (i<k)))/\Below w w wr)) (λiv _=>s.size-(intOf iv).toNat);case atStart=>exact⟨0,_,zero_le _,rfl,HM.out,λi j _ _=>by simp,a3⟩
 case round=>
  obtain⟨k,f,hk,rfl,HJ⟩:=hrel;by_cases hlt:k<s.size
  .have zk:(k:Int)<(s.size:Int):=qo
   obtain⟨x,hx⟩:∃x,(sb s)[k]?=some x:=qg (by rw[yAe];exact hlt);obtain⟨_,gx⟩:=yAr hx;have c0:(xk wr g k (slV (ρ k) (s.size+1) (γ k)):Prop):=HJ.1.cell qo;have a0:k<s.size+1:=qo
   have c1:(xk wr (ρ k) (k+1) (f k (k+1)):Prop):=(HJ.1.row k a0).cell qo;have y1:wr.frozen? (xd (ρ k) (k+1))=false:=World.ownsRow.frozenAt (HJ.1.row k a0) _;have a9:=(HJ.1.row k a0).caps;obtain⟨bv,a1⟩:=qE (((c.toNat:Int)==(x.toNat:Int)));have HV:Hid (bv=(λx=>x==c) x):=by show _=_;rw[a1,Bool.eq_iff_iff,beq_iff_eq,beq_iff_eq];exact⟨λq=>UInt8.toNat_inj.1 qo,λq=>by rw[q]⟩
   have HX:Hid ((sb s)[k]?=some x):=hx;clear hx;go_upto_region 7 with fail;refine yAf 99 (λ_=>True) qk ?_;refine ja 0 True.intro ?_;refine jb True.intro ?_;refine ja 2 True.intro (v:=false) ?_;iterate 8 refine jb True.intro ?_
   refine kO 11 True.intro ?_;refine qD ?_;go_upto_region 9 with fail;refine yAf 99 (λ_=>True) qk ?_;refine ja 0 True.intro ?_;iterate 5 refine jb True.intro ?_
   refine kO 6 True.intro ?_;refine qD ?_;rw[<-a1];clear a1;have HJ2:Hid (MatO (wr.setCell (xd (ρ k) (k+1)) bv).drew.drew w g cp (s.size+1) (s.size+1) ρ γ (upd2 f k (k+1) bv)/\(∀i j,i<=j->j<s.size+1->upd2 f k (k+1) bv i j=(decide (j=i+1) && (((sb s)[i]?).map (λx=>x==c)).getD false && decide (i<k+1)))/\Below w w (wr.setCell (xd (ρ k) (k+1)) bv).drew.drew):=by
    refine⟨(HJ.1.set a0 qo bv).below ((Below.refl _ _).drew.drew),λi j hij hj=>?_,(yAc HJ.2.2 (HJ.1.row k a0).lt.1 _ _).drew.drew⟩;unfold upd2;by_cases e:i=k/\j=k+1
    .rw[if_pos e,e.1,e.2,HX.out,HV.out];simp
    .rw[if_neg e,HJ.2.1 i j hij hj];by_cases e2:j=i+1
     .have h1:i≠k:=λq=>e ⟨q,qo⟩;have h2:decide (i<k)=decide (i<k+1):=by rw[decide_eq_decide];omega
      rw[h2]
     .simp[e2]
   exact xAn
  .exact xGq
theorem xFw (hs:s.size<=200) (q:ByteArray) (fc:UInt8->Bool) (hq91:(sb q)[0]?=some 91) (hqs:q.size<=200) (hcl:yAq (sb q) 1=.inl (fc,q.size)) w:Calls prog 240 #[q,s] w (MxG s (Lg (.cls fc)) w):=by
 obtain⟨d,hd⟩:=qE (91:UInt8);rw[<-hd]at hq91;have ab:0<q.size:=by have:=yAn hq91;rw[yAe]at this;exact this
 obtain⟨_,gq⟩:=yAr (s:=q) (i:=0) (x:=d) hq91;have a9:((d.toNat:Int)==40)=false:=by rw[hd];rfl
 have z46:((d.toNat:Int)==46)=false:=by rw[hd];rfl
 have a7:((d.toNat:Int)==92)=false:=by rw[hd];rfl
 have a8:((d.toNat:Int)==91)=true:=by rw[hd];rfl
 have a6:Hid (∀(b:UInt8) (wx:World),Calls prog 255 #[q,.int .u8 (b.toNat:Int)] wx λe w'=>e=.returned (fc b)/\w'=wx):=λb wx=>yQb q hqs b fc hcl wx;have zq:(0:Int)<(q.size:Int):=qo
 have a5:Hid (Calls prog 223 #[xi s.size] w (MaP (s.size+1) (λ_ _=>false) w)):=yBn s.size qo w;clear hq91 hd hqs hcl;go_enter func240,ntmps240;go_wp2_with fail;refine a5.mono ?_;rintro r w1 ⟨g,cp,ρ,γ,rfl,HM,a4⟩;have a3:=HM.out.out.caps;go_wp2;go_loopw[6] (λiv wr=>∃(k:Nat) (f:Nat->Nat->Bool),k<=s.size/\iv=(xi k)/\Hid (MatO wr w g cp (s.size+1) (s.size+1) ρ γ f/\(∀i j,i<=j->j<s.size+1->f i j=(decide (j=i+1) && (((sb s)[i]?).map (λx=>fc x)).getD false && decide (i<k)))/\Below w w wr)) (λiv _=>s.size-(intOf iv).toNat);case atStart=>exact⟨0,_,zero_le _,rfl,HM.out,λi j _ _=>by simp,a4⟩
 case round=>
  obtain⟨k,f,hk,rfl,HJ⟩:=hrel;by_cases hlt:k<s.size
  .have zk:(k:Int)<(s.size:Int):=qo
   obtain⟨x,hx⟩:∃x,(sb s)[k]?=some x:=qg (by rw[yAe];exact hlt);obtain⟨_,gx⟩:=yAr hx;have c0:(xk wr g k (slV (ρ k) (s.size+1) (γ k)):Prop):=HJ.1.cell qo;have a0:k<s.size+1:=qo
   have c1:(xk wr (ρ k) (k+1) (f k (k+1)):Prop):=(HJ.1.row k a0).cell qo;have y1:wr.frozen? (xd (ρ k) (k+1))=false:=World.ownsRow.frozenAt (HJ.1.row k a0) _;have aa:=(HJ.1.row k a0).caps;obtain⟨bv,a1⟩:=qE ((fc x));have HV:Hid (bv=(λx=>fc x) x):=by exact a1
   have HX:Hid ((sb s)[k]?=some x):=hx;clear hx;go_upto_region 7 with fail;refine yAf 99 (λ_=>True) qk ?_;refine ja 0 True.intro ?_;refine jb True.intro ?_;refine ja 2 True.intro (v:=false) ?_;iterate 8 refine jb True.intro ?_
   refine kO 11 True.intro ?_;refine qD ?_;go_wp2_with fail;refine(a6.out x _).mono ?_;rintro e wh ⟨rfl,a2⟩;rw[a2];rw[<-a1];clear a1;have HJ2:Hid (MatO (wr.setCell (xd (ρ k) (k+1)) bv).drew w g cp (s.size+1) (s.size+1) ρ γ (upd2 f k (k+1) bv)/\(∀i j,i<=j->j<s.size+1->upd2 f k (k+1) bv i j=(decide (j=i+1) && (((sb s)[i]?).map (λx=>fc x)).getD false && decide (i<k+1)))/\Below w w (wr.setCell (xd (ρ k) (k+1)) bv).drew):=by
    refine⟨(HJ.1.set a0 qo bv).below ((Below.refl _ _).drew),λi j hij hj=>?_,(yAc HJ.2.2 (HJ.1.row k a0).lt.1 _ _).drew⟩;unfold upd2;by_cases e:i=k/\j=k+1
    .rw[if_pos e,e.1,e.2,HX.out,HV.out];simp
    .rw[if_neg e,HJ.2.1 i j hij hj];by_cases e2:j=i+1
     .have h1:i≠k:=λq=>e ⟨q,qo⟩;have h2:decide (i<k)=decide (i<k+1):=by rw[decide_eq_decide];omega
      rw[h2]
     .simp[e2]
   exact xAn
  .obtain rfl:k=s.size:=qo
   have zk:¬(s.size:Int)<(s.size:Int):=qo
   go_wp2;go_ret;refine⟨g,cp,ρ,γ,f,rfl,a3.1,⟨HJ.1.read,(yNo (τ:=λx=>fc x) (λi j hij hj=>?_)).iff (λ_ _ _ _=>rfl) (λy=>by simp[Lg])⟩,HJ.2.2⟩;rw[yAe]at hj;rw[HJ.2.1 i j hij hj];by_cases e:j=i+1
   .have h1:i<s.size:=qo
    simp[h1]
   .simp[e]
theorem yZ9 (H:AltW s m) (q:ByteArray) (ys:List UInt8) (n:Nat) (os:List (List Pat)) (hq:sb q=40::ys++ [41]) (hqm:q.size<=m+1) (hqs:q.size<=200) (hG:AltG (yAm n) os ys) w:Calls prog 240 #[q,s] w (MxG s (LgA os) w):=by
 have a0:q.size=ys.length+2:=by rw[<-yAe,hq];simp
 obtain⟨d,hd⟩:=qE (40:UInt8);obtain⟨_,gq⟩:=yAr (s:=q) (i:=0) (x:=d) (by rw[hq,hd];rfl);have a2:((d.toNat:Int)==40)=true:=by rw[hd];rfl
 have zq:(0:Int)<(q.size:Int):=qo
 have hx:sb (q.extract 1 (q.size-1))=ys:=by rw[yB0 q qo,hq,a0];simp[cut]
 have HC:=qH1 (H n os _ w (by rw[<-yAe,hx];omega) (by rw[<-yAe,hx];omega) (by rw[hx];exact hG));obtain⟨M,hM⟩:=qE (q.size-1);have z1:(1:Int)<=(M:Int):=qo
 have z2:(M:Int)<=(q.size:Int):=qo
 have z3:((q.size:Int)-1)=(M:Int):=qo
 have z4:=hqs;rw[<-hM]at HC;clear hq hqm hqs hG hx hd a0 hM;go_enter func240,ntmps240;go_wp2_with fail;refine HC.mono ?_;rintro r w1 ⟨g,cp,ρ,γ,f,rfl,a1,HM,hb⟩;go_wp2_with fail;go_ret;exact⟨g,cp,ρ,γ,f,rfl,a1,HM,hb⟩
theorem yHh (c k:Int) (w:World):(Instr.field 158 (.agg #[xi c,xi k]) 0).run prog w=.ok (xi c) w:=qk
theorem xCa (hs:s.size<=200) (H:AltW s m):AtmW s (m+1):=by
 intro n t q w a1 hq hG;cases n with
 |zero=>exact hG.elim
 |succ n=>
  rcases hG with⟨c,h1,h2,rfl⟩|⟨h1,rfl⟩|⟨c,h1,rfl⟩|⟨ys,os,h1,h2,rfl⟩|⟨p,i,k,f,h1,h2,h3,rfl⟩
  .unfold yB3 at h2;exact xCb hs q c h1 (λe=>h2 (.inr (.inl e))) (λe=>h2 (.inr (.inr (.inr (.inl e))))) (λe=>h2 (.inr (.inr (.inr (.inr e))))) (λe=>h2 (.inr (.inr (.inl e)))) w
  .exact xFv hs q 46 h1 rfl w
  .exact xFu hs q 92 c h1 rfl w
  .exact yZ9 H q ys n os h1 a1 hq h2 w
  .have hg:=yBj h2;have a2:=hg.2;have hl:(sb q).length=k-i:=by rw[h3,yAw a2]
   have a0:∀t,i+t<k->(sb q)[t]?=p[i+t]?:=λt ht=>by rw[h3];unfold cut;rw[getElem?_take,if_pos qo,getElem?_drop]
   have e:=yFd (q:=sb q) (j:=1) h2 (λt ht=>by rw[a0 (1+t) qo];congr 1;omega)
   refine xFw hs q f (by have:=a0 0 qo;rw[this];exact h1) hq ?_ w;rw[e];have:1+(k-(i+1))=q.size:=by rw[<-yAe,hl];omega
   rw[this]
theorem xA3 (hs:s.size<=200):SeqW s 0:=by
 intro n ts p w a3 hp hG;have h0:sb p= []:=length_eq_zero_iff.1 (by rw[yAe];omega);cases ts with
 |nil=>
  have hz:p.toList= []:=by rw[ByteArray.toList_eq];exact h0
  have q1:(p.toList== [])=true:=by rw[hz];rfl
  have HE:=qH1 (yFr hs w);clear hz h0 hG;go_enter func225,ntmps225;go_wp2_with fail;refine HE.mono ?_;rintro e w1 ⟨g1,p1,ρ1,γ1,f1,rfl,a1,a0,a2⟩;have HR:Hid (MxG s (LgS []) w (.returned (slV g1 (s.size+1) p1)) w1):=⟨g1,p1,ρ1,γ1,f1,rfl,a1,⟨a0.1,a0.2.iff (λ_ _ _ _=>rfl) (λx=>by simp[LgS])⟩,a2⟩;go_wp2;go_ret;exact HR.out
 |cons t ts=>
  obtain⟨a,as_,ops,hX,_⟩:=yY hG;have h1:=hX.len;have h2:=hX.le;omega
theorem yJj (hs:s.size<=200):∀m,SeqW s m
 |0=>xA3 hs
 |m+1=>xA4 hs (xCa hs (yVi hs (yJj hs m))) (yJj hs m)
theorem xAb (hs:s.size<=200) (m:Nat):AltW s m:=yVi hs (yJj hs m)
theorem yGo (p s:ByteArray) (hpm:p.size<=maxLen) (hc0:¬(yAj (sb p)).1=0) (w:World):(xf 169 #[p,s] w false:Prop):=by
 obtain⟨c,hc⟩:=qE ((yAj (sb p)).1);obtain⟨k,hk⟩:=qE (((yAj (sb p)).2:Int):Int);have HS:Hid (∀w,(xf 89 #[p] w (.agg #[xi c,xi k]):Prop)):=λw=>by rw[hc,hk];exact yB6 p w hpm
 have a0:=yHh c k;rw[<-hc]at hc0;clear hc hk;exact xC3
theorem yLa (p s:ByteArray) (hpm:p.size<=maxLen) (hs:200<s.size) (w:World):(xf 169 #[p,s] w false:Prop):=by
 by_cases hc0:(yAj (sb p)).1=0
 .obtain⟨k,hk⟩:=qE (((yAj (sb p)).2:Int):Int);have HS:Hid (∀w,(xf 89 #[p] w (.agg #[xi 0,xi k]):Prop)):=λw=>by rw[<-hc0,hk];exact yB6 p w hpm
  have a0:=yHh 0 k;have zs:¬(s.size:Int)<=200:=qo
  clear hk hc0;exact xC3
 .exact yGo p s hpm hc0 w
theorem yPf (p s:ByteArray) (hpm:p.size<=maxLen) (hc0:(yAj (sb p)).1=0) (hs:s.size<=200) (n:Nat) (os:List (List Pat)) (hG:AltG (yAm n) os (sb p)) (w:World):Calls prog 169 #[p,s] w λe w'=>∃b:Bool,e=.returned b/\Hid (b=true↔LgA os (sb s))/\Below w w w':=by
 have hp:p.size<=200:=by apply Classical.byContradiction;intro h6;unfold yAj at hc0;rw[if_pos (by rw[yAe];omega)]at hc0;exact absurd hc0 qj
 obtain⟨k,hk⟩:=qE (((yAj (sb p)).2:Int):Int);have HS:Hid (∀w,(xf 89 #[p] w (.agg #[xi 0,xi k]):Prop)):=λw=>by rw[<-hc0,hk];exact yB6 p w hpm
 have HA:Hid (∀w,Calls prog 205 #[p,s] w (MxG s (LgA os) w)):=λw=>xAb hs 200 n os p w hp hp hG;have a1:=yHh 0 k;have zs:(s.size:Int)<=200:=qo
 clear hk hc0 hG;go_enter func169,ntmps169;go_wp2_with fail;refine(HS.out _).mono ?_;rintro e w1 ⟨rfl,a0⟩;go_wp2_with fail;refine(HA.out _).mono ?_;rintro e w2 ⟨g,cp,ρ,γ,f,rfl,a2,HM,hb2⟩;have c0:=HM.1.out 0 qo;have c1:=HM.1.row 0 s.size qo qo;have a3:=HM.1.cap 0 qo;have z9:(s.size:Int)<((s.size+1:Nat):Int):=qo
 have z8:(s.size:Int)<(s.size:Int)+1:=qo
 have z7:(0:Int)<(s.size:Int)+1:=qo
 have HB:Hid (f 0 s.size=true↔LgA os (sb s)):=by
  have h:=HM.2 0 s.size qo (by rw[yAe];omega);have e:cut (sb s) 0 s.size=sb s:=by unfold cut;rw[drop_zero,Nat.sub_zero,<-yAe,take_length]
  rw[e]at h;exact h
 go_wp2;go_ret;exact⟨_,rfl,HB,a0.trans (hb2.mono a0.size)⟩
section
def Hd (Q:UInt8->Prop) (r:List UInt8):Prop:=r= []∨∃c zs,r=c::zs/\Q c
theorem Hd.mono {Q R:UInt8->Prop} (h:∀c,Q c->R c) {r:List UInt8}:Hd Q r->Hd R r
 | .inl q=>.inl q
 | .inr ⟨c,zs,h1,h2⟩=>.inr ⟨c,zs,h1,h c h2⟩
theorem yYs:∀(a b:List UInt8) {r r':List UInt8},(∀c∈a,isOp c)->(∀c∈b,isOp c)->Hd (λc=>¬isOp c) r->Hd (λc=>¬isOp c) r'->a++r=b++r'->a=b/\r=r'
 | [],[],r,r',_,_,_,_,h=>⟨rfl,by simpa using h⟩
 |x::a,[],r,r',ha,_,_,hr',h=>by
  rcases hr' with rfl|⟨c,zs,rfl,hc⟩
  .cases h
  .simp only[cons_append,nil_append,List.cons.injEq]at h
   exact absurd (h.1▸ha x (by simp)) hc
 | [],y::b,r,r',_,hb,hr,_,h=>by
   rcases hr with rfl|⟨c,zs,rfl,hc⟩
   .cases h
   .simp only[cons_append,nil_append,List.cons.injEq]at h
    exact absurd (h.1▸hb y (by simp)) hc
 |x::a,y::b,r,r',ha,hb,hr,hr',h=>by
  simp only[cons_append,List.cons.injEq]at h
  obtain⟨h1,h2⟩:=yYs a b (λc hc=>ha c (by simp[hc])) (λc hc=>hb c (by simp[hc])) hr hr' h.2
  exact⟨by rw[h.1,h1],h2⟩
theorem yVd (zs:List UInt8):Hd (λc=>c=41∨c=124) (124::zs):=.inr ⟨124,zs,rfl,.inr rfl⟩
section
variable {n m:Nat} (hU:∀xs t t',yAm n xs t->yAm m xs t'->t=t')
include hU
theorem xEn {ys r r':List UInt8} {t':Pat} (h:RepG (yAm n) xs t) (k:RepG (yAm m) ys t') (hr:Hd (λc=>¬isOp c) r) (hr':Hd (λc=>¬isOp c) r') (e:xs++r=ys++r'):xs=ys/\t=t'/\r=r':=by obtain⟨a,o,u,rfl,h2,h3,rfl⟩:=h;obtain⟨a',o',u',rfl,k2,k3,rfl⟩:=k;rw[append_assoc,append_assoc]at e;have ea:=yI2 h2 k2 e;subst ea;obtain rfl:=hU _ _ _ h2 k2;obtain⟨rfl,rfl⟩:=yYs o o' h3 k3 hr hr' (append_cancel_left e);exact⟨rfl,rfl,rfl⟩
theorem yJi:∀{ts us:List Pat} {xs ys r r':List UInt8},SeqG (yAm n) ts xs->SeqG (yAm m) us ys->Hd (λc=>c=41∨c=124) r->Hd (λc=>c=41∨c=124) r'->xs++r=ys++r'->ts=us/\xs=ys/\r=r'
 | [],[],xs,ys,r,r',h,k,hr,hr',e=>by
   have h:=h
   have k:=k
   subst h k
   exact⟨rfl,rfl,by simpa using e⟩
 |t::ts,[],xs,ys,r,r',h,k,hr,hr',e=>by
  have k:=k
  subst k
  obtain⟨as_,zs,rfl,⟨a,o,u,rfl,h2,h3,_⟩,h4⟩:=h
  obtain⟨c,yt,rfl,n1,n2,n3⟩:=h2.first
  rcases hr' with rfl|⟨c',zs',rfl,hc⟩
  .simp at e
  .simp only[cons_append,nil_append,List.cons.injEq]at e
   rcases hc with q|q
   .exact absurd (e.1.trans q) n1
   .exact absurd (e.1.trans q) n2
 | [],u::us,xs,ys,r,r',h,k,hr,hr',e=>by
   have h:=h
   subst h
   obtain⟨as_,zs,rfl,⟨a,o,u',rfl,h2,h3,_⟩,h4⟩:=k
   obtain⟨c,yt,rfl,n1,n2,n3⟩:=h2.first
   rcases hr with rfl|⟨c',zs',rfl,hc⟩
   .simp at e
   .simp only[cons_append,nil_append,List.cons.injEq]at e
    rcases hc with q|q
    .exact absurd (e.1.symm.trans q) n1
    .exact absurd (e.1.symm.trans q) n2
 |t::ts,u::us,xs,ys,r,r',h,k,hr,hr',e=>by
  obtain⟨as_,zs,rfl,h2,h3⟩:=h
  obtain⟨bs,ws,rfl,k2,k3⟩:=k
  have hd:∀{j:Nat} {vs:List Pat} {qs rr:List UInt8},SeqG (yAm j) vs qs->Hd (λc=>c=41∨c=124) rr->Hd (λc=>¬isOp c) (qs++rr):=λ{j vs qs rr} hq hrr=>by
   cases vs with
   |nil=>
    have hq:=hq
    subst hq
    refine hrr.mono (λc hc=>?_)
    rcases hc with rfl|rfl
    .unfold isOp;decide
    .unfold isOp;decide
   |cons v vs=>
    obtain⟨a1,z1,rfl,⟨a,o,u',rfl,g2,g3,_⟩,g4⟩:=hq
    obtain⟨c,yt,rfl,n1,n2,n3⟩:=g2.first
    exact .inr ⟨c,_,by simp only[cons_append];rfl,n3⟩
  rw[append_assoc,append_assoc]at e
  obtain⟨rfl,rfl,e2⟩:=xEn hU h2 k2 (hd h3 hr) (hd k3 hr') e
  obtain⟨rfl,rfl,e3⟩:=yJi h3 k3 hr hr' e2
  exact⟨rfl,rfl,e3⟩
theorem yT8:∀{os us:List (List Pat)} {xs ys r r':List UInt8},AltG (yAm n) os xs->AltG (yAm m) us ys->Hd (λc=>c=41) r->Hd (λc=>c=41) r'->xs++r=ys++r'->os=us/\xs=ys
 | [],_,_,_,_,_,h,_,_,_,_=>h.elim
 |_::_,[],_,_,_,_,_,k,_,_,_=>k.elim
 | [ts],[us],xs,ys,r,r',h,k,hr,hr',e=>by
   obtain⟨rfl,rfl,_⟩:=yJi hU (ts:=ts) (us:=us) h k (hr.mono (λc q=>.inl q)) (hr'.mono (λc q=>.inl q)) e
   exact⟨rfl,rfl⟩
 | [ts],u1::u2::us,xs,ys,r,r',h,⟨a,z,k1,k2,k3⟩,hr,hr',e=>by
   subst k1
   rw[append_assoc,cons_append]at e
   obtain⟨_,_,e3⟩:=yJi hU (ts:=ts) (us:=u1) h k2 (hr.mono (λc q=>.inl q)) (yVd _) e
   rcases hr with rfl|⟨c,zs,rfl,hc⟩
   .cases e3
   .simp only[List.cons.injEq]at e3
    rw[hc]at e3
    exact absurd e3.1 qj
 |t1::t2::ts,[us],xs,ys,r,r',⟨a,z,h1,h2,h3⟩,k,hr,hr',e=>by
  subst h1
  rw[append_assoc,cons_append]at e
  obtain⟨_,_,e3⟩:=yJi hU (ts:=t1) (us:=us) h2 k (yVd _) (hr'.mono (λc q=>.inl q)) e
  rcases hr' with rfl|⟨c,zs,rfl,hc⟩
  .cases e3
  .simp only[List.cons.injEq]at e3
   rw[hc]at e3
   exact absurd e3.1 qj
 |t1::t2::ts,u1::u2::us,xs,ys,r,r',⟨a,z,h1,h2,h3⟩,⟨b,y,k1,k2,k3⟩,hr,hr',e=>by
  subst h1 k1
  rw[append_assoc,append_assoc,cons_append,cons_append]at e
  obtain⟨rfl,rfl,e3⟩:=yJi hU h2 k2 (yVd _) (yVd _) e
  simp only[List.cons.injEq,true_and]at e3
  obtain⟨e4,rfl⟩:=yT8 h3 k3 hr hr' e3
  exact⟨by rw[e4],rfl⟩
end
theorem yVf:∀(n:Nat) {m:Nat} (xs:List UInt8) (t t':Pat),yAm n xs t->yAm m xs t'->t=t'
 |0,_,_,_,_,h,_=>h.elim
 |n+1,0,_,_,_,_,k=>k.elim
 |n+1,m+1,xs,t,t',h,k=>by
  have hu:∀xs t t',yAm n xs t->yAm m xs t'->t=t':=λxs t t' p q=>yVf n xs t t' p q
  have hc91:∀{p:List UInt8} {i k:Nat} {f:UInt8->Bool},p[i]?=some 91->yAq p (i+1)=.inl (f,k)->∃zs,cut p i k=91::zs:=λ{p i k f} h1 h2=>by
   have hg:=yBj h2
   have:=yBq (p:=p) (i:=i) (j:=i+1) (k:=k) (by omega) (by omega)
   rw[yCa h1]at this
   exact⟨_,this⟩
  rcases h with⟨c,rfl,hs,rfl⟩|⟨rfl,rfl⟩|⟨c,rfl,rfl⟩|⟨ys,os,rfl,h2,rfl⟩|⟨p,i,j,f,h1,h2,h3,rfl⟩<;>
   rcases k with⟨c',k1,ks,rfl⟩|⟨k1,rfl⟩|⟨c',k1,rfl⟩|⟨zs,us,k1,k2,rfl⟩|⟨p',i',j',f',k1,k2,k3,rfl⟩
  .simp at k1;rw[k1]
  .simp at k1;subst k1;exact absurd (by unfold yB3;simp) hs
  .simp at k1
  .have:=congrArg List.length k1;simp at this
  .obtain⟨zs,hz⟩:=hc91 k1 k2
   rw[hz]at k3;simp at k3;rw[k3.1]at hs;exact absurd (by unfold yB3;simp) hs
  .simp at k1;subst k1;exact absurd (by unfold yB3;simp) ks
  .rfl
  .simp at k1
  .have:=congrArg List.length k1;simp at this
  .obtain⟨zs,hz⟩:=hc91 k1 k2
   rw[hz]at k3;simp at k3
  .simp at k1
  .simp at k1
  .simp at k1;rw[k1]
  .simp at k1
  .obtain⟨zs,hz⟩:=hc91 k1 k2
   rw[hz]at k3;simp at k3
  .have:=congrArg List.length k1;simp at this
  .have:=congrArg List.length k1;simp at this
  .simp at k1
  .simp only[cons_append,List.cons.injEq,true_and]at k1
   obtain⟨rfl,_⟩:=yT8 hu h2 k2 (.inr ⟨41,[],rfl,rfl⟩) (.inr ⟨41,[],rfl,rfl⟩) k1
   rfl
  .obtain⟨zs,hz⟩:=hc91 k1 k2
   rw[hz]at k3;simp at k3
  .obtain⟨zs,hz⟩:=hc91 h1 h2
   rw[hz,k1]at h3;simp at h3;rw[h3.1]at ks;exact absurd (by unfold yB3;simp) ks
  .obtain⟨zs,hz⟩:=hc91 h1 h2
   rw[hz,k1]at h3;simp at h3
  .obtain⟨zs,hz⟩:=hc91 h1 h2
   rw[hz,k1]at h3;simp at h3
  .obtain⟨zs,hz⟩:=hc91 h1 h2
   rw[hz,k1]at h3;simp at h3
  .have hg:=yBj h2
   have hg':=yBj k2
   have hcut:cut p i j=cut p' i' j':=h3.symm.trans k3
   have hl:j-i=j'-i':=by have:=congrArg List.length hcut;rwa [yAw hg.2,yAw hg'.2]at this
   have a0:∀t,i+t<j->p'[i'+t]?=p[i+t]?:=λt ht=>by
    have e1:(cut p i j)[t]?=p[i+t]?:=by unfold cut;rw[getElem?_take,if_pos (by omega),getElem?_drop]
    have e2:(cut p' i' j')[t]?=p'[i'+t]?:=by unfold cut;rw[getElem?_take,if_pos (by omega),getElem?_drop]
    rw[<-e1,<-e2,hcut]
   have e:=yFd (q:=p') (j:=i'+1) h2 (λt ht=>by
    have:=a0 (1+t) (by omega)
    rw[show i'+1+t=i'+(1+t)by omega,show i+1+t=i+(1+t)by omega];exact this)
   rw[e]at k2
   simp only[Sum.inl.injEq,Prod.mk.injEq]at k2
   rw[k2.1]
theorem xEx {us:List (List Pat)} (h:AltG (yAm n) os xs) (k:AltG (yAm m) us xs):os=us:=
 (yT8 (λxs t t' p q=>yVf n xs t t' p q) h k (.inl rfl) (.inl rfl) rfl).1
end
def MatB (p s:ByteArray) (b:Bool):Prop:=(¬(yAj (sb p)).1=0/\b=false)∨((yAj (sb p)).1=0/\∃n os,AltG (yAm n) os (sb p)/\(b=true↔s.size<=200/\LgA os (sb s)))
theorem MatB.one {c:Bool} (h:MatB p s b) (k:MatB p s c):b=c:=by
 rcases h with⟨h1,rfl⟩|⟨h1,n,os,h2,h3⟩
 .rcases k with⟨_,rfl⟩|⟨k1,_⟩
  .rfl
  .exact absurd k1 h1
 .rcases k with⟨k1,_⟩|⟨_,m,us,k2,k3⟩
  .exact absurd h1 k1
  .obtain rfl:=xEx h2 k2;rw[Bool.eq_iff_iff,h3,k3]
def SpeB (p s:ByteArray) (w:World) (e:Ending) (w':World):Prop:=∃b:Bool,e=.returned b/\Hid (Below w w w'/\MatB p s b)
theorem yLb (p s:ByteArray) w (hpm:p.size<=maxLen):Calls prog 169 #[p,s] w (SpeB p s w):=by
 by_cases hc0:(yAj (sb p)).1=0
 .obtain⟨os,ho⟩:=ySm p hpm hc0;obtain⟨n,hg⟩:=ho.gr;have a0:cut (sb p) 0 p.size=sb p:=by unfold cut;rw[drop_zero,Nat.sub_zero,<-yAe,take_length]
  rw[a0]at hg;by_cases hs:s.size<=200
  .refine(yPf p s hpm hc0 hs n os hg w).mono ?_;rintro e w' ⟨b,rfl,H,hb⟩;exact⟨b,rfl,hb,.inr ⟨hc0,n,os,hg,H.trans ⟨λq=>⟨hs,q⟩,λq=>q.2⟩⟩⟩
  .refine(yLa p s hpm qo w).mono ?_;rintro e w' ⟨rfl,hb⟩;exact⟨false,rfl,hb,.inr ⟨hc0,n,os,hg,⟨λq=>(by cases q),λq=>absurd q.1 hs⟩⟩⟩
 .refine(yGo p s hpm hc0 w).mono ?_;rintro e w' ⟨rfl,hb⟩;exact⟨false,rfl,hb,.inl ⟨hc0,rfl⟩⟩
open Classical in
noncomputable def mtB (p s:ByteArray):Bool:=decide (MatB p s true)
theorem yY3 (h:MatB p s b):b=mtB p s:=by
 unfold mtB;cases b with
 |true=>exact(@decide_eq_true _ (Classical.propDecidable _) h).symm
 |false=>
  refine(@decide_eq_false _ (Classical.propDecidable _) λq=>?_).symm;have:=MatB.one h q;cases this
def lsB (a b:ByteArray):Bool:=Op.bytesLess a.toList b.toList
def inS (x:ByteArray) (n:Nd):Bool:= !(lsB x n.s) && (!n.hi || lsB x n.t)
noncomputable def tstB (n:Nd) (c:Ent):Bool:=
 if n.kind=1∨n.kind=3 then true else if n.kind=4 then mtB n.s c.row else if n.kind=5 then mtB n.s c.fam else if n.kind=6 then mtB n.s c.qual else if n.kind=7 then mtB n.s c.val
 else if n.kind=8 then inS c.row n else if n.kind=9 then inS c.qual n else if n.kind=10 then decide (n.lo<=c.ts) && (!n.hi || decide (c.ts<n.up))else false
structure Sub (row l:List Ent):Prop where
 ord:Ord l
 key:∀x∈l,∃y∈row,yAo x y=0
 kind:∀x∈l,x.kind=0
 ok:∀x∈l,x.ok
theorem Sub.trans {row l m:List Ent} (h:Sub row l) (k:Sub l m):Sub row m:=
 ⟨k.ord,λx hx=>by
  obtain⟨y,hy,h1⟩:=k.key x hx
  obtain⟨z,hz,h2⟩:=h.key y hy
  exact⟨z,hz,by rw[yQh h1];exact h2⟩,k.kind,k.ok⟩
abbrev Ent.five (e:Ent):List Value:= [.string e.row,.string e.fam,.string e.qual,.int .u64 e.ts,.string e.val]
abbrev Ent.c (e:Ent):Value:=.agg #[e.row,e.fam,e.qual,xu e.ts,e.val]
def yBs (es:List Ent):List Value:=es.flatMap Ent.five
theorem yDh (e:Ent) es:yBs (e::es)=e.five++yBs es:=by simp[yBs]
theorem yEl es fs:yBs (es++fs)=yBs es++yBs fs:=by simp[yBs]
theorem yCi (es:List Ent):(yBs es).length=es.length*5:=by
 induction es with
 |nil=>rfl
 |cons e es ih=>rw[yDh,length_append,ih];simp;omega
theorem yHw es:∀(k:Nat) (e:Ent),es[k]?=some e->∀j,j<5->(yBs es)[k*5+j]?=e.five[j]?:=by
 induction es with
 |nil=>intro k e h;simp at h
 |cons f es ih=>
  intro k e h j hj;rw[yDh];cases k with
  |zero=>
   simp at h;subst h;rw[getElem?_append_left (by show 0*5+j<5;omega)];simp
  |succ k=>
   simp at h;rw[getElem?_append_right (by show 5<=(k+1)*5+j;omega)];have:(k+1)*5+j-f.five.length=k*5+j:=by show(k+1)*5+j-5=_;omega
   rw[this];exact ih k e h j hj
theorem yW9 (es:List Ent):∀(k:Nat) (e e':Ent) (u:Value) (j:Nat),es[k]?=some e->j<5->e'.five=e.five.set j u->(yBs es).set (k*5+j) u=yBs (es.set k e'):=by
 induction es with
 |nil=>intro k e e' u j h;simp at h
 |cons f es ih=>
  intro k e e' u j h hj hc;rw[yDh];cases k with
  |zero=>
   simp at h;subst h;rw[set_append_left _ _ (by show 0*5+j<5;omega),set_cons_zero,yDh,hc];simp
  |succ k=>
   simp at h;rw[set_append_right _ _ (by show 5<=(k+1)*5+j;omega),set_cons_succ,yDh];have:(k+1)*5+j-f.five.length=k*5+j:=by show(k+1)*5+j-5=_;omega
   rw[this,ih k e e' u j h hj hc]
def yA4 (w:World) (b off:Nat) (es:List Ent):Prop:=
 ∀i e,es[i]?=some e->xk w b (off+i*5) e.row/\xk w b (off+i*5+1) e.fam/\xk w b (off+i*5+2) e.qual/\
  xk w b (off+i*5+3) (xu e.ts)/\xk w b (off+i*5+4) e.val
variable {b:Nat} {es:List Ent}
theorem yA4.below {off:Nat} (h:yA4 w b off es) (hb:Below B w w') (hlt:b<B):yA4 w' b off es:=by
 intro i e he;have:=h i e he;refine⟨?_,?_,?_,?_,?_⟩;all_goals rw[hb.cell (by exact hlt)]
 .exact this.1
 .exact this.2.1
 .exact this.2.2.1
 .exact this.2.2.2.1
 .exact this.2.2.2.2
def OwnC (w:World) (base g cap:Nat) (es:List Ent):Prop:=w.ownsRow base 70 5 (xg g es.length cap) es.length (yBs es)
theorem OwnC.at {g:Nat} (h:OwnC w base g cap es):yA4 w g 0 es:=by
 intro i e he;have hi:=qf he;have c:=λj (hj:j<5)=>(World.ownsRow.cellAt h (i*5+j) qo).trans (yHw es i e he j hj);refine⟨?_,?_,?_,?_,?_⟩
 .simpa using c 0 qo
 .simpa using c 1 qo
 .simpa using c 2 qo
 .simpa using c 3 qo
 .simpa using c 4 qo
theorem OwnC.lt {g:Nat} (h:OwnC w base g cap es):base<=g/\g<w.heap.size:=World.ownsRow.lt h g rfl
theorem OwnC.below {g:Nat} (h:OwnC w base g cap es) (hb:Below B w w') (hg:g<B):OwnC w' base g cap es:=by exact xAr
theorem OwnC.set {g:Nat} (h:OwnC w base g cap es) (k j:Nat) (e e':Ent) (u:Value) (hk:es[k]?=some e) (hj:j<5) (hc:e'.five=e.five.set j u):
  OwnC (xt w g (k*5+j) u) base g cap (es.set k e'):=by
 have:=(World.ownsRow.stored h (k*5+j) u).1;rw[yW9 es k e e' u j hk hj hc]at this;unfold OwnC;rw[length_set];exact this
theorem OwnC.upd {g:Nat} {fs:List Ent} {f f':Ent} (h:OwnC w base g cap (fs.set m f)) (hm:m<fs.length) (hj:j<5) (hc:f'.five=f.five.set j u):
  OwnC (xt w g (m*5+j) u) base g cap (fs.set m f'):=by
 have:=h.set m j f f' u (by simp[hm]) hj hc;rwa [set_set]at this
theorem OwnC.mono {g:Nat} (h:OwnC w base g cap es) (hb:base'<=base):OwnC w base' g cap es:=by exact yO0
theorem OwnC.kept {g:Nat} {fs:List Ent} {row:Option Nat} (h:OwnC w base g cp fs) (hg:w.grownBy w' row) (hne:some g≠row):OwnC w' base g cp fs:=
 World.ownsRow.kept h hg (.inr hne)
theorem OwnC.caps {g:Nat} {R:List Ent} (h:OwnC w base g cp R):R.length<=cp/\cp<=maxLen:=by exact yMx
theorem xBl (w:World):OwnC (xw w #[] 70) w w 0 []:=World.ownsRow_made w #[] 0 qr (zero_le _) (by simp)
theorem Tryz.infoCel:(prog.info? 70).map (λi=>(i.zero,i.size,i.bytes))=some (some (.agg #[xe,xe,xe,xu 0,xe]),5,72):=qk
theorem yTz (wx:World) (f:Ent):yA4 (xw wx #[f.row,f.fam,f.qual,xu f.ts,f.val] 70) wx 0 [f]:=by exact xCm
theorem yTp (a:Ent) (w:World):
  (xf 66 #[a.c,a.c] w true:Prop):=by
 unfold Ent.c;go_enter func66,ntmps66;go_wp2;go_ret;exact⟨rfl,(qB).alloc (by simp) _⟩
theorem yQw (b off cap b' off' cap':Nat) (es:List Ent) (w:World) (hE:yA4 w b off es) (hE':yA4 w b' off' es) (hB:b<w.heap.size) (hB':b'<w.heap.size) (hlen:es.length<=maxLen):
  Calls prog 23 #[.slice (some ⟨b,off,none⟩) es.length cap,.slice (some ⟨b',off',none⟩) es.length cap'] w λe w'=>
   e=.returned true/\Below w w w':=by
 have HE:=qH2 hE hE';clear hE hE';unfold maxLen at hlen;go_enter func23,ntmps23;go_wp2;go_loopw[5] (λi wr=>∃(k:Nat),k<=es.length/\i=(xi k)/\Below w w wr) (λi _=>es.length-(intOf i).toNat);case atStart=>exact⟨0,zero_le _,rfl,Below.refl _ _⟩
 case round=>
  obtain⟨k,hk,rfl,hb⟩:=hrel;have a1:=hb.size;by_cases hlt:k<es.length
  .obtain⟨e,he⟩:∃e,es[k]?=some e:=qg hlt;obtain⟨c0,c1,c2,c3,c4⟩:=HE.1.below hb hB k e he;obtain⟨d0,d1,d2,d3,d4⟩:=HE.2.below hb hB' k e he;clear he;go_upto_region 6 with fail;go_cut[26] (λs wx=>s=false/\Below w w wx);case first=>
    have z2:(k:Int)<(es.length:Int):=qo
    go_region_with (go_at_call 66;refine(yTp e _).mono ?_;rintro e' w' ⟨rfl,a0⟩);all_goals go_wp2_with fail
    all_goals go_meet
    all_goals exact⟨rfl,hb.drew.trans (a0.mono (by simp;omega))⟩
   case rest=>
   obtain⟨rfl,h3⟩:=hcut;clear c0 c1 c2 c3 c4 d0 d1 d2 d3 d4;exact xDx
  .go_wp2;go_ret;exact⟨rfl,hb⟩
theorem yKd {g:Nat} (h:OwnC w base g cp es) (h':OwnC w base' g' cp' es):
  (xf 23 #[xg g es.length cp,xg g' es.length cp'] w true:Prop):=
 yQw g 0 cp g' 0 cp' es w h.at h'.at h.lt.2 h'.lt.2 (Nat.le_trans h.caps.1 h.caps.2)
theorem yWs (x:ByteArray) (n:Nd) (w:World):(xf 170 #[x,n.v] w (inS x n):Prop):=by
 obtain⟨k,s,hi,t,lo,up,nn⟩:=n;unfold inS lsB;cases h1:Op.bytesLess x.toList s.toList<;>cases hi<;>cases h3:Op.bytesLess x.toList t.toList
 all_goals go_enter func170,ntmps170
 all_goals go_wp2_with fail
 all_goals go_ret
 all_goals exact⟨rfl,qB⟩
theorem yR9 (p s:ByteArray) (w:World) (hp:p.size<=maxLen):(xf 169 #[p,s] w (mtB p s):Prop):=by refine(yLb p s w hp).mono ?_;rintro e w' ⟨b,rfl,H⟩;rw[yY3 H.2];exact⟨rfl,H.1⟩
theorem yS7 (n:Nd) (c:Ent) (w:World) (hs:n.s.size<=maxLen):(xf 119 #[n.v,c.c] w (tstB n c):Prop):=by
 obtain⟨k,s,hi,t,lo,up,nn⟩:=n;have HM:Hid (∀(x:ByteArray) (w:World),(xf 169 #[s,x] w (mtB s x):Prop)):=λx w=>yR9 s x w hs;have HS:Hid (∀(x:ByteArray) (w:World),(xf 170 #[x,.agg #[xi k,s,hi,t,xu lo,xu up,xi nn]] w (inS x ⟨k,s,hi,t,lo,up,nn⟩):Prop)):=λx w=>yWs x _ w;have HB:Hid (∀wx:World,Below w w wx->Below w w wx):=λ_ h=>h;obtain⟨res,a1⟩:=qE (tstB ⟨k,s,hi,t,lo,up,nn⟩ c);have HR:=qH1 a1;rw[<-a1];obtain⟨W2,a0⟩:=qW (xw (w.alloc (.cells #[xi k,s,hi,t,xu lo,xu up,xi nn] 83)) #[c.row,c.fam,c.qual,xu c.ts,c.val] 70);have HW2:Hid (Below w w W2):=by rw[a0];exact(qB).alloc (by simp) _
 clear a1 hs;by_cases h1:k=1
 .subst h1;have hv:res=true:=HR.trans (by simp[tstB]);exact xDy
 have b1:=qn h1
 by_cases h3:k=3
 .subst h3;have hv:res=true:=HR.trans (by simp[tstB]);exact xDy
 have b3:=qn h3
 by_cases h4:k=4
 .subst h4;have hv:res=mtB s c.row:=HR.trans (by simp[tstB]);go_enter func119,ntmps119;go_wp2_with fail;rw[<-a0];clear a0;refine(HM.out c.row W2).mono ?_;exact yVo
 have b4:=qn h4
 by_cases h5:k=5
 .subst h5;have hv:res=mtB s c.fam:=HR.trans (by simp[tstB]);go_enter func119,ntmps119;go_wp2_with fail;rw[<-a0];clear a0;refine(HM.out c.fam W2).mono ?_;exact yVo
 have b5:=qn h5
 by_cases h6:k=6
 .subst h6;have hv:res=mtB s c.qual:=HR.trans (by simp[tstB]);go_enter func119,ntmps119;go_wp2_with fail;rw[<-a0];clear a0;refine(HM.out c.qual W2).mono ?_;exact yVo
 have b6:=qn h6
 by_cases h7:k=7
 .subst h7;have hv:res=mtB s c.val:=HR.trans (by simp[tstB]);go_enter func119,ntmps119;go_wp2_with fail;rw[<-a0];clear a0;refine(HM.out c.val W2).mono ?_;exact yVo
 have b7:=qn h7
 by_cases h8:k=8
 .subst h8;have hv:res=inS c.row ⟨8,s,hi,t,lo,up,nn⟩:=HR.trans (by simp[tstB]);go_enter func119,ntmps119;go_wp2_with fail;rw[<-a0];clear a0;refine(HS.out c.row W2).mono ?_;exact yVo
 have b8:=qn h8
 by_cases h9:k=9
 .subst h9;have hv:res=inS c.qual ⟨9,s,hi,t,lo,up,nn⟩:=HR.trans (by simp[tstB]);go_enter func119,ntmps119;go_wp2_with fail;rw[<-a0];clear a0;refine(HS.out c.qual W2).mono ?_;exact yVo
 have b9:=qn h9
 by_cases h10:k=10
 .subst h10;have hv:res=(decide (lo<=c.ts) && (!hi || decide (c.ts<up))):=HR.trans (by simp[tstB]);subst hv;by_cases g1:lo<=c.ts<;>cases hi<;>by_cases g2:c.ts<up
  all_goals simp only[g1,g2,decide_true,decide_false,Bool.not_true,Bool.not_false,Bool.true_and,Bool.false_and,Bool.true_or,Bool.false_or]
  all_goals go_enter func119,ntmps119
  all_goals go_wp2_with fail
  all_goals go_ret
  all_goals exact⟨rfl,(qB).alloc (by simp) _⟩
 have a2:=qn h10
 have hv:res=false:=HR.trans (by simp[tstB,h1,h3,h4,h5,h6,h7,h8,h9,h10]);exact xDy
structure CSl (w:World) (b off cap:Nat) (es:List Ent):Prop where
 at_:yA4 w b off es
 lt:b<w.heap.size
 len:es.length<=cap
 cap:cap<=maxLen
theorem yA4.chg {S:Nat->Prop} {off:Nat} (h:yA4 w b off es) (hc:Chg S w w') (hb:b<w.heap.size) (hn:¬S b):yA4 w' b off es:=by intro i e he;obtain⟨h0,h1,h2,h3,h4⟩:=h i e he;exact⟨by rw[hc.cell (p:=(xd b (off+i*5))) hb hn];exact h0,by rw[hc.cell (p:=(xd b (off+i*5+1))) hb hn];exact h1,by rw[hc.cell (p:=(xd b (off+i*5+2))) hb hn];exact h2,by rw[hc.cell (p:=(xd b (off+i*5+3))) hb hn];exact h3,by rw[hc.cell (p:=(xd b (off+i*5+4))) hb hn];exact h4⟩
theorem CSl.chg {S:Nat->Prop} {off:Nat} (h:CSl w b off cap es) (hc:Chg S w w') (hn:¬S b):CSl w' b off cap es:=⟨h.at_.chg hc h.lt hn,Nat.lt_of_lt_of_le h.lt hc.size,h.len,h.cap⟩
theorem CSl.below {off:Nat} (h:CSl w b off cap es) (hb:Below w w w'):CSl w' b off cap es:=h.chg (S:=λ_=>False) (Chg.of_below hb) (λq=>q)
theorem OwnC.sl {g:Nat} (h:OwnC w base g cap es):CSl w g 0 cap es:=⟨h.at,h.lt.2,h.caps.1,h.caps.2⟩
theorem CSl.drop {off:Nat} (h:CSl w b off cap es) (hk:k<=es.length):CSl w b (off+k*5) (cap-k) (es.drop k):=by refine⟨λi e he=>?_,h.lt,by rw[length_drop];have:=h.len;omega,qw h.cap⟩;rw[getElem?_drop]at he;have:=h.at_ (k+i) e he;rw[show off+(k+i)*5=off+k*5+i*5 by omega]at this;exact this
theorem CSl.take {off:Nat} (h:CSl w b off cap es) (hk:k<=es.length):CSl w b off cap (es.take k):=by
 refine⟨λi e he=>?_,h.lt,by rw[length_take];have:=h.len;omega,h.cap⟩;rw[getElem?_take]at he;split at he
 .exact h.at_ i e he
 .cases he
end Go.Proofs.YtnnagkfoiganfaaGreatDoor
