import Derived.Test.YtnnagkfoiganfaaGreatDoorRkAA
namespace Go.Proofs.YtnnagkfoiganfaaGreatDoor
open Go.ChangeShapes Go.WideShapes Go.ChangeAt Go.RowKit Go.Deep XD XI XU XG XP XK XW XT XF XE XH _root_.List _root_.Nat Go.Shelf Go.Maps Go.Proofs.Tryz
set_option linter.unusedVariables false
set_option linter.unusedSimpArgs false
set_option maxRecDepth 100000
set_option maxHeartbeats 40000000
section
def xFz (p:ByteArray) (base g i o:Nat) (w:World) (e:Ending) (w':World):Prop:=
 Chg (λk=>k=g) w w'/\((∃(k:Nat) (ts:List Pat) (u:Value),yKy (sb p) o i k ts/\(∀c,(sb p)[k]?=some c->yFw c)/\e=.returned (.agg #[u])/\yFz w' (Bet w w') ts u/\PrAt w' base g p k o)∨(∃(c:Int) (k:Nat),¬c=0/\chkM (sb p) i o false=(c,k)/\e=Pf c k))
def SeqC (p:ByteArray) (m:Nat):Prop:=∀(base g i o:Nat) (w:World),p.size-i<=m->i<=p.size->o<=20->PrAt w base g p i o->Calls prog 243 #[xp g] w (xFz p base g i o w)
def NR (lo:Nat) (v:Value):Nat->Prop:=λk=>lo<=k/\¬v.ownBlock=some k
structure SeqJ (p:ByteArray) (base g i o:Nat) (w:World) (k:Nat) (ts:List Pat) (us:List Value) (v:Value) (wr:World):Prop where
 ok:yKy (sb p) o i k ts
 rd:PrAt wr base g p k o
 res:yA wr w 316 1 w [xh]
 box:yA wr w 316 1 (w+1) [v]
 row:OwnN wr (w+2) v us
 len:us.length=ts.length
 nodes:∀(i:Nat) x t,us[i]?=some x->ts[i]?=some t->yBt wr (NR (w+2) v) t x
 chg:Chg (λk=>k=g) w wr
 glt:g<w.heap.size
variable {w w':World} {base:Nat} {us:List Value}
theorem OwnN.chg {S:Nat->Prop} {v:Value} (h:OwnN w base v us) (hc:Chg S w w') (hn:∀k,v.ownBlock=some k->¬S k):OwnN w' base v us:=yAh h hc hn
theorem OwnN.slice {v:Value} (h:OwnN w base v us):∃a cp,v=.slice a us.length cp:=by
 rcases h.2 with⟨rfl,h0⟩|⟨g,cap,cur,rfl,_⟩
 .exact⟨none,0,by rw[h0]⟩
 .exact⟨_,_,rfl⟩
variable {p:ByteArray} {base g i o:Nat} {w:World} {k:Nat} {ts:List Pat} {us:List Value} {v:Value} {wr:World}
theorem SeqJ.move (h:SeqJ p base g i o w k ts us v wr) (hb:Below wr wr w'):SeqJ p base g i o w k ts us v w':=
 ⟨h.ok,yA.below h.rd hb,h.res.below hb,h.box.below hb,h.row.chg (S:=λ_=>False) (Chg.of_below hb) (λ_ _ q=>q),h.len,λi x t hx ht=>(h.nodes i x t hx ht).move (S:=λ_=>False) (Chg.of_below hb) (λk q=>q.elim) (λk _ q=>q),h.chg.trans (Chg.of_below hb),h.glt⟩
structure SeqK (p:ByteArray) (base g i o:Nat) (w:World) (k:Nat) (ts:List Pat) (us:List Value) (v:Value) (t:Pat) (x:Value) (wr:World):Prop where
 ok:yKy (sb p) o i k (ts++ [t])
 rd:PrAt wr base g p k o
 res:yA wr w 316 1 w [xh]
 box:yA wr w 316 1 (w+1) [v]
 row:OwnN wr (w+2) v us
 len:us.length=ts.length
 nodes:∀(i:Nat) y s,(us++ [x])[i]?=some y->(ts++ [t])[i]?=some s->yBt wr (NR (w+2) v) s y
 chg:Chg (λk=>k=g) w wr
 glt:g<w.heap.size
variable {t:Pat} {x:Value}
theorem SeqK.move (h:SeqK p base g i o w k ts us v t x wr) (hb:Below wr wr w'):SeqK p base g i o w k ts us v t x w':=
 ⟨h.ok,yA.below h.rd hb,h.res.below hb,h.box.below hb,h.row.chg (S:=λ_=>False) (Chg.of_below hb) (λ_ _ q=>q),h.len,λi x t hx ht=>(h.nodes i x t hx ht).move (S:=λ_=>False) (Chg.of_below hb) (λk q=>q.elim) (λk _ q=>q),h.chg.trans (Chg.of_below hb),h.glt⟩
variable {i:Nat}
theorem yHg {α:Type} {l:List α} {a b:α} (h:(l++ [a])[i]?=some b):l[i]?=some b∨(i=l.length/\b=a):=by
 by_cases hi:i<l.length
 .rw[getElem?_append_left hi]at h;exact .inl h
 .rw[getElem?_append_right qo]at h;have h2:=qf h;simp at h2;have:i-l.length=0:=qo
  rw[this]at h;simp at h;exact .inr ⟨qo,h.symm⟩
theorem SeqJ.rep {w6:World} {k6:Nat} (h:SeqJ p base g i o w k ts us v wr) (hC:Chg (λk=>k=g) wr w6) (hR:yT9 (sb p) o k k6 t) (hN:yBt w6 (Bet wr w6) t x) (hP:PrAt w6 base g p k6 o):SeqK p base g i o w k6 ts us v t x w6:=by
 have hg:=h.glt;have hz:=h.chg.size;have a0:=h.box.lt.2;have hv:∀j,v.ownBlock=some j->w.heap.size+2<=j/\j<wr.heap.size:=λj hj=>World.ownsRow.lt h.row j hj;refine⟨h.ok.more hR,hP,h.res.chg hC qo,h.box.chg hC qo,h.row.chg hC (λj hj q=>qw ((hv j hj).1)),h.len,?_,h.chg.trans hC,hg⟩;intro j y s hy hs;rcases yHg hy with hy|⟨hj,rfl⟩
 .rcases yHg hs with hs|⟨hj,rfl⟩
  .exact(h.nodes j y s hy hs).move hC (λq hq=>by subst hq;exact λz=>qw z.1) (λq _ z=>z)
  .have:=qf hy;have:=h.len;omega
 .rcases yHg hs with hs|⟨_,rfl⟩
  .have:=qf hs;have:=h.len;omega
  .refine hN.move (S:=λ_=>False) (Chg.refl _ _) (λq hq=>hq.elim) (λq _ z=>⟨?_,λe=>?_⟩)
   .have:=z.1;omega
   .have:=(hv q e).2;have:=z.1;omega
theorem SeqK.push {v':Value} (h:SeqK p base g i o w k ts us v t x wr) (hO:OwnN w' (w+2) v' (us++ [x])) (hg:wr.grownBy w' v.ownBlock) (hat:∀j,v'.ownBlock=some j->v.ownBlock=some j∨j=wr.heap.size):
  SeqJ p base g i o w k (ts++ [t]) (us++ [x]) v' (xt w' (w+1) 0 v')/\xk w' (w+1) 0 v/\w'.frozen? (xd (w+1) 0)=false:=by
 have a3:=h.glt;have hv:∀j,v.ownBlock=some j->w.heap.size+2<=j/\j<wr.heap.size:=λj hj=>World.ownsRow.lt h.row j hj;have a1:∀j,v'.ownBlock=some j->w.heap.size+2<=j/\j<w'.heap.size:=λj hj=>World.ownsRow.lt hO j hj;have hc:=Chg.of_grown hg (λj hj=>hj);have hs:Chg (λj=>j=w.heap.size+1) w' (xt w' (w+1) 0 v'):=Chg.of_set w' (w+1) 0 _ rfl;have a0:=h.box.chg hc (λq=>qw ((hv _ q).1));refine⟨⟨h.ok,?_,?_,a0.set 0 _,hO.chg hs (λj hj q=>qw ((a1 j hj).1)),by rw[length_append,length_append,h.len];rfl,?_,?_,a3⟩,a0.cell (j:=0) rfl,a0.frozen 0⟩
 .exact yA.chg (yA.chg h.rd hc (λq=>qw ((hv _ q).1))) hs (by omega)
 .exact(h.res.chg hc (λq=>qw ((hv _ q).1))).chg hs (by omega)
 .intro j y s hy a2;have h1:=(h.nodes j y s hy a2).move hc (λq hq z=>z.2 hq) (lo':=NR (w+2) v') (λq hq z=>⟨z.1,λe=>by rcases hat q e with e|e;exact z.2 e;omega⟩);exact h1.move hs (λq hq=>by subst hq;exact λz=>qw z.1) (λq _ z=>z)
 .exact(h.chg.absorb hc (λj q=>.inr (qw ((hv j q).1)))).absorb hs (λj q=>.inr (by omega))
variable {oo:Oper} {a:Act} {Q:Exit->Act->World->Prop}
theorem yIo {ops:Array Oper} {K:Act->World->Prop} {E:Prop} (w:World) (hgd:oo.guard=none) s x
  (ho:oo.op=.call {callee:=.builtin .append,args:=#[s,x],argTypes:=#[314,314]})
  (base n blk:Nat) (v y:Value) (us:List Value) (hn:n=us.length) (hs:a.eval s=v) (hx:a.eval x=(xg blk 1 1)) (hO:OwnN w base v us)
  (hc:(xk w blk 0 y:Prop)) (hy:y.oneCell'=true) (hlen:us.length<=1000) (hbase:base<=w.heap.size)
  (h:∀g' cp' w',OwnN w' base (xg g' (n+1) cp') (us++ [y])->w.grownBy w' v.ownBlock->(v.ownBlock=some g'∨g'=w.heap.size)->K (a.put oo.dst (xg g' (n+1) cp')) w'):if Region.wanted oo (yielded ops a.tmps)=true then Oper.wp prog oo a w K Q else E:=by
 subst hn;obtain⟨i,hi,a2,a1,a0⟩:=info_parts Tryz.infoNode;refine step_append_lies w hgd s x 314 ho base 346 i _ 1 16 underlying314 hi a2 a1 a0 rfl qj v us.length us hs hO (xd blk 0) 1 1 [y] hx rfl ?_ ?_ qj ?_ ?_ hbase w rfl ?_
 .exact xAp
 .intro u hu;simp at hu;subst hu;exact hy
 .unfold maxLen;omega
 .omega
 .intro g' cp' w' a5 a3 a4 a6;refine h g' cp' w' ?_ a3 a4;unfold OwnN;rw[length_append];exact a5
variable {p:ByteArray}
theorem xDa {m:Nat} (H:RepC p m) (hp:p.size<=200):SeqC p m:=by
 intro base g i o w hm hi ho h;have ak:=h.lt.2;obtain⟨W0,a1⟩:=qW (xw (w.alloc (Obj.cells #[xh] 316)) #[xh] 316);have ae:Hid (SeqJ p base g i o w i [] [] xh W0):=by
  have hb:Below w w W0:=by rw[a1];exact(qB).alloc (by simp) _
  have h1:yA W0 w 316 1 w [xh]:=by rw[a1];exact yA.ofHeap (vs:=#[.slice none 0 0]) (heap_alloc2_old w _ _) qr rfl
  have h2:yA W0 w 316 1 (w+1) [xh]:=by rw[a1];exact yA.ofHeap (vs:=#[.slice none 0 0]) (heap_alloc2_new w _ _) qo rfl
  exact⟨yKy.nil (by rw[yAe];exact hi),yA.below h hb,h1,h2,World.ownsRow_nil ..,rfl,λi x t hx=>by simp at hx,Chg.of_below hb,ak⟩
 clear h;go_enter func243,ntmps243;go_wp2_with fail;rw[<-a1];clear a1;go_loopw[] (λwr=>∃(k:Nat) (ts:List Pat) (us:List Value) (v:Value),i<=k/\k<=p.size/\us.length<=k/\SeqJ p base g i o w k ts us v wr) (λwr=>p.size-atOf wr g);case atStart=>exact⟨i,[],[],_,Nat.le_refl _,hi,zero_le _,ae.out⟩
 case round=>
  obtain⟨k,ts,us,v,ax,aw,ar,hJ⟩:=hrel;have HJ:=qH2 hJ (yFg hJ.rd);obtain⟨va,vc,ag⟩:=hJ.row.slice;subst ag;clear hJ ae;have a8:=HJ.1.rd.lt.2;obtain⟨c0,c1⟩:=HJ.1.rd.c2;have e0:∀n:Out wr,(xk n.u g 0 p:Prop):=λn=>(n.out.cell (p:=(xd g 0)) a8).trans c0;have e1:∀n:Out wr,(xk n.u g 1 (xi k):Prop):=λn=>(n.out.cell (p:=(xd g 1)) a8).trans c1;obtain⟨q,hq⟩:=qE (inB (sb p) k (sb ⟨#[42,43,63,124,41,93]⟩));have HQ:=qH1 hq.symm;have HI:Hid (∀n:Out wr,(xf 256 #[xp g,.string ⟨#[42,43,63,124,41,93]⟩] n.u q:Prop)):=λn=>by rw[hq];exact yDs _ (yA.below HJ.1.rd n.out) hp
  clear c0 c1 hq;by_cases hgo:k<p.size/\q=false
  .obtain⟨a4,rfl⟩:=hgo;have z1:(k:Int)<(p.size:Int):=qo
   have an:Hid (∀c,(sb p)[k]?=some c->¬yFw c):=λc hc he=>yIy HQ.out c hc (by
    rcases he with(rfl|rfl|rfl)|rfl|rfl|rfl<;>simp)
   go_upto_region 2 with fail;refine yAs qk qk ?_;repeat (go_big_quiet_step ((first|rfl|(go_at_call 256;exact Calls.out_of (HI.out _)))))
   refine wpQuiet_nil ?_;rintro w1 ⟨⟨wx,hb1⟩,rfl⟩;have HJ1:=qH1 (HJ.1.move hb1);have ao:=qH1 HJ.2;have au:=hb1.size;clear e0 e1 HI hb1 HJ;have b0:=HJ1.box.cell (j:=0) rfl;have av:=HJ1.box.lt.2;have am:Hid (∀w',Below w1 w1 w'->Calls prog 257 #[xp g] w' (yI5 p base g k o w' (yT9 (sb p) o k))):=λw' hb=>H base g k o w' qo a4 ho an.out (yA.below HJ1.rd hb);go_upto_region 3 with fail
   go_region_law ((first
                |(go_simp;go_at_call 257;refine(am.out _ (Below.refl _ _).drew).mono ?_;rintro e' w6 ⟨a7,(⟨k6,t,x,a5,rfl,a6,ab⟩|⟨c6,k6,al,ai,rfl⟩)⟩;(case inr=>exact⟨rfl,(HJ1.move (Below.refl _ _).drew).chg.trans a7,.inr ⟨c6,k6,al,by rw[HJ1.ok.chk,ai],rfl⟩⟩);obtain⟨T6,a3,rfl⟩:=a6.iface;have a0:=qH2 ((HJ1.move (Below.refl _ _).drew).rep a7 a5 a6 ab) a5;have m6:=a0.1.box.cell (j:=0) rfl;have af:=a0.1.box.lt.2;have aq:∀o,(xk (w6.alloc o) (w+1) 0 (.slice va us.length vc):Prop):=λo=>by {rw[((Below.refl w6 w6).alloc qr o).cell (p:=(xd (w+1) 0)) af];exact m6};clear a7 a5 a6 ab)
                |(refine yIo _ (by rfl) _ _ (by rfl) (w+2) us.length w6 (.slice va us.length vc) (.iface T6 (.agg a3)) us rfl (by rfl) (by rfl) ?hO ?hc rfl ?hl ?hb ?_
                  case hO=>exact(a0.1.move (qB)).row
                  case hc=>simp
                  case hl=>omega
                  case hb=>have:=(a0.1.move ((Below.refl _ _).alloc qr (Obj.cells #[.iface T6 (.agg a3)] 346))).box.lt.2;omega
                  intro g7 ay w7 ac a9 aa
                  have a2:=(a0.1.move ((Below.refl _ _).alloc qr (Obj.cells #[.iface T6 (.agg a3)] 346))).push ac a9 (λj hj=>by have aj:g7=j:=by {simpa [Value.ownBlock]using hj};rw[<-aj];exact aa)
                  have ad:=qH1 a2.1
                  have m7:=a2.2.1
                  have f7:=a2.2.2
                  clear a2 ac a9 aa)))
   all_goals go_wp2_with fail
   all_goals go_roundw
   all_goals first
    |exact⟨k6,ts++ [t],us++ [.iface T6 (.agg a3)],_,qw a0.2.lt,by have:=a0.2.le;rw[yAe]at this;exact this,by have:=a0.2.lt;rw[length_append];simp;omega,ad.out⟩
    |(rw[ao.out,yFg ad.out.rd];have:=a0.2.lt;omega)
  .have HE:Hid (∀c,(sb p)[k]?=some c->yFw c):=by
    intro c hc;have hk:=yAn hc;rw[yAe]at hk;cases q
    .exact absurd ⟨hk,rfl⟩ hgo
    .obtain⟨d,hd,hm⟩:=yOd HQ.out;rw[hc]at hd;cases hd
     simp at hm;rcases hm with rfl|rfl|rfl|rfl|rfl|rfl<;>simp[yFw,isOp]
   have HX:=qH1 HJ.1;clear HQ HJ;have fin:∀w1,Below wr wr w1->Hid (SeqJ p base g i o w k ts us (.slice va us.length vc) w1):=λw1 hb=>HX.move hb;by_cases a4:k<p.size
   .have ah:q=true:=by
     cases q
     .exact absurd ⟨a4,rfl⟩ hgo
     .rfl
    subst ah;have z1:(k:Int)<(p.size:Int):=qo
    clear hgo;go_upto_region 2 with fail;refine yAs qk qk ?_;repeat (go_big_quiet_step ((first|rfl|(go_at_call 256;exact Calls.out_of (HI.out _)))))
    exact xG0
   .have z1:¬(k:Int)<(p.size:Int):=qo
    clear hgo;go_upto_region 2 with fail;refine yAs qk qk ?_;repeat (go_big_quiet_step (rfl))
    exact xG0
end
section
structure AltJ (p:ByteArray) (base g i o:Nat) (w:World) (k:Nat) (os:List (List Pat)) (us:List Value) (gq cp:Nat) (wr:World):Prop where
 ok:yDn (sb p) o i k os
 nxt:∀c,(sb p)[k]?=some c->yFw c
 rd:PrAt wr base g p k o
 res:yA wr w 304 1 w [xh]
 row:OwnQ wr (w+1) gq cp us
 len:us.length=os.length
 seqs:∀(i:Nat) x ts,us[i]?=some x->os[i]?=some ts->yFz wr (λj=>w.heap.size+1<=j/\¬j=gq) ts x
 chg:Chg (λk=>k=g) w wr
 glt:g<w.heap.size
variable {w w':World} {base cp:Nat} {us:List Value}
theorem OwnQ.chg {S:Nat->Prop} {gq:Nat} (h:OwnQ w base gq cp us) (hc:Chg S w w') (hn:¬S gq):OwnQ w' base gq cp us:=yAh h hc (λk q=>by simp[Value.ownBlock]at q;subst q;exact hn)
variable {p:ByteArray} {base g i o:Nat} {w:World} {k:Nat} {os:List (List Pat)} {us:List Value} {gq cp:Nat} {wr:World}
theorem AltJ.read {k':Nat} (h:AltJ p base g i o w k os us gq cp wr) (hC:Chg (λk=>k=g) wr w') (hP:PrAt w' base g p k' o):
  yA w' w 304 1 w [xh]/\OwnQ w' (w+1) gq cp us/\(∀(i:Nat) x ts,us[i]?=some x->os[i]?=some ts->yFz w' (λj=>w.heap.size+1<=j/\¬j=gq) ts x)/\Chg (λk=>k=g) w w':=by
 have hg:=h.glt;have hq:=h.row.lt;exact⟨h.res.chg hC qo,h.row.chg hC qo,λi x ts hx ht=>(h.seqs i x ts hx ht).move hC (λq hq=>by subst hq;exact λz=>qw z.1) (λq _ z=>z),h.chg.trans hC⟩
variable {rest:List Oper} {a:Act} {Q:Exit->Act->World->Prop}
theorem yG9 {ops:Array Oper} {oo:Oper} (w:World) (hgd:oo.guard=none) s x
  (ho:oo.op=.call {callee:=.builtin .append,args:=#[s,x],argTypes:=#[302,302]})
  (base gq cp n b:Nat) (us:List Value) (y:Value) (hs:a.eval s=(xg gq n cp)) (hx:a.eval x=(xg b 1 1)) (hn:n=us.length) (hO:OwnQ w base gq cp us)
  (hc:(xk w b 0 y:Prop)) (hy:y.oneCell'=true) (hlen:us.length<=1000) (hbase:base<=w.heap.size)
  (h:∀g' cp' w',OwnQ w' base g' cp' (us++ [y])->w.grownBy w' (some gq)->(g'=gq∨g'=w.heap.size)->wpList prog ops Q rest (a.put oo.dst (xg g' (n+1) cp')) w'):wpList prog ops Q (oo::rest) a w:=by
 subst hn;obtain⟨i,hi,a4,a3,a2⟩:=info_parts Tryz.infoSeq;refine wpList_append_own_at w hgd s x 302 ho base 316 i _ 1 24 underlying302 hi a4 a3 a2 rfl qj (xg gq us.length cp) us.length us hs hO (xd b 0) 1 1 [y] hx rfl ?_ ?_ ?_ ?_ hbase ?_
 .exact xAp
 .intro u hu;simp at hu;subst hu;exact hy
 .unfold maxLen;omega
 .omega
 .intro v' w' a1 a6 a5 a0;rcases a1.2 with⟨h0,_⟩|⟨g',a7,cur,hv,_,_,hn,a8,_,_⟩
  .have:=(a5.1 h0).1;cases this
  .subst hv;refine h g' a7 w' ?_ a6 ?_
   .unfold OwnQ;rw[length_append];exact a1
   .simp[Value.ownBlock]at a0;exact a0
variable {w:World}
theorem yFz.slice {R:Nat->Prop} {ts:List Pat} {u:Value} (h:yFz w R ts u):∃a n cp,u=.slice a n cp:=by
 obtain⟨n,h|⟨g,cp,us,h1,_⟩⟩:=h
 .exact⟨_,_,_,h.2⟩
 .exact⟨_,_,_,h1⟩
variable {p:ByteArray}
theorem xDm {m:Nat} (H:SeqC p m) (hp:p.size<=200):AltC p m:=by
 intro base g i o w hm hi ho h;have am:=h.lt.2;obtain⟨W0,a8⟩:=qW (xw w #[xh] 304);have a6:Hid (PrAt W0 base g p i o/\yA W0 w 304 1 w [xh]/\Chg (λk=>k=g) w W0/\W0.heap.size=w.heap.size+1):=by
  have hb:=qN a8
  refine⟨yA.below h hb,?_,Chg.of_below hb,by rw[a8];simp⟩;rw[a8];exact yAa w _ qr rfl
 clear h;go_enter func229,ntmps229;go_upto_region 1 with fail;rw[<-a8];clear a8;go_wp2_with fail;refine(H base g i o W0 hm hi ho a6.1).mono ?_;rintro e w1 ⟨a9,(⟨k,ts,u,hS,hE,rfl,hU,aq⟩|⟨c,k,ai,hk,rfl⟩)⟩;case inr=>exact⟨rfl,a6.2.2.1.trans a9,.inr ⟨c,k,ai,hk,rfl⟩⟩
 obtain⟨ua,un,uc,rfl⟩:=hU.slice;have af:i<=k/\k<=p.size:=by have h1:=hS.le;have h2:=hS.lei;rw[yAe]at h1;exact⟨h2,h1⟩
 obtain⟨W2,ab⟩:=qW (xw w1 #[.slice ua un uc] 316);have ak:Hid (AltJ p base g i o w k [ts] [.slice ua un uc] w1 1 W2):=by
  have hb:=qN ab
  have hz:=a6.2.2.2;have hs:=a9.size;refine⟨yDn.one hS,hE,yA.below aq hb,(a6.2.1.chg a9 qo).below hb,?_,rfl,?_,(a6.2.2.1.trans a9).trans (Chg.of_below hb),am⟩
  .rw[ab];exact World.ownsRow_lit w1 #[.slice ua un uc] 1 qo qj rfl
  .intro j x ss hx al;have hj:j=0:=by have:=qf hx;simpa using this
   subst hj;simp at hx al;subst hx al;exact hU.move (S:=λ_=>False) (Chg.of_below hb) (λq hq=>hq.elim) (λq hq z=>⟨qw z.1,qo⟩)
 clear a9 hS hE hU aq a6;go_wp2_with fail;rw[<-ab];obtain⟨aA,ah⟩:=qE w1;rw[<-ah]at ak;rw[<-ah];clear ab ah;go_loopw[3] (λsv wr=>∃(k gq cp:Nat) (os:List (List Pat)) (us:List Value),i<=k/\k<=p.size/\us.length<=k+1/\sv=(xg gq us.length cp)/\AltJ p base g i o w k os us gq cp wr) (λ_ wr=>p.size-atOf wr g);case atStart=>exact⟨k,aA,1,[ts],[.slice ua un uc],af.1,af.2,by simp,rfl,ak.out⟩
 case round=>
  obtain⟨k,gq,cp,os,us,aF,af,aC,rfl,hJ⟩:=hrel;have HJ:=qH2 hJ (yFg hJ.rd);clear hJ ak;go_wp2_with fail;refine(yD0 124 HJ.1.rd hp).mono ?_;rintro e w3 ⟨ae,(⟨hx,rfl,a1⟩|⟨hx,rfl,a1⟩)⟩
  .have az:k+1<=p.size:=by have:=yAn hx;rw[yAe]at this;omega
   have HX:=qH3 hx a1 (HJ.1.read ae a1);have a7:Hid (yDn (sb p) o i k os/\us.length=os.length/\atOf wr g=k):=⟨HJ.1.ok,HJ.1.len,HJ.2⟩;clear ae hx a1 HJ;go_wp2_with fail;refine(H base g (k+1) o w3 qo az ho HX.2.1).mono ?_;rintro e w4 ⟨ad,(⟨k4,aa,u4,ac,au,rfl,aj,ao⟩|⟨c,k4,ai,ay,rfl⟩)⟩;case inr=>
    refine⟨rfl,HX.2.2.2.2.2.trans ad,.inr ⟨c,k4,ai,?_,rfl⟩⟩;rw[a7.1.chk,yKl HX.1,ay]
   obtain⟨a4,a2,a3,rfl⟩:=aj.slice;have ax:k+1<=k4/\k4<=p.size:=by have h1:=ac.le;have h2:=ac.lei;rw[yAe]at h1;exact⟨h2,h1⟩
   obtain⟨W5,a5⟩:=qW (xw w4 #[.slice a4 a2 a3] 316);have a0:Hid (yDn (sb p) o i k4 (os++ [aa])/\(∀c,(sb p)[k4]?=some c->yFw c)/\PrAt W5 base g p k4 o/\yA W5 w 304 1 w [xh]/\OwnQ W5 (w+1) gq cp us/\(∀(i:Nat) x ts,(us++ [.slice a4 a2 a3])[i]?=some x->(os++ [aa])[i]?=some ts->yFz W5 (λj=>w.heap.size+1<=j/\¬j=gq) ts x)/\Chg (λk=>k=g) w W5/\xk W5 w4 0 (.slice a4 a2 a3)/\w.heap.size+1<=W5.heap.size):=by
    have hb:=qN a5
    have hq:=HX.2.2.2.1.lt;have aE:=ad.size;have aD:=hb.size;have hc:Chg (λk=>k=g) w3 W5:=ad.trans (Chg.of_below hb);refine⟨yDn.more a7.1 HX.1 ac,au,yA.below ao hb,HX.2.2.1.chg hc qo,HX.2.2.2.1.chg hc qo,?_,HX.2.2.2.2.2.trans hc,by rw[a5];simp,qo⟩;intro j y s hy hs;rcases yHg hy with hy|⟨hj,rfl⟩
    .rcases yHg hs with hs|⟨hj,rfl⟩
     .exact(HX.2.2.2.2.1 j y s hy hs).move hc (λq hq=>by subst hq;exact λz=>qw z.1) (λq _ z=>z)
     .have:=qf hy;have:=a7.2.1;omega
    .rcases yHg hs with hs|⟨_,rfl⟩
     .have:=qf hs;have:=a7.2.1;omega
     .exact aj.move (S:=λ_=>False) (Chg.of_below hb) (λq hq=>hq.elim) (λq _ z=>⟨qw z.1,λe=>qw z.1⟩)
   clear ad ac au aj ao HX;go_wp2_with (at_builtin;rw[<-a5];refine yG9 _ rfl _ _ rfl (w+1) gq cp us.length w4 us (.slice a4 a2 a3) rfl rfl rfl ?hO ?hc rfl ?hl ?hb ?_);case hO=>exact a0.2.2.2.2.1
   case hc=>exact a0.2.2.2.2.2.2.2.1
   case hl=>omega
   case hb=>exact a0.2.2.2.2.2.2.2.2
   intro g6 av w6 ar ag an;rw[<-a5]at ag;have aB:=qS a5
   have aw:Hid (AltJ p base g i o w k4 (os++ [aa]) (us++ [.slice a4 a2 a3]) g6 av w6):=by have hq:=a0.2.2.2.2.1.lt;have hc:Chg (λj=>j=gq) W5 w6:=Chg.of_grown ag (λj hj=>by cases hj;rfl);refine⟨a0.1,a0.2.1,yA.chg a0.2.2.1 hc (by omega),a0.2.2.2.1.chg hc (by omega),ar,by rw[length_append,length_append,a7.2.1];rfl,?_,a0.2.2.2.2.2.2.1.absorb hc (λj q=>.inr (by omega)),am⟩;intro j y s hy hs;exact(a0.2.2.2.2.2.1 j y s hy hs).move hc (λq hq z=>z.2 hq) (λq hq z=>⟨z.1,λe=>by rcases an with r|r;exact z.2 qo;omega⟩)
   clear ar ag an a5 a0;go_wp2;go_roundw;case rel=>exact⟨k4,g6,av,os++ [aa],us++ [.slice a4 a2 a3],qo,ax.2,by rw[length_append];simp;omega,by rw[length_append];rfl,aw.out⟩
   case measure=>rw[a7.2.2,yFg aw.rd];omega
  .have HX:=qH3 HJ.1.ok (λc hc=>⟨HJ.1.nxt c hc,λq=>by subst q;exact hx hc⟩:(∀c,(sb p)[k]?=some c->yFw c/\¬c=124)) HJ.1.len;have HR:=HJ.1.read ae a1;have HF:=qH2 a1 HR;clear HR ae hx a1 HJ;have r0:=HF.2.1.cell (j:=0) rfl;have rf:=HF.2.1.frozen 0;go_wp2;refine bodyPost_ret (v:=.agg #[xg gq us.length cp]) (by simp[results,results229,go_sem,World.cell?_setCell_same _ _ _ r0]) rfl ?_;have hc:=Chg.of_set w3 w 0 (xg gq us.length cp) (S:=λj=>j=w.heap.size) rfl;have hq:=HF.2.2.1.lt;refine⟨HF.2.2.2.2.absorb hc (λj q=>.inr qo),.inl ⟨k,os,_,HX.1,HX.2.1,rfl,?_,yA.chg HF.1 hc qo⟩⟩;obtain⟨n,hn⟩:=yUo HX.2.2 (λi x ts hx ht=>(HF.2.2.2.1 i x ts hx ht).move (S:=λ_=>False) (Chg.refl _ _) (λ_ q=>q.elim) (lo':=λj=>w.heap.size+1<=j) (λ_ _ q=>q.1));have hA:yDo w3 (λj=>w.heap.size+1<=j) os (xg gq us.length cp):=⟨n,gq,cp,us,by rw[HX.2.2],HX.2.2,HF.2.2.1.vals hq.1,hn⟩;exact hA.move hc (λj q=>by subst q;exact λz=>qo) (λj hj z=>⟨qo,qw hc.size⟩)
theorem xAc (hp:p.size<=200):∀m,xCh p m/\AltC p m
 |0=>by
  have h0:xCh p 0:=λbase g i o w hm hi=>qo
  exact⟨h0,xDm (xDa (xDd h0 hp) hp) hp⟩
 |m+1=>by
  have h1:=xFt (xAc hp m).2 hp
  exact⟨h1,xDm (xDa (xDd h1 hp) hp) hp⟩
theorem xCc (hp:p.size<=200) (base g i o:Nat) w (hi:i<=p.size) (ho:o<=20) (h:PrAt w base g p i o):Calls prog 229 #[xp g] w (xAj p base g i o w):=
 (xAc hp (p.size-i)).2 base g i o w qr hi ho h
end
theorem yYk (c a:Int) (w:World):(Instr.typeAssert (pfV c a) 20 321 true).run prog w=.ok (.tuple #[.agg #[xi c,xi a],true]) w:=qk
theorem xBh (w:World):(xf 228 #[.nilIface] w (.agg #[xi 0,xi 0]):Prop):=by go_enter func228,ntmps228;go_wp2_with fail;refine bodyPost_ret (v:=.agg #[xi 0,xi 0]) (by simp[results,results228,go_sem]) rfl ⟨rfl,?_⟩;exact qB
theorem xEw (c a:Int) (w:World):(xf 228 #[pfV c a] w (.agg #[xi c,xi a]):Prop):=by
 have a4:=yYk;obtain⟨W,hW⟩:=qE (xw w #[xi 0,xi 0] 321:World);have HW:Hid (yA W w 321 2 w [xi 0,xi 0]/\Below w w W):=by rw[hW];exact⟨yAa w _ qr rfl,qB⟩
 obtain⟨W2,a1⟩:=qE (xw W #[xi c,xi a] 321:World);have a0:Hid (yA W2 w 321 2 w [xi 0,xi 0]/\yA W2 w 321 2 W [xi c,xi a]/\Below w w W2):=by
  have hb:=qN a1
  refine⟨HW.1.below hb,?_,HW.2.trans (hb.mono HW.2.size)⟩;rw[a1];exact yAa W _ HW.2.size rfl
 go_enter func228,ntmps228;go_upto_region 1 with fail;rw[<-hW];clear hW;go_upto_region 7 with fail;rw[<-a1];clear a1 a4;obtain⟨b0,b1⟩:=a0.2.1.c2;obtain⟨r0,r1⟩:=a0.1.c2;obtain⟨f0,f1⟩:=a0.1.f2;have a3:=(a0.1.set 0 (xi c)).set 1 (xi a);obtain⟨p0,p1⟩:=a3.c2;obtain⟨W3,a2⟩:=qE (xt (W2.setCell (xd w 0) (xi c)) w 1 (xi a):World);rw[<-a2]at p0 p1;have a5:Hid (Below w w W3):=by show Below w w W3;rw[a2];exact yAc (yAc a0.2.2 qr 0 _) qr 1 _
 clear a3;go_wp2_with fail;rw[<-a2];refine bodyPost_ret (v:=.agg #[xi c,xi a]) (by simp[results,results228,go_sem,p0,p1]) rfl ⟨rfl,a5.out⟩
theorem xA6 (base rb eb:Nat) (c a:Int) (older:List PanicEntry) (w:World) (hc:¬c=0) (x:Value) (hr:yA w base 304 1 rb [x]) (he:yA w base 158 2 eb [xi 0,xi 0]) (hne:¬rb=eb):
  CallsD prog 227 #[xp rb,xp eb] (.panicking ({v:=pfV c a,recovered:=false}::older)) w λe u' w'=>
   e=.returned (.tuple #[])/\u'=.panicking ({v:=pfV c a,recovered:=true}::older)/\yA w' base 304 1 rb [xh]/\yA w' base 158 2 eb [xi c,xi a]/\Chg (λk=>k=rb∨k=eb) w w':=by
 refine callsD_of_wpS func227 rfl λc₀ cs hu=>?_;apply wpS_seq;apply wpS_region;simp[wpOpsS,go_sem,recoverD,hu,ntmps227,Exit.thenS];refine(xEw c a w).mono ?_;rintro e w1 ⟨rfl,a0⟩;simp[wpOpsS,go_sem];have ht:#[Value.pointer (some ⟨rb,0,none⟩),Value.pointer (some ⟨eb,0,none⟩)]++(((Array.replicate 12 undef).setIfInBounds 1 (pfV c a)).setIfInBounds 2 (Value.agg #[Value.int IntKind.i64 c,Value.int IntKind.i64 a])).setIfInBounds 0 (Value.pointer (some ⟨w1,0,none⟩))=#[.pointer (some ⟨rb,0,none⟩),.pointer (some ⟨eb,0,none⟩),.pointer (some ⟨w1,0,none⟩),pfV c a,.agg #[xi c,xi a],undef,undef,undef,undef,undef,undef,undef,undef,undef]:=by rfl
 rw[ht];clear ht;obtain⟨W2,a1⟩:=qE (xw w1 #[xi c,xi a] 321:World);have hb2:=qN a1
 have HB:Hid (yA W2 base 304 1 rb [x]/\yA W2 base 158 2 eb [xi 0,xi 0]/\Chg (λk=>k=rb∨k=eb) w W2):=
  ⟨(hr.below a0).below hb2,(he.below a0).below hb2,(Chg.of_below a0).trans (Chg.of_below hb2)⟩
 have d0:(xk W2 w1 0 (xi c):Prop):=by rw[a1];simp
 have d1:(xk W2 w1 1 (xi a):Prop):=by rw[a1];simp
 have a4:=(hr.below a0).lt.2;have a5:=(he.below a0).lt.2;obtain⟨FB,a3⟩:=qE w1.heap.size;rw[<-a1];rw[<-a3]at d0 d1⊢;have n1:¬FB=rb:=qo
 have n2:¬FB=eb:=qo
 clear a1 a3 a0 hb2 hr he a4 a5;have r0:=HB.1.cell (j:=0) rfl;have rf:=HB.1.frozen 0;obtain⟨e0,e1⟩:=HB.2.1.c2;obtain⟨f0,f1⟩:=HB.2.1.f2;have n3:¬eb=rb:=λq=>hne q.symm;have HF:∀w':World,Below W2 W2 w'->yA (xt ((w'.setCell (xd rb 0) xh).setCell (xd eb 0) (xi c)) eb 1 (xi a)) base 304 1 rb [xh]/\yA (xt ((w'.setCell (xd rb 0) xh).setCell (xd eb 0) (xi c)) eb 1 (xi a)) base 158 2 eb [xi c,xi a]/\Chg (λk=>k=rb∨k=eb) w (xt ((w'.setCell (xd rb 0) xh).setCell (xd eb 0) (xi c)) eb 1 (xi a)):=λw' hb=>by refine⟨((((HB.1.below hb).set 0 _).beside hne 0 _).beside hne 1 _),((((HB.2.1.below hb).beside n3 0 _).set 0 _).set 1 _),((((HB.2.2.trans (Chg.of_below hb)).trans (Chg.of_set _ rb 0 _ (.inl rfl))).trans (Chg.of_set _ eb 0 _ (.inr rfl))).trans (Chg.of_set _ eb 1 _ (.inr rfl)))⟩
 have a6:=qH1 HF;clear HF;refine wpS_of_wp ?_;go_upto_region 2 with fail;go_region;all_goals go_wp2_with fail
 have a2:=a6.out W2 (Below.refl _ _);have hdr:∀X:World,Below X X X.drew:=λX=>(Below.refl _ _).drew;exact⟨rfl,_,rfl,_,by simp[results,results227],rfl,rfl,a2.1.below (hdr _),a2.2.1.below (hdr _),a2.2.2.trans (Chg.of_below (hdr _))⟩
theorem xEj (rb eb:Nat) (w:World):
  CallsD prog 227 #[xp rb,xp eb] .returning w λe u' w'=>e=.returned (.tuple #[])/\u'=.returning/\Below w w w':=by
 refine callsD_of_wpS func227 rfl λc₀ cs hu=>?_;apply wpS_seq;apply wpS_region;simp[wpOpsS,go_sem,recoverD,hu,ntmps227,Exit.thenS];refine(xBh w).mono ?_;rintro e w1 ⟨rfl,a0⟩;simp[wpOpsS,go_sem];have ht:#[Value.pointer (some ⟨rb,0,none⟩),Value.pointer (some ⟨eb,0,none⟩)]++(((Array.replicate 12 undef).setIfInBounds 1 .nilIface).setIfInBounds 2 (Value.agg #[Value.int IntKind.i64 0,Value.int IntKind.i64 0])).setIfInBounds 0 (Value.pointer (some ⟨w1,0,none⟩))=#[.pointer (some ⟨rb,0,none⟩),.pointer (some ⟨eb,0,none⟩),.pointer (some ⟨w1,0,none⟩),.nilIface,.agg #[xi 0,xi 0],undef,undef,undef,undef,undef,undef,undef,undef,undef]:=by rfl
 rw[ht];clear ht;have HB:Hid (Below w w (xw w1 #[xi 0,xi 0] 321)):=a0.trans ((Below.refl _ _).alloc a0.size _);clear a0;refine wpS_of_wp ?_;go_wp2_with fail;refine⟨rfl,.returning,?_,_,by simp[results,results227],rfl,rfl,HB.out⟩;cases c₀
 simp_all
def yAj (p:List UInt8):Int×Nat:=if 200<p.length then(1,0)else chkM p 0 0 false
def yDv (p:ByteArray) (w:World) (e:Ending) (w':World):Prop:=
 ∃u:Value,e=.returned (.tuple #[.agg #[u],.agg #[xi (yAj (sb p)).1,xi (yAj (sb p)).2]])/\Below w w w'/\
  (((yAj (sb p)).1=0/\∃os,yDn (sb p) 0 0 p.size os/\yDo w' (Bet w w') os u)∨(¬(yAj (sb p)).1=0/\u=xh))
variable {base:Nat} {w:World}
theorem yYc {rb eb:Nat} {a:Act} {u x y:Value} (hu:u.oneCell'=true) (ht:a.tmps.getD 2 undef=(xp rb)) (ht2:a.tmps.getD 3 undef=(xp eb)) (hr:yA w base 304 1 rb [u]) (he:yA w base 158 2 eb [x,y]):
  (results Tryz.f212 a.tmps).run prog w=.ok (.tuple #[.agg #[u],.agg #[x,y]]) w:=by
 have p0:=hr.cell (j:=0) rfl;obtain⟨q0,q1⟩:=he.c2;have h1:a.tmps[2]?.getD undef=(xp rb):=by rw[<-Array.getD_eq_getD_getElem?];exact ht
 have h2:a.tmps[3]?.getD undef=(xp eb):=by rw[<-Array.getD_eq_getD_getElem?];exact ht2
 simp[results,results212,go_sem,h1,h2,p0,q0,q1]
theorem yYd (p:ByteArray) (w wq:World) (a:Act) (c:Int) (k rb eb:Nat) (x:Value) (hrb:w.heap.size<=rb) (heb:w.heap.size<=eb) (hne:¬rb=eb) (hd:a.defers= [{target:=Target.fn (Fn.func 227) #[xp rb,xp eb],args:=#[]}])
  (ht:a.tmps.getD 2 undef=(xp rb)) (ht2:a.tmps.getD 3 undef=(xp eb)) (hM:yAj (sb p)=(c,k)) (hc:¬c=0) (hr:yA wq w 304 1 rb [x]) (he:yA wq w 158 2 eb [xi 0,xi 0]) (hB:Below w w wq):
  bodyPostD prog Tryz.f212 (λe w'=>yDv p w e w') (.panic [{v:=pfV c k,recovered:=false}]) a wq:=by
 show Leaves prog Tryz.f212 a.tmps (λe w'=>yDv p w e w') a.defers (.panicking [{v:=pfV c k,recovered:=false}]) wq;rw[hd];refine leaves_cons (f:=227) (args:=#[.pointer (some ⟨rb,0,none⟩),.pointer (some ⟨eb,0,none⟩)]) (by simp) (by simp[go_sem]) ?_;refine(xA6 w rb eb c k [] wq hc x hr he hne).mono ?_;rintro e u' w'' ⟨rfl,rfl,a0,a1,hC⟩;show Leaves prog Tryz.f212 a.tmps (λe w'=>yDv p w e w') [] (settle (.panicking [{v:=pfV c k,recovered:=true}])) _;refine⟨_,yYc rfl ht ht2 a0 a1,xh,by rw[hM],Chg.below hB hC hB.size (λj q=>qo),.inr ⟨by rw[hM];exact hc,rfl⟩⟩
theorem xEk (p:ByteArray) (w wq:World) (a:Act) (rb eb:Nat) (u:Value) (os:List (List Pat)) (hu:u.oneCell'=true) (hd:a.defers= [{target:=Target.fn (Fn.func 227) #[xp rb,xp eb],args:=#[]}])
  (ht:a.tmps.getD 2 undef=(xp rb)) (ht2:a.tmps.getD 3 undef=(xp eb)) (hM:yAj (sb p)=(0,0)) (hA:yDn (sb p) 0 0 p.size os) (hU:yDo wq (Bet w wq) os u) (hr:yA wq w 304 1 rb [u]) (he:yA wq w 158 2 eb [xi 0,xi 0]) (hB:Below w w wq):
  bodyPostD prog Tryz.f212 (λe w'=>yDv p w e w') .ret a wq:=by
 show Leaves prog Tryz.f212 a.tmps (λe w'=>yDv p w e w') a.defers .returning wq;rw[hd];refine leaves_cons (f:=227) (args:=#[.pointer (some ⟨rb,0,none⟩),.pointer (some ⟨eb,0,none⟩)]) (by simp) (by simp[go_sem]) ?_;refine(xEj rb eb wq).mono ?_;rintro e u' w'' ⟨rfl,rfl,hb⟩;show Leaves prog Tryz.f212 a.tmps (λe w'=>yDv p w e w') [] (settle .returning) w'';refine⟨_,yYc hu ht ht2 (hr.below hb) (he.below hb),u,by rw[hM];rfl,hB.trans (hb.mono hB.size),.inl ⟨by rw[hM],os,hA,hU.move (S:=λ_=>False) (Chg.of_below hb) (λq hq=>hq.elim) (λq hq z=>⟨z.1,by have:=hb.size;omega⟩)⟩⟩
theorem yA5 (p:ByteArray) w (hpm:p.size<=maxLen):Calls prog 212 #[p] w λe w'=>yDv p w e w':=by
 have af:∀(fn:Fn) (first cap:Array Value) (w:World),(Instr.makeFunc fn first cap).run prog w=.ok (.func fn first cap) w:=λ_ _ _ _=>rfl;obtain⟨W0,a6⟩:=qW (xw (w.alloc (Obj.cells #[xh] 304)) #[xi 0,xi 0] 158);have a2:Hid (yA W0 w 304 1 w [xh]/\yA W0 w 158 2 (w+1) [xi 0,xi 0]/\Below w w W0/\W0.heap.size=w.heap.size+2):=by rw[a6];refine⟨yA.ofHeap (vs:=#[.slice none 0 0]) (heap_alloc2_old w _ _) qr rfl,yA.ofHeap (vs:=#[.int .i64 0,.int .i64 0]) (heap_alloc2_new w _ _) qo rfl,(qB).alloc (by simp) _,by simp⟩
 unfold maxLen at hpm;by_cases hp:200<p.size
 .have HM:Hid (yAj (sb p)=(1,0)):=by show yAj (sb p)=_;unfold yAj;rw[if_pos (by rw[yAe];exact hp)]
  have z:¬(p.size:Int)<=200:=qo
  have z2:(200:Int)<(p.size:Int):=qo
  go_enter_defers func212,ntmps212;go_upto_region 1 with fail;rw[<-a6];clear a6;have r0:=a2.1.cell (j:=0) rfl;have rf:=a2.1.frozen 0;obtain⟨e0,e1⟩:=a2.2.1.c2;obtain⟨f0,f1⟩:=a2.2.1.f2;obtain⟨W1,a3⟩:=qW (xt ((W0.setCell (xd w 0) xh).setCell (xd (w+1) 0) (xi 1)) (w+1) 1 (xi 0));have a0:Hid (yA W1 w 304 1 w [xh]/\yA W1 w 158 2 (w+1) [xi 1,xi 0]/\Below w w W1):=by rw[a3];exact⟨(((a2.1.set 0 _).beside qo 0 _).beside qo 1 _),(((a2.2.1.beside qo 0 _).set 0 _).set 1 _),yAc (yAc (yAc a2.2.2.1 qr 0 _) qo 0 _) qo 1 _⟩
  go_wp2_with fail;rw[<-a3];show Leaves prog Tryz.f212 _ (λe w'=>yDv p w e w') [] .returning W1;refine⟨_,yYc (a:={tmps:=_,defers:= []}) rfl rfl rfl a0.1 a0.2.1,xh,by rw[HM.out];rfl,a0.2.2,.inr ⟨by rw[HM.out];decide,rfl⟩⟩
 have ae:p.size<=200:=qo
 have HM:Hid (yAj (sb p)=chkM (sb p) 0 0 false):=by show yAj (sb p)=_;unfold yAj;rw[if_neg (by rw[yAe];exact hp)]
 have z:(p.size:Int)<=200:=qo
 obtain⟨W1,a3⟩:=qW (xw W0 #[p,xi 0,xi 0] 324);have a0:Hid (yA W1 w 304 1 w [xh]/\yA W1 w 158 2 (w+1) [xi 0,xi 0]/\PrAt W1 w (w+2) p 0 0/\Below w w W1/\W1.heap.size=w.heap.size+3):=by
  have hb:=qN a3
  have hz:=a2.2.2.2;refine⟨a2.1.below hb,a2.2.1.below hb,?_,a2.2.2.1.trans (hb.mono qo),by rw[a3];simp;omega⟩;rw[a3,<-hz];exact yAa W0 #[p,xi 0,xi 0] qo rfl
 go_enter_defers func212,ntmps212;go_upto_region 1 with fail;rw[<-a6];have ad:=a2.2.2.2;clear a6 a2;go_upto_region 5 with fail;rw[<-a3];clear a3 ad;go_wp2_with fail;refine(xCc ae w (w+2) 0 0 W1 (zero_le _) (zero_le _) a0.2.2.1).mono ?_;rintro e w2 ⟨a5,(⟨k,os,u,hA,hN,rfl,hU,ac⟩|⟨c,k,hc,hk,rfl⟩)⟩;case inr=>
  have hb2:=Chg.below a0.2.2.2.1 a5 a0.2.2.2.1.size (λj q=>by omega);exact yYd p w w2 _ c k w (w+1) _ qr qo qo rfl rfl rfl (by rw[HM.out,hk]) hc (a0.1.chg a5 qo) (a0.2.1.chg a5 qo) hb2
 obtain⟨gu,nu,cu,rfl⟩:=hU.slice;have ag:k<=p.size:=by have:=hA.le;rw[yAe]at this;exact this
 have HA:=qH2 hA hN;have a4:Hid (yA w2 w 304 1 w [xh]/\yA w2 w 158 2 (w+1) [xi 0,xi 0]/\PrAt w2 w (w+2) p k 0/\Below w w w2/\yDo w2 (λj=>w.heap.size+3<=j) os (xg gu nu cu)):=by refine⟨a0.1.chg a5 qo,a0.2.1.chg a5 qo,ac,Chg.below a0.2.2.2.1 a5 a0.2.2.2.1.size (λj q=>qo),hU.move (S:=λ_=>False) (Chg.refl _ _) (λq hq=>hq.elim) (λq _ z=>by have h1:=z.1;rw[a0.2.2.2.2]at h1;exact h1)⟩
 clear a5 hA hN hU ac a0;obtain⟨W3,aa⟩:=qW (xt w2 w 0 (xg gu nu cu));have a1:Hid (yA W3 w 304 1 w [xg gu nu cu]/\yA W3 w 158 2 (w+1) [xi 0,xi 0]/\PrAt W3 w (w+2) p k 0/\Below w w W3/\yDo W3 (λj=>w.heap.size+3<=j) os (xg gu nu cu)):=by have hc:=Chg.of_set w2 w 0 (xg gu nu cu) (S:=λj=>j=w.heap.size) rfl;rw[aa];exact⟨a4.1.set 0 _,a4.2.1.chg hc qo,yA.chg a4.2.2.1 hc qo,yAc a4.2.2.2.1 qr 0 _,a4.2.2.2.2.move hc (λq hq=>by subst hq;exact λz=>qo) (λq _ z=>z)⟩
 have r0:=a4.1.cell (j:=0) rfl;have rf:=a4.1.frozen 0;clear a4;go_upto_region 6 with fail;rw[<-aa];clear aa r0 rf;have c1:=a1.2.2.1.cell (j:=1) rfl;by_cases hke:k=p.size
 .have zk:(k:Int)=(p.size:Int):=qo
  have a9:Hid (yAj (sb p)=(0,0)/\yDn (sb p) 0 0 p.size os):=by refine⟨?_,by rw[<-hke];exact HA.1⟩;rw[HM.out,HA.1.chk,yHv (by rw[yAe];omega),if_neg qo]
  clear HA hke;go_wp2_with fail;refine(yJm _ a1.2.2.1).mono ?_;rintro e w5 ⟨a7,(⟨hc,rfl⟩|⟨hc,rfl⟩)⟩;case inr=>exfalso;(simp at hc)<;>omega
  rw[a7];clear a7 hc c1;have r0:=a1.1.cell (j:=0) rfl;have rf:=a1.1.frozen 0;obtain⟨e0,e1⟩:=a1.2.1.c2;obtain⟨f0,f1⟩:=a1.2.1.f2;obtain⟨W6,ab⟩:=qW (xt ((W3.setCell (xd w 0) (xg gu nu cu)).setCell (xd (w+1) 0) (xi 0)) (w+1) 1 (xi 0));have a8:Hid (yA W6 w 304 1 w [xg gu nu cu]/\yA W6 w 158 2 (w+1) [xi 0,xi 0]/\Below w w W6/\yDo W6 (Bet w W6) os (xg gu nu cu)):=by have c1:=Chg.of_set W3 w 0 (xg gu nu cu) (S:=λj=>j=w.heap.size∨j=w.heap.size+1) (.inl rfl);have c2:=c1.trans (Chg.of_set _ (w+1) 0 (xi 0) (S:=λj=>j=w.heap.size∨j=w.heap.size+1) (.inr rfl));have c3:=c2.trans (Chg.of_set _ (w+1) 1 (xi 0) (S:=λj=>j=w.heap.size∨j=w.heap.size+1) (.inr rfl));rw[ab];exact⟨(((a1.1.set 0 _).beside qo 0 _).beside qo 1 _),(((a1.2.1.beside qo 0 _).set 0 _).set 1 _),yAc (yAc (yAc a1.2.2.2.1 qr 0 _) qo 0 _) qo 1 _,a1.2.2.2.2.move c3 (λq hq=>λz=>qo) (λq hq z=>⟨qo,qw c3.size⟩)⟩
  go_wp2_with fail;rw[<-ab];exact xEk p w W6 _ w (w+1) _ os rfl rfl rfl rfl a9.1 a9.2 a8.2.2.2 a8.1 a8.2.1 a8.2.2.1
 .have zk:¬(k:Int)=(p.size:Int):=qo
  have a9:Hid (yAj (sb p)=(2,k)):=by
   show yAj (sb p)=_;obtain⟨c,hc⟩:∃c,(sb p)[k]?=some c:=qg (by rw[yAe];omega);obtain⟨h1,h2⟩:=HA.2 c hc;rw[HM.out,HA.1.chk];rcases h1 with h1|h1|h1|h1
   .rw[yR hc h1];rfl
   .exact absurd h1 h2
   .subst h1;rw[yD4 hc,if_pos rfl]
   .subst h1;rw[yQ9 hc]
  clear HA hke;go_wp2_with fail;refine(yJm _ a1.2.2.1).mono ?_;rintro e w5 ⟨a7,(⟨hc,rfl⟩|⟨hc,rfl⟩)⟩
  .exfalso;(simp at hc)<;>omega
  rw[a7];exact yYd p w W3 _ 2 k w (w+1) _ qr qo qo rfl rfl rfl a9.out qj a1.1 a1.2.1 a1.2.2.2.1
theorem yLl (p:ByteArray) (w:World) (hpm:p.size<=maxLen):(xf 183 #[p] w (.agg #[xi (yAj (sb p)).1,xi (yAj (sb p)).2]):Prop):=by
 obtain⟨W0,a4⟩:=qW (xw w #[xi 0,xi 0] 158);have a3:Hid (yA W0 w 158 2 w [xi 0,xi 0]/\Below w w W0):=by rw[a4];exact⟨yAa w _ qr rfl,qB⟩
 obtain⟨c,hc⟩:=qE ((yAj (sb p)).1);obtain⟨k,hk⟩:=qE ((yAj (sb p)).2);rw[<-hc,<-hk];go_enter func183,ntmps183;go_upto_region 1 with fail;rw[<-a4];clear a4;go_wp2_with fail;refine(yA5 p W0 hpm).mono ?_;rintro e w1 ⟨u,rfl,a1,hu⟩;rw[<-hc,<-hk];obtain⟨ua,un,uc,rfl⟩:∃a n cp,u=.slice a n cp:=by
  rcases hu with⟨_,os,_,hU⟩|⟨_,rfl⟩
  .obtain⟨g,n,cp,rfl⟩:=hU.slice;exact⟨_,_,_,rfl⟩
  .exact⟨_,_,_,rfl⟩
 clear hu hc hk;obtain⟨W2,a2⟩:=qW (xw (w1.alloc (Obj.cells #[.slice ua un uc] 304)) #[xi c,xi k] 158);have a0:Hid (yA W2 w 158 2 w [xi 0,xi 0]/\yA W2 w 158 2 (w1+1) [xi c,xi k]/\Below w w W2):=by
  have hb2:Below w1 w1 W2:=by rw[a2];exact(qB).alloc (by simp) _
  have h1:=a3.2.size;have h2:=a1.size;refine⟨(a3.1.below a1).below hb2,?_,(a3.2.trans (a1.mono h1)).trans (hb2.mono (by omega))⟩;rw[a2];exact yA.ofHeap (vs:=#[.int .i64 c,.int .i64 (k:Int)]) (heap_alloc2_new w1 _ _) (by omega) rfl
 clear a1 a3;go_upto_region 2 with fail;rw[<-a2];clear a2;obtain⟨b0,b1⟩:=a0.2.1.c2;obtain⟨r0,r1⟩:=a0.1.c2;obtain⟨f0,f1⟩:=a0.1.f2;have a5:=(a0.1.set 0 (xi c)).set 1 (xi k);obtain⟨p0,p1⟩:=a5.c2;have a7:Hid (Below w w (xt (W2.setCell (xd w 0) (xi c)) w 1 (xi k))):=yAc (yAc a0.2.2 qr 0 _) qr 1 _;obtain⟨W3,a6⟩:=qW (xt (W2.setCell (xd w 0) (xi c)) w 1 (xi k));rw[<-a6]at p0 p1 a7;clear a5;go_wp2;rw[<-a6];refine bodyPost_ret (v:=.agg #[xi c,xi k]) (by simp[results,results183,go_sem,p0,p1]) rfl ⟨rfl,a7.out⟩
abbrev less (a b:ByteArray):Prop:=Op.bytesLess a.toList b.toList=true
theorem xBq (k:Int) (s:ByteArray) (h:Bool) (t:ByteArray) (l u n k':Int) (s':ByteArray) (h':Bool) (t':ByteArray) (l' u' n':Int) (wx:World):
  (binOp .eql 83 (.agg #[xi k,s,h,t,xu l,xu u,xi n]) (.agg #[xi k',s',h',t',xu l',xu u',xi n'])).run prog wx=.ok (decide (k=k'/\s.toList=s'.toList/\h=h'/\t.toList=t'.toList/\l=l'/\u=u'/\n=n')) wx:=by
 go_simp;repeat' split
 all_goals simp_all
theorem yXd (e:Nd) (w:World):Calls prog 88 #[e.v,.bool true,.bool false,.bool false,.bool false,.bool false] w λr w'=>∃b,r=.returned (.bool b)/\(b=true↔e.hi=false/\e.t.toList= []/\e.lo=0/\e.up=0/\e.n=0)/\Below w w w':=by exact yXl
theorem yT5 (e:Nd) (w:World):Calls prog 88 #[e.v,.bool true,.bool true,.bool true,.bool false,.bool false] w λr w'=>∃b,r=.returned (.bool b)/\(b=true↔e.lo=0/\e.up=0/\e.n=0)/\Below w w w':=by exact yXl
theorem yXe (e:Nd) (w:World):Calls prog 88 #[e.v,.bool false,.bool true,.bool false,.bool true,.bool false] w λr w'=>∃b,r=.returned (.bool b)/\(b=true↔e.s.toList= []/\e.t.toList= []/\e.n=0)/\Below w w w':=by exact yXl
theorem yXf (e:Nd) (w:World):Calls prog 88 #[e.v,.bool false,.bool false,.bool false,.bool false,.bool true] w λr w'=>∃b,r=.returned (.bool b)/\(b=true↔e.s.toList= []/\e.hi=false/\e.t.toList= []/\e.lo=0/\e.up=0)/\Below w w w':=by exact yXl
theorem yXc (e:Nd) (w:World):Calls prog 88 #[e.v,.bool false,.bool false,.bool false,.bool false,.bool false] w λr w'=>∃b,r=.returned (.bool b)/\(b=true↔e.s.toList= []/\e.hi=false/\e.t.toList= []/\e.lo=0/\e.up=0/\e.n=0)/\Below w w w':=by exact yXl
theorem yZv (e:Nd) (w:World):Calls prog 184 #[e.v] w λr w'=>∃b,r=.returned (.bool b)/\(b=true↔((e.hi=false/\e.t.toList= []/\e.up=0)∨(e.hi=true/\(less e.s e.t∨e.lo<e.up))))/\Below w w w':=by
 go_enter func184,ntmps184;go_wp2_with fail;all_goals go_ret
 all_goals exact⟨_,rfl,by simp_all[less],qB⟩
def yCb (e:Nd):Prop:=e.s.size<=200/\e.t.size<=200/\(e.hi=false->e.t.toList= []/\e.up=0)/\
 (((e.kind=4∨e.kind=5∨e.kind=6∨e.kind=7)/\(e.hi=false/\e.t.toList= []/\e.lo=0/\e.up=0/\e.n=0)/\(yAj (sb e.s)).1=0)∨
  ((e.kind=8∨e.kind=9)/\(e.lo=0/\e.up=0/\e.n=0)/\(e.hi=true->less e.s e.t))∨
  (e.kind=10/\(e.s.toList= []/\e.t.toList= []/\e.n=0)/\(e.hi=true->e.lo<e.up))∨
  ((e.kind=11∨e.kind=12∨e.kind=13)/\(e.s.toList= []/\e.hi=false/\e.t.toList= []/\e.lo=0/\e.up=0)/\1<=e.n/\e.n<=1000)∨
  ((e.kind=1∨e.kind=2∨e.kind=3∨e.kind=14∨e.kind=15∨e.kind=16)/\(e.s.toList= []/\e.hi=false/\e.t.toList= []/\e.lo=0/\e.up=0/\e.n=0)))
theorem yUt (c k:Int) (w:World):(Instr.field 158 (.agg #[xi c,xi k]) 0).run prog w=.ok (xi c) w:=qk
def xDo (e:Nd) (w:World) (r:Ending) (w':World):Prop:=∃b,r=.returned (.bool b)/\(b=true↔yCb e)/\Below w w w'
variable {p:Prop}
theorem zGf (h:p:=by go_wp2_with fail;go_ret;refine⟨_,rfl,⟨nofun,λq=>?_⟩,HW0.2.trans (hb1.mono hbw)⟩;have hB:=HB.out;simp[yCb]at q hB;simp_all):p:=h
theorem zGt (h:p:=by go_wp2_with fail;go_ret;refine⟨_,rfl,?_,HW0.2.trans (hb1.mono hbw)⟩;have hB:=HB.out;have hG:=HG.out;simp at hB;simp[yCb,less];simp_all;try omega):p:=h
theorem zGa (h:p:=by go_wp2_with fail;refine(yXd ⟨_,s,hi,t,lo,up,n⟩ _).mono ?_;rintro r w1 ⟨b,rfl,hb,hb1⟩;have HB:=qH1 hb;obtain⟨d0,d1,d2,d3,d4,d5,d6⟩:=(HW0.1.below hb1).c7;clear hb;cases b;exact zGf;exact xIl):p:=h
theorem zGb (h:p:=by go_wp2_with fail;refine(yT5 ⟨_,s,hi,t,lo,up,n⟩ _).mono ?_;rintro r w1 ⟨b,rfl,hb,hb1⟩;have HB:=qH1 hb;obtain⟨d0,d1,d2,d3,d4,d5,d6⟩:=(HW0.1.below hb1).c7;clear hb;cases b;exact zGf;cases hi<;>exact zGt):p:=h
theorem zGc (h:p:=by go_wp2_with fail;refine(yXf ⟨_,s,hi,t,lo,up,n⟩ _).mono ?_;rintro r w1 ⟨b,rfl,hb,hb1⟩;have HB:=qH1 hb;obtain⟨d0,d1,d2,d3,d4,d5,d6⟩:=(HW0.1.below hb1).c7;clear hb;cases b;exact zGf;by_cases h1:1<=n<;>exact zGt):p:=h
theorem zGe (h:p:=by go_wp2_with fail;refine(yXc ⟨_,s,hi,t,lo,up,n⟩ _).mono ?_;rintro r w1 ⟨b,rfl,hb,hb1⟩;have HB:=qH1 hb;clear hb;go_wp2_with fail;go_ret;refine⟨_,rfl,?_,HW0.2.trans (hb1.mono hbw)⟩;rw[HB.out];have hG:=HG.out;simp[yCb];simp_all):p:=h
theorem yZo (e:Nd) (w:World) (hs:e.s.size<=maxLen) (ht:e.t.size<=maxLen):Calls prog 40 #[e.v] w (xDo e w):=by
 obtain⟨kind,s,hi,t,lo,up,n⟩:=e;have HS:=qH1 hs;unfold maxLen at hs ht;simp only[]at hs ht;obtain⟨W0,a0⟩:=qE (w.alloc (Obj.cells #[.int .i64 kind,.string s,.bool hi,.string t,.int .u64 lo,.int .u64 up,.int .i64 n] 83):World);have HW0:Hid (yA W0 w.heap.size 83 7 w.heap.size [.int .i64 kind,.string s,.bool hi,.string t,.int .u64 lo,.int .u64 up,.int .i64 n]/\Below w.heap.size w W0):=by rw[a0];exact⟨yAa w _ (Nat.le_refl _) rfl,qB⟩
 have hbw:=HW0.2.size;obtain⟨c0,c1,c2,c3,c4,c5,c6⟩:=HW0.1.c7;go_enter func40,ntmps40;go_upto_region 1 with fail;rw[<-a0];clear a0;by_cases hgood:s.size<=200/\t.size<=200/\(hi=true∨(hi=false/\t.toList= []/\up=0));case neg=>
  have HG:Hid (¬yCb ⟨kind,s,hi,t,lo,up,n⟩):=λq=>hgood ⟨q.1,q.2.1,by
   cases hi
   .exact .inr ⟨rfl,q.2.2.1 rfl⟩
   .exact .inl rfl⟩
  by_cases h1:s.size<=200
  .have z1:¬(200:Int)<(s.size:Int):=qo
   by_cases h2:t.size<=200
   .have z2:¬(200:Int)<(t.size:Int):=qo
    have a2:hi=false:=by cases hi;rfl;exact absurd ⟨h1,h2,.inl rfl⟩ hgood
    subst a2;by_cases h3:t.toList= []
    .have h4:¬up=0:=λq=>hgood ⟨h1,h2,.inr ⟨rfl,h3,q⟩⟩;exact yVn
    .exact yVn
   .have z2:(200:Int)<(t.size:Int):=qo
    exact yVn
  .have z1:(200:Int)<(s.size:Int):=qo
   exact yVn
 have HG:=qH3 hgood.1 hgood.2.1 (λq=>hgood.2.2.elim (λz=>by rw[q]at z;cases z) (λz=>z.2):(hi=false->t.toList= []/\up=0));go_cut[27] (λs wx=>s=.bool false/\wx=W0);case first=>
  have z1:¬(200:Int)<(s.size:Int):=by have:=HG.1;omega
  have z2:¬(200:Int)<(t.size:Int):=by have:=HG.2.1;omega
  rcases hgood.2.2 with rfl|⟨rfl,h3,rfl⟩
  .go_wp2_with fail;go_meet;exact⟨rfl,rfl⟩
  .go_wp2_with fail;go_meet;exact⟨rfl,rfl⟩
 case rest=>
 obtain⟨rfl,rfl⟩:=hcut;clear hgood hs ht;obtain⟨c,hc⟩:=qE ((yAj (sb s)).1);obtain⟨k,hk⟩:=qE (((yAj (sb s)).2:Int):Int);have HV:=qH1 hc;have HC:Hid (∀w,Calls prog 89 #[.string s] w λe w'=>e=.returned (.agg #[.int .i64 c,.int .i64 k])/\Below w w w'):=λw=>by rw[hc,hk];exact yB6 s w HS.out
 clear hc hk;by_cases k1:kind=4∨kind=5∨kind=6∨kind=7
 .rcases k1 with rfl|rfl|rfl|rfl<;>exact zGa
 by_cases k2:kind=8∨kind=9
 .rcases k2 with rfl|rfl<;>exact zGb
 by_cases k3:kind=10
 .subst k3;go_wp2_with fail;refine(yXe ⟨_,s,hi,t,lo,up,n⟩ _).mono ?_;rintro r w1 ⟨b,rfl,hb,hb1⟩;have HB:=qH1 hb;obtain⟨d0,d1,d2,d3,d4,d5,d6⟩:=(HW0.1.below hb1).c7;clear hb;cases b;exact zGf;cases hi<;>exact zGt
 by_cases k4:kind=11∨kind=12∨kind=13
 .rcases k4 with rfl|rfl|rfl<;>exact zGc
 by_cases k5:kind=1∨kind=2∨kind=3∨kind=14∨kind=15∨kind=16
 .rcases k5 with rfl|rfl|rfl|rfl|rfl|rfl<;>exact zGe
 have HF:Hid (¬yCb ⟨kind,s,hi,t,lo,up,n⟩):=by show¬yCb _;simp only[yCb];rintro⟨_,_,_,q⟩;omega
 have a1:¬(1<=kind/\kind<=16):=qo
 by_cases k0:1<=kind
 .have a3:¬kind<=16:=λq=>a1 ⟨k0,q⟩;exact zF HW0.2
 .exact zF HW0.2
theorem yId (k:Int) w:Calls prog 144 #[xi k] w λe w'=>e=.returned (xi (yA0 k))/\w'=w:=by
 by_cases h14:k=14
 .subst h14;exact xDp
 by_cases h15:k=15
 .subst h15;exact xDp
 by_cases h16:k=16
 .subst h16;exact xDp
 have a2:(k==14)=false:=by simpa using h14
 have a1:(k==15)=false:=by simpa using h15
 have a0:(k==16)=false:=by simpa using h16
 have H:Hid (yA0 k=0):=by show yA0 k=0;unfold yA0;rw[if_neg qo,if_neg h16]
 go_enter func144,ntmps144;go_wp2;go_ret;exact⟨by rw[H.out];rfl,rfl⟩
theorem yJ0 (k:Int) w:Calls prog 145 #[xi k] w λe w'=>e=.returned (xi (yCc k))/\w'=w:=by
 by_cases h15:k=15
 .subst h15;go_enter func145,ntmps145;go_wp2;go_ret;exact⟨rfl,rfl⟩
 by_cases h14:k=14
 .subst h14;go_enter func145,ntmps145;go_wp2;go_ret;exact⟨rfl,rfl⟩
 have a1:(k==14)=false:=by simpa using h14
 have a0:(k==15)=false:=by simpa using h15
 have H:Hid (yCc k=3):=by show yCc k=3;unfold yCc;rw[if_neg h15,if_neg h14]
 go_enter func145,ntmps145;go_wp2;go_ret;exact⟨by rw[H.out];rfl,rfl⟩
theorem yLi (op:Int) (i:Nat) (kid:Int) w (hop:¬op=16):Calls prog 93 #[xi op,xi i,xi kid] w λe w'=>e=.returned (yCf op i kid)/\w'=w:=by
 have a0:(op==16)=false:=by simpa using hop
 by_cases hi:i=0
 .subst hi;have HL:Hid (yCf op 0 kid=decide (yCc kid<yCc op)):=by show yCf op 0 kid=_;unfold yCf;simp[hop]
  exact xF8
 .have zi:((i:Int)==0)=false:=by simpa using hi
  have HL:Hid (yCf op i kid=decide (yCc kid<=yCc op)):=by show yCf op i kid=_;unfold yCf;simp[hop,hi]
  exact xF8
structure Win (w:World) (b off cap:Nat) (xs:List Nd):Prop where
 at_:yH1 w b off xs
 lt:b<w.heap.size
 len:xs.length<=cap
 cap:cap<=9223372036854775807
 sm:xs.length<=281474976710656
variable {w':World} {b cap:Nat} {xs:List Nd}
theorem Win.below {off:Nat} (h:Win w b off cap xs) (hb:Below w w w'):Win w' b off cap xs:=
 ⟨h.at_.below hb h.lt,qv hb.size h.lt,h.len,h.cap,h.sm⟩
variable {i:Nat} {e:Nd}
theorem Win.kind {off:Nat} (h:Win w b off cap xs) (he:xs[i]?=some e):(xk w b (off+i*7) (xi e.kind):Prop):=(h.at_ i e he).1
theorem yMi {off:Nat} (h:Win w b off cap (xs++ [e])):Calls prog 91 #[.slice (some ⟨b,off,none⟩) (xs.length+1) cap] w λr w'=>r=.returned (xi e.kind)/\w'=w:=by have hk:=h.kind (i:=xs.length) (e:=e) (by simp);obtain⟨n,hn⟩:=qE xs.length;have h1:=h.len;have h2:=h.cap;rw[length_append,length_singleton]at h1;rw[<-hn]at hk h1⊢;clear h hn;go_enter func91,ntmps91;go_wp2;go_ret;exact⟨rfl,rfl⟩
def yVl (xs:List Nd) (w:World) (r:Ending) (w':World):Prop:=w'=w/\((∃i:Nat,r=.returned (xi i)/\i<=xs.length/\IsT 1 (xs.drop i))∨(r=.returned (xi (-1))/\∀j,j<=xs.length->¬IsT 1 (xs.drop j)))
theorem yJ1 {off:Nat} (h:Win w b off cap xs):Calls prog 90 #[.slice (some ⟨b,off,none⟩) xs.length cap] w (yVl xs w):=by
 have HW:=qH1 h;have h1:=h.len;have h2:=h.cap;have h3:=h.sm;obtain⟨n,hn⟩:=qE xs.length;have HN:=qH1 hn;rw[<-hn]at h1 h3⊢;clear h hn;go_enter func90,ntmps90;go_wp2;go_loopw[3,4] (λnv iv wr=>∃(i m:Nat),iv=(xi i)/\nv=(xi m)/\i<=n/\m<=1+3*(n-i)/\Sc m (xs.drop i)/\wr=w) (λ_ iv _=>(intOf iv).toNat);case atStart=>exact⟨n,1,rfl,rfl,Nat.le_refl _,qo,by rw[HN.out,drop_length];exact .nil,rfl⟩
 case round=>
  obtain⟨i,m,rfl,rfl,hi,hm,hS,rfl⟩:=hrel;have HS:=qH1 hS;clear hS;by_cases hm0:m=0
  .subst hm0;go_wp2;go_ret;refine⟨rfl,.inl ⟨i,rfl,qw HN.out,?_⟩⟩;have:=HS.tree (pre:= []);exact this.1 .nil
  .obtain⟨m',rfl⟩:∃m',m=m'+1:=⟨m-1,qo⟩;have zm:(0:Int)<(m':Int)+1:=qo
   by_cases hi0:i=0
   .subst hi0;go_wp2;go_ret;exact⟨rfl,.inr ⟨rfl,λj hj=>xEg HS.out j (zero_le _) hj⟩⟩
   .obtain⟨i',rfl⟩:∃i',i=i'+1:=⟨i-1,qo⟩;obtain⟨e,he⟩:∃e,xs[i']?=some e:=qg (qw HN.out);have hk:=HW.kind he;have a0:i'<xs.length:=qw HN.out
    have a2:Hid (Sc (m'+yA0 e.kind) (xs.drop i')):=by show Sc _ _;rw[drop_eq_getElem_cons a0,show xs[i']=e from Option.some.inj ((getElem?_eq_getElem a0).symm.trans he)];exact .cons e HS.out
    have ha:=yI3 e.kind;have zi:¬(i':Int)<0:=qo
    clear he a0;go_wp2_with fail;refine(yId e.kind _).mono ?_;rintro r w2 ⟨rfl,a1⟩;rw[a1];clear a1;go_wp2;go_roundw;case rel=>exact⟨i',m'+yA0 e.kind,by go_num,by go_num,qo,qo,a2.out,by first|rfl|trivial⟩
    case measure=>simp[intOf]<;>omega
theorem yS6 {off:Nat} (h:Win w b off cap xs):Calls prog 41 #[.slice (some ⟨b,off,none⟩) xs.length cap] w λr w'=>w'=w/\((r=.returned true/\IsT 1 xs)∨(r=.returned false/\¬IsT 1 xs)):=by
 have HW:=qH1 h;have h1:=h.len;have h2:=h.cap;have h3:=h.sm;obtain⟨n,hn⟩:=qE xs.length;have HN:=qH1 hn;have HF:Hid (Calls prog 90 #[.slice (some ⟨b,off,none⟩) n cap] w (yVl xs w)):=by rw[hn];exact yJ1 h
 rw[<-hn]at h1 h3⊢;clear h hn;by_cases hn0:n=0
 .subst hn0;have HE:Hid (¬IsT 1 xs):=λq=>qv q.len HN.out
  go_enter func41,ntmps41;go_wp2;go_ret;exact⟨rfl,.inr ⟨rfl,HE.out⟩⟩
 .have zn:(0:Int)<(n:Int):=qo
  go_enter func41,ntmps41;go_wp2_with fail;refine HF.mono ?_;rintro r w2 ⟨a0,(⟨i,rfl,hi,hT⟩|⟨rfl,hT⟩)⟩
  .rw[a0];clear a0;have HT:=qH2 hi hT;clear hi hT;by_cases hi0:i=0
   .subst hi0;go_wp2;go_ret;exact⟨rfl,.inl ⟨rfl,by simpa using HT.2⟩⟩
   .have zi:((i:Int)==0)=false:=by simpa using hi0
    go_wp2;go_ret;refine⟨rfl,.inr ⟨rfl,λq=>hi0 ?_⟩⟩;exact(yM1 (xs:=xs) (i:=0) (j:=i) (by simpa using q) HT.2 (zero_le _) HT.1).symm
  .rw[a0];clear a0;have HT:Hid (¬IsT 1 xs):=λq=>hT 0 (zero_le _) (by simpa using q);clear hT;go_wp2;go_ret;exact⟨rfl,.inr ⟨rfl,HT.out⟩⟩
def OwnV (w:World) (base g cp:Nat) (us:List Value):Prop:=w.ownsRow base 23 1 (xg g us.length cp) us.length us
variable {cp:Nat} {us:List Value}
theorem OwnV.lt {g:Nat} (h:OwnV w base g cp us):base<=g/\g<w.heap.size:=World.ownsRow.lt h g rfl
theorem OwnV.below {g:Nat} (h:OwnV w base g cp us) (hb:Below w w w'):OwnV w' base g cp us:=yAh h (Chg.of_below hb) (S:=λ_=>False) (λk q z=>z)
variable {j:Nat}
theorem OwnV.cell {g:Nat} (h:OwnV w base g cp us) {v:Value} (hv:us[j]?=some v):(xk w g j v:Prop):=by have hj:=qf hv;rw[World.ownsRow.cellAt h j qo,hv]
theorem OwnV.caps {g:Nat} (h:OwnV w base g cp us):us.length<=cp/\cp<=maxLen:=by exact yMx
theorem xBk (w:World) (hb:base<=w.heap.size):OwnV (xw w #[] 23) base w 0 []:=
 World.ownsRow_made w #[] 0 hb (zero_le _) (by simp)
theorem xBj (w:World) (hb:base<=w.heap.size) (v:Value):OwnV (xw w #[v] 23) base w 1 [v]:=
 World.ownsRow_lit w #[v] 1 hb qj rfl
theorem Tryz.infoNds:(prog.info? 23).map (λi=>(i.zero,i.size,i.bytes))=some (some (.slice none 0 0),1,24):=qk
variable {rest:List Oper}
theorem yHa {ops:Array Oper} {oo:Oper} {a:Act} {Q:Exit->Act->World->Prop} (w:World) (hgd:oo.guard=none) s x
  (ho:oo.op=.call {callee:=.builtin .append,args:=#[s,x],argTypes:=#[161,161]})
  (base gq cp n b m cx:Nat) (us vs:List Value) (hs:a.eval s=(xg gq n cp)) (hx:a.eval x=.slice (some ⟨b,0,none⟩) m cx) (hn:n=us.length) (hm:m=vs.length) (hO:OwnV w base gq cp us)
  (hc:∀(j:Nat) v,vs[j]?=some v->w.cell? (xd b j)=some v) (hy:∀v∈vs,v.oneCell'=true) (hlen:us.length+vs.length<=1000) (hbase:base<=w.heap.size)
  (h:∀g' cp' w',OwnV w' base g' cp' (us++vs)->w.grownBy w' (some gq)->(g'=gq∨g'=w.heap.size)->wpList prog ops Q rest (a.put oo.dst (.slice (some ⟨g',0,none⟩) (n+m) cp')) w'):wpList prog ops Q (oo::rest) a w:=by
 subst hn hm;obtain⟨i,hi,a4,a3,a2⟩:=info_parts Tryz.infoNds;refine wpList_append_own_at w hgd s x 161 ho base 23 i _ 1 24 underlying161 hi a4 a3 a2 rfl qj (xg gq us.length cp) us.length us hs hO (xd b 0) vs.length cx vs hx (by simp) ?_ hy ?_ ?_ hbase ?_
 .intro j u hu;rw[Addr.add_mid,Nat.zero_add];exact hc j u hu
 .unfold maxLen;omega
 .omega
 .intro v' w' a1 a6 a5 a0;rcases a1.2 with⟨h0,_⟩|⟨g',a7,cur,hv,_,_,hn,a8,_,_⟩
  .have:=(a5.1 h0).1;cases this
  .subst hv;refine h g' a7 w' ?_ a6 ?_
   .unfold OwnV;rw[length_append];exact a1
   .simp[Value.ownBlock]at a0;exact a0
def yJ3 (b:Nat):Nat->Nat->List (List Nd)->List Value
 |_,_,[]=> []
 |o,cap,k::ks=>.slice (some ⟨b,o,none⟩) k.length cap::yJ3 b (o+k.length*7) (cap-k.length) ks
theorem yJ2 (b:Nat):∀(o cap:Nat) (ks:List (List Nd)),(yJ3 b o cap ks).length=ks.length
 |_,_,[]=>rfl
 |o,cap,k::ks=>by simp[yJ3,yJ2]
theorem yQe (b:Nat):∀(o cap:Nat) (ks:List (List Nd)),∀v∈yJ3 b o cap ks,v.oneCell'=true
 |_,_,[],v,h=>by cases h
 |o,cap,k::ks,v,h=>by
  rcases mem_cons.1 h with rfl|h
  .rfl
  .exact yQe b _ _ ks v h
theorem yH1.part {o:Nat} {ys:List Nd} (h:yH1 w b o (xs++ys)):yH1 w b o xs/\yH1 w b (o+xs.length*7) ys:=by refine⟨λi e he=>h i e (by rw[getElem?_append_left (qf he)];exact he),λi e he=>?_⟩;have:=h (xs.length+i) e (by rw[getElem?_append_right qo,Nat.add_sub_cancel_left];exact he);rw[Nat.add_mul,<-Nat.add_assoc]at this;exact this
theorem yQf:∀{ks:List (List Nd)} {o cap:Nat} {rest:List Nd},Win w b o cap (ks.flatten++rest)->∀{j:Nat} {k:List Nd},ks[j]?=some k->∃o' cap',(yJ3 b o cap ks)[j]?=some (.slice (some ⟨b,o',none⟩) k.length cap')/\Win w b o' cap' k
 | [],_,_,_,_,j,k,h=>by simp at h
 |a::ks,o,cap,rest,hW,j,k,h=>by
  simp only[flatten_cons,append_assoc]at hW
  have hp:=hW.at_.part
  have hl:=hW.len
  have hc:=hW.cap
  have hs:=hW.sm
  simp only[length_append]at hl hs
  cases j with
  |zero=>
   simp at h
   subst h
   exact⟨o,cap,rfl,hp.1,hW.lt,qo,hc,qo⟩
  |succ j=>
   simp at h
   exact yQf (ks:=ks) (o:=o+a.length*7) (cap:=cap-a.length) (rest:=rest) ⟨hp.2,hW.lt,by simp only[length_append];omega,qo,by simp only[length_append];omega⟩ h
structure KiJ (w:World) (b o cap:Nat) (pre suf:List (List Nd)) (g cp:Nat) (wr:World):Prop where
 own:OwnV wr w g cp (yJ3 b (o+pre.flatten.length*7) (cap-pre.flatten.length) suf)
 below:Below w w wr
variable {ks:List (List Nd)}
theorem yS9 {o:Nat} (h:Win w b o cap (ks.flatten++ [e])) (hk:ks.length=yA0 e.kind) (hT:∀k∈ks,IsT 1 k):
  Calls prog 92 #[.slice (some ⟨b,o,none⟩) (ks.flatten.length+1) cap] w λr w'=>∃g cp,r=.returned (xg g ks.length cp)/\OwnV w' w g cp (yJ3 b o cap ks)/\Below w w w':=by
 have HW:=qH2 h hT;have ab:=h.kind (i:=ks.flatten.length) (e:=e) (by simp);have h1:=h.len;have h2:=h.cap;have h3:=h.sm;obtain⟨n,hn⟩:=qE ks.flatten.length;have HN:=qH1 hn;rw[length_append,length_singleton]at h1 h3;rw[<-hn]at ab h1 h3⊢;have ha:=yI3 e.kind;have HA:=qH1 hk;obtain⟨W0,af⟩:=qW (xw w #[] 23);have ah:Hid (KiJ w b o cap ks [] w 0 W0):=by rw[af];exact⟨xBk w qr,qB⟩
 have av:(xk W0 b (o+n*7) (xi e.kind):Prop):=by rw[(Chg.of_below ah.below (S:=λ_=>False)).cell (p:=(xd b (o+n*7))) h.lt (λq=>q)];exact ab
 obtain⟨a,a5⟩:=qE (yA0 e.kind);have aq:Hid (Calls prog 144 #[xi e.kind] W0 λr w'=>r=.returned (xi a)/\w'=W0):=by rw[a5];exact yId e.kind W0
 have ay:Hid (ks.length=a):=by rw[a5];exact hk
 rw[hk,<-a5];rw[<-a5]at ha;clear h hn hT hk ab HA a5;go_enter func92,ntmps92;go_upto_region 3 with fail;rw[<-af];clear af;go_wp2_with fail;refine aq.mono ?_;rintro r w1 ⟨rfl,aj⟩;rw[aj];clear aj av aq;go_wp2;go_loopw[3,4,5] (λrv ov kv wr=>∃(c m g cp:Nat) (pre suf:List (List Nd)),ks=pre++suf/\pre.length=c/\suf.length+c=a/\m=pre.flatten.length/\m<=n/\kv=(xi c)/\rv=.slice (some ⟨b,o,none⟩) m cap/\ov=(xg g suf.length cp)/\KiJ w b o cap pre suf g cp wr) (λ_ _ kv _=>(intOf kv).toNat);case atStart=>exact⟨a,n,_,0,ks,[],by simp,ay.out,by simp,HN.out,Nat.le_refl _,rfl,rfl,rfl,ah.out⟩
 case round=>
  obtain⟨c,m,g,cp,pre,suf,an,al,ar,hm,aA,rfl,rfl,rfl,hJ⟩:=hrel;have HJ:=qH4 hJ an hm al;have aC:=hJ.own.lt;have ak:=hJ.below.size;clear hJ an hm al ah;obtain⟨q,hq⟩:=qE suf.length;have HQ:=qH1 hq;rw[<-hq]at ar⊢;clear hq;by_cases hc0:c=0
  .subst hc0;have HF:=qH2 (length_eq_zero_iff.1 HJ.2.2.2) (by omega:q=a);go_wp2;go_ret;have hp:=HF.1;have hj:=HJ.1.own;have hs:=HJ.2.1;rw[hp]at hj hs;simp at hj hs;refine⟨g,cp,by rw[<-HF.2];rfl,by rw[hs];exact hj,HJ.1.below⟩
  .obtain⟨c',rfl⟩:∃c',c=c'+1:=⟨c-1,qo⟩;have zc:(0:Int)<(c':Int)+1:=qo
   obtain⟨a0,k,a1⟩:∃a0 k,pre=a0++ [k]:=by
    rcases eq_nil_or_concat pre with h|⟨p',k,h⟩
    .have:=HJ.2.2.2;rw[h]at this;simp at this
    .exact⟨p',k,by rw[h,concat_eq_append]⟩
   obtain⟨m',a2⟩:=qE a0.flatten.length;have am:m=m'+k.length:=by rw[HJ.2.2.1,a1,a2];simp
   have a3:=HW.2 k (by rw[HJ.2.1,a1];simp);have aw:=a3.len;have ai:Win wr b o cap pre.flatten:=by have hw:=HW.1;rw[HJ.2.1]at hw;simp only[flatten_append,append_assoc]at hw;have h8:=hw.len;have h9:=hw.sm;simp only[length_append]at h8 h9;exact Win.below ⟨hw.at_.part.1,hw.lt,qo,hw.cap,qo⟩ HJ.1.below
   have HC:Hid (Calls prog 90 #[.slice (some ⟨b,o,none⟩) m cap] wr λr w'=>r=.returned (xi m')/\w'=wr):=by
    have hf:=yJ1 ai;rw[<-HJ.2.2.1]at hf;refine hf.mono ?_;have ad:pre.flatten.drop m'=k:=by rw[a1,a2];simp
    rintro r w2 ⟨a8,(⟨i,rfl,hi,a9⟩|⟨rfl,a9⟩)⟩
    .refine⟨?_,a8⟩;have au:m'<=pre.flatten.length:=by rw[a1,a2];simp
     have:i=m':=by
      rcases Nat.le_total i m' with aa|aa
      .exact yM1 a9 (by rw[ad];exact a3) aa au
      .exact(yM1 (by rw[ad];exact a3) a9 aa hi).symm
     rw[this]
    .exact absurd (by rw[ad];exact a3) (a9 m' (by rw[a1,a2];simp))
   have HP:=qH4 a1 a2 a3 am;have aB:m'<=m:=qo
   have z1:(m':Int)<=(m:Int):=qo
   have z2:(m:Int)<=(cap:Int):=qo
   have z3:(m':Int)<=(cap:Int):=qo
   clear ai a3 a1 a2 am aw;go_wp2_with fail;refine HC.mono ?_;rintro r w2 ⟨rfl,a8⟩;rw[a8];clear a8 HC;obtain⟨W5,a4⟩:=qW (xw wr #[.slice (some ⟨b,o+m'*7,none⟩) (m-m') (cap-m')] 23);have ae:=qN a4
   have az:=qS a4
   have ag:Hid (OwnV W5 w wr 1 [.slice (some ⟨b,o+m'*7,none⟩) (m-m') (cap-m')]/\OwnV W5 w g cp (yJ3 b (o+pre.flatten.length*7) (cap-pre.flatten.length) suf)/\Below w w W5):=by refine⟨?_,HJ.1.own.below ae,HJ.1.below.trans (ae.mono ak)⟩;rw[a4];exact xBj wr ak _
   go_wp2_with (at_builtin;rw[<-a4];refine yHa _ rfl _ _ rfl w wr 1 1 g q cp [.slice (some ⟨b,o+m'*7,none⟩) (m-m') (cap-m')] (yJ3 b (o+pre.flatten.length*7) (cap-pre.flatten.length) suf) rfl rfl rfl ?hm ?hO ?hc ?hy ?hl ?hb ?_);case hm=>rw[yJ2];exact HQ.out
   case hO=>exact ag.1
   case hc=>exact λj v hv=>ag.2.1.cell hv
   case hy=>exact yQe _ _ _ _
   case hl=>rw[yJ2,<-HQ.out];simp;omega
   case hb=>omega
   intro g' ao w' a6 ac ax;rw[<-a4]at ac;have a7:Hid (KiJ w b o cap a0 (k::suf) g' ao w'/\ks=a0++(k::suf)/\a0.length=c'/\(k::suf).length=q+1):=by
    have hP:=HP.out;refine⟨⟨?_,ag.2.2.grown ac qo (λj hj=>by cases hj;omega)⟩,by rw[HJ.2.1,hP.1];simp,?_,by rw[HQ.out];rfl⟩
    .have e1:(List.map List.length pre).sum=m'+k.length:=by rw[<-length_flatten,<-HJ.2.2.1];exact hP.2.2.2
     rw[e1]at a6;have e2:m-m'=k.length:=qo
     rw[e2]at a6;have e3:o+(m'+k.length)*7=o+m'*7+k.length*7:=qo
     have e4:cap-(m'+k.length)=cap-m'-k.length:=qo
     rw[e3,e4]at a6;rw[<-hP.2.1];exact a6
    .have:=HJ.2.2.2;rw[hP.1]at this;simpa using this
   clear a6 ac ax a4 ae;go_wp2;go_roundw;case rel=>exact⟨c',m',g',ao,a0,k::suf,a7.2.1,a7.2.2.1,qw a7.2.2.2,HP.2.1,qo,by go_num,rfl,by rw[a7.2.2.2];go_num,a7.1⟩
   case measure=>simp[intOf]<;>omega
section
variable (G:Nd->Bool)
def xF0 (n:Nat):Prop:=∀(w:World) (b o cap:Nat) (xs:List Nd) (s:yA1),xs.length<=n->Win w b o cap xs->ShT G [s] xs->(xf 42 #[.slice (some ⟨b,o,none⟩) xs.length cap] w (xi s.nest):Prop)
theorem yN0 (op:Int) {os:List yA1} {a:Nat} {o:yA1} (h:os[j]?=some o):yA2 op j a (os.drop j)=yA2 op (j+1) (max a (o.nest+if yCf op j o.kind then 1 else 0)) (os.drop (j+1)):=by exact xF5
structure NeJ (w:World) (b o cap:Nat) (ks:List (List Nd)) (g cp:Nat) (wr:World):Prop where
 own:OwnV wr w g cp (yJ3 b o cap ks)
 below:Below w w wr
variable {o:Nat}
theorem NeJ.move {g:Nat} {wr:World} (h:NeJ w b o cap ks g cp wr) (hb:Below wr wr w'):NeJ w b o cap ks g cp w':=⟨h.own.below hb,h.below.trans (hb.mono h.below.size)⟩
variable {n:Nat}
theorem xE6 (H:xF0 G n):xF0 G (n+1):=by
 intro w b o cap xs s hn hW hS;obtain⟨ys,e,os,rfl,ax,ak,hs⟩:=ShT.inv G hS;obtain⟨ks,rfl,hK⟩:=ShT.kids G ak;have ad:=Kids.length G hK;have HF:=qH6 hW hK hs ad (by simp at hn;rw[length_flatten];omega:ks.flatten.length<=n) H;have au:=yI3 e.kind;obtain⟨a3,a5⟩:=qE ks.length;have HA:=qH1 a5;have aB:a3<=3:=qo
 have aC:=hW.cap;have ar:ks.flatten.length+1<=281474976710656:=by have:=hW.sm;rw[length_append,length_singleton]at this;exact this
 have aw:ks.flatten.length+1<=cap:=by have:=hW.len;rw[length_append,length_singleton]at this;exact this
 have HT:=qH1 (yMi hW);have aa:Hid (Calls prog 92 #[.slice (some ⟨b,o,none⟩) (ks.flatten.length+1) cap] w λr w'=>∃g cp,r=.returned (xg g a3 cp)/\OwnV w' w g cp (yJ3 b o cap ks)/\Below w w w'):=by rw[a5];exact yS9 hW qo (Kids.tree G hK)
 have HB:Hid (∀o∈os,o.nest<=281474976710656):=λo' ho=>by obtain⟨k,hk,h3⟩:=yTc G hK ho;have h4:=yIx hk;have h5:=yNz G _ qr h3;omega
 have ao:Hid (yA2 e.kind 0 0 os=s.nest):=by show _=_;rw[hs];rfl
 rw[length_append,length_singleton];obtain⟨m,hm⟩:=qE ks.flatten.length;rw[<-hm]at HT aa aw ar⊢;obtain⟨sn,a2⟩:=qE s.nest;have an:Hid (yA2 e.kind 0 0 os=sn):=by rw[a2];exact ao
 rw[<-a2];clear hW hS ak hK hs ax ad H a5 hm hn a2 ao au;go_enter func42,ntmps42;go_wp2_with fail;refine HT.mono ?_;rintro r w1 ⟨rfl,ac⟩;rw[ac];clear ac HT;go_wp2_with fail;refine aa.mono ?_;rintro r w1 ⟨g,cp,rfl,hO,ai⟩;have al:Hid (NeJ w b o cap ks g cp w1):=⟨hO,ai⟩;clear hO ai aa;go_wp2;go_loopw[5,6] (λmv iv wr=>∃(j a:Nat),iv=(xi j)/\mv=(xi a)/\j<=a3/\a<=999999999999999/\yA2 e.kind j a (os.drop j)=sn/\NeJ w b o cap ks g cp wr) (λ_ iv _=>a3-(intOf iv).toNat);case atStart=>exact⟨0,0,rfl,rfl,zero_le _,qo,an.out,al.out⟩
 case round=>
  obtain⟨j,a,rfl,rfl,hj,ha,hN,hJ⟩:=hrel;have HJ:=qH2 hN hJ;have av:=hJ.own.lt;have az:=hJ.below.size;clear hN hJ al an;by_cases hlt:j<a3
  .have zj:(j:Int)<(a3:Int):=qo
   obtain⟨k,hk⟩:∃k,ks[j]?=some k:=qg (qw HA.out);obtain⟨os1,a4,a7⟩:=Kids.nth G HF.2.1 hk;obtain⟨o',a8,hv,aj⟩:=yQf HF.1 hk;have hc:=HJ.2.own.cell hv;have af:k.length<=n:=qv (yIx (mem_of_getElem? hk)) HF.2.2.2.2.1
   have a6:=aj.below HJ.2.below;have ab:=qH1 (HF.2.2.2.2.2 wr b o' a8 k os1 af a6 a7);obtain⟨ky,ke,ko,rfl,_,_,ae⟩:=ShT.inv G a7;have ah:os1.kind=ke.kind:=by rw[ae];rfl
   have a9:Hid (∀w2,Below wr wr w2->Calls prog 91 #[.slice (some ⟨b,o',none⟩) (ky++ [ke]).length a8] w2 λr w'=>r=.returned (xi os1.kind)/\w'=w2):=λw2 hb2=>by have:=yMi (a6.below hb2);rw[length_append,length_singleton,ah];exact this
   have aA:=HB.out os1 (mem_of_getElem? a4);have ay:Hid (yA2 e.kind (j+1) (max a (os1.nest+if yCf e.kind j os1.kind then 1 else 0)) (os.drop (j+1))=sn):=by show _=_;rw[<-yN0 e.kind a4];exact HJ.1
   obtain⟨kl,ag⟩:=qE ((ky++ [ke]).length);rw[<-ag]at hc ab a9;clear hk a4 a7 hv aj af a6 ae ah ag;go_wp2_with fail;refine ab.mono ?_;rintro r w2 ⟨rfl,hb2⟩;have HJ2:=qH1 (HJ.2.move hb2);have hc2:(xk w2 g j (.slice (some ⟨b,o',none⟩) kl a8):Prop):=by rw[(Chg.of_below hb2 (S:=λ_=>False)).cell (p:=(xd g j)) av.2 (λq=>q)];exact hc
   have am:=qH1 (a9.out w2 hb2);clear hc hb2 a9 ab;have fin:∀(x:Nat),x=os1.nest+(if yCf e.kind j os1.kind then 1 else 0)->x<=281474976710657->Hid (∀y:Nat,y=max a x->yA2 e.kind (j+1) y (os.drop (j+1))=sn):=λx hx _ y hy=>by rw[hy,hx];exact ay.out
   by_cases h16:e.kind=16
   .have a0:yCf e.kind j os1.kind=true:=by unfold yCf;rw[h16];rfl
    rw[a0]at fin;have HFin:=fin (os1.nest+1) rfl qo;have aq:(e.kind==16)=true:=by simpa using h16
    clear fin a0 h16;exact xGu
   .have aq:(e.kind==16)=false:=by simpa using h16
    go_wp2_with fail;refine am.mono ?_;rintro r w3 ⟨rfl,a1⟩;rw[a1];clear a1 am;go_wp2_with fail;refine(yLi e.kind j os1.kind _ h16).mono ?_;rintro r w3 ⟨rfl,a1⟩;rw[a1];clear a1;cases a0:yCf e.kind j os1.kind
    .rw[a0]at fin;have HFin:=fin os1.nest rfl qo;clear fin a0;by_cases hgt:a<os1.nest
     .have zg:(a:Int)<(os1.nest:Int):=qo
      refine zY ?_;exact⟨j+1,os1.nest,by go_num,rfl,qo,qo,HFin.out _ qo,HJ2.out⟩
     .have zg:¬(a:Int)<(os1.nest:Int):=qo
      refine zY ?_;exact⟨j+1,a,by go_num,rfl,qo,qo,HFin.out _ qo,HJ2.out⟩
    .rw[a0]at fin;have HFin:=fin (os1.nest+1) rfl qo;clear fin a0;exact xGu
  .have zj:¬(j:Int)<(a3:Int):=qo
   have hd:a=sn:=by have:=HJ.1;rw[drop_eq_nil_of_le (qv HA.out HF.2.2.2.1)]at this;exact this
   subst hd;go_wp2;go_ret;exact⟨rfl,HJ.2.below⟩
theorem yU3:∀n,xF0 G n
 |0=>λw b o cap xs s hn hW hS=>by
  obtain⟨ys,e,os,rfl,_⟩:=ShT.inv G hS
  simp at hn
 |n+1=>xE6 G (yU3 n)
end
theorem Tryz.cellsNd:prog.cellsOf 262=7:=qk
theorem xHy {α:Type} {cs:List α} (h:cs.length=7):∃c0 c1 c2 c3 c4 c5 c6,cs= [c0,c1,c2,c3,c4,c5,c6]:=by
 match cs,h with
 | [c0,c1,c2,c3,c4,c5,c6],_=>exact⟨c0,c1,c2,c3,c4,c5,c6,rfl⟩
variable {fuel:Nat}
theorem yWh {H:Type} {enc:TypeId×Value->H} {spare:Nat->Bool} {held:Bool} {cs:List Value} {x:DataW H×List MemPlace}
  (h:DataW.trod enc prog w base spare held fuel 262 cs=some x):∃e:Nd,e.ok/\cs=e.seven:=by
 obtain⟨xs,n,_,_,hl,a7,hf⟩:=DataW.trod_struct underlying262 h;rw[Tryz.cellsNd]at hl;obtain⟨c0,c1,c2,c3,c4,c5,c6,rfl⟩:=xHy hl;obtain⟨x0,x1,x2,x3,x4,x5,x6,rfl⟩:=xHy (cs:=xs) a7;have h0:=hf 0 _ rfl;have h1:=hf 1 _ rfl;have h2:=hf 2 _ rfl;have h3:=hf 3 _ rfl;have h4:=hf 4 _ rfl;have h5:=hf 5 _ rfl;have h6:=hf 6 _ rfl;simp[Tryz.cellsStr,Tryz.cellsU64,Tryz.cellsI64,Tryz.cellsBool]at h0 h1 h2 h3 h4 h5 h6;obtain⟨a0,e0,_,b0⟩:=DataW.trod_int underlying2 h0;obtain⟨a1,e1,_,b1⟩:=DataW.trod_string underlying9 h1;obtain⟨a2,e2,_⟩:=DataW.trod_bool underlying4 h2;obtain⟨a3,e3,_,b3⟩:=DataW.trod_string underlying9 h3;obtain⟨a4,e4,_,b4⟩:=DataW.trod_int underlying68 h4;obtain⟨a5,e5,_,b5⟩:=DataW.trod_int underlying68 h5;obtain⟨a6,e6,_,b6⟩:=DataW.trod_int underlying2 h6;simp only[List.cons.injEq,and_true]at e0 e1 e2 e3 e4 e5 e6;exact⟨⟨a0,a1,a2,a3,a4,a5,a6⟩,⟨b1,b3,b0,b4,b5,b6⟩,by rw[e0,e1,e2,e3,e4,e5,e6]⟩
def xAi (w:World) (v:Value) (es:List Nd):Prop:=
 (∃a cap,v=.slice a 0 cap/\es= [])∨
 ∃b off cap,v=.slice (some ⟨b,off,none⟩) es.length cap/\yH1 w b off es/\b<w.heap.size/\es.length<=cap/\cap<=maxLen
variable {B:Nat}
theorem xAi.below {v:Value} {es:List Nd} (h:xAi w v es) (hb:Below B w w') (hB:w.heap.size<=B):xAi w' v es:=by exact xAq
variable {n:Nat}
theorem xAi.own {g:Nat} {es:List Nd} (h:yC7 w base g cap es) (hn:n=es.length):xAi w (xg g n cap) es:=by subst hn;exact .inr ⟨g,0,cap,rfl,h.at,h.lt.2,h.caps.1,h.caps.2⟩
open Classical in
noncomputable def goodB (e:Nd):Bool:=decide (yCb e)
theorem yKc e:goodB e=true↔yCb e:=by unfold goodB;simp
def yFk (xs:List Nd):Prop:=xs.length<=200/\∃s,ShT goodB [s] xs/\s.valid=true/\s.nest<=20
theorem yF (h:yFk xs):∀e∈xs,yCb e:=by obtain⟨_,s,hs,hv,_⟩:=h;have:=ShT.valid goodB hs;simp[hv]at this;exact λe he=>(yKc e).1 (this e he)
theorem xD {s t:yA1} (h:ShT goodB [s] xs) (k:ShT goodB [t] xs):s=t:=by have a:=ShT.fold goodB h [];have b:=ShT.fold goodB k [];rw[a]at b;simpa using b
def yOz (xs:List Nd) (w:World) (r:Ending) (w':World):Prop:=∃b,r=.returned (.bool b)/\(b=true↔yFk xs)/\Below w w w'
structure WdN (w:World) (g o cp:Nat) (xs:List Nd):Prop where
 nds:yH1 w g o xs
 lt:g<w.heap.size
 caps:xs.length<=cp/\cp<=maxLen
variable {o:Nat}
theorem WdN.at {g:Nat} (h:WdN w g o cp xs):yH1 w g o xs:=h.nds
theorem WdN.below {g:Nat} (h:WdN w g o cp xs) (hb:Below B w w') (hg:g<B):WdN w' g o cp xs:=
 ⟨h.at.below hb hg,by have:=hb.size;have:=h.lt;omega,h.caps⟩
theorem yC7.wd {g:Nat} (h:yC7 w base g cp xs):WdN w g 0 cp xs:=⟨h.at,h.lt.2,h.caps⟩
theorem yLc {g:Nat} (h:WdN w g o cp xs) (hok:∀e∈xs,e.ok):Calls prog 8 #[.agg #[.slice (some ⟨g,o,none⟩) xs.length cp]] w (yOz xs w):=by
 have HO:=qH2 h hok;have hg:=h.lt;have a1:=h.caps;obtain⟨n,hn⟩:=qE xs.length;have HN:=qH1 hn;rw[<-hn]at a1⊢;unfold maxLen at a1;clear h hok hn;obtain⟨W0,a3⟩:=qE (xw w #[.slice (some ⟨g,o,none⟩) n cp] 25:World);have HW0:Hid (yA W0 w 25 1 w [.slice (some ⟨g,o,none⟩) n cp]/\Below w w W0):=by rw[a3];exact⟨yAa w _ qr rfl,qB⟩
 have c0:=HW0.1.cell (j:=0) rfl;have s0:=HW0.2.size;go_enter func8,ntmps8;go_upto_region 1 with fail;rw[<-a3];clear a3;by_cases hbig:200<n
 .exact xF7
 have zb:¬(200:Int)<(n:Int):=qo
 go_wp2_with fail;clear c0;go_loopw[3] (λiv wr=>∃(j:Nat),iv=(xi j)/\j<=n/\(∀e∈xs.take j,yCb e)/\yA wr w 25 1 w [.slice (some ⟨g,o,none⟩) n cp]/\Below w w wr) (λiv _=>n-(intOf iv).toNat);case atStart=>exact⟨0,rfl,zero_le _,by simp,HW0.out⟩
 case round=>
  obtain⟨j,rfl,hj,hG,hB,hb⟩:=hrel;have HJ:=qH3 hG hB hb;have c0:=hB.cell (j:=0) rfl;have sr:=hb.size;clear hG hB hb HW0;by_cases hlt:j<n
  .have zj:(j:Int)<(n:Int):=qo
   obtain⟨e,he⟩:∃e,xs[j]?=some e:=qg (by have:=HN.out;omega);obtain⟨d0,d1,d2,d3,d4,d5,d6⟩:=(HO.1.at.below HJ.2.2 hg) j e he;have ok:=HO.2 e (mem_of_getElem? he);have HE:=qH4 ok.s ok.t (mem_of_getElem? he) (by rw[take_add_one,he];rfl:xs.take (j+1)=xs.take j++ [e]);clear ok he;go_wp2_with fail;refine(yZo e wr HE.1 HE.2.1).mono ?_;rintro r w2 ⟨b,rfl,hb,hb2⟩;have HB:=qH1 hb;have a4:=qH2 (HJ.2.1.below hb2) (HJ.2.2.trans (hb2.mono sr));clear hb hb2 c0 d0 d1 d2 d3 d4 d5 d6;cases b
   .have HF:Hid (¬yFk xs):=λq=>by have:=HB.2 (yF q e HE.2.2.1);cases this
    exact zF a4.2
   .go_wp2_with fail;go_roundw;case rel=>
     refine⟨j+1,by go_num,qo,?_,a4.1,a4.2⟩;intro e' a5;rw[HE.2.2.2]at a5;rcases List.mem_append.1 a5 with h|h
     .exact HJ.1 e' h
     .simp at h;subst h;exact HB.1 (by first|rfl|trivial)
    case measure=>simp[intOf];omega
  .have zj:¬(j:Int)<(n:Int):=qo
   have HA:Hid (∀e∈xs,yCb e):=by have h1:=HJ.1;rw[take_of_length_le (by have:=HN.out;omega)]at h1;exact h1
   have a2:Win wr g o cp xs:=⟨HO.1.at.below HJ.2.2 hg,qo,by rw[<-HN.out];exact a1.1,qo,by have:=HN.out;omega⟩;have HT:Hid (Calls prog 41 #[.slice (some ⟨g,o,none⟩) n cp] wr λr w'=>w'=wr/\((r=.returned true/\IsT 1 xs)∨(r=.returned false/\¬IsT 1 xs))):=by rw[HN.out];exact yS6 a2
   have a8:Hid (∀s,ShT goodB [s] xs->(xf 42 #[.slice (some ⟨g,o,none⟩) n cp] wr (xi s.nest):Prop)):=λs hs=>by rw[HN.out];exact yU3 goodB xs.length wr g o cp xs s qr a2 hs
   clear a2;go_wp2_with fail;refine HT.mono ?_;rintro r w2 ⟨a0,(⟨rfl,hT⟩|⟨rfl,hT⟩)⟩
   .rw[a0];clear a0;obtain⟨ss,hl,hs⟩:=IsT.shapes goodB hT;obtain⟨s,rfl⟩:∃s,ss= [s]:=by
     match ss,hl with
     | [s],_=>exact⟨s,rfl⟩
    have a7:=qH1 hs;have HV:Hid (s.valid=true):=by show s.valid=true;have h1:=ShT.valid goodB hs;have h2:=all_eq_true.2 (λe he=>(yKc e).2 (HA.out e he));rw[h2]at h1;simpa using h1
    have HF:Hid (yFk xs↔s.nest<=20):=by
     show yFk xs↔_;constructor
     .rintro⟨_,t,ht,_,hn⟩;rw[xD hs ht];exact hn
     .intro hn;exact⟨by have:=HN.out;omega,s,hs,HV.out,hn⟩
    clear hT hl hs;go_wp2_with fail;refine(a8.out s a7.out).mono ?_;rintro r w3 ⟨rfl,a6⟩;have a9:=qH1 (HJ.2.2.trans (a6.mono sr));clear a6 c0;go_wp2_with fail;go_ret;exact⟨_,rfl,by rw[HF.out];simp<;>omega,a9.out⟩
   .rw[a0];clear a0;have HF:Hid (¬yFk xs):=λq=>by obtain⟨_,s,hs,_⟩:=q;exact hT hs.tree
    clear hT;exact zF HJ.2.2
theorem yJc {g:Nat} (h:yC7 w base g cp xs) (hok:∀e∈xs,e.ok) (hc:cp<=281474976710656):Calls prog 8 #[.agg #[xg g xs.length cp]] w (yOz xs w):=yLc h.wd hok
section
section
variable {T:Type} (V:Nd->List T->T)
inductive TrV:List T->List Nd->Prop
 |nil:TrV [] []
 |snoc {ss os:List T} {xs:List Nd} (n:Nd) (ho:os.length=yA0 n.kind) (h:TrV (ss++os) xs):TrV (ss++ [V n os]) (xs++ [n])
def xEf (st:List T) (n:Nd):Option (List T):=
 if st.length<yA0 n.kind then none else some (st.take (st.length-yA0 n.kind)++ [V n (st.drop (st.length-yA0 n.kind))])
def yQr (st:List T):List Nd->Option (List T)
 | []=>some st
 |n::ns=>(xEf V st n).bind λs=>yQr s ns
theorem yQq (st:List T) xs ys:yQr V st (xs++ys)=(yQr V st xs).bind (λs=>yQr V s ys):=by
 induction xs generalizing st with
 |nil=>rfl
 |cons x xs ih=>
  simp only[cons_append,yQr];cases xEf V st x with
  |none=>rfl
  |some s=>exact ih s
theorem TrV.tree {ss:List T} (h:TrV V ss xs):IsT ss.length xs:=by exact xF2
theorem TrV.fold {ss:List T} (h:TrV V ss xs):∀st,yQr V st xs=some (st++ss):=by
 induction h with
 |nil=>intro st;simp[yQr]
 | @snoc ss os xs n ho h ih=>
   intro st;rw[yQq,ih];simp only[Option.bind_some,yQr,xEf];rw[if_neg (by simp;omega)];have hl:(st++(ss++os)).length-yA0 n.kind=(st++ss).length:=by simp;omega
   rw[hl,<-append_assoc,take_left,drop_left,append_assoc];simp
theorem TrV.one {ss ts:List T} (h:TrV V ss xs) (k:TrV V ts xs):ss=ts:=by have a:=h.fold V [];have b:=k.fold V [];rw[a]at b;simpa using b
theorem TrV.split {ss:List T} (h:TrV V ss xs):∀{a b:List T},ss=a++b->∃ys zs,xs=ys++zs/\TrV V a ys/\TrV V b zs:=by
 induction h with
 |nil=>intro a b e;obtain⟨rfl,rfl⟩:a= []/\b= []:=by simpa using e.symm
       exact⟨[],[],rfl,.nil,.nil⟩
 | @snoc ss os xs n ho h ih=>
   intro a b e;rcases eq_nil_or_concat b with rfl|⟨b',z,rfl⟩
   .simp at e;subst e;exact⟨xs++ [n],[],by simp,.snoc n ho h,.nil⟩
   .rw[concat_eq_append,<-append_assoc]at e;have e2:=append_inj' e rfl;obtain⟨e3,e4⟩:=e2;simp at e4;subst e3 e4;obtain⟨ys,zs,rfl,h1,h2⟩:=ih (a:=a) (b:=b'++os) (by simp);refine⟨ys,zs++ [n],by simp,h1,?_⟩;rw[concat_eq_append];exact .snoc n ho h2
theorem TrV.inv {s:T} (h:TrV V [s] xs):∃ys n os,xs=ys++ [n]/\os.length=yA0 n.kind/\TrV V os ys/\s=V n os:=by exact xGh
inductive KidV:List T->List (List Nd)->Prop
 |nil:KidV [] []
 |cons {o:T} {os:List T} {k:List Nd} {ks:List (List Nd)} (h:TrV V [o] k) (t:KidV os ks):KidV (o::os) (k::ks)
theorem TrV.kids:∀{os:List T} {ys:List Nd},TrV V os ys->∃ks,ys=ks.flatten/\KidV V os ks
 | [],ys,h=>by
   have:=(TrV.tree V h).zero
   subst this
   exact⟨[],rfl,.nil⟩
 |o::os,ys,h=>by
  obtain⟨a,b,rfl,h1,h2⟩:=TrV.split V h (a:= [o]) (b:=os) rfl
  obtain⟨ks,rfl,hk⟩:=TrV.kids h2
  exact⟨a::ks,rfl,.cons h1 hk⟩
theorem KidV.length {os:List T} (h:KidV V os ks):os.length=ks.length:=by
 induction h with
 |nil=>rfl
 |cons _ _ ih=>simp[ih]
theorem KidV.tree {os:List T} (h:KidV V os ks):∀k∈ks,IsT 1 k:=by exact xC2
theorem KidV.nth {os:List T} (h:KidV V os ks):∀{j:Nat} {k:List Nd},ks[j]?=some k->∃o,os[j]?=some o/\TrV V [o] k:=by
 induction h with
 |nil=>intro j k hk;simp at hk
 |cons h1 _ ih=>
  intro j k hk;cases j with
  |zero=>simp at hk;subst hk;exact⟨_,rfl,h1⟩
  |succ j=>simp at hk;simpa using ih hk
end
end
section
section
variable {α:Type} {f:α->List Value} {sz:Nat}
theorem yCk (hf:∀x,(f x).length=sz) (es:List α):(es.flatMap f).length=es.length*sz:=by
 induction es with
 |nil=>simp
 |cons e es ih=>rw[flatMap_cons,length_append,ih,hf,length_cons,Nat.add_mul];omega
theorem yFb (hf:∀x,(f x).length=sz):∀(es:List α) (k:Nat) (e:α),es[k]?=some e->∀j,j<sz->(es.flatMap f)[k*sz+j]?=(f e)[j]?
 | [],k,e,h,j,hj=>by simp at h
 |a::es,0,e,h,j,hj=>by
  simp at h;subst h
  rw[flatMap_cons,getElem?_append_left (by rw[hf];omega)]
  simp
 |a::es,k+1,e,h,j,hj=>by
  simp at h
  rw[flatMap_cons,getElem?_append_right (by rw[hf,Nat.add_mul];omega),hf]
  rw[show(k+1)*sz+j-sz=k*sz+j by rw[Nat.add_mul];omega]
  exact yFb hf es k e h j hj
theorem yMk (hf:∀x,(f x).length=sz):∀(es:List α) (k:Nat),k<=es.length->(es.take k).flatMap f=(es.flatMap f).take (k*sz)
 |es,0,_=>by simp
 | [],k+1,h=>by simp at h
 |a::es,k+1,h=>by rw[take_succ_cons,flatMap_cons,flatMap_cons,yMk hf es k (by simpa using h),take_append,hf,take_of_length_le (l:=f a) (by rw[hf,Nat.add_mul];omega),show(k+1)*sz-sz=k*sz by rw[Nat.add_mul];omega]
def OwnG (f:α->List Value) (sz ty:Nat) (w:World) (base g cap:Nat) (es:List α):Prop:=w.ownsRow base ty sz (xg g es.length cap) es.length (es.flatMap f)
variable {ty:Nat}
theorem OwnG.cell (hf:∀x,(f x).length=sz) {g:Nat} {es:List α} (h:OwnG f sz ty w base g cap es) {e:α} (he:es[i]?=some e) (j:Nat) (hj:j<sz):w.cell? (xd g (i*sz+j))=(f e)[j]?:=by
 have hi:=qf he;have h1:i*sz+j<es.length*sz:=by have:(i+1)*sz<=es.length*sz:=mul_le_mul_right sz hi;rw[Nat.add_mul]at this;omega
 have:=(World.ownsRow.cellAt h (i*sz+j) h1).trans (yFb hf es i e he j hj);simpa using this
theorem OwnG.lt {g:Nat} {es:List α} (h:OwnG f sz ty w base g cap es):base<=g/\g<w.heap.size:=World.ownsRow.lt h g rfl
theorem OwnG.chg {S:Nat->Prop} {g:Nat} {es:List α} (h:OwnG f sz ty w base g cap es) (hc:Chg S w w') (hn:¬S g):OwnG f sz ty w' base g cap es:=yAh h hc (λk q=>by simp[Value.ownBlock]at q;subst q;exact hn)
theorem OwnG.below {g:Nat} {es:List α} (h:OwnG f sz ty w base g cap es) (hb:Below w w w'):OwnG f sz ty w' base g cap es:=h.chg (Chg.of_below hb) (S:=λ_=>False) (λq=>q)
theorem OwnG.mono {base' g:Nat} {es:List α} (h:OwnG f sz ty w base g cap es) (hb:base'<=base):OwnG f sz ty w base' g cap es:=by exact yO0
theorem OwnG.caps {g:Nat} {es:List α} (h:OwnG f sz ty w base g cap es):es.length<=cap/\cap<=maxLen:=by exact yMx
theorem OwnG.take (hf:∀x,(f x).length=sz) {g:Nat} {es:List α} (h:OwnG f sz ty w base g cap es) {k:Nat} (hk:k<=es.length):OwnG f sz ty w base g cap (es.take k):=by
 have hl:(es.take k).length=k:=by rw[length_take];omega
 rcases h.2 with⟨h0,_⟩|⟨g',a0,cur,hv,h1,h2,h3,h4,h5,h6⟩
 .cases h0
 .simp only[Value.slice.injEq,Option.some.injEq,Addr.mk.injEq,and_true,true_and]at hv;obtain⟨rfl,rfl⟩:=hv;refine⟨yCk hf _,.inr ⟨g,cap,cur,rfl,h1,h2,qo,h4,h5,?_⟩⟩;rw[hl,yMk hf es k hk,<-h6,take_take];congr 1;have:=mul_le_mul_right sz hk;omega
theorem yU1 (w:World) (hb:base<=w.heap.size):OwnG f sz ty (xw w #[] ty) base w 0 []:=
 World.ownsRow_made w #[] 0 hb (zero_le _) (by simp)
end
section
variable {α:Type} {f:α->List Value} {sz ty:Nat} {o:Oper}
theorem yDb {ops:Array Oper} {a:Act} {Q:Exit->Act->World->Prop} (hf:∀x,(f x).length=sz) (w:World) (hgd:o.guard=none) s x (sty:Nat)
  (ho:o.op=.call {callee:=.builtin .append,args:=#[s,x],argTypes:=#[sty,sty]}) (hst:prog.underlying sty=some (.slice ty)) {z:Value} {bytes:Nat} (hin:(prog.info? ty).map (λi=>(i.zero,i.size,i.bytes))=some (some z,sz,bytes)) (hz:z.cells.size=sz) (hsz:0<sz) (hby:bytes<=1000)
  (h1:∀x,∀u∈f x,u.oneCell'=true)
  (base g cp n b cx:Nat) (fs:List α) (e:α) (hs:a.eval s=(xg g n cp)) (hx:a.eval x=(xg b 1 cx)) (hn:n=fs.length) (hO:OwnG f sz ty w base g cp fs)
  (hc:∀j u,(f e)[j]?=some u->(xk w b j u:Prop)) (hlen:fs.length<=1000000) (hbase:base<=w.heap.size)
  (h:∀g' cp' w',OwnG f sz ty w' base g' cp' (fs++ [e])->w.grownBy w' (some g)->(g'=g∨g'=w.heap.size)->wpList prog ops Q rest (a.put o.dst (xg g' (n+1) cp')) w'):wpList prog ops Q (o::rest) a w:=by
 subst hn;obtain⟨i,hi,a3,a2,a1⟩:=info_parts hin;refine wpList_append_own_at w hgd s x sty ho base ty i _ sz bytes hst hi a3 a2 a1 hz hsz (xg g fs.length cp) fs.length (fs.flatMap f) hs hO (xd b 0) 1 cx (f e) hx (by rw[hf];omega) (λj u hu=>by rw[Addr.add_mid,Nat.zero_add];exact hc j u hu) (h1 e) ?_ ?_ hbase ?_
 .unfold maxLen;omega
 .have:=Nat.mul_le_mul (show fs.length+1<=1000001 by omega) hby;omega
 .intro v' w' hO' a5 a4 a0;rcases hO'.2 with⟨h0,_⟩|⟨g',a6,cur,hv,_,_,hn,a7,_,_⟩
  .have:=(a4.1 h0).1;cases this
  .subst hv;refine h g' a6 w' ?_ a5 ?_
   .exact xAm
   .simp[Value.ownBlock]at a0;exact a0
theorem yBm (w:World) (cs:List Value) (ty:Nat):∀j u,cs[j]?=some u->(xk (w.alloc (Obj.cells cs.toArray ty)) w j u:Prop):=by intro j u hu;rw[World.cell?_alloc_new];simpa using hu
def setCs (w:World) (g:Nat):Nat->List Value->World
 |_,[]=>w
 |o,v::vs=>setCs (xt w g o v) g (o+1) vs
def setL:List Value->Nat->List Value->List Value
 |L,_,[]=>L
 |L,o,v::vs=>setL (L.set o v) (o+1) vs
theorem yIv:∀(vs:List Value) (L:List Value) (o j:Nat),(setL L o vs)[j]?=if o<=j/\j<o+vs.length/\j<L.length then vs[j-o]? else L[j]?
 | [],L,o,j=>by rw[setL,if_neg (by simp;omega)]
 |v::vs,L,o,j=>by
  rw[setL,yIv vs,length_set,length_cons]
  by_cases h1:j=o
  .subst h1
   rw[if_neg (by omega)]
   by_cases h2:j<L.length
   .rw[if_pos ⟨Nat.le_refl _,by omega,h2⟩,Nat.sub_self];simp[h2]
   .rw[if_neg (by omega)];simp[h2]
  .by_cases h2:o+1<=j/\j<o+1+vs.length/\j<L.length
   .rw[if_pos h2,if_pos (by omega),show j-o=(j-(o+1))+1 by omega,getElem?_cons_succ]
   .rw[if_neg h2,if_neg qo,getElem?_set_ne (λq=>h1 q.symm)]
theorem yAl {S:Nat->Prop} (g:Nat) (hs:S g):∀(vs:List Value) (o:Nat) (w:World),Chg S w (setCs w g o vs)
 | [],o,w=>Chg.of_below (Below.refl _ _)
 |v::vs,o,w=>(Chg.of_set w g o v hs).trans (yAl g hs vs (o+1) _)
theorem yBu {g:Nat} {v:Value} (hv:v.ownBlock=some g) (hv0:∃c,v=(xg g n c)):∀(vs:List Value) (o:Nat) (w:World) (L:List Value),w.ownsRow base ty sz v n L->(setCs w g o vs).ownsRow base ty sz v n (setL L o vs)
 | [],o,w,L,h=>h
 |x::vs,o,w,L,h=>by
  obtain⟨c,rfl⟩:=hv0
  exact yBu hv ⟨c,rfl⟩ vs (o+1) _ _ (World.ownsRow.stored h o x).1
theorem OwnG.setAll (hf:∀x,(f x).length=sz) {g:Nat} {es:List α} (h:OwnG f sz ty w base g cap es) {e:α} (hi:i<es.length):OwnG f sz ty (setCs w g (i*sz) (f e)) base g cap (es.set i e):=by
 have h1:=yBu (sz:=sz) (ty:=ty) (base:=base) (g:=g) (n:=es.length) (v:=(xg g es.length cap)) rfl ⟨cap,rfl⟩ (f e) (i*sz) w (es.flatMap f) h;have h2:setL (es.flatMap f) (i*sz) (f e)=(es.set i e).flatMap f:=by
  apply ext_getElem?;intro j;rw[yIv,hf,yCk hf];by_cases hs:sz=0
  .subst hs;rw[if_neg qo,getElem?_eq_none (by rw[yCk hf];omega),getElem?_eq_none (by rw[yCk hf];omega)]
  have hd:=div_add_mod j sz;have hm:=mod_lt j (Nat.pos_of_ne_zero hs);have hj:j=j/sz*sz+j%sz:=by rw[Nat.mul_comm];omega
  by_cases hjl:j/sz<es.length
  .obtain⟨x,hx⟩:∃x,(es.set i e)[j/sz]?=some x:=qg (by rw[length_set];exact hjl);obtain⟨y,hy⟩:∃y,es[j/sz]?=some y:=qg hjl;have g1:=yFb hf (es.set i e) (j/sz) x hx (j%sz) hm;have g2:=yFb hf es (j/sz) y hy (j%sz) hm;rw[<-hj]at g1 g2;rw[g1];by_cases hji:j/sz=i
   .have a1:x=e:=by rw[hji]at hx;rw[getElem?_set_self hi]at hx;exact(Option.some.inj hx).symm
    have a3:i*sz<=j:=by rw[<-hji];omega
    have a2:j<es.length*sz:=by have:=mul_le_mul_right sz (show j/sz+1<=es.length from hjl);rw[Nat.add_mul]at this;omega
    rw[if_pos ⟨a3,by rw[<-hji];omega,a2⟩,a1];congr 1;rw[<-hji];omega
   .have a0:x=y:=by rw[getElem?_set_ne (λq=>hji q.symm)]at hx;rw[hx]at hy;exact Option.some.inj hy
    rw[if_neg (λq=>hji ?_),g2,a0];have h3:j/sz≥i:=(le_div_iff_mul_le (Nat.pos_of_ne_zero hs)).2 q.1;have h4:j/sz<i+1:=(div_lt_iff_lt_mul (Nat.pos_of_ne_zero hs)).2 (by rw[Nat.add_mul];omega);omega
  .have h3:es.length*sz<=j:=qw (mul_le_mul_right sz (show es.length<=j/sz by omega))
   rw[if_neg (by omega),getElem?_eq_none (by rw[yCk hf];exact h3),getElem?_eq_none (by rw[yCk hf,length_set];exact h3)]
 rw[h2]at h1;unfold OwnG;rw[length_set];exact h1
end
end
structure Ix where
 op:Int
 a:Int
 b:Int
 free:Bool
 leaf:Nd
structure Ix.ok (e:Ix):Prop where
 op:(Lit.int .i64 e.op).wf=true
 a:(Lit.int .i64 e.a).wf=true
 b:(Lit.int .i64 e.b).wf=true
 leaf:e.leaf.ok
abbrev Ix.ten (e:Ix):List Value:= [.int .i64 e.op,.int .i64 e.a,.int .i64 e.b,.bool e.free,.int .i64 e.leaf.kind,.string e.leaf.s,.bool e.leaf.hi,.string e.leaf.t,.int .u64 e.leaf.lo,.int .u64 e.leaf.up,.int .i64 e.leaf.n]
abbrev Ix.v (e:Ix):Value:=.agg #[xi e.op,xi e.a,xi e.b,e.free,xi e.leaf.kind,e.leaf.s,e.leaf.hi,e.leaf.t,xu e.leaf.lo,xu e.leaf.up,xi e.leaf.n]
def yXn:Ix:=⟨0,0,0,false,xIn⟩
def cellsX (es:List Ix):List Value:=es.flatMap Ix.ten
theorem yDf (e:Ix) es:cellsX (e::es)=e.ten++cellsX es:=by simp[cellsX]
theorem yN8 (es:List Ix):(cellsX es).length=es.length*11:=by
 induction es with
 |nil=>rfl
 |cons e es ih=>rw[yDf,length_append,ih];simp;omega
theorem yMu es:∀(k:Nat) (e:Ix),es[k]?=some e->∀j,j<11->(cellsX es)[k*11+j]?=e.ten[j]?:=by
 induction es with
 |nil=>intro k e h;simp at h
 |cons f es ih=>
  intro k e h j hj;rw[yDf];cases k with
  |zero=>
   simp at h;subst h;rw[getElem?_append_left (by show 0*11+j<11;omega)];simp
  |succ k=>
   simp at h;rw[getElem?_append_right (by show 11<=(k+1)*11+j;omega)];have:(k+1)*11+j-f.ten.length=k*11+j:=by show(k+1)*11+j-11=_;omega
   rw[this];exact ih k e h j hj
theorem yW3 (es:List Ix):∀(k:Nat) (e e':Ix) (u:Value) (j:Nat),es[k]?=some e->j<11->e'.ten=e.ten.set j u->(cellsX es).set (k*11+j) u=cellsX (es.set k e'):=by
 induction es with
 |nil=>intro k e e' u j h;simp at h
 |cons f es ih=>
  intro k e e' u j h hj hc;rw[yDf];cases k with
  |zero=>
   simp at h;subst h;rw[set_append_left _ _ (by show 0*11+j<11;omega),set_cons_zero,yDf,hc];simp
  |succ k=>
   simp at h;rw[set_append_right _ _ (by show 11<=(k+1)*11+j;omega),set_cons_succ,yDf];have:(k+1)*11+j-f.ten.length=k*11+j:=by show(k+1)*11+j-11=_;omega
   rw[this,ih k e e' u j h hj hc]
def yB5 (w:World) (b off:Nat) (es:List Ix):Prop:=
 ∀i e,es[i]?=some e->xk w b (off+i*11) (xi e.op)/\xk w b (off+i*11+1) (xi e.a)/\xk w b (off+i*11+2) (xi e.b)/\xk w b (off+i*11+3) e.free/\xk w b (off+i*11+4) (xi e.leaf.kind)/\xk w b (off+i*11+5) e.leaf.s/\xk w b (off+i*11+6) e.leaf.hi/\xk w b (off+i*11+7) e.leaf.t/\xk w b (off+i*11+8) (xu e.leaf.lo)/\xk w b (off+i*11+9) (xu e.leaf.up)/\xk w b (off+i*11+10) (xi e.leaf.n)
variable {es:List Ix}
theorem yB5.below {off:Nat} (h:yB5 w b off es) (hb:Below B w w') (hlt:b<B):yB5 w' b off es:=by
 intro i e he;have:=h i e he;refine⟨?_,?_,?_,?_,?_,?_,?_,?_,?_,?_,?_⟩;all_goals rw[hb.cell (by exact hlt)]
 .exact this.1
 .exact this.2.1
 .exact this.2.2.1
 .exact this.2.2.2.1
 .exact this.2.2.2.2.1
 .exact this.2.2.2.2.2.1
 .exact this.2.2.2.2.2.2.1
 .exact this.2.2.2.2.2.2.2.1
 .exact this.2.2.2.2.2.2.2.2.1
 .exact this.2.2.2.2.2.2.2.2.2.1
 .exact this.2.2.2.2.2.2.2.2.2.2
theorem yB5.chg {S:Nat->Prop} {off:Nat} (h:yB5 w b off es) (hb:Chg S w w') (hlt:b<w.heap.size) (hn:¬S b):yB5 w' b off es:=by
 intro i e he;have:=h i e he;refine⟨?_,?_,?_,?_,?_,?_,?_,?_,?_,?_,?_⟩;all_goals rw[hb.cell (by exact hlt) (by exact hn)]
 .exact this.1
 .exact this.2.1
 .exact this.2.2.1
 .exact this.2.2.2.1
 .exact this.2.2.2.2.1
 .exact this.2.2.2.2.2.1
 .exact this.2.2.2.2.2.2.1
 .exact this.2.2.2.2.2.2.2.1
 .exact this.2.2.2.2.2.2.2.2.1
 .exact this.2.2.2.2.2.2.2.2.2.1
 .exact this.2.2.2.2.2.2.2.2.2.2
def OwnX (w:World) (base g cap:Nat) (es:List Ix):Prop:=w.ownsRow base 153 11 (xg g es.length cap) es.length (cellsX es)
theorem OwnX.at {g:Nat} (h:OwnX w base g cap es):yB5 w g 0 es:=by
 intro i e he;have hi:=qf he;have c:=λj (hj:j<11)=>(World.ownsRow.cellAt h (i*11+j) qo).trans (yMu es i e he j hj);refine⟨?_,?_,?_,?_,?_,?_,?_,?_,?_,?_,?_⟩
 .simpa using c 0 qo
 .simpa using c 1 qo
 .simpa using c 2 qo
 .simpa using c 3 qo
 .simpa using c 4 qo
 .simpa using c 5 qo
 .simpa using c 6 qo
 .simpa using c 7 qo
 .simpa using c 8 qo
 .simpa using c 9 qo
 .simpa using c 10 qo
theorem OwnX.lt {g:Nat} (h:OwnX w base g cap es):base<=g/\g<w.heap.size:=World.ownsRow.lt h g rfl
theorem OwnX.below {g:Nat} (h:OwnX w base g cap es) (hb:Below B w w') (hg:g<B):OwnX w' base g cap es:=by exact xAr
theorem OwnX.caps {g:Nat} {R:List Ix} (h:OwnX w base g cp R):R.length<=cp/\cp<=maxLen:=by exact yMx
theorem OwnX.set {g:Nat} (h:OwnX w base g cap es) (k j:Nat) (e e':Ix) (u:Value) (hk:es[k]?=some e) (hj:j<11) (hc:e'.ten=e.ten.set j u):
  OwnX (xt w g (k*11+j) u) base g cap (es.set k e'):=by
 have:=(World.ownsRow.stored h (k*11+j) u).1;rw[yW3 es k e e' u j hk hj hc]at this;unfold OwnX;rw[length_set];exact this
theorem Tryz.infoX:(prog.info? 153).map (λi=>(i.zero,i.size,i.bytes))=some (some (.agg #[xi 0,xi 0,xi 0,false,xi 0,xe,false,xe,xu 0,xu 0,xi 0]),11,104):=qk
theorem OwnX.put {g:Nat} (h:OwnX w base g cap es) (k:Nat) (f e:Ix) (hk:es[k]?=some f):
  OwnX (xt ((((((((((w.setCell (xd g (k*11)) (xi e.op)).setCell (xd g (k*11+1)) (xi e.a)).setCell (xd g (k*11+2)) (xi e.b)).setCell (xd g (k*11+3)) e.free).setCell (xd g (k*11+4)) (xi e.leaf.kind)).setCell (xd g (k*11+5)) e.leaf.s).setCell (xd g (k*11+6)) e.leaf.hi).setCell (xd g (k*11+7)) e.leaf.t).setCell (xd g (k*11+8)) (xu e.leaf.lo)).setCell (xd g (k*11+9)) (xu e.leaf.up)) g (k*11+10) (xi e.leaf.n)) base g cap (es.set k e):=by
 have a0:=qf hk;have g1:=h.set k 0 f ({f with op:=e.op}) (xi e.op) hk qo rfl;have g2:=g1.set k 1 ({f with op:=e.op}) ({f with op:=e.op,a:=e.a}) (xi e.a) (by simp[a0]) qo rfl;have g3:=g2.set k 2 ({f with op:=e.op,a:=e.a}) ({f with op:=e.op,a:=e.a,b:=e.b}) (xi e.b) (by simp[a0]) qo rfl;have g4:=g3.set k 3 ({f with op:=e.op,a:=e.a,b:=e.b}) ({f with op:=e.op,a:=e.a,b:=e.b,free:=e.free}) e.free (by simp[a0]) qo rfl;have g5:=g4.set k 4 ({f with op:=e.op,a:=e.a,b:=e.b,free:=e.free}) ({f with op:=e.op,a:=e.a,b:=e.b,free:=e.free,leaf:={f.leaf with kind:=e.leaf.kind}}) (xi e.leaf.kind) (by simp[a0]) qo rfl;have g6:=g5.set k 5 ({f with op:=e.op,a:=e.a,b:=e.b,free:=e.free,leaf:={f.leaf with kind:=e.leaf.kind}}) ({f with op:=e.op,a:=e.a,b:=e.b,free:=e.free,leaf:={f.leaf with kind:=e.leaf.kind,s:=e.leaf.s}}) e.leaf.s (by simp[a0]) qo rfl;have g7:=g6.set k 6 ({f with op:=e.op,a:=e.a,b:=e.b,free:=e.free,leaf:={f.leaf with kind:=e.leaf.kind,s:=e.leaf.s}}) ({f with op:=e.op,a:=e.a,b:=e.b,free:=e.free,leaf:={f.leaf with kind:=e.leaf.kind,s:=e.leaf.s,hi:=e.leaf.hi}}) e.leaf.hi (by simp[a0]) qo rfl;have g8:=g7.set k 7 ({f with op:=e.op,a:=e.a,b:=e.b,free:=e.free,leaf:={f.leaf with kind:=e.leaf.kind,s:=e.leaf.s,hi:=e.leaf.hi}}) ({f with op:=e.op,a:=e.a,b:=e.b,free:=e.free,leaf:={f.leaf with kind:=e.leaf.kind,s:=e.leaf.s,hi:=e.leaf.hi,t:=e.leaf.t}}) e.leaf.t (by simp[a0]) qo rfl;have g9:=g8.set k 8 ({f with op:=e.op,a:=e.a,b:=e.b,free:=e.free,leaf:={f.leaf with kind:=e.leaf.kind,s:=e.leaf.s,hi:=e.leaf.hi,t:=e.leaf.t}}) ({f with op:=e.op,a:=e.a,b:=e.b,free:=e.free,leaf:={f.leaf with kind:=e.leaf.kind,s:=e.leaf.s,hi:=e.leaf.hi,t:=e.leaf.t,lo:=e.leaf.lo}}) (xu e.leaf.lo) (by simp[a0]) qo rfl;have a2:=g9.set k 9 ({f with op:=e.op,a:=e.a,b:=e.b,free:=e.free,leaf:={f.leaf with kind:=e.leaf.kind,s:=e.leaf.s,hi:=e.leaf.hi,t:=e.leaf.t,lo:=e.leaf.lo}}) ({f with op:=e.op,a:=e.a,b:=e.b,free:=e.free,leaf:={f.leaf with kind:=e.leaf.kind,s:=e.leaf.s,hi:=e.leaf.hi,t:=e.leaf.t,lo:=e.leaf.lo,up:=e.leaf.up}}) (xu e.leaf.up) (by simp[a0]) qo rfl;have a1:=a2.set k 10 ({f with op:=e.op,a:=e.a,b:=e.b,free:=e.free,leaf:={f.leaf with kind:=e.leaf.kind,s:=e.leaf.s,hi:=e.leaf.hi,t:=e.leaf.t,lo:=e.leaf.lo,up:=e.leaf.up}}) e (xi e.leaf.n) (by simp[a0]) qo rfl;simpa only[set_set,Nat.add_zero]using a1
theorem yVu {fs:List Ix} {k:Nat} {e:Ix} (h:fs.take k=es.take k) (hl:fs.length=es.length) (he:es[k]?=some e):(fs.set k e).take (k+1)=es.take (k+1):=by have a0:k<es.length:=qf he;rw[List.take_set,take_add_one,take_add_one (l:=es),he,getElem?_eq_getElem (by omega),h];simp only[Option.toList];rw[set_append_right _ _ (by simp;omega)];simp;rw[show k-min k es.length=0 by omega];rfl
theorem yVv (e:Ix) (left:Int) (w:World) (ho:e.ok) (h0:0<=left) (h1:left<=2^40):
  Calls prog 168 #[e.v,xi left] w λr w'=>∃x,r=.returned (xi x)/\(x= -1∨(0<=x/\x<=left))/\Below w w w':=by
 go_enter func168,ntmps168;go_wp2_with fail;refine(yR0 e.leaf left _ ho.leaf h0 h1).mono ?_;rintro r w1 ⟨x,rfl,hx,a0⟩;have k1:=((Below.refl _ _).alloc qr (Obj.cells #[xi e.op,xi e.a,xi e.b,e.free,xi e.leaf.kind,e.leaf.s,e.leaf.hi,e.leaf.t,xu e.leaf.lo,xu e.leaf.up,xi e.leaf.n] 264)).trans (a0.mono (by simp));have HX:Hid (x= -1∨(0<=x/\x<=left)):=by show _∨_;omega
 by_cases hx0:x<0
 .clear hx;go_wp2_with fail;go_ret;exact⟨_,rfl,.inl rfl,k1⟩
 .clear hx;go_wp2_with fail;go_ret;exact⟨_,rfl,HX.out,k1⟩
theorem yKu {a:World} (h:Below B a w) {g:Nat} (hg:B<=g) (o0 o1 o2 o3 o4 o5 o6 o7 o8 o9 o10:Nat) (v0 v1 v2 v3 v4 v5 v6 v7 v8 v9 v10:Value):
  Below B a (xt ((((((((((w.setCell (xd g o0) v0).setCell (xd g o1) v1).setCell (xd g o2) v2).setCell (xd g o3) v3).setCell (xd g o4) v4).setCell (xd g o5) v5).setCell (xd g o6) v6).setCell (xd g o7) v7).setCell (xd g o8) v8).setCell (xd g o9) v9) g o10 v10):=
 ((((((((((h.setCell hg _).setCell hg _).setCell hg _).setCell hg _).setCell hg _).setCell hg _).setCell hg _).setCell hg _).setCell hg _).setCell hg _).setCell hg _
theorem yVs (e:Ix) (w:World):(xf 173 #[e.v] w e.v:Prop):=by
 obtain⟨W0,a3⟩:=qE (xw ((w.alloc (Obj.cells #[xi e.op,xi e.a,xi e.b,e.free,xi e.leaf.kind,e.leaf.s,e.leaf.hi,e.leaf.t,xu e.leaf.lo,xu e.leaf.up,xi e.leaf.n] 264)).alloc (Obj.cells #[xi 0,xi 0,xi 0,false,xi 0,xe,false,xe,xu 0,xu 0,xi 0] 153)) #[xi e.op,xi e.a,xi e.b,e.free,xi 0,xe,false,xe,xu 0,xu 0,xi 0] 153:World);have HB:=qH1 (box3 a3);go_enter func173,ntmps173;go_upto_region 6 with fail;rw[<-a3];clear a3;obtain⟨_,_,_,_,a4,a5,a6,a7,a8,a9,ac⟩:=HB.1.c11;go_wp2_with fail;refine(yRw e.leaf _).mono ?_;rintro r w1 ⟨rfl,a2⟩;clear a4 a5 a6 a7 a8 a9 ac;have HC:=qH3 (HB.2.1.below a2) (HB.2.2.1.below a2) (HB.2.2.2.trans (a2.mono HB.2.2.2.size));obtain⟨b0,b1,b2,b3,b4,b5,b6,b7,b8,b9,aa⟩:=HC.2.1.c11;have bf:=λj=>HC.2.1.frozen j;go_upto_region 7 with fail;obtain⟨W7,a0⟩:=qE (setCs w1 (w+1+1) 4 [xi e.leaf.kind,e.leaf.s,e.leaf.hi,e.leaf.t,xu e.leaf.lo,xu e.leaf.up,xi e.leaf.n]:World);have a1:Chg (λq=>q=w.heap.size+1+1) w1 W7:=by rw[a0];exact yAl (S:=λq=>q=_) _ rfl _ _ _
 have H7:=qH3 (by rw[a0];exact yBu (v:=(xg (w+1+1) 1 1)) rfl ⟨1,rfl⟩ _ 4 w1 _ HC.2.1:yA W7 w 153 11 (w+1+1) e.ten) (HC.1.chg a1 qo) (Chg.below HC.2.2 a1 HC.2.2.size (λq hq=>qo));simp only[setCs,Nat.reduceAdd]at a0;rw[<-a0];clear a0 a1 bf b0 b1 b2 b3 b4 b5 b6 b7 b8 b9 aa;obtain⟨b0,b1,b2,b3,b4,b5,b6,b7,b8,b9,aa⟩:=H7.1.c11;obtain⟨d0,d1,d2,d3,d4,d5,d6,d7,d8,d9,ab⟩:=H7.2.1.c11;have df:=λj=>H7.2.1.frozen j;go_wp2_with fail;refine bodyPost_ret (v:=e.v) (by simp[results,results173,go_sem,d0,d1,d2,d3,d4,d5,d6,d7,d8,d9,ab]) rfl ⟨rfl,?_⟩;exact yKu H7.2.2 qo _ _ _ _ _ _ _ _ _ _ _ _ _ _ _ _ _ _ _ _ _ _
theorem yWv (e:Ix) (w:World):(xf 174 #[e.v,e.v] w true:Prop):=by have k0:Below w w (xw (w.alloc (Obj.cells #[xi e.op,xi e.a,xi e.b,e.free,xi e.leaf.kind,e.leaf.s,e.leaf.hi,e.leaf.t,xu e.leaf.lo,xu e.leaf.up,xi e.leaf.n] 153)) #[xi e.op,xi e.a,xi e.b,e.free,xi e.leaf.kind,e.leaf.s,e.leaf.hi,e.leaf.t,xu e.leaf.lo,xu e.leaf.up,xi e.leaf.n] 153):=(qB).alloc (by simp) _;go_enter func174,ntmps174;go_wp2_with fail;refine(yTn e.leaf _).mono ?_;rintro r w1 ⟨rfl,a0⟩;go_wp2_with fail;go_ret;exact⟨rfl,k0.trans (a0.mono (by simp;omega))⟩
inductive CT where
 |leaf (n:Nd)
 |chain (n:Nd) (a b:CT)
 |inter (n:Nd) (a b:CT)
 |cond (n:Nd) (a b c:CT)
def ctV (n:Nd):List CT->CT
 | [a,b]=>if n.kind=14 then .chain n a b else .inter n a b
 | [a,b,c]=>.cond n a b c
 |_=>.leaf n
def yIs (xs:List Nd) (t:CT):Prop:=TrV ctV [t] xs
inductive Part:CT->List Nd->Prop
 |leaf (n:Nd) (h:yA0 n.kind=0):Part (.leaf n) [n]
 |chain (n:Nd) {a b:CT} {ka kb:List Nd} (h:n.kind=14) (ha:yIs ka a) (hb:yIs kb b):Part (.chain n a b) (ka++kb++ [n])
 |inter (n:Nd) {a b:CT} {ka kb:List Nd} (h:n.kind=15) (ha:yIs ka a) (hb:yIs kb b):Part (.inter n a b) (ka++kb++ [n])
 |cond (n:Nd) {a b c:CT} {ka kb kc:List Nd} (h:n.kind=16) (ha:yIs ka a) (hb:yIs kb b) (hc:yIs kc c):Part (.cond n a b c) (ka++kb++kc++ [n])
theorem yEf {T:Type} {V:Nd->List T->T} {os:List T} {o:T} {k:List Nd} (h:KidV V os ks) (ho:os[j]?=some o) (hk:ks[j]?=some k):TrV V [o] k:=by
 obtain⟨o',h1,h2⟩:=KidV.nth _ h hk;rw[ho]at h1;cases h1
 exact h2
theorem yIs.part {t:CT} (h:yIs xs t):Part t xs:=by
 obtain⟨ys,n,os,rfl,hl,hT,rfl⟩:=TrV.inv _ h;obtain⟨ks,rfl,hK⟩:=TrV.kids _ hT;have a0:=hK.length;by_cases h14:n.kind=14
 .have ha:yA0 n.kind=2:=by unfold yA0;rw[if_pos (.inl h14)]
  rw[ha]at hl;match os,ks,hl,a0,hK with
  | [a,b],[ka,kb],_,_,hK=>
    have e1:ctV n [a,b]=.chain n a b:=if_pos h14;have e2: [ka,kb].flatten++ [n]=ka++kb++ [n]:=by simp
    rw[e1,e2];exact .chain n h14 (yEf hK (j:=0) rfl rfl) (yEf hK (j:=1) rfl rfl)
 .by_cases h15:n.kind=15
  .have ha:yA0 n.kind=2:=by unfold yA0;rw[if_pos (.inr h15)]
   rw[ha]at hl;match os,ks,hl,a0,hK with
   | [a,b],[ka,kb],_,_,hK=>
     have e1:ctV n [a,b]=.inter n a b:=if_neg h14;have e2: [ka,kb].flatten++ [n]=ka++kb++ [n]:=by simp
     rw[e1,e2];exact .inter n h15 (yEf hK (j:=0) rfl rfl) (yEf hK (j:=1) rfl rfl)
  .by_cases h16:n.kind=16
   .have ha:yA0 n.kind=3:=by unfold yA0;rw[if_neg qo,if_pos h16]
    rw[ha]at hl;match os,ks,hl,a0,hK with
    | [a,b,c],[ka,kb,kc],_,_,hK=>
      have e2: [ka,kb,kc].flatten++ [n]=ka++kb++kc++ [n]:=by simp
      rw[e2];exact .cond n h16 (yEf hK (j:=0) rfl rfl) (yEf hK (j:=1) rfl rfl) (yEf hK (j:=2) rfl rfl)
   .have ha:yA0 n.kind=0:=by unfold yA0;rw[if_neg qo,if_neg h16]
    have a1:os= []:=length_eq_zero_iff.1 qo;have a2:ks= []:=length_eq_zero_iff.1 qo;subst a1;subst a2;exact .leaf n ha
def yTk (k:Int):Bool:=decide (k=11∨k=12∨k=13)
def CT.size:CT->Nat
 | .leaf _=>1
 | .chain _ a b=>a.size+b.size+1
 | .inter _ a b=>a.size+b.size+1
 | .cond _ a b c=>a.size+b.size+c.size+1
theorem yYm (n:Nat):∀{t:CT} {xs:List Nd},xs.length<=n->yIs xs t->t.size=xs.length:=by
 induction n with
 |zero=>intro t xs hl h;have:=h.part;cases this<;>simp at hl
 |succ n ih=>
  intro t xs hl h;cases h.part with
  |leaf n h=>rfl
  |chain n h ha hb=>simp only[length_append,length_singleton]at hl⊢;simp only[CT.size,ih qo ha,ih qo hb]
  |inter n h ha hb=>simp only[length_append,length_singleton]at hl⊢;simp only[CT.size,ih qo ha,ih qo hb]
  |cond n h ha hb hc=>simp only[length_append,length_singleton]at hl⊢;simp only[CT.size,ih qo ha,ih qo hb,ih qo hc]
theorem yIs.size {t:CT} (h:yIs xs t):t.size=xs.length:=yYm _ qr h
section
inductive Pls (P:List UInt8->Prop):List UInt8->Prop
 |one {x:List UInt8} (h:P x):Pls P x
 |more {x y:List UInt8} (h:P x) (k:Pls P y):Pls P (x++y)
def RepL (P:List UInt8->Prop) (o r:Bool) (x:List UInt8):Prop:=(o=true/\x= [])∨(if r=true then Pls P x else P x)
mutual
def Lg:Pat->List UInt8->Prop
 | .byte b=>λx=>x= [b]
 | .cls f=>λx=>∃c,x= [c]/\f c=true
 | .rep t o r=>RepL (Lg t) o r
 | .alt os=>LgA os
def LgA:List (List Pat)->List UInt8->Prop
 | []=>λ_=>False
 |ts::os=>λx=>LgS ts x∨LgA os x
def LgS:List Pat->List UInt8->Prop
 | []=>λx=>x= []
 |t::ts=>λx=>∃y z,x=y++z/\Lg t y/\LgS ts z
end
theorem yU:∀(os:List (List Pat)) (x:List UInt8),LgA os x↔∃ts∈os,LgS ts x
 | [],x=>by simp[LgA]
 |ts::os,x=>by simp[LgA,yU os x]
mutual
def nulB:Pat->Bool
 | .byte _=>false
 | .cls _=>false
 | .rep t o _=>o || nulB t
 | .alt os=>nulA os
def nulA:List (List Pat)->Bool
 | []=>false
 |ts::os=>nulS ts || nulA os
def nulS:List Pat->Bool
 | []=>true
 |t::ts=>nulB t && nulS ts
end
abbrev PS:=Nat->Bool
def sOr (F G:PS):PS:=λi=>F i || G i
def sOne (a:Nat):PS:=λi=>i==a
def sNo:PS:=λ_=>false
structure Lay where
 nx:Nat
 fst:PS
 lst:PS
 tk:Nat->UInt8->Bool
 ed:Nat->Nat->Bool
def Lay.no (a:Nat):Lay:=⟨a,sNo,sNo,λ_ _=>false,λ_ _=>false⟩
def Lay.seq (g:Lay) (em nt:Bool) (l:Lay):Lay:=
 ⟨l.nx,if em=true then sOr g.fst l.fst else g.fst,if nt=true then sOr g.lst l.lst else l.lst,λp c=>g.tk p c || l.tk p c,λp q=>g.ed p q || l.ed p q || (g.lst p && l.fst q)⟩
def Lay.alt (g l:Lay):Lay:=⟨l.nx,sOr g.fst l.fst,sOr g.lst l.lst,λp c=>g.tk p c || l.tk p c,λp q=>g.ed p q || l.ed p q⟩
def Lay.rep (l:Lay) (r:Bool):Lay:=⟨l.nx,l.fst,l.lst,l.tk,λp q=>l.ed p q || (r && l.lst p && l.fst q)⟩
mutual
def lyP:Pat->Nat->Lay
 | .byte b,a=>⟨a+1,sOne a,sOne a,λp c=>p==a && c==b,λ_ _=>false⟩
 | .cls f,a=>⟨a+1,sOne a,sOne a,λp c=>p==a && f c,λ_ _=>false⟩
 | .rep t _ r,a=>(lyP t a).rep r
 | .alt os,a=>lyA os (Lay.no a)
def lyA:List (List Pat)->Lay->Lay
 | [],g=>g
 |ts::os,g=>lyA os (g.alt (lyS ts true (Lay.no g.nx)))
def lyS:List Pat->Bool->Lay->Lay
 | [],_,g=>g
 |t::ts,em,g=>lyS ts (em && nulB t) (g.seq em (nulB t) (lyP t g.nx))
end
inductive Pth (l:Lay):Nat->List UInt8->Nat->Prop
 |nil (p:Nat):Pth l p [] p
 |step {p p' q:Nat} {c:UInt8} {xs:List UInt8} (he:l.ed p p'=true) (ht:l.tk p' c=true) (h:Pth l p' xs q):Pth l p (c::xs) q
def Wd (l:Lay) (x:List UInt8):Prop:=∃c xs p q,x=c::xs/\l.fst p=true/\l.tk p c=true/\Pth l p xs q/\l.lst q=true
structure Spt (a:Nat) (l:Lay):Prop where
 le:a<=l.nx
 fst:∀p,l.fst p=true->a<=p/\p<l.nx
 lst:∀p,l.lst p=true->a<=p/\p<l.nx
 tk:∀p c,l.tk p c=true->a<=p/\p<l.nx
 ed:∀p q,l.ed p q=true->(a<=p/\p<l.nx)/\a<=q/\q<l.nx
structure Cor (a:Nat) (l:Lay) (P:List UInt8->Prop) (em:Bool):Prop where
 spt:Spt a l
 wd:∀x,P x↔(x= []/\em=true)∨Wd l x
variable {a p q:Nat} {xs:List UInt8}
theorem Pth.in {l:Lay} (hs:Spt a l) (h:Pth l p xs q) (hp:a<=p/\p<l.nx):a<=q/\q<l.nx:=by
 induction h with
 |nil p=>exact hp
 |step he ht h ih=>exact ih (hs.ed _ _ he).2
theorem Pth.cat {l:Lay} {r:Nat} {ys:List UInt8} (h:Pth l p xs q) (k:Pth l q ys r):Pth l p (xs++ys) r:=by
 induction h with
 |nil p=>exact k
 |step he ht h ih=>exact .step he ht (ih k)
theorem Pth.mono {l m:Lay} (h1:∀p q,l.ed p q=true->m.ed p q=true) (h2:∀p c,l.tk p c=true->m.tk p c=true) (h:Pth l p xs q):Pth m p xs q:=by
 induction h with
 |nil p=>exact .nil p
 |step he ht h ih=>exact .step (h1 _ _ he) (h2 _ _ ht) ih
theorem xHb {l:Lay}:¬Wd l []:=fun⟨c,xs,p,q,h,_⟩=>by cases h
variable {P:List UInt8->Prop} {em:Bool}
theorem Cor.nul {l:Lay} (h:Cor a l P em):P []↔em=true:=by
 rw[h.wd];constructor
 .rintro(⟨_,q⟩|q)
  .exact q
  .exact(xHb q).elim
 .exact λq=>.inl ⟨rfl,q⟩
theorem yZ1 (a:Nat):Cor a (Lay.no a) (λx=>x= []) true:=by
 refine⟨⟨Nat.le_refl _,?_,?_,?_,?_⟩,λx=>?_⟩
 .intro p h;cases h
 .intro p h;cases h
 .intro p c h;cases h
 .intro p q h;cases h
 .constructor
  .exact λh=>.inl ⟨h,rfl⟩
  .rintro(⟨h,_⟩|⟨c,xs,p,q,_,h,_⟩)
   .exact h
   .cases h
theorem xB7 (a:Nat):Cor a (Lay.no a) (λ_=>False) false:=by
 refine⟨(yZ1 a).spt,λx=>?_⟩;constructor
 .exact λh=>h.elim
 .rintro(⟨_,h⟩|⟨c,xs,p,q,_,h,_⟩)
  .cases h
  .cases h
theorem yZ0 (a:Nat) (f:UInt8->Bool) (T:Nat->UInt8->Bool) (hT:∀p c,T p c=(p==a && f c)):Cor a ⟨a+1,sOne a,sOne a,T,λ_ _=>false⟩ (λx=>∃c,x= [c]/\f c=true) false:=by
 refine⟨⟨le_succ _,?_,?_,?_,?_⟩,λx=>?_⟩
 .intro p h;simp[sOne]at h;simp;omega
 .intro p h;simp[sOne]at h;simp;omega
 .intro p c h;simp[hT]at h;simp;omega
 .intro p q h;cases h
 .constructor
  .rintro⟨c,rfl,hc⟩;exact .inr ⟨c,[],a,a,rfl,by simp[sOne],by simp[hT,hc],.nil a,by simp[sOne]⟩
  .rintro(⟨_,h⟩|⟨c,xs,p,q,rfl,h1,h2,h3,_⟩)
   .cases h
   .cases h3 with
    |nil=>simp[hT]at h2;exact⟨c,rfl,h2.2⟩
    |step he _ _=>cases he
section
variable {a:Nat} {g l:Lay} {em nt:Bool}
theorem yUp (hg:Spt a g) (hl:Spt g.nx l) (h:Pth (g.seq em nt l) p xs q):
  ((g.nx<=p/\p<l.nx)->Pth l p xs q)/\((a<=p/\p<g.nx)->Pth g p xs q∨∃xs1 c xs2 p1 q1,xs=xs1++c::xs2/\Pth g p xs1 p1/\g.lst p1=true/\l.fst q1=true/\l.tk q1 c=true/\Pth l q1 xs2 q):=by
 induction h with
 |nil p=>exact⟨λ_=>.nil p,λ_=>.inl (.nil p)⟩
 | @step p p' q c xs he ht h ih=>
   simp only[Lay.seq,Bool.or_eq_true,Bool.and_eq_true]at he ht;refine⟨λhp=>?_,λhp=>?_⟩
   .rcases he with(he|he)|he
    .have:=(hg.ed _ _ he).1;omega
    .have a0:=(hl.ed _ _ he).2;rcases ht with ht|ht
     .have:=hg.tk _ _ ht;omega
     .exact .step he ht (ih.1 a0)
    .have:=hg.lst _ he.1;omega
   .rcases he with(he|he)|he
    .have a0:=(hg.ed _ _ he).2;rcases ht with ht|ht
     .rcases ih.2 a0 with k|⟨xs1,c1,xs2,p1,q1,rfl,k1,k2⟩
      .exact .inl (.step he ht k)
      .exact .inr ⟨c::xs1,c1,xs2,p1,q1,rfl,.step he ht k1,k2⟩
     .have:=hl.tk _ _ ht;omega
    .have:=(hl.ed _ _ he).1;omega
    .have a0:=hl.fst _ he.2;rcases ht with ht|ht
     .have:=hg.tk _ _ ht;omega
     .exact .inr ⟨[],c,xs,p,p',rfl,.nil p,he.1,he.2,ht,ih.1 a0⟩
theorem xHi (h:Pth g p xs q):Pth (g.seq em nt l) p xs q:=h.mono (λp q h=>by simp[Lay.seq,h]) (λp c h=>by simp[Lay.seq,h])
theorem xHh (h:Pth l p xs q):Pth (g.seq em nt l) p xs q:=h.mono (λp q h=>by simp[Lay.seq,h]) (λp c h=>by simp[Lay.seq,h])
theorem xFl {G:List UInt8->Prop} (hg:Cor a g G em) (hl:Cor g.nx l P nt):Cor a (g.seq em nt l) (λx=>∃y z,x=y++z/\G y/\P z) (em && nt):=by
 have sg:=hg.spt;have sl:=hl.spt;have a4:=sg.le;have a3:=sl.le;have ff:∀p,(g.seq em nt l).fst p=true↔g.fst p=true∨(em=true/\l.fst p=true):=λp=>by cases em<;>simp[Lay.seq,sOr]
 have fl:∀p,(g.seq em nt l).lst p=true↔(nt=true/\g.lst p=true)∨l.lst p=true:=λp=>by cases nt<;>simp[Lay.seq,sOr]
 refine⟨⟨Nat.le_trans a4 a3,λp h=>?_,λp h=>?_,λp c h=>?_,λp q h=>?_⟩,λx=>?_⟩
 .show a<=p/\p<l.nx;rcases(ff p).1 h with h|⟨_,h⟩
  .have:=sg.fst p h;omega
  .have:=sl.fst p h;omega
 .show a<=p/\p<l.nx;rcases(fl p).1 h with⟨_,h⟩|h
  .have:=sg.lst p h;omega
  .have:=sl.lst p h;omega
 .show a<=p/\p<l.nx;simp only[Lay.seq,Bool.or_eq_true]at h;rcases h with h|h
  .have:=sg.tk p c h;omega
  .have:=sl.tk p c h;omega
 .show(a<=p/\p<l.nx)/\a<=q/\q<l.nx;simp only[Lay.seq,Bool.or_eq_true,Bool.and_eq_true]at h;rcases h with(h|h)|⟨h,k⟩
  .have:=sg.ed p q h;omega
  .have:=sl.ed p q h;omega
  .have:=sg.lst p h;have:=sl.fst q k;omega
 .constructor
  .rintro⟨y,z,rfl,hy,hz⟩;rcases(hg.wd y).1 hy with⟨rfl,e1⟩|⟨c,xs,p,q,rfl,h1,h2,h3,h4⟩
   .rcases(hl.wd z).1 hz with⟨rfl,e2⟩|⟨c,xs,p,q,rfl,h1,h2,h3,h4⟩
    .exact .inl ⟨rfl,by rw[e1,e2];rfl⟩
    .exact .inr ⟨c,xs,p,q,rfl,(ff p).2 (.inr ⟨e1,h1⟩),by simp[Lay.seq,h2],xHh h3,(fl q).2 (.inr h4)⟩
   .rcases(hl.wd z).1 hz with⟨rfl,e2⟩|⟨c',a2,p',q',rfl,k1,k2,k3,k4⟩
    .exact .inr ⟨c,xs,p,q,by simp,(ff p).2 (.inl h1),by simp[Lay.seq,h2],xHi h3,(fl q).2 (.inl ⟨e2,h4⟩)⟩
    .refine .inr ⟨c,xs++c'::a2,p,q',by simp,(ff p).2 (.inl h1),by simp[Lay.seq,h2],(xHi h3).cat (.step ?_ (by simp[Lay.seq,k2]) (xHh k3)),(fl q').2 (.inr k4)⟩;simp[Lay.seq,h4,k1]
  .rintro(⟨rfl,e⟩|⟨c,xs,p,q,rfl,h1,h2,h3,h4⟩)
   .simp only[Bool.and_eq_true]at e;exact⟨[],[],rfl,hg.nul.2 e.1,hl.nul.2 e.2⟩
   .simp only[Lay.seq,Bool.or_eq_true]at h2;rcases(ff p).1 h1 with k1|⟨e1,k1⟩
    .have hp:=sg.fst p k1;have t1:g.tk p c=true:=by
      rcases h2 with h2|h2
      .exact h2
      .have:=sl.tk p c h2;omega
     rcases(yUp sg sl h3).2 hp with k|⟨a1,c1,a0,p1,q1,rfl,k2,k3,k4,k5,k6⟩
     .have hq:=k.in sg hp;rcases(fl q).1 h4 with⟨e2,h4⟩|h4
      .exact⟨c::xs,[],by simp,(hg.wd _).2 (.inr ⟨c,xs,p,q,rfl,k1,t1,k,h4⟩),hl.nul.2 e2⟩
      .have:=sl.lst q h4;omega
     .have hq:=k6.in sl (sl.fst _ k4);rcases(fl q).1 h4 with⟨_,h4⟩|h4
      .have:=sg.lst q h4;omega
      .exact⟨c::a1,c1::a0,by simp,(hg.wd _).2 (.inr ⟨c,a1,p,p1,rfl,k1,t1,k2,k3⟩),(hl.wd _).2 (.inr ⟨c1,a0,q1,q,rfl,k4,k5,k6,h4⟩)⟩
    .have hp:=sl.fst p k1;have t1:l.tk p c=true:=by
      rcases h2 with h2|h2
      .have:=sg.tk p c h2;omega
      .exact h2
     have k:=(yUp sg sl h3).1 hp;have hq:=k.in sl hp;rcases(fl q).1 h4 with⟨_,h4⟩|h4
     .have:=sg.lst q h4;omega
     .exact⟨[],c::xs,rfl,hg.nul.2 e1,(hl.wd _).2 (.inr ⟨c,xs,p,q,rfl,k1,t1,k,h4⟩)⟩
theorem yVj (hg:Spt a g) (hl:Spt g.nx l) (h:Pth (g.alt l) p xs q):
  ((g.nx<=p/\p<l.nx)->Pth l p xs q)/\((a<=p/\p<g.nx)->Pth g p xs q):=by
 induction h with
 |nil p=>exact⟨λ_=>.nil p,λ_=>.nil p⟩
 | @step p p' q c xs he ht h ih=>
   simp only[Lay.alt,Bool.or_eq_true]at he ht;refine⟨λhp=>?_,λhp=>?_⟩
   .rcases he with he|he
    .have:=(hg.ed _ _ he).1;omega
    .have a0:=(hl.ed _ _ he).2;rcases ht with ht|ht
     .have:=hg.tk _ _ ht;omega
     .exact .step he ht (ih.1 a0)
   .rcases he with he|he
    .have a0:=(hg.ed _ _ he).2;rcases ht with ht|ht
     .exact .step he ht (ih.2 a0)
     .have:=hl.tk _ _ ht;omega
    .have:=(hl.ed _ _ he).1;omega
theorem xI4 (h:Pth g p xs q):Pth (g.alt l) p xs q:=h.mono (λp q h=>by simp[Lay.alt,h]) (λp c h=>by simp[Lay.alt,h])
theorem xI3 (h:Pth l p xs q):Pth (g.alt l) p xs q:=h.mono (λp q h=>by simp[Lay.alt,h]) (λp c h=>by simp[Lay.alt,h])
theorem xFn {G:List UInt8->Prop} (hg:Cor a g G em) (hl:Cor g.nx l P nt):Cor a (g.alt l) (λx=>G x∨P x) (em || nt):=by
 have sg:=hg.spt;have sl:=hl.spt;have a1:=sg.le;have a0:=sl.le;refine⟨⟨Nat.le_trans a1 a0,λp h=>?_,λp h=>?_,λp c h=>?_,λp q h=>?_⟩,λx=>?_⟩
 .show a<=p/\p<l.nx;simp only[Lay.alt,sOr,Bool.or_eq_true]at h;rcases h with h|h
  .have:=sg.fst p h;omega
  .have:=sl.fst p h;omega
 .show a<=p/\p<l.nx;simp only[Lay.alt,sOr,Bool.or_eq_true]at h;rcases h with h|h
  .have:=sg.lst p h;omega
  .have:=sl.lst p h;omega
 .show a<=p/\p<l.nx;simp only[Lay.alt,Bool.or_eq_true]at h;rcases h with h|h
  .have:=sg.tk p c h;omega
  .have:=sl.tk p c h;omega
 .show(a<=p/\p<l.nx)/\a<=q/\q<l.nx;simp only[Lay.alt,Bool.or_eq_true]at h;rcases h with h|h
  .have:=sg.ed p q h;omega
  .have:=sl.ed p q h;omega
 .constructor
  .rintro(h|h)
   .rcases(hg.wd x).1 h with⟨rfl,e1⟩|⟨c,xs,p,q,rfl,h1,h2,h3,h4⟩
    .exact .inl ⟨rfl,by rw[e1];rfl⟩
    .exact .inr ⟨c,xs,p,q,rfl,by simp[Lay.alt,sOr,h1],by simp[Lay.alt,h2],xI4 h3,by simp[Lay.alt,sOr,h4]⟩
   .rcases(hl.wd x).1 h with⟨rfl,e1⟩|⟨c,xs,p,q,rfl,h1,h2,h3,h4⟩
    .exact .inl ⟨rfl,by rw[e1,Bool.or_true]⟩
    .exact .inr ⟨c,xs,p,q,rfl,by simp[Lay.alt,sOr,h1],by simp[Lay.alt,h2],xI3 h3,by simp[Lay.alt,sOr,h4]⟩
  .rintro(⟨rfl,e⟩|⟨c,xs,p,q,rfl,h1,h2,h3,h4⟩)
   .simp only[Bool.or_eq_true]at e;rcases e with e|e
    .exact .inl (hg.nul.2 e)
    .exact .inr (hl.nul.2 e)
   .simp only[Lay.alt,sOr,Bool.or_eq_true]at h1 h2 h4;rcases h1 with k1|k1
    .have hp:=sg.fst p k1;have k:=(yVj sg sl h3).2 hp;have hq:=k.in sg hp;refine .inl ((hg.wd _).2 (.inr ⟨c,xs,p,q,rfl,k1,?_,k,?_⟩))
     .rcases h2 with h2|h2
      .exact h2
      .have:=sl.tk p c h2;omega
     .rcases h4 with h4|h4
      .exact h4
      .have:=sl.lst q h4;omega
    .have hp:=sl.fst p k1;have k:=(yVj sg sl h3).1 hp;have hq:=k.in sl hp;refine .inr ((hl.wd _).2 (.inr ⟨c,xs,p,q,rfl,k1,?_,k,?_⟩))
     .rcases h2 with h2|h2
      .have:=sg.tk p c h2;omega
      .exact h2
     .rcases h4 with h4|h4
      .have:=sg.lst q h4;omega
      .exact h4
end
theorem xEo {l:Lay} {r:Bool} (h:Pth l p xs q):Pth (l.rep r) p xs q:=Pth.mono (l:=l) (m:=l.rep r) (λp q k=>by simp[Lay.rep,k]) (λp c k=>k) h
theorem xBc {l:Lay} (h:Pth (l.rep true) p xs q):Pth l p xs q∨∃xs1 c xs2 p1 q1,xs=xs1++c::xs2/\Pth l p xs1 p1/\l.lst p1=true/\l.fst q1=true/\l.tk q1 c=true/\Pth (l.rep true) q1 xs2 q:=by
 induction h with
 |nil p=>exact .inl (.nil p)
 | @step p p' q c xs he ht h ih=>
   simp only[Lay.rep,Bool.or_eq_true,Bool.and_eq_true,true_and]at he ht;rcases he with he|he
   .rcases ih with k|⟨xs1,c1,xs2,p1,q1,rfl,k1,k2⟩
    .exact .inl (.step he ht k)
    .exact .inr ⟨c::xs1,c1,xs2,p1,q1,rfl,.step he ht k1,k2⟩
   .exact .inr ⟨[],c,xs,p,p',rfl,.nil p,he.1,he.2,ht,h⟩
theorem yPo {l:Lay} (hw:∀x,Wd l x->P x):∀(n:Nat) {x:List UInt8},x.length<=n->Wd (l.rep true) x->Pls P x
 |0,x,hn,⟨c,xs,p,q,hx,_⟩=>by subst hx;simp at hn
 |n+1,x,hn,⟨c,xs,p,q,hx,h1,h2,h3,h4⟩=>by
  subst hx
  rcases xBc h3 with k|⟨xs1,c1,xs2,p1,q1,rfl,k1,k2,k3,k4,k5⟩
  .exact .one (hw _ ⟨c,xs,p,q,rfl,h1,h2,k,h4⟩)
  .have e:c::(xs1++c1::xs2)=(c::xs1)++(c1::xs2):=by simp
   rw[e]
   refine .more (hw _ ⟨c,xs1,p,p1,rfl,h1,h2,k1,k2⟩) (yPo hw n ?_ ⟨c1,xs2,q1,q,rfl,k3,k4,k5,h4⟩)
   simp at hn⊢;omega
theorem xFm {l:Lay} (h:Cor a l P em) (o r:Bool):Cor a (l.rep r) (RepL P o r) (o || em):=by
 have s:=h.spt;refine⟨⟨s.le,s.fst,s.lst,s.tk,λp q k=>?_⟩,λx=>?_⟩
 .simp only[Lay.rep,Bool.or_eq_true,Bool.and_eq_true]at k;rcases k with k|⟨⟨_,k1⟩,k2⟩
  .exact s.ed p q k
  .exact⟨s.lst p k1,s.fst q k2⟩
 .cases r with
  |false=>
   have e:∀x,Wd (l.rep false) x↔Wd l x:=λx=>by
    have:l.rep false=l:=by simp[Lay.rep]
    rw[this]
   unfold RepL;rw[if_neg (by decide),e,h.wd];cases o<;>cases em<;>simp
  |true=>
   unfold RepL;rw[if_pos rfl];constructor
   .rintro(⟨rfl,rfl⟩|k)
    .exact .inl ⟨rfl,rfl⟩
    .induction k with
     |one hx=>
      rcases(h.wd _).1 hx with⟨rfl,e⟩|⟨c,xs,p,q,rfl,h1,h2,h3,h4⟩
      .exact .inl ⟨rfl,by rw[e,Bool.or_true]⟩
      .exact .inr ⟨c,xs,p,q,rfl,h1,h2,xEo h3,h4⟩
     | @more x y hx k ih=>
       rcases(h.wd _).1 hx with⟨rfl,e⟩|⟨c,xs,p,q,rfl,h1,h2,h3,h4⟩
       .exact ih
       .rcases ih with⟨rfl,e⟩|⟨c',a0,p',q',rfl,k1,k2,k3,k4⟩
        .exact .inr ⟨c,xs,p,q,by simp,h1,h2,xEo h3,h4⟩
        .refine .inr ⟨c,xs++c'::a0,p,q',by simp,h1,h2,(xEo h3).cat (.step ?_ k2 k3),k4⟩;have a1:l.fst p'=true:=k1;simp[Lay.rep,h4,a1]
   .rintro(⟨rfl,e⟩|k)
    .simp only[Bool.or_eq_true]at e;rcases e with e|e
     .exact .inl ⟨e,rfl⟩
     .exact .inr (.one (h.nul.2 e))
    .exact .inr (yPo (λx hx=>(h.wd x).2 (.inr hx)) _ qr k)
theorem Cor.iff {l:Lay} {Q:List UInt8->Prop} (h:Cor a l P em) (hq:∀x,Q x↔P x):Cor a l Q em:=⟨h.spt,λx=>(hq x).trans (h.wd x)⟩
mutual
theorem yQ7:∀(t:Pat) (a:Nat),Cor a (lyP t a) (Lg t) (nulB t)
 | .byte b,a=>by
   refine(yZ0 a (λc=>c==b) _ (λp c=>rfl)).iff (λx=>?_)
   simp[Lg]
 | .cls f,a=>by
   refine(yZ0 a f _ (λp c=>rfl)).iff (λx=>?_)
   simp[Lg]
 | .rep t o r,a=>by
   have:=xFm (yQ7 t a) o r
   simp only[lyP,nulB,Lg]
   exact this
 | .alt os,a=>by
   have:=xH9 os a (Lay.no a) _ _ (xB7 a)
   simp only[lyP,nulB,Lg]
   refine(show Cor a (lyA os (Lay.no a)) _ (nulA os)from ?_)
   rw[Bool.false_or]at this
   exact this.iff (λx=>by simp)
theorem xH9:∀(os:List (List Pat)) (a:Nat) (g:Lay) (G:List UInt8->Prop) (em:Bool),Cor a g G em->Cor a (lyA os g) (λx=>G x∨LgA os x) (em || nulA os)
 | [],a,g,G,em,h=>by
   simp only[lyA,nulA,LgA,or_false,Bool.or_false]
   exact h
 |ts::os,a,g,G,em,h=>by
  have h1:=xFo ts g.nx (Lay.no g.nx) _ _ (yZ1 g.nx)
  rw[Bool.true_and]at h1
  have h2:=xH9 os a _ _ _ (xFn h h1)
  simp only[lyA,nulA,LgA,<-Bool.or_assoc]
  refine h2.iff (λx=>?_)
  have e:(∃y z,x=y++z/\y= []/\LgS ts z)↔LgS ts x:=by
   constructor
   .rintro⟨y,z,rfl,rfl,h⟩;exact h
   .exact λh=>⟨[],x,rfl,rfl,h⟩
  rw[e,or_assoc]
theorem xFo:∀(ts:List Pat) (a:Nat) (g:Lay) (G:List UInt8->Prop) (em:Bool),Cor a g G em->Cor a (lyS ts em g) (λx=>∃y z,x=y++z/\G y/\LgS ts z) (em && nulS ts)
 | [],a,g,G,em,h=>by
   simp only[lyS,nulS,LgS,Bool.and_true]
   refine h.iff (λx=>?_)
   constructor
   .rintro⟨y,z,rfl,hy,rfl⟩;simpa using hy
   .exact λh=>⟨x,[],by simp,h,rfl⟩
 |t::ts,a,g,G,em,h=>by
  have h2:=xFo ts a _ _ _ (xFl h (yQ7 t g.nx))
  simp only[lyS,nulS,LgS,<-Bool.and_assoc]
  refine h2.iff (λx=>?_)
  constructor
  .rintro⟨y,z,rfl,hy,u,v,rfl,hu,hv⟩;exact⟨y++u,v,by simp,⟨y,u,rfl,hy,hu⟩,hv⟩
  .rintro⟨y,z,rfl,⟨u,v,rfl,hu,hv⟩,hz⟩;exact⟨u,v++z,by simp,hu,v,z,rfl,hv,hz⟩
end
end
def ofB (f:Nat->Bool):Nat->Nat
 |0=>0
 |n+1=>ofB f n |||(if f n=true then 2^n else 0)
theorem yCs (f:Nat->Bool):∀(n j:Nat),(ofB f n).testBit j=(decide (j<n) && f j)
 |0,j=>by simp[ofB]
 |n+1,j=>by
  unfold ofB
  rw[testBit_or,yCs f n j]
  by_cases hf:f n=true
  .rw[if_pos hf,testBit_two_pow]
   by_cases h:j=n
   .subst h;simp[hf]
   .have h1:decide (n=j)=false:=by simp;omega
    have h2:decide (j<n+1)=decide (j<n):=by rw[decide_eq_decide];omega
    rw[h1,h2];simp
  .rw[if_neg hf,zero_testBit]
   by_cases h:j=n
   .subst h;simp[hf]
   .have h2:decide (j<n+1)=decide (j<n):=by rw[decide_eq_decide];omega
    rw[h2];simp
theorem yYy (f:Nat->Bool) (n:Nat):ofB f n<2^n:=by
 refine lt_pow_two_of_testBit _ (λi hi=>?_);rw[yCs];have:decide (i<n)=false:=by simp;omega
 rw[this];rfl
variable {f:Nat->Bool}
theorem yMo {x:Nat} (hx:x<2^n) (h:∀j,j<n->x.testBit j=f j):x=ofB f n:=by
 refine eq_of_testBit_eq (λj=>?_);rw[yCs];by_cases hj:j<n
 .rw[h j hj];simp[hj]
 .rw[testBit_lt_two_pow (Nat.lt_of_lt_of_le hx (Nat.pow_le_pow_right qj qo))];simp[hj]
theorem yGw {g:Nat->Bool} (h:∀j,j<n->f j=g j):ofB f n=ofB g n:=yMo (yYy f n) (λj hj=>by rw[yCs,h j hj];simp[hj])
def wdF (S:PS) (i b:Nat):Nat:=ofB (λj=>S (64*i+j) && decide (b<=j)) 64
def wdN (S:PS) (i:Nat):Nat:=ofB (λj=>S (64*i+j)) 64
theorem xAt S (i:Nat):wdF S i 0=wdN S i:=yGw (λj _=>by simp)
theorem yF3 S (i:Nat):wdN S i<18446744073709551616:=yYy _ 64
theorem xC7 S (i b:Nat):wdF S i b<18446744073709551616:=yYy _ 64
def sAnd (F G:PS):PS:=λi=>F i && G i
theorem xIo S T (i:Nat):bits .or .u64 (wdN S i:Int) (wdN T i:Int)=((wdN (sOr S T) i:Nat):Int):=by rw[bits_or_u64_nat _ _ (yF3 _ _) (yF3 _ _)];congr 1;refine yMo (or_lt_two_pow (yF3 _ _) (yF3 _ _)) (λj hj=>?_);rw[testBit_or];unfold wdN;rw[yCs,yCs];simp[hj,sOr]
theorem xHc S T (i:Nat):bits .and .u64 (wdN S i:Int) (wdN T i:Int)=((wdN (sAnd S T) i:Nat):Int):=by rw[bits_and_u64_nat _ _ (yF3 _ _) (yF3 _ _)];congr 1;refine yMo (and_lt_two_pow _ (yF3 _ _)) (λj hj=>?_);rw[testBit_and];unfold wdN;rw[yCs,yCs];simp[hj,sAnd]
theorem yMy S (a i:Nat) (hi:i=a/64):bits .or .u64 (wdN S i:Int) ((2^(a%64):Nat):Int)=((wdN (sOr S (sOne a)) i:Nat):Int):=by
 have hp:=Nat.pow_lt_pow_right (a:=2) qj (mod_lt a qj:a%64<64);rw[bits_or_u64_nat _ _ (yF3 _ _) hp];congr 1;refine yMo (or_lt_two_pow (yF3 _ _) hp) (λj hj=>?_);rw[testBit_or,testBit_two_pow];unfold wdN;rw[yCs];have h:decide (a%64=j)=(64*i+j==a):=by rw[Bool.eq_iff_iff,decide_eq_true_eq,beq_iff_eq];omega
 simp only[hj,decide_true,Bool.true_and,sOr,sOne,h]
theorem yBf S (a i:Nat) (hi:¬i=a/64):wdN (sOr S (sOne a)) i=wdN S i:=by
 refine yGw (λj hj=>?_);have h:(64*i+j==a)=false:=by rw[beq_eq_false_iff_ne];omega
 simp only[sOr,sOne,h,Bool.or_false]
theorem xFd (x:Nat) (h0:x≠0) (hx:x<18446744073709551616):Lib.ctz 64 x<64/\x.testBit (Lib.ctz 64 x)=true/\(∀j,j<Lib.ctz 64 x->x.testBit j=false)/\∀j,(x &&& (x-1)).testBit j=(decide (Lib.ctz 64 x<j) && x.testBit j):=by
 obtain⟨m,hm,hk⟩:=Lib.ctzFrom_spec 64 x (by omega) hx;have e:Lib.ctz 64 x=Lib.ctzFrom 64 x:=by simp[Lib.ctz,h0]
 rw[e];generalize Lib.ctzFrom 64 x=k at hm hk;have hb:∀j,x.testBit j=(decide (k<=j) && (2*m+1).testBit (j-k)):=λj=>by rw[hm,Nat.mul_comm,testBit_mul_two_pow]
 have hp:0<2^k:=Nat.pow_pos qj;have hd:(x-1)/2^k=2*m:=by
  have h1:x-1=2^k*(2*m)+(2^k-1):=by rw[hm,Nat.mul_add];omega
  rw[h1,mul_add_div hp,div_eq_of_lt (by omega),Nat.add_zero]
 have a0:∀j,k<=j->(x-1).testBit j=(2*m).testBit (j-k):=λj hj=>by rw[<-hd,testBit_div_two_pow];congr 1;omega
 refine⟨hk,by rw[hb];simp,λj hj=>by rw[hb];have:decide (k<=j)=false:=by simp;omega
                                       rw[this];rfl,λj=>?_⟩
 rw[testBit_and,hb j];by_cases h1:k<=j
 .rw[a0 j h1];by_cases h2:j=k
  .subst h2;simp
  .obtain⟨t,rfl⟩:∃t,j=k+(t+1):=⟨j-k-1,by omega⟩;have e3:k+(t+1)-k=t+1:=by omega
   have e4:decide (k<k+(t+1))=true:=by simp
   have d1:(2*m+1)/2=m:=by omega
   have d2:(2*m)/2=m:=by omega
   rw[e3,e4,testBit_succ,testBit_succ,d1,d2];simp
 .have h2:decide (k<=j)=false:=by simp;omega
  have h3:decide (k<j)=false:=by simp;omega
  rw[h2,h3];simp
theorem xE {S:PS} {x:Nat} (hx:x=wdF S i b) (h0:x≠0):Lib.ctz 64 x<64/\S (64*i+Lib.ctz 64 x)=true/\b<=Lib.ctz 64 x/\(∀j,b<=j->j<Lib.ctz 64 x->S (64*i+j)=false)/\x &&& (x-1)=wdF S i (Lib.ctz 64 x+1):=by
 have hl:x<18446744073709551616:=by rw[hx];exact xC7 _ _ _
 obtain⟨h1,h2,h3,h4⟩:=xFd x h0 hl;generalize Lib.ctz 64 x=k at h1 h2 h3 h4;have hb:∀j,j<64->x.testBit j=(S (64*i+j) && decide (b<=j)):=λj hj=>by rw[hx];unfold wdF;rw[yCs];simp[hj]
 rw[hb k h1,Bool.and_eq_true,decide_eq_true_eq]at h2;refine⟨h1,h2.1,h2.2,λj hbj hj=>?_,?_⟩
 .have:=h3 j hj;rw[hb j qo]at this;simpa [hbj]using this
 .refine yMo (and_lt_two_pow _ qo) (λj hj=>?_);rw[h4 j,hb j hj];by_cases q:k<j
  .have q1:decide (k+1<=j)=true:=by simp;omega
   have q2:decide (b<=j)=true:=by have:=h2.2;simp;omega
   rw[q1,q2];simp[q]
  .have q1:decide (k+1<=j)=false:=by simp;omega
   rw[q1];simp[q]
theorem xAu {S:PS} (h:wdF S i b=0) (j:Nat) (hb:b<=j) (hj:j<64):S (64*i+j)=false:=by
 have h1:(wdF S i b).testBit j=(S (64*i+j) && decide (b<=j)):=by unfold wdF;rw[yCs];simp[hj]
 rw[h,zero_testBit]at h1;simpa [hb]using h1.symm
theorem yR5 (x:Nat) (h0:x≠0) (hx:x<18446744073709551616):bits .and .u64 (x:Int) (IntKind.u64.wrap ((x:Int)-1))=((x &&& (x-1):Nat):Int):=by
 have e1:IntKind.u64.wrap ((x:Int)-1)=((x-1:Nat):Int):=by rw[IntKind.wrap_u64];omega
 rw[e1,bits_and_u64_nat x _ hx qo]
def psL (S:PS):List Value:= [.int .u64 (wdN S 0:Int),.int .u64 (wdN S 1:Int),.int .u64 (wdN S 2:Int),.int .u64 (wdN S 3:Int)]
abbrev psV (S:PS):Value:=.agg #[xu (wdN S 0),xu (wdN S 1),xu (wdN S 2),xu (wdN S 3)]
variable {T:PS}
theorem yDc {S:PS} (h:∀p,p<256->S p=T p) (hi:i<4):wdN S i=wdN T i:=yGw (λj hj=>h _ qo)
theorem yF2 (i:Nat):wdN sNo i=0:=by refine(yMo qj (λj _=>?_)).symm;simp[sNo]
theorem xD9 {S:PS} (h:wdN S i=wdN T i) (j:Nat) (hj:j<64):S (64*i+j)=T (64*i+j):=by
 have h1:(wdN S i).testBit j=S (64*i+j):=by unfold wdN;rw[yCs];simp[hj]
 have h2:(wdN T i).testBit j=T (64*i+j):=by unfold wdN;rw[yCs];simp[hj]
 rw[<-h1,<-h2,h]
theorem yO1 {S:PS} (h:∀i,i<4->wdN S i=wdN T i) (p:Nat) (hp:p<256):S p=T p:=by have:=xD9 (h (p/64) (by omega)) (p%64) (by omega);rwa [show 64*(p/64)+p%64=p by omega]at this
def TabD (w:World):Prop:=∀j,j<64->(xk w 1 j (.int .u8 (Lib.deBruijn64tab.getD j 0)):Prop)
theorem TabD.lt (h:TabD w):1<w.heap.size:=by have h0:=h 0 qo;apply Classical.byContradiction;intro hn;rw[World.cell?,Array.getElem?_eq_none (by simp only;omega)]at h0;simp at h0
theorem xE7 (x a:Nat) (hx:x<18446744073709551616) (hx0:x≠0) (hlow:x &&& (18446744073709551616-x)=a):
  IntKind.u64.wrap (bits BinOp.and IntKind.u64 (x:Int) (IntKind.u64.wrap (-(x:Int)))*285870213051353865)/288230376151711744=((a*285870213051353865%18446744073709551616/288230376151711744:Nat):Int):=by
 have e1:IntKind.u64.wrap (-(x:Int))=((18446744073709551616-x:Nat):Int):=by rw[IntKind.wrap_u64];omega
 rw[e1,bits_and_u64_nat x _ hx qo,hlow,IntKind.wrap_u64];omega
theorem xIp (x k idx:Nat) (w:World) (hx0:((x:Int)==0)=false)
  (key:IntKind.u64.wrap (bits BinOp.and IntKind.u64 (x:Int) (IntKind.u64.wrap (-(x:Int)))*285870213051353865)/288230376151711744=(idx:Int))
  (hi:idx<64) (hk:k<64) (hcell:(xk w 1 idx (.int .u8 k):Prop)):
  Calls prog 258 #[xu x] w λe w'=>e=.returned (xi k)/\w'=w:=by
 go_enter func258,ntmps258;go_wp2_with (simp only[key]);go_ret;exact⟨rfl,rfl⟩
theorem xEb (x:Nat) (hx:x<18446744073709551616) (hx0:x≠0) w (hT:TabD w):Calls prog 258 #[xu x] w λe w'=>e=.returned (xi (Lib.ctz 64 x))/\w'=w:=by obtain⟨a2,hk⟩:=Lib.lowest_bit 64 x hx0 hx;obtain⟨hi,a1⟩:=Lib.deBruijn64_at _ hk;have a0:=hT _ hi;rw[a1]at a0;exact xIp x _ _ w (by simp;omega) (xE7 x _ hx hx0 a2) hi hk a0
theorem xBg S {k:Nat} (hk:k<4) (w:World):(Instr.index 328 (psV S) (xi k)).run prog w=.ok (xu (wdN S k)) w:=by rcases(by omega:k=0∨k=1∨k=2∨k=3)with rfl|rfl|rfl|rfl<;>kernel_rfl
theorem yWl S (l m:Nat) (hm:1<=m) (J:Nat->World->Prop)
  (hY:∀k x W,J k W->k<=x->x<256->S x=true->(∀j,k<=j->j<x->S j=false)->YieldAt Fence.wide (m-1) prog l #[xi x] W λe W'=>e=.returned true/\J (x+1) W')
  (hJs:∀k k' W,J k W->k<=k'->(∀j,k<=j->j<k'->S j=false)->J k' W) (hJd:∀k W,J k W->J k W.drew) (hJa:∀k W (o:Obj),J k W->J k (W.alloc o)) (hJt:∀k W,J k W->TabD W) (W:World) (h0:J 0 W):
  CallsIn Fence.wide m prog 246 #[psV S,.func (.yield l) #[] #[]] W λe W'=>(∃v,e=.returned v)/\J 256 W':=by
 have aa:Hid (J 0 (xw W (psL S).toArray 328)):=hJa _ _ _ h0;refine callsIn_of_wp func246 rfl trivial ?_ rfl;simp only[ntmps246,size_toArray,length_cons,length_nil,Nat.reduceAdd,Nat.reduceSub,Array.replicate_succ,Array.replicate_zero,push_toArray,append_toArray,nil_append,cons_append];gi_wp2;gi_loopw [7] (λiv wr=>∃i:Nat,i<=4/\iv=(xi i)/\J (64*i) wr) (λiv _=>4-(intOf iv).toNat);case atStart=>exact⟨0,by omega,rfl,aa.out⟩
 case round=>
  obtain⟨i,hi,rfl,a2⟩:=hrel;by_cases hlt:i<4
  .have zi:(i:Int)<4:=by omega
   have ab:=λw=>xBg S hlt w;have a3:Hid (J (64*i) wr):=a2;clear a2;gi_wp2;gi_loopw [5] (λxv wr=>∃x b:Nat,xv=(xu x)/\Hid (x=wdF S i b)/\b<=64/\Hid (J (64*i+b) wr)) (λxv _=>(intOf xv).toNat);case atStart=>exact⟨wdN S i,0,rfl,(xAt S i).symm,by omega,a3.out⟩
   case round=>
    obtain⟨x,b,rfl,HX,hb,a0⟩:=hrel;by_cases hx0:x=0
    .subst hx0;have hn:Hid (J (64*(i+1)) wr):=hJs _ _ _ a0.out (by omega) (λj h1 h2=>by
      have:=xAu HX.symm (j-64*i) (by omega) (by omega)
      rwa [show 64*i+(j-64*i)=j by omega]at this)
     clear a0 HX a3;gi_wp2;go_roundw;case rel=>exact⟨i+1,qo,by go_num,hn.out⟩
     case measure=>simp[intOf];omega
    .have a5:x<18446744073709551616:=by rw[HX.out];exact xC7 _ _ _
     obtain⟨h1,h2,h3,h4,h5⟩:=xE HX.out hx0;have HT:=xEb x a5 hx0 wr (hJt _ _ a0.out);obtain⟨k,hk⟩:=qE (Lib.ctz 64 x);rw[<-hk]at h1 h2 h3 h4 h5 HT;obtain⟨fn,tmps,assign,body,hy,hR⟩:=hY _ (64*i+k) wr a0.out qo (by omega) h2 (λj q1 q2=>by
      have:=h4 (j-64*i) (by omega) (by omega)
      rwa [show 64*i+(j-64*i)=j by omega]at this)
     have e0:((64*i+k:Nat):Int)=(i:Int)*64+(k:Int):=by omega
     rw[e0]at hy;have zx:((x:Int)==0)=false:=by simp;omega
     have HN:Hid (x &&& (x-1)=wdF S i (k+1)/\x &&& (x-1)<x):=⟨h5,qw (and_le_right (n:=x) (m:=x-1))⟩;have a1:bits .and .u64 (x:Int) ((x:Int)-1)=((x &&& (x-1):Nat):Int):=by have:=yR5 x hx0 a5;rwa [IntKind.wrap_u64,Int.emod_eq_of_lt (by omega) (by omega)]at this
     have a8:Hid (Calls prog 258 #[xu x] wr λe w'=>e=.returned (xi k)/\w'=wr):=HT;obtain⟨y,a4⟩:=qE (x &&& (x-1));rw[<-a4]at a1 HN;clear HT hk h2 h3 h4 h5 a3 a0 e0 a4;gi_wp2;refine⟨trivial,(callsIn_wide.2 a8.out).mono ?_⟩;rintro e w' ⟨rfl,a6⟩;rw[a6];clear a6 a8;gi_wp2;refine hR.mono ?_;rintro e W3 ⟨rfl,a7⟩;have a9:Hid (J (64*i+(k+1)) W3):=a7;clear a7 hR hy;gi_wp2_with (simp only[a1]);go_roundw;case rel=>exact⟨y,k+1,by first|rfl|rw[a1],HN.1,by omega,a9.out⟩
     case measure=>have:=HN.2;simp[intOf,a1];omega
  .obtain rfl:i=4:=by omega
   gi_wp2;go_end0;exact⟨⟨_,rfl⟩,a2⟩
variable {Q:Exit->Act->World->Prop} {a:Act}
theorem yH5 {g:Operand} {ps:Array Tmp} {assign body:Code} (h1:2<=n) (S:PS)
  (hg:a.eval g=.func (.func 246) #[psV S] #[]) (hps:ps.size=1) (I:Nat->World->Prop) (hI:OwnFrom w.heap.size I) (hIt:∀k W,I k W->TabD W)
  (hIs:∀k k' W,I k W->k<=k'->(∀j,k<=j->j<k'->S j=false)->I k' W) (h0:I 0 w) (a₁:Nat->Act)
  (hassign:∀(l x:Nat) (W:World) (K:Act->World->Prop),K (a₁ x) W->assign.wpIn (Fence.wide.inRound l) (n-1-1) prog (Exit.then K (λ_ _ _=>False)) {tmps:=(ps.zip #[.int .i64 (x:Int)]).foldl (λt (p,v)=>t.setIfInBounds p v) a.tmps,defers:= []} W)
  (hbody:∀(l k x:Nat) (W:World),I k W->k<=x->x<256->S x=true->(∀j,k<=j->j<x->S j=false)->body.wpIn (Fence.wide.inRound l) (n-1-1) prog (λe _ W'=>e=.normal/\KeepsFrom w W W'/\I (x+1) W') (a₁ x) W)
  (hdone:∀(D:Nat) (W:World),w.heap.size<=D->I 256 W->W.heap[D]?=some (.deferred (some []))->Q .normal {a with defers:={target:=.collected D,args:=#[]}::a.defers} W):
  (Code.rangeFunc g ps assign body).wpIn Fence.wide n prog Q a w:=by
 refine wpIn_rangeFunc ?_;intro fn aa;obtain⟨rec,a0⟩:∃rec:LoopState->Option Code->Loop,rec=λst pe=>{state:=st,pending:=pe,fn,tmps:=a.tmps,params:=ps,assign,body,defers:=w.heap.size}:=⟨_,rfl⟩;obtain⟨W1,a2⟩:∃W1,(w.alloc (.deferred (some []))).alloc (.loop (rec .ready none))=W1:=⟨_,rfl⟩;have ac:W1.heap[w.heap.size+1]?=some (.loop (rec .ready none)):=by rw[<-a2];have:=World.alloc_heap_new (w.alloc (.deferred (some []))) (.loop (rec .ready none));rwa [World.size_alloc]at this
 have ad:W1.heap[w.heap.size]?=some (.deferred (some [])):=by rw[<-a2];exact(Below.heap_alloc _ _ _ (by simp)).trans (World.alloc_heap_new w _)
 have ae:I 0 W1:=by rw[<-a2];exact hI.alloc _ (hI.alloc _ h0)
 refine⟨w+1,[{target:=.collected w.heap.size,args:=#[]}],W1,{target:=.fn (.func 246) #[],args:=#[psV S,.func (.yield (w.heap.size+1)) #[] #[]]},W1,246,
  #[psV S,.func (.yield (w.heap.size+1)) #[] #[]],W1,?_,?_,λ_ _=>trivial,?_,λ_=>qo,?_⟩
 .rw[<-a2,a0];exact run_enterLoop_outer _ _ _ _ _
 .simp only[resolve,hg];simp[go_sem]
 .simp[invoke,go_sem]
 .have a4:∀(k:Nat) {A B:World} {row:Option Nat},(I k A/\A.heap[w.heap.size+1]?=some (.loop (rec .ready none))/\A.heap[w.heap.size]?=some (.deferred (some [])))->A.grownBy B none->(I k B/\B.heap[w.heap.size+1]?=some (.loop (rec .ready none))/\B.heap[w.heap.size]?=some (.deferred (some []))):=λk A B row h hgr=>
   ⟨hI k A B none h.1 hgr (λr e=>by cases e),(hgr.block _ (Array.getElem?_eq_some_iff.1 h.2.1).1 (by simp)).trans h.2.1,(hgr.block _ (Array.getElem?_eq_some_iff.1 h.2.2).1 (by simp)).trans h.2.2⟩
  refine(yWl S (w.heap.size+1) (n-1) qo (λk W=>I k W/\W.heap[w.heap.size+1]?=some (.loop (rec .ready none))/\W.heap[w.heap.size]?=some (.deferred (some []))) ?_ (λk k' W h q1 q2=>⟨hIs k k' W h.1 q1 q2,h.2⟩) (λk W h=>a4 k (row:=none) h ⟨rfl,rfl,rfl,Nat.le_refl _,λ_ _ _=>rfl⟩) (λk W o h=>a4 k (row:=none) h (World.grownBy_alloc W o none)) (λk W h=>hIt k W h.1) W1 ⟨ae,ac,ad⟩).mono ?_
  .rintro k x W ⟨hi,hl,hk⟩ a7 hx hS ab;have a6:=(Array.getElem?_eq_some_iff.1 hl).1;have hy:=run_yield (P:=prog) (args:=#[.int .i64 (x:Int)]) hl (by rw[a0];exact hps.symm);rw[a0]at hy;refine⟨fn,_,assign,body,hy,roundIn_of_wpIn aa (hassign _ x W _ ⟨_,run_beginRound hl (by rw[a0]),?_⟩)⟩;have hl2:(W.putObj (w+1) (.loop {rec .ready none with state:=.busy})).heap[w.heap.size+1]?=some (.loop {rec .ready none with state:=.busy}):=World.putObj_heap_same a6;have a8:(W.putObj (w+1) (.loop {rec .ready none with state:=.busy})).heap[w.heap.size]?=some (.deferred (some [])):=(World.putObj_heap_other qo).trans hk;refine wpIn_mono (hbody _ k x _ (hI.putObj _ hi qo hl rfl) a7 hx hS ab) ?_;rintro e a3 W3 ⟨rfl,a5,a9⟩;have a1:=a5.same _ _ qo hl2 rfl;have hr:=run_endRound (P:=prog) none a1;rw[a0]at hr a1;refine⟨_,_,hr,rfl,hI.putObj _ a9 qo a1 rfl,?_,(World.putObj_heap_other qo).trans (a5.same _ _ qr a8 rfl)⟩;rw[a0];exact World.putObj_heap_same (Array.getElem?_eq_some_iff.1 a1).1
  .rintro e W2 ⟨⟨v,rfl⟩,hi,hl,hk⟩;exact⟨none,_,by have:=run_endLoop (P:=prog) hl (by rw[a0];simp);rw[a0]at this;exact this,hdone _ _ qr (hI.putObj _ hi qo hl rfl) ((World.putObj_heap_other qo).trans hk)⟩
section
section
variable {P:Program} {ops:Array Oper} {Q:Exit->Act->World->Prop} {md:Region.Mode} {S:World->Prop} {L:Nat}
def AnyT (P:Program) (md:Region.Mode) (ops:Array Oper) (Q:Exit->Act->World->Prop) (S:World->Prop) (L:Nat):Nat->Array Bool->Act->World->Prop
 |0,listed,a,w=>Region.ready md ops listed= []/\Q .normal a w
 |fuel+1,listed,a,w=>
  (Region.ready md ops listed= []->Q .normal a w)/\
  ∀i∈Region.ready md ops listed,wpOp P ops Q i (λa' w'=>(i=L∨S w')/\AnyT P md ops Q S L fuel (listed.setIfInBounds i true) a' w') a w
theorem yOx:∀(fuel:Nat) (listed:Array Bool) (a:Act) (w:World),AnyT P md ops Q S L fuel listed a w->wpAny P md ops Q fuel listed a w
 |0,_,_,_,h=>h
 |fuel+1,_,_,_,h=>⟨h.1,λi hi=>wpOp_mono (λa' w' h'=>yOx fuel _ a' w' h'.2) (h.2 i hi)⟩
def yDy (md:Region.Mode) (ops:Array Oper) (L i:Nat):Bool:=((ops[L]?).map (λo=>o.after.any λe=>Region.binds md e && e.on==i)).getD false
variable {oi:Oper}
theorem yXh {v:Value} (hi:ops[i]?=some oi) (hsel:∀(j:Nat) (o:Oper) cs b,ops[j]?=some o->o.op≠ .select cs b)
  (hQ:∀c a w,Q (.panic c) (a.put oi.dst v) w->Q (.panic c) a w) (hL:yDy md ops L i=true) (hne:i≠L):
  ∀(fuel:Nat) (listed:Array Bool) (a:Act) (w:World),
   (∀j oj,ops[j]?=some oj->j≠i->listed.getD j true=false->(∀e∈oj.after,Region.binds md e=true->e.on≠i)->oi.apart ops oj=true)->
   i∈Region.ready md ops listed->YieldsIf P ops S oi v a->S w->
   AnyT P md ops Q S L fuel (listed.setIfInBounds i true) (a.put oi.dst v) w->AnyT P md ops Q S L (fuel+1) listed a w:=by
 intro fuel;induction fuel with
 |zero=>
  intro listed a w _ hr hy hS H;refine⟨λh=>(by rw[h]at hr;cases hr),λj hj=>?_⟩;by_cases hji:j=i
  .subst hji;exact hy.wpOp hi hS ⟨.inr hS,H⟩
  .have:=ready_mono hj hji;rw[H.1]at this;cases this
 |succ fuel ih=>
  intro listed a w a3 hr hy hS H;refine⟨λh=>(by rw[h]at hr;cases hr),λj hj=>?_⟩;by_cases hji:j=i
  .subst hji;exact hy.wpOp hi hS ⟨.inr hS,H⟩
  .have h1:=H.2 j (ready_mono hj hji);obtain⟨a2,oj,a0,a6⟩:=mem_ready.1 hj;have a1:∀e∈oj.after,Region.binds md e=true->e.on≠i:=λe he hb heq=>by
    have h1:=a6 e he hb;have h0:=(mem_ready.1 hr).1;rw[heq]at h1;rcases Nat.lt_or_ge i listed.size with h'|h'
    .simp[h']at h0 h1;rw[h0]at h1;cases h1
    .simp[Array.getElem?_eq_none h']at h1
   have a4:j≠L:=λq=>by subst q;unfold yDy at hL;rw[a0]at hL;simp only[Option.map_some,Option.getD_some,Array.any_eq_true]at hL;obtain⟨k,hk,hb⟩:=hL;rw[Bool.and_eq_true,beq_iff_eq]at hb;exact a1 _ (Array.getElem_mem hk) hb.1 hb.2
   have h2:=wpOp_putIf a0 (a3 j oj a0 hji a2 a1) (λcs b=>hsel i oi cs b hi) (λcs b=>hsel j oj cs b a0) hQ hy h1
   have a5:∀k ok,ops[k]?=some ok->k≠i->(listed.setIfInBounds j true).getD k true=false->
     (∀e∈ok.after,Region.binds md e=true->e.on≠i)->oi.apart ops ok=true:=λk ok hk hki hun hno=>by
    refine a3 k ok hk hki ?_ hno;by_cases hjk:j=k
    .subst hjk;exact a2
    .rw[getD_set_ne true hjk]at hun;exact hun
   refine wpOp_mono (λa' w' h3=>⟨h3.2.1,ih (listed.setIfInBounds j true) a' w' a5 (ready_mono hr (Ne.symm hji)) h3.1 (h3.2.1.resolve_left a4) ?_⟩) h2;rw[Array.setIfInBounds_comm _ _ hji];exact h3.2.2
theorem yB9 {v:Value} {listed:Array Bool} (hi:ops[i]?=some oi)
  (hs:Region.noSelect ops=true) (hf:Region.free md ops listed i=true) (hr:(Region.ready md ops listed).contains i=true) (hL:yDy md ops L i=true) (hne:i≠L)
  (hQ:∀c a w,Q (.panic c) (a.put oi.dst v) w->Q (.panic c) a w) (hy:YieldsIf P ops S oi v a) (hS:S w)
  (h:AnyT P md ops Q S L fuel (listed.setIfInBounds i true) (a.put oi.dst v) w):AnyT P md ops Q S L (fuel+1) listed a w:=
 yXh hi (Region.noSelect_spec hs) hQ hL hne fuel listed a w (Region.free_spec hi hf) (by simpa using hr) hy hS h
variable {o:Oper}
theorem yOy {listed:Array Bool} (hr:Region.ready md ops listed= [i]) (ho:ops[i]?=some o)
  (h:∀K':Act->World->Prop,Shut (∀a w,(i=L∨S w)->AnyT P md ops Q S L fuel (listed.setIfInBounds i true) a w->K' a w)->if Region.wanted o (yielded ops a.tmps)=true then Oper.wp P o a w K' Q else K' (a.put o.dst undef) w):
  AnyT P md ops Q S L (fuel+1) listed a w:=by
 exact xF6
theorem yB2 {q:Oper} {listed:Array Bool} (hr:Region.ready md ops listed= [i,j]) (ho:ops[i]?=some o) (hq:ops[j]?=some q)
  (h:∀K':Act->World->Prop,Shut (∀a w,(i=L∨S w)->AnyT P md ops Q S L fuel (listed.setIfInBounds i true) a w->K' a w)->if Region.wanted o (yielded ops a.tmps)=true then Oper.wp P o a w K' Q else K' (a.put o.dst undef) w)
  (h':∀K':Act->World->Prop,Shut (∀a w,(j=L∨S w)->AnyT P md ops Q S L fuel (listed.setIfInBounds j true) a w->K' a w)->if Region.wanted q (yielded ops a.tmps)=true then Oper.wp P q a w K' Q else K' (a.put q.dst undef) w):
  AnyT P md ops Q S L (fuel+1) listed a w:=by
 refine⟨λh0=>(by rw[hr]at h0;cases h0),λk hk=>?_⟩;rw[hr]at hk;simp at hk;rcases hk with rfl|rfl
 .exact wpOp_step ho (λK' hK=>h K' (λa w hS hW=>hK a w ⟨hS,hW⟩))
 .exact wpOp_step hq (λK' hK=>h' K' (λa w hS hW=>hK a w ⟨hS,hW⟩))
theorem xAa {listed:Array Bool} (hr:Region.ready md ops listed= []) (h:Q .normal a w):AnyT P md ops Q S L fuel listed a w:=by exact xDs
variable {id:Nat}
theorem yAf (L:Nat) (S:World->Prop) (hm:P.follows .mixedOrders=true)
  (h:AnyT P .any ops Q S L ops.size (Array.replicate ops.size false) a w.drew):(Code.region id ops true).wp P Q a w:=
 wp_region_any hm (yOx _ _ _ _ h)
end
end
section
section
variable {P:Program} {ops:Array Oper} {Q:Exit->Act->World->Prop} {md:Region.Mode} {S:World->Prop} {L:Nat} {oi:Oper}
theorem yT7 {v:Value} (hi:ops[i]?=some oi) (hsel:∀(j:Nat) (o:Oper) cs b,ops[j]?=some o->o.op≠ .select cs b)
  (hQ:∀c a w,Q (.panic c) (a.put oi.dst v) w->Q (.panic c) a w) (hL:ops[L]?=none):
  ∀(fuel:Nat) (listed:Array Bool) (a:Act) (w:World),
   (∀j oj,ops[j]?=some oj->j≠i->listed.getD j true=false->(∀e∈oj.after,Region.binds md e=true->e.on≠i)->oi.apart ops oj=true)->
   i∈Region.ready md ops listed->YieldsIf P ops S oi v a->S w->
   AnyT P md ops Q S L fuel (listed.setIfInBounds i true) (a.put oi.dst v) w->AnyT P md ops Q S L (fuel+1) listed a w:=by
 intro fuel;induction fuel with
 |zero=>
  intro listed a w _ hr hy hS H;refine⟨λh=>(by rw[h]at hr;cases hr),λj hj=>?_⟩;by_cases hji:j=i
  .subst hji;exact hy.wpOp hi hS ⟨.inr hS,H⟩
  .have:=ready_mono hj hji;rw[H.1]at this;cases this
 |succ fuel ih=>
  intro listed a w a2 hr hy hS H;refine⟨λh=>(by rw[h]at hr;cases hr),λj hj=>?_⟩;by_cases hji:j=i
  .subst hji;exact hy.wpOp hi hS ⟨.inr hS,H⟩
  .have h1:=H.2 j (ready_mono hj hji);obtain⟨a1,oj,a0,a6⟩:=mem_ready.1 hj;have a3:∀e∈oj.after,Region.binds md e=true->e.on≠i:=λe he hb heq=>by
    have h1:=a6 e he hb;have h0:=(mem_ready.1 hr).1;rw[heq]at h1;rcases Nat.lt_or_ge i listed.size with h'|h'
    .simp[h']at h0 h1;rw[h0]at h1;cases h1
    .simp[Array.getElem?_eq_none h']at h1
   have a4:j≠L:=λq=>by rw[q,hL]at a0;cases a0
   have h2:=wpOp_putIf a0 (a2 j oj a0 hji a1 a3) (λcs b=>hsel i oi cs b hi) (λcs b=>hsel j oj cs b a0) hQ hy h1
   have a5:∀k ok,ops[k]?=some ok->k≠i->(listed.setIfInBounds j true).getD k true=false->
     (∀e∈ok.after,Region.binds md e=true->e.on≠i)->oi.apart ops ok=true:=λk ok hk hki hun hno=>by
    refine a2 k ok hk hki ?_ hno;by_cases hjk:j=k
    .subst hjk;exact a1
    .rw[getD_set_ne true hjk]at hun;exact hun
   refine wpOp_mono (λa' w' h3=>⟨h3.2.1,ih (listed.setIfInBounds j true) a' w' a5 (ready_mono hr (Ne.symm hji)) h3.1 (h3.2.1.resolve_left a4) ?_⟩) h2;rw[Array.setIfInBounds_comm _ _ hji];exact h3.2.2
theorem yFu {v:Value} {listed:Array Bool} (hi:ops[i]?=some oi)
  (hs:Region.noSelect ops=true) (hf:Region.free md ops listed i=true) (hr:(Region.ready md ops listed).contains i=true) (hL:ops[L]?=none)
  (hQ:∀c a w,Q (.panic c) (a.put oi.dst v) w->Q (.panic c) a w) (hy:YieldsIf P ops S oi v a) (hS:S w)
  (h:AnyT P md ops Q S L fuel (listed.setIfInBounds i true) (a.put oi.dst v) w):AnyT P md ops Q S L (fuel+1) listed a w:=
 yT7 hi (Region.noSelect_spec hs) hQ hL fuel listed a w (Region.free_spec hi hf) (by simpa using hr) hy hS h
end
end
abbrev slV (r n c:Nat):Value:=(xg r n c)
def bsV (N:Nat) (f:Nat->Bool):List Value:=(List.range N).map (λj=>(f j))
theorem yT1 (N:Nat) (f:Nat->Bool):(bsV N f).length=N:=by simp[bsV]
variable {N:Nat}
theorem yT2 (h:j<N):(bsV N f)[j]?=some (.bool (f j)):=by simp[bsV,h]
def upd1 (f:Nat->Bool) (j:Nat) (b:Bool):Nat->Bool:=λx=>if x=j then b else f x
def upd2 (f:Nat->Nat->Bool) (i j:Nat) (b:Bool):Nat->Nat->Bool:=λx y=>if x=i/\y=j then b else f x y
theorem xFs {b:Bool} (h:j<N):(bsV N f).set j b=bsV N (upd1 f j b):=by
 apply ext_getElem?;intro i;rcases Nat.lt_or_ge i N with hi|hi
 .rw[yT2 hi];by_cases e:i=j
  .subst e;rw[getElem?_set_self (by rw[yT1];exact hi)];simp[upd1]
  .rw[getElem?_set_ne (λq=>e q.symm),yT2 hi];simp[upd1,e]
 .rw[getElem?_eq_none (by simp[yT1];exact hi),getElem?_eq_none (by simp[yT1];exact hi)]
def BRow (w:World) (base r c N:Nat) (f:Nat->Bool):Prop:=w.ownsRow base 4 1 (slV r N c) N (bsV N f)
def yNl (N k:Nat) (ρ γ:Nat->Nat):List Value:=(List.range k).map (λi=>slV (ρ i) N (γ i))
def ORow (w:World) (base g cp N k:Nat) (ρ γ:Nat->Nat):Prop:=w.ownsRow base 118 1 (slV g k cp) k (yNl N k ρ γ)
variable {r:Nat}
theorem BRow.lt {c:Nat} (h:BRow w base r c N f):base<=r/\r<w.heap.size:=World.ownsRow.lt h r rfl
variable {k:Nat} {ρ γ:Nat->Nat}
theorem ORow.lt {g:Nat} (h:ORow w base g cp N k ρ γ):base<=g/\g<w.heap.size:=World.ownsRow.lt h g rfl
theorem BRow.chg {S:Nat->Prop} {c:Nat} (h:BRow w base r c N f) (hc:Chg S w w') (hn:¬S r):BRow w' base r c N f:=yAh h hc (λk hk=>by simp[Value.ownBlock]at hk;subst hk;exact hn)
theorem ORow.chg {S:Nat->Prop} {g:Nat} (h:ORow w base g cp N k ρ γ) (hc:Chg S w w') (hn:¬S g):ORow w' base g cp N k ρ γ:=yAh h hc (λk hk=>by simp[Value.ownBlock]at hk;subst hk;exact hn)
theorem BRow.off {c base' g N':Nat} (h:BRow w base r c N f) (h':ORow w base' g cp N' k ρ γ):r≠g:=λq=>yAb h h' qj r rfl (by rw[q];rfl)
theorem BRow.caps {c:Nat} (h:BRow w base r c N f):N<=c/\c<=maxLen:=by exact yMx
theorem ORow.caps {g:Nat} (h:ORow w base g cp N k ρ γ):k<=cp/\cp<=maxLen:=by exact yMx
structure MatO (w:World) (base g cp N k:Nat) (ρ γ:Nat->Nat) (f:Nat->Nat->Bool):Prop where
 out:ORow w base g cp N k ρ γ
 row:∀i,i<k->BRow w base (ρ i) (γ i) N (f i)
 inj:∀i j,i<k->j<k->i≠j->ρ i≠ρ j
variable {f:Nat->Nat->Bool}
theorem MatO.chg {S:Nat->Prop} {g:Nat} (h:MatO w base g cp N k ρ γ f) (hc:Chg S w w') (h1:¬S g) (h2:∀i,i<k->¬S (ρ i)):MatO w' base g cp N k ρ γ f:=
 ⟨h.out.chg hc h1,λi hi=>(h.row i hi).chg hc (h2 i hi),h.inj⟩
theorem MatO.below {g:Nat} (h:MatO w base g cp N k ρ γ f) (hb:Below w w w'):MatO w' base g cp N k ρ γ f:=h.chg (S:=λ_=>False) (Chg.of_below hb) (λq=>q) (λ_ _ q=>q)
theorem MatO.cell {g:Nat} (h:MatO w base g cp N k ρ γ f) (hi:i<k):(xk w g i (slV (ρ i) N (γ i)):Prop):=by rw[World.ownsRow.cellAt h.out i qo];simp[yNl,hi]
theorem BRow.cell {c:Nat} {f:Nat->Bool} (h:BRow w base r c N f) (hj:j<N):w.cell? (xd r j)=some (.bool (f j)):=by rw[World.ownsRow.cellAt h j qo,yT2 hj]
theorem BRow.set {c:Nat} {f:Nat->Bool} (h:BRow w base r c N f) (hj:j<N) (b:Bool):BRow (xt w r j b) base r c N (upd1 f j b):=by have:=(World.ownsRow.stored h j b).1;rw[xFs hj]at this;exact this
theorem MatO.set {g:Nat} (h:MatO w base g cp N k ρ γ f) (hi:i<k) (hj:j<N) (b:Bool):MatO (xt w (ρ i) j b) base g cp N k ρ γ (upd2 f i j b):=by
 have a0:Chg (λx=>x=ρ i) w (xt w (ρ i) j b):=Chg.of_set _ _ _ _ rfl;refine⟨h.out.chg a0 (λq=>(h.row i hi).off h.out q.symm),λx hx=>?_,h.inj⟩;by_cases e:x=i
 .subst e;have h9:=(h.row x hx).set hj b;have e2:upd1 (f x) j b=upd2 f x j b x:=by funext y;simp[upd1,upd2]
  rw[e2]at h9;exact h9
 .have h9:=(h.row x hx).chg a0 (h.inj x i hx hi e);have e2:f x=upd2 f i j b x:=by funext y;simp[upd2,e]
  rw[e2]at h9;exact h9
structure MatR (w:World) (g N:Nat) (ρ γ:Nat->Nat) (f:Nat->Nat->Bool):Prop where
 lt:g<w.heap.size
 out:∀i,i<N->(xk w g i (slV (ρ i) N (γ i)):Prop)
 rlt:∀i,i<N->ρ i<w.heap.size
 row:∀i j,i<N->j<N->(xk w (ρ i) j (f i j):Prop)
 cap:∀i,i<N->N<=γ i/\γ i<=maxLen
theorem MatO.read {g:Nat} (h:MatO w base g cp N N ρ γ f):MatR w g N ρ γ f:=
 ⟨h.out.lt.2,λi hi=>h.cell hi,λi hi=>(h.row i hi).lt.2,λi j hi hj=>(h.row i hi).cell hj,λi hi=>(h.row i hi).caps⟩
theorem MatR.below {g:Nat} (h:MatR w g N ρ γ f) (hb:Below B w w') (hB:w.heap.size<=B):MatR w' g N ρ γ f:=
 ⟨Nat.lt_of_lt_of_le h.lt hb.size,λi hi=>by rw[hb.cell (p:=(xd g i)) (Nat.lt_of_lt_of_le h.lt hB)];exact h.out i hi,λi hi=>Nat.lt_of_lt_of_le (h.rlt i hi) hb.size,λi j hi hj=>by rw[hb.cell (p:=(xd (ρ i) j)) (Nat.lt_of_lt_of_le (h.rlt i hi) hB)];exact h.row i j hi hj,h.cap⟩
def MaP (N:Nat) (f:Nat->Nat->Bool) (w:World) (r:Ending) (w':World):Prop:=∃g cp ρ γ,r=.returned (slV g N cp)/\Hid (MatO w' w g cp N N ρ γ f)/\Below w w w'
theorem Tryz.infoBo:(prog.info? 4).map (λi=>(i.zero,i.size,i.bytes))=some (some (.bool false),1,1):=qk
theorem Tryz.infoBoS:(prog.info? 118).map (λi=>(i.zero,i.size,i.bytes))=some (some (.slice none 0 0),1,24):=qk
variable {o:Oper}
theorem yIm {ops:Array Oper} (w:World) (hgd:o.guard=none) s x
  (ho:o.op=.call {callee:=.builtin .append,args:=#[s,x],argTypes:=#[118,118]})
  (base r c k b cx:Nat) (f:Nat->Bool) (v:Bool) (hs:a.eval s=slV r k c) (hx:a.eval x=(xg b 1 cx)) (hO:BRow w base r c k f)
  (hc:(xk w b 0 v:Prop)) (hf:f k=v) (hlen:k<=2^20) (hbase:base<=w.heap.size)
  (h:∀r' c' w',BRow w' base r' c' (k+1) f->w.grownBy w' (some r)->(r'=r∨r'=w.heap.size)->wpList prog ops Q rest (a.put o.dst (slV r' (k+1) c')) w'):wpList prog ops Q (o::rest) a w:=by
 obtain⟨i,hi,a4,a3,a2⟩:=info_parts Tryz.infoBo;refine wpList_append_own_at w hgd s x 118 ho base 4 i _ 1 1 underlying118 hi a4 a3 a2 rfl qj (slV r k c) k (bsV k f) hs hO (xd b 0) 1 cx [v] hx rfl (λj u hu=>?_) (λu hu=>by simp at hu;subst hu;rfl) ?_ ?_ hbase ?_
 .match j,hu with
  |0,hu=>cases hu;exact hc
 .unfold maxLen;omega
 .omega
 .intro v' w' a0 a6 a5 a1;rcases a0.2 with⟨h0,_⟩|⟨g',a7,cur,hv,_,_,hn,a8,_,_⟩
  .have:=(a5.1 h0).1;cases this
  .subst hv;refine h g' a7 w' ?_ a6 ?_
   .have e:bsV k f++ [.bool v]=bsV (k+1) f:=by simp[bsV,range_succ,hf]
    rw[e]at a0;exact a0
   .simp[Value.ownBlock]at a1;exact a1
theorem yH {ops:Array Oper} (w:World) (hgd:o.guard=none) s x
  (ho:o.op=.call {callee:=.builtin .append,args:=#[s,x],argTypes:=#[295,295]})
  (base g cp N k b cx r c:Nat) (ρ γ:Nat->Nat) (hs:a.eval s=slV g k cp) (hx:a.eval x=(xg b 1 cx)) (hO:ORow w base g cp N k ρ γ)
  (hc:(xk w b 0 (slV r N c):Prop)) (hr:ρ k=r) (hg:γ k=c) (hlen:k<=2^20) (hbase:base<=w.heap.size)
  (h:∀g' cp' w',ORow w' base g' cp' N (k+1) ρ γ->w.grownBy w' (some g)->(g'=g∨g'=w.heap.size)->wpList prog ops Q rest (a.put o.dst (slV g' (k+1) cp')) w'):wpList prog ops Q (o::rest) a w:=by
 obtain⟨i,hi,a4,a3,a2⟩:=info_parts Tryz.infoBoS;refine wpList_append_own_at w hgd s x 295 ho base 118 i _ 1 24 underlying295 hi a4 a3 a2 rfl qj (slV g k cp) k (yNl N k ρ γ) hs hO (xd b 0) 1 cx [slV r N c] hx rfl (λj u hu=>?_) (λu hu=>by simp at hu;subst hu;rfl) ?_ ?_ hbase ?_
 .match j,hu with
  |0,hu=>cases hu;exact hc
 .unfold maxLen;omega
 .omega
 .intro v' w' a0 a6 a5 a1;rcases a0.2 with⟨h0,_⟩|⟨g',a7,cur,hv,_,_,hn,a8,_,_⟩
  .have:=(a5.1 h0).1;cases this
  .subst hv;refine h g' a7 w' ?_ a6 ?_
   .have e:yNl N k ρ γ++ [slV r N c]=yNl N (k+1) ρ γ:=by simp[yNl,range_succ,hr,hg]
    rw[e]at a0;exact a0
   .simp[Value.ownBlock]at a1;exact a1
section
variable {p:Prop}
theorem jS {q:Prop} (k:q) (h:q->p:=by intro z;(try simp only[qA,getElem_toArray,getElem_cons_zero,getElem_cons_succ]);exact z):p:=h k
theorem jz (h:p:=by intro z;(try simp only[qA,getElem_toArray,getElem_cons_zero,getElem_cons_succ]);exact z):p:=h
theorem jx (h:p:=by exact⟨rfl,by kernel_rfl,by kernel_rfl,by kernel_rfl,(by first|exact Or.inl (by rfl)|exact Or.inr ⟨by kernel_rfl,by decide⟩),λ_ _ _ h=>h⟩):p:=h
theorem jy (h:p:=by first|exact Or.inr ⟨by rfl,rfl⟩|exact Or.inl ⟨by rfl,by (intro wz hSw;(repeat with_reducible refine And.elim (λ_ hSw=>?_) hSw);(try have hlk:=hSw.look_t S HH.out);(try have hlk:=hSw.look_f S HH.out);go_simp;(try simp only[hd1]);(try simp only[hd2]);(try simp only[wo]);(try simp only[z46]);(try simp only[zq,zr,zs,zwi,zwn,HW.1]);(try with_reducible rfl))⟩):p:=h
theorem jy9 (h:p:=by first|exact Or.inr ⟨by rfl,rfl⟩|exact Or.inl ⟨by rfl,by (intro wz hSw;obtain⟨d0,d1,⟨d2,d3,d4,d5⟩,d6,d7,d8,d9⟩:=hSw;go_simp;(try with_reducible rfl))⟩):p:=h
def SW (S:World->Prop) (W:World):Prop:=S W
theorem SWm {S:World->Prop} {W:World} (_:SW S W) (W2:World) (h:SW S W2):SW S W2:=h
variable {P:Program}
theorem wpR {ops:Array Oper} {id:Nat} (L:Nat) {S:World->Prop} {W:World} (hS:SW S W) (h:AnyT P .any ops Q S L ops.size (Array.replicate ops.size false) a w.drew) (hm:P.follows .mixedOrders=true:=by kernel_rfl):(Code.region id ops true).wp P Q a w:=yAf L S hm h
section
variable {P:Program} {ops:Array Oper} {Q:Exit->Act->World->Prop} {md:Region.Mode} {S:World->Prop} {L j:Nat} {v:Value} {oi:Oper} {fuel:Nat} {listed:Array Bool} {a:Act} {w:World} {q:Prop}
abbrev VX (ops:Array Oper) (Q:Exit->Act->World->Prop) (md:Region.Mode) (L i:Nat) (v:Value) (oi:Oper) (listed:Array Bool):Prop:=ops[i]?=some oi/\Region.noSelect ops=true/\Region.free md ops listed i=true/\(Region.ready md ops listed).contains i=true/\(ops[L]?=none∨yDy md ops L i=true/\i≠L)/\∀c a w,Q (.panic c) (a.put oi.dst v) w->Q (.panic c) a w
theorem jT (hx:VX ops Q md L i v oi listed) (hy:YieldsIf P ops S oi v a) (hS:S w) (h:AnyT P md ops Q S L fuel (listed.setIfInBounds i true) (a.put oi.dst v) w):AnyT P md ops Q S L (fuel+1) listed a w:=hx.2.2.2.2.1.elim (λz=>yFu hx.1 hx.2.1 hx.2.2.1 hx.2.2.2.1 z hx.2.2.2.2.2 hy hS h) (λz=>yB9 hx.1 hx.2.1 hx.2.2.1 hx.2.2.2.1 z.1 z.2 hx.2.2.2.2.2 hy hS h)
theorem kO (i:Nat) {s:Prop} (hs:s) (k:q) (ho:ops[i]?=some o:=by rfl) (h:Hid s->q->∀K':Act->World->Prop,Shut (∀a w,(i=L∨S w)->AnyT P md ops Q S L fuel (listed.setIfInBounds i true) a w->K' a w)->if Region.wanted o (yielded ops a.tmps)=true then Oper.wp P o a w K' Q else K' (a.put o.dst undef) w:=by intro hs z K hK;go_simp;refine hK.out _ _ (.inr hs.out) ?_;refine jS ?_;exact z) (hr:Region.ready md ops listed= [i]:=by kernel_rfl):AnyT P md ops Q S L (fuel+1) listed a w:=yOy hr ho (h hs k)
theorem kL (i:Nat) (k:q) (ho:ops[i]?=some o:=by rfl) (h:q->∀K':Act->World->Prop,Shut (∀a w,(i=L∨S w)->AnyT P md ops Q S L fuel (listed.setIfInBounds i true) a w->K' a w)->if Region.wanted o (yielded ops a.tmps)=true then Oper.wp P o a w K' Q else K' (a.put o.dst undef) w:=by intro z K hK;go_simp;refine hK.out _ _ (.inl rfl) ?_;refine jS ?_;exact z) (hr:Region.ready md ops listed= [i]:=by kernel_rfl):AnyT P md ops Q S L (fuel+1) listed a w:=yOy hr ho (h k)
theorem ja (i:Nat) (hS:S w) (k:q) (hx:VX ops Q md L i v oi listed:=by exact jx) (hy:YieldsIf P ops S oi v a:=by exact jy) (h:q->AnyT P md ops Q S L fuel (listed.setIfInBounds i true) (a.put oi.dst v) w:=by exact jz):AnyT P md ops Q S L (fuel+1) listed a w:=jT hx hy hS (h k)
theorem jb (hS:S w) (k:q) (hx:VX ops Q md L (j+1) v oi (listed.setIfInBounds j true):=by exact jx) (hy:YieldsIf P ops S oi v a:=by exact jy) (h:q->AnyT P md ops Q S L fuel ((listed.setIfInBounds j true).setIfInBounds (j+1) true) (a.put oi.dst v) w:=by exact jz):AnyT P md ops Q S L (fuel+1) (listed.setIfInBounds j true) a w:=jT hx hy hS (h k)
theorem j9a (i:Nat) (hS:S w) (k:q) (hx:VX ops Q md L i v oi listed:=by exact jx) (hy:YieldsIf P ops S oi v a:=by exact jy9) (h:q->AnyT P md ops Q S L fuel (listed.setIfInBounds i true) (a.put oi.dst v) w:=by exact jz):AnyT P md ops Q S L (fuel+1) listed a w:=jT hx hy hS (h k)
theorem j9b (hS:S w) (k:q) (hx:VX ops Q md L (j+1) v oi (listed.setIfInBounds j true):=by exact jx) (hy:YieldsIf P ops S oi v a:=by exact jy9) (h:q->AnyT P md ops Q S L fuel ((listed.setIfInBounds j true).setIfInBounds (j+1) true) (a.put oi.dst v) w:=by exact jz):AnyT P md ops Q S L (fuel+1) (listed.setIfInBounds j true) a w:=jT hx hy hS (h k)
end
end
variable {P:Program} {L:Nat}
theorem qT {ops:Array Oper} {md:Region.Mode} {S:World->Prop} (i:Nat) (v:Value) {oi:Oper} {listed:Array Bool} (hi:ops[i]?=some oi)
  (hy:∀w,S w->(execOp a.eval oi).run P w=.ok (.value v) w) (hS:S w)
  (h:AnyT P md ops Q S L fuel (listed.setIfInBounds i true) (a.put oi.dst v) w)
  (hs:Region.noSelect ops=true:=by kernel_rfl) (hf:Region.free md ops listed i=true:=by kernel_rfl) (hr:(Region.ready md ops listed).contains i=true:=by kernel_rfl) (hL:ops[L]?=none:=by rfl)
  (hQ:∀c a w,Q (.panic c) (a.put oi.dst v) w->Q (.panic c) a w:=by exact λ_ _ _ h=>h) (hw:Region.wanted oi (yielded ops a.tmps)=true:=by rfl):AnyT P md ops Q S L (fuel+1) listed a w:=
 yFu hi hs hf hr hL hQ (Or.inl ⟨hw,hy⟩) hS h
theorem qO {ops:Array Oper} {md:Region.Mode} {S:World->Prop} (i:Nat) {listed:Array Bool} (ho:ops[i]?=some o)
  (h:∀K':Act->World->Prop,Shut (∀a w,(i=L∨S w)->AnyT P md ops Q S L fuel (listed.setIfInBounds i true) a w->K' a w)->if Region.wanted o (yielded ops a.tmps)=true then Oper.wp P o a w K' Q else K' (a.put o.dst undef) w)
  (hr:Region.ready md ops listed= [i]:=by kernel_rfl):AnyT P md ops Q S L (fuel+1) listed a w:=yOy hr ho h
theorem qD {ops:Array Oper} {md:Region.Mode} {S:World->Prop} {listed:Array Bool} (h:Q .normal a w) (hr:Region.ready md ops listed= []:=by kernel_rfl):AnyT P md ops Q S L fuel listed a w:=xAa hr h
theorem yNd (n:Nat) (h:n<64):IntKind.u64.wrap (2^n)=((2^n:Nat):Int):=by
 have hp:=Nat.pow_lt_pow_right (a:=2) qj h;rw[IntKind.wrap_u64];have e:((2:Int)^n)=((2^n:Nat):Int):=by simp
 rw[e];exact Int.emod_eq_of_lt (Int.natCast_nonneg _) (Int.ofNat_lt.2 hp)
theorem xG9 S (a:Nat) (ha:a/64=0) (w:World):(xf 233 #[psV S,xi a] w (psV (sOr S (sOne a))):Prop):=by
 have za:a<256:=qo
 have zq:(a:Int).tdiv 64=0:=by rw[Int.tdiv_eq_ediv_of_nonneg qo];omega
 have zr:(a:Int).tmod 64=((a%64:Nat):Int):=by rw[Int.tmod_eq_emod_of_nonneg qo];omega
 obtain⟨n,hn⟩:=qE (a%64);rw[<-hn]at zr;have zn:n<64:=qo
 have zs:=yNd n zn;have a0:¬(n:Int)<0:=qo
 have zwi:IntKind.i64.wrap (0:Int)=0:=by rfl
 have zwn:IntKind.i64.wrap (n:Int)=n:=by simp[IntKind.wrap,IntKind.bits,IntKind.signed];omega
 have wo:=yMy S a 0 ha.symm;rw[<-hn,show((2^n:Nat):Int)=(2:Int)^n by simp]at wo;have w1:=yBf S a 1 qo;have w2:=yBf S a 2 qo;have w3:=yBf S a 3 qo;have HW:=qH2 wo (λj hj=>yBf S a j qo:(∀j,¬j=0->wdN (sOr S (sOne a)) j=wdN S j));clear hn ha wo w1 w2 w3;go_enter func233,ntmps233;go_upto_region 1 with fail;refine yAf 9 (λwz=>xk wz w 0 (xu (wdN S 0))) qk ?_;refine yB9 (i:=0) (v:=?va0) rfl qk qk qk qk qj (λ_ _ _ h=>h) (Or.inl ⟨by rfl,?ya0⟩) (by simp) ?_;case ya0=>exact zzR1
 refine jS ?_;refine ja 1 (by simp) (v:=(xi 0)) ?_;exact zzQ7
theorem xG8 S (a:Nat) (ha:a/64=1) (w:World):(xf 233 #[psV S,xi a] w (psV (sOr S (sOne a))):Prop):=by
 have za:a<256:=qo
 have zq:(a:Int).tdiv 64=1:=by rw[Int.tdiv_eq_ediv_of_nonneg qo];omega
 have zr:(a:Int).tmod 64=((a%64:Nat):Int):=by rw[Int.tmod_eq_emod_of_nonneg qo];omega
 obtain⟨n,hn⟩:=qE (a%64);rw[<-hn]at zr;have zn:n<64:=qo
 have zs:=yNd n zn;have a0:¬(n:Int)<0:=qo
 have zwi:IntKind.i64.wrap (1:Int)=1:=by rfl
 have zwn:IntKind.i64.wrap (n:Int)=n:=by simp[IntKind.wrap,IntKind.bits,IntKind.signed];omega
 have wo:=yMy S a 1 ha.symm;rw[<-hn,show((2^n:Nat):Int)=(2:Int)^n by simp]at wo;have w0:=yBf S a 0 qo;have w2:=yBf S a 2 qo;have w3:=yBf S a 3 qo;have HW:=qH2 wo (λj hj=>yBf S a j qo:(∀j,¬j=1->wdN (sOr S (sOne a)) j=wdN S j));clear hn ha wo w0 w2 w3;go_enter func233,ntmps233;go_upto_region 1 with fail;refine yAf 9 (λwz=>xk wz w 1 (xu (wdN S 1))) qk ?_;refine yB9 (i:=0) (v:=?va0) rfl qk qk qk qk qj (λ_ _ _ h=>h) (Or.inl ⟨by rfl,?ya0⟩) (by simp) ?_;case ya0=>exact zzR1
 refine jS ?_;refine ja 1 (by simp) (v:=(xi 1)) ?_;exact zzQ7
theorem xG7 S (a:Nat) (ha:a/64=2) (w:World):(xf 233 #[psV S,xi a] w (psV (sOr S (sOne a))):Prop):=by
 have za:a<256:=qo
 have zq:(a:Int).tdiv 64=2:=by rw[Int.tdiv_eq_ediv_of_nonneg qo];omega
 have zr:(a:Int).tmod 64=((a%64:Nat):Int):=by rw[Int.tmod_eq_emod_of_nonneg qo];omega
 obtain⟨n,hn⟩:=qE (a%64);rw[<-hn]at zr;have zn:n<64:=qo
 have zs:=yNd n zn;have a0:¬(n:Int)<0:=qo
 have zwi:IntKind.i64.wrap (2:Int)=2:=by rfl
 have zwn:IntKind.i64.wrap (n:Int)=n:=by simp[IntKind.wrap,IntKind.bits,IntKind.signed];omega
 have wo:=yMy S a 2 ha.symm;rw[<-hn,show((2^n:Nat):Int)=(2:Int)^n by simp]at wo;have w0:=yBf S a 0 qo;have w1:=yBf S a 1 qo;have w3:=yBf S a 3 qo;have HW:=qH2 wo (λj hj=>yBf S a j qo:(∀j,¬j=2->wdN (sOr S (sOne a)) j=wdN S j));clear hn ha wo w0 w1 w3;go_enter func233,ntmps233;go_upto_region 1 with fail;refine yAf 9 (λwz=>xk wz w 2 (xu (wdN S 2))) qk ?_;refine yB9 (i:=0) (v:=?va0) rfl qk qk qk qk qj (λ_ _ _ h=>h) (Or.inl ⟨by rfl,?ya0⟩) (by simp) ?_;case ya0=>exact zzR1
 refine jS ?_;refine ja 1 (by simp) (v:=(xi 2)) ?_;exact zzQ7
theorem xG6 S (a:Nat) (ha:a/64=3) (w:World):(xf 233 #[psV S,xi a] w (psV (sOr S (sOne a))):Prop):=by
 have za:a<256:=qo
 have zq:(a:Int).tdiv 64=3:=by rw[Int.tdiv_eq_ediv_of_nonneg qo];omega
 have zr:(a:Int).tmod 64=((a%64:Nat):Int):=by rw[Int.tmod_eq_emod_of_nonneg qo];omega
 obtain⟨n,hn⟩:=qE (a%64);rw[<-hn]at zr;have zn:n<64:=qo
 have zs:=yNd n zn;have a0:¬(n:Int)<0:=qo
 have zwi:IntKind.i64.wrap (3:Int)=3:=by rfl
 have zwn:IntKind.i64.wrap (n:Int)=n:=by simp[IntKind.wrap,IntKind.bits,IntKind.signed];omega
 have wo:=yMy S a 3 ha.symm;rw[<-hn,show((2^n:Nat):Int)=(2:Int)^n by simp]at wo;have w0:=yBf S a 0 qo;have w1:=yBf S a 1 qo;have w2:=yBf S a 2 qo;have HW:=qH2 wo (λj hj=>yBf S a j qo:(∀j,¬j=3->wdN (sOr S (sOne a)) j=wdN S j));clear hn ha wo w0 w1 w2;go_enter func233,ntmps233;go_upto_region 1 with fail;refine yAf 9 (λwz=>xk wz w 3 (xu (wdN S 3))) qk ?_;refine ja 0 (by simp) ?_;refine ja 1 (by simp) (v:=(xi 3)) ?_;iterate 3 refine jb (by simp) ?_
 refine ja 5 (by simp) (v:=(xi n)) ?_;iterate 2 refine jb (by simp) ?_
 refine jb (by simp) ?_;refine kL 9 ?_;refine qD ?_;go_wp2;refine bodyPost_ret (v:=psV (sOr S (sOne a))) (by simp[results,results233,go_sem,HW.2]) rfl ⟨rfl,?_⟩;repeat (first|exact Below.refl _ _|refine Below.drew ?_|refine Below.alloc ?_ (by simp;done) _|refine Below.alloc ?_ qr _|refine Below.alloc ?_ (by simp;omega) _)
theorem yE1 S (a:Nat) (ha:a<256) (w:World):(xf 233 #[psV S,xi a] w (psV (sOr S (sOne a))):Prop):=by
 rcases(by omega:a/64=0∨a/64=1∨a/64=2∨a/64=3)with h|h|h|h
 .exact xG9 S a h w
 .exact xG8 S a h w
 .exact xG7 S a h w
 .exact xG6 S a h w
def mixL (R S:PS) (k:Nat):List Value:= [.int .u64 (if 0<k then(wdN R 0:Int)else(wdN S 0:Int)),.int .u64 (if 1<k then(wdN R 1:Int)else(wdN S 1:Int)),.int .u64 (if 2<k then(wdN R 2:Int)else(wdN S 2:Int)),.int .u64 (if 3<k then(wdN R 3:Int)else(wdN S 3:Int))]
theorem yPy R S:mixL R S 0=psL S:=by simp[mixL,psL]
theorem yU6 R S:mixL R S 4=psL R:=by simp[mixL,psL]
theorem yY4 R S {k:Nat} (hk:k<4):(mixL R S k)[k]?=some (.int .u64 (wdN S k:Int)):=by rcases(by omega:k=0∨k=1∨k=2∨k=3)with rfl|rfl|rfl|rfl<;>simp[mixL]
theorem yU5 R S {k:Nat} (hk:k<4):(mixL R S k).set k (xu (wdN R k))=mixL R S (k+1):=by rcases(by omega:k=0∨k=1∨k=2∨k=3)with rfl|rfl|rfl|rfl<;>simp[mixL]
theorem xDe S {k:Nat} (hk:k<4):(psL S)[k]?=some (.int .u64 (wdN S k:Int)):=by rcases(by omega:k=0∨k=1∨k=2∨k=3)with rfl|rfl|rfl|rfl<;>simp[psL]
abbrev z4:Array Value:=#[.int .u64 0,.int .u64 0,.int .u64 0,.int .u64 0]
theorem yDa S T (w:World):(xf 247 #[psV S,psV T] w (psV (sOr S T)):Prop):=by
 have HI:=qH1 (box3 (w:=w) (a:=(psL S).toArray) (s:=328) (b:=(psL T).toArray) (t:=328) (c:=z4) (u:=328) rfl)
 go_enter func247,ntmps247;go_wp2_with fail;go_loopw[6] (λiv wr=>∃k:Nat,k<=4/\iv=(xi k)/\Hid (yA wr w 328 4 w (mixL (sOr S T) S k)/\yA wr w 328 4 (w+1) (psL T)/\yA wr w 328 4 (w+1+1) z4.toList/\Below w w wr)) (λiv _=>4-(intOf iv).toNat);case atStart=>exact⟨0,qo,rfl,by rw[yPy];exact HI.out⟩
 case round=>
  clear HI;obtain⟨k,hk,rfl,HJ⟩:=hrel;by_cases hlt:k<4
  .have zk:(k:Int)<4:=qo
   have c0:=HJ.1.cell (yY4 (sOr S T) S hlt);have c1:=HJ.2.1.cell (xDe T hlt);have f0:=HJ.1.frozen k;have wo:=xIo S T k;go_upto_region 4 with fail;refine yAf 8 (λwz=>xk wz w k (xu (wdN S k))/\xk wz (w+1) k (xu (wdN T k))) qk ?_;refine ja 0 ⟨by simpa using c0,by simpa using c1⟩ ?_;iterate 7 refine jb ⟨by simpa using c0,by simpa using c1⟩ ?_
   refine qO 8 rfl λK hK=>?_;go_simp;refine hK.out _ _ (.inl rfl) ?_;clear hK;refine jS ?_;refine qD ?_;have a0:Hid (yA (xt wr.drew w k (xu (wdN (sOr S T) k))) w 328 4 w (mixL (sOr S T) S (k+1))/\yA (xt wr.drew w k (xu (wdN (sOr S T) k))) w 328 4 (w+1) (psL T)/\yA (xt wr.drew w k (xu (wdN (sOr S T) k))) w 328 4 (w+1+1) z4.toList/\Below w w (xt wr.drew w k (xu (wdN (sOr S T) k)))):=by have kd:Below wr wr wr.drew:=(Below.refl _ _).drew;refine⟨?_,(HJ.2.1.below kd).beside qo _ _,(HJ.2.2.1.below kd).beside qo _ _,yAc HJ.2.2.2.drew qr _ _⟩;rw[<-yU5 _ _ hlt];exact(HJ.1.below kd).set k _
   go_wp2_with fail;refine⟨⟨k+1,qo,by go_num,a0⟩,?_⟩;go_light;simp[intOf];omega
  .obtain rfl:k=4:=qo
   rw[yU6]at HJ;obtain⟨c0,c1,c2,c3⟩:=HJ.1.c4;obtain⟨d0,d1,d2,d3⟩:=HJ.2.2.1.c4;obtain⟨f0,f1,f2,f3⟩:=HJ.2.2.1.f4;have a1:=HJ.2.2.1.lt.2;go_wp2_with fail;refine bodyPost_ret (v:=psV (sOr S T)) (by simp[results,results247,go_sem,d0,d1,d2,d3]) rfl ⟨rfl,?_⟩;repeat (first|exact HJ.2.2.2|refine Below.drew ?_|refine yAc ?_ qo _ _)
theorem yKj S T (w:World):(xf 234 #[psV S,psV T] w (psV (sAnd S T)):Prop):=by
 have HI:=qH1 (box3 (w:=w) (a:=(psL S).toArray) (s:=328) (b:=(psL T).toArray) (t:=328) (c:=z4) (u:=328) rfl)
 go_enter func234,ntmps234;go_wp2_with fail;go_loopw[6] (λiv wr=>∃k:Nat,k<=4/\iv=(xi k)/\Hid (yA wr w 328 4 w (mixL (sAnd S T) S k)/\yA wr w 328 4 (w+1) (psL T)/\yA wr w 328 4 (w+1+1) z4.toList/\Below w w wr)) (λiv _=>4-(intOf iv).toNat);case atStart=>exact⟨0,qo,rfl,by rw[yPy];exact HI.out⟩
 case round=>
  clear HI;obtain⟨k,hk,rfl,HJ⟩:=hrel;by_cases hlt:k<4
  .have zk:(k:Int)<4:=qo
   have c0:=HJ.1.cell (yY4 (sAnd S T) S hlt);have c1:=HJ.2.1.cell (xDe T hlt);have f0:=HJ.1.frozen k;have wo:=xHc S T k;go_upto_region 4 with fail;refine yAf 8 (λwz=>xk wz w k (xu (wdN S k))/\xk wz (w+1) k (xu (wdN T k))) qk ?_;refine ja 0 ⟨by simpa using c0,by simpa using c1⟩ ?_;iterate 7 refine jb ⟨by simpa using c0,by simpa using c1⟩ ?_
   refine qO 8 rfl λK hK=>?_;go_simp;refine hK.out _ _ (.inl rfl) ?_;clear hK;refine jS ?_;refine qD ?_;have a0:Hid (yA (xt wr.drew w k (xu (wdN (sAnd S T) k))) w 328 4 w (mixL (sAnd S T) S (k+1))/\yA (xt wr.drew w k (xu (wdN (sAnd S T) k))) w 328 4 (w+1) (psL T)/\yA (xt wr.drew w k (xu (wdN (sAnd S T) k))) w 328 4 (w+1+1) z4.toList/\Below w w (xt wr.drew w k (xu (wdN (sAnd S T) k)))):=by have kd:Below wr wr wr.drew:=(Below.refl _ _).drew;refine⟨?_,(HJ.2.1.below kd).beside qo _ _,(HJ.2.2.1.below kd).beside qo _ _,yAc HJ.2.2.2.drew qr _ _⟩;rw[<-yU5 _ _ hlt];exact(HJ.1.below kd).set k _
   go_wp2_with fail;refine⟨⟨k+1,qo,by go_num,a0⟩,?_⟩;go_light;simp[intOf];omega
  .obtain rfl:k=4:=qo
   rw[yU6]at HJ;obtain⟨c0,c1,c2,c3⟩:=HJ.1.c4;obtain⟨d0,d1,d2,d3⟩:=HJ.2.2.1.c4;obtain⟨f0,f1,f2,f3⟩:=HJ.2.2.1.f4;have a1:=HJ.2.2.1.lt.2;go_wp2_with fail;refine bodyPost_ret (v:=psV (sAnd S T)) (by simp[results,results234,go_sem,d0,d1,d2,d3]) rfl ⟨rfl,?_⟩;repeat (first|exact HJ.2.2.2|refine Below.drew ?_|refine yAc ?_ qo _ _)
section
def rngV (N:Nat) (f:Nat->Value):List Value:=(List.range N).map f
theorem yIw (N:Nat) (f:Nat->Value):(rngV N f).length=N:=by simp[rngV]
variable {f:Nat->Value}
theorem yDq (h:j<N):(rngV N f)[j]?=some (f j):=by simp[rngV,h]
theorem yCd {g:Nat->Value} (h:∀i,i<N->f i=g i):rngV N f=rngV N g:=by unfold rngV;refine map_congr_left (λi hi=>h i (by simpa using hi))
theorem yGr {v:Value} (h:j<N):(rngV N f).set j v=rngV N (λi=>if i=j then v else f i):=by
 refine ext_getElem? (λi=>?_);by_cases hi:i<N
 .rw[yDq hi];by_cases e:i=j
  .subst e;rw[getElem?_set_self (by rw[yIw];exact hi)];simp
  .rw[getElem?_set_ne (λq=>e q.symm),yDq hi];simp[e]
 .rw[getElem?_eq_none (by simp[yIw];omega),getElem?_eq_none (by simp[yIw];omega)]
def set4 (w:World) (g o:Nat) (S:PS):World:=(xt (((w.setCell (xd g o) (xu (wdN S 0))).setCell (xd g (o+1)) (xu (wdN S 1))).setCell (xd g (o+2)) (xu (wdN S 2))) g (o+3) (xu (wdN S 3)))
def yV3 (vs:List Value) (o:Nat) (S:PS):List Value:=(((vs.set o (xu (wdN S 0))).set (o+1) (xu (wdN S 1))).set (o+2) (xu (wdN S 2))).set (o+3) (xu (wdN S 3))
theorem yJg {o:Nat} S (h:o+4<=N):yV3 (rngV N f) o S=rngV N (λi=>if o<=i/\i<o+4 then (xu (wdN S (i-o)))else f i):=by
 unfold yV3;rw[yGr qo,yGr qo,yGr qo,yGr qo];refine yCd (λi hi=>?_);by_cases h1:o<=i/\i<o+4
 .rw[if_pos h1];rcases(by omega:i=o∨i=o+1∨i=o+2∨i=o+3)with rfl|rfl|rfl|rfl
  .simp
  .simp
  .simp
  .simp
 .rw[if_neg h1,if_neg qo,if_neg qo,if_neg qo,if_neg qo]
theorem yFo {e size:Nat} {g:Nat} {xs:List Value} (h:w.ownsRow base e size (xg g n cp) n xs) (o:Nat) S:(set4 w g o S).ownsRow base e size (xg g n cp) n (yV3 xs o S):=
 (World.ownsRow.stored (World.ownsRow.stored (World.ownsRow.stored (World.ownsRow.stored h o _).1 (o+1) _).1 (o+2) _).1 (o+3) _).1
theorem yBa {S:Nat->Prop} (w:World) (g o:Nat) X (hs:S g):Chg S w (set4 w g o X):=
 (((Chg.of_set w g o _ hs).trans (Chg.of_set _ g (o+1) _ hs)).trans (Chg.of_set _ g (o+2) _ hs)).trans (Chg.of_set _ g (o+3) _ hs)
def eV (E:Nat->PS) (i:Nat):Value:=(xu (wdN (E (i/4)) (i%4)))
def mV (T:Nat->PS) (fv:Value) (en:PS) (mp:Nat) (i:Nat):Value:=if i<1024 then eV T i else if i=1024 then fv else if i<1029 then (xu (wdN en (i-1025)))else .map (some mp)
def updE (E:Nat->PS) (p:Nat) (S:PS):Nat->PS:=λq=>if q=p then S else E q
theorem xDi (E:Nat->PS) (p:Nat) S (i:Nat):(if 4*p<=i/\i<4*p+4 then Value.int .u64 (wdN S (i-4*p):Int)else eV E i)=eV (updE E p S) i:=by
 unfold eV updE;by_cases h:4*p<=i/\i<4*p+4
 .rw[if_pos h,if_pos (by omega),show i-4*p=i%4 by omega]
 .rw[if_neg h,if_neg (by omega)]
structure MtrI (w:World) (base M:Nat) (T:Nat->PS) (G cp a:Nat) (E:Nat->PS) (en:PS) (mp:Nat):Prop where
 box:yA w base 338 1030 M (rngV 1030 (mV T (xg G a cp) en mp))
 row:w.ownsRow base 328 4 (xg G a cp) a (rngV (4*a) (eV E))
 new:∀p,a<=p->∀q,E p q=false
 tab:TabD w
 low:1<base
section
variable {w w':World} {base M:Nat} {T:Nat->PS} {G cp a:Nat} {E:Nat->PS} {en:PS} {mp:Nat}
theorem MtrI.ltM (h:MtrI w base M T G cp a E en mp):base<=M/\M<w.heap.size:=h.box.lt
theorem MtrI.ltG (h:MtrI w base M T G cp a E en mp):base<=G/\G<w.heap.size:=World.ownsRow.lt h.row G rfl
theorem MtrI.ne (h:MtrI w base M T G cp a E en mp):¬G=M:=λq=>yAb h.row h.box qj G rfl (by rw[q];rfl)
theorem MtrI.caps (h:MtrI w base M T G cp a E en mp):a<=cp/\cp<=maxLen:=by
 rcases h.row.2 with⟨h0,_⟩|⟨g',a1,cur,hv,_,_,hn,a0,_,_⟩
 .cases h0
 .simp at hv;obtain⟨rfl,rfl⟩:=hv;exact⟨hn,a0⟩
theorem TabD.chg {S:Nat->Prop} (h:TabD w) (hc:Chg S w w') (hn:¬S 1):TabD w':=λj hj=>by rw[hc.cell (p:=(xd 1 j)) h.lt hn];exact h j hj
theorem MtrI.chg {S:Nat->Prop} (h:MtrI w base M T G cp a E en mp) (hc:Chg S w w') (hM:¬S M) (hG:¬S G) (h0:∀k,S k->base<=k):MtrI w' base M T G cp a E en mp:=
 ⟨h.box.chg hc hM,yAh h.row hc (λk q=>by simp[Value.ownBlock]at q;subst q;exact hG),h.new,h.tab.chg hc (λq=>qv (h0 _ q) h.low),h.low⟩
theorem MtrI.below (h:MtrI w base M T G cp a E en mp) (hb:Below w w w'):MtrI w' base M T G cp a E en mp:=h.chg (S:=λ_=>False) (Chg.of_below hb) (λq=>q) (λq=>q) (λ_ q=>q.elim)
theorem MtrI.tk (h:MtrI w base M T G cp a E en mp) (hb:b<256) (hj:j<4):(xk w M (4*b+j) (xu (wdN (T b) j)):Prop):=by rw[h.box.cell (yDq (by omega))];unfold mV eV;rw[if_pos (by omega),show(4*b+j)/4=b by omega,show(4*b+j)%4=j by omega]
theorem MtrI.fol (h:MtrI w base M T G cp a E en mp):(xk w M 1024 (xg G a cp):Prop):=by rw[h.box.cell (yDq qo)];rfl
theorem MtrI.ends (h:MtrI w base M T G cp a E en mp) (hj:j<4):(xk w M (1025+j) (xu (wdN en j)):Prop):=by rw[h.box.cell (yDq qo)];unfold mV;rw[if_neg qo,if_neg (by omega),if_pos (by omega),show 1025+j-1025=j by omega]
theorem MtrI.map (h:MtrI w base M T G cp a E en mp):(xk w M 1029 (.map (some mp)):Prop):=by rw[h.box.cell (yDq qo)];rfl
theorem MtrI.edge (h:MtrI w base M T G cp a E en mp) (hp:p<a) (hj:j<4):(xk w G (4*p+j) (xu (wdN (E p) j)):Prop):=by rw[World.ownsRow.cellAt h.row (4*p+j) (by omega),yDq (by omega)];unfold eV;rw[show(4*p+j)/4=p by omega,show(4*p+j)%4=j by omega]
theorem MtrI.frzM (h:MtrI w base M T G cp a E en mp) (j:Nat):w.frozen? (xd M j)=false:=h.box.frozen j
theorem MtrI.frzG (h:MtrI w base M T G cp a E en mp) (j:Nat):w.frozen? (xd G j)=false:=World.ownsRow.frozenAt h.row j
theorem MtrI.setT (h:MtrI w base M T G cp a E en mp) (hb:b<256) S:MtrI (set4 w M (4*b) S) base M (updE T b S) G cp a E en mp:=by
 have hc:Chg (λk=>k=M) w (set4 w M (4*b) S):=yBa w M (4*b) S rfl;refine⟨?_,yAh h.row hc (λk q=>by simp[Value.ownBlock]at q;subst q;exact h.ne),h.new,h.tab.chg hc (λq=>qv h.ltM.1 h.low),h.low⟩;have h1:=yFo h.box (4*b) S;rw[yJg S qo]at h1;have e:rngV 1030 (λi=>if 4*b<=i/\i<4*b+4 then (xu (wdN S (i-4*b)))else mV T (xg G a cp) en mp i)=rngV 1030 (mV (updE T b S) (xg G a cp) en mp):=by
  refine yCd (λi hi=>?_);unfold mV;by_cases h1:i<1024
  .rw[if_pos h1,if_pos h1];exact xDi T b S i
  .rw[if_neg h1,if_neg h1,if_neg qo]
 rw[e]at h1;exact h1
theorem MtrI.setE (h:MtrI w base M T G cp a E en mp) (hp:p<a) S:MtrI (set4 w G (4*p) S) base M T G cp a (updE E p S) en mp:=by have hc:Chg (λk=>k=G) w (set4 w G (4*p) S):=yBa w G (4*p) S rfl;refine⟨h.box.chg hc (λq=>h.ne q.symm),?_,λq hq r=>by unfold updE;rw[if_neg qo];exact h.new q hq r,h.tab.chg hc (λq=>qv h.ltG.1 h.low),h.low⟩;have h1:=yFo h.row (4*p) S;rw[yJg S qo,yCd (λi _=>xDi E p S i)]at h1;exact h1
theorem MtrI.setEn (h:MtrI w base M T G cp a E en mp) S:MtrI (set4 w M 1025 S) base M T G cp a E S mp:=by
 have hc:Chg (λk=>k=M) w (set4 w M 1025 S):=yBa w M 1025 S rfl;refine⟨?_,yAh h.row hc (λk q=>by simp[Value.ownBlock]at q;subst q;exact h.ne),h.new,h.tab.chg hc (λq=>qv h.ltM.1 h.low),h.low⟩;have h1:=yFo h.box 1025 S;rw[yJg S qo]at h1;have e:rngV 1030 (λi=>if 1025<=i/\i<1025+4 then (xu (wdN S (i-1025)))else mV T (xg G a cp) en mp i)=rngV 1030 (mV T (xg G a cp) S mp):=by
  refine yCd (λi hi=>?_);unfold mV;by_cases h1:i<1024
  .rw[if_neg qo,if_pos h1,if_pos h1]
  .by_cases h2:i=1024
   .rw[if_neg qo,if_neg h1,if_neg h1,if_pos h2,if_pos h2]
   .by_cases h3:i<1029
    .rw[if_pos qo,if_neg h1,if_neg h2,if_pos h3]
    .rw[if_neg qo,if_neg h1,if_neg h1,if_neg h2,if_neg h2,if_neg h3,if_neg h3]
 rw[e]at h1;exact h1
theorem MtrI.grow (h:MtrI w base M T G cp a E en mp) {w1:World} {G' cp' a':Nat} (hg:w.grownBy w1 (some G)) (hr:w1.ownsRow base 328 4 (xg G' a' cp') a' (rngV (4*a') (eV E))) (ha:a<=a'):MtrI (xt w1 M 1024 (xg G' a' cp')) base M T G' cp' a' E en mp:=by
 have hc:Chg (λk=>k=G) w w1:=Chg.of_grown hg (λk q=>by cases q;rfl);have hb:=h.box.chg hc (λq=>h.ne q.symm);have a0:¬G'=M:=λq=>yAb hr hb (by decide) G' rfl (by rw[q];rfl);have hc2:Chg (λk=>k=M) w1 (xt w1 M 1024 (xg G' a' cp')):=Chg.of_set w1 M 1024 _ rfl;refine⟨?_,yAh hr hc2 (λk q=>by simp[Value.ownBlock]at q;subst q;exact a0),λp hp=>h.new p (by omega),(h.tab.chg hc (λq=>qv h.ltG.1 h.low)).chg hc2 (λq=>qv h.ltM.1 h.low),h.low⟩;have h1:=hb.set 1024 (xg G' a' cp');rw[yGr (by omega)]at h1;have e:rngV 1030 (λi=>if i=1024 then (xg G' a' cp') else mV T (xg G a cp) en mp i)=rngV 1030 (mV T (xg G' a' cp') en mp):=by
  refine yCd (λi hi=>?_);unfold mV;by_cases h1:i<1024
  .rw[if_neg (by omega),if_pos h1,if_pos h1]
  .by_cases h2:i=1024
   .rw[if_pos h2,if_neg h1,if_pos h2]
   .rw[if_neg h2,if_neg h1,if_neg h1,if_neg h2,if_neg h2]
 rw[e]at h1;exact h1
theorem MtrI.iff (h:MtrI w base M T G cp a E en mp) {T' E':Nat->PS} (hT:∀b p,b<256->p<256->T' b p=T b p) (hE:∀q p,q<a->p<256->E' q p=E q p) (hn:∀p,a<=p->∀q,E' p q=false):MtrI w base M T' G cp a E' en mp:=by
 refine⟨?_,?_,hn,h.tab,h.low⟩
 .have e:rngV 1030 (mV T' (xg G a cp) en mp)=rngV 1030 (mV T (xg G a cp) en mp):=by
   refine yCd (λi hi=>?_);unfold mV;by_cases h1:i<1024
   .rw[if_pos h1,if_pos h1];unfold eV;rw[yDc (λp hp=>hT (i/4) p qo hp) qo]
   .rw[if_neg h1,if_neg h1]
  rw[e];exact h.box
 .have e:rngV (4*a) (eV E')=rngV (4*a) (eV E):=by refine yCd (λi hi=>?_);unfold eV;rw[yDc (λp hp=>hE (i/4) p qo hp) qo]
  rw[e];exact h.row
theorem MtrI.iffEn (h:MtrI w base M T G cp a E en mp) {en':PS} (he:∀p,p<256->en' p=en p):MtrI w base M T G cp a E en' mp:=by
 refine⟨?_,h.row,h.new,h.tab,h.low⟩;have e:rngV 1030 (mV T (xg G a cp) en' mp)=rngV 1030 (mV T (xg G a cp) en mp):=by
  refine yCd (λi hi=>?_);unfold mV;by_cases h1:i<1024
  .rw[if_pos h1,if_pos h1]
  .by_cases h2:i=1024
   .rw[if_neg h1,if_pos h2,if_neg h1,if_pos h2]
   .by_cases h3:i<1029
    .rw[if_neg h1,if_neg h2,if_pos h3,if_neg h1,if_neg h2,if_pos h3,yDc he qo]
    .rw[if_neg h1,if_neg h2,if_neg h3,if_neg h1,if_neg h2,if_neg h3]
 rw[e];exact h.box
end
theorem Tryz.infoPs:(prog.info? 328).map (λi=>(i.zero,i.size,i.bytes))=some (some (.agg #[xu 0,xu 0,xu 0,xu 0]),4,32):=qk
variable {E:Nat->PS}
theorem yZw {a:Nat} (hE:∀q,E a q=false):rngV (4*a) (eV E)++z4.toList=rngV (4*(a+1)) (eV E):=by
 have hw:∀i,wdN (E a) i=0:=λi=>by have:wdN (E a) i=wdN sNo i:=yGw (λj _=>hE _);rw[this,yF2]
 have e:∀j,j<4->eV E (4*a+j)=(xu 0):=λj hj=>by unfold eV;rw[show(4*a+j)/4=a by omega,hw];rfl
 have h4:4*(a+1)=4*a+1+1+1+1:=qo
 unfold rngV;rw[h4,range_succ,range_succ,range_succ,range_succ];simp[e 0 qo,e 1 qo,e 2 (by omega),e 3 (by omega),show 4*a+1+1=4*a+2 by omega,show 4*a+1+1+1=4*a+3 by omega];have:=e 0 (by omega);simpa using this.symm
theorem yIl {ops:Array Oper} (w:World) (hgd:o.guard=none) s x
  (ho:o.op=.call {callee:=.builtin .append,args:=#[s,x],argTypes:=#[335,335]})
  (base r c k b cx:Nat) (E:Nat->PS) (hs:a.eval s=(xg r k c)) (hx:a.eval x=(xg b 1 cx)) (hO:w.ownsRow base 328 4 (xg r k c) k (rngV (4*k) (eV E)))
  (hc:∀j,j<4->(xk w b j (xu 0):Prop)) (hE:∀q,E k q=false) (hlen:k<=2^20) (hbase:base<=w.heap.size)
  (h:∀r' c' w',w'.ownsRow base 328 4 (xg r' (k+1) c') (k+1) (rngV (4*(k+1)) (eV E))->w.grownBy w' (some r)->(r'=r∨r'=w.heap.size)->wpList prog ops Q rest (a.put o.dst (xg r' (k+1) c')) w'):wpList prog ops Q (o::rest) a w:=by
 obtain⟨i,hi,a4,a3,a2⟩:=info_parts Tryz.infoPs;refine wpList_append_own_at w hgd s x 335 ho base 328 i _ 4 32 underlying335 hi a4 a3 a2 rfl qj (xg r k c) k (rngV (4*k) (eV E)) hs hO (xd b 0) 1 cx z4.toList hx rfl (λj u hu=>?_) (λu hu=>by simp at hu;subst hu;rfl) ?_ ?_ hbase ?_
 .have hj:=qf hu;have a6:j<4:=by simpa using hj
  rcases(by omega:j=0∨j=1∨j=2∨j=3)with rfl|rfl|rfl|rfl<;>(simp at hu;subst hu;exact hc _ a6)
 .unfold maxLen;omega
 .omega
 .intro v' w' a0 a7 a5 a1;rcases a0.2 with⟨h0,_⟩|⟨g',a8,cur,hv,_,_,hn,a9,_,_⟩
  .have:=(a5.1 h0).1;cases this
  .subst hv;refine h g' a8 w' ?_ a7 ?_
   .rw[yZw hE]at a0;exact a0
   .simp[Value.ownBlock]at a1;exact a1
end
abbrev spV (F L:PS):Value:=.agg #[xu (wdN F 0),xu (wdN F 1),xu (wdN F 2),xu (wdN F 3),xu (wdN L 0),xu (wdN L 1),xu (wdN L 2),xu (wdN L 3)]
def spL (F L:PS):List Value:= [.int .u64 (wdN F 0:Int),.int .u64 (wdN F 1:Int),.int .u64 (wdN F 2:Int),.int .u64 (wdN F 3:Int),.int .u64 (wdN L 0:Int),.int .u64 (wdN L 1:Int),.int .u64 (wdN L 2:Int),.int .u64 (wdN L 3:Int)]
def setSp (w:World) (g:Nat) (F L:PS):World:=(xt (((((((w.setCell (xd g 0) (xu (wdN F 0))).setCell (xd g 1) (xu (wdN F 1))).setCell (xd g 2) (xu (wdN F 2))).setCell (xd g 3) (xu (wdN F 3))).setCell (xd g 4) (xu (wdN L 0))).setCell (xd g 5) (xu (wdN L 1))).setCell (xd g 6) (xu (wdN L 2))) g 7 (xu (wdN L 3)))
theorem yV2 (w:World) (g:Nat) F L:(setSp w g F L).heap.size=w.heap.size:=by unfold setSp;simp only[xA0]
variable {t:Nat} {vs:List Value}
theorem yA.setSp {g:Nat} (h:yA w base t 8 g vs) F L:yA (Go.Proofs.YtnnagkfoiganfaaGreatDoor.setSp w g F L) base t 8 g (spL F L):=by
 have h1:=(((((((h.set 0 (xu (wdN F 0))).set 1 (xu (wdN F 1))).set 2 (xu (wdN F 2))).set 3 (xu (wdN F 3))).set 4 (xu (wdN L 0))).set 5 (xu (wdN L 1))).set 6 (xu (wdN L 2))).set 7 (xu (wdN L 3));have hl:=h.len;match vs,hl with
 | [_,_,_,_,_,_,_,_],_=>exact h1
theorem yA.below_setSp {w0:World} {g:Nat} (h:yA w base t 8 g vs) (hb:Below B w0 w) (hB:B<=g) F L:Below B w0 (Go.Proofs.YtnnagkfoiganfaaGreatDoor.setSp w g F L):=by unfold Go.Proofs.YtnnagkfoiganfaaGreatDoor.setSp;exact yAc (yAc (yAc (yAc (yAc (yAc (yAc (yAc hb hB _ _) hB _ _) hB _ _) hB _ _) hB _ _) hB _ _) hB _ _) hB _ _
theorem yKm {S:Nat->Prop} (w:World) (g:Nat) F L (hs:S g):Chg S w (setSp w g F L):=
 (((((((Chg.of_set w g 0 _ hs).trans (Chg.of_set _ g 1 _ hs)).trans (Chg.of_set _ g 2 _ hs)).trans (Chg.of_set _ g 3 _ hs)).trans (Chg.of_set _ g 4 _ hs)).trans (Chg.of_set _ g 5 _ hs)).trans (Chg.of_set _ g 6 _ hs)).trans (Chg.of_set _ g 7 _ hs)
variable {tmps:Array Value} {F L:PS}
theorem ySa {g:Nat} (ht:tmps[2]?.getD undef=(xp g)) (h:yA w base 343 8 g (spL F L)):(results Tryz.f250 tmps).run prog w=.ok (spV F L) w:=by obtain⟨p0,p1,p2,p3,p4,p5,p6,p7⟩:=h.c8;simp[results,results250,ht,go_sem,p0,p1,p2,p3,p4,p5,p6,p7]
theorem yEa {g:Nat} (ht:tmps[4]?.getD undef=(xp g)) (h:yA w base 343 8 g (spL F L)):(results Tryz.f237 tmps).run prog w=.ok (spV F L) w:=by obtain⟨p0,p1,p2,p3,p4,p5,p6,p7⟩:=h.c8;simp[results,results237,ht,go_sem,p0,p1,p2,p3,p4,p5,p6,p7]
theorem yJd {g:Nat} (ht:tmps[4]?.getD undef=(xp g)) (h:yA w base 343 8 g (spL F L)):(results Tryz.f252 tmps).run prog w=.ok (spV F L) w:=by obtain⟨p0,p1,p2,p3,p4,p5,p6,p7⟩:=h.c8;simp[results,results252,ht,go_sem,p0,p1,p2,p3,p4,p5,p6,p7]
theorem yS {g:Nat} (ht:tmps[4]?.getD undef=(xp g)) (h:yA w base 343 8 g (spL F L)):(results Tryz.f253 tmps).run prog w=.ok (spV F L) w:=by obtain⟨p0,p1,p2,p3,p4,p5,p6,p7⟩:=h.c8;simp[results,results253,ht,go_sem,p0,p1,p2,p3,p4,p5,p6,p7]
theorem yYi:psV sNo=.agg #[xu 0,xu 0,xu 0,xu 0]:=by simp only[psV,yF2];rfl
variable {M G mp:Nat} {T E:Nat->PS} {en:PS}
theorem yEv {a:Nat} (w:World) (h:MtrI w base M T G cp a E en mp) (ha:a<=300):Calls prog 249 #[xp M] w λe w'=>∃G' cp',e=.returned (xi a)/\Hid (MtrI w' base M T G' cp' (a+1) E en mp/\Chg (λk=>k=M∨k=G) w w'/\(G'=G∨w.heap.size<=G')):=by
 have HM:=qH1 h;have c0:=h.fol;have a7:=h.caps;have a4:=h.ltM;have a5:=h.ltG;have a2:=h.ne;clear h;go_enter func249,ntmps249;go_wp2_with (at_builtin;refine yIl _ rfl _ _ rfl base G cp a w 1 E rfl rfl ?hO ?hc (HM.new a qr) qo ?hb ?_);case hO=>exact(HM.below (qB)).row
 case hc=>intro j hj;rcases(by omega:j=0∨j=1∨j=2∨j=3)with rfl|rfl|rfl|rfl<;>simp
 case hb=>simp;omega
 intro G' cp' w2 hO a1 a3;have hI:MtrI (xw w z4 328) base M T G cp a E en mp:=HM.below (qB);have a0:Chg (λk=>k=G) (xw w z4 328) w2:=Chg.of_grown a1 (λk q=>by cases q;rfl);have d0:(xk w2 M 1024 (xg G a cp):Prop):=by rw[a0.cell (p:=(xd M 1024)) hI.ltM.2 (λq=>a2 q.symm)];exact hI.fol
 have d1:w2.frozen? (xd M 1024)=false:=by rw[a0.frozen (p:=(xd M 1024)) hI.ltM.2 (λq=>a2 q.symm)];exact hI.frzM 1024
 have HF:Hid (MtrI (xt w2 M 1024 (xg G' (a+1) cp')) base M T G' cp' (a+1) E en mp/\Chg (λk=>k=M∨k=G) w (xt w2 M 1024 (xg G' (a+1) cp'))/\(G'=G∨w.heap.size<=G')):=by refine⟨hI.grow a1 hO (by omega),?_,by rcases a3 with q|q;exact .inl q;right;omega⟩;have k1:Chg (λk=>k=M∨k=G) w (xw w z4 328):=Chg.of_below (qB);exact(k1.trans (a0.mono (λk q=>.inr q))).trans (Chg.of_set w2 M 1024 _ (.inl rfl))
 have a6:=HF.1.caps;have e0:=HF.1.fol;clear hO a1 a3 hI a0;go_wp2;go_ret;refine⟨G',cp',?_,HF⟩;go_num
theorem yE5 (a:Nat) (ha:a<256) (w:World):(xf 250 #[xi a] w (spV (sOne a) (sOne a)):Prop):=by
 have hS:sOr sNo (sOne a)=sOne a:=by funext p;simp[sOr,sNo]
 have HW:Hid (∀wx:World,(xf 233 #[.agg #[xu 0,xu 0,xu 0,xu 0],xi a] wx (psV (sOne a)):Prop)):=λwx=>by have:=yE1 sNo a ha wx;rw[hS]at this;rwa [yYi]at this
 clear hS;go_enter func250,ntmps250;go_wp2_with fail;refine(HW.out _).mono ?_;rintro e w1 ⟨rfl,a1⟩;obtain⟨W0,a2⟩:=qW (xw w #[xu 0,xu 0,xu 0,xu 0,xu 0,xu 0,xu 0,xu 0] 343);have a4:yA W0 w 343 8 w [xu 0,xu 0,xu 0,xu 0,xu 0,xu 0,xu 0,xu 0]:=by rw[a2];exact yAa w _ qr rfl
 have a3:=qN a2
 rw[<-a2]at a1;have a0:=a4.below a1;have HK:=qH1 (a3.trans (a1.mono a3.size));obtain⟨r0,r1,r2,r3,r4,r5,r6,r7⟩:=a0.c8;obtain⟨f0,f1,f2,f3,f4,f5,f6,f7⟩:=a0.f8;have a5:=a0.lt.2;have HB:=qH1 a0;clear a4 a3 a1 a2 a0;go_wp2;refine bodyPost_ret (v:=spV (sOne a) (sOne a)) (ySa (base:=w.heap.size) (g:=w.heap.size) rfl ((HB.setSp (sOne a) (sOne a)).below (qB))) rfl ⟨rfl,?_⟩;exact(HB.below_setSp HK.out qr (sOne a) (sOne a)).alloc (by rw[yV2];exact Nat.le_of_lt a5) _
theorem xHq:laidOutB prog=true:=qk
theorem xHk:(328:TypeId)<prog.types.size:=of_decide_eq_true qk
theorem xH:(match prog.underlying 328 with|some (.array _ _)|some (.struct _)=>true|_=>false)=true:=qk
theorem yZf:Keyed prog 328:=Keyed.of_law (deep_law_laid xHq (m:=2) qo xHk qk xH)
theorem xEt:∃n,prog.types.size=n+1:=⟨prog.types.size-1,by have h:(328:Nat)<prog.types.size:=xHk;omega⟩
def psK (S:PS):Lit:=.string (keyBytes [.int .u64 (wdN S 0:Int),.int .u64 (wdN S 1:Int),.int .u64 (wdN S 2:Int),.int .u64 (wdN S 3:Int)])
theorem yK5 S (i:Nat):(Lit.int .u64 (wdN S i:Int)).wf=true:=by have:=yF3 S i;simp[Lit.wf,IntKind.min,IntKind.max,IntKind.signed,IntKind.bits];omega
theorem yZi (S:PS):keyOf prog 328 (psV S)=some (psK S):=by
 have h1:prog.keyType 328=true:=qk
 have h2:prog.cellsOf 328=4:=qk
 have h3:prog.cellsOf 68=1:=qk
 have h4:List.range 4= [0,1,2,3]:=rfl;have w0:=yK5 S 0;have w1:=yK5 S 1;have w2:=yK5 S 2;have w3:=yK5 S 3;obtain⟨n,hn⟩:=xEt;unfold keyOf;rw[underlying328];simp only[h1,Value.formed,underlying328,h2,hn];simp[Program.keyLits,underlying328,underlying68,h2,h3,h4,Value.cells,psK,w0,w1,w2,w3]
variable {S':PS}
theorem xEu {S:PS} (h:psK S=psK S') (p:Nat) (hp:p<256):S p=S' p:=by
 unfold psK at h;simp only[Lit.string.injEq]at h;have e:=keyBytes_inj (l:= [.int .u64 (wdN S 0:Int),.int .u64 (wdN S 1:Int),.int .u64 (wdN S 2:Int),.int .u64 (wdN S 3:Int)]) (l':= [.int .u64 (wdN S' 0:Int),.int .u64 (wdN S' 1:Int),.int .u64 (wdN S' 2:Int),.int .u64 (wdN S' 3:Int)]) ⟨rfl,rfl,rfl,rfl,trivial⟩ (λa ha=>by
  simp only[mem_cons,not_mem_nil,or_false]at ha
  rcases ha with rfl|rfl|rfl|rfl<;>exact yK5 S _) (λa ha=>by
  simp only[mem_cons,not_mem_nil,or_false]at ha
  rcases ha with rfl|rfl|rfl|rfl<;>exact yK5 S' _) h
 simp at e;refine yO1 (λi hi=>?_) p hp;rcases(by omega:i=0∨i=1∨i=2∨i=3)with rfl|rfl|rfl|rfl
 .exact Int.ofNat.inj e.1
 .exact Int.ofNat.inj e.2.1
 .exact Int.ofNat.inj e.2.2.1
 .exact Int.ofNat.inj e.2.2.2
abbrev stV (A:PS) (b:Bool):Value:=.agg #[xu (wdN A 0),xu (wdN A 1),xu (wdN A 2),xu (wdN A 3),b]
def ahdT (E:Nat->PS) (S:PS) (k:Nat):PS:=λq=>(List.range k).any (λp=>S p && E p q)
def ahd (E:Nat->PS) (S:PS):PS:=ahdT E S 256
def acc (en S:PS):Bool:=(List.range 256).any (λp=>S p && en p)
def RhS:Value->Option (DataW Value×List MemPlace):=λv=>some (.held v,[])
theorem xDn {v:Value} {x:DataW Value} {ps:List MemPlace} (h:RhS v=some (x,ps)):x=.held v/\ps= []:=by unfold RhS at h;simp at h;exact⟨h.1.symm,h.2⟩
def StI (w:World) (mp n:Nat) (E:Nat->PS) (en:PS):Prop:=∃D,w.ownsMap prog 328 RhS mp n D/\∀S,Maps.has D (psK S)=false∨(Maps.has D (psK S)=true/\∀z,D.atKey (psK S) z=.held (stV (ahd E S) (acc en S)))
theorem StI.made (h:w.heap[mp]?=some (.map #[] 0)):StI w mp 0 E en:=by
 refine⟨.map [],⟨#[],0,h,?_,by simp,by simp⟩,λS=>.inl rfl⟩;obtain⟨es,c,he,hf,_⟩:=World.ownsMap_made (H:=Value) w prog 328 RhS;rw[World.alloc_heap_new]at he;cases he
 exact hf
theorem StI.chg {S:Nat->Prop} (h:StI w mp n E en) (hc:Chg S w w') (hn:¬S mp):StI w' mp n E en:=by obtain⟨D,⟨es,c,h1,h2,h3,h4⟩,hk⟩:=h;exact⟨D,⟨es,c,(hc.block mp (Array.getElem?_eq_some_iff.1 h1).1 hn).trans h1,h2,h3,h4⟩,hk⟩
theorem xAe {S:PS} (h:∀p,p<256->S p=S' p) (k:Nat) (hk:k<=256):ahdT E S k=ahdT E S' k:=by
 funext q;unfold ahdT;rw[Bool.eq_iff_iff,any_eq_true,any_eq_true];constructor
 .rintro⟨p,hp,hx⟩;exact⟨p,hp,by rw[<-h p (by have:=mem_range.1 hp;omega)];exact hx⟩
 .rintro⟨p,hp,hx⟩;exact⟨p,hp,by rw[h p (by have:=mem_range.1 hp;omega)];exact hx⟩
theorem xAg {S:PS} (h:∀p,p<256->S p=S' p):acc en S=acc en S':=by
 unfold acc;rw[Bool.eq_iff_iff,any_eq_true,any_eq_true];constructor
 .rintro⟨p,hp,hx⟩;exact⟨p,hp,by rw[<-h p (mem_range.1 hp)];exact hx⟩
 .rintro⟨p,hp,hx⟩;exact⟨p,hp,by rw[h p (mem_range.1 hp)];exact hx⟩
theorem xC6 (w:World):(zeroValue 330).run prog w=.ok (.agg #[xu 0,xu 0,xu 0,xu 0,false]) w:=qk
def StD (w:World) (mp n:Nat) (D:DataW Value) (E:Nat->PS) (en:PS):Prop:=w.ownsMap prog 328 RhS mp n D/\∀S,Maps.has D (psK S)=false∨(Maps.has D (psK S)=true/\∀z,D.atKey (psK S) z=.held (stV (ahd E S) (acc en S)))
variable {D:DataW Value}
theorem StD.chg {S:Nat->Prop} (h:StD w mp n D E en) (hc:Chg S w w') (hn:¬S mp):StD w' mp n D E en:=by obtain⟨⟨es,c,h1,h2,h3,h4⟩,hk⟩:=h;exact⟨⟨es,c,(hc.block mp (Array.getElem?_eq_some_iff.1 h1).1 hn).trans h1,h2,h3,h4⟩,hk⟩
theorem StD.lt (h:StD w mp n D E en):mp<w.heap.size:=by obtain⟨⟨es,c,h1,h2,h3,h4⟩,hk⟩:=h;exact(Array.getElem?_eq_some_iff.1 h1).1
theorem StD.ne (h:StD w mp n D E en) {sz g:Nat} (hb:w.ownsRow base t sz (xg g k cp) k vs):¬mp=g:=λq=>by
 obtain⟨⟨es,c,h1,h2,h3,h4⟩,hk⟩:=h
 rcases hb.2 with⟨h0,_⟩|⟨g',cap',cur,hv,_,hh,_⟩
 .cases h0
 .simp at hv
  rw[<-hv.1,<-q,h1]at hh
  cases hh
theorem StD.look_t (h:StD w mp n D E en) S (hh:Maps.has D (psK S)=true):(Instr.lookup 336 (.map (some mp)) (psV S) true).run prog w=.ok (.tuple #[stV (ahd E S) (acc en S),true]) w:=by
 obtain⟨hD,hv⟩:=h;obtain⟨v,ps,a1,hR⟩:=hD.look_ok yZf underlying336 (xC6 w) (zd:=.held (.agg #[xu 0,xu 0,xu 0,xu 0,false])) (zp:= []) rfl (yZi S);have a0:=(xDn hR).1;rcases hv S with h2|⟨h2,h3⟩
 .rw[hh]at h2;cases h2
 .rw[h3]at a0;simp only[DataW.held.injEq]at a0;rw[<-a0,h2]at a1;exact a1
theorem StD.look_f (h:StD w mp n D E en) S (hh:Maps.has D (psK S)=false):(Instr.lookup 336 (.map (some mp)) (psV S) true).run prog w=.ok (.tuple #[.agg #[xu 0,xu 0,xu 0,xu 0,false],false]) w:=by obtain⟨hD,hv⟩:=h;obtain⟨v,ps,a1,hR⟩:=hD.look_ok yZf underlying336 (xC6 w) (zd:=.held (.agg #[xu 0,xu 0,xu 0,xu 0,false])) (zp:= []) rfl (yZi S);have a0:=(xDn hR).1;rw[Maps.atKey_of_not_has hh]at a0;simp only[DataW.held.injEq]at a0;rw[<-a0,hh]at a1;exact a1
theorem StI.put (h:StI w mp n E en) (hn:n<maxLen) S:∃w',(Instr.mapUpdate 336 (.map (some mp)) (psV S) (stV (ahd E S) (acc en S))).run prog w=.ok () w'/\StI w' mp (n+1) E en/\Chg (λk=>k=mp) w w':=by
 obtain⟨D,hD,hv⟩:=h;obtain⟨w',a0,ho,hg⟩:=hD.store yZf underlying336 hn (yZi S) (val:=stV (ahd E S) (acc en S)) (d:=.held (stV (ahd E S) (acc en S))) (ps:= []) rfl;refine⟨w',a0,⟨_,ho,λS'=>?_⟩,Chg.of_grown hg.grown (λk q=>by cases q;rfl)⟩;by_cases he:psK S'=psK S
 .have hp:=xEu he;rw[he,show ahd E S'=ahd E S from xAe hp 256 qo,xAg hp];exact .inr ⟨Maps.has_put_same hD.isMap (yZf.key (yZi S)) _,λz=>Maps.atKey_put_same hD.isMap (yZf.key (yZi S)) _ z⟩
 .rcases hv S' with h2|⟨h2,h3⟩
  .exact .inl (by rw[Maps.has_put_other he];exact h2)
  .exact .inr ⟨by rw[Maps.has_put_other he];exact h2,λz=>by rw[Maps.atKey_put_other he];exact h3 z⟩
section
section
variable {P:Program} {ops:Array Oper} {Q:Exit->Act->World->Prop} {md:Region.Mode} {S:World->Prop} {L:Nat} {l n:Nat}
theorem xEy {K:Act->World->Prop} (hd:∀c,o.op≠ .defer c) (h:o.wp P a w K Q):o.wpIn (Fence.wide.inRound l) n P a w K Q:=by
 refine⟨λ_ _=>trivial,?_⟩;rw[Oper.semAt_eq _ _ _ hd];unfold Oper.wp at h;generalize (execOp a.eval o).run P w=r at*;cases r with
 |ok x w'=>
  cases x with
  |value v=>exact h
  |skip=>exact h
  |defer d=>exact h
  |enter f args=>exact⟨λq=>by simp[Fence.wide]at q,CallsIn.inRound l (callsIn_wide.2 h)⟩
  |row row args=>exact⟨λq=>by simp[Fence.wide]at q,λc cs hr=>let ⟨v,w'',r,s⟩:=h c cs;⟨v,w'',r,stepsIn_wide.2 s⟩⟩
  |_=>exact h.elim
 |halt x w'=>cases x<;>exact h
def yNy (ops:Array Oper):Bool:=ops.all (λo=>match o.op with| .defer _=>false|_=>true)
theorem yPv (h:yNy ops=true) (ho:ops[i]?=some o) (c:Call):o.op≠ .defer c:=by intro q;unfold yNy at h;rw[Array.all_eq_true]at h;obtain⟨hi,he⟩:=Array.getElem?_eq_some_iff.1 ho;have:=h i hi;rw[he,q]at this;cases this
theorem yI4 (hd:yNy ops=true) (hno:¬LetsOut Q):∀(fuel:Nat) (listed:Array Bool) (a:Act) (w:World),wpAny P md ops Q fuel listed a w->wpAnyIn (Fence.wide.inRound l) n P md ops Q fuel listed a w
 |0,_,_,_,h=>h
 |fuel+1,listed,a,w,h=>by
  refine⟨h.1,λi hi=>?_⟩
  have h1:=h.2 i hi
  unfold wpOp at h1
  unfold wpOpIn
  cases ho:ops[i]? with
  |none=>
   rw[ho]at h1
   exact yI4 hd hno fuel _ a w h1
  |some o=>
   rw[ho]at h1
   simp only at h1⊢
   split
   .next hw=>
    rw[if_pos hw]at h1
    rcases h1 with h1|⟨_,h1⟩
    .exact Oper.wpIn_mono (λa w q=>yI4 hd hno fuel _ a w q) (xEy (yPv hd ho) h1)
    .exact(hno h1).elim
   .next hw=>
    rw[if_neg hw]at h1
    exact⟨λ_ _=>trivial,yI4 hd hno fuel _ _ w h1⟩
theorem yGh {id:Nat} (L:Nat) (S:World->Prop) (hm:P.follows .mixedOrders=true) (hd:yNy ops=true) (hno:¬LetsOut Q)
  (h:AnyT P .any ops Q S L ops.size (Array.replicate ops.size false) a w.drew):(Code.region id ops true).wpIn (Fence.wide.inRound l) n P Q a w:=
 wpIn_region_any hm (yI4 hd hno _ _ _ _ (yOx _ _ _ _ h))
end
end
section
attribute [local go_sem] Oper.semAt_some
variable {a:Nat}
theorem MtrI.edge4 (h:MtrI w base M T G cp a E en mp) (hp:p<a):xk w G (p*4) (xu (wdN (E p) 0))/\xk w G (p*4+1) (xu (wdN (E p) 1))/\xk w G (p*4+2) (xu (wdN (E p) 2))/\xk w G (p*4+3) (xu (wdN (E p) 3))/\w.frozen? (xd G (p*4))=false/\w.frozen? (xd G (p*4+1))=false/\w.frozen? (xd G (p*4+2))=false/\w.frozen? (xd G (p*4+3))=false:=by rw[Nat.mul_comm p 4];exact⟨h.edge hp (j:=0) qo,h.edge hp qo,h.edge hp qo,h.edge hp qo,h.frzG _,h.frzG _,h.frzG _,h.frzG _⟩
def conE (E:Nat->PS) (F X:PS) (k:Nat):Nat->PS:=λp=>if p<k then(λq=>E p q || (F p && X q))else E p
def CoB (w:World) (h M:Nat) (F X:PS) (W:World):Prop:=yA W h 284 1 h [xp M]/\yA W h 328 4 (h+1) (psL F)/\yA W h 328 4 (h+1+1) (psL X)
def CoI (w:World) (base M:Nat) (T:Nat->PS) (G cp a:Nat) (E:Nat->PS) (en:PS) (mp:Nat) (F X:PS) (k:Nat) (W:World):Prop:=
 MtrI W base M T G cp a (conE E F X k) en mp/\CoB w w M F X W/\Chg (λj=>j=G) w W
theorem yIh F X w (h:MtrI w base M T G cp a E en mp) (hF:∀p,F p=true->p<a) (ha:a<=256):
  Calls prog 251 #[xp M,psV F,psV X] w λe w'=>(∃v,e=.returned v)/\Hid (MtrI w' base M T G cp a (λp q=>E p q || (F p && X q)) en mp/\Chg (λk=>k=G) w w'):=by
 obtain⟨W0,a8⟩:=qW (xw ((w.alloc (.cells #[xp M] 284)).alloc (.cells (psL F).toArray 328)) (psL X).toArray 328);have ah:Hid (CoI w base M T G cp a E en mp F X 0 W0/\W0.heap.size=w.heap.size+3):=by
  obtain⟨b1,b2,b3,k0⟩:=box3 a8;have e:conE E F X 0=E:=by funext p q;simp[conE]
  unfold CoI CoB;rw[e];exact⟨⟨h.below k0,⟨b1,b2,b3⟩,Chg.of_below k0⟩,by rw[a8];simp⟩
 have HF:Hid (∀p,F p=true->p<a):=hF;have aj:G<w.heap.size:=h.ltG.2;have aq:M<w.heap.size:=h.ltM.2;clear h hF;have al:prog.follows Departure.mixedOrders=true:=qk
 refine(callsIn_wide (n:=9)).1 ?_;refine callsIn_of_wp_marks func251 rfl trivial ?_ rfl;simp only[ntmps251,size_toArray,length_cons,length_nil,Nat.reduceAdd,Nat.reduceSub,Array.replicate_succ,Array.replicate_zero,push_toArray,append_toArray,nil_append,cons_append];gi_wp2;have ab:=a8;simp only[psL]at ab;rw[<-ab];clear a8 ab;have z0:=ah.2
 refine yH5 qj F rfl rfl (λk W=>CoI w base M T G cp a E en mp F X k W/\W0.heap.size<=W.heap.size) ?hI ?hIt ?hIs ⟨ah.1,Nat.le_refl _⟩
  (λx=>{tmps:=#[.pointer (some ⟨M,0,none⟩),psV F,psV X,.pointer (some ⟨w,0,none⟩),.pointer (some ⟨w+1,0,none⟩),.pointer (some ⟨w+1+1,0,none⟩),.int .i64 (x:Int),psV F,.func (.func 246) #[psV F] #[],.int .i64 (x:Int),undef,undef,undef,undef,undef,undef,undef,undef,undef,undef,undef,undef,undef,undef,undef],defers:= []}) ?assign ?body ?done
 case hI=>rintro k A B row ⟨⟨hM,hB,hC⟩,a1⟩ hg hr;have hc:Chg (λj=>row=some j) A B:=Chg.of_grown hg (λj q=>q);have a6:∀j,row=some j->W0.heap.size<=j:=λj q=>(hr j q).1;have hb:∀{t sz g:Nat} {vs:List Value},g<W0.heap.size->yA A w t sz g vs->yA B w t sz g vs:=λhg h=>h.chg hc (λq=>qw (a6 _ q));refine⟨⟨hM.chg hc (λq=>qw (a6 _ q)) (λq=>qw (a6 _ q)) (λj q=>qv (a6 _ q) hM.ltG.1),⟨hb qo hB.1,hb qo hB.2.1,hb qo hB.2.2⟩,?_⟩,Nat.le_trans a1 hc.size⟩;exact⟨hc.os.trans hC.os,hc.tape.trans hC.tape,hc.output.trans hC.output,Nat.le_trans hC.size hc.size,λj hj hn=>(hc.block j (Nat.lt_of_lt_of_le hj hC.size) (λq=>qw (a6 _ q))).trans (hC.block j hj hn)⟩
 case hIt=>exact λk W h=>h.1.1.tab
 case hIs=>
  rintro k k' W ⟨⟨hM,hB,hC⟩,a1⟩ hk ai;refine⟨⟨hM.iff (λ_ _ _ _=>rfl) (λq p hq hp=>?_) (λp hp q=>?_),hB,hC⟩,a1⟩
  .unfold conE;by_cases h3:q<k
   .rw[if_pos h3,if_pos qo]
   .rw[if_neg h3];by_cases h4:q<k'
    .rw[if_pos h4,ai q qo h4];simp
    .rw[if_neg h4]
  .have h5:=hM.new p hp q;unfold conE at h5⊢;have a7:F p=false:=by
    cases hf:F p with
    |false=>rfl
    |true=>have:=HF.out p hf;omega
   rw[a7]at h5⊢;by_cases h3:p<k
   .rw[if_pos h3]at h5;rw[if_pos (by omega)];exact h5
   .rw[if_neg h3]at h5;by_cases h4:p<k'
    .rw[if_pos h4];simp[h5]
    .rw[if_neg h4];exact h5
 case assign=>intro l x W K hK;gi_wp2;exact hK
 case body=>
  rintro l k x W ⟨⟨hM,hB,hC⟩,a1⟩ an hx hS ad;have a4:=HF.out x hS;have m0:=hB.1.cell (j:=0) rfl;obtain⟨t0,t1,t2,t3⟩:=hB.2.2.c4;have c0:=hM.fol;have ao:=hM.caps;have a5:conE E F X k x=E x:=by unfold conE;rw[if_neg (by omega)]
  have e0:(xk W G (x*4) (xu (wdN (E x) 0)):Prop):=by have:=hM.edge a4 (j:=0) (by omega);rwa [a5,show 4*x+0=x*4 by omega]at this
  have e1:(xk W G (x*4+1) (xu (wdN (E x) 1)):Prop):=by have:=hM.edge a4 (j:=1) (by omega);rwa [a5,show 4*x+1=x*4+1 by omega]at this
  have e2:(xk W G (x*4+2) (xu (wdN (E x) 2)):Prop):=by have:=hM.edge a4 (j:=2) (by omega);rwa [a5,show 4*x+2=x*4+2 by omega]at this
  have e3:(xk W G (x*4+3) (xu (wdN (E x) 3)):Prop):=by have:=hM.edge a4 (j:=3) (by omega);rwa [a5,show 4*x+3=x*4+3 by omega]at this
  have zx:(x:Int)<(a:Int):=by omega
  have HB:Hid (MtrI W base M T G cp a (conE E F X k) en mp/\CoB w w M F X W/\Chg (λj=>j=G) w W/\W0.heap.size<=W.heap.size/\conE E F X k x=E x/\F x=true/\(∀j,k<=j->j<x->F j=false)):=⟨hM,hB,hC,a1,a5,hS,ad⟩;have HU:Hid (∀wx:World,(xf 247 #[psV (E x),psV X] wx (psV (sOr (E x) X)):Prop)):=λwx=>yDa (E x) X wx;have am:=hM.ltG;clear hM hB hC a1 a5 hS ad;have ag:Hid (xk W.drew w 0 (xp M)/\xk W.drew M 1024 (xg G a cp)/\(xk W.drew G (x*4) (xu (wdN (E x) 0))/\xk W.drew G (x*4+1) (xu (wdN (E x) 1))/\xk W.drew G (x*4+2) (xu (wdN (E x) 2))/\xk W.drew G (x*4+3) (xu (wdN (E x) 3)))/\xk W.drew (w+1+1) 0 (xu (wdN X 0))/\xk W.drew (w+1+1) 1 (xu (wdN X 1))/\xk W.drew (w+1+1) 2 (xu (wdN X 2))/\xk W.drew (w+1+1) 3 (xu (wdN X 3))):=⟨m0,c0,⟨e0,e1,e2,e3⟩,t0,t1,t2,t3⟩;gi_wp2;refine yGh 15 (λwz=>xk wz w 0 (xp M)/\xk wz M 1024 (xg G a cp)/\(xk wz G (x*4) (xu (wdN (E x) 0))/\xk wz G (x*4+1) (xu (wdN (E x) 1))/\xk wz G (x*4+2) (xu (wdN (E x) 2))/\xk wz G (x*4+3) (xu (wdN (E x) 3)))/\xk wz (w+1+1) 0 (xu (wdN X 0))/\xk wz (w+1+1) 1 (xu (wdN X 1))/\xk wz (w+1+1) 2 (xu (wdN X 2))/\xk wz (w+1+1) 3 (xu (wdN X 3))) (by kernel_rfl) (by kernel_rfl) ?hlet ?_;case hlet=>rintro⟨a0,w0,hq⟩;exact nomatch (show Exit.outgrown=Exit.normal from hq.1)
  refine j9a 0 ag.out ?_;iterate 12 refine j9b ag.out ?_
  refine qO 13 rfl λK hK=>?_;go_simp;refine(HU.out _).mono ?_;rintro r v3 ⟨rfl,ae⟩;have HV:Hid (Below W W v3):=((Below.refl W W).drew).trans ae;have aa:Hid (MtrI v3 base M T G cp a (conE E F X k) en mp):=HB.1.below HV.out;have a3:CoB w w M F X v3:=⟨HB.2.1.1.below HV.out,HB.2.1.2.1.below HV.out,HB.2.1.2.2.below HV.out⟩;obtain⟨g0,g1,g2,g3,y0,y1,y2,y3⟩:=aa.edge4 a4;rw[HB.2.2.2.2.1]at g0 g1 g2 g3;have af:Hid (xk v3 w 0 (xp M)/\xk v3 M 1024 (xg G a cp)/\(xk v3 G (x*4) (xu (wdN (E x) 0))/\xk v3 G (x*4+1) (xu (wdN (E x) 1))/\xk v3 G (x*4+2) (xu (wdN (E x) 2))/\xk v3 G (x*4+3) (xu (wdN (E x) 3)))/\xk v3 (w+1+1) 0 (xu (wdN X 0))/\xk v3 (w+1+1) 1 (xu (wdN X 1))/\xk v3 (w+1+1) 2 (xu (wdN X 2))/\xk v3 (w+1+1) 3 (xu (wdN X 3))):=⟨a3.1.cell (j:=0) rfl,aa.fol,⟨g0,g1,g2,g3⟩,a3.2.2.cell (j:=0) rfl,a3.2.2.cell (j:=1) rfl,a3.2.2.cell (j:=2) rfl,a3.2.2.cell (j:=3) rfl⟩;have ac:Hid (CoB w w M F X v3):=a3;refine hK.out _ _ (.inr af.out) ?_;clear hK ae a3;refine jS ?_;refine j9a 14 af.out ?_;refine kL 15 ?_;refine qD ?_;have a9:Chg (λj=>j=G) W (set4 v3 G (x*4) (sOr (E x) X)):=(Chg.of_below HV.out).trans (yBa v3 G (x*4) _ rfl);have ar:G<w.heap.size:=aj;refine⟨rfl,⟨a9.size,λj o hj ho _=>(a9.block j (Array.getElem?_eq_some_iff.1 ho).1 (by omega)).trans ho⟩,⟨?_,?_,HB.2.2.1.trans a9⟩,Nat.le_trans HB.2.2.2.1 a9.size⟩
  .have h1:=aa.setE a4 (sOr (E x) X);rw[Nat.mul_comm 4 x]at h1;refine h1.iff (λ_ _ _ _=>rfl) (λq p hq hp=>?_) (λp hp q=>?_)
   .unfold updE conE;by_cases h2:q=x
    .subst h2;rw[if_pos rfl,if_pos (by omega),HB.2.2.2.2.2.1];simp[sOr]
    .rw[if_neg h2];by_cases h3:q<k
     .rw[if_pos h3,if_pos (by omega)]
     .rw[if_neg h3];by_cases h4:q<x+1
      .rw[if_pos h4,HB.2.2.2.2.2.2 q (by omega) (by omega)];simp
      .rw[if_neg h4]
   .have h5:=aa.new p hp q;unfold conE at h5⊢;have a7:F p=false:=by
     cases hf:F p with
     |false=>rfl
     |true=>have:=HF.out p hf;omega
    rw[a7]at h5⊢;by_cases h3:p<k
    .rw[if_pos h3]at h5;rw[if_pos (by omega)];exact h5
    .rw[if_neg h3]at h5;by_cases h4:p<x+1
     .rw[if_pos h4];simp[h5]
     .rw[if_neg h4];exact h5
  .have hb:∀{t sz g:Nat} {vs:List Value},yA v3 w t sz g vs->yA (set4 v3 G (x*4) (sOr (E x) X)) w t sz g vs:=λh=>h.chg (S:=λj=>j=G) (yBa v3 G (x*4) _ rfl) (qw h.lt.1);exact⟨hb ac.1,hb ac.2.1,hb ac.2.2⟩
 case done=>
  rintro D W hD ⟨⟨hM,hB,hC⟩,a1⟩ hK;have a2:Chg (λj=>j=D) W (W.putObj D (.deferred none)):=Chg.of_grown (grownBy_putObj' W D _) (λj q=>by cases q;rfl);have ak:Hid (MtrI (W.putObj D (.deferred none)) base M T G cp a (λp q=>E p q || (F p && X q)) en mp/\Chg (λk=>k=G) w (W.putObj D (.deferred none))):=by
   refine⟨(hM.chg a2 (by omega) (by omega) (λj q=>qw hM.ltG.1)).iff (λ_ _ _ _=>rfl) (λq p hq hp=>?_) (λp hp q=>?_),?_⟩
   .unfold conE;rw[if_pos (by omega)]
   .have h5:=hM.new p hp q;unfold conE at h5;have a7:F p=false:=by
     cases hf:F p with
     |false=>rfl
     |true=>have:=HF.out p hf;omega
    rw[a7]at h5⊢;by_cases h3:p<256
    .rw[if_pos h3]at h5;exact h5
    .rw[if_neg h3]at h5;simp[h5]
   .exact⟨a2.os.trans hC.os,a2.tape.trans hC.tape,a2.output.trans hC.output,Nat.le_trans hC.size a2.size,λj hj hn=>(a2.block j (Nat.lt_of_lt_of_le hj hC.size) (by omega)).trans (hC.block j hj hn)⟩
  clear hM hB hC a2;gi_wp2;refine⟨by simp,.inl ⟨_,_,rfl,run_takeDeferred hK,?_⟩⟩;exact⟨_,results_none rfl _ _ _,⟨_,rfl⟩,ak⟩
end
section
def noE (X:PS):Bool:=decide (wdN X 0=0) && decide (wdN X 1=0) && decide (wdN X 2=0) && decide (wdN X 3=0)
theorem yUx X (w:World):(Op.equalIn 10000 328 (psV X) (.agg #[xu 0,xu 0,xu 0,xu 0])).run prog w=.ok (noE X) w:=by
 have h:=run_equalIn_deep (P:=prog) 9998 2 328 qk;have h2:prog.cellsOf 328=4:=qk
 have h3:prog.cellsOf 68=1:=qk
 have h4:List.range 4= [0,1,2,3]:=rfl;have k:∀S:PS,prog.keyLits 2 328 (psV S).cells.toList=some [.int .u64 (wdN S 0:Int),.int .u64 (wdN S 1:Int),.int .u64 (wdN S 2:Int),.int .u64 (wdN S 3:Int)]:=λS=>by have w0:=yK5 S 0;have w1:=yK5 S 1;have w2:=yK5 S 2;have w3:=yK5 S 3;simp[Program.keyLits,underlying328,underlying68,h2,h3,h4,Value.cells,w0,w1,w2,w3]
 have hz:=yYi.symm;rw[hz];obtain⟨r,hr,hi⟩:=h w 2 2 (psV X) (psV sNo) _ _ qk qk (k X) (k sNo);rw[show(10000:Nat)=9998+2 from rfl,hr];congr 1;rw[Bool.eq_iff_iff,hi];unfold noE;simp only[yF2];simp[and_assoc]
theorem yY1 X:noE X=false↔∃p,p<256/\X p=true:=by
 constructor
 .intro h;apply Classical.byContradiction;intro hn;have hx:∀p,p<256->X p=sNo p:=λp hp=>by
   cases hc:X p with
   |false=>rfl
   |true=>exact absurd ⟨p,hp,hc⟩ hn
  have:noE X=true:=by unfold noE;simp[yDc hx (i:=0) qo,yDc hx (i:=1) qo,yDc hx (i:=2) qo,yDc hx (i:=3) qo,yF2]
  rw[h]at this;cases this
 .rintro⟨p,hp,hx⟩;cases he:noE X with
  |false=>rfl
  |true=>
   unfold noE at he;simp at he;have h0:X p=sNo p:=yO1 (λi hi=>by
    rw[yF2]
    rcases(by omega:i=0∨i=1∨i=2∨i=3)with rfl|rfl|rfl|rfl
    .exact he.1.1.1
    .exact he.1.1.2
    .exact he.1.2
    .exact he.2) p hp
   rw[hx]at h0;cases h0
theorem xFx en S:(!noE (sAnd S en))=acc en S:=by
 rw[Bool.eq_iff_iff];unfold acc;rw[any_eq_true,Bool.not_eq_true',yY1];constructor
 .rintro⟨p,hp,hx⟩;exact⟨p,mem_range.2 hp,hx⟩
 .rintro⟨p,hp,hx⟩;exact⟨p,mem_range.1 hp,hx⟩
abbrev z5:Array Value:=#[.int .u64 0,.int .u64 0,.int .u64 0,.int .u64 0,.bool false]
def stL (A:PS) (b:Bool):List Value:= [.int .u64 (wdN A 0:Int),.int .u64 (wdN A 1:Int),.int .u64 (wdN A 2:Int),.int .u64 (wdN A 3:Int),.bool b]
structure StB (w X:World) (base M:Nat) (T:Nat->PS) (G cp a:Nat) (E:Nat->PS) (en:PS) (mp n:Nat) (D:DataW Value) (S:PS):Prop where
 mtr:MtrI X base M T G cp a E en mp
 ptr:yA X w 284 1 w [xp M]
 set:yA X w 328 4 (w+1) (psL S)
 ans:yA X w 330 5 (w+1+1) z5.toList
 map:StD X mp n D E en
section
variable {w X X':World} {base M:Nat} {T:Nat->PS} {G cp a:Nat} {E:Nat->PS} {en:PS} {mp n:Nat} {D:DataW Value} {S:PS}
theorem StB.below (h:StB w X base M T G cp a E en mp n D S) (hb:Below X X X'):StB w X' base M T G cp a E en mp n D S:=
 ⟨h.mtr.below hb,h.ptr.below hb,h.set.below hb,h.ans.below hb,h.map.chg (S:=λ_=>False) (Chg.of_below hb) (λq=>q)⟩
variable {Z:Nat->Prop}
theorem StB.chg (h:StB w X base M T G cp a E en mp n D S) (hc:Chg Z X X') (hM:¬Z M) (hG:¬Z G) (hp:¬Z mp) (hb:∀k,Z k->base<=k/\w.heap.size+1+1<k):StB w X' base M T G cp a E en mp n D S:=
 ⟨h.mtr.chg hc hM hG (λk q=>(hb k q).1),h.ptr.chg hc (λq=>by have:=(hb _ q).2;omega),h.set.chg hc (λq=>by have:=(hb _ q).2;omega),h.ans.chg hc (λq=>by have:=(hb _ q).2;omega),h.map.chg hc hp⟩
end
def StP (base M:Nat) (T:Nat->PS) (G cp a:Nat) (E:Nat->PS) (en:PS) (mp n:Nat) (S:PS) (w:World) (e:Ending) (w':World):Prop:=
 e=.returned (stV (ahd E S) (acc en S))/\Hid (MtrI w' base M T G cp a E en mp/\StI w' mp (n+1) E en/\Chg (λk=>k=mp) w w')
theorem xC9 {g:Nat} {A:PS} {b:Bool} (ht:tmps[4]?.getD undef=(xp g)) (h:yA w base 330 5 g (stL A b)):(results Tryz.f232 tmps).run prog w=.ok (stV A b) w:=by obtain⟨p0,p1,p2,p3,p4⟩:=h.c5;simp[results,results232,ht,go_sem,p0,p1,p2,p3,p4]
def set5 (w:World) (g:Nat) (A:PS) (b:Bool):World:=(xt ((((w.setCell (xd g 0) (xu (wdN A 0))).setCell (xd g 1) (xu (wdN A 1))).setCell (xd g 2) (xu (wdN A 2))).setCell (xd g 3) (xu (wdN A 3))) g 4 b)
theorem yA.set5 {g:Nat} (h:yA w base t 5 g vs) A (b:Bool):yA (Go.Proofs.YtnnagkfoiganfaaGreatDoor.set5 w g A b) base t 5 g (stL A b):=by
 have h1:=((((h.set 0 (xu (wdN A 0))).set 1 (xu (wdN A 1))).set 2 (xu (wdN A 2))).set 3 (xu (wdN A 3))).set 4 b;have hl:=h.len;match vs,hl with
 | [_,_,_,_,_],_=>exact h1
theorem yI0 {Z:Nat->Prop} (w:World) (g:Nat) A (b:Bool) (hs:Z g):Chg Z w (set5 w g A b):=
 ((((Chg.of_set w g 0 _ hs).trans (Chg.of_set _ g 1 _ hs)).trans (Chg.of_set _ g 2 _ hs)).trans (Chg.of_set _ g 3 _ hs)).trans (Chg.of_set _ g 4 _ hs)
end
variable {a:Nat}
theorem yUk S (w:World) (h:MtrI w base M T G cp a E en mp) (hm:StD w mp n D E en):StB w (xw ((w.alloc (.cells #[xp M] 284)).alloc (.cells (psL S).toArray 328)) z5 330) base M T G cp a E en mp n D S/\Below w w (xw ((w.alloc (.cells #[xp M] 284)).alloc (.cells (psL S).toArray 328)) z5 330):=by obtain⟨b1,b2,b3,k0⟩:=box3 (w:=w) (a:=#[.pointer (some ⟨M,0,none⟩)]) (s:=284) (b:=(psL S).toArray) (t:=328) (c:=z5) (u:=330) rfl;exact⟨⟨h.below k0,b1,b2,b3,hm.chg (S:=λ_=>False) (Chg.of_below k0) (λq=>q)⟩,k0⟩
theorem yR7 S w (h:MtrI w base M T G cp a E en mp) (hm:StD w mp n D E en) (hh:Maps.has D (psK S)=true):Calls prog 232 #[xp M,psV S] w (StP base M T G cp a E en mp n S w):=by
 obtain⟨W0,ab⟩:=qW (xw ((w.alloc (.cells #[xp M] 284)).alloc (.cells (psL S).toArray 328)) z5 330);have a6:Hid (StB w W0 base M T G cp a E en mp n D S/\Below w w W0):=by rw[ab];exact yUk S w h hm
 have HH:=qH1 hh;have ad:Hid (base<=w.heap.size+1+1):=by show _<=_;have:=h.ltM;omega
 clear h hm hh;refine(callsIn_wide (n:=9)).1 ?_;refine callsIn_of_wp_marks func232 rfl trivial ?_ rfl;simp only[ntmps232,size_toArray,length_cons,length_nil,Nat.reduceAdd,Nat.reduceSub,Array.replicate_succ,Array.replicate_zero,push_toArray,append_toArray,nil_append,cons_append];gi_wp2;have aa:=ab;simp only[psL,z5]at aa;rw[<-aa];clear ab aa;have ac:∀X,StB w X base M T G cp a E en mp n D S->(xk X w 0 (xp M)/\xk X M 1029 (.map (some mp))/\xk X (w+1) 0 (xu (wdN S 0))/\xk X (w+1) 1 (xu (wdN S 1))/\xk X (w+1) 2 (xu (wdN S 2))/\xk X (w+1) 3 (xu (wdN S 3))/\StD X mp n D E en):=λX h=>⟨h.ptr.cell (j:=0) rfl,h.mtr.map,h.set.cell (j:=0) rfl,h.set.cell (j:=1) rfl,h.set.cell (j:=2) rfl,h.set.cell (j:=3) rfl,h.map⟩;have a7:=qH1 ac;have HD:=qH1 (a6.1.below ((Below.refl _ _).drew));clear ac;refine wpIn_wide.2 ?_;refine wp_region_noPanic ?_;refine yAf 99 (λwz=>xk wz w 0 (xp M)/\xk wz M 1029 (.map (some mp))/\xk wz (w+1) 0 (xu (wdN S 0))/\xk wz (w+1) 1 (xu (wdN S 1))/\xk wz (w+1) 2 (xu (wdN S 2))/\xk wz (w+1) 3 (xu (wdN S 3))/\StD wz mp n D E en) qk ?_;refine ja 0 (a7.out _ HD.out) ?_;iterate 8 refine jb (a7.out _ HD.out) ?_
 refine qO 9 rfl λK hK=>?_;go_simp;refine hK.out _ _ (.inr (a7.out _ (a6.1.below (by repeat (first|exact Below.refl _ _|refine Below.drew ?_|refine Below.alloc ?_ qr _|refine yAc ?_ qr _ _))))) ?_;clear hK;refine jS ?_;refine qO 10 rfl λK hK=>?_;go_simp;refine hK.out _ _ (.inr (a7.out _ (a6.1.below (by repeat (first|exact Below.refl _ _|refine Below.drew ?_|refine Below.alloc ?_ qr _|refine yAc ?_ qr _ _))))) ?_;clear hK;refine jS ?_;refine qO 11 rfl λK hK=>?_;go_simp;refine hK.out _ _ (.inr (a7.out _ (a6.1.below (by repeat (first|exact Below.refl _ _|refine Below.drew ?_|refine Below.alloc ?_ qr _|refine yAc ?_ qr _ _))))) ?_;clear hK;refine jS ?_;refine qD ?_;dsimp only[NoPanic];obtain⟨W1,a8⟩:=qW ((W0.alloc (.cells (stL (ahd E S) (acc en S)).toArray 330)).drew);have k1:Below W0 W0 W1:=by rw[a8];exact(qB).drew
 have s0:=a6.2.size;have a5:Hid (StB w W1 base M T G cp a E en mp n D S/\yA W1 w 330 5 W0 (stL (ahd E S) (acc en S))/\Below w w W1):=by refine⟨a6.1.below k1,?_,a6.2.trans (k1.mono s0)⟩;have b1:=yAa W0 (base:=w.heap.size) (t:=330) (sz:=5) (stL (ahd E S) (acc en S)).toArray s0 rfl;rw[a8];exact b1.below ((Below.refl _ _).drew)
 have a9:=a8;simp only[stL]at a9;rw[<-a9];clear a8 a9 k1 HD a7;have r0:=a5.2.1.cell (j:=0) rfl;have a0:=a5.1.ans.cell (j:=0) rfl;have f0:=a5.1.ans.frozen 0;have r1:=a5.2.1.cell (j:=1) rfl;have a1:=a5.1.ans.cell (j:=1) rfl;have f1:=a5.1.ans.frozen 1;have r2:=a5.2.1.cell (j:=2) rfl;have a2:=a5.1.ans.cell (j:=2) rfl;have f2:=a5.1.ans.frozen 2;have r3:=a5.2.1.cell (j:=3) rfl;have a3:=a5.1.ans.cell (j:=3) rfl;have f3:=a5.1.ans.frozen 3;have r4:=a5.2.1.cell (j:=4) rfl;have a4:=a5.1.ans.cell (j:=4) rfl;have f4:=a5.1.ans.frozen 4;have HF:Hid (StP base M T G cp a E en mp n S w (.returned (stV (ahd E S) (acc en S))) (set5 W1 (w+1+1) (ahd E S) (acc en S))/\yA (set5 W1 (w+1+1) (ahd E S) (acc en S)) w 330 5 (w+1+1) (stL (ahd E S) (acc en S))):=by have hc:Chg (λk=>k=w.heap.size+1+1) W1 (set5 W1 (w+1+1) (ahd E S) (acc en S)):=yI0 _ _ _ _ rfl;have hB:=a5.1;have hM:¬M=w.heap.size+1+1:=λq=>yAb hB.mtr.box hB.ans qj M rfl (by rw[q];rfl);have hG:¬G=w.heap.size+1+1:=λq=>yAb hB.mtr.row hB.ans qj G rfl (by rw[q];rfl);have hp:=hB.map.ne hB.ans;have ae:=ad.out;have hD:=hB.map.chg hc hp;refine⟨⟨rfl,hB.mtr.chg hc hM hG (λk q=>qo),⟨D,hD.1.mono (le_succ n),hD.2⟩,?_⟩,hB.ans.set5 _ _⟩;have hx:Chg (λk=>k=mp) w W1:=Chg.of_below a5.2.2;exact⟨hc.os.trans hx.os,hc.tape.trans hx.tape,hc.output.trans hx.output,Nat.le_trans hx.size hc.size,λj hj hn=>(hc.block j (Nat.lt_of_lt_of_le hj hx.size) qo).trans (hx.block j hj hn)⟩
 gi_wp2;exact⟨_,xC9 (base:=w.heap.size) (g:=w.heap.size+1+1) rfl HF.2,HF.1⟩
section
attribute [local go_sem] Oper.semAt_some
theorem yRi {S:PS} {k':Nat} (hk:k<=k') (h:∀j,k<=j->j<k'->S j=false):ahdT E S k'=ahdT E S k:=by
 funext q;unfold ahdT;rw[Bool.eq_iff_iff,any_eq_true,any_eq_true];constructor
 .rintro⟨p,hp,hx⟩;have hp:=mem_range.1 hp;refine⟨p,mem_range.2 ?_,hx⟩;apply Classical.byContradiction;intro hn;rw[h p qo hp]at hx;cases hx
 .rintro⟨p,hp,hx⟩;exact⟨p,mem_range.2 (qw (mem_range.1 hp)),hx⟩
theorem xAf {S:PS} {x:Nat} (hk:k<=x) (hS:S x=true) (h:∀j,k<=j->j<x->S j=false):ahdT E S (x+1)=sOr (ahdT E S k) (E x):=by rw[<-yRi hk h];funext q;simp[ahdT,sOr,range_succ,any_append,hS]
theorem yEn (h:StD w mp n D E en) {sz g:Nat} (hb:yA w base t sz g vs):¬g=mp:=λq=>h.ne hb q.symm
theorem yI1 {Z:Nat->Prop} {w5 w6:World} (hx:Chg Z w w5) (hc:Chg (λk=>w.heap.size<=k) w5 w6):Chg Z w w6:=
 ⟨hc.os.trans hx.os,hc.tape.trans hx.tape,hc.output.trans hx.output,Nat.le_trans hx.size hc.size,λj hj hn=>(hc.block j (Nat.lt_of_lt_of_le hj hx.size) qo).trans (hx.block j hj hn)⟩
structure RaI (w:World) (base M:Nat) (T:Nat->PS) (G cp a:Nat) (E:Nat->PS) (en:PS) (mp n:Nat) (D:DataW Value) (S:PS) (b7 k:Nat) (W4 W:World):Prop where
 st:StB w W base M T G cp a E en mp n D S
 made:yA W w 330 5 b7 (stL (ahdT E S k) (acc en S))
 low:Below w w W
 size:W4.heap.size<=W.heap.size
end
mutual
def wtP:Pat->Nat
 | .byte _=>1
 | .cls _=>1
 | .rep t _ _=>wtP t
 | .alt os=>wtA os+1
def wtA:List (List Pat)->Nat
 | []=>0
 |ts::os=>wtS ts+1+wtA os
def wtS:List Pat->Nat
 | []=>0
 |t::ts=>wtP t+wtS ts
end
theorem yXt:∀t:Pat,1<=wtP t
 | .byte _=>by simp[wtP]
 | .cls _=>by simp[wtP]
 | .rep t _ _=>by simp only[wtP];exact yXt t
 | .alt os=>by simp[wtP]
theorem yRo:∀ts:List Pat,ts.length<=wtS ts
 | []=>by simp[wtS]
 |t::ts=>by have:=yRo ts;have:=yXt t;simp only[wtS,length_cons];omega
theorem yRr:∀os:List (List Pat),os.length<=wtA os
 | []=>by simp[wtA]
 |t::ts=>by have:=yRr ts;simp only[wtA,length_cons];omega
theorem yRn:∀{ts:List Pat} {t:Pat},t∈ts->wtP t<=wtS ts
 |s::ts,t,h=>by
  rcases mem_cons.1 h with rfl|q
  .simp only[wtS];omega
  .have:=yRn q;simp only[wtS];omega
theorem yRq:∀{os:List (List Pat)} {ts:List Pat},ts∈os->wtS ts<=wtA os
 |s::os,ts,h=>by
  rcases mem_cons.1 h with rfl|q
  .simp only[wtA];omega
  .have:=yRq q;simp only[wtA];omega
variable {A:List UInt8->Pat->Prop}
theorem xG5 (hA:∀xs t,A xs t->wtP t<=xs.length) {t:Pat}:RepG A xs t->wtP t<=xs.length
 |⟨ys,ops,a,h1,h2,h3,h4⟩=>by
  have:=hA _ _ h2
  rw[h1,h4]
  split
  .simp;omega
  .simp only[wtP,length_append];omega
theorem yXq (hA:∀xs t,A xs t->wtP t<=xs.length):∀{ts:List Pat} {xs:List UInt8},SeqG A ts xs->wtS ts<=xs.length
 | [],_,h=>by simp[wtS]
 |t::ts,xs,⟨ys,zs,h1,h2,h3⟩=>by
  have:=xG5 hA h2
  have:=yXq hA h3
  rw[h1];simp only[wtS,length_append];omega
theorem yXs (hA:∀xs t,A xs t->wtP t<=xs.length):∀{os:List (List Pat)} {xs:List UInt8},AltG A os xs->wtA os<=xs.length+1
 | [],_,h=>h.elim
 | [ts],xs,h=>by have:=yXq hA (ts:=ts) (xs:=xs) h;simp only[wtA];omega
 |ts::t2::os,xs,⟨ys,zs,h1,h2,h3⟩=>by
  have:=yXq hA h2
  have:=yXs hA (os:=t2::os) h3
  rw[h1];rw[show wtA (ts::t2::os)=wtS ts+1+wtA (t2::os)from rfl];simp only[length_append,length_cons];omega
theorem yXr:∀(n:Nat) (xs:List UInt8) (t:Pat),yAm n xs t->wtP t<=xs.length
 |0,_,_,h=>h.elim
 |n+1,xs,t,h=>by
  rcases h with⟨c,rfl,_,rfl⟩|⟨rfl,rfl⟩|⟨c,rfl,rfl⟩|⟨ys,os,rfl,h2,rfl⟩|⟨p,i,k,f,h1,h2,rfl,rfl⟩
  .simp[wtP]
  .simp[wtP]
  .simp[wtP]
  .have:=yXs (λxs t q=>yXr n xs t q) h2
   simp only[wtP,length_append,length_cons,length_nil];omega
  .have hg:=yBj h2
   rw[yAw hg.2];simp only[wtP];omega
mutual
theorem nx_P:∀(t:Pat) (a:Nat),(lyP t a).nx<=a+wtP t
 | .byte _,a=>by simp[lyP,wtP]
 | .cls _,a=>by simp[lyP,wtP]
 | .rep t _ _,a=>by simp only[lyP,wtP,Lay.rep];exact nx_P t a
 | .alt os,a=>by have:=nx_A os (Lay.no a);simp only[lyP,wtP,Lay.no]at*;omega
theorem nx_A:∀(os:List (List Pat)) (g:Lay),(lyA os g).nx<=g.nx+wtA os
 | [],g=>by simp[lyA,wtA]
 |ts::os,g=>by
  have h1:=nx_A os (g.alt (lyS ts true (Lay.no g.nx)))
  have h2:=nx_S ts true (Lay.no g.nx)
  simp only[lyA,wtA,Lay.alt,Lay.no]at*;omega
theorem nx_S:∀(ts:List Pat) (em:Bool) (g:Lay),(lyS ts em g).nx<=g.nx+wtS ts
 | [],em,g=>by simp[lyS,wtS]
 |t::ts,em,g=>by
  have h1:=nx_S ts (em && nulB t) (g.seq em (nulB t) (lyP t g.nx))
  have h2:=nx_P t g.nx
  simp only[lyS,wtS,Lay.seq]at*;omega
end
noncomputable def zeroOf (t:Nat):Value:=((prog.info? t).bind (λi=>i.zero)).getD undef
theorem asBB (cs:Array Value) (w:World):(Instr.typeAssert (.iface 348 (.agg cs)) 346 348 true).run prog w=.ok (.tuple #[.agg cs,true]) w:=qk
theorem asCC (cs:Array Value) (w:World):(Instr.typeAssert (.iface 360 (.agg cs)) 346 360 true).run prog w=.ok (.tuple #[.agg cs,true]) w:=qk
theorem asCB (cs:Array Value) (w:World):(Instr.typeAssert (.iface 360 (.agg cs)) 346 348 true).run prog w=.ok (.tuple #[zeroOf 348,false]) w:=qk
theorem asRR (cs:Array Value) (w:World):(Instr.typeAssert (.iface 362 (.agg cs)) 346 362 true).run prog w=.ok (.tuple #[.agg cs,true]) w:=qk
theorem asRB (cs:Array Value) (w:World):(Instr.typeAssert (.iface 362 (.agg cs)) 346 348 true).run prog w=.ok (.tuple #[zeroOf 348,false]) w:=qk
theorem asRC (cs:Array Value) (w:World):(Instr.typeAssert (.iface 362 (.agg cs)) 346 360 true).run prog w=.ok (.tuple #[zeroOf 360,false]) w:=qk
theorem asSS (cs:Array Value) (w:World):(Instr.typeAssert (.iface 316 (.agg cs)) 346 316 true).run prog w=.ok (.tuple #[.agg cs,true]) w:=qk
theorem asSB (cs:Array Value) (w:World):(Instr.typeAssert (.iface 316 (.agg cs)) 346 348 true).run prog w=.ok (.tuple #[zeroOf 348,false]) w:=qk
theorem asSC (cs:Array Value) (w:World):(Instr.typeAssert (.iface 316 (.agg cs)) 346 360 true).run prog w=.ok (.tuple #[zeroOf 360,false]) w:=qk
theorem asSR (cs:Array Value) (w:World):(Instr.typeAssert (.iface 316 (.agg cs)) 346 362 true).run prog w=.ok (.tuple #[zeroOf 362,false]) w:=qk
theorem asAA (cs:Array Value) (w:World):(Instr.typeAssert (.iface 304 (.agg cs)) 346 304 true).run prog w=.ok (.tuple #[.agg cs,true]) w:=qk
theorem asAB (cs:Array Value) (w:World):(Instr.typeAssert (.iface 304 (.agg cs)) 346 348 true).run prog w=.ok (.tuple #[zeroOf 348,false]) w:=qk
theorem asAC (cs:Array Value) (w:World):(Instr.typeAssert (.iface 304 (.agg cs)) 346 360 true).run prog w=.ok (.tuple #[zeroOf 360,false]) w:=qk
theorem asAR (cs:Array Value) (w:World):(Instr.typeAssert (.iface 304 (.agg cs)) 346 362 true).run prog w=.ok (.tuple #[zeroOf 362,false]) w:=qk
theorem asAS (cs:Array Value) (w:World):(Instr.typeAssert (.iface 304 (.agg cs)) 346 316 true).run prog w=.ok (.tuple #[zeroOf 316,false]) w:=qk
def yCp (T:Nat->PS) (l:Lay):Nat->PS:=λb p=>T b p || l.tk p (UInt8.ofNat b)
def yBo (E:Nat->PS) (l:Lay):Nat->PS:=λp q=>E p q || l.ed p q
def LayR (base M:Nat) (T:Nat->PS) (G:Nat) (E:Nat->PS) (en:PS) (mp:Nat) (l:Lay) (w:World) (e:Ending) (w':World):Prop:=
 ∃G' cp',e=.returned (spV l.fst l.lst)/\Hid (MtrI w' base M (yCp T l) G' cp' l.nx (yBo E l) en mp/\Chg (λk=>k=M∨k=G) w w'/\(G'=G∨w.heap.size<=G'))
abbrev zsA:Array Value:=#[.int .u64 0,.int .u64 0,.int .u64 0,.int .u64 0,.int .u64 0,.int .u64 0,.int .u64 0,.int .u64 0]
theorem MtrI.taken4 (h:MtrI w base M T G cp a E en mp) (hp:p<256):xk w M (p*4) (xu (wdN (T p) 0))/\xk w M (p*4+1) (xu (wdN (T p) 1))/\xk w M (p*4+2) (xu (wdN (T p) 2))/\xk w M (p*4+3) (xu (wdN (T p) 3))/\w.frozen? (xd M (p*4))=false/\w.frozen? (xd M (p*4+1))=false/\w.frozen? (xd M (p*4+2))=false/\w.frozen? (xd M (p*4+3))=false:=by rw[Nat.mul_comm p 4];exact⟨h.tk hp (j:=0) qo,h.tk hp qo,h.tk hp qo,h.tk hp qo,h.frzM _,h.frzM _,h.frzM _,h.frzM _⟩
theorem xBy (b:UInt8) w (h:MtrI w base M T G cp a E en mp) (ha:a<256):
  Calls prog 237 #[xp M,yRd b] w (LayR base M T G E en mp (lyP (.byte b) a) w):=by
 obtain⟨W0,a3⟩:=qW (xw (w.alloc (.cells zsA 343)) #[.int .u8 (b.toNat:Int)] 348);have HW0:Hid (yA W0 w 343 8 w zsA.toList/\yA W0 w 348 1 (w+1) [.int .u8 (b.toNat:Int)]/\Below w w W0/\MtrI W0 base M T G cp a E en mp):=by
  obtain⟨b1,b2,k0⟩:=box2 a3;exact⟨b1,b2,k0,h.below k0⟩
 have HN:=qH1 (yEv W0 HW0.2.2.2 qo);have a9:=h.ltM;have aa:=h.ltG;clear h;have a5:=asBB #[.int .u8 (b.toNat:Int)];go_enter func237,ntmps237;go_wp2_with fail;rw[<-a3];clear a3 a5;refine HN.mono ?_;rintro e w1 ⟨G1,cp1,rfl,H1⟩;have a1:=qH2 (HW0.1.chg H1.2.1 qo) (HW0.2.1.chg H1.2.1 qo);have r0:=a1.2.cell (j:=0) rfl;have hlB:=b.toNat_lt;obtain⟨bn,a2⟩:=qE b.toNat;rw[<-a2]at r0 hlB;obtain⟨e0,e1,e2,e3,y0,y1,y2,y3⟩:=H1.1.taken4 hlB;have a8:=H1.1.ltM;have a6:=H1.1.ne;have a7:=H1.2.1.size;have zb:(bn:Int)<256:=qo
 have a4:Hid (∀wx:World,(xf 233 #[psV (T bn),xi a] wx (psV (sOr (T bn) (sOne a))):Prop)):=λwx=>yE1 (T bn) a ha wx;have HBn:=qH1 a2;clear a2;go_upto_region 5 with fail;have HS0:=qH5 r0 e0 e1 e2 e3;refine yAf 15 (λwz=>xk wz (w+1) 0 (.int .u8 (bn:Int))/\xk wz M (bn*4) (xu (wdN (T bn) 0))/\xk wz M (bn*4+1) (xu (wdN (T bn) 1))/\xk wz M (bn*4+2) (xu (wdN (T bn) 2))/\xk wz M (bn*4+3) (xu (wdN (T bn) 3))) qk ?_;refine ja 0 HS0.out ?_;iterate 10 refine jb HS0.out ?_
 refine yB2 (i:=11) (j:=12) qk rfl rfl (λK hK=>?_) (λK hK=>?_)
 .go_simp;refine(a4.out _).mono ?_;rintro r v3 ⟨rfl,a0⟩;have HV:=qH1 (((Below.refl w1 w1).drew).trans a0);have HM3:=qH1 (H1.1.below HV.out);have HB3:=qH2 (a1.1.below HV.out) (a1.2.below HV.out);clear e0 e1 e2 e3 y0 y1 y2 y3;obtain⟨g0,g1,g2,g3,y0,y1,y2,y3⟩:=HM3.taken4 hlB;have HS3:=qH5 (by rw[HBn.out];exact HB3.2.cell (j:=0) rfl:(xk v3 (w+1) 0 (.int .u8 (bn:Int)):Prop)) g0 g1 g2 g3;refine hK.out _ _ (.inr HS3.out) ?_;clear hK a0;refine jS ?_;refine kO 12 HS3.out ?_;refine qO 13 rfl λK hK=>?_;go_simp;refine hK.out _ _ (.inr HS3.out) ?_;clear hK;exact zzQ2
 .go_simp;refine hK.out _ _ (.inr HS0.out) ?_;clear hK;refine jS ?_;refine yB2 (i:=11) (j:=13) qk rfl rfl (λK hK=>?_) (λK hK=>?_)
  .go_simp;refine(a4.out _).mono ?_;rintro r v3 ⟨rfl,a0⟩;have HV:=qH1 (((Below.refl w1 w1).drew).trans a0);have HM3:=qH1 (H1.1.below HV.out);have HB3:=qH2 (a1.1.below HV.out) (a1.2.below HV.out);clear e0 e1 e2 e3 y0 y1 y2 y3;obtain⟨g0,g1,g2,g3,y0,y1,y2,y3⟩:=HM3.taken4 hlB;have HS3:=qH5 (by rw[HBn.out];exact HB3.2.cell (j:=0) rfl:(xk v3 (w+1) 0 (.int .u8 (bn:Int)):Prop)) g0 g1 g2 g3;refine hK.out _ _ (.inr HS3.out) ?_;clear hK a0;refine jS ?_;refine qO 13 rfl λK hK=>?_;go_simp;refine hK.out _ _ (.inr HS3.out) ?_;clear hK;exact zzQ2
  .go_simp;refine hK.out _ _ (.inr HS0.out) ?_;clear hK;refine jS ?_;refine qO 11 rfl λK hK=>?_;go_simp;refine(a4.out _).mono ?_;rintro r v3 ⟨rfl,a0⟩;have HV:=qH1 (((Below.refl w1 w1).drew).trans a0);have HM3:=qH1 (H1.1.below HV.out);have HB3:=qH2 (a1.1.below HV.out) (a1.2.below HV.out);clear e0 e1 e2 e3 y0 y1 y2 y3;obtain⟨g0,g1,g2,g3,y0,y1,y2,y3⟩:=HM3.taken4 hlB;have HS3:=qH5 (by rw[HBn.out];exact HB3.2.cell (j:=0) rfl:(xk v3 (w+1) 0 (.int .u8 (bn:Int)):Prop)) g0 g1 g2 g3;refine hK.out _ _ (.inr HS3.out) ?_;clear hK a0;exact zzQ2
theorem yQl:(prog.info? 360).map (λi=>(i.zero,i.size))=some (some (.agg (Array.replicate 256 false)),256):=qk
theorem yX8 (f:UInt8->Bool) (hk:k<256) (w:World):(Instr.index 358 (.agg (setA f)) (xi k)).run prog w=.ok (f (UInt8.ofNat k)) w:=by
 have h1:=yX9 f k hk;have h2:=yAg f;have z:(k:Int)<256:=qo
 unfold Instr.index;simp[go_sem,h1];intro q;omega
def clsT (T:Nat->PS) (f:UInt8->Bool) (a k:Nat):Nat->PS:=λb p=>T b p || (decide (b<k) && (p==a && f (UInt8.ofNat b)))
structure ClI (w:World) (base M:Nat) (T:Nat->PS) (f:UInt8->Bool) (G cp a:Nat) (E:Nat->PS) (en:PS) (mp k:Nat) (w1 W:World):Prop where
 mtr:MtrI W base M (clsT T f a k) G cp (a+1) E en mp
 box:yA W w 343 8 w zsA.toList
 chg:Chg (λj=>j=M) w1 W
theorem xFh (f:UInt8->Bool) w (h:MtrI w base M T G cp a E en mp) (ha:a<256):
  Calls prog 237 #[xp M,clsV f] w (LayR base M T G E en mp (lyP (.cls f) a) w):=by
 obtain⟨W0,aa⟩:=qW (xw (w.alloc (.cells zsA 343)) (setA f) 360);have a5:Hid (yA W0 w 343 8 w zsA.toList/\yA W0 w 360 256 (w+1) (setA f).toList/\Below w w W0/\MtrI W0 base M T G cp a E en mp):=by
  obtain⟨b1,b2,k0⟩:=box2 aa;rw[yAg]at b2;exact⟨b1,b2,k0,h.below k0⟩
 have HN:=qH1 (yEv W0 a5.2.2.2 qo);have ar:=h.ltM;have au:=h.ltG;clear h;have ak:=asCB (setA f);have aj:=asCC (setA f);have ag:=(zero_of_info yQl).1;have ah:=yAg f;have ad:=run_storeCells_new (P:=prog) (xw w zsA 343) 360 (Array.replicate 256 false) (setA f) (by rw[yAg];exact(zero_of_info yQl).2) (by rw[yAg];simp) (yEb f);simp only[zsA,World.size_alloc]at ad;go_enter func237,ntmps237;go_wp2_with fail;have a9:=aa;simp only[zsA]at a9;rw[<-a9];clear aa a9 ak aj ag ad ah;refine HN.mono ?_;rintro e w1 ⟨G1,a2,rfl,H1⟩;have af:=qH2 (a5.1.chg H1.2.1 qo) (a5.2.1.chg H1.2.1 qo);have h0:w1.heap[w.heap.size+1]?=some (.cells (setA f) 360 (0,0)):=by have:=af.2.heap;simpa using this
 have hi:=(zero_of_info yC1).2;have aq:=H1.1.ltM;have am:=H1.1.ne;have an:=H1.2.1.size;have q0:=a5.2.2.1.size;go_wp2_with (refine wpList_load_row rfl 358 _ rfl (w+1) rfl 360 (setA f) (0,0) _ h0 underlying358 rfl (by rw[yAg];exact hi) ?_);clear h0 hi;go_loopw[45] (λiv wr=>∃k:Nat,k<=256/\iv=(xi k)/\Hid (ClI w base M T f G1 a2 a E en mp k w1 wr)) (λiv _=>256-(intOf iv).toNat);case atStart=>exact⟨0,qo,rfl,H1.1.iff (λb p _ _=>by simp[clsT]) (λ_ _ _ _=>rfl) H1.1.new,af.1,Chg.refl _ _⟩
 case round=>
  obtain⟨k,hk,rfl,HJ⟩:=hrel;by_cases hlt:k<256
  .have zk:(k:Int)<256:=qo
   have ae:=λw=>yX8 f hlt w;cases hfk:f (UInt8.ofNat k)with
   |false=>
    rw[hfk]at ae;have a1:Hid (ClI w base M T f G1 a2 a E en mp (k+1) w1 wr):=by
     refine⟨HJ.mtr.iff (λb p hb hp=>?_) (λ_ _ _ _=>rfl) HJ.mtr.new,HJ.box,HJ.chg⟩;unfold clsT;by_cases e:b=k
     .subst e;simp[hfk]
     .have:decide (b<k+1)=decide (b<k):=by rw[decide_eq_decide];omega
      rw[this]
    clear hfk;refine zY ?_;exact⟨k+1,qo,by go_num,a1⟩
   |true=>
    rw[hfk]at ae;obtain⟨e0,e1,e2,e3,y0,y1,y2,y3⟩:=HJ.mtr.taken4 hlt;have ao:=HJ.mtr.ltM;have ab:Hid (∀wx:World,(xf 233 #[psV (clsT T f a k k),xi a] wx (psV (sOr (clsT T f a k k) (sOne a))):Prop)):=λwx=>yE1 (clsT T f a k k) a ha wx;have ac:=qH1 hfk;clear hfk;go_upto_region 14 with fail;have a8:=qH4 e0 e1 e2 e3;refine yAf 13 (λwz=>xk wz M (k*4) (xu (wdN (clsT T f a k k) 0))/\xk wz M (k*4+1) (xu (wdN (clsT T f a k k) 1))/\xk wz M (k*4+2) (xu (wdN (clsT T f a k k) 2))/\xk wz M (k*4+3) (xu (wdN (clsT T f a k k) 3))) qk ?_;refine ja 0 a8.out ?_;iterate 8 refine jb a8.out ?_
    refine yB2 (i:=9) (j:=10) qk rfl rfl (λK hK=>?_) (λK hK=>?_)
    .go_simp;refine(ab.out _).mono ?_;rintro r v3 ⟨rfl,a3⟩;have HV:=qH1 (((Below.refl wr wr).drew).trans a3);have a4:=qH1 (HJ.mtr.below HV.out);clear e0 e1 e2 e3 y0 y1 y2 y3;obtain⟨g0,g1,g2,g3,y0,y1,y2,y3⟩:=a4.taken4 hlt;have a0:=qH4 g0 g1 g2 g3;refine hK.out _ _ (.inr a0.out) ?_;clear hK a3;refine jS ?_;refine kO 10 a0.out ?_;refine kO 11 a0.out ?_;refine kO 12 a0.out ?_;refine kL 13 ?_;refine qD ?_;have a1:Hid (ClI w base M T f G1 a2 a E en mp (k+1) w1 (set4 v3 M (k*4) (sOr (clsT T f a k k) (sOne a)))):=by
      have hc:Chg (λj=>j=M) v3 (set4 v3 M (k*4) (sOr (clsT T f a k k) (sOne a))):=yBa v3 M _ _ rfl;have h1:MtrI (set4 v3 M (k*4) (sOr (clsT T f a k k) (sOne a))) base M (updE (clsT T f a k) k (sOr (clsT T f a k k) (sOne a))) G1 a2 (a+1) E en mp:=by rw[Nat.mul_comm k 4];exact a4.setT hlt _
      refine⟨h1.iff (λb p hb hp=>?_) (λ_ _ _ _=>rfl) h1.new,(HJ.box.below HV.out).chg hc qo,(HJ.chg.trans (Chg.of_below HV.out)).trans hc⟩;unfold updE clsT;by_cases e:b=k
      .subst e;rw[if_pos rfl];simp[sOr,sOne,ac.out]
      .have:decide (b<k+1)=decide (b<k):=by rw[decide_eq_decide];omega
       rw[if_neg e,this]
     simp only[set4]at a1;go_wp2_with fail;refine⟨⟨k+1,qo,by go_num,a1⟩,?_⟩;go_light;simp[intOf];omega
    .go_simp;refine hK.out _ _ (.inr a8.out) ?_;clear hK;refine jS ?_;refine yB2 (i:=9) (j:=11) qk rfl rfl (λK hK=>?_) (λK hK=>?_)
     .go_simp;refine(ab.out _).mono ?_;rintro r v3 ⟨rfl,a3⟩;have HV:=qH1 (((Below.refl wr wr).drew).trans a3);have a4:=qH1 (HJ.mtr.below HV.out);clear e0 e1 e2 e3 y0 y1 y2 y3;obtain⟨g0,g1,g2,g3,y0,y1,y2,y3⟩:=a4.taken4 hlt;have a0:=qH4 g0 g1 g2 g3;refine hK.out _ _ (.inr a0.out) ?_;clear hK a3;refine jS ?_;refine kO 11 a0.out ?_;refine kO 12 a0.out ?_;refine kL 13 ?_;refine qD ?_;have a1:Hid (ClI w base M T f G1 a2 a E en mp (k+1) w1 (set4 v3 M (k*4) (sOr (clsT T f a k k) (sOne a)))):=by
       have hc:Chg (λj=>j=M) v3 (set4 v3 M (k*4) (sOr (clsT T f a k k) (sOne a))):=yBa v3 M _ _ rfl;have h1:MtrI (set4 v3 M (k*4) (sOr (clsT T f a k k) (sOne a))) base M (updE (clsT T f a k) k (sOr (clsT T f a k k) (sOne a))) G1 a2 (a+1) E en mp:=by rw[Nat.mul_comm k 4];exact a4.setT hlt _
       refine⟨h1.iff (λb p hb hp=>?_) (λ_ _ _ _=>rfl) h1.new,(HJ.box.below HV.out).chg hc qo,(HJ.chg.trans (Chg.of_below HV.out)).trans hc⟩;unfold updE clsT;by_cases e:b=k
       .subst e;rw[if_pos rfl];simp[sOr,sOne,ac.out]
       .have:decide (b<k+1)=decide (b<k):=by rw[decide_eq_decide];omega
        rw[if_neg e,this]
      simp only[set4]at a1;go_wp2_with fail;refine⟨⟨k+1,qo,by go_num,a1⟩,?_⟩;go_light;simp[intOf];omega
     .go_simp;refine hK.out _ _ (.inr a8.out) ?_;clear hK;refine jS ?_;refine qO 9 rfl λK hK=>?_;go_simp;refine(ab.out _).mono ?_;rintro r v3 ⟨rfl,a3⟩;have HV:=qH1 (((Below.refl wr wr).drew).trans a3);have a4:=qH1 (HJ.mtr.below HV.out);clear e0 e1 e2 e3 y0 y1 y2 y3;obtain⟨g0,g1,g2,g3,y0,y1,y2,y3⟩:=a4.taken4 hlt;have a0:=qH4 g0 g1 g2 g3;refine hK.out _ _ (.inr a0.out) ?_;clear hK a3;refine jS ?_;refine kO 12 a0.out ?_;refine kL 13 ?_;refine qD ?_;have a1:Hid (ClI w base M T f G1 a2 a E en mp (k+1) w1 (set4 v3 M (k*4) (sOr (clsT T f a k k) (sOne a)))):=by
       have hc:Chg (λj=>j=M) v3 (set4 v3 M (k*4) (sOr (clsT T f a k k) (sOne a))):=yBa v3 M _ _ rfl;have h1:MtrI (set4 v3 M (k*4) (sOr (clsT T f a k k) (sOne a))) base M (updE (clsT T f a k) k (sOr (clsT T f a k k) (sOne a))) G1 a2 (a+1) E en mp:=by rw[Nat.mul_comm k 4];exact a4.setT hlt _
       refine⟨h1.iff (λb p hb hp=>?_) (λ_ _ _ _=>rfl) h1.new,(HJ.box.below HV.out).chg hc qo,(HJ.chg.trans (Chg.of_below HV.out)).trans hc⟩;unfold updE clsT;by_cases e:b=k
       .subst e;rw[if_pos rfl];simp[sOr,sOne,ac.out]
       .have:decide (b<k+1)=decide (b<k):=by rw[decide_eq_decide];omega
        rw[if_neg e,this]
      simp only[set4]at a1;go_wp2_with fail;refine⟨⟨k+1,qo,by go_num,a1⟩,?_⟩;go_light;simp[intOf];omega
  .obtain rfl:k=256:=qo
   have zk:¬(256:Int)<256:=qo
   have al:Hid (∀wx:World,(xf 250 #[xi a] wx (spV (sOne a) (sOne a)):Prop)):=λwx=>yE5 a ha wx;go_wp2_with fail;refine(al.out _).mono ?_;rintro e w5 ⟨rfl,a7⟩;have a6:=HJ.box.below a7;obtain⟨r0,r1,r2,r3,r4,r5,r6,r7⟩:=a6.c8;obtain⟨f0,f1,f2,f3,f4,f5,f6,f7⟩:=a6.f8;have HF:Hid (LayR base M T G E en mp (lyP (.cls f) a) w (.returned (spV (sOne a) (sOne a))) (setSp w5 w (sOne a) (sOne a))/\yA (setSp w5 w (sOne a) (sOne a)) w 343 8 w (spL (sOne a) (sOne a))):=by
    have h5:=HJ.mtr.below a7;have hc:Chg (λk=>k=w.heap.size) w5 (setSp w5 w (sOne a) (sOne a)):=yKm w5 _ _ _ rfl;have ai:¬G1=w.heap.size:=λq=>yAb h5.row a6 qj G1 rfl (by rw[q];rfl);have k0:Chg (λk=>k=M∨k=G) w W0:=Chg.of_below a5.2.2.1;have hx:=((k0.trans H1.2.1).trans (HJ.chg.mono (λk q=>.inl q))).trans (Chg.of_below a7);refine⟨⟨G1,a2,rfl,⟨(h5.chg hc qo ai (λk q=>qo)).iff (λb p hb hp=>?_) (λq p hq hp=>by simp[yBo,lyP]) (λp hp q=>by have:=h5.new p hp q;simp[yBo,lyP,this]),?_,?_⟩⟩,a6.setSp _ _⟩
    .unfold yCp clsT;simp[lyP,hb]
    .exact⟨hc.os.trans hx.os,hc.tape.trans hx.tape,hc.output.trans hx.output,Nat.le_trans hx.size hc.size,λj hj hn=>(hc.block j (Nat.lt_of_lt_of_le hj hx.size) qo).trans (hx.block j hj hn)⟩
    .rcases H1.2.2 with q|q
     .exact .inl q
     .exact .inr qo
   clear a6 a7;go_wp2;exact bodyPost_ret (v:=spV (sOne a) (sOne a)) (yEa (base:=w.heap.size) (g:=w.heap.size) rfl HF.2) rfl HF.1
end Go.Proofs.YtnnagkfoiganfaaGreatDoor
