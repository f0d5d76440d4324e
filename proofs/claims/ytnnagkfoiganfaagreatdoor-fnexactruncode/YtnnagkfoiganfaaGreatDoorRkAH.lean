import Derived.Test.YtnnagkfoiganfaaGreatDoorRkAA
import Derived.Test.YtnnagkfoiganfaaGreatDoorRkAF
import Derived.Laws.IdiomCopy
import Derived.Laws.MakeOwn
import Derived.Test.YtnnagkfoiganfaaGreatDoorRkAC
import Derived.Test.YtnnagkfoiganfaaGreatDoorRkAG
import Derived.Test.YtnnagkfoiganfaaGreatDoorRkAD
import Derived.Test.YtnnagkfoiganfaaGreatDoorRkAB
import Derived.Test.YtnnagkfoiganfaaGreatDoorRkAE
import Derived.RangeFuncBound
import Derived.RangeFuncCalls
import Derived.RangeFuncLeaves
import Derived.Shelf.Abstract
import Derived.Shelf.RegionOpen
import Derived.WalkKit
import Derived.OwnWalkIn
import Derived.TacticsInMore
import Derived.LoopNIn
import Derived.LoopIn
namespace Go.Proofs.YtnnagkfoiganfaaGreatDoor
open Go.ChangeShapes Go.WideShapes Go.ChangeAt Go.RowKit Go.Deep XD XI XU XG XP XK XW XT XF XE XH _root_.List _root_.Nat Go.Shelf Go.Maps Go.Proofs.Tryz
set_option linter.unusedVariables false
set_option linter.unusedSimpArgs false
set_option maxRecDepth 100000
set_option maxHeartbeats 40000000
theorem xA2:∀(vs L:List Value),vs.length=L.length->setL L 0 vs=vs:=λvs L h=>by
 apply ext_getElem?
 intro j
 rw[yIv]
 by_cases hj:j<L.length
 .rw[if_pos ⟨zero_le _,qo,hj⟩,Nat.sub_zero]
 .rw[if_neg qo,getElem?_eq_none qo,getElem?_eq_none qo]
variable {W:World} {base cap:Nat} {ks:List Ctr}
theorem yZ3 {g ty:Nat} (h:yFj W base g cap ks):∃W2,(Builtin.clear_ #[227] ty #[xg g ks.length cap]).run prog W=.ok (.tuple #[]) W2/\yFj W2 base g cap (List.replicate ks.length newC)/\Chg (λq=>q=g) W W2:=by
 cases hn:ks.length with
 |zero=>
  obtain rfl:ks= []:=length_eq_zero_iff.1 hn;refine⟨W,?_,h,Chg.refl _ _⟩;simp[Builtin.clear_,run_underlying underlying227]
 |succ n=>
  obtain⟨ig,a2,g1,g2,g3⟩:=info_parts Tryz.infoKc;have hf:∀x:Ctr,(Ctr.kc x).length=4:=λ_=>rfl;have hz:(Builtin.zeroCells (Value.agg #[xe,xe,xe,xi 0]).cells (n+1)).toList=(List.replicate (n+1) newC).flatMap Ctr.kc:=by have:=yU7 hf (by decide) newC (Value.agg #[xe,xe,xe,xi 0]).cells rfl (n+1);rw[<-this];rfl
  have hl:((List.replicate (n+1) newC).flatMap Ctr.kc).length=(n+1)*4:=by rw[yCk hf,length_replicate]
  have a1:(ks.flatMap Ctr.kc).length=(n+1)*4:=by rw[yCk hf,hn]
  have a0:=run_storeCells_cells (P:=prog) g 0 ((List.replicate (n+1) newC).flatMap Ctr.kc) 0 W (λj hj=>by
    rw[hl]at hj
    obtain⟨x,hx⟩:∃x,ks[j/4]?=some x:=qg (by omega)
    have h9:=h.cell hf hx (j%4) (mod_lt _ (by decide))
    rw[show j/4*4+j%4=0+0+j by omega]at h9
    rw[h9,getElem?_eq_getElem (by rw[hf];exact mod_lt _ (by decide))];rfl) (λj _=>World.ownsRow.frozenAt h _) (λv hv=>by
    obtain⟨x,hx,hv⟩:=mem_flatMap.1 hv
    rw[eq_of_mem_replicate hx]at hv
    simp[Ctr.kc]at hv
    rcases hv with rfl|rfl|rfl|rfl<;>rfl)
  rw[Nat.add_zero,yG]at a0;refine⟨_,?_,?_,yAl (S:=λq=>q=g) g rfl ((List.replicate (n+1) newC).flatMap Ctr.kc) 0 W⟩
  .simp[Builtin.clear_,run_underlying underlying227,zeroValue,typeInfo,a2,g1,hz,a0]
  .have h1:=yBu (sz:=4) (ty:=240) (base:=base) (g:=g) (n:=ks.length) (v:=(xg g ks.length cap)) rfl ⟨cap,rfl⟩ ((List.replicate (n+1) newC).flatMap Ctr.kc) 0 W (ks.flatMap Ctr.kc) h;rw[xA2 _ _ (by rw[hl,a1]),hn]at h1;unfold yFj OwnG;rw[length_replicate];exact h1
variable {N:Nat}
theorem McI.fresh {G:MchG} {l:List Ix} {v:Value} {W2:World} (h:McI G N ks v W) (hO:MaOk G l) (hK:yFj W2 G.base G.g G.cap (List.replicate ks.length newC)) (hc:Chg (λq=>q=G.g) W W2):McI G N (List.replicate G.nk newC) v W2:=by obtain⟨m,hm⟩:=h.stk;rw[h.len]at hK;refine⟨h.chg.trans (hc.mono (λq z=>by subst z;exact hO.gS)),hO.ti _ W W2 h.ti hc (λq z=>.inl z),hK,length_replicate,λk hk=>by rw[eq_of_mem_replicate hk];exact yZz,h.box.chg hc (λq=>hO.gm q.symm),⟨m,yAh hm hc (λk hk q=>?_)⟩⟩;have:=(World.ownsRow.lt hm k hk).1;have:=hO.gl;omega
structure LoS (G:MchG) (N:Nat) (es:List Ent) (bs:List Bool) (pm pr pd b off cap:Nat) (ca:Option Addr) (cc:Nat) (ks:List Ctr) (v:Value) (W:World):Prop where
 mc:McI G N ks v W
 bm:(xk W pm 0 (xp G.mb):Prop)
 br:(xk W pr 0 (.slice (some ⟨b,off,none⟩) es.length cap):Prop)
 bd:(xk W pd 0 (.slice ca bs.length cc):Prop)
 sl:CSl W b off cap es
 cd:∀(i:Nat) (x:Bool),bs[i]?=some x->∃bc oc,ca=some ⟨bc,oc,none⟩/\xk W bc (oc+i) x/\bc<W.heap.size/\¬bc=G.g/\¬G.T bc/\¬v.ownBlock=some bc
variable {es:List Ent} {bs:List Bool}
theorem LoS.on {G:MchG} {l:List Ix} {pm pr pd b off:Nat} {ca:Option Addr} {cc:Nat} {v:Value} {W':World} (h:LoS G N es bs pm pr pd b off cap ca cc ks v W) (hO:MaOk G l) (hb:Below W W W'):LoS G N es bs pm pr pd b off cap ca cc ks v W':=
 ⟨h.mc.on hO hb,by rw[yDj hb h.bm];exact h.bm,by rw[yDj hb h.br];exact h.br,by rw[yDj hb h.bd];exact h.bd,h.sl.below hb,λi x hx=>by
  obtain⟨bc,oc,h1,h2,h3,h4⟩:=h.cd i x hx
  exact⟨bc,oc,h1,by rw[yDj hb h2];exact h2,Nat.lt_of_lt_of_le h3 hb.size,h4⟩⟩
theorem zLoF {p:Prop} (h:p:=by
 have HSS:Hid (∀X,yA X wo 181 4 w3 [al,st,xi hr,ht]->yA X wo 70 5 wo c.five->(λw':World=>xk w' w3 0 al/\xk w' w3 1 st/\xk w' w3 2 (xi hr)/\xk w' w3 3 ht/\xk w' wo 0 c.row/\xk w' wo 1 c.fam/\xk w' wo 2 c.qual/\xk w' wo 3 (xu c.ts)/\xk w' wo 4 c.val/\xk w' w3 0 al) X):=λX h k=>
  ⟨h.cell (j:=0) rfl,h.cell (j:=1) rfl,h.cell (j:=2) rfl,h.cell (j:=3) rfl,k.cell (j:=0) rfl,k.cell (j:=1) rfl,k.cell (j:=2) rfl,k.cell (j:=3) rfl,k.cell (j:=4) rfl,h.cell (j:=0) rfl⟩
 have HI5:Hid (yA wY.drew wo 181 4 w3 [al,st,xi hr,ht]/\yA wY.drew wo 70 5 wo c.five/\Below w3 w3 wY.drew):=by have kd:Below wY wY wY.drew:=(Below.refl _ _).drew;exact⟨HI4.1.below kd,HI4.2.1.below kd,HI4.2.2.trans (kd.mono HI4.2.2.size)⟩
 have hS0:=HSS.out _ HI5.1 HI5.2.1;refine yD8 [6,7] (λw':World=>xk w' w3 0 al/\xk w' w3 1 st/\xk w' w3 2 (xi hr)/\xk w' w3 3 ht/\xk w' wo 0 c.row/\xk w' wo 1 c.fam/\xk w' wo 2 c.qual/\xk w' wo 3 (xu c.ts)/\xk w' wo 4 c.val/\xk w' w3 0 al) (by kernel_rfl) ?_;generalize wY.drew=WD at HI5 hS0⊢;refine yK8 0 rfl hS0 ?_;refine yK8 1 rfl hS0 ?_;refine yK8 2 rfl hS0 ?_;refine yK8 4 rfl hS0 ?_;refine yK8 5 rfl hS0 ?_;refine yEr (i:=3) (by kernel_rfl) rfl (λK hK=>?_);go_simp;refine⟨trivial,(callsIn_wide.2 (HSh.out WD)).mono ?_⟩;rintro e w5 ⟨rfl,hb5⟩;have hS5:=HSS.out _ (HI5.1.below hb5) (HI5.2.1.below hb5);obtain⟨fn,tmps,assign,body,hy,hRy⟩:=HYs.out w5 (HI5.2.2.trans (hb5.mono HI5.2.2.size));refine hK.out _ _ (.inr hS5) ?_;clear hK hS0 hb5;refine jS ?_;refine yEr (i:=6) (by kernel_rfl) rfl (λK hK=>?_);go_simp;refine hRy.mono ?_;rintro e W9 (⟨rfl,hJ9⟩|⟨rfl,hJ9⟩)
 .have HJ9:Hid (J (i+1) ks' v' W9):=hJ9;refine hK.out _ _ (.inl (by decide)) ?_;clear hK hS5 hJ9 hRy hy;refine jS ?_;refine yEr (i:=7) (by kernel_rfl) rfl (λK hK=>?_);go_simp;refine hK.out _ _ (.inl (by decide)) ?_;clear hK;refine jS ?_;refine yKw (by kernel_rfl) ?_;gi_wp2;go_roundw;case rel=>exact⟨i+1,ks',v',by omega,by go_num,HJ9.out⟩
  case measure=>simp[intOf];omega
 .have HJ9:Hid (Jx W9):=hJ9;refine hK.out _ _ (.inl (by decide)) ?_;clear hK hS5 hJ9 hRy hy;refine jS ?_;refine yEr (i:=7) (by kernel_rfl) rfl (λK hK=>?_);go_simp;refine hK.out _ _ (.inl (by decide)) ?_;clear hK;refine jS ?_;refine yKw (by kernel_rfl) ?_;gi_wp2;refine bodyPost_ret (results_none rfl _ _ _) rfl ?_;exact⟨⟨_,rfl⟩,.inr HJ9.out⟩):p:=h
theorem yV (G:MchG) (l:List Ix) (N:Nat) (es:List Ent) (bs:List Bool) (nc:Nat) (pm pr pd b off cap:Nat) (ca:Option Addr) (cc:Nat) (hN0:es.length<=10000) (hO:MaOk G l) {cnt:Int} (hg:yBe l cnt nc) (hnc:nc<=bs.length) (hN:N=l.length) (hnk:(G.nk:Int)=cnt) (hrow:∀c∈es,¬c.row=⟨#[]⟩) (lY m:Nat) (hm:1<=m) (J:Nat->List Ctr->Value->World->Prop) (Jx:World->Prop)
  (hY:∀i c it ks ks' v v' W0 W',J i ks v W0->es[i]?=some c->LkR pfxB l c bs ⟨0,[newI],ks⟩ (it,ks')->McI G N ks' v' W'->Chg (λq=>q=G.g∨q=G.mb∨G.T q∨v.ownBlock=some q) W0 W'->(v'.ownBlock=v.ownBlock∨∃k,v'.ownBlock=some k/\W0.heap.size<=k)->
   YieldAt Fence.wide (m-1) prog lY #[(yB it c).c,it.alive] W' λe W''=>(e=.returned true/\J (i+1) ks' v' W'')∨(e=.returned false/\Jx W''))
  (hJr:∀i ks v W,J i ks v W->LoS G N es bs pm pr pd b off cap ca cc ks v W) (W:World) ks0 (v0:Value) (hW:LoS G N es bs pm pr pd b off cap ca cc ks0 v0 W)
  (h0:∀W2,McI G N (List.replicate G.nk newC) v0 W2->Chg (λq=>q=G.g) W W2->J 0 (List.replicate G.nk newC) v0 W2):
  CallsIn Fence.wide m prog 200 #[.func (.yield lY) #[] #[],ptB pm,ptB pr,ptB pd] W λe W'=>(∃v,e=.returned v)/\((∃ks v,J es.length ks v W')∨Jx W'):=by
 obtain⟨M,hM⟩:=qE es.length;obtain⟨nb,ag⟩:=qE bs.length;have HM:Hid (M=es.length):=hM;have HR:Hid (∀i ks v W,J i ks v W->LoS G N es bs pm pr pd b off cap ca cc ks v W):=hJr;obtain⟨W2,aj,ak,ae⟩:=yZ3 (ty:=0) hW.mc.ctr;have a8:Hid (J 0 (List.replicate G.nk newC) v0 W2):=h0 _ (hW.mc.fresh hO ak ae) ae;rw[hW.mc.len]at aj;have b0:=(HR.out _ _ _ _ a8.out).br;have a0:=hW.bm;have a1:=hW.mc.box.cell (j:=1) rfl;have av:=(HR.out _ _ _ _ a8.out).sl.len;have az:cap<=9223372036854775807:=by have:=(HR.out _ _ _ _ a8.out).sl.cap;unfold maxLen at this;omega
 rw[<-hM]at hN0 av b0⊢
 have HY:Hid (∀i c it ks ks' v v' W0 W',J i ks v W0->es[i]?=some c->LkR pfxB l c bs ⟨0,[newI],ks⟩ (it,ks')->McI G N ks' v' W'->Chg (λq=>q=G.g∨q=G.mb∨G.T q∨v.ownBlock=some q) W0 W'->(v'.ownBlock=v.ownBlock∨∃k,v'.ownBlock=some k/\W0.heap.size<=k)->
   YieldAt Fence.wide (m-1) prog lY #[(yB it c).c,it.alive] W' λe W''=>(e=.returned true/\J (i+1) ks' v' W'')∨(e=.returned false/\Jx W'')):=hY
 have a2:Hid (MaOk G l/\yBe l cnt nc/\N=l.length/\(G.nk:Int)=cnt/\(∀c∈es,¬c.row=⟨#[]⟩)/\nc<=bs.length/\nb=bs.length):=⟨hO,hg,hN,hnk,hrow,hnc,ag⟩;clear hM h0 hJr hY hO hg hN hnk hrow hnc hW ak ae ag;refine callsIn_of_wp func200 rfl trivial ?_ rfl;simp only[ntmps200,size_toArray,length_cons,length_nil,Nat.reduceAdd,Nat.reduceSub,Array.replicate_succ,Array.replicate_zero,push_toArray,append_toArray,nil_append,cons_append];gi_wp2;clear aj a0 a1 b0;gi_loopw [14] (λiv wr=>∃(i:Nat) (ks:List Ctr) (v:Value),i<=M/\iv=(xi i)/\Hid (J i ks v wr)) (λiv _=>M-(intOf iv).toNat);case atStart=>exact⟨0,_,v0,zero_le _,rfl,a8.out⟩
 case round=>
  obtain⟨i,ks,v,ay,rfl,HJ⟩:=hrel;by_cases hlt:i<M
  .have zi:(i:Int)<(M:Int):=by omega
   obtain⟨c,hc⟩:∃c,es[i]?=some c:=qg (qw HM.out);have HC:Hid (es[i]?=some c):=hc;obtain⟨wo,an⟩:=qW wr;subst an;obtain⟨x0,x1,x2,x3,x4⟩:=(HR.out _ _ _ _ HJ.out).sl.at_ i c hc;obtain⟨W2,a7⟩:=qW (xw wo #[c.row,c.fam,c.qual,xu c.ts,c.val] 70);have a3:Hid (LoS G N es bs pm pr pd b off cap ca cc ks v W2/\yA W2 wo 70 5 wo c.five/\Below wo wo W2):=by
    have k2:=qN a7
    have hs:=HR.out _ _ _ _ HJ.out;exact⟨hs.on a2.1 k2,by rw[a7];exact yAa wo _ qr rfl,k2⟩
   have y0:=(HR.out _ _ _ _ HJ.out).bm;have y1:=(HR.out _ _ _ _ HJ.out).bd;rw[<-a2.2.2.2.2.2.2]at y1;have ao:pm<wo.heap.size:=yHy y0;have aq:pd<wo.heap.size:=yHy y1;obtain⟨d,hd⟩:=yIz a2.2.1
   have am:Hid (Calls prog 104 #[xp G.mb,.agg #[c.row,c.fam,c.qual,xu c.ts,c.val],.slice ca nb cc] W2 (LooP G ⟨W2,l,0,0,0,cnt,c,bs,d,ks,0,0,0,ca,N,0,nb⟩ v)):=
    yP2 G ⟨W2,l,0,0,0,cnt,c,bs,d,ks,0,0,0,ca,N,0,nb⟩ v nc a2.2.1 hd a2.2.2.2.2.2.1 cc a2.2.2.1 a2.2.2.2.2.2.2 a2.2.2.2.1 a2.1 a3.1.mc (a2.2.2.2.2.1 c (mem_of_getElem? hc)) a3.1.cd
   clear hc hd;gi_wp2;rw[<-a7];clear a7 x0 x1 x2 x3 x4 y0 y1 ao aq;refine⟨trivial,(callsIn_wide.2 am.out).mono ?_⟩;rintro e w3 ⟨it,ks',v',hlk,rfl,ah,ad,af⟩;have H3:Hid (LkR pfxB l c bs ⟨0,[newI],ks⟩ (it,ks')/\McI G N ks' v' w3/\Chg (λq=>q=G.g∨q=G.mb∨G.T q∨v.ownBlock=some q) W2 w3/\(v'.ownBlock=v.ownBlock∨∃k,v'.ownBlock=some k/\W2.heap.size<=k)):=⟨hlk,ah,ad,af⟩;have a4:yA w3 wo 70 5 wo c.five:=by
    refine a3.2.1.chg ad (λq=>?_);have hs:=HR.out _ _ _ _ HJ.out;have hz:=hs.mc.chg.size;have h1:=a2.1.gl;have h2:=a2.1.ml;rcases q with q|q|q|q
    .omega
    .omega
    .have:=a2.1.tl _ q;omega
    .obtain⟨mm,ar⟩:=hs.mc.stk;have:=(World.ownsRow.lt ar _ q).2;omega
   have aw:Hid (yA w3 wo 70 5 wo c.five):=a4;obtain⟨d0,d1,d2,d3,d4⟩:=a4.c5;have ax:wo.heap.size<w3.heap.size:=a4.lt.2;obtain⟨x',a9⟩:=qE (yB it c);have HYs:Hid (∀X,Below w3 w3 X->YieldAt Fence.wide (m-1) prog lY #[.agg #[x'.row,x'.fam,x'.qual,xu x'.ts,x'.val],it.alive] X λe W''=>(e=.returned true/\J (i+1) ks' v' W'')∨(e=.returned false/\Jx W'')):=λX hb=>by rw[a9];refine HY.out i c it ks ks' v v' wo X HJ.out HC.out H3.1 (H3.2.1.on a2.1 hb) (((Chg.of_below a3.2.2).trans H3.2.2.1).trans (Chg.of_below hb)) (H3.2.2.2.imp (λq=>q) (fun⟨k,k1,k2⟩=>⟨k,k1,qw a3.2.2.size⟩))
   have HSh:Hid (∀X,(xf 106 #[.agg #[it.alive,it.strip,xi it.hint.rank,it.hint.txt],.agg #[c.row,c.fam,c.qual,xu c.ts,c.val]] X (.agg #[x'.row,x'.fam,x'.qual,xu x'.ts,x'.val]):Prop)):=λX=>by rw[a9];exact yJf it c X
   clear hlk ah ad af am a4 a9;obtain⟨al,a5⟩:=qE it.alive;obtain⟨st,aa⟩:=qE it.strip;obtain⟨hr,ac⟩:=qE it.hint.rank;obtain⟨ht,ab⟩:=qE it.hint.txt;have ai:it.v=.agg #[al,st,xi hr,ht]:=by rw[a5,aa,ac,ab]
   rw[<-a5,<-aa,<-ac,<-ab]at HSh;rw[<-a5]at HYs;rw[ai];clear a5 aa ac ab ai;obtain⟨W4,a6⟩:=qW (xw w3 #[al,st,xi hr,ht] 181);have HI4:Hid (yA W4 wo 181 4 w3 [al,st,xi hr,ht]/\yA W4 wo 70 5 wo c.five/\Below w3 w3 W4):=by
    have k4:=qN a6
    exact⟨by rw[a6];exact yAa w3 _ (by omega) rfl,aw.below k4,k4⟩
   gi_wp2;rw[<-a6];clear a6 d0 d1 d2 d3 d4;generalize W4=wY at HI4⊢;exact zLoF
  .have zi:¬(i:Int)<(M:Int):=by omega
   have HF:Hid (∃ks v,J M ks v wr):=by
    have au:i=M:=by omega
    subst au;exact⟨ks,v,HJ.out⟩
   gi_wp2;go_end0;exact⟨⟨_,rfl⟩,.inl HF.out⟩
section
abbrev vwD (d:Md):Int×List Ix:=((d.nk:Int),d.l)
structure PrG where
 W0:World
 tb:Nat
 B:Nat
 NM:Nat
 Ts:List Tt
 all:List Md
 ds:List Md
 a:Option Addr
 n:Nat
 c:Nat
 base:Nat
structure PrO (G:PrG):Prop where
 mds:MdsA G.tb G.B G.NM G.Ts G.all G.W0
 sub:∀d∈G.ds,d∈G.all
 good:∀(k:Nat) (d:Md),G.ds[k]?=some d->yBe d.l (d.nk:Int) k
 n:G.n=G.ds.length
 n2:G.n<=200
 tbl:G.tb<=G.W0.heap.size
 rt:∀q,(Value.slice G.a G.n G.c).ownBlock=some q->∀X∈G.Ts,X.t<q∨q<X.lo
abbrev PrG.pg (G:PrG) (W:World):Prop:=∃kf vf,PgI G.W0 G.tb G.Ts G.all kf vf W
abbrev PrG.pd (G:PrG) (d:Md) (ks:List Ctr) (v:Value) (W:World):Prop:=PgD G.W0 G.tb G.Ts G.all d ks v W
abbrev PrG.qu (G:PrG) (W:World) (q:Nat):Prop:=QuB G.W0 G.Ts G.all W q
abbrev PrG.rm (G:PrG) (W:World):Prop:=RowM W G.base (.slice G.a G.n G.c) G.ds
abbrev PrG.mch (G:PrG) (d:Md):MchG:=yN2 G.W0 G.tb G.Ts G.all d
section
variable {G:PrG} {W W':World} {q t:Nat}
theorem PrO.noT (hG:PrO G) (hq:G.W0.heap.size<=q) (ht:ObT t W q) (hne:¬181=t):¬G.qu W q:=QuB.noT hG.mds hq ht hne
theorem PrO.noB (hG:PrO G) {sz g:Nat} {vs:List Value} (h:yA W base t sz g vs) (hq:G.W0.heap.size<=g) (hne:¬181=t):¬G.qu W g:=hG.noT hq (yAk h rfl) hne
variable {o:Obj}
theorem PrO.noO (hG:PrO G) (hq:G.W0.heap.size<=q) (ho:W.heap[q]?=some o) (hc:o.isCells=false):¬G.qu W q:=QuB.noO hG.mds hq ho hc
theorem PrO.old (hG:PrO G) (hq:q<G.tb):¬G.qu W q:=QuB.old hG.mds hq hG.tbl
theorem PrO.rmQ (hG:PrO G) (hp:G.pg W) (hm:G.rm W):∀k,(Value.slice G.a G.n G.c).ownBlock=some k->¬G.qu W k:=λk hk z=>by
 obtain⟨kf,vf,hI⟩:=hp
 rcases z with(z|⟨d,hd,z|z⟩)|z
 .exact hG.mds.noT (λX hX=>(hG.rt k hk X hX).symm) z
 .exact yAb hm (hI.mc d hd).ctr qj k hk (by rw[z];rfl)
 .exact yAb hm (hI.mc d hd).box qj k hk (by rw[z];rfl)
 .exact absurd (z.2.one (yAk hm hk)) qj
theorem PrO.rmOn (hG:PrO G) (hp:G.pg W) (hm:G.rm W) (hc:Chg (G.qu W) W W'):G.rm W':=yAh hm hc (hG.rmQ hp hm)
variable {k:Nat}
theorem PrO.rmTy (hm:G.rm W) (hk:(Value.slice G.a G.n G.c).ownBlock=some k) (ht:ObT t W k):94=t:=(yAk hm hk).one ht
variable {d:Md}
theorem PrO.mcq (hG:PrO G) (hd:d∈G.all) {v:Value} {A B:World} (h:McI (G.mch d) d.N ks v A) (hc:Chg (λq=>q=d.g∨q=d.mb∨TqB G.Ts q∨v.ownBlock=some q) A B):Chg (G.qu A) A B:=hc.mono (λq z=>McI.qu hd h q z)
theorem PrO.turn (hG:PrO G) {l:Nat} {o:Obj} (hp:G.pg W) (hc:Chg (λq=>q=l) W W') (hl:G.W0.heap.size<=l) (hn:¬ObT 181 W l):G.pg W':=by obtain⟨kf,vf,hI⟩:=hp;exact⟨kf,vf,hI.turn hG.mds hc (λq z=>.inr (by subst z;exact⟨hl,hn⟩))⟩
end
theorem yBb {t:Nat} {q:Nat} {o:Obj} (ho:W.heap[q]?=some o) (hc:o.isCells=false):¬ObT t W q:=λz=>z.not ho hc
theorem yF6 {t t':Nat} {q:Nat} (h:ObT t' W q) (hne:¬t=t'):¬ObT t W q:=λz=>hne (z.one h)
variable {w:World} {i:Nat}
theorem yF1.put {g:Nat} (h:yF1 w base g cap bs) (hi:i<bs.length) (x:Bool):yF1 (xt w g i x) base g cap (bs.set i x):=by have h9:=h.setAll yOu (e:=x) hi;rw[Nat.mul_one]at h9;exact h9
def MkO (B:Nat) (Ds:List Nat) (W:World):Prop:=Ds.Nodup/\∀D∈Ds,B<=D/\W.heap[D]?=some (.deferred (some []))
abbrev mkD (D:Nat):Deferred:={target:=.collected D,args:=#[]}
variable {Ds:List Nat}
theorem MkO.on {B:Nat} {S:Nat->Prop} {W':World} (h:MkO B Ds W) (hc:Chg S W W') (hS:∀D∈Ds,¬S D):MkO B Ds W':=⟨h.1,λD hD=>⟨(h.2 D hD).1,by rw[hc.block D (Array.getElem?_eq_some_iff.1 (h.2 D hD).2).1 (hS D hD)];exact(h.2 D hD).2⟩⟩
variable {F:Fence} {n:Nat}
theorem yIc {fn:Func} {tmps:Array Value} {R:Ending->World->Prop} {v:Value} (hr:∀W,(results fn tmps).run prog W=.ok v W):
  ∀(Ds:List Nat) (W:World) (B:Nat),MkO B Ds W->(∀W',Chg (λq=>q∈Ds) W W'->R (.returned v) W')->LeavesInM F n prog fn tmps R (Ds.map mkD) .returning W:=by
 intro Ds;induction Ds with
 |nil=>exact λW B hm h=>⟨v,hr W,h W (Chg.refl _ _)⟩
 |cons D Ds ih=>
  intro W B hm h;refine⟨by simp,.inl ⟨D,W.putObj D (.deferred none),rfl,run_takeDeferred (hm.2 D (by simp)).2,ih _ B ?_ ?_⟩⟩
  .have a0:=List.nodup_cons.1 hm.1;refine MkO.on (S:=λq=>q=D) ⟨a0.2,λD' hD'=>hm.2 D' (by simp[hD'])⟩ (yAt _ _ _) (λD' hD' q=>by subst q;exact a0.1 hD')
  .intro W' hc;exact h W' (((yAt W D _).mono (λq z=>by simp[z])).trans (hc.mono (λq z=>by simp[z])))
structure DcG extends PrG where
 w:World
 es:List Ent
 b:Nat
 off:Nat
 cap:Nat
 mb:Nat
 gc:Nat
 bb:Nat
 bs0:List Bool
structure DcO (D:DcG):Prop where
 pr:PrO D.toPrG
 es:D.es.length<=10000
 row:∀c∈D.es,¬c.row=⟨#[]⟩
 b:D.b<D.tb
 gcl:D.W0.heap.size<=D.bb
 bs:D.bs0.length=D.n
 le:D.W0.heap.size<=D.w.heap.size
structure DcJ (D:DcG) (k:Nat) (bsd:List Bool) (Ds:List Nat) (wr:World):Prop where
 pgm:yA wr D.w 96 2 D.w [.slice D.a D.n D.c,ptB D.mb]
 cbx:yA wr D.w 118 1 (D.w+1) [xg D.gc D.n D.n]
 pg:D.pg wr
 rm:D.rm wr
 sl:CSl wr D.b D.off D.cap D.es
 bl:yF1 wr D.bb D.gc D.n (bsd++D.bs0.drop k)
 gcw:D.gc<D.w.heap.size
 len:bsd.length=k
 chg:Chg (λq=>q=D.gc∨D.qu D.w q) D.w wr
 mks:MkO D.w Ds wr
 kn:k<=D.n
section
variable {D:DcG} {k:Nat} {bsd:List Bool} {Ds:List Nat} {wr W:World}
theorem DcJ.gcq (hD:DcO D) (h:DcJ D k bsd Ds wr):¬D.qu wr D.gc:=hD.pr.noT (Nat.le_trans hD.gcl h.bl.lt.1) (yAk h.bl rfl) qj
theorem DcJ.quiet (hD:DcO D) (h:DcJ D k bsd Ds wr) (hc:Chg (D.qu wr) wr W) (hp:D.pg W):DcJ D k bsd Ds W:=by
 have a0:=hD.le
 exact {h with
  pgm:=h.pgm.chg hc (hD.pr.noB h.pgm a0 qj)
  cbx:=h.cbx.chg hc (hD.pr.noB h.cbx qo qj)
  pg:=hp
  rm:=hD.pr.rmOn h.pg h.rm hc
  sl:=h.sl.chg hc (hD.pr.old hD.b)
  bl:=h.bl.chg hc (h.gcq hD)
  chg:=xBe h.chg (hc.mono (λq z=>.inr z))
  mks:=h.mks.on hc (λE hE=>hD.pr.noO (qw ((h.mks.2 E hE).1)) (h.mks.2 E hE).2 rfl)}
theorem DcJ.on (hD:DcO D) (h:DcJ D k bsd Ds wr) (hb:Below wr wr W):DcJ D k bsd Ds W:=by obtain⟨kf,vf,hI⟩:=h.pg;exact h.quiet hD (Chg.of_below hb) ⟨kf,vf,hI.turn hD.pr.mds (Chg.of_below hb (S:=λ_=>False)) (λq z=>z.elim)⟩
theorem DcJ.put (hD:DcO D) (h:DcJ D k bsd Ds wr) {bsd':List Bool} {k':Nat} {x:Bool} (hi:i<D.n) (hb:(bsd++D.bs0.drop k).set i x=bsd'++D.bs0.drop k') (hk:bsd'.length=k') (hkn:k'<=D.n):DcJ D k' bsd' Ds (xt wr D.gc i x):=by
 have hc:=Chg.of_set (S:=λq=>q=D.gc) wr D.gc i x rfl;have ht:=yAk h.bl rfl;have a1:=Nat.le_trans hD.gcl h.bl.lt.1;have a0:(bsd++D.bs0.drop k).length=D.n:=by rw[length_append,length_drop,hD.bs,h.len];have:=h.kn;omega
 exact {h with
  pgm:=h.pgm.chg hc (λq=>absurd (yAk h.pgm rfl) (yF6 (by rw[q];exact ht) qj))
  cbx:=h.cbx.chg hc (λq=>absurd (yAk h.cbx rfl) (yF6 (by rw[q];exact ht) qj))
  pg:=hD.pr.turn (o:=default) h.pg hc a1 (yF6 ht qj)
  rm:=yAh h.rm hc (λj hj q=>absurd (PrO.rmTy (t:=4) h.rm hj (by rw[q];exact ht)) qj)
  sl:=h.sl.chg hc (λq=>qv hD.b hD.pr.tbl)
  bl:=by rw[<-hb];exact h.bl.put (by rw[a0];exact hi) x
  len:=hk
  kn:=hkn
  chg:=h.chg.trans (hc.mono (λq z=>.inl z))
  mks:=h.mks.on hc (λE hE q=>ht.not (by rw[<-q];exact(h.mks.2 E hE).2) rfl)}
end
end
section
theorem yL5 {l:List Ix} {cnt:Int} {nc:Nat} (h:yBe l cnt nc) {b b':List Bool} (hb:∀i,i<nc->b[i]?=b'[i]?) {row:List Ent} {cs:List Ctr} {o:List Ent} (hk:RowR l b row cs o):RowR l b' row cs o:=by
 induction hk with
 |nil cs=>exact .nil cs
 |cons h1 _ ih=>exact .cons (yZ h hb h1) ih
variable {k:Nat}
theorem DcJ.obj {D:DcG} {bsd:List Bool} {Ds:List Nat} {wr:World} (hD:DcO D) (h:DcJ D k bsd Ds wr) {l:Nat} {o:Obj} (hl:D.w.heap.size<=l) (ho:wr.heap[l]?=some o) (hc:o.isCells=false) (hn:∀E∈Ds,¬E=l) (o':Obj):DcJ D k bsd Ds (wr.putObj l o'):=by
 have a0:=yAt wr l o';have a2:=hD.le;have a1:∀t,¬ObT t wr l:=λt=>yBb ho hc
 exact {h with
  pgm:=h.pgm.chg a0 (λq=>a1 _ (by rw[<-q];exact yAk h.pgm rfl))
  cbx:=h.cbx.chg a0 (λq=>a1 _ (by rw[<-q];exact yAk h.cbx rfl))
  pg:=hD.pr.turn (o:=default) h.pg a0 qo (a1 _)
  rm:=yAh h.rm a0 (λj hj q=>a1 _ (by rw[<-q];exact yAk h.rm hj))
  sl:=h.sl.chg a0 (λq=>by have:=hD.b;have:=hD.pr.tbl;omega)
  bl:=h.bl.chg a0 (λq=>a1 _ (by rw[<-q];exact yAk h.bl rfl))
  chg:=h.chg.absorb a0 (λq z=>.inr (by rw[z];exact hl))
  mks:=h.mks.on a0 (λE hE q=>hn E hE q)}
structure DrI (D:DcG) (k:Nat) (bsd:List Bool) (x:Bool) (Ds:List Nat) (mb pm kb l:Nat) (rec:Obj) (X:World):Prop where
 dc:DcJ D (k+1) (bsd++ [x]) Ds X
 bm:yA X D.w 94 1 pm [ptB mb]
 br:yA X D.w 26 1 (pm+1) [.slice (some ⟨D.b,D.off,none⟩) D.es.length D.cap]
 bd:yA X D.w 118 1 (pm+1+1) [xg D.gc D.n D.n]
 bk:yA X D.w 3 1 kb [xi k]
 rc:X.heap[l+1]?=some rec
 rb:rec.isCells=false
 mrk:X.heap[l]?=some (.deferred (some []))
 ll:D.w.heap.size<=l
 nd:∀E∈Ds,E<l
section
variable {D:DcG} {k:Nat} {bsd:List Bool} {x:Bool} {Ds:List Nat} {mb pm kb l:Nat} {rec:Obj} {X Y:World}
theorem DrI.quiet (hD:DcO D) (h:DrI D k bsd x Ds mb pm kb l rec X) (hc:Chg (D.qu X) X Y) (hp:D.pg Y):DrI D k bsd x Ds mb pm kb l rec Y:=by
 have a0:=hD.le;have a1:=h.ll
 exact {h with
  dc:=h.dc.quiet hD hc hp
  bm:=h.bm.chg hc (hD.pr.noB h.bm (Nat.le_trans a0 h.bm.lt.1) qj)
  br:=h.br.chg hc (hD.pr.noB h.br (Nat.le_trans a0 h.br.lt.1) qj)
  bd:=h.bd.chg hc (hD.pr.noB h.bd (Nat.le_trans a0 h.bd.lt.1) qj)
  bk:=h.bk.chg hc (hD.pr.noB h.bk (Nat.le_trans a0 h.bk.lt.1) qj)
  rc:=by rw[hc.block _ (Array.getElem?_eq_some_iff.1 h.rc).1 (hD.pr.noO qo h.rc h.rb)];exact h.rc
  mrk:=by rw[hc.block _ (Array.getElem?_eq_some_iff.1 h.mrk).1 (hD.pr.noO qo h.mrk rfl)];exact h.mrk}
variable {rec':Obj}
theorem DrI.put (hD:DcO D) (h:DrI D k bsd x Ds mb pm kb l rec X) (hb:rec'.isCells=false):DrI D k bsd x Ds mb pm kb l rec' (X.putObj (l+1) rec'):=by
 have a1:=yAt X (l+1) rec';have a0:∀t,¬ObT t X (l+1):=λt=>yBb h.rc h.rb;have a2:=h.ll
 exact {h with
  dc:=h.dc.obj hD qo h.rc h.rb (λE hE q=>by have:=h.nd E hE;omega) rec'
  bm:=h.bm.chg a1 (λq=>a0 _ (by rw[<-q];exact yAk h.bm rfl))
  br:=h.br.chg a1 (λq=>a0 _ (by rw[<-q];exact yAk h.br rfl))
  bd:=h.bd.chg a1 (λq=>a0 _ (by rw[<-q];exact yAk h.bd rfl))
  bk:=h.bk.chg a1 (λq=>a0 _ (by rw[<-q];exact yAk h.bk rfl))
  rc:=World.putObj_heap_same (Array.getElem?_eq_some_iff.1 h.rc).1
  rb:=hb
  mrk:=(World.putObj_heap_other qo).trans h.mrk}
theorem DrI.cond (hD:DcO D) (h:DrI D k bsd x Ds mb pm kb l rec X) (y:Bool):DrI D k bsd y Ds mb pm kb l rec (xt X D.gc k y):=by
 have a0:=Chg.of_set (S:=λq=>q=D.gc) X D.gc k y rfl;have ht:=yAk h.dc.bl rfl;have a1:bsd.length=k:=by have:=h.dc.len;simp at this;exact this
 have a2:=h.dc.kn
 exact {h with
  dc:=h.dc.put hD (i:=k) qo (by simp[set_append,a1]) (by simp[a1]) a2
  bm:=h.bm.chg a0 (λq=>absurd (yAk h.bm rfl) (yF6 (by rw[q];exact ht) qj))
  br:=h.br.chg a0 (λq=>absurd (yAk h.br rfl) (yF6 (by rw[q];exact ht) qj))
  bd:=h.bd.chg a0 (λq=>absurd (yAk h.bd rfl) (yF6 (by rw[q];exact ht) qj))
  bk:=h.bk.chg a0 (λq=>absurd (yAk h.bk rfl) (yF6 (by rw[q];exact ht) qj))
  rc:=by rw[a0.block _ (Array.getElem?_eq_some_iff.1 h.rc).1 (λq=>ht.not (by rw[<-q];exact h.rc) h.rb)];exact h.rc
  mrk:=by rw[a0.block _ (Array.getElem?_eq_some_iff.1 h.mrk).1 (λq=>ht.not (by rw[<-q];exact h.mrk) rfl)];exact h.mrk}
theorem DrI.los (hD:DcO D) (h:DrI D k bsd x Ds mb pm kb l rec X) {d:Md} (hd:d∈D.all) (hm:d.mb=mb) {v:Value} (hp:D.pd d ks v X):
  LoS (D.mch d) d.N D.es ((bsd++ [x])++D.bs0.drop (k+1)) pm (pm+1) (pm+1+1) D.b D.off D.cap (some ⟨D.gc,0,none⟩) D.n ks v X:=by
 have a0:=hp.mc hd;have a1:((bsd++ [x])++D.bs0.drop (k+1)).length=D.n:=by have h1:=h.dc.len;have h2:=h.dc.kn;rw[length_append,length_drop,hD.bs,h1];omega
 refine⟨a0,?_,h.br.cell (j:=0) rfl,by rw[a1];exact h.bd.cell (j:=0) rfl,h.dc.sl,λi y hy=>?_⟩
 .have:=h.bm.cell (j:=0) rfl;rw[<-hm]at this;exact this
 .have hq:=h.dc.gcq hD;have hz:=McI.qu hd a0 D.gc;refine⟨D.gc,0,rfl,h.dc.bl.get hy,h.dc.bl.lt.2,λq=>hq (hz (.inl q)),λq=>hq (hz (.inr (.inr (.inl q)))),λq=>hq (hz (.inr (.inr (.inr q))))⟩
end
theorem yZy (D:DcG) (hD:DcO D) {bsd:List Bool} {Ds:List Nat} {W2 W3:World} {d:Md} {kb:Nat} (H:DcJ D (k+1) (bsd++ [false]) Ds W2) (hd:D.ds[k]?=some d) (hkb:yA W2 D.w 3 1 kb [xi k])
  (hW3:W3=(xw ((W2.alloc (Obj.cells #[ptB d.mb] 94)).alloc (Obj.cells #[.slice (some ⟨D.b,D.off,none⟩) D.es.length D.cap] 26)) #[xg D.gc D.n D.n] 118))
  {g:Operand} {ps:Array Tmp} {assign body:Code} {Q:Exit->Act->World->Prop} {a:Act} (hg:a.eval g=.func (.func 200) #[] #[ptB W2,ptB (W2+1),ptB (W2+1+1)]) (hps:ps.size=2) (a₁:Value->Value->Act)
  (hassign:∀(l:Nat) (v1 v2:Value) (W:World) (K:Act->World->Prop),K (a₁ v1 v2) W->assign.wpIn (Fence.wide.inRound l) 7 prog (Exit.then K (λ_ _ _=>False)) {tmps:=(ps.zip #[v1,v2]).foldl (λt (p,v)=>t.setIfInBounds p v) a.tmps,defers:= []} W)
  (hbody0:∀(l:Nat) (v1:Value) (W:World),body.wpIn (Fence.wide.inRound l) 7 prog (λe _ W'=>e=.normal/\W'=W) (a₁ v1 false) W)
  (hbody1:∀(l:Nat) (v1:Value) (W:World),(xk W (D.w+1) 0 (xg D.gc D.n D.n):Prop)->(xk W kb 0 (xi k):Prop)->(xk W D.gc k (.bool false):Prop)->W.frozen? (xd D.gc k)=false->
   body.wpIn (Fence.wide.inRound l) 7 prog (λe _ W'=>e=.exit 2/\W'=(xt W D.gc k true)) (a₁ v1 true) W)
  (hQ:∀(e:Exit) (y:Bool) (o:List Ent) (W:World),(e=.normal∨e=.exit 2)->DcJ D (k+1) (bsd++ [y]) (W3.heap.size::Ds) W->RowR d.l bsd D.es (List.replicate d.nk newC) o->y=decide (0<o.length)->Q e {a with defers:=mkD W3.heap.size::a.defers} W):
  (Code.rangeFunc g ps assign body).wpIn Fence.wide 9 prog Q a W3:=by
 have a1:=hD.pr.sub d (mem_of_getElem? hd);have a5:=hD.pr.good k d hd;have aG:=(hD.pr.mds.md d a1).1;have aK:bsd.length=k:=by have:=H.len;simp at this;exact this
 have aR:=H.kn;have aQ:=hD.le;have aO:=ySw hD.pr.mds a1 (yJ9 a5 (by simp));have k3:Below W2 W2 W3:=by rw[hW3];exact((qB).alloc (by simp) _).alloc (by simp;omega) _
 have aP:W3.heap.size=W2.heap.size+1+1+1:=by rw[hW3];simp
 have aA:=H.chg.size;obtain⟨A1,ab⟩:=qE (W2.alloc (Obj.cells #[ptB d.mb] 94));obtain⟨A2,a7⟩:=qE (A1.alloc (Obj.cells #[.slice (some ⟨D.b,D.off,none⟩) D.es.length D.cap] 26));have e1:=qS ab
 have e2:A2.heap.size=W2.heap.size+1+1:=by rw[a7];simp[e1]
 rw[<-ab,<-a7]at hW3;have q1:=qN a7
 have q2:=qN hW3
 have bm:yA W3 D.w 94 1 W2 [ptB d.mb]:=by
  have:yA A1 D.w 94 1 W2 [ptB d.mb]:=by rw[ab];exact yAa W2 _ aA rfl
  exact(this.below q1).below q2
 have br:yA W3 D.w 26 1 (W2+1) [.slice (some ⟨D.b,D.off,none⟩) D.es.length D.cap]:=by
  have:yA A2 D.w 26 1 (W2+1) [.slice (some ⟨D.b,D.off,none⟩) D.es.length D.cap]:=by rw[<-e1,a7];exact yAa A1 _ qo rfl
  exact this.below q2
 have bd:yA W3 D.w 118 1 (W2+1+1) [xg D.gc D.n D.n]:=by rw[<-e2,hW3];exact yAa A2 _ qo rfl
 have ax:=hkb.below k3;have H3:=H.on hD k3;have aE:∀E∈Ds,E<W3.heap.size:=λE hE=>(Array.getElem?_eq_some_iff.1 (H3.mks.2 E hE).2).1;clear hW3 ab a7 q1 q2 e1 e2 H hkb k3;refine yGa hg (λargs w=>by simp[go_sem]) qj ?_;intro fn W1 aa;obtain⟨rec,a0⟩:∃rec:LoopState->Option Code->Obj,rec=rcL fn a.tmps ps assign body W3.heap.size:=⟨_,rfl⟩;have a8:∀s p,(rec s p).isCells=false:=λs p=>by rw[a0];rfl
 have k1:Below W3 W3 W1:=by rw[aa];exact(qB).alloc (by simp) _
 have ag:DrI D k bsd false Ds d.mb W2 kb W3 (rec .ready none) W1:=by
  refine⟨H3.on hD k1,bm.below k1,br.below k1,bd.below k1,ax.below k1,?_,a8 _ _,?_,H3.chg.size,aE⟩
  .rw[aa,a0];have:=World.alloc_heap_new (W3.alloc (.deferred (some []))) (rcL fn a.tmps ps assign body W3 .ready none);rwa [World.size_alloc]at this
  .rw[aa];exact(Below.heap_alloc _ _ _ (by simp)).trans (World.alloc_heap_new W3 _)
 clear bm br bd ax H3 aa k1;obtain⟨kf,vf,aN⟩:=ag.dc.pg;have af:D.pd d (kf d.mb) (vf d.mb) W1:=⟨kf,vf,aN,rfl,rfl⟩;obtain⟨a4,a9⟩:=qE ((bsd++ [false])++D.bs0.drop (k+1));have au:∀i,i<k->a4[i]?=bsd[i]?:=λi hi=>by rw[a9,append_assoc,getElem?_append_left qo]
 have aF:k<=a4.length:=by rw[a9];simp;omega
 have hN:=aG.len
 have aH:=yV (D.mch d) d.l d.N D.es a4 k W2 (W2+1) (W2+1+1) D.b D.off D.cap (some ⟨D.gc,0,none⟩) D.n hD.es aO a5 aF hN rfl hD.row (W3+1) 8 qj
  (λi ks v X=>DrI D k bsd false Ds d.mb W2 kb W3 (rec .ready none) X/\D.pd d ks v X/\∀o,RowR d.l a4 (D.es.drop i) ks o->RowR d.l a4 D.es (List.replicate d.nk newC) o)
  (λX=>DrI D k bsd true Ds d.mb W2 kb W3 (rec .done (some (.exit 2))) X/\∃o,RowR d.l a4 D.es (List.replicate d.nk newC) o/\0<o.length)
  ?hY (λi ks v X h=>by rw[a9];exact h.1.los hD a1 rfl h.2.1) W1 (kf d.mb) (vf d.mb) (by rw[a9];exact ag.los hD a1 rfl af) ?h0
 case h0=>intro W4 aI aM;have aw:Chg (λq=>q=d.g∨q=d.mb∨TqB D.Ts q∨(vf d.mb).ownBlock=some q) W1 W4:=aM.mono (λq z=>.inl z);have ao:=af.step hD.pr.mds a1 aI aw (.inl rfl);have aC:=hD.pr.mcq a1 (af.mc a1) aw;exact⟨ag.quiet hD aC (by obtain⟨a,b,c,_⟩:=ao;exact⟨a,b,c⟩),ao,λo ho=>ho⟩
 case hY=>
  rintro i c it ks ah v v' X0 X ⟨az,ac,ak⟩ hc aJ aq ae ai;have an:=ac.step hD.pr.mds a1 aq ae ai;have al:=hD.pr.mcq a1 (ac.mc a1) ae;have a6:=az.quiet hD al (by obtain⟨a,b,c,_⟩:=an;exact⟨a,b,c⟩);have aj:=RowR.step (out:= []) (λo ho=>by rw[nil_append];exact ak o ho) hc aJ;clear az ac ak aq ae ai al;have ad:=a6.rc;rw[a0]at ad;refine yD7 ad (by rw[hps];rfl) ?_;refine hassign _ _ _ _ _ ⟨ad,?_⟩;have a2:DrI D k bsd false Ds d.mb W2 kb W3 (rec .busy none) (X.putObj (W3+1) (rec .busy none)):=a6.put hD (a8 _ _);have ar:D.W0.heap.size<=W3.heap.size+1:=by have:=a6.ll;omega
  have am:D.pd d ah v' (X.putObj (W3+1) (rec .busy none)):=an.turn hD.pr.mds (yAt _ _ _) (λq z=>.inr ⟨by rw[z];exact ar,by rw[z];exact yBb a6.rc a6.rb⟩);rw[a0]at a2 am;cases hal:it.alive with
  |false=>
   refine wpIn_mono (hbody0 _ _ _) ?_;rintro e a3 X3 ⟨rfl,rfl⟩;refine⟨a2.rc,.inl ⟨rfl,?_,?_,?_⟩⟩
   .rw[a0];exact a2.put hD rfl
   .exact am.turn hD.pr.mds (yAt _ _ _) (λq z=>.inr ⟨by rw[z];exact ar,by rw[z];exact yBb a2.rc a2.rb⟩)
   .intro o ho;have:=aj o ho;rw[hal]at this;simpa using this
  |true=>
   have aL:(bsd++ [false]++D.bs0.drop (k+1))[k]?=some false:=by rw[append_assoc,getElem?_append_right qo,aK];simp
   have av:=a2.dc.bl.get aL;rw[Nat.zero_add]at av;refine wpIn_mono (hbody1 _ _ _ (a2.dc.cbx.cell (j:=0) rfl) (a2.bk.cell (j:=0) rfl) av (World.ownsRow.frozenAt a2.dc.bl k)) ?_;rintro e a3 X3 ⟨rfl,rfl⟩;have ay:=a2.cond hD true;refine⟨ay.rc,.inr ⟨rfl,?_,?_⟩⟩
   .rw[a0];exact ay.put hD rfl
   .obtain⟨o,ho⟩:=yYe a5 a4 (D.es.drop (i+1)) ah;have:=aj o ho;rw[hal]at this;exact⟨_,this,by simp⟩
 simp only[append_toArray,cons_append,nil_append];refine aH.mono ?_;rintro e X ⟨he,⟨ks,v,hI,hp,hr⟩|⟨hI,o,ho,aD⟩⟩
 .refine⟨he,.inl ⟨by have:=hI.rc;rwa [a0]at this,?_⟩⟩;have hI2:=hI.put hD (a8 .exhausted none);have aB:=hr [] (by rw[drop_eq_nil_of_le qr];exact .nil _);rw[a0]at hI2;refine hQ .normal false [] _ (.inl rfl) ?_ (yL5 a5 au aB) rfl;exact xGf
 .refine⟨he,.inr ⟨.exit 2,by have:=hI.rc;rwa [a0]at this,?_⟩⟩;have hI2:=hI.put hD (a8 .exhausted (some (.exit 2)));rw[a0]at hI2;refine wpIn_exit (hQ (.exit 2) true o _ (.inr rfl) ?_ (yL5 a5 au ho) (by simp[aD]));exact xGf
end
section
attribute [local go_sem] Oper.semAt_some
def DciP (D:DcG) (e:Ending) (W:World):Prop:=(∃v,e=.returned v)/\∃bs,CdR D.es (D.ds.map vwD) [] bs/\D.pg W/\yF1 W D.bb D.gc D.n bs/\Chg (λq=>q=D.gc∨D.qu D.w q) D.w W
theorem yTs (D:DcG) (hD:DcO D) (hp:D.pg D.w) (hm:D.rm D.w) (hsl:CSl D.w D.b D.off D.cap D.es) (hbl:yF1 D.w D.bb D.gc D.n D.bs0) (M:Nat) (hM:M=D.es.length):
  Calls prog 154 #[.agg #[.slice D.a D.n D.c,ptB D.mb],.slice (some ⟨D.b,D.off,none⟩) M D.cap,xg D.gc D.n D.n] D.w (DciP D):=by
 obtain⟨w,hw⟩:=qE D.w;obtain⟨n,hn⟩:=qE D.n;obtain⟨gc,a1⟩:=qE D.gc;obtain⟨W0,a0⟩:=qW (xw (w.alloc (Obj.cells #[.slice D.a n D.c,ptB D.mb] 96)) #[xg gc n n] 118);have a7:Hid (DcJ D 0 [] [] W0):=by
  obtain⟨A1,a3⟩:=qW (xw w #[.slice D.a n D.c,ptB D.mb] 96);rw[<-a3]at a0;have e1:=qS a3
  have q0:=qN a3
  have q1:=qN a0
  have kb:Below w w W0:=q0.trans (q1.mono qo);have b1:yA A1 w 96 2 w [.slice D.a n D.c,ptB D.mb]:=by rw[a3];exact yAa w _ qr rfl
  have b2:yA W0 w 118 1 (w+1) [xg gc n n]:=by rw[<-e1,a0];exact yAa A1 _ qo rfl
  have b3:=b1.below q1;rw[hw,hn]at b3;rw[hw,hn,a1]at b2;rw[hw]at kb;obtain⟨kf,vf,hI⟩:=hp;exact {pgm:=b3,cbx:=b2,pg:=⟨kf,vf,hI.turn hD.pr.mds (Chg.of_below kb (S:=λ_=>False)) (λq z=>z.elim)⟩,rm:=yAh hm (Chg.of_below kb (S:=λ_=>False)) (λ_ _ z=>z),sl:=hsl.below kb,bl:=by rw[drop_zero,nil_append];exact hbl.below kb,gcw:=hbl.lt.2,len:=rfl,chg:=Chg.of_below kb,mks:=⟨nodup_nil,λE hE=>by simp at hE⟩,kn:=zero_le _}
 have ar:n<=200:=by rw[hn];exact hD.pr.n2
 have HD:Hid (DcO D/\w=D.w/\n=D.n/\gc=D.gc/\M=D.es.length):=⟨hD,hw,hn,a1,hM⟩;have c0:=a7.pgm.cell (j:=0) rfl;rw[<-hn,<-hw]at c0;rw[<-hw,<-hn,<-a1];refine(callsIn_wide (n:=9)).1 ?_;clear hD hp hm hsl hbl hw hn a1 hM;refine callsIn_of_wp_marks func154 rfl trivial ?_ rfl;simp only[ntmps154,size_toArray,length_cons,length_nil,Nat.reduceAdd,Nat.reduceSub,Array.replicate_succ,Array.replicate_zero,push_toArray,append_toArray,nil_append,cons_append];gi_wp2;rw[<-a0];clear a0;gi_wp2;clear c0;refine wpIn_loop (λa' wr=>∃(k:Nat) (bsd:List Bool) (Ds:List Nat) (u6 u7 ai ah ag af ae ad ac ab aa a9 a8 a4:Value),k<=n/\Hid (DcJ D k bsd Ds wr/\∀r,CdR D.es ((D.ds.map vwD).drop k) bsd r->CdR D.es (D.ds.map vwD) [] r)/\a'={tmps:=#[.agg #[.slice D.a n D.c,ptB D.mb],.slice (some ⟨D.b,D.off,none⟩) M D.cap,.slice (some ⟨gc,0,none⟩) n n,.pointer (some ⟨w,0,none⟩),undef,.pointer (some ⟨w+1,0,none⟩),u6,u7,undef,undef,.pointer (some ⟨w,0,none⟩),.slice D.a n D.c,.int .i64 (n:Int),.int .i64 (k:Int),ai,ah,ag,af,ae,ad,ac,ab,aa,a9,a8,undef,undef,undef,undef,undef,undef,a4],defers:=Ds.map mkD}) (λa' _=>n-(intOf (a'.tmps.getD 13 undef)).toNat) ?_ ?_
 .exact⟨0,[],[],undef,undef,undef,undef,undef,undef,undef,undef,undef,undef,undef,undef,undef,undef,zero_le _,⟨a7.out,λr hr=>hr⟩,rfl⟩
 rintro a' wr ⟨k,bsd,Ds,u6,u7,ai,ah,ag,af,ae,ad,ac,ab,aa,a9,a8,a4,aw,HJ,rfl⟩;by_cases hlt:k<n
 .have zk:(k:Int)<(n:Int):=qo
  obtain⟨d,hd⟩:∃d,D.ds[k]?=some d:=qg (qv HD.1.pr.n HD.2.2.1);have ak:=qH1 hd;have a5:=HJ.1.rm;obtain⟨ga,an,x0⟩:∃ga,D.a=some ⟨ga,0,none⟩/\xk wr ga k (ptB d.mb):=by
   rcases a5.2 with⟨q,_⟩|⟨g',ax,cur,hv,_⟩
   .have:=HD.2.2.1;simp only[Value.slice.injEq]at q;omega
   .simp only[Value.slice.injEq]at hv;refine⟨g',hv.1,?_⟩;have h9:D.rm wr:=a5;have h8:OwnG mpF 1 94 wr D.base g' D.c D.ds:=by have h7:D.n=D.ds.length:=HD.1.pr.n;have h6:wr.ownsRow D.base 94 1 (.slice D.a D.n D.c) D.ds.length (D.ds.flatMap mpF):=h9;rw[hv.1,h7]at h6;exact h6
    have:=h8.cell xDf hd 0 (by decide);rw[Nat.mul_one,Nat.add_zero]at this;exact this
  clear a5;have x1:=HJ.1.cbx.cell (j:=0) rfl;rw[<-HD.2.1,<-HD.2.2.2.1,<-HD.2.2.1]at x1;have al:(bsd++D.bs0.drop k).length=n:=by have h1:=HJ.1.len;have h2:=HD.1.bs;have h3:=HD.2.2.1;rw[length_append,length_drop];omega
  obtain⟨ox,x2⟩:∃ox,(xk wr gc k ox:Prop):=by have h9:=HJ.1.bl.get (getElem?_eq_getElem (show k<(bsd++D.bs0.drop k).length by omega));rw[Nat.zero_add,<-HD.2.2.2.1]at h9;exact⟨_,h9⟩
  have f2:wr.frozen? (xd gc k)=false:=by rw[HD.2.2.2.1];exact World.ownsRow.frozenAt HJ.1.bl k
  have am:gc<wr.heap.size:=by rw[HD.2.2.2.1];exact HJ.1.bl.lt.2
  have ao:w.heap.size+1<wr.heap.size:=by rw[HD.2.1];exact HJ.1.cbx.lt.2
  have HP:Hid (DcJ D (k+1) (bsd++ [false]) Ds (xt wr gc k false)):=by have h3:=HD.2.2.1;have h1:=HJ.1.len;have h4:=HD.1.bs;rw[HD.2.2.2.1];refine HJ.1.put HD.1 (i:=k) (by omega) ?_ (by simp[h1]) (by omega);rw[set_append,if_neg (by omega),h1,Nat.sub_self,drop_eq_getElem_cons (by omega),set_cons_zero];simp
  have y1:=HP.cbx.cell (j:=0) rfl;rw[<-HD.2.1,<-HD.2.2.2.1,<-HD.2.2.1]at y1;obtain⟨W2,a2⟩:=qW (xw (wr.setCell (xd gc k) false) #[xi k] 3);have aj:Hid (DcJ D (k+1) (bsd++ [false]) Ds W2/\yA W2 D.w 3 1 wr [xi k]):=by
   have kb:Below (wr.setCell (xd gc k) false).heap.size (xt wr gc k false) W2:=by rw[a2];exact qB
   refine⟨HP.on HD.1 kb,?_⟩;have h9:=yAa (xt wr gc k false) (base:=D.w.heap.size) (t:=3) (sz:=1) #[xi k] HP.chg.size rfl;rw[<-a2]at h9;have hz:(wr.setCell (xd gc k) false).heap.size=wr.heap.size:=by simp
   rw[hz]at h9;exact h9
  clear hd al;rw[an];gi_wp2;rw[<-a2];obtain⟨W3,a6⟩:=qW (xw ((W2.alloc (Obj.cells #[ptB d.mb] 94)).alloc (Obj.cells #[.slice (some ⟨D.b,D.off,none⟩) M D.cap] 26)) #[xg gc n n] 118);refine⟨trivial,(callsIn_wide.2 (yMf W2 d.mb (some ⟨D.b,D.off,none⟩) M D.cap (some ⟨gc,0,none⟩) n n)).mono ?_⟩;rintro e w3 ⟨rfl,rfl⟩;rw[<-a6];have aq:Hid (W3=(xw ((W2.alloc (Obj.cells #[ptB d.mb] 94)).alloc (Obj.cells #[.slice (some ⟨D.b,D.off,none⟩) D.es.length D.cap] 26)) #[xg D.gc D.n D.n] 118)):=by rw[<-HD.2.2.2.1,<-HD.2.2.1,<-HD.2.2.2.2];exact a6
  clear a6 a2 y1 x0 x1 x2 f2 am ao HP a7;gi_wp2;refine yZy D HD.1 aj.1 ak.out aj.2 aq.out rfl rfl (λv1 v2=>{tmps:=#[.agg #[xg ga n D.c,ptB D.mb],.slice (some ⟨D.b,D.off,none⟩) M D.cap,.slice (some ⟨gc,0,none⟩) n n,.pointer (some ⟨w,0,none⟩),undef,.pointer (some ⟨w+1,0,none⟩),.pointer (some ⟨wr,0,none⟩),ptB d.mb,undef,v2,.pointer (some ⟨w,0,none⟩),.slice (some ⟨ga,0,none⟩) n D.c,.int .i64 (n:Int),.int .i64 (k:Int),.bool true,.int .i64 (k:Int),.pointer (some ⟨ga,k,none⟩),ptB d.mb,.slice (some ⟨gc,0,none⟩) n n,.int .i64 (k:Int),.pointer (some ⟨gc,k,none⟩),ptB d.mb,.slice (some ⟨D.b,D.off,none⟩) M D.cap,.slice (some ⟨gc,0,none⟩) n n,.func (Fn.func 200) #[] #[ptB W2,ptB (W2+1),ptB (W2+1+1)],v1,v2,undef,undef,undef,undef,a4],defers:= []}) ?hassign ?hbody0 ?hbody1 ?hQ;case hassign=>
   intro l v1 v2 W K hK;gi_wp2;exact hK
  case hbody0=>intro l v1 W;gi_wp2
  case hbody1=>intro l v1 W z0 z1 z2 z3;rw[<-HD.2.2.2.1]at z0 z2 z3⊢;rw[<-HD.2.1,<-HD.2.2.1]at z0;gi_wp2
  case hQ=>
   intro e y o W he hJ ho hy;have HN:Hid (DcJ D (k+1) (bsd++ [y]) (W3.heap.size::Ds) W/\∀r,CdR D.es ((D.ds.map vwD).drop (k+1)) (bsd++ [y]) r->CdR D.es (D.ds.map vwD) [] r):=by refine⟨hJ,?_⟩;rw[hy];exact CdR.step (x:=vwD d) HJ.2 (by rw[getElem?_map,ak.out];rfl) ho
   clear hJ ho hy;have hkk:((k+1:Nat):Int)=(k:Int)+1:=by omega
   rcases he with rfl|rfl
   .exact xCw
   .exact xCw
 .have zk:¬(k:Int)<(n:Int):=by omega
  have HE:Hid (∀W',Chg (λq=>q∈Ds) wr W'->DciP D (.returned (.tuple #[])) W'):=λW' hc=>by
   have hJ:=HJ.1;have hD:=HD.1;have au:=hD.le;have av:D.n<=k:=qw HD.2.2.1
   have hdr:bsd++D.bs0.drop k=bsd:=by rw[drop_eq_nil_of_le (qw hD.bs),append_nil]
   have hbl:=hJ.bl;rw[hdr]at hbl;obtain⟨kf,vf,hI⟩:=hJ.pg;refine⟨⟨_,rfl⟩,bsd,CdR.done HJ.2 (by rw[length_map];have:=hD.pr.n;omega),⟨kf,vf,hI.turn hD.pr.mds hc (λq z=>.inr ⟨qw ((hJ.mks.2 q z).1),yBb (hJ.mks.2 q z).2 rfl⟩)⟩,hbl.chg hc (λz=>(yAk hbl rfl).not (hJ.mks.2 _ z).2 rfl),hJ.chg.absorb hc (λq z=>.inr (hJ.mks.2 q z).1)⟩
  gi_wp2;exact yIc (λW=>results_none rfl _ _ _) Ds wr D.w HJ.1.mks HE.out
end
structure RwI2 (p b off cap:Nat) (es:List Ent) (W:World):Prop where
 box:(xk W p 0 (.slice (some ⟨b,off,none⟩) es.length cap):Prop)
 sl:CSl W b off cap es
theorem xA7 (es:List Ent) (p b off cap:Nat) (hN0:es.length<=10000) (l m:Nat) (hm:1<=m) (J:Nat->World->Prop)
  (hY:∀i j W,J i W->yIt es i j->YieldAt Fence.wide (m-1) prog l #[segV b off cap (i,j)] W λe W'=>e=.returned true/\J j W')
  (hJd:∀k W,J k W->J k W.drew) (hJr:∀k W,J k W->RwI2 p b off cap es W) (W:World) (h0:J 0 W):
  CallsIn Fence.wide m prog 199 #[.func (.yield l) #[] #[],xp p] W λe W'=>(∃v,e=.returned v)/\J es.length W':=by
 obtain⟨N,hN⟩:=qE es.length;have HN:Hid (N=es.length):=hN;have a8:Hid (J 0 W):=h0;have HR:Hid (∀k W,J k W->xk W p 0 (.slice (some ⟨b,off,none⟩) N cap)/\CSl W b off cap es):=λk W h=>by rw[hN];exact⟨(hJr k W h).box,(hJr k W h).sl⟩
 have a6:=(hJr 0 W h0).sl.len;have ab:cap<=9223372036854775807:=by have:=(hJr 0 W h0).sl.cap;unfold maxLen at this;omega
 have HY:Hid (∀i j W,J i W->yIt es i j->YieldAt Fence.wide (m-1) prog l #[segV b off cap (i,j)] W λe W'=>e=.returned true/\J j W'):=hY;rw[<-hN]at hN0 a6⊢;clear hN h0 hJr hY;refine callsIn_of_wp func199 rfl trivial ?_ rfl;simp only[ntmps199,size_toArray,length_cons,length_nil,Nat.reduceAdd,Nat.reduceSub,Array.replicate_succ,Array.replicate_zero,push_toArray,append_toArray,nil_append,cons_append];gi_wp2;gi_loopw [3] (λiv wr=>∃i:Nat,i<=N/\iv=(xi i)/\Hid (J i wr)) (λiv _=>N-(intOf iv).toNat);case atStart=>exact⟨0,zero_le _,rfl,a8.out⟩
 case round=>
  obtain⟨i,aa,rfl,HJ⟩:=hrel;have x0:=(HR.out i wr HJ.out).1;by_cases hlt:i<N
  .have zi:(i:Int)<(N:Int):=by omega
   obtain⟨c,hc⟩:∃c,es[i]?=some c:=qg (qw HN.out);have a3:Hid (es[i]?=some c):=hc;clear hc;obtain⟨wo,a4⟩:=qW wr;subst a4;gi_wp2;clear x0;gi_loopw [4] (λjv wx=>∃j:Nat,i<j/\j<=N/\jv=(xi j)/\Hid ((∀k,i<=k->k<j->yE0 es i k=true)/\J i wx)) (λjv _=>N-(intOf jv).toNat);case atStart=>exact⟨i+1,by omega,by omega,by go_num,λk h1 h2=>by rw[show k=i by omega];simp[yE0],HJ.out⟩
   case round=>
    obtain⟨j,hij,a9,rfl,HQ⟩:=hrel;have a1:=HR.out i wr HQ.2;by_cases hjl:j<N
    .have zj:(j:Int)<(N:Int):=qo
     obtain⟨x,hx⟩:∃x,es[j]?=some x:=qg (qw HN.out);have f0:=(a1.2.at_ j x hx).1;have f1:=(a1.2.at_ i c a3.out).1;have a0:SW (λw':World=>xk w' p 0 (.slice (some ⟨b,off,none⟩) N cap)/\xk w' b (off+j*5) x.row/\xk w' b (off+i*5) c.row) wr.drew:=⟨a1.1,f0,f1⟩;have HJd:=qH1 (hJd _ _ HQ.2);have a2:Hid (yE0 es i j=(x.row.toList==c.row.toList)):=by show yE0 es i j=_;unfold yE0;rw[hx,a3.out];rfl
     clear f0 f1 hx a1;cases hr:(x.row.toList==c.row.toList)
     .have HE:Hid (yIt es i j):=by have h0:=a2.out;rw[hr]at h0;exact⟨hij,by rw[<-HN.out];omega,HQ.1,λ_=>h0⟩
      gi_wp2;refine wpIn_wide.2 ?_;refine wp_region_noPanic ?_;refine wpR 99 a0 ?_;refine ja 0 a0 ?_;iterate 16 refine jb a0 ?_
      refine qD ?_;dsimp only[NoPanic];clear a0;exact xGt
     .have a7:Hid (∀k,i<=k->k<j+1->yE0 es i k=true):=λk h1 h2=>by
       by_cases hk:k=j
       .rw[hk,a2.out];exact hr
       .exact HQ.1 k h1 qo
      gi_wp2;refine wpIn_wide.2 ?_;refine wp_region_noPanic ?_;refine yAf 99 (λw':World=>xk w' p 0 (.slice (some ⟨b,off,none⟩) N cap)/\xk w' b (off+j*5) x.row/\xk w' b (off+i*5) c.row) (by kernel_rfl) ?_;refine ja 0 a0 ?_;iterate 16 refine jb a0 ?_
      refine qD ?_;dsimp only[NoPanic];clear a0;gi_wp2;go_roundw;case rel=>exact⟨j+1,by omega,by omega,by go_num,a7.out,HJd.out⟩
      case measure=>simp[intOf];omega
    .have zj:¬(j:Int)<(N:Int):=by omega
     have hd:decide ((j:Int)<(N:Int))=false:=by simp;omega
     have HE:Hid (yIt es i j):=⟨hij,by rw[<-HN.out];omega,HQ.1,λq=>by rw[<-HN.out]at q;omega⟩;have HJd:Hid (J i wr.drew):=hJd _ _ HQ.2;have a0:SW (λw':World=>xk w' p 0 (.slice (some ⟨b,off,none⟩) N cap)) wr.drew:=a1.1;clear a1;gi_wp2;refine wpIn_wide.2 ?_;refine wp_region_noPanic ?_;refine wpR 99 a0 ?_;refine ja 0 a0 ?_;iterate 16 refine jb a0 ?_
     refine qD ?_;dsimp only[NoPanic];clear a0 zj hd;exact xGt
  .have a5:i=N:=by omega
   have zi:¬(i:Int)<(N:Int):=by omega
   have HF:Hid (J N wr):=by rw[<-a5];exact HJ.out
   clear HJ;gi_wp2;go_end0;exact⟨⟨_,rfl⟩,HF.out⟩
section
structure RbG extends PrG where
 Wb:World
 dm:Md
 es:List Ent
 b:Nat
 off:Nat
 cap:Nat
 pp:Nat
 pc:Nat
 rb:Nat
 lY:Nat
def RbG.Y (R:RbG) (W:World) (q:Nat):Prop:=q=R.rb∨q=R.lY∨(R.Wb.heap.size<=q/\ObT 70 W q)
def RbG.I (R:RbG) (W:World) (q:Nat):Prop:=R.qu W q∨(R.Wb.heap.size<=q/\¬ObT 70 W q)
structure RbO (R:RbG):Prop where
 pr:PrO R.toPrG
 dm:R.dm∈R.all
 gm:yBe R.dm.l (R.dm.nk:Int) R.n
 es:R.es.length<=10000
 row:∀c∈R.es,¬c.row=⟨#[]⟩
 b:R.b<R.tb
 le:R.W0.heap.size<=R.Wb.heap.size
 rb:R.rb<R.Wb.heap.size
 lY:R.lY<R.Wb.heap.size
 pp:¬R.pp=R.rb/\¬R.pp=R.lY
 pc:¬R.pc=R.rb/\¬R.pc=R.lY
 bn:¬R.b=R.rb/\¬R.b=R.lY
 rr:∀q,(Value.slice R.a R.n R.c).ownBlock=some q->¬q=R.rb/\¬q=R.lY/\q<R.Wb.heap.size
structure RbS (R:RbG) (gc cb pR:Nat) (bs:List Bool) (l:Nat) (rec:Obj) (X:World):Prop where
 pg:R.pg X
 rm:R.rm X
 sl:CSl X R.b R.off R.cap R.es
 bp:yA X R.W0 96 2 R.pp [.slice R.a R.n R.c,ptB R.dm.mb]
 bc:yA X R.W0 26 1 R.pc [.slice (some ⟨R.b,R.off,none⟩) R.es.length R.cap]
 bY:yA X R.Wb 177 1 R.Wb [.func (.yield R.lY) #[] #[]]
 bb:yA X R.Wb 118 1 cb [xg gc R.n R.n]
 bR:yA X R.Wb 26 1 pR [.slice (some ⟨R.b,R.off,none⟩) R.es.length R.cap]
 bl:yF1 X R.Wb gc R.n bs
 bn:bs.length=R.n
 rc:X.heap[l+1]?=some rec
 rk:rec.isCells=false
 mrk:X.heap[l]?=some (.deferred (some []))
 ll:R.Wb.heap.size<=l
section
variable {R:RbG} {gc cb pR:Nat} {bs bs':List Bool} {l:Nat} {rec:Obj} {X X':World}
theorem RbS.move' (hR:RbO R) (h:RbS R gc cb pR bs l rec X) {S:Nat->Prop} (hc:Chg S X X') (hp:R.pg X') (hbl:yF1 X' R.Wb gc R.n bs') (hbn:bs'.length=R.n)
  (hS:∀q,S q->R.qu X q∨R.Y X q∨(R.Wb.heap.size<=q/\(∃o,X.heap[q]?=some o/\o.isCells=false)/\¬q=l/\¬q=l+1)∨q=gc):RbS R gc cb pR bs' l rec X':=by
 have a4:=hR.le;have a6:=hR.rb;have a8:=hR.lY;have a7:=h.ll;have a2:=yAk h.bl rfl;have a3:=h.bl.lt;have a0:∀(g t:Nat),ObT t X g->¬181=t->¬70=t->¬4=t->R.W0.heap.size<=g->¬g=R.rb->¬g=R.lY->¬S g:=λg t ht h1 h2 h3 h4 h5 h6 z=>by
  rcases hS g z with q|(q|q|q)|⟨_,⟨o,q1,q2⟩,_⟩|q
  .exact hR.pr.noT h4 ht h1 q
  .exact h5 q
  .exact h6 q
  .exact h2 (q.2.one ht)
  .exact ht.not q1 q2
  .rw[q]at ht;exact h3 (a2.one ht)
 have a1:∀(g:Nat) (o:Obj),X.heap[g]?=some o->o.isCells=false->(g=l∨g=l+1)->¬S g:=λg o ho hi hg z=>by
  rcases hS g z with q|(q|q|q)|⟨_,_,q⟩|q
  .exact hR.pr.noO qo ho hi q
  .omega
  .omega
  .exact q.2.not ho hi
  .omega
  .rw[q]at ho;exact a2.not ho hi
 exact {h with
  pg:=hp
  rm:=yAh h.rm hc (λk hk z=>by
   have ht:=yAk h.rm hk
   obtain⟨r1,r2,r3⟩:=hR.rr k hk
   rcases hS k z with q|(q|q|q)|⟨q,_⟩|q
   .exact hR.pr.rmQ h.pg h.rm k hk q
   .exact r1 q
   .exact r2 q
   .omega
   .omega
   .have:=a3.1;omega)
  sl:=h.sl.chg hc (λz=>by
   have hb:=hR.b
   have a5:=hR.pr.tbl
   have hn:=hR.bn
   rcases hS _ z with q|(q|q|q)|⟨q,_⟩|q
   .exact hR.pr.old hb q
   .exact hn.1 q
   .exact hn.2 q
   .have:=q.1;omega
   .omega
   .have:=a3.1;omega)
  bp:=h.bp.chg hc (a0 _ _ (yAk h.bp rfl) qj qj qj h.bp.lt.1 hR.pp.1 hR.pp.2)
  bc:=h.bc.chg hc (a0 _ _ (yAk h.bc rfl) qj qj qj h.bc.lt.1 hR.pc.1 hR.pc.2)
  bY:=h.bY.chg hc (a0 _ _ (yAk h.bY rfl) qj qj qj a4 qo qo)
  bb:=h.bb.chg hc (a0 _ _ (yAk h.bb rfl) qj qj qj (qw h.bb.lt.1) (qw h.bb.lt.1) (qw h.bb.lt.1))
  bR:=h.bR.chg hc (a0 _ _ (yAk h.bR rfl) qj qj qj (qw h.bR.lt.1) (qw h.bR.lt.1) (qw h.bR.lt.1))
  bl:=hbl
  bn:=hbn
  rc:=by rw[hc.block _ (Array.getElem?_eq_some_iff.1 h.rc).1 (a1 _ _ h.rc h.rk (.inr rfl))];exact h.rc
  mrk:=by rw[hc.block _ (Array.getElem?_eq_some_iff.1 h.mrk).1 (a1 _ _ h.mrk rfl (.inl rfl))];exact h.mrk}
theorem RbS.move (hR:RbO R) (h:RbS R gc cb pR bs l rec X) {S:Nat->Prop} (hc:Chg S X X') (hp:R.pg X')
  (hS:∀q,S q->R.qu X q∨R.Y X q∨(R.Wb.heap.size<=q/\(∃o,X.heap[q]?=some o/\o.isCells=false)/\¬q=l/\¬q=l+1)):RbS R gc cb pR bs l rec X':=by
 have a0:ObT 4 X gc:=yAk h.bl rfl;have a4:=h.bl.lt;refine h.move' hR hc hp (h.bl.chg hc (λz=>?_)) h.bn (λq z=>(hS q z).elim .inl (λk=>k.elim (λk=>.inr (.inl k)) (λk=>.inr (.inr (.inl k)))));have a2:=hR.le;have a1:=hR.rb;have a3:=hR.lY;rcases hS _ z with q|(q|q|q)|⟨_,⟨o,q1,q2⟩,_⟩
 .exact hR.pr.noT (by omega) a0 qj q
 .omega
 .omega
 .exact absurd (q.2.one a0) qj
 .exact a0.not q1 q2
theorem RbS.on (hR:RbO R) (h:RbS R gc cb pR bs l rec X) (hb:Below X X X'):RbS R gc cb pR bs l rec X':=by obtain⟨kf,vf,hI⟩:=h.pg;exact xC5
variable {rec':Obj}
theorem RbS.put (hR:RbO R) (h:RbS R gc cb pR bs l rec X) (hb:rec'.isCells=false):RbS R gc cb pR bs l rec' (X.putObj (l+1) rec'):=by
 have a0:=yAt X (l+1) rec';have a1:∀t,¬ObT t X (l+1):=λt=>yBb h.rc h.rk;have a2:=h.ll;have a3:=hR.le
 exact {h with
  pg:=hR.pr.turn (o:=default) h.pg a0 qo (a1 _)
  rm:=yAh h.rm a0 (λj hj q=>a1 _ (by rw[<-q];exact yAk h.rm hj))
  sl:=h.sl.chg a0 (λq=>qv hR.b hR.pr.tbl)
  bp:=h.bp.chg a0 (λq=>a1 _ (by rw[<-q];exact yAk h.bp rfl))
  bc:=h.bc.chg a0 (λq=>a1 _ (by rw[<-q];exact yAk h.bc rfl))
  bY:=h.bY.chg a0 (λq=>a1 _ (by rw[<-q];exact yAk h.bY rfl))
  bb:=h.bb.chg a0 (λq=>a1 _ (by rw[<-q];exact yAk h.bb rfl))
  bR:=h.bR.chg a0 (λq=>a1 _ (by rw[<-q];exact yAk h.bR rfl))
  bl:=h.bl.chg a0 (λq=>a1 _ (by rw[<-q];exact yAk h.bl rfl))
  rc:=World.putObj_heap_same (Array.getElem?_eq_some_iff.1 h.rc).1
  rk:=hb
  mrk:=(World.putObj_heap_other qo).trans h.mrk}
end
end
section
variable {n:Nat}
theorem yH4 {F:Fence} {l:Nat} {P:Program} {args:Array Value} {R R':Ending->World->Prop} (h:YieldAt F n P l args W R) (hR:∀e W',R e W'->R' e W'):YieldAt F n P l args W R':=by obtain⟨fn,tmps,assign,body,hy,hr⟩:=h;exact⟨fn,tmps,assign,body,hy,hr.mono hR⟩
structure RbT (R:RbG) (gc cb pR:Nat) (bs:List Bool) (l:Nat) (rec:Obj) (pm i j lI:Nat) (recI:Obj) (X:World):Prop where
 rs:RbS R gc cb pR bs l rec X
 bm:yA X R.Wb 94 1 pm [ptB R.dm.mb]
 br:yA X R.Wb 26 1 (pm+1) [segV R.b R.off R.cap (i,j)]
 bd:yA X R.Wb 118 1 (pm+1+1) [xg gc R.n R.n]
 rI:X.heap[lI]?=some recI
 rkI:recI.isCells=false
 lI:l+1<lI
section
variable {R:RbG} {gc cb pR:Nat} {bs:List Bool} {l:Nat} {rec:Obj} {pm i j lI:Nat} {recI:Obj} {X X':World}
theorem RbT.move (hR:RbO R) (h:RbT R gc cb pR bs l rec pm i j lI recI X) {S:Nat->Prop} (hc:Chg S X X') (hp:R.pg X') (hS:∀q,S q->R.qu X q∨R.Y X q):RbT R gc cb pR bs l rec pm i j lI recI X':=by
 have a4:=hR.le;have a1:=hR.rb;have a5:=hR.lY;have a2:=h.rs.ll;have a3:=h.lI;have a0:∀(g t:Nat),ObT t X g->¬181=t->¬70=t->R.Wb.heap.size<=g->¬S g:=λg t ht h1 h2 h4 z=>by
  rcases hS g z with q|(q|q|q)
  .exact hR.pr.noT qo ht h1 q
  .omega
  .omega
  .exact h2 (q.2.one ht)
 exact {h with
  rs:=h.rs.move hR hc hp (λq z=>(hS q z).imp (λk=>k) .inl)
  bm:=h.bm.chg hc (a0 _ _ (yAk h.bm rfl) qj qj h.bm.lt.1)
  br:=h.br.chg hc (a0 _ _ (yAk h.br rfl) qj qj h.br.lt.1)
  bd:=h.bd.chg hc (a0 _ _ (yAk h.bd rfl) qj qj h.bd.lt.1)
  rI:=by
   rw[hc.block _ (Array.getElem?_eq_some_iff.1 h.rI).1 (λz=>?_)]
   .exact h.rI
   .rcases hS _ z with q|(q|q|q)
    .exact hR.pr.noO qo h.rI h.rkI q
    .omega
    .omega
    .exact q.2.not h.rI h.rkI}
theorem RbT.on (hR:RbO R) (h:RbT R gc cb pR bs l rec pm i j lI recI X) (hb:Below X X X'):RbT R gc cb pR bs l rec pm i j lI recI X':=by obtain⟨kf,vf,hI⟩:=h.rs.pg;exact xC5
theorem RbT.put (hR:RbO R) (h:RbT R gc cb pR bs l rec pm i j lI recI X) {rec':Obj} (hb:rec'.isCells=false):RbT R gc cb pR bs l rec pm i j lI rec' (X.putObj lI rec'):=by
 have a0:=yAt X lI rec';have a1:∀t,¬ObT t X lI:=λt=>yBb h.rI h.rkI;have a2:=h.rs.ll;have a3:=h.lI;have a4:=hR.le
 exact {h with
  rs:=h.rs.move hR a0 (hR.pr.turn (o:=default) h.rs.pg a0 qo (a1 _)) (λq z=>.inr (.inr ⟨by rw[z];omega,by rw[z];exact⟨_,h.rI,h.rkI⟩,qo,qo⟩))
  bm:=h.bm.chg a0 (λq=>a1 _ (by rw[<-q];exact yAk h.bm rfl))
  br:=h.br.chg a0 (λq=>a1 _ (by rw[<-q];exact yAk h.br rfl))
  bd:=h.bd.chg a0 (λq=>a1 _ (by rw[<-q];exact yAk h.bd rfl))
  rI:=World.putObj_heap_same (Array.getElem?_eq_some_iff.1 h.rI).1
  rkI:=hb}
theorem RbT.los (hR:RbO R) (h:RbT R gc cb pR bs l rec pm i j lI recI X) (hj:j<=R.es.length) (hij:i<=j) {v:Value} (hp:R.pd R.dm ks v X):
  LoS (R.mch R.dm) R.dm.N (segE R.es (i,j)) bs pm (pm+1) (pm+1+1) R.b (R.off+i*5) (R.cap-i) (some ⟨gc,0,none⟩) R.n ks v X:=by
 have a0:=hp.mc hR.dm;have a1:=hR.le;have hq:¬R.qu X gc:=hR.pr.noT (by have:=h.rs.bl.lt.1;omega) (yAk h.rs.bl rfl) qj;have hz:=McI.qu hR.dm a0 gc;refine⟨a0,h.bm.cell (j:=0) rfl,?_,by rw[h.rs.bn];exact h.bd.cell (j:=0) rfl,h.rs.sl.seg hij hj,λk y hy=>?_⟩
 .have:=h.br.cell (j:=0) rfl;rw[yC9 hj];exact this
 .exact⟨gc,0,rfl,h.rs.bl.get hy,h.rs.bl.lt.2,λq=>hq (hz (.inl q)),λq=>hq (hz (.inr (.inr (.inl q)))),λq=>hq (hz (.inr (.inr (.inr q))))⟩
end
structure RbK (R:RbG) (f:Nat) (K:List Ent->Nat->World->Prop):Prop where
 on:∀out ops W W',K out ops W->Chg (R.I W) W W'->K out ops W'
 own:∀out ops W,K out ops W->∀q,q=R.rb∨q=R.lY->(q<R.tb/\¬q=1)∨(R.W0.heap.size<=q/\¬ObT 181 W q)
 yld:∀out ops (x:Ent) (told:Bool) W,K out ops W->ops<R.es.length->YieldAt Fence.wide f prog R.lY #[x.c,told] W λe W'=>e=.returned true/\K (if told=true then out++ [x]else out) (ops+1) W'/\Chg (R.Y W) W W'
variable {gc cb pR j:Nat}
theorem xBd (R:RbG) (hR:RbO R) (K:List Ent->Nat->World->Prop) (hK:RbK R 14 K) {l:Nat} {r0:Loop} {X2 X3:World} (H:RbS R gc cb pR bs l (.loop r0) X2) {i:Nat} (hij:yIt R.es i j) {out0:List Ent} (hk:K out0 i X2)
  (hX3:X3=(xw ((X2.alloc (Obj.cells #[ptB R.dm.mb] 94)).alloc (Obj.cells #[segV R.b R.off R.cap (i,j)] 26)) #[xg gc R.n R.n] 118))
  {g:Operand} {ps:Array Tmp} {assign body:Code} {Q:Exit->Act->World->Prop} {a:Act} (hg:a.eval g=.func (.func 200) #[] #[ptB X2,ptB (X2+1),ptB (X2+1+1)]) (hps:ps.size=2) (a₁:Ent->Nat->Bool->Act)
  (hassign:∀(l:Nat) (x:Ent) (told:Bool) (W:World) (K':Act->World->Prop),K' (a₁ x W told) (xw W #[x.row,x.fam,x.qual,xu x.ts,x.val] 70)->assign.wpIn (Fence.wide.inRound l) 15 prog (Exit.then K' (λ_ _ _=>False)) {tmps:=(ps.zip #[x.c,told]).foldl (λt (p,v)=>t.setIfInBounds p v) a.tmps,defers:= []} W)
  (hbody:∀(l:Nat) (x:Ent) (told:Bool) (p:Nat) (W:World) (Kp:World->Prop),yA W R.Wb 70 5 p x.five->(xk W R.Wb 0 (.func (.yield R.lY) #[] #[]):Prop)->
   (∀W',Below W W W'->YieldAt Fence.wide 14 prog R.lY #[x.c,told] W' λe W''=>e=.returned true/\Kp W'')->body.wpIn (Fence.wide.inRound l) 15 prog (λe _ W''=>e=.normal/\Kp W'') (a₁ x p told) W)
  (hQ:∀(o:List Ent) (W:World),RowR R.dm.l bs (segE R.es (i,j)) (List.replicate R.dm.nk newC) o->RbS R gc cb pR bs l (.loop r0) W->K (out0++o) j W->Q .normal a W):
  (Code.rangeFunc g ps assign body).wpIn (Fence.wide.inRound (l+1)) 17 prog Q a X3:=by
 have aY:=hR.le;have aX:=H.ll;have aj:=hij.le;have aF:=Nat.le_of_lt hij.lt;have aM:=(hR.pr.mds.md R.dm hR.dm).1;have aV:=ySw hR.pr.mds hR.dm (yJ9 hR.gm (by simp));have hl2:=(Array.getElem?_eq_some_iff.1 H.rc).1;obtain⟨A1,a7⟩:=qE (X2.alloc (Obj.cells #[ptB R.dm.mb] 94));obtain⟨A2,a6⟩:=qE (A1.alloc (Obj.cells #[segV R.b R.off R.cap (i,j)] 26));have e1:=qS a7
 have e2:A2.heap.size=X2.heap.size+1+1:=by rw[a6];simp[e1]
 rw[<-a7,<-a6]at hX3;have e3:X3.heap.size=X2.heap.size+1+1+1:=by rw[hX3];simp[e2]
 have q0:=qN a7
 have q1:=qN a6
 have q2:=qN hX3
 have bm:yA X3 R.Wb 94 1 X2 [ptB R.dm.mb]:=by
  have:yA A1 R.Wb 94 1 X2 [ptB R.dm.mb]:=by rw[a7];exact yAa X2 _ qo rfl
  exact(this.below q1).below q2
 have br:yA X3 R.Wb 26 1 (X2+1) [segV R.b R.off R.cap (i,j)]:=by
  have:yA A2 R.Wb 26 1 (X2+1) [segV R.b R.off R.cap (i,j)]:=by rw[<-e1,a6];exact yAa A1 _ qo rfl
  exact this.below q2
 have bd:yA X3 R.Wb 118 1 (X2+1+1) [xg gc R.n R.n]:=by rw[<-e2,hX3];exact yAa A2 _ qo rfl
 have H3:=((H.on hR q0).on hR q1).on hR q2;have aD:=hK.on _ _ _ _ (hK.on _ _ _ _ (hK.on _ _ _ _ hk (Chg.of_below q0)) (Chg.of_below q1)) (Chg.of_below q2);clear hX3 a7 a6 q0 q1 q2 e1 e2 H hk;refine ySi H3.rc hg (λargs w=>by simp[go_sem]) qj ?_;intro fn W1 al;obtain⟨rec,a4⟩:∃rec:LoopState->Option Code->Obj,rec=rcL fn a.tmps ps assign body r0.defers:=⟨_,rfl⟩;have a8:∀s p,(rec s p).isCells=false:=λs p=>by rw[a4];rfl
 have k1:=qN al
 have ab:RbT R gc cb pR bs l (.loop r0) X2 i j X3 (rec .ready none) W1:=by refine⟨H3.on hR k1,bm.below k1,br.below k1,bd.below k1,?_,a8 _ _,qo⟩;rw[al,a4];exact World.alloc_heap_new X3 _
 have aR:=hK.on _ _ _ _ aD (Chg.of_below k1);clear bm br bd H3 al k1 aD;obtain⟨kf,vf,aU⟩:=ab.rs.pg;have am:R.pd R.dm (kf R.dm.mb) (vf R.dm.mb) W1:=⟨kf,vf,aU,rfl,rfl⟩;have aP:(segE R.es (i,j)).length=j-i:=yC9 aj;have hN:=aM.len;have aI:(segE R.es (i,j)).length<=10000:=by have:=hR.es;omega
 have aJ:∀c∈segE R.es (i,j),¬c.row=⟨#[]⟩:=λc hc=>hR.row c (((drop_sublist _ _).trans (take_sublist _ _)).mem hc)
 have aN:=yV (R.mch R.dm) R.dm.l R.dm.N (segE R.es (i,j)) bs R.n X2 (X2+1) (X2+1+1) R.b (R.off+i*5) (R.cap-i) (some ⟨gc,0,none⟩) R.n aI aV hR.gm (by rw[ab.rs.bn];exact Nat.le_refl _) hN rfl aJ X3 16 qj
  (λi' ks v X=>RbT R gc cb pR bs l (.loop r0) X2 i j X3 (rec .ready none) X/\R.pd R.dm ks v X/\∃o,K (out0++o) (i+i') X/\∀o',RowR R.dm.l bs ((segE R.es (i,j)).drop i') ks o'->RowR R.dm.l bs (segE R.es (i,j)) (List.replicate R.dm.nk newC) (o++o'))
  (λX=>False)
  ?hY (λi' ks v X h=>h.1.los hR aj aF h.2.1) W1 (kf R.dm.mb) (vf R.dm.mb) (ab.los hR aj aF am) ?h0
 case h0=>intro W4 aO aS;have aG:Chg (λq=>q=R.dm.g∨q=R.dm.mb∨TqB R.Ts q∨(vf R.dm.mb).ownBlock=some q) W1 W4:=aS.mono (λq z=>.inl z);have ax:R.pd R.dm (List.replicate R.dm.nk newC) (vf R.dm.mb) W4:=am.step hR.pr.mds hR.dm aO aG (.inl rfl);have au:Chg (R.qu W1) W1 W4:=hR.pr.mcq hR.dm (am.mc hR.dm) aG;exact⟨ab.move hR au (by obtain⟨a,b,c,_⟩:=ax;exact⟨a,b,c⟩) (λq z=>.inl z),ax,[],by rw[append_nil];exact hK.on _ _ _ _ aR (au.mono (λq z=>.inl z)),λo ho=>ho⟩
 case hY=>
  rintro i' c it ks a5 v v' X0 X ⟨aH,ae,o0,aE,ar⟩ hc aQ ay ak ao;have ad:R.pd R.dm a5 v' X:=ae.step hR.pr.mds hR.dm ay ak ao;have ac:Chg (R.qu X0) X0 X:=hR.pr.mcq hR.dm (ae.mc hR.dm) ak;have aa:=aH.move hR ac (by obtain⟨a,b,c,_⟩:=ad;exact⟨a,b,c⟩) (λq z=>.inl z);have aB:K (out0++o0) (i+i') X:=hK.on _ _ _ _ aE (ac.mono (λq z=>.inl z));have aq:=RowR.step ar hc aQ;have aL:i+i'<R.es.length:=by have:=qf hc;omega
  clear aH ae ar aE ay ak ao ac;have af:=aa.rI;rw[a4]at af;refine yD7 af (by rw[hps];rfl) ?_;obtain⟨x,hx⟩:=qE (yB it c);rw[<-hx];rw[<-hx]at aq;refine hassign _ x it.alive _ _ ?_;obtain⟨A,hA⟩:=qE (X.alloc (Obj.cells #[x.row,x.fam,x.qual,xu x.ts,x.val] 70));have kA:=qN hA
  have aT:R.Wb.heap.size<=X.heap.size:=by have:=aa.bm.lt;omega
  have bA:yA A R.Wb 70 5 X x.five:=by rw[hA];exact yAa X _ aT rfl
  have a1:=aa.on hR kA;have aw:R.pd R.dm a5 v' A:=ad.turn hR.pr.mds (Chg.of_below kA (S:=λ_=>False)) (λq z=>z.elim);have aC:K (out0++o0) (i+i') A:=hK.on _ _ _ _ aB (Chg.of_below kA);rw[<-hA];clear hA aa ad aB;have ag:=a1.rI;rw[a4]at ag;refine⟨ag,?_⟩;have az:R.W0.heap.size<=X3.heap.size:=by omega
  have a0:=yAt A X3 (rec .busy none);have an:RbT R gc cb pR bs l (.loop r0) X2 i j X3 (rec .busy none) (A.putObj X3 (rec .busy none)):=a1.put hR (a8 _ _);have av:R.pd R.dm a5 v' (A.putObj X3 (rec .busy none)):=aw.turn hR.pr.mds a0 (λq z=>.inr ⟨by rw[z];exact az,by rw[z];exact yBb a1.rI a1.rkI⟩);have aA:K (out0++o0) (i+i') (A.putObj X3 (rec .busy none)):=hK.on _ _ _ _ aC (a0.mono (λq z=>.inr ⟨by rw[z];omega,by rw[z];exact yBb a1.rI a1.rkI⟩));have bB:yA (A.putObj X3 (rec .busy none)) R.Wb 70 5 X x.five:=bA.chg a0 (λq=>(yAk bA rfl).not (by rw[q];exact a1.rI) a1.rkI);rw[<-a4];generalize A.putObj X3 (rec .busy none)=B at an av aA bB⊢;clear a1 aw aC bA a0 ag af kA;refine wpIn_mono (hbody _ x it.alive X B (λX''=>RbT R gc cb pR bs l (.loop r0) X2 i j X3 (rec .busy none) X''/\R.pd R.dm a5 v' X''/\K (if it.alive=true then out0++o0++ [x]else out0++o0) (i+i'+1) X'') bB (an.rs.bY.cell (j:=0) rfl) ?_) ?_
  .intro W' hb;have aW:=an.on hR hb;have ah:=hK.on _ _ _ _ aA (Chg.of_below hb);have aK:R.pd R.dm a5 v' W':=av.turn hR.pr.mds (Chg.of_below hb (S:=λ_=>False)) (λq z=>z.elim);refine yH4 (hK.yld _ _ x it.alive W' ah aL) ?_;rintro e W'' ⟨he,ai,hc2⟩;have a9:R.pd R.dm a5 v' W'':=aK.turn hR.pr.mds hc2 (λq z=>by
    rcases z with z|z|z
    .exact hK.own _ _ _ ah q (.inl z)
    .exact hK.own _ _ _ ah q (.inr z)
    .exact .inr ⟨by have:=z.1;omega,yF6 z.2 (by decide)⟩)
   exact⟨he,aW.move hR hc2 (by obtain⟨a,b,c,_⟩:=a9;exact⟨a,b,c⟩) (λq z=>.inr z),a9,ai⟩
  .rintro e a3 W'' ⟨rfl,a2,a9,ai⟩;refine⟨a2.rI,?_⟩;have a0:=yAt W'' X3 (rec .ready none);refine .inl ⟨rfl,a2.put hR (a8 _ _),a9.turn hR.pr.mds a0 (λq z=>.inr ⟨by rw[z];exact az,by rw[z];exact yBb a2.rI a2.rkI⟩),if it.alive=true then o0++ [x]else o0,?_,aq⟩;have:=hK.on _ _ _ _ ai (a0.mono (λq z=>.inr ⟨by rw[z];omega,by rw[z];exact yBb a2.rI a2.rkI⟩));rw[<-Nat.add_assoc];cases hal:it.alive
   .rw[hal]at this;simpa using this
   .rw[hal]at this;simpa using this
 simp only[append_toArray,cons_append,nil_append];refine aN.mono ?_;rintro e X ⟨he,⟨ks,v,hI,hp,o,hk,hr⟩|h⟩
 .refine⟨he,.inl ⟨by have:=hI.rI;rwa [a4]at this,?_⟩⟩;have a2:=hI.put hR (a8 .exhausted none);have a0:=yAt X X3 (rec .exhausted none);rw[<-a4];rw[aP,show i+(j-i)=j by omega]at hk;exact hQ o _ (RowR.done hr qr) a2.rs (hK.on _ _ _ _ hk (a0.mono (λq z=>.inr ⟨by rw[z];omega,by rw[z];exact yBb hI.rI hI.rkI⟩)))
 .exact h.elim
end
variable {gc:Nat} {X:World}
theorem RbS.dec {R:RbG} {cb pR:Nat} {l:Nat} {rec:Obj} {i j:Nat} (hR:RbO R) (h:RbS R gc cb pR bs l rec X) (hij:yIt R.es i j):
  Calls prog 154 #[.agg #[.slice R.a R.n R.c,ptB R.dm.mb],segV R.b R.off R.cap (i,j),xg gc R.n R.n] X λe X'=>(∃v,e=.returned v)/\∃bs',CdR (segE R.es (i,j)) (R.ds.map vwD) [] bs'/\RbS R gc cb pR bs' l rec X'/\Chg (R.I X) X X':=by
 have a0:=hij.le;have a3:=Nat.le_of_lt hij.lt;have a8:=hR.le;have a7:=h.ll;have a2:(segE R.es (i,j)).length=j-i:=yC9 a0;have a9:l<X.heap.size:=(Array.getElem?_eq_some_iff.1 h.mrk).1
 have hD:DcO {toPrG:=R.toPrG,w:=X,es:=segE R.es (i,j),b:=R.b,off:=R.off+i*5,cap:=R.cap-i,mb:=R.dm.mb,gc:=gc,bb:=R.Wb.heap.size,bs0:=bs}:=
  {pr:=hR.pr,es:=by have:=hR.es;show(segE R.es (i,j)).length<=10000;omega
   row:=λc hc=>hR.row c (((drop_sublist _ _).trans (take_sublist _ _)).mem hc)
   b:=hR.b,gcl:=hR.le,bs:=h.bn,le:=by show R.W0.heap.size<=X.heap.size;omega}
 refine(yTs _ hD h.pg h.rm (h.sl.seg a3 a0) h.bl (j-i) a2.symm).mono ?_;rintro e X' ⟨hv,bs',a1,hp,a6,hc⟩;have a4:ObT 4 X gc:=yAk h.bl rfl;have a5:bs'.length=R.n:=by have:=a1.len;rw[this,hR.pr.n];simp
 refine⟨hv,bs',a1,h.move' hR hc hp a6 a5 (λq z=>z.elim (λk=>.inr (.inr (.inr k))) (λk=>.inl k)),hc.mono (λq z=>?_)⟩;rcases z with z|z
 .exact .inr ⟨by rw[z];exact h.bl.lt.1,by rw[z];exact yF6 a4 (by decide)⟩
 .exact .inl z
theorem xEp (R:RbG) (hR:RbO R) (K:List Ent->Nat->World->Prop) (hK:RbK R 14 K) {cb pR:Nat} {A:World} (hA:R.Wb.heap.size<=A.heap.size) (pg:R.pg A) (rm:R.rm A) (sl:CSl A R.b R.off R.cap R.es)
  (bp:yA A R.W0 96 2 R.pp [.slice R.a R.n R.c,ptB R.dm.mb]) (bc:yA A R.W0 26 1 R.pc [.slice (some ⟨R.b,R.off,none⟩) R.es.length R.cap])
  (bY:yA A R.Wb 177 1 R.Wb [.func (.yield R.lY) #[] #[]]) (bb:yA A R.Wb 118 1 cb [xg gc R.n R.n])
  (bR:yA A R.Wb 26 1 pR [.slice (some ⟨R.b,R.off,none⟩) R.es.length R.cap]) (bl:yF1 A R.Wb gc R.n bs) (bn:bs.length=R.n) (hk:K [] 0 A)
  {g:Operand} {ps:Array Tmp} {assign body:Code} {Q:Exit->Act->World->Prop} {a:Act} (hg:a.eval g=.func (.func 199) #[] #[ptB pR]) (hps:ps.size=1) (a₁:Value->Act)
  (hassign:∀(l:Nat) (v:Value) (W:World) (K':Act->World->Prop),K' (a₁ v) W->assign.wpIn (Fence.wide.inRound l) 17 prog (Exit.then K' (λ_ _ _=>False)) {tmps:=(ps.zip #[v]).foldl (λt (p,v)=>t.setIfInBounds p v) a.tmps,defers:= []} W)
  (hbody:∀(l:Nat) (r0:Loop) (i j:Nat) (W:World) (bs:List Bool) (out:List Ent),RbS R gc cb pR bs l (.loop r0) W->yIt R.es i j->K out i W->body.wpIn (Fence.wide.inRound (l+1)) 17 prog (λe _ W'=>e=.normal/\∃bs' o,CdR (segE R.es (i,j)) (R.ds.map vwD) [] bs'/\RowR R.dm.l bs' (segE R.es (i,j)) (List.replicate R.dm.nk newC) o/\RbS R gc cb pR bs' l (.loop r0) W'/\K (out++o) j W') (a₁ (segV R.b R.off R.cap (i,j))) W)
  (hQ:∀(W:World) (out:List Ent),RwsR (vwD R.dm) (R.ds.map vwD) ((allC R.es 0).map (segE R.es)) out->K out R.es.length W->W.heap[A.heap.size]?=some (.deferred (some []))->Q .normal {a with defers:=mkD A.heap.size::a.defers} W):
  (Code.rangeFunc g ps assign body).wpIn Fence.wide 19 prog Q a A:=by
 have ad:=hR.le;refine yGa hg (λargs w=>by simp[go_sem]) qj ?_;intro fn W1 a2;obtain⟨rec,a0⟩:∃rec:LoopState->Option Code->Obj,rec=rcL fn a.tmps ps assign body A.heap.size:=⟨_,rfl⟩;have a1:∀s p,(rec s p).isCells=false:=λs p=>by rw[a0];rfl
 have a7:∀s p,∃r,rec s p=.loop r:=λs p=>by rw[a0];exact⟨_,rfl⟩
 have k1:Below A A W1:=by rw[a2];exact(qB).alloc (by simp) _
 obtain⟨kf,vf,hI⟩:=pg;have ac:RbS R gc cb pR bs A (rec .ready none) W1:=by
  refine⟨⟨kf,vf,hI.turn hR.pr.mds (Chg.of_below k1 (S:=λ_=>False)) (λq z=>z.elim)⟩,yAh rm (Chg.of_below k1 (S:=λ_=>False)) (λ_ _ z=>z),sl.below k1,bp.below k1,bc.below k1,bY.below k1,bb.below k1,bR.below k1,bl.below k1,bn,?_,a1 _ _,?_,hA⟩
  .rw[a2,a0];have:=World.alloc_heap_new (A.alloc (.deferred (some []))) (rcL fn a.tmps ps assign body A .ready none);rwa [World.size_alloc]at this
  .rw[a2];exact(Below.heap_alloc _ _ _ (by simp)).trans (World.alloc_heap_new A _)
 have a9:=hK.on _ _ _ _ hk (Chg.of_below k1)
 have a8:=xA7 R.es pR R.b R.off R.cap hR.es (A+1) 18 qj
  (λi W=>(∃bs,RbS R gc cb pR bs A (rec .ready none) W)/\∃out,K out i W/\∀r,RwsR (vwD R.dm) (R.ds.map vwD) ((allC R.es i).map (segE R.es)) r->RwsR (vwD R.dm) (R.ds.map vwD) ((allC R.es 0).map (segE R.es)) (out++r))
  ?hY ?hd ?hr W1 ⟨⟨bs,ac⟩,[],a9,λr hr=>hr⟩
 case hd=>rintro i W ⟨⟨bs,hS⟩,out,hk,hr⟩;have kd:Below W W W.drew:=(Below.refl _ _).drew;exact⟨⟨bs,hS.on hR kd⟩,out,hK.on _ _ _ _ hk (Chg.of_below kd),hr⟩
 case hr=>rintro i W ⟨⟨bs,hS⟩,_⟩;exact⟨hS.bR.cell (j:=0) rfl,hS.sl⟩
 case hY=>rintro i j W ⟨⟨bs,hS⟩,out,hk,hr⟩ hij;have hl:=hS.rc;rw[a0]at hl;refine yD7 hl (by rw[hps];rfl) ?_;refine hassign _ _ _ _ ⟨hl,?_⟩;rw[<-a0];have aa:=yAt W (A+1) (rec .busy none);have a6:=hS.put hR (a1 .busy none);have a5:=hK.on _ _ _ _ hk (aa.mono (λq z=>.inr ⟨by rw[z];omega,by rw[z];exact yBb hS.rc hS.rk⟩));obtain⟨r0,a4⟩:=a7 .busy none;rw[a4]at a6 a5⊢;refine wpIn_mono (hbody _ r0 i j _ bs out a6 hij a5) ?_;rintro e a3 W3 ⟨rfl,bs',o,h1,h2,h3,h4⟩;refine⟨by rw[a4];exact h3.rc,rfl,⟨bs',h3.put hR (a1 .ready none)⟩,out++o,hK.on _ _ _ _ h4 ((yAt W3 (A+1) (rec .ready none)).mono (λq z=>.inr ⟨by rw[z];omega,by rw[z];exact yBb h3.rc rfl⟩)),λr hr2=>?_⟩;rw[append_assoc];refine hr _ ?_;rw[yKx hij,map_cons];exact .cons h1 h2 hr2
 simp only[append_toArray,cons_append,nil_append];refine a8.mono ?_;rintro e W ⟨he,⟨bs,hS⟩,out,hk,hr⟩;refine⟨he,.inl ⟨by have:=hS.rc;rwa [a0]at this,?_⟩⟩;rw[<-a0];have ab:=hS.put hR (a1 .exhausted none);have:=hr [] (by rw[yRh qr];exact .nil);rw[append_nil]at this;exact hQ _ out this (hK.on _ _ _ _ hk ((yAt W (A+1) (rec .exhausted none)).mono (λq z=>.inr ⟨by rw[z];omega,by rw[z];exact yBb hS.rc hS.rk⟩))) ab.mrk
section
attribute [local go_sem] Oper.semAt_some
theorem yGg {F:Fence} {n:Nat} {P:Program} (w:World) {ops:Array Oper} {rest:List Oper} {o:Oper} {a:Act} {Q:Exit->Act->World->Prop}
  (hg:o.guard=none) l c (t:TypeId) (hop:o.op=Op.makeSlice t l c)
  (base:Nat) (e:TypeId) (i:TypeInfo) (z:Value) (size:Nat) (h1:P.underlying t=some (.slice e)) (h2:P.info? e=some i) (h3:i.zero=some z) (h4:i.size=size)
  (kl kc:IntKind) (L C:Int) (m:Nat) (hl:a.eval l=.int kl L) (hc:a.eval c=.int kc C) (hL:L=(m:Int)) (hC:C=(m:Int)) (b2:i.bytes*m<=281474976710656) (b3:m<=maxLen) (b4:base<=w.heap.size)
  (hK:∀w',w'.ownsRow base e size (xg w m m) m (madeCells z.cells (m*size)).toList->w.grownBy w' none->w'.heap.size=w.heap.size+1->wpListIn F n P ops Q rest (a.put o.dst (xg w m m)) w'):
  wpListIn F n P ops Q (o::rest) a w:=by
 refine wpListIn_plain hg λK hK'=>?_;obtain⟨w',a0,r1,r2⟩:=run_make_full (P:=P) w base t e i z size h1 h2 h3 h4 kl kc m b2 b3 b4;have r3:w'.heap.size=w.heap.size+1:=by
  subst h4;have a3:m<=9223372036854775807:=by unfold maxLen at b3;omega
  have a2:(i.bytes:Int)*(m:Int)<=281474976710656:=by
   have h:((i.bytes*m:Nat):Int)<=281474976710656:=qo
   rwa [Int.natCast_mul]at h
  have h9:=run_make (P:=P) w t e i z h1 h2 h3 kl kc m m qo (Int.le_refl _) a2 qo;rw[a0]at h9;simp only[Result.ok.injEq]at h9;rw[h9.2];simp
 subst hL;subst hC;unfold Oper.wpIn;refine⟨?_,?_⟩
 .simp[Oper.about,hop]
 .rw[Oper.semAt_plain F _ _ (by rw[hop];intro c a1;cases a1)];simp[execOp,hop,hl,hc,a0,Result.andThen];exact hK' _ _ (hK w' r1 r2 r3)
theorem yPm (w:World) (ca:Option Addr) (cn cc:Nat):Calls prog 153 #[.slice ca cn cc] w λe w'=>e=.returned (.func (Fn.func 199) #[] #[ptB w.heap.size])/\w'=(xw w #[.slice ca cn cc] 26):=by go_enter func153,ntmps153;go_wp2;go_ret;exact⟨rfl,rfl⟩
theorem xHo (R:RbG) (hR:RbO R) (K:List Ent->Nat->World->Prop) (hK:RbK R 14 K) (hp:R.pg R.Wb) (hm:R.rm R.Wb) (hsl:CSl R.Wb R.b R.off R.cap R.es)
  (hbp:yA R.Wb R.W0 96 2 R.pp [.slice R.a R.n R.c,ptB R.dm.mb]) (hbc:yA R.Wb R.W0 26 1 R.pc [.slice (some ⟨R.b,R.off,none⟩) R.es.length R.cap]) (hk:K [] 0 R.Wb):
  CallsIn Fence.wide 19 prog 152 #[.func (.yield R.lY) #[] #[],ptB R.pp,ptB R.pc] R.Wb λe W'=>(∃v,e=.returned v)/\∃out,RwsR (vwD R.dm) (R.ds.map vwD) ((allC R.es 0).map (segE R.es)) out/\K out R.es.length W':=by
 obtain⟨w,hw⟩:=qE R.Wb;obtain⟨n,hn⟩:=qE R.n;obtain⟨M,hM⟩:=qE R.es.length;obtain⟨pp,a2⟩:=qE R.pp;obtain⟨pc,a3⟩:=qE R.pc;have aB:n<=200:=by rw[hn];exact hR.pr.n2
 have HD:=qH7 hR hw hn hM a2 a3 hK;have HS:Hid (R.pg w/\R.rm w/\CSl w R.b R.off R.cap R.es/\yA w R.W0 96 2 R.pp [.slice R.a R.n R.c,ptB R.dm.mb]/\yA w R.W0 26 1 R.pc [.slice (some ⟨R.b,R.off,none⟩) R.es.length R.cap]/\K [] 0 w):=by rw[hw];exact⟨hp,hm,hsl,hbp,hbc,hk⟩
 obtain⟨A1,a6⟩:=qW (xw w #[.func (.yield R.lY) #[] #[]] 177);have c0:=HS.2.2.2.1.cell (j:=0) rfl;rw[<-a2,<-hn]at c0;have aq:pp<w.heap.size:=by rw[a2];exact HS.2.2.2.1.lt.2
 have ar:pc<w.heap.size:=by rw[a3];exact HS.2.2.2.2.1.lt.2
 obtain⟨ib,ag,i1,i2,i3⟩:=info_parts Tryz.infoBl;have HC:Hid (∀A2,A1.grownBy A2 none->Below w w A2/\xk A2 pc 0 (.slice (some ⟨R.b,R.off,none⟩) M R.cap)):=λA2 hg=>by
  have k1:=qN a6
  have k2:Below w w A2:=⟨hg.os.trans k1.os,hg.tape.trans k1.tape,hg.output.trans k1.output,Nat.le_trans k1.size hg.size,λi hi=>(hg.block i (Nat.lt_of_lt_of_le hi k1.size) (by simp)).trans (k1.block i hi)⟩;refine⟨k2,?_⟩;have:=(HS.2.2.2.2.1.below k2).cell (j:=0) rfl;rw[<-a3,<-hM]at this;exact this
 rw[<-a2,<-a3,<-hw];clear hR hw hn hM a2 a3 hK hp hm hsl hbp hbc hk;refine callsIn_of_wp_marks func152 rfl trivial ?_ rfl;simp only[ntmps152,size_toArray,length_cons,length_nil,Nat.reduceAdd,Nat.reduceSub,Array.replicate_succ,Array.replicate_zero,push_toArray,append_toArray,nil_append,cons_append];have ad:=qS a6
 gi_wp2_with (gi_at_make;rw[<-a6];refine yGg A1 rfl _ _ 118 rfl w 4 ib _ 1 underlying118 ag i1 i2 .i64 .i64 _ _ n rfl rfl rfl rfl (by rw[i3];omega) (by unfold maxLen;omega) qo ?_;intro A2 hO2 a1 an;have c2:=(HC.out A2 a1).2;have av:pc<w.heap.size+1+1:=qo;have au:pc<A2.heap.size:=qo);obtain⟨A3,a5⟩:=qW (xw A2 #[xg (w+1) n n] 118);obtain⟨A4,a4⟩:=qW (xw A3 #[.slice (some ⟨R.b,R.off,none⟩) M R.cap] 26);rw[<-a5];refine⟨trivial,(callsIn_wide.2 (yPm A3 (some ⟨R.b,R.off,none⟩) M R.cap)).mono ?_⟩;rintro e w4 ⟨rfl,rfl⟩;rw[<-a4];obtain⟨pR,aa⟩:=qE A3;rw[<-aa];have HA:Hid (R.Wb.heap.size<=A4.heap.size/\yA A4 R.Wb 177 1 R.Wb [.func (.yield R.lY) #[] #[]]/\yA A4 R.Wb 118 1 (w+1+1) [xg (w+1) R.n R.n]/\yA A4 R.Wb 26 1 pR [.slice (some ⟨R.b,R.off,none⟩) R.es.length R.cap]/\yF1 A4 R.Wb (w+1) R.n (List.replicate R.n false)/\Below w w A4):=by
  have ax:=(HC.out A2 a1).1;have am:Below A1 A1 A2:=⟨a1.os,a1.tape,a1.output,a1.size,λi hi=>a1.block i hi (by simp)⟩;have a9:=qN a5
  have a7:=qN a4
  have e2:A2.heap.size=w.heap.size+1+1:=qo
  have e3:A3.heap.size=w.heap.size+1+1+1:=by rw[a5];simp[e2]
  have e4:A4.heap.size=w.heap.size+1+1+1+1:=by rw[a4];simp[e3]
  have k4:=(ax.trans (a9.mono qo)).trans (a7.mono qo);have b1:yA A1 w 177 1 w [.func (.yield R.lY) #[] #[]]:=by rw[a6];exact yAa w _ qr rfl
  have b2:yA A3 w 118 1 (w+1+1) [xg (w+1) n n]:=by rw[<-e2,a5];exact yAa A2 _ qo rfl
  have b3:yA A4 w 26 1 pR [.slice (some ⟨R.b,R.off,none⟩) M R.cap]:=by rw[aa,a4];exact yAa A3 _ qo rfl
  have b4:yF1 A2 w (w+1) n (List.replicate n false):=by
   have h9:=hO2;rw[ad,yU7 yOu qj false (Value.cells false) rfl n]at h9;have h8:A2.ownsRow w 4 1 (xg (w+1) (List.replicate n false).length n) (List.replicate n false).length ((List.replicate n false).flatMap blF):=by rw[length_replicate];exact h9
   exact h8
  rw[<-HD.2.1,<-HD.2.2.1,<-HD.2.2.2.1];exact⟨qo,((b1.below am).below a9).below a7,b2.below a7,b3,(b4.below a9).below a7,k4⟩
 clear a5 a4 aa hO2 a1 an c2 av au HC ag i1 i2 i3 c0 aq ar ad a6;gi_wp2;refine xEp R HD.1 K HD.2.2.2.2.2.2 HA.1 ?pg ?rm ?sl ?bp ?bc HA.2.1 HA.2.2.1 HA.2.2.2.1 HA.2.2.2.2.1 (by simp) ?hk rfl rfl (λv=>{tmps:=#[.func (.yield R.lY) #[] #[],ptB pp,ptB pc,.pointer (some ⟨w,0,none⟩),.pointer (some ⟨w+1+1,0,none⟩),v,undef,undef,.pointer (some ⟨pp,0,none⟩),.slice R.a n R.c,.int .i64 (n:Int),.slice (some ⟨w+1,0,none⟩) n n,.slice (some ⟨R.b,R.off,none⟩) M R.cap,.func (Fn.func 199) #[] #[ptB pR],v,undef,undef,undef,undef,undef,undef,undef,undef,undef,undef,undef,undef,undef,undef,undef,undef],defers:= []}) ?hassign ?hbody ?hQ;case pg=>
  obtain⟨kf,vf,hI⟩:=HS.1;exact⟨kf,vf,hI.turn HD.1.pr.mds (Chg.of_below HA.2.2.2.2.2 (S:=λ_=>False)) (λq z=>z.elim)⟩
 case rm=>exact yAh HS.2.1 (Chg.of_below HA.2.2.2.2.2 (S:=λ_=>False)) (λ_ _ z=>z)
 case sl=>exact HS.2.2.1.below HA.2.2.2.2.2
 case bp=>exact HS.2.2.2.1.below HA.2.2.2.2.2
 case bc=>exact HS.2.2.2.2.1.below HA.2.2.2.2.2
 case hk=>exact HD.2.2.2.2.2.2.on _ _ _ _ HS.2.2.2.2.2 (Chg.of_below HA.2.2.2.2.2)
 case hassign=>intro l v W K' hK;gi_wp2;exact hK
 case hbody=>
  intro l r0 i j W bs out hS hij hk;have HB:=qH3 hS hij hk;obtain⟨x0,x1⟩:=hS.bp.c2;have x2:=hS.bb.cell (j:=0) rfl;rw[<-HD.2.2.2.2.1]at x0 x1;rw[<-HD.2.2.1]at x0 x2;clear hS hij hk;have al:Hid (Calls prog 154 #[.agg #[.slice R.a n R.c,ptB R.dm.mb],segV R.b R.off R.cap (i,j),xg (w+1) n n] W λe X'=>(∃v,e=.returned v)/\∃a0,CdR (segE R.es (i,j)) (R.ds.map vwD) [] a0/\RbS R (w+1) (w+1+1) pR a0 l (.loop r0) X'/\Chg (R.I W) W X'):=by rw[HD.2.2.1];exact HB.1.dec HD.1 HB.2.1
  gi_wp2;refine⟨trivial,(CallsIn.inRound (l+1) (callsIn_wide.2 al.out)).mono ?_⟩;rintro e W2 ⟨⟨v,rfl⟩,a0,ah,a8,hc2⟩;have ac:=qH3 ah a8 (HD.2.2.2.2.2.2.on _ _ _ _ HB.2.2 hc2);clear x0 x1 x2 ah hc2 al;have x1:=a8.bp.cell (j:=1) rfl;have x2:=a8.bb.cell (j:=0) rfl;rw[<-HD.2.2.2.2.1]at x1;rw[<-HD.2.2.1]at x2;clear a8;gi_wp2;obtain⟨W3,ab⟩:=qW (xw ((W2.alloc (Obj.cells #[ptB R.dm.mb] 94)).alloc (Obj.cells #[segV R.b R.off R.cap (i,j)] 26)) #[xg (w+1) n n] 118);refine⟨trivial,(CallsIn.inRound (l+1) (callsIn_wide.2 (yMf W2 R.dm.mb (some ⟨R.b,R.off+i*5,none⟩) (j-i) (R.cap-i) (some ⟨w+1,0,none⟩) n n))).mono ?_⟩;rintro e w3 ⟨rfl,af⟩;have ao:w3=W3:=by rw[af,ab];rfl
  subst ao;have az:Hid (w3=(xw ((W2.alloc (Obj.cells #[ptB R.dm.mb] 94)).alloc (Obj.cells #[segV R.b R.off R.cap (i,j)] 26)) #[xg (w+1) R.n R.n] 118)):=by rw[<-HD.2.2.1];exact ab
  clear ab af x1 x2;gi_wp2;refine xBd R HD.1 K HD.2.2.2.2.2.2 ac.2.1 HB.2.1 ac.2.2 az.out rfl rfl (λx p told=>{tmps:=#[.func (.yield R.lY) #[] #[],ptB pp,ptB pc,.pointer (some ⟨w,0,none⟩),.pointer (some ⟨w+1+1,0,none⟩),segV R.b R.off R.cap (i,j),.pointer (some ⟨p,0,none⟩),.bool told,.pointer (some ⟨pp,0,none⟩),.slice R.a n R.c,.int .i64 (n:Int),.slice (some ⟨w+1,0,none⟩) n n,.slice (some ⟨R.b,R.off,none⟩) M R.cap,.func (Fn.func 199) #[] #[ptB pR],segV R.b R.off R.cap (i,j),.agg #[.slice R.a n R.c,ptB R.dm.mb],segV R.b R.off R.cap (i,j),.slice (some ⟨w+1,0,none⟩) n n,v,.pointer (some ⟨pp,1,none⟩),ptB R.dm.mb,segV R.b R.off R.cap (i,j),.slice (some ⟨w+1,0,none⟩) n n,.func (Fn.func 200) #[] #[ptB W2,ptB (W2+1),ptB (W2+1+1)],x.c,.bool told,undef,undef,undef,undef,undef],defers:= []}) ?hassign2 ?hbody2 ?hQ2;case hassign2=>
   intro l x told W K' hK;gi_wp2;exact hK
  case hbody2=>intro l2 x told p W4 Kp hb ae hY;obtain⟨fn,tmps,assign,body,hy,aj⟩:=hY W4 (Below.refl _ _);obtain⟨y0,y1,y2,y3,y4⟩:=hb.c5;rw[<-HD.2.1]at ae;clear hb hY;gi_wp2;have ai:=aj;refine ai.mono ?_;rintro e W5 ⟨rfl,ak⟩;have aA:=qH1 ak;clear ak aj ai hy y0 y1 y2 y3 y4 ae;gi_wp2;exact aA.out
  case hQ2=>intro o W3 ho ay aw;have HE:Hid (∃a0 o,CdR (segE R.es (i,j)) (R.ds.map vwD) [] a0/\RowR R.dm.l a0 (segE R.es (i,j)) (List.replicate R.dm.nk newC) o/\RbS R (w+1) (w+1+1) pR a0 l (.loop r0) W3/\K (out++o) j W3):=⟨a0,o,ac.1,ho,ay,aw⟩;gi_wp2;obtain⟨a0,o,z1,z2⟩:=HE.out;exact⟨a0,z1,o,z2⟩
 case hQ=>
  intro W out hr hk hm;have HE:Hid (∀W',Chg (λq=>q∈ [A4.heap.size]) W W'->K out R.es.length W'):=λW' hc=>HD.2.2.2.2.2.2.on _ _ _ _ hk (hc.mono (λq z=>by
   have z':q=A4.heap.size:=by simpa using z
   exact .inr ⟨by rw[z'];exact HA.1,by rw[z'];exact yBb hm rfl⟩))
  have HR:Hid (RwsR (vwD R.dm) (R.ds.map vwD) ((allC R.es 0).map (segE R.es)) out/\MkO 0 [A4.heap.size] W):=⟨hr,by simp,λE hE=>by
   have z':E=A4.heap.size:=by simpa using hE
   rw[z'];exact⟨zero_le _,hm⟩⟩
  clear hr hk hm;gi_wp2;exact yIc (λW=>results_none rfl _ _ _) [A4.heap.size] W 0 HR.2 (λW' hc=>⟨⟨_,rfl⟩,out,HR.1,HE.out W' hc⟩)
end
section
structure RnK (R:RbG) (w:World) (rv:Nat) (rec:Obj) (lD:Nat) (out:List Ent) (ops:Nat) (W:World):Prop where
 res:∃a n c,n=out.length/\yA W w 39 3 R.rb [true,.slice a n c,xi ops]/\RowC W R.Wb (.slice a n c) out
 rc:W.heap[R.lY]?=some rec
 rk:rec.isCells=false
 mrk:W.heap[lD]?=some (.deferred (some []))
 rvb:yA W w 39 3 rv [false,xh,xi 0]
 le:out.length<=ops
 below:Below w w W
 wb:R.Wb.heap.size<=W.heap.size
structure RnO (R:RbG) (w:World) (rv lD:Nat):Prop where
 rb:R.rb<R.tb
 rvl:rv<R.tb
 rbv:¬R.rb=rv
 wl:w.heap.size<=R.tb
 lDl:R.W0.heap.size<=lD
 lY:R.lY=lD+1
 vt:¬R.rb=1
section
variable {R:RbG} {w:World} {rv lD:Nat} {rec:Obj} {out:List Ent} {ops:Nat} {W W':World}
theorem RnK.on (hR:RbO R) (hO:RnO R w rv lD) (h:RnK R w rv rec lD out ops W) (hc:Chg (R.I W) W W'):RnK R w rv rec lD out ops W':=by
 obtain⟨a,n,c,h1,h2,h3⟩:=h.res;have a4:=hR.le;have a3:=hR.pr.tbl;have o1:=hO.rb;have o2:=hO.rvl;have o3:=hO.wl;have o4:=hO.lDl;have o5:=hO.lY;have a2:=hR.lY;have a0:∀q,q<R.tb->¬R.I W q:=λq hq z=>by
  rcases z with z|z
  .exact hR.pr.old hq z
  .have:=z.1;omega
 have a1:∀q o,W.heap[q]?=some o->o.isCells=false->R.W0.heap.size<=q->q<R.Wb.heap.size->¬R.I W q:=λq o ho hi hq hq2 z=>by
  rcases z with z|z
  .exact hR.pr.noO hq ho hi z
  .have:=z.1;omega
 exact {h with
  res:=⟨a,n,c,h1,h2.chg hc (a0 _ o1),h3.chg hc (λk hk z=>by
   have ht:=yAk h3 hk
   have hl:=(World.ownsRow.lt h3 k hk).1
   rcases z with z|z
   .exact hR.pr.noT qo ht qj z
   .exact z.2 ht)⟩
  rc:=by rw[hc.block _ (Array.getElem?_eq_some_iff.1 h.rc).1 (a1 _ _ h.rc h.rk qo a2)];exact h.rc
  mrk:=by rw[hc.block _ (Array.getElem?_eq_some_iff.1 h.mrk).1 (a1 _ _ h.mrk rfl o4 qo)];exact h.mrk
  rvb:=h.rvb.chg hc (a0 _ o2)
  below:=Chg.below h.below hc h.below.size (λq z=>by
   rcases z with z|z
   .have:¬q<R.tb:=λhq=>hR.pr.old hq z
    omega
   .have:=z.1;omega)
  wb:=Nat.le_trans h.wb hc.size}
theorem RnK.own (hR:RbO R) (hO:RnO R w rv lD) (h:RnK R w rv rec lD out ops W):∀q,q=R.rb∨q=R.lY->(q<R.tb/\¬q=1)∨(R.W0.heap.size<=q/\¬ObT 181 W q):=λq z=>by
 have o4:=hO.lDl
 have o5:=hO.lY
 rcases z with z|z
 .exact .inl ⟨by rw[z];exact hO.rb,by rw[z];exact hO.vt⟩
 .exact .inr ⟨qo,by rw[z];exact yBb h.rc h.rk⟩
theorem RnK.put (hR:RbO R) (hO:RnO R w rv lD) (h:RnK R w rv rec lD out ops W) {rec':Obj} (hb:rec'.isCells=false):RnK R w rv rec' lD out ops (W.putObj R.lY rec'):=by
 obtain⟨a,n,c,h1,h2,h3⟩:=h.res;have a0:=yAt W R.lY rec';have a1:∀t,¬ObT t W R.lY:=λt=>yBb h.rc h.rk;have o3:=hO.wl;have o4:=hO.lDl;have o5:=hO.lY;have a2:=hR.pr.tbl
 exact {h with
  res:=⟨a,n,c,h1,h2.chg a0 (λq=>a1 _ (by rw[<-q];exact yAk h2 rfl)),h3.chg a0 (λk hk q=>a1 _ (by rw[<-q];exact yAk h3 hk))⟩
  rc:=World.putObj_heap_same (Array.getElem?_eq_some_iff.1 h.rc).1
  rk:=hb
  mrk:=(World.putObj_heap_other qo).trans h.mrk
  rvb:=h.rvb.chg a0 (λq=>a1 _ (by rw[<-q];exact yAk h.rvb rfl))
  below:=Chg.below h.below a0 h.below.size (λq z=>qo)
  wb:=Nat.le_trans h.wb a0.size}
end
variable {w:World} {rv:Nat}
theorem xEh {R:RbG} {lD:Nat} (hR:RbO R) (hO:RnO R w rv lD) (hWl:w.heap.size<=R.Wb.heap.size) {fn:FuncId} {tmps:Array Value} {ps:Array Tmp} {assign body:Code} {D m:Nat} (hps:ps.size=2) (a₁:Ent->Nat->Bool->Act)
  (hassign:∀(l:Nat) (x:Ent) (told:Bool) (W:World) (K':Act->World->Prop),K' (a₁ x W told) (xw W #[x.row,x.fam,x.qual,xu x.ts,x.val] 70)->assign.wpIn (Fence.wide.inRound l) m prog (Exit.then K' (λ_ _ _=>False)) {tmps:=(ps.zip #[x.c,told]).foldl (λt (p,v)=>t.setIfInBounds p v) tmps,defers:= []} W)
  (hbody:∀(l:Nat) (x:Ent) (told:Bool) (p:Nat) (W:World) (a:Option Addr) (n c ops:Nat) (out:List Ent),yA W w 39 3 R.rb [true,.slice a n c,xi ops]->n=out.length->n<=10000->ops<=10000->RowC W R.Wb (.slice a n c) out->yA W R.Wb 70 5 p x.five->¬(Value.slice a n c).ownBlock=some p->R.Wb.heap.size<=W.heap.size->
   body.wpIn (Fence.wide.inRound l) m prog (λe _ W'=>e=.normal/\∃a' n' c',n'=(if told=true then out++ [x]else out).length/\yA W' w 39 3 R.rb [true,.slice a' n' c',xi (ops+1:Nat)]/\RowC W' R.Wb (.slice a' n' c') (if told=true then out++ [x]else out)/\Chg (λq=>q=R.rb∨(R.Wb.heap.size<=q/\ObT 70 W q)) W W') (a₁ x p told) W):
  ∀out ops (x:Ent) (told:Bool) W,RnK R w rv (rcL fn tmps ps assign body D .ready none) lD out ops W->ops<R.es.length->YieldAt Fence.wide m prog R.lY #[x.c,told] W λe W'=>e=.returned true/\RnK R w rv (rcL fn tmps ps assign body D .ready none) lD (if told=true then out++ [x]else out) (ops+1) W'/\Chg (R.Y W) W W':=by
 intro out ops x told W h ab;obtain⟨rec,a2⟩:∃rec:LoopState->Option Code->Obj,rec=rcL fn tmps ps assign body D:=⟨_,rfl⟩;have a4:∀s p,(rec s p).isCells=false:=λs p=>by rw[a2];rfl
 have o1:=hO.rb;have o2:=hO.rvl;have o3:=hO.wl;have o4:=hO.lDl;have o5:=hO.lY;have ad:=hR.le;have a9:=hR.pr.tbl;have aa:=hR.rb;have af:=hR.es;refine yD7 h.rc (by rw[hps];rfl) ?_;refine hassign _ x told _ _ ?_;obtain⟨A,hA⟩:=qE (W.alloc (Obj.cells #[x.row,x.fam,x.qual,xu x.ts,x.val] 70));have kA:=qN hA
 rw[<-a2]at h;have ae:=(Array.getElem?_eq_some_iff.1 h.rc).1;have a7:=h.wb;have bA:yA A R.Wb 70 5 W x.five:=by rw[hA];exact yAa W _ a7 rfl
 rw[<-hA];clear hA;have hA:=h.on hR hO (Chg.of_below kA);have a6:=hA.rc;rw[<-a2];refine⟨a6,?_⟩;have hB:=hA.put hR hO (a4 .busy none);have a0:=yAt A R.lY (rec .busy none);have bB:=bA.chg a0 (λq=>(yAk bA rfl).not (by rw[q];exact hA.rc) hA.rk);obtain⟨B,a8⟩:=qE (A.putObj R.lY (rec .busy none));rw[<-a8]at hB a0 bB⊢;obtain⟨a,n,c,n1,m2,m3⟩:=h.res;have n2:=(m2.below kA).chg a0 (λq=>yBb hA.rc hA.rk (by rw[<-q];exact yAk (m2.below kA) rfl));have n3:=(m3.below kA).chg a0 (λk hk q=>yBb hA.rc hA.rk (by rw[<-q];exact yAk (m3.below kA) hk));have ac:=hB.le;have a5:¬(Value.slice a n c).ownBlock=some W.heap.size:=λz=>by have:=(World.ownsRow.lt m3 _ z).2;omega
 refine wpIn_mono (hbody _ x told W B a n c ops out n2 n1 (by omega) (by omega) n3 bB a5 (by have:=bB.lt;omega)) ?_;rintro e a3 W3 ⟨rfl,a',n',c',p1,p2,p3,p4⟩;have a1:∀q,(q=R.rb∨(R.Wb.heap.size<=q/\ObT 70 B q))->¬q=R.lY/\¬q=lD/\¬q=rv/\w.heap.size<=q:=λq z=>by
  rcases z with z|z
  .have:=n2.lt.1;have:=hO.rbv;omega
  .have:=z.1;have:=hR.lY;omega
 have hC:RnK R w rv (rec .busy none) lD (if told=true then out++ [x]else out) (ops+1) W3:=
  {res:=⟨a',n',c',p1,p2,p3⟩
   rc:=by rw[p4.block _ (Array.getElem?_eq_some_iff.1 hB.rc).1 (λz=>(a1 _ z).1 rfl)];exact hB.rc
   rk:=a4 _ _
   mrk:=by rw[p4.block _ (Array.getElem?_eq_some_iff.1 hB.mrk).1 (λz=>(a1 _ z).2.1 rfl)];exact hB.mrk
   rvb:=hB.rvb.chg p4 (λz=>(a1 _ z).2.2.1 rfl)
   le:=by
    have:=hB.le
    cases told
    .exact le_succ_of_le this
    .simp only[if_true,length_append,length_singleton];omega
   below:=Chg.below hB.below p4 hB.below.size (λq z=>(a1 q z).2.2.2)
   wb:=Nat.le_trans hB.wb p4.size}
 refine⟨hC.rc,rfl,hC.put hR hO (a4 _ _),?_⟩;have c1:Chg (R.Y W) W A:=Chg.of_below kA;have c2:Chg (R.Y W) W B:=c1.absorb a0 (λq z=>.inl (.inr (.inl z)));have c3:Chg (R.Y W) W W3:=⟨p4.os.trans c2.os,p4.tape.trans c2.tape,p4.output.trans c2.output,Nat.le_trans c2.size p4.size,λi hi hn=>by
  have e1:=c2.block i hi hn
  refine(p4.block i (Nat.lt_of_lt_of_le hi c2.size) (λz=>hn ?_)).trans e1
  rcases z with z|⟨z0,cur,z⟩
  .exact .inl z
  .rw[e1]at z;exact .inr (.inr ⟨z0,cur,z⟩)⟩
 exact c3.absorb (yAt _ _ _) (λq z=>.inl (.inr (.inl z)))
end
section
structure RmS (R:RbG) (ph:Nat) (hints:Bool) (X:World):Prop where
 sl:CSl X R.b R.off R.cap R.es
 bp:yA X R.W0 96 2 R.pp [.slice R.a R.n R.c,ptB R.dm.mb]
 bc:yA X R.W0 26 1 R.pc [.slice (some ⟨R.b,R.off,none⟩) R.es.length R.cap]
 bh:yA X R.W0 4 1 ph [hints]
 hl:ph<R.Wb.heap.size
 hn:¬ph=R.rb/\¬ph=R.lY
section
variable {R:RbG} {ph:Nat} {hints:Bool} {X X':World}
theorem RmS.move (hR:RbO R) (h:RmS R ph hints X) {S:Nat->Prop} (hc:Chg S X X') (hS:∀q,S q->R.qu X q∨R.Y X q):RmS R ph hints X':=by
 have a2:=hR.le;have a0:∀(g t:Nat),ObT t X g->¬181=t->¬70=t->R.W0.heap.size<=g->¬g=R.rb->¬g=R.lY->¬S g:=λg t ht h1 h2 h4 h5 h6 z=>by
  rcases hS g z with q|(q|q|q)
  .exact hR.pr.noT h4 ht h1 q
  .exact h5 q
  .exact h6 q
  .exact h2 (q.2.one ht)
 exact {h with
  sl:=h.sl.chg hc (λz=>by
   have hb:=hR.b
   have a1:=hR.pr.tbl
   have hn:=hR.bn
   rcases hS _ z with q|(q|q|q)
   .exact hR.pr.old hb q
   .exact hn.1 q
   .exact hn.2 q
   .have:=q.1;omega)
  bp:=h.bp.chg hc (a0 _ _ (yAk h.bp rfl) qj qj h.bp.lt.1 hR.pp.1 hR.pp.2)
  bc:=h.bc.chg hc (a0 _ _ (yAk h.bc rfl) qj qj h.bc.lt.1 hR.pc.1 hR.pc.2)
  bh:=h.bh.chg hc (a0 _ _ (yAk h.bh rfl) qj qj h.bh.lt.1 h.hn.1 h.hn.2)}
theorem RmS.mvs (hR:RbO R) (h:RmS R ph hints X) {v:Value} (hp:R.pd R.dm ks v X):MvS (R.mch R.dm) R.dm.N R.es R.pc R.pp ph R.b R.off R.cap hints ks v X:=by
 have a1:=hp.mc hR.dm;refine⟨a1,h.bc.cell (j:=0) rfl,h.bp.cell (j:=1) rfl,h.bh.cell (j:=0) rfl,h.sl,λq hq=>?_⟩;have hz:=McI.qu hR.dm a1 q;have a0:¬R.qu X q:=by
  rcases hq with rfl|rfl
  .exact hR.pr.noT h.bh.lt.1 (yAk h.bh rfl) qj
  .exact hR.pr.old hR.b
 exact⟨λk=>a0 (hz (.inl k)),λk=>a0 (hz (.inr (.inl k))),λk=>a0 (hz (.inr (.inr (.inl k)))),λk=>a0 (hz (.inr (.inr (.inr k))))⟩
end
theorem xHm (R:RbG) (hR:RbO R) (hn0:R.n=0) (hord:R.es.Pairwise λa b=>yAo (putE a) (putE b)= -1) (K:List Ent->Nat->World->Prop) (hK:RbK R 18 K) {ph:Nat} {hints:Bool} {ks0:List Ctr} {v0:Value} (hp:R.pd R.dm ks0 v0 R.Wb) (hf:ks0=List.replicate R.dm.nk newC) (hs:RmS R ph hints R.Wb) (hk:K [] 0 R.Wb):
  CallsIn Fence.wide 19 prog 103 #[.func (.yield R.lY) #[] #[],ptB R.pc,ptB R.pp,ptB ph] R.Wb λe W'=>(∃v,e=.returned v)/\∃out ops,MvR R.dm.l hints R.es (List.replicate R.dm.nk newC) out ops/\K out ops W':=by
 have al:=hR.le;have ab:=(hR.pr.mds.md R.dm hR.dm).1;have a3:=hR.gm;rw[hn0]at a3;have ah:=ySw hR.pr.mds hR.dm (yJ9 hR.gm (by simp))
 have ac:=xBt (R.mch R.dm) R.dm.l R.dm.N R.es R.pc R.pp ph R.b R.off R.cap hints hR.es ah a3 ab.len rfl hR.row hord R.lY 19 qj
  (λi ks v X=>RmS R ph hints X/\R.pd R.dm ks v X/\∃out m,K out m X/\m<=i/\∀o k,MvR R.dm.l hints (R.es.drop i) ks o k->MvR R.dm.l hints R.es (List.replicate R.dm.nk newC) (out++o) (m+k))
  ?hY (λi ks v X h=>h.1.mvs hR h.2.1) R.Wb ks0 v0 ⟨hs,hp,[],0,hk,Nat.le_refl _,λo k ho=>by rw[nil_append,Nat.zero_add,<-hf];exact ho⟩
 case hY=>
  rintro i c it ks a5 v v' X0 X ⟨aj,a2,out,m,ag,ak,a8⟩ hc ae ad a4 a6;have a9:=a2.step hR.pr.mds hR.dm ad a4 a6;have a1:=hR.pr.mcq hR.dm (a2.mc hR.dm) a4;have ai:=aj.move hR a1 (λq z=>.inl z);have a0:=hK.on _ _ _ _ ag (a1.mono (λq z=>.inl z));have hi:=qf hc;have a7:=MvR.step (j:=nxtM R.es hints i it c) a8 hc ae rfl;refine yH4 (hK.yld _ _ (yB it c) it.alive X a0 qo) ?_;rintro e W'' ⟨he,af,hc2⟩;have aa:R.pd R.dm a5 v' W'':=a9.turn hR.pr.mds hc2 (λq z=>by
   rcases z with z|z|z
   .exact hK.own _ _ _ a0 q (.inl z)
   .exact hK.own _ _ _ a0 q (.inr z)
   .exact .inr ⟨qw z.1,yF6 z.2 qj⟩)
  refine⟨he,ai.move hR hc2 (λq z=>.inr z),aa,_,_,af,?_,a7⟩;unfold nxtM;split<;>omega
 refine ac.mono ?_;rintro e X ⟨he,ks,v,_,_,out,m,hk,_,hr⟩;exact⟨he,out,m,MvR.done hr qr,hk⟩
end
structure RxP (G:PrG) (d0:Md) (es:List Ent) (b off cap:Nat) (rb rv:Nat) (w X:World):Prop where
 pr:PrO G
 d0m:d0∈G.all
 gm:yBe d0.l (d0.nk:Int) G.n
 esl:es.length<=10000
 row:∀c∈es,¬c.row=⟨#[]⟩
 ord:es.Pairwise λa b=>yAo (putE a) (putE b)= -1
 bl:b<G.tb
 le:G.W0.heap.size<=X.heap.size
 rbl:rb<G.tb
 rvl:rv<G.tb
 ne:¬rb=rv
 br:¬b=rb
 vt:¬rb=1
 wl:w.heap.size<=G.tb
 rr:∀q,(Value.slice G.a G.n G.c).ownBlock=some q->¬q=rb/\q<X.heap.size
 pd:∃v0,G.pd d0 (List.replicate d0.nk newC) v0 X
 rm:G.rm X
 sl:CSl X b off cap es
 res:yA X w 39 3 rb [true,xh,xi 0]
 rvb:yA X w 39 3 rv [false,xh,xi 0]
 below:Below w w X
structure RxO (G:PrG) (d0:Md) (es:List Ent) (b off cap:Nat) (pp pc rb rv:Nat) (w X:World):Prop extends RxP G d0 es b off cap rb rv w X where
 bp:yA X G.W0 96 2 pp [.slice G.a G.n G.c,ptB d0.mb]
 bc:yA X G.W0 26 1 pc [.slice (some ⟨b,off,none⟩) es.length cap]
variable {G:PrG} {d0:Md} {b rb rv:Nat} {w:World}
theorem RxP.on {off:Nat} {X':World} (h:RxP G d0 es b off cap rb rv w X) (k:Below X X X'):RxP G d0 es b off cap rb rv w X':=
 {h with
  le:=Nat.le_trans h.le k.size
  rr:=λq hq=>⟨(h.rr q hq).1,Nat.lt_of_lt_of_le (h.rr q hq).2 k.size⟩
  pd:=by obtain⟨v0,kf,vf,hI,h1,h2⟩:=h.pd;exact⟨v0,kf,vf,hI.turn h.pr.mds (Chg.of_below k (S:=λ_=>False)) (λq z=>z.elim),h1,h2⟩
  rm:=yAh h.rm (Chg.of_below k (S:=λ_=>False)) (λ_ _ z=>z)
  sl:=h.sl.below k
  res:=h.res.below k
  rvb:=h.rvb.below k
  below:=h.below.trans (k.mono h.below.size)}
def MvP (G:PrG) (d0:Md) (es:List Ent) (b off cap rb rv:Nat) (hints:Bool) (w:World) (e:Ending) (X':World):Prop:=
 ∃f lb,e=.returned (.func (Fn.func f) #[] lb)/\Hid (∃pp pc ph,RxO G d0 es b off cap pp pc rb rv w X'/\((G.n=0/\f=103/\lb=#[ptB pc,ptB pp,ptB ph]/\yA X' G.W0 4 1 ph [hints])∨(¬G.n=0/\f=152/\lb=#[ptB pp,ptB pc])))
theorem ySr {off:Nat} (H:RxP G d0 es b off cap rb rv w X) (hints:Bool):
  Calls prog 47 #[.agg #[.slice G.a G.n G.c,ptB d0.mb],.slice (some ⟨b,off,none⟩) es.length cap,hints] X (MvP G d0 es b off cap rb rv hints w):=by
 have a6:=H.le;obtain⟨A1,a2⟩:=qW (xw X #[.slice G.a G.n G.c,ptB d0.mb] 96);obtain⟨A2,a1⟩:=qW (xw A1 #[.slice (some ⟨b,off,none⟩) es.length cap] 26);obtain⟨A3,a0⟩:=qW (xw A2 #[hints] 4);have e1:=qS a2
 have e2:A2.heap.size=X.heap.size+1+1:=by rw[a1];simp[e1]
 have e3:A3.heap.size=X.heap.size+1+1+1:=by rw[a0];simp[e2]
 have q1:=qN a2
 have q2:=qN a1
 have q3:=qN a0
 have k3:=(q1.trans (q2.mono qo)).trans (q3.mono qo);by_cases hn:G.n=0
 .have b1:yA A1 G.W0 96 2 X [.slice G.a G.n G.c,ptB d0.mb]:=by rw[a2];exact yAa X _ a6 rfl
  have b2:yA A2 G.W0 26 1 (X+1) [.slice (some ⟨b,off,none⟩) es.length cap]:=by rw[<-e1,a1];exact yAa A1 _ qo rfl
  have b3:yA A3 G.W0 4 1 (X+1+1) [hints]:=by rw[<-e2,a0];exact yAa A2 _ qo rfl
  have h9:=yWi X G.a G.c d0.mb (some ⟨b,off,none⟩) es.length cap hints;rw[<-hn]at h9;refine h9.mono ?_;rintro e X' ⟨he,a4⟩;have a8:X'=A3:=by rw[a4,a0,a1,a2]
  subst a8;exact⟨_,_,he,⟨X,X+1,X+1+1,{H.on k3 with bp:=(b1.below q2).below q3,bc:=b2.below q3},.inl ⟨hn,rfl,rfl,b3⟩⟩⟩
 .obtain⟨A4,a3⟩:=qW (xw A3 #[.slice G.a G.n G.c,ptB d0.mb] 96);obtain⟨A5,a5⟩:=qW (xw A4 #[.slice (some ⟨b,off,none⟩) es.length cap] 26);have e4:A4.heap.size=X.heap.size+1+1+1+1:=by rw[a3];simp[e3]
  have q4:=qN a3
  have q5:=qN a5
  have k5:=(k3.trans (q4.mono qo)).trans (q5.mono qo);have b1:yA A4 G.W0 96 2 (X+1+1+1) [.slice G.a G.n G.c,ptB d0.mb]:=by rw[<-e3,a3];exact yAa A3 _ qo rfl
  have b2:yA A5 G.W0 26 1 (X+1+1+1+1) [.slice (some ⟨b,off,none⟩) es.length cap]:=by rw[<-e4,a5];exact yAa A4 _ qo rfl
  refine(yN1 X G.a G.n G.c d0.mb qo (some ⟨b,off,none⟩) es.length cap hints).mono ?_;rintro e X' ⟨he,a4⟩;have a7:X'=A5:=by rw[a4,a5,a3,a0,a1,a2]
  subst a7;exact⟨_,_,he,⟨X+1+1+1,X+1+1+1+1,0,{H.on k5 with bp:=b1.below q5,bc:=b2},.inr ⟨hn,rfl,rfl⟩⟩⟩
theorem xBa {off pp pc ph:Nat} {hints:Bool} (H:RxO G d0 es b off cap pp pc rb rv w X)
  {g:Operand} {ps:Array Tmp} {assign body:Code} {Q:Exit->Act->World->Prop} {a:Act} {f:Nat} {lb:Array Value} (hg:a.eval g=.func (.func f) #[] lb)
  (hf:(G.n=0/\f=103/\lb=#[ptB pc,ptB pp,ptB ph]/\yA X G.W0 4 1 ph [hints])∨(¬G.n=0/\f=152/\lb=#[ptB pp,ptB pc])) (hps:ps.size=2) (a₁:Ent->Nat->Bool->Act)
  (hassign:∀(m l:Nat) (x:Ent) (told:Bool) (W:World) (K':Act->World->Prop),K' (a₁ x W told) (xw W #[x.row,x.fam,x.qual,xu x.ts,x.val] 70)->assign.wpIn (Fence.wide.inRound l) m prog (Exit.then K' (λ_ _ _=>False)) {tmps:=(ps.zip #[x.c,told]).foldl (λt (p,v)=>t.setIfInBounds p v) a.tmps,defers:= []} W)
  (hbody:∀(m l:Nat) (x:Ent) (told:Bool) (p B:Nat) (W:World) (a:Option Addr) (n c ops:Nat) (out:List Ent),rb<B->yA W w 39 3 rb [true,.slice a n c,xi ops]->n=out.length->n<=10000->ops<=10000->RowC W B (.slice a n c) out->yA W B 70 5 p x.five->¬(Value.slice a n c).ownBlock=some p->B<=W.heap.size->
   body.wpIn (Fence.wide.inRound l) m prog (λe _ W'=>e=.normal/\∃a' n' c',n'=(if told=true then out++ [x]else out).length/\yA W' w 39 3 rb [true,.slice a' n' c',xi (ops+1:Nat)]/\RowC W' B (.slice a' n' c') (if told=true then out++ [x]else out)/\Chg (λq=>q=rb∨(B<=q/\ObT 70 W q)) W W') (a₁ x p told) W)
  (hQ:∀(out:List Ent) (ops:Nat) (W:World) (a':Option Addr) (n' c':Nat),n'=out.length->((¬G.n=0/\RwsR (vwD d0) (G.ds.map vwD) ((allC es 0).map (segE es)) out/\ops=es.length)∨(G.n=0/\MvR d0.l hints es (List.replicate d0.nk newC) out ops))->yA W w 39 3 rb [true,.slice a' n' c',xi ops]->yA W w 39 3 rv [false,xh,xi 0]->RowC W X (.slice a' n' c') out->Below w w W->W.heap[X.heap.size]?=some (.deferred (some []))->Q .normal {a with defers:=mkD X.heap.size::a.defers} W):
  (Code.rangeFunc g ps assign body).wpIn Fence.wide 20 prog Q a X:=by
 refine yGa hg (λargs w=>by rcases hf with⟨_,rfl,_⟩|⟨_,rfl,_⟩<;>simp[go_sem]) qj ?_;intro fn W1 a3;have k1:Below X X W1:=by rw[a3];exact(qB).alloc (by simp) _
 have z1:W1.heap.size=X.heap.size+1+1:=by rw[a3];simp
 have r1:W1.heap[X.heap.size+1]?=some (rcL fn a.tmps ps assign body X .ready none):=by rw[a3];have:=World.alloc_heap_new (X.alloc (.deferred (some []))) (rcL fn a.tmps ps assign body X .ready none);rwa [World.size_alloc]at this
 have m1:W1.heap[X.heap.size]?=some (.deferred (some [])):=by rw[a3];exact(Below.heap_alloc _ _ _ (by simp)).trans (World.alloc_heap_new X _)
 obtain⟨R,a0⟩:=qE ({toPrG:=G,Wb:=W1,dm:=d0,es:=es,b:=b,off:=off,cap:=cap,pp:=pp,pc:=pc,rb:=rb,lY:=X.heap.size+1}:RbG);have ah:=H.pr.tbl;have ai:=H.le;have o1:=H.rbl;have o2:=H.rvl;have o3:=H.wl;have o4:=H.bl;have s1:=k1.size;have b1:=H.bp.lt;have b2:=H.bc.lt;have eP:R.toPrG=G:=by rw[a0]
 have hR:RbO R:=by
  rw[a0]
  exact {pr:=H.pr,dm:=H.d0m,gm:=H.gm,es:=H.esl,row:=H.row,b:=H.bl,le:=by show G.W0.heap.size<=W1.heap.size;omega,rb:=by show rb<W1.heap.size;omega,lY:=by show X.heap.size+1<W1.heap.size;omega,
         pp:=⟨by show¬pp=rb;omega,by show¬pp=X.heap.size+1;omega⟩,pc:=⟨by show¬pc=rb;omega,by show¬pc=X.heap.size+1;omega⟩,bn:=⟨H.br,by show¬b=X.heap.size+1;omega⟩,
         rr:=λq hq=>⟨(H.rr q hq).1,by have:=(H.rr q hq).2;show¬q=X.heap.size+1;omega,by have:=(H.rr q hq).2;show q<W1.heap.size;omega⟩}
 have hO:RnO R w rv X.heap.size:=by rw[a0];exact {rb:=H.rbl,rvl:=H.rvl,rbv:=H.ne,wl:=H.wl,lDl:=H.le,lY:=rfl,vt:=H.vt}
 have af:w.heap.size<=R.Wb.heap.size:=by rw[a0];show w.heap.size<=W1.heap.size;omega
 have ac:rb<R.Wb.heap.size:=by rw[a0];show rb<W1.heap.size;omega
 have a7:R.rb=rb:=by rw[a0]
 have a2:RnK R w rv (rcL fn a.tmps ps assign body X .ready none) X [] 0 W1:=by rw[a0];exact {res:=⟨none,0,0,rfl,H.res.below k1,⟨rfl,.inl ⟨rfl,rfl⟩⟩⟩,rc:=r1,rk:=rfl,mrk:=m1,rvb:=H.rvb.below k1,le:=Nat.le_refl _,below:=H.below.trans (k1.mono H.below.size),wb:=Nat.le_refl _}
 have hK:∀m,RbK R m (RnK R w rv (rcL fn a.tmps ps assign body X .ready none) X):=λm=>
  {on:=λout ops W W' h hc=>h.on hR hO hc
   own:=λout ops W h=>h.own hR hO
   yld:=xEh hR hO af hps a₁ (hassign m) (λl x told p W a n c ops out h1 h2 h3 h4 h5 h6 h7 h8=>by
    rw[a7]at h1⊢
    exact hbody m l x told p R.Wb W a n c ops out ac h1 h2 h3 h4 h5 h6 h7 h8)}
 have a5:∀out ops e W2,(∃v,e=Ending.returned v)->((¬G.n=0/\RwsR (vwD d0) (G.ds.map vwD) ((allC es 0).map (segE es)) out/\ops=es.length)∨(G.n=0/\MvR d0.l hints es (List.replicate d0.nk newC) out ops))->RnK R w rv (rcL fn a.tmps ps assign body X .ready none) X out ops W2->(∃v,e=Ending.returned v)/\
   ((W2.heap[X.heap.size+1]?=some (rcL fn a.tmps ps assign body X .ready none)/\Q .normal {a with defers:={target:=.collected X,args:=#[]}::a.defers} (W2.putObj (X+1) (rcL fn a.tmps ps assign body X .exhausted none)))∨
    ∃c,W2.heap[X.heap.size+1]?=some (rcL fn a.tmps ps assign body X .done (some c))/\c.wpIn Fence.wide 20 prog Q {a with defers:={target:=.collected X,args:=#[]}::a.defers} (W2.putObj (X+1) (rcL fn a.tmps ps assign body X .exhausted (some c)))):=λout ops e W2 he hm hk=>by
  have a8:R.lY=X.heap.size+1:=by rw[a0]
  refine⟨he,.inl ⟨by have:=hk.rc;rwa [a8]at this,?_⟩⟩;have h2:=hk.put hR hO (rec':=rcL fn a.tmps ps assign body X .exhausted none) rfl;rw[a8]at h2;obtain⟨a',n',c',q1,q2,q3⟩:=h2.res;rw[a7]at q2;refine hQ out ops _ a' n' c' q1 hm q2 h2.rvb ⟨q3.1,?_⟩ h2.below h2.mrk;rcases q3.2 with z|⟨g',ag,cur,hv,a9,rest⟩
  .exact .inl z
  .exact .inr ⟨g',ag,cur,hv,Nat.le_trans (by rw[a0];exact s1) a9,rest⟩
 obtain⟨v0,kf,vf,hI,ae,aa⟩:=H.pd;have a4:R.pd R.dm (List.replicate d0.nk newC) v0 W1:=by rw[a0];exact⟨kf,vf,hI.turn H.pr.mds (Chg.of_below k1 (S:=λ_=>False)) (λq z=>z.elim),ae,aa⟩
 rcases hf with⟨hn,rfl,rfl,a6⟩|⟨hn,rfl,rfl⟩
 .have a1:=xHm R hR (by rw[a0];exact hn) (by rw[a0];exact H.ord) _ (hK 18) (ph:=ph) (hints:=hints) (by rw[a0]at a4⊢;exact a4) (by rw[a0]) (by
   rw[a0]
   have b3:=a6.lt
   exact⟨H.sl.below k1,H.bp.below k1,H.bc.below k1,a6.below k1,by show ph<W1.heap.size;omega,by show¬ph=rb;omega,by show¬ph=X.heap.size+1;omega⟩) (by rw[a0]at a2⊢;exact a2)
  simp only[append_toArray,cons_append,nil_append];rw[a0]at a1;refine a1.mono ?_;rintro e W2 ⟨he,out,ops,ad,hk⟩;exact a5 out ops e W2 he (.inr ⟨hn,ad⟩) (by rw[a0];exact hk)
 .have a1:=xHo R hR _ (hK 14) (by obtain⟨a,b,c,_⟩:=a4;rw[a0]at c⊢;exact⟨a,b,c⟩) (by rw[a0];exact yAh H.rm (Chg.of_below k1 (S:=λ_=>False)) (λ_ _ z=>z)) (by rw[a0];exact H.sl.below k1) (by rw[a0];exact H.bp.below k1) (by rw[a0];exact H.bc.below k1) (by rw[a0]at a2⊢;exact a2);simp only[append_toArray,cons_append,nil_append];rw[a0]at a1;refine a1.mono ?_;rintro e W2 ⟨he,out,ab,hk⟩;exact a5 out es.length e W2 he (.inl ⟨hn,ab,rfl⟩) (by rw[a0];exact hk)
def LcP (w:World) (bs:List Bk) (m:Bk) (e:Ending) (w':World):Prop:=
 ∃(a:Option Addr) (n c mb:Nat),e=.returned (.agg #[.slice a n c,xp mb])/\Hid (∃(d0:Md) (ds:List Md) (Ts:List Tt) (NM:Nat),d0.mb=mb/\n=ds.length/\RowM w' w (.slice a n c) ds/\MdsA (w+1+1+1) (w+1+1) NM Ts (d0::ds) w'/\dkl d0=bkl m/\ds.map dkl=bs.map bkl/\(∀q,(Value.slice a n c).ownBlock=some q->∀X∈Ts,X.t<q∨q<X.lo)/\Below w w w')
theorem yK9 {α:Type} {f:α->List Value} {sz ty:Nat} {ops:Array Oper} {oo:Oper} {a:Act} {K:Act->World->Prop} {Q:Exit->Act->World->Prop} {E:Prop} (hf:∀x,(f x).length=sz) (w:World) (hgd:oo.guard=none) s x (sty:Nat)
  (ho:oo.op=.call {callee:=.builtin .append,args:=#[s,x],argTypes:=#[sty,sty]}) (hst:prog.underlying sty=some (.slice ty)) {z:Value} {bytes:Nat} (hin:(prog.info? ty).map (λi=>(i.zero,i.size,i.bytes))=some (some z,sz,bytes)) (hz:z.cells.size=sz) (hsz:0<sz) (hby:bytes<=1000)
  (h1:∀x,∀u∈f x,u.oneCell'=true)
  (base:Nat) (v:Value) (n b cx:Nat) (fs:List α) (e:α) (hs:a.eval s=v) (hx:a.eval x=(xg b 1 cx)) (hn:n=fs.length) (hO:w.ownsRow base ty sz v fs.length (fs.flatMap f))
  (hc:∀j u,(f e)[j]?=some u->(xk w b j u:Prop)) (hlen:fs.length<=1000000) (hbase:base<=w.heap.size)
  (h:∀g' cp' w',OwnG f sz ty w' base g' cp' (fs++ [e])->w.grownBy w' v.ownBlock->(v.ownBlock=some g'∨g'=w.heap.size)->K (a.put oo.dst (xg g' (n+1) cp')) w'):if Region.wanted oo (yielded ops a.tmps)=true then Oper.wp prog oo a w K Q else E:=by
 subst hn;obtain⟨i,hi,a2,a1,a0⟩:=info_parts hin;refine step_append_lies w hgd s x sty ho base ty i _ sz bytes hst hi a2 a1 a0 hz hsz v fs.length (fs.flatMap f) hs hO (xd b 0) 1 cx (f e) hx (by rw[hf];omega) (λj u hu=>by rw[Addr.add_mid,Nat.zero_add];exact hc j u hu) (h1 e) (by decide) ?_ ?_ hbase w rfl ?_
 .unfold maxLen;omega
 .have:=Nat.mul_le_mul (show fs.length+1<=1000001 by omega) hby;omega
 .intro g' cp' w' hO' a3 a4 a5;refine h g' cp' w' ?_ a3 a4;exact xAm
theorem zLcK {p:Prop} (h:p:=by
 obtain⟨x,hx⟩:∃x,bs[k]?=some x:=qg (qw HM.2.2.2.1);have hgx:yBe x.l x.cnt k:=HM.1.2.2 k x hx;obtain⟨ub,uo,hua,hBk,hubl⟩:∃ub uo,ua=some ⟨ub,uo,none⟩/\yK0 w ub uo bs/\ub<w.heap.size:=by
  rcases HM.2.1 with⟨_,_,_,q⟩|⟨b,off,cap,q1,q2,q3,q4,q5⟩
  .rw[q]at hx;simp at hx
  .simp only[Value.slice.injEq]at q1;exact⟨b,off,q1.1,q2,q3⟩
 obtain⟨hx0,hx1,hx2⟩:=hBk k x hx;obtain⟨xb,xo,xn,xc,hxv,hxn,hxi,hxl,hxc⟩:∃xb xo xn xc,x.v=.slice (some ⟨xb,xo,none⟩) xn xc/\xn=x.l.length/\yB5 w xb xo x.l/\xb<w.heap.size/\xn<=xc/\xc<=maxLen:=by
  rcases hx2 with⟨_,_,_,q⟩|⟨b,off,cap,q1,q2,q3,q4,q5⟩
  .have:=hgx.1;rw[q]at this;simp at this
  .exact⟨b,off,_,cap,q1,rfl,q2,q3,q4,q5⟩
 rw[hxv]at hx0;have y0:(xk wo ub (uo+k*2) (.slice (some ⟨xb,xo,none⟩) xn xc):Prop):=by rw[HJ.below.cell (p:=(xd ub _)) hubl];exact hx0
 have y1:(xk wo ub (uo+k*2+1) (xi x.cnt):Prop):=by rw[HJ.below.cell (p:=(xd ub _)) hubl];exact hx1
 have HX:Hid (bs[k]?=some x/\yBe x.l x.cnt k/\xn=x.l.length/\yB5 w xb xo x.l/\xb<w.heap.size/\x.ok):=⟨hx,hgx,hxn,hxi,hxl,HM.2.2.2.2.1 x (mem_of_getElem? hx)⟩;obtain⟨W2,hW2⟩:=qW (xw wo #[.slice (some ⟨xb,xo,none⟩) xn xc,xi x.cnt] 32);have HW2:Hid (LcJ w bs m (.slice ua ul uc) (.slice (some ⟨bI,oI,none⟩) N cI) pb k a n c d0 ds Ts NM W2.drew/\yA W2.drew w 32 2 wo [.slice (some ⟨xb,xo,none⟩) xn xc,xi x.cnt]):=by
  have k2:=qN hW2
  have b2:yA W2 w 32 2 wo [.slice (some ⟨xb,xo,none⟩) xn xc,xi x.cnt]:=by rw[hW2];exact yAa wo _ HJ.below.size rfl
  exact⟨(HJ.on k2).on ((Below.refl _ _).drew),b2.below ((Below.refl _ _).drew)⟩
 have hS0:SW (λw':World=>xk w' pb 0 (.slice a n c)/\xk w' (w+1+1+1) 0 (.map (some (w+1+1)))/\xk w' wo 0 (.slice (some ⟨xb,xo,none⟩) xn xc)/\xk w' wo 1 (xi x.cnt)/\xk w' wo 1 (xi x.cnt)/\xk w' wo 1 (xi x.cnt)/\xk w' wo 1 (xi x.cnt)/\xk w' wo 1 (xi x.cnt)) W2.drew:=by have b:=HW2.2;have h1:=b.cell (j:=1) rfl;exact⟨HW2.1.prg.cell (j:=0) rfl,HW2.1.ldr.cell (j:=0) rfl,b.cell (j:=0) rfl,h1,h1,h1,h1,h1⟩
 have zk:(k:Int)<(ul:Int):=by omega
 rw[hua]at HW2⊢;clear hx hgx hBk hubl hx0 hx1 hx2 hxv hxn hxi hxl hxc;go_upto_region 6 with fail;rw[<-hW2];clear hW2 y0 y1;refine yCq [8] (λw':World=>xk w' pb 0 (.slice a n c)/\xk w' (w+1+1+1) 0 (.map (some (w+1+1)))/\xk w' wo 0 (.slice (some ⟨xb,xo,none⟩) xn xc)/\xk w' wo 1 (xi x.cnt)/\xk w' wo 1 (xi x.cnt)/\xk w' wo 1 (xi x.cnt)/\xk w' wo 1 (xi x.cnt)/\xk w' wo 1 (xi x.cnt)) (by kernel_rfl) ?_;generalize W2.drew=WD at HW2 hS0⊢;refine txa 0 hS0 ?_;iterate 3 refine txb hS0 ?_
 have HLd:Hid (Calls prog 101 #[.agg #[.map (some (w+1+1))],.agg #[.slice (some ⟨xb,xo,none⟩) xn xc,xi x.cnt]] WD (xCe WD (w+1+1) x.l xn xb xo xc x.cnt x.cnt.toNat (w+1+1+1) Ts NM)):=by have hb0:=HW2.1.below;have htl:=HM.2.2.2.2.2.2.2.2.lt;have hxb:=HX.2.2.2.2.1;have hpl:=HW2.1.prg.lt;have hpn:=HW2.1.pn;exact yP3 (λp g mb=>xDh HX.2.1 HX.2.2.2.2.2.ins HX.2.2.1 rfl (HX.2.2.2.1.below hb0 hxb) (qw hb0.size) (by omega) (by omega) (by omega) (by omega) (by omega) p g mb) HW2.1.mds.map HW2.1.mds.ts
 refine yA3 (i:=4) (by kernel_rfl) rfl (λK hK=>?_);go_simp;refine HLd.mono ?_;intro e w3 hL;have hpl:=HW2.1.prg.lt;have hpn:=HW2.1.pn;obtain⟨d,Tx,NMx,rfl,hmd,hNx,hch,hlo,hdl,hdN,hdk,hold,hnw⟩:=HW2.1.mds.load (by omega) HX.2.2.1 hL;have H3:Hid (yA w3 w 34 3 w [.slice (some ⟨ub,uo,none⟩) ul uc,.slice (some ⟨bI,oI,none⟩) N cI,xi m.cnt]/\yA w3 w 96 2 (w+1) [xh,.pointer none]/\yA w3 w 174 1 (w+1+1+1) [.map (some (w+1+1))]/\yA w3 w 96 2 pb [.slice a n c,xp d0.mb]/\RowM w3 w (.slice a n c) ds/\(∀X∈Tx,X.t<pb∨pb<X.lo)/\(∀q,(Value.slice a n c).ownBlock=some q->¬q=w.heap.size+1+1/\∀X∈Tx,X.t<q∨q<X.lo)/\Below w w w3):=HW2.1.load (by rw[cons_append]at hmd;exact hmd) hch hnw;have HMd:Hid (MdsA (w+1+1+1) (w+1+1) NMx Tx (d0::(ds++ [d])) w3/\yA w3 w 32 2 wo [.slice (some ⟨xb,xo,none⟩) xn xc,xi x.cnt]/\dkl d=bkl x):=⟨by rw[cons_append]at hmd;exact hmd,HW2.2.chg hch (by have:=HW2.2.lt;have:=HJ.prg.lt;have:=HJ.pn;omega),by unfold dkl bkl;rw[hdl,hdk]⟩;have hS3:=SWm hS0 w3 <|by
  have h1:=HMd.2.1.cell (j:=1) rfl;exact⟨H3.2.2.2.1.cell (j:=0) rfl,H3.2.2.1.cell (j:=0) rfl,HMd.2.1.cell (j:=0) rfl,h1,h1,h1,h1,h1⟩
 have HNm:Hid (NMx<=4000*(k+1+1)):=by have h9:=HX.2.1.2.1;have h8:=HX.2.2.1;show _<=_;omega
 have hz3:=hch.size;have hn2:n<=200:=by have h9:=HW2.1.nl;have h8:=congrArg List.length HW2.1.dsm;simp at h8;omega
 refine hK.out _ _ (.inr hS3) ?_;clear hK hL hmd hch hdl hdN hdk hold hnw hS0 HLd hNx;refine jS ?_;obtain⟨W5,hW5⟩:=qW (xw w3 #[xp d.mb] 94);have k5:=qN hW5
 have HC5:Hid (∀j u,(mpF d)[j]?=some u->(xk W5 w3 j u:Prop)):=by rw[hW5];exact yBm w3 (mpF d) _
 have hS5:=SWm hS3 W5 <|by
  have b:=HMd.2.1.below k5;have h1:=b.cell (j:=1) rfl;exact⟨(H3.2.2.2.1.below k5).cell (j:=0) rfl,(H3.2.2.1.below k5).cell (j:=0) rfl,b.cell (j:=0) rfl,h1,h1,h1,h1,h1⟩
 have HR5:Hid (RowM W5 w (.slice a n c) ds):=yAh H3.2.2.2.2.1 (S:=λ_=>False) (Chg.of_below k5) (λ_ _ q=>q);refine yA3 (i:=5) (by kernel_rfl) rfl (λK hK=>?_);go_simp;rw[<-hW5];refine hK.out _ _ (.inr hS5) ?_;clear hK hW5 hS3;refine jS ?_;refine yA3 (i:=6) (by kernel_rfl) rfl (λK hK=>?_);refine yK9 xDf W5 rfl _ _ 93 rfl underlying93 Tryz.infoMp rfl (by decide) (by decide) xHt w (.slice a n c) n w3 1 ds d rfl rfl HW2.1.nl HR5.out HC5.out (qw HW2.1.nl) (qv H3.2.2.2.2.2.2.2.size k5.size) (λg' cp' w6 hO6 hg6 ha6=>?_);have hc6:Chg (λq=>(Value.slice a n c).ownBlock=some q) W5 w6:=Chg.of_grown hg6 (λq hq=>hq);obtain⟨wx,hwx⟩:=qW (xt w6 pb 0 (xg g' (n+1) cp'));have H6:Hid (yA w6 w 96 2 pb [.slice a n c,xp d0.mb]/\LcJ w bs m (.slice (some ⟨ub,uo,none⟩) ul uc) (.slice (some ⟨bI,oI,none⟩) N cI) pb (k+1) (some ⟨g',0,none⟩) (n+1) cp' d0 (ds++ [d]) Tx NMx wx):=by
  obtain⟨h1,h2,h3,h4,h5,h6,h7,h8⟩:=H3.out;have hml:=HMd.1.on (S:=λ_=>False) (Chg.of_below k5) (λq z=>z.elim);have hvt:=hml.ts.tabl;have htl:=HM.2.2.2.2.2.2.2.2.lt;have hrw:=HR5.out;have o4:=h4.below k5;have q1:yA w6 w 96 2 pb [.slice a n c,xp d0.mb]:=o4.chg hc6 (λz=>yAb hrw o4 (by decide) _ z rfl);have hcx:Chg (λq=>q=pb) w6 wx:=by rw[hwx];exact Chg.of_set _ _ _ _ rfl
  have m6:=hml.turn hrw (by decide) (by decide) (by decide) (by decide) (λq hq=>⟨(h7 q hq).1,qw (World.ownsRow.lt hrw q hq),(h7 q hq).2⟩) hc6;have hcx':Chg (λq=>(Value.slice (some ⟨pb,0,none⟩) 1 1).ownBlock=some q) w6 wx:=hcx.mono (λq z=>by subst z;rfl);have mx:=m6.turn q1 (by decide) (by decide) (by decide) (by decide) (λq hq=>by
   simp[Value.ownBlock]at hq
   subst hq
   exact⟨by omega,by omega,h6⟩) hcx'
  have b8:Below w w W5:=h8.trans (k5.mono h8.size);have b6:Below w w w6:=Chg.below b8 hc6 b8.size (λq z=>(World.ownsRow.lt hrw q z).1);have p1:=(h1.below k5).chg hc6 (λz=>yAb hrw (h1.below k5) (by decide) _ z rfl);have p2:=(h2.below k5).chg hc6 (λz=>yAb hrw (h2.below k5) (by decide) _ z rfl);have p3:=(h3.below k5).chg hc6 (λz=>yAb hrw (h3.below k5) (by decide) _ z rfl);refine⟨q1,⟨p1.chg hcx (by omega),p2.chg hcx (by omega),p3.chg hcx (by omega),?_,?_,?_,mx,h6,λq hq=>?_,hpn,HW2.1.dm,?_,Chg.below b6 hcx b6.size (λq z=>by omega)⟩⟩
  .rw[hwx];exact q1.set 0 _
  .have h9:RowM w6 w (xg g' (n+1) cp') (ds++ [d]):=by
    have h8:n+1=(ds++ [d]).length:=by rw[length_append,<-HW2.1.nl];rfl
    rw[h8];exact hO6
   exact yAh h9 hcx (λq hq z=>yAb h9 q1 (by decide) _ hq (by rw[z];rfl))
  .rw[length_append,<-HW2.1.nl];rfl
  .simp[Value.ownBlock]at hq;subst hq;rcases ha6 with z|z
   .exact h7 _ z
   .refine⟨qw k5.size,λX hX=>.inl ?_⟩;have:=(HMd.1.ts.at_ X hX).1.lt;have:=k5.size;omega
  .rw[map_append,HW2.1.dsm,take_add_one,HX.1,Option.toList_some,map_append];congr 1;simp only[map_cons,map_nil];rw[HMd.2.2]
 have hS6:=SWm hS5 w6 <|by
  have b:=(HMd.2.1.below k5);have b':=b.chg hc6 (λz=>yAb HR5.out b (by decide) _ z rfl);have h1:=b'.cell (j:=1) rfl;have hl5:=H3.2.2.1.below k5;exact⟨H6.1.cell (j:=0) rfl,(hl5.chg hc6 (λz=>yAb HR5.out hl5 (by decide) _ z rfl)).cell (j:=0) rfl,b'.cell (j:=0) rfl,h1,h1,h1,h1,h1⟩
 clear hO6 hg6 ha6 hc6 hS5;refine hK.out _ _ (.inr hS6) ?_;clear hK;refine jS ?_;refine txb hS6 ?_;have v0:=H6.1.cell (j:=0) rfl;have f0:=H6.1.frozen 0;refine yA3 (i:=8) (by kernel_rfl) rfl (λK hK=>?_);go_simp;rw[<-hwx];refine hK.out _ _ (.inl (by decide)) ?_;clear hK hwx v0 f0 hS6;refine jS ?_;refine yD6 (by kernel_rfl) ?_;rw[<-hua]at H6;go_wp2_with fail;(try rw[<-hua]);go_roundw;case rel=>exact⟨k+1,NMx,some ⟨g',0,none⟩,n+1,cp',ds++ [d],Tx,by omega,HNm.out,by go_num,H6.2⟩
 case measure=>simp[intOf];omega):p:=h
variable {bs:List Bk} {m:Bk}
theorem yN6 {ua:Option Addr} {ul uc:Nat} (hg:yCn bs m) (hU:yCg w (.slice ua ul uc) bs) (hul:ul=bs.length) (hok:∀x∈bs,x.ok) (hmo:m.ok) {bI oI cI:Nat} (hN:N=m.l.length) (hI:yB5 w bI oI m.l) (hb:bI<w.heap.size) (hT:TabD w):
  Calls prog 46 #[.agg #[.slice ua ul uc,.slice (some ⟨bI,oI,none⟩) N cI,xi m.cnt]] w (LcP w bs m):=by
 have a9:ul<=200:=by rw[hul];exact hg.1
 have HM:Hid (yCn bs m/\yCg w (.slice ua ul uc) bs/\yB5 w bI oI m.l/\ul=bs.length/\(∀x∈bs,x.ok)/\m.ok/\N=m.l.length/\bI<w.heap.size/\TabD w):=⟨hg,hU,hI,hul,hok,hmo,hN,hb,hT⟩;clear hg hU hul hok hmo hN hI hb hT;obtain⟨W0,a0⟩:=qW (xw (((w.alloc (Obj.cells #[.slice ua ul uc,.slice (some ⟨bI,oI,none⟩) N cI,xi m.cnt] 34)).alloc (Obj.cells #[xh,.pointer none] 96)).alloc (.map #[] 0)) #[.map (some (w+1+1))] 174);have a6:∀wx:World,(Instr.makeMap 172 none).run prog wx=.ok (.map (some wx)) (wx.alloc (.map #[] 0)):=λwx=>by kernel_rfl
 have H0:Hid (yA W0 w 34 3 w [.slice ua ul uc,.slice (some ⟨bI,oI,none⟩) N cI,xi m.cnt]/\yA W0 w 96 2 (w+1) [xh,.pointer none]/\yA W0 w 174 1 (w+1+1+1) [.map (some (w+1+1))]/\MdsA (w+1+1+1) (w+1+1) 0 [] [] W0/\Below w w W0/\W0.heap.size=w.heap.size+1+1+1+1):=by
  obtain⟨X,hX⟩:=qW (xw w #[.slice ua ul uc,.slice (some ⟨bI,oI,none⟩) N cI,xi m.cnt] 34);rw[<-hX]at a0;obtain⟨Y,hY⟩:=qW (xw X #[xh,.pointer none] 96);rw[<-hY]at a0;obtain⟨Z,hZ⟩:=qW (Y.alloc (.map #[] 0));rw[<-hZ]at a0;have zx:=qS hX
  have zy:Y.heap.size=w.heap.size+1+1:=by rw[hY];simp;omega
  have zz:Z.heap.size=w.heap.size+1+1+1:=by rw[hZ];simp;omega
  have k1:=qN hX
  have k2:Below X X Y:=by rw[hY];exact qB
  have k3:Below Y Y Z:=by rw[hZ];exact qB
  have k4:Below Z Z W0:=by rw[a0];exact qB
  have b1:yA X w.heap.size 34 3 w.heap.size [.slice ua ul uc,.slice (some ⟨bI,oI,none⟩) N cI,.int .i64 m.cnt]:=by rw[hX];exact yAa w _ (Nat.le_refl _) rfl
  have b2:yA Y w.heap.size 96 2 (w.heap.size+1) [.slice none 0 0,.pointer none]:=by rw[hY,<-zx];exact yAa X _ (by omega) rfl
  have b4:yA W0 w.heap.size 174 1 (w.heap.size+1+1+1) [.map (some (w.heap.size+1+1))]:=by rw[a0,<-zz];exact yAa Z _ (by omega) rfl
  have kb:Below w.heap.size w W0:=((k1.trans (k2.mono (by omega))).trans (k3.mono (by omega))).trans (k4.mono (by omega));have a5:MpA Z (w.heap.size+1+1) 0 []:=by have:=xBs Y;rw[<-hZ,zy]at this;exact this
  have htl:=HM.2.2.2.2.2.2.2.2.lt;refine⟨((b1.below k2).below k3).below k4,(b2.below k3).below k4,b4,⟨a5.chg (S:=λ_=>False) (Chg.of_below k4) (λq=>q),⟨λT hT=>by simp at hT,List.Pairwise.nil,HM.2.2.2.2.2.2.2.2.chg (S:=λ_=>False) (Chg.of_below kb) (λq=>q),by omega⟩,by omega,λd hd=>by simp at hd,List.Pairwise.nil⟩,kb,by rw[a0];simp;omega⟩
 have HLd:Hid (Calls prog 101 #[.agg #[.map (some (w.heap.size+1+1))],.agg #[.slice (some ⟨bI,oI,none⟩) N cI,.int .i64 m.cnt]] W0 (xCe W0 (w.heap.size+1+1) m.l N bI oI cI m.cnt m.cnt.toNat (w.heap.size+1+1+1) [] 0)):=by have hb0:=H0.2.2.2.2.1;have htl:=HM.2.2.2.2.2.2.2.2.lt;have a7:=HM.2.2.2.2.2.2.2.1;exact yP3 (λp g mb=>xDh HM.1.2.1 HM.2.2.2.2.2.1.ins HM.2.2.2.2.2.2.1 rfl (HM.2.2.1.below hb0 a7) (qw hb0.size) (by omega) (by omega) (qw H0.2.2.2.2.2) (by omega) (by omega) p g mb) H0.2.2.2.1.map H0.2.2.2.1.ts
 go_enter func46,ntmps46;go_upto_region 2 with fail;rw[<-a0];clear a0 a6;have c1:=H0.1.cell (j:=1) rfl;have c2:=H0.1.cell (j:=2) rfl;have l0:=H0.2.2.1.cell (j:=0) rfl;go_wp2_with fail;refine HLd.mono ?_;intro e w1 hL;obtain⟨d0,Ts,NM,rfl,hmd,a8,hch,hlo,hdl,hdN,hdk,_⟩:=H0.2.2.2.1.load (qw H0.2.2.2.2.2) HM.2.2.2.2.2.2.1 hL;obtain⟨pb,a1⟩:=qE w1.heap.size;obtain⟨W3,a3⟩:=qW (w1.alloc (Obj.cells #[.slice none 0 0,.pointer (some ⟨d0.mb,0,none⟩)] 96));have H3:Hid (LcJ w bs m (.slice ua ul uc) (.slice (some ⟨bI,oI,none⟩) N cI) pb 0 none 0 0 d0 [] Ts NM W3/\NM<=4000):=by
  obtain⟨h1,h2,h3,h4,h5,h6⟩:=H0.out;have k3:Below w1 w1 W3:=by rw[a3];exact qB
  have kb:Below w.heap.size w w1:=Chg.below h5 hch h5.size (λq z=>by omega);have hz:=hch.size;have ab:=HM.1.2.1.2.1;have aa:=HM.2.2.2.2.2.2.1;refine⟨⟨(h1.chg hch (by omega)).below k3,(h2.chg hch (by omega)).below k3,(h3.chg hch (by omega)).below k3,by rw[a1,a3];exact yAa w1 _ kb.size rfl,⟨rfl,.inl ⟨rfl,rfl⟩⟩,rfl,hmd.on (S:=λ_=>False) (Chg.of_below k3) (λq z=>z.elim),λX hX=>.inl (by rw[a1];exact(hmd.ts.at_ X hX).1.lt),λq hq=>by simp[Value.ownBlock]at hq,by omega,by unfold dkl bkl;rw[hdl,hdk],rfl,kb.trans (k3.mono kb.size)⟩,by omega⟩
 clear hmd hch hlo hdl hdN hdk c1 c2 l0 H0 HLd hL;go_upto_region 3 with fail;rw[<-a3,<-a1];clear a3 a1;have c0:=H3.1.cod.cell (j:=0) rfl;go_wp2;go_loopw[17] (λkv wr=>∃(k NM:Nat) (a:Option Addr) (n c:Nat) (ds:List Md) (Ts:List Tt),k<=ul/\NM<=4000*(k+1)/\kv=(xi k)/\Hid (LcJ w bs m (.slice ua ul uc) (.slice (some ⟨bI,oI,none⟩) N cI) pb k a n c d0 ds Ts NM wr)) (λkv _=>ul-(intOf kv).toNat);case atStart=>exact⟨0,NM,none,0,0,[],Ts,zero_le _,qw H3.2,rfl,H3.1⟩
 case round=>
  clear H3 c0;obtain⟨k,NM,a,n,c,ds,Ts,hk,a8,rfl,HJ⟩:=hrel;obtain⟨wo,a4⟩:=qW wr;subst a4;by_cases hlt:k<ul
  .as_aux_lemma=>exact zLcK
  .have zk:¬(k:Int)<(ul:Int):=by omega
   obtain⟨t0,t1⟩:=HJ.prg.c2;obtain⟨v0,v1⟩:=HJ.res.c2;obtain⟨f0,f1⟩:=HJ.res.f2;obtain⟨W9,a2⟩:=qW (setCs wo (w+1) 0 [.slice a n c,xp d0.mb]);have b9:yA W9 w 96 2 (w+1) [.slice a n c,xp d0.mb]:=by rw[a2];exact HJ.res.setCs _
   have c9:Chg (λq=>q=w.heap.size+1) wo W9:=by rw[a2];exact yAl (S:=λq=>q=w.heap.size+1) _ rfl _ _ _
   have HE:Hid (∃(d0':Md) (ds:List Md) (Ts:List Tt) (NM:Nat),d0'.mb=d0.mb/\n=ds.length/\RowM W9 w (.slice a n c) ds/\MdsA (w+1+1+1) (w+1+1) NM Ts (d0'::ds) W9/\dkl d0'=bkl m/\ds.map dkl=bs.map bkl/\(∀q,(Value.slice a n c).ownBlock=some q->∀X∈Ts,X.t<q∨q<X.lo)/\Below w w W9):=by have hj:=HJ.out;have htl:=HM.2.2.2.2.2.2.2.2.lt;refine⟨d0,ds,Ts,NM,rfl,hj.nl,yAh hj.row c9 (λq hq z=>yAb hj.row hj.res (by decide) _ hq (by rw[z];rfl)),hj.mds.on c9 (λq z=>.inr ⟨by omega,by omega,by omega⟩),hj.dm,?_,λq hq=>(hj.rt q hq).2,Chg.below hj.below c9 hj.below.size (λq z=>by omega)⟩;rw[hj.dsm,take_of_length_le (qw HM.2.2.2.1)]
   obtain⟨q0,q1⟩:=b9.c2;simp only[setCs,Nat.zero_add,Nat.reduceAdd]at a2;clear b9 c9;go_wp2;rw[<-a2];exact bodyPost_ret (v:=.agg #[.slice a n c,xp d0.mb]) (by simp[results,results46,go_sem,q0,q1]) rfl ⟨a,n,c,d0.mb,rfl,HE⟩
def hit (x e:Ent):Bool:=yEc x e && ((x.ts==e.ts) || ((e.kind==2) && decide (x.ts<=e.ts)))
theorem yWc {p e:Ent} (h:yCe p e=true):yAo p e= -1:=by
 unfold yCe at h;simp only[Bool.and_eq_true,decide_eq_true_eq,Bool.not_eq_true',beq_iff_eq]at h
 first
  |exact h.1
  |exact h.2
  |(have h1:=h.1;have h2:=h.2;rcases yJ4 p e with q|q|q<;>simp_all)
theorem yL7:∀(l:List Ent),(∀i p e,l[i]?=some p->l[i+1]?=some e->yAo p e= -1)->Ord l
 | [],_=>List.Pairwise.nil
 | [a],_=>by simp[Ord]
 |a::b::r,h=>by
  have ih:=yL7 (b::r) (λi p e h1 h2=>h (i+1) p e (by simpa using h1) (by simpa using h2))
  have hab:=h 0 a b rfl rfl
  refine List.pairwise_cons.2 ⟨λx hx=>?_,ih⟩
  rcases mem_cons.1 hx with rfl|hx
  .exact hab
  .exact yQg hab ((List.pairwise_cons.1 ih).1 x hx)
theorem ySp (h:yC es):Ord es:=yL7 es (λi p e h1 h2=>yWc (h.2 i p e h1 h2))
def xI6 (rs:List (List Ent)) (k:Nat) (x:Ent):Prop:=∃m ds d,m<k/\rs[m]?=some ds/\d∈ds/\xI1 d x=true
def Good (rs:List (List Ent)) (inr:ByteArray->Bool) (i:Nat) (x:Ent):Prop:=x.kind=0/\inr x.row=true/\¬xI6 rs i x
theorem yNr (hk:∀e∈es,e.kind=0):es.map putE=es:=by
 conv=>rhs;rw[<-map_id es]
 refine map_congr_left λe he=>?_;have:=hk e he;cases e
 simp only[putE,id]at*;subst this;rfl
section
def RunM (bs:List Bk) (m:Bk) (es:List Ent) (hints:Bool) (ok:Bool) (out:List Ent) (n:Nat):Prop:=
 (¬(yCn bs m/\yC es)/\ok=false/\out= []/\n=0)∨((yCn bs m/\yC es)/\ok=true/\((¬bs= []/\RwsR m.vw (bs.map Bk.vw) ((allC es 0).map (segE es)) out/\n=es.length)∨(bs= []/\MvR m.l hints es (List.replicate m.cnt.toNat newC) out n)))
theorem RunM.one {hints ok ok':Bool} {out out':List Ent} {n n':Nat} (h:RunM bs m es hints ok out n) (k:RunM bs m es hints ok' out' n'):ok=ok'/\out=out'/\n=n':=by
 rcases h with⟨h1,rfl,rfl,rfl⟩|⟨h1,rfl,h2⟩
 .rcases k with⟨_,rfl,rfl,rfl⟩|⟨k1,_⟩
  .exact⟨rfl,rfl,rfl⟩
  .exact absurd k1 h1
 .rcases k with⟨k1,_⟩|⟨_,rfl,k2⟩
  .exact absurd h1 k1
  .rcases h2 with⟨a1,a2,rfl⟩|⟨a1,a2⟩
   .rcases k2 with⟨_,b2,rfl⟩|⟨b1,_⟩
    .exact⟨rfl,a2.one b2,rfl⟩
    .exact absurd b1 a1
   .rcases k2 with⟨b1,_⟩|⟨_,b2⟩
    .exact absurd a1 b1
    .exact⟨rfl,(a2.one b2).1,(a2.one b2).2⟩
def RunP (bs:List Bk) (m:Bk) (es:List Ent) (hints:Bool) (w:World) (e:Ending) (w':World):Prop:=
 ∃(ok:Bool) (a:Option Addr) (n c ops:Nat),e=.returned (.agg #[ok,.slice a n c,xi ops])/\Hid (∃out,n=out.length/\RunM bs m es hints ok out ops/\RowC w' w (.slice a n c) out/\Below w w w')
structure RnJ (w:World) (u mv:Value) (cnt:Int) (ob nk:Nat) (out:List Ent) (a:Option Addr) (n c ops:Nat) (gk cpk:Nat) (cs:List Ctr) (wr:World):Prop where
 box:yA wr w 34 3 w [u,mv,xi cnt]
 res:yA wr w 39 3 (w+1) [false,xh,xi 0]
 obx:yA wr w 39 3 ob [true,.slice a n c,xi ops]
 row:RowC wr w (.slice a n c) out
 nl:n=out.length
 ctr:yF0 wr w gk cpk cs
 len:cs.length=nk
 cb:∀k∈cs,0<=k.count/\k.count<=1000
 ne:w.heap.size+1<ob
 below:Below w w wr
section
variable {w:World} {u mv:Value} {cnt:Int} {ob nk:Nat} {out:List Ent} {a:Option Addr} {n c ops gk cpk:Nat} {cs:List Ctr} {wr W:World}
theorem RnJ.on (h:RnJ w u mv cnt ob nk out a n c ops gk cpk cs wr) (hb:Below wr wr W):RnJ w u mv cnt ob nk out a n c ops gk cpk cs W:=
 {h with box:=h.box.below hb,res:=h.res.below hb,obx:=h.obx.below hb,row:=h.row.below hb,ctr:=h.ctr.below hb,below:=h.below.trans (hb.mono h.below.size)}
theorem RnJ.ctrs {cs':List Ctr} (h:RnJ w u mv cnt ob nk out a n c ops gk cpk cs wr) (hO:yF0 W w gk cpk cs') (hl:cs'.length=nk) (hcb:∀k∈cs',0<=k.count/\k.count<=1000) (hc:Chg (λk=>k=gk) wr W):RnJ w u mv cnt ob nk out a n c ops gk cpk cs' W:=
 {h with
  box:=h.box.chg hc (λq=>yAb h.box h.ctr (by decide) _ rfl (by rw[q];rfl))
  res:=h.res.chg hc (λq=>yAb h.res h.ctr (by decide) _ rfl (by rw[q];rfl))
  obx:=h.obx.chg hc (λq=>yAb h.obx h.ctr (by decide) _ rfl (by rw[q];rfl))
  row:=h.row.chg hc (λk hk q=>yAb h.row h.ctr (by decide) _ hk (by rw[q];rfl))
  ctr:=hO
  len:=hl
  cb:=hcb
  below:=Chg.below h.below hc h.below.size (λk q=>qw h.ctr.lt)}
theorem RnJ.side {B:Nat} (h:RnJ w u mv cnt ob nk out a n c ops gk cpk cs wr) (hB:w.heap.size+1<B/\¬B=ob/\¬B=gk/\¬(Value.slice a n c).ownBlock=some B) (hc:Chg (λk=>k=B) wr W):RnJ w u mv cnt ob nk out a n c ops gk cpk cs W:=
 {h with
  box:=h.box.chg hc (by omega)
  res:=h.res.chg hc (by omega)
  obx:=h.obx.chg hc (λq=>hB.2.1 q.symm)
  row:=h.row.chg hc (λk hk q=>hB.2.2.2 (by rw[<-q];exact hk))
  ctr:=h.ctr.chg hc (λq=>hB.2.2.1 q.symm)
  below:=Chg.below h.below hc h.below.size (λk q=>by omega)}
theorem RnJ.put {out':List Ent} {a':Option Addr} {n' c' ops':Nat} {W1:World} (h:RnJ w u mv cnt ob nk out a n c ops gk cpk cs wr) (hc1:Chg (λk=>(Value.slice a n c).ownBlock=some k) wr W1) (hr:RowC W1 w (.slice a' n' c') out') (hn:n'=out'.length) (hc:Chg (λk=>k=ob) W1 W) (hb:yA W w 39 3 ob [true,.slice a' n' c',xi ops']):RnJ w u mv cnt ob nk out' a' n' c' ops' gk cpk cs W:=by
 have o1:=h.obx.chg hc1 (λq=>yAb h.row h.obx (by decide) _ q rfl);have a0:=h.ne;have k1:yF0 W1 w gk cpk cs:=yAh h.ctr hc1 (λq hq z=>yAb h.row h.ctr qj _ z hq);have b1:Below w w W1:=Chg.below h.below hc1 h.below.size (λq z=>(h.row.blk z).1)
 exact {h with
  box:=(h.box.chg hc1 (λq=>yAb h.row h.box (by decide) _ q rfl)).chg hc (by omega)
  res:=(h.res.chg hc1 (λq=>yAb h.row h.res (by decide) _ q rfl)).chg hc (by omega)
  obx:=hb
  row:=hr.chg hc (λq hq z=>yAb hr o1 (by decide) _ hq (by rw[z];rfl))
  nl:=hn
  ctr:=yAh k1 hc (λq hq z=>yAb k1 o1 (by decide) _ hq (by rw[z];rfl))
  below:=Chg.below b1 hc b1.size (λq z=>by omega)}
end
variable {p:Prop}
theorem zSpF (h:p:=by
 obtain⟨v0,v1,v2⟩:=HX.1.c3;obtain⟨f0,f1,f2⟩:=HX.1.f3;obtain⟨W9,hW9⟩:=qE (setCs wx (w+1) 0 [false,xh,xi 0]:World);have b9:yA W9 w 39 3 (w+1) [false,xh,xi 0]:=by rw[hW9];exact HX.1.setCs _
 have c9:Chg (λq=>q=w.heap.size+1) wx W9:=by rw[hW9];exact yAl (S:=λq=>q=w.heap.size+1) _ rfl _ _ _
 have HE:Hid (∃out,0=out.length/\RunM bs m es hints false out 0/\RowC W9 w xh out/\Below w w W9):=⟨[],rfl,.inl ⟨HX.2.1,rfl,rfl,rfl⟩,yGq _ _,Chg.below HX.2.2 c9 HX.2.2.size (λq z=>by omega)⟩;obtain⟨q0,q1,q2⟩:=b9.c3;simp only[setCs,Nat.zero_add,Nat.reduceAdd]at hW9;clear b9 c9;go_wp2_with fail;rw[<-hW9];exact bodyPost_ret (v:=.agg #[false,xh,xi (0:Nat)]) (by simp[results,results18,go_sem,q0,q1,q2]) rfl ⟨false,none,0,0,0,rfl,HE⟩):p:=h
theorem zSpN (h:p:=by
 have t2:=HX.obx.cell (j:=2) rfl;have f2:=HX.obx.frozen 2;obtain⟨W9,hW9⟩:=qE (xt wx ob 2 (xi (ops+1:Nat)):World);have H9:Hid (RnJ w (.slice ua ul uc) (.slice (some ⟨bI,oI,none⟩) N cI) m.cnt ob nk ox ax nx cx (ops+1) gk cpk cs' W9):=by refine HX.put (W1:=wx) (Chg.refl _ _) HX.row HX.nl (by rw[hW9];exact Chg.of_set _ _ _ _ rfl) ?_;rw[hW9];exact HX.obx.set 2 _
 have zo:IntKind.i64.wrap ((ops:Int)+1)=(ops:Int)+1:=by rw[IntKind.wrap_i64];omega
 simp only[Int.natCast_add,Int.cast_ofNat_Int]at hW9;go_wp2_with fail;rw[<-hW9];go_roundw;case rel=>exact⟨jx,ops+1,gk,cpk,ox,ax,nx,cx,cs',by omega,by omega,hnb,rfl,rfl,H9.out,HN.out⟩
 case measure=>simp[intOf];omega):p:=h
theorem zSpA (h:p:=by
 have HST:Hid (∀X:World,RnJ w (.slice ua ul uc) (.slice (some ⟨bI,oI,none⟩) N cI) m.cnt ob nk out a n c ops gk cpk cs' X->yA X w 115 4 wo it.four->(λw':World=>xk w' ob 1 (.slice a n c)/\xk w' wo 0 true/\xk w' wo 1 it.strip/\xk w' wo 2 (xi it.hint.rank)/\xk w' wo 3 it.hint.txt/\xk w' gc (i*5) x.row/\xk w' gc (i*5+1) x.fam/\xk w' gc (i*5+2) x.qual/\xk w' gc (i*5+3) (xu x.ts)/\xk w' gc (i*5+4) x.val) X):=λX h k=>by obtain⟨_,_,e0,e1,e2,e3,e4,_⟩:=HSS.out X _ _ _ _ _ _ h;have h0:=k.cell (j:=0) rfl;rw[hal]at h0;exact⟨h.obx.cell (j:=1) rfl,h0,k.cell (j:=1) rfl,k.cell (j:=2) rfl,k.cell (j:=3) rfl,e0,e1,e2,e3,e4⟩
 obtain⟨x',hx'⟩:=qE (yB it x);have HTd:Hid (∀X:World,(xf 59 #[.agg #[true,it.strip,xi it.hint.rank,it.hint.txt],.agg #[x.row,x.fam,x.qual,xu x.ts,x.val]] X x'.c:Prop)):=λX=>by have h9:=yO4 it x X;rw[hal,<-hx']at h9;exact h9
 simp only[hal,if_true,Bool.true_eq_false,false_and,if_false]at HN;rw[<-hx']at HN;have HW5:Hid (RnJ w (.slice ua ul uc) (.slice (some ⟨bI,oI,none⟩) N cI) m.cnt ob nk out a n c ops gk cpk cs' W4.drew/\yA W4.drew w 115 4 wo it.four):=⟨HW4.1.on ((Below.refl _ _).drew),HW4.2.below ((Below.refl _ _).drew)⟩;have hS5:=HST.out _ HW5.1 HW5.2;clear hx';go_upto_region 13 with fail;refine yCq [11] (λw':World=>xk w' ob 1 (.slice a n c)/\xk w' wo 0 true/\xk w' wo 1 it.strip/\xk w' wo 2 (xi it.hint.rank)/\xk w' wo 3 it.hint.txt/\xk w' gc (i*5) x.row/\xk w' gc (i*5+1) x.fam/\xk w' gc (i*5+2) x.qual/\xk w' gc (i*5+3) (xu x.ts)/\xk w' gc (i*5+4) x.val) (by kernel_rfl) ?_;refine txa 0 hS5 ?_;iterate 6 refine txb hS5 ?_
 refine yA3 (i:=7) (by kernel_rfl) rfl (λK hK=>?_);go_simp;refine(HTd.out _).mono ?_;rintro e w6 ⟨rfl,hb6⟩;have HW6:Hid (RnJ w (.slice ua ul uc) (.slice (some ⟨bI,oI,none⟩) N cI) m.cnt ob nk out a n c ops gk cpk cs' w6/\yA w6 w 115 4 wo it.four):=⟨HW5.1.on hb6,HW5.2.below hb6⟩;have hS6:=HST.out _ HW6.1 HW6.2;clear hb6 hS5;refine hK.out _ _ (.inr hS6) ?_;clear hK;refine jS ?_;obtain⟨W7,hW7⟩:=qE (xw w6 #[x'.row,x'.fam,x'.qual,xu x'.ts,x'.val] 70:World);have HW7:Hid (RnJ w (.slice ua ul uc) (.slice (some ⟨bI,oI,none⟩) N cI) m.cnt ob nk out a n c ops gk cpk cs' W7/\yA W7 w 115 4 wo it.four/\yA4 W7 w6 0 [x']):=by
  have k7:=qN hW7
  refine⟨HW6.1.on k7,HW6.2.below k7,?_⟩;intro j e he;have b7:yA W7 w6 70 5 w6 x'.five:=by rw[hW7];exact yAa w6 _ qr rfl
  have hj:j=0:=by have:=qf he;simpa using this
  subst hj;simp at he;subst he;exact⟨b7.cell (j:=0) rfl,b7.cell (j:=1) rfl,b7.cell (j:=2) rfl,b7.cell (j:=3) rfl,b7.cell (j:=4) rfl⟩
 have hS7:=HST.out _ HW7.1 HW7.2.1;refine yA3 (i:=8) (by kernel_rfl) rfl (λK hK=>?_);refine yGn w6 rfl _ rfl x' rfl ?_;rw[<-hW7];refine hK.out _ _ (.inr hS7) ?_;clear hK hW7 hS6;refine jS ?_;refine yA3 (i:=9) (by kernel_rfl) rfl (λK hK=>?_);refine yDz W7 rfl _ _ rfl w a n c w6 0 1 1 out [x'] rfl rfl HW7.1.nl rfl HW7.1.row HW7.2.2 (by have:=HW7.1.nl;simp;omega) HW7.1.below.size (λax cx w8 hR8 hg8 ha8=>?_);have hc8:Chg (λq=>(Value.slice a n c).ownBlock=some q) W7 w8:=Chg.of_grown hg8 (λq hq=>hq);have hib:¬(Value.slice a n c).ownBlock=some wo.heap.size:=λq=>yAb HW7.1.row HW7.2.1 (by decide) _ q rfl;have H8:Hid (yA w8 w 39 3 ob [true,.slice a n c,xi ops]/\RowC w8 w (.slice ax (n+1) cx) (out++ [x'])/\Chg (λq=>(Value.slice a n c).ownBlock=some q) W7 w8):=⟨HW7.1.obx.chg hc8 (λq=>yAb HW7.1.row HW7.1.obx qj _ q rfl),hR8,hc8⟩;have hS8:(λw':World=>xk w' ob 1 (.slice a n c)/\xk w' wo 0 true/\xk w' wo 1 it.strip/\xk w' wo 2 (xi it.hint.rank)/\xk w' wo 3 it.hint.txt/\xk w' gc (i*5) x.row/\xk w' gc (i*5+1) x.fam/\xk w' gc (i*5+2) x.qual/\xk w' gc (i*5+3) (xu x.ts)/\xk w' gc (i*5+4) x.val) w8:=by
  obtain⟨d0,d1,d2,d3,d4,e0,e1,e2,e3,e4⟩:=hS7;have hi:=HW7.2.1.chg hc8 hib;have h0:=hi.cell (j:=0) rfl;rw[hal]at h0;have hgn:¬(Value.slice a n c).ownBlock=some gc:=λq=>qw ((HW7.1.row.blk q).1)
  have hgl7:gc<W7.heap.size:=qw HW7.1.below.size
  exact⟨H8.1.cell (j:=1) rfl,h0,hi.cell (j:=1) rfl,hi.cell (j:=2) rfl,hi.cell (j:=3) rfl,by rw[hc8.cell (p:=(xd gc _)) hgl7 hgn];exact e0,by rw[hc8.cell (p:=(xd gc _)) hgl7 hgn];exact e1,by rw[hc8.cell (p:=(xd gc _)) hgl7 hgn];exact e2,by rw[hc8.cell (p:=(xd gc _)) hgl7 hgn];exact e3,by rw[hc8.cell (p:=(xd gc _)) hgl7 hgn];exact e4⟩
 clear hR8 hg8 ha8 hc8 hib hS7;refine hK.out _ _ (.inr hS8) ?_;clear hK;refine jS ?_;refine txb hS8 ?_;have v1:=H8.1.cell (j:=1) rfl;have f1:=H8.1.frozen 1;obtain⟨wx,hwx⟩:=qW (xt w8 ob 1 (.slice ax (n+1) cx));have HX:Hid (RnJ w (.slice ua ul uc) (.slice (some ⟨bI,oI,none⟩) N cI) m.cnt ob nk (out++ [x']) ax (n+1) cx ops gk cpk cs' wx):=by refine HW7.1.put (W1:=w8) H8.2.2 H8.2.1 (by rw[length_append,<-HW7.1.nl];rfl) (by rw[hwx];exact Chg.of_set _ _ _ _ rfl) ?_;rw[hwx];exact H8.1.set 1 _
 refine yA3 (i:=11) (by kernel_rfl) rfl (λK hK=>?_);go_simp;rw[<-hwx];refine hK.out _ _ (.inl (by decide)) ?_;clear hK hwx hS8 v1 f1;refine jS ?_;refine yD6 (by kernel_rfl) ?_;obtain⟨ox,hox⟩:=qE (out++ [x']);obtain⟨nx,hnx⟩:=qE (n+1);obtain⟨jx,hjx⟩:=qE (i+1);have hji:i<jx:=by omega
 have hjM:jx<=M:=by omega
 rw[<-hox]at HX HN;rw[<-hnx]at HX;rw[<-hjx]at HN;have zj:(jx:Int)=(i:Int)+1:=by omega
 have hnb:nx<=ops+1:=by omega
 clear hox hnx;rw[<-zj];exact zSpN):p:=h
theorem zSpD (h:p:=by
 simp only[hal,Bool.false_eq_true,and_false,if_false]at HN;obtain⟨wx,hwx⟩:=qE (W4:World);obtain⟨ox,hox⟩:=qE out;obtain⟨ax,hax⟩:=qE a;obtain⟨nx,hnx⟩:=qE n;obtain⟨cx,hcx⟩:=qE c;obtain⟨jx,hjx⟩:=qE (i+1);have hji:i<jx:=by omega
 have hjM:jx<=M:=by omega
 have HX:Hid (RnJ w (.slice ua ul uc) (.slice (some ⟨bI,oI,none⟩) N cI) m.cnt ob nk ox ax nx cx ops gk cpk cs' wx):=by rw[hwx,hox,hax,hnx,hcx];exact HW4.1
 rw[<-hox,<-hjx]at HN;rw[<-hwx]at p0⊢;have zj:(jx:Int)=(i:Int)+1:=by omega
 have hnb:nx<=ops+1:=by omega
 clear hwx hox hax hnx hcx;go_upto_region 17 with fail;rw[<-zj];exact zSpN):p:=h
theorem zSpX (h:p:=by
 obtain⟨ox,hox⟩:=qE out;obtain⟨ax,hax⟩:=qE a;obtain⟨nx,hnx⟩:=qE n;obtain⟨cx,hcx⟩:=qE c;obtain⟨jx,hjx⟩:=qE j;have hji:i<jx:=by omega
 have hjM:jx<=M:=by omega
 have HX:Hid (RnJ w (.slice ua ul uc) (.slice (some ⟨bI,oI,none⟩) N cI) m.cnt ob nk ox ax nx cx ops gk cpk cs' wx):=by rw[hox,hax,hnx,hcx];exact HXw.out
 have hj2:i+1+((es.drop (i+1)).takeWhile (yAz it.hint x)).length=jx:=by
  have h9:=yXx (p:=yAz it.hint x) (es.drop (i+1)) (j-(i+1)) (by rw[length_drop];have:=HM.2.1;omega) (λk e hk he=>by
   rw[getElem?_drop]at he
   exact HK.out (i+1+k) e (by omega) (by omega) he) (λe he=>by
   rw[getElem?_drop,show i+1+(j-(i+1))=j by omega]at he
   exact HEn.out e he)
  omega
 have hnb:nx<=ops+1:=by omega
 rw[hj2,<-hox]at HN;rw[<-hjx];clear hj2 hox hax hnx hcx hjx;exact zSpN):p:=h
theorem zSpH (h:p:=by
 simp only[hal,Bool.false_eq_true,if_false,and_self,eq_self,if_true]at HN;go_wp2_with fail;go_loopw[11] (λjv wr=>∃j:Nat,i+1<=j/\j<=M/\jv=(xi j)/\Hid ((∀(k:Nat) (e:Ent),i+1<=k->k<j->es[k]?=some e->yAz it.hint x e=true)/\RnJ w (.slice ua ul uc) (.slice (some ⟨bI,oI,none⟩) N cI) m.cnt ob nk out a n c ops gk cpk cs' wr/\yA wr w 115 4 wo it.four)) (λjv _=>M-(intOf jv).toNat);case atStart=>exact⟨i+1,Nat.le_refl _,by omega,by go_num,λk e h1 h2=>by omega,HW4.1,HW4.2⟩
 case round=>
  clear HW4 p0;obtain⟨j,hij,hjM0,rfl,HI⟩:=hrel;have HK:Hid (∀(k:Nat) (e:Ent),i+1<=k->k<j->es[k]?=some e->yAz it.hint x e=true):=HI.1;have HD:Hid (RnJ w (.slice ua ul uc) (.slice (some ⟨bI,oI,none⟩) N cI) m.cnt ob nk out a n c ops gk cpk cs' wr.drew/\yA wr.drew w 115 4 wo it.four):=⟨HI.2.1.on ((Below.refl _ _).drew),HI.2.2.below ((Below.refl _ _).drew)⟩;by_cases hjl:j<M
  .obtain⟨y,hy⟩:∃y,es[j]?=some y:=qg (qw HM.2.1);have HY:Hid (es[j]?=some y):=hy;have zj:(j:Int)<(M:Int):=by omega
   have hd:decide ((j:Int)<(M:Int))=true:=by simp;omega
   have HST:Hid (∀X:World,RnJ w (.slice ua ul uc) (.slice (some ⟨bI,oI,none⟩) N cI) m.cnt ob nk out a n c ops gk cpk cs' X->yA X w 115 4 wo it.four->(λw':World=>xk w' wo 2 (xi it.hint.rank)/\xk w' wo 3 it.hint.txt/\xk w' gc (i*5) x.row/\xk w' gc (i*5+1) x.fam/\xk w' gc (i*5+2) x.qual/\xk w' gc (i*5+3) (xu x.ts)/\xk w' gc (i*5+4) x.val/\xk w' gc (j*5) y.row/\xk w' gc (j*5+1) y.fam/\xk w' gc (j*5+2) y.qual/\xk w' gc (j*5+3) (xu y.ts)/\xk w' gc (j*5+4) y.val/\xk w' gc (i*5) x.row/\xk w' gc (i*5) x.row/\xk w' gc (i*5+1) x.fam/\xk w' gc (i*5+2) x.qual/\xk w' gc (i*5+3) (xu x.ts)/\xk w' gc (i*5+4) x.val) X):=λX h k=>by obtain⟨_,_,e0,e1,e2,e3,e4,_⟩:=HSS.out X _ _ _ _ _ _ h;obtain⟨d0,d1,d2,d3,d4⟩:=HM.1.at j y hy;simp only[Nat.zero_add]at d0 d1 d2 d3 d4;have hb:=h.below;exact⟨k.cell (j:=2) rfl,k.cell (j:=3) rfl,e0,e1,e2,e3,e4,by rw[hb.cell (p:=(xd gc _)) hgl];exact d0,by rw[hb.cell (p:=(xd gc _)) hgl];exact d1,by rw[hb.cell (p:=(xd gc _)) hgl];exact d2,by rw[hb.cell (p:=(xd gc _)) hgl];exact d3,by rw[hb.cell (p:=(xd gc _)) hgl];exact d4,e0,e0,e1,e2,e3,e4⟩
   have hS0:=HST.out _ HD.1 HD.2;obtain⟨sk,hsk⟩:=qE (yAz it.hint x y);have HSk:Hid (sk=yAz it.hint x y):=hsk;have HCs:Hid (∀X:World,(xf 60 #[.agg #[xi it.hint.rank,it.hint.txt],.agg #[x.row,x.fam,x.qual,xu x.ts,x.val],.agg #[y.row,y.fam,y.qual,xu y.ts,y.val]] X sk:Prop)):=λX=>by rw[hsk];exact yV0 it.hint x y X
   clear hy hsk;go_upto_region 15 with fail;refine yAf 99 (λw':World=>xk w' wo 2 (xi it.hint.rank)/\xk w' wo 3 it.hint.txt/\xk w' gc (i*5) x.row/\xk w' gc (i*5+1) x.fam/\xk w' gc (i*5+2) x.qual/\xk w' gc (i*5+3) (xu x.ts)/\xk w' gc (i*5+4) x.val/\xk w' gc (j*5) y.row/\xk w' gc (j*5+1) y.fam/\xk w' gc (j*5+2) y.qual/\xk w' gc (j*5+3) (xu y.ts)/\xk w' gc (j*5+4) y.val/\xk w' gc (i*5) x.row/\xk w' gc (i*5) x.row/\xk w' gc (i*5+1) x.fam/\xk w' gc (i*5+2) x.qual/\xk w' gc (i*5+3) (xu x.ts)/\xk w' gc (i*5+4) x.val) (by kernel_rfl) ?_;refine ja 0 hS0 ?_;iterate 14 refine jb hS0 ?_
   refine qO 15 rfl λK hK=>?_;go_simp;refine(HCs.out _).mono ?_;rintro e wx ⟨rfl,hb5⟩;have HW5:Hid (RnJ w (.slice ua ul uc) (.slice (some ⟨bI,oI,none⟩) N cI) m.cnt ob nk out a n c ops gk cpk cs' wx/\yA wx w 115 4 wo it.four):=⟨HD.1.on hb5,HD.2.below hb5⟩;have hS5:=HST.out _ HW5.1 HW5.2;clear hb5 hS0;refine hK.out _ _ (.inr hS5) ?_;clear hK;refine jS ?_;refine jb hS5 ?_;refine qD ?_;cases hb:sk
   .have HXw:Hid (RnJ w (.slice ua ul uc) (.slice (some ⟨bI,oI,none⟩) N cI) m.cnt ob nk out a n c ops gk cpk cs' wx):=HW5.1;have HEn:Hid (∀e,es[j]?=some e->yAz it.hint x e=false):=λe he=>by rw[HY.out]at he;cases he;rw[<-HSk.out];exact hb
    clear hS5 HD HI;exact zSpX
   .have HKn:Hid (∀(k:Nat) (e:Ent),i+1<=k->k<j+1->es[k]?=some e->yAz it.hint x e=true):=λk e h1 h2 h3=>by
     by_cases hkj:k=j
     .subst hkj;rw[HY.out]at h3;cases h3;rw[<-HSk.out];exact hb
     .exact HK.out k e h1 (by omega) h3
    clear hS5 HD HI;refine zY ?_;exact⟨j+1,by omega,by omega,by go_num,HKn.out,HW5.out⟩
  .have zj:¬(j:Int)<(M:Int):=by omega
   have hd:decide ((j:Int)<(M:Int))=false:=by simp;omega
   have hS0:=HSS.out _ _ _ _ _ _ _ HD.1;go_upto_region 15 with fail;refine yAf 99 (λw':World=>xk w' w 1 (.slice (some ⟨bI,oI,none⟩) N cI)/\xk w' w 2 (xi m.cnt)/\xk w' gc (i*5) x.row/\xk w' gc (i*5+1) x.fam/\xk w' gc (i*5+2) x.qual/\xk w' gc (i*5+3) (xu x.ts)/\xk w' gc (i*5+4) x.val/\xk w' w 2 (xi m.cnt)) (by kernel_rfl) ?_;generalize wr.drew=wx at HD hS0⊢;refine ja 0 hS0 ?_;iterate 16 refine jb hS0 ?_
   refine qD ?_;have HXw:Hid (RnJ w (.slice ua ul uc) (.slice (some ⟨bI,oI,none⟩) N cI) m.cnt ob nk out a n c ops gk cpk cs' wx):=HD.1;have HEn:Hid (∀e,es[j]?=some e->yAz it.hint x e=false):=λe he=>qv (qf he) HM.2.1
   clear hS0 HD HI;exact zSpX):p:=h
theorem zSpL (h:p:=by
 obtain⟨x,hx⟩:∃x,es[i]?=some x:=qg (qw HM.2.1);have HXi:Hid (es[i]?=some x):=hx;have HSS:Hid (∀(X:World) (out:List Ent) (a:Option Addr) (n c ops:Nat) (cs:List Ctr),RnJ w (.slice ua ul uc) (.slice (some ⟨bI,oI,none⟩) N cI) m.cnt ob nk out a n c ops gk cpk cs X->(λw':World=>xk w' w 1 (.slice (some ⟨bI,oI,none⟩) N cI)/\xk w' w 2 (xi m.cnt)/\xk w' gc (i*5) x.row/\xk w' gc (i*5+1) x.fam/\xk w' gc (i*5+2) x.qual/\xk w' gc (i*5+3) (xu x.ts)/\xk w' gc (i*5+4) x.val/\xk w' w 2 (xi m.cnt)) X):=λX out a n c ops cs h=>by obtain⟨e0,e1,e2,e3,e4⟩:=HM.1.at i x hx;simp only[Nat.zero_add]at e0 e1 e2 e3 e4;have hb:=h.below;exact⟨h.box.cell (j:=1) rfl,h.box.cell (j:=2) rfl,by rw[hb.cell (p:=(xd gc _)) hgl];exact e0,by rw[hb.cell (p:=(xd gc _)) hgl];exact e1,by rw[hb.cell (p:=(xd gc _)) hgl];exact e2,by rw[hb.cell (p:=(xd gc _)) hgl];exact e3,by rw[hb.cell (p:=(xd gc _)) hgl];exact e4,h.box.cell (j:=2) rfl⟩
 obtain⟨W2,hW2⟩:=qW (xw wo #[false,false,xi 0,xe] 115);have HW2:Hid (RnJ w (.slice ua ul uc) (.slice (some ⟨bI,oI,none⟩) N cI) m.cnt ob nk out a n c ops gk cpk cs W2.drew/\yA W2.drew w 115 4 wo (yBl noH).four):=by
  have k2:=qN hW2
  have b2:yA W2 w 115 4 wo (yBl noH).four:=by rw[hW2];exact yAa wo _ HJ.1.below.size rfl
  exact⟨(HJ.1.on k2).on ((Below.refl _ _).drew),b2.below ((Below.refl _ _).drew)⟩
 have hS0:=HSS.out _ _ _ _ _ _ _ HW2.1;clear hx;go_upto_region 10 with fail;rw[<-hW2];clear hW2;refine yAf 99 (λw':World=>xk w' w 1 (.slice (some ⟨bI,oI,none⟩) N cI)/\xk w' w 2 (xi m.cnt)/\xk w' gc (i*5) x.row/\xk w' gc (i*5+1) x.fam/\xk w' gc (i*5+2) x.qual/\xk w' gc (i*5+3) (xu x.ts)/\xk w' gc (i*5+4) x.val/\xk w' w 2 (xi m.cnt)) (by kernel_rfl) ?_;generalize W2.drew=WD at HW2 hS0⊢;refine ja 0 hS0 ?_;iterate 6 refine jb hS0 ?_
 obtain⟨W3,hW3⟩:=qW (xw WD #[] 4);have HW3:Hid (RnJ w (.slice ua ul uc) (.slice (some ⟨bI,oI,none⟩) N cI) m.cnt ob nk out a n c ops gk cpk cs W3/\yA W3 w 115 4 wo (yBl noH).four):=by
  have k3:=qN hW3
  exact⟨HW2.1.on k3,HW2.2.below k3⟩
 have hS3:=HSS.out _ _ _ _ _ _ _ HW3.1;have HLk:Hid (Calls prog 58 #[.agg #[.slice (some ⟨bI,oI,none⟩) N cI,xi m.cnt],.agg #[x.row,x.fam,x.qual,xu x.ts,x.val],xg gk nk cpk,xg WD 0 0] W3 λe w'=>∃(i:It) (cs':List Ctr),e=.returned (.tuple #[i.v,xg gk nk cpk])/\Hid (LkR pfxB m.l x [] ⟨0,[newI],cs⟩ (i,cs')/\cs'.length=nk/\yF0 w' w gk cpk cs'/\(∀k∈cs',0<=k.count/\k.count<=1000)/\Chg (λk=>k=gk) W3 w')):=by have h9:RwO ⟨w,m.l,N,bI,oI,cI,m.cnt,0,[],some ⟨WD,0,none⟩,0,nk⟩:=HQ.out _;exact h9.look qr HW3.1.below HW3.1.ctr HW3.1.len HW3.1.cb x 0
 refine qO 7 rfl λK hK=>?_;go_simp;rw[<-hW3];refine hK.out _ _ (.inr hS3) ?_;clear hK hW3 hS0;refine jS ?_;refine qO 8 rfl λK hK=>?_;go_simp;refine HLk.mono ?_;rintro e w3 ⟨it,cs',rfl,H3⟩;have HW3b:Hid (RnJ w (.slice ua ul uc) (.slice (some ⟨bI,oI,none⟩) N cI) m.cnt ob nk out a n c ops gk cpk cs' w3/\yA w3 w 115 4 wo (yBl noH).four):=by
  obtain⟨k1,k2,k3,k4,k5⟩:=H3.out;have hgi:¬wo.heap.size=gk:=qw HJ.1.ctr.lt
  exact⟨HW3.1.ctrs k3 k2 k4 k5,HW3.2.chg k5 hgi⟩
 have HL:Hid (LkR pfxB m.l x [] ⟨0,[newI],cs⟩ (it,cs')):=H3.1;have hS4:=HSS.out _ _ _ _ _ _ _ HW3b.1;clear H3 HW2 HW3 hS3 HLk;refine hK.out _ _ (.inr hS4) ?_;clear hK;refine jS ?_;iterate 3 refine jb hS4 ?_
 obtain⟨W4,hW4⟩:=qW (setCs w3 wo 0 it.four);have HW4:Hid (RnJ w (.slice ua ul uc) (.slice (some ⟨bI,oI,none⟩) N cI) m.cnt ob nk out a n c ops gk cpk cs' W4/\yA W4 w 115 4 wo it.four):=by obtain⟨q1,q2⟩:=yEo HW3b.2 hW4;have l2:=HJ.1.ctr.lt;have l4:=HJ.1.obx.lt;have l5:=HJ.1.res.lt;exact⟨HW3b.1.side ⟨by omega,by omega,by omega,λq=>qw ((HJ.1.row.blk q).2)⟩ q2,q1⟩
 have hS5:=HSS.out _ _ _ _ _ _ _ HW4.1;obtain⟨v0,v1,v2,v3⟩:=HW3b.2.c4;obtain⟨f0,f1,f2,f3⟩:=HW3b.2.f4;simp only[setCs,Nat.zero_add,Nat.reduceAdd]at hW4;refine qO 12 rfl λK hK=>?_;go_simp;rw[<-hW4];refine hK.out _ _ (.inr hS5) ?_;clear hK hW4 hS4 v0 v1 v2 v3 f0 f1 f2 f3;refine jS ?_;refine kO 13 hS5 ?_;refine qD ?_;obtain⟨jn,hjn⟩:=qE (if it.alive=false/\hints=true then i+1+((es.drop (i+1)).takeWhile (yAz it.hint x)).length else i+1);have HN:Hid (∀o k,MvR m.l hints (es.drop jn) cs' o k->MvR m.l hints es (List.replicate nk newC) ((if it.alive=true then out++ [yB it x]else out)++o) (ops+1+k)):=MvR.step HJ.2 HXi.out HL.out hjn;rw[hjn]at HN;have p0:=HW4.2.cell (j:=0) rfl;have zi:IntKind.i64.wrap ((i:Int)+1)=(i:Int)+1:=by rw[IntKind.wrap_i64];omega
 clear hjn hS5;cases hal:it.alive
 .rw[hal]at p0;cases hints
  .exact zSpD
  .exact zSpH
 .rw[hal]at p0;exact zSpA):p:=h
theorem zSpZ (h:p:=by
 obtain⟨v0,v1,v2⟩:=HX.1.c3;obtain⟨f0,f1,f2⟩:=HX.1.f3;obtain⟨W9,hW9⟩:=qE (setCs wo (w+1) 0 [true,.slice a n c,xi ops]:World);have b9:yA W9 w 39 3 (w+1) [true,.slice a n c,xi ops]:=by rw[hW9];exact HX.1.setCs _
 have HE:Hid (∃out,n=out.length/\RunM bs m es hints true out ops/\RowC W9 w (.slice a n c) out/\Below w w W9):=HX.2 W9 (by rw[hW9];exact yAl (S:=λq=>q=w.heap.size+1) _ rfl _ _ _);obtain⟨q0,q1,q2⟩:=b9.c3;simp only[setCs,Nat.zero_add,Nat.reduceAdd]at hW9;clear b9;go_wp2_with fail;rw[<-hW9];exact bodyPost_ret (v:=.agg #[true,.slice a n c,xi ops]) (by simp[results,results18,go_sem,q0,q1,q2]) rfl ⟨true,a,n,c,ops,rfl,HE⟩):p:=h
theorem yPe {ua:Option Addr} {ul uc:Nat} (hU:yCg w (.slice ua ul uc) bs) (hok:∀x∈bs,x.ok) (hm:yAy w m.v m.l) (hmo:m.ok) {bc cc:Nat} (hC:OwnC w bc gc cc es) (hoe:∀e∈es,e.ok) (hk:∀e∈es,e.kind=0) (hl:es.length<=1048576) (hints:Bool) {M:Nat} (hM:M=es.length):
  Calls prog 18 #[.agg #[.slice ua ul uc,m.v,xi m.cnt],xg gc M cc,hints] w (RunP bs m es hints w):=by
 obtain⟨va,vn,vc,a2,an⟩:=hm.one;clear an;have a4:ul=bs.length:=by
  rcases hU with⟨_,_,q,rfl⟩|⟨_,_,_,q,_⟩
  .cases q;rfl
  .cases q;rfl
 have HM:Hid (OwnC w bc gc cc es/\M=es.length/\(∀e∈es,e.ok)/\(∀e∈es,e.kind=0)/\yCg w (.slice ua ul uc) bs/\yAy w m.v m.l/\ul=bs.length):=⟨hC,hM,hoe,hk,hU,hm,a4⟩;obtain⟨W0,a6⟩:=qW (xw (w.alloc (Obj.cells #[.slice ua ul uc,.slice va vn vc,xi m.cnt] 34)) #[false,xh,xi 0] 39);have H0:Hid (yA W0 w 34 3 w [.slice ua ul uc,.slice va vn vc,xi m.cnt]/\yA W0 w 39 3 (w+1) [false,xh,xi 0]/\Below w w W0):=by
  obtain⟨X,hX⟩:=qW (xw w #[.slice ua ul uc,.slice va vn vc,xi m.cnt] 34);rw[<-hX]at a6;have zx:=qS hX
  have k1:=qN hX
  have k2:=qN a6
  have b1:yA X w 34 3 w [.slice ua ul uc,.slice va vn vc,xi m.cnt]:=by rw[hX];exact yAa w _ qr rfl
  have b2:yA W0 w 39 3 (w+1) [false,xh,xi 0]:=by rw[a6,<-zx];exact yAa X _ (by omega) rfl
  exact⟨b1.below k2,b2,k1.trans (k2.mono (by omega))⟩
 have HF:Hid (Calls prog 13 #[.agg #[.slice ua ul uc,.slice va vn vc,xi m.cnt]] W0 (yH3 (yCn bs m) W0)):=by rw[<-a2];exact yI7 _ bs m W0 (hU.below H0.2.2) hok (hm.below H0.2.2 qr) hmo
 have HV:Hid (∀wx,Below w w wx->Calls prog 9 #[xg gc M cc] wx (yH0 (yC es) wx)):=λwx hx=>by have h9:=yLd gc cc es bc wx (hC.below hx hC.lt.2) hoe hl;rw[yNr hk]at h9;rw[hM];exact h9
 have hgl:=hC.lt.2;rw[a2];have az:Hid (m.v=.slice va vn vc):=a2;clear hU hok hm hmo hC hoe hk a2 hM hl a4;obtain⟨c0,c1,c2⟩:=H0.1.c3;go_enter func18,ntmps18;go_upto_region 1 with fail;rw[<-a6];clear a6;go_wp2_with fail;refine HF.mono ?_;rintro e w1 ⟨r,rfl,hr,aa⟩;have a1:Hid ((r=true↔yCn bs m)/\yA w1 w 34 3 w [.slice ua ul uc,.slice va vn vc,xi m.cnt]/\yA w1 w 39 3 (w+1) [false,xh,xi 0]/\Below w w w1):=⟨hr,H0.1.below aa,H0.2.1.below aa,H0.2.2.trans (aa.mono H0.2.2.size)⟩;clear hr aa HF c0 c1 c2 H0;cases r
 case false=>
  obtain⟨wx,hwx⟩:=qW w1;have HX:Hid (yA wx w 39 3 (w+1) [false,xh,xi 0]/\¬(yCn bs m/\yC es)/\Below w w wx):=by rw[hwx];exact⟨a1.2.2.1,λq=>Bool.noConfusion (a1.1.2 q.1),a1.2.2.2⟩
  rw[<-hwx];clear hwx a1;as_aux_lemma=>exact zSpF
 case true=>
 have ak:Hid (Calls prog 9 #[xg gc M cc] w1 (yH0 (yC es) w1)):=HV.out w1 a1.2.2.2;go_wp2_with fail;refine ak.mono ?_;rintro e w2 ⟨r2,rfl,af,hb2⟩;have a0:Hid ((r2=true↔yC es)/\yCn bs m/\yA w2 w 34 3 w [.slice ua ul uc,.slice va vn vc,xi m.cnt]/\yA w2 w 39 3 (w+1) [false,xh,xi 0]/\Below w w w2):=⟨af,(by have h9:=a1.1;simpa using h9),a1.2.1.below hb2,a1.2.2.1.below hb2,a1.2.2.2.trans (hb2.mono a1.2.2.2.size)⟩;clear af hb2 ak HV a1;cases r2
 case false=>
  obtain⟨wx,hwx⟩:=qW w2;have HX:Hid (yA wx w 39 3 (w+1) [false,xh,xi 0]/\¬(yCn bs m/\yC es)/\Below w w wx):=by rw[hwx];exact⟨a0.2.2.2.1,λq=>Bool.noConfusion (a0.1.2 q.2),a0.2.2.2.2⟩
  rw[<-hwx];clear hwx a0;as_aux_lemma=>exact zSpF
 case true=>
 have a3:yCn bs m:=a0.2.1;have a5:yC es:=by have h9:=a0.1;simpa using h9
 obtain⟨bI,oI,N,cI,a2,hN,hI,a9,a8⟩:∃bI oI N cI,m.v=.slice (some ⟨bI,oI,none⟩) N cI/\N=m.l.length/\yB5 w bI oI m.l/\bI<w.heap.size/\N<=cI/\cI<=maxLen:=by
  rcases HM.2.2.2.2.2.1 with⟨_,_,_,q⟩|⟨b,off,cap,q1,q2,q3,q4,q5⟩
  .have:=a3.2.1.1;rw[q]at this;simp at this
  .exact⟨b,off,_,cap,q1,rfl,q2,q3,q4,q5⟩
 obtain⟨rfl,rfl,rfl⟩:va=some ⟨bI,oI,none⟩/\vn=N/\vc=cI:=by have h9:=az.out;rw[a2]at h9;simp only[Value.slice.injEq]at h9;exact⟨h9.1.symm,h9.2.1.symm,h9.2.2.symm⟩
 have HQ:Hid (∀ca:Option Addr,bs= []->RwO ⟨w,m.l,vn,bI,oI,vc,m.cnt,0,[],ca,0,m.cnt.toNat⟩):=λca hb=>by have hg:=a3.2.1;rw[hb]at hg;exact {good:=hg,nc:=Nat.le_refl _,nC:=rfl,N:=hN,nk:=by show((m.cnt.toNat:Nat):Int)=m.cnt;have:=hg.2.2.1;omega,ins:=hI,bIl:=a9,cI:=a8,cnd:=λi b hi=>by simp at hi}
 have aw:M<=10000:=qv a5.1.1 HM.2.1
 obtain⟨c0,c1,c2⟩:=a0.2.2.1.c3;by_cases hbe:bs= []
 .have aq:¬(0:Int)<(ul:Int):=by rw[HM.2.2.2.2.2.2,hbe];simp
  obtain⟨nk,ad⟩:=qE m.cnt.toNat;have al:Hid (∀ca:Option Addr,RwO ⟨w,m.l,vn,bI,oI,vc,m.cnt,0,[],ca,0,nk⟩):=λca=>by rw[ad];exact HQ.out ca hbe
  have a7:Hid (∀out n,MvR m.l hints es (List.replicate nk newC) out n->RunM bs m es hints true out n):=λout n h=>.inr ⟨⟨a3,a5⟩,rfl,.inr ⟨hbe,by rw[<-ad];exact h⟩⟩;have ar:nk<=1000:=qw a3.2.1.2.2.2.1
  have ay:Hid (m.cnt=(nk:Int)):=by have:=a3.2.1.2.2.1;show _=_;omega
  obtain⟨W5,ab⟩:=qW (xw w2 #[true,xh,xi 0] 39);have H5:Hid (yA W5 w 34 3 w [.slice ua ul uc,.slice (some ⟨bI,oI,none⟩) vn vc,xi m.cnt]/\yA W5 w 39 3 (w+1) [false,xh,xi 0]/\yA W5 w 39 3 w2 [true,xh,xi 0]/\Below w w W5):=by
   obtain⟨_,_,h1,h2,h3⟩:=a0.out;have k5:=qN ab
   exact⟨h1.below k5,h2.below k5,by rw[ab];exact yAa w2 _ h3.size rfl,h3.trans (k5.mono h3.size)⟩
  have ah:w.heap.size+1<w2.heap.size:=a0.2.2.2.1.lt.2;clear a3 a5 HQ hI a9 a8 hN a2 ad hbe;go_upto_region 6 with fail;rw[<-ab];clear ab c0 c1 c2;have c2:=H5.1.cell (j:=2) rfl;go_wp2_with fail;rw[ay.out];refine(yMm nk W5 ar).mono ?_;rintro e w6 ⟨gk,cpk,rfl,ai,hb6⟩;obtain⟨ob,ac⟩:=qE w2;have H6:Hid (RnJ w (.slice ua ul uc) (.slice (some ⟨bI,oI,none⟩) vn vc) m.cnt ob nk [] none 0 0 0 gk cpk (List.replicate nk newC) w6):=by obtain⟨h1,h2,h3,h4⟩:=H5.out;rw[ac];exact⟨h1.below hb6,h2.below hb6,h3.below hb6,yGq _ _,rfl,ai.mono h4.size,by simp,λk hk=>by rw[eq_of_mem_replicate hk];exact⟨Int.le_refl _,by decide⟩,ah,h4.trans (hb6.mono h4.size)⟩
  rw[<-ac];clear ai hb6 c2 H5 a0 ah ac;go_wp2;go_loopw[8,9] (λcv iv wr=>∃(i ops gk cpk:Nat) (out:List Ent) (a:Option Addr) (n c:Nat) (cs:List Ctr),i<=M/\ops<=i/\n<=ops/\cv=(xg gk nk cpk)/\iv=(xi i)/\Hid (RnJ w (.slice ua ul uc) (.slice (some ⟨bI,oI,none⟩) vn vc) m.cnt ob nk out a n c ops gk cpk cs wr/\∀o k,MvR m.l hints (es.drop i) cs o k->MvR m.l hints es (List.replicate nk newC) (out++o) (ops+k))) (λ_ iv _=>M-(intOf iv).toNat);case atStart=>exact⟨0,0,gk,cpk,[],none,0,0,List.replicate nk newC,zero_le _,Nat.le_refl _,Nat.le_refl _,rfl,rfl,H6.out,λo k h=>by simpa using h⟩
  case round=>
   clear H6;obtain⟨i,ops,gk,cpk,out,a,n,c,cs,hi,aB,aC,rfl,rfl,HJ⟩:=hrel;obtain⟨wo,am⟩:=qW wr;subst am;obtain⟨N,av⟩:=qE vn;subst av;obtain⟨cI,au⟩:=qE vc;subst au;have HQ:=al;by_cases hlt:i<M
   .have z:(i:Int)<(M:Int):=by omega
    have aD:n<=10000:=by omega
    as_aux_lemma=>exact zSpL
   .have z:¬(i:Int)<(M:Int):=by omega
    have HX:Hid (yA wo w 39 3 (w+1) [false,xh,xi 0]/\(∀X:World,Chg (λq=>q=w.heap.size+1) wo X->∃out,n=out.length/\RunM bs m es hints true out ops/\RowC X w (.slice a n c) out/\Below w w X)):=by have hj:=HJ.1;refine⟨hj.res,λX hX=>⟨out,hj.nl,a7.out _ _ (MvR.done HJ.2 (qw HM.2.1)),hj.row.chg hX (λq hq z=>yAb hj.row hj.res (by decide) _ hq (by rw[z];rfl)),Chg.below hj.below hX hj.below.size (λq z=>by omega)⟩⟩
    obtain⟨t0,t1,t2⟩:=HJ.1.obx.c3;clear HJ a7 HQ al;as_aux_lemma=>exact zSpZ
 .have aq:(0:Int)<(ul:Int):=qv HM.2.2.2.2.2.2 (List.length_pos_iff.2 hbe)
  obtain⟨ub,uo,ao,aj,a4⟩:∃ub uo,ua=some ⟨ub,uo,none⟩/\yK0 w ub uo bs/\ub<w.heap.size:=by
   rcases HM.2.2.2.2.1 with⟨_,_,_,q⟩|⟨b,off,cap,q1,q2,q3,q4,q5⟩
   .exact absurd q hbe
   .simp only[Value.slice.injEq]at q1;exact⟨b,off,q1.1,q2,q3⟩
  subst ao;have hb2:=a0.2.2.2.2;have aA:Hid (Calls prog 56 #[.agg #[.slice (some ⟨ub,uo,none⟩) ul uc,.slice (some ⟨bI,oI,none⟩) vn vc,xi m.cnt],xg gc M cc] w2 λe w'=>∃a n c,e=.returned (.agg #[true,.slice a n c,xi M])/\Hid (∃out,n=out.length/\RwsR m.vw (bs.map Bk.vw) ((allC es 0).map (segE es)) out/\RowC w' w2 (.slice a n c) out/\Below w2 w2 w')):=by
   refine yOb ⟨w2,bs,m,ul,ub,uo,uc,vn,bI,oI,vc,gc,0,cc,es,M,allC es 0⟩ ⟨a3,?_,?_,HM.2.2.2.2.2.2,a2,hN,?_,?_,a8,?_,HM.2.1,aw,rfl,λp hp=>yQ1 es _ 0 p hp⟩
   .intro k x hx;obtain⟨h1,h2,h3⟩:=aj k x hx;exact⟨by rw[hb2.cell (p:=(xd ub _)) a4];exact h1,by rw[hb2.cell (p:=(xd ub _)) a4];exact h2,h3.below hb2 qr⟩
   .have:=hb2.size;show ub<w2.heap.size;omega
   .exact hI.below hb2 a9
   .have:=hb2.size;show bI<w2.heap.size;omega
   .exact(HM.1.below hb2 hgl).sl
  have a7:Hid (∀out,RwsR m.vw (bs.map Bk.vw) ((allC es 0).map (segE es)) out->RunM bs m es hints true out M):=λout h=>.inr ⟨⟨a3,a5⟩,rfl,.inl ⟨hbe,h,HM.2.1⟩⟩;clear a3 a5 HQ hI a9 a8 hN a2 aj a4 hb2 hbe;go_wp2_with fail;refine aA.mono ?_;rintro e wo ⟨a,n,c,rfl,H3⟩;have HX:Hid (yA wo w 39 3 (w+1) [false,xh,xi 0]/\(∀X:World,Chg (λq=>q=w.heap.size+1) wo X->∃out,n=out.length/\RunM bs m es hints true out M/\RowC X w (.slice a n c) out/\Below w w X)):=by
   obtain⟨out,h1,h2,h3,h4⟩:=H3.out;obtain⟨_,_,_,k2,k3⟩:=a0.out;have hr:=k2.below h4;have hb:Below w w wo:=k3.trans (h4.mono k3.size);have ae:RowC wo w (.slice a n c) out:=by
    rcases h3.cases with⟨q1,q2⟩|⟨g,cp,q1,q2⟩
    .rw[q1,q2];exact yGq _ _
    .rw[q1];exact q2.mono k3.size
   exact⟨hr,λX hX=>⟨out,h1,a7.out _ h2,ae.chg hX (λq hq z=>yAb ae hr (by decide) _ hq (by rw[z];rfl)),Chg.below hb hX hb.size (λq z=>by omega)⟩⟩
  obtain⟨ops,ag⟩:=qE M;rw[<-ag]at HX⊢;clear H3 a7 a0 ag c0 c1 c2;as_aux_lemma=>exact zSpZ
end
def yXj (js:List Nat) (w:World) (r:Ending) (w':World):Prop:=∃g,r=.returned (xg g js.length js.length)/\(∀(i j:Nat),js[i]?=some j->(xk w' g i (xi j):Prop))/\w.heap.size<=g/\g<w'.heap.size/\Below w w w'
theorem yXv (x:Ix) (k:Nat) w (hk:k<=1000000) (hb:(x.op=5∨x.op=6)->0<=x.b):Calls prog 167 #[x.v,xi k] w (yXj (ways k x) w):=by
 obtain⟨op,a,b,free,⟨kind,s,hi,t,lo,up,nn⟩⟩:=x;simp only at hb;obtain⟨js,a1⟩:=qE (ways k ⟨op,a,b,free,⟨kind,s,hi,t,lo,up,nn⟩⟩);rw[<-a1];have HJ:=qH1 a1;clear a1;obtain⟨W0,a0⟩:=qE (xw w #[xi op,xi a,xi b,free,xi kind,s,hi,t,xu lo,xu up,xi nn] 153:World);have a6:=qN a0
 have a2:=qS a0
 obtain⟨c0,c2⟩:xk W0 w 0 (xi op)/\xk W0 w 2 (xi b):=by rw[a0];exact⟨by simp,by simp⟩
 have a7:IntKind.i64.wrap ((k:Int)+1)=(k:Int)+1:=by rw[IntKind.wrap_i64];omega
 have HA:Hid (∀(vs:List Int),vs=js.map (λj:Nat=>(j:Int))->yXj js w (.returned (xg (w+1) js.length js.length)) (xw W0 (vs.map λd=>Value.int .i64 d).toArray 3)):=by
  intro vs a3;have a5:Below W0 W0 (xw W0 (vs.map λd=>Value.int .i64 d).toArray 3):=qB;refine⟨w+1,rfl,λi j hj=>?_,qo,by rw[<-a2];simp,a6.trans (a5.mono qo)⟩;have h1:(vs.map λd=>Value.int .i64 d)[i]?=some (.int .i64 (j:Int)):=by rw[a3,getElem?_map,getElem?_map,hj];rfl
  rw[<-a2];simp[h1]
 go_enter func167,ntmps167;go_upto_region 1 with fail;rw[<-a0];clear a0;by_cases h5:op=5
 .subst h5;have hj:js= [k+1,b.toNat]:=by rw[HJ.out];rfl
  have a4:=hb (.inl rfl);have H:Hid (yXj js w (.returned (.slice (some ⟨w.heap.size+1,0,none⟩) 2 2)) (W0.alloc (Obj.cells #[.int .i64 ((k:Int)+1),.int .i64 b] 3))):=by have:=HA.out [(k:Int)+1,b] (by rw[hj];simp;omega);rw[hj]at this⊢;exact this
  clear hj hb;go_wp2_with fail;go_ret;exact H.out
 by_cases h6:op=6
 .subst h6;have hj:js= [b.toNat]:=by rw[HJ.out];rfl
  have a4:=hb (.inr rfl);have H:Hid (yXj js w (.returned (.slice (some ⟨w.heap.size+1,0,none⟩) 1 1)) (W0.alloc (Obj.cells #[.int .i64 b] 3))):=by have:=HA.out [b] (by rw[hj];simp;omega);rw[hj]at this⊢;exact this
  clear hj hb;go_wp2_with fail;go_ret;exact H.out
 have hj:js= [k+1]:=by rw[HJ.out];simp[ways,h5,h6]
 have H:Hid (yXj js w (.returned (.slice (some ⟨w.heap.size+1,0,none⟩) 1 1)) (W0.alloc (Obj.cells #[.int .i64 ((k:Int)+1)] 3))):=by have:=HA.out [(k:Int)+1] (by rw[hj];simp);rw[hj]at this⊢;exact this
 clear hj hb;go_wp2_with fail;go_ret;exact H.out
theorem Tryz.infoInt:(prog.info? 3).map (λi=>(i.zero,i.size,i.bytes))=some (some (.int .i64 0),1,8):=qk
theorem yWm (n:Nat):(madeCells #[xi 0] n).toList=(List.replicate n (0:Int)).map λd=>Value.int .i64 d:=by
 apply ext_getElem?;intro j;by_cases hj:j<n
 .rw[getElem?_map,getElem?_replicate,if_pos hj];simp[madeCells,hj,mod_one]
 .rw[getElem?_map,getElem?_replicate,if_neg hj];simp[madeCells,hj]
variable {d:Int} {ds:List Int}
theorem yM {js:List Nat} {ds':List Int} {m j:Nat} (h:yB1 d (js.take m) ds=some ds') (hj:js[m]?=some j):yB1 d (js.take (m+1)) ds=note ds' j d:=by
 have a0:∀(xs:List Nat) (es:List Int),yB1 d (xs++ [j]) es=(yB1 d xs es).bind λe=>note e j d:=by
  intro xs;induction xs with
  |nil=>intro es;simp[yB1]
  |cons x xs ih=>
   intro es;simp only[cons_append,yB1];cases note es x d with
   |none=>rfl
   |some e=>simp[ih]
 rw[take_add_one,hj];simp only[Option.toList];rw[a0,h];rfl
theorem yWd {js:List Nat} {m:Nat} (h:yB1 d (js.take m) ds=none):yB1 d js ds=none:=by
 have a0:∀(xs ys:List Nat) (es:List Int),yB1 d xs es=none->yB1 d (xs++ys) es=none:=by
  intro xs;induction xs with
  |nil=>intro ys es q;simp[yB1]at q
  |cons x xs ih=>
   intro ys es q;simp only[cons_append,yB1]at q⊢;cases hn:note es x d with
   |none=>rfl
   |some e=>
    rw[hn]at q;exact ih ys e q
 have:=a0 (js.take m) (js.drop m) ds h;rw[take_append_drop]at this;exact this
variable {k:Nat} {x:Ix}
theorem yNa {e:Int} (h:ds[k]?=some e) (hl:¬e<least x.op) (hd:d=e+more x.op) (h2:¬250<d):yC2 ds k x=yB1 d (ways k x) ds:=by subst hd;rw[yFn h,if_neg qo]
theorem yX3 {e:Int} (h:ds[k]?=some e) (hd:d=e+more x.op) (h2:250<d):yC2 ds k x=none:=by subst hd;rw[yFn h,if_pos (.inr h2)]
def xCg (l:List Ix):Prop:=∃ds,yC6 l l.length=some ds/\ds[l.length]?=some 1
theorem yG4 {l:List Ix} (h:yC6 l k=some ds) (hx:l[k]?=some x) (hs:yC2 ds k x=none):¬xCg l:=by
 rintro⟨d,h1,_⟩;have h2:yC6 l (k+1)=none:=by rw[yD3 h hx,hs]
 rw[yQt h2 (by have:=qf hx;omega)]at h1;cases h1
variable {p:Prop}
theorem zVr (h:p:=by exact zR k3w):p:=h
theorem zVl (h:p:=by have HG:Hid (¬P):=λq=>yG4 HJ.1 HX.out (yN HD.out (by simp[least];omega)) (HP.1 q);exact zVr):p:=h
theorem zVq (h:p:=by
 go_wp2_with fail;refine HWy.mono ?_;rintro e w4 ⟨gw,rfl,hcw,hgw1,hgw2,hb4⟩;have hgne:¬gw=W0.heap.size:=by have:=HO3.lt.2;omega
 have HCw:=qH1 hcw;have HO4:=qH1 (HO3.below hb4);have kw4:=kw3.trans (hb4.mono kw3.size);have hjl:=HJS.2.1;clear hcw x0 x1 x2 x3 x4 x5 x6 x7 x8 x9 x10 e0 e1;go_wp2_with fail;(try rw[<-hD]);clear hD;go_loopw[54] (λi wi=>∃(m:Nat) (es:List Int),m<=js.length/\i=.int .i64 m/\Hid (yB1 D (js.take m) ds=some es/\OwnZ 3 wi W0.heap.size W0.heap.size (l.length+1) es .i64/\Chg (λq=>q=W0.heap.size) w4 wi)/\Below W0.heap.size W0 wi) (λi _=>js.length-(intOf i).toNat);case atStart=>exact⟨0,ds,zero_le _,rfl,⟨rfl,HO4.out,Chg.refl _ _⟩,kw4⟩
 case round=>
  obtain⟨m,es,hm,rfl,HN,hbi⟩:=hrel;have hel:=(yNw (n:=l.length) (d:=D) qo _ ⟨HOl.out,(yHn HJ.1).ran⟩ HN.1).len;by_cases hml:m<js.length
  .have zm:(m:Int)<(js.length:Int):=qo
   obtain⟨j,hj⟩:∃j,js[m]?=some j:=⟨_,getElem?_eq_getElem hml⟩;have HJm:=qH1 hj;have hjn:=HJS.2.2 m j hj;have zj:(j:Int)<(l.length:Int)+1:=qo
   obtain⟨e',he'⟩:∃e',es[j]?=some e':=⟨_,getElem?_eq_getElem qo⟩;have HEs:=qH1 he';obtain⟨f0,f1⟩:=HN.2.1.cell he';have w0:wr.cell? (xd gw m)=some (.int .i64 (j:Int)):=by rw[HN.2.2.cell (p:=⟨gw,m,none⟩) hgw2 hgne];exact HCw.out m j hj
   clear hj he' hel;have kiw:=hb0.trans (hbi.mono qo);by_cases he0:e'=0∨e'=D
   .have HN2:Hid (yB1 D (js.take (m+1)) ds=some (es.set j D)/\OwnZ 3 (wr.setCell (xd W0.heap.size j) (.int .i64 D)) W0.heap.size W0.heap.size (l.length+1) (es.set j D) .i64/\Chg (λq=>q=W0.heap.size) w4 (wr.setCell (xd W0.heap.size j) (.int .i64 D))):=⟨by rw[yM HN.1 HJm.out,yJp HEs.out he0],HN.2.1.set j D,HN.2.2.trans (Chg.of_set _ W0.heap.size j _ rfl)⟩;have kb5:Below W0.heap.size W0 (wr.setCell (xd W0.heap.size j) (.int .i64 D)):=hbi.setCell (Nat.le_refl _) _;by_cases hez:e'=0
    .subst hez;exact xGz
    .have hed:e'=D:=qo
     have hez2:=qn hez
     exact xGz
   .have HG:Hid (¬P):=λq=>yG4 HJ.1 HX.out (by rw[HS.out];exact yWd (m:=m+1) (by rw[yM HN.1 HJm.out,yNx HEs.out he0])) (HP.1 q);have hez:¬e'=0:=λq=>he0 (.inl q);have hed:¬e'=D:=λq=>he0 (.inr q);have hez3:=bne_iff_ne.2 hez;have hed3:=bne_iff_ne.2 hed;clear he0;exact zR kiw
  .exact xIk):p:=h
theorem yK7 (x:Bk) (conds:Nat) w (h:yAy w x.v x.l) (h1:1<=x.l.length) (h2:x.l.length<=4000) (hg:∀(k:Nat) (y:Ix),x.l[k]?=some y->yCy y k x.l.length x.cnt conds):Calls prog 116 #[x.val] w (yH3 (xCg x.l) w):=by
 obtain⟨P,hP⟩:=qE (xCg x.l:Prop);rw[<-hP];obtain⟨v,cnt,l⟩:=x;simp only at h h1 h2 hg hP;have HP:Hid (P↔xCg l):=by show P↔_;rw[hP]
 have ao:Hid (∀(k:Nat) (y:Ix),l[k]?=some y->((y.op=5∨y.op=6)->(k:Int)<y.b/\y.b<=(l.length:Int))):=by intro k y hy;have:=hg k y hy;simp only[yCy]at this;omega
 obtain⟨b0,off,cap,al,HE,a2,an⟩:∃b0 off cap,v=.slice (some ⟨b0,off,none⟩) l.length cap/\Hid (yB5 w b0 off l)/\b0<w.heap.size/\(l.length<=cap/\cap<=maxLen):=by
  rcases h with⟨a,ah,hq,hl⟩|⟨b,off,ah,hq,hE,a2,h1,h2⟩
  .subst hl;simp at h1
  .exact⟨b,off,ah,hq,hE,a2,h1,h2⟩
 subst al;unfold maxLen at an;clear h hg hP;obtain⟨i,hi,a7,ad,ac⟩:=info_parts Tryz.infoInt;have HI:=qH4 hi a7 ad ac;clear hi a7 ad ac;obtain⟨W0,a6⟩:=qE (xw w #[.slice (some ⟨b0,off,none⟩) l.length cap,xi cnt] 32:World);have hb0:=qN a6
 have a7:w.heap.size<W0.heap.size:=by rw[a6];simp
 have HK:Hid (∀wx,Below W0 W0 wx->xk wx w 0 (.slice (some ⟨b0,off,none⟩) l.length cap)/\yB5 wx b0 off l):=by intro wx hx;refine⟨?_,(HE.below hb0 a2).below hx qo⟩;rw[hx.cell (p:=(xd w 0)) a7,a6];simp
 obtain⟨k0,_⟩:=HK.out W0 (Below.refl _ _);have au:IntKind.i64.wrap ((l.length:Int)+1)=(l.length:Int)+1:=by rw[IntKind.wrap_i64];omega
 go_enter func116,ntmps116;go_upto_region 1 with fail;rw[<-a6];clear a6;go_wp2_with (at_make;refine wpList_make_full _ rfl _ _ 259 rfl W0 3 i _ 1 underlying259 HI.1 HI.2.1 HI.2.2.1 _ _ _ _ (l.length+1) rfl rfl ?_ ?_ ?hb ?hm ?hs ?_);case hb=>rw[HI.2.2.2];omega
 case hm=>unfold maxLen;omega
 case hs=>exact Nat.le_refl _
 .rfl
 .rfl
 intro w1 a8 ae;rw[yWm]at a8;have aj:Hid (OwnZ 3 w1 W0 W0 (l.length+1) (List.replicate (l.length+1) 0) .i64):=by unfold Hid OwnZ;rw[length_replicate];exact a8
 have ag:=(Below.refl _ _).grown ae qr (λk hk=>by cases hk);clear a8 ae k0;obtain⟨e0,e1⟩:=aj.cell (j:=0) (d:=0) rfl;have ai:=qH1 (aj.set 0 1);have hb2:Below W0 W0 (xt w1 W0 0 (xi 1)):=ag.setCell qr _;obtain⟨k0,_⟩:=HK.out _ ag;obtain⟨W2,aa⟩:=qE (xt w1 W0 0 (xi 1):World);rw[<-aa]at ai hb2;go_upto_region 3 with fail;rw[<-aa];clear aa e0 e1 k0;obtain⟨k0,_⟩:=HK.out W2 hb2;go_wp2_with fail;go_loopw[21] (λi wr=>∃(k:Nat) (ds:List Int),k<=l.length/\i=(xi k)/\Hid (yC6 l k=some ds/\OwnZ 3 wr W0 W0 (l.length+1) ds .i64)/\Below W0 W0 wr) (λi _=>l.length-(intOf i).toNat);case atStart=>exact⟨0,_,zero_le _,rfl,⟨rfl,ai.out⟩,hb2⟩
 case round=>
  clear k0;obtain⟨k,ds,hk,rfl,HJ,hb⟩:=hrel;have a9:=(yHn HJ.1).len;obtain⟨k0,hE⟩:=HK.out wr hb;by_cases a2:k<l.length
  .have zk:(k:Int)<(l.length:Int):=qo
   have aq:(k:Int)<(l.length:Int)+1:=qo
   obtain⟨y,hy⟩:∃y,l[k]?=some y:=qg a2;obtain⟨op,a,b,free,⟨kind,s,hi,t,lo,up,nn⟩⟩:=y;have HX:=qH1 hy;have a4:=ao.out k _ hy;simp only at a4;obtain⟨c0,c1,c2,c3,c4,c5,c6,c7,c8,c9,c10⟩:=hE k _ hy;obtain⟨d,hd⟩:∃d,ds[k]?=some d:=qg qo;have HD:=qH1 hd;have hdr:=(yHn HJ.1).ran d (mem_of_getElem? hd);obtain⟨W3,a5⟩:=qE (xw wr #[xi op,xi a,xi b,free,xi kind,s,hi,t,xu lo,xu up,xi nn] 153:World);have af:=qN a5
   have ar:=qS a5
   have kw3:=hb.trans (af.mono hb.size);have k3w:=hb0.trans (kw3.mono qo);have HO3:=qH1 (HJ.2.below af);obtain⟨x0,x1,x2,x3,x4,x5,x6,x7,x8,x9,x10⟩:xk W3 wr 0 (xi op)/\xk W3 wr 1 (xi a)/\xk W3 wr 2 (xi b)/\xk W3 wr 3 free/\xk W3 wr 4 (xi kind)/\xk W3 wr 5 s/\xk W3 wr 6 hi/\xk W3 wr 7 t/\xk W3 wr 8 (xu lo)/\xk W3 wr 9 (xu up)/\xk W3 wr 10 (xi nn):=by rw[a5];refine⟨?_,?_,?_,?_,?_,?_,?_,?_,?_,?_,?_⟩<;>simp
   obtain⟨e0,e1⟩:=HO3.cell hd;obtain⟨js,a3⟩:=qE (ways k ⟨op,a,b,free,⟨kind,s,hi,t,lo,up,nn⟩⟩);have HJS:Hid (js=ways k ⟨op,a,b,free,⟨kind,s,hi,t,lo,up,nn⟩⟩/\js.length<=2/\∀(m j:Nat),js[m]?=some j->j<=l.length):=by
    refine⟨a3,?_,λm j hm=>?_⟩
    .rw[a3];unfold ways;split;simp;split<;>simp
    .have a1:=mem_of_getElem? hm;rw[a3]at a1;unfold ways at a1;split at a1
     .rename_i q;have:=a4 (.inl q);simp at a1;omega
     .split at a1
      .rename_i q;have:=a4 (.inr q);simp at a1;omega
      .simp at a1;omega
   have HWy:Hid (Calls prog 167 #[.agg #[xi op,xi a,xi b,free,xi kind,s,hi,t,xu lo,xu up,xi nn],xi k] W3 (yXj js W3)):=by rw[a3];exact yXv ⟨op,a,b,free,⟨kind,s,hi,t,lo,up,nn⟩⟩ k W3 qo (λq=>by have:=a4 q;show 0<=b;omega)
   have HOl:=qH1 a9;clear a3 a4 hE hy hd a9;go_upto_region 6 with fail;rw[<-a5];clear a5 c0 c1 c2 c3 c4 c5 c6 c7 c8 c9 c10 k0;by_cases h2o:op=2;case pos=>
    subst h2o;by_cases hlow:d<1;case pos=>exact zVl
    have HM:Hid ((d+1)=d+more 2):=by show(d+1)=d+more 2;simp[more]
    have ak:IntKind.i64.wrap (d+1)=(d+1):=by rw[IntKind.wrap_i64];omega
    by_cases a0:250<(d+1);case pos=>
     have HG:Hid (¬P):=λq=>yG4 HJ.1 HX.out (yX3 HD.out HM.out a0) (HP.1 q);exact zVr
    obtain⟨D,hD⟩:=qE (d+1);have ab:1<=D/\D<=250:=qo
    have HS:Hid (yC2 ds k ⟨2,a,b,free,⟨kind,s,hi,t,lo,up,nn⟩⟩=yB1 D js ds):=by show _=_;rw[HJS.1,hD];exact yNa HD.out (by simp[least];omega) HM.out a0
    exact zVq
   by_cases h3o:op=3;case pos=>
    subst h3o;by_cases hlow:d<2;case pos=>exact zVl
    have HM:Hid (d=d+more 3):=by show d=d+more 3;simp[more]
    have a0:¬250<d:=qo
    obtain⟨D,hD⟩:=qE d;have ab:1<=D/\D<=250:=qo
    have HS:Hid (yC2 ds k ⟨3,a,b,free,⟨kind,s,hi,t,lo,up,nn⟩⟩=yB1 D js ds):=by show _=_;rw[HJS.1,hD];exact yNa HD.out (by simp[least];omega) HM.out a0
    exact zVq
   by_cases h4o:op=4;case pos=>
    subst h4o;by_cases hlow:d<2;case pos=>exact zVl
    have HM:Hid ((d+ -1)=d+more 4):=by show(d+ -1)=d+more 4;simp[more]
    have ak:IntKind.i64.wrap (d+ -1)=(d+ -1):=by rw[IntKind.wrap_i64];omega
    have a0:¬250<(d+ -1):=qo
    obtain⟨D,hD⟩:=qE (d+ -1);have ab:1<=D/\D<=250:=qo
    have HS:Hid (yC2 ds k ⟨4,a,b,free,⟨kind,s,hi,t,lo,up,nn⟩⟩=yB1 D js ds):=by show _=_;rw[HJS.1,hD];exact yNa HD.out (by simp[least];omega) HM.out a0
    exact zVq
   by_cases hlow:d<1;case pos=>
    have HG:Hid (¬P):=λq=>yG4 HJ.1 HX.out (yN HD.out (by show d<least op;simp[least,h3o,h4o];omega)) (HP.1 q);exact zVr
   have HM:Hid (d=d+more op):=by show d=d+more op;simp[more,h2o,h4o]
   have a0:¬250<d:=qo
   obtain⟨D,hD⟩:=qE d;have ab:1<=D/\D<=250:=qo
   have HS:Hid (yC2 ds k ⟨op,a,b,free,⟨kind,s,hi,t,lo,up,nn⟩⟩=yB1 D js ds):=by show _=_;rw[HJS.1,hD];exact yNa HD.out (by simp[least,h3o,h4o];omega) HM.out a0
   exact zVq
  .have zk:¬(k:Int)<(l.length:Int):=qo
   have am:k=l.length:=qo
   subst am;obtain⟨d,hd⟩:∃d,ds[l.length]?=some d:=qg qo;obtain⟨e0,e1⟩:=HJ.2.cell hd;have HF:Hid (P↔d=1):=by
    show P↔_;rw[HP.out];constructor
    .rintro⟨av,q1,q2⟩;rw[HJ.1]at q1;cases q1
     rw[hd]at q2;exact Option.some.inj q2
    .intro q;exact⟨ds,HJ.1,by rw[hd,q]⟩
   have kw:=hb0.trans (hb.mono qo);have zl:(l.length:Int)<(l.length:Int)+1:=qo
   clear hd a9 hE;exact xGg
theorem yL2 (x:Bk) (conds:Nat) (w:World) (h:yAy w x.v x.l) (ho:x.ok) (hcd:conds<=1000):Calls prog 52 #[x.val,.int .i64 conds] w (yH3 (yBe x.l x.cnt conds) w):=by
 obtain⟨P,hP⟩:=qE (yBe x.l x.cnt conds:Prop);rw[<-hP];obtain⟨v,cnt,l⟩:=x;have HP:Hid (P↔yBe l cnt conds):=by show P↔_;rw[hP]
 have HH:=qH2 h ho.ins;obtain⟨va,cap,a6⟩:∃va cap,v=.slice va l.length cap:=by
  rcases h with⟨a,cap,hq,hl⟩|⟨b,off,cap,hq,_⟩
  .simp only at hq hl;subst hl;exact⟨_,_,hq⟩
  .exact⟨_,_,hq⟩
 subst a6;clear h ho hP;obtain⟨W0,a0⟩:=qW (xw w #[.slice va l.length cap,xi cnt] 32);have hb0:=qN a0
 have a5:w.heap.size<W0.heap.size:=by rw[a0];simp
 have HK:Hid (∀wx,Below W0 W0 wx->xk wx w 0 (.slice va l.length cap)/\xk wx w 1 (xi cnt)/\yAy wx (.slice va l.length cap) l):=by
  intro wx hx;refine⟨?_,?_,(HH.1.below hb0 qr).below hx qr⟩;all_goals rw[hx.cell (by exact a5),a0]
  all_goals simp
 obtain⟨k0,k1,_⟩:=HK.out W0 (Below.refl _ _);go_enter func52,ntmps52;go_upto_region 1 with fail;rw[<-a0];clear a0;by_cases p0:1<=l.length;case neg=>
  have z:(l.length:Int)<1:=qo
  exact xAl
 have z0:¬(l.length:Int)<1:=qo
 by_cases p1:l.length<=4000;case neg=>
  exact xF4
 have z1:¬(4000:Int)<(l.length:Int):=qo
 by_cases p2:0<=cnt;case neg=>
  exact xCx
 have z2:¬cnt<0:=qo
 by_cases p3:cnt<=200;case neg=>
  exact xC1
 have z3:¬200<cnt:=qo
 go_wp2;go_loopw[29] (λi wr=>∃(k:Nat),k<=l.length/\i=(xi k)/\Hid (∀(j:Nat) (y:Ix),j<k->l[j]?=some y->yCy y j l.length cnt conds)/\Below W0 W0 wr) (λi _=>l.length-(intOf i).toNat);case atStart=>exact⟨0,zero_le _,rfl,λj y hj=>qo,Below.refl _ _⟩
 case round=>
  obtain⟨k,hk,rfl,HJ,hb⟩:=hrel;have sb:=hb.size;clear k0 k1;obtain⟨k0,k1,hI⟩:=HK.out wr hb;have HI:=qH1 hI;clear hI;by_cases hlt:k<l.length
  .obtain⟨y,hy⟩:∃y,l[k]?=some y:=qg hlt;have zk:(k:Int)<(l.length:Int):=qo
   have HY:=qH2 hy (HH.2 y (mem_of_getElem? hy));clear hy;go_wp2_with fail;refine(yMz ⟨.slice va l.length cap,cnt,l⟩ k conds y _ HI.out HY.1 HY.2).mono ?_;rintro e w3 ⟨r,rfl,hr,a3⟩;have HR:=qH1 hr;have a1:=hb.trans (a3.mono sb);have a2:=hb0.trans (a1.mono qo);clear hr k0 k1;cases r
   case false=>have HG:Hid (¬P):=λq=>Bool.noConfusion (HR.2 (yC3 (HP.1 q) HY.1));exact zR a2
   case true=>
   have HN:Hid (∀(j:Nat) (z:Ix),j<k+1->l[j]?=some z->yCy z j l.length cnt conds):=λj z hj hz=>by
    by_cases e:j=k
    .subst e;have:=HY.1;rw[hz]at this;cases this
     exact HR.1 rfl
    .exact HJ.out j z qo hz
   refine zY ?_;exact⟨k+1,qo,by go_num,HN,a1⟩
  .have zk:¬(k:Int)<(l.length:Int):=qo
   have a4:Hid (∀(j:Nat) (z:Ix),l[j]?=some z->yCy z j l.length cnt conds):=λj z hz=>HJ.out j z (qw (qf hz)) hz;go_wp2_with fail;refine(yK7 ⟨.slice va l.length cap,cnt,l⟩ conds _ HI.out p0 p1 a4.out).mono ?_;rintro e w3 ⟨r,rfl,hr,a3⟩;have HR:Hid (r=true↔P):=by show r=true↔P;rw[hr,HP.out];exact⟨λq=>⟨p0,p1,p2,p3,a4.out,q⟩,λq=>q.2.2.2.2.2⟩
   have a1:=hb.trans (a3.mono sb);have a2:=hb0.trans (a1.mono qo);clear hr k0 k1 p0 p1;go_wp2;go_ret;exact⟨_,rfl,HR.out,a2⟩
theorem yI8 (u:Value) bs (m:Bk) w (h:yCg w u bs) (hok:∀x∈bs,x.ok) (hm:yAy w m.v m.l) (hmo:m.ok):
  Calls prog 14 #[.agg #[u,m.v,xi m.cnt]] w (yH3 (yCn bs m) w):=by
 obtain⟨P,hP⟩:=qE (yCn bs m:Prop);rw[<-hP];have HP:Hid (P↔yCn bs m):=by show P↔_;rw[hP]
 have HH:=qH4 h hok hm hmo;obtain⟨ua,cap,aa⟩:∃ua cap,u=.slice ua bs.length cap:=by
  rcases h with⟨a,cap,hq,hl⟩|⟨b,off,cap,hq,_⟩
  .subst hl;exact⟨_,_,hq⟩
  .exact⟨_,_,hq⟩
 subst aa;have ad:=hm.cells;clear h hok hm hmo hP;obtain⟨W0,a1⟩:=qW (xw w #[.slice ua bs.length cap,m.v,xi m.cnt] 34);have hb0:=qN a1
 have a9:w.heap.size<W0.heap.size:=by rw[a1];simp
 have HK:Hid (∀wx,Below W0 W0 wx->xk wx w 0 (.slice ua bs.length cap)/\xk wx w 1 m.v/\xk wx w 2 (xi m.cnt)/\yCg wx (.slice ua bs.length cap) bs/\yAy wx m.v m.l):=by
  intro wx hx;refine⟨?_,?_,?_,(HH.1.below hb0).below hx,(HH.2.2.1.below hb0 qr).below hx (Nat.le_refl _)⟩;all_goals rw[hx.cell (by exact a9),a1]
  all_goals simp
 obtain⟨k0,k1,k2,_,_⟩:=HK.out W0 (Below.refl _ _);go_enter func14,ntmps14;go_upto_region 1 with fail;rw[<-a1];clear a1;by_cases p0:bs.length<=200;case neg=>
  have z:(200:Int)<(bs.length:Int):=qo
  exact xAl
 have z0:¬(200:Int)<(bs.length:Int):=qo
 go_wp2_with fail;clear k0 k1 k2;go_loopw[12] (λi wr=>∃(k:Nat),k<=bs.length/\i=.int .i64 k/\Hid (∀(j:Nat) (x:Bk),j<k->bs[j]?=some x->yBe x.l x.cnt j)/\Below W0.heap.size W0 wr) (λi _=>bs.length-(intOf i).toNat);case atStart=>exact⟨0,zero_le _,rfl,λj x hj=>qo,Below.refl _ _⟩
 case round=>
  obtain⟨k,hk,rfl,HJ,hb⟩:=hrel;have sb:=hb.size;obtain⟨k0,k1,k2,hI,hM⟩:=HK.out wr hb;have HM:=qH1 hM;clear hM;by_cases hlt:k<bs.length
  .obtain⟨x,hx⟩:∃x,bs[k]?=some x:=⟨_,getElem?_eq_getElem hlt⟩;have zk:(k:Int)<(bs.length:Int):=qo
   obtain⟨b0,off,ab,c0,c1,hX⟩:∃b0 off,ua=some ⟨b0,off,none⟩/\wr.cell? ⟨b0,off+k*2,none⟩=some x.v/\wr.cell? ⟨b0,off+k*2+1,none⟩=some (.int .i64 x.cnt)/\yAy wr x.v x.l:=by
    rcases hI with⟨a,ac,hq,hl⟩|⟨b,off,ac,hq,hE,_⟩
    .subst hl;simp at hlt
    .cases hq
     obtain⟨c0,c1,c2⟩:=hE k x hx;exact⟨b,off,rfl,c0,c1,c2⟩
   obtain⟨xv,a2,xl⟩:=x;obtain⟨xa,xn,xc,a6,a7⟩:=hX.one;simp only at a6 a7 c0 c1 hX;subst a7;subst a6;obtain⟨W1,a0⟩:=qW (wr.alloc (Obj.cells #[.slice xa xl.length xc,.int .i64 a2] 32));have a8:Below wr wr W1:=by rw[a0];exact qB
   have HX:=qH3 (hX.below a8 (Nat.le_refl _)) (HH.2.1 _ (mem_of_getElem? hx)) hx;have n0:W1.cell? (xd wr.heap.size 0)=some (.slice xa xl.length xc):=by rw[a0];simp
   have n1:W1.cell? (xd wr.heap.size 1)=some (.int .i64 a2):=by rw[a0];simp
   have a5:=hb.trans (a8.mono sb);subst ab;clear hI hX hx;go_upto_region 6 with fail;rw[<-a0];clear a0 c0 c1 k0 k1 k2;go_wp2_with fail;refine(yL2 ⟨.slice xa xl.length xc,a2,xl⟩ k _ HX.1 HX.2.1 qo).mono ?_;rintro e w3 ⟨r,rfl,hr,a4⟩;have HR:=qH1 hr;have kb3:=a5.trans (a4.mono a5.size);have a3:=hb0.trans (kb3.mono qo);clear hr n0 n1;cases r
   case false=>have HG:Hid (¬P):=λq=>Bool.noConfusion (HR.2 ((HP.1 q).2.2 k _ HX.2.2));exact zR a3
   case true=>
   exact xGo
  .have zk:¬(k:Int)<(bs.length:Int):=qo
   have HB:Hid (∀(j:Nat) (x:Bk),bs[j]?=some x->yBe x.l x.cnt j):=λj x hx=>HJ.out j x (qw ((List.getElem?_eq_some_iff.1 hx).1)) hx;clear hI;go_wp2_with fail;refine(yL2 m bs.length _ HM.out HH.2.2.2 qo).mono ?_;rintro e w3 ⟨r,rfl,hr,a4⟩;have HR:Hid (r=true↔P):=by show r=true↔P;rw[hr,HP.out];exact⟨λq=>⟨p0,q,HB.out⟩,λq=>q.2.1⟩
   have kb3:=hb.trans (a4.mono sb);have a3:=hb0.trans (kb3.mono qo);clear hr k0 k1 k2 p0;go_wp2;go_ret;exact⟨_,rfl,HR.out,a3⟩
end Go.Proofs.YtnnagkfoiganfaaGreatDoor
