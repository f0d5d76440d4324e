import Derived.Test.YtehfleefkdojpaaGreatDoorSkAI
import Derived.Test.YtehfleefkdojpaaGreatDoorSkAH
import Derived.Test.YtehfleefkdojpaaGreatDoorSkAJ
namespace Go.Proofs.YtehfleefkdojpaaGreatDoor
open Go.ChangeShapes Go.WideShapes Go.ChangeAt Go.RowKit Go.Deep _root_.List _root_.Nat Go.Proofs.Tryz
set_option linter.unusedVariables false
set_option linter.unusedSimpArgs false
set_option maxRecDepth 100000
set_option maxHeartbeats 16000000
theorem yR4(a:Option Addr)(c:Nat)(w:World):Calls prog 83 #[ndP.v,.slice a 0 c] w λr w'=>∃g,r=.returned (.slice (some ⟨g,0,none⟩) 1 1)/\yAj w' w.heap.size g 1 [ndP]/\Below w.heap.size w w':=by
 obtain⟨W1,y⟩:=qE (w.alloc (Obj.cells #[.int .i64 1,.string ⟨#[]⟩,.bool false,.string ⟨#[]⟩,.int .u64 0,.int .u64 0,.int .i64 0] 35):World);have b1:yA W1 w.heap.size 35 7 w.heap.size ndP.seven:=by rw[y];exact yAa w _ (Nat.le_refl _) rfl
 have k1:Below w.heap.size w W1:=by rw[y];exact qB
 have HO:Hid (yAj (W1.alloc (Obj.cells #[.int .i64 1,.string ⟨#[]⟩,.bool false,.string ⟨#[]⟩,.int .u64 0,.int .u64 0,.int .i64 0] 35)) w.heap.size W1.heap.size 1 [ndP]/\Below w.heap.size w (W1.alloc (Obj.cells #[.int .i64 1,.string ⟨#[]⟩,.bool false,.string ⟨#[]⟩,.int .u64 0,.int .u64 0,.int .i64 0] 35))):=⟨(yJn W1 ndP).mono k1.size,k1.alloc k1.size _⟩;obtain⟨c0,c1,c2,c3,c4,c5,c6⟩:=b1.c7;clear b1 k1;go_enter func83,ntmps83;go_upto_region 1 with fail;rw[<-y];clear y;go_wp2_with fail;go_ret;exact⟨_,rfl,HO.out⟩
variable {w:World}
theorem yY8{gN cpN:Nat}(h:yC w gN 0 [ndP])(hg:gN<w.heap.size):Calls prog 82 #[.slice (some ⟨gN,0,none⟩) 1 cpN,.func (Fn.func 83) #[] #[]] w λr w'=>∃g,r=.returned (.tuple #[.slice (some ⟨g,0,none⟩) 1 1,.bool true])/\yAj w' w.heap.size g 1 [ndP]/\Below w.heap.size w w':=by
 obtain⟨W0,a5⟩:=qE (w.alloc (Obj.cells #[] 23):World);have H0:Hid (OwnV W0 w.heap.size w.heap.size 0 []/\Below w.heap.size w W0/\yC w gN 0 [ndP]):=by rw[a5];exact⟨yQs w (Nat.le_refl _),qB,h⟩
 clear h;go_enter func82,ntmps82;go_upto_region 2 with fail;rw[<-a5];clear a5;go_wp2_with fail;go_loopw[4,6,14] (λwv sv iv wr=>wv=.slice none 0 0/\((iv=.int .i64 0/\sv=.slice (some ⟨w.heap.size,0,none⟩) 0 0/\wr=W0)\/(∃g gq cp,iv=.int .i64 1/\sv=.slice (some ⟨gq,0,none⟩) 1 cp/\Hid (OwnV wr w.heap.size gq cp [.slice (some ⟨g,0,none⟩) 1 1]/\yAj wr w.heap.size g 1 [ndP]/\Below w.heap.size w wr)))) (λ_ _ iv _=>1-(intOf iv).toNat);case atStart=>exact⟨rfl,.inl ⟨rfl,rfl,rfl⟩⟩
 case round=>
  obtain⟨rfl,(⟨rfl,rfl,rfl⟩|⟨g,gq,cp,rfl,rfl,HJ⟩)⟩:=hrel
  .obtain⟨d0,d1,d2,d3,d4,d5,d6⟩:=(H0.2.2.below H0.2.1 hg) 0 ndP rfl;simp only[Nat.zero_mul,Nat.zero_add]at d0 d1 d2 d3 d4 d5 d6;obtain⟨W1,a0⟩:=qE (wr.alloc (Obj.cells #[.int .i64 1,.string ⟨#[]⟩,.bool false,.string ⟨#[]⟩,.int .u64 0,.int .u64 0,.int .i64 0] 35):World);obtain⟨P,hP⟩:=qE wr.heap.size;have k1:Below wr.heap.size wr W1:=by rw[a0];exact qB
   have H1:Hid (OwnV W1 w.heap.size w.heap.size 0 []/\Below w.heap.size w W1/\yA W1 w.heap.size 35 7 P ndP.seven):=by refine⟨H0.1.below k1,H0.2.1.trans (k1.mono H0.2.1.size),?_⟩;rw[a0,hP];exact yAa wr _ H0.2.1.size rfl
   go_upto_region 5 with fail;rw[<-a0,<-hP];clear a0 hP d0 d1 d2 d3 d4 d5 d6 k1;have c0:=H1.2.2.cell (j:=0) rfl;have ac:Hid (Calls prog 132 #[.int .i64 1] W1 λr w'=>r=.returned (.int .i64 0)/\w'=W1):=yC0 1 W1;go_wp2_with fail;refine ac.mono ?_;rintro r w9 ⟨rfl,a7⟩;rw[a7];clear a7 ac c0;have ab:Hid (∀X:World,Below W1.heap.size W1 X->(λw':World=>w'.cell? ⟨P,0,none⟩=some (.int .i64 1)/\w'.cell? ⟨P,1,none⟩=some (.string ⟨#[]⟩)/\w'.cell? ⟨P,2,none⟩=some (.bool false)/\w'.cell? ⟨P,3,none⟩=some (.string ⟨#[]⟩)/\w'.cell? ⟨P,4,none⟩=some (.int .u64 0)/\w'.cell? ⟨P,5,none⟩=some (.int .u64 0)/\w'.cell? ⟨P,6,none⟩=some (.int .i64 0)/\w'.cell? ⟨P,6,none⟩=some (.int .i64 0)) X):=λX hX=>by have hb:=H1.2.2.below hX;exact⟨hb.cell (j:=0) rfl,hb.cell (j:=1) rfl,hb.cell (j:=2) rfl,hb.cell (j:=3) rfl,hb.cell (j:=4) rfl,hb.cell (j:=5) rfl,hb.cell (j:=6) rfl,hb.cell (j:=6) rfl⟩
   have kd:Below W1.heap.size W1 W1.drew:=(Below.refl _ _).drew;have a3:=ab.out _ kd;go_upto_region 8 with fail;refine yAq 99 (λw':World=>w'.cell? ⟨P,0,none⟩=some (.int .i64 1)/\w'.cell? ⟨P,1,none⟩=some (.string ⟨#[]⟩)/\w'.cell? ⟨P,2,none⟩=some (.bool false)/\w'.cell? ⟨P,3,none⟩=some (.string ⟨#[]⟩)/\w'.cell? ⟨P,4,none⟩=some (.int .u64 0)/\w'.cell? ⟨P,5,none⟩=some (.int .u64 0)/\w'.cell? ⟨P,6,none⟩=some (.int .i64 0)/\w'.cell? ⟨P,6,none⟩=some (.int .i64 0)) (by kernel_rfl) ?_;generalize W1.drew=WD at kd a3|-;refine tk8a 0 a3 ?_;iterate 4 refine tk8b a3 ?_
   refine qO 5 rfl λK hK=>?_;go_simp;go_at_call 83;refine(yR4 _ _ WD).mono ?_;rintro r w2 ⟨g,rfl,aa,hb2⟩;have k2:Below W1.heap.size W1 w2:=kd.trans (hb2.mono kd.size);have a6:=ab.out _ k2;have H2:Hid (OwnV w2 w.heap.size w.heap.size 0 []/\yAj w2 w.heap.size g 1 [ndP]/\Below w.heap.size w w2):=⟨H1.1.below k2,aa.mono (by have:=H1.2.1.size;have:=kd.size;omega),H1.2.1.trans (k2.mono H1.2.1.size)⟩;clear aa hb2 kd k2 a3;refine hK.out _ _ (.inr a6) (tkS ?_);clear hK;refine tk8b a6 ?_;refine qD ?_;clear a6;obtain⟨W3,y⟩:=qE (w2.alloc (Obj.cells #[.slice (some ⟨g,0,none⟩) 1 1] 23):World);have H3:Hid (OwnV W3 w.heap.size w.heap.size 0 []/\yAj W3 w.heap.size g 1 [ndP]/\Below w.heap.size w W3/\(∀(j:Nat) v,[Value.slice (some ⟨g,0,none⟩) 1 1][j]?=some v->W3.cell? ⟨w2.heap.size,j,none⟩=some v)):=by
    have k3:Below w2.heap.size w2 W3:=by rw[y];exact qB
    have o3:OwnV W3 w2.heap.size w2.heap.size 1 [.slice (some ⟨g,0,none⟩) 1 1]:=by rw[y];exact yMa w2 (Nat.le_refl _) _
    exact⟨H2.1.below k3,H2.2.1.below k3 H2.2.1.lt.2,H2.2.2.trans (k3.mono H2.2.2.size),λj v hv=>o3.cell hv⟩
   go_wp2_with (at_builtin;rw[<-y];clear y;refine yCw _ rfl _ _ rfl w.heap.size w.heap.size 0 0 w2.heap.size 1 1 [] [.slice (some ⟨g,0,none⟩) 1 1] rfl rfl rfl rfl H3.1 H3.2.2.2 (by simp[Value.oneCell']) (by simp) H3.2.2.1.size ?_);intro gq cp w4 a9 a8 ad;have a4:Chg (λk=>k=w.heap.size) W3 w4:=Chg.of_grown a8 (λk hk=>by cases hk;rfl);have H4:Hid (OwnV w4 w.heap.size gq cp [.slice (some ⟨g,0,none⟩) 1 1]/\yAj w4 w.heap.size g 1 [ndP]/\Below w.heap.size w w4):=⟨a9,yAg H3.2.1 a4 (λk hk z=>yAb H3.2.1 H3.1 (by decide) _ hk (by rw[z];rfl)),Chg.below H3.2.2.1 a4 H3.2.2.1.size (λk z=>by omega)⟩;clear a9 a8 ad a4;go_wp2_with fail;go_roundw;case rel=>exact⟨rfl,.inr ⟨g,gq,cp,by first|rfl|go_num,rfl,H4⟩⟩
   case measure=>simp[intOf]
  .have q0:=HJ.1.cell (j:=0) rfl;have ae:=HJ.1.caps;go_wp2_with fail;exact bodyPost_ret (v:=.tuple #[.slice (some ⟨g,0,none⟩) 1 1,.bool true]) (by simp[results,results82,go_sem]) rfl ⟨g,rfl,HJ.2⟩
def yZk(w:World)(tb:List Tb)(ws:List Ent)(e:Ending)(w':World):Prop:=∃out,WrT tb ws out/\yBy w out e w'
structure WI(Wa:World)(ts:List Tm)(ws:List Ent)(OB g cp k:Nat)(ys:List Tx)(wr:World):Prop where
 len:ys.length=ts.length
 st:yBs wr Wa.heap.size (.slice (some ⟨g,0,none⟩) ts.length cp) ys
 tabs:∀j a o,(tbs ts)[j]?=some a->(ys.map Tx.tb)[j]?=some o->(j<k->TabW (yJm (tbs ts) j a ws) a o)/\(k<=j->o=a)
 full:∀j a,j<k->(tbs ts)[j]?=some a->0<(yJm (tbs ts) j a ws).length->a.rs.length≠50
 box:wr.cell? ⟨OB,0,none⟩=some (.slice (some ⟨g,0,none⟩) ts.length cp)
 below:Below Wa.heap.size Wa wr
 ob:OB<wr.heap.size/\Wa.heap.size<=OB/\g≠OB/\Wa.heap.size<=g/\g<wr.heap.size
variable {Wa wr w':World} {ws:List Ent} {OB g cp k:Nat} {ys:List Tx}
theorem WI.call{ts:List Tm}(h:WI Wa ts ws OB g cp k ys wr)(hb:Below wr.heap.size wr w'):WI Wa ts ws OB g cp k ys w':=by have s:=hb.size;have o:=h.ob;exact⟨h.len,h.st.below hb,h.tabs,h.full,by rw[hb.cell (p:=⟨OB,0,none⟩) (by exact o.1)];exact h.box,h.below.trans (hb.mono h.below.size),by omega⟩
theorem WI.idle{ts:List Tm}(h:WI Wa ts ws OB g cp k ys wr)(hp:∀a,(tbs ts)[k]?=some a->(yJm (tbs ts) k a ws).length=0):WI Wa ts ws OB g cp (k+1) ys wr:=by
 refine⟨h.len,h.st,λj a o ha ho=>⟨λhj=>?_,λhj=>(h.tabs j a o ha ho).2 (by omega)⟩,λj a hj ha=>?_,h.box,h.below,h.ob⟩
 .by_cases e:j=k
  .subst e;exact .inl ⟨hp a ha,(h.tabs j a o ha ho).2 (Nat.le_refl _)⟩
  .exact(h.tabs j a o ha ho).1 (by omega)
 .by_cases e:j=k
  .subst e;have:=hp a ha;omega
  .exact h.full j a (by omega) ha
theorem WI.more{ts:List Tm}(h:WI Wa ts ws OB g cp k ys wr){t:Tx}{a:Tb}(ht:ys[k]?=some t)(ha:(tbs ts)[k]?=some a)(hp:0<(yJm (tbs ts) k a ws).length)(hf:a.rs.length≠50){R:List Ent}(hK:Kept (yJm (tbs ts) k a ws) (yJm (tbs ts) k a ws).length R){v:Value}{rs:List Rw}(hv:yAn wr Wa.heap.size v rs)(hk:∀r∈rs,OwnK wr Wa.heap.size r)(he:rs.map Rw.es=R::t.rs.map Rw.es):
  WI Wa ts ws OB g cp (k+1) (ys.set k ⟨t.lo,v,rs⟩) (wr.setCell ⟨g,k*2+1,none⟩ v):=by
 have o:=h.ob;have a0:=h.st;rw[<-h.len]at a0;have a3:t.tb=a:=(h.tabs k a t.tb ha (by rw[getElem?_map,ht];rfl)).2 (Nat.le_refl _);refine⟨by rw[length_set];exact h.len,?_,λj x y hx hy=>?_,λj x hj hx=>?_,?_,h.below.setCell o.2.2.2.1 _,by simpa using o⟩
 .have:=a0.setRuns ht hv hk;rw[h.len]at this;exact this
 .rw[map_set,getElem?_set]at hy;by_cases e:k=j
  .subst e;rw[ha]at hx;cases hx
   have a4:k<(ys.map Tx.tb).length:=by rw[length_map];exact(List.getElem?_eq_some_iff.1 ht).1
   rw[if_pos rfl,if_pos a4]at hy;obtain rfl:=Option.some.inj hy;refine⟨λ_=>.inr ⟨hp,R,hK,?_⟩,λq=>by omega⟩;rw[<-a3];simp only[Tx.tb,he]
  .rw[if_neg e]at hy;exact⟨λq=>(h.tabs j x y hx hy).1 (by omega),λq=>(h.tabs j x y hx hy).2 (by omega)⟩
 .by_cases e:j=k
  .subst e;rw[ha]at hx;cases hx
   exact λ_=>hf
  .exact h.full j x (by omega) hx
 .rw[World.cell?_setCell_far _ _ _ _ (by exact o.2.2.1)];exact h.box
theorem WI.done{ts:List Tm}(h:WI Wa ts ws OB g cp ts.length ys wr)(hg:GoodS (tbs ts))(hw:yEt ws):WrT (tbs ts) ws (ys.map Tx.tb):=by refine .inr ⟨hg,hw,.inr ⟨?_,by rw[length_map,yAy];exact h.len,λi a o ha ho=>(h.tabs i a o ha ho).1 (by have:=(List.getElem?_eq_some_iff.1 ha).1;rw[yAy]at this;exact this)⟩⟩;rintro⟨i,a,ha,hp,y⟩;exact h.full i a (by have:=(List.getElem?_eq_some_iff.1 ha).1;rw[yAy]at this;exact this) ha hp y
theorem ySh{ts:List Tb}{i:Nat}{a:Tb}(h:yEt ws):yEt (yJm ts i a ws):=
 ⟨Nat.le_trans (List.length_filter_le _ _) h.1,λe he=>h.2 e (List.mem_filter.1 he).1⟩
theorem yJb(b off cap:Nat)(ts:List Tm)(r:Rm)(w:World)(h:yA2 w b off ts)(hok:okTs ts)(hB:b<w.heap.size)(hn:ts.length<=1048576)(hs:∀t∈ts,t.l.length<=1048576/\totM t.l<=1048576)(hr:r.at w)(hrok:∀e∈r.es,e.ok)(hrl:r.es.length<=1048576):
  Calls prog 47 #[.agg #[.slice (some ⟨b,off,none⟩) ts.length cap],.slice (some ⟨r.b,r.off,none⟩) r.es.length r.cap] w λe w'=>yZk w (tbs ts) r.es e w':=by
 obtain⟨Wa,a6⟩:=qE ((w.alloc (Obj.cells #[.slice (some ⟨b,off,none⟩) ts.length cap] 28)).alloc (Obj.cells #[.slice none 0 0] 28):World);have ab:Below w.heap.size w Wa:=by rw[a6];exact(qB).alloc (by simp) _
 have bu:Wa.heap.size=w.heap.size+1+1:=by rw[a6];simp
 have a4:Hid (∀wx,Below Wa.heap.size Wa wx->wx.cell? ⟨w.heap.size,0,none⟩=some (.slice (some ⟨b,off,none⟩) ts.length cap)/\wx.cell? ⟨w.heap.size+1,0,none⟩=some (.slice none 0 0)/\wx.frozen? ⟨w.heap.size+1,0,none⟩=false/\yA2 wx b off ts/\b<wx.heap.size):=by
  intro wx hx;have sx:=hx.size;refine⟨?_,?_,?_,(h.below ab hB).below hx (by omega),by omega⟩
  .rw[hx.cell (p:=⟨w.heap.size,0,none⟩) (by show w.heap.size<Wa.heap.size;omega),a6];simp[go_sem]
  .rw[hx.cell (p:=⟨w.heap.size+1,0,none⟩) (by show w.heap.size+1<Wa.heap.size;omega),a6];simp[go_sem]
  .rw[hx.frozen (p:=⟨w.heap.size+1,0,none⟩) (by show w.heap.size+1<Wa.heap.size;omega),a6];simp[go_sem]
 have ak:Hid ((∀wx,Below Wa.heap.size Wa wx->r.at wx)/\(∀e∈r.es,e.ok)):=⟨λwx hx=>(hr.below ab).below hx,hrok⟩;have HS:Hid (okTs ts/\∀t∈ts,t.l.length<=1048576/\totM t.l<=1048576):=⟨hok,hs⟩;have bq:Hid (∀W,Below Wa.heap.size Wa W->Calls prog 50 #[.agg #[.slice (some ⟨b,off,none⟩) ts.length cap]] W λe w'=>∃(va:Option Addr)(vn vc:Nat),e=.returned (.agg #[.slice va vn vc])/\w'.cell? ⟨w.heap.size+1,0,none⟩=some (.slice none 0 0)/\w'.frozen? ⟨w.heap.size+1,0,none⟩=false/\Hid (yBy w (tbs ts) (.returned (.agg #[.slice va vn vc])) (w'.setCell ⟨w.heap.size+1,0,none⟩ (.slice va vn vc)))):=by intro W hW;obtain⟨_,_,_,hT,b9⟩:=a4.out W hW;have sW:=hW.size;refine(yBz b off cap ts W hT b9 hn HS.2).mono ?_;rintro e w3 ⟨v,xs,rfl,hS,hx,hb3⟩;have aI:Below Wa.heap.size Wa w3:=hW.trans (hb3.mono sW);obtain⟨_,q1,q2,_⟩:=a4.out w3 aI;obtain⟨va,vn,vc,rfl,hc⟩:=yL2 (w:=w) (R:=w.heap.size+1) (by omega) (by omega) hS (ab.trans (aI.mono (by omega)));rw[hx]at hc;exact⟨va,vn,vc,rfl,q1,q2,hc⟩
 clear h hok hs hr hrok;obtain⟨c0,_,_,aL,bg⟩:=a4.out Wa (Below.refl _ _);have bj:Hid (yA2 Wa b off ts):=aL;clear aL;go_enter func47,ntmps47;go_upto_region 1 with fail;rw[<-a6];clear a6;go_wp2_with fail;refine(yBz b off cap ts _ bj.out bg hn HS.2).mono ?_;rintro e w1 ⟨v,xs,rfl,ah,az,hb1⟩;obtain⟨va,vn,vc,rfl⟩:∃va vn vc,v=.slice va vn vc:=by rcases ah.row with⟨_,a,c,q⟩|⟨g,cp,q,_⟩<;>exact⟨_,_,_,q⟩
 have s1:=hb1.size;obtain⟨OB,au⟩:=qE w1.heap.size;obtain⟨W1,ac⟩:=qE (w1.alloc (Obj.cells #[.slice va vn vc] 28):World);have aq:Below w1.heap.size w1 W1:=by rw[ac];exact qB
 have b4:W1.heap.size=w1.heap.size+1:=by rw[ac];simp
 have k1:Below Wa.heap.size Wa W1:=hb1.trans (aq.mono s1);have HX:Hid (∀wx,Below W1.heap.size W1 wx->wx.cell? ⟨OB,0,none⟩=some (.slice va vn vc)/\yBs wx Wa.heap.size (.slice va vn vc) xs/\Below Wa.heap.size Wa wx/\OB<wx.heap.size):=by intro wx hx;have sx:=hx.size;refine⟨?_,(ah.below aq).below hx,k1.trans (hx.mono k1.size),by omega⟩;rw[hx.cell (p:=⟨OB,0,none⟩) (by show OB<W1.heap.size;omega),au,ac];simp
 have ad:Hid (xs.map Tx.tb=tbs ts/\Wa.heap.size<=OB):=⟨az,by omega⟩;have aE:Hid (∀g:Nat,va=some ⟨g,0,none⟩->yBx w1 Wa.heap.size (.slice va vn vc) xs->xs≠ []->Wa.heap.size<=g/\g<OB):=by
  intro g hg b5 hne;rcases b5 with⟨q,_⟩|⟨g',cp',q,hO⟩
  .exact absurd q hne
  .cases q;cases hg;have:=hO.lt;omega
 have aT:Hid (yBx w1 Wa.heap.size (.slice va vn vc) xs):=ah.row;have ay:Hid (∀wx,Below W1.heap.size W1 wx->yBy w (tbs ts) (.returned (.agg #[.slice va vn vc])) (wx.setCell ⟨w.heap.size+1,0,none⟩ (.slice va vn vc))):=by
  intro wx hx;obtain⟨_,hS,hb,_⟩:=HX.out wx hx;obtain⟨a1,a2,a3,q,hc⟩:=yL2 (w:=w) (R:=w.heap.size+1) (by omega) (by omega) hS (ab.trans (hb.mono (by omega)));cases q
  rw[ad.1]at hc;exact hc
 go_upto_region 2 with fail;rw[<-ac,<-au];clear ac ah az aq b4 c0 au hb1;obtain⟨c0,_,_,aK,bf⟩:=a4.out W1 k1;have bi:Hid (yA2 W1 b off ts):=aK;clear aK;go_wp2_with fail;refine(yA4 b off cap ts _ bi.out HS.1 bf hn).mono ?_;rintro e w2 ⟨r1,rfl,aB,hb2⟩;have HR:Hid (r1=true↔GoodS (tbs ts)):=aB;clear aB c0;obtain⟨x0,_,k2,x3⟩:=HX.out w2 hb2;obtain⟨c0,q1,q2,_,_⟩:=a4.out w2 k2;cases r1
 case false=>have H:Hid (WrT (tbs ts) r.es (tbs ts)):=.inl ⟨λq=>Bool.noConfusion (HR.2 q.1),rfl⟩;have hc:=ay.out w2 hb2;have HC:Hid (yBy w (tbs ts) (.returned (.agg #[.slice va vn vc])) (w2.setCell ⟨w.heap.size+1,0,none⟩ (.slice va vn vc))):=hc;exact yZ6
 case true=>
 have HG:Hid (GoodS (tbs ts)):=HR.1 rfl;have a9:=ak.1 w2 k2;have aS:Hid (r.at w2):=a9;clear a9;go_wp2_with fail;refine(yFr r.b r.off r.cap r.es _ aS.ents ak.2 aS.lt hrl).mono ?_;rintro e w3 ⟨r2,rfl,aA,hb3⟩;have aR:Hid (r2=true↔yEt r.es):=aA;have ar:Below W1.heap.size W1 w3:=hb2.trans (hb3.mono hb2.size);clear aA c0 q1 q2 x0 x3;obtain⟨x0,aM,k3,x3⟩:=HX.out w3 ar;have ax:Hid (yBs w3 Wa.heap.size (.slice va vn vc) xs):=aM;clear aM;obtain⟨c0,q1,q2,_,_⟩:=a4.out w3 k3;cases r2
 case false=>have H:Hid (WrT (tbs ts) r.es (tbs ts)):=.inl ⟨λq=>Bool.noConfusion (aR.2 q.2),rfl⟩;have hc:=ay.out w3 ar;have HC:Hid (yBy w (tbs ts) (.returned (.agg #[.slice va vn vc])) (w3.setCell ⟨w.heap.size+1,0,none⟩ (.slice va vn vc))):=hc;exact yZ6
 case true=>
 have HW:Hid (yEt r.es):=aR.1 rfl;have bw:ts.length<=100:=by have:=HG.le;rw[yAy]at this;exact this
 have af:xs.length=ts.length:=by have:=congrArg List.length ad.1;rw[length_map,yAy]at this;exact this
 have an:xs≠ []:=λq=>by have:=HG.ne;rw[yAy,<-af,q]at this;simp at this
 obtain⟨g,rfl,rfl⟩:∃g,va=some ⟨g,0,none⟩/\vn=ts.length:=by
  rcases ax.row with⟨q,_⟩|⟨g,cp,q,_⟩
  .exact absurd q an
  .cases q;exact⟨g,rfl,af⟩
 have b6:=aE.out g rfl aT.out an;have bn:Hid (WI Wa ts r.es OB g vc 0 xs w3):=⟨af,ax.out,λj a o ha ho=>⟨λq=>by omega,λ_=>by rw[ad.1,ha]at ho;exact(Option.some.inj ho).symm⟩,λj a q=>by omega,x0,k3,by have:=ad.2;omega⟩;clear af an aE aT b6 ay ax x0 x3 q1 q2 c0 HX ad k1 k2 hb2 hb3 ar;go_wp2_with fail;go_loopw[6] (λi wr=>∃(k:Nat)(ys:List Tx),k<=ts.length/\i=.int .i64 k/\Hid (WI Wa ts r.es OB g vc k ys wr)) (λi _=>ts.length-(intOf i).toNat);case atStart=>exact⟨0,xs,zero_le _,rfl,bn⟩
 case round=>
  obtain⟨k,ys,hk,rfl,HI⟩:=hrel;have x0:=HI.box;obtain⟨c0,q1,q2,hT,bd⟩:=a4.out wr HI.below;have HT:Hid (yA2 wr b off ts):=hT;clear hT;by_cases hlt:k<ts.length
  .obtain⟨t,ht⟩:∃t,ts[k]?=some t:=⟨_,getElem?_eq_getElem hlt⟩;have a7:Hid (ts[k]?=some t/\(tbs ts)[k]?=some t.tb):=⟨ht,by rw[yBq,ht];rfl⟩;clear ht;have zk:(k:Int)<(ts.length:Int):=by omega
   go_wp2_with fail;refine(yKj b off cap ts k t wr HT.out bd a7.1 hn).mono ?_;rintro e u1 ⟨rfl,aG⟩;have aV:Hid (WI Wa ts r.es OB g vc k ys u1):=HI.call aG;have a9:=ak.1 u1 aV.below;have bk:Hid (r.at u1):=a9;clear a9;go_wp2_with fail;refine(yGq r t.lo (hiN (tbs ts) k) (hasN (tbs ts) k) u1 bk.out hrl).mono ?_;rintro e u2 ⟨g1,av,rfl,aO,b8⟩;have a0:Hid (WI Wa ts r.es OB g vc k ys u2):=aV.call b8;obtain⟨fs,aa⟩:=qE (inP t.lo (hasN (tbs ts) k) (hiN (tbs ts) k) r.es);have a8:Hid (OwnE u2 u1.heap.size g1 av fs/\fs=yJm (tbs ts) k t.tb r.es):=⟨by rw[aa];exact aO,aa⟩;have b7:fs.length<=1048576:=by rw[aa];exact Nat.le_trans (List.length_filter_le ..) hrl
   rw[<-aa];clear aO aa aG x0 c0 q1 q2;have x0:=a0.box;obtain⟨c0,q1,q2,aJ,bx⟩:=a4.out u2 a0.below;obtain⟨e0,e1,_⟩:=aJ k t a7.1;clear aJ;by_cases hp:0<fs.length
   .have zp:(0:Int)<(fs.length:Int):=by omega
    by_cases h50:t.l.length=50
    .have aX:((t.l.length:Int)==50)=true:=by rw[beq_iff_eq];omega
     have H:Hid (WrT (tbs ts) r.es (tbs ts)):=.inr ⟨HG.out,HW.out,.inl ⟨⟨k,t.tb,a7.2,by rw[<-a8.2];exact hp,by show(esM t.l).length=50;rw[length_map];exact h50⟩,rfl⟩⟩;clear h50;go_wp2_with fail;refine(bq.out _ a0.below).mono ?_;rintro e w9 ⟨va,vn,aY,rfl,b3,bt,hc⟩;go_wp2_with fail;exact bodyPost_ret (v:=.agg #[.slice va vn aY]) (by simp[results,results47,go_sem,b3]) rfl ⟨_,H.out,hc.out⟩
    have aX:((t.l.length:Int)==50)=false:=by rw[beq_eq_false_iff_ne];omega
    have HF:Hid (t.tb.rs.length≠50):=by show(esM t.l).length≠50;rw[length_map];exact h50
    have br:¬(t.l.length:Int)=50:=by omega
    clear h50;obtain⟨tk,a5⟩:∃tk,ys[k]?=some tk:=⟨_,getElem?_eq_getElem (by have:=a0.len;omega)⟩;obtain⟨ta,tn,tc,ao⟩:∃ta tn tc,tk.v=.slice ta tn tc:=by obtain⟨g',cp',q,_⟩:=a0.st.runs tk (mem_of_getElem? a5);exact⟨_,_,_,q⟩
    have ae:Hid (ys[k]?=some tk/\tk.v=.slice ta tn tc/\tk.rs.length<=1048576):=by
     refine⟨a5,ao,?_⟩;have h1:=(a0.tabs k t.tb tk.tb a7.2 (by rw[getElem?_map,a5];rfl)).2 (Nat.le_refl _);have h2:tk.tb.rs.length=tk.rs.length:=by simp[Tx.tb]
     have h3:t.tb.rs.length=t.l.length:=by show(esM t.l).length=_;rw[length_map]
     have h4:=(HS.2 t (mem_of_getElem? a7.1)).1;rw[h1]at h2;omega
    have HK:Hid (∀wx,Below u2.heap.size u2 wx->wx.cell? ⟨OB,0,none⟩=some (.slice (some ⟨g,0,none⟩) ts.length vc)/\wx.cell? ⟨g,k*2+1,none⟩=some (.slice ta tn tc)/\wx.frozen? ⟨g,k*2+1,none⟩=false):=by
     intro wx hx;have hw:=a0.call hx;rcases hw.st.row with⟨q,_⟩|⟨g',cp',q,hO⟩
     .rw[q]at a5;simp at a5
     .simp only[Value.slice.injEq,Option.some.injEq,Addr.mk.injEq,and_true]at q;obtain⟨rfl,_,rfl⟩:=q;refine⟨hw.box,?_,World.ownsRow.frozenAt hO _⟩;have:=(hO.cells (i:=k) (p:=tk.pr) (by rw[getElem?_map,a5];rfl)).2;rw[this];show some tk.v=_;rw[ao]
    clear a5 ao;go_upto_region 11 with fail;have hS:SW (λw':World=>w'.cell? ⟨OB,0,none⟩=some (.slice (some ⟨g,0,none⟩) ts.length vc)/\w'.cell? ⟨g,k*2+1,none⟩=some (.slice ta tn tc)) u2.drew:=by obtain⟨a1,a2,_⟩:=HK.out u2.drew ((Below.refl _ _).drew);exact⟨a1,a2⟩
    refine wpR 15 hS ?_;refine qU 0 ?vwa0 rfl ?ywa0 hS ?_;case ywa0=>exact zzR0
    try simp only[qA]
    refine qU 1 ?vwa1 rfl ?ywa1 hS ?_;case ywa1=>exact zzR0
    try simp only[qA]
    refine qU 2 ?vwa2 rfl ?ywa2 hS ?_;case ywa2=>exact zzR0
    try simp only[qA]
    refine qU 3 ?vwa3 rfl ?ywa3 hS ?_;case ywa3=>exact zzR0
    try simp only[qA]
    refine qU 6 ?vwa6 rfl ?ywa6 hS ?_;case ywa6=>exact zzR0
    try simp only[qA]
    refine qU 7 ?vwa7 rfl ?ywa7 hS ?_;case ywa7=>exact zzR0
    try simp only[qA]
    refine qU 8 ?vwa8 rfl ?ywa8 hS ?_;case ywa8=>exact zzR0
    try simp only[qA]
    refine qU 9 ?vwa9 rfl ?ywa9 hS ?_;case ywa9=>exact zzR0
    try simp only[qA]
    refine qU 10 ?vwa10 rfl ?ywa10 hS ?_;case ywa10=>exact zzR0
    try simp only[qA]
    refine qU 11 ?vwa11 rfl ?ywa11 hS ?_;case ywa11=>exact zzR0
    try simp only[qA]
    have aU:Hid (OwnE u2.drew u1.heap.size g1 av fs):=a8.1.below ((Below.refl _ _).drew) a8.1.lt.2;have bo:Hid (∀e∈fs,e.ok):=λe he=>by rw[a8.2]at he;exact ak.2 e (List.mem_filter.1 he).1
    refine qO 4 rfl λK hK=>?_;go_simp;go_at_call 97;refine(yKn g1 0 av fs _ aU.at bo.out aU.lt.2 b7).mono ?_;rintro e v1 ⟨g2,y,R,rfl,aN,aF,ba,aQ,_⟩;have am:Below u2.heap.size u2 v1:=((Below.refl _ _).drew).trans (aF.mono (by simp));have aZ:=am.size;have al:Hid (OwnE v1 u2.heap.size g2 y R/\Kept fs fs.length R):=⟨aN.mono (by simp),aQ (by rw[a8.2];exact ySh HW.out)⟩;obtain⟨a1,a2,_⟩:=HK.out v1 am;refine hK.out _ _ (.inr ⟨a1,a2⟩) ?_;clear hK aN aF ba aQ a1 a2;try simp only[qA]
    refine qO 5 rfl λK hK=>?_;go_simp;obtain⟨W5,ag⟩:=qE (v1.alloc (Obj.cells #[.slice (some ⟨g2,0,none⟩) R.length y] 60):World);have aH:Below v1.heap.size v1 W5:=by rw[ag];exact qB
    have k5:Below u2.heap.size u2 W5:=am.trans (aH.mono aZ);have s5:=k5.size;have b0:=a0.below.size;have bm:Hid (W5.ownsRow Wa.heap.size 60 1 (.slice (some ⟨v1.heap.size,0,none⟩) 1 1) [Value.slice (some ⟨g2,0,none⟩) R.length y].length [.slice (some ⟨g2,0,none⟩) R.length y]):=by rw[ag];exact World.ownsRow_lit v1 #[.slice (some ⟨g2,0,none⟩) R.length y] 1 (by omega) (by decide) rfl
    rw[<-ag];obtain⟨a1,a2,_⟩:=HK.out W5 k5;refine hK.out _ _ (.inr ⟨a1,a2⟩) ?_;clear hK a1 a2 ag;try simp only[qA]
    have aw:Hid (yAn W5 Wa.heap.size (.slice ta tn tc) tk.rs/\(∀x∈tk.rs,OwnK W5 Wa.heap.size x)/\ [Value.slice (some ⟨g2,0,none⟩) R.length y].length+tk.rs.length<=2^30):=by have hm:=mem_of_getElem? ae.1;have h6:=(a0.st.runs tk hm).below k5;rw[ae.2.1]at h6;refine⟨h6,λx hx=>(a0.st.ents tk hm x hx).below k5,?_⟩;have:=ae.2.2;simp;omega
    refine qO 12 rfl λK hK=>?_;refine yIm _ (by rfl) _ _ (by rfl) Wa.heap.size v1.heap.size 1 1 [.slice (some ⟨g2,0,none⟩) R.length y] (.slice ta tn tc) tk.rs (by rfl) (by rfl) (by rfl) aw.1 aw.2.1 bm.out aw.2.2 (by omega) ?_;intro v' u3 hA;obtain⟨g3,aj,rfl⟩:=hA.form (λq=>by cases q);obtain⟨N3,ai⟩:=qE (([Value.slice (some ⟨g2,0,none⟩) R.length y]++tk.rs.map Rw.u).length);rw[<-ai]at hA|-;have k3:Below u2.heap.size u2 u3:=k5.grown hA.grown s5 (λj hj=>by cases hj;omega);have aW:Hid (yAn u3 Wa.heap.size (.slice (some ⟨g3,0,none⟩) N3 aj) (⟨.slice (some ⟨g2,0,none⟩) R.length y,R,some g2⟩::tk.rs)/\∀x∈(⟨.slice (some ⟨g2,0,none⟩) R.length y,R,some g2⟩::tk.rs:List Rw),OwnK u3 Wa.heap.size x):=by
     have aP:N3=(⟨.slice (some ⟨g2,0,none⟩) R.length y,R,some g2⟩::tk.rs:List Rw).length:=by rw[ai];simp
     refine⟨⟨g3,aj,by rw[aP],?_⟩,λx hx=>?_⟩
     .have:=hA.row;rw[<-ai]at this;rw[<-aP];exact this
     .rcases mem_cons.1 hx with rfl|hx
      .have bb:OwnE W5 Wa.heap.size g2 y R:=(al.1.mono b0).below aH al.1.lt.2;refine .inr ⟨g2,y,rfl,rfl,World.ownsRow.kept bb hA.grown (.inr (λq=>?_))⟩;have h8:=al.1.lt.2;have h9:g2=v1.heap.size:=Option.some.inj q;omega
      .exact(a0.st.ents tk (mem_of_getElem? ae.1) x hx).below k3
    obtain⟨a1,a2,a3⟩:=HK.out u3 k3;refine hK.out _ _ (.inr ⟨a1,a2⟩) ?_;clear hK hA ai;try simp only[qA]
    refine qO 13 rfl λK hK=>?_;go_simp;refine hK.out _ _ (.inr ⟨a1,a2⟩) ?_;clear hK;try simp only[qA]
    refine yBh (i:=14) (v:=?vwb14) rfl (by kernel_rfl) (by kernel_rfl) (by kernel_rfl) (by kernel_rfl) (by decide) (λ_ _ _ h=>h) (Or.inl ⟨by rfl,?ywb14⟩) (show _/\_ from⟨a1,a2⟩) ?_;case ywb14=>exact zzR0
    try simp only[qA]
    refine qO 15 rfl λK hK=>?_;go_simp;refine hK.out _ _ (.inl rfl) ?_;clear hK;try simp only[qA]
    refine qD ?_;have HN:Hid (WI Wa ts r.es OB g vc (k+1) (ys.set k ⟨tk.lo,.slice (some ⟨g3,0,none⟩) N3 aj,⟨.slice (some ⟨g2,0,none⟩) R.length y,R,some g2⟩::tk.rs⟩) (u3.setCell ⟨g,k*2+1,none⟩ (.slice (some ⟨g3,0,none⟩) N3 aj))):=by have hK:=al.2;have aC:=hp;rw[a8.2]at hK aC;exact(a0.call k3).more ae.1 a7.2 aC HF.out hK aW.1 aW.2 rfl
    go_wp2_with fail;go_roundw;case rel=>exact⟨k+1,_,by omega,by go_num,HN⟩
    case measure=>simp[intOf];omega
   .have zp:¬(0:Int)<(fs.length:Int):=by omega
    have HN:Hid (WI Wa ts r.es OB g vc (k+1) ys u2):=a0.idle (λa ha=>by
     rw[a7.2]at ha
     cases ha
     rw[<-a8.2]
     omega)
    go_wp2_with fail;go_roundw;case rel=>exact⟨k+1,ys,by omega,by go_num,HN⟩
    case measure=>simp[intOf];omega
  .have zk:¬(k:Int)<(ts.length:Int):=by omega
   have aD:k=ts.length:=by omega
   have HD:Hid (WrT (tbs ts) r.es (ys.map Tx.tb)):=by have:=HI.out;rw[aD]at this;exact this.done HG.out HW.out
   obtain⟨a1,a2,a3,q,hc⟩:=yL2 (w:=w) (R:=w.heap.size+1) (by omega) (by omega) HI.st (ab.trans (HI.below.mono (by omega)));cases q
   have HC:Hid (yBy w (ys.map Tx.tb) (.returned (.agg #[.slice (some ⟨g,0,none⟩) ts.length vc])) (wr.setCell ⟨w.heap.size+1,0,none⟩ (.slice (some ⟨g,0,none⟩) ts.length vc))):=hc;clear hc aD;go_wp2_with fail;exact bodyPost_ret (v:=.agg #[.slice (some ⟨g,0,none⟩) ts.length vc]) (by simp[results,results47,go_sem,q1]) rfl ⟨_,HD.out,HC.out⟩
structure DInv(base cb:Nat)(bv:Value)(n:Nat)(w wr:World):Prop where
 d:yAd base cb bv n wr
 c:Chg (λk=>k=cb) w wr
 lt:cb<w.heap.size
 hb:base<=w.heap.size
variable {base cb n:Nat} {bv:Value}
theorem DInv.start(h:yAd base cb bv n w):DInv base cb bv n w w:=⟨h,Chg.of_below (Below.refl _ _),h.lt.2,h.base⟩
variable {w1:World}
theorem DInv.call(h:DInv base cb bv n w wr)(hd:Drew base cb bv n wr w1):DInv base cb bv n w w1:=⟨hd.1,h.c.trans hd.2,h.lt,h.hb⟩
theorem DInv.below(h:DInv base cb bv n w wr)(hd:Below wr.heap.size wr w1):DInv base cb bv n w w1:=⟨h.d.below hd,h.c.trans (Chg.of_below hd),h.lt,h.hb⟩
theorem DInv.grow(h:DInv base cb bv n w wr){row:Option Nat}(hg:wr.grownBy w1 row)(hr:∀k,row=some k->w.heap.size<=k):DInv base cb bv n w w1:=by have hc:Chg (λk=>row=some k) wr w1:=Chg.of_grown hg (λk q=>q);have hl:=h.lt;have y:=h.hb;exact⟨h.d.chg hc (λq=>by have:=hr _ q;omega) (λk q=>by have:=hr _ q;omega),Chg.grown_new h.c hg hr,h.lt,h.hb⟩
theorem yAj.chg{S:Nat->Prop}{cap:Nat}{es:List Nd}(h:yAj w base g cap es)(hc:Chg S w w')(hn:¬S g):yAj w' base g cap es:=yAg h hc (λk q=>by simp[Value.ownBlock]at q;subst q;exact hn)
theorem yCc(w:World)(base:Nat)(f:Nd)(hb:base<=w.heap.size):yAj (w.alloc (Obj.cells #[.int .i64 f.kind,.string f.s,.bool f.hi,.string f.t,.int .u64 f.lo,.int .u64 f.up,.int .i64 f.n] 35)) base w.heap.size 1 [f]:=
 World.ownsRow_lit (base:=base) (e:=35) (size:=7) w #[.int .i64 f.kind,.string f.s,.bool f.hi,.string f.t,.int .u64 f.lo,.int .u64 f.up,.int .i64 f.n] 1 hb (by decide) rfl
def TreP(base cb:Nat)(bv:Value)(n m:Nat)(w:World)(e:Ending)(w':World):Prop:=∃(g cp:Nat)(xs:List Nd),e=.returned (.slice (some ⟨g,0,none⟩) xs.length cp)/\xs.length<=m/\0<xs.length/\Hid ((∀e∈xs,e.small)/\yAj w' w.heap.size g cp xs/\DInv base cb bv n w w')
def TreC(base cb:Nat)(bv:Value)(n:Nat)(z:Int)(m:Nat):Prop:=∀w,yAd base cb bv n w->Calls prog 43 #[.pointer (some ⟨cb,0,none⟩),.int .i64 z] w (TreP base cb bv n m w)
theorem yFt(k:Int)(h:0<=k/\k<=100000):(⟨k,⟨#[]⟩,false,⟨#[]⟩,0,0,0⟩:Nd).small:=⟨zero_le _,zero_le _,(by show(0:Int)<=0/\(0:Int)<=100000;omega),(by show(0:Int)<=0/\(0:Int)<=100000;omega),(by show(0:Int)<=0/\(0:Int)<=100000;omega),h⟩
theorem TreP.up{m m':Nat}{e:Ending}(h:TreP base cb bv n m w e w')(hm:m<=m'):TreP base cb bv n m' w e w':=by obtain⟨g,cp,xs,h1,h2,h3,h4⟩:=h;exact⟨g,cp,xs,h1,by omega,h3,h4⟩
structure Two(base cb:Nat)(bv:Value)(n:Nat)(w:World)(ga ca gb cc:Nat)(A B:List Nd)(wr:World):Prop where
 a:yAj wr w.heap.size ga ca A
 b:yAj wr w.heap.size gb cc B
 ne:¬ga=gb
 d:DInv base cb bv n w wr
 sa:∀e∈A,e.small
 sb:∀e∈B,e.small
theorem yGm(base cb:Nat)(bv:Value)(n:Nat)(z:Int)(m:Nat)(hz0:0<=z)(hz1:z<=100)(hm:m<=10000)(HT0:0<z->TreC base cb bv n (z-1) m):TreC base cb bv n z (3*m+1):=by
 intro w h;have HT:Hid (0<z->TreC base cb bv n (z-1) m):=HT0;have HD:Hid (DInv base cb bv n w w):=DInv.start h;clear h HT0;have af:∀(wx:World),DInv base cb bv n w wx->Calls prog 93 #[.pointer (some ⟨cb,0,none⟩)] wx (LefP base cb bv n wx):=λwx hx=>yMw base cb bv n wx hx.d;have HL:Hid (∀(wx:World),DInv base cb bv n w wx->Calls prog 93 #[.pointer (some ⟨cb,0,none⟩)] wx (LefP base cb bv n wx)):=af;clear af;go_enter func43,ntmps43;go_wp2_with fail;refine(yAh base cb bv n 10 _ HD.d (by omega) (by omega)).mono ?_;rintro e w1 ⟨x,rfl,au,ar,ab⟩;have H1:Hid (DInv base cb bv n w w1):=HD.call ab;have ax:=ab.2.size;clear ab;by_cases hz:z=0\/x<2
 .have fin:∀(wx wy:World)(f:Nd),DInv base cb bv n w wx->f.small->wy=wx.alloc (Obj.cells #[.int .i64 f.kind,.string f.s,.bool f.hi,.string f.t,.int .u64 f.lo,.int .u64 f.up,.int .i64 f.n] 35)->TreP base cb bv n (3*m+1) w (.returned (.slice (some ⟨wx.heap.size,0,none⟩) 1 1)) wy:=λwx wy f hx hf hy=>by subst hy;refine⟨wx.heap.size,1,[f],rfl,by simp,by simp,λe he=>by simp at he;subst he;exact hf,yCc wx _ f hx.c.size,hx.below (qB)⟩
  have HF:Hid (∀(wx wy:World)(f:Nd),DInv base cb bv n w wx->f.small->wy=wx.alloc (Obj.cells #[.int .i64 f.kind,.string f.s,.bool f.hi,.string f.t,.int .u64 f.lo,.int .u64 f.up,.int .i64 f.n] 35)->TreP base cb bv n (3*m+1) w (.returned (.slice (some ⟨wx.heap.size,0,none⟩) 1 1)) wy):=fin;clear fin;by_cases hz':z=0
  .subst hz';exact xAt
  .have ak:x<2:=by omega
   have ai:=qn hz'
   exact xAt
 .have ai:(z==0)=false:=by rw[beq_eq_false_iff_ne];omega
  have ak:¬x<2:=by omega
  have HC:Hid (∀wx,DInv base cb bv n w wx->Calls prog 43 #[.pointer (some ⟨cb,0,none⟩),.int .i64 (z-1)] wx (TreP base cb bv n m wx)):=λwx hx=>HT.out (by omega) wx hx.d;have ag:1<=z:=by omega
  clear hz;go_wp2_with fail;refine(HC.out _ H1.out).mono ?_;rintro e w2 ⟨ga,ca,A,rfl,aC,aD,K2⟩;have H2:Hid (DInv base cb bv n w w2):=⟨K2.out.2.2.d,H1.c.trans K2.out.2.2.c,H1.lt,H1.hb⟩;have aw:=K2.out.2.2.c.size;have az:=K2.out.2.1.lt;go_wp2_with fail;refine(HC.out _ H2.out).mono ?_;rintro e w3 ⟨gb,cc,B,rfl,aA,aB,K3⟩;have av:=K3.out.2.2.c.size;have ay:=K3.out.2.1.lt;have H3:Hid (Two base cb bv n w ga ca gb cc A B w3):=by have ac:=H1.lt;refine⟨(K2.out.2.1.mono (by omega)).chg K3.out.2.2.c (by omega),K3.out.2.1.mono (by omega),by omega,⟨K3.out.2.2.d,H2.c.trans K3.out.2.2.c,H1.lt,H1.hb⟩,K2.out.1,K3.out.1⟩
  clear K2 K3 H2 HD;by_cases hx6:x<6
  .skip;go_wp2_with (at_builtin;refine yAi _ rfl _ _ rfl w.heap.size ga ca A.length gb 0 B.length cc A B rfl rfl rfl rfl H3.a H3.b.at ?hl1 ?hb1 ?_);case hl1=>omega
   case hb1=>exact H3.d.c.size
   intro g4 c4 w4 a0 a4 a6;obtain⟨Q,hQ⟩:=qE (A++B);rw[<-hQ]at a0;have HQ:Hid (Q.length=A.length+B.length):=by show _=_;rw[hQ];simp
   have H4:Hid (yAj w4 w.heap.size g4 c4 Q/\DInv base cb bv n w w4/\(∀e∈Q,e.small)):=⟨a0,H3.d.grow a4 (λk q=>by cases q;exact H3.a.lt.1),λe he=>by rw[hQ]at he;exact(List.mem_append.1 he).elim (λq=>H3.sa e q) (λq=>H3.sb e q)⟩;clear a0 a4 a6 hQ;obtain⟨W5,y⟩:=qE (w4.alloc (Obj.cells #[.int .i64 14,.string ⟨#[]⟩,.bool false,.string ⟨#[]⟩,.int .u64 0,.int .u64 0,.int .i64 0] 35):World);have H5:Hid (yAj W5 w.heap.size g4 c4 Q/\DInv base cb bv n w W5/\yC W5 w4.heap.size 0 [(⟨14,⟨#[]⟩,false,⟨#[]⟩,0,0,0⟩:Nd)]):=by
    have a5:Below w4.heap.size w4 W5:=by rw[y];exact qB
    exact⟨H4.1.below a5 H4.1.lt.2,H4.2.1.below a5,by rw[y];exact(yCc w4 w.heap.size ⟨14,⟨#[]⟩,false,⟨#[]⟩,0,0,0⟩ H4.2.1.c.size).at⟩
   have HW5:Hid (W5=w4.alloc (Obj.cells #[.int .i64 14,.string ⟨#[]⟩,.bool false,.string ⟨#[]⟩,.int .u64 0,.int .u64 0,.int .i64 0] 35)):=y;clear y;go_wp2_with (at_builtin;rw[<-HW5.out];refine yAi _ rfl _ _ rfl w.heap.size g4 c4 (A.length+B.length) w4.heap.size 0 1 1 Q [(⟨14,⟨#[]⟩,false,⟨#[]⟩,0,0,0⟩:Nd)] rfl rfl HQ.symm rfl H5.1 H5.2.2 ?hl2 ?hb2 ?_);case hl2=>rw[HQ.out];simp;omega
   case hb2=>exact H5.2.1.c.size
   intro g6 c6 w6 hO6 hgr6 hat6;have H6:Hid (TreP base cb bv n (3*m+1) w (.returned (.slice (some ⟨g6,0,none⟩) (A.length+B.length+1) c6)) w6):=by
    have hq:=HQ.out;refine⟨g6,c6,Q++ [(⟨14,⟨#[]⟩,false,⟨#[]⟩,0,0,0⟩:Nd)],by rw[length_append,hq];rfl,by rw[length_append,hq];simp;omega,by simp,λe he=>?_,hO6,H5.2.1.grow hgr6 (λk q=>by cases q;exact H5.1.lt.1)⟩;rcases List.mem_append.1 he with q|q
    .exact H4.2.2 e q
    .simp at q;subst q;exact yFt 14 (by omega)
   clear hO6 hgr6 hat6 HW5;go_wp2_with fail;go_ret;exact H6.out
  .by_cases hx8:x<8
   .skip;go_wp2_with (at_builtin;refine yAi _ rfl _ _ rfl w.heap.size ga ca A.length gb 0 B.length cc A B rfl rfl rfl rfl H3.a H3.b.at ?hl1 ?hb1 ?_);case hl1=>omega
    case hb1=>exact H3.d.c.size
    intro g4 c4 w4 a0 a4 a6;obtain⟨Q,hQ⟩:=qE (A++B);rw[<-hQ]at a0;have HQ:Hid (Q.length=A.length+B.length):=by show _=_;rw[hQ];simp
    have H4:Hid (yAj w4 w.heap.size g4 c4 Q/\DInv base cb bv n w w4/\(∀e∈Q,e.small)):=⟨a0,H3.d.grow a4 (λk q=>by cases q;exact H3.a.lt.1),λe he=>by rw[hQ]at he;exact(List.mem_append.1 he).elim (λq=>H3.sa e q) (λq=>H3.sb e q)⟩;clear a0 a4 a6 hQ;obtain⟨W5,y⟩:=qE (w4.alloc (Obj.cells #[.int .i64 15,.string ⟨#[]⟩,.bool false,.string ⟨#[]⟩,.int .u64 0,.int .u64 0,.int .i64 0] 35):World);have H5:Hid (yAj W5 w.heap.size g4 c4 Q/\DInv base cb bv n w W5/\yC W5 w4.heap.size 0 [(⟨15,⟨#[]⟩,false,⟨#[]⟩,0,0,0⟩:Nd)]):=by
     have a5:Below w4.heap.size w4 W5:=by rw[y];exact qB
     exact⟨H4.1.below a5 H4.1.lt.2,H4.2.1.below a5,by rw[y];exact(yCc w4 w.heap.size ⟨15,⟨#[]⟩,false,⟨#[]⟩,0,0,0⟩ H4.2.1.c.size).at⟩
    have HW5:Hid (W5=w4.alloc (Obj.cells #[.int .i64 15,.string ⟨#[]⟩,.bool false,.string ⟨#[]⟩,.int .u64 0,.int .u64 0,.int .i64 0] 35)):=y;clear y;go_wp2_with (at_builtin;rw[<-HW5.out];refine yAi _ rfl _ _ rfl w.heap.size g4 c4 (A.length+B.length) w4.heap.size 0 1 1 Q [(⟨15,⟨#[]⟩,false,⟨#[]⟩,0,0,0⟩:Nd)] rfl rfl HQ.symm rfl H5.1 H5.2.2 ?hl2 ?hb2 ?_);case hl2=>rw[HQ.out];simp;omega
    case hb2=>exact H5.2.1.c.size
    intro g6 c6 w6 hO6 hgr6 hat6;have H6:Hid (TreP base cb bv n (3*m+1) w (.returned (.slice (some ⟨g6,0,none⟩) (A.length+B.length+1) c6)) w6):=by
     have hq:=HQ.out;refine⟨g6,c6,Q++ [(⟨15,⟨#[]⟩,false,⟨#[]⟩,0,0,0⟩:Nd)],by rw[length_append,hq];rfl,by rw[length_append,hq];simp;omega,by simp,λe he=>?_,hO6,H5.2.1.grow hgr6 (λk q=>by cases q;exact H5.1.lt.1)⟩;rcases List.mem_append.1 he with q|q
     .exact H4.2.2 e q
     .simp at q;subst q;exact yFt 15 (by omega)
    clear hO6 hgr6 hat6 HW5;go_wp2_with fail;go_ret;exact H6.out
   .by_cases hx9:x=8
    .subst hx9;have ah:Hid (∀wx,DInv base cb bv n w wx->Calls prog 16 #[.pointer (some ⟨cb,0,none⟩),.int .i64 3] wx λe w'=>∃v:Value,e=.returned v/\(v=.bool true\/v=.bool false)/\Drew base cb bv n wx w'):=λwx hx=>yAx base cb bv n 3 wx hx.d (by omega) (by omega);go_wp2_with fail;refine(ah.out _ H3.d).mono ?_;rintro e ae ⟨v,rfl,hv,hd⟩;have a3:Hid (Two base cb bv n w ga ca gb cc A B ae):=by have ac:=H1.lt;exact⟨H3.a.chg hd.2 (by have:=H3.a.lt.1;omega),H3.b.chg hd.2 (by have:=H3.b.lt.1;omega),H3.ne,H3.d.call hd,H3.sa,H3.sb⟩
     clear H3 hd ah;rcases hv with rfl|rfl
     .skip;go_wp2_with (at_builtin;refine yAi _ rfl _ _ rfl w.heap.size ga ca A.length ga 0 A.length ca A A rfl rfl rfl rfl a3.a a3.a.at ?hl1 ?hb1 ?_);case hl1=>omega
      case hb1=>exact a3.d.c.size
      intro g4 c4 w4 a0 a4 a6;obtain⟨Q,hQ⟩:=qE (A++A);rw[<-hQ]at a0;have HQ:Hid (Q.length=A.length+A.length):=by show _=_;rw[hQ];simp
      have H4:Hid (yAj w4 w.heap.size g4 c4 Q/\DInv base cb bv n w w4/\(∀e∈Q,e.small)):=⟨a0,a3.d.grow a4 (λk q=>by cases q;exact a3.a.lt.1),λe he=>by rw[hQ]at he;exact(List.mem_append.1 he).elim (λq=>a3.sa e q) (λq=>a3.sa e q)⟩;clear a0 a4 a6 hQ;obtain⟨W5,y⟩:=qE (w4.alloc (Obj.cells #[.int .i64 15,.string ⟨#[]⟩,.bool false,.string ⟨#[]⟩,.int .u64 0,.int .u64 0,.int .i64 0] 35):World);have H5:Hid (yAj W5 w.heap.size g4 c4 Q/\DInv base cb bv n w W5/\yC W5 w4.heap.size 0 [(⟨15,⟨#[]⟩,false,⟨#[]⟩,0,0,0⟩:Nd)]):=by
       have a5:Below w4.heap.size w4 W5:=by rw[y];exact qB
       exact⟨H4.1.below a5 H4.1.lt.2,H4.2.1.below a5,by rw[y];exact(yCc w4 w.heap.size ⟨15,⟨#[]⟩,false,⟨#[]⟩,0,0,0⟩ H4.2.1.c.size).at⟩
      have HW5:Hid (W5=w4.alloc (Obj.cells #[.int .i64 15,.string ⟨#[]⟩,.bool false,.string ⟨#[]⟩,.int .u64 0,.int .u64 0,.int .i64 0] 35)):=y;clear y;go_wp2_with (at_builtin;rw[<-HW5.out];refine yAi _ rfl _ _ rfl w.heap.size g4 c4 (A.length+A.length) w4.heap.size 0 1 1 Q [(⟨15,⟨#[]⟩,false,⟨#[]⟩,0,0,0⟩:Nd)] rfl rfl HQ.symm rfl H5.1 H5.2.2 ?hl2 ?hb2 ?_);case hl2=>rw[HQ.out];simp;omega
      case hb2=>exact H5.2.1.c.size
      intro g6 c6 w6 hO6 hgr6 hat6;have H6:Hid (TreP base cb bv n (3*m+1) w (.returned (.slice (some ⟨g6,0,none⟩) (A.length+A.length+1) c6)) w6):=by
       have hq:=HQ.out;refine⟨g6,c6,Q++ [(⟨15,⟨#[]⟩,false,⟨#[]⟩,0,0,0⟩:Nd)],by rw[length_append,hq];rfl,by rw[length_append,hq];simp;omega,by simp,λe he=>?_,hO6,H5.2.1.grow hgr6 (λk q=>by cases q;exact H5.1.lt.1)⟩;rcases List.mem_append.1 he with q|q
       .exact H4.2.2 e q
       .simp at q;subst q;exact yFt 15 (by omega)
      clear hO6 hgr6 hat6 HW5;go_wp2_with fail;go_ret;exact H6.out
     .skip;have aa:Hid (DInv base cb bv n w ae):=a3.d;go_wp2_with fail;refine(HC.out _ aa.out).mono ?_;rintro e w7 ⟨gc,cd,C,rfl,an,ao,K7⟩;have al:=K7.out.2.2.c.size;have am:=K7.out.2.1.lt;have H7:Hid (Two base cb bv n w ga ca gb cc A B w7/\yAj w7 w.heap.size gc cd C/\(∀e∈C,e.small)/\¬gc=ga):=by have ac:=H1.lt;have aj:=a3.a.lt;have ag:=a3.d.c.size;exact⟨⟨a3.a.chg K7.out.2.2.c (by omega),a3.b.chg K7.out.2.2.c (by have:=a3.b.lt.1;omega),a3.ne,⟨K7.out.2.2.d,a3.d.c.trans K7.out.2.2.c,H1.lt,H1.hb⟩,a3.sa,a3.sb⟩,K7.out.2.1.mono (by omega),K7.out.1,by omega⟩
      clear K7 aa a3;go_wp2_with (at_builtin;refine yAi _ rfl _ _ rfl w.heap.size ga ca A.length gb 0 B.length cc A B rfl rfl rfl rfl H7.1.a H7.1.b.at ?hl1 ?hb1 ?_);case hl1=>omega
      case hb1=>exact H7.1.d.c.size
      intro g4 c4 w4 a0 a4 a6;obtain⟨Q,hQ⟩:=qE (A++B);rw[<-hQ]at a0;have HQ:Hid (Q.length=A.length+B.length):=by show _=_;rw[hQ];simp
      have H4:Hid (yAj w4 w.heap.size g4 c4 Q/\DInv base cb bv n w w4/\(∀e∈Q,e.small)/\yAj w4 w.heap.size gc cd C):=⟨a0,H7.1.d.grow a4 (λk q=>by cases q;exact H7.1.a.lt.1),λe he=>by rw[hQ]at he;exact(List.mem_append.1 he).elim (λq=>H7.1.sa e q) (λq=>H7.1.sb e q),H7.2.1.chg (Chg.of_grown (S:=λk=>k=ga) a4 (λk q=>by cases q;rfl)) H7.2.2.2⟩;clear a0 a4 a6 hQ;go_wp2_with (at_builtin;refine yAi _ rfl _ _ rfl w.heap.size g4 c4 (A.length+B.length) gc 0 C.length cd Q C rfl rfl HQ.symm rfl H4.1 H4.2.2.2.at ?hl2 ?hb2 ?_);case hl2=>rw[HQ.out];omega
      case hb2=>exact H4.2.1.c.size
      intro g8 c8 w8 a8 a9 ad;obtain⟨T,a7⟩:=qE (Q++C);rw[<-a7]at a8;have HTl:Hid (T.length=A.length+B.length+C.length):=by show _=_;rw[a7,length_append,HQ.out]
      have H8:Hid (yAj w8 w.heap.size g8 c8 T/\DInv base cb bv n w w8/\(∀e∈T,e.small)):=⟨a8,H4.2.1.grow a9 (λk q=>by cases q;exact H4.1.lt.1),λe he=>by rw[a7]at he;exact(List.mem_append.1 he).elim (λq=>H4.2.2.1 e q) (λq=>H7.2.2.1 e q)⟩;clear a8 a9 ad a7;obtain⟨W5,y⟩:=qE (w8.alloc (Obj.cells #[.int .i64 16,.string ⟨#[]⟩,.bool false,.string ⟨#[]⟩,.int .u64 0,.int .u64 0,.int .i64 0] 35):World);have H5:Hid (yAj W5 w.heap.size g8 c8 T/\DInv base cb bv n w W5/\yC W5 w8.heap.size 0 [(⟨16,⟨#[]⟩,false,⟨#[]⟩,0,0,0⟩:Nd)]):=by
       have a5:Below w8.heap.size w8 W5:=by rw[y];exact qB
       exact⟨H8.1.below a5 H8.1.lt.2,H8.2.1.below a5,by rw[y];exact(yCc w8 w.heap.size ⟨16,⟨#[]⟩,false,⟨#[]⟩,0,0,0⟩ H8.2.1.c.size).at⟩
      have HW5:Hid (W5=w8.alloc (Obj.cells #[.int .i64 16,.string ⟨#[]⟩,.bool false,.string ⟨#[]⟩,.int .u64 0,.int .u64 0,.int .i64 0] 35)):=y;clear y;go_wp2_with (at_builtin;rw[<-HW5.out];refine yAi _ rfl _ _ rfl w.heap.size g8 c8 (A.length+B.length+C.length) w8.heap.size 0 1 1 T [(⟨16,⟨#[]⟩,false,⟨#[]⟩,0,0,0⟩:Nd)] rfl rfl HTl.symm rfl H5.1 H5.2.2 ?hl3 ?hb3 ?_);case hl3=>rw[HTl.out];simp;omega
      case hb3=>exact H5.2.1.c.size
      exact xBb
    .have aq:=qn hx9
     have aa:Hid (DInv base cb bv n w w3):=H3.d;go_wp2_with fail;refine(HC.out _ aa.out).mono ?_;rintro e w7 ⟨gc,cd,C,rfl,an,ao,K7⟩;have al:=K7.out.2.2.c.size;have am:=K7.out.2.1.lt;have H7:Hid (Two base cb bv n w ga ca gb cc A B w7/\yAj w7 w.heap.size gc cd C/\(∀e∈C,e.small)/\¬gc=ga):=by have ac:=H1.lt;have aj:=H3.a.lt;have ag:=H3.d.c.size;exact⟨⟨H3.a.chg K7.out.2.2.c (by omega),H3.b.chg K7.out.2.2.c (by have:=H3.b.lt.1;omega),H3.ne,⟨K7.out.2.2.d,H3.d.c.trans K7.out.2.2.c,H1.lt,H1.hb⟩,H3.sa,H3.sb⟩,K7.out.2.1.mono (by omega),K7.out.1,by omega⟩
     clear K7 aa H3;go_wp2_with (at_builtin;refine yAi _ rfl _ _ rfl w.heap.size ga ca A.length gb 0 B.length cc A B rfl rfl rfl rfl H7.1.a H7.1.b.at ?hl1 ?hb1 ?_);case hl1=>omega
     case hb1=>exact H7.1.d.c.size
     intro g4 c4 w4 a0 a4 a6;obtain⟨Q,hQ⟩:=qE (A++B);rw[<-hQ]at a0;have HQ:Hid (Q.length=A.length+B.length):=by show _=_;rw[hQ];simp
     have H4:Hid (yAj w4 w.heap.size g4 c4 Q/\DInv base cb bv n w w4/\(∀e∈Q,e.small)/\yAj w4 w.heap.size gc cd C):=⟨a0,H7.1.d.grow a4 (λk q=>by cases q;exact H7.1.a.lt.1),λe he=>by rw[hQ]at he;exact(List.mem_append.1 he).elim (λq=>H7.1.sa e q) (λq=>H7.1.sb e q),H7.2.1.chg (Chg.of_grown (S:=λk=>k=ga) a4 (λk q=>by cases q;rfl)) H7.2.2.2⟩;clear a0 a4 a6 hQ;go_wp2_with (at_builtin;refine yAi _ rfl _ _ rfl w.heap.size g4 c4 (A.length+B.length) gc 0 C.length cd Q C rfl rfl HQ.symm rfl H4.1 H4.2.2.2.at ?hl2 ?hb2 ?_);case hl2=>rw[HQ.out];omega
     case hb2=>exact H4.2.1.c.size
     intro g8 c8 w8 a8 a9 ad;obtain⟨T,a7⟩:=qE (Q++C);rw[<-a7]at a8;have HTl:Hid (T.length=A.length+B.length+C.length):=by show _=_;rw[a7,length_append,HQ.out]
     have H8:Hid (yAj w8 w.heap.size g8 c8 T/\DInv base cb bv n w w8/\(∀e∈T,e.small)):=⟨a8,H4.2.1.grow a9 (λk q=>by cases q;exact H4.1.lt.1),λe he=>by rw[a7]at he;exact(List.mem_append.1 he).elim (λq=>H4.2.2.1 e q) (λq=>H7.2.2.1 e q)⟩;clear a8 a9 ad a7;obtain⟨W5,y⟩:=qE (w8.alloc (Obj.cells #[.int .i64 16,.string ⟨#[]⟩,.bool false,.string ⟨#[]⟩,.int .u64 0,.int .u64 0,.int .i64 0] 35):World);have H5:Hid (yAj W5 w.heap.size g8 c8 T/\DInv base cb bv n w W5/\yC W5 w8.heap.size 0 [(⟨16,⟨#[]⟩,false,⟨#[]⟩,0,0,0⟩:Nd)]):=by
      have a5:Below w8.heap.size w8 W5:=by rw[y];exact qB
      exact⟨H8.1.below a5 H8.1.lt.2,H8.2.1.below a5,by rw[y];exact(yCc w8 w.heap.size ⟨16,⟨#[]⟩,false,⟨#[]⟩,0,0,0⟩ H8.2.1.c.size).at⟩
     have HW5:Hid (W5=w8.alloc (Obj.cells #[.int .i64 16,.string ⟨#[]⟩,.bool false,.string ⟨#[]⟩,.int .u64 0,.int .u64 0,.int .i64 0] 35)):=y;clear y;go_wp2_with (at_builtin;rw[<-HW5.out];refine yAi _ rfl _ _ rfl w.heap.size g8 c8 (A.length+B.length+C.length) w8.heap.size 0 1 1 T [(⟨16,⟨#[]⟩,false,⟨#[]⟩,0,0,0⟩:Nd)] rfl rfl HTl.symm rfl H5.1 H5.2.2 ?hl3 ?hb3 ?_);case hl3=>rw[HTl.out];simp;omega
     case hb3=>exact H5.2.1.c.size
     exact xBb
theorem yV7(base cb:Nat)(bv:Value)(n:Nat)(z:Int)(h0:0<=z)(h3:z<=3):TreC base cb bv n z 40:=by
 have t0:TreC base cb bv n 0 1:=yGm base cb bv n 0 0 (by omega) (by omega) (by omega) (λq=>absurd q (by omega));have t1:TreC base cb bv n 1 4:=yGm base cb bv n 1 1 (by omega) (by omega) (by omega) (λ_=>t0);have t2:TreC base cb bv n 2 13:=yGm base cb bv n 2 4 (by omega) (by omega) (by omega) (λ_=>t1);have t3:TreC base cb bv n 3 40:=yGm base cb bv n 3 13 (by omega) (by omega) (by omega) (λ_=>t2);have hz:z=0\/z=1\/z=2\/z=3:=by omega
 rcases hz with rfl|rfl|rfl|rfl
 .exact λw hw=>(t0 w hw).mono λe w' h=>h.up (by omega)
 .exact λw hw=>(t1 w hw).mono λe w' h=>h.up (by omega)
 .exact λw hw=>(t2 w hw).mono λe w' h=>h.up (by omega)
 .exact t3
def FilP(base cb:Nat)(bv:Value)(n m:Nat)(w:World)(e:Ending)(w':World):Prop:=∃(g cp:Nat)(xs:List Nd),e=.returned (.agg #[.slice (some ⟨g,0,none⟩) xs.length cp])/\xs.length<=m/\0<xs.length/\Hid ((∀e∈xs,e.small)/\yAj w' w.heap.size g cp xs/\DInv base cb bv n w w')
theorem yJ4(base cb:Nat)(bv:Value)(n:Nat)(w:World)(h:yAd base cb bv n w):
  Calls prog 15 #[.pointer (some ⟨cb,0,none⟩)] w (FilP base cb bv n 40 w):=by
 obtain⟨Wa,y⟩:=qE (w.alloc (Obj.cells #[.slice none 0 0] 25):World);have a4:Below w.heap.size w Wa:=by rw[y];exact qB
 have HA:Hid (DInv base cb bv n w Wa/\yA Wa w.heap.size 25 1 w.heap.size [.slice none 0 0]):=⟨(DInv.start h).below a4,by rw[y];exact yAa w #[.slice none 0 0] (Nat.le_refl _) rfl⟩;clear h a4;go_enter func15,ntmps15;go_wp2_with fail;rw[<-y];clear y;refine(yAh base cb bv n 3 _ HA.1.d (by omega) (by omega)).mono ?_;rintro e w1 ⟨x,rfl,a9,a8,a3⟩;have H1:Hid (DInv base cb bv n w w1/\yA w1 w.heap.size 25 1 w.heap.size [.slice none 0 0]):=⟨HA.1.call a3,HA.2.chg a3.2 (by have:=HA.1.lt;omega)⟩;clear a3 HA;have HC:Hid (Calls prog 43 #[.pointer (some ⟨cb,0,none⟩),.int .i64 (1+x)] w1 (TreP base cb bv n 40 w1)):=yV7 base cb bv n (1+x) (by omega) (by omega) w1 H1.1.d;go_wp2_with fail;refine HC.mono ?_;rintro e w2 ⟨g,cp,xs,rfl,hl,h0,K2⟩;have H2:Hid (yA w2 w.heap.size 25 1 w.heap.size [.slice none 0 0]):=H1.2.chg K2.out.2.2.c (by have:=H1.1.lt;omega);obtain⟨N,hN⟩:=qE xs.length;have HN:Hid (N=xs.length):=hN;rw[<-hN]at hl h0|-;clear hN;obtain⟨W3,a0⟩:=qE (w2.setCell ⟨w.heap.size,0,none⟩ (.slice (some ⟨g,0,none⟩) N cp):World);have H3:Hid (FilP base cb bv n 40 w (.returned (.agg #[.slice (some ⟨g,0,none⟩) N cp])) W3):=by
  have aa:=K2.out.2.1.lt;have a7:=H1.2.lt.2;have a6:Chg (λk=>k=w.heap.size) w2 W3:=by rw[a0];exact Chg.of_set _ _ _ _ rfl
  refine⟨g,cp,xs,by rw[HN.out],by rw[<-HN.out];exact hl,by rw[<-HN.out];exact h0,K2.out.1,(K2.out.2.1.mono (by omega)).chg a6 (by omega),?_⟩;have a5:DInv base cb bv n w w2:=⟨K2.out.2.2.d,H1.1.c.trans K2.out.2.2.c,H1.1.lt,H1.1.hb⟩;rw[a0];exact a5.grow (yAk w2 w.heap.size 0 _) (λk q=>by cases q;exact Nat.le_refl _)
 have p0:W3.cell? ⟨w.heap.size,0,none⟩=some (.slice (some ⟨g,0,none⟩) N cp):=by rw[a0];exact(H2.set 0 (.slice (some ⟨g,0,none⟩) N cp)).cell (j:=0) rfl
 have c0:=H2.cell (j:=0) rfl;have f0:=H2.frozen 0;clear K2 HC;go_wp2_with fail;rw[<-a0];exact bodyPost_ret (by simp[results,results15,go_sem,p0]) rfl H3.out
theorem yRz(w:World)(base:Nat)(es:List Nd)(cs:Array Value)(hcs:cs.toList=yCv es)(hb:base<=w.heap.size)(hl:es.length<=maxLen):yAj (w.alloc (Obj.cells cs 35)) base w.heap.size es.length es:=by have h:=World.ownsRow_lit (base:=base) (e:=35) (size:=7) w cs es.length hb hl (by rw[<-Array.length_toList,hcs,yF]);unfold yAj;rw[<-hcs];exact h
def AnyP(base cb:Nat)(bv:Value)(n:Nat)(w:World)(e:Ending)(w':World):Prop:=∃(b o c:Nat)(ys:List Nd),e=.returned (.agg #[.slice (some ⟨b,o,none⟩) ys.length c])/\ys.length<=1001/\Hid ((∀e∈ys,e.ok)/\yC w' b o ys/\(w.heap.size<=b/\b<w'.heap.size)/\(ys.length<=c/\c<=maxLen)/\DInv base cb bv n w w')
theorem wf_n{x:Int}(h:0<=x/\x<=100000):(Lit.int .i64 (x+1000)).wf=true:=by exact yZz
structure SpJ(base cb:Nat)(bv:Value)(n:Nat)(w:World)(eb g cp:Nat)(xs:List Nd)(f:Nd)(wr:World):Prop where
 row:yAj wr w.heap.size g cp xs
 e:yA wr w.heap.size 35 7 eb f.seven
 res:yA wr w.heap.size 25 1 (w.heap.size+1) [.slice none 0 0]
 d:DInv base cb bv n w wr
 ne:¬g=eb/\w.heap.size+1<g/\w.heap.size+1<eb
 ok:f.ok
variable {eb:Nat} {xs:List Nd} {f:Nd}
theorem SpJ.call(h:SpJ base cb bv n w eb g cp xs f wr)(hd:Drew base cb bv n wr w1):SpJ base cb bv n w eb g cp xs f w1:=by have hl:=h.d.lt;have h1:=h.ne;exact⟨h.row.chg hd.2 (by omega),h.e.chg hd.2 (by omega),h.res.chg hd.2 (by omega),h.d.call hd,h.ne,h.ok⟩
theorem SpJ.below(h:SpJ base cb bv n w eb g cp xs f wr)(hd:Below wr.heap.size wr w1):SpJ base cb bv n w eb g cp xs f w1:=⟨h.row.below hd h.row.lt.2,h.e.below hd,h.res.below hd,h.d.below hd,h.ne,h.ok⟩
theorem SpJ.set(h:SpJ base cb bv n w eb g cp xs f wr)(j:Nat)(f':Nd)(u:Value)(hc:f'.seven=f.seven.set j u)(ho:f'.ok):SpJ base cb bv n w eb g cp xs f' (wr.setCell ⟨eb,j,none⟩ u):=by have h1:=h.e.set j u;rw[<-hc]at h1;have hn:=h.ne;have y:Chg (λk=>k=eb) wr (wr.setCell ⟨eb,j,none⟩ u):=Chg.of_set _ _ _ _ rfl;exact⟨h.row.chg y hn.1,h1,h.res.chg y (by omega),h.d.grow (yAk wr eb j u) (λk q=>by cases q;omega),hn,ho⟩
theorem SpJ.back(h:SpJ base cb bv n w eb g cp xs f wr)(hx:∀e∈xs,e.ok)(hl:xs.length<=1000){i:Nat}{e0:Nd}(he:xs[i]?=some e0)(W9:World)
  (h9:W9=(((((((wr.setCell ⟨g,i*7,none⟩ (.int .i64 f.kind)).setCell ⟨g,i*7+1,none⟩ (.string f.s)).setCell ⟨g,i*7+2,none⟩ (.bool f.hi)).setCell ⟨g,i*7+3,none⟩ (.string f.t)).setCell ⟨g,i*7+4,none⟩ (.int .u64 f.lo)).setCell ⟨g,i*7+5,none⟩ (.int .u64 f.up)).setCell ⟨g,i*7+6,none⟩ (.int .i64 f.n))):
  yA W9 w.heap.size 25 1 (w.heap.size+1) [.slice none 0 0]/\∀N WF,N=xs.length->WF=W9.setCell ⟨w.heap.size+1,0,none⟩ (.slice (some ⟨g,0,none⟩) N cp)->WF.cell? ⟨w.heap.size+1,0,none⟩=some (.slice (some ⟨g,0,none⟩) N cp)/\AnyP base cb bv n w (.returned (.agg #[.slice (some ⟨g,0,none⟩) N cp])) WF:=by
 have hn:=h.ne;have a4:=h.row.put i e0 f he;rw[<-h9]at a4;have y:Chg (λk=>k=g) wr W9:=by rw[h9];exact((((((Chg.of_set (S:=λk=>k=g) _ _ _ _ rfl).trans (Chg.of_set (S:=λk=>k=g) _ _ _ _ rfl)).trans (Chg.of_set (S:=λk=>k=g) _ _ _ _ rfl)).trans (Chg.of_set (S:=λk=>k=g) _ _ _ _ rfl)).trans (Chg.of_set (S:=λk=>k=g) _ _ _ _ rfl)).trans (Chg.of_set (S:=λk=>k=g) _ _ _ _ rfl)).trans (Chg.of_set (S:=λk=>k=g) _ _ _ _ rfl)
 have a3:=h.res.chg y (by omega);have a6:DInv base cb bv n w W9:=by have a5:=h.d.lt;have a8:=h.d.hb;exact⟨h.d.d.chg y (by omega) (λk q=>by omega),⟨y.os.trans h.d.c.os,y.tape.trans h.d.c.tape,y.output.trans h.d.c.output,Nat.le_trans h.d.c.size y.size,λk hk hnk=>(y.block k (Nat.lt_of_lt_of_le hk h.d.c.size) (by omega)).trans (h.d.c.block k hk hnk)⟩,a5,a8⟩
 refine⟨a3,λN WF hN hWF=>?_⟩;subst hN;have a7:Chg (λk=>k=w.heap.size+1) W9 WF:=by rw[hWF];exact Chg.of_set _ _ _ _ rfl
 have a0:=a4.chg a7 (by omega);refine⟨by rw[hWF];exact(a3.set 0 (.slice (some ⟨g,0,none⟩) xs.length cp)).cell (j:=0) rfl,g,0,cp,xs.set i f,by rw[length_set],by rw[length_set];omega,λe he=>?_,a0.at,⟨by have:=a0.lt.1;omega,a0.lt.2⟩,by have h8:=a0.caps;exact h8,?_⟩
 .rcases mem_or_eq_of_mem_set he with q|q
  .exact hx e q
  .rw[q];exact h.ok
 .rw[hWF];exact a6.grow (yAk W9 (w.heap.size+1) 0 _) (λk q=>by cases q;omega)
theorem yWl{b:Nat}(h:yC w b 0 xs):yC w b 7 (xs.drop 1):=by intro i e he;rw[getElem?_drop]at he;have:=h (1+i) e he;rw[show 0+(1+i)*7=7+i*7 by omega]at this;exact this
theorem SpJ.cut(h:SpJ base cb bv n w eb g cp xs f wr)(ys:List Nd)(o m c:Nat)(hy:yC wr g o ys)(hok:∀e∈ys,e.ok)(hm:m=ys.length)(hl:m<=1001/\m<=c)(hc:c<=maxLen)(WF:World)(hWF:WF=wr.setCell ⟨w.heap.size+1,0,none⟩ (.slice (some ⟨g,o,none⟩) m c)):
  WF.cell? ⟨w.heap.size+1,0,none⟩=some (.slice (some ⟨g,o,none⟩) m c)/\AnyP base cb bv n w (.returned (.agg #[.slice (some ⟨g,o,none⟩) m c])) WF:=by
 subst hm;have hn:=h.ne;have y:=h.row.lt.2;have a0:Chg (λk=>k=w.heap.size+1) wr WF:=by rw[hWF];exact Chg.of_set _ _ _ _ rfl
 refine⟨by rw[hWF];exact(h.res.set 0 (.slice (some ⟨g,o,none⟩) ys.length c)).cell (j:=0) rfl,g,o,c,ys,rfl,hl.1,hok,λi e he=>?_,⟨by omega,Nat.lt_of_lt_of_le y a0.size⟩,⟨hl.2,hc⟩,by rw[hWF];exact h.d.grow (yAk wr (w.heap.size+1) 0 _) (λk q=>by cases q;omega)⟩;obtain⟨e0,e1,e2,e3,e4,e5,e6⟩:=hy i e he;exact⟨(a0.cell (p:=⟨g,o+i*7,none⟩) y (by show¬g=_;omega)).trans e0,(a0.cell (p:=⟨g,o+i*7+1,none⟩) y (by show¬g=_;omega)).trans e1,(a0.cell (p:=⟨g,o+i*7+2,none⟩) y (by show¬g=_;omega)).trans e2,(a0.cell (p:=⟨g,o+i*7+3,none⟩) y (by show¬g=_;omega)).trans e3,(a0.cell (p:=⟨g,o+i*7+4,none⟩) y (by show¬g=_;omega)).trans e4,(a0.cell (p:=⟨g,o+i*7+5,none⟩) y (by show¬g=_;omega)).trans e5,(a0.cell (p:=⟨g,o+i*7+6,none⟩) y (by show¬g=_;omega)).trans e6⟩
theorem yKs(base cb:Nat)(bv:Value)(n:Nat)(w:World)(h:yAd base cb bv n w){b0:Nat}(hO:yAj w b0 g cp xs)(hs:∀e∈xs,e.small)(hl:xs.length<=1000)(h0:0<xs.length):
  Calls prog 17 #[.pointer (some ⟨cb,0,none⟩),.agg #[.slice (some ⟨g,0,none⟩) xs.length cp]] w (AnyP base cb bv n w):=by
 have HX:Hid (yAj w b0 g cp xs/\(∀e∈xs,e.small)):=⟨hO,hs⟩;obtain⟨N,hN⟩:=qE xs.length;have HN:Hid (N=xs.length):=hN;rw[<-hN]at hl h0|-;have aH:cp<=9223372036854775807:=by have:=hO.caps;unfold maxLen at this;omega
 have aJ:N<=cp:=by have:=hO.caps;omega
 obtain⟨W0,a4⟩:=qE ((w.alloc (Obj.cells #[.slice (some ⟨g,0,none⟩) N cp] 25)).alloc (Obj.cells #[.slice none 0 0] 25):World);have ae:W0.heap.size=w.heap.size+1+1:=by rw[a4];simp
 have H0:Hid (DInv base cb bv n w W0/\yA W0 w.heap.size 25 1 w.heap.size [.slice (some ⟨g,0,none⟩) N cp]/\yA W0 w.heap.size 25 1 (w.heap.size+1) [.slice none 0 0]/\yAj W0 b0 g cp xs):=by
  have b1:=yAa w (base:=w.heap.size) (t:=25) (sz:=1) #[.slice (some ⟨g,0,none⟩) N cp] (Nat.le_refl _) rfl;obtain⟨X,hX⟩:=qE (w.alloc (Obj.cells #[.slice (some ⟨g,0,none⟩) N cp] 25));rw[<-hX]at b1 a4;have zx:X.heap.size=w.heap.size+1:=by rw[hX];simp
  have k1:Below w.heap.size w X:=by rw[hX];exact qB
  have k2:Below X.heap.size X W0:=by rw[a4];exact qB
  have b2:=yAa X (base:=w.heap.size) (t:=25) (sz:=1) #[.slice none 0 0] (by omega) rfl;rw[<-a4,zx]at b2;exact⟨((DInv.start h).below k1).below k2,b1.below k2,b2,(hO.below k1 hO.lt.2).below k2 (by have:=hO.lt.2;omega)⟩
 clear h hO hs hN;have aK:((N:Int)==0)=false:=by rw[beq_eq_false_iff_ne];omega
 have c0:=H0.2.1.cell (j:=0) rfl;go_enter func17,ntmps17;go_upto_region 1 with fail;rw[<-a4];clear a4;obtain⟨W1,a8⟩:=qE (W0.alloc (Obj.cells #[] 35):World);have a0:Hid (Below W0.heap.size W0 W1/\yAj W1 w.heap.size W0.heap.size 0 []/\W1=W0.alloc (Obj.cells #[] 35)):=⟨by rw[a8];exact qB,by rw[a8];exact yRz W0 w.heap.size [] #[] rfl (by omega) (by decide),a8⟩;clear a8;have HZ:Hid (W0.heap.size=w.heap.size+1+1):=ae;clear ae;go_upto_region 3 with fail;clear c0;have c1:(W0.alloc (Obj.cells #[] 35)).cell? ⟨w.heap.size,0,none⟩=some (.slice (some ⟨g,0,none⟩) N cp):=by rw[<-a0.2.2];exact(H0.2.1.below a0.1).cell (j:=0) rfl
 go_wp2_with (at_builtin;rw[<-a0.2.2];refine yAi _ rfl _ _ rfl w.heap.size W0.heap.size 0 0 g 0 N cp [] xs rfl rfl rfl HN.out a0.2.1 (H0.2.2.2.below a0.1 H0.2.2.2.lt.2).at ?hl ?hb ?_);case hl=>rw[<-HN.out];simp;omega
 case hb=>have h1:=a0.1.size;have h2:=HZ.out;omega
 intro g5 c5 w5 an aa al;have H5:Hid (DInv base cb bv n w w5/\yAj w5 w.heap.size g5 c5 xs/\yA w5 w.heap.size 25 1 (w.heap.size+1) [.slice none 0 0]/\w.heap.size+1<g5):=by
  have hz:=HZ.out;have ai:Chg (λk=>k=W0.heap.size) W1 w5:=Chg.of_grown aa (λk q=>by cases q;rfl);refine⟨(H0.1.below a0.1).grow aa (λk q=>by cases q;omega),by simpa using an,(H0.2.2.1.below a0.1).chg ai (by omega),?_⟩;rcases al with q|q
  .omega
  .have:=a0.1.size;omega
 have aG:=H5.2.1.lt;have ai:N<=c5/\c5<=9223372036854775807:=by have:=H5.2.1.caps;unfold maxLen at this;have:=HN.out;omega
 clear an aa al c1;try simp only[Nat.zero_add]
 go_wp2_with fail;refine(yAh base cb bv n (N:Int) _ H5.1.d (by omega) (by omega)).mono ?_;rintro e w6 ⟨ii,rfl,aE,aD,a5⟩;obtain⟨i,rfl⟩:∃k:Nat,ii=(k:Int):=⟨ii.toNat,by omega⟩;have hiN:i<N:=by omega
 obtain⟨f,hf⟩:∃f,xs[i]?=some f:=⟨_,getElem?_eq_getElem (by have:=HN.out;omega)⟩;have H6:Hid (DInv base cb bv n w w6/\yAj w6 w.heap.size g5 c5 xs/\yA w6 w.heap.size 25 1 (w.heap.size+1) [.slice none 0 0]/\xs[i]?=some f):=by have aI:=H5.1.lt;exact⟨H5.1.call a5,H5.2.1.chg a5.2 (by omega),H5.2.2.1.chg a5.2 (by omega),hf⟩
 have az:=a5.2.size;obtain⟨d0,d1,d2,d3,d4,d5,d6⟩:=H6.2.1.at i f hf;simp only[Nat.zero_add]at d0 d1 d2 d3 d4 d5 d6;clear a5 hf;obtain⟨eb,ac⟩:=qE w6.heap.size;obtain⟨W7,a7⟩:=qE (w6.alloc (Obj.cells #[.int .i64 f.kind,.string f.s,.bool f.hi,.string f.t,.int .u64 f.lo,.int .u64 f.up,.int .i64 f.n] 35):World);have H7:Hid (SpJ base cb bv n w eb g5 c5 xs f W7):=by
  have k7:Below w6.heap.size w6 W7:=by rw[a7];exact qB
  have b7:yA W7 w.heap.size 35 7 eb f.seven:=by rw[a7,ac];exact yAa w6 #[.int .i64 f.kind,.string f.s,.bool f.hi,.string f.t,.int .u64 f.lo,.int .u64 f.up,.int .i64 f.n] H6.1.c.size rfl
  exact⟨H6.2.1.below k7 H6.2.1.lt.2,b7,H6.2.2.1.below k7,H6.1.below k7,⟨by omega,H5.2.2.2,by have:=H6.2.2.1.lt.2;omega⟩,(HX.2 f (mem_of_getElem? H6.2.2.2)).ok⟩
 have HSm:Hid (f.small/\xs[i]?=some f):=⟨HX.2 f (mem_of_getElem? H6.2.2.2),H6.2.2.2⟩;go_upto_region 6 with fail;rw[<-a7,<-ac];clear a7 ac d0 d1 d2 d3 d4 d5 d6 H6 H5 H0 a0;go_wp2_with fail;refine(yAh base cb bv n 10 _ H7.d.d (by omega) (by omega)).mono ?_;rintro e w8 ⟨x,rfl,ay,ax,ah⟩;have H8:Hid (SpJ base cb bv n w eb g5 c5 xs f w8):=H7.call ah;clear ah H7;by_cases x0:x=0
 .subst x0;go_wp2_with fail;refine(yAh base cb bv n 18 _ H8.d.d (by omega) (by omega)).mono ?_;rintro e w9 ⟨q,rfl,ao,aB,ag⟩;have H9:Hid (SpJ base cb bv n w eb g5 c5 xs f w9):=H8.call ag;clear ag;have z1:=H9.e.cell (j:=0) rfl;have z2:=H9.e.frozen 0;obtain⟨WA,y⟩:=qE (w9.setCell ⟨eb,0,none⟩ (.int .i64 q):World);have HA:Hid (SpJ base cb bv n w eb g5 c5 xs (⟨q,f.s,f.hi,f.t,f.lo,f.up,f.n⟩:Nd) WA):=by rw[y];exact H9.set 0 _ _ rfl ⟨H8.ok.s,H8.ok.t,(yT (x:=q) ⟨ao,by omega⟩),H8.ok.lo,H8.ok.up,H8.ok.n⟩
  go_upto_region 27 with fail;rw[<-y];clear y z1 z2;obtain⟨k0,k1,k2,k3,k4,k5,k6⟩:=HA.e.c7;simp only at k0 k1 k2 k3 k4 k5 k6;obtain⟨d0,d1,d2,d3,d4,d5,d6⟩:=HA.row.at i _ HSm.2;simp only[Nat.zero_add]at d0 d1 d2 d3 d4 d5 d6;have hfz:=λj=>World.ownsRow.frozenAt HA.row j;obtain⟨WP,hWP⟩:=qE ((((((((WA.setCell ⟨g5,i*7,none⟩ (.int .i64 q)).setCell ⟨g5,i*7+1,none⟩ (.string f.s)).setCell ⟨g5,i*7+2,none⟩ (.bool f.hi)).setCell ⟨g5,i*7+3,none⟩ (.string f.t)).setCell ⟨g5,i*7+4,none⟩ (.int .u64 f.lo)).setCell ⟨g5,i*7+5,none⟩ (.int .u64 f.up)).setCell ⟨g5,i*7+6,none⟩ (.int .i64 f.n)):World);exact zzQ3
 by_cases x1:x=1
 .subst x1;have z1:=H8.e.cell (j:=1) rfl;have z2:=H8.e.frozen 1;obtain⟨WA,y⟩:=qE (w8.setCell ⟨eb,1,none⟩ (.string ⟨#[40,97]⟩):World);have HA:Hid (SpJ base cb bv n w eb g5 c5 xs (⟨f.kind,⟨#[40,97]⟩,f.hi,f.t,f.lo,f.up,f.n⟩:Nd) WA):=by rw[y];exact H8.set 1 _ _ rfl ⟨(by show(2:Nat)<=maxLen;decide),H8.ok.t,H8.ok.kind,H8.ok.lo,H8.ok.up,H8.ok.n⟩
  go_upto_region 27 with fail;rw[<-y];clear y z1 z2;obtain⟨k0,k1,k2,k3,k4,k5,k6⟩:=HA.e.c7;simp only at k0 k1 k2 k3 k4 k5 k6;obtain⟨d0,d1,d2,d3,d4,d5,d6⟩:=HA.row.at i _ HSm.2;simp only[Nat.zero_add]at d0 d1 d2 d3 d4 d5 d6;have hfz:=λj=>World.ownsRow.frozenAt HA.row j;obtain⟨WP,hWP⟩:=qE ((((((((WA.setCell ⟨g5,i*7,none⟩ (.int .i64 f.kind)).setCell ⟨g5,i*7+1,none⟩ (.string ⟨#[40,97]⟩)).setCell ⟨g5,i*7+2,none⟩ (.bool f.hi)).setCell ⟨g5,i*7+3,none⟩ (.string f.t)).setCell ⟨g5,i*7+4,none⟩ (.int .u64 f.lo)).setCell ⟨g5,i*7+5,none⟩ (.int .u64 f.up)).setCell ⟨g5,i*7+6,none⟩ (.int .i64 f.n)):World);exact zzQ3
 by_cases x2:x=2
 .subst x2;have aq:=HSm.1.n;have z1:=H8.e.cell (j:=6) rfl;have z2:=H8.e.frozen 6;obtain⟨WA,y⟩:=qE (w8.setCell ⟨eb,6,none⟩ (.int .i64 (f.n+1000)):World);have HA:Hid (SpJ base cb bv n w eb g5 c5 xs (⟨f.kind,f.s,f.hi,f.t,f.lo,f.up,(f.n+1000)⟩:Nd) WA):=by rw[y];exact H8.set 6 _ _ rfl ⟨H8.ok.s,H8.ok.t,H8.ok.kind,H8.ok.lo,H8.ok.up,(wf_n aq)⟩
  go_upto_region 27 with fail;rw[<-y];clear y z1 z2;obtain⟨k0,k1,k2,k3,k4,k5,k6⟩:=HA.e.c7;simp only at k0 k1 k2 k3 k4 k5 k6;obtain⟨d0,d1,d2,d3,d4,d5,d6⟩:=HA.row.at i _ HSm.2;simp only[Nat.zero_add]at d0 d1 d2 d3 d4 d5 d6;have hfz:=λj=>World.ownsRow.frozenAt HA.row j;obtain⟨WP,hWP⟩:=qE ((((((((WA.setCell ⟨g5,i*7,none⟩ (.int .i64 f.kind)).setCell ⟨g5,i*7+1,none⟩ (.string f.s)).setCell ⟨g5,i*7+2,none⟩ (.bool f.hi)).setCell ⟨g5,i*7+3,none⟩ (.string f.t)).setCell ⟨g5,i*7+4,none⟩ (.int .u64 f.lo)).setCell ⟨g5,i*7+5,none⟩ (.int .u64 f.up)).setCell ⟨g5,i*7+6,none⟩ (.int .i64 (f.n+1000))):World);exact zzQ3
 by_cases x3:x=3
 .subst x3;have z1:=H8.e.cell (j:=2) rfl;have z2:=H8.e.frozen 2;obtain⟨WA,y⟩:=qE (w8.setCell ⟨eb,2,none⟩ (.bool (!f.hi)):World);have HA:Hid (SpJ base cb bv n w eb g5 c5 xs (⟨f.kind,f.s,(!f.hi),f.t,f.lo,f.up,f.n⟩:Nd) WA):=by rw[y];exact H8.set 2 _ _ rfl ⟨H8.ok.s,H8.ok.t,H8.ok.kind,H8.ok.lo,H8.ok.up,H8.ok.n⟩
  go_upto_region 27 with fail;rw[<-y];clear y z1 z2;obtain⟨k0,k1,k2,k3,k4,k5,k6⟩:=HA.e.c7;simp only at k0 k1 k2 k3 k4 k5 k6;obtain⟨d0,d1,d2,d3,d4,d5,d6⟩:=HA.row.at i _ HSm.2;simp only[Nat.zero_add]at d0 d1 d2 d3 d4 d5 d6;have hfz:=λj=>World.ownsRow.frozenAt HA.row j;obtain⟨WP,hWP⟩:=qE ((((((((WA.setCell ⟨g5,i*7,none⟩ (.int .i64 f.kind)).setCell ⟨g5,i*7+1,none⟩ (.string f.s)).setCell ⟨g5,i*7+2,none⟩ (.bool (!f.hi))).setCell ⟨g5,i*7+3,none⟩ (.string f.t)).setCell ⟨g5,i*7+4,none⟩ (.int .u64 f.lo)).setCell ⟨g5,i*7+5,none⟩ (.int .u64 f.up)).setCell ⟨g5,i*7+6,none⟩ (.int .i64 f.n)):World);exact zzQ3
 by_cases x4:x=4
 .subst x4;have z3:=H8.e.cell (j:=4) rfl;have z1:=H8.e.cell (j:=5) rfl;have z2:=H8.e.frozen 5;obtain⟨WA,y⟩:=qE (w8.setCell ⟨eb,5,none⟩ (.int .u64 f.lo):World);have HA:Hid (SpJ base cb bv n w eb g5 c5 xs (⟨f.kind,f.s,f.hi,f.t,f.lo,f.lo,f.n⟩:Nd) WA):=by rw[y];exact H8.set 5 _ _ rfl ⟨H8.ok.s,H8.ok.t,H8.ok.kind,H8.ok.lo,H8.ok.lo,H8.ok.n⟩
  go_upto_region 27 with fail;rw[<-y];clear y z1 z2 z3;obtain⟨k0,k1,k2,k3,k4,k5,k6⟩:=HA.e.c7;simp only at k0 k1 k2 k3 k4 k5 k6;obtain⟨d0,d1,d2,d3,d4,d5,d6⟩:=HA.row.at i _ HSm.2;simp only[Nat.zero_add]at d0 d1 d2 d3 d4 d5 d6;have hfz:=λj=>World.ownsRow.frozenAt HA.row j;obtain⟨WP,hWP⟩:=qE ((((((((WA.setCell ⟨g5,i*7,none⟩ (.int .i64 f.kind)).setCell ⟨g5,i*7+1,none⟩ (.string f.s)).setCell ⟨g5,i*7+2,none⟩ (.bool f.hi)).setCell ⟨g5,i*7+3,none⟩ (.string f.t)).setCell ⟨g5,i*7+4,none⟩ (.int .u64 f.lo)).setCell ⟨g5,i*7+5,none⟩ (.int .u64 f.lo)).setCell ⟨g5,i*7+6,none⟩ (.int .i64 f.n)):World);exact zzQ3
 by_cases x5:x=5
 .subst x5;have z3:=H8.e.cell (j:=1) rfl;have z1:=H8.e.cell (j:=3) rfl;have z2:=H8.e.frozen 3;obtain⟨WA,y⟩:=qE (w8.setCell ⟨eb,3,none⟩ (.string f.s):World);have HA:Hid (SpJ base cb bv n w eb g5 c5 xs (⟨f.kind,f.s,f.hi,f.s,f.lo,f.up,f.n⟩:Nd) WA):=by rw[y];exact H8.set 3 _ _ rfl ⟨H8.ok.s,H8.ok.s,H8.ok.kind,H8.ok.lo,H8.ok.up,H8.ok.n⟩
  go_upto_region 27 with fail;rw[<-y];clear y z1 z2 z3;obtain⟨k0,k1,k2,k3,k4,k5,k6⟩:=HA.e.c7;simp only at k0 k1 k2 k3 k4 k5 k6;obtain⟨d0,d1,d2,d3,d4,d5,d6⟩:=HA.row.at i _ HSm.2;simp only[Nat.zero_add]at d0 d1 d2 d3 d4 d5 d6;have hfz:=λj=>World.ownsRow.frozenAt HA.row j;obtain⟨WP,hWP⟩:=qE ((((((((WA.setCell ⟨g5,i*7,none⟩ (.int .i64 f.kind)).setCell ⟨g5,i*7+1,none⟩ (.string f.s)).setCell ⟨g5,i*7+2,none⟩ (.bool f.hi)).setCell ⟨g5,i*7+3,none⟩ (.string f.s)).setCell ⟨g5,i*7+4,none⟩ (.int .u64 f.lo)).setCell ⟨g5,i*7+5,none⟩ (.int .u64 f.up)).setCell ⟨g5,i*7+6,none⟩ (.int .i64 f.n)):World);exact zzQ3
 by_cases x6:x=6
 .subst x6;have r0:=H8.res.cell (j:=0) rfl;have rf:=H8.res.frozen 0;go_upto_region 20 with fail;by_cases hc1:c5=1
  .obtain rfl:N=1:=by omega
   subst hc1;obtain⟨WF,hWF⟩:=qE (w8.setCell ⟨w.heap.size+1,0,none⟩ (.slice (some ⟨g5,0,none⟩) 0 0):World);have HR:Hid (WF.cell? ⟨w.heap.size+1,0,none⟩=some (.slice (some ⟨g5,0,none⟩) 0 0)/\AnyP base cb bv n w (.returned (.agg #[.slice (some ⟨g5,0,none⟩) 0 0])) WF):=H8.cut [] 0 0 0 (λi e he=>by simp at he) (λe he=>by simp at he) rfl (by omega) (by omega) WF hWF;exact zzQ9
  .have zc:¬((c5:Int)-1=0):=by omega
   obtain⟨WF,hWF⟩:=qE (w8.setCell ⟨w.heap.size+1,0,none⟩ (.slice (some ⟨g5,7,none⟩) (N-1) (c5-1)):World);have HR:Hid (WF.cell? ⟨w.heap.size+1,0,none⟩=some (.slice (some ⟨g5,7,none⟩) (N-1) (c5-1))/\AnyP base cb bv n w (.returned (.agg #[.slice (some ⟨g5,7,none⟩) (N-1) (c5-1)])) WF):=H8.cut (xs.drop 1) 7 (N-1) (c5-1) (yWl H8.row.at) (λe he=>(HX.2 e (mem_of_mem_drop he)).ok) (by rw[length_drop,<-HN.out]) (by omega) (by unfold maxLen;omega) WF hWF;exact zzQ9
 by_cases x7:x=7
 .subst x7;obtain⟨f0,ab⟩:∃f0,xs[0]?=some f0:=⟨_,getElem?_eq_getElem (by have:=HN.out;omega)⟩;obtain⟨d0,d1,d2,d3,d4,d5,d6⟩:=H8.row.at 0 f0 ab;simp only[Nat.zero_add,Nat.zero_mul]at d0 d1 d2 d3 d4 d5 d6;have av:Hid (f0.ok):=(HX.2 f0 (mem_of_getElem? ab)).ok;clear ab;obtain⟨WX,a6⟩:=qE (w8.alloc (Obj.cells #[.int .i64 f0.kind,.string f0.s,.bool f0.hi,.string f0.t,.int .u64 f0.lo,.int .u64 f0.up,.int .i64 f0.n] 35):World);have a3:Hid (Below w8.heap.size w8 WX/\yC WX w8.heap.size 0 [f0]/\WX=w8.alloc (Obj.cells #[.int .i64 f0.kind,.string f0.s,.bool f0.hi,.string f0.t,.int .u64 f0.lo,.int .u64 f0.up,.int .i64 f0.n] 35)):=⟨by rw[a6];exact qB,by rw[a6];exact(yCc w8 w.heap.size f0 H8.d.c.size).at,a6⟩;clear a6;go_wp2_with (at_builtin;rw[<-a3.2.2];refine yAi _ rfl _ _ rfl w.heap.size g5 c5 N w8.heap.size 0 1 1 xs [f0] rfl rfl HN.out rfl (H8.row.below a3.1 H8.row.lt.2) a3.2.1 ?hl7 ?hb7 ?_);case hl7=>rw[<-HN.out];simp;omega
  case hb7=>have h1:=H8.d.c.size;have h2:=a3.1.size;omega
  intro g9 c9 w9 am a9 ak;have H9:Hid (yAj w9 w.heap.size g9 c9 (xs++ [f0])/\DInv base cb bv n w w9/\yA w9 w.heap.size 25 1 (w.heap.size+1) [.slice none 0 0]/\w.heap.size+1<g9):=by have hz:=H8.d.c.size;have aw:=a3.1.size;have aC:=H8.ne;have aA:=H8.res.lt.2;have au:Chg (λk=>k=g5) WX w9:=Chg.of_grown a9 (λk q=>by cases q;rfl);refine⟨am,(H8.d.below a3.1).grow a9 (λk q=>by cases q;omega),(H8.res.below a3.1).chg au (by omega),?_⟩;rcases ak with q|q<;>omega
  clear am a9 ak d0 d1 d2 d3 d4 d5 d6;obtain⟨WF,hWF⟩:=qE (w9.setCell ⟨w.heap.size+1,0,none⟩ (.slice (some ⟨g9,0,none⟩) (N+1) c9):World);have HR:Hid (WF.cell? ⟨w.heap.size+1,0,none⟩=some (.slice (some ⟨g9,0,none⟩) (N+1) c9)/\AnyP base cb bv n w (.returned (.agg #[.slice (some ⟨g9,0,none⟩) (N+1) c9])) WF):=by
   have af:(xs++ [f0]).length=N+1:=by rw[length_append,<-HN.out];rfl
   have ar:Chg (λk=>k=w.heap.size+1) w9 WF:=by rw[hWF];exact Chg.of_set _ _ _ _ rfl
   have aF:=H9.2.2.2;have ad:=H9.1.chg ar (by omega);refine⟨by rw[hWF];exact(H9.2.2.1.set 0 (.slice (some ⟨g9,0,none⟩) (N+1) c9)).cell (j:=0) rfl,g9,0,c9,xs++ [f0],by rw[af],by rw[af];omega,λe he=>?_,ad.at,ad.lt,ad.caps,by rw[hWF];exact H9.2.1.grow (yAk w9 (w.heap.size+1) 0 _) (λk q=>by cases q;omega)⟩;rcases List.mem_append.1 he with q|q
   .exact(HX.2 e q).ok
   .simp at q;subst q;exact av.out
  have r0:=H9.2.2.1.cell (j:=0) rfl;have rf:=H9.2.2.1.frozen 0;exact zzQ9
 by_cases x8:x=8
 .subst x8;go_wp2_with fail;refine(yEx 97 201 w8 (by omega)).mono ?_;rintro e w9 ⟨q,rfl,hq,aj⟩;have H9:Hid (SpJ base cb bv n w eb g5 c5 xs f w9):=H8.below aj;clear aj;have z1:=H9.e.cell (j:=1) rfl;have z2:=H9.e.frozen 1;obtain⟨WA,y⟩:=qE (w9.setCell ⟨eb,1,none⟩ (.string q):World);have HA:Hid (SpJ base cb bv n w eb g5 c5 xs (⟨f.kind,q,f.hi,f.t,f.lo,f.up,f.n⟩:Nd) WA):=by rw[y];exact H9.set 1 _ _ rfl ⟨(Nat.le_trans hq (by decide)),H8.ok.t,H8.ok.kind,H8.ok.lo,H8.ok.up,H8.ok.n⟩
  go_upto_region 27 with fail;rw[<-y];clear y z1 z2;obtain⟨k0,k1,k2,k3,k4,k5,k6⟩:=HA.e.c7;simp only at k0 k1 k2 k3 k4 k5 k6;obtain⟨d0,d1,d2,d3,d4,d5,d6⟩:=HA.row.at i _ HSm.2;simp only[Nat.zero_add]at d0 d1 d2 d3 d4 d5 d6;have hfz:=λj=>World.ownsRow.frozenAt HA.row j;obtain⟨WP,hWP⟩:=qE ((((((((WA.setCell ⟨g5,i*7,none⟩ (.int .i64 f.kind)).setCell ⟨g5,i*7+1,none⟩ (.string q)).setCell ⟨g5,i*7+2,none⟩ (.bool f.hi)).setCell ⟨g5,i*7+3,none⟩ (.string f.t)).setCell ⟨g5,i*7+4,none⟩ (.int .u64 f.lo)).setCell ⟨g5,i*7+5,none⟩ (.int .u64 f.up)).setCell ⟨g5,i*7+6,none⟩ (.int .i64 f.n)):World);exact zzQ3
 .obtain rfl:x=9:=by omega
  have z1:=H8.e.cell (j:=6) rfl;have z2:=H8.e.frozen 6;obtain⟨WA,y⟩:=qE (w8.setCell ⟨eb,6,none⟩ (.int .i64 0):World);have HA:Hid (SpJ base cb bv n w eb g5 c5 xs (⟨f.kind,f.s,f.hi,f.t,f.lo,f.up,0⟩:Nd) WA):=by rw[y];exact H8.set 6 _ _ rfl ⟨H8.ok.s,H8.ok.t,H8.ok.kind,H8.ok.lo,H8.ok.up,(by show(Lit.int .i64 0).wf=true;decide)⟩
  go_upto_region 27 with fail;rw[<-y];clear y z1 z2;obtain⟨k0,k1,k2,k3,k4,k5,k6⟩:=HA.e.c7;simp only at k0 k1 k2 k3 k4 k5 k6;obtain⟨d0,d1,d2,d3,d4,d5,d6⟩:=HA.row.at i _ HSm.2;simp only[Nat.zero_add]at d0 d1 d2 d3 d4 d5 d6;have hfz:=λj=>World.ownsRow.frozenAt HA.row j;obtain⟨WP,hWP⟩:=qE ((((((((WA.setCell ⟨g5,i*7,none⟩ (.int .i64 f.kind)).setCell ⟨g5,i*7+1,none⟩ (.string f.s)).setCell ⟨g5,i*7+2,none⟩ (.bool f.hi)).setCell ⟨g5,i*7+3,none⟩ (.string f.t)).setCell ⟨g5,i*7+4,none⟩ (.int .u64 f.lo)).setCell ⟨g5,i*7+5,none⟩ (.int .u64 f.up)).setCell ⟨g5,i*7+6,none⟩ (.int .i64 0)):World);exact zzQ3
end Go.Proofs.YtehfleefkdojpaaGreatDoor
