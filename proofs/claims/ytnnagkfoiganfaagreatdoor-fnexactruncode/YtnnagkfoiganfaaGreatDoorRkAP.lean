import Derived.Test.YtnnagkfoiganfaaGreatDoorRkAN
import Derived.Test.YtnnagkfoiganfaaGreatDoorRkAO
namespace Go.Proofs.YtnnagkfoiganfaaGreatDoor
open Go.ChangeShapes Go.WideShapes Go.ChangeAt Go.RowKit Go.Deep XD XI XU XG XP XK XW XT XF XE XH _root_.List _root_.Nat Go.Proofs.Tryz
set_option linter.unusedVariables false
set_option linter.unusedSimpArgs false
set_option maxRecDepth 100000
set_option maxHeartbeats 40000000
structure RwG where
 w:World
 l:List Ix
 N:Nat
 bI:Nat
 oI:Nat
 cI:Nat
 cnt:Int
 nc:Nat
 conds:List Bool
 ca:Option Addr
 nC:Nat
 nk:Nat
structure RwO(R:RwG):Prop where
 good:yBe R.l R.cnt R.nc
 nc:R.nc<=R.conds.length
 nC:R.nC=R.conds.length
 N:R.N=R.l.length
 nk:(R.nk:Int)=R.cnt
 ins:yB5 R.w R.bI R.oI R.l
 bIl:R.bI<R.w.heap.size
 cI:R.N<=R.cI/\R.cI<=maxLen
 cnd:∀(i:Nat)(b:Bool),R.conds[i]?=some b->∃bc oc,R.ca=some ⟨bc,oc,none⟩/\xk R.w bc (oc+i) b/\bc<R.w.heap.size
variable {R:RwG} {wr:World} {B gc cpc:Nat} {cs:List Ctr}
theorem RwO.look(h:RwO R)(hB:R.w.heap.size<=B)(hb:Below R.w R.w wr)(hO:yF0 wr B gc cpc cs)(hl:cs.length=R.nk)(hcb:∀k∈cs,0<=k.count/\k.count<=1000)(c:Ent)(cc:Nat):
  Calls prog 58 #[.agg #[.slice (some ⟨R.bI,R.oI,none⟩) R.N R.cI,xi R.cnt],c.c,xg gc R.nk cpc,.slice R.ca R.nC cc] wr λe w'=>∃(i:It)(cs':List Ctr),e=.returned (.tuple #[i.v,xg gc R.nk cpc])/\Hid (LkR pfxB R.l c R.conds ⟨0,[newI],cs⟩ (i,cs')/\cs'.length=R.nk/\yF0 w' B gc cpc cs'/\(∀k∈cs',0<=k.count/\k.count<=1000)/\Chg (λk=>k=gc) wr w'):=by
 obtain⟨d,hd⟩:=yIz h.good;have hz:=hb.size;have hg:=hO.lt;have a0:=h.bIl;refine(yS5 ⟨wr,R.l,R.bI,R.oI,R.cI,R.cnt,c,R.conds,d,cs,B,gc,cpc,R.ca,R.N,R.nk,R.nC⟩ R.nc h.good hd h.nc (by show(cs.length:Int)=R.cnt;rw[hl];exact h.nk) cc h.N hl.symm h.nC (h.ins.chg (S:=λ_=>False) ⟨hb.os,hb.tape,hb.output,hb.size,λk hk _=>hb.block k hk⟩ h.bIl (λq=>q)) ⟨by show R.bI<wr.heap.size;omega,by show¬R.bI=gc;omega⟩ h.cI hO hcb (λi b hi=>?_)).mono ?_
 .obtain⟨bc,oc,h1,h2,h3⟩:=h.cnd i b hi;exact⟨bc,oc,h1,(hb.cell (p:=(xd bc (oc+i))) h3).trans h2,by show bc<wr.heap.size;omega,by show¬bc=gc;omega⟩
 .rintro e w' ⟨i,cs',h1,h2,h3,h4,h5,h6⟩;exact⟨i,cs',h2,h1,h3,h4,h5,h6⟩
structure RwJ(R:RwG)(out:List Ent)(n g cp gc cpc:Nat)(cs:List Ctr)(wr:World):Prop where
 blk:yA wr R.w 32 2 R.w [.slice (some ⟨R.bI,R.oI,none⟩) R.N R.cI,xi R.cnt]
 own:OwnC wr R.w g cp out
 n:n=out.length
 ctr:yF0 wr R.w gc cpc cs
 len:cs.length=R.nk
 cb:∀k∈cs,0<=k.count/\k.count<=1000
 below:Below R.w R.w wr
variable {out:List Ent} {n cp:Nat} {W:World}
theorem RwJ.on{g:Nat}(h:RwJ R out n g cp gc cpc cs wr)(hb:Below wr wr W):RwJ R out n g cp gc cpc cs W:=
 {h with blk:=h.blk.below hb,own:=h.own.below hb h.own.lt.2,ctr:=h.ctr.below hb,below:=h.below.trans (hb.mono h.below.size)}
theorem RwJ.apart{g:Nat}(h:RwJ R out n g cp gc cpc cs wr):¬g=gc/\¬R.w.heap.size=gc/\¬R.w.heap.size=g:=
 ⟨λq=>yAb h.own h.ctr (by decide) g rfl (by rw[q];rfl),λq=>yAb h.blk h.ctr (by decide) R.w rfl (by rw[q];rfl),λq=>yAb h.blk h.own (by decide) R.w rfl (by rw[q];rfl)⟩
variable {p:Prop}
theorem zRyR (h:p:=by
 obtain⟨c,hc⟩:∃c,es[i]?=some c:=qg (qw HR.2.2);have HC:Hid (es[i]?=some c):=hc;have HSS:Hid (∀(X:World)(out:List Ent)(n g cp gc cpc:Nat)(cs:List Ctr),RwJ R out n g cp gc cpc cs X->(λw':World=>xk w' R.w 0 (.slice (some ⟨R.bI,R.oI,none⟩) R.N R.cI)/\xk w' R.w 1 (xi R.cnt)/\xk w' rb (ro+i*5) c.row/\xk w' rb (ro+i*5+1) c.fam/\xk w' rb (ro+i*5+2) c.qual/\xk w' rb (ro+i*5+3) (xu c.ts)/\xk w' rb (ro+i*5+4) c.val/\xk w' R.w 1 (xi R.cnt)) X):=λX out n g cp gc cpc cs h=>by have hb:=h.below;obtain⟨e0,e1,e2,e3,e4⟩:=HR.2.1.at_ i c hc;exact⟨h.blk.cell (j:=0) rfl,h.blk.cell (j:=1) rfl,by rw[hb.cell (p:=(xd rb _)) hrb];exact e0,by rw[hb.cell (p:=(xd rb _)) hrb];exact e1,by rw[hb.cell (p:=(xd rb _)) hrb];exact e2,by rw[hb.cell (p:=(xd rb _)) hrb];exact e3,by rw[hb.cell (p:=(xd rb _)) hrb];exact e4,h.blk.cell (j:=1) rfl⟩
 obtain⟨W2,hW2⟩:=qW (xw wr #[false,false,xi 0,xe] 115);have HW2:Hid (RwJ R out n g cp gc cpc cs W2.drew/\yA W2.drew R.w 115 4 wr (yBl noH).four):=by
  have k2:=qN hW2
  have b2:yA W2 R.w 115 4 wr (yBl noH).four:=by rw[hW2];exact yAa wr _ HJ.1.below.size rfl
  exact⟨(HJ.1.on k2).on ((Below.refl _ _).drew),b2.below ((Below.refl _ _).drew)⟩
 have HLk:Hid (Calls prog 58 #[.agg #[.slice (some ⟨R.bI,R.oI,none⟩) R.N R.cI,xi R.cnt],.agg #[c.row,c.fam,c.qual,xu c.ts,c.val],xg gc R.nk cpc,.slice R.ca R.nC cc] W2.drew λe w'=>∃(i:It)(cs':List Ctr),e=.returned (.tuple #[i.v,xg gc R.nk cpc])/\Hid (LkR pfxB R.l c R.conds ⟨0,[newI],cs⟩ (i,cs')/\cs'.length=R.nk/\yF0 w' R.w gc cpc cs'/\(∀k∈cs',0<=k.count/\k.count<=1000)/\Chg (λk=>k=gc) W2.drew w')):=
  HR.1.look qr HW2.1.below HW2.1.ctr HW2.1.len HW2.1.cb c cc
 have hS0:=HSS.out _ _ _ _ _ _ _ _ HW2.1;clear hc;go_upto_region 7 with fail;rw[<-hW2];clear hW2;refine yAf 99 (λw':World=>xk w' R.w 0 (.slice (some ⟨R.bI,R.oI,none⟩) R.N R.cI)/\xk w' R.w 1 (xi R.cnt)/\xk w' rb (ro+i*5) c.row/\xk w' rb (ro+i*5+1) c.fam/\xk w' rb (ro+i*5+2) c.qual/\xk w' rb (ro+i*5+3) (xu c.ts)/\xk w' rb (ro+i*5+4) c.val/\xk w' R.w 1 (xi R.cnt)) (by kernel_rfl) ?_;refine ja 0 hS0 ?_;iterate 6 refine jb hS0 ?_
 refine qO 7 rfl λK hK=>?_;go_simp;refine HLk.mono ?_;rintro e w3 ⟨it,cs',rfl,H3⟩;have HW3:Hid (RwJ R out n g cp gc cpc cs' w3/\yA w3 R.w 115 4 wr (yBl noH).four):=by
  obtain⟨k1,k2,k3,k4,k5⟩:=H3.out;have ap:=HW2.1.apart;have hgi:¬wr.heap.size=gc:=qw HJ.1.ctr.lt
  have hgl:=HW2.1.ctr.lt.1;exact⟨⟨HW2.1.blk.chg k5 ap.2.1,yAh HW2.1.own k5 (λk q=>by simp[Value.ownBlock]at q;subst q;exact ap.1),HW2.1.n,k3,k2,k4,Chg.below HW2.1.below k5 HW2.1.below.size (λk q=>by omega)⟩,HW2.2.chg k5 hgi⟩
 have HL:Hid (LkR pfxB R.l c R.conds ⟨0,[newI],cs⟩ (it,cs')):=H3.1;have hS3:=HSS.out _ _ _ _ _ _ _ _ HW3.1;clear H3 HW2 hS0 HLk;refine hK.out _ _ (.inr hS3) ?_;clear hK;refine jS ?_;iterate 3 refine jb hS3 ?_
 obtain⟨W4,hW4⟩:=qW (setCs w3 wr 0 it.four);have HW4:Hid (RwJ R out n g cp gc cpc cs' W4/\yA W4 R.w 115 4 wr it.four):=by obtain⟨q1,q2⟩:=yEo HW3.2 hW4;have h3:=HW3.1;have l1:=HJ.1.own.lt;have l2:=HJ.1.ctr.lt;have l3:=HJ.1.below.size;have l4:=HJ.1.blk.lt;exact⟨⟨h3.blk.chg q2 (by omega),yAh h3.own q2 (λk q=>by simp[Value.ownBlock]at q;omega),h3.n,h3.ctr.chg q2 (by omega),h3.len,h3.cb,Chg.below h3.below q2 h3.below.size (λk q=>by omega)⟩,q1⟩
 have hS4:=HSS.out _ _ _ _ _ _ _ _ HW4.1;obtain⟨v0,v1,v2,v3⟩:=HW3.2.c4;obtain⟨f0,f1,f2,f3⟩:=HW3.2.f4;simp only[setCs,Nat.zero_add,Nat.reduceAdd]at hW4;refine qO 11 rfl λK hK=>?_;go_simp;rw[<-hW4];refine hK.out _ _ (.inr hS4) ?_;clear hK hW4 hS3 v0 v1 v2 v3 f0 f1 f2 f3;refine jS ?_;refine kO 12 hS4 ?_;refine qD ?_;have HN:Hid (∀o,RowR R.l R.conds (es.drop (i+1)) cs' o->RowR R.l R.conds es (List.replicate R.nk newC) ((if it.alive=true then out++ [yB it c]else out)++o)):=RowR.step HJ.2 HC.out HL.out;have p0:=HW4.2.cell (j:=0) rfl;cases hal:it.alive
 .rw[hal]at p0 HN;simp only[Bool.false_eq_true,if_false]at HN;refine zY ?_;exact⟨i+1,n,g,cp,gc,cpc,out,cs',by omega,by omega,rfl,rfl,by go_num,HW4.1,HN.out⟩
 .rw[hal]at p0 HN;simp only[if_true]at HN;obtain⟨c',hc'⟩:=qE (yB it c);have HTd:Hid (∀X:World,(xf 59 #[.agg #[true,it.strip,xi it.hint.rank,it.hint.txt],.agg #[c.row,c.fam,c.qual,xu c.ts,c.val]] X (.agg #[c'.row,c'.fam,c'.qual,xu c'.ts,c'.val]):Prop)):=λX=>by have h9:=yO4 it c X;rw[hal,<-hc']at h9;exact h9
  rw[<-hc']at HN;have HST:Hid (∀(X:World)(out:List Ent)(n g cp:Nat),RwJ R out n g cp gc cpc cs' X->yA X R.w 115 4 wr it.four->(λw':World=>xk w' wr 0 true/\xk w' wr 1 it.strip/\xk w' wr 2 (xi it.hint.rank)/\xk w' wr 3 it.hint.txt/\xk w' rb (ro+i*5) c.row/\xk w' rb (ro+i*5+1) c.fam/\xk w' rb (ro+i*5+2) c.qual/\xk w' rb (ro+i*5+3) (xu c.ts)/\xk w' rb (ro+i*5+4) c.val/\xk w' wr 0 true) X):=λX out n g cp h k=>by obtain⟨_,_,e0,e1,e2,e3,e4,_⟩:=HSS.out X out n g cp gc cpc cs' h;have h0:=k.cell (j:=0) rfl;rw[hal]at h0;exact⟨h0,k.cell (j:=1) rfl,k.cell (j:=2) rfl,k.cell (j:=3) rfl,e0,e1,e2,e3,e4,h0⟩
  have HW5:Hid (RwJ R out n g cp gc cpc cs' W4.drew/\yA W4.drew R.w 115 4 wr it.four):=⟨HW4.1.on ((Below.refl _ _).drew),HW4.2.below ((Below.refl _ _).drew)⟩;have hS5:=HST.out _ _ _ _ _ HW5.1 HW5.2;clear hc' hS4;go_upto_region 9 with fail;refine yAf 99 (λw':World=>xk w' wr 0 true/\xk w' wr 1 it.strip/\xk w' wr 2 (xi it.hint.rank)/\xk w' wr 3 it.hint.txt/\xk w' rb (ro+i*5) c.row/\xk w' rb (ro+i*5+1) c.fam/\xk w' rb (ro+i*5+2) c.qual/\xk w' rb (ro+i*5+3) (xu c.ts)/\xk w' rb (ro+i*5+4) c.val/\xk w' wr 0 true) (by kernel_rfl) ?_;refine ja 0 hS5 ?_;iterate 5 refine jb hS5 ?_
  refine qO 6 rfl λK hK=>?_;go_simp;refine(HTd.out _).mono ?_;rintro e w6 ⟨rfl,hb6⟩;have HW6:Hid (RwJ R out n g cp gc cpc cs' w6/\yA w6 R.w 115 4 wr it.four):=⟨HW5.1.on hb6,HW5.2.below hb6⟩;have hS6:=HST.out _ _ _ _ _ HW6.1 HW6.2;clear hb6 hS5;refine hK.out _ _ (.inr hS6) ?_;clear hK;refine jS ?_;obtain⟨W7,hW7⟩:=qW (xw w6 #[c'.row,c'.fam,c'.qual,xu c'.ts,c'.val] 70);have HW7:Hid (RwJ R out n g cp gc cpc cs' W7/\yA W7 R.w 115 4 wr it.four/\yA4 W7 w6 0 [c']):=by
   have k7:=qN hW7
   refine⟨HW6.1.on k7,HW6.2.below k7,?_⟩;intro j e he;have b7:yA W7 w6 70 5 w6 c'.five:=by rw[hW7];exact yAa w6 _ qr rfl
   have hj:j=0:=by have:=qf he;simpa using this
   subst hj;simp at he;subst he;exact⟨b7.cell (j:=0) rfl,b7.cell (j:=1) rfl,b7.cell (j:=2) rfl,b7.cell (j:=3) rfl,b7.cell (j:=4) rfl⟩
  have hS7:=HST.out _ _ _ _ _ HW7.1 HW7.2.1;refine qO 7 rfl λK hK=>?_;refine yGn w6 rfl _ rfl c' rfl ?_;rw[<-hW7];refine hK.out _ _ (.inr hS7) ?_;clear hK hW7 hS6;refine jS ?_;refine qO 8 rfl λK hK=>?_;refine yIp W7 rfl _ _ rfl R.w g cp n w6 0 1 1 out [c'] rfl rfl HW7.1.n rfl HW7.1.own HW7.2.2 (by have:=HW7.1.n;simp;omega) HW7.1.below.size (λg' cp' w8 hO8 hg8 ha8=>?_);have HW8:Hid (RwJ R (out++ [c']) (n+1) g' cp' gc cpc cs' w8/\yA w8 R.w 115 4 wr it.four):=by have k8:Chg (λk=>k=g) W7 w8:=Chg.of_grown hg8 (λk hk=>by cases hk;rfl);have h7:=HW7.1;have ap:=h7.apart;have l1:=HJ.1.own.lt;exact⟨⟨h7.blk.chg k8 ap.2.2,hO8,by rw[length_append,<-h7.n];rfl,h7.ctr.chg k8 (λq=>ap.1 q.symm),h7.len,h7.cb,Chg.below h7.below k8 h7.below.size (λk q=>by omega)⟩,HW7.2.1.chg k8 (by omega)⟩
  have hS8:=HST.out _ _ _ _ _ HW8.1 HW8.2;clear hO8 hg8 ha8 hS7;refine hK.out _ _ (.inr hS8) ?_;clear hK;refine jS ?_;refine kO 9 hS8 ?_;refine qD ?_;refine zY ?_;exact⟨i+1,n+1,g',cp',gc,cpc,out++ [c'],cs',by omega,by omega,rfl,rfl,by go_num,HW8.1,HN.out⟩):p:=h
theorem yMh(R:RwG)(hR:RwO R)(rb ro rc cc:Nat)(es:List Ent)(M:Nat)(hM:M=es.length)(hE:CSl R.w rb ro rc es)(hes:es.length<=100000):
  Calls prog 118 #[.agg #[.slice (some ⟨R.bI,R.oI,none⟩) R.N R.cI,xi R.cnt],.slice (some ⟨rb,ro,none⟩) M rc,.slice R.ca R.nC cc] R.w λe w'=>∃g cp n,e=.returned (xg g n cp)/\Hid (∃o,n=o.length/\RowR R.l R.conds es (List.replicate R.nk newC) o/\OwnC w' R.w g cp o/\Below R.w R.w w'):=by
 have HR:Hid (RwO R/\CSl R.w rb ro rc es/\M=es.length):=⟨hR,hE,hM⟩;have a3:(R.nk:Int)=R.cnt:=hR.nk;have a4:R.nk<=1000:=qw hR.good.2.2.2.1
 have a6:M<=100000:=by omega
 have hrb:=hE.lt;clear hR hE hM hes;obtain⟨W0,a0⟩:=qW (xw (R.w.alloc (Obj.cells #[.slice (some ⟨R.bI,R.oI,none⟩) R.N R.cI,xi R.cnt] 32)) #[] 70);have H0:Hid (yA W0 R.w 32 2 R.w [.slice (some ⟨R.bI,R.oI,none⟩) R.N R.cI,xi R.cnt]/\OwnC W0 R.w (R.w+1) 0 []/\Below R.w R.w W0):=by
  obtain⟨X,hX⟩:=qW (xw R.w #[.slice (some ⟨R.bI,R.oI,none⟩) R.N R.cI,xi R.cnt] 32);rw[<-hX]at a0;have zx:=qS hX
  have k1:=qN hX
  have k2:=qN a0
  have b1:yA X R.w 32 2 R.w [.slice (some ⟨R.bI,R.oI,none⟩) R.N R.cI,xi R.cnt]:=by rw[hX];exact yAa R.w _ qr rfl
  have o1:OwnC W0 X X 0 []:=by rw[a0];exact xBl X
  rw[zx]at o1;exact⟨b1.below k2,o1.mono (by omega),k1.trans (k2.mono (by omega))⟩
 have c1:=H0.1.cell (j:=1) rfl;go_enter func118,ntmps118;go_upto_region 2 with fail;rw[<-a0];clear a0;go_wp2_with fail;rw[<-a3];refine(yMm R.nk W0 a4).mono ?_;rintro e w1 ⟨gc,cpc,rfl,a2,a1⟩
 have H1:Hid (RwJ R [] 0 (R.w+1) 0 gc cpc (List.replicate R.nk newC) w1):=
  ⟨H0.1.below a1,H0.2.1.below a1 H0.2.1.lt.2,rfl,a2.mono H0.2.2.size,by simp,λk hk=>by rw[eq_of_mem_replicate hk];exact⟨Int.le_refl _,by decide⟩,H0.2.2.trans (a1.mono H0.2.2.size)⟩
 clear a2 a1 c1 H0;go_wp2;go_loopw[7,8,9] (λov cv iv wr=>∃(i n g cp gc cpc:Nat)(out:List Ent)(cs:List Ctr),i<=M/\n<=i/\ov=(xg g n cp)/\cv=(xg gc R.nk cpc)/\iv=(xi i)/\Hid (RwJ R out n g cp gc cpc cs wr/\∀o,RowR R.l R.conds (es.drop i) cs o->RowR R.l R.conds es (List.replicate R.nk newC) (out++o))) (λ_ _ iv _=>M-(intOf iv).toNat);case atStart=>exact⟨0,0,_,0,gc,cpc,[],List.replicate R.nk newC,zero_le _,Nat.le_refl _,rfl,rfl,rfl,H1.out,λo h=>h⟩
 case round=>
  clear H1;obtain⟨i,n,g,cp,gc,cpc,out,cs,hi,a5,rfl,rfl,rfl,HJ⟩:=hrel;by_cases hlt:i<M
  .have z:(i:Int)<(M:Int):=by omega
   as_aux_lemma=>exact zRyR
  .have z:¬(i:Int)<(M:Int):=by omega
   have HE:Hid (∃o,n=o.length/\RowR R.l R.conds es (List.replicate R.nk newC) o/\OwnC wr R.w g cp o/\Below R.w R.w wr):=⟨out,HJ.1.n,RowR.done HJ.2 (qw HR.2.2),HJ.1.own,HJ.1.below⟩;go_wp2;go_ret;exact⟨g,cp,n,rfl,HE⟩
section
abbrev blF(b:Bool):List Value:= [.bool b]
abbrev yF1(w:World)(base g cap:Nat)(bs:List Bool):Prop:=OwnG blF 1 4 w base g cap bs
theorem yOu(b:Bool):(blF b).length=1:=rfl
theorem xIb(b:Bool):∀u∈blF b,u.oneCell'=true:=λu hu=>by simp at hu;subst hu;rfl
theorem Tryz.infoBl:(prog.info? 4).map (λi=>(i.zero,i.size,i.bytes))=some (some (.bool false),1,1):=by kernel_rfl
variable {w:World} {base:Nat}
theorem yF1.get{g cap:Nat}{bs:List Bool}(h:yF1 w base g cap bs){i:Nat}{b:Bool}(hi:bs[i]?=some b):(xk w g (0+i) b:Prop):=by have:=h.cell yOu hi 0 (by decide);simpa using this
structure ByG where
 w:World
 bs:List Bk
 m:Bk
 nb:Nat
 ub:Nat
 uo:Nat
 uc:Nat
 N:Nat
 bI:Nat
 oI:Nat
 cI:Nat
 b:Nat
 off:Nat
 cap:Nat
 es:List Ent
 M:Nat
 A:List (Nat×Nat)
structure ByO(R:ByG):Prop where
 good:yCn R.bs R.m
 bks:yK0 R.w R.ub R.uo R.bs
 ubl:R.ub<R.w.heap.size
 nb:R.nb=R.bs.length
 mv:R.m.v=.slice (some ⟨R.bI,R.oI,none⟩) R.N R.cI
 N:R.N=R.m.l.length
 ins:yB5 R.w R.bI R.oI R.m.l
 bIl:R.bI<R.w.heap.size
 cI:R.N<=R.cI/\R.cI<=maxLen
 cel:CSl R.w R.b R.off R.cap R.es
 M:R.M=R.es.length
 Ml:R.M<=10000
 A:R.A=allC R.es 0
 Am:∀p∈R.A,p.1<=p.2/\p.2<=R.es.length
structure ByJ(R:ByG)(gr cr:Nat)(out:List Ent)(a:Option Addr)(n c:Nat)(wr:World):Prop where
 box:yA wr R.w 34 3 R.w [.slice (some ⟨R.ub,R.uo,none⟩) R.nb R.uc,.slice (some ⟨R.bI,R.oI,none⟩) R.N R.cI,xi R.m.cnt]
 res:yA wr R.w 39 3 (R.w+1) [false,xh,xi 0]
 obx:yA wr R.w 39 3 (R.w+1+1) [true,.slice a n c,xi R.M]
 row:RowC wr R.w (.slice a n c) out
 n:n=out.length
 rows:yDk wr R.w gr cr (R.A.map (segV R.b R.off R.cap))
 below:Below R.w R.w wr
section
variable {R:ByG} {gr cr:Nat} {out:List Ent} {a:Option Addr} {n c:Nat} {wr:World}
theorem ByJ.on(h:ByJ R gr cr out a n c wr)(hb:Below wr wr W):ByJ R gr cr out a n c W:=
 {h with box:=h.box.below hb,res:=h.res.below hb,obx:=h.obx.below hb,row:=h.row.below hb,rows:=h.rows.below hb,below:=h.below.trans (hb.mono h.below.size)}
theorem ByJ.bools(h:ByJ R gr cr out a n c wr){gq cq:Nat}{cs:List Bool}(hO:yF1 wr base gq cq cs)(hl:R.w.heap.size<=gq)(hc:Chg (λk=>k=gq) wr W):ByJ R gr cr out a n c W:=
 {h with
  box:=h.box.chg hc (λq=>yAb h.box hO (by decide) _ rfl (by rw[q];rfl))
  res:=h.res.chg hc (λq=>yAb h.res hO (by decide) _ rfl (by rw[q];rfl))
  obx:=h.obx.chg hc (λq=>yAb h.obx hO (by decide) _ rfl (by rw[q];rfl))
  row:=h.row.chg hc (λk hk q=>yAb h.row hO (by decide) _ hk (by rw[q];rfl))
  rows:=yAh h.rows hc (λk hk q=>yAb h.rows hO (by decide) _ hk (by rw[q];rfl))
  below:=Chg.below h.below hc h.below.size (λk q=>by omega)}
theorem ByJ.cond(h:ByJ R gr cr out a n c wr)(hR:ByO R){k:Nat}{x:Bk}(hx:R.bs[k]?=some x):xk wr R.ub (R.uo+k*2) x.v/\xk wr R.ub (R.uo+k*2+1) (xi x.cnt):=by obtain⟨h0,h1,_⟩:=hR.bks k x hx;exact⟨by rw[h.below.cell (p:=(xd R.ub _)) hR.ubl];exact h0,by rw[h.below.cell (p:=(xd R.ub _)) hR.ubl];exact h1⟩
end
theorem yYq{base' g:Nat}{us:List Value}(h:yDk w base g cp us)(hb:base'<=base):yDk w base' g cp us:=by exact xCp
theorem xDb{l:List Ix}{cnt:Int}{nc:Nat}(hg:yBe l cnt nc){N bI oI cI:Nat}(hN:N=l.length)(hI:yB5 w bI oI l)(hl:bI<w.heap.size)(hc:N<=cI/\cI<=maxLen)(hB:w.heap.size=B)(hb:Below B w W){gq cq:Nat}{cs:List Bool}(hO:yF1 W base gq cq cs)(hn:nc<=cs.length){k:Nat}(hk:k=cs.length):
  RwO ⟨W,l,N,bI,oI,cI,cnt,nc,cs,some ⟨gq,0,none⟩,k,cnt.toNat⟩:=by
 subst hB;exact {good:=hg,nc:=hn,nC:=hk,N:=hN,nk:=by show((cnt.toNat:Nat):Int)=cnt;have:=hg.2.2.1;omega,ins:=hI.chg (S:=λ_=>False) (Chg.of_below hb) hl (λq=>q),bIl:=by have:=hb.size;show bI<W.heap.size;omega,cI:=hc,cnd:=λi b hi=>⟨gq,0,rfl,hO.get hi,hO.lt.2⟩}
structure CdJ(R:ByG)(row:List Ent)(gq cq k:Nat)(cs:List Bool)(wr:World):Prop where
 own:yF1 wr R.w gq cq cs
 kl:k=cs.length
 cd:∀r,CdR row ((R.bs.map Bk.vw).drop k) cs r->CdR row (R.bs.map Bk.vw) [] r
theorem zByC (h:p:=by
 obtain⟨x,hx⟩:∃x,R.bs[k]?=some x:=qg (qw HR.nb);have hgx:yBe x.l x.cnt k:=HR.good.2.2 k x hx;obtain⟨xb,xo,xn,xc,hxv,hxn,hxi,hxl,hxc⟩:∃xb xo xn xc,x.v=.slice (some ⟨xb,xo,none⟩) xn xc/\xn=x.l.length/\yB5 R.w xb xo x.l/\xb<R.w.heap.size/\xn<=xc/\xc<=maxLen:=by
  rcases(HR.bks k x hx).2.2 with⟨_,_,_,q⟩|⟨b,off,cap,q1,q2,q3,q4,q5⟩
  .have:=hgx.1;rw[q]at this;simp at this
  .exact⟨b,off,_,cap,q1,rfl,q2,q3,q4,q5⟩
 have HX:Hid (R.bs[k]?=some x/\yBe x.l x.cnt k/\x.v=.slice (some ⟨xb,xo,none⟩) xn xc/\xn=x.l.length/\yB5 R.w xb xo x.l/\xb<R.w.heap.size/\xn<=xc/\xc<=maxLen):=⟨hx,hgx,hxv,hxn,hxi,hxl,hxc⟩;have HSS:Hid (∀X:World,ByJ R gr cr out a n c X->(λw':World=>xk w' R.w 0 (.slice (some ⟨R.ub,R.uo,none⟩) R.nb R.uc)/\xk w' R.ub (R.uo+k*2) (.slice (some ⟨xb,xo,none⟩) xn xc)/\xk w' R.ub (R.uo+k*2+1) (xi x.cnt)/\xk w' gr r (.slice (some ⟨R.b,R.off+p1*5,none⟩) (p2-p1) (R.cap-p1))) X):=λX h=>by obtain⟨h0,h1⟩:=h.cond HR.out hx;rw[hxv]at h0;exact⟨h.box.cell (j:=0) rfl,h0,h1,h.rows.cell (by rw[getElem?_map,HP.1];rfl)⟩
 have HD:Hid (ByJ R gr cr out a n c wr.drew/\CdJ R (segE R.es (p1,p2)) gq cq k cs wr.drew):=⟨HQ.1.on ((Below.refl _ _).drew),⟨HQ.2.own.below ((Below.refl _ _).drew),HQ.2.kl,HQ.2.cd⟩⟩;have HRo:Hid (Calls prog 118 #[.agg #[.slice (some ⟨xb,xo,none⟩) xn xc,xi x.cnt],.slice (some ⟨R.b,R.off+p1*5,none⟩) (p2-p1) (R.cap-p1),xg gq k cq] wr.drew λe w'=>∃g cp n,e=.returned (xg g n cp)/\Hid (∃o,n=o.length/\RowR x.l cs (segE R.es (p1,p2)) (List.replicate x.cnt.toNat newC) o/\OwnC w' wr.drew g cp o/\Below wr.drew wr.drew w')):=by have h9:=xDb (W:=wr.drew) HX.2.1 HX.2.2.2.1 HX.2.2.2.2.1 HX.2.2.2.2.2.1 HX.2.2.2.2.2.2 rfl HD.1.below HD.2.own (qw HD.2.kl) HD.2.kl;exact yMh _ h9 R.b (R.off+p1*5) (R.cap-p1) cq (segE R.es (p1,p2)) (p2-p1) (yC9 HP.2.2).symm ((HR.cel.below HD.1.below).seg HP.2.1 HP.2.2) (by rw[yC9 HP.2.2];have:=HR.M;have:=HR.Ml;have:=HP.2;omega)
 have hS0:=HSS.out _ HD.1;clear hx hgx hxv hxn hxi hxl hxc;go_upto_region 10 with fail;refine yAf 99 (λw':World=>xk w' R.w 0 (.slice (some ⟨R.ub,R.uo,none⟩) R.nb R.uc)/\xk w' R.ub (R.uo+k*2) (.slice (some ⟨xb,xo,none⟩) xn xc)/\xk w' R.ub (R.uo+k*2+1) (xi x.cnt)/\xk w' gr r (.slice (some ⟨R.b,R.off+p1*5,none⟩) (p2-p1) (R.cap-p1))) (by kernel_rfl) ?_;refine ja 0 hS0 ?_;iterate 10 refine jb hS0 ?_
 refine qO 11 rfl λK hK=>?_;go_simp;refine HRo.mono ?_;rintro e w3 ⟨g3,cp3,n3,rfl,H3⟩;obtain⟨o,ho⟩:=H3.out;have HO:Hid (n3=o.length/\RowR x.l cs (segE R.es (p1,p2)) (List.replicate x.cnt.toNat newC) o):=⟨ho.1,ho.2.1⟩;have HW3:Hid (ByJ R gr cr out a n c w3/\CdJ R (segE R.es (p1,p2)) gq cq k cs w3):=⟨HD.1.on ho.2.2.2,⟨HD.2.own.below ho.2.2.2,HD.2.kl,HD.2.cd⟩⟩;have hS3:=HSS.out _ HW3.1;clear ho H3 hS0 HD HRo;refine hK.out _ _ (.inr hS3) ?_;clear hK;refine jS ?_;obtain⟨bq,hbq⟩:=qE (decide (0<n3));have HBq:Hid (bq=decide (0<o.length)):=by show _=_;rw[hbq,HO.1]
 obtain⟨W7,hW7⟩:=qW (xw w3 #[bq] 4);have HW7:Hid (ByJ R gr cr out a n c W7/\CdJ R (segE R.es (p1,p2)) gq cq k cs W7/\(∀j u,(blF bq)[j]?=some u->(xk W7 w3 j u:Prop))):=by
  have k7:=qN hW7
  exact⟨HW3.1.on k7,⟨HW3.2.own.below k7,HW3.2.kl,HW3.2.cd⟩,by rw[hW7];exact yBm w3 (blF bq) _⟩
 have hS7:=HSS.out _ HW7.1;rw[hbq]at hW7;iterate 2 refine jb hS3 ?_
 refine qO 14 rfl λK hK=>?_;go_simp;rw[<-hW7];refine hK.out _ _ (.inr hS7) ?_;clear hK hW7;refine jS ?_;refine qO 15 rfl λK hK=>?_;refine yE yOu W7 rfl _ _ 118 rfl underlying118 Tryz.infoBl rfl (by decide) (by decide) xIb R.w gq cq k w3 1 cs bq rfl rfl HW7.2.1.kl HW7.2.1.own HW7.2.2 (qw HW7.2.1.kl) HW7.1.below.size ?_;intro gq' cq' w8 hO8 hg8 ha8;have HW8:Hid (ByJ R gr cr out a n c w8/\CdJ R (segE R.es (p1,p2)) gq' cq' (k+1) (cs++ [bq]) w8):=by have k8:Chg (λq=>q=gq) W7 w8:=Chg.of_grown hg8 (λq hk=>by cases hk;rfl);refine⟨HW7.1.bools HW7.2.1.own HW7.2.1.own.lt.1 k8,⟨hO8,by rw[length_append,<-HW7.2.1.kl];rfl,?_⟩⟩;rw[HBq.out];exact CdR.step HW7.2.1.cd (by rw[getElem?_map,HX.1];rfl) HO.2
 have hS8:=HSS.out _ HW8.1;clear hO8 hg8 ha8;refine hK.out _ _ (.inr hS8) ?_;clear hK;refine jS ?_;refine qO 16 rfl λK hK=>?_;go_simp;refine hK.out _ _ (.inr hS8) ?_;clear hK hS7 hS8 hS3;refine jS ?_;refine qD ?_;refine zY ?_;exact⟨k+1,gq',cq',cs++ [bq],by omega,rfl,by go_num,HW8.out⟩):p:=h
theorem zByE (h:p:=by
 have HSS:Hid (∀X:World,ByJ R gr cr out a n c X->(λw':World=>xk w' (R.w+1+1) 1 (.slice a n c)/\xk w' R.w 1 (.slice (some ⟨R.bI,R.oI,none⟩) R.N R.cI)/\xk w' R.w 2 (xi R.m.cnt)/\xk w' gr r (.slice (some ⟨R.b,R.off+p1*5,none⟩) (p2-p1) (R.cap-p1))/\xk w' gr r (.slice (some ⟨R.b,R.off+p1*5,none⟩) (p2-p1) (R.cap-p1))/\xk w' gr r (.slice (some ⟨R.b,R.off+p1*5,none⟩) (p2-p1) (R.cap-p1))/\xk w' gr r (.slice (some ⟨R.b,R.off+p1*5,none⟩) (p2-p1) (R.cap-p1))/\xk w' gr r (.slice (some ⟨R.b,R.off+p1*5,none⟩) (p2-p1) (R.cap-p1))) X):=λX h=>by have h9:=h.rows.cell (j:=r) (by rw[getElem?_map,HP.1];rfl);exact⟨h.obx.cell (j:=1) rfl,h.box.cell (j:=1) rfl,h.box.cell (j:=2) rfl,h9,h9,h9,h9,h9⟩
 have HD:Hid (ByJ R gr cr out a n c wr.drew/\CdJ R (segE R.es (p1,p2)) gq cq k cs wr.drew):=⟨HQ.1.on ((Below.refl _ _).drew),⟨HQ.2.own.below ((Below.refl _ _).drew),HQ.2.kl,HQ.2.cd⟩⟩;have HCd:Hid (CdR (segE R.es (p1,p2)) (R.bs.map Bk.vw) [] cs):=CdR.done HQ.2.cd (by rw[length_map];have:=HR.nb;omega);have HRo:Hid (Calls prog 118 #[.agg #[.slice (some ⟨R.bI,R.oI,none⟩) R.N R.cI,xi R.m.cnt],.slice (some ⟨R.b,R.off+p1*5,none⟩) (p2-p1) (R.cap-p1),xg gq k cq] wr.drew λe w'=>∃g cp n,e=.returned (xg g n cp)/\Hid (∃o,n=o.length/\RowR R.m.l cs (segE R.es (p1,p2)) (List.replicate R.m.cnt.toNat newC) o/\OwnC w' wr.drew g cp o/\Below wr.drew wr.drew w')):=by have h9:=xDb (W:=wr.drew) HR.good.2.1 HR.N HR.ins HR.bIl HR.cI rfl HD.1.below HD.2.own (qv HD.2.kl HR.nb) HD.2.kl;exact yMh _ h9 R.b (R.off+p1*5) (R.cap-p1) cq (segE R.es (p1,p2)) (p2-p1) (yC9 HP.2.2).symm ((HR.cel.below HD.1.below).seg HP.2.1 HP.2.2) (by rw[yC9 HP.2.2];have:=HR.M;have:=HR.Ml;have:=HP.2;omega)
 have hS0:=HSS.out _ HD.1;go_upto_region 11 with fail;refine yCq [12] (λw':World=>xk w' (R.w+1+1) 1 (.slice a n c)/\xk w' R.w 1 (.slice (some ⟨R.bI,R.oI,none⟩) R.N R.cI)/\xk w' R.w 2 (xi R.m.cnt)/\xk w' gr r (.slice (some ⟨R.b,R.off+p1*5,none⟩) (p2-p1) (R.cap-p1))/\xk w' gr r (.slice (some ⟨R.b,R.off+p1*5,none⟩) (p2-p1) (R.cap-p1))/\xk w' gr r (.slice (some ⟨R.b,R.off+p1*5,none⟩) (p2-p1) (R.cap-p1))/\xk w' gr r (.slice (some ⟨R.b,R.off+p1*5,none⟩) (p2-p1) (R.cap-p1))/\xk w' gr r (.slice (some ⟨R.b,R.off+p1*5,none⟩) (p2-p1) (R.cap-p1))) (by kernel_rfl) ?_;refine txa 0 hS0 ?_;iterate 8 refine txb hS0 ?_
 refine yA3 (i:=9) (by kernel_rfl) rfl (λK hK=>?_);go_simp;refine HRo.mono ?_;rintro e w3 ⟨g3,cp3,n3,rfl,H3⟩;obtain⟨o,ho⟩:=H3.out;have HO:Hid (n3=o.length/\RowR R.m.l cs (segE R.es (p1,p2)) (List.replicate R.m.cnt.toNat newC) o/\yA4 w3 g3 0 o):=⟨ho.1,ho.2.1,ho.2.2.1.at⟩;have HW3:Hid (ByJ R gr cr out a n c w3):=HD.1.on ho.2.2.2;have hol:o.length<=p2-p1:=by have:=ho.2.1.len;rw[yC9 HP.2.2]at this;exact this
 have hS3:=HSS.out _ HW3.out;clear ho H3 hS0 HD HRo;refine hK.out _ _ (.inr hS3) ?_;clear hK;refine jS ?_;refine yA3 (i:=10) (by kernel_rfl) rfl (λK hK=>?_);refine yDz w3 rfl _ _ rfl R.w a n c g3 0 n3 cp3 out o rfl rfl HW3.n HO.1 HW3.row HO.2.2 (by have:=HW3.n;have:=HP.2;have:=HR.M;have:=HR.Ml;omega) HW3.below.size (λa' c' w4 hR4 hg4 ha4=>?_);have hc4:Chg (λq=>(Value.slice a n c).ownBlock=some q) w3 w4:=Chg.of_grown hg4 (λq hq=>hq);have H4:Hid (yA w4 R.w 39 3 (R.w+1+1) [true,.slice a n c,xi R.M]/\RowC w4 R.w (.slice a' (n+n3) c') (out++o)/\∀X:World,Chg (λq=>q=R.w.heap.size+1+1) w4 X->yA X R.w 39 3 (R.w+1+1) [true,.slice a' (n+n3) c',xi R.M]->ByJ R gr cr (out++o) a' (n+n3) c' X):=by have h3:=HW3.out;have ho4:=h3.obx.chg hc4 (λq=>yAb h3.row h3.obx (by decide) _ q rfl);refine⟨ho4,hR4,λX hX hB=>?_⟩;have hbx:=(h3.box.chg hc4 (λq=>yAb h3.row h3.box (by decide) _ q rfl)).chg hX (by omega);have hrs:=(h3.res.chg hc4 (λq=>yAb h3.row h3.res (by decide) _ q rfl)).chg hX (by omega);have hrw4:yDk w4 R.w gr cr (R.A.map (segV R.b R.off R.cap)):=yAh h3.rows hc4 (λq hq z=>yAb h3.row h3.rows qj _ z hq);have hrw:=yAh hrw4 hX (λq hq z=>yAb hrw4 ho4 (by decide) _ hq (by rw[z];rfl));refine⟨hbx,hrs,hB,hR4.chg hX (λq hq z=>yAb hR4 ho4 (by decide) _ hq (by rw[z];rfl)),by rw[length_append,<-h3.n,<-HO.1],hrw,?_⟩;have hb4:Below R.w R.w w4:=Chg.below h3.below hc4 h3.below.size (λq z=>(h3.row.blk z).1);exact Chg.below hb4 hX hb4.size (λq z=>by omega)
 have hS4:(λw':World=>xk w' (R.w+1+1) 1 (.slice a n c)/\xk w' R.w 1 (.slice (some ⟨R.bI,R.oI,none⟩) R.N R.cI)/\xk w' R.w 2 (xi R.m.cnt)/\xk w' gr r (.slice (some ⟨R.b,R.off+p1*5,none⟩) (p2-p1) (R.cap-p1))/\xk w' gr r (.slice (some ⟨R.b,R.off+p1*5,none⟩) (p2-p1) (R.cap-p1))/\xk w' gr r (.slice (some ⟨R.b,R.off+p1*5,none⟩) (p2-p1) (R.cap-p1))/\xk w' gr r (.slice (some ⟨R.b,R.off+p1*5,none⟩) (p2-p1) (R.cap-p1))/\xk w' gr r (.slice (some ⟨R.b,R.off+p1*5,none⟩) (p2-p1) (R.cap-p1))) w4:=by have h3:=HW3.out;have hbx:=h3.box.chg hc4 (λq=>yAb h3.row h3.box (by decide) _ q rfl);have hrw:yDk w4 R.w gr cr (R.A.map (segV R.b R.off R.cap)):=yAh h3.rows hc4 (λq hq z=>yAb h3.row h3.rows qj _ z hq);have h9:=hrw.cell (j:=r) (by rw[getElem?_map,HP.1];rfl);exact⟨H4.1.cell (j:=1) rfl,hbx.cell (j:=1) rfl,hbx.cell (j:=2) rfl,h9,h9,h9,h9,h9⟩
 have HN:Hid (∀r',RwsR R.m.vw (R.bs.map Bk.vw) ((R.A.map (segE R.es)).drop (r+1)) r'->RwsR R.m.vw (R.bs.map Bk.vw) (R.A.map (segE R.es)) ((out++o)++r')):=RwsR.step HJ.2 (by rw[getElem?_map,HP.1];rfl) HCd.out HO.2.1;clear hR4 hg4 ha4 hc4;refine hK.out _ _ (.inr hS4) ?_;clear hK;refine jS ?_;refine txb hS4 ?_;have v1:=H4.1.cell (j:=1) rfl;have f1:=H4.1.frozen 1;obtain⟨W5,hW5⟩:=qW (xt w4 (R.w+1+1) 1 (.slice a' (n+n3) c'));have H5:Hid (ByJ R gr cr (out++o) a' (n+n3) c' W5):=H4.2.2 W5 (by rw[hW5];exact Chg.of_set _ _ _ _ rfl) (by rw[hW5];exact H4.1.set 1 _);refine yA3 (i:=12) (by kernel_rfl) rfl (λK hK=>?_);go_simp;rw[<-hW5];refine hK.out _ _ (.inl (by decide)) ?_;clear hK hW5 hS4 hS3;refine jS ?_;refine yD6 (by kernel_rfl) ?_;refine zY ?_;exact⟨r+1,out++o,a',n+n3,c',by omega,by go_num,by have:=HO.1;have:=HP.2;have:=HR.M;have:=HR.Ml;omega,H5.out,HN.out⟩):p:=h
theorem zByZ (h:p:=by
 obtain⟨t0,t1,t2⟩:=HJ.1.obx.c3;obtain⟨v0,v1,v2⟩:=HJ.1.res.c3;obtain⟨f0,f1,f2⟩:=HJ.1.res.f3;obtain⟨W9,hW9⟩:=qE (setCs wr (R.w+1) 0 [true,.slice a n c,xi R.M]:World);have b9:yA W9 R.w 39 3 (R.w+1) [true,.slice a n c,xi R.M]:=by rw[hW9];exact HJ.1.res.setCs _
 have c9:Chg (λq=>q=R.w.heap.size+1) wr W9:=by rw[hW9];exact yAl (S:=λq=>q=R.w.heap.size+1) _ rfl _ _ _
 have HE:Hid (∃out,n=out.length/\RwsR R.m.vw (R.bs.map Bk.vw) ((allC R.es 0).map (segE R.es)) out/\RowC W9 R.w (.slice a n c) out/\Below R.w R.w W9):=by have hj:=HJ.1;refine⟨out,hj.n,?_,hj.row.chg c9 (λq hq z=>yAb hj.row hj.res (by decide) _ hq (by rw[z];rfl)),Chg.below hj.below c9 hj.below.size (λq z=>by omega)⟩;rw[<-HR.A];exact RwsR.done HJ.2 (by rw[length_map];have:=HnA.out;omega)
 obtain⟨q0,q1,q2⟩:=b9.c3;simp only[setCs,Nat.zero_add,Nat.reduceAdd]at hW9;clear b9 c9;go_wp2;rw[<-hW9];exact bodyPost_ret (v:=.agg #[true,.slice a n c,xi R.M]) (by simp[results,results56,go_sem,q0,q1,q2]) rfl ⟨a,n,c,rfl,HE⟩):p:=h
theorem yOb(R:ByG)(hR:ByO R):
  Calls prog 56 #[.agg #[.slice (some ⟨R.ub,R.uo,none⟩) R.nb R.uc,.slice (some ⟨R.bI,R.oI,none⟩) R.N R.cI,xi R.m.cnt],.slice (some ⟨R.b,R.off,none⟩) R.M R.cap] R.w λe w'=>∃a n c,e=.returned (.agg #[true,.slice a n c,xi R.M])/\Hid (∃out,n=out.length/\RwsR R.m.vw (R.bs.map Bk.vw) ((allC R.es 0).map (segE R.es)) out/\RowC w' R.w (.slice a n c) out/\Below R.w R.w w'):=by
 have HR:Hid (ByO R):=hR;have a9:R.nb<=200:=by rw[hR.nb];exact hR.good.1
 have a7:R.A.length<=10000:=by rw[hR.A];exact Nat.le_trans (yQ2 R.es _ 0) (qv hR.M hR.Ml)
 obtain⟨W0,a0⟩:=qW (xw ((R.w.alloc (Obj.cells #[.slice (some ⟨R.ub,R.uo,none⟩) R.nb R.uc,.slice (some ⟨R.bI,R.oI,none⟩) R.N R.cI,xi R.m.cnt] 34)).alloc (Obj.cells #[false,xh,xi 0] 39)) #[true,xh,xi R.M] 39);have H0:Hid (yA W0 R.w 34 3 R.w [.slice (some ⟨R.ub,R.uo,none⟩) R.nb R.uc,.slice (some ⟨R.bI,R.oI,none⟩) R.N R.cI,xi R.m.cnt]/\yA W0 R.w 39 3 (R.w+1) [false,xh,xi 0]/\yA W0 R.w 39 3 (R.w+1+1) [true,xh,xi R.M]/\Below R.w R.w W0):=by
  obtain⟨X,hX⟩:=qW (xw R.w #[.slice (some ⟨R.ub,R.uo,none⟩) R.nb R.uc,.slice (some ⟨R.bI,R.oI,none⟩) R.N R.cI,xi R.m.cnt] 34);rw[<-hX]at a0;obtain⟨Y,hY⟩:=qW (xw X #[.bool false,.slice none 0 0,.int .i64 0] 39);rw[<-hY]at a0;have zx:X.heap.size=R.w.heap.size+1:=by rw[hX];simp
  have zy:Y.heap.size=R.w.heap.size+1+1:=by rw[hY];simp;omega
  have k1:Below R.w R.w X:=by rw[hX];exact qB
  have k2:Below X X Y:=by rw[hY];exact qB
  have k3:Below Y Y W0:=by rw[a0];exact qB
  have b1:yA X R.w.heap.size 34 3 R.w.heap.size [.slice (some ⟨R.ub,R.uo,none⟩) R.nb R.uc,.slice (some ⟨R.bI,R.oI,none⟩) R.N R.cI,.int .i64 R.m.cnt]:=by rw[hX];exact yAa R.w _ (Nat.le_refl _) rfl
  have b2:yA Y R.w.heap.size 39 3 (R.w.heap.size+1) [.bool false,.slice none 0 0,.int .i64 0]:=by rw[hY,<-zx];exact yAa X _ (by omega) rfl
  have b3:yA W0 R.w.heap.size 39 3 (R.w.heap.size+1+1) [.bool true,.slice none 0 0,.int .i64 (R.M:Int)]:=by rw[a0,<-zy];exact yAa Y _ (by omega) rfl
  exact⟨(b1.below k2).below k3,b2.below k3,b3,(k1.trans (k2.mono (by omega))).trans (k3.mono (by omega))⟩
 have a4:Hid (Calls prog 107 #[.slice (some ⟨R.b,R.off,none⟩) R.M R.cap] W0 λe w'=>∃g cp,e=.returned (.slice (some ⟨g,0,none⟩) R.A.length cp)/\yDk w' W0.heap.size g cp (R.A.map (segV R.b R.off R.cap))/\Below W0.heap.size W0 w'):=by rw[hR.A,hR.M];exact yS8 (hR.cel.below H0.2.2.2) (qv hR.M hR.Ml)
 obtain⟨nA,a3⟩:=qE R.A.length;have HnA:Hid (nA=R.A.length):=a3;rw[<-a3]at a4 a7;clear hR a3;go_enter func56,ntmps56;go_upto_region 2 with fail;rw[<-a0];clear a0;go_wp2_with fail;refine a4.mono ?_;rintro e w1 ⟨gr,cr,rfl,a5,a1⟩;have H1:Hid (ByJ R gr cr [] none 0 0 w1):=by obtain⟨h1,h2,h3,h4⟩:=H0.out;refine⟨h1.below a1,h2.below a1,h3.below a1,yGq _ _,rfl,?_,h4.trans (a1.mono h4.size)⟩;exact yYq a5 h4.size
 clear a5 a1 a4 H0;go_wp2;go_loopw[7] (λrv wr=>∃(r:Nat)(out:List Ent)(a:Option Addr)(n c:Nat),r<=nA/\rv=.int .i64 (r:Int)/\n<=10000*r/\Hid (ByJ R gr cr out a n c wr/\∀r',RwsR R.m.vw (R.bs.map Bk.vw) ((R.A.map (segE R.es)).drop r) r'->RwsR R.m.vw (R.bs.map Bk.vw) (R.A.map (segE R.es)) (out++r'))) (λrv _=>nA-(intOf rv).toNat);case atStart=>exact⟨0,[],none,0,0,zero_le _,rfl,zero_le _,H1.out,λo h=>h⟩
 case round=>
  clear H1;obtain⟨r,out,a,n,c,hr,rfl,a8,HJ⟩:=hrel;by_cases hlt:r<nA
  .have zr:(r:Int)<(nA:Int):=by omega
   obtain⟨⟨p1,p2⟩,hp⟩:∃p,R.A[r]?=some p:=⟨_,getElem?_eq_getElem (qw HnA.out)⟩;have HP:Hid (R.A[r]?=some (p1,p2)/\p1<=p2/\p2<=R.es.length):=⟨hp,HR.Am _ (mem_of_getElem? hp)⟩;clear hp;obtain⟨wo,a6⟩:=qW wr;subst a6;obtain⟨W2,a2⟩:=qW (wo.alloc (Obj.cells #[] 4));have H2:Hid (ByJ R gr cr out a n c W2/\CdJ R (segE R.es (p1,p2)) wo.heap.size 0 0 [] W2):=by
    have k2:Below wo wo W2:=by rw[a2];exact qB
    exact⟨HJ.1.on k2,⟨by rw[a2];exact yU1 wo HJ.1.below.size,rfl,λr h=>h⟩⟩
   go_upto_region 7 with fail;rw[<-a2];clear a2;go_wp2;go_loopw[8,9] (λcv kv wr=>∃(k gq cq:Nat)(cs:List Bool),k<=R.nb/\cv=.slice (some ⟨gq,0,none⟩) k cq/\kv=.int .i64 (k:Int)/\Hid (ByJ R gr cr out a n c wr/\CdJ R (segE R.es (p1,p2)) gq cq k cs wr)) (λ_ kv _=>R.nb-(intOf kv).toNat);case atStart=>exact⟨0,_,0,[],zero_le _,rfl,rfl,H2.out⟩
   case round=>
    clear H2;obtain⟨k,gq,cq,cs,hk,rfl,rfl,HQ⟩:=hrel;have y0:=HQ.1.box.cell (j:=0) rfl;by_cases hkl:k<R.nb
    .have zk:(k:Int)<(R.nb:Int):=by omega
     as_aux_lemma=>exact zByC
    .have zk:¬(k:Int)<(R.nb:Int):=by omega
     as_aux_lemma=>exact zByE
  .have zr:¬(r:Int)<(nA:Int):=by omega
   as_aux_lemma=>exact zByZ
end
section
def RunM(bs:List Bk)(m:Bk)(es:List Ent)(hints:Bool)(ok:Bool)(out:List Ent)(n:Nat):Prop:=
 (¬(yCn bs m/\yC es)/\ok=false/\out= []/\n=0)\/((yCn bs m/\yC es)/\ok=true/\((¬bs= []/\RwsR m.vw (bs.map Bk.vw) ((allC es 0).map (segE es)) out/\n=es.length)\/(bs= []/\MvR m.l hints es (List.replicate m.cnt.toNat newC) out n)))
theorem RunM.one{bs:List Bk}{m:Bk}{es:List Ent}{hints ok ok':Bool}{out':List Ent}{n':Nat}(h:RunM bs m es hints ok out n)(k:RunM bs m es hints ok' out' n'):ok=ok'/\out=out'/\n=n':=by
 rcases h with⟨h1,rfl,rfl,rfl⟩|⟨h1,rfl,h2⟩
 .rcases k with⟨_,rfl,rfl,rfl⟩|⟨k1,_⟩
  .exact⟨rfl,rfl,rfl⟩
  .exact absurd k1 h1
 .rcases k with⟨k1,_⟩|⟨_,rfl,k2⟩
  .exact absurd h1 k1
  .rcases h2 with⟨a1,a2,rfl⟩|⟨a1,a2⟩
   .rcases k2 with⟨_,b2,rfl⟩|⟨b1,_⟩
    .exact⟨rfl,a2.one b2,rfl⟩
    .exact absurd b1 a1
   .rcases k2 with⟨b1,_⟩|⟨_,b2⟩
    .exact absurd a1 b1
    .exact⟨rfl,(a2.one b2).1,(a2.one b2).2⟩
def RunP(bs:List Bk)(m:Bk)(es:List Ent)(hints:Bool)(w:World)(e:Ending)(w':World):Prop:=
 ∃(ok:Bool)(a:Option Addr)(n c ops:Nat),e=.returned (.agg #[ok,.slice a n c,xi ops])/\Hid (∃out,n=out.length/\RunM bs m es hints ok out ops/\RowC w' w (.slice a n c) out/\Below w w w')
structure RnJ(w:World)(u mv:Value)(cnt:Int)(ob nk:Nat)(out:List Ent)(a:Option Addr)(n c ops:Nat)(gk cpk:Nat)(cs:List Ctr)(wr:World):Prop where
 box:yA wr w 34 3 w [u,mv,xi cnt]
 res:yA wr w 39 3 (w+1) [false,xh,xi 0]
 obx:yA wr w 39 3 ob [true,.slice a n c,xi ops]
 row:RowC wr w (.slice a n c) out
 nl:n=out.length
 ctr:yF0 wr w gk cpk cs
 len:cs.length=nk
 cb:∀k∈cs,0<=k.count/\k.count<=1000
 ne:w.heap.size+1<ob
 below:Below w w wr
section
variable {w:World} {u mv:Value} {cnt:Int} {ob nk:Nat} {out:List Ent} {a:Option Addr} {n c ops gk cpk:Nat} {cs:List Ctr} {wr W:World}
theorem RnJ.on(h:RnJ w u mv cnt ob nk out a n c ops gk cpk cs wr)(hb:Below wr wr W):RnJ w u mv cnt ob nk out a n c ops gk cpk cs W:=
 {h with box:=h.box.below hb,res:=h.res.below hb,obx:=h.obx.below hb,row:=h.row.below hb,ctr:=h.ctr.below hb,below:=h.below.trans (hb.mono h.below.size)}
theorem RnJ.ctrs{cs':List Ctr}(h:RnJ w u mv cnt ob nk out a n c ops gk cpk cs wr)(hO:yF0 W w gk cpk cs')(hl:cs'.length=nk)(hcb:∀k∈cs',0<=k.count/\k.count<=1000)(hc:Chg (λk=>k=gk) wr W):RnJ w u mv cnt ob nk out a n c ops gk cpk cs' W:=
 {h with
  box:=h.box.chg hc (λq=>yAb h.box h.ctr (by decide) _ rfl (by rw[q];rfl))
  res:=h.res.chg hc (λq=>yAb h.res h.ctr (by decide) _ rfl (by rw[q];rfl))
  obx:=h.obx.chg hc (λq=>yAb h.obx h.ctr (by decide) _ rfl (by rw[q];rfl))
  row:=h.row.chg hc (λk hk q=>yAb h.row h.ctr (by decide) _ hk (by rw[q];rfl))
  ctr:=hO
  len:=hl
  cb:=hcb
  below:=Chg.below h.below hc h.below.size (λk q=>qw h.ctr.lt)}
theorem RnJ.side(h:RnJ w u mv cnt ob nk out a n c ops gk cpk cs wr)(hB:w.heap.size+1<B/\¬B=ob/\¬B=gk/\¬(Value.slice a n c).ownBlock=some B)(hc:Chg (λk=>k=B) wr W):RnJ w u mv cnt ob nk out a n c ops gk cpk cs W:=
 {h with
  box:=h.box.chg hc (by omega)
  res:=h.res.chg hc (by omega)
  obx:=h.obx.chg hc (λq=>hB.2.1 q.symm)
  row:=h.row.chg hc (λk hk q=>hB.2.2.2 (by rw[<-q];exact hk))
  ctr:=h.ctr.chg hc (λq=>hB.2.2.1 q.symm)
  below:=Chg.below h.below hc h.below.size (λk q=>by omega)}
theorem RnJ.put{out':List Ent}{a':Option Addr}{n' c' ops':Nat}{W1:World}(h:RnJ w u mv cnt ob nk out a n c ops gk cpk cs wr)(hc1:Chg (λk=>(Value.slice a n c).ownBlock=some k) wr W1)(hr:RowC W1 w (.slice a' n' c') out')(hn:n'=out'.length)(hc:Chg (λk=>k=ob) W1 W)(hb:yA W w 39 3 ob [true,.slice a' n' c',xi ops']):RnJ w u mv cnt ob nk out' a' n' c' ops' gk cpk cs W:=by
 have o1:=h.obx.chg hc1 (λq=>yAb h.row h.obx (by decide) _ q rfl);have a0:=h.ne;have k1:yF0 W1 w gk cpk cs:=yAh h.ctr hc1 (λq hq z=>yAb h.row h.ctr qj _ z hq);have b1:Below w w W1:=Chg.below h.below hc1 h.below.size (λq z=>(h.row.blk z).1)
 exact {h with
  box:=(h.box.chg hc1 (λq=>yAb h.row h.box (by decide) _ q rfl)).chg hc (by omega)
  res:=(h.res.chg hc1 (λq=>yAb h.row h.res (by decide) _ q rfl)).chg hc (by omega)
  obx:=hb
  row:=hr.chg hc (λq hq z=>yAb hr o1 (by decide) _ hq (by rw[z];rfl))
  nl:=hn
  ctr:=yAh k1 hc (λq hq z=>yAb k1 o1 (by decide) _ hq (by rw[z];rfl))
  below:=Chg.below b1 hc b1.size (λq z=>by omega)}
end
theorem zSpF (h:p:=by
 obtain⟨v0,v1,v2⟩:=HX.1.c3;obtain⟨f0,f1,f2⟩:=HX.1.f3;obtain⟨W9,hW9⟩:=qE (setCs wx (w+1) 0 [false,xh,xi 0]:World);have b9:yA W9 w 39 3 (w+1) [false,xh,xi 0]:=by rw[hW9];exact HX.1.setCs _
 have c9:Chg (λq=>q=w.heap.size+1) wx W9:=by rw[hW9];exact yAl (S:=λq=>q=w.heap.size+1) _ rfl _ _ _
 have HE:Hid (∃out,0=out.length/\RunM bs m es hints false out 0/\RowC W9 w xh out/\Below w w W9):=⟨[],rfl,.inl ⟨HX.2.1,rfl,rfl,rfl⟩,yGq _ _,Chg.below HX.2.2 c9 HX.2.2.size (λq z=>by omega)⟩;obtain⟨q0,q1,q2⟩:=b9.c3;simp only[setCs,Nat.zero_add,Nat.reduceAdd]at hW9;clear b9 c9;go_wp2_with fail;rw[<-hW9];exact bodyPost_ret (v:=.agg #[false,xh,xi (0:Nat)]) (by simp[results,results18,go_sem,q0,q1,q2]) rfl ⟨false,none,0,0,0,rfl,HE⟩):p:=h
theorem zSpN (h:p:=by
 have t2:=HX.obx.cell (j:=2) rfl;have f2:=HX.obx.frozen 2;obtain⟨W9,hW9⟩:=qE (xt wx ob 2 (xi (ops+1:Nat)):World);have H9:Hid (RnJ w (.slice ua ul uc) (.slice (some ⟨bI,oI,none⟩) N cI) m.cnt ob nk ox ax nx cx (ops+1) gk cpk cs' W9):=by refine HX.put (W1:=wx) (Chg.refl _ _) HX.row HX.nl (by rw[hW9];exact Chg.of_set _ _ _ _ rfl) ?_;rw[hW9];exact HX.obx.set 2 _
 have zo:IntKind.i64.wrap ((ops:Int)+1)=(ops:Int)+1:=by rw[IntKind.wrap_i64];omega
 simp only[Int.natCast_add,Int.cast_ofNat_Int]at hW9;go_wp2_with fail;rw[<-hW9];go_roundw;case rel=>exact⟨jx,ops+1,gk,cpk,ox,ax,nx,cx,cs',by omega,by omega,hnb,rfl,rfl,H9.out,HN.out⟩
 case measure=>simp[intOf];omega):p:=h
theorem zSpA (h:p:=by
 have HST:Hid (∀X:World,RnJ w (.slice ua ul uc) (.slice (some ⟨bI,oI,none⟩) N cI) m.cnt ob nk out a n c ops gk cpk cs' X->yA X w 115 4 wo it.four->(λw':World=>xk w' ob 1 (.slice a n c)/\xk w' wo 0 true/\xk w' wo 1 it.strip/\xk w' wo 2 (xi it.hint.rank)/\xk w' wo 3 it.hint.txt/\xk w' gc (i*5) x.row/\xk w' gc (i*5+1) x.fam/\xk w' gc (i*5+2) x.qual/\xk w' gc (i*5+3) (xu x.ts)/\xk w' gc (i*5+4) x.val) X):=λX h k=>by obtain⟨_,_,e0,e1,e2,e3,e4,_⟩:=HSS.out X _ _ _ _ _ _ h;have h0:=k.cell (j:=0) rfl;rw[hal]at h0;exact⟨h.obx.cell (j:=1) rfl,h0,k.cell (j:=1) rfl,k.cell (j:=2) rfl,k.cell (j:=3) rfl,e0,e1,e2,e3,e4⟩
 obtain⟨x',hx'⟩:=qE (yB it x);have HTd:Hid (∀X:World,(xf 59 #[.agg #[true,it.strip,xi it.hint.rank,it.hint.txt],.agg #[x.row,x.fam,x.qual,xu x.ts,x.val]] X x'.c:Prop)):=λX=>by have h9:=yO4 it x X;rw[hal,<-hx']at h9;exact h9
 simp only[hal,if_true,Bool.true_eq_false,false_and,if_false]at HN;rw[<-hx']at HN;have HW5:Hid (RnJ w (.slice ua ul uc) (.slice (some ⟨bI,oI,none⟩) N cI) m.cnt ob nk out a n c ops gk cpk cs' W4.drew/\yA W4.drew w 115 4 wo it.four):=⟨HW4.1.on ((Below.refl _ _).drew),HW4.2.below ((Below.refl _ _).drew)⟩;have hS5:=HST.out _ HW5.1 HW5.2;clear hx';go_upto_region 13 with fail;refine yCq [11] (λw':World=>xk w' ob 1 (.slice a n c)/\xk w' wo 0 true/\xk w' wo 1 it.strip/\xk w' wo 2 (xi it.hint.rank)/\xk w' wo 3 it.hint.txt/\xk w' gc (i*5) x.row/\xk w' gc (i*5+1) x.fam/\xk w' gc (i*5+2) x.qual/\xk w' gc (i*5+3) (xu x.ts)/\xk w' gc (i*5+4) x.val) (by kernel_rfl) ?_;refine txa 0 hS5 ?_;iterate 6 refine txb hS5 ?_
 refine yA3 (i:=7) (by kernel_rfl) rfl (λK hK=>?_);go_simp;refine(HTd.out _).mono ?_;rintro e w6 ⟨rfl,hb6⟩;have HW6:Hid (RnJ w (.slice ua ul uc) (.slice (some ⟨bI,oI,none⟩) N cI) m.cnt ob nk out a n c ops gk cpk cs' w6/\yA w6 w 115 4 wo it.four):=⟨HW5.1.on hb6,HW5.2.below hb6⟩;have hS6:=HST.out _ HW6.1 HW6.2;clear hb6 hS5;refine hK.out _ _ (.inr hS6) ?_;clear hK;refine jS ?_;obtain⟨W7,hW7⟩:=qE (xw w6 #[x'.row,x'.fam,x'.qual,xu x'.ts,x'.val] 70:World);have HW7:Hid (RnJ w (.slice ua ul uc) (.slice (some ⟨bI,oI,none⟩) N cI) m.cnt ob nk out a n c ops gk cpk cs' W7/\yA W7 w 115 4 wo it.four/\yA4 W7 w6 0 [x']):=by
  have k7:=qN hW7
  refine⟨HW6.1.on k7,HW6.2.below k7,?_⟩;intro j e he;have b7:yA W7 w6 70 5 w6 x'.five:=by rw[hW7];exact yAa w6 _ qr rfl
  have hj:j=0:=by have:=qf he;simpa using this
  subst hj;simp at he;subst he;exact⟨b7.cell (j:=0) rfl,b7.cell (j:=1) rfl,b7.cell (j:=2) rfl,b7.cell (j:=3) rfl,b7.cell (j:=4) rfl⟩
 have hS7:=HST.out _ HW7.1 HW7.2.1;refine yA3 (i:=8) (by kernel_rfl) rfl (λK hK=>?_);refine yGn w6 rfl _ rfl x' rfl ?_;rw[<-hW7];refine hK.out _ _ (.inr hS7) ?_;clear hK hW7 hS6;refine jS ?_;refine yA3 (i:=9) (by kernel_rfl) rfl (λK hK=>?_);refine yDz W7 rfl _ _ rfl w a n c w6 0 1 1 out [x'] rfl rfl HW7.1.nl rfl HW7.1.row HW7.2.2 (by have:=HW7.1.nl;simp;omega) HW7.1.below.size (λax cx w8 hR8 hg8 ha8=>?_);have hc8:Chg (λq=>(Value.slice a n c).ownBlock=some q) W7 w8:=Chg.of_grown hg8 (λq hq=>hq);have hib:¬(Value.slice a n c).ownBlock=some wo.heap.size:=λq=>yAb HW7.1.row HW7.2.1 (by decide) _ q rfl;have H8:Hid (yA w8 w 39 3 ob [true,.slice a n c,xi ops]/\RowC w8 w (.slice ax (n+1) cx) (out++ [x'])/\Chg (λq=>(Value.slice a n c).ownBlock=some q) W7 w8):=⟨HW7.1.obx.chg hc8 (λq=>yAb HW7.1.row HW7.1.obx qj _ q rfl),hR8,hc8⟩;have hS8:(λw':World=>xk w' ob 1 (.slice a n c)/\xk w' wo 0 true/\xk w' wo 1 it.strip/\xk w' wo 2 (xi it.hint.rank)/\xk w' wo 3 it.hint.txt/\xk w' gc (i*5) x.row/\xk w' gc (i*5+1) x.fam/\xk w' gc (i*5+2) x.qual/\xk w' gc (i*5+3) (xu x.ts)/\xk w' gc (i*5+4) x.val) w8:=by
  obtain⟨d0,d1,d2,d3,d4,e0,e1,e2,e3,e4⟩:=hS7;have hi:=HW7.2.1.chg hc8 hib;have h0:=hi.cell (j:=0) rfl;rw[hal]at h0;have hgn:¬(Value.slice a n c).ownBlock=some gc:=λq=>qw ((HW7.1.row.blk q).1)
  have hgl7:gc<W7.heap.size:=qw HW7.1.below.size
  exact⟨H8.1.cell (j:=1) rfl,h0,hi.cell (j:=1) rfl,hi.cell (j:=2) rfl,hi.cell (j:=3) rfl,by rw[hc8.cell (p:=(xd gc _)) hgl7 hgn];exact e0,by rw[hc8.cell (p:=(xd gc _)) hgl7 hgn];exact e1,by rw[hc8.cell (p:=(xd gc _)) hgl7 hgn];exact e2,by rw[hc8.cell (p:=(xd gc _)) hgl7 hgn];exact e3,by rw[hc8.cell (p:=(xd gc _)) hgl7 hgn];exact e4⟩
 clear hR8 hg8 ha8 hc8 hib hS7;refine hK.out _ _ (.inr hS8) ?_;clear hK;refine jS ?_;refine txb hS8 ?_;have v1:=H8.1.cell (j:=1) rfl;have f1:=H8.1.frozen 1;obtain⟨wx,hwx⟩:=qW (xt w8 ob 1 (.slice ax (n+1) cx));have HX:Hid (RnJ w (.slice ua ul uc) (.slice (some ⟨bI,oI,none⟩) N cI) m.cnt ob nk (out++ [x']) ax (n+1) cx ops gk cpk cs' wx):=by refine HW7.1.put (W1:=w8) H8.2.2 H8.2.1 (by rw[length_append,<-HW7.1.nl];rfl) (by rw[hwx];exact Chg.of_set _ _ _ _ rfl) ?_;rw[hwx];exact H8.1.set 1 _
 refine yA3 (i:=11) (by kernel_rfl) rfl (λK hK=>?_);go_simp;rw[<-hwx];refine hK.out _ _ (.inl (by decide)) ?_;clear hK hwx hS8 v1 f1;refine jS ?_;refine yD6 (by kernel_rfl) ?_;obtain⟨ox,hox⟩:=qE (out++ [x']);obtain⟨nx,hnx⟩:=qE (n+1);obtain⟨jx,hjx⟩:=qE (i+1);have hji:i<jx:=by omega
 have hjM:jx<=M:=by omega
 rw[<-hox]at HX HN;rw[<-hnx]at HX;rw[<-hjx]at HN;have zj:(jx:Int)=(i:Int)+1:=by omega
 have hnb:nx<=ops+1:=by omega
 clear hox hnx;rw[<-zj];exact zSpN):p:=h
theorem zSpD (h:p:=by
 simp only[hal,Bool.false_eq_true,and_false,if_false]at HN;obtain⟨wx,hwx⟩:=qE (W4:World);obtain⟨ox,hox⟩:=qE out;obtain⟨ax,hax⟩:=qE a;obtain⟨nx,hnx⟩:=qE n;obtain⟨cx,hcx⟩:=qE c;obtain⟨jx,hjx⟩:=qE (i+1);have hji:i<jx:=by omega
 have hjM:jx<=M:=by omega
 have HX:Hid (RnJ w (.slice ua ul uc) (.slice (some ⟨bI,oI,none⟩) N cI) m.cnt ob nk ox ax nx cx ops gk cpk cs' wx):=by rw[hwx,hox,hax,hnx,hcx];exact HW4.1
 rw[<-hox,<-hjx]at HN;rw[<-hwx]at p0|-;have zj:(jx:Int)=(i:Int)+1:=by omega
 have hnb:nx<=ops+1:=by omega
 clear hwx hox hax hnx hcx;go_upto_region 17 with fail;rw[<-zj];exact zSpN):p:=h
theorem zSpX (h:p:=by
 obtain⟨ox,hox⟩:=qE out;obtain⟨ax,hax⟩:=qE a;obtain⟨nx,hnx⟩:=qE n;obtain⟨cx,hcx⟩:=qE c;obtain⟨jx,hjx⟩:=qE j;have hji:i<jx:=by omega
 have hjM:jx<=M:=by omega
 have HX:Hid (RnJ w (.slice ua ul uc) (.slice (some ⟨bI,oI,none⟩) N cI) m.cnt ob nk ox ax nx cx ops gk cpk cs' wx):=by rw[hox,hax,hnx,hcx];exact HXw.out
 have hj2:i+1+((es.drop (i+1)).takeWhile (yAz it.hint x)).length=jx:=by
  have h9:=yXx (p:=yAz it.hint x) (es.drop (i+1)) (j-(i+1)) (by rw[length_drop];have:=HM.2.1;omega) (λk e hk he=>by
   rw[getElem?_drop]at he
   exact HK.out (i+1+k) e (by omega) (by omega) he) (λe he=>by
   rw[getElem?_drop,show i+1+(j-(i+1))=j by omega]at he
   exact HEn.out e he)
  omega
 have hnb:nx<=ops+1:=by omega
 rw[hj2,<-hox]at HN;rw[<-hjx];clear hj2 hox hax hnx hcx hjx;exact zSpN):p:=h
theorem zSpH (h:p:=by
 simp only[hal,Bool.false_eq_true,if_false,and_self,eq_self,if_true]at HN;go_wp2_with fail;go_loopw[11] (λjv wr=>∃j:Nat,i+1<=j/\j<=M/\jv=(xi j)/\Hid ((∀(k:Nat)(e:Ent),i+1<=k->k<j->es[k]?=some e->yAz it.hint x e=true)/\RnJ w (.slice ua ul uc) (.slice (some ⟨bI,oI,none⟩) N cI) m.cnt ob nk out a n c ops gk cpk cs' wr/\yA wr w 115 4 wo it.four)) (λjv _=>M-(intOf jv).toNat);case atStart=>exact⟨i+1,Nat.le_refl _,by omega,by go_num,λk e h1 h2=>by omega,HW4.1,HW4.2⟩
 case round=>
  clear HW4 p0;obtain⟨j,hij,hjM0,rfl,HI⟩:=hrel;have HK:Hid (∀(k:Nat)(e:Ent),i+1<=k->k<j->es[k]?=some e->yAz it.hint x e=true):=HI.1;have HD:Hid (RnJ w (.slice ua ul uc) (.slice (some ⟨bI,oI,none⟩) N cI) m.cnt ob nk out a n c ops gk cpk cs' wr.drew/\yA wr.drew w 115 4 wo it.four):=⟨HI.2.1.on ((Below.refl _ _).drew),HI.2.2.below ((Below.refl _ _).drew)⟩;by_cases hjl:j<M
  .obtain⟨y,hy⟩:∃y,es[j]?=some y:=qg (qw HM.2.1);have HY:Hid (es[j]?=some y):=hy;have zj:(j:Int)<(M:Int):=by omega
   have hd:decide ((j:Int)<(M:Int))=true:=by simp;omega
   have HST:Hid (∀X:World,RnJ w (.slice ua ul uc) (.slice (some ⟨bI,oI,none⟩) N cI) m.cnt ob nk out a n c ops gk cpk cs' X->yA X w 115 4 wo it.four->(λw':World=>xk w' wo 2 (xi it.hint.rank)/\xk w' wo 3 it.hint.txt/\xk w' gc (i*5) x.row/\xk w' gc (i*5+1) x.fam/\xk w' gc (i*5+2) x.qual/\xk w' gc (i*5+3) (xu x.ts)/\xk w' gc (i*5+4) x.val/\xk w' gc (j*5) y.row/\xk w' gc (j*5+1) y.fam/\xk w' gc (j*5+2) y.qual/\xk w' gc (j*5+3) (xu y.ts)/\xk w' gc (j*5+4) y.val/\xk w' gc (i*5) x.row/\xk w' gc (i*5) x.row/\xk w' gc (i*5+1) x.fam/\xk w' gc (i*5+2) x.qual/\xk w' gc (i*5+3) (xu x.ts)/\xk w' gc (i*5+4) x.val) X):=λX h k=>by obtain⟨_,_,e0,e1,e2,e3,e4,_⟩:=HSS.out X _ _ _ _ _ _ h;obtain⟨d0,d1,d2,d3,d4⟩:=HM.1.at j y hy;simp only[Nat.zero_add]at d0 d1 d2 d3 d4;have hb:=h.below;exact⟨k.cell (j:=2) rfl,k.cell (j:=3) rfl,e0,e1,e2,e3,e4,by rw[hb.cell (p:=(xd gc _)) hgl];exact d0,by rw[hb.cell (p:=(xd gc _)) hgl];exact d1,by rw[hb.cell (p:=(xd gc _)) hgl];exact d2,by rw[hb.cell (p:=(xd gc _)) hgl];exact d3,by rw[hb.cell (p:=(xd gc _)) hgl];exact d4,e0,e0,e1,e2,e3,e4⟩
   have hS0:=HST.out _ HD.1 HD.2;obtain⟨sk,hsk⟩:=qE (yAz it.hint x y);have HSk:Hid (sk=yAz it.hint x y):=hsk;have HCs:Hid (∀X:World,(xf 60 #[.agg #[xi it.hint.rank,it.hint.txt],.agg #[x.row,x.fam,x.qual,xu x.ts,x.val],.agg #[y.row,y.fam,y.qual,xu y.ts,y.val]] X sk:Prop)):=λX=>by rw[hsk];exact yV0 it.hint x y X
   clear hy hsk;go_upto_region 15 with fail;refine yAf 99 (λw':World=>xk w' wo 2 (xi it.hint.rank)/\xk w' wo 3 it.hint.txt/\xk w' gc (i*5) x.row/\xk w' gc (i*5+1) x.fam/\xk w' gc (i*5+2) x.qual/\xk w' gc (i*5+3) (xu x.ts)/\xk w' gc (i*5+4) x.val/\xk w' gc (j*5) y.row/\xk w' gc (j*5+1) y.fam/\xk w' gc (j*5+2) y.qual/\xk w' gc (j*5+3) (xu y.ts)/\xk w' gc (j*5+4) y.val/\xk w' gc (i*5) x.row/\xk w' gc (i*5) x.row/\xk w' gc (i*5+1) x.fam/\xk w' gc (i*5+2) x.qual/\xk w' gc (i*5+3) (xu x.ts)/\xk w' gc (i*5+4) x.val) (by kernel_rfl) ?_;refine ja 0 hS0 ?_;iterate 14 refine jb hS0 ?_
   refine qO 15 rfl λK hK=>?_;go_simp;refine(HCs.out _).mono ?_;rintro e wx ⟨rfl,hb5⟩;have HW5:Hid (RnJ w (.slice ua ul uc) (.slice (some ⟨bI,oI,none⟩) N cI) m.cnt ob nk out a n c ops gk cpk cs' wx/\yA wx w 115 4 wo it.four):=⟨HD.1.on hb5,HD.2.below hb5⟩;have hS5:=HST.out _ HW5.1 HW5.2;clear hb5 hS0;refine hK.out _ _ (.inr hS5) ?_;clear hK;refine jS ?_;refine jb hS5 ?_;refine qD ?_;cases hb:sk
   .have HXw:Hid (RnJ w (.slice ua ul uc) (.slice (some ⟨bI,oI,none⟩) N cI) m.cnt ob nk out a n c ops gk cpk cs' wx):=HW5.1;have HEn:Hid (∀e,es[j]?=some e->yAz it.hint x e=false):=λe he=>by rw[HY.out]at he;cases he;rw[<-HSk.out];exact hb
    clear hS5 HD HI;exact zSpX
   .have HKn:Hid (∀(k:Nat)(e:Ent),i+1<=k->k<j+1->es[k]?=some e->yAz it.hint x e=true):=λk e h1 h2 h3=>by
     by_cases hkj:k=j
     .subst hkj;rw[HY.out]at h3;cases h3;rw[<-HSk.out];exact hb
     .exact HK.out k e h1 (by omega) h3
    clear hS5 HD HI;refine zY ?_;exact⟨j+1,by omega,by omega,by go_num,HKn.out,HW5.out⟩
  .have zj:¬(j:Int)<(M:Int):=by omega
   have hd:decide ((j:Int)<(M:Int))=false:=by simp;omega
   have hS0:=HSS.out _ _ _ _ _ _ _ HD.1;go_upto_region 15 with fail;refine yAf 99 (λw':World=>xk w' w 1 (.slice (some ⟨bI,oI,none⟩) N cI)/\xk w' w 2 (xi m.cnt)/\xk w' gc (i*5) x.row/\xk w' gc (i*5+1) x.fam/\xk w' gc (i*5+2) x.qual/\xk w' gc (i*5+3) (xu x.ts)/\xk w' gc (i*5+4) x.val/\xk w' w 2 (xi m.cnt)) (by kernel_rfl) ?_;generalize wr.drew=wx at HD hS0|-;refine ja 0 hS0 ?_;iterate 16 refine jb hS0 ?_
   refine qD ?_;have HXw:Hid (RnJ w (.slice ua ul uc) (.slice (some ⟨bI,oI,none⟩) N cI) m.cnt ob nk out a n c ops gk cpk cs' wx):=HD.1;have HEn:Hid (∀e,es[j]?=some e->yAz it.hint x e=false):=λe he=>qv (qf he) HM.2.1
   clear hS0 HD HI;exact zSpX):p:=h
theorem zSpL (h:p:=by
 obtain⟨x,hx⟩:∃x,es[i]?=some x:=qg (qw HM.2.1);have HXi:Hid (es[i]?=some x):=hx;have HSS:Hid (∀(X:World)(out:List Ent)(a:Option Addr)(n c ops:Nat)(cs:List Ctr),RnJ w (.slice ua ul uc) (.slice (some ⟨bI,oI,none⟩) N cI) m.cnt ob nk out a n c ops gk cpk cs X->(λw':World=>xk w' w 1 (.slice (some ⟨bI,oI,none⟩) N cI)/\xk w' w 2 (xi m.cnt)/\xk w' gc (i*5) x.row/\xk w' gc (i*5+1) x.fam/\xk w' gc (i*5+2) x.qual/\xk w' gc (i*5+3) (xu x.ts)/\xk w' gc (i*5+4) x.val/\xk w' w 2 (xi m.cnt)) X):=λX out a n c ops cs h=>by obtain⟨e0,e1,e2,e3,e4⟩:=HM.1.at i x hx;simp only[Nat.zero_add]at e0 e1 e2 e3 e4;have hb:=h.below;exact⟨h.box.cell (j:=1) rfl,h.box.cell (j:=2) rfl,by rw[hb.cell (p:=(xd gc _)) hgl];exact e0,by rw[hb.cell (p:=(xd gc _)) hgl];exact e1,by rw[hb.cell (p:=(xd gc _)) hgl];exact e2,by rw[hb.cell (p:=(xd gc _)) hgl];exact e3,by rw[hb.cell (p:=(xd gc _)) hgl];exact e4,h.box.cell (j:=2) rfl⟩
 obtain⟨W2,hW2⟩:=qW (xw wo #[false,false,xi 0,xe] 115);have HW2:Hid (RnJ w (.slice ua ul uc) (.slice (some ⟨bI,oI,none⟩) N cI) m.cnt ob nk out a n c ops gk cpk cs W2.drew/\yA W2.drew w 115 4 wo (yBl noH).four):=by
  have k2:=qN hW2
  have b2:yA W2 w 115 4 wo (yBl noH).four:=by rw[hW2];exact yAa wo _ HJ.1.below.size rfl
  exact⟨(HJ.1.on k2).on ((Below.refl _ _).drew),b2.below ((Below.refl _ _).drew)⟩
 have hS0:=HSS.out _ _ _ _ _ _ _ HW2.1;clear hx;go_upto_region 10 with fail;rw[<-hW2];clear hW2;refine yAf 99 (λw':World=>xk w' w 1 (.slice (some ⟨bI,oI,none⟩) N cI)/\xk w' w 2 (xi m.cnt)/\xk w' gc (i*5) x.row/\xk w' gc (i*5+1) x.fam/\xk w' gc (i*5+2) x.qual/\xk w' gc (i*5+3) (xu x.ts)/\xk w' gc (i*5+4) x.val/\xk w' w 2 (xi m.cnt)) (by kernel_rfl) ?_;generalize W2.drew=WD at HW2 hS0|-;refine ja 0 hS0 ?_;iterate 6 refine jb hS0 ?_
 obtain⟨W3,hW3⟩:=qW (xw WD #[] 4);have HW3:Hid (RnJ w (.slice ua ul uc) (.slice (some ⟨bI,oI,none⟩) N cI) m.cnt ob nk out a n c ops gk cpk cs W3/\yA W3 w 115 4 wo (yBl noH).four):=by
  have k3:=qN hW3
  exact⟨HW2.1.on k3,HW2.2.below k3⟩
 have hS3:=HSS.out _ _ _ _ _ _ _ HW3.1;have HLk:Hid (Calls prog 58 #[.agg #[.slice (some ⟨bI,oI,none⟩) N cI,xi m.cnt],.agg #[x.row,x.fam,x.qual,xu x.ts,x.val],xg gk nk cpk,xg WD 0 0] W3 λe w'=>∃(i:It)(cs':List Ctr),e=.returned (.tuple #[i.v,xg gk nk cpk])/\Hid (LkR pfxB m.l x [] ⟨0,[newI],cs⟩ (i,cs')/\cs'.length=nk/\yF0 w' w gk cpk cs'/\(∀k∈cs',0<=k.count/\k.count<=1000)/\Chg (λk=>k=gk) W3 w')):=by have h9:RwO ⟨w,m.l,N,bI,oI,cI,m.cnt,0,[],some ⟨WD,0,none⟩,0,nk⟩:=HQ.out _;exact h9.look qr HW3.1.below HW3.1.ctr HW3.1.len HW3.1.cb x 0
 refine qO 7 rfl λK hK=>?_;go_simp;rw[<-hW3];refine hK.out _ _ (.inr hS3) ?_;clear hK hW3 hS0;refine jS ?_;refine qO 8 rfl λK hK=>?_;go_simp;refine HLk.mono ?_;rintro e w3 ⟨it,cs',rfl,H3⟩;have HW3b:Hid (RnJ w (.slice ua ul uc) (.slice (some ⟨bI,oI,none⟩) N cI) m.cnt ob nk out a n c ops gk cpk cs' w3/\yA w3 w 115 4 wo (yBl noH).four):=by
  obtain⟨k1,k2,k3,k4,k5⟩:=H3.out;have hgi:¬wo.heap.size=gk:=qw HJ.1.ctr.lt
  exact⟨HW3.1.ctrs k3 k2 k4 k5,HW3.2.chg k5 hgi⟩
 have HL:Hid (LkR pfxB m.l x [] ⟨0,[newI],cs⟩ (it,cs')):=H3.1;have hS4:=HSS.out _ _ _ _ _ _ _ HW3b.1;clear H3 HW2 HW3 hS3 HLk;refine hK.out _ _ (.inr hS4) ?_;clear hK;refine jS ?_;iterate 3 refine jb hS4 ?_
 obtain⟨W4,hW4⟩:=qW (setCs w3 wo 0 it.four);have HW4:Hid (RnJ w (.slice ua ul uc) (.slice (some ⟨bI,oI,none⟩) N cI) m.cnt ob nk out a n c ops gk cpk cs' W4/\yA W4 w 115 4 wo it.four):=by obtain⟨q1,q2⟩:=yEo HW3b.2 hW4;have l2:=HJ.1.ctr.lt;have l4:=HJ.1.obx.lt;have l5:=HJ.1.res.lt;exact⟨HW3b.1.side ⟨by omega,by omega,by omega,λq=>qw ((HJ.1.row.blk q).2)⟩ q2,q1⟩
 have hS5:=HSS.out _ _ _ _ _ _ _ HW4.1;obtain⟨v0,v1,v2,v3⟩:=HW3b.2.c4;obtain⟨f0,f1,f2,f3⟩:=HW3b.2.f4;simp only[setCs,Nat.zero_add,Nat.reduceAdd]at hW4;refine qO 12 rfl λK hK=>?_;go_simp;rw[<-hW4];refine hK.out _ _ (.inr hS5) ?_;clear hK hW4 hS4 v0 v1 v2 v3 f0 f1 f2 f3;refine jS ?_;refine kO 13 hS5 ?_;refine qD ?_;obtain⟨jn,hjn⟩:=qE (if it.alive=false/\hints=true then i+1+((es.drop (i+1)).takeWhile (yAz it.hint x)).length else i+1);have HN:Hid (∀o k,MvR m.l hints (es.drop jn) cs' o k->MvR m.l hints es (List.replicate nk newC) ((if it.alive=true then out++ [yB it x]else out)++o) (ops+1+k)):=MvR.step HJ.2 HXi.out HL.out hjn;rw[hjn]at HN;have p0:=HW4.2.cell (j:=0) rfl;have zi:IntKind.i64.wrap ((i:Int)+1)=(i:Int)+1:=by rw[IntKind.wrap_i64];omega
 clear hjn hS5;cases hal:it.alive
 .rw[hal]at p0;cases hints
  .exact zSpD
  .exact zSpH
 .rw[hal]at p0;exact zSpA):p:=h
theorem zSpZ (h:p:=by
 obtain⟨v0,v1,v2⟩:=HX.1.c3;obtain⟨f0,f1,f2⟩:=HX.1.f3;obtain⟨W9,hW9⟩:=qE (setCs wo (w+1) 0 [true,.slice a n c,xi ops]:World);have b9:yA W9 w 39 3 (w+1) [true,.slice a n c,xi ops]:=by rw[hW9];exact HX.1.setCs _
 have HE:Hid (∃out,n=out.length/\RunM bs m es hints true out ops/\RowC W9 w (.slice a n c) out/\Below w w W9):=HX.2 W9 (by rw[hW9];exact yAl (S:=λq=>q=w.heap.size+1) _ rfl _ _ _);obtain⟨q0,q1,q2⟩:=b9.c3;simp only[setCs,Nat.zero_add,Nat.reduceAdd]at hW9;clear b9;go_wp2_with fail;rw[<-hW9];exact bodyPost_ret (v:=.agg #[true,.slice a n c,xi ops]) (by simp[results,results18,go_sem,q0,q1,q2]) rfl ⟨true,a,n,c,ops,rfl,HE⟩):p:=h
theorem yPe{w:World}{ua:Option Addr}{ul uc:Nat}{bs:List Bk}{m:Bk}(hU:yCg w (.slice ua ul uc) bs)(hok:∀x∈bs,x.ok)(hm:yAy w m.v m.l)(hmo:m.ok){bc cc:Nat}{es:List Ent}(hC:OwnC w bc gc cc es)(hoe:∀e∈es,e.ok)(hk:∀e∈es,e.kind=0)(hl:es.length<=1048576)(hints:Bool){M:Nat}(hM:M=es.length):
  Calls prog 18 #[.agg #[.slice ua ul uc,m.v,xi m.cnt],xg gc M cc,hints] w (RunP bs m es hints w):=by
 obtain⟨va,vn,vc,a2,an⟩:=hm.one;clear an;have a4:ul=bs.length:=by
  rcases hU with⟨_,_,q,rfl⟩|⟨_,_,_,q,_⟩
  .cases q;rfl
  .cases q;rfl
 have HM:Hid (OwnC w bc gc cc es/\M=es.length/\(∀e∈es,e.ok)/\(∀e∈es,e.kind=0)/\yCg w (.slice ua ul uc) bs/\yAy w m.v m.l/\ul=bs.length):=⟨hC,hM,hoe,hk,hU,hm,a4⟩;obtain⟨W0,a6⟩:=qW (xw (w.alloc (Obj.cells #[.slice ua ul uc,.slice va vn vc,xi m.cnt] 34)) #[false,xh,xi 0] 39);have H0:Hid (yA W0 w 34 3 w [.slice ua ul uc,.slice va vn vc,xi m.cnt]/\yA W0 w 39 3 (w+1) [false,xh,xi 0]/\Below w w W0):=by
  obtain⟨X,hX⟩:=qW (xw w #[.slice ua ul uc,.slice va vn vc,xi m.cnt] 34);rw[<-hX]at a6;have zx:=qS hX
  have k1:=qN hX
  have k2:=qN a6
  have b1:yA X w 34 3 w [.slice ua ul uc,.slice va vn vc,xi m.cnt]:=by rw[hX];exact yAa w _ qr rfl
  have b2:yA W0 w 39 3 (w+1) [false,xh,xi 0]:=by rw[a6,<-zx];exact yAa X _ (by omega) rfl
  exact⟨b1.below k2,b2,k1.trans (k2.mono (by omega))⟩
 have HF:Hid (Calls prog 13 #[.agg #[.slice ua ul uc,.slice va vn vc,xi m.cnt]] W0 (yH3 (yCn bs m) W0)):=by rw[<-a2];exact yI7 _ bs m W0 (hU.below H0.2.2) hok (hm.below H0.2.2 qr) hmo
 have HV:Hid (∀wx,Below w w wx->Calls prog 9 #[xg gc M cc] wx (yH0 (yC es) wx)):=λwx hx=>by have h9:=yLd gc cc es bc wx (hC.below hx hC.lt.2) hoe hl;rw[yNr hk]at h9;rw[hM];exact h9
 have hgl:=hC.lt.2;rw[a2];have az:Hid (m.v=.slice va vn vc):=a2;clear hU hok hm hmo hC hoe hk a2 hM hl a4;obtain⟨c0,c1,c2⟩:=H0.1.c3;go_enter func18,ntmps18;go_upto_region 1 with fail;rw[<-a6];clear a6;go_wp2_with fail;refine HF.mono ?_;rintro e w1 ⟨r,rfl,hr,aa⟩;have a1:Hid ((r=true↔yCn bs m)/\yA w1 w 34 3 w [.slice ua ul uc,.slice va vn vc,xi m.cnt]/\yA w1 w 39 3 (w+1) [false,xh,xi 0]/\Below w w w1):=⟨hr,H0.1.below aa,H0.2.1.below aa,H0.2.2.trans (aa.mono H0.2.2.size)⟩;clear hr aa HF c0 c1 c2 H0;cases r
 case false=>
  obtain⟨wx,hwx⟩:=qW w1;have HX:Hid (yA wx w 39 3 (w+1) [false,xh,xi 0]/\¬(yCn bs m/\yC es)/\Below w w wx):=by rw[hwx];exact⟨a1.2.2.1,λq=>Bool.noConfusion (a1.1.2 q.1),a1.2.2.2⟩
  rw[<-hwx];clear hwx a1;as_aux_lemma=>exact zSpF
 case true=>
 have ak:Hid (Calls prog 9 #[xg gc M cc] w1 (yH0 (yC es) w1)):=HV.out w1 a1.2.2.2;go_wp2_with fail;refine ak.mono ?_;rintro e w2 ⟨r2,rfl,af,hb2⟩;have a0:Hid ((r2=true↔yC es)/\yCn bs m/\yA w2 w 34 3 w [.slice ua ul uc,.slice va vn vc,xi m.cnt]/\yA w2 w 39 3 (w+1) [false,xh,xi 0]/\Below w w w2):=⟨af,(by have h9:=a1.1;simpa using h9),a1.2.1.below hb2,a1.2.2.1.below hb2,a1.2.2.2.trans (hb2.mono a1.2.2.2.size)⟩;clear af hb2 ak HV a1;cases r2
 case false=>
  obtain⟨wx,hwx⟩:=qW w2;have HX:Hid (yA wx w 39 3 (w+1) [false,xh,xi 0]/\¬(yCn bs m/\yC es)/\Below w w wx):=by rw[hwx];exact⟨a0.2.2.2.1,λq=>Bool.noConfusion (a0.1.2 q.2),a0.2.2.2.2⟩
  rw[<-hwx];clear hwx a0;as_aux_lemma=>exact zSpF
 case true=>
 have a3:yCn bs m:=a0.2.1;have a5:yC es:=by have h9:=a0.1;simpa using h9
 obtain⟨bI,oI,N,cI,a2,hN,hI,a9,a8⟩:∃bI oI N cI,m.v=.slice (some ⟨bI,oI,none⟩) N cI/\N=m.l.length/\yB5 w bI oI m.l/\bI<w.heap.size/\N<=cI/\cI<=maxLen:=by
  rcases HM.2.2.2.2.2.1 with⟨_,_,_,q⟩|⟨b,off,cap,q1,q2,q3,q4,q5⟩
  .have:=a3.2.1.1;rw[q]at this;simp at this
  .exact⟨b,off,_,cap,q1,rfl,q2,q3,q4,q5⟩
 obtain⟨rfl,rfl,rfl⟩:va=some ⟨bI,oI,none⟩/\vn=N/\vc=cI:=by have h9:=az.out;rw[a2]at h9;simp only[Value.slice.injEq]at h9;exact⟨h9.1.symm,h9.2.1.symm,h9.2.2.symm⟩
 have HQ:Hid (∀ca:Option Addr,bs= []->RwO ⟨w,m.l,vn,bI,oI,vc,m.cnt,0,[],ca,0,m.cnt.toNat⟩):=λca hb=>by have hg:=a3.2.1;rw[hb]at hg;exact {good:=hg,nc:=Nat.le_refl _,nC:=rfl,N:=hN,nk:=by show((m.cnt.toNat:Nat):Int)=m.cnt;have:=hg.2.2.1;omega,ins:=hI,bIl:=a9,cI:=a8,cnd:=λi b hi=>by simp at hi}
 have aw:M<=10000:=qv a5.1.1 HM.2.1
 obtain⟨c0,c1,c2⟩:=a0.2.2.1.c3;by_cases hbe:bs= []
 .have aq:¬(0:Int)<(ul:Int):=by rw[HM.2.2.2.2.2.2,hbe];simp
  obtain⟨nk,ad⟩:=qE m.cnt.toNat;have al:Hid (∀ca:Option Addr,RwO ⟨w,m.l,vn,bI,oI,vc,m.cnt,0,[],ca,0,nk⟩):=λca=>by rw[ad];exact HQ.out ca hbe
  have a7:Hid (∀out n,MvR m.l hints es (List.replicate nk newC) out n->RunM bs m es hints true out n):=λout n h=>.inr ⟨⟨a3,a5⟩,rfl,.inr ⟨hbe,by rw[<-ad];exact h⟩⟩;have ar:nk<=1000:=qw a3.2.1.2.2.2.1
  have ay:Hid (m.cnt=(nk:Int)):=by have:=a3.2.1.2.2.1;show _=_;omega
  obtain⟨W5,ab⟩:=qW (xw w2 #[true,xh,xi 0] 39);have H5:Hid (yA W5 w 34 3 w [.slice ua ul uc,.slice (some ⟨bI,oI,none⟩) vn vc,xi m.cnt]/\yA W5 w 39 3 (w+1) [false,xh,xi 0]/\yA W5 w 39 3 w2 [true,xh,xi 0]/\Below w w W5):=by
   obtain⟨_,_,h1,h2,h3⟩:=a0.out;have k5:=qN ab
   exact⟨h1.below k5,h2.below k5,by rw[ab];exact yAa w2 _ h3.size rfl,h3.trans (k5.mono h3.size)⟩
  have ah:w.heap.size+1<w2.heap.size:=a0.2.2.2.1.lt.2;clear a3 a5 HQ hI a9 a8 hN a2 ad hbe;go_upto_region 6 with fail;rw[<-ab];clear ab c0 c1 c2;have c2:=H5.1.cell (j:=2) rfl;go_wp2_with fail;rw[ay.out];refine(yMm nk W5 ar).mono ?_;rintro e w6 ⟨gk,cpk,rfl,ai,hb6⟩;obtain⟨ob,ac⟩:=qE w2;have H6:Hid (RnJ w (.slice ua ul uc) (.slice (some ⟨bI,oI,none⟩) vn vc) m.cnt ob nk [] none 0 0 0 gk cpk (List.replicate nk newC) w6):=by obtain⟨h1,h2,h3,h4⟩:=H5.out;rw[ac];exact⟨h1.below hb6,h2.below hb6,h3.below hb6,yGq _ _,rfl,ai.mono h4.size,by simp,λk hk=>by rw[eq_of_mem_replicate hk];exact⟨Int.le_refl _,by decide⟩,ah,h4.trans (hb6.mono h4.size)⟩
  rw[<-ac];clear ai hb6 c2 H5 a0 ah ac;go_wp2;go_loopw[8,9] (λcv iv wr=>∃(i ops gk cpk:Nat)(out:List Ent)(a:Option Addr)(n c:Nat)(cs:List Ctr),i<=M/\ops<=i/\n<=ops/\cv=(xg gk nk cpk)/\iv=(xi i)/\Hid (RnJ w (.slice ua ul uc) (.slice (some ⟨bI,oI,none⟩) vn vc) m.cnt ob nk out a n c ops gk cpk cs wr/\∀o k,MvR m.l hints (es.drop i) cs o k->MvR m.l hints es (List.replicate nk newC) (out++o) (ops+k))) (λ_ iv _=>M-(intOf iv).toNat);case atStart=>exact⟨0,0,gk,cpk,[],none,0,0,List.replicate nk newC,zero_le _,Nat.le_refl _,Nat.le_refl _,rfl,rfl,H6.out,λo k h=>by simpa using h⟩
  case round=>
   clear H6;obtain⟨i,ops,gk,cpk,out,a,n,c,cs,hi,aB,aC,rfl,rfl,HJ⟩:=hrel;obtain⟨wo,am⟩:=qW wr;subst am;obtain⟨N,av⟩:=qE vn;subst av;obtain⟨cI,au⟩:=qE vc;subst au;have HQ:=al;by_cases hlt:i<M
   .have z:(i:Int)<(M:Int):=by omega
    have aD:n<=10000:=by omega
    as_aux_lemma=>exact zSpL
   .have z:¬(i:Int)<(M:Int):=by omega
    have HX:Hid (yA wo w 39 3 (w+1) [false,xh,xi 0]/\(∀X:World,Chg (λq=>q=w.heap.size+1) wo X->∃out,n=out.length/\RunM bs m es hints true out ops/\RowC X w (.slice a n c) out/\Below w w X)):=by have hj:=HJ.1;refine⟨hj.res,λX hX=>⟨out,hj.nl,a7.out _ _ (MvR.done HJ.2 (qw HM.2.1)),hj.row.chg hX (λq hq z=>yAb hj.row hj.res (by decide) _ hq (by rw[z];rfl)),Chg.below hj.below hX hj.below.size (λq z=>by omega)⟩⟩
    obtain⟨t0,t1,t2⟩:=HJ.1.obx.c3;clear HJ a7 HQ al;as_aux_lemma=>exact zSpZ
 .have aq:(0:Int)<(ul:Int):=qv HM.2.2.2.2.2.2 (List.length_pos_iff.2 hbe)
  obtain⟨ub,uo,ao,aj,a4⟩:∃ub uo,ua=some ⟨ub,uo,none⟩/\yK0 w ub uo bs/\ub<w.heap.size:=by
   rcases HM.2.2.2.2.1 with⟨_,_,_,q⟩|⟨b,off,cap,q1,q2,q3,q4,q5⟩
   .exact absurd q hbe
   .simp only[Value.slice.injEq]at q1;exact⟨b,off,q1.1,q2,q3⟩
  subst ao;have hb2:=a0.2.2.2.2;have aA:Hid (Calls prog 56 #[.agg #[.slice (some ⟨ub,uo,none⟩) ul uc,.slice (some ⟨bI,oI,none⟩) vn vc,xi m.cnt],xg gc M cc] w2 λe w'=>∃a n c,e=.returned (.agg #[true,.slice a n c,xi M])/\Hid (∃out,n=out.length/\RwsR m.vw (bs.map Bk.vw) ((allC es 0).map (segE es)) out/\RowC w' w2 (.slice a n c) out/\Below w2 w2 w')):=by
   refine yOb ⟨w2,bs,m,ul,ub,uo,uc,vn,bI,oI,vc,gc,0,cc,es,M,allC es 0⟩ ⟨a3,?_,?_,HM.2.2.2.2.2.2,a2,hN,?_,?_,a8,?_,HM.2.1,aw,rfl,λp hp=>yQ1 es _ 0 p hp⟩
   .intro k x hx;obtain⟨h1,h2,h3⟩:=aj k x hx;exact⟨by rw[hb2.cell (p:=(xd ub _)) a4];exact h1,by rw[hb2.cell (p:=(xd ub _)) a4];exact h2,h3.below hb2 qr⟩
   .have:=hb2.size;show ub<w2.heap.size;omega
   .exact hI.below hb2 a9
   .have:=hb2.size;show bI<w2.heap.size;omega
   .exact(HM.1.below hb2 hgl).sl
  have a7:Hid (∀out,RwsR m.vw (bs.map Bk.vw) ((allC es 0).map (segE es)) out->RunM bs m es hints true out M):=λout h=>.inr ⟨⟨a3,a5⟩,rfl,.inl ⟨hbe,h,HM.2.1⟩⟩;clear a3 a5 HQ hI a9 a8 hN a2 aj a4 hb2 hbe;go_wp2_with fail;refine aA.mono ?_;rintro e wo ⟨a,n,c,rfl,H3⟩;have HX:Hid (yA wo w 39 3 (w+1) [false,xh,xi 0]/\(∀X:World,Chg (λq=>q=w.heap.size+1) wo X->∃out,n=out.length/\RunM bs m es hints true out M/\RowC X w (.slice a n c) out/\Below w w X)):=by
   obtain⟨out,h1,h2,h3,h4⟩:=H3.out;obtain⟨_,_,_,k2,k3⟩:=a0.out;have hr:=k2.below h4;have hb:Below w w wo:=k3.trans (h4.mono k3.size);have ae:RowC wo w (.slice a n c) out:=by
    rcases h3.cases with⟨q1,q2⟩|⟨g,cp,q1,q2⟩
    .rw[q1,q2];exact yGq _ _
    .rw[q1];exact q2.mono k3.size
   exact⟨hr,λX hX=>⟨out,h1,a7.out _ h2,ae.chg hX (λq hq z=>yAb ae hr (by decide) _ hq (by rw[z];rfl)),Chg.below hb hX hb.size (λq z=>by omega)⟩⟩
  obtain⟨ops,ag⟩:=qE M;rw[<-ag]at HX|-;clear H3 a7 a0 ag c0 c1 c2;as_aux_lemma=>exact zSpZ
end
end Go.Proofs.YtnnagkfoiganfaaGreatDoor
