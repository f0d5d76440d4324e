import Derived.Test.YtnnagkfoiganfaaGreatDoorRkAF
namespace Go.Proofs.YtnnagkfoiganfaaGreatDoor
open Go.ChangeShapes Go.WideShapes Go.ChangeAt Go.RowKit Go.Deep XD XI XU XG XP XK XW XT XF XE XH _root_.List _root_.Nat Go.Shelf Go.Maps Go.Proofs.Tryz
set_option linter.unusedVariables false
set_option linter.unusedSimpArgs false
set_option maxRecDepth 100000
set_option maxHeartbeats 40000000
section
def RunM (bs:List Bk) (m:Bk) (es:List Ent) (hints:Bool) (ok:Bool) (out:List Ent) (n:Nat):Prop:=
 (¬(yCn bs m/\yC es)/\ok=false/\out= []/\n=0)∨((yCn bs m/\yC es)/\ok=true/\((¬bs= []/\RwsR m.vw (bs.map Bk.vw) ((allC es 0).map (segE es)) out/\n=es.length)∨(bs= []/\MvR m.l hints es (List.replicate m.cnt.toNat newC) out n)))
variable {bs:List Bk} {es:List Ent} {n n':Nat}
theorem RunM.one {m:Bk} {hints ok ok':Bool} {out out':List Ent} (h:RunM bs m es hints ok out n) (k:RunM bs m es hints ok' out' n'):ok=ok'/\out=out'/\n=n':=by
 rcases h with⟨h1,rfl,rfl,rfl⟩|⟨h1,rfl,h2⟩
 .rcases k with⟨_,rfl,rfl,rfl⟩|⟨k1,_⟩
  .exact⟨rfl,rfl,rfl⟩
  .exact absurd k1 h1
 .rcases k with⟨k1,_⟩|⟨_,rfl,k2⟩
  .exact absurd h1 k1
  .rcases h2 with⟨a1,a2,rfl⟩|⟨a1,a2⟩
   .rcases k2 with⟨_,b2,rfl⟩|⟨b1,_⟩
    .exact⟨rfl,a2.one b2,rfl⟩
    .exact absurd b1 a1
   .rcases k2 with⟨b1,_⟩|⟨_,b2⟩
    .exact absurd a1 b1
    .exact⟨rfl,(a2.one b2).1,(a2.one b2).2⟩
def RunP (bs:List Bk) (m:Bk) (es:List Ent) (hints:Bool) (w:World) (e:Ending) (w':World):Prop:=
 ∃(ok:Bool) (a:Option Addr) (n c ops:Nat),e=.returned (.agg #[ok,.slice a n c,xi ops])/\Hid (∃out,n=out.length/\RunM bs m es hints ok out ops/\RowC w' w (.slice a n c) out/\Below w w w')
structure RnJ (w:World) (u mv:Value) (cnt:Int) (ob nk:Nat) (out:List Ent) (a:Option Addr) (n c ops:Nat) (gk cpk:Nat) (cs:List Ctr) (wr:World):Prop where
 box:yA wr w 34 3 w [u,mv,xi cnt]
 res:yA wr w 39 3 (w+1) [false,xh,xi 0]
 obx:yA wr w 39 3 ob [true,.slice a n c,xi ops]
 row:RowC wr w (.slice a n c) out
 nl:n=out.length
 ctr:yF0 wr w gk cpk cs
 len:cs.length=nk
 cb:∀k∈cs,0<=k.count/\k.count<=1000
 ne:w.heap.size+1<ob
 below:Below w w wr
section
variable {w:World} {u mv:Value} {cnt:Int} {ob nk:Nat} {out:List Ent} {a:Option Addr} {n c ops gk cpk:Nat} {cs:List Ctr} {wr W:World}
theorem RnJ.on (h:RnJ w u mv cnt ob nk out a n c ops gk cpk cs wr) (hb:Below wr wr W):RnJ w u mv cnt ob nk out a n c ops gk cpk cs W:=
 {h with box:=h.box.below hb,res:=h.res.below hb,obx:=h.obx.below hb,row:=h.row.below hb,ctr:=h.ctr.below hb,below:=h.below.trans (hb.mono h.below.size)}
theorem RnJ.ctrs {cs':List Ctr} (h:RnJ w u mv cnt ob nk out a n c ops gk cpk cs wr) (hO:yF0 W w gk cpk cs') (hl:cs'.length=nk) (hcb:∀k∈cs',0<=k.count/\k.count<=1000) (hc:Chg (λk=>k=gk) wr W):RnJ w u mv cnt ob nk out a n c ops gk cpk cs' W:=
 {h with
  box:=h.box.chg hc (λq=>yAb h.box h.ctr (by decide) _ rfl (by rw[q];rfl))
  res:=h.res.chg hc (λq=>yAb h.res h.ctr (by decide) _ rfl (by rw[q];rfl))
  obx:=h.obx.chg hc (λq=>yAb h.obx h.ctr (by decide) _ rfl (by rw[q];rfl))
  row:=h.row.chg hc (λk hk q=>yAb h.row h.ctr (by decide) _ hk (by rw[q];rfl))
  ctr:=hO
  len:=hl
  cb:=hcb
  below:=Chg.below h.below hc h.below.size (λk q=>qw h.ctr.lt)}
variable {B:Nat}
theorem RnJ.side (h:RnJ w u mv cnt ob nk out a n c ops gk cpk cs wr) (hB:w.heap.size+1<B/\¬B=ob/\¬B=gk/\¬(Value.slice a n c).ownBlock=some B) (hc:Chg (λk=>k=B) wr W):RnJ w u mv cnt ob nk out a n c ops gk cpk cs W:=
 {h with
  box:=h.box.chg hc (by omega)
  res:=h.res.chg hc (by omega)
  obx:=h.obx.chg hc (λq=>hB.2.1 q.symm)
  row:=h.row.chg hc (λk hk q=>hB.2.2.2 (by rw[<-q];exact hk))
  ctr:=h.ctr.chg hc (λq=>hB.2.2.1 q.symm)
  below:=Chg.below h.below hc h.below.size (λk q=>by omega)}
variable {a':Option Addr} {c':Nat}
theorem RnJ.put {out':List Ent} {ops':Nat} {W1:World} (h:RnJ w u mv cnt ob nk out a n c ops gk cpk cs wr) (hc1:Chg (λk=>(Value.slice a n c).ownBlock=some k) wr W1) (hr:RowC W1 w (.slice a' n' c') out') (hn:n'=out'.length) (hc:Chg (λk=>k=ob) W1 W) (hb:yA W w 39 3 ob [true,.slice a' n' c',xi ops']):RnJ w u mv cnt ob nk out' a' n' c' ops' gk cpk cs W:=by
 have o1:=h.obx.chg hc1 (λq=>yAb h.row h.obx (by decide) _ q rfl);have a0:=h.ne;have k1:yF0 W1 w gk cpk cs:=yAh h.ctr hc1 (λq hq z=>yAb h.row h.ctr qj _ z hq);have b1:Below w w W1:=Chg.below h.below hc1 h.below.size (λq z=>(h.row.blk z).1)
 exact {h with
  box:=(h.box.chg hc1 (λq=>yAb h.row h.box (by decide) _ q rfl)).chg hc (by omega)
  res:=(h.res.chg hc1 (λq=>yAb h.row h.res (by decide) _ q rfl)).chg hc (by omega)
  obx:=hb
  row:=hr.chg hc (λq hq z=>yAb hr o1 (by decide) _ hq (by rw[z];rfl))
  nl:=hn
  ctr:=yAh k1 hc (λq hq z=>yAb k1 o1 (by decide) _ hq (by rw[z];rfl))
  below:=Chg.below b1 hc b1.size (λq z=>by omega)}
end
variable {p:Prop}
theorem zSpF (h:p:=by
 obtain⟨v0,v1,v2⟩:=HX.1.c3;obtain⟨f0,f1,f2⟩:=HX.1.f3;obtain⟨W9,hW9⟩:=qE (setCs wx (w+1) 0 [false,xh,xi 0]:World);have b9:yA W9 w 39 3 (w+1) [false,xh,xi 0]:=by rw[hW9];exact HX.1.setCs _
 have c9:Chg (λq=>q=w.heap.size+1) wx W9:=by rw[hW9];exact yAl (S:=λq=>q=w.heap.size+1) _ rfl _ _ _
 have HE:Hid (∃out,0=out.length/\RunM bs m es hints false out 0/\RowC W9 w xh out/\Below w w W9):=⟨[],rfl,.inl ⟨HX.2.1,rfl,rfl,rfl⟩,yGq _ _,Chg.below HX.2.2 c9 HX.2.2.size (λq z=>by omega)⟩;obtain⟨q0,q1,q2⟩:=b9.c3;simp only[setCs,Nat.zero_add,Nat.reduceAdd]at hW9;clear b9 c9;go_wp2_with fail;rw[<-hW9];exact bodyPost_ret (v:=.agg #[false,xh,xi (0:Nat)]) (by simp[results,results18,go_sem,q0,q1,q2]) rfl ⟨false,none,0,0,0,rfl,HE⟩):p:=h
theorem zSpN (h:p:=by
 have t2:=HX.obx.cell (j:=2) rfl;have f2:=HX.obx.frozen 2;obtain⟨W9,hW9⟩:=qE (xt wx ob 2 (xi (ops+1:Nat)):World);have H9:Hid (RnJ w (.slice ua ul uc) (.slice (some ⟨bI,oI,none⟩) N cI) m.cnt ob nk ox ax nx cx (ops+1) gk cpk cs' W9):=by refine HX.put (W1:=wx) (Chg.refl _ _) HX.row HX.nl (by rw[hW9];exact Chg.of_set _ _ _ _ rfl) ?_;rw[hW9];exact HX.obx.set 2 _
 have zo:IntKind.i64.wrap ((ops:Int)+1)=(ops:Int)+1:=by rw[IntKind.wrap_i64];omega
 simp only[Int.natCast_add,Int.cast_ofNat_Int]at hW9;go_wp2_with fail;rw[<-hW9];go_roundw;case rel=>exact⟨jx,ops+1,gk,cpk,ox,ax,nx,cx,cs',by omega,by omega,hnb,rfl,rfl,H9.out,HN.out⟩
 case measure=>simp[intOf];omega):p:=h
theorem zSpA (h:p:=by
 have HST:Hid (∀X:World,RnJ w (.slice ua ul uc) (.slice (some ⟨bI,oI,none⟩) N cI) m.cnt ob nk out a n c ops gk cpk cs' X->yA X w 115 4 wo it.four->(λw':World=>xk w' ob 1 (.slice a n c)/\xk w' wo 0 true/\xk w' wo 1 it.strip/\xk w' wo 2 (xi it.hint.rank)/\xk w' wo 3 it.hint.txt/\xk w' gc (i*5) x.row/\xk w' gc (i*5+1) x.fam/\xk w' gc (i*5+2) x.qual/\xk w' gc (i*5+3) (xu x.ts)/\xk w' gc (i*5+4) x.val) X):=λX h k=>by obtain⟨_,_,e0,e1,e2,e3,e4,_⟩:=HSS.out X _ _ _ _ _ _ h;have h0:=k.cell (j:=0) rfl;rw[hal]at h0;exact⟨h.obx.cell (j:=1) rfl,h0,k.cell (j:=1) rfl,k.cell (j:=2) rfl,k.cell (j:=3) rfl,e0,e1,e2,e3,e4⟩
 obtain⟨x',hx'⟩:=qE (yB it x);have HTd:Hid (∀X:World,(xf 59 #[.agg #[true,it.strip,xi it.hint.rank,it.hint.txt],.agg #[x.row,x.fam,x.qual,xu x.ts,x.val]] X x'.c:Prop)):=λX=>by have h9:=yO4 it x X;rw[hal,<-hx']at h9;exact h9
 simp only[hal,if_true,Bool.true_eq_false,false_and,if_false]at HN;rw[<-hx']at HN;have HW5:Hid (RnJ w (.slice ua ul uc) (.slice (some ⟨bI,oI,none⟩) N cI) m.cnt ob nk out a n c ops gk cpk cs' W4.drew/\yA W4.drew w 115 4 wo it.four):=⟨HW4.1.on ((Below.refl _ _).drew),HW4.2.below ((Below.refl _ _).drew)⟩;have hS5:=HST.out _ HW5.1 HW5.2;clear hx';go_upto_region 13 with fail;refine yCq [11] (λw':World=>xk w' ob 1 (.slice a n c)/\xk w' wo 0 true/\xk w' wo 1 it.strip/\xk w' wo 2 (xi it.hint.rank)/\xk w' wo 3 it.hint.txt/\xk w' gc (i*5) x.row/\xk w' gc (i*5+1) x.fam/\xk w' gc (i*5+2) x.qual/\xk w' gc (i*5+3) (xu x.ts)/\xk w' gc (i*5+4) x.val) (by kernel_rfl) ?_;refine txa 0 hS5 ?_;iterate 6 refine txb hS5 ?_
 refine yA3 (i:=7) (by kernel_rfl) rfl (λK hK=>?_);go_simp;refine(HTd.out _).mono ?_;rintro e w6 ⟨rfl,hb6⟩;have HW6:Hid (RnJ w (.slice ua ul uc) (.slice (some ⟨bI,oI,none⟩) N cI) m.cnt ob nk out a n c ops gk cpk cs' w6/\yA w6 w 115 4 wo it.four):=⟨HW5.1.on hb6,HW5.2.below hb6⟩;have hS6:=HST.out _ HW6.1 HW6.2;clear hb6 hS5;refine hK.out _ _ (.inr hS6) ?_;clear hK;refine jS ?_;obtain⟨W7,hW7⟩:=qE (xw w6 #[x'.row,x'.fam,x'.qual,xu x'.ts,x'.val] 70:World);have HW7:Hid (RnJ w (.slice ua ul uc) (.slice (some ⟨bI,oI,none⟩) N cI) m.cnt ob nk out a n c ops gk cpk cs' W7/\yA W7 w 115 4 wo it.four/\yA4 W7 w6 0 [x']):=by
  have k7:=qN hW7
  refine⟨HW6.1.on k7,HW6.2.below k7,?_⟩;intro j e he;have b7:yA W7 w6 70 5 w6 x'.five:=by rw[hW7];exact yAa w6 _ qr rfl
  have hj:j=0:=by have:=qf he;simpa using this
  subst hj;simp at he;subst he;exact⟨b7.cell (j:=0) rfl,b7.cell (j:=1) rfl,b7.cell (j:=2) rfl,b7.cell (j:=3) rfl,b7.cell (j:=4) rfl⟩
 have hS7:=HST.out _ HW7.1 HW7.2.1;refine yA3 (i:=8) (by kernel_rfl) rfl (λK hK=>?_);refine yGn w6 rfl _ rfl x' rfl ?_;rw[<-hW7];refine hK.out _ _ (.inr hS7) ?_;clear hK hW7 hS6;refine jS ?_;refine yA3 (i:=9) (by kernel_rfl) rfl (λK hK=>?_);refine yDz W7 rfl _ _ rfl w a n c w6 0 1 1 out [x'] rfl rfl HW7.1.nl rfl HW7.1.row HW7.2.2 (by have:=HW7.1.nl;simp;omega) HW7.1.below.size (λax cx w8 hR8 hg8 ha8=>?_);have hc8:Chg (λq=>(Value.slice a n c).ownBlock=some q) W7 w8:=Chg.of_grown hg8 (λq hq=>hq);have hib:¬(Value.slice a n c).ownBlock=some wo.heap.size:=λq=>yAb HW7.1.row HW7.2.1 (by decide) _ q rfl;have H8:Hid (yA w8 w 39 3 ob [true,.slice a n c,xi ops]/\RowC w8 w (.slice ax (n+1) cx) (out++ [x'])/\Chg (λq=>(Value.slice a n c).ownBlock=some q) W7 w8):=⟨HW7.1.obx.chg hc8 (λq=>yAb HW7.1.row HW7.1.obx qj _ q rfl),hR8,hc8⟩;have hS8:(λw':World=>xk w' ob 1 (.slice a n c)/\xk w' wo 0 true/\xk w' wo 1 it.strip/\xk w' wo 2 (xi it.hint.rank)/\xk w' wo 3 it.hint.txt/\xk w' gc (i*5) x.row/\xk w' gc (i*5+1) x.fam/\xk w' gc (i*5+2) x.qual/\xk w' gc (i*5+3) (xu x.ts)/\xk w' gc (i*5+4) x.val) w8:=by
  obtain⟨d0,d1,d2,d3,d4,e0,e1,e2,e3,e4⟩:=hS7;have hi:=HW7.2.1.chg hc8 hib;have h0:=hi.cell (j:=0) rfl;rw[hal]at h0;have hgn:¬(Value.slice a n c).ownBlock=some gc:=λq=>qw ((HW7.1.row.blk q).1)
  have hgl7:gc<W7.heap.size:=qw HW7.1.below.size
  exact⟨H8.1.cell (j:=1) rfl,h0,hi.cell (j:=1) rfl,hi.cell (j:=2) rfl,hi.cell (j:=3) rfl,by rw[hc8.cell (p:=(xd gc _)) hgl7 hgn];exact e0,by rw[hc8.cell (p:=(xd gc _)) hgl7 hgn];exact e1,by rw[hc8.cell (p:=(xd gc _)) hgl7 hgn];exact e2,by rw[hc8.cell (p:=(xd gc _)) hgl7 hgn];exact e3,by rw[hc8.cell (p:=(xd gc _)) hgl7 hgn];exact e4⟩
 clear hR8 hg8 ha8 hc8 hib hS7;refine hK.out _ _ (.inr hS8) ?_;clear hK;refine jS ?_;refine txb hS8 ?_;have v1:=H8.1.cell (j:=1) rfl;have f1:=H8.1.frozen 1;obtain⟨wx,hwx⟩:=qW (xt w8 ob 1 (.slice ax (n+1) cx));have HX:Hid (RnJ w (.slice ua ul uc) (.slice (some ⟨bI,oI,none⟩) N cI) m.cnt ob nk (out++ [x']) ax (n+1) cx ops gk cpk cs' wx):=by refine HW7.1.put (W1:=w8) H8.2.2 H8.2.1 (by rw[length_append,<-HW7.1.nl];rfl) (by rw[hwx];exact Chg.of_set _ _ _ _ rfl) ?_;rw[hwx];exact H8.1.set 1 _
 refine yA3 (i:=11) (by kernel_rfl) rfl (λK hK=>?_);go_simp;rw[<-hwx];refine hK.out _ _ (.inl (by decide)) ?_;clear hK hwx hS8 v1 f1;refine jS ?_;refine yD6 (by kernel_rfl) ?_;obtain⟨ox,hox⟩:=qE (out++ [x']);obtain⟨nx,hnx⟩:=qE (n+1);obtain⟨jx,hjx⟩:=qE (i+1);have hji:i<jx:=by omega
 have hjM:jx<=M:=by omega
 rw[<-hox]at HX HN;rw[<-hnx]at HX;rw[<-hjx]at HN;have zj:(jx:Int)=(i:Int)+1:=by omega
 have hnb:nx<=ops+1:=by omega
 clear hox hnx;rw[<-zj];exact zSpN):p:=h
theorem zSpD (h:p:=by
 simp only[hal,Bool.false_eq_true,and_false,if_false]at HN;obtain⟨wx,hwx⟩:=qE (W4:World);obtain⟨ox,hox⟩:=qE out;obtain⟨ax,hax⟩:=qE a;obtain⟨nx,hnx⟩:=qE n;obtain⟨cx,hcx⟩:=qE c;obtain⟨jx,hjx⟩:=qE (i+1);have hji:i<jx:=by omega
 have hjM:jx<=M:=by omega
 have HX:Hid (RnJ w (.slice ua ul uc) (.slice (some ⟨bI,oI,none⟩) N cI) m.cnt ob nk ox ax nx cx ops gk cpk cs' wx):=by rw[hwx,hox,hax,hnx,hcx];exact HW4.1
 rw[<-hox,<-hjx]at HN;rw[<-hwx]at p0⊢;have zj:(jx:Int)=(i:Int)+1:=by omega
 have hnb:nx<=ops+1:=by omega
 clear hwx hox hax hnx hcx;go_upto_region 17 with fail;rw[<-zj];exact zSpN):p:=h
theorem zSpX (h:p:=by
 obtain⟨ox,hox⟩:=qE out;obtain⟨ax,hax⟩:=qE a;obtain⟨nx,hnx⟩:=qE n;obtain⟨cx,hcx⟩:=qE c;obtain⟨jx,hjx⟩:=qE j;have hji:i<jx:=by omega
 have hjM:jx<=M:=by omega
 have HX:Hid (RnJ w (.slice ua ul uc) (.slice (some ⟨bI,oI,none⟩) N cI) m.cnt ob nk ox ax nx cx ops gk cpk cs' wx):=by rw[hox,hax,hnx,hcx];exact HXw.out
 have hj2:i+1+((es.drop (i+1)).takeWhile (yAz it.hint x)).length=jx:=by
  have h9:=yXx (p:=yAz it.hint x) (es.drop (i+1)) (j-(i+1)) (by rw[length_drop];have:=HM.2.1;omega) (λk e hk he=>by
   rw[getElem?_drop]at he
   exact HK.out (i+1+k) e (by omega) (by omega) he) (λe he=>by
   rw[getElem?_drop,show i+1+(j-(i+1))=j by omega]at he
   exact HEn.out e he)
  omega
 have hnb:nx<=ops+1:=by omega
 rw[hj2,<-hox]at HN;rw[<-hjx];clear hj2 hox hax hnx hcx hjx;exact zSpN):p:=h
theorem zSpH (h:p:=by
 simp only[hal,Bool.false_eq_true,if_false,and_self,eq_self,if_true]at HN;go_wp2_with fail;go_loopw[11] (λjv wr=>∃j:Nat,i+1<=j/\j<=M/\jv=(xi j)/\Hid ((∀(k:Nat) (e:Ent),i+1<=k->k<j->es[k]?=some e->yAz it.hint x e=true)/\RnJ w (.slice ua ul uc) (.slice (some ⟨bI,oI,none⟩) N cI) m.cnt ob nk out a n c ops gk cpk cs' wr/\yA wr w 115 4 wo it.four)) (λjv _=>M-(intOf jv).toNat);case atStart=>exact⟨i+1,Nat.le_refl _,by omega,by go_num,λk e h1 h2=>by omega,HW4.1,HW4.2⟩
 case round=>
  clear HW4 p0;obtain⟨j,hij,hjM0,rfl,HI⟩:=hrel;have HK:Hid (∀(k:Nat) (e:Ent),i+1<=k->k<j->es[k]?=some e->yAz it.hint x e=true):=HI.1;have HD:Hid (RnJ w (.slice ua ul uc) (.slice (some ⟨bI,oI,none⟩) N cI) m.cnt ob nk out a n c ops gk cpk cs' wr.drew/\yA wr.drew w 115 4 wo it.four):=⟨HI.2.1.on ((Below.refl _ _).drew),HI.2.2.below ((Below.refl _ _).drew)⟩;by_cases hjl:j<M
  .obtain⟨y,hy⟩:∃y,es[j]?=some y:=qg (qw HM.2.1);have HY:Hid (es[j]?=some y):=hy;have zj:(j:Int)<(M:Int):=by omega
   have hd:decide ((j:Int)<(M:Int))=true:=by simp;omega
   have HST:Hid (∀X:World,RnJ w (.slice ua ul uc) (.slice (some ⟨bI,oI,none⟩) N cI) m.cnt ob nk out a n c ops gk cpk cs' X->yA X w 115 4 wo it.four->(λw':World=>xk w' wo 2 (xi it.hint.rank)/\xk w' wo 3 it.hint.txt/\xk w' gc (i*5) x.row/\xk w' gc (i*5+1) x.fam/\xk w' gc (i*5+2) x.qual/\xk w' gc (i*5+3) (xu x.ts)/\xk w' gc (i*5+4) x.val/\xk w' gc (j*5) y.row/\xk w' gc (j*5+1) y.fam/\xk w' gc (j*5+2) y.qual/\xk w' gc (j*5+3) (xu y.ts)/\xk w' gc (j*5+4) y.val/\xk w' gc (i*5) x.row/\xk w' gc (i*5) x.row/\xk w' gc (i*5+1) x.fam/\xk w' gc (i*5+2) x.qual/\xk w' gc (i*5+3) (xu x.ts)/\xk w' gc (i*5+4) x.val) X):=λX h k=>by obtain⟨_,_,e0,e1,e2,e3,e4,_⟩:=HSS.out X _ _ _ _ _ _ h;obtain⟨d0,d1,d2,d3,d4⟩:=HM.1.at j y hy;simp only[Nat.zero_add]at d0 d1 d2 d3 d4;have hb:=h.below;exact⟨k.cell (j:=2) rfl,k.cell (j:=3) rfl,e0,e1,e2,e3,e4,by rw[hb.cell (p:=(xd gc _)) hgl];exact d0,by rw[hb.cell (p:=(xd gc _)) hgl];exact d1,by rw[hb.cell (p:=(xd gc _)) hgl];exact d2,by rw[hb.cell (p:=(xd gc _)) hgl];exact d3,by rw[hb.cell (p:=(xd gc _)) hgl];exact d4,e0,e0,e1,e2,e3,e4⟩
   have hS0:=HST.out _ HD.1 HD.2;obtain⟨sk,hsk⟩:=qE (yAz it.hint x y);have HSk:Hid (sk=yAz it.hint x y):=hsk;have HCs:Hid (∀X:World,(xf 60 #[.agg #[xi it.hint.rank,it.hint.txt],.agg #[x.row,x.fam,x.qual,xu x.ts,x.val],.agg #[y.row,y.fam,y.qual,xu y.ts,y.val]] X sk:Prop)):=λX=>by rw[hsk];exact yV0 it.hint x y X
   clear hy hsk;go_upto_region 15 with fail;refine yAf 99 (λw':World=>xk w' wo 2 (xi it.hint.rank)/\xk w' wo 3 it.hint.txt/\xk w' gc (i*5) x.row/\xk w' gc (i*5+1) x.fam/\xk w' gc (i*5+2) x.qual/\xk w' gc (i*5+3) (xu x.ts)/\xk w' gc (i*5+4) x.val/\xk w' gc (j*5) y.row/\xk w' gc (j*5+1) y.fam/\xk w' gc (j*5+2) y.qual/\xk w' gc (j*5+3) (xu y.ts)/\xk w' gc (j*5+4) y.val/\xk w' gc (i*5) x.row/\xk w' gc (i*5) x.row/\xk w' gc (i*5+1) x.fam/\xk w' gc (i*5+2) x.qual/\xk w' gc (i*5+3) (xu x.ts)/\xk w' gc (i*5+4) x.val) (by kernel_rfl) ?_;refine ja 0 hS0 ?_;iterate 14 refine jb hS0 ?_
   refine qO 15 rfl λK hK=>?_;go_simp;refine(HCs.out _).mono ?_;rintro e wx ⟨rfl,hb5⟩;have HW5:Hid (RnJ w (.slice ua ul uc) (.slice (some ⟨bI,oI,none⟩) N cI) m.cnt ob nk out a n c ops gk cpk cs' wx/\yA wx w 115 4 wo it.four):=⟨HD.1.on hb5,HD.2.below hb5⟩;have hS5:=HST.out _ HW5.1 HW5.2;clear hb5 hS0;refine hK.out _ _ (.inr hS5) ?_;clear hK;refine jS ?_;refine jb hS5 ?_;refine qD ?_;cases hb:sk
   .have HXw:Hid (RnJ w (.slice ua ul uc) (.slice (some ⟨bI,oI,none⟩) N cI) m.cnt ob nk out a n c ops gk cpk cs' wx):=HW5.1;have HEn:Hid (∀e,es[j]?=some e->yAz it.hint x e=false):=λe he=>by rw[HY.out]at he;cases he;rw[<-HSk.out];exact hb
    clear hS5 HD HI;exact zSpX
   .have HKn:Hid (∀(k:Nat) (e:Ent),i+1<=k->k<j+1->es[k]?=some e->yAz it.hint x e=true):=λk e h1 h2 h3=>by
     by_cases hkj:k=j
     .subst hkj;rw[HY.out]at h3;cases h3;rw[<-HSk.out];exact hb
     .exact HK.out k e h1 (by omega) h3
    clear hS5 HD HI;refine zY ?_;exact⟨j+1,by omega,by omega,by go_num,HKn.out,HW5.out⟩
  .have zj:¬(j:Int)<(M:Int):=by omega
   have hd:decide ((j:Int)<(M:Int))=false:=by simp;omega
   have hS0:=HSS.out _ _ _ _ _ _ _ HD.1;go_upto_region 15 with fail;refine yAf 99 (λw':World=>xk w' w 1 (.slice (some ⟨bI,oI,none⟩) N cI)/\xk w' w 2 (xi m.cnt)/\xk w' gc (i*5) x.row/\xk w' gc (i*5+1) x.fam/\xk w' gc (i*5+2) x.qual/\xk w' gc (i*5+3) (xu x.ts)/\xk w' gc (i*5+4) x.val/\xk w' w 2 (xi m.cnt)) (by kernel_rfl) ?_;generalize wr.drew=wx at HD hS0⊢;refine ja 0 hS0 ?_;iterate 16 refine jb hS0 ?_
   refine qD ?_;have HXw:Hid (RnJ w (.slice ua ul uc) (.slice (some ⟨bI,oI,none⟩) N cI) m.cnt ob nk out a n c ops gk cpk cs' wx):=HD.1;have HEn:Hid (∀e,es[j]?=some e->yAz it.hint x e=false):=λe he=>qv (qf he) HM.2.1
   clear hS0 HD HI;exact zSpX):p:=h
theorem zSpL (h:p:=by
 obtain⟨x,hx⟩:∃x,es[i]?=some x:=qg (qw HM.2.1);have HXi:Hid (es[i]?=some x):=hx;have HSS:Hid (∀(X:World) (out:List Ent) (a:Option Addr) (n c ops:Nat) (cs:List Ctr),RnJ w (.slice ua ul uc) (.slice (some ⟨bI,oI,none⟩) N cI) m.cnt ob nk out a n c ops gk cpk cs X->(λw':World=>xk w' w 1 (.slice (some ⟨bI,oI,none⟩) N cI)/\xk w' w 2 (xi m.cnt)/\xk w' gc (i*5) x.row/\xk w' gc (i*5+1) x.fam/\xk w' gc (i*5+2) x.qual/\xk w' gc (i*5+3) (xu x.ts)/\xk w' gc (i*5+4) x.val/\xk w' w 2 (xi m.cnt)) X):=λX out a n c ops cs h=>by obtain⟨e0,e1,e2,e3,e4⟩:=HM.1.at i x hx;simp only[Nat.zero_add]at e0 e1 e2 e3 e4;have hb:=h.below;exact⟨h.box.cell (j:=1) rfl,h.box.cell (j:=2) rfl,by rw[hb.cell (p:=(xd gc _)) hgl];exact e0,by rw[hb.cell (p:=(xd gc _)) hgl];exact e1,by rw[hb.cell (p:=(xd gc _)) hgl];exact e2,by rw[hb.cell (p:=(xd gc _)) hgl];exact e3,by rw[hb.cell (p:=(xd gc _)) hgl];exact e4,h.box.cell (j:=2) rfl⟩
 obtain⟨W2,hW2⟩:=qW (xw wo #[false,false,xi 0,xe] 115);have HW2:Hid (RnJ w (.slice ua ul uc) (.slice (some ⟨bI,oI,none⟩) N cI) m.cnt ob nk out a n c ops gk cpk cs W2.drew/\yA W2.drew w 115 4 wo (yBl noH).four):=by
  have k2:=qN hW2
  have b2:yA W2 w 115 4 wo (yBl noH).four:=by rw[hW2];exact yAa wo _ HJ.1.below.size rfl
  exact⟨(HJ.1.on k2).on ((Below.refl _ _).drew),b2.below ((Below.refl _ _).drew)⟩
 have hS0:=HSS.out _ _ _ _ _ _ _ HW2.1;clear hx;go_upto_region 10 with fail;rw[<-hW2];clear hW2;refine yAf 99 (λw':World=>xk w' w 1 (.slice (some ⟨bI,oI,none⟩) N cI)/\xk w' w 2 (xi m.cnt)/\xk w' gc (i*5) x.row/\xk w' gc (i*5+1) x.fam/\xk w' gc (i*5+2) x.qual/\xk w' gc (i*5+3) (xu x.ts)/\xk w' gc (i*5+4) x.val/\xk w' w 2 (xi m.cnt)) (by kernel_rfl) ?_;generalize W2.drew=WD at HW2 hS0⊢;refine ja 0 hS0 ?_;iterate 6 refine jb hS0 ?_
 obtain⟨W3,hW3⟩:=qW (xw WD #[] 4);have HW3:Hid (RnJ w (.slice ua ul uc) (.slice (some ⟨bI,oI,none⟩) N cI) m.cnt ob nk out a n c ops gk cpk cs W3/\yA W3 w 115 4 wo (yBl noH).four):=by
  have k3:=qN hW3
  exact⟨HW2.1.on k3,HW2.2.below k3⟩
 have hS3:=HSS.out _ _ _ _ _ _ _ HW3.1;have HLk:Hid (Calls prog 58 #[.agg #[.slice (some ⟨bI,oI,none⟩) N cI,xi m.cnt],.agg #[x.row,x.fam,x.qual,xu x.ts,x.val],xg gk nk cpk,xg WD 0 0] W3 λe w'=>∃(i:It) (cs':List Ctr),e=.returned (.tuple #[i.v,xg gk nk cpk])/\Hid (LkR pfxB m.l x [] ⟨0,[newI],cs⟩ (i,cs')/\cs'.length=nk/\yF0 w' w gk cpk cs'/\(∀k∈cs',0<=k.count/\k.count<=1000)/\Chg (λk=>k=gk) W3 w')):=by have h9:RwO ⟨w,m.l,N,bI,oI,cI,m.cnt,0,[],some ⟨WD,0,none⟩,0,nk⟩:=HQ.out _;exact h9.look qr HW3.1.below HW3.1.ctr HW3.1.len HW3.1.cb x 0
 refine qO 7 rfl λK hK=>?_;go_simp;rw[<-hW3];refine hK.out _ _ (.inr hS3) ?_;clear hK hW3 hS0;refine jS ?_;refine qO 8 rfl λK hK=>?_;go_simp;refine HLk.mono ?_;rintro e w3 ⟨it,cs',rfl,H3⟩;have HW3b:Hid (RnJ w (.slice ua ul uc) (.slice (some ⟨bI,oI,none⟩) N cI) m.cnt ob nk out a n c ops gk cpk cs' w3/\yA w3 w 115 4 wo (yBl noH).four):=by
  obtain⟨k1,k2,k3,k4,k5⟩:=H3.out;have hgi:¬wo.heap.size=gk:=qw HJ.1.ctr.lt
  exact⟨HW3.1.ctrs k3 k2 k4 k5,HW3.2.chg k5 hgi⟩
 have HL:Hid (LkR pfxB m.l x [] ⟨0,[newI],cs⟩ (it,cs')):=H3.1;have hS4:=HSS.out _ _ _ _ _ _ _ HW3b.1;clear H3 HW2 HW3 hS3 HLk;refine hK.out _ _ (.inr hS4) ?_;clear hK;refine jS ?_;iterate 3 refine jb hS4 ?_
 obtain⟨W4,hW4⟩:=qW (setCs w3 wo 0 it.four);have HW4:Hid (RnJ w (.slice ua ul uc) (.slice (some ⟨bI,oI,none⟩) N cI) m.cnt ob nk out a n c ops gk cpk cs' W4/\yA W4 w 115 4 wo it.four):=by obtain⟨q1,q2⟩:=yEo HW3b.2 hW4;have l2:=HJ.1.ctr.lt;have l4:=HJ.1.obx.lt;have l5:=HJ.1.res.lt;exact⟨HW3b.1.side ⟨by omega,by omega,by omega,λq=>qw ((HJ.1.row.blk q).2)⟩ q2,q1⟩
 have hS5:=HSS.out _ _ _ _ _ _ _ HW4.1;obtain⟨v0,v1,v2,v3⟩:=HW3b.2.c4;obtain⟨f0,f1,f2,f3⟩:=HW3b.2.f4;simp only[setCs,Nat.zero_add,Nat.reduceAdd]at hW4;refine qO 12 rfl λK hK=>?_;go_simp;rw[<-hW4];refine hK.out _ _ (.inr hS5) ?_;clear hK hW4 hS4 v0 v1 v2 v3 f0 f1 f2 f3;refine jS ?_;refine kO 13 hS5 ?_;refine qD ?_;obtain⟨jn,hjn⟩:=qE (if it.alive=false/\hints=true then i+1+((es.drop (i+1)).takeWhile (yAz it.hint x)).length else i+1);have HN:Hid (∀o k,MvR m.l hints (es.drop jn) cs' o k->MvR m.l hints es (List.replicate nk newC) ((if it.alive=true then out++ [yB it x]else out)++o) (ops+1+k)):=MvR.step HJ.2 HXi.out HL.out hjn;rw[hjn]at HN;have p0:=HW4.2.cell (j:=0) rfl;have zi:IntKind.i64.wrap ((i:Int)+1)=(i:Int)+1:=by rw[IntKind.wrap_i64];omega
 clear hjn hS5;cases hal:it.alive
 .rw[hal]at p0;cases hints
  .exact zSpD
  .exact zSpH
 .rw[hal]at p0;exact zSpA):p:=h
theorem zSpZ (h:p:=by
 obtain⟨v0,v1,v2⟩:=HX.1.c3;obtain⟨f0,f1,f2⟩:=HX.1.f3;obtain⟨W9,hW9⟩:=qE (setCs wo (w+1) 0 [true,.slice a n c,xi ops]:World);have b9:yA W9 w 39 3 (w+1) [true,.slice a n c,xi ops]:=by rw[hW9];exact HX.1.setCs _
 have HE:Hid (∃out,n=out.length/\RunM bs m es hints true out ops/\RowC W9 w (.slice a n c) out/\Below w w W9):=HX.2 W9 (by rw[hW9];exact yAl (S:=λq=>q=w.heap.size+1) _ rfl _ _ _);obtain⟨q0,q1,q2⟩:=b9.c3;simp only[setCs,Nat.zero_add,Nat.reduceAdd]at hW9;clear b9;go_wp2_with fail;rw[<-hW9];exact bodyPost_ret (v:=.agg #[true,.slice a n c,xi ops]) (by simp[results,results18,go_sem,q0,q1,q2]) rfl ⟨true,a,n,c,ops,rfl,HE⟩):p:=h
variable {w:World} {bc gc cc:Nat}
theorem yPe {ua:Option Addr} {ul uc:Nat} {m:Bk} (hU:yCg w (.slice ua ul uc) bs) (hok:∀x∈bs,x.ok) (hm:yAy w m.v m.l) (hmo:m.ok) (hC:OwnC w bc gc cc es) (hoe:∀e∈es,e.ok) (hk:∀e∈es,e.kind=0) (hl:es.length<=1048576) (hints:Bool) {M:Nat} (hM:M=es.length):
  Calls prog 18 #[.agg #[.slice ua ul uc,m.v,xi m.cnt],xg gc M cc,hints] w (RunP bs m es hints w):=by
 obtain⟨va,vn,vc,a2,an⟩:=hm.one;clear an;have a4:ul=bs.length:=by
  rcases hU with⟨_,_,q,rfl⟩|⟨_,_,_,q,_⟩
  .cases q;rfl
  .cases q;rfl
 have HM:Hid (OwnC w bc gc cc es/\M=es.length/\(∀e∈es,e.ok)/\(∀e∈es,e.kind=0)/\yCg w (.slice ua ul uc) bs/\yAy w m.v m.l/\ul=bs.length):=⟨hC,hM,hoe,hk,hU,hm,a4⟩;obtain⟨W0,a6⟩:=qW (xw (w.alloc (Obj.cells #[.slice ua ul uc,.slice va vn vc,xi m.cnt] 34)) #[false,xh,xi 0] 39);have H0:Hid (yA W0 w 34 3 w [.slice ua ul uc,.slice va vn vc,xi m.cnt]/\yA W0 w 39 3 (w+1) [false,xh,xi 0]/\Below w w W0):=by
  obtain⟨X,hX⟩:=qW (xw w #[.slice ua ul uc,.slice va vn vc,xi m.cnt] 34);rw[<-hX]at a6;have zx:=qS hX
  have k1:=qN hX
  have k2:=qN a6
  have b1:yA X w 34 3 w [.slice ua ul uc,.slice va vn vc,xi m.cnt]:=by rw[hX];exact yAa w _ qr rfl
  have b2:yA W0 w 39 3 (w+1) [false,xh,xi 0]:=by rw[a6,<-zx];exact yAa X _ (by omega) rfl
  exact⟨b1.below k2,b2,k1.trans (k2.mono (by omega))⟩
 have HF:Hid (Calls prog 13 #[.agg #[.slice ua ul uc,.slice va vn vc,xi m.cnt]] W0 (yH3 (yCn bs m) W0)):=by rw[<-a2];exact yI7 _ bs m W0 (hU.below H0.2.2) hok (hm.below H0.2.2 qr) hmo
 have HV:Hid (∀wx,Below w w wx->Calls prog 9 #[xg gc M cc] wx (yH0 (yC es) wx)):=λwx hx=>by have h9:=yLd gc cc es bc wx (hC.below hx hC.lt.2) hoe hl;rw[yNr hk]at h9;rw[hM];exact h9
 have hgl:=hC.lt.2;rw[a2];have az:Hid (m.v=.slice va vn vc):=a2;clear hU hok hm hmo hC hoe hk a2 hM hl a4;obtain⟨c0,c1,c2⟩:=H0.1.c3;go_enter func18,ntmps18;go_upto_region 1 with fail;rw[<-a6];clear a6;go_wp2_with fail;refine HF.mono ?_;rintro e w1 ⟨r,rfl,hr,aa⟩;have a1:Hid ((r=true↔yCn bs m)/\yA w1 w 34 3 w [.slice ua ul uc,.slice va vn vc,xi m.cnt]/\yA w1 w 39 3 (w+1) [false,xh,xi 0]/\Below w w w1):=⟨hr,H0.1.below aa,H0.2.1.below aa,H0.2.2.trans (aa.mono H0.2.2.size)⟩;clear hr aa HF c0 c1 c2 H0;cases r
 case false=>
  obtain⟨wx,hwx⟩:=qW w1;have HX:Hid (yA wx w 39 3 (w+1) [false,xh,xi 0]/\¬(yCn bs m/\yC es)/\Below w w wx):=by rw[hwx];exact⟨a1.2.2.1,λq=>Bool.noConfusion (a1.1.2 q.1),a1.2.2.2⟩
  rw[<-hwx];clear hwx a1;as_aux_lemma=>exact zSpF
 case true=>
 have ak:Hid (Calls prog 9 #[xg gc M cc] w1 (yH0 (yC es) w1)):=HV.out w1 a1.2.2.2;go_wp2_with fail;refine ak.mono ?_;rintro e w2 ⟨r2,rfl,af,hb2⟩;have a0:Hid ((r2=true↔yC es)/\yCn bs m/\yA w2 w 34 3 w [.slice ua ul uc,.slice va vn vc,xi m.cnt]/\yA w2 w 39 3 (w+1) [false,xh,xi 0]/\Below w w w2):=⟨af,(by have h9:=a1.1;simpa using h9),a1.2.1.below hb2,a1.2.2.1.below hb2,a1.2.2.2.trans (hb2.mono a1.2.2.2.size)⟩;clear af hb2 ak HV a1;cases r2
 case false=>
  obtain⟨wx,hwx⟩:=qW w2;have HX:Hid (yA wx w 39 3 (w+1) [false,xh,xi 0]/\¬(yCn bs m/\yC es)/\Below w w wx):=by rw[hwx];exact⟨a0.2.2.2.1,λq=>Bool.noConfusion (a0.1.2 q.2),a0.2.2.2.2⟩
  rw[<-hwx];clear hwx a0;as_aux_lemma=>exact zSpF
 case true=>
 have a3:yCn bs m:=a0.2.1;have a5:yC es:=by have h9:=a0.1;simpa using h9
 obtain⟨bI,oI,N,cI,a2,hN,hI,a9,a8⟩:∃bI oI N cI,m.v=.slice (some ⟨bI,oI,none⟩) N cI/\N=m.l.length/\yB5 w bI oI m.l/\bI<w.heap.size/\N<=cI/\cI<=maxLen:=by
  rcases HM.2.2.2.2.2.1 with⟨_,_,_,q⟩|⟨b,off,cap,q1,q2,q3,q4,q5⟩
  .have:=a3.2.1.1;rw[q]at this;simp at this
  .exact⟨b,off,_,cap,q1,rfl,q2,q3,q4,q5⟩
 obtain⟨rfl,rfl,rfl⟩:va=some ⟨bI,oI,none⟩/\vn=N/\vc=cI:=by have h9:=az.out;rw[a2]at h9;simp only[Value.slice.injEq]at h9;exact⟨h9.1.symm,h9.2.1.symm,h9.2.2.symm⟩
 have HQ:Hid (∀ca:Option Addr,bs= []->RwO ⟨w,m.l,vn,bI,oI,vc,m.cnt,0,[],ca,0,m.cnt.toNat⟩):=λca hb=>by have hg:=a3.2.1;rw[hb]at hg;exact {good:=hg,nc:=Nat.le_refl _,nC:=rfl,N:=hN,nk:=by show((m.cnt.toNat:Nat):Int)=m.cnt;have:=hg.2.2.1;omega,ins:=hI,bIl:=a9,cI:=a8,cnd:=λi b hi=>by simp at hi}
 have aw:M<=10000:=qv a5.1.1 HM.2.1
 obtain⟨c0,c1,c2⟩:=a0.2.2.1.c3;by_cases hbe:bs= []
 .have aq:¬(0:Int)<(ul:Int):=by rw[HM.2.2.2.2.2.2,hbe];simp
  obtain⟨nk,ad⟩:=qE m.cnt.toNat;have al:Hid (∀ca:Option Addr,RwO ⟨w,m.l,vn,bI,oI,vc,m.cnt,0,[],ca,0,nk⟩):=λca=>by rw[ad];exact HQ.out ca hbe
  have a7:Hid (∀out n,MvR m.l hints es (List.replicate nk newC) out n->RunM bs m es hints true out n):=λout n h=>.inr ⟨⟨a3,a5⟩,rfl,.inr ⟨hbe,by rw[<-ad];exact h⟩⟩;have ar:nk<=1000:=qw a3.2.1.2.2.2.1
  have ay:Hid (m.cnt=(nk:Int)):=by have:=a3.2.1.2.2.1;show _=_;omega
  obtain⟨W5,ab⟩:=qW (xw w2 #[true,xh,xi 0] 39);have H5:Hid (yA W5 w 34 3 w [.slice ua ul uc,.slice (some ⟨bI,oI,none⟩) vn vc,xi m.cnt]/\yA W5 w 39 3 (w+1) [false,xh,xi 0]/\yA W5 w 39 3 w2 [true,xh,xi 0]/\Below w w W5):=by
   obtain⟨_,_,h1,h2,h3⟩:=a0.out;have k5:=qN ab
   exact⟨h1.below k5,h2.below k5,by rw[ab];exact yAa w2 _ h3.size rfl,h3.trans (k5.mono h3.size)⟩
  have ah:w.heap.size+1<w2.heap.size:=a0.2.2.2.1.lt.2;clear a3 a5 HQ hI a9 a8 hN a2 ad hbe;go_upto_region 6 with fail;rw[<-ab];clear ab c0 c1 c2;have c2:=H5.1.cell (j:=2) rfl;go_wp2_with fail;rw[ay.out];refine(yMm nk W5 ar).mono ?_;rintro e w6 ⟨gk,cpk,rfl,ai,hb6⟩;obtain⟨ob,ac⟩:=qE w2;have H6:Hid (RnJ w (.slice ua ul uc) (.slice (some ⟨bI,oI,none⟩) vn vc) m.cnt ob nk [] none 0 0 0 gk cpk (List.replicate nk newC) w6):=by obtain⟨h1,h2,h3,h4⟩:=H5.out;rw[ac];exact⟨h1.below hb6,h2.below hb6,h3.below hb6,yGq _ _,rfl,ai.mono h4.size,by simp,λk hk=>by rw[eq_of_mem_replicate hk];exact⟨Int.le_refl _,by decide⟩,ah,h4.trans (hb6.mono h4.size)⟩
  rw[<-ac];clear ai hb6 c2 H5 a0 ah ac;go_wp2;go_loopw[8,9] (λcv iv wr=>∃(i ops gk cpk:Nat) (out:List Ent) (a:Option Addr) (n c:Nat) (cs:List Ctr),i<=M/\ops<=i/\n<=ops/\cv=(xg gk nk cpk)/\iv=(xi i)/\Hid (RnJ w (.slice ua ul uc) (.slice (some ⟨bI,oI,none⟩) vn vc) m.cnt ob nk out a n c ops gk cpk cs wr/\∀o k,MvR m.l hints (es.drop i) cs o k->MvR m.l hints es (List.replicate nk newC) (out++o) (ops+k))) (λ_ iv _=>M-(intOf iv).toNat);case atStart=>exact⟨0,0,gk,cpk,[],none,0,0,List.replicate nk newC,zero_le _,Nat.le_refl _,Nat.le_refl _,rfl,rfl,H6.out,λo k h=>by simpa using h⟩
  case round=>
   clear H6;obtain⟨i,ops,gk,cpk,out,a,n,c,cs,hi,aB,aC,rfl,rfl,HJ⟩:=hrel;obtain⟨wo,am⟩:=qW wr;subst am;obtain⟨N,av⟩:=qE vn;subst av;obtain⟨cI,au⟩:=qE vc;subst au;have HQ:=al;by_cases hlt:i<M
   .have z:(i:Int)<(M:Int):=by omega
    have aD:n<=10000:=by omega
    as_aux_lemma=>exact zSpL
   .have z:¬(i:Int)<(M:Int):=by omega
    have HX:Hid (yA wo w 39 3 (w+1) [false,xh,xi 0]/\(∀X:World,Chg (λq=>q=w.heap.size+1) wo X->∃out,n=out.length/\RunM bs m es hints true out ops/\RowC X w (.slice a n c) out/\Below w w X)):=by have hj:=HJ.1;refine⟨hj.res,λX hX=>⟨out,hj.nl,a7.out _ _ (MvR.done HJ.2 (qw HM.2.1)),hj.row.chg hX (λq hq z=>yAb hj.row hj.res (by decide) _ hq (by rw[z];rfl)),Chg.below hj.below hX hj.below.size (λq z=>by omega)⟩⟩
    obtain⟨t0,t1,t2⟩:=HJ.1.obx.c3;clear HJ a7 HQ al;as_aux_lemma=>exact zSpZ
 .have aq:(0:Int)<(ul:Int):=qv HM.2.2.2.2.2.2 (List.length_pos_iff.2 hbe)
  obtain⟨ub,uo,ao,aj,a4⟩:∃ub uo,ua=some ⟨ub,uo,none⟩/\yK0 w ub uo bs/\ub<w.heap.size:=by
   rcases HM.2.2.2.2.1 with⟨_,_,_,q⟩|⟨b,off,cap,q1,q2,q3,q4,q5⟩
   .exact absurd q hbe
   .simp only[Value.slice.injEq]at q1;exact⟨b,off,q1.1,q2,q3⟩
  subst ao;have hb2:=a0.2.2.2.2;have aA:Hid (Calls prog 56 #[.agg #[.slice (some ⟨ub,uo,none⟩) ul uc,.slice (some ⟨bI,oI,none⟩) vn vc,xi m.cnt],xg gc M cc] w2 λe w'=>∃a n c,e=.returned (.agg #[true,.slice a n c,xi M])/\Hid (∃out,n=out.length/\RwsR m.vw (bs.map Bk.vw) ((allC es 0).map (segE es)) out/\RowC w' w2 (.slice a n c) out/\Below w2 w2 w')):=by
   refine yOb ⟨w2,bs,m,ul,ub,uo,uc,vn,bI,oI,vc,gc,0,cc,es,M,allC es 0⟩ ⟨a3,?_,?_,HM.2.2.2.2.2.2,a2,hN,?_,?_,a8,?_,HM.2.1,aw,rfl,λp hp=>yQ1 es _ 0 p hp⟩
   .intro k x hx;obtain⟨h1,h2,h3⟩:=aj k x hx;exact⟨by rw[hb2.cell (p:=(xd ub _)) a4];exact h1,by rw[hb2.cell (p:=(xd ub _)) a4];exact h2,h3.below hb2 qr⟩
   .have:=hb2.size;show ub<w2.heap.size;omega
   .exact hI.below hb2 a9
   .have:=hb2.size;show bI<w2.heap.size;omega
   .exact(HM.1.below hb2 hgl).sl
  have a7:Hid (∀out,RwsR m.vw (bs.map Bk.vw) ((allC es 0).map (segE es)) out->RunM bs m es hints true out M):=λout h=>.inr ⟨⟨a3,a5⟩,rfl,.inl ⟨hbe,h,HM.2.1⟩⟩;clear a3 a5 HQ hI a9 a8 hN a2 aj a4 hb2 hbe;go_wp2_with fail;refine aA.mono ?_;rintro e wo ⟨a,n,c,rfl,H3⟩;have HX:Hid (yA wo w 39 3 (w+1) [false,xh,xi 0]/\(∀X:World,Chg (λq=>q=w.heap.size+1) wo X->∃out,n=out.length/\RunM bs m es hints true out M/\RowC X w (.slice a n c) out/\Below w w X)):=by
   obtain⟨out,h1,h2,h3,h4⟩:=H3.out;obtain⟨_,_,_,k2,k3⟩:=a0.out;have hr:=k2.below h4;have hb:Below w w wo:=k3.trans (h4.mono k3.size);have ae:RowC wo w (.slice a n c) out:=by
    rcases h3.cases with⟨q1,q2⟩|⟨g,cp,q1,q2⟩
    .rw[q1,q2];exact yGq _ _
    .rw[q1];exact q2.mono k3.size
   exact⟨hr,λX hX=>⟨out,h1,a7.out _ h2,ae.chg hX (λq hq z=>yAb ae hr (by decide) _ hq (by rw[z];rfl)),Chg.below hb hX hb.size (λq z=>by omega)⟩⟩
  obtain⟨ops,ag⟩:=qE M;rw[<-ag]at HX⊢;clear H3 a7 a0 ag c0 c1 c2;as_aux_lemma=>exact zSpZ
end
def yXj (js:List Nat) (w:World) (r:Ending) (w':World):Prop:=∃g,r=.returned (xg g js.length js.length)/\(∀(i j:Nat),js[i]?=some j->(xk w' g i (xi j):Prop))/\w.heap.size<=g/\g<w'.heap.size/\Below w w w'
theorem yXv (x:Ix) (k:Nat) w (hk:k<=1000000) (hb:(x.op=5∨x.op=6)->0<=x.b):Calls prog 167 #[x.v,xi k] w (yXj (ways k x) w):=by
 obtain⟨op,a,b,free,⟨kind,s,hi,t,lo,up,nn⟩⟩:=x;simp only at hb;obtain⟨js,a1⟩:=qE (ways k ⟨op,a,b,free,⟨kind,s,hi,t,lo,up,nn⟩⟩);rw[<-a1];have HJ:=qH1 a1;clear a1;obtain⟨W0,a0⟩:=qE (xw w #[xi op,xi a,xi b,free,xi kind,s,hi,t,xu lo,xu up,xi nn] 153:World);have a6:=qN a0
 have a2:=qS a0
 obtain⟨c0,c2⟩:xk W0 w 0 (xi op)/\xk W0 w 2 (xi b):=by rw[a0];exact⟨by simp,by simp⟩
 have a7:IntKind.i64.wrap ((k:Int)+1)=(k:Int)+1:=by rw[IntKind.wrap_i64];omega
 have HA:Hid (∀(vs:List Int),vs=js.map (λj:Nat=>(j:Int))->yXj js w (.returned (xg (w+1) js.length js.length)) (xw W0 (vs.map λd=>Value.int .i64 d).toArray 3)):=by
  intro vs a3;have a5:Below W0 W0 (xw W0 (vs.map λd=>Value.int .i64 d).toArray 3):=qB;refine⟨w+1,rfl,λi j hj=>?_,qo,by rw[<-a2];simp,a6.trans (a5.mono qo)⟩;have h1:(vs.map λd=>Value.int .i64 d)[i]?=some (.int .i64 (j:Int)):=by rw[a3,getElem?_map,getElem?_map,hj];rfl
  rw[<-a2];simp[h1]
 go_enter func167,ntmps167;go_upto_region 1 with fail;rw[<-a0];clear a0;by_cases h5:op=5
 .subst h5;have hj:js= [k+1,b.toNat]:=by rw[HJ.out];rfl
  have a4:=hb (.inl rfl);have H:Hid (yXj js w (.returned (.slice (some ⟨w.heap.size+1,0,none⟩) 2 2)) (W0.alloc (Obj.cells #[.int .i64 ((k:Int)+1),.int .i64 b] 3))):=by have:=HA.out [(k:Int)+1,b] (by rw[hj];simp;omega);rw[hj]at this⊢;exact this
  clear hj hb;go_wp2_with fail;go_ret;exact H.out
 by_cases h6:op=6
 .subst h6;have hj:js= [b.toNat]:=by rw[HJ.out];rfl
  have a4:=hb (.inr rfl);have H:Hid (yXj js w (.returned (.slice (some ⟨w.heap.size+1,0,none⟩) 1 1)) (W0.alloc (Obj.cells #[.int .i64 b] 3))):=by have:=HA.out [b] (by rw[hj];simp;omega);rw[hj]at this⊢;exact this
  clear hj hb;go_wp2_with fail;go_ret;exact H.out
 have hj:js= [k+1]:=by rw[HJ.out];simp[ways,h5,h6]
 have H:Hid (yXj js w (.returned (.slice (some ⟨w.heap.size+1,0,none⟩) 1 1)) (W0.alloc (Obj.cells #[.int .i64 ((k:Int)+1)] 3))):=by have:=HA.out [(k:Int)+1] (by rw[hj];simp);rw[hj]at this⊢;exact this
 clear hj hb;go_wp2_with fail;go_ret;exact H.out
theorem Tryz.infoInt:(prog.info? 3).map (λi=>(i.zero,i.size,i.bytes))=some (some (.int .i64 0),1,8):=qk
theorem yWm (n:Nat):(madeCells #[xi 0] n).toList=(List.replicate n (0:Int)).map λd=>Value.int .i64 d:=by
 apply ext_getElem?;intro j;by_cases hj:j<n
 .rw[getElem?_map,getElem?_replicate,if_pos hj];simp[madeCells,hj,mod_one]
 .rw[getElem?_map,getElem?_replicate,if_neg hj];simp[madeCells,hj]
variable {d:Int} {ds:List Int} {j:Nat}
theorem yM {js:List Nat} {ds':List Int} {m:Nat} (h:yB1 d (js.take m) ds=some ds') (hj:js[m]?=some j):yB1 d (js.take (m+1)) ds=note ds' j d:=by
 have a0:∀(xs:List Nat) (es:List Int),yB1 d (xs++ [j]) es=(yB1 d xs es).bind λe=>note e j d:=by
  intro xs;induction xs with
  |nil=>intro es;simp[yB1]
  |cons x xs ih=>
   intro es;simp only[cons_append,yB1];cases note es x d with
   |none=>rfl
   |some e=>simp[ih]
 rw[take_add_one,hj];simp only[Option.toList];rw[a0,h];rfl
theorem yWd {js:List Nat} {m:Nat} (h:yB1 d (js.take m) ds=none):yB1 d js ds=none:=by
 have a0:∀(xs ys:List Nat) (es:List Int),yB1 d xs es=none->yB1 d (xs++ys) es=none:=by
  intro xs;induction xs with
  |nil=>intro ys es q;simp[yB1]at q
  |cons x xs ih=>
   intro ys es q;simp only[cons_append,yB1]at q⊢;cases hn:note es x d with
   |none=>rfl
   |some e=>
    rw[hn]at q;exact ih ys e q
 have:=a0 (js.take m) (js.drop m) ds h;rw[take_append_drop]at this;exact this
variable {k:Nat} {x:Ix}
theorem yNa {e:Int} (h:ds[k]?=some e) (hl:¬e<least x.op) (hd:d=e+more x.op) (h2:¬250<d):yC2 ds k x=yB1 d (ways k x) ds:=by subst hd;rw[yFn h,if_neg qo]
theorem yX3 {e:Int} (h:ds[k]?=some e) (hd:d=e+more x.op) (h2:250<d):yC2 ds k x=none:=by subst hd;rw[yFn h,if_pos (.inr h2)]
def xCg (l:List Ix):Prop:=∃ds,yC6 l l.length=some ds/\ds[l.length]?=some 1
theorem yG4 {l:List Ix} (h:yC6 l k=some ds) (hx:l[k]?=some x) (hs:yC2 ds k x=none):¬xCg l:=by
 rintro⟨d,h1,_⟩;have h2:yC6 l (k+1)=none:=by rw[yD3 h hx,hs]
 rw[yQt h2 (by have:=qf hx;omega)]at h1;cases h1
variable {p:Prop}
theorem zVr (h:p:=by exact zR k3w):p:=h
theorem zVl (h:p:=by have HG:Hid (¬P):=λq=>yG4 HJ.1 HX.out (yN HD.out (by simp[least];omega)) (HP.1 q);exact zVr):p:=h
theorem zVq (h:p:=by
 go_wp2_with fail;refine HWy.mono ?_;rintro e w4 ⟨gw,rfl,hcw,hgw1,hgw2,hb4⟩;have hgne:¬gw=W0.heap.size:=by have:=HO3.lt.2;omega
 have HCw:=qH1 hcw;have HO4:=qH1 (HO3.below hb4);have kw4:=kw3.trans (hb4.mono kw3.size);have hjl:=HJS.2.1;clear hcw x0 x1 x2 x3 x4 x5 x6 x7 x8 x9 x10 e0 e1;go_wp2_with fail;(try rw[<-hD]);clear hD;go_loopw[54] (λi wi=>∃(m:Nat) (es:List Int),m<=js.length/\i=.int .i64 m/\Hid (yB1 D (js.take m) ds=some es/\OwnZ 3 wi W0.heap.size W0.heap.size (l.length+1) es .i64/\Chg (λq=>q=W0.heap.size) w4 wi)/\Below W0.heap.size W0 wi) (λi _=>js.length-(intOf i).toNat);case atStart=>exact⟨0,ds,zero_le _,rfl,⟨rfl,HO4.out,Chg.refl _ _⟩,kw4⟩
 case round=>
  obtain⟨m,es,hm,rfl,HN,hbi⟩:=hrel;have hel:=(yNw (n:=l.length) (d:=D) qo _ ⟨HOl.out,(yHn HJ.1).ran⟩ HN.1).len;by_cases hml:m<js.length
  .have zm:(m:Int)<(js.length:Int):=qo
   obtain⟨j,hj⟩:∃j,js[m]?=some j:=⟨_,getElem?_eq_getElem hml⟩;have HJm:=qH1 hj;have hjn:=HJS.2.2 m j hj;have zj:(j:Int)<(l.length:Int)+1:=qo
   obtain⟨e',he'⟩:∃e',es[j]?=some e':=⟨_,getElem?_eq_getElem qo⟩;have HEs:=qH1 he';obtain⟨f0,f1⟩:=HN.2.1.cell he';have w0:wr.cell? (xd gw m)=some (.int .i64 (j:Int)):=by rw[HN.2.2.cell (p:=⟨gw,m,none⟩) hgw2 hgne];exact HCw.out m j hj
   clear hj he' hel;have kiw:=hb0.trans (hbi.mono qo);by_cases he0:e'=0∨e'=D
   .have HN2:Hid (yB1 D (js.take (m+1)) ds=some (es.set j D)/\OwnZ 3 (wr.setCell (xd W0.heap.size j) (.int .i64 D)) W0.heap.size W0.heap.size (l.length+1) (es.set j D) .i64/\Chg (λq=>q=W0.heap.size) w4 (wr.setCell (xd W0.heap.size j) (.int .i64 D))):=⟨by rw[yM HN.1 HJm.out,yJp HEs.out he0],HN.2.1.set j D,HN.2.2.trans (Chg.of_set _ W0.heap.size j _ rfl)⟩;have kb5:Below W0.heap.size W0 (wr.setCell (xd W0.heap.size j) (.int .i64 D)):=hbi.setCell (Nat.le_refl _) _;by_cases hez:e'=0
    .subst hez;exact xGz
    .have hed:e'=D:=qo
     have hez2:=qn hez
     exact xGz
   .have HG:Hid (¬P):=λq=>yG4 HJ.1 HX.out (by rw[HS.out];exact yWd (m:=m+1) (by rw[yM HN.1 HJm.out,yNx HEs.out he0])) (HP.1 q);have hez:¬e'=0:=λq=>he0 (.inl q);have hed:¬e'=D:=λq=>he0 (.inr q);have hez3:=bne_iff_ne.2 hez;have hed3:=bne_iff_ne.2 hed;clear he0;exact zR kiw
  .exact xIk):p:=h
theorem yK7 (x:Bk) (conds:Nat) w (h:yAy w x.v x.l) (h1:1<=x.l.length) (h2:x.l.length<=4000) (hg:∀(k:Nat) (y:Ix),x.l[k]?=some y->yCy y k x.l.length x.cnt conds):Calls prog 116 #[x.val] w (yH3 (xCg x.l) w):=by
 obtain⟨P,hP⟩:=qE (xCg x.l:Prop);rw[<-hP];obtain⟨v,cnt,l⟩:=x;simp only at h h1 h2 hg hP;have HP:Hid (P↔xCg l):=by show P↔_;rw[hP]
 have ao:Hid (∀(k:Nat) (y:Ix),l[k]?=some y->((y.op=5∨y.op=6)->(k:Int)<y.b/\y.b<=(l.length:Int))):=by intro k y hy;have:=hg k y hy;simp only[yCy]at this;omega
 obtain⟨b0,off,cap,al,HE,a2,an⟩:∃b0 off cap,v=.slice (some ⟨b0,off,none⟩) l.length cap/\Hid (yB5 w b0 off l)/\b0<w.heap.size/\(l.length<=cap/\cap<=maxLen):=by
  rcases h with⟨a,ah,hq,hl⟩|⟨b,off,ah,hq,hE,a2,h1,h2⟩
  .subst hl;simp at h1
  .exact⟨b,off,ah,hq,hE,a2,h1,h2⟩
 subst al;unfold maxLen at an;clear h hg hP;obtain⟨i,hi,a7,ad,ac⟩:=info_parts Tryz.infoInt;have HI:=qH4 hi a7 ad ac;clear hi a7 ad ac;obtain⟨W0,a6⟩:=qE (xw w #[.slice (some ⟨b0,off,none⟩) l.length cap,xi cnt] 32:World);have hb0:=qN a6
 have a7:w.heap.size<W0.heap.size:=by rw[a6];simp
 have HK:Hid (∀wx,Below W0 W0 wx->xk wx w 0 (.slice (some ⟨b0,off,none⟩) l.length cap)/\yB5 wx b0 off l):=by intro wx hx;refine⟨?_,(HE.below hb0 a2).below hx qo⟩;rw[hx.cell (p:=(xd w 0)) a7,a6];simp
 obtain⟨k0,_⟩:=HK.out W0 (Below.refl _ _);have au:IntKind.i64.wrap ((l.length:Int)+1)=(l.length:Int)+1:=by rw[IntKind.wrap_i64];omega
 go_enter func116,ntmps116;go_upto_region 1 with fail;rw[<-a6];clear a6;go_wp2_with (at_make;refine wpList_make_full _ rfl _ _ 259 rfl W0 3 i _ 1 underlying259 HI.1 HI.2.1 HI.2.2.1 _ _ _ _ (l.length+1) rfl rfl ?_ ?_ ?hb ?hm ?hs ?_);case hb=>rw[HI.2.2.2];omega
 case hm=>unfold maxLen;omega
 case hs=>exact Nat.le_refl _
 .rfl
 .rfl
 intro w1 a8 ae;rw[yWm]at a8;have aj:Hid (OwnZ 3 w1 W0 W0 (l.length+1) (List.replicate (l.length+1) 0) .i64):=by unfold Hid OwnZ;rw[length_replicate];exact a8
 have ag:=(Below.refl _ _).grown ae qr (λk hk=>by cases hk);clear a8 ae k0;obtain⟨e0,e1⟩:=aj.cell (j:=0) (d:=0) rfl;have ai:=qH1 (aj.set 0 1);have hb2:Below W0 W0 (xt w1 W0 0 (xi 1)):=ag.setCell qr _;obtain⟨k0,_⟩:=HK.out _ ag;obtain⟨W2,aa⟩:=qE (xt w1 W0 0 (xi 1):World);rw[<-aa]at ai hb2;go_upto_region 3 with fail;rw[<-aa];clear aa e0 e1 k0;obtain⟨k0,_⟩:=HK.out W2 hb2;go_wp2_with fail;go_loopw[21] (λi wr=>∃(k:Nat) (ds:List Int),k<=l.length/\i=(xi k)/\Hid (yC6 l k=some ds/\OwnZ 3 wr W0 W0 (l.length+1) ds .i64)/\Below W0 W0 wr) (λi _=>l.length-(intOf i).toNat);case atStart=>exact⟨0,_,zero_le _,rfl,⟨rfl,ai.out⟩,hb2⟩
 case round=>
  clear k0;obtain⟨k,ds,hk,rfl,HJ,hb⟩:=hrel;have a9:=(yHn HJ.1).len;obtain⟨k0,hE⟩:=HK.out wr hb;by_cases a2:k<l.length
  .have zk:(k:Int)<(l.length:Int):=qo
   have aq:(k:Int)<(l.length:Int)+1:=qo
   obtain⟨y,hy⟩:∃y,l[k]?=some y:=qg a2;obtain⟨op,a,b,free,⟨kind,s,hi,t,lo,up,nn⟩⟩:=y;have HX:=qH1 hy;have a4:=ao.out k _ hy;simp only at a4;obtain⟨c0,c1,c2,c3,c4,c5,c6,c7,c8,c9,c10⟩:=hE k _ hy;obtain⟨d,hd⟩:∃d,ds[k]?=some d:=qg qo;have HD:=qH1 hd;have hdr:=(yHn HJ.1).ran d (mem_of_getElem? hd);obtain⟨W3,a5⟩:=qE (xw wr #[xi op,xi a,xi b,free,xi kind,s,hi,t,xu lo,xu up,xi nn] 153:World);have af:=qN a5
   have ar:=qS a5
   have kw3:=hb.trans (af.mono hb.size);have k3w:=hb0.trans (kw3.mono qo);have HO3:=qH1 (HJ.2.below af);obtain⟨x0,x1,x2,x3,x4,x5,x6,x7,x8,x9,x10⟩:xk W3 wr 0 (xi op)/\xk W3 wr 1 (xi a)/\xk W3 wr 2 (xi b)/\xk W3 wr 3 free/\xk W3 wr 4 (xi kind)/\xk W3 wr 5 s/\xk W3 wr 6 hi/\xk W3 wr 7 t/\xk W3 wr 8 (xu lo)/\xk W3 wr 9 (xu up)/\xk W3 wr 10 (xi nn):=by rw[a5];refine⟨?_,?_,?_,?_,?_,?_,?_,?_,?_,?_,?_⟩<;>simp
   obtain⟨e0,e1⟩:=HO3.cell hd;obtain⟨js,a3⟩:=qE (ways k ⟨op,a,b,free,⟨kind,s,hi,t,lo,up,nn⟩⟩);have HJS:Hid (js=ways k ⟨op,a,b,free,⟨kind,s,hi,t,lo,up,nn⟩⟩/\js.length<=2/\∀(m j:Nat),js[m]?=some j->j<=l.length):=by
    refine⟨a3,?_,λm j hm=>?_⟩
    .rw[a3];unfold ways;split;simp;split<;>simp
    .have a1:=mem_of_getElem? hm;rw[a3]at a1;unfold ways at a1;split at a1
     .rename_i q;have:=a4 (.inl q);simp at a1;omega
     .split at a1
      .rename_i q;have:=a4 (.inr q);simp at a1;omega
      .simp at a1;omega
   have HWy:Hid (Calls prog 167 #[.agg #[xi op,xi a,xi b,free,xi kind,s,hi,t,xu lo,xu up,xi nn],xi k] W3 (yXj js W3)):=by rw[a3];exact yXv ⟨op,a,b,free,⟨kind,s,hi,t,lo,up,nn⟩⟩ k W3 qo (λq=>by have:=a4 q;show 0<=b;omega)
   have HOl:=qH1 a9;clear a3 a4 hE hy hd a9;go_upto_region 6 with fail;rw[<-a5];clear a5 c0 c1 c2 c3 c4 c5 c6 c7 c8 c9 c10 k0;by_cases h2o:op=2;case pos=>
    subst h2o;by_cases hlow:d<1;case pos=>exact zVl
    have HM:Hid ((d+1)=d+more 2):=by show(d+1)=d+more 2;simp[more]
    have ak:IntKind.i64.wrap (d+1)=(d+1):=by rw[IntKind.wrap_i64];omega
    by_cases a0:250<(d+1);case pos=>
     have HG:Hid (¬P):=λq=>yG4 HJ.1 HX.out (yX3 HD.out HM.out a0) (HP.1 q);exact zVr
    obtain⟨D,hD⟩:=qE (d+1);have ab:1<=D/\D<=250:=qo
    have HS:Hid (yC2 ds k ⟨2,a,b,free,⟨kind,s,hi,t,lo,up,nn⟩⟩=yB1 D js ds):=by show _=_;rw[HJS.1,hD];exact yNa HD.out (by simp[least];omega) HM.out a0
    exact zVq
   by_cases h3o:op=3;case pos=>
    subst h3o;by_cases hlow:d<2;case pos=>exact zVl
    have HM:Hid (d=d+more 3):=by show d=d+more 3;simp[more]
    have a0:¬250<d:=qo
    obtain⟨D,hD⟩:=qE d;have ab:1<=D/\D<=250:=qo
    have HS:Hid (yC2 ds k ⟨3,a,b,free,⟨kind,s,hi,t,lo,up,nn⟩⟩=yB1 D js ds):=by show _=_;rw[HJS.1,hD];exact yNa HD.out (by simp[least];omega) HM.out a0
    exact zVq
   by_cases h4o:op=4;case pos=>
    subst h4o;by_cases hlow:d<2;case pos=>exact zVl
    have HM:Hid ((d+ -1)=d+more 4):=by show(d+ -1)=d+more 4;simp[more]
    have ak:IntKind.i64.wrap (d+ -1)=(d+ -1):=by rw[IntKind.wrap_i64];omega
    have a0:¬250<(d+ -1):=qo
    obtain⟨D,hD⟩:=qE (d+ -1);have ab:1<=D/\D<=250:=qo
    have HS:Hid (yC2 ds k ⟨4,a,b,free,⟨kind,s,hi,t,lo,up,nn⟩⟩=yB1 D js ds):=by show _=_;rw[HJS.1,hD];exact yNa HD.out (by simp[least];omega) HM.out a0
    exact zVq
   by_cases hlow:d<1;case pos=>
    have HG:Hid (¬P):=λq=>yG4 HJ.1 HX.out (yN HD.out (by show d<least op;simp[least,h3o,h4o];omega)) (HP.1 q);exact zVr
   have HM:Hid (d=d+more op):=by show d=d+more op;simp[more,h2o,h4o]
   have a0:¬250<d:=qo
   obtain⟨D,hD⟩:=qE d;have ab:1<=D/\D<=250:=qo
   have HS:Hid (yC2 ds k ⟨op,a,b,free,⟨kind,s,hi,t,lo,up,nn⟩⟩=yB1 D js ds):=by show _=_;rw[HJS.1,hD];exact yNa HD.out (by simp[least,h3o,h4o];omega) HM.out a0
   exact zVq
  .have zk:¬(k:Int)<(l.length:Int):=qo
   have am:k=l.length:=qo
   subst am;obtain⟨d,hd⟩:∃d,ds[l.length]?=some d:=qg qo;obtain⟨e0,e1⟩:=HJ.2.cell hd;have HF:Hid (P↔d=1):=by
    show P↔_;rw[HP.out];constructor
    .rintro⟨av,q1,q2⟩;rw[HJ.1]at q1;cases q1
     rw[hd]at q2;exact Option.some.inj q2
    .intro q;exact⟨ds,HJ.1,by rw[hd,q]⟩
   have kw:=hb0.trans (hb.mono qo);have zl:(l.length:Int)<(l.length:Int)+1:=qo
   clear hd a9 hE;exact xGg
theorem yL2 (x:Bk) (conds:Nat) (w:World) (h:yAy w x.v x.l) (ho:x.ok) (hcd:conds<=1000):Calls prog 52 #[x.val,.int .i64 conds] w (yH3 (yBe x.l x.cnt conds) w):=by
 obtain⟨P,hP⟩:=qE (yBe x.l x.cnt conds:Prop);rw[<-hP];obtain⟨v,cnt,l⟩:=x;have HP:Hid (P↔yBe l cnt conds):=by show P↔_;rw[hP]
 have HH:=qH2 h ho.ins;obtain⟨va,cap,a6⟩:∃va cap,v=.slice va l.length cap:=by
  rcases h with⟨a,cap,hq,hl⟩|⟨b,off,cap,hq,_⟩
  .simp only at hq hl;subst hl;exact⟨_,_,hq⟩
  .exact⟨_,_,hq⟩
 subst a6;clear h ho hP;obtain⟨W0,a0⟩:=qW (xw w #[.slice va l.length cap,xi cnt] 32);have hb0:=qN a0
 have a5:w.heap.size<W0.heap.size:=by rw[a0];simp
 have HK:Hid (∀wx,Below W0 W0 wx->xk wx w 0 (.slice va l.length cap)/\xk wx w 1 (xi cnt)/\yAy wx (.slice va l.length cap) l):=by
  intro wx hx;refine⟨?_,?_,(HH.1.below hb0 qr).below hx qr⟩;all_goals rw[hx.cell (by exact a5),a0]
  all_goals simp
 obtain⟨k0,k1,_⟩:=HK.out W0 (Below.refl _ _);go_enter func52,ntmps52;go_upto_region 1 with fail;rw[<-a0];clear a0;by_cases p0:1<=l.length;case neg=>
  have z:(l.length:Int)<1:=qo
  exact xAl
 have z0:¬(l.length:Int)<1:=qo
 by_cases p1:l.length<=4000;case neg=>
  exact xF4
 have z1:¬(4000:Int)<(l.length:Int):=qo
 by_cases p2:0<=cnt;case neg=>
  exact xCx
 have z2:¬cnt<0:=qo
 by_cases p3:cnt<=200;case neg=>
  exact xC1
 have z3:¬200<cnt:=qo
 go_wp2;go_loopw[29] (λi wr=>∃(k:Nat),k<=l.length/\i=(xi k)/\Hid (∀(j:Nat) (y:Ix),j<k->l[j]?=some y->yCy y j l.length cnt conds)/\Below W0 W0 wr) (λi _=>l.length-(intOf i).toNat);case atStart=>exact⟨0,zero_le _,rfl,λj y hj=>qo,Below.refl _ _⟩
 case round=>
  obtain⟨k,hk,rfl,HJ,hb⟩:=hrel;have sb:=hb.size;clear k0 k1;obtain⟨k0,k1,hI⟩:=HK.out wr hb;have HI:=qH1 hI;clear hI;by_cases hlt:k<l.length
  .obtain⟨y,hy⟩:∃y,l[k]?=some y:=qg hlt;have zk:(k:Int)<(l.length:Int):=qo
   have HY:=qH2 hy (HH.2 y (mem_of_getElem? hy));clear hy;go_wp2_with fail;refine(yMz ⟨.slice va l.length cap,cnt,l⟩ k conds y _ HI.out HY.1 HY.2).mono ?_;rintro e w3 ⟨r,rfl,hr,a3⟩;have HR:=qH1 hr;have a1:=hb.trans (a3.mono sb);have a2:=hb0.trans (a1.mono qo);clear hr k0 k1;cases r
   case false=>have HG:Hid (¬P):=λq=>Bool.noConfusion (HR.2 (yC3 (HP.1 q) HY.1));exact zR a2
   case true=>
   have HN:Hid (∀(j:Nat) (z:Ix),j<k+1->l[j]?=some z->yCy z j l.length cnt conds):=λj z hj hz=>by
    by_cases e:j=k
    .subst e;have:=HY.1;rw[hz]at this;cases this
     exact HR.1 rfl
    .exact HJ.out j z qo hz
   refine zY ?_;exact⟨k+1,qo,by go_num,HN,a1⟩
  .have zk:¬(k:Int)<(l.length:Int):=qo
   have a4:Hid (∀(j:Nat) (z:Ix),l[j]?=some z->yCy z j l.length cnt conds):=λj z hz=>HJ.out j z (qw (qf hz)) hz;go_wp2_with fail;refine(yK7 ⟨.slice va l.length cap,cnt,l⟩ conds _ HI.out p0 p1 a4.out).mono ?_;rintro e w3 ⟨r,rfl,hr,a3⟩;have HR:Hid (r=true↔P):=by show r=true↔P;rw[hr,HP.out];exact⟨λq=>⟨p0,p1,p2,p3,a4.out,q⟩,λq=>q.2.2.2.2.2⟩
   have a1:=hb.trans (a3.mono sb);have a2:=hb0.trans (a1.mono qo);clear hr k0 k1 p0 p1;go_wp2;go_ret;exact⟨_,rfl,HR.out,a2⟩
theorem yI8 (u:Value) bs (m:Bk) w (h:yCg w u bs) (hok:∀x∈bs,x.ok) (hm:yAy w m.v m.l) (hmo:m.ok):
  Calls prog 14 #[.agg #[u,m.v,xi m.cnt]] w (yH3 (yCn bs m) w):=by
 obtain⟨P,hP⟩:=qE (yCn bs m:Prop);rw[<-hP];have HP:Hid (P↔yCn bs m):=by show P↔_;rw[hP]
 have HH:=qH4 h hok hm hmo;obtain⟨ua,cap,aa⟩:∃ua cap,u=.slice ua bs.length cap:=by
  rcases h with⟨a,cap,hq,hl⟩|⟨b,off,cap,hq,_⟩
  .subst hl;exact⟨_,_,hq⟩
  .exact⟨_,_,hq⟩
 subst aa;have ad:=hm.cells;clear h hok hm hmo hP;obtain⟨W0,a1⟩:=qW (xw w #[.slice ua bs.length cap,m.v,xi m.cnt] 34);have hb0:=qN a1
 have a9:w.heap.size<W0.heap.size:=by rw[a1];simp
 have HK:Hid (∀wx,Below W0 W0 wx->xk wx w 0 (.slice ua bs.length cap)/\xk wx w 1 m.v/\xk wx w 2 (xi m.cnt)/\yCg wx (.slice ua bs.length cap) bs/\yAy wx m.v m.l):=by
  intro wx hx;refine⟨?_,?_,?_,(HH.1.below hb0).below hx,(HH.2.2.1.below hb0 qr).below hx (Nat.le_refl _)⟩;all_goals rw[hx.cell (by exact a9),a1]
  all_goals simp
 obtain⟨k0,k1,k2,_,_⟩:=HK.out W0 (Below.refl _ _);go_enter func14,ntmps14;go_upto_region 1 with fail;rw[<-a1];clear a1;by_cases p0:bs.length<=200;case neg=>
  have z:(200:Int)<(bs.length:Int):=qo
  exact xAl
 have z0:¬(200:Int)<(bs.length:Int):=qo
 go_wp2_with fail;clear k0 k1 k2;go_loopw[12] (λi wr=>∃(k:Nat),k<=bs.length/\i=.int .i64 k/\Hid (∀(j:Nat) (x:Bk),j<k->bs[j]?=some x->yBe x.l x.cnt j)/\Below W0.heap.size W0 wr) (λi _=>bs.length-(intOf i).toNat);case atStart=>exact⟨0,zero_le _,rfl,λj x hj=>qo,Below.refl _ _⟩
 case round=>
  obtain⟨k,hk,rfl,HJ,hb⟩:=hrel;have sb:=hb.size;obtain⟨k0,k1,k2,hI,hM⟩:=HK.out wr hb;have HM:=qH1 hM;clear hM;by_cases hlt:k<bs.length
  .obtain⟨x,hx⟩:∃x,bs[k]?=some x:=⟨_,getElem?_eq_getElem hlt⟩;have zk:(k:Int)<(bs.length:Int):=qo
   obtain⟨b0,off,ab,c0,c1,hX⟩:∃b0 off,ua=some ⟨b0,off,none⟩/\wr.cell? ⟨b0,off+k*2,none⟩=some x.v/\wr.cell? ⟨b0,off+k*2+1,none⟩=some (.int .i64 x.cnt)/\yAy wr x.v x.l:=by
    rcases hI with⟨a,ac,hq,hl⟩|⟨b,off,ac,hq,hE,_⟩
    .subst hl;simp at hlt
    .cases hq
     obtain⟨c0,c1,c2⟩:=hE k x hx;exact⟨b,off,rfl,c0,c1,c2⟩
   obtain⟨xv,a2,xl⟩:=x;obtain⟨xa,xn,xc,a6,a7⟩:=hX.one;simp only at a6 a7 c0 c1 hX;subst a7;subst a6;obtain⟨W1,a0⟩:=qW (wr.alloc (Obj.cells #[.slice xa xl.length xc,.int .i64 a2] 32));have a8:Below wr wr W1:=by rw[a0];exact qB
   have HX:=qH3 (hX.below a8 (Nat.le_refl _)) (HH.2.1 _ (mem_of_getElem? hx)) hx;have n0:W1.cell? (xd wr.heap.size 0)=some (.slice xa xl.length xc):=by rw[a0];simp
   have n1:W1.cell? (xd wr.heap.size 1)=some (.int .i64 a2):=by rw[a0];simp
   have a5:=hb.trans (a8.mono sb);subst ab;clear hI hX hx;go_upto_region 6 with fail;rw[<-a0];clear a0 c0 c1 k0 k1 k2;go_wp2_with fail;refine(yL2 ⟨.slice xa xl.length xc,a2,xl⟩ k _ HX.1 HX.2.1 qo).mono ?_;rintro e w3 ⟨r,rfl,hr,a4⟩;have HR:=qH1 hr;have kb3:=a5.trans (a4.mono a5.size);have a3:=hb0.trans (kb3.mono qo);clear hr n0 n1;cases r
   case false=>have HG:Hid (¬P):=λq=>Bool.noConfusion (HR.2 ((HP.1 q).2.2 k _ HX.2.2));exact zR a3
   case true=>
   exact xGo
  .have zk:¬(k:Int)<(bs.length:Int):=qo
   have HB:Hid (∀(j:Nat) (x:Bk),bs[j]?=some x->yBe x.l x.cnt j):=λj x hx=>HJ.out j x (qw ((List.getElem?_eq_some_iff.1 hx).1)) hx;clear hI;go_wp2_with fail;refine(yL2 m bs.length _ HM.out HH.2.2.2 qo).mono ?_;rintro e w3 ⟨r,rfl,hr,a4⟩;have HR:Hid (r=true↔P):=by show r=true↔P;rw[hr,HP.out];exact⟨λq=>⟨p0,q,HB.out⟩,λq=>q.2.1⟩
   have kb3:=hb.trans (a4.mono sb);have a3:=hb0.trans (kb3.mono qo);clear hr k0 k1 k2 p0;go_wp2;go_ret;exact⟨_,rfl,HR.out,a3⟩
section
attribute [local go_sem] Oper.semAt_some
variable {n:Nat}
theorem yWn {F:Fence} {fn:Func} {tmps:Array Value} {R:Ending->World->Prop} {v:Value} {W:World} {D:Nat} (hm:W.heap[D]?=some (.deferred (some []))) (hr:(results fn tmps).run prog (W.putObj D (.deferred none))=.ok v (W.putObj D (.deferred none))) (h:R (.returned v) (W.putObj D (.deferred none))):LeavesInM F n prog fn tmps R [mkD D] .returning W:=
 ⟨by simp,.inl ⟨D,W.putObj D (.deferred none),rfl,run_takeDeferred hm,v,hr,h⟩⟩
theorem yK4 {F:Fence} (w:World) {ops:Array Oper} {rest:List Oper} {o:Oper} {a:Act} {Q:Exit->Act->World->Prop} (hg:o.guard=none) s x
  (ho:o.op=.call {callee:=.builtin .append,args:=#[s,x],argTypes:=#[26,26]})
  (base:Nat) (a0:Option Addr) (nn c0 b off m cx:Nat) (fs es:List Ent) (hs:a.eval s=.slice a0 nn c0) (hx:a.eval x=.slice (some ⟨b,off,none⟩) m cx) (hn:nn=fs.length) (hm:m=es.length) (hO:RowC w base (.slice a0 nn c0) fs)
  (hc:yA4 w b off es) (hlen:fs.length+es.length<=2^30) (hbase:base<=w.heap.size)
  (h:∀a' c' w',RowC w' base (.slice a' (nn+m) c') (fs++es)->w.grownBy w' (Value.slice a0 nn c0).ownBlock->wpListIn F n prog ops Q rest (a.put o.dst (.slice a' (nn+m) c')) w'):wpListIn F n prog ops Q (o::rest) a w:=by
 subst hn;subst hm;obtain⟨i,hi,a5,a4,a3⟩:=info_parts Tryz.infoCel;refine wpListIn_append_own w hg s x 26 ho base 70 i _ 5 72 underlying26 hi a5 a4 a3 rfl qj (.slice a0 fs.length c0) fs.length (yBs fs) hs hO (xd b off) es.length cx (yBs es) hx (yCi es) (λj u hu=>by rw[Addr.add_mid];exact hc.flat j u hu) (yOf es) (by unfold maxLen;omega) qo hbase ?_;intro v' w' a2 a6 a7;rw[<-yEl]at a2;have a1:(fs++es).length=fs.length+es.length:=by simp
 have hR:RowC w' base v' (fs++es):=by unfold RowC;rw[a1];exact a2
 obtain⟨a',c',rfl⟩:∃a' c',v'=.slice a' (fs.length+es.length) c':=by
  rcases hR.cases with⟨q,q2⟩|⟨g,cp,q,_⟩
  .have h9:(fs++es).length=0:=by rw[q2];rfl
   rw[a1]at h9;exact⟨none,0,by rw[h9];exact q⟩
  .exact⟨_,_,by rw[<-a1];exact q⟩
 exact h a' c' w' hR a6
variable {x:Bk}
theorem xEa {d:Md} (h:dkl d=bkl x) (hg:yBe x.l x.cnt k):vwD d=x.vw/\yBe d.l (d.nk:Int) k:=by
 simp only[Prod.mk.injEq]at h;have h0:=hg.2.2.1;have h1:(d.nk:Int)=x.cnt:=qo
 exact⟨by simp[vwD,h1,h.2],by rw[h1,h.2];exact hg⟩
variable {es:List Ent}
theorem xEl (h:yC es):∀c∈es,¬c.row=⟨#[]⟩:=λc hc q=>by
 have h9:=h.1.2 c hc
 unfold Ent.vld vE at h9
 have h8:=(of_decide_eq_true h9).1
 rw[q]at h8
 exact absurd h8 qj
variable {w:World} {bs:List Bk}
theorem xHj {w2 W3 w5:World} {m:Bk} {bc gc cc:Nat} (hgc:yCn bs m) (hgr:yC es) (hC:OwnC w bc gc cc es) (hk:∀e∈es,e.kind=0) (hT:TabD w) (hz:W3.heap.size=w2.heap.size+1) (hw2:w.heap.size+1<w2.heap.size)
  (hrv:yA W3 w 39 3 (w+1) [false,xh,xi 0]) (hrb:yA W3 w 39 3 w2 [true,xh,xi 0]) (hb:Below w w W3)
  {a:Option Addr} {n c:Nat} {d0:Md} {ds:List Md} {Ts:List Tt} {NM:Nat} (hn:n=ds.length) (hrm:RowM w5 W3 (.slice a n c) ds) (hmds:MdsA (W3+1+1+1) (W3+1+1) NM Ts (d0::ds) w5) (hdk:dkl d0=bkl m) (hdks:ds.map dkl=bs.map bkl)
  (hrt:∀q,(Value.slice a n c).ownBlock=some q->∀X∈Ts,X.t<q∨q<X.lo) (hb5:Below W3 W3 w5):
  RxP ⟨w5,W3+1+1+1,W3+1+1,NM,Ts,d0::ds,ds,a,n,c,W3⟩ d0 es gc 0 cc w2 (w+1) w w5/\vwD d0=m.vw/\ds.map vwD=bs.map Bk.vw/\n=bs.length:=by
 have a7:ds.length=bs.length:=by have:=congrArg List.length hdks;simpa using this
 have a0:n=bs.length:=qo
 have a2:∀k d,ds[k]?=some d->∃x,bs[k]?=some x/\dkl d=bkl x:=λk d hd=>by have a6:=qf hd;obtain⟨x,hx⟩:∃x,bs[k]?=some x:=qg qo;have h2:=congrArg (λl=>l[k]?) hdks;simp only[getElem?_map,hd,hx,Option.map_some,Option.some.injEq]at h2;exact⟨x,hx,h2⟩
 obtain⟨v0,g0⟩:=xEa hdk hgc.2.1;have a1:=(hmds.md d0 (by simp)).1;have a9:=(hmds.md d0 (by simp)).2;have a4:=a1.ord;have a5:=a1.mch.lt.2;have s5:=hb5.size;have a8:=hC.lt.2;have hV:=hT.lt
 have a3:PrO ⟨w5,W3+1+1+1,W3+1+1,NM,Ts,d0::ds,ds,a,n,c,W3⟩:=
  {mds:=hmds,sub:=λd hd=>mem_cons_of_mem _ hd,good:=λk d hd=>by
    obtain⟨x,hx,he⟩:=a2 k d hd
    exact(xEa he (hgc.2.2 k x hx)).2
   n:=hn,n2:=by show n<=200;rw[a0];exact hgc.1
   tbl:=by show W3.heap.size+1+1+1<=w5.heap.size;omega
   rt:=hrt}
 refine⟨{pr:=a3,d0m:=by simp,gm:=by show yBe d0.l (d0.nk:Int) n;rw[a0];exact g0,esl:=hgr.1.1,row:=xEl hgr,ord:=?_,bl:=by show gc<W3.heap.size+1+1+1;omega,le:=Nat.le_refl _,rbl:=by show w2.heap.size<W3.heap.size+1+1+1;omega,rvl:=by show w.heap.size+1<W3.heap.size+1+1+1;omega,ne:=qo,br:=qo,vt:=qo,wl:=by show w.heap.size<=W3.heap.size+1+1+1;omega,rr:=λq hq=>?_,pd:=?_,rm:=hrm,sl:=(hC.sl).below (hb.trans (hb5.mono hb.size)),res:=hrb.below hb5,rvb:=hrv.below hb5,below:=hb.trans (hb5.mono hb.size)},v0,?_,a0⟩
 .have h9:=ySp hgr;rw[<-yNr hk]at h9;exact List.pairwise_map.1 h9
 .have:=World.ownsRow.lt hrm q hq;exact⟨qo,this.2⟩
 .exact⟨xh,_,_,xEv hmds,by simp,rfl⟩
 .apply ext_getElem?;intro k;rw[getElem?_map,getElem?_map];cases hd:ds[k]? with
  |none=>rw[getElem?_eq_none (qw (List.getElem?_eq_none_iff.1 hd))];rfl
  |some d=>
   obtain⟨x,hx,he⟩:=a2 k d hd;rw[hx,Option.map_some,Option.map_some,(xEa he (hgc.2.2 k x hx)).1]
theorem zRnF (h:p:=by
 obtain⟨v0,v1,v2⟩:=HX.1.c3;obtain⟨f0,f1,f2⟩:=HX.1.f3;obtain⟨W9,hW9⟩:=qW (setCs wx (w+1) 0 [false,xh,xi 0]);have b9:yA W9 w 39 3 (w+1) [false,xh,xi 0]:=by rw[hW9];exact HX.1.setCs _
 have c9:Chg (λq=>q=w.heap.size+1) wx W9:=by rw[hW9];exact yAl (S:=λq=>q=w.heap.size+1) _ rfl _ _ _
 have HE:Hid (∃out,0=out.length/\RunM bs m es hints false out 0/\RowC W9 w xh out/\Below w w W9):=⟨[],rfl,.inl ⟨HX.2.1,rfl,rfl,rfl⟩,yGq _ _,Chg.below HX.2.2 c9 HX.2.2.size (λq z=>qo)⟩;obtain⟨q0,q1,q2⟩:=b9.c3;simp only[setCs,Nat.zero_add,Nat.reduceAdd]at hW9;clear b9 c9;gi_wp2;rw[<-hW9];exact⟨.agg #[false,xh,xi (0:Nat)],by simp[results,results10,go_sem,q0,q1,q2],false,none,0,0,0,rfl,HE.out⟩):p:=h
theorem yIg {ua:Option Addr} {ul uc:Nat} {m:Bk} (hU:yCg w (.slice ua ul uc) bs) (hok:∀x∈bs,x.ok) (hm:yAy w m.v m.l) (hmo:m.ok) {bc gc cc:Nat} (hC:OwnC w bc gc cc es) (hoe:∀e∈es,e.ok) (hk:∀e∈es,e.kind=0) (hl:es.length<=1048576) (hT:TabD w) (hints:Bool) {M:Nat} (hM:M=es.length):
  Calls prog 10 #[.agg #[.slice ua ul uc,m.v,xi m.cnt],xg gc M cc,hints] w (RunP bs m es hints w):=by
 obtain⟨va,vn,vc,a5,aM⟩:=hm.one;clear aM;have an:ul=bs.length:=by
  rcases hU with⟨_,_,q,rfl⟩|⟨_,_,_,q,_⟩
  .cases q;rfl
  .cases q;rfl
 have HM:Hid (OwnC w bc gc cc es/\M=es.length/\(∀e∈es,e.ok)/\(∀e∈es,e.kind=0)/\yCg w (.slice ua ul uc) bs/\yAy w m.v m.l/\ul=bs.length/\(∀x∈bs,x.ok)/\m.ok/\TabD w):=⟨hC,hM,hoe,hk,hU,hm,an,hok,hmo,hT⟩;obtain⟨W0,a9⟩:=qW (xw (w.alloc (Obj.cells #[.slice ua ul uc,.slice va vn vc,xi m.cnt] 34)) #[false,xh,xi 0] 39);have H0:Hid (yA W0 w 34 3 w [.slice ua ul uc,.slice va vn vc,xi m.cnt]/\yA W0 w 39 3 (w+1) [false,xh,xi 0]/\Below w w W0):=by
  obtain⟨X,hX⟩:=qW (xw w #[.slice ua ul uc,.slice va vn vc,xi m.cnt] 34);rw[<-hX]at a9;have zx:=qS hX
  have k1:=qN hX
  have k2:=qN a9
  have b1:yA X w 34 3 w [.slice ua ul uc,.slice va vn vc,xi m.cnt]:=by rw[hX];exact yAa w _ qr rfl
  have b2:yA W0 w 39 3 (w+1) [false,xh,xi 0]:=by rw[a9,<-zx];exact yAa X _ qo rfl
  exact⟨b1.below k2,b2,k1.trans (k2.mono qo)⟩
 have HF:Hid (Calls prog 14 #[.agg #[.slice ua ul uc,.slice va vn vc,xi m.cnt]] W0 (yH3 (yCn bs m) W0)):=by rw[<-a5];exact yI8 _ bs m W0 (hU.below H0.2.2) hok (hm.below H0.2.2 qr) hmo
 have HV:Hid (∀wx,Below w w wx->Calls prog 45 #[xg gc M cc] wx (yH0 (yC es) wx)):=λwx hx=>by have h9:=yLm gc cc es bc wx (hC.below hx hC.lt.2) hoe hl;rw[yNr hk]at h9;rw[hM];exact h9
 have aW:=hC.lt.2;rw[a5];have aQ:Hid (m.v=.slice va vn vc):=a5;clear hU hok hm hmo hC hoe hk a5 hM hl an hT;obtain⟨c0,c1,c2⟩:=H0.1.c3;refine(callsIn_wide (n:=20)).1 ?_;refine callsIn_of_wp_marks func10 rfl trivial ?_ rfl;simp only[ntmps10,size_toArray,length_cons,length_nil,Nat.reduceAdd,Nat.reduceSub,Array.replicate_succ,Array.replicate_zero,push_toArray,append_toArray,nil_append,cons_append];gi_wp2;rw[<-a9];clear a9;gi_wp2;refine⟨trivial,(callsIn_wide.2 HF.out).mono ?_⟩;rintro e w1 ⟨r,rfl,hr,ae⟩;have a1:Hid ((r=true↔yCn bs m)/\yA w1 w 34 3 w [.slice ua ul uc,.slice va vn vc,xi m.cnt]/\yA w1 w 39 3 (w+1) [false,xh,xi 0]/\Below w w w1):=⟨hr,H0.1.below ae,H0.2.1.below ae,H0.2.2.trans (ae.mono H0.2.2.size)⟩;clear hr ae HF c0 c1 c2 H0;cases r
 case false=>
  obtain⟨wx,a4⟩:=qW w1;have HX:Hid (yA wx w 39 3 (w+1) [false,xh,.int .i64 0]/\¬(yCn bs m/\yC es)/\Below w.heap.size w wx):=by rw[a4];exact⟨a1.2.2.1,λq=>Bool.noConfusion (a1.1.2 q.1),a1.2.2.2⟩
  rw[<-a4];clear a4 a1;gi_wp2;refine⟨trivial,?_⟩;exact zRnF
 case true=>
 have aG:Hid (Calls prog 45 #[.slice (some ⟨gc,0,none⟩) M cc] w1 (yH0 (yC es) w1)):=HV.out w1 a1.2.2.2;gi_wp2;refine⟨trivial,(callsIn_wide.2 aG.out).mono ?_⟩;rintro e w2 ⟨r2,rfl,av,hb2⟩;have a3:Hid ((r2=true↔yC es)/\yCn bs m/\yA w2 w.heap.size 34 3 w.heap.size [.slice ua ul uc,.slice va vn vc,.int .i64 m.cnt]/\yA w2 w.heap.size 39 3 (w.heap.size+1) [.bool false,.slice none 0 0,.int .i64 0]/\Below w.heap.size w w2):=⟨av,by have h9:=a1.1;simpa using h9,a1.2.1.below hb2,a1.2.2.1.below hb2,a1.2.2.2.trans (hb2.mono a1.2.2.2.size)⟩;clear av hb2 aG HV a1;cases r2
 case false=>
  obtain⟨wx,a4⟩:=qW w2;have HX:Hid (yA wx w.heap.size 39 3 (w.heap.size+1) [.bool false,.slice none 0 0,.int .i64 0]/\¬(yCn bs m/\yC es)/\Below w.heap.size w wx):=by rw[a4];exact⟨a3.2.2.2.1,λq=>Bool.noConfusion (a3.1.2 q.2),a3.2.2.2.2⟩
  rw[<-a4];clear a4 a3;exact zRnF
 case true=>
 have ac:yCn bs m:=a3.2.1;have aB:yC es:=by have h9:=a3.1;simpa using h9
 obtain⟨bI,oI,N,cI,a5,hN,hI,ah,aO⟩:∃bI oI N cI,m.v=.slice (some ⟨bI,oI,none⟩) N cI/\N=m.l.length/\yB5 w bI oI m.l/\bI<w.heap.size/\N<=cI/\cI<=maxLen:=by
  rcases HM.2.2.2.2.2.1 with⟨_,_,_,q⟩|⟨b,off,cap,q1,q2,q3,q4,q5⟩
  .have:=ac.2.1.1;rw[q]at this;simp at this
  .exact⟨b,off,_,cap,q1,rfl,q2,q3,q4,q5⟩
 obtain⟨rfl,rfl,rfl⟩:va=some ⟨bI,oI,none⟩/\vn=N/\vc=cI:=by have h9:=aQ.out;rw[a5]at h9;simp only[Value.slice.injEq]at h9;exact⟨h9.1.symm,h9.2.1.symm,h9.2.2.symm⟩
 obtain⟨W3,a8⟩:=qW (w2.alloc (Obj.cells #[.bool true,.slice none 0 0,.int .i64 0] 39));have H3:Hid (yA W3 w.heap.size 34 3 w.heap.size [.slice ua ul uc,.slice (some ⟨bI,oI,none⟩) vn vc,.int .i64 m.cnt]/\yA W3 w.heap.size 39 3 (w.heap.size+1) [.bool false,.slice none 0 0,.int .i64 0]/\yA W3 w.heap.size 39 3 w2.heap.size [.bool true,.slice none 0 0,.int .i64 0]/\Below w.heap.size w W3/\w.heap.size+1<w2.heap.size):=by
  obtain⟨_,_,h1,h2,h3⟩:=a3.out;have k5:Below w2 w2 W3:=by rw[a8];exact qB
  exact⟨h1.below k5,h2.below k5,by rw[a8];exact yAa w2 _ h3.size rfl,h3.trans (k5.mono h3.size),h2.lt.2⟩
 have aI:Hid (Calls prog 46 #[.agg #[.slice ua ul uc,.slice (some ⟨bI,oI,none⟩) vn vc,.int .i64 m.cnt]] W3 (LcP W3 bs m)):=
  yN6 ac (HM.2.2.2.2.1.below H3.2.2.2.1) HM.2.2.2.2.2.2.1 HM.2.2.2.2.2.2.2.1 HM.2.2.2.2.2.2.2.2.1 hN (hI.below H3.2.2.2.1 ah) (Nat.lt_of_lt_of_le ah H3.2.2.2.1.size) (HM.2.2.2.2.2.2.2.2.2.chg (S:=λ_=>False) (Chg.of_below H3.2.2.2.1) (λq=>q))
 obtain⟨c0,c1,c2⟩:=a3.2.2.1.c3;have HG:Hid (yCn bs m/\yC es):=⟨ac,aB⟩;have aL:w.heap.size<w2.heap.size:=qw H3.2.2.2.2
 clear ac aB a5 hN hI ah aO;gi_wp2;rw[<-a8];refine⟨trivial,(callsIn_wide.2 aI.out).mono ?_⟩;rintro e w5 ⟨a,n,c,mb,rfl,H5⟩;obtain⟨d0,ds,Ts,NM,aA,hn,ar,az,aD,aC,aq,aF⟩:=H5.out;obtain⟨hX,am,al,aw⟩:=xHj HG.1 HG.2 HM.1 HM.2.2.2.1 HM.2.2.2.2.2.2.2.2.2 (by rw[a8];simp) H3.2.2.2.2 H3.2.1 H3.2.2.1 H3.2.2.2.1 hn ar az aD aC aq aF;have aH:=ySr hX hints;have af:Hid (Calls prog 47 #[.agg #[.slice a n c,ptB mb],.slice (some ⟨gc,0,none⟩) M cc,.bool hints] w5 (MvP ⟨w5,W3.heap.size+1+1+1,W3.heap.size+1+1,NM,Ts,d0::ds,ds,a,n,c,W3.heap.size⟩ d0 es gc 0 cc w2.heap.size (w.heap.size+1) hints w)):=by rw[HM.2.1,<-aA];exact aH
 have ab:Hid (vwD d0=m.vw/\ds.map vwD=bs.map Bk.vw/\n=bs.length):=⟨am,al,aw⟩;obtain⟨G,hG⟩:=qE (⟨w5,W3.heap.size+1+1+1,W3.heap.size+1+1,NM,Ts,d0::ds,ds,a,n,c,W3.heap.size⟩:PrG);have aj:Hid (G.n=n/\G.ds=ds):=by rw[hG];exact⟨rfl,rfl⟩
 rw[<-hG]at af;obtain⟨ob,ag⟩:=qE w2.heap.size;have aX:Hid (w.heap.size+1<ob):=by rw[ag];exact H3.2.2.2.2
 rw[<-ag]at af⊢;clear hX am al aw aH aA hn ar az aD aC aq aF H5 aI c0 c1 c2 a8 hG H3 a3 aL ag;gi_wp2;refine⟨trivial,(callsIn_wide.2 af.out).mono ?_⟩;rintro e w6 ⟨f,lb,rfl,H6⟩;clear af;gi_wp2;obtain⟨pp,pc,ph,hX,hf⟩:=H6.out;clear H6;refine xBa hX rfl hf rfl (λx p told=>{tmps:=#[.agg #[.slice ua ul uc,.slice (some ⟨bI,oI,none⟩) vn vc,.int .i64 m.cnt],.slice (some ⟨gc,0,none⟩) M cc,.bool hints,.pointer (some ⟨w.heap.size,0,none⟩),undef,undef,.pointer (some ⟨w.heap.size+1,0,none⟩),.pointer (some ⟨ob,0,none⟩),.pointer (some ⟨p,0,none⟩),.bool told,.agg #[.slice ua ul uc,.slice (some ⟨bI,oI,none⟩) vn vc,.int .i64 m.cnt],.bool true,.bool false,.bool false,.slice (some ⟨gc,0,none⟩) M cc,.bool true,.bool false,.bool false,undef,.agg #[.bool true,.slice none 0 0,.int .i64 0],.agg #[.slice ua ul uc,.slice (some ⟨bI,oI,none⟩) vn vc,.int .i64 m.cnt],.agg #[.slice a n c,.pointer (some ⟨mb,0,none⟩)],.slice (some ⟨gc,0,none⟩) M cc,.bool hints,.func (Fn.func f) #[] lb,x.c,.bool told,undef,undef,undef,undef,undef,undef,undef,undef,undef,undef,undef,undef],defers:= []}) ?hassign ?hbody ?hQ;case hassign=>
  intro m l x told W K' hK;gi_wp2;exact hK
 case hbody=>
  clear hX hf;intro mm l x told p B W a n c ops out aR a0 hn aV aS a2 a7 aU hB;obtain⟨W1,a6⟩:=qW (W.setCell (xd ob 2) (.int .i64 ((ops+1:Nat):Int)));have k1:Chg (λq=>q=ob) W W1:=by rw[a6];exact Chg.of_set (S:=λq=>q=ob) W ob 2 _ rfl
  have b1:yA W1 w.heap.size 39 3 ob [.bool true,.slice a n c,.int .i64 ((ops+1:Nat):Int)]:=by rw[a6];exact a0.set 2 _
  have r1:RowC W1 B (.slice a n c) out:=a2.chg k1 (λk hk q=>yAb a2 a0 qj k hk (by rw[q];rfl));have p1:yA W1 B 70 5 p x.five:=a7.chg k1 (λq=>yAb a7 a0 qj p rfl (by rw[q];rfl));have t2:=a0.cell (j:=2) rfl;have f2:=a0.frozen 2;have zo:IntKind.i64.wrap ((ops:Int)+1)=(ops:Int)+1:=by rw[IntKind.wrap_i64];omega
  cases told
  case false=>have HE:Hid (∃a' n' c',n'=out.length/\yA W1 w.heap.size 39 3 ob [.bool true,.slice a' n' c',.int .i64 ((ops+1:Nat):Int)]/\RowC W1 B (.slice a' n' c') out/\Chg (λq=>q=ob∨(B<=q/\ObT 70 W q)) W W1):=⟨a,n,c,hn,b1,r1,k1.mono (λq z=>.inl z)⟩;simp only[Int.natCast_add,Int.cast_ofNat_Int]at a6;clear a0 a2 a7 b1 r1 p1 k1;gi_wp2;rw[<-a6];obtain⟨a',n',c',z1,z⟩:=HE.out;subst z1;exact⟨a',c',z⟩
  case true=>
   subst hn;have aN:¬p=ob:=λq=>yAb a7 a0 (by decide) p rfl (by rw[q];rfl);have aT:¬ob=p:=λq=>aN q.symm;obtain⟨A,hA⟩:=qW (xw W1 #[x.row,x.fam,x.qual,xu x.ts,x.val] 70);have aK:W1.heap.size=W.heap.size:=by rw[a6];simp
   have HA:Hid (RowC A B (.slice a out.length c) out/\yA4 A W 0 [x]/\B<=A.heap.size/\yA A w 39 3 ob [true,.slice a out.length c,xi (ops+1:Nat)]/\Chg (λq=>q=ob) W A):=by
    have kA:=qN hA
    have bx:yA A B 70 5 W1 x.five:=by rw[hA];exact yAa W1 _ (by omega) rfl
    rw[aK]at bx;refine⟨r1.below kA,λi e he=>?_,qw kA.size,b1.below kA,k1.trans (Chg.of_below kA)⟩;have hi:i=0:=by have:=qf he;simp at this;exact this
    subst hi;simp at he;subst he;exact⟨bx.cell (j:=0) rfl,bx.cell (j:=1) rfl,bx.cell (j:=2) rfl,bx.cell (j:=3) rfl,bx.cell (j:=4) rfl⟩
   have HF:Hid (∀a' c' A',RowC A' B (.slice a' (out.length+1) c') (out++ [x])->A.grownBy A' (Value.slice a out.length c).ownBlock->xk A' ob 1 (.slice a out.length c)/\A'.frozen? (xd ob 1)=false/\yA (xt A' ob 1 (.slice a' (out.length+1) c')) w 39 3 ob [true,.slice a' (out.length+1) c',xi (ops+1:Nat)]/\RowC (xt A' ob 1 (.slice a' (out.length+1) c')) B (.slice a' (out.length+1) c') (out++ [x])/\Chg (λq=>q=ob∨(B<=q/\ObT 70 W q)) W (xt A' ob 1 (.slice a' (out.length+1) c'))):=λa' c' A' aa ad=>by have cA:Chg (λq=>(Value.slice a out.length c).ownBlock=some q) A A':=Chg.of_grown ad (λk q=>q);have bA:=HA.2.2.2.1.chg cA (λq=>yAb HA.1 HA.2.2.2.1 (by decide) ob q rfl);have cB:Chg (λq=>q=ob) A' (xt A' ob 1 (.slice a' (out.length+1) c')):=Chg.of_set (S:=λq=>q=ob) A' ob 1 _ rfl;refine⟨bA.cell (j:=1) rfl,bA.frozen 1,bA.set 1 _,aa.chg cB (λk hk q=>yAb aa bA (by decide) k hk (by rw[q];rfl)),?_⟩;have c1:Chg (λq=>q=ob∨(B<=q/\ObT 70 W q)) W A:=HA.2.2.2.2.mono (λq z=>.inl z);have c2:Chg (λq=>q=ob∨(B<=q/\ObT 70 W q)) W A':=c1.absorb cA (λq z=>.inl (.inr ⟨(a2.blk z).1,yAk a2 z⟩));exact c2.absorb cB (λq z=>.inl (.inl z))
   have t1:=a0.cell (j:=1) rfl;obtain⟨y0,y1,y2,y3,y4⟩:=a7.c5;simp only[Int.natCast_add,Int.cast_ofNat_Int]at a6;clear a0 a2 a7 b1 r1 p1 k1;gi_wp2_with (gi_at_builtin;rw[<-a6,<-hA];refine yK4 A rfl _ _ rfl B a out.length c _ 0 1 1 out [x] rfl rfl rfl rfl HA.1 HA.2.1 (by simp;omega) HA.2.2.1 ?_;intro a' c' A' aa ad;obtain⟨z1,z2,z3,z4,z5⟩:=HF.out a' c' A' aa ad;have HZ:Hid (_/\_/\_):=⟨z3,z4,z5⟩;clear z3 z4 z5 aa ad);exact⟨a',c',HZ.out⟩
 case hQ=>
  intro out ops W a' n' c' ax au a0 ao a2 aE ay;have HQ:Hid (RunM bs m es hints true out ops/\n'=out.length/\yA W w 39 3 ob [true,.slice a' n' c',xi ops]/\yA W w 39 3 (w+1) [false,xh,xi 0]/\RowC W w (.slice a' n' c') out/\Below w w W/\W.heap[w6.heap.size]?=some (.deferred (some []))/\w.heap.size+1<w6.heap.size):=by
   have s6:=hX.below.size;refine⟨.inr ⟨HG.out,rfl,?_⟩,ax,a0,ao,⟨a2.1,?_⟩,aE,ay,hX.rvb.lt.2⟩
   .have ak:=ab.1;simp only[Prod.mk.injEq]at ak;rcases au with⟨h1,h2,h3⟩|⟨h1,h2⟩
    .rw[aj.2,ab.2.1,ab.1]at h2;rw[aj.1,ab.2.2]at h1;exact .inl ⟨λq=>h1 (by rw[q];rfl),h2,h3⟩
    .rw[aj.1,ab.2.2]at h1;refine .inr ⟨length_eq_zero_iff.1 h1,?_⟩;rw[<-ak.2,show m.cnt.toNat=d0.nk by omega];exact h2
   .rcases a2.2 with z|⟨g',aP,cur,hv,aJ,rest⟩
    .exact .inl z
    .exact .inr ⟨g',aP,cur,hv,Nat.le_trans s6 aJ,rest⟩
  clear hX hf ax au a0 ao a2 aE ay;obtain⟨W9,hW9⟩:=qW (setCs W (w+1) 0 [true,.slice a' n' c',xi ops]);have b9:yA W9 w 39 3 (w+1) [true,.slice a' n' c',xi ops]:=by rw[hW9];exact HQ.2.2.2.1.setCs _
  have c9:Chg (λq=>q=w.heap.size+1) W W9:=by rw[hW9];exact yAl (S:=λq=>q=w.heap.size+1) _ rfl _ _ _
  have m9:W9.heap[w6.heap.size]?=some (.deferred (some [])):=by rw[c9.block _ (Array.getElem?_eq_some_iff.1 HQ.2.2.2.2.2.2.1).1 (λq=>qw HQ.2.2.2.2.2.2.2)];exact HQ.2.2.2.2.2.2.1
  obtain⟨WX,ai⟩:=qW (W9.putObj w6 (.deferred none));have cX:Chg (λq=>q=w6.heap.size) W9 WX:=by rw[ai];exact yAt _ _ _
  have bX:=b9.chg cX (λq=>qw HQ.2.2.2.2.2.2.2);have HE:Hid (RunP bs m es hints w (.returned (.agg #[true,.slice a' n' c',xi ops])) WX/\W9.heap[w6.heap.size]?=some (.deferred (some []))):=by obtain⟨h1,h2,h3,h4,h5,h6,h7,h8⟩:=HQ.out;have k1:=Chg.below h6 c9 h6.size (λq z=>qo);have k2:=Chg.below k1 cX k1.size (λq z=>qo);have r9:=h5.chg c9 (λk hk q=>yAb h5 h4 qj k hk (by rw[q];rfl));have rX:=r9.chg cX (λk hk q=>yBb m9 rfl (by rw[<-q];exact yAk r9 hk));exact⟨⟨true,a',n',c',ops,rfl,⟨out,h2,h1,rX,k2⟩⟩,m9⟩
  obtain⟨q0,q1,q2⟩:=bX.c3;obtain⟨v0,v1,v2⟩:=HQ.2.2.1.c3;obtain⟨u0,u1,u2⟩:=HQ.2.2.2.1.c3;obtain⟨f0,f1,f2⟩:=HQ.2.2.2.1.f3;simp only[setCs,Nat.zero_add,Nat.reduceAdd]at hW9;clear b9 c9 m9 cX bX;gi_wp2;rw[<-hW9];refine yWn HE.2 (v:=.agg #[true,.slice a' n' c',xi ops]) ?_ ?_
  .rw[<-ai];simp[results,results10,go_sem,q0,q1,q2]
  .rw[<-ai];exact HE.1
end
theorem yEe (W0:World) (a:Int) w (hb:Below W0 W0 w) (h0:0<a) (h1:a<=2^40):
  Calls prog 69 #[xi a] w λe w'=>e=.returned (yAx a.toNat)/\Below W0 W0 w':=by
 refine(yBv a w h0 h1).mono ?_;rintro e w' ⟨he,a0⟩;exact⟨he,hb.trans (a0.mono hb.size)⟩
def mCel (k:Int):Ent:=⟨yAx k.toNat,yAx (k+1).toNat,yAx (k+1+1).toNat,k+1+1+1,0,yAx (k+1+1+1+1).toNat⟩
def yEd (k:Int) (es:List Ent) (i:Nat):Prop:=∀j:Nat,j<i->(es[j]?.map Ent.five)=some (mCel (k+j*5)).five
variable {m:Nat}
theorem ySv {k:Int} {fs:List Ent} {e:Ent} (h:yEd k fs m) (hm:m<fs.length) (he:e.five=(mCel (k+m*5)).five):yEd k (fs.set m e) (m+1):=by
 intro j hj;by_cases e1:j=m
 .subst e1;simp[hm];simpa using he
 .rw[getElem?_set_ne qo];exact h j qo
theorem yF7 (base g cap:Nat) (es:List Ent) (k:Int) (w:World) (hO:OwnC w base g cap es) (h0:0<k) (h1:k<=2^30) (hn:es.length<=1048576):
  Calls prog 25 #[xg g es.length cap,xi k] w λe w'=>
   ∃fs,e=.returned (xi (k+es.length*5))/\OwnC w' base g cap fs/\fs.length=es.length/\yEd k fs es.length/\w.grownBy w' (some g):=by
 have HO:=qH1 hO;clear hO;go_enter func25,ntmps25;go_wp2;go_loopw[1,5] (λc i wr=>∃(m:Nat) (a:Int) (fs:List Ent),m<=es.length/\i=(xi m)/\c=(xi a)/\a=k+m*5/\OwnC wr base g cap fs/\fs.length=es.length/\yEd k fs m/\w.grownBy wr (some g)) (λ_ i _=>es.length-(intOf i).toNat);case atStart=>exact⟨0,k,es,zero_le _,rfl,rfl,by simp,HO.out,rfl,λj hj=>qo,yAu (Below.refl _ _) _⟩
 case round=>
  obtain⟨m,a,fs,hm,rfl,rfl,ha,hO,a8,a6,a7⟩:=hrel;have HR:=qH4 ha hO a8 a6;have ab:0<a:=qo
  have aa:a<=2^31:=qo
  have HG:=qH1 a7;clear hO a8 a6 ha a7;by_cases hlt:m<es.length
  .obtain⟨f,hf⟩:∃f,fs[m]?=some f:=qg (by rw[HR.2.2.1];exact hlt);have HF:=qH2 hf (by rw[HR.2.2.1];exact hlt:m<fs.length);clear hf;go_wp2_with fail;refine(yBv a _ qo qo).mono ?_;rintro e w1 ⟨rfl,a5⟩;have a2:=HR.2.1.below a5 HR.2.1.lt.2;have c1:=(a2.at m f HF.1).1;simp only[Nat.zero_add]at c1;have z1:=λj=>World.ownsRow.frozenAt a2 j;have a9:=a2.set m 0 f {f with row:=yAx a.toNat} (yAx a.toNat) HF.1 qo rfl;have H1:Hid (OwnC (xt w1 g (m*5) (yAx a.toNat)) base g cap (fs.set m {f with row:=yAx a.toNat})/\w.grownBy (xt w1 g (m*5) (yAx a.toNat)) (some g)):=⟨a9,(HG.trans (yAu a5 _)).trans (yAv _ _ _ _)⟩;clear a2 a9 a5;go_wp2_with fail;refine(yBv (a+1) _ qo qo).mono ?_;rintro e w2 ⟨rfl,hb2⟩;have hO2:=H1.1.below hb2 H1.1.lt.2;have c2:=(hO2.at m _ (by simp[HF.2];rfl)).2.1;simp only[Nat.zero_add]at c2;have z2:=λj=>World.ownsRow.frozenAt hO2 j
   have H2:Hid (OwnC (xt w2 g (m*5+1) (yAx (a+1).toNat)) base g cap (fs.set m {f with row:=yAx a.toNat,fam:=yAx (a+1).toNat})/\w.grownBy (xt w2 g (m*5+1) (yAx (a+1).toNat)) (some g)):=
    ⟨hO2.upd HF.2 qo rfl,(H1.2.trans (yAu hb2 _)).trans (yAv _ _ _ _)⟩
   clear hO2 hb2 c1 z1;go_wp2_with fail;refine(yBv (a+1+1) _ qo qo).mono ?_;rintro e w3 ⟨rfl,a4⟩;have a0:=H2.1.below a4 H2.1.lt.2;obtain⟨_,_,c3,c4,_⟩:=a0.at m _ (by simp[HF.2];rfl);simp only[Nat.zero_add]at c3 c4;have z3:=λj=>World.ownsRow.frozenAt a0 j;have H3:=qH2 a0 (H2.2.trans (yAu a4 _));clear a0 a4 c2 z2;go_wp2_with fail;refine(yBv (a+1+1+1+1) _ qo qo).mono ?_;rintro e w4 ⟨rfl,a3⟩
   have a0:=(H3.1.upd (j:=2) (u:=(yAx (a+1+1).toNat)) (f':={f with row:=yAx a.toNat,fam:=yAx (a+1).toNat,qual:=yAx (a+1+1).toNat}) HF.2 qo rfl).upd (j:=3) (u:=(xu (a+1+1+1)))
    (f':={f with row:=yAx a.toNat,fam:=yAx (a+1).toNat,qual:=yAx (a+1+1).toNat,ts:=a+1+1+1}) HF.2 qo rfl
   have a1:=a0.below a3 a0.lt.2;have c6:=(a1.at m _ (by simp[HF.2];rfl)).2.2.2.2;simp only[Nat.zero_add]at c6;have z4:=λj=>World.ownsRow.frozenAt a1 j
   have H4:Hid (OwnC (xt w4 g (m*5+4) (yAx (a+1+1+1+1).toNat)) base g cap (fs.set m (mCel a))/\w.grownBy (xt w4 g (m*5+4) (yAx (a+1+1+1+1).toNat)) (some g)):=
    ⟨a1.upd HF.2 qo rfl,(((((H3.2.trans (yAv _ _ _ _)).trans (yAv _ _ _ _))).trans (yAu a3 _)).trans (yAv _ _ _ _))⟩
   have HE:=qH1 HR.1;clear a0 a1 a3 c3 c4 z3;go_wp2_with fail;refine⟨⟨m+1,a+1+1+1+1+1,fs.set m (mCel a),qo,by go_num,rfl,?_,H4.1,by rw[length_set];exact HR.2.2.1,?_,H4.2⟩,?_⟩
   .go_light;have:=HE.out;omega
   .go_light;exact ySv HR.2.2.2 HF.2 (by rw[<-HE.out])
   .go_light;simp[intOf];omega
  .exact xC0
theorem yLp (b off cap:Nat) (es:List Ent) (k:Int) (w:World) (hE:yA4 w b off es) (hmk:yEd k es es.length) (hB:b<w.heap.size) (h0:0<k) (h1:k<=2^30) (hn:es.length<=1048576):
  Calls prog 70 #[.slice (some ⟨b,off,none⟩) es.length cap,xi k] w λe w'=>
   e=.returned (xi (k+es.length*5))/\Below w w w':=by
 have HE:=qH2 hE hmk;clear hE hmk;go_enter func70,ntmps70;go_wp2;go_loopw[1,5] (λc i wr=>∃(m:Nat) (a:Int),m<=es.length/\i=(xi m)/\c=(xi a)/\a=k+m*5/\Below w w wr) (λ_ i _=>es.length-(intOf i).toNat);case atStart=>exact⟨0,k,zero_le _,rfl,rfl,by simp,Below.refl _ _⟩
 case round=>
  obtain⟨m,a,hm,rfl,rfl,ha,hb⟩:=hrel;have a3:0<a:=qo
  have a2:a<=2^31:=qo
  have HA:=qH1 ha;clear ha;have hs:=hb.size;by_cases hlt:m<es.length
  .obtain⟨f,he⟩:∃f,es[m]?=some f:=qg hlt;have hf:f.five=(mCel a).five:=by have h:=HE.2 m hlt;rw[he,<-HA.out]at h;simpa using h
   simp only[Ent.five,List.cons.injEq,Value.string.injEq,Value.int.injEq,and_true,true_and]at hf;obtain⟨f1,f2,f3,f4,f5⟩:=hf;have HM:=qH1 he;clear he;have z2:(m:Int)<(es.length:Int):=qo
   have a1:∀wx,Below w w wx->xk wx b (off+m*5) (yAx a.toNat)/\xk wx b (off+m*5+1) (yAx (a+1).toNat)/\xk wx b (off+m*5+2) (yAx (a+1+1).toNat)/\
     xk wx b (off+m*5+3) (xu (a+1+1+1))/\xk wx b (off+m*5+4) (yAx (a+1+1+1+1).toNat):=by
    intro wx hx;have h:=(HE.1.below hx hB) m _ HM.out;rw[f1,f2,f3,f4,f5]at h;exact h
   have HC:Hid (∀wx,Below w w wx->xk wx b (off+m*5) (yAx a.toNat)/\xk wx b (off+m*5+1) (yAx (a+1).toNat)/\xk wx b (off+m*5+2) (yAx (a+1+1).toNat)/\
     xk wx b (off+m*5+3) (xu (a+1+1+1))/\xk wx b (off+m*5+4) (yAx (a+1+1+1+1).toNat)):=a1
   clear f1 f2 f3 f4 f5;clear a1;have c1:=(HC.out wr hb).1;go_upto_region 4 with fail;go_cut[19] (λs wx=>s=false/\Below w w wx);case first=>
    go_region_with (go_at_call 69;refine(yEe w _ _ ?hB qo qo).mono ?_;(case hB=>(repeat (first|assumption|refine Below.drew ?_)));rintro e' w' ⟨rfl,a0⟩;have cx:=(HC.out w' a0).1);all_goals go_wp2_with fail
    all_goals go_meet
    all_goals exact⟨rfl,by assumption⟩
   case rest=>
   obtain⟨rfl,h2⟩:=hcut;clear c1;obtain⟨wa,rfl⟩:=qW wc;have c2:=(HC.out wa h2).2.1;go_upto_region 7 with fail;go_cut[29] (λs wx=>s=false/\Below w w wx);case first=>
    go_region_with (go_at_call 69;refine(yEe w _ _ ?hB qo qo).mono ?_;(case hB=>(repeat (first|assumption|refine Below.drew ?_)));rintro e' w' ⟨rfl,a0⟩;have cx:=(HC.out w' a0).2.1);all_goals go_wp2_with fail
    all_goals go_meet
    all_goals exact⟨rfl,by assumption⟩
   case rest=>
   obtain⟨rfl,h3⟩:=hcut;clear c2;obtain⟨wb,rfl⟩:=qW wc;have c3:=(HC.out wb h3).2.2.1;go_upto_region 10 with fail;go_cut[39] (λs wx=>s=false/\Below w w wx);case first=>
    go_region_with (go_at_call 69;refine(yEe w _ _ ?hB qo qo).mono ?_;(case hB=>(repeat (first|assumption|refine Below.drew ?_)));rintro e' w' ⟨rfl,a0⟩;have cx:=(HC.out w' a0).2.2.1);all_goals go_wp2_with fail
    all_goals go_meet
    all_goals exact⟨rfl,by assumption⟩
   case rest=>
   obtain⟨rfl,h4⟩:=hcut;clear c3;obtain⟨wd,rfl⟩:=qW wc;have c4:=(HC.out wd h4).2.2.2.1;have c5:=(HC.out wd h4).2.2.2.2;go_upto_region 16 with fail;go_cut[59] (λs wx=>s=false/\Below w w wx);case first=>
    go_region_with (go_at_call 69;refine(yEe w _ _ ?hB qo qo).mono ?_;(case hB=>(repeat (first|assumption|refine Below.drew ?_)));rintro e' w' ⟨rfl,a0⟩;have cx:=(HC.out w' a0).2.2.2.2);all_goals go_wp2_with fail
    all_goals go_meet
    all_goals exact⟨rfl,by assumption⟩
   case rest=>
   obtain⟨rfl,h5⟩:=hcut;clear c4 c5;go_wp2_with fail;refine⟨⟨m+1,a+1+1+1+1+1,qo,by go_num,rfl,?_,h5⟩,?_⟩
   .go_light;have:=HA.out;omega
   .go_light;simp[intOf];omega
  .go_wp2;go_ret;have e1:m=es.length:=qo
   refine⟨?_,hb⟩;rw[HA.out,e1];rfl
variable {w:World} {base base' cap:Nat}
theorem OwnX.mono {g:Nat} {es:List Ix} (h:OwnX w base g cap es) (hb:base'<=base):OwnX w base' g cap es:=by exact yO0
theorem yH7 (x:Bk) (w:World) (h:yAy w x.v x.l) (h1:x.l.length<=1048576):
  Calls prog 62 #[x.val] w λe w'=>
   ∃g,e=.returned (.agg #[.slice (some ⟨g,0,none⟩) x.l.length x.l.length,.int .i64 x.cnt])/\OwnX w' w.heap.size g x.l.length x.l/\Below w.heap.size w w':=by
 have HE:=qH1 h;have hu:=h.cells;obtain⟨v,cnt,l⟩:=x;simp only at hu h1;clear h;go_enter func62,ntmps62;go_wp2_with fail;refine(yVt v l _ (HE.below (((qB).alloc (by simp) _).alloc (by simp;omega) _) qr) h1).mono ?_;rintro e w1 ⟨g,rfl,hO,a0⟩;obtain⟨a1,a2⟩:=yOw a0;have k1:=((((Below.refl _ _).alloc qr (Obj.cells #[v,xi cnt] 49)).alloc (by simp) (Obj.cells #[xh,xi 0] 32)).alloc (by simp;omega) (Obj.cells #[xh,xi 0] 32)).trans (a0.mono (by simp;omega));have HO:Hid (OwnX w1 (w+1+1+1) g l.length l):=by show OwnX w1 (w+1+1+1) g l.length l;simpa using hO
 clear hO;go_wp2;refine bodyPost_ret (v:=.agg #[xg g l.length l.length,xi cnt]) (by simp[results,results62,go_sem,a1]) rfl ⟨g,rfl,?_,?_⟩
 .exact OwnX.mono (ownsRow_setCell_below (ownsRow_setCell_below (ownsRow_setCell_below (ownsRow_setCell_below HO.out (by show w.heap.size+1+1<_;omega) _) (by show w.heap.size+1+1<_;omega) _) (by show w.heap.size+1<_;omega) _) (by show w.heap.size+1<_;omega) _) qo
 .exact(((k1.setCell (by show w.heap.size<=w.heap.size+1+1;omega) _).setCell (by show w.heap.size<=w.heap.size+1+1;omega) _).setCell (by show w.heap.size<=w.heap.size+1;omega) _).setCell (by show w.heap.size<=w.heap.size+1;omega) _
def yFf (bs:List Bk):List Value:=bs.flatMap Bk.two
theorem yDi (e:Bk) es:yFf (e::es)=e.two++yFf es:=by simp[yFf]
theorem yO (es:List Bk):(yFf es).length=es.length*2:=by
 induction es with
 |nil=>rfl
 |cons e es ih=>rw[yDi,length_append,ih];simp;omega
theorem yMv es:∀(k:Nat) (e:Bk),es[k]?=some e->∀j,j<2->(yFf es)[k*2+j]?=e.two[j]?:=by
 induction es with
 |nil=>intro k e h;simp at h
 |cons f es ih=>
  intro k e h j hj;rw[yDi];cases k with
  |zero=>
   simp at h;subst h;rw[getElem?_append_left (by show 0*2+j<2;omega)];simp
  |succ k=>
   simp at h;rw[getElem?_append_right (by show 2<=(k+1)*2+j;omega)];have:(k+1)*2+j-f.two.length=k*2+j:=by show(k+1)*2+j-2=_;omega
   rw[this];exact ih k e h j hj
theorem yHx (es:List Bk):∀(k:Nat) (e e':Bk) (u:Value) (j:Nat),es[k]?=some e->j<2->e'.two=e.two.set j u->(yFf es).set (k*2+j) u=yFf (es.set k e'):=by
 induction es with
 |nil=>intro k e e' u j h;simp at h
 |cons f es ih=>
  intro k e e' u j h hj hc;rw[yDi];cases k with
  |zero=>
   simp at h;subst h;rw[set_append_left _ _ (by show 0*2+j<2;omega),set_cons_zero,yDi,hc];simp
  |succ k=>
   simp at h;rw[set_append_right _ _ (by show 2<=(k+1)*2+j;omega),set_cons_succ,yDi];have:(k+1)*2+j-f.two.length=k*2+j:=by show(k+1)*2+j-2=_;omega
   rw[this,ih k e e' u j h hj hc]
def yG8 (w:World) (base g:Nat) (bs:List Bk):Prop:=w.ownsRow base 32 2 (xg g bs.length bs.length) bs.length (yFf bs)
variable {bs:List Bk} {i:Nat} {x:Bk}
theorem yG8.cell {g:Nat} (h:yG8 w base g bs) (hx:bs[i]?=some x):xk w g (i*2) x.v/\xk w g (i*2+1) (xi x.cnt):=by exact xGi
theorem yG8.lt {g:Nat} (h:yG8 w base g bs):base<=g/\g<w.heap.size:=World.ownsRow.lt h g rfl
variable {w':World}
theorem yG8.below {g:Nat} (h:yG8 w base g bs) (hb:Below w w w'):yG8 w' base g bs:=yAh (S:=λ_=>False) h (Chg.of_below hb) (λk _ q=>q)
theorem yG8.put {g:Nat} (h:yG8 w base g bs) (k:Nat) (f e:Bk) (hk:bs[k]?=some f):
  yG8 (xt (w.setCell (xd g (k*2)) e.v) g (k*2+1) (xi e.cnt)) base g (bs.set k e):=by
 have a0:=qf hk;have h1:=(World.ownsRow.stored h (k*2+0) e.v).1;rw[yHx bs k f ⟨e.v,f.cnt,f.l⟩ e.v 0 hk qo rfl]at h1;have h2:=(World.ownsRow.stored h1 (k*2+1) (xi e.cnt)).1;rw[yHx (bs.set k ⟨e.v,f.cnt,f.l⟩) k ⟨e.v,f.cnt,f.l⟩ e (xi e.cnt) 1 (by simp[a0]) qo rfl,set_set]at h2;unfold yG8;rw[length_set];exact h2
def yXp:Bk:=⟨xh,0,[]⟩
theorem Tryz.infoB:(prog.info? 32).map (λi=>(i.zero,i.size,i.bytes))=some (some (.agg #[xh,xi 0]),2,32):=qk
theorem yMe (n:Nat):(madeCells #[xh,xi 0] (n*2)).toList=yFf (List.replicate n yXp):=by
 apply ext_getElem?;intro j;by_cases hj:j<n*2
 .have h:=yMv (List.replicate n yXp) (j/2) yXp (by rw[getElem?_replicate,if_pos (by omega)]) (j%2) (mod_lt _ (by omega));rw[show j/2*2+j%2=j by omega]at h;rw[h];have h6:j%2<2:=mod_lt _ qo;simp[madeCells,hj];generalize j%2=m at*;match m,h6 with
  |0,_=>rfl
  |1,_=>rfl
 .have h1:(yFf (List.replicate n yXp)).length<=j:=by rw[yO,length_replicate];omega
  rw[getElem?_eq_none h1];simp[madeCells,hj]
def RowX (w:World) (base:Nat) (v:Value) (X:List Ix):Prop:=w.ownsRow base 153 11 v X.length (cellsX X)
variable {X:List Ix}
theorem RowX.cases {v:Value} (h:RowX w base v X):(v=xh/\X= [])∨∃g cp,v=(xg g X.length cp)/\OwnX w base g cp X:=by
 rcases h.2 with⟨h0,h1⟩|⟨g',a0,cur,hv,rest⟩
 .refine .inl ⟨h0,?_⟩;have:X.length=0:=h1;exact length_eq_zero_iff.1 this
 .subst hv;exact .inr ⟨g',a0,rfl,h⟩
theorem RowX.in {v:Value} (h:RowX w base v X):yAy w v X:=by
 rcases h.cases with⟨rfl,rfl⟩|⟨g,cp,rfl,hO⟩
 .exact .inl ⟨none,0,rfl,rfl⟩
 .exact yAy.own hO rfl
theorem RowX.chg {S:Nat->Prop} {v:Value} (h:RowX w base v X) (hc:Chg S w w') (hn:∀k,v.ownBlock=some k->¬S k):RowX w' base v X:=yAh h hc hn
theorem RowX.below {v:Value} (h:RowX w base v X) (hb:Below w w w'):RowX w' base v X:=h.chg (S:=λ_=>False) (Chg.of_below hb) (λ_ _ q=>q)
theorem RowX.low {v:Value} {es:List Ix} (h:RowX w base v es) (hb:base'<=base):RowX w base' v es:=by exact yO0
theorem xA9 (w:World) (base:Nat):RowX w base xh []:=⟨rfl,.inl ⟨rfl,rfl⟩⟩
theorem RowX.blk {v:Value} (h:RowX w base v X) (hk:v.ownBlock=some k):base<=k/\k<w.heap.size:=by exact xCt
theorem RowX.slice {v:Value} (h:RowX w base v X):∃a c,v=.slice a X.length c:=by
 rcases h.cases with⟨rfl,rfl⟩|⟨g,cp,rfl,hO⟩
 .exact⟨_,_,rfl⟩
 .exact⟨_,_,rfl⟩
def RowB (w:World) (base:Nat) (v:Value) (bs:List Bk):Prop:=w.ownsRow base 32 2 v bs.length (yFf bs)
variable {X:List Bk}
theorem RowB.chg {S:Nat->Prop} {v:Value} (h:RowB w base v X) (hc:Chg S w w') (hn:∀k,v.ownBlock=some k->¬S k):RowB w' base v X:=yAh h hc hn
theorem RowB.below {v:Value} (h:RowB w base v X) (hb:Below w w w'):RowB w' base v X:=h.chg (S:=λ_=>False) (Chg.of_below hb) (λ_ _ q=>q)
theorem RowB.low {v:Value} {es:List Bk} (h:RowB w base v es) (hb:base'<=base):RowB w base' v es:=by exact yO0
theorem xB (w:World) (base:Nat):RowB w base xh []:=⟨rfl,.inl ⟨rfl,rfl⟩⟩
theorem RowB.cases {v:Value} (h:RowB w base v X):(v=xh/\X= [])∨∃g cp,v=(xg g X.length cp)/\base<=g/\g<w.heap.size/\X.length<=cp/\cp<=maxLen:=by
 have h':=h;rcases h.2 with⟨h0,h1⟩|⟨g',a1,cur,hv,_,_,hn,a0,_,_⟩
 .refine .inl ⟨h0,?_⟩;have:X.length=0:=h1;exact length_eq_zero_iff.1 this
 .subst hv;exact .inr ⟨g',a1,rfl,(World.ownsRow.lt h' g' rfl).1,(World.ownsRow.lt h' g' rfl).2,hn,a0⟩
theorem RowB.slice {v:Value} (h:RowB w base v X):∃a c,v=.slice a X.length c:=by
 rcases h.cases with⟨rfl,rfl⟩|⟨g,cp,rfl,hO⟩
 .exact⟨_,_,rfl⟩
 .exact⟨_,_,rfl⟩
theorem RowB.blk {v:Value} (h:RowB w base v X) (hk:v.ownBlock=some k):base<=k/\k<w.heap.size:=by
 rcases h.cases with⟨rfl,rfl⟩|⟨g,cp,rfl,h1,h2,_⟩
 .simp[Value.ownBlock]at hk
 .simp[Value.ownBlock]at hk;subst hk;exact⟨h1,h2⟩
theorem RowB.cell {g cp:Nat} (h:RowB w base (xg g bs.length cp) bs) (hx:bs[i]?=some x):xk w g (i*2) x.v/\xk w g (i*2+1) (xi x.cnt):=by exact xGi
def Eac (w:World) (base:Nat) (bs:List Bk):Prop:=∀x∈bs,RowX w base x.v x.l
theorem Eac.below (h:Eac w base bs) (hb:Below w w w'):Eac w' base bs:=λx hx=>(h x hx).below hb
theorem Eac.low (h:Eac w base bs) (hb:base'<=base):Eac w base' bs:=λx hx=>(h x hx).low hb
variable {u:Value}
theorem yE6 {v:Value} {X:List Ix} (h:RowX w base v X) (h':RowB w base' u bs):∀k,v.ownBlock=some k->u.ownBlock≠some k:=yAb h h' qj
def pwV (vs:List Value):Prop:=vs.Pairwise (λa b=>a.ownBlock≠b.ownBlock)
theorem xHp {vs:List Value} (h:pwV vs) {a b:Value} (hij:i≠j) (ha:vs[i]?=some a) (hb:vs[j]?=some b):a.ownBlock≠b.ownBlock:=by
 obtain⟨hi,ha⟩:=List.getElem?_eq_some_iff.1 ha;obtain⟨hj,hb⟩:=List.getElem?_eq_some_iff.1 hb;subst ha hb;rcases Nat.lt_or_gt_of_ne hij with q|q
 .exact List.pairwise_iff_getElem.1 h i j hi hj q
 .exact λe=>List.pairwise_iff_getElem.1 h j i hj hi q e.symm
variable {cv:Value}
theorem RowB.inB (hr:RowB w base cv bs) (he:Eac w base bs):yCg w cv bs:=by
 rcases hr.cases with⟨rfl,rfl⟩|⟨g,cp,rfl,_,h2,h3,h4⟩
 .exact .inl ⟨_,_,rfl,rfl⟩
 .refine .inr ⟨g,0,cp,rfl,λi x hx=>?_,h2,h3,h4⟩;have:=hr.cell hx;rw[Nat.zero_add];exact⟨this.1,this.2,(he x (mem_of_getElem? hx)).in⟩
structure CopB (G:Nat) (bs:List Bk) (k:Nat) (fs:List Bk) (wr:World):Prop where
 len:fs.length=bs.length
 vw:(fs.take k).map Bk.vw=(bs.take k).map Bk.vw
 own:yG8 wr G G fs
 ins:∀i x,i<k->fs[i]?=some x->RowX wr (G+1) x.v x.l
 pw:∀i j x y,i<j->j<k->fs[i]?=some x->fs[j]?=some y->x.v.ownBlock≠y.v.ownBlock
def xAk (base:Nat) (w:World) (v:Value) (fs:List Bk):Prop:=(∀(S:Nat->Prop) (wx:World),Chg S w wx->(∀k,S k->k<base)->RowB wx base v fs/\Eac wx base fs)/\pwV (fs.map Bk.v)
theorem CopB.in {G:Nat} {fs:List Bk} {wr:World} (h:CopB G bs bs.length fs wr):xAk G wr (xg G bs.length bs.length) fs/\fs.map Bk.vw=bs.map Bk.vw:=by
 have hv:=h.vw;have a0:=h.len;rw[take_of_length_le qo,take_of_length_le qo]at hv;refine⟨⟨λS wx hc hS=>⟨?_,λx hx=>?_⟩,?_⟩,hv⟩
 .have ho:RowB wr G (xg G bs.length bs.length) fs:=by have:=h.own;unfold yG8 at this;rw[a0]at this;unfold RowB;rw[a0];exact this
  exact ho.chg hc (λk hk q=>qv ((ho.blk hk).1) (hS k q))
 .obtain⟨i,hi⟩:=getElem?_of_mem hx;have hR:=h.ins i x (qw (qf hi)) hi;exact(hR.chg hc (λk hk q=>qv ((hR.blk hk).1) (hS k q))).low qo
 .refine List.pairwise_iff_getElem.2 (λi j hi hj hij=>?_);rw[length_map]at hi hj;rw[getElem_map,getElem_map];exact h.pw i j fs[i] fs[j] hij qo (getElem?_eq_getElem hi) (getElem?_eq_getElem hj)
theorem CopB.step {G:Nat} {fs:List Bk} {g:Nat} {wr w2:World} (h:CopB G bs k fs wr) (hx:bs[k]?=some x) (hb:Below wr wr w2) (hO:OwnX w2 wr g x.l.length x.l):
  CopB G bs (k+1) (fs.set k ⟨xg g x.l.length x.l.length,x.cnt,x.l⟩) (xt (w2.setCell (xd G (k*2)) (xg g x.l.length x.l.length)) G (k*2+1) (xi x.cnt)):=by
 have hk:=qf hx;have a1:=h.len;obtain⟨f,hf⟩:∃f,fs[k]?=some f:=qg qo;have hG:=h.own.lt;have hc:Chg (λq=>q=G) w2 (xt (w2.setCell (xd G (k*2)) (xg g x.l.length x.l.length)) G (k*2+1) (xi x.cnt)):=(Chg.of_set w2 G (k*2) _ (S:=λq=>q=G) rfl).trans (Chg.of_set _ G (k*2+1) _ (S:=λq=>q=G) rfl);have a0:∀i y,(fs.set k ⟨xg g x.l.length x.l.length,x.cnt,x.l⟩)[i]?=some y->(i=k/\y=⟨xg g x.l.length x.l.length,x.cnt,x.l⟩)∨(¬i=k/\fs[i]?=some y):=λi y hy=>by
  rw[getElem?_set]at hy;by_cases e:k=i
  .subst e;rw[if_pos rfl,if_pos qo]at hy;exact .inl ⟨rfl,(Option.some.inj hy).symm⟩
  .rw[if_neg e]at hy;exact .inr ⟨λq=>e q.symm,hy⟩
 refine⟨by rw[length_set];exact h.len,?_,(h.own.below hb).put k f ⟨xg g x.l.length x.l.length,x.cnt,x.l⟩ hf,λi y hi hy=>?_,λi j y z hij hj hy hz=>?_⟩
 .rw[take_add_one,take_add_one (l:=bs),hx];rw[getElem?_set,if_pos rfl,if_pos qo];rw[take_set_of_le (by omega)];simp only[Option.toList,map_append,h.vw];rfl
 .rcases a0 i y hy with⟨rfl,rfl⟩|⟨e,hy⟩
  .have h9:RowX w2 (G+1) (xg g x.l.length x.l.length) x.l:=RowX.low (base:=wr.heap.size) hO qo;exact h9.chg hc (λq hq z=>qw ((h9.blk hq).1))
  .have h9:=(h.ins i y (by omega) hy).below hb;exact h9.chg hc (λq hq z=>qw ((h9.blk hq).1))
 .rcases a0 j z hz with⟨rfl,rfl⟩|⟨e,hz⟩
  .rcases a0 i y hy with⟨e2,_⟩|⟨_,hy⟩
   .omega
   .intro q;have:=((h.ins i y (by omega) hy).blk (k:=g) (by rw[q];rfl)).2;have:=hO.lt.1;omega
  .rcases a0 i y hy with⟨e2,_⟩|⟨_,hy⟩
   .omega
   .exact h.pw i j y z hij (by omega) hy hz
structure CdO (w:World) (base:Nat) (cv mv:Value) (bs:List Bk) (M:List Ix):Prop where
 row:RowB w base cv bs
 each:Eac w base bs
 main:RowX w base mv M
 pw:pwV (bs.map Bk.v)
 apt:∀x∈bs,x.v.ownBlock≠mv.ownBlock
theorem yM3 (b off cap:Nat) (bs:List Bk) (w:World) (hE:yK0 w b off bs) (hB:b<w.heap.size) (hlen:bs.length<=cap) (hcap:cap<=maxLen) (h1:bs.length+totB bs<=1048576):
  Calls prog 61 #[.slice (some ⟨b,off,none⟩) bs.length cap] w λe w'=>
   ∃g fs,e=.returned (xg g bs.length bs.length)/\xAk w w' (xg g bs.length bs.length) fs/\fs.map Bk.vw=bs.map Bk.vw/\Below w w w':=by
 have HE:=qH1 hE;clear hE;unfold maxLen at hcap;obtain⟨i,hi,a5,a4,a3⟩:=info_parts Tryz.infoB;have HI:=qH4 hi a5 a4 a3;clear hi a5 a4 a3;go_enter func61,ntmps61;go_wp2_with (at_make;refine wpList_make_full _ rfl _ _ 29 rfl w 32 i _ 2 underlying29 HI.1 HI.2.1 HI.2.2.1 _ _ _ _ bs.length rfl rfl ?_ ?_ ?hb ?hm ?hs ?_);case hb=>rw[HI.2.2.2];omega
 case hm=>unfold maxLen;omega
 case hs=>exact Nat.le_refl _
 .rfl
 .rfl
 intro w1 a1 a6;rw[yMe]at a1;have HW:Hid (CopB w bs 0 (List.replicate bs.length yXp) w1):=by refine⟨length_replicate ..,rfl,?_,λi x hi=>qo,λi j x y _ hj=>qo⟩;unfold yG8;rw[length_replicate];exact a1
 have a9:=(Below.refl _ _).grown a6 qr (λk hk=>by cases hk);clear a1 a6;go_wp2;go_loopw[4] (λi wr=>∃(k:Nat) (fs:List Bk),k<=bs.length/\i=.int .i64 k/\Hid (CopB w.heap.size bs k fs wr)/\Below w.heap.size w wr) (λi _=>bs.length-(intOf i).toNat);case atStart=>exact⟨0,_,zero_le _,rfl,HW,a9⟩
 case round=>
  obtain⟨k,fs,hk,rfl,HC,hb⟩:=hrel;have sb:=hb.size;by_cases hlt:k<bs.length
  .obtain⟨x,hx⟩:∃x,bs[k]?=some x:=⟨_,getElem?_eq_getElem hlt⟩;have zk:(k:Int)<(bs.length:Int):=qo
   have a0:=HE.out k x hx;have c0:wr.cell? (xd b (off+k*2))=some x.v:=by rw[hb.cell (p:=⟨b,off+k*2,none⟩) hB];exact a0.1
   have c1:wr.cell? (xd b (off+k*2+1))=some (.int .i64 x.cnt):=by rw[hb.cell (p:=⟨b,off+k*2+1,none⟩) hB];exact a0.2.1
   have hu:=a0.2.2.cells;have HX:=qH2 (a0.2.2.below hb (Nat.le_refl _)) hx;have a7:x.l.length<=1048576:=qw (yUh (mem_of_getElem? hx))
   clear hx a0;go_wp2_with fail;refine(yH7 x _ HX.1 a7).mono ?_;rintro e w2 ⟨g,rfl,hO,hb2⟩;have a2:=HC.own.below hb2;obtain⟨f,hf⟩:∃f,fs[k]?=some f:=qg (by rw[HC.len];exact hlt);obtain⟨d0,d1⟩:=a2.cell hf;have aa:=λj=>World.ownsRow.frozenAt a2 j;have HN:=qH1 (HC.step HX.2 hb2 hO);have k2:Below w w (xt (w2.setCell (xd w (k*2)) (xg g x.l.length x.l.length)) w (k*2+1) (xi x.cnt)):=((hb.trans (hb2.mono sb)).setCell qr _).setCell qr _;clear c0 c1 hO a2 hf;refine zY ?_;exact⟨k+1,_,qo,by go_num,HN,k2⟩
  .have zk:¬(k:Int)<(bs.length:Int):=qo
   have a8:k=bs.length:=qo
   subst a8;obtain⟨h2,h3⟩:=HC.in;have H2:=qH2 h2 h3;clear h2 h3;go_wp2;go_ret;exact⟨_,rfl,fs,H2.1,H2.2,hb⟩
theorem yM2 (a:Option Addr) (cap:Nat) (w:World):
  Calls prog 61 #[.slice a 0 cap] w λe w'=>
   ∃g,e=.returned (xg g 0 0)/\RowB w' w (xg g 0 0) []/\Below w w w':=by
 obtain⟨i,hi,a3,a2,a1⟩:=info_parts Tryz.infoB;have HI:=qH4 hi a3 a2 a1;clear hi a3 a2 a1;go_enter func61,ntmps61;go_wp2_with (at_make;refine wpList_make_full _ rfl _ _ 29 rfl w 32 i _ 2 underlying29 HI.1 HI.2.1 HI.2.2.1 _ _ _ _ 0 rfl rfl ?_ ?_ ?hb ?hm ?hs ?_);case hb=>rw[HI.2.2.2];omega
 case hm=>unfold maxLen;omega
 case hs=>exact Nat.le_refl _
 .rfl
 .rfl
 intro w1 a0 a4;have hg:RowB w1 w (xg w 0 0) []:=by have h9:=yMe 0;rw[Nat.zero_mul]at h9;rw[h9]at a0;exact a0
 have a5:=(Below.refl _ _).grown a4 qr (λk hk=>by cases hk);clear a0 a4;go_wp2;go_loopw[4] (λi wr=>i=(xi 0)/\wr=w1) (λi _=>0);case atStart=>exact⟨rfl,rfl⟩
 case round=>obtain⟨rfl,rfl⟩:=hrel;go_wp2;go_ret;exact⟨_,rfl,hg,a5⟩
theorem yO7 (v:Value) (bs:List Bk) (w:World) (h:yCg w v bs) (h1:bs.length+totB bs<=1048576):
  Calls prog 61 #[v] w λe w'=>
   ∃g fs,e=.returned (xg g bs.length bs.length)/\xAk w w' (xg g bs.length bs.length) fs/\fs.map Bk.vw=bs.map Bk.vw/\Below w w w':=by
 rcases h with⟨a,cap,rfl,rfl⟩|⟨b,off,cap,rfl,hE,a0,g1,g2⟩
 .refine(yM2 a cap w).mono ?_;rintro e w' ⟨g,rfl,hR,hb⟩;exact⟨g,[],rfl,⟨λS wx hc hS=>⟨hR.chg hc (λk hk q=>qv ((hR.blk hk).1) (hS k q)),λx hx=>by simp at hx⟩,List.Pairwise.nil⟩,rfl,hb⟩
 .exact yM3 b off cap bs w hE a0 g1 g2 h1
theorem yL3 (v:Value) (bs:List Bk) (m:Bk) (w:World) (h:yCg w v bs) (hm:yAy w m.v m.l) (h1:bs.length+totB bs+m.l.length<=1048576):
  Calls prog 19 #[.agg #[v,m.v,.int .i64 m.cnt]] w λe w'=>
   ∃g gm fs,e=.returned (.agg #[xg g bs.length bs.length,.slice (some ⟨gm,0,none⟩) m.l.length m.l.length,.int .i64 m.cnt])/\CdO w' w.heap.size (.slice (some ⟨g,0,none⟩) bs.length bs.length) (.slice (some ⟨gm,0,none⟩) m.l.length m.l.length) fs m.l/\fs.map Bk.vw=bs.map Bk.vw/\Below w w w':=by
 have HE:=qH2 h hm;have hu:=h.cells;have av:=hm.cells;clear h hm;obtain⟨W0,a5⟩:=qW (((w.alloc (Obj.cells #[v,m.v,xi m.cnt] 51)).alloc (Obj.cells #[xh,xh,xi 0] 34)).alloc (Obj.cells #[xh,xh,xi 0] 34));have af:Below w w W0:=by rw[a5];exact((qB).alloc (by simp) _).alloc (by simp;omega) _
 have au:W0.heap.size=w.heap.size+1+1+1:=by rw[a5];simp
 have aq:=qH1 (HE.1.below af);have HZ:Hid (xk W0 w 0 v/\W0.cell? (xd w 1)=some m.v/\W0.cell? (xd w.heap.size 2)=some (.int .i64 m.cnt)):=by rw[a5];refine⟨?_,?_,?_⟩<;>simp[go_sem]
 have HR:Hid (∀b,b=w.heap.size+1∨b=w.heap.size+1+1->W0.cell? (xd b 0)=some (.slice none 0 0)/\W0.cell? (xd b 1)=some (.slice none 0 0)/\W0.cell? (xd b 2)=some (.int .i64 0)/\∀j,W0.frozen? ⟨b,j,none⟩=false):=by
  intro b hb;rw[a5];rcases hb with rfl|rfl
  .refine⟨?_,?_,?_,λj=>?_⟩<;>simp[go_sem]
  .refine⟨?_,?_,?_,λj=>?_⟩<;>simp[go_sem]
 obtain⟨a0,a1,a2⟩:=HZ.out;go_enter func19,ntmps19;go_upto_region 2 with fail;rw[<-a5];clear a5;go_wp2_with fail;refine(yO7 v bs _ aq.out qo).mono ?_;rintro e w1 ⟨g,fs,rfl,ag,ad,a9⟩;have s1:=a9.size;have HF:=qH2 ag ad;clear ag ad a0 a1 a2;have a3:∀b o,b<W0.heap.size->w1.cell? ⟨b,o,none⟩=W0.cell? ⟨b,o,none⟩:=λb o h=>a9.cell (p:=⟨b,o,none⟩) h;have a6:∀b o,b<W0.heap.size->w1.frozen? ⟨b,o,none⟩=W0.frozen? ⟨b,o,none⟩:=λb o h=>a9.frozen (p:=⟨b,o,none⟩) h;have HP:Hid (∀b,b=w.heap.size+1∨b=w.heap.size+1+1->w1.cell? (xd b 0)=some (.slice none 0 0)/\w1.cell? (xd b 1)=some (.slice none 0 0)/\w1.cell? (xd b 2)=some (.int .i64 0)/\∀j,w1.frozen? ⟨b,j,none⟩=false):=by
  intro b hb;have a8:b<W0.heap.size:=qo
  obtain⟨r0,r1,r2,rf⟩:=HR.out b hb;exact⟨(a3 _ _ a8).trans r0,(a3 _ _ a8).trans r1,(a3 _ _ a8).trans r2,λj=>(a6 _ _ a8).trans (rf j)⟩
 have aj:=qH1 a3;clear a3 a6;obtain⟨p0,p1,p2,pf⟩:=HP.out _ (.inr rfl);go_upto_region 3 with fail;obtain⟨W2,a4⟩:=qW (w1.setCell (xd (w.heap.size+1+1) 0) (.slice (some ⟨g,0,none⟩) bs.length bs.length));have ar:W2.heap.size=w1.heap.size:=by rw[a4];simp
 have ac:Chg (λq=>q=w.heap.size+1∨q=w.heap.size+1+1) w1 W2:=by rw[a4];exact Chg.of_set _ _ _ _ (.inr rfl)
 have hb2:Below w.heap.size w W2:=by rw[a4];exact(af.trans (a9.mono qo)).setCell (by show _<=w.heap.size+1+1;omega) _
 have ao:Hid (yAy W2 m.v m.l):=HE.2.below hb2 (Nat.le_refl _);obtain⟨q1,q2⟩:W2.cell? ⟨w.heap.size,1,none⟩=some m.v/\W2.cell? ⟨w.heap.size,2,none⟩=some (.int .i64 m.cnt):=by obtain⟨_,z1,z2⟩:=HZ.out;exact⟨by rw[ac.cell (p:=⟨w.heap.size,1,none⟩) (by show w.heap.size<_;omega) (by show¬(w.heap.size=w.heap.size+1∨w.heap.size=w.heap.size+1+1);omega)];exact(aj.out _ _ qo).trans z1,by rw[ac.cell (p:=⟨w.heap.size,2,none⟩) (by show w.heap.size<_;omega) (by show¬(w.heap.size=w.heap.size+1∨w.heap.size=w.heap.size+1+1);omega)];exact(aj.out _ _ qo).trans z2⟩
 have al:Hid ((W2.cell? (xd (w.heap.size+1+1) 0)=some (.slice (some ⟨g,0,none⟩) bs.length bs.length)/\W2.cell? (xd (w.heap.size+1+1) 1)=some (.slice none 0 0)/\W2.cell? (xd (w.heap.size+1+1) 2)=some (.int .i64 0)/\∀j,W2.frozen? ⟨w.heap.size+1+1,j,none⟩=false)/\(W2.cell? (xd (w.heap.size+1) 0)=some (.slice none 0 0)/\W2.cell? (xd (w.heap.size+1) 1)=some (.slice none 0 0)/\W2.cell? (xd (w.heap.size+1) 2)=some (.int .i64 0)/\∀j,W2.frozen? ⟨w.heap.size+1,j,none⟩=false)):=by obtain⟨r0,r1,r2,rf⟩:=HP.out _ (.inl rfl);rw[a4];refine⟨⟨?_,?_,?_,λj=>?_⟩,?_,?_,?_,λj=>?_⟩<;>simp[go_sem,p0,p1,p2,pf,r0,r1,r2,rf]
 rw[<-a4];clear a4 p0 p1 p2 pf;go_wp2_with fail;refine(yH7 m _ ao.out qo).mono ?_;rintro e w3 ⟨gm,rfl,ab,a7⟩;have s3:=a7.size;have ai:Chg (λq=>q=w.heap.size+1∨q=w.heap.size+1+1) w1 w3:=ac.trans (Chg.of_below a7);have an:Hid (OwnX w3 W2 gm m.l.length m.l):=ab;have ax:=ab.lt;have k3:Below w w w3:=hb2.trans (a7.mono hb2.size);clear ab q1 q2;have am:Hid ((xk w3 (w+1+1) 0 (xg g bs.length bs.length)/\xk w3 (w+1+1) 1 xh/\xk w3 (w+1+1) 2 (xi 0)/\∀j,w3.frozen? (xd (w+1+1) j)=false)/\(xk w3 (w+1) 0 xh/\xk w3 (w+1) 1 xh/\xk w3 (w+1) 2 (xi 0)/\∀j,w3.frozen? (xd (w+1) j)=false)):=by
  have a3:∀b o,b<W2.heap.size->w3.cell? (xd b o)=W2.cell? (xd b o):=λb o h=>a7.cell (p:=(xd b o)) h;have a6:∀b o,b<W2.heap.size->w3.frozen? (xd b o)=W2.frozen? (xd b o):=λb o h=>a7.frozen (p:=(xd b o)) h;obtain⟨⟨r0,r1,r2,rf⟩,t0,t1,t2,tf⟩:=al.out;have e1:w.heap.size+1+1<W2.heap.size:=qo
  have e2:w.heap.size+1<W2.heap.size:=qo
  exact⟨⟨(a3 _ _ e1).trans r0,(a3 _ _ e1).trans r1,(a3 _ _ e1).trans r2,λj=>(a6 _ _ e1).trans (rf j)⟩,(a3 _ _ e2).trans t0,(a3 _ _ e2).trans t1,(a3 _ _ e2).trans t2,λj=>(a6 _ _ e2).trans (tf j)⟩
 obtain⟨⟨p0,p1,p2,pf⟩,t0,t1,t2,tf⟩:=am.out;go_wp2;refine bodyPost_ret (v:=.agg #[xg g bs.length bs.length,xg gm m.l.length m.l.length,xi m.cnt]) (by simp[results,results19,go_sem,t0,t1,t2]) rfl ⟨g,gm,fs,rfl,?_⟩;have e1:w.heap.size<=w.heap.size+1+1:=qo
 have e2:w.heap.size<=w.heap.size+1:=qo
 obtain⟨W5,aa⟩:=qW (xt ((((w3.setCell (xd (w+1+1) 1) (xg gm m.l.length m.l.length)).setCell (xd (w+1+1) 2) (xi m.cnt)).setCell (xd (w+1) 0) (xg g bs.length bs.length)).setCell (xd (w+1) 1) (xg gm m.l.length m.l.length)) (w+1) 2 (xi m.cnt));have ah:Chg (λq=>q=w.heap.size+1∨q=w.heap.size+1+1) w3 W5:=by rw[aa];exact((((Chg.of_set w3 (w+1+1) 1 _ (S:=λq=>q=w.heap.size+1∨q=w.heap.size+1+1) (.inr rfl)).trans (Chg.of_set _ (w+1+1) 2 _ (.inr rfl))).trans (Chg.of_set _ (w+1) 0 _ (.inl rfl))).trans (Chg.of_set _ (w+1) 1 _ (.inl rfl))).trans (Chg.of_set _ (w+1) 2 _ (.inl rfl))
 have k5:Below w w W5:=by rw[aa];exact((((k3.setCell e1 _).setCell e1 _).setCell e2 _).setCell e2 _).setCell e2 _
 rw[<-aa];obtain⟨hr,he⟩:=HF.1.1 _ _ (ai.trans ah) (λk hk=>qo);obtain⟨aw,ay⟩:=HF.1.1 _ _ ai (λk hk=>qo);obtain⟨_,ak⟩:=HF.1.1 _ _ (Chg.refl (λ_=>False) w1) (λk hk=>hk.elim);have ae:RowX w3 W2 (xg gm m.l.length m.l.length) m.l:=an.out;refine⟨⟨hr.low qo,he.low qo,(ae.chg ah (λq hq z=>qw ((ae.blk hq).1))).low qo,HF.1.2,λx hx q=>?_⟩,HF.2,k5⟩;have:=((ak x hx).blk (k:=gm) (by rw[q];rfl)).2;omega
theorem yHd (v:Value) (bs:List Bk) (m:Bk) (w:World) (h:yCg w v bs) (hm:yAy w m.v m.l) (h1:bs.length+totB bs+m.l.length<=1048576):
  Calls prog 19 #[.agg #[v,m.v,.int .i64 m.cnt]] w λe w'=>
   ∃g gm fs,e=.returned (.agg #[.slice (some ⟨g,0,none⟩) bs.length bs.length,.slice (some ⟨gm,0,none⟩) m.l.length m.l.length,.int .i64 m.cnt])/\yCg w' (.slice (some ⟨g,0,none⟩) bs.length bs.length) fs/\fs.map Bk.vw=bs.map Bk.vw/\yAy w' (.slice (some ⟨gm,0,none⟩) m.l.length m.l.length) m.l/\Below w w w':=by
 refine(yL3 v bs m w h hm h1).mono ?_;rintro e w' ⟨g,gm,fs,he,hO,hv,hb⟩;exact⟨g,gm,fs,he,hO.row.inB hO.each,hv,hO.main.in,hb⟩
def xC8 (k:Int):Bool:=k%3==0
def mNd (k:Int):Nd:=⟨k,yAx (k+1).toNat,xC8 (k+1+1),yAx (k+1+1+1).toNat,k+1+1+1+1,k+1+1+1+1+1,k+1+1+1+1+1+1⟩
def yRl (w:World) (base:Nat) (u:Value) (R:List Nd):Prop:=(u=xh/\R= [])∨∃g cp,u=(xg g R.length cp)/\yC7 w base g cp R
variable {R:List Nd}
theorem yRl.row (h:yRl w base u R):∀g,u.ownBlock=some g->base<=g/\g<w.heap.size:=by
 intro g hg;rcases h with⟨rfl,_⟩|⟨g',cp,rfl,hO⟩
 .cases hg
 .have:g'=g:=Option.some.inj hg;subst this;exact hO.lt
theorem yRl.keptNe {row:Option Nat} (h:yRl w base u R) (hg:w.grownBy w' row) (hne:∀g,u.ownBlock=some g->row≠some g):yRl w' base u R:=by
 rcases h with h|⟨g,cp,rfl,hO⟩
 .exact .inl h
 .exact .inr ⟨g,cp,rfl,World.ownsRow.kept hO hg (.inr (λq=>hne g rfl q.symm))⟩
theorem yRl.below (h:yRl w base u R) (hb:Below w w w'):yRl w' base u R:=h.keptNe (yAu hb none) (λg q z=>by cases z)
def mIx (k:Int):Ix:=⟨k,k+1,k+1+1,xC8 (k+1+1+1),mNd (k+1+1+1+1)⟩
def yCt (k:Int) (es:List Ix) (i:Nat):Prop:=∀j:Nat,j<i->es[j]?=some (mIx (k+j*11))
theorem OwnX.upd {g:Nat} {fs:List Ix} {f f':Ix} (h:OwnX w base g cap (fs.set m f)) (hm:m<fs.length) (hj:j<11) (hc:f'.ten=f.ten.set j u):
  OwnX (xt w g (m*11+j) u) base g cap (fs.set m f'):=by
 have:=h.set m j f f' u (by simp[hm]) hj hc;rwa [set_set]at this
theorem ySu {k:Int} {fs:List Ix} (h:yCt k fs m) (hm:m<fs.length):yCt k (fs.set m (mIx (k+m*11))) (m+1):=by
 intro j hj;by_cases e:j=m
 .subst e;simp[hm]
 .rw[getElem?_set_ne qo];exact h j qo
theorem yN4 (base g cap:Nat) (es:List Ix) (k:Int) (w:World) (hO:OwnX w base g cap es) (h0:0<k) (h1:k<=2^30) (hn:es.length<=1048576):
  Calls prog 126 #[xg g es.length cap,xi k] w λe w'=>
   ∃fs,e=.returned (xi (k+es.length*11))/\OwnX w' base g cap fs/\fs.length=es.length/\yCt k fs es.length/\w.grownBy w' (some g):=by
 have HO:=qH1 hO;clear hO;go_enter func126,ntmps126;go_wp2;go_loopw[1,5] (λc i wr=>∃(m:Nat) (a:Int) (fs:List Ix),m<=es.length/\i=(xi m)/\c=(xi a)/\a=k+m*11/\OwnX wr base g cap fs/\fs.length=es.length/\yCt k fs m/\w.grownBy wr (some g)) (λ_ i _=>es.length-(intOf i).toNat);case atStart=>exact⟨0,k,es,zero_le _,rfl,rfl,by simp,HO.out,rfl,λj hj=>qo,yAu (Below.refl _ _) _⟩
 case round=>
  obtain⟨m,a,fs,hm,rfl,rfl,ha,hO,a6,a4,a5⟩:=hrel;have HR:=qH4 ha hO a6 a4;have ab:0<a:=qo
  have aa:a<=2^31:=qo
  have HG:=qH1 a5;clear hO a6 a4 ha a5;by_cases hlt:m<es.length
  .obtain⟨f,hf⟩:∃f,fs[m]?=some f:=qg (by rw[HR.2.2.1];exact hlt);have HF:=qH2 hf (by rw[HR.2.2.1];exact hlt:m<fs.length);have a3:fs.set m f=fs:=by have h9:=Option.some.inj ((getElem?_eq_getElem HF.2).symm.trans hf);rw[<-h9];exact set_getElem_self HF.2
   clear hf;obtain⟨c0,c1,c2,c3,c4,_⟩:=HR.2.1.at m f HF.1;simp only[Nat.zero_add]at c0 c1 c2 c3 c4;have z0:=λj=>World.ownsRow.frozenAt HR.2.1 j;have a7:OwnX wr base g cap (fs.set m f):=by rw[a3];exact HR.2.1
   have H0:Hid (OwnX (xt ((((wr.setCell (xd g (m*11)) (xi a)).setCell (xd g (m*11+1)) (xi (a+1))).setCell (xd g (m*11+2)) (xi (a+1+1))).setCell (xd g (m*11+3)) ((a+1+1+1)%3==0)) g (m*11+4) (xi (a+1+1+1+1))) base g cap (fs.set m {f with op:=a,a:=a+1,b:=a+1+1,free:=((a+1+1+1)%3==0),leaf:={f.leaf with kind:=a+1+1+1+1}})/\w.grownBy (xt ((((wr.setCell (xd g (m*11)) (xi a)).setCell (xd g (m*11+1)) (xi (a+1))).setCell (xd g (m*11+2)) (xi (a+1+1))).setCell (xd g (m*11+3)) ((a+1+1+1)%3==0)) g (m*11+4) (xi (a+1+1+1+1))) (some g)):=
    ⟨(((((a7.upd (j:=0) (u:=(xi a)) (f':={f with op:=a}) HF.2 qo rfl).upd (j:=1) (u:=(xi (a+1))) (f':={f with op:=a,a:=a+1}) HF.2 qo rfl).upd (j:=2) (u:=(xi (a+1+1))) (f':={f with op:=a,a:=a+1,b:=a+1+1}) HF.2 qo rfl).upd (j:=3) (u:=((a+1+1+1)%3==0)) (f':={f with op:=a,a:=a+1,b:=a+1+1,free:=((a+1+1+1)%3==0)}) HF.2 qo rfl).upd (j:=4) (u:=(xi (a+1+1+1+1))) (f':={f with op:=a,a:=a+1,b:=a+1+1,free:=((a+1+1+1)%3==0),leaf:={f.leaf with kind:=a+1+1+1+1}}) HF.2 qo rfl),(((((HG.trans (yAv _ g (m*11) (xi a))).trans (yAv _ g (m*11+1) (xi (a+1)))).trans (yAv _ g (m*11+2) (xi (a+1+1)))).trans (yAv _ g (m*11+3) ((a+1+1+1)%3==0))).trans (yAv _ g (m*11+4) (xi (a+1+1+1+1))))⟩
   clear a7 a3;go_wp2_with fail;refine(yBv (a+1+1+1+1+1) _ qo qo).mono ?_;rintro e w1 ⟨rfl,a2⟩;have a1:=H0.1.below a2 H0.1.lt.2;obtain⟨_,_,_,_,_,c5,c6,_⟩:=a1.at m _ (by simp[HF.2];rfl);simp only[Nat.zero_add]at c5 c6;have z1:=λj=>World.ownsRow.frozenAt a1 j;have hO2:=((a1.upd (j:=5) (u:=(yAx (a+1+1+1+1+1).toNat)) (f':={f with op:=a,a:=a+1,b:=a+1+1,free:=((a+1+1+1)%3==0),leaf:={f.leaf with kind:=a+1+1+1+1,s:=yAx (a+1+1+1+1+1).toNat}}) HF.2 qo rfl).upd (j:=6) (u:=((a+1+1+1+1+1+1)%3==0)) (f':={f with op:=a,a:=a+1,b:=a+1+1,free:=((a+1+1+1)%3==0),leaf:={f.leaf with kind:=a+1+1+1+1,s:=yAx (a+1+1+1+1+1).toNat,hi:=((a+1+1+1+1+1+1)%3==0)}}) HF.2 qo rfl)
   have H1:Hid (OwnX (xt (w1.setCell (xd g (m*11+5)) (yAx (a+1+1+1+1+1).toNat)) g (m*11+6) ((a+1+1+1+1+1+1)%3==0)) base g cap (fs.set m {f with op:=a,a:=a+1,b:=a+1+1,free:=((a+1+1+1)%3==0),leaf:={f.leaf with kind:=a+1+1+1+1,s:=yAx (a+1+1+1+1+1).toNat,hi:=((a+1+1+1+1+1+1)%3==0)}})/\w.grownBy (xt (w1.setCell (xd g (m*11+5)) (yAx (a+1+1+1+1+1).toNat)) g (m*11+6) ((a+1+1+1+1+1+1)%3==0)) (some g)):=
    ⟨hO2,(((H0.2.trans (yAu a2 _)).trans (yAv _ g (m*11+5) (yAx (a+1+1+1+1+1).toNat))).trans (yAv _ g (m*11+6) ((a+1+1+1+1+1+1)%3==0)))⟩
   clear a1 hO2 a2 c0 c1 c2 c3 c4 z0;go_wp2_with fail;refine(yBv (a+1+1+1+1+1+1+1) _ qo qo).mono ?_;rintro e w2 ⟨rfl,hb2⟩;have a0:=H1.1.below hb2 H1.1.lt.2;obtain⟨_,_,_,_,_,_,_,c7,c8,c9,c10⟩:=a0.at m _ (by simp[HF.2];rfl);simp only[Nat.zero_add]at c7 c8 c9 c10;have z3:=λj=>World.ownsRow.frozenAt a0 j;have a8:=((((a0.upd (j:=7) (u:=(yAx (a+1+1+1+1+1+1+1).toNat)) (f':={f with op:=a,a:=a+1,b:=a+1+1,free:=((a+1+1+1)%3==0),leaf:={f.leaf with kind:=a+1+1+1+1,s:=yAx (a+1+1+1+1+1).toNat,hi:=((a+1+1+1+1+1+1)%3==0),t:=yAx (a+1+1+1+1+1+1+1).toNat}}) HF.2 qo rfl).upd (j:=8) (u:=(xu (a+1+1+1+1+1+1+1+1))) (f':={f with op:=a,a:=a+1,b:=a+1+1,free:=((a+1+1+1)%3==0),leaf:={f.leaf with kind:=a+1+1+1+1,s:=yAx (a+1+1+1+1+1).toNat,hi:=((a+1+1+1+1+1+1)%3==0),t:=yAx (a+1+1+1+1+1+1+1).toNat,lo:=a+1+1+1+1+1+1+1+1}}) HF.2 qo rfl).upd (j:=9) (u:=(xu (a+1+1+1+1+1+1+1+1+1))) (f':={f with op:=a,a:=a+1,b:=a+1+1,free:=((a+1+1+1)%3==0),leaf:={f.leaf with kind:=a+1+1+1+1,s:=yAx (a+1+1+1+1+1).toNat,hi:=((a+1+1+1+1+1+1)%3==0),t:=yAx (a+1+1+1+1+1+1+1).toNat,lo:=a+1+1+1+1+1+1+1+1,up:=a+1+1+1+1+1+1+1+1+1}}) HF.2 qo rfl).upd (j:=10) (u:=(xi (a+1+1+1+1+1+1+1+1+1+1))) (f':=mIx a) HF.2 qo rfl);have a9:=(((((H1.2.trans (yAu hb2 _)).trans (yAv _ g (m*11+7) (yAx (a+1+1+1+1+1+1+1).toNat))).trans (yAv _ g (m*11+8) (xu (a+1+1+1+1+1+1+1+1)))).trans (yAv _ g (m*11+9) (xu (a+1+1+1+1+1+1+1+1+1)))).trans (yAv _ g (m*11+10) (xi (a+1+1+1+1+1+1+1+1+1+1))));have H4:=qH2 a8 a9;have HE:=qH1 HR.1;clear a0 a8 a9 hb2 c5 c6 z1;go_wp2_with fail;refine⟨⟨m+1,a+1+1+1+1+1+1+1+1+1+1+1,fs.set m (mIx a),qo,by go_num,rfl,?_,H4.1,by rw[length_set];exact HR.2.2.1,?_,H4.2⟩,?_⟩
   .go_light;have:=HE.out;omega
   .go_light;have:=ySu HR.2.2.2 HF.2;rw[<-HE.out]at this;exact this
   .go_light;simp[intOf];omega
  .exact xC0
theorem yN3 (a:Option Addr) (cap:Nat) (k:Int) (w:World):
  (xf 126 #[.slice a 0 cap,xi k] w (xi k):Prop):=by
 go_enter func126,ntmps126;exact xD4
theorem yIb (base:Nat) (u:Value) (R:List Ix) (k:Int) (w:World) (h:RowX w base u R) (h0:0<k) (h1:k<=2^30) (hn:R.length<=1048576):
  Calls prog 126 #[u,xi k] w λe w'=>
   ∃R',e=.returned (xi (k+R.length*11))/\RowX w' base u R'/\R'.length=R.length/\yCt k R' R'.length/\w.grownBy w' u.ownBlock:=by
 rcases h.cases with⟨rfl,rfl⟩|⟨g,cp,rfl,hO⟩
 .refine(yN3 none 0 k w).mono ?_;rintro e w' ⟨rfl,hb⟩;exact⟨[],by simp,xA9 _ _,rfl,λj hj=>by simp at hj,yAu hb _⟩
 .refine(yN4 base g cp R k w hO h0 h1 hn).mono ?_;rintro e w' ⟨fs,rfl,a0,hl,hm,hg⟩;refine⟨fs,rfl,?_,hl,by rw[hl];exact hm,hg⟩;have h9:RowX w' base (xg g fs.length cp) fs:=a0;rw[hl]at h9;exact h9
def yA6:List Bk->Nat
 | []=>0
 |x::r=>x.l.length*11+1+yA6 r
def yJw:Int->List Bk->Prop
 |_,[]=>True
 |k,x::r=>yCt k x.l x.l.length/\x.cnt=k+x.l.length*11/\yJw (k+x.l.length*11+1) r
theorem yE8 l m:yA6 (l++m)=yA6 l+yA6 m:=by
 induction l with
 |nil=>simp[yA6]
 |cons x r ih=>simp only[cons_append,yA6,ih];omega
theorem yIa:∀{l:List Bk} {k:Int},yJw k l->yCt (k+yA6 l) x.l x.l.length->x.cnt=k+yA6 l+x.l.length*11->yJw k (l++ [x])
 | [],k,_,h1,h2=>by
   simp only[yA6,Int.natCast_zero,Int.add_zero]at h1 h2
   exact⟨h1,h2,trivial⟩
 |y::r,k,h,h1,h2=>by
  refine⟨h.1,h.2.1,yIa h.2.2 ?_ ?_⟩
  .have e:k+((yA6 (y::r):Nat):Int)=k+y.l.length*11+1+(yA6 r:Nat):=by simp only[yA6];omega
   rw[e]at h1;exact h1
  .have e:k+((yA6 (y::r):Nat):Int)=k+y.l.length*11+1+(yA6 r:Nat):=by simp only[yA6];omega
   rw[e]at h2;exact h2
def shp (x:Bk):Value×Nat:=(x.v,x.l.length)
theorem yJv:∀{l m:List Bk},l.map shp=m.map shp->yA6 l=yA6 m
 | [],[],_=>rfl
 |x::r,y::t,h=>by
  simp only[map_cons,List.cons.injEq]at h
  have e:x.l.length=y.l.length:=congrArg Prod.snd h.1
  simp only[yA6,e,yJv h.2]
 | [],_::_,h=>by simp at h
 |_::_,[],h=>by simp at h
theorem yWj (l:List Bk) (m:Nat):yA6 (l.take m)<=yA6 l:=by have:=yE8 (l.take m) (l.drop m);rw[take_append_drop]at this;omega
theorem yWk {l:List Bk} (h:l[m]?=some x):yA6 (l.take (m+1))=yA6 (l.take m)+(x.l.length*11+1):=by rw[take_add_one,h,yE8];simp[yA6]
theorem take_set (l:List Bk) (m:Nat) (x:Bk) (hm:m<l.length):(l.set m x).take (m+1)=l.take m++ [x]:=by rw[take_add_one,getElem?_set_self hm,take_set_of_le qr];rfl
def MkS (cv:Value) (vs:List Value) (b:Nat):Prop:=cv.ownBlock=some b∨∃v∈vs,v.ownBlock=some b
structure MkJ (w0 w:World) (base g n cap:Nat) (bs fs:List Bk) (k a:Int) (m:Nat):Prop where
 val:a=k+yA6 (fs.take m)
 row:RowB w base (xg g n cap) fs
 each:Eac w base fs
 same:fs.map shp=bs.map shp
 marked:yJw k (fs.take m)
 chg:Chg (MkS (xg g n cap) (bs.map Bk.v)) w0 w
variable {fs:List Bk}
theorem xIr (h:fs.map shp=bs.map shp):fs.map Bk.v=bs.map Bk.v:=by have:=congrArg (List.map Prod.fst) h;simpa [map_map,shp,Function.comp_def]using this
theorem ySc (h:fs.map shp=bs.map shp):fs.length=bs.length:=by have:=congrArg List.length h;simpa using this
variable {n:Nat}
theorem MkJ.step {w0 w1:World} {g:Nat} {k a:Int} {R':List Ix} (h:MkJ w0 w base g n cap bs fs k a m) (hpw:pwV (bs.map Bk.v)) (hx:fs[m]?=some x) (hR:RowX w1 base x.v R') (hl:R'.length=x.l.length) (hmk:yCt a R' R'.length) (hg:w.grownBy w1 x.v.ownBlock):
  MkJ w0 (xt w1 g (m*2+1) (xi (a+x.l.length*11))) base g n cap bs (fs.set m ⟨x.v,a+x.l.length*11,R'⟩) k (a+x.l.length*11+1) (m+1):=by
 have hm:=qf hx;have a7:=mem_of_getElem? hx;have a2:=Chg.of_grown hg (λj hj=>hj);have a0:Chg (λb=>b=g) w1 (w1.setCell (xd g (m*2+1)) (.int .i64 (a+x.l.length*11))):=Chg.of_set _ _ _ _ rfl;have a1:RowB w1 base (.slice (some ⟨g,0,none⟩) n cap) fs:=h.row.chg a2 (λj hj q=>yE6 (h.each x a7) h.row j q hj);have a4:=xIr h.same;have a3:(bs.map Bk.v)[m]?=some x.v:=by rw[<-a4,getElem?_map,hx];rfl
 have a8:fs.map shp=(fs.set m ⟨x.v,a+x.l.length*11,R'⟩).map shp:=by
  rw[map_set];have e:shp ⟨x.v,a+x.l.length*11,R'⟩=shp x:=by simp[shp,hl]
  rw[e];have e2:(fs.map shp)[m]?=some (shp x):=by rw[getElem?_map,hx];rfl
  obtain⟨aa,e3⟩:=List.getElem?_eq_some_iff.1 e2;rw[<-e3];exact(set_getElem_self aa).symm
 refine⟨?_,?_,λy hy=>?_,by rw[<-a8];exact h.same,?_,?_⟩
 .rw[take_set _ _ _ hm,yE8,h.val];simp only[yA6,hl];omega
 .have hn:n=fs.length:=by obtain⟨a',c',hv⟩:=h.row.slice;cases hv;rfl
  subst hn;have h9:=(World.ownsRow.stored a1 (m*2+1) (.int .i64 (a+x.l.length*11))).1;rw[yHx fs m x ⟨x.v,a+x.l.length*11,R'⟩ _ 1 hx (by omega) rfl]at h9;unfold RowB;rw[length_set];exact h9
 .obtain⟨j,hj⟩:=getElem?_of_mem hy;by_cases hjm:j=m
  .subst hjm;rw[getElem?_set_self hm]at hj;cases hj
   exact hR.chg a0 (λi hi q=>yE6 hR a1 i hi (by rw[q];rfl))
  .rw[getElem?_set_ne (λq=>hjm q.symm)]at hj;have a6:=mem_of_getElem? hj;have a5:(bs.map Bk.v)[j]?=some y.v:=by rw[<-a4,getElem?_map,hj];rfl
   have a9:=xHp hpw hjm a5 a3;have h1:=(h.each y a6).chg a2 (λi hi q=>a9 (hi.trans q.symm));exact h1.chg a0 (λi hi q=>yE6 h1 a1 i hi (by rw[q];rfl))
 .rw[take_set _ _ _ hm];refine yIa h.marked ?_ ?_
  .rw[<-h.val];exact hmk
  .rw[<-h.val,hl]
 .refine(h.chg.trans (a2.mono (λj hj=>.inr ⟨x.v,mem_of_getElem? a3,hj⟩))).trans (a0.mono (λj hj=>.inl (by rw[hj];rfl)))
theorem yJz (base g cap:Nat) (bs:List Bk) (k:Int) w (n:Nat) (hR:RowB w base (xg g n cap) bs) (hE:Eac w base bs) (hpw:pwV (bs.map Bk.v)) (h0:0<k) (h1:k<=2^28) (hl:yA6 bs<=2^28) (hx:∀x∈bs,x.l.length<=1048576):
  Calls prog 67 #[xg g n cap,xi k] w λe w'=>
   ∃fs,e=.returned (xi (k+yA6 bs))/\MkJ w w' base g n cap bs fs k (k+yA6 bs) n:=by
 have hn:n=bs.length:=by obtain⟨a',c',hv⟩:=hR.slice;cases hv;rfl
 have HO:Hid (MkJ w w base g n cap bs bs k k 0):=⟨by simp[yA6],hR,hE,rfl,trivial,Chg.refl _ _⟩;have HB:Hid (pwV (bs.map Bk.v)/\yA6 bs<=2^28/\(∀x∈bs,x.l.length<=1048576)/\n=bs.length):=⟨hpw,hl,hx,hn⟩;have ah:n<=2^28:=by
  have:∀l:List Bk,l.length<=yA6 l:=λl=>by
   induction l with
   |nil=>simp[yA6]
   |cons x r ih=>simp only[length_cons,yA6];omega
  have:=this bs;omega
 clear hR hE hpw hl hx hn;go_enter func67,ntmps67;go_wp2;go_loopw[1,5] (λc i wr=>∃(m:Nat) (a:Int) (fs:List Bk),m<=n/\i=(xi m)/\c=(xi a)/\0<a/\a<=2^29/\MkJ w wr base g n cap bs fs k a m) (λ_ i _=>n-(intOf i).toNat);case atStart=>exact⟨0,k,bs,zero_le _,rfl,rfl,h0,qo,HO.out⟩
 case round=>
  obtain⟨m,a,fs,hm,rfl,rfl,ae,ai,hJ⟩:=hrel;have HJ:Hid (MkJ w wr base g n cap bs fs k a m):=hJ;clear hJ;by_cases hlt:m<n
  .have ac:fs.length=n:=by rw[HB.2.2.2];exact ySc HJ.same
   obtain⟨x,hx⟩:∃x,fs[m]?=some x:=qg qo;have a3:=mem_of_getElem? hx;obtain⟨xa,xc,a1⟩:=(HJ.each x a3).slice;have a6:x.l.length<=1048576:=by
    obtain⟨y,hy⟩:∃y,bs[m]?=some y:=qg (qw HB.2.2.2);have e1:(fs.map shp)[m]?=some (shp x):=by rw[getElem?_map,hx];rfl
    have e2:(bs.map shp)[m]?=some (shp y):=by rw[getElem?_map,hy];rfl
    rw[HJ.same,e2]at e1;have e3:=congrArg Prod.snd (Option.some.inj e1);have e4:y.l.length=x.l.length:=e3;rw[<-e4];exact HB.2.2.1 y (mem_of_getElem? hy)
   have a2:RowB wr base (xg g fs.length cap) fs:=by rw[ac];exact HJ.row
   obtain⟨q0,q1⟩:=a2.cell hx;have z1:wr.frozen? (xd g (m*2+1))=false:=World.ownsRow.frozenAt a2 _;have aa:=(World.ownsRow.lt a2 g rfl).2;obtain⟨xn,a0⟩:=qE x.l.length;have HX:=qH5 hx a0 (by rw[a0,<-a1];exact HJ.each x a3:RowX wr base (.slice xa xn xc) x.l) (by rw[a0];exact a1:x.v=.slice xa xn xc) HJ.row;rw[a1,<-a0]at q0;rw[<-a0]at a6;have HC:Hid (Calls prog 126 #[.slice xa xn xc,xi a] wr λe w'=>
     ∃R',e=.returned (xi (a+xn*11))/\RowX w' base (.slice xa xn xc) R'/\R'.length=x.l.length/\yCt a R' R'.length/\wr.grownBy w' (Value.slice xa xn xc).ownBlock):=by
    have h9:=yIb base (.slice xa xn xc) x.l a wr HX.2.2.1 ae qo (by rw[<-a0];exact a6);rw[<-a0]at h9;rw[<-a0];exact h9
   have HS:Hid (a+xn*11+1<=k+yA6 bs):=by have h2:=yWk hx;have h3:=yWj fs (m+1);have h4:=yJv HJ.same;have h5:=HJ.val;show _<=_;omega
   have hS:=HS.out;have af:=HB.2.1;have ad:a+xn*11+1<=2^29:=qo
   clear hx a3 a1 a2 a0 hS af;go_wp2_with fail;refine HC.mono ?_;rintro e w1 ⟨R',rfl,ab,a9,a8,a4⟩;have ag:Hid (MkJ w (xt w1 g (m*2+1) (xi (a+(xn:Int)*11))) base g n cap bs (fs.set m ⟨x.v,a+x.l.length*11,R'⟩) k (a+(xn:Int)*11+1) (m+1)):=by have h9:=HJ.step HB.1 HX.1 (by rw[HX.2.2.2.1];exact ab) a9 a8 (by rw[HX.2.2.2.1];exact a4);rw[<-HX.2.1]at h9⊢;exact h9
   have a5:=Chg.of_grown a4 (λj hj=>hj);have a7:¬(Value.slice xa xn xc).ownBlock=some g:=λq=>yE6 HX.2.2.1 HX.2.2.2.2 g q rfl;have y1:(xk w1 g (m*2+1) (xi x.cnt):Prop):=by rw[a5.cell (p:=(xd g (m*2+1))) aa a7];exact q1
   have y2:w1.frozen? (xd g (m*2+1))=false:=by rw[a5.frozen (p:=(xd g (m*2+1))) aa a7];exact z1
   clear ab a9 a8 a4 a5 q0 q1 z1;go_wp2_with fail;refine⟨⟨m+1,a+(xn:Int)*11+1,fs.set m ⟨x.v,a+x.l.length*11,R'⟩,qo,by go_num,rfl,qo,ad,ag.out⟩,?_⟩;go_light;simp[intOf];omega
  .obtain rfl:m=n:=qo
   have HV:Hid (a=k+yA6 bs):=by show a=_;have h1:=HJ.val;rw[take_of_length_le (by rw[ySc HJ.same,<-HB.2.2.2];exact Nat.le_refl _),yJv HJ.same]at h1;exact h1
   go_wp2;go_ret;refine⟨fs,by rw[HV.out];rfl,?_⟩;rw[<-HV.out];exact HJ.out
theorem yJy (a:Option Addr) (cap:Nat) (k:Int) (w:World):
  (xf 67 #[.slice a 0 cap,xi k] w (xi k):Prop):=by
 go_enter func67,ntmps67;exact xD4
def MbP (base:Nat) (cv:Value) (bs:List Bk) (k:Int) (w:World) (e:Ending) (w':World):Prop:=
 ∃fs,e=.returned (xi (k+yA6 bs))/\RowB w' base cv fs/\Eac w' base fs/\fs.map shp=bs.map shp/\yJw k fs/\Chg (MkS cv (bs.map Bk.v)) w w'
theorem yLh (base:Nat) (cv:Value) (bs:List Bk) (k:Int) w (hR:RowB w base cv bs) (hE:Eac w base bs) (hpw:pwV (bs.map Bk.v)) (h0:0<k) (h1:k<=2^28) (hl:yA6 bs<=2^28) (hx:∀x∈bs,x.l.length<=1048576):
  Calls prog 67 #[cv,xi k] w (MbP base cv bs k w):=by
 rcases hR.cases with⟨rfl,rfl⟩|⟨g,cp,rfl,_⟩
 .refine(yJy none 0 k w).mono ?_;rintro e w' ⟨rfl,hb⟩;exact⟨[],by simp[yA6],xB _ _,(λx hx=>by cases hx),rfl,trivial,Chg.of_below hb⟩
 .refine(yJz base g cp bs k w bs.length hR hE hpw h0 h1 hl hx).mono ?_;rintro e w' ⟨fs,rfl,hJ⟩;refine⟨fs,rfl,hJ.row,hJ.each,hJ.same,?_,hJ.chg⟩;have h9:=hJ.marked;rw[take_of_length_le (Nat.le_of_eq (ySc hJ.same))]at h9;exact h9
theorem yN5 (base:Nat) (u:Value) (c:Int) (R:List Ix) (k:Int) (w:World) (h:RowX w base u R) (h0:0<k) (h1:k<=2^30) (hn:R.length<=1048576):
  Calls prog 68 #[.agg #[u,xi c],xi k] w λe w'=>
   ∃R',e=.returned (xi (k+R.length*11))/\RowX w' base u R'/\R'.length=R.length/\yCt k R' R'.length/\w.grownBy w' u.ownBlock:=by
 obtain⟨ua,uc,hu⟩:=h.slice;obtain⟨un,a0⟩:=qE R.length;have a1:Below w w (xw w #[u,xi c] 32):=qB;have HC:Hid (Calls prog 126 #[u,xi k] (xw w #[u,xi c] 32) λe w'=>
   ∃R',e=.returned (xi (k+un*11))/\RowX w' base u R'/\R'.length=R.length/\yCt k R' R'.length/\(w.alloc (Obj.cells #[u,xi c] 32)).grownBy w' u.ownBlock):=by rw[a0];exact yIb base u R k _ (h.below a1) h0 h1 hn
 have a4:Hid (un=R.length):=a0;rw[<-a0]at hu⊢;subst hu;clear h a0;go_enter func68,ntmps68;go_wp2_with fail;refine HC.mono ?_;rintro e w1 ⟨R',rfl,a2,hl,hm,a3⟩;have HF:Hid (RowX w1 base (.slice ua un uc) R'/\R'.length=R.length/\yCt k R' R'.length):=⟨a2,hl,hm⟩;clear a2 hl hm;go_wp2;go_ret;exact⟨R',rfl,HF.1,by rw[a4.out];exact HF.2.1,HF.2.2,(yAu a1 _).trans a3⟩
theorem yQv (a a':Option Addr) (cap cap':Nat) (w:World):
  (xf 23 #[.slice a 0 cap,.slice a' 0 cap'] w true:Prop):=by
 go_enter func23,ntmps23;exact xD2
theorem yLf (a:Option Addr) (cap:Nat) (k:Int) w:
  Calls prog 25 #[.slice a 0 cap,xi k] w λe w'=>e=.returned (xi k)/\w'=w:=by
 go_enter func25,ntmps25;go_wp2;go_loopw[1,5] (λc i wr=>c=(xi k)/\i=(xi 0)/\wr=w) (λ_ i _=>0);case atStart=>exact⟨rfl,rfl,rfl⟩
 case round=>obtain⟨rfl,rfl,rfl⟩:=hrel;go_wp2;go_ret;exact⟨rfl,rfl⟩
theorem yLn (a:Option Addr) (cap:Nat) (k:Int) (w:World):
  (xf 70 #[.slice a 0 cap,xi k] w (xi k):Prop):=by
 go_enter func70,ntmps70;exact xD4
variable {es:List Ent}
theorem RowC.sl {v:Value} (h:RowC w base v es) (hne:¬es= []):∃g cp,v=(xg g es.length cp)/\OwnC w base g cp es:=by
 rcases h.cases with⟨_,q⟩|q
 .exact absurd q hne
 .exact q
variable {a:Option Addr}
theorem yQx {a':Option Addr} {c c':Nat} (h:RowC w base (.slice a n c) es) (h':RowC w base' (.slice a' n c') es) (hn:n=es.length):
  (xf 23 #[.slice a n c,.slice a' n c'] w true:Prop):=by
 by_cases he:es= []
 .subst he;subst hn;exact yQv a a' c c' w
 .obtain⟨g,cp,q,hO⟩:=h.sl he;obtain⟨g',a1,q',a0⟩:=h'.sl he;rw[q,q'];exact yKd hO a0
theorem yLg {c:Nat} (h:RowC w base (.slice a n c) es) (hn:n=es.length) (hl:es.length<=1048576):
  Calls prog 25 #[.slice a n c,xi 1] w λe w'=>∃fs,e=.returned (xi (1+(n:Int)*5))/\RowC w' base (.slice a n c) fs/\fs.length=es.length/\yEd 1 fs fs.length/\w.grownBy w' (Value.slice a n c).ownBlock:=by
 by_cases he:es= []
 .subst he;subst hn;refine(yLf a c 1 w).mono ?_;rintro e w' ⟨rfl,rfl⟩;exact⟨[],by simp,h,rfl,λj hj=>by simp at hj,⟨rfl,rfl,rfl,Nat.le_refl _,λ_ _ _=>rfl⟩⟩
 .obtain⟨g,cp,q,hO⟩:=h.sl he;rw[q];refine(yF7 base g cp es 1 w hO qj qj hl).mono ?_;rintro e w' ⟨fs,he,h1,h2,h3,h4⟩;have a0:RowC w' base (xg g fs.length cp) fs:=h1;rw[h2]at a0;exact⟨fs,by rw[he,hn],a0,h2,by rw[h2];exact h3,h4⟩
theorem yLo {c:Nat} (h:RowC w base (.slice a n c) es) (hn:n=es.length) (hl:es.length<=1048576) (hm:yEd 1 es es.length):
  (xf 70 #[.slice a n c,xi 1] w (xi (1+(n:Int)*5)):Prop):=by
 by_cases he:es= []
 .subst he;subst hn;refine(yLn a c 1 w).mono ?_;rintro e w' ⟨rfl,hb⟩;exact⟨by simp,hb⟩
 .obtain⟨g,cp,q,hO⟩:=h.sl he;rw[q,hn];exact yLp g 0 cp es 1 w hO.at hm hO.lt.2 qj qj hl
theorem yDw {ok:Bool} {a':Option Addr} {n' c c' ops:Nat} (h:RowC w base (.slice a n c) es) (hn:n=es.length) (h':RowC w base' (.slice a' n' c') es) (hn':n'=es.length):
  (xf 21 #[.agg #[ok,.slice a n c,xi ops],.agg #[ok,.slice a' n' c',xi ops]] w true:Prop):=by
 obtain rfl:n'=n:=qo
 obtain⟨W,hW⟩:=qW (xw (w.alloc (Obj.cells #[ok,.slice a n' c,xi ops] 39)) #[ok,.slice a' n' c',xi ops] 39);have hb:Below w w W:=by rw[hW];exact(qB).alloc (by simp) _
 have hz:W.heap.size=w.heap.size+1+1:=by rw[hW];simp
 have HB:Hid (∀X,Below W W X->xk X w 2 (xi ops)/\xk X (w+1) 2 (xi ops)):=λX hX=>by rw[hX.cell (p:=(xd w 2)) (by show w.heap.size<W.heap.size;omega),hX.cell (p:=(xd (w+1) 2)) (by show w.heap.size+1<W.heap.size;omega),hW];exact⟨by simp[go_sem],by simp[go_sem]⟩
 have HC:=qH1 (yQx (h.below hb) (h'.below hb) hn);clear h h' hn hn';go_enter func21,ntmps21;go_wp2_with fail;rw[<-hW];refine HC.mono ?_;rintro e w1 ⟨rfl,a0⟩;obtain⟨z1,z2⟩:=HB.out w1 a0;clear hW;go_wp2;go_ret;exact⟨rfl,hb.trans (a0.mono hb.size)⟩
theorem yJx {ok:Bool} {c ops:Nat} (h:RowC w base (.slice a n c) es) (hn:n=es.length) (hl:es.length<=1048576):
  Calls prog 26 #[.agg #[ok,.slice a n c,xi ops],xi 1] w λe w'=>∃fs,e=.returned (xi (1+(n:Int)*5))/\RowC w' base (.slice a n c) fs/\fs.length=es.length/\yEd 1 fs fs.length/\Chg (λk=>(Value.slice a n c).ownBlock=some k) w w':=by
 obtain⟨W,hW⟩:=qW (xw w #[ok,.slice a n c,xi ops] 39);have hb:=qN hW
 have HC:=yLg (h.below hb) hn hl;have a0:=qH1 HC;clear h hn HC;go_enter func26,ntmps26;go_wp2_with fail;rw[<-hW];refine a0.mono ?_;rintro e w1 ⟨fs,rfl,h1,h2,h3,h4⟩;have HE:=qH4 h1 h2 h3 ((Chg.of_below hb).trans (Chg.of_grown h4 (λk q=>q)));clear hW h1 h2 h3 h4;go_wp2;go_ret;exact⟨fs,rfl,HE.out⟩
theorem yJ7 {ok:Bool} {c ops:Nat} (h:RowC w base (.slice a n c) es) (hn:n=es.length) (hl:es.length<=1048576) (hm:yEd 1 es es.length):
  (xf 27 #[.agg #[ok,.slice a n c,xi ops],xi 1] w (xi (1+(n:Int)*5)):Prop):=by
 obtain⟨W,hW⟩:=qW (xw w #[ok,.slice a n c,xi ops] 39);have hb:=qN hW
 have HC:=qH1 (yLo (h.below hb) hn hl hm);have hk:¬(1+(n:Int)*5<0):=qo
 clear h hn;go_enter func27,ntmps27;go_wp2_with fail;rw[<-hW];refine HC.mono ?_;rintro e w1 ⟨rfl,a0⟩;clear hW;go_wp2;go_ret;exact⟨rfl,hb.trans (a0.mono hb.size)⟩
def cdB (cv mv:Value) (bs:List Bk) (k:Nat):Prop:=cv.ownBlock=some k∨mv.ownBlock=some k∨∃x∈bs,x.v.ownBlock=some k
variable {M:List Ix}
theorem CdO.blk {mv:Value} (h:CdO w base cv mv bs M) (hk:cdB cv mv bs k):base<=k/\k<w.heap.size:=by
 rcases hk with q|q|⟨x,hx,q⟩
 .exact h.row.blk q
 .exact h.main.blk q
 .exact(h.each x hx).blk q
theorem CdO.below {mv:Value} (h:CdO w base cv mv bs M) (hb:Below w w w'):CdO w' base cv mv bs M:=⟨h.row.below hb,h.each.below hb,h.main.below hb,h.pw,h.apt⟩
theorem yP1 {mv:Value} {cnt:Int} (h:CdO w base cv mv bs M) (k:Int) (h0:0<k) (h1:k<=2^28) (ht:yA6 bs<=2^28) (he:∀x∈bs,x.l.length<=1048576) (hml:M.length<=1048576):
  Calls prog 24 #[.agg #[cv,mv,xi cnt],xi k] w λe w'=>e=.returned (xi (k+yA6 bs+M.length*11))/\Chg (cdB cv mv bs) w w':=by
 obtain⟨ca,cc,a9⟩:=h.row.slice;obtain⟨ma,mc,a6⟩:=h.main.slice;obtain⟨cn,aa⟩:=qE bs.length;obtain⟨mn,a0⟩:=qE M.length;rw[<-aa]at a9;rw[<-a0]at a6;subst a9 a6;clear aa;obtain⟨W0,a2⟩:=qW (xw w #[.slice ca cn cc,.slice ma mn mc,xi cnt] 34);have ab:=qN a2
 have ad:Hid (yA W0 w 34 3 w [.slice ca cn cc,.slice ma mn mc,xi cnt]):=by rw[a2];exact yAa w _ qr rfl
 have HU:=qH3 (h.below ab) h a0;have HC:=qH1 (yLh _ _ bs k W0 HU.1.row HU.1.each h.pw h0 h1 ht he);have ah:k+(yA6 bs:Int)<=2^29:=qo
 have q0:=ad.cell (j:=0) rfl;rw[<-a0];rw[<-a0]at hml;clear h a0 he;obtain⟨tl,a3⟩:=qE (yA6 bs);have al:=qH1 a3;rw[<-a3]at ah ht⊢;clear a3;go_enter func24,ntmps24;go_upto_region 1 with fail;rw[<-a2];clear a2;go_wp2_with fail;refine HC.mono ?_;rintro e w1 ⟨fs,rfl,aj,ak,af,ag,a1⟩;rw[<-al.out];have a4:∀j,MkS (.slice ca cn cc) (bs.map Bk.v) j->cdB (.slice ca cn cc) (.slice ma mn mc) bs j:=λj hj=>by
  rcases hj with q|⟨v,hv,q⟩
  .exact .inl q
  .obtain⟨x,hx,rfl⟩:=List.mem_map.1 hv;exact .inr (.inr ⟨x,hx,q⟩)
 have a5:¬MkS (.slice ca cn cc) (bs.map Bk.v) w.heap.size:=λq=>qw ((HU.2.1.blk (a4 _ q)).2)
 have ac:=qH1 (ad.chg a1 a5);have a7:RowX w1 base (.slice ma mn mc) M:=HU.1.main.chg a1 (λj hj q=>by
  rcases q with q|⟨v,hv,q⟩
  .exact yE6 HU.1.main HU.1.row j hj q
  .obtain⟨x,hx,rfl⟩:=List.mem_map.1 hv
   exact HU.2.1.apt x hx (q.trans hj.symm))
 have H1:=qH1 ((Chg.of_below ab).trans (a1.mono a4));have am:Hid (Calls prog 68 #[.agg #[.slice ma mn mc,xi cnt],xi (k+(tl:Int))] w1 λe w'=>
   ∃R',e=.returned (xi (k+(tl:Int)+(mn:Int)*11))/\RowX w' base (.slice ma mn mc) R'/\R'.length=M.length/\yCt (k+(tl:Int)) R' R'.length/\w1.grownBy w' (Value.slice ma mn mc).ownBlock):=by
  rw[HU.2.2];have h9:=yN5 base (.slice ma mn mc) cnt M (k+(tl:Int)) w1 a7 qo qo (by rw[<-HU.2.2];exact hml);rw[HU.2.2]at h9;exact h9
 clear aj ak af ag a1 a5 a7 a4 q0;have q1:=ac.cell (j:=1) rfl;have q2:=ac.cell (j:=2) rfl;go_wp2_with fail;refine am.mono ?_;rintro e w2 ⟨R,rfl,ai,hl2,ae,a8⟩;have HR:=qH1 (H1.trans (Chg.of_grown a8 (λj hj=>.inr (.inl hj))));clear ai hl2 ae a8;go_wp2;go_ret;exact⟨rfl,HR.out⟩
theorem yKe (x y:Bk) (w:World) (h:yAy w x.v x.l) (h':yAy w y.v y.l) (hv:x.vw=y.vw):
  Calls prog 65 #[x.val,y.val] w λe w'=>e=.returned (.bool true)/\Below w w w':=by
 have hu:=h.cells;have a1:=h'.cells;obtain⟨v,cnt,l⟩:=x;obtain⟨v',a4,l'⟩:=y;simp only[Bk.vw,Prod.mk.injEq]at hv;obtain⟨rfl,rfl⟩:=hv;have HE:Hid (yAy w v l/\yAy w v' l):=⟨h,h'⟩;simp only at hu a1;clear h h';go_enter func65,ntmps65;go_wp2_with fail;have k0:Below w w (xw (w.alloc (Obj.cells #[v,xi cnt] 32)) #[v',xi cnt] 32):=(qB).alloc (by simp) _;refine(yWw v v' l _ (HE.1.below k0 qr) (HE.2.below k0 qr)).mono ?_;rintro e w1 ⟨rfl,a0⟩;obtain⟨a3,a2⟩:=yOw a0;go_wp2;go_ret;exact⟨rfl,k0.trans (a0.mono (by simp;omega))⟩
theorem yOh (b off cap b' off' cap':Nat) (bs bs':List Bk) (w:World) (hE:yK0 w b off bs) (hE':yK0 w b' off' bs') (hv:bs.map Bk.vw=bs'.map Bk.vw) (hB:b<w.heap.size) (hB':b'<w.heap.size) (hlen:bs.length<=maxLen):
  Calls prog 64 #[.slice (some ⟨b,off,none⟩) bs.length cap,.slice (some ⟨b',off',none⟩) bs.length cap'] w λe w'=>
   e=.returned true/\Below w w w':=by
 have HE:=qH3 hE hE' hv;clear hE hE' hv;unfold maxLen at hlen;go_enter func64,ntmps64;go_wp2;go_loopw[5] (λi wr=>∃(k:Nat),k<=bs.length/\i=(xi k)/\Below w.heap.size w wr) (λi _=>bs.length-(intOf i).toNat);case atStart=>exact⟨0,zero_le _,rfl,Below.refl _ _⟩
 case round=>
  obtain⟨k,hk,rfl,hb⟩:=hrel;have a4:=hb.size;by_cases hlt:k<bs.length
  .obtain⟨x,hx⟩:∃x,bs[k]?=some x:=⟨_,getElem?_eq_getElem hlt⟩;have a1:=congrArg List.length HE.2.2;simp only[length_map]at a1;obtain⟨y,hy⟩:∃y,bs'[k]?=some y:=⟨_,getElem?_eq_getElem qo⟩;obtain⟨c0,c1,hI⟩:=HE.1.below hb hB k x hx;obtain⟨d0,d1,hJ⟩:=HE.2.1.below hb hB' k y hy;have a0:x.vw=y.vw:=by have:=congrArg (λl=>l[k]?) HE.2.2;simp only[getElem?_map,hx,hy]at this;exact Option.some.inj this
   have HX:=qH3 hI hJ a0;have hu:=hI.cells;have a3:=hJ.cells;clear hx hy hI hJ a0 a1;go_upto_region 6 with fail;go_cut[26] (λs wx=>s=.bool false/\Below w.heap.size w wx);case first=>
    have z2:(k:Int)<(bs.length:Int):=qo
    go_region_with (go_at_call 65;refine(yKe x y _ (HX.1.below (Below.refl _ _).drew qr) (HX.2.1.below (Below.refl _ _).drew qr) HX.2.2).mono ?_;rintro e' w' ⟨rfl,a2⟩);all_goals go_wp2_with fail
    all_goals go_meet
    all_goals exact⟨rfl,hb.drew.trans (a2.mono (by simp;omega))⟩
   case rest=>
   obtain⟨rfl,h3⟩:=hcut;clear c0 c1 d0 d1;exact xDx
  .go_wp2;go_ret;exact⟨rfl,hb⟩
theorem yEh (a a':Option Addr) (cap cap':Nat) (w:World):
  (xf 64 #[.slice a 0 cap,.slice a' 0 cap'] w true:Prop):=by
 go_enter func64,ntmps64;exact xD2
theorem yQy (u u':Value) (bs bs':List Bk) (w:World) (h:yCg w u bs) (h':yCg w u' bs') (hv:bs.map Bk.vw=bs'.map Bk.vw):
  (xf 64 #[u,u'] w true:Prop):=by
 have a1:=congrArg List.length hv;simp only[length_map]at a1;rcases h with⟨a,cap,rfl,rfl⟩|⟨b,off,cap,rfl,hE,a5,g1,g2⟩
 .rcases h' with⟨a',a0,rfl,_⟩|⟨b',a2,a0,rfl,a4,a3,a7,a6⟩
  .exact yEh a a' cap a0 w
  .rw[<-a1];exact yEh a _ cap a0 w
 .rcases h' with⟨a',a0,rfl,rfl⟩|⟨b',a2,a0,rfl,a4,a3,a7,a6⟩
  .rw[a1];exact yEh _ a' cap a0 w
  .rw[<-a1];exact yOh b off cap b' a2 a0 bs bs' w hE a4 hv a5 a3 (Nat.le_trans g1 g2)
theorem yWx (u u':Value) (bs bs':List Bk) (m m':Bk) (w:World) (h:yCg w u bs) (h':yCg w u' bs') (hv:bs.map Bk.vw=bs'.map Bk.vw) (hm:yAy w m.v m.l) (hm':yAy w m'.v m'.l) (hmv:m.vw=m'.vw):
  Calls prog 22 #[.agg #[u,m.v,.int .i64 m.cnt],.agg #[u',m'.v,.int .i64 m'.cnt]] w λe w'=>e=.returned (.bool true)/\Below w w w':=by
 have HE:=qH6 h h' hv hm hm' hmv;have hu:=h.cells;have a8:=h'.cells;have a7:=hm.cells;have a6:=hm'.cells;clear h h' hv hm hm' hmv;obtain⟨W0,a3⟩:=qW (xw (w.alloc (Obj.cells #[u,m.v,xi m.cnt] 34)) #[u',m'.v,xi m'.cnt] 34);have k0:Below w w W0:=by rw[a3];exact(qB).alloc (by simp) _
 have a5:W0.heap.size=w.heap.size+1+1:=by rw[a3];simp
 have HK:Hid (∀wx,Below W0 W0 wx->xk wx w 0 u/\xk wx w 1 m.v/\xk wx w 2 (xi m.cnt)/\xk wx (w+1) 0 u'/\xk wx (w+1) 1 m'.v/\xk wx (w+1) 2 (xi m'.cnt)):=by
  intro wx hx;have e1:w.heap.size<W0.heap.size:=qo
  have e2:w.heap.size+1<W0.heap.size:=qo
  rw[hx.cell (p:=(xd w 0)) e1,hx.cell (p:=(xd w 1)) e1,hx.cell (p:=(xd w 2)) e1,hx.cell (p:=(xd (w+1) 0)) e2,hx.cell (p:=(xd (w+1) 1)) e2,hx.cell (p:=(xd (w+1) 2)) e2,a3];refine⟨?_,?_,?_,?_,?_,?_⟩<;>simp[go_sem]
 obtain⟨a0,a1,a2,b0,b1,b2⟩:=HK.out W0 (Below.refl _ _);go_enter func22,ntmps22;go_upto_region 1 with fail;rw[<-a3];clear a3;go_wp2_with fail;refine(yQy u u' bs bs' _ (HE.1.below k0) (HE.2.1.below k0) HE.2.2.1).mono ?_;rintro e w1 ⟨rfl,a4⟩;have s1:=a4.size;have k1:=k0.trans (a4.mono qo);clear a0 a1 a2 b0 b1 b2;obtain⟨a0,a1,a2,b0,b1,b2⟩:=HK.out w1 a4;go_wp2_with fail;refine(yKe m m' _ (HE.2.2.2.1.below k1 qr) (HE.2.2.2.2.1.below k1 qr) HE.2.2.2.2.2).mono ?_;rintro e w2 ⟨rfl,hb2⟩;go_wp2;go_ret;exact⟨rfl,k1.trans (hb2.mono qo)⟩
theorem Tryz.cellsBk:prog.cellsOf 49=2:=qk
theorem Tryz.cellsIxs:prog.cellsOf 47=1:=qk
theorem xFe {α:Type} {cs:List α} (h:cs.length=2):∃c0 c1,cs= [c0,c1]:=by
 match cs,h with
 | [c0,c1],_=>exact⟨c0,c1,rfl⟩
variable {H:Type} {held:Bool} {fuel:Nat}
theorem yMw {enc:TypeId×Value->H} {cs:List Value} {x:DataW H×List MemPlace}
  (h:DataW.trod enc prog w base (λ_=>true) held fuel 49 cs=some x):∃e:Bk,e.ok/\cs=e.two/\yAy w e.v e.l:=by
 obtain⟨xs,n,_,_,hl,a0,hf⟩:=DataW.trod_struct underlying49 h;rw[Tryz.cellsBk]at hl;obtain⟨c0,c1,rfl⟩:=xFe hl;obtain⟨x0,x1,rfl⟩:=xFe (cs:=xs) a0;have h0:=hf 0 _ rfl;have h1:=hf 1 _ rfl;simp[Tryz.cellsIxs,Tryz.cellsI64]at h0 h1;obtain⟨es,a2,ok⟩:=yTi h0;obtain⟨a1,e1,_,b1⟩:=DataW.trod_int underlying2 h1;simp only[List.cons.injEq,and_true]at e1;exact⟨⟨c0,a1,es⟩,⟨b1,ok⟩,by rw[e1],a2⟩
theorem yT3 {enc:TypeId×Value->H} {v:Value} {x:DataW H×List MemPlace}
  (h:DataW.trod enc prog w base (λ_=>true) held fuel 46 [v]=some x):∃es:List Bk,yCg w v es/\∀e∈es,e.ok:=by
 rcases open_slice underlying46 h with⟨hcs,_⟩|⟨a,len,cap,m,n,D,Pl,hcs,a7,hl,hm,a3,_,a4⟩
 .exact xDt
 .simp only[List.cons.injEq,and_true]at hcs;subst hcs;rw[if_pos rfl]at a3;subst a3;have a1:∀i,i<m->∃cs',w.cells? base (a.add (i*2)) 2=some cs'/\DataW.trod enc prog w base (λ_=>true) held n 49 cs'=some (D i,Pl i):=λi hi=>by have:=a4 i hi;rw[Tryz.cellsBk]at this;exact this
  clear a4;have HM:=qH1 hm;clear hm;by_cases h0:len=0
  .subst h0;exact⟨[],.inl ⟨_,_,rfl,rfl⟩,by simp⟩
  .obtain⟨b,off,a2⟩:=a;have a5:a2=none:=by
    obtain⟨cs',hc,_⟩:=a1 0 qo;obtain⟨_,a6,a0⟩:=World.cells?_some hc;have h1:=a0 0 qo;have h2:(w.cell? ((Addr.add ⟨b,off,a2⟩ (0*2)).add 0)).isSome=true:=by rw[h1];simp;omega
    obtain⟨u,hu⟩:=Option.isSome_iff_exists.1 h2;simpa [Addr.add]using World.cell?_spot hu
   subst a5;obtain⟨es,hes,hp⟩:=yC0 (P:=λi (e:Bk)=>e.ok/\(xk w b (off+i*2) e.v/\xk w b (off+i*2+1) (xi e.cnt)/\yAy w e.v e.l)) len (λi hi=>by
    obtain⟨cs',hc,ht⟩:=a1 i qo
    obtain⟨e,ok,rfl,hI⟩:=yMw ht
    obtain⟨_,a6,a0⟩:=World.cells?_some hc
    refine⟨e,ok,?_,?_,hI⟩
    .simpa [Addr.add_mid]using a0 0 qo
    .simpa [Addr.add_mid]using a0 1 qo)
   have hlt:b<w.heap.size:=by obtain⟨cs',hc,_⟩:=a1 0 qo;simpa [Addr.add]using World.cells?_block hc qo
   exact xD0
set_option maxRecDepth 100000 in
theorem yYt {enc:TypeId×Value->H} {b0:Nat} {r:Reach} {v:Value} {d:DataW H} {p:List MemPlace}
  (hv:Value.okWide prog w r b0 51 v) (h:DataW.Trod enc prog w base (λ_=>true) held 51 v d p):
  ∃(u:Value) (bs:List Bk) (m:Bk),v=.agg #[u,m.v,xi m.cnt]/\yCg w u bs/\(∀x∈bs,x.ok)/\yAy w m.v m.l/\m.ok:=by
 obtain⟨cs,rfl,a0⟩:=okWide_struct underlying51 hv;obtain⟨fuel,hf⟩:=h;have h1:prog.cellsOf 51=3:=qk
 have h2:prog.cellsOf 46=1:=qk
 obtain⟨xs,n,_,_,hl,a3,a1⟩:=DataW.trod_struct underlying51 hf;rw[h1]at a0;obtain⟨l⟩:=cs;match l,a0 with
 | [u,c1,c2],_=>
   obtain⟨x0,x1,rfl⟩:=xFe (cs:=xs) a3;have t0:=a1 0 _ rfl;have t1:=a1 1 _ rfl;simp[h2,Tryz.cellsBk,Value.cells]at t0 t1;obtain⟨bs,hb,ok⟩:=yT3 t0;obtain⟨m,a2,he,hI⟩:=yMw t1;simp only[List.cons.injEq,and_true]at he;exact⟨u,bs,m,by rw[he.1,he.2],hb,ok,hI,a2⟩
theorem yR3 (r f q v:ByteArray) (t left:Int) (w:World) (hr:r.size<=maxLen) (hf:f.size<=maxLen) (hq:q.size<=maxLen) (hv:v.size<=maxLen) (h0:0<=left) (h1:left<=2^40):
  Calls prog 55 #[.agg #[r,f,q,xu t,v],xi left] w λe w'=>
   ∃x,e=.returned (xi x)/\(x= -1∨(0<=x/\x+r.size+f.size+q.size+v.size=left))/\Below w w w':=by
 unfold maxLen at hr hf hq hv;go_enter func55,ntmps55;go_wp2
 .go_ret;exact⟨_,rfl,.inl rfl,qB⟩
 .go_ret;exact⟨_,rfl,.inl rfl,qB⟩
 .go_ret;exact⟨_,rfl,.inl rfl,qB⟩
 .go_ret;exact⟨_,rfl,.inl rfl,qB⟩
 .go_ret;exact⟨_,rfl,.inr ⟨by assumption,qo⟩,qB⟩
theorem yRz (r f q v:ByteArray) (t:Int) (w:World):
  Calls prog 63 #[.agg #[r,f,q,xu t,v]] w λe w'=>
   e=.returned (.agg #[r,f,q,xu t,v])/\Below w w w':=by
 go_enter func63,ntmps63;go_wp2;refine bodyPost_ret (v:=.agg #[r,f,q,xu t,v]) (by simp[results,results63,go_sem]) rfl ⟨rfl,?_⟩;exact((qB).alloc (by simp) _).alloc (by simp;omega) _
theorem Tryz.cellsCel:prog.cellsOf 108=5:=qk
theorem xH0 {α:Type} {cs:List α} (h:cs.length=5):∃c0 c1 c2 c3 c4,cs= [c0,c1,c2,c3,c4]:=by
 match cs,h with
 | [c0,c1,c2,c3,c4],_=>exact⟨c0,c1,c2,c3,c4,rfl⟩
theorem yTy {enc:TypeId×Value->H} {spare:Nat->Bool} {cs:List Value} {x:DataW H×List MemPlace}
  (h:DataW.trod enc prog w base spare held fuel 108 cs=some x):
  ∃e:Ent,e.ok/\cs= [.string e.row,.string e.fam,.string e.qual,.int .u64 e.ts,.string e.val]:=by
 obtain⟨xs,n,_,_,hl,a4,hf⟩:=DataW.trod_struct underlying108 h;rw[Tryz.cellsCel]at hl;obtain⟨c0,c1,c2,c3,c5,rfl⟩:=xH0 hl;obtain⟨x0,x1,x2,x3,x5,rfl⟩:=xH0 (cs:=xs) a4;have h0:=hf 0 _ rfl;have h1:=hf 1 _ rfl;have h2:=hf 2 _ rfl;have h3:=hf 3 _ rfl;have h5:=hf 4 _ rfl;simp[Tryz.cellsStr,Tryz.cellsU64]at h0 h1 h2 h3 h5;obtain⟨a0,e0,_,b0⟩:=DataW.trod_string underlying9 h0;obtain⟨a1,e1,_,b1⟩:=DataW.trod_string underlying9 h1;obtain⟨a2,e2,_,b2⟩:=DataW.trod_string underlying9 h2;obtain⟨a3,e3,_,b3⟩:=DataW.trod_int underlying68 h3;obtain⟨a5,e5,_,b5⟩:=DataW.trod_string underlying9 h5;simp only[List.cons.injEq,and_true]at e0 e1 e2 e3 e5;exact⟨⟨a0,a1,a2,a3,0,a5⟩,⟨b0,b1,b2,b5,b3,(show(Lit.int .i64 0).wf=true by decide)⟩,by rw[e0,e1,e2,e3,e5]⟩
def yEz (w:World) (v:Value) (es:List Ent):Prop:=
 (∃a cap,v=.slice a 0 cap/\es= [])∨
 ∃b off cap,v=.slice (some ⟨b,off,none⟩) es.length cap/\yA4 w b off es/\b<w.heap.size/\es.length<=cap/\cap<=maxLen
theorem yEz.below {B:Nat} {v:Value} (h:yEz w v es) (hb:Below B w w') (hB:w.heap.size<=B):yEz w' v es:=by exact xAq
theorem yRc {enc:TypeId×Value->H} {v:Value} {x:DataW H×List MemPlace}
  (h:DataW.trod enc prog w base (λ_=>true) held fuel 52 [v]=some x):∃es:List Ent,yEz w v es/\∀e∈es,e.ok:=by
 rcases open_slice underlying52 h with⟨hcs,_⟩|⟨a,len,cap,m,n,D,Pl,hcs,a7,hl,hm,a3,_,a4⟩
 .exact xDt
 .simp only[List.cons.injEq,and_true]at hcs;subst hcs;rw[if_pos rfl]at a3;subst a3;have a1:∀i,i<m->∃cs',w.cells? base (a.add (i*5)) 5=some cs'/\DataW.trod enc prog w base (λ_=>true) held n 108 cs'=some (D i,Pl i):=λi hi=>by have:=a4 i hi;rw[Tryz.cellsCel]at this;exact this
  clear a4;have HM:=qH1 hm;clear hm;by_cases h0:len=0
  .subst h0;exact⟨[],.inl ⟨_,_,rfl,rfl⟩,by simp⟩
  .obtain⟨b,off,a2⟩:=a;have a5:a2=none:=by
    obtain⟨cs',hc,_⟩:=a1 0 qo;obtain⟨_,a6,a0⟩:=World.cells?_some hc;have h1:=a0 0 qo;have h2:(w.cell? ((Addr.add ⟨b,off,a2⟩ (0*5)).add 0)).isSome=true:=by rw[h1];simp;omega
    obtain⟨u,hu⟩:=Option.isSome_iff_exists.1 h2;simpa [Addr.add]using World.cell?_spot hu
   subst a5
   obtain⟨es,hes,hp⟩:=yC0 (P:=λi (e:Ent)=>e.ok/\(xk w b (off+i*5) e.row/\xk w b (off+i*5+1) e.fam/\xk w b (off+i*5+2) (.string e.qual)/\
     w.cell? (xd b (off+i*5+3))=some (.int .u64 e.ts)/\w.cell? (xd b (off+i*5+4))=some (.string e.val))) len (λi hi=>by
    obtain⟨cs',hc,ht⟩:=a1 i qo
    obtain⟨e,ok,rfl⟩:=yTy ht
    obtain⟨_,a6,a0⟩:=World.cells?_some hc
    refine⟨e,ok,?_,?_,?_,?_,?_⟩
    .simpa [Addr.add_mid]using a0 0 qo
    .simpa [Addr.add_mid]using a0 1 qo
    .simpa [Addr.add_mid]using a0 2 qo
    .simpa [Addr.add_mid]using a0 3 qo
    .simpa [Addr.add_mid]using a0 4 qo)
   have hlt:b<w.heap.size:=by obtain⟨cs',hc,_⟩:=a1 0 qo;simpa [Addr.add]using World.cells?_block hc qo
   exact xD0
theorem yP (b off cap:Nat) (es:List Ent) (left:Int) (w:World) (hE:yA4 w b off es) (hok:∀e∈es,e.ok) (hB:b<w.heap.size) (hlen:es.length<=cap) (hcap:cap<=maxLen) (h0:0<=left) (h1:left<=2^40):
  Calls prog 17 #[.slice (some ⟨b,off,none⟩) es.length cap,xi left] w λe w'=>
   ∃x,e=.returned (xi x)/\(x= -1∨(0<=x/\x+es.length<=left))/\Below w w w':=by
 have HE:=qH1 hE;have HO:=qH1 hok;clear hE hok;unfold maxLen at hcap;by_cases hle:left<es.length
 .have a0:left-es.length<0:=qo
  go_enter func17,ntmps17;go_wp2;go_ret;exact⟨_,rfl,.inl rfl,Below.refl _ _⟩
 have a0:0<=left-es.length:=qo
 go_enter func17,ntmps17;go_wp2;go_loopw[1,5] (λl i wr=>∃(k:Nat) (x:Int),k<=es.length/\i=(xi k)/\l=(xi x)/\0<=x/\x+es.length<=left/\Below w w wr) (λ_ i _=>es.length-(intOf i).toNat);case atStart=>exact⟨0,_,zero_le _,rfl,rfl,a0,qo,Below.refl _ _⟩
 case round=>
  obtain⟨k,x,hk,rfl,rfl,a3,a2,hb⟩:=hrel;by_cases hlt:k<es.length
  .obtain⟨e,he⟩:∃e,es[k]?=some e:=qg hlt;obtain⟨c0,c1,c2,c3,c5⟩:=(HE.below hb hB) k e he;have ok:=HO.out e (mem_of_getElem? he);have HK:=ok;clear ok he;go_wp2_with fail;refine(yR3 e.row e.fam e.qual e.val e.ts _ _ HK.row HK.fam HK.qual HK.val qo qo).mono ?_;rintro e w1 ⟨y,rfl,hy,a1⟩;have a4:=hb.size;have hb2:=hb.trans (a1.mono a4);clear c0 c1 c2 c3 c5 a1;exact xGj
  .go_wp2;go_ret;exact⟨_,rfl,.inr ⟨a3,a2⟩,hb⟩
theorem yO9 (a:Option Addr) (cap:Nat) (left:Int) (w:World) (h0:0<=left) (h1:left<=2^40):
  (xf 17 #[.slice a 0 cap,xi left] w (xi left):Prop):=by
 go_enter func17,ntmps17;exact xD5
theorem yR4 (v:Value) (es:List Ent) (left:Int) (w:World) (h:yEz w v es) (hok:∀e∈es,e.ok) (h0:0<=left) (h1:left<=2^40):
  Calls prog 17 #[v,xi left] w λe w'=>
   ∃x,e=.returned (xi x)/\(x= -1∨(0<=x/\x+es.length<=left))/\Below w w w':=by
 rcases h with⟨a,cap,rfl,rfl⟩|⟨b,off,cap,rfl,hE,a0,g1,g2⟩
 .exact(yO9 a cap left w h0 h1).mono λe w' ⟨he,hb⟩=>⟨left,he,.inr ⟨h0,by simp⟩,hb⟩
 .exact yP b off cap es left w hE hok a0 g1 g2 h0 h1
theorem yMd (n:Nat):(madeCells #[xe,xe,xe,xu 0,xe] (n*5)).toList=yBs (List.replicate n yXo):=by
 apply ext_getElem?;intro j;by_cases hj:j<n*5
 .have h:=yHw (List.replicate n yXo) (j/5) yXo (by rw[getElem?_replicate,if_pos (by omega)]) (j%5) (mod_lt _ (by omega));rw[show j/5*5+j%5=j by omega]at h;rw[h];have h6:j%5<5:=mod_lt _ qo;simp[madeCells,hj];generalize j%5=m at*;match m,h6 with
  |0,_=>rfl
  |1,_=>rfl
  |2,_=>rfl
  |3,_=>rfl
  |4,_=>rfl
 .have h1:(yBs (List.replicate n yXo)).length<=j:=by rw[yCi,length_replicate];omega
  rw[getElem?_eq_none h1];simp[madeCells,hj]
theorem OwnC.put {g:Nat} (h:OwnC w base g cap es) (k:Nat) (f e:Ent) (hk:es[k]?=some f):
  OwnC (xt ((((w.setCell (xd g (k*5)) e.row).setCell (xd g (k*5+1)) e.fam).setCell (xd g (k*5+2)) e.qual).setCell (xd g (k*5+3)) (xu e.ts)) g (k*5+4) e.val) base g cap (es.set k e):=by
 have a0:=qf hk;have g1:=h.set k 0 f {f with row:=e.row} e.row hk qo rfl;have g2:=g1.set k 1 {f with row:=e.row} {f with row:=e.row,fam:=e.fam} e.fam (by simp[a0]) qo rfl;have g3:=g2.set k 2 {f with row:=e.row,fam:=e.fam} {f with row:=e.row,fam:=e.fam,qual:=e.qual} e.qual (by simp[a0]) qo rfl;have g4:=g3.set k 3 {f with row:=e.row,fam:=e.fam,qual:=e.qual} {f with row:=e.row,fam:=e.fam,qual:=e.qual,ts:=e.ts} (xu e.ts) (by simp[a0]) qo rfl;have g5:=g4.set k 4 {f with row:=e.row,fam:=e.fam,qual:=e.qual,ts:=e.ts} e e.val (by simp[a0]) qo rfl;simpa only[set_set,Nat.add_zero]using g5
theorem yXb {B:Nat} {a:World} (h:Below B a w) {g:Nat} (hg:B<=g) (o0 o1 o2 o3 o4:Nat) (v0 v1 v2 v3 v4:Value):
  Below B a (xt ((((w.setCell (xd g o0) v0).setCell (xd g o1) v1).setCell (xd g o2) v2).setCell (xd g o3) v3) g o4 v4):=
 ((((h.setCell hg _).setCell hg _).setCell hg _).setCell hg _).setCell hg _
theorem yO6 (b off cap:Nat) (es:List Ent) (w:World) (hE:yA4 w b off es) (hB:b<w.heap.size) (hlen:es.length<=cap) (hcap:cap<=maxLen) (h1:es.length<=1048576):
  Calls prog 20 #[.slice (some ⟨b,off,none⟩) es.length cap] w λe w'=>
   ∃g,e=.returned (xg g es.length es.length)/\OwnC w' w g es.length es/\Below w w w':=by
 have HE:=qH1 hE;clear hE;unfold maxLen at hcap;obtain⟨i,hi,a3,a2,a1⟩:=info_parts Tryz.infoCel;have HI:=qH4 hi a3 a2 a1;clear hi a3 a2 a1;go_enter func20,ntmps20;go_wp2_with (at_make;refine wpList_make_full _ rfl _ _ 26 rfl w 70 i _ 5 underlying26 HI.1 HI.2.1 HI.2.2.1 _ _ _ _ es.length rfl rfl ?_ ?_ ?hb ?hm ?hs ?_);case hb=>rw[HI.2.2.2];omega
 case hm=>unfold maxLen;omega
 case hs=>exact Nat.le_refl _
 .rfl
 .rfl
 intro w1 a0 a5;rw[yMd]at a0;have a4:OwnC w1 w w es.length (List.replicate es.length yXo):=by unfold OwnC;rw[length_replicate];exact a0
 have HW:=qH1 a4;have a9:=(Below.refl _ _).grown a5 qr (λk hk=>by cases hk);clear a0 a4 a5;go_wp2;go_loopw[4] (λi wr=>∃(k:Nat) (fs:List Ent),k<=es.length/\i=(xi k)/\fs.length=es.length/\fs.take k=es.take k/\OwnC wr w w es.length fs/\Below w w wr) (λi _=>es.length-(intOf i).toNat);case atStart=>exact⟨0,_,zero_le _,rfl,length_replicate ..,rfl,HW.out,a9⟩
 case round=>
  obtain⟨k,fs,hk,rfl,a7,a6,hO,hb⟩:=hrel;have HO:=qH3 a7 a6 hO;clear a7 a6 hO;by_cases hlt:k<es.length
  .obtain⟨e,he⟩:∃e,es[k]?=some e:=qg hlt;obtain⟨c0,c1,c2,c3,c5⟩:=(HE.below hb hB) k e he;have HG:=qH1 he;clear he;go_wp2_with fail;refine(yRz e.row e.fam e.qual e.val e.ts _).mono ?_;rintro e' w2 ⟨rfl,hb2⟩;have hO2:=(HO.2.2).below hb2 (HO.2.2).lt.2;obtain⟨f,hf⟩:∃f,fs[k]?=some f:=qg (by rw[HO.1];exact hlt);obtain⟨d0,d1,d2,d3,d5⟩:=hO2.at k f hf;simp only[Nat.zero_add]at d0 d1 d2 d3 d5;have aa:=λj=>World.ownsRow.frozenAt hO2 j;have a8:=qH2 hO2 hf;clear hO2 hf c0 c1 c2 c3 c5;refine zY ?_;exact⟨k+1,fs.set k e,qo,by go_num,by rw[length_set];exact HO.1,yM6 HO.2.1 HO.1 HG.out,a8.1.put k f e a8.2,yXb (hb.trans (hb2.mono hb.size)) qr _ _ _ _ _ _ _ _ _ _⟩
  .exact xGd
theorem yO5 (a:Option Addr) (cap:Nat) (w:World):
  Calls prog 20 #[.slice a 0 cap] w λe w'=>
   ∃g,e=.returned (xg g 0 0)/\OwnC w' w g 0 []/\Below w w w':=by
 obtain⟨i,hi,a2,a1,a0⟩:=info_parts Tryz.infoCel;have HI:=qH4 hi a2 a1 a0;clear hi a2 a1 a0;go_enter func20,ntmps20;go_wp2_with (at_make;refine wpList_make_full _ rfl _ _ 26 rfl w 70 i _ 5 underlying26 HI.1 HI.2.1 HI.2.2.1 _ _ _ _ 0 rfl rfl ?_ ?_ ?hb ?hm ?hs ?_);case hb=>rw[HI.2.2.2];omega
 case hm=>unfold maxLen;omega
 case hs=>exact Nat.le_refl _
 .rfl
 .rfl
 intro w1 hown hgrow;have HW:Hid (OwnC w1 w w 0 []):=by have h0:=yMd 0;rw[Nat.zero_mul]at h0;rw[h0]at hown;exact hown
 exact xGn
theorem yD9 (v:Value) (es:List Ent) (w:World) (h:yEz w v es) (h1:es.length<=1048576):
  Calls prog 20 #[v] w λe w'=>
   ∃g,e=.returned (xg g es.length es.length)/\OwnC w' w g es.length es/\Below w w w':=by
 rcases h with⟨a,cap,rfl,rfl⟩|⟨b,off,cap,rfl,hE,a0,g1,g2⟩
 .exact yO5 a cap w
 .exact yO6 b off cap es w hE a0 g1 g2 h1
end Go.Proofs.YtnnagkfoiganfaaGreatDoor
