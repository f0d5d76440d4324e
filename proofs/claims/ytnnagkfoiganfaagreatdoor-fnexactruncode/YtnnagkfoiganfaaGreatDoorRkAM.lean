import Derived.Test.YtnnagkfoiganfaaGreatDoorRkAK
import Derived.Test.YtnnagkfoiganfaaGreatDoorRkAL
import Derived.Test.YtnnagkfoiganfaaGreatDoorRkAJ
namespace Go.Proofs.YtnnagkfoiganfaaGreatDoor
open Go.ChangeShapes Go.WideShapes Go.ChangeAt Go.RowKit Go.Deep XD XI XU XG XP XK XW XT XF XE XH _root_.List _root_.Nat Go.Maps Go.Proofs.Tryz
set_option linter.unusedVariables false
set_option linter.unusedSimpArgs false
set_option maxRecDepth 100000
set_option maxHeartbeats 40000000
abbrev InB(lo hi k:Nat):Prop:=lo<=k/\k<hi
structure MchJ(w:World)(lo hi M:Nat)(p:ByteArray)(T:Nat->PS)(G cp a:Nat)(E:Nat->PS)(en:PS)(mp:Nat)(os:List (List Pat))(n:Nat):Prop where
 gr:AltG (yAm n) os (sb p)
 chk:(yAj (sb p)).1=0
 mtr:MtrI w lo M T G cp a E en mp
 map:StU w mp E en
 tk:∀b p,T b p=true->p<a
 pos:0<a
 le:a<=256
 low:lo<=mp
 hM:M<hi
 hG:G<hi
 hm:mp<hi
 acc:∀s:List UInt8,acc en (runS E T (sOne 0) s)=true↔LgA os s
def yH2(w:World)(lo hi M:Nat)(p:ByteArray):Prop:=∃T G cp a E en mp os n,MchJ w lo hi M p T G cp a E en mp os n
variable {w w':World} {base M:Nat}
theorem MtrI.chg2{S:Nat->Prop}{T:Nat->PS}{G cp a:Nat}{E:Nat->PS}{en:PS}{mp:Nat}(h:MtrI w base M T G cp a E en mp)(hc:Chg S w w')(hM:¬S M)(hG:¬S G)(h0:¬S 1):MtrI w' base M T G cp a E en mp:=
 ⟨h.box.chg hc hM,yAh h.row hc (λk q=>by simp[Value.ownBlock]at q;subst q;exact hG),h.new,h.tab.chg hc h0,h.low⟩
variable {t sz:Nat}
theorem ySg{base' n:Nat}{v:Value}{vs:List Value}(h:w.ownsRow base t sz v n vs)(hb:base'<=base):w.ownsRow base' t sz v n vs:=by exact xCp
variable {lo hi:Nat} {p:ByteArray}
theorem yH2.chg{S:Nat->Prop}(h:yH2 w lo hi M p)(hc:Chg S w w')(hS:∀k,S k->¬InB lo hi k)(ht:1<lo->¬S 1):yH2 w' lo hi M p:=by obtain⟨T,G,cp,a,E,en,mp,os,n,h⟩:=h;exact⟨T,G,cp,a,E,en,mp,os,n,h.gr,h.chk,h.mtr.chg2 hc (λq=>hS _ q ⟨h.mtr.ltM.1,h.hM⟩) (λq=>hS _ q ⟨h.mtr.ltG.1,h.hG⟩) (ht h.mtr.low),h.map.chg hc (λq=>hS _ q ⟨h.low,h.hm⟩),h.tk,h.pos,h.le,h.low,h.hM,h.hG,h.hm,h.acc⟩
theorem yH2.below(h:yH2 w lo hi M p)(hb:Below w w w'):yH2 w' lo hi M p:=h.chg (S:=λ_=>False) (Chg.of_below hb) (λk q=>q.elim) (λ_ q=>q)
def MtP(w:World)(lo hi M:Nat)(p s:ByteArray)(e:Ending)(w':World):Prop:=e=.returned (mtB p s)/\Hid (yH2 w' lo hi M p/\Chg (InB lo hi) w w')
theorem ySs(h:yH2 w lo hi M p)(s:ByteArray):Calls prog 218 #[xp M,s] w (MtP w lo hi M p s):=by
 obtain⟨T,G,cp,a,E,en,mp,os,n,h⟩:=h;by_cases hs:s.size<=200
 .refine(ySt s hs w h.mtr h.map h.tk h.pos h.le h.low).mono ?_;rintro e w' ⟨b,rfl,H⟩;have hb:MatB p s b:=.inr ⟨h.chk,n,os,h.gr,by rw[H.1,h.acc];exact⟨λq=>⟨hs,q⟩,λq=>q.2⟩⟩;rw[yY3 hb];exact⟨rfl,⟨T,G,cp,a,E,en,mp,os,n,h.gr,h.chk,H.2.1,H.2.2.1,h.tk,h.pos,h.le,h.low,h.hM,h.hG,h.hm,h.acc⟩,H.2.2.2.mono (λk q=>by subst q;exact⟨h.low,h.hm⟩)⟩
 .refine(yPz M s qo w).mono ?_;rintro e w' ⟨rfl,rfl⟩;have hb:MatB p s false:=.inr ⟨h.chk,n,os,h.gr,⟨λq=>(by cases q),λq=>absurd q.1 hs⟩⟩;exact⟨by rw[<-yY3 hb],⟨T,G,cp,a,E,en,mp,os,n,h⟩,Chg.refl _ _⟩
def PatK(k:Int):Prop:=k=4\/k=5\/k=6\/k=7
def yDm(w:World)(lo hi:Nat)(n:Nd)(mv:Value):Prop:=(¬PatK n.kind/\mv=.pointer none)\/(PatK n.kind/\∃M,mv=(xp M)/\yH2 w lo hi M n.s)
theorem yH2.wide{lo' hi':Nat}(h:yH2 w lo hi M p)(hl:lo'<=lo)(hh:hi<=hi')(ht:1<lo'):yH2 w lo' hi' M p:=by obtain⟨T,G,cp,a,E,en,mp,os,n,h⟩:=h;exact⟨T,G,cp,a,E,en,mp,os,n,h.gr,h.chk,⟨ySg h.mtr.box hl,ySg h.mtr.row hl,h.mtr.new,h.mtr.tab,ht⟩,h.map,h.tk,h.pos,h.le,Nat.le_trans hl h.low,Nat.lt_of_lt_of_le h.hM hh,Nat.lt_of_lt_of_le h.hG hh,Nat.lt_of_lt_of_le h.hm hh,h.acc⟩
variable {n:Nd}
theorem yDm.chg{S:Nat->Prop}{mv:Value}(h:yDm w lo hi n mv)(hc:Chg S w w')(hS:∀k,S k->¬InB lo hi k)(ht:1<lo->¬S 1):yDm w' lo hi n mv:=by
 rcases h with h|⟨h1,M,h2,h3⟩
 .exact .inl h
 .exact .inr ⟨h1,M,h2,h3.chg hc hS ht⟩
theorem yDm.below{mv:Value}(h:yDm w lo hi n mv)(hb:Below w w w'):yDm w' lo hi n mv:=h.chg (S:=λ_=>False) (Chg.of_below hb) (λk q=>q.elim) (λ_ q=>q)
def HoP(w:World)(lo hi:Nat)(n:Nd)(c:Ent)(mv:Value)(e:Ending)(w':World):Prop:=e=.returned (tstB n c)/\Hid (yDm w' lo hi n mv/\Chg (InB lo hi) w w')
theorem xH7(x:ByteArray)(n:Nd):inS x n=inR n.s n.hi n.t x:=rfl
theorem yYf(s t:ByteArray)(h:Bool)(w:World):(Instr.build 341 #[(0,s),(1,h),(2,t)]).run prog w=.ok (.agg #[s,h,t]) w:=qk
theorem yM5(n:Nd)(mp:Option Addr)(x:ByteArray)(w:World):(xf 219 #[.agg #[xi n.kind,n.s,n.hi,n.t,xu n.lo,xu n.up,xi n.n,.pointer mp],x] w (inS x n):Prop):=by
 have HI:Hid (∀w,(xf 235 #[.agg #[n.s,n.hi,n.t],x] w (inS x n):Prop)):=λw=>by rw[xH7];exact yIr n.s n.t x n.hi w
 have a2:=yYf n.s n.t n.hi;obtain⟨W1,a0⟩:=qW (xw w #[xi n.kind,n.s,n.hi,n.t,xu n.lo,xu n.up,xi n.n,.pointer mp] 286);have a1:Hid (Below w w W1):=by rw[a0];exact qB
 go_enter func219,ntmps219;go_wp2_with fail;rw[<-a0];clear a0 a2;refine(HI.out W1).mono ?_;rintro e w2 ⟨rfl,hb2⟩;have HE:=qH1 (a1.trans (hb2.mono a1.size));clear hb2;go_wp2;go_ret;exact⟨rfl,HE.out⟩
theorem yWt(n:Nd)(c:Ent)(mv:Value)(w:World)(bl bh:Nat)(hT:yDm w bl bh n mv)(hb:bh<=w.heap.size):∃mp:Option Addr,mv=.pointer mp/\Calls prog 193 #[.agg #[xi n.kind,n.s,n.hi,n.t,xu n.lo,xu n.up,xi n.n,.pointer mp],c.c] w (HoP w bl bh n c mv):=by
 obtain⟨mp,a5⟩:∃mp:Option Addr,mv=.pointer mp:=by
  rcases hT with⟨_,h⟩|⟨_,M,h,_⟩
  .exact⟨_,h⟩
  .exact⟨_,h⟩
 subst a5;refine⟨mp,rfl,?_⟩;have HT:=qH1 hT;obtain⟨k,s,hi,t,lo,up,nn⟩:=n;have HS:Hid (∀(x:ByteArray)(w:World),(xf 219 #[.agg #[xi k,s,hi,t,xu lo,xu up,xi nn,.pointer mp],x] w (inS x ⟨k,s,hi,t,lo,up,nn⟩):Prop)):=λx w=>yM5 ⟨k,s,hi,t,lo,up,nn⟩ mp x w;obtain⟨res,a4⟩:=qE (tstB ⟨k,s,hi,t,lo,up,nn⟩ c);have HR:=qH1 a4;obtain⟨W2,hW2⟩:=qW (xw (w.alloc (.cells #[xi k,s,hi,t,xu lo,xu up,xi nn,.pointer mp] 286)) #[c.row,c.fam,c.qual,xu c.ts,c.val] 70);have HW2:Hid (Below w w W2):=by rw[hW2];exact(qB).alloc (by simp) _
 have HFin:Hid (∀wx,Below w w wx->HoP w bl bh ⟨k,s,hi,t,lo,up,nn⟩ c (.pointer mp) (.returned res) wx):=λwx hx=>⟨by rw[HR.out],HT.below hx,Chg.of_below hx⟩;have a3:Hid (∀wx,yDm wx bl bh ⟨k,s,hi,t,lo,up,nn⟩ (.pointer mp)->Chg (InB bl bh) w wx->HoP w bl bh ⟨k,s,hi,t,lo,up,nn⟩ c (.pointer mp) (.returned res) wx):=λwx h1 h2=>⟨by rw[HR.out],h1,h2⟩;have a2:Hid (PatK k->∀x:ByteArray,Calls prog 218 #[.pointer mp,x] W2 λe w'=>e=.returned (mtB s x)/\yDm w' bl bh ⟨k,s,hi,t,lo,up,nn⟩ (.pointer mp)/\Chg (InB bl bh) w w'):=λhp x=>by
  rcases HT.below HW2.out with⟨q,_⟩|⟨_,M,q,hM⟩
  .exact absurd hp q
  .cases q
   refine(ySs hM x).mono ?_;rintro e w' ⟨rfl,H⟩;exact⟨rfl,.inr ⟨hp,M,rfl,H.1⟩,(Chg.of_below HW2.out).trans H.2⟩
 clear a4 hT;by_cases h1:k=1
 .subst h1;have hv:res=true:=HR.trans (by simp[tstB]);exact xDv
 have b1:=qn h1
 by_cases h3:k=3
 .subst h3;have hv:res=true:=HR.trans (by simp[tstB]);exact xDv
 have b3:=qn h3
 by_cases h4:k=4
 .subst h4;have hv:res=mtB s c.row:=HR.trans (by simp[tstB]);have a0:=qH1 (a2.out (by unfold PatK;omega) c.row);go_enter func193,ntmps193;go_wp2_with fail;rw[<-hW2];clear hW2;refine a0.mono ?_;rintro e w1 ⟨rfl,h1,h2⟩;have HE:=qH1 (a3.out w1 h1 h2);clear h1 h2;go_wp2;go_ret;exact hv▸HE.out
 have b4:=qn h4
 by_cases h5:k=5
 .subst h5;have hv:res=mtB s c.fam:=HR.trans (by simp[tstB]);have a0:=qH1 (a2.out (by unfold PatK;omega) c.fam);go_enter func193,ntmps193;go_wp2_with fail;rw[<-hW2];clear hW2;refine a0.mono ?_;rintro e w1 ⟨rfl,h1,h2⟩;have HE:=qH1 (a3.out w1 h1 h2);clear h1 h2;go_wp2;go_ret;exact hv▸HE.out
 have b5:=qn h5
 by_cases h6:k=6
 .subst h6;have hv:res=mtB s c.qual:=HR.trans (by simp[tstB]);have a0:Hid (Calls prog 218 #[.pointer mp,c.qual] W2 λe w'=>e=.returned (mtB s c.qual)/\yDm w' bl bh ⟨6,s,hi,t,lo,up,nn⟩ (.pointer mp)/\Chg (InB bl bh) w w'):=a2.out (by unfold PatK;omega) c.qual;go_enter func193,ntmps193;go_wp2_with fail;rw[<-hW2];clear hW2;refine a0.mono ?_;rintro e w1 ⟨rfl,h1,h2⟩;have HE:Hid (HoP w bl bh ⟨6,s,hi,t,lo,up,nn⟩ c (.pointer mp) (.returned res) w1):=a3.out w1 h1 h2;clear h1 h2;go_wp2;go_ret;exact hv▸HE.out
 have b6:=qn h6
 by_cases h7:k=7
 .subst h7;have hv:res=mtB s c.val:=HR.trans (by simp[tstB]);have a0:Hid (Calls prog 218 #[.pointer mp,c.val] W2 λe w'=>e=.returned (mtB s c.val)/\yDm w' bl bh ⟨7,s,hi,t,lo,up,nn⟩ (.pointer mp)/\Chg (InB bl bh) w w'):=a2.out (by unfold PatK;omega) c.val;go_enter func193,ntmps193;go_wp2_with fail;rw[<-hW2];clear hW2;refine a0.mono ?_;rintro e w1 ⟨rfl,h1,h2⟩;have HE:Hid (HoP w bl bh ⟨7,s,hi,t,lo,up,nn⟩ c (.pointer mp) (.returned res) w1):=a3.out w1 h1 h2;clear h1 h2;go_wp2;go_ret;exact hv▸HE.out
 have b7:=qn h7
 by_cases h8:k=8
 .subst h8;have hv:res=inS c.row ⟨8,s,hi,t,lo,up,nn⟩:=HR.trans (by simp[tstB]);go_enter func193,ntmps193;go_wp2_with fail;rw[<-hW2];clear hW2;refine(HS.out c.row W2).mono ?_;rintro e w1 ⟨rfl,a1⟩;have HE:Hid (HoP w bl bh ⟨8,s,hi,t,lo,up,nn⟩ c (.pointer mp) (.returned res) w1):=HFin.out w1 (HW2.trans (a1.mono HW2.size));clear a1;go_wp2;go_ret;exact hv▸HE.out
 have b8:=qn h8
 by_cases h9:k=9
 .subst h9;have hv:res=inS c.qual ⟨9,s,hi,t,lo,up,nn⟩:=HR.trans (by simp[tstB]);go_enter func193,ntmps193;go_wp2_with fail;rw[<-hW2];clear hW2;refine(HS.out c.qual W2).mono ?_;rintro e w1 ⟨rfl,a1⟩;have HE:Hid (HoP w bl bh ⟨9,s,hi,t,lo,up,nn⟩ c (.pointer mp) (.returned res) w1):=HFin.out w1 (HW2.trans (a1.mono HW2.size));clear a1;go_wp2;go_ret;exact hv▸HE.out
 have b9:=qn h9
 by_cases h10:k=10
 .subst h10;have hv:res=(decide (lo<=c.ts) && (!hi || decide (c.ts<up))):=HR.trans (by simp[tstB]);have HE:Hid (HoP w bl bh ⟨10,s,hi,t,lo,up,nn⟩ c (.pointer mp) (.returned (decide (lo<=c.ts) && (!hi || decide (c.ts<up)))) W2):=by rw[<-hv];exact HFin.out W2 HW2.out
  clear hv;by_cases g1:lo<=c.ts<;>cases hi<;>by_cases g2:c.ts<up
  all_goals simp only[g1,g2,decide_true,decide_false,Bool.not_true,Bool.not_false,Bool.true_and,Bool.false_and,Bool.true_or,Bool.false_or]at HE
  all_goals go_enter func193,ntmps193
  all_goals go_wp2_with fail
  all_goals rw[<-hW2]
  all_goals go_ret
  all_goals exact HE.out
 have a6:=qn h10
 have hv:res=false:=HR.trans (by simp[tstB,h1,h3,h4,h5,h6,h7,h8,h9,h10]);exact xDv
theorem yE3(k:Int)(s:ByteArray)(h:Bool)(t:ByteArray)(l u n:Int)(w:World):(Instr.build 286 #[(0,.agg #[xi k,s,h,t,xu l,xu u,xi n])]).run prog w=.ok (.agg #[xi k,s,h,t,xu l,xu u,xi n,.pointer none]) w:=qk
def yKh(n:Nd)(mp:Option Addr):List Value:= [.int .i64 n.kind,.string n.s,.bool n.hi,.string n.t,.int .u64 n.lo,.int .u64 n.up,.int .i64 n.n,.pointer mp]
theorem xDj{g:Nat}{tmps:Array Value}{mp:Option Addr}(ht:tmps[2]?.getD undef=(xp g))(h:yA w base 286 8 g (yKh n mp)):(results Tryz.f197 tmps).run prog w=.ok (.agg #[xi n.kind,n.s,n.hi,n.t,xu n.lo,xu n.up,xi n.n,.pointer mp]) w:=by obtain⟨p0,p1,p2,p3,p4,p5,p6,p7⟩:=h.c8;simp[results,results197,ht,go_sem,p0,p1,p2,p3,p4,p5,p6,p7]
def set8(w:World)(g:Nat)(n:Nd)(mp:Option Addr):World:=(xt (((((((w.setCell (xd g 0) (xi n.kind)).setCell (xd g 1) n.s).setCell (xd g 2) n.hi).setCell (xd g 3) n.t).setCell (xd g 4) (xu n.lo)).setCell (xd g 5) (xu n.up)).setCell (xd g 6) (xi n.n)) g 7 (.pointer mp))
theorem yA.set8{g:Nat}{vs:List Value}(h:yA w base t 8 g vs) n (mp:Option Addr):yA (Go.Proofs.YtnnagkfoiganfaaGreatDoor.set8 w g n mp) base t 8 g (yKh n mp):=by
 have hl:=h.len;match vs,hl with
 | [a0,a1,a2,a3,a4,a5,a6,a7],_=>exact(((((((h.set 0 _).set 1 _).set 2 _).set 3 _).set 4 _).set 5 _).set 6 _).set 7 _
variable {B:Nat}
theorem yXa{a:World}(h:Below B a w){k:Nat}(hk:B<=k) n (mp:Option Addr):Below B a (set8 w k n mp):=yAc (yAc (yAc (yAc (yAc (yAc (yAc (yAc h hk 0 _) hk 1 _) hk 2 _) hk 3 _) hk 4 _) hk 5 _) hk 6 _) hk 7 _
theorem xC(w:World)(g:Nat) n (mp:Option Addr):Chg (λk=>k=g) w (set8 w g n mp):=by unfold set8;refine Chg.trans ?_ (Chg.of_set _ g 7 _ rfl);refine Chg.trans ?_ (Chg.of_set _ g 6 _ rfl);refine Chg.trans ?_ (Chg.of_set _ g 5 _ rfl);refine Chg.trans ?_ (Chg.of_set _ g 4 _ rfl);refine Chg.trans ?_ (Chg.of_set _ g 3 _ rfl);refine Chg.trans ?_ (Chg.of_set _ g 2 _ rfl);refine Chg.trans ?_ (Chg.of_set _ g 1 _ rfl);refine Chg.trans ?_ (Chg.of_set _ g 0 _ rfl);exact Chg.refl _ _
def CteP(n:Nd)(w:World)(e:Ending)(w':World):Prop:=∃mp:Option Addr,e=.returned (.agg #[xi n.kind,n.s,n.hi,n.t,xu n.lo,xu n.up,xi n.n,.pointer mp])/\Hid (yDm w' w w' n (.pointer mp)/\Below w w w')
theorem yG6(n:Nd)(w W2:World)(hW2:W2=(xw ((w.alloc (.cells n.seven.toArray 83)).alloc (.cells #[xi 0,xe,false,xe,xu 0,xu 0,xi 0,.pointer none] 286)) #[xi n.kind,n.s,n.hi,n.t,xu n.lo,xu n.up,xi n.n,.pointer none] 286)):yA W2 w 83 7 w n.seven/\yA W2 w 286 8 (w+1) (#[.int .i64 0,.string ⟨#[]⟩,.bool false,.string ⟨#[]⟩,.int .u64 0,.int .u64 0,.int .i64 0,.pointer none]).toList/\yA W2 w 286 8 (w+1+1) (yKh n none)/\Below w w W2:=box3 hW2
theorem yQ5(n:Nd)(w:World)(hT:TabD w):∀(X:World)(mp:Option Addr),yA X w 286 8 (w+1) (#[.int .i64 0,.string ⟨#[]⟩,.bool false,.string ⟨#[]⟩,.int .u64 0,.int .u64 0,.int .i64 0,.pointer none]).toList->Below w w X->w.heap.size+1<X.heap.size->yDm X (w+1+1+1) X n (.pointer mp)->CteP n w (.returned (.agg #[xi n.kind,n.s,n.hi,n.t,xu n.lo,xu n.up,xi n.n,.pointer mp])) (set8 X (w+1) n mp)/\yA (set8 X (w+1) n mp) w 286 8 (w+1) (yKh n mp):=λX mp hB hX hz hTs=>by
 have hc:=xC X (w+1) n mp
 have hsz:(set8 X (w+1) n mp).heap.size=X.heap.size:=by unfold set8;simp
 refine⟨⟨mp,rfl,?_,yXa hX qo n mp⟩,hB.set8 n mp⟩
 rw[hsz]
 have hV:=hT.lt
 have h9:=hTs.chg hc (λk q z=>by have:=z.1;omega) (λ_ q=>qo)
 rcases h9 with q|⟨q,M,q1,hM⟩
 .exact .inl q
 .exact .inr ⟨q,M,q1,hM.wide qo qr hV⟩
theorem yY7(n:Nd) w (hT:TabD w) (hs:n.s.size<=maxLen) (hP:¬PatK n.kind):Calls prog 197 #[n.v] w (CteP n w):=by
 obtain⟨W2,a4⟩:=qE (xw ((w.alloc (.cells n.seven.toArray 83)).alloc (.cells #[.int .i64 0,.string ⟨#[]⟩,.bool false,.string ⟨#[]⟩,.int .u64 0,.int .u64 0,.int .i64 0,.pointer none] 286)) #[.int .i64 n.kind,n.s,n.hi,n.t,xu n.lo,xu n.up,xi n.n,.pointer none] 286:World);have a0:=qH1 (yG6 n w W2 a4);have HT:=qH2 hT hs;have a6:=yE3 n.kind n.s n.hi n.t n.lo n.up n.n;have HF:=qH1 (yQ5 n w hT);clear hT hs;go_enter func197,ntmps197;go_upto_region 2 with fail;have a3:=a4;simp only[Nd.seven]at a3;rw[<-a3];clear a4 a3 a6;obtain⟨n0,n1⟩:=a0.1.c2;have a7:=a0.2.2.1.lt.2;have hk:¬n.kind=4/\¬n.kind=5/\¬n.kind=6/\¬n.kind=7:=by unfold PatK at hP;omega
 have b4:(n.kind==4)=false:=by rw[beq_eq_false_iff_ne];exact hk.1
 have b5:(n.kind==5)=false:=by rw[beq_eq_false_iff_ne];exact hk.2.1
 have b6:(n.kind==6)=false:=by rw[beq_eq_false_iff_ne];exact hk.2.2.1
 have b7:(n.kind==7)=false:=by rw[beq_eq_false_iff_ne];exact hk.2.2.2
 clear hk;have a1:=qH4 a0.2.1 a0.2.2.2 (by omega:w.heap.size+1<W2.heap.size) (.inl ⟨hP,rfl⟩:yDm W2 (w+1+1+1) W2 n (.pointer none));have HE:=HF.out W2 none a1.1 a1.2.1 a1.2.2.1 a1.2.2.2;have a5:=qH1 HE;clear HE;obtain⟨W9,a2⟩:=qE (set8 W2 (w+1) n none);rw[<-a2]at a5;simp only[set8]at a2;obtain⟨m0,m1,m2,m3,m4,m5,m6,m7⟩:=a0.2.2.1.c8;obtain⟨r0,r1,r2,r3,r4,r5,r6,r7⟩:=a0.2.1.c8;obtain⟨f0,f1,f2,f3,f4,f5,f6,f7⟩:=a0.2.1.f8;go_wp2_with fail;rw[<-a2];exact bodyPost_ret (xDj (base:=w.heap.size) (g:=w.heap.size+1) rfl a5.2) rfl a5.1
theorem xIv(n:Nd) w (hT:TabD w) (hs:n.s.size<=maxLen) (hg:(yAj (sb n.s)).1=0) (h7:n.kind=7):Calls prog 197 #[n.v] w (CteP n w):=by
 have hP:PatK n.kind:=by unfold PatK;omega
 have a5:=qH1 h7;have a3:=qH1 hP;clear h7 hP;obtain⟨W2,a2⟩:=qW (xw ((w.alloc (.cells n.seven.toArray 83)).alloc (.cells #[xi 0,xe,false,xe,xu 0,xu 0,xi 0,.pointer none] 286)) #[xi n.kind,n.s,n.hi,n.t,xu n.lo,xu n.up,xi n.n,.pointer none] 286);have HW2:=qH1 (yG6 n w W2 a2);have HT:=qH2 hT hs;have a4:=yE3 n.kind n.s n.hi n.t n.lo n.up n.n;have HF:=qH1 (yQ5 n w hT);have HG:Hid (PatK n.kind->(yAj (sb n.s)).1=0):=λ_=>hg;clear hg;clear hT hs;go_enter func197,ntmps197;go_upto_region 2 with fail;have a1:=a2;simp only[Nd.seven]at a1;rw[<-a1];clear a2 a1 a4;obtain⟨n0,n1⟩:=HW2.1.c2;have a6:=HW2.2.2.1.lt.2;have a7:n.s.size<=200:=by apply Classical.byContradiction;intro h6;have q0:=HG.out a3.out;unfold yAj at q0;rw[if_pos (by rw[yAe];omega)]at q0;exact absurd q0 qj
 have HRp:=qH1 (yA5 n.s W2 HT.2);have hP0:=qH1 a3.out;have hP:=a3.out;have h7:=a5.out;have b4:(n.kind==4)=false:=by rw[beq_eq_false_iff_ne];omega
 have b5:(n.kind==5)=false:=by rw[beq_eq_false_iff_ne];omega
 have b6:(n.kind==6)=false:=by rw[beq_eq_false_iff_ne];omega
 have b7:(n.kind==7)=true:=by rw[beq_iff_eq];exact h7
 have a8:=qH1 h7;clear h7 hP;exact zzQ0
theorem xIw(n:Nd) w (hT:TabD w) (hs:n.s.size<=maxLen) (hg:(yAj (sb n.s)).1=0) (h6:n.kind=6):Calls prog 197 #[n.v] w (CteP n w):=by
 have hP:PatK n.kind:=by unfold PatK;omega
 have a5:=qH1 h6;have a3:=qH1 hP;clear h6 hP;obtain⟨W2,a2⟩:=qW (xw ((w.alloc (.cells n.seven.toArray 83)).alloc (.cells #[xi 0,xe,false,xe,xu 0,xu 0,xi 0,.pointer none] 286)) #[xi n.kind,n.s,n.hi,n.t,xu n.lo,xu n.up,xi n.n,.pointer none] 286);have HW2:=qH1 (yG6 n w W2 a2);have HT:=qH2 hT hs;have a4:=yE3 n.kind n.s n.hi n.t n.lo n.up n.n;have HF:=qH1 (yQ5 n w hT);have HG:Hid (PatK n.kind->(yAj (sb n.s)).1=0):=λ_=>hg;clear hg;clear hT hs;go_enter func197,ntmps197;go_upto_region 2 with fail;have a1:=a2;simp only[Nd.seven]at a1;rw[<-a1];clear a2 a1 a4;obtain⟨n0,n1⟩:=HW2.1.c2;have a6:=HW2.2.2.1.lt.2;have a7:n.s.size<=200:=by apply Classical.byContradiction;intro h6;have q0:=HG.out a3.out;unfold yAj at q0;rw[if_pos (by rw[yAe];omega)]at q0;exact absurd q0 qj
 have HRp:=qH1 (yA5 n.s W2 HT.2);have hP0:=qH1 a3.out;have hP:=a3.out;have h6:=a5.out;have b4:(n.kind==4)=false:=by rw[beq_eq_false_iff_ne];omega
 have b5:(n.kind==5)=false:=by rw[beq_eq_false_iff_ne];omega
 have b6:(n.kind==6)=true:=by rw[beq_iff_eq];exact h6
 have a8:=qH1 h6;clear h6 hP;exact zzQ0
theorem xIx(n:Nd) w (hT:TabD w) (hs:n.s.size<=maxLen) (hg:(yAj (sb n.s)).1=0) (h5:n.kind=5):Calls prog 197 #[n.v] w (CteP n w):=by
 have hP:PatK n.kind:=by unfold PatK;omega
 have a5:=qH1 h5;have a3:=qH1 hP;clear h5 hP;obtain⟨W2,a2⟩:=qW (xw ((w.alloc (.cells n.seven.toArray 83)).alloc (.cells #[xi 0,xe,false,xe,xu 0,xu 0,xi 0,.pointer none] 286)) #[xi n.kind,n.s,n.hi,n.t,xu n.lo,xu n.up,xi n.n,.pointer none] 286);have HW2:=qH1 (yG6 n w W2 a2);have HT:=qH2 hT hs;have a4:=yE3 n.kind n.s n.hi n.t n.lo n.up n.n;have HF:=qH1 (yQ5 n w hT);have HG:Hid (PatK n.kind->(yAj (sb n.s)).1=0):=λ_=>hg;clear hg;clear hT hs;go_enter func197,ntmps197;go_upto_region 2 with fail;have a1:=a2;simp only[Nd.seven]at a1;rw[<-a1];clear a2 a1 a4;obtain⟨n0,n1⟩:=HW2.1.c2;have a6:=HW2.2.2.1.lt.2;have a7:n.s.size<=200:=by apply Classical.byContradiction;intro h6;have q0:=HG.out a3.out;unfold yAj at q0;rw[if_pos (by rw[yAe];omega)]at q0;exact absurd q0 qj
 have HRp:=qH1 (yA5 n.s W2 HT.2);have hP0:=qH1 a3.out;have hP:=a3.out;have h5:=a5.out;have b4:(n.kind==4)=false:=by rw[beq_eq_false_iff_ne];omega
 have b5:(n.kind==5)=true:=by rw[beq_iff_eq];exact h5
 have a8:=qH1 h5;clear h5 hP;exact zzQ0
theorem xIy(n:Nd) w (hT:TabD w) (hs:n.s.size<=maxLen) (hg:(yAj (sb n.s)).1=0) (h4:n.kind=4):Calls prog 197 #[n.v] w (CteP n w):=by
 have hP:PatK n.kind:=by unfold PatK;omega
 have a5:=qH1 h4;have a3:=qH1 hP;clear h4 hP;obtain⟨W2,a2⟩:=qW (xw ((w.alloc (.cells n.seven.toArray 83)).alloc (.cells #[xi 0,xe,false,xe,xu 0,xu 0,xi 0,.pointer none] 286)) #[xi n.kind,n.s,n.hi,n.t,xu n.lo,xu n.up,xi n.n,.pointer none] 286);have HW2:=qH1 (yG6 n w W2 a2);have HT:=qH2 hT hs;have a4:=yE3 n.kind n.s n.hi n.t n.lo n.up n.n;have HF:=qH1 (yQ5 n w hT);have HG:Hid (PatK n.kind->(yAj (sb n.s)).1=0):=λ_=>hg;clear hg;clear hT hs;go_enter func197,ntmps197;go_upto_region 2 with fail;have a1:=a2;simp only[Nd.seven]at a1;rw[<-a1];clear a2 a1 a4;obtain⟨n0,n1⟩:=HW2.1.c2;have a6:=HW2.2.2.1.lt.2;have a7:n.s.size<=200:=by apply Classical.byContradiction;intro h6;have q0:=HG.out a3.out;unfold yAj at q0;rw[if_pos (by rw[yAe];omega)]at q0;exact absurd q0 qj
 have HRp:=qH1 (yA5 n.s W2 HT.2);have hP0:=qH1 a3.out;have hP:=a3.out;have h4:=a5.out;have b4:(n.kind==4)=true:=by rw[beq_iff_eq];exact h4
 have a8:=qH1 h4;clear h4 hP;exact zzQ0
theorem yHk(n:Nd) w (hT:TabD w) (hs:n.s.size<=maxLen) (hg:PatK n.kind->(yAj (sb n.s)).1=0):Calls prog 197 #[n.v] w (CteP n w):=by
 by_cases hP:PatK n.kind
 .rcases hP with h|h|h|h
  .exact xIy n w hT hs (hg (.inl h)) h
  .exact xIx n w hT hs (hg (.inr (.inl h))) h
  .exact xIw n w hT hs (hg (.inr (.inr (.inl h)))) h
  .exact xIv n w hT hs (hg (.inr (.inr (.inr h)))) h
 .exact yY7 n w hT hs hP
theorem xHl:(83:TypeId)<prog.types.size:=of_decide_eq_true qk
theorem xHa:(match prog.underlying 83 with|some (.array _ _)|some (.struct _)=>true|_=>false)=true:=qk
theorem yZg:Keyed prog 83:=Keyed.of_law (deep_law_laid yY8 (m:=2) qo xHl qk xHa)
def ndL(n:Nd):Lit:=.string (keyBytes [.int .i64 n.kind,.string n.s.data.toList,.bool n.hi,.string n.t.data.toList,.int .u64 n.lo,.int .u64 n.up,.int .i64 n.n])
theorem yWp(h:n.ok):keyOf prog 83 n.v=some (ndL n):=by
 have h1:prog.keyType 83=true:=qk
 have h2:prog.cellsOf 83=7:=qk
 have h3:prog.cellsOf 2=1:=qk
 have h4:prog.cellsOf 68=1:=qk
 have h5:prog.cellsOf 4=1:=qk
 have h6:prog.cellsOf 9=1:=qk
 obtain⟨m,hm⟩:∃m,prog.types.size=m+1:=⟨prog.types.size-1,by have h:(83:Nat)<prog.types.size:=xHl;omega⟩;unfold keyOf;rw[underlying83];simp only[h1,Value.formed,underlying83,h2,hm];simp[Program.keyLits,underlying83,underlying9,underlying2,underlying68,underlying4,h2,h3,h4,h5,h6,Value.cells,h.s,h.t,h.kind,h.lo,h.up,h.n,ndL]
theorem xHs{n':Nd}(h:n.ok)(h':n'.ok)(e:ndL n=ndL n'):n=n':=by
 have h1:=yWp h;have h2:=yWp h';rw[<-e]at h2;have:=yZg.inj h1 h2;cases n
 cases n'
 simp at this;simp[this]
structure Tt where
 n:Nd
 t:Nat
 lo:Nat
 hi:Nat
 mp:Option Addr
def MpA(w:World)(B N:Nat)(Ts:List Tt):Prop:=
 ∃D,w.ownsMap prog 83 Rh B N D/\∀n:Nd,n.ok->((∀T∈Ts,¬T.n=n)/\Maps.has D (ndL n)=false)\/∃T∈Ts,T.n=n/\Maps.has D (ndL n)=true/\∀z,D.atKey (ndL n) z=.held (xp T.t)
variable {N:Nat} {Ts:List Tt}
theorem MpA.lt(h:MpA w B N Ts):B<w.heap.size:=by obtain⟨D,h,_⟩:=h;exact h.lt
theorem MpA.chg{S:Nat->Prop}(h:MpA w B N Ts)(hc:Chg S w w')(hn:¬S B):MpA w' B N Ts:=by obtain⟨D,hD,k⟩:=h;have a0:=hD.lt;obtain⟨es,a2,hb,F,hs,a1⟩:=hD;exact⟨D,⟨es,a2,(hc.block B a0 hn).trans hb,F,hs,a1⟩,k⟩
theorem xG4(w:World):(zeroValue 242).run prog w=.ok (.pointer none) w:=qk
theorem MpA.look(h:MpA w B N Ts)(hn:n.ok):
  ((∀T∈Ts,¬T.n=n)/\(Instr.lookup 172 (.map (some B)) n.v true).run prog w=.ok (.tuple #[.pointer none,false]) w)\/∃T∈Ts,T.n=n/\(Instr.lookup 172 (.map (some B)) n.v true).run prog w=.ok (.tuple #[xp T.t,true]) w:=by
 obtain⟨D,hD,hv⟩:=h;obtain⟨v,ps,a1,hR⟩:=hD.look_ok yZg underlying172 (xG4 w) (zd:=.held (.pointer none)) (zp:= []) rfl (yWp hn);have a0:=(xI5 hR).1;rcases hv n hn with⟨h1,h2⟩|⟨T,hT,h1,h2,h3⟩
 .rw[Maps.atKey_of_not_has h2]at a0;simp only[DataW.held.injEq]at a0;rw[<-a0,h2]at a1;exact .inl ⟨h1,a1⟩
 .rw[h3]at a0;simp only[DataW.held.injEq]at a0;rw[<-a0,h2]at a1;exact .inr ⟨T,hT,h1,a1⟩
theorem MpA.put(h:MpA w B N Ts)(hN:N<maxLen)(T:Tt)(hn:T.n.ok)(hnew:∀T'∈Ts,¬T'.n=T.n):
  ∃w',(Instr.mapUpdate 172 (.map (some B)) T.n.v (xp T.t)).run prog w=.ok () w'/\MpA w' B (N+1) (T::Ts)/\w.grownBy w' (some B):=by
 obtain⟨D,hD,hv⟩:=h;obtain⟨w',a1,ho,hg⟩:=hD.update yZg underlying172 hN (yWp hn) (val:=(xp T.t)) (d:=.held (xp T.t)) (ps:= []) rfl;refine⟨w',a1,⟨_,ho,λn hno=>?_⟩,hg⟩;by_cases he:n=T.n
 .subst he;exact .inr ⟨T,mem_cons_self,rfl,Maps.has_put_same hD.isMap (yZg.key (yWp hn)) _,λz=>Maps.atKey_put_same hD.isMap (yZg.key (yWp hn)) _ z⟩
 .have a0:ndL n≠ndL T.n:=λq=>he (xHs hno hn q);rcases hv n hno with⟨h1,h2⟩|⟨T',a2,h1,h2,h3⟩
  .exact .inl ⟨λX hX=>by
    rcases mem_cons.1 hX with rfl|hX
    .exact λq=>he q.symm
    .exact h1 X hX,by rw[Maps.has_put_other a0];exact h2⟩
  .exact .inr ⟨T',mem_cons_of_mem _ a2,h1,by rw[Maps.has_put_other a0];exact h2,λz=>by rw[Maps.atKey_put_other a0];exact h3 z⟩
theorem xBs(w:World):MpA (w.alloc (.map #[] 0)) w 0 []:=
 ⟨.map [],World.ownsMap_made w prog 83 Rh,λn _=>.inl ⟨λT hT=>by simp at hT,rfl⟩⟩
noncomputable def lowB(n:Nd):ByteArray:=if n.kind=4\/n.kind=5\/n.kind=6\/n.kind=7 then pfxB n.s else n.s
structure TtA(T:Tt)(W:World):Prop where
 ctv:CtvA W T.t T.n (.pointer T.mp)
 low:(xk W T.t 8 (lowB T.n):Prop)
 lt:T.t<W.heap.size
 tst:yDm W T.lo T.hi T.n (.pointer T.mp)
 r1:T.lo<=T.hi
 r2:T.hi<=T.t
 tab:1<T.lo
variable {T:Tt} {W W':World}
theorem TtA.chg{S:Nat->Prop}(h:TtA T W)(hc:Chg S W W')(hS:∀q,S q->¬(T.lo<=q/\q<=T.t))(hv:¬S 1):TtA T W':=by have a1:=h.lt;have r1:=h.r1;have r2:=h.r2;have hnt:¬S T.t:=λq=>hS _ q ⟨qo,Nat.le_refl _⟩;obtain⟨t0,t1,t2,t3,t4,t5,t6,t7⟩:=h.ctv;have a0:∀j,W'.cell? (xd T.t j)=W.cell? (xd T.t j):=λj=>hc.cell (p:=(xd T.t j)) a1 hnt;exact⟨⟨(a0 0).trans t0,(a0 1).trans t1,(a0 2).trans t2,(a0 3).trans t3,(a0 4).trans t4,(a0 5).trans t5,(a0 6).trans t6,(a0 7).trans t7⟩,(a0 8).trans h.low,Nat.lt_of_lt_of_le a1 hc.size,h.tst.chg hc (λk hk z=>hS k hk ⟨z.1,by have:=z.2;omega⟩) (λ_=>hv),r1,r2,h.tab⟩
structure TsA(base:Nat)(Ts:List Tt)(W:World):Prop where
 at_:∀T∈Ts,TtA T W/\base<=T.lo
 apart:Ts.Pairwise λT T'=>T'.t<T.lo
 tab:TabD W
 tabl:1<base
theorem TsA.chg{S:Nat->Prop}(h:TsA base Ts W)(hc:Chg S W W')(hS:∀q,S q->q<base\/W.heap.size<=q)(hv:¬S 1):TsA base Ts W':=
 ⟨λT hT=>⟨(h.at_ T hT).1.chg hc (λq hq z=>by have:=(h.at_ T hT).1.lt;have:=(h.at_ T hT).2;rcases hS q hq with k|k<;>omega) hv,(h.at_ T hT).2⟩,h.apart,h.tab.chg hc hv,h.tabl⟩
theorem yWu(h:yCb n)(hk:PatK n.kind):(yAj (sb n.s)).1=0:=by
 unfold PatK at hk;rcases h.2.2.2 with q|q|q|q|q
 .exact q.2.2
 .have:=q.1;omega
 .have:=q.1;omega
 .have:=q.1;omega
 .have:=q.1;omega
theorem yQm(n:Nd)(hs:n.s.size<=maxLen):∃q:Bool,∀W,Calls prog 198 #[.string n.s] W λe w'=>e=.returned (.agg #[.string (pfxB n.s),.bool q])/\Below W W w':=
 ⟨(pfxR n.s hs).2,λW=>by
   have h9:=yJ5 n.s W hs (pfxR n.s hs) (yYj n.s hs)
   rw[show(⟨(pfxR n.s hs).1.toArray⟩:ByteArray)=pfxB n.s from by unfold pfxB;rw[dif_pos hs]]at h9
   exact h9⟩
theorem yUg(h:TsA base Ts W)(hT:TtA T W)(hb:base<=T.lo)(ho:∀X∈Ts,X.t<T.lo):TsA base (T::Ts) W:=
 ⟨λX hX=>by
  rcases mem_cons.1 hX with rfl|hX
  .exact⟨hT,hb⟩
  .exact h.at_ X hX,List.pairwise_cons.2 ⟨ho,h.apart⟩,h.tab,h.tabl⟩
theorem TsA.turn(h:TsA base Ts W)(hc:Chg (λq=>q=B) W W')(hB:∀X∈Ts,X.t<B)(hv:¬1=B):TsA base Ts W':=
 ⟨λT hT=>⟨(h.at_ T hT).1.chg hc (λq hq z=>qw (hB T hT)) hv,(h.at_ T hT).2⟩,h.apart,h.tab.chg hc hv,h.tabl⟩
theorem xDg(h:¬PatK n.kind):lowB n=n.s:=by unfold PatK at h;unfold lowB;rw[if_neg h]
theorem ySx(h:PatK n.kind):lowB n=pfxB n.s:=by unfold PatK at h;unfold lowB;rw[if_pos h]
def TeP(base B N:Nat)(Ts:List Tt)(n:Nd)(w:World)(e:Ending)(w':World):Prop:=
 ∃T:Tt,e=.returned (xp T.t)/\Hid (∃N' Ts',T∈Ts'/\T.n=n/\(∀X∈Ts,X∈Ts')/\(∀X∈Ts',X∈Ts\/w.heap.size<=X.lo)/\MpA w' B N' Ts'/\N'<=N+1/\TsA base Ts' w'/\Chg (λq=>q=B) w w')
theorem zTeB {p:Prop} (h:p:=by
 obtain⟨w9,hput,hM9,hg9⟩:=HBx.2.2.1.put (by unfold maxLen;omega) T (by rw[HTn.out];exact HnO.out) (by rw[HTn.out];exact hnew.out);have HE:Hid (∃N' Ts',T∈Ts'/\T.n=n/\(∀X∈Ts,X∈Ts')/\(∀X∈Ts',X∈Ts\/w.heap.size<=X.lo)/\MpA w9 B N' Ts'/\N'<=N+1/\TsA base Ts' w9/\Chg (λq=>q=B) w w9):=by
  have hc9:Chg (λq=>q=B) wx w9:=Chg.of_grown hg9 (λq hq=>by cases hq;rfl);refine⟨N+1,T::Ts,mem_cons_self,HTn.out,λX hX=>mem_cons_of_mem _ hX,λX hX=>?_,hM9,Nat.le_refl _,?_,HBx.2.2.2.2.1.trans hc9⟩
  .rcases mem_cons.1 hX with rfl|hX
   .exact .inr HBx.2.2.2.2.2
   .exact .inl hX
  .exact HBx.2.2.2.1.chg hc9 (λq hq=>.inl (qw HBb.out)) (qw HBb.out)
 rw[HTn.out,HTt.out]at hput;obtain⟨x0,x1,x2,x3,x4,x5,x6⟩:=HBx.2.1.c7;have y0:=HBx.1.cell (j:=0) rfl;clear hM9 hg9;go_wp2;go_ret;exact⟨T,by rw[HTt.out];rfl,HE⟩):p:=h
theorem yX1(hM:MpA w B N Ts)(hT:TsA base Ts w)(hB:B<base)(hbw:base<=w.heap.size)(hN:N<10000000)(hVB:¬1=B)(hn:n.ok)(hg:yCb n):
  Calls prog 151 #[.agg #[.map (some B)],n.v] w (TeP base B N Ts n w):=by
 obtain⟨W0,a7⟩:=qW (xw (w.alloc (Obj.cells #[.map (some B)] 174)) #[xi n.kind,n.s,n.hi,n.t,xu n.lo,xu n.up,xi n.n] 83);have H0:Hid (yA W0 w 174 1 w [.map (some B)]/\yA W0 w 83 7 (w+1) n.seven/\Below w w W0):=by
  obtain⟨X,hX⟩:=qW (xw w #[.map (some B)] 174);rw[<-hX]at a7;have zx:=qS hX
  have k1:=qN hX
  have k2:=qN a7
  have b1:yA X w 174 1 w [.map (some B)]:=by rw[hX];exact yAa w _ qr rfl
  have b2:yA W0 w 83 7 (w+1) n.seven:=by rw[a7,<-zx];exact yAa X _ (by omega) rfl
  exact⟨b1.below k2,b2,k1.trans (k2.mono (by omega))⟩
 have HM:Hid (MpA W0 B N Ts/\TsA base Ts W0):=by have hc:Chg (λ_=>False) w W0:=Chg.of_below H0.2.2;exact⟨hM.chg hc (λq=>q),hT.chg hc (λq hq=>hq.elim) (λq=>q)⟩
 have HnO:Hid n.ok:=hn;have az:Hid (yCb n):=hg;have HBb:Hid (B<base/\base<=w.heap.size/\¬1=B):=⟨hB,hbw,hVB⟩;have c0:=H0.1.cell (j:=0) rfl;obtain⟨x0,x1,x2,x3,x4,x5,x6⟩:=H0.2.1.c7;have hlk:=HM.1.look hn;clear hM hT hB hbw hn hg hVB;rcases hlk with⟨an,al⟩|⟨T,aq,ao,al⟩
 .have hnew:Hid (∀T∈Ts,¬T.n=n):=an;clear an;go_enter func151,ntmps151;go_upto_region 1 with fail;rw[<-a7];clear a7;go_upto_region 4 with fail;clear al c0 x0 x1 x2 x3 x4 x5 x6;have ai:Hid (∀X:World,yA X w 83 7 (w+1) n.seven->(λw':World=>xk w' (w+1) 0 (xi n.kind)/\xk w' (w+1) 1 n.s/\xk w' (w+1) 2 n.hi/\xk w' (w+1) 3 n.t/\xk w' (w+1) 4 (xu n.lo)/\xk w' (w+1) 5 (xu n.up)/\xk w' (w+1) 6 (xi n.n)/\xk w' (w+1) 0 (xi n.kind)) X):=λX h=>⟨h.cell (j:=0) rfl,h.cell (j:=1) rfl,h.cell (j:=2) rfl,h.cell (j:=3) rfl,h.cell (j:=4) rfl,h.cell (j:=5) rfl,h.cell (j:=6) rfl,h.cell (j:=0) rfl⟩;have a8:Below W0 W0 W0.drew:=(Below.refl _ _).drew
  have HD:Hid (yA W0.drew w 174 1 w [.map (some B)]/\yA W0.drew w 83 7 (w+1) n.seven/\Below w w W0.drew/\MpA W0.drew B N Ts/\TsA base Ts W0.drew):=
   ⟨H0.1.below a8,H0.2.1.below a8,H0.2.2.trans (a8.mono H0.2.2.size),HM.1.chg (S:=λ_=>False) (Chg.of_below a8) (λq=>q),HM.2.chg (S:=λ_=>False) (Chg.of_below a8) (λq hq=>hq.elim) (λq=>q)⟩
  have a9:=ai.out _ HD.2.1;clear a8 H0 HM;refine yAf 99 (λw':World=>xk w' (w+1) 0 (xi n.kind)/\xk w' (w+1) 1 n.s/\xk w' (w+1) 2 n.hi/\w'.cell? (xd (w.heap.size+1) 3)=some (.string n.t)/\w'.cell? (xd (w.heap.size+1) 4)=some (.int .u64 n.lo)/\w'.cell? (xd (w.heap.size+1) 5)=some (.int .u64 n.up)/\w'.cell? (xd (w.heap.size+1) 6)=some (.int .i64 n.n)/\w'.cell? (xd (w.heap.size+1) 0)=some (.int .i64 n.kind)) (by kernel_rfl) ?_;generalize W0.drew=WD at HD a9|-;have ak:Hid (∀X∈Ts,X.t<WD.heap.size):=λX hX=>(HD.2.2.2.2.at_ X hX).1.lt;have au:Hid (Calls prog 197 #[.agg #[.int .i64 n.kind,.string n.s,.bool n.hi,.string n.t,.int .u64 n.lo,.int .u64 n.up,.int .i64 n.n]] WD (CteP n WD)):=yHk n WD HD.2.2.2.2.tab HnO.s (yWu az.out);refine ja 0 a9 ?_;refine ja 2 a9 ?_;refine jb a9 ?_;refine qO 1 rfl λK hK=>?_;go_simp;refine au.mono ?_;rintro e w3 ⟨mp,rfl,H3⟩;have a6:=H3.2
  have a5:Hid (yA w3 w.heap.size 174 1 w.heap.size [.map (some B)]/\yA w3 w.heap.size 83 7 (w.heap.size+1) n.seven/\Below w.heap.size w w3/\MpA w3 B N Ts/\TsA base Ts w3/\yDm w3 WD.heap.size w3.heap.size n (.pointer mp)/\WD.heap.size<=w3.heap.size/\w.heap.size<=WD.heap.size):=
   ⟨HD.1.below a6,HD.2.1.below a6,HD.2.2.1.trans (a6.mono HD.2.2.1.size),HD.2.2.2.1.chg (S:=λ_=>False) (Chg.of_below a6) (λq=>q),HD.2.2.2.2.chg (S:=λ_=>False) (Chg.of_below a6) (λq hq=>hq.elim) (λq=>q),H3.1,a6.size,HD.2.2.1.size⟩
  have ah:=ai.out _ a5.2.1;clear a6 H3 HD a9 au;refine hK.out _ _ (.inr ah) ?_;clear hK;refine jS ?_;refine ja 4 ah ?_;obtain⟨W4,ab⟩:=qW (w3.alloc (Obj.cells #[.int .i64 n.kind,.string n.s,.bool n.hi,.string n.t,.int .u64 n.lo,.int .u64 n.up,.int .i64 n.n,.pointer mp,.string n.s] 288));have a2:Hid (yA W4 w.heap.size 174 1 w.heap.size [.map (some B)]/\yA W4 w.heap.size 83 7 (w.heap.size+1) n.seven/\Below w.heap.size w W4/\MpA W4 B N Ts/\TsA base Ts W4/\yDm W4 WD.heap.size w3.heap.size n (.pointer mp)/\yA W4 w.heap.size 288 9 w3.heap.size [.int .i64 n.kind,.string n.s,.bool n.hi,.string n.t,.int .u64 n.lo,.int .u64 n.up,.int .i64 n.n,.pointer mp,.string n.s]):=by
   have k4:Below w3 w3 W4:=by rw[ab];exact qB
   obtain⟨h1,h2,h3,h4,h5,h6,h7,h8⟩:=a5.out;exact⟨h1.below k4,h2.below k4,h3.trans (k4.mono h3.size),h4.chg (S:=λ_=>False) (Chg.of_below k4) (λq=>q),h5.chg (S:=λ_=>False) (Chg.of_below k4) (λq hq=>hq.elim) (λq=>q),h6.below k4,by rw[ab];exact yAa w3 _ h3.size rfl⟩
  have ag:=ai.out _ a2.2.1;have a3:=a5.2.2.2.2.2.2;refine qO 5 rfl λK hK=>?_;go_simp;rw[<-ab];refine hK.out _ _ (.inr ag) ?_;clear hK ab ah;refine jS ?_;refine qO 6 rfl λK hK=>?_;go_simp;refine hK.out _ _ (.inr ag) ?_;clear hK ag;refine jS ?_;refine qD ?_;have t7:=a2.2.2.2.2.2.2.cell (j:=7) rfl;obtain⟨T,a0⟩:=qE (⟨n,w3.heap.size,WD.heap.size,w3.heap.size,mp⟩:Tt);have HTn:Hid (T.n=n):=by show _=_;rw[a0]
  have HTt:Hid (T.t=w3.heap.size):=by show _=_;rw[a0]
  have ac:=a2.2.2.2.2.2.1;rcases ac with⟨hP,ae⟩|⟨hP,M,ae,ac⟩
  .cases ae
   obtain⟨wx,a4⟩:=qW W4;have HBx:Hid (yA wx w.heap.size 174 1 w.heap.size [.map (some B)]/\yA wx w.heap.size 83 7 (w.heap.size+1) n.seven/\MpA wx B N Ts/\TsA base (T::Ts) wx/\Chg (λq=>q=B) w wx/\w.heap.size<=T.lo):=by
    obtain⟨h1,h2,h3,h4,h5,h6,h7⟩:=a2.out;rw[a4];refine⟨h1,h2,h4,?_,Chg.of_below h3,by rw[a0];exact a3.2⟩;refine yUg h5 ?_ (by rw[a0];show base<=WD.heap.size;have:=HBb.2.1;omega) (λX hX=>?_)
    .rw[a0];exact⟨⟨h7.cell (j:=0) rfl,h7.cell (j:=1) rfl,h7.cell (j:=2) rfl,h7.cell (j:=3) rfl,h7.cell (j:=4) rfl,h7.cell (j:=5) rfl,h7.cell (j:=6) rfl,h7.cell (j:=7) rfl⟩,by rw[xDg hP];exact h7.cell (j:=8) rfl,h7.lt.2,h6,a3.1,Nat.le_refl _,by show _<WD.heap.size;have:=h5.tabl;have:=HBb.2.1;omega⟩
    .rw[a0];show X.t<WD.heap.size;exact ak.out X hX
   rw[<-a4]at t7|-;clear a4 hP a2 a5 a3 a0;exact zTeB
  .cases ae
   obtain⟨qb,am⟩:=yQm n HnO.s;have ar:Hid (∀W,(xf 198 #[n.s] W (.agg #[(pfxB n.s),qb]):Prop)):=am;obtain⟨pb,ad⟩:=qE (pfxB n.s);rw[<-ad]at ar;have aA:∀W:World,(Instr.field 268 (.agg #[pb,qb]) 0).run prog W=.ok pb W:=λW=>by kernel_rfl
   have x1:=a2.2.1.cell (j:=1) rfl;have aj:Hid (pb=pfxB n.s/\PatK n.kind):=⟨ad,hP⟩;clear am ad hP;go_wp2_with fail;refine(ar.out _).mono ?_;rintro e w5 ⟨rfl,af⟩;obtain⟨wx,a4⟩:=qW (xt w5 w3 8 pb);have aa:=a2.2.2.2.2.2.2.below af;have u8:=aa.cell (j:=8) rfl;have f8:=aa.frozen 8;have HBx:Hid (yA wx w 174 1 w [.map (some B)]/\yA wx w 83 7 (w+1) n.seven/\MpA wx B N Ts/\TsA base (T::Ts) wx/\Chg (λq=>q=B) w wx/\w.heap.size<=T.lo):=by
    obtain⟨h1,h2,h3,h4,h5,h6,h7⟩:=a2.out;have ax:Chg (λq=>q=w3.heap.size) w5 wx:=by rw[a4];exact Chg.of_set _ _ _ _ rfl
    have k3:Chg (λq=>q=w3.heap.size) W4 wx:=(Chg.of_below af).trans ax;have a1:yA wx w 288 9 w3 [xi n.kind,n.s,n.hi,n.t,xu n.lo,xu n.up,xi n.n,xp M,pb]:=by have:=aa.set 8 pb;rw[a4];exact this
    have l1:=h1.lt;have l2:=h2.lt;have l7:=h7.lt;have lB:=HBb.out;have aw:¬w3.heap.size=w.heap.size+1:=qv a3 a5.2.1.lt
    have av:¬w3.heap.size=w.heap.size:=qw a5.1.lt
    refine⟨h1.chg k3 (λq=>av q.symm),h2.chg k3 (λq=>aw q.symm),h4.chg k3 (by omega),?_,?_,by rw[a0];exact a3.2⟩
    .have ay:TsA base Ts wx:=h5.turn k3 (λX hX=>qv (ak.out X hX) a3) (qw h5.tabl);refine yUg ay ?_ (by rw[a0];show base<=WD.heap.size;omega) (λX hX=>?_)
     .rw[a0];exact⟨⟨a1.cell (j:=0) rfl,a1.cell (j:=1) rfl,a1.cell (j:=2) rfl,a1.cell (j:=3) rfl,a1.cell (j:=4) rfl,a1.cell (j:=5) rfl,a1.cell (j:=6) rfl,a1.cell (j:=7) rfl⟩,by rw[ySx aj.2,<-aj.1];exact a1.cell (j:=8) rfl,a1.lt.2,h6.chg k3 (λq hq z=>qw z.2) (λ_=>qw h5.tabl),a3.1,Nat.le_refl _,by show _<WD.heap.size;have:=h5.tabl;omega⟩
     .rw[a0];show X.t<WD.heap.size;exact ak.out X hX
    .exact(Chg.of_below h3).absorb k3 (λq hq=>.inr (qw a5.1.lt))
   clear aa af;go_upto_region 7 with fail;rw[<-a4];clear a4 u8 f8 a2 a5 a3 a0 aj t7 x1 ac;exact zTeB
 .have HE:Hid (∃N' Ts',T∈Ts'/\T.n=n/\(∀X∈Ts,X∈Ts')/\(∀X∈Ts',X∈Ts\/w.heap.size<=X.lo)/\MpA W0 B N' Ts'/\N'<=N+1/\TsA base Ts' W0/\Chg (λq=>q=B) w W0):=⟨N,Ts,aq,ao,λX hX=>hX,λX hX=>.inl hX,HM.1,le_succ _,HM.2,Chg.of_below H0.2.2⟩;clear aq ao;go_enter func151,ntmps151;go_upto_region 1 with fail;rw[<-a7];clear a7;go_wp2;go_ret;exact⟨T,rfl,HE⟩
abbrev xBw(n:Nd)(mp:Option Addr):Value:=.func (Fn.func 193) #[ctvV n (.pointer mp)] #[]
abbrev anyV(r:Int):Value:=.func (Fn.func 190) #[.agg #[xi r,xe]] #[]
abbrev ofT(k t:Nat):Value:=.func (Fn.func k) #[xp t] #[]
def hntV(k:Int)(t:Nat):Value:=
 if k=2 then anyV 6 else if k=4\/k=8 then ofT 194 t else if k=5 then anyV 3 else if k=6\/k=9 then ofT 195 t else if k=10 then ofT 196 t else anyV 0
def cntF(k:Int):Nat:=if k=11 then 189 else if k=12 then 191 else 192
def cntR(k:Int):Int:=if k=11 then 1 else if k=12 then 4 else 0
def tstK(k:Int):Prop:=k=1\/k=2\/k=3\/k=4\/k=5\/k=6\/k=7\/k=8\/k=9\/k=10
abbrev yFi(w:World)(base p N:Nat)(L:List Value):Prop:=w.ownsRow base 234 13 (xg p N N) N L
def BdT(w:World)(p o:Nat)(A H:Value)(e:Ending)(w':World):Prop:=e=.returned (.tuple #[])/\Hid ((∀base N L,yFi w base p N L->yFi w' base p N ((L.set (o+11) A).set (o+12) H))/\Chg (λq=>q=p) w w')
variable {p o:Nat} {A H:Value} {e:Ending}
theorem yZ7(he:e=.returned (.tuple #[]))(hw:w'=(xt (w.setCell (xd p (o+11)) A) p (o+12) H)):BdT w p o A H e w':=
 ⟨he,λbase N L h=>by rw[hw];exact(World.ownsRow.stored (World.ownsRow.stored h (o+11) A).1 (o+12) H).1,by rw[hw];exact(Chg.of_set (S:=λq=>q=p) _ _ _ _ rfl).trans (Chg.of_set (S:=λq=>q=p) _ _ _ _ rfl)⟩
theorem yEq{H':Value}(he:e=.returned (.tuple #[]))(hw:w'=(xt ((w.setCell (xd p (o+11)) A).setCell (xd p (o+12)) H') p (o+12) H)):BdT w p o A H e w':=
 ⟨he,λbase N L h=>by
  rw[hw]
  have h3:=(World.ownsRow.stored (World.ownsRow.stored (World.ownsRow.stored h (o+11) A).1 (o+12) H').1 (o+12) H).1
  rw[set_set]at h3
  exact h3,by rw[hw];exact((Chg.of_set (S:=λq=>q=p) _ _ _ _ rfl).trans (Chg.of_set (S:=λq=>q=p) _ _ _ _ rfl)).trans (Chg.of_set (S:=λq=>q=p) _ _ _ _ rfl)⟩
variable {u:Value}
theorem yRg{mp:Option Addr}{v:Value}(ht:CtvA w t n (.pointer mp))(hne:¬p=t)(hk:tstK n.kind)(kd:(xk w p (o+4) (xi n.kind):Prop))(c1:(xk w p (o+11) u:Prop))(c2:(xk w p (o+12) v:Prop))(fz:∀j,w.frozen? (xd p j)=false):
  Calls prog 150 #[.pointer (some ⟨p,o,none⟩),xp t] w (BdT w p o (xBw n mp) (hntV n.kind t)):=by
 rcases hk with h|h|h|h|h|h|h|h|h|h
 .rw[h]at kd;rw[h];exact(yLy ht hne kd c1 c2 fz).mono (λe w' q=>yZ7 q.1 q.2)
 .rw[h]at kd;rw[h];exact(yLx ht hne kd c1 c2 fz).mono (λe w' q=>yEq q.1 q.2)
 .rw[h]at kd;rw[h];exact(yLw ht hne kd c1 c2 fz).mono (λe w' q=>yZ7 q.1 q.2)
 .rw[h]at kd;rw[h];exact(yLv ht hne kd c1 c2 fz).mono (λe w' q=>yEq q.1 q.2)
 .rw[h]at kd;rw[h];exact(yLu ht hne kd c1 c2 fz).mono (λe w' q=>yEq q.1 q.2)
 .rw[h]at kd;rw[h];exact(yLt ht hne kd c1 c2 fz).mono (λe w' q=>yEq q.1 q.2)
 .rw[h]at kd;rw[h];exact(yLs ht hne kd c1 c2 fz).mono (λe w' q=>yZ7 q.1 q.2)
 .rw[h]at kd;rw[h];exact(yLr ht hne kd c1 c2 fz).mono (λe w' q=>yEq q.1 q.2)
 .rw[h]at kd;rw[h];exact(yLq ht hne kd c1 c2 fz).mono (λe w' q=>yEq q.1 q.2)
 .rw[h]at kd;rw[h];exact(yKs ht hne kd c1 c2 fz).mono (λe w' q=>yEq q.1 q.2)
def BdC(w:World)(p o g q:Nat)(m:Int)(A H:Value)(e:Ending)(w':World):Prop:=e=.returned (.tuple #[])/\Hid ((∀base N L,yFi w base p N L->yFi w' base p N ((L.set (o+11) A).set (o+12) H))/\Chg (λk=>k=p) w w'/\yA w' w 283 2 w [.pointer (some ⟨g,q,none⟩),xi m])
theorem yZ8{g q:Nat}{m:Int}(he:e=.returned (.tuple #[]))(hw:w'=(xw ((w.setCell (xd p (o+11)) A).setCell (xd p (o+12)) H) #[.pointer (some ⟨g,q,none⟩),xi m] 283)):BdC w p o g q m A H e w':=by
 obtain⟨X,hX⟩:=qW (xt (w.setCell (xd p (o+11)) A) p (o+12) H);have hz:X.heap.size=w.heap.size:=by rw[hX];simp
 rw[<-hX]at hw;have kb:=qN hw
 refine⟨he,λbase N L h=>?_,?_,?_⟩
 .have h3:=(World.ownsRow.stored (World.ownsRow.stored h (o+11) A).1 (o+12) H).1;rw[<-hX]at h3;exact yAh h3 (S:=λ_=>False) (Chg.of_below kb) (λ_ _ z=>z)
 .have h4:Chg (λk=>k=p) w X:=by rw[hX];exact(Chg.of_set (S:=λq=>q=p) _ _ _ _ rfl).trans (Chg.of_set (S:=λq=>q=p) _ _ _ _ rfl)
  exact h4.trans (Chg.of_below kb)
 .have:=yAa X (base:=w.heap.size) (t:=283) (sz:=2) #[.pointer (some ⟨g,q,none⟩),xi m] qo rfl;rw[<-hw,hz]at this;exact this
theorem yKt{g q:Nat}{m k:Int}{v:Value}(hp:p<w.heap.size)(hk:cntK k)(kd:(xk w p (o+4) (xi k):Prop))(nn:(xk w p (o+10) (xi m):Prop))(c1:(xk w p (o+11) u:Prop))(c2:(xk w p (o+12) v:Prop))(fz:∀j,w.frozen? (xd p j)=false):
  Calls prog 149 #[.pointer (some ⟨p,o,none⟩),.pointer (some ⟨g,q,none⟩)] w (BdC w p o g q m (ofT (cntF k) w) (anyV (cntR k))):=by
 rcases hk with h|h|h
 .rw[h]at kd;rw[h];exact(yHz hp kd nn c1 c2 fz).mono (λe w' q=>yZ8 q.1 q.2)
 .rw[h]at kd;rw[h];exact(yLz hp kd nn c1 c2 fz).mono (λe w' q=>yZ8 q.1 q.2)
 .rw[h]at kd;rw[h];exact(yOv hp kd nn c1 c2 fz).mono (λe w' q=>yZ8 q.1 q.2)
theorem yZc(h:yFk [n]):cntK n.kind\/tstK n.kind:=by
 have hg:=yF h n (by simp);obtain⟨_,s,hs,_⟩:=h;have ha:yA0 n.kind=0:=by
  generalize hxs: [n]=xs at hs;generalize [s]=ss at hs;cases hs with
  |nil=>cases hxs
  | @snoc ss os xs m ho hh=>
    have h1:xs= []/\n=m:=by
     cases xs with
     |nil=>simp at hxs;exact⟨rfl,hxs⟩
     |cons a r=>simp at hxs
    obtain⟨rfl,rfl⟩:=h1;have h2:ss++os= []:=by
     generalize hz:ss++os=zs at hh;generalize hy:([]:List Nd)=ys at hh;cases hh with
     |nil=>rfl
     |snoc m ho hh=>simp at hy
    have h3:=(List.append_eq_nil_iff.1 h2).2;rw[<-ho,h3];rfl
 unfold yA0 at ha;unfold cntK tstK;rcases hg.2.2.2 with q|q|q|q|q
 .omega
 .omega
 .omega
 .omega
 .have q1:=q.1;rcases q1 with q1|q1|q1|q1|q1|q1<;>simp[q1]at ha|-
section
theorem yU7{α:Type}{f:α->List Value}(hf:∀x,(f x).length=sz)(hsz:0<sz)(e:α)(z:Array Value)(hz:z.toList=f e)(n:Nat):(madeCells z (n*sz)).toList=(List.replicate n e).flatMap f:=by
 have a0:z.size=sz:=by rw[<-hf e,<-hz];simp
 apply ext_getElem?;intro k;by_cases hk:k<n*sz
 .have h1:k=(k/sz)*sz+k%sz:=by rw[Nat.mul_comm];exact(div_add_mod k sz).symm
  have h2:k%sz<sz:=mod_lt _ hsz;have h3:=(div_lt_iff_lt_mul hsz).2 hk;have h4:((List.replicate n e).flatMap f)[k]?=(f e)[k%sz]?:=by
   conv=>lhs;rw[h1]
   exact yFb hf _ (k/sz) e (by rw[getElem?_replicate,if_pos h3]) (k%sz) h2
  rw[h4,<-hz];have h5:k%sz<z.size:=qo
  have h7:=getElem!_pos z (k%sz) h5;simp[madeCells,hk,a0,h7,h5]
 .have h6:((List.replicate n e).flatMap f).length=n*sz:=by rw[yCk hf,length_replicate]
  have h8:(madeCells z (n*sz)).toList.length=n*sz:=by rw[Array.length_toList,size_madeCells]
  rw[getElem?_eq_none (by rw[h8];omega),getElem?_eq_none (by rw[h6];omega)]
theorem yGm{ops:Array Oper}{oo:Oper}{a:Act}{K:Act->World->Prop}{Q:Exit->Act->World->Prop}{E:Prop}(w:World)(hgd:oo.guard=none) l c (t:TypeId) (hop:oo.op=Op.makeSlice t l c)
  (base:Nat) (e:TypeId) (i:TypeInfo) (z:Value) (size:Nat) (h1:prog.underlying t=some (.slice e)) (h2:prog.info? e=some i) (h3:i.zero=some z) (h4:i.size=size)
  (kl kc:IntKind) (L C:Int) (n:Nat) (hl:a.eval l=.int kl L) (hc:a.eval c=.int kc C) (hL:L=(n:Int)) (hC:C=(n:Int)) (b2:i.bytes*n<=281474976710656) (b3:n<=maxLen) (b4:base<=w.heap.size)
  (hK:∀w',w'.ownsRow base e size (xg w n n) n (madeCells z.cells (n*size)).toList->w.grownBy w' none->w'.heap.size=w.heap.size+1->K (a.put oo.dst (xg w n n)) w'):if Region.wanted oo (yielded ops a.tmps)=true then Oper.wp prog oo a w K Q else E:=by
 have hw:Region.wanted oo (yielded ops a.tmps)=true:=by simp[Region.wanted,hgd]
 rw[if_pos hw];obtain⟨w',a0,r1,r2,r3⟩:∃w',(Instr.makeSlice t (.int kl (n:Int)) (.int kc (n:Int))).run prog w=.ok (xg w n n) w'/\w'.ownsRow base e size (xg w n n) n (madeCells z.cells (n*size)).toList/\w.grownBy w' none/\w'.heap.size=w.heap.size+1:=by
  obtain⟨w',a0,r1,r2⟩:=run_make_full (P:=prog) w base t e i z size h1 h2 h3 h4 kl kc n b2 b3 b4;refine⟨w',a0,r1,r2,?_⟩;subst h4;have a2:n<=9223372036854775807:=by unfold maxLen at b3;omega
  have a1:(i.bytes:Int)*(n:Int)<=281474976710656:=by
   have h:((i.bytes*n:Nat):Int)<=281474976710656:=qo
   rwa [Int.natCast_mul]at h
  have h9:=run_make (P:=prog) w t e i z h1 h2 h3 kl kc n n qo (Int.le_refl _) a1 qo;rw[a0]at h9;simp only[Result.ok.injEq]at h9;rw[h9.2];simp
 subst hL;subst hC;unfold Oper.wp;simp[execOp,hop,hl,hc,a0,Result.andThen];exact hK w' r1 r2 r3
structure LdG where
 w:World
 B:Nat
 l:List Ix
 N:Nat
 bI:Nat
 oI:Nat
 cI:Nat
 cnt:Int
 p:Nat
 g:Nat
 mb:Nat
 nk:Nat
 base:Nat
 Ts0:List Tt
 N0:Nat
structure StpD(lo g:Nat)(Ts:List Tt)(L:List Value)(at_:Nat)(x:Ix)(W:World):Prop where
 ten:∀(j:Nat)(v:Value),x.ten[j]?=some v->L[at_*13+j]?=some v
 leaf:x.op=1->(cntK x.leaf.kind/\∃t,(lo<=t/\∀X∈Ts,t<X.lo\/X.t<t)/\yA W lo 283 2 t [.pointer (some ⟨g,x.a.toNat*4,none⟩),xi x.leaf.n]/\L[at_*13+11]?=some (ofT (cntF x.leaf.kind) t)/\L[at_*13+12]?=some (anyV (cntR x.leaf.kind)))\/
  (tstK x.leaf.kind/\∃T∈Ts,T.n=x.leaf/\L[at_*13+11]?=some (xBw x.leaf T.mp)/\L[at_*13+12]?=some (hntV x.leaf.kind T.t))
variable {Ts':List Tt} {L:List Value}
theorem StpD.on{g:Nat}{L':List Value}{at_:Nat}{x:Ix}{S:Nat->Prop}(h:StpD lo g Ts L at_ x W)(hT:∀X∈Ts,X∈Ts')(hnw:∀X∈Ts',X∈Ts\/W.heap.size<=X.lo)(hL:∀j,j<13->L'[at_*13+j]?=L[at_*13+j]?)(hl:x.ten.length=11)(hc:Chg S W W')(hS:∀t vs,yA W lo 283 2 t vs->¬S t):StpD lo g Ts' L' at_ x W':=by
 refine⟨λj v hv=>?_,λho=>?_⟩
 .have:=qf hv;rw[hL j qo];exact h.ten j v hv
 .rcases h.leaf ho with⟨k,t,h1,h2,h3,h4⟩|⟨k,T,h1,h2,h3,h4⟩
  .exact .inl ⟨k,t,⟨h1.1,λX hX=>(hnw X hX).elim (h1.2 X) (λq=>.inl (qw h2.lt))⟩,h2.chg hc (hS t _ h2),by rw[hL 11 qo];exact h3,by rw[hL 12 qo];exact h4⟩
  .exact .inr ⟨k,T,hT T h1,h2,by rw[hL 11 qo];exact h3,by rw[hL 12 qo];exact h4⟩
structure LdJ(G:LdG)(k:Nat)(Ts:List Tt)(NM:Nat)(L:List Value)(wr:World):Prop where
 ldr:yA wr G.w 174 1 G.w [.map (some G.B)]
 blk:yA wr G.w 32 2 (G.w+1) [.slice (some ⟨G.bI,G.oI,none⟩) G.N G.cI,xi G.cnt]
 stp:yFi wr G.w G.p G.N L
 ctr:yFj wr G.w G.g G.nk (List.replicate G.nk newC)
 mch:yA wr G.w 230 3 G.mb [xg G.p G.N G.N,xg G.g G.nk G.nk,xh]
 map:MpA wr G.B NM Ts
 ts:TsA G.base Ts wr
 old:∀X∈G.Ts0,X∈Ts
 new:∀X∈Ts,(X∈G.Ts0/\X.t<G.w.heap.size)\/G.mb<X.lo
 ord:G.w.heap.size+1<G.p/\G.w.heap.size+1<G.g/\¬G.p=G.g/\G.p<G.mb/\G.g<G.mb
 done:∀(at_:Nat)(x:Ix),at_<k->G.l[at_]?=some x->StpD G.w G.g Ts L at_ x wr
 chg:Chg (λq=>q=G.B) G.w wr
structure LdO(G:LdG):Prop where
 B:G.B<G.base/\G.base<=G.w.heap.size/\¬1=G.B
 N:G.N=G.l.length
 Nl:G.N<=4000
 nk:(G.nk:Int)=G.cnt
 nkl:G.nk<=200
 ins:yB5 G.w G.bI G.oI G.l
 bI:G.bI<G.w.heap.size/\¬G.bI=G.B
 ok:∀x∈G.l,x.ok
 good:∀(k:Nat)(x:Ix),G.l[k]?=some x->x.op=1->yFk [x.leaf]/\(cntK x.leaf.kind->0<=x.a/\x.a<G.cnt)
 N0:G.N0<=5000000
section
variable {G:LdG} {k:Nat} {Ts:List Tt} {NM:Nat} {L:List Value} {wr W:World}
theorem LdJ.on(h:LdJ G k Ts NM L wr)(hb:Below wr wr W):LdJ G k Ts NM L W:=by
 have hc:Chg (λ_=>False) wr W:=Chg.of_below hb
 exact {h with
  ldr:=h.ldr.below hb,blk:=h.blk.below hb,stp:=yAh h.stp hc (λ_ _ q=>q),ctr:=h.ctr.below hb,mch:=h.mch.below hb
  map:=h.map.chg hc (λq=>q),ts:=h.ts.chg hc (λq z=>z.elim) (λq=>q)
  done:=λat_ x h1 h2=>(h.done at_ x h1 h2).on (λX hX=>hX) (λX hX=>.inl hX) (λj _=>rfl) rfl hc (λ_ _ _ q=>q)
  chg:=h.chg.trans (hc.mono (λq z=>z.elim))}
theorem LdJ.steps{L':List Value}(h:LdJ G k Ts NM L wr)(hO:LdO G)(hL:yFi W G.w G.p G.N L')(hc:Chg (λq=>q=G.p) wr W)(hd:∀(at_:Nat)(x:Ix),at_<k->G.l[at_]?=some x->∀j,j<13->L'[at_*13+j]?=L[at_*13+j]?):LdJ G k Ts NM L' W:=by
 have hs:=h.chg.size;have a0:=h.ord;have hT:∀X∈Ts,X.t<G.p\/G.p<X.lo:=λX hX=>by
  rcases h.new X hX with q|q
  .exact .inl qo
  .exact .inr qo
 have hB:=hO.B
 exact {h with
  ldr:=h.ldr.chg hc (λq=>yAb h.ldr h.stp qj _ rfl (by rw[q];rfl))
  blk:=h.blk.chg hc (λq=>yAb h.blk h.stp qj _ rfl (by rw[q];rfl))
  stp:=hL
  ctr:=yAh h.ctr hc (λq hq z=>yAb h.ctr h.stp qj _ hq (by rw[z];rfl))
  mch:=h.mch.chg hc (λq=>yAb h.mch h.stp qj _ rfl (by rw[q];rfl))
  map:=h.map.chg hc qo
  ts:=⟨λT hT'=>⟨(h.ts.at_ T hT').1.chg hc (λq hq z=>qw (hT T hT')) (qw h.ts.tabl),(h.ts.at_ T hT').2⟩,h.ts.apart,h.ts.tab.chg hc (qw h.ts.tabl),h.ts.tabl⟩
  done:=λat_ x h1 h2=>(h.done at_ x h1 h2).on (λX hX=>hX) (λX hX=>.inl hX) (hd at_ x h1 h2) rfl hc (λt vs hb q=>yAb hb h.stp qj _ rfl (by rw[q];rfl))
  chg:=h.chg.absorb hc (λq z=>.inr qo)}
theorem LdJ.next(h:LdJ G k Ts NM L wr){x:Ix}(hx:G.l[k]?=some x)(hd:StpD G.w G.g Ts L k x wr):LdJ G (k+1) Ts NM L wr:=
 {h with
  done:=λat_ y h1 h2=>by
   by_cases e:at_=k
   .subst e;rw[hx]at h2;cases h2;exact hd
   .exact h.done at_ y qo h2}
theorem LdJ.test{NM':Nat}(h:LdJ G k Ts NM L wr)(hO:LdO G)(hM:MpA W G.B NM' Ts')(hts:TsA G.base Ts' W)(ho:∀X∈Ts,X∈Ts')(hnw:∀X∈Ts',X∈Ts\/wr.heap.size<=X.lo)(hc:Chg (λq=>q=G.B) wr W):LdJ G k Ts' NM' L W:=by
 have hB:=hO.B;have a0:=h.ord;have a1:=h.mch.lt
 exact {h with
  ldr:=h.ldr.chg hc qo,blk:=h.blk.chg hc qo,stp:=yAh h.stp hc (λq hq z=>by simp[Value.ownBlock]at hq;omega),ctr:=h.ctr.chg hc qo,mch:=h.mch.chg hc qo
  map:=hM
  ts:=hts
  old:=λX hX=>ho X (h.old X hX)
  new:=λX hX=>by
   rcases hnw X hX with q|q
   .exact h.new X q
   .exact .inr qo
  done:=λat_ x h1 h2=>(h.done at_ x h1 h2).on ho hnw (λj _=>rfl) rfl hc (λt vs hb q=>qw hb.lt)
  chg:=h.chg.trans hc}
end
def xCe(w:World)(B:Nat)(l:List Ix)(N bI oI cI:Nat)(cnt:Int)(nk base:Nat)(Ts0:List Tt)(N0:Nat)(e:Ending)(w':World):Prop:=
 ∃mb,e=.returned (xp mb)/\Hid (∃p g Ts NM L,NM<=N0+N/\LdJ ⟨w,B,l,N,bI,oI,cI,cnt,p,g,mb,nk,base,Ts0,N0⟩ N Ts NM L w')
end
theorem Tryz.infoSp:(prog.info? 234).map (λi=>(i.zero,i.size,i.bytes))=some (some (.agg #[xi 0,xi 0,xi 0,false,xi 0,xe,false,xe,xu 0,xu 0,xi 0,.nilFunc,.nilFunc]),13,120):=by kernel_rfl
theorem Tryz.infoKc:(prog.info? 240).map (λi=>(i.zero,i.size,i.bytes))=some (some (.agg #[xe,xe,xe,xi 0]),4,56):=by kernel_rfl
theorem yEp(h:w.grownBy w' none):Below w w w':=⟨h.os,h.tape,h.output,h.size,λk hk=>h.block k hk (by simp)⟩
variable {L:List Value} {j:Nat}
theorem yNg(h1:¬j=o+11)(h2:¬j=o+12):((L.set (o+11) A).set (o+12) H)[j]?=L[j]?:=by rw[getElem?_set_ne (by omega),getElem?_set_ne (by omega)]
theorem yUm(h:o+13<=L.length):((L.set (o+11) A).set (o+12) H)[o+11]?=some A/\((L.set (o+11) A).set (o+12) H)[o+12]?=some H:=by
 refine⟨?_,?_⟩
 .rw[getElem?_set_ne (by omega),getElem?_set_self (by omega)]
 .rw[getElem?_set_self (by rw[length_set];omega)]
theorem yDd(h:yFi w base p N L){v:Value}(hv:L[j]?=some v):(xk w p j v:Prop):=by have hj:=qf hv;rw[World.ownsRow.cellAt h j (by have:=h.1;omega),hv]
theorem yJe(h:yFi w base p N L)(hj:j<N*13):∃v,L[j]?=some v:=qg (by have:=h.1;omega)
variable {p:Prop}
theorem zLdN (h:p:=by
 go_wp2_with fail;go_roundw;case rel=>exact⟨k+1,NMx,Tx,Lx,by omega,by omega,by go_num,HX.out⟩
 case measure=>simp[intOf];omega):p:=h
theorem zLdC (h:p:=by
 obtain⟨an,han⟩:∃an:Nat,x.a=(an:Int):=⟨x.a.toNat,by have:=(HGo.2 hck).1;omega⟩
 have hank:(an:Int)<(nk:Int):=by have h1:=(HGo.2 hck).2;have h2:G.cnt=(nk:Int):=by rw[HGe.out]
                                 omega
 have hnn:0<=(an:Int):=by omega
 have HD:Hid (LdJ G k Ts NM L4 w5.drew/\yA w5.drew G.w 153 11 wo x.ten):=⟨HW5.1.on ((Below.refl _ _).drew),HW5.2.below ((Below.refl _ _).drew)⟩;have hS0:SW (λw':World=>xk w' mb 0 (xg p N N)/\xk w' mb 1 (xg g nk nk)/\xk w' wo 1 (.int .i64 (an:Int))) w5.drew:=by obtain⟨h0,h1,_⟩:=HSa.out _ _ _ _ HD.1;have h2:=HD.2.cell (j:=1) rfl;rw[han]at h2;exact⟨h0,h1,h2⟩
 go_upto_region 8 with fail;refine wpR 99 hS0 ?_;generalize w5.drew=WD at HD hS0|-;refine ja 0 hS0 ?_;iterate 12 refine jb hS0 ?_
 have HSp:Hid (yFi WD w.heap.size p N L4):=by have h9:=HD.1.stp;rw[HGe.out]at h9;exact h9
 have HBd:Hid (Calls prog 149 #[.pointer (some ⟨p,k*13,none⟩),.pointer (some ⟨g,an*4,none⟩)] WD (BdC WD p (k*13) g (an*4) x.leaf.n (ofT (cntF x.leaf.kind) WD.heap.size) (anyV (cntR x.leaf.kind)))):=by obtain⟨u,hu⟩:=yJe HSp.out (show k*13+11<N*13 by omega);obtain⟨v,hv⟩:=yJe HSp.out (show k*13+12<N*13 by omega);exact yKt (World.ownsRow.lt HSp.out p rfl).2 hck (yDd HSp.out (HL4.2.1 4 _ rfl)) (yDd HSp.out (HL4.2.1 10 _ rfl)) (yDd HSp.out hu) (yDd HSp.out hv) (λj=>World.ownsRow.frozenAt HSp.out j)
 refine qO 13 rfl λK hK=>?_;go_simp;refine HBd.mono ?_;rintro e w6 ⟨rfl,H6⟩;obtain⟨Lx,hLx⟩:=qE ((L4.set (k*13+11) (ofT (cntF x.leaf.kind) WD.heap.size)).set (k*13+12) (anyV (cntR x.leaf.kind)));have hgp:G.p=p/\G.N=N/\G.w=w/\G.g=g:=by rw[HGe.out];exact⟨rfl,rfl,rfl,rfl⟩
 have HXk:Hid (LdJ G k Ts NM Lx w6):=HD.1.steps HO.out (by rw[hgp.1,hgp.2.1,hgp.2.2.1,hLx];exact H6.1 _ _ _ HSp.out) (by rw[hgp.1];exact H6.2.1) (λat_ y h1 h2 j hj=>by
  have:(at_+1)*13<=k*13:=mul_le_mul_right 13 h1
  rw[hLx];exact yNg (by omega) (by omega))
 have HX:Hid (LdJ G (k+1) Ts NM Lx w6):=by
  refine HXk.next HXg.out ⟨λj v hv=>?_,λ_=>.inl ⟨hck,WD.heap.size,⟨HD.1.chg.size,λX hX=>.inr (HD.1.ts.at_ X hX).1.lt⟩,?_,?_,?_⟩⟩
  .have hj:j<11:=(List.getElem?_eq_some_iff.1 hv).1;rw[hLx,yNg (by omega) (by omega)];exact HL4.2.1 j v hv
  .rw[han,hgp.2.2.2];exact ySg H6.2.2 HD.1.chg.size
  .rw[hLx];exact(yUm (by rw[HL4.1];omega)).1
  .rw[hLx];exact(yUm (by rw[HL4.1];omega)).2
 have hS6:=SWm hS0 w6 <|by
  obtain⟨h0,h1,_⟩:=HSa.out _ _ _ _ HXk.out;have h2:=(HD.2.chg H6.2.1 (λq=>yAb HD.2 HSp.out (by decide) _ rfl (by rw[q];rfl))).cell (j:=1) rfl;rw[han]at h2;exact⟨h0,h1,h2⟩
 refine hK.out _ _ (.inr hS6) ?_;clear hK hS0 hLx hgp H6;refine jS ?_;refine qD ?_;clear hS6;obtain⟨Tx,hTx⟩:=qE Ts;obtain⟨NMx,hNx⟩:=qE NM;rw[<-hTx,<-hNx]at HX;clear hTx;exact zLdN):p:=h
theorem zLdT (h:p:=by
 have HD:Hid (LdJ G k Ts NM L4 w5.drew/\yA w5.drew G.w 153 11 wo x.ten):=⟨HW5.1.on ((Below.refl _ _).drew),HW5.2.below ((Below.refl _ _).drew)⟩;have HSt:Hid (∀(X:World)(Ts:List Tt)(NM:Nat)(L:List Value),LdJ G k Ts NM L X->yA X G.w 153 11 wo x.ten->(λw':World=>xk w' mb 0 (xg p N N)/\xk w' w 0 (.map (some B))/\xk w' wo 4 (xi x.leaf.kind)/\xk w' wo 5 x.leaf.s/\xk w' wo 6 x.leaf.hi/\xk w' wo 7 x.leaf.t/\xk w' wo 8 (xu x.leaf.lo)/\xk w' wo 9 (xu x.leaf.up)/\xk w' wo 10 (xi x.leaf.n)/\xk w' mb 0 (xg p N N)) X):=λX Ts NM L h b=>by obtain⟨h0,_,h2⟩:=HSa.out _ _ _ _ h;exact⟨h0,h2,b.cell (j:=4) rfl,b.cell (j:=5) rfl,b.cell (j:=6) rfl,b.cell (j:=7) rfl,b.cell (j:=8) rfl,b.cell (j:=9) rfl,b.cell (j:=10) rfl,h0⟩
 have hS0:=HSt.out _ _ _ _ HD.1 HD.2;go_upto_region 9 with fail;refine yAf 99 (λw':World=>xk w' mb 0 (xg p N N)/\xk w' w 0 (.map (some B))/\xk w' wo 4 (xi x.leaf.kind)/\xk w' wo 5 (.string x.leaf.s)/\w'.cell? (xd wo.heap.size 6)=some (.bool x.leaf.hi)/\w'.cell? (xd wo.heap.size 7)=some (.string x.leaf.t)/\w'.cell? (xd wo.heap.size 8)=some (.int .u64 x.leaf.lo)/\w'.cell? (xd wo.heap.size 9)=some (.int .u64 x.leaf.up)/\w'.cell? (xd wo.heap.size 10)=some (.int .i64 x.leaf.n)/\w'.cell? (xd mb 0)=some (.slice (some ⟨p,0,none⟩) N N)) (by kernel_rfl) ?_;generalize w5.drew=WD at HD hS0|-;refine ja 0 hS0 ?_;iterate 8 refine jb hS0 ?_
 have hge:G.B=B/\G.base=base/\G.p=p/\G.N=N/\G.w=w:=by rw[HGe.out];exact⟨rfl,rfl,rfl,rfl,rfl⟩
 have HTe:Hid (Calls prog 151 #[.agg #[.map (some B)],.agg #[.int .i64 x.leaf.kind,.string x.leaf.s,.bool x.leaf.hi,.string x.leaf.t,.int .u64 x.leaf.lo,.int .u64 x.leaf.up,.int .i64 x.leaf.n]] WD (TeP base B NM Ts x.leaf WD)):=by
  have hB:=HO.B;have hm:=HD.1.map;have ht:=HD.1.ts;have h0:=HO.N0;have hz:=HD.1.chg.size;rw[hge.1,hge.2.1]at hB;rw[hge.1]at hm;rw[hge.2.1]at ht;have hn0:G.N0=N0:=by rw[HGe.out]
  exact yX1 hm ht hB.1 (by omega) (by omega) hB.2.2 HGo.1.2 HGo.1.1
 refine qO 9 rfl λK hK=>?_;go_simp;refine HTe.mono ?_;rintro e w6 ⟨T,rfl,H6⟩;obtain⟨NMx,Tx,hT1,hT2,hT3,hT4,hM6,hN6,hs6,hc6⟩:=H6.out;have HT:Hid (T∈Tx/\T.n=x.leaf):=⟨hT1,hT2⟩;have HD6:Hid (LdJ G k Tx NMx L4 w6/\yA w6 G.w.heap.size 153 11 wo.heap.size x.ten):=by have hB:=HO.B;rw[hge.1,hge.2.1]at hB;refine⟨HD.1.test HO.out (by rw[hge.1];exact hM6) (by rw[hge.2.1];exact hs6) hT3 hT4 (by rw[hge.1];exact hc6),HD.2.chg hc6 (λq=>?_)⟩;have:=HD.2.lt;omega
 have hS6:=HSt.out _ _ _ _ HD6.1 HD6.2;clear H6 hT1 hT2 hT3 hT4 hM6 hs6 hc6 HTe HD hS0;refine hK.out _ _ (.inr hS6) ?_;clear hK;refine jS ?_;have HSp:Hid (yFi w6 w.heap.size p N L4):=by have h9:=HD6.1.stp;rw[HGe.out]at h9;exact h9
 obtain⟨tt,htt⟩:=qE T.t;have HBd:Hid (Calls prog 150 #[.pointer (some ⟨p,k*13,none⟩),.pointer (some ⟨tt,0,none⟩)] w6 (BdT w6 p (k*13) (xBw x.leaf T.mp) (hntV x.leaf.kind tt))):=by
  obtain⟨u,hu⟩:=yJe HSp.out (show k*13+11<N*13 by omega);obtain⟨v,hv⟩:=yJe HSp.out (show k*13+12<N*13 by omega);have hta:=(HD6.1.ts.at_ T HT.1).1;have hcv:=hta.ctv;rw[HT.2]at hcv;have hor:=HD6.1.ord;have hne:¬p=T.t:=by have h1:=hta.r1;have h2:=hta.r2;rw[hge.2.2.1]at hor;rcases HD6.1.new T HT.1 with q|q<;>omega
  rw[htt];exact yRg hcv hne htk (yDd HSp.out (HL4.2.1 4 _ rfl)) (yDd HSp.out hu) (yDd HSp.out hv) (λj=>World.ownsRow.frozenAt HSp.out j)
 rw[<-htt];have HTt:Hid (tt=T.t):=htt;clear htt;refine qO 10 rfl λK hK=>?_;go_simp;refine HBd.mono ?_;rintro e w7 ⟨rfl,H7⟩;obtain⟨Lx,hLx⟩:=qE ((L4.set (k*13+11) (xBw x.leaf T.mp)).set (k*13+12) (hntV x.leaf.kind tt));have HXk:Hid (LdJ G k Tx NMx Lx w7):=HD6.1.steps HO.out (by rw[hge.2.2.1,hge.2.2.2.1,hge.2.2.2.2,hLx];exact H7.1 _ _ _ HSp.out) (by rw[hge.2.2.1];exact H7.2) (λat_ y h1 h2 j hj=>by
  have:(at_+1)*13<=k*13:=mul_le_mul_right 13 h1
  rw[hLx];exact yNg (by omega) (by omega))
 have HX:Hid (LdJ G (k+1) Tx NMx Lx w7):=by
  refine HXk.next HXg.out ⟨λj v hv=>?_,λ_=>.inr ⟨htk,T,HT.1,HT.2,?_,?_⟩⟩
  .have hj:j<11:=(List.getElem?_eq_some_iff.1 hv).1;rw[hLx,yNg (by omega) (by omega)];exact HL4.2.1 j v hv
  .rw[hLx];exact(yUm (by rw[HL4.1];omega)).1
  .rw[hLx,<-HTt.out];exact(yUm (by rw[HL4.1];omega)).2
 have hS7:=HSt.out _ _ _ _ HXk.out (HD6.2.chg H7.2 (λq=>yAb HD6.2 HSp.out (by decide) _ rfl (by rw[q];rfl)));refine hK.out _ _ (.inr hS7) ?_;clear hK hS6 hLx hge H7;refine jS ?_;refine qD ?_;clear hS7;exact zLdN):p:=h
theorem zLdK (h:p:=by
 obtain⟨x,hx⟩:∃x,l[k]?=some x:=qg (by have:=HO.N;rw[HGe.out]at this;simp only at this;omega);have HX0:Hid (l[k]?=some x):=hx;have HXg:Hid (G.l[k]?=some x):=by rw[HGe.out];exact hx
 have hxa:yB5 wo G.bI G.oI G.l:=HO.ins.chg HJ.chg HO.bI.1 HO.bI.2;obtain⟨x0,x1,x2,x3,x4,x5,x6,x7,x8,x9,x10⟩:=hxa k x HXg.out;rw[HGe.out]at x0 x1 x2 x3 x4 x5 x6 x7 x8 x9 x10;simp only at x0 x1 x2 x3 x4 x5 x6 x7 x8 x9 x10;have zk:(k:Int)<(N:Int):=by omega
 obtain⟨W2,hW2⟩:=qE (xw wo #[xi x.op,xi x.a,xi x.b,x.free,xi x.leaf.kind,x.leaf.s,x.leaf.hi,x.leaf.t,xu x.leaf.lo,xu x.leaf.up,xi x.leaf.n] 153:World);have HW2:Hid (LdJ G k Ts NM L W2.drew/\yA W2.drew G.w 153 11 wo x.ten):=by
  have k2:=qN hW2
  have b2:yA W2 G.w 153 11 wo x.ten:=by rw[hW2];exact yAa wo _ HJ.chg.size rfl
  exact⟨(HJ.on k2).on ((Below.refl _ _).drew),b2.below ((Below.refl _ _).drew)⟩
 have HSa:Hid (∀(X:World)(Ts:List Tt)(NM:Nat)(L:List Value),LdJ G k Ts NM L X->xk X mb 0 (xg p N N)/\xk X mb 1 (xg g nk nk)/\xk X w 0 (.map (some B))):=λX Ts NM L h=>by obtain⟨h0,h1⟩:=h.mch.c2;have h2:=h.ldr.cell (j:=0) rfl;rw[HGe.out]at h0 h1 h2;exact⟨h0,h1,h2⟩
 have HSb:Hid (∀X:World,yA X G.w 153 11 wo x.ten->(xk X mb 0 (xg p N N):Prop)->(λw':World=>xk w' mb 0 (xg p N N)/\xk w' wo 0 (xi x.op)/\xk w' wo 1 (xi x.a)/\xk w' wo 2 (xi x.b)/\xk w' wo 3 x.free/\xk w' wo 4 (xi x.leaf.kind)/\xk w' wo 5 x.leaf.s/\xk w' wo 6 x.leaf.hi/\xk w' wo 7 x.leaf.t/\xk w' wo 8 (xu x.leaf.lo)/\xk w' wo 9 (xu x.leaf.up)/\xk w' wo 10 (xi x.leaf.n)/\xk w' mb 0 (xg p N N)/\xk w' mb 0 (xg p N N)/\xk w' mb 0 (xg p N N)/\xk w' mb 0 (xg p N N)/\xk w' mb 0 (xg p N N)/\xk w' mb 0 (xg p N N)) X):=λX b h0=>
  ⟨h0,b.cell (j:=0) rfl,b.cell (j:=1) rfl,b.cell (j:=2) rfl,b.cell (j:=3) rfl,b.cell (j:=4) rfl,b.cell (j:=5) rfl,b.cell (j:=6) rfl,b.cell (j:=7) rfl,b.cell (j:=8) rfl,b.cell (j:=9) rfl,b.cell (j:=10) rfl,h0,h0,h0,h0,h0,h0⟩
 have hS0:=HSb.out _ HW2.2 (HSa.out _ _ _ _ HW2.1).1;clear hx hxa;go_upto_region 5 with fail;rw[<-hW2];clear hW2 x0 x1 x2 x3 x4 x5 x6 x7 x8 x9 x10;refine yAf 99 (λw':World=>xk w' mb 0 (xg p N N)/\xk w' wo 0 (xi x.op)/\xk w' wo 1 (.int .i64 x.a)/\w'.cell? (xd wo.heap.size 2)=some (.int .i64 x.b)/\w'.cell? (xd wo.heap.size 3)=some (.bool x.free)/\w'.cell? (xd wo.heap.size 4)=some (.int .i64 x.leaf.kind)/\w'.cell? (xd wo.heap.size 5)=some (.string x.leaf.s)/\w'.cell? (xd wo.heap.size 6)=some (.bool x.leaf.hi)/\w'.cell? (xd wo.heap.size 7)=some (.string x.leaf.t)/\w'.cell? (xd wo.heap.size 8)=some (.int .u64 x.leaf.lo)/\w'.cell? (xd wo.heap.size 9)=some (.int .u64 x.leaf.up)/\w'.cell? (xd wo.heap.size 10)=some (.int .i64 x.leaf.n)/\w'.cell? (xd mb 0)=some (.slice (some ⟨p,0,none⟩) N N)/\w'.cell? (xd mb 0)=some (.slice (some ⟨p,0,none⟩) N N)/\w'.cell? (xd mb 0)=some (.slice (some ⟨p,0,none⟩) N N)/\w'.cell? (xd mb 0)=some (.slice (some ⟨p,0,none⟩) N N)/\w'.cell? (xd mb 0)=some (.slice (some ⟨p,0,none⟩) N N)/\w'.cell? (xd mb 0)=some (.slice (some ⟨p,0,none⟩) N N)) (by kernel_rfl) ?_;generalize W2.drew=WD at HW2 hS0|-;refine ja 0 hS0 ?_;iterate 7 refine jb hS0 ?_
 have HSp:Hid (yFi WD w.heap.size p N L):=by have h9:=HW2.1.stp;rw[HGe.out]at h9;exact h9
 have hcell:∀j,j<N*13->∃v,WD.cell? (xd p j)=some v:=λj hj=>by obtain⟨v,hv⟩:=yJe HSp.out hj;exact⟨v,yDd HSp.out hv⟩
 have fz:∀j,WD.frozen? ⟨p,j,none⟩=false:=λj=>World.ownsRow.frozenAt HSp.out j;obtain⟨W4,hW4⟩:=qE (setCs WD p (k*13) x.ten:World);obtain⟨L4,hL4⟩:=qE (setL L (k*13) x.ten);have HLn:Hid (L.length=N*13):=HSp.1;have HL4:Hid (L4.length=N*13/\(∀j v,x.ten[j]?=some v->L4[k*13+j]?=some v)/\(∀j,j<k*13\/k*13+11<=j->L4[j]?=L[j]?)):=by
  have hll:x.ten.length=11:=rfl;have hg:∀j,L4[j]?=if k*13<=j/\j<k*13+11/\j<L.length then x.ten[j-k*13]? else L[j]?:=λj=>by rw[hL4,yIv,hll]
  refine⟨?_,λj v hv=>?_,λj hj=>?_⟩
  .have h1:(setCs WD p (k*13) x.ten).ownsRow w.heap.size 234 13 (.slice (some ⟨p,0,none⟩) N N) N (setL L (k*13) x.ten):=yBu (v:=.slice (some ⟨p,0,none⟩) N N) rfl ⟨N,rfl⟩ x.ten (k*13) WD L HSp.out;rw[hL4];exact h1.1
  .have hj:=(List.getElem?_eq_some_iff.1 hv).1;rw[hll]at hj;rw[hg,if_pos ⟨by omega,by omega,by have:=HLn.out;omega⟩,Nat.add_sub_cancel_left];exact hv
  .rw[hg,if_neg (by omega)]
 have HW4:Hid (LdJ G k Ts NM L4 W4/\yA W4 G.w.heap.size 153 11 wo.heap.size x.ten):=by
  have hc4:Chg (λq=>q=p) WD W4:=by rw[hW4];exact yAl (S:=λq=>q=p) p rfl _ _ _
  have ho4:yFi W4 w.heap.size p N L4:=by rw[hW4,hL4];exact yBu (v:=.slice (some ⟨p,0,none⟩) N N) rfl ⟨N,rfl⟩ x.ten (k*13) WD L HSp.out
  have hgp:G.p=p/\G.N=N/\G.w=w:=by rw[HGe.out];exact⟨rfl,rfl,rfl⟩
  refine⟨HW2.1.steps HO.out (by rw[hgp.1,hgp.2.1,hgp.2.2];exact ho4) (by rw[hgp.1];exact hc4) (λat_ y h1 h2 j hj=>HL4.2.2 _ (.inl (by have:(at_+1)*13<=k*13:=mul_le_mul_right 13 h1;omega))),HW2.2.chg hc4 (λq=>?_)⟩;exact yAb HW2.2 HSp.out (by decide) _ rfl (by rw[q];rfl)
 have hS4:=HSb.out _ HW4.2 (HSa.out _ _ _ _ HW4.1).1;clear hL4;refine qO 8 rfl λK hK=>?_;refine yR6 rfl _ _ 153 rfl p (k*13) rfl x.ten rfl (by kernel_rfl) (λj hj=>?_) fz (λv hv=>?_) ?_
 .obtain⟨v,hv⟩:=hcell (k*13+j) (by have hj2:j<11:=hj;omega);rw[hv];rfl
 .have hv2:v∈ [Value.int .i64 x.op,.int .i64 x.a,.int .i64 x.b,.bool x.free,.int .i64 x.leaf.kind,.string x.leaf.s,.bool x.leaf.hi,.string x.leaf.t,.int .u64 x.leaf.lo,.int .u64 x.leaf.up,.int .i64 x.leaf.n]:=hv;simp only[mem_cons,not_mem_nil,or_false]at hv2;rcases hv2 with rfl|rfl|rfl|rfl|rfl|rfl|rfl|rfl|rfl|rfl|rfl<;>rfl
 rw[<-hW4];refine hK.out _ _ (.inr hS4) ?_;clear hK hW4 hS0 hcell fz HW2 HSp;refine jS ?_;refine qD ?_;have y0:=HW4.2.cell (j:=0) rfl;have y4:=HW4.2.cell (j:=4) rfl;clear hS4;by_cases ho:x.op=1
 .have hb:(x.op==1)=true:=by simp[ho]
  rw[ho]at y0;have hgf:=HO.good k x HXg.out ho;have HGo:Hid ((yCb x.leaf/\x.leaf.ok)/\(cntK x.leaf.kind->0<=x.a/\x.a<G.cnt)):=⟨⟨yF hgf.1 x.leaf (by simp),(HO.ok x (mem_of_getElem? HXg.out)).leaf⟩,hgf.2⟩;have hlk:=yZc hgf.1;clear hgf;go_wp2_with fail;refine(yJ8 x.leaf.kind W4).mono ?_;rintro e w5 ⟨r,rfl,hr,hb5⟩;have HW5:Hid (LdJ G k Ts NM L4 w5/\yA w5 G.w.heap.size 153 11 wo.heap.size x.ten):=⟨HW4.1.on hb5,HW4.2.below hb5⟩;clear hb5 y0 y4 HW4;rcases hlk with hck|htk
  .obtain rfl:r=true:=hr.2 hck;clear hr;exact zLdC
  .have hnc:¬cntK x.leaf.kind:=by unfold tstK at htk;unfold cntK;omega
   obtain rfl:r=false:=by
    cases r
    .rfl
    .exact absurd (hr.1 rfl) hnc
   clear hr;exact zLdT
 .have hb:(x.op==1)=false:=by simp[ho]
  have HX:Hid (LdJ G (k+1) Ts NM L4 W4):=HW4.1.next HXg.out ⟨HL4.2.1,λq=>absurd q ho⟩;obtain⟨Tx,hTx⟩:=qE Ts;obtain⟨NMx,hNx⟩:=qE NM;obtain⟨Lx,hLx⟩:=qE L4;rw[<-hTx,<-hNx,<-hLx]at HX;clear hTx hLx;exact zLdN):p:=h
theorem zLdS (h:p:=by
 have hS5:SW (λw':World=>xk w' (w+1) 0 (.slice (some ⟨bI,oI,none⟩) N cI)/\xk w' (w+1) 1 (xi nk)) W5:=⟨H5.2.1.cell (j:=0) rfl,H5.2.1.cell (j:=1) rfl⟩;refine hK.out _ _ (.inr hS5) ?_;clear hK hS3;refine jS ?_;refine ja 7 hS5 ?_;obtain⟨W6,hW6⟩:=qE (xw W5 #[xg p N N,xg g nk nk,.slice none 0 0] 230:World);obtain⟨mb,hmb⟩:=qE W5.heap.size;obtain⟨G,hG⟩:=qE (⟨w,B,l,N,bI,oI,cI,(nk:Int),p,g,mb,nk,base,Ts0,N0⟩:LdG);have H6:Hid (∃L,LdJ G 0 Ts0 N0 L W6):=by
  obtain⟨h1,h2,h3,⟨L,h4⟩,h5,h6,h7,h8,h9,h10⟩:=H5.out;have k6:Below W5 W5 W6:=by rw[hW6];exact qB
  have kb:Below w.heap.size w W6:=h3.trans (k6.mono h3.size);have kc:Chg (λ_=>False) w W6:=Chg.of_below kb;rw[hG];exact⟨L,h1.below k6,h2.below k6,yAh h4 (S:=λ_=>False) (Chg.of_below k6) (λ_ _ q=>q),h5.below k6,by rw[hmb,hW6];exact yAa W5 _ h3.size rfl,HM.1.chg kc (λq=>q),HM.2.chg kc (λq z=>z.elim) (λq=>q),λX hX=>hX,λX hX=>.inl ⟨hX,(HM.2.at_ X hX).1.lt⟩,⟨h6,h7,h8,by show p<mb;omega,by show g<mb;omega⟩,λat_ x h=>absurd h (not_lt_zero _),kc.mono (λq z=>z.elim)⟩
 have hS6:=SWm hS5 W6 <|by
  have k6:Below W5 W5 W6:=by rw[hW6];exact qB
  exact⟨(H5.2.1.below k6).cell (j:=0) rfl,(H5.2.1.below k6).cell (j:=1) rfl⟩
 have HGe:Hid (G=⟨w,B,l,N,bI,oI,cI,(nk:Int),p,g,mb,nk,base,Ts0,N0⟩):=hG;have HO:Hid (LdO G):=by rw[hG];exact HO0.out p g mb
 clear hG;refine qO 8 rfl λK hK=>?_;go_simp;rw[<-hW6];(try simp only[<-hmb]);refine hK.out _ _ (.inr hS6) ?_;clear hK hW6 hS5 hmb H5;refine jS ?_;refine qO 9 rfl λK hK=>?_;go_simp;refine hK.out _ _ (.inr hS6) ?_;clear hK;refine jS ?_;refine qD ?_;obtain⟨c0,c1⟩:=hS6;go_wp2_with fail;go_loopw[20] (λkv wr=>∃(k NM:Nat)(Ts:List Tt)(L:List Value),k<=N/\NM<=N0+k/\kv=.int .i64 (k:Int)/\Hid (LdJ G k Ts NM L wr)) (λkv _=>N-(intOf kv).toNat);case atStart=>
  obtain⟨L,hL⟩:=H6.out;exact⟨0,N0,Ts0,L,zero_le _,by omega,rfl,hL⟩
 case round=>
  clear H6 c0 c1;obtain⟨k,NM,Ts,L,hk,hnm,rfl,HJ⟩:=hrel;obtain⟨wo,hwo⟩:=qE (wr:World);subst hwo;by_cases hlt:k<N
  .as_aux_lemma=>exact zLdK
  .have zk:¬(k:Int)<(N:Int):=by omega
   have HE:Hid (∃p g Ts NM L,NM<=N0+N/\LdJ ⟨w,B,l,N,bI,oI,cI,(nk:Int),p,g,mb,nk,base,Ts0,N0⟩ N Ts NM L wo):=by
    have hkN:k=N:=by omega
    subst hkN;have h9:=HJ.out;rw[HGe.out]at h9;exact⟨p,g,Ts,NM,L,hnm,h9⟩
   go_wp2_with fail;go_ret;exact⟨mb,rfl,HE⟩):p:=h
variable {bI oI cI nk:Nat} {cnt:Int}
theorem yP3{l:List Ix}{Ts0:List Tt}{N0:Nat}(hO:∀p g mb,LdO ⟨w,B,l,N,bI,oI,cI,cnt,p,g,mb,nk,base,Ts0,N0⟩)(hM:MpA w B N0 Ts0)(hT:TsA base Ts0 w):
  Calls prog 101 #[.agg #[.map (some B)],.agg #[.slice (some ⟨bI,oI,none⟩) N cI,xi cnt]] w (xCe w B l N bI oI cI cnt nk base Ts0 N0):=by
 have a7:cnt=(nk:Int):=(hO 0 0 0).nk.symm;have a9:N<=4000:=(hO 0 0 0).Nl;have a8:nk<=200:=(hO 0 0 0).nkl;subst a7;have HO0:Hid (∀p g mb,LdO ⟨w,B,l,N,bI,oI,cI,(nk:Int),p,g,mb,nk,base,Ts0,N0⟩):=hO;obtain⟨W0,a3⟩:=qE (xw (w.alloc (Obj.cells #[.map (some B)] 174)) #[.slice (some ⟨bI,oI,none⟩) N cI,xi nk] 32:World);have H0:Hid (yA W0 w 174 1 w [.map (some B)]/\yA W0 w 32 2 (w+1) [.slice (some ⟨bI,oI,none⟩) N cI,xi nk]/\Below w w W0/\W0.heap.size=w.heap.size+2):=by
  obtain⟨X,hX⟩:=qE (xw w #[.map (some B)] 174:World);rw[<-hX]at a3;have zx:=qS hX
  have k1:=qN hX
  have k2:=qN a3
  have b1:yA X w 174 1 w [.map (some B)]:=by rw[hX];exact yAa w _ qr rfl
  have b2:yA W0 w 32 2 (w+1) [.slice (some ⟨bI,oI,none⟩) N cI,xi nk]:=by rw[a3,<-zx];exact yAa X _ (by omega) rfl
  exact⟨b1.below k2,b2,k1.trans (k2.mono (by omega)),by rw[a3];simp;omega⟩
 have HM:Hid (MpA w B N0 Ts0/\TsA base Ts0 w):=⟨hM,hT⟩;clear hO hM hT;go_enter func101,ntmps101;go_upto_region 1 with fail;rw[<-a3];clear a3;have HD:Hid (yA W0.drew w 174 1 w [.map (some B)]/\yA W0.drew w 32 2 (w+1) [.slice (some ⟨bI,oI,none⟩) N cI,xi nk]/\Below w w W0.drew/\W0.drew.heap.size=w.heap.size+2):=by have k:=(Below.refl W0 W0).drew;exact⟨H0.1.below k,H0.2.1.below k,H0.2.2.1.trans (k.mono H0.2.2.1.size),H0.2.2.2⟩
 have hS0:SW (λw':World=>xk w' (w+1) 0 (.slice (some ⟨bI,oI,none⟩) N cI)/\xk w' (w+1) 1 (xi nk)) W0.drew:=⟨HD.2.1.cell (j:=0) rfl,HD.2.1.cell (j:=1) rfl⟩;obtain⟨ip,a5,p1,p2,p3⟩:=info_parts Tryz.infoSp;obtain⟨ig,a6,g1,g2,g3⟩:=info_parts Tryz.infoKc;have a1:Hid (prog.info? 234=some ip/\ip.zero=some (.agg #[xi 0,xi 0,xi 0,false,xi 0,xe,false,xe,xu 0,xu 0,xi 0,.nilFunc,.nilFunc])/\ip.size=13/\ip.bytes=120):=⟨a5,p1,p2,p3⟩;have a2:Hid (prog.info? 240=some ig/\ig.zero=some (.agg #[xe,xe,xe,xi 0])/\ig.size=4/\ig.bytes=56):=⟨a6,g1,g2,g3⟩;clear a5 p1 p2 p3 a6 g1 g2 g3;refine wpR 99 hS0 ?_;generalize W0.drew=WD at HD hS0|-;refine ja 0 hS0 ?_;iterate 2 refine jb hS0 ?_
 refine ja 4 hS0 ?_;refine jb hS0 ?_;refine yB2 (i:=3) (j:=6) (by kernel_rfl) rfl rfl (λK hK=>?_) (λK hK=>?_)
 .refine yGm WD rfl _ _ 226 rfl w 234 ip _ 13 underlying226 a1.1 a1.2.1 a1.2.2.1 .i64 .i64 _ _ N rfl rfl rfl rfl (by rw[a1.2.2.2];omega) (by unfold maxLen;omega) HD.2.2.1.size (λw3 hO3 hg3 hz3=>?_);have a0:Below WD WD w3:=yEp hg3;have hS3:=SWm hS0 w3 <|⟨(HD.2.1.below a0).cell (j:=0) rfl,(HD.2.1.below a0).cell (j:=1) rfl⟩;refine hK.out _ _ (.inr hS3) ?_;clear hK hS0;refine jS ?_;refine qO 6 rfl λK hK=>?_;refine yGm w3 rfl _ _ 227 rfl w 240 ig _ 4 underlying227 a2.1 a2.2.1 a2.2.2.1 .i64 .i64 _ _ nk rfl rfl rfl rfl (by rw[a2.2.2.2];omega) (by unfold maxLen;omega) (by have:=HD.2.2.1.size;omega) (λW5 hO5 hg5 hz5=>?_);have hb5:Below w3 w3 W5:=yEp hg5;obtain⟨p,hp⟩:=qE WD.heap.size;obtain⟨g,hg⟩:=qE w3.heap.size;have H5:Hid (yA W5 w.heap.size 174 1 w.heap.size [.map (some B)]/\yA W5 w.heap.size 32 2 (w.heap.size+1) [.slice (some ⟨bI,oI,none⟩) N cI,.int .i64 (nk:Int)]/\Below w.heap.size w W5/\(∃L,yFi W5 w.heap.size p N L)/\yFj W5 w.heap.size g nk (List.replicate nk newC)/\w.heap.size+1<p/\w.heap.size+1<g/\¬p=g/\p<W5.heap.size/\g<W5.heap.size):=by have hz:=HD.2.2.2;have a4:=HD.2.2.1;rw[yU7 yIf (by decide) newC (Value.cells (.agg #[.string ⟨#[]⟩,.string ⟨#[]⟩,.string ⟨#[]⟩,.int .i64 0])) rfl nk]at hO5;refine⟨(HD.1.below a0).below hb5,(HD.2.1.below a0).below hb5,(a4.trans (a0.mono a4.size)).trans (hb5.mono (by omega)),⟨_,by rw[hp];exact yAh hO3 (S:=λ_=>False) (Chg.of_below hb5) (λ_ _ q=>q)⟩,by rw[hg];unfold yFj OwnG;rw[length_replicate];exact hO5,by omega,by omega,by omega,by omega,by omega⟩
  rw[<-hp,<-hg];clear hO3 hg3 hz3 a0 hO5 hg5 hz5 hb5 hp hg HD;exact zLdS
 .refine yGm WD rfl _ _ 227 rfl w.heap.size 240 ig _ 4 underlying227 a2.1 a2.2.1 a2.2.2.1 .i64 .i64 _ _ nk rfl rfl rfl rfl (by rw[a2.2.2.2];omega) (by unfold maxLen;omega) HD.2.2.1.size (λw3 hO3 hg3 hz3=>?_);have a0:Below WD.heap.size WD w3:=yEp hg3;have hS3:(λw':World=>w'.cell? (xd (w.heap.size+1) 0)=some (.slice (some ⟨bI,oI,none⟩) N cI)/\w'.cell? (xd (w.heap.size+1) 1)=some (.int .i64 (nk:Int))) w3:=⟨(HD.2.1.below a0).cell (j:=0) rfl,(HD.2.1.below a0).cell (j:=1) rfl⟩;refine hK.out _ _ (.inr hS3) ?_;clear hK hS0;refine jS ?_;refine qO 3 rfl λK hK=>?_;refine yGm w3 rfl _ _ 226 rfl w.heap.size 234 ip _ 13 underlying226 a1.1 a1.2.1 a1.2.2.1 .i64 .i64 _ _ N rfl rfl rfl rfl (by rw[a1.2.2.2];omega) (by unfold maxLen;omega) (by have:=HD.2.2.1.size;omega) (λW5 hO5 hg5 hz5=>?_);have hb5:Below w3.heap.size w3 W5:=yEp hg5;obtain⟨g,hg⟩:=qE WD.heap.size;obtain⟨p,hp⟩:=qE w3.heap.size;have H5:Hid (yA W5 w.heap.size 174 1 w.heap.size [.map (some B)]/\yA W5 w.heap.size 32 2 (w.heap.size+1) [.slice (some ⟨bI,oI,none⟩) N cI,.int .i64 (nk:Int)]/\Below w.heap.size w W5/\(∃L,yFi W5 w.heap.size p N L)/\yFj W5 w.heap.size g nk (List.replicate nk newC)/\w.heap.size+1<p/\w.heap.size+1<g/\¬p=g/\p<W5.heap.size/\g<W5.heap.size):=by have hz:=HD.2.2.2;have a4:=HD.2.2.1;rw[yU7 yIf (by decide) newC (Value.cells (.agg #[.string ⟨#[]⟩,.string ⟨#[]⟩,.string ⟨#[]⟩,.int .i64 0])) rfl nk]at hO3;refine⟨(HD.1.below a0).below hb5,(HD.2.1.below a0).below hb5,(a4.trans (a0.mono a4.size)).trans (hb5.mono (by omega)),⟨_,by rw[hp];exact hO5⟩,?_,by omega,by omega,by omega,by omega,by omega⟩;rw[hg];have h9:=yAh hO3 (S:=λ_=>False) (Chg.of_below hb5) (λ_ _ q=>q);unfold yFj OwnG;rw[length_replicate];exact h9
  rw[<-hp,<-hg];clear hO3 hg3 hz3 a0 hO5 hg5 hz5 hb5 hp hg HD;exact zLdS
theorem TsA.side{S:Nat->Prop}(h:TsA base Ts W)(hc:Chg S W W')(hS:∀q,S q->∀X∈Ts,q<X.lo\/X.t<q)(hv:¬S 1):TsA base Ts W':=
 ⟨λT hT=>⟨(h.at_ T hT).1.chg hc (λq hq z=>qw (hS q hq T hT)) hv,(h.at_ T hT).2⟩,h.apart,h.tab.chg hc hv,h.tabl⟩
theorem TsA.one(h:TsA base Ts W)(hT:T∈Ts)(hc:Chg (InB T.lo T.hi) W W')(ht:yDm W' T.lo T.hi T.n (.pointer T.mp)):TsA base Ts W':=by
 have hv:¬InB T.lo T.hi 1:=λq=>qv ((h.at_ T hT).1.tab) q.1
 refine⟨λX hX=>?_,h.apart,h.tab.chg hc hv,h.tabl⟩;refine⟨?_,(h.at_ X hX).2⟩;have hx:=(h.at_ X hX).1;have h1:=hx.r1;have h2:=hx.r2;have a1:=(h.at_ T hT).1;have t1:=a1.r1;have t2:=a1.r2;by_cases e:X=T
 .subst e;have hn:¬InB X.lo X.hi X.t:=λq=>qw q.2
  have a0:∀j,W'.cell? (xd X.t j)=W.cell? (xd X.t j):=λj=>hc.cell (p:=(xd X.t j)) hx.lt hn;obtain⟨c0,c1,c2,c3,c4,c5,c6,c7⟩:=hx.ctv;exact⟨⟨(a0 0).trans c0,(a0 1).trans c1,(a0 2).trans c2,(a0 3).trans c3,(a0 4).trans c4,(a0 5).trans c5,(a0 6).trans c6,(a0 7).trans c7⟩,(a0 8).trans hx.low,Nat.lt_of_lt_of_le hx.lt hc.size,ht,h1,h2,hx.tab⟩
 .have a2:X.t<T.lo\/T.t<X.lo:=by
   have hp:=h.apart;clear hc ht hx a1;induction Ts with
   |nil=>cases hX
   |cons Y Ys ih=>
    obtain⟨p1,p2⟩:=List.pairwise_cons.1 hp;rcases mem_cons.1 hX with x1|x1
    .rcases mem_cons.1 hT with y1|y1
     .exact absurd (x1.trans y1.symm) e
     .rw[x1];exact .inr (p1 T y1)
    .rcases mem_cons.1 hT with y1|y1
     .rw[y1];exact .inl (p1 X x1)
     .exact ih ⟨λZ hZ=>h.at_ Z (mem_cons_of_mem _ hZ),p2,h.tab,h.tabl⟩ y1 x1 p2
  exact hx.chg hc (λq hq z=>qv hq.1 hq.2) hv
theorem xB4(k:Int):EntF (cntF k):=by
 unfold cntF;split
 .exact yOi
 .split
  .exact yWz
  .exact yZu
variable {ks:List Ctr}
theorem xFp{g cap:Nat}{i:Nat}{k:Ctr}(hk:cntK n.kind)(h:CkA w base t g cap ks i k n.n)(c:Ent)(hkk:CtK k)(hr:¬c.row=⟨#[]⟩):
  Calls prog (cntF n.kind) #[xp t,c.c] w λe w'=>e=.returned (yCh n k c).1/\yFj w' base g cap (ks.set i (yCh n k c).2)/\Chg (λq=>q=g) w w':=by
 have hc:0<=k.count/\k.count<=1000000:=⟨hkk.lo,qw hkk.up⟩;rcases hk with hk|hk|hk
 .have h1:=yZ2 (n:=n) hkk hr (k.row.toList==c.row.toList && (k.fam.toList==c.fam.toList && k.qual.toList==c.qual.toList)) (by simp[hk]);obtain⟨h2,h3⟩:=xDk h1 qo;rw[show cntF n.kind=189 from by unfold cntF;rw[if_pos hk]];refine(yVq h c hc).mono ?_;rintro e w' ⟨q1,q2,q3⟩;rw[h2]at q1;rw[h3]at q2;exact⟨q1,q2.row,q3⟩
 .have h1:=yZ2 (n:=n) hkk hr (k.row.toList==c.row.toList) (by simp[hk]);obtain⟨h2,h3⟩:=xDk h1 qo;rw[show cntF n.kind=191 from by unfold cntF;rw[if_neg qo,if_pos hk]];refine(yKp h c hc).mono ?_;rintro e w' ⟨q1,q2,q3⟩;rw[h2]at q1;rw[h3]at q2;exact⟨q1,q2.row,q3⟩
 .have h1:=yZ2 (n:=n) hkk hr (k.row.toList==c.row.toList) (by simp[hk]);obtain⟨h2,h3⟩:=xB8 h1 hk;rw[show cntF n.kind=192 from by unfold cntF;rw[if_neg qo,if_neg qo]];refine(yV1 h c hc).mono ?_;rintro e w' ⟨q1,q2,q3⟩;rw[h2]at q1;rw[h3]at q2;exact⟨q1,q2.row,q3⟩
theorem TtA.lfa(h:TtA T W):LfA W T.t T.n (.pointer T.mp) (lowB T.n):=⟨h.ctv.t4,h.ctv.t7,h.low,h.lt⟩
theorem TtA.mv(h:TtA T W):(PatK T.n.kind/\mvB (.pointer T.mp) true)\/(¬PatK T.n.kind/\mvB (.pointer T.mp) false):=by
 rcases h.tst with⟨q,e⟩|⟨q,M,e,_⟩
 .exact .inr ⟨q,.inl ⟨e,rfl⟩⟩
 .exact .inl ⟨q,.inr ⟨M,e,rfl⟩⟩
theorem xFi(T:Tt)(hk:tstK T.n.kind):∃(kh:Nat)(hv:Value),hntV T.n.kind T.t=.func (Fn.func kh) #[hv] #[]/\EntF kh/\∀(c:Ent)(W:World),TtA T W->(xf kh #[hv,c.c] W (yB4 (pfxB T.n.s) T.n c).v:Prop):=by
 have a0:∀(r:Int),hntV T.n.kind T.t=anyV r->(∀c,yB4 (pfxB T.n.s) T.n c=⟨r,⟨#[]⟩⟩)->∃(kh:Nat)(hv:Value),hntV T.n.kind T.t=.func (Fn.func kh) #[hv] #[]/\EntF kh/\∀(c:Ent)(W:World),TtA T W->(xf kh #[hv,c.c] W (yB4 (pfxB T.n.s) T.n c).v:Prop):=λr h1 h2=>
  ⟨_,_,h1,yMp,λc W hT=>by rw[h2 c];exact yL9 ⟨r,⟨#[]⟩⟩ c W⟩
 have a1:hntV T.n.kind T.t=ofT 194 T.t->(∀c W,TtA T W->∃m,mvB (.pointer T.mp) m/\txtH (lowB T.n) m c.row 5 4 6=yB4 (pfxB T.n.s) T.n c)->∃(kh:Nat)(hv:Value),hntV T.n.kind T.t=.func (Fn.func kh) #[hv] #[]/\EntF kh/\∀(c:Ent)(W:World),TtA T W->(xf kh #[hv,c.c] W (yB4 (pfxB T.n.s) T.n c).v:Prop):=λh1 h2=>
  ⟨_,_,h1,yQz,λc W hT=>by
    obtain⟨m,hm,h3⟩:=h2 c W hT
    rw[<-h3]
    exact yPn hT.lfa hm c⟩
 have a2:hntV T.n.kind T.t=ofT 195 T.t->(∀c W,TtA T W->∃m,mvB (.pointer T.mp) m/\txtH (lowB T.n) m c.qual 2 1 3=yB4 (pfxB T.n.s) T.n c)->∃(kh:Nat)(hv:Value),hntV T.n.kind T.t=.func (Fn.func kh) #[hv] #[]/\EntF kh/\∀(c:Ent)(W:World),TtA T W->(xf kh #[hv,c.c] W (yB4 (pfxB T.n.s) T.n c).v:Prop):=λh1 h2=>
  ⟨_,_,h1,yOj,λc W hT=>by
    obtain⟨m,hm,h3⟩:=h2 c W hT
    rw[<-h3]
    exact yNq hT.lfa hm c⟩
 rcases hk with h|h|h|h|h|h|h|h|h|h
 .exact a0 0 (by rw[h];rfl) (λc=>by unfold yB4;simp[h,noH])
 .exact a0 6 (by rw[h];rfl) (λc=>by unfold yB4;simp[h])
 .exact a0 0 (by rw[h];rfl) (λc=>by unfold yB4;simp[h,noH])
 .refine a1 (by rw[h];rfl) (λc W hT=>?_);rcases hT.mv with⟨q,hm⟩|⟨q,hm⟩
  .exact⟨true,hm,by rw[ySx q];unfold yB4 txtH;simp[h]⟩
  .exact absurd (.inl h) q
 .exact a0 3 (by rw[h];rfl) (λc=>by unfold yB4;simp[h])
 .refine a2 (by rw[h];rfl) (λc W hT=>?_);rcases hT.mv with⟨q,hm⟩|⟨q,hm⟩
  .exact⟨true,hm,by rw[ySx q];unfold yB4 txtH;simp[h]⟩
  .exact absurd (.inr (.inr (.inl h))) q
 .exact a0 0 (by rw[h];rfl) (λc=>by unfold yB4;simp[h,noH])
 .refine a1 (by rw[h];rfl) (λc W hT=>?_);exact xCv
 .refine a2 (by rw[h];rfl) (λc W hT=>?_);exact xCv
 .refine⟨_,_,by rw[h];rfl,yTq,λc W hT=>?_⟩;have h9:=yRu hT.lfa c;have h8:yB4 (pfxB T.n.s) T.n c=(if c.ts<T.n.lo then(⟨1,⟨#[]⟩⟩:Hn)else noH):=by unfold yB4;simp[h]
  rw[h8];exact h9
structure MaD(G:MchG)(l:List Ix)(tb lo N:Nat)(Ts:List Tt)(L:List Value):Prop where
 ti:G.TI=TsA tb Ts
 tq:G.T=λq=>∃X∈Ts,X.lo<=q/\q<X.hi
 sp:yFi G.w0 lo G.p N L
 pS:¬G.S G.p
 pT:∀X∈Ts,G.p<X.lo\/X.t<G.p
 gT:∀X∈Ts,G.g<X.lo\/X.t<G.g
 gl:G.g<G.w0.heap.size
 gp:¬G.g=G.p
 gv:¬1=G.g
 cS:∀t vs,yA G.w0 lo 283 2 t vs->(∀X∈Ts,t<X.lo\/X.t<t)->¬G.S t/\¬t=G.g
 xl:∀X∈Ts,X.t<G.w0.heap.size
 don:∀(at_:Nat)(x:Ix),l[at_]?=some x->StpD lo G.g Ts L at_ x G.w0
 good:∀(k:Nat)(x:Ix),l[k]?=some x->x.op=1->yCb x.leaf/\(cntK x.leaf.kind->0<=x.a/\x.a<(G.nk:Int))
theorem xAy{p:Nat}(h:yFi w base p N L){v:Value}(hv:L[j]?=some v):(xk w p j v:Prop):=by have hj:=qf hv;rw[World.ownsRow.cellAt h j (qw h.1),hv]
variable {tb:Nat}
theorem xFf{G:MchG}{l:List Ix}(hD:MaD G l tb lo N Ts L):xIf G l:=by
 intro at_ x i c ks W hx ho aa a5 a9 aD a3 an;have ao:=(World.ownsRow.lt hD.sp G.p rfl).2;have a1:∀j v,L[at_*13+j]?=some v->(xk W G.p (at_*13+j) v:Prop):=λj v hv=>by rw[aa.cell (p:=(xd G.p _)) ao hD.pS];exact xAy hD.sp hv
 have aB:=aa.size;cases hal:i.alive
 .have au:leafI pfxB x c i ks=(i,ks):=by unfold leafI;rw[if_neg (by simp[hal])]
  refine(yZd hal).mono ?_;rintro e w' ⟨rfl,hb⟩;unfold LfQ;rw[au];have hc:Chg (λ_=>False) W w':=Chg.of_below hb;refine⟨rfl,a9.below hb,a3,?_,hc.mono (λq z=>z.elim)⟩;rw[hD.ti]at a5|-;exact a5.side hc (λq z=>z.elim) (λz=>z)
 .have hd:=hD.don at_ x hx;have ag:=a1 3 _ (hd.ten 3 _ rfl);have ae:=a1 4 _ (hd.ten 4 _ rfl);have a0:TsA tb Ts W:=by rw[<-hD.ti];exact a5
  rcases hd.leaf ho with⟨a2,t,⟨aC,am⟩,hb,a8,hl2⟩|⟨ac,T,hT,a4,a8,hl2⟩
  .obtain⟨aw,af⟩:=hD.good at_ x hx ho;have af:=af a2;obtain⟨k,hk⟩:∃k,ks[x.a.toNat]?=some k:=qg qo;have ad:=a3 k (mem_of_getElem? hk);obtain⟨ak,al⟩:=hD.cS t _ hb am;have ab:=hb.chg aa ak;have ay:¬(yB i c).row=⟨#[]⟩:=by unfold yB;split<;>exact an
   have a6:StA W G.p (at_*13) x (cntF x.leaf.kind) (xp t) 190 (.agg #[xi (cntR x.leaf.kind),xe]):=⟨ag,ae,a1 11 _ a8,a1 12 _ hl2,qo⟩
   have a7:=yP6 (i:=i) (c:=c) (d:=yB i c) (b:=(yCh x.leaf k c).1) (H:=⟨cntR x.leaf.kind,⟨#[]⟩⟩) (S:=λq=>q=G.g) (R:=λW1 W2=>yFj W2 G.base G.g G.cap (ks.set x.a.toNat (yCh x.leaf k c).2)/\Chg (λq=>q=G.g) W1 W2) hal (xB4 _) yMp a6 rfl (λW1 W2 h=>h.2) (λq hq=>by subst hq;exact⟨qw hD.gl,hD.gp⟩)
    (λW1 hb1=>by
     have az:CkA W1 G.base t G.g G.cap ks x.a.toNat k x.leaf.n:=⟨a9.below hb1,hk,(ab.below hb1).cell (j:=0) rfl,(ab.below hb1).cell (j:=1) rfl,(ab.below hb1).lt.2,al⟩
     refine(xFp a2 az (yB i c) ad ay).mono ?_
     rintro e w' ⟨q1,q2,q3⟩
     rw[yY5]at q1 q2
     exact⟨q1,q2,q3⟩)
    (λW1 _=>yL9 ⟨cntR x.leaf.kind,⟨#[]⟩⟩ (yB i c) W1)
   have av:(⟨cntR x.leaf.kind,⟨#[]⟩⟩:Hn)=yB4 (pfxB x.leaf.s) x.leaf c:=by unfold cntR yB4;rcases a2 with q|q|q<;>simp[q,noH]
   refine a7.mono ?_;rintro e w' ⟨rfl,W1,W2,p1,⟨p2,p3⟩,p4⟩;unfold LfQ;rw[yP7 hal a2 hk,av];have aG:=p1.size;have aF:=p3.size;have aE:=hD.gl;refine⟨rfl,p2.chg p4 (by show¬_<=_;omega),λk' hk'=>?_,?_,?_⟩
   .rcases mem_or_eq_of_mem_set hk' with q|q
    .exact a3 k' q
    .rw[q];exact xE9 ad (by rcases aw.2.2.2 with z|z|z|z|z<;>(unfold cntK at a2;omega))
   .rw[hD.ti];have t1:=a0.side (S:=λ_=>False) (Chg.of_below p1) (λq z=>z.elim) (λz=>z);have t2:=t1.side p3 (λq hq X hX=>by subst hq;exact hD.gT X hX) hD.gv;exact t2.side p4 (λq hq X hX=>.inr (qw (hD.xl X hX))) (by show¬_<=_;have:=a0.tab.lt;omega)
   .refine((Chg.of_below p1).trans (p3.mono (λq hq=>.inl hq))).absorb p4 (λq hq=>.inr hq)
  .have aq:¬cntK x.leaf.kind:=by unfold tstK at ac;unfold cntK;omega
   have aj:=(a0.at_ T hT).1;have aA:=hD.xl T hT;have r1:=aj.r1;have r2:=aj.r2;obtain⟨kh,hv,he,ax,ah⟩:=xFi T (by rw[a4];exact ac);rw[a4]at he ah;rw[he]at hl2;have a6:StA W G.p (at_*13) x 193 (ctvV x.leaf (.pointer T.mp)) kh hv:=⟨ag,ae,a1 11 _ a8,a1 12 _ hl2,qo⟩;have ai:∀W1,LfP W (λW1 W2=>yDm W2 T.lo T.hi T.n (.pointer T.mp)/\Chg (InB T.lo T.hi) W1 W2) W1->TsA tb Ts W1/\Chg (InB T.lo T.hi) W W1:=λW1 h=>by obtain⟨V1,V2,p1,⟨p2,p3⟩,p4⟩:=h;have t1:=a0.side (S:=λ_=>False) (Chg.of_below p1) (λq z=>z.elim) (λz=>z);have t2:=t1.one hT p3 p2;exact⟨t2.side p4 (λq hq X hX=>.inr (qw (hD.xl X hX))) (by show¬_<=_;have:=a0.tab.lt;omega),((Chg.of_below p1).trans p3).absorb p4 (λq hq=>.inr hq)⟩
   have a7:=yP6 (i:=i) (c:=c) (d:=yB i c) (b:=tstB x.leaf (yB i c)) (H:=yB4 (pfxB x.leaf.s) x.leaf c) (S:=InB T.lo T.hi) (R:=λW1 W2=>yDm W2 T.lo T.hi T.n (.pointer T.mp)/\Chg (InB T.lo T.hi) W1 W2) hal yWy ax a6 rfl (λW1 W2 h=>h.2) (λq hq=>⟨qw hq.2,λz=>by have h9:=hD.pT T hT;have:=hq.1;have:=hq.2;omega⟩)
    (λW1 hb1=>by
     have t1:=a0.side (S:=λ_=>False) (Chg.of_below hb1) (λq z=>z.elim) (λz=>z)
     obtain⟨mp,ar,hc⟩:=yWt T.n (yB i c) (.pointer T.mp) W1 T.lo T.hi (t1.at_ T hT).1.tst (qw hb1.size)
     cases ar
     rw[a4]at hc
     refine hc.mono ?_
     rintro e w' ⟨q1,q2⟩
     refine⟨q1,?_,q2.out.2⟩
     rw[a4];exact q2.out.1)
    (λW1 h=>by
     have h9:=ah (yB i c) W1 ((ai W1 h).1.at_ T hT).1
     rw[yZn]at h9
     exact h9)
   refine a7.mono ?_;rintro e w' ⟨rfl,h⟩;obtain⟨t9,c9⟩:=ai w' h;unfold LfQ;rw[yVa hal aq];refine⟨rfl,a9.chg c9 (λq=>?_),a3,by rw[hD.ti];exact t9,c9.mono (λq hq=>.inr ?_)⟩
   .have:=hD.gT T hT;have:=q.1;have:=q.2;omega
   .rw[hD.tq];exact⟨T,hT,hq⟩
structure Md where
 lo:Nat
 p:Nat
 g:Nat
 mb:Nat
 N:Nat
 nk:Nat
 l:List Ix
 L:List Value
structure MdA(d:Md)(Ts:List Tt)(W:World):Prop where
 sp:yFi W d.lo d.p d.N d.L
 ctr:yFj W d.lo d.g d.nk (List.replicate d.nk newC)
 mch:yA W d.lo 230 3 d.mb [xg d.p d.N d.N,xg d.g d.nk d.nk,xh]
 ord:d.lo+1<d.p/\d.lo+1<d.g/\¬d.p=d.g/\d.p<d.mb/\d.g<d.mb
 new:∀X∈Ts,X.t<d.lo\/d.mb<X.lo
 don:∀(at_:Nat)(x:Ix),d.l[at_]?=some x->StpD d.lo d.g Ts d.L at_ x W
 len:d.N=d.l.length
variable {NM:Nat}
theorem xHu{G:LdG}(h:LdJ G G.N Ts NM L W)(hN:G.N=G.l.length):MdA ⟨G.w,G.p,G.g,G.mb,G.N,G.nk,G.l,L⟩ Ts W:=
 ⟨h.stp,h.ctr,h.mch,h.ord,λX hX=>(h.new X hX).imp (λq=>q.2) (λq=>q),λat_ x hx=>h.done at_ x (by rw[hN];exact(List.getElem?_eq_some_iff.1 hx).1) hx,hN⟩
theorem MdA.on{d:Md}{Ts':List Tt}{S:Nat->Prop}(h:MdA d Ts W)(hc:Chg S W W')(hS:∀q,S q->q<d.lo\/W.heap.size<=q)(ho:∀X∈Ts,X∈Ts')(hnw:∀X∈Ts',X∈Ts\/W.heap.size<=X.lo):MdA d Ts' W':=by
 have a1:=h.ord;have a2:=h.mch.lt;have a0:∀q,d.lo<=q->q<W.heap.size->¬S q:=λq h1 h2 z=>by rcases hS q z with k|k<;>omega
 exact {h with
  sp:=yAh h.sp hc (λq hq=>by simp[Value.ownBlock]at hq;exact a0 _ qo qo)
  ctr:=h.ctr.chg hc (a0 _ qo qo)
  mch:=h.mch.chg hc (a0 _ qo qo)
  new:=λX hX=>by
   rcases hnw X hX with q|q
   .exact h.new X q
   .exact .inr qo
  don:=λat_ x hx=>(h.don at_ x hx).on ho hnw (λj _=>rfl) rfl hc (λt vs hb=>a0 _ hb.lt.1 hb.lt.2)}
abbrev mpF(d:Md):List Value:= [.pointer (some ⟨d.mb,0,none⟩)]
theorem xDf(d:Md):(mpF d).length=1:=rfl
theorem xHt(d:Md):∀u∈mpF d,u.oneCell'=true:=λu hu=>by simp at hu;subst hu;rfl
theorem Tryz.infoMp:(prog.info? 94).map (λi=>(i.zero,i.size,i.bytes))=some (some (.pointer none),1,8):=qk
def RowM(w:World)(base:Nat)(v:Value)(ds:List Md):Prop:=w.ownsRow base 94 1 v ds.length (ds.flatMap mpF)
theorem TsA.side2{S:Nat->Prop}(h:TsA base Ts W)(hc:Chg S W W')(hS:∀q,S q->∀X∈Ts,X.t<q\/q<X.lo)(hv:¬S 1):TsA base Ts W':=
 ⟨λT hT=>⟨(h.at_ T hT).1.chg hc (λq hq z=>qw (hS q hq T hT)) hv,(h.at_ T hT).2⟩,h.apart,h.tab.chg hc hv,h.tabl⟩
structure MdsA(tb B NM:Nat)(Ts:List Tt)(ds:List Md)(W:World):Prop where
 map:MpA W B NM Ts
 ts:TsA tb Ts W
 Bb:B<tb
 md:∀d∈ds,MdA d Ts W/\tb<=d.lo
 apart:ds.Pairwise λd d'=>d.mb<d'.lo
variable {ds:List Md}
theorem MdsA.on{S:Nat->Prop}(h:MdsA tb B NM Ts ds W)(hc:Chg S W W')(hS:∀q,S q->W.heap.size<=q\/(q<tb/\¬q=B/\¬q=1)):MdsA tb B NM Ts ds W':=by have a0:=h.map.lt;have hv:=h.ts.tab.lt;exact⟨h.map.chg hc (λq=>by rcases hS _ q with k|k<;>omega),h.ts.chg hc (λq hq=>(hS q hq).elim .inr (λk=>.inl k.1)) (λq=>by rcases hS _ q with k|k<;>omega),h.Bb,λd hd=>⟨(h.md d hd).1.on hc (λq hq=>(hS q hq).elim .inr (λk=>.inl (qw ((h.md d hd).2)))) (λX hX=>hX) (λX hX=>.inl hX),(h.md d hd).2⟩,h.apart⟩
theorem MdsA.load{l:List Ix}(h:MdsA tb B NM Ts ds W)(htb:tb<=W.heap.size)(hN:N=l.length)(hl:xCe W B l N bI oI cI cnt nk tb Ts NM e W'):
  ∃(d:Md)(Ts':List Tt)(NM':Nat),e=.returned (xp d.mb)/\MdsA tb B NM' Ts' (ds++ [d]) W'/\NM'<=NM+N/\Chg (λq=>q=B) W W'/\W.heap.size<=d.lo/\d.l=l/\d.N=N/\d.nk=nk/\(∀X∈Ts,X∈Ts')/\(∀X∈Ts',X∈Ts\/W.heap.size<=X.lo):=by
 obtain⟨mb,he,H⟩:=hl;obtain⟨p,g,Ts',NM',L,hn,hJ⟩:=H.out;have hd:=xHu hJ hN;have a0:∀X∈Ts',X∈Ts\/W.heap.size<=X.lo:=λX hX=>by
  rcases hJ.new X hX with q|q
  .exact .inl q.1
  .have a1:=hJ.mch.lt.1;exact .inr (by simp only at q a1;omega)
 refine⟨⟨W,p,g,mb,N,nk,l,L⟩,Ts',NM',he,⟨hJ.map,hJ.ts,h.Bb,λd' hd'=>?_,?_⟩,hn,hJ.chg,Nat.le_refl _,rfl,rfl,rfl,hJ.old,a0⟩
 .rcases List.mem_append.1 hd' with q|q
  .exact⟨(h.md d' q).1.on hJ.chg (λz hz=>.inl (by have:=(h.md d' q).2;have:=h.Bb;simp only at hz;omega)) hJ.old a0,(h.md d' q).2⟩
  .rw[mem_singleton]at q;subst q;exact⟨hd,htb⟩
 .refine List.pairwise_append.2 ⟨h.apart,pairwise_singleton _ _,λa ha b hb=>?_⟩;rw[mem_singleton]at hb;subst hb;exact(h.md a ha).1.mch.lt.2
variable {ty n:Nat}
theorem MdsA.turn{v:Value}{xs:List Value}(h:MdsA tb B NM Ts ds W)(hO:W.ownsRow base ty sz v n xs)(h1:¬234=ty)(h2:¬240=ty)(h3:¬230=ty)(h4:¬283=ty)
  (hq:∀k,v.ownBlock=some k->¬k=B/\¬k=1/\∀X∈Ts,X.t<k\/k<X.lo) (hc:Chg (λk=>v.ownBlock=some k) W W'):MdsA tb B NM Ts ds W':=by
 refine⟨h.map.chg hc (λq=>(hq _ q).1 rfl),h.ts.side2 hc (λq z=>(hq q z).2.2) (λq=>(hq _ q).2.1 rfl),h.Bb,λd hd=>⟨?_,(h.md d hd).2⟩,h.apart⟩;have hm:=(h.md d hd).1
 exact {hm with
  sp:=yAh hm.sp hc (λk hk z=>yAb hm.sp hO h1 k hk z)
  ctr:=yAh hm.ctr hc (λk hk z=>yAb hm.ctr hO h2 k hk z)
  mch:=hm.mch.chg hc (λz=>yAb hm.mch hO h3 _ rfl z)
  don:=λat_ x hx=>(hm.don at_ x hx).on (λX hX=>hX) (λX hX=>.inl hX) (λj _=>rfl) rfl hc (λt vs hb z=>yAb hb hO h4 _ rfl z)}
theorem xDh{l:List Ix}{nc:Nat}(hg:yBe l cnt nc)(hok:∀x∈l,x.ok)(hN:N=l.length)(hnk:nk=cnt.toNat)(hI:yB5 W bI oI l)(hb:bI<W.heap.size)(hB:B<tb)(hbB:¬bI=B)(htb:tb<=W.heap.size)(hv:¬1=B)(hNM:NM<=5000000)(p g mb:Nat):LdO ⟨W,B,l,N,bI,oI,cI,cnt,p,g,mb,nk,tb,Ts,NM⟩:=by
 have h3:=hg.2.2.1;have h4:=hg.2.2.2.1;have h2:=hg.2.1;have a0:∀(k:Nat)(x:Ix),l[k]?=some x->x.op=1->yFk [x.leaf]/\(cntK x.leaf.kind->0<=x.a/\x.a<cnt):=λk x hx ho=>by
  rcases yC3 hg hx with q|q|q|q
  .refine⟨q.2.1,λhc=>?_⟩;rcases q.2.2.2 with z|z
   .exact z.2
   .exact absurd hc z.1
  .have:=q.1;omega
  .have:=q.1;omega
  .have:=q.1;omega
 exact {B:=⟨hB,htb,hv⟩,N:=hN,Nl:=by show N<=4000;omega,nk:=by show((nk:Nat):Int)=cnt;omega,nkl:=by show nk<=200;omega,ins:=hI,bI:=⟨hb,hbB⟩,ok:=hok,N0:=hNM,good:=a0}
abbrev dkl(d:Md):Nat×List Ix:=(d.nk,d.l)
abbrev bkl(x:Bk):Nat×List Ix:=(x.cnt.toNat,x.l)
structure LcJ(w:World)(bs:List Bk)(m:Bk)(u mv:Value)(pb k:Nat)(a:Option Addr)(n c:Nat)(d0:Md)(ds:List Md)(Ts:List Tt)(NM:Nat)(wr:World):Prop where
 cod:yA wr w 34 3 w [u,mv,xi m.cnt]
 res:yA wr w 96 2 (w+1) [xh,.pointer none]
 ldr:yA wr w 174 1 (w+1+1+1) [.map (some (w+1+1))]
 prg:yA wr w 96 2 pb [.slice a n c,xp d0.mb]
 row:RowM wr w (.slice a n c) ds
 nl:n=ds.length
 mds:MdsA (w+1+1+1) (w+1+1) NM Ts (d0::ds) wr
 pt:∀X∈Ts,X.t<pb\/pb<X.lo
 rt:∀q,(Value.slice a n c).ownBlock=some q->¬q=w.heap.size+1+1/\∀X∈Ts,X.t<q\/q<X.lo
 pn:w.heap.size+1+1+1<pb
 dm:dkl d0=bkl m
 dsm:ds.map dkl=(bs.take k).map bkl
 below:Below w w wr
variable {bs:List Bk} {m:Bk}
theorem LcJ.on{mv:Value}{pb k:Nat}{a:Option Addr}{c:Nat}{d0:Md}{wr:World}(h:LcJ w bs m u mv pb k a n c d0 ds Ts NM wr)(hb:Below wr wr W):LcJ w bs m u mv pb k a n c d0 ds Ts NM W:=
 {h with
  cod:=h.cod.below hb,res:=h.res.below hb,ldr:=h.ldr.below hb,prg:=h.prg.below hb,row:=yAh h.row (S:=λ_=>False) (Chg.of_below hb) (λ_ _ q=>q)
  mds:=h.mds.on (S:=λ_=>False) (Chg.of_below hb) (λq z=>z.elim),below:=h.below.trans (hb.mono h.below.size)}
theorem LcJ.load{mv:Value}{pb k:Nat}{a:Option Addr}{c:Nat}{d0:Md}{Ts':List Tt}{NM':Nat}{wr:World}{d:Md}(h:LcJ w bs m u mv pb k a n c d0 ds Ts NM wr)(hm:MdsA (w+1+1+1) (w+1+1) NM' Ts' (d0::(ds++ [d])) W)(hc:Chg (λq=>q=w.heap.size+1+1) wr W)(hnw:∀X∈Ts',X∈Ts\/wr.heap.size<=X.lo):
  yA W w 34 3 w [u,mv,xi m.cnt]/\yA W w 96 2 (w+1) [xh,.pointer none]/\yA W w 174 1 (w+1+1+1) [.map (some (w+1+1))]/\yA W w 96 2 pb [.slice a n c,xp d0.mb]/\RowM W w (.slice a n c) ds/\(∀X∈Ts',X.t<pb\/pb<X.lo)/\(∀q,(Value.slice a n c).ownBlock=some q->¬q=w.heap.size+1+1/\∀X∈Ts',X.t<q\/q<X.lo)/\Below w w W:=by
 have a0:=h.pn;have a1:=h.prg.lt;refine⟨h.cod.chg hc qo,h.res.chg hc qo,h.ldr.chg hc qo,h.prg.chg hc qo,yAh h.row hc (λq hq z=>(h.rt q hq).1 z),λX hX=>?_,λq hq=>⟨(h.rt q hq).1,λX hX=>?_⟩,Chg.below h.below hc h.below.size (λq z=>qo)⟩
 .rcases hnw X hX with z|z
  .exact h.pt X z
  .exact .inr qo
 .rcases hnw X hX with z|z
  .exact(h.rt q hq).2 X z
  .have a2:q<wr.heap.size:=by
    rcases h.row.2 with⟨q0,_⟩|⟨g',a3,cur,hv,h1,h2,_⟩
    .rw[q0]at hq;simp[Value.ownBlock]at hq
    .have:=World.ownsRow.lt h.row q hq;exact this.2
   exact .inr qo
theorem xA2:∀(vs L:List Value),vs.length=L.length->setL L 0 vs=vs:=λvs L h=>by
 apply ext_getElem?
 intro j
 rw[yIv]
 by_cases hj:j<L.length
 .rw[if_pos ⟨zero_le _,qo,hj⟩,Nat.sub_zero]
 .rw[if_neg qo,getElem?_eq_none qo,getElem?_eq_none qo]
theorem yZ3{g cap:Nat}(h:yFj W base g cap ks):∃W2,(Builtin.clear_ #[227] ty #[xg g ks.length cap]).run prog W=.ok (.tuple #[]) W2/\yFj W2 base g cap (List.replicate ks.length newC)/\Chg (λq=>q=g) W W2:=by
 cases hn:ks.length with
 |zero=>
  obtain rfl:ks= []:=length_eq_zero_iff.1 hn;refine⟨W,?_,h,Chg.refl _ _⟩;simp[Builtin.clear_,run_underlying underlying227]
 |succ n=>
  obtain⟨ig,a2,g1,g2,g3⟩:=info_parts Tryz.infoKc;have hf:∀x:Ctr,(Ctr.kc x).length=4:=λ_=>rfl;have hz:(Builtin.zeroCells (Value.agg #[xe,xe,xe,xi 0]).cells (n+1)).toList=(List.replicate (n+1) newC).flatMap Ctr.kc:=by have:=yU7 hf (by decide) newC (Value.agg #[xe,xe,xe,xi 0]).cells rfl (n+1);rw[<-this];rfl
  have hl:((List.replicate (n+1) newC).flatMap Ctr.kc).length=(n+1)*4:=by rw[yCk hf,length_replicate]
  have a1:(ks.flatMap Ctr.kc).length=(n+1)*4:=by rw[yCk hf,hn]
  have a0:=run_storeCells_cells (P:=prog) g 0 ((List.replicate (n+1) newC).flatMap Ctr.kc) 0 W (λj hj=>by
    rw[hl]at hj
    obtain⟨x,hx⟩:∃x,ks[j/4]?=some x:=qg (by omega)
    have h9:=h.cell hf hx (j%4) (mod_lt _ (by decide))
    rw[show j/4*4+j%4=0+0+j by omega]at h9
    rw[h9,getElem?_eq_getElem (by rw[hf];exact mod_lt _ (by decide))];rfl) (λj _=>World.ownsRow.frozenAt h _) (λv hv=>by
    obtain⟨x,hx,hv⟩:=mem_flatMap.1 hv
    rw[eq_of_mem_replicate hx]at hv
    simp[Ctr.kc]at hv
    rcases hv with rfl|rfl|rfl|rfl<;>rfl)
  rw[Nat.add_zero,yG]at a0;refine⟨_,?_,?_,yAl (S:=λq=>q=g) g rfl ((List.replicate (n+1) newC).flatMap Ctr.kc) 0 W⟩
  .simp[Builtin.clear_,run_underlying underlying227,zeroValue,typeInfo,a2,g1,hz,a0]
  .have h1:=yBu (sz:=4) (ty:=240) (base:=base) (g:=g) (n:=ks.length) (v:=(xg g ks.length cap)) rfl ⟨cap,rfl⟩ ((List.replicate (n+1) newC).flatMap Ctr.kc) 0 W (ks.flatMap Ctr.kc) h;rw[xA2 _ _ (by rw[hl,a1]),hn]at h1;unfold yFj OwnG;rw[length_replicate];exact h1
theorem McI.fresh{G:MchG}{l:List Ix}{v:Value}{W2:World}(h:McI G N ks v W)(hO:MaOk G l)(hK:yFj W2 G.base G.g G.cap (List.replicate ks.length newC))(hc:Chg (λq=>q=G.g) W W2):McI G N (List.replicate G.nk newC) v W2:=by obtain⟨m,hm⟩:=h.stk;rw[h.len]at hK;refine⟨h.chg.trans (hc.mono (λq z=>by subst z;exact hO.gS)),hO.ti _ W W2 h.ti hc (λq z=>.inl z),hK,length_replicate,λk hk=>by rw[eq_of_mem_replicate hk];exact yZz,h.box.chg hc (λq=>hO.gm q.symm),⟨m,yAh hm hc (λk hk q=>?_)⟩⟩;have:=(World.ownsRow.lt hm k hk).1;have:=hO.gl;omega
def LcP(w:World)(bs:List Bk)(m:Bk)(e:Ending)(w':World):Prop:=
 ∃(a:Option Addr)(n c mb:Nat),e=.returned (.agg #[.slice a n c,xp mb])/\Hid (∃(d0:Md)(ds:List Md)(Ts:List Tt)(NM:Nat),d0.mb=mb/\n=ds.length/\RowM w' w (.slice a n c) ds/\MdsA (w+1+1+1) (w+1+1) NM Ts (d0::ds) w'/\dkl d0=bkl m/\ds.map dkl=bs.map bkl/\(∀q,(Value.slice a n c).ownBlock=some q->∀X∈Ts,X.t<q\/q<X.lo)/\Below w w w')
theorem yK9{α:Type}{f:α->List Value}{ops:Array Oper}{oo:Oper}{a:Act}{K:Act->World->Prop}{Q:Exit->Act->World->Prop}{E:Prop}(hf:∀x,(f x).length=sz)(w:World)(hgd:oo.guard=none) s x (sty:Nat)
  (ho:oo.op=.call {callee:=.builtin .append,args:=#[s,x],argTypes:=#[sty,sty]}) (hst:prog.underlying sty=some (.slice ty)) {z:Value} {bytes:Nat} (hin:(prog.info? ty).map (λi=>(i.zero,i.size,i.bytes))=some (some z,sz,bytes)) (hz:z.cells.size=sz) (hsz:0<sz) (hby:bytes<=1000)
  (h1:∀x,∀u∈f x,u.oneCell'=true)
  (base:Nat) (v:Value) (n b cx:Nat) (fs:List α) (e:α) (hs:a.eval s=v) (hx:a.eval x=(xg b 1 cx)) (hn:n=fs.length) (hO:w.ownsRow base ty sz v fs.length (fs.flatMap f))
  (hc:∀j u,(f e)[j]?=some u->(xk w b j u:Prop)) (hlen:fs.length<=1000000) (hbase:base<=w.heap.size)
  (h:∀g' cp' w',OwnG f sz ty w' base g' cp' (fs++ [e])->w.grownBy w' v.ownBlock->(v.ownBlock=some g'\/g'=w.heap.size)->K (a.put oo.dst (xg g' (n+1) cp')) w'):if Region.wanted oo (yielded ops a.tmps)=true then Oper.wp prog oo a w K Q else E:=by
 subst hn;obtain⟨i,hi,a2,a1,a0⟩:=info_parts hin;refine step_append_lies w hgd s x sty ho base ty i _ sz bytes hst hi a2 a1 a0 hz hsz v fs.length (fs.flatMap f) hs hO (xd b 0) 1 cx (f e) hx (by rw[hf];omega) (λj u hu=>by rw[Addr.add_mid,Nat.zero_add];exact hc j u hu) (h1 e) (by decide) ?_ ?_ hbase w rfl ?_
 .unfold maxLen;omega
 .have:=Nat.mul_le_mul (show fs.length+1<=1000001 by omega) hby;omega
 .intro g' cp' w' hO' a3 a4 a5;refine h g' cp' w' ?_ a3 a4;exact xAm
theorem zLcK (h:p:=by
 obtain⟨x,hx⟩:∃x,bs[k]?=some x:=qg (qw HM.2.2.2.1);have hgx:yBe x.l x.cnt k:=HM.1.2.2 k x hx;obtain⟨ub,uo,hua,hBk,hubl⟩:∃ub uo,ua=some ⟨ub,uo,none⟩/\yK0 w ub uo bs/\ub<w.heap.size:=by
  rcases HM.2.1 with⟨_,_,_,q⟩|⟨b,off,cap,q1,q2,q3,q4,q5⟩
  .rw[q]at hx;simp at hx
  .simp only[Value.slice.injEq]at q1;exact⟨b,off,q1.1,q2,q3⟩
 obtain⟨hx0,hx1,hx2⟩:=hBk k x hx;obtain⟨xb,xo,xn,xc,hxv,hxn,hxi,hxl,hxc⟩:∃xb xo xn xc,x.v=.slice (some ⟨xb,xo,none⟩) xn xc/\xn=x.l.length/\yB5 w xb xo x.l/\xb<w.heap.size/\xn<=xc/\xc<=maxLen:=by
  rcases hx2 with⟨_,_,_,q⟩|⟨b,off,cap,q1,q2,q3,q4,q5⟩
  .have:=hgx.1;rw[q]at this;simp at this
  .exact⟨b,off,_,cap,q1,rfl,q2,q3,q4,q5⟩
 rw[hxv]at hx0;have y0:(xk wo ub (uo+k*2) (.slice (some ⟨xb,xo,none⟩) xn xc):Prop):=by rw[HJ.below.cell (p:=(xd ub _)) hubl];exact hx0
 have y1:(xk wo ub (uo+k*2+1) (xi x.cnt):Prop):=by rw[HJ.below.cell (p:=(xd ub _)) hubl];exact hx1
 have HX:Hid (bs[k]?=some x/\yBe x.l x.cnt k/\xn=x.l.length/\yB5 w xb xo x.l/\xb<w.heap.size/\x.ok):=⟨hx,hgx,hxn,hxi,hxl,HM.2.2.2.2.1 x (mem_of_getElem? hx)⟩;obtain⟨W2,hW2⟩:=qW (xw wo #[.slice (some ⟨xb,xo,none⟩) xn xc,xi x.cnt] 32);have HW2:Hid (LcJ w bs m (.slice ua ul uc) (.slice (some ⟨bI,oI,none⟩) N cI) pb k a n c d0 ds Ts NM W2.drew/\yA W2.drew w 32 2 wo [.slice (some ⟨xb,xo,none⟩) xn xc,xi x.cnt]):=by
  have k2:=qN hW2
  have b2:yA W2 w 32 2 wo [.slice (some ⟨xb,xo,none⟩) xn xc,xi x.cnt]:=by rw[hW2];exact yAa wo _ HJ.below.size rfl
  exact⟨(HJ.on k2).on ((Below.refl _ _).drew),b2.below ((Below.refl _ _).drew)⟩
 have hS0:SW (λw':World=>xk w' pb 0 (.slice a n c)/\xk w' (w+1+1+1) 0 (.map (some (w+1+1)))/\xk w' wo 0 (.slice (some ⟨xb,xo,none⟩) xn xc)/\xk w' wo 1 (xi x.cnt)/\xk w' wo 1 (xi x.cnt)/\xk w' wo 1 (xi x.cnt)/\xk w' wo 1 (xi x.cnt)/\xk w' wo 1 (xi x.cnt)) W2.drew:=by have b:=HW2.2;have h1:=b.cell (j:=1) rfl;exact⟨HW2.1.prg.cell (j:=0) rfl,HW2.1.ldr.cell (j:=0) rfl,b.cell (j:=0) rfl,h1,h1,h1,h1,h1⟩
 have zk:(k:Int)<(ul:Int):=by omega
 rw[hua]at HW2|-;clear hx hgx hBk hubl hx0 hx1 hx2 hxv hxn hxi hxl hxc;go_upto_region 6 with fail;rw[<-hW2];clear hW2 y0 y1;refine yCq [8] (λw':World=>xk w' pb 0 (.slice a n c)/\xk w' (w+1+1+1) 0 (.map (some (w+1+1)))/\xk w' wo 0 (.slice (some ⟨xb,xo,none⟩) xn xc)/\xk w' wo 1 (xi x.cnt)/\xk w' wo 1 (xi x.cnt)/\xk w' wo 1 (xi x.cnt)/\xk w' wo 1 (xi x.cnt)/\xk w' wo 1 (xi x.cnt)) (by kernel_rfl) ?_;generalize W2.drew=WD at HW2 hS0|-;refine txa 0 hS0 ?_;iterate 3 refine txb hS0 ?_
 have HLd:Hid (Calls prog 101 #[.agg #[.map (some (w+1+1))],.agg #[.slice (some ⟨xb,xo,none⟩) xn xc,xi x.cnt]] WD (xCe WD (w+1+1) x.l xn xb xo xc x.cnt x.cnt.toNat (w+1+1+1) Ts NM)):=by have hb0:=HW2.1.below;have htl:=HM.2.2.2.2.2.2.2.2.lt;have hxb:=HX.2.2.2.2.1;have hpl:=HW2.1.prg.lt;have hpn:=HW2.1.pn;exact yP3 (λp g mb=>xDh HX.2.1 HX.2.2.2.2.2.ins HX.2.2.1 rfl (HX.2.2.2.1.below hb0 hxb) (qw hb0.size) (by omega) (by omega) (by omega) (by omega) (by omega) p g mb) HW2.1.mds.map HW2.1.mds.ts
 refine yA3 (i:=4) (by kernel_rfl) rfl (λK hK=>?_);go_simp;refine HLd.mono ?_;intro e w3 hL;have hpl:=HW2.1.prg.lt;have hpn:=HW2.1.pn;obtain⟨d,Tx,NMx,rfl,hmd,hNx,hch,hlo,hdl,hdN,hdk,hold,hnw⟩:=HW2.1.mds.load (by omega) HX.2.2.1 hL;have H3:Hid (yA w3 w 34 3 w [.slice (some ⟨ub,uo,none⟩) ul uc,.slice (some ⟨bI,oI,none⟩) N cI,xi m.cnt]/\yA w3 w 96 2 (w+1) [xh,.pointer none]/\yA w3 w 174 1 (w+1+1+1) [.map (some (w+1+1))]/\yA w3 w 96 2 pb [.slice a n c,xp d0.mb]/\RowM w3 w (.slice a n c) ds/\(∀X∈Tx,X.t<pb\/pb<X.lo)/\(∀q,(Value.slice a n c).ownBlock=some q->¬q=w.heap.size+1+1/\∀X∈Tx,X.t<q\/q<X.lo)/\Below w w w3):=HW2.1.load (by rw[cons_append]at hmd;exact hmd) hch hnw;have HMd:Hid (MdsA (w+1+1+1) (w+1+1) NMx Tx (d0::(ds++ [d])) w3/\yA w3 w 32 2 wo [.slice (some ⟨xb,xo,none⟩) xn xc,xi x.cnt]/\dkl d=bkl x):=⟨by rw[cons_append]at hmd;exact hmd,HW2.2.chg hch (by have:=HW2.2.lt;have:=HJ.prg.lt;have:=HJ.pn;omega),by unfold dkl bkl;rw[hdl,hdk]⟩;have hS3:=SWm hS0 w3 <|by
  have h1:=HMd.2.1.cell (j:=1) rfl;exact⟨H3.2.2.2.1.cell (j:=0) rfl,H3.2.2.1.cell (j:=0) rfl,HMd.2.1.cell (j:=0) rfl,h1,h1,h1,h1,h1⟩
 have HNm:Hid (NMx<=4000*(k+1+1)):=by have h9:=HX.2.1.2.1;have h8:=HX.2.2.1;show _<=_;omega
 have hz3:=hch.size;have hn2:n<=200:=by have h9:=HW2.1.nl;have h8:=congrArg List.length HW2.1.dsm;simp at h8;omega
 refine hK.out _ _ (.inr hS3) ?_;clear hK hL hmd hch hdl hdN hdk hold hnw hS0 HLd hNx;refine jS ?_;obtain⟨W5,hW5⟩:=qW (xw w3 #[xp d.mb] 94);have k5:=qN hW5
 have HC5:Hid (∀j u,(mpF d)[j]?=some u->(xk W5 w3 j u:Prop)):=by rw[hW5];exact yBm w3 (mpF d) _
 have hS5:=SWm hS3 W5 <|by
  have b:=HMd.2.1.below k5;have h1:=b.cell (j:=1) rfl;exact⟨(H3.2.2.2.1.below k5).cell (j:=0) rfl,(H3.2.2.1.below k5).cell (j:=0) rfl,b.cell (j:=0) rfl,h1,h1,h1,h1,h1⟩
 have HR5:Hid (RowM W5 w (.slice a n c) ds):=yAh H3.2.2.2.2.1 (S:=λ_=>False) (Chg.of_below k5) (λ_ _ q=>q);refine yA3 (i:=5) (by kernel_rfl) rfl (λK hK=>?_);go_simp;rw[<-hW5];refine hK.out _ _ (.inr hS5) ?_;clear hK hW5 hS3;refine jS ?_;refine yA3 (i:=6) (by kernel_rfl) rfl (λK hK=>?_);refine yK9 xDf W5 rfl _ _ 93 rfl underlying93 Tryz.infoMp rfl (by decide) (by decide) xHt w (.slice a n c) n w3 1 ds d rfl rfl HW2.1.nl HR5.out HC5.out (qw HW2.1.nl) (qv H3.2.2.2.2.2.2.2.size k5.size) (λg' cp' w6 hO6 hg6 ha6=>?_);have hc6:Chg (λq=>(Value.slice a n c).ownBlock=some q) W5 w6:=Chg.of_grown hg6 (λq hq=>hq);obtain⟨wx,hwx⟩:=qW (xt w6 pb 0 (xg g' (n+1) cp'));have H6:Hid (yA w6 w 96 2 pb [.slice a n c,xp d0.mb]/\LcJ w bs m (.slice (some ⟨ub,uo,none⟩) ul uc) (.slice (some ⟨bI,oI,none⟩) N cI) pb (k+1) (some ⟨g',0,none⟩) (n+1) cp' d0 (ds++ [d]) Tx NMx wx):=by
  obtain⟨h1,h2,h3,h4,h5,h6,h7,h8⟩:=H3.out;have hml:=HMd.1.on (S:=λ_=>False) (Chg.of_below k5) (λq z=>z.elim);have hvt:=hml.ts.tabl;have htl:=HM.2.2.2.2.2.2.2.2.lt;have hrw:=HR5.out;have o4:=h4.below k5;have q1:yA w6 w 96 2 pb [.slice a n c,xp d0.mb]:=o4.chg hc6 (λz=>yAb hrw o4 (by decide) _ z rfl);have hcx:Chg (λq=>q=pb) w6 wx:=by rw[hwx];exact Chg.of_set _ _ _ _ rfl
  have m6:=hml.turn hrw (by decide) (by decide) (by decide) (by decide) (λq hq=>⟨(h7 q hq).1,qw (World.ownsRow.lt hrw q hq),(h7 q hq).2⟩) hc6;have hcx':Chg (λq=>(Value.slice (some ⟨pb,0,none⟩) 1 1).ownBlock=some q) w6 wx:=hcx.mono (λq z=>by subst z;rfl);have mx:=m6.turn q1 (by decide) (by decide) (by decide) (by decide) (λq hq=>by
   simp[Value.ownBlock]at hq
   subst hq
   exact⟨by omega,by omega,h6⟩) hcx'
  have b8:Below w w W5:=h8.trans (k5.mono h8.size);have b6:Below w w w6:=Chg.below b8 hc6 b8.size (λq z=>(World.ownsRow.lt hrw q z).1);have p1:=(h1.below k5).chg hc6 (λz=>yAb hrw (h1.below k5) (by decide) _ z rfl);have p2:=(h2.below k5).chg hc6 (λz=>yAb hrw (h2.below k5) (by decide) _ z rfl);have p3:=(h3.below k5).chg hc6 (λz=>yAb hrw (h3.below k5) (by decide) _ z rfl);refine⟨q1,⟨p1.chg hcx (by omega),p2.chg hcx (by omega),p3.chg hcx (by omega),?_,?_,?_,mx,h6,λq hq=>?_,hpn,HW2.1.dm,?_,Chg.below b6 hcx b6.size (λq z=>by omega)⟩⟩
  .rw[hwx];exact q1.set 0 _
  .have h9:RowM w6 w (xg g' (n+1) cp') (ds++ [d]):=by
    have h8:n+1=(ds++ [d]).length:=by rw[length_append,<-HW2.1.nl];rfl
    rw[h8];exact hO6
   exact yAh h9 hcx (λq hq z=>yAb h9 q1 (by decide) _ hq (by rw[z];rfl))
  .rw[length_append,<-HW2.1.nl];rfl
  .simp[Value.ownBlock]at hq;subst hq;rcases ha6 with z|z
   .exact h7 _ z
   .refine⟨qw k5.size,λX hX=>.inl ?_⟩;have:=(HMd.1.ts.at_ X hX).1.lt;have:=k5.size;omega
  .rw[map_append,HW2.1.dsm,take_add_one,HX.1,Option.toList_some,map_append];congr 1;simp only[map_cons,map_nil];rw[HMd.2.2]
 have hS6:=SWm hS5 w6 <|by
  have b:=(HMd.2.1.below k5);have b':=b.chg hc6 (λz=>yAb HR5.out b (by decide) _ z rfl);have h1:=b'.cell (j:=1) rfl;have hl5:=H3.2.2.1.below k5;exact⟨H6.1.cell (j:=0) rfl,(hl5.chg hc6 (λz=>yAb HR5.out hl5 (by decide) _ z rfl)).cell (j:=0) rfl,b'.cell (j:=0) rfl,h1,h1,h1,h1,h1⟩
 clear hO6 hg6 ha6 hc6 hS5;refine hK.out _ _ (.inr hS6) ?_;clear hK;refine jS ?_;refine txb hS6 ?_;have v0:=H6.1.cell (j:=0) rfl;have f0:=H6.1.frozen 0;refine yA3 (i:=8) (by kernel_rfl) rfl (λK hK=>?_);go_simp;rw[<-hwx];refine hK.out _ _ (.inl (by decide)) ?_;clear hK hwx v0 f0 hS6;refine jS ?_;refine yD6 (by kernel_rfl) ?_;rw[<-hua]at H6;go_wp2_with fail;(try rw[<-hua]);go_roundw;case rel=>exact⟨k+1,NMx,some ⟨g',0,none⟩,n+1,cp',ds++ [d],Tx,by omega,HNm.out,by go_num,H6.2⟩
 case measure=>simp[intOf];omega):p:=h
theorem yN6{ua:Option Addr}{ul uc:Nat}(hg:yCn bs m)(hU:yCg w (.slice ua ul uc) bs)(hul:ul=bs.length)(hok:∀x∈bs,x.ok)(hmo:m.ok)(hN:N=m.l.length)(hI:yB5 w bI oI m.l)(hb:bI<w.heap.size)(hT:TabD w):
  Calls prog 46 #[.agg #[.slice ua ul uc,.slice (some ⟨bI,oI,none⟩) N cI,xi m.cnt]] w (LcP w bs m):=by
 have a9:ul<=200:=by rw[hul];exact hg.1
 have HM:Hid (yCn bs m/\yCg w (.slice ua ul uc) bs/\yB5 w bI oI m.l/\ul=bs.length/\(∀x∈bs,x.ok)/\m.ok/\N=m.l.length/\bI<w.heap.size/\TabD w):=⟨hg,hU,hI,hul,hok,hmo,hN,hb,hT⟩;clear hg hU hul hok hmo hN hI hb hT;obtain⟨W0,a0⟩:=qW (xw (((w.alloc (Obj.cells #[.slice ua ul uc,.slice (some ⟨bI,oI,none⟩) N cI,xi m.cnt] 34)).alloc (Obj.cells #[xh,.pointer none] 96)).alloc (.map #[] 0)) #[.map (some (w+1+1))] 174);have a6:∀wx:World,(Instr.makeMap 172 none).run prog wx=.ok (.map (some wx)) (wx.alloc (.map #[] 0)):=λwx=>by kernel_rfl
 have H0:Hid (yA W0 w 34 3 w [.slice ua ul uc,.slice (some ⟨bI,oI,none⟩) N cI,xi m.cnt]/\yA W0 w 96 2 (w+1) [xh,.pointer none]/\yA W0 w 174 1 (w+1+1+1) [.map (some (w+1+1))]/\MdsA (w+1+1+1) (w+1+1) 0 [] [] W0/\Below w w W0/\W0.heap.size=w.heap.size+1+1+1+1):=by
  obtain⟨X,hX⟩:=qW (xw w #[.slice ua ul uc,.slice (some ⟨bI,oI,none⟩) N cI,xi m.cnt] 34);rw[<-hX]at a0;obtain⟨Y,hY⟩:=qW (xw X #[xh,.pointer none] 96);rw[<-hY]at a0;obtain⟨Z,hZ⟩:=qW (Y.alloc (.map #[] 0));rw[<-hZ]at a0;have zx:=qS hX
  have zy:Y.heap.size=w.heap.size+1+1:=by rw[hY];simp;omega
  have zz:Z.heap.size=w.heap.size+1+1+1:=by rw[hZ];simp;omega
  have k1:=qN hX
  have k2:Below X X Y:=by rw[hY];exact qB
  have k3:Below Y Y Z:=by rw[hZ];exact qB
  have k4:Below Z Z W0:=by rw[a0];exact qB
  have b1:yA X w.heap.size 34 3 w.heap.size [.slice ua ul uc,.slice (some ⟨bI,oI,none⟩) N cI,.int .i64 m.cnt]:=by rw[hX];exact yAa w _ (Nat.le_refl _) rfl
  have b2:yA Y w.heap.size 96 2 (w.heap.size+1) [.slice none 0 0,.pointer none]:=by rw[hY,<-zx];exact yAa X _ (by omega) rfl
  have b4:yA W0 w.heap.size 174 1 (w.heap.size+1+1+1) [.map (some (w.heap.size+1+1))]:=by rw[a0,<-zz];exact yAa Z _ (by omega) rfl
  have kb:Below w.heap.size w W0:=((k1.trans (k2.mono (by omega))).trans (k3.mono (by omega))).trans (k4.mono (by omega));have a5:MpA Z (w.heap.size+1+1) 0 []:=by have:=xBs Y;rw[<-hZ,zy]at this;exact this
  have htl:=HM.2.2.2.2.2.2.2.2.lt;refine⟨((b1.below k2).below k3).below k4,(b2.below k3).below k4,b4,⟨a5.chg (S:=λ_=>False) (Chg.of_below k4) (λq=>q),⟨λT hT=>by simp at hT,List.Pairwise.nil,HM.2.2.2.2.2.2.2.2.chg (S:=λ_=>False) (Chg.of_below kb) (λq=>q),by omega⟩,by omega,λd hd=>by simp at hd,List.Pairwise.nil⟩,kb,by rw[a0];simp;omega⟩
 have HLd:Hid (Calls prog 101 #[.agg #[.map (some (w.heap.size+1+1))],.agg #[.slice (some ⟨bI,oI,none⟩) N cI,.int .i64 m.cnt]] W0 (xCe W0 (w.heap.size+1+1) m.l N bI oI cI m.cnt m.cnt.toNat (w.heap.size+1+1+1) [] 0)):=by have hb0:=H0.2.2.2.2.1;have htl:=HM.2.2.2.2.2.2.2.2.lt;have a7:=HM.2.2.2.2.2.2.2.1;exact yP3 (λp g mb=>xDh HM.1.2.1 HM.2.2.2.2.2.1.ins HM.2.2.2.2.2.2.1 rfl (HM.2.2.1.below hb0 a7) (qw hb0.size) (by omega) (by omega) (qw H0.2.2.2.2.2) (by omega) (by omega) p g mb) H0.2.2.2.1.map H0.2.2.2.1.ts
 go_enter func46,ntmps46;go_upto_region 2 with fail;rw[<-a0];clear a0 a6;have c1:=H0.1.cell (j:=1) rfl;have c2:=H0.1.cell (j:=2) rfl;have l0:=H0.2.2.1.cell (j:=0) rfl;go_wp2_with fail;refine HLd.mono ?_;intro e w1 hL;obtain⟨d0,Ts,NM,rfl,hmd,a8,hch,hlo,hdl,hdN,hdk,_⟩:=H0.2.2.2.1.load (qw H0.2.2.2.2.2) HM.2.2.2.2.2.2.1 hL;obtain⟨pb,a1⟩:=qE w1.heap.size;obtain⟨W3,a3⟩:=qW (w1.alloc (Obj.cells #[.slice none 0 0,.pointer (some ⟨d0.mb,0,none⟩)] 96));have H3:Hid (LcJ w bs m (.slice ua ul uc) (.slice (some ⟨bI,oI,none⟩) N cI) pb 0 none 0 0 d0 [] Ts NM W3/\NM<=4000):=by
  obtain⟨h1,h2,h3,h4,h5,h6⟩:=H0.out;have k3:Below w1 w1 W3:=by rw[a3];exact qB
  have kb:Below w.heap.size w w1:=Chg.below h5 hch h5.size (λq z=>by omega);have hz:=hch.size;have ab:=HM.1.2.1.2.1;have aa:=HM.2.2.2.2.2.2.1;refine⟨⟨(h1.chg hch (by omega)).below k3,(h2.chg hch (by omega)).below k3,(h3.chg hch (by omega)).below k3,by rw[a1,a3];exact yAa w1 _ kb.size rfl,⟨rfl,.inl ⟨rfl,rfl⟩⟩,rfl,hmd.on (S:=λ_=>False) (Chg.of_below k3) (λq z=>z.elim),λX hX=>.inl (by rw[a1];exact(hmd.ts.at_ X hX).1.lt),λq hq=>by simp[Value.ownBlock]at hq,by omega,by unfold dkl bkl;rw[hdl,hdk],rfl,kb.trans (k3.mono kb.size)⟩,by omega⟩
 clear hmd hch hlo hdl hdN hdk c1 c2 l0 H0 HLd hL;go_upto_region 3 with fail;rw[<-a3,<-a1];clear a3 a1;have c0:=H3.1.cod.cell (j:=0) rfl;go_wp2;go_loopw[17] (λkv wr=>∃(k NM:Nat)(a:Option Addr)(n c:Nat)(ds:List Md)(Ts:List Tt),k<=ul/\NM<=4000*(k+1)/\kv=(xi k)/\Hid (LcJ w bs m (.slice ua ul uc) (.slice (some ⟨bI,oI,none⟩) N cI) pb k a n c d0 ds Ts NM wr)) (λkv _=>ul-(intOf kv).toNat);case atStart=>exact⟨0,NM,none,0,0,[],Ts,zero_le _,qw H3.2,rfl,H3.1⟩
 case round=>
  clear H3 c0;obtain⟨k,NM,a,n,c,ds,Ts,hk,a8,rfl,HJ⟩:=hrel;obtain⟨wo,a4⟩:=qW wr;subst a4;by_cases hlt:k<ul
  .as_aux_lemma=>exact zLcK
  .have zk:¬(k:Int)<(ul:Int):=by omega
   obtain⟨t0,t1⟩:=HJ.prg.c2;obtain⟨v0,v1⟩:=HJ.res.c2;obtain⟨f0,f1⟩:=HJ.res.f2;obtain⟨W9,a2⟩:=qW (setCs wo (w+1) 0 [.slice a n c,xp d0.mb]);have b9:yA W9 w 96 2 (w+1) [.slice a n c,xp d0.mb]:=by rw[a2];exact HJ.res.setCs _
   have c9:Chg (λq=>q=w.heap.size+1) wo W9:=by rw[a2];exact yAl (S:=λq=>q=w.heap.size+1) _ rfl _ _ _
   have HE:Hid (∃(d0':Md)(ds:List Md)(Ts:List Tt)(NM:Nat),d0'.mb=d0.mb/\n=ds.length/\RowM W9 w (.slice a n c) ds/\MdsA (w+1+1+1) (w+1+1) NM Ts (d0'::ds) W9/\dkl d0'=bkl m/\ds.map dkl=bs.map bkl/\(∀q,(Value.slice a n c).ownBlock=some q->∀X∈Ts,X.t<q\/q<X.lo)/\Below w w W9):=by have hj:=HJ.out;have htl:=HM.2.2.2.2.2.2.2.2.lt;refine⟨d0,ds,Ts,NM,rfl,hj.nl,yAh hj.row c9 (λq hq z=>yAb hj.row hj.res (by decide) _ hq (by rw[z];rfl)),hj.mds.on c9 (λq z=>.inr ⟨by omega,by omega,by omega⟩),hj.dm,?_,λq hq=>(hj.rt q hq).2,Chg.below hj.below c9 hj.below.size (λq z=>by omega)⟩;rw[hj.dsm,take_of_length_le (qw HM.2.2.2.1)]
   obtain⟨q0,q1⟩:=b9.c2;simp only[setCs,Nat.zero_add,Nat.reduceAdd]at a2;clear b9 c9;go_wp2;rw[<-a2];exact bodyPost_ret (v:=.agg #[.slice a n c,xp d0.mb]) (by simp[results,results46,go_sem,q0,q1]) rfl ⟨a,n,c,d0.mb,rfl,HE⟩
end Go.Proofs.YtnnagkfoiganfaaGreatDoor
