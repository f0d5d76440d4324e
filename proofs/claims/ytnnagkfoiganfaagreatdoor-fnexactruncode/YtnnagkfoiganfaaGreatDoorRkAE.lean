import Derived.Test.YtnnagkfoiganfaaGreatDoorRkAD
namespace Go.Proofs.YtnnagkfoiganfaaGreatDoor
open Go.ChangeShapes Go.WideShapes Go.ChangeAt Go.RowKit Go.Deep XD XI XU XG XP XK XW XT XF XE XH _root_.List _root_.Nat Go.Maps Go.Proofs.Tryz
set_option linter.unusedVariables false
set_option linter.unusedSimpArgs false
set_option maxRecDepth 100000
set_option maxHeartbeats 40000000
set_option linter.unnecessarySimpa false
theorem yKg:(⟨#[]⟩:ByteArray).toList= []:=by first|(simp;done)|(kernel_rfl;done)|(go_simp;done)
theorem xIz:Op.bytesLess [] []=false:=by first|(kernel_rfl;done)|(decide;done)|(simp[Op.bytesLess];done)
theorem yJt (s:ByteArray) (h:Bool) (t:ByteArray) (l u n:Int) (s':ByteArray) (h':Bool) (t':ByteArray) (l' u' n':Int) (B:Bool) (hB:B=decide (s.toList=s'.toList/\h=h'/\t.toList=t'.toList/\l=l'/\u=u'/\n=n')) (k:Int) (wx:World):
  (binOp .eql 83 (.agg #[xi k,s,h,t,xu l,xu u,xi n]) (.agg #[xi k,s',h',t',xu l',xu u',xi n'])).run prog wx=.ok B wx:=by
 rw[hB,xBq k s h t l u n k s' h' t' l' u' n' wx];simp
variable {p:Prop}
theorem zVf (h:p:=by go_wp2_with fail;go_ret;refine⟨_,rfl,⟨nofun,λq=>?_⟩,HW0.2⟩;have hB:=HB.out;have hE:=yKg;(try simp only[hE]at hB);simp[yCb]at q hB;simp_all):p:=h
theorem zVa (h:p:=by obtain⟨B,hB⟩:=qE (decide (s.toList=(⟨#[]⟩:ByteArray).toList/\hi=false/\t.toList=(⟨#[]⟩:ByteArray).toList/\lo=0/\up=0/\n=0));have hq:=yJt s hi t lo up n ⟨#[]⟩ false ⟨#[]⟩ 0 0 0 B hB;have HB:=qH1 hB;clear hB;go_wp2_with fail;go_ret;refine⟨_,rfl,?_,HW0.2⟩;rw[HB.out];have hG:=HG.out;simp[yCb,yKg];constructor<;>intro q<;>simp_all):p:=h
theorem zVb (h:p:=by obtain⟨B,hB⟩:=qE (decide (s.toList=s.toList/\hi=false/\t.toList=(⟨#[]⟩:ByteArray).toList/\lo=0/\up=0/\n=0));have hq:=yJt s hi t lo up n s false ⟨#[]⟩ 0 0 0 B hB;have HB:=qH1 hB;clear hB;cases B;exact zVf;have hfd:=yUt c k;go_wp2_with fail;refine(HC.out _).mono ?_;rintro r w2 ⟨rfl,hb2⟩;clear c0 c1 c2 c3 c4 c5 c6;go_wp2_with fail;go_ret;refine⟨_,rfl,?_,HW0.2.trans (hb2.mono hbw)⟩;have hB:=HB.out;have hG:=HG.out;have hE:=yKg;(try simp only[hE]at hB);rw[HV.out];simp at hB;simp[yCb];simp_all):p:=h
theorem zVe (h:p:=by go_wp2_with fail;refine(yZv ⟨_,s,hi,t,lo,up,n⟩ _).mono ?_;rintro r w2 ⟨b,rfl,hb,hb2⟩;have Hb:=qH1 hb;clear hb c0 c1 c2 c3 c4 c5 c6;go_wp2_with fail;go_ret;refine⟨_,rfl,?_,HW0.2.trans (hb2.mono hbw)⟩;have hB:=HB.out;have hG:=HG.out;have hE:=yKg;have hL:=xIz;(try simp only[hE]at hB);simp at hB;rw[Hb.out];simp[yCb];cases hi<;>simp_all[less]):p:=h
theorem zVc (h:p:=by obtain⟨B,hB⟩:=qE (decide (s.toList=s.toList/\hi=hi/\t.toList=t.toList/\lo=0/\up=0/\n=0));have hq:=yJt s hi t lo up n s hi t 0 0 0 B hB;have HB:=qH1 hB;clear hB;cases B;exact zVf;exact zVe):p:=h
theorem zVt (h:p:=by go_wp2_with fail;go_ret;refine⟨_,rfl,?_,HW0.2⟩;have hB:=HB.out;have hG:=HG.out;have hE:=yKg;(try simp only[hE]at hB);simp at hB;simp[yCb];simp_all;try omega):p:=h
theorem zVd (h:p:=by obtain⟨B,hB⟩:=qE (decide (s.toList=(⟨#[]⟩:ByteArray).toList/\hi=false/\t.toList=(⟨#[]⟩:ByteArray).toList/\lo=0/\up=0/\n=n));have hq:=yJt s hi t lo up n ⟨#[]⟩ false ⟨#[]⟩ 0 0 n B hB;have HB:=qH1 hB;clear hB;cases B;exact zVf;by_cases h1:1<=n<;>exact zVt):p:=h
theorem yK6 (e:Nd) w (hs:e.s.size<=maxLen) (ht:e.t.size<=maxLen):Calls prog 138 #[e.v] w (xDo e w):=by
 obtain⟨kind,s,hi,t,lo,up,n⟩:=e;have HS:=qH1 hs;unfold maxLen at hs ht;simp only[]at hs ht;obtain⟨W0,a0⟩:=qE (xw w #[xi kind,s,hi,t,xu lo,xu up,xi n] 83:World);have HW0:Hid (yA W0 w 83 7 w [xi kind,s,hi,t,xu lo,xu up,xi n]/\Below w w W0):=by rw[a0];exact⟨yAa w _ qr rfl,qB⟩
 have hbw:=HW0.2.size;obtain⟨c0,c1,c2,c3,c4,c5,c6⟩:=HW0.1.c7;go_enter func138,ntmps138;go_upto_region 1 with fail;rw[<-a0];clear a0;by_cases hgood:s.size<=200/\t.size<=200;case neg=>
  have HG:Hid (¬yCb ⟨kind,s,hi,t,lo,up,n⟩):=λq=>hgood ⟨q.1,q.2.1⟩;by_cases h1:s.size<=200
  .have z1:¬(200:Int)<(s.size:Int):=qo
   have h2:¬t.size<=200:=λq=>hgood ⟨h1,q⟩;have z2:(200:Int)<(t.size:Int):=qo
   exact yVn
  .have z1:(200:Int)<(s.size:Int):=qo
   exact yVn
 have HG:=qH1 hgood;have z1:¬(200:Int)<(s.size:Int):=qo
 have z2:¬(200:Int)<(t.size:Int):=qo
 clear hgood hs ht;obtain⟨c,hc⟩:=qE ((yAj (sb s)).1);obtain⟨k,hk⟩:=qE (((yAj (sb s)).2:Int):Int);have HV:=qH1 hc;have HC:Hid (∀w,(xf 183 #[s] w (.agg #[xi c,xi k]):Prop)):=λw=>by rw[hc,hk];exact yLl s w HS.out
 clear hc hk;by_cases k1:kind=1∨kind=2∨kind=3∨kind=14∨kind=15∨kind=16
 .rcases k1 with rfl|rfl|rfl|rfl|rfl|rfl<;>exact zVa
 by_cases k2:kind=4∨kind=5∨kind=6∨kind=7
 .rcases k2 with rfl|rfl|rfl|rfl<;>exact zVb
 by_cases k3:kind=8∨kind=9
 .rcases k3 with rfl|rfl<;>exact zVc
 by_cases k4:kind=10
 .subst k4;obtain⟨B,hB⟩:=qE (decide (s.toList=(⟨#[]⟩:ByteArray).toList/\hi=hi/\t.toList=(⟨#[]⟩:ByteArray).toList/\lo=lo/\up=up/\n=0));have hq:=yJt s hi t lo up n ⟨#[]⟩ hi ⟨#[]⟩ lo up 0 B hB;have HB:=qH1 hB;clear hB;cases B;exact zVf;exact zVe
 by_cases k5:kind=11∨kind=12∨kind=13
 .rcases k5 with rfl|rfl|rfl<;>exact zVd
 have HF:Hid (¬yCb ⟨kind,s,hi,t,lo,up,n⟩):=by show¬yCb _;simp only[yCb];rintro⟨_,_,_,q⟩;omega
 simp only[not_or]at k1 k2 k3 k5;obtain⟨_,_,_,_,_,_⟩:=k1;obtain⟨_,_,_,_⟩:=k2;obtain⟨_,_⟩:=k3;obtain⟨_,_,_⟩:=k5;exact zF HW0.2
def OwnZ (e:TypeId) (w:World) (base g cp:Nat) (ds:List Int) (kd:IntKind):Prop:=w.ownsRow base e 1 (.slice (some ⟨g,0,none⟩) ds.length cp) ds.length (ds.map λd=>.int kd d)
def yH3 (P:Prop) (w:World) (r:Ending) (w':World):Prop:=∃b,r=.returned (.bool b)/\(b=true↔P)/\Below w.heap.size w w'
def xIe (e d:Int) (base g cp j:Nat) (ds:List Int) (w:World) (r:Ending) (w':World):Prop:=∃b,r=.returned (.bool b)/\(b=true↔(e=0∨e=d)/\1<=d/\d<=250)/\(b=true->OwnZ 2 w' base g cp (ds.set j d) .i64)/\Chg (λq=>q=g) w w'
variable {a b k n cnt:Int} {free:Bool} {e:Nd}
theorem yGc {conds:Int}:yCy ⟨1,a,b,free,e⟩ k n cnt conds↔yFk [e]/\b=0/\((cntK e.kind/\0<=a/\a<cnt)∨(¬cntK e.kind/\a=0)):=by simp[yCy]
theorem yKb {conds:Int}:yCy ⟨5,a,b,free,e⟩ k n cnt conds↔(free=false/\NoNd e)/\0<=a/\a<conds/\k<b/\b<=n:=by simp[yCy,yIi]
theorem yKa {conds:Int}:yCy ⟨6,a,b,free,e⟩ k n cnt conds↔(free=false/\NoNd e)/\a=0/\k<b/\b<=n:=by simp[yCy,yIi]
theorem yK {op conds:Int} (h1:op≠1) (h5:op≠5) (h6:op≠6):yCy ⟨op,a,b,free,e⟩ k n cnt conds↔(2<=op/\op<=4)/\(free=false/\NoNd e)/\a=0/\b=0:=by
 simp only[yCy,yIi,h1,h5,h6,false_and,false_or];constructor
 .rintro⟨h,r⟩;exact⟨qo,r⟩
 .rintro⟨h,r⟩;exact⟨qo,r⟩
theorem xBp (k:Int) (s:ByteArray) (h:Bool) (t:ByteArray) (l u n k':Int) (s':ByteArray) (h':Bool) (t':ByteArray) (l' u' n':Int) (wx:World):
  (binOp .neq 83 (.agg #[.int .i64 k,.string s,.bool h,.string t,.int .u64 l,.int .u64 u,.int .i64 n]) (.agg #[.int .i64 k',.string s',.bool h',.string t',.int .u64 l',.int .u64 u',.int .i64 n'])).run prog wx=.ok (.bool (! decide (k=k'/\s.toList=s'.toList/\h=h'/\t.toList=t'.toList/\l=l'/\u=u'/\n=n'))) wx:=by
 go_simp;repeat' split
 all_goals simp_all
theorem xE8 (k:Int) (s:ByteArray) (h:Bool) (t:ByteArray) (l u n:Int):∃B:Bool,(B=false↔NoNd ⟨k,s,h,t,l,u,n⟩)/\∀wx,(binOp .neq 83 (.agg #[.int .i64 k,.string s,.bool h,.string t,.int .u64 l,.int .u64 u,.int .i64 n]) (.agg #[.int .i64 0,.string ⟨#[]⟩,.bool false,.string ⟨#[]⟩,.int .u64 0,.int .u64 0,.int .i64 0])).run prog wx=.ok (.bool B) wx:=
 ⟨_,by
   have hE:=yKg
   rw[Bool.not_eq_eq_eq_not,Bool.not_false,decide_eq_true_eq,hE]
   exact Iff.rfl,λwx=>xBp k s h t l u n 0 ⟨#[]⟩ false ⟨#[]⟩ 0 0 0 wx⟩
theorem yQ6 (e:Nd) (w:World):Calls prog 120 #[e.v] w (yH3 (cntK e.kind) w):=by
 go_enter func120,ntmps120;go_wp2_with fail;all_goals go_ret
 all_goals exact⟨_,rfl,by simp_all[cntK],qB⟩
theorem yE9 (op:Int) (w:World):Calls prog 114 #[.int .i64 op] w (yH3 (op=5∨op=6) w):=by
 go_enter func114,ntmps114;go_wp2_with fail;all_goals go_ret
 all_goals exact⟨_,rfl,by simp_all,Below.refl _ _⟩
theorem yPr (w:World) (e:Nd):yC7 (w.alloc (Obj.cells #[.int .i64 e.kind,.string e.s,.bool e.hi,.string e.t,.int .u64 e.lo,.int .u64 e.up,.int .i64 e.n] 83)) w.heap.size w.heap.size 1 [e]:=
 World.ownsRow_lit w #[.int .i64 e.kind,.string e.s,.bool e.hi,.string e.t,.int .u64 e.lo,.int .u64 e.up,.int .i64 e.n] 1 (Nat.le_refl _) qj rfl
theorem yOe (x:Ix) (k n cnt conds:Int) (w:World) (ho:x.ok):Calls prog 112 #[x.v,.int .i64 k,.int .i64 n,.int .i64 cnt,.int .i64 conds] w (yH3 (yCy x k n cnt conds) w):=by
 have HO:=ho;obtain⟨op,a,b,free,⟨kind,s,hi,t,lo,up,nn⟩⟩:=x;clear ho;obtain⟨P,hP⟩:=qE (yCy ⟨op,a,b,free,⟨kind,s,hi,t,lo,up,nn⟩⟩ k n cnt conds:Prop);rw[<-hP];have HP:Hid (P↔yCy ⟨op,a,b,free,⟨kind,s,hi,t,lo,up,nn⟩⟩ k n cnt conds):=by show P↔_;rw[hP]
 clear hP;obtain⟨W0,a1⟩:=qE (w.alloc (Obj.cells #[.int .i64 op,.int .i64 a,.int .i64 b,.bool free,.int .i64 kind,.string s,.bool hi,.string t,.int .u64 lo,.int .u64 up,.int .i64 nn] 153):World);have hb0:Below w.heap.size w W0:=by rw[a1];exact qB
 have a5:w.heap.size<W0.heap.size:=by rw[a1];simp
 have HK:Hid (∀wx,Below W0.heap.size W0 wx->wx.cell? ⟨w.heap.size,0,none⟩=some (.int .i64 op)/\wx.cell? ⟨w.heap.size,1,none⟩=some (.int .i64 a)/\wx.cell? ⟨w.heap.size,2,none⟩=some (.int .i64 b)/\wx.cell? ⟨w.heap.size,3,none⟩=some (.bool free)/\wx.cell? ⟨w.heap.size,4,none⟩=some (.int .i64 kind)/\wx.cell? ⟨w.heap.size,5,none⟩=some (.string s)/\wx.cell? ⟨w.heap.size,6,none⟩=some (.bool hi)/\wx.cell? ⟨w.heap.size,7,none⟩=some (.string t)/\wx.cell? ⟨w.heap.size,8,none⟩=some (.int .u64 lo)/\wx.cell? ⟨w.heap.size,9,none⟩=some (.int .u64 up)/\wx.cell? ⟨w.heap.size,10,none⟩=some (.int .i64 nn)):=by
  intro wx hx;refine⟨?_,?_,?_,?_,?_,?_,?_,?_,?_,?_,?_⟩;all_goals rw[hx.cell (by exact a5),a1]
  all_goals simp[go_sem]
 obtain⟨c0,c1,c2,c3,c4,c5,c6,c7,c8,c9,c10⟩:=HK.out W0 (Below.refl _ _);go_enter func112,ntmps112;go_upto_region 1 with fail;rw[<-a1];clear a1;by_cases h1:op=1
 .subst h1;obtain⟨W1,a2⟩:=qE (W0.alloc (Obj.cells #[.int .i64 kind,.string s,.bool hi,.string t,.int .u64 lo,.int .u64 up,.int .i64 nn] 83):World);have a4:Below W0.heap.size W0 W1:=by rw[a2];exact qB
  have a7:Hid (yC7 W1 W0.heap.size W0.heap.size 1 [⟨kind,s,hi,t,lo,up,nn⟩]):=by rw[a2];exact yPr W0 ⟨kind,s,hi,t,lo,up,nn⟩
  go_wp2_with fail;rw[<-a2];clear a2 c0 c1 c2 c3 c4 c5 c6 c7 c8 c9 c10;refine(yJc a7.out (λe he=>by simp at he;subst he;exact HO.leaf) qj).mono ?_;rintro e w2 ⟨r,rfl,hr,hb2⟩;have HR:=qH1 hr;have k2:=a4.trans (hb2.mono a4.size);have a3:=hb0.trans (k2.mono qo);obtain⟨c0,c1,c2,c3,c4,c5,c6,c7,c8,c9,c10⟩:=HK.out w2 k2;clear hr;cases r
  .have HF:Hid (¬P):=λq=>Bool.noConfusion (HR.2 (yGc.1 (HP.1 q)).1);exact zF a3
  .by_cases hbz:b=0
   .subst hbz;go_wp2_with fail;refine(yQ6 ⟨kind,s,hi,t,lo,up,nn⟩ _).mono ?_;rintro e w3 ⟨q,rfl,hq,a6⟩;have HQ:=qH1 hq;have k3:=k2.trans (a6.mono k2.size);have a0:=hb0.trans (k3.mono qo);clear hq c0 c1 c2 c3 c4 c5 c6 c7 c8 c9 c10;obtain⟨c0,c1,c2,c3,c4,c5,c6,c7,c8,c9,c10⟩:=HK.out w3 k3;have HF:Hid (P↔((q=true/\0<=a/\a<cnt)∨(q=false/\a=0))):=by have h1:=HR.out;have h2:=HQ.out;show P↔_;rw[HP.out,yGc];simp only[true_iff]at h1;simp only[h1,true_and];cases q<;>simp_all
    clear HR HQ;cases q
    case false=>
     have HF:Hid (P↔a=0):=by show P↔_;have:=HF.out;simpa using this
     by_cases p0:a=0;case neg=>
      have HG:Hid (¬P):=λq=>p0 (HF.1 q);go_wp2_with fail;go_ret;exact⟨_,rfl,by simp[HG.out,p0],a0⟩
     have HG:Hid (P):=HF.2 p0;go_wp2_with fail;go_ret;exact⟨_,rfl,by simp[HG.out,p0],a0⟩
    case true=>
     have HF:Hid (P↔0<=a/\a<cnt):=by show P↔_;have:=HF.out;simpa using this
     by_cases p0:0<=a;case neg=>
      have HG:Hid (¬P):=λq=>p0 (HF.1 q).1;go_wp2_with fail;go_ret;exact⟨_,rfl,by simp[HG.out,p0],a0⟩
     by_cases p1:a<cnt;case neg=>
      have HG:Hid (¬P):=λq=>p1 (HF.1 q).2;go_wp2_with fail;go_ret;exact⟨_,rfl,by simp[HG.out,p0,p1],a0⟩
     have HG:Hid (P):=HF.2 ⟨p0,p1⟩;go_wp2_with fail;go_ret;exact⟨_,rfl,by simp[HG.out,p0,p1],a0⟩
   .have HF:Hid (¬P):=λq=>hbz (yGc.1 (HP.1 q)).2.1;exact zF a3
 obtain⟨B,hB,hq⟩:=xE8 kind s hi t lo up nn;have HB:=qH1 hB;clear hB;cases B
 case true=>
  have HF:Hid (¬P):=λq=>by replace q:=HP.1 q;have hB:=HB.out;simp only[yCy,yIi,h1,false_and,false_or]at q;simp_all
  exact zF hb0
 case false=>
 cases free
 case true=>
  have HF:Hid (¬P):=λq=>by replace q:=HP.1 q;simp only[yCy,yIi,h1,false_and,false_or]at q;simp_all
  exact zF hb0
 case false=>
 have HN:=qH1 (HB.1 rfl);by_cases h5:op=5
 .subst h5;have HF:Hid (P↔0<=a/\a<conds/\k<b/\b<=n):=by show P↔_;rw[HP.out,yKb];simp[HN.out]
  by_cases p0:0<=a;case neg=>
   exact xDw
  by_cases p1:a<conds;case neg=>
   exact xDz
  by_cases p2:k<b;case neg=>
   exact xCk
  by_cases p3:b<=n;case neg=>
   exact xCl
  exact xCj
 by_cases h6:op=6
 .subst h6;have HF:Hid (P↔a=0/\k<b/\b<=n):=by show P↔_;rw[HP.out,yKa];simp[HN.out]
  by_cases p0:a=0;case neg=>
   exact xDw
  by_cases p1:k<b;case neg=>
   exact xDz
  by_cases p2:b<=n;case neg=>
   have HG:Hid (¬P):=λq=>p2 (HF.1 q).2.2;go_wp2_with fail;go_ret;exact⟨_,rfl,by simp[HG.out,p0,p1,p2],hb0⟩
  have HG:Hid (P):=HF.2 ⟨p0,p1,p2⟩;go_wp2_with fail;go_ret;exact⟨_,rfl,by simp[HG.out,p0,p1,p2],hb0⟩
 have HF:Hid (P↔2<=op/\op<=4/\a=0/\b=0):=by show P↔_;rw[HP.out,yK h1 h5 h6];simp[HN.out,and_assoc]
 by_cases p0:2<=op;case neg=>
  exact xDw
 by_cases p1:op<=4;case neg=>
  exact xDz
 by_cases p2:a=0;case neg=>
  exact xCk
 by_cases p3:b=0;case neg=>
  exact xCl
 exact xCj
variable {e:TypeId} {w:World} {base cp j:Nat} {ds:List Int} {kd:IntKind} {d:Int}
theorem OwnZ.cell {g:Nat} (h:OwnZ e w base g cp ds kd) (hd:ds[j]?=some d):w.cell? ⟨g,j,none⟩=some (.int kd d)/\w.frozen? ⟨g,j,none⟩=false:=by have hj:=(List.getElem?_eq_some_iff.1 hd).1;refine⟨?_,World.ownsRow.frozenAt h j⟩;rw[World.ownsRow.cellAt h j qo,getElem?_map,hd];rfl
theorem OwnZ.lt {g:Nat} (h:OwnZ e w base g cp ds kd):base<=g/\g<w.heap.size:=World.ownsRow.lt h g rfl
variable {w':World}
theorem OwnZ.below {g:Nat} (h:OwnZ e w base g cp ds kd) (hb:Below w.heap.size w w'):OwnZ e w' base g cp ds kd:=yAh (S:=λ_=>False) h (Chg.of_below hb) (λk _ q=>q)
theorem OwnZ.set {g:Nat} (h:OwnZ e w base g cp ds kd) (j:Nat) (d:Int):OwnZ e (w.setCell ⟨g,j,none⟩ (.int kd d)) base g cp (ds.set j d) kd:=by have:=(World.ownsRow.stored h j (.int kd d)).1;unfold OwnZ;rw[length_set,map_set];exact this
theorem xA1 (h:ds[j]?=some d):ds.set j d=ds:=by
 apply ext_getElem?;intro i;rw[getElem?_set];split
 .rename_i e;subst e;rw[if_pos (List.getElem?_eq_some_iff.1 h).1,h]
 .rfl
theorem yWe (base g cp:Nat) (ds:List Int) (j:Nat) (d e:Int) (w:World) (h:OwnZ 2 w base g cp ds .i64) (hj:ds[j]?=some e) (hl:ds.length<=4001):
  Calls prog 113 #[.slice (some ⟨g,0,none⟩) ds.length cp,.int .i64 j,.int .i64 d] w (xIe e d base g cp j ds w):=by
 have HO:=qH1 h;obtain⟨c0,f0⟩:=h.cell hj;have a0:=(List.getElem?_eq_some_iff.1 hj).1;have HJ:=qH1 hj;have zj:(j:Int)<(ds.length:Int):=qo
 clear h hj;go_enter func113,ntmps113;by_cases he:e=0
 .subst he;have HS:=qH1 (HO.set j d);go_wp2_with fail;all_goals go_ret
  all_goals exact⟨_,rfl,by simp_all<;>omega,λ_=>HS.out,Chg.of_set _ _ _ _ rfl⟩
 .by_cases hed:e=d
  .subst hed;have HS:Hid (OwnZ 2 w base g cp (ds.set j e) .i64):=by show OwnZ _ _ _ _ _ _ _;rw[xA1 HJ.out];exact HO.out
   go_wp2_with fail;all_goals go_ret
   all_goals exact⟨_,rfl,by simp_all<;>omega,λ_=>HS.out,Chg.refl _ _⟩
  .go_wp2_with fail;go_ret;exact⟨_,rfl,by simp_all,λq=>by simp_all,Chg.refl _ _⟩
theorem yAy.cells {v:Value} {es:List Ix} (h:yAy w v es):v.cells=#[v]:=by rcases h with⟨a,cap,rfl,_⟩|⟨b,off,cap,rfl,_⟩<;>rfl
theorem yAy.one {v:Value} {es:List Ix} (h:yAy w v es):∃a n c,v=.slice a n c/\n=es.length:=by rcases h with⟨a,cap,rfl,rfl⟩|⟨b,off,cap,rfl,_⟩<;>exact⟨_,_,_,rfl,rfl⟩
structure Bk where
 v:Value
 cnt:Int
 l:List Ix
abbrev Bk.val (x:Bk):Value:=.agg #[x.v,xi x.cnt]
abbrev Bk.vw (x:Bk):Int×List Ix:=(x.cnt,x.l)
abbrev Bk.two (x:Bk):List Value:= [x.v,.int .i64 x.cnt]
structure Bk.ok (x:Bk):Prop where
 cnt:(Lit.int .i64 x.cnt).wf=true
 ins:∀e∈x.l,e.ok
def totB:List Bk->Nat
 | []=>0
 |x::bs=>x.l.length+totB bs
variable {bs:List Bk}
theorem yUh {x:Bk} (h:x∈bs):x.l.length<=totB bs:=by
 induction bs with
 |nil=>cases h
 |cons a l ih=>
  rcases mem_cons.1 h with rfl|h
  .simp[totB]
  .have:=ih h;simp only[totB];omega
variable {k:Nat}
theorem yXz {x:Bk} (h:bs[k]?=some x):totB (bs.take (k+1))=totB (bs.take k)+x.l.length:=by
 induction bs generalizing k with
 |nil=>simp at h
 |cons a l ih=>
  cases k with
  |zero=>simp at h;subst h;simp[totB]
  |succ k=>simp at h;simp[totB,ih h];omega
def yK0 (w:World) (b off:Nat) (bs:List Bk):Prop:=∀i x,bs[i]?=some x->xk w b (off+i*2) x.v/\xk w b (off+i*2+1) (xi x.cnt)/\yAy w x.v x.l
variable {b:Nat}
theorem yK0.below {off:Nat} (h:yK0 w b off bs) (hb:Below w w w') (hlt:b<w.heap.size):yK0 w' b off bs:=by intro i x hx;obtain⟨h0,h1,h2⟩:=h i x hx;exact⟨by rw[hb.cell (p:=(xd b (off+i*2))) hlt];exact h0,by rw[hb.cell (p:=(xd b (off+i*2+1))) hlt];exact h1,h2.below hb qr⟩
def yCg (w:World) (v:Value) (bs:List Bk):Prop:=
 (∃a cap,v=.slice a 0 cap/\bs= [])∨
 ∃b off cap,v=.slice (some ⟨b,off,none⟩) bs.length cap/\yK0 w b off bs/\b<w.heap.size/\bs.length<=cap/\cap<=maxLen
theorem yCg.below {v:Value} (h:yCg w v bs) (hb:Below w w w'):yCg w' v bs:=by
 rcases h with h|⟨b,off,cap,hv,hE,a0,h1,h2⟩
 .exact .inl h
 .exact .inr ⟨b,off,cap,hv,hE.below hb a0,qw hb.size,h1,h2⟩
theorem yCg.cells {v:Value} {es:List Bk} (h:yCg w v es):v.cells=#[v]:=by rcases h with⟨a,cap,rfl,_⟩|⟨b,off,cap,rfl,_⟩<;>rfl
theorem yAy.chg {S:Nat->Prop} {v:Value} {l:List Ix} (h:yAy w v l) (hc:Chg S w w') (hv:∀g n c,v=.slice (some g) n c->l≠ []->¬S g.block):yAy w' v l:=by
 rcases h with h|⟨b,off,cap,hq,hE,a0,h1,h2⟩
 .exact .inl h
 .by_cases hn:l= []
  .subst hn;exact .inl ⟨_,_,hq,rfl⟩
  .exact .inr ⟨b,off,cap,hq,hE.chg hc a0 (hv (xd b off) _ _ hq hn),qw hc.size,h1,h2⟩
theorem yH8 (x:Bk) (left:Int) (w:World) (h:yAy w x.v x.l) (ho:x.ok) (h0:0<=left) (h1:left<=2^40):
  Calls prog 54 #[x.val,.int .i64 left] w λr w'=>∃y,r=.returned (.int .i64 y)/\(y= -1∨(0<=y/\y+x.l.length<=left))/\Below w w w':=by
 have hu:=h.cells;have HE:=qH2 h ho;obtain⟨v,cnt,l⟩:=x;simp only at hu;clear h ho;go_enter func54,ntmps54;go_wp2_with fail;refine(yVw _ l left _ (HE.1.below (qB) qr) HE.2.ins h0 h1).mono ?_;rintro r w1 ⟨y,rfl,hy,a0⟩;have k1:=((Below.refl _ _).alloc qr (Obj.cells #[v,xi cnt] 49)).trans (a0.mono (by simp));have HX:=qH1 hy;by_cases hy0:y<0
 .clear hy;go_wp2;go_ret;exact⟨_,rfl,.inl rfl,k1⟩
 .clear hy;go_wp2;go_ret;exact⟨_,rfl,HX.out,k1⟩
theorem yM8 (b off cap:Nat) (bs:List Bk) (left:Int) (w:World) (hE:yK0 w b off bs) (hok:∀x∈bs,x.ok) (hB:b<w.heap.size) (hlen:bs.length<=cap) (hcap:cap<=maxLen) (h0:0<=left) (h1:left<=2^40):
  Calls prog 53 #[.slice (some ⟨b,off,none⟩) bs.length cap,xi left] w λe w'=>
   ∃x,e=.returned (xi x)/\(x= -1∨(0<=x/\x+bs.length+totB bs<=left))/\Below w.heap.size w w':=by
 have HE:=qH1 hE;have HO:=qH1 hok;clear hE hok;unfold maxLen at hcap;by_cases hle:left<bs.length
 .have a1:left-bs.length<0:=qo
  go_enter func53,ntmps53;go_wp2;go_ret;exact⟨_,rfl,.inl rfl,Below.refl _ _⟩
 have a1:0<=left-bs.length:=qo
 go_enter func53,ntmps53;go_wp2;go_loopw[1,5] (λl i wr=>∃(k:Nat) (x:Int),k<=bs.length/\i=.int .i64 k/\l=.int .i64 x/\0<=x/\x+bs.length+totB (bs.take k)<=left/\Below w.heap.size w wr) (λ_ i _=>bs.length-(intOf i).toNat);case atStart=>exact⟨0,_,zero_le _,rfl,rfl,a1,by simp[totB],Below.refl _ _⟩
 case round=>
  obtain⟨k,x,hk,rfl,rfl,a5,a0,hb⟩:=hrel;have sb:=hb.size;by_cases hlt:k<bs.length
  .obtain⟨y,hy⟩:∃y,bs[k]?=some y:=⟨_,getElem?_eq_getElem hlt⟩;obtain⟨c0,c1,hI⟩:=(HE.below hb hB) k y hy;have HK:=qH3 hI (HO.out y (mem_of_getElem? hy)) hy;have hu:=hI.cells;clear hI hy;go_wp2_with fail;refine(yH8 y _ _ HK.1 HK.2.1 qo qo).mono ?_;rintro e w1 ⟨z,rfl,hz,a2⟩;have hb2:=hb.trans (a2.mono sb);have ht:=yXz HK.2.2;clear c0 c1 a2;by_cases hz0:z<0
   .clear hz;go_wp2;go_ret;exact⟨_,rfl,.inl rfl,hb2⟩
   .have a4:0<=z:=qo
    have a3:z+bs.length+totB (bs.take (k+1))<=left:=qo
    clear hz;refine zY ?_;exact⟨k+1,z,qo,by go_num,rfl,a4,a3,hb2⟩
  .have a6:k=bs.length:=qo
   rw[a6,take_length]at a0;go_wp2;go_ret;exact⟨_,rfl,.inr ⟨a5,a0⟩,hb⟩
theorem yM7 (a:Option Addr) (cap:Nat) (left:Int) (w:World) (h0:0<=left) (h1:left<=2^40):
  (xf 53 #[.slice a 0 cap,xi left] w (xi left):Prop):=by
 go_enter func53,ntmps53;exact xD5
theorem yPa (v:Value) (bs:List Bk) (left:Int) (w:World) (h:yCg w v bs) (hok:∀x∈bs,x.ok) (h0:0<=left) (h1:left<=2^40):
  Calls prog 53 #[v,xi left] w λe w'=>
   ∃x,e=.returned (xi x)/\(x= -1∨(0<=x/\x+bs.length+totB bs<=left))/\Below w w w':=by
 rcases h with⟨a,cap,rfl,rfl⟩|⟨b,off,cap,rfl,hE,a0,g1,g2⟩
 .exact(yM7 a cap left w h0 h1).mono λe w' ⟨he,hb⟩=>⟨left,he,.inr ⟨h0,by simp[totB]⟩,hb⟩
 .exact yM8 b off cap bs left w hE hok a0 g1 g2 h0 h1
theorem yVx (v:Value) (bs:List Bk) (m:Bk) (left:Int) (w:World) (h:yCg w v bs) (hok:∀x∈bs,x.ok) (hm:yAy w m.v m.l) (hmo:m.ok) (h0:0<=left) (h1:left<=2^40):
  Calls prog 16 #[.agg #[v,m.v,.int .i64 m.cnt],.int .i64 left] w λe w'=>
   ∃x,e=.returned (.int .i64 x)/\(x= -1∨(0<=x/\x+bs.length+totB bs+m.l.length<=left))/\Below w w w':=by
 have HE:=qH4 h hok hm hmo;have hu:=h.cells;have a7:=hm.cells;clear h hok hm hmo;obtain⟨W0,a0⟩:=qW (xw w #[v,m.v,xi m.cnt] 51);have a2:=qN a0
 have a3:w.heap.size<W0.heap.size:=by rw[a0];simp
 have a5:Hid (∀wx,Below W0 W0 wx->xk wx w 1 m.v/\xk wx w 2 (xi m.cnt)/\yAy wx m.v m.l):=λwx hx=>⟨by rw[hx.cell (p:=(xd w 1)) a3,a0];simp,by rw[hx.cell (p:=(xd w 2)) a3,a0];simp,(HE.2.2.1.below a2 qr).below hx qr⟩;have a6:=qH1 (HE.1.below a2);have c0:(xk W0 w 0 v:Prop):=by rw[a0];simp
 go_enter func16,ntmps16;go_upto_region 1 with fail;rw[<-a0];clear a0;go_wp2_with fail;refine(yPa v bs left _ a6.out HE.2.1 h0 h1).mono ?_;rintro e w1 ⟨x,rfl,hx,a1⟩;have s1:=a1.size;by_cases hx0:x<0
 .clear hx;go_wp2;go_ret;exact⟨_,rfl,.inl rfl,a2.trans (a1.mono qo)⟩
 have a4:0<=x/\x+bs.length+totB bs<=left:=qo
 clear hx c0;obtain⟨c1,c2,hI⟩:=a5.out w1 a1;have HI:=qH1 hI;clear hI;go_wp2_with fail;refine(yH8 m _ _ HI.out HE.2.2.2 qo qo).mono ?_;rintro e w2 ⟨y,rfl,hy,hb2⟩;have k2:=(a2.trans (a1.mono qo)).trans (hb2.mono qo);by_cases hy0:y<0
 .clear hy;go_wp2;go_ret;exact⟨_,rfl,.inl rfl,k2⟩
 have HY:Hid (0<=y/\y+bs.length+totB bs+m.l.length<=left):=by show _/\_;omega
 clear hy a4;go_wp2;go_ret;exact⟨_,rfl,.inr HY.out,k2⟩
theorem yHj (k:Int) w:Calls prog 83 #[xi k] w λe w'=>e=.returned (xi (yA0 k))/\w'=w:=by
 by_cases h14:k=14
 .subst h14;exact yXm
 by_cases h15:k=15
 .subst h15;exact yXm
 by_cases h16:k=16
 .subst h16;exact yXm
 have a2:(k==14)=false:=by simpa using h14
 have a1:(k==15)=false:=by simpa using h15
 have a0:(k==16)=false:=by simpa using h16
 have H:Hid (yA0 k=0):=by show yA0 k=0;unfold yA0;rw[if_neg qo,if_neg h16]
 go_enter func83,ntmps83;go_wp2;go_ret;exact⟨by rw[H.out];rfl,rfl⟩
theorem yM9 (k:Int) w:Calls prog 185 #[xi k] w λe w'=>e=.returned (xi (yCc k))/\w'=w:=by
 by_cases h15:k=15
 .subst h15;go_enter func185,ntmps185;go_wp2;go_ret;exact⟨rfl,rfl⟩
 by_cases h14:k=14
 .subst h14;go_enter func185,ntmps185;go_wp2;go_ret;exact⟨rfl,rfl⟩
 have a1:(k==14)=false:=by simpa using h14
 have a0:(k==15)=false:=by simpa using h15
 have H:Hid (yCc k=3):=by show yCc k=3;unfold yCc;rw[if_neg h15,if_neg h14]
 go_enter func185,ntmps185;go_wp2;go_ret;exact⟨by rw[H.out];rfl,rfl⟩
theorem yG1 (op:Int) (i:Nat) (kid:Int) w (hop:¬op=16):Calls prog 139 #[xi op,xi i,xi kid] w λe w'=>e=.returned (yCf op i kid)/\w'=w:=by
 by_cases hi:i=0
 .subst hi;have HL:Hid (yCf op 0 kid=decide (yCc kid<yCc op)):=by show yCf op 0 kid=_;unfold yCf;simp[hop]
  exact xGa
 .have zi:((i:Int)==0)=false:=by simpa using hi
  have HL:Hid (yCf op i kid=decide (yCc kid<=yCc op)):=by show yCf op i kid=_;unfold yCf;simp[hop,hi]
  exact xGa
abbrev yA1.three (s:yA1):List Value:= [.bool s.valid,.int .i64 s.kind,.int .i64 (s.nest:Int)]
def yBk (ss:List yA1):List Value:=ss.flatMap yA1.three
theorem yGz (ss:List yA1):(yBk ss).length=ss.length*3:=by
 induction ss with
 |nil=>rfl
 |cons e es ih=>simp only[yBk,flatMap_cons,length_append]at ih⊢;rw[ih];simp;omega
theorem yOp (es fs:List yA1):yBk (es++fs)=yBk es++yBk fs:=by simp[yBk]
theorem yW4 (es:List yA1):∀(k:Nat) (e:yA1),es[k]?=some e->∀j,j<3->(yBk es)[k*3+j]?=e.three[j]?:=by
 induction es with
 |nil=>intro k e h;simp at h
 |cons f es ih=>
  intro k e h j hj;have hc:yBk (f::es)=f.three++yBk es:=by simp[yBk]
  rw[hc];cases k with
  |zero=>
   simp at h;subst h;rw[getElem?_append_left (by show 0*3+j<3;omega)];simp
  |succ k=>
   simp at h;rw[getElem?_append_right (by show 3<=(k+1)*3+j;omega)];have:(k+1)*3+j-f.three.length=k*3+j:=by show(k+1)*3+j-3=_;omega
   rw[this];exact ih k e h j hj
theorem yTx (es:List yA1) (k:Nat):yBk (es.take k)=(yBk es).take (k*3):=by
 induction es generalizing k with
 |nil=>simp[yBk]
 |cons f es ih=>
  cases k with
  |zero=>simp[yBk]
  |succ k=>
   have hc:yBk (f::es)=f.three++yBk es:=by simp[yBk]
   have hd:yBk (f::es.take k)=f.three++yBk (es.take k):=by simp[yBk]
   have e1:(k+1)*3=f.three.length+k*3:=by show(k+1)*3=3+k*3;omega
   rw[take_succ_cons,hd,hc,ih,e1,take_length_add_append]
def yL0 (w:World) (b o:Nat) (ss:List yA1):Prop:=∀i s,ss[i]?=some s->xk w b (o+i*3) s.valid/\xk w b (o+i*3+1) (xi s.kind)/\xk w b (o+i*3+2) (xi s.nest)
variable {B:Nat} {ss:List yA1}
theorem yL0.below {o:Nat} (h:yL0 w b o ss) (hb:Below B w w') (hlt:b<B):yL0 w' b o ss:=by
 intro i e he;have:=h i e he;refine⟨?_,?_,?_⟩;all_goals rw[hb.cell (by exact hlt)]
 .exact this.1
 .exact this.2.1
 .exact this.2.2
theorem yL0.drop {o:Nat} (h:yL0 w b o ss) (k:Nat):yL0 w b (o+k*3) (ss.drop k):=by intro i s hs;have:=h (k+i) s (by rw[<-getElem?_drop];exact hs);rw[Nat.add_mul,<-Nat.add_assoc]at this;exact this
def yEs (w:World) (base g cp:Nat) (ss:List yA1):Prop:=w.ownsRow base 142 3 (xg g ss.length cp) ss.length (yBk ss)
theorem yEs.lt {g:Nat} (h:yEs w base g cp ss):base<=g/\g<w.heap.size:=World.ownsRow.lt h g rfl
theorem yEs.below {g:Nat} (h:yEs w base g cp ss) (hb:Below w w w'):yEs w' base g cp ss:=yAh h (Chg.of_below hb) (S:=λ_=>False) (λk q z=>z)
theorem yEs.at {g:Nat} (h:yEs w base g cp ss):yL0 w g 0 ss:=by
 intro i e he;have hi:=qf he;have c:=λj (hj:j<3)=>(World.ownsRow.cellAt h (i*3+j) qo).trans (yW4 ss i e he j hj);refine⟨?_,?_,?_⟩
 .simpa using c 0 qo
 .simpa using c 1 qo
 .simpa using c 2 qo
theorem yEs.caps {g:Nat} (h:yEs w base g cp ss):ss.length<=cp/\cp<=maxLen:=by exact yMx
theorem yEs.take {g:Nat} (h:yEs w base g cp ss) (hk:k<=ss.length):yEs w base g cp (ss.take k):=by
 rcases h.2 with⟨h0,_⟩|⟨g',a0,cur,hv,h1,h2,h3,h4,h5,h6⟩
 .cases h0
 .simp only[Value.slice.injEq,Option.some.injEq,Addr.mk.injEq,and_true,true_and]at hv;obtain⟨rfl,rfl⟩:=hv;have hl:(ss.take k).length=k:=by rw[length_take];omega
  refine⟨by rw[yGz],.inr ⟨g,cp,cur,rfl,h1,h2,qo,h4,h5,?_⟩⟩;rw[hl,yTx,<-h6,take_take];congr 1;omega
theorem yYo (w:World) (hb:base<=w.heap.size):yEs (xw w #[] 142) base w 0 []:=
 World.ownsRow_made w #[] 0 hb (zero_le _) (by simp)
structure SoJ (w:World) (e:Nd) (WB:Nat) (v:Bool) (a:Nat) (wr:World):Prop where
 node:yA wr w 83 7 w e.seven
 res:yA wr w 142 3 (w+1) [false,xi 0,xi 0]
 whole:yA wr w 142 3 WB [v,xi e.kind,xi a]
 ne:w.heap.size+2<=WB
 below:Below w w wr
variable {e:Nd} {WB a:Nat} {wr:World}
theorem SoJ.move {v:Bool} (h:SoJ w e WB v a wr) (hb:Below wr wr w'):SoJ w e WB v a w':=
 ⟨h.node.below hb,h.res.below hb,h.whole.below hb,h.ne,h.below.trans (hb.mono h.below.size)⟩
theorem xAv (e:Nd) (w:World) (hs:e.s.size<=maxLen) (ht:e.t.size<=maxLen):(xf 138 #[.agg #[xi e.kind,e.s,e.hi,e.t,xu e.lo,xu e.up,xi e.n]] w (goodB e):Prop):=by refine(yK6 e w hs ht).mono ?_;rintro r w' ⟨b,rfl,hb,hb2⟩;refine⟨?_,hb2⟩;congr 2;rw[Bool.eq_iff_iff,hb,yKc]
def SoA (w:World) (e:Nd) (W0:World):Prop:=yA W0 w 83 7 w e.seven/\yA W0 w 142 3 (w+1) [false,xi 0,xi 0]/\Below w w W0/\W0.heap.size=w.heap.size+2
theorem xAz {W0:World} {gd:Bool} (hA:SoA w e W0) (hb:Below W0.drew W0.drew w'):SoJ w e w' gd 0 (xw w' #[gd,xi e.kind,xi 0] 142):=by have h1:=((Below.refl W0 W0).drew).trans hb;have h2:=h1.size;have h3:Below W0 W0 (xw w' #[gd,xi e.kind,xi 0] 142):=h1.alloc h2 _;have h4:=hA.2.2.2;exact⟨hA.1.below h3,hA.2.1.below h3,yAa w' _ (by omega) rfl,by omega,hA.2.2.1.trans (h3.mono (by omega))⟩
theorem yX6 {W0:World} {gd:Bool} (hA:SoA w e W0) (hb:Below (W0.drew.alloc (Obj.cells #[false,xi 0,xi 0] 142)).heap.size (xw W0.drew #[false,xi 0,xi 0] 142) w'):
  SoJ w e (w+2) gd 0 (xt ((w'.setCell (xd (w+2) 0) gd).setCell (xd (w+2) 1) (xi e.kind)) (w+2) 2 (xi 0)):=by
 have h4:=hA.2.2.2;have hd:W0.drew.heap.size=W0.heap.size:=by simp
 have h0:Below W0 W0 (xw W0.drew #[false,xi 0,xi 0] 142):=((Below.refl W0 W0).drew).alloc (by simp) _;have h1:=h0.trans (hb.mono (by simp));have hB:yA w' w 142 3 (w+2) [false,xi 0,xi 0]:=by have:=yAa W0.drew (base:=w.heap.size) (t:=142) (sz:=3) #[false,xi 0,xi 0] (by simp;omega) rfl;rw[hd,h4]at this;exact this.below hb
 refine⟨(((hA.1.below h1).beside qo 0 _).beside qo 1 _).beside qo 2 _,(((hA.2.1.below h1).beside qo 0 _).beside (by omega) 1 _).beside (by omega) 2 _,((hB.set 0 _).set 1 _).set 2 _,Nat.le_refl _,?_⟩;exact yAc (yAc (yAc (hA.2.2.1.trans (h1.mono (by omega))) (by omega) 0 _) (by omega) 1 _) (by omega) 2 _
structure SoK (w:World) (e:Nd) (WB OB:Nat) (v:Bool) (a:Nat) (x:yA1) (q:Nat) (wr:World):Prop where
 so:SoJ w e WB v a wr
 ob:yA wr w 142 3 OB [x.valid,xi x.kind,xi q]
 ne:¬OB=WB
 ge:w.heap.size+2<=OB
theorem SoJ.round {v:Bool} (h:SoJ w e WB v a wr) (x:yA1):SoK w e WB wr v a x x.nest (xw wr #[x.valid,xi x.kind,xi x.nest] 142):=by have hb:Below wr wr (xw wr #[x.valid,xi x.kind,xi x.nest] 142):=qB;have h1:=h.whole.lt.2;have h2:=h.ne;exact⟨h.move hb,yAa wr _ h.below.size rfl,by omega,by omega⟩
variable {OB q:Nat} {x:yA1}
theorem SoK.valid {v:Bool} (h:SoK w e WB OB v a x q wr) (v2:Bool):SoK w e WB OB v2 a x q (xt wr WB 0 v2):=by have h2:=h.so.ne;exact⟨⟨h.so.node.beside qo 0 _,h.so.res.beside qo 0 _,h.so.whole.set 0 _,h2,yAc h.so.below qo 0 _⟩,h.ob.beside h.ne 0 _,h.ne,h.ge⟩
theorem SoK.more {v:Bool} (h:SoK w e WB OB v a x q wr) (q2:Nat):SoK w e WB OB v a x q2 (xt wr OB 2 (xi q2)):=by have h2:=h.so.ne;have h3:=h.ge;have h4:=h.ne;exact⟨⟨h.so.node.beside qo 2 _,h.so.res.beside qo 2 _,h.so.whole.beside qo 2 _,h2,yAc h.so.below qo 2 _⟩,h.ob.set 2 _,h.ne,h.ge⟩
theorem SoK.done {v:Bool} (h:SoK w e WB OB v a x q wr) (a2:Nat):SoJ w e WB v a2 (xt wr WB 2 (xi a2)):=by have h2:=h.so.ne;exact⟨h.so.node.beside qo 2 _,h.so.res.beside qo 2 _,h.so.whole.set 2 _,h2,yAc h.so.below qo 2 _⟩
variable {os:List yA1}
theorem yUj (h:os[j]?=some x):(os.take (j+1)).all (·.valid)=((os.take j).all (·.valid) && x.valid):=by rw[take_add_one,h];simp
theorem yJs (op:Int) {o:yA1} (h:os[j]?=some o):yA2 op j a (os.drop j)=yA2 op (j+1) (max a (o.nest+if yCf op j o.kind then 1 else 0)) (os.drop (j+1)):=by exact xF5
theorem yH9 {o cap:Nat} (e:Nd) (h:yL0 w b o os) (hbl:b<w.heap.size) (hl:os.length<=cap) (h3:os.length<=3) (hcap:cap<=9223372036854775807) (hN:∀x∈os,x.nest<=1000) (hs:e.s.size<=maxLen) (ht:e.t.size<=maxLen):
  (xf 82 #[e.v,.slice (some ⟨b,o,none⟩) os.length cap] w (.agg #[(yDp goodB e os).valid,xi e.kind,xi (yDp goodB e os).nest]):Prop):=by
 have HF:=qH4 h hN hs ht;obtain⟨n,hn⟩:=qE os.length;have HL:=qH1 hn;rw[<-hn]at hl h3⊢;clear h hN hs ht hn;obtain⟨gd,ab⟩:=qE (goodB e);have HG:=qH1 ab;have ah:Hid (∀w,(xf 138 #[.agg #[xi e.kind,e.s,e.hi,e.t,xu e.lo,xu e.up,xi e.n]] w gd:Prop)):=λw=>by rw[ab];exact xAv e w HF.2.2.1 HF.2.2.2
 clear ab;obtain⟨W0,ae⟩:=qW (xw (w.alloc (Obj.cells #[xi e.kind,e.s,e.hi,e.t,xu e.lo,xu e.up,xi e.n] 83)) #[false,xi 0,xi 0] 142);have a5:Hid (yA W0 w 83 7 w e.seven/\yA W0 w 142 3 (w+1) [false,xi 0,xi 0]/\Below w w W0/\W0.heap.size=w.heap.size+2):=by rw[ae];exact⟨yA.ofHeap (vs:=#[.int .i64 e.kind,.string e.s,.bool e.hi,.string e.t,.int .u64 e.lo,.int .u64 e.up,.int .i64 e.n]) (heap_alloc2_old w _ _) qr rfl,yA.ofHeap (vs:=#[.bool false,.int .i64 0,.int .i64 0]) (heap_alloc2_new w _ _) qo rfl,(qB).alloc (by simp) _,by simp⟩
 obtain⟨c0,c1,c2,c3,c4,c5,c6⟩:=a5.1.c7;have hz:=a5.2.2.2;obtain⟨tot,aa⟩:=qE ((yDp goodB e os).nest);have HT:Hid (yA2 e.kind 0 0 os=tot):=by rw[aa];exact(rfl:yA2 e.kind 0 0 os=_)
 have HV:Hid ((yDp goodB e os).valid=(gd && os.all (·.valid))):=by show(yDp goodB e os).valid=_;rw[HG.out];rfl
 rw[<-aa];clear aa;go_enter func82,ntmps82;go_upto_region 1 with fail;rw[<-ae];clear ae;go_cut[5] (λs wx=>∃WB,s=(xp WB)/\SoJ w e WB gd 0 wx);case first=>
  have am:w.heap.size<W0.heap.size:=qo
  have ao:∀o,(xk (W0.alloc o) w 0 (xi e.kind):Prop):=λo=>by rw[((Below.refl W0 W0).alloc qr o).cell (p:=(xd w 0)) am];exact c0
  go_region_law ((go_simp;go_at_call 138;refine(ah.out _).mono ?_;rintro r w' ⟨rfl,a6⟩;obtain⟨an,ay⟩:=yOw a6;have al:=a6.size;have k0:(xk w' w 0 (xi e.kind):Prop):=by {rw[an w 0 (by simp;omega)];first|exact c0|(simp;first|exact c0|exact ao _)};have kl:w.heap.size<w'.heap.size:=by {simp at al;omega};have ar:∀o,(xk (w'.alloc o) w 0 (xi e.kind):Prop):=λo=>by {rw[((Below.refl w' w').alloc qr o).cell (p:=(xd w 0)) kl];exact k0}));all_goals go_wp2_with fail
  all_goals go_meet
  all_goals first
   |exact⟨_,rfl,xAz a5.out a6⟩
   |exact⟨_,rfl,yX6 a5.out a6⟩
 case rest=>
 obtain⟨WB,rfl,hJ⟩:=hcut;have aj:=qH1 hJ;clear hJ c0 c1 c2 c3 c4 c5 c6 hz a5 ah;go_wp2;go_loopw[15] (λiv wr=>∃(j a:Nat) (v:Bool),iv=(xi j)/\j<=n/\a<=2000/\v=(gd && (os.take j).all (·.valid))/\yA2 e.kind j a (os.drop j)=tot/\SoJ w e WB v a wr) (λiv _=>n-(intOf iv).toNat);case atStart=>exact⟨0,0,gd,rfl,zero_le _,zero_le _,by simp,HT.out,aj.out⟩
 case round=>
  obtain⟨j,a,v,rfl,hj,ha,hv,hN,hJ⟩:=hrel;have HJ:=qH3 hv hN hJ;have aA:=hJ.whole.lt;have az:=hJ.ne;clear hv hN hJ aj HT;by_cases hlt:j<n
  .have zj:(j:Int)<(n:Int):=qo
   obtain⟨x,hx⟩:∃x,os[j]?=some x:=qg (qw HL.out);obtain⟨d0,d1,d2⟩:=(HF.1.below HJ.2.2.below hbl) j x hx;have au:=HF.2.1 x (mem_of_getElem? hx);have HX:=qH1 hx;obtain⟨W1,ad⟩:=qW (xw wr #[x.valid,xi x.kind,xi x.nest] 142);have a0:Hid (SoK w e WB wr v a x x.nest W1):=by rw[ad];exact HJ.2.2.round x
   clear hx;go_upto_region 5 with fail;rw[<-ad];clear ad d0 d1 d2;obtain⟨v0,a4⟩:=qE v;have a7:Hid (v0=(gd && (os.take j).all (·.valid))):=by rw[a4];exact HJ.1
   have ai:=qH1 HJ.2.1;clear HJ;have w0:=a0.so.whole.cell (j:=0) rfl;have af:=a0.so.whole.frozen 0;have o0:=a0.ob.cell (j:=0) rfl;have av:=a0.ne;have ax:=a0.ge;cases v
   .have a9:=a4;clear a4;obtain⟨W2,a1⟩:=qW (xt W1 WB 0 false);have HK2:Hid (SoK w e WB wr false a x x.nest W2):=by rw[a1];exact a0.valid false
    have HVn:Hid (false=(gd && (os.take (j+1)).all (·.valid))):=by show false=_;rw[yUj HX.out,<-Bool.and_assoc,<-a7.out,a9];simp
    go_upto_region 6 with fail;rw[<-a1];clear a1 w0 af o0 a0 a7;have m0:=HK2.so.node.cell (j:=0) rfl;have o1:=HK2.ob.cell (j:=1) rfl;have o2:=HK2.ob.cell (j:=2) rfl;have o2f:=HK2.ob.frozen 2;have w2:=HK2.so.whole.cell (j:=2) rfl;have w2f:=HK2.so.whole.frozen 2;have fin:∀(y:Nat),y=max a (x.nest+(if yCf e.kind j x.kind then 1 else 0))->yA2 e.kind (j+1) y (os.drop (j+1))=tot:=λy hy=>by rw[hy,<-yJs e.kind HX.out];exact ai.out
    by_cases h16:e.kind=16
    .have hlv:yCf e.kind j x.kind=true:=by unfold yCf;rw[h16];rfl
     have a8:(e.kind==16)=true:=by simpa using h16
     clear h16;exact xGx
    .have a8:(e.kind==16)=false:=by simpa using h16
     go_wp2_with fail;refine(yG1 e.kind j x.kind _ h16).mono ?_;rintro r w9 ⟨rfl,a3⟩;rw[a3];clear a3 h16;cases hlv:yCf e.kind j x.kind
     .skip;obtain⟨a2,ha2⟩:=qE (max a (x.nest));have HFin:=qH2 (fin a2 (by rw[ha2,hlv];rfl)) (by omega:a2<=2000);have ha3:max (a:Int) ((x.nest:Int))=(a2:Int):=qo
      clear fin hlv ha2;go_wp2;go_roundw;case rel=>
       refine⟨j+1,a2,false,by go_num,qo,HFin.2,HVn.out,HFin.1,?_⟩;exact HK2.done a2
      case measure=>simp[intOf];omega
     .skip;exact xGx
   .have a9:=a4;clear a4;obtain⟨W2,a1⟩:=qW (xt W1 WB 0 x.valid);have HK2:Hid (SoK w e WB wr x.valid a x x.nest W2):=by rw[a1];exact a0.valid x.valid
    have HVn:Hid (x.valid=(gd && (os.take (j+1)).all (·.valid))):=by show x.valid=_;rw[yUj HX.out,<-Bool.and_assoc,<-a7.out,a9];simp
    go_upto_region 6 with fail;rw[<-a1];clear a1 w0 af o0 a0 a7;have m0:=HK2.so.node.cell (j:=0) rfl;have o1:=HK2.ob.cell (j:=1) rfl;have o2:=HK2.ob.cell (j:=2) rfl;have o2f:=HK2.ob.frozen 2;have w2:=HK2.so.whole.cell (j:=2) rfl;have w2f:=HK2.so.whole.frozen 2;have fin:∀(y:Nat),y=max a (x.nest+(if yCf e.kind j x.kind then 1 else 0))->yA2 e.kind (j+1) y (os.drop (j+1))=tot:=λy hy=>by rw[hy,<-yJs e.kind HX.out];exact ai.out
    by_cases h16:e.kind=16
    .have hlv:yCf e.kind j x.kind=true:=by unfold yCf;rw[h16];rfl
     have a8:(e.kind==16)=true:=by simpa using h16
     clear h16;exact xGy
    .have a8:(e.kind==16)=false:=by simpa using h16
     go_wp2_with fail;refine(yG1 e.kind j x.kind _ h16).mono ?_;rintro r w9 ⟨rfl,a3⟩;rw[a3];clear a3 h16;cases hlv:yCf e.kind j x.kind
     .skip;obtain⟨a2,ha2⟩:=qE (max a (x.nest));have HFin:=qH2 (fin a2 (by rw[ha2,hlv];rfl)) (by omega:a2<=2000);have ha3:max (a:Int) ((x.nest:Int))=(a2:Int):=qo
      clear fin hlv ha2;go_wp2;go_roundw;case rel=>
       refine⟨j+1,a2,x.valid,by go_num,qo,HFin.2,HVn.out,HFin.1,?_⟩;exact HK2.done a2
      case measure=>simp[intOf];omega
     .skip;exact xGy
  .have zj:¬(j:Int)<(n:Int):=qo
   have aq:Hid (a=tot/\v=(yDp goodB e os).valid):=by show _/\_;have h1:=HJ.2.1;have h2:=HJ.1;have aw:=HL.out;rw[drop_eq_nil_of_le qo]at h1;rw[take_of_length_le qo]at h2;exact⟨h1,by rw[h2,HV.out]⟩
   obtain⟨w0,w1,w2⟩:=HJ.2.2.whole.c3;obtain⟨r0,r1,r2⟩:=HJ.2.2.res.c3;obtain⟨f0,f1,f2⟩:=HJ.2.2.res.f3;obtain⟨W9,ac⟩:=qW (set3 wr (w+1) v (xi e.kind) (xi a));have ag:Hid (yA W9 w 142 3 (w+1) [v,xi e.kind,xi a]/\Below w w W9):=by rw[ac];exact⟨HJ.2.2.res.set3 _ _ _,yFt HJ.2.2.below qo _ _ _⟩
   obtain⟨p0,p1,p2⟩:=ag.1.c3;unfold set3 at ac;go_wp2_with fail;rw[<-ac];obtain⟨rfl,ak⟩:=aq.out;rw[<-ak];refine bodyPost_ret (v:=.agg #[v,xi e.kind,xi a]) (by simp[results,results82,go_sem,p0,p1,p2]) rfl ⟨rfl,ag.2⟩
theorem Tryz.infoSh:(prog.info? 142).map (λi=>(i.zero,i.size,i.bytes))=some (some (.agg #[false,xi 0,xi 0]),3,24):=qk
variable {oo:Oper} {a:Act} {K:Act->World->Prop} {Q:Exit->Act->World->Prop} {E:Prop}
theorem yHe {ops:Array Oper} (w:World) (hgd:oo.guard=none) s x
  (ho:oo.op=.call {callee:=.builtin .append,args:=#[s,x],argTypes:=#[218,218]})
  (base n g cp blk:Nat) (ss:List yA1) (y:yA1) (hn:n=ss.length) (hs:a.eval s=(xg g n cp)) (hx:a.eval x=(xg blk 1 1)) (hO:yEs w base g cp ss)
  (hc:yL0 w blk 0 [y]) (hlen:ss.length<=1000) (hbase:base<=w.heap.size)
  (h:∀g' cp' w',yEs w' base g' cp' (ss++ [y])->w.grownBy w' (some g)->(g=g'∨g'=w.heap.size)->K (a.put oo.dst (xg g' (n+1) cp')) w'):if Region.wanted oo (yielded ops a.tmps)=true then Oper.wp prog oo a w K Q else E:=by
 subst hn;obtain⟨i,hi,a4,a3,a2⟩:=info_parts Tryz.infoSh;obtain⟨c0,c1,c2⟩:=hc 0 y rfl;refine step_append_lies w hgd s x 218 ho base 142 i _ 3 24 underlying218 hi a4 a3 a2 rfl qj (xg g ss.length cp) ss.length (yBk ss) hs hO (xd blk 0) 1 1 (yBk [y]) hx rfl ?_ ?_ qj ?_ ?_ hbase w rfl ?_
 .intro j u hu;have hj:j<3:=by have:=qf hu;rw[yGz]at this;simpa using this
  rw[Addr.add_mid];have a0:yBk [y]=y.three:=by simp[yBk]
  rw[a0]at hu;match j,hj with
  |0,_=>simp at hu;rw[<-hu];simpa using c0
  |1,_=>simp at hu;rw[<-hu];simpa using c1
  |2,_=>simp at hu;rw[<-hu];simpa using c2
 .intro u hu;have a0:yBk [y]=y.three:=by simp[yBk]
  rw[a0]at hu;simp at hu;rcases hu with rfl|rfl|rfl<;>rfl
 .unfold maxLen;omega
 .omega
 .intro g' cp' w' a6 a5 a1 a7;refine h g' cp' w' ?_ a5 ?_
  .unfold yEs;rw[length_append,yOp];exact a6
  .simp[Value.ownBlock]at a1;exact a1
variable {xs:List Nd}
theorem yZr (h:yC5 goodB [] xs=some ss):∀s∈ss,s.nest<=xs.length:=by intro s hs;obtain⟨ks,rfl,hK⟩:=ShT.kids goodB (yQo goodB h);obtain⟨k,hk,h3⟩:=yTc goodB hK hs;have h4:=yIx hk;have h5:=yNz goodB _ qr h3;omega
structure FoJ (w:World) (xs:List Nd) (j g cp:Nat) (ss:List yA1) (wr:World):Prop where
 fold:yC5 goodB [] (xs.take j)=some ss
 own:yEs wr (w+1) g cp ss
 res:yA wr w 142 3 w [false,xi 0,xi 0]
 below:Below w w wr
theorem FoJ.move {g:Nat} (h:FoJ w xs j g cp ss wr) (hb:Below wr wr w'):FoJ w xs j g cp ss w':=
 ⟨h.fold,h.own.below hb,h.res.below hb,h.below.trans (hb.mono h.below.size)⟩
theorem yZq (h:yC5 goodB [] (xs.take j)=some ss) (he:xs[j]?=some e) (hl:yA0 e.kind<=ss.length):yC5 goodB [] (xs.take (j+1))=some (ss.take (ss.length-yA0 e.kind)++ [yDp goodB e (ss.drop (ss.length-yA0 e.kind))]):=by rw[take_add_one,he,yFc,h];simp only[Option.toList,Option.bind_some,yC5,yVy];rw[if_neg qo]
theorem yZp (h:yC5 goodB [] (xs.take j)=some ss) (he:xs[j]?=some e) (hl:ss.length<yA0 e.kind):yC5 goodB [] xs=none:=by
 have hj:=qf he;have:xs=xs.take j++e::xs.drop (j+1):=by
  conv=>lhs;rw[<-take_append_drop j xs,drop_eq_getElem_cons hj]
  rw[show xs[j]=e from Option.some.inj ((getElem?_eq_getElem hj).symm.trans he)]
 rw[this,yFc,h];simp only[Option.bind_some,yC5,yVy];rw[if_pos hl]
def yVm (xs:List Nd) (w:World) (r:Ending) (w':World):Prop:=Below w w w'/\((∃s,yC5 goodB [] xs=some [s]/\r=.returned (.tuple #[.agg #[s.valid,xi s.kind,xi s.nest],true]))∨((∀s,¬yC5 goodB [] xs=some [s])/\r=.returned (.tuple #[.agg #[false,xi 0,xi 0],false])))
structure FoK (w:World) (xs:List Nd) (j g cp:Nat) (ss:List yA1) (SB:Nat) (y:yA1) (wr:World):Prop where
 fo:FoJ w xs j g cp ss wr
 box:yA wr w 142 3 SB y.three
 ne:¬SB=g
 ge:w.heap.size+1<=SB
theorem xB2 {g:Nat} {W1:World} (y:yA1) (h:FoJ w xs j g cp ss W1) (hb:Below W1.drew W1.drew w'):FoK w xs j g cp ss w' y (xw w' #[y.valid,xi y.kind,xi y.nest] 142):=by have h1:=((Below.refl W1 W1).drew).trans hb;have h2:=h1.size;have h3:Below W1 W1 (xw w' #[y.valid,xi y.kind,xi y.nest] 142):=h1.alloc h2 _;have h4:=h.own.lt;have h5:=h.below.size;have h6:=h.res.lt;exact⟨h.move h3,yAa w' _ (by omega) rfl,by omega,by omega⟩
theorem yZs {g:Nat} {W1:World} (y:yA1) (h:FoJ w xs j g cp ss W1) (hb:Below (W1.drew.alloc (Obj.cells #[false,xi 0,xi 0] 142)).heap.size (xw W1.drew #[false,xi 0,xi 0] 142) w'):
  FoK w xs j g cp ss W1 y (xt ((w'.setCell (xd W1 0) y.valid).setCell (xd W1 1) (xi y.kind)) W1 2 (xi y.nest)):=by
 have hd:W1.drew.heap.size=W1.heap.size:=by simp
 have h0:Below W1 W1 (xw W1.drew #[false,xi 0,xi 0] 142):=((Below.refl W1 W1).drew).alloc (by simp) _;have h1:=h0.trans (hb.mono (by simp));have h4:=h.own.lt;have h5:=h.below.size;have h6:=h.res.lt;have hB:yA w' w 142 3 W1 [false,xi 0,xi 0]:=by have:=yAa W1.drew (base:=w.heap.size) (t:=142) (sz:=3) #[false,xi 0,xi 0] (by simp;omega) rfl;rw[hd]at this;exact this.below hb
 have hJ:=h.move h1
 have hC:Chg (λk=>k=W1.heap.size) w' (xt ((w'.setCell (xd W1 0) y.valid).setCell (xd W1 1) (xi y.kind)) W1 2 (xi y.nest)):=
  ((Chg.of_set w' W1 0 _ (S:=λk=>k=W1.heap.size) rfl).trans (Chg.of_set _ W1 1 _ (S:=λk=>k=W1.heap.size) rfl)).trans (Chg.of_set _ W1 2 _ (S:=λk=>k=W1.heap.size) rfl)
 refine⟨⟨hJ.fold,yAh hJ.own hC (λk q=>by simp[Value.ownBlock]at q;omega),hJ.res.chg hC qo,?_⟩,((hB.set 0 _).set 1 _).set 2 _,qo,by omega⟩;exact yAc (yAc (yAc hJ.below (by omega) 0 _) (by omega) 1 _) (by omega) 2 _
theorem xHg (X:World) (y:yA1) (B:Nat) (hB:X.heap.size=B):yL0 (xw X #[y.valid,xi y.kind,xi y.nest] 142) B 0 [y]:=by
 subst hB;intro i s hs;have hi:i=0:=by have:=qf hs;simpa using this
 subst hi;simp at hs;subst hs;exact⟨by simp,by simp,by simp⟩
variable {cp':Nat}
theorem xFj {wc X:World} {g g' fr:Nat} {y:yA1} (h:FoJ w xs j g cp ss wc) (hX:Below wc wc X) (hY:yC5 goodB [] (xs.take (j+1))=some (ss.take fr++ [y])) (hO:yEs w' (w+1) g' cp' (ss.take fr++ [y])) (hgr:X.grownBy w' (some g)) (hm:fr=(ss.take fr).length):FoJ w xs (j+1) g' cp' (ss.take fr++ [y]) w'/\fr+1<=cp':=by have hJ:=h.move hX;have h1:=hJ.own.lt;have hC:Chg (λk=>k=g) X w':=Chg.of_grown hgr (λk hk=>by cases hk;rfl);refine⟨⟨hY,hO,hJ.res.chg hC (by omega),Chg.below hJ.below hC hJ.below.size (λk q=>by omega)⟩,?_⟩;have:=hO.caps.1;rw[length_append,length_singleton,<-hm]at this;exact this
theorem yQs {gN oN cpN:Nat} (h:yH1 w gN oN xs) (hg:gN<w.heap.size) (hok:∀e∈xs,e.ok) (hl:xs.length<=200):
  Calls prog 81 #[.slice (some ⟨gN,oN,none⟩) xs.length cpN,.func (Fn.func 82) #[] #[]] w (yVm xs w):=by
 have HF:=qH2 h hok;obtain⟨n,hn⟩:=qE xs.length;have HL:=qH1 hn;rw[<-hn]at hl⊢;clear h hok hn;obtain⟨W0,a6⟩:=qW (xw (w.alloc (Obj.cells #[false,xi 0,xi 0] 142)) #[] 142);have ai:Hid (FoJ w xs 0 (w+1) 0 [] W0):=by
  obtain⟨V,hV⟩:=qW (xw w #[false,xi 0,xi 0] 142);have hz:=qS hV
  have hb:Below V V W0:=by rw[a6,<-hV];exact qB
  have av:=qN hV
  have hB:yA V w 142 3 w [false,xi 0,xi 0]:=by rw[hV];exact yAa w _ qr rfl
  refine⟨rfl,?_,hB.below hb,av.trans (hb.mono qo)⟩;rw[a6,<-hV,<-hz];exact yYo V qr
 go_enter func81,ntmps81;go_upto_region 2 with fail;rw[<-a6];clear a6;go_wp2;go_loopw[6,14] (λsv iv wr=>∃(j m g cp:Nat) (ss:List yA1),iv=(xi j)/\j<=n/\m=ss.length/\m<=j/\m<=cp/\sv=(xg g m cp)/\FoJ w xs j g cp ss wr) (λ_ iv _=>n-(intOf iv).toNat);case atStart=>exact⟨0,0,_,0,[],rfl,zero_le _,rfl,Nat.le_refl _,zero_le _,rfl,ai.out⟩
 case round=>
  obtain⟨j,m,g,cp,ss,rfl,hj,hm,aD,aE,rfl,hJ⟩:=hrel;have HJ:=qH2 hm hJ;have aG:=hJ.own.lt;have aK:cp<=9223372036854775807:=by have:=hJ.own.caps.2;unfold maxLen at this;omega
  have an:=hJ.below.size;have aB:=hJ.res.lt.2;obtain⟨r0,r1,r2⟩:=hJ.res.c3;obtain⟨f0,f1,f2⟩:=hJ.res.f3;clear hm hJ ai;by_cases hlt:j<n
  .have zj:(j:Int)<(n:Int):=qo
   obtain⟨e,he⟩:∃e,xs[j]?=some e:=qg (qw HL.out);obtain⟨d0,d1,d2,d3,d4,d5,d6⟩:=(HF.1.below HJ.2.below hg) j e he;have ok:=HF.2 e (mem_of_getElem? he);have HE:=qH3 he ok.s ok.t;clear ok he;obtain⟨W1,a4⟩:=qW (xw wr #[xi e.kind,e.s,e.hi,e.t,xu e.lo,xu e.up,xi e.n] 83);have ag:=qN a4
   have am:=qS a4
   have a0:Hid (m=ss.length/\FoJ w xs j g cp ss W1/\yA W1 w 83 7 wr e.seven):=by refine⟨HJ.1,HJ.2.move ag,?_⟩;rw[a4];exact yAa wr _ an rfl
   go_upto_region 5 with fail;rw[<-a4];clear a4 d0 d1 d2 d3 d4 d5 d6 r0 r1 r2 f0 f1 f2 HJ ag;obtain⟨c0,c1,c2,c3,c4,c5,c6⟩:=a0.2.2.c7;obtain⟨a,ha⟩:=qE (yA0 e.kind);have aM:a<=3:=by rw[ha];exact yI3 _
   have al:Hid (Calls prog 83 #[xi e.kind] W1 λr w'=>r=.returned (xi a)/\w'=W1):=by rw[ha];exact yHj e.kind W1
   have a9:=qH1 ha;clear ha;go_wp2_with fail;refine al.mono ?_;rintro r w9 ⟨rfl,aa⟩;rw[aa];clear aa al;by_cases hfr:m<a
   .have zf:(m:Int)-(a:Int)<0:=qo
    obtain⟨r0,r1,r2⟩:=a0.2.1.res.c3;obtain⟨f0,f1,f2⟩:=a0.2.1.res.f3;have HS:=qH1 (yZp a0.2.1.fold HE.1 (by rw[<-a0.1,<-a9.out];exact hfr));obtain⟨W9,a1⟩:=qW (set3 W1 w false (xi 0) (xi 0));have a2:Hid (yA W9 w 142 3 w [false,xi 0,xi 0]/\Below w w W9):=by rw[a1];exact⟨a0.2.1.res.set3 _ _ _,yFt a0.2.1.below qr _ _ _⟩
    obtain⟨p0,p1,p2⟩:=a2.1.c3;unfold set3 at a1;go_wp2;rw[<-a1];refine bodyPost_ret (v:=.tuple #[.agg #[false,xi 0,xi 0],false]) (by simp[results,results81,go_sem,p0,p1,p2]) rfl ⟨a2.2,.inr ⟨λs q=>(by rw[HS.out]at q;cases q),rfl⟩⟩
   .obtain⟨fr,aI⟩:∃fr:Nat,(m:Int)-(a:Int)=(fr:Int):=⟨m-a,qo⟩;have ar:fr<=m:=qo
    have a8:Hid (fr=ss.length-yA0 e.kind/\yA0 e.kind<=ss.length):=by have h1:=a0.1;have h2:=a9.out;exact⟨qo,qo⟩
    have zf:¬(fr:Int)<0:=qo
    have z2:(fr:Int)<=(m:Int):=qo
    have z3:(m:Int)<=(cp:Int):=qo
    obtain⟨y,hy⟩:=qE (yDp goodB e (ss.drop fr));have HY:Hid (yC5 goodB [] (xs.take (j+1))=some (ss.take fr++ [y])):=by show _=_;rw[hy,a8.1];exact yZq a0.2.1.fold HE.1 a8.2
    obtain⟨ad,ax⟩:∃ad:Option Addr,(if cp=fr then some (⟨g,0,none⟩:Addr)else some ⟨g,fr*3,none⟩)=ad:=⟨_,rfl⟩;have aj:Hid (∀X,Below W1 W1 X->(xf 82 #[.agg #[xi e.kind,e.s,e.hi,e.t,xu e.lo,xu e.up,xi e.n],.slice ad (m-fr) (cp-fr)] X (.agg #[y.valid,xi y.kind,xi y.nest]):Prop)):=λX hX=>by
     have ao:=a0.2.1.own.at.below hX a0.2.1.own.lt.2;have ab:=ao.drop fr;rw[Nat.zero_add]at ab;have a3:(ss.drop fr).length=m-fr:=by rw[length_drop,<-a0.1]
     have aN:=hX.size;have aH:=a0.2.1.own.lt.2;have ae:∀x∈ss.drop fr,x.nest<=1000:=λx hx=>by have h1:=yZr a0.2.1.fold x (mem_of_mem_drop hx);rw[length_take]at h1;omega
     have ac:(ss.drop fr).length<=3:=by rw[a3];have:=a8.1;have:=a9.out;have:=a0.1;omega
     rw[hy,<-ax];by_cases hcf:cp=fr
     .rw[if_pos hcf];have aq:=length_eq_zero_iff.1 (by rw[a3];omega);have h9:=yH9 (w:=X) (b:=g) (o:=0) (cap:=cp-fr) (os:=ss.drop fr) e (by rw[aq];intro i s hs;simp at hs) qo (by rw[a3];omega) ac qo ae HE.2.1 HE.2.2;rw[a3]at h9;exact h9
     .rw[if_neg hcf];have h9:=yH9 (w:=X) (b:=g) (o:=fr*3) (cap:=cp-fr) (os:=ss.drop fr) e ab qo (by rw[a3];omega) ac qo ae HE.2.1 HE.2.2;rw[a3]at h9;exact h9
    clear hy hfr;go_upto_region 8 with fail;go_cut[10] (λsv wx=>∃SB,sv=(xp SB)/\FoK w xs j g cp ss SB y wx);case first=>
     go_region_law ((go_simp;go_at_call 82;refine(aj.out _ ?hX).mono ?_;(case hX=>(repeat (first|exact Below.refl _ _|refine Below.drew ?_|refine Below.alloc ?_ (by simp) _)));rintro r w' ⟨rfl,a5⟩;obtain⟨aL,aJ⟩:=yOw a5;have az:=a5.size));all_goals go_wp2_with fail
     all_goals go_meet
     all_goals first
      |exact⟨_,rfl,xB2 y a0.2.1 a5⟩
      |exact⟨_,rfl,by have h9:=yZs y a0.2.1 a5;rw[am]at h9;exact h9⟩
    case rest=>
    obtain⟨SB,rfl,hK⟩:=hcut;have HK:=qH1 hK;obtain⟨b0,b1,b2⟩:=hK.box.c3;have aF:=hK.fo.own.lt;have aA:=hK.box.lt.2;have aC:=hK.ne;have ay:=hK.fo.below.size;have HM:Hid (fr=(ss.take fr).length):=by show fr=_;rw[length_take,<-a0.1];omega
    clear hK c0 c1 c2 c3 c4 c5 c6 aj;go_upto_region 9 with fail;have au:fr<=ss.length:=by rw[<-a0.1];exact ar
    have z4:(fr:Int)<=(cp:Int):=qo
    have z5:fr<=cp:=qo
    go_region_law ((refine yHe _ (by rfl) _ _ (by rfl) (w+1) fr g cp wc (ss.take fr) y HM.out (by rfl) (by rfl) ?hO ?hc ?hl ?hb ?_
                    case hO=>(refine yEs.below (HK.fo.own.take au) ?_;repeat (first|exact Below.refl _ _|refine Below.drew ?_|refine Below.alloc ?_ (by simp) _))
                    case hc=>exact xHg _ y _ (by simp)
                    case hl=>rw[<-HM.out];omega
                    case hb=>simp;omega
                    intro g' a7 w' ah af aw
                    have fin:Hid (FoJ w xs (j+1) g' a7 (ss.take fr++ [y]) w'/\fr+1<=a7):=xFj HK.fo (by repeat (first|exact Below.refl _ _|refine Below.drew ?_|refine Below.alloc ?_ (by simp) _)) HY.out ah af HM.out
                    clear ah af aw))
    all_goals go_wp2_with fail
    all_goals go_roundw
    all_goals first
     |exact⟨j+1,fr+1,g',a7,ss.take fr++ [y],by go_num,qo,by rw[length_append,length_singleton,<-HM.out],qo,fin.out.2,rfl,fin.out.1⟩
     |(simp[intOf];omega)
  .have zj:¬(j:Int)<(n:Int):=qo
   have ak:Hid (yC5 goodB [] xs=some ss):=by have h1:=HJ.2.fold;rw[take_of_length_le (qw HL.out)]at h1;exact h1
   by_cases hm1:m=1
   .subst hm1;obtain⟨s,rfl⟩:∃s,ss= [s]:=by
     have h1:=HJ.1;match ss,h1 with
     | [s],_=>exact⟨s,rfl⟩
    obtain⟨e0,e1,e2⟩:=HJ.2.own.at 0 s rfl;simp only[Nat.zero_add,Nat.zero_mul]at e0 e1 e2;obtain⟨W9,a1⟩:=qW (set3 wr w s.valid (xi s.kind) (xi s.nest));have a2:Hid (yA W9 w 142 3 w [s.valid,xi s.kind,xi s.nest]/\Below w w W9):=by rw[a1];exact⟨HJ.2.res.set3 _ _ _,yFt HJ.2.below qr _ _ _⟩
    obtain⟨p0,p1,p2⟩:=a2.1.c3;unfold set3 at a1;go_wp2;rw[<-a1];refine bodyPost_ret (v:=.tuple #[.agg #[s.valid,xi s.kind,xi s.nest],true]) (by simp[results,results81,go_sem,p0,p1,p2]) rfl ⟨a2.2,.inl ⟨s,ak.out,rfl⟩⟩
   .have zm:((m:Int) != 1)=true:=by have:¬(m:Int)=1:=qo;simpa using this
    obtain⟨W9,a1⟩:=qW (set3 wr w false (xi 0) (xi 0));have a2:Hid (yA W9 w 142 3 w [false,xi 0,xi 0]/\Below w w W9):=by rw[a1];exact⟨HJ.2.res.set3 _ _ _,yFt HJ.2.below qr _ _ _⟩
    obtain⟨p0,p1,p2⟩:=a2.1.c3;unfold set3 at a1;go_wp2;rw[<-a1];refine bodyPost_ret (v:=.tuple #[.agg #[false,xi 0,xi 0],false]) (by simp[results,results81,go_sem,p0,p1,p2]) rfl ⟨a2.2,.inr ⟨λs q=>?_,rfl⟩⟩;rw[ak.out]at q;have h1:=HJ.1;rw[Option.some.inj q]at h1;exact hm1 h1
theorem yLk {g o:Nat} (h:WdN w g o cp xs) (hok:∀e∈xs,e.ok):Calls prog 34 #[.agg #[.slice (some ⟨g,o,none⟩) xs.length cp]] w (yOz xs w):=by
 have HO:=qH2 h hok;have hg:=h.lt;obtain⟨n,hn⟩:=qE xs.length;have HN:=qH1 hn;have a3:=h.caps;rw[<-hn]at a3⊢;unfold maxLen at a3;clear h hok hn;obtain⟨W0,a1⟩:=qE (xw w #[.slice (some ⟨g,o,none⟩) n cp] 25:World);have HW0:Hid (yA W0 w 25 1 w [.slice (some ⟨g,o,none⟩) n cp]/\Below w w W0):=by rw[a1];exact⟨yAa w _ qr rfl,qB⟩
 have c0:=HW0.1.cell (j:=0) rfl;have s0:=HW0.2.size;go_enter func34,ntmps34;go_upto_region 1 with fail;rw[<-a1];clear a1;by_cases hbig:200<n
 .exact xF7
 have zb:¬(200:Int)<(n:Int):=qo
 have HC:Hid (Calls prog 81 #[.slice (some ⟨g,o,none⟩) n cp,.func (Fn.func 82) #[] #[]] W0 (yVm xs W0)):=by
  have hl:xs.length<=200:=by rw[<-HN.out];omega
  have:=yQs (w:=W0) (gN:=g) (oN:=o) (cpN:=cp) (HO.1.at.below HW0.2 hg) qo HO.2 hl;rw[<-HN.out]at this;exact this
 go_wp2_with fail;refine HC.mono ?_;rintro r w2 ⟨hb2,(⟨s,hs,rfl⟩|⟨hs,rfl⟩)⟩
 .have HF:Hid (yFk xs↔(s.valid=true/\s.nest<=20)):=by
   show yFk xs↔_;have a0:=yQo goodB hs;constructor
   .rintro⟨_,t,ht,hv,hn⟩;rw[xD a0 ht];exact⟨hv,hn⟩
   .rintro⟨hv,hn⟩;exact⟨by have:=HN.out;omega,s,a0,hv,hn⟩
  have HB:=qH1 (HW0.2.trans (hb2.mono s0));obtain⟨v,hv⟩:=qE s.valid;obtain⟨k,hk⟩:=qE s.nest;obtain⟨kd,a2⟩:=qE s.kind;rw[<-hv,<-hk]at HF;rw[<-hv,<-hk,<-a2];clear hs hb2 c0 HC hv hk a2;cases v
  .go_wp2_with fail;go_ret;exact⟨_,rfl,by rw[HF.out];simp,HB.trans ((Below.refl _ _).alloc HB.size _)⟩
  .go_wp2_with fail;go_ret;exact⟨_,rfl,by rw[HF.out];simp<;>omega,HB.trans ((Below.refl _ _).alloc HB.size _)⟩
 .have HF:Hid (¬yFk xs):=λq=>by obtain⟨_,s,a0,_⟩:=q;have:=ShT.fold goodB a0 [];exact hs s (by simpa using this)
  have HB:=qH1 (HW0.2.trans (hb2.mono s0));clear hs hb2 c0 HC;exact zF (HB.trans ((Below.refl _ _).alloc HB.size _))
theorem yJ6 {g:Nat} (h:yC7 w base g cp xs) (hok:∀e∈xs,e.ok):Calls prog 34 #[.agg #[xg g xs.length cp]] w (yOz xs w):=yLk h.wd hok
theorem yJ8 (k:Int) w:Calls prog 141 #[xi k] w (yH3 (cntK k) w):=by
 go_enter func141,ntmps141;go_wp2_with fail;all_goals go_ret
 all_goals exact⟨_,rfl,by simp_all[cntK],Below.refl _ _⟩
theorem yVb (o a b:Int) (f:Bool) (k:Int) (s:ByteArray) (h:Bool) (t:ByteArray) (l u n:Int) (o' a' b':Int) (f':Bool) (k':Int) (s':ByteArray) (h':Bool) (t':ByteArray) (l' u' n':Int) (wx:World):
  (binOp .eql 153 (.agg #[xi o,xi a,xi b,f,xi k,s,h,t,xu l,xu u,xi n]) (.agg #[xi o',xi a',xi b',f',xi k',s',h',t',xu l',xu u',xi n'])).run prog wx=.ok (decide (o=o'/\a=a'/\b=b'/\f=f'/\k=k'/\s.toList=s'.toList/\h=h'/\t.toList=t'.toList/\l=l'/\u=u'/\n=n')) wx:=by
 go_simp;by_cases q0:o=o';case neg=>(rw[if_neg q0];simp[q0])
 rw[if_pos q0];by_cases q1:a=a';case neg=>(rw[if_neg q1];simp[q1])
 rw[if_pos q1];by_cases q2:b=b';case neg=>(rw[if_neg q2];simp[q2])
 rw[if_pos q2];by_cases q3:f=f';case neg=>(rw[if_neg q3];simp[q3])
 rw[if_pos q3];by_cases q4:k=k';case neg=>(rw[if_neg q4];simp[q4])
 rw[if_pos q4];by_cases q5:s.toList=s'.toList;case neg=>(rw[if_neg q5];simp[q5])
 rw[if_pos q5];by_cases q6:h=h';case neg=>(rw[if_neg q6];simp[q6])
 rw[if_pos q6];by_cases q7:t.toList=t'.toList;case neg=>(rw[if_neg q7];simp[q7])
 rw[if_pos q7];by_cases q8:l=l';case neg=>(rw[if_neg q8];simp[q8])
 rw[if_pos q8];by_cases q9:u=u';case neg=>(rw[if_neg q9];simp[q9])
 rw[if_pos q9];by_cases q10:n=n';case neg=>(rw[if_neg q10];simp[q10])
 rw[if_pos q10];simp[q0,q1,q2,q3,q4,q5,q6,q7,q8,q9,q10]
theorem yQi (o a b:Int) (f:Bool) (k:Int) (s:ByteArray) (h:Bool) (t:ByteArray) (l u n:Int):∃B:Bool,(B=true↔b=0)/\∀wx,(binOp .eql 153 (.agg #[xi o,xi a,xi b,f,xi k,s,h,t,xu l,xu u,xi n]) (.agg #[xi o,xi a,xi 0,f,xi k,s,h,t,xu l,xu u,xi n])).run prog wx=.ok B wx:=
 ⟨_,by simp,λwx=>yVb o a b f k s h t l u n o a 0 f k s h t l u n wx⟩
theorem yD2 (o a b:Int) (f:Bool) (k:Int) (s:ByteArray) (h:Bool) (t:ByteArray) (l u n:Int) (a' b':Int):∃B:Bool,(B=true↔a=a'/\b=b'/\f=false/\NoNd ⟨k,s,h,t,l,u,n⟩)/\∀wx,(binOp .eql 153 (.agg #[xi o,xi a,xi b,f,xi k,s,h,t,xu l,xu u,xi n]) (.agg #[xi o,xi a',xi b',false,xi 0,xe,false,xe,xu 0,xu 0,xi 0])).run prog wx=.ok B wx:=
 ⟨_,by
   have hE:=yKg
   rw[decide_eq_true_eq,hE]
   simp only[true_and]
   exact Iff.rfl,λwx=>yVb o a b f k s h t l u n o a' b' false 0 ⟨#[]⟩ false ⟨#[]⟩ 0 0 0 wx⟩
def yKz (x:Ix) (cnt:Int):Prop:=yFk [x.leaf]/\((cntK x.leaf.kind/\0<=x.a/\x.a<cnt)∨(¬cntK x.leaf.kind/\x.a=0))
theorem yF4 (x:Ix) (v:Value) (cnt:Int) w (hv:v.cells=#[v]) (ho:x.ok):Calls prog 166 #[.agg #[v,xi cnt],x.v] w (yH3 (yKz x cnt) w):=by
 obtain⟨P,hP⟩:=qE (yKz x cnt:Prop);rw[<-hP];have HO:=ho;obtain⟨op,a,b,free,⟨kind,s,hi,t,lo,up,nn⟩⟩:=x;have HP:Hid (P↔yKz ⟨op,a,b,free,⟨kind,s,hi,t,lo,up,nn⟩⟩ cnt):=by show P↔_;rw[hP]
 clear ho hP;obtain⟨W0,a0⟩:=qE (xw (w.alloc (Obj.cells #[v,xi cnt] 32)) #[xi op,xi a,xi b,free,xi kind,s,hi,t,xu lo,xu up,xi nn] 153:World);have a6:Below w w W0:=by rw[a0];exact(qB).alloc (by simp) _
 have a9:W0.heap.size=w.heap.size+1+1:=by rw[a0];simp
 have HK:Hid (∀wx,Below W0 W0 wx->xk wx w 1 (xi cnt)/\xk wx (w+1) 0 (xi op)/\xk wx (w+1) 1 (xi a)/\xk wx (w+1) 2 (xi b)/\xk wx (w+1) 3 free/\xk wx (w+1) 4 (xi kind)/\xk wx (w+1) 5 s/\xk wx (w+1) 6 hi/\xk wx (w+1) 7 t/\xk wx (w+1) 8 (xu lo)/\xk wx (w+1) 9 (xu up)/\xk wx (w+1) 10 (xi nn)):=by
  intro wx hx;refine⟨?_,?_,?_,?_,?_,?_,?_,?_,?_,?_,?_,?_⟩
  .rw[hx.cell (p:=(xd w 1)) (by show w.heap.size<_;omega),a0];simp[go_sem]
  all_goals rw[hx.cell (by show w.heap.size+1<_;omega),a0]
  all_goals simp[go_sem]
 obtain⟨b1,c0,c1,c2,c3,c4,c5,c6,c7,c8,c9,c10⟩:=HK.out W0 (Below.refl _ _);go_enter func166,ntmps166;go_upto_region 1 with fail;rw[<-a0];clear a0;obtain⟨W1,a3⟩:=qE (xw W0 #[xi kind,s,hi,t,xu lo,xu up,xi nn] 83:World);have a5:=qN a3
 have ab:Hid (yC7 W1 (w+1+1) (w+1+1) 1 [⟨kind,s,hi,t,lo,up,nn⟩]):=by rw[a3,<-a9];exact yPr W0 ⟨kind,s,hi,t,lo,up,nn⟩
 go_wp2_with fail;rw[<-a3];clear a3 b1 c0 c1 c2 c3 c4 c5 c6 c7 c8 c9 c10;refine(yJ6 ab.out (λe he=>by simp at he;subst he;exact HO.leaf)).mono ?_;rintro e w2 ⟨r,rfl,hr,hb2⟩;have HR:=qH1 hr;have k2:=a5.trans (hb2.mono a5.size);have a8:=a6.trans (k2.mono qo);obtain⟨b1,c0,c1,c2,c3,c4,c5,c6,c7,c8,c9,c10⟩:=HK.out w2 k2;clear hr;cases r
 case false=>have HG:Hid (¬P):=λq=>Bool.noConfusion (HR.2 (HP.1 q).1);exact zR a8
 case true=>
 have a7:Hid (yFk [⟨kind,s,hi,t,lo,up,nn⟩]):=HR.1 rfl;clear HR;go_wp2_with fail;refine(yJ8 kind _).mono ?_;rintro e w3 ⟨q,rfl,hq,aa⟩;have HQ:Hid (q=true↔cntK kind):=hq;have k3:Below W0 W0 w3:=k2.trans (aa.mono k2.size);have a1:Below w w w3:=a6.trans (k3.mono qo);clear hq b1 c0 c1 c2 c3 c4 c5 c6 c7 c8 c9 c10;obtain⟨b1,c0,c1,c2,c3,c4,c5,c6,c7,c8,c9,c10⟩:=HK.out w3 k3;cases q
 case false=>
  have a2:¬cntK kind:=λz=>Bool.noConfusion (HQ.2 z);by_cases ha:a=0
  .have HG:Hid P:=HP.2 ⟨a7.out,.inr ⟨a2,ha⟩⟩;clear a2;go_wp2_with fail;go_ret;exact⟨_,rfl,by simp[HG.out,ha],a1⟩
  .have HG:Hid (¬P):=λz=>by
    rcases(HP.1 z).2 with y|y
    .exact a2 y.1
    .exact ha y.2
   clear a2;go_wp2_with fail;go_ret;exact⟨_,rfl,by simp[HG.out,ha],a1⟩
 case true=>
  have a4:cntK kind:=HQ.1 rfl;have HF:Hid (P↔0<=a/\a<cnt):=by
   show P↔_;rw[HP.out];constructor
   .intro z;rcases z.2 with y|y
    .exact y.2
    .exact absurd a4 y.1
   .intro z;exact⟨a7.out,.inl ⟨a4,z⟩⟩
  clear a4;by_cases p0:0<=a;case neg=>
   have HG:Hid (¬P):=λz=>p0 (HF.1 z).1;go_wp2_with fail;go_ret;exact⟨_,rfl,by simp[HG.out,p0],a1⟩
  by_cases p1:a<cnt
  .have HG:Hid P:=HF.2 ⟨p0,p1⟩;go_wp2_with fail;go_ret;exact⟨_,rfl,by simp[HG.out,p0,p1],a1⟩
  .have HG:Hid (¬P):=λz=>p1 (HF.1 z).2;go_wp2_with fail;go_ret;exact⟨_,rfl,by simp[HG.out,p0,p1],a1⟩
theorem yMz (x:Bk) (k:Nat) (conds:Nat) (y:Ix) w (h:yAy w x.v x.l) (hy:x.l[k]?=some y) (ho:y.ok):Calls prog 115 #[x.val,xi k,xi conds] w (yH3 (yCy y k x.l.length x.cnt conds) w):=by
 obtain⟨P,hP⟩:=qE (yCy y k x.l.length x.cnt conds:Prop);rw[<-hP];have HO:Hid y.ok:=ho;obtain⟨v,cnt,l⟩:=x;obtain⟨op,a,b,free,⟨kind,s,hi,t,lo,up,nn⟩⟩:=y;have HP:Hid (P↔yCy ⟨op,a,b,free,⟨kind,s,hi,t,lo,up,nn⟩⟩ k l.length cnt conds):=by show P↔_;rw[hP]
 have a5:=qf hy;simp only at a5 h;obtain⟨b0,off,cap,a7,HE,a2,a9⟩:∃b0 off cap,v=.slice (some ⟨b0,off,none⟩) l.length cap/\Hid (yB5 w b0 off l)/\b0<w.heap.size/\(l.length<=cap/\cap<=maxLen):=by
  rcases h with⟨a,a6,hq,hl⟩|⟨b,off,a6,hq,hE,a2,h1,h2⟩
  .subst hl;simp at a5
  .exact⟨b,off,a6,hq,hE,a2,h1,h2⟩
 subst a7;have HY:Hid (l[k]?=some ⟨op,a,b,free,⟨kind,s,hi,t,lo,up,nn⟩⟩):=hy;have zk:(k:Int)<(l.length:Int):=qo
 unfold maxLen at a9;clear h hy ho hP;obtain⟨W0,a0⟩:=qE (xw w #[.slice (some ⟨b0,off,none⟩) l.length cap,xi cnt] 32:World);have hb0:=qN a0
 have a4:=qS a0
 obtain⟨c0,c1,c2,c3,c4,c5,c6,c7,c8,c9,c10⟩:=(HE.below hb0 a2) k _ HY.out;have m0:(xk W0 w 0 (.slice (some ⟨b0,off,none⟩) l.length cap):Prop):=by rw[a0];simp
 have m1:(xk W0 w 1 (xi cnt):Prop):=by rw[a0];simp
 obtain⟨W1,a1⟩:=qE (xw W0 #[xi op,xi a,xi b,free,xi kind,s,hi,t,xu lo,xu up,xi nn] 153:World);have a3:=qN a1
 have ab:W1.heap.size=w.heap.size+1+1:=by rw[a1];simp[a4]
 have kw1:Below w w W1:=hb0.trans (a3.mono qo);obtain⟨n0,n1,x0,x1,x2,x3,x4,x5,x6,x7,x8,x9,aa⟩:xk W1 w 0 (.slice (some ⟨b0,off,none⟩) l.length cap)/\xk W1 w 1 (xi cnt)/\xk W1 (w+1) 0 (xi op)/\xk W1 (w+1) 1 (xi a)/\xk W1 (w+1) 2 (xi b)/\xk W1 (w+1) 3 free/\xk W1 (w+1) 4 (xi kind)/\xk W1 (w+1) 5 s/\xk W1 (w+1) 6 hi/\xk W1 (w+1) 7 t/\xk W1 (w+1) 8 (xu lo)/\xk W1 (w+1) 9 (xu up)/\xk W1 (w+1) 10 (xi nn):=by
  refine⟨by rw[a3.cell (p:=(xd w 0)) (by show w.heap.size<_;omega)];exact m0,by rw[a3.cell (p:=(xd w 1)) (by show w.heap.size<_;omega)];exact m1,?_,?_,?_,?_,?_,?_,?_,?_,?_,?_,?_⟩;all_goals rw[a1,<-a4]
  all_goals simp
 go_enter func115,ntmps115;go_upto_region 1 with fail;rw[<-a0];clear a0;go_upto_region 2 with fail;rw[<-a1];clear a1 m0 m1 c0 c1 c2 c3 c4 c5 c6 c7 c8 c9 c10;have a8:∀(Q:Prop),Hid (P↔Q)->Hid (P↔Q):=λ_ h=>h;clear a8;by_cases hkb:(k:Int)<b;case neg=>
  exact zzQ9
 by_cases hbn:b<=(l.length:Int);case neg=>
  exact zzQ9
 by_cases h1:op=1;case pos=>
  subst h1;obtain⟨B,hB,hq⟩:=yQi 1 a b free kind s hi t lo up nn;have HB:Hid (B=true↔b=0):=hB;clear hB;cases B
  case false=>have HG:Hid (¬P):=λq=>Bool.noConfusion (HB.2 (yGc.1 (HP.1 q)).2.1);exact zR kw1
  case true=>
  go_wp2_with fail;refine(yF4 ⟨1,a,b,free,⟨kind,s,hi,t,lo,up,nn⟩⟩ _ cnt _ rfl HO.out).mono ?_;rintro e w3 ⟨r,rfl,hr,hb3⟩;have HR:Hid (r=true↔yKz ⟨1,a,b,free,⟨kind,s,hi,t,lo,up,nn⟩⟩ cnt):=hr;have k3w:Below w w w3:=kw1.trans (hb3.mono qo);have HG:Hid (r=true↔P):=by show r=true↔P;rw[HR.out,HP.out,yGc];have hb0:b=0:=HB.1 (by simp);simp only[yKz,hb0,true_and]
  clear hr;go_wp2_with fail;go_ret;exact⟨_,rfl,HG.out,k3w⟩
 by_cases h5:op=5;case pos=>
  subst h5;obtain⟨B,hB,hq⟩:=yD2 5 a b free kind s hi t lo up nn a b;have HB:Hid (B=true↔(free=false/\NoNd ⟨kind,s,hi,t,lo,up,nn⟩)):=by show B=true↔_;rw[hB];simp only[true_and]
  clear hB;cases B
  case false=>have HG:Hid (¬P):=λq=>Bool.noConfusion (HB.2 (yKb.1 (HP.1 q)).1);exact zR kw1
  case true=>
  have HF:Hid (P↔0<=a/\a<(conds:Int)):=by show P↔_;rw[HP.out,yKb];exact⟨λz=>⟨z.2.1,z.2.2.1⟩,λz=>⟨HB.1 rfl,z.1,z.2,hkb,hbn⟩⟩
  by_cases p0:0<=a;case neg=>
   have HG:Hid (¬P):=λz=>p0 (HF.1 z).1;go_wp2_with fail;go_ret;exact⟨_,rfl,by simp[HG.out,p0],kw1⟩
  by_cases p1:a<(conds:Int);case neg=>
   have HG:Hid (¬P):=λz=>p1 (HF.1 z).2;go_wp2_with fail;go_ret;exact⟨_,rfl,by simp[HG.out,p0,p1],kw1⟩
  have HG:Hid P:=HF.2 ⟨p0,p1⟩;go_wp2_with fail;go_ret;exact⟨_,rfl,by simp[HG.out,p0,p1],kw1⟩
 by_cases h6:op=6;case pos=>
  subst h6;obtain⟨B,hB,hq⟩:=yD2 6 a b free kind s hi t lo up nn 0 b;have HB:Hid (B=true↔(a=0/\free=false/\NoNd ⟨kind,s,hi,t,lo,up,nn⟩)):=by show B=true↔_;rw[hB];simp only[true_and]
  clear hB;cases B
  case false=>
   have HG:Hid (¬P):=λq=>by have z:=yKa.1 (HP.1 q);exact Bool.noConfusion (HB.2 ⟨z.2.1,z.1⟩)
   exact zR kw1
  case true=>
  have HG:Hid P:=HP.2 (yKa.2 ⟨(HB.1 rfl).2,(HB.1 rfl).1,hkb,hbn⟩);exact zR kw1
 by_cases h2:2<=op/\op<=4;case pos=>
  obtain⟨B,hB,hq⟩:=yD2 op a b free kind s hi t lo up nn 0 0;have HG:Hid (B=true↔P):=by show B=true↔P;rw[hB,HP.out,yK h1 h5 h6];exact⟨λz=>⟨h2,z.2.2,z.1,z.2.1⟩,λz=>⟨z.2.2.1,z.2.2.2,z.2.1⟩⟩
  clear hB;have h3:op=2∨op=3∨op=4:=qo
  clear h1 h5 h6 h2;rcases h3 with rfl|rfl|rfl;all_goals go_wp2_with fail
  all_goals go_ret
  all_goals exact⟨_,rfl,HG.out,kw1⟩
 have HG:Hid (¬P):=λq=>h2 ((yK h1 h5 h6).1 (HP.1 q)).1;have h22:¬op=2:=qo
 have h23:¬op=3:=qo
 have h24:¬op=4:=qo
 clear h2;exact zR kw1
variable {ds':List Int}
theorem yY0 (h:note ds j d=some ds') (hd:¬d=0):ds'[j]?=some d/\∀(i:Nat) (e:Int),ds[i]?=some e->¬e=0->ds'[i]?=some e:=by
 unfold note at h;cases hj:ds[j]? with
 |none=>rw[hj]at h;cases h
 |some e0=>
  rw[hj]at h;simp only at h;split at h
  .rename_i hc;obtain rfl:=Option.some.inj h;have hl:=qf hj;refine⟨by rw[getElem?_set_self hl],λi e hi he=>?_⟩;by_cases q:j=i
   .subst q;rw[hj]at hi;obtain rfl:=Option.some.inj hi;rw[getElem?_set_self hl];rcases hc with z|z
    .exact absurd z he
    .rw[z]
   .rw[getElem?_set_ne q];exact hi
  .cases h
theorem yMa (hd:¬d=0):∀(js:List Nat) {ds ds':List Int},yB1 d js ds=some ds'->(∀j∈js,ds'[j]?=some d)/\∀(i:Nat) (e:Int),ds[i]?=some e->¬e=0->ds'[i]?=some e
 | [],_,_,h=>by obtain rfl:=Option.some.inj h;exact⟨λj hj=>by simp at hj,λi e hi _=>hi⟩
 |j::js,ds,ds',h=>by
  simp only[yB1,Option.bind_eq_some_iff]at h
  obtain⟨d1,h1,h2⟩:=h
  obtain⟨a1,a2⟩:=yY0 h1 hd
  obtain⟨b1,b2⟩:=yMa hd js h2
  refine⟨λi hi=>?_,λi e hi he=>b2 i e (a2 i e hi he) he⟩
  rcases mem_cons.1 hi with rfl|q
  .exact b2 _ _ a1 hd
  .exact b1 i q
variable {x:Ix}
theorem yPc (h:yC2 ds k x=some ds'):∃e,ds[k]?=some e/\least x.op<=e/\e+more x.op<=250/\(∀j∈ways k x,ds'[j]?=some (e+more x.op))/\∀(i:Nat) (e:Int),ds[i]?=some e->¬e=0->ds'[i]?=some e:=by
 unfold yC2 at h;cases hj:ds[k]? with
 |none=>rw[hj]at h;cases h
 |some e=>
  rw[hj]at h;simp only at h;split at h
  .cases h
  .rename_i hc;have hm:¬e+more x.op=0:=by unfold least more at hc;unfold more;split at hc<;>split at hc<;>simp_all<;>omega
   obtain⟨a,b⟩:=yMa hm _ h;exact⟨e,rfl,qo,qo,a,b⟩
theorem yQu {xs:List Ix}:∀(m:Nat) {ds ds':List Int},yC6 xs k=some ds->yC6 xs (k+m)=some ds'->∀(i:Nat) (e:Int),ds[i]?=some e->¬e=0->ds'[i]?=some e
 |0,ds,ds',h,h',i,e,hi,he=>by rw[Nat.add_zero,h]at h';obtain rfl:=Option.some.inj h';exact hi
 |m+1,ds,ds',h,h',i,e,hi,he=>by
  have h9:=h'
  simp only[yC6,Option.bind_eq_some_iff]at h9
  obtain⟨d1,h1,x,hx,h2⟩:=h9
  obtain⟨_,_,_,_,_,b⟩:=yPc h2
  exact b i e (yQu m h h1 i e hi he) he
theorem yIz {l:List Ix} {conds:Nat} (h:yBe l cnt conds):∃d,yUc l d:=by
 obtain⟨ds,hf,hl⟩:=h.2.2.2.2.2;have a2:∀(k:Nat) a0,k<=l.length->yC6 l k=some a0->∀(i:Nat) (e:Int),a0[i]?=some e->¬e=0->ds[i]?=some e:=λk a0 hk h1=>
  yQu (l.length-k) h1 (by rw[Nat.add_sub_cancel' hk];exact hf)
 refine⟨λk=>((ds[k]?).getD 0).toNat,?_,?_,λk x hx h1=>?_⟩
 .have:=a2 0 _ (zero_le _) rfl 0 1 rfl qo;simp[this]
 .simp[hl]
 .have hk:=qf hx;obtain⟨a0,a4⟩:∃a0,yC6 l k=some a0:=Option.ne_none_iff_exists'.1 (yHm h qo);obtain⟨a1,a3⟩:∃a1,yC6 l (k+1)=some a1:=Option.ne_none_iff_exists'.1 (yHm h qo);rw[yD3 a4 hx]at a3;obtain⟨e,he,h2,h3,h4,_⟩:=yPc a3;have a7:yC6 l (k+1)=some a1:=by rw[yD3 a4 hx];exact a3
  have e1:1<=e:=by unfold least at h2;split at h2<;>omega
  have a5:=a2 k a0 qo a4 k e he qo;have ev:(((ds[k]?).getD 0).toNat:Int)=e:=by rw[a5];simp;omega
  rw[ev];refine⟨h2,h3,λj hj=>?_⟩;have hm:1<=e+more x.op:=by unfold least at h2;unfold more;split at h2<;>split<;>(try split)<;>omega
  have a6:=a2 (k+1) a1 qo a7 j _ (h4 j hj) qo;refine⟨by rw[a6];simp;omega,?_⟩;have hg:=yC3 h hx;unfold ways at hj;rcases hg with⟨ho,_,_,_⟩|⟨ho,_,_,_,q1,q2⟩|⟨ho,_,_,q1,q2⟩|⟨ho,_,_,_⟩
  .rw[if_neg qo,if_neg qo]at hj;simp at hj;omega
  .rw[if_pos ho]at hj;simp at hj;rcases hj with q|q<;>omega
  .rw[if_neg qo,if_pos ho]at hj;simp at hj;omega
  .rw[if_neg qo,if_neg qo]at hj;simp at hj;omega
theorem yW0 (e:Nd) (w:World):(xf 120 #[e.v] w (yTk e.kind):Prop):=by
 go_enter func120,ntmps120;go_wp2_with fail;all_goals go_ret
 all_goals exact⟨by(have e0:yTk e.kind=(e.kind==11 || e.kind==12 || e.kind==13):=by simp only[yTk,Bool.decide_or,Bool.or_assoc];rfl);rw[e0];simp_all,qB⟩
variable {α:Type} {sz ty:Nat}
theorem yE {f:α->List Value} {ops:Array Oper} (hf:∀x,(f x).length=sz) (w:World) (hgd:oo.guard=none) s x (sty:Nat)
  (ho:oo.op=.call {callee:=.builtin .append,args:=#[s,x],argTypes:=#[sty,sty]}) (hst:prog.underlying sty=some (.slice ty)) {z:Value} {bytes:Nat} (hin:(prog.info? ty).map (λi=>(i.zero,i.size,i.bytes))=some (some z,sz,bytes)) (hz:z.cells.size=sz) (hsz:0<sz) (hby:bytes<=1000)
  (h1:∀x,∀u∈f x,u.oneCell'=true)
  (base g cp n b cx:Nat) (fs:List α) (e:α) (hs:a.eval s=(xg g n cp)) (hx:a.eval x=(xg b 1 cx)) (hn:n=fs.length) (hO:OwnG f sz ty w base g cp fs)
  (hc:∀j u,(f e)[j]?=some u->(xk w b j u:Prop)) (hlen:fs.length<=1000000) (hbase:base<=w.heap.size)
  (h:∀g' cp' w',OwnG f sz ty w' base g' cp' (fs++ [e])->w.grownBy w' (some g)->(g'=g∨g'=w.heap.size)->K (a.put oo.dst (xg g' (n+1) cp')) w'):if Region.wanted oo (yielded ops a.tmps)=true then Oper.wp prog oo a w K Q else E:=by
 subst hn;obtain⟨i,hi,a3,a2,a1⟩:=info_parts hin;refine step_append_lies w hgd s x sty ho base ty i _ sz bytes hst hi a3 a2 a1 hz hsz (xg g fs.length cp) fs.length (fs.flatMap f) hs hO (xd b 0) 1 cx (f e) hx (by rw[hf];omega) (λj u hu=>by rw[Addr.add_mid,Nat.zero_add];exact hc j u hu) (h1 e) (by decide) ?_ ?_ hbase w rfl ?_
 .unfold maxLen;omega
 .have:=Nat.mul_le_mul (show fs.length+1<=1000001 by omega) hby;omega
 .intro g' cp' w' hO' a4 a0 a5;refine h g' cp' w' ?_ a4 ?_
  .exact xAm
  .simp[Value.ownBlock]at a0;rcases a0 with q|q
   .exact .inl q.symm
   .exact .inr q
structure LkG where
 w:World
 l:List Ix
 bI:Nat
 oI:Nat
 cI:Nat
 cnt:Int
 c:Ent
 conds:List Bool
 d:Nat->Nat
 cs0:List Ctr
 b0:Nat
 gc:Nat
 cpc:Nat
 ca:Option Addr
 N:Nat
 nk:Nat
 nC:Nat
structure LkM (G:LkG) (m:List It) (g cp:Nat) (cs:List Ctr) (wr:World):Prop where
 blk:yA wr G.w 32 2 G.w [.slice (some ⟨G.bI,G.oI,none⟩) G.N G.cI,xi G.cnt]
 cel:yA wr G.w 70 5 (G.w+1) G.c.five
 res:yA wr G.w 115 4 (G.w+1+1) (yBl noH).four
 stk:xId wr G.w g cp m
 gne:G.w.heap.size+1+1<g
 ctr:yF0 wr G.b0 G.gc G.cpc cs
 gcl:G.gc<G.w.heap.size
 bIl:G.bI<G.w.heap.size/\¬G.bI=G.gc
 ins:yB5 wr G.bI G.oI G.l
 cnd:∀(i:Nat) (b:Bool),G.conds[i]?=some b->∃bc oc,G.ca=some ⟨bc,oc,none⟩/\xk wr bc (oc+i) b/\bc<G.w.heap.size/\¬bc=G.gc
 chg:Chg (λk=>k=G.gc) G.w wr
 len:cs.length=G.nk
 cb:∀k∈cs,0<=k.count/\k.count<=1000
def LkL (G:LkG) (at_:Nat) (m:List It) (cs:List Ctr):Prop:=
 m.length=G.d at_/\at_<=G.N/\∀r,LkR pfxB G.l G.c G.conds ⟨at_,m.reverse,cs⟩ r->LkR pfxB G.l G.c G.conds ⟨0,[newI],G.cs0⟩ r
variable {G:LkG} {m m':List It} {cs cs':List Ctr}
theorem LkL.next {at_:Nat} (h:LkL G at_ m cs) (hD:yUc G.l G.d) (hN:G.N=G.l.length) (h1:1<=m.length) (hx:G.l[at_]?=some x)
  (hst:stepL pfxB G.c G.conds x ⟨at_,m.reverse,cs⟩=⟨j,m'.reverse,cs'⟩) (hj:j∈ways at_ x) (hl:(m'.length:Int)=m.length+more x.op):
  LkL G j m' cs'/\at_<j/\j<=G.N/\1<=m'.length/\m'.length<=250:=by
 obtain⟨a,b,c⟩:=hD.step at_ x hx (by rw[<-h.1];exact h1);obtain⟨e1,e2,e3⟩:=c j hj;have hm:1<=(m.length:Int)+more x.op:=by rw[h.1];unfold least at a;unfold more;split at a<;>split<;>(try split)<;>omega
 refine⟨⟨qw h.1,qo,λr hr=>h.2.2 r (.step hx (by rw[hst];exact hr))⟩,e2,qo,qo,qw h.1⟩
theorem LkL.least {at_:Nat} (h:LkL G at_ m cs) (hD:yUc G.l G.d) (h1:1<=m.length) (hx:G.l[at_]?=some x):least x.op<=(m.length:Int):=by obtain⟨a,_,_⟩:=hD.step at_ x hx (by rw[<-h.1];exact h1);rw[h.1];exact a
def LkP (G:LkG) (e:Ending) (w':World):Prop:=
 ∃(i:It) (cs:List Ctr),LkR pfxB G.l G.c G.conds ⟨0,[newI],G.cs0⟩ (i,cs)/\e=.returned (.tuple #[i.v,xg G.gc G.nk G.cpc])/\cs.length=G.nk/\yF0 w' G.b0 G.gc G.cpc cs/\(∀k∈cs,0<=k.count/\k.count<=1000)/\Chg (λk=>k=G.gc) G.w w'
variable {W:World}
theorem LkM.on {g:Nat} (h:LkM G m g cp cs wr) (hb:Below wr wr W):LkM G m g cp cs W:=by
 have hs:=h.chg.size
 exact {h with
  blk:=h.blk.below hb,cel:=h.cel.below hb,res:=h.res.below hb,stk:=h.stk.below hb,ctr:=h.ctr.below hb
  ins:=h.ins.below hb (qw h.bIl)
  cnd:=λi b hi=>by
   obtain⟨bc,oc,h1,h2,h3,h4⟩:=h.cnd i b hi
   exact⟨bc,oc,h1,((Chg.of_below hb (S:=λ_=>False)).cell (p:=(xd bc (oc+i))) (show bc<_ by omega) (λq=>q)).trans h2,h3,h4⟩
  chg:=h.chg.trans (Chg.of_below hb)}
theorem LkM.grow {g g':Nat} (h:LkM G m g cp cs W) (hO:xId w' G.w g' cp' m') (hg:G.w.heap.size+1+1<g') (hc:Chg (λk=>k=g) W w'):LkM G m' g' cp' cs w':=by
 have hs:=h.chg.size;have h0:=h.gne;have h1:=h.gcl;have h2:=h.bIl
 exact {h with
  blk:=h.blk.chg hc qo,cel:=h.cel.chg hc qo,res:=h.res.chg hc qo,stk:=hO,gne:=hg,ctr:=h.ctr.chg hc (by omega)
  ins:=h.ins.chg hc (by omega) (by omega)
  cnd:=λi b hi=>by
   obtain⟨bc,oc,h1,h2,h3,h4⟩:=h.cnd i b hi
   exact⟨bc,oc,h1,(hc.cell (p:=(xd bc (oc+i))) (show bc<_ by omega) (by show¬bc=g;omega)).trans h2,h3,h4⟩
  chg:=h.chg.absorb hc (λj q=>.inr (by omega))}
theorem LkM.side {g:Nat} (h:LkM G m g cp cs W) (hB:G.w.heap.size+1+1<B/\¬B=g) (hc:Chg (λk=>k=B) W w'):LkM G m g cp cs w':=by
 have hs:=h.chg.size;have h1:=h.gcl;have h2:=h.bIl
 exact {h with
  blk:=h.blk.chg hc qo,cel:=h.cel.chg hc qo,res:=h.res.chg hc qo,stk:=h.stk.chg hc (λq=>hB.2 q.symm),ctr:=h.ctr.chg hc (by omega)
  ins:=h.ins.chg hc (by omega) (by omega)
  cnd:=λi b hi=>by
   obtain⟨bc,oc,h1,h2,h3,h4⟩:=h.cnd i b hi
   exact⟨bc,oc,h1,(hc.cell (p:=(xd bc (oc+i))) (show bc<_ by omega) (by show¬bc=B;omega)).trans h2,h3,h4⟩
  chg:=h.chg.absorb hc (λj q=>.inr (by omega))}
variable {i:It} {W':World}
theorem yEo {i':It} (h:yA W base ty 4 B i.four) (hW:W'=setCs W B 0 i'.four):yA W' base ty 4 B i'.four/\Chg (λk=>k=B) W W':=by refine⟨?_,by rw[hW];exact yAl (S:=λk=>k=B) B rfl _ _ _⟩;have:=h.setCs i'.four;rw[hW];exact this
theorem yX2 (i:It) (c:Ent):(yB i c).five= [.string c.row,.string c.fam,.string c.qual,.int .u64 c.ts,.string (yB i c).val]:=by unfold yB;split<;>rfl
theorem LkM.ctrs {g:Nat} (h:LkM G m g cp cs W) (hO:yF0 w' G.b0 G.gc G.cpc cs') (hl:cs'.length=G.nk) (hcb:∀k∈cs',0<=k.count/\k.count<=1000) (hc:Chg (λk=>k=G.gc) W w'):LkM G m g cp cs' w':=by
 have hs:=h.chg.size;have h0:=h.gne;have h1:=h.gcl;have h2:=h.bIl
 exact {h with
  blk:=h.blk.chg hc qo,cel:=h.cel.chg hc qo,res:=h.res.chg hc (by omega),stk:=h.stk.chg hc (by omega),ctr:=hO
  ins:=h.ins.chg hc (by omega) h2.2
  cnd:=λi b hi=>by
   obtain⟨bc,oc,h1,h2,h3,h4⟩:=h.cnd i b hi
   exact⟨bc,oc,h1,(hc.cell (p:=(xd bc (oc+i))) (show bc<_ by omega) h4).trans h2,h3,h4⟩
  chg:=h.chg.trans hc
  len:=hl
  cb:=hcb}
theorem xF {n:Nd} {k:Ctr} {c:Ent} (hk:0<=k.count/\k.count<=1000) (hn:n.n<=1000):0<=(yCh n k c).2.count/\(yCh n k c).2.count<=1000:=by
 have he:0<=(yC4 n k c).count/\(yC4 n k c).count<=1000:=by
  unfold yC4;split
  .exact hk
  .simp
 unfold yCh;split
 .simp only;omega
 .exact he
variable {n:Nat}
theorem yDr (h:n+1=m.length) (hi:m[n]?=some i):m.reverse=i::(m.take n).reverse:=by
 have:m=m.take n++ [i]:=by
  conv=>lhs;rw[<-take_append_drop n m]
  congr 1;rw[drop_eq_getElem_cons qo,drop_eq_nil_of_le qo];rw[getElem?_eq_getElem qo]at hi;rw[Option.some.inj hi]
 conv=>lhs;rw[this]
 rw[reverse_append];rfl
variable {j:It}
theorem yUf (h:n+1+1=m.length) (hi:m[n+1]?=some i) (hj:m[n]?=some j):m=m.take n++ [j,i]:=by
 conv=>lhs;rw[<-take_append_drop n m]
 congr 1;rw[getElem?_eq_getElem qo]at hi hj;rw[drop_eq_getElem_cons qo,drop_eq_getElem_cons qo,drop_eq_nil_of_le qo,Option.some.inj hi,Option.some.inj hj]
theorem yNm (h:n+1+1=m.length) (hi:m[n+1]?=some i) (hj:m[n]?=some j):m.reverse=i::j::(m.take n).reverse:=by have:=congrArg List.reverse (yUf h hi hj);rw[reverse_append]at this;exact this
theorem yPb (h:n+1+1=m.length) (hi:m[n+1]?=some i) (hj:m[n]?=some j):(m.set (n+1) j).set n i=m.take n++ [i,j]:=by
 have hm:=yUf h hi hj;have ht:(m.take n).length=n:=by rw[length_take];omega
 conv=>lhs;rw[hm]
 rw[set_append_right _ _ qo,ht,set_append_right _ _ qo,ht];simp
theorem yFm {c:Ent} {conds:List Bool} {at_:Nat} {st r:List It} (ho:x.op=1) (hr:st=i::r):stepL pfxB c conds x ⟨at_,st,cs⟩=⟨at_+1,(leafI pfxB x c i cs).1::r,(leafI pfxB x c i cs).2⟩:=by unfold stepL;rw[if_pos ho,hr]
theorem yVa {c:Ent} (ha:i.alive=true) (hck:¬cntK x.leaf.kind):
  leafI pfxB x c i cs=(if tstB x.leaf (yB i c)=true then⟨true,i.strip || (x.leaf.kind==3),i.hint⟩else yBl (if x.free=true then yB4 (pfxB x.leaf.s) x.leaf c else noH),cs):=by
 unfold leafI;rw[if_pos ha];simp only;rw[if_neg (show¬(x.leaf.kind=11∨x.leaf.kind=12∨x.leaf.kind=13)from hck)];rfl
theorem yP7 {c:Ent} {k:Ctr} (ha:i.alive=true) (hck:cntK x.leaf.kind) (hk:cs[x.a.toNat]?=some k):
  leafI pfxB x c i cs=(if(yCh x.leaf k c).1=true then⟨true,i.strip || (x.leaf.kind==3),i.hint⟩else yBl (if x.free=true then yB4 (pfxB x.leaf.s) x.leaf c else noH),cs.set x.a.toNat (yCh x.leaf k c).2):=by
 unfold leafI;rw[if_pos ha];simp only;rw[if_pos (show(x.leaf.kind=11∨x.leaf.kind=12∨x.leaf.kind=13)from hck),hk];rfl
theorem yNe (h:n+1=m.length) iz:(m.set n iz).reverse=iz::(m.take n).reverse:=by rw[yDr (i:=iz) (by rw[length_set];exact h) (by rw[getElem?_set_self qo])];congr 2;rw[List.take_set];exact set_eq_of_length_le (by rw[length_take];omega)
theorem yTg (l r:It) (w:World):(xf 157 #[l.v,r.v] w (yTh l r).v:Prop):=by
 obtain⟨la,ls,⟨lr,lt⟩⟩:=l;obtain⟨ra,rs,⟨rr,rt⟩⟩:=r;cases la
 .cases ra
  .obtain⟨H,hH⟩:=qE (yN7 ⟨lr,lt⟩ ⟨rr,rt⟩);have HL:Hid (∀wz,(xf 201 #[.agg #[xi lr,lt],.agg #[xi rr,rt]] wz (.agg #[xi H.rank,H.txt]):Prop)):=λwz=>by rw[hH];exact yP5 ⟨lr,lt⟩ ⟨rr,rt⟩ wz
   have HJ:Hid (yTh ⟨false,ls,⟨lr,lt⟩⟩ ⟨false,rs,⟨rr,rt⟩⟩=⟨false,false,H⟩):=by show _=_;rw[hH];rfl
   obtain⟨W0,a2⟩:=qE (xw ((w.alloc (Obj.cells #[false,ls,xi lr,lt] 181)).alloc (Obj.cells #[false,rs,xi rr,rt] 181)) #[false,false,xi 0,xe] 181:World);have H0:Hid (yA W0 w 181 4 (w+2) [false,false,xi 0,xe]/\Below w w W0):=by
    have z:((w.alloc (Obj.cells #[false,ls,xi lr,lt] 181)).alloc (Obj.cells #[false,rs,xi rr,rt] 181)).heap.size=w.heap.size+2:=by simp
    refine⟨?_,by rw[a2];exact up3 w _ _ _⟩;rw[a2,<-z];exact yAa _ _ qo rfl
   rw[HJ.out];clear hH;go_enter func157,ntmps157;go_wp2_with fail;refine(HL.out _).mono ?_;rintro e w1 ⟨rfl,a1⟩;rw[<-a2]at a1;obtain⟨V,hV⟩:=qE (setCs w1 (w+1+1) 0 (It.four ⟨false,false,H⟩):World);have a0:=H0.1.below a1;obtain⟨x0,x1,x2,x3⟩:=a0.c4;have fz:=a0.frozen;have hc:Chg (λq=>q=w.heap.size+2) w1 V:=by rw[hV];exact yAl (S:=λq=>q=w.heap.size+2) _ rfl _ _ _
   have a3:yA V w 181 4 (w+2) (It.four ⟨false,false,H⟩):=by rw[hV];exact yBu (v:=(xg (w+2) 1 1)) rfl ⟨1,rfl⟩ _ 0 w1 _ a0
   obtain⟨v0,v1,v2,v3⟩:=a3.c4;have HB:Hid (Below w w V):=by have h1:=H0.2.trans (a1.mono H0.2.size);exact Chg.below h1 hc h1.size (λq e=>qo)
   simp only[setCs,Nat.reduceAdd]at hV;clear a1 a0 a3 hc a2;go_wp2_with fail;rw[<-hV];clear hV;exact bodyPost_ret (v:=.agg #[false,false,xi H.rank,H.txt]) (by simp[results,results157,go_sem,v0,v1,v2,v3]) rfl ⟨rfl,HB.out⟩
  .go_enter func157,ntmps157;go_wp2_with fail;exact bodyPost_ret (v:=.agg #[true,rs,xi rr,rt]) (by simp[results,results157,go_sem]) rfl ⟨rfl,zBl⟩
 .go_enter func157,ntmps157;go_wp2_with fail;exact bodyPost_ret (v:=.agg #[true,ls,xi lr,lt]) (by simp[results,results157,go_sem]) rfl ⟨rfl,zBl⟩
section
theorem yIn {f:α->List Value} {ops:Array Oper} {rest:List Oper} {o:Oper} (hf:∀x,(f x).length=sz) (w:World) (hgd:o.guard=none) s x (sty:Nat)
  (ho:o.op=.call {callee:=.builtin .append,args:=#[s,x],argTypes:=#[sty,sty]}) (hst:prog.underlying sty=some (.slice ty)) {z:Value} {bytes:Nat} (hin:(prog.info? ty).map (λi=>(i.zero,i.size,i.bytes))=some (some z,sz,bytes)) (hz:z.cells.size=sz) (hsz:0<sz) (hby:bytes<=1000)
  (h1:∀x,∀u∈f x,u.oneCell'=true)
  (base:Nat) (v:Value) (b cx:Nat) (fs:List α) (e:α) (hs:a.eval s=v) (hx:a.eval x=(xg b 1 cx)) (hO:w.ownsRow base ty sz v fs.length (fs.flatMap f))
  (hc:∀j u,(f e)[j]?=some u->(xk w b j u:Prop)) (hlen:fs.length<=1000000) (hbase:base<=w.heap.size)
  (h:∀g' cp' w',OwnG f sz ty w' base g' cp' (fs++ [e])->w.grownBy w' v.ownBlock->(v.ownBlock=some g'∨g'=w.heap.size)->wpList prog ops Q rest (a.put o.dst (xg g' (fs.length+1) cp')) w'):wpList prog ops Q (o::rest) a w:=by
 obtain⟨i,hi,a2,a1,a0⟩:=info_parts hin;refine wpList_append_own_at w hgd s x sty ho base ty i _ sz bytes hst hi a2 a1 a0 hz hsz v fs.length (fs.flatMap f) hs hO (xd b 0) 1 cx (f e) hx (by rw[hf];omega) (λj u hu=>by rw[Addr.add_mid,Nat.zero_add];exact hc j u hu) (h1 e) ?_ ?_ hbase ?_
 .unfold maxLen;omega
 .have:=Nat.mul_le_mul (show fs.length+1<=1000001 by omega) hby;omega
 .intro v' w' hO' a4 a3 a5;rcases hO'.2 with⟨h0,_⟩|⟨g',a6,cur,hv,_,_,hn,a7,_,_⟩
  .have:=(a3.1 h0).2;cases this
  .subst hv;refine h g' a6 w' ?_ a4 ?_
   .exact xAm
   .rcases a5 with q|q
    .exact .inl q.symm
    .simp[Value.ownBlock]at q;exact .inr q
structure MchG where
 w0:World
 T:Nat->Prop
 S:Nat->Prop
 TI:World->Prop
 p:Nat
 base:Nat
 g:Nat
 cap:Nat
 nk:Nat
 mb:Nat
theorem Tryz.infoIti:(prog.info? 181).map (λi=>(i.zero,i.size,i.bytes))=some (some (yBl noH).v,4,32):=qk
abbrev xCd (w:World) (base g cap:Nat) (es:List It):Prop:=OwnG It.four 4 181 w base g cap es
abbrev yFj (w:World) (base g cap:Nat) (es:List Ctr):Prop:=OwnG Ctr.kc 4 240 w base g cap es
def RowS (w:World) (base:Nat) (v:Value) (m:List It):Prop:=w.ownsRow base 181 4 v m.length (m.flatMap It.four)
theorem RowS.cases {v:Value} (h:RowS w base v m):(v=xh/\m= [])∨∃g cp,v=(xg g m.length cp)/\xCd w base g cp m:=by
 rcases h.2 with⟨h0,h1⟩|⟨g',a0,cur,hv,rest⟩
 .refine .inl ⟨h0,?_⟩;have:m.length=0:=h1;exact length_eq_zero_iff.1 this
 .subst hv;exact .inr ⟨g',a0,rfl,h⟩
def LfQ (G:MchG) (x:Ix) (c:Ent) (i:It) (ks:List Ctr) (W:World) (e:Ending) (w':World):Prop:=
 e=.returned (leafI pfxB x c i ks).1.v/\Hid (yFj w' G.base G.g G.cap (leafI pfxB x c i ks).2/\(∀k∈(leafI pfxB x c i ks).2,CtK k)/\G.TI w'/\Chg (λq=>q=G.g∨G.T q) W w')
def xIf (G:MchG) (l:List Ix):Prop:=∀(at_:Nat) (x:Ix) (i:It) (c:Ent) (ks:List Ctr) (W:World),l[at_]?=some x->x.op=1->Chg G.S G.w0 W->G.TI W->yFj W G.base G.g G.cap ks->ks.length=G.nk->(∀k∈ks,CtK k)->¬c.row=⟨#[]⟩->
 Calls prog 156 #[.pointer (some ⟨G.p,at_*13,none⟩),i.v,c.c] W (LfQ G x c i ks W)
structure MaOk (G:MchG) (l:List Ix):Prop where
 stp:∀(at_:Nat) (x:Ix),l[at_]?=some x->xk G.w0 G.p (at_*13) (xi x.op)/\xk G.w0 G.p (at_*13+1) (xi x.a)/\xk G.w0 G.p (at_*13+2) (xi x.b)
 pl:G.p<G.w0.heap.size
 pS:¬G.S G.p
 ti:∀(S':Nat->Prop) (W W':World),G.TI W->Chg S' W W'->(∀q,S' q->q=G.g∨q=G.mb∨G.w0.heap.size<=q)->G.TI W'
 leaf:xIf G l
 gS:G.S G.g
 mS:G.S G.mb
 tS:∀q,G.T q->G.S q
 gl:G.g<G.w0.heap.size
 ml:G.mb<G.w0.heap.size
 tl:∀q,G.T q->q<G.w0.heap.size
 gm:¬G.g=G.mb
 tg:¬G.T G.g
 tm:¬G.T G.mb
structure McI (G:MchG) (N:Nat) (ks:List Ctr) (v:Value) (W:World):Prop where
 chg:Chg G.S G.w0 W
 ti:G.TI W
 ctr:yFj W G.base G.g G.cap ks
 len:ks.length=G.nk
 cb:∀k∈ks,CtK k
 box:yA W G.base 230 3 G.mb [xg G.p N N,xg G.g G.nk G.cap,v]
 stk:∃m,RowS W G.w0 v m
structure MkM (G:MchG) (L:LkG) (v0:Value) (m:List It) (gs cp:Nat) (ks:List Ctr) (wr:World):Prop where
 cel:yA wr L.w 70 5 L.w L.c.five
 res:yA wr L.w 181 4 (L.w+1) (yBl noH).four
 stk:xCd wr G.w0 gs cp m
 gsn:L.w.heap.size+1<gs∨(v0.ownBlock=some gs/\gs<L.w.heap.size)
 ti:G.TI wr
 ctr:yFj wr G.base G.g G.cap ks
 len:ks.length=G.nk
 cb:∀k∈ks,CtK k
 box:yA wr G.base 230 3 G.mb [xg G.p L.N L.N,xg G.g G.nk G.cap,v0]
 cnd:∀(i:Nat) (b:Bool),L.conds[i]?=some b->∃bc oc,L.ca=some ⟨bc,oc,none⟩/\xk wr bc (oc+i) b/\bc<L.w.heap.size/\¬bc=G.g/\¬G.T bc/\¬v0.ownBlock=some bc
 chg:Chg (λk=>k=G.g∨G.T k∨v0.ownBlock=some k) L.w wr
structure MaS (G:MchG) (L:LkG) (v0:Value):Prop where
 ok:MaOk G L.l
 chg:Chg G.S G.w0 L.w
 v0:∀k,v0.ownBlock=some k->G.w0.heap.size<=k/\k<L.w.heap.size
section
variable {G:MchG} {L:LkG} {v0:Value} {m:List It} {gs cp:Nat} {ks:List Ctr} {wr:World}
theorem MkM.all (h:MkM G L v0 m gs cp ks wr) (hS:MaS G L v0):Chg G.S G.w0 wr:=
 hS.chg.absorb h.chg (λj q=>by
  rcases q with q|q|q
  .subst q;exact .inl hS.ok.gS
  .exact .inl (hS.ok.tS _ q)
  .exact .inr (hS.v0 _ q).1)
theorem MkM.step (h:MkM G L v0 m gs cp ks wr) (hS:MaS G L v0) {at_:Nat} (hx:L.l[at_]?=some x):xk wr G.p (at_*13) (xi x.op)/\xk wr G.p (at_*13+1) (xi x.a)/\xk wr G.p (at_*13+2) (xi x.b):=by obtain⟨a,b,c⟩:=hS.ok.stp at_ x hx;have hc:=h.all hS;exact⟨by rw[hc.cell (p:=(xd G.p _)) hS.ok.pl hS.ok.pS];exact a,by rw[hc.cell (p:=(xd G.p _)) hS.ok.pl hS.ok.pS];exact b,by rw[hc.cell (p:=(xd G.p _)) hS.ok.pl hS.ok.pS];exact c⟩
theorem MkM.on (h:MkM G L v0 m gs cp ks wr) (hS:MaS G L v0) (hb:Below wr wr W):MkM G L v0 m gs cp ks W:=by
 have hs:=h.chg.size
 exact {h with
  cel:=h.cel.below hb,res:=h.res.below hb,stk:=h.stk.below hb,ctr:=h.ctr.below hb,box:=h.box.below hb
  ti:=hS.ok.ti (λ_=>False) wr W h.ti (Chg.of_below hb) (λq z=>z.elim)
  cnd:=λi b hi=>by
   obtain⟨bc,oc,h1,h2,h3,h4⟩:=h.cnd i b hi
   exact⟨bc,oc,h1,((Chg.of_below hb (S:=λ_=>False)).cell (p:=(xd bc (oc+i))) (show bc<_ by omega) (λq=>q)).trans h2,h3,h4⟩
  chg:=h.chg.trans (Chg.of_below hb)}
theorem MkM.grow {gs':Nat} (h:MkM G L v0 m gs cp ks wr) (hS:MaS G L v0) (hO:xCd w' G.w0 gs' cp' m') (hg:gs'=gs∨L.w.heap.size+1<gs') (hc:Chg (λk=>k=gs) wr w'):MkM G L v0 m' gs' cp' ks w':=by
 have hs:=h.chg.size;have hw:=hS.chg.size;have a0:=h.stk.lt;have h0:=h.gsn;have ok:=hS.ok;have h9:=ok.gl;have h8:=ok.ml
 exact {h with
  cel:=h.cel.chg hc qo,res:=h.res.chg hc qo,stk:=hO,ctr:=h.ctr.chg hc (by omega),box:=h.box.chg hc (by omega)
  gsn:=by
   rcases hg with rfl|q
   .exact h0
   .exact .inl q
  ti:=ok.ti (λk=>k=gs) wr w' h.ti hc (λq z=>.inr (.inr (by omega)))
  cnd:=λi b hi=>by
   obtain⟨bc,oc,h1,h2,h3,h4,h5,h6⟩:=h.cnd i b hi
   refine⟨bc,oc,h1,(hc.cell (p:=(xd bc (oc+i))) (show bc<_ by omega) ?_).trans h2,h3,h4,h5,h6⟩
   show¬bc=gs
   intro q
   subst q
   rcases h0 with q|⟨q,_⟩
   .omega
   .exact h6 q
  chg:=h.chg.absorb hc (λj q=>by
   subst q
   rcases h0 with q|⟨q,_⟩
   .exact .inr (by omega)
   .exact .inl (.inr (.inr q)))}
variable {ks':List Ctr}
theorem MkM.leaf (h:MkM G L v0 m gs cp ks wr) (hS:MaS G L v0) (hO:yFj w' G.base G.g G.cap ks') (hl:ks'.length=ks.length) (hk:∀k∈ks',CtK k) (ht:G.TI w') (hc:Chg (λq=>q=G.g∨G.T q) wr w'):MkM G L v0 m gs cp ks' w':=by
 have hs:=h.chg.size;have hw:=hS.chg.size;have a1:=h.stk.lt;have ok:=hS.ok;have h9:=ok.gl;have h8:=ok.ml;have a0:∀k,G.w0.heap.size<=k->¬(k=G.g∨G.T k):=λk hk q=>by
  rcases q with q|q
  .omega
  .have:=ok.tl _ q;omega
 exact {h with
  cel:=h.cel.chg hc (a0 _ (by omega)),res:=h.res.chg hc (a0 _ (by omega)),stk:=h.stk.chg hc (a0 _ a1.1),ctr:=hO
  box:=h.box.chg hc (λq=>by
   rcases q with q|q
   .exact ok.gm q.symm
   .exact ok.tm q)
  len:=hl.trans h.len
  cb:=hk
  ti:=ht
  cnd:=λi b hi=>by
   obtain⟨bc,oc,h1,h2,h3,h4,h5,h6⟩:=h.cnd i b hi
   refine⟨bc,oc,h1,(hc.cell (p:=(xd bc (oc+i))) (show bc<_ by omega) ?_).trans h2,h3,h4,h5,h6⟩
   intro q
   rcases q with q|q
   .exact h4 q
   .exact h5 q
  chg:=h.chg.trans (hc.mono (λk q=>by
   rcases q with q|q
   .exact .inl q
   .exact .inr (.inl q)))}
end
def LooP (G:MchG) (L:LkG) (v0:Value) (e:Ending) (w':World):Prop:=
 ∃(i:It) (ks:List Ctr) (v:Value),LkR pfxB L.l L.c L.conds ⟨0,[newI],L.cs0⟩ (i,ks)/\e=.returned i.v/\McI G L.N ks v w'/\Chg (λq=>q=G.g∨q=G.mb∨G.T q∨v0.ownBlock=some q) L.w w'/\(v.ownBlock=v0.ownBlock∨∃k,v.ownBlock=some k/\L.w.heap.size<=k)
end
section
theorem yU7 {f:α->List Value} (hf:∀x,(f x).length=sz) (hsz:0<sz) (e:α) (z:Array Value) (hz:z.toList=f e) (n:Nat):(madeCells z (n*sz)).toList=(List.replicate n e).flatMap f:=by
 have a0:z.size=sz:=by rw[<-hf e,<-hz];simp
 apply ext_getElem?;intro k;by_cases hk:k<n*sz
 .have h1:k=(k/sz)*sz+k%sz:=by rw[Nat.mul_comm];exact(div_add_mod k sz).symm
  have h2:k%sz<sz:=mod_lt _ hsz;have h3:=(div_lt_iff_lt_mul hsz).2 hk;have h4:((List.replicate n e).flatMap f)[k]?=(f e)[k%sz]?:=by
   conv=>lhs;rw[h1]
   exact yFb hf _ (k/sz) e (by rw[getElem?_replicate,if_pos h3]) (k%sz) h2
  rw[h4,<-hz];have h5:k%sz<z.size:=qo
  have h7:=getElem!_pos z (k%sz) h5;simp[madeCells,hk,a0,h7,h5]
 .have h6:((List.replicate n e).flatMap f).length=n*sz:=by rw[yCk hf,length_replicate]
  have h8:(madeCells z (n*sz)).toList.length=n*sz:=by rw[Array.length_toList,size_madeCells]
  rw[getElem?_eq_none (by rw[h8];omega),getElem?_eq_none (by rw[h6];omega)]
theorem yGm {ops:Array Oper} (w:World) (hgd:oo.guard=none) l c (t:TypeId) (hop:oo.op=Op.makeSlice t l c)
  (base:Nat) (e:TypeId) (i:TypeInfo) (z:Value) (size:Nat) (h1:prog.underlying t=some (.slice e)) (h2:prog.info? e=some i) (h3:i.zero=some z) (h4:i.size=size)
  (kl kc:IntKind) (L C:Int) (n:Nat) (hl:a.eval l=.int kl L) (hc:a.eval c=.int kc C) (hL:L=(n:Int)) (hC:C=(n:Int)) (b2:i.bytes*n<=281474976710656) (b3:n<=maxLen) (b4:base<=w.heap.size)
  (hK:∀w',w'.ownsRow base e size (xg w n n) n (madeCells z.cells (n*size)).toList->w.grownBy w' none->w'.heap.size=w.heap.size+1->K (a.put oo.dst (xg w n n)) w'):if Region.wanted oo (yielded ops a.tmps)=true then Oper.wp prog oo a w K Q else E:=by
 have hw:Region.wanted oo (yielded ops a.tmps)=true:=by simp[Region.wanted,hgd]
 rw[if_pos hw];obtain⟨w',a0,r1,r2,r3⟩:∃w',(Instr.makeSlice t (.int kl (n:Int)) (.int kc (n:Int))).run prog w=.ok (xg w n n) w'/\w'.ownsRow base e size (xg w n n) n (madeCells z.cells (n*size)).toList/\w.grownBy w' none/\w'.heap.size=w.heap.size+1:=by
  obtain⟨w',a0,r1,r2⟩:=run_make_full (P:=prog) w base t e i z size h1 h2 h3 h4 kl kc n b2 b3 b4;refine⟨w',a0,r1,r2,?_⟩;subst h4;have a2:n<=9223372036854775807:=by unfold maxLen at b3;omega
  have a1:(i.bytes:Int)*(n:Int)<=281474976710656:=by
   have h:((i.bytes*n:Nat):Int)<=281474976710656:=qo
   rwa [Int.natCast_mul]at h
  have h9:=run_make (P:=prog) w t e i z h1 h2 h3 kl kc n n qo (Int.le_refl _) a1 qo;rw[a0]at h9;simp only[Result.ok.injEq]at h9;rw[h9.2];simp
 subst hL;subst hC;unfold Oper.wp;simp[execOp,hop,hl,hc,a0,Result.andThen];exact hK w' r1 r2 r3
structure LdG where
 w:World
 B:Nat
 l:List Ix
 N:Nat
 bI:Nat
 oI:Nat
 cI:Nat
 cnt:Int
 p:Nat
 g:Nat
 mb:Nat
 nk:Nat
 base:Nat
 Ts0:List Tt
 N0:Nat
structure StpD (lo g:Nat) (Ts:List Tt) (L:List Value) (at_:Nat) (x:Ix) (W:World):Prop where
 ten:∀(j:Nat) (v:Value),x.ten[j]?=some v->L[at_*13+j]?=some v
 leaf:x.op=1->(cntK x.leaf.kind/\∃t,(lo<=t/\∀X∈Ts,t<X.lo∨X.t<t)/\yA W lo 283 2 t [.pointer (some ⟨g,x.a.toNat*4,none⟩),xi x.leaf.n]/\L[at_*13+11]?=some (ofT (cntF x.leaf.kind) t)/\L[at_*13+12]?=some (anyV (cntR x.leaf.kind)))∨
  (tstK x.leaf.kind/\∃T∈Ts,T.n=x.leaf/\L[at_*13+11]?=some (xBw x.leaf T.mp)/\L[at_*13+12]?=some (hntV x.leaf.kind T.t))
variable {Ts Ts':List Tt} {L:List Value}
theorem StpD.on {lo g:Nat} {L':List Value} {at_:Nat} {S:Nat->Prop} (h:StpD lo g Ts L at_ x W) (hT:∀X∈Ts,X∈Ts') (hnw:∀X∈Ts',X∈Ts∨W.heap.size<=X.lo) (hL:∀j,j<13->L'[at_*13+j]?=L[at_*13+j]?) (hl:x.ten.length=11) (hc:Chg S W W') (hS:∀t vs,yA W lo 283 2 t vs->¬S t):StpD lo g Ts' L' at_ x W':=by
 refine⟨λj v hv=>?_,λho=>?_⟩
 .have:=qf hv;rw[hL j qo];exact h.ten j v hv
 .rcases h.leaf ho with⟨k,t,h1,h2,h3,h4⟩|⟨k,T,h1,h2,h3,h4⟩
  .exact .inl ⟨k,t,⟨h1.1,λX hX=>(hnw X hX).elim (h1.2 X) (λq=>.inl (qw h2.lt))⟩,h2.chg hc (hS t _ h2),by rw[hL 11 qo];exact h3,by rw[hL 12 qo];exact h4⟩
  .exact .inr ⟨k,T,hT T h1,h2,by rw[hL 11 qo];exact h3,by rw[hL 12 qo];exact h4⟩
structure LdJ (G:LdG) (k:Nat) (Ts:List Tt) (NM:Nat) (L:List Value) (wr:World):Prop where
 ldr:yA wr G.w 174 1 G.w [.map (some G.B)]
 blk:yA wr G.w 32 2 (G.w+1) [.slice (some ⟨G.bI,G.oI,none⟩) G.N G.cI,xi G.cnt]
 stp:yFi wr G.w G.p G.N L
 ctr:yFj wr G.w G.g G.nk (List.replicate G.nk newC)
 mch:yA wr G.w 230 3 G.mb [xg G.p G.N G.N,xg G.g G.nk G.nk,xh]
 map:MpA wr G.B NM Ts
 ts:TsA G.base Ts wr
 old:∀X∈G.Ts0,X∈Ts
 new:∀X∈Ts,(X∈G.Ts0/\X.t<G.w.heap.size)∨G.mb<X.lo
 ord:G.w.heap.size+1<G.p/\G.w.heap.size+1<G.g/\¬G.p=G.g/\G.p<G.mb/\G.g<G.mb
 done:∀(at_:Nat) (x:Ix),at_<k->G.l[at_]?=some x->StpD G.w G.g Ts L at_ x wr
 chg:Chg (λq=>q=G.B) G.w wr
structure LdO (G:LdG):Prop where
 B:G.B<G.base/\G.base<=G.w.heap.size/\¬1=G.B
 N:G.N=G.l.length
 Nl:G.N<=4000
 nk:(G.nk:Int)=G.cnt
 nkl:G.nk<=200
 ins:yB5 G.w G.bI G.oI G.l
 bI:G.bI<G.w.heap.size/\¬G.bI=G.B
 ok:∀x∈G.l,x.ok
 good:∀(k:Nat) (x:Ix),G.l[k]?=some x->x.op=1->yFk [x.leaf]/\(cntK x.leaf.kind->0<=x.a/\x.a<G.cnt)
 N0:G.N0<=5000000
section
variable {G:LdG} {k:Nat} {Ts:List Tt} {NM:Nat} {L:List Value} {wr W:World}
theorem LdJ.on (h:LdJ G k Ts NM L wr) (hb:Below wr wr W):LdJ G k Ts NM L W:=by
 have hc:Chg (λ_=>False) wr W:=Chg.of_below hb
 exact {h with
  ldr:=h.ldr.below hb,blk:=h.blk.below hb,stp:=yAh h.stp hc (λ_ _ q=>q),ctr:=h.ctr.below hb,mch:=h.mch.below hb
  map:=h.map.chg hc (λq=>q),ts:=h.ts.chg hc (λq z=>z.elim) (λq=>q)
  done:=λat_ x h1 h2=>(h.done at_ x h1 h2).on (λX hX=>hX) (λX hX=>.inl hX) (λj _=>rfl) rfl hc (λ_ _ _ q=>q)
  chg:=h.chg.trans (hc.mono (λq z=>z.elim))}
theorem LdJ.steps {L':List Value} (h:LdJ G k Ts NM L wr) (hO:LdO G) (hL:yFi W G.w G.p G.N L') (hc:Chg (λq=>q=G.p) wr W) (hd:∀(at_:Nat) (x:Ix),at_<k->G.l[at_]?=some x->∀j,j<13->L'[at_*13+j]?=L[at_*13+j]?):LdJ G k Ts NM L' W:=by
 have hs:=h.chg.size;have a0:=h.ord;have hT:∀X∈Ts,X.t<G.p∨G.p<X.lo:=λX hX=>by
  rcases h.new X hX with q|q
  .exact .inl qo
  .exact .inr qo
 have hB:=hO.B
 exact {h with
  ldr:=h.ldr.chg hc (λq=>yAb h.ldr h.stp qj _ rfl (by rw[q];rfl))
  blk:=h.blk.chg hc (λq=>yAb h.blk h.stp qj _ rfl (by rw[q];rfl))
  stp:=hL
  ctr:=yAh h.ctr hc (λq hq z=>yAb h.ctr h.stp qj _ hq (by rw[z];rfl))
  mch:=h.mch.chg hc (λq=>yAb h.mch h.stp qj _ rfl (by rw[q];rfl))
  map:=h.map.chg hc qo
  ts:=⟨λT hT'=>⟨(h.ts.at_ T hT').1.chg hc (λq hq z=>qw (hT T hT')) (qw h.ts.tabl),(h.ts.at_ T hT').2⟩,h.ts.apart,h.ts.tab.chg hc (qw h.ts.tabl),h.ts.tabl⟩
  done:=λat_ x h1 h2=>(h.done at_ x h1 h2).on (λX hX=>hX) (λX hX=>.inl hX) (hd at_ x h1 h2) rfl hc (λt vs hb q=>yAb hb h.stp qj _ rfl (by rw[q];rfl))
  chg:=h.chg.absorb hc (λq z=>.inr qo)}
theorem LdJ.next (h:LdJ G k Ts NM L wr) (hx:G.l[k]?=some x) (hd:StpD G.w G.g Ts L k x wr):LdJ G (k+1) Ts NM L wr:=
 {h with
  done:=λat_ y h1 h2=>by
   by_cases e:at_=k
   .subst e;rw[hx]at h2;cases h2;exact hd
   .exact h.done at_ y qo h2}
theorem LdJ.test {NM':Nat} (h:LdJ G k Ts NM L wr) (hO:LdO G) (hM:MpA W G.B NM' Ts') (hts:TsA G.base Ts' W) (ho:∀X∈Ts,X∈Ts') (hnw:∀X∈Ts',X∈Ts∨wr.heap.size<=X.lo) (hc:Chg (λq=>q=G.B) wr W):LdJ G k Ts' NM' L W:=by
 have hB:=hO.B;have a0:=h.ord;have a1:=h.mch.lt
 exact {h with
  ldr:=h.ldr.chg hc qo,blk:=h.blk.chg hc qo,stp:=yAh h.stp hc (λq hq z=>by simp[Value.ownBlock]at hq;omega),ctr:=h.ctr.chg hc qo,mch:=h.mch.chg hc qo
  map:=hM
  ts:=hts
  old:=λX hX=>ho X (h.old X hX)
  new:=λX hX=>by
   rcases hnw X hX with q|q
   .exact h.new X q
   .exact .inr qo
  done:=λat_ x h1 h2=>(h.done at_ x h1 h2).on ho hnw (λj _=>rfl) rfl hc (λt vs hb q=>qw hb.lt)
  chg:=h.chg.trans hc}
end
def xCe (w:World) (B:Nat) (l:List Ix) (N bI oI cI:Nat) (cnt:Int) (nk base:Nat) (Ts0:List Tt) (N0:Nat) (e:Ending) (w':World):Prop:=
 ∃mb,e=.returned (xp mb)/\Hid (∃p g Ts NM L,NM<=N0+N/\LdJ ⟨w,B,l,N,bI,oI,cI,cnt,p,g,mb,nk,base,Ts0,N0⟩ N Ts NM L w')
end
theorem yG (g:Nat):∀(vs:List Value) (o:Nat) (w:World),w.setCells g o vs=setCs w g o vs
 | [],_,_=>rfl
 |v::vs,o,w=>yG g vs (o+1) _
theorem yV4 (w:World) (ty g o:Nat) (vs:List Value) (hi:(prog.info? ty).map (·.size)=some vs.length) (hc:∀j,j<vs.length->(w.cell? (xd g (o+j))).isSome=true) (hf:∀j,w.frozen? (xd g j)=false) (h1:∀v∈vs,v.oneCell'=true):
  (storeVar ty (xd g o) (.agg vs.toArray)).run prog w=.ok () (setCs w g o vs):=by
 have h9:=run_storeCells_cells (P:=prog) g o vs 0 w (by simpa using hc) (λj _=>hf _) h1;rw[Nat.add_zero,yG]at h9;cases hq:prog.info? ty with
 |none=>simp[hq]at hi
 |some i=>
  have hs:i.size=vs.length:=by simpa [hq]using hi
  simp[storeVar,sizeOf,typeInfo,hq,Value.cells,hs,h9]
theorem yR6 {ops:Array Oper} (hgd:oo.guard=none) p x (ty:Nat) (ho:oo.op=.store ty p x) (g o:Nat) (hp:a.eval p=.pointer (some ⟨g,o,none⟩)) (vs:List Value) (hx:a.eval x=.agg vs.toArray)
  (hi:(prog.info? ty).map (·.size)=some vs.length) (hc:∀j,j<vs.length->(w.cell? (xd g (o+j))).isSome=true) (hf:∀j,w.frozen? (xd g j)=false) (h1:∀v∈vs,v.oneCell'=true)
  (h:K (a.put oo.dst undef) (setCs w g o vs)):if Region.wanted oo (yielded ops a.tmps)=true then Oper.wp prog oo a w K Q else E:=by
 have hw:Region.wanted oo (yielded ops a.tmps)=true:=by simp[Region.wanted,hgd]
 rw[if_pos hw];unfold Oper.wp execOp;simp only[ho,hp,hx,Instr.storeAt,Instr.sureAddr,Sem.run_bind,Sem.run_pure,Result.andThen_ok,yV4 w ty g o vs hi hc hf h1];exact h
theorem Tryz.infoSp:(prog.info? 234).map (λi=>(i.zero,i.size,i.bytes))=some (some (.agg #[xi 0,xi 0,xi 0,false,xi 0,xe,false,xe,xu 0,xu 0,xi 0,.nilFunc,.nilFunc]),13,120):=by kernel_rfl
theorem Tryz.infoKc:(prog.info? 240).map (λi=>(i.zero,i.size,i.bytes))=some (some (.agg #[xe,xe,xe,xi 0]),4,56):=by kernel_rfl
theorem yEp (h:w.grownBy w' none):Below w w w':=⟨h.os,h.tape,h.output,h.size,λk hk=>h.block k hk (by simp)⟩
variable {L:List Value} {j:Nat}
theorem yNg {o:Nat} {A H:Value} (h1:¬j=o+11) (h2:¬j=o+12):((L.set (o+11) A).set (o+12) H)[j]?=L[j]?:=by rw[getElem?_set_ne (by omega),getElem?_set_ne (by omega)]
theorem yUm {o:Nat} {A H:Value} (h:o+13<=L.length):((L.set (o+11) A).set (o+12) H)[o+11]?=some A/\((L.set (o+11) A).set (o+12) H)[o+12]?=some H:=by
 refine⟨?_,?_⟩
 .rw[getElem?_set_ne (by omega),getElem?_set_self (by omega)]
 .rw[getElem?_set_self (by rw[length_set];omega)]
variable {N:Nat}
theorem yDd {p:Nat} (h:yFi w base p N L) {v:Value} (hv:L[j]?=some v):(xk w p j v:Prop):=by have hj:=qf hv;rw[World.ownsRow.cellAt h j (by have:=h.1;omega),hv]
theorem yJe {p:Nat} (h:yFi w base p N L) (hj:j<N*13):∃v,L[j]?=some v:=qg (by have:=h.1;omega)
theorem zLdN (h:p:=by
 go_wp2_with fail;go_roundw;case rel=>exact⟨k+1,NMx,Tx,Lx,by omega,by omega,by go_num,HX.out⟩
 case measure=>simp[intOf];omega):p:=h
theorem zLdC (h:p:=by
 obtain⟨an,han⟩:∃an:Nat,x.a=(an:Int):=⟨x.a.toNat,by have:=(HGo.2 hck).1;omega⟩
 have hank:(an:Int)<(nk:Int):=by have h1:=(HGo.2 hck).2;have h2:G.cnt=(nk:Int):=by rw[HGe.out]
                                 omega
 have hnn:0<=(an:Int):=by omega
 have HD:Hid (LdJ G k Ts NM L4 w5.drew/\yA w5.drew G.w 153 11 wo x.ten):=⟨HW5.1.on ((Below.refl _ _).drew),HW5.2.below ((Below.refl _ _).drew)⟩;have hS0:SW (λw':World=>xk w' mb 0 (xg p N N)/\xk w' mb 1 (xg g nk nk)/\xk w' wo 1 (.int .i64 (an:Int))) w5.drew:=by obtain⟨h0,h1,_⟩:=HSa.out _ _ _ _ HD.1;have h2:=HD.2.cell (j:=1) rfl;rw[han]at h2;exact⟨h0,h1,h2⟩
 go_upto_region 8 with fail;refine wpR 99 hS0 ?_;generalize w5.drew=WD at HD hS0⊢;refine ja 0 hS0 ?_;iterate 12 refine jb hS0 ?_
 have HSp:Hid (yFi WD w.heap.size p N L4):=by have h9:=HD.1.stp;rw[HGe.out]at h9;exact h9
 have HBd:Hid (Calls prog 149 #[.pointer (some ⟨p,k*13,none⟩),.pointer (some ⟨g,an*4,none⟩)] WD (BdC WD p (k*13) g (an*4) x.leaf.n (ofT (cntF x.leaf.kind) WD.heap.size) (anyV (cntR x.leaf.kind)))):=by obtain⟨u,hu⟩:=yJe HSp.out (show k*13+11<N*13 by omega);obtain⟨v,hv⟩:=yJe HSp.out (show k*13+12<N*13 by omega);exact yKt (World.ownsRow.lt HSp.out p rfl).2 hck (yDd HSp.out (HL4.2.1 4 _ rfl)) (yDd HSp.out (HL4.2.1 10 _ rfl)) (yDd HSp.out hu) (yDd HSp.out hv) (λj=>World.ownsRow.frozenAt HSp.out j)
 refine qO 13 rfl λK hK=>?_;go_simp;refine HBd.mono ?_;rintro e w6 ⟨rfl,H6⟩;obtain⟨Lx,hLx⟩:=qE ((L4.set (k*13+11) (ofT (cntF x.leaf.kind) WD.heap.size)).set (k*13+12) (anyV (cntR x.leaf.kind)));have hgp:G.p=p/\G.N=N/\G.w=w/\G.g=g:=by rw[HGe.out];exact⟨rfl,rfl,rfl,rfl⟩
 have HXk:Hid (LdJ G k Ts NM Lx w6):=HD.1.steps HO.out (by rw[hgp.1,hgp.2.1,hgp.2.2.1,hLx];exact H6.1 _ _ _ HSp.out) (by rw[hgp.1];exact H6.2.1) (λat_ y h1 h2 j hj=>by
  have:(at_+1)*13<=k*13:=mul_le_mul_right 13 h1
  rw[hLx];exact yNg (by omega) (by omega))
 have HX:Hid (LdJ G (k+1) Ts NM Lx w6):=by
  refine HXk.next HXg.out ⟨λj v hv=>?_,λ_=>.inl ⟨hck,WD.heap.size,⟨HD.1.chg.size,λX hX=>.inr (HD.1.ts.at_ X hX).1.lt⟩,?_,?_,?_⟩⟩
  .have hj:j<11:=(List.getElem?_eq_some_iff.1 hv).1;rw[hLx,yNg (by omega) (by omega)];exact HL4.2.1 j v hv
  .rw[han,hgp.2.2.2];exact ySg H6.2.2 HD.1.chg.size
  .rw[hLx];exact(yUm (by rw[HL4.1];omega)).1
  .rw[hLx];exact(yUm (by rw[HL4.1];omega)).2
 have hS6:=SWm hS0 w6 <|by
  obtain⟨h0,h1,_⟩:=HSa.out _ _ _ _ HXk.out;have h2:=(HD.2.chg H6.2.1 (λq=>yAb HD.2 HSp.out (by decide) _ rfl (by rw[q];rfl))).cell (j:=1) rfl;rw[han]at h2;exact⟨h0,h1,h2⟩
 refine hK.out _ _ (.inr hS6) ?_;clear hK hS0 hLx hgp H6;refine jS ?_;refine qD ?_;clear hS6;obtain⟨Tx,hTx⟩:=qE Ts;obtain⟨NMx,hNx⟩:=qE NM;rw[<-hTx,<-hNx]at HX;clear hTx;exact zLdN):p:=h
theorem zLdT (h:p:=by
 have HD:Hid (LdJ G k Ts NM L4 w5.drew/\yA w5.drew G.w 153 11 wo x.ten):=⟨HW5.1.on ((Below.refl _ _).drew),HW5.2.below ((Below.refl _ _).drew)⟩;have HSt:Hid (∀(X:World) (Ts:List Tt) (NM:Nat) (L:List Value),LdJ G k Ts NM L X->yA X G.w 153 11 wo x.ten->(λw':World=>xk w' mb 0 (xg p N N)/\xk w' w 0 (.map (some B))/\xk w' wo 4 (xi x.leaf.kind)/\xk w' wo 5 x.leaf.s/\xk w' wo 6 x.leaf.hi/\xk w' wo 7 x.leaf.t/\xk w' wo 8 (xu x.leaf.lo)/\xk w' wo 9 (xu x.leaf.up)/\xk w' wo 10 (xi x.leaf.n)/\xk w' mb 0 (xg p N N)) X):=λX Ts NM L h b=>by obtain⟨h0,_,h2⟩:=HSa.out _ _ _ _ h;exact⟨h0,h2,b.cell (j:=4) rfl,b.cell (j:=5) rfl,b.cell (j:=6) rfl,b.cell (j:=7) rfl,b.cell (j:=8) rfl,b.cell (j:=9) rfl,b.cell (j:=10) rfl,h0⟩
 have hS0:=HSt.out _ _ _ _ HD.1 HD.2;go_upto_region 9 with fail;refine yAf 99 (λw':World=>xk w' mb 0 (xg p N N)/\xk w' w 0 (.map (some B))/\xk w' wo 4 (xi x.leaf.kind)/\xk w' wo 5 (.string x.leaf.s)/\w'.cell? (xd wo.heap.size 6)=some (.bool x.leaf.hi)/\w'.cell? (xd wo.heap.size 7)=some (.string x.leaf.t)/\w'.cell? (xd wo.heap.size 8)=some (.int .u64 x.leaf.lo)/\w'.cell? (xd wo.heap.size 9)=some (.int .u64 x.leaf.up)/\w'.cell? (xd wo.heap.size 10)=some (.int .i64 x.leaf.n)/\w'.cell? (xd mb 0)=some (.slice (some ⟨p,0,none⟩) N N)) (by kernel_rfl) ?_;generalize w5.drew=WD at HD hS0⊢;refine ja 0 hS0 ?_;iterate 8 refine jb hS0 ?_
 have hge:G.B=B/\G.base=base/\G.p=p/\G.N=N/\G.w=w:=by rw[HGe.out];exact⟨rfl,rfl,rfl,rfl,rfl⟩
 have HTe:Hid (Calls prog 151 #[.agg #[.map (some B)],.agg #[.int .i64 x.leaf.kind,.string x.leaf.s,.bool x.leaf.hi,.string x.leaf.t,.int .u64 x.leaf.lo,.int .u64 x.leaf.up,.int .i64 x.leaf.n]] WD (TeP base B NM Ts x.leaf WD)):=by
  have hB:=HO.B;have hm:=HD.1.map;have ht:=HD.1.ts;have h0:=HO.N0;have hz:=HD.1.chg.size;rw[hge.1,hge.2.1]at hB;rw[hge.1]at hm;rw[hge.2.1]at ht;have hn0:G.N0=N0:=by rw[HGe.out]
  exact yX1 hm ht hB.1 (by omega) (by omega) hB.2.2 HGo.1.2 HGo.1.1
 refine qO 9 rfl λK hK=>?_;go_simp;refine HTe.mono ?_;rintro e w6 ⟨T,rfl,H6⟩;obtain⟨NMx,Tx,hT1,hT2,hT3,hT4,hM6,hN6,hs6,hc6⟩:=H6.out;have HT:Hid (T∈Tx/\T.n=x.leaf):=⟨hT1,hT2⟩;have HD6:Hid (LdJ G k Tx NMx L4 w6/\yA w6 G.w.heap.size 153 11 wo.heap.size x.ten):=by have hB:=HO.B;rw[hge.1,hge.2.1]at hB;refine⟨HD.1.test HO.out (by rw[hge.1];exact hM6) (by rw[hge.2.1];exact hs6) hT3 hT4 (by rw[hge.1];exact hc6),HD.2.chg hc6 (λq=>?_)⟩;have:=HD.2.lt;omega
 have hS6:=HSt.out _ _ _ _ HD6.1 HD6.2;clear H6 hT1 hT2 hT3 hT4 hM6 hs6 hc6 HTe HD hS0;refine hK.out _ _ (.inr hS6) ?_;clear hK;refine jS ?_;have HSp:Hid (yFi w6 w.heap.size p N L4):=by have h9:=HD6.1.stp;rw[HGe.out]at h9;exact h9
 obtain⟨tt,htt⟩:=qE T.t;have HBd:Hid (Calls prog 150 #[.pointer (some ⟨p,k*13,none⟩),.pointer (some ⟨tt,0,none⟩)] w6 (BdT w6 p (k*13) (xBw x.leaf T.mp) (hntV x.leaf.kind tt))):=by
  obtain⟨u,hu⟩:=yJe HSp.out (show k*13+11<N*13 by omega);obtain⟨v,hv⟩:=yJe HSp.out (show k*13+12<N*13 by omega);have hta:=(HD6.1.ts.at_ T HT.1).1;have hcv:=hta.ctv;rw[HT.2]at hcv;have hor:=HD6.1.ord;have hne:¬p=T.t:=by have h1:=hta.r1;have h2:=hta.r2;rw[hge.2.2.1]at hor;rcases HD6.1.new T HT.1 with q|q<;>omega
  rw[htt];exact yRg hcv hne htk (yDd HSp.out (HL4.2.1 4 _ rfl)) (yDd HSp.out hu) (yDd HSp.out hv) (λj=>World.ownsRow.frozenAt HSp.out j)
 rw[<-htt];have HTt:Hid (tt=T.t):=htt;clear htt;refine qO 10 rfl λK hK=>?_;go_simp;refine HBd.mono ?_;rintro e w7 ⟨rfl,H7⟩;obtain⟨Lx,hLx⟩:=qE ((L4.set (k*13+11) (xBw x.leaf T.mp)).set (k*13+12) (hntV x.leaf.kind tt));have HXk:Hid (LdJ G k Tx NMx Lx w7):=HD6.1.steps HO.out (by rw[hge.2.2.1,hge.2.2.2.1,hge.2.2.2.2,hLx];exact H7.1 _ _ _ HSp.out) (by rw[hge.2.2.1];exact H7.2) (λat_ y h1 h2 j hj=>by
  have:(at_+1)*13<=k*13:=mul_le_mul_right 13 h1
  rw[hLx];exact yNg (by omega) (by omega))
 have HX:Hid (LdJ G (k+1) Tx NMx Lx w7):=by
  refine HXk.next HXg.out ⟨λj v hv=>?_,λ_=>.inr ⟨htk,T,HT.1,HT.2,?_,?_⟩⟩
  .have hj:j<11:=(List.getElem?_eq_some_iff.1 hv).1;rw[hLx,yNg (by omega) (by omega)];exact HL4.2.1 j v hv
  .rw[hLx];exact(yUm (by rw[HL4.1];omega)).1
  .rw[hLx,<-HTt.out];exact(yUm (by rw[HL4.1];omega)).2
 have hS7:=HSt.out _ _ _ _ HXk.out (HD6.2.chg H7.2 (λq=>yAb HD6.2 HSp.out (by decide) _ rfl (by rw[q];rfl)));refine hK.out _ _ (.inr hS7) ?_;clear hK hS6 hLx hge H7;refine jS ?_;refine qD ?_;clear hS7;exact zLdN):p:=h
theorem zLdK (h:p:=by
 obtain⟨x,hx⟩:∃x,l[k]?=some x:=qg (by have:=HO.N;rw[HGe.out]at this;simp only at this;omega);have HX0:Hid (l[k]?=some x):=hx;have HXg:Hid (G.l[k]?=some x):=by rw[HGe.out];exact hx
 have hxa:yB5 wo G.bI G.oI G.l:=HO.ins.chg HJ.chg HO.bI.1 HO.bI.2;obtain⟨x0,x1,x2,x3,x4,x5,x6,x7,x8,x9,x10⟩:=hxa k x HXg.out;rw[HGe.out]at x0 x1 x2 x3 x4 x5 x6 x7 x8 x9 x10;simp only at x0 x1 x2 x3 x4 x5 x6 x7 x8 x9 x10;have zk:(k:Int)<(N:Int):=by omega
 obtain⟨W2,hW2⟩:=qE (xw wo #[xi x.op,xi x.a,xi x.b,x.free,xi x.leaf.kind,x.leaf.s,x.leaf.hi,x.leaf.t,xu x.leaf.lo,xu x.leaf.up,xi x.leaf.n] 153:World);have HW2:Hid (LdJ G k Ts NM L W2.drew/\yA W2.drew G.w 153 11 wo x.ten):=by
  have k2:=qN hW2
  have b2:yA W2 G.w 153 11 wo x.ten:=by rw[hW2];exact yAa wo _ HJ.chg.size rfl
  exact⟨(HJ.on k2).on ((Below.refl _ _).drew),b2.below ((Below.refl _ _).drew)⟩
 have HSa:Hid (∀(X:World) (Ts:List Tt) (NM:Nat) (L:List Value),LdJ G k Ts NM L X->xk X mb 0 (xg p N N)/\xk X mb 1 (xg g nk nk)/\xk X w 0 (.map (some B))):=λX Ts NM L h=>by obtain⟨h0,h1⟩:=h.mch.c2;have h2:=h.ldr.cell (j:=0) rfl;rw[HGe.out]at h0 h1 h2;exact⟨h0,h1,h2⟩
 have HSb:Hid (∀X:World,yA X G.w 153 11 wo x.ten->(xk X mb 0 (xg p N N):Prop)->(λw':World=>xk w' mb 0 (xg p N N)/\xk w' wo 0 (xi x.op)/\xk w' wo 1 (xi x.a)/\xk w' wo 2 (xi x.b)/\xk w' wo 3 x.free/\xk w' wo 4 (xi x.leaf.kind)/\xk w' wo 5 x.leaf.s/\xk w' wo 6 x.leaf.hi/\xk w' wo 7 x.leaf.t/\xk w' wo 8 (xu x.leaf.lo)/\xk w' wo 9 (xu x.leaf.up)/\xk w' wo 10 (xi x.leaf.n)/\xk w' mb 0 (xg p N N)/\xk w' mb 0 (xg p N N)/\xk w' mb 0 (xg p N N)/\xk w' mb 0 (xg p N N)/\xk w' mb 0 (xg p N N)/\xk w' mb 0 (xg p N N)) X):=λX b h0=>
  ⟨h0,b.cell (j:=0) rfl,b.cell (j:=1) rfl,b.cell (j:=2) rfl,b.cell (j:=3) rfl,b.cell (j:=4) rfl,b.cell (j:=5) rfl,b.cell (j:=6) rfl,b.cell (j:=7) rfl,b.cell (j:=8) rfl,b.cell (j:=9) rfl,b.cell (j:=10) rfl,h0,h0,h0,h0,h0,h0⟩
 have hS0:=HSb.out _ HW2.2 (HSa.out _ _ _ _ HW2.1).1;clear hx hxa;go_upto_region 5 with fail;rw[<-hW2];clear hW2 x0 x1 x2 x3 x4 x5 x6 x7 x8 x9 x10;refine yAf 99 (λw':World=>xk w' mb 0 (xg p N N)/\xk w' wo 0 (xi x.op)/\xk w' wo 1 (.int .i64 x.a)/\w'.cell? (xd wo.heap.size 2)=some (.int .i64 x.b)/\w'.cell? (xd wo.heap.size 3)=some (.bool x.free)/\w'.cell? (xd wo.heap.size 4)=some (.int .i64 x.leaf.kind)/\w'.cell? (xd wo.heap.size 5)=some (.string x.leaf.s)/\w'.cell? (xd wo.heap.size 6)=some (.bool x.leaf.hi)/\w'.cell? (xd wo.heap.size 7)=some (.string x.leaf.t)/\w'.cell? (xd wo.heap.size 8)=some (.int .u64 x.leaf.lo)/\w'.cell? (xd wo.heap.size 9)=some (.int .u64 x.leaf.up)/\w'.cell? (xd wo.heap.size 10)=some (.int .i64 x.leaf.n)/\w'.cell? (xd mb 0)=some (.slice (some ⟨p,0,none⟩) N N)/\w'.cell? (xd mb 0)=some (.slice (some ⟨p,0,none⟩) N N)/\w'.cell? (xd mb 0)=some (.slice (some ⟨p,0,none⟩) N N)/\w'.cell? (xd mb 0)=some (.slice (some ⟨p,0,none⟩) N N)/\w'.cell? (xd mb 0)=some (.slice (some ⟨p,0,none⟩) N N)/\w'.cell? (xd mb 0)=some (.slice (some ⟨p,0,none⟩) N N)) (by kernel_rfl) ?_;generalize W2.drew=WD at HW2 hS0⊢;refine ja 0 hS0 ?_;iterate 7 refine jb hS0 ?_
 have HSp:Hid (yFi WD w.heap.size p N L):=by have h9:=HW2.1.stp;rw[HGe.out]at h9;exact h9
 have hcell:∀j,j<N*13->∃v,WD.cell? (xd p j)=some v:=λj hj=>by obtain⟨v,hv⟩:=yJe HSp.out hj;exact⟨v,yDd HSp.out hv⟩
 have fz:∀j,WD.frozen? ⟨p,j,none⟩=false:=λj=>World.ownsRow.frozenAt HSp.out j;obtain⟨W4,hW4⟩:=qE (setCs WD p (k*13) x.ten:World);obtain⟨L4,hL4⟩:=qE (setL L (k*13) x.ten);have HLn:Hid (L.length=N*13):=HSp.1;have HL4:Hid (L4.length=N*13/\(∀j v,x.ten[j]?=some v->L4[k*13+j]?=some v)/\(∀j,j<k*13∨k*13+11<=j->L4[j]?=L[j]?)):=by
  have hll:x.ten.length=11:=rfl;have hg:∀j,L4[j]?=if k*13<=j/\j<k*13+11/\j<L.length then x.ten[j-k*13]? else L[j]?:=λj=>by rw[hL4,yIv,hll]
  refine⟨?_,λj v hv=>?_,λj hj=>?_⟩
  .have h1:(setCs WD p (k*13) x.ten).ownsRow w.heap.size 234 13 (.slice (some ⟨p,0,none⟩) N N) N (setL L (k*13) x.ten):=yBu (v:=.slice (some ⟨p,0,none⟩) N N) rfl ⟨N,rfl⟩ x.ten (k*13) WD L HSp.out;rw[hL4];exact h1.1
  .have hj:=(List.getElem?_eq_some_iff.1 hv).1;rw[hll]at hj;rw[hg,if_pos ⟨by omega,by omega,by have:=HLn.out;omega⟩,Nat.add_sub_cancel_left];exact hv
  .rw[hg,if_neg (by omega)]
 have HW4:Hid (LdJ G k Ts NM L4 W4/\yA W4 G.w.heap.size 153 11 wo.heap.size x.ten):=by
  have hc4:Chg (λq=>q=p) WD W4:=by rw[hW4];exact yAl (S:=λq=>q=p) p rfl _ _ _
  have ho4:yFi W4 w.heap.size p N L4:=by rw[hW4,hL4];exact yBu (v:=.slice (some ⟨p,0,none⟩) N N) rfl ⟨N,rfl⟩ x.ten (k*13) WD L HSp.out
  have hgp:G.p=p/\G.N=N/\G.w=w:=by rw[HGe.out];exact⟨rfl,rfl,rfl⟩
  refine⟨HW2.1.steps HO.out (by rw[hgp.1,hgp.2.1,hgp.2.2];exact ho4) (by rw[hgp.1];exact hc4) (λat_ y h1 h2 j hj=>HL4.2.2 _ (.inl (by have:(at_+1)*13<=k*13:=mul_le_mul_right 13 h1;omega))),HW2.2.chg hc4 (λq=>?_)⟩;exact yAb HW2.2 HSp.out (by decide) _ rfl (by rw[q];rfl)
 have hS4:=HSb.out _ HW4.2 (HSa.out _ _ _ _ HW4.1).1;clear hL4;refine qO 8 rfl λK hK=>?_;refine yR6 rfl _ _ 153 rfl p (k*13) rfl x.ten rfl (by kernel_rfl) (λj hj=>?_) fz (λv hv=>?_) ?_
 .obtain⟨v,hv⟩:=hcell (k*13+j) (by have hj2:j<11:=hj;omega);rw[hv];rfl
 .have hv2:v∈ [Value.int .i64 x.op,.int .i64 x.a,.int .i64 x.b,.bool x.free,.int .i64 x.leaf.kind,.string x.leaf.s,.bool x.leaf.hi,.string x.leaf.t,.int .u64 x.leaf.lo,.int .u64 x.leaf.up,.int .i64 x.leaf.n]:=hv;simp only[mem_cons,not_mem_nil,or_false]at hv2;rcases hv2 with rfl|rfl|rfl|rfl|rfl|rfl|rfl|rfl|rfl|rfl|rfl<;>rfl
 rw[<-hW4];refine hK.out _ _ (.inr hS4) ?_;clear hK hW4 hS0 hcell fz HW2 HSp;refine jS ?_;refine qD ?_;have y0:=HW4.2.cell (j:=0) rfl;have y4:=HW4.2.cell (j:=4) rfl;clear hS4;by_cases ho:x.op=1
 .have hb:(x.op==1)=true:=by simp[ho]
  rw[ho]at y0;have hgf:=HO.good k x HXg.out ho;have HGo:Hid ((yCb x.leaf/\x.leaf.ok)/\(cntK x.leaf.kind->0<=x.a/\x.a<G.cnt)):=⟨⟨yF hgf.1 x.leaf (by simp),(HO.ok x (mem_of_getElem? HXg.out)).leaf⟩,hgf.2⟩;have hlk:=yZc hgf.1;clear hgf;go_wp2_with fail;refine(yJ8 x.leaf.kind W4).mono ?_;rintro e w5 ⟨r,rfl,hr,hb5⟩;have HW5:Hid (LdJ G k Ts NM L4 w5/\yA w5 G.w.heap.size 153 11 wo.heap.size x.ten):=⟨HW4.1.on hb5,HW4.2.below hb5⟩;clear hb5 y0 y4 HW4;rcases hlk with hck|htk
  .obtain rfl:r=true:=hr.2 hck;clear hr;exact zLdC
  .have hnc:¬cntK x.leaf.kind:=by unfold tstK at htk;unfold cntK;omega
   obtain rfl:r=false:=by
    cases r
    .rfl
    .exact absurd (hr.1 rfl) hnc
   clear hr;exact zLdT
 .have hb:(x.op==1)=false:=by simp[ho]
  have HX:Hid (LdJ G (k+1) Ts NM L4 W4):=HW4.1.next HXg.out ⟨HL4.2.1,λq=>absurd q ho⟩;obtain⟨Tx,hTx⟩:=qE Ts;obtain⟨NMx,hNx⟩:=qE NM;obtain⟨Lx,hLx⟩:=qE L4;rw[<-hTx,<-hNx,<-hLx]at HX;clear hTx hLx;exact zLdN):p:=h
theorem zLdS (h:p:=by
 have hS5:SW (λw':World=>xk w' (w+1) 0 (.slice (some ⟨bI,oI,none⟩) N cI)/\xk w' (w+1) 1 (xi nk)) W5:=⟨H5.2.1.cell (j:=0) rfl,H5.2.1.cell (j:=1) rfl⟩;refine hK.out _ _ (.inr hS5) ?_;clear hK hS3;refine jS ?_;refine ja 7 hS5 ?_;obtain⟨W6,hW6⟩:=qE (xw W5 #[xg p N N,xg g nk nk,.slice none 0 0] 230:World);obtain⟨mb,hmb⟩:=qE W5.heap.size;obtain⟨G,hG⟩:=qE (⟨w,B,l,N,bI,oI,cI,(nk:Int),p,g,mb,nk,base,Ts0,N0⟩:LdG);have H6:Hid (∃L,LdJ G 0 Ts0 N0 L W6):=by
  obtain⟨h1,h2,h3,⟨L,h4⟩,h5,h6,h7,h8,h9,h10⟩:=H5.out;have k6:Below W5 W5 W6:=by rw[hW6];exact qB
  have kb:Below w.heap.size w W6:=h3.trans (k6.mono h3.size);have kc:Chg (λ_=>False) w W6:=Chg.of_below kb;rw[hG];exact⟨L,h1.below k6,h2.below k6,yAh h4 (S:=λ_=>False) (Chg.of_below k6) (λ_ _ q=>q),h5.below k6,by rw[hmb,hW6];exact yAa W5 _ h3.size rfl,HM.1.chg kc (λq=>q),HM.2.chg kc (λq z=>z.elim) (λq=>q),λX hX=>hX,λX hX=>.inl ⟨hX,(HM.2.at_ X hX).1.lt⟩,⟨h6,h7,h8,by show p<mb;omega,by show g<mb;omega⟩,λat_ x h=>absurd h (not_lt_zero _),kc.mono (λq z=>z.elim)⟩
 have hS6:=SWm hS5 W6 <|by
  have k6:Below W5 W5 W6:=by rw[hW6];exact qB
  exact⟨(H5.2.1.below k6).cell (j:=0) rfl,(H5.2.1.below k6).cell (j:=1) rfl⟩
 have HGe:Hid (G=⟨w,B,l,N,bI,oI,cI,(nk:Int),p,g,mb,nk,base,Ts0,N0⟩):=hG;have HO:Hid (LdO G):=by rw[hG];exact HO0.out p g mb
 clear hG;refine qO 8 rfl λK hK=>?_;go_simp;rw[<-hW6];(try simp only[<-hmb]);refine hK.out _ _ (.inr hS6) ?_;clear hK hW6 hS5 hmb H5;refine jS ?_;refine qO 9 rfl λK hK=>?_;go_simp;refine hK.out _ _ (.inr hS6) ?_;clear hK;refine jS ?_;refine qD ?_;obtain⟨c0,c1⟩:=hS6;go_wp2_with fail;go_loopw[20] (λkv wr=>∃(k NM:Nat) (Ts:List Tt) (L:List Value),k<=N/\NM<=N0+k/\kv=.int .i64 (k:Int)/\Hid (LdJ G k Ts NM L wr)) (λkv _=>N-(intOf kv).toNat);case atStart=>
  obtain⟨L,hL⟩:=H6.out;exact⟨0,N0,Ts0,L,zero_le _,by omega,rfl,hL⟩
 case round=>
  clear H6 c0 c1;obtain⟨k,NM,Ts,L,hk,hnm,rfl,HJ⟩:=hrel;obtain⟨wo,hwo⟩:=qE (wr:World);subst hwo;by_cases hlt:k<N
  .as_aux_lemma=>exact zLdK
  .have zk:¬(k:Int)<(N:Int):=by omega
   have HE:Hid (∃p g Ts NM L,NM<=N0+N/\LdJ ⟨w,B,l,N,bI,oI,cI,(nk:Int),p,g,mb,nk,base,Ts0,N0⟩ N Ts NM L wo):=by
    have hkN:k=N:=by omega
    subst hkN;have h9:=HJ.out;rw[HGe.out]at h9;exact⟨p,g,Ts,NM,L,hnm,h9⟩
   go_wp2_with fail;go_ret;exact⟨mb,rfl,HE⟩):p:=h
variable {bI oI cI nk:Nat}
theorem yP3 {l:List Ix} {Ts0:List Tt} {N0:Nat} (hO:∀p g mb,LdO ⟨w,B,l,N,bI,oI,cI,cnt,p,g,mb,nk,base,Ts0,N0⟩) (hM:MpA w B N0 Ts0) (hT:TsA base Ts0 w):
  Calls prog 101 #[.agg #[.map (some B)],.agg #[.slice (some ⟨bI,oI,none⟩) N cI,xi cnt]] w (xCe w B l N bI oI cI cnt nk base Ts0 N0):=by
 have a7:cnt=(nk:Int):=(hO 0 0 0).nk.symm;have a9:N<=4000:=(hO 0 0 0).Nl;have a8:nk<=200:=(hO 0 0 0).nkl;subst a7;have HO0:Hid (∀p g mb,LdO ⟨w,B,l,N,bI,oI,cI,(nk:Int),p,g,mb,nk,base,Ts0,N0⟩):=hO;obtain⟨W0,a3⟩:=qE (xw (w.alloc (Obj.cells #[.map (some B)] 174)) #[.slice (some ⟨bI,oI,none⟩) N cI,xi nk] 32:World);have H0:Hid (yA W0 w 174 1 w [.map (some B)]/\yA W0 w 32 2 (w+1) [.slice (some ⟨bI,oI,none⟩) N cI,xi nk]/\Below w w W0/\W0.heap.size=w.heap.size+2):=by
  obtain⟨X,hX⟩:=qE (xw w #[.map (some B)] 174:World);rw[<-hX]at a3;have zx:=qS hX
  have k1:=qN hX
  have k2:=qN a3
  have b1:yA X w 174 1 w [.map (some B)]:=by rw[hX];exact yAa w _ qr rfl
  have b2:yA W0 w 32 2 (w+1) [.slice (some ⟨bI,oI,none⟩) N cI,xi nk]:=by rw[a3,<-zx];exact yAa X _ (by omega) rfl
  exact⟨b1.below k2,b2,k1.trans (k2.mono (by omega)),by rw[a3];simp;omega⟩
 have HM:Hid (MpA w B N0 Ts0/\TsA base Ts0 w):=⟨hM,hT⟩;clear hO hM hT;go_enter func101,ntmps101;go_upto_region 1 with fail;rw[<-a3];clear a3;have HD:Hid (yA W0.drew w 174 1 w [.map (some B)]/\yA W0.drew w 32 2 (w+1) [.slice (some ⟨bI,oI,none⟩) N cI,xi nk]/\Below w w W0.drew/\W0.drew.heap.size=w.heap.size+2):=by have k:=(Below.refl W0 W0).drew;exact⟨H0.1.below k,H0.2.1.below k,H0.2.2.1.trans (k.mono H0.2.2.1.size),H0.2.2.2⟩
 have hS0:SW (λw':World=>xk w' (w+1) 0 (.slice (some ⟨bI,oI,none⟩) N cI)/\xk w' (w+1) 1 (xi nk)) W0.drew:=⟨HD.2.1.cell (j:=0) rfl,HD.2.1.cell (j:=1) rfl⟩;obtain⟨ip,a5,p1,p2,p3⟩:=info_parts Tryz.infoSp;obtain⟨ig,a6,g1,g2,g3⟩:=info_parts Tryz.infoKc;have a1:Hid (prog.info? 234=some ip/\ip.zero=some (.agg #[xi 0,xi 0,xi 0,false,xi 0,xe,false,xe,xu 0,xu 0,xi 0,.nilFunc,.nilFunc])/\ip.size=13/\ip.bytes=120):=⟨a5,p1,p2,p3⟩;have a2:Hid (prog.info? 240=some ig/\ig.zero=some (.agg #[xe,xe,xe,xi 0])/\ig.size=4/\ig.bytes=56):=⟨a6,g1,g2,g3⟩;clear a5 p1 p2 p3 a6 g1 g2 g3;refine wpR 99 hS0 ?_;generalize W0.drew=WD at HD hS0⊢;refine ja 0 hS0 ?_;iterate 2 refine jb hS0 ?_
 refine ja 4 hS0 ?_;refine jb hS0 ?_;refine yB2 (i:=3) (j:=6) (by kernel_rfl) rfl rfl (λK hK=>?_) (λK hK=>?_)
 .refine yGm WD rfl _ _ 226 rfl w 234 ip _ 13 underlying226 a1.1 a1.2.1 a1.2.2.1 .i64 .i64 _ _ N rfl rfl rfl rfl (by rw[a1.2.2.2];omega) (by unfold maxLen;omega) HD.2.2.1.size (λw3 hO3 hg3 hz3=>?_);have a0:Below WD WD w3:=yEp hg3;have hS3:=SWm hS0 w3 <|⟨(HD.2.1.below a0).cell (j:=0) rfl,(HD.2.1.below a0).cell (j:=1) rfl⟩;refine hK.out _ _ (.inr hS3) ?_;clear hK hS0;refine jS ?_;refine qO 6 rfl λK hK=>?_;refine yGm w3 rfl _ _ 227 rfl w 240 ig _ 4 underlying227 a2.1 a2.2.1 a2.2.2.1 .i64 .i64 _ _ nk rfl rfl rfl rfl (by rw[a2.2.2.2];omega) (by unfold maxLen;omega) (by have:=HD.2.2.1.size;omega) (λW5 hO5 hg5 hz5=>?_);have hb5:Below w3 w3 W5:=yEp hg5;obtain⟨p,hp⟩:=qE WD.heap.size;obtain⟨g,hg⟩:=qE w3.heap.size;have H5:Hid (yA W5 w.heap.size 174 1 w.heap.size [.map (some B)]/\yA W5 w.heap.size 32 2 (w.heap.size+1) [.slice (some ⟨bI,oI,none⟩) N cI,.int .i64 (nk:Int)]/\Below w.heap.size w W5/\(∃L,yFi W5 w.heap.size p N L)/\yFj W5 w.heap.size g nk (List.replicate nk newC)/\w.heap.size+1<p/\w.heap.size+1<g/\¬p=g/\p<W5.heap.size/\g<W5.heap.size):=by have hz:=HD.2.2.2;have a4:=HD.2.2.1;rw[yU7 yIf (by decide) newC (Value.cells (.agg #[.string ⟨#[]⟩,.string ⟨#[]⟩,.string ⟨#[]⟩,.int .i64 0])) rfl nk]at hO5;refine⟨(HD.1.below a0).below hb5,(HD.2.1.below a0).below hb5,(a4.trans (a0.mono a4.size)).trans (hb5.mono (by omega)),⟨_,by rw[hp];exact yAh hO3 (S:=λ_=>False) (Chg.of_below hb5) (λ_ _ q=>q)⟩,by rw[hg];unfold yFj OwnG;rw[length_replicate];exact hO5,by omega,by omega,by omega,by omega,by omega⟩
  rw[<-hp,<-hg];clear hO3 hg3 hz3 a0 hO5 hg5 hz5 hb5 hp hg HD;exact zLdS
 .refine yGm WD rfl _ _ 227 rfl w.heap.size 240 ig _ 4 underlying227 a2.1 a2.2.1 a2.2.2.1 .i64 .i64 _ _ nk rfl rfl rfl rfl (by rw[a2.2.2.2];omega) (by unfold maxLen;omega) HD.2.2.1.size (λw3 hO3 hg3 hz3=>?_);have a0:Below WD.heap.size WD w3:=yEp hg3;have hS3:(λw':World=>w'.cell? (xd (w.heap.size+1) 0)=some (.slice (some ⟨bI,oI,none⟩) N cI)/\w'.cell? (xd (w.heap.size+1) 1)=some (.int .i64 (nk:Int))) w3:=⟨(HD.2.1.below a0).cell (j:=0) rfl,(HD.2.1.below a0).cell (j:=1) rfl⟩;refine hK.out _ _ (.inr hS3) ?_;clear hK hS0;refine jS ?_;refine qO 3 rfl λK hK=>?_;refine yGm w3 rfl _ _ 226 rfl w.heap.size 234 ip _ 13 underlying226 a1.1 a1.2.1 a1.2.2.1 .i64 .i64 _ _ N rfl rfl rfl rfl (by rw[a1.2.2.2];omega) (by unfold maxLen;omega) (by have:=HD.2.2.1.size;omega) (λW5 hO5 hg5 hz5=>?_);have hb5:Below w3.heap.size w3 W5:=yEp hg5;obtain⟨g,hg⟩:=qE WD.heap.size;obtain⟨p,hp⟩:=qE w3.heap.size;have H5:Hid (yA W5 w.heap.size 174 1 w.heap.size [.map (some B)]/\yA W5 w.heap.size 32 2 (w.heap.size+1) [.slice (some ⟨bI,oI,none⟩) N cI,.int .i64 (nk:Int)]/\Below w.heap.size w W5/\(∃L,yFi W5 w.heap.size p N L)/\yFj W5 w.heap.size g nk (List.replicate nk newC)/\w.heap.size+1<p/\w.heap.size+1<g/\¬p=g/\p<W5.heap.size/\g<W5.heap.size):=by have hz:=HD.2.2.2;have a4:=HD.2.2.1;rw[yU7 yIf (by decide) newC (Value.cells (.agg #[.string ⟨#[]⟩,.string ⟨#[]⟩,.string ⟨#[]⟩,.int .i64 0])) rfl nk]at hO3;refine⟨(HD.1.below a0).below hb5,(HD.2.1.below a0).below hb5,(a4.trans (a0.mono a4.size)).trans (hb5.mono (by omega)),⟨_,by rw[hp];exact hO5⟩,?_,by omega,by omega,by omega,by omega,by omega⟩;rw[hg];have h9:=yAh hO3 (S:=λ_=>False) (Chg.of_below hb5) (λ_ _ q=>q);unfold yFj OwnG;rw[length_replicate];exact h9
  rw[<-hp,<-hg];clear hO3 hg3 hz3 a0 hO5 hg5 hz5 hb5 hp hg HD;exact zLdS
structure Md where
 lo:Nat
 p:Nat
 g:Nat
 mb:Nat
 N:Nat
 nk:Nat
 l:List Ix
 L:List Value
structure MdA (d:Md) (Ts:List Tt) (W:World):Prop where
 sp:yFi W d.lo d.p d.N d.L
 ctr:yFj W d.lo d.g d.nk (List.replicate d.nk newC)
 mch:yA W d.lo 230 3 d.mb [xg d.p d.N d.N,xg d.g d.nk d.nk,xh]
 ord:d.lo+1<d.p/\d.lo+1<d.g/\¬d.p=d.g/\d.p<d.mb/\d.g<d.mb
 new:∀X∈Ts,X.t<d.lo∨d.mb<X.lo
 don:∀(at_:Nat) (x:Ix),d.l[at_]?=some x->StpD d.lo d.g Ts d.L at_ x W
 len:d.N=d.l.length
variable {Ts:List Tt} {NM:Nat}
theorem xHu {G:LdG} (h:LdJ G G.N Ts NM L W) (hN:G.N=G.l.length):MdA ⟨G.w,G.p,G.g,G.mb,G.N,G.nk,G.l,L⟩ Ts W:=
 ⟨h.stp,h.ctr,h.mch,h.ord,λX hX=>(h.new X hX).imp (λq=>q.2) (λq=>q),λat_ x hx=>h.done at_ x (by rw[hN];exact(List.getElem?_eq_some_iff.1 hx).1) hx,hN⟩
theorem MdA.on {d:Md} {Ts':List Tt} {S:Nat->Prop} (h:MdA d Ts W) (hc:Chg S W W') (hS:∀q,S q->q<d.lo∨W.heap.size<=q) (ho:∀X∈Ts,X∈Ts') (hnw:∀X∈Ts',X∈Ts∨W.heap.size<=X.lo):MdA d Ts' W':=by
 have a1:=h.ord;have a2:=h.mch.lt;have a0:∀q,d.lo<=q->q<W.heap.size->¬S q:=λq h1 h2 z=>by rcases hS q z with k|k<;>omega
 exact {h with
  sp:=yAh h.sp hc (λq hq=>by simp[Value.ownBlock]at hq;exact a0 _ qo qo)
  ctr:=h.ctr.chg hc (a0 _ qo qo)
  mch:=h.mch.chg hc (a0 _ qo qo)
  new:=λX hX=>by
   rcases hnw X hX with q|q
   .exact h.new X q
   .exact .inr qo
  don:=λat_ x hx=>(h.don at_ x hx).on ho hnw (λj _=>rfl) rfl hc (λt vs hb=>a0 _ hb.lt.1 hb.lt.2)}
abbrev mpF (d:Md):List Value:= [.pointer (some ⟨d.mb,0,none⟩)]
theorem xDf (d:Md):(mpF d).length=1:=rfl
theorem xHt (d:Md):∀u∈mpF d,u.oneCell'=true:=λu hu=>by simp at hu;subst hu;rfl
theorem Tryz.infoMp:(prog.info? 94).map (λi=>(i.zero,i.size,i.bytes))=some (some (.pointer none),1,8):=qk
def RowM (w:World) (base:Nat) (v:Value) (ds:List Md):Prop:=w.ownsRow base 94 1 v ds.length (ds.flatMap mpF)
theorem TsA.side2 {S:Nat->Prop} (h:TsA base Ts W) (hc:Chg S W W') (hS:∀q,S q->∀X∈Ts,X.t<q∨q<X.lo) (hv:¬S 1):TsA base Ts W':=
 ⟨λT hT=>⟨(h.at_ T hT).1.chg hc (λq hq z=>qw (hS q hq T hT)) hv,(h.at_ T hT).2⟩,h.apart,h.tab.chg hc hv,h.tabl⟩
structure MdsA (tb B NM:Nat) (Ts:List Tt) (ds:List Md) (W:World):Prop where
 map:MpA W B NM Ts
 ts:TsA tb Ts W
 Bb:B<tb
 md:∀d∈ds,MdA d Ts W/\tb<=d.lo
 apart:ds.Pairwise λd d'=>d.mb<d'.lo
variable {tb:Nat} {ds:List Md}
theorem MdsA.on {S:Nat->Prop} (h:MdsA tb B NM Ts ds W) (hc:Chg S W W') (hS:∀q,S q->W.heap.size<=q∨(q<tb/\¬q=B/\¬q=1)):MdsA tb B NM Ts ds W':=by have a0:=h.map.lt;have hv:=h.ts.tab.lt;exact⟨h.map.chg hc (λq=>by rcases hS _ q with k|k<;>omega),h.ts.chg hc (λq hq=>(hS q hq).elim .inr (λk=>.inl k.1)) (λq=>by rcases hS _ q with k|k<;>omega),h.Bb,λd hd=>⟨(h.md d hd).1.on hc (λq hq=>(hS q hq).elim .inr (λk=>.inl (qw ((h.md d hd).2)))) (λX hX=>hX) (λX hX=>.inl hX),(h.md d hd).2⟩,h.apart⟩
theorem MdsA.load {l:List Ix} {e:Ending} (h:MdsA tb B NM Ts ds W) (htb:tb<=W.heap.size) (hN:N=l.length) (hl:xCe W B l N bI oI cI cnt nk tb Ts NM e W'):
  ∃(d:Md) (Ts':List Tt) (NM':Nat),e=.returned (xp d.mb)/\MdsA tb B NM' Ts' (ds++ [d]) W'/\NM'<=NM+N/\Chg (λq=>q=B) W W'/\W.heap.size<=d.lo/\d.l=l/\d.N=N/\d.nk=nk/\(∀X∈Ts,X∈Ts')/\(∀X∈Ts',X∈Ts∨W.heap.size<=X.lo):=by
 obtain⟨mb,he,H⟩:=hl;obtain⟨p,g,Ts',NM',L,hn,hJ⟩:=H.out;have hd:=xHu hJ hN;have a0:∀X∈Ts',X∈Ts∨W.heap.size<=X.lo:=λX hX=>by
  rcases hJ.new X hX with q|q
  .exact .inl q.1
  .have a1:=hJ.mch.lt.1;exact .inr (by simp only at q a1;omega)
 refine⟨⟨W,p,g,mb,N,nk,l,L⟩,Ts',NM',he,⟨hJ.map,hJ.ts,h.Bb,λd' hd'=>?_,?_⟩,hn,hJ.chg,Nat.le_refl _,rfl,rfl,rfl,hJ.old,a0⟩
 .rcases List.mem_append.1 hd' with q|q
  .exact⟨(h.md d' q).1.on hJ.chg (λz hz=>.inl (by have:=(h.md d' q).2;have:=h.Bb;simp only at hz;omega)) hJ.old a0,(h.md d' q).2⟩
  .rw[mem_singleton]at q;subst q;exact⟨hd,htb⟩
 .refine List.pairwise_append.2 ⟨h.apart,pairwise_singleton _ _,λa ha b hb=>?_⟩;rw[mem_singleton]at hb;subst hb;exact(h.md a ha).1.mch.lt.2
theorem MdsA.turn {v:Value} {xs:List Value} (h:MdsA tb B NM Ts ds W) (hO:W.ownsRow base ty sz v n xs) (h1:¬234=ty) (h2:¬240=ty) (h3:¬230=ty) (h4:¬283=ty)
  (hq:∀k,v.ownBlock=some k->¬k=B/\¬k=1/\∀X∈Ts,X.t<k∨k<X.lo) (hc:Chg (λk=>v.ownBlock=some k) W W'):MdsA tb B NM Ts ds W':=by
 refine⟨h.map.chg hc (λq=>(hq _ q).1 rfl),h.ts.side2 hc (λq z=>(hq q z).2.2) (λq=>(hq _ q).2.1 rfl),h.Bb,λd hd=>⟨?_,(h.md d hd).2⟩,h.apart⟩;have hm:=(h.md d hd).1
 exact {hm with
  sp:=yAh hm.sp hc (λk hk z=>yAb hm.sp hO h1 k hk z)
  ctr:=yAh hm.ctr hc (λk hk z=>yAb hm.ctr hO h2 k hk z)
  mch:=hm.mch.chg hc (λz=>yAb hm.mch hO h3 _ rfl z)
  don:=λat_ x hx=>(hm.don at_ x hx).on (λX hX=>hX) (λX hX=>.inl hX) (λj _=>rfl) rfl hc (λt vs hb z=>yAb hb hO h4 _ rfl z)}
variable {ds:List Int} {e:Int}
theorem yFn (h:ds[k]?=some e):yC2 ds k x=if e<least x.op∨250<e+more x.op then none else yB1 (e+more x.op) (ways k x) ds:=by unfold yC2;rw[h]
theorem yN (h:ds[k]?=some e) (hl:e<least x.op):yC2 ds k x=none:=by rw[yFn h,if_pos (.inl hl)]
theorem yJo {e1:Int} {js:List Nat} (hk:ds[k]?=some e) (hl:¬e<least x.op) (hd:d=e+more x.op) (h1:1<=d) (hj:ds[j]?=some e1) (hw:ways k x=j::js):
  (((e1=0∨e1=d)/\1<=d/\d<=250)->yC2 ds k x=yB1 d js (ds.set j d))/\(¬((e1=0∨e1=d)/\1<=d/\d<=250)->yC2 ds k x=none):=by
 subst hd;refine⟨λh=>?_,λh=>?_⟩
 .rw[yFn hk,if_neg qo,hw,yB1,yJp hj h.1];rfl
 .by_cases h2:250<e+more x.op
  .rw[yFn hk,if_pos (.inr h2)]
  .rw[yFn hk,if_neg qo,hw,yB1,yNx hj (λq=>h ⟨q,h1,qo⟩)];rfl
theorem yG3 {l:List Ix} {conds:Nat} (h:yC6 l k=some ds) (hx:l[k]?=some x) (hs:yC2 ds k x=none):¬yBe l cnt conds:=λq=>
 yHm q (k:=k+1) (qw (qf hx)) (by rw[yD3 h hx,hs])
structure yUb (l:List Ix) (cnt:Int) (conds k:Nat) (ds:List Int):Prop where
 flow:yC6 l k=some ds
 good:∀(j:Nat) (x:Ix),j<k->l[j]?=some x->yCy x j l.length cnt conds
theorem yUb.next {l:List Ix} {conds:Nat} (h:yUb l cnt conds k ds) (hx:l[k]?=some x) (hg:yCy x k l.length cnt conds) (hs:yC2 ds k x=some ds'):yUb l cnt conds (k+1) ds':=
 ⟨by rw[yD3 h.flow hx,hs],λj y hj hy=>by
  by_cases e:j=k
  .subst e;rw[hx]at hy;cases hy;exact hg
  .exact h.good j y qo hy⟩
theorem yUb.end {l:List Ix} {conds:Nat} (h:yUb l cnt conds l.length ds) (h1:1<=l.length) (h2:l.length<=4000) (h3:0<=cnt) (h4:cnt<=200) (he:ds[l.length]?=some e):yBe l cnt conds↔e=1:=by
 constructor
 .rintro⟨_,_,_,_,_,a0,hf,hd⟩;rw[h.flow]at hf;cases hf
  rw[he]at hd;exact Option.some.inj hd
 .intro q;subst q;exact⟨h1,h2,h3,h4,λk x hx=>h.good k x (qf hx) hx,ds,h.flow,he⟩
theorem Tryz.infoI64:(prog.info? 2).map (λi=>(i.zero,i.size,i.bytes))=some (some (.int .i64 0),1,8):=qk
theorem yHb {ops:Array Oper} {rest:List Oper} (w:World) (hgd:oo.guard=none) s x
  (ho:oo.op=.call {callee:=.builtin .append,args:=#[s,x],argTypes:=#[189,189]})
  (base gq cp n b m cx:Nat) (us vs:List Int) (hs:a.eval s=(xg gq n cp)) (hx:a.eval x=(xg b m cx)) (hn:n=us.length) (hm:m=vs.length) (hO:OwnZ 2 w base gq cp us .i64)
  (hc:∀(j:Nat) v,vs[j]?=some v->w.cell? (xd b j)=some (.int .i64 v)) (hlen:us.length+vs.length<=10000) (hbase:base<=w.heap.size)
  (h:∀g' cp' w',OwnZ 2 w' base g' cp' (us++vs) .i64->w.grownBy w' (some gq)->wpList prog ops Q rest (a.put oo.dst (.slice (some ⟨g',0,none⟩) (n+m) cp')) w'):wpList prog ops Q (oo::rest) a w:=by
 subst hn hm;obtain⟨i,hi,a3,a2,a1⟩:=info_parts Tryz.infoI64;refine wpList_append_own_at w hgd s x 189 ho base 2 i _ 1 8 underlying189 hi a3 a2 a1 rfl qj (xg gq us.length cp) us.length (us.map λd=>(xi d)) hs hO (xd b 0) vs.length cx (vs.map λd=>(xi d)) hx (by simp) ?_ ?_ ?_ ?_ hbase ?_
 .intro j u hu;rw[getElem?_map]at hu;cases hq:vs[j]? with
  |none=>rw[hq]at hu;cases hu
  |some d=>rw[hq]at hu;obtain rfl:=Option.some.inj hu;rw[Addr.add_mid,Nat.zero_add];exact hc j d hq
 .intro v hv;obtain⟨d,_,rfl⟩:=List.mem_map.1 hv;rfl
 .unfold maxLen;omega
 .omega
 .intro v' w' a0 a5 a4 a8;rcases a0.2 with⟨h0,_⟩|⟨g',a6,cur,hv,_,_,hn,a7,_,_⟩
  .have:=(a4.1 h0).1;cases this
  .subst hv;refine h g' a6 w' ?_ a5;unfold OwnZ;rw[length_append,map_append];exact a0
theorem xBb (k:Nat):(1:Int)::(List.replicate k 0++ [0])=1::List.replicate (k+1) 0:=by congr 1;rw[replicate_succ']
theorem xBo {l:List Ix} {e1:Int} {r:Bool} (js:List Nat) (_:l[k]?=some x) (hk:ds[k]?=some e) (hl:¬e<least x.op) (hd:d=e+more x.op) (h1:1<=d) (hj:ds[j]?=some e1) (hw:ways k x=j::js) (hr:r=true↔((e1=0∨e1=d)/\1<=d/\d<=250)):(r=true->yC2 ds k x=yB1 d js (ds.set j d))/\(r=false->yC2 ds k x=none):=
 have h:=yJo hk hl hd h1 hj hw
 ⟨λq=>h.1 (hr.1 q),λq=>h.2 λz=>by rw[hr.2 z]at q;cases q⟩
theorem zKl (h:p:=by have HG:Hid (¬P):=λq=>yG3 HJ.1.flow HX.1 (yN HD.out (by simp[least];omega)) (HP.1 q);exact zR k3w):p:=h
theorem zBn (h:p:=by
 obtain⟨e1,he1⟩:∃e1,ds[k+1]?=some e1:=qg (qw HLn.out)
 have HE1:=qH1 he1;clear he1;go_wp2_with fail
 try any_goals (exfalso;omega)
 refine(HNt.out _ ds (k+1) _ _ e1 HO3.out HLn.out (by omega) HE1.out).mono ?_;rintro e w4 ⟨r2,rfl,hr2,hO4,hC4⟩
 have HS:=qH1 (xBo [] HX.1 HD.out (by simp[least];omega) (by simp[more]<;>omega) (by omega) HE1.out (by simp[ways]) hr2)
 have HR2:=qH1 hO4;have hC24:=hC3.trans hC4;have kw4:=Chg.below kw3 hC4 kw3.size (λq hq=>by omega);have k4w:=hb0.trans (kw4.mono (by omega));clear hr2 hO4 x0 x1 x2 x3 x4 x5 x6 x7 x8 x9 x10;obtain⟨x0,x1,x2,x3,x4,x5,x6,x7,x8,x9,x10⟩:=HX2.out w4 hC24;cases r2
 .have HG:Hid (¬P):=λq=>yG3 HJ.1.flow HX.1 (HS.2 rfl) (HP.1 q);exact zR k4w
 go_wp2_with fail;refine(yE9 _ _).mono ?_;rintro e w5 ⟨r3,rfl,hr3,hb5⟩;have hC25:=hC24.trans (Chg.of_below hb5);have kw5:=kw4.trans (hb5.mono kw4.size);clear x0 x1 x2 x3 x4 x5 x6 x7 x8 x9 x10;obtain⟨x0,x1,x2,x3,x4,x5,x6,x7,x8,x9,x10⟩:=HX2.out w5 hC25
 obtain rfl:r3=false:=by cases r3;rfl;exact absurd (hr3.1 rfl) (by omega)
 clear hr3;have HN:=qH2 (HJ.1.next HX.1 HGI.out (by rw[HS.1 (by simp)];rfl)) ((HR2.out (by simp)).below hb5);exact xIh):p:=h
theorem zBa (h:p:=by
 by_cases hd0:d=0
 .exact zKl
 have hdz:=qn hd0;by_cases hd1:d<2<;>first|exact zKl|exact zBn):p:=h
theorem yFa (x:Bk) (conds:Nat) (w:World) (h:yAy w x.v x.l) (ho:x.ok) (hcd:conds<=1000):Calls prog 51 #[x.val,.int .i64 conds] w (yH3 (yBe x.l x.cnt conds) w):=by
 obtain⟨P,hP⟩:=qE (yBe x.l x.cnt conds:Prop);rw[<-hP];obtain⟨v,cnt,l⟩:=x;have HP:Hid (P↔yBe l cnt conds):=by show P↔_;rw[hP]
 have hu:=h.cells;simp only at hu;have HH:=qH2 h ho.ins;obtain⟨va,cap,ar⟩:∃va cap,v=.slice va l.length cap:=by
  rcases h with⟨a,cap,hq,hl⟩|⟨b,off,cap,hq,_⟩
  .simp only at hq hl;subst hl;exact⟨_,_,hq⟩
  .exact⟨_,_,hq⟩
 subst ar;clear h ho hP;obtain⟨W0,a4⟩:=qW (xw w #[.slice va l.length cap,xi cnt] 32);have hb0:=qN a4
 have ah:w.heap.size<W0.heap.size:=by rw[a4];simp
 have HK:Hid (∀wx,Below W0 W0 wx->xk wx w 0 (.slice va l.length cap)/\xk wx w 1 (xi cnt)):=by intro wx hx;rw[hx.cell (p:=(xd w 0)) ah,hx.cell (p:=(xd w 1)) ah,a4];exact⟨by simp,by simp⟩
 obtain⟨k0,k1⟩:=HK.out W0 (Below.refl _ _);go_enter func51,ntmps51;go_upto_region 1 with fail;rw[<-a4];clear a4;by_cases p0:1<=l.length;case neg=>
  have z:(l.length:Int)<1:=qo
  exact xAl
 have z0:¬(l.length:Int)<1:=qo
 by_cases p1:l.length<=4000;case neg=>
  exact xF4
 have z1:¬(4000:Int)<(l.length:Int):=qo
 by_cases p2:0<=cnt;case neg=>
  exact xCx
 have z2:¬cnt<0:=qo
 by_cases p3:cnt<=200;case neg=>
  exact xC1
 have z3:¬200<cnt:=qo
 obtain⟨b0,off,au,HE⟩:∃b0 off,va=some ⟨b0,off,none⟩/\Hid (∀wx,Below W0 W0 wx->yB5 wx b0 off l):=by
  rcases HH.1 with⟨a,aB,hq,hl⟩|⟨b,off,aB,hq,hE,a7,h1,h2⟩
  .subst hl;simp at p0
  .cases hq
   exact⟨b,off,rfl,λwx hx=>(hE.below hb0 a7).below hx qo⟩
 subst au;obtain⟨W1,a8⟩:=qW (xw W0 #[xi 1] 2);have ay:=qN a8
 have aC:Hid (OwnZ 2 W1 W0 W0 1 (1::List.replicate 0 0) .i64):=by rw[a8];exact World.ownsRow_lit W0 #[xi 1] 1 qr qj rfl
 go_upto_region 5 with fail;rw[<-a8];clear a8 k0 k1;go_wp2;go_loopw[6,7] (λd i wr=>∃(k g cp:Nat),k<=l.length/\i=(xi k)/\d=(xg g (k+1) cp)/\Hid (OwnZ 2 wr W0 g cp (1::List.replicate k 0) .i64)/\Below W0 W0 wr) (λ_ i _=>l.length-(intOf i).toNat);case atStart=>exact⟨0,_,_,zero_le _,rfl,rfl,aC,ay⟩
 case round=>
  obtain⟨k,g,cp,hk,rfl,rfl,HO,hb⟩:=hrel;have sb:=hb.size;by_cases a7:k<l.length
  .have zk:(k:Int)<(l.length:Int):=qo
   have ba:Below wr wr (xw wr #[xi 0] 2):=qB;have an:=qH1 (HO.below ba);go_wp2_with (at_builtin;refine yHb _ rfl _ _ rfl W0 g cp (k+1) wr 1 1 (1::List.replicate k 0) [0] rfl rfl (by simp) rfl an.out ?hc ?hl ?hb ?_);case hc=>intro j d hd;(have hj:j=0:=by(have:=qf hd;simp at this;omega));subst hj;obtain rfl:=Option.some.inj hd;simp
   case hl=>simp;omega
   case hb=>simp;omega
   intro g' am w' af aj;have aD:Hid (OwnZ 2 w' W0 g' am (1::List.replicate (k+1) 0) .i64):=by rw[xBb]at af;exact af
   have b1:=hb.trans (ba.mono sb);have aA:=b1.grown aj b1.size (λj hj=>by have:=an.lt.1;cases hj;omega);clear af aj;refine zY ?_;exact⟨k+1,g',am,qo,by go_num,rfl,aD,aA⟩
  .have zk:¬(k:Int)<(l.length:Int):=qo
   have ad:k=l.length:=qo
   subst ad;have aE:Hid (yUb l cnt conds 0 (1::List.replicate l.length 0)):=⟨rfl,λj x hj=>qo⟩;go_wp2;go_loopw[8] (λi wr=>∃(k:Nat) (ds:List Int),k<=l.length/\i=(xi k)/\Hid (yUb l cnt conds k ds/\OwnZ 2 wr W0 g cp ds .i64)/\Below W0 W0 wr) (λi _=>l.length-(intOf i).toNat);case atStart=>exact⟨0,_,zero_le _,rfl,⟨aE.out,HO.out⟩,hb⟩
   case round=>
    obtain⟨k,ds,hk,rfl,HJ,hb⟩:=hrel;have ak:=(yHn HJ.1.flow).len;obtain⟨k0,k1⟩:=HK.out wr hb;by_cases a7:k<l.length
    .have zk:(k:Int)<(l.length:Int):=qo
     have aF:(k:Int)<(l.length:Int)+1:=qo
     obtain⟨x,hx⟩:∃x,l[k]?=some x:=qg a7;obtain⟨op,a,b,free,⟨kind,s,hi,t,lo,up,nn⟩⟩:=x;have HX:=qH2 hx (HH.2 _ (mem_of_getElem? hx));obtain⟨c0,c1,c2,c3,c4,c5,c6,c7,c8,c9,c10⟩:=HE.out wr hb k _ hx;obtain⟨d,hd⟩:∃d,ds[k]?=some d:=qg qo;have HD:=qH1 hd;have hdr:=(yHn HJ.1.flow).ran d (mem_of_getElem? hd);obtain⟨W2,a3⟩:=qW (xw wr #[xi op,xi a,xi b,free,xi kind,s,hi,t,xu lo,xu up,xi nn] 153);have hb2:=qN a3
     have aG:=qS a3
     have HX2:Hid (∀wx,(Chg (λq=>q=g) W2 wx)->xk wx wr 0 (xi op)/\xk wx wr 1 (xi a)/\xk wx wr 2 (xi b)/\xk wx wr 3 free/\xk wx wr 4 (xi kind)/\xk wx wr 5 s/\xk wx wr 6 hi/\xk wx wr 7 t/\xk wx wr 8 (xu lo)/\xk wx wr 9 (xu up)/\xk wx wr 10 (xi nn)):=by
      intro wx hc;have av:¬wr.heap.size=g:=qw HJ.2.lt.2
      refine⟨?_,?_,?_,?_,?_,?_,?_,?_,?_,?_,?_⟩;all_goals rw[hc.cell (by show wr.heap.size<_;omega) (by exact av),a3]
      all_goals simp
     have ao:=qH1 (HJ.2.below hb2);have aa:=hb.trans (hb2.mono hb.size);obtain⟨m0,m1⟩:=HK.out W2 aa;obtain⟨e0,e1⟩:=ao.cell hd;obtain⟨x0,x1,x2,x3,x4,x5,x6,x7,x8,x9,x10⟩:=HX2.out W2 (Chg.refl _ _);clear hx hd ak;go_upto_region 13 with fail;rw[<-a3];clear a3 c0 c1 c2 c3 c4 c5 c6 c7 c8 c9 c10 k0 k1;go_wp2_with fail;refine(yOe ⟨op,a,b,free,⟨kind,s,hi,t,lo,up,nn⟩⟩ (k:Int) (l.length:Int) cnt (conds:Int) _ HX.2).mono ?_;rintro e w3 ⟨r,rfl,hr,ae⟩;have HR:=qH1 hr;have hC3:Chg (λq=>q=g) W2 w3:=Chg.of_below ae;have kw3:=aa.trans (ae.mono aa.size);have k3w:=hb0.trans (kw3.mono qo);clear hr m0 m1 e0 e1 x0 x1 x2 x3 x4 x5 x6 x7 x8 x9 x10;obtain⟨x0,x1,x2,x3,x4,x5,x6,x7,x8,x9,x10⟩:=HX2.out w3 hC3;cases r
     case false=>have HG:Hid (¬P):=λq=>Bool.noConfusion (HR.2 (yC3 (HP.1 q) HX.1));exact zR k3w
     case true=>
     have HGI:=qH1 (HR.1 rfl);have HO3:=qH1 (ao.below ae);have ac:(op=1∨op=2∨op=3∨op=4)∨(op=5/\(k:Int)<b/\b<=(l.length:Int))∨(op=6/\(k:Int)<b/\b<=(l.length:Int)):=by have:=HGI.out;simp only[yCy]at this;omega
     have HLn:=qH1 ((yHn HJ.1.flow).len);have HNt:Hid (∀(wx:World) (a1:List Int) (j:Nat) (jj a6 e':Int),OwnZ 2 wx W0 g cp a1 .i64->a1.length=l.length+1->jj=(j:Int)->a1[j]?=some e'->Calls prog 113 #[xg g (l.length+1) cp,xi jj,xi a6] wx (xIe e' a6 W0 g cp j a1 wx)):=by intro wx a1 j jj a6 e' h1 h2 h3 h4;subst h3;have:=yWe W0 g cp a1 j a6 e' wx h1 h4 qo;rw[h2]at this;exact this
     have aK:=HO3.lt.1;have aJ:IntKind.i64.wrap ((k:Int)+1)=(k:Int)+1:=by rw[IntKind.wrap_i64];omega
     have aH:IntKind.i64.wrap (d+1)=d+1:=by rw[IntKind.wrap_i64];omega
     have aI:IntKind.i64.wrap (d-1)=d-1:=by rw[IntKind.wrap_i64];omega
     rcases ac with ac|⟨rfl,aw,ax⟩|⟨rfl,aw,ax⟩
     .rcases ac with rfl|rfl|rfl|rfl<;>exact zBa
     .by_cases hd0:d=0;case pos=>exact zKl
      have hdz:=qn hd0
      obtain⟨e1,he1⟩:∃e1,ds[k+1]?=some e1:=qg (qw HLn.out);have HS:Hid ((((e1=0∨e1=d)/\1<=d/\d<=250)->yC2 ds k ⟨5,a,b,free,⟨kind,s,hi,t,lo,up,nn⟩⟩=yB1 (d) [b.toNat] (ds.set (k+1) (d)))/\(¬((e1=0∨e1=d)/\1<=d/\d<=250)->yC2 ds k ⟨5,a,b,free,⟨kind,s,hi,t,lo,up,nn⟩⟩=none)):=yJo HD.out (by show¬d<least 5;simp[least];omega) (by show d=d+more 5;simp[more]<;>omega) qo he1 (by simp[ways]);have HE1:=qH1 he1;clear he1;go_wp2_with fail;refine(HNt.out _ ds (k+1) ((k:Int)+1) (d) e1 HO3.out HLn.out qo HE1.out).mono ?_;rintro e w4 ⟨r2,rfl,hr2,hO4,hC4⟩;have HR2:=qH2 hr2 hO4;have hC24:=hC3.trans hC4;have kw4:=Chg.below kw3 hC4 kw3.size (λq hq=>by omega);have k4w:=hb0.trans (kw4.mono qo);clear hr2 hO4 x0 x1 x2 x3 x4 x5 x6 x7 x8 x9 x10;obtain⟨x0,x1,x2,x3,x4,x5,x6,x7,x8,x9,x10⟩:=HX2.out w4 hC24;cases r2
      case false=>exact xIj
      case true=>
      go_wp2_with fail;refine(yE9 5 _).mono ?_;rintro e w5 ⟨r3,rfl,hr3,hb5⟩;have hC25:=hC24.trans (Chg.of_below hb5);have kw5:=kw4.trans (hb5.mono kw4.size);have aq:=hb0.trans (kw5.mono qo);clear x0 x1 x2 x3 x4 x5 x6 x7 x8 x9 x10;obtain⟨x0,x1,x2,x3,x4,x5,x6,x7,x8,x9,x10⟩:=HX2.out w5 hC25;obtain rfl:r3=true:=hr3.2 qo;clear hr3;have ai:(ds.set (k+1) d).length=l.length+1:=by rw[length_set];exact HLn.out
      obtain⟨e2,al⟩:∃e2,(ds.set (k+1) d)[b.toNat]?=some e2:=qg qo;have a9:=qH2 al ai;clear al ai;have az:(0:Int)<=b:=qo
      go_wp2_with fail;refine(HNt.out _ (ds.set (k+1) d) b.toNat b d e2 ((HR2.2 (by simp)).below hb5) a9.2 qo a9.1).mono ?_;rintro e w6 ⟨r4,rfl,a2,a5,ag⟩;have kw6:=Chg.below kw5 ag kw5.size (λq hq=>by omega);have ab:=hb0.trans (kw6.mono qo);have a0:=qH2 a2 a5;clear a2 a5;cases r4
      case false=>have HG:Hid (¬P):=λq=>yG3 HJ.1.flow HX.1 (by rw[HS.1 (HR2.1.1 (by simp)),yB1,yNx a9.1 (λz=>Bool.noConfusion (a0.1.2 ⟨z,(HR2.1.1 (by simp)).2⟩))];rfl) (HP.1 q);exact zR ab
      case true=>
      have HN:=qH2 (HJ.1.next HX.1 HGI.out (by rw[HS.1 (HR2.1.1 (by simp)),yB1,yJp a9.1 (a0.1.1 (by simp)).1];rfl)) (a0.2 (by simp));exact xCi
     .by_cases hd0:d=0;case pos=>exact zKl
      have hdz:=qn hd0
      obtain⟨e1,he1⟩:∃e1,ds[b.toNat]?=some e1:=qg (qw HLn.out);have HS:Hid ((((e1=0∨e1=d)/\1<=d/\d<=250)->yC2 ds k ⟨6,a,b,free,⟨kind,s,hi,t,lo,up,nn⟩⟩=yB1 (d) [] (ds.set (b.toNat) (d)))/\(¬((e1=0∨e1=d)/\1<=d/\d<=250)->yC2 ds k ⟨6,a,b,free,⟨kind,s,hi,t,lo,up,nn⟩⟩=none)):=yJo HD.out (by show¬d<least 6;simp[least];omega) (by show d=d+more 6;simp[more]<;>omega) qo he1 (by simp[ways]);have HE1:=qH1 he1;clear he1;have hC24:=hC3;have kw4:=kw3;have k4w:=k3w;go_wp2_with fail;refine(yE9 6 _).mono ?_;rintro e w5 ⟨r3,rfl,hr3,hb5⟩;have hC25:=hC24.trans (Chg.of_below hb5);have kw5:=kw4.trans (hb5.mono kw4.size);have aq:=hb0.trans (kw5.mono qo);clear x0 x1 x2 x3 x4 x5 x6 x7 x8 x9 x10;obtain⟨x0,x1,x2,x3,x4,x5,x6,x7,x8,x9,x10⟩:=HX2.out w5 hC25;obtain rfl:r3=true:=hr3.2 qo;clear hr3;have az:(0:Int)<=b:=qo
      go_wp2_with fail;refine(HNt.out _ ds b.toNat b d e1 (HO3.below hb5) HLn.out qo HE1.out).mono ?_;rintro e w6 ⟨r4,rfl,a2,a5,ag⟩;have kw6:=Chg.below kw5 ag kw5.size (λq hq=>by omega);have ab:=hb0.trans (kw6.mono qo);have a0:=qH2 a2 a5;clear a2 a5;cases r4
      case false=>have HG:Hid (¬P):=λq=>yG3 HJ.1.flow HX.1 (HS.2 (λz=>Bool.noConfusion (a0.1.2 z))) (HP.1 q);exact zR ab
      case true=>
      have HN:=qH2 (HJ.1.next HX.1 HGI.out (by rw[HS.1 (a0.1.1 (by simp))];rfl)) (a0.2 (by simp));exact xCi
    .have zk:¬(k:Int)<(l.length:Int):=qo
     have ad:k=l.length:=qo
     subst ad;obtain⟨d,hd⟩:∃d,ds[l.length]?=some d:=qg qo;obtain⟨e0,e1⟩:=HJ.2.cell hd;have HF:Hid (P↔d=1):=by show P↔_;rw[HP.out];exact HJ.1.end p0 p1 p2 p3 hd
     have kw:=hb0.trans (hb.mono qo);clear hd ak p0 p1;exact xGg
def yCn (bs:List Bk) (m:Bk):Prop:=bs.length<=200/\yBe m.l m.cnt bs.length/\∀(k:Nat) (x:Bk),bs[k]?=some x->yBe x.l x.cnt k
variable {m:Bk}
theorem yMj {fs:List Bk} {n:Bk} (h:bs.map Bk.vw=fs.map Bk.vw) (hm:m.vw=n.vw) (g:yCn bs m):yCn fs n:=by have hl:=congrArg List.length h;simp only[length_map]at hl;simp only[Bk.vw,Prod.mk.injEq]at hm;refine⟨by rw[<-hl];exact g.1,by rw[<-hl,<-hm.1,<-hm.2];exact g.2.1,λk x hx=>?_⟩;have hk:=qf hx;obtain⟨y,hy⟩:∃y,bs[k]?=some y:=qg qo;have h2:=congrArg (λl=>l[k]?) h;simp only[getElem?_map,hx,hy,Option.map_some,Option.some.injEq,Bk.vw,Prod.mk.injEq]at h2;rw[<-h2.1,<-h2.2];exact g.2.2 k y hy
theorem xB1 {fs:List Bk} {n:Bk} (h:bs.map Bk.vw=fs.map Bk.vw) (hm:m.vw=n.vw):yCn bs m↔yCn fs n:=⟨yMj h hm,yMj h.symm hm.symm⟩
theorem yI7 (u:Value) bs (m:Bk) w (h:yCg w u bs) (hok:∀x∈bs,x.ok) (hm:yAy w m.v m.l) (hmo:m.ok):
  Calls prog 13 #[.agg #[u,m.v,xi m.cnt]] w (yH3 (yCn bs m) w):=by
 obtain⟨P,hP⟩:=qE (yCn bs m:Prop);rw[<-hP];have HP:Hid (P↔yCn bs m):=by show P↔_;rw[hP]
 have HH:=qH4 h hok hm hmo;obtain⟨ua,cap,a5⟩:∃ua cap,u=.slice ua bs.length cap:=by
  rcases h with⟨a,cap,hq,hl⟩|⟨b,off,cap,hq,_⟩
  .subst hl;exact⟨_,_,hq⟩
  .exact⟨_,_,hq⟩
 subst a5;have a9:=hm.cells;clear h hok hm hmo hP;obtain⟨W0,a0⟩:=qW (xw w #[.slice ua bs.length cap,m.v,xi m.cnt] 34);have hb0:=qN a0
 have a4:w.heap.size<W0.heap.size:=by rw[a0];simp
 have HK:Hid (∀wx,Below W0 W0 wx->xk wx w 0 (.slice ua bs.length cap)/\xk wx w 1 m.v/\xk wx w 2 (xi m.cnt)/\yCg wx (.slice ua bs.length cap) bs/\yAy wx m.v m.l):=by
  intro wx hx;refine⟨?_,?_,?_,(HH.1.below hb0).below hx,(HH.2.2.1.below hb0 qr).below hx qr⟩;all_goals rw[hx.cell (by exact a4),a0]
  all_goals simp
 obtain⟨k0,k1,k2,_,hI⟩:=HK.out W0 (Below.refl _ _);have HI:=qH1 hI;clear hI;go_enter func13,ntmps13;go_upto_region 1 with fail;rw[<-a0];clear a0;by_cases p0:bs.length<=200;case neg=>
  have z:(200:Int)<(bs.length:Int):=qo
  exact xAl
 have z0:¬(200:Int)<(bs.length:Int):=qo
 go_wp2_with fail;refine(yFa m bs.length _ HI.out HH.2.2.2 qo).mono ?_;rintro e w1 ⟨r,rfl,hr,a1⟩;have HR:=qH1 hr;have s1:=a1.size;have a3:=hb0.trans (a1.mono qo);clear hr k0 k1 k2;cases r
 case false=>have HG:Hid (¬P):=λq=>Bool.noConfusion (HR.2 (HP.1 q).2.1);exact zR a3
 case true=>
 have HM:=qH1 (HR.1 rfl);go_wp2;go_loopw[3] (λi wr=>∃(k:Nat),k<=bs.length/\i=(xi k)/\Hid (∀(j:Nat) (x:Bk),j<k->bs[j]?=some x->yBe x.l x.cnt j)/\Below W0 W0 wr) (λi _=>bs.length-(intOf i).toNat);case atStart=>exact⟨0,zero_le _,rfl,λj x hj=>qo,a1⟩
 case round=>
  obtain⟨k,hk,rfl,HJ,hb⟩:=hrel;have sb:=hb.size;obtain⟨k0,_,_,hI,_⟩:=HK.out wr hb;by_cases hlt:k<bs.length
  .obtain⟨x,hx⟩:∃x,bs[k]?=some x:=qg hlt;have zk:(k:Int)<(bs.length:Int):=qo
   obtain⟨b0,off,a6,c0,c1,hX⟩:∃b0 off,ua=some ⟨b0,off,none⟩/\xk wr b0 (off+k*2) x.v/\xk wr b0 (off+k*2+1) (xi x.cnt)/\yAy wr x.v x.l:=by
    rcases hI with⟨a,a8,hq,hl⟩|⟨b,off,a8,hq,hE,_⟩
    .subst hl;simp at hlt
    .cases hq
     obtain⟨c0,c1,c2⟩:=hE k x hx;exact⟨b,off,rfl,c0,c1,c2⟩
   have HX:Hid (yAy wr x.v x.l/\x.ok/\bs[k]?=some x):=⟨hX,HH.2.1 x (mem_of_getElem? hx),hx⟩;have hu:=hX.cells;subst a6;clear hI hX hx;go_wp2_with fail;refine(yFa x k _ HX.1 HX.2.1 qo).mono ?_;rintro e w3 ⟨r,rfl,hr,a7⟩;have HR:Hid (r=true↔yBe x.l x.cnt k):=hr;have kb3:Below W0 W0 w3:=hb.trans (a7.mono sb);have a2:Below w w w3:=hb0.trans (kb3.mono qo);clear hr k0 c0 c1;cases r
   case false=>have HG:Hid (¬P):=λq=>Bool.noConfusion (HR.2 ((HP.1 q).2.2 k x HX.2.2));exact zR a2
   case true=>
   exact xGo
  .have zk:¬(k:Int)<(bs.length:Int):=qo
   have HG:Hid P:=HP.2 ⟨p0,HM.out,λj x hx=>HJ.out j x (qw (qf hx)) hx⟩;have kw:Below w w wr:=hb0.trans (hb.mono qo);clear hI p0;exact zR kw
variable {nc:Nat}
theorem xDh {l:List Ix} (hg:yBe l cnt nc) (hok:∀x∈l,x.ok) (hN:N=l.length) (hnk:nk=cnt.toNat) (hI:yB5 W bI oI l) (hb:bI<W.heap.size) (hB:B<tb) (hbB:¬bI=B) (htb:tb<=W.heap.size) (hv:¬1=B) (hNM:NM<=5000000) (p g mb:Nat):LdO ⟨W,B,l,N,bI,oI,cI,cnt,p,g,mb,nk,tb,Ts,NM⟩:=by
 have h3:=hg.2.2.1;have h4:=hg.2.2.2.1;have h2:=hg.2.1;have a0:∀(k:Nat) (x:Ix),l[k]?=some x->x.op=1->yFk [x.leaf]/\(cntK x.leaf.kind->0<=x.a/\x.a<cnt):=λk x hx ho=>by
  rcases yC3 hg hx with q|q|q|q
  .refine⟨q.2.1,λhc=>?_⟩;rcases q.2.2.2 with z|z
   .exact z.2
   .exact absurd hc z.1
  .have:=q.1;omega
  .have:=q.1;omega
  .have:=q.1;omega
 exact {B:=⟨hB,htb,hv⟩,N:=hN,Nl:=by show N<=4000;omega,nk:=by show((nk:Nat):Int)=cnt;omega,nkl:=by show nk<=200;omega,ins:=hI,bI:=⟨hb,hbB⟩,ok:=hok,N0:=hNM,good:=a0}
abbrev dkl (d:Md):Nat×List Ix:=(d.nk,d.l)
abbrev bkl (x:Bk):Nat×List Ix:=(x.cnt.toNat,x.l)
structure LcJ (w:World) (bs:List Bk) (m:Bk) (u mv:Value) (pb k:Nat) (a:Option Addr) (n c:Nat) (d0:Md) (ds:List Md) (Ts:List Tt) (NM:Nat) (wr:World):Prop where
 cod:yA wr w 34 3 w [u,mv,xi m.cnt]
 res:yA wr w 96 2 (w+1) [xh,.pointer none]
 ldr:yA wr w 174 1 (w+1+1+1) [.map (some (w+1+1))]
 prg:yA wr w 96 2 pb [.slice a n c,xp d0.mb]
 row:RowM wr w (.slice a n c) ds
 nl:n=ds.length
 mds:MdsA (w+1+1+1) (w+1+1) NM Ts (d0::ds) wr
 pt:∀X∈Ts,X.t<pb∨pb<X.lo
 rt:∀q,(Value.slice a n c).ownBlock=some q->¬q=w.heap.size+1+1/\∀X∈Ts,X.t<q∨q<X.lo
 pn:w.heap.size+1+1+1<pb
 dm:dkl d0=bkl m
 dsm:ds.map dkl=(bs.take k).map bkl
 below:Below w w wr
theorem LcJ.on {u mv:Value} {pb:Nat} {a:Option Addr} {c:Nat} {d0:Md} {ds:List Md} (h:LcJ w bs m u mv pb k a n c d0 ds Ts NM wr) (hb:Below wr wr W):LcJ w bs m u mv pb k a n c d0 ds Ts NM W:=
 {h with
  cod:=h.cod.below hb,res:=h.res.below hb,ldr:=h.ldr.below hb,prg:=h.prg.below hb,row:=yAh h.row (S:=λ_=>False) (Chg.of_below hb) (λ_ _ q=>q)
  mds:=h.mds.on (S:=λ_=>False) (Chg.of_below hb) (λq z=>z.elim),below:=h.below.trans (hb.mono h.below.size)}
theorem LcJ.load {u mv:Value} {pb:Nat} {a:Option Addr} {c:Nat} {d0:Md} {ds:List Md} {Ts':List Tt} {NM':Nat} {d:Md} (h:LcJ w bs m u mv pb k a n c d0 ds Ts NM wr) (hm:MdsA (w+1+1+1) (w+1+1) NM' Ts' (d0::(ds++ [d])) W) (hc:Chg (λq=>q=w.heap.size+1+1) wr W) (hnw:∀X∈Ts',X∈Ts∨wr.heap.size<=X.lo):
  yA W w 34 3 w [u,mv,xi m.cnt]/\yA W w 96 2 (w+1) [xh,.pointer none]/\yA W w 174 1 (w+1+1+1) [.map (some (w+1+1))]/\yA W w 96 2 pb [.slice a n c,xp d0.mb]/\RowM W w (.slice a n c) ds/\(∀X∈Ts',X.t<pb∨pb<X.lo)/\(∀q,(Value.slice a n c).ownBlock=some q->¬q=w.heap.size+1+1/\∀X∈Ts',X.t<q∨q<X.lo)/\Below w w W:=by
 have a0:=h.pn;have a1:=h.prg.lt;refine⟨h.cod.chg hc qo,h.res.chg hc qo,h.ldr.chg hc qo,h.prg.chg hc qo,yAh h.row hc (λq hq z=>(h.rt q hq).1 z),λX hX=>?_,λq hq=>⟨(h.rt q hq).1,λX hX=>?_⟩,Chg.below h.below hc h.below.size (λq z=>qo)⟩
 .rcases hnw X hX with z|z
  .exact h.pt X z
  .exact .inr qo
 .rcases hnw X hX with z|z
  .exact(h.rt q hq).2 X z
  .have a2:q<wr.heap.size:=by
    rcases h.row.2 with⟨q0,_⟩|⟨g',a3,cur,hv,h1,h2,_⟩
    .rw[q0]at hq;simp[Value.ownBlock]at hq
    .have:=World.ownsRow.lt h.row q hq;exact this.2
   exact .inr qo
theorem TsA.side {S:Nat->Prop} (h:TsA base Ts W) (hc:Chg S W W') (hS:∀q,S q->∀X∈Ts,q<X.lo∨X.t<q) (hv:¬S 1):TsA base Ts W':=
 ⟨λT hT=>⟨(h.at_ T hT).1.chg hc (λq hq z=>qw (hS q hq T hT)) hv,(h.at_ T hT).2⟩,h.apart,h.tab.chg hc hv,h.tabl⟩
variable {T:Tt}
theorem TsA.one (h:TsA base Ts W) (hT:T∈Ts) (hc:Chg (InB T.lo T.hi) W W') (ht:yDm W' T.lo T.hi T.n (.pointer T.mp)):TsA base Ts W':=by
 have hv:¬InB T.lo T.hi 1:=λq=>qv ((h.at_ T hT).1.tab) q.1
 refine⟨λX hX=>?_,h.apart,h.tab.chg hc hv,h.tabl⟩;refine⟨?_,(h.at_ X hX).2⟩;have hx:=(h.at_ X hX).1;have h1:=hx.r1;have h2:=hx.r2;have a1:=(h.at_ T hT).1;have t1:=a1.r1;have t2:=a1.r2;by_cases e:X=T
 .subst e;have hn:¬InB X.lo X.hi X.t:=λq=>qw q.2
  have a0:∀j,W'.cell? (xd X.t j)=W.cell? (xd X.t j):=λj=>hc.cell (p:=(xd X.t j)) hx.lt hn;obtain⟨c0,c1,c2,c3,c4,c5,c6,c7⟩:=hx.ctv;exact⟨⟨(a0 0).trans c0,(a0 1).trans c1,(a0 2).trans c2,(a0 3).trans c3,(a0 4).trans c4,(a0 5).trans c5,(a0 6).trans c6,(a0 7).trans c7⟩,(a0 8).trans hx.low,Nat.lt_of_lt_of_le hx.lt hc.size,ht,h1,h2,hx.tab⟩
 .have a2:X.t<T.lo∨T.t<X.lo:=by
   have hp:=h.apart;clear hc ht hx a1;induction Ts with
   |nil=>cases hX
   |cons Y Ys ih=>
    obtain⟨p1,p2⟩:=List.pairwise_cons.1 hp;rcases mem_cons.1 hX with x1|x1
    .rcases mem_cons.1 hT with y1|y1
     .exact absurd (x1.trans y1.symm) e
     .rw[x1];exact .inr (p1 T y1)
    .rcases mem_cons.1 hT with y1|y1
     .rw[y1];exact .inl (p1 X x1)
     .exact ih ⟨λZ hZ=>h.at_ Z (mem_cons_of_mem _ hZ),p2,h.tab,h.tabl⟩ y1 x1 p2
  exact hx.chg hc (λq hq z=>qv hq.1 hq.2) hv
theorem xB4 (k:Int):EntF (cntF k):=by
 unfold cntF;split
 .exact yOi
 .split
  .exact yWz
  .exact yZu
variable {t:Nat} {ks:List Ctr}
theorem xFp {g cap:Nat} {i:Nat} {k:Ctr} {n:Nd} (hk:cntK n.kind) (h:CkA w base t g cap ks i k n.n) (c:Ent) (hkk:CtK k) (hr:¬c.row=⟨#[]⟩):
  Calls prog (cntF n.kind) #[xp t,c.c] w λe w'=>e=.returned (yCh n k c).1/\yFj w' base g cap (ks.set i (yCh n k c).2)/\Chg (λq=>q=g) w w':=by
 have hc:0<=k.count/\k.count<=1000000:=⟨hkk.lo,qw hkk.up⟩;rcases hk with hk|hk|hk
 .have h1:=yZ2 (n:=n) hkk hr (k.row.toList==c.row.toList && (k.fam.toList==c.fam.toList && k.qual.toList==c.qual.toList)) (by simp[hk]);obtain⟨h2,h3⟩:=xDk h1 qo;rw[show cntF n.kind=189 from by unfold cntF;rw[if_pos hk]];refine(yVq h c hc).mono ?_;rintro e w' ⟨q1,q2,q3⟩;rw[h2]at q1;rw[h3]at q2;exact⟨q1,q2.row,q3⟩
 .have h1:=yZ2 (n:=n) hkk hr (k.row.toList==c.row.toList) (by simp[hk]);obtain⟨h2,h3⟩:=xDk h1 qo;rw[show cntF n.kind=191 from by unfold cntF;rw[if_neg qo,if_pos hk]];refine(yKp h c hc).mono ?_;rintro e w' ⟨q1,q2,q3⟩;rw[h2]at q1;rw[h3]at q2;exact⟨q1,q2.row,q3⟩
 .have h1:=yZ2 (n:=n) hkk hr (k.row.toList==c.row.toList) (by simp[hk]);obtain⟨h2,h3⟩:=xB8 h1 hk;rw[show cntF n.kind=192 from by unfold cntF;rw[if_neg qo,if_neg qo]];refine(yV1 h c hc).mono ?_;rintro e w' ⟨q1,q2,q3⟩;rw[h2]at q1;rw[h3]at q2;exact⟨q1,q2.row,q3⟩
theorem TtA.lfa (h:TtA T W):LfA W T.t T.n (.pointer T.mp) (lowB T.n):=⟨h.ctv.t4,h.ctv.t7,h.low,h.lt⟩
theorem TtA.mv (h:TtA T W):(PatK T.n.kind/\mvB (.pointer T.mp) true)∨(¬PatK T.n.kind/\mvB (.pointer T.mp) false):=by
 rcases h.tst with⟨q,e⟩|⟨q,M,e,_⟩
 .exact .inr ⟨q,.inl ⟨e,rfl⟩⟩
 .exact .inl ⟨q,.inr ⟨M,e,rfl⟩⟩
theorem xFi (T:Tt) (hk:tstK T.n.kind):∃(kh:Nat) (hv:Value),hntV T.n.kind T.t=.func (Fn.func kh) #[hv] #[]/\EntF kh/\∀(c:Ent) (W:World),TtA T W->(xf kh #[hv,c.c] W (yB4 (pfxB T.n.s) T.n c).v:Prop):=by
 have a0:∀(r:Int),hntV T.n.kind T.t=anyV r->(∀c,yB4 (pfxB T.n.s) T.n c=⟨r,⟨#[]⟩⟩)->∃(kh:Nat) (hv:Value),hntV T.n.kind T.t=.func (Fn.func kh) #[hv] #[]/\EntF kh/\∀(c:Ent) (W:World),TtA T W->(xf kh #[hv,c.c] W (yB4 (pfxB T.n.s) T.n c).v:Prop):=λr h1 h2=>
  ⟨_,_,h1,yMp,λc W hT=>by rw[h2 c];exact yL9 ⟨r,⟨#[]⟩⟩ c W⟩
 have a1:hntV T.n.kind T.t=ofT 194 T.t->(∀c W,TtA T W->∃m,mvB (.pointer T.mp) m/\txtH (lowB T.n) m c.row 5 4 6=yB4 (pfxB T.n.s) T.n c)->∃(kh:Nat) (hv:Value),hntV T.n.kind T.t=.func (Fn.func kh) #[hv] #[]/\EntF kh/\∀(c:Ent) (W:World),TtA T W->(xf kh #[hv,c.c] W (yB4 (pfxB T.n.s) T.n c).v:Prop):=λh1 h2=>
  ⟨_,_,h1,yQz,λc W hT=>by
    obtain⟨m,hm,h3⟩:=h2 c W hT
    rw[<-h3]
    exact yPn hT.lfa hm c⟩
 have a2:hntV T.n.kind T.t=ofT 195 T.t->(∀c W,TtA T W->∃m,mvB (.pointer T.mp) m/\txtH (lowB T.n) m c.qual 2 1 3=yB4 (pfxB T.n.s) T.n c)->∃(kh:Nat) (hv:Value),hntV T.n.kind T.t=.func (Fn.func kh) #[hv] #[]/\EntF kh/\∀(c:Ent) (W:World),TtA T W->(xf kh #[hv,c.c] W (yB4 (pfxB T.n.s) T.n c).v:Prop):=λh1 h2=>
  ⟨_,_,h1,yOj,λc W hT=>by
    obtain⟨m,hm,h3⟩:=h2 c W hT
    rw[<-h3]
    exact yNq hT.lfa hm c⟩
 rcases hk with h|h|h|h|h|h|h|h|h|h
 .exact a0 0 (by rw[h];rfl) (λc=>by unfold yB4;simp[h,noH])
 .exact a0 6 (by rw[h];rfl) (λc=>by unfold yB4;simp[h])
 .exact a0 0 (by rw[h];rfl) (λc=>by unfold yB4;simp[h,noH])
 .refine a1 (by rw[h];rfl) (λc W hT=>?_);rcases hT.mv with⟨q,hm⟩|⟨q,hm⟩
  .exact⟨true,hm,by rw[ySx q];unfold yB4 txtH;simp[h]⟩
  .exact absurd (.inl h) q
 .exact a0 3 (by rw[h];rfl) (λc=>by unfold yB4;simp[h])
 .refine a2 (by rw[h];rfl) (λc W hT=>?_);rcases hT.mv with⟨q,hm⟩|⟨q,hm⟩
  .exact⟨true,hm,by rw[ySx q];unfold yB4 txtH;simp[h]⟩
  .exact absurd (.inr (.inr (.inl h))) q
 .exact a0 0 (by rw[h];rfl) (λc=>by unfold yB4;simp[h,noH])
 .refine a1 (by rw[h];rfl) (λc W hT=>?_);exact xCv
 .refine a2 (by rw[h];rfl) (λc W hT=>?_);exact xCv
 .refine⟨_,_,by rw[h];rfl,yTq,λc W hT=>?_⟩;have h9:=yRu hT.lfa c;have h8:yB4 (pfxB T.n.s) T.n c=(if c.ts<T.n.lo then(⟨1,⟨#[]⟩⟩:Hn)else noH):=by unfold yB4;simp[h]
  rw[h8];exact h9
structure MaD (G:MchG) (l:List Ix) (tb lo N:Nat) (Ts:List Tt) (L:List Value):Prop where
 ti:G.TI=TsA tb Ts
 tq:G.T=λq=>∃X∈Ts,X.lo<=q/\q<X.hi
 sp:yFi G.w0 lo G.p N L
 pS:¬G.S G.p
 pT:∀X∈Ts,G.p<X.lo∨X.t<G.p
 gT:∀X∈Ts,G.g<X.lo∨X.t<G.g
 gl:G.g<G.w0.heap.size
 gp:¬G.g=G.p
 gv:¬1=G.g
 cS:∀t vs,yA G.w0 lo 283 2 t vs->(∀X∈Ts,t<X.lo∨X.t<t)->¬G.S t/\¬t=G.g
 xl:∀X∈Ts,X.t<G.w0.heap.size
 don:∀(at_:Nat) (x:Ix),l[at_]?=some x->StpD lo G.g Ts L at_ x G.w0
 good:∀(k:Nat) (x:Ix),l[k]?=some x->x.op=1->yCb x.leaf/\(cntK x.leaf.kind->0<=x.a/\x.a<(G.nk:Int))
theorem xAy {p:Nat} (h:yFi w base p N L) {v:Value} (hv:L[j]?=some v):(xk w p j v:Prop):=by have hj:=qf hv;rw[World.ownsRow.cellAt h j (qw h.1),hv]
theorem xFf {G:MchG} {l:List Ix} {lo:Nat} (hD:MaD G l tb lo N Ts L):xIf G l:=by
 intro at_ x i c ks W hx ho aa a5 a9 aD a3 an;have ao:=(World.ownsRow.lt hD.sp G.p rfl).2;have a1:∀j v,L[at_*13+j]?=some v->(xk W G.p (at_*13+j) v:Prop):=λj v hv=>by rw[aa.cell (p:=(xd G.p _)) ao hD.pS];exact xAy hD.sp hv
 have aB:=aa.size;cases hal:i.alive
 .have au:leafI pfxB x c i ks=(i,ks):=by unfold leafI;rw[if_neg (by simp[hal])]
  refine(yZd hal).mono ?_;rintro e w' ⟨rfl,hb⟩;unfold LfQ;rw[au];have hc:Chg (λ_=>False) W w':=Chg.of_below hb;refine⟨rfl,a9.below hb,a3,?_,hc.mono (λq z=>z.elim)⟩;rw[hD.ti]at a5⊢;exact a5.side hc (λq z=>z.elim) (λz=>z)
 .have hd:=hD.don at_ x hx;have ag:=a1 3 _ (hd.ten 3 _ rfl);have ae:=a1 4 _ (hd.ten 4 _ rfl);have a0:TsA tb Ts W:=by rw[<-hD.ti];exact a5
  rcases hd.leaf ho with⟨a2,t,⟨aC,am⟩,hb,a8,hl2⟩|⟨ac,T,hT,a4,a8,hl2⟩
  .obtain⟨aw,af⟩:=hD.good at_ x hx ho;have af:=af a2;obtain⟨k,hk⟩:∃k,ks[x.a.toNat]?=some k:=qg qo;have ad:=a3 k (mem_of_getElem? hk);obtain⟨ak,al⟩:=hD.cS t _ hb am;have ab:=hb.chg aa ak;have ay:¬(yB i c).row=⟨#[]⟩:=by unfold yB;split<;>exact an
   have a6:StA W G.p (at_*13) x (cntF x.leaf.kind) (xp t) 190 (.agg #[xi (cntR x.leaf.kind),xe]):=⟨ag,ae,a1 11 _ a8,a1 12 _ hl2,qo⟩
   have a7:=yP6 (i:=i) (c:=c) (d:=yB i c) (b:=(yCh x.leaf k c).1) (H:=⟨cntR x.leaf.kind,⟨#[]⟩⟩) (S:=λq=>q=G.g) (R:=λW1 W2=>yFj W2 G.base G.g G.cap (ks.set x.a.toNat (yCh x.leaf k c).2)/\Chg (λq=>q=G.g) W1 W2) hal (xB4 _) yMp a6 rfl (λW1 W2 h=>h.2) (λq hq=>by subst hq;exact⟨qw hD.gl,hD.gp⟩)
    (λW1 hb1=>by
     have az:CkA W1 G.base t G.g G.cap ks x.a.toNat k x.leaf.n:=⟨a9.below hb1,hk,(ab.below hb1).cell (j:=0) rfl,(ab.below hb1).cell (j:=1) rfl,(ab.below hb1).lt.2,al⟩
     refine(xFp a2 az (yB i c) ad ay).mono ?_
     rintro e w' ⟨q1,q2,q3⟩
     rw[yY5]at q1 q2
     exact⟨q1,q2,q3⟩)
    (λW1 _=>yL9 ⟨cntR x.leaf.kind,⟨#[]⟩⟩ (yB i c) W1)
   have av:(⟨cntR x.leaf.kind,⟨#[]⟩⟩:Hn)=yB4 (pfxB x.leaf.s) x.leaf c:=by unfold cntR yB4;rcases a2 with q|q|q<;>simp[q,noH]
   refine a7.mono ?_;rintro e w' ⟨rfl,W1,W2,p1,⟨p2,p3⟩,p4⟩;unfold LfQ;rw[yP7 hal a2 hk,av];have aG:=p1.size;have aF:=p3.size;have aE:=hD.gl;refine⟨rfl,p2.chg p4 (by show¬_<=_;omega),λk' hk'=>?_,?_,?_⟩
   .rcases mem_or_eq_of_mem_set hk' with q|q
    .exact a3 k' q
    .rw[q];exact xE9 ad (by rcases aw.2.2.2 with z|z|z|z|z<;>(unfold cntK at a2;omega))
   .rw[hD.ti];have t1:=a0.side (S:=λ_=>False) (Chg.of_below p1) (λq z=>z.elim) (λz=>z);have t2:=t1.side p3 (λq hq X hX=>by subst hq;exact hD.gT X hX) hD.gv;exact t2.side p4 (λq hq X hX=>.inr (qw (hD.xl X hX))) (by show¬_<=_;have:=a0.tab.lt;omega)
   .refine((Chg.of_below p1).trans (p3.mono (λq hq=>.inl hq))).absorb p4 (λq hq=>.inr hq)
  .have aq:¬cntK x.leaf.kind:=by unfold tstK at ac;unfold cntK;omega
   have aj:=(a0.at_ T hT).1;have aA:=hD.xl T hT;have r1:=aj.r1;have r2:=aj.r2;obtain⟨kh,hv,he,ax,ah⟩:=xFi T (by rw[a4];exact ac);rw[a4]at he ah;rw[he]at hl2;have a6:StA W G.p (at_*13) x 193 (ctvV x.leaf (.pointer T.mp)) kh hv:=⟨ag,ae,a1 11 _ a8,a1 12 _ hl2,qo⟩;have ai:∀W1,LfP W (λW1 W2=>yDm W2 T.lo T.hi T.n (.pointer T.mp)/\Chg (InB T.lo T.hi) W1 W2) W1->TsA tb Ts W1/\Chg (InB T.lo T.hi) W W1:=λW1 h=>by obtain⟨V1,V2,p1,⟨p2,p3⟩,p4⟩:=h;have t1:=a0.side (S:=λ_=>False) (Chg.of_below p1) (λq z=>z.elim) (λz=>z);have t2:=t1.one hT p3 p2;exact⟨t2.side p4 (λq hq X hX=>.inr (qw (hD.xl X hX))) (by show¬_<=_;have:=a0.tab.lt;omega),((Chg.of_below p1).trans p3).absorb p4 (λq hq=>.inr hq)⟩
   have a7:=yP6 (i:=i) (c:=c) (d:=yB i c) (b:=tstB x.leaf (yB i c)) (H:=yB4 (pfxB x.leaf.s) x.leaf c) (S:=InB T.lo T.hi) (R:=λW1 W2=>yDm W2 T.lo T.hi T.n (.pointer T.mp)/\Chg (InB T.lo T.hi) W1 W2) hal yWy ax a6 rfl (λW1 W2 h=>h.2) (λq hq=>⟨qw hq.2,λz=>by have h9:=hD.pT T hT;have:=hq.1;have:=hq.2;omega⟩)
    (λW1 hb1=>by
     have t1:=a0.side (S:=λ_=>False) (Chg.of_below hb1) (λq z=>z.elim) (λz=>z)
     obtain⟨mp,ar,hc⟩:=yWt T.n (yB i c) (.pointer T.mp) W1 T.lo T.hi (t1.at_ T hT).1.tst (qw hb1.size)
     cases ar
     rw[a4]at hc
     refine hc.mono ?_
     rintro e w' ⟨q1,q2⟩
     refine⟨q1,?_,q2.out.2⟩
     rw[a4];exact q2.out.1)
    (λW1 h=>by
     have h9:=ah (yB i c) W1 ((ai W1 h).1.at_ T hT).1
     rw[yZn]at h9
     exact h9)
   refine a7.mono ?_;rintro e w' ⟨rfl,h⟩;obtain⟨t9,c9⟩:=ai w' h;unfold LfQ;rw[yVa hal aq];refine⟨rfl,a9.chg c9 (λq=>?_),a3,by rw[hD.ti];exact t9,c9.mono (λq hq=>.inr ?_)⟩
   .have:=hD.gT T hT;have:=q.1;have:=q.2;omega
   .rw[hD.tq];exact⟨T,hT,hq⟩
theorem zMkB (h:p:=by
 obtain⟨an,han⟩:∃an:Nat,x.a=(an:Int):=⟨x.a.toNat,qo⟩;obtain⟨bv,hbv⟩:∃bv,L.conds[an]?=some bv:=qg (qw HG.2.2.1);obtain⟨bc,oc,hca,hcc,-,-⟩:=HJ.1.cnd an bv hbv;have hnc:(an:Int)<(L.nC:Int):=qv HG.2.2.1 hC.out
 have HBV:Hid (L.conds[x.a.toNat]?=some bv):=by show _=_;rw[han];simpa using hbv
 rw[han]at y1;rw[ho]at y0;have HCA:=qH1 hca;rw[hca];clear hbv ha0 ha1 hca;have zb:((x.b.toNat:Nat):Int)=x.b:=qo
 cases bv
 .have HR:Hid (LkL L x.b.toNat m ks/\at_<x.b.toNat/\x.b.toNat<=L.N/\1<=m.length/\m.length<=250):=
   HL.2.next HG.2.1 hN.out (qw HL.1) HX.out (by unfold stepL;rw[if_neg qo,if_neg qo,if_neg qo,if_neg qo,if_pos ho,if_pos HBV.out]) (by unfold ways;rw[if_pos ho];simp) (by unfold more;rw[if_neg qo,if_neg qo];omega)
  have hr1:=HR.2.1;have hr2:=HR.2.2.1;go_wp2_with fail;(try rw[<-HCA.out]);exact xCr
 .have HR:Hid (LkL L (at_+1) m ks/\at_<at_+1/\at_+1<=L.N/\1<=m.length/\m.length<=250):=
   HL.2.next HG.2.1 hN.out (qw HL.1) HX.out (by unfold stepL;rw[if_neg qo,if_neg qo,if_neg qo,if_neg qo,if_pos ho,if_neg (by rw[HBV.out];simp)]) (by unfold ways;rw[if_pos ho];simp) (by unfold more;rw[if_neg qo,if_neg qo];omega)
  have hr2:=HR.2.2.1;go_wp2_with fail;(try rw[<-HCA.out]);go_roundw;case rel=>exact⟨at_+1,sn,g,cp,m,ks,hr2,hs1,hs2,rfl,by go_num,HJ.1,HL.1,HR.1⟩
  case measure=>simp[intOf];omega):p:=h
theorem zMkJ (h:p:=by
 have zb:((x.b.toNat:Nat):Int)=x.b:=qo
 have HR:Hid (LkL L x.b.toNat m ks/\at_<x.b.toNat/\x.b.toNat<=L.N/\1<=m.length/\m.length<=250):=
  HL.2.next HG.2.1 hN.out (qw HL.1) HX.out (by unfold stepL;rw[if_neg qo,if_neg qo,if_neg qo,if_neg qo,if_neg qo,if_pos ho]) (by unfold ways;rw[if_neg qo,if_pos ho];simp) (by unfold more;rw[if_neg qo,if_neg qo];omega)
 rw[ho]at y0;have hr1:=HR.2.1;have hr2:=HR.2.2.1;go_wp2_with fail;exact xCr):p:=h
theorem zMkD (h:p:=by
 obtain⟨i,hi⟩:∃i,m[tn]?=some i:=qg (qw HL.1);rw[ho]at y0;have t0:=HJ.1.stk.cell yAd hi 0 qo;have t1:=HJ.1.stk.cell yAd hi 1 qo;have t2:=HJ.1.stk.cell yAd hi 2 qo;have t3:=HJ.1.stk.cell yAd hi 3 qo;simp only[getElem?_cons_zero,getElem?_cons_succ,Nat.add_zero]at t0 t1 t2 t3;obtain⟨W3,hW3⟩:=qW (xw wr #[i.alive,i.strip,xi i.hint.rank,i.hint.txt] 181);have HW3:Hid (MkM G L v0 m g cp ks W3/\(∀j u,i.four[j]?=some u->(xk W3 wr j u:Prop))):=by
  have hb3:=qN hW3
  exact⟨HJ.1.on HS.out hb3,by rw[hW3];exact yBm wr i.four _⟩
 have HI:=qH1 hi;have hgl:=HW3.1.stk.lt;have z3:=qS hW3
 clear hi;go_wp2_with (at_builtin;(try rw[<-hW3]);refine yDb yAd _ rfl _ _ 228 rfl underlying228 Tryz.infoIti rfl qj qj yG2 G.w0 g cp (tn+1) wr 1 m i rfl rfl HL.1 HW3.1.stk HW3.2 ?hl ?hb ?_);case hl=>rw[<-HL.1];omega
 case hb=>have:=(HW3.1.all HS.out).size;exact this
 intro g' cp' w' hO' hgr hat';have hgr2:W3.grownBy w' (some g):=by first|exact hgr|(rw[hW3];exact hgr)
 have HR:Hid (LkL L (at_+1) (m++ [i]) ks/\at_<at_+1/\at_+1<=L.N/\1<=(m++ [i]).length/\(m++ [i]).length<=250):=
  HL.2.next HG.2.1 hN.out (qw HL.1) HX.out (by unfold stepL;rw[if_neg qo,if_pos ho,reverse_append,yDr HL.1 HI.out];rfl) (by unfold ways;rw[if_neg qo,if_neg qo];simp) (by unfold more;rw[if_pos ho];simp)
 have HR2:Hid (MkM G L v0 (m++ [i]) g' cp' ks w'/\tn+1+1=(m++ [i]).length):=
  ⟨HW3.1.grow HS.out hO' (by have:=HW3.1.res.lt;rcases hat' with q|q<;>omega) (Chg.of_grown hgr2 (λk hk=>by cases hk;rfl)),by rw[length_append,<-HL.1];rfl⟩
 have hr2:=HR.2.2.1;have hr3:tn+1+1<=250:=qv HR.2.2.2.2 HR2.2
 clear hO' hgr hgr2 hat' hW3;refine zY ?_;exact⟨at_+1,tn+1+1,g',cp',m++ [i],ks,hr2,qo,hr3,rfl,by go_num,HR2.1,HR2.2,HR.1⟩):p:=h
theorem zMkL (h:p:=by
 obtain⟨tn,rfl⟩:∃tn,sn=tn+1:=⟨sn-1,qo⟩;obtain⟨i,hi⟩:∃i,m[tn]?=some i:=qg (qw HL.1);rw[ho]at y0;have HI:=qH1 hi;have HSS:Hid (∀(X:World) (ks:List Ctr),MkM G L v0 m g cp ks X->(λw':World=>xk w' g (tn*4) i.alive/\xk w' g (tn*4+1) i.strip/\xk w' g (tn*4+2) (xi i.hint.rank)/\xk w' g (tn*4+3) i.hint.txt/\xk w' L.w 0 L.c.row/\xk w' L.w 1 L.c.fam/\xk w' L.w 2 L.c.qual/\xk w' L.w 3 (xu L.c.ts)/\xk w' L.w 4 L.c.val) X):=λX ks h1=>
  ⟨h1.stk.cell yAd hi 0 qo,h1.stk.cell yAd hi 1 qo,h1.stk.cell yAd hi 2 qo,h1.stk.cell yAd hi 3 qo,h1.cel.cell (j:=0) rfl,h1.cel.cell (j:=1) rfl,h1.cel.cell (j:=2) rfl,h1.cel.cell (j:=3) rfl,h1.cel.cell (j:=4) rfl⟩
 have HD:=qH1 (HJ.1.on HS.out ((Below.refl _ _).drew));have hS0:=HSS.out wr.drew ks HD.out
 have HLf:Hid (Calls prog 156 #[.pointer (some ⟨G.p,at_*13,none⟩),.agg #[i.alive,i.strip,xi i.hint.rank,i.hint.txt],.agg #[L.c.row,L.c.fam,L.c.qual,xu L.c.ts,L.c.val]] wr.drew (LfQ G x L.c i ks wr.drew)):=
  HS.ok.leaf at_ x i L.c ks wr.drew HX.out ho (HD.all HS.out) HD.ti HD.ctr HD.len HD.cb HRow.out
 obtain⟨iz,hiz⟩:=qE ((leafI pfxB x L.c i ks).1);obtain⟨kz,hkz⟩:=qE ((leafI pfxB x L.c i ks).2);have HIZ:=qH2 hiz hkz
 have HR:Hid (LkL L (at_+1) (m.set tn iz) kz/\at_<at_+1/\at_+1<=L.N/\1<=(m.set tn iz).length/\(m.set tn iz).length<=250):=
  HL.2.next HG.2.1 hN.out (qw HL.1) HX.out (by
   rw[yFm ho (yDr HL.1 HI.out),yNe HL.1,hiz,hkz]) (by unfold ways;rw[if_neg qo,if_neg qo];simp) (by unfold more;rw[if_neg qo,if_neg qo,length_set];omega)
 have hr2:=HR.2.2.1;have hgl:=HJ.1.stk.lt.2;have zt:(tn:Int)<(tn:Int)+1:=qo
 clear hi hiz hkz;go_upto_region 9 with fail;refine yCq [10] (λw':World=>xk w' g (tn*4) i.alive/\xk w' g (tn*4+1) i.strip/\xk w' g (tn*4+2) (xi i.hint.rank)/\xk w' g (tn*4+3) i.hint.txt/\xk w' L.w 0 L.c.row/\xk w' L.w 1 L.c.fam/\xk w' L.w 2 L.c.qual/\xk w' L.w 3 (xu L.c.ts)/\xk w' L.w 4 L.c.val) qk ?_;refine txa 0 hS0 ?_;iterate 7 refine txb hS0 ?_
 refine yA3 (i:=8) qk rfl (λK hK=>?_);go_simp;refine HLf.mono ?_;rintro e w4 ⟨rfl,H4⟩;rw[<-HIZ.1];have HW4:Hid (MkM G L v0 m g cp kz w4):=by obtain⟨k1,k2,k3,k4⟩:=H4.out;rw[<-HIZ.2]at k1 k2;exact HD.leaf HS.out k1 (by rw[HIZ.2];exact yZe _ _ _ _ _) k2 k3 k4
 have hS4:=HSS.out w4 kz HW4.out;clear H4 HLf HD hS0;refine hK.out _ _ (.inr hS4) ?_;clear hK;refine jS ?_;refine txb hS4 ?_;obtain⟨d0,d1,d2,d3,-,-,-,-,-⟩:=hS4;have fz:∀k,w4.frozen? (xd g k)=false:=λk=>World.ownsRow.frozenAt HW4.stk k;have g0:=fz (tn*4);have g1:=fz (tn*4+1);have g2:=fz (tn*4+2);have g3:=fz (tn*4+3);obtain⟨W5,hW5⟩:=qW (setCs w4 g (tn*4) iz.four);have HW5:Hid (MkM G L v0 (m.set tn iz) g cp kz W5/\tn+1=(m.set tn iz).length):=by have hm:=HL.1;exact⟨HW4.grow HS.out (by rw[hW5];exact HW4.stk.setAll yAd (i:=tn) (e:=iz) qo) (.inl rfl) (by rw[hW5];exact yAl (S:=λk=>k=g) g rfl _ _ _),by rw[length_set];exact hm⟩
 simp only[setCs]at hW5;clear fz;refine yA3 (i:=10) qk rfl (λK hK=>?_);go_simp;rw[<-hW5];refine hK.out _ _ (.inl qj) ?_;clear hK hW5 d0 d1 d2 d3 g0 g1 g2 g3;refine jS ?_;refine yD6 qk ?_;refine zY ?_;exact⟨at_+1,tn+1,g,cp,m.set tn iz,kz,hr2,hs1,hs2,rfl,by go_num,HW5.1,HW5.2,HR.1⟩):p:=h
theorem zMkS (h:p:=by
 obtain⟨un,rfl⟩:∃un,tn=un+1:=⟨tn-1,by rw[ho]at hle;unfold least at hle;rw[if_pos qo]at hle;omega⟩;obtain⟨i,hi⟩:∃i,m[un+1]?=some i:=qg (qw HL.1);obtain⟨j,hj⟩:∃j,m[un]?=some j:=qg (qw HL.1);rw[ho]at y0;have HI:=qH2 hi hj;have HD:=qH1 (HJ.1.on HS.out ((Below.refl _ _).drew));have hS0:(λw':World=>xk w' g ((un+1)*4) i.alive/\xk w' g ((un+1)*4+1) i.strip/\xk w' g ((un+1)*4+2) (xi i.hint.rank)/\xk w' g ((un+1)*4+3) i.hint.txt/\xk w' g (un*4) j.alive/\xk w' g (un*4+1) j.strip/\xk w' g (un*4+2) (xi j.hint.rank)/\xk w' g (un*4+3) j.hint.txt) wr.drew:=⟨HD.stk.cell yAd hi 0 qo,HD.stk.cell yAd hi 1 qo,HD.stk.cell yAd hi 2 qo,HD.stk.cell yAd hi 3 qo,HD.stk.cell yAd hj 0 qo,HD.stk.cell yAd hj 1 qo,HD.stk.cell yAd hj 2 qo,HD.stk.cell yAd hj 3 qo⟩;have hgl:=HJ.1.stk.lt.2;have z0:(0:Int)<=(un:Int)+1:=qo
 have z1:(un:Int)<(un:Int)+1:=qo
 have z2:(un:Int)<(un:Int)+1+1:=qo
 have hwu:IntKind.i64.wrap ((un:Nat):Int)=(un:Int):=by rw[IntKind.wrap_i64];omega
 have hnn:0<=(un:Int):=qo
 clear hi hj;go_upto_region 13 with fail;refine yCq [3,4,15,16,17] (λw':World=>xk w' g ((un+1)*4) i.alive/\xk w' g ((un+1)*4+1) i.strip/\xk w' g ((un+1)*4+2) (xi i.hint.rank)/\xk w' g ((un+1)*4+3) i.hint.txt/\xk w' g (un*4) j.alive/\xk w' g (un*4+1) j.strip/\xk w' g (un*4+2) (xi j.hint.rank)/\xk w' g (un*4+3) j.hint.txt) qk ?_;generalize wr.drew=WD at HD hS0⊢;refine txna 3 (.inl qj) (λ_ _ _=>qj) ?_;refine txna 4 (.inl qj) (λ_ _ _=>qj) ?_;refine txa 0 hS0 ?_;iterate 2 refine txb hS0 ?_
 refine txa 5 hS0 ?_;iterate 9 refine txb hS0 ?_
 obtain⟨t0,t1,t2,t3,s0,s1,s2,s3⟩:=hS0;have fz:∀k,WD.frozen? (xd g k)=false:=λk=>World.ownsRow.frozenAt HD.stk k;have e0:=fz (un*4);have e1:=fz (un*4+1);have e2:=fz (un*4+2);have e3:=fz (un*4+3);obtain⟨W6,hW6⟩:=qW (setCs WD g (un*4) i.four);have HW6:Hid (xCd W6 G.w0 g cp (m.set un i)/\Chg (λk=>k=g) WD W6):=by have hm:=HL.1;exact⟨by rw[hW6];exact HD.stk.setAll yAd (i:=un) (e:=i) qo,by rw[hW6];exact yAl (S:=λk=>k=g) g rfl _ _ _⟩
 simp only[setCs]at hW6;refine yA3 (i:=15) qk rfl (λK hK=>?_);go_simp;rw[<-hW6];refine hK.out _ _ (.inl qj) ?_;clear hK hW6 fz t0 t1 t2 t3 s0 s1 s2 s3 e0 e1 e2 e3;refine jS ?_;refine yA3 (i:=16) qk rfl (λK hK=>?_);go_simp;refine hK.out _ _ (.inl qj) ?_;clear hK;refine jS ?_;have hi6:(m.set un i)[un+1]?=some i:=by rw[getElem?_set_ne qo];exact HI.1
 have t0:=HW6.1.cell yAd hi6 0 qo;have t1:=HW6.1.cell yAd hi6 1 qo;have t2:=HW6.1.cell yAd hi6 2 qo;have t3:=HW6.1.cell yAd hi6 3 qo;simp only[getElem?_cons_zero,getElem?_cons_succ,Nat.add_zero]at t0 t1 t2 t3;have fz:∀k,W6.frozen? (xd g k)=false:=λk=>World.ownsRow.frozenAt HW6.1 k;have f0:=fz ((un+1)*4);have f1:=fz ((un+1)*4+1);have f2:=fz ((un+1)*4+2);have f3:=fz ((un+1)*4+3);obtain⟨W9,hW9⟩:=qW (setCs W6 g ((un+1)*4) j.four);have HR2:Hid (MkM G L v0 (m.take un++ [i,j]) g cp ks W9/\un+1+1=(m.take un++ [i,j]).length):=by have hm:=HL.1;have o1:=HW6.1.setAll yAd (i:=un+1) (e:=j) (by rw[length_set];omega);rw[set_comm _ _ qo,yPb HL.1 HI.1 HI.2,<-hW9]at o1;exact⟨HD.grow HS.out o1 (.inl rfl) (HW6.2.trans (by rw[hW9];exact yAl (S:=λk=>k=g) g rfl _ _ _)),by rw[length_append,length_take];simp;omega⟩
 have HR:Hid (LkL L (at_+1) (m.take un++ [i,j]) ks/\at_<at_+1/\at_+1<=L.N/\1<=(m.take un++ [i,j]).length/\(m.take un++ [i,j]).length<=250):=
  HL.2.next HG.2.1 hN.out (qw HL.1) HX.out (by unfold stepL;rw[if_neg qo,if_neg qo,if_pos ho];rw[yNm HL.1 HI.1 HI.2,reverse_append];rfl) (by unfold ways;rw[if_neg qo,if_neg qo];simp) (by unfold more;rw[if_neg qo,if_neg qo,<-HR2.2,<-HL.1];omega)
 have hr2:=HR.2.2.1;simp only[setCs]at hW9;refine yA3 (i:=17) qk rfl (λK hK=>?_);go_simp;rw[<-hW9];refine hK.out _ _ (.inl qj) ?_;clear hK hW9 fz hi6 t0 t1 t2 t3 f0 f1 f2 f3;refine jS ?_;refine yD6 qk ?_;refine zY ?_;exact⟨at_+1,un+1+1,g,cp,m.take un++ [i,j],ks,hr2,qo,hs2,rfl,by go_num,HR2.1,HR2.2,HR.1⟩):p:=h
theorem zMkI (h:p:=by
 obtain⟨un,rfl⟩:∃un,tn=un+1:=⟨tn-1,by rw[ho]at hle;unfold least at hle;rw[if_pos qo]at hle;omega⟩;obtain⟨i,hi⟩:∃i,m[un+1]?=some i:=qg (qw HL.1);obtain⟨j,hj⟩:∃j,m[un]?=some j:=qg (qw HL.1);rw[ho]at y0;have HI:=qH2 hi hj;have HSS:Hid (∀X:World,MkM G L v0 m g cp ks X->(λw':World=>xk w' g ((un+1)*4) i.alive/\xk w' g ((un+1)*4+1) i.strip/\xk w' g ((un+1)*4+2) (xi i.hint.rank)/\xk w' g ((un+1)*4+3) i.hint.txt/\xk w' g (un*4) j.alive/\xk w' g (un*4+1) j.strip/\xk w' g (un*4+2) (xi j.hint.rank)/\xk w' g (un*4+3) j.hint.txt) X):=λX h=>⟨h.stk.cell yAd hi 0 qo,h.stk.cell yAd hi 1 qo,h.stk.cell yAd hi 2 qo,h.stk.cell yAd hi 3 qo,h.stk.cell yAd hj 0 qo,h.stk.cell yAd hj 1 qo,h.stk.cell yAd hj 2 qo,h.stk.cell yAd hj 3 qo⟩;have HD:=qH1 (HJ.1.on HS.out ((Below.refl _ _).drew));have hS0:=HSS.out _ HD.out;have hgl:=HJ.1.stk.lt.2;have z0:(0:Int)<=(un:Int)+1:=qo
 have z1:(un:Int)<(un:Int)+1:=qo
 have z2:(un:Int)<(un:Int)+1+1:=qo
 have hcap:=HJ.1.stk.caps;rw[<-HL.1]at hcap;have hwu:IntKind.i64.wrap ((un:Nat):Int)=(un:Int):=by rw[IntKind.wrap_i64];omega
 have hcu:(un:Int)<=(cp:Int):=qo
 have hnn:0<=(un:Int):=qo
 have HUN:Hid (un<=m.length):=by have:=HL.1;show un<=_;omega
 obtain⟨it,hit⟩:=qE (yTh j i);have HJn:Hid (∀X:World,(xf 157 #[.agg #[j.alive,j.strip,xi j.hint.rank,j.hint.txt],.agg #[i.alive,i.strip,xi i.hint.rank,i.hint.txt]] X it.v:Prop)):=λX=>by rw[hit];exact yTg j i X
 have HIT:=qH1 hit;clear hi hj hit;go_upto_region 15 with fail;refine yCq [15,16] (λw':World=>xk w' g ((un+1)*4) i.alive/\xk w' g ((un+1)*4+1) i.strip/\xk w' g ((un+1)*4+2) (xi i.hint.rank)/\xk w' g ((un+1)*4+3) i.hint.txt/\xk w' g (un*4) j.alive/\xk w' g (un*4+1) j.strip/\xk w' g (un*4+2) (xi j.hint.rank)/\xk w' g (un*4+3) j.hint.txt) qk ?_;refine txa 0 hS0 ?_;iterate 12 refine txb hS0 ?_
 refine yA3 (i:=13) qk rfl (λK hK=>?_);go_simp;refine(HJn.out _).mono ?_;rintro e w4 ⟨rfl,hb4⟩;have HW4:=qH1 (HD.on HS.out hb4);have hS4:=HSS.out _ HW4.out;clear hb4 hS0;refine hK.out _ _ (.inr hS4) ?_;clear hK;refine jS ?_;obtain⟨W5,hW5⟩:=qW (xw w4 #[it.alive,it.strip,xi it.hint.rank,it.hint.txt] 181);have HW5:Hid (MkM G L v0 m g cp ks W5/\(∀j u,it.four[j]?=some u->(xk W5 w4 j u:Prop))):=by
  have k5:=qN hW5
  exact⟨HW4.on HS.out k5,by rw[hW5];exact yBm w4 it.four _⟩
 have hS5:=HSS.out _ HW5.1;refine yA3 (i:=14) qk rfl (λK hK=>?_);go_simp;rw[<-hW5];refine hK.out _ _ (.inr hS5) ?_;clear hK hW5 hS4;refine jS ?_;refine yA3 (i:=15) qk rfl (λK hK=>?_);refine yE yAd W5 rfl _ _ 228 rfl underlying228 Tryz.infoIti rfl qj qj yG2 G.w0 g cp un w4 1 (m.take un) it rfl rfl (by rw[length_take,Nat.min_eq_left HUN.out]) (HW5.1.stk.take yAd HUN.out) HW5.2 (by rw[length_take];omega) (by have:=(HW5.1.all HS.out).size;exact this) ?_;intro g' cp' w' hO' hgr hat';have hlen:(m.take un++ [it]).length=un+1:=by rw[length_append,length_take,Nat.min_eq_left HUN.out];rfl
 have HR:Hid (LkL L (at_+1) (m.take un++ [it]) ks/\at_<at_+1/\at_+1<=L.N/\1<=(m.take un++ [it]).length/\(m.take un++ [it]).length<=250):=
  HL.2.next HG.2.1 hN.out (qw HL.1) HX.out (by unfold stepL;rw[if_neg qo,if_neg qo,if_neg qo,if_pos ho,yNm HL.1 HI.1 HI.2,reverse_append,HIT.out];rfl) (by unfold ways;rw[if_neg qo,if_neg qo];simp) (by unfold more;rw[if_neg qo,if_pos ho,hlen,<-HL.1];omega)
 have HR2:Hid (MkM G L v0 (m.take un++ [it]) g' cp' ks w'/\un+1=(m.take un++ [it]).length):=
  ⟨HW5.1.grow HS.out hO' (by have:=HW5.1.res.lt;rcases hat' with q|q<;>omega) (Chg.of_grown hgr (λk hk=>by cases hk;rfl)),hlen.symm⟩
 have hr2:=HR.2.2.1;clear hO' hgr hat' hlen hS5;refine hK.out _ _ (.inl qj) ?_;clear hK;refine jS ?_;refine yA3 (i:=16) qk rfl (λK hK=>?_);go_simp;refine hK.out _ _ (.inl qj) ?_;clear hK;refine jS ?_;refine yD6 qk ?_;refine zY ?_;exact⟨at_+1,un+1,g',cp',m.take un++ [it],ks,hr2,qo,qo,rfl,by go_num,HR2.1,HR2.2,HR.1⟩):p:=h
theorem zMkZ (h:p:=by
 have t0:=HM.stk.cell yAd (i:=0) (e:=i) rfl 0 qo;have t1:=HM.stk.cell yAd (i:=0) (e:=i) rfl 1 qo;have t2:=HM.stk.cell yAd (i:=0) (e:=i) rfl 2 qo;have t3:=HM.stk.cell yAd (i:=0) (e:=i) rfl 3 qo;simp only[getElem?_cons_zero,getElem?_cons_succ,Nat.zero_mul,Nat.zero_add]at t0 t1 t2 t3;have m2:=HM.box.cell (j:=2) rfl;have e2:=HM.box.frozen 2;have hgm:¬g=G.mb:=qv HM.stk.lt HS.ok.ml
 have hrm:¬L.w.heap.size+1=G.mb:=qo
 have hgr:¬g=L.w.heap.size+1:=qw HM.gsn
 obtain⟨W8,hW8⟩:=qW (xt wr G.mb 2 (xg g 1 cp));have HW8:Hid (yA W8 G.base 230 3 G.mb [xg G.p L.N L.N,xg G.g G.nk G.cap,xg g 1 cp]/\Chg (λq=>q=G.mb) wr W8):=by rw[hW8];exact⟨HM.box.set 2 _,Chg.of_set _ _ _ _ rfl⟩
 have hr8:=HM.res.chg HW8.2 hrm;obtain⟨v1,v2,v3,v4⟩:=hr8.c4;obtain⟨f0,f1,f2,f3⟩:=hr8.f4;have hs8:=HM.stk.chg HW8.2 hgm;obtain⟨u0,u1,u2,u3⟩:=And.intro (hs8.cell yAd (i:=0) (e:=i) rfl 0 qo) (And.intro (hs8.cell yAd (i:=0) (e:=i) rfl 1 qo) (And.intro (hs8.cell yAd (i:=0) (e:=i) rfl 2 qo) (hs8.cell yAd (i:=0) (e:=i) rfl 3 qo)));simp only[getElem?_cons_zero,getElem?_cons_succ,Nat.zero_mul,Nat.zero_add]at u0 u1 u2 u3;obtain⟨W9,hW9⟩:=qW (setCs W8 (L.w+1) 0 i.four);obtain⟨b9,c9⟩:=yEo hr8 hW9;have HR:Hid (LooP G L v0 (.returned i.v) W9):=by
  have ok:=HS.ok;have hw:=HS.chg.size;have h8:=HW8.out;have h9:=ok.ml;have h7:=ok.gl;have hgl:=HM.stk.lt;refine⟨i,ks,xg g 1 cp,HLR.out,rfl,⟨?_,?_,?_,HM.len,HM.cb,h8.1.chg c9 (λq=>hrm q.symm),⟨[i],?_⟩⟩,?_,?_⟩
  .exact((HM.all HS.out).trans (h8.2.mono (λq z=>by subst z;exact ok.mS))).absorb c9 (λq z=>.inr qo)
  .exact ok.ti (λq=>q=L.w.heap.size+1) W8 W9 (ok.ti (λq=>q=G.mb) wr W8 HM.ti h8.2 (λq z=>.inr (.inl z))) c9 (λq z=>.inr (.inr qo))
  .exact(HM.ctr.chg h8.2 (λq=>ok.gm q)).chg c9 qo
  .exact hs8.chg c9 hgr
  .exact((HM.chg.mono (λq z=>z.elim .inl (λz=>.inr (.inr z)))).trans (h8.2.mono (λq z=>.inr (.inl z)))).absorb c9 (λq z=>.inr qo)
  .rcases HM.gsn with q|q
   .exact .inr ⟨g,rfl,qo⟩
   .exact .inl (by rw[q.1];rfl)
 obtain⟨q0,q1,q2,q3⟩:=b9.c4;simp only[setCs,Nat.zero_add,Nat.reduceAdd]at hW9;clear b9 c9 hr8 hs8;go_upto_region 22 with fail;rw[<-hW8];clear hW8 t0 t1 t2 t3 m2 e2;go_wp2;rw[<-hW9];exact bodyPost_ret (v:=i.v) (by simp[results,results104,go_sem,q0,q1,q2,q3]) rfl (by have h9:=HR.out;rw[HV0.out]at h9;exact h9)):p:=h
theorem yP2 (G:MchG) (L:LkG) (v0:Value) (nc:Nat) (hB:yBe L.l L.cnt nc) (hD:yUc L.l L.d) (hnc:nc<=L.conds.length) (cc:Nat) (hN:Hid (L.N=L.l.length)) (hC:Hid (L.nC=L.conds.length)) (hK:(G.nk:Int)=L.cnt)
  (hS:MaOk G L.l) (hI:McI G L.N L.cs0 v0 L.w) (hrow:¬L.c.row=⟨#[]⟩)
  (hcd:∀(i:Nat) (b:Bool),L.conds[i]?=some b->∃bc oc,L.ca=some ⟨bc,oc,none⟩/\xk L.w bc (oc+i) b/\bc<L.w.heap.size/\¬bc=G.g/\¬G.T bc/\¬v0.ownBlock=some bc):
  Calls prog 104 #[xp G.mb,L.c.c,.slice L.ca L.nC cc] L.w (LooP G L v0):=by
 obtain⟨m0,a4⟩:=hI.stk;obtain⟨a0,n0,c0,a2⟩:∃a n c,v0=.slice a n c:=by
  rcases a4.cases with⟨q,_⟩|⟨g,cp,q,_⟩
  .exact⟨_,_,_,q⟩
  .exact⟨_,_,_,q⟩
 subst a2;have ai:L.N<=4000:=qv hB.2.1 hN.out
 have HG:=qH4 hB hD hnc hK;have HRow:=qH1 hrow;have HS:Hid (MaS G L (.slice a0 n0 c0)):=by
  refine⟨hS,hI.chg,λk hk=>?_⟩;rcases a4.cases with⟨q,_⟩|⟨g,cp,q,hO⟩
  .rw[q]at hk;simp[Value.ownBlock]at hk
  .rw[q]at hk;simp[Value.ownBlock]at hk;subst hk;exact hO.lt
 have a5:RowS L.w G.w0 (.slice a0 0 c0) []:=by
  rcases a4.cases with⟨q,_⟩|⟨g,cp,q,hO⟩
  .cases q;exact⟨rfl,.inl ⟨rfl,rfl⟩⟩
  .cases q;exact hO.take yAd (zero_le _)
 have c2:=hI.box.cell (j:=2) rfl;have ag:=hI.box.lt.2;obtain⟨W1,a1⟩:=qW (xw ((L.w.alloc (Obj.cells #[L.c.row,L.c.fam,L.c.qual,xu L.c.ts,L.c.val] 70)).alloc (Obj.cells #[false,false,xi 0,xe] 181)) #[true,false,xi 0,xe] 181);have H1:Hid (yA W1 L.w 70 5 L.w L.c.five/\yA W1 L.w 181 4 (L.w+1) (yBl noH).four/\Below L.w L.w W1/\(∀j u,newI.four[j]?=some u->(xk W1 (L.w+1+1) j u:Prop))/\RowS W1 G.w0 (.slice a0 0 c0) []/\W1.heap.size=L.w.heap.size+1+1+1):=by
  obtain⟨X,hX⟩:=qW (xw L.w #[L.c.row,L.c.fam,L.c.qual,xu L.c.ts,L.c.val] 70);rw[<-hX]at a1;obtain⟨Y,hY⟩:=qW (xw X #[false,false,xi 0,xe] 181);rw[<-hY]at a1;have zx:=qS hX
  have zy:Y.heap.size=L.w.heap.size+1+1:=by rw[hY];simp;omega
  have k1:=qN hX
  have k2:=qN hY
  have k3:=qN a1
  have k9:=(k1.trans (k2.mono qo)).trans (k3.mono qo);have b1:yA X L.w 70 5 L.w L.c.five:=by rw[hX];exact yAa L.w _ qr rfl
  have b2:yA Y L.w 181 4 (L.w+1) (yBl noH).four:=by rw[hY,<-zx];exact yAa X _ qo rfl
  exact⟨(b1.below k2).below k3,b2.below k3,k9,by rw[a1,<-zy];exact yBm Y newI.four _,yAh a5 (S:=λ_=>False) (Chg.of_below k9) (λ_ _ q=>q),by rw[a1];simp;omega⟩
 have HI:=qH1 hI;have a9:=qH1 hcd;clear hB hD hnc hK hS hI hrow hcd a5 a4;go_enter func104,ntmps104;go_wp2_with (at_builtin;(try rw[<-a1]);refine yIn yAd _ rfl _ _ 228 rfl underlying228 Tryz.infoIti rfl qj qj yG2 G.w0 (.slice a0 0 c0) (L.w+1+1) 1 [] newI rfl rfl H1.2.2.2.2.1 H1.2.2.2.1 (zero_le _) ?hb ?_);case hb=>have:=HI.chg.size;have:=H1.2.2.2.2.2;omega
 intro g' cp' w' hO' hgr hat';have hgr2:W1.grownBy w' (Value.slice a0 0 c0).ownBlock:=by first|exact hgr|(rw[a1];exact hgr)
 have HM:Hid (MkM G L (.slice a0 n0 c0) [newI] g' cp' L.cs0 w'):=by
  obtain⟨b1,b2,k9,_,_,hz⟩:=H1.out;have aa:(Value.slice a0 0 c0).ownBlock=(Value.slice a0 n0 c0).ownBlock:=by cases a0<;>rfl
  rw[aa]at hgr2 hat';have hv:=HS.v0;have hc:=Chg.of_grown hgr2 (λk hk=>hk);have a3:=(Chg.of_below k9).trans hc;have hi:=HI.out;have ok:=HS.ok;have hw:=HS.chg.size;refine⟨b1.chg hc (λq=>qw (hv _ q)),b2.chg hc (λq=>qw (hv _ q)),hO',?_,?_,?_,hi.len,hi.cb,?_,?_,a3.mono (λk q=>.inr (.inr q))⟩
  .rcases hat' with q|q
   .exact .inr ⟨q,(hv _ q).2⟩
   .exact .inl (by first|omega|(rw[<-a1]at q;omega))
  .exact ok.ti _ L.w w' hi.ti a3 (λq z=>.inr (.inr (hv _ z).1))
  .exact hi.ctr.chg a3 (λq=>qv (hv _ q) ok.gl)
  .exact hi.box.chg a3 (λq=>qv (hv _ q) ok.ml)
  .intro i b ac;obtain⟨bc,oc,h1,h2,h3,h4,h5,h6⟩:=a9.out i b ac;exact⟨bc,oc,h1,(a3.cell (p:=(xd bc (oc+i))) h3 h6).trans h2,h3,h4,h5,h6⟩
 obtain⟨v0,a2⟩:=qE (.slice a0 n0 c0:Value);rw[<-a2]at HS HM⊢;have HV0:=qH1 a2;clear hO' hgr hgr2 hat' a1 H1 HI a9 c2 a2;go_wp2;go_loopw[7,8] (λsv kv wr=>∃(at_ sn g cp:Nat) (m:List It) (ks:List Ctr),at_<=L.N/\1<=sn/\sn<=250/\sv=(xg g sn cp)/\kv=(xi at_)/\Hid (MkM G L v0 m g cp ks wr/\sn=m.length/\LkL L at_ m ks)) (λ_ kv _=>L.N-(intOf kv).toNat);case atStart=>exact⟨0,1,g',cp',[newI],L.cs0,zero_le _,Nat.le_refl _,qo,rfl,rfl,HM.out,rfl,HG.2.1.start.symm,zero_le _,λr h=>h⟩
 case round=>
  clear HM;obtain⟨at_,sn,g,cp,m,ks,af,hs1,hs2,rfl,rfl,HJ⟩:=hrel;have ak:=HJ.1.box.cell (j:=0) rfl;by_cases hlt:at_<L.N
  .obtain⟨x,hx⟩:∃x,L.l[at_]?=some x:=qg (qw hN.out);obtain⟨y0,y1,y2⟩:=HJ.1.step HS.out hx;have HX:=qH1 hx;clear hx;have z:(at_:Int)<(L.N:Int):=qo
   have HL:=qH1 HJ.2;have a8:=yC3 HG.1 HX.out;have hle:=HL.2.least HG.2.1 (qw HL.1) HX.out;rw[<-HL.1]at hle;rw[<-hN.out]at a8;rcases a8 with⟨ho,ah,ae,aj⟩|⟨ho,a6,ha0,ha1,ab,ad⟩|⟨ho,a6,ha0,ab,ad⟩|⟨ho,a6,ha0,ae⟩
   .as_aux_lemma=>exact zMkL
   .as_aux_lemma=>exact zMkB
   .as_aux_lemma=>exact zMkJ
   .obtain⟨tn,rfl⟩:∃tn,sn=tn+1:=⟨sn-1,qo⟩;rcases ho with ho|ho|ho
    .as_aux_lemma=>exact zMkD
    .as_aux_lemma=>exact zMkS
    .as_aux_lemma=>exact zMkI
  .have z:¬(at_:Int)<(L.N:Int):=qo
   have a7:m.length=1:=by
    have h1:=HJ.2.2.1;have h2:at_=L.l.length:=qw hN.out
    rw[h2,HG.2.1.last]at h1;exact h1
   obtain⟨i,rfl⟩:∃i,m= [i]:=List.length_eq_one_iff.1 a7;obtain rfl:sn=1:=HJ.2.1;have HLR:=qH1 (HJ.2.2.2.2 _ (.fin (by have:=hN.out;show¬at_<_;omega) rfl));have HM:=qH1 HJ.1;clear HJ a7 af hlt;as_aux_lemma=>exact zMkZ
section
def TqB (Ts:List Tt) (q:Nat):Prop:=∃X∈Ts,X.lo<=q/\q<X.hi
def PrgB (Ts:List Tt) (ds:List Md) (q:Nat):Prop:=TqB Ts q∨∃d∈ds,q=d.g∨q=d.mb
def PrgX (tb:Nat) (Ts:List Tt) (ds:List Md) (q:Nat):Prop:=PrgB Ts ds q∨q<tb
def yN2 (W0:World) (tb:Nat) (Ts:List Tt) (ds:List Md) (d:Md):MchG:=⟨W0,TqB Ts,PrgX tb Ts ds,TsA tb Ts,d.p,d.lo,d.g,d.nk,d.nk,d.mb⟩
section
variable {tb B NM:Nat} {Ts:List Tt} {ds:List Md} {W0:World} {d:Md}
theorem MdA.off (h:MdA d Ts W):(∀X∈Ts,d.p<X.lo∨X.t<d.p)/\(∀X∈Ts,d.g<X.lo∨X.t<d.g)/\(∀X∈Ts,d.mb<X.lo∨X.t<d.mb):=by have ho:=h.ord;exact⟨λX hX=>by rcases h.new X hX with q|q<;>omega,λX hX=>by rcases h.new X hX with q|q<;>omega,λX hX=>by rcases h.new X hX with q|q<;>omega⟩
theorem MdsA.noT (h:MdsA tb B NM Ts ds W0) (hq:∀X∈Ts,q<X.lo∨X.t<q):¬TqB Ts q:=fun⟨X,hX,z1,z2⟩=>by
 have:=(h.ts.at_ X hX).1.r2
 rcases hq X hX with z|z<;>omega
theorem xHw (h:MdsA tb B NM Ts ds W0) (hd:d∈ds) (hg:∀(k:Nat) (x:Ix),d.l[k]?=some x->x.op=1->yCb x.leaf/\(cntK x.leaf.kind->0<=x.a/\x.a<(d.nk:Int))):MaD (yN2 W0 tb Ts ds d) d.l tb d.lo d.N Ts d.L:=by
 have hm:=(h.md d hd).1;have a4:=(h.md d hd).2;have a1:=hm.ord;obtain⟨o1,o2,o3⟩:=hm.off;have a3:=h.ts.tabl;have a2:d.g<W0.heap.size:=hm.ctr.lt.2;refine {ti:=rfl,tq:=rfl,sp:=hm.sp,pS:=λq=>?_,pT:=o1,gT:=o2,gl:=a2,gp:=λq=>?_,gv:=?_,cS:=λt vs hb ht=>⟨λq=>?_,λq=>?_⟩,xl:=λX hX=>(h.ts.at_ X hX).1.lt,don:=hm.don,good:=hg}
 .rcases q with(q|⟨d',a0,q|q⟩)|q
  .exact h.noT o1 q
  .exact yAb hm.sp (h.md d' a0).1.ctr qj _ rfl (by rw[show d.p=d'.g from q];rfl)
  .exact yAb hm.sp (h.md d' a0).1.mch qj _ rfl (by rw[show d.p=d'.mb from q];rfl)
  .have q2:d.p<tb:=q;omega
 .exact a1.2.2.1 (show d.p=d.g from(show d.g=d.p from q).symm)
 .show¬1=d.g;omega
 .rcases q with(q|⟨d',a0,q|q⟩)|q
  .exact h.noT ht q
  .exact yAb hb (h.md d' a0).1.ctr qj _ rfl (by rw[q];rfl)
  .exact yAb hb (h.md d' a0).1.mch qj _ rfl (by rw[q];rfl)
  .have:=hb.lt.1;have q2:=q;omega
 .exact yAb hb hm.ctr qj _ rfl (by rw[show t=d.g from q];rfl)
theorem ySw (h:MdsA tb B NM Ts ds W0) (hd:d∈ds) (hg:∀(k:Nat) (x:Ix),d.l[k]?=some x->x.op=1->yCb x.leaf/\(cntK x.leaf.kind->0<=x.a/\x.a<(d.nk:Int))):MaOk (yN2 W0 tb Ts ds d) d.l:=by
 have hD:=xHw h hd hg;have hm:=(h.md d hd).1;have a6:=(h.md d hd).2;have a5:=hm.ord;obtain⟨o1,o2,o3⟩:=hm.off;have a4:=h.ts.tabl;have a0:=(World.ownsRow.lt hm.sp d.p rfl).2;have a2:=hm.ctr.lt.2;have a1:d.mb<W0.heap.size:=hm.mch.lt.2;refine {stp:=λat_ x hx=>?_,pl:=a0,pS:=hD.pS,ti:=λS' W W' hT hc hS=>?_,leaf:=xFf hD,gS:=Or.inl (Or.inr ⟨d,hd,Or.inl rfl⟩),mS:=Or.inl (Or.inr ⟨d,hd,Or.inr rfl⟩),tS:=λq hq=>Or.inl (Or.inl hq),gl:=a2,ml:=a1,tl:=λq hq=>?_,gm:=λq=>?_,tg:=h.noT o2,tm:=h.noT o3}
 .have ht:=(hm.don at_ x hx).ten;exact⟨yDd hm.sp (ht 0 _ rfl),yDd hm.sp (ht 1 _ rfl),yDd hm.sp (ht 2 _ rfl)⟩
 .have a3:TsA tb Ts W:=hT;refine a3.side hc (λq hq X hX=>?_) (λhq=>?_)
  .rcases hS q hq with z|z|z
   .rw[z];exact o2 X hX
   .rw[z];exact o3 X hX
   .have:=(h.ts.at_ X hX).1.lt;exact .inr (Nat.lt_of_lt_of_le this z)
  .have hv:=h.ts.tab.lt;rcases hS _ hq with z|z|z
   .have z2:1=d.g:=z;omega
   .have z2:1=d.mb:=z;omega
   .have z2:W0.heap.size<=1:=z;omega
 .obtain⟨X,hX,z1,z2⟩:=hq;have h1:=(h.ts.at_ X hX).1.lt;have h2:=(h.ts.at_ X hX).1.r2;show q<W0.heap.size;omega
 .have z:d.g=d.mb:=q;omega
theorem xHv (h:MdsA tb B NM Ts ds W0) (hd:d∈ds):McI (yN2 W0 tb Ts ds d) d.N (List.replicate d.nk newC) xh W0:=by have hm:=(h.md d hd).1;exact {chg:=Chg.refl _ _,ti:=h.ts,ctr:=hm.ctr,len:=length_replicate,cb:=λk hk=>by rw[eq_of_mem_replicate hk];exact yZz,box:=hm.mch,stk:=⟨[],⟨rfl,.inl ⟨rfl,rfl⟩⟩⟩}
theorem yJ9 {l:List Ix} (hg:yBe l cnt nc) (hnk:nk=cnt.toNat):∀(k:Nat) (x:Ix),l[k]?=some x->x.op=1->yCb x.leaf/\(cntK x.leaf.kind->0<=x.a/\x.a<(nk:Int)):=λk x hx ho=>by
 have h3:=hg.2.2.1
 rcases yC3 hg hx with q|q|q|q
 .refine⟨yF q.2.1 x.leaf (by simp),λhc=>?_⟩
  rcases q.2.2.2 with z|z
  .have:=z.2;omega
  .exact absurd hc z.1
 .have:=q.1;omega
 .have:=q.1;omega
 .have:=q.1;omega
end
end
abbrev ptB (b:Nat):Value:=(xp b)
abbrev mvW (w:World) (a:Option Addr) (n c mb:Nat) (ca:Option Addr) (cn cc:Nat) (h:Bool):World:=
 (xw ((w.alloc (Obj.cells #[.slice a n c,ptB mb] 96)).alloc (Obj.cells #[.slice ca cn cc] 26)) #[h] 4)
theorem yWi (w:World) (a:Option Addr) (c mb:Nat) (ca:Option Addr) (cn cc:Nat) (h:Bool):
  Calls prog 47 #[.agg #[.slice a 0 c,ptB mb],.slice ca cn cc,h] w λe w'=>e=.returned (.func (Fn.func 103) #[] #[ptB (w+1),ptB w,ptB (w+1+1)])/\w'=mvW w a 0 c mb ca cn cc h:=by
 go_enter func47,ntmps47;go_wp2;go_ret;exact⟨rfl,rfl⟩
theorem yJu (w:World) (a:Option Addr) (n c mb:Nat) (ca:Option Addr) (cn cc:Nat):
  Calls prog 102 #[.agg #[.slice a n c,ptB mb],.slice ca cn cc] w λe w'=>e=.returned (.func (Fn.func 152) #[] #[ptB w,ptB (w+1)])/\w'=(xw (w.alloc (Obj.cells #[.slice a n c,ptB mb] 96)) #[.slice ca cn cc] 26):=by
 go_enter func102,ntmps102;go_wp2;go_ret;exact⟨rfl,rfl⟩
theorem yN1 (w:World) (a:Option Addr) (n c mb:Nat) (hn:(0:Int)<(n:Int)) (ca:Option Addr) (cn cc:Nat) (h:Bool):
  Calls prog 47 #[.agg #[.slice a n c,ptB mb],.slice ca cn cc,h] w λe w'=>e=.returned (.func (Fn.func 152) #[] #[ptB (w+1+1+1),ptB (w+1+1+1+1)])/\w'=(xw ((mvW w a n c mb ca cn cc h).alloc (Obj.cells #[.slice a n c,ptB mb] 96)) #[.slice ca cn cc] 26):=by
 obtain⟨W,hW⟩:=qW (mvW w a n c mb ca cn cc h);have hz:W.heap.size=w.heap.size+1+1+1:=by rw[hW];simp
 have HB:Hid (Calls prog 102 #[.agg #[.slice a n c,ptB mb],.slice ca cn cc] W λe w'=>e=.returned (.func (Fn.func 152) #[] #[ptB (w+1+1+1),ptB (w+1+1+1+1)])/\w'=(xw (W.alloc (Obj.cells #[.slice a n c,ptB mb] 96)) #[.slice ca cn cc] 26)):=by have h9:=yJu W a n c mb ca cn cc;rw[hz]at h9;exact h9
 go_enter func47,ntmps47;rw[<-hW];unfold mvW at hW;clear hz;go_wp2_with fail;rw[<-hW];refine HB.mono ?_;rintro e w' ⟨rfl,rfl⟩;go_wp2;go_ret;exact⟨rfl,by rw[hW]⟩
theorem yMf (w:World) (mb:Nat) (ra:Option Addr) (rn rc:Nat) (ca:Option Addr) (cn cc:Nat):
  Calls prog 155 #[ptB mb,.slice ra rn rc,.slice ca cn cc] w λe w'=>e=.returned (.func (Fn.func 200) #[] #[ptB w,ptB (w+1),ptB (w+1+1)])/\w'=(xw ((w.alloc (Obj.cells #[ptB mb] 94)).alloc (Obj.cells #[.slice ra rn rc] 26)) #[.slice ca cn cc] 118):=by
 go_enter func155,ntmps155;go_wp2;go_ret;exact⟨rfl,rfl⟩
section
def ObT (t:Nat) (W:World) (q:Nat):Prop:=∃cur,W.heap[q]?=some (.cells cur t)
theorem yAk {e size:Nat} {v:Value} {xs:List Value} (h:w.ownsRow base e size v n xs) (hk:v.ownBlock=some k):ObT e w k:=by
 rcases h.2 with⟨q,_⟩|⟨g',a0,cur,hv,_,hh,_⟩
 .rw[q]at hk;simp[Value.ownBlock]at hk
 .rw[hv]at hk;simp[Value.ownBlock]at hk;subst hk;exact⟨_,hh⟩
theorem ObT.one {t':Nat} (h:ObT t W q) (h':ObT t' W q):t=t':=by
 obtain⟨a,ha⟩:=h;obtain⟨b,hb⟩:=h';rw[ha]at hb;cases hb
 rfl
theorem ObT.not {o:Obj} (h:ObT t W q) (ho:W.heap[q]?=some o) (hc:o.isCells=false):False:=by
 obtain⟨a,ha⟩:=h;rw[ha]at ho;cases ho
 simp[Obj.isCells]at hc
structure PgI (W0:World) (tb:Nat) (Ts:List Tt) (all:List Md) (kf:Nat->List Ctr) (vf:Nat->Value) (W:World):Prop where
 mc:∀d∈all,McI (yN2 W0 tb Ts all d) d.N (kf d.mb) (vf d.mb) W
 ap:∀d∈all,∀d'∈all,¬d.mb=d'.mb->∀k,(vf d.mb).ownBlock=some k->¬(vf d'.mb).ownBlock=some k
def PgD (W0:World) (tb:Nat) (Ts:List Tt) (all:List Md) (d:Md) (ks:List Ctr) (v:Value) (W:World):Prop:=∃kf vf,PgI W0 tb Ts all kf vf W/\kf d.mb=ks/\vf d.mb=v
section
variable {tb B NM:Nat} {Ts:List Tt} {all:List Md} {W0:World} {d:Md}
theorem xFa (h:MdsA tb B NM Ts all W0) {d d':Md} (hd:d∈all) (hd':d'∈all) (hne:¬d.mb=d'.mb):d.mb<d'.lo∨d'.mb<d.lo:=by
 obtain⟨i,hi⟩:=List.mem_iff_getElem?.1 hd;obtain⟨j,hj⟩:=List.mem_iff_getElem?.1 hd';obtain⟨li,ei⟩:=List.getElem?_eq_some_iff.1 hi;obtain⟨lj,ej⟩:=List.getElem?_eq_some_iff.1 hj;have hp:=List.pairwise_iff_getElem.1 h.apart;rcases Nat.lt_trichotomy i j with q|q|q
 .have:=hp i j li lj q;rw[ei,ej]at this;exact .inl this
 .subst q;rw[ei]at ej;rw[ej]at hne;exact absurd rfl hne
 .have:=hp j i lj li q;rw[ei,ej]at this;exact .inr this
theorem xEv (h:MdsA tb B NM Ts all W0):PgI W0 tb Ts all (λmb=>match all.find? (λd=>d.mb=mb)with|some d=>List.replicate d.nk newC|none=> []) (λ_=>xh) W0:=by
 refine⟨λd hd=>?_,λd _ d' _ _ k hk=>by simp[Value.ownBlock]at hk⟩;have h9:=xHv h hd;cases hf:all.find? (λx=>x.mb=d.mb)with
 |none=>have:=List.find?_eq_none.1 hf d hd;simp at this
 |some d'=>
  have h1:d'.mb=d.mb:=by simpa using find?_some hf
  have h2:=mem_of_find?_eq_some hf;have:d'=d:=by
   obtain⟨i,hi⟩:=List.mem_iff_getElem?.1 hd;obtain⟨j,hj⟩:=List.mem_iff_getElem?.1 h2;obtain⟨li,ei⟩:=List.getElem?_eq_some_iff.1 hi;obtain⟨lj,ej⟩:=List.getElem?_eq_some_iff.1 hj;have hp:=List.pairwise_iff_getElem.1 h.apart;rcases Nat.lt_trichotomy i j with q|q|q
   .have:=hp i j li lj q;rw[ei,ej]at this;have:=(h.md d' h2).1.ord;omega
   .subst q;rw[ei]at ej;exact ej.symm
   .have:=hp j i lj li q;rw[ei,ej]at this;have:=(h.md d hd).1.ord;omega
  subst this;simpa using h9
theorem PgI.step (h:MdsA tb B NM Ts all W0) {kf:Nat->List Ctr} {vf:Nat->Value} (hI:PgI W0 tb Ts all kf vf W) (hd:d∈all) {ks':List Ctr} {v':Value} (hm:McI (yN2 W0 tb Ts all d) d.N ks' v' W')
  (hc:Chg (λq=>q=d.g∨q=d.mb∨TqB Ts q∨(vf d.mb).ownBlock=some q) W W') (hv:v'.ownBlock=(vf d.mb).ownBlock∨∃k,v'.ownBlock=some k/\W.heap.size<=k):PgI W0 tb Ts all (λq=>if q=d.mb then ks' else kf q) (λq=>if q=d.mb then v' else vf q) W':=by
 have a0:∀d'∈all,∀k,(vf d'.mb).ownBlock=some k->W0.heap.size<=k/\k<W.heap.size:=λd' hd' k hk=>by obtain⟨m,a3⟩:=(hI.mc d' hd').stk;exact World.ownsRow.lt a3 k hk
 refine⟨λd' hd'=>?_,λd1 h1 d2 h2 a1 k hk=>?_⟩
 .by_cases q:d'.mb=d.mb
  .have a5:d'=d:=by
    apply Classical.byContradiction;intro a1;obtain⟨i,hi⟩:=List.mem_iff_getElem?.1 hd;obtain⟨j,hj⟩:=List.mem_iff_getElem?.1 hd';obtain⟨li,ei⟩:=List.getElem?_eq_some_iff.1 hi;obtain⟨lj,ej⟩:=List.getElem?_eq_some_iff.1 hj;have hp:=List.pairwise_iff_getElem.1 h.apart;have o1:=(h.md d hd).1.ord;have o2:=(h.md d' hd').1.ord;rcases Nat.lt_trichotomy i j with z|z|z
    .have:=hp i j li lj z;rw[ei,ej]at this;omega
    .subst z;rw[ei]at ej;exact a1 ej.symm
    .have:=hp j i lj li z;rw[ei,ej]at this;omega
   subst a5;simpa using hm
  .simp only[if_neg q];have hM:=hI.mc d' hd';have m1:=(h.md d hd).1;have m2:=(h.md d' hd').1;obtain⟨o1,o2,o3⟩:=m2.off;have r1:=m1.ord;have r2:=m2.ord;have gl:=m2.ctr.lt.2;have ml:=m2.mch.lt.2;have a8:d.g<W0.heap.size:=m1.ctr.lt.2;have a6:d.mb<W0.heap.size:=m1.mch.lt.2;have a7:=xFa h hd hd' (λz=>q z.symm);refine⟨hm.chg,hm.ti,hM.ctr.chg hc (λz=>?_),hM.len,hM.cb,hM.box.chg hc (λz=>?_),?_⟩
   .have z':d'.g=d.g∨d'.g=d.mb∨TqB Ts d'.g∨(vf d.mb).ownBlock=some d'.g:=z;rcases z' with z|z|z|z
    .omega
    .omega
    .exact h.noT o2 z
    .have:=(a0 d hd _ z).1;omega
   .have z':d'.mb=d.g∨d'.mb=d.mb∨TqB Ts d'.mb∨(vf d.mb).ownBlock=some d'.mb:=z;rcases z' with z|z|z|z
    .omega
    .omega
    .exact h.noT o3 z
    .have:=(a0 d hd _ z).1;omega
   .obtain⟨m,a2⟩:=hM.stk;refine⟨m,yAh a2 hc (λk hk z=>?_)⟩;have:=(a0 d' hd' k hk).1;rcases z with z|z|z|z
    .omega
    .omega
    .obtain⟨X,hX,z1,z2⟩:=z;have:=(h.ts.at_ X hX).1.lt;have:=(h.ts.at_ X hX).1.r2;omega
    .exact hI.ap d hd d' hd' (λe=>q e.symm) k z hk
 .by_cases q1:d1.mb=d.mb
  .have q2:¬d2.mb=d.mb:=λe=>a1 (q1.trans e.symm);simp only[if_pos q1]at hk;simp only[if_neg q2];intro hz;rcases hv with e|⟨k',e,a4⟩
   .rw[e]at hk;exact hI.ap d hd d2 h2 (λe=>q2 e.symm) k hk hz
   .rw[e]at hk;have:=(a0 d2 h2 k hz).2;cases hk
    omega
  .simp only[if_neg q1]at hk;by_cases q2:d2.mb=d.mb
   .simp only[if_pos q2];intro hz;rcases hv with e|⟨k',e,a4⟩
    .rw[e]at hz;exact hI.ap d1 h1 d hd q1 k hk hz
    .rw[e]at hz;have:=(a0 d1 h1 k hk).2;cases hz
     omega
   .simp only[if_neg q2];exact hI.ap d1 h1 d2 h2 a1 k hk
theorem PgI.turn (h:MdsA tb B NM Ts all W0) {kf:Nat->List Ctr} {vf:Nat->Value} (hI:PgI W0 tb Ts all kf vf W) {S:Nat->Prop} (hc:Chg S W W') (hS:∀q,S q->(q<tb/\¬q=1)∨(W0.heap.size<=q/\¬ObT 181 W q)):PgI W0 tb Ts all kf vf W':=by
 refine⟨λd hd=>?_,hI.ap⟩;have hM:=hI.mc d hd;have m1:=(h.md d hd).1;have a6:=(h.md d hd).2;have r1:=m1.ord;have gl:=m1.ctr.lt.2;have ml:=m1.mch.lt.2;have a4:=h.ts.tabl;have a5:=h.ts.tab.lt;have hT:TsA tb Ts W:=hM.ti;obtain⟨m,a0⟩:=hM.stk;have a3:∀q,tb<=q->q<W0.heap.size->¬S q:=λq h1 h2 z=>by
  rcases hS q z with k|k
  .omega
  .omega
 exact {chg:=hM.chg.absorb hc (λq z=>by
      rcases hS q z with k|k
      .exact .inl (Or.inr k.1)
      .exact .inr k.1)
        ti:=hT.side hc (λq z X hX=>by
         have a1:=(h.ts.at_ X hX).1.lt
         have a2:=(h.ts.at_ X hX).2
         rcases hS q z with k|k
         .exact .inl qo
         .exact .inr qo) (λz=>by
         rcases hS _ z with k|k
         .exact k.2 rfl
         .have:=k.1;omega)
        ctr:=hM.ctr.chg hc (a3 _ (by show tb<=d.g;omega) gl)
        len:=hM.len,cb:=hM.cb
        box:=hM.box.chg hc (a3 _ (by show tb<=d.mb;omega) ml)
        stk:=⟨m,yAh a0 hc (λk hk z=>by
         have:=(World.ownsRow.lt a0 k hk).1
         rcases hS k z with q|q
         .have h9:W0.heap.size<=k:=this
          have:=a4
          omega
         .exact q.2 (yAk a0 hk))⟩}
theorem PgD.mc (hd:d∈all) {v:Value} (h:PgD W0 tb Ts all d ks v W):McI (yN2 W0 tb Ts all d) d.N ks v W:=by obtain⟨kf,vf,h1,rfl,rfl⟩:=h;exact h1.mc d hd
theorem PgD.step (h:MdsA tb B NM Ts all W0) (hd:d∈all) {ks':List Ctr} {v v':Value} (hI:PgD W0 tb Ts all d ks v W) (hm:McI (yN2 W0 tb Ts all d) d.N ks' v' W')
  (hc:Chg (λq=>q=d.g∨q=d.mb∨TqB Ts q∨v.ownBlock=some q) W W') (hv:v'.ownBlock=v.ownBlock∨∃k,v'.ownBlock=some k/\W.heap.size<=k):PgD W0 tb Ts all d ks' v' W':=by
 obtain⟨kf,vf,h1,rfl,rfl⟩:=hI;exact⟨_,_,h1.step h hd hm hc hv,by simp,by simp⟩
theorem PgD.turn (h:MdsA tb B NM Ts all W0) {v:Value} (hI:PgD W0 tb Ts all d ks v W) {S:Nat->Prop} (hc:Chg S W W') (hS:∀q,S q->(q<tb/\¬q=1)∨(W0.heap.size<=q/\¬ObT 181 W q)):PgD W0 tb Ts all d ks v W':=by obtain⟨kf,vf,h1,h2,h3⟩:=hI;exact⟨kf,vf,h1.turn h hc hS,h2,h3⟩
def QuB (W0:World) (Ts:List Tt) (all:List Md) (W:World) (q:Nat):Prop:=PrgB Ts all q∨(W0.heap.size<=q/\ObT 181 W q)
theorem McI.qu (hd:d∈all) {v:Value} (h:McI (yN2 W0 tb Ts all d) N ks v W):∀q,(q=d.g∨q=d.mb∨TqB Ts q∨v.ownBlock=some q)->QuB W0 Ts all W q:=λq hq=>by
 rcases hq with z|z|z|z
 .exact .inl (.inr ⟨d,hd,.inl z⟩)
 .exact .inl (.inr ⟨d,hd,.inr z⟩)
 .exact .inl (.inl z)
 .obtain⟨m,hm⟩:=h.stk
  exact .inr ⟨(World.ownsRow.lt hm q z).1,yAk hm z⟩
theorem xBe {Y:Nat->Prop} {A B C:World} (h:Chg (λq=>Y q∨QuB W0 Ts all A q) A B) (k:Chg (λq=>Y q∨QuB W0 Ts all B q) B C):Chg (λq=>Y q∨QuB W0 Ts all A q) A C:=
 ⟨k.os.trans h.os,k.tape.trans h.tape,k.output.trans h.output,Nat.le_trans h.size k.size,λi hi hn=>by
  have h1:=h.block i hi hn
  refine(k.block i (Nat.lt_of_lt_of_le hi h.size) (λz=>hn ?_)).trans h1
  rcases z with z|z|⟨z0,cur,z⟩
  .exact .inl z
  .exact .inr (.inl z)
  .rw[h1]at z;exact .inr (.inr ⟨z0,cur,z⟩)⟩
theorem PrgB.lt (h:MdsA tb B NM Ts all W0) (hq:PrgB Ts all q):tb<=q/\q<W0.heap.size:=by
 rcases hq with⟨X,hX,z1,z2⟩|⟨d,hd,z|z⟩
 .have:=(h.ts.at_ X hX).2;have:=(h.ts.at_ X hX).1.lt;have:=(h.ts.at_ X hX).1.r2;omega
 .have:=(h.md d hd).2;have:=(h.md d hd).1.ord;have:d.g<W0.heap.size:=(h.md d hd).1.ctr.lt.2;omega
 .have:=(h.md d hd).2;have:=(h.md d hd).1.ord;have:d.mb<W0.heap.size:=(h.md d hd).1.mch.lt.2;omega
theorem QuB.noT (h:MdsA tb B NM Ts all W0) (hq:W0.heap.size<=q) (ht:ObT t W q) (hne:¬181=t):¬QuB W0 Ts all W q:=λz=>by
 rcases z with z|z
 .have:=(PrgB.lt h z).2;omega
 .exact hne (z.2.one ht)
theorem QuB.noO (h:MdsA tb B NM Ts all W0) {o:Obj} (hq:W0.heap.size<=q) (ho:W.heap[q]?=some o) (hc:o.isCells=false):¬QuB W0 Ts all W q:=λz=>by
 rcases z with z|z
 .have:=(PrgB.lt h z).2;omega
 .exact z.2.not ho hc
theorem QuB.old (h:MdsA tb B NM Ts all W0) (hq:q<tb) (hw:tb<=W0.heap.size):¬QuB W0 Ts all W q:=λz=>by
 rcases z with z|z
 .have:=(PrgB.lt h z).1;omega
 .have:=z.1;omega
theorem yAt (W:World) (l:Nat) (o:Obj):Chg (λq=>q=l) W (W.putObj l o):=Chg.of_grown (grownBy_putObj' W l o) (λk q=>by cases q;rfl)
end
end
inductive RowR (l:List Ix) (conds:List Bool):List Ent->List Ctr->List Ent->Prop
 |nil (cs:List Ctr):RowR l conds [] cs []
 |cons {c:Ent} {r:List Ent} {cs cs':List Ctr} {i:It} {out:List Ent} (h:LkR pfxB l c conds ⟨0,[newI],cs⟩ (i,cs')) (hr:RowR l conds r cs' out):RowR l conds (c::r) cs (if i.alive=true then yB i c::out else out)
variable {o o':List Ent}
theorem RowR.one {l:List Ix} {conds:List Bool} {row:List Ent} (h:RowR l conds row cs o) (k:RowR l conds row cs o'):o=o':=by
 induction h generalizing o' with
 |nil cs=>cases k;rfl
 |cons h _ ih=>cases k with
  |cons h' k'=>
   have:=h.one h';simp only[Prod.mk.injEq]at this;obtain⟨rfl,rfl⟩:=this;rw[ih k']
variable {out:List Ent} {cs0:List Ctr}
theorem RowR.step {l:List Ix} {conds:List Bool} {row:List Ent} {c:Ent}
  (h:∀o,RowR l conds (row.drop n) cs o->RowR l conds row cs0 (out++o)) (hc:row[n]?=some c) (hl:LkR pfxB l c conds ⟨0,[newI],cs⟩ (i,cs')):
  ∀o,RowR l conds (row.drop (n+1)) cs' o->RowR l conds row cs0 ((if i.alive=true then out++ [yB i c]else out)++o):=by
 intro o ho;obtain⟨hn,hv⟩:=List.getElem?_eq_some_iff.1 hc;have hd:row.drop n=c::row.drop (n+1):=by rw[drop_eq_getElem_cons hn,hv]
 have h1:=h _ (by rw[hd];exact .cons hl ho);cases ha:i.alive
 .rw[ha]at h1;simpa using h1
 .rw[ha]at h1;simpa using h1
theorem RowR.done {l:List Ix} {conds:List Bool} {row:List Ent} (h:∀o,RowR l conds (row.drop n) cs o->RowR l conds row cs0 (out++o)) (hn:row.length<=n):RowR l conds row cs0 out:=by have:=h [] (by rw[drop_eq_nil_of_le hn];exact .nil _);rwa [append_nil]at this
inductive MvR (l:List Ix) (hints:Bool):List Ent->List Ctr->List Ent->Nat->Prop
 |nil (cs:List Ctr):MvR l hints [] cs [] 0
 |cons {c:Ent} {r:List Ent} {cs cs':List Ctr} {i:It} {out:List Ent} {n:Nat} (h:LkR pfxB l c [] ⟨0,[newI],cs⟩ (i,cs')) (hr:MvR l hints (if i.alive=false/\hints=true then r.dropWhile (yAz i.hint c)else r) cs' out n):MvR l hints (c::r) cs (if i.alive=true then yB i c::out else out) (n+1)
theorem MvR.one {l:List Ix} {hints:Bool} {row:List Ent} {n':Nat} (h:MvR l hints row cs o n) (k:MvR l hints row cs o' n'):o=o'/\n=n':=by
 induction h generalizing o' n' with
 |nil cs=>cases k;exact⟨rfl,rfl⟩
 |cons h _ ih=>cases k with
  |cons h' k'=>
   have:=h.one h';simp only[Prod.mk.injEq]at this;obtain⟨rfl,rfl⟩:=this;obtain⟨rfl,rfl⟩:=ih k';exact⟨rfl,rfl⟩
theorem MvR.le {l:List Ix} {hints:Bool} {row:List Ent} (h:MvR l hints row cs o n):n<=row.length/\o.length<=n:=by
 induction h with
 |nil cs=>simp
 |cons h hr ih=>
  rename_i c r cs cs' i out n;have h1:(if i.alive=false/\hints=true then r.dropWhile (yAz i.hint c)else r).length<=r.length:=by
   split
   .exact(dropWhile_sublist _).length_le
   .exact Nat.le_refl _
  rw[length_cons];constructor
  .omega
  .split
   .rw[length_cons];omega
   .omega
theorem yZx {p:Ent->Bool}:∀(es:List Ent),es.drop (es.takeWhile p).length=es.dropWhile p
 | []=>rfl
 |a::es=>by
  rw[takeWhile_cons,dropWhile_cons]
  split
  .rw[length_cons,drop_succ_cons];exact yZx es
  .rfl
theorem MvR.step {l:List Ix} {hints:Bool} {row:List Ent} {m:Nat} {c:Ent}
  (h:∀o k,MvR l hints (row.drop n) cs o k->MvR l hints row cs0 (out++o) (m+k)) (hc:row[n]?=some c) (hl:LkR pfxB l c [] ⟨0,[newI],cs⟩ (i,cs'))
  (hj:j=if i.alive=false/\hints=true then n+1+((row.drop (n+1)).takeWhile (yAz i.hint c)).length else n+1):
  ∀o k,MvR l hints (row.drop j) cs' o k->MvR l hints row cs0 ((if i.alive=true then out++ [yB i c]else out)++o) (m+1+k):=by
 intro o k ho;obtain⟨hn,hv⟩:=List.getElem?_eq_some_iff.1 hc;have hd:row.drop n=c::row.drop (n+1):=by rw[drop_eq_getElem_cons hn,hv]
 have a0:row.drop j=(if i.alive=false/\hints=true then(row.drop (n+1)).dropWhile (yAz i.hint c)else row.drop (n+1)):=by
  rw[hj];split
  .rw[<-yZx,drop_drop]
  .rfl
 rw[a0]at ho;have h1:=h _ _ (by rw[hd];exact .cons hl ho);rw[show m+(k+1)=m+1+k by omega]at h1;cases ha:i.alive
 .rw[ha]at h1;simpa using h1
 .rw[ha]at h1;simpa using h1
theorem MvR.done {l:List Ix} {hints:Bool} {row:List Ent} {m:Nat} (h:∀o k,MvR l hints (row.drop n) cs o k->MvR l hints row cs0 (out++o) (m+k)) (hn:row.length<=n):MvR l hints row cs0 out m:=by have:=h [] 0 (by rw[drop_eq_nil_of_le hn];exact .nil _);rwa [append_nil]at this
inductive CdR (row:List Ent):List (Int×List Ix)->List Bool->List Bool->Prop
 |nil (bs:List Bool):CdR row [] bs bs
 |cons {x:Int×List Ix} {Bs:List (Int×List Ix)} {bs r:List Bool} {o:List Ent} (h:RowR x.2 bs row (List.replicate x.1.toNat newC) o) (k:CdR row Bs (bs++ [decide (0<o.length)]) r):CdR row (x::Bs) bs r
variable {Bs:List (Int×List Ix)} {bs:List Bool}
theorem CdR.one {row:List Ent} {r r':List Bool} (h:CdR row Bs bs r) (k:CdR row Bs bs r'):r=r':=by
 induction h with
 |nil bs=>cases k;rfl
 |cons h _ ih=>cases k with
  |cons h' k'=>
   have:=h.one h';subst this;exact ih k'
theorem CdR.len {row:List Ent} {r:List Bool} (h:CdR row Bs bs r):r.length=bs.length+Bs.length:=by
 induction h with
 |nil bs=>simp
 |cons h _ ih=>rw[ih];simp;omega
theorem CdR.step {row:List Ent} {x:Int×List Ix} (h:∀r,CdR row (Bs.drop n) bs r->CdR row Bs [] r) (hx:Bs[n]?=some x) (ho:RowR x.2 bs row (List.replicate x.1.toNat newC) o):
  ∀r,CdR row (Bs.drop (n+1)) (bs++ [decide (0<o.length)]) r->CdR row Bs [] r:=by
 intro r hr;obtain⟨hn,hv⟩:=List.getElem?_eq_some_iff.1 hx;refine h r ?_;rw[drop_eq_getElem_cons hn,hv];exact .cons ho hr
theorem CdR.done {row:List Ent} (h:∀r,CdR row (Bs.drop n) bs r->CdR row Bs [] r) (hn:Bs.length<=n):CdR row Bs [] bs:=h bs (by rw[drop_eq_nil_of_le hn];exact .nil _)
inductive RwsR (m:Int×List Ix) (Bs:List (Int×List Ix)):List (List Ent)->List Ent->Prop
 |nil:RwsR m Bs [] []
 |cons {row:List Ent} {rs:List (List Ent)} {bs:List Bool} {o out:List Ent} (h:CdR row Bs [] bs) (k:RowR m.2 bs row (List.replicate m.1.toNat newC) o) (hr:RwsR m Bs rs out):RwsR m Bs (row::rs) (o++out)
variable {m:Int×List Ix} {rs:List (List Ent)}
theorem RwsR.one (h:RwsR m Bs rs o) (k:RwsR m Bs rs o'):o=o':=by
 induction h generalizing o' with
 |nil=>cases k;rfl
 |cons h1 h2 _ ih=>cases k with
  |cons k1 k2 k3=>
   have:=h1.one k1;subst this;have:=h2.one k2;subst this;rw[ih k3]
theorem RwsR.step {row:List Ent} (h:∀r,RwsR m Bs (rs.drop n) r->RwsR m Bs rs (out++r)) (hx:rs[n]?=some row) (hc:CdR row Bs [] bs) (ho:RowR m.2 bs row (List.replicate m.1.toNat newC) o):
  ∀r,RwsR m Bs (rs.drop (n+1)) r->RwsR m Bs rs ((out++o)++r):=by
 intro r hr;obtain⟨hn,hv⟩:=List.getElem?_eq_some_iff.1 hx;rw[append_assoc];refine h _ ?_;rw[drop_eq_getElem_cons hn,hv];exact .cons hc ho hr
theorem RwsR.done (h:∀r,RwsR m Bs (rs.drop n) r->RwsR m Bs rs (out++r)) (hn:rs.length<=n):RwsR m Bs rs out:=by have:=h [] (by rw[drop_eq_nil_of_le hn];exact .nil);rwa [append_nil]at this
theorem RowR.len {l:List Ix} {conds:List Bool} {row:List Ent} (h:RowR l conds row cs o):o.length<=row.length:=by
 induction h with
 |nil cs=>simp
 |cons h _ ih=>
  rw[length_cons];split
  .rw[length_cons];omega
  .omega
variable {P:ByteArray->ByteArray}
theorem yX4 {c:Ent} {conds:List Bool} {s:Lk} (h:least x.op<=(s.st.length:Int)):
  (((stepL P c conds x s).st.length:Nat):Int)=s.st.length+more x.op/\(stepL P c conds x s).at_∈ways s.at_ x:=by
 obtain⟨at_,st,cs⟩:=s;unfold stepL least more ways at*;simp only at h⊢;by_cases h1:x.op=1
 .simp only[h1,if_pos,if_true,show¬((1:Int)=3∨(1:Int)=4)by omega,if_false]at h⊢;cases st with
  |nil=>simp at h
  |cons i r=>simp
 by_cases h2:x.op=2
 .simp only[h2,show¬((2:Int)=3∨(2:Int)=4)by omega,if_false]at h⊢;cases st with
  |nil=>simp at h
  |cons i r=>simp
 by_cases h3:x.op=3
 .simp only[h3]at h⊢;match st,h with
  | [],h=>simp at h
  | [i],h=>simp at h
  |i::j::r,h=>simp
 by_cases h4:x.op=4
 .simp only[h4]at h⊢;match st,h with
  | [],h=>simp at h
  | [i],h=>simp at h
  |i::j::r,h=>simp;omega
 by_cases h5:x.op=5
 .simp only[h5];by_cases hc:conds[x.a.toNat]?=some false
  .simp[hc]
  .simp[hc]
 by_cases h6:x.op=6
 .simp[h6]
 .simp[h1,h2,h3,h4,h5,h6]
theorem lkR_ex' {l:List Ix} {c:Ent} {conds:List Bool} {d:Nat->Nat} (hD:yUc l d):∀(n:Nat) (s:Lk),l.length-s.at_<=n->s.at_<=l.length->s.st.length=d s.at_->1<=s.st.length->∃r,LkR P l c conds s r:=by
 intro n;induction n with
 |zero=>
  intro s h1 h2 h3 h4;have h5:s.at_=l.length:=qo
  rw[h5,hD.last]at h3;obtain⟨i,hi⟩:=List.length_eq_one_iff.1 h3;exact⟨_,.fin qo hi⟩
 |succ n ih=>
  intro s h1 h2 h3 h4;by_cases hlt:s.at_<l.length
  .obtain⟨x,hx⟩:∃x,l[s.at_]?=some x:=qg hlt;obtain⟨a,b,e⟩:=hD.step _ x hx qo;rw[<-h3]at a b e;obtain⟨k1,k2⟩:=yX4 (P:=P) (c:=c) (conds:=conds) a;obtain⟨e1,e2,e3⟩:=e _ k2;have hm:1<=(s.st.length:Int)+more x.op:=by unfold least at a;unfold more;split at a<;>split<;>(try split)<;>omega
   obtain⟨r,hr⟩:=ih (stepL P c conds x s) qo e3 qo qo;exact⟨r,.step hx hr⟩
  .have h5:s.at_=l.length:=qo
   rw[h5,hD.last]at h3;obtain⟨i,hi⟩:=List.length_eq_one_iff.1 h3;exact⟨_,.fin qo hi⟩
theorem xHx {l:List Ix} (h:yBe l cnt nc) c (conds:List Bool) cs:∃r,LkR P l c conds ⟨0,[newI],cs⟩ r:=by obtain⟨d,hD⟩:=yIz h;exact lkR_ex' hD l.length ⟨0,[newI],cs⟩ (by simp) (zero_le _) (by simp[hD.start]) (by simp)
theorem yYe {l:List Ix} (h:yBe l cnt nc) (conds:List Bool):∀(row:List Ent) (cs:List Ctr),∃o,RowR l conds row cs o
 | [],cs=>⟨_,.nil cs⟩
 |c::r,cs=>by
  obtain⟨⟨i,cs'⟩,h1⟩:=xHx (P:=pfxB) h c conds cs
  obtain⟨o,h2⟩:=yYe h conds r cs'
  exact⟨_,.cons h1 h2⟩
theorem yZ {l:List Ix} (h:yBe l cnt nc) {c:Ent} {b b':List Bool} (hb:∀i,i<nc->b[i]?=b'[i]?) {s:Lk} {r:It×List Ctr} (hk:LkR P l c b s r):LkR P l c b' s r:=by
 induction hk with
 |fin h hs=>exact .fin h hs
 |step hx _ ih=>
  rename_i s x r _;refine .step hx ?_;have:stepL P c b' x s=stepL P c b x s:=by
   by_cases h5:x.op=5
   .have hi:b[x.a.toNat]?=b'[x.a.toNat]?:=by
     refine hb _ ?_;rcases yC3 h hx with q|q|q|q
     .have:=q.1;omega
     .have:=q.2.2.1;have:=q.2.2.2.1;omega
     .have:=q.1;omega
     .have:=q.1;omega
    simp[stepL,h5,hi]
   .simp[stepL,h5]
  rw[this];exact ih
end Go.Proofs.YtnnagkfoiganfaaGreatDoor
