import Derived.Test.YtehfleefkdojpaaGreatDoorSkAK
import Derived.Test.YtehfleefkdojpaaGreatDoorSkAL
namespace Go.Proofs.YtehfleefkdojpaaGreatDoor
open Go.ChangeShapes Go.WideShapes Go.ChangeAt Go.RowKit Go.Deep _root_.List _root_.Nat Go.Proofs.Tryz
set_option linter.unusedVariables false
set_option linter.unusedSimpArgs false
set_option maxRecDepth 100000
set_option maxHeartbeats 16000000
def ChT(x:Nat)(tb out:List Tb):Prop:=(x%4=0->CmsT tb (letB (x/4)) out)/\(x%4=1->MrgT tb (letB (x/4)) out)/\(¬x%4=0->¬x%4=1->SplT tb (letB (x/4)) out)
theorem ChT.uniq{x:Nat}{tb o1 o2:List Tb}(h:ChT x tb o1)(k:ChT x tb o2):o1=o2:=by
 by_cases h0:x%4=0
 .exact yVh (h.1 h0) (k.1 h0)
 .by_cases h1:x%4=1
  .exact yUd (h.2.1 h1) (k.2.1 h1)
  .exact yTm (h.2.2 h0 h1) (k.2.2 h0 h1)
variable {out:List Tb}
theorem ChT.good{x:Nat}{tb:List Tb}(h:ChT x tb out)(hd:yCa tb):yCa out/\yHg out tb:=by
 by_cases h0:x%4=0
 .have:=yIy hd.good (h.1 h0);exact⟨hd.less this.1 (yQ8 hd.good (h.1 h0)),this.2⟩
 .by_cases h1:x%4=1
  .have:=yGy hd.good (h.2.1 h1);exact⟨hd.less this.1 (yQw hd.good (h.2.1 h1)),this.2⟩
  .have:=yIs hd.good (h.2.2 h0 h1);exact⟨hd.less this.1 (yQm hd.good (h.2.2 h0 h1)),this.2⟩
def ChP(Q:List Tb->Prop)(w:World)(e:Ending)(w':World):Prop:=∃(a:Option Addr)(m c:Nat)(out:List Tb),e=.returned (.agg #[.slice a m c])/\Hid ((∃xs,yBs w' w.heap.size (.slice a m c) xs/\xs.map Tx.tb=out)/\GoodS out/\Q out/\Below w.heap.size w w')
variable {Q:List Tb->Prop} {w:World}
theorem ChP.ofI{e:Ending}{w':World}(h:yD9 w out e w')(hg:GoodS out)(hq:Q out):ChP Q w e w':=by obtain⟨g,cp,xs,rfl,hS,_,hx,hb⟩:=h;exact⟨_,_,_,out,rfl,⟨xs,hS,hx⟩,hg,hq,hb⟩
theorem ChP.ofS{e:Ending}{w':World}(h:yBy w out e w')(hg:GoodS out)(hq:Q out):ChP Q w e w':=by
 obtain⟨v,xs,rfl,hS,hx,hb⟩:=h;obtain⟨a,m,c,rfl⟩:∃a m c,v=.slice a m c:=by rcases hS.row with⟨_,a,c,q⟩|⟨g,cp,q,_⟩<;>exact⟨_,_,_,q⟩
 exact⟨a,m,c,out,rfl,⟨xs,hS,hx⟩,hg,hq,hb⟩
theorem ChP.on{Q':List Tb->Prop}{w1 w2:World}{p:Nat}{a:Option Addr}{m c:Nat}(h:Hid ((∃xs,yBs w2 w1.heap.size (.slice a m c) xs/\xs.map Tx.tb=out)/\GoodS out/\Q out/\Below w1.heap.size w1 w2))(hq:Q out->Q' out)(hb:Below w.heap.size w w1)(hp:w.heap.size<=p)(hp1:p<w1.heap.size):ChP Q' w (.returned (.agg #[.slice a m c])) (w2.setCell ⟨p,0,none⟩ (.slice a m c)):=by obtain⟨⟨xs,hS,hx⟩,hg,hQ,hb2⟩:=h.out;have hs:=hb.size;refine⟨a,m,c,out,rfl,⟨xs,?_,hx⟩,hg,hq hQ,(hb.trans (hb2.mono hs)).setCell (by exact hp) _⟩;exact(hS.chg (Chg.of_set (S:=λk=>k=p) _ _ _ _ rfl) (λk hk _ q=>by omega)).mono hs
theorem yOh{v:Value}{tb:List Tb}(h:StAt w v tb)(hd:yCa tb)(row:ByteArray)(hr:row.size<=64):Calls prog 32 #[.agg #[v],.string row] w (ChP (SplT tb row) w):=by obtain⟨g,cp,ts,rfl,hT,ht,hB,hc,hm⟩:=h;obtain⟨s1,s2⟩:=hd.sizes ht;refine(yJ0 g 0 cp ts row w hT (hd.oks ht) hB (by omega) (by omega) hc hm (λt q=>by have:=s2 t q;omega)).mono ?_;rintro e w' ⟨out,hS,hP⟩;rw[ht]at hS;exact ChP.ofI hP (yIs hd.good hS).1 hS
theorem yOj{v:Value}{tb:List Tb}(h:StAt w v tb)(hd:yCa tb)(row:ByteArray):Calls prog 31 #[.agg #[v],.string row] w (ChP (MrgT tb row) w):=by
 obtain⟨g,cp,ts,rfl,hT,ht,hB,hc,hm⟩:=h;obtain⟨s1,s2⟩:=hd.sizes ht;refine(yJ2 g 0 cp ts row w hT (hd.oks ht) hB (by omega) hc hm (λt q=>by have:=s2 t q;omega) (λi t n q r=>by
  have h1:=s2 t (mem_of_getElem? q)
  have h2:=s2 n (mem_of_getElem? r)
  rw[yI6]
  omega)).mono ?_
 rintro e w' ⟨out,hS,hP⟩;rw[ht]at hS;exact ChP.ofI hP (yGy hd.good hS).1 hS
theorem yKq{v:Value}{tb:List Tb}(h:StAt w v tb)(hd:yCa tb)(row:ByteArray):Calls prog 30 #[.agg #[v],.string row] w (ChP (CmsT tb row) w):=by obtain⟨g,cp,ts,rfl,hT,ht,hB,hc,hm⟩:=h;obtain⟨s1,s2⟩:=hd.sizes ht;refine(yHy g 0 cp ts row w hT (hd.oks ht) hB (by omega) hc hm (λt q=>by have:=s2 t q;omega)).mono ?_;rintro e w' ⟨out,hS,hP⟩;rw[ht]at hS;exact ChP.ofI hP (yIy hd.good hS).1 hS
theorem yNe{v:Value}{tb:List Tb}(h:StAt w v tb)(hd:yCa tb)(row:ByteArray)(hr:row.size<=64):Calls prog 35 #[.agg #[v],.string row] w (ChP (SplT tb row) w):=by obtain⟨g,cp,ts,rfl,hT,ht,hB,hc,hm⟩:=h;obtain⟨s1,s2⟩:=hd.sizes ht;refine(yFn g 0 cp ts row w hT (hd.oks ht) hB (by omega) (by omega) (λt q=>by have:=s2 t q;omega)).mono ?_;rintro e w' ⟨out,hS,hP⟩;rw[ht]at hS;exact ChP.ofS hP (yIs hd.good hS).1 hS
theorem yNg{v:Value}{tb:List Tb}(h:StAt w v tb)(hd:yCa tb)(row:ByteArray):Calls prog 34 #[.agg #[v],.string row] w (ChP (MrgT tb row) w):=by obtain⟨g,cp,ts,rfl,hT,ht,hB,hc,hm⟩:=h;obtain⟨s1,s2⟩:=hd.sizes ht;refine(yFo g 0 cp ts row w hT (hd.oks ht) hB (by omega) (λt q=>by have:=s2 t q;omega)).mono ?_;rintro e w' ⟨out,hS,hP⟩;rw[ht]at hS;exact ChP.ofS hP (yGy hd.good hS).1 hS
theorem yKk{v:Value}{tb:List Tb}(h:StAt w v tb)(hd:yCa tb)(row:ByteArray):Calls prog 33 #[.agg #[v],.string row] w (ChP (CmsT tb row) w):=by obtain⟨g,cp,ts,rfl,hT,ht,hB,hc,hm⟩:=h;obtain⟨s1,s2⟩:=hd.sizes ht;refine(yEu g 0 cp ts row w hT (hd.oks ht) hB (by omega) (λt q=>by have:=s2 t q;omega)).mono ?_;rintro e w' ⟨out,hS,hP⟩;rw[ht]at hS;exact ChP.ofS hP (yIy hd.good hS).1 hS
theorem yMg(a:Option Addr)(m c:Nat)(tb:List Tb)(x:Nat)(w:World)(h:StAt w (.slice a m c) tb)(hd:yCa tb)(hx:x<256):Calls prog 8 #[.agg #[.slice a m c],.int .i64 x] w (ChP (ChT x tb) w):=by
 obtain⟨Wa,y⟩:=qE ((w.alloc (Obj.cells #[.slice a m c] 28)).alloc (Obj.cells #[.slice none 0 0] 28):World);have a4:Below w.heap.size w Wa:=by rw[y];exact(qB).alloc (by simp) _
 have a7:Wa.heap.size=w.heap.size+1+1:=by rw[y];simp
 have HC:Hid (∀wx,Below Wa.heap.size Wa wx->wx.cell? ⟨w.heap.size,0,none⟩=some (.slice a m c)/\wx.cell? ⟨w.heap.size+1,0,none⟩=some (.slice none 0 0)/\wx.frozen? ⟨w.heap.size+1,0,none⟩=false/\StAt wx (.slice a m c) tb):=by
  intro wx hb;refine⟨?_,?_,?_,(h.below a4).below hb⟩
  .rw[hb.cell (p:=⟨w.heap.size,0,none⟩) (by show w.heap.size<_;omega),y];simp[go_sem]
  .rw[hb.cell (p:=⟨w.heap.size+1,0,none⟩) (by show w.heap.size+1<_;omega),y];simp[go_sem]
  .rw[hb.frozen (p:=⟨w.heap.size+1,0,none⟩) (by show w.heap.size+1<_;omega),y];simp[go_sem]
 have HD:Hid (yCa tb):=hd;clear h hd;go_enter func8,ntmps8;go_upto_region 1 with fail;rw[<-y];clear y;have a6:IntKind.i64.wrap ((x:Int)/4)=((x/4:Nat):Int):=by rw[IntKind.wrap_i64];omega
 go_wp2_with fail;try rw[a6]
 refine(yH9 ((x/4:Nat):Int) _ (by omega) (by omega)).mono ?_;rintro e w1 ⟨rfl,hb1⟩;rw[Int.toNat_natCast];obtain⟨row,a3⟩:=qE (letB (x/4));have a5:Hid (row=letB (x/4)/\row.size<=64):=⟨a3,by rw[a3];have:=yN3 (x/4);omega⟩;rw[<-a3];clear a3 a6;have s1:=hb1.size;obtain⟨c0,r0,r1,hS⟩:=HC.out w1 hb1;have HS:Hid (StAt w1 (.slice a m c) tb):=hS;clear hS;by_cases h0:x%4=0
 .have z0:(x:Int)%4=0:=by omega
  have z1:((x:Int)%4==0)=true:=by rw[beq_iff_eq];omega
  have a0:Hid (Calls prog 30 #[.agg #[.slice a m c],.string row] w1 (ChP (CmsT tb row) w1)):=yKq HS.out HD.out row;go_wp2_with fail;refine a0.mono ?_;rintro e w2 ⟨a2,m2,c2,out,rfl,HO⟩;obtain⟨d0,d1,d2,_⟩:=HC.out w2 (hb1.trans (HO.2.2.2.mono s1));have HF:Hid (ChP (ChT x tb) w (.returned (.agg #[.slice a2 m2 c2])) (w2.setCell ⟨w.heap.size+1,0,none⟩ (.slice a2 m2 c2))):=ChP.on HO (λq=>⟨λ_=>by rw[<-a5.1];exact q,λk=>by omega,λk=>absurd h0 k⟩) (a4.trans (hb1.mono (by omega))) (by omega) (by omega);exact yX4
 have z0:¬(x:Int)%4=0:=by omega
 have z1:((x:Int)%4==0)=false:=by rw[beq_eq_false_iff_ne];omega
 by_cases h1:x%4=1
 .have z2:(x:Int)%4=1:=by omega
  have z3:((x:Int)%4==1)=true:=by rw[beq_iff_eq];omega
  have a0:Hid (Calls prog 31 #[.agg #[.slice a m c],.string row] w1 (ChP (MrgT tb row) w1)):=yOj HS.out HD.out row;go_wp2_with fail;refine a0.mono ?_;rintro e w2 ⟨a2,m2,c2,out,rfl,HO⟩;obtain⟨d0,d1,d2,_⟩:=HC.out w2 (hb1.trans (HO.2.2.2.mono s1));have HF:Hid (ChP (ChT x tb) w (.returned (.agg #[.slice a2 m2 c2])) (w2.setCell ⟨w.heap.size+1,0,none⟩ (.slice a2 m2 c2))):=ChP.on HO (λq=>⟨λk=>absurd k h0,λ_=>by rw[<-a5.1];exact q,λ_ k=>absurd h1 k⟩) (a4.trans (hb1.mono (by omega))) (by omega) (by omega);exact yX4
 have z2:¬(x:Int)%4=1:=by omega
 have z3:((x:Int)%4==1)=false:=by rw[beq_eq_false_iff_ne];omega
 have a0:Hid (Calls prog 32 #[.agg #[.slice a m c],.string row] w1 (ChP (SplT tb row) w1)):=yOh HS.out HD.out row a5.2;go_wp2_with fail;refine a0.mono ?_;rintro e w2 ⟨a2,m2,c2,out,rfl,HO⟩;obtain⟨d0,d1,d2,_⟩:=HC.out w2 (hb1.trans (HO.2.2.2.mono s1));have HF:Hid (ChP (ChT x tb) w (.returned (.agg #[.slice a2 m2 c2])) (w2.setCell ⟨w.heap.size+1,0,none⟩ (.slice a2 m2 c2))):=ChP.on HO (λq=>⟨λk=>absurd k h0,λk=>absurd k h1,λ_ _=>by rw[<-a5.1];exact q⟩) (a4.trans (hb1.mono (by omega))) (by omega) (by omega);exact yX4
theorem yG1(a:Option Addr)(m c:Nat)(tb:List Tb)(x:Nat)(w:World)(h:StAt w (.slice a m c) tb)(hd:yCa tb)(hx:x<256):Calls prog 10 #[.agg #[.slice a m c],.int .i64 x] w (ChP (ChT x tb) w):=by
 obtain⟨Wa,y⟩:=qE ((w.alloc (Obj.cells #[.slice a m c] 28)).alloc (Obj.cells #[.slice none 0 0] 28):World);have a4:Below w.heap.size w Wa:=by rw[y];exact(qB).alloc (by simp) _
 have a7:Wa.heap.size=w.heap.size+1+1:=by rw[y];simp
 have HC:Hid (∀wx,Below Wa.heap.size Wa wx->wx.cell? ⟨w.heap.size,0,none⟩=some (.slice a m c)/\wx.cell? ⟨w.heap.size+1,0,none⟩=some (.slice none 0 0)/\wx.frozen? ⟨w.heap.size+1,0,none⟩=false/\StAt wx (.slice a m c) tb):=by
  intro wx hb;refine⟨?_,?_,?_,(h.below a4).below hb⟩
  .rw[hb.cell (p:=⟨w.heap.size,0,none⟩) (by show w.heap.size<_;omega),y];simp[go_sem]
  .rw[hb.cell (p:=⟨w.heap.size+1,0,none⟩) (by show w.heap.size+1<_;omega),y];simp[go_sem]
  .rw[hb.frozen (p:=⟨w.heap.size+1,0,none⟩) (by show w.heap.size+1<_;omega),y];simp[go_sem]
 have HD:Hid (yCa tb):=hd;clear h hd;go_enter func10,ntmps10;go_upto_region 1 with fail;rw[<-y];clear y;have a6:IntKind.i64.wrap ((x:Int)/4)=((x/4:Nat):Int):=by rw[IntKind.wrap_i64];omega
 go_wp2_with fail;try rw[a6]
 refine(yH9 ((x/4:Nat):Int) _ (by omega) (by omega)).mono ?_;rintro e w1 ⟨rfl,hb1⟩;rw[Int.toNat_natCast];obtain⟨row,a3⟩:=qE (letB (x/4));have a5:Hid (row=letB (x/4)/\row.size<=64):=⟨a3,by rw[a3];have:=yN3 (x/4);omega⟩;rw[<-a3];clear a3 a6;have s1:=hb1.size;obtain⟨c0,r0,r1,hS⟩:=HC.out w1 hb1;have HS:Hid (StAt w1 (.slice a m c) tb):=hS;clear hS;by_cases h0:x%4=0
 .have z0:(x:Int)%4=0:=by omega
  have z1:((x:Int)%4==0)=true:=by rw[beq_iff_eq];omega
  have a0:Hid (Calls prog 33 #[.agg #[.slice a m c],.string row] w1 (ChP (CmsT tb row) w1)):=yKk HS.out HD.out row;go_wp2_with fail;refine a0.mono ?_;rintro e w2 ⟨a2,m2,c2,out,rfl,HO⟩;obtain⟨d0,d1,d2,_⟩:=HC.out w2 (hb1.trans (HO.2.2.2.mono s1));have HF:Hid (ChP (ChT x tb) w (.returned (.agg #[.slice a2 m2 c2])) (w2.setCell ⟨w.heap.size+1,0,none⟩ (.slice a2 m2 c2))):=ChP.on HO (λq=>⟨λ_=>by rw[<-a5.1];exact q,λk=>by omega,λk=>absurd h0 k⟩) (a4.trans (hb1.mono (by omega))) (by omega) (by omega);exact yX5
 have z0:¬(x:Int)%4=0:=by omega
 have z1:((x:Int)%4==0)=false:=by rw[beq_eq_false_iff_ne];omega
 by_cases h1:x%4=1
 .have z2:(x:Int)%4=1:=by omega
  have z3:((x:Int)%4==1)=true:=by rw[beq_iff_eq];omega
  have a0:Hid (Calls prog 34 #[.agg #[.slice a m c],.string row] w1 (ChP (MrgT tb row) w1)):=yNg HS.out HD.out row;go_wp2_with fail;refine a0.mono ?_;rintro e w2 ⟨a2,m2,c2,out,rfl,HO⟩;obtain⟨d0,d1,d2,_⟩:=HC.out w2 (hb1.trans (HO.2.2.2.mono s1));have HF:Hid (ChP (ChT x tb) w (.returned (.agg #[.slice a2 m2 c2])) (w2.setCell ⟨w.heap.size+1,0,none⟩ (.slice a2 m2 c2))):=ChP.on HO (λq=>⟨λk=>absurd k h0,λ_=>by rw[<-a5.1];exact q,λ_ k=>absurd h1 k⟩) (a4.trans (hb1.mono (by omega))) (by omega) (by omega);exact yX5
 have z2:¬(x:Int)%4=1:=by omega
 have z3:((x:Int)%4==1)=false:=by rw[beq_eq_false_iff_ne];omega
 have a0:Hid (Calls prog 35 #[.agg #[.slice a m c],.string row] w1 (ChP (SplT tb row) w1)):=yNe HS.out HD.out row a5.2;go_wp2_with fail;refine a0.mono ?_;rintro e w2 ⟨a2,m2,c2,out,rfl,HO⟩;obtain⟨d0,d1,d2,_⟩:=HC.out w2 (hb1.trans (HO.2.2.2.mono s1));have HF:Hid (ChP (ChT x tb) w (.returned (.agg #[.slice a2 m2 c2])) (w2.setCell ⟨w.heap.size+1,0,none⟩ (.slice a2 m2 c2))):=ChP.on HO (λq=>⟨λk=>absurd k h0,λk=>absurd k h1,λ_ _=>by rw[<-a5.1];exact q⟩) (a4.trans (hb1.mono (by omega))) (by omega) (by omega);exact yX5
end Go.Proofs.YtehfleefkdojpaaGreatDoor
