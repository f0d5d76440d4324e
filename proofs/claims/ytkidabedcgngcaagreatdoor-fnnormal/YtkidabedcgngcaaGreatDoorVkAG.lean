import Derived.Test.YtkidabedcgngcaaGreatDoorVkAB
import Derived.Test.YtkidabedcgngcaaGreatDoorVkAA
import Derived.Test.YtkidabedcgngcaaGreatDoorVkAF
import Derived.Test.YtkidabedcgngcaaGreatDoorVkAC
import Derived.Maps.AppendAt
import Derived.Lib.ConvBytes
import Derived.Test.YtkidabedcgngcaaGreatDoorVkAE
namespace Go.Proofs.YtkidabedcgngcaaGreatDoor
open Go.RowKit Go.ChangeShapes Go.WideShapes Go.ChangeAt Go.Deep Go.Shelf Go.Maps
set_option linter.unusedVariables false
set_option linter.unusedSimpArgs false
set_option maxRecDepth 100000
set_option maxHeartbeats 40000000
section
theorem yQ6:∀(ts:List Pat) (t:Pat) (em:Bool) (g:Lay),lyS (ts++ [t]) em g=(lyS ts em g).seq (em && nulS ts) (nulB t) (lyP t (lyS ts em g).nx)
 | [],t,em,g=>by simp[lyS,nulS]
 |s::ts,t,em,g=>by simp only[List.cons_append,lyS,yQ6 ts t,nulS,Bool.and_assoc]
theorem yUh (ts:List Pat) (t:Pat):nulS (ts++ [t])=(nulS ts && nulB t):=by rw[yG5,yG5,List.all_append];simp
theorem yOr:∀(l m:List Pat),wtS (l++m)=wtS l+wtS m
 | [],m=>by simp[wtS]
 |t::l,m=>by simp only[List.cons_append,wtS,yOr l m];omega
structure SqB (w X:World) (nt:Nat) (uv:Value) (base M:Nat) (T:Nat→PS) (G cp a:Nat) (E:Nat→PS) (en:PS) (mp:Nat) (F L:PS) (G0:Nat):Prop where
 mtr:MtrI X base M T G cp a E en mp
 node:yA X w.heap.size nt 1 w.heap.size [uv]
 ans:yA X w.heap.size 183 8 (w.heap.size+1) zsA.toList
 sofar:yA X w.heap.size 183 8 (w.heap.size+1+1) (spL F L)
 chg:Chg (fun k=>k=M∨k=G0) w X
 at_:G=G0∨w.heap.size≤G
section
variable {w X X':World} {nt:Nat} {uv:Value} {base M:Nat} {T:Nat→PS} {G cp a:Nat} {E:Nat→PS} {en:PS} {mp:Nat} {F L:PS} {G0:Nat}
theorem SqB.below (h:SqB w X nt uv base M T G cp a E en mp F L G0) (hb:Below X.heap.size X X'):SqB w X' nt uv base M T G cp a E en mp F L G0:=
 ⟨h.mtr.below hb,h.node.below hb,h.ans.below hb,h.sofar.below hb,h.chg.trans (Chg.of_below hb),h.at_⟩
theorem SqB.gs (h:SqB w X nt uv base M T G cp a E en mp F L G0) (hnt:nt≠178):¬G=w.heap.size∧¬G=w.heap.size+1∧¬G=w.heap.size+1+1:=
 ⟨fun q=>yAo h.mtr.row h.node (fun e=>hnt e.symm) G rfl (by rw[q];rfl),fun q=>yAo h.mtr.row h.ans (by decide) G rfl (by rw[q];rfl),fun q=>yAo h.mtr.row h.sofar (by decide) G rfl (by rw[q];rfl)⟩
theorem SqB.laid (h:SqB w X nt uv base M T G cp a E en mp F L G0) (hnt:nt≠178) (hM:M<w.heap.size) {l:Lay} {G1 cp1:Nat} (hm:MtrI X' base M (yBe T l) G1 cp1 l.nx (yA0 E l) en mp) (hc:Chg (fun k=>k=M∨k=G) X X') (ha:G1=G∨X.heap.size≤G1):SqB w X' nt uv base M (yBe T l) G1 cp1 l.nx (yA0 E l) en mp F L G0:=by
 obtain⟨g1,g2,g3⟩:=h.gs hnt;refine⟨hm,h.node.chg hc (by omega),h.ans.chg hc (by omega),h.sofar.chg hc (by omega),?_,?_⟩
 ·refine⟨hc.os.trans h.chg.os,hc.tape.trans h.chg.tape,hc.output.trans h.chg.output,Nat.le_trans h.chg.size hc.size,fun j hj hn=>(hc.block j (Nat.lt_of_lt_of_le hj h.chg.size) (fun q=>?_)).trans (h.chg.block j hj hn)⟩;rcases q with q|q
  ·exact hn (.inl q)
  ·rcases h.at_ with z|z
   ·exact hn (.inr (by omega))
   ·omega
 ·have:=h.chg.size;rcases ha with q|q
  ·rw[q];exact h.at_
  ·exact .inr (by omega)
theorem SqB.conn (h:SqB w X nt uv base M T G cp a E en mp F L G0) (hnt:nt≠178) {E':Nat→PS} (hm:MtrI X' base M T G cp a E' en mp) (hc:Chg (fun k=>k=G) X X'):SqB w X' nt uv base M T G cp a E' en mp F L G0:=by
 obtain⟨g1,g2,g3⟩:=h.gs hnt;refine⟨hm,h.node.chg hc (by omega),h.ans.chg hc (by omega),h.sofar.chg hc (by omega),?_,h.at_⟩;refine⟨hc.os.trans h.chg.os,hc.tape.trans h.chg.tape,hc.output.trans h.chg.output,Nat.le_trans h.chg.size hc.size,fun j hj hn=>(hc.block j (Nat.lt_of_lt_of_le hj h.chg.size) (fun q=>?_)).trans (h.chg.block j hj hn)⟩;rcases h.at_ with z|z
 ·exact hn (.inr (by omega))
 ·omega
theorem SqB.set (h:SqB w X nt uv base M T G cp a E en mp F L G0) (hM:M<w.heap.size) (hnt:nt≠178) {o:Nat} (S:PS) {F' L':PS} (he:yR4 (spL F L) o S=spL F' L') (hlow:base≤w.heap.size):SqB w (set4 X (w.heap.size+1+1) o S) nt uv base M T G cp a E en mp F' L' G0:=by obtain⟨g1,g2,g3⟩:=h.gs hnt;have hc:Chg (fun k=>k=w.heap.size+1+1) X (set4 X (w.heap.size+1+1) o S):=yBj X _ _ _ rfl;refine⟨h.mtr.chg hc (by omega) g3 (fun k q=>by omega),h.node.chg hc (by omega),h.ans.chg hc (by omega),?_,yVh h.chg (hc.mono (fun k q=>by omega)),h.at_⟩;have h1:=yFv h.sofar o S;rw[he]at h1;exact h1
end
theorem yN (F L S:PS):yR4 (spL F L) 0 S=spL S L:=rfl
theorem yGw (F L S:PS):yR4 (spL F L) 4 S=spL F S:=rfl
def LqC (base:Nat) (w0:World) (ts:List Pat) (u:Value):Prop:=∃(sa:Option Addr) (sn sc:Nat),u=.slice sa sn sc∧∀(M:Nat) (T:Nat→PS) (G cp a:Nat) (E:Nat→PS) (en:PS) (mp:Nat) (w:World),MtrI w base M T G cp a E en mp→Below base w0 w→a+wtS ts≤256→
 Calls Tryz.prog 157 #[.pointer (some ⟨M,0,none⟩),.agg #[.slice sa sn sc]] w (LayR base M T G E en mp (lyS ts true (Lay.no a)) w)
def SqI (w X:World) (uv:Value) (base M:Nat) (T:Nat→PS) (G cp:Nat) (E:Nat→PS) (en:PS) (mp:Nat) (g:Lay) (G0:Nat):Prop:=SqB w X 206 uv base M (yBe T g) G cp g.nx (yA0 E g) en mp g.fst g.lst G0
theorem ySj (base:Nat) (w0:World):LqC base w0 [] (.slice none 0 0):=by
 refine⟨none,0,0,rfl,fun M T G cp a E en mp w h hw0 hwt=>?_⟩;obtain⟨W0,hW0⟩:=qE (((w.alloc (.cells #[.slice none 0 0] 206)).alloc (.cells zsA 183)).alloc (.cells zsA 183):World);have hM0:=h.ltM;have hlow:=Nat.le_of_lt (Nat.lt_of_le_of_lt h.ltM.1 h.ltM.2);have HGb:Hid (base≤G):=h.ltG.1;have HW0:Hid (SqB w W0 206 (.slice none 0 0) base M (yBe T (Lay.no a)) G cp a (yA0 E (Lay.no a)) en mp (Lay.no a).fst (Lay.no a).lst G):=by
  have b1:=yAa w (base:=w.heap.size) (t:=206) (sz:=1) #[.slice none 0 0] (Nat.le_refl _) rfl;have b2:=yAa (w.alloc (.cells #[.slice none 0 0] 206)) (base:=w.heap.size) (t:=183) (sz:=8) zsA (by simp) rfl;have b3:=yAa ((w.alloc (.cells #[.slice none 0 0] 206)).alloc (.cells zsA 183)) (base:=w.heap.size) (t:=183) (sz:=8) zsA (by simp;omega) rfl;rw[World.size_alloc]at b2;rw[World.size_alloc,World.size_alloc]at b3;have k1:∀(x:World) (o:Obj),Below x.heap.size x (x.alloc o):=fun x o=>qB;have k0:Below w.heap.size w W0:=by rw[hW0];exact((qB).alloc (by simp) _).alloc (by simp;omega) _
  have hz:spL (Lay.no a).fst (Lay.no a).lst=zsA.toList:=by show spL sNo sNo=_;simp only[spL,yE4];rfl
  refine⟨(h.below k0).iff (fun b p _ _=>by simp[yBe,Lay.no]) (fun q p _ _=>by simp[yA0,Lay.no]) (fun p hp q=>by have:=h.new p hp q;simp[yA0,Lay.no,this]),?_,?_,?_,Chg.of_below k0,.inl rfl⟩
  ·rw[hW0];exact(b1.below (k1 _ _)).below (k1 _ _)
  ·rw[hW0];exact b2.below (k1 _ _)
  ·rw[hz,hW0];exact b3
 clear h;go_enter Tryz.func157,Tryz.ntmps157;go_wp2_with fail;have hW0':=hW0;simp only[zsA]at hW0';rw[←hW0'];clear hW0 hW0';go_loopw[14] (fun iv wr=>iv=.int .i64 0∧wr=W0) (fun _ _=>0);case atStart=>exact⟨rfl,rfl⟩
 case round=>
  obtain⟨rfl,rfl⟩:=hrel;have HJ:=HW0;obtain⟨s0,s1,s2,s3,s4,s5,s6,s7⟩:=HJ.sofar.c8;obtain⟨r0,r1,r2,r3,r4,r5,r6,r7⟩:=HJ.ans.c8;obtain⟨f0,f1,f2,f3,f4,f5,f6,f7⟩:=HJ.ans.f8;have HF:Hid (LayR base M T G E en mp (lyS [] true (Lay.no a)) w (.returned (spV (lyS [] true (Lay.no a)).fst (lyS [] true (Lay.no a)).lst)) (setSp wr (w.heap.size+1) (lyS [] true (Lay.no a)).fst (lyS [] true (Lay.no a)).lst)∧yA (setSp wr (w.heap.size+1) (lyS [] true (Lay.no a)).fst (lyS [] true (Lay.no a)).lst) w.heap.size 183 8 (w.heap.size+1) (spL (lyS [] true (Lay.no a)).fst (lyS [] true (Lay.no a)).lst)):=by obtain⟨f1,f2,f3⟩:=yHx HJ.mtr HJ.ans HJ.chg (lyS [] true (Lay.no a)).fst (lyS [] true (Lay.no a)).lst;exact⟨⟨_,_,rfl,⟨f1,f3,HJ.at_⟩⟩,f2⟩
  go_wp2_with fail;exact bodyPost_ret (v:=spV (lyS [] true (Lay.no a)).fst (lyS [] true (Lay.no a)).lst) (yJb (base:=w.heap.size) (g:=w.heap.size+1) rfl HF.2) rfl HF.1
variable {base g0 cp0:Nat} {w0:World} {lo:Nat→Prop} {ts:List Pat} {us:List Value}
theorem yPh (hul:us.length=ts.length) (hV:yCp w0 lo g0 us) (hlo:g0<base) (hN:∀(i:Nat) x t,us[i]?=some x→ts[i]?=some t→LyC base w0 t x∧NulV w0 t x) (hw5:base=w0.heap.size):LqC base w0 ts (.slice (some ⟨g0,0,none⟩) ts.length cp0):=by
 refine⟨_,_,_,rfl,fun M T G cp a E en mp w h hw0 hwt=>?_⟩;obtain⟨n,hn⟩:=qE ts.length;have hn5:n≤256:=by have:=yOq ts;omega
 rw[←hn];obtain⟨W0,hW0⟩:=qE (((w.alloc (.cells #[.slice (some ⟨g0,0,none⟩) n cp0] 206)).alloc (.cells zsA 183)).alloc (.cells zsA 183):World);have hM0:=h.ltM;have hlow:=Nat.le_of_lt (Nat.lt_of_le_of_lt h.ltM.1 h.ltM.2);have HGb:Hid (base≤G):=h.ltG.1;have HW0:Hid (SqB w W0 206 (.slice (some ⟨g0,0,none⟩) n cp0) base M (yBe T (Lay.no a)) G cp a (yA0 E (Lay.no a)) en mp (Lay.no a).fst (Lay.no a).lst G):=by
  have b1:=yAa w (base:=w.heap.size) (t:=206) (sz:=1) #[.slice (some ⟨g0,0,none⟩) n cp0] (Nat.le_refl _) rfl;have b2:=yAa (w.alloc (.cells #[.slice (some ⟨g0,0,none⟩) n cp0] 206)) (base:=w.heap.size) (t:=183) (sz:=8) zsA (by simp) rfl;have b3:=yAa ((w.alloc (.cells #[.slice (some ⟨g0,0,none⟩) n cp0] 206)).alloc (.cells zsA 183)) (base:=w.heap.size) (t:=183) (sz:=8) zsA (by simp;omega) rfl;rw[World.size_alloc]at b2;rw[World.size_alloc,World.size_alloc]at b3;have k1:∀(x:World) (o:Obj),Below x.heap.size x (x.alloc o):=fun x o=>qB;have k0:Below w.heap.size w W0:=by rw[hW0];exact((qB).alloc (by simp) _).alloc (by simp;omega) _
  have hz:spL (Lay.no a).fst (Lay.no a).lst=zsA.toList:=by show spL sNo sNo=_;simp only[spL,yE4];rfl
  refine⟨(h.below k0).iff (fun b p _ _=>by simp[yBe,Lay.no]) (fun q p _ _=>by simp[yA0,Lay.no]) (fun p hp q=>by have:=h.new p hp q;simp[yA0,Lay.no,this]),?_,?_,?_,Chg.of_below k0,.inl rfl⟩
  ·rw[hW0];exact(b1.below (k1 _ _)).below (k1 _ _)
  ·rw[hW0];exact b2.below (k1 _ _)
  ·rw[hz,hW0];exact b3
 have HH:Hid (n=ts.length∧us.length=n∧yCp w0 lo g0 us∧Below base w0 w∧(∀(i:Nat) x t,us[i]?=some x→ts[i]?=some t→LyC base w0 t x∧NulV w0 t x)∧a+wtS ts≤256∧base=w0.heap.size):=⟨hn,by rw[hn];exact hul,hV,hw0,hN,hwt,hw5⟩;clear h hul hV hN hw0 hn hwt hw5;go_enter Tryz.func157,Tryz.ntmps157;go_wp2_with fail;have hW0':=hW0;simp only[zsA]at hW0';rw[←hW0'];clear hW0 hW0';go_loopw[6,14] (fun ev iv wr=>∃(k Gk ck:Nat),k≤n∧iv=.int .i64 k∧ev=.bool (nulS (ts.take k))∧Hid (SqI w wr (.slice (some ⟨g0,0,none⟩) n cp0) base M T Gk ck E en mp (lyS (ts.take k) true (Lay.no a)) G)) (fun _ iv _=>n-(intOf iv).toNat);case atStart=>exact⟨0,G,cp,Nat.zero_le _,rfl,rfl,HW0.out⟩
 case round=>
  clear HW0;obtain⟨k,Gk,ck,hk,rfl,rfl,HJ⟩:=hrel;by_cases hlt:k<n
  ·have zk:(k:Int)<(n:Int):=by omega
   obtain⟨x,hx⟩:∃x,us[k]?=some x:=⟨_,List.getElem?_eq_getElem (by rw[HH.2.1];exact hlt)⟩;obtain⟨t,ht⟩:∃t,ts[k]?=some t:=⟨_,List.getElem?_eq_getElem (by rw[←HH.1];exact hlt)⟩;obtain⟨HLy,X,c,f,rfl,hT,HC⟩:=HH.2.2.2.2.1 k x t hx ht;have hbw:Below base w0 wr:=Chg.below HH.2.2.2.1 HJ.chg hlow (fun j q=>by rcases q with q|q;omega;have:=HGb.out;omega);have c0:wr.cell? ⟨g0,k,none⟩=some (.iface X (.agg c)):=by rw[hbw.cell (p:=⟨g0,k,none⟩) hlo];exact HH.2.2.1.val k _ hx
   obtain⟨gk,hgk⟩:=qE (lyS (ts.take k) true (Lay.no a));obtain⟨l,hl⟩:=qE (lyP t gk.nx);obtain⟨em,hem⟩:=qE (nulS (ts.take k));have htk:ts.take (k+1)=ts.take k++ [t]:=by rw[List.take_add_one,ht];rfl
   have hwk:wtS (ts.take k)+wtP t≤wtS ts:=by have h1:ts=ts.take (k+1)++ts.drop (k+1):=(List.take_append_drop _ _).symm;have h2:=congrArg wtS h1;rw[yOr,htk,yOr]at h2;simp only[wtS]at h2;omega
   have hnxk:gk.nx≤a+wtS (ts.take k):=by rw[hgk];have:=nx_S (ts.take k) true (Lay.no a);simpa [Lay.no]using this
   have hwt:=HH.2.2.2.2.2.1;have hspk:Spt a gk:=by rw[hgk];exact(yZ2 (ts.take k) a (Lay.no a) (fun x=>x= []) true (yVg a)).spt
   have hspl:Spt gk.nx l:=by rw[hl];exact(yOb t gk.nx).spt
   have hnl:l.nx≤256:=by have:=nx_P t gk.nx;rw[hl];omega
   rw[←hgk]at HJ;have HNx:Hid (∀nt,nt=nulB t→lyS (ts.take (k+1)) true (Lay.no a)=gk.seq em nt l∧nulS (ts.take (k+1))=(em && nt)):=fun nt hnt=>by rw[htk,yQ6,yUh,←hgk,←hem,←hl,hnt];exact⟨by simp,rfl⟩
   have HL:Hid (Calls Tryz.prog 135 #[.pointer (some ⟨M,0,none⟩),.iface X (.agg c)] wr (LayR base M (yBe T gk) Gk (yA0 E gk) en mp l wr)):=by rw[hl];exact HLy M (yBe T gk) Gk ck gk.nx (yA0 E gk) en mp wr HJ.mtr hbw (by omega)
   have HSp:Hid (Spt a gk∧Spt gk.nx l∧l.nx≤256∧(∀wx,Below base w0 wx→Below w0.heap.size w0 wx)):=⟨hspk,hspl,hnl,fun wx hq=>by rw[←HH.2.2.2.2.2.2];exact hq⟩;have HBw:Hid (Below base w0 wr):=hbw;rw[←hem];clear hx ht HLy hbw hgk hl hem htk hwk hnxk hwt hspk hspl hnl;go_wp2_with fail;refine HL.mono ?_;rintro e w1 ⟨G1,cp1,rfl,H1⟩;clear c0 HL;obtain⟨W2,hW2⟩:=qE (w1.alloc (.cells (spL l.fst l.lst).toArray 183):World);have k2:Below w1.heap.size w1 W2:=by rw[hW2];exact qB
   have h1q:=HJ.laid (by decide) hM0.2 H1.1 H1.2.1 H1.2.2;have hw1:w.heap.size≤w1.heap.size:=h1q.chg.size;have HW2:Hid (SqB w W2 206 (.slice (some ⟨g0,0,none⟩) n cp0) base M (yBe (yBe T gk) l) G1 cp1 l.nx (yA0 (yA0 E gk) l) en mp gk.fst gk.lst G∧yA W2 w.heap.size 183 8 w1.heap.size (spL l.fst l.lst)):=⟨h1q.below k2,by rw[hW2];exact yAa w1 _ hw1 rfl⟩;have hwn:w.heap.size+1+1<w1.heap.size:=h1q.sofar.lt.2;obtain⟨s0,s1,s2,s3,s4,s5,s6,s7⟩:=HW2.1.sofar.c8;obtain⟨ee0,ee1,ee2,ee3,ee4,ee5,ee6,ee7⟩:=HW2.2.c8;have HCo:Hid (Calls Tryz.prog 156 #[.pointer (some ⟨M,0,none⟩),psV gk.lst,psV l.fst] W2 fun e w'=>(∃v,e=.returned v)∧Hid (MtrI w' base M (yBe (yBe T gk) l) G1 cp1 l.nx (fun p q=>yA0 (yA0 E gk) l p q || (gk.lst p && l.fst q)) en mp∧Chg (fun k=>k=G1) W2 w')):=yIk gk.lst l.fst W2 HW2.1.mtr (fun p hp=>by have h1:=(HSp.1.lst p hp).2;have h2:=HSp.2.1.le;omega) HSp.2.2.1;clear h1q k2 H1;go_upto_region 7 with fail;have hW2':=hW2;simp only[spL]at hW2';rw[←hW2'];clear hW2 hW2';go_wp2_with fail;refine HCo.mono ?_;rintro e w3 ⟨⟨v,rfl⟩,H3⟩;have hGt:¬G1=w1.heap.size:=fun q=>yAo HW2.1.mtr.row HW2.2 (by decide) G1 rfl (by rw[q];rfl);have HW3:Hid (SqB w w3 206 (.slice (some ⟨g0,0,none⟩) n cp0) base M (yBe (yBe T gk) l) G1 cp1 l.nx (fun p q=>yA0 (yA0 E gk) l p q || (gk.lst p && l.fst q)) en mp gk.fst gk.lst G∧yA w3 w.heap.size 183 8 w1.heap.size (spL l.fst l.lst)):=⟨HW2.1.conn (by decide) H3.1 H3.2,HW2.2.chg H3.2 (fun q=>hGt q.symm)⟩;clear H3 HCo HW2;clear s0 s1 s2 s3 s4 s5 s6 s7 ee0 ee1 ee2 ee3 ee4 ee5 ee6 ee7;obtain⟨s0,s1,s2,s3,s4,s5,s6,s7⟩:=HW3.1.sofar.c8;obtain⟨f0,f1,f2,f3,f4,f5,f6,f7⟩:=HW3.1.sofar.f8;obtain⟨ee0,ee1,ee2,ee3,ee4,ee5,ee6,ee7⟩:=HW3.2.c8;have HUf:Hid (∀wx:World,Calls Tryz.prog 161 #[psV gk.fst,psV l.fst] wx fun e w'=>e=.returned (psV (sOr gk.fst l.fst))∧Below wx.heap.size wx w'):=fun wx=>yCw gk.fst l.fst wx;have HUl:Hid (∀wx:World,Calls Tryz.prog 161 #[psV gk.lst,psV l.lst] wx fun e w'=>e=.returned (psV (sOr gk.lst l.lst))∧Below wx.heap.size wx w'):=fun wx=>yCw gk.lst l.lst wx;have HMo:Hid (∀wx,Chg (fun k=>k=M∨k=G) w wx→Below w0.heap.size w0 wx):=fun wx hq=>HSp.2.2.2 wx (Chg.below HH.2.2.2.1 hq hlow (fun j q=>by rcases q with q|q;omega;have:=HGb.out;omega));cases em with
   |true=>
    go_wp2_with fail;refine(HUf.out _).mono ?_;rintro e w4 ⟨rfl,hb4⟩;have HW4:Hid (SqB w (set4 w4 (w.heap.size+1+1) 0 (sOr gk.fst l.fst)) 206 (.slice (some ⟨g0,0,none⟩) n cp0) base M (yBe (yBe T gk) l) G1 cp1 l.nx (fun p q=>yA0 (yA0 E gk) l p q || (gk.lst p && l.fst q)) en mp (sOr gk.fst l.fst) gk.lst G∧yA (set4 w4 (w.heap.size+1+1) 0 (sOr gk.fst l.fst)) w.heap.size 183 8 w1.heap.size (spL l.fst l.lst)):=⟨(HW3.1.below hb4).set hM0.2 (by decide) _ (yN _ _ _) hlow,(HW3.2.below hb4).chg (yBj (S:=fun j=>j=w.heap.size+1+1) w4 _ _ _ rfl) (by omega)⟩;have HB4:=HW3.1.sofar.below hb4;clear s0 s1 s2 s3 s4 s5 s6 s7 f0 f1 f2 f3 f4 f5 f6 f7 ee0 ee1 ee2 ee3 ee4 ee5 ee6 ee7;obtain⟨s0,s1,s2,s3,s4,s5,s6,s7⟩:=HB4.c8;obtain⟨f0,f1,f2,f3,f4,f5,f6,f7⟩:=HB4.f8;clear HB4 hb4;go_upto_region 10 with fail;obtain⟨W5,hW5⟩:=qE (set4 w4 (w.heap.size+1+1) 0 (sOr gk.fst l.fst):World);have hW5':=hW5;simp only[set4,Nat.zero_add]at hW5';rw[←hW5'];rw[←hW5]at HW4;clear hW5 hW5';clear s0 s1 s2 s3 s4 s5 s6 s7 f0 f1 f2 f3 f4 f5 f6 f7;have HCe:=HC.out W5 (HMo.out W5 HW4.1.chg);cases hnb:nulB t with
    |true=>
     rw[hnb]at HCe;have HNy:=HNx.out true hnb.symm;have HNz:Hid (lyS (ts.take (k+1)) true (Lay.no a)=gk.seq true true l∧nulS (ts.take (k+1))=true):=⟨HNy.1,by rw[HNy.2];rfl⟩;have HCf:Hid (Calls Tryz.prog f #[.agg c] W5 fun e w''=>e=.returned (.bool true)∧Below W5.heap.size W5 w''):=HCe;clear hnb HCe HNy;rcases hT with⟨rfl,rfl⟩|⟨rfl,rfl⟩|⟨rfl,rfl⟩|⟨rfl,rfl⟩;all_goals go_wp2_with fail
     all_goals refine HCf.mono ?_
     all_goals rintro e w6 ⟨rfl,hb6⟩
     all_goals have HW6:Hid (SqB w w6 206 (.slice (some ⟨g0,0,none⟩) n cp0) base M (yBe (yBe T gk) l) G1 cp1 l.nx (fun p q=>yA0 (yA0 E gk) l p q || (gk.lst p && l.fst q)) en mp (sOr gk.fst l.fst) gk.lst G∧yA w6 w.heap.size 183 8 w1.heap.size (spL l.fst l.lst)):=⟨HW4.1.below hb6,HW4.2.below hb6⟩
     all_goals have s4:=HW6.1.sofar.cell (j:=4) rfl
     all_goals have f4:=HW6.1.sofar.frozen 4
     all_goals have ee4:=HW6.2.cell (j:=4) rfl
     all_goals have s5:=HW6.1.sofar.cell (j:=5) rfl
     all_goals have f5:=HW6.1.sofar.frozen 5
     all_goals have ee5:=HW6.2.cell (j:=5) rfl
     all_goals have s6:=HW6.1.sofar.cell (j:=6) rfl
     all_goals have f6:=HW6.1.sofar.frozen 6
     all_goals have ee6:=HW6.2.cell (j:=6) rfl
     all_goals have s7:=HW6.1.sofar.cell (j:=7) rfl
     all_goals have f7:=HW6.1.sofar.frozen 7
     all_goals have ee7:=HW6.2.cell (j:=7) rfl
     all_goals go_wp2_with fail
     all_goals refine(HUl.out _).mono ?_
     all_goals rintro e w7 ⟨rfl,hb7⟩
     all_goals clear s4 s5 s6 s7 f4 f5 f6 f7
     all_goals have HB7:=HW6.1.sofar.below hb7
     all_goals have s4:=HB7.cell (j:=4) rfl
     all_goals have f4:=HB7.frozen 4
     all_goals have s5:=HB7.cell (j:=5) rfl
     all_goals have f5:=HB7.frozen 5
     all_goals have s6:=HB7.cell (j:=6) rfl
     all_goals have f6:=HB7.frozen 6
     all_goals have s7:=HB7.cell (j:=7) rfl
     all_goals have f7:=HB7.frozen 7
     all_goals have HW8:Hid (SqI w (set4 w7 (w.heap.size+1+1) 4 (sOr gk.lst l.lst)) (.slice (some ⟨g0,0,none⟩) n cp0) base M T G1 cp1 E en mp (gk.seq true true l) G):=(by
      have h8:=(HW6.1.below hb7).set hM0.2 (by decide) (sOr gk.lst l.lst) (yGw _ _ _) hlow
      refine⟨h8.mtr.iff (fun b p _ _=>by simp[yBe,Lay.seq,Bool.or_assoc]) (fun q p _ _=>by simp[yA0,Lay.seq,Bool.or_assoc]) (fun p hp q=>?_),h8.node,h8.ans,h8.sofar,h8.chg,h8.at_⟩
      have:=h8.mtr.new p hp q
      simpa [yA0,Lay.seq,Bool.or_assoc]using this)
     all_goals rw[←HNz.1]at HW8
     all_goals simp only[set4]at HW8
     all_goals have hen:=HNz.2
     all_goals clear HB7 hb7
     all_goals go_wp2_with fail
     all_goals refine⟨⟨k+1,G1,cp1,by omega,by go_num,by rw[hen],HW8⟩,?_⟩
     all_goals go_light
     all_goals simp[intOf]
     all_goals omega
    |false=>
     rw[hnb]at HCe;have HNy:=HNx.out false hnb.symm;have HNz:Hid (lyS (ts.take (k+1)) true (Lay.no a)=gk.seq true false l∧nulS (ts.take (k+1))=false):=⟨HNy.1,by rw[HNy.2];rfl⟩;have HCf:Hid (Calls Tryz.prog f #[.agg c] W5 fun e w''=>e=.returned (.bool false)∧Below W5.heap.size W5 w''):=HCe;clear hnb HCe HNy;rcases hT with⟨rfl,rfl⟩|⟨rfl,rfl⟩|⟨rfl,rfl⟩|⟨rfl,rfl⟩;all_goals go_wp2_with fail
     all_goals refine HCf.mono ?_
     all_goals rintro e w6 ⟨rfl,hb6⟩
     all_goals have HW6:Hid (SqB w w6 206 (.slice (some ⟨g0,0,none⟩) n cp0) base M (yBe (yBe T gk) l) G1 cp1 l.nx (fun p q=>yA0 (yA0 E gk) l p q || (gk.lst p && l.fst q)) en mp (sOr gk.fst l.fst) gk.lst G∧yA w6 w.heap.size 183 8 w1.heap.size (spL l.fst l.lst)):=⟨HW4.1.below hb6,HW4.2.below hb6⟩
     all_goals have s4:=HW6.1.sofar.cell (j:=4) rfl
     all_goals have f4:=HW6.1.sofar.frozen 4
     all_goals have ee4:=HW6.2.cell (j:=4) rfl
     all_goals have s5:=HW6.1.sofar.cell (j:=5) rfl
     all_goals have f5:=HW6.1.sofar.frozen 5
     all_goals have ee5:=HW6.2.cell (j:=5) rfl
     all_goals have s6:=HW6.1.sofar.cell (j:=6) rfl
     all_goals have f6:=HW6.1.sofar.frozen 6
     all_goals have ee6:=HW6.2.cell (j:=6) rfl
     all_goals have s7:=HW6.1.sofar.cell (j:=7) rfl
     all_goals have f7:=HW6.1.sofar.frozen 7
     all_goals have ee7:=HW6.2.cell (j:=7) rfl
     all_goals have HW8:Hid (SqI w (set4 w6 (w.heap.size+1+1) 4 l.lst) (.slice (some ⟨g0,0,none⟩) n cp0) base M T G1 cp1 E en mp (gk.seq true false l) G):=(by
      have h8:=HW6.1.set hM0.2 (by decide) l.lst (yGw _ _ _) hlow
      refine⟨h8.mtr.iff (fun b p _ _=>by simp[yBe,Lay.seq,Bool.or_assoc]) (fun q p _ _=>by simp[yA0,Lay.seq,Bool.or_assoc]) (fun p hp q=>?_),h8.node,h8.ans,h8.sofar,h8.chg,h8.at_⟩
      have:=h8.mtr.new p hp q
      simpa [yA0,Lay.seq,Bool.or_assoc]using this)
     all_goals rw[←HNz.1]at HW8
     all_goals simp only[set4]at HW8
     all_goals have hen:=HNz.2
     all_goals go_wp2_with fail
     all_goals refine⟨⟨k+1,G1,cp1,by omega,by go_num,by rw[hen],HW8⟩,?_⟩
     all_goals go_light
     all_goals simp[intOf]
     all_goals omega
   |false=>
    go_upto_region 10 with fail;obtain⟨W5,hW5⟩:=qE (w3:World);have HW4:=HW3;rw[←hW5]at HW4;rw[←hW5];clear s0 s1 s2 s3 s4 s5 s6 s7 f0 f1 f2 f3 f4 f5 f6 f7 ee0 ee1 ee2 ee3 ee4 ee5 ee6 ee7;clear hW5;have HCe:=HC.out W5 (HMo.out W5 HW4.1.chg);cases hnb:nulB t with
    |true=>
     rw[hnb]at HCe;have HNy:=HNx.out true hnb.symm;have HNz:Hid (lyS (ts.take (k+1)) true (Lay.no a)=gk.seq false true l∧nulS (ts.take (k+1))=false):=⟨HNy.1,by rw[HNy.2];rfl⟩;have HCf:Hid (Calls Tryz.prog f #[.agg c] W5 fun e w''=>e=.returned (.bool true)∧Below W5.heap.size W5 w''):=HCe;clear hnb HCe HNy;rcases hT with⟨rfl,rfl⟩|⟨rfl,rfl⟩|⟨rfl,rfl⟩|⟨rfl,rfl⟩;all_goals go_wp2_with fail
     all_goals refine HCf.mono ?_
     all_goals rintro e w6 ⟨rfl,hb6⟩
     all_goals have HW6:Hid (SqB w w6 206 (.slice (some ⟨g0,0,none⟩) n cp0) base M (yBe (yBe T gk) l) G1 cp1 l.nx (fun p q=>yA0 (yA0 E gk) l p q || (gk.lst p && l.fst q)) en mp gk.fst gk.lst G∧yA w6 w.heap.size 183 8 w1.heap.size (spL l.fst l.lst)):=⟨HW4.1.below hb6,HW4.2.below hb6⟩
     all_goals have s4:=HW6.1.sofar.cell (j:=4) rfl
     all_goals have f4:=HW6.1.sofar.frozen 4
     all_goals have ee4:=HW6.2.cell (j:=4) rfl
     all_goals have s5:=HW6.1.sofar.cell (j:=5) rfl
     all_goals have f5:=HW6.1.sofar.frozen 5
     all_goals have ee5:=HW6.2.cell (j:=5) rfl
     all_goals have s6:=HW6.1.sofar.cell (j:=6) rfl
     all_goals have f6:=HW6.1.sofar.frozen 6
     all_goals have ee6:=HW6.2.cell (j:=6) rfl
     all_goals have s7:=HW6.1.sofar.cell (j:=7) rfl
     all_goals have f7:=HW6.1.sofar.frozen 7
     all_goals have ee7:=HW6.2.cell (j:=7) rfl
     all_goals go_wp2_with fail
     all_goals refine(HUl.out _).mono ?_
     all_goals rintro e w7 ⟨rfl,hb7⟩
     all_goals clear s4 s5 s6 s7 f4 f5 f6 f7
     all_goals have HB7:=HW6.1.sofar.below hb7
     all_goals have s4:=HB7.cell (j:=4) rfl
     all_goals have f4:=HB7.frozen 4
     all_goals have s5:=HB7.cell (j:=5) rfl
     all_goals have f5:=HB7.frozen 5
     all_goals have s6:=HB7.cell (j:=6) rfl
     all_goals have f6:=HB7.frozen 6
     all_goals have s7:=HB7.cell (j:=7) rfl
     all_goals have f7:=HB7.frozen 7
     all_goals have HW8:Hid (SqI w (set4 w7 (w.heap.size+1+1) 4 (sOr gk.lst l.lst)) (.slice (some ⟨g0,0,none⟩) n cp0) base M T G1 cp1 E en mp (gk.seq false true l) G):=(by
      have h8:=(HW6.1.below hb7).set hM0.2 (by decide) (sOr gk.lst l.lst) (yGw _ _ _) hlow
      refine⟨h8.mtr.iff (fun b p _ _=>by simp[yBe,Lay.seq,Bool.or_assoc]) (fun q p _ _=>by simp[yA0,Lay.seq,Bool.or_assoc]) (fun p hp q=>?_),h8.node,h8.ans,h8.sofar,h8.chg,h8.at_⟩
      have:=h8.mtr.new p hp q
      simpa [yA0,Lay.seq,Bool.or_assoc]using this)
     all_goals rw[←HNz.1]at HW8
     all_goals simp only[set4]at HW8
     all_goals have hen:=HNz.2
     all_goals clear HB7 hb7
     all_goals go_wp2_with fail
     all_goals refine⟨⟨k+1,G1,cp1,by omega,by go_num,by rw[hen],HW8⟩,?_⟩
     all_goals go_light
     all_goals simp[intOf]
     all_goals omega
    |false=>
     rw[hnb]at HCe;have HNy:=HNx.out false hnb.symm;have HNz:Hid (lyS (ts.take (k+1)) true (Lay.no a)=gk.seq false false l∧nulS (ts.take (k+1))=false):=⟨HNy.1,by rw[HNy.2];rfl⟩;have HCf:Hid (Calls Tryz.prog f #[.agg c] W5 fun e w''=>e=.returned (.bool false)∧Below W5.heap.size W5 w''):=HCe;clear hnb HCe HNy;rcases hT with⟨rfl,rfl⟩|⟨rfl,rfl⟩|⟨rfl,rfl⟩|⟨rfl,rfl⟩;all_goals go_wp2_with fail
     all_goals refine HCf.mono ?_
     all_goals rintro e w6 ⟨rfl,hb6⟩
     all_goals have HW6:Hid (SqB w w6 206 (.slice (some ⟨g0,0,none⟩) n cp0) base M (yBe (yBe T gk) l) G1 cp1 l.nx (fun p q=>yA0 (yA0 E gk) l p q || (gk.lst p && l.fst q)) en mp gk.fst gk.lst G∧yA w6 w.heap.size 183 8 w1.heap.size (spL l.fst l.lst)):=⟨HW4.1.below hb6,HW4.2.below hb6⟩
     all_goals have s4:=HW6.1.sofar.cell (j:=4) rfl
     all_goals have f4:=HW6.1.sofar.frozen 4
     all_goals have ee4:=HW6.2.cell (j:=4) rfl
     all_goals have s5:=HW6.1.sofar.cell (j:=5) rfl
     all_goals have f5:=HW6.1.sofar.frozen 5
     all_goals have ee5:=HW6.2.cell (j:=5) rfl
     all_goals have s6:=HW6.1.sofar.cell (j:=6) rfl
     all_goals have f6:=HW6.1.sofar.frozen 6
     all_goals have ee6:=HW6.2.cell (j:=6) rfl
     all_goals have s7:=HW6.1.sofar.cell (j:=7) rfl
     all_goals have f7:=HW6.1.sofar.frozen 7
     all_goals have ee7:=HW6.2.cell (j:=7) rfl
     all_goals have HW8:Hid (SqI w (set4 w6 (w.heap.size+1+1) 4 l.lst) (.slice (some ⟨g0,0,none⟩) n cp0) base M T G1 cp1 E en mp (gk.seq false false l) G):=(by
      have h8:=HW6.1.set hM0.2 (by decide) l.lst (yGw _ _ _) hlow
      refine⟨h8.mtr.iff (fun b p _ _=>by simp[yBe,Lay.seq,Bool.or_assoc]) (fun q p _ _=>by simp[yA0,Lay.seq,Bool.or_assoc]) (fun p hp q=>?_),h8.node,h8.ans,h8.sofar,h8.chg,h8.at_⟩
      have:=h8.mtr.new p hp q
      simpa [yA0,Lay.seq,Bool.or_assoc]using this)
     all_goals rw[←HNz.1]at HW8
     all_goals simp only[set4]at HW8
     all_goals have hen:=HNz.2
     all_goals go_wp2_with fail
     all_goals refine⟨⟨k+1,G1,cp1,by omega,by go_num,by rw[hen],HW8⟩,?_⟩
     all_goals go_light
     all_goals simp[intOf]
     all_goals omega
  ·obtain rfl:k=n:=by omega
   have zk:¬(k:Int)<(k:Int):=by omega
   have hfull:ts.take k=ts:=by rw[HH.1,List.take_length]
   rw[hfull]at HJ;clear hfull;obtain⟨s0,s1,s2,s3,s4,s5,s6,s7⟩:=HJ.sofar.c8;obtain⟨r0,r1,r2,r3,r4,r5,r6,r7⟩:=HJ.ans.c8;obtain⟨f0,f1,f2,f3,f4,f5,f6,f7⟩:=HJ.ans.f8;have HF:Hid (LayR base M T G E en mp (lyS ts true (Lay.no a)) w (.returned (spV (lyS ts true (Lay.no a)).fst (lyS ts true (Lay.no a)).lst)) (setSp wr (w.heap.size+1) (lyS ts true (Lay.no a)).fst (lyS ts true (Lay.no a)).lst)∧yA (setSp wr (w.heap.size+1) (lyS ts true (Lay.no a)).fst (lyS ts true (Lay.no a)).lst) w.heap.size 183 8 (w.heap.size+1) (spL (lyS ts true (Lay.no a)).fst (lyS ts true (Lay.no a)).lst)):=by obtain⟨f1,f2,f3⟩:=yHx HJ.mtr HJ.ans HJ.chg (lyS ts true (Lay.no a)).fst (lyS ts true (Lay.no a)).lst;exact⟨⟨_,_,rfl,⟨f1,f3,HJ.at_⟩⟩,f2⟩
   go_wp2_with fail;exact bodyPost_ret (v:=spV (lyS ts true (Lay.no a)).fst (lyS ts true (Lay.no a)).lst) (yJb (base:=w.heap.size) (g:=w.heap.size+1) rfl HF.2) rfl HF.1
end
theorem yQ7:∀(os:List (List Pat)) (ts:List Pat) (g:Lay),lyA (os++ [ts]) g=(lyA os g).alt (lyS ts true (Lay.no (lyA os g).nx))
 | [],ts,g=>by simp[lyA]
 |o::os,ts,g=>by simp only[List.cons_append,lyA,yQ7 os ts]
theorem yOu:∀(l m:List (List Pat)),wtA (l++m)=wtA l+wtA m
 | [],m=>by simp[wtA]
 |t::l,m=>by simp only[List.cons_append,wtA,yOu l m];omega
variable {base:Nat} {w0:World} {ts:List Pat} {u:Value}
theorem yPe (h:LqC base w0 ts u):∃(sa:Option Addr) (sn sc:Nat),u=.slice sa sn sc∧∀(M:Nat) (T:Nat→PS) (G cp a:Nat) (E:Nat→PS) (en:PS) (mp:Nat) (w:World),MtrI w base M T G cp a E en mp→Below base w0 w→a+wtS ts≤256→
 Calls Tryz.prog 135 #[.pointer (some ⟨M,0,none⟩),.iface 206 (.agg #[.slice sa sn sc])] w (LayR base M T G E en mp (lyS ts true (Lay.no a)) w):=by
 obtain⟨sa,sn,sc,rfl,H⟩:=h;refine⟨sa,sn,sc,rfl,fun M T G cp a E en mp w h hw0 hwt=>?_⟩;obtain⟨l,hl⟩:=qE (lyS ts true (Lay.no a));obtain⟨W0,hW0⟩:=qE ((w.alloc (.cells zsA 183)).alloc (.cells #[.slice sa sn sc] 206):World);have HW0:Hid (yA W0 w.heap.size 183 8 w.heap.size zsA.toList∧Below w.heap.size w W0∧MtrI W0 base M T G cp a E en mp):=by
  have b1:=yAa w (base:=w.heap.size) (t:=183) (sz:=8) zsA (Nat.le_refl _) rfl;have k0:Below w.heap.size w W0:=by rw[hW0];exact(qB).alloc (by simp) _
  refine⟨?_,k0,h.below k0⟩;rw[hW0];exact b1.below (qB)
 have hM0:=h.ltM;have hG0:=h.ltG;have HL:Hid (Calls Tryz.prog 157 #[.pointer (some ⟨M,0,none⟩),.agg #[.slice sa sn sc]] W0 (LayR base M T G E en mp l W0)):=by rw[hl];exact H M T G cp a E en mp W0 HW0.2.2 (hw0.trans (HW0.2.1.mono (by omega))) hwt
 rw[←hl];clear h H hl hw0;have hAs:=asSB #[.slice sa sn sc];have hAs2:=asSC #[.slice sa sn sc];have hAs3:=asSR #[.slice sa sn sc];have hAs4:=asSS #[.slice sa sn sc];go_enter Tryz.func135,Tryz.ntmps135;go_wp2_with fail;have hW0':=hW0;simp only[zsA]at hW0';rw[←hW0'];clear hW0 hW0' hAs hAs2 hAs3 hAs4;refine HL.mono ?_;rintro e w5 ⟨G1,cp1,rfl,H1⟩;have q0:=HW0.2.1.size;have HB5:=HW0.1.chg H1.2.1 (by omega);obtain⟨r0,r1,r2,r3,r4,r5,r6,r7⟩:=HB5.c8;obtain⟨f0,f1,f2,f3,f4,f5,f6,f7⟩:=HB5.f8;exact zzQ37
def AlI (w X:World) (uv:Value) (base M:Nat) (T:Nat→PS) (G cp:Nat) (E:Nat→PS) (en:PS) (mp:Nat) (g:Lay) (G0:Nat):Prop:=SqB w X 142 uv base M (yBe T g) G cp g.nx (yA0 E g) en mp g.fst g.lst G0
variable {lo:Nat→Prop} {os:List (List Pat)} {us:List Value}
theorem yPi {g0 cp0:Nat} (hul:us.length=os.length) (hV:yCp w0 lo g0 us) (hlo:g0<base) (hN:∀(i:Nat) x t,us[i]?=some x→os[i]?=some t→LqC base w0 t x) (M:Nat) (T:Nat→PS) (G cp a:Nat) (E:Nat→PS) (en:PS) (mp:Nat) (w:World) (h:MtrI w base M T G cp a E en mp) (hw0:Below base w0 w) (hwt:a+wtA os≤256):
 Calls Tryz.prog 158 #[.pointer (some ⟨M,0,none⟩),.agg #[.slice (some ⟨g0,0,none⟩) os.length cp0]] w (LayR base M T G E en mp (lyA os (Lay.no a)) w):=by
 obtain⟨n,hn⟩:=qE os.length;have hn5:n≤256:=by have:=yOt os;omega
 rw[←hn];obtain⟨W0,hW0⟩:=qE (((w.alloc (.cells #[.slice (some ⟨g0,0,none⟩) n cp0] 142)).alloc (.cells zsA 183)).alloc (.cells zsA 183):World);have hM0:=h.ltM;have hlow:=Nat.le_of_lt (Nat.lt_of_le_of_lt h.ltM.1 h.ltM.2);have HGb:Hid (base≤G):=h.ltG.1;have HW0:Hid (SqB w W0 142 (.slice (some ⟨g0,0,none⟩) n cp0) base M (yBe T (Lay.no a)) G cp a (yA0 E (Lay.no a)) en mp (Lay.no a).fst (Lay.no a).lst G):=by
  have b1:=yAa w (base:=w.heap.size) (t:=142) (sz:=1) #[.slice (some ⟨g0,0,none⟩) n cp0] (Nat.le_refl _) rfl;have b2:=yAa (w.alloc (.cells #[.slice (some ⟨g0,0,none⟩) n cp0] 142)) (base:=w.heap.size) (t:=183) (sz:=8) zsA (by simp) rfl;have b3:=yAa ((w.alloc (.cells #[.slice (some ⟨g0,0,none⟩) n cp0] 142)).alloc (.cells zsA 183)) (base:=w.heap.size) (t:=183) (sz:=8) zsA (by simp;omega) rfl;rw[World.size_alloc]at b2;rw[World.size_alloc,World.size_alloc]at b3;have k1:∀(x:World) (o:Obj),Below x.heap.size x (x.alloc o):=fun x o=>qB;have k0:Below w.heap.size w W0:=by rw[hW0];exact((qB).alloc (by simp) _).alloc (by simp;omega) _
  have hz:spL (Lay.no a).fst (Lay.no a).lst=zsA.toList:=by show spL sNo sNo=_;simp only[spL,yE4];rfl
  refine⟨(h.below k0).iff (fun b p _ _=>by simp[yBe,Lay.no]) (fun q p _ _=>by simp[yA0,Lay.no]) (fun p hp q=>by have:=h.new p hp q;simp[yA0,Lay.no,this]),?_,?_,?_,Chg.of_below k0,.inl rfl⟩
  ·rw[hW0];exact(b1.below (k1 _ _)).below (k1 _ _)
  ·rw[hW0];exact b2.below (k1 _ _)
  ·rw[hz,hW0];exact b3
 have HH:Hid (n=os.length∧us.length=n∧yCp w0 lo g0 us∧Below base w0 w∧(∀(i:Nat) x t,us[i]?=some x→os[i]?=some t→LqC base w0 t x)∧a+wtA os≤256):=⟨hn,by rw[hn];exact hul,hV,hw0,hN,hwt⟩;clear h hul hV hN hw0 hn hwt;go_enter Tryz.func158,Tryz.ntmps158;go_wp2_with fail;have hW0':=hW0;simp only[zsA]at hW0';rw[←hW0'];clear hW0 hW0';go_loopw[13] (fun iv wr=>∃(k Gk ck:Nat),k≤n∧iv=.int .i64 k∧Hid (AlI w wr (.slice (some ⟨g0,0,none⟩) n cp0) base M T Gk ck E en mp (lyA (os.take k) (Lay.no a)) G)) (fun iv _=>n-(intOf iv).toNat);case atStart=>exact⟨0,G,cp,Nat.zero_le _,rfl,HW0.out⟩
 case round=>
  clear HW0;obtain⟨k,Gk,ck,hk,rfl,HJ⟩:=hrel;by_cases hlt:k<n
  ·have zk:(k:Int)<(n:Int):=by omega
   obtain⟨x,hx⟩:∃x,us[k]?=some x:=⟨_,List.getElem?_eq_getElem (by rw[HH.2.1];exact hlt)⟩;obtain⟨t,ht⟩:∃t,os[k]?=some t:=⟨_,List.getElem?_eq_getElem (by rw[←HH.1];exact hlt)⟩;obtain⟨sa,sn,sc,rfl,HLy⟩:=yPe (HH.2.2.2.2.1 k x t hx ht);have hbw:Below base w0 wr:=Chg.below HH.2.2.2.1 HJ.chg hlow (fun j q=>by rcases q with q|q;omega;have:=HGb.out;omega);have c0:wr.cell? ⟨g0,k,none⟩=some (.slice sa sn sc):=by rw[hbw.cell (p:=⟨g0,k,none⟩) hlo];exact HH.2.2.1.val k _ hx
   obtain⟨gk,hgk⟩:=qE (lyA (os.take k) (Lay.no a));obtain⟨l,hl⟩:=qE (lyS t true (Lay.no gk.nx));have htk:os.take (k+1)=os.take k++ [t]:=by rw[List.take_add_one,ht];rfl
   have hwk:wtA (os.take k)+wtS t≤wtA os:=by have h1:os=os.take (k+1)++os.drop (k+1):=(List.take_append_drop _ _).symm;have h2:=congrArg wtA h1;rw[yOu,htk,yOu]at h2;simp only[wtA]at h2;omega
   have hnxk:gk.nx≤a+wtA (os.take k):=by rw[hgk];have:=nx_A (os.take k) (Lay.no a);simpa [Lay.no]using this
   have hwt:=HH.2.2.2.2.2;rw[←hgk]at HJ;have HNx:Hid (lyA (os.take (k+1)) (Lay.no a)=gk.alt l):=by show _=_;rw[htk,yQ7,←hgk,←hl]
   have k0:∀o:Obj,Below wr.heap.size wr (wr.alloc o):=fun o=>qB;have HJ0:Hid (∀o:Obj,SqB w (wr.alloc o) 142 (.slice (some ⟨g0,0,none⟩) n cp0) base M (yBe T gk) Gk ck gk.nx (yA0 E gk) en mp gk.fst gk.lst G):=fun o=>SqB.below HJ.out (k0 o);have HL:Hid (∀o:Obj,Calls Tryz.prog 135 #[.pointer (some ⟨M,0,none⟩),.iface 206 (.agg #[.slice sa sn sc])] (wr.alloc o) (LayR base M (yBe T gk) Gk (yA0 E gk) en mp l (wr.alloc o))):=fun o=>by rw[hl];exact HLy M (yBe T gk) Gk ck gk.nx (yA0 E gk) en mp _ (HJ0.out o).mtr (hbw.trans ((k0 o).mono (by have:=HJ.chg.size;omega))) (by omega)
   clear hx ht HLy hbw hgk hl htk hwk hnxk hwt k0;go_wp2_with fail;refine(HL.out _).mono ?_;rintro e w1 ⟨G1,cp1,rfl,H1⟩;clear c0 HL;obtain⟨W2,hW2⟩:=qE (w1.alloc (.cells (spL l.fst l.lst).toArray 183):World);have k2:Below w1.heap.size w1 W2:=by rw[hW2];exact qB
   have h1q:=(HJ0.out _).laid (by decide) hM0.2 H1.1 H1.2.1 H1.2.2;have hw1:w.heap.size≤w1.heap.size:=h1q.chg.size;have HW2:Hid (SqB w W2 142 (.slice (some ⟨g0,0,none⟩) n cp0) base M (yBe (yBe T gk) l) G1 cp1 l.nx (yA0 (yA0 E gk) l) en mp gk.fst gk.lst G∧yA W2 w.heap.size 183 8 w1.heap.size (spL l.fst l.lst)):=⟨h1q.below k2,by rw[hW2];exact yAa w1 _ hw1 rfl⟩;have hwn:w.heap.size+1+1<w1.heap.size:=h1q.sofar.lt.2;obtain⟨s0,s1,s2,s3,s4,s5,s6,s7⟩:=HW2.1.sofar.c8;obtain⟨f0,f1,f2,f3,f4,f5,f6,f7⟩:=HW2.1.sofar.f8;obtain⟨ee0,ee1,ee2,ee3,ee4,ee5,ee6,ee7⟩:=HW2.2.c8;have HUf:Hid (∀wx:World,Calls Tryz.prog 161 #[psV gk.fst,psV l.fst] wx fun e w'=>e=.returned (psV (sOr gk.fst l.fst))∧Below wx.heap.size wx w'):=fun wx=>yCw gk.fst l.fst wx;have HUl:Hid (∀wx:World,Calls Tryz.prog 161 #[psV gk.lst,psV l.lst] wx fun e w'=>e=.returned (psV (sOr gk.lst l.lst))∧Below wx.heap.size wx w'):=fun wx=>yCw gk.lst l.lst wx;clear h1q k2 H1;go_upto_region 6 with fail;have hW2':=hW2;simp only[spL]at hW2';rw[←hW2'];clear hW2 hW2';go_wp2_with fail;refine(HUf.out _).mono ?_;rintro e w4 ⟨rfl,hb4⟩;have HW4:Hid (SqB w (set4 w4 (w.heap.size+1+1) 0 (sOr gk.fst l.fst)) 142 (.slice (some ⟨g0,0,none⟩) n cp0) base M (yBe (yBe T gk) l) G1 cp1 l.nx (yA0 (yA0 E gk) l) en mp (sOr gk.fst l.fst) gk.lst G∧yA (set4 w4 (w.heap.size+1+1) 0 (sOr gk.fst l.fst)) w.heap.size 183 8 w1.heap.size (spL l.fst l.lst)):=⟨(HW2.1.below hb4).set hM0.2 (by decide) _ (yN _ _ _) hlow,(HW2.2.below hb4).chg (yBj (S:=fun j=>j=w.heap.size+1+1) w4 _ _ _ rfl) (by omega)⟩;have HB4:=HW2.1.sofar.below hb4;clear s0 s1 s2 s3 s4 s5 s6 s7 f0 f1 f2 f3 f4 f5 f6 f7 ee0 ee1 ee2 ee3 ee4 ee5 ee6 ee7;obtain⟨s0,s1,s2,s3,s4,s5,s6,s7⟩:=HB4.c8;obtain⟨f0,f1,f2,f3,f4,f5,f6,f7⟩:=HB4.f8;clear HB4 hb4;go_upto_region 7 with fail;obtain⟨W5,hW5⟩:=qE (set4 w4 (w.heap.size+1+1) 0 (sOr gk.fst l.fst):World);have hW5':=hW5;simp only[set4,Nat.zero_add]at hW5';rw[←hW5'];rw[←hW5]at HW4;clear hW5 hW5';clear s0 s1 s2 s3 s4 s5 s6 s7 f0 f1 f2 f3 f4 f5 f6 f7;obtain⟨s0,s1,s2,s3,s4,s5,s6,s7⟩:=HW4.1.sofar.c8;obtain⟨f0,f1,f2,f3,f4,f5,f6,f7⟩:=HW4.1.sofar.f8;obtain⟨ee0,ee1,ee2,ee3,ee4,ee5,ee6,ee7⟩:=HW4.2.c8;go_wp2_with fail;refine(HUl.out _).mono ?_;rintro e w7 ⟨rfl,hb7⟩;clear s0 s1 s2 s3 s4 s5 s6 s7 f0 f1 f2 f3 f4 f5 f6 f7 ee0 ee1 ee2 ee3 ee4 ee5 ee6 ee7;have HB7:=HW4.1.sofar.below hb7;obtain⟨s0,s1,s2,s3,s4,s5,s6,s7⟩:=HB7.c8;obtain⟨f0,f1,f2,f3,f4,f5,f6,f7⟩:=HB7.f8;have HW8:Hid (AlI w (set4 w7 (w.heap.size+1+1) 4 (sOr gk.lst l.lst)) (.slice (some ⟨g0,0,none⟩) n cp0) base M T G1 cp1 E en mp (gk.alt l) G):=by have h8:=(HW4.1.below hb7).set hM0.2 (by decide) (sOr gk.lst l.lst) (yGw _ _ _) hlow;refine⟨h8.mtr.iff (fun b p _ _=>by simp[yBe,Lay.alt,Bool.or_assoc]) (fun q p _ _=>by simp[yA0,Lay.alt,Bool.or_assoc]) (fun p hp q=>?_),h8.node,h8.ans,h8.sofar,h8.chg,h8.at_⟩;have:=h8.mtr.new p hp q;simpa [yA0,Lay.alt,Bool.or_assoc]using this
   rw[←HNx.out]at HW8;simp only[set4]at HW8;clear HB7 hb7;go_wp2_with fail;refine⟨⟨k+1,G1,cp1,by omega,by go_num,HW8⟩,?_⟩;go_light;simp[intOf];omega
  ·obtain rfl:k=n:=by omega
   have zk:¬(k:Int)<(k:Int):=by omega
   have hfull:os.take k=os:=by rw[HH.1,List.take_length]
   rw[hfull]at HJ;clear hfull;obtain⟨s0,s1,s2,s3,s4,s5,s6,s7⟩:=HJ.sofar.c8;obtain⟨r0,r1,r2,r3,r4,r5,r6,r7⟩:=HJ.ans.c8;obtain⟨f0,f1,f2,f3,f4,f5,f6,f7⟩:=HJ.ans.f8;have HF:Hid (LayR base M T G E en mp (lyA os (Lay.no a)) w (.returned (spV (lyA os (Lay.no a)).fst (lyA os (Lay.no a)).lst)) (setSp wr (w.heap.size+1) (lyA os (Lay.no a)).fst (lyA os (Lay.no a)).lst)∧yA (setSp wr (w.heap.size+1) (lyA os (Lay.no a)).fst (lyA os (Lay.no a)).lst) w.heap.size 183 8 (w.heap.size+1) (spL (lyA os (Lay.no a)).fst (lyA os (Lay.no a)).lst)):=by obtain⟨f1,f2,f3⟩:=yHx HJ.mtr HJ.ans HJ.chg (lyA os (Lay.no a)).fst (lyA os (Lay.no a)).lst;exact⟨⟨_,_,rfl,⟨f1,f3,HJ.at_⟩⟩,f2⟩
   go_wp2_with fail;exact bodyPost_ret (v:=spV (lyA os (Lay.no a)).fst (lyA os (Lay.no a)).lst) (yO1 (base:=w.heap.size) (g:=w.heap.size+1) rfl HF.2) rfl HF.1
variable {n:Nat}
theorem yPf {g0 cp0:Nat} (H:∀(M:Nat) (T:Nat→PS) (G cp a:Nat) (E:Nat→PS) (en:PS) (mp:Nat) (w:World),MtrI w base M T G cp a E en mp→Below base w0 w→a+wtA os≤256→
 Calls Tryz.prog 158 #[.pointer (some ⟨M,0,none⟩),.agg #[.slice (some ⟨g0,0,none⟩) n cp0]] w (LayR base M T G E en mp (lyA os (Lay.no a)) w)):LyC base w0 (.alt os) (.iface 142 (.agg #[.slice (some ⟨g0,0,none⟩) n cp0])):=by
 intro M T G cp a E en mp w h hw0 hwt;obtain⟨l,hl⟩:=qE (lyA os (Lay.no a));have hl2:lyP (.alt os) a=l:=by rw[hl];simp only[lyP]
 simp only[wtP]at hwt;obtain⟨W0,hW0⟩:=qE ((w.alloc (.cells zsA 183)).alloc (.cells #[.slice (some ⟨g0,0,none⟩) n cp0] 142):World);have HW0:Hid (yA W0 w.heap.size 183 8 w.heap.size zsA.toList∧Below w.heap.size w W0∧MtrI W0 base M T G cp a E en mp):=by
  have b1:=yAa w (base:=w.heap.size) (t:=183) (sz:=8) zsA (Nat.le_refl _) rfl;have k0:Below w.heap.size w W0:=by rw[hW0];exact(qB).alloc (by simp) _
  refine⟨?_,k0,h.below k0⟩;rw[hW0];exact b1.below (qB)
 have hM0:=h.ltM;have hG0:=h.ltG;have HL:Hid (Calls Tryz.prog 158 #[.pointer (some ⟨M,0,none⟩),.agg #[.slice (some ⟨g0,0,none⟩) n cp0]] W0 (LayR base M T G E en mp l W0)):=by rw[hl];exact H M T G cp a E en mp W0 HW0.2.2 (hw0.trans (HW0.2.1.mono (by omega))) (by omega)
 rw[hl2];clear h H hl hl2 hw0;have hAs:=asAB #[.slice (some ⟨g0,0,none⟩) n cp0];have hAs2:=asAC #[.slice (some ⟨g0,0,none⟩) n cp0];have hAs3:=asAR #[.slice (some ⟨g0,0,none⟩) n cp0];have hAs4:=asAS #[.slice (some ⟨g0,0,none⟩) n cp0];have hAs5:=asAA #[.slice (some ⟨g0,0,none⟩) n cp0];go_enter Tryz.func135,Tryz.ntmps135;go_wp2_with fail;have hW0':=hW0;simp only[zsA]at hW0';rw[←hW0'];clear hW0 hW0' hAs hAs2 hAs3 hAs4 hAs5;refine HL.mono ?_;rintro e w5 ⟨G1,cp1,rfl,H1⟩;have q0:=HW0.2.1.size;have HB5:=HW0.1.chg H1.2.1 (by omega);have r0:=HB5.cell (j:=0) rfl;have f0:=HB5.frozen 0;have r1:=HB5.cell (j:=1) rfl;have f1:=HB5.frozen 1;have r2:=HB5.cell (j:=2) rfl;have f2:=HB5.frozen 2;have r3:=HB5.cell (j:=3) rfl;have f3:=HB5.frozen 3;have r4:=HB5.cell (j:=4) rfl;have f4:=HB5.frozen 4;have r5:=HB5.cell (j:=5) rfl;have f5:=HB5.frozen 5;have r6:=HB5.cell (j:=6) rfl;have f6:=HB5.frozen 6;have r7:=HB5.cell (j:=7) rfl;have f7:=HB5.frozen 7;exact zzQ37
theorem yW1 (hlo:∀k,lo k→k<base) (hw5:base=w0.heap.size) (h:yOl (fun t v=>wtP t≤500→LyC base w0 t v∧NulV w0 t v) w0 lo ts u) (hwt:wtS ts≤500):LqC base w0 ts u:=by
 rcases h with⟨rfl,rfl⟩|⟨g,cp,us,rfl,hul,hV,hN⟩
 ·exact ySj base w0
 ·exact yPh hul hV (hlo g hV.blk) (fun i x t hx ht=>hN i x t hx ht (Nat.le_trans (yOp (List.mem_of_getElem? ht)) hwt)) hw5
theorem yPg (hlo:∀k,lo k→k<base) (hw5:base=w0.heap.size):∀(n:Nat) {t:Pat} {v:Value},yDw n w0 lo t v→wtP t≤500→LyC base w0 t v
 |0,_,_,h,_=>h.elim
 |n+1,.byte b,v,h,_=>by
  rw[show v=ySy b from h]
  intro M T G cp a E en mp w hm _ hwt
  simp only[wtP]at hwt
  exact yW2 b w hm (by omega)
 |n+1,.cls f,v,h,_=>by
  rw[show v=clsV f from h]
  intro M T G cp a E en mp w hm _ hwt
  simp only[wtP]at hwt
  exact yZv f w hm (by omega)
 |n+1,.rep t o r,v,⟨u,h1,h2⟩,hw=>by
  rw[h1]
  exact yZu (yCf.iface ⟨n,h2⟩) (yPg hlo hw5 n h2 (by simpa only[wtP]using hw)) o r
 |n+1,.alt os,v,⟨u,h1,⟨g,cp,us,h2,h3,h4,h5⟩⟩,hw=>by
  rw[h1,h2]
  simp only[wtP]at hw
  refine yPf (fun M T G cp' a E en mp w hm hw0 hwt=>yPi h3 h4 (hlo g h4.blk) (fun i x ts hx hts=>?_) M T G cp' a E en mp w hm hw0 hwt)
  exact yW1 hlo hw5 ((h5 i x ts hx hts).mono (fun t v q hq=>⟨yPg hlo hw5 n q hq,yMf n q hq⟩) (fun _ _ q=>q)) (by have:=yOs (List.mem_of_getElem? hts);omega)
def mtrZ (fv mv:Value):Array Value:=(Array.replicate 1024 (.int .u64 0))++#[fv,.int .u64 0,.int .u64 0,.int .u64 0,.int .u64 0,mv]
theorem ySz (a:Option Addr) (n c:Nat) (m:Option Nat) (w:World):(Instr.build 181 #[(1,.slice a n c),(3,.map m)]).run Tryz.prog w=.ok (.agg (mtrZ (.slice a n c) (.map m))) w:=by kernel_rfl
theorem yNk:∃F:Value→Value→Array Value,∀fv mv,F fv mv=mtrZ fv mv:=⟨_,fun _ _=>rfl⟩
noncomputable def mtrA (fv mv:Value):Array Value:=Classical.choose yNk fv mv
theorem yPa (fv mv:Value):mtrA fv mv=mtrZ fv mv:=Classical.choose_spec yNk fv mv
theorem yOh (a:Option Addr) (n c:Nat) (m:Option Nat) (w:World):(Instr.build 181 #[(1,.slice a n c),(3,.map m)]).run Tryz.prog w=.ok (.agg (mtrA (.slice a n c) (.map m))) w:=by rw[yPa];exact ySz a n c m w
theorem yNl (fv mv:Value):(mtrA fv mv).size=1030:=by rw[yPa];simp[mtrZ]
theorem yUo (fv:Value) (mp:Nat):(mtrA fv (.map (some mp))).toList=rngV 1030 (mV (fun _=>sNo) fv sNo mp):=by
 rw[yPa];refine List.ext_getElem? (fun i=>?_);by_cases hi:i<1030
 ·rw[yD1 hi];unfold mtrZ mV eV;rw[Array.toList_append,Array.toList_replicate];by_cases h1:i<1024
  ·rw[List.getElem?_append_left (by simpa using h1),if_pos h1,yE4];rw[List.getElem?_replicate,if_pos h1];rfl
  ·rw[List.getElem?_append_right (by simpa using h1),if_neg h1];simp only[List.length_replicate,yE4];rcases(by omega:i=1024∨i=1025∨i=1026∨i=1027∨i=1028∨i=1029)with rfl|rfl|rfl|rfl|rfl|rfl<;>rfl
 ·rw[List.getElem?_eq_none (by simp[mtrZ];omega),List.getElem?_eq_none (by rw[yI1];omega)]
theorem yWz (w:World) (hT:TabD w) (u:Value):MtrI ((((w.alloc (.cells #[u] 142)).alloc (.cells z4 178)).alloc (.map #[] 0)).alloc (.cells (mtrA (.slice (some ⟨w.heap.size+1,0,none⟩) 1 1) (.map (some (w.heap.size+1+1)))) 181)) w.heap.size (w.heap.size+1+1+1) (fun _=>sNo) (w.heap.size+1) 1 1 (fun _=>sNo) sNo (w.heap.size+1+1):=by
 obtain⟨W1,hW1⟩:=qE (w.alloc (.cells #[u] 142):World);have k1:∀(x:World) (o:Obj),Below x.heap.size x (x.alloc o):=fun x o=>qB;have z1:W1.heap.size=w.heap.size+1:=by rw[hW1];simp
 rw[←hW1];obtain⟨W2,hW2⟩:=qE (W1.alloc (.cells z4 178):World);have z2:W2.heap.size=w.heap.size+1+1:=by rw[hW2];simp[z1]
 have r2:W2.ownsRow w.heap.size 178 4 (.slice (some ⟨w.heap.size+1,0,none⟩) 1 1) 1 z4.toList:=by have:=World.ownsRow_lit W1 (base:=w.heap.size) (e:=178) (size:=4) z4 1 (by omega) (by decide) rfl;rw[z1]at this;rw[hW2];exact this
 rw[←hW2];obtain⟨W3,hW3⟩:=qE (W2.alloc (.map #[] 0):World);have z3:W3.heap.size=w.heap.size+1+1+1:=by rw[hW3];simp[z2]
 rw[←hW3];have h3:Below W2.heap.size W2 W3:=by rw[hW3];exact k1 _ _
 have b4:=yAa W3 (base:=w.heap.size) (t:=181) (sz:=1030) (mtrA (.slice (some ⟨w.heap.size+1,0,none⟩) 1 1) (.map (some (w.heap.size+1+1)))) (by omega) (yNl _ _);rw[yUo,z3]at b4;have hw:Below w.heap.size w W1:=by rw[hW1];exact k1 _ _
 have hw2:Below W1.heap.size W1 W2:=by rw[hW2];exact k1 _ _
 refine⟨b4,?_,fun p _ q=>rfl,?_,hT.lt⟩
 ·have r4:=yAp (yAp r2 (Chg.of_below h3 (S:=fun _=>False)) (fun _ _ q=>q)) (Chg.of_below (k1 W3 (.cells (mtrA (.slice (some ⟨w.heap.size+1,0,none⟩) 1 1) (.map (some (w.heap.size+1+1)))) 181)) (S:=fun _=>False)) (fun _ _ q=>q);have e:rngV (4*1) (eV (fun _=>sNo))=z4.toList:=by have:=yVd (E:=fun _=>sNo) (a:=0) (fun _=>rfl);rw[←this];rfl
  rw[e];exact r4
 ·exact(((hT.chg (Chg.of_below hw (S:=fun _=>False)) (fun q=>q)).chg (Chg.of_below hw2 (S:=fun _=>False)) (fun q=>q)).chg (Chg.of_below h3 (S:=fun _=>False)) (fun q=>q)).chg (Chg.of_below (k1 W3 _) (S:=fun _=>False)) (fun q=>q)
def mkE (l:Lay):Nat→PS:=fun p q=>l.ed p q || (p==0 && l.fst q)
def mkT (l:Lay):Nat→PS:=fun b p=>l.tk p (UInt8.ofNat b)
def mkN (l:Lay) (em:Bool):PS:=fun p=>l.lst p || (em && p==0)
def MkR (os:List (List Pat)) (w:World) (e:Ending) (w':World):Prop:=∃M G cp mp,e=.returned (.pointer (some ⟨M,0,none⟩))∧
 Hid (MtrI w' w.heap.size M (mkT (lyA os (Lay.no 1))) G cp (lyA os (Lay.no 1)).nx (mkE (lyA os (Lay.no 1))) (mkN (lyA os (Lay.no 1)) (nulA os)) mp∧w'.heap[mp]?=some (.map #[] 0)∧w.heap.size≤mp∧Below w.heap.size w w')
variable {w:World} {cp mp:Nat}
theorem MtrI.ends4 {M:Nat} {T:Nat→PS} {G a:Nat} {E:Nat→PS} {en:PS} (h:MtrI w base M T G cp a E en mp):w.cell? ⟨M,1025,none⟩=some (.int .u64 (wdN en 0:Int))∧w.cell? ⟨M,1026,none⟩=some (.int .u64 (wdN en 1:Int))∧w.cell? ⟨M,1027,none⟩=some (.int .u64 (wdN en 2:Int))∧w.cell? ⟨M,1028,none⟩=some (.int .u64 (wdN en 3:Int))∧w.frozen? ⟨M,1025,none⟩=false∧w.frozen? ⟨M,1026,none⟩=false∧w.frozen? ⟨M,1027,none⟩=false∧w.frozen? ⟨M,1028,none⟩=false:=
 ⟨h.ends (j:=0) (by omega),h.ends (j:=1) (by omega),h.ends (j:=2) (by omega),h.ends (j:=3) (by omega),h.frzM _,h.frzM _,h.frzM _,h.frzM _⟩
variable {w':World}
theorem yGm {S:Nat→Prop} (h:w.heap[mp]?=some (.map #[] 0)) (hc:Chg S w w') (hn:¬S mp):w'.heap[mp]?=some (.map #[] 0):=(hc.block mp (Array.getElem?_eq_some_iff.1 h).1 hn).trans h
theorem yY4 {e size g:Nat} {vs:List Value} (h:w.ownsRow base e size (.slice (some ⟨g,0,none⟩) n cp) n vs) (hm:w.heap[mp]?=some (.map #[] 0)):¬mp=g:=fun q=>by
 rcases h.2 with⟨h0,_⟩|⟨g',cap',cur,hv,_,hh,_⟩
 ·cases h0
 ·simp at hv
  rw[←hv.1,←q,hm]at hh
  cases hh
theorem yZq (w:World):(Instr.makeSlice 175 (.int .i64 1) (.int .i64 1)).run Tryz.prog w=.ok (.slice (some ⟨w.heap.size,0,none⟩) 1 1) (w.alloc (.cells z4 178)):=by kernel_rfl
theorem yZr (w:World):(Instr.makeMap 176 none).run Tryz.prog w=.ok (.map (some w.heap.size)) (w.alloc (.map #[] 0)):=by kernel_rfl
theorem yIm {ops:Array Oper} {rest:List Oper} {o:Oper} {a:Act} {Q:Exit→Act→World→Prop} (w:World) (hgd:o.guard=none) (x y:Operand) (ho:o.op=.build 181 #[(1,x),(3,y)]) {b:Option Addr} {c:Nat} {m:Option Nat} (hx:a.eval x=.slice b n c) (hy:a.eval y=.map m)
  (h:wpList Tryz.prog ops Q rest (a.put o.dst (.agg (mtrA (.slice b n c) (.map m)))) w):wpList Tryz.prog ops Q (o::rest) a w:=by
 refine wpList_plain hgd fun K hK=>?_;have hb:=yOh b n c m w;unfold Oper.wp execOp;simp only[ho,Sem.run_bind,Sem.run_pure,Result.andThen_ok,List.map_toArray,List.map_cons,List.map_nil,hx,hy,hb];exact hK _ _ h
theorem yIu {d:Nat} (w:World) (hT:TabD w) (hlo:∀k,lo k→k<w.heap.size) (hA:yQb (yDw d w lo) w lo os u) (hwt:wtA os≤250):∃(sa:Option Addr) (sn sc:Nat),u=.slice sa sn sc∧Calls Tryz.prog 105 #[.agg #[.slice sa sn sc]] w (MkR os w):=by
 have hAl:=hA;obtain⟨g,cp0,us,rfl,h3,h4,h5⟩:=hA;refine⟨_,_,_,rfl,?_⟩;obtain⟨n,hn⟩:=qE os.length;have hLy:LyC w.heap.size w (.alt os) (.iface 142 (.agg #[.slice (some ⟨g,0,none⟩) os.length cp0])):=yPg hlo rfl (d+1) (t:=.alt os) ⟨_,rfl,hAl⟩ (by simp only[wtP];omega);obtain⟨T0,c0,f0,hv,hT0,HC⟩:=yMf (d+1) (w:=w) (lo:=lo) (t:=.alt os) (v:=.iface 142 (.agg #[.slice (some ⟨g,0,none⟩) os.length cp0])) ⟨_,rfl,hAl⟩ (by simp only[wtP];omega);simp only[Value.iface.injEq,Value.agg.injEq]at hv;obtain⟨rfl,rfl⟩:=hv;have hf0:f0=136:=by
  rcases hT0 with⟨q,_⟩|⟨q,_⟩|⟨q,_⟩|⟨_,q⟩
  ·exact absurd q (by decide)
  ·exact absurd q (by decide)
  ·exact absurd q (by decide)
  ·exact q
 subst hf0;rw[←hn]at hLy HC⊢;obtain⟨l,hl⟩:=qE (lyA os (Lay.no 1));have hl2:lyP (.alt os) 1=l:=by rw[hl];simp only[lyP]
 obtain⟨em,hem⟩:=qE (nulA os);have HNul:Hid (∀w',Below w.heap.size w w'→Calls Tryz.prog 136 #[.agg #[.slice (some ⟨g,0,none⟩) n cp0]] w' fun e w''=>e=.returned (.bool em)∧Below w'.heap.size w' w''):=fun w' hw=>by have:=HC.out w' hw;rw[hem];simpa only[nulB]using this
 obtain⟨W0,hW0⟩:=qE ((((w.alloc (.cells #[.slice (some ⟨g,0,none⟩) n cp0] 142)).alloc (.cells z4 178)).alloc (.map #[] 0)).alloc (.cells (mtrA (.slice (some ⟨w.heap.size+1,0,none⟩) 1 1) (.map (some (w.heap.size+1+1)))) 181):World);have k0:Below w.heap.size w W0:=by rw[hW0];exact(((qB).alloc (by simp) _).alloc (by simp;omega) _).alloc (by simp;omega) _
 have hmd:=yWz w hT (.slice (some ⟨g,0,none⟩) n cp0);rw[←hW0]at hmd;have hmap:W0.heap[w.heap.size+1+1]?=some (.map #[] 0):=by
  rw[hW0];have z:(((w.alloc (.cells #[.slice (some ⟨g,0,none⟩) n cp0] 142)).alloc (.cells z4 178))).heap.size=w.heap.size+1+1:=by simp
  rw[←z];exact(Below.heap_alloc _ _ _ (by simp)).trans (World.alloc_heap_new _ _)
 have hnode:yA W0 w.heap.size 142 1 w.heap.size [.slice (some ⟨g,0,none⟩) n cp0]:=by have k1:∀(x:World) (o:Obj),Below x.heap.size x (x.alloc o):=fun x o=>qB;have b1:=yAa w (base:=w.heap.size) (t:=142) (sz:=1) #[.slice (some ⟨g,0,none⟩) n cp0] (Nat.le_refl _) rfl;rw[hW0];exact((b1.below (k1 _ _)).below (k1 _ _)).below (k1 _ _)
 have HL:Hid (Calls Tryz.prog 135 #[.pointer (some ⟨w.heap.size+1+1+1,0,none⟩),.iface 142 (.agg #[.slice (some ⟨g,0,none⟩) n cp0])] W0 (LayR w.heap.size (w.heap.size+1+1+1) (fun _=>sNo) (w.heap.size+1) (fun _=>sNo) sNo (w.heap.size+1+1) l W0)):=by rw[←hl2];exact hLy _ _ _ _ _ _ _ _ W0 hmd k0 (by simp only[wtP];omega)
 have HW0:Hid (W0.heap[w.heap.size+1+1]?=some (.map #[] 0)∧yA W0 w.heap.size 142 1 w.heap.size [.slice (some ⟨g,0,none⟩) n cp0]∧Below w.heap.size w W0):=⟨hmap,hnode,k0⟩;have hspl:Spt 1 l:=by rw[←hl2];exact(yOb (.alt os) 1).spt
 have HSp:Hid (Spt 1 l∧l=lyA os (Lay.no 1)∧em=nulA os):=⟨hspl,hl,hem⟩;have hbd:=yOh (some ⟨w.heap.size+1,0,none⟩) 1 1 (some (w.heap.size+1+1));have b0:=hnode.cell (j:=0) rfl;have hsz:=yNl (.slice (some ⟨w.heap.size+1,0,none⟩) 1 1) (.map (some (w.heap.size+1+1)));clear hAl h3 h4 h5 hLy HC hT0 hl hl2 hem hmd hmap hnode k0 hspl hlo hT hn;have hmk:=yZq;have hmm:=yZr;go_enter Tryz.func105,Tryz.ntmps105;go_upto_region 2 with(refine yIm _ rfl _ _ rfl rfl rfl ?_);rw[←hW0];clear hW0 hbd hsz hmk hmm;go_wp2_with fail;refine HL.mono ?_;rintro e w1 ⟨G1,cp1,rfl,H1⟩;obtain⟨W2,hW2⟩:=qE (w1.alloc (.cells (spL l.fst l.lst).toArray 183):World);have k2:Below w1.heap.size w1 W2:=by rw[hW2];exact qB
 have HW2:Hid (MtrI W2 w.heap.size (w.heap.size+1+1+1) (yBe (fun _=>sNo) l) G1 cp1 l.nx (yA0 (fun _=>sNo) l) sNo (w.heap.size+1+1)∧yA W2 w.heap.size 142 1 w.heap.size [.slice (some ⟨g,0,none⟩) n cp0]∧yA W2 w.heap.size 183 8 w1.heap.size (spL l.fst l.lst)∧W2.heap[w.heap.size+1+1]?=some (.map #[] 0)∧Below w.heap.size w W2):=by have q1:=HW0.2.2.size;have q2:=H1.2.1.size;have hnd:=HW0.2.1.chg H1.2.1 (by omega);have hmp:=yGm HW0.1 H1.2.1 (by omega);have hb1:Below w.heap.size w w1:=Chg.below HW0.2.2 H1.2.1 q1 (fun k q=>by omega);exact⟨H1.1.below k2,hnd.below k2,by rw[hW2];exact yAa w1 _ (by omega) rfl,yGm hmp (Chg.of_below k2 (S:=fun _=>False)) (fun q=>q),hb1.trans (k2.mono (by omega))⟩
 have hnx:1≤l.nx:=HSp.1.le;have hcap:=HW2.1.caps;have z0:(0:Int)<(l.nx:Int):=by omega
 have z00:0<l.nx:=by omega
 have c0:=HW2.1.fol;obtain⟨g0,g1,g2,g3,g4,g5,g6,g7⟩:=HW2.2.2.1.c8;obtain⟨e0,e1,e2,e3,y0,y1,y2,y3⟩:=HW2.1.edge4 (p:=0) (by omega);simp only[Nat.zero_mul,Nat.zero_add]at e0 e1 e2 e3 y0 y1 y2 y3;clear b0 HL H1;go_upto_region 3 with fail;have hW2':=hW2;simp only[spL]at hW2';rw[←hW2'];clear hW2 hW2' k2;have HS0:Hid (W2.drew.cell? ⟨w.heap.size+1+1+1,1024,none⟩=some (.slice (some ⟨G1,0,none⟩) l.nx cp1)∧W2.drew.cell? ⟨w1.heap.size,0,none⟩=some (.int .u64 (wdN l.fst 0:Int))∧W2.drew.cell? ⟨w1.heap.size,1,none⟩=some (.int .u64 (wdN l.fst 1:Int))∧W2.drew.cell? ⟨w1.heap.size,2,none⟩=some (.int .u64 (wdN l.fst 2:Int))∧W2.drew.cell? ⟨w1.heap.size,3,none⟩=some (.int .u64 (wdN l.fst 3:Int))):=⟨c0,g0,g1,g2,g3⟩;refine yAb 7 (fun wz=>wz.cell? ⟨w.heap.size+1+1+1,1024,none⟩=some (.slice (some ⟨G1,0,none⟩) l.nx cp1)∧wz.cell? ⟨w1.heap.size,0,none⟩=some (.int .u64 (wdN l.fst 0:Int))∧wz.cell? ⟨w1.heap.size,1,none⟩=some (.int .u64 (wdN l.fst 1:Int))∧wz.cell? ⟨w1.heap.size,2,none⟩=some (.int .u64 (wdN l.fst 2:Int))∧wz.cell? ⟨w1.heap.size,3,none⟩=some (.int .u64 (wdN l.fst 3:Int))) (by kernel_rfl) ?_;refine j4a 0 HS0.out ?_;iterate 6 refine j4b HS0.out ?_
 refine qO 7 rfl fun K hK=>?_;go_simp;refine hK.out _ _ (.inl rfl) ?_;clear hK;refine jS ?_;refine qD ?_;obtain⟨W3,hW3⟩:=qE ((set4 W2 G1 0 l.fst).drew:World);have hG1:w.heap.size≤G1:=HW2.1.ltG.1;have HW3:Hid (MtrI W3 w.heap.size (w.heap.size+1+1+1) (yBe (fun _=>sNo) l) G1 cp1 l.nx (updE (yA0 (fun _=>sNo) l) 0 l.fst) sNo (w.heap.size+1+1)∧yA W3 w.heap.size 142 1 w.heap.size [.slice (some ⟨g,0,none⟩) n cp0]∧yA W3 w.heap.size 183 8 w1.heap.size (spL l.fst l.lst)∧W3.heap[w.heap.size+1+1]?=some (.map #[] 0)∧Below w.heap.size w W3):=by
  have kd:Below (set4 W2 G1 0 l.fst).heap.size (set4 W2 G1 0 l.fst) W3:=by rw[hW3];exact(Below.refl _ _).drew
  have hc:Chg (fun k=>k=G1) W2 W3:=(yBj (S:=fun k=>k=G1) W2 G1 0 l.fst rfl).trans (Chg.of_below kd);have hm:=HW2.1.setE (p:=0) (by omega) l.fst;simp only[Nat.mul_zero]at hm;have hm:=hm.below kd;have hb:∀{t sz g:Nat} {vs:List Value},t≠178→yA W2 w.heap.size t sz g vs→yA W3 w.heap.size t sz g vs:=fun hne h=>h.chg hc (fun q=>yAo HW2.1.row h (fun e=>hne e.symm) G1 rfl (by rw[←q];rfl));have hmp:=HW2.2.2.2.1;exact⟨hm,hb (by decide) HW2.2.1,hb (by decide) HW2.2.2.1,yGm hmp hc (yY4 HW2.1.row hmp),Chg.below HW2.2.2.2.2 hc HW2.2.2.2.2.size (fun k q=>by omega)⟩
 have hW3':=hW3;simp only[set4,Nat.zero_add]at hW3';rw[←hW3'];clear hW3 hW3' HS0 c0 e0 e1 e2 e3 y0 y1 y2 y3 g0 g1 g2 g3 g4 g5 g6 g7;obtain⟨e0,e1,e2,e3,y0,y1,y2,y3⟩:=HW3.1.ends4;have g4:=HW3.2.2.1.cell (j:=4) rfl;have g5:=HW3.2.2.1.cell (j:=5) rfl;have g6:=HW3.2.2.1.cell (j:=6) rfl;have g7:=HW3.2.2.1.cell (j:=7) rfl;go_upto_region 5 with fail;obtain⟨W4,hW4⟩:=qE (set4 W3 (w.heap.size+1+1+1) 1025 l.lst:World);have HW4:Hid (MtrI W4 w.heap.size (w.heap.size+1+1+1) (mkT l) G1 cp1 l.nx (mkE l) l.lst (w.heap.size+1+1)∧yA W4 w.heap.size 142 1 w.heap.size [.slice (some ⟨g,0,none⟩) n cp0]∧W4.heap[w.heap.size+1+1]?=some (.map #[] 0)∧Below w.heap.size w W4):=by
  have hc:Chg (fun k=>k=(w.heap.size+1+1+1)) W3 W4:=by rw[hW4];exact yBj _ _ _ _ rfl
  have hm:=HW3.1.setEn l.lst;rw[←hW4]at hm;refine⟨hm.iff (fun b p _ _=>by simp[mkT,yBe,sNo]) (fun q p _ _=>?_) (fun p hp q=>?_),HW3.2.1.chg hc (by omega),yGm HW3.2.2.2.1 hc (by omega),Chg.below HW3.2.2.2.2 hc HW3.2.2.2.2.size (fun k q=>by omega)⟩
  ·unfold mkE updE;by_cases h0:q=0
   ·subst h0;have he:l.ed 0 p=false:=by
     cases hx:l.ed 0 p with
     |false=>rfl
     |true=>have:=(HSp.1.ed 0 p hx).1.1;omega
    simp[he]
   ·rw[if_neg h0];simp[yA0,sNo,h0]
  ·have h0:¬p=0:=by omega
   have:=hm.new p hp q;unfold updE at this;rw[if_neg h0]at this;simp[yA0,sNo]at this;simp[mkE,this,h0]
 have hW4':=hW4;simp only[set4,Nat.reduceAdd]at hW4';rw[←hW4'];clear hW4 hW4' e0 e1 e2 e3 y0 y1 y2 y3 g4 g5 g6 g7;have b0:=HW4.2.1.cell (j:=0) rfl;go_wp2_with fail;refine(HNul.out _ HW4.2.2.2).mono ?_;rintro e w5 ⟨rfl,hb5⟩;have HW5:Hid (MtrI w5 w.heap.size (w.heap.size+1+1+1) (mkT l) G1 cp1 l.nx (mkE l) l.lst (w.heap.size+1+1)∧w5.heap[w.heap.size+1+1]?=some (.map #[] 0)∧Below w.heap.size w w5):=⟨HW4.1.below hb5,yGm HW4.2.2.1 (Chg.of_below hb5 (S:=fun _=>False)) (fun q=>q),HW4.2.2.2.trans (hb5.mono HW4.2.2.2.size)⟩;clear hb5 b0;cases em with
 |false=>
  go_wp2_with fail;go_ret;refine⟨_,G1,cp1,w.heap.size+1+1,rfl,?_⟩;rw[←HSp.2.1,←HSp.2.2];exact⟨HW5.1.iffEn (fun p _=>by simp[mkN]),HW5.2.1,by omega,HW5.2.2⟩
 |true=>
  obtain⟨e0,e1,e2,e3,y0,y1,y2,y3⟩:=HW5.1.ends4;have HWi:Hid (∀wx:World,Calls Tryz.prog 137 #[psV l.lst,.int .i64 0] wx fun e w'=>e=.returned (psV (sOr l.lst (sOne 0)))∧Below wx.heap.size wx w'):=fun wx=>yFa l.lst 0 (by omega) wx;go_wp2_with fail;refine(HWi.out _).mono ?_;rintro e w6 ⟨rfl,hb6⟩;have h6:=HW5.1.below hb6;clear e0 e1 e2 e3 y0 y1 y2 y3;obtain⟨e0,e1,e2,e3,y0,y1,y2,y3⟩:=h6.ends4;have HF:Hid (MkR os w (.returned (.pointer (some ⟨w.heap.size+1+1+1,0,none⟩))) (set4 w6 (w.heap.size+1+1+1) 1025 (sOr l.lst (sOne 0)))):=by have hc:Chg (fun k=>k=(w.heap.size+1+1+1)) w6 (set4 w6 (w.heap.size+1+1+1) 1025 (sOr l.lst (sOne 0))):=yBj _ _ _ _ rfl;have hb:Below w.heap.size w w6:=HW5.2.2.trans (hb6.mono HW5.2.2.size);have hmp:=yGm HW5.2.1 (Chg.of_below hb6 (S:=fun _=>False)) (fun q=>q);refine⟨_,G1,cp1,w.heap.size+1+1,rfl,?_⟩;rw[←HSp.2.1,←HSp.2.2];exact⟨(h6.setEn _).iffEn (fun p _=>by simp[mkN,sOr,sOne]),yGm hmp hc (by omega),by omega,Chg.below hb hc hb.size (fun k q=>by omega)⟩
  simp only[set4,Nat.reduceAdd]at HF;clear h6 hb6;go_wp2_with fail;go_ret;exact HF.out
def stp (E T:Nat→PS) (S:PS) (c:UInt8):PS:=sAnd (ahd E S) (T c.toNat)
def runS (E T:Nat→PS):PS→List UInt8→PS
 |S,[]=>S
 |S,c::xs=>runS E T (stp E T S c) xs
theorem yNc (E T:Nat→PS):∀(S:PS) (xs:List UInt8) (c:UInt8),runS E T S (xs++ [c])=stp E T (runS E T S xs) c
 |S,[],c=>rfl
 |S,x::xs,c=>yNc E T (stp E T S x) xs c
theorem yVr (E:Nat→PS) (S:PS) (q:Nat):ahd E S q=true↔∃p,p<256∧S p=true∧E p q=true:=by
 unfold ahd ahdT;rw[List.any_eq_true];constructor
 ·rintro⟨p,hp,hx⟩;rw[Bool.and_eq_true]at hx;exact⟨p,List.mem_range.1 hp,hx.1,hx.2⟩
 ·rintro⟨p,hp,h1,h2⟩;exact⟨p,List.mem_range.2 hp,by rw[h1,h2];rfl⟩
theorem yI9 (l:Lay) (S:PS) (c:UInt8) (q:Nat):stp (mkE l) (mkT l) S c q=true↔(∃p,p<256∧S p=true∧mkE l p q=true)∧l.tk q c=true:=by
 unfold stp sAnd;rw[Bool.and_eq_true,yVr];have:mkT l c.toNat q=l.tk q c:=by unfold mkT;congr 1;simp
 rw[this]
theorem yL7 (l:Lay) {a:Nat} (hs:Spt a l) (ha:1≤a) (hn:l.nx≤256):∀(xs:List UInt8) (S:PS),(∀p,S p=true→1≤p∧p<256)→∀q,runS (mkE l) (mkT l) S xs q=true↔∃p,S p=true∧Pth l p xs q
 | [],S,hS,q=>by
   constructor
   ·exact fun h=>⟨q,h,.nil q⟩
   ·rintro⟨p,hp,h⟩;cases h;exact hp
 |c::xs,S,hS,q=>by
  have hS':∀p,stp (mkE l) (mkT l) S c p=true→1≤p∧p<256:=fun p hp=>by
   have:=hs.tk p c ((yI9 l S c p).1 hp).2
   omega
  show runS (mkE l) (mkT l) (stp (mkE l) (mkT l) S c) xs q=true↔_
  rw[yL7 l hs ha hn xs _ hS' q]
  constructor
  ·rintro⟨p',hp',hP⟩
   obtain⟨⟨p,_,hp,he⟩,ht⟩:=(yI9 l S c p').1 hp'
   have h1:=(hS p hp).1
   have he':l.ed p p'=true:=by
    unfold mkE at he;have:(p==0)=false:=by rw[beq_eq_false_iff_ne];omega
    simpa [this]using he
   exact⟨p,hp,.step he' ht hP⟩
  ·rintro⟨p,hp,hP⟩;cases hP with
   |step he ht hP=>
    refine⟨_,(yI9 l S c _).2 ⟨⟨p,(hS p hp).2,hp,?_⟩,ht⟩,hP⟩;unfold mkE;rw[he];rfl
theorem yY0 (l:Lay) (hs:Spt 1 l) (hn:l.nx≤256) (em:Bool) (xs:List UInt8):acc (mkN l em) (runS (mkE l) (mkT l) (sOne 0) xs)=true↔(xs= []∧em=true)∨Wd l xs:=by
 have hacc:∀S:PS,acc (mkN l em) S=true↔∃p,p<256∧S p=true∧mkN l em p=true:=fun S=>by
  unfold acc;rw[List.any_eq_true];constructor
  ·rintro⟨p,hp,hx⟩;rw[Bool.and_eq_true]at hx;exact⟨p,List.mem_range.1 hp,hx.1,hx.2⟩
  ·rintro⟨p,hp,h1,h2⟩;exact⟨p,List.mem_range.2 hp,by rw[h1,h2];rfl⟩
 rw[hacc];cases xs with
 |nil=>
  constructor
  ·rintro⟨p,_,hp,hN⟩;have h0:p=0:=by simpa [runS,sOne]using hp
   subst h0;unfold mkN at hN;have hl:l.lst 0=false:=by
    cases hx:l.lst 0 with
    |false=>rfl
    |true=>have:=(hs.lst 0 hx).1;omega
   rw[hl]at hN;exact .inl ⟨rfl,by simpa using hN⟩
  ·rintro(⟨_,h⟩|h)
   ·exact⟨0,by omega,rfl,by simp[mkN,h]⟩
   ·exact(wd_ne h).elim
 |cons c xs=>
  have hS':∀p,stp (mkE l) (mkT l) (sOne 0) c p=true→1≤p∧p<256:=fun p hp=>by have:=hs.tk p c ((yI9 l _ c p).1 hp).2;omega
  have hst:∀p,stp (mkE l) (mkT l) (sOne 0) c p=true↔l.fst p=true∧l.tk p c=true:=fun p=>by
   rw[yI9];constructor
   ·rintro⟨⟨p0,_,h0,he⟩,ht⟩;have:p0=0:=by simpa [sOne]using h0
    subst this;refine⟨?_,ht⟩;have hl:l.ed 0 p=false:=by
     cases hx:l.ed 0 p with
     |false=>rfl
     |true=>have:=(hs.ed 0 p hx).1.1;omega
    simpa [mkE,hl]using he
   ·rintro⟨h1,h2⟩;exact⟨⟨0,by omega,rfl,by simp[mkE,h1]⟩,h2⟩
  constructor
  ·rintro⟨q,_,hq,hN⟩;obtain⟨p,hp,hP⟩:=(yL7 l hs (Nat.le_refl _) hn xs _ hS' q).1 hq;obtain⟨h1,h2⟩:=(hst p).1 hp;have hq1:=(Pth.in hs hP (hs.fst p h1)).1;have hl:l.lst q=true:=by
    unfold mkN at hN;have:(q==0)=false:=by rw[beq_eq_false_iff_ne];omega
    simpa [this]using hN
   exact .inr ⟨c,xs,p,q,rfl,h1,h2,hP,hl⟩
  ·rintro(⟨h,_⟩|⟨c',xs',p,q,he,h1,h2,h3,h4⟩)
   ·cases h
   ·cases he
    refine⟨q,by have:=(hs.lst q h4).2;omega,?_,by simp[mkN,h4]⟩;exact(yL7 l hs (Nat.le_refl _) hn xs _ hS' q).2 ⟨p,(hst p).2 ⟨h1,h2⟩,h3⟩
theorem yTw (os:List (List Pat)) (hn:(lyA os (Lay.no 1)).nx≤256) (xs:List UInt8):acc (mkN (lyA os (Lay.no 1)) (nulA os)) (runS (mkE (lyA os (Lay.no 1))) (mkT (lyA os (Lay.no 1))) (sOne 0) xs)=true↔LgA os xs:=by
 have hc:=yOb (.alt os) 1;have e1:lyP (.alt os) 1=lyA os (Lay.no 1):=by simp only[lyP]
 have e2:nulB (.alt os)=nulA os:=by simp only[nulB]
 rw[e1,e2]at hc;rw[yY0 _ hc.spt hn,←hc.wd];simp only[Lg]
theorem yNd (E T:Nat→PS):∀(xs:List UInt8) (S:PS),(∀p,p<256→S p=false)→∀p,p<256→runS E T S xs p=false
 | [],S,h,p,hp=>h p hp
 |c::xs,S,h,p,hp=>by
  refine yNd E T xs (stp E T S c) (fun q hq=>?_) p hp
  cases hx:stp E T S c q with
  |false=>rfl
  |true=>
   unfold stp sAnd at hx
   rw[Bool.and_eq_true,yVr]at hx
   obtain⟨⟨r,hr,h1,_⟩,_⟩:=hx
   rw[h r hr]at h1
   cases h1
theorem yQm (E T:Nat→PS):∀(S:PS) (xs ys:List UInt8),runS E T S (xs++ys)=runS E T (runS E T S xs) ys
 |S,[],ys=>rfl
 |S,x::xs,ys=>yQm E T (stp E T S x) xs ys
variable {p q:List UInt8} {i j k:Nat}
theorem yKh {c:UInt8} (h:chM p i=(c,k,true)) (ha:∀t,i+t<k→q[j+t]?=p[i+t]?):chM q j=(c,j+(k-i),true):=by
 have hg:=yE7 h;have h0:=ha 0 (by omega);simp only[Nat.add_zero]at h0;unfold chM at h⊢;rw[h0];split at h
 ·cases h
 ·next d hd=>
  split at h
  ·cases h
  ·next hn=>
   rw[if_neg hn];split at h
   ·next h92=>
    rw[if_pos h92];split at h
    ·cases h
    ·next e he=>
     simp only[Prod.mk.injEq,and_true]at h;obtain⟨rfl,rfl⟩:=h;have h1:=ha 1 (by omega);rw[h1,he];simp only[Prod.mk.injEq,and_true,true_and];omega
   ·next h92=>
    rw[if_neg h92];simp only[Prod.mk.injEq,and_true]at h;obtain⟨rfl,rfl⟩:=h;simp only[Prod.mk.injEq,and_true,true_and];omega
theorem yPu {a b:UInt8} (h:yB2 p i=.inl (a,b,k)) (ha:∀t,i+t≤k→q[j+t]?=p[i+t]?):yB2 q j=.inl (a,b,j+(k-i)):=by
 unfold yB2 at h⊢;split at h
 ·cases h
 ·next lo k1 hk1=>
  have hg:=yE7 hk1;split at h
  ·next h45=>
   split at h
   ·cases h
   ·next hi m hm=>
    have hg2:=yE7 hm;split at h
    ·cases h
    ·next hle=>
     simp only[Sum.inl.injEq,Prod.mk.injEq]at h;obtain⟨rfl,rfl,rfl⟩:=h;have e1:=yKh (q:=q) (j:=j) hk1 (fun t ht=>ha t (by omega));have e2:q[j+(k1-i)]?=some 45:=by rw[ha (k1-i) (by omega),show i+(k1-i)=k1 by omega];exact h45
     have e3:=yKh (q:=q) (j:=j+(k1-i)+1) hm (fun t ht=>by have:=ha (k1-i+1+t) (by omega);rw[show j+(k1-i)+1+t=j+(k1-i+1+t)by omega,this];congr 1;omega);rw[e1];simp only[];rw[if_pos e2,e3];simp only[];rw[if_neg hle];simp only[Sum.inl.injEq,Prod.mk.injEq,true_and];omega
  ·next h45=>
   simp only[Sum.inl.injEq,Prod.mk.injEq]at h;obtain⟨rfl,rfl,rfl⟩:=h;have e1:=yKh (q:=q) (j:=j) hk1 (fun t ht=>ha t (by omega));have e2:¬q[j+(k1-i)]?=some 45:=by rw[ha (k1-i) (by omega),show i+(k1-i)=k1 by omega];exact h45
   rw[e1];simp only[];rw[if_neg e2]
theorem yH4:∀(n:Nat) {p q:List UInt8} {i j k:Nat} {b:Bool} {f g:UInt8→Bool},p.length-i≤n→clsM p i b f=.inl (g,k)→(∀t,i+t<k→q[j+t]?=p[i+t]?)→clsM q j b f=.inl (g,j+(k-i))
 |n,p,q,i,j,k,b,f,g,hn,h,ha=>by
  have hg:=yH3 _ (Nat.le_refl _) h
  have h0:=ha 0 (by omega)
  simp only[Nat.add_zero]at h0
  rw[clsM]at h
  split at h
  ·next hi=>
   have hj:j<q.length:=by rw[List.getElem?_eq_getElem hi]at h0;exact yAs h0
   rw[clsM,dif_pos hj,h0];split at h
   ·next he=>
    rw[if_pos he];simp only[Sum.inl.injEq,Prod.mk.injEq]at h;obtain⟨rfl,rfl⟩:=h;simp only[Sum.inl.injEq,Prod.mk.injEq,true_and];omega
   ·next he=>
    rw[if_neg he];split at h
    ·cases h
    ·next a b' k' hk=>
     have h1:=yFy hk;have h2:=yH3 _ (Nat.le_refl _) h;have e1:=yPu (q:=q) (j:=j) hk (fun t ht=>ha t (by omega));match n,hn with
     |0,hn=>omega
     |n+1,hn=>
      have e2:=yH4 n (q:=q) (j:=j+(k'-i)) (by omega) h (fun t ht=>by have:=ha (k'-i+t) (by omega);rw[show j+(k'-i)+t=j+(k'-i+t)by omega,this];congr 1;omega);split
      ·next e hh=>rw[e1]at hh;cases hh
      ·next a2 b2 k2 hh=>
       rw[e1]at hh;simp only[Sum.inl.injEq,Prod.mk.injEq]at hh;obtain⟨rfl,rfl,rfl⟩:=hh;rw[e2];simp only[Sum.inl.injEq,Prod.mk.injEq,true_and];omega
  ·cases h
theorem yFo {g:UInt8→Bool} (h:yAt p i=.inl (g,k)) (ha:∀t,i+t<k→q[j+t]?=p[i+t]?):yAt q j=.inl (g,j+(k-i)):=by
 have hg:=yBv h;have h0:=ha 0 (by omega);simp only[Nat.add_zero]at h0;unfold yAt at h⊢;rw[h0];split at h
 ·next h94=>
  rw[if_pos h94];split at h
  ·next f k' hc=>
   have hg2:=yH3 _ (Nat.le_refl _) hc;simp only[Sum.inl.injEq,Prod.mk.injEq]at h;obtain⟨rfl,rfl⟩:=h;have e:=yH4 _ (Nat.le_refl _) (q:=q) (j:=j+1) hc (fun t ht=>by have:=ha (1+t) (by omega);rw[show j+1+t=j+(1+t)by omega,this];congr 1;omega);rw[e];simp only[Sum.inl.injEq,Prod.mk.injEq,true_and];omega
  ·cases h
 ·next h94=>
  rw[if_neg h94];exact yH4 _ (Nat.le_refl _) h ha
section
inductive TokG (A:List UInt8→Pat→Prop):List UInt8→Prop
 |nil:TokG A []
 |sign {c:UInt8} {zs:List UInt8} (hc:c=124∨isOp c) (h:TokG A zs):TokG A (c::zs)
 |atom {xs zs:List UInt8} {t:Pat} (ha:A xs t) (h:TokG A zs):TokG A (xs++zs)
variable {A:List UInt8→Pat→Prop} {xs:List UInt8}
theorem TokG.cat {ys:List UInt8} (h:TokG A xs) (k:TokG A ys):TokG A (xs++ys):=by
 induction h with
 |nil=>exact k
 |sign hc _ ih=>exact .sign hc ih
 |atom ha _ ih=>rw[List.append_assoc];exact .atom ha ih
theorem TokG.ops:∀{l:List UInt8},(∀c∈l,isOp c)→TokG A l
 | [],_=>.nil
 |c::l,h=>.sign (.inr (h c (by simp))) (TokG.ops (fun d hd=>h d (by simp[hd])))
variable {t:Pat}
theorem RepG.tok:RepG A xs t→TokG A xs
 |⟨ys,ops,a,h1,h2,h3,_⟩=>by rw[h1];exact .atom h2 (TokG.ops h3)
theorem SeqG.tok:∀{ts:List Pat} {xs:List UInt8},SeqG A ts xs→TokG A xs
 | [],_,h=>by rw[show _= []from h];exact .nil
 |_::_,_,⟨ys,zs,h1,h2,h3⟩=>by rw[h1];exact h2.tok.cat (SeqG.tok h3)
theorem AltG.tok:∀{os:List (List Pat)} {xs:List UInt8},AltG A os xs→TokG A xs
 | [],_,h=>h.elim
 | [_],_,h=>SeqG.tok h
 |_::_::_,_,⟨ys,zs,h1,h2,h3⟩=>by rw[h1];exact h2.tok.cat (.sign (.inl rfl) (AltG.tok h3))
theorem yAz.first:∀{n:Nat} {xs:List UInt8} {t:Pat},yAz n xs t→∃c ys,xs=c::ys∧¬c=41∧¬c=124∧¬isOp c
 |0,_,_,h=>h.elim
 |n+1,xs,t,h=>by
  rcases h with⟨c,rfl,hs,_⟩|⟨rfl,_⟩|⟨c,rfl,_⟩|⟨ys,os,rfl,_,_⟩|⟨p,i,k,f,h1,h2,rfl,_⟩
  ·exact⟨c,[],rfl,fun q=>hs (.inl (.inr (.inr (.inl q)))),fun q=>hs (.inl (.inr (.inl q))),fun q=>hs (.inl (.inl q))⟩
  ·exact⟨46,[],rfl,by decide,by decide,by decide⟩
  ·exact⟨92,[c],rfl,by decide,by decide,by decide⟩
  ·exact⟨40,ys++ [41],rfl,by decide,by decide,by decide⟩
  ·have hg:=yBv h2
   refine⟨91,cut p (i+1) k,?_,by decide,by decide,by decide⟩
   rw[yCh (show i≤i+1 by omega) (show i+1≤k by omega),yCt h1]
   rfl
variable {m:Nat}
theorem yLo {f:UInt8→Bool} (h1:q[j]?=some 91) (h2:yAt q (j+1)=.inl (f,m)) (hc:cut p i k=cut q j m) (hk:k≤p.length) (hik:i<k):p[i]?=some 91∧yAt p (i+1)=.inl (f,k):=by
 have hg:=yBv h2;have hl:k-i=m-j:=by have h3:=congrArg List.length hc;rw[yBk hk,yBk hg.2]at h3;exact h3
 have hat:∀t,t<k-i→p[i+t]?=q[j+t]?:=fun t ht=>by have h3:=congrArg (fun l=>l[t]?) hc;simp only[cut,List.getElem?_take,List.getElem?_drop]at h3;rw[if_pos ht,if_pos (by omega)]at h3;exact h3
 refine⟨by have:=hat 0 (by omega);simpa [h1]using this,?_⟩;have e:=yFo (q:=p) (j:=i+1) h2 (fun t ht=>by have:=hat (1+t) (by omega);rw[show i+1+t=i+(1+t)by omega,this];congr 1;omega);rw[e];simp only[Sum.inl.injEq,Prod.mk.injEq,true_and];omega
end
section
inductive TokN (A:List UInt8→Pat→Prop):Nat→List UInt8→Prop
 |nil:TokN A 0 []
 |bar {k:Nat} {zs:List UInt8} (h:TokN A k zs):TokN A (k+1) (124::zs)
 |op {k:Nat} {c:UInt8} {zs:List UInt8} (hc:isOp c) (h:TokN A k zs):TokN A k (c::zs)
 |atom {k:Nat} {xs zs:List UInt8} {t:Pat} (ha:A xs t) (h:TokN A k zs):TokN A k (xs++zs)
variable {A:List UInt8→Pat→Prop} {m:Nat} {xs:List UInt8}
theorem TokN.cat {ys:List UInt8} (h:TokN A k xs) (q:TokN A m ys):TokN A (k+m) (xs++ys):=by
 induction h with
 |nil=>simpa using q
 |bar _ ih=>rw[show∀k,k+1+m=(k+m)+1 from fun k=>by omega];exact .bar ih
 |op hc _ ih=>exact .op hc ih
 |atom ha _ ih=>rw[List.append_assoc];exact .atom ha ih
theorem TokN.ops:∀{l:List UInt8},(∀c∈l,isOp c)→TokN A 0 l
 | [],_=>.nil
 |c::l,h=>.op (h c (by simp)) (TokN.ops (fun d hd=>h d (by simp[hd])))
theorem RepG.tokn {t:Pat}:RepG A xs t→TokN A 0 xs
 |⟨ys,ops,a,h1,h2,h3,_⟩=>by rw[h1];exact .atom h2 (TokN.ops h3)
theorem SeqG.tokn:∀{ts:List Pat} {xs:List UInt8},SeqG A ts xs→TokN A 0 xs
 | [],_,h=>by rw[show _= []from h];exact .nil
 |_::_,_,⟨ys,zs,h1,h2,h3⟩=>by rw[h1];simpa using h2.tokn.cat (SeqG.tokn h3)
theorem AltG.tokn:∀{os:List (List Pat)} {xs:List UInt8},AltG A os xs→∃k,os.length=k+1∧TokN A k xs
 | [],_,h=>h.elim
 | [_],_,h=>⟨0,rfl,SeqG.tokn h⟩
 |_::o::os,_,⟨ys,zs,h1,h2,h3⟩=>by
  obtain⟨k,hk,hT⟩:=AltG.tokn h3
  refine⟨k+1,by simp at hk⊢;omega,?_⟩
  rw[h1]
  have:=h2.tokn.cat (TokN.bar hT)
  simpa using this
theorem yTh (h:TokN A k xs):(xs= []∧k=0)∨(∃m zs,xs=124::zs∧k=m+1∧TokN A m zs)∨(∃c zs,xs=c::zs∧isOp c∧TokN A k zs)∨(∃ys zs t,xs=ys++zs∧A ys t∧TokN A k zs):=by
 cases h with
 |nil=>exact .inl ⟨rfl,rfl⟩
 |bar h=>exact .inr (.inl ⟨_,_,rfl,rfl,h⟩)
 |op hc h=>exact .inr (.inr (.inl ⟨_,_,rfl,hc,h⟩))
 |atom ha h=>exact .inr (.inr (.inr ⟨_,_,_,rfl,ha,h⟩))
variable {zs:List UInt8}
theorem yPx {c:UInt8} (h:cut p j m=c::zs) (hm:m≤p.length):p[j]?=some c∧cut p (j+1) m=zs∧j<m:=by exact zzQ66
theorem yRd (h:cut p j m=xs++zs) (hm:m≤p.length) (hjm:j≤m):cut p j (j+xs.length)=xs∧cut p (j+xs.length) m=zs∧j+xs.length≤m:=by have hl:=congrArg List.length h;rw[yBk hm,List.length_append]at hl;exact zzQ76
end
inductive Tag (n:Nat):UInt8→List UInt8→Pat→Prop
 |plain {c:UInt8} (h:¬yEq c):Tag n c [] (.byte c)
 |dot:Tag n 46 [] (.cls (fun _=>true))
 |esc {d:UInt8}:Tag n 92 [d] (.byte d)
 |group {ys:List UInt8} {os:List (List Pat)} (h:AltG (yAz n) os ys):Tag n 40 (ys++ [41]) (.alt os)
 |cls {zs:List UInt8} {f:UInt8→Bool} (h:∀r,yAt (91::zs++r) 1=.inl (f,zs.length+1)):Tag n 91 zs (.cls f)
variable {xs:List UInt8}
theorem yAz.tag {t:Pat} (h:yAz (n+1) xs t):∃c zs,xs=c::zs∧Tag n c zs t:=by
 rcases h with⟨c,rfl,hs,rfl⟩|⟨rfl,rfl⟩|⟨c,rfl,rfl⟩|⟨ys,os,rfl,ho,rfl⟩|⟨p,i,k,f,h1,h2,rfl,rfl⟩
 ·exact⟨c,[],rfl,.plain hs⟩
 ·exact⟨46,[],rfl,.dot⟩
 ·exact⟨92,[c],rfl,.esc⟩
 ·exact⟨40,ys++ [41],rfl,.group ho⟩
 ·have hg:=yBv h2;have e:cut p i k=91::cut p (i+1) k:=by rw[yCh (show i≤i+1 by omega) (show i+1≤k by omega),yCt h1];rfl
  refine⟨91,_,e,.cls fun r=>?_⟩;have hl:=congrArg List.length e;rw[List.length_cons]at hl;have h3:=yLo (p:=91::cut p (i+1) k++r) (i:=0) (k:=(cut p (i+1) k).length+1) h1 h2 ?_ (by simp) (by omega)
  ·exact h3.2
  ·rw[←hl,←e];show(List.drop 0 (cut p i k++r)).take ((cut p i k).length-0)=_;rw[List.drop_zero,Nat.sub_zero,List.take_left]
variable {A:List UInt8→Pat→Prop}
theorem yYx {B:List UInt8→Pat→Prop} (hA:∀ys t,A ys t→∃c zs,ys=c::zs∧¬c=41∧¬c=124∧¬isOp c) (hB:∀ys t,B ys t→∃c zs,ys=c::zs∧¬c=41∧¬c=124∧¬isOp c)
  (U:∀xs ys t t' r r',A xs t→B ys t'→xs++r=ys++r'→xs=ys) {xs:List UInt8} (h:TokG A xs):∀{ys r r':List UInt8},TokG B ys→xs++41::r=ys++41::r'→xs=ys:=by
 induction h with
 |nil=>
  intro ys r r' k e;cases k with
  |nil=>rfl
  |sign hc _=>
   simp at e;exfalso;rw[←e.1]at hc;rcases hc with q|q|q|q<;>exact absurd q (by decide)
  |atom ha _=>
   obtain⟨c,zs,rfl,n41,_⟩:=hB _ _ ha;simp at e;exact absurd e.1.symm n41
 | @sign c zs hc h ih=>
   intro ys r r' k e;cases k with
   |nil=>
    simp at e;exfalso;rw[e.1]at hc;rcases hc with q|q|q|q<;>exact absurd q (by decide)
   |sign hc' k'=>
    simp at e;rw[e.1,ih k' e.2]
   |atom ha _=>
    obtain⟨c,zs,rfl,_,n124,nop⟩:=hB _ _ ha;simp at e;rw[e.1]at hc;exact absurd hc (fun q=>q.elim n124 nop)
 | @atom us zs t ha h ih=>
   intro ys r r' k e;cases k with
   |nil=>
    obtain⟨c,zs,rfl,n41,_⟩:=hA _ _ ha;simp at e;exact absurd e.1 n41
   |sign hc' k'=>
    obtain⟨c,zs,rfl,_,n124,nop⟩:=hA _ _ ha;simp at e;rw[←e.1]at hc';exact absurd hc' (fun q=>q.elim n124 nop)
   |atom hb k'=>
    rw[List.append_assoc,List.append_assoc]at e;have q:=U _ _ _ _ _ _ ha hb e;subst q;rw[ih k' (List.append_cancel_left e)]
theorem yRh:∀{n m:Nat} {xs ys:List UInt8} {t t':Pat} {r r':List UInt8},yAz n xs t→yAz m ys t'→xs++r=ys++r'→xs=ys
 |0,_,_,_,_,_,_,_,h,_,_=>h.elim
 |_+1,0,_,_,_,_,_,_,_,h,_=>h.elim
 |n+1,m+1,xs,ys,t,t',r,r',h,k,e=>by
  obtain⟨c,zs,rfl,hT⟩:=h.tag
  obtain⟨c',zs',rfl,hT'⟩:=k.tag
  simp only[List.cons_append,List.cons.injEq]at e
  obtain⟨rfl,e⟩:=e
  congr 1
  cases hT with
  |plain h1=>
   cases hT' with
   |plain _=>rfl
   |dot=>rfl
   |esc=>exact absurd h1 (by decide)
   |group _=>exact absurd h1 (by decide)
   |cls _=>exact absurd h1 (by decide)
  |dot=>
   cases hT' with
   |plain _=>rfl
   |dot=>rfl
  |esc=>
   cases hT' with
   |plain h1=>exact absurd h1 (by decide)
   |esc=>simp at e;rw[e.1]
  |group h1=>
   cases hT' with
   |plain h1=>exact absurd h1 (by decide)
   |group h2=>
    rw[List.append_assoc,List.append_assoc]at e
    rw[yYx (fun ys t q=>q.first) (fun ys t q=>q.first) (fun xs ys t t' r r' a b e=>yRh a b e) h1.tok h2.tok e]
  |cls h1=>
   cases hT' with
   |plain h1=>exact absurd h1 (by decide)
   |cls h2=>
    have a:=h1 r
    have b:=h2 r'
    rw[List.cons_append,e]at a
    rw[List.cons_append,a]at b
    simp at b
    exact(List.append_inj e b.2).1
abbrev ub (x:UInt8):Value:=.int .u8 (x.toNat:Int)
theorem yZe (p:ByteArray) (hp:p.size≤maxLen):(yAr (sb p)).1=0→∃os,yEp (sb p) 0 0 p.size os:=by
 intro h;obtain⟨e,w',fr,⟨u,_,_,(⟨_,os,h1,_⟩|⟨h1,_⟩)⟩,_⟩:=yBg p default hp []
 ·exact⟨os,h1⟩
 ·exact absurd h h1
theorem yNo (M:Nat) (s:ByteArray) (hs:200<s.size) (w:World):Calls Tryz.prog 106 #[.pointer (some ⟨M,0,none⟩),.string s] w fun e w'=>e=.returned (.bool false)∧w'=w:=by
 have zs:(200:Int)<(s.size:Int):=by omega
 go_enter Tryz.func106,Tryz.ntmps106;go_wp2_with fail;go_ret;exact⟨rfl,rfl⟩
variable {m:Nat}
theorem yE {c:UInt8} {zs:List UInt8} (h:cut p j m=c::zs) (hm:m≤p.length):p[j]?=some c∧cut p (j+1) m=zs∧j<m:=by exact zzQ66
theorem yVe {zs:List UInt8} (h:cut p j m=xs++zs) (hm:m≤p.length):cut p j (j+xs.length)=xs∧cut p (j+xs.length) m=zs∧j+xs.length≤max j m:=by
 have hl:=congrArg List.length h;rw[yBk hm,List.length_append]at hl;by_cases hjm:j≤m
 ·exact zzQ76
 ·have hx:xs= []:=List.length_eq_zero_iff.1 (by omega);subst hx;refine⟨by simp[yGl],by simpa using h,by simp;omega⟩
theorem yWb (h:TokG A xs) (hA:∀ys t,A ys t→ys≠ []):xs= []∨(∃c zs,xs=c::zs∧(c=124∨isOp c)∧TokG A zs)∨(∃ys zs t,xs=ys++zs∧A ys t∧TokG A zs):=by
 cases h with
 |nil=>exact .inl rfl
 |sign hc h=>exact .inr (.inl ⟨_,_,rfl,hc,h⟩)
 |atom ha h=>exact .inr (.inr ⟨_,_,_,rfl,ha,h⟩)
def EndC (p:ByteArray) (n:Nat):Prop:=∀(i k:Nat) (t:Pat) (w:World),yAz n (cut (sb p) i k) t→k≤p.size→Calls Tryz.prog 176 #[.string p,.int .i64 (i:Int)] w fun e w'=>e=.returned (.int .i64 (k:Int))∧Below w.heap.size w w'
theorem end_of {p:ByteArray} (hp:p.size≤200) (H:EndC p n):EndC p (n+1):=by
 intro i k t w hA hk;have hkl:k≤(sb p).length:=by rw[yAd];exact hk
 obtain⟨c,ys,hc,_⟩:=hA.first;obtain⟨hpi,_,hik⟩:=yE hc hkl;obtain⟨hi,gi⟩:=yA4 hpi;have zi:(i:Int)<(p.size:Int):=by omega
 have hlen:=yBk (p:=sb p) (i:=i) hkl;have HP:Hid ((sb p)[i]?=some c∧(cut (sb p) i k).length=k-i):=⟨hpi,hlen⟩;clear hc hpi hlen;have one:∀d,¬d=92→¬d=91→¬d=40→c=d→k=i+1→Calls Tryz.prog 176 #[.string p,.int .i64 (i:Int)] w fun e w'=>e=.returned (.int .i64 (k:Int))∧Below w.heap.size w w':=fun d h92 h91 h40 hcd hk1=>by
  subst hcd hk1;have z92:((c.toNat:Int)==92)=false:=beq_eq_false_iff_ne.2 (yCa (c:=92) h92);have z91:((c.toNat:Int)==91)=false:=beq_eq_false_iff_ne.2 (yCa (c:=91) h91);have z40:((c.toNat:Int) != 40)=true:=by have:=yCa (c:=40) h40;simpa using this
  go_enter Tryz.func176,Tryz.ntmps176;go_wp2_with fail;go_ret;exact⟨rfl,Below.refl _ _⟩
 have hA':=hA;rcases hA with⟨d,h1,hs,_⟩|⟨h1,_⟩|⟨d,h1,_⟩|⟨zs,os,h1,hT,_⟩|⟨q,j,m,f,h1,h2,h3,_⟩
 ·have hk1:k=i+1:=by have:=HP.2;rw[h1]at this;simp at this;omega
  have hcd:c=d:=by have:=(yE h1 hkl).1;rw[HP.1]at this;exact Option.some.inj this
  exact one d (fun q=>hs (.inr (.inr (.inr (.inr q))))) (fun q=>hs (.inr (.inr (.inl q)))) (fun q=>hs (.inr (.inl q))) hcd hk1
 ·have hk1:k=i+1:=by have:=HP.2;rw[h1]at this;simp at this;omega
  have hcd:c=46:=by have:=(yE h1 hkl).1;rw[HP.1]at this;exact Option.some.inj this
  exact one 46 (by decide) (by decide) (by decide) hcd hk1
 ·have hk1:k=i+2:=by have:=HP.2;rw[h1]at this;simp at this;omega
  have hcd:c=92:=by have:=(yE h1 hkl).1;rw[HP.1]at this;exact Option.some.inj this
  subst hcd hk1;clear one;go_enter Tryz.func176,Tryz.ntmps176;go_wp2_with fail;go_ret;exact⟨rfl,Below.refl _ _⟩
 ·obtain⟨hp40,hrest,_⟩:=yE (zs:=zs++ [41]) (by simpa using h1) hkl;have hc40:c=40:=by rw[HP.1]at hp40;exact Option.some.inj hp40
  subst hc40;obtain⟨hz1,hz2,hz3⟩:=yVe hrest hkl;obtain⟨e,he⟩:=qE (i+1+zs.length);rw[←he]at hz1 hz2 hz3;obtain⟨h41,hz4,hek⟩:=yE hz2 hkl;have hk1:k=e+1:=by have h3:=yBk (p:=sb p) (i:=e+1) hkl;rw[hz4]at h3;simp at h3;omega
  obtain⟨hel,ge⟩:=yA4 h41;have HT:Hid (TokG (yAz n) (cut (sb p) (i+1) e)):=by show TokG (yAz n) (cut (sb p) (i+1) e);rw[hz1];exact hT.tok
  have hie:i+1≤e:=by omega
  have HK:Hid (k=e+1):=hk1;have HH:Hid (EndC p n):=H;clear one h1 hT hA' hrest hz1 hz2 hz3 hz4 h41 hp40 he hk1 H;go_enter Tryz.func176,Tryz.ntmps176;go_wp2_with fail;go_loopw[7] (fun jv wr=>∃(j:Nat),jv=.int .i64 (j:Int)∧i+1≤j∧j≤e∧TokG (yAz n) (cut (sb p) j e)∧Below w.heap.size w wr) (fun jv _=>e-(intOf jv).toNat);case atStart=>exact⟨i+1,by go_num,Nat.le_refl _,hie,HT.out,Below.refl _ _⟩
  case round=>
   obtain⟨j,rfl,hj1,hj2,hTok,hb⟩:=hrel;have HTk:Hid (TokG (yAz n) (cut (sb p) j e)):=hTok;have hs:=hb.size;clear hTok HT;have hel2:e≤(sb p).length:=by rw[yAd];omega
   have hjp:j<p.size:=by omega
   have zj:(j:Int)<(p.size:Int):=by omega
   by_cases hje:j=e
   ·subst hje;go_wp2_with fail;go_ret;exact⟨by rw[HK.out];rfl,hb⟩
   ·have hst:=yWb HTk.out (fun ys t q=>by obtain⟨c,zs,h,_⟩:=q.first;rw[h];simp);rcases hst with h0|⟨c',zs',h0,hsg,hTk'⟩|⟨ys',zs',t',h0,hA1,hTk'⟩
    ·have h3:=yBk (p:=sb p) (i:=j) hel2;rw[h0]at h3;simp at h3;omega
    ·obtain⟨hpj,hcj,hlt⟩:=yE h0 hel2;obtain⟨_,gj⟩:=yA4 hpj;have HN:Hid (TokG (yAz n) (cut (sb p) (j+1) e)):=by show TokG (yAz n) (cut (sb p) (j+1) e);rw[hcj];exact hTk'
     have n41:((c'.toNat:Int) != 41)=true:=by
      have h5:¬c'=41:=fun q=>by subst q;rcases hsg with q|q|q|q<;>exact absurd q (by decide)
      have:=yCa (c:=41) h5;simpa using this
     clear hpj hcj h0 hTk' HTk;by_cases h124:c'=124
     ·subst h124;clear hsg;exact yXr
     ·have z124:((c'.toNat:Int)==124)=false:=beq_eq_false_iff_ne.2 (yCa (c:=124) h124);have hop:isOp c':=hsg.elim (fun q=>absurd q h124) (fun q=>q);have HOp:Hid (Calls Tryz.prog 119 #[.int .u8 (c'.toNat:Int)] wr fun e w'=>e=.returned (.bool true)∧w'=wr):=by have:=yCq c' wr;rw[decide_eq_true hop]at this;exact this
      clear hsg hop;go_wp2_with fail;refine HOp.mono ?_;rintro e' w5 ⟨rfl,hw5⟩;rw[hw5];clear hw5;exact yXr
    ·obtain⟨hy1,hy2,hy3⟩:=yVe h0 hel2;obtain⟨c',yt,hyc,n41,n124,nop⟩:=hA1.first;have hylen:0<ys'.length:=by rw[hyc];simp
     have hje2:j+ys'.length≤e:=by omega
     obtain⟨hpj,_,_⟩:=yE (c:=c') (zs:=yt) (by rw[hy1];exact hyc) (by rw[yAd];omega);obtain⟨_,gj⟩:=yA4 hpj;have z41:((c'.toNat:Int) != 41)=true:=by have:=yCa (c:=41) n41;simpa using this
     have z124:((c'.toNat:Int)==124)=false:=beq_eq_false_iff_ne.2 (yCa (c:=124) n124);have HOp:Hid (Calls Tryz.prog 119 #[.int .u8 (c'.toNat:Int)] wr fun e w'=>e=.returned (.bool false)∧w'=wr):=by have:=yCq c' wr;rw[decide_eq_false nop]at this;exact this
     have HN:Hid (TokG (yAz n) (cut (sb p) (j+ys'.length) e)):=by show TokG (yAz n) (cut (sb p) (j+ys'.length) e);rw[hy2];exact hTk'
     obtain⟨m,hm⟩:=qE (j+ys'.length);have HCall:Hid (Calls Tryz.prog 176 #[.string p,.int .i64 (j:Int)] wr fun e w'=>e=.returned (.int .i64 (m:Int))∧Below wr.heap.size wr w'):=by rw[hm];exact HH.out j (j+ys'.length) t' wr (by rw[hy1];exact hA1) (by omega)
     rw[←hm]at HN hje2;have hjm:j<m:=by omega
     clear h0 hTk' HTk hA1 hy1 hy2 hy3 hyc hpj n41 n124 nop hm hylen;go_wp2_with fail;refine HOp.mono ?_;rintro e' w5 ⟨rfl,hw5⟩;rw[hw5];clear hw5;go_wp2_with fail;refine HCall.mono ?_;rintro e' w6 ⟨rfl,hb6⟩;have hb7:=hb.trans (hb6.mono hs);clear hb6;go_wp2_with fail;go_roundw;case rel=>exact⟨m,rfl,by omega,hje2,HN.out,hb7⟩
     case measure=>simp[intOf];omega
 ·have hcd:=yLo h1 h2 h3 hkl hik;have hc91:c=91:=by have:=hcd.1;rw[HP.1]at this;exact Option.some.inj this
  subst hc91;have HCl:Hid (yAt (sb p) (i+1)=.inl (f,k)):=hcd.2;clear one h1 h2 h3 hcd hA';go_enter Tryz.func176,Tryz.ntmps176;go_wp2_with fail;refine(yIh p i w hp hi).mono ?_;rintro e w4 ⟨hP,hb4⟩;rcases hP with⟨f',k',hk',rfl⟩|⟨c4,k',hk',rfl⟩;case inr=>rw[HCl.out]at hk';cases hk'
  obtain⟨rfl,rfl⟩:f=f'∧k=k':=by rw[HCl.out]at hk';simpa using hk'
  go_wp2_with fail;go_ret;exact⟨rfl,hb4.trans ((Below.refl _ _).alloc hb4.size _)⟩
theorem yPw {p:ByteArray} (hp:p.size≤200):∀n,EndC p n
 |0=>fun i k t w h=>h.elim
 |n+1=>end_of hp (yPw hp n)
def yFt (w:World) (base g cp:Nat) (us:List Value):Prop:=w.ownsRow base 9 1 (.slice (some ⟨g,0,none⟩) us.length cp) us.length us
theorem yFt.lt {g:Nat} (h:yFt w base g cp us):base≤g∧g<w.heap.size:=World.ownsRow.lt h g rfl
theorem yFt.below {g:Nat} (h:yFt w base g cp us) (hb:Below w.heap.size w w'):yFt w' base g cp us:=yAp h (Chg.of_below hb) (S:=fun _=>False) (fun k q z=>z)
theorem ySa (w:World) (hb:base≤w.heap.size):yFt (w.alloc (Obj.cells #[] 9)) base w.heap.size 0 []:=
 World.ownsRow_made w #[] 0 hb (Nat.zero_le _) (by simp)
theorem Tryz.infoStr:(Tryz.prog.info? 9).map (fun i=>(i.zero,i.size,i.bytes))=some (some (.string ⟨#[]⟩),1,16):=by kernel_rfl
theorem yEh {ops:Array Oper} {rest:List Oper} {oo:Oper} {a:Act} {Q:Exit→Act→World→Prop} (w:World) (hgd:oo.guard=none) (s x:Operand)
  (ho:oo.op=.call {callee:=.builtin .append,args:=#[s,x],argTypes:=#[149,149]})
  (base gq cp n b:Nat) (us:List Value) (y:Value) (hs:a.eval s=.slice (some ⟨gq,0,none⟩) n cp) (hx:a.eval x=.slice (some ⟨b,0,none⟩) 1 1) (hn:n=us.length) (hO:yFt w base gq cp us)
  (hc:w.cell? ⟨b,0,none⟩=some y) (hy:y.oneCell'=true) (hlen:us.length≤1000) (hbase:base≤w.heap.size)
  (h:∀g' cp' w',yFt w' base g' cp' (us++ [y])→w.grownBy w' (some gq)→(g'=gq∨g'=w.heap.size)→wpList Tryz.prog ops Q rest (a.put oo.dst (.slice (some ⟨g',0,none⟩) (n+1) cp')) w'):wpList Tryz.prog ops Q (oo::rest) a w:=by
 subst hn;obtain⟨i,hi,hz0,hz1,hz2⟩:=info_parts Tryz.infoStr;refine wpList_append_own_at w hgd s x 149 ho base 9 i _ 1 16 Tryz.underlying149 hi hz0 hz1 hz2 rfl (by decide) (.slice (some ⟨gq,0,none⟩) us.length cp) us.length us hs hO ⟨b,0,none⟩ 1 1 [y] hx rfl ?_ ?_ ?_ ?_ hbase ?_
 ·exact yV0
 ·intro u hu;simp at hu;subst hu;exact hy
 ·unfold maxLen;omega
 ·omega
 ·intro v' w' hO' hgr hnil hat;rcases hO'.2 with⟨h0,_⟩|⟨g',cap',cur,hv,_,_,hn,hcap,_,_⟩
  ·have:=(hnil.1 h0).1;cases this
  ·subst hv;refine h g' cap' w' ?_ hgr ?_
   ·unfold yFt;rw[List.length_append];exact hO'
   ·simp[Value.ownBlock]at hat;exact hat
theorem yTi (h:TokN A k xs):k≤xs.length:=by
 induction h with
 |nil=>exact Nat.le_refl _
 |bar _ ih=>simpa using ih
 |op _ _ ih=>simp;omega
 |atom _ _ ih=>simp;omega
variable {f:Nat}
theorem yB7 (p:ByteArray) (hj:j≤p.size):sb (p.extract f j)=cut (sb p) f j:=by unfold sb cut;simp[ByteArray.data_extract,List.extract_eq_take_drop]
structure PaS (n:Nat) (p:List UInt8) (os:List (List Pat)) (j f i:Nat) (r:List UInt8):Prop where
 ri:r=cut p j (j+r.length)
 rl:j+r.length≤p.length
 fj:f≤j
 tok:TokN (yAz n) 0 r
 cur:∃ts,os[i]?=some ts∧SeqG (yAz n) ts (cut p f (j+r.length))
 rest:(j+r.length=p.length∧i+1=os.length)∨(p[j+r.length]?=some 124∧AltG (yAz n) (os.drop (i+1)) (cut p (j+r.length+1) p.length))
theorem yQv (hj:j≤p.length) (h:AltG (yAz n) (os.drop i) (cut p j p.length)):∃r,PaS n p os j j i r:=by
 rcases hd:os.drop i with _|⟨ts,_|⟨o,os'⟩⟩
 ·rw[hd]at h;exact h.elim
 ·rw[hd]at h;have hl:=yBk (p:=p) (i:=j) (k:=p.length) (Nat.le_refl _);have hlen:i+1=os.length:=by have:=congrArg List.length hd;simp at this;omega
  have h0:os[i]?=some ts:=by have:=congrArg (fun l=>l[0]?) hd;simpa using this
  refine⟨cut p j p.length,?_,by omega,Nat.le_refl _,SeqG.tokn h,⟨ts,h0,?_⟩,.inl ⟨by omega,hlen⟩⟩
  ·rw[hl,show j+(p.length-j)=p.length by omega]
  ·rw[hl,show j+(p.length-j)=p.length by omega];exact h
 ·rw[hd]at h;obtain⟨ys,zs,h1,h2,h3⟩:=h;obtain⟨k1,k2,k3⟩:=yRd h1 (Nat.le_refl _) hj;obtain⟨g1,g2,g3⟩:=yPx k2 (Nat.le_refl _);have h0:os[i]?=some ts:=by have:=congrArg (fun l=>l[0]?) hd;simpa using this
  have hd2:os.drop (i+1)=o::os':=by have:=congrArg List.tail hd;simpa using this
  exact⟨ys,k1.symm,k3,Nat.le_refl _,SeqG.tokn h2,⟨ts,h0,by rw[k1];exact h2⟩,.inr ⟨g1,by rw[hd2,g2];exact h3⟩⟩
theorem PaS.next {x r:List UInt8} (h:PaS n p os j f i (x++r)) (ht:TokN (yAz n) 0 r):PaS n p os (j+x.length) f i r:=by
 have hl:j+x.length+r.length=j+(x++r).length:=by simp;omega
 have hri:=h.ri;have hrl:=h.rl;rw[←hl]at hri hrl;obtain⟨_,k2,_⟩:=yRd hri.symm hrl (by omega);refine⟨?_,hrl,by have:=h.fj;omega,ht,?_,?_⟩
 ·exact k2.symm
 ·rw[hl];exact h.cur
 ·rw[hl];exact h.rest
def yOk (n:Nat) (os:List (List Pat)) (us:List Value) (m:Nat):Prop:=∀(t:Nat) (u:Value),us[t]?=some u→∃s ts,u=.string s∧os[t]?=some ts∧SeqG (yAz n) ts (sb s)∧s.size≤m
theorem yOk.snoc (h:yOk n os us m) {s:ByteArray} (ho:os[us.length]?=some ts) (hs:SeqG (yAz n) ts (sb s)) (hm:s.size≤m):yOk n os (us++ [.string s]) m:=by
 intro t u hu;rcases Nat.lt_or_ge t us.length with q|q
 ·rw[List.getElem?_append_left q]at hu;exact h t u hu
 ·have ht:t=us.length:=by have:=(List.getElem?_eq_some_iff.1 hu).1;simp at this;omega
  subst ht;simp at hu;subst hu;exact⟨s,ts,rfl,ho,hs,hm⟩
structure PaK (p:ByteArray) (n:Nat) (os:List (List Pat)) (w:World) (j f g cp:Nat) (us:List Value) (wr:World):Prop where
 st:∃r,PaS n (sb p) os j f us.length r
 strs:yOk n os us p.size
 own:yFt wr w.heap.size g cp us
 below:Below w.heap.size w wr
theorem PaK.move {p:ByteArray} {g:Nat} {wr:World} (h:PaK p n os w j f g cp us wr) (hb:Below wr.heap.size wr w') {j':Nat} (hs:∃r,PaS n (sb p) os j' f us.length r):PaK p n os w j' f g cp us w':=
 ⟨hs,h.strs,h.own.below hb,h.below.trans (hb.mono h.below.size)⟩
def PrtP (n:Nat) (os:List (List Pat)) (m:Nat) (w:World) (e:Ending) (w':World):Prop:=∃g cp us,e=.returned (.slice (some ⟨g,0,none⟩) os.length cp)∧us.length=os.length∧Hid (yFt w' w.heap.size g cp us∧yOk n os us m)∧Below w.heap.size w w'
theorem yNt {p:ByteArray} (hp:p.size≤200) (h:AltG (yAz n) os (sb p)) (w:World):Calls Tryz.prog 169 #[.string p] w (PrtP n os p.size w):=by
 have hsl:p.size=(sb p).length:=(yAd p).symm;have hcut:cut (sb p) 0 p.size=sb p:=by show(List.drop 0 (sb p)).take (p.size-0)=sb p;rw[List.drop_zero,Nat.sub_zero,List.take_of_length_le (Nat.le_of_eq hsl.symm)]
 have hol:os.length≤201:=by obtain⟨k,h1,h2⟩:=h.tokn;have:=yTi h2;rw[←hsl]at this;omega
 have HSl:Hid (p.size=(sb p).length):=hsl;obtain⟨W0,hW0⟩:=qE (w.alloc (Obj.cells #[] 9):World);have HW0:Hid (PaK p n os w 0 0 w.heap.size 0 [] W0):=by rw[hW0];refine⟨yQv (Nat.zero_le _) ?_,fun t u hu=>by simp at hu,ySa w (Nat.le_refl _),qB⟩;rw[←hsl,hcut];exact h
 clear h hsl hcut;go_enter Tryz.func169,Tryz.ntmps169;go_upto_region 2 with fail;rw[←hW0];clear hW0;go_wp2_with fail;go_loopw[3,4,5] (fun o fv jv wr=>∃(j f g cp m:Nat) (us:List Value),jv=.int .i64 (j:Int)∧fv=.int .i64 (f:Int)∧f≤j∧j≤p.size∧m≤201∧o=.slice (some ⟨g,0,none⟩) m cp∧Hid (PaK p n os w j f g cp us wr∧m=us.length)) (fun _ _ jv _=>p.size-(intOf jv).toNat);case atStart=>exact⟨0,0,_,0,0,[],rfl,rfl,Nat.le_refl _,Nat.zero_le _,Nat.zero_le _,rfl,HW0.out,rfl⟩
 case round=>
  obtain⟨j,f,g,cp,m,us,rfl,rfl,hfj,hjp,hml,rfl,HJ⟩:=hrel;have hgl:=HJ.1.own.lt;have hsz:=HJ.1.below.size;clear HW0;have z1:(f:Int)≤(j:Int):=by omega
  have z2:(j:Int)≤(p.size:Int):=by omega
  obtain⟨r,hS⟩:=HJ.1.st;have HP:Hid (PaS n (sb p) os j f us.length r):=hS;clear hS;by_cases hlt:j<p.size
  ·have zj:(j:Int)<(p.size:Int):=by omega
   rcases yTh HP.tok with⟨h0,_⟩|⟨m',zs,h0,hm,hT⟩|⟨c,zs,h0,hop,hT⟩|⟨ys,zs,t,h0,hA,hT⟩
   ·have hrest:(sb p)[j]?=some 124∧AltG (yAz n) (os.drop (us.length+1)) (cut (sb p) (j+1) (sb p).length):=by
     rcases HP.rest with⟨q,_⟩|q
     ·rw[h0]at q;simp at q;have:=HSl.out;omega
     ·rw[h0]at q;simpa using q
    obtain⟨ts,hts,hsq⟩:=HP.cur;rw[h0]at hsq;simp only[List.length_nil,Nat.add_zero]at hsq;obtain⟨_,gj⟩:=yA4 hrest.1;have HT:Hid (AltG (yAz n) (os.drop (us.length+1)) (cut (sb p) (j+1) (sb p).length)∧os[us.length]?=some ts∧SeqG (yAz n) ts (sb (p.extract f j))∧us.length+1≤os.length):=by refine⟨hrest.2,hts,by rw[yB7 p hjp];exact hsq,(List.getElem?_eq_some_iff.1 hts).1⟩
    have HM:Hid (m=us.length):=HJ.2;clear h0 hrest hts hsq;go_wp2_with (at_builtin;refine yEh _ rfl _ _ rfl w.heap.size g cp m wr.heap.size us (.string (p.extract f j)) rfl rfl HM.out ?hO ?hc ?hy ?hl ?hb ?_);case hO=>exact HJ.1.own.below (qB)
    case hy=>rfl
    case hl=>rw[←HM.out];omega
    case hb=>first|omega|(simp;omega)
    intro g' cp' w' hO' hgr hat;have HJ2:Hid (PaK p n os w (j+1) (j+1) g' cp' (us++ [.string (p.extract f j)]) w'∧m+1=(us++ [Value.string (p.extract f j)]).length):=by
     refine⟨⟨?_,HJ.1.strs.snoc HT.2.1 HT.2.2.1 (by rw[←yAd,yB7 p hjp,yBk (by rw[yAd];exact hjp)];omega),hO',?_⟩,by rw[HM.out];simp⟩
     ·rw[List.length_append,List.length_singleton];exact yQv (by have:=HSl.out;omega) HT.1
     ·exact(HJ.1.below.trans ((Below.refl _ _).alloc hsz _)).grown hgr (by simp;omega) (fun j hj=>by cases hj;omega)
    have hm2:m+1≤201:=by have h1:=HT.2.2.2;have h2:=HM.out;omega
    clear hO' hgr hat;go_wp2_with fail;go_roundw;case rel=>exact⟨j+1,j+1,g',cp',m+1,us++ [.string (p.extract f j)],by go_num,by go_num,Nat.le_refl _,by omega,hm2,by first|rfl|go_num,HJ2⟩
    case measure=>simp[intOf];omega
   ·omega
   ·have hP2:=HP.out;rw[h0]at hP2;have hcd:cut (sb p) j (j+(c::zs).length)=c::zs:=hP2.ri.symm;obtain⟨hpj,_,_⟩:=yPx hcd (by have:=hP2.rl;exact this);obtain⟨_,gj⟩:=yA4 hpj;have HT:Hid (PaS n (sb p) os (j+1) f us.length zs):=PaS.next (x:= [c]) hP2 hT;have z124:((c.toNat:Int)==124)=false:=beq_eq_false_iff_ne.2 (yCa (c:=124) (fun q=>by subst q;exact absurd hop (by decide)));have HOp:Hid (Calls Tryz.prog 119 #[.int .u8 (c.toNat:Int)] wr fun e w'=>e=.returned (.bool true)∧w'=wr):=by have:=yCq c wr;rw[decide_eq_true hop]at this;exact this
    clear h0 hT hpj hop hP2 hcd;go_wp2_with fail;refine HOp.mono ?_;rintro e' w5 ⟨rfl,hw5⟩;rw[hw5];clear hw5;go_wp2_with fail;go_roundw;case rel=>exact⟨j+1,f,g,cp,m,us,by go_num,rfl,by omega,by omega,hml,rfl,HJ.1.move (Below.refl _ _) ⟨_,HT.out⟩,HJ.2⟩
    case measure=>simp[intOf];omega
   ·have hP2:=HP.out;rw[h0]at hP2;obtain⟨c,yt,hyc,n41,n124,nop⟩:=hA.first;have hylen:0<ys.length:=by rw[hyc];simp
    have hrl:=hP2.rl;have hje2:j+ys.length≤p.size:=by rw[List.length_append]at hrl;have:=HSl.out;omega
    obtain⟨hy1,_,_⟩:=yRd hP2.ri.symm hrl (by omega);obtain⟨hpj,_,_⟩:=yPx (c:=c) (zs:=yt) (by rw[hy1];exact hyc) (by rw[←HSl.out];exact hje2);obtain⟨_,gj⟩:=yA4 hpj;have z124:((c.toNat:Int)==124)=false:=beq_eq_false_iff_ne.2 (yCa (c:=124) n124);have HOp:Hid (Calls Tryz.prog 119 #[.int .u8 (c.toNat:Int)] wr fun e w'=>e=.returned (.bool false)∧w'=wr):=by have:=yCq c wr;rw[decide_eq_false nop]at this;exact this
    obtain⟨i2,hi2⟩:=qE (j+ys.length);have HT:Hid (PaS n (sb p) os i2 f us.length zs):=by rw[hi2];exact PaS.next hP2 hT
    have HCall:Hid (Calls Tryz.prog 176 #[.string p,.int .i64 (j:Int)] wr fun e w'=>e=.returned (.int .i64 (i2:Int))∧Below wr.heap.size wr w'):=by rw[hi2];exact yPw hp n j (j+ys.length) t wr (by rw[hy1];exact hA) (by omega)
    have hj2:j<i2:=by omega
    have hj3:i2≤p.size:=by omega
    clear h0 hT hA hy1 hyc hpj n41 n124 nop hi2 hylen hje2 hP2 hrl;go_wp2_with fail;refine HOp.mono ?_;rintro e' w5 ⟨rfl,hw5⟩;rw[hw5];clear hw5;go_wp2_with fail;refine HCall.mono ?_;rintro e' w6 ⟨rfl,hb6⟩;have HJ6:Hid (PaK p n os w i2 f g cp us w6∧m=us.length):=⟨HJ.1.move hb6 ⟨_,HT.out⟩,HJ.2⟩;clear hb6;go_wp2_with fail;go_roundw;case rel=>exact⟨i2,f,g,cp,m,us,rfl,rfl,by omega,by omega,hml,rfl,HJ6.out⟩
    case measure=>simp[intOf];omega
  ·have zj:¬(j:Int)<(p.size:Int):=by omega
   obtain rfl:j=p.size:=by omega
   have hr0:r= []:=by have h1:=HP.rl;have h2:=HSl.out;exact List.length_eq_zero_iff.1 (by omega)
   have hend:us.length+1=os.length:=by
    rcases HP.rest with⟨_,q⟩|⟨q,_⟩
    ·exact q
    ·have:=yAs q;have:=HSl.out;omega
   obtain⟨ts,hts,hsq⟩:=HP.cur;rw[hr0]at hsq;simp only[List.length_nil,Nat.add_zero]at hsq;have HT:Hid (os[us.length]?=some ts∧SeqG (yAz n) ts (sb (p.extract f p.size))∧us.length+1=os.length):=⟨hts,by rw[yB7 p (Nat.le_refl _)];exact hsq,hend⟩;have HM:Hid (m=us.length):=HJ.2;clear hr0 hend hts hsq;go_wp2_with (at_builtin;refine yEh _ rfl _ _ rfl w.heap.size g cp m wr.heap.size us (.string (p.extract f p.size)) rfl rfl HM.out ?hO2 ?hc2 ?hy2 ?hl2 ?hb2 ?_);case hO2=>exact HJ.1.own.below (qB)
   case hy2=>rfl
   case hl2=>rw[←HM.out];omega
   case hb2=>first|omega|(simp;omega)
   intro g' cp' w' hO' hgr hat;have HR:Hid (PrtP n os p.size w (.returned (.slice (some ⟨g',0,none⟩) (m+1) cp')) w'):=by refine⟨g',cp',us++ [.string (p.extract f p.size)],?_,by rw[List.length_append,List.length_singleton];exact HT.2.2,⟨hO',HJ.1.strs.snoc HT.1 HT.2.1 (by rw[←yAd,yB7 p (Nat.le_refl _),yBk (by rw[yAd];exact Nat.le_refl _)];omega)⟩,(HJ.1.below.trans ((Below.refl _ _).alloc hsz _)).grown hgr (by simp;omega) (fun j hj=>by cases hj;omega)⟩;rw[HM.out,HT.2.2]
   clear hO' hgr hat;go_wp2_with fail;go_ret;exact HR.out
variable {ρ γ:Nat→Nat}
theorem yO3 {N:Nat} {ρ' γ':Nat→Nat} (h:∀i,i<k→ρ' i=ρ i∧γ' i=γ i):yL8 N k ρ' γ'=yL8 N k ρ γ:=by unfold yL8;apply List.map_congr_left;intro i hi;rw[List.mem_range]at hi;rw[(h i hi).1,(h i hi).2]
def updN (ρ:Nat→Nat) (k r:Nat):Nat→Nat:=fun i=>if i=k then r else ρ i
theorem yFb (ρ:Nat→Nat) (k r:Nat) (h:i<k):updN ρ k r i=ρ i:=by simp[updN,Nat.ne_of_lt h]
theorem yHq (ρ:Nat→Nat) (k r:Nat):updN ρ k r k=r:=by simp[updN]
structure RowJ (w wi:World) (n g cp k r c j:Nat) (ρ γ:Nat→Nat):Prop where
 row:BRow wi w.heap.size r c j (fun _=>false)
 mat:MatO wi w.heap.size g cp (n+1) k ρ γ (fun _ _=>false)
 off:∀i,i<k→ρ i≠r
 below:Below w.heap.size w wi
variable {wi:World} {r:Nat}
theorem RowJ.move {g c:Nat} (h:RowJ w wi n g cp k r c j ρ γ) (hb:Below wi.heap.size wi w'):RowJ w w' n g cp k r c j ρ γ:=
 ⟨h.row.chg (S:=fun _=>False) (Chg.of_below hb) (fun q=>q),h.mat.below hb,h.off,h.below.trans (hb.mono h.below.size)⟩
theorem RowJ.next {g c r' c':Nat} (h:RowJ w wi n g cp k r c j ρ γ) (hr:BRow w' w.heap.size r' c' (j+1) (fun _=>false)) (hg:wi.grownBy w' (some r)) (hat:r'=r∨r'=wi.heap.size):RowJ w w' n g cp k r' c' (j+1) ρ γ:=by
 have hch:Chg (fun b=>b=r) wi w':=Chg.of_grown hg (fun b hb=>by cases hb;rfl);have hlt:=h.row.lt;refine⟨hr,h.mat.chg hch (fun q=>(h.row.off h.mat.out) q.symm) (fun i hi=>h.off i hi),fun i hi=>?_,Chg.below h.below hch h.below.size (fun b hb=>by omega)⟩;rcases hat with q|q
 ·rw[q];exact h.off i hi
 ·rw[q];have:=(h.mat.row i hi).lt.2;omega
theorem RowJ.done {g c g' cp':Nat} (h:RowJ w wi n g cp k r c (n+1) ρ γ) (ho:ORow w' w.heap.size g' cp' (n+1) (k+1) (updN ρ k r) (updN γ k c)) (hg:wi.grownBy w' (some g)):
  MatO w' w.heap.size g' cp' (n+1) (k+1) (updN ρ k r) (updN γ k c) (fun _ _=>false)∧Below w.heap.size w w':=by
 have hch:Chg (fun b=>b=g) wi w':=Chg.of_grown hg (fun b hb=>by cases hb;rfl);have hlt:=h.mat.out.lt;refine⟨⟨ho,fun i hi=>?_,fun i j hi hj hne=>?_⟩,Chg.below h.below hch h.below.size (fun b hb=>by omega)⟩
 ·by_cases e:i=k
  ·subst e;rw[yHq,yHq];exact h.row.chg hch (fun q=>h.row.off h.mat.out q)
  ·rw[yFb _ _ _ (by omega),yFb _ _ _ (by omega)];exact(h.mat.row i (by omega)).chg hch (fun q=>(h.mat.row i (by omega)).off h.mat.out q)
 ·by_cases e:i=k
  ·subst e;rw[yHq,yFb _ _ _ (by omega)];exact fun q=>h.off j (by omega) q.symm
  ·by_cases e':j=k
   ·subst e';rw[yHq,yFb _ _ _ (by omega)];exact h.off i (by omega)
   ·rw[yFb _ _ _ (by omega),yFb _ _ _ (by omega)];exact h.mat.inj i j (by omega) (by omega) hne
theorem yBt (n:Nat) (hn:n≤1000) (w:World):Calls Tryz.prog 168 #[.int .i64 (n:Int)] w (MaP (n+1) (fun _ _=>false) w):=by
 obtain⟨W0,hW0⟩:=qE (w.alloc (Obj.cells #[] 225):World);have HM0:Hid (MatO W0 w.heap.size w.heap.size 0 (n+1) 0 (fun _=>0) (fun _=>0) (fun _ _=>false)∧Below w.heap.size w W0):=by rw[hW0];exact⟨⟨World.ownsRow_lit w #[] 0 (Nat.le_refl _) (by decide) (by decide),fun i hi=>by omega,fun i j hi=>by omega⟩,qB⟩
 go_enter Tryz.func168,Tryz.ntmps168;go_upto_region 2 with fail;rw[←hW0];clear hW0;go_wp2_with fail;go_loopw[3,4] (fun ov iv wr=>∃(k g cp:Nat) (ρ γ:Nat→Nat),k≤n+1∧iv=.int .i64 k∧ov=slV g k cp∧Hid (MatO wr w.heap.size g cp (n+1) k ρ γ (fun _ _=>false)∧Below w.heap.size w wr)) (fun _ iv _=>n+1-(intOf iv).toNat);case atStart=>exact⟨0,_,0,_,_,Nat.zero_le _,rfl,rfl,HM0.out⟩
 case round=>
  obtain⟨k,g,cp,ρ,γ,hk,rfl,rfl,HM⟩:=hrel;obtain⟨Wr,hWr⟩:=qE (wr:World);subst hWr;by_cases hlt:k≤n
  ·have zk:(k:Int)≤(n:Int):=by omega
   obtain⟨W1,hW1⟩:=qE (Wr.alloc (Obj.cells #[] 4):World);obtain⟨r0,hr0⟩:=qE Wr.heap.size;have HJ1:Hid (RowJ w W1 n g cp k r0 0 0 ρ γ):=by
    have hb1:Below Wr.heap.size Wr W1:=by rw[hW1];exact qB
    refine⟨?_,HM.1.below hb1,fun i hi q=>?_,HM.2.trans (hb1.mono HM.2.size)⟩
    ·rw[hW1,hr0];exact World.ownsRow_lit Wr #[] 0 HM.2.size (by decide) (by decide)
    ·have:=(HM.1.row i hi).lt.2;omega
   go_upto_region 6 with fail;rw[←hW1,←hr0];clear hW1 hr0;go_wp2_with fail;go_loopw[5,6] (fun rv jv wi=>∃(j r c:Nat),j≤n+1∧jv=.int .i64 j∧rv=slV r j c∧Hid (RowJ w wi n g cp k r c j ρ γ)) (fun _ jv _=>n+1-(intOf jv).toNat);case atStart=>exact⟨0,r0,0,Nat.zero_le _,rfl,rfl,HJ1.out⟩
   case round=>
    obtain⟨j,r,c,hj,rfl,rfl,HJ⟩:=hrel;by_cases hlj:j≤n
    ·have zj:(j:Int)≤(n:Int):=by omega
     have HA:Hid (RowJ w (wr.alloc (Obj.cells #[.bool false] 4)) n g cp k r c j ρ γ∧w.heap.size≤(wr.alloc (Obj.cells #[.bool false] 4)).heap.size):=by have h1:=HJ.move ((Below.refl wr.heap.size wr).alloc (Nat.le_refl _) (Obj.cells #[.bool false] 4));exact⟨h1,h1.below.size⟩
     go_wp2_with (at_builtin;refine yIp _ rfl _ _ rfl w.heap.size r c j wr.heap.size 1 (fun _=>false) false rfl rfl HA.1.row (by simp[go_sem]) rfl (by omega) HA.2 ?_);intro r' c' w' hr' hg' hat';have HJ2:Hid (RowJ w w' n g cp k r' c' (j+1) ρ γ):=HA.1.next hr' hg' (by simpa using hat');clear hr' hg' hat';go_wp2_with fail;go_roundw;case rel=>exact⟨j+1,r',c',by omega,by go_num,rfl,HJ2.out⟩
     case measure=>simp[intOf];omega
    ·obtain rfl:j=n+1:=by omega
     have zj:¬(((n+1:Nat):Int))≤(n:Int):=by omega
     have HA:Hid (RowJ w (wr.alloc (Obj.cells #[slV r (n+1) c] 225)) n g cp k r c (n+1) ρ γ∧w.heap.size≤(wr.alloc (Obj.cells #[slV r (n+1) c] 225)).heap.size∧ORow (wr.alloc (Obj.cells #[slV r (n+1) c] 225)) w.heap.size g cp (n+1) k (updN ρ k r) (updN γ k c)):=by have h1:=HJ.move ((Below.refl wr.heap.size wr).alloc (Nat.le_refl _) (Obj.cells #[slV r (n+1) c] 225));refine⟨h1,h1.below.size,?_⟩;have h2:=h1.mat.out;unfold ORow at h2⊢;rw[yO3 (fun i hi=>⟨yFb ρ k r hi,yFb γ k c hi⟩)];exact h2
     go_wp2_with (at_builtin;refine yHo _ rfl _ _ rfl w.heap.size g cp (n+1) k wr.heap.size 1 r c (updN ρ k r) (updN γ k c) rfl rfl HA.2.2 (by simp[go_sem]) (yHq _ _ _) (yHq _ _ _) (by omega) HA.2.1 ?_);intro g' cp' w' ho' hg' hat';have HM2:Hid (MatO w' w.heap.size g' cp' (n+1) (k+1) (updN ρ k r) (updN γ k c) (fun _ _=>false)∧Below w.heap.size w w'):=HA.1.done ho' hg';clear ho' hg' hat';go_wp2_with fail;go_roundw;case rel=>exact⟨k+1,g',cp',updN ρ k r,updN γ k c,by omega,by go_num,rfl,HM2.out⟩
     case measure=>simp[intOf];omega
  ·obtain rfl:k=n+1:=by omega
   have zk:¬(((n+1:Nat):Int))≤(n:Int):=by omega
   go_wp2_with fail;go_ret;exact⟨g,cp,ρ,γ,rfl,HM.1,HM.2⟩
def MaF (N:Nat) (F:Nat→Nat→Bool) (w:World) (r:Ending) (w':World):Prop:=∃g cp ρ γ f,r=.returned (slV g N cp)∧Hid (MatO w' w.heap.size g cp N N ρ γ f∧∀i j,i≤j→j<N→f i j=F i j)∧Below w.heap.size w w'
theorem yNw (n:Nat) (hn:n≤1000) (w:World):Calls Tryz.prog 177 #[.int .i64 (n:Int)] w (MaF (n+1) (fun i j=>i==j) w):=by
 go_enter Tryz.func177,Tryz.ntmps177;go_wp2_with fail;refine(yBt n hn w).mono ?_;rintro r w1 ⟨g,cp,ρ,γ,rfl,HM,hb1⟩;have hcp:=HM.out.out.caps;go_wp2_with fail;go_loopw[4] (fun iv wr=>∃(k:Nat) (f:Nat→Nat→Bool),k≤n+1∧iv=.int .i64 k∧Hid (MatO wr w.heap.size g cp (n+1) (n+1) ρ γ f∧(∀i j,i≤j→j<n+1→f i j=(i==j && decide (i<k)))∧Below w.heap.size w wr)) (fun iv _=>n+1-(intOf iv).toNat);case atStart=>exact⟨0,_,Nat.zero_le _,rfl,HM.out,fun i j _ _=>by simp,hb1⟩
 case round=>
  obtain⟨k,f,hk,rfl,HJ⟩:=hrel;by_cases hlt:k≤n
  ·have zk:(k:Int)≤(n:Int):=by omega
   have hk1:k<n+1:=by omega
   have c0:wr.cell? ⟨g,k,none⟩=some (slV (ρ k) (n+1) (γ k)):=HJ.1.cell hk1;have c1:wr.cell? ⟨ρ k,k,none⟩=some (.bool (f k k)):=(HJ.1.row k hk1).cell hk1;have z1:wr.frozen? ⟨ρ k,k,none⟩=false:=World.ownsRow.frozenAt (HJ.1.row k hk1) _;have hrc:=(HJ.1.row k hk1).caps;have HJ2:Hid (MatO (wr.setCell ⟨ρ k,k,none⟩ (.bool true)) w.heap.size g cp (n+1) (n+1) ρ γ (upd2 f k k true)∧(∀i j,i≤j→j<n+1→upd2 f k k true i j=(i==j && decide (i<k+1)))∧Below w.heap.size w (wr.setCell ⟨ρ k,k,none⟩ (.bool true))):=by
    refine⟨HJ.1.set hk1 hk1 true,fun i j hij hj=>?_,yAc HJ.2.2 (HJ.1.row k hk1).lt.1 _ _⟩;unfold upd2;by_cases e:i=k∧j=k
    ·rw[if_pos e];simp[e.1,e.2]
    ·rw[if_neg e,HJ.2.1 i j hij hj];rw[Bool.eq_iff_iff];simp only[Bool.or_eq_true,Bool.and_eq_true,decide_eq_true_eq,beq_iff_eq];omega
   have zr:(k:Int)<(((n+1:Nat)):Int):=by omega
   go_wp2_with fail;go_roundw;case rel=>exact⟨k+1,upd2 f k k true,by omega,by go_num,HJ2.out⟩
   case measure=>simp[intOf];omega
  ·obtain rfl:k=n+1:=by omega
   have zk:¬(((n+1:Nat):Int))≤(n:Int):=by omega
   go_wp2_with fail;go_ret;refine⟨g,cp,ρ,γ,f,rfl,⟨HJ.1,fun i j hij hj=>?_⟩,HJ.2.2⟩;rw[HJ.2.1 i j hij hj];have:i<n+1:=by omega
   simp[this]
def orF (fa fb:Nat→Nat→Bool) (k j:Nat):Nat→Nat→Bool:=fun x y=>(fa x y || fb x y) && (decide (x<k) || (x==k && decide (y<j)))
theorem yNu (n ga ca gb cb:Nat) (ρa γa ρb γb:Nat→Nat) (fa fb:Nat→Nat→Bool) (w:World) (hn:n≤1000) (ha:MatR w ga (n+1) ρa γa fa) (hb:MatR w gb (n+1) ρb γb fb) (hca:n+1≤ca) (hcb:n+1≤cb):Calls Tryz.prog 170 #[slV ga (n+1) ca,slV gb (n+1) cb] w (MaF (n+1) (fun i j=>fa i j || fb i j) w):=by
 have HR:Hid (MatR w ga (n+1) ρa γa fa∧MatR w gb (n+1) ρb γb fb):=⟨ha,hb⟩;clear ha hb;go_enter Tryz.func170,Tryz.ntmps170;go_wp2_with fail;refine(yBt n hn w).mono ?_;rintro r w1 ⟨g,cp,ρ,γ,rfl,HM,hb1⟩;have hcp:=HM.out.out.caps;go_wp2_with fail;go_loopw[6] (fun iv wr=>∃(k:Nat) (f:Nat→Nat→Bool),k≤n+1∧iv=.int .i64 k∧Hid (MatO wr w.heap.size g cp (n+1) (n+1) ρ γ f∧(∀i j,i≤j→j<n+1→f i j=orF fa fb k 0 i j)∧Below w.heap.size w wr)) (fun iv _=>n+1-(intOf iv).toNat);case atStart=>exact⟨0,_,Nat.zero_le _,rfl,HM.out,fun i j _ _=>by simp[orF],hb1⟩
 case round=>
  obtain⟨k,f0,hk,rfl,HJ0⟩:=hrel;obtain⟨Wr,hWr⟩:=qE (wr:World);subst hWr;by_cases hlt:k<n+1
  ·have zk:(k:Int)<((n+1:Nat):Int):=by omega
   go_wp2_with fail;go_loopw[7] (fun jv wr=>∃(j:Nat) (f:Nat→Nat→Bool),k≤j∧j≤n+1∧jv=.int .i64 j∧Hid (MatO wr w.heap.size g cp (n+1) (n+1) ρ γ f∧(∀x y,x≤y→y<n+1→f x y=orF fa fb k j x y)∧Below w.heap.size w wr)) (fun jv _=>n+1-(intOf jv).toNat);case atStart=>exact⟨k,f0,Nat.le_refl _,by omega,rfl,HJ0.1,fun x y hxy hy=>by
    rw[HJ0.2.1 x y hxy hy]
    unfold orF
    congr 1
    rw[Bool.eq_iff_iff];simp only[Bool.or_eq_true,Bool.and_eq_true,decide_eq_true_eq,beq_iff_eq];omega,HJ0.2.2⟩
   case round=>
    obtain⟨j,f,hkj,hj,rfl,HJ⟩:=hrel;by_cases hlj:j<n+1
    ·have zj:(j:Int)<((n+1:Nat):Int):=by omega
     have hra:=HR.1.below HJ.2.2 (Nat.le_refl _);have hrb:=HR.2.below HJ.2.2 (Nat.le_refl _);have c0:wr.cell? ⟨g,k,none⟩=some (slV (ρ k) (n+1) (γ k)):=HJ.1.cell hlt;have c1:wr.cell? ⟨ρ k,j,none⟩=some (.bool (f k j)):=(HJ.1.row k hlt).cell hlj;have z1:wr.frozen? ⟨ρ k,j,none⟩=false:=World.ownsRow.frozenAt (HJ.1.row k hlt) _;have hrc:=(HJ.1.row k hlt).caps;have a0:=hra.out k hlt;have a1:=hra.row k j hlt hlj;have b0:=hrb.out k hlt;have b1:=hrb.row k j hlt hlj;have hc1:=HR.1.cap k hlt;have hc2:=HR.2.cap k hlt;have HJ2:Hid (∀v:Bool,v=(fa k j || fb k j)→Hid (MatO (wr.setCell ⟨ρ k,j,none⟩ (.bool v)).drew w.heap.size g cp (n+1) (n+1) ρ γ (upd2 f k j v)∧(∀x y,x≤y→y<n+1→upd2 f k j v x y=orF fa fb k (j+1) x y)∧Below w.heap.size w (wr.setCell ⟨ρ k,j,none⟩ (.bool v)).drew)):=fun v hv=>by
      refine⟨(HJ.1.set hlt hlj v).below ((Below.refl _ _).drew),fun x y hxy hy=>?_,(yAc HJ.2.2 (HJ.1.row k hlt).lt.1 _ _).drew⟩;unfold upd2;by_cases e:x=k∧y=j
      ·rw[if_pos e,hv];simp[orF,e.1,e.2]
      ·rw[if_neg e,HJ.2.1 x y hxy hy];unfold orF;congr 1;rw[Bool.eq_iff_iff];simp only[Bool.or_eq_true,Bool.and_eq_true,decide_eq_true_eq,beq_iff_eq];omega
     obtain⟨fav,hfa⟩:∃fav,fa k j=fav:=⟨_,rfl⟩;obtain⟨fbv,hfb⟩:∃fbv,fb k j=fbv:=⟨_,rfl⟩;have HV:Hid (fa k j=fav∧fb k j=fbv):=⟨hfa,hfb⟩;rw[hfa]at a1;rw[hfb]at b1;clear hra hrb hfa hfb;go_upto_region 8 with fail;cases fav
     case false=>
      have hSd:(fun w':World=>w'.cell? ⟨g,k,none⟩=some (slV (ρ k) (n+1) (γ k))∧w'.cell? ⟨ga,k,none⟩=some (slV (ρa k) (n+1) (γa k))∧w'.cell? ⟨ρa k,j,none⟩=some (.bool false)∧w'.cell? ⟨gb,k,none⟩=some (slV (ρb k) (n+1) (γb k))∧w'.cell? ⟨ρb k,j,none⟩=some (.bool fbv)) wr.drew:=⟨c0,a0,a1,b0,b1⟩;refine yAb 22 (fun w':World=>w'.cell? ⟨g,k,none⟩=some (slV (ρ k) (n+1) (γ k))∧w'.cell? ⟨ga,k,none⟩=some (slV (ρa k) (n+1) (γa k))∧w'.cell? ⟨ρa k,j,none⟩=some (.bool false)∧w'.cell? ⟨gb,k,none⟩=some (slV (ρb k) (n+1) (γb k))∧w'.cell? ⟨ρb k,j,none⟩=some (.bool fbv)) (by kernel_rfl) ?_;refine j4a 0 hSd ?_;iterate 20 refine j4b hSd ?_
      refine qO 21 rfl fun K hK=>?_;go_simp;refine hK.out _ _ (.inr hSd) ?_;clear hK;refine jS ?_;refine qO 22 rfl fun K hK=>?_;go_simp;refine hK.out _ _ (.inl rfl) ?_;clear hK;refine jS ?_;refine qD ?_;have HJ3:=HJ2.out fbv (by rw[HV.1,HV.2];rfl);go_wp2_with fail;go_roundw;case rel=>exact⟨j+1,by omega,by omega,by go_num,upd2 f k j fbv,HJ3⟩
      case measure=>simp[intOf];omega
     case true=>
      have hSd:(fun w':World=>w'.cell? ⟨g,k,none⟩=some (slV (ρ k) (n+1) (γ k))∧w'.cell? ⟨ga,k,none⟩=some (slV (ρa k) (n+1) (γa k))∧w'.cell? ⟨ρa k,j,none⟩=some (.bool true)∧w'.cell? ⟨gb,k,none⟩=some (slV (ρb k) (n+1) (γb k))∧w'.cell? ⟨ρb k,j,none⟩=some (.bool fbv)) wr.drew:=⟨c0,a0,a1,b0,b1⟩;refine yAb 22 (fun w':World=>w'.cell? ⟨g,k,none⟩=some (slV (ρ k) (n+1) (γ k))∧w'.cell? ⟨ga,k,none⟩=some (slV (ρa k) (n+1) (γa k))∧w'.cell? ⟨ρa k,j,none⟩=some (.bool true)∧w'.cell? ⟨gb,k,none⟩=some (slV (ρb k) (n+1) (γb k))∧w'.cell? ⟨ρb k,j,none⟩=some (.bool fbv)) (by kernel_rfl) ?_;refine j4a 0 hSd ?_;iterate 20 refine j4b hSd ?_
      refine qO 21 rfl fun K hK=>?_;go_simp;refine hK.out _ _ (.inr hSd) ?_;clear hK;refine jS ?_;refine qO 22 rfl fun K hK=>?_;go_simp;refine hK.out _ _ (.inl rfl) ?_;clear hK;refine jS ?_;refine qD ?_;have HJ3:=HJ2.out true (by rw[HV.1,HV.2];rfl);go_wp2_with fail;go_roundw;case rel=>exact⟨j+1,by omega,by omega,by go_num,upd2 f k j true,HJ3⟩
      case measure=>simp[intOf];omega
    ·obtain rfl:j=n+1:=by omega
     have zj:¬((n+1:Nat):Int)<((n+1:Nat):Int):=by omega
     have HJ2:Hid (MatO wr w.heap.size g cp (n+1) (n+1) ρ γ f∧(∀x y,x≤y→y<n+1→f x y=orF fa fb (k+1) 0 x y)∧Below w.heap.size w wr):=by refine⟨HJ.1,fun x y hxy hy=>?_,HJ.2.2⟩;rw[HJ.2.1 x y hxy hy];unfold orF;congr 1;rw[Bool.eq_iff_iff];simp only[Bool.or_eq_true,Bool.and_eq_true,decide_eq_true_eq,beq_iff_eq];omega
     go_wp2_with fail;go_roundw;case rel=>exact⟨k+1,f,by omega,by go_num,HJ2.out⟩
     case measure=>simp[intOf];omega
  ·obtain rfl:k=n+1:=by omega
   have zk:¬((n+1:Nat):Int)<((n+1:Nat):Int):=by omega
   go_wp2_with fail;go_ret;refine⟨g,cp,ρ,γ,f0,rfl,⟨HJ0.1,fun i j hij hj=>?_⟩,HJ0.2.2⟩;rw[HJ0.2.1 i j hij hj];have:i<n+1:=by omega
   simp[orF,this]
def thF (fa fb:Nat→Nat→Bool) (i j K:Nat):Bool:=(List.range K).any (fun k=>decide (i≤k) && decide (k≤j) && fa i k && fb k j)
theorem yQe (fa fb:Nat→Nat→Bool) (i j k:Nat):thF fa fb i j (k+1)=(thF fa fb i j k || (decide (i≤k) && decide (k≤j) && fa i k && fb k j)):=by simp[thF,List.range_succ,List.any_append]
variable {fa fb:Nat→Nat→Bool}
theorem yLx (h:¬i≤k∨¬k≤j∨fa i k=false):thF fa fb i j (k+1)=thF fa fb i j k:=by rw[yQe];rcases h with h|h|h<;>simp[h]
theorem yIz:∀(k:Nat),k≤i→thF fa fb i j k=false
 |0,_=>rfl
 |k+1,h=>by rw[yLx (.inl (by omega)),yIz k (by omega)]
theorem yYy {K:Nat}:thF fa fb i j K=true↔∃k,k<K∧i≤k∧k≤j∧fa i k=true∧fb k j=true:=by
 simp only[thF,List.any_eq_true,List.mem_range,Bool.and_eq_true,decide_eq_true_eq];constructor
 ·rintro⟨k,h0,⟨⟨h1,h2⟩,h3⟩,h4⟩;exact⟨k,h0,h1,h2,h3,h4⟩
 ·rintro⟨k,h0,h1,h2,h3,h4⟩;exact⟨k,h0,⟨⟨h1,h2⟩,h3⟩,h4⟩
def stF (fa fb:Nat→Nat→Bool) (N i k j x y:Nat):Bool:=if x<i then thF fa fb x y N else if x=i then thF fa fb i y (if y<j then k+1 else k)else false
theorem yPn (n ga ca gb cb:Nat) (ρa γa ρb γb:Nat→Nat) (fa fb:Nat→Nat→Bool) (w:World) (hn:n≤1000) (ha:MatR w ga (n+1) ρa γa fa) (hb:MatR w gb (n+1) ρb γb fb) (hca:n+1≤ca) (hcb:n+1≤cb):Calls Tryz.prog 180 #[slV ga (n+1) ca,slV gb (n+1) cb] w (MaF (n+1) (fun i j=>thF fa fb i j (n+1)) w):=by
 have HR:Hid (MatR w ga (n+1) ρa γa fa∧MatR w gb (n+1) ρb γb fb):=⟨ha,hb⟩;clear ha hb;go_enter Tryz.func180,Tryz.ntmps180;go_wp2_with fail;refine(yBt n hn w).mono ?_;rintro r w1 ⟨g,cp,ρ,γ,rfl,HM,hb1⟩;have hcp:=HM.out.out.caps;go_wp2_with fail;go_loopw[6] (fun iv wr=>∃(i:Nat) (f:Nat→Nat→Bool),i≤n+1∧iv=.int .i64 i∧Hid (MatO wr w.heap.size g cp (n+1) (n+1) ρ γ f∧(∀x y,x≤y→y<n+1→f x y=stF fa fb (n+1) i 0 0 x y)∧Below w.heap.size w wr)) (fun iv _=>n+1-(intOf iv).toNat);case atStart=>exact⟨0,_,Nat.zero_le _,rfl,HM.out,fun x y _ _=>by
  unfold stF
  rw[if_neg (by omega)]
  split
  ·rw[if_neg (by omega)];rfl
  ·rfl,hb1⟩
 case round=>
  obtain⟨i,f0,hi,rfl,HJ0⟩:=hrel;obtain⟨Wr,hWr⟩:=qE (wr:World);subst hWr;by_cases hli:i<n+1
  ·have zi:(i:Int)<((n+1:Nat):Int):=by omega
   go_wp2_with fail;go_loopw[7] (fun kv wr=>∃(k:Nat) (f:Nat→Nat→Bool),i≤k∧k≤n+1∧kv=.int .i64 k∧Hid (MatO wr w.heap.size g cp (n+1) (n+1) ρ γ f∧(∀x y,x≤y→y<n+1→f x y=stF fa fb (n+1) i k 0 x y)∧Below w.heap.size w wr)) (fun kv _=>n+1-(intOf kv).toNat);case atStart=>exact⟨i,f0,Nat.le_refl _,by omega,rfl,HJ0.1,fun x y hxy hy=>by
    rw[HJ0.2.1 x y hxy hy]
    unfold stF
    split
    ·rfl
    ·split
     ·rw[if_neg (by omega),if_neg (by omega),yIz 0 (by omega),yIz i (Nat.le_refl _)]
     ·rfl,HJ0.2.2⟩
   case round=>
    obtain⟨k,f1,hik,hk,rfl,HJ1⟩:=hrel;obtain⟨Ws,hWs⟩:=qE (wr:World);subst hWs;by_cases hlk:k<n+1
    ·have zk:(k:Int)<((n+1:Nat):Int):=by omega
     have hra:=HR.1.below HJ1.2.2 (Nat.le_refl _);have a0:=hra.out i hli;have a1:=hra.row i k hli hlk;have hc1:=HR.1.cap i hli;obtain⟨fav,hfa⟩:∃fav,fa i k=fav:=⟨_,rfl⟩;rw[hfa]at a1;have HFa:Hid (fa i k=fav):=hfa;clear hra hfa;cases fav
     case false=>
      have HJ2:Hid (MatO Ws w.heap.size g cp (n+1) (n+1) ρ γ f1∧(∀x y,x≤y→y<n+1→f1 x y=stF fa fb (n+1) i (k+1) 0 x y)∧Below w.heap.size w Ws):=by
       refine⟨HJ1.1,fun x y hxy hy=>?_,HJ1.2.2⟩;rw[HJ1.2.1 x y hxy hy];unfold stF;split
       ·rfl
       ·split
        ·rw[if_neg (by omega),if_neg (by omega),yLx (.inr (.inr HFa.out))]
        ·rfl
      go_wp2_with fail;go_roundw;case rel=>first|exact⟨k+1,by omega,by omega,by go_num,f1,HJ2.out⟩|exact⟨k+1,by omega,by omega,by omega,by go_num,f1,HJ2.out⟩|exact⟨k+1,f1,by omega,by omega,by go_num,HJ2.out⟩
      case measure=>simp[intOf];omega
     case true=>
     go_wp2_with fail;clear a0 a1 hc1;go_loopw[8] (fun jv wr=>∃(j:Nat) (f:Nat→Nat→Bool),k≤j∧j≤n+1∧jv=.int .i64 j∧Hid (MatO wr w.heap.size g cp (n+1) (n+1) ρ γ f∧(∀x y,x≤y→y<n+1→f x y=stF fa fb (n+1) i k j x y)∧Below w.heap.size w wr)) (fun jv _=>n+1-(intOf jv).toNat);case atStart=>exact⟨k,f1,Nat.le_refl _,by omega,rfl,HJ1.1,fun x y hxy hy=>by
      rw[HJ1.2.1 x y hxy hy]
      unfold stF
      split
      ·rfl
      ·split
       ·rw[if_neg (by omega)]
        split
        ·rw[yLx (.inr (.inl (by omega)))]
        ·rfl
       ·rfl,HJ1.2.2⟩
     case round=>
      obtain⟨j,f,hkj,hj,rfl,HJ⟩:=hrel;by_cases hlj:j<n+1
      ·have zj:(j:Int)<((n+1:Nat):Int):=by omega
       have hrb:=HR.2.below HJ.2.2 (Nat.le_refl _);have c0:wr.cell? ⟨g,i,none⟩=some (slV (ρ i) (n+1) (γ i)):=HJ.1.cell hli;have c1:wr.cell? ⟨ρ i,j,none⟩=some (.bool (f i j)):=(HJ.1.row i hli).cell hlj;have z1:wr.frozen? ⟨ρ i,j,none⟩=false:=World.ownsRow.frozenAt (HJ.1.row i hli) _;have hrc:=(HJ.1.row i hli).caps;have b0:=hrb.out k hlk;have b1:=hrb.row k j hlk hlj;have hc2:=HR.2.cap k hlk;have HJ2:Hid (∀v:Bool,v=(f i j || fb k j)→Hid (MatO (wr.setCell ⟨ρ i,j,none⟩ (.bool v)).drew w.heap.size g cp (n+1) (n+1) ρ γ (upd2 f i j v)∧(∀x y,x≤y→y<n+1→upd2 f i j v x y=stF fa fb (n+1) i k (j+1) x y)∧Below w.heap.size w (wr.setCell ⟨ρ i,j,none⟩ (.bool v)).drew)):=fun v hv=>by
        refine⟨(HJ.1.set hli hlj v).below ((Below.refl _ _).drew),fun x y hxy hy=>?_,(yAc HJ.2.2 (HJ.1.row i hli).lt.1 _ _).drew⟩;unfold upd2;by_cases e:x=i∧y=j
        ·rw[if_pos e,hv,HJ.2.1 i j (by omega) hlj,e.1,e.2];unfold stF;rw[if_neg (by omega),if_pos rfl,if_neg (by omega),if_neg (by omega),if_pos rfl,if_pos (by omega),yQe,HFa.out];have h1:i≤k:=hik;simp[h1,hkj]
        ·rw[if_neg e,HJ.2.1 x y hxy hy];unfold stF;split
         ·rfl
         ·split
          ·have h1:y≠j:=fun q=>e ⟨by assumption,q⟩;by_cases h2:y<j
           ·rw[if_pos h2,if_pos (by omega)]
           ·rw[if_neg h2,if_neg (by omega)]
          ·rfl
       obtain⟨ov,hov⟩:∃ov,f i j=ov:=⟨_,rfl⟩;obtain⟨fbv,hfb⟩:∃fbv,fb k j=fbv:=⟨_,rfl⟩;have HV:Hid (f i j=ov∧fb k j=fbv):=⟨hov,hfb⟩;rw[hov]at c1;rw[hfb]at b1;clear hrb hov hfb;go_upto_region 12 with fail;cases ov
       case false=>
        have hSd:(fun w':World=>w'.cell? ⟨g,i,none⟩=some (slV (ρ i) (n+1) (γ i))∧w'.cell? ⟨ρ i,j,none⟩=some (.bool false)∧w'.cell? ⟨gb,k,none⟩=some (slV (ρb k) (n+1) (γb k))∧w'.cell? ⟨ρb k,j,none⟩=some (.bool fbv)) wr.drew:=⟨c0,c1,b0,b1⟩;refine yAb 22 (fun w':World=>w'.cell? ⟨g,i,none⟩=some (slV (ρ i) (n+1) (γ i))∧w'.cell? ⟨ρ i,j,none⟩=some (.bool false)∧w'.cell? ⟨gb,k,none⟩=some (slV (ρb k) (n+1) (γb k))∧w'.cell? ⟨ρb k,j,none⟩=some (.bool fbv)) (by kernel_rfl) ?_;refine j0a 0 hSd ?_;iterate 20 refine j0b hSd ?_
        refine qO 21 rfl fun K hK=>?_;go_simp;refine hK.out _ _ (.inr hSd) ?_;clear hK;refine jS ?_;refine qO 22 rfl fun K hK=>?_;go_simp;refine hK.out _ _ (.inl rfl) ?_;clear hK;refine jS ?_;refine qD ?_;have HJ3:=HJ2.out fbv (by rw[HV.1,HV.2];rfl);go_wp2_with fail;go_roundw;case rel=>exact⟨j+1,by omega,by omega,by go_num,upd2 f i j fbv,HJ3⟩
        case measure=>simp[intOf];omega
       case true=>
        have hSd:(fun w':World=>w'.cell? ⟨g,i,none⟩=some (slV (ρ i) (n+1) (γ i))∧w'.cell? ⟨ρ i,j,none⟩=some (.bool true)∧w'.cell? ⟨gb,k,none⟩=some (slV (ρb k) (n+1) (γb k))∧w'.cell? ⟨ρb k,j,none⟩=some (.bool fbv)) wr.drew:=⟨c0,c1,b0,b1⟩;refine yAb 22 (fun w':World=>w'.cell? ⟨g,i,none⟩=some (slV (ρ i) (n+1) (γ i))∧w'.cell? ⟨ρ i,j,none⟩=some (.bool true)∧w'.cell? ⟨gb,k,none⟩=some (slV (ρb k) (n+1) (γb k))∧w'.cell? ⟨ρb k,j,none⟩=some (.bool fbv)) (by kernel_rfl) ?_;refine j0a 0 hSd ?_;iterate 20 refine j0b hSd ?_
        refine qO 21 rfl fun K hK=>?_;go_simp;refine hK.out _ _ (.inr hSd) ?_;clear hK;refine jS ?_;refine qO 22 rfl fun K hK=>?_;go_simp;refine hK.out _ _ (.inl rfl) ?_;clear hK;refine jS ?_;refine qD ?_;have HJ3:=HJ2.out true (by rw[HV.1,HV.2];rfl);go_wp2_with fail;go_roundw;case rel=>exact⟨j+1,by omega,by omega,by go_num,upd2 f i j true,HJ3⟩
        case measure=>simp[intOf];omega
      ·obtain rfl:j=n+1:=by omega
       have zj:¬((n+1:Nat):Int)<((n+1:Nat):Int):=by omega
       have HJ2:Hid (MatO wr w.heap.size g cp (n+1) (n+1) ρ γ f∧(∀x y,x≤y→y<n+1→f x y=stF fa fb (n+1) i (k+1) 0 x y)∧Below w.heap.size w wr):=by
        refine⟨HJ.1,fun x y hxy hy=>?_,HJ.2.2⟩;rw[HJ.2.1 x y hxy hy];unfold stF;split
        ·rfl
        ·split
         ·first|rw[if_pos hy,if_neg (by omega)]|rw[if_neg (by omega)]
         ·rfl
       go_wp2_with fail;go_roundw;case rel=>first|exact⟨k+1,by omega,by omega,by go_num,f,HJ2.out⟩|exact⟨k+1,by omega,by omega,by omega,by go_num,f,HJ2.out⟩|exact⟨k+1,f,by omega,by omega,by go_num,HJ2.out⟩
       case measure=>simp[intOf];omega
    ·obtain rfl:k=n+1:=by omega
     have zk:¬((n+1:Nat):Int)<((n+1:Nat):Int):=by omega
     have HJ2:Hid (MatO Ws w.heap.size g cp (n+1) (n+1) ρ γ f1∧(∀x y,x≤y→y<n+1→f1 x y=stF fa fb (n+1) (i+1) 0 0 x y)∧Below w.heap.size w Ws):=by
      refine⟨HJ1.1,fun x y hxy hy=>?_,HJ1.2.2⟩;rw[HJ1.2.1 x y hxy hy];unfold stF;by_cases h1:x<i
      ·rw[if_pos h1,if_pos (by omega)]
      ·by_cases h2:x=i
       ·rw[if_neg h1,if_pos h2,if_neg (by omega),if_pos (by omega),h2]
       ·rw[if_neg h1,if_neg h2,if_neg (by omega)];split
        ·rw[if_neg (by omega),yIz 0 (by omega)]
        ·rfl
     go_wp2_with fail;go_roundw;case rel=>first|exact⟨i+1,f1,by omega,by go_num,HJ2.out⟩|exact⟨i+1,by omega,by go_num,f1,HJ2.out⟩
     case measure=>simp[intOf];omega
  ·obtain rfl:i=n+1:=by omega
   have zi:¬((n+1:Nat):Int)<((n+1:Nat):Int):=by omega
   go_wp2_with fail;go_ret;refine⟨g,cp,ρ,γ,f0,rfl,⟨HJ0.1,fun x y hxy hy=>?_⟩,HJ0.2.2⟩;rw[HJ0.2.1 x y hxy hy];unfold stF;rw[if_pos (by omega)]
def plK (fa:Nat→Nat→Bool):Nat→Nat→Nat→Bool
 |0=>fa
 |K+1=>fun i j=>plK fa K i j || (decide (i≤K) && decide (K≤j) && plK fa K i K && plK fa K K j)
def MaG (N:Nat) (F:Nat→Nat→Bool) (w:World) (r:Ending) (w':World):Prop:=∃g cp ρ γ f,r=.returned (slV g N cp)∧N≤cp∧Hid (MatR w' g N ρ γ f∧∀i j,i≤j→j<N→f i j=F i j)∧Below w.heap.size w w'
theorem MaF.g {N:Nat} {F:Nat→Nat→Bool} {r:Ending} (h:MaF N F w r w'):MaG N F w r w':=by obtain⟨g,cp,ρ,γ,f,h1,h2,h3⟩:=h;exact⟨g,cp,ρ,γ,f,h1,h2.out.1.out.caps.1,⟨h2.out.1.read,h2.out.2⟩,h3⟩
def viaF (fo:Nat→Nat→Bool) (k:Nat):Nat→Nat→Bool:=fun x y=>decide (x≤k) && decide (k≤y) && fo x k && fo k y
theorem yPo (n ga ca:Nat) (ρa γa:Nat→Nat) (fa:Nat→Nat→Bool) (w:World) (hn:n≤1000) (ha:MatR w ga (n+1) ρa γa fa) (hca:n+1≤ca):Calls Tryz.prog 179 #[slV ga (n+1) ca] w (MaG (n+1) (plK fa (n+1)) w):=by
 have HR:Hid (MatR w ga (n+1) ρa γa fa):=ha;clear ha;go_enter Tryz.func179,Tryz.ntmps179;go_wp2_with fail;go_loopw[3,4] (fun ov kv wr=>∃(k go co:Nat) (ρo γo:Nat→Nat) (fo:Nat→Nat→Bool),k≤n+1∧kv=.int .i64 k∧ov=slV go (n+1) co∧n+1≤co∧Hid (MatR wr go (n+1) ρo γo fo∧(∀x y,x≤y→y<n+1→fo x y=plK fa k x y)∧Below w.heap.size w wr)) (fun _ kv _=>n+1-(intOf kv).toNat);case atStart=>exact⟨0,ga,ca,ρa,γa,fa,Nat.zero_le _,rfl,rfl,hca,HR.out,fun _ _ _ _=>rfl,Below.refl _ _⟩
 case round=>
  obtain⟨k,go,co,ρo,γo,fo,hk,rfl,rfl,hco,HO⟩:=hrel;obtain⟨Wk,hWk⟩:=qE (wr:World);subst hWk;by_cases hlk:k<n+1
  ·have zk:(k:Int)<((n+1:Nat):Int):=by omega
   go_wp2_with fail;refine(yBt n hn Wk).mono ?_;rintro r w1 ⟨g,cp,ρ,γ,rfl,HM,hb1⟩;have hcp:=HM.out.out.caps;go_wp2_with fail;go_loopw[6] (fun iv wr=>∃(i:Nat) (f:Nat→Nat→Bool),i≤n+1∧iv=.int .i64 i∧Hid (MatO wr Wk.heap.size g cp (n+1) (n+1) ρ γ f∧(∀x y,x≤y→y<n+1→f x y=orF fo (viaF fo k) i 0 x y)∧Below Wk.heap.size Wk wr)) (fun iv _=>n+1-(intOf iv).toNat);case atStart=>exact⟨0,_,Nat.zero_le _,rfl,HM.out,fun x y _ _=>by simp[orF],hb1⟩
   case round=>
    obtain⟨i,f0,hi,rfl,HJ0⟩:=hrel;obtain⟨Wr,hWr⟩:=qE (wr:World);subst hWr;by_cases hlt:i<n+1
    ·have zi:(i:Int)<((n+1:Nat):Int):=by omega
     go_wp2_with fail;go_loopw[7] (fun jv wr=>∃(j:Nat) (f:Nat→Nat→Bool),i≤j∧j≤n+1∧jv=.int .i64 j∧Hid (MatO wr Wk.heap.size g cp (n+1) (n+1) ρ γ f∧(∀x y,x≤y→y<n+1→f x y=orF fo (viaF fo k) i j x y)∧Below Wk.heap.size Wk wr)) (fun jv _=>n+1-(intOf jv).toNat);case atStart=>exact⟨i,f0,Nat.le_refl _,by omega,rfl,HJ0.1,fun x y hxy hy=>by
      rw[HJ0.2.1 x y hxy hy]
      unfold orF
      congr 1
      rw[Bool.eq_iff_iff];simp only[Bool.or_eq_true,Bool.and_eq_true,decide_eq_true_eq,beq_iff_eq];omega,HJ0.2.2⟩
     case round=>
      obtain⟨j,f,hij,hj,rfl,HJ⟩:=hrel;by_cases hlj:j<n+1
      ·have zj:(j:Int)<((n+1:Nat):Int):=by omega
       have hra:=HO.1.below HJ.2.2 (Nat.le_refl _);have c0:wr.cell? ⟨g,i,none⟩=some (slV (ρ i) (n+1) (γ i)):=HJ.1.cell hlt;have c1:wr.cell? ⟨ρ i,j,none⟩=some (.bool (f i j)):=(HJ.1.row i hlt).cell hlj;have z1:wr.frozen? ⟨ρ i,j,none⟩=false:=World.ownsRow.frozenAt (HJ.1.row i hlt) _;have hrc:=(HJ.1.row i hlt).caps;have a0:=hra.out i hlt;have a1:=hra.row i j hlt hlj;have a2:=hra.row i k hlt hlk;have a3:=hra.out k hlk;have a4:=hra.row k j hlk hlj;have hc1:=HO.1.cap i hlt;have hc2:=HO.1.cap k hlk;have HJ2:Hid (∀v:Bool,v=(fo i j || viaF fo k i j)→Hid (MatO (wr.setCell ⟨ρ i,j,none⟩ (.bool v)).drew Wk.heap.size g cp (n+1) (n+1) ρ γ (upd2 f i j v)∧(∀x y,x≤y→y<n+1→upd2 f i j v x y=orF fo (viaF fo k) i (j+1) x y)∧Below Wk.heap.size Wk (wr.setCell ⟨ρ i,j,none⟩ (.bool v)).drew)):=fun v hv=>by
        refine⟨(HJ.1.set hlt hlj v).below ((Below.refl _ _).drew),fun x y hxy hy=>?_,(yAc HJ.2.2 (HJ.1.row i hlt).lt.1 _ _).drew⟩;unfold upd2;by_cases e:x=i∧y=j
        ·rw[if_pos e,hv];simp[orF,e.1,e.2]
        ·rw[if_neg e,HJ.2.1 x y hxy hy];unfold orF;congr 1;rw[Bool.eq_iff_iff];simp only[Bool.or_eq_true,Bool.and_eq_true,decide_eq_true_eq,beq_iff_eq];omega
       obtain⟨ovv,hov⟩:∃ovv,fo i j=ovv:=⟨_,rfl⟩;obtain⟨ikv,hikv⟩:∃ikv,fo i k=ikv:=⟨_,rfl⟩;obtain⟨kjv,hkjv⟩:∃kjv,fo k j=kjv:=⟨_,rfl⟩;have HV:Hid (fo i j=ovv∧fo i k=ikv∧fo k j=kjv):=⟨hov,hikv,hkjv⟩;rw[hov]at a1;rw[hikv]at a2;rw[hkjv]at a4;clear hra hov hikv hkjv c1;have c1:wr.cell? ⟨ρ i,j,none⟩=some (.bool (f i j)):=(HJ.1.row i hlt).cell hlj;go_upto_region 12 with fail;cases ovv
       case true=>
        have hSd:(fun w':World=>w'.cell? ⟨g,i,none⟩=some (slV (ρ i) (n+1) (γ i))∧w'.cell? ⟨go,i,none⟩=some (slV (ρo i) (n+1) (γo i))∧w'.cell? ⟨ρo i,j,none⟩=some (.bool true)∧w'.cell? ⟨ρo i,k,none⟩=some (.bool ikv)∧w'.cell? ⟨go,k,none⟩=some (slV (ρo k) (n+1) (γo k))∧w'.cell? ⟨ρo k,j,none⟩=some (.bool kjv)) wr.drew:=⟨c0,a0,a1,a2,a3,a4⟩;refine yAb 41 (fun w':World=>w'.cell? ⟨g,i,none⟩=some (slV (ρ i) (n+1) (γ i))∧w'.cell? ⟨go,i,none⟩=some (slV (ρo i) (n+1) (γo i))∧w'.cell? ⟨ρo i,j,none⟩=some (.bool true)∧w'.cell? ⟨ρo i,k,none⟩=some (.bool ikv)∧w'.cell? ⟨go,k,none⟩=some (slV (ρo k) (n+1) (γo k))∧w'.cell? ⟨ρo k,j,none⟩=some (.bool kjv)) (by kernel_rfl) ?_;refine j1a 0 hSd ?_;iterate 39 refine j1b hSd ?_
        refine qO 40 rfl fun K hK=>?_;go_simp;refine hK.out _ _ (.inr hSd) ?_;clear hK;refine jS ?_;refine qO 41 rfl fun K hK=>?_;go_simp;refine hK.out _ _ (.inl rfl) ?_;clear hK;refine jS ?_;refine qD ?_;have HJ3:=HJ2.out true (by have h1:=HV.1;have h2:=HV.2.1;have h3:=HV.2.2;unfold viaF;rw[h1];simp);go_wp2_with fail;go_roundw;case rel=>first|exact⟨j+1,by omega,by omega,by go_num,upd2 f i j true,HJ3⟩|exact⟨j+1,upd2 f i j true,by omega,by omega,by go_num,HJ3⟩
        case measure=>simp[intOf];omega
       case false=>
        by_cases hik:i≤k
        ·have hd1:decide ((i:Int)≤(k:Int))=true:=by simp;omega
         by_cases hkj:k≤j
         ·have hd2:decide ((k:Int)≤(j:Int))=true:=by simp;omega
          cases ikv
          case false=>
           have hSd:(fun w':World=>w'.cell? ⟨g,i,none⟩=some (slV (ρ i) (n+1) (γ i))∧w'.cell? ⟨go,i,none⟩=some (slV (ρo i) (n+1) (γo i))∧w'.cell? ⟨ρo i,j,none⟩=some (.bool false)∧w'.cell? ⟨ρo i,k,none⟩=some (.bool false)∧w'.cell? ⟨go,k,none⟩=some (slV (ρo k) (n+1) (γo k))∧w'.cell? ⟨ρo k,j,none⟩=some (.bool kjv)) wr.drew:=⟨c0,a0,a1,a2,a3,a4⟩;refine yAb 41 (fun w':World=>w'.cell? ⟨g,i,none⟩=some (slV (ρ i) (n+1) (γ i))∧w'.cell? ⟨go,i,none⟩=some (slV (ρo i) (n+1) (γo i))∧w'.cell? ⟨ρo i,j,none⟩=some (.bool false)∧w'.cell? ⟨ρo i,k,none⟩=some (.bool false)∧w'.cell? ⟨go,k,none⟩=some (slV (ρo k) (n+1) (γo k))∧w'.cell? ⟨ρo k,j,none⟩=some (.bool kjv)) (by kernel_rfl) ?_;refine j1a 0 hSd ?_;iterate 14 refine j1b hSd ?_
           refine j16a 15 hSd (v:=(.bool true)) ?_;iterate 3 refine j1b hSd ?_
           refine j19a 19 hSd (v:=(.bool true)) ?_;exact zzQ35
          case true=>
           have hSd:(fun w':World=>w'.cell? ⟨g,i,none⟩=some (slV (ρ i) (n+1) (γ i))∧w'.cell? ⟨go,i,none⟩=some (slV (ρo i) (n+1) (γo i))∧w'.cell? ⟨ρo i,j,none⟩=some (.bool false)∧w'.cell? ⟨ρo i,k,none⟩=some (.bool true)∧w'.cell? ⟨go,k,none⟩=some (slV (ρo k) (n+1) (γo k))∧w'.cell? ⟨ρo k,j,none⟩=some (.bool kjv)) wr.drew:=⟨c0,a0,a1,a2,a3,a4⟩;refine yAb 41 (fun w':World=>w'.cell? ⟨g,i,none⟩=some (slV (ρ i) (n+1) (γ i))∧w'.cell? ⟨go,i,none⟩=some (slV (ρo i) (n+1) (γo i))∧w'.cell? ⟨ρo i,j,none⟩=some (.bool false)∧w'.cell? ⟨ρo i,k,none⟩=some (.bool true)∧w'.cell? ⟨go,k,none⟩=some (slV (ρo k) (n+1) (γo k))∧w'.cell? ⟨ρo k,j,none⟩=some (.bool kjv)) (by kernel_rfl) ?_;refine j1a 0 hSd ?_;iterate 14 refine j1b hSd ?_
           refine j16a 15 hSd (v:=(.bool true)) ?_;iterate 3 refine j1b hSd ?_
           refine j19a 19 hSd (v:=(.bool true)) ?_;iterate 20 refine j1b hSd ?_
           refine qO 40 rfl fun K hK=>?_;go_simp;refine hK.out _ _ (.inr hSd) ?_;clear hK;refine jS ?_;refine qO 41 rfl fun K hK=>?_;go_simp;refine hK.out _ _ (.inl rfl) ?_;clear hK;refine jS ?_;refine qD ?_;have HJ3:=HJ2.out kjv (by have h1:=HV.1;have h2:=HV.2.1;have h3:=HV.2.2;unfold viaF;rw[h1,h2,h3];simp[hik,hkj]);go_wp2_with fail;go_roundw;case rel=>first|exact⟨j+1,by omega,by omega,by go_num,upd2 f i j kjv,HJ3⟩|exact⟨j+1,upd2 f i j kjv,by omega,by omega,by go_num,HJ3⟩
           case measure=>simp[intOf];omega
         ·have hd2:decide ((k:Int)≤(j:Int))=false:=by simp;omega
          have hSd:(fun w':World=>w'.cell? ⟨g,i,none⟩=some (slV (ρ i) (n+1) (γ i))∧w'.cell? ⟨go,i,none⟩=some (slV (ρo i) (n+1) (γo i))∧w'.cell? ⟨ρo i,j,none⟩=some (.bool false)∧w'.cell? ⟨ρo i,k,none⟩=some (.bool ikv)∧w'.cell? ⟨go,k,none⟩=some (slV (ρo k) (n+1) (γo k))∧w'.cell? ⟨ρo k,j,none⟩=some (.bool kjv)) wr.drew:=⟨c0,a0,a1,a2,a3,a4⟩;refine yAb 41 (fun w':World=>w'.cell? ⟨g,i,none⟩=some (slV (ρ i) (n+1) (γ i))∧w'.cell? ⟨go,i,none⟩=some (slV (ρo i) (n+1) (γo i))∧w'.cell? ⟨ρo i,j,none⟩=some (.bool false)∧w'.cell? ⟨ρo i,k,none⟩=some (.bool ikv)∧w'.cell? ⟨go,k,none⟩=some (slV (ρo k) (n+1) (γo k))∧w'.cell? ⟨ρo k,j,none⟩=some (.bool kjv)) (by kernel_rfl) ?_;refine j1a 0 hSd ?_;iterate 14 refine j1b hSd ?_
          refine j16a 15 hSd (v:=(.bool true)) ?_;iterate 3 refine j1b hSd ?_
          refine j19a 19 hSd (v:=(.bool false)) ?_;exact zzQ35
        ·have hd1:decide ((i:Int)≤(k:Int))=false:=by simp;omega
         have hSd:(fun w':World=>w'.cell? ⟨g,i,none⟩=some (slV (ρ i) (n+1) (γ i))∧w'.cell? ⟨go,i,none⟩=some (slV (ρo i) (n+1) (γo i))∧w'.cell? ⟨ρo i,j,none⟩=some (.bool false)∧w'.cell? ⟨ρo i,k,none⟩=some (.bool ikv)∧w'.cell? ⟨go,k,none⟩=some (slV (ρo k) (n+1) (γo k))∧w'.cell? ⟨ρo k,j,none⟩=some (.bool kjv)) wr.drew:=⟨c0,a0,a1,a2,a3,a4⟩;refine yAb 41 (fun w':World=>w'.cell? ⟨g,i,none⟩=some (slV (ρ i) (n+1) (γ i))∧w'.cell? ⟨go,i,none⟩=some (slV (ρo i) (n+1) (γo i))∧w'.cell? ⟨ρo i,j,none⟩=some (.bool false)∧w'.cell? ⟨ρo i,k,none⟩=some (.bool ikv)∧w'.cell? ⟨go,k,none⟩=some (slV (ρo k) (n+1) (γo k))∧w'.cell? ⟨ρo k,j,none⟩=some (.bool kjv)) (by kernel_rfl) ?_;refine j1a 0 hSd ?_;iterate 14 refine j1b hSd ?_
         refine j16a 15 hSd (v:=(.bool false)) ?_;iterate 24 refine j1b hSd ?_
         refine qO 40 rfl fun K hK=>?_;go_simp;refine hK.out _ _ (.inr hSd) ?_;clear hK;refine jS ?_;refine qO 41 rfl fun K hK=>?_;go_simp;refine hK.out _ _ (.inl rfl) ?_;clear hK;refine jS ?_;refine qD ?_;have HJ3:=HJ2.out false (by have h1:=HV.1;have h2:=HV.2.1;have h3:=HV.2.2;unfold viaF;rw[h1,h2,h3];simp[hik]);go_wp2_with fail;go_roundw;case rel=>first|exact⟨j+1,by omega,by omega,by go_num,upd2 f i j false,HJ3⟩|exact⟨j+1,upd2 f i j false,by omega,by omega,by go_num,HJ3⟩
         case measure=>simp[intOf];omega
      ·obtain rfl:j=n+1:=by omega
       have zj:¬((n+1:Nat):Int)<((n+1:Nat):Int):=by omega
       have HJ2:Hid (MatO wr Wk.heap.size g cp (n+1) (n+1) ρ γ f∧(∀x y,x≤y→y<n+1→f x y=orF fo (viaF fo k) (i+1) 0 x y)∧Below Wk.heap.size Wk wr):=by refine⟨HJ.1,fun x y hxy hy=>?_,HJ.2.2⟩;rw[HJ.2.1 x y hxy hy];unfold orF;congr 1;rw[Bool.eq_iff_iff];simp only[Bool.or_eq_true,Bool.and_eq_true,decide_eq_true_eq,beq_iff_eq];omega
       go_wp2_with fail;go_roundw;case rel=>first|exact⟨i+1,f,by omega,by go_num,HJ2.out⟩|exact⟨i+1,by omega,by go_num,f,HJ2.out⟩
       case measure=>simp[intOf];omega
    ·obtain rfl:i=n+1:=by omega
     have zi:¬((n+1:Nat):Int)<((n+1:Nat):Int):=by omega
     have HO2:Hid (MatR Wr g (n+1) ρ γ f0∧(∀x y,x≤y→y<n+1→f0 x y=plK fa (k+1) x y)∧Below w.heap.size w Wr):=by
      refine⟨HJ0.1.read,fun x y hxy hy=>?_,HO.2.2.trans (HJ0.2.2.mono HO.2.2.size)⟩;rw[HJ0.2.1 x y hxy hy];have hx:x<n+1:=by omega
      simp only[orF,viaF,plK,hx,decide_true,Bool.true_or,Bool.and_true];rw[HO.2.1 x y hxy hy];by_cases h1:x≤k
      ·by_cases h2:k≤y
       ·rw[HO.2.1 x k h1 hlk,HO.2.1 k y h2 hy]
       ·simp[h2]
      ·simp[h1]
     go_wp2_with fail;go_roundw;case rel=>first|exact⟨k+1,g,cp,ρ,γ,f0,by omega,by go_num,rfl,hcp.1,HO2.out⟩|exact⟨k+1,by omega,by go_num,g,cp,rfl,hcp.1,ρ,γ,f0,HO2.out⟩|exact⟨k+1,g,cp,by omega,by go_num,rfl,hcp.1,ρ,γ,f0,HO2.out⟩
     case measure=>simp[intOf];omega
  ·obtain rfl:k=n+1:=by omega
   have zk:¬((n+1:Nat):Int)<((n+1:Nat):Int):=by omega
   go_wp2_with fail;go_ret;exact⟨go,co,ρo,γo,fo,rfl,hco,⟨HO.1,HO.2.1⟩,HO.2.2⟩
end Go.Proofs.YtkidabedcgngcaaGreatDoor
