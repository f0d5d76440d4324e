import Derived.Test.YtgnpcenpcmdlfaaGreatDoorTkAA
import Derived.Test.YtgnpcenpcmdlfaaGreatDoorTkAE
import Derived.Lib.SlBytesRow
import Derived.Test.YtgnpcenpcmdlfaaGreatDoorTkAB
import Derived.Test.YtgnpcenpcmdlfaaGreatDoorTkAD
import Derived.Test.YtgnpcenpcmdlfaaGreatDoorTkAC
import Derived.WalkLawsBesides
import Derived.Deep.WholeRow
import Derived.Lib.AppendStr
import Derived.Lib.OthersKept
import Derived.Lib.OwnKind
import Derived.Deep.RegionHeld3
namespace Go.Proofs.YtgnpcenpcmdlfaaGreatDoor
open Go.ChangeShapes Go.WideShapes Go.ChangeAt Go.RowKit Go.Deep
set_option linter.unusedVariables false
set_option linter.unusedSimpArgs false
set_option maxRecDepth 100000
set_option maxHeartbeats 32000000
abbrev strL (l:List UInt8):ByteArray:=⟨l.toArray⟩
theorem yMd (l:List UInt8):bl (strL l)=l:=by simp[strL]
theorem yYp (s:ByteArray):strL (bl s)=s:=by cases s;simp[strL]
variable {w:World} {b off:Nat}
theorem yQ1 {xs:List UInt8} (h:yAe w b off xs):Lib.Bytes w b off (strL xs):=by
 intro i hi;have hi':i<xs.length:=by have:(strL xs).size=xs.length:=(by show xs.toArray.size=_;simp);omega
 have h1:=h i xs[i] (List.getElem?_eq_getElem hi');rw[h1];rfl
theorem yDk {xs:List UInt8} (h:yAe w b off xs) (i m c:Nat) (hm:i+m≤xs.length):
  (convert 22 9 (.slice (some ⟨b,off+i,none⟩) m c)).run Tryz.prog w=.ok (.string (strL ((xs.drop i).take m))) w:=by
 have hsz:(strL xs).size=xs.length:=by show xs.toArray.size=_;simp
 have h1:=Lib.run_convert_window (P:=Tryz.prog) w 22 5 9 Tryz.underlying22 Tryz.underlying5 Tryz.underlying9 b off (strL xs) (yQ1 h) i m c (by omega);rw[h1];have h2:(strL xs).extract i (i+m)=strL ((xs.drop i).take m):=by rw[←yYp ((strL xs).extract i (i+m))];congr 1;show((strL xs).extract i (i+m)).data.toList=_;rw[Lib.extract_data,Nat.add_sub_cancel_left]
 rw[h2]
def hexI (b:UInt8):Int:=match hexV b with
 |some v=>(v:Int)
 |none=> -1
theorem yEn (x:UInt8) (w:World):Calls Tryz.prog 88 #[.int .u8 (x.toNat:Int)] w fun e w'=>e=.returned (.int .i64 (hexI x))∧w'=w:=by
 have hx:x.toNat<256:=x.toNat_lt;obtain⟨n,hn⟩:=qE x.toNat;have HX:Hid (hexI x=if 48≤n∧n≤57 then((n-48:Nat):Int)else if 97≤n∧n≤102 then((n-87:Nat):Int)else-1):=by
  show hexI x=_;rw[hn];unfold hexI hexV;by_cases h1:48≤x.toNat∧x.toNat≤57
  ·rw[if_pos h1,if_pos h1]
  ·rw[if_neg h1,if_neg h1];by_cases h2:97≤x.toNat∧x.toNat≤102
   ·rw[if_pos h2,if_pos h2]
   ·rw[if_neg h2,if_neg h2]
 rw[←hn]at hx⊢;clear hn;by_cases h1:48≤n
 ·have z1:(48:Int)≤(n:Int):=by omega
  by_cases h2:n≤57
  ·have z2:(n:Int)≤57:=by omega
   have HE:Hid (hexI x=(n:Int)-48):=by show _=_;rw[HX.out,if_pos ⟨h1,h2⟩];omega
   go_enter Tryz.func88,Tryz.ntmps88;go_wp2_with fail;go_ret;exact⟨by rw[HE.out];rfl,rfl⟩
  ·have z2:¬(n:Int)≤57:=by omega
   by_cases h3:97≤n
   ·have z3:(97:Int)≤(n:Int):=by omega
    by_cases h4:n≤102
    ·have z4:(n:Int)≤102:=by omega
     have HE:Hid (hexI x=(n:Int)-97+10):=by show _=_;rw[HX.out,if_neg (by omega),if_pos ⟨h3,h4⟩];omega
     go_enter Tryz.func88,Tryz.ntmps88;go_wp2_with fail;go_ret;exact⟨by rw[HE.out];rfl,rfl⟩
    ·have z4:¬(n:Int)≤102:=by omega
     exact yXy
   ·have z3:¬(97:Int)≤(n:Int):=by omega
    exact yXy
 ·have z1:¬(48:Int)≤(n:Int):=by omega
  have z3:¬(97:Int)≤(n:Int):=by omega
  exact yXy
theorem yTk (l:List UInt8) (b:UInt8):decV (l++ [b])=10*decV l+(b.toNat-48):=by simp[decV]
theorem yFx:∀(l:List UInt8) (n:Nat),n≤l.foldl (fun n b=>10*n+(b.toNat-48)) n
 | [],n=>Nat.le_refl _
 |b::l,n=>by rw[List.foldl_cons];exact Nat.le_trans (by omega) (yFx l _)
theorem yTj (l:List UInt8) (k:Nat):decV (l.take k)≤decV l:=by
 conv=>rhs;rw[←List.take_append_drop k l]
 unfold decV;rw[List.foldl_append];exact yFx _ _
def DgP (d:List UInt8) (w:World) (e:Ending) (w':World):Prop:=w'=w∧((∃v,numM d=some v∧e=.returned (.tuple #[.bool true,.int .u64 (v:Int)]))∨(numM d=none∧e=.returned (.tuple #[.bool false,.int .u64 0])))
theorem yOj (b off c:Nat) (d:List UInt8) (w:World) (h:yAe w b off d) (hb:b<w.heap.size) (hd:∀x∈d,yA1 x=true) (h0:0<d.length) (hl:d.length≤100000):
  Calls Tryz.prog 53 #[.slice (some ⟨b,off,none⟩) d.length c] w (DgP d w):=by
 have HD:Hid (yAe w b off d∧(∀x∈d,yA1 x=true)):=⟨h,hd⟩;obtain⟨n,hn⟩:=qE d.length;have HN:Hid (n=d.length):=hn;rw[←hn]at h0 hl⊢;obtain⟨x0,hx0⟩:∃x,d[0]?=some x:=⟨_,List.getElem?_eq_getElem (by omega)⟩;have c0:=h 0 x0 hx0;simp only[Nat.add_zero]at c0;have hh:d.head?=some x0:=by rw[←hx0];cases d<;>rfl
 have z0:((n:Int)==0)=false:=by have:¬(n:Int)=0:=(by omega);simpa using this
 have body:¬(1<n∧x0.toNat=48)→Hid (¬(1<d.length∧d.head?=some 48)):=fun q=>by show¬_;rw[←hn,hh];rintro⟨a,e⟩;exact q ⟨a,by cases e;rfl⟩
 have bad:(1<n∧x0.toNat=48)→Hid (numM d=none):=fun q=>by show _=_;unfold numM;rw[if_pos];refine⟨by omega,?_⟩;rw[hh];congr 1;exact UInt8.toNat_inj.1 q.2
 clear hn h hd hx0 hh;have loop:Hid (¬(1<d.length∧d.head?=some 48))→True:=fun _=>trivial;by_cases h1:1<n
 ·have z1:(1:Int)<(n:Int):=by omega
  by_cases h48:x0.toNat=48
  ·have z2:((x0.toNat:Int)==48)=true:=by have:(x0.toNat:Int)=48:=(by omega);simpa using this
   have HB:=bad ⟨h1,h48⟩;clear bad body loop;go_enter Tryz.func53,Tryz.ntmps53;go_wp2_with fail;exact bodyPost_ret (v:=.tuple #[.bool false,.int .u64 0]) (by simp[results,Tryz.results53,go_sem]) rfl ⟨rfl,.inr ⟨HB.out,rfl⟩⟩
  ·have z2:((x0.toNat:Int)==48)=false:=by have:¬(x0.toNat:Int)=48:=(by omega);simpa using this
   have HB:=body (fun q=>h48 q.2);clear bad body loop;go_enter Tryz.func53,Tryz.ntmps53;go_wp2_with fail;clear c0 z0 z1 z2;exact zzQ9
 ·have z1:¬(1:Int)<(n:Int):=by omega
  have HB:=body (fun q=>h1 q.1);clear bad body loop;go_enter Tryz.func53,Tryz.ntmps53;go_wp2_with fail;clear c0 z0 z1;exact zzQ9
theorem yPx (a b:ByteArray):bl (a++b)=bl a++bl b:=by simp[bl,ByteArray.data_append]
def yFi (xs:List Int) (s:Dst):List Nd×Dst:=if((belF xs 14 (filF xs s).2).1==0)=true then limF xs (belF xs 14 (filF xs s).2).2 else((filF xs s).1,(belF xs 14 (filF xs s).2).2)
theorem yJq (xs:List Int) (s:Dst):PrT1 (yFi xs s).1:=by
 unfold yFi;split
 ·exact yVg _ _ (yAm xs (m:=2) (by omega) _)
 ·exact yV4 xs s
def brkF (xs:List Int) (u:Dst):Nat×Dst:=
 if((belF xs 6 (belF xs 2 u).2).1==0)=true then(20+(belF xs 2 (belF xs 6 (belF xs 2 u).2).2).1.toNat,(belF xs 2 (belF xs 6 (belF xs 2 u).2).2).2)else(1+(belF xs 2 u).1.toNat,(belF xs 6 (belF xs 2 u).2).2)
def parF (xs:List Int) (t:List UInt8) (u:Dst):List UInt8×Dst:=
 if((belF xs 5 u).1==0)=true then(List.replicate (brkF xs (belF xs 5 u).2).1 40++t++List.replicate (brkF xs (belF xs 5 u).2).1 41,(brkF xs (belF xs 5 u).2).2)else(t,(belF xs 5 u).2)
def lo2F (xs:List Int) (t:List UInt8) (u:Dst):List UInt8×Dst:=if((belF xs 3 u).1==0)=true then looF xs t (belF xs 3 u).2 else(t,(belF xs 3 u).2)
def wsQ:List ByteArray:= [⟨#[40]⟩,⟨#[41]⟩,⟨#[62]⟩,⟨#[124]⟩,⟨#[44]⟩,⟨#[46,46]⟩,⟨#[46]⟩,⟨#[34]⟩,⟨#[105,102]⟩,⟨#[112,97,115,115]⟩,⟨#[53]⟩,⟨#[48,53]⟩,⟨#[97]⟩,⟨#[92]⟩,⟨#[0]⟩,⟨#[32,118,101,114,115,105,111,110,115,32,48]⟩,⟨#[118,101,114,115,105,111,110,115,32,49,48,48,49]⟩,⟨#[114,111,119,32,34,40,34]⟩,⟨#[113,117,97,108,115,32,34,98,34,46,46,34,98,34]⟩,⟨#[116,115,32,53,46,46,53]⟩,⟨#[116,115,32,46,46,48]⟩,⟨#[34,92,120,52,34]⟩,⟨#[49,56,52,52,54,55,52,52,48,55,51,55,48,57,53,53,49,54,49,54]⟩,⟨#[114,111,119]⟩]
def cutF (xs:List Int) (t:List UInt8) (u:Dst):List UInt8:=
 t.take (belF xs ((t.length:Int)+1) (yDo xs wsQ u).2).1.toNat++bl (yDo xs wsQ u).1++
  (if((belF xs 3 (belF xs ((t.length:Int)+1) (yDo xs wsQ u).2).2).1==0)=true∧(belF xs ((t.length:Int)+1) (yDo xs wsQ u).2).1.toNat<t.length then t.drop ((belF xs ((t.length:Int)+1) (yDo xs wsQ u).2).1.toNat+1)else t.drop (belF xs ((t.length:Int)+1) (yDo xs wsQ u).2).1.toNat)
def yTh (xs:List Int) (t:List UInt8) (u:Dst):List UInt8:=if 2<(belF xs 5 u).1 then t else cutF xs t (belF xs 5 u).2
def txtF (xs:List Int) (t:List UInt8) (u:Dst):List UInt8:=yTh xs (lo2F xs (parF xs t u).1 (parF xs t u).2).1 (lo2F xs (parF xs t u).1 (parF xs t u).2).2
structure TxS (xs:List Int) (u:Dst) (base cb:Nat) (bv:Value) (w:World) (g cp n:Nat) (t:List UInt8) (wr:World):Prop where
 out:WrB wr w.heap.size g cp t
 d:DIF xs u base cb bv w wr
 len:n=t.length
variable {xs:List Int} {u:Dst} {base cb g cp n:Nat} {bv:Value} {w1:World}
theorem TxS.call {ds1:Dst} {t:List UInt8} {wr:World} (h:TxS xs u base cb bv w g cp n t wr) (hd:yBq xs ds1 base cb bv wr w1):TxS xs ds1 base cb bv w g cp n t w1:=
 ⟨h.out.chg hd.2 (by have:=h.out.le;have:=h.d.lt;omega),h.d.call hd,h.len⟩
theorem TxS.below {t:List UInt8} {wr:World} (h:TxS xs u base cb bv w g cp n t wr) (hb:Below wr.heap.size wr w1):TxS xs u base cb bv w g cp n t w1:=
 ⟨h.out.below hb,h.d.below hb,h.len⟩
structure FbI (xs:List Int) (u:Dst) (base cb:Nat) (bv:Value) (w:World) (fb g cp n:Nat) (L:List Nd) (wr:World):Prop where
 box:yA wr w.heap.size 25 1 fb [.slice (some ⟨g,0,none⟩) n cp]
 nds:yAu wr w.heap.size g cp L
 d:DIF xs u base cb bv w wr
 len:n=L.length
 sm:L.length≤1000
theorem FbI.call {ds1:Dst} {fb:Nat} {L:List Nd} {wr:World} (h:FbI xs u base cb bv w fb g cp n L wr) (hd:yBq xs ds1 base cb bv wr w1):FbI xs ds1 base cb bv w fb g cp n L w1:=
 ⟨h.box.chg hd.2 (by have:=h.box.lt;have:=h.d.lt;omega),h.nds.chg hd.2 (by have:=h.nds.lt;have:=h.d.lt;omega),h.d.call hd,h.len,h.sm⟩
def DtP (t:List UInt8) (cb:Nat) (w:World) (e:Ending) (w':World):Prop:=∃g o cp,e=.returned (.slice (some ⟨g,o,none⟩) t.length cp)∧Hid (yAe w' g o t∧g<w'.heap.size∧t.length≤cp∧cp≤maxLen)∧Chg (fun k=>k=cb) w w'
theorem yPw (xs:List Int) (u:Dst):(brkF xs u).1≤21:=by
 have h1:=yAm xs (m:=2) (by omega) u;have h2:=yAm xs (m:=2) (by omega) (belF xs 6 (belF xs 2 u).2).2;unfold brkF;split
 ·simp only;omega
 ·simp only;omega
theorem yNm (xs:List Int) (s:Dst) (base cb:Nat) (bv:Value) (w:World) (h:yA5 xs s base cb bv w) (y:PT) (hy:yHy (yFi xs s).1 y):
  Calls Tryz.prog 44 #[.pointer (some ⟨cb,0,none⟩)] w (DtP (txtF xs y.2 (yFi xs s).2) cb w):=by
 have HP:Hid (PrT1 (yFi xs s).1):=yJq xs s;have HY:Hid (yHy (yFi xs s).1 y):=hy;obtain⟨L,ds3,hL⟩:∃L ds3,yFi xs s=(L,ds3):=⟨_,_,rfl⟩;have HL:Hid (yFi xs s=(L,ds3)):=hL;rw[hL]at HP HY⊢;have HD:Hid (yA5 xs s base cb bv w):=h;obtain⟨t0,ht0⟩:=qE y.2;have HT0:Hid (t0=y.2):=ht0;rw[←ht0];simp only[];obtain⟨R,hR⟩:=qE (txtF xs t0 ds3);have HR:Hid (R=txtF xs t0 ds3):=hR;rw[←hR];clear h hy hL ht0 hR;go_enter Tryz.func44,Tryz.ntmps44;go_wp2_with fail;refine(yQv xs s base cb bv w HD.out).mono ?_;rintro e w1 ⟨g0,cp0,L0,ds1,rfl,E0,hl0,h00,K0⟩;obtain⟨N0,hN0⟩:=qE L0.length;rw[←hN0]at hl0 h00⊢;obtain⟨fb,hfb⟩:=qE w1.heap.size;obtain⟨W2,hW2⟩:=qE (w1.alloc (Obj.cells #[.slice (some ⟨g0,0,none⟩) N0 cp0] 25):World);have H2:Hid (FbI xs ds1 base cb bv w fb g0 cp0 N0 L0 W2):=by
  have hb2:Below w1.heap.size w1 W2:=by rw[hW2];exact qB
  refine⟨by rw[hW2,hfb];exact yAb w1 #[.slice (some ⟨g0,0,none⟩) N0 cp0] K0.out.2.2.c.size rfl,K0.out.2.1.below hb2 K0.out.2.1.lt.2,K0.out.2.2.below hb2,hN0,by omega⟩
 clear K0 hN0 HD;go_upto_region 2 with fail;rw[←hW2,←hfb];clear hW2 hfb;obtain⟨o1,ds2,ho1⟩:∃o1 ds2,belF xs 14 ds1=(o1,ds2):=⟨_,_,rfl⟩;obtain⟨v1,hv1⟩:∃v1,(o1==0)=v1:=⟨_,rfl⟩;have HO1:Hid (belF xs 14 ds1=(o1,ds2)∧(o1==0)=v1):=⟨ho1,hv1⟩;clear ho1 hv1;go_wp2_with fail;refine(yC6 H2.d.d (by omega) (by omega) HO1.1 HO1.2).mono ?_;rintro e w3 ⟨rfl,hd3⟩;have H3:Hid (FbI xs ds2 base cb bv w fb g0 cp0 N0 L0 w3):=H2.call hd3;clear hd3 H2;go_upto_if 12 with fail;go_cut[] (fun wx=>∃g cp n:Nat,n≤1000∧Hid (FbI xs ds3 base cb bv w fb g cp n L wx));case first=>
  rcases(show v1=true∨v1=false by cases v1<;>simp)with rfl|rfl
  ·go_wp2_with fail;refine(ySl xs ds2 base cb bv w3 H3.d.d).mono ?_;rintro e w4 ⟨g4,cp4,L4,ds4,rfl,E4,hl4,h04,K4⟩;obtain⟨N4,hN4⟩:=qE L4.length;rw[←hN4]at hl4 h04⊢;have hbx:yA w4 w.heap.size 25 1 fb [.slice (some ⟨g0,0,none⟩) N0 cp0]:=H3.box.chg K4.out.2.2.c (by have:=H3.box.lt;have:=H3.d.lt;omega);have c4:=hbx.cell (j:=0) rfl;have f4:=hbx.frozen 0;obtain⟨W5,hW5⟩:=qE (w4.setCell ⟨fb,0,none⟩ (.slice (some ⟨g4,0,none⟩) N4 cp4):World);have H5:Hid (FbI xs ds3 base cb bv w fb g4 cp4 N4 L W5):=by
    have e9:yFi xs s=(L4,ds4):=by unfold yFi;rw[E0.out];simp only[];rw[HO1.1];simp only[HO1.2,if_true];exact E4.out
    have e8:=HL.out;rw[e9]at e8;simp only[Prod.mk.injEq]at e8;obtain⟨rfl,rfl⟩:=e8;have hc5:Chg (fun k=>k=fb) w4 W5:=by rw[hW5];exact Chg.of_set _ _ _ _ rfl
    have hs3:=H3.d.c.size;have hfl:=H3.box.lt;have hgl:=K4.out.2.1.lt;have hd4:DIF xs ds4 base cb bv w w4:=⟨K4.out.2.2.d,H3.d.c.trans K4.out.2.2.c,H3.d.lt,H3.d.hb⟩;refine⟨by rw[hW5];exact hbx.set 0 _,(K4.out.2.1.mono (by omega)).chg hc5 (by omega),?_,hN4,by omega⟩;rw[hW5];exact hd4.grow (yEq w4 fb 0 _) (fun k q=>by cases q;exact hfl.1)
   clear K4 hbx hN4;go_wp2_with fail;rw[←hW5];go_meet;exact⟨g4,cp4,N4,hl4,H5.out⟩
  ·go_wp2_with fail;go_meet;refine⟨g0,cp0,N0,by omega,?_⟩;have e9:yFi xs s=(L0,ds2):=by unfold yFi;rw[E0.out];simp only[];rw[HO1.1];simp only[HO1.2];rfl
   have e8:=HL.out;rw[e9]at e8;simp only[Prod.mk.injEq]at e8;obtain⟨rfl,rfl⟩:=e8;exact H3.out
 case rest=>
  obtain⟨g1,cp1,n1,hn1,H6⟩:=hcut;clear H3 E0 HO1;have c6:=H6.box.cell (j:=0) rfl;have htl:t0.length≤410000000:=by have h9:=yKs HY.out HP.2;have h8:=H6.sm;rw[HT0.out];omega
  have HT:Hid (Calls Tryz.prog 41 #[.slice (some ⟨g1,0,none⟩) n1 cp1] wc (TxP t0 wc)):=by have h9:=yOz _ wc g1 0 cp1 L y (Nat.le_refl _) H6.sm ⟨H6.nds.at,H6.nds.lt.2,H6.nds.caps.1,by have:=H6.nds.caps.2;unfold maxLen at this;omega,by have:=H6.sm;omega⟩ HY.out HP.2;rw[←H6.len,←HT0.out]at h9;exact h9
  clear HT0 HY HP;go_wp2_with fail;refine HT.mono ?_;rintro e w7 ⟨g7,cp7,rfl,hW7,hb7⟩;obtain⟨n7,hn7⟩:=qE t0.length;have H7:Hid (TxS xs ds3 base cb bv w g7 cp7 n7 t0 w7):=⟨hW7.mono H6.d.c.size,H6.d.below hb7,hn7⟩;rw[←hn7]at htl⊢;clear hW7 hb7 hn7 HT H6 c6;obtain⟨o2,ds4,ho2⟩:∃o2 ds4,belF xs 5 ds3=(o2,ds4):=⟨_,_,rfl⟩;obtain⟨v2,hv2⟩:∃v2,(o2==0)=v2:=⟨_,rfl⟩;have HO2:Hid (belF xs 5 ds3=(o2,ds4)∧(o2==0)=v2):=⟨ho2,hv2⟩;clear ho2 hv2;obtain⟨t1,ds5,ht1⟩:∃t1 ds5,parF xs t0 ds3=(t1,ds5):=⟨_,_,rfl⟩;have HT1:Hid (parF xs t0 ds3=(t1,ds5)):=ht1;clear ht1;go_wp2_with fail;refine(yC6 H7.d.d (by omega) (by omega) HO2.1 HO2.2).mono ?_;rintro e w8 ⟨rfl,hd8⟩;have H8:Hid (TxS xs ds4 base cb bv w g7 cp7 n7 t0 w8):=H7.call hd8;clear hd8 H7;go_upto_if 19 with fail;go_cut[4] (fun v wx=>∃g cp n:Nat,v=.slice (some ⟨g,0,none⟩) n cp∧n≤410000042∧Hid (TxS xs ds5 base cb bv w g cp n t1 wx));case first=>
   rcases(show v2=true∨v2=false by cases v2<;>simp)with rfl|rfl
   ·obtain⟨k,ua,hk⟩:∃k ua,belF xs 2 ds4=(k,ua):=⟨_,_,rfl⟩;obtain⟨hk0,hk1⟩:0≤k∧k<2:=by have h9:=yAm xs (m:=2) (by omega) ds4;rw[hk]at h9;exact h9
    obtain⟨o3,ub,ho3⟩:∃o3 ub,belF xs 6 ua=(o3,ub):=⟨_,_,rfl⟩;obtain⟨v3,hv3⟩:∃v3,(o3==0)=v3:=⟨_,rfl⟩;obtain⟨m,uc,hm⟩:∃m uc,brkF xs ds4=(m,uc):=⟨_,_,rfl⟩;have hmb:m≤21:=by have h9:=yPw xs ds4;rw[hm]at h9;exact h9
    have HK:Hid (belF xs 2 ds4=(k,ua)∧belF xs 6 ua=(o3,ub)∧(o3==0)=v3∧brkF xs ds4=(m,uc)):=⟨hk,ho3,hv3,hm⟩;clear hk ho3 hv3 hm;have HE:Hid (t1=List.replicate m 40++t0++List.replicate m 41∧ds5=uc):=by have h9:=HT1.out;unfold parF at h9;simp only[HO2.1,HO2.2,if_true,HK.2.2.2,Prod.mk.injEq]at h9;exact⟨h9.1.symm,h9.2.symm⟩
    go_wp2_with fail;refine(yAr H8.d.d (by omega) (by omega) HK.1).mono ?_;rintro e w9 ⟨rfl,hd9⟩;have H9:Hid (TxS xs ua base cb bv w g7 cp7 n7 t0 w9):=H8.call hd9;clear hd9 H8;go_wp2_with fail;refine(yC6 H9.d.d (by omega) (by omega) HK.2.1 HK.2.2.1).mono ?_;rintro e wA ⟨rfl,hdA⟩;have HA:Hid (TxS xs ub base cb bv w g7 cp7 n7 t0 wA):=H9.call hdA;clear hdA H9;go_upto_if 24 with fail;go_cut[5] (fun v wx=>v=.int .i64 (m:Int)∧Hid (TxS xs uc base cb bv w g7 cp7 n7 t0 wx));case first=>
     rcases(show v3=true∨v3=false by cases v3<;>simp)with rfl|rfl
     ·obtain⟨k2,ud,hk2⟩:∃k2 ud,belF xs 2 ub=(k2,ud):=⟨_,_,rfl⟩;obtain⟨hk20,hk21⟩:0≤k2∧k2<2:=by have h9:=yAm xs (m:=2) (by omega) ub;rw[hk2]at h9;exact h9
      have HK2:Hid (belF xs 2 ub=(k2,ud)):=hk2;clear hk2;go_wp2_with fail;refine(yAr HA.d.d (by omega) (by omega) HK2.out).mono ?_;rintro e wB ⟨rfl,hdB⟩;have HB:Hid (TxS xs ud base cb bv w g7 cp7 n7 t0 wB):=HA.call hdB;clear hdB HA;go_wp2_with fail;go_meet;have h9:=HK.2.2.2;unfold brkF at h9;simp only[HK.1,HK.2.1,HK.2.2.1,HK2.out,if_true,Prod.mk.injEq]at h9;refine⟨?_,?_⟩
      ·rw[←h9.1,show((20+k2.toNat:Nat):Int)=20+k2 by omega]
      ·rw[←h9.2];exact HB.out
     ·go_wp2_with fail;go_meet;have h9:=HK.2.2.2;unfold brkF at h9;simp only[HK.1,HK.2.1,HK.2.2.1,Bool.false_eq_true,if_false,Prod.mk.injEq]at h9;refine⟨?_,?_⟩
      ·rw[←h9.1,show((1+k.toNat:Nat):Int)=1+k by omega]
      ·rw[←h9.2];exact HA.out
    case rest=>
     obtain⟨rfl,HC⟩:=hcut;clear HA;have HM1:Hid (∀wz,Calls Tryz.prog 42 #[.string ⟨#[40]⟩,.int .i64 (m:Int)] wz fun e w'=>e=.returned (.string ⟨(List.replicate m 40).toArray⟩)∧Below wz.heap.size wz w'):=fun wz=>yIt 40 m wz (by omega);have HM2:Hid (∀wz,Calls Tryz.prog 42 #[.string ⟨#[41]⟩,.int .i64 (m:Int)] wz fun e w'=>e=.returned (.string ⟨(List.replicate m 41).toArray⟩)∧Below wz.heap.size wz w'):=fun wz=>yIt 41 m wz (by omega);obtain⟨A1,hA1⟩:=qE (⟨(List.replicate m 40).toArray⟩:ByteArray);obtain⟨A2,hA2⟩:=qE (⟨(List.replicate m 41).toArray⟩:ByteArray);obtain⟨A0,hA0⟩:=qE (strL t0:ByteArray);rw[←hA1]at HM1;rw[←hA2]at HM2;have z1:A1.size=m:=by rw[hA1,yJ4];simp
     have z2:A2.size=m:=by rw[hA2,yJ4];simp
     have z0:A0.size=n7:=by rw[hA0,HC.len];show t0.toArray.size=_;simp
     have HBL:Hid (bl (A1++A0++A2)=t1):=by show _=_;rw[HE.1,yPx,yPx,hA1,hA2,hA0,yMd]
     have HA0:Hid (A0=strL t0):=hA0;have q1:¬9223372036854775807<A1.size+A0.size:=by omega
     have q2:¬9223372036854775807<A1.size+A0.size+A2.size:=by omega
     have q3:(A1++A0++A2).size=m+n7+m:=by rw[yBk,yBk];omega
     have HQ3:Hid ((A1++A0++A2).size=m+n7+m):=q3;have q4:m+n7+m≤2^30:=by omega
     clear hA1 hA2 hA0 z1 z2 z0 q3;go_upto_region 9 with fail;have hS0:(fun wz:World=>yAe wz g7 0 t0) wc.drew:=(HC.below ((Below.refl _ _).drew)).out.at_;have HCd:Hid (TxS xs uc base cb bv w g7 cp7 n7 t0 wc.drew):=HC.below ((Below.refl _ _).drew);clear HC;refine yCa 99 (fun wz:World=>yAe wz g7 0 t0) (by kernel_rfl) ?_;refine j1a 0 hS0 ?_;refine j1a 2 hS0 ?_;refine qT 3 (.string A0) rfl ?yp3 hS0 ?_;case yp3=>(intro wz hSw;have hcv:=yDk hSw 0 n7 cp7 (by rw[HCd.len];omega);rw[show(t0.drop 0).take n7=t0 by rw[HCd.len];simp,←HA0.out]at hcv;go_simp;(try with_reducible rfl))
     try simp only[qA,List.getElem_toArray,List.getElem_cons_zero,List.getElem_cons_succ]
     refine j1a 5 hS0 ?_;refine qO 1 rfl fun K hK=>?_;go_simp;refine(HM1.out _).mono ?_;rintro e wa ⟨rfl,hba⟩;have HCa:Hid (TxS xs uc base cb bv w g7 cp7 n7 t0 wa):=HCd.below hba;clear hS0 hba;have hS0:(fun wz:World=>yAe wz g7 0 t0) wa:=HCa.out.out.at_;refine hK.out _ _ (.inr hS0) ?_;clear hK;refine jS ?_;refine j1a 4 hS0 ?_;refine qO 6 rfl fun K hK=>?_;go_simp;refine(HM2.out _).mono ?_;rintro e wb ⟨rfl,hbb⟩;have HCb:Hid (TxS xs uc base cb bv w g7 cp7 n7 t0 wb):=HCa.below hbb;clear hS0 hbb;have hS0:(fun wz:World=>yAe wz g7 0 t0) wb:=HCb.out.out.at_;refine hK.out _ _ (.inr hS0) ?_;clear hK;refine jS ?_;refine j1a 7 hS0 ?_;obtain⟨A9,hA9⟩:=qE (A1++A0++A2);rw[←hA9]at HBL HQ3;try rw[←hA9]
     clear hA9;obtain⟨W9,hW9⟩:=qE (Lib.bytesWorld wb 5 A9);obtain⟨cp9,hcp9⟩:=qE (grownCap wb A9.size 0 5);have hcv:Sem.run Tryz.prog (convert 9 22 (.string A9)) wb=.ok (.slice (some ⟨wb.heap.size,0,none⟩) (m+n7+m) cp9) W9:=by rw[hW9,hcp9,←HQ3.out];exact Lib.run_convert_string_bytes (P:=Tryz.prog) wb 9 22 5 A9 Tryz.underlying9 Tryz.underlying22 Tryz.underlying5
     have H9:Hid (TxS xs uc base cb bv w wb.heap.size cp9 (m+n7+m) t1 W9∧yAe W9 g7 0 t0):=by have hbb:=yCy wb A9;rw[←hW9]at hbb;have h9:=(yG1 wb A9 (by rw[HQ3.out];exact q4)).mono (base':=w.heap.size) HCb.d.c.size;rw[←hW9,←hcp9,HBL.out]at h9;exact⟨⟨h9,HCb.d.below hbb,by rw[←HBL.out,yBb,HQ3.out]⟩,(HCb.below hbb).out.at_⟩
     clear hW9 hcp9;refine qO 8 rfl fun K hK=>?_;go_simp;clear hS0;have hS0:(fun wz:World=>yAe wz g7 0 t0) W9:=H9.2;refine hK.out _ _ (.inr hS0) ?_;clear hK;refine jS ?_;refine j1a 9 hS0 ?_;refine qD ?_;go_wp2_with fail;go_meet;exact⟨_,cp9,m+n7+m,rfl,by omega,by rw[HE.2];exact H9.1⟩
   ·go_wp2_with fail;go_meet;refine⟨g7,cp7,n7,rfl,by omega,?_⟩;have h9:=HT1.out;unfold parF at h9;simp only[HO2.1,HO2.2,Bool.false_eq_true,if_false,Prod.mk.injEq]at h9;rw[←h9.1,←h9.2];exact H8.out
  case rest=>
   obtain⟨g1,cp1,n1,rfl,hn1,H1⟩:=hcut;clear H8;obtain⟨o4,ds6,ho4⟩:∃o4 ds6,belF xs 3 ds5=(o4,ds6):=⟨_,_,rfl⟩;obtain⟨v4,hv4⟩:∃v4,(o4==0)=v4:=⟨_,rfl⟩;have HO4:Hid (belF xs 3 ds5=(o4,ds6)∧(o4==0)=v4):=⟨ho4,hv4⟩;clear ho4 hv4;obtain⟨t2,ds7,ht2⟩:∃t2 ds7,lo2F xs t1 ds5=(t2,ds7):=⟨_,_,rfl⟩;have HT2:Hid (lo2F xs t1 ds5=(t2,ds7)):=ht2;clear ht2;go_wp2_with fail;refine(yC6 H1.d.d (by omega) (by omega) HO4.1 HO4.2).mono ?_;rintro e w2 ⟨rfl,hd2⟩;have H2:Hid (TxS xs ds6 base cb bv w g1 cp1 n1 t1 w2):=H1.call hd2;clear hd2 H1;go_upto_if 38 with fail;go_cut[4] (fun v wx=>∃g cp n:Nat,v=.slice (some ⟨g,0,none⟩) n cp∧n≤820000084∧Hid (TxS xs ds7 base cb bv w g cp n t2 wx));case first=>
    rcases(show v4=true∨v4=false by cases v4<;>simp)with rfl|rfl
    ·have HE:Hid (looF xs t1 ds6=(t2,ds7)):=by have h9:=HT2.out;unfold lo2F at h9;simp only[HO4.1,HO4.2,if_true]at h9;exact h9
     have HLo:Hid (Calls Tryz.prog 85 #[.pointer (some ⟨cb,0,none⟩),.slice (some ⟨g1,0,none⟩) n1 cp1] w2 (LoP xs t2 ds7 base cb bv w2)):=ySj xs ds6 base cb bv t1 g1 0 cp1 n1 w2 H2.d.d H2.out.out.at_ H2.len (by omega) ⟨H2.out.out.lt,by have:=H2.out.out.le;have:=H2.d.lt;omega⟩ HE.out;go_wp2_with fail;refine HLo.mono ?_;rintro e w3 ⟨g3,cp3,rfl,hW3,hD3⟩;have hl3:t2.length≤2*n1:=by have h8:=yLq xs t1 ds6 t1.length;have h9:=HE.out;unfold looF at h9;simp only[Prod.mk.injEq]at h9;rw[h9.1,←H2.len]at h8;exact h8
     have H3:Hid (TxS xs ds7 base cb bv w g3 cp3 t2.length t2 w3):=⟨hW3.mono H2.d.c.size,⟨hD3.d,H2.d.c.trans hD3.c,H2.d.lt,H2.d.hb⟩,rfl⟩;obtain⟨n3,hn3⟩:=qE t2.length;rw[←hn3]at H3 hl3⊢;clear hW3 hD3 hn3 HLo;go_wp2_with fail;go_meet;exact⟨g3,cp3,n3,rfl,by omega,H3.out⟩
    ·go_wp2_with fail;go_meet;refine⟨g1,cp1,n1,rfl,by omega,?_⟩;have h9:=HT2.out;unfold lo2F at h9;simp only[HO4.1,HO4.2,Bool.false_eq_true,if_false,Prod.mk.injEq]at h9;rw[←h9.1,←h9.2];exact H2.out
   case rest=>
    obtain⟨g4,cp4,n4,rfl,hn4,H4⟩:=hcut;clear H2;have HR2:Hid (R=yTh xs t2 ds7):=by show _=_;rw[HR.out];unfold txtF;rw[HT1.out];simp only[];rw[HT2.out]
    clear HR HT1 HT2 HO4 HO2;obtain⟨k5,ds8',hk5⟩:∃k5 ds8',belF xs 5 ds7=(k5,ds8'):=⟨_,_,rfl⟩;obtain⟨hk50,hk51⟩:0≤k5∧k5<5:=by have h9:=yAm xs (m:=5) (by omega) ds7;rw[hk5]at h9;exact h9
    have HK5:Hid (belF xs 5 ds7=(k5,ds8')):=hk5;clear hk5;go_wp2_with fail;refine(yAr H4.d.d (by omega) (by omega) HK5.out).mono ?_;rintro e w5 ⟨rfl,hd5⟩;have H5:Hid (TxS xs ds8' base cb bv w g4 cp4 n4 t2 w5):=H4.call hd5;clear hd5 H4;by_cases hk2:2<k5
    ·have HRt:Hid (R=t2):=by show _=_;rw[HR2.out];unfold yTh;rw[HK5.out];simp only[];rw[if_pos hk2]
     go_wp2_with fail;go_ret;refine⟨g4,0,cp4,?_,?_,H5.d.c⟩
     ·rw[HRt.out,←H5.len];first|rfl|skip
     ·rw[HRt.out];exact⟨H5.out.out.at_,H5.out.out.lt,H5.out.out.len,H5.out.out.cap⟩
    ·have HRt:Hid (R=cutF xs t2 ds8'):=by show _=_;rw[HR2.out];unfold yTh;rw[HK5.out];simp only[];rw[if_neg hk2]
     clear HR2 HK5;obtain⟨q,ds9,hq⟩:∃q ds9,yDo xs wsQ ds8'=(q,ds9):=⟨_,_,rfl⟩;have hqs:q.size≤20:=(show∀t∈wsQ,t.size≤20 by decide) _ (by have h9:=yDn xs (ws:=wsQ) (by decide) ds8';rw[hq]at h9;exact h9);obtain⟨a,uA,ha⟩:∃a uA,belF xs ((t2.length:Int)+1) ds9=(a,uA):=⟨_,_,rfl⟩;obtain⟨ha0,ha1⟩:0≤a∧a<(t2.length:Int)+1:=by have h9:=yAm xs (m:=(t2.length:Int)+1) (by omega) ds9;rw[ha]at h9;exact h9
     obtain⟨at9,rfl⟩:∃k:Nat,a=(k:Int):=⟨a.toNat,by omega⟩;obtain⟨o6,uB,ho6⟩:∃o6 uB,belF xs 3 uA=(o6,uB):=⟨_,_,rfl⟩;obtain⟨v6,hv6⟩:∃v6,(o6==0)=v6:=⟨_,rfl⟩;have hat9:at9≤n4:=by rw[H5.len];omega
     have HQ:Hid (yDo xs wsQ ds8'=(q,ds9)∧belF xs ((n4:Int)+1) ds9=((at9:Int),uA)∧belF xs 3 uA=(o6,uB)∧(o6==0)=v6):=⟨hq,by rw[H5.len];exact ha,ho6,hv6⟩;obtain⟨rs,hrs⟩:=qE (if v6=true∧at9<t2.length then t2.drop (at9+1)else t2.drop at9);have HRs:Hid (R=t2.take at9++bl q++rs∧rs=if v6=true∧at9<t2.length then t2.drop (at9+1)else t2.drop at9):=⟨by rw[HRt.out];unfold cutF;simp only[hq,ha,ho6,hv6,Int.toNat_natCast];rw[hrs],hrs⟩;clear hq ha ho6 hv6 hrs ha0 ha1 HRt;have hcl:=H5.d.d.lt.2;go_wp2_with fail;refine(yJ (ws:=wsQ) (H5.d.d.below (qB)) (by decide) (by decide) (by omega) (by simp) ?_ HQ.1).mono ?_
     ·intro k t ht;have hkl:k<24:=(List.getElem?_eq_some_iff.1 ht).1;match k,hkl,ht with
      |0,_,ht=>simp[wsQ]at ht;subst ht;simp
      |1,_,ht=>simp[wsQ]at ht;subst ht;simp
      |2,_,ht=>simp[wsQ]at ht;subst ht;simp
      |3,_,ht=>simp[wsQ]at ht;subst ht;simp
      |4,_,ht=>simp[wsQ]at ht;subst ht;simp
      |5,_,ht=>simp[wsQ]at ht;subst ht;simp
      |6,_,ht=>simp[wsQ]at ht;subst ht;simp
      |7,_,ht=>simp[wsQ]at ht;subst ht;simp
      |8,_,ht=>simp[wsQ]at ht;subst ht;simp
      |9,_,ht=>simp[wsQ]at ht;subst ht;simp
      |10,_,ht=>simp[wsQ]at ht;subst ht;simp
      |11,_,ht=>simp[wsQ]at ht;subst ht;simp
      |12,_,ht=>simp[wsQ]at ht;subst ht;simp
      |13,_,ht=>simp[wsQ]at ht;subst ht;simp
      |14,_,ht=>simp[wsQ]at ht;subst ht;simp
      |15,_,ht=>simp[wsQ]at ht;subst ht;simp
      |16,_,ht=>simp[wsQ]at ht;subst ht;simp
      |17,_,ht=>simp[wsQ]at ht;subst ht;simp
      |18,_,ht=>simp[wsQ]at ht;subst ht;simp
      |19,_,ht=>simp[wsQ]at ht;subst ht;simp
      |20,_,ht=>simp[wsQ]at ht;subst ht;simp
      |21,_,ht=>simp[wsQ]at ht;subst ht;simp
      |22,_,ht=>simp[wsQ]at ht;subst ht;simp
      |23,_,ht=>simp[wsQ]at ht;subst ht;simp
     rintro e w6 ⟨rfl,hd6⟩;have H6:Hid (TxS xs ds9 base cb bv w g4 cp4 n4 t2 w6):=(H5.below (qB)).call hd6;clear hd6 H5 hcl;have hn4i:(n4:Int)+1≤4611686018427387904:=by omega
     have HBg:Hid (Calls Tryz.prog 43 #[.pointer (some ⟨cb,0,none⟩),.int .i64 ((n4:Int)+1)] w6 fun e w'=>e=.returned (.int .i64 (at9:Int))∧yBq xs uA base cb bv w6 w'):=yTn H6.d.d (by omega) hn4i HQ.2.1;clear hn4i;go_wp2_with fail;refine HBg.mono ?_;rintro e w7 ⟨rfl,hd7⟩;have H7:Hid (TxS xs uA base cb bv w g4 cp4 n4 t2 w7):=H6.call hd7;clear hd7 H6 HBg;have hnc:n4≤cp4:=by have:=H7.out.out.len;have:=H7.len;omega
     have hcm:cp4≤9223372036854775807:=by have:=H7.out.out.cap;unfold maxLen at this;omega
     have z1:(at9:Int)≤(n4:Int):=by omega
     go_upto_region 17 with fail;obtain⟨oa,hoa,hob⟩:∃oa,(if cp4=at9 then some (⟨g4,0,none⟩:Addr)else some ⟨g4,at9,none⟩)=some ⟨g4,oa,none⟩∧(n4-at9=0∨oa=at9)∧oa≤at9:=by
      by_cases hq:cp4=at9
      ·exact⟨0,by rw[if_pos hq],.inl (by omega),by omega⟩
      ·exact⟨at9,by rw[if_neg hq],.inr rfl,by omega⟩
     rw[hoa];have HOB:Hid ((n4-at9=0∨oa=at9)∧oa≤at9):=hob;clear hoa hob;obtain⟨vb,hvb⟩:=qE ((v6 && decide (at9<n4)));have HVB:Hid (vb=(v6 && decide (at9<n4))):=hvb;clear hvb;go_cut[63] (fun v wx=>v=.bool vb∧Hid (TxS xs uB base cb bv w g4 cp4 n4 t2 wx));case first=>
      go_wp2_with fail;refine(yC6 H7.d.d (by omega) (by omega) HQ.2.2.1 HQ.2.2.2).mono ?_;rintro e w8 ⟨rfl,hd8⟩;have H8:Hid (TxS xs uB base cb bv w g4 cp4 n4 t2 w8):=H7.call hd8;clear hd8;by_cases hlt:at9<n4
      ·have z3:(0:Int)<((n4-at9:Nat):Int):=by omega
       exact zzQ58
      ·have z3:¬(0:Int)<((n4-at9:Nat):Int):=by omega
       exact zzQ58
     case rest=>
     obtain⟨rfl,H8⟩:=hcut;clear H7;have HW8:Hid (wc=wc):=rfl;go_upto_if 63 with fail;go_cut[8] (fun v wx=>∃ob lb cb9:Nat,v=.slice (some ⟨g4,ob,none⟩) lb cb9∧lb≤n4∧Hid (ob+lb≤n4∧(t2.drop ob).take lb=rs∧TxS xs uB base cb bv w g4 cp4 n4 t2 wx));case first=>
      have fin1:¬(v6=true∧at9<t2.length)→∃ob lb cb9:Nat,Value.slice (some ⟨g4,oa,none⟩) (n4-at9) (cp4-at9)=.slice (some ⟨g4,ob,none⟩) lb cb9∧lb≤n4∧Hid (ob+lb≤n4∧(t2.drop ob).take lb=rs∧TxS xs uB base cb bv w g4 cp4 n4 t2 wc):=fun hh=>by
       have e9:=HRs.2;rw[if_neg hh]at e9;have hl:=H8.len;have h8:=HOB.2;refine⟨oa,n4-at9,cp4-at9,rfl,by omega,by omega,?_,H8.out⟩;rcases HOB.1 with q|q
       ·have e7:t2.drop at9= []:=List.drop_eq_nil_of_le (by omega);rw[q,e9,e7];simp
       ·subst q;rw[e9];exact List.take_of_length_le (by rw[List.length_drop];omega)
      have HF1:Hid (¬(v6=true∧at9<t2.length)→∃ob lb cb9:Nat,Value.slice (some ⟨g4,oa,none⟩) (n4-at9) (cp4-at9)=.slice (some ⟨g4,ob,none⟩) lb cb9∧lb≤n4∧Hid (ob+lb≤n4∧(t2.drop ob).take lb=rs∧TxS xs uB base cb bv w g4 cp4 n4 t2 wc)):=fin1;clear fin1;have HVi:Hid (vb=true↔(v6=true∧at9<t2.length)):=by show _↔_;rw[HVB.out,←H8.len];simp
      rcases(show vb=true∨vb=false by cases vb<;>simp)with rfl|rfl
      ·have hlt:at9<n4:=by have:=(HVi.1 rfl).2;rw[H8.len];exact this
       have hoa9:oa=at9:=HOB.1.resolve_left (by omega);subst hoa9;have z4:(1:Int)≤((n4-oa:Nat):Int):=by omega
       have z5:1≤n4-oa:=by omega
       have HQ9:Hid (rs=t2.drop (oa+1)∧n4=t2.length):=by have e9:=HRs.2;rw[if_pos (HVi.1 rfl)]at e9;exact⟨e9,H8.len⟩
       by_cases hq1:cp4-oa=1
       ·go_wp2_with fail;go_meet;refine⟨oa,n4-oa-1,cp4-oa-1,?_,by omega,by omega,?_,H8.out⟩
        ·first|rfl|simp[hq1]
        ·have e7:t2.drop (oa+1)= []:=List.drop_eq_nil_of_le (by have:=HQ9.2;omega);rw[HQ9.1,show n4-oa-1=0 by omega,e7];simp
       ·go_wp2_with fail;go_meet;refine⟨oa+1,n4-oa-1,cp4-oa-1,?_,by omega,by omega,?_,H8.out⟩
        ·first|rfl|simp[hq1]
        ·rw[HQ9.1];exact List.take_of_length_le (by rw[List.length_drop,←HQ9.2];omega)
      ·have HX:=HF1.out (fun q=>by have:=HVi.2 q;cases this);go_wp2_with fail;go_meet;exact HX
     case rest=>
      obtain⟨ob,lb,cb9,rfl,hlb,H9⟩:=hcut;clear H8 HOB HVB;obtain⟨A1,hA1⟩:=qE (strL (t2.take at9):ByteArray);obtain⟨A2,hA2⟩:=qE (strL rs:ByteArray);have HN9:Hid (n4=t2.length∧at9≤n4∧A1=strL (t2.take at9)∧A2=strL rs):=⟨H9.2.2.len,hat9,hA1,hA2⟩;have q1a:A1.size≤n4:=by rw[hA1,H9.2.2.len];show(t2.take at9).toArray.size≤_;simp;omega
      have q2a:A2.size≤n4:=by rw[hA2,←H9.2.1];show((t2.drop ob).take lb).toArray.size≤_;simp;omega
      have q1:¬9223372036854775807<A1.size+q.size:=by omega
      have q2:¬9223372036854775807<A1.size+q.size+A2.size:=by omega
      have HBL:Hid (bl (A1++q++A2)=R):=by show _=_;rw[HRs.1,yPx,yPx,hA1,hA2,yMd,yMd]
      have HSZ:Hid ((A1++q++A2).size≤2^30):=by
       show _≤_;have h9:(A1++q++A2).size≤n4+20+n4:=by rw[yBk,yBk];omega
       have h8:(A1++q++A2).size≤n4+21:=by
        have e1:(A1++q++A2).size=R.length:=by rw[←HBL.out,yBb]
        rw[e1,HRs.1];have e2:=HRs.2;have e3:=H9.2.2.len;simp only[List.length_append,List.length_take,yBb];split at e2
        ·rw[e2,List.length_drop];omega
        ·rw[e2,List.length_drop];omega
       omega
      clear hA1 hA2 q1a q2a HRs;have z1:(at9:Int)≤(cp4:Int):=by omega
      go_upto_region 19 with fail;have hS0:(fun wz:World=>yAe wz g4 0 t2) wc.drew:=(H9.2.2.below ((Below.refl _ _).drew)).out.at_;have HCd:Hid (TxS xs uB base cb bv w g4 cp4 n4 t2 wc.drew∧ob+lb≤n4∧(t2.drop ob).take lb=rs):=⟨H9.2.2.below ((Below.refl _ _).drew),H9.1,H9.2.1⟩;clear H9;refine yCa 99 (fun wz:World=>yAe wz g4 0 t2) (by kernel_rfl) ?_;refine j1a 0 hS0 ?_;iterate 2 refine j1b hS0 ?_
      refine qT 3 (.string A1) rfl ?yz3 hS0 ?_;case yz3=>(intro wz hSw;have hcv:=yDk hSw 0 at9 cp4 (by have:=HN9.1;have:=HN9.2.1;omega);rw[List.drop_zero,←HN9.2.2.1]at hcv;go_simp;(try with_reducible rfl))
      try simp only[qA,List.getElem_toArray,List.getElem_cons_zero,List.getElem_cons_succ]
      iterate 3 refine j1b hS0 ?_
      refine qT 7 (.string A2) rfl ?yz7 hS0 ?_;case yz7=>(intro wz hSw;have hcv:=yDk hSw ob lb cb9 (by have:=HN9.1;have:=HCd.2.1;omega);rw[HCd.2.2,←HN9.2.2.2,Nat.zero_add]at hcv;go_simp;(try with_reducible rfl))
      try simp only[qA,List.getElem_toArray,List.getElem_cons_zero,List.getElem_cons_succ]
      refine j1b hS0 ?_;obtain⟨A9,hA9⟩:=qE (A1++q++A2);rw[←hA9]at HBL HSZ;try rw[←hA9]
      clear hA9;obtain⟨W9,hW9⟩:=qE (Lib.bytesWorld wc.drew 5 A9);obtain⟨cp9,hcp9⟩:=qE (grownCap wc.drew A9.size 0 5);have hcv:Sem.run Tryz.prog (convert 9 22 (.string A9)) wc.drew=.ok (.slice (some ⟨wc.drew.heap.size,0,none⟩) A9.size cp9) W9:=by rw[hW9,hcp9];exact Lib.run_convert_string_bytes (P:=Tryz.prog) wc.drew 9 22 5 A9 Tryz.underlying9 Tryz.underlying22 Tryz.underlying5
      have H10:Hid (DtP R cb w (.returned (.slice (some ⟨wc.drew.heap.size,0,none⟩) A9.size cp9)) W9∧yAe W9 g4 0 t2):=by have hbb:=yCy wc.drew A9;rw[←hW9]at hbb;have h9:=yG1 wc.drew A9 HSZ.out;rw[←hW9,←hcp9,HBL.out]at h9;exact⟨⟨wc.drew.heap.size,0,cp9,by rw[←HBL.out,yBb],⟨h9.at_,h9.lt,h9.len,h9.cap⟩,(HCd.1.d.below hbb).c⟩,(HCd.1.below hbb).out.at_⟩
      clear hW9 hcp9;refine qO 9 rfl fun K hK=>?_;go_simp;clear hS0;have hS0:(fun wz:World=>yAe wz g4 0 t2) W9:=H10.2;refine hK.out _ _ (.inr hS0) ?_;clear hK;refine jS ?_;refine j1a 10 hS0 ?_;refine qD ?_;go_wp2_with fail;go_ret;exact H10.1
def yC3 (x y:Int):Int:=bits BinOp.and IntKind.i64 (wrap64 (wrap64 (wrap64 (x*131)+y)+7)) 1073741823
def hshF (xs:List Int):Nat→Int
 |0=>54321+(xs.length:Int)
 |k+1=>yC3 (hshF xs k) (xs[k]?.getD 0)
def newF (xs:List Int):Dst:=⟨0,hshF xs xs.length⟩
theorem ySg (h:yG0 xs w w.heap.size bv):
  Calls Tryz.prog 31 #[bv] w fun e w'=>e=.returned (.pointer (some ⟨w.heap.size,0,none⟩))∧yA5 xs (newF xs) w.heap.size w.heap.size bv w'∧Below w.heap.size w w':=by
 have HC:Hid (yG0 xs w w.heap.size bv):=h;have hn:=h.1;have fin:yA5 xs (newF xs) w.heap.size w.heap.size bv (w.alloc (Obj.cells #[bv,.int .i64 0,.int .i64 (hshF xs xs.length)] 109))∧Below w.heap.size w (w.alloc (Obj.cells #[bv,.int .i64 0,.int .i64 (hshF xs xs.length)] 109)):=by have hb:Below w.heap.size w (w.alloc (Obj.cells #[bv,.int .i64 0,.int .i64 (hshF xs xs.length)] 109)):=qB;refine⟨⟨?_,HC.chg (T:=fun _=>False) (Chg.of_below hb) (Nat.le_refl _) (fun k q=>q.elim),hb.size,Nat.zero_le _⟩,hb⟩;exact World.ownsRow_lit (base:=w.heap.size) (e:=109) (size:=3) w #[bv,.int .i64 0,.int .i64 (hshF xs xs.length)] 1 (Nat.le_refl _) (by decide) rfl
 obtain⟨H9,hH9⟩:=qE (hshF xs xs.length);rw[←hH9]at fin;have HF:Hid (yA5 xs (newF xs) w.heap.size w.heap.size bv (w.alloc (Obj.cells #[bv,.int .i64 0,.int .i64 H9] 109))∧Below w.heap.size w (w.alloc (Obj.cells #[bv,.int .i64 0,.int .i64 H9] 109))):=fin;clear fin;rcases h.2 with⟨a,cap,rfl,rfl⟩|⟨b,off,cap,rfl,hlt,hx⟩
 ·have HZ:Hid (H9=54321):=by show _=_;rw[hH9];rfl
  clear hH9 h;go_enter Tryz.func31,Tryz.ntmps31;go_wp2_with fail;go_loopw[3,4] (fun h i wr=>h=.int .i64 H9∧i=.int .i64 0∧wr=w) (fun _ _ _=>0);case atStart=>exact⟨by rw[HZ.out],rfl,rfl⟩
  case round=>obtain⟨rfl,rfl,rfl⟩:=hrel;go_wp2_with fail;go_ret;exact⟨rfl,HF.1,HF.2⟩
 ·have HX:Hid (∀k x,xs[k]?=some x→w.cell? ⟨b,off+k,none⟩=some (.int .u8 x)∧0≤x∧x<256):=hx;obtain⟨n,hnl⟩:=qE xs.length;have HN:Hid (n=xs.length∧H9=hshF xs n):=⟨hnl,by rw[hH9,hnl]⟩;rw[←hnl]at hn⊢;have hF2:=HF.out;rw[←hnl]at hF2;have HF2:Hid (yA5 xs (newF xs) w.heap.size w.heap.size (.slice (some ⟨b,off,none⟩) n cap) (w.alloc (Obj.cells #[.slice (some ⟨b,off,none⟩) n cap,.int .i64 0,.int .i64 H9] 109))∧Below w.heap.size w (w.alloc (Obj.cells #[.slice (some ⟨b,off,none⟩) n cap,.int .i64 0,.int .i64 H9] 109))):=hF2;clear hF2 HF hnl hH9 hx h HC;go_enter Tryz.func31,Tryz.ntmps31;go_wp2_with fail;go_loopw[3,4] (fun h i wr=>∃(k:Nat) (x:Int),k≤n∧h=.int .i64 x∧Hid (x=hshF xs k)∧i=.int .i64 k∧wr=w) (fun _ i _=>n-(intOf i).toNat);case atStart=>exact⟨0,_,Nat.zero_le _,rfl,(by show _=54321+(xs.length:Int);rw[←HN.1]),rfl,rfl⟩
  case round=>
   obtain⟨k,x,hk,rfl,HE,rfl,rfl⟩:=hrel;by_cases hkn:k<n
   ·obtain⟨y,hy⟩:∃y,xs[k]?=some y:=⟨_,List.getElem?_eq_getElem (by rw[←HN.1];exact hkn)⟩;obtain⟨hc,hy0,hy1⟩:=HX.out k y hy;have HY:Hid (hshF xs (k+1)=yC3 x y):=by show yC3 (hshF xs k) (xs[k]?.getD 0)=_;rw[hy,←HE.out];rfl
    have zk:(k:Int)<(n:Int):=by omega
    clear hy;go_wp2_with fail;go_roundw;case rel=>exact⟨k+1,_,by omega,rfl,HY.symm,by go_num,trivial⟩
    case measure=>go_light;simp[intOf];omega
   ·have zk:¬(k:Int)<(n:Int):=by omega
    have hkk:k=n:=by omega
    have HX9:Hid (x=H9):=by show _=_;rw[HE.out,HN.2,hkk]
    clear hkk;go_wp2_with fail;go_ret;rw[HX9.out];exact⟨rfl,HF2.1,HF2.2⟩
theorem yF7.slice (h:yF7 w base bv n):∃a cap,bv=.slice a n cap:=by
 rcases h.2 with⟨a,cap,rfl,rfl⟩|⟨b,off,cap,rfl,_⟩
 ·exact⟨_,_,rfl⟩
 ·exact⟨_,_,rfl⟩
variable {w':World}
theorem yF7.up (h:yF7 w w.heap.size bv n) (hb:Below w.heap.size w w'):yF7 w' w'.heap.size bv n:=by
 refine⟨h.1,?_⟩;rcases h.2 with h|⟨b,off,cap,rfl,hlt,hc⟩
 ·exact .inl h
 ·refine .inr ⟨b,off,cap,rfl,by have:=hb.size;omega,fun k hk=>?_⟩;obtain⟨x,h1,h2⟩:=hc k hk;exact⟨x,by rw[hb.cell (p:=⟨b,off+k,none⟩) hlt];exact h1,h2⟩
def yF8 (w:World) (v:Value) (n:Nat):Prop:=
 n≤maxLen∧((∃a cap,v=.slice a 0 cap∧n=0)∨∃b off cap,v=.slice (some ⟨b,off,none⟩) n cap∧b<w.heap.size∧∀k,k<n→∃x:Int,w.cell? ⟨b,off+k,none⟩=some (.int .u8 x)∧0≤x∧x<256)
theorem yF8.slice {v:Value} (h:yF8 w v n):∃a cap,v=.slice a n cap:=by
 rcases h.2 with⟨a,cap,rfl,rfl⟩|⟨b,off,cap,rfl,_⟩
 ·exact⟨_,_,rfl⟩
 ·exact⟨_,_,rfl⟩
theorem yF8.code {v:Value} (h:yF8 w v n) (hn:n≤1048576):yF7 w w.heap.size v n:=⟨hn,h.2⟩
theorem yMa {H:Type} {enc:TypeId×Value→H} {fuel:Nat} {v:Value} {x:DataW H×List MemPlace}
  (h:DataW.trod enc Tryz.prog w 0 (fun _=>true) true fuel 22 [v]=some x) (hlt:∀p∈x.2,p.block<w.heap.size):∃n,yF8 w v n:=by
 have hc:Tryz.prog.cellsOf 5=1:=by kernel_rfl
 rcases open_ints Tryz.underlying22 Tryz.underlying5 hc h with⟨hcs,hx⟩|⟨a,len,cap,zs,hcs,_,hl,hm,hz,hx,hcell,hwz⟩
 ·simp only[List.cons.injEq,and_true]at hcs;exact⟨0,Nat.zero_le _,.inl ⟨none,0,hcs,rfl⟩⟩
 ·simp only[List.cons.injEq,and_true]at hcs;simp only[if_true]at hz;refine⟨len,Nat.le_trans hl hm,?_⟩;by_cases h0:len=0
  ·subst h0;exact .inl ⟨some a,cap,hcs,rfl⟩
  ·obtain⟨ab,ao,spot⟩:=a;have hspot:spot=none:=by simpa [Addr.add]using World.cell?_spot (hcell 0 (by omega))
   subst hspot;refine .inr ⟨ab,ao,cap,hcs,?_,fun k hk=>?_⟩
   ·rw[hx]at hlt;exact hlt (.cell ab (ao+0)) (by simp only[MemPlace.row,List.mem_map,List.mem_range];exact⟨0,by omega,rfl⟩)
   ·have h1:=hcell k (by omega);rw[Addr.add_lit]at h1;have hb:=range_u8 hwz k;rw[List.getD_eq_getElem?_getD]at h1;exact⟨_,h1,hb.1,by omega⟩
structure SpJ (base cb:Nat) (bv:Value) (n:Nat) (w:World) (eb g cp:Nat) (xs:List Nd) (f:Nd) (wr:World):Prop where
 row:yAu wr w.heap.size g cp xs
 e:yA wr w.heap.size 65 7 eb f.seven
 res:yA wr w.heap.size 25 1 (w.heap.size+1) [.slice none 0 0]
 d:DInv base cb bv n w wr
 ne:¬g=eb∧w.heap.size+1<g∧w.heap.size+1<eb
 ok:f.ok
theorem SpJ.below {eb:Nat} {xs:List Nd} {f:Nd} {wr:World} (h:SpJ base cb bv n w eb g cp xs f wr) (hd:Below wr.heap.size wr w1):SpJ base cb bv n w eb g cp xs f w1:=⟨h.row.below hd h.row.lt.2,h.e.below hd,h.res.below hd,h.d.below hd,h.ne,h.ok⟩
theorem Nd.ok.with {f:Nd} (h:f.ok):f.ok:=h
variable {S:Nat→Prop}
theorem yBj.chg {es:List Nd} (h:yBj w b off es) (hb:Chg S w w') (hlt:b<w.heap.size) (hn:¬S b):yBj w' b off es:=by
 intro i e he;have:=h i e he;refine⟨?_,?_,?_,?_,?_,?_,?_⟩;all_goals rw[hb.cell (by exact hlt) (by exact hn)]
 ·exact this.1
 ·exact this.2.1
 ·exact this.2.2.1
 ·exact this.2.2.2.1
 ·exact this.2.2.2.2.1
 ·exact this.2.2.2.2.2.1
 ·exact this.2.2.2.2.2.2
theorem yKo.chg {v:Value} {l:List Nd} (h:yKo w v l) (hc:Chg S w w') (hv:∀g n c,v=.slice (some g) n c→l≠ []→¬S g.block):yKo w' v l:=by
 rcases h with h|⟨b,off,cap,hq,hE,hlt,h1,h2⟩
 ·exact .inl h
 ·by_cases hn:l= []
  ·subst hn;exact .inl ⟨_,_,hq,rfl⟩
  ·exact .inr ⟨b,off,cap,hq,hE.chg hc hlt (hv ⟨b,off,none⟩ _ _ hq hn),by have:=hc.size;omega,h1,h2⟩
theorem DInv.trans {w2:World} (h:DInv base cb bv n w w1) (k:DInv base cb bv n w1 w2):DInv base cb bv n w w2:=⟨k.d,h.c.trans k.c,h.lt,h.hb⟩
theorem yHh {o c b' o' c':Nat} {ys:List Nd} (h:yBj w b o ys) (hb:b<w.heap.size) (h':yBj w b' o' ys) (hb':b'<w.heap.size) (hl:ys.length≤1000000):
  Calls Tryz.prog 19 #[.agg #[.slice (some ⟨b,o,none⟩) ys.length c],.agg #[.slice (some ⟨b',o',none⟩) ys.length c']] w fun e w'=>e=.returned (.bool true)∧Below w.heap.size w w':=by
 obtain⟨N,hN⟩:=qE ys.length;have HN:Hid (N=ys.length):=hN;rw[←hN]at hl⊢;obtain⟨W0,hW0⟩:=qE ((w.alloc (Obj.cells #[.slice (some ⟨b,o,none⟩) N c] 25)).alloc (Obj.cells #[.slice (some ⟨b',o',none⟩) N c'] 25):World);have H0:Hid (Below w.heap.size w W0∧yA W0 w.heap.size 25 1 w.heap.size [.slice (some ⟨b,o,none⟩) N c]∧yA W0 w.heap.size 25 1 (w.heap.size+1) [.slice (some ⟨b',o',none⟩) N c']∧yBj W0 b o ys∧yBj W0 b' o' ys∧(b<W0.heap.size∧b'<W0.heap.size)):=by
  have b1:=yAb w (base:=w.heap.size) (t:=25) (sz:=1) #[.slice (some ⟨b,o,none⟩) N c] (Nat.le_refl _) rfl;obtain⟨X,hX⟩:=qE (w.alloc (Obj.cells #[.slice (some ⟨b,o,none⟩) N c] 25));rw[←hX]at b1 hW0;have zx:X.heap.size=w.heap.size+1:=by rw[hX];simp
  have k1:Below w.heap.size w X:=by rw[hX];exact qB
  have k2:Below X.heap.size X W0:=by rw[hW0];exact qB
  have b2:=yAb X (base:=w.heap.size) (t:=25) (sz:=1) #[.slice (some ⟨b',o',none⟩) N c'] (by omega) rfl;rw[←hW0,zx]at b2;have k:=k1.trans (k2.mono (by omega));exact⟨k,b1.below k2,b2,h.below k hb,h'.below k hb',by have:=k.size;omega,by have:=k.size;omega⟩
 clear h h' hN;have hS:∀wx,Below W0.heap.size W0 wx→wx.cell? ⟨w.heap.size,0,none⟩=some (.slice (some ⟨b,o,none⟩) N c)∧wx.cell? ⟨w.heap.size+1,0,none⟩=some (.slice (some ⟨b',o',none⟩) N c')∧yBj wx b o ys∧yBj wx b' o' ys:=fun wx hx=>⟨(H0.2.1.below hx).cell (j:=0) rfl,(H0.2.2.1.below hx).cell (j:=0) rfl,H0.2.2.2.1.below hx H0.2.2.2.2.2.1,H0.2.2.2.2.1.below hx H0.2.2.2.2.2.2⟩;have HS:Hid (∀wx,Below W0.heap.size W0 wx→wx.cell? ⟨w.heap.size,0,none⟩=some (.slice (some ⟨b,o,none⟩) N c)∧wx.cell? ⟨w.heap.size+1,0,none⟩=some (.slice (some ⟨b',o',none⟩) N c')∧yBj wx b o ys∧yBj wx b' o' ys):=hS;clear hS;obtain⟨q0,q1,_⟩:=HS.out W0 (Below.refl _ _);go_enter Tryz.func19,Tryz.ntmps19;go_upto_region 1 with fail;rw[←hW0];clear hW0;go_wp2_with fail;clear q0 q1;go_loopw[5] (fun iv wr=>∃i:Nat,i≤N∧iv=.int .i64 (i:Int)∧Below W0.heap.size W0 wr) (fun iv _=>N-(intOf iv).toNat);case atStart=>exact⟨0,Nat.zero_le _,rfl,Below.refl _ _⟩
 case round=>
  obtain⟨i,hi,rfl,hbr⟩:=hrel;have q0:=(HS.out wr hbr).1;by_cases hlt:i<N
  ·have zi:(i:Int)<(N:Int):=by omega
   obtain⟨x,hx⟩:∃x,ys[i]?=some x:=⟨_,List.getElem?_eq_getElem (by have:=HN.out;omega)⟩;obtain⟨Q,hQ,hq⟩:=yVb x x;obtain rfl:Q=false:=hQ.2 rfl;have hbd:Below W0.heap.size W0 wr.drew:=hbr.drew;have hS0:SW (fun wz:World=>wz.cell? ⟨w.heap.size,0,none⟩=some (.slice (some ⟨b,o,none⟩) N c)∧wz.cell? ⟨w.heap.size+1,0,none⟩=some (.slice (some ⟨b',o',none⟩) N c')∧yBj wz b o ys∧yBj wz b' o' ys) wr.drew:=HS.out _ hbd;have HXx:Hid (ys[i]?=some x):=hx;clear hx hQ;go_upto_region 6 with fail;refine wpR 99 hS0 ?_;refine j5a 0 hS0 ?_;iterate 9 refine j5b hS0 ?_
   refine j5a 10 hS0 (v:=(.bool false)) ?_;refine qD ?_;clear hS0 hq;go_wp2_with fail;go_roundw;case rel=>exact⟨i+1,by omega,by go_num,hbd⟩
   case measure=>simp[intOf];omega
  ·go_wp2_with fail;go_ret;exact⟨rfl,H0.1.trans (hbr.mono H0.1.size)⟩
def cont (k acc:Nat) (o:Option (Nat×List UInt8)):Option (Nat×List UInt8):=
 match o with
 |none=>none
 |some (m,t)=>if 0<k∧m=0 then none else some (acc+128^k*m,t)
structure NumTo (ys:List UInt8) (k acc:Nat):Prop where
 eq:yPm ys=cont k acc (yPm (ys.drop k))
 lt:acc<128^k
 len:k≤ys.length
theorem NumTo.none {ys:List UInt8} {k acc:Nat} (h:NumTo ys k acc) (hk:ys.length≤k):yXe ys=Option.none:=by unfold yXe;rw[h.eq,List.drop_of_length_le hk];rfl
theorem yAe.drop {xs:List UInt8} (h:yAe w b off xs) (n:Nat):yAe w b (off+n) (xs.drop n):=by intro i x hx;rw[List.getElem?_drop]at hx;have:=h (n+i) x hx;rw[Nat.add_assoc];exact this
def OwnS (w:World) (base:Nat) (v:Value) (l:List UInt8):Prop:=w.ownsRow base 5 1 v l.length (l.map ub)
variable {l:List UInt8}
theorem OwnS.slice {v:Value} (h:OwnS w base v l):∃a cp,v=.slice a l.length cp:=by
 rcases h.2 with⟨rfl,h0⟩|⟨g,cap,cur,rfl,_⟩
 ·exact⟨none,0,by rw[h0]⟩
 ·exact⟨_,_,rfl⟩
theorem OwnS.of (h:OwnY w base g cp l):OwnS w base (.slice (some ⟨g,0,none⟩) l.length cp) l:=h
theorem OwnS.row {v:Value} (h:OwnS w base v l):∀k,v.ownBlock=some k→base≤k∧k<w.heap.size:=fun k hk=>World.ownsRow.lt h k hk
theorem OwnS.chg {v:Value} (h:OwnS w base v l) (hc:Chg S w w') (hn:∀k,v.ownBlock=some k→¬S k):OwnS w' base v l:=yA2 h hc hn
theorem yG9 (w:World) (ty:TypeId) (base b off cx:Nat) (v:Value) (l k:List UInt8) (hO:OwnS w base v l)
  (hc:yAe w b off k) (hlen:l.length+k.length≤2^30) (hbase:base≤w.heap.size):
  ∃v' w',(Builtin.append_ #[22,22] ty #[v,.slice (some ⟨b,off,none⟩) k.length cx]).run Tryz.prog w=.ok v' w'∧OwnS w' base v' (l++k)∧w.grownBy w' v.ownBlock:=by
 obtain⟨i,hi,hz0,hz1,hz2⟩:=info_parts Tryz.infoByte;obtain⟨v',w',hr,hO',hg,_⟩:=run_append_own (P:=Tryz.prog) w base 22 ty 5 i _ 1 1 Tryz.underlying22 hi hz0 hz1 hz2 rfl (by decide) v l.length (l.map ub) hO ⟨b,off,none⟩ k.length cx (k.map ub) (by simp) (fun j u hu=>by
  rw[List.getElem?_map]at hu
  cases hk:k[j]? with
  |none=>rw[hk]at hu;cases hu
  |some r=>
   rw[hk]at hu
   simp at hu
   rw[Addr.add_mid,hc j r hk,←hu]) (yRg k) (by unfold maxLen;omega) (by omega) hbase
 refine⟨v',w',hr,?_,hg⟩;unfold OwnS;rw[List.length_append,List.map_append];exact hO'
theorem yHa (w:World) (ty:TypeId) (base:Nat) (v:Value) (l:List UInt8) (s:ByteArray) (hO:OwnS w base v l) (hlen:l.length+s.size≤2^30) (hbase:base≤w.heap.size):
  ∃v' w',(Builtin.append_ #[22,9] ty #[v,.string s]).run Tryz.prog w=.ok v' w'∧OwnS w' base v' (l++bl s)∧w.grownBy w' v.ownBlock:=by
 obtain⟨i,hi,hz0,hz1,hz2⟩:=info_parts Tryz.infoByte;obtain⟨v',w',hr,hO',hg,_⟩:=Lib.run_append_own_string (P:=Tryz.prog) w base 22 9 ty 5 i Tryz.underlying22 Tryz.underlying9 hi hz0 hz1 hz2 v l.length (l.map ub) hO s (by unfold maxLen;omega) (by omega) hbase;refine⟨v',w',hr,?_,hg⟩;unfold OwnS;rw[List.length_append,List.map_append,yBb];exact hO'
variable {ops:Array Oper} {a:Act} {Q:Exit→Act→World→Prop}
theorem yAq {rest:List Oper} {o:Oper} (w:World) (hgd:o.guard=none) (s x:Operand)
  (ho:o.op=.call {callee:=.builtin .append,args:=#[s,x],argTypes:=#[22,22]})
  (base b off m cx:Nat) (v:Value) (l k:List UInt8) (hs:a.eval s=v) (hx:a.eval x=.slice (some ⟨b,off,none⟩) m cx) (hm:m=k.length) (hO:OwnS w base v l)
  (hc:yAe w b off k) (hlen:l.length+k.length≤2^30) (hbase:base≤w.heap.size)
  (h:∀v' w',OwnS w' base v' (l++k)→w.grownBy w' v.ownBlock→wpList Tryz.prog ops Q rest (a.put o.dst v') w'):wpList Tryz.prog ops Q (o::rest) a w:=by
 subst hm;refine wpList_plain hgd fun K hK=>?_;obtain⟨v',w',hr,h1,h2⟩:=yG9 w o.type base b off cx v l k hO hc hlen hbase;exact zzQ63
theorem yGn {oo:Oper} {K:Act→World→Prop} {E:Prop} (w:World) (hgd:oo.guard=none) (s x:Operand)
  (ho:oo.op=.call {callee:=.builtin .append,args:=#[s,x],argTypes:=#[22,22]})
  (base b off m cx:Nat) (v:Value) (l k:List UInt8) (hs:a.eval s=v) (hx:a.eval x=.slice (some ⟨b,off,none⟩) m cx) (hm:m=k.length) (hO:OwnS w base v l)
  (hc:yAe w b off k) (hlen:l.length+k.length≤2^30) (hbase:base≤w.heap.size)
  (h:∀v' w',OwnS w' base v' (l++k)→w.grownBy w' v.ownBlock→K (a.put oo.dst v') w'):if Region.wanted oo (yielded ops a.tmps)=true then Oper.wp Tryz.prog oo a w K Q else E:=by
 subst hm;obtain⟨v',w',hr,h1,h2⟩:=yG9 w oo.type base b off cx v l k hO hc hlen hbase;exact zzQ56
theorem yCc {rest:List Oper} {o:Oper} (w:World) (hgd:o.guard=none) (sl x:Operand)
  (ho:o.op=.call {callee:=.builtin .append,args:=#[sl,x],argTypes:=#[22,9]})
  (base:Nat) (v:Value) (l:List UInt8) (s:ByteArray) (hs:a.eval sl=v) (hx:a.eval x=.string s) (hO:OwnS w base v l) (hlen:l.length+s.size≤2^30) (hbase:base≤w.heap.size)
  (h:∀v' w',OwnS w' base v' (l++bl s)→w.grownBy w' v.ownBlock→wpList Tryz.prog ops Q rest (a.put o.dst v') w'):wpList Tryz.prog ops Q (o::rest) a w:=by
 refine wpList_plain hgd fun K hK=>?_;obtain⟨v',w',hr,h1,h2⟩:=yHa w o.type base v l s hO hlen hbase;exact zzQ63
theorem yEe {oo:Oper} {K:Act→World→Prop} {E:Prop} (w:World) (hgd:oo.guard=none) (sl x:Operand)
  (ho:oo.op=.call {callee:=.builtin .append,args:=#[sl,x],argTypes:=#[22,9]})
  (base:Nat) (v:Value) (l:List UInt8) (s:ByteArray) (hs:a.eval sl=v) (hx:a.eval x=.string s) (hO:OwnS w base v l) (hlen:l.length+s.size≤2^30) (hbase:base≤w.heap.size)
  (h:∀v' w',OwnS w' base v' (l++bl s)→w.grownBy w' v.ownBlock→K (a.put oo.dst v') w'):if Region.wanted oo (yielded ops a.tmps)=true then Oper.wp Tryz.prog oo a w K Q else E:=by
 obtain⟨v',w',hr,h1,h2⟩:=yHa w oo.type base v l s hO hlen hbase;exact zzQ56
theorem OwnS.next {w0:World} {v:Value} (hO:OwnS w base v l) (h:Below base w0 w) (hb:base≤w.heap.size) (hgr:w.grownBy w' v.ownBlock):Below base w0 w':=h.grown hgr hb (fun j hj=>(hO.row j hj).1)
theorem OwnS.below {v:Value} (h:OwnS w base v l) (hb:Below w.heap.size w w'):OwnS w' base v l:=h.chg (Chg.of_below hb) (S:=fun _=>False) (fun _ _ q=>q)
structure Fr (base:Nat) (w w':World):Prop where
 below:Below base w w'
 kept:Lib.OthersKept 5 none w w'
theorem Fr.refl (base:Nat) (w:World):Fr base w w:=⟨Below.refl _ _,Lib.OthersKept.refl _ _ _⟩
theorem Fr.trans {a b c:World} (h:Fr base a b) (k:Fr base b c):Fr base a c:=⟨h.below.trans k.below,h.kept.trans k.kept⟩
theorem yLw (h:Below w.heap.size w w'):Lib.OthersKept 5 none w w':=fun k o hk _ _=>by rw[h.block k (Array.getElem?_eq_some_iff.1 hk).1];exact hk
theorem Fr.step {a:World} (h:Fr base a w) (hb:Below w.heap.size w w') (hB:base≤w.heap.size):Fr base a w':=⟨h.below.trans (hb.mono hB),h.kept.trans (yLw hb)⟩
theorem OwnS.nextF {w0:World} {v:Value} (hO:OwnS w base v l) (h:Fr base w0 w) (hb:base≤w.heap.size) (hgr:w.grownBy w' v.ownBlock):Fr base w0 w':=
 ⟨hO.next h.below hb hgr,h.kept.grown hgr (Lib.ownsRow_kind hO)⟩
theorem Fr.box {t sz bb:Nat} {vs:List Value} (h:Fr base w w') (hB:yA w bb t sz g vs) (ht:t≠5):yA w' bb t sz g vs:=by
 refine⟨hB.1,?_⟩;rcases hB.2 with q|⟨g',cap',cur,hv,h1,h2,rest⟩
 ·exact .inl q
 ·exact .inr ⟨g',cap',cur,hv,h1,h.kept g' _ h2 (by simp) (fun c fz q=>ht (by injection q)),rest⟩
def AppP (base:Nat) (l:List UInt8) (w:World) (r:Ending) (w':World):Prop:=∃v,r=.returned v∧OwnS w' base v l∧Fr base w w'
theorem yIn (x:UInt8) (w:World):Calls Tryz.prog 92 #[.int .u8 (x.toNat:Int)] w fun e w'=>e=.returned (.bool (decide (32≤x.toNat∧x.toNat≤126)))∧w'=w:=by
 have hx:=x.toNat_lt;by_cases h1:32≤x.toNat
 ·have z1:(32:Int)≤(x.toNat:Int):=by omega
  by_cases h2:x.toNat≤126
  ·have z2:(x.toNat:Int)≤126:=by omega
   have H:Hid (decide (32≤x.toNat∧x.toNat≤126)=true):=by show _=_;simp[h1,h2]
   exact zzQ84
  ·have z2:¬(x.toNat:Int)≤126:=by omega
   have H:Hid (decide (32≤x.toNat∧x.toNat≤126)=false):=by show _=_;simp[h1,h2]
   exact zzQ84
 ·have z1:¬(32:Int)≤(x.toNat:Int):=by omega
  have H:Hid (decide (32≤x.toNat∧x.toNat≤126)=false):=by show _=_;simp[h1]
  go_enter Tryz.func92,Tryz.ntmps92;go_wp2_with fail;go_ret;exact⟨by first|rfl|(rw[H.out]),rfl⟩
theorem and15 (x:UInt8):bits .and .u8 (x.toNat:Int) 15=((x.toNat%16:Nat):Int):=by
 have hb:∀y:Fin 256,bits .and .u8 ((y.val:Nat):Int) 15=((y.val%16:Nat):Int):=by decide
 exact hb ⟨x.toNat,x.toNat_lt⟩
theorem yEt (base:Nat) (v:Value) (l:List UInt8) (s:ByteArray) (w:World) (hO:OwnS w base v l) (hl:l.length≤1000000) (hs:s.size≤1000000) (hb:base≤w.heap.size):
  Calls Tryz.prog 103 #[v,.string s] w (AppP base (l++quoM (bl s)) w):=by
 obtain⟨W1,hW1⟩:=qE (w.alloc (Obj.cells #[.int .u8 34] 5):World);have hb1:Below w.heap.size w W1:=by rw[hW1];exact qB
 have s1:=hb1.size;have HO1:Hid (OwnS W1 base v l∧Fr base w W1∧yAe W1 w.heap.size 0 [34]):=by refine⟨hO.below hb1,Fr.step (Fr.refl _ _) hb1 hb,?_⟩;rw[hW1];exact yAp w _ [34] rfl
 clear hb1 hO;go_enter Tryz.func103,Tryz.ntmps103;go_wp2_with (at_builtin;(try rw[←hW1]);refine yAq _ rfl _ _ rfl base w.heap.size 0 1 1 v l [34] rfl rfl rfl HO1.1 HO1.2.2 ?hl ?hb ?_);case hl=>(show l.length+1≤_;omega)
 case hb=>omega
 intro v1 w1 hW1' hgr1;have hgr2:W1.grownBy w1 v.ownBlock:=by first|exact hgr1|(rw[hW1];exact hgr1)
 have HO2:Hid (OwnS w1 base v1 (l++ [34])∧Fr base w w1):=⟨hW1',HO1.1.nextF HO1.2.1 (by omega) hgr2⟩;clear hW1' hgr1 hgr2 hW1 HO1;go_wp2_with fail;go_loopw[0,5] (fun tv iv wr=>∃(k:Nat) (X:List UInt8),k≤s.size∧iv=.int .i64 k∧Hid (X=l++ [34]++quoL ((bl s).take k))∧X.length≤l.length+1+4*k∧OwnS wr base tv X∧Fr base w wr) (fun _ iv _=>s.size-(intOf iv).toNat);case atStart=>exact⟨0,l++ [34],Nat.zero_le _,rfl,by show _=_;simp[quoL],by simp,HO2.1,HO2.2⟩
 case round=>
  clear HO2;obtain⟨k,X,hk,rfl,HX,hxl,hW,hbr⟩:=hrel;have HW:Hid (OwnS wr base u0 X∧Fr base w wr):=⟨hW,hbr⟩;have sr:=hbr.below.size;clear hW hbr;by_cases hlt:k<s.size
  ·have z:(k:Int)<(s.size:Int):=by omega
   obtain⟨x,hx⟩:∃x,(bl s)[k]?=some x:=⟨_,List.getElem?_eq_getElem (by rw[yBb];exact hlt)⟩;have gx:=yXk hlt hx;have HX2:Hid (l++ [34]++quoL ((bl s).take (k+1))=X++yEk x):=by show _=_;rw[List.take_add_one,hx,HX.out,Option.toList,yMn,List.append_assoc (l++ [34])]
   have hx8:x.toNat<256:=x.toNat_lt;clear hx;by_cases h34:x.toNat=34
   ·obtain rfl:x=34:=UInt8.toNat_inj.1 h34;have HQ:Hid (yEk 34= [92,34]):=by show _=_;decide
    obtain⟨W2,hW2⟩:=qE (wr.alloc (Obj.cells #[.int .u8 92,.int .u8 34] 5):World);have hb2:Below wr.heap.size wr W2:=by rw[hW2];exact qB
    have s2:=hb2.size;have HW2:Hid (OwnS W2 base u0 X∧Fr base w W2∧yAe W2 wr.heap.size 0 [92,34]):=by refine⟨HW.1.below hb2,HW.2.step hb2 (by omega),?_⟩;rw[hW2];exact yAp wr _ [92,34] rfl
    clear hb2;go_wp2_with (at_builtin;(try rw[←hW2]);refine yAq _ rfl _ _ rfl base wr.heap.size 0 2 2 u0 X [92,34] rfl rfl rfl HW2.1 HW2.2.2 ?hl ?hb ?_);case hl=>(show X.length+2≤_;omega)
    case hb=>omega
    intro v' w' hW' hgr;have hgr2:W2.grownBy w' u0.ownBlock:=by first|exact hgr|(rw[hW2];exact hgr)
    have HR:Hid (OwnS w' base v' (X++ [92,34])∧Fr base w w'∧(X++ [92,34]).length≤l.length+1+4*(k+1)∧X++ [92,34]=l++ [34]++quoL ((bl s).take (k+1))):=⟨hW',HW2.1.nextF HW2.2.1 (by omega) hgr2,by rw[List.length_append];show X.length+2≤_;omega,by rw[HX2.out,HQ.out]⟩;clear hW' hgr hgr2 hW2;go_wp2_with fail;go_roundw;case rel=>exact⟨k+1,X++ [92,34],by omega,by go_num,HR.2.2.2,HR.2.2.1,HR.1,HR.2.1⟩
    case measure=>simp[intOf];omega
   by_cases h92:x.toNat=92
   ·obtain rfl:x=92:=UInt8.toNat_inj.1 h92;have HQ:Hid (yEk 92= [92,92]):=by show _=_;decide
    obtain⟨W2,hW2⟩:=qE (wr.alloc (Obj.cells #[.int .u8 92,.int .u8 92] 5):World);have hb2:Below wr.heap.size wr W2:=by rw[hW2];exact qB
    have s2:=hb2.size;have HW2:Hid (OwnS W2 base u0 X∧Fr base w W2∧yAe W2 wr.heap.size 0 [92,92]):=by refine⟨HW.1.below hb2,HW.2.step hb2 (by omega),?_⟩;rw[hW2];exact yAp wr _ [92,92] rfl
    clear hb2;go_wp2_with (at_builtin;(try rw[←hW2]);refine yAq _ rfl _ _ rfl base wr.heap.size 0 2 2 u0 X [92,92] rfl rfl rfl HW2.1 HW2.2.2 ?hl ?hb ?_);case hl=>(show X.length+2≤_;omega)
    case hb=>omega
    intro v' w' hW' hgr;have hgr2:W2.grownBy w' u0.ownBlock:=by first|exact hgr|(rw[hW2];exact hgr)
    have HR:Hid (OwnS w' base v' (X++ [92,92])∧Fr base w w'∧(X++ [92,92]).length≤l.length+1+4*(k+1)∧X++ [92,92]=l++ [34]++quoL ((bl s).take (k+1))):=⟨hW',HW2.1.nextF HW2.2.1 (by omega) hgr2,by rw[List.length_append];show X.length+2≤_;omega,by rw[HX2.out,HQ.out]⟩;clear hW' hgr hgr2 hW2;go_wp2_with fail;go_roundw;case rel=>exact⟨k+1,X++ [92,92],by omega,by go_num,HR.2.2.2,HR.2.2.1,HR.1,HR.2.1⟩
    case measure=>simp[intOf];omega
   have z34:((x.toNat:Int)==34)=false:=by rw[beq_eq_false_iff_ne];omega
   have z92:((x.toNat:Int)==92)=false:=by rw[beq_eq_false_iff_ne];omega
   by_cases h2:32≤x.toNat∧x.toNat≤126
   ·have HPl:Hid (∀W,Calls Tryz.prog 92 #[.int .u8 (x.toNat:Int)] W fun e w'=>e=.returned (.bool true)∧w'=W):=fun W=>by have:=yIn x W;rw[show decide (32≤x.toNat∧x.toNat≤126)=true by simp[h2]]at this;exact this
    have HQ:Hid (yEk x= [x]):=by show _=_;unfold yEk;rw[if_neg (by omega),if_pos h2]
    clear h2;obtain⟨W2,hW2⟩:=qE (wr.alloc (Obj.cells #[.int .u8 (x.toNat:Int)] 5):World);have hb2:Below wr.heap.size wr W2:=by rw[hW2];exact qB
    have s2:=hb2.size;have HW2:Hid (OwnS W2 base u0 X∧Fr base w W2∧yAe W2 wr.heap.size 0 [x]):=by refine⟨HW.1.below hb2,HW.2.step hb2 (by omega),?_⟩;rw[hW2];exact yAp wr _ [x] rfl
    clear hb2;go_wp2_with fail;refine(HPl.out _).mono ?_;rintro r w9 ⟨rfl,hw9⟩;rw[hw9];clear hw9;go_wp2_with (at_builtin;(try rw[←hW2]);refine yAq _ rfl _ _ rfl base wr.heap.size 0 1 1 u0 X [x] rfl rfl rfl HW2.1 HW2.2.2 ?hl ?hb ?_);case hl=>(show X.length+1≤_;omega)
    case hb=>omega
    intro v' w' hW' hgr;have hgr2:W2.grownBy w' u0.ownBlock:=by first|exact hgr|(rw[hW2];exact hgr)
    have HR:Hid (OwnS w' base v' (X++ [x])∧Fr base w w'∧(X++ [x]).length≤l.length+1+4*(k+1)∧X++ [x]=l++ [34]++quoL ((bl s).take (k+1))):=⟨hW',HW2.1.nextF HW2.2.1 (by omega) hgr2,by rw[List.length_append];show X.length+1≤_;omega,by rw[HX2.out,HQ.out]⟩;clear hW' hgr hgr2 hW2;go_wp2_with fail;go_roundw;case rel=>exact⟨k+1,X++ [x],by omega,by go_num,HR.2.2.2,HR.2.2.1,HR.1,HR.2.1⟩
    case measure=>simp[intOf];omega
   have HPl:Hid (∀W,Calls Tryz.prog 92 #[.int .u8 (x.toNat:Int)] W fun e w'=>e=.returned (.bool false)∧w'=W):=fun W=>by have:=yIn x W;rw[show decide (32≤x.toNat∧x.toNat≤126)=false by simp only[h2,decide_false]]at this;exact this
   obtain⟨d,hd⟩:=qE (x.toNat/16);obtain⟨f,hf⟩:=qE (x.toNat%16);have hdl:d<16:=by omega
   have hfl:f<16:=by omega
   have zdl:(d:Int)<16:=by omega
   have zfl:(f:Int)<16:=by omega
   obtain⟨d1,hd1⟩:=qE (hexB d);obtain⟨d2,hd2⟩:=qE (hexB f);have HD:Hid (IntKind.u8.wrap ((x.toNat:Int)/16)=(d:Int)∧bits .and .u8 (x.toNat:Int) 15=(f:Int)∧(⟨#[48,49,50,51,52,53,54,55,56,57,97,98,99,100,101,102]⟩:ByteArray)[d]'hdl=d1∧(⟨#[48,49,50,51,52,53,54,55,56,57,97,98,99,100,101,102]⟩:ByteArray)[f]'hfl=d2):=⟨by rw[yKq,hd],by rw[and15,hf],by rw[yPl,hd1],by rw[yPl,hd2]⟩;have HQ:Hid (yEk x= [92,120,d1,d2]):=by show _=_;unfold yEk;rw[if_neg (by omega),if_neg h2,←hd,←hf,hd1,hd2]
   obtain⟨W2,hW2⟩:=qE ((wr.alloc (Obj.cells #[.int .u8 92,.int .u8 120,.int .u8 (d1.toNat:Int),.int .u8 (d2.toNat:Int)] 5)).drew:World);have hb2:Below wr.heap.size wr W2:=by rw[hW2];exact(qB).drew
   have s2:=hb2.size;have HW2:Hid (OwnS W2 base u0 X∧Fr base w W2∧yAe W2 wr.heap.size 0 [92,120,d1,d2]):=by refine⟨HW.1.below hb2,HW.2.step hb2 (by omega),?_⟩;rw[hW2];exact fun i y hy=>yAp wr _ [92,120,d1,d2] rfl i y hy
   have zq:Hid ((x.toNat:Int)/16=(d:Int)):=by show _=_;omega
   clear hb2 hd hf hd1 hd2 h2;go_wp2_with fail;refine(HPl.out _).mono ?_;rintro r w9 ⟨rfl,hw9⟩;rw[hw9];clear hw9;go_upto_region 6 with fail;refine yCa 9 (fun _=>True) (by kernel_rfl) ?_;refine qU 0 ?vr0 rfl ?yr0 trivial ?_;case yr0=>exact zzR0
   try simp only[qA]
   refine qU 1 ?vr1 rfl ?yr1 trivial ?_;case yr1=>exact zzR0
   try simp only[qA]
   refine qU 2 (.int .u8 (d:Int)) rfl ?yr2 trivial ?_;case yr2=>(intro wz _;go_simp;first|exact HD.1|rw[HD.1]|exact zq.out)
   try simp only[qA]
   refine qU 3 (.int .u8 (d1.toNat:Int)) rfl ?yr3 trivial ?_;case yr3=>exact zzR1
   try simp only[qA]
   refine qU 4 ?vr4 rfl ?yr4 trivial ?_;case yr4=>exact zzR0
   try simp only[qA]
   refine qU 5 (.int .u8 (f:Int)) rfl ?yr5 trivial ?_;case yr5=>exact zzR2
   try simp only[qA]
   refine qU 6 (.int .u8 (d2.toNat:Int)) rfl ?yr6 trivial ?_;case yr6=>exact zzR3
   try simp only[qA]
   refine qO 7 rfl fun K hK=>?_;go_simp;try rw[←hW2]
   refine hK.out _ _ (.inr trivial) ?_;clear hK;try simp only[qA]
   refine qO 8 rfl fun K hK=>?_;refine yGn _ rfl _ _ rfl base wr.heap.size 0 4 4 u0 X [92,120,d1,d2] rfl rfl rfl HW2.1 HW2.2.2 ?hl ?hb ?_;case hl=>(show X.length+4≤_;omega)
   case hb=>omega
   intro v' w' hW' hgr2;have HR:Hid (OwnS w' base v' (X++ [92,120,d1,d2])∧Fr base w w'∧(X++ [92,120,d1,d2]).length≤l.length+1+4*(k+1)∧X++ [92,120,d1,d2]=l++ [34]++quoL ((bl s).take (k+1))):=⟨hW',HW2.1.nextF HW2.2.1 (by omega) hgr2,by rw[List.length_append];show X.length+4≤_;omega,by rw[HX2.out,HQ.out]⟩;refine hK.out _ _ (.inr trivial) ?_;clear hK hW' hgr2 hW2;try simp only[qA]
   refine qO 9 rfl fun K hK=>?_;go_simp;refine hK.out _ _ (.inl rfl) ?_;clear hK;try simp only[qA]
   refine qD ?_;go_wp2_with fail;go_roundw;case rel=>exact⟨k+1,X++ [92,120,d1,d2],by omega,by go_num,HR.2.2.2,HR.2.2.1,HR.1,HR.2.1⟩
   case measure=>simp[intOf];omega
  ·have z:¬(k:Int)<(s.size:Int):=by omega
   have HX2:Hid (l++quoM (bl s)=X++ [34]):=by show _=_;have:=HX.out;rw[List.take_of_length_le (by rw[yBb];omega)]at this;rw[quoM,this];simp
   obtain⟨W2,hW2⟩:=qE (wr.alloc (Obj.cells #[.int .u8 34] 5):World);have hb2:Below wr.heap.size wr W2:=by rw[hW2];exact qB
   have s2:=hb2.size;have HW2:Hid (OwnS W2 base u0 X∧Fr base w W2∧yAe W2 wr.heap.size 0 [34]):=by refine⟨HW.1.below hb2,HW.2.step hb2 (by omega),?_⟩;rw[hW2];exact yAp wr _ [34] rfl
   clear hb2;go_wp2_with (at_builtin;(try rw[←hW2]);refine yAq _ rfl _ _ rfl base wr.heap.size 0 1 1 u0 X [34] rfl rfl rfl HW2.1 HW2.2.2 ?hl ?hb ?_);case hl=>first|omega|(show X.length+1≤_;omega)
   case hb=>omega
   intro v' w' hW' hgr;have hgr2:W2.grownBy w' u0.ownBlock:=by first|exact hgr|(rw[hW2];exact hgr)
   have HR:Hid (AppP base (l++quoM (bl s)) w (.returned v') w'):=⟨v',rfl,by rw[HX2.out];exact hW',HW2.1.nextF HW2.2.1 (by omega) hgr2⟩;clear hW' hgr hgr2 hW2;go_wp2_with fail;go_ret;exact HR.out
end Go.Proofs.YtgnpcenpcmdlfaaGreatDoor
