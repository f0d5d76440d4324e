import Derived.Test.YtkidabedcgngcaaGreatDoorVkAA
import Derived.Test.YtkidabedcgngcaaGreatDoorVkAC
import Derived.Test.YtkidabedcgngcaaGreatDoorVkAB
import Derived.BigQuiet
import Derived.Deep.QuietTactic
import Derived.Lib.Bytealg
import Derived.Lib.Slices
import Derived.Lib.Walk
import Derived.Deep.DeepCutAuto
import Derived.Deep.RegionWith
namespace Go.Proofs.YtkidabedcgngcaaGreatDoor
open Go.RowKit Go.ChangeShapes Go.WideShapes Go.ChangeAt Go.Deep Go.Shelf Go.Maps
set_option linter.unusedVariables false
set_option linter.unusedSimpArgs false
set_option maxRecDepth 100000
set_option maxHeartbeats 40000000
section
variable (G:Nd→Bool)
def yXl (n:Nat):Prop:=∀(w:World) (b o cap:Nat) (xs:List Nd) (s:yAx),xs.length≤n→Win w b o cap xs→ShT G [s] xs→Calls Tryz.prog 49 #[.slice (some ⟨b,o,none⟩) xs.length cap] w fun r w'=>r=.returned (.int .i64 (s.nest:Int))∧Below w.heap.size w w'
theorem yMk (op:Int) {os:List yAx} {j a:Nat} {o:yAx} (h:os[j]?=some o):yAn op j a (os.drop j)=yAn op (j+1) (max a (o.nest+if yBs op j o.kind then 1 else 0)) (os.drop (j+1)):=by exact zzQ88
structure NeJ (w:World) (b o cap:Nat) (ks:List (List Nd)) (g cp:Nat) (wr:World):Prop where
 own:OwnV wr w.heap.size g cp (yE9 b o cap ks)
 below:Below w.heap.size w wr
variable {w wr w':World} {o cap cp:Nat} {ks:List (List Nd)}
theorem NeJ.move {b:Nat} {g:Nat} (h:NeJ w b o cap ks g cp wr) (hb:Below wr.heap.size wr w'):NeJ w b o cap ks g cp w':=⟨h.own.below hb,h.below.trans (hb.mono h.below.size)⟩
variable {n:Nat}
theorem yZn (H:yXl G n):yXl G (n+1):=by
 intro w b o cap xs s hn hW hS;obtain⟨ys,e,os,rfl,hal,hS2,hs⟩:=ShT.inv G hS;obtain⟨ks,rfl,hK⟩:=ShT.kids G hS2;have hlen:=Kids.length G hK;have HF:Hid (Win w b o cap (ks.flatten++ [e])∧Kids G os ks∧s=yBc G e os∧os.length=ks.length∧ks.flatten.length≤n∧yXl G n):=⟨hW,hK,hs,hlen,by simp at hn;rw[List.length_flatten];omega,H⟩;have hk3:=yF5 e.kind;obtain⟨a3,ha3⟩:=qE ks.length;have HA:Hid (a3=ks.length):=ha3;have hle:a3≤3:=by omega
 have hcap:=hW.cap;have hsm:ks.flatten.length+1≤281474976710656:=by have:=hW.sm;rw[List.length_append,List.length_singleton]at this;exact this
 have hbig:ks.flatten.length+1≤cap:=by have:=hW.len;rw[List.length_append,List.length_singleton]at this;exact this
 have HT:Hid (Calls Tryz.prog 90 #[.slice (some ⟨b,o,none⟩) (ks.flatten.length+1) cap] w fun r w'=>r=.returned (.int .i64 e.kind)∧w'=w):=yDi hW;have HKs:Hid (Calls Tryz.prog 91 #[.slice (some ⟨b,o,none⟩) (ks.flatten.length+1) cap] w fun r w'=>∃g cp,r=.returned (.slice (some ⟨g,0,none⟩) a3 cp)∧OwnV w' w.heap.size g cp (yE9 b o cap ks)∧Below w.heap.size w w'):=by rw[ha3];exact yDq hW (by omega) (Kids.tree G hK)
 have HB:Hid (∀o∈os,o.nest≤281474976710656):=fun o' ho=>by obtain⟨k,hk,h3⟩:=yPr G hK ho;have h4:=yD5 hk;have h5:=yMj G _ (Nat.le_refl _) h3;omega
 have HSn:Hid (yAn e.kind 0 0 os=s.nest):=by show _=_;rw[hs];rfl
 rw[List.length_append,List.length_singleton];obtain⟨m,hm⟩:=qE ks.flatten.length;rw[←hm]at HT HKs hbig hsm⊢;obtain⟨sn,hsn⟩:=qE s.nest;have HSn2:Hid (yAn e.kind 0 0 os=sn):=by rw[hsn];exact HSn
 rw[←hsn];clear hW hS hS2 hK hs hal hlen H ha3 hm hn hsn HSn hk3;go_enter Tryz.func49,Tryz.ntmps49;go_wp2_with fail;refine HT.mono ?_;rintro r w1 ⟨rfl,hw1⟩;rw[hw1];clear hw1 HT;go_wp2_with fail;refine HKs.mono ?_;rintro r w1 ⟨g,cp,rfl,hO,hb1⟩;have HW1:Hid (NeJ w b o cap ks g cp w1):=⟨hO,hb1⟩;clear hO hb1 HKs;go_wp2_with fail;go_loopw[5,6] (fun mv iv wr=>∃(j a:Nat),iv=.int .i64 (j:Int)∧mv=.int .i64 (a:Int)∧j≤a3∧a≤999999999999999∧yAn e.kind j a (os.drop j)=sn∧NeJ w b o cap ks g cp wr) (fun _ iv _=>a3-(intOf iv).toNat);case atStart=>exact⟨0,0,rfl,rfl,Nat.zero_le _,by omega,HSn2.out,HW1.out⟩
 case round=>
  obtain⟨j,a,rfl,rfl,hj,ha,hN,hJ⟩:=hrel;have HJ:Hid (yAn e.kind j a (os.drop j)=sn∧NeJ w b o cap ks g cp wr):=⟨hN,hJ⟩;have hgl:=hJ.own.lt;have hsz:=hJ.below.size;clear hN hJ HW1 HSn2;by_cases hlt:j<a3
  ·have zj:(j:Int)<(a3:Int):=by omega
   obtain⟨k,hk⟩:∃k,ks[j]?=some k:=⟨_,List.getElem?_eq_getElem (by have:=HA.out;omega)⟩;obtain⟨os1,ho1,hS1⟩:=Kids.nth G HF.2.1 hk;obtain⟨o',cap',hv,hWk⟩:=yCr HF.1 hk;have hc:=HJ.2.own.cell hv;have hkn:k.length≤n:=by have:=yD5 (List.mem_of_getElem? hk);have:=HF.2.2.2.2.1;omega
   have hWr:=hWk.below HJ.2.below;have HCall:Hid (Calls Tryz.prog 49 #[.slice (some ⟨b,o',none⟩) k.length cap'] wr fun r w'=>r=.returned (.int .i64 (os1.nest:Int))∧Below wr.heap.size wr w'):=HF.2.2.2.2.2 wr b o' cap' k os1 hkn hWr hS1;obtain⟨ky,ke,ko,rfl,_,_,hko⟩:=ShT.inv G hS1;have hkk:os1.kind=ke.kind:=by rw[hko];rfl
   have HTop:Hid (∀w2,Below wr.heap.size wr w2→Calls Tryz.prog 90 #[.slice (some ⟨b,o',none⟩) (ky++ [ke]).length cap'] w2 fun r w'=>r=.returned (.int .i64 os1.kind)∧w'=w2):=fun w2 hb2=>by have:=yDi (hWr.below hb2);rw[List.length_append,List.length_singleton,hkk];exact this
   have hnb:=HB.out os1 (List.mem_of_getElem? ho1);have HStep:Hid (yAn e.kind (j+1) (max a (os1.nest+if yBs e.kind j os1.kind then 1 else 0)) (os.drop (j+1))=sn):=by show _=_;rw[←yMk e.kind ho1];exact HJ.1
   obtain⟨kl,hkl⟩:=qE ((ky++ [ke]).length);rw[←hkl]at hc HCall HTop;clear hk ho1 hS1 hv hWk hkn hWr hko hkk hkl;go_wp2_with fail;refine HCall.mono ?_;rintro r w2 ⟨rfl,hb2⟩;have HJ2:Hid (NeJ w b o cap ks g cp w2):=HJ.2.move hb2;have hc2:w2.cell? ⟨g,j,none⟩=some (.slice (some ⟨b,o',none⟩) kl cap'):=by rw[(Chg.of_below hb2 (S:=fun _=>False)).cell (p:=⟨g,j,none⟩) hgl.2 (fun q=>q)];exact hc
   have HTop2:Hid (Calls Tryz.prog 90 #[.slice (some ⟨b,o',none⟩) kl cap'] w2 fun r w'=>r=.returned (.int .i64 os1.kind)∧w'=w2):=HTop.out w2 hb2;clear hc hb2 HTop HCall;have fin:∀(x:Nat),x=os1.nest+(if yBs e.kind j os1.kind then 1 else 0)→x≤281474976710657→Hid (∀y:Nat,y=max a x→yAn e.kind (j+1) y (os.drop (j+1))=sn):=fun x hx _ y hy=>by rw[hy,hx];exact HStep.out
   by_cases h16:e.kind=16
   ·have hlv:yBs e.kind j os1.kind=true:=by unfold yBs;rw[h16];rfl
    rw[hlv]at fin;have HFin:=fin (os1.nest+1) rfl (by omega);have z16:(e.kind==16)=true:=by simpa using h16
    clear fin hlv h16;exact zzQ47
   ·have z16:(e.kind==16)=false:=by simpa using h16
    go_wp2_with fail;refine HTop2.mono ?_;rintro r w3 ⟨rfl,hw3⟩;rw[hw3];clear hw3 HTop2;go_wp2_with fail;refine(yKy e.kind j os1.kind _ h16).mono ?_;rintro r w3 ⟨rfl,hw3⟩;rw[hw3];clear hw3;cases hlv:yBs e.kind j os1.kind
    ·rw[hlv]at fin;have HFin:=fin os1.nest rfl (by omega);clear fin hlv;by_cases hgt:a<os1.nest
     ·have zg:(a:Int)<(os1.nest:Int):=by omega
      go_wp2_with fail;go_roundw;case rel=>exact⟨j+1,os1.nest,by go_num,rfl,by omega,by omega,HFin.out _ (by omega),HJ2.out⟩
      case measure=>simp[intOf];omega
     ·have zg:¬(a:Int)<(os1.nest:Int):=by omega
      go_wp2_with fail;go_roundw;case rel=>exact⟨j+1,a,by go_num,rfl,by omega,by omega,HFin.out _ (by omega),HJ2.out⟩
      case measure=>simp[intOf];omega
    ·rw[hlv]at fin;have HFin:=fin (os1.nest+1) rfl (by omega);clear fin hlv;exact zzQ47
  ·have zj:¬(j:Int)<(a3:Int):=by omega
   have hd:a=sn:=by have:=HJ.1;rw[List.drop_eq_nil_of_le (by have:=HA.out;have:=HF.2.2.2.1;omega)]at this;exact this
   subst hd;go_wp2_with fail;go_ret;exact⟨rfl,HJ.2.below⟩
theorem yQ0:∀n,yXl G n
 |0=>fun w b o cap xs s hn hW hS=>by
  obtain⟨ys,e,os,rfl,_⟩:=ShT.inv G hS
  simp at hn
 |n+1=>yZn G (yQ0 n)
end
def yK8 (w:World) (v:Value) (es:List Nd):Prop:=
 (∃a cap,v=.slice a 0 cap∧es= [])∨
 ∃b off cap,v=.slice (some ⟨b,off,none⟩) es.length cap∧yAy w b off es∧b<w.heap.size∧es.length≤cap∧cap≤maxLen
variable {w:World} {base n cap:Nat} {es:List Nd}
theorem yK8.own {g:Nat} (h:yAm w base g cap es) (hn:n=es.length):yK8 w (.slice (some ⟨g,0,none⟩) n cap) es:=by subst hn;exact .inr ⟨g,0,cap,rfl,h.at,h.lt.2,h.caps.1,h.caps.2⟩
open Classical in
noncomputable def goodB (e:Nd):Bool:=decide (yAe e)
theorem yHe (e:Nd):goodB e=true↔yAe e:=by unfold goodB;simp
def yCk (xs:List Nd):Prop:=xs.length≤200∧∃s,ShT goodB [s] xs∧s.valid=true∧s.nest≤20
variable {xs:List Nd}
theorem yHd (h:yCk xs):∀e∈xs,yAe e:=by obtain⟨_,s,hs,hv,_⟩:=h;have:=ShT.valid goodB hs;simp[hv]at this;exact fun e he=>(yHe e).1 (this e he)
theorem yTs {s t:yAx} (h:ShT goodB [s] xs) (k:ShT goodB [t] xs):s=t:=by have a:=ShT.fold goodB h [];have b:=ShT.fold goodB k [];rw[a]at b;simpa using b
def yGp (xs:List Nd) (w:World) (r:Ending) (w':World):Prop:=∃b,r=.returned (.bool b)∧(b=true↔yCk xs)∧Below w.heap.size w w'
structure WdN (w:World) (g o cp:Nat) (xs:List Nd):Prop where
 nds:yAy w g o xs
 lt:g<w.heap.size
 caps:xs.length≤cp∧cp≤maxLen
variable {o cp:Nat}
theorem WdN.at {g:Nat} (h:WdN w g o cp xs):yAy w g o xs:=h.nds
variable {B:Nat} {w':World}
theorem WdN.below {g:Nat} (h:WdN w g o cp xs) (hb:Below B w w') (hg:g<B):WdN w' g o cp xs:=
 ⟨h.at.below hb hg,by have:=hb.size;have:=h.lt;omega,h.caps⟩
theorem yAm.wd {g:Nat} (h:yAm w base g cp xs):WdN w g 0 cp xs:=⟨h.at,h.lt.2,h.caps⟩
theorem yEd {g:Nat} (h:WdN w g o cp xs) (hok:∀e∈xs,e.ok):Calls Tryz.prog 19 #[.agg #[.slice (some ⟨g,o,none⟩) xs.length cp]] w (yGp xs w):=by
 have HO:Hid (WdN w g o cp xs∧∀e∈xs,e.ok):=⟨h,hok⟩;have hg:=h.lt;have hcp:=h.caps;obtain⟨n,hn⟩:=qE xs.length;have HN:Hid (n=xs.length):=hn;rw[←hn]at hcp⊢;unfold maxLen at hcp;clear h hok hn;obtain⟨W0,hW0⟩:=qE (w.alloc (Obj.cells #[.slice (some ⟨g,o,none⟩) n cp] 32):World);have HW0:Hid (yA W0 w.heap.size 32 1 w.heap.size [.slice (some ⟨g,o,none⟩) n cp]∧Below w.heap.size w W0):=by rw[hW0];exact⟨yAa w _ (Nat.le_refl _) rfl,qB⟩
 have c0:=HW0.1.cell (j:=0) rfl;have s0:=HW0.2.size;go_enter Tryz.func19,Tryz.ntmps19;go_upto_region 1 with fail;rw[←hW0];clear hW0;by_cases hbig:200<n
 ·exact zzQ86
 have zb:¬(200:Int)<(n:Int):=by omega
 go_wp2_with fail;clear c0;go_loopw[3] (fun iv wr=>∃(j:Nat),iv=.int .i64 (j:Int)∧j≤n∧(∀e∈xs.take j,yAe e)∧yA wr w.heap.size 32 1 w.heap.size [.slice (some ⟨g,o,none⟩) n cp]∧Below w.heap.size w wr) (fun iv _=>n-(intOf iv).toNat);case atStart=>exact⟨0,rfl,Nat.zero_le _,by simp,HW0.out⟩
 case round=>
  obtain⟨j,rfl,hj,hG,hB,hb⟩:=hrel;have HJ:Hid ((∀e∈xs.take j,yAe e)∧yA wr w.heap.size 32 1 w.heap.size [.slice (some ⟨g,o,none⟩) n cp]∧Below w.heap.size w wr):=⟨hG,hB,hb⟩;have c0:=hB.cell (j:=0) rfl;have sr:=hb.size;clear hG hB hb HW0;by_cases hlt:j<n
  ·have zj:(j:Int)<(n:Int):=by omega
   obtain⟨e,he⟩:∃e,xs[j]?=some e:=⟨_,List.getElem?_eq_getElem (by have:=HN.out;omega)⟩;obtain⟨d0,d1,d2,d3,d4,d5,d6⟩:=(HO.1.at.below HJ.2.2 hg) j e he;have ok:=HO.2 e (List.mem_of_getElem? he);have HE:Hid (e.s.size≤maxLen∧e.t.size≤maxLen∧e∈xs∧xs.take (j+1)=xs.take j++ [e]):=⟨ok.s,ok.t,List.mem_of_getElem? he,by rw[List.take_add_one,he];rfl⟩;clear ok he;go_wp2_with fail;refine(yU7 e wr HE.1 HE.2.1).mono ?_;rintro r w2 ⟨b,rfl,hb,hb2⟩;have HB:Hid (b=true↔yAe e):=hb;have HJ2:Hid (yA w2 w.heap.size 32 1 w.heap.size [.slice (some ⟨g,o,none⟩) n cp]∧Below w.heap.size w w2):=⟨HJ.2.1.below hb2,HJ.2.2.trans (hb2.mono sr)⟩;clear hb hb2 c0 d0 d1 d2 d3 d4 d5 d6;cases b
   ·have HF:Hid (¬yCk xs):=fun q=>by have:=HB.2 (yHd q e HE.2.2.1);cases this
    go_wp2_with fail;go_ret;exact⟨_,rfl,by simp[HF.out],HJ2.2⟩
   ·go_wp2_with fail;go_roundw;case rel=>
     refine⟨j+1,by go_num,by omega,?_,HJ2.1,HJ2.2⟩;intro e' he';rw[HE.2.2.2]at he';rcases List.mem_append.1 he' with h|h
     ·exact HJ.1 e' h
     ·simp at h;subst h;exact HB.1 (by first|rfl|trivial)
    case measure=>simp[intOf];omega
  ·have zj:¬(j:Int)<(n:Int):=by omega
   have HA:Hid (∀e∈xs,yAe e):=by have h1:=HJ.1;rw[List.take_of_length_le (by have:=HN.out;omega)]at h1;exact h1
   have hWin:Win wr g o cp xs:=⟨HO.1.at.below HJ.2.2 hg,by omega,by rw[←HN.out];exact hcp.1,by omega,by have:=HN.out;omega⟩;have HT:Hid (Calls Tryz.prog 48 #[.slice (some ⟨g,o,none⟩) n cp] wr fun r w'=>w'=wr∧((r=.returned (.bool true)∧IsT 1 xs)∨(r=.returned (.bool false)∧¬IsT 1 xs))):=by rw[HN.out];exact yPj hWin
   have HNe:Hid (∀s,ShT goodB [s] xs→Calls Tryz.prog 49 #[.slice (some ⟨g,o,none⟩) n cp] wr fun r w'=>r=.returned (.int .i64 (s.nest:Int))∧Below wr.heap.size wr w'):=fun s hs=>by rw[HN.out];exact yQ0 goodB xs.length wr g o cp xs s (Nat.le_refl _) hWin hs
   clear hWin;go_wp2_with fail;refine HT.mono ?_;rintro r w2 ⟨hw2,(⟨rfl,hT⟩|⟨rfl,hT⟩)⟩
   ·rw[hw2];clear hw2;obtain⟨ss,hl,hs⟩:=IsT.shapes goodB hT;obtain⟨s,rfl⟩:∃s,ss= [s]:=by
     match ss,hl with
     | [s],_=>exact⟨s,rfl⟩
    have HSh:Hid (ShT goodB [s] xs):=hs;have HV:Hid (s.valid=true):=by show s.valid=true;have h1:=ShT.valid goodB hs;have h2:xs.all goodB=true:=List.all_eq_true.2 (fun e he=>(yHe e).2 (HA.out e he));rw[h2]at h1;simpa using h1
    have HF:Hid (yCk xs↔s.nest≤20):=by
     show yCk xs↔_;constructor
     ·rintro⟨_,t,ht,_,hn⟩;rw[yTs hs ht];exact hn
     ·intro hn;exact⟨by have:=HN.out;omega,s,hs,HV.out,hn⟩
    clear hT hl hs;go_wp2_with fail;refine(HNe.out s HSh.out).mono ?_;rintro r w3 ⟨rfl,hb3⟩;have HB3:Hid (Below w.heap.size w w3):=HJ.2.2.trans (hb3.mono sr);clear hb3 c0;go_wp2_with fail;go_ret;exact⟨_,rfl,by rw[HF.out];simp<;>omega,HB3.out⟩
   ·rw[hw2];clear hw2;have HF:Hid (¬yCk xs):=fun q=>by obtain⟨_,s,hs,_⟩:=q;exact hT hs.tree
    clear hT;go_wp2_with fail;go_ret;exact⟨_,rfl,by simp[HF.out],HJ.2.2⟩
section
section
variable {T:Type} (V:Nd→List T→T)
inductive TrV:List T→List Nd→Prop
 |nil:TrV [] []
 |snoc {ss os:List T} {xs:List Nd} (n:Nd) (ho:os.length=yAk n.kind) (h:TrV (ss++os) xs):TrV (ss++ [V n os]) (xs++ [n])
def yR1 (st:List T) (n:Nd):Option (List T):=
 if st.length<yAk n.kind then none else some (st.take (st.length-yAk n.kind)++ [V n (st.drop (st.length-yAk n.kind))])
def yB3 (st:List T):List Nd→Option (List T)
 | []=>some st
 |n::ns=>(yR1 V st n).bind fun s=>yB3 s ns
theorem yD8 (st:List T) (xs ys:List Nd):yB3 V st (xs++ys)=(yB3 V st xs).bind (fun s=>yB3 V s ys):=by
 induction xs generalizing st with
 |nil=>rfl
 |cons x xs ih=>
  simp only[List.cons_append,yB3];cases yR1 V st x with
  |none=>rfl
  |some s=>exact ih s
theorem IsT.trv {k:Nat} (h:IsT k xs):∃ss,ss.length=k∧TrV V ss xs:=by
 induction h with
 |nil=>exact⟨[],rfl,.nil⟩
 | @snoc k xs n h ih=>
   obtain⟨ss,hl,hs⟩:=ih;refine⟨ss.take k++ [V n (ss.drop k)],by simp;omega,.snoc n (by simp;omega) ?_⟩;rw[List.take_append_drop];exact hs
theorem TrV.tree {ss:List T} (h:TrV V ss xs):IsT ss.length xs:=by exact zzQ92
theorem TrV.fold {ss:List T} (h:TrV V ss xs):∀st,yB3 V st xs=some (st++ss):=by
 induction h with
 |nil=>intro st;simp[yB3]
 | @snoc ss os xs n ho h ih=>
   intro st;rw[yD8,ih];simp only[Option.bind_some,yB3,yR1];rw[if_neg (by simp;omega)];have hl:(st++(ss++os)).length-yAk n.kind=(st++ss).length:=by simp;omega
   rw[hl,←List.append_assoc,List.take_left,List.drop_left,List.append_assoc];simp
theorem TrV.one {ss ts:List T} (h:TrV V ss xs) (k:TrV V ts xs):ss=ts:=by have a:=h.fold V [];have b:=k.fold V [];rw[a]at b;simpa using b
theorem TrV.split {ss:List T} (h:TrV V ss xs):∀{a b:List T},ss=a++b→∃ys zs,xs=ys++zs∧TrV V a ys∧TrV V b zs:=by
 induction h with
 |nil=>intro a b e;obtain⟨rfl,rfl⟩:a= []∧b= []:=by simpa using e.symm
       exact⟨[],[],rfl,.nil,.nil⟩
 | @snoc ss os xs n ho h ih=>
   intro a b e;rcases List.eq_nil_or_concat b with rfl|⟨b',z,rfl⟩
   ·simp at e;subst e;exact⟨xs++ [n],[],by simp,.snoc n ho h,.nil⟩
   ·rw[List.concat_eq_append,←List.append_assoc]at e;have e2:=List.append_inj' e rfl;obtain⟨e3,e4⟩:=e2;simp at e4;subst e3 e4;obtain⟨ys,zs,rfl,h1,h2⟩:=ih (a:=a) (b:=b'++os) (by simp);refine⟨ys,zs++ [n],by simp,h1,?_⟩;rw[List.concat_eq_append];exact .snoc n ho h2
theorem TrV.inv {s:T} (h:TrV V [s] xs):∃ys n os,xs=ys++ [n]∧os.length=yAk n.kind∧TrV V os ys∧s=V n os:=by exact zzQ70
inductive KidV:List T→List (List Nd)→Prop
 |nil:KidV [] []
 |cons {o:T} {os:List T} {k:List Nd} {ks:List (List Nd)} (h:TrV V [o] k) (t:KidV os ks):KidV (o::os) (k::ks)
theorem TrV.kids:∀{os:List T} {ys:List Nd},TrV V os ys→∃ks,ys=ks.flatten∧KidV V os ks
 | [],ys,h=>by
   have:=(TrV.tree V h).zero
   subst this
   exact⟨[],rfl,.nil⟩
 |o::os,ys,h=>by
  obtain⟨a,b,rfl,h1,h2⟩:=TrV.split V h (a:= [o]) (b:=os) rfl
  obtain⟨ks,rfl,hk⟩:=TrV.kids h2
  exact⟨a::ks,rfl,.cons h1 hk⟩
theorem KidV.length {os:List T} {ks:List (List Nd)} (h:KidV V os ks):os.length=ks.length:=by
 induction h with
 |nil=>rfl
 |cons _ _ ih=>simp[ih]
theorem KidV.nth {os:List T} {ks:List (List Nd)} (h:KidV V os ks):∀{j:Nat} {k:List Nd},ks[j]?=some k→∃o,os[j]?=some o∧TrV V [o] k:=by
 induction h with
 |nil=>intro j k hk;simp at hk
 |cons h1 _ ih=>
  intro j k hk;cases j with
  |zero=>simp at hk;subst hk;exact⟨_,rfl,h1⟩
  |succ j=>simp at hk;simpa using ih hk
end
def isK (xs:List Nd) (k:Int):Prop:=∃n,xs= [n]∧n.kind=k
open Classical in
noncomputable def normOf (e:Nd) (ns:List (List Nd)):List Nd:=
 match ns with
 | [a,b]=>
   if e.kind=14 then
    if isK a 1∨isK b 2 then b else if isK b 1∨isK a 2∨(isK a 3∧isK b 3)then a else a++b++ [e]
   else
    if isK a 2 then b else if isK b 2∨isK a 1∨a=b then a else a++b++ [e]
 | [p,a,b]=>if isK p 1 then a else if isK p 2 then b else if a=b then a else p++a++b++ [e]
 |_=> [e]
variable {e:Nd}
theorem yWu {ns:List (List Nd)} {x:Nd} (h:x∈normOf e ns):x=e∨∃k∈ns,x∈k:=by
 unfold normOf at h;split at h
 ·rename_i a b;have fin:x∈a++b++ [e]→x=e∨∃k∈ [a,b],x∈k:=fun q=>by
   simp at q;rcases q with q|q|q
   ·exact .inr ⟨a,by simp,q⟩
   ·exact .inr ⟨b,by simp,q⟩
   ·exact .inl q
  split at h
  ·split at h
   ·exact .inr ⟨b,by simp,h⟩
   ·split at h
    ·exact .inr ⟨a,by simp,h⟩
    ·exact fin h
  ·split at h
   ·exact .inr ⟨b,by simp,h⟩
   ·split at h
    ·exact .inr ⟨a,by simp,h⟩
    ·exact fin h
 ·rename_i p a b;split at h
  ·exact .inr ⟨a,by simp,h⟩
  ·split at h
   ·exact .inr ⟨b,by simp,h⟩
   ·split at h
    ·exact .inr ⟨a,by simp,h⟩
    ·simp at h;rcases h with q|q|q|q
     ·exact .inr ⟨p,by simp,q⟩
     ·exact .inr ⟨a,by simp,q⟩
     ·exact .inr ⟨b,by simp,q⟩
     ·exact .inl q
 ·simp at h;exact .inl h
theorem yWv {ns:List (List Nd)}:(normOf e ns).length≤ns.flatten.length+1:=by
 unfold normOf;split
 ·repeat' split
  all_goals simp
  all_goals omega
 ·repeat' split
  all_goals simp
  all_goals omega
 ·simp
theorem yI8:∀(n:Nat) {y:List Nd} {xs:List Nd},xs.length≤n→TrV normOf [y] xs→(∀x∈y,x∈xs)∧y.length≤xs.length
 |0,y,xs,hn,h=>by
  obtain⟨ys,e,os,rfl,_⟩:=TrV.inv _ h
  simp at hn
 |n+1,y,xs,hn,h=>by
  obtain⟨ys,e,os,rfl,_,h2,rfl⟩:=TrV.inv _ h
  obtain⟨ks,rfl,hK⟩:=TrV.kids _ h2
  simp only[List.length_append,List.length_singleton]at hn
  have hk:∀(j:Nat) (o:List Nd),os[j]?=some o→∃k∈ks,(∀x∈o,x∈k)∧o.length≤k.length:=fun j o ho=>by
   have hj:=(List.getElem?_eq_some_iff.1 ho).1
   obtain⟨k,hk⟩:∃k,ks[j]?=some k:=⟨_,List.getElem?_eq_getElem (by have:=KidV.length _ hK;omega)⟩
   obtain⟨o',ho',ht⟩:=KidV.nth _ hK hk
   rw[ho]at ho'
   cases ho'
   have hm:=List.mem_of_getElem? hk
   have:=yD5 hm
   exact⟨k,hm,yI8 n (by omega) ht⟩
  refine⟨fun x hx=>?_,?_⟩
  ·rcases yWu hx with rfl|⟨o,ho,hxo⟩
   ·simp
   ·obtain⟨j,hj⟩:=List.getElem?_of_mem ho
    obtain⟨k,hm,h3,_⟩:=hk j o hj
    exact List.mem_append_left _ (List.mem_flatten.2 ⟨k,hm,h3 x hxo⟩)
  ·have h4:∀{os:List (List Nd)} {ks:List (List Nd)},KidV normOf os ks→(∀k∈ks,k.length≤n)→os.flatten.length≤ks.flatten.length:=by
    intro os ks h;induction h with
    |nil=>intro _;simp
    |cons h1 t ih=>
     intro hb;have h5:=(yI8 n (hb _ (by simp)) h1).2;have h6:=ih (fun k hk=>hb k (by simp[hk]));simp only[List.flatten_cons,List.length_append];omega
   have h7:=h4 hK (fun k hk=>by have:=yD5 hk;omega);have h8:=yWv (e:=e) (ns:=os);simp only[List.length_append,List.length_singleton];omega
def yGo (xs y:List Nd):Prop:=TrV normOf [y] xs
theorem yJm {y z:List Nd} (h:yGo xs y) (k:yGo xs z):y=z:=by have:=TrV.one _ h k;simpa using this
theorem yWw (h:IsT 1 xs):∃y,yGo xs y:=by
 obtain⟨ss,hl,hs⟩:=IsT.trv normOf h;match ss,hl with
 | [y],_=>exact⟨y,hs⟩
theorem yXf {a b:ByteArray} (h:a.toList=b.toList):a=b:=by
 rw[ByteArray.toList_eq,ByteArray.toList_eq]at h;cases a with
 |mk a=>cases b with
  |mk b=>
   simp only at h;congr 1;exact Array.toList_inj.1 h
def yAw (k:Int):Nd:=⟨k,⟨#[]⟩,false,⟨#[]⟩,0,0,0⟩
theorem yHc (h:yAe e) (hk:e.kind=1∨e.kind=2∨e.kind=3∨e.kind=14∨e.kind=15∨e.kind=16):e=yAw e.kind:=by
 have hE:(⟨#[]⟩:ByteArray).toList= []:=by rw[ByteArray.toList_eq]
 obtain⟨kind,s,hi,t,lo,up,n⟩:=e;obtain⟨_,_,_,h4⟩:=h;simp only at hk h4;have h5:s.toList= []∧hi=false∧t.toList= []∧lo=0∧up=0∧n=0:=by
  rcases h4 with⟨q,_⟩|⟨q,_⟩|⟨q,_⟩|⟨q,_⟩|⟨_,q⟩
  ·omega
  ·omega
  ·omega
  ·omega
  ·exact q
 obtain⟨h1,rfl,h2,rfl,rfl,rfl⟩:=h5;have e1:s=⟨#[]⟩:=yXf (by rw[h1,hE]);have e2:t=⟨#[]⟩:=yXf (by rw[h2,hE]);rw[e1,e2];rfl
theorem yQ8 {k:Int} (h:isK xs k) (hg:∀x∈xs,yAe x) (hk:k=1∨k=2∨k=3):xs= [yAw k]:=by obtain⟨n,rfl,rfl⟩:=h;rw[yHc (hg n (by simp)) (by omega)];rfl
end
open Classical in
noncomputable def isKB (xs:List Nd) (k:Int):Bool:=decide (isK xs k)
theorem yB9 (xs:List Nd) (k:Int):isKB xs k=true↔isK xs k:=by unfold isKB;simp
open Classical in
noncomputable def sameB (xs ys:List Nd):Bool:=decide (xs=ys)
theorem yGz (xs ys:List Nd):sameB xs ys=true↔xs=ys:=by unfold sameB;simp
theorem yC0 {k:Int} (h:¬isK xs k):isKB xs k=false:=by
 cases q:isKB xs k with
 |false=>rfl
 |true=>exact absurd ((yB9 xs k).1 q) h
theorem yI0 {ys:List Nd} (h:¬xs=ys):sameB xs ys=false:=by
 cases q:sameB xs ys with
 |false=>rfl
 |true=>exact absurd ((yGz xs ys).1 q) h
theorem yK8.form {v:Value} (h:yK8 w v xs):∃a c,v=.slice a xs.length c∧(xs≠ []→∃b o,a=some ⟨b,o,none⟩∧yAy w b o xs∧b<w.heap.size∧xs.length≤c∧c≤maxLen):=by
 rcases h with⟨a,cap,rfl,rfl⟩|⟨b,off,cap,rfl,hE,hlt,h1,h2⟩
 ·exact⟨a,cap,rfl,fun q=>absurd rfl q⟩
 ·exact⟨_,cap,rfl,fun _=>⟨b,off,rfl,hE,hlt,h1,h2⟩⟩
theorem yQ1 (x y:Nd):∃B:Bool,(B=false↔x=y)∧∀wx,(binOp .neq 75 (.agg #[.int .i64 x.kind,.string x.s,.bool x.hi,.string x.t,.int .u64 x.lo,.int .u64 x.up,.int .i64 x.n]) (.agg #[.int .i64 y.kind,.string y.s,.bool y.hi,.string y.t,.int .u64 y.lo,.int .u64 y.up,.int .i64 y.n])).run Tryz.prog wx=.ok (.bool B) wx:=by
 obtain⟨k,s,h,t,l,u,n⟩:=x;obtain⟨k',s',h',t',l',u',n'⟩:=y;refine⟨! decide (k=k'∧s.toList=s'.toList∧h=h'∧t.toList=t'.toList∧l=l'∧u=u'∧n=n'),?_,fun wx=>?_⟩
 ·rw[Bool.not_eq_eq_eq_not,Bool.not_false,decide_eq_true_eq];constructor
  ·rintro⟨rfl,h1,rfl,h2,rfl,rfl,rfl⟩;rw[yXf h1,yXf h2]
  ·intro q;cases q
   exact⟨rfl,rfl,rfl,rfl,rfl,rfl,rfl⟩
 ·go_simp;repeat' split
  all_goals simp_all
theorem yHi (es fs:List Nd):yBr (es++fs)=yBr es++yBr fs:=by simp[yBr]
theorem yNj {b off:Nat} (h:yAy w b off es):∀j u,(yBr es)[j]?=some u→w.cell? ((⟨b,off,none⟩:Addr).add j)=some u:=by
 intro j u hu;have hj:j<es.length*7:=by rw[←yDf];exact(List.getElem?_eq_some_iff.1 hu).1
 obtain⟨e,he⟩:∃e,es[j/7]?=some e:=⟨_,List.getElem?_eq_getElem (by omega)⟩;have hg:=yLq es (j/7) e he (j%7) (Nat.mod_lt _ (by omega));rw[show j/7*7+j%7=j by omega,hu]at hg;obtain⟨c0,c1,c2,c3,c4,c5,c6⟩:=h (j/7) e he;rw[Addr.add_mid,show off+j=off+j/7*7+j%7 by omega];have hm:j%7<7:=Nat.mod_lt _ (by omega);generalize j%7=m at*;match m,hm,hg with
 |0,_,hg=>rw[Nat.add_zero,c0,hg];rfl
 |1,_,hg=>rw[c1,hg];rfl
 |2,_,hg=>rw[c2,hg];rfl
 |3,_,hg=>rw[c3,hg];rfl
 |4,_,hg=>rw[c4,hg];rfl
 |5,_,hg=>rw[c5,hg];rfl
 |6,_,hg=>rw[c6,hg];rfl
theorem yUn (es:List Nd):∀u∈yBr es,u.oneCell'=true:=by intro u hu;unfold yBr at hu;obtain⟨e,_,he⟩:=List.mem_flatMap.1 hu;simp at he;rcases he with rfl|rfl|rfl|rfl|rfl|rfl|rfl<;>rfl
variable {rest:List Oper} {Q:Exit→Act→World→Prop}
theorem yAi {ops:Array Oper} {o:Oper} {a:Act} (w:World) (hgd:o.guard=none) (s x:Operand)
  (ho:o.op=.call {callee:=.builtin .append,args:=#[s,x],argTypes:=#[30,30]})
  (base g cp n b off m cx:Nat) (fs es:List Nd) (hs:a.eval s=.slice (some ⟨g,0,none⟩) n cp) (hx:a.eval x=.slice (some ⟨b,off,none⟩) m cx) (hn:n=fs.length) (hm:m=es.length) (hO:yAm w base g cp fs)
  (hc:yAy w b off es) (hlen:fs.length+es.length≤2^30) (hbase:base≤w.heap.size)
  (h:∀g' cp' w',yAm w' base g' cp' (fs++es)→w.grownBy w' (some g)→(g'=g∨g'=w.heap.size)→wpList Tryz.prog ops Q rest (a.put o.dst (.slice (some ⟨g',0,none⟩) (n+m) cp')) w'):wpList Tryz.prog ops Q (o::rest) a w:=by
 subst hn hm;obtain⟨i,hi,hz0,hz1,hz2⟩:=info_parts Tryz.infoNd;refine wpList_append_own_at w hgd s x 30 ho base 75 i _ 7 72 Tryz.underlying30 hi hz0 hz1 hz2 rfl (by decide) (.slice (some ⟨g,0,none⟩) fs.length cp) fs.length (yBr fs) hs hO ⟨b,off,none⟩ es.length cx (yBr es) hx (yDf es) (yNj hc) (yUn es) ?_ ?_ hbase ?_
 ·unfold maxLen;omega
 ·omega
 ·intro v' w' hO' hgr hnil hat;rcases hO'.2 with⟨h0,_⟩|⟨g',cap',cur,hv,_,_,hn,hcap,_,_⟩
  ·have:=(hnil.1 h0).1;cases this
  ·subst hv;refine h g' cap' w' ?_ hgr ?_
   ·unfold yAm;rw[List.length_append,yHi];exact hO'
   ·simp[Value.ownBlock]at hat;exact hat
theorem yJ8 {α:Type} {ns:List (List α)} {k:Nat} {y:List α} (h:ns[k]?=some y):(ns.take (k+1)).flatten=(ns.take k).flatten++y:=by rw[List.take_add_one,h];simp
theorem yVc {α:Type} (ns:List (List α)) (k:Nat):(ns.take k).flatten.length≤ns.flatten.length:=by
 have h:ns.flatten=(ns.take k).flatten++(ns.drop k).flatten:=by rw[←List.flatten_append,List.take_append_drop]
 rw[h,List.length_append];omega
structure DInv (base cb:Nat) (bv:Value) (n:Nat) (w wr:World):Prop where
 d:yAf base cb bv n wr
 c:Chg (fun k=>k=cb) w wr
 lt:cb<w.heap.size
 hb:base≤w.heap.size
variable {cb:Nat} {bv:Value}
theorem DInv.start (h:yAf base cb bv n w):DInv base cb bv n w w:=⟨h,Chg.of_below (Below.refl _ _),h.lt.2,h.base⟩
variable {wr w1:World}
theorem DInv.call (h:DInv base cb bv n w wr) (hd:Drew base cb bv n wr w1):DInv base cb bv n w w1:=⟨hd.1,h.c.trans hd.2,h.lt,h.hb⟩
theorem DInv.below (h:DInv base cb bv n w wr) (hd:Below wr.heap.size wr w1):DInv base cb bv n w w1:=⟨h.d.below hd,h.c.trans (Chg.of_below hd),h.lt,h.hb⟩
theorem DInv.grow (h:DInv base cb bv n w wr) {row:Option Nat} (hg:wr.grownBy w1 row) (hr:∀k,row=some k→w.heap.size≤k):DInv base cb bv n w w1:=by have hc:Chg (fun k=>row=some k) wr w1:=Chg.of_grown hg (fun k q=>q);have hl:=h.lt;have hbb:=h.hb;exact⟨h.d.chg hc (fun q=>by have:=hr _ q;omega) (fun k q=>by have:=hr _ q;omega),Chg.grown_new h.c hg hr,h.lt,h.hb⟩
theorem yAm.chg {S:Nat→Prop} {g:Nat} (h:yAm w base g cap es) (hc:Chg S w w') (hn:¬S g):yAm w' base g cap es:=yAp h hc (fun k q=>by simp[Value.ownBlock]at q;subst q;exact hn)
theorem yDa (w:World) (base:Nat) (f:Nd) (hb:base≤w.heap.size):yAm (w.alloc (Obj.cells #[.int .i64 f.kind,.string f.s,.bool f.hi,.string f.t,.int .u64 f.lo,.int .u64 f.up,.int .i64 f.n] 75)) base w.heap.size 1 [f]:=
 World.ownsRow_lit (base:=base) (e:=75) (size:=7) w #[.int .i64 f.kind,.string f.s,.bool f.hi,.string f.t,.int .u64 f.lo,.int .u64 f.up,.int .i64 f.n] 1 hb (by decide) rfl
def TreP (base cb:Nat) (bv:Value) (n m:Nat) (w:World) (e:Ending) (w':World):Prop:=∃(g cp:Nat) (xs:List Nd),e=.returned (.slice (some ⟨g,0,none⟩) xs.length cp)∧xs.length≤m∧0<xs.length∧Hid ((∀e∈xs,e.small)∧yAm w' w.heap.size g cp xs∧DInv base cb bv n w w')
def TreC (base cb:Nat) (bv:Value) (n:Nat) (z:Int) (m:Nat):Prop:=∀w,yAf base cb bv n w→Calls Tryz.prog 39 #[.pointer (some ⟨cb,0,none⟩),.int .i64 z] w (TreP base cb bv n m w)
theorem yB6 (k:Int) (h:0≤k∧k≤100000):(⟨k,⟨#[]⟩,false,⟨#[]⟩,0,0,0⟩:Nd).small:=⟨Nat.zero_le _,Nat.zero_le _,(by show(0:Int)≤0∧(0:Int)≤100000;omega),(by show(0:Int)≤0∧(0:Int)≤100000;omega),(by show(0:Int)≤0∧(0:Int)≤100000;omega),h⟩
theorem TreP.up {m m':Nat} {e:Ending} (h:TreP base cb bv n m w e w') (hm:m≤m'):TreP base cb bv n m' w e w':=by obtain⟨g,cp,xs,h1,h2,h3,h4⟩:=h;exact⟨g,cp,xs,h1,by omega,h3,h4⟩
structure Two (base cb:Nat) (bv:Value) (n:Nat) (w:World) (ga ca gb cc:Nat) (A B:List Nd) (wr:World):Prop where
 a:yAm wr w.heap.size ga ca A
 b:yAm wr w.heap.size gb cc B
 ne:¬ga=gb
 d:DInv base cb bv n w wr
 sa:∀e∈A,e.small
 sb:∀e∈B,e.small
theorem yGs (base cb:Nat) (bv:Value) (n:Nat) (z:Int) (m:Nat) (hz0:0≤z) (hz1:z≤100) (hm:m≤10000) (HT0:0<z→TreC base cb bv n (z-1) m):TreC base cb bv n z (3*m+1):=by
 intro w h;have HT:Hid (0<z→TreC base cb bv n (z-1) m):=HT0;have HD:Hid (DInv base cb bv n w w):=DInv.start h;clear h HT0;have leafArm:∀(wx:World),DInv base cb bv n w wx→Calls Tryz.prog 77 #[.pointer (some ⟨cb,0,none⟩)] wx (LefP base cb bv n wx):=fun wx hx=>yMu base cb bv n wx hx.d;have HL:Hid (∀(wx:World),DInv base cb bv n w wx→Calls Tryz.prog 77 #[.pointer (some ⟨cb,0,none⟩)] wx (LefP base cb bv n wx)):=leafArm;clear leafArm;go_enter Tryz.func39,Tryz.ntmps39;go_wp2_with fail;refine(yAl base cb bv n 10 _ HD.d (by omega) (by omega)).mono ?_;rintro e w1 ⟨x,rfl,hx0,hx1,hd1⟩;have H1:Hid (DInv base cb bv n w w1):=HD.call hd1;have hs1:=hd1.2.size;clear hd1;by_cases hz:z=0∨x<2
 ·have fin:∀(wx wy:World) (f:Nd),DInv base cb bv n w wx→f.small→wy=wx.alloc (Obj.cells #[.int .i64 f.kind,.string f.s,.bool f.hi,.string f.t,.int .u64 f.lo,.int .u64 f.up,.int .i64 f.n] 75)→TreP base cb bv n (3*m+1) w (.returned (.slice (some ⟨wx.heap.size,0,none⟩) 1 1)) wy:=fun wx wy f hx hf hy=>by subst hy;refine⟨wx.heap.size,1,[f],rfl,by simp,by simp,fun e he=>by simp at he;subst he;exact hf,yDa wx _ f hx.c.size,hx.below (qB)⟩
  have HF:Hid (∀(wx wy:World) (f:Nd),DInv base cb bv n w wx→f.small→wy=wx.alloc (Obj.cells #[.int .i64 f.kind,.string f.s,.bool f.hi,.string f.t,.int .u64 f.lo,.int .u64 f.up,.int .i64 f.n] 75)→TreP base cb bv n (3*m+1) w (.returned (.slice (some ⟨wx.heap.size,0,none⟩) 1 1)) wy):=fin;clear fin;by_cases hz':z=0
  ·subst hz';exact zzQ71
  ·have hx2:x<2:=by omega
   have hzb:(z==0)=false:=by rw[beq_eq_false_iff_ne];exact hz'
   exact zzQ71
 ·have hzb:(z==0)=false:=by rw[beq_eq_false_iff_ne];omega
  have hx2:¬x<2:=by omega
  have HC:Hid (∀wx,DInv base cb bv n w wx→Calls Tryz.prog 39 #[.pointer (some ⟨cb,0,none⟩),.int .i64 (z-1)] wx (TreP base cb bv n m wx)):=fun wx hx=>HT.out (by omega) wx hx.d;have hzw:1≤z:=by omega
  clear hz;go_wp2_with fail;refine(HC.out _ H1.out).mono ?_;rintro e w2 ⟨ga,ca,A,rfl,hAl,hA0,K2⟩;have H2:Hid (DInv base cb bv n w w2):=⟨K2.out.2.2.d,H1.c.trans K2.out.2.2.c,H1.lt,H1.hb⟩;have hs2:=K2.out.2.2.c.size;have hga:=K2.out.2.1.lt;go_wp2_with fail;refine(HC.out _ H2.out).mono ?_;rintro e w3 ⟨gb,cc,B,rfl,hBl,hB0,K3⟩;have hs3:=K3.out.2.2.c.size;have hgb:=K3.out.2.1.lt;have H3:Hid (Two base cb bv n w ga ca gb cc A B w3):=by have hcl:=H1.lt;refine⟨(K2.out.2.1.mono (by omega)).chg K3.out.2.2.c (by omega),K3.out.2.1.mono (by omega),by omega,⟨K3.out.2.2.d,H2.c.trans K3.out.2.2.c,H1.lt,H1.hb⟩,K2.out.1,K3.out.1⟩
  clear K2 K3 H2 HD;by_cases hx6:x<6
  ·skip;go_wp2_with (at_builtin;refine yAi _ rfl _ _ rfl w.heap.size ga ca A.length gb 0 B.length cc A B rfl rfl rfl rfl H3.a H3.b.at ?hl1 ?hb1 ?_);case hl1=>omega
   case hb1=>exact H3.d.c.size
   intro g4 c4 w4 hO4 hgr4 hat4;obtain⟨Q,hQ⟩:=qE (A++B);rw[←hQ]at hO4;have HQ:Hid (Q.length=A.length+B.length):=by show _=_;rw[hQ];simp
   have H4:Hid (yAm w4 w.heap.size g4 c4 Q∧DInv base cb bv n w w4∧(∀e∈Q,e.small)):=⟨hO4,H3.d.grow hgr4 (fun k q=>by cases q;exact H3.a.lt.1),fun e he=>by rw[hQ]at he;exact(List.mem_append.1 he).elim (fun q=>H3.sa e q) (fun q=>H3.sb e q)⟩;clear hO4 hgr4 hat4 hQ;obtain⟨W5,hW5⟩:=qE (w4.alloc (Obj.cells #[.int .i64 14,.string ⟨#[]⟩,.bool false,.string ⟨#[]⟩,.int .u64 0,.int .u64 0,.int .i64 0] 75):World);have H5:Hid (yAm W5 w.heap.size g4 c4 Q∧DInv base cb bv n w W5∧yAy W5 w4.heap.size 0 [(⟨14,⟨#[]⟩,false,⟨#[]⟩,0,0,0⟩:Nd)]):=by
    have hb5:Below w4.heap.size w4 W5:=by rw[hW5];exact qB
    exact⟨H4.1.below hb5 H4.1.lt.2,H4.2.1.below hb5,by rw[hW5];exact(yDa w4 w.heap.size ⟨14,⟨#[]⟩,false,⟨#[]⟩,0,0,0⟩ H4.2.1.c.size).at⟩
   have HW5:Hid (W5=w4.alloc (Obj.cells #[.int .i64 14,.string ⟨#[]⟩,.bool false,.string ⟨#[]⟩,.int .u64 0,.int .u64 0,.int .i64 0] 75)):=hW5;clear hW5;go_wp2_with (at_builtin;rw[←HW5.out];refine yAi _ rfl _ _ rfl w.heap.size g4 c4 (A.length+B.length) w4.heap.size 0 1 1 Q [(⟨14,⟨#[]⟩,false,⟨#[]⟩,0,0,0⟩:Nd)] rfl rfl HQ.symm rfl H5.1 H5.2.2 ?hl2 ?hb2 ?_);case hl2=>rw[HQ.out];simp;omega
   case hb2=>exact H5.2.1.c.size
   intro g6 c6 w6 hO6 hgr6 hat6;have H6:Hid (TreP base cb bv n (3*m+1) w (.returned (.slice (some ⟨g6,0,none⟩) (A.length+B.length+1) c6)) w6):=by
    have hq:=HQ.out;refine⟨g6,c6,Q++ [(⟨14,⟨#[]⟩,false,⟨#[]⟩,0,0,0⟩:Nd)],by rw[List.length_append,hq];rfl,by rw[List.length_append,hq];simp;omega,by simp,fun e he=>?_,hO6,H5.2.1.grow hgr6 (fun k q=>by cases q;exact H5.1.lt.1)⟩;rcases List.mem_append.1 he with q|q
    ·exact H4.2.2 e q
    ·simp at q;subst q;exact yB6 14 (by omega)
   clear hO6 hgr6 hat6 HW5;go_wp2_with fail;go_ret;exact H6.out
  ·by_cases hx8:x<8
   ·skip;go_wp2_with (at_builtin;refine yAi _ rfl _ _ rfl w.heap.size ga ca A.length gb 0 B.length cc A B rfl rfl rfl rfl H3.a H3.b.at ?hl1 ?hb1 ?_);case hl1=>omega
    case hb1=>exact H3.d.c.size
    intro g4 c4 w4 hO4 hgr4 hat4;obtain⟨Q,hQ⟩:=qE (A++B);rw[←hQ]at hO4;have HQ:Hid (Q.length=A.length+B.length):=by show _=_;rw[hQ];simp
    have H4:Hid (yAm w4 w.heap.size g4 c4 Q∧DInv base cb bv n w w4∧(∀e∈Q,e.small)):=⟨hO4,H3.d.grow hgr4 (fun k q=>by cases q;exact H3.a.lt.1),fun e he=>by rw[hQ]at he;exact(List.mem_append.1 he).elim (fun q=>H3.sa e q) (fun q=>H3.sb e q)⟩;clear hO4 hgr4 hat4 hQ;obtain⟨W5,hW5⟩:=qE (w4.alloc (Obj.cells #[.int .i64 15,.string ⟨#[]⟩,.bool false,.string ⟨#[]⟩,.int .u64 0,.int .u64 0,.int .i64 0] 75):World);have H5:Hid (yAm W5 w.heap.size g4 c4 Q∧DInv base cb bv n w W5∧yAy W5 w4.heap.size 0 [(⟨15,⟨#[]⟩,false,⟨#[]⟩,0,0,0⟩:Nd)]):=by
     have hb5:Below w4.heap.size w4 W5:=by rw[hW5];exact qB
     exact⟨H4.1.below hb5 H4.1.lt.2,H4.2.1.below hb5,by rw[hW5];exact(yDa w4 w.heap.size ⟨15,⟨#[]⟩,false,⟨#[]⟩,0,0,0⟩ H4.2.1.c.size).at⟩
    have HW5:Hid (W5=w4.alloc (Obj.cells #[.int .i64 15,.string ⟨#[]⟩,.bool false,.string ⟨#[]⟩,.int .u64 0,.int .u64 0,.int .i64 0] 75)):=hW5;clear hW5;go_wp2_with (at_builtin;rw[←HW5.out];refine yAi _ rfl _ _ rfl w.heap.size g4 c4 (A.length+B.length) w4.heap.size 0 1 1 Q [(⟨15,⟨#[]⟩,false,⟨#[]⟩,0,0,0⟩:Nd)] rfl rfl HQ.symm rfl H5.1 H5.2.2 ?hl2 ?hb2 ?_);case hl2=>rw[HQ.out];simp;omega
    case hb2=>exact H5.2.1.c.size
    intro g6 c6 w6 hO6 hgr6 hat6;have H6:Hid (TreP base cb bv n (3*m+1) w (.returned (.slice (some ⟨g6,0,none⟩) (A.length+B.length+1) c6)) w6):=by
     have hq:=HQ.out;refine⟨g6,c6,Q++ [(⟨15,⟨#[]⟩,false,⟨#[]⟩,0,0,0⟩:Nd)],by rw[List.length_append,hq];rfl,by rw[List.length_append,hq];simp;omega,by simp,fun e he=>?_,hO6,H5.2.1.grow hgr6 (fun k q=>by cases q;exact H5.1.lt.1)⟩;rcases List.mem_append.1 he with q|q
     ·exact H4.2.2 e q
     ·simp at q;subst q;exact yB6 15 (by omega)
    clear hO6 hgr6 hat6 HW5;go_wp2_with fail;go_ret;exact H6.out
   ·by_cases hx9:x=8
    ·subst hx9;have HON:Hid (∀wx,DInv base cb bv n w wx→Calls Tryz.prog 38 #[.pointer (some ⟨cb,0,none⟩),.int .i64 3] wx fun e w'=>∃v:Value,e=.returned v∧(v=.bool true∨v=.bool false)∧Drew base cb bv n wx w'):=fun wx hx=>yA5 base cb bv n 3 wx hx.d (by omega) (by omega);go_wp2_with fail;refine(HON.out _ H3.d).mono ?_;rintro e w3' ⟨v,rfl,hv,hd⟩;have H3b:Hid (Two base cb bv n w ga ca gb cc A B w3'):=by have hcl:=H1.lt;exact⟨H3.a.chg hd.2 (by have:=H3.a.lt.1;omega),H3.b.chg hd.2 (by have:=H3.b.lt.1;omega),H3.ne,H3.d.call hd,H3.sa,H3.sb⟩
     clear H3 hd HON;rcases hv with rfl|rfl
     ·skip;go_wp2_with (at_builtin;refine yAi _ rfl _ _ rfl w.heap.size ga ca A.length ga 0 A.length ca A A rfl rfl rfl rfl H3b.a H3b.a.at ?hl1 ?hb1 ?_);case hl1=>omega
      case hb1=>exact H3b.d.c.size
      intro g4 c4 w4 hO4 hgr4 hat4;obtain⟨Q,hQ⟩:=qE (A++A);rw[←hQ]at hO4;have HQ:Hid (Q.length=A.length+A.length):=by show _=_;rw[hQ];simp
      have H4:Hid (yAm w4 w.heap.size g4 c4 Q∧DInv base cb bv n w w4∧(∀e∈Q,e.small)):=⟨hO4,H3b.d.grow hgr4 (fun k q=>by cases q;exact H3b.a.lt.1),fun e he=>by rw[hQ]at he;exact(List.mem_append.1 he).elim (fun q=>H3b.sa e q) (fun q=>H3b.sa e q)⟩;clear hO4 hgr4 hat4 hQ;obtain⟨W5,hW5⟩:=qE (w4.alloc (Obj.cells #[.int .i64 15,.string ⟨#[]⟩,.bool false,.string ⟨#[]⟩,.int .u64 0,.int .u64 0,.int .i64 0] 75):World);have H5:Hid (yAm W5 w.heap.size g4 c4 Q∧DInv base cb bv n w W5∧yAy W5 w4.heap.size 0 [(⟨15,⟨#[]⟩,false,⟨#[]⟩,0,0,0⟩:Nd)]):=by
       have hb5:Below w4.heap.size w4 W5:=by rw[hW5];exact qB
       exact⟨H4.1.below hb5 H4.1.lt.2,H4.2.1.below hb5,by rw[hW5];exact(yDa w4 w.heap.size ⟨15,⟨#[]⟩,false,⟨#[]⟩,0,0,0⟩ H4.2.1.c.size).at⟩
      have HW5:Hid (W5=w4.alloc (Obj.cells #[.int .i64 15,.string ⟨#[]⟩,.bool false,.string ⟨#[]⟩,.int .u64 0,.int .u64 0,.int .i64 0] 75)):=hW5;clear hW5;go_wp2_with (at_builtin;rw[←HW5.out];refine yAi _ rfl _ _ rfl w.heap.size g4 c4 (A.length+A.length) w4.heap.size 0 1 1 Q [(⟨15,⟨#[]⟩,false,⟨#[]⟩,0,0,0⟩:Nd)] rfl rfl HQ.symm rfl H5.1 H5.2.2 ?hl2 ?hb2 ?_);case hl2=>rw[HQ.out];simp;omega
      case hb2=>exact H5.2.1.c.size
      intro g6 c6 w6 hO6 hgr6 hat6;have H6:Hid (TreP base cb bv n (3*m+1) w (.returned (.slice (some ⟨g6,0,none⟩) (A.length+A.length+1) c6)) w6):=by
       have hq:=HQ.out;refine⟨g6,c6,Q++ [(⟨15,⟨#[]⟩,false,⟨#[]⟩,0,0,0⟩:Nd)],by rw[List.length_append,hq];rfl,by rw[List.length_append,hq];simp;omega,by simp,fun e he=>?_,hO6,H5.2.1.grow hgr6 (fun k q=>by cases q;exact H5.1.lt.1)⟩;rcases List.mem_append.1 he with q|q
       ·exact H4.2.2 e q
       ·simp at q;subst q;exact yB6 15 (by omega)
      clear hO6 hgr6 hat6 HW5;go_wp2_with fail;go_ret;exact H6.out
     ·skip;have H3d:Hid (DInv base cb bv n w w3'):=H3b.d;go_wp2_with fail;refine(HC.out _ H3d.out).mono ?_;rintro e w7 ⟨gc,cd,C,rfl,hCl,hC0,K7⟩;have hs7:=K7.out.2.2.c.size;have hgc:=K7.out.2.1.lt;have H7:Hid (Two base cb bv n w ga ca gb cc A B w7∧yAm w7 w.heap.size gc cd C∧(∀e∈C,e.small)∧¬gc=ga):=by have hcl:=H1.lt;have hza:=H3b.a.lt;have hzw:=H3b.d.c.size;exact⟨⟨H3b.a.chg K7.out.2.2.c (by omega),H3b.b.chg K7.out.2.2.c (by have:=H3b.b.lt.1;omega),H3b.ne,⟨K7.out.2.2.d,H3b.d.c.trans K7.out.2.2.c,H1.lt,H1.hb⟩,H3b.sa,H3b.sb⟩,K7.out.2.1.mono (by omega),K7.out.1,by omega⟩
      clear K7 H3d H3b;go_wp2_with (at_builtin;refine yAi _ rfl _ _ rfl w.heap.size ga ca A.length gb 0 B.length cc A B rfl rfl rfl rfl H7.1.a H7.1.b.at ?hl1 ?hb1 ?_);case hl1=>omega
      case hb1=>exact H7.1.d.c.size
      intro g4 c4 w4 hO4 hgr4 hat4;obtain⟨Q,hQ⟩:=qE (A++B);rw[←hQ]at hO4;have HQ:Hid (Q.length=A.length+B.length):=by show _=_;rw[hQ];simp
      have H4:Hid (yAm w4 w.heap.size g4 c4 Q∧DInv base cb bv n w w4∧(∀e∈Q,e.small)∧yAm w4 w.heap.size gc cd C):=⟨hO4,H7.1.d.grow hgr4 (fun k q=>by cases q;exact H7.1.a.lt.1),fun e he=>by rw[hQ]at he;exact(List.mem_append.1 he).elim (fun q=>H7.1.sa e q) (fun q=>H7.1.sb e q),H7.2.1.chg (Chg.of_grown (S:=fun k=>k=ga) hgr4 (fun k q=>by cases q;rfl)) H7.2.2.2⟩;clear hO4 hgr4 hat4 hQ;go_wp2_with (at_builtin;refine yAi _ rfl _ _ rfl w.heap.size g4 c4 (A.length+B.length) gc 0 C.length cd Q C rfl rfl HQ.symm rfl H4.1 H4.2.2.2.at ?hl2 ?hb2 ?_);case hl2=>rw[HQ.out];omega
      case hb2=>exact H4.2.1.c.size
      intro g8 c8 w8 hO8 hgr8 hat8;obtain⟨T,hTq⟩:=qE (Q++C);rw[←hTq]at hO8;have HTl:Hid (T.length=A.length+B.length+C.length):=by show _=_;rw[hTq,List.length_append,HQ.out]
      have H8:Hid (yAm w8 w.heap.size g8 c8 T∧DInv base cb bv n w w8∧(∀e∈T,e.small)):=⟨hO8,H4.2.1.grow hgr8 (fun k q=>by cases q;exact H4.1.lt.1),fun e he=>by rw[hTq]at he;exact(List.mem_append.1 he).elim (fun q=>H4.2.2.1 e q) (fun q=>H7.2.2.1 e q)⟩;clear hO8 hgr8 hat8 hTq;obtain⟨W5,hW5⟩:=qE (w8.alloc (Obj.cells #[.int .i64 16,.string ⟨#[]⟩,.bool false,.string ⟨#[]⟩,.int .u64 0,.int .u64 0,.int .i64 0] 75):World);have H5:Hid (yAm W5 w.heap.size g8 c8 T∧DInv base cb bv n w W5∧yAy W5 w8.heap.size 0 [(⟨16,⟨#[]⟩,false,⟨#[]⟩,0,0,0⟩:Nd)]):=by
       have hb5:Below w8.heap.size w8 W5:=by rw[hW5];exact qB
       exact⟨H8.1.below hb5 H8.1.lt.2,H8.2.1.below hb5,by rw[hW5];exact(yDa w8 w.heap.size ⟨16,⟨#[]⟩,false,⟨#[]⟩,0,0,0⟩ H8.2.1.c.size).at⟩
      have HW5:Hid (W5=w8.alloc (Obj.cells #[.int .i64 16,.string ⟨#[]⟩,.bool false,.string ⟨#[]⟩,.int .u64 0,.int .u64 0,.int .i64 0] 75)):=hW5;clear hW5;go_wp2_with (at_builtin;rw[←HW5.out];refine yAi _ rfl _ _ rfl w.heap.size g8 c8 (A.length+B.length+C.length) w8.heap.size 0 1 1 T [(⟨16,⟨#[]⟩,false,⟨#[]⟩,0,0,0⟩:Nd)] rfl rfl HTl.symm rfl H5.1 H5.2.2 ?hl3 ?hb3 ?_);case hl3=>rw[HTl.out];simp;omega
      case hb3=>exact H5.2.1.c.size
      exact zzQ33
    ·have hxb:(x==8)=false:=by rw[beq_eq_false_iff_ne];exact hx9
     have H3d:Hid (DInv base cb bv n w w3):=H3.d;go_wp2_with fail;refine(HC.out _ H3d.out).mono ?_;rintro e w7 ⟨gc,cd,C,rfl,hCl,hC0,K7⟩;have hs7:=K7.out.2.2.c.size;have hgc:=K7.out.2.1.lt;have H7:Hid (Two base cb bv n w ga ca gb cc A B w7∧yAm w7 w.heap.size gc cd C∧(∀e∈C,e.small)∧¬gc=ga):=by have hcl:=H1.lt;have hza:=H3.a.lt;have hzw:=H3.d.c.size;exact⟨⟨H3.a.chg K7.out.2.2.c (by omega),H3.b.chg K7.out.2.2.c (by have:=H3.b.lt.1;omega),H3.ne,⟨K7.out.2.2.d,H3.d.c.trans K7.out.2.2.c,H1.lt,H1.hb⟩,H3.sa,H3.sb⟩,K7.out.2.1.mono (by omega),K7.out.1,by omega⟩
     clear K7 H3d H3;go_wp2_with (at_builtin;refine yAi _ rfl _ _ rfl w.heap.size ga ca A.length gb 0 B.length cc A B rfl rfl rfl rfl H7.1.a H7.1.b.at ?hl1 ?hb1 ?_);case hl1=>omega
     case hb1=>exact H7.1.d.c.size
     intro g4 c4 w4 hO4 hgr4 hat4;obtain⟨Q,hQ⟩:=qE (A++B);rw[←hQ]at hO4;have HQ:Hid (Q.length=A.length+B.length):=by show _=_;rw[hQ];simp
     have H4:Hid (yAm w4 w.heap.size g4 c4 Q∧DInv base cb bv n w w4∧(∀e∈Q,e.small)∧yAm w4 w.heap.size gc cd C):=⟨hO4,H7.1.d.grow hgr4 (fun k q=>by cases q;exact H7.1.a.lt.1),fun e he=>by rw[hQ]at he;exact(List.mem_append.1 he).elim (fun q=>H7.1.sa e q) (fun q=>H7.1.sb e q),H7.2.1.chg (Chg.of_grown (S:=fun k=>k=ga) hgr4 (fun k q=>by cases q;rfl)) H7.2.2.2⟩;clear hO4 hgr4 hat4 hQ;go_wp2_with (at_builtin;refine yAi _ rfl _ _ rfl w.heap.size g4 c4 (A.length+B.length) gc 0 C.length cd Q C rfl rfl HQ.symm rfl H4.1 H4.2.2.2.at ?hl2 ?hb2 ?_);case hl2=>rw[HQ.out];omega
     case hb2=>exact H4.2.1.c.size
     intro g8 c8 w8 hO8 hgr8 hat8;obtain⟨T,hTq⟩:=qE (Q++C);rw[←hTq]at hO8;have HTl:Hid (T.length=A.length+B.length+C.length):=by show _=_;rw[hTq,List.length_append,HQ.out]
     have H8:Hid (yAm w8 w.heap.size g8 c8 T∧DInv base cb bv n w w8∧(∀e∈T,e.small)):=⟨hO8,H4.2.1.grow hgr8 (fun k q=>by cases q;exact H4.1.lt.1),fun e he=>by rw[hTq]at he;exact(List.mem_append.1 he).elim (fun q=>H4.2.2.1 e q) (fun q=>H7.2.2.1 e q)⟩;clear hO8 hgr8 hat8 hTq;obtain⟨W5,hW5⟩:=qE (w8.alloc (Obj.cells #[.int .i64 16,.string ⟨#[]⟩,.bool false,.string ⟨#[]⟩,.int .u64 0,.int .u64 0,.int .i64 0] 75):World);have H5:Hid (yAm W5 w.heap.size g8 c8 T∧DInv base cb bv n w W5∧yAy W5 w8.heap.size 0 [(⟨16,⟨#[]⟩,false,⟨#[]⟩,0,0,0⟩:Nd)]):=by
      have hb5:Below w8.heap.size w8 W5:=by rw[hW5];exact qB
      exact⟨H8.1.below hb5 H8.1.lt.2,H8.2.1.below hb5,by rw[hW5];exact(yDa w8 w.heap.size ⟨16,⟨#[]⟩,false,⟨#[]⟩,0,0,0⟩ H8.2.1.c.size).at⟩
     have HW5:Hid (W5=w8.alloc (Obj.cells #[.int .i64 16,.string ⟨#[]⟩,.bool false,.string ⟨#[]⟩,.int .u64 0,.int .u64 0,.int .i64 0] 75)):=hW5;clear hW5;go_wp2_with (at_builtin;rw[←HW5.out];refine yAi _ rfl _ _ rfl w.heap.size g8 c8 (A.length+B.length+C.length) w8.heap.size 0 1 1 T [(⟨16,⟨#[]⟩,false,⟨#[]⟩,0,0,0⟩:Nd)] rfl rfl HTl.symm rfl H5.1 H5.2.2 ?hl3 ?hb3 ?_);case hl3=>rw[HTl.out];simp;omega
     case hb3=>exact H5.2.1.c.size
     exact zzQ33
structure Ent.small (e:Ent):Prop where
 row:e.row.size≤1000
 fam:e.fam.size≤1000
 qual:e.qual.size≤1000
 val:e.val.size≤1000
 ts:0≤e.ts∧e.ts≤18446744073709551615
 kind:0≤e.kind∧e.kind≤3
variable {e:Ent}
theorem Ent.small.ok (h:e.small):e.ok where
 row:=Nat.le_trans h.row (by decide)
 fam:=Nat.le_trans h.fam (by decide)
 qual:=Nat.le_trans h.qual (by decide)
 val:=Nat.le_trans h.val (by decide)
 ts:=by
  have:=h.ts;have h1:IntKind.u64.min=0:=by decide
  have h2:IntKind.u64.max=18446744073709551615:=by decide
  simp[Lit.wf,h1,h2];omega
 kind:=by
  have:=h.kind;have h1:IntKind.i64.min= -9223372036854775808:=by decide
  have h2:IntKind.i64.max=9223372036854775807:=by decide
  simp[Lit.wf,h1,h2];omega
theorem small_zero:yHm.small:=⟨by decide,by decide,by decide,by decide,by decide,by decide⟩
structure WInv (base cb:Nat) (bv:Value) (n:Nat) (w:World) (eb rb:Nat) (f:Ent) (wr:World):Prop where
 e:OwnE wr w.heap.size eb 1 [f]
 r:OwnE wr w.heap.size rb 1 [yHm]
 ne:¬eb=rb
 d:yAf base cb bv n wr
 c:Chg (fun k=>k=cb) w wr
 lt:cb<w.heap.size
 hb:base≤w.heap.size
variable {eb rb:Nat} {f:Ent}
theorem WInv.call (h:WInv base cb bv n w eb rb f wr) (hd:Drew base cb bv n wr w1):WInv base cb bv n w eb rb f w1:=
 ⟨yAp h.e hd.2 (fun k q=>by simp[Value.ownBlock]at q;subst q;have:=h.e.lt.1;have:=h.lt;omega),yAp h.r hd.2 (fun k q=>by simp[Value.ownBlock]at q;subst q;have:=h.r.lt.1;have:=h.lt;omega),h.ne,hd.1,h.c.trans hd.2,h.lt,h.hb⟩
theorem WInv.set (h:WInv base cb bv n w eb rb f wr) (j:Nat) (f':Ent) (u:Value) (hj:j<6) (hc:f'.cells=f.cells.set j u):WInv base cb bv n w eb rb f' (wr.setCell ⟨eb,j,none⟩ u):=by have h1:=h.e.set 0 j f f' u rfl hj hc;simp only[Nat.zero_mul,Nat.zero_add]at h1;have hl:=h.e.lt;have hcb:=h.lt;have hbb:=h.hb;have hcg:Chg (fun k=>k=eb) wr (wr.setCell ⟨eb,j,none⟩ u):=Chg.of_set _ _ _ _ rfl;refine⟨h1,yAp h.r hcg (fun k q=>by simp[Value.ownBlock]at q;subst q;exact fun q=>h.ne q.symm),h.ne,h.d.chg hcg (by omega) (fun k q=>by omega),?_,h.lt,h.hb⟩;exact Chg.grown_new h.c (yBf wr eb j u) (fun k hk=>by cases hk;exact hl.1)
theorem WInv.cells (h:WInv base cb bv n w eb rb f wr):
  (wr.cell? ⟨eb,0,none⟩=some (.string f.row)∧wr.cell? ⟨eb,1,none⟩=some (.string f.fam)∧wr.cell? ⟨eb,2,none⟩=some (.string f.qual)∧wr.cell? ⟨eb,3,none⟩=some (.int .u64 f.ts)∧wr.cell? ⟨eb,4,none⟩=some (.int .i64 f.kind)∧wr.cell? ⟨eb,5,none⟩=some (.string f.val))∧∀j,wr.frozen? ⟨eb,j,none⟩=false:=by
 have:=h.e.at 0 f rfl;simp only[Nat.zero_add,Nat.zero_mul]at this;exact⟨this,fun j=>World.ownsRow.frozenAt h.e j⟩
theorem WInv.back (h:WInv base cb bv n w eb rb f wr):
  (wr.cell? ⟨rb,0,none⟩=some (.string ⟨#[]⟩)∧wr.cell? ⟨rb,1,none⟩=some (.string ⟨#[]⟩)∧wr.cell? ⟨rb,2,none⟩=some (.string ⟨#[]⟩)∧wr.cell? ⟨rb,3,none⟩=some (.int .u64 0)∧wr.cell? ⟨rb,4,none⟩=some (.int .i64 0)∧wr.cell? ⟨rb,5,none⟩=some (.string ⟨#[]⟩))∧(∀j,wr.frozen? ⟨rb,j,none⟩=false)∧
  (∀W9,W9=((((((wr.setCell ⟨rb,0,none⟩ (.string f.row)).setCell ⟨rb,1,none⟩ (.string f.fam)).setCell ⟨rb,2,none⟩ (.string f.qual)).setCell ⟨rb,3,none⟩ (.int .u64 f.ts)).setCell ⟨rb,4,none⟩ (.int .i64 f.kind)).setCell ⟨rb,5,none⟩ (.string f.val))→
   (W9.cell? ⟨rb,0,none⟩=some (.string f.row)∧W9.cell? ⟨rb,1,none⟩=some (.string f.fam)∧W9.cell? ⟨rb,2,none⟩=some (.string f.qual)∧W9.cell? ⟨rb,3,none⟩=some (.int .u64 f.ts)∧W9.cell? ⟨rb,4,none⟩=some (.int .i64 f.kind)∧W9.cell? ⟨rb,5,none⟩=some (.string f.val))∧yAf base cb bv n W9∧Chg (fun k=>k=cb) w W9):=by
 have h0:=h.r.at 0 yHm rfl;simp only[Nat.zero_add,Nat.zero_mul]at h0;refine⟨h0,fun j=>World.ownsRow.frozenAt h.r j,fun W9 hW=>?_⟩;have hp:=h.r.put 0 yHm f rfl;simp only[Nat.zero_mul,Nat.zero_add]at hp;have h1:=hp.at 0 f rfl;simp only[Nat.zero_add,Nat.zero_mul]at h1;have hl:=h.r.lt;have hcb:=h.lt;have hbb:=h.hb;have hcg:Chg (fun k=>k=rb) wr W9:=by rw[hW];exact(((((Chg.of_set (S:=fun k=>k=rb) _ _ _ _ rfl).trans (Chg.of_set (S:=fun k=>k=rb) _ _ _ _ rfl)).trans (Chg.of_set (S:=fun k=>k=rb) _ _ _ _ rfl)).trans (Chg.of_set (S:=fun k=>k=rb) _ _ _ _ rfl)).trans (Chg.of_set (S:=fun k=>k=rb) _ _ _ _ rfl)).trans (Chg.of_set (S:=fun k=>k=rb) _ _ _ _ rfl)
 refine⟨by rw[hW];exact h1,h.d.chg hcg (by omega) (fun k q=>by omega),?_⟩;have hcg2:Chg (fun k=>k=cb) w W9:=⟨hcg.os.trans h.c.os,hcg.tape.trans h.c.tape,hcg.output.trans h.c.output,Nat.le_trans h.c.size hcg.size,fun k hk hn=>(hcg.block k (Nat.lt_of_lt_of_le hk h.c.size) (by omega)).trans (h.c.block k hk hn)⟩;exact hcg2
theorem yMd (w:World) (base:Nat) (f:Ent) (hb:base≤w.heap.size):OwnE (w.alloc (Obj.cells #[.string f.row,.string f.fam,.string f.qual,.int .u64 f.ts,.int .i64 f.kind,.string f.val] 102)) base w.heap.size 1 [f]:=
 World.ownsRow_lit (base:=base) (e:=102) (size:=6) w #[.string f.row,.string f.fam,.string f.qual,.int .u64 f.ts,.int .i64 f.kind,.string f.val] 1 hb (by decide) rfl
theorem yRv (base cb:Nat) (bv:Value) (n:Nat) (w:World) (h:yAf base cb bv n w):
  Calls Tryz.prog 115 #[.pointer (some ⟨cb,0,none⟩)] w fun r w'=>∃e:Ent,r=.returned e.v∧e.small∧Drew base cb bv n w w':=by
 have hlt:=h.lt;have hbase:=h.base;obtain⟨Wa,hWa⟩:=qE (w.alloc (Obj.cells #[.string ⟨#[]⟩,.string ⟨#[]⟩,.string ⟨#[]⟩,.int .u64 0,.int .i64 0,.string ⟨#[]⟩] 102):World);have hba:Below w.heap.size w Wa:=by rw[hWa];exact qB
 have hza:Wa.heap.size=w.heap.size+1:=by rw[hWa];simp
 obtain⟨Wb,hWb⟩:=qE (Wa.alloc (Obj.cells #[.string ⟨#[]⟩,.string ⟨#[]⟩,.string ⟨#[]⟩,.int .u64 0,.int .i64 0,.string ⟨#[]⟩] 102):World);have hbb:Below Wa.heap.size Wa Wb:=by rw[hWb];exact qB
 have H0:Hid (WInv base cb bv n w (w.heap.size+1) w.heap.size yHm Wb):=by
  refine⟨?_,?_,by omega,(h.below hba).below hbb,(Chg.of_below hba).trans (Chg.of_below hbb),hlt.2,hbase⟩
  ·rw[hWb,←hza];exact yMd Wa w.heap.size yHm (by omega)
  ·have:OwnE Wa w.heap.size w.heap.size 1 [yHm]:=by rw[hWa];exact yMd w w.heap.size yHm (Nat.le_refl _)
   exact this.below hbb (by omega)
 clear h hlt;go_enter Tryz.func115,Tryz.ntmps115;go_wp2_with fail;rw[←hWa,←hWb];clear hWa hWb hba hbb hza;generalize w.heap.size+1=eb at*;refine(yWk base cb bv n _ H0.d).mono ?_;rintro e w1 ⟨s1,rfl,hs1,hd1⟩;have h1:=H0.call hd1;obtain⟨⟨c0,_⟩,f1⟩:=h1.cells;have f1':=f1 0;have H1:Hid (WInv base cb bv n w eb w.heap.size {yHm with row:=s1} (w1.setCell ⟨eb,0,none⟩ (.string s1))):=h1.set 0 _ _ (by omega) rfl;clear h1 hd1 f1;go_wp2_with fail;refine(yW6 base cb bv n _ H1.d).mono ?_;rintro e w2 ⟨s2,rfl,hs2,hd2⟩;have h2:=H1.call hd2;obtain⟨⟨_,c1,_⟩,f1⟩:=h2.cells;have f2':=f1 1;have H2:Hid (WInv base cb bv n w eb w.heap.size {yHm with row:=s1,fam:=s2} (w2.setCell ⟨eb,1,none⟩ (.string s2))):=h2.set 1 _ _ (by omega) rfl;clear h2 hd2 f1 c0 f1';go_wp2_with fail;refine(yT1 base cb bv n _ H2.d).mono ?_;rintro e w3 ⟨s3,rfl,hs3,hd3⟩;have h3:=H2.call hd3;obtain⟨⟨_,_,c2,_⟩,f1⟩:=h3.cells;have f3':=f1 2;have H3:Hid (WInv base cb bv n w eb w.heap.size {yHm with row:=s1,fam:=s2,qual:=s3} (w3.setCell ⟨eb,2,none⟩ (.string s3))):=h3.set 2 _ _ (by omega) rfl;clear h3 hd3 f1 c1 f2';go_wp2_with fail;refine(yYw base cb bv n _ H3.d).mono ?_;rintro e w4 ⟨t,rfl,ht,hd4⟩;have h4:=H3.call hd4;obtain⟨⟨_,_,_,c3,_⟩,f1⟩:=h4.cells;have f4':=f1 3;have H4:Hid (WInv base cb bv n w eb w.heap.size {yHm with row:=s1,fam:=s2,qual:=s3,ts:=t} (w4.setCell ⟨eb,3,none⟩ (.int .u64 t))):=h4.set 3 _ _ (by omega) rfl;clear h4 hd4 f1 c2 f3';go_wp2_with fail;refine(yAl base cb bv n 10 _ H4.d (by omega) (by omega)).mono ?_;rintro e w5 ⟨x,rfl,hx0,hx1,hd5⟩;have H5:Hid (WInv base cb bv n w eb w.heap.size {yHm with row:=s1,fam:=s2,qual:=s3,ts:=t} w5):=H4.call hd5;clear hd5 c3 f4';have fin:∀(f:Ent) (wr:World),WInv base cb bv n w eb w.heap.size f wr→f.small→∀W9,W9=((((((wr.setCell ⟨w.heap.size,0,none⟩ (.string f.row)).setCell ⟨w.heap.size,1,none⟩ (.string f.fam)).setCell ⟨w.heap.size,2,none⟩ (.string f.qual)).setCell ⟨w.heap.size,3,none⟩ (.int .u64 f.ts)).setCell ⟨w.heap.size,4,none⟩ (.int .i64 f.kind)).setCell ⟨w.heap.size,5,none⟩ (.string f.val))→
   ∃e:Ent,Ending.returned (Value.agg #[.string f.row,.string f.fam,.string f.qual,.int .u64 f.ts,.int .i64 f.kind,.string f.val])=.returned e.v∧e.small∧Drew base cb bv n w W9:=fun f wr hw hf W9 hW=>⟨f,rfl,hf,(hw.back.2.2 W9 hW).2⟩
 have HF:Hid (∀(f:Ent) (wr:World),WInv base cb bv n w eb w.heap.size f wr→f.small→∀W9,W9=((((((wr.setCell ⟨w.heap.size,0,none⟩ (.string f.row)).setCell ⟨w.heap.size,1,none⟩ (.string f.fam)).setCell ⟨w.heap.size,2,none⟩ (.string f.qual)).setCell ⟨w.heap.size,3,none⟩ (.int .u64 f.ts)).setCell ⟨w.heap.size,4,none⟩ (.int .i64 f.kind)).setCell ⟨w.heap.size,5,none⟩ (.string f.val))→
   ∃e:Ent,Ending.returned (Value.agg #[.string f.row,.string f.fam,.string f.qual,.int .u64 f.ts,.int .i64 f.kind,.string f.val])=.returned e.v∧e.small∧Drew base cb bv n w W9):=fin
 clear fin;by_cases hx7:x<7
 ·go_wp2_with fail;refine(yA9 base cb bv n 0 3 _ H5.d (by omega) (by omega) (by omega)).mono ?_;rintro e w6 ⟨s6,rfl,hs6,hd6⟩;have h6:=H5.call hd6;obtain⟨⟨_,_,_,_,_,c5⟩,f1⟩:=h6.cells;have f6':=f1 5;have H6:Hid (WInv base cb bv n w eb w.heap.size ⟨s1,s2,s3,t,0,s6⟩ (w6.setCell ⟨eb,5,none⟩ (.string s6))∧(⟨s1,s2,s3,t,0,s6⟩:Ent).small):=⟨h6.set 5 _ _ (by omega) rfl,⟨hs1,hs2,hs3,by show s6.size≤1000;omega,ht,by simp⟩⟩;clear h6 hd6 f1;go_upto_region 12 with fail;obtain⟨W7,hW7⟩:=qE (w6.setCell ⟨eb,5,none⟩ (.string s6):World);rw[←hW7];have H7:Hid (WInv base cb bv n w eb w.heap.size ⟨s1,s2,s3,t,0,s6⟩ W7∧(⟨s1,s2,s3,t,0,s6⟩:Ent).small):=by rw[hW7];exact H6.out
  clear hW7 H6;obtain⟨⟨k0,k1,k2,k3,k4,k5⟩,_⟩:=H7.1.cells;obtain⟨⟨l0,l1,l2,l3,l4,l5⟩,lf,_⟩:=H7.1.back;simp only at k0 k1 k2 k3 k4 k5;obtain⟨W9,hW9⟩:=qE (((((((W7.setCell ⟨w.heap.size,0,none⟩ (.string (⟨s1,s2,s3,t,0,s6⟩:Ent).row)).setCell ⟨w.heap.size,1,none⟩ (.string (⟨s1,s2,s3,t,0,s6⟩:Ent).fam)).setCell ⟨w.heap.size,2,none⟩ (.string (⟨s1,s2,s3,t,0,s6⟩:Ent).qual)).setCell ⟨w.heap.size,3,none⟩ (.int .u64 (⟨s1,s2,s3,t,0,s6⟩:Ent).ts)).setCell ⟨w.heap.size,4,none⟩ (.int .i64 (⟨s1,s2,s3,t,0,s6⟩:Ent).kind)).setCell ⟨w.heap.size,5,none⟩ (.string (⟨s1,s2,s3,t,0,s6⟩:Ent).val)):World);obtain⟨⟨p0,p1,p2,p3,p4,p5⟩,_⟩:=H7.1.back.2.2 W9 hW9;have HR:=HF.out ⟨s1,s2,s3,t,0,s6⟩ W7 H7.1 H7.2 W9 hW9;exact yYi
 ·cases hx7e:(x==7)
  ·obtain⟨⟨_,_,_,_,c4,_⟩,f1⟩:=H5.cells;have f6':=f1 4;have H6:Hid (WInv base cb bv n w eb w.heap.size ⟨s1,s2,s3,t,1,⟨#[]⟩⟩ (w5.setCell ⟨eb,4,none⟩ (.int .i64 1))∧(⟨s1,s2,s3,t,1,⟨#[]⟩⟩:Ent).small):=⟨H5.set 4 _ _ (by omega) rfl,⟨hs1,hs2,hs3,by show(0:Nat)≤1000;omega,ht,by simp⟩⟩;clear f1;go_upto_region 12 with fail;obtain⟨W7,hW7⟩:=qE (w5.setCell ⟨eb,4,none⟩ (.int .i64 1):World);rw[←hW7];have H7:Hid (WInv base cb bv n w eb w.heap.size ⟨s1,s2,s3,t,1,⟨#[]⟩⟩ W7∧(⟨s1,s2,s3,t,1,⟨#[]⟩⟩:Ent).small):=by rw[hW7];exact H6.out
   clear hW7 H6;obtain⟨⟨k0,k1,k2,k3,k4,k5⟩,_⟩:=H7.1.cells;obtain⟨⟨l0,l1,l2,l3,l4,l5⟩,lf,_⟩:=H7.1.back;simp only at k0 k1 k2 k3 k4 k5;obtain⟨W9,hW9⟩:=qE (((((((W7.setCell ⟨w.heap.size,0,none⟩ (.string (⟨s1,s2,s3,t,1,⟨#[]⟩⟩:Ent).row)).setCell ⟨w.heap.size,1,none⟩ (.string (⟨s1,s2,s3,t,1,⟨#[]⟩⟩:Ent).fam)).setCell ⟨w.heap.size,2,none⟩ (.string (⟨s1,s2,s3,t,1,⟨#[]⟩⟩:Ent).qual)).setCell ⟨w.heap.size,3,none⟩ (.int .u64 (⟨s1,s2,s3,t,1,⟨#[]⟩⟩:Ent).ts)).setCell ⟨w.heap.size,4,none⟩ (.int .i64 (⟨s1,s2,s3,t,1,⟨#[]⟩⟩:Ent).kind)).setCell ⟨w.heap.size,5,none⟩ (.string (⟨s1,s2,s3,t,1,⟨#[]⟩⟩:Ent).val)):World);obtain⟨⟨p0,p1,p2,p3,p4,p5⟩,_⟩:=H7.1.back.2.2 W9 hW9;have HR:=HF.out ⟨s1,s2,s3,t,1,⟨#[]⟩⟩ W7 H7.1 H7.2 W9 hW9;exact yYi
  ·obtain⟨⟨_,_,_,_,c4,_⟩,f1⟩:=H5.cells;have f6':=f1 4;have H6:Hid (WInv base cb bv n w eb w.heap.size ⟨s1,s2,s3,t,2,⟨#[]⟩⟩ (w5.setCell ⟨eb,4,none⟩ (.int .i64 2))∧(⟨s1,s2,s3,t,2,⟨#[]⟩⟩:Ent).small):=⟨H5.set 4 _ _ (by omega) rfl,⟨hs1,hs2,hs3,by show(0:Nat)≤1000;omega,ht,by simp⟩⟩;clear f1;go_upto_region 12 with fail;obtain⟨W7,hW7⟩:=qE (w5.setCell ⟨eb,4,none⟩ (.int .i64 2):World);rw[←hW7];have H7:Hid (WInv base cb bv n w eb w.heap.size ⟨s1,s2,s3,t,2,⟨#[]⟩⟩ W7∧(⟨s1,s2,s3,t,2,⟨#[]⟩⟩:Ent).small):=by rw[hW7];exact H6.out
   clear hW7 H6;obtain⟨⟨k0,k1,k2,k3,k4,k5⟩,_⟩:=H7.1.cells;obtain⟨⟨l0,l1,l2,l3,l4,l5⟩,lf,_⟩:=H7.1.back;simp only at k0 k1 k2 k3 k4 k5;obtain⟨W9,hW9⟩:=qE (((((((W7.setCell ⟨w.heap.size,0,none⟩ (.string (⟨s1,s2,s3,t,2,⟨#[]⟩⟩:Ent).row)).setCell ⟨w.heap.size,1,none⟩ (.string (⟨s1,s2,s3,t,2,⟨#[]⟩⟩:Ent).fam)).setCell ⟨w.heap.size,2,none⟩ (.string (⟨s1,s2,s3,t,2,⟨#[]⟩⟩:Ent).qual)).setCell ⟨w.heap.size,3,none⟩ (.int .u64 (⟨s1,s2,s3,t,2,⟨#[]⟩⟩:Ent).ts)).setCell ⟨w.heap.size,4,none⟩ (.int .i64 (⟨s1,s2,s3,t,2,⟨#[]⟩⟩:Ent).kind)).setCell ⟨w.heap.size,5,none⟩ (.string (⟨s1,s2,s3,t,2,⟨#[]⟩⟩:Ent).val)):World);obtain⟨⟨p0,p1,p2,p3,p4,p5⟩,_⟩:=H7.1.back.2.2 W9 hW9;have HR:=HF.out ⟨s1,s2,s3,t,2,⟨#[]⟩⟩ W7 H7.1 H7.2 W9 hW9;exact yYi
def cB (a b:ByteArray):Int:=Lib.compareBytes a.data.toList b.data.toList
theorem yC3:∀a b:List UInt8,Op.bytesLess a b=true→Lib.compareBytes a b= -1
 | [],[]=>by simp[Op.bytesLess]
 | [],_::_=>by simp[Lib.compareBytes]
 |_::_,[]=>by simp[Op.bytesLess]
 |a::x,b::y=>by
  intro h
  simp only[Op.bytesLess,Bool.or_eq_true,decide_eq_true_eq,Bool.and_eq_true,beq_iff_eq]at h
  unfold Lib.compareBytes
  rcases h with h|⟨rfl,h⟩
  ·rw[if_pos h]
  ·have hn:¬a<a:=by simp
   rw[if_neg hn,if_neg hn];exact yC3 x y h
theorem yC1:∀a:List UInt8,Lib.compareBytes a a=0
 | []=>rfl
 |a::x=>by
  unfold Lib.compareBytes
  have hn:¬a<a:=by simp
  rw[if_neg hn,if_neg hn];exact yC1 x
theorem yC2:∀a b:List UInt8,Op.bytesLess a b=false→(a==b)=false→Lib.compareBytes a b=1
 | [],[]=>by simp
 | [],_::_=>by simp[Op.bytesLess]
 |_::_,[]=>by simp[Lib.compareBytes]
 |a::x,b::y=>by
  intro h h2
  simp only[Op.bytesLess,Bool.or_eq_false_iff,decide_eq_false_iff_not]at h
  unfold Lib.compareBytes
  rw[if_neg h.1]
  by_cases hb:b<a
  ·rw[if_pos hb]
  ·rw[if_neg hb]
   have hab:a=b:=by have h1:=h.1;rw[UInt8.lt_iff_toNat_lt]at h1 hb;exact UInt8.toNat_inj.1 (by omega)
   subst hab;refine yC2 x y ?_ ?_
   ·simpa using h.2
   ·simpa using h2
theorem yH2 (a b:List UInt8):Lib.compareBytes a b= -1∨Lib.compareBytes a b=0∨Lib.compareBytes a b=1:=by
 cases h:Op.bytesLess a b
 ·cases h2:(a==b)
  ·exact .inr (.inr (yC2 a b h h2))
  ·rw[beq_iff_eq]at h2;subst h2;exact .inr (.inl (yC1 a))
 ·exact .inl (yC3 a b h)
theorem yCi (a b:ByteArray):cB a b= -1∨cB a b=0∨cB a b=1:=yH2 _ _
variable {a b:ByteArray}
theorem xAd (h:Op.bytesLess a.toList b.toList=true):cB a b= -1:=by rw[ByteArray.toList_eq,ByteArray.toList_eq]at h;exact yC3 _ _ h
theorem xAc (h:Op.bytesLess a.toList b.toList=false) (h2:(a.toList==b.toList)=false):cB a b=1:=by rw[ByteArray.toList_eq,ByteArray.toList_eq]at h h2;exact yC2 _ _ h h2
theorem xAb (h2:(a.toList==b.toList)=true):cB a b=0:=by rw[ByteArray.toList_eq,ByteArray.toList_eq,beq_iff_eq]at h2;unfold cB;rw[h2];exact yC1 _
def yAq (a b:Int):Int:=if a=0 then b else a
def yA8 (k l:Int):Int:=if k=2 then(if l=2 then 0 else-1)else(if l=2 then 1 else 0)
def yEc (t u:Int):Int:=if u<t then-1 else if t<u then 1 else 0
def yAh (a b:Ent):Int:=yAq (cB a.row b.row) (yAq (cB a.fam b.fam) (yAq (cB a.qual b.qual) (yAq (yA8 a.kind b.kind) (yEc a.ts b.ts))))
theorem yL9 {k:IntKind} {a b:Int} (h:a=b):Ending.returned (.int k a)=.returned (.int k b):=by rw[h]
theorem yUy (a b:ByteArray) (w:World):
  Calls Tryz.prog 123 #[.string a,.string b] w fun e w'=>e=.returned (.int .i64 (cB a b))∧w'=w:=by
 cases h:Op.bytesLess a.toList b.toList
 ·cases h2:(a.toList==b.toList)
  ·have H:Hid (cB a b=1):=xAc h h2;exact yYb
  ·have H:Hid (cB a b=0):=xAb h2;exact yYb
 ·have H:Hid (cB a b= -1):=xAd h;exact yYb
theorem yPp (a b:Int) (w:World):
  Calls Tryz.prog 122 #[.int .i64 a,.int .i64 b] w fun e w'=>e=.returned (.int .i64 (yAq a b))∧w'=w:=by
 unfold yAq;by_cases h:a=0
 ·have h':(a != 0)=false:=by simp[h]
  rw[if_pos h];clear h;go_enter Tryz.func122,Tryz.ntmps122;go_wp2;go_ret;exact⟨rfl,rfl⟩
 ·have h':(a != 0)=true:=by simp[h]
  rw[if_neg h];clear h;go_enter Tryz.func122,Tryz.ntmps122;go_wp2;go_ret;exact⟨rfl,rfl⟩
set_option maxRecDepth 100000 in
theorem yH1 (a b:ByteArray) (w:World):
  Calls Tryz.prog 164 #[.string a,.string b] w fun e w'=>e=.returned (.int .i64 (cB a b))∧w'=w:=by
 go_enter Tryz.func164,Tryz.ntmps164;go_wp2;rw[run_callFunc_extern Tryz.func172 (by kernel_rfl) (by kernel_rfl) (by kernel_rfl) (e:=Extern.BytealgCompare.compare) (by kernel_rfl),Lib.run_compareString];simp only[Result.andThen];rw[Oper.upon_value];go_wp2;go_ret;exact⟨rfl,rfl⟩
theorem yGt (a b:ByteArray) (w:World):
  Calls Tryz.prog 150 #[.string a,.string b] w fun e w'=>e=.returned (.int .i64 (cB a b))∧w'=w:=by
 go_enter Tryz.func150,Tryz.ntmps150;go_wp2_with (go_at_call 164;refine(yH1 _ _ _).mono ?_;rintro e w' ⟨rfl,rfl⟩);go_ret;exact⟨rfl,rfl⟩
theorem ySr (a b:Int) (w:World):
  Calls Tryz.prog 130 #[.int .u64 a,.int .u64 b] w fun e w'=>e=.returned (.int .i64 (yEc b a))∧w'=w:=by
 unfold yEc;by_cases h:a<b
 ·rw[if_pos h];go_enter Tryz.func130,Tryz.ntmps130;go_wp2;go_ret;exact⟨rfl,rfl⟩
 ·rw[if_neg h];by_cases h2:b<a
  ·rw[if_pos h2];go_enter Tryz.func130,Tryz.ntmps130;go_wp2;go_ret;exact⟨rfl,rfl⟩
  ·rw[if_neg h2];go_enter Tryz.func130,Tryz.ntmps130;go_wp2;go_ret;exact⟨rfl,rfl⟩
def tri (x:Int):Prop:=x= -1∨x=0∨x=1
theorem yGr {a b:Int} (h:tri a) (k:tri b):tri (yAq a b):=by
 unfold yAq;split
 ·exact k
 ·exact h
theorem yLv (k l:Int):tri (yA8 k l):=by
 unfold yA8 tri;repeat' split
 all_goals omega
theorem tri_ts (k l:Int):tri (yEc k l):=by
 unfold yEc tri;repeat' split
 all_goals omega
theorem yCz (a b:Ent):yAh a b= -1∨yAh a b=0∨yAh a b=1:=
 yGr (yCi _ _) (yGr (yCi _ _) (yGr (yCi _ _) (yGr (yLv _ _) (tri_ts _ _))))
def yEm (a b:Ent):Int:=yAq (cB a.row b.row) (yAq (cB a.fam b.fam) (cB a.qual b.qual))
theorem yBx (a b:Ent) (w:World):
  Calls Tryz.prog 129 #[a.v,b.v] w fun e w'=>e=.returned (.int .i64 (yEm a b))∧Below w.heap.size w w':=by
 unfold yEm yAq Ent.v;by_cases h1:cB a.row b.row=0
 ·have g1:(cB a.row b.row != 0)=false:=by simp[h1]
  rw[if_pos h1];clear h1;by_cases h2:cB a.fam b.fam=0
  ·have g2:(cB a.fam b.fam != 0)=false:=by simp[h2]
   rw[if_pos h2];clear h2;exact yYk
  ·have g2:(cB a.fam b.fam != 0)=true:=by simp[h2]
   rw[if_neg h2];clear h2;exact yYk
 ·have g1:(cB a.row b.row != 0)=true:=by simp[h1]
  rw[if_neg h1];clear h1;exact yYk
theorem yHg (a b c:Int):yAq (yAq a b) c=yAq a (yAq b c):=by
 unfold yAq;by_cases h:a=0
 ·simp[h]
 ·simp[h]
theorem yFx (a b:Ent):yAh a b=yAq (yEm a b) (yAq (yA8 a.kind b.kind) (yEc a.ts b.ts)):=by unfold yAh yEm;rw[yHg,yHg]
variable {a b:Ent}
theorem yU1 (h:¬yEm a b=0):yAh a b=yEm a b:=by rw[yFx];unfold yAq;rw[if_neg h]
theorem yPt (h:yEm a b=0) (h1:a.kind=2) (h2:¬b.kind=2):yAh a b= -1:=by rw[yFx];unfold yAq yA8;simp[h,h1,h2]
theorem yPs (h:yEm a b=0) (h1:¬a.kind=2) (h2:b.kind=2):yAh a b=1:=by rw[yFx];unfold yAq yA8;simp[h,h1,h2]
theorem yU0 (h:yEm a b=0) (h1:(a.kind=2)↔(b.kind=2)):yAh a b=yEc a.ts b.ts:=by
 rw[yFx];unfold yAq yA8;by_cases h2:a.kind=2
 ·simp[h,h2,h1.1 h2]
 ·have h3:¬b.kind=2:=fun x=>h2 (h1.2 x);simp[h,h2,h3]
theorem yPy (a b:Ent) (w:World):
  Calls Tryz.prog 101 #[a.v,b.v] w fun e w'=>e=.returned (.int .i64 (yAh a b))∧Below w.heap.size w w':=by
 by_cases h1:yEm a b=0
 ·have g1:(yEm a b != 0)=false:=by simp[h1]
  by_cases ha:a.kind=2
  ·have ga:(a.kind==2)=true:=by simp[ha]
   by_cases hb:b.kind=2
   ·have gb:(b.kind==2)=true:=by simp[hb]
    exact zzQ41
   ·have gb:(b.kind==2)=false:=by simp[hb]
    have H:Hid (yAh a b= -1):=yPt h1 ha hb;clear h1 ha hb;go_enter Tryz.func101,Tryz.ntmps101;go_wp2_with fail;refine(yBx a b _).mono ?_;rintro e w1 ⟨rfl,hb1⟩;obtain⟨hc1,hf1⟩:=yP8 hb1;have hz1:w.heap.size+1<w1.heap.size:=by have:=hb1.size;simp at this;omega
    exact yYm
  ·have ga:(a.kind==2)=false:=by simp[ha]
   by_cases hb:b.kind=2
   ·have gb:(b.kind==2)=true:=by simp[hb]
    have H:Hid (yAh a b=1):=yPs h1 ha hb;clear h1 ha hb;go_enter Tryz.func101,Tryz.ntmps101;go_wp2_with fail;refine(yBx a b _).mono ?_;rintro e w1 ⟨rfl,hb1⟩;obtain⟨hc1,hf1⟩:=yP8 hb1;have hz1:w.heap.size+1<w1.heap.size:=by have:=hb1.size;simp at this;omega
    exact yYm
   ·have gb:(b.kind==2)=false:=by simp[hb]
    exact zzQ41
 ·have g1:(yEm a b != 0)=true:=by simp[h1]
  have H:Hid (yAh a b=yEm a b):=yU1 h1;clear h1;go_enter Tryz.func101,Tryz.ntmps101;go_wp2_with fail;refine(yBx a b _).mono ?_;rintro e w1 ⟨rfl,hb1⟩;exact yYm
def kt (a b:Ent) (K T:Int):Prop:=yAh a b=yAq (cB a.row b.row) (yAq (cB a.fam b.fam) (yAq (cB a.qual b.qual) (yAq K T)))
theorem kt_of {K T:Int} (hk:yA8 a.kind b.kind=K) (ht:yEc a.ts b.ts=T):kt a b K T:=by unfold kt yAh;rw[hk,ht]
theorem kinds (a b:Ent):
  ((a.kind==2)=true∧(a.kind != 2)=false∧(b.kind==2)=true∧(b.kind != 2)=false∧yA8 a.kind b.kind=0)∨
  ((a.kind==2)=true∧(a.kind != 2)=false∧(b.kind==2)=false∧(b.kind != 2)=true∧yA8 a.kind b.kind= -1)∨
  ((a.kind==2)=false∧(a.kind != 2)=true∧(b.kind==2)=true∧(b.kind != 2)=false∧yA8 a.kind b.kind=1)∨
  ((a.kind==2)=false∧(a.kind != 2)=true∧(b.kind==2)=false∧(b.kind != 2)=true∧yA8 a.kind b.kind=0):=by
 unfold yA8;by_cases ha:a.kind=2<;>by_cases hb:b.kind=2<;>simp[ha,hb]
theorem tss (a b:Ent):
  (b.ts<a.ts∧¬a.ts<b.ts∧yEc a.ts b.ts= -1)∨(¬b.ts<a.ts∧a.ts<b.ts∧yEc a.ts b.ts=1)∨(¬b.ts<a.ts∧¬a.ts<b.ts∧yEc a.ts b.ts=0):=by
 unfold yEc;by_cases h1:b.ts<a.ts
 ·exact .inl ⟨h1,by omega,by simp[h1]⟩
 ·by_cases h2:a.ts<b.ts
  ·exact .inr (.inl ⟨h1,h2,by simp[h1,h2]⟩)
  ·exact .inr (.inr ⟨h1,h2,by simp[h1,h2]⟩)
theorem yDm (a b:Ent) (w:World):
  Calls Tryz.prog 94 #[a.v,b.v] w fun e w'=>e=.returned (.int .i64 (yAh a b))∧Below w.heap.size w w':=by
 unfold Ent.v;rcases kinds a b with⟨ga,ga',gb,gb',hk⟩|⟨ga,ga',gb,gb',hk⟩|⟨ga,ga',gb,gb',hk⟩|⟨ga,ga',gb,gb',hk⟩;all_goals rcases tss a b with⟨h1,h2,ht⟩|⟨h1,h2,ht⟩|⟨h1,h2,ht⟩
 all_goals
  have H:=kt_of hk ht;clear hk ht;go_enter Tryz.func94,Tryz.ntmps94;go_wp2;go_quiet ((first|(go_at_call 123;exact Calls.quiet_of_same (yUy _ _ _))|(go_at_call 122;exact Calls.quiet_of_same (yPp _ _ _))));go_wp2;go_ret;exact⟨yL9 H.symm,below_drewN ((qB).alloc (by simp) _) _⟩
def Ent.vld (e:Ent):Bool:=vE e.row e.fam e.qual e.kind e.val
def yC (a b:Ent):Bool:=(a.row.toList==b.row.toList) && ((a.fam.toList==b.fam.toList) && (a.qual.toList==b.qual.toList))
theorem yEe (a b:Ent) (w:World):
  Calls Tryz.prog 95 #[a.v,b.v] w fun e w'=>e=.returned (.bool (yC a b))∧Below w.heap.size w w':=by
 unfold yC Ent.v;cases h1:(a.row.toList==b.row.toList)
 ·exact yYc
 ·cases h2:(a.fam.toList==b.fam.toList)
  ·exact yYc
  ·exact yYc
def yCm (p e:Ent):Bool:=(yAh p e== -1) && !((p.kind==2) && ((e.kind==2) && yC p e))
def yK9 (es:List Ent):Prop:=es.length≤10000∧∀e∈es,e.vld=true
def Pairs (es:List Ent):Prop:=∀i p e,es[i]?=some p→es[i+1]?=some e→yCm p e=true
def yC4 (es:List Ent):Prop:=yK9 es∧Pairs es
theorem iffF {p:Prop} (h:¬p):(false=true↔p):=⟨fun x=>Bool.noConfusion x,fun x=>absurd x h⟩
theorem iffT {p:Prop} (h:p):(true=true↔p):=⟨fun _=>h,fun _=>rfl⟩
variable {es:List Ent} {k:Nat}
theorem yI6 (h:∀x∈es.take k,x.vld=true) (he:es[k]?=some e) (hv:e.vld=true):∀x∈es.take (k+1),x.vld=true:=by
 intro x hx;rw[List.take_add_one,he]at hx;simp at hx;rcases hx with hx|rfl
 ·exact h x hx
 ·exact hv
def yDv (es:List Ent) (k:Nat):Prop:=∀i p e,i+1<k→es[i]?=some p→es[i+1]?=some e→yCm p e=true
variable {p:Ent}
theorem yFh {m:Nat} (h:yDv es (m+1)) (hp:es[m]?=some p) (he:es[m+1]?=some e) (ho:yCm p e=true):yDv es (m+1+1):=by
 intro i p' e' hi h1 h2;by_cases hm:i=m
 ·subst hm;rw[hp]at h1;rw[he]at h2;simp at h1 h2;subst h1 h2;exact ho
 ·exact h i p' e' (by omega) h1 h2
theorem yJk (h:yDv es k) (hk:es.length≤k):Pairs es:=by intro i p e h1 h2;have:=(List.getElem?_eq_some_iff.1 h2).1;exact h i p e (by omega) h1 h2
theorem yAu {ops:Array Oper} {o:Oper} {a:Act} (w:World) (hgd:o.guard=none) (s x:Operand)
  (ho:o.op=.call {callee:=.builtin .append,args:=#[s,x],argTypes:=#[88,88]})
  (base g cp n blk:Nat) (fs:List Ent) (e:Ent) (hs:a.eval s=.slice (some ⟨g,0,none⟩) n cp) (hx:a.eval x=.slice (some ⟨blk,0,none⟩) 1 1) (hn:n=fs.length) (hO:OwnE w base g cp fs)
  (hc:yA7 w blk 0 [e]) (hlen:fs.length≤2^30) (hbase:base≤w.heap.size)
  (h:∀g' cp' w',OwnE w' base g' cp' (fs++ [e])→w.grownBy w' (some g)→wpList Tryz.prog ops Q rest (a.put o.dst (.slice (some ⟨g',0,none⟩) (n+1) cp')) w'):wpList Tryz.prog ops Q (o::rest) a w:=by
 obtain⟨i,hi,hz0,hz1,hz2⟩:=info_parts Tryz.infoEnt;subst hn;obtain⟨c0,c1,c2,c3,c4,c5⟩:=hc 0 e rfl;refine wpList_append_own w hgd s x 88 ho base 102 i _ 6 80 Tryz.underlying88 hi hz0 hz1 hz2 rfl (by decide) (.slice (some ⟨g,0,none⟩) fs.length cp) fs.length (yBy fs) hs hO ⟨blk,0,none⟩ 1 1 (yBy [e]) hx rfl ?_ ?_ ?_ ?_ hbase ?_
 ·exact zzQ40
 ·intro u hu;simp[yBy]at hu;rcases hu with rfl|rfl|rfl|rfl|rfl|rfl<;>rfl
 ·unfold maxLen;omega
 ·omega
 ·intro v' w' hown hgr hnil;rw[←yHj]at hown;have hlen':(fs++ [e]).length=fs.length+1:=by simp
  rcases hown.2 with⟨hv,_⟩|⟨g',cap',cur,hv,h1,h2,h3⟩
  ·have:=(hnil.1 hv).1;simp at this
  ·subst hv;exact h g' cap' w' (by unfold OwnE;rw[hlen'];exact hown) hgr
def yCc (e:Ent):List Ent→Bool→List Ent
 | [],done=>if done then []else [e]
 |x::r,done=>
  if yAh x e= -1 then x::yCc e r done
  else if yAh x e=0 then(if done then yCc e r true else e::yCc e r true)
  else(if done then x::yCc e r true else e::x::yCc e r true)
def into (L:List Ent) (e:Ent):List Ent:=yCc e L false
theorem yD4 (e:Ent):∀(L:List Ent) (d:Bool),(yCc e L d).length≤L.length+1
 | [],d=>by unfold yCc;split<;>simp
 |x::r,d=>by
  have h1:=yD4 e r d
  have h2:=yD4 e r true
  have h3:∀(L:List Ent),(yCc e L true).length≤L.length:=by
   intro L;induction L with
   |nil=>simp[yCc]
   |cons y s ih=>
    unfold yCc;split
    ·simp;omega
    ·split
     ·simp;omega
     ·simp;omega
  have h4:=h3 r;unfold yCc;split
  ·simp;omega
  ·split
   ·split<;>simp<;>omega
   ·split<;>simp<;>omega
theorem yJ2 (b off cap:Nat) (L:List Ent) (e:Ent) (w:World) (hE:yA7 w b off L) (hB:b<w.heap.size) (hlen:L.length≤1048576):
  Calls Tryz.prog 113 #[.slice (some ⟨b,off,none⟩) L.length cap,e.v] w fun r w'=>
   ∃g cp,r=.returned (.slice (some ⟨g,0,none⟩) (into L e).length cp)∧OwnE w' w.heap.size g cp (into L e)∧Below w.heap.size w w':=by
 unfold Ent.v;obtain⟨W0,hW0⟩:=qE (w.alloc (Obj.cells #[.string e.row,.string e.fam,.string e.qual,.int .u64 e.ts,.int .i64 e.kind,.string e.val] 102):World);have hb0:Below w.heap.size w W0:=by rw[hW0];exact qB
 have hz0:W0.heap.size=w.heap.size+1:=by rw[hW0];simp
 have HX:Hid (yA7 W0 w.heap.size 0 [e]):=by
  show yA7 W0 w.heap.size 0 [e];intro j f hf;obtain rfl:j=0:=by have:=(List.getElem?_eq_some_iff.1 hf).1;simpa using this
  simp at hf;subst hf;rw[hW0];simp
 have HE:Hid (yA7 W0 b off L):=hE.below hb0 hB;have HS:Hid (OwnE (W0.alloc (Obj.cells #[] 102)) (w.heap.size+1) (w.heap.size+1) 0 []):=by show OwnE (W0.alloc (Obj.cells #[] 102)) (w.heap.size+1) (w.heap.size+1) 0 [];rw[←hz0];exact World.ownsRow_made W0 #[] 0 (Nat.le_refl _) (Nat.zero_le _) (by simp)
 clear hE;have HZ:Hid (W0.heap.size=w.heap.size+1):=hz0;have hz1:w.heap.size<W0.heap.size:=by omega
 have hz2:W0.heap.size≤w.heap.size+1:=by omega
 clear hz0;go_enter Tryz.func113,Tryz.ntmps113;go_wp2_with fail;rw[←hW0];clear hW0;go_loopw[5,6,7] (fun o d i wr=>∃(k g cp:Nat) (fs:List Ent) (dn:Bool),k≤L.length∧i=.int .i64 k∧d=.bool dn∧o=.slice (some ⟨g,0,none⟩) fs.length cp∧fs++yCc e (L.drop k) dn=into L e∧OwnE wr (w.heap.size+1) g cp fs∧Below W0.heap.size W0 wr) (fun _ _ i _=>L.length-(intOf i).toNat);case atStart=>exact⟨0,_,0,[],false,Nat.zero_le _,rfl,rfl,rfl,rfl,HS.out,qB⟩
 case round=>
  obtain⟨k,g,cp,fs,dn,hk,rfl,rfl,rfl,hin,hO,hb⟩:=hrel;have hfl:fs.length≤1048577:=by have h1:=congrArg List.length hin;have h2:=yD4 e L false;rw[List.length_append]at h1;unfold into at h1;omega
  have HI:Hid (fs++yCc e (L.drop k) dn=into L e):=hin;have HO:Hid (OwnE wr (w.heap.size+1) g cp fs):=hO;have hg:=hO.lt;have hs:=hb.size;clear hin hO;by_cases hlt:k<L.length
  ·obtain⟨x,hx⟩:∃x,L[k]?=some x:=⟨_,List.getElem?_eq_getElem hlt⟩;have hdr:L.drop k=x::L.drop (k+1):=by rw[List.drop_eq_getElem_cons hlt];rw[List.getElem?_eq_getElem hlt]at hx;simp at hx;rw[hx]
   have HD:Hid (L.drop k=x::L.drop (k+1)):=hdr;clear hdr;have hec:∀wx,Below W0.heap.size W0 wx→yA7 wx b off L∧yA7 wx w.heap.size 0 [e]:=fun wx h=>⟨HE.below h (by omega),HX.below h (by omega)⟩;have HEC:Hid (∀wx,Below W0.heap.size W0 wx→yA7 wx b off L∧yA7 wx w.heap.size 0 [e]):=hec;clear hec;obtain⟨c0,c1,c2,c3,c4,c5⟩:=(HEC.out wr hb).1 k x hx;obtain⟨d0,d1,d2,d3,d4,d5⟩:=(HEC.out wr hb).2 0 e rfl;simp only[Nat.zero_add,Nat.zero_mul]at d0 d1 d2 d3 d4 d5;have HXK:Hid (L[k]?=some x):=hx;clear hx;have z2:(k:Int)<(L.length:Int):=by omega
   go_upto_region 6 with fail;go_cut[8] (fun s wx=>s=.int .i64 (yAh x e)∧Below wr.heap.size wr wx);case first=>
    go_region_with (go_at_call 94;refine(yDm x e _).mono ?_;rintro e' w' ⟨rfl,hbb⟩);all_goals go_wp2_with fail
    all_goals go_meet
    all_goals exact⟨rfl,((Below.refl _ _).drew).trans (hbb.mono (by simp))⟩
   case rest=>
   obtain⟨rfl,h3⟩:=hcut;have hb3:=hb.trans (h3.mono hb.size);have HO3:Hid (OwnE wc (w.heap.size+1) g cp fs):=HO.below h3 hg.2;have hs3:=h3.size;clear c0 c1 c2 c3 c4 c5 d0 d1 d2 d3 d4 d5;obtain⟨c0,c1,c2,c3,c4,c5⟩:=(HEC.out wc hb3).1 k x HXK.out;obtain⟨d0,d1,d2,d3,d4,d5⟩:=(HEC.out wc hb3).2 0 e rfl;simp only[Nat.zero_add,Nat.zero_mul]at d0 d1 d2 d3 d4 d5;have yK:∀(wx:World) (f:Ent),yA7 (wx.alloc (Obj.cells #[.string f.row,.string f.fam,.string f.qual,.int .u64 f.ts,.int .i64 f.kind,.string f.val] 102)) wx.heap.size 0 [f]:=by
    intro wx f j y hy;obtain rfl:j=0:=by have:=(List.getElem?_eq_some_iff.1 hy).1;simpa using this
    simp at hy;subst hy;simp
   have HN:Hid (∀(wx:World) (f:Ent),yA7 (wx.alloc (Obj.cells #[.string f.row,.string f.fam,.string f.qual,.int .u64 f.ts,.int .i64 f.kind,.string f.val] 102)) wx.heap.size 0 [f]):=yK;clear yK;rcases yCz x e with hc|hc|hc
   ·have HC:Hid (yAh x e= -1):=hc;go_wp2_with (at_builtin;refine yAu _ rfl _ _ rfl (w.heap.size+1) g cp _ _ fs x rfl rfl rfl ?hO ?hc ?hl ?hb ?_);case hO=>exact HO3.below (qB) (by omega)
    case hc=>exact HN.out wc x
    case hl=>omega
    case hb=>simp;omega
    intro g' cp' w' hO' hgr;have HO':Hid (OwnE w' (w.heap.size+1) g' cp' (fs++ [x])):=hO';have hb':Below W0.heap.size W0 w':=(hb3.alloc hb3.size _).grown hgr (by simp;omega) (fun j hj=>by cases hj;omega);clear hO' hgr;go_wp2_with fail;go_roundw;case rel=>
     go_light;refine⟨k+1,g',cp',fs++ [x],dn,by omega,by go_num,rfl,by simp,?_,HO'.out,hb'⟩;have h:=HI.out;rw[HD.out]at h;rw[←h];simp[yCc,HC.out]
    case measure=>go_light;simp[intOf];omega
   ·have HC:Hid (yAh x e=0):=hc;cases dn
    ·go_wp2_with (at_builtin;refine yAu _ rfl _ _ rfl (w.heap.size+1) g cp _ _ (fs) e rfl rfl rfl ?hO ?hc ?hl ?hb ?_);case hO=>exact HO3.below (qB) (by omega)
     case hc=>exact HN.out wc e
     case hl=>omega
     case hb=>simp;omega
     intro g' cp' w' hO' hgr;have HO':Hid (OwnE w' (w.heap.size+1) g' cp' (fs++ [e])):=hO';have hb':Below W0.heap.size W0 w':=(hb3.alloc hb3.size _).grown hgr (by simp;omega) (fun j hj=>by cases hj;omega);clear hO' hgr;go_wp2_with fail;go_roundw;case rel=>
      go_light;refine⟨k+1,g',cp',fs++ [e],true,by omega,by go_num,rfl,by simp,?_,HO'.out,hb'⟩;have h:=HI.out;rw[HD.out]at h;rw[←h];simp[yCc,HC.out]
     case measure=>go_light;simp[intOf];omega
    ·go_wp2_with fail;go_roundw;case rel=>
      go_light;refine⟨k+1,g,cp,fs,true,by omega,by go_num,rfl,by simp,?_,HO3.out,hb3⟩;have h:=HI.out;rw[HD.out]at h;rw[←h];simp[yCc,HC.out]
     case measure=>go_light;simp[intOf];omega
   ·have HC:Hid (yAh x e=1):=hc;cases dn
    ·go_wp2_with (at_builtin;refine yAu _ rfl _ _ rfl (w.heap.size+1) g cp _ _ (fs) e rfl rfl rfl ?hO ?hc ?hl ?hb ?_);case hO=>exact HO3.below (qB) (by omega)
     case hc=>exact HN.out wc e
     case hl=>omega
     case hb=>simp;omega
     intro g1 cp1 w1 hO1 hgr1;have HO1:Hid (OwnE w1 (w.heap.size+1) g1 cp1 (fs++ [e])):=hO1;have hb1:Below W0.heap.size W0 w1:=(hb3.alloc hb3.size _).grown hgr1 (by simp;omega) (fun j hj=>by cases hj;omega);have hg1:=hO1.lt;have hs1:=hb1.size;clear hO1 hgr1 c0 c1 c2 c3 c4 c5;obtain⟨c0,c1,c2,c3,c4,c5⟩:=(HEC.out w1 hb1).1 k x HXK.out;go_wp2_with (at_builtin;refine yAu _ rfl _ _ rfl (w.heap.size+1) g1 cp1 _ _ (fs++ [e]) x rfl rfl (by simp) ?hO ?hc ?hl ?hb ?_);case hO=>exact HO1.below (qB) hg1.2
     case hc=>exact HN.out w1 x
     case hl=>simp;omega
     case hb=>simp;omega
     intro g' cp' w' hO' hgr;have HO':Hid (OwnE w' (w.heap.size+1) g' cp' (fs++ [e,x])):=hO';have hb':Below W0.heap.size W0 w':=(hb1.alloc hb1.size _).grown hgr (by simp;omega) (fun j hj=>by cases hj;omega);clear hO' hgr;go_wp2_with fail;go_roundw;case rel=>
      go_light;refine⟨k+1,g',cp',fs++ [e,x],true,by omega,by go_num,rfl,by simp,?_,HO'.out,hb'⟩;have h:=HI.out;rw[HD.out]at h;rw[←h];simp[yCc,HC.out]
     case measure=>go_light;simp[intOf];omega
    ·go_wp2_with (at_builtin;refine yAu _ rfl _ _ rfl (w.heap.size+1) g cp _ _ (fs) x rfl rfl rfl ?hO ?hc ?hl ?hb ?_);case hO=>exact HO3.below (qB) (by omega)
     case hc=>exact HN.out wc x
     case hl=>omega
     case hb=>simp;omega
     intro g' cp' w' hO' hgr;have HO':Hid (OwnE w' (w.heap.size+1) g' cp' (fs++ [x])):=hO';have hb':Below W0.heap.size W0 w':=(hb3.alloc hb3.size _).grown hgr (by simp;omega) (fun j hj=>by cases hj;omega);clear hO' hgr;go_wp2_with fail;go_roundw;case rel=>
      go_light;refine⟨k+1,g',cp',fs++ [x],true,by omega,by go_num,rfl,by simp,?_,HO'.out,hb'⟩;have h:=HI.out;rw[HD.out]at h;rw[←h];simp[yCc,HC.out]
     case measure=>go_light;simp[intOf];omega
  ·have hdr:L.drop k= []:=List.drop_eq_nil_of_le (by omega);have HD:Hid (L.drop k= []):=hdr;clear hdr;have hkk:k=L.length:=by omega
   cases dn
   ·obtain⟨d0,d1,d2,d3,d4,d5⟩:=HX.below hb (by omega) 0 e rfl;simp only[Nat.zero_add,Nat.zero_mul]at d0 d1 d2 d3 d4 d5;have HF:Hid (fs++ [e]=into L e):=by have h:=HI.out;rw[HD.out]at h;exact h
    go_wp2_with (at_builtin;refine yAu _ rfl _ _ rfl (w.heap.size+1) g cp _ _ fs e rfl rfl rfl ?hO ?hc ?hl ?hb ?_);case hO=>exact HO.below (qB) (by omega)
    case hc=>exact yS7
    case hl=>omega
    case hb=>simp;omega
    intro g' cp' w' hO' hgr;have HO':Hid (OwnE w' (w.heap.size+1) g' cp' (fs++ [e])):=hO';have hb':Below W0.heap.size W0 w':=(hb.alloc hb.size _).grown hgr (by simp;omega) (fun j hj=>by cases hj;omega);clear hO' hgr;go_wp2_with fail;go_ret;refine⟨g',cp',?_,?_,hb0.trans (hb'.mono (by omega))⟩
    ·rw[←HF.out];simp
    ·rw[←HF.out];exact HO'.mono (by omega)
   ·have HF:Hid (fs=into L e):=by have h:=HI.out;rw[HD.out]at h;show fs=into L e;simpa [yCc]using h
    go_wp2_with fail;go_ret;refine⟨g,cp,?_,?_,hb0.trans (hb.mono (by omega))⟩
    ·rw[←HF.out];rfl
    ·rw[←HF.out];exact HO.mono (by omega)
theorem yOc:∀a b:List UInt8,Lib.compareBytes a b=0↔a=b
 | [],[]=>by simp[Lib.compareBytes]
 | [],_::_=>by simp[Lib.compareBytes]
 |_::_,[]=>by simp[Lib.compareBytes]
 |a::x,b::y=>by
  unfold Lib.compareBytes
  by_cases h1:a<b
  ·rw[if_pos h1]
   constructor
   ·intro h;cases h
   ·intro h
    simp at h
    rw[h.1]at h1
    simp at h1
  ·rw[if_neg h1]
   by_cases h2:b<a
   ·rw[if_pos h2]
    constructor
    ·intro h;cases h
    ·intro h
     simp at h
     rw[h.1]at h2
     simp at h2
   ·rw[if_neg h2,yOc x y]
    have hab:a=b:=by rw[UInt8.lt_iff_toNat_lt]at h1 h2;exact UInt8.toNat_inj.1 (by omega)
    simp[hab]
theorem yRf:∀a b:List UInt8,Lib.compareBytes b a= -Lib.compareBytes a b
 | [],[]=>by simp[Lib.compareBytes]
 | [],_::_=>by simp[Lib.compareBytes]
 |_::_,[]=>by simp[Lib.compareBytes]
 |a::x,b::y=>by
  unfold Lib.compareBytes
  have:=yRf x y
  simp only[UInt8.lt_iff_toNat_lt]
  by_cases h1:a.toNat<b.toNat
  ·have h2:¬b.toNat<a.toNat:=by omega
   simp[h1,h2]
  ·by_cases h2:b.toNat<a.toNat
   ·simp[h1,h2]
   ·simp[h1,h2,this]
theorem yLn:∀a b c:List UInt8,Lib.compareBytes a b= -1→Lib.compareBytes b c= -1→Lib.compareBytes a c= -1
 | [],[],_=>by simp[Lib.compareBytes]
 | [],_::_,[]=>by simp[Lib.compareBytes]
 | [],_::_,_::_=>by simp[Lib.compareBytes]
 |_::_,[],_=>by simp[Lib.compareBytes]
 |_::_,_::_,[]=>by simp[Lib.compareBytes]
 |a::x,b::y,c::z=>by
  have ih:=yLn x y z
  unfold Lib.compareBytes
  simp only[UInt8.lt_iff_toNat_lt]
  intro h1 h2
  by_cases h3:a.toNat<c.toNat
  ·simp[h3]
  ·by_cases p1:a.toNat<b.toNat
   ·by_cases p2:b.toNat<c.toNat
    ·omega
    ·by_cases p3:c.toNat<b.toNat
     ·simp[p2,p3]at h2
     ·omega
   ·by_cases p2:b.toNat<a.toNat
    ·simp[p1,p2]at h1
    ·by_cases q1:b.toNat<c.toNat
     ·omega
     ·by_cases q2:c.toNat<b.toNat
      ·simp[q1,q2]at h2
      ·simp[p1,p2]at h1
       simp[q1,q2]at h2
       have r1:¬c.toNat<a.toNat:=by omega
       simp[h3,r1]
       exact ih h1 h2
theorem yEf {a b:ByteArray}:cB a b=0↔a=b:=by
 unfold cB;rw[yOc];constructor
 ·intro h;cases a;cases b;simp at h;simpa using h
 ·intro h;rw[h]
theorem yOf (a b:ByteArray):cB b a= -cB a b:=yRf _ _
theorem yXe {a b c:ByteArray} (h:cB a b= -1) (k:cB b c= -1):cB a c= -1:=yLn _ _ _ h k
theorem yTf (a b:Int):yEc b a= -yEc a b:=by
 unfold yEc;repeat' split
 all_goals omega
theorem yPq (a b:Int):yA8 b a= -yA8 a b:=by
 unfold yA8;repeat' split
 all_goals omega
theorem yEx (a b:Int):yAq (-a) (-b)= -yAq a b:=by
 unfold yAq;by_cases h:a=0
 ·simp[h]
 ·simp[h]
theorem yA2 (a b:Ent):yAh b a= -yAh a b:=by unfold yAh;rw[yOf a.row b.row,yOf a.fam b.fam,yOf a.qual b.qual,yPq a.kind b.kind,yTf a.ts b.ts,yEx,yEx,yEx,yEx]
theorem yDh {a b c a' b' c':Int} (h0:a=0→b=0→c=0) (h1:a= -1→b= -1→c= -1) (h2:a= -1→b=0→c= -1) (h3:a=0→b= -1→c= -1)
  (ta:tri a) (tb:tri b) (k:a'= -1→b'= -1→c'= -1) (x:yAq a a'= -1) (y:yAq b b'= -1):yAq c c'= -1:=by
 unfold yAq at*;unfold tri at*;by_cases ha:a=0
 ·rw[if_pos ha]at x;by_cases hb:b=0
  ·rw[if_pos hb]at y;rw[if_pos (h0 ha hb)];exact k x y
  ·rw[if_neg hb]at y;have:=h3 ha y;rw[if_neg (by omega)];exact this
 ·rw[if_neg ha]at x;by_cases hb:b=0
  ·have:=h2 x hb;rw[if_neg (by omega)];exact this
  ·rw[if_neg hb]at y;have:=h1 x y;rw[if_neg (by omega)];exact this
theorem yP4 (a b c:ByteArray):(cB a b=0→cB b c=0→cB a c=0)∧(cB a b= -1→cB b c= -1→cB a c= -1)∧(cB a b= -1→cB b c=0→cB a c= -1)∧(cB a b=0→cB b c= -1→cB a c= -1):=by
 refine⟨fun h k=>?_,fun h k=>yXe h k,fun h k=>?_,fun h k=>?_⟩
 ·rw[yEf]at*;rw[h,k]
 ·rw[yEf]at k;rw[←k];exact h
 ·rw[yEf]at h;rw[h];exact k
theorem yD7 {c:Ent} (h:yAh a b= -1) (k:yAh b c= -1):yAh a c= -1:=by
 obtain⟨r0,r1,r2,r3⟩:=yP4 a.row b.row c.row;obtain⟨f0,f1,f2,f3⟩:=yP4 a.fam b.fam c.fam;obtain⟨q0,q1,q2,q3⟩:=yP4 a.qual b.qual c.qual;refine yDh r0 r1 r2 r3 (yCi _ _) (yCi _ _) (fun h k=>?_) h k;refine yDh f0 f1 f2 f3 (yCi _ _) (yCi _ _) (fun h k=>?_) h k;refine yDh q0 q1 q2 q3 (yCi _ _) (yCi _ _) (fun h k=>?_) h k;refine yDh ?_ ?_ ?_ ?_ (yLv _ _) (yLv _ _) (fun h k=>?_) h k
 ·unfold yA8;(repeat' split)<;>omega
 ·unfold yA8;(repeat' split)<;>omega
 ·unfold yA8;(repeat' split)<;>omega
 ·unfold yA8;(repeat' split)<;>omega
 ·unfold yEc at*;(repeat' split at h)<;>(repeat' split at k)<;>(repeat' split)<;>omega
theorem yB1 (a:Ent):yAh a a=0:=by have:=yA2 a a;omega
def Ord (l:List Ent):Prop:=l.Pairwise fun a b=>yAh a b= -1
theorem yJl:∀{l m:List Ent},Ord l→Ord m→(∀x,x∈l↔x∈m)→l=m
 | [],[],_,_,_=>rfl
 | [],b::m,_,_,h=>by have:=(h b).2 (by simp);simp at this
 |a::l,[],_,_,h=>by have:=(h a).1 (by simp);simp at this
 |a::l,b::m,hl,hm,h=>by
  have hl':=List.pairwise_cons.1 hl
  have hm':=List.pairwise_cons.1 hm
  have hab:a=b:=by
   rcases List.mem_cons.1 ((h a).1 (by simp))with e|e
   ·exact e
   ·rcases List.mem_cons.1 ((h b).2 (by simp))with e'|e'
    ·exact e'.symm
    ·have h1:=hm'.1 a e;have h2:=hl'.1 b e';have:=yA2 a b;omega
  subst hab;congr 1;refine yJl hl'.2 hm'.2 (fun x=>⟨fun hx=>?_,fun hx=>?_⟩)
  ·rcases List.mem_cons.1 ((h x).1 (List.mem_cons_of_mem _ hx))with e|e
   ·subst e;have:=hl'.1 x hx;rw[yB1]at this;omega
   ·exact e
  ·rcases List.mem_cons.1 ((h x).2 (List.mem_cons_of_mem _ hx))with e|e
   ·subst e;have:=hm'.1 x hx;rw[yB1]at this;omega
   ·exact e
variable {a b:Int}
theorem yD9:yAq a b=0↔a=0∧b=0:=by
 unfold yAq;by_cases h:a=0
 ·simp[h]
 ·simp[h]
theorem yNx:yA8 a b=0↔(a=2↔b=2):=by unfold yA8;by_cases h:a=2<;>by_cases k:b=2<;>simp[h,k]
theorem yRx:yEc a b=0↔a=b:=by unfold yEc;(repeat' split)<;>omega
theorem yEv {a b:Ent}:yAh a b=0↔a.row=b.row∧a.fam=b.fam∧a.qual=b.qual∧(a.kind=2↔b.kind=2)∧a.ts=b.ts:=by unfold yAh;rw[yD9,yD9,yD9,yD9,yEf,yEf,yEf,yNx,yRx]
theorem yMo {c:Int} (h:a=2↔b=2):yA8 a c=yA8 b c:=by
 unfold yA8;by_cases k:a=2
 ·rw[if_pos k,if_pos (h.1 k)]
 ·rw[if_neg k,if_neg (fun x=>k (h.2 x))]
theorem yCn {a b c:Ent} (h:yAh a b=0):yAh a c=yAh b c:=by obtain⟨h1,h2,h3,h4,h5⟩:=yEv.1 h;unfold yAh;rw[h1,h2,h3,h5,yMo h4]
theorem yHy (e:Ent):∀L:List Ent,(∀x∈L,yAh e x= -1)→yCc e L true=L
 | [],_=>rfl
 |x::r,h=>by
  have h1:=h x (by simp)
  have h2:=yA2 e x
  have h3:yAh x e=1:=by omega
  unfold yCc
  rw[if_neg (by omega),if_neg (by omega),if_pos rfl,yHy e r (fun y hy=>h y (List.mem_cons_of_mem _ hy))]
theorem yJ1 (e:Ent):∀L:List Ent,Ord L→Ord (yCc e L false)∧∀x,x∈yCc e L false↔x=e∨(x∈L∧yAh x e≠0)
 | [],_=>⟨by simp[yCc,Ord],fun x=>by simp[yCc]⟩
 |x::r,h=>by
  have h':=List.pairwise_cons.1 h
  obtain⟨ih1,ih2⟩:=yJ1 e r h'.2
  rcases yCz x e with hc|hc|hc
  ·have e1:yCc e (x::r) false=x::yCc e r false:=by simp[yCc,hc]
   rw[e1]
   refine⟨List.pairwise_cons.2 ⟨fun y hy=>?_,ih1⟩,fun y=>?_⟩
   ·rcases(ih2 y).1 hy with rfl|⟨hy,_⟩
    ·exact hc
    ·exact h'.1 y hy
   ·rw[List.mem_cons,ih2,List.mem_cons]
    constructor
    ·rintro(rfl|rfl|⟨h1,h2⟩)
     ·exact .inr ⟨.inl rfl,by omega⟩
     ·exact .inl rfl
     ·exact .inr ⟨.inr h1,h2⟩
    ·rintro(rfl|⟨rfl|h1,h2⟩)
     ·exact .inr (.inl rfl)
     ·exact .inl rfl
     ·exact .inr (.inr ⟨h1,h2⟩)
  ·have hr:∀y∈r,yAh e y= -1:=fun y hy=>by rw[←yCn hc];exact h'.1 y hy
   have e1:yCc e (x::r) false=e::r:=by simp[yCc,hc,yHy e r hr]
   rw[e1];refine⟨List.pairwise_cons.2 ⟨hr,h'.2⟩,fun y=>?_⟩;rw[List.mem_cons,List.mem_cons];constructor
   ·rintro(rfl|h1)
    ·exact .inl rfl
    ·have h2:=hr y h1;have h3:=yA2 e y;exact .inr ⟨.inr h1,by omega⟩
   ·rintro(rfl|⟨rfl|h1,h2⟩)
    ·exact .inl rfl
    ·exact absurd hc h2
    ·exact .inr h1
  ·have hx:yAh e x= -1:=by have:=yA2 x e;omega
   have hr:∀y∈r,yAh e y= -1:=fun y hy=>yD7 hx (h'.1 y hy);have e1:yCc e (x::r) false=e::x::r:=by simp[yCc,hc,yHy e r hr]
   rw[e1];refine⟨List.pairwise_cons.2 ⟨fun y hy=>?_,h⟩,fun y=>?_⟩
   ·rcases List.mem_cons.1 hy with rfl|hy
    ·exact hx
    ·exact hr y hy
   ·rw[List.mem_cons];constructor
    ·rintro(rfl|h1)
     ·exact .inl rfl
     ·refine .inr ⟨h1,?_⟩;have h3:=yA2 e y;rcases List.mem_cons.1 h1 with rfl|h1
      ·omega
      ·have:=hr y h1;omega
    ·rintro(rfl|⟨h1,_⟩)
     ·exact .inl rfl
     ·exact .inr h1
def yNy (v e:Ent):Bool:=yC v e && (if(v.kind==2)=true then decide (e.ts≤v.ts)else(v.ts==e.ts))
def yF7 (ws:List Ent) (i k:Nat):Prop:=∀j v e,i<j→j<k→ws[j]?=some v→ws[i]?=some e→yNy v e=false
variable {ws:List Ent}
theorem yL1 {i:Nat} {v:Ent} (h:yF7 ws i k) (hv:ws[k]?=some v) (he:ws[i]?=some e) (hk:yNy v e=false):yF7 ws i (k+1):=by
 intro j v' e' h1 h2 h3 h4;by_cases hj:j=k
 ·subst hj;rw[hv]at h3;rw[he]at h4;simp at h3 h4;subst h3 h4;exact hk
 ·exact h j v' e' h1 (by omega) h3 h4
theorem yJ5 (b off cap:Nat) (es:List Ent) (w:World) (hE:yA7 w b off es) (hok:∀e∈es,e.ok) (hB:b<w.heap.size) (hlen:es.length≤1048576):
  Calls Tryz.prog 112 #[.slice (some ⟨b,off,none⟩) es.length cap] w fun e w'=>
   ∃r:Bool,e=.returned (.bool r)∧(r=true↔yK9 es)∧Below w.heap.size w w':=by
 have HE:Hid (yA7 w b off es):=hE;have HO:Hid (∀e∈es,e.ok):=hok;clear hE hok;by_cases hbig:10000<es.length
 ·have H:Hid (¬yK9 es):=fun h=>by have:=h.1;omega
  go_enter Tryz.func112,Tryz.ntmps112;go_wp2;go_ret;exact⟨_,rfl,iffF H.out,Below.refl _ _⟩
 go_enter Tryz.func112,Tryz.ntmps112;go_wp2;go_loopw[3] (fun i wr=>∃(k:Nat),k≤es.length∧i=.int .i64 k∧(∀x∈es.take k,x.vld=true)∧Below w.heap.size w wr) (fun i _=>es.length-(intOf i).toNat);case atStart=>exact⟨0,Nat.zero_le _,rfl,by simp,Below.refl _ _⟩
 case round=>
  obtain⟨k,hk,rfl,hv,hb⟩:=hrel;have HV:Hid (∀x∈es.take k,x.vld=true):=hv;clear hv;by_cases hlt:k<es.length
  ·obtain⟨e,he⟩:∃e,es[k]?=some e:=⟨_,List.getElem?_eq_getElem hlt⟩;obtain⟨c0,c1,c2,c3,c4,c5⟩:=(HE.below hb hB) k e he;have HK:Hid (e.ok∧es[k]?=some e):=⟨HO.out e (List.mem_of_getElem? he),he⟩;clear he;go_wp2_with fail;refine(yGa e.row e.fam e.qual e.val e.ts e.kind _ HK.1.row HK.1.fam HK.1.qual HK.1.val).mono ?_;rintro e' w1 ⟨rfl,hb1⟩;have hb2:=hb.trans (hb1.mono hb.size);clear c0 c1 c2 c3 c4 c5 hb1;cases hv:vE e.row e.fam e.qual e.kind e.val
   ·have H:Hid (¬yK9 es):=fun h=>by have:=h.2 e (List.mem_of_getElem? HK.2);unfold Ent.vld at this;rw[hv]at this;cases this
    go_wp2_with fail;go_ret;exact⟨_,rfl,iffF H.out,hb2⟩
   ·have H:Hid (∀x∈es.take (k+1),x.vld=true):=yI6 HV.out HK.2 hv;go_wp2_with fail;go_roundw;case rel=>exact⟨k+1,by omega,by go_num,H.out,hb2⟩
    case measure=>go_light;simp[intOf];omega
  ·go_wp2;go_ret;refine⟨_,rfl,iffT ⟨by omega,fun e he=>?_⟩,hb⟩;have:=HV.out;rw[List.take_of_length_le (by omega)]at this;exact this e he
theorem toList_inj {a b:ByteArray} (h:a.toList=b.toList):a=b:=by
 rw[ByteArray.toList_eq,ByteArray.toList_eq]at h;cases a;cases b
 simp at h;simpa using h
theorem yGh {a b:Ent}:yC a b=true↔a.row=b.row∧a.fam=b.fam∧a.qual=b.qual:=by
 unfold yC;simp only[Bool.and_eq_true,beq_iff_eq];constructor
 ·rintro⟨h1,h2,h3⟩;exact⟨toList_inj h1,toList_inj h2,toList_inj h3⟩
 ·rintro⟨h1,h2,h3⟩;rw[h1,h2,h3];exact⟨rfl,rfl,rfl⟩
theorem yPd (L:List Ent) (e:Ent):(into L e).length≤L.length+1:=yD4 e L false
def Rep (ws:List Ent) (k:Nat) (L:List Ent):Prop:=Ord L∧∀x,x∈L↔∃i,i<k∧ws[i]?=some x∧x.kind=0∧yF7 ws i k
def hit (x e:Ent):Bool:=yC x e && ((x.ts==e.ts) || ((e.kind==2) && decide (x.ts≤e.ts)))
theorem yNb (a b:Ent):yC a b=yC b a:=by rw[Bool.eq_iff_iff,yGh,yGh];constructor<;>rintro⟨h1,h2,h3⟩<;>exact⟨h1.symm,h2.symm,h3.symm⟩
theorem yU5 (x e:Ent):hit x e=yNy e x:=by
 unfold hit yNy;rw[yNb x e];cases yC e x
 ·rfl
 ·by_cases h2:e.kind=2
  ·by_cases h:x.ts≤e.ts
   ·simp[h2,h]
   ·have:¬x.ts=e.ts:=by omega
    simp[h2,h,this]
  ·rw[Bool.eq_iff_iff];simp[h2];exact eq_comm
theorem yWl (ws:List Ent):Rep ws 0 []:=⟨List.Pairwise.nil,fun x=>⟨fun h=>by simp at h,fun⟨i,hi,_⟩=>by omega⟩⟩
theorem yL2 (ws:List Ent) (k:Nat):yF7 ws k (k+1):=fun j v e h1 h2=>by omega
variable {x:Ent}
theorem yD0 {i:Nat} (hx:ws[i]?=some x) (he:ws[k]?=some e) (hik:i<k):yF7 ws i (k+1)↔yF7 ws i k∧yNy e x=false:=
 ⟨fun h=>⟨fun j v y h1 h2=>h j v y h1 (by omega),h k e x hik (by omega) he hx⟩,fun h=>yL1 h.1 he hx h.2⟩
theorem yN0 (hx:x.kind=0) (he:e.kind=0):yAh x e=0↔yNy e x=true:=by
 rw[yEv];unfold yNy;simp[yGh,hx,he];constructor
 ·rintro⟨h1,h2,h3,h4⟩;exact⟨⟨h1.symm,h2.symm,h3.symm⟩,h4.symm⟩
 ·rintro⟨⟨h1,h2,h3⟩,h4⟩;exact⟨h1.symm,h2.symm,h3.symm,h4.symm⟩
variable {L:List Ent}
theorem yY6 (h:Rep ws k L) (he:ws[k]?=some e) (h0:e.kind=0):Rep ws (k+1) (into L e):=by
 obtain⟨h1,h2⟩:=yJ1 e L h.1;refine⟨h1,fun x=>(h2 x).trans ⟨?_,?_⟩⟩
 ·rintro(rfl|⟨hx,hz⟩)
  ·exact⟨k,by omega,he,h0,yL2 ws k⟩
  ·obtain⟨i,hi,a,b,c⟩:=(h.2 x).1 hx;refine⟨i,by omega,a,b,(yD0 a he hi).2 ⟨c,?_⟩⟩;cases hk:yNy e x
   ·rfl
   ·exact absurd ((yN0 b h0).2 hk) hz
 ·rintro⟨i,hi,a,b,c⟩;by_cases hik:i=k
  ·subst hik;rw[he]at a;simp at a;exact .inl a.symm
  ·obtain⟨c1,c2⟩:=(yD0 a he (by omega)).1 c;refine .inr ⟨(h.2 x).2 ⟨i,by omega,a,b,c1⟩,fun hz=>?_⟩;rw[(yN0 b h0).1 hz]at c2;cases c2
theorem yY9 (h:Rep ws k L) (he:ws[k]?=some e) (h0:¬e.kind=0):Rep ws (k+1) (L.filter fun x=> !(hit x e)):=by
 refine⟨h.1.filter _,fun x=>?_⟩;rw[List.mem_filter,yU5,h.2 x];constructor
 ·rintro⟨⟨i,hi,a,b,c⟩,hk⟩;exact⟨i,by omega,a,b,(yD0 a he hi).2 ⟨c,by simpa using hk⟩⟩
 ·rintro⟨i,hi,a,b,c⟩;by_cases hik:i=k
  ·subst hik;rw[he]at a;simp at a;subst a;exact absurd b h0
  ·obtain⟨c1,c2⟩:=(yD0 a he (by omega)).1 c;exact⟨⟨i,by omega,a,b,c1⟩,by simp[c2]⟩
theorem ySb (h:yCm p e=true):yAh p e= -1:=by
 unfold yCm at h;simp only[Bool.and_eq_true,decide_eq_true_eq,Bool.not_eq_true',beq_iff_eq]at h;first
  |exact h.1
  |exact h.2
  |(have h1:=h.1;have h2:=h.2;rcases yCz p e with q|q|q<;>simp_all)
theorem yLc:∀(l:List Ent),(∀i p e,l[i]?=some p→l[i+1]?=some e→yAh p e= -1)→Ord l
 | [],_=>List.Pairwise.nil
 | [a],_=>by simp[Ord]
 |a::b::r,h=>by
  have ih:=yLc (b::r) (fun i p e h1 h2=>h (i+1) p e (by simpa using h1) (by simpa using h2))
  have hab:yAh a b= -1:=h 0 a b rfl rfl
  refine List.pairwise_cons.2 ⟨fun x hx=>?_,ih⟩
  rcases List.mem_cons.1 hx with rfl|hx
  ·exact hab
  ·exact yD7 hab ((List.pairwise_cons.1 ih).1 x hx)
theorem yO9 (h:yC4 es):Ord es:=yLc es (fun i p e h1 h2=>ySb (h.2 i p e h1 h2))
theorem yUf (h:(yAh p e != -1)=true):yCm p e=false:=by unfold yCm;simp at h;simp[h]
theorem yUe (h:(yAh p e != -1)=false) (h2:(p.kind==2)=false):yCm p e=true:=by unfold yCm;simp at h;simp[h,h2]
theorem yUd (h:(yAh p e != -1)=false) (h2:(e.kind==2)=false):yCm p e=true:=by unfold yCm;simp at h;simp[h,h2]
theorem yQy (h:(yAh p e != -1)=false) (h2:(p.kind==2)=true) (h3:(e.kind==2)=true):yCm p e= !yC p e:=by unfold yCm;simp at h;simp[h,h2,h3]
theorem yT7 (p e:Ent):
  ((yAh p e != -1)=true∧yCm p e=false)∨((yAh p e != -1)=false∧(p.kind==2)=false∧yCm p e=true)∨
  ((yAh p e != -1)=false∧(p.kind==2)=true∧(e.kind==2)=false∧yCm p e=true)∨
  ((yAh p e != -1)=false∧(p.kind==2)=true∧(e.kind==2)=true∧yC p e=true∧yCm p e=false)∨
  ((yAh p e != -1)=false∧(p.kind==2)=true∧(e.kind==2)=true∧yC p e=false∧yCm p e=true):=by
 cases h1:(yAh p e != -1)
 ·cases h2:(p.kind==2)
  ·exact .inr (.inl ⟨rfl,rfl,yUe h1 h2⟩)
  ·cases h3:(e.kind==2)
   ·exact .inr (.inr (.inl ⟨rfl,rfl,rfl,yUd h1 h3⟩))
   ·cases h4:yC p e
    ·exact .inr (.inr (.inr (.inr ⟨rfl,rfl,rfl,rfl,by rw[yQy h1 h2 h3,h4];rfl⟩)))
    ·exact .inr (.inr (.inr (.inl ⟨rfl,rfl,rfl,rfl,by rw[yQy h1 h2 h3,h4];rfl⟩)))
 ·exact .inl ⟨rfl,yUf h1⟩
theorem yHs (b off cap:Nat) (es:List Ent) (w:World) (hE:yA7 w b off es) (hok:∀e∈es,e.ok) (hB:b<w.heap.size) (hlen:es.length≤cap) (hcap:cap≤maxLen):
  Calls Tryz.prog 51 #[.agg #[.slice (some ⟨b,off,none⟩) es.length cap]] w fun e w'=>
   ∃r:Bool,e=.returned (.bool r)∧(r=true↔yC4 es)∧Below w.heap.size w w':=by
 obtain⟨W0,hW0⟩:=qE (w.alloc (Obj.cells #[.slice (some ⟨b,off,none⟩) es.length cap] 90):World);have hb0:Below w.heap.size w W0:=by rw[hW0];exact qB
 have hz0:w.heap.size<W0.heap.size:=by rw[hW0];simp
 have ca:W0.cell? ⟨w.heap.size,0,none⟩=some (.slice (some ⟨b,off,none⟩) es.length cap):=by rw[hW0];simp
 have HE:Hid (yA7 W0 b off es):=hE.below hb0 hB;have HO:Hid (∀e∈es,e.ok):=hok;clear hE hok;unfold maxLen at hcap;by_cases hbig:10000<es.length
 ·have H:Hid (¬yC4 es):=fun h=>by have:=h.1.1;omega
  go_enter Tryz.func51,Tryz.ntmps51;go_wp2;go_ret;exact⟨_,rfl,iffF H.out,qB⟩
 go_enter Tryz.func51,Tryz.ntmps51;go_wp2_with fail;rw[←hW0];clear hW0;go_loopw[3] (fun i wr=>∃(k:Nat),k≤es.length∧i=.int .i64 k∧(∀x∈es.take k,x.vld=true)∧yDv es k∧Below W0.heap.size W0 wr) (fun i _=>es.length-(intOf i).toNat);case atStart=>exact⟨0,Nat.zero_le _,rfl,by simp,fun i p e hi=>by omega,Below.refl _ _⟩
 case round=>
  obtain⟨k,hk,rfl,hv,hP,hb⟩:=hrel;have HV:Hid ((∀x∈es.take k,x.vld=true)∧yDv es k):=⟨hv,hP⟩;clear hv hP;have hs2:=hb.size;have car:wr.cell? ⟨w.heap.size,0,none⟩=some (.slice (some ⟨b,off,none⟩) es.length cap):=by rw[hb.cell (p:=⟨w.heap.size,0,none⟩) (by show w.heap.size<_;omega)];exact ca
  by_cases hlt:k<es.length
  ·obtain⟨e,he⟩:∃e,es[k]?=some e:=⟨_,List.getElem?_eq_getElem hlt⟩;have HEr:=HE.below hb (by omega);obtain⟨c0,c1,c2,c3,c4,c5⟩:=HEr k e he;have HK:Hid (e.ok∧es[k]?=some e∧yA7 wr b off es):=⟨HO.out e (List.mem_of_getElem? he),he,HEr⟩;clear he HEr;go_wp2_with fail;refine(yGa e.row e.fam e.qual e.val e.ts e.kind _ HK.1.row HK.1.fam HK.1.qual HK.1.val).mono ?_;rintro e' w1 ⟨rfl,hb1⟩;obtain⟨hc1,hf1⟩:=yP8 hb1;have hz1:wr.heap.size<w1.heap.size:=by have:=hb1.size;simp at this;omega
   have hb2:=(hb.alloc hb.size (Obj.cells #[.string e.row,.string e.fam,.string e.qual,.int .u64 e.ts,.int .i64 e.kind,.string e.val] 102)).trans (hb1.mono (by simp;omega));clear c0 c1 c2 c3 c4 c5;cases hv:vE e.row e.fam e.qual e.kind e.val
   ·have H:Hid (¬yC4 es):=fun h=>by have:=h.1.2 e (List.mem_of_getElem? HK.2.1);unfold Ent.vld at this;rw[hv]at this;cases this
    go_wp2_with fail;go_ret;exact⟨_,rfl,iffF H.out,hb0.trans (hb2.mono (by omega))⟩
   ·have H:Hid (∀x∈es.take (k+1),x.vld=true):=yI6 HV.1 HK.2.1 hv;by_cases hk0:k=0
    ·subst hk0;go_wp2_with fail;go_roundw;case rel=>exact⟨0+1,by omega,by go_num,H.out,fun i p e hi=>by omega,hb2⟩
     case measure=>simp[intOf];omega
    ·obtain⟨m,rfl⟩:∃m,k=m+1:=⟨k-1,by omega⟩;obtain⟨p,hp⟩:∃e,es[m]?=some e:=⟨_,List.getElem?_eq_getElem (by omega)⟩;have hbw:Below wr.heap.size wr w1:=((Below.refl _ _).alloc (Nat.le_refl _) (Obj.cells #[.string e.row,.string e.fam,.string e.qual,.int .u64 e.ts,.int .i64 e.kind,.string e.val] 102)).trans (hb1.mono (by simp));have car1:w1.cell? ⟨w.heap.size,0,none⟩=some (.slice (some ⟨b,off,none⟩) es.length cap):=by rw[hbw.cell (p:=⟨w.heap.size,0,none⟩) (by show w.heap.size<_;omega)];exact car
     obtain⟨d0,d1,d2,d3,d4,d5⟩:=HK.2.2.below hbw (by omega) m p hp;have HKp:Hid (es[m]?=some p):=hp;clear hp;have hw:IntKind.i64.wrap (m:Int)=(m:Int):=Go.IntWalk.i64_in _ (by omega);go_wp2_with fail;refine(yDm p e _).mono ?_;rintro e' w2 ⟨rfl,hb3⟩;obtain⟨hc3,hf3⟩:=yP8 hb3;have hz3:w1.heap.size<w2.heap.size:=by have:=hb3.size;simp at this;omega
     have hb4:=(hb2.alloc hb2.size (Obj.cells #[.string p.row,.string p.fam,.string p.qual,.int .u64 p.ts,.int .i64 p.kind,.string p.val] 102)).trans (hb3.mono (by have:=hb2.size;simp;omega));clear d0 d1 d2 d3 d4 d5;rcases yT7 p e with⟨g1,ho⟩|⟨g1,g2,ho⟩|⟨g1,g2,g3,ho⟩|⟨g1,g2,g3,g4,ho⟩|⟨g1,g2,g3,g4,ho⟩
     ·have H2:Hid (¬yC4 es):=fun h=>by have:=h.2 m p e HKp.out HK.2.1;rw[ho]at this;cases this
      go_wp2_with fail;go_ret;exact⟨_,rfl,iffF H2.out,hb0.trans (hb4.mono (by omega))⟩
     ·exact zzQ80
     ·exact zzQ80
     ·have H2:Hid (¬yC4 es):=fun h=>by have:=h.2 m p e HKp.out HK.2.1;rw[ho]at this;cases this
      go_wp2_with fail;refine(yEe p e _).mono ?_;rintro e' w3 ⟨rfl,hb5⟩;have hb6:=hb4.trans (hb5.mono hb4.size);go_wp2_with fail;go_ret;exact⟨_,rfl,iffF H2.out,hb0.trans (hb6.mono (by omega))⟩
     ·have H2:Hid (yDv es (m+1+1)):=yFh HV.2 HKp.out HK.2.1 ho;go_wp2_with fail;refine(yEe p e _).mono ?_;rintro e' w3 ⟨rfl,hb5⟩;have hb6:=hb4.trans (hb5.mono hb4.size);go_wp2_with fail;go_roundw;case rel=>exact⟨m+1+1,by omega,by go_num,H.out,H2.out,hb6⟩
      case measure=>simp[intOf];omega
  ·go_wp2_with fail;go_ret;refine⟨_,rfl,iffT ⟨⟨by omega,fun e he=>?_⟩,yJk HV.2 (by omega)⟩,hb0.trans (hb.mono (by omega))⟩;have:=HV.1;rw[List.take_of_length_le (by omega)]at this;exact this e he
theorem yPv (w:World) (e:Ent):yA7 (w.alloc (Obj.cells #[.string e.row,.string e.fam,.string e.qual,.int .u64 e.ts,.int .i64 e.kind,.string e.val] 102)) w.heap.size 0 [e]:=by exact yS7
structure LInv (base cb:Nat) (bv:Value) (n:Nat) (w:World) (g cp:Nat) (es:List Ent) (wr:World):Prop where
 row:OwnE wr w.heap.size g cp es
 ok:∀e∈es,e.small
 d:yAf base cb bv n wr
 c:Chg (fun k=>k=cb) w wr
 lt:cb<w.heap.size
 hb:base≤w.heap.size
structure YInv (base cb:Nat) (bv:Value) (n:Nat) (w:World) (g cp:Nat) (es:List Ent) (vb:Nat) (f:Ent) (wr:World):Prop extends LInv base cb bv n w g cp es wr where
 var:OwnE wr w.heap.size vb 1 [f]
 ne:¬g=vb
theorem LInv.call {g:Nat} (h:LInv base cb bv n w g cp es wr) (hd:Drew base cb bv n wr w1):LInv base cb bv n w g cp es w1:=
 ⟨yAp h.row hd.2 (fun k q=>by simp[Value.ownBlock]at q;subst q;have:=h.row.lt.1;have:=h.lt;omega),h.ok,hd.1,h.c.trans hd.2,h.lt,h.hb⟩
theorem LInv.below {g:Nat} (h:LInv base cb bv n w g cp es wr) (hb:Below wr.heap.size wr w1):LInv base cb bv n w g cp es w1:=
 ⟨h.row.below hb h.row.lt.2,h.ok,h.d.below hb,h.c.trans (Chg.of_below hb),h.lt,h.hb⟩
theorem LInv.make {g:Nat} (h:LInv base cb bv n w g cp es wr) (f:Ent):YInv base cb bv n w g cp es wr.heap.size f (wr.alloc (Obj.cells #[.string f.row,.string f.fam,.string f.qual,.int .u64 f.ts,.int .i64 f.kind,.string f.val] 102)):=
 {h.below (qB)with
  var:=yMd wr w.heap.size f h.c.size
  ne:=by have:=h.row.lt.2;omega}
variable {vb:Nat}
theorem YInv.call {g:Nat} (h:YInv base cb bv n w g cp es vb f wr) (hd:Drew base cb bv n wr w1):YInv base cb bv n w g cp es vb f w1:=
 {h.toLInv.call hd with
  var:=yAp h.var hd.2 (fun k q=>by simp[Value.ownBlock]at q;subst q;have:=h.var.lt.1;have:=h.lt;omega)
  ne:=h.ne}
theorem YInv.set {g:Nat} (h:YInv base cb bv n w g cp es vb f wr) (j:Nat) (f':Ent) (u:Value) (hj:j<6) (hc:f'.cells=f.cells.set j u):YInv base cb bv n w g cp es vb f' (wr.setCell ⟨vb,j,none⟩ u):=by have h1:=h.var.set 0 j f f' u rfl hj hc;simp only[Nat.zero_mul,Nat.zero_add]at h1;have hl:=h.var.lt;have hcb:=h.lt;have hbb:=h.hb;have hcg:Chg (fun k=>k=vb) wr (wr.setCell ⟨vb,j,none⟩ u):=Chg.of_set _ _ _ _ rfl;exact {row:=yAp h.row hcg (fun k q=>by simp[Value.ownBlock]at q;subst q;exact h.ne),ok:=h.ok,d:=h.d.chg hcg (by omega) (fun k q=>by omega),c:=Chg.grown_new h.c (yBf wr vb j u) (fun k hk=>by cases hk;exact hl.1),lt:=h.lt,hb:=h.hb,var:=h1,ne:=h.ne}
theorem YInv.cells {g:Nat} (h:YInv base cb bv n w g cp es vb f wr):
  (wr.cell? ⟨vb,0,none⟩=some (.string f.row)∧wr.cell? ⟨vb,1,none⟩=some (.string f.fam)∧wr.cell? ⟨vb,2,none⟩=some (.string f.qual)∧wr.cell? ⟨vb,3,none⟩=some (.int .u64 f.ts)∧wr.cell? ⟨vb,4,none⟩=some (.int .i64 f.kind)∧wr.cell? ⟨vb,5,none⟩=some (.string f.val))∧∀j,wr.frozen? ⟨vb,j,none⟩=false:=by
 have:=h.var.at 0 f rfl;simp only[Nat.zero_add,Nat.zero_mul]at this;exact⟨this,fun j=>World.ownsRow.frozenAt h.var j⟩
theorem YInv.push {g:Nat} {o:Obj} (h:YInv base cb bv n w g cp es vb f wr) (hf:f.small) {g' cp':Nat} (hO:OwnE w' w.heap.size g' cp' (es++ [f])) (hgr:(wr.alloc o).grownBy w' (some g)):LInv base cb bv n w g' cp' (es++ [f]) w':=by
 have hb:Below wr.heap.size wr (wr.alloc o):=qB;have hl:=h.row.lt;have hcb:=h.lt;have hbb:=h.hb;refine⟨hO,fun e he=>?_,?_,?_,h.lt,h.hb⟩
 ·rcases List.mem_append.1 he with q|q
  ·exact h.ok e q
  ·simp at q;subst q;exact hf
 ·exact(h.d.below hb).chg (Chg.of_grown (S:=fun k=>k=g) hgr (fun k hk=>by cases hk;rfl)) (by omega) (fun k q=>by omega)
 ·exact Chg.grown_new (h.c.trans (Chg.of_below hb)) hgr (fun k hk=>by cases hk;exact hl.1)
theorem yOv (base cb:Nat) (bv:Value) (n:Nat) (most:Nat) (w:World) (h:yAf base cb bv n w) (hm:most≤100):
  Calls Tryz.prog 82 #[.pointer (some ⟨cb,0,none⟩),.int .i64 most] w fun r w'=>∃(g cp:Nat) (es:List Ent),r=.returned (.slice (some ⟨g,0,none⟩) es.length cp)∧es.length≤100∧LInv base cb bv n w g cp es w':=by
 have HD:Hid (yAf base cb bv n w):=h;have hlt:=h.lt;have hbase:=h.base;clear h;go_enter Tryz.func82,Tryz.ntmps82;go_wp2_with fail;refine(yAl base cb bv n ((most:Int)/2+1) _ HD.out (by omega) (by omega)).mono ?_;rintro e w1 ⟨x,rfl,hx0,hx1,hd1⟩;obtain⟨W2,hW2⟩:=qE (w1.alloc (Obj.cells #[] 102):World);have H2:Hid (LInv base cb bv n w w1.heap.size 0 [] W2):=by
  have hb:Below w1.heap.size w1 W2:=by rw[hW2];exact qB
  refine⟨?_,fun e he=>by simp at he,hd1.1.below hb,hd1.2.trans (Chg.of_below hb),hlt.2,hbase⟩;rw[hW2];exact World.ownsRow_made w1 #[] 0 hd1.2.size (Nat.zero_le _) (by simp)
 obtain⟨m,hm2⟩:∃m:Nat,(most:Int)/2+x=(m:Int):=⟨((most:Int)/2+x).toNat,by omega⟩;have hm3:m≤100:=by omega
 go_wp2_with fail;rw[←hW2];clear hW2 hm2 hd1;go_loopw[6,7] (fun o i wr=>∃(k g cp:Nat) (es:List Ent),k≤m∧i=.int .i64 k∧o=.slice (some ⟨g,0,none⟩) k cp∧es.length=k∧LInv base cb bv n w g cp es wr) (fun _ i _=>m-(intOf i).toNat);case atStart=>exact⟨0,_,0,[],Nat.zero_le _,rfl,rfl,rfl,H2.out⟩
 case round=>
  obtain⟨k,g,cp,es,hk,rfl,rfl,hel,hL⟩:=hrel;have HL:Hid (es.length=k∧LInv base cb bv n w g cp es wr):=⟨hel,hL⟩;clear hel hL;by_cases hlk:k<m
  ·have zk:(k:Int)<(m:Int):=by omega
   go_wp2_with fail;refine(yRv base cb bv n _ HL.2.d).mono ?_;rintro e w3 ⟨f,rfl,hf,hd3⟩;have HL3:Hid (LInv base cb bv n w g cp es w3):=HL.2.call hd3;clear hd3;obtain⟨W4,hW4⟩:=qE (w3.alloc (Obj.cells #[.string f.row,.string f.fam,.string f.qual,.int .u64 f.ts,.int .i64 f.kind,.string f.val] 102):World);have HY4:Hid (YInv base cb bv n w g cp es w3.heap.size f W4∧f.small∧es.length=k):=⟨by rw[hW4];exact HL3.make f,hf,HL.1⟩;go_upto_region 7 with fail;rw[←hW4];clear hW4;generalize w3.heap.size=vb at*;by_cases hk0:k=0
   ·have zk0:¬(0:Int)<(k:Int):=by omega
    clear hk0;obtain⟨⟨k0,k1,k2,k3,k4,k5⟩,_⟩:=HY4.1.cells;have hgX:=HY4.1.row.lt;have hsX:=HY4.1.c.size;have HKl:Hid (k=es.length):=HY4.2.2.symm;go_wp2_with (at_builtin;refine yAu _ rfl _ _ rfl w.heap.size g cp _ _ es f rfl rfl HKl.out ?hO ?hc ?hl ?hb ?_);case hO=>exact HY4.1.row.below (qB) (by omega)
    case hc=>exact yPv W4 f
    case hl=>rw[←HKl.out];omega
    case hb=>first|(simp;omega)|omega
    intro g' cp' w' hO' hgr;have HN:Hid (LInv base cb bv n w g' cp' (es++ [f]) w'∧(es++ [f]).length=k+1):=⟨HY4.1.push HY4.2.1 hO' hgr,by simp[HY4.2.2]⟩;exact zzQ91
   ·have zk0:(0:Int)<(k:Int):=by omega
    go_wp2_with fail;refine(yA5 base cb bv n 2 _ HY4.1.d (by omega) (by omega)).mono ?_;rintro e w5 ⟨v,rfl,hv,hd5⟩;have HY5:Hid (YInv base cb bv n w g cp es vb f w5∧f.small∧es.length=k):=⟨HY4.1.call hd5,HY4.2⟩;clear hd5;rcases hv with rfl|rfl
    ·go_wp2_with fail;refine(yAl base cb bv n (k:Int) _ HY5.1.d (by omega) (by omega)).mono ?_;rintro e w6 ⟨y,rfl,hy0,hy1,hd6⟩;have HY6:Hid (YInv base cb bv n w g cp es vb f w6∧f.small∧es.length=k):=⟨HY5.1.call hd6,HY5.2⟩;clear hd6;obtain⟨j,rfl⟩:=Int.eq_ofNat_of_zero_le hy0;obtain⟨x,hx⟩:∃x,es[j]?=some x:=⟨_,List.getElem?_eq_getElem (by have:=HY6.2.2;omega)⟩;have HXs:Hid (x.small):=HY6.1.ok x (List.mem_of_getElem? hx);have hA:=HY6.1.set 0 {f with row:=x.row} (.string x.row) (by omega) rfl;have hB:=hA.set 1 {f with row:=x.row,fam:=x.fam} (.string x.fam) (by omega) rfl;have hC:=hB.set 2 {f with row:=x.row,fam:=x.fam,qual:=x.qual} (.string x.qual) (by omega) rfl;obtain⟨a0,a1,a2,_⟩:=HY6.1.row.at j x hx;obtain⟨b0,b1,b2,_⟩:=hA.row.at j x hx;obtain⟨c0,c1,c2,_⟩:=hB.row.at j x hx;simp only[Nat.zero_add]at a0 a1 a2 b0 b1 b2 c0 c1 c2;obtain⟨⟨k0,_⟩,kf⟩:=HY6.1.cells;obtain⟨⟨_,k1,_⟩,kg⟩:=hA.cells;obtain⟨⟨_,_,k2,_⟩,kh⟩:=hB.cells;have kf0:=kf 0;have kg1:=kg 1;have kh2:=kh 2;simp only at k1 k2;obtain⟨W7,hW7⟩:=qE (((w6.setCell ⟨vb,0,none⟩ (.string x.row)).setCell ⟨vb,1,none⟩ (.string x.fam)).setCell ⟨vb,2,none⟩ (.string x.qual):World);have HY7:Hid (YInv base cb bv n w g cp es vb {f with row:=x.row,fam:=x.fam,qual:=x.qual} W7∧({f with row:=x.row,fam:=x.fam,qual:=x.qual}:Ent).small∧es.length=k):=by refine⟨by rw[hW7];exact hC,⟨HXs.row,HXs.fam,HXs.qual,hf.val,hf.ts,hf.kind⟩,HY6.2.2⟩
     clear hA hB hC kf kg kh hx;go_upto_region 12 with fail;rw[←hW7];clear hW7 a0 a1 a2 b0 b1 b2 c0 c1 c2 k0 k1 k2 kf0 kg1 kh2;generalize ({f with row:=x.row,fam:=x.fam,qual:=x.qual}:Ent)=f7 at*;obtain⟨⟨k0,k1,k2,k3,k4,k5⟩,_⟩:=HY7.1.cells;have hgX:=HY7.1.row.lt;have hsX:=HY7.1.c.size;have HKl:Hid (k=es.length):=HY7.2.2.symm;go_wp2_with (at_builtin;refine yAu _ rfl _ _ rfl w.heap.size g cp _ _ es f7 rfl rfl HKl.out ?hO ?hc ?hl ?hb ?_);case hO=>exact HY7.1.row.below (qB) (by omega)
     case hc=>exact yPv W7 f7
     case hl=>rw[←HKl.out];omega
     case hb=>first|(simp;omega)|omega
     intro g' cp' w' hO' hgr;have HN:Hid (LInv base cb bv n w g' cp' (es++ [f7]) w'∧(es++ [f7]).length=k+1):=⟨HY7.1.push HY7.2.1 hO' hgr,by simp[HY7.2.2]⟩;clear hO' hgr;go_wp2_with fail;go_roundw;case rel=>exact⟨k+1,g',cp',es++ [f7],by omega,by go_num,rfl,HN.2,HN.1⟩
     case measure=>go_light;simp[intOf];omega
    ·obtain⟨⟨k0,k1,k2,k3,k4,k5⟩,_⟩:=HY5.1.cells;have hgX:=HY5.1.row.lt;have hsX:=HY5.1.c.size;have HKl:Hid (k=es.length):=HY5.2.2.symm;go_wp2_with (at_builtin;refine yAu _ rfl _ _ rfl w.heap.size g cp _ _ es f rfl rfl HKl.out ?hO ?hc ?hl ?hb ?_);case hO=>exact HY5.1.row.below (qB) (by omega)
     case hc=>exact yPv w5 f
     case hl=>rw[←HKl.out];omega
     case hb=>first|(simp;omega)|omega
     intro g' cp' w' hO' hgr;have HN:Hid (LInv base cb bv n w g' cp' (es++ [f]) w'∧(es++ [f]).length=k+1):=⟨HY5.1.push HY5.2.1 hO' hgr,by simp[HY5.2.2]⟩;exact zzQ91
  ·have zk:¬(k:Int)<(m:Int):=by omega
   have HE:Hid (k=es.length):=HL.1.symm;go_wp2_with fail;go_ret;refine⟨g,cp,es,?_,by rw[←HE.out];omega,HL.2⟩;show Ending.returned (Value.slice (some ⟨g,0,none⟩) k cp)=_;rw[HE.out]
theorem yK (wx:World) (f:Ent):yA7 (wx.alloc (Obj.cells #[.string f.row,.string f.fam,.string f.qual,.int .u64 f.ts,.int .i64 f.kind,.string f.val] 102)) wx.heap.size 0 [f]:=by exact yS7
theorem yTr (a:Option Addr) (n cap:Nat) (w:World) (hn:n≤1048576):
  Calls Tryz.prog 83 #[.slice a n cap] w fun e w'=>∃k:Nat,e=.returned (.int .i64 k)∧k≤22∧w'=w:=by
 by_cases hb:(22:Int)<8+(n:Int)/16
 ·go_enter Tryz.func83,Tryz.ntmps83;go_wp2_with fail;go_ret;exact⟨22,rfl,Nat.le_refl _,rfl⟩
 ·obtain⟨k,hk⟩:∃k:Nat,(8:Int)+(n:Int)/16=(k:Int):=⟨8+n/16,by omega⟩;have hk2:k≤22:=by omega
  go_enter Tryz.func83,Tryz.ntmps83;go_wp2_with fail;go_ret;exact⟨k,rfl,hk2,rfl⟩
abbrev Ent.five (e:Ent):List Value:= [.string e.row,.string e.fam,.string e.qual,.int .u64 e.ts,.string e.val]
abbrev Ent.c (e:Ent):Value:=.agg #[.string e.row,.string e.fam,.string e.qual,.int .u64 e.ts,.string e.val]
def yBp (es:List Ent):List Value:=es.flatMap Ent.five
theorem yDu (e:Ent) (es:List Ent):yBp (e::es)=e.five++yBp es:=by simp[yBp]
theorem yEz (es fs:List Ent):yBp (es++fs)=yBp es++yBp fs:=by simp[yBp]
theorem yDg (es:List Ent):(yBp es).length=es.length*5:=by
 induction es with
 |nil=>rfl
 |cons e es ih=>rw[yDu,List.length_append,ih];simp;omega
theorem yLr (es:List Ent):∀(k:Nat) (e:Ent),es[k]?=some e→∀j,j<5→(yBp es)[k*5+j]?=e.five[j]?:=by
 induction es with
 |nil=>intro k e h;simp at h
 |cons f es ih=>
  intro k e h j hj;rw[yDu];cases k with
  |zero=>
   simp at h;subst h;rw[List.getElem?_append_left (by show 0*5+j<5;omega)];simp
  |succ k=>
   simp at h;rw[List.getElem?_append_right (by show 5≤(k+1)*5+j;omega)];have:(k+1)*5+j-f.five.length=k*5+j:=by show(k+1)*5+j-5=_;omega
   rw[this];exact ih k e h j hj
theorem ySx (es:List Ent):∀(k:Nat) (e e':Ent) (u:Value) (j:Nat),es[k]?=some e→j<5→e'.five=e.five.set j u→(yBp es).set (k*5+j) u=yBp (es.set k e'):=by
 induction es with
 |nil=>intro k e e' u j h;simp at h
 |cons f es ih=>
  intro k e e' u j h hj hc;rw[yDu];cases k with
  |zero=>
   simp at h;subst h;rw[List.set_append_left _ _ (by show 0*5+j<5;omega),List.set_cons_zero,yDu,hc];simp
  |succ k=>
   simp at h;rw[List.set_append_right _ _ (by show 5≤(k+1)*5+j;omega),List.set_cons_succ,yDu];have:(k+1)*5+j-f.five.length=k*5+j:=by show(k+1)*5+j-5=_;omega
   rw[this,ih k e e' u j h hj hc]
def yBd (w:World) (b off:Nat) (es:List Ent):Prop:=
 ∀i e,es[i]?=some e→w.cell? ⟨b,off+i*5,none⟩=some (.string e.row)∧w.cell? ⟨b,off+i*5+1,none⟩=some (.string e.fam)∧w.cell? ⟨b,off+i*5+2,none⟩=some (.string e.qual)∧
  w.cell? ⟨b,off+i*5+3,none⟩=some (.int .u64 e.ts)∧w.cell? ⟨b,off+i*5+4,none⟩=some (.string e.val)
theorem yBd.below {b off:Nat} (h:yBd w b off es) (hb:Below B w w') (hlt:b<B):yBd w' b off es:=by
 intro i e he;have:=h i e he;refine⟨?_,?_,?_,?_,?_⟩;all_goals rw[hb.cell (by exact hlt)]
 ·exact this.1
 ·exact this.2.1
 ·exact this.2.2.1
 ·exact this.2.2.2.1
 ·exact this.2.2.2.2
def OwnC (w:World) (base g cap:Nat) (es:List Ent):Prop:=w.ownsRow base 55 5 (.slice (some ⟨g,0,none⟩) es.length cap) es.length (yBp es)
theorem OwnC.at {g:Nat} (h:OwnC w base g cap es):yBd w g 0 es:=by
 intro i e he;have hi:i<es.length:=(List.getElem?_eq_some_iff.1 he).1;have c:=fun j (hj:j<5)=>(World.ownsRow.cellAt h (i*5+j) (by omega)).trans (yLr es i e he j hj);refine⟨?_,?_,?_,?_,?_⟩
 ·simpa using c 0 (by omega)
 ·simpa using c 1 (by omega)
 ·simpa using c 2 (by omega)
 ·simpa using c 3 (by omega)
 ·simpa using c 4 (by omega)
theorem OwnC.lt {g:Nat} (h:OwnC w base g cap es):base≤g∧g<w.heap.size:=World.ownsRow.lt h g rfl
theorem OwnC.below {g:Nat} (h:OwnC w base g cap es) (hb:Below B w w') (hg:g<B):OwnC w' base g cap es:=by exact yYn
theorem OwnC.set {g:Nat} (h:OwnC w base g cap es) (k j:Nat) (e e':Ent) (u:Value) (hk:es[k]?=some e) (hj:j<5) (hc:e'.five=e.five.set j u):
  OwnC (w.setCell ⟨g,k*5+j,none⟩ u) base g cap (es.set k e'):=by
 have:=(World.ownsRow.stored h (k*5+j) u).1;rw[ySx es k e e' u j hk hj hc]at this;unfold OwnC;rw[List.length_set];exact this
theorem OwnC.mono {base' g:Nat} (h:OwnC w base g cap es) (hb:base'≤base):OwnC w base' g cap es:=by exact yYh
theorem OwnC.caps {g:Nat} {R:List Ent} (h:OwnC w base g cp R):R.length≤cp∧cp≤maxLen:=by exact yRt
theorem yC7 (w:World):OwnC (w.alloc (Obj.cells #[] 55)) w.heap.size w.heap.size 0 []:=World.ownsRow_made w #[] 0 (Nat.le_refl _) (Nat.zero_le _) (by simp)
theorem Tryz.infoCel:(Tryz.prog.info? 55).map (fun i=>(i.zero,i.size,i.bytes))=some (some (.agg #[.string ⟨#[]⟩,.string ⟨#[]⟩,.string ⟨#[]⟩,.int .u64 0,.string ⟨#[]⟩]),5,72):=by kernel_rfl
theorem yBw (wx:World) (f:Ent):yBd (wx.alloc (Obj.cells #[.string f.row,.string f.fam,.string f.qual,.int .u64 f.ts,.string f.val] 55)) wx.heap.size 0 [f]:=by exact yS7
theorem yAj {ops:Array Oper} {o:Oper} {a:Act} (w:World) (hgd:o.guard=none) (s x:Operand)
  (ho:o.op=.call {callee:=.builtin .append,args:=#[s,x],argTypes:=#[28,28]})
  (base g cp n blk:Nat) (fs:List Ent) (e:Ent) (hs:a.eval s=.slice (some ⟨g,0,none⟩) n cp) (hx:a.eval x=.slice (some ⟨blk,0,none⟩) 1 1) (hn:n=fs.length) (hO:OwnC w base g cp fs)
  (hc:yBd w blk 0 [e]) (hlen:fs.length≤2^30) (hbase:base≤w.heap.size)
  (h:∀g' cp' w',OwnC w' base g' cp' (fs++ [e])→w.grownBy w' (some g)→wpList Tryz.prog ops Q rest (a.put o.dst (.slice (some ⟨g',0,none⟩) (n+1) cp')) w'):wpList Tryz.prog ops Q (o::rest) a w:=by
 obtain⟨i,hi,hz0,hz1,hz2⟩:=info_parts Tryz.infoCel;subst hn;obtain⟨c0,c1,c2,c3,c4⟩:=hc 0 e rfl;refine wpList_append_own w hgd s x 28 ho base 55 i _ 5 72 Tryz.underlying28 hi hz0 hz1 hz2 rfl (by decide) (.slice (some ⟨g,0,none⟩) fs.length cp) fs.length (yBp fs) hs hO ⟨blk,0,none⟩ 1 1 (yBp [e]) hx rfl ?_ ?_ ?_ ?_ hbase ?_
 ·intro j u hu;have hj:j<5:=by have:=(List.getElem?_eq_some_iff.1 hu).1;rw[yDg]at this;simpa using this
  rw[Addr.add_mid,Nat.zero_add];simp only[Nat.zero_mul,Nat.zero_add]at c0 c1 c2 c3 c4;match j,hj,hu with
  |0,_,hu=>simp[yBp]at hu;rw[←hu];exact c0
  |1,_,hu=>simp[yBp]at hu;rw[←hu];exact c1
  |2,_,hu=>simp[yBp]at hu;rw[←hu];exact c2
  |3,_,hu=>simp[yBp]at hu;rw[←hu];exact c3
  |4,_,hu=>simp[yBp]at hu;rw[←hu];exact c4
 ·intro u hu;simp[yBp]at hu;rcases hu with rfl|rfl|rfl|rfl|rfl<;>rfl
 ·unfold maxLen;omega
 ·omega
 ·intro v' w' hown hgr hnil;rw[←yEz]at hown;have hlen':(fs++ [e]).length=fs.length+1:=by simp
  exact zzQ84
theorem yIb (e:Ent) (w:World):
  Calls Tryz.prog 114 #[e.v] w fun r w'=>r=.returned e.c∧Below w.heap.size w w':=by
 unfold Ent.v;go_enter Tryz.func114,Tryz.ntmps114;go_wp2;refine bodyPost_ret (v:=e.c) (by simp[results,Tryz.results114,go_sem]) rfl ⟨rfl,?_⟩;exact(qB).alloc (by simp) _
theorem yU:∀(R ws:List Ent),Ord R→(∀x∈R,x∈ws)→R.length≤ws.length
 | [],_,_,_=>by simp
 |a::R,ws,h,hs=>by
  have h':=List.pairwise_cons.1 h
  obtain⟨l1,l2,rfl⟩:=List.append_of_mem (hs a (by simp))
  have:=yU R (l1++l2) h'.2 (fun x hx=>by
   have h1:=hs x (List.mem_cons_of_mem _ hx)
   simp only[List.mem_append,List.mem_cons]at h1⊢
   rcases h1 with h1|rfl|h1
   ·exact .inl h1
   ·have:=h'.1 x hx
    rw[yB1]at this
    omega
   ·exact .inr h1)
  simp at this⊢
  omega
theorem yY7 (h:Rep ws k L):L.length≤ws.length:=
 yU L ws h.1 (fun x hx=>by
  obtain⟨i,_,a,_⟩:=(h.2 x).1 hx
  exact List.mem_of_getElem? a)
def RepOf (ws L:List Ent):Prop:=(yK9 ws→Rep ws ws.length L)∧(¬yK9 ws→L= [])
def yBl (e:Ent) (L:List Ent) (j:Nat):List Ent:=(L.take j).filter fun x=> !(hit x e)
theorem yJu {j:Nat} (hx:L[j]?=some x):yBl e L (j+1)=yBl e L j++(if hit x e=true then []else [x]):=by unfold yBl;rw[List.take_add_one,hx,List.filter_append];cases h:hit x e<;>simp[h]
theorem ySi (e:Ent) (L:List Ent):yBl e L L.length=L.filter fun x=> !(hit x e):=by unfold yBl;rw[List.take_length]
theorem ySh (e:Ent) (L:List Ent) (j:Nat):(yBl e L j).length≤L.length:=Nat.le_trans (List.length_filter_le _ _) (by rw[List.length_take];exact Nat.min_le_right _ _)
theorem OwnE.keptG {g:Nat} {fs:List Ent} {row:Option Nat} (h:OwnE w base g cp fs) (hg:w.grownBy w' row) (hne:some g≠row):OwnE w' base g cp fs:=
 World.ownsRow.kept h hg (.inr hne)
theorem OwnC.ne_ent {g base' g' cp':Nat} {fs:List Ent} (h:OwnC w base g cp es) (h':OwnE w base' g' cp' fs):g≠g':=by
 rcases h.2 with⟨h0,_⟩|⟨g1,cap1,cur,hv,_,hc,_⟩
 ·cases h0
 ·rcases h'.2 with⟨h0,_⟩|⟨g2,cap2,cur2,hv2,_,hc2,_⟩
  ·cases h0
  ·simp only[Value.slice.injEq,Option.some.injEq,Addr.mk.injEq,and_true,true_and]at hv hv2;obtain⟨rfl,rfl⟩:=hv;obtain⟨rfl,rfl⟩:=hv2;intro q;rw[q,hc2]at hc;simp at hc
theorem yL6 (a b:Ent) {s:Bool} (hs:yC a b=s) (w:World):
  Calls Tryz.prog 95 #[a.v,b.v] w fun e w'=>e=.returned (.bool s)∧Below w.heap.size w w':=hs▸yEe a b w
set_option maxRecDepth 100000 in
theorem yJa (b off cap:Nat) (ws:List Ent) (w:World) (hE:yA7 w b off ws) (hok:∀e∈ws,e.ok) (hB:b<w.heap.size) (hlen:ws.length≤1048576):
  Calls Tryz.prog 81 #[.slice (some ⟨b,off,none⟩) ws.length cap] w fun r w'=>
   ∃(g cp:Nat) (L:List Ent),r=.returned (.slice (some ⟨g,0,none⟩) L.length cp)∧OwnC w' w.heap.size g cp L∧Below w.heap.size w w'∧L.length≤ws.length∧RepOf ws L:=by
 have HE:Hid (yA7 w b off ws):=hE;have HO:Hid (∀e∈ws,e.ok):=hok;clear hE hok;obtain⟨W0,hW0⟩:=qE (w.alloc (Obj.cells #[] 55):World);have hb0:Below w.heap.size w W0:=by rw[hW0];exact qB
 have hz0:w.heap.size<W0.heap.size:=by rw[hW0];simp
 have HC0:Hid (OwnC W0 w.heap.size w.heap.size 0 []):=by show OwnC W0 w.heap.size w.heap.size 0 [];rw[hW0];exact yC7 w
 have HE0:Hid (yA7 W0 b off ws):=HE.below hb0 hB;go_enter Tryz.func81,Tryz.ntmps81;go_wp2_with fail;rw[←hW0];clear hW0;refine(yJ5 b off cap ws _ HE0.out HO.out (by omega) hlen).mono ?_;rintro e w1 ⟨r,rfl,hr,hb1⟩;have HR:Hid (r=true↔yK9 ws):=hr;clear hr;have hs1:=hb1.size;have k1:Below w.heap.size w w1:=hb0.trans (hb1.mono (by omega));have HC1:Hid (OwnC w1 w.heap.size w.heap.size 0 []):=HC0.below hb1 hz0;cases r
 ·have HN:Hid (¬yK9 ws):=fun h=>Bool.noConfusion (HR.2 h);go_wp2_with fail;go_ret;exact⟨_,0,[],rfl,HC1.out,k1,by simp,fun h=>absurd h HN.out,fun _=>rfl⟩
 have HG:Hid (yK9 ws):=HR.1 rfl;clear HR;obtain⟨W1,hW1⟩:=qE (w1.alloc (Obj.cells #[] 102):World);have hbA:Below w1.heap.size w1 W1:=by rw[hW1];exact qB
 have hzA:w1.heap.size<W1.heap.size:=by rw[hW1];simp
 have HL1:Hid (OwnE W1 w1.heap.size w1.heap.size 0 []):=by show OwnE W1 w1.heap.size w1.heap.size 0 [];rw[hW1];exact World.ownsRow_made w1 #[] 0 (Nat.le_refl _) (Nat.zero_le _) (by simp)
 have HE1:Hid (yA7 W1 b off ws):=(HE0.below hb1 (by omega)).below hbA (by omega);have HCA:Hid (OwnC W1 w.heap.size w.heap.size 0 []):=HC1.below hbA (by omega);go_wp2_with fail;rw[←hW1];clear hW1;go_loopw[4,5] (fun o i wr=>∃(k g cp:Nat) (L:List Ent),k≤ws.length∧i=.int .i64 k∧o=.slice (some ⟨g,0,none⟩) L.length cp∧OwnE wr w1.heap.size g cp L∧Rep ws k L∧Below W1.heap.size W1 wr) (fun _ i _=>ws.length-(intOf i).toNat);case atStart=>exact⟨0,_,0,[],Nat.zero_le _,rfl,rfl,HL1.out,yWl ws,Below.refl _ _⟩
 case round=>
  obtain⟨k,g,cp,L,hk,rfl,rfl,hO,hK,hb⟩:=hrel;obtain⟨wo,rfl⟩:=qE (wr:World);have HK:Hid (OwnE wo w1.heap.size g cp L∧Rep ws k L):=⟨hO,hK⟩;have hg:=hO.lt;have hLl:=yY7 hK;have hs:=hb.size;clear hO hK;by_cases hlt:k<ws.length
  ·obtain⟨e,he⟩:∃e,ws[k]?=some e:=⟨_,List.getElem?_eq_getElem hlt⟩;have HEo:Hid (yA7 wo b off ws):=HE1.below hb (by omega);obtain⟨c0,c1,c2,c3,c4,c5⟩:=HEo.out k e he;have HKe:Hid (ws[k]?=some e):=he;clear he;obtain⟨W2,hW2⟩:=qE (wo.alloc (Obj.cells #[.string e.row,.string e.fam,.string e.qual,.int .u64 e.ts,.int .i64 e.kind,.string e.val] 102):World);have hbW:Below wo.heap.size wo W2:=by rw[hW2];exact qB
   have hzW:wo.heap.size<W2.heap.size:=by rw[hW2];simp
   have hzE:W2.heap.size=wo.heap.size+1:=by rw[hW2];simp
   have HN1:Hid (yA7 W2 wo.heap.size 0 [e]):=by show yA7 W2 wo.heap.size 0 [e];rw[hW2];exact yK wo e
   have HL2:Hid (OwnE W2 w1.heap.size g cp L):=HK.1.below hbW hg.2;have hbX:Below W1.heap.size W1 W2:=hb.trans (hbW.mono hs);cases g2:(e.kind==0)
   ·have HK2:Hid (¬e.kind=0):=by show¬e.kind=0;simpa using g2
    obtain⟨W3,hW3⟩:=qE (W2.alloc (Obj.cells #[] 102):World);have hb3:Below W2.heap.size W2 W3:=by rw[hW3];exact qB
    have hz3:W2.heap.size<W3.heap.size:=by rw[hW3];simp
    have HL3:Hid (OwnE W3 w1.heap.size g cp L):=HL2.below hb3 (by omega);have HN3:Hid (yA7 W3 wo.heap.size 0 [e]):=HN1.below hb3 hzW;have HF3:Hid (OwnE W3 W2.heap.size W2.heap.size 0 []):=by show OwnE W3 W2.heap.size W2.heap.size 0 [];rw[hW3];exact World.ownsRow_made W2 #[] 0 (Nat.le_refl _) (Nat.zero_le _) (by simp)
    go_wp2_with fail;rw[←hW2,←hzE,←hW3];clear hW2 hW3 hzE c0 c1 c2 c3 c4 c5;go_loopw[7,8] (fun l i wr=>∃(j g2 cp2:Nat),j≤L.length∧i=.int .i64 j∧l=.slice (some ⟨g2,0,none⟩) (yBl e L j).length cp2∧OwnE wr W2.heap.size g2 cp2 (yBl e L j)∧Below W2.heap.size W2 wr) (fun _ i _=>L.length-(intOf i).toNat);case atStart=>exact⟨0,_,0,Nat.zero_le _,rfl,rfl,HF3.out,hb3⟩
    case round=>
     obtain⟨j,g3,cp3,hj,rfl,rfl,hF,hbi⟩:=hrel;have HF:Hid (OwnE wr W2.heap.size g3 cp3 (yBl e L j)):=hF;have hg3:=hF.lt;have hlf:=ySh e L j;clear hF;have hsi:=hbi.size;by_cases hjl:j<L.length
     ·obtain⟨x,hx⟩:∃x,L[j]?=some x:=⟨_,List.getElem?_eq_getElem hjl⟩;have HX:Hid (L[j]?=some x):=hx;have hec:∀wx,Below W2.heap.size W2 wx→yA7 wx g 0 L∧yA7 wx wo.heap.size 0 [e]:=fun wx h=>⟨(HL2.below h (by omega)).at,HN1.below h hzW⟩;have HEC:Hid (∀wx,Below W2.heap.size W2 wx→yA7 wx g 0 L∧yA7 wx wo.heap.size 0 [e]):=hec;clear hec hx;obtain⟨c0,c1,c2,c3,c4,c5⟩:=(HEC.out wr hbi).1 j x HX.out;obtain⟨d0,d1,d2,d3,d4,d5⟩:=(HEC.out wr hbi).2 0 e rfl;simp only[Nat.zero_add,Nat.zero_mul]at c0 c1 c2 c3 c4 c5 d0 d1 d2 d3 d4 d5;have z2:(j:Int)<(L.length:Int):=by omega
      go_upto_region 15 with fail;go_cut[9] (fun s wx=>s=.bool (hit x e)∧Below wr.heap.size wr wx);case first=>
       obtain⟨q0,q1,q2,q3,q4,q5⟩:=yRc (HEC.out wr hbi).1 (by omega) HX.out;obtain⟨r0,r1,r2,r3,r4,r5⟩:=yRc (HEC.out wr hbi).2 (by omega) (rfl: [e][0]?=some e);simp only[Nat.zero_add,Nat.zero_mul]at q0 q1 q2 q3 q4 q5 r0 r1 r2 r3 r4 r5;clear c0 c1 c2 c3 c4 c5 d0 d1 d2 d3 d4 d5;have inh:Nonempty (Out wr):=⟨⟨wr,Below.refl _ _⟩⟩;cases hsc:yC x e
       ·have hh:hit x e=false:=by unfold hit;rw[hsc];rfl
        exact yV2
       ·cases hts:(x.ts==e.ts)
        ·cases hk2:(e.kind==2)
         ·have hh:hit x e=false:=by unfold hit;rw[hsc,hts,hk2];rfl
          exact yV2
         ·have hh:hit x e=decide (x.ts≤e.ts):=by unfold hit;rw[hsc,hts,hk2];rfl
          exact yV2
        ·have hh:hit x e=true:=by unfold hit;rw[hsc,hts];rfl
         exact yV2
      case rest=>
      obtain⟨rfl,h3⟩:=hcut;have hb4:Below W2.heap.size W2 wc:=hbi.trans (h3.mono hsi);have HF4:Hid (OwnE wc W2.heap.size g3 cp3 (yBl e L j)):=HF.below h3 hg3.2;have hs4:=h3.size;clear c0 c1 c2 c3 c4 c5 d0 d1 d2 d3 d4 d5;obtain⟨c0,c1,c2,c3,c4,c5⟩:=(HEC.out wc hb4).1 j x HX.out;simp only[Nat.zero_add,Nat.zero_mul]at c0 c1 c2 c3 c4 c5;cases hh:hit x e
      ·have HH:Hid (yBl e L (j+1)=yBl e L j++ [x]):=by show yBl e L (j+1)=yBl e L j++ [x];rw[yJu HX.out,hh];rfl
       go_wp2_with (at_builtin;refine yAu _ rfl _ _ rfl W2.heap.size g3 cp3 _ _ (yBl e L j) x rfl rfl rfl ?hO ?hc ?hl ?hb ?_);case hO=>exact HF4.below (qB) (by omega)
       case hc=>exact yK wc x
       case hl=>omega
       case hb=>simp;omega
       intro g' cp' w' hO' hgr;have HO':Hid (OwnE w' W2.heap.size g' cp' (yBl e L (j+1))):=by show OwnE w' W2.heap.size g' cp' (yBl e L (j+1));rw[HH.out];exact hO'
       have hb':Below W2.heap.size W2 w':=(hb4.alloc hb4.size _).grown hgr (by simp;omega) (fun j hj=>by cases hj;omega);have hle:(yBl e L (j+1)).length=(yBl e L j).length+1:=by rw[HH.out];simp
       have HLE:Hid ((yBl e L (j+1)).length=(yBl e L j).length+1):=hle;clear hO' hgr hle;go_wp2_with fail;go_roundw;case rel=>exact⟨j+1,g',cp',by omega,by go_num,by rw[HLE.out],HO'.out,hb'⟩
       case measure=>go_light;simp[intOf];omega
      ·have HH:Hid (yBl e L (j+1)=yBl e L j):=by show yBl e L (j+1)=yBl e L j;rw[yJu HX.out,hh];simp
       go_wp2_with fail;go_roundw;case rel=>exact⟨j+1,g3,cp3,by omega,by go_num,by rw[HH.out],by rw[HH.out];exact HF4.out,hb4⟩
       case measure=>go_light;simp[intOf];omega
     ·have HJ:Hid (j=L.length):=by show j=L.length;omega
      have HS':Hid (Rep ws (k+1) (yBl e L j)):=by show Rep ws (k+1) (yBl e L j);rw[HJ.out,ySi];exact yY9 HK.2 HKe.out HK2.out
      have hb5:Below W1.heap.size W1 wr:=hbX.trans (hbi.mono (by omega));go_wp2_with fail;go_roundw;case rel=>exact⟨k+1,g3,cp3,yBl e L j,by omega,by go_num,rfl,HF.mono (by omega),HS'.out,hb5⟩
      case measure=>go_light;simp[intOf];omega
   ·have HK2:Hid (e.kind=0):=by show e.kind=0;simpa using g2
    have HS':Hid (Rep ws (k+1) (into L e)):=yY6 HK.2 HKe.out HK2.out;go_wp2_with fail;rw[←hW2];clear hW2 hzE c0 c1 c2 c3 c4 c5;refine(yJ2 g 0 cp L e _ HL2.at (by omega) (by omega)).mono ?_;rintro e' w3 ⟨g',cp',rfl,hO',hb4⟩;have HO':Hid (OwnE w3 W2.heap.size g' cp' (into L e)):=hO';have hb5:=hbX.trans (hb4.mono (by omega));clear hO';go_wp2_with fail;go_roundw;case rel=>exact⟨k+1,g',cp',into L e,by omega,by go_num,rfl,HO'.mono (by omega),HS'.out,hb5⟩
    case measure=>go_light;simp[intOf];omega
  ·have hkk:k=ws.length:=by omega
   have HKK:Hid (RepOf ws L):=by refine⟨fun _=>?_,fun h=>absurd HG.out h⟩;rw[←hkk];exact HK.2
   clear hkk;have hbw:Below w.heap.size w wo:=(k1.trans (hbA.mono (by omega))).trans (hb.mono (by omega));have HCo:Hid (OwnC wo w.heap.size w.heap.size 0 []):=HCA.below hb (by omega);go_wp2_with fail;go_loopw[3,10] (fun o i wr=>∃(m g5 cp5:Nat),m≤L.length∧i=.int .i64 m∧o=.slice (some ⟨g5,0,none⟩) m cp5∧OwnC wr w.heap.size g5 cp5 (L.take m)∧OwnE wr w1.heap.size g cp L∧Below w.heap.size w wr) (fun _ i _=>L.length-(intOf i).toNat);case atStart=>exact⟨0,_,0,Nat.zero_le _,rfl,rfl,HCo.out,HK.1,hbw⟩
   case round=>
    obtain⟨m,g5,cp5,hm,rfl,rfl,hC,hL,hbm⟩:=hrel;have HM:Hid (OwnC wr w.heap.size g5 cp5 (L.take m)∧OwnE wr w1.heap.size g cp L):=⟨hC,hL⟩;have hg5:=hC.lt;have hgl:=hL.lt;have hne:=hC.ne_ent hL;have hsm:=hbm.size;have HTM:Hid (m=(L.take m).length):=by show m=(L.take m).length;rw[List.length_take];omega
    clear hC hL;by_cases hlt:m<L.length
    ·obtain⟨x,hx⟩:∃x,L[m]?=some x:=⟨_,List.getElem?_eq_getElem hlt⟩;have HX:Hid (L.take (m+1)=L.take m++ [x]):=by show L.take (m+1)=L.take m++ [x];rw[List.take_add_one,hx];rfl
     obtain⟨c0,c1,c2,c3,c4,c5⟩:=HM.2.at m x hx;simp only[Nat.zero_add,Nat.zero_mul]at c0 c1 c2 c3 c4 c5;clear hx;go_wp2_with fail;refine(yIb x _).mono ?_;rintro e' w3 ⟨rfl,hb3⟩;have hs3:=hb3.size;have HM3:Hid (OwnC w3 w.heap.size g5 cp5 (L.take m)∧OwnE w3 w1.heap.size g cp L):=⟨HM.1.below hb3 hg5.2,HM.2.below hb3 hgl.2⟩;have hbm3:Below w.heap.size w w3:=hbm.trans (hb3.mono (by omega));clear c0 c1 c2 c3 c4 c5 hb3;go_wp2_with (at_builtin;refine yAj _ rfl _ _ rfl w.heap.size g5 cp5 _ _ (L.take m) x rfl rfl HTM.out ?hO ?hc ?hl ?hb ?_);case hO=>exact HM3.1.below (qB) (by omega)
     case hc=>exact yBw w3 x
     case hl=>rw[←HTM.out];omega
     case hb=>simp;omega
     intro g' cp' w' hO' hgr;have HO':Hid (OwnC w' w.heap.size g' cp' (L.take (m+1))):=by show OwnC w' w.heap.size g' cp' (L.take (m+1));rw[HX.out];exact hO'
     have hb':Below w.heap.size w w':=(hbm3.alloc hbm3.size _).grown hgr (by simp;omega) (fun j hj=>by cases hj;omega);have HL':Hid (OwnE w' w1.heap.size g cp L):=OwnE.keptG (HM3.2.below (qB) (by omega)) hgr (fun q=>hne (Option.some.inj q).symm);clear hO' hgr;go_wp2_with fail;go_roundw;case rel=>exact⟨m+1,g',cp',by omega,by go_num,rfl,HO'.out,HL'.out,hb'⟩
     case measure=>go_light;simp[intOf];omega
    ·have HT:Hid (L.take m=L):=List.take_of_length_le (by omega);go_wp2_with fail;go_ret;refine⟨g5,cp5,L,?_,?_,hbm,hLl,HKK.out⟩
     ·have e1:m=L.length:=by omega
      show Ending.returned (Value.slice (some ⟨g5,0,none⟩) m cp5)=_;rw[e1]
     ·have h:=HM.1;rw[HT.out]at h;exact h
def CelP (base cb:Nat) (bv:Value) (n:Nat) (w:World) (e:Ending) (w':World):Prop:=∃(g cp:Nat) (L:List Ent),e=.returned (.slice (some ⟨g,0,none⟩) L.length cp)∧L.length≤100∧Hid (OwnC w' w.heap.size g cp L∧DInv base cb bv n w w'∧(∀e∈L,e.ok)∧(∀e∈L,e.kind=0))
theorem yGd (base cb:Nat) (a:Option Addr) (n cap:Nat) (w:World) (h:yAf base cb (.slice a n cap) n w) (hn:n≤1048576):
  Calls Tryz.prog 44 #[.pointer (some ⟨cb,0,none⟩),.slice a n cap] w (CelP base cb (.slice a n cap) n w):=by
 have HD:Hid (DInv base cb (.slice a n cap) n w w):=DInv.start h;clear h;go_enter Tryz.func44,Tryz.ntmps44;go_wp2_with fail;refine(yTr a n cap w hn).mono ?_;rintro e w1 ⟨k,rfl,hk,rfl⟩;have HW:Hid (Calls Tryz.prog 82 #[.pointer (some ⟨cb,0,none⟩),.int .i64 ((k:Int)+6)] w1 fun r w'=>∃(g cp:Nat) (es:List Ent),r=.returned (.slice (some ⟨g,0,none⟩) es.length cp)∧es.length≤100∧LInv base cb (.slice a n cap) n w1 g cp es w'):=by
  have h9:=yOv base cb (.slice a n cap) n (k+6) w1 HD.d (by omega);have e9:((k+6:Nat):Int)=(k:Int)+6:=by omega
  rw[e9]at h9;exact h9
 go_wp2_with fail;refine HW.mono ?_;rintro e w2 ⟨g,cp,es,rfl,hl,hL⟩;have HL:Hid (LInv base cb (.slice a n cap) n w1 g cp es w2):=hL;clear hL HW;go_wp2_with fail;refine(yJa g 0 cp es w2 HL.row.at (fun e he=>(HL.ok e he).ok) HL.row.lt.2 (by omega)).mono ?_;rintro e w3 ⟨g3,c3,L,rfl,hO3,hb3,hLl,hR3⟩;have HE:Hid (CelP base cb (.slice a n cap) n w1 (.returned (.slice (some ⟨g3,0,none⟩) L.length c3)) w3):=by
  have hd:DInv base cb (.slice a n cap) n w1 w2:=⟨HL.d,HL.c,HD.lt,HD.hb⟩;have hz:=hd.c.size;have hmem:∀e∈L,e∈es∧e.kind=0:=fun e he=>by
   by_cases hG:yK9 es
   ·obtain⟨i,_,hi,hk,_⟩:=((hR3.1 hG).2 e).1 he;exact⟨List.mem_of_getElem? hi,hk⟩
   ·rw[hR3.2 hG]at he;simp at he
  exact⟨g3,c3,L,rfl,by omega,hO3.mono hz,hd.below hb3,fun e he=>(HL.ok e (hmem e he).1).ok,fun e he=>(hmem e he).2⟩
 clear hO3 hb3 hR3;go_wp2_with fail;go_ret;exact HE.out
end Go.Proofs.YtkidabedcgngcaaGreatDoor
