import Derived.Test.YtkidabedcgngcaaGreatDoorVkAB
import Derived.Test.YtkidabedcgngcaaGreatDoorVkAA
import Derived.Test.YtkidabedcgngcaaGreatDoorVkAK
import Derived.Test.YtkidabedcgngcaaGreatDoorVkAJ
import Derived.Test.YtkidabedcgngcaaGreatDoorVkAE
import Derived.Deep.DeepCutAuto
import Derived.Deep.RegionWith
import Derived.Test.YtkidabedcgngcaaGreatDoorVkAD
import Derived.Test.YtkidabedcgngcaaGreatDoorVkAI
namespace Go.Proofs.YtkidabedcgngcaaGreatDoor
open Go.RowKit Go.ChangeShapes Go.WideShapes Go.ChangeAt Go.Deep Go.Shelf Go.Maps
set_option linter.unusedVariables false
set_option linter.unusedSimpArgs false
set_option maxRecDepth 100000
set_option maxHeartbeats 40000000
def NmB (B g:Nat) (k:Nat):Prop:=B≤k∧¬k=g
structure FnJ (w:World) (xs:List Nd) (j g cp:Nat) (us:List Value) (ns:List (List Nd)) (wr:World):Prop where
 fold:yB3 normOf [] (xs.take j)=some ns
 own:OwnV wr w.heap.size g cp us
 len:us.length=ns.length
 opd:∀(i:Nat) (u:Value) (x:List Nd),us[i]?=some u→ns[i]?=some x→Opd (NmB w.heap.size g) wr u x
 below:Below w.heap.size w wr
variable {w w':World} {xs:List Nd} {cp:Nat}
theorem FnJ.move {j g:Nat} {us:List Value} {ns:List (List Nd)} {wr:World} (h:FnJ w xs j g cp us ns wr) (hb:Below wr.heap.size wr w'):FnJ w xs j g cp us ns w':=
 ⟨h.fold,h.own.below hb,h.len,fun i u x hu hx=>(h.opd i u x hu hx).below hb,h.below.trans (hb.mono h.below.size)⟩
def yRn (xs:List Nd) (w:World) (r:Ending) (w':World):Prop:=Below w.heap.size w w'∧((∃u y,yB3 normOf [] xs=some [y]∧r=.returned (.tuple #[u,.bool true])∧Opd (fun k=>w.heap.size≤k) w' u y)∨((∀y,¬yB3 normOf [] xs=some [y])∧r=.returned (.tuple #[.slice none 0 0,.bool false])))
variable {u:Value}
theorem yZy {X:World} {j g g' cp' fr:Nat} {us:List Value} {ns:List (List Nd)} {y:List Nd} (hG:∀e∈xs,yAe e) (hxl:xs.length≤200) (h:FnJ w xs j g cp us ns X) (hU:yI X u y) (hB:∀a n c,u=.slice (some a) n c→NmB w.heap.size g a.block) (hY:yB3 normOf [] (xs.take (j+1))=some (ns.take fr++ [y])) (hfr:fr≤us.length) (hO:OwnV w' w.heap.size g' cp' (us.take fr++ [u])) (hgr:(X.alloc (Obj.cells #[u] 30)).grownBy w' (some g)) (hat:g'=g∨g'=(X.alloc (Obj.cells #[u] 30)).heap.size):FnJ w xs (j+1) g' cp' (us.take fr++ [u]) (ns.take fr++ [y]) w':=by
 have hgl:=h.own.lt;have hbX:Below X.heap.size X (X.alloc (Obj.cells #[u] 30)):=qB;have hsX:(X.alloc (Obj.cells #[u] 30)).heap.size=X.heap.size+1:=by simp
 have hC:Chg (fun k=>k=g) (X.alloc (Obj.cells #[u] 30)) w':=Chg.of_grown hgr (fun k hk=>by cases hk;rfl);have hY2:=yW4 hY y (by simp);have hyo:Opd (NmB w.heap.size g) X u y:=⟨hU,hY2.1,hB,fun e he=>hG e (List.mem_of_mem_take (hY2.2.1 e he)),by have h9:=hY2.2.2;rw[List.length_take]at h9;omega⟩;have all:∀(i:Nat) (u':Value) (x:List Nd),(us.take fr++ [u])[i]?=some u'→(ns.take fr++ [y])[i]?=some x→Opd (NmB w.heap.size g) X u' x:=by
  intro i u' x hu hx;have hlu:(us.take fr).length=fr:=by rw[List.length_take];omega
  have hln:(ns.take fr).length=fr:=by rw[List.length_take,←h.len];omega
  by_cases hi:i<fr
  ·rw[List.getElem?_append_left (by omega)]at hu hx;rw[List.getElem?_take_of_lt hi]at hu hx;exact h.opd i u' x hu hx
  ·have hi2:i=fr:=by have:=(List.getElem?_eq_some_iff.1 hu).1;simp only[List.length_append,List.length_singleton,hlu]at this;omega
   subst hi2;rw[List.getElem?_append_right (by omega),hlu]at hu;rw[List.getElem?_append_right (by omega),hln]at hx;simp at hu hx;subst hu hx;exact hyo
 refine⟨hY,hO,by simp[List.length_take,h.len],fun i u' x hu hx=>?_,?_⟩
 ·have o1:Opd (fun k=>NmB w.heap.size g k∧¬k=g') X u' x:=(all i u' x hu hx).weak (fun k hk q=>⟨q,by
   rcases hat with rfl|hat
   ·exact q.2
   ·omega⟩)
  exact((o1.below hbX).move hC (fun k hk q=>hk.1.2 q)).weak (fun k hk q=>⟨q.1.1,q.2⟩)
 ·exact Chg.below (h.below.trans (hbX.mono h.below.size)) hC (by have:=h.below.size;omega) (fun k q=>by omega)
theorem yN7 {gN oN cpN:Nat} (h:yAy w gN oN xs) (hg:gN<w.heap.size) (hG:∀e∈xs,yAe e) (hl:xs.length≤200):
  Calls Tryz.prog 45 #[.slice (some ⟨gN,oN,none⟩) xs.length cpN,.func (Fn.func 46) #[] #[]] w (yRn xs w):=by
 have HF:Hid (yAy w gN oN xs∧(∀e∈xs,yAe e)∧xs.length≤200):=⟨h,hG,hl⟩;obtain⟨n,hn⟩:=qE xs.length;have HL:Hid (n=xs.length):=hn;rw[←hn]at hl⊢;clear h hG hn;obtain⟨W0,hW0⟩:=qE (w.alloc (Obj.cells #[] 30):World);have HW0:Hid (FnJ w xs 0 w.heap.size 0 [] [] W0):=by
  refine⟨rfl,?_,rfl,fun i u x hu=>by simp at hu,?_⟩
  ·rw[hW0];exact yQw w (Nat.le_refl _)
  ·rw[hW0];exact qB
 go_enter Tryz.func45,Tryz.ntmps45;go_upto_region 2 with fail;rw[←hW0];clear hW0;go_wp2_with fail;go_loopw[4,6,14] (fun wv sv iv wr=>∃(j m g cp:Nat) (us:List Value) (ns:List (List Nd)),wv=.slice none 0 0∧iv=.int .i64 (j:Int)∧j≤n∧m=us.length∧m≤j∧m≤cp∧sv=.slice (some ⟨g,0,none⟩) m cp∧FnJ w xs j g cp us ns wr) (fun _ _ iv _=>n-(intOf iv).toNat);case atStart=>exact⟨0,0,_,0,[],[],rfl,rfl,Nat.zero_le _,rfl,Nat.le_refl _,Nat.zero_le _,rfl,HW0.out⟩
 case round=>
  obtain⟨j,m,g,cp,us,ns,rfl,rfl,hj,hm,hmj,hmc,rfl,hJ⟩:=hrel;have HJ:Hid (m=us.length∧FnJ w xs j g cp us ns wr):=⟨hm,hJ⟩;have hgl:=hJ.own.lt;have hcp:cp≤9223372036854775807:=by have:=hJ.own.caps.2;unfold maxLen at this;omega
  have hsz:=hJ.below.size;clear hm hJ HW0;by_cases hlt:j<n
  ·have zj:(j:Int)<(n:Int):=by omega
   obtain⟨e,he⟩:∃e,xs[j]?=some e:=⟨_,List.getElem?_eq_getElem (by have:=HL.out;omega)⟩;obtain⟨d0,d1,d2,d3,d4,d5,d6⟩:=(HF.1.below HJ.2.below hg) j e he;have HE:Hid (xs[j]?=some e∧yAe e):=⟨he,HF.2.1 e (List.mem_of_getElem? he)⟩;clear he;obtain⟨W1,hW1⟩:=qE (wr.alloc (Obj.cells #[.int .i64 e.kind,.string e.s,.bool e.hi,.string e.t,.int .u64 e.lo,.int .u64 e.up,.int .i64 e.n] 75):World);have hb1:Below wr.heap.size wr W1:=by rw[hW1];exact qB
   have hz1:wr.heap.size<W1.heap.size:=by rw[hW1];simp
   have HJ1:Hid (m=us.length∧FnJ w xs j g cp us ns W1∧yA W1 w.heap.size 75 7 wr.heap.size e.seven):=by refine⟨HJ.1,HJ.2.move hb1,?_⟩;rw[hW1];exact yAa wr _ hsz rfl
   go_upto_region 5 with fail;rw[←hW1];clear hW1 d0 d1 d2 d3 d4 d5 d6 HJ hb1;obtain⟨c0,c1,c2,c3,c4,c5,c6⟩:=HJ1.2.2.c7;obtain⟨a,ha⟩:=qE (yAk e.kind);have ha3:a≤3:=by rw[ha];exact yF5 _
   have HAr:Hid (Calls Tryz.prog 61 #[.int .i64 e.kind] W1 fun r w'=>r=.returned (.int .i64 (a:Int))∧w'=W1):=by rw[ha];exact yCx e.kind W1
   have HAk:Hid (a=yAk e.kind):=ha;clear ha;go_wp2_with fail;refine HAr.mono ?_;rintro r w9 ⟨rfl,hw9⟩;rw[hw9];clear hw9 HAr;by_cases hfr:m<a
   ·have zf:(m:Int)-(a:Int)<0:=by omega
    have HS:Hid (yB3 normOf [] xs=none):=ySn HJ1.2.1.fold HE.1 (by rw[←HJ1.2.1.len,←HJ1.1,←HAk.out];exact hfr);have HB9:Hid (Below w.heap.size w W1):=HJ1.2.1.below;go_wp2_with fail;exact bodyPost_ret (v:=.tuple #[.slice none 0 0,.bool false]) (by simp[results,Tryz.results45,go_sem]) rfl ⟨HB9.out,.inr ⟨fun s q=>(by rw[HS.out]at q;cases q),rfl⟩⟩
   ·obtain⟨fr,hfrm⟩:∃fr:Nat,(m:Int)-(a:Int)=(fr:Int):=⟨m-a,by omega⟩;have hfrle:fr≤m:=by omega
    have HFr:Hid (fr=ns.length-yAk e.kind∧yAk e.kind≤ns.length):=by have h1:=HJ1.1;have h2:=HAk.out;have h3:=HJ1.2.1.len;exact⟨by omega,by omega⟩
    have zf:¬(fr:Int)<0:=by omega
    have z2:(fr:Int)≤(m:Int):=by omega
    have z3:(m:Int)≤(cp:Int):=by omega
    obtain⟨y,hy⟩:=qE (normOf e (ns.drop fr));have HY:Hid (yB3 normOf [] (xs.take (j+1))=some (ns.take fr++ [y])):=by show _=_;rw[hy,HFr.1];exact ySo HJ1.2.1.fold HE.1 HFr.2
    obtain⟨ad,had⟩:∃ad:Option Addr,(if cp=fr then some (⟨g,0,none⟩:Addr)else some ⟨g,fr,none⟩)=ad:=⟨_,rfl⟩;have HSh:Hid (∀X,Below W1.heap.size W1 X→Calls Tryz.prog 46 #[.agg #[.int .i64 e.kind,.string e.s,.bool e.hi,.string e.t,.int .u64 e.lo,.int .u64 e.up,.int .i64 e.n],.slice ad (m-fr) (cp-fr)] X (NmI (NmB w.heap.size g) y X)):=fun X hX=>by
     have hJX:=HJ1.2.1.move hX;have hlen:(ns.drop fr).length=m-fr:=by rw[List.length_drop,←HJ1.2.1.len,←HJ1.1]
     have hulen:(us.drop fr).length=(ns.drop fr).length:=by rw[List.length_drop,List.length_drop,HJ1.2.1.len]
     have hxa:(ns.drop fr).length=yAk e.kind:=by rw[List.length_drop];have:=HFr.1;have:=HFr.2;omega
     have hO9:∀(i:Nat) (u:Value) (x:List Nd),(us.drop fr)[i]?=some u→(ns.drop fr)[i]?=some x→Opd (NmB w.heap.size g) X u x:=fun i u x hu hx=>by rw[List.getElem?_drop]at hu hx;exact hJX.opd _ u x hu hx
     rw[hy,←had];by_cases hcf:cp=fr
     ·rw[if_pos hcf];have hnil:us.drop fr= []:=List.length_eq_zero_iff.1 (by rw[hulen,hlen];omega);have h9:=yFj (NmB w.heap.size g) e g 0 (cp-fr) (us.drop fr) (ns.drop fr) X HE.2 hJX.own.lt.2 hxa hulen (by rw[hnil];intro i u hu;simp at hu) hO9;rw[hlen]at h9;exact h9
     ·rw[if_neg hcf];have h9:=yFj (NmB w.heap.size g) e g fr (cp-fr) (us.drop fr) (ns.drop fr) X HE.2 hJX.own.lt.2 hxa hulen (by intro i u hu;rw[List.getElem?_drop]at hu;exact hJX.own.cell hu) hO9;rw[hlen]at h9;exact h9
    clear hy hfr;go_upto_region 8 with fail;go_cut[10] (fun sv wx=>Below W1.heap.size W1 wx∧yI wx sv y∧(∀a n c,sv=.slice (some a) n c→NmB w.heap.size g a.block));case first=>
     go_region_law ((go_simp;go_at_call 46;refine(HSh.out _ ?hX).mono ?_;(case hX=>(repeat (first|exact Below.refl _ _|refine Below.drew ?_)));rintro r w' ⟨v7,rfl,hv7,hs7,hbb⟩));all_goals go_wp2_with fail
     all_goals go_meet
     all_goals (refine⟨?_,hv7,fun a n c hq=>?_⟩)
     all_goals first
      |exact((Below.refl _ _).drew).trans hbb
      |(rcases hs7 a n c hq with q|q
        ·exact q
        ·exact⟨by have h8:=HJ1.2.1.below.size;have h7:W1.drew.heap.size=W1.heap.size:=(by simp);omega,by have h8:=HJ1.2.1.own.lt.2;have h7:W1.drew.heap.size=W1.heap.size:=(by simp);omega⟩)
    case rest=>
    obtain⟨hb10,hv10,hs10⟩:=hcut;have HK:Hid (Below W1.heap.size W1 wc∧yI wc u10 y∧(∀a n c,u10=.slice (some a) n c→NmB w.heap.size g a.block)):=⟨hb10,hv10,hs10⟩;obtain⟨vg,vc,rfl,_⟩:=hv10;have HK2:Hid (FnJ w xs j g cp us ns wc):=HJ1.2.1.move hb10;have hgl2:=HK2.own.lt;have hsz2:=HK2.below.size;obtain⟨W2,hW2⟩:=qE (wc.alloc (Obj.cells #[.slice (some ⟨vg,0,none⟩) y.length vc] 30):World);have hb2:Below wc.heap.size wc W2:=by rw[hW2];exact qB
    have cW2:W2.cell? ⟨wc.heap.size,0,none⟩=some (.slice (some ⟨vg,0,none⟩) y.length vc):=by rw[hW2];simp
    have hfl:fr≤us.length:=by rw[←HJ1.1];exact hfrle
    have HM:Hid (fr=(us.take fr).length):=by show fr=_;rw[List.length_take];omega
    have HO2:Hid (OwnV W2 w.heap.size g cp (us.take fr)):=(HK2.own.take hfl).below hb2;have HW2:Hid (W2=wc.alloc (Obj.cells #[.slice (some ⟨vg,0,none⟩) y.length vc] 30)):=hW2;have z4:(fr:Int)≤(cp:Int):=by omega
    have hz2:wc.heap.size<W2.heap.size:=by rw[hW2];simp
    clear hb10 hs10 c0 c1 c2 c3 c4 c5 c6 HSh hb2;go_wp2_with (at_builtin;(try rw[←hW2]);refine yEi _ rfl _ _ rfl w.heap.size g cp fr wc.heap.size 1 1 (us.take fr) [.slice (some ⟨vg,0,none⟩) y.length vc] rfl rfl HM.out rfl HO2.out ?hc ?hy ?hl ?hb ?_);case hc=>
     intro i v hv;have hi:i=0:=by have:=(List.getElem?_eq_some_iff.1 hv).1;simpa using this
     subst hi;simp at hv;subst hv;exact cW2
    case hy=>intro v hv;simp at hv;subst hv;rfl
    case hl=>rw[←HM.out];show fr+1≤1000;omega
    case hb=>omega
    intro g' cp' w' hO' hgr' hat';have fin:Hid (FnJ w xs (j+1) g' cp' (us.take fr++ [.slice (some ⟨vg,0,none⟩) y.length vc]) (ns.take fr++ [y]) w'):=
     yZy HF.2.1 HF.2.2 HK2.out HK.2.1 HK.2.2 HY.out hfl hO' (by simpa using hgr') (by simpa using hat')
    have hcp':fr+1≤cp':=by have h8:=hO'.caps.1;rw[List.length_append,←HM.out]at h8;exact h8
    clear hO' hgr' hat' hW2 cW2;go_wp2_with fail;go_roundw;case rel=>exact⟨j+1,fr+1,g',cp',us.take fr++ [.slice (some ⟨vg,0,none⟩) y.length vc],ns.take fr++ [y],rfl,by go_num,by omega,by rw[List.length_append,List.length_singleton,←HM.out],by omega,hcp',rfl,fin.out⟩
    case measure=>simp[intOf];omega
  ·have zj:¬(j:Int)<(n:Int):=by omega
   have HFo:Hid (yB3 normOf [] xs=some ns):=by have h1:=HJ.2.fold;rw[List.take_of_length_le (by have:=HL.out;omega)]at h1;exact h1
   have HB9:Hid (Below w.heap.size w wr):=HJ.2.below;by_cases hm1:m=1
   ·subst hm1;obtain⟨u,rfl⟩:∃u,us= [u]:=by
     have h1:=HJ.1;match us,h1 with
     | [u],_=>exact⟨u,rfl⟩
    obtain⟨y,rfl⟩:∃y,ns= [y]:=by
     have h1:=HJ.2.len;match ns,h1 with
     | [y],_=>exact⟨y,rfl⟩
    have e0:=HJ.2.own.cell (j:=0) rfl;have HO9:Hid (Opd (fun k=>w.heap.size≤k) wr u y):=(HJ.2.opd 0 u y rfl rfl).weak (fun k _ q=>q.1);obtain⟨b9,o9,c9,hu9,_,_⟩:=HO9.form;rw[hu9]at e0;have HR:Hid (yRn xs w (.returned (.tuple #[.slice (some ⟨b9,o9,none⟩) y.length c9,.bool true])) wr):=⟨HB9.out,.inl ⟨u,y,HFo.out,by rw[hu9],HO9.out⟩⟩;clear hu9;go_wp2_with fail;exact bodyPost_ret (v:=.tuple #[.slice (some ⟨b9,o9,none⟩) y.length c9,.bool true]) (by simp[results,Tryz.results45,go_sem]) rfl HR.out
   ·have zm:((m:Int) != 1)=true:=by have:¬(m:Int)=1:=(by omega);simpa using this
    have HR:Hid (yRn xs w (.returned (.tuple #[.slice none 0 0,.bool false])) wr):=⟨HB9.out,.inr ⟨fun s q=>by
     rw[HFo.out]at q
     have h1:=HJ.1
     rw[HJ.2.len,Option.some.inj q]at h1
     exact hm1 h1,rfl⟩⟩
    go_wp2_with fail;exact bodyPost_ret (v:=.tuple #[.slice none 0 0,.bool false]) (by simp[results,Tryz.results45,go_sem]) rfl HR.out
theorem yLj (h:yCk xs):∃y,yGo xs y∧y≠ []∧y.length≤200∧∀x∈y,x∈xs:=by obtain⟨hl,s,hs,_⟩:=h;obtain⟨y,hy⟩:=yWw (ShT.tree goodB hs);obtain⟨h1,h2⟩:=yI8 _ (Nat.le_refl _) hy;exact⟨y,hy,yXy hy,by omega,h1⟩
def yOo (w:World) (base:Nat) (u:Value) (R:List Nd):Prop:=(u=.slice none 0 0∧R= [])∨∃g cp,u=.slice (some ⟨g,0,none⟩) R.length cp∧yAm w base g cp R
variable {base:Nat} {R:List Nd}
theorem yOo.keptNe {row:Option Nat} (h:yOo w base u R) (hg:w.grownBy w' row) (hne:∀g,u.ownBlock=some g→row≠some g):yOo w' base u R:=by
 rcases h with h|⟨g,cp,rfl,hO⟩
 ·exact .inl h
 ·exact .inr ⟨g,cp,rfl,World.ownsRow.kept hO hg (.inr (fun q=>hne g rfl q.symm))⟩
theorem yOo.below (h:yOo w base u R) (hb:Below w.heap.size w w'):yOo w' base u R:=h.keptNe (yK3 hb none) (fun g q z=>by cases z)
def yXk (xs R:List Nd):Prop:=(¬yCk xs∧R= [])∨(yCk xs∧yGo xs R)
theorem yUk {S:List Nd} (h:yXk xs R) (k:yXk xs S):R=S:=by
 rcases h with⟨h1,rfl⟩|⟨h1,h2⟩
 ·rcases k with⟨_,rfl⟩|⟨k1,_⟩
  ·rfl
  ·exact absurd k1 h1
 ·rcases k with⟨k1,_⟩|⟨_,k2⟩
  ·exact absurd h1 k1
  ·exact yJm h2 k2
def NrmU (xs:List Nd) (w:World) (r:Ending) (w':World):Prop:=∃(a:Option Addr) (n c:Nat) (R:List Nd),r=.returned (.agg #[.slice a n c])∧yOo w' w.heap.size (.slice a n c) R∧yXk xs R∧Below w.heap.size w w'
theorem yAm.up {base' g cap:Nat} {es:List Nd} (h:yAm w base g cap es) (hb:base'≤g):yAm w base' g cap es:=by
 refine⟨h.1,?_⟩;rcases h.2 with hn|⟨g',cap',cur,hv,h1,rest⟩
 ·exact .inl hn
 ·cases hv
  exact .inr ⟨_,_,cur,rfl,hb,rest⟩
theorem yGb {g o:Nat} (h:WdN w g o cp xs) (hok:∀e∈xs,e.ok):Calls Tryz.prog 18 #[.agg #[.slice (some ⟨g,o,none⟩) xs.length cp]] w (NrmU xs w):=by
 have HO:Hid (WdN w g o cp xs∧∀e∈xs,e.ok):=⟨h,hok⟩;have hgl:=h.lt;have hcp:=h.caps;obtain⟨W0,hW0⟩:=qE ((w.alloc (Obj.cells #[.slice (some ⟨g,o,none⟩) xs.length cp] 32)).alloc (Obj.cells #[.slice none 0 0] 32):World);have hb0:Below w.heap.size w W0:=by rw[hW0];exact(qB).alloc (by simp) _
 have hz0:W0.heap.size=w.heap.size+1+1:=by rw[hW0];simp
 have HK:Hid (∀wx,Below W0.heap.size W0 wx→wx.cell? ⟨w.heap.size,0,none⟩=some (.slice (some ⟨g,o,none⟩) xs.length cp)∧wx.cell? ⟨w.heap.size+1,0,none⟩=some (.slice none 0 0)∧wx.frozen? ⟨w.heap.size+1,0,none⟩=false∧WdN wx g o cp xs):=by
  intro wx hx;refine⟨?_,?_,?_,(HO.1.below hb0 hgl).below hx (by omega)⟩
  ·rw[hx.cell (p:=⟨w.heap.size,0,none⟩) (by show w.heap.size<_;omega),hW0];simp[go_sem]
  ·rw[hx.cell (p:=⟨w.heap.size+1,0,none⟩) (by show w.heap.size+1<_;omega),hW0];simp[go_sem]
  ·rw[hx.frozen (p:=⟨w.heap.size+1,0,none⟩) (by show w.heap.size+1<_;omega),hW0];simp[go_sem]
 clear h hok;obtain⟨c0,_,_,hO0⟩:=HK.out W0 (Below.refl _ _);have HO0:Hid (WdN W0 g o cp xs):=hO0;clear hO0;go_enter Tryz.func18,Tryz.ntmps18;go_upto_region 1 with fail;rw[←hW0];clear hW0;go_wp2_with fail;refine(yGc HO0.out HO.2).mono ?_;rintro e w1 ⟨r,rfl,hr,hb1⟩;have HR:Hid (r=true↔yCk xs):=hr;have s1:=hb1.size;have k1:Below w.heap.size w w1:=hb0.trans (hb1.mono (by omega));clear hr c0;obtain⟨c0,c1,c2,hO1⟩:=HK.out w1 hb1;have HO1:Hid (WdN w1 g o cp xs):=hO1;clear hO1;cases r
 case false=>have HG:Hid (NrmU xs w (.returned (.agg #[.slice none 0 0])) (w1.setCell ⟨w.heap.size+1,0,none⟩ (.slice none 0 0))):=⟨_,_,_,[],rfl,.inl ⟨rfl,rfl⟩,.inl ⟨fun q=>Bool.noConfusion (HR.2 q),rfl⟩,k1.setCell (by show _≤w.heap.size+1;omega) _⟩;go_wp2_with fail;exact bodyPost_ret (v:=.agg #[.slice none 0 0]) (by simp[results,Tryz.results18,go_sem,c1]) rfl HG.out
 case true=>
 have hG:yCk xs:=HR.1 rfl;obtain⟨y,hy,hne,hyl,_⟩:=yLj hG;have HY:Hid (yGo xs y∧yCk xs):=⟨hy,hG⟩;have HC:Hid (Calls Tryz.prog 45 #[.slice (some ⟨g,o,none⟩) xs.length cp,.func (Fn.func 46) #[] #[]] w1 (yRn xs w1)):=yN7 HO1.at (by omega) (yHd hG) hG.1;clear hy hne hG c1 c2 hyl;go_wp2_with fail;refine HC.mono ?_;rintro e w3 ⟨hb3,(⟨u,y',hf,rfl,hopd⟩|⟨hf,rfl⟩)⟩;case inr=>
  exfalso;refine hf y ?_;have h9:=TrV.fold _ HY.1 [];simpa using h9
 obtain rfl:y'=y:=by have h9:=TrV.fold _ HY.1 [];rw[hf]at h9;simpa using h9
 obtain⟨vg,vc,rfl,hv⟩:=hopd.own;have hvb:w1.heap.size≤vg:=hopd.blk _ _ _ rfl;have s3:=hb3.size;have kw3:Below W0.heap.size W0 w3:=hb1.trans (hb3.mono s1);have HG:Hid (NrmU xs w (.returned (.agg #[.slice (some ⟨vg,0,none⟩) y'.length vc])) (w3.setCell ⟨w.heap.size+1,0,none⟩ (.slice (some ⟨vg,0,none⟩) y'.length vc))):=by refine⟨_,_,_,y',rfl,.inr ⟨vg,vc,rfl,?_⟩,.inr ⟨HY.2,HY.1⟩,(k1.trans (hb3.mono k1.size)).setCell (by show _≤w.heap.size+1;omega) _⟩;have h8:yAm w3 (w.heap.size+1+1) vg vc y':=hv.up (by omega);exact yAm.mono (ownsRow_setCell_below h8 (by show w.heap.size+1<_;omega) _) (by omega)
 clear hopd hv hf;obtain⟨c0,c1,c2,_⟩:=HK.out w3 kw3;go_wp2_with fail;exact bodyPost_ret (v:=.agg #[.slice (some ⟨vg,0,none⟩) y'.length vc]) (by simp[results,Tryz.results18,go_sem,c1]) rfl (by simpa using HG.out)
theorem yJ3 {g:Nat} (h:yAm w base g cp xs) (hok:∀e∈xs,e.ok):Calls Tryz.prog 18 #[.agg #[.slice (some ⟨g,0,none⟩) xs.length cp]] w (NrmU xs w):=yGb h.wd hok
structure NwI (w0:World) (tf tn b o c nf:Nat) (an:Option Addr) (nn cn:Nat) (gc cc nc:Nat) (ys R:List Nd) (es:List Ent) (w:World):Prop where
 bf:yA w w0.heap.size 32 1 tf [.slice (some ⟨b,o,none⟩) nf c]
 bn:yA w w0.heap.size 32 1 tn [.slice an nn cn]
 wd:WdN w b o c ys
 un:yOo w w0.heap.size (.slice an nn cn) R
 ce:OwnC w w0.heap.size gc cc es
 tab:TabD w
 below:Below w0.heap.size w0 w
 lf:nf=ys.length
 lc:nc=es.length
theorem NwI.up {w0:World} {tf tn b o c nf:Nat} {an:Option Addr} {nn cn gc cc nc:Nat} {ys:List Nd} {es:List Ent} (h:NwI w0 tf tn b o c nf an nn cn gc cc nc ys R es w) (hb:Below w.heap.size w w'):NwI w0 tf tn b o c nf an nn cn gc cc nc ys R es w':=
 ⟨h.bf.below hb,h.bn.below hb,h.wd.below hb h.wd.lt,h.un.below hb,h.ce.below hb h.ce.lt.2,h.tab.chg (S:=fun _=>False) (Chg.of_below hb) (fun q=>q),h.below.trans (hb.mono h.below.size),h.lf,h.lc⟩
theorem yMs (v0 v1:Value) (n0 n1:Nat) (w:World) (h0:yDx w v0 n0) (h1:yDx w v1 n1) (hg:TabD w):Calls Tryz.prog 4 #[v0,v1] w fun e w'=>e=.returned (.bool true)∧Below w.heap.size w w':=by
 obtain⟨a0,cap0,hv0⟩:=h0.slice;subst hv0;obtain⟨a1,cap1,hv1⟩:=h1.slice;subst hv1;have HI:Hid (yDx w (.slice a0 n0 cap0) n0∧yDx w (.slice a1 n1 cap1) n1∧TabD w):=⟨h0,h1,hg⟩;have hr0:=h0.1;have hr1:=h1.1;unfold maxLen at hr0 hr1;clear h0 h1 hg;by_cases hbig:1048576<n0
 ·have z:(1048576:Int)<(n0:Int):=by omega
  go_enter Tryz.func4,Tryz.ntmps4;go_wp2_with fail;go_ret;exact⟨rfl,Below.refl _ _⟩
 have z:¬(1048576:Int)<(n0:Int):=by omega
 by_cases hbig1:1048576<n1
 ·have z1:(1048576:Int)<(n1:Int):=by omega
  go_enter Tryz.func4,Tryz.ntmps4;go_wp2_with fail;go_ret;exact⟨rfl,Below.refl _ _⟩
 have z1:¬(1048576:Int)<(n1:Int):=by omega
 have h10:n0≤1048576:=by omega
 have h11:n1≤1048576:=by omega
 go_enter Tryz.func4,Tryz.ntmps4;go_wp2_with fail;refine(yKb _ n0 _ (HI.1.code h10)).mono ?_;rintro e w1 ⟨b,o,c,ys,rfl,hyl,H1⟩;have hb1:Below w.heap.size w w1:=H1.2;obtain⟨W1,hW1⟩:=qE (w1.alloc (Obj.cells #[.slice (some ⟨b,o,none⟩) ys.length c] 32):World);obtain⟨tf,htf⟩:=qE w1.heap.size;obtain⟨nf,hnf⟩:=qE ys.length;rw[←hnf]at hW1 hyl⊢;have s1:=hb1.size;have kW1:Below w1.heap.size w1 W1:=by rw[hW1];exact qB
 have hB1:yA W1 w.heap.size 32 1 tf [.slice (some ⟨b,o,none⟩) nf c]:=by rw[hW1,htf];exact yAa w1 _ s1 rfl
 have kw1:Below w.heap.size w W1:=hb1.trans (kW1.mono s1);have HW1:Hid (yA W1 w.heap.size 32 1 tf [.slice (some ⟨b,o,none⟩) nf c]∧WdN W1 b o c ys∧(∀e∈ys,e.ok)∧nf=ys.length∧Below w.heap.size w W1):=by have h9:=H1.1;exact⟨hB1,(WdN.mk h9.2.1 h9.2.2.1.2 h9.2.2.2).below kW1 h9.2.2.1.2,h9.1,hnf,kw1⟩
 clear H1 hb1 hnf;go_upto_region 4 with fail;rw[←hW1,←htf];clear hW1 htf s1 kW1 hB1;go_wp2_with fail;refine(yIx _ n1 _ ((HI.2.1.code h11).up kw1)).mono ?_;rintro e w2 ⟨b2,o2,c2,ys2,gc,cc,es,rfl,_,hel,H2⟩;have hb2:Below W1.heap.size W1 w2:=H2.2.2;obtain⟨W2,hW2⟩:=qE (w2.alloc (Obj.cells #[.slice (some ⟨b2,o2,none⟩) ys2.length c2] 32):World);have s2:=hb2.size;have sW1:=kw1.size;have kW2:Below w2.heap.size w2 W2:=by rw[hW2];exact qB
 have k2:Below W1.heap.size W1 W2:=hb2.trans (kW2.mono s2);obtain⟨nc,hnc⟩:=qE es.length;rw[←hnc]at hel⊢;have HW2:Hid (yA W2 w.heap.size 32 1 tf [.slice (some ⟨b,o,none⟩) nf c]∧WdN W2 b o c ys∧OwnC W2 w.heap.size gc cc es∧(∀e∈es,e.ok)∧(∀e∈es,e.kind=0)∧nc=es.length∧Below w.heap.size w W2):=by have h9:=H2.2.1;exact⟨HW1.1.below k2,HW1.2.1.below k2 HW1.2.1.lt,(h9.1.mono sW1).below kW2 h9.1.lt.2,h9.2.1,h9.2.2,hnc,HW1.2.2.2.2.trans (k2.mono sW1)⟩
 clear H2 hb2 hnc;have c1:=HW2.1.cell (j:=0) rfl;go_upto_region 5 with fail;rw[←hW2];clear hW2 s2 kW2 k2 sW1 kw1;have HNrm:Hid (Calls Tryz.prog 18 #[.agg #[.slice (some ⟨b,o,none⟩) nf c]] W2 (NrmU ys W2)):=by rw[HW1.2.2.2.1];exact yGb HW2.2.1 HW1.2.2.1
 go_wp2_with fail;refine HNrm.mono ?_;rintro e w3 ⟨an,nn,cn,R,rfl,hU3,hR3,hb3⟩;obtain⟨W3,hW3⟩:=qE (w3.alloc (Obj.cells #[.slice an nn cn] 32):World);obtain⟨tn,htn⟩:=qE w3.heap.size;have HW3:Hid (NwI w tf tn b o c nf an nn cn gc cc nc ys R es W3):=by
  have s2:=HW2.2.2.2.2.2.2.size;have s3:=hb3.size;have kW3:Below w3.heap.size w3 W3:=by rw[hW3];exact qB
  have k3:Below W2.heap.size W2 W3:=hb3.trans (kW3.mono s3);have hBn:yA W3 w.heap.size 32 1 tn [.slice an nn cn]:=by rw[hW3,htn];exact yAa w3 _ (by omega) rfl
  have kk:Below w.heap.size w W3:=HW2.2.2.2.2.2.2.trans (k3.mono s2);refine⟨HW2.1.below k3,hBn,HW2.2.1.below k3 HW2.2.1.lt,?_,HW2.2.2.1.below k3 HW2.2.2.1.lt.2,HI.2.2.chg (S:=fun _=>False) (Chg.of_below kk) (fun q=>q),kk,HW1.2.2.2.1,HW2.2.2.2.2.2.1⟩;have h9:=hU3.below kW3;rcases h9 with h9|⟨g',cp',h9,h10⟩
  ·exact .inl h9
  ·exact .inr ⟨g',cp',h9,h10.mono s2⟩
 have HR:Hid (yXk ys R∧(∀e∈ys,e.ok)∧(∀e∈es,e.ok)∧(∀e∈es,e.kind=0)∧nc≤100):=⟨hR3,HW1.2.2.1,HW2.2.2.2.1,HW2.2.2.2.2.1,hel⟩;clear hU3 hR3 hb3 HNrm c1 hel;have c1:=HW3.bf.cell (j:=0) rfl;go_upto_region 6 with fail;rw[←hW3,←htn];clear hW3 htn HW1 HW2;have HVf:Hid (Calls Tryz.prog 19 #[.agg #[.slice (some ⟨b,o,none⟩) nf c]] W3 (yGp ys W3)):=by rw[HW3.lf];exact yEd HW3.wd HR.2.1
 go_wp2_with fail;refine HVf.mono ?_;rintro e w4 ⟨r,rfl,hr,hb4⟩;have HW4:Hid (NwI w tf tn b o c nf an nn cn gc cc nc ys R es w4):=HW3.up hb4;have HG:Hid (r=true↔yCk ys):=hr;clear hr hb4 c1 HVf HW3;cases r
 case false=>
  have hno:¬yCk ys:=fun q=>Bool.noConfusion (HG.2 q);have hRn:R= []:=by
   rcases HR.1 with q|q
   ·exact q.2
   ·exact absurd q.1 hno
  have hnn:nn=0:=by
   rcases HW4.un with⟨q,_⟩|⟨g',cp',q,_⟩
   ·cases q;rfl
   ·rw[hRn]at q;cases q;rfl
  subst hnn;have c2:=HW4.bn.cell (j:=0) rfl;have HB4:Hid (Below w.heap.size w w4):=HW4.below;clear hno hRn;go_wp2_with fail;go_ret;exact⟨rfl,HB4.out⟩
 case true=>
 have hgf:yCk ys:=HG.1 (by first|rfl|trivial);have hNf:yGo ys R:=by
  rcases HR.1 with q|q
  ·exact absurd hgf q.1
  ·exact q.2
 obtain⟨y,hy,hyne,hyl2,hym⟩:=yLj hgf;obtain rfl:=yJm hNf hy;obtain⟨hgR,hlR,hRR,hME⟩:=yUl hgf hNf;have hok9:∀e∈R,e.ok:=fun e he=>HR.2.1 e (hym e he);obtain⟨g,cp,hq,hOR⟩:∃g cp,Value.slice an nn cn=.slice (some ⟨g,0,none⟩) R.length cp∧yAm w4 w.heap.size g cp R:=by
  rcases HW4.un with⟨_,q⟩|q
  ·exact absurd q hyne
  ·exact q
 have hlen:nn=R.length:=by cases hq;rfl
 have hle2:nn≤nf:=by rw[hlen,HW4.lf];exact hlR
 have hn200:nn≤200:=by rw[hlen];exact hyl2
 obtain⟨rfl,rfl⟩:an=some ⟨g,0,none⟩∧cn=cp:=by cases hq;exact⟨rfl,rfl⟩
 have HM:Hid (yCk R∧yGo R R∧(∀es R',(∀e∈es,e.kind=0)→(∀e∈es,e.ok)→yEg ys es R'→yEg R es R')∧(∀e∈R,e.ok)∧nn=R.length∧(∀e∈ys,e.ok)∧(∀e∈es,e.ok)∧(∀e∈es,e.kind=0)∧nc≤100∧R≠ []):=⟨hgR,hRR,hME,hok9,hlen,HR.2.1,HR.2.2.1,HR.2.2.2.1,HR.2.2.2.2,hyne⟩;have HN:Hid (∀wx,Below w4.heap.size w4 wx→NwI w tf tn b o c nf (some ⟨g,0,none⟩) nn cn gc cc nc ys R es wx∧yAm wx w.heap.size g cn R):=fun wx hx=>⟨HW4.up hx,hOR.below hx hOR.lt.2⟩;clear hgf hNf hy hyne hyl2 hym hgR hlR hRR hME hok9 hq hOR hlen HG HR;have zl:¬(nf:Int)<(nn:Int):=by omega
 have hdl:decide ((nf:Int)<(nn:Int))=false:=by simp[zl]
 go_upto_region 8 with fail;have HBd:Hid (Below w4.heap.size w4 w4.drew):=(Below.refl _ _).drew;have hS0:(fun w':World=>w'.cell? ⟨tn,0,none⟩=some (.slice (some ⟨g,0,none⟩) nn cn)∧w'.cell? ⟨tf,0,none⟩=some (.slice (some ⟨b,o,none⟩) nf c)) w4.drew:=⟨((HN.out w4.drew HBd.out).1.bn.cell (j:=0) rfl),((HN.out w4.drew HBd.out).1.bf.cell (j:=0) rfl)⟩;have HVn:Hid (Calls Tryz.prog 19 #[.agg #[.slice (some ⟨g,0,none⟩) nn cn]] w4.drew (yGp R w4.drew)):=by rw[HM.2.2.2.2.1];exact yEd (HN.out _ HBd.out).2.wd HM.2.2.2.1
 refine yAb 99 (fun w':World=>w'.cell? ⟨tn,0,none⟩=some (.slice (some ⟨g,0,none⟩) nn cn)∧w'.cell? ⟨tf,0,none⟩=some (.slice (some ⟨b,o,none⟩) nf c)) (by kernel_rfl) ?_;refine j2a 0 hS0 ?_;refine qO 1 rfl fun K hK=>?_;go_simp;go_at_call 19;refine(HVn.out).mono ?_;rintro e w5 ⟨r5,rfl,hr5,hb5⟩;obtain rfl:r5=true:=hr5.2 HM.1;have HB5:Hid (Below w4.heap.size w4 w5):=HBd.trans (hb5.mono HBd.size);have hS5:(fun w':World=>w'.cell? ⟨tn,0,none⟩=some (.slice (some ⟨g,0,none⟩) nn cn)∧w'.cell? ⟨tf,0,none⟩=some (.slice (some ⟨b,o,none⟩) nf c)) w5:=⟨((HN.out w5 HB5.out).1.bn.cell (j:=0) rfl),((HN.out w5 HB5.out).1.bf.cell (j:=0) rfl)⟩;clear hr5 hb5 HVn hS0;refine hK.out _ _ (.inr hS5) ?_;clear hK;refine jS ?_;refine j2a 2 hS5 (v:=(.bool false)) ?_;iterate 7 refine j2b hS5 ?_
 refine qT 10 (.bool false) rfl ?yfw10x10 hS5 ?_;case yfw10x10=>(intro wz hSw;obtain⟨hz0,hz1⟩:=hSw;go_simp;(try simp only[hdl]);(try simp);(try with_reducible rfl))
 try simp only[qA,List.getElem_toArray,List.getElem_cons_zero,List.getElem_cons_succ]
 iterate 3 refine j2b hS5 ?_
 refine j2a 15 hS5 ?_;have HNn:Hid (Calls Tryz.prog 18 #[.agg #[.slice (some ⟨g,0,none⟩) nn cn]] w5 (NrmU R w5)):=by rw[HM.2.2.2.2.1];exact yJ3 (HN.out _ HB5.out).2 HM.2.2.2.1
 refine qO 14 rfl fun K hK=>?_;go_simp;go_at_call 18;refine(HNn.out).mono ?_;rintro e w6 ⟨a6,n6,c6,R6,rfl,hU6,hR6,hb6⟩;have HB6:Hid (Below w4.heap.size w4 w6):=HB5.trans (hb6.mono HB5.size);obtain rfl:R=R6:=(yUk hR6 (.inr ⟨HM.1,HM.2.1⟩)).symm;obtain⟨g6,cp6,hq6,hO6⟩:∃g6 cp6,Value.slice a6 n6 c6=.slice (some ⟨g6,0,none⟩) R.length cp6∧yAm w6 w5.heap.size g6 cp6 R:=by
  rcases hU6 with⟨_,q⟩|q
  ·exact absurd q HM.2.2.2.2.2.2.2.2.2
  ·exact q
 obtain⟨rfl,hn6,rfl⟩:a6=some ⟨g6,0,none⟩∧n6=R.length∧c6=cp6:=by cases hq6;exact⟨rfl,rfl,rfl⟩
 obtain rfl:nn=n6:=by rw[hn6,HM.2.2.2.2.1]
 have hS6:(fun w':World=>w'.cell? ⟨tn,0,none⟩=some (.slice (some ⟨g,0,none⟩) nn cn)∧w'.cell? ⟨tf,0,none⟩=some (.slice (some ⟨b,o,none⟩) nf c)) w6:=⟨((HN.out w6 HB6.out).1.bn.cell (j:=0) rfl),((HN.out w6 HB6.out).1.bf.cell (j:=0) rfl)⟩;have HLw:Hid (Calls Tryz.prog 20 #[.agg #[.slice (some ⟨g6,0,none⟩) nn c6],.agg #[.slice (some ⟨g,0,none⟩) nn cn]] w6 fun e w'=>e=.returned (.bool true)∧Below w6.heap.size w6 w'):=by have h9:=(HN.out _ HB6.out).2;rw[HM.2.2.2.2.1];exact yMl hO6.at hO6.lt.2 h9.at h9.lt.2 (by have:=HM.2.2.2.2.1;omega)
 clear hU6 hR6 hb6 hq6 hO6 hn6 HNn hS5;refine hK.out _ _ (.inr hS6) ?_;clear hK;refine jS ?_;refine qO 16 rfl fun K hK=>?_;go_simp;go_at_call 20;refine(HLw.out).mono ?_;rintro e w7 ⟨rfl,hb7⟩;have HB7:Hid (Below w4.heap.size w4 w7):=HB6.trans (hb7.mono HB6.size);have hS7:(fun w':World=>w'.cell? ⟨tn,0,none⟩=some (.slice (some ⟨g,0,none⟩) nn cn)∧w'.cell? ⟨tf,0,none⟩=some (.slice (some ⟨b,o,none⟩) nf c)) w7:=⟨((HN.out w7 HB7.out).1.bn.cell (j:=0) rfl),((HN.out w7 HB7.out).1.bf.cell (j:=0) rfl)⟩;clear hb7 HLw hS6;refine hK.out _ _ (.inr hS7) ?_;clear hK;refine jS ?_;refine j2a 17 hS7 (v:=(.bool false)) ?_;refine j2b hS7 ?_;refine qD ?_;go_upto_region 10 with fail;have HBe:Hid (Below w4.heap.size w4 w7.drew):=HB7.trans ((Below.refl _ _).drew.mono HB7.size);clear hS7;have hS8:(fun w':World=>w'.cell? ⟨tn,0,none⟩=some (.slice (some ⟨g,0,none⟩) nn cn)∧w'.cell? ⟨tf,0,none⟩=some (.slice (some ⟨b,o,none⟩) nf c)) w7.drew:=⟨((HN.out w7.drew HBe.out).1.bn.cell (j:=0) rfl),((HN.out w7.drew HBe.out).1.bf.cell (j:=0) rfl)⟩;have HSm:Hid (∀wx,Below w4.heap.size w4 wx→Calls Tryz.prog 7 #[.agg #[.slice (some ⟨g,0,none⟩) nn cn],.slice (some ⟨gc,0,none⟩) nc cc] wx (MeaP R es wx)):=fun wx hx=>by have h9:=HN.out wx hx;rw[HM.2.2.2.2.1,h9.1.lc];exact yFf h9.2.wd HM.2.2.2.1 h9.1.ce HM.2.2.2.2.2.2.1 HM.2.2.2.2.2.2.2.1 (by have:=HM.2.2.2.2.2.2.2.2.1;have:=h9.1.lc;omega)
 have HSf:Hid (∀wx,Below w4.heap.size w4 wx→Calls Tryz.prog 7 #[.agg #[.slice (some ⟨b,o,none⟩) nf c],.slice (some ⟨gc,0,none⟩) nc cc] wx (MeaP ys es wx)):=fun wx hx=>by have h9:=HN.out wx hx;rw[h9.1.lf,h9.1.lc];exact yFf h9.1.wd HM.2.2.2.2.2.1 h9.1.ce HM.2.2.2.2.2.2.1 HM.2.2.2.2.2.2.2.1 (by have:=HM.2.2.2.2.2.2.2.2.1;have:=h9.1.lc;omega)
 have HIm:Hid (∀wx,Below w4.heap.size w4 wx→Calls Tryz.prog 10 #[.agg #[.slice (some ⟨g,0,none⟩) nn cn],.slice (some ⟨gc,0,none⟩) nc cc] wx (MeaP R es wx)):=fun wx hx=>by have h9:=HN.out wx hx;rw[HM.2.2.2.2.1,h9.1.lc];exact yIv h9.2 HM.2.2.2.1 h9.1.ce HM.2.2.2.2.2.2.1 HM.2.2.2.2.2.2.2.1 (by have:=HM.2.2.2.2.2.2.2.2.1;have:=h9.1.lc;omega) h9.1.tab
 refine yAb 99 (fun w':World=>w'.cell? ⟨tn,0,none⟩=some (.slice (some ⟨g,0,none⟩) nn cn)∧w'.cell? ⟨tf,0,none⟩=some (.slice (some ⟨b,o,none⟩) nf c)) (by kernel_rfl) ?_;refine j2a 0 hS8 ?_;refine j2b hS8 ?_;refine j2a 3 hS8 ?_;refine j2b hS8 ?_;refine qO 2 rfl fun K hK=>?_;go_simp;go_at_call 7;refine(HSm.out w7.drew HBe.out).mono ?_;rintro e x1 ⟨ga,ca,La,rfl,Hx1⟩;have HX1:Hid (Below w4.heap.size w4 x1):=HBe.trans (Hx1.2.2.mono HBe.size);have hmx1:yEg R es La:=Hx1.1;have HO1:Hid (OwnC x1 w7.drew.heap.size ga ca La∧yEg R es La):=⟨Hx1.2.1,hmx1⟩;clear hmx1 Hx1;have hS9:(fun w':World=>w'.cell? ⟨tn,0,none⟩=some (.slice (some ⟨g,0,none⟩) nn cn)∧w'.cell? ⟨tf,0,none⟩=some (.slice (some ⟨b,o,none⟩) nf c)) x1:=⟨((HN.out x1 HX1.out).1.bn.cell (j:=0) rfl),((HN.out x1 HX1.out).1.bf.cell (j:=0) rfl)⟩;refine hK.out _ _ (.inr hS9) ?_;clear hK;refine jS ?_;refine qO 5 rfl fun K hK=>?_;go_simp;go_at_call 7;refine(HSf.out x1 HX1.out).mono ?_;rintro e x2 ⟨gb,cb,Lb,rfl,Hx2⟩;have HX2:Hid (Below w4.heap.size w4 x2):=HX1.trans (Hx2.2.2.mono HX1.size);have hmx2:yEg R es Lb:=HM.2.2.1 es Lb HM.2.2.2.2.2.2.2.1 HM.2.2.2.2.2.2.1 Hx2.1;obtain rfl:La=Lb:=(yJr hmx2 HO1.2).symm;have HO2:Hid (OwnC x2 x1.heap.size gb cb La∧OwnC x2 w7.drew.heap.size ga ca La):=⟨Hx2.2.1,HO1.1.below Hx2.2.2 HO1.1.lt.2⟩;clear hmx2 Hx2 hS9;have hS10:(fun w':World=>w'.cell? ⟨tn,0,none⟩=some (.slice (some ⟨g,0,none⟩) nn cn)∧w'.cell? ⟨tf,0,none⟩=some (.slice (some ⟨b,o,none⟩) nf c)) x2:=⟨((HN.out x2 HX2.out).1.bn.cell (j:=0) rfl),((HN.out x2 HX2.out).1.bf.cell (j:=0) rfl)⟩;refine hK.out _ _ (.inr hS10) ?_;clear hK;refine jS ?_;refine qO 6 rfl fun K hK=>?_;go_simp;go_at_call 21;refine(yJt HO2.2 HO2.1).mono ?_;rintro e x3 ⟨rfl,hx3⟩;have HX3:Hid (Below w4.heap.size w4 x3):=HX2.trans (hx3.mono HX2.size);have hS11:(fun w':World=>w'.cell? ⟨tn,0,none⟩=some (.slice (some ⟨g,0,none⟩) nn cn)∧w'.cell? ⟨tf,0,none⟩=some (.slice (some ⟨b,o,none⟩) nf c)) x3:=⟨((HN.out x3 HX3.out).1.bn.cell (j:=0) rfl),((HN.out x3 HX3.out).1.bf.cell (j:=0) rfl)⟩;clear hx3 hS10;refine hK.out _ _ (.inr hS11) ?_;clear hK;refine jS ?_;refine j2a 7 hS11 ?_;iterate 2 refine j2b hS11 ?_
 refine j2a 11 hS11 ?_;refine j2b hS11 ?_;refine qO 10 rfl fun K hK=>?_;go_simp;go_at_call 10;refine(HIm.out x3 HX3.out).mono ?_;rintro e x4 ⟨gd,cd,Ld,rfl,Hx4⟩;have HX4:Hid (Below w4.heap.size w4 x4):=HX3.trans (Hx4.2.2.mono HX3.size);have hmx4:yEg R es Ld:=Hx4.1;obtain rfl:La=Ld:=(yJr hmx4 HO1.2).symm;have HO4:Hid (OwnC x4 x3.heap.size gd cd La∧yEg R es La):=⟨Hx4.2.1,hmx4⟩;clear hmx4 Hx4 hS11;have hS12:(fun w':World=>w'.cell? ⟨tn,0,none⟩=some (.slice (some ⟨g,0,none⟩) nn cn)∧w'.cell? ⟨tf,0,none⟩=some (.slice (some ⟨b,o,none⟩) nf c)) x4:=⟨((HN.out x4 HX4.out).1.bn.cell (j:=0) rfl),((HN.out x4 HX4.out).1.bf.cell (j:=0) rfl)⟩;refine hK.out _ _ (.inr hS12) ?_;clear hK;refine jS ?_;refine qO 13 rfl fun K hK=>?_;go_simp;go_at_call 7;refine(HSf.out x4 HX4.out).mono ?_;rintro e x5 ⟨ge,ce,Le,rfl,Hx5⟩;have HX5:Hid (Below w4.heap.size w4 x5):=HX4.trans (Hx5.2.2.mono HX4.size);have hmx5:yEg R es Le:=HM.2.2.1 es Le HM.2.2.2.2.2.2.2.1 HM.2.2.2.2.2.2.1 Hx5.1;obtain rfl:La=Le:=(yJr hmx5 HO4.2).symm;have HO5:Hid (OwnC x5 x4.heap.size ge ce La∧OwnC x5 x3.heap.size gd cd La):=⟨Hx5.2.1,HO4.1.below Hx5.2.2 HO4.1.lt.2⟩;clear hmx5 Hx5 hS12;have hS13:(fun w':World=>w'.cell? ⟨tn,0,none⟩=some (.slice (some ⟨g,0,none⟩) nn cn)∧w'.cell? ⟨tf,0,none⟩=some (.slice (some ⟨b,o,none⟩) nf c)) x5:=⟨((HN.out x5 HX5.out).1.bn.cell (j:=0) rfl),((HN.out x5 HX5.out).1.bf.cell (j:=0) rfl)⟩;refine hK.out _ _ (.inr hS13) ?_;clear hK;refine jS ?_;refine qO 14 rfl fun K hK=>?_;go_simp;go_at_call 21;refine(yJt HO5.2 HO5.1).mono ?_;rintro e x6 ⟨rfl,hx6⟩;have HX6:Hid (Below w4.heap.size w4 x6):=HX5.trans (hx6.mono HX5.size);have hS14:(fun w':World=>w'.cell? ⟨tn,0,none⟩=some (.slice (some ⟨g,0,none⟩) nn cn)∧w'.cell? ⟨tf,0,none⟩=some (.slice (some ⟨b,o,none⟩) nf c)) x6:=⟨((HN.out x6 HX6.out).1.bn.cell (j:=0) rfl),((HN.out x6 HX6.out).1.bf.cell (j:=0) rfl)⟩;clear hx6 hS13;refine hK.out _ _ (.inr hS14) ?_;clear hK;refine jS ?_;refine j2a 15 hS14 ?_;refine j2b hS14 ?_;refine qD ?_;have HBF:Hid (Below w.heap.size w x6):=(HN.out x6 HX6.out).1.below;go_wp2_with fail;go_ret;exact⟨rfl,HBF.out⟩
end Go.Proofs.YtkidabedcgngcaaGreatDoor
