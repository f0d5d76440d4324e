import Derived.Test.YtkidabedcgngcaaGreatDoorVkAA
import Derived.Test.YtkidabedcgngcaaGreatDoorVkAB
import Derived.Test.YtkidabedcgngcaaGreatDoorVkAI
import Derived.Test.YtkidabedcgngcaaGreatDoorVkAH
import Derived.Test.YtkidabedcgngcaaGreatDoorVkAD
import Derived.Test.YtkidabedcgngcaaGreatDoorVkAC
namespace Go.Proofs.YtkidabedcgngcaaGreatDoor
open Go.RowKit Go.ChangeShapes Go.WideShapes Go.ChangeAt Go.Deep Go.Shelf Go.Maps
set_option linter.unusedVariables false
set_option linter.unusedSimpArgs false
set_option maxRecDepth 100000
set_option maxHeartbeats 40000000
structure UnJ (w:World) (la lb U:List Ent) (i j g cp m:Nat) (wr:World):Prop where
 own:∃L f,U=L++mrgU f (la.drop i) (lb.drop j)∧(la.drop i).length+(lb.drop j).length≤f∧m=L.length∧OwnC wr w.heap.size g cp L
 below:Below w.heap.size w wr
variable {w wr w':World} {i j cp:Nat}
theorem UnJ.move {la lb U:List Ent} {g m:Nat} (h:UnJ w la lb U i j g cp m wr) (hb:Below wr.heap.size wr w'):UnJ w la lb U i j g cp m w':=by obtain⟨L,f,h1,h2,h3,h4⟩:=h.own;exact⟨⟨L,f,h1,h2,h3,h4.below hb h4.lt.2⟩,h.below.trans (hb.mono h.below.size)⟩
variable {o:Nat} {l:List Ent}
theorem yFq {b p:Nat} (h:yBd w b o (l.drop i)) (hp:i<l.length→p=o):yBd w b p (l.drop i):=by
 by_cases q:i<l.length
 ·rw[hp q];exact h
 ·intro k e he;rw[List.drop_of_length_le (by omega)]at he;simp at he
theorem yN8 {x:Ent} (h:l[i]?=some x):l.drop i=x::l.drop (i+1):=by exact zzQ93
theorem yFu (b o c n i:Nat):Value.slice (if c-i=1 then some ⟨b,o+i*5,none⟩else some ⟨b,o+i*5+5,none⟩) (n-i-1) (c-i-1)=.slice (some ⟨b,if c-i=1 then o+i*5 else o+i*5+5,none⟩) (n-(i+1)) (c-(i+1)):=by rw[show n-i-1=n-(i+1)by omega,show c-i-1=c-(i+1)by omega];split<;>rfl
theorem yGv (b o c n i:Nat) (h:n≤c):i+1<n→(if c-i=1 then o+i*5 else o+i*5+5)=o+(i+1)*5:=fun q=>by rw[if_neg (by omega)];omega
theorem yRw {ba oa ca bb ob cb:Nat} {la lb:List Ent} (ha:CSl w ba oa ca la) (hb:CSl w bb ob cb lb) (hoa:Ord la) (hob:Ord lb) (hka:∀x∈la,x.kind=0) (hkb:∀x∈lb,x.kind=0) (hla:la.length≤10000) (hlb:lb.length≤10000):Calls Tryz.prog 64 #[.slice (some ⟨ba,oa,none⟩) la.length ca,.slice (some ⟨bb,ob,none⟩) lb.length cb] w fun e w'=>∃g cp,e=.returned (.slice (some ⟨g,0,none⟩) (uniM la lb).length cp)∧OwnC w' w.heap.size g cp (uniM la lb)∧Below w.heap.size w w':=by
 obtain⟨NA,hNA⟩:∃N,N=la.length:=⟨_,rfl⟩;obtain⟨NB,hNB⟩:∃N,N=lb.length:=⟨_,rfl⟩;have HN:Hid (NA=la.length∧NB=lb.length):=⟨hNA,hNB⟩;have HR:Hid ((∀wx,Below w.heap.size w wx→CSl wx ba oa ca la)∧(∀wx,Below w.heap.size w wx→CSl wx bb ob cb lb)):=⟨fun wx hx=>ha.below hx,fun wx hx=>hb.below hx⟩;have HK:Hid ((∀x∈la,x.kind=0)∧(∀x∈lb,x.kind=0)):=⟨hka,hkb⟩;obtain⟨U,hU⟩:=qE (uniM la lb);have HU:Hid (U=mrgU (la.length+lb.length) la lb):=by rw[hU];exact(yW0 (Nat.le_refl _) hoa hob).symm
 rw[←hU];rw[←hNA,←hNB];rw[←hNA]at hla;rw[←hNB]at hlb;have hca:NA≤ca:=by rw[hNA];exact ha.len
 have hcb:NB≤cb:=by rw[hNB];exact hb.len
 have hma:ca≤9223372036854775807:=by have:=ha.cap;unfold maxLen at this;omega
 have hmb:cb≤9223372036854775807:=by have:=hb.cap;unfold maxLen at this;omega
 obtain⟨i,hi,hz0,hz1,hz2⟩:=info_parts Tryz.infoCel;have HI:Hid (Tryz.prog.info? 55=some i∧i.zero=some (.agg #[.string ⟨#[]⟩,.string ⟨#[]⟩,.string ⟨#[]⟩,.int .u64 0,.string ⟨#[]⟩])∧i.size=5∧i.bytes=72):=⟨hi,hz0,hz1,hz2⟩;clear hi hz0 hz1 hz2 ha hb hoa hob hka hkb hNA hNB hU;go_enter Tryz.func64,Tryz.ntmps64;go_wp2_with (at_make;refine wpList_make_own _ rfl _ _ 28 rfl w.heap.size 55 i _ 5 Tryz.underlying28 HI.1 HI.2.1 HI.2.2.1 _ _ _ (NA+NB) rfl rfl rfl ?hb ?hm ?hs ?_);case hb=>rw[HI.2.2.2];omega
 case hm=>unfold maxLen;omega
 case hs=>exact Nat.le_refl _
 intro w1 hown hgrow;have HJ0:Hid (UnJ w la lb U 0 0 w.heap.size (NA+NB) 0 w1):=⟨⟨[],la.length+lb.length,HU.out,by simp,rfl,hown⟩,(Below.refl _ _).grown hgrow (Nat.le_refl _) (fun k hk=>by cases hk)⟩;clear hown hgrow;go_wp2_with fail;go_loopw[0,1,5] (fun av bv o wr=>∃(i j g cp m pa pb:Nat),i≤NA∧j≤NB∧(i<NA→pa=oa+i*5)∧(j<NB→pb=ob+j*5)∧av=.slice (some ⟨ba,pa,none⟩) (NA-i) (ca-i)∧bv=.slice (some ⟨bb,pb,none⟩) (NB-j) (cb-j)∧o=.slice (some ⟨g,0,none⟩) m cp∧m≤i+j∧Hid (UnJ w la lb U i j g cp m wr)) (fun av bv _ _=>(match av with| .slice _ n _=>n|_=>0)+(match bv with| .slice _ n _=>n|_=>0));case atStart=>exact⟨0,0,w.heap.size,NA+NB,0,oa,ob,Nat.zero_le _,Nat.zero_le _,fun _=>by simp,fun _=>by simp,rfl,rfl,rfl,Nat.zero_le _,HJ0.out⟩
 case round=>
  obtain⟨i,j,g,cp,m,pa,pb,hiA,hjB,hpa,hpb,rfl,rfl,rfl,hmij,HJ⟩:=hrel;by_cases hli:i<NA
  ·by_cases hlj:j<NB
   ·have zi:(0:Int)<((NA-i:Nat):Int):=by omega
    have zj:(0:Int)<((NB-j:Nat):Int):=by omega
    obtain rfl:=hpa hli;obtain rfl:=hpb hlj;clear hpa hpb;obtain⟨x,hx⟩:∃x,la[i]?=some x:=⟨_,List.getElem?_eq_getElem (by have:=HN.1;omega)⟩;obtain⟨y,hy⟩:∃y,lb[j]?=some y:=⟨_,List.getElem?_eq_getElem (by have:=HN.2;omega)⟩;have hCa:=(HR.1 wr HJ.below).at_ i x hx;have hCb:=(HR.2 wr HJ.below).at_ j y hy;have hS0:(fun w':World=>w'.cell? ⟨ba,oa+i*5,none⟩=some (.string x.row)∧w'.cell? ⟨ba,oa+i*5+1,none⟩=some (.string x.fam)∧w'.cell? ⟨ba,oa+i*5+2,none⟩=some (.string x.qual)∧w'.cell? ⟨ba,oa+i*5+3,none⟩=some (.int .u64 x.ts)∧w'.cell? ⟨ba,oa+i*5+4,none⟩=some (.string x.val)∧w'.cell? ⟨bb,ob+j*5,none⟩=some (.string y.row)∧w'.cell? ⟨bb,ob+j*5+1,none⟩=some (.string y.fam)∧w'.cell? ⟨bb,ob+j*5+2,none⟩=some (.string y.qual)∧w'.cell? ⟨bb,ob+j*5+3,none⟩=some (.int .u64 y.ts)∧w'.cell? ⟨bb,ob+j*5+4,none⟩=some (.string y.val)) wr.drew:=⟨hCa.1,hCa.2.1,hCa.2.2.1,hCa.2.2.2.1,hCa.2.2.2.2,hCb.1,hCb.2.1,hCb.2.2.1,hCb.2.2.2.1,hCb.2.2.2.2⟩;have hd:Below wr.heap.size wr wr.drew:=(Below.refl _ _).drew;have HXq:Hid (la[i]?=some x∧lb[j]?=some y):=⟨hx,hy⟩;have HXY:Hid (la.drop i=x::la.drop (i+1)∧lb.drop j=y::lb.drop (j+1)):=⟨yN8 hx,yN8 hy⟩;have HCm:Hid (Calls Tryz.prog 60 #[x.c,y.c] wr.drew fun e w'=>e=.returned (.int .i64 (yAh x y))∧Below wr.drew.heap.size wr.drew w'):=by
     have h9:=yFr x y wr.drew;have px:putE x=x:=by have h0:=HK.1 x (List.mem_of_getElem? hx);cases x;simp only[putE]at*;subst h0;rfl
     have py:putE y=y:=by have h0:=HK.2 y (List.mem_of_getElem? hy);cases y;simp only[putE]at*;subst h0;rfl
     rw[px,py]at h9;exact h9
    obtain⟨ky,hky⟩:=qE (yAh x y);have HKy:Hid (ky=yAh x y):=hky;have hkv:=yCz x y;rw[←hky]at HCm hkv;clear hky hCa hCb hx hy;go_upto_region 3 with fail;refine yAb 99 (fun w':World=>w'.cell? ⟨ba,oa+i*5,none⟩=some (.string x.row)∧w'.cell? ⟨ba,oa+i*5+1,none⟩=some (.string x.fam)∧w'.cell? ⟨ba,oa+i*5+2,none⟩=some (.string x.qual)∧w'.cell? ⟨ba,oa+i*5+3,none⟩=some (.int .u64 x.ts)∧w'.cell? ⟨ba,oa+i*5+4,none⟩=some (.string x.val)∧w'.cell? ⟨bb,ob+j*5,none⟩=some (.string y.row)∧w'.cell? ⟨bb,ob+j*5+1,none⟩=some (.string y.fam)∧w'.cell? ⟨bb,ob+j*5+2,none⟩=some (.string y.qual)∧w'.cell? ⟨bb,ob+j*5+3,none⟩=some (.int .u64 y.ts)∧w'.cell? ⟨bb,ob+j*5+4,none⟩=some (.string y.val)) (by kernel_rfl) ?_;refine j6a 0 hS0 ?_;iterate 5 refine j6b hS0 ?_
    refine qO 6 rfl fun K hK=>?_;go_simp;go_at_call 60;refine HCm.mono ?_;rintro e w3 ⟨rfl,hb3⟩;have hb3':Below wr.heap.size wr w3:=hd.trans hb3;have HJ3:Hid (UnJ w la lb U i j g cp m w3):=HJ.move hb3';have hS3:(fun w':World=>w'.cell? ⟨ba,oa+i*5,none⟩=some (.string x.row)∧w'.cell? ⟨ba,oa+i*5+1,none⟩=some (.string x.fam)∧w'.cell? ⟨ba,oa+i*5+2,none⟩=some (.string x.qual)∧w'.cell? ⟨ba,oa+i*5+3,none⟩=some (.int .u64 x.ts)∧w'.cell? ⟨ba,oa+i*5+4,none⟩=some (.string x.val)∧w'.cell? ⟨bb,ob+j*5,none⟩=some (.string y.row)∧w'.cell? ⟨bb,ob+j*5+1,none⟩=some (.string y.fam)∧w'.cell? ⟨bb,ob+j*5+2,none⟩=some (.string y.qual)∧w'.cell? ⟨bb,ob+j*5+3,none⟩=some (.int .u64 y.ts)∧w'.cell? ⟨bb,ob+j*5+4,none⟩=some (.string y.val)) w3:=by have q1:=HXq.1;have q2:=HXq.2;have hCa:=(HR.1 w3 HJ3.below).at_ i x q1;have hCb:=(HR.2 w3 HJ3.below).at_ j y q2;exact⟨hCa.1,hCa.2.1,hCa.2.2.1,hCa.2.2.2.1,hCa.2.2.2.2,hCb.1,hCb.2.1,hCb.2.2.1,hCb.2.2.2.1,hCb.2.2.2.2⟩
    clear hb3 hb3';refine hK.out _ _ (.inr hS3) ?_;clear hK;refine jS ?_;refine j6a 7 hS3 ?_;refine qD ?_;obtain⟨L,f,hU1,hf1,hm1,hO1⟩:=HJ3.own;have HO1:Hid (OwnC w3 w.heap.size g cp L∧m=L.length∧Below w.heap.size w w3):=⟨hO1,hm1,HJ3.below⟩;have HKm:Hid (m=L.length):=hm1;obtain⟨f',hf'⟩:∃f',f=f'+1:=⟨f-1,by rw[HXY.1]at hf1;simp at hf1;omega⟩;subst hf';have HU1:Hid (U=L++mrgU (f'+1) (x::la.drop (i+1)) (y::lb.drop (j+1))∧(la.drop (i+1)).length+(lb.drop (j+1)).length+1≤f'):=by rw[HXY.1,HXY.2]at hU1 hf1;refine⟨hU1,?_⟩;simp only[List.length_cons]at hf1;omega
    obtain⟨d0,d1,d2,d3,d4,e0,e1,e2,e3,e4⟩:=hS3;have hbz:=HJ3.below.size;have hgl:=hO1.lt;clear hU1 hf1 hm1 hO1 hS0 HJ HCm;by_cases h1:ky=1
    ·subst h1;go_wp2_with (at_builtin;refine yAj _ rfl _ _ rfl w.heap.size g cp _ _ L y rfl rfl HKm.out ?hO ?hc ?hl ?hb ?_);case hO=>exact HO1.1.below (qB) (by omega)
     case hc=>exact yBw w3 y
     case hl=>rw[←HKm.out];omega
     case hb=>(first|omega|(simp;omega))
     intro g' cp' w' hO' hgr;have HNJ:Hid (UnJ w la lb U (i) (j+1) g' cp' (m+1) w'):=by
      refine⟨⟨L++ [y],f',?_,?_,by rw[List.length_append,←HKm.out];rfl,hO'⟩,?_⟩
      ·rw[HU1.1];simp[mrgU,←HKy.out,HXY.1]
      ·have h9:=HU1.2;rw[HXY.1];simp only[List.length_cons];omega
      ·exact(HO1.2.2.alloc HO1.2.2.size _).grown hgr (by simp;omega) (fun q hq=>by cases hq;omega)
     clear hO' hgr d0 d1 d2 d3 d4 e0 e1 e2 e3 e4;go_wp2_with fail;go_roundw;case rel=>exact⟨i,j+1,g',cp',m+1,_,_,by omega,by omega,fun _=>rfl,yGv bb ob cb NB j hcb,rfl,yFu bb ob cb NB j,rfl,by omega,HNJ.out⟩
     case measure=>(go_light;simp;try omega)
    ·by_cases h0:ky=0
     ·subst h0;go_wp2_with (at_builtin;refine yAj _ rfl _ _ rfl w.heap.size g cp _ _ L x rfl rfl HKm.out ?hO ?hc ?hl ?hb ?_);case hO=>exact HO1.1.below (qB) (by omega)
      case hc=>exact yBw w3 x
      case hl=>rw[←HKm.out];omega
      case hb=>(first|omega|(simp;omega))
      intro g' cp' w' hO' hgr;have HNJ:Hid (UnJ w la lb U (i+1) (j+1) g' cp' (m+1) w'):=by
       refine⟨⟨L++ [x],f',?_,?_,by rw[List.length_append,←HKm.out];rfl,hO'⟩,?_⟩
       ·rw[HU1.1];simp[mrgU,←HKy.out]
       ·have h9:=HU1.2;omega
       ·exact(HO1.2.2.alloc HO1.2.2.size _).grown hgr (by simp;omega) (fun q hq=>by cases hq;omega)
      clear hO' hgr d0 d1 d2 d3 d4 e0 e1 e2 e3 e4;go_wp2_with fail;go_roundw;case rel=>exact⟨i+1,j+1,g',cp',m+1,_,_,by omega,by omega,yGv ba oa ca NA i hca,yGv bb ob cb NB j hcb,yFu ba oa ca NA i,yFu bb ob cb NB j,rfl,by omega,HNJ.out⟩
      case measure=>(go_light;simp;try omega)
     ·obtain rfl:ky= -1:=by omega
      go_wp2_with (at_builtin;refine yAj _ rfl _ _ rfl w.heap.size g cp _ _ L x rfl rfl HKm.out ?hO ?hc ?hl ?hb ?_);case hO=>exact HO1.1.below (qB) (by omega)
      case hc=>exact yBw w3 x
      case hl=>rw[←HKm.out];omega
      case hb=>(first|omega|(simp;omega))
      intro g' cp' w' hO' hgr;have HNJ:Hid (UnJ w la lb U (i+1) (j) g' cp' (m+1) w'):=by
       refine⟨⟨L++ [x],f',?_,?_,by rw[List.length_append,←HKm.out];rfl,hO'⟩,?_⟩
       ·rw[HU1.1];simp[mrgU,←HKy.out,HXY.2]
       ·have h9:=HU1.2;rw[HXY.2];simp only[List.length_cons];omega
       ·exact(HO1.2.2.alloc HO1.2.2.size _).grown hgr (by simp;omega) (fun q hq=>by cases hq;omega)
      clear hO' hgr d0 d1 d2 d3 d4 e0 e1 e2 e3 e4;go_wp2_with fail;go_roundw;case rel=>exact⟨i+1,j,g',cp',m+1,_,_,by omega,by omega,yGv ba oa ca NA i hca,fun _=>rfl,yFu ba oa ca NA i,rfl,rfl,by omega,HNJ.out⟩
      case measure=>(go_light;simp;try omega)
   ·have zi:(0:Int)<((NA-i:Nat):Int):=by omega
    have zj:¬(0:Int)<((NB-j:Nat):Int):=by omega
    have hdb:lb.drop j= []:=List.drop_of_length_le (by rw[←HN.2];omega);obtain⟨L,f,hU1,hf1,hm1,hO1⟩:=HJ.own;have HE:Hid (U=L++(la.drop i++lb.drop j)):=by show _=_;rw[hU1,hdb,yNm,List.append_nil]
    have HO1:Hid (OwnC wr w.heap.size g cp L∧m=L.length∧Below w.heap.size w wr):=⟨hO1,hm1,HJ.below⟩;have HKm:Hid (m=L.length):=hm1;have HA1:Hid (yBd wr ba pa (la.drop i)∧NA-i=(la.drop i).length):=⟨yFq ((HR.1 wr HJ.below).drop (k:=i) (by rw[←HN.1];omega)).at_ (fun q=>hpa (by rw[HN.1];exact q)),by rw[List.length_drop,←HN.1]<;>omega⟩;have HB1:Hid ((∀wx,Below w.heap.size w wx→yBd wx bb pb (lb.drop j))∧NB-j=(lb.drop j).length):=⟨fun wx hx=>yFq ((HR.2 wx hx).drop (k:=j) (by rw[←HN.2];omega)).at_ (fun q=>hpb (by rw[HN.2];exact q)),by rw[List.length_drop,←HN.2]<;>omega⟩;have HLA:Hid (NA-i=(la.drop i).length):=HA1.2;have HLB:Hid (NB-j=(lb.drop j).length):=HB1.2;have hbz:=HJ.below.size;have hgl:=hO1.lt;clear hdb hU1 hf1 hm1 hO1 HJ hpa hpb;obtain⟨za,hza⟩:∃z,z=NA-i:=⟨_,rfl⟩;obtain⟨zb,hzb⟩:∃z,z=NB-j:=⟨_,rfl⟩;have HZ:Hid (za=NA-i∧zb=NB-j):=⟨hza,hzb⟩;have zi2:(0:Int)<(za:Int):=by omega
    have zj2:¬(0:Int)<(zb:Int):=by omega
    rw[←hza]at HLA⊢;rw[←hzb]at HLB⊢;have hzl:za≤10000∧zb≤10000:=by omega
    have hzl1:=hzl.1;have hzl2:=hzl.2;have hm20:m≤20000:=by omega
    clear hza hzb hzl zi zj hli hlj;go_upto_region 10 with fail;clear zi2 zj2;go_wp2_with (at_builtin;refine yBa _ rfl _ _ rfl w.heap.size g cp _ _ _ _ _ L (la.drop i) rfl rfl HKm.out HLA.out ?hO ?hc ?hl ?hb ?_);case hO=>exact HO1.1
    case hc=>exact HA1.1
    case hl=>(have h8:=HKm.out;have h9:=HLA.out;omega)
    try (case hb=>omega)
    intro g' cp' w' hO' hgr;have HN2:Hid (OwnC w' w.heap.size g' cp' (L++la.drop i)∧m+za=(L++la.drop i).length∧Below w.heap.size w w'):=⟨hO',by rw[List.length_append,←HKm.out,←HLA.out],HO1.2.2.grown hgr hbz (fun q hq=>by cases hq;omega)⟩;have HKm2:Hid (m+za=(L++la.drop i).length):=HN2.2.1;have hbz2:=HN2.2.2.size;have hgl2:=hO'.lt;clear hO' hgr;go_wp2_with (at_builtin;refine yBa _ rfl _ _ rfl w.heap.size g' cp' _ _ _ _ _ (L++la.drop i) (lb.drop j) rfl rfl HKm2.out HLB.out ?hO ?hc ?hl ?hb ?_);case hO=>exact HN2.1
    case hc=>exact HB1.1 w' HN2.2.2
    case hl=>(have h8:=HKm2.out;have h9:=HLB.out;omega)
    try (case hb=>omega)
    exact zzQ52
  ·have zi:¬(0:Int)<((NA-i:Nat):Int):=by omega
   have hda:la.drop i= []:=List.drop_of_length_le (by rw[←HN.1];omega);obtain⟨L,f,hU1,hf1,hm1,hO1⟩:=HJ.own;have HE:Hid (U=L++(la.drop i++lb.drop j)):=by show _=_;rw[hU1,hda,yQ2,List.nil_append]
   have HO1:Hid (OwnC wr w.heap.size g cp L∧m=L.length∧Below w.heap.size w wr):=⟨hO1,hm1,HJ.below⟩;have HKm:Hid (m=L.length):=hm1;have HA1:Hid (yBd wr ba pa (la.drop i)∧NA-i=(la.drop i).length):=⟨yFq ((HR.1 wr HJ.below).drop (k:=i) (by rw[←HN.1];omega)).at_ (fun q=>hpa (by rw[HN.1];exact q)),by rw[List.length_drop,←HN.1]<;>omega⟩;have HB1:Hid ((∀wx,Below w.heap.size w wx→yBd wx bb pb (lb.drop j))∧NB-j=(lb.drop j).length):=⟨fun wx hx=>yFq ((HR.2 wx hx).drop (k:=j) (by rw[←HN.2];omega)).at_ (fun q=>hpb (by rw[HN.2];exact q)),by rw[List.length_drop,←HN.2]<;>omega⟩;have HLA:Hid (NA-i=(la.drop i).length):=HA1.2;have HLB:Hid (NB-j=(lb.drop j).length):=HB1.2;have hbz:=HJ.below.size;have hgl:=hO1.lt;clear hda hU1 hf1 hm1 hO1 HJ hpa hpb;obtain⟨za,hza⟩:∃z,z=NA-i:=⟨_,rfl⟩;obtain⟨zb,hzb⟩:∃z,z=NB-j:=⟨_,rfl⟩;have HZ:Hid (za=NA-i∧zb=NB-j):=⟨hza,hzb⟩;have zi2:((0:Int)<(za:Int))=False:=eq_false (by omega);have zi3:(0<za)=False:=eq_false (by omega);rw[←hza]at HLA⊢;rw[←hzb]at HLB⊢;have hzl:za≤10000∧zb≤10000:=by omega
   have hzl1:=hzl.1;have hzl2:=hzl.2;have hm20:m≤20000:=by omega
   clear hza hzb hzl zi hli;go_upto_region 10 with fail;clear zi2 zi3;go_wp2_with (at_builtin;refine yBa _ rfl _ _ rfl w.heap.size g cp _ _ _ _ _ L (la.drop i) rfl rfl HKm.out HLA.out ?hO ?hc ?hl ?hb ?_);case hO=>exact HO1.1
   case hc=>exact HA1.1
   case hl=>(have h8:=HKm.out;have h9:=HLA.out;omega)
   try (case hb=>omega)
   intro g' cp' w' hO' hgr;have HN2:Hid (OwnC w' w.heap.size g' cp' (L++la.drop i)∧m+za=(L++la.drop i).length∧Below w.heap.size w w'):=⟨hO',by rw[List.length_append,←HKm.out,←HLA.out],HO1.2.2.grown hgr hbz (fun q hq=>by cases hq;omega)⟩;have HKm2:Hid (m+za=(L++la.drop i).length):=HN2.2.1;have hbz2:=HN2.2.2.size;have hgl2:=hO'.lt;clear hO' hgr;go_wp2_with (at_builtin;refine yBa _ rfl _ _ rfl w.heap.size g' cp' _ _ _ _ _ (L++la.drop i) (lb.drop j) rfl rfl HKm2.out HLB.out ?hO ?hc ?hl ?hb ?_);case hO=>exact HN2.1
   case hc=>exact HB1.1 w' HN2.2.2
   case hl=>(have h8:=HKm2.out;have h9:=HLB.out;omega)
   try (case hb=>omega)
   exact zzQ52
def yGn (es:List Ent):Prop:=∀x∈es,∀y∈es,x.row=y.row
theorem Sub.sameRow {row:List Ent} (h:Sub row l) (hr:yGn row):yGn l:=fun x hx y hy=>by
 obtain⟨u,hu,k1⟩:=h.key x hx
 obtain⟨v,hv,k2⟩:=h.key y hy
 rw[(yEv.1 k1).1,(yEv.1 k2).1]
 exact hr u hu v hv
theorem yI3 {a b:Ent}:colB a b=true↔a.fam=b.fam∧a.qual=b.qual:=by unfold colB;simp only[Bool.and_eq_true,beq_iff_eq];exact⟨fun h=>⟨toList_inj h.1,toList_inj h.2⟩,fun h=>⟨by rw[h.1],by rw[h.2]⟩⟩
theorem yDj {a b:Int} (h:yAq a b= -1) (ha:a= -1∨a=0∨a=1):a= -1∨(a=0∧b= -1):=by
 unfold yAq at h;split at h
 ·rename_i q;exact .inr ⟨q,h⟩
 ·exact .inl h
variable {p:Ent}
theorem yPz {x c:Ent} (hr:x.row=p.row) (hr2:p.row=c.row) (h1:yAh x p= -1) (h2:yAh p c= -1) (hc:colB x c=true):colB p c=true:=by
 obtain⟨hf,hq⟩:=yI3.1 hc;unfold yAh at h1 h2;have z1:cB x.row p.row=0:=yEf.2 hr;have z2:cB p.row c.row=0:=yEf.2 hr2;rw[z1]at h1;rw[z2]at h2;have e1:yAq (cB x.fam p.fam) (yAq (cB x.qual p.qual) (yAq (yA8 x.kind p.kind) (yEc x.ts p.ts)))= -1:=h1;have e2:yAq (cB p.fam c.fam) (yAq (cB p.qual c.qual) (yAq (yA8 p.kind c.kind) (yEc p.ts c.ts)))= -1:=h2;rw[←hf,←hq]at e2;have nf:=yOf x.fam p.fam;have nq:=yOf x.qual p.qual;rcases yDj e1 (yCi _ _)with a1|⟨a1,a2⟩
 ·rcases yDj e2 (yCi _ _)with b1|⟨b1,b2⟩<;>omega
 ·rcases yDj e2 (yCi _ _)with b1|⟨b1,b2⟩
  ·omega
  ·rcases yDj a2 (yCi _ _)with c1|⟨c1,c2⟩
   ·rcases yDj b2 (yCi _ _)with d1|⟨d1,d2⟩<;>omega
   ·rcases yDj b2 (yCi _ _)with d1|⟨d1,d2⟩
    ·omega
    ·exact yI3.2 ⟨by rw[←hf];exact(yEf.1 a1).symm,by rw[←hq];exact(yEf.1 c1).symm⟩
theorem yS1 {pre:List Ent} {c:Ent} (h:colB p c=true):befN pre c=befN pre p:=by obtain⟨h1,h2⟩:=yI3.1 h;unfold befN colB;rw[h1,h2]
variable {es:List Ent}
theorem yVl (ho:Ord es) (hr:yGn es) {c:Ent} (hp:es[i]?=some p) (hc:es[i+1]?=some c) (hn:colB p c=false):befN (es.take (i+1)) c=0:=by
 unfold befN;rw[List.countP_eq_zero];intro x hx hcx;obtain⟨k,hk⟩:=List.getElem?_of_mem hx;rw[List.getElem?_take]at hk;split at hk
 ·rename_i hki;by_cases he:k=i
  ·subst he;rw[hp]at hk;cases hk
   rw[hn]at hcx;cases hcx
  ·have pw:=fun(a b:Nat) (u v:Ent) (hab:a<b) (hu:es[a]?=some u) (hv:es[b]?=some v)=>(show yAh u v= -1 from by
    obtain⟨h1,e1⟩:=List.getElem?_eq_some_iff.1 hu
    obtain⟨h2,e2⟩:=List.getElem?_eq_some_iff.1 hv
    have:=List.pairwise_iff_getElem.1 ho a b h1 h2 hab
    rw[e1,e2]at this
    exact this)
   have:=yPz (hr x (List.mem_of_getElem? hk) p (List.mem_of_getElem? hp)) (hr p (List.mem_of_getElem? hp) c (List.mem_of_getElem? hc)) (pw k i x p (by omega) hk hp) (pw i (i+1) p c (by omega) hp hc) hcx;rw[hn]at this;cases this
 ·cases hk
theorem yVk {c:Ent} (hc:es[i]?=some c):befN (es.take (i+1)) c=befN (es.take i) c+1:=by rw[yOi hc,if_pos];exact yI3.2 ⟨rfl,rfl⟩
structure VsJ (w:World) (b off cap:Nat) (es:List Ent) (g cp:Nat) (L:List Ent) (wr:World):Prop where
 own:OwnC wr w.heap.size g cp L
 row:CSl wr b off cap es
 low:b<w.heap.size
 below:Below w.heap.size w wr
variable {b cap:Nat}
theorem VsJ.move {off:Nat} {g:Nat} {L:List Ent} (h:VsJ w b off cap es g cp L wr) (hb:Below wr.heap.size wr w'):VsJ w b off cap es g cp L w':=
 ⟨h.own.below hb h.own.lt.2,h.row.below hb,h.low,h.below.trans (hb.mono h.below.size)⟩
theorem VsJ.push {off:Nat} {g g' cp':Nat} {L L':List Ent} {X:World} (h:VsJ w b off cap es g cp L X) (hO:OwnC w' w.heap.size g' cp' L') (hg:X.grownBy w' (some g)):VsJ w b off cap es g' cp' L' w':=by have hc:Chg (fun k=>k=g) X w':=Chg.of_grown hg (fun k q=>by cases q;rfl);have hgl:=h.own.lt;have hlo:=h.low;exact⟨hO,h.row.chg hc (by omega),hlo,h.below.grown hg h.below.size (fun j hj=>by cases hj;omega)⟩
def yM3 (es:List Ent) (i ct:Nat):Prop:=(i=0∧ct=0)∨∃p,0<i∧es[i-1]?=some p∧ct=befN (es.take i) p
theorem yLu (n:Nd) (hk:n.kind=11) (hn:1≤n.n∧n.n≤1000) {off:Nat} (h:CSl w b off cap es) (ho:Ord es) (hr:yGn es) (hl:es.length≤10000):Calls Tryz.prog 68 #[.slice (some ⟨b,off,none⟩) es.length cap,.int .i64 n.n] w fun e w'=>∃g cp,e=.returned (.slice (some ⟨g,0,none⟩) (leafM n es).length cp)∧OwnC w' w.heap.size g cp (leafM n es)∧Below w.heap.size w w':=by
 obtain⟨N,hN⟩:=qE es.length;have HL:Hid (N=es.length∧Ord es∧yGn es):=⟨hN,ho,hr⟩;have HLM:Hid (leafM n es=leafG n [] (es.take N)):=by show _=_;rw[hN,List.take_length];rfl
 have HKB:Hid (∀(pre:List Ent) (c:Ent),keepB n pre c=decide ((befN pre c:Int)<n.n)∧yBb n c=c):=fun pre c=>by unfold keepB yBb;rw[if_pos hk,if_neg (by omega)];exact⟨rfl,rfl⟩
 obtain⟨M,hM⟩:=qE n.n;rw[←hM]at HKB hn⊢;have hn1:=hn.1;have hn2:=hn.2;obtain⟨W0,hW0⟩:=qE (w.alloc (.cells #[] 55):World);have HJ0:Hid (VsJ w b off cap es w.heap.size 0 [] W0):=by
  have k1:Below w.heap.size w W0:=by rw[hW0];exact qB
  exact⟨by rw[hW0];exact yC7 w,h.below k1,h.lt,k1⟩
 rw[←hN];rw[←hN]at hl;clear h hN hk hM hn ho hr;go_enter Tryz.func68,Tryz.ntmps68;go_wp2_with fail;rw[←hW0];clear hW0;go_loopw[5,6,12] (fun o cv iv wr=>∃(i g cp m ct:Nat),i≤N∧iv=.int .i64 (i:Int)∧o=.slice (some ⟨g,0,none⟩) m cp∧cv=.int .i64 (ct:Int)∧ct≤i∧Hid (yM3 es i ct∧m=(leafG n [] (es.take i)).length∧VsJ w b off cap es g cp (leafG n [] (es.take i)) wr)) (fun _ _ iv _=>N-(intOf iv).toNat);case atStart=>exact⟨0,w.heap.size,0,0,0,Nat.zero_le _,rfl,rfl,rfl,Nat.le_refl _,.inl ⟨rfl,rfl⟩,rfl,HJ0.out⟩
 case round=>
  obtain⟨i,g,cp,m,ct,hiN,rfl,rfl,rfl,hcti,HJ⟩:=hrel;by_cases hlt:i<N
  ·have zi:(i:Int)<(N:Int):=by omega
   obtain⟨c,hc⟩:∃c,es[i]?=some c:=⟨_,List.getElem?_eq_getElem (by have:=HL.1;omega)⟩;obtain⟨bf,hbf⟩:=qE (befN (es.take i) c);have hbl:bf≤i:=by rw[hbf];refine Nat.le_trans List.countP_le_length ?_;rw[List.length_take];omega
   have HStep:Hid ((((bf:Int)<M)→leafG n [] (es.take (i+1))=leafG n [] (es.take i)++ [c])∧((¬(bf:Int)<M)→leafG n [] (es.take (i+1))=leafG n [] (es.take i))):=by
    have h1:=yJv n hc;rw[(HKB.out (es.take i) c).1,(HKB.out (es.take i) c).2,←hbf]at h1;refine⟨fun q=>?_,fun q=>?_⟩
    ·rw[h1,if_pos (decide_eq_true q)]
    ·rw[h1,if_neg (by rw[decide_eq_true_iff];exact q),List.append_nil]
   have HCt:Hid (yM3 es (i+1) (bf+1)):=.inr ⟨c,by omega,by simpa using hc,by rw[hbf];exact(yVk hc).symm⟩;have HM:Hid (m=(leafG n [] (es.take i)).length):=HJ.2.1;have hml:m≤10000:=by rw[HJ.2.1];refine Nat.le_trans (yH _ _ _) ?_;rw[List.length_take];omega
   have HBf:Hid (bf=befN (es.take i) c∧es[i]?=some c):=⟨hbf,hc⟩;obtain⟨c0,c1,c2,c3,c4⟩:=HJ.2.2.row.at_ i c hc;obtain⟨W1,hW1⟩:=qE (wr.alloc (.cells #[.string c.row,.string c.fam,.string c.qual,.int .u64 c.ts,.string c.val] 55):World);have hb1:Below wr.heap.size wr W1:=by rw[hW1];exact qB
   obtain⟨cb,hcb⟩:=qE wr.heap.size;have HB1:Hid (VsJ w b off cap es g cp (leafG n [] (es.take i)) W1∧yA W1 w.heap.size 55 5 cb c.five):=by refine⟨HJ.2.2.move hb1,?_⟩;rw[hW1,hcb];exact yAa wr #[.string c.row,.string c.fam,.string c.qual,.int .u64 c.ts,.string c.val] HJ.2.2.below.size rfl
   have HC0:Hid (yM3 es i ct):=HJ.1;go_upto_region 6 with fail;rw[←hW1,←hcb];clear hW1 hcb hb1 c0 c1 c2 c3 c4 hc hbf HJ;have hd1:Below W1.heap.size W1 W1.drew:=(Below.refl _ _).drew;have HB2:Hid (VsJ w b off cap es g cp (leafG n [] (es.take i)) W1.drew∧yA W1.drew w.heap.size 55 5 cb c.five):=⟨HB1.1.move hd1,HB1.2.below hd1⟩;by_cases hi0:i=0
   ·have HI0:Hid (i=0):=hi0;have hb0:bf=0:=by have h9:=HBf.1;rw[hi0,List.take_zero]at h9;exact h9
    subst hb0;clear hi0;have hS0:(fun _:World=>True) W1.drew:=trivial;refine yAb 99 (fun _:World=>True) (by kernel_rfl) ?_;refine j3a 0 hS0 ?_;refine qT 1 (.bool true) rfl ?yva1 hS0 ?_;case yva1=>(intro wz hSw;obtain _hz:=hSw;go_simp;(try simp[HI0.out]);(try with_reducible rfl))
    try simp only[qA,List.getElem_toArray,List.getElem_cons_zero,List.getElem_cons_succ]
    iterate 22 refine j3b hS0 ?_
    refine qD ?_;by_cases gq:(0:Int)<M
    ·have HSt:Hid (leafG n [] (es.take (i+1))=leafG n [] (es.take i)++ [c]):=HStep.1 gq;obtain⟨d0,d1,d2,d3,d4⟩:=HB2.2.c5;have HKm:Hid (m=(leafG n [] (es.take i)).length):=HM.out;have hgl:=HB2.1.own.lt;have hz2:=HB2.1.below.size;obtain⟨X,hX⟩:=qE W1.drew;rw[←hX]at HB2 d0 d1 d2 d3 d4 hgl hz2⊢;clear hX HStep;go_wp2_with (at_builtin;refine yAj _ rfl _ _ rfl w.heap.size g cp _ _ (leafG n [] (es.take i)) c rfl rfl HKm.out ?hO ?hc ?hl ?hb ?_);case hO=>exact HB2.1.own.below (qB) hgl.2
     case hc=>exact yBw X c
     case hl=>rw[←HKm.out];omega
     case hb=>(first|omega|(simp;omega))
     intro g' cp' w' hO' hgr;have HN:Hid (yM3 es (i+1) (0+1)∧m+1=(leafG n [] (es.take (i+1))).length∧VsJ w b off cap es g' cp' (leafG n [] (es.take (i+1))) w'):=by rw[HSt.out];exact⟨HCt.out,by rw[List.length_append,←HKm.out];rfl,(HB2.1.move (qB)).push hO' hgr⟩
     clear hO' hgr d0 d1 d2 d3 d4;go_wp2_with fail;go_roundw;case rel=>exact⟨i+1,g',cp',m+1,0+1,by omega,by go_num,rfl,by go_num,by omega,HN.out⟩
     case measure=>go_light;simp[intOf];omega
    ·have HN:Hid (yM3 es (i+1) (0+1)∧m=(leafG n [] (es.take (i+1))).length∧VsJ w b off cap es g cp (leafG n [] (es.take (i+1))) W1.drew):=by rw[HStep.2 gq];exact⟨HCt.out,HM.out,HB2.1⟩
     clear HStep;go_wp2_with fail;go_roundw;case rel=>exact⟨i+1,g,cp,m,0+1,by omega,by go_num,rfl,by go_num,by omega,HN.out⟩
     case measure=>go_light;simp[intOf];omega
   obtain⟨q,rfl⟩:∃q,i=q+1:=⟨i-1,by omega⟩;have zi0:(((q+1:Nat):Int)==0)=false:=by rw[beq_eq_false_iff_ne];omega
   have zim:(q:Int)<(N:Int):=by omega
   have hwr:IntKind.i64.wrap (q:Int)=(q:Int):=by rw[IntKind.wrap_i64];omega
   obtain⟨p,hp,hct⟩:∃p,es[q]?=some p∧ct=befN (es.take (q+1)) p:=by
    rcases HC0.out with⟨q,_⟩|⟨p,_,h1,h2⟩
    ·omega
    ·exact⟨p,h1,h2⟩
   obtain⟨-,p1,p2,-,-⟩:=HB2.1.row.at_ q p hp;have hS0:(fun w':World=>w'.cell? ⟨b,off+q*5+1,none⟩=some (.string p.fam)∧w'.cell? ⟨b,off+q*5+2,none⟩=some (.string p.qual)∧w'.cell? ⟨cb,1,none⟩=some (.string c.fam)∧w'.cell? ⟨cb,2,none⟩=some (.string c.qual)) W1.drew:=⟨p1,p2,HB2.2.cell (j:=1) rfl,HB2.2.cell (j:=2) rfl⟩;have HSame:Hid (colB p c=true→ct=bf):=fun q=>by rw[hct,HBf.1,yS1 q]
   have HDiff:Hid (colB p c=false→bf=0):=fun z=>by rw[HBf.1];exact yVl HL.2.1 HL.2.2 hp HBf.2 z
   clear p1 p2 hp hct hi0;cases hf:(p.fam.toList==c.fam.toList)
   ·have hb0:bf=0:=HDiff.out (by unfold colB;rw[hf];rfl);subst hb0;clear HSame HDiff HC0 HBf;refine yAb 99 (fun w':World=>w'.cell? ⟨b,off+q*5+1,none⟩=some (.string p.fam)∧w'.cell? ⟨b,off+q*5+2,none⟩=some (.string p.qual)∧w'.cell? ⟨cb,1,none⟩=some (.string c.fam)∧w'.cell? ⟨cb,2,none⟩=some (.string c.qual)) (by kernel_rfl) ?_;refine j0a 0 hS0 ?_;iterate 10 refine j0b hS0 ?_
    refine qT 11 ?vvb11 rfl ?yvb11 hS0 ?_;case yvb11=>(intro wz hSw;obtain⟨hz0,hz1,hz2,hz3⟩:=hSw;go_simp;(try simp[hf]);(try with_reducible rfl))
    try simp only[qA,List.getElem_toArray,List.getElem_cons_zero,List.getElem_cons_succ]
    iterate 12 refine j0b hS0 ?_
    refine qD ?_;by_cases gq:(0:Int)<M
    ·have HSt:Hid (leafG n [] (es.take (q+1+1))=leafG n [] (es.take (q+1))++ [c]):=HStep.1 gq;obtain⟨d0,d1,d2,d3,d4⟩:=HB2.2.c5;have HKm:Hid (m=(leafG n [] (es.take (q+1))).length):=HM.out;have hgl:=HB2.1.own.lt;have hz2:=HB2.1.below.size;obtain⟨X,hX⟩:=qE W1.drew;rw[←hX]at HB2 d0 d1 d2 d3 d4 hgl hz2⊢;clear hX HStep;go_wp2_with (at_builtin;refine yAj _ rfl _ _ rfl w.heap.size g cp _ _ (leafG n [] (es.take (q+1))) c rfl rfl HKm.out ?hO ?hc ?hl ?hb ?_);case hO=>exact HB2.1.own.below (qB) hgl.2
     case hc=>exact yBw X c
     case hl=>rw[←HKm.out];omega
     case hb=>(first|omega|(simp;omega))
     exact zzQ44
    ·exact zzQ56
   ·cases hq:(p.qual.toList==c.qual.toList)
    ·have hb0:bf=0:=HDiff.out (by unfold colB;rw[hf,hq];rfl);subst hb0;clear HSame HDiff HC0 HBf;refine yAb 99 (fun w':World=>w'.cell? ⟨b,off+q*5+1,none⟩=some (.string p.fam)∧w'.cell? ⟨b,off+q*5+2,none⟩=some (.string p.qual)∧w'.cell? ⟨cb,1,none⟩=some (.string c.fam)∧w'.cell? ⟨cb,2,none⟩=some (.string c.qual)) (by kernel_rfl) ?_;refine j0a 0 hS0 ?_;iterate 10 refine j0b hS0 ?_
     refine j18b hS0 ?_;iterate 10 refine j0b hS0 ?_
     refine j18b hS0 ?_;refine j0b hS0 ?_;refine qD ?_;by_cases gq:(0:Int)<M
     ·have HSt:Hid (leafG n [] (es.take (q+1+1))=leafG n [] (es.take (q+1))++ [c]):=HStep.1 gq;obtain⟨d0,d1,d2,d3,d4⟩:=HB2.2.c5;have HKm:Hid (m=(leafG n [] (es.take (q+1))).length):=HM.out;have hgl:=HB2.1.own.lt;have hz2:=HB2.1.below.size;obtain⟨X,hX⟩:=qE W1.drew;rw[←hX]at HB2 d0 d1 d2 d3 d4 hgl hz2⊢;clear hX HStep;go_wp2_with (at_builtin;refine yAj _ rfl _ _ rfl w.heap.size g cp _ _ (leafG n [] (es.take (q+1))) c rfl rfl HKm.out ?hO ?hc ?hl ?hb ?_);case hO=>exact HB2.1.own.below (qB) hgl.2
      case hc=>exact yBw X c
      case hl=>rw[←HKm.out];omega
      case hb=>(first|omega|(simp;omega))
      exact zzQ44
     ·exact zzQ56
    ·have hb0:ct=bf:=HSame.out (by unfold colB;rw[hf,hq];rfl);subst hb0;clear HSame HDiff HC0 HBf;refine yAb 99 (fun w':World=>w'.cell? ⟨b,off+q*5+1,none⟩=some (.string p.fam)∧w'.cell? ⟨b,off+q*5+2,none⟩=some (.string p.qual)∧w'.cell? ⟨cb,1,none⟩=some (.string c.fam)∧w'.cell? ⟨cb,2,none⟩=some (.string c.qual)) (by kernel_rfl) ?_;refine j0a 0 hS0 ?_;iterate 10 refine j0b hS0 ?_
     refine j18b hS0 ?_;iterate 10 refine j0b hS0 ?_
     refine j18b hS0 ?_;refine j0b hS0 ?_;refine qD ?_;by_cases gq:(ct:Int)<M
     ·have HSt:Hid (leafG n [] (es.take (q+1+1))=leafG n [] (es.take (q+1))++ [c]):=HStep.1 gq;obtain⟨d0,d1,d2,d3,d4⟩:=HB2.2.c5;have HKm:Hid (m=(leafG n [] (es.take (q+1))).length):=HM.out;have hgl:=HB2.1.own.lt;have hz2:=HB2.1.below.size;obtain⟨X,hX⟩:=qE W1.drew;rw[←hX]at HB2 d0 d1 d2 d3 d4 hgl hz2⊢;clear hX HStep;go_wp2_with (at_builtin;refine yAj _ rfl _ _ rfl w.heap.size g cp _ _ (leafG n [] (es.take (q+1))) c rfl rfl HKm.out ?hO ?hc ?hl ?hb ?_);case hO=>exact HB2.1.own.below (qB) hgl.2
      case hc=>exact yBw X c
      case hl=>rw[←HKm.out];omega
      case hb=>(first|omega|(simp;omega))
      intro g' cp' w' hO' hgr;have HN:Hid (yM3 es (q+1+1) (ct+1)∧m+1=(leafG n [] (es.take (q+1+1))).length∧VsJ w b off cap es g' cp' (leafG n [] (es.take (q+1+1))) w'):=by rw[HSt.out];exact⟨HCt.out,by rw[List.length_append,←HKm.out];rfl,(HB2.1.move (qB)).push hO' hgr⟩
      clear hO' hgr d0 d1 d2 d3 d4;go_wp2_with fail;go_roundw;case rel=>exact⟨q+1+1,g',cp',m+1,ct+1,by omega,by go_num,rfl,by go_num,by omega,HN.out⟩
      case measure=>go_light;simp[intOf];omega
     ·have HN:Hid (yM3 es (q+1+1) (ct+1)∧m=(leafG n [] (es.take (q+1+1))).length∧VsJ w b off cap es g cp (leafG n [] (es.take (q+1+1))) W1.drew):=by rw[HStep.2 gq];exact⟨HCt.out,HM.out,HB2.1⟩
      clear HStep;go_wp2_with fail;go_roundw;case rel=>exact⟨q+1+1,g,cp,m,ct+1,by omega,by go_num,rfl,by go_num,by omega,HN.out⟩
      case measure=>go_light;simp[intOf];omega
  ·obtain rfl:i=N:=by omega
   have zi:¬(i:Int)<(i:Int):=by omega
   go_wp2_with fail;go_ret;refine⟨g,cp,?_,?_,HJ.2.2.below⟩
   ·rw[HLM.out,←HJ.2.1];rfl
   ·rw[HLM.out];exact HJ.2.2.own
theorem yFd (k:Int) (s:ByteArray) (h:Bool) (t:ByteArray) (l u n:Int) (w:World):(Instr.build 111 #[(0,.agg #[.int .i64 k,.string s,.bool h,.string t,.int .u64 l,.int .u64 u,.int .i64 n])]).run Tryz.prog w=.ok (.agg #[.int .i64 k,.string s,.bool h,.string t,.int .u64 l,.int .u64 u,.int .i64 n,.pointer none]) w:=by kernel_rfl
def yCo (n:Nd) (mp:Option Addr):List Value:= [.int .i64 n.kind,.string n.s,.bool n.hi,.string n.t,.int .u64 n.lo,.int .u64 n.up,.int .i64 n.n,.pointer mp]
variable {base:Nat} {n:Nd}
theorem yX3 {g:Nat} {tmps:Array Value} {mp:Option Addr} (ht:tmps[2]?.getD undef=.pointer (some ⟨g,0,none⟩)) (h:yA w base 111 8 g (yCo n mp)):(results Tryz.f71 tmps).run Tryz.prog w=.ok (.agg #[.int .i64 n.kind,.string n.s,.bool n.hi,.string n.t,.int .u64 n.lo,.int .u64 n.up,.int .i64 n.n,.pointer mp]) w:=by obtain⟨p0,p1,p2,p3,p4,p5,p6,p7⟩:=h.c8;simp[results,Tryz.results71,ht,go_sem,p0,p1,p2,p3,p4,p5,p6,p7]
def set8 (w:World) (g:Nat) (n:Nd) (mp:Option Addr):World:=(((((((w.setCell ⟨g,0,none⟩ (.int .i64 n.kind)).setCell ⟨g,1,none⟩ (.string n.s)).setCell ⟨g,2,none⟩ (.bool n.hi)).setCell ⟨g,3,none⟩ (.string n.t)).setCell ⟨g,4,none⟩ (.int .u64 n.lo)).setCell ⟨g,5,none⟩ (.int .u64 n.up)).setCell ⟨g,6,none⟩ (.int .i64 n.n)).setCell ⟨g,7,none⟩ (.pointer mp)
theorem yA.set8 {t g:Nat} {vs:List Value} (h:yA w base t 8 g vs) (n:Nd) (mp:Option Addr):yA (Go.Proofs.YtkidabedcgngcaaGreatDoor.set8 w g n mp) base t 8 g (yCo n mp):=by
 have hl:=h.len;match vs,hl with
 | [a0,a1,a2,a3,a4,a5,a6,a7],_=>exact(((((((h.set 0 _).set 1 _).set 2 _).set 3 _).set 4 _).set 5 _).set 6 _).set 7 _
variable {k:Nat}
theorem yS0 {B:Nat} {a:World} (h:Below B a w) (hk:B≤k) (n:Nd) (mp:Option Addr):Below B a (set8 w k n mp):=yAc (yAc (yAc (yAc (yAc (yAc (yAc (yAc h hk 0 _) hk 1 _) hk 2 _) hk 3 _) hk 4 _) hk 5 _) hk 6 _) hk 7 _
theorem yXc (w:World) (g:Nat) (n:Nd) (mp:Option Addr):Chg (fun k=>k=g) w (set8 w g n mp):=by unfold set8;refine Chg.trans ?_ (Chg.of_set _ g 7 _ rfl);refine Chg.trans ?_ (Chg.of_set _ g 6 _ rfl);refine Chg.trans ?_ (Chg.of_set _ g 5 _ rfl);refine Chg.trans ?_ (Chg.of_set _ g 4 _ rfl);refine Chg.trans ?_ (Chg.of_set _ g 3 _ rfl);refine Chg.trans ?_ (Chg.of_set _ g 2 _ rfl);refine Chg.trans ?_ (Chg.of_set _ g 1 _ rfl);refine Chg.trans ?_ (Chg.of_set _ g 0 _ rfl);exact Chg.refl _ _
def CteP (n:Nd) (w:World) (e:Ending) (w':World):Prop:=∃mp:Option Addr,e=.returned (.agg #[.int .i64 n.kind,.string n.s,.bool n.hi,.string n.t,.int .u64 n.lo,.int .u64 n.up,.int .i64 n.n,.pointer mp])∧Hid (yCu w' w.heap.size w'.heap.size n (.pointer mp)∧Below w.heap.size w w')
theorem yHh (n:Nd) (w W2:World) (hW2:W2=((w.alloc (.cells n.seven.toArray 75)).alloc (.cells #[.int .i64 0,.string ⟨#[]⟩,.bool false,.string ⟨#[]⟩,.int .u64 0,.int .u64 0,.int .i64 0,.pointer none] 111)).alloc (.cells #[.int .i64 n.kind,.string n.s,.bool n.hi,.string n.t,.int .u64 n.lo,.int .u64 n.up,.int .i64 n.n,.pointer none] 111)):yA W2 w.heap.size 75 7 w.heap.size n.seven∧yA W2 w.heap.size 111 8 (w.heap.size+1) (#[.int .i64 0,.string ⟨#[]⟩,.bool false,.string ⟨#[]⟩,.int .u64 0,.int .u64 0,.int .i64 0,.pointer none]).toList∧yA W2 w.heap.size 111 8 (w.heap.size+1+1) (yCo n none)∧Below w.heap.size w W2:=by
 have b1:=yAa w (base:=w.heap.size) (t:=75) (sz:=7) n.seven.toArray (Nat.le_refl _) rfl;obtain⟨X1,hX1⟩:∃X,X=w.alloc (.cells n.seven.toArray 75):=⟨_,rfl⟩;have z1:X1.heap.size=w.heap.size+1:=by rw[hX1];simp
 rw[←hX1]at b1 hW2;have k1:Below w.heap.size w X1:=by rw[hX1];exact qB
 have b2:=yAa X1 (base:=w.heap.size) (t:=111) (sz:=8) #[.int .i64 0,.string ⟨#[]⟩,.bool false,.string ⟨#[]⟩,.int .u64 0,.int .u64 0,.int .i64 0,.pointer none] (by omega) rfl;obtain⟨X2,hX2⟩:∃X,X=X1.alloc (.cells #[.int .i64 0,.string ⟨#[]⟩,.bool false,.string ⟨#[]⟩,.int .u64 0,.int .u64 0,.int .i64 0,.pointer none] 111):=⟨_,rfl⟩;have z2:X2.heap.size=w.heap.size+1+1:=by rw[hX2];simp[z1]
 rw[←hX2]at b2 hW2;have k2:Below X1.heap.size X1 X2:=by rw[hX2];exact qB
 have b3:=yAa X2 (base:=w.heap.size) (t:=111) (sz:=8) #[.int .i64 n.kind,.string n.s,.bool n.hi,.string n.t,.int .u64 n.lo,.int .u64 n.up,.int .i64 n.n,.pointer none] (by omega) rfl;have k3:Below X2.heap.size X2 W2:=by rw[hW2];exact qB
 rw[←hW2,z2]at b3;rw[z1]at b2;exact⟨(b1.below k2).below k3,b2.below k3,b3,(k1.trans (k2.mono (by omega))).trans (k3.mono (by omega))⟩
theorem yOa (n:Nd) (w:World) (hT:TabD w):∀(X:World) (mp:Option Addr),yA X w.heap.size 111 8 (w.heap.size+1) (#[.int .i64 0,.string ⟨#[]⟩,.bool false,.string ⟨#[]⟩,.int .u64 0,.int .u64 0,.int .i64 0,.pointer none]).toList→Below w.heap.size w X→w.heap.size+1<X.heap.size→yCu X (w.heap.size+1+1+1) X.heap.size n (.pointer mp)→CteP n w (.returned (.agg #[.int .i64 n.kind,.string n.s,.bool n.hi,.string n.t,.int .u64 n.lo,.int .u64 n.up,.int .i64 n.n,.pointer mp])) (set8 X (w.heap.size+1) n mp)∧yA (set8 X (w.heap.size+1) n mp) w.heap.size 111 8 (w.heap.size+1) (yCo n mp):=fun X mp hB hX hz hTs=>by
 have hc:=yXc X (w.heap.size+1) n mp
 have hsz:(set8 X (w.heap.size+1) n mp).heap.size=X.heap.size:=by unfold set8;simp
 refine⟨⟨mp,rfl,?_,yS0 hX (by omega) n mp⟩,hB.set8 n mp⟩
 rw[hsz]
 have hV:=hT.lt
 have h9:=hTs.chg hc (fun k q z=>by have:=z.1;omega) (fun _ q=>by omega)
 rcases h9 with q|⟨q,M,q1,hM⟩
 ·exact .inl q
 ·exact .inr ⟨q,M,q1,hM.wide (by omega) (Nat.le_refl _) hV⟩
theorem yUu (n:Nd) (w:World) (hT:TabD w) (hs:n.s.size≤maxLen) (hP:¬PatK n.kind):Calls Tryz.prog 71 #[n.v] w (CteP n w):=by
 obtain⟨W2,hW2⟩:=qE (((w.alloc (.cells n.seven.toArray 75)).alloc (.cells #[.int .i64 0,.string ⟨#[]⟩,.bool false,.string ⟨#[]⟩,.int .u64 0,.int .u64 0,.int .i64 0,.pointer none] 111)).alloc (.cells #[.int .i64 n.kind,.string n.s,.bool n.hi,.string n.t,.int .u64 n.lo,.int .u64 n.up,.int .i64 n.n,.pointer none] 111):World);have HW2:Hid (yA W2 w.heap.size 75 7 w.heap.size n.seven∧yA W2 w.heap.size 111 8 (w.heap.size+1) (#[.int .i64 0,.string ⟨#[]⟩,.bool false,.string ⟨#[]⟩,.int .u64 0,.int .u64 0,.int .i64 0,.pointer none]).toList∧yA W2 w.heap.size 111 8 (w.heap.size+1+1) (yCo n none)∧Below w.heap.size w W2):=yHh n w W2 hW2;have HT:Hid (TabD w∧n.s.size≤maxLen):=⟨hT,hs⟩;have hbd:=yFd n.kind n.s n.hi n.t n.lo n.up n.n;have HF:Hid (∀(X:World) (mp:Option Addr),yA X w.heap.size 111 8 (w.heap.size+1) (#[.int .i64 0,.string ⟨#[]⟩,.bool false,.string ⟨#[]⟩,.int .u64 0,.int .u64 0,.int .i64 0,.pointer none]).toList→Below w.heap.size w X→w.heap.size+1<X.heap.size→yCu X (w.heap.size+1+1+1) X.heap.size n (.pointer mp)→CteP n w (.returned (.agg #[.int .i64 n.kind,.string n.s,.bool n.hi,.string n.t,.int .u64 n.lo,.int .u64 n.up,.int .i64 n.n,.pointer mp])) (set8 X (w.heap.size+1) n mp)∧yA (set8 X (w.heap.size+1) n mp) w.heap.size 111 8 (w.heap.size+1) (yCo n mp)):=yOa n w hT;clear hT hs;go_enter Tryz.func71,Tryz.ntmps71;go_upto_region 2 with fail;have hW2':=hW2;simp only[Nd.seven]at hW2';rw[←hW2'];clear hW2 hW2' hbd;obtain⟨n0,n1⟩:=HW2.1.c2;have hz2:w.heap.size+1+1<W2.heap.size:=HW2.2.2.1.lt.2;have hk:¬n.kind=4∧¬n.kind=5∧¬n.kind=6∧¬n.kind=7:=by unfold PatK at hP;omega
 have b4:(n.kind==4)=false:=by rw[beq_eq_false_iff_ne];exact hk.1
 have b5:(n.kind==5)=false:=by rw[beq_eq_false_iff_ne];exact hk.2.1
 have b6:(n.kind==6)=false:=by rw[beq_eq_false_iff_ne];exact hk.2.2.1
 have b7:(n.kind==7)=false:=by rw[beq_eq_false_iff_ne];exact hk.2.2.2
 clear hk;have HBx:Hid (yA W2 w.heap.size 111 8 (w.heap.size+1) (#[.int .i64 0,.string ⟨#[]⟩,.bool false,.string ⟨#[]⟩,.int .u64 0,.int .u64 0,.int .i64 0,.pointer none]).toList∧Below w.heap.size w W2∧w.heap.size+1<W2.heap.size∧yCu W2 (w.heap.size+1+1+1) W2.heap.size n (.pointer none)):=⟨HW2.2.1,HW2.2.2.2,by omega,.inl ⟨hP,rfl⟩⟩;have HE:=HF.out W2 none HBx.1 HBx.2.1 HBx.2.2.1 HBx.2.2.2;have HE2:Hid (CteP n w (.returned (.agg #[.int .i64 n.kind,.string n.s,.bool n.hi,.string n.t,.int .u64 n.lo,.int .u64 n.up,.int .i64 n.n,.pointer none])) (set8 W2 (w.heap.size+1) n none)∧yA (set8 W2 (w.heap.size+1) n none) w.heap.size 111 8 (w.heap.size+1) (yCo n none)):=HE;clear HE;obtain⟨W9,hW9⟩:=qE (set8 W2 (w.heap.size+1) n none);rw[←hW9]at HE2;simp only[set8]at hW9;obtain⟨m0,m1,m2,m3,m4,m5,m6,m7⟩:=HW2.2.2.1.c8;obtain⟨r0,r1,r2,r3,r4,r5,r6,r7⟩:=HW2.2.1.c8;obtain⟨f0,f1,f2,f3,f4,f5,f6,f7⟩:=HW2.2.1.f8;go_wp2_with fail;rw[←hW9];exact bodyPost_ret (yX3 (base:=w.heap.size) (g:=w.heap.size+1) rfl HE2.2) rfl HE2.1
abbrev ptrC (p:Nat):Value:=.pointer (some ⟨p,0,none⟩)
inductive yE8 (w:World) (n:Nd) (R:Nat→Prop):Value→Prop
 |strip (h:n.kind=3):yE8 w n R (.func (Fn.func 66) #[] #[])
 |vers (h:n.kind=11) (h1:1≤n.n∧n.n≤1000) (p:Nat) (hp:R p) (hb:yA w 0 75 7 p n.seven):yE8 w n R (.func (Fn.func 67) #[] #[ptrC p])
 |cells (h:n.kind=12) (h1:1≤n.n∧n.n≤1000) (p:Nat) (hp:R p) (hb:yA w 0 75 7 p n.seven):yE8 w n R (.func (Fn.func 69) #[] #[ptrC p])
 |skip (h:n.kind=13) (h1:1≤n.n∧n.n≤1000) (p:Nat) (hp:R p) (hb:yA w 0 75 7 p n.seven):yE8 w n R (.func (Fn.func 70) #[] #[ptrC p])
 |test (h:yS5 n) (p l m:Nat) (mp:Option Addr) (hp:R p∧¬InB l m p) (hl:l≤m∧m≤p) (hi:∀k,InB l m k→R k) (hb:yA w 0 111 8 p (yCo n mp)) (ht:yCu w l m n (.pointer mp)):yE8 w n R (.func (Fn.func 72) #[] #[ptrC p])
structure Twp (R A B:Nat→Prop):Prop where
 a:∀k,A k→R k
 b:∀k,B k→R k
 d:∀k,A k→¬B k
structure Osd (R A:Nat→Prop) (p:Nat):Prop where
 inn:R p
 out:¬A p
def yA3 (w:World):CT→(Nat→Prop)→Value→Prop
 | .leaf n,R,fv=>yE8 w n R fv
 | .chain _ a b,R,fv=>∃(A B:Nat→Prop) (pa pb:Nat) (ka:Nat) (ca:Array Value) (kb:Nat) (cb:Array Value),Twp R A B∧Osd R A pa∧Osd R B pa∧Osd R A pb∧Osd R B pb∧fv=.func (Fn.func 62) #[] #[ptrC pb,ptrC pa]∧yA w 0 58 1 pa [.func (Fn.func ka) #[] ca]∧yA w 0 58 1 pb [.func (Fn.func kb) #[] cb]∧yA3 w a A (.func (Fn.func ka) #[] ca)∧yA3 w b B (.func (Fn.func kb) #[] cb)
 | .inter _ a b,R,fv=>∃(A B:Nat→Prop) (pa pb:Nat) (ka:Nat) (ca:Array Value) (kb:Nat) (cb:Array Value),Twp R A B∧Osd R A pa∧Osd R B pa∧Osd R A pb∧Osd R B pb∧fv=.func (Fn.func 63) #[] #[ptrC pa,ptrC pb]∧yA w 0 58 1 pa [.func (Fn.func ka) #[] ca]∧yA w 0 58 1 pb [.func (Fn.func kb) #[] cb]∧yA3 w a A (.func (Fn.func ka) #[] ca)∧yA3 w b B (.func (Fn.func kb) #[] cb)
 | .cond _ p a b,R,fv=>∃(P A B:Nat→Prop) (pp pa pb:Nat) (kp:Nat) (cp:Array Value) (ka:Nat) (ca:Array Value) (kb:Nat) (cb:Array Value),(Twp R P A∧Twp R P B∧Twp R A B)∧(Osd R P pp∧Osd R A pp∧Osd R B pp)∧(Osd R P pa∧Osd R A pa∧Osd R B pa)∧(Osd R P pb∧Osd R A pb∧Osd R B pb)∧fv=.func (Fn.func 102) #[] #[ptrC pp,ptrC pa,ptrC pb]∧yA w 0 58 1 pp [.func (Fn.func kp) #[] cp]∧yA w 0 58 1 pa [.func (Fn.func ka) #[] ca]∧yA w 0 58 1 pb [.func (Fn.func kb) #[] cb]∧yA3 w p P (.func (Fn.func kp) #[] cp)∧yA3 w a A (.func (Fn.func ka) #[] ca)∧yA3 w b B (.func (Fn.func kb) #[] cb)
variable {R:Nat→Prop} {fv:Value}
theorem yE8.chg {S:Nat→Prop} (h:yE8 w n R fv) (hc:Chg S w w') (hS:∀k,S k→¬R k) (ht:¬S 1):yE8 w' n R fv:=by
 cases h with
 |strip h=>exact .strip h
 |vers h h1 p hp hb=>exact .vers h h1 p hp (hb.chg hc (fun q=>hS _ q hp))
 |cells h h1 p hp hb=>exact .cells h h1 p hp (hb.chg hc (fun q=>hS _ q hp))
 |skip h h1 p hp hb=>exact .skip h h1 p hp (hb.chg hc (fun q=>hS _ q hp))
 |test h p l m mp hp hl hi hb hT=>exact .test h p l m mp hp hl hi (hb.chg hc (fun q=>hS _ q hp.1)) (hT.chg hc (fun k q z=>hS k q (hi k z)) (fun _=>ht))
theorem yA3.chg {S:Nat→Prop} (hc:Chg S w w') (ht:¬S 1):∀{t:CT} {R:Nat→Prop} {fv:Value},yA3 w t R fv→(∀k,S k→¬R k)→yA3 w' t R fv
 | .leaf _,_,_,h,hS=>yE8.chg h hc hS ht
 | .chain _ _ _,_,_,⟨A,B,pa,pb,ka,ca,kb,cb,h1,h2,h2',h3,h3',h5,h6,h7,h8,h9⟩,hS=>⟨A,B,pa,pb,ka,ca,kb,cb,h1,h2,h2',h3,h3',h5,h6.chg hc (fun q=>hS _ q h2.inn),h7.chg hc (fun q=>hS _ q h3.inn),h8.chg hc ht (fun k q z=>hS k q (h1.a k z)),h9.chg hc ht (fun k q z=>hS k q (h1.b k z))⟩
 | .inter _ _ _,_,_,⟨A,B,pa,pb,ka,ca,kb,cb,h1,h2,h2',h3,h3',h5,h6,h7,h8,h9⟩,hS=>⟨A,B,pa,pb,ka,ca,kb,cb,h1,h2,h2',h3,h3',h5,h6.chg hc (fun q=>hS _ q h2.inn),h7.chg hc (fun q=>hS _ q h3.inn),h8.chg hc ht (fun k q z=>hS k q (h1.a k z)),h9.chg hc ht (fun k q z=>hS k q (h1.b k z))⟩
 | .cond _ _ _ _,_,_,⟨P,A,B,pp,pa,pb,kp,cp,ka,ca,kb,cb,h1,h4,h5,h6,h7,h8,h9,g1,g2,g3,g4⟩,hS=>⟨P,A,B,pp,pa,pb,kp,cp,ka,ca,kb,cb,h1,h4,h5,h6,h7,h8.chg hc (fun q=>hS _ q h4.1.inn),h9.chg hc (fun q=>hS _ q h5.1.inn),g1.chg hc (fun q=>hS _ q h6.1.inn),g2.chg hc ht (fun k q z=>hS k q (h1.1.a k z)),g3.chg hc ht (fun k q z=>hS k q (h1.1.b k z)),g4.chg hc ht (fun k q z=>hS k q (h1.2.1.b k z))⟩
variable {t:CT}
theorem yA3.below (h:yA3 w t R fv) (hb:Below w.heap.size w w'):yA3 w' t R fv:=h.chg (S:=fun _=>False) (Chg.of_below hb) (fun q=>q) (fun k q=>q.elim)
def StpP (t:CT) (R:Nat→Prop) (fv:Value) (rb:Nat) (es:List Ent) (w:World) (e:Ending) (w':World):Prop:=∃b o c,e=.returned (.slice (some ⟨b,o,none⟩) (mean t es).length c)∧Hid (CSl w' b o c (mean t es)∧(b=rb∨w.heap.size≤b)∧yA3 w' t R fv∧Chg R w w')
structure yF9 (w:World) (R:Nat→Prop) (rb ro rc:Nat) (es:List Ent):Prop where
 sl:CSl w rb ro rc es
 off:¬R rb
 sub:Sub es es
 same:yGn es
 len:es.length≤10000
def StC (t:CT):Prop:=∀(w:World) (R:Nat→Prop) (k:Nat) (caps:Array Value) (rb ro rc:Nat) (es:List Ent),yA3 w t R (.func (Fn.func k) #[] caps)→(∀k,R k→k<w.heap.size)→¬R 1→yF9 w R rb ro rc es→
 Calls Tryz.prog k (#[.slice (some ⟨rb,ro,none⟩) es.length rc]++caps) w (StpP t R (.func (Fn.func k) #[] caps) rb es w)
variable {rb:Nat}
theorem yOy {g:Nat} (hO:OwnC w' w.heap.size g cp (mean t es)) (hS:yA3 w' t R fv) (hc:Chg R w w'):StpP t R fv rb es w (.returned (.slice (some ⟨g,0,none⟩) (mean t es).length cp)) w':=⟨g,0,cp,rfl,hO.sl,.inr hO.lt.1,hS,hc⟩
theorem yLg (n:Nd) (h:n.kind=12):∀(es pre:List Ent),leafG n pre es=es.take (n.n.toNat-pre.length)
 | [],_=>by simp[leafG]
 |c::es,pre=>by
  have hs:yBb n c=c:=by unfold yBb;rw[if_neg (by omega)]
  have hk:keepB n pre c=decide ((pre.length:Int)<n.n):=by unfold keepB;rw[if_neg (by omega),if_pos h]
  have ih:=yLg n h es (pre++ [c])
  rw[List.length_append,List.length_singleton]at ih
  unfold leafG
  rw[hs,ih]
  by_cases q:(pre.length:Int)<n.n
  ·rw[hk,if_pos (decide_eq_true q),show n.n.toNat-pre.length=(n.n.toNat-(pre.length+1))+1 by omega,List.take_succ_cons]
  ·rw[hk,if_neg (by rw[decide_eq_true_iff];exact q),show n.n.toNat-pre.length=0 by omega,show n.n.toNat-(pre.length+1)=0 by omega]
   simp
theorem yLi (n:Nd) (h:n.kind=13):∀(es pre:List Ent),leafG n pre es=es.drop (n.n.toNat-pre.length)
 | [],_=>by simp[leafG]
 |c::es,pre=>by
  have hs:yBb n c=c:=by unfold yBb;rw[if_neg (by omega)]
  have hk:keepB n pre c=decide (n.n≤(pre.length:Int)):=by unfold keepB;rw[if_neg (by omega),if_neg (by omega),if_pos h]
  have ih:=yLi n h es (pre++ [c])
  rw[List.length_append,List.length_singleton]at ih
  unfold leafG
  rw[hs,ih]
  by_cases q:n.n≤(pre.length:Int)
  ·rw[hk,if_pos (decide_eq_true q),show n.n.toNat-pre.length=0 by omega,show n.n.toNat-(pre.length+1)=0 by omega]
   simp
  ·rw[hk,if_neg (by rw[decide_eq_true_iff];exact q),show n.n.toNat-pre.length=(n.n.toNat-(pre.length+1))+1 by omega,List.drop_succ_cons]
theorem yTm (n:Nd):StC (.leaf n):=by
 intro w R k caps rb ro rc es hS hh hV hR;have hL:yE8 w n R (.func (Fn.func k) #[] caps):=hS;have hSt:Hid (yA3 w (.leaf n) R (.func (Fn.func k) #[] caps)):=hS;clear hS;have HR:Hid (yF9 w R rb ro rc es∧(∀k,R k→k<w.heap.size)):=⟨hR,hh⟩;have hel:=hR.len;have hrc:=hR.sl.len;have hcm:rc≤9223372036854775807:=by have:=hR.sl.cap;unfold maxLen at this;omega
 obtain⟨fv,hfv⟩:=qE ((.func (Fn.func k) #[] caps:Value));rw[←hfv]at hL;cases hL with
 |strip h=>
  cases hfv
  refine(yRy n h hR.sl hel).mono ?_;rintro e w' ⟨g,cp,rfl,hO,hb⟩;exact yOy (t:=.leaf n) hO (hSt.out.below hb) (Chg.of_below hb)
 |vers h h1 p hp hb=>
  cases hfv
  have HC:Hid (Calls Tryz.prog 68 #[.slice (some ⟨rb,ro,none⟩) es.length rc,.int .i64 n.n] w fun e w'=>∃g cp,e=.returned (.slice (some ⟨g,0,none⟩) (leafM n es).length cp)∧OwnC w' w.heap.size g cp (leafM n es)∧Below w.heap.size w w'):=yLu n h h1 hR.sl hR.sub.ord hR.same hel;have c6:=hb.cell (j:=6) rfl;obtain⟨N,hN⟩:=qE es.length;rw[←hN]at HC⊢;clear hR hb h hN;show Calls Tryz.prog 67 #[.slice (some ⟨rb,ro,none⟩) N rc,ptrC p] w _;go_enter Tryz.func67,Tryz.ntmps67;go_wp2_with fail;refine HC.mono ?_;rintro e w' ⟨g,cp,rfl,hO,hb⟩;have HE:Hid (StpP (.leaf n) R (.func (Fn.func 67) #[] #[ptrC p]) rb es w (.returned (.slice (some ⟨g,0,none⟩) (leafM n es).length cp)) w'):=yOy (t:=.leaf n) hO (hSt.out.below hb) (Chg.of_below hb);clear hO hb;go_wp2_with fail;go_ret;exact HE.out
 |cells h h1 p hp hb=>
  cases hfv
  have c6:=hb.cell (j:=6) rfl;obtain⟨q,hq⟩:∃q:Nat,n.n=(q:Int):=⟨n.n.toNat,by omega⟩;have HM:Hid (mean (.leaf n) es=es.take (min es.length q)):=by show leafG n [] es=_;rw[yLg n h,hq,List.length_nil,Nat.sub_zero,Int.toNat_natCast,List.take_eq_take_min,Nat.min_comm]
  have HE:Hid (StpP (.leaf n) R (.func (Fn.func 69) #[] #[ptrC p]) rb es w (.returned (.slice (some ⟨rb,ro,none⟩) (min es.length q) rc)) w):=by refine⟨rb,ro,rc,by rw[HM.out,List.length_take];congr 2;omega,?_,.inl rfl,hSt.out,Chg.refl _ _⟩;rw[HM.out];exact hR.sl.take (by omega)
  have hq2:q≤1000:=by omega
  obtain⟨N,hN⟩:=qE es.length;rw[←hN]at hel hrc HE⊢;rw[hq]at c6;clear hR hb h hN hq h1;show Calls Tryz.prog 69 #[.slice (some ⟨rb,ro,none⟩) N rc,ptrC p] w _;obtain⟨mq,hmq⟩:=qE (min N q);have hmin:min (N:Int) (q:Int)=(mq:Int):=by omega
  have hmN:mq≤N:=by omega
  rw[←hmq]at HE;clear hmq;go_enter Tryz.func69,Tryz.ntmps69;go_wp2_with fail;go_ret;exact HE.out
 |skip h h1 p hp hb=>
  cases hfv
  have c6:=hb.cell (j:=6) rfl;obtain⟨q,hq⟩:∃q:Nat,n.n=(q:Int):=⟨n.n.toNat,by omega⟩;have HM:Hid (mean (.leaf n) es=es.drop (min es.length q)):=by
   show leafG n [] es=_;rw[yLi n h,hq,List.length_nil,Nat.sub_zero,Int.toNat_natCast];by_cases hle:es.length≤q
   ·rw[Nat.min_eq_left hle,List.drop_of_length_le hle,List.drop_of_length_le (Nat.le_refl _)]
   ·rw[Nat.min_eq_right (by omega)]
  have hq2:q≤1000:=by omega
  have HE:Hid (∀o',(min es.length q<es.length→o'=ro+min es.length q*5)→StpP (.leaf n) R (.func (Fn.func 70) #[] #[ptrC p]) rb es w (.returned (.slice (some ⟨rb,o',none⟩) (es.length-min es.length q) (rc-min es.length q))) w):=fun o' ho=>by have hs:=hR.sl.drop (k:=min es.length q) (by omega);refine⟨rb,o',rc-min es.length q,by rw[HM.out,List.length_drop],?_,.inl rfl,hSt.out,Chg.refl _ _⟩;rw[HM.out];exact⟨yFq hs.at_ ho,hs.lt,hs.len,hs.cap⟩
  obtain⟨N,hN⟩:=qE es.length;rw[←hN]at hel hrc HE⊢;rw[hq]at c6;clear hR hb h hN hq h1;show Calls Tryz.prog 70 #[.slice (some ⟨rb,ro,none⟩) N rc,ptrC p] w _;obtain⟨mq,hmq⟩:=qE (min N q);have hmin:min (N:Int) (q:Int)=(mq:Int):=by omega
  have hmN:mq≤N:=by omega
  rw[←hmq]at HE;clear hmq;by_cases hrm:mq=rc
  ·have HE1:Hid (StpP (.leaf n) R (.func (Fn.func 70) #[] #[ptrC p]) rb es w (.returned (.slice (some ⟨rb,ro,none⟩) (N-mq) (rc-mq))) w):=HE.out ro (fun z=>by omega);have hrm2:rc-mq=0:=by omega
   have hrm3:N-mq=0:=by omega
   rw[hrm2,hrm3]at HE1;subst hrm;go_enter Tryz.func70,Tryz.ntmps70;go_wp2_with fail;go_ret;exact HE1.out
  ·have HE1:Hid (StpP (.leaf n) R (.func (Fn.func 70) #[] #[ptrC p]) rb es w (.returned (.slice (some ⟨rb,ro+mq*5,none⟩) (N-mq) (rc-mq))) w):=HE.out _ (fun _=>rfl);have hrm2:¬rc=mq:=fun z=>hrm z.symm;go_enter Tryz.func70,Tryz.ntmps70;go_wp2_with fail;go_ret;exact HE1.out
 |test h p l m mp hp hl hi hb hT=>
  cases hfv
  have HK:Hid (Calls Tryz.prog 73 #[.slice (some ⟨rb,ro,none⟩) es.length rc,.func (Fn.func 74) #[.agg #[.int .i64 n.kind,.string n.s,.bool n.hi,.string n.t,.int .u64 n.lo,.int .u64 n.up,.int .i64 n.n,.pointer mp]] #[]] w (KeP w l m n (.pointer mp) es)):=yU2 n h mp hR.sl hel l m hT (by have h9:=hh p hp.1;omega) hl.1 (fun z=>hR.off (hi _ z));have HT:Hid (yS5 n∧R p∧¬InB l m p∧(l≤m∧m≤p)∧(∀k,InB l m k→R k)∧yA w 0 111 8 p (yCo n mp)):=⟨h,hp.1,hp.2,hl,hi,hb⟩;obtain⟨c0,c1,c2,c3,c4,c5,c6,c7⟩:=hb.c8;obtain⟨N,hN⟩:=qE es.length;rw[←hN]at HK⊢;clear hR hb h hN hT hel hrc hh hV hi hp;show Calls Tryz.prog 72 #[.slice (some ⟨rb,ro,none⟩) N rc,ptrC p] w _;go_enter Tryz.func72,Tryz.ntmps72;go_wp2_with fail;refine HK.mono ?_;rintro e w' ⟨g,cp,rfl,H⟩;have HE:Hid (StpP (.leaf n) R (.func (Fn.func 72) #[] #[ptrC p]) rb es w (.returned (.slice (some ⟨g,0,none⟩) (leafM n es).length cp)) w'):=by have hc:=H.chg;have ht:=HT.out;exact yOy (t:=.leaf n) H.own (.test ht.1 p l m mp ⟨ht.2.1,ht.2.2.1⟩ ht.2.2.2.1 ht.2.2.2.2.1 (ht.2.2.2.2.2.chg hc ht.2.2.1) H.tst) (hc.mono ht.2.2.2.2.1)
  go_wp2_with fail;go_ret;exact HE.out
def yGf (k:Nat):Prop:=∀(args:Array Value) (w:World),(callFunc k args).run Tryz.prog w=.ok (.enter k args) w
theorem xAa:yGf 66:=fun args w=>by kernel_rfl
theorem xA:yGf 62:=fun args w=>by kernel_rfl
theorem yZ9:yGf 63:=fun args w=>by kernel_rfl
theorem yZ8:yGf 67:=fun args w=>by kernel_rfl
theorem yZ7:yGf 69:=fun args w=>by kernel_rfl
theorem yZ6:yGf 70:=fun args w=>by kernel_rfl
theorem yZ5:yGf 72:=fun args w=>by kernel_rfl
theorem yZ4:yGf 102:=fun args w=>by kernel_rfl
theorem yA3.callOk {caps:Array Value} (h:yA3 w t R (.func (Fn.func k) #[] caps)):yGf k:=by
 cases t with
 |leaf n=>
  have h':yE8 w n R (.func (Fn.func k) #[] caps):=h;clear h;cases h' with
  |strip h=>exact xAa
  |vers h h1 p hp hb=>exact yZ8
  |cells h h1 p hp hb=>exact yZ7
  |skip h h1 p hp hb=>exact yZ6
  |test h p l m mp hp hl hi hb hT=>exact yZ5
 |chain n a b=>
  obtain⟨A,B,pa,pb,ka,ca,kb,cb,h1,h2,h2',h3,h3',h5,_⟩:=h;cases h5
  exact xA
 |inter n a b=>
  obtain⟨A,B,pa,pb,ka,ca,kb,cb,h1,h2,h2',h3,h3',h5,_⟩:=h;cases h5
  exact yZ9
 |cond n p a b=>
  obtain⟨P,A,B,pp,pa,pb,kp,cp,ka,ca,kb,cb,h1,h4,h5,h6,h7,_⟩:=h;cases h7
  exact yZ4
variable {ro rc:Nat}
theorem yJh {A:Nat→Prop} (h:yF9 w R rb ro rc es) (hc:Chg A w w') (hA:∀k,A k→R k):yF9 w' R rb ro rc es:=⟨h.sl.chg hc (fun z=>h.off (hA _ z)),h.off,h.sub,h.same,h.len⟩
theorem yDn {A:Nat→Prop} (h:yF9 w R rb ro rc es) (hA:∀k,A k→R k):yF9 w A rb ro rc es:=⟨h.sl,fun z=>h.off (hA _ z),h.sub,h.same,h.len⟩
theorem yL (t:CT) (h:yF9 w R rb ro rc es) {c:Nat} (hs:CSl w' b o c (mean t es)) (hb:b=rb∨w.heap.size≤b) (hh:∀k,R k→k<w.heap.size):yF9 w' R b o c (mean t es):=by
 have hm:=yA1 t h.sub;refine⟨hs,fun z=>?_,hm.self,hm.sameRow h.same,Nat.le_trans (hm.len h.sub.ord) h.len⟩;rcases hb with rfl|hb
 ·exact h.off z
 ·have:=hh _ z;omega
variable {a b:CT}
theorem yR0 (n:Nd) (Ha:StC a) (Hb:StC b):StC (.chain n a b):=by
 intro w R k caps rb ro rc es hS hh hV hR;obtain⟨A,B,pa,pb,ka,ca,kb,cb,h1,h2,h2',h3,h3',h5,h6,h7,h8,h9⟩:=hS;cases h5
 have HS:Hid (Twp R A B∧(Osd R A pa∧Osd R B pa)∧(Osd R A pb∧Osd R B pb)∧yA w 0 58 1 pa [.func (Fn.func ka) #[] ca]∧yA w 0 58 1 pb [.func (Fn.func kb) #[] cb]∧yA3 w b B (.func (Fn.func kb) #[] cb)):=⟨h1,⟨h2,h2'⟩,⟨h3,h3'⟩,h6,h7,h9⟩;have HR:Hid (yF9 w R rb ro rc es∧(∀k,R k→k<w.heap.size)∧¬R 1):=⟨hR,hh,hV⟩;have hd:Below w.heap.size w w.drew:=(Below.refl _ _).drew;have HA:Hid (Calls Tryz.prog ka (#[.slice (some ⟨rb,ro,none⟩) es.length rc]++ca) w.drew (StpP a A (.func (Fn.func ka) #[] ca) rb es w.drew)):=Ha w.drew A ka ca rb ro rc es (h8.below hd) (fun k z=>hh k (h1.a k z)) (fun z=>hV (h1.a _ z)) (yDn ⟨hR.sl.below hd,hR.off,hR.sub,hR.same,hR.len⟩ h1.a);have hS0:(fun w':World=>w'.cell? ⟨pa,0,none⟩=some (.func (Fn.func ka) #[] ca)∧w'.cell? ⟨pb,0,none⟩=some (.func (Fn.func kb) #[] cb)) w.drew:=⟨h6.cell (j:=0) rfl,h7.cell (j:=0) rfl⟩;have hka:∀(args:Array Value) (w:World),(callFunc ka args).run Tryz.prog w=.ok (.enter ka args) w:=h8.callOk;have hkb:∀(args:Array Value) (w:World),(callFunc kb args).run Tryz.prog w=.ok (.enter kb args) w:=h9.callOk;obtain⟨N,hN⟩:=qE es.length;have HNl:Hid (N=es.length):=hN;rw[←hN]at HA⊢;clear h1 h2 h2' h3 h3' h6 h7 h8 h9 hR hh hV hN;show Calls Tryz.prog 62 #[.slice (some ⟨rb,ro,none⟩) N rc,ptrC pb,ptrC pa] w _;go_enter Tryz.func62,Tryz.ntmps62;go_upto_region 1 with fail;refine yAb 99 (fun w':World=>w'.cell? ⟨pa,0,none⟩=some (.func (Fn.func ka) #[] ca)∧w'.cell? ⟨pb,0,none⟩=some (.func (Fn.func kb) #[] cb)) (by kernel_rfl) ?_;refine j2a 0 hS0 ?_;iterate 2 refine j2b hS0 ?_
 refine qO 3 rfl fun K hK=>?_;go_simp;refine HA.mono ?_;rintro e w1 ⟨b1,o1,c1,rfl,H1⟩;have hc1:Chg A w w1:=(Chg.of_below hd).trans H1.2.2.2;have hx1:Hid (yA w1 0 58 1 pa [.func (Fn.func ka) #[] ca]∧yA w1 0 58 1 pb [.func (Fn.func kb) #[] cb]∧yA3 w1 b B (.func (Fn.func kb) #[] cb)∧yF9 w1 R rb ro rc es∧yF9 w1 R b1 o1 c1 (mean a es)∧(∀k,R k→k<w1.heap.size)∧Chg A w w1):=by have h8:=HS.out;have hr:=HR.out;exact⟨h8.2.2.2.1.chg hc1 h8.2.1.1.out,h8.2.2.2.2.1.chg hc1 h8.2.2.1.1.out,h8.2.2.2.2.2.chg hc1 (fun z=>hr.2.2 (h8.1.a _ z)) h8.1.d,yJh hr.1 hc1 h8.1.a,yL a hr.1 H1.1 H1.2.1 hr.2.1,fun k z=>Nat.lt_of_lt_of_le (hr.2.1 k z) hc1.size,hc1⟩
 have hS1:(fun w':World=>w'.cell? ⟨pa,0,none⟩=some (.func (Fn.func ka) #[] ca)∧w'.cell? ⟨pb,0,none⟩=some (.func (Fn.func kb) #[] cb)) w1:=⟨hx1.out.1.cell (j:=0) rfl,hx1.out.2.1.cell (j:=0) rfl⟩;have HB:Hid (Calls Tryz.prog kb (#[.slice (some ⟨b1,o1,none⟩) (mean a es).length c1]++cb) w1 (StpP b B (.func (Fn.func kb) #[] cb) b1 (mean a es) w1)):=Hb w1 B kb cb b1 o1 c1 (mean a es) hx1.out.2.2.1 (fun k z=>hx1.out.2.2.2.2.2.1 k (HS.1.b k z)) (fun z=>HR.2.2 (HS.1.b _ z)) (yDn hx1.out.2.2.2.2.1 HS.1.b);clear hc1;refine hK.out _ _ (.inr hS1) ?_;clear hK;refine jS ?_;refine qO 4 rfl fun K hK=>?_;go_simp;refine HB.mono ?_;rintro e w2 ⟨b2,o2,c2,rfl,H2⟩;have hc2:=H2.2.2.2;have hS2:(fun w':World=>w'.cell? ⟨pa,0,none⟩=some (.func (Fn.func ka) #[] ca)∧w'.cell? ⟨pb,0,none⟩=some (.func (Fn.func kb) #[] cb)) w2:=⟨(hx1.out.1.chg hc2 HS.2.1.2.out).cell (j:=0) rfl,(hx1.out.2.1.chg hc2 HS.2.2.1.2.out).cell (j:=0) rfl⟩;have HE:Hid (StpP (.chain n a b) R (.func (Fn.func 62) #[] #[ptrC pb,ptrC pa]) rb es w (.returned (.slice (some ⟨b2,o2,none⟩) (mean b (mean a es)).length c2)) w2):=by
  have h8:=HS.out;have hr:=HR.out;have hc1:=hx1.out.2.2.2.2.2.2;refine⟨b2,o2,c2,rfl,H2.1,?_,⟨A,B,pa,pb,ka,ca,kb,cb,h8.1,h8.2.1.1,h8.2.1.2,h8.2.2.1.1,h8.2.2.1.2,rfl,hx1.out.1.chg hc2 h8.2.1.2.out,hx1.out.2.1.chg hc2 h8.2.2.1.2.out,?_,H2.2.2.1⟩,?_⟩
  ·rcases H2.2.1 with z|z
   ·rw[z];exact H1.2.1
   ·exact .inr (Nat.le_trans hc1.size z)
  ·exact H1.2.2.1.chg hc2 (fun z=>hr.2.2 (h8.1.b _ z)) (fun k z y=>h8.1.d k y z)
  ·exact(hc1.mono h8.1.a).trans (hc2.mono h8.1.b)
 clear hc2;refine hK.out _ _ (.inr hS2) ?_;clear hK;refine jS ?_;refine j2a 5 hS2 ?_;refine qD ?_;go_wp2_with fail;go_ret;exact HE.out
theorem yRz (n:Nd) (Ha:StC a) (Hb:StC b):StC (.inter n a b):=by
 intro w R k caps rb ro rc es hS hh hV hR;obtain⟨A,B,pa,pb,ka,ca,kb,cb,h1,h2,h2',h3,h3',h5,h6,h7,h8,h9⟩:=hS;cases h5
 have HS:Hid (Twp R A B∧(Osd R A pa∧Osd R B pa)∧(Osd R A pb∧Osd R B pb)∧yA w 0 58 1 pa [.func (Fn.func ka) #[] ca]∧yA w 0 58 1 pb [.func (Fn.func kb) #[] cb]∧yA3 w b B (.func (Fn.func kb) #[] cb)):=⟨h1,⟨h2,h2'⟩,⟨h3,h3'⟩,h6,h7,h9⟩;have HR:Hid (yF9 w R rb ro rc es∧(∀k,R k→k<w.heap.size)∧¬R 1):=⟨hR,hh,hV⟩;have hd:Below w.heap.size w w.drew:=(Below.refl _ _).drew;have HA:Hid (Calls Tryz.prog ka (#[.slice (some ⟨rb,ro,none⟩) es.length rc]++ca) w.drew (StpP a A (.func (Fn.func ka) #[] ca) rb es w.drew)):=Ha w.drew A ka ca rb ro rc es (h8.below hd) (fun k z=>hh k (h1.a k z)) (fun z=>hV (h1.a _ z)) (yDn ⟨hR.sl.below hd,hR.off,hR.sub,hR.same,hR.len⟩ h1.a);have hS0:(fun w':World=>w'.cell? ⟨pa,0,none⟩=some (.func (Fn.func ka) #[] ca)∧w'.cell? ⟨pb,0,none⟩=some (.func (Fn.func kb) #[] cb)) w.drew:=⟨h6.cell (j:=0) rfl,h7.cell (j:=0) rfl⟩;have hka:∀(args:Array Value) (w:World),(callFunc ka args).run Tryz.prog w=.ok (.enter ka args) w:=h8.callOk;have hkb:∀(args:Array Value) (w:World),(callFunc kb args).run Tryz.prog w=.ok (.enter kb args) w:=h9.callOk;obtain⟨N,hN⟩:=qE es.length;have HNl:Hid (N=es.length):=hN;rw[←hN]at HA⊢;clear h1 h2 h2' h3 h3' h6 h7 h8 h9 hR hh hV hN;show Calls Tryz.prog 63 #[.slice (some ⟨rb,ro,none⟩) N rc,ptrC pa,ptrC pb] w _;go_enter Tryz.func63,Tryz.ntmps63;go_upto_region 1 with fail;refine yAb 99 (fun w':World=>w'.cell? ⟨pa,0,none⟩=some (.func (Fn.func ka) #[] ca)∧w'.cell? ⟨pb,0,none⟩=some (.func (Fn.func kb) #[] cb)) (by kernel_rfl) ?_;refine j2a 0 hS0 ?_;refine j2b hS0 ?_;refine j2a 3 hS0 ?_;refine j2b hS0 ?_;refine qO 2 rfl fun K hK=>?_;go_simp;refine HA.mono ?_;rintro e w1 ⟨b1,o1,c1,rfl,H1⟩;have hc1:Chg A w w1:=(Chg.of_below hd).trans H1.2.2.2;have hx1:Hid (yA w1 0 58 1 pa [.func (Fn.func ka) #[] ca]∧yA w1 0 58 1 pb [.func (Fn.func kb) #[] cb]∧yA3 w1 b B (.func (Fn.func kb) #[] cb)∧yF9 w1 R rb ro rc es∧yF9 w1 R b1 o1 c1 (mean a es)∧(∀k,R k→k<w1.heap.size)∧Chg A w w1):=by have h8:=HS.out;have hr:=HR.out;exact⟨h8.2.2.2.1.chg hc1 h8.2.1.1.out,h8.2.2.2.2.1.chg hc1 h8.2.2.1.1.out,h8.2.2.2.2.2.chg hc1 (fun z=>hr.2.2 (h8.1.a _ z)) h8.1.d,yJh hr.1 hc1 h8.1.a,yL a hr.1 H1.1 H1.2.1 hr.2.1,fun k z=>Nat.lt_of_lt_of_le (hr.2.1 k z) hc1.size,hc1⟩
 have hS1:(fun w':World=>w'.cell? ⟨pa,0,none⟩=some (.func (Fn.func ka) #[] ca)∧w'.cell? ⟨pb,0,none⟩=some (.func (Fn.func kb) #[] cb)) w1:=⟨hx1.out.1.cell (j:=0) rfl,hx1.out.2.1.cell (j:=0) rfl⟩;have HB:Hid (Calls Tryz.prog kb (#[.slice (some ⟨rb,ro,none⟩) N rc]++cb) w1 (StpP b B (.func (Fn.func kb) #[] cb) rb es w1)):=by rw[HNl.out];exact Hb w1 B kb cb rb ro rc es hx1.out.2.2.1 (fun k z=>hx1.out.2.2.2.2.2.1 k (HS.1.b k z)) (fun z=>HR.2.2 (HS.1.b _ z)) (yDn hx1.out.2.2.2.1 HS.1.b)
 clear hc1;refine hK.out _ _ (.inr hS1) ?_;clear hK;refine jS ?_;refine qO 5 rfl fun K hK=>?_;go_simp;refine HB.mono ?_;rintro e w2 ⟨b2,o2,c2,rfl,H2⟩;have hc2:=H2.2.2.2;have hS2:(fun w':World=>w'.cell? ⟨pa,0,none⟩=some (.func (Fn.func ka) #[] ca)∧w'.cell? ⟨pb,0,none⟩=some (.func (Fn.func kb) #[] cb)) w2:=⟨(hx1.out.1.chg hc2 HS.2.1.2.out).cell (j:=0) rfl,(hx1.out.2.1.chg hc2 HS.2.2.1.2.out).cell (j:=0) rfl⟩;have HU:Hid (Calls Tryz.prog 64 #[.slice (some ⟨b1,o1,none⟩) (mean a es).length c1,.slice (some ⟨b2,o2,none⟩) (mean b es).length c2] w2 fun e w'=>∃g cp,e=.returned (.slice (some ⟨g,0,none⟩) (uniM (mean a es) (mean b es)).length cp)∧OwnC w' w2.heap.size g cp (uniM (mean a es) (mean b es))∧Below w2.heap.size w2 w'):=by have hr:=HR.1;have sa:=yA1 a hr.sub;have sb':=yA1 b hr.sub;have la:=sa.len hr.sub.ord;have lb:=sb'.len hr.sub.ord;have le:=hr.len;exact yRw ((hx1.out.2.2.2.2.1).sl.chg hc2 (fun z=>hx1.out.2.2.2.2.1.off (HS.1.b _ z))) H2.1 sa.ord sb'.ord sa.kind sb'.kind (by omega) (by omega)
 clear hc2;refine hK.out _ _ (.inr hS2) ?_;clear hK;refine jS ?_;refine qO 6 rfl fun K hK=>?_;go_simp;refine HU.mono ?_;rintro e w3 ⟨g3,cp3,rfl,hO3,hb3⟩;have hc2:=H2.2.2.2;have hc3:Chg B w1 w3:=hc2.trans (Chg.of_below hb3);have hS3:(fun w':World=>w'.cell? ⟨pa,0,none⟩=some (.func (Fn.func ka) #[] ca)∧w'.cell? ⟨pb,0,none⟩=some (.func (Fn.func kb) #[] cb)) w3:=⟨(hx1.out.1.chg hc3 HS.2.1.2.out).cell (j:=0) rfl,(hx1.out.2.1.chg hc3 HS.2.2.1.2.out).cell (j:=0) rfl⟩;have HE:Hid (StpP (.inter n a b) R (.func (Fn.func 63) #[] #[ptrC pa,ptrC pb]) rb es w (.returned (.slice (some ⟨g3,0,none⟩) (uniM (mean a es) (mean b es)).length cp3)) w3):=by
  have h8:=HS.out;have hr:=HR.out;have hc1:=hx1.out.2.2.2.2.2.2;refine⟨g3,0,cp3,rfl,hO3.sl,.inr ?_,⟨A,B,pa,pb,ka,ca,kb,cb,h8.1,h8.2.1.1,h8.2.1.2,h8.2.2.1.1,h8.2.2.1.2,rfl,hx1.out.1.chg hc3 h8.2.1.2.out,hx1.out.2.1.chg hc3 h8.2.2.1.2.out,?_,H2.2.2.1.below hb3⟩,?_⟩
  ·have:=hO3.lt.1;have:=hc1.size;have:=hc2.size;omega
  ·exact H1.2.2.1.chg hc3 (fun z=>hr.2.2 (h8.1.b _ z)) (fun k z y=>h8.1.d k y z)
  ·exact(hc1.mono h8.1.a).trans (hc3.mono h8.1.b)
 clear hc2 hc3 hO3 hb3;refine hK.out _ _ (.inr hS3) ?_;clear hK;refine jS ?_;refine j2a 7 hS3 ?_;refine qD ?_;go_wp2_with fail;go_ret;exact HE.out
theorem yTn (n:Nd) {p:CT} (Hp:StC p) (Ha:StC a) (Hb:StC b):StC (.cond n p a b):=by
 intro w R k caps rb ro rc es hS hh hV hR;obtain⟨P,A,B,pp,pa,pb,kp,cp,ka,ca,kb,cb,h1,h4,h5,h6,h7,h8,h9,g1,g2,g3,g4⟩:=hS;cases h7
 have HS:Hid ((Twp R P A∧Twp R P B∧Twp R A B)∧(Osd R P pp∧Osd R A pp∧Osd R B pp)∧(Osd R P pa∧Osd R A pa∧Osd R B pa)∧(Osd R P pb∧Osd R A pb∧Osd R B pb)):=⟨h1,h4,h5,h6⟩;have HB0:Hid (yA w 0 58 1 pp [.func (Fn.func kp) #[] cp]∧yA w 0 58 1 pa [.func (Fn.func ka) #[] ca]∧yA w 0 58 1 pb [.func (Fn.func kb) #[] cb]∧yA3 w a A (.func (Fn.func ka) #[] ca)∧yA3 w b B (.func (Fn.func kb) #[] cb)):=⟨h8,h9,g1,g3,g4⟩;have HR:Hid (yF9 w R rb ro rc es∧(∀k,R k→k<w.heap.size)∧¬R 1):=⟨hR,hh,hV⟩;have HP:Hid (Calls Tryz.prog kp (#[.slice (some ⟨rb,ro,none⟩) es.length rc]++cp) w (StpP p P (.func (Fn.func kp) #[] cp) rb es w)):=Hp w P kp cp rb ro rc es g2 (fun k z=>hh k (h1.1.a k z)) (fun z=>hV (h1.1.a _ z)) (yDn hR h1.1.a);have x0:=h8.cell (j:=0) rfl;have hkp:∀(args:Array Value) (w:World),(callFunc kp args).run Tryz.prog w=.ok (.enter kp args) w:=g2.callOk;have hka:∀(args:Array Value) (w:World),(callFunc ka args).run Tryz.prog w=.ok (.enter ka args) w:=g3.callOk;have hkb:∀(args:Array Value) (w:World),(callFunc kb args).run Tryz.prog w=.ok (.enter kb args) w:=g4.callOk;obtain⟨N,hN⟩:=qE es.length;have HNl:Hid (N=es.length):=hN;rw[←hN]at HP⊢;clear h1 h4 h5 h6 h8 h9 g1 g2 g3 g4 hR hh hV hN;show Calls Tryz.prog 102 #[.slice (some ⟨rb,ro,none⟩) N rc,ptrC pp,ptrC pa,ptrC pb] w _;go_enter Tryz.func102,Tryz.ntmps102;go_wp2_with fail;refine HP.mono ?_;rintro e w1 ⟨b1,o1,c1,rfl,H1⟩;have hlp:(mean p es).length≤10000:=by have h8:=(yA1 p HR.1.sub).len HR.1.sub.ord;have h9:=HR.1.len;omega
 obtain⟨Q,hQ⟩:=qE ((mean p es).length);have HPl:Hid (Q=(mean p es).length):=hQ;rw[←hQ]at hlp⊢;have HX:Hid (yA w1 0 58 1 pp [.func (Fn.func kp) #[] cp]∧yA w1 0 58 1 pa [.func (Fn.func ka) #[] ca]∧yA w1 0 58 1 pb [.func (Fn.func kb) #[] cb]∧yA3 w1 a A (.func (Fn.func ka) #[] ca)∧yA3 w1 b B (.func (Fn.func kb) #[] cb)∧yF9 w1 R rb ro rc es∧(∀k,R k→k<w1.heap.size)):=by have hc1:=H1.2.2.2;have h8:=HS.out;have hb:=HB0.out;have hr:=HR.out;have hv:¬P 1:=fun z=>hr.2.2 (h8.1.1.a _ z);exact⟨hb.1.chg hc1 h8.2.1.1.out,hb.2.1.chg hc1 h8.2.2.1.1.out,hb.2.2.1.chg hc1 h8.2.2.2.1.out,hb.2.2.2.1.chg hc1 hv h8.1.1.d,hb.2.2.2.2.chg hc1 hv h8.1.2.1.d,yJh hr.1 hc1 h8.1.1.a,fun k z=>Nat.lt_of_lt_of_le (hr.2.1 k z) hc1.size⟩
 clear hQ x0;by_cases hz:Q=0
 ·subst hz;have HM:Hid (mean (.cond n p a b) es=mean b es):=by
   show mean (.cond n p a b) es=_;have h0:mean p es= []:=List.length_eq_zero_iff.1 HPl.symm;conv=>lhs;unfold mean
   rw[if_pos h0]
  have HC:Hid (Calls Tryz.prog kb (#[.slice (some ⟨rb,ro,none⟩) N rc]++cb) w1 (StpP b B (.func (Fn.func kb) #[] cb) rb es w1)):=by rw[HNl.out];exact Hb w1 B kb cb rb ro rc es HX.2.2.2.2.1 (fun k z=>HX.2.2.2.2.2.2 k (HS.1.2.1.b k z)) (fun z=>HR.2.2 (HS.1.2.1.b _ z)) (yDn HX.2.2.2.2.2.1 HS.1.2.1.b)
  have x1:=HX.2.2.1.cell (j:=0) rfl;go_wp2_with fail;refine HC.mono ?_;rintro e w2 ⟨b2,o2,c2,rfl,H2⟩;have HE:Hid (StpP (.cond n p a b) R (.func (Fn.func 102) #[] #[ptrC pp,ptrC pa,ptrC pb]) rb es w (.returned (.slice (some ⟨b2,o2,none⟩) (mean b es).length c2)) w2):=by
   have hc1:=H1.2.2.2;have hc2:=H2.2.2.2;have h8:=HS.out;have hr:=HR.out;have hv:¬B 1:=fun z=>hr.2.2 (HS.1.2.1.b _ z);refine⟨b2,o2,c2,by rw[HM.out],by rw[HM.out];exact H2.1,?_,⟨P,A,B,pp,pa,pb,kp,cp,ka,ca,kb,cb,h8.1,h8.2.1,h8.2.2.1,h8.2.2.2,rfl,HX.1.chg hc2 h8.2.1.2.2.out,HX.2.1.chg hc2 h8.2.2.1.2.2.out,HX.2.2.1.chg hc2 h8.2.2.2.2.2.out,?_,?_,?_⟩,?_⟩
   ·rcases H2.2.1 with z|z
    ·exact .inl z
    ·exact .inr (Nat.le_trans hc1.size z)
   ·exact H1.2.2.1.chg hc2 hv (fun k z y=>h8.1.2.1.d k y z)
   ·exact HX.2.2.2.1.chg hc2 hv (fun k z y=>h8.1.2.2.d k y z)
   ·exact H2.2.2.1
   ·exact(hc1.mono h8.1.1.a).trans (hc2.mono HS.1.2.1.b)
  go_wp2_with fail;go_ret;exact HE.out
 ·have zp:(0:Int)<(Q:Int):=by omega
  have HM:Hid (mean (.cond n p a b) es=mean a es):=by
   show mean (.cond n p a b) es=_;have h0:¬mean p es= []:=fun q=>hz (by rw[HPl.out,q];rfl);conv=>lhs;unfold mean
   rw[if_neg h0]
  have HC:Hid (Calls Tryz.prog ka (#[.slice (some ⟨rb,ro,none⟩) N rc]++ca) w1 (StpP a A (.func (Fn.func ka) #[] ca) rb es w1)):=by rw[HNl.out];exact Ha w1 A ka ca rb ro rc es HX.2.2.2.1 (fun k z=>HX.2.2.2.2.2.2 k (HS.1.1.b k z)) (fun z=>HR.2.2 (HS.1.1.b _ z)) (yDn HX.2.2.2.2.2.1 HS.1.1.b)
  have x1:=HX.2.1.cell (j:=0) rfl;go_wp2_with fail;refine HC.mono ?_;rintro e w2 ⟨b2,o2,c2,rfl,H2⟩;have HE:Hid (StpP (.cond n p a b) R (.func (Fn.func 102) #[] #[ptrC pp,ptrC pa,ptrC pb]) rb es w (.returned (.slice (some ⟨b2,o2,none⟩) (mean a es).length c2)) w2):=by
   have hc1:=H1.2.2.2;have hc2:=H2.2.2.2;have h8:=HS.out;have hr:=HR.out;have hv:¬A 1:=fun z=>hr.2.2 (HS.1.1.b _ z);refine⟨b2,o2,c2,by rw[HM.out],by rw[HM.out];exact H2.1,?_,⟨P,A,B,pp,pa,pb,kp,cp,ka,ca,kb,cb,h8.1,h8.2.1,h8.2.2.1,h8.2.2.2,rfl,HX.1.chg hc2 h8.2.1.2.1.out,HX.2.1.chg hc2 h8.2.2.1.2.1.out,HX.2.2.1.chg hc2 h8.2.2.2.2.1.out,?_,?_,?_⟩,?_⟩
   ·rcases H2.2.1 with z|z
    ·exact .inl z
    ·exact .inr (Nat.le_trans hc1.size z)
   ·exact H1.2.2.1.chg hc2 hv (fun k z y=>h8.1.1.d k y z)
   ·exact H2.2.2.1
   ·exact HX.2.2.2.2.1.chg hc2 hv (fun k z y=>h8.1.2.2.d k z y)
   ·exact(hc1.mono h8.1.1.a).trans (hc2.mono HS.1.1.b)
  go_wp2_with fail;go_ret;exact HE.out
theorem yDz:∀t:CT,StC t
 | .leaf n=>yTm n
 | .chain n a b=>yR0 n (yDz a) (yDz b)
 | .inter n a b=>yRz n (yDz a) (yDz b)
 | .cond n p a b=>yTn n (yDz p) (yDz a) (yDz b)
theorem mct_4 (n:Nd) (w:World) (hT:TabD w) (hs:n.s.size≤maxLen) (hg:(yAr (sb n.s)).1=0) (h4:n.kind=4):Calls Tryz.prog 71 #[n.v] w (CteP n w):=by
 have hP:PatK n.kind:=by unfold PatK;omega
 have HKH:Hid (n.kind=4):=h4;have HPH:Hid (PatK n.kind):=hP;clear h4 hP;obtain⟨W2,hW2⟩:=qE (((w.alloc (.cells n.seven.toArray 75)).alloc (.cells #[.int .i64 0,.string ⟨#[]⟩,.bool false,.string ⟨#[]⟩,.int .u64 0,.int .u64 0,.int .i64 0,.pointer none] 111)).alloc (.cells #[.int .i64 n.kind,.string n.s,.bool n.hi,.string n.t,.int .u64 n.lo,.int .u64 n.up,.int .i64 n.n,.pointer none] 111):World);have HW2:Hid (yA W2 w.heap.size 75 7 w.heap.size n.seven∧yA W2 w.heap.size 111 8 (w.heap.size+1) (#[.int .i64 0,.string ⟨#[]⟩,.bool false,.string ⟨#[]⟩,.int .u64 0,.int .u64 0,.int .i64 0,.pointer none]).toList∧yA W2 w.heap.size 111 8 (w.heap.size+1+1) (yCo n none)∧Below w.heap.size w W2):=yHh n w W2 hW2;have HT:Hid (TabD w∧n.s.size≤maxLen):=⟨hT,hs⟩;have hbd:=yFd n.kind n.s n.hi n.t n.lo n.up n.n;have HF:Hid (∀(X:World) (mp:Option Addr),yA X w.heap.size 111 8 (w.heap.size+1) (#[.int .i64 0,.string ⟨#[]⟩,.bool false,.string ⟨#[]⟩,.int .u64 0,.int .u64 0,.int .i64 0,.pointer none]).toList→Below w.heap.size w X→w.heap.size+1<X.heap.size→yCu X (w.heap.size+1+1+1) X.heap.size n (.pointer mp)→CteP n w (.returned (.agg #[.int .i64 n.kind,.string n.s,.bool n.hi,.string n.t,.int .u64 n.lo,.int .u64 n.up,.int .i64 n.n,.pointer mp])) (set8 X (w.heap.size+1) n mp)∧yA (set8 X (w.heap.size+1) n mp) w.heap.size 111 8 (w.heap.size+1) (yCo n mp)):=yOa n w hT;have HG:Hid (PatK n.kind→(yAr (sb n.s)).1=0):=fun _=>hg;clear hg;clear hT hs;go_enter Tryz.func71,Tryz.ntmps71;go_upto_region 2 with fail;have hW2':=hW2;simp only[Nd.seven]at hW2';rw[←hW2'];clear hW2 hW2' hbd;obtain⟨n0,n1⟩:=HW2.1.c2;have hz2:w.heap.size+1+1<W2.heap.size:=HW2.2.2.1.lt.2;have hp200:n.s.size≤200:=by apply Classical.byContradiction;intro h6;have q0:=HG.out HPH.out;unfold yAr at q0;rw[if_pos (by rw[yAd];omega)]at q0;exact absurd q0 (by decide)
 have HRp:Hid (Calls Tryz.prog 104 #[.string n.s] W2 (yCg n.s W2)):=yBg n.s W2 HT.2;have hP0:Hid (PatK n.kind):=HPH.out;have hP:=HPH.out;have h4:=HKH.out;have b4:(n.kind==4)=true:=by rw[beq_iff_eq];exact h4
 have HK9:Hid (n.kind=4):=h4;clear h4 hP;exact zzQ0
theorem mct_5 (n:Nd) (w:World) (hT:TabD w) (hs:n.s.size≤maxLen) (hg:(yAr (sb n.s)).1=0) (h5:n.kind=5):Calls Tryz.prog 71 #[n.v] w (CteP n w):=by
 have hP:PatK n.kind:=by unfold PatK;omega
 have HKH:Hid (n.kind=5):=h5;have HPH:Hid (PatK n.kind):=hP;clear h5 hP;obtain⟨W2,hW2⟩:=qE (((w.alloc (.cells n.seven.toArray 75)).alloc (.cells #[.int .i64 0,.string ⟨#[]⟩,.bool false,.string ⟨#[]⟩,.int .u64 0,.int .u64 0,.int .i64 0,.pointer none] 111)).alloc (.cells #[.int .i64 n.kind,.string n.s,.bool n.hi,.string n.t,.int .u64 n.lo,.int .u64 n.up,.int .i64 n.n,.pointer none] 111):World);have HW2:Hid (yA W2 w.heap.size 75 7 w.heap.size n.seven∧yA W2 w.heap.size 111 8 (w.heap.size+1) (#[.int .i64 0,.string ⟨#[]⟩,.bool false,.string ⟨#[]⟩,.int .u64 0,.int .u64 0,.int .i64 0,.pointer none]).toList∧yA W2 w.heap.size 111 8 (w.heap.size+1+1) (yCo n none)∧Below w.heap.size w W2):=yHh n w W2 hW2;have HT:Hid (TabD w∧n.s.size≤maxLen):=⟨hT,hs⟩;have hbd:=yFd n.kind n.s n.hi n.t n.lo n.up n.n;have HF:Hid (∀(X:World) (mp:Option Addr),yA X w.heap.size 111 8 (w.heap.size+1) (#[.int .i64 0,.string ⟨#[]⟩,.bool false,.string ⟨#[]⟩,.int .u64 0,.int .u64 0,.int .i64 0,.pointer none]).toList→Below w.heap.size w X→w.heap.size+1<X.heap.size→yCu X (w.heap.size+1+1+1) X.heap.size n (.pointer mp)→CteP n w (.returned (.agg #[.int .i64 n.kind,.string n.s,.bool n.hi,.string n.t,.int .u64 n.lo,.int .u64 n.up,.int .i64 n.n,.pointer mp])) (set8 X (w.heap.size+1) n mp)∧yA (set8 X (w.heap.size+1) n mp) w.heap.size 111 8 (w.heap.size+1) (yCo n mp)):=yOa n w hT;have HG:Hid (PatK n.kind→(yAr (sb n.s)).1=0):=fun _=>hg;clear hg;clear hT hs;go_enter Tryz.func71,Tryz.ntmps71;go_upto_region 2 with fail;have hW2':=hW2;simp only[Nd.seven]at hW2';rw[←hW2'];clear hW2 hW2' hbd;obtain⟨n0,n1⟩:=HW2.1.c2;have hz2:w.heap.size+1+1<W2.heap.size:=HW2.2.2.1.lt.2;have hp200:n.s.size≤200:=by apply Classical.byContradiction;intro h6;have q0:=HG.out HPH.out;unfold yAr at q0;rw[if_pos (by rw[yAd];omega)]at q0;exact absurd q0 (by decide)
 have HRp:Hid (Calls Tryz.prog 104 #[.string n.s] W2 (yCg n.s W2)):=yBg n.s W2 HT.2;have hP0:Hid (PatK n.kind):=HPH.out;have hP:=HPH.out;have h5:=HKH.out;have b4:(n.kind==4)=false:=by rw[beq_eq_false_iff_ne];omega
 have b5:(n.kind==5)=true:=by rw[beq_iff_eq];exact h5
 have HK9:Hid (n.kind=5):=h5;clear h5 hP;exact zzQ0
theorem mct_6 (n:Nd) (w:World) (hT:TabD w) (hs:n.s.size≤maxLen) (hg:(yAr (sb n.s)).1=0) (h6:n.kind=6):Calls Tryz.prog 71 #[n.v] w (CteP n w):=by
 have hP:PatK n.kind:=by unfold PatK;omega
 have HKH:Hid (n.kind=6):=h6;have HPH:Hid (PatK n.kind):=hP;clear h6 hP;obtain⟨W2,hW2⟩:=qE (((w.alloc (.cells n.seven.toArray 75)).alloc (.cells #[.int .i64 0,.string ⟨#[]⟩,.bool false,.string ⟨#[]⟩,.int .u64 0,.int .u64 0,.int .i64 0,.pointer none] 111)).alloc (.cells #[.int .i64 n.kind,.string n.s,.bool n.hi,.string n.t,.int .u64 n.lo,.int .u64 n.up,.int .i64 n.n,.pointer none] 111):World);have HW2:Hid (yA W2 w.heap.size 75 7 w.heap.size n.seven∧yA W2 w.heap.size 111 8 (w.heap.size+1) (#[.int .i64 0,.string ⟨#[]⟩,.bool false,.string ⟨#[]⟩,.int .u64 0,.int .u64 0,.int .i64 0,.pointer none]).toList∧yA W2 w.heap.size 111 8 (w.heap.size+1+1) (yCo n none)∧Below w.heap.size w W2):=yHh n w W2 hW2;have HT:Hid (TabD w∧n.s.size≤maxLen):=⟨hT,hs⟩;have hbd:=yFd n.kind n.s n.hi n.t n.lo n.up n.n;have HF:Hid (∀(X:World) (mp:Option Addr),yA X w.heap.size 111 8 (w.heap.size+1) (#[.int .i64 0,.string ⟨#[]⟩,.bool false,.string ⟨#[]⟩,.int .u64 0,.int .u64 0,.int .i64 0,.pointer none]).toList→Below w.heap.size w X→w.heap.size+1<X.heap.size→yCu X (w.heap.size+1+1+1) X.heap.size n (.pointer mp)→CteP n w (.returned (.agg #[.int .i64 n.kind,.string n.s,.bool n.hi,.string n.t,.int .u64 n.lo,.int .u64 n.up,.int .i64 n.n,.pointer mp])) (set8 X (w.heap.size+1) n mp)∧yA (set8 X (w.heap.size+1) n mp) w.heap.size 111 8 (w.heap.size+1) (yCo n mp)):=yOa n w hT;have HG:Hid (PatK n.kind→(yAr (sb n.s)).1=0):=fun _=>hg;clear hg;clear hT hs;go_enter Tryz.func71,Tryz.ntmps71;go_upto_region 2 with fail;have hW2':=hW2;simp only[Nd.seven]at hW2';rw[←hW2'];clear hW2 hW2' hbd;obtain⟨n0,n1⟩:=HW2.1.c2;have hz2:w.heap.size+1+1<W2.heap.size:=HW2.2.2.1.lt.2;have hp200:n.s.size≤200:=by apply Classical.byContradiction;intro h6;have q0:=HG.out HPH.out;unfold yAr at q0;rw[if_pos (by rw[yAd];omega)]at q0;exact absurd q0 (by decide)
 have HRp:Hid (Calls Tryz.prog 104 #[.string n.s] W2 (yCg n.s W2)):=yBg n.s W2 HT.2;have hP0:Hid (PatK n.kind):=HPH.out;have hP:=HPH.out;have h6:=HKH.out;have b4:(n.kind==4)=false:=by rw[beq_eq_false_iff_ne];omega
 have b5:(n.kind==5)=false:=by rw[beq_eq_false_iff_ne];omega
 have b6:(n.kind==6)=true:=by rw[beq_iff_eq];exact h6
 have HK9:Hid (n.kind=6):=h6;clear h6 hP;exact zzQ0
theorem mct_7 (n:Nd) (w:World) (hT:TabD w) (hs:n.s.size≤maxLen) (hg:(yAr (sb n.s)).1=0) (h7:n.kind=7):Calls Tryz.prog 71 #[n.v] w (CteP n w):=by
 have hP:PatK n.kind:=by unfold PatK;omega
 have HKH:Hid (n.kind=7):=h7;have HPH:Hid (PatK n.kind):=hP;clear h7 hP;obtain⟨W2,hW2⟩:=qE (((w.alloc (.cells n.seven.toArray 75)).alloc (.cells #[.int .i64 0,.string ⟨#[]⟩,.bool false,.string ⟨#[]⟩,.int .u64 0,.int .u64 0,.int .i64 0,.pointer none] 111)).alloc (.cells #[.int .i64 n.kind,.string n.s,.bool n.hi,.string n.t,.int .u64 n.lo,.int .u64 n.up,.int .i64 n.n,.pointer none] 111):World);have HW2:Hid (yA W2 w.heap.size 75 7 w.heap.size n.seven∧yA W2 w.heap.size 111 8 (w.heap.size+1) (#[.int .i64 0,.string ⟨#[]⟩,.bool false,.string ⟨#[]⟩,.int .u64 0,.int .u64 0,.int .i64 0,.pointer none]).toList∧yA W2 w.heap.size 111 8 (w.heap.size+1+1) (yCo n none)∧Below w.heap.size w W2):=yHh n w W2 hW2;have HT:Hid (TabD w∧n.s.size≤maxLen):=⟨hT,hs⟩;have hbd:=yFd n.kind n.s n.hi n.t n.lo n.up n.n;have HF:Hid (∀(X:World) (mp:Option Addr),yA X w.heap.size 111 8 (w.heap.size+1) (#[.int .i64 0,.string ⟨#[]⟩,.bool false,.string ⟨#[]⟩,.int .u64 0,.int .u64 0,.int .i64 0,.pointer none]).toList→Below w.heap.size w X→w.heap.size+1<X.heap.size→yCu X (w.heap.size+1+1+1) X.heap.size n (.pointer mp)→CteP n w (.returned (.agg #[.int .i64 n.kind,.string n.s,.bool n.hi,.string n.t,.int .u64 n.lo,.int .u64 n.up,.int .i64 n.n,.pointer mp])) (set8 X (w.heap.size+1) n mp)∧yA (set8 X (w.heap.size+1) n mp) w.heap.size 111 8 (w.heap.size+1) (yCo n mp)):=yOa n w hT;have HG:Hid (PatK n.kind→(yAr (sb n.s)).1=0):=fun _=>hg;clear hg;clear hT hs;go_enter Tryz.func71,Tryz.ntmps71;go_upto_region 2 with fail;have hW2':=hW2;simp only[Nd.seven]at hW2';rw[←hW2'];clear hW2 hW2' hbd;obtain⟨n0,n1⟩:=HW2.1.c2;have hz2:w.heap.size+1+1<W2.heap.size:=HW2.2.2.1.lt.2;have hp200:n.s.size≤200:=by apply Classical.byContradiction;intro h6;have q0:=HG.out HPH.out;unfold yAr at q0;rw[if_pos (by rw[yAd];omega)]at q0;exact absurd q0 (by decide)
 have HRp:Hid (Calls Tryz.prog 104 #[.string n.s] W2 (yCg n.s W2)):=yBg n.s W2 HT.2;have hP0:Hid (PatK n.kind):=HPH.out;have hP:=HPH.out;have h7:=HKH.out;have b4:(n.kind==4)=false:=by rw[beq_eq_false_iff_ne];omega
 have b5:(n.kind==5)=false:=by rw[beq_eq_false_iff_ne];omega
 have b6:(n.kind==6)=false:=by rw[beq_eq_false_iff_ne];omega
 have b7:(n.kind==7)=true:=by rw[beq_iff_eq];exact h7
 have HK9:Hid (n.kind=7):=h7;clear h7 hP;exact zzQ0
theorem yHw (n:Nd) (w:World) (hT:TabD w) (hs:n.s.size≤maxLen) (hg:PatK n.kind→(yAr (sb n.s)).1=0):Calls Tryz.prog 71 #[n.v] w (CteP n w):=by
 by_cases hP:PatK n.kind
 ·rcases hP with h|h|h|h
  ·exact mct_4 n w hT hs (hg (.inl h)) h
  ·exact mct_5 n w hT hs (hg (.inr (.inl h))) h
  ·exact mct_6 n w hT hs (hg (.inr (.inr (.inl h)))) h
  ·exact mct_7 n w hT hs (hg (.inr (.inr (.inr h)))) h
 ·exact yUu n w hT hs hP
section
theorem yId {P:Program} {a:Addr} {m:Mode} (f:Fn) (b c:Array Value):(store a (.func f b c) m).run P w=stored P w a (.func f b c) m:=run_store P w a _ m rfl
attribute [local go_sem] yId
abbrev fvC (f:Nat×Array Value):Value:=.func (Fn.func f.1) #[] f.2
def SoP (t:CT) (Q:Nat→Prop) (w:World) (e:Ending) (w':World):Prop:=∃(f:Nat×Array Value),e=.returned (fvC f)∧Hid (∃R:Nat→Prop,yA3 w' t R (fvC f)∧(∀k,R k→Q k∨(w.heap.size≤k∧k<w'.heap.size))∧Below w.heap.size w w')
theorem yJ6 (h:yAe n) (hk:n.kind=11∨n.kind=12∨n.kind=13):1≤n.n∧n.n≤1000:=by
 rcases h.2.2.2 with q|q|q|q|q
 ·have:=q.1;omega
 ·have:=q.1;omega
 ·have:=q.1;omega
 ·exact q.2.2
 ·have:=q.1;omega
theorem yU8 (h:yAe n) (hk:PatK n.kind):(yAr (sb n.s)).1=0:=by
 unfold PatK at hk;rcases h.2.2.2 with q|q|q|q|q
 ·exact q.2.2
 ·have:=q.1;omega
 ·have:=q.1;omega
 ·have:=q.1;omega
 ·have:=q.1;omega
theorem yM1 {t sz g:Nat} {vs:List Value} (h:yA w base t sz g vs):yA w 0 t sz g vs:=yO5 h (Nat.zero_le _)
theorem yWd (n:Nd) (hg:yAe n) (ha:yAk n.kind=0) (b off cx m:Nat) (w:World) (hT:TabD w):Calls Tryz.prog 31 #[n.v,.slice (some ⟨b,off,none⟩) m cx] w (SoP (.leaf n) (fun _=>False) w):=by
 obtain⟨W1,hW1⟩:=qE (w.alloc (.cells #[.int .i64 n.kind,.string n.s,.bool n.hi,.string n.t,.int .u64 n.lo,.int .u64 n.up,.int .i64 n.n] 75):World);have z1:W1.heap.size=w.heap.size+1:=by rw[hW1];simp
 have HW1:Hid (yA W1 w.heap.size 75 7 w.heap.size n.seven∧Below w.heap.size w W1∧W1.heap.size=w.heap.size+1):=⟨by rw[hW1];exact yAa w _ (Nat.le_refl _) rfl,by rw[hW1];exact qB,z1⟩;have HG:Hid (yAe n∧TabD w):=⟨hg,hT⟩;have hkk:¬n.kind=14∧¬n.kind=15∧¬n.kind=16:=by
  unfold yAk at ha;refine⟨fun q=>?_,fun q=>?_,fun q=>?_⟩
  ·rw[if_pos (.inl q)]at ha;cases ha
  ·rw[if_pos (.inr q)]at ha;cases ha
  ·rw[if_neg (by omega),if_pos q]at ha;cases ha
 have b14:(n.kind==14)=false:=by rw[beq_eq_false_iff_ne];exact hkk.1
 have b15:(n.kind==15)=false:=by rw[beq_eq_false_iff_ne];exact hkk.2.1
 have b16:(n.kind==16)=false:=by rw[beq_eq_false_iff_ne];exact hkk.2.2
 clear hg hT ha hkk z1;obtain⟨n0,n1,n2,n3,n4,n5,n6⟩:=HW1.1.c7;by_cases h3:n.kind=3
 ·have HE:Hid (SoP (.leaf n) (fun _=>False) w (.returned (fvC (66,#[]))) W1):=⟨_,rfl,fun _=>False,.strip h3,fun k q=>q.elim,HW1.2.1⟩;have b3:(n.kind==3)=true:=by rw[beq_iff_eq];exact h3
  clear h3;exact yVz
 have b3:(n.kind==3)=false:=by rw[beq_eq_false_iff_ne];exact h3
 by_cases h11:n.kind=11
 ·have HE:Hid (SoP (.leaf n) (fun _=>False) w (.returned (fvC (67,#[ptrC w.heap.size]))) W1):=⟨_,rfl,fun k=>k=w.heap.size,.vers h11 (yJ6 HG.1 (by omega)) _ rfl (yM1 HW1.1),fun k q=>.inr ⟨by omega,by have:=HW1.2.2;omega⟩,HW1.2.1⟩;have b11:(n.kind==11)=true:=by rw[beq_iff_eq];exact h11
  clear h11;exact yVz
 have b11:(n.kind==11)=false:=by rw[beq_eq_false_iff_ne];exact h11
 by_cases h12:n.kind=12
 ·have HE:Hid (SoP (.leaf n) (fun _=>False) w (.returned (fvC (69,#[ptrC w.heap.size]))) W1):=⟨_,rfl,fun k=>k=w.heap.size,.cells h12 (yJ6 HG.1 (by omega)) _ rfl (yM1 HW1.1),fun k q=>.inr ⟨by omega,by have:=HW1.2.2;omega⟩,HW1.2.1⟩;have b12:(n.kind==12)=true:=by rw[beq_iff_eq];exact h12
  clear h12;exact yVz
 have b12:(n.kind==12)=false:=by rw[beq_eq_false_iff_ne];exact h12
 by_cases h13:n.kind=13
 ·have HE:Hid (SoP (.leaf n) (fun _=>False) w (.returned (fvC (70,#[ptrC w.heap.size]))) W1):=⟨_,rfl,fun k=>k=w.heap.size,.skip h13 (yJ6 HG.1 (by omega)) _ rfl (yM1 HW1.1),fun k q=>.inr ⟨by omega,by have:=HW1.2.2;omega⟩,HW1.2.1⟩;have b13:(n.kind==13)=true:=by rw[beq_iff_eq];exact h13
  clear h13;exact yVz
 have b13:(n.kind==13)=false:=by rw[beq_eq_false_iff_ne];exact h13
 have HP:Hid (yS5 n):=⟨h3,h11,h12,h13⟩;have HC:Hid (Calls Tryz.prog 71 #[n.v] W1 (CteP n W1)):=yHw n W1 (HG.2.chg (S:=fun _=>False) (Chg.of_below HW1.2.1) (fun q=>q)) (by have:=HG.1.1;unfold maxLen;omega) (yU8 HG.1);clear h3 h11 h12 h13;go_enter Tryz.func31,Tryz.ntmps31;go_upto_region 1 with fail;rw[←hW1];clear hW1;go_wp2_with fail;refine HC.mono ?_;rintro e w2 ⟨mp,rfl,H2⟩;obtain⟨W3,hW3⟩:=qE (w2.alloc (.cells #[.int .i64 n.kind,.string n.s,.bool n.hi,.string n.t,.int .u64 n.lo,.int .u64 n.up,.int .i64 n.n,.pointer mp] 111):World);have HE:Hid (SoP (.leaf n) (fun _=>False) w (.returned (fvC (72,#[ptrC w2.heap.size]))) W3):=by
  have s1:=HW1.2.2;have s2:=H2.2.size;have k3:Below w2.heap.size w2 W3:=by rw[hW3];exact qB
  have s3:W3.heap.size=w2.heap.size+1:=by rw[hW3];simp
  refine⟨_,rfl,fun k=>InB W1.heap.size W3.heap.size k,.test HP.out w2.heap.size W1.heap.size w2.heap.size mp ⟨⟨by omega,by omega⟩,fun z=>by have:=z.2;omega⟩ ⟨by omega,Nat.le_refl _⟩ (fun k z=>⟨z.1,by have:=z.2;omega⟩) ?_ (H2.1.below k3),fun k q=>.inr ⟨by have:=q.1;omega,q.2⟩,(HW1.2.1.trans (H2.2.mono (by omega))).trans (k3.mono (by omega))⟩;rw[hW3];exact yAa w2 #[.int .i64 n.kind,.string n.s,.bool n.hi,.string n.t,.int .u64 n.lo,.int .u64 n.up,.int .i64 n.n,.pointer mp] (Nat.zero_le _) rfl
 go_upto_region 19 with fail;rw[←hW3];clear hW3 n0 n1 n2 n3 n4 n5 n6;go_wp2_with fail;go_ret;exact HE.out
theorem yTk (n:Nd) (hk:n.kind=14) (b off cx:Nat) (fa fb:Nat×Array Value) (ta tb:CT) (A B:Nat→Prop) (w:World) (h0:w.cell? ⟨b,off,none⟩=some (fvC fa)) (h1:w.cell? ⟨b,off+1,none⟩=some (fvC fb)) (hb:b<w.heap.size) (hA:yA3 w ta A (fvC fa)) (hB:yA3 w tb B (fvC fb)) (hd:∀k,A k→¬B k) (hla:∀k,A k→k<w.heap.size) (hlb:∀k,B k→k<w.heap.size):Calls Tryz.prog 31 #[n.v,.slice (some ⟨b,off,none⟩) 2 cx] w (SoP (.chain n ta tb) (fun k=>A k∨B k) w):=by
 obtain⟨W1,hW1⟩:=qE (w.alloc (.cells #[.int .i64 n.kind,.string n.s,.bool n.hi,.string n.t,.int .u64 n.lo,.int .u64 n.up,.int .i64 n.n] 75):World);have z1:W1.heap.size=w.heap.size+1:=by rw[hW1];simp
 have k1:Below w.heap.size w W1:=by rw[hW1];exact qB
 have n0:W1.cell? ⟨w.heap.size,0,none⟩=some (.int .i64 n.kind):=by rw[hW1];simp
 have hS0:(fun w':World=>w'.cell? ⟨b,off,none⟩=some (fvC fa)∧w'.cell? ⟨b,off+1,none⟩=some (fvC fb)) W1.drew:=⟨by show W1.cell? _=_;rw[(Chg.of_below k1 (S:=fun _=>False)).cell (p:=⟨b,off,none⟩) hb (fun q=>q)];exact h0,by show W1.cell? _=_;rw[(Chg.of_below k1 (S:=fun _=>False)).cell (p:=⟨b,off+1,none⟩) hb (fun q=>q)];exact h1⟩;have kd:Below w.heap.size w W1.drew:=k1.drew;have HSb:Hid (∀X:World,Below w.heap.size w X→X.cell? ⟨b,off,none⟩=some (fvC fa)∧X.cell? ⟨b,off+1,none⟩=some (fvC fb)):=fun X hX=>⟨by rw[hX.cell (p:=⟨b,off,none⟩) hb];exact h0,by rw[hX.cell (p:=⟨b,off+1,none⟩) hb];exact h1⟩;have HF:Hid (∀(Y:World) (pa pb:Nat),yA Y 0 58 1 pa [fvC fa]→yA Y 0 58 1 pb [fvC fb]→Below w.heap.size w Y→w.heap.size≤pa→w.heap.size≤pb→SoP (.chain n ta tb) (fun k=>A k∨B k) w (.returned (fvC (62,#[ptrC pb,ptrC pa]))) Y):=fun Y pa pb hpa hpb hY ga gb=>by
  refine⟨_,rfl,fun k=>(A k∨B k)∨k=pa∨k=pb,⟨A,B,pa,pb,fa.1,fa.2,fb.1,fb.2,⟨fun k z=>.inl (.inl z),fun k z=>.inl (.inr z),hd⟩,⟨.inr (.inl rfl),fun z=>by have:=hla _ z;omega⟩,⟨.inr (.inl rfl),fun z=>by have:=hlb _ z;omega⟩,⟨.inr (.inr rfl),fun z=>by have:=hla _ z;omega⟩,⟨.inr (.inr rfl),fun z=>by have:=hlb _ z;omega⟩,rfl,hpa,hpb,hA.below hY,hB.below hY⟩,fun k z=>?_,hY⟩;rcases z with z|z|z
  ·exact .inl z
  ·exact .inr ⟨by omega,by have:=hpa.lt.2;omega⟩
  ·exact .inr ⟨by omega,by have:=hpb.lt.2;omega⟩
 have HZ:Hid (Below w.heap.size w W1.drew∧W1.drew.heap.size=w.heap.size+1):=⟨kd,z1⟩;have zk:(n.kind==14)=true:=by rw[beq_iff_eq];exact hk
 clear hA hB hd hla hlb h0 h1 hb k1 kd hk;obtain⟨fka,fca⟩:=fa;obtain⟨fkb,fcb⟩:=fb;go_enter Tryz.func31,Tryz.ntmps31;go_upto_region 1 with fail;rw[←hW1];clear hW1;go_upto_region 3 with fail;refine yAb 99 (fun w':World=>w'.cell? ⟨b,off,none⟩=some (.func (Fn.func fka) #[] fca)∧w'.cell? ⟨b,off+1,none⟩=some (.func (Fn.func fkb) #[] fcb)) (by kernel_rfl) ?_;refine j2a 0 hS0 ?_;iterate 5 refine j2b hS0 ?_
 obtain⟨V2,hV2⟩:=qE (((W1.alloc (.cells #[.nilFunc] 58)).alloc (.cells #[.nilFunc] 58)).drew:World);have HV2:Hid (yA V2 0 58 1 (w.heap.size+1) [.nilFunc]∧yA V2 0 58 1 (w.heap.size+1+1) [.nilFunc]∧Below w.heap.size w V2∧Below w.heap.size w (W1.alloc (.cells #[.nilFunc] 58)).drew):=by
  have b1:=yAa W1 (base:=0) (t:=58) (sz:=1) #[.nilFunc] (Nat.zero_le _) rfl;obtain⟨X1,hX1⟩:∃X,X=W1.alloc (.cells #[.nilFunc] 58):=⟨_,rfl⟩;have k1:Below W1.heap.size W1 X1:=by rw[hX1];exact qB
  have zx:X1.heap.size=w.heap.size+1+1:=by rw[hX1];simp[z1]
  rw[←hX1]at b1 hV2⊢;have b2:=yAa X1 (base:=0) (t:=58) (sz:=1) #[.nilFunc] (Nat.zero_le _) rfl;have k2:Below X1.heap.size X1 V2:=by rw[hV2];exact(qB).drew
  rw[z1]at b1;rw[zx]at b2;have kw:Below w.heap.size w W1:=⟨HZ.1.os,HZ.1.tape,HZ.1.output,HZ.1.size,HZ.1.block⟩;have kx:Below w.heap.size w X1:=kw.trans (k1.mono (by omega));refine⟨b1.below k2,?_,kx.trans (k2.mono (by omega)),kx.drew⟩;rw[hV2];exact b2.below ((Below.refl _ _).drew)
 refine yEb (i:=6) (j:=7) (by kernel_rfl) rfl rfl (fun K hK=>?_) (fun K hK=>?_)
 ·go_simp;refine hK.out _ _ (.inr (HSb.out _ HV2.2.2.2)) ?_;clear hK;refine jS ?_;refine qO 7 rfl fun K hK=>?_;go_simp;rw[←hV2];refine hK.out _ _ (.inr (HSb.out _ HV2.2.2.1)) ?_;clear hK hV2;refine jS ?_;have x5:=HV2.1.cell (j:=0) rfl;have y5:=HV2.1.frozen 0;obtain⟨V3,hV3⟩:=qE (V2.setCell ⟨w.heap.size+1,0,none⟩ (.func (Fn.func fka) #[] fca):World);have HV3:Hid (yA V3 0 58 1 (w.heap.size+1) [(.func (Fn.func fka) #[] fca)]∧yA V3 0 58 1 (w.heap.size+1+1) [.nilFunc]∧Below w.heap.size w V3):=by rw[hV3];exact⟨HV2.1.set 0 _,HV2.2.1.beside (by omega) 0 _,yAc HV2.2.2.1 (by omega) _ _⟩
  refine qO 8 rfl fun K hK=>?_;go_simp;rw[←hV3];refine hK.out _ _ (.inr (HSb.out _ HV3.2.2)) ?_;clear hK hV3 x5 y5;refine jS ?_;have x6:=HV3.2.1.cell (j:=0) rfl;have y6:=HV3.2.1.frozen 0;obtain⟨V4,hV4⟩:=qE (V3.setCell ⟨w.heap.size+1+1,0,none⟩ (.func (Fn.func fkb) #[] fcb):World);have HV4:Hid (yA V4 0 58 1 (w.heap.size+1) [(.func (Fn.func fka) #[] fca)]∧yA V4 0 58 1 (w.heap.size+1+1) [(.func (Fn.func fkb) #[] fcb)]∧Below w.heap.size w V4):=by rw[hV4];exact⟨HV3.1.beside (by omega) 0 _,HV3.2.1.set 0 _,yAc HV3.2.2 (by omega) _ _⟩
  refine qO 9 rfl fun K hK=>?_;go_simp;rw[←hV4];refine hK.out _ _ (.inr (HSb.out _ HV4.2.2)) ?_;clear hK hV4 x6 y6;refine jS ?_;refine qD ?_;have HE:Hid (SoP (.chain n ta tb) (fun k=>A k∨B k) w (.returned (fvC (62,#[ptrC (w.heap.size+1+1),ptrC (w.heap.size+1)]))) V4):=HF.out V4 _ _ HV4.1 HV4.2.1 HV4.2.2 (by omega) (by omega);go_wp2_with fail;go_ret;exact HE.out
 ·go_simp;refine hK.out _ _ (.inr (HSb.out _ HV2.2.2.2)) ?_;clear hK;refine jS ?_;refine qO 6 rfl fun K hK=>?_;go_simp;rw[←hV2];refine hK.out _ _ (.inr (HSb.out _ HV2.2.2.1)) ?_;clear hK hV2;refine jS ?_;have x5:=HV2.2.1.cell (j:=0) rfl;have y5:=HV2.2.1.frozen 0;obtain⟨V3,hV3⟩:=qE (V2.setCell ⟨w.heap.size+1+1,0,none⟩ (.func (Fn.func fka) #[] fca):World);have HV3:Hid (yA V3 0 58 1 (w.heap.size+1+1) [(.func (Fn.func fka) #[] fca)]∧yA V3 0 58 1 (w.heap.size+1) [.nilFunc]∧Below w.heap.size w V3):=by rw[hV3];exact⟨HV2.2.1.set 0 _,HV2.1.beside (by omega) 0 _,yAc HV2.2.2.1 (by omega) _ _⟩
  refine qO 8 rfl fun K hK=>?_;go_simp;rw[←hV3];refine hK.out _ _ (.inr (HSb.out _ HV3.2.2)) ?_;clear hK hV3 x5 y5;refine jS ?_;have x6:=HV3.2.1.cell (j:=0) rfl;have y6:=HV3.2.1.frozen 0;obtain⟨V4,hV4⟩:=qE (V3.setCell ⟨w.heap.size+1,0,none⟩ (.func (Fn.func fkb) #[] fcb):World);have HV4:Hid (yA V4 0 58 1 (w.heap.size+1+1) [(.func (Fn.func fka) #[] fca)]∧yA V4 0 58 1 (w.heap.size+1) [(.func (Fn.func fkb) #[] fcb)]∧Below w.heap.size w V4):=by rw[hV4];exact⟨HV3.1.beside (by omega) 0 _,HV3.2.1.set 0 _,yAc HV3.2.2 (by omega) _ _⟩
  refine qO 9 rfl fun K hK=>?_;go_simp;rw[←hV4];refine hK.out _ _ (.inr (HSb.out _ HV4.2.2)) ?_;clear hK hV4 x6 y6;refine jS ?_;refine qD ?_;have HE:Hid (SoP (.chain n ta tb) (fun k=>A k∨B k) w (.returned (fvC (62,#[ptrC (w.heap.size+1),ptrC (w.heap.size+1+1)]))) V4):=HF.out V4 _ _ HV4.1 HV4.2.1 HV4.2.2 (by omega) (by omega);go_wp2_with fail;go_ret;exact HE.out
theorem yTj (n:Nd) (hk:n.kind=15) (b off cx:Nat) (fa fb:Nat×Array Value) (ta tb:CT) (A B:Nat→Prop) (w:World) (h0:w.cell? ⟨b,off,none⟩=some (fvC fa)) (h1:w.cell? ⟨b,off+1,none⟩=some (fvC fb)) (hb:b<w.heap.size) (hA:yA3 w ta A (fvC fa)) (hB:yA3 w tb B (fvC fb)) (hd:∀k,A k→¬B k) (hla:∀k,A k→k<w.heap.size) (hlb:∀k,B k→k<w.heap.size):Calls Tryz.prog 31 #[n.v,.slice (some ⟨b,off,none⟩) 2 cx] w (SoP (.inter n ta tb) (fun k=>A k∨B k) w):=by
 obtain⟨W1,hW1⟩:=qE (w.alloc (.cells #[.int .i64 n.kind,.string n.s,.bool n.hi,.string n.t,.int .u64 n.lo,.int .u64 n.up,.int .i64 n.n] 75):World);have z1:W1.heap.size=w.heap.size+1:=by rw[hW1];simp
 have k1:Below w.heap.size w W1:=by rw[hW1];exact qB
 have n0:W1.cell? ⟨w.heap.size,0,none⟩=some (.int .i64 n.kind):=by rw[hW1];simp
 have hS0:(fun w':World=>w'.cell? ⟨b,off,none⟩=some (fvC fa)∧w'.cell? ⟨b,off+1,none⟩=some (fvC fb)) W1.drew:=⟨by show W1.cell? _=_;rw[(Chg.of_below k1 (S:=fun _=>False)).cell (p:=⟨b,off,none⟩) hb (fun q=>q)];exact h0,by show W1.cell? _=_;rw[(Chg.of_below k1 (S:=fun _=>False)).cell (p:=⟨b,off+1,none⟩) hb (fun q=>q)];exact h1⟩;have kd:Below w.heap.size w W1.drew:=k1.drew;have HSb:Hid (∀X:World,Below w.heap.size w X→X.cell? ⟨b,off,none⟩=some (fvC fa)∧X.cell? ⟨b,off+1,none⟩=some (fvC fb)):=fun X hX=>⟨by rw[hX.cell (p:=⟨b,off,none⟩) hb];exact h0,by rw[hX.cell (p:=⟨b,off+1,none⟩) hb];exact h1⟩;have HF:Hid (∀(Y:World) (pa pb:Nat),yA Y 0 58 1 pa [fvC fa]→yA Y 0 58 1 pb [fvC fb]→Below w.heap.size w Y→w.heap.size≤pa→w.heap.size≤pb→SoP (.inter n ta tb) (fun k=>A k∨B k) w (.returned (fvC (63,#[ptrC pa,ptrC pb]))) Y):=fun Y pa pb hpa hpb hY ga gb=>by
  refine⟨_,rfl,fun k=>(A k∨B k)∨k=pa∨k=pb,⟨A,B,pa,pb,fa.1,fa.2,fb.1,fb.2,⟨fun k z=>.inl (.inl z),fun k z=>.inl (.inr z),hd⟩,⟨.inr (.inl rfl),fun z=>by have:=hla _ z;omega⟩,⟨.inr (.inl rfl),fun z=>by have:=hlb _ z;omega⟩,⟨.inr (.inr rfl),fun z=>by have:=hla _ z;omega⟩,⟨.inr (.inr rfl),fun z=>by have:=hlb _ z;omega⟩,rfl,hpa,hpb,hA.below hY,hB.below hY⟩,fun k z=>?_,hY⟩;rcases z with z|z|z
  ·exact .inl z
  ·exact .inr ⟨by omega,by have:=hpa.lt.2;omega⟩
  ·exact .inr ⟨by omega,by have:=hpb.lt.2;omega⟩
 have HZ:Hid (Below w.heap.size w W1.drew∧W1.drew.heap.size=w.heap.size+1):=⟨kd,z1⟩;have zk:(n.kind==15)=true:=by rw[beq_iff_eq];exact hk
 have zk14:(n.kind==14)=false:=by rw[beq_eq_false_iff_ne];omega
 clear hA hB hd hla hlb h0 h1 hb k1 kd hk;obtain⟨fka,fca⟩:=fa;obtain⟨fkb,fcb⟩:=fb;go_enter Tryz.func31,Tryz.ntmps31;go_upto_region 1 with fail;rw[←hW1];clear hW1;go_upto_region 6 with fail;refine yAb 99 (fun w':World=>w'.cell? ⟨b,off,none⟩=some (.func (Fn.func fka) #[] fca)∧w'.cell? ⟨b,off+1,none⟩=some (.func (Fn.func fkb) #[] fcb)) (by kernel_rfl) ?_;refine j2a 0 hS0 ?_;iterate 5 refine j2b hS0 ?_
 obtain⟨V2,hV2⟩:=qE (((W1.alloc (.cells #[.nilFunc] 58)).alloc (.cells #[.nilFunc] 58)).drew:World);have HV2:Hid (yA V2 0 58 1 (w.heap.size+1) [.nilFunc]∧yA V2 0 58 1 (w.heap.size+1+1) [.nilFunc]∧Below w.heap.size w V2∧Below w.heap.size w (W1.alloc (.cells #[.nilFunc] 58)).drew):=by
  have b1:=yAa W1 (base:=0) (t:=58) (sz:=1) #[.nilFunc] (Nat.zero_le _) rfl;obtain⟨X1,hX1⟩:∃X,X=W1.alloc (.cells #[.nilFunc] 58):=⟨_,rfl⟩;have k1:Below W1.heap.size W1 X1:=by rw[hX1];exact qB
  have zx:X1.heap.size=w.heap.size+1+1:=by rw[hX1];simp[z1]
  rw[←hX1]at b1 hV2⊢;have b2:=yAa X1 (base:=0) (t:=58) (sz:=1) #[.nilFunc] (Nat.zero_le _) rfl;have k2:Below X1.heap.size X1 V2:=by rw[hV2];exact(qB).drew
  rw[z1]at b1;rw[zx]at b2;have kw:Below w.heap.size w W1:=⟨HZ.1.os,HZ.1.tape,HZ.1.output,HZ.1.size,HZ.1.block⟩;have kx:Below w.heap.size w X1:=kw.trans (k1.mono (by omega));refine⟨b1.below k2,?_,kx.trans (k2.mono (by omega)),kx.drew⟩;rw[hV2];exact b2.below ((Below.refl _ _).drew)
 refine yEb (i:=6) (j:=7) (by kernel_rfl) rfl rfl (fun K hK=>?_) (fun K hK=>?_)
 ·go_simp;refine hK.out _ _ (.inr (HSb.out _ HV2.2.2.2)) ?_;clear hK;refine jS ?_;refine qO 7 rfl fun K hK=>?_;go_simp;rw[←hV2];refine hK.out _ _ (.inr (HSb.out _ HV2.2.2.1)) ?_;clear hK hV2;refine jS ?_;have x5:=HV2.1.cell (j:=0) rfl;have y5:=HV2.1.frozen 0;obtain⟨V3,hV3⟩:=qE (V2.setCell ⟨w.heap.size+1,0,none⟩ (.func (Fn.func fka) #[] fca):World);have HV3:Hid (yA V3 0 58 1 (w.heap.size+1) [(.func (Fn.func fka) #[] fca)]∧yA V3 0 58 1 (w.heap.size+1+1) [.nilFunc]∧Below w.heap.size w V3):=by rw[hV3];exact⟨HV2.1.set 0 _,HV2.2.1.beside (by omega) 0 _,yAc HV2.2.2.1 (by omega) _ _⟩
  refine qO 8 rfl fun K hK=>?_;go_simp;rw[←hV3];refine hK.out _ _ (.inr (HSb.out _ HV3.2.2)) ?_;clear hK hV3 x5 y5;refine jS ?_;have x6:=HV3.2.1.cell (j:=0) rfl;have y6:=HV3.2.1.frozen 0;obtain⟨V4,hV4⟩:=qE (V3.setCell ⟨w.heap.size+1+1,0,none⟩ (.func (Fn.func fkb) #[] fcb):World);have HV4:Hid (yA V4 0 58 1 (w.heap.size+1) [(.func (Fn.func fka) #[] fca)]∧yA V4 0 58 1 (w.heap.size+1+1) [(.func (Fn.func fkb) #[] fcb)]∧Below w.heap.size w V4):=by rw[hV4];exact⟨HV3.1.beside (by omega) 0 _,HV3.2.1.set 0 _,yAc HV3.2.2 (by omega) _ _⟩
  refine qO 9 rfl fun K hK=>?_;go_simp;rw[←hV4];refine hK.out _ _ (.inr (HSb.out _ HV4.2.2)) ?_;clear hK hV4 x6 y6;refine jS ?_;refine qD ?_;have HE:Hid (SoP (.inter n ta tb) (fun k=>A k∨B k) w (.returned (fvC (63,#[ptrC (w.heap.size+1),ptrC (w.heap.size+1+1)]))) V4):=HF.out V4 _ _ HV4.1 HV4.2.1 HV4.2.2 (by omega) (by omega);go_wp2_with fail;go_ret;exact HE.out
 ·go_simp;refine hK.out _ _ (.inr (HSb.out _ HV2.2.2.2)) ?_;clear hK;refine jS ?_;refine qO 6 rfl fun K hK=>?_;go_simp;rw[←hV2];refine hK.out _ _ (.inr (HSb.out _ HV2.2.2.1)) ?_;clear hK hV2;refine jS ?_;have x5:=HV2.2.1.cell (j:=0) rfl;have y5:=HV2.2.1.frozen 0;obtain⟨V3,hV3⟩:=qE (V2.setCell ⟨w.heap.size+1+1,0,none⟩ (.func (Fn.func fka) #[] fca):World);have HV3:Hid (yA V3 0 58 1 (w.heap.size+1+1) [(.func (Fn.func fka) #[] fca)]∧yA V3 0 58 1 (w.heap.size+1) [.nilFunc]∧Below w.heap.size w V3):=by rw[hV3];exact⟨HV2.2.1.set 0 _,HV2.1.beside (by omega) 0 _,yAc HV2.2.2.1 (by omega) _ _⟩
  refine qO 8 rfl fun K hK=>?_;go_simp;rw[←hV3];refine hK.out _ _ (.inr (HSb.out _ HV3.2.2)) ?_;clear hK hV3 x5 y5;refine jS ?_;have x6:=HV3.2.1.cell (j:=0) rfl;have y6:=HV3.2.1.frozen 0;obtain⟨V4,hV4⟩:=qE (V3.setCell ⟨w.heap.size+1,0,none⟩ (.func (Fn.func fkb) #[] fcb):World);have HV4:Hid (yA V4 0 58 1 (w.heap.size+1+1) [(.func (Fn.func fka) #[] fca)]∧yA V4 0 58 1 (w.heap.size+1) [(.func (Fn.func fkb) #[] fcb)]∧Below w.heap.size w V4):=by rw[hV4];exact⟨HV3.1.beside (by omega) 0 _,HV3.2.1.set 0 _,yAc HV3.2.2 (by omega) _ _⟩
  refine qO 9 rfl fun K hK=>?_;go_simp;rw[←hV4];refine hK.out _ _ (.inr (HSb.out _ HV4.2.2)) ?_;clear hK hV4 x6 y6;refine jS ?_;refine qD ?_;have HE:Hid (SoP (.inter n ta tb) (fun k=>A k∨B k) w (.returned (fvC (63,#[ptrC (w.heap.size+1+1),ptrC (w.heap.size+1)]))) V4):=HF.out V4 _ _ HV4.1 HV4.2.1 HV4.2.2 (by omega) (by omega);go_wp2_with fail;go_ret;exact HE.out
def BrP (fp fa fb:Nat×Array Value) (w:World) (e:Ending) (w':World):Prop:=e=.returned (fvC (102,#[ptrC w.heap.size,ptrC (w.heap.size+1),ptrC (w.heap.size+1+1)]))∧Hid (yA w' 0 58 1 w.heap.size [fvC fp]∧yA w' 0 58 1 (w.heap.size+1) [fvC fa]∧yA w' 0 58 1 (w.heap.size+1+1) [fvC fb]∧Below w.heap.size w w')
theorem yKj (fp fa fb:Nat×Array Value) (w:World):Calls Tryz.prog 65 #[fvC fp,fvC fa,fvC fb] w (BrP fp fa fb w):=by
 obtain⟨W3,hW3⟩:=qE (((w.alloc (.cells #[fvC fp] 58)).alloc (.cells #[fvC fa] 58)).alloc (.cells #[fvC fb] 58):World);have HE:Hid (BrP fp fa fb w (.returned (fvC (102,#[ptrC w.heap.size,ptrC (w.heap.size+1),ptrC (w.heap.size+1+1)]))) W3):=by
  refine⟨rfl,?_⟩;have b1:=yAa w (base:=0) (t:=58) (sz:=1) #[fvC fp] (Nat.zero_le _) rfl;obtain⟨X1,hX1⟩:∃X,X=w.alloc (.cells #[fvC fp] 58):=⟨_,rfl⟩;have z1:X1.heap.size=w.heap.size+1:=by rw[hX1];simp
  have k1:Below w.heap.size w X1:=by rw[hX1];exact qB
  rw[←hX1]at b1 hW3;have b2:=yAa X1 (base:=0) (t:=58) (sz:=1) #[fvC fa] (Nat.zero_le _) rfl;obtain⟨X2,hX2⟩:∃X,X=X1.alloc (.cells #[fvC fa] 58):=⟨_,rfl⟩;have z2:X2.heap.size=w.heap.size+1+1:=by rw[hX2];simp[z1]
  have k2:Below X1.heap.size X1 X2:=by rw[hX2];exact qB
  rw[←hX2]at b2 hW3;have b3:=yAa X2 (base:=0) (t:=58) (sz:=1) #[fvC fb] (Nat.zero_le _) rfl;have k3:Below X2.heap.size X2 W3:=by rw[hW3];exact qB
  rw[←hW3,z2]at b3;rw[z1]at b2;exact⟨(b1.below k2).below k3,b2.below k3,b3,(k1.trans (k2.mono (by omega))).trans (k3.mono (by omega))⟩
 obtain⟨fkp,fcp⟩:=fp;obtain⟨fka,fca⟩:=fa;obtain⟨fkb,fcb⟩:=fb;go_enter Tryz.func65,Tryz.ntmps65;go_wp2_with fail;rw[←hW3];go_ret;exact HE.out
theorem yWe (n:Nd) (hk:n.kind=16) (b off cx:Nat) (fp fa fb:Nat×Array Value) (tp ta tb:CT) (P A B:Nat→Prop) (w:World) (h0:w.cell? ⟨b,off,none⟩=some (fvC fp)) (h1:w.cell? ⟨b,off+1,none⟩=some (fvC fa)) (h2:w.cell? ⟨b,off+2,none⟩=some (fvC fb)) (hb:b<w.heap.size) (hP:yA3 w tp P (fvC fp)) (hA:yA3 w ta A (fvC fa)) (hB:yA3 w tb B (fvC fb)) (hd1:∀k,P k→¬A k) (hd2:∀k,P k→¬B k) (hd3:∀k,A k→¬B k) (hlp:∀k,P k→k<w.heap.size) (hla:∀k,A k→k<w.heap.size) (hlb:∀k,B k→k<w.heap.size):Calls Tryz.prog 31 #[n.v,.slice (some ⟨b,off,none⟩) 3 cx] w (SoP (.cond n tp ta tb) (fun k=>P k∨A k∨B k) w):=by
 obtain⟨W1,hW1⟩:=qE (w.alloc (.cells #[.int .i64 n.kind,.string n.s,.bool n.hi,.string n.t,.int .u64 n.lo,.int .u64 n.up,.int .i64 n.n] 75):World);have z1:W1.heap.size=w.heap.size+1:=by rw[hW1];simp
 have k1:Below w.heap.size w W1:=by rw[hW1];exact qB
 have n0:W1.cell? ⟨w.heap.size,0,none⟩=some (.int .i64 n.kind):=by rw[hW1];simp
 have HSb:Hid (∀X:World,Below w.heap.size w X→X.cell? ⟨b,off,none⟩=some (fvC fp)∧X.cell? ⟨b,off+1,none⟩=some (fvC fa)∧X.cell? ⟨b,off+2,none⟩=some (fvC fb)):=fun X hX=>⟨by rw[hX.cell (p:=⟨b,off,none⟩) hb];exact h0,by rw[hX.cell (p:=⟨b,off+1,none⟩) hb];exact h1,by rw[hX.cell (p:=⟨b,off+2,none⟩) hb];exact h2⟩;have HZ:Hid (Below w.heap.size w W1.drew∧W1.drew.heap.size=w.heap.size+1):=⟨k1.drew,z1⟩;have HF:Hid (∀(Y:World),BrP fp fa fb W1.drew (.returned (fvC (102,#[ptrC W1.heap.size,ptrC (W1.heap.size+1),ptrC (W1.heap.size+1+1)]))) Y→SoP (.cond n tp ta tb) (fun k=>P k∨A k∨B k) w (.returned (fvC (102,#[ptrC W1.heap.size,ptrC (W1.heap.size+1),ptrC (W1.heap.size+1+1)]))) Y):=fun Y hY=>by
  obtain⟨_,H⟩:=hY;have hp:=H.1;have hpa:=H.2.1;have hpb:=H.2.2.1;have kY:=HZ.1.trans (H.2.2.2.mono HZ.1.size);have zz:W1.drew.heap.size=w.heap.size+1:=z1;refine⟨_,rfl,fun k=>(P k∨A k∨B k)∨k=W1.heap.size∨k=W1.heap.size+1∨k=W1.heap.size+1+1,⟨P,A,B,W1.heap.size,W1.heap.size+1,W1.heap.size+1+1,fp.1,fp.2,fa.1,fa.2,fb.1,fb.2,⟨⟨fun k z=>.inl (.inl z),fun k z=>.inl (.inr (.inl z)),hd1⟩,⟨fun k z=>.inl (.inl z),fun k z=>.inl (.inr (.inr z)),hd2⟩,⟨fun k z=>.inl (.inr (.inl z)),fun k z=>.inl (.inr (.inr z)),hd3⟩⟩,⟨⟨.inr (.inl rfl),fun z=>by have:=hlp _ z;omega⟩,⟨.inr (.inl rfl),fun z=>by have:=hla _ z;omega⟩,⟨.inr (.inl rfl),fun z=>by have:=hlb _ z;omega⟩⟩,⟨⟨.inr (.inr (.inl rfl)),fun z=>by have:=hlp _ z;omega⟩,⟨.inr (.inr (.inl rfl)),fun z=>by have:=hla _ z;omega⟩,⟨.inr (.inr (.inl rfl)),fun z=>by have:=hlb _ z;omega⟩⟩,⟨⟨.inr (.inr (.inr rfl)),fun z=>by have:=hlp _ z;omega⟩,⟨.inr (.inr (.inr rfl)),fun z=>by have:=hla _ z;omega⟩,⟨.inr (.inr (.inr rfl)),fun z=>by have:=hlb _ z;omega⟩⟩,rfl,hp,hpa,hpb,hP.below kY,hA.below kY,hB.below kY⟩,fun k z=>?_,kY⟩;have l1:=hpb.lt.2;have e3:W1.drew.heap.size=W1.heap.size:=rfl;rw[e3]at l1;rcases z with z|z|z|z
  ·exact .inl z
  ·exact .inr ⟨by omega,by omega⟩
  ·exact .inr ⟨by omega,by omega⟩
  ·exact .inr ⟨by omega,by omega⟩
 have HBr:Hid (Calls Tryz.prog 65 #[fvC fp,fvC fa,fvC fb] W1.drew (BrP fp fa fb W1.drew)):=yKj fp fa fb W1.drew;have zk:(n.kind==16)=true:=by rw[beq_iff_eq];exact hk
 have zk14:(n.kind==14)=false:=by rw[beq_eq_false_iff_ne];omega
 have zk15:(n.kind==15)=false:=by rw[beq_eq_false_iff_ne];omega
 have hS0:=HSb.out W1.drew HZ.1;clear hP hA hB hd1 hd2 hd3 hlp hla hlb h0 h1 h2 hb k1 hk z1;obtain⟨fkp,fcp⟩:=fp;obtain⟨fka,fca⟩:=fa;obtain⟨fkb,fcb⟩:=fb;go_enter Tryz.func31,Tryz.ntmps31;go_upto_region 1 with fail;rw[←hW1];clear hW1;go_upto_region 9 with fail;refine yAb 99 (fun w':World=>w'.cell? ⟨b,off,none⟩=some (.func (Fn.func fkp) #[] fcp)∧w'.cell? ⟨b,off+1,none⟩=some (.func (Fn.func fka) #[] fca)∧w'.cell? ⟨b,off+2,none⟩=some (.func (Fn.func fkb) #[] fcb)) (by kernel_rfl) ?_;refine j5a 0 hS0 ?_;iterate 8 refine j5b hS0 ?_
 refine qO 9 rfl fun K hK=>?_;go_simp;refine HBr.mono ?_;rintro e w3 ⟨rfl,H3⟩;have hS3:=HSb.out w3 (HZ.1.trans (H3.2.2.2.mono HZ.1.size));have HE:Hid (SoP (.cond n tp ta tb) (fun k=>P k∨A k∨B k) w (.returned (fvC (102,#[ptrC W1.heap.size,ptrC (W1.heap.size+1),ptrC (W1.heap.size+1+1)]))) w3):=HF.out w3 ⟨rfl,H3⟩;refine hK.out _ _ (.inr hS3) ?_;clear hK;refine jS ?_;refine j5a 10 hS3 ?_;refine qD ?_;go_wp2_with fail;go_ret;exact HE.out
end
theorem yBq:(⟨#[]⟩:ByteArray).toList= []:=by first|(simp;done)|(kernel_rfl;done)|(go_simp;done)
theorem yZt:Op.bytesLess [] []=false:=by first|(kernel_rfl;done)|(decide;done)|(simp[Op.bytesLess];done)
theorem yCb (k:Int) (s:ByteArray) (h:Bool) (t:ByteArray) (l u n k':Int) (s':ByteArray) (h':Bool) (t':ByteArray) (l' u' n':Int) (B:Bool) (hB:B=decide (k=k'∧s.toList=s'.toList∧h=h'∧t.toList=t'.toList∧l=l'∧u=u'∧n=n')) (wx:World):
  (binOp .eql 75 (.agg #[.int .i64 k,.string s,.bool h,.string t,.int .u64 l,.int .u64 u,.int .i64 n]) (.agg #[.int .i64 k',.string s',.bool h',.string t',.int .u64 l',.int .u64 u',.int .i64 n'])).run Tryz.prog wx=.ok (.bool B) wx:=by
 rw[hB];exact yWy k s h t l u n k' s' h' t' l' u' n' wx
theorem yKt (e:Nd) (w:World) (hs:e.s.size≤maxLen) (ht:e.t.size≤maxLen):Calls Tryz.prog 99 #[e.v] w (yX8 e w):=by
 obtain⟨kind,s,hi,t,lo,up,n⟩:=e;have HS:Hid (s.size≤maxLen):=hs;unfold maxLen at hs ht;simp only[]at hs ht;obtain⟨W0,hW0⟩:=qE (w.alloc (Obj.cells #[.int .i64 kind,.string s,.bool hi,.string t,.int .u64 lo,.int .u64 up,.int .i64 n] 75):World);have HW0:Hid (yA W0 w.heap.size 75 7 w.heap.size [.int .i64 kind,.string s,.bool hi,.string t,.int .u64 lo,.int .u64 up,.int .i64 n]∧Below w.heap.size w W0):=by rw[hW0];exact⟨yAa w _ (Nat.le_refl _) rfl,qB⟩
 have hbw:=HW0.2.size;obtain⟨c0,c1,c2,c3,c4,c5,c6⟩:=HW0.1.c7;go_enter Tryz.func99,Tryz.ntmps99;go_upto_region 1 with fail;rw[←hW0];clear hW0;by_cases hgood:s.size≤200∧t.size≤200;case neg=>
  have HG:Hid (¬yAe ⟨kind,s,hi,t,lo,up,n⟩):=fun q=>hgood ⟨q.1,q.2.1⟩;by_cases h1:s.size≤200
  ·have z1:¬(200:Int)<(s.size:Int):=by omega
   have h2:¬t.size≤200:=fun q=>hgood ⟨h1,q⟩;have z2:(200:Int)<(t.size:Int):=by omega
   exact yRo
  ·have z1:(200:Int)<(s.size:Int):=by omega
   exact yRo
 have HG:Hid (s.size≤200∧t.size≤200):=hgood;have z1:¬(200:Int)<(s.size:Int):=by omega
 have z2:¬(200:Int)<(t.size:Int):=by omega
 clear hgood hs ht;obtain⟨c,hc⟩:=qE ((yAr (sb s)).1);obtain⟨k,hk⟩:=qE (((yAr (sb s)).2:Int):Int);have HV:Hid (c=(yAr (sb s)).1):=hc;have HC:Hid (∀w,Calls Tryz.prog 126 #[.string s] w fun e w'=>e=.returned (.agg #[.int .i64 c,.int .i64 k])∧Below w.heap.size w w'):=fun w=>by rw[hc,hk];exact yK1 s w HS.out
 clear hc hk;by_cases k1:kind=1
 ·subst k1;obtain⟨B,hB⟩:=qE (decide ((1:Int)=1∧s.toList=(⟨#[]⟩:ByteArray).toList∧hi=false∧t.toList=(⟨#[]⟩:ByteArray).toList∧lo=0∧up=0∧n=0));have hq:=yCb 1 s hi t lo up n 1 ⟨#[]⟩ false ⟨#[]⟩ 0 0 0 B hB;have HB:Hid (B=true↔(1:Int)=1∧s.toList=(⟨#[]⟩:ByteArray).toList∧hi=false∧t.toList=(⟨#[]⟩:ByteArray).toList∧lo=0∧up=0∧n=0):=by rw[hB];show decide _=true↔_;simp only[decide_eq_true_eq]
  clear hB;have HF:Hid (B=true↔yAe ⟨1,s,hi,t,lo,up,n⟩):=by
   show B=true↔yAe _;have hB:=HB.out;have hG:=HG.out;have hE:=yBq;try simp only[hE]at hB
   rw[hB];simp[yAe];constructor
   ·rintro⟨q1,q2,q3,q4,q5,q6⟩;simp_all
   ·rintro⟨q1,q2,q3,q4⟩;simp_all
  go_wp2_with fail;go_ret;exact⟨_,rfl,HF.out,HW0.2⟩
 by_cases k2:kind=2
 ·subst k2;obtain⟨B,hB⟩:=qE (decide ((2:Int)=2∧s.toList=(⟨#[]⟩:ByteArray).toList∧hi=false∧t.toList=(⟨#[]⟩:ByteArray).toList∧lo=0∧up=0∧n=0));have hq:=yCb 2 s hi t lo up n 2 ⟨#[]⟩ false ⟨#[]⟩ 0 0 0 B hB;have HB:Hid (B=true↔(2:Int)=2∧s.toList=(⟨#[]⟩:ByteArray).toList∧hi=false∧t.toList=(⟨#[]⟩:ByteArray).toList∧lo=0∧up=0∧n=0):=by rw[hB];show decide _=true↔_;simp only[decide_eq_true_eq]
  clear hB;have HF:Hid (B=true↔yAe ⟨2,s,hi,t,lo,up,n⟩):=by
   show B=true↔yAe _;have hB:=HB.out;have hG:=HG.out;have hE:=yBq;try simp only[hE]at hB
   rw[hB];simp[yAe];constructor
   ·rintro⟨q1,q2,q3,q4,q5,q6⟩;simp_all
   ·rintro⟨q1,q2,q3,q4⟩;simp_all
  go_wp2_with fail;go_ret;exact⟨_,rfl,HF.out,HW0.2⟩
 by_cases k3:kind=3
 ·subst k3;obtain⟨B,hB⟩:=qE (decide ((3:Int)=3∧s.toList=(⟨#[]⟩:ByteArray).toList∧hi=false∧t.toList=(⟨#[]⟩:ByteArray).toList∧lo=0∧up=0∧n=0));have hq:=yCb 3 s hi t lo up n 3 ⟨#[]⟩ false ⟨#[]⟩ 0 0 0 B hB;have HB:Hid (B=true↔(3:Int)=3∧s.toList=(⟨#[]⟩:ByteArray).toList∧hi=false∧t.toList=(⟨#[]⟩:ByteArray).toList∧lo=0∧up=0∧n=0):=by rw[hB];show decide _=true↔_;simp only[decide_eq_true_eq]
  clear hB;have HF:Hid (B=true↔yAe ⟨3,s,hi,t,lo,up,n⟩):=by
   show B=true↔yAe _;have hB:=HB.out;have hG:=HG.out;have hE:=yBq;try simp only[hE]at hB
   rw[hB];simp[yAe];constructor
   ·rintro⟨q1,q2,q3,q4,q5,q6⟩;simp_all
   ·rintro⟨q1,q2,q3,q4⟩;simp_all
  go_wp2_with fail;go_ret;exact⟨_,rfl,HF.out,HW0.2⟩
 by_cases k14:kind=14
 ·subst k14;obtain⟨B,hB⟩:=qE (decide ((14:Int)=14∧s.toList=(⟨#[]⟩:ByteArray).toList∧hi=false∧t.toList=(⟨#[]⟩:ByteArray).toList∧lo=0∧up=0∧n=0));have hq:=yCb 14 s hi t lo up n 14 ⟨#[]⟩ false ⟨#[]⟩ 0 0 0 B hB;have HB:Hid (B=true↔(14:Int)=14∧s.toList=(⟨#[]⟩:ByteArray).toList∧hi=false∧t.toList=(⟨#[]⟩:ByteArray).toList∧lo=0∧up=0∧n=0):=by rw[hB];show decide _=true↔_;simp only[decide_eq_true_eq]
  clear hB;have HF:Hid (B=true↔yAe ⟨14,s,hi,t,lo,up,n⟩):=by
   show B=true↔yAe _;have hB:=HB.out;have hG:=HG.out;have hE:=yBq;try simp only[hE]at hB
   rw[hB];simp[yAe];constructor
   ·rintro⟨q1,q2,q3,q4,q5,q6⟩;simp_all
   ·rintro⟨q1,q2,q3,q4⟩;simp_all
  go_wp2_with fail;go_ret;exact⟨_,rfl,HF.out,HW0.2⟩
 by_cases k15:kind=15
 ·subst k15;obtain⟨B,hB⟩:=qE (decide ((15:Int)=15∧s.toList=(⟨#[]⟩:ByteArray).toList∧hi=false∧t.toList=(⟨#[]⟩:ByteArray).toList∧lo=0∧up=0∧n=0));have hq:=yCb 15 s hi t lo up n 15 ⟨#[]⟩ false ⟨#[]⟩ 0 0 0 B hB;have HB:Hid (B=true↔(15:Int)=15∧s.toList=(⟨#[]⟩:ByteArray).toList∧hi=false∧t.toList=(⟨#[]⟩:ByteArray).toList∧lo=0∧up=0∧n=0):=by rw[hB];show decide _=true↔_;simp only[decide_eq_true_eq]
  clear hB;have HF:Hid (B=true↔yAe ⟨15,s,hi,t,lo,up,n⟩):=by
   show B=true↔yAe _;have hB:=HB.out;have hG:=HG.out;have hE:=yBq;try simp only[hE]at hB
   rw[hB];simp[yAe];constructor
   ·rintro⟨q1,q2,q3,q4,q5,q6⟩;simp_all
   ·rintro⟨q1,q2,q3,q4⟩;simp_all
  go_wp2_with fail;go_ret;exact⟨_,rfl,HF.out,HW0.2⟩
 by_cases k16:kind=16
 ·subst k16;obtain⟨B,hB⟩:=qE (decide ((16:Int)=16∧s.toList=(⟨#[]⟩:ByteArray).toList∧hi=false∧t.toList=(⟨#[]⟩:ByteArray).toList∧lo=0∧up=0∧n=0));have hq:=yCb 16 s hi t lo up n 16 ⟨#[]⟩ false ⟨#[]⟩ 0 0 0 B hB;have HB:Hid (B=true↔(16:Int)=16∧s.toList=(⟨#[]⟩:ByteArray).toList∧hi=false∧t.toList=(⟨#[]⟩:ByteArray).toList∧lo=0∧up=0∧n=0):=by rw[hB];show decide _=true↔_;simp only[decide_eq_true_eq]
  clear hB;have HF:Hid (B=true↔yAe ⟨16,s,hi,t,lo,up,n⟩):=by
   show B=true↔yAe _;have hB:=HB.out;have hG:=HG.out;have hE:=yBq;try simp only[hE]at hB
   rw[hB];simp[yAe];constructor
   ·rintro⟨q1,q2,q3,q4,q5,q6⟩;simp_all
   ·rintro⟨q1,q2,q3,q4⟩;simp_all
  go_wp2_with fail;go_ret;exact⟨_,rfl,HF.out,HW0.2⟩
 by_cases k4:kind=4
 ·subst k4;obtain⟨B,hB⟩:=qE (decide ((4:Int)=4∧s.toList=s.toList∧hi=false∧t.toList=(⟨#[]⟩:ByteArray).toList∧lo=0∧up=0∧n=0));have hq:=yCb 4 s hi t lo up n 4 s false ⟨#[]⟩ 0 0 0 B hB;have HB:Hid (B=true↔(4:Int)=4∧s.toList=s.toList∧hi=false∧t.toList=(⟨#[]⟩:ByteArray).toList∧lo=0∧up=0∧n=0):=by rw[hB];show decide _=true↔_;simp only[decide_eq_true_eq]
  clear hB;cases B
  ·have HF:Hid (¬yAe ⟨4,s,hi,t,lo,up,n⟩):=by
    show¬yAe _;have hB:=HB.out;have hE:=yBq;try simp only[hE]at hB
    intro q;simp[yAe]at q hB;simp_all
   go_wp2_with fail;go_ret;exact⟨_,rfl,by simp[HF.out],HW0.2⟩
  ·have HF:Hid (yAe ⟨4,s,hi,t,lo,up,n⟩↔c=0):=by
    show yAe _↔_;have hB:=HB.out;have hG:=HG.out;have hE:=yBq;try simp only[hE]at hB
    rw[HV.out];simp at hB;simp[yAe];simp_all
   exact yV1
 by_cases k5:kind=5
 ·subst k5;obtain⟨B,hB⟩:=qE (decide ((5:Int)=5∧s.toList=s.toList∧hi=false∧t.toList=(⟨#[]⟩:ByteArray).toList∧lo=0∧up=0∧n=0));have hq:=yCb 5 s hi t lo up n 5 s false ⟨#[]⟩ 0 0 0 B hB;have HB:Hid (B=true↔(5:Int)=5∧s.toList=s.toList∧hi=false∧t.toList=(⟨#[]⟩:ByteArray).toList∧lo=0∧up=0∧n=0):=by rw[hB];show decide _=true↔_;simp only[decide_eq_true_eq]
  clear hB;cases B
  ·have HF:Hid (¬yAe ⟨5,s,hi,t,lo,up,n⟩):=by
    show¬yAe _;have hB:=HB.out;have hE:=yBq;try simp only[hE]at hB
    intro q;simp[yAe]at q hB;simp_all
   go_wp2_with fail;go_ret;exact⟨_,rfl,by simp[HF.out],HW0.2⟩
  ·have HF:Hid (yAe ⟨5,s,hi,t,lo,up,n⟩↔c=0):=by
    show yAe _↔_;have hB:=HB.out;have hG:=HG.out;have hE:=yBq;try simp only[hE]at hB
    rw[HV.out];simp at hB;simp[yAe];simp_all
   exact yV1
 by_cases k6:kind=6
 ·subst k6;obtain⟨B,hB⟩:=qE (decide ((6:Int)=6∧s.toList=s.toList∧hi=false∧t.toList=(⟨#[]⟩:ByteArray).toList∧lo=0∧up=0∧n=0));have hq:=yCb 6 s hi t lo up n 6 s false ⟨#[]⟩ 0 0 0 B hB;have HB:Hid (B=true↔(6:Int)=6∧s.toList=s.toList∧hi=false∧t.toList=(⟨#[]⟩:ByteArray).toList∧lo=0∧up=0∧n=0):=by rw[hB];show decide _=true↔_;simp only[decide_eq_true_eq]
  clear hB;cases B
  ·have HF:Hid (¬yAe ⟨6,s,hi,t,lo,up,n⟩):=by
    show¬yAe _;have hB:=HB.out;have hE:=yBq;try simp only[hE]at hB
    intro q;simp[yAe]at q hB;simp_all
   go_wp2_with fail;go_ret;exact⟨_,rfl,by simp[HF.out],HW0.2⟩
  ·have HF:Hid (yAe ⟨6,s,hi,t,lo,up,n⟩↔c=0):=by
    show yAe _↔_;have hB:=HB.out;have hG:=HG.out;have hE:=yBq;try simp only[hE]at hB
    rw[HV.out];simp at hB;simp[yAe];simp_all
   exact yV1
 by_cases k7:kind=7
 ·subst k7;obtain⟨B,hB⟩:=qE (decide ((7:Int)=7∧s.toList=s.toList∧hi=false∧t.toList=(⟨#[]⟩:ByteArray).toList∧lo=0∧up=0∧n=0));have hq:=yCb 7 s hi t lo up n 7 s false ⟨#[]⟩ 0 0 0 B hB;have HB:Hid (B=true↔(7:Int)=7∧s.toList=s.toList∧hi=false∧t.toList=(⟨#[]⟩:ByteArray).toList∧lo=0∧up=0∧n=0):=by rw[hB];show decide _=true↔_;simp only[decide_eq_true_eq]
  clear hB;cases B
  ·have HF:Hid (¬yAe ⟨7,s,hi,t,lo,up,n⟩):=by
    show¬yAe _;have hB:=HB.out;have hE:=yBq;try simp only[hE]at hB
    intro q;simp[yAe]at q hB;simp_all
   go_wp2_with fail;go_ret;exact⟨_,rfl,by simp[HF.out],HW0.2⟩
  ·have HF:Hid (yAe ⟨7,s,hi,t,lo,up,n⟩↔c=0):=by
    show yAe _↔_;have hB:=HB.out;have hG:=HG.out;have hE:=yBq;try simp only[hE]at hB
    rw[HV.out];simp at hB;simp[yAe];simp_all
   exact yV1
 by_cases k8:kind=8
 ·subst k8;obtain⟨B,hB⟩:=qE (decide ((8:Int)=8∧s.toList=s.toList∧hi=hi∧t.toList=t.toList∧lo=0∧up=0∧n=0));have hq:=yCb 8 s hi t lo up n 8 s hi t 0 0 0 B hB;have HB:Hid (B=true↔(8:Int)=8∧s.toList=s.toList∧hi=hi∧t.toList=t.toList∧lo=0∧up=0∧n=0):=by rw[hB];show decide _=true↔_;simp only[decide_eq_true_eq]
  clear hB;cases B
  ·have HF:Hid (¬yAe ⟨8,s,hi,t,lo,up,n⟩):=by
    show¬yAe _;have hB:=HB.out;have hE:=yBq;try simp only[hE]at hB
    intro q;simp[yAe]at q hB;simp_all
   go_wp2_with fail;go_ret;exact⟨_,rfl,by simp[HF.out],HW0.2⟩
  ·go_wp2_with fail;refine(yKa ⟨8,s,hi,t,lo,up,n⟩ _).mono ?_;rintro r w2 ⟨b,rfl,hb,hb2⟩;have HF:Hid (b=true↔yAe ⟨8,s,hi,t,lo,up,n⟩):=by
    show b=true↔yAe _;have hB:=HB.out;have hG:=HG.out;have hE:=yBq;have hL:=yZt;try simp only[hE]at hB
    simp at hB;rw[hb];simp[yAe];cases hi<;>simp_all[less]
   exact yYf
 by_cases k9:kind=9
 ·subst k9;obtain⟨B,hB⟩:=qE (decide ((9:Int)=9∧s.toList=s.toList∧hi=hi∧t.toList=t.toList∧lo=0∧up=0∧n=0));have hq:=yCb 9 s hi t lo up n 9 s hi t 0 0 0 B hB;have HB:Hid (B=true↔(9:Int)=9∧s.toList=s.toList∧hi=hi∧t.toList=t.toList∧lo=0∧up=0∧n=0):=by rw[hB];show decide _=true↔_;simp only[decide_eq_true_eq]
  clear hB;cases B
  ·have HF:Hid (¬yAe ⟨9,s,hi,t,lo,up,n⟩):=by
    show¬yAe _;have hB:=HB.out;have hE:=yBq;try simp only[hE]at hB
    intro q;simp[yAe]at q hB;simp_all
   go_wp2_with fail;go_ret;exact⟨_,rfl,by simp[HF.out],HW0.2⟩
  ·go_wp2_with fail;refine(yKa ⟨9,s,hi,t,lo,up,n⟩ _).mono ?_;rintro r w2 ⟨b,rfl,hb,hb2⟩;have HF:Hid (b=true↔yAe ⟨9,s,hi,t,lo,up,n⟩):=by
    show b=true↔yAe _;have hB:=HB.out;have hG:=HG.out;have hE:=yBq;have hL:=yZt;try simp only[hE]at hB
    simp at hB;rw[hb];simp[yAe];cases hi<;>simp_all[less]
   exact yYf
 by_cases k10:kind=10
 ·subst k10;obtain⟨B,hB⟩:=qE (decide ((10:Int)=10∧s.toList=(⟨#[]⟩:ByteArray).toList∧hi=hi∧t.toList=(⟨#[]⟩:ByteArray).toList∧lo=lo∧up=up∧n=0));have hq:=yCb 10 s hi t lo up n 10 ⟨#[]⟩ hi ⟨#[]⟩ lo up 0 B hB;have HB:Hid (B=true↔(10:Int)=10∧s.toList=(⟨#[]⟩:ByteArray).toList∧hi=hi∧t.toList=(⟨#[]⟩:ByteArray).toList∧lo=lo∧up=up∧n=0):=by rw[hB];show decide _=true↔_;simp only[decide_eq_true_eq]
  clear hB;cases B
  ·have HF:Hid (¬yAe ⟨10,s,hi,t,lo,up,n⟩):=by
    show¬yAe _;have hB:=HB.out;have hE:=yBq;try simp only[hE]at hB
    intro q;simp[yAe]at q hB;simp_all
   go_wp2_with fail;go_ret;exact⟨_,rfl,by simp[HF.out],HW0.2⟩
  ·go_wp2_with fail;refine(yKa ⟨10,s,hi,t,lo,up,n⟩ _).mono ?_;rintro r w2 ⟨b,rfl,hb,hb2⟩;have HF:Hid (b=true↔yAe ⟨10,s,hi,t,lo,up,n⟩):=by
    show b=true↔yAe _;have hB:=HB.out;have hG:=HG.out;have hE:=yBq;have hL:=yZt;try simp only[hE]at hB
    simp at hB;rw[hb];simp[yAe];cases hi<;>simp_all[less]
   exact yYf
 by_cases k11:kind=11
 ·subst k11;obtain⟨B,hB⟩:=qE (decide ((11:Int)=11∧s.toList=(⟨#[]⟩:ByteArray).toList∧hi=false∧t.toList=(⟨#[]⟩:ByteArray).toList∧lo=0∧up=0∧n=n));have hq:=yCb 11 s hi t lo up n 11 ⟨#[]⟩ false ⟨#[]⟩ 0 0 n B hB;have HB:Hid (B=true↔(11:Int)=11∧s.toList=(⟨#[]⟩:ByteArray).toList∧hi=false∧t.toList=(⟨#[]⟩:ByteArray).toList∧lo=0∧up=0∧n=n):=by rw[hB];show decide _=true↔_;simp only[decide_eq_true_eq]
  clear hB;cases B
  ·have HF:Hid (¬yAe ⟨11,s,hi,t,lo,up,n⟩):=by
    show¬yAe _;have hB:=HB.out;have hE:=yBq;try simp only[hE]at hB
    intro q;simp[yAe]at q hB;simp_all
   go_wp2_with fail;go_ret;exact⟨_,rfl,by simp[HF.out],HW0.2⟩
  ·have HF:Hid (yAe ⟨11,s,hi,t,lo,up,n⟩↔(1≤n∧n≤1000)):=by
    show yAe _↔_;have hB:=HB.out;have hG:=HG.out;have hE:=yBq;try simp only[hE]at hB
    simp at hB;simp[yAe];simp_all
   exact yYj
 by_cases k12:kind=12
 ·subst k12;obtain⟨B,hB⟩:=qE (decide ((12:Int)=12∧s.toList=(⟨#[]⟩:ByteArray).toList∧hi=false∧t.toList=(⟨#[]⟩:ByteArray).toList∧lo=0∧up=0∧n=n));have hq:=yCb 12 s hi t lo up n 12 ⟨#[]⟩ false ⟨#[]⟩ 0 0 n B hB;have HB:Hid (B=true↔(12:Int)=12∧s.toList=(⟨#[]⟩:ByteArray).toList∧hi=false∧t.toList=(⟨#[]⟩:ByteArray).toList∧lo=0∧up=0∧n=n):=by rw[hB];show decide _=true↔_;simp only[decide_eq_true_eq]
  clear hB;cases B
  ·have HF:Hid (¬yAe ⟨12,s,hi,t,lo,up,n⟩):=by
    show¬yAe _;have hB:=HB.out;have hE:=yBq;try simp only[hE]at hB
    intro q;simp[yAe]at q hB;simp_all
   go_wp2_with fail;go_ret;exact⟨_,rfl,by simp[HF.out],HW0.2⟩
  ·have HF:Hid (yAe ⟨12,s,hi,t,lo,up,n⟩↔(1≤n∧n≤1000)):=by
    show yAe _↔_;have hB:=HB.out;have hG:=HG.out;have hE:=yBq;try simp only[hE]at hB
    simp at hB;simp[yAe];simp_all
   exact yYj
 by_cases k13:kind=13
 ·subst k13;obtain⟨B,hB⟩:=qE (decide ((13:Int)=13∧s.toList=(⟨#[]⟩:ByteArray).toList∧hi=false∧t.toList=(⟨#[]⟩:ByteArray).toList∧lo=0∧up=0∧n=n));have hq:=yCb 13 s hi t lo up n 13 ⟨#[]⟩ false ⟨#[]⟩ 0 0 n B hB;have HB:Hid (B=true↔(13:Int)=13∧s.toList=(⟨#[]⟩:ByteArray).toList∧hi=false∧t.toList=(⟨#[]⟩:ByteArray).toList∧lo=0∧up=0∧n=n):=by rw[hB];show decide _=true↔_;simp only[decide_eq_true_eq]
  clear hB;cases B
  ·have HF:Hid (¬yAe ⟨13,s,hi,t,lo,up,n⟩):=by
    show¬yAe _;have hB:=HB.out;have hE:=yBq;try simp only[hE]at hB
    intro q;simp[yAe]at q hB;simp_all
   go_wp2_with fail;go_ret;exact⟨_,rfl,by simp[HF.out],HW0.2⟩
  ·have HF:Hid (yAe ⟨13,s,hi,t,lo,up,n⟩↔(1≤n∧n≤1000)):=by
    show yAe _↔_;have hB:=HB.out;have hG:=HG.out;have hE:=yBq;try simp only[hE]at hB
    simp at hB;simp[yAe];simp_all
   exact yYj
 have HF:Hid (¬yAe ⟨kind,s,hi,t,lo,up,n⟩):=by show¬yAe _;simp only[yAe];rintro⟨_,_,_,q⟩;omega
 go_wp2_with fail;go_ret;exact⟨_,rfl,by simp[HF.out],HW0.2⟩
theorem yCx (k:Int) (w:World):Calls Tryz.prog 61 #[.int .i64 k] w fun e w'=>e=.returned (.int .i64 (yAk k:Int))∧w'=w:=by
 by_cases h14:k=14
 ·subst h14;exact yX9
 by_cases h15:k=15
 ·subst h15;exact yX9
 by_cases h16:k=16
 ·subst h16;exact yX9
 have z14:(k==14)=false:=by simpa using h14
 have z15:(k==15)=false:=by simpa using h15
 have z16:(k==16)=false:=by simpa using h16
 have H:Hid (yAk k=0):=by show yAk k=0;unfold yAk;rw[if_neg (by omega),if_neg h16]
 go_enter Tryz.func61,Tryz.ntmps61;go_wp2_with fail;go_ret;exact⟨by rw[H.out];rfl,rfl⟩
theorem yL0 (k:Int) (w:World):Calls Tryz.prog 128 #[.int .i64 k] w fun e w'=>e=.returned (.int .i64 (yB0 k:Int))∧w'=w:=by
 by_cases h15:k=15
 ·subst h15;go_enter Tryz.func128,Tryz.ntmps128;go_wp2_with fail;go_ret;exact⟨rfl,rfl⟩
 by_cases h14:k=14
 ·subst h14;go_enter Tryz.func128,Tryz.ntmps128;go_wp2_with fail;go_ret;exact⟨rfl,rfl⟩
 have z14:(k==14)=false:=by simpa using h14
 have z15:(k==15)=false:=by simpa using h15
 have H:Hid (yB0 k=3):=by show yB0 k=3;unfold yB0;rw[if_neg h15,if_neg h14]
 go_enter Tryz.func128,Tryz.ntmps128;go_wp2_with fail;go_ret;exact⟨by rw[H.out];rfl,rfl⟩
theorem yHb (op:Int) (i:Nat) (kid:Int) (w:World) (hop:¬op=16):Calls Tryz.prog 100 #[.int .i64 op,.int .i64 (i:Int),.int .i64 kid] w fun e w'=>e=.returned (.bool (yBs op i kid))∧w'=w:=by
 by_cases hi:i=0
 ·subst hi;have HL:Hid (yBs op 0 kid=decide (yB0 kid<yB0 op)):=by show yBs op 0 kid=_;unfold yBs;simp[hop]
  exact zzQ83
 ·have zi:((i:Int)==0)=false:=by simpa using hi
  have HL:Hid (yBs op i kid=decide (yB0 kid≤yB0 op)):=by show yBs op i kid=_;unfold yBs;simp[hop,hi]
  exact zzQ83
abbrev yAx.three (s:yAx):List Value:= [.bool s.valid,.int .i64 s.kind,.int .i64 (s.nest:Int)]
def yBo (ss:List yAx):List Value:=ss.flatMap yAx.three
theorem yG9 (ss:List yAx):(yBo ss).length=ss.length*3:=by
 induction ss with
 |nil=>rfl
 |cons e es ih=>simp only[yBo,List.flatMap_cons,List.length_append]at ih⊢;rw[ih];simp;omega
theorem yMz (es fs:List yAx):yBo (es++fs)=yBo es++yBo fs:=by simp[yBo]
theorem ySt (es:List yAx):∀(k:Nat) (e:yAx),es[k]?=some e→∀j,j<3→(yBo es)[k*3+j]?=e.three[j]?:=by
 induction es with
 |nil=>intro k e h;simp at h
 |cons f es ih=>
  intro k e h j hj;have hc:yBo (f::es)=f.three++yBo es:=by simp[yBo]
  rw[hc];cases k with
  |zero=>
   simp at h;subst h;rw[List.getElem?_append_left (by show 0*3+j<3;omega)];simp
  |succ k=>
   simp at h;rw[List.getElem?_append_right (by show 3≤(k+1)*3+j;omega)];have:(k+1)*3+j-f.three.length=k*3+j:=by show(k+1)*3+j-3=_;omega
   rw[this];exact ih k e h j hj
theorem yP3 (es:List yAx) (k:Nat):yBo (es.take k)=(yBo es).take (k*3):=by
 induction es generalizing k with
 |nil=>simp[yBo]
 |cons f es ih=>
  cases k with
  |zero=>simp[yBo]
  |succ k=>
   have hc:yBo (f::es)=f.three++yBo es:=by simp[yBo]
   have hd:yBo (f::es.take k)=f.three++yBo (es.take k):=by simp[yBo]
   have e1:(k+1)*3=f.three.length+k*3:=by show(k+1)*3=3+k*3;omega
   rw[List.take_succ_cons,hd,hc,ih,e1,List.take_length_add_append]
def yKo (w:World) (b o:Nat) (ss:List yAx):Prop:=∀i s,ss[i]?=some s→w.cell? ⟨b,o+i*3,none⟩=some (.bool s.valid)∧w.cell? ⟨b,o+i*3+1,none⟩=some (.int .i64 s.kind)∧w.cell? ⟨b,o+i*3+2,none⟩=some (.int .i64 (s.nest:Int))
variable {ss:List yAx}
theorem yKo.below {B:Nat} {b:Nat} (h:yKo w b o ss) (hb:Below B w w') (hlt:b<B):yKo w' b o ss:=by
 intro i e he;have:=h i e he;refine⟨?_,?_,?_⟩;all_goals rw[hb.cell (by exact hlt)]
 ·exact this.1
 ·exact this.2.1
 ·exact this.2.2
theorem yKo.drop {b:Nat} (h:yKo w b o ss) (k:Nat):yKo w b (o+k*3) (ss.drop k):=by intro i s hs;have:=h (k+i) s (by rw[←List.getElem?_drop];exact hs);rw[Nat.add_mul,←Nat.add_assoc]at this;exact this
def yE0 (w:World) (base g cp:Nat) (ss:List yAx):Prop:=w.ownsRow base 96 3 (.slice (some ⟨g,0,none⟩) ss.length cp) ss.length (yBo ss)
theorem yE0.lt {g:Nat} (h:yE0 w base g cp ss):base≤g∧g<w.heap.size:=World.ownsRow.lt h g rfl
theorem yE0.below {g:Nat} (h:yE0 w base g cp ss) (hb:Below w.heap.size w w'):yE0 w' base g cp ss:=yAp h (Chg.of_below hb) (S:=fun _=>False) (fun k q z=>z)
theorem yE0.at {g:Nat} (h:yE0 w base g cp ss):yKo w g 0 ss:=by
 intro i e he;have hi:i<ss.length:=(List.getElem?_eq_some_iff.1 he).1;have c:=fun j (hj:j<3)=>(World.ownsRow.cellAt h (i*3+j) (by omega)).trans (ySt ss i e he j hj);refine⟨?_,?_,?_⟩
 ·simpa using c 0 (by omega)
 ·simpa using c 1 (by omega)
 ·simpa using c 2 (by omega)
theorem yE0.caps {g:Nat} (h:yE0 w base g cp ss):ss.length≤cp∧cp≤maxLen:=by exact yRt
theorem yE0.take {g:Nat} (h:yE0 w base g cp ss) (hk:k≤ss.length):yE0 w base g cp (ss.take k):=by
 rcases h.2 with⟨h0,_⟩|⟨g',cap',cur,hv,h1,h2,h3,h4,h5,h6⟩
 ·cases h0
 ·simp only[Value.slice.injEq,Option.some.injEq,Addr.mk.injEq,and_true,true_and]at hv;obtain⟨rfl,rfl⟩:=hv;have hl:(ss.take k).length=k:=by rw[List.length_take];omega
  refine⟨by rw[yG9],.inr ⟨g,cp,cur,rfl,h1,h2,by omega,h4,h5,?_⟩⟩;rw[hl,yP3,←h6,List.take_take];congr 1;omega
theorem yT8 (w:World) (hb:base≤w.heap.size):yE0 (w.alloc (Obj.cells #[] 96)) base w.heap.size 0 []:=
 World.ownsRow_made w #[] 0 hb (Nat.zero_le _) (by simp)
structure SoJ (w:World) (e:Nd) (WB:Nat) (v:Bool) (a:Nat) (wr:World):Prop where
 node:yA wr w.heap.size 75 7 w.heap.size e.seven
 res:yA wr w.heap.size 96 3 (w.heap.size+1) [.bool false,.int .i64 0,.int .i64 0]
 whole:yA wr w.heap.size 96 3 WB [.bool v,.int .i64 e.kind,.int .i64 (a:Int)]
 ne:w.heap.size+2≤WB
 below:Below w.heap.size w wr
variable {e:Nd}
theorem SoJ.move {WB:Nat} {v:Bool} {a:Nat} (h:SoJ w e WB v a wr) (hb:Below wr.heap.size wr w'):SoJ w e WB v a w':=
 ⟨h.node.below hb,h.res.below hb,h.whole.below hb,h.ne,h.below.trans (hb.mono h.below.size)⟩
theorem yV8 (e:Nd) (w:World) (hs:e.s.size≤maxLen) (ht:e.t.size≤maxLen):Calls Tryz.prog 99 #[.agg #[.int .i64 e.kind,.string e.s,.bool e.hi,.string e.t,.int .u64 e.lo,.int .u64 e.up,.int .i64 e.n]] w fun r w'=>r=.returned (.bool (goodB e))∧Below w.heap.size w w':=by refine(yKt e w hs ht).mono ?_;rintro r w' ⟨b,rfl,hb,hb2⟩;refine⟨?_,hb2⟩;congr 2;rw[Bool.eq_iff_iff,hb,yHe]
theorem ySq {T:Type} (V:Nd→List T→T) {xs:List Nd} {ns:List T} (h:yB3 V [] (xs.take j)=some ns) (he:xs[j]?=some e) (hl:yAk e.kind≤ns.length):yB3 V [] (xs.take (j+1))=some (ns.take (ns.length-yAk e.kind)++ [V e (ns.drop (ns.length-yAk e.kind))]):=by exact yXq
theorem ySp {T:Type} (V:Nd→List T→T) {xs:List Nd} {ns:List T} (h:yB3 V [] (xs.take j)=some ns) (he:xs[j]?=some e) (hl:ns.length<yAk e.kind):yB3 V [] xs=none:=by exact zzQ63
end Go.Proofs.YtkidabedcgngcaaGreatDoor
