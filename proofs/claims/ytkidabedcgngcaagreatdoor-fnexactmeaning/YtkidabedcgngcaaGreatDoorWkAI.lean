import Derived.Test.YtkidabedcgngcaaGreatDoorWkAA
import Derived.Test.YtkidabedcgngcaaGreatDoorWkAH
import Derived.Test.YtkidabedcgngcaaGreatDoorWkAG
import Derived.Test.YtkidabedcgngcaaGreatDoorWkAD
namespace Go.Proofs.YtkidabedcgngcaaGreatDoor
open Go.ChangeShapes Go.WideShapes Go.ChangeAt Go.RowKit Go.Deep
set_option linter.unusedVariables false
set_option linter.unusedSimpArgs false
set_option maxRecDepth 100000
structure KeJ (w:World) (lo hi:Nat) (n:Nd) (mv:Value) (g cp:Nat) (L:List Ent) (wr:World):Prop where
 own:OwnC wr w.heap.size g cp L
 tst:TstAt wr lo hi n mv
 chg:Chg (InB lo hi) w wr
theorem KeJ.move {w:World} {lo hi:Nat} {n:Nd} {mv:Value} {g cp:Nat} {L:List Ent} {wr w':World} (h:KeJ w lo hi n mv g cp L wr) (hb:Below wr.heap.size wr w'):KeJ w lo hi n mv g cp L w':=
 ⟨h.own.below hb h.own.lt.2,h.tst.below hb,h.chg.trans (Chg.of_below hb)⟩
theorem KeJ.run {w:World} {lo hi:Nat} {n:Nd} {mv:Value} {g cp:Nat} {L:List Ent} {wr w':World} (h:KeJ w lo hi n mv g cp L wr) (hh:hi≤w.heap.size) (ht:TstAt w' lo hi n mv) (hc:Chg (InB lo hi) wr w'):KeJ w lo hi n mv g cp L w':=
 ⟨own_chg h.own hc (fun k q z=>by simp[Value.ownBlock]at q;subst q;have:=h.own.lt;have:=z.2;omega),ht,h.chg.trans hc⟩
theorem KeJ.push {w:World} {lo hi:Nat} {n:Nd} {mv:Value} {g cp g' cp':Nat} {L L':List Ent} {X w':World} (h:KeJ w lo hi n mv g cp L X) (hh:hi≤w.heap.size) (hl:lo≤hi) (hO:OwnC w' w.heap.size g' cp' L') (hg:X.grownBy w' (some g)):KeJ w lo hi n mv g' cp' L' w':=by
 have hc:Chg (fun k=>k=g) X w':=Chg.of_grown hg (fun k q=>by cases q;rfl)
 have hgl:=h.own.lt
 refine⟨hO,h.tst.chg hc (fun k q z=>by have:=z.2;omega) (fun q z=>by omega),?_⟩
 exact Chg.absorb h.chg hc (fun k q=>.inr (by omega))
def Plain (n:Nd):Prop:=¬n.kind=3∧¬n.kind=11∧¬n.kind=12∧¬n.kind=13
theorem plain_keep {n:Nd} (h:Plain n) (pre:List Ent) (c:Ent):keepB n pre c=tstB n c∧stripE n c=c:=by
 unfold keepB stripE
 rw[if_neg h.2.1,if_neg h.2.2.1,if_neg h.2.2.2,if_neg h.1]
 exact⟨rfl,rfl⟩
def KeP (w:World) (lo hi:Nat) (n:Nd) (mv:Value) (es:List Ent) (e:Ending) (w':World):Prop:=∃g cp,e=.returned (.slice (some ⟨g,0,none⟩) (leafM n es).length cp)∧Hid (KeJ w lo hi n mv g cp (leafM n es) w')
set_option maxHeartbeats 4000000 in
theorem keep_core (n:Nd) (hpl:Plain n) (mp:Option Addr) {w:World} {b off cap:Nat} {es:List Ent} (h:CSl w b off cap es) (hl:es.length≤10000) (lo hi:Nat) (hT:TstAt w lo hi n (.pointer mp)) (hh:hi≤w.heap.size) (hlh:lo≤hi) (hb:¬InB lo hi b):Calls Tryz.prog 73 #[.slice (some ⟨b,off,none⟩) es.length cap,.func (Fn.func 74) #[.agg #[.int .i64 n.kind,.string n.s,.bool n.hi,.string n.t,.int .u64 n.lo,.int .u64 n.up,.int .i64 n.n,.pointer mp]] #[]] w (KeP w lo hi n (.pointer mp) es):=by
 obtain⟨N,hN⟩:=qE es.length
 have HL:Hid (N=es.length∧CSl w b off cap es∧¬InB lo hi b∧hi≤w.heap.size∧lo≤hi):=⟨hN,h,hb,hh,hlh⟩
 have HLM:Hid (leafM n es=leafG n [] (es.take N)):=by show _=_;rw[hN,List.take_length];rfl
 have HPl:Hid (Plain n):=hpl
 obtain⟨W0,hW0⟩:=qE (w.alloc (.cells #[] 55):World)
 have HJ0:Hid (KeJ w lo hi n (.pointer mp) w.heap.size 0 [] W0):=by
  have k1:Below w.heap.size w W0:=by rw[hW0];exact qB
  exact⟨by rw[hW0];exact ownC_new w,hT.below k1,Chg.of_below k1⟩
 have HHo:Hid (∀(c:Ent) (wx:World),TstAt wx lo hi n (.pointer mp)→hi≤wx.heap.size→Calls Tryz.prog 74 #[.agg #[.int .i64 n.kind,.string n.s,.bool n.hi,.string n.t,.int .u64 n.lo,.int .u64 n.up,.int .i64 n.n,.pointer mp],c.c] wx (HoP wx lo hi n c (.pointer mp))):=fun c wx hx hz=>by
  obtain⟨mp',h1,h2⟩:=holds_core n c (.pointer mp) wx lo hi hx hz
  cases h1
  exact h2
 rw[←hN]
 rw[←hN]at hl
 clear h hT hh hlh hb hpl hN
 go_enter Tryz.func73,Tryz.ntmps73
 go_wp2_with fail
 rw[←hW0]
 clear hW0
 go_loopw[5,11] (fun o iv wr=>∃(i g cp m:Nat),i≤N∧iv=.int .i64 (i:Int)∧o=.slice (some ⟨g,0,none⟩) m cp∧Hid (m=(leafG n [] (es.take i)).length∧KeJ w lo hi n (.pointer mp) g cp (leafG n [] (es.take i)) wr)) (fun _ iv _=>N-(intOf iv).toNat)
 case atStart=>exact⟨0,w.heap.size,0,0,Nat.zero_le _,rfl,rfl,rfl,HJ0.out⟩
 case round=>
  obtain⟨i,g,cp,m,hiN,rfl,rfl,HJ⟩:=hrel
  by_cases hlt:i<N
  ·have zi:(i:Int)<(N:Int):=by omega
   obtain⟨c,hc⟩:∃c,es[i]?=some c:=⟨_,List.getElem?_eq_getElem (by have:=HL.1;omega)⟩
   have HStep:Hid (leafG n [] (es.take (i+1))=leafG n [] (es.take i)++(if tstB n c then [c]else [])):=by
    show _=_
    rw[leaf_step n hc,(plain_keep HPl.out (es.take i) c).1,(plain_keep HPl.out (es.take i) c).2]
   have HM:Hid (m=(leafG n [] (es.take i)).length):=HJ.1
   have hml:m≤10000:=by
    rw[HJ.1]
    refine Nat.le_trans (leafG_len _ _ _) ?_
    rw[List.length_take]
    omega
   obtain⟨c0,c1,c2,c3,c4⟩:=(HL.2.1.chg HJ.2.chg HL.2.2.1).at_ i c hc
   obtain⟨W1,hW1⟩:=qE (wr.alloc (.cells #[.string c.row,.string c.fam,.string c.qual,.int .u64 c.ts,.string c.val] 55):World)
   have hb1:Below wr.heap.size wr W1:=by rw[hW1];exact qB
   obtain⟨cb,hcb⟩:=qE wr.heap.size
   have hsz:=HJ.2.chg.size
   have HB1:Hid (KeJ w lo hi n (.pointer mp) g cp (leafG n [] (es.take i)) W1∧BoxAt W1 w.heap.size 55 5 cb c.five∧hi≤W1.heap.size∧hi≤cb):=by
    refine⟨HJ.2.move hb1,?_,by have:=hb1.size;have:=HL.2.2.2.1;omega,by have:=HL.2.2.2.1;omega⟩
    rw[hW1,hcb];exact boxAt_new wr #[.string c.row,.string c.fam,.string c.qual,.int .u64 c.ts,.string c.val] hsz rfl
   go_upto_region 5 with fail
   rw[←hW1,←hcb]
   clear hW1 hcb hb1 c0 c1 c2 c3 c4 hc
   obtain⟨c0,c1,c2,c3,c4⟩:=HB1.2.1.c5
   have HH1:Hid (Calls Tryz.prog 74 #[.agg #[.int .i64 n.kind,.string n.s,.bool n.hi,.string n.t,.int .u64 n.lo,.int .u64 n.up,.int .i64 n.n,.pointer mp],c.c] W1 (HoP W1 lo hi n c (.pointer mp))):=HHo.out c W1 HB1.1.tst HB1.2.2.1
   go_wp2_with fail
   refine HH1.mono ?_
   rintro e w2 ⟨rfl,H2⟩
   have HB2:Hid (KeJ w lo hi n (.pointer mp) g cp (leafG n [] (es.take i)) w2∧BoxAt w2 w.heap.size 55 5 cb c.five):=by
    refine⟨HB1.1.run HL.2.2.2.1 H2.1 H2.2,HB1.2.1.chg H2.2 (fun q=>by have:=q.2;have:=HB1.2.2.2;omega)⟩
   clear c0 c1 c2 c3 c4 HH1
   obtain⟨tb,htb⟩:=qE (tstB n c)
   rw[←htb]
   rw[←htb]at HStep
   clear htb
   cases tb
   ·have HN:Hid (m=(leafG n [] (es.take (i+1))).length∧KeJ w lo hi n (.pointer mp) g cp (leafG n [] (es.take (i+1))) w2):=by
     rw[HStep.out,if_neg (by decide),List.append_nil]
     exact⟨HM.out,HB2.1⟩
    exact zzQ22
   ·have HSt:Hid (leafG n [] (es.take (i+1))=leafG n [] (es.take i)++ [c]):=by
     show _=_
     rw[HStep.out,if_pos rfl]
    obtain⟨d0,d1,d2,d3,d4⟩:=HB2.2.c5
    have HKm:Hid (m=(leafG n [] (es.take i)).length):=HM.out
    have hgl:=HB2.1.own.lt
    have hz2:=HB2.1.chg.size
    go_wp2_with (at_builtin;refine wpList_append_cel _ rfl _ _ rfl w.heap.size g cp _ _ (leafG n [] (es.take i)) c rfl rfl HKm.out ?hO ?hc ?hl ?hb ?_)
    case hO=>exact HB2.1.own.below (qB) hgl.2
    case hc=>exact cel_new w2 c
    case hl=>rw[←HKm.out];omega
    case hb=>simp;omega
    intro g' cp' w' hO' hgr
    have HN:Hid (m+1=(leafG n [] (es.take (i+1))).length∧KeJ w lo hi n (.pointer mp) g' cp' (leafG n [] (es.take (i+1))) w'):=by
     rw[HSt.out]
     exact⟨by rw[List.length_append,←HKm.out];rfl,(HB2.1.move (qB)).push HL.2.2.2.1 HL.2.2.2.2 hO' hgr⟩
    exact zzQ13
  ·obtain rfl:i=N:=by omega
   have zi:¬(i:Int)<(i:Int):=by omega
   go_wp2_with fail
   go_ret
   refine⟨g,cp,?_,?_⟩
   ·rw[HLM.out,←HJ.1];rfl
   ·rw[HLM.out];exact HJ.2
theorem drop_cons' {l:List Ent} {i:Nat} {x:Ent} (h:l[i]?=some x):l.drop i=x::l.drop (i+1):=by
 exact zzQ73
theorem leafG_strip (n:Nd) (h:n.kind=3):∀(es pre:List Ent),leafG n pre es=es.map (stripE n)
 | [],_=>rfl
 |c::es,pre=>by
  have hk:keepB n pre c=true:=by unfold keepB tstB;rw[if_neg (by omega),if_neg (by omega),if_neg (by omega),if_pos (.inr h)]
  unfold leafG
  rw[hk,if_pos rfl,leafG_strip n h es _]
  rfl
set_option maxHeartbeats 4000000 in
theorem cloneC_core {w:World} {b off cap:Nat} {es:List Ent} (h:CSl w b off cap es) (hl:es.length≤10000):Calls Tryz.prog 103 #[.slice (some ⟨b,off,none⟩) es.length cap] w fun e w'=>∃g cp,e=.returned (.slice (some ⟨g,0,none⟩) es.length cp)∧OwnC w' w.heap.size g cp es∧Below w.heap.size w w':=by
 obtain⟨N,hN⟩:=qE es.length
 have HL:Hid (CSl w b off cap es):=h
 have HN:Hid (N=es.length):=hN
 rw[←hN]
 rw[←hN]at hl
 have hb1:Below w.heap.size w (w.alloc (.cells #[] 55)):=qB
 have HO:Hid (OwnC (w.alloc (.cells #[] 55)) w.heap.size w.heap.size 0 []∧CSl (w.alloc (.cells #[] 55)) b off cap es):=⟨ownC_new w,h.below hb1⟩
 clear h hN hb1
 have hnil:∀wx:World,(binOp .eql 28 (.slice (some ⟨b,off,none⟩) N cap) (.slice none 0 0)).run Tryz.prog wx=.ok (.bool false) wx:=fun wx=>Go.Lib.run_eql_slice_nil wx _ _ _ _ _ _ _ Tryz.underlying28
 go_enter Tryz.func103,Tryz.ntmps103
 go_wp2_with (at_builtin;refine wpList_append_cels _ rfl _ _ rfl w.heap.size w.heap.size 0 0 b off N cap [] es rfl rfl rfl HN.out ?hO ?hc ?hl ?hb ?_)
 case hO=>exact HO.1
 case hc=>exact HO.2.at_
 case hl=>(have h9:=HN.out;simp;omega)
 case hb=>simp
 intro g' cp' w' hO' hgr
 have HE:Hid (OwnC w' w.heap.size g' cp' es∧Below w.heap.size w w'):=⟨hO',(qB).grown hgr (by simp) (fun j hj=>by cases hj;omega)⟩
 clear hO' hgr
 go_wp2_with fail
 go_ret
 refine⟨g',cp',?_,HE.out⟩
 first|rfl|(simp)
set_option maxHeartbeats 4000000 in
theorem strip_core (n:Nd) (hk:n.kind=3) {w:World} {b off cap:Nat} {es:List Ent} (h:CSl w b off cap es) (hl:es.length≤10000):Calls Tryz.prog 66 #[.slice (some ⟨b,off,none⟩) es.length cap] w fun e w'=>∃g cp,e=.returned (.slice (some ⟨g,0,none⟩) (leafM n es).length cp)∧OwnC w' w.heap.size g cp (leafM n es)∧Below w.heap.size w w':=by
 obtain⟨N,hN⟩:=qE es.length
 have HN:Hid (N=es.length):=hN
 have HM:Hid (leafM n es=es.map (stripE n)):=leafG_strip n hk es []
 have HSt:Hid (∀c:Ent,stripE n c={c with val:=⟨#[]⟩}):=fun c=>by unfold stripE;rw[if_pos hk]
 have HCl:Hid (Calls Tryz.prog 103 #[.slice (some ⟨b,off,none⟩) N cap] w fun e w'=>∃g cp,e=.returned (.slice (some ⟨g,0,none⟩) N cp)∧OwnC w' w.heap.size g cp es∧Below w.heap.size w w'):=by rw[hN];exact cloneC_core h hl
 rw[←hN]
 rw[←hN]at hl
 clear h hN hk
 go_enter Tryz.func66,Tryz.ntmps66
 go_wp2_with fail
 refine HCl.mono ?_
 rintro e w1 ⟨g,cp,rfl,hO1,hb1⟩
 have HJ0:Hid (OwnC w1 w.heap.size g cp es∧Below w.heap.size w w1):=⟨hO1,hb1⟩
 have hgw:=hO1.lt.1
 clear hO1 hb1 HCl
 go_wp2_with fail
 go_loopw[9] (fun iv wr=>∃(i:Nat) (fs:List Ent),i≤N∧iv=.int .i64 (i:Int)∧Hid (fs=(es.take i).map (stripE n)++es.drop i∧OwnC wr w.heap.size g cp fs∧Below w.heap.size w wr)) (fun iv _=>N-(intOf iv).toNat)
 case atStart=>exact⟨0,es,Nat.zero_le _,rfl,rfl,HJ0.out⟩
 case round=>
  obtain⟨i,fs,hiN,rfl,HJ⟩:=hrel
  by_cases hlt:i<N
  ·have zi:(i:Int)<(N:Int):=by omega
   obtain⟨c,hc⟩:∃c,es[i]?=some c:=⟨_,List.getElem?_eq_getElem (by have:=HN.out;omega)⟩
   have hfi:fs[i]?=some c:=by
    rw[HJ.1,List.getElem?_append_right (by rw[List.length_map,List.length_take];omega)]
    rw[List.length_map,List.length_take,List.getElem?_drop]
    rw[show min i es.length=i by have:=HN.out;omega,Nat.sub_self,Nat.add_zero]
    exact hc
   obtain⟨-,-,-,-,c4⟩:=HJ.2.1.at i c hfi
   simp only[Nat.zero_add]at c4
   have f4:=World.ownsRow.frozenAt HJ.2.1 (i*5+4)
   have HJ2:Hid (∃fs',fs'=(es.take (i+1)).map (stripE n)++es.drop (i+1)∧OwnC (wr.setCell ⟨g,i*5+4,none⟩ (.string ⟨#[]⟩)) w.heap.size g cp fs'∧Below w.heap.size w (wr.setCell ⟨g,i*5+4,none⟩ (.string ⟨#[]⟩))):=by
    refine⟨fs.set i (stripE n c),?_,?_,below_set HJ.2.2 hgw _ _⟩
    ·rw[HJ.1,List.set_append_right _ _ (by rw[List.length_map,List.length_take];omega)]
     rw[List.length_map,List.length_take,show i-min i es.length=0 by have:=HN.out;omega]
     rw[drop_cons' hc,List.set_cons_zero,List.take_add_one,hc,Option.toList_some,List.map_append]
     simp
    ·refine HJ.2.1.set i 4 c (stripE n c) (.string ⟨#[]⟩) hfi (by omega) ?_
     rw[HSt.out]
     rfl
   clear hfi hc
   go_wp2_with fail
   go_roundw
   case rel=>
    obtain⟨fs',h1⟩:=HJ2.out
    exact⟨i+1,fs',by omega,by go_num,h1⟩
   case measure=>go_light;simp[intOf];omega
  ·obtain rfl:i=N:=by omega
   have zi:¬(i:Int)<(i:Int):=by omega
   have HF:Hid (fs=leafM n es):=by
    show fs=_
    rw[HJ.1,HM.out,List.drop_of_length_le (by rw[←HN.out];exact Nat.le_refl _),List.append_nil,HN.out,List.take_length]
   go_wp2_with fail
   go_ret
   refine⟨g,cp,?_,?_,HJ.2.2⟩
   ·rw[HM.out,List.length_map,←HN.out];rfl
   ·rw[←HF.out];exact HJ.2.1
structure UnJ (w:World) (la lb U:List Ent) (i j g cp m:Nat) (wr:World):Prop where
 own:∃L f,U=L++mrgU f (la.drop i) (lb.drop j)∧(la.drop i).length+(lb.drop j).length≤f∧m=L.length∧OwnC wr w.heap.size g cp L
 below:Below w.heap.size w wr
theorem UnJ.move {w:World} {la lb U:List Ent} {i j g cp m:Nat} {wr w':World} (h:UnJ w la lb U i j g cp m wr) (hb:Below wr.heap.size wr w'):UnJ w la lb U i j g cp m w':=by
 obtain⟨L,f,h1,h2,h3,h4⟩:=h.own
 exact⟨⟨L,f,h1,h2,h3,h4.below hb h4.lt.2⟩,h.below.trans (hb.mono h.below.size)⟩
theorem cels_drop {w:World} {b o p i:Nat} {l:List Ent} (h:CelsAt w b o (l.drop i)) (hp:i<l.length→p=o):CelsAt w b p (l.drop i):=by
 by_cases q:i<l.length
 ·rw[hp q];exact h
 ·intro k e he
  rw[List.drop_of_length_le (by omega)]at he
  simp at he
theorem drop_cons {l:List Ent} {i:Nat} {x:Ent} (h:l[i]?=some x):l.drop i=x::l.drop (i+1):=by
 exact zzQ73
theorem slice_step (b o c n i:Nat):Value.slice (if c-i=1 then some ⟨b,o+i*5,none⟩else some ⟨b,o+i*5+5,none⟩) (n-i-1) (c-i-1)=.slice (some ⟨b,if c-i=1 then o+i*5 else o+i*5+5,none⟩) (n-(i+1)) (c-(i+1)):=by
 rw[show n-i-1=n-(i+1)by omega,show c-i-1=c-(i+1)by omega]
 split<;>rfl
theorem slice_off (b o c n i:Nat) (h:n≤c):i+1<n→(if c-i=1 then o+i*5 else o+i*5+5)=o+(i+1)*5:=fun q=>by
 rw[if_neg (by omega)];omega
set_option maxHeartbeats 8000000 in
theorem unite_core {w:World} {ba oa ca bb ob cb:Nat} {la lb:List Ent} (ha:CSl w ba oa ca la) (hb:CSl w bb ob cb lb) (hoa:Ord la) (hob:Ord lb) (hka:∀x∈la,x.kind=0) (hkb:∀x∈lb,x.kind=0) (hla:la.length≤10000) (hlb:lb.length≤10000):Calls Tryz.prog 64 #[.slice (some ⟨ba,oa,none⟩) la.length ca,.slice (some ⟨bb,ob,none⟩) lb.length cb] w fun e w'=>∃g cp,e=.returned (.slice (some ⟨g,0,none⟩) (uniM la lb).length cp)∧OwnC w' w.heap.size g cp (uniM la lb)∧Below w.heap.size w w':=by
 obtain⟨NA,hNA⟩:∃N,N=la.length:=⟨_,rfl⟩
 obtain⟨NB,hNB⟩:∃N,N=lb.length:=⟨_,rfl⟩
 have HN:Hid (NA=la.length∧NB=lb.length):=⟨hNA,hNB⟩
 have HR:Hid ((∀wx,Below w.heap.size w wx→CSl wx ba oa ca la)∧(∀wx,Below w.heap.size w wx→CSl wx bb ob cb lb)):=⟨fun wx hx=>ha.below hx,fun wx hx=>hb.below hx⟩
 have HK:Hid ((∀x∈la,x.kind=0)∧(∀x∈lb,x.kind=0)):=⟨hka,hkb⟩
 obtain⟨U,hU⟩:=qE (uniM la lb)
 have HU:Hid (U=mrgU (la.length+lb.length) la lb):=by rw[hU];exact(mrgU_uni (Nat.le_refl _) hoa hob).symm
 rw[←hU]
 rw[←hNA,←hNB]
 rw[←hNA]at hla
 rw[←hNB]at hlb
 have hca:NA≤ca:=by rw[hNA];exact ha.len
 have hcb:NB≤cb:=by rw[hNB];exact hb.len
 have hma:ca≤9223372036854775807:=by have:=ha.cap;unfold maxLen at this;omega
 have hmb:cb≤9223372036854775807:=by have:=hb.cap;unfold maxLen at this;omega
 obtain⟨i,hi,hz0,hz1,hz2⟩:=info_parts Tryz.infoCel
 have HI:Hid (Tryz.prog.info? 55=some i∧i.zero=some (.agg #[.string ⟨#[]⟩,.string ⟨#[]⟩,.string ⟨#[]⟩,.int .u64 0,.string ⟨#[]⟩])∧i.size=5∧i.bytes=72):=⟨hi,hz0,hz1,hz2⟩
 clear hi hz0 hz1 hz2 ha hb hoa hob hka hkb hNA hNB hU
 go_enter Tryz.func64,Tryz.ntmps64
 go_wp2_with (at_make;refine wpList_make_own _ rfl _ _ 28 rfl w.heap.size 55 i _ 5 Tryz.underlying28 HI.1 HI.2.1 HI.2.2.1 _ _ _ (NA+NB) rfl rfl rfl ?hb ?hm ?hs ?_)
 case hb=>rw[HI.2.2.2];omega
 case hm=>unfold maxLen;omega
 case hs=>exact Nat.le_refl _
 intro w1 hown hgrow
 have HJ0:Hid (UnJ w la lb U 0 0 w.heap.size (NA+NB) 0 w1):=⟨⟨[],la.length+lb.length,HU.out,by simp,rfl,hown⟩,(Below.refl _ _).grown hgrow (Nat.le_refl _) (fun k hk=>by cases hk)⟩
 clear hown hgrow
 go_wp2_with fail
 go_loopw[0,1,5] (fun av bv o wr=>∃(i j g cp m pa pb:Nat),i≤NA∧j≤NB∧(i<NA→pa=oa+i*5)∧(j<NB→pb=ob+j*5)∧av=.slice (some ⟨ba,pa,none⟩) (NA-i) (ca-i)∧bv=.slice (some ⟨bb,pb,none⟩) (NB-j) (cb-j)∧o=.slice (some ⟨g,0,none⟩) m cp∧m≤i+j∧Hid (UnJ w la lb U i j g cp m wr)) (fun av bv _ _=>(match av with| .slice _ n _=>n|_=>0)+(match bv with| .slice _ n _=>n|_=>0))
 case atStart=>exact⟨0,0,w.heap.size,NA+NB,0,oa,ob,Nat.zero_le _,Nat.zero_le _,fun _=>by simp,fun _=>by simp,rfl,rfl,rfl,Nat.zero_le _,HJ0.out⟩
 case round=>
  obtain⟨i,j,g,cp,m,pa,pb,hiA,hjB,hpa,hpb,rfl,rfl,rfl,hmij,HJ⟩:=hrel
  by_cases hli:i<NA
  ·by_cases hlj:j<NB
   ·have zi:(0:Int)<((NA-i:Nat):Int):=by omega
    have zj:(0:Int)<((NB-j:Nat):Int):=by omega
    obtain rfl:=hpa hli
    obtain rfl:=hpb hlj
    clear hpa hpb
    obtain⟨x,hx⟩:∃x,la[i]?=some x:=⟨_,List.getElem?_eq_getElem (by have:=HN.1;omega)⟩
    obtain⟨y,hy⟩:∃y,lb[j]?=some y:=⟨_,List.getElem?_eq_getElem (by have:=HN.2;omega)⟩
    have hCa:=(HR.1 wr HJ.below).at_ i x hx
    have hCb:=(HR.2 wr HJ.below).at_ j y hy
    have hS0:(fun w':World=>w'.cell? ⟨ba,oa+i*5,none⟩=some (.string x.row)∧w'.cell? ⟨ba,oa+i*5+1,none⟩=some (.string x.fam)∧w'.cell? ⟨ba,oa+i*5+2,none⟩=some (.string x.qual)∧w'.cell? ⟨ba,oa+i*5+3,none⟩=some (.int .u64 x.ts)∧w'.cell? ⟨ba,oa+i*5+4,none⟩=some (.string x.val)∧w'.cell? ⟨bb,ob+j*5,none⟩=some (.string y.row)∧w'.cell? ⟨bb,ob+j*5+1,none⟩=some (.string y.fam)∧w'.cell? ⟨bb,ob+j*5+2,none⟩=some (.string y.qual)∧w'.cell? ⟨bb,ob+j*5+3,none⟩=some (.int .u64 y.ts)∧w'.cell? ⟨bb,ob+j*5+4,none⟩=some (.string y.val)) wr.drew:=⟨hCa.1,hCa.2.1,hCa.2.2.1,hCa.2.2.2.1,hCa.2.2.2.2,hCb.1,hCb.2.1,hCb.2.2.1,hCb.2.2.2.1,hCb.2.2.2.2⟩
    have hd:Below wr.heap.size wr wr.drew:=(Below.refl _ _).drew
    have HXq:Hid (la[i]?=some x∧lb[j]?=some y):=⟨hx,hy⟩
    have HXY:Hid (la.drop i=x::la.drop (i+1)∧lb.drop j=y::lb.drop (j+1)):=⟨drop_cons hx,drop_cons hy⟩
    have HCm:Hid (Calls Tryz.prog 60 #[x.c,y.c] wr.drew fun e w'=>e=.returned (.int .i64 (keyCmp x y))∧Below wr.drew.heap.size wr.drew w'):=by
     have h9:=cellCompare_any x y wr.drew
     have px:putE x=x:=by have h0:=HK.1 x (List.mem_of_getElem? hx);cases x;simp only[putE]at*;subst h0;rfl
     have py:putE y=y:=by have h0:=HK.2 y (List.mem_of_getElem? hy);cases y;simp only[putE]at*;subst h0;rfl
     rw[px,py]at h9
     exact h9
    obtain⟨ky,hky⟩:=qE (keyCmp x y)
    have HKy:Hid (ky=keyCmp x y):=hky
    have hkv:=keyCmp_vals x y
    rw[←hky]at HCm hkv
    clear hky hCa hCb hx hy
    go_upto_region 3 with fail
    refine wp_region_T 99 (fun w':World=>w'.cell? ⟨ba,oa+i*5,none⟩=some (.string x.row)∧w'.cell? ⟨ba,oa+i*5+1,none⟩=some (.string x.fam)∧w'.cell? ⟨ba,oa+i*5+2,none⟩=some (.string x.qual)∧w'.cell? ⟨ba,oa+i*5+3,none⟩=some (.int .u64 x.ts)∧w'.cell? ⟨ba,oa+i*5+4,none⟩=some (.string x.val)∧w'.cell? ⟨bb,ob+j*5,none⟩=some (.string y.row)∧w'.cell? ⟨bb,ob+j*5+1,none⟩=some (.string y.fam)∧w'.cell? ⟨bb,ob+j*5+2,none⟩=some (.string y.qual)∧w'.cell? ⟨bb,ob+j*5+3,none⟩=some (.int .u64 y.ts)∧w'.cell? ⟨bb,ob+j*5+4,none⟩=some (.string y.val)) (by kernel_rfl) ?_
    refine qT 0 ?vun0 rfl ?yun0 hS0 ?_
    case yun0=>exact zzR19
    try simp only[qA,List.getElem_toArray,List.getElem_cons_zero,List.getElem_cons_succ]
    refine qT 1 ?vun1 rfl ?yun1 hS0 ?_
    case yun1=>exact zzR19
    try simp only[qA,List.getElem_toArray,List.getElem_cons_zero,List.getElem_cons_succ]
    refine qT 2 ?vun2 rfl ?yun2 hS0 ?_
    case yun2=>exact zzR19
    try simp only[qA,List.getElem_toArray,List.getElem_cons_zero,List.getElem_cons_succ]
    refine qT 3 ?vun3 rfl ?yun3 hS0 ?_
    case yun3=>exact zzR19
    try simp only[qA,List.getElem_toArray,List.getElem_cons_zero,List.getElem_cons_succ]
    refine qT 4 ?vun4 rfl ?yun4 hS0 ?_
    case yun4=>exact zzR19
    try simp only[qA,List.getElem_toArray,List.getElem_cons_zero,List.getElem_cons_succ]
    refine qT 5 ?vun5 rfl ?yun5 hS0 ?_
    case yun5=>exact zzR19
    try simp only[qA,List.getElem_toArray,List.getElem_cons_zero,List.getElem_cons_succ]
    refine qO 6 rfl fun K hK=>?_
    go_simp
    go_at_call 60
    refine HCm.mono ?_
    rintro e w3 ⟨rfl,hb3⟩
    have hb3':Below wr.heap.size wr w3:=hd.trans hb3
    have HJ3:Hid (UnJ w la lb U i j g cp m w3):=HJ.move hb3'
    have hS3:(fun w':World=>w'.cell? ⟨ba,oa+i*5,none⟩=some (.string x.row)∧w'.cell? ⟨ba,oa+i*5+1,none⟩=some (.string x.fam)∧w'.cell? ⟨ba,oa+i*5+2,none⟩=some (.string x.qual)∧w'.cell? ⟨ba,oa+i*5+3,none⟩=some (.int .u64 x.ts)∧w'.cell? ⟨ba,oa+i*5+4,none⟩=some (.string x.val)∧w'.cell? ⟨bb,ob+j*5,none⟩=some (.string y.row)∧w'.cell? ⟨bb,ob+j*5+1,none⟩=some (.string y.fam)∧w'.cell? ⟨bb,ob+j*5+2,none⟩=some (.string y.qual)∧w'.cell? ⟨bb,ob+j*5+3,none⟩=some (.int .u64 y.ts)∧w'.cell? ⟨bb,ob+j*5+4,none⟩=some (.string y.val)) w3:=by
     have q1:=HXq.1
     have q2:=HXq.2
     have hCa:=(HR.1 w3 HJ3.below).at_ i x q1
     have hCb:=(HR.2 w3 HJ3.below).at_ j y q2
     exact⟨hCa.1,hCa.2.1,hCa.2.2.1,hCa.2.2.2.1,hCa.2.2.2.2,hCb.1,hCb.2.1,hCb.2.2.1,hCb.2.2.2.1,hCb.2.2.2.2⟩
    clear hb3 hb3'
    refine hK.out _ _ (.inr hS3) ?_
    clear hK
    try simp only[qA,List.getElem_toArray,List.getElem_cons_zero,List.getElem_cons_succ]
    refine qT 7 ?vun7 rfl ?yun7 hS3 ?_
    case yun7=>exact zzR19
    try simp only[qA,List.getElem_toArray,List.getElem_cons_zero,List.getElem_cons_succ]
    refine qD ?_
    obtain⟨L,f,hU1,hf1,hm1,hO1⟩:=HJ3.own
    have HO1:Hid (OwnC w3 w.heap.size g cp L∧m=L.length∧Below w.heap.size w w3):=⟨hO1,hm1,HJ3.below⟩
    have HKm:Hid (m=L.length):=hm1
    obtain⟨f',hf'⟩:∃f',f=f'+1:=⟨f-1,by rw[HXY.1]at hf1;simp at hf1;omega⟩
    subst hf'
    have HU1:Hid (U=L++mrgU (f'+1) (x::la.drop (i+1)) (y::lb.drop (j+1))∧(la.drop (i+1)).length+(lb.drop (j+1)).length+1≤f'):=by
     rw[HXY.1,HXY.2]at hU1 hf1
     refine⟨hU1,?_⟩
     simp only[List.length_cons]at hf1
     omega
    obtain⟨d0,d1,d2,d3,d4,e0,e1,e2,e3,e4⟩:=hS3
    have hbz:=HJ3.below.size
    have hgl:=hO1.lt
    clear hU1 hf1 hm1 hO1 hS0 HJ HCm
    by_cases h1:ky=1
    ·subst h1
     go_wp2_with (at_builtin;refine wpList_append_cel _ rfl _ _ rfl w.heap.size g cp _ _ L y rfl rfl HKm.out ?hO ?hc ?hl ?hb ?_)
     case hO=>exact HO1.1.below (qB) (by omega)
     case hc=>exact cel_new w3 y
     case hl=>rw[←HKm.out];omega
     case hb=>(first|omega|(simp;omega))
     intro g' cp' w' hO' hgr
     have HNJ:Hid (UnJ w la lb U (i) (j+1) g' cp' (m+1) w'):=by
      refine⟨⟨L++ [y],f',?_,?_,by rw[List.length_append,←HKm.out];rfl,hO'⟩,?_⟩
      ·rw[HU1.1]
       simp[mrgU,←HKy.out,HXY.1]
      ·have h9:=HU1.2
       rw[HXY.1];simp only[List.length_cons]
       omega
      ·exact(HO1.2.2.alloc HO1.2.2.size _).grown hgr (by simp;omega) (fun q hq=>by cases hq;omega)
     clear hO' hgr d0 d1 d2 d3 d4 e0 e1 e2 e3 e4
     go_wp2_with fail
     go_roundw
     case rel=>exact⟨i,j+1,g',cp',m+1,_,_,by omega,by omega,fun _=>rfl,slice_off bb ob cb NB j hcb,rfl,slice_step bb ob cb NB j,rfl,by omega,HNJ.out⟩
     case measure=>(go_light;simp;try omega)
    ·by_cases h0:ky=0
     ·subst h0
      go_wp2_with (at_builtin;refine wpList_append_cel _ rfl _ _ rfl w.heap.size g cp _ _ L x rfl rfl HKm.out ?hO ?hc ?hl ?hb ?_)
      case hO=>exact HO1.1.below (qB) (by omega)
      case hc=>exact cel_new w3 x
      case hl=>rw[←HKm.out];omega
      case hb=>(first|omega|(simp;omega))
      intro g' cp' w' hO' hgr
      have HNJ:Hid (UnJ w la lb U (i+1) (j+1) g' cp' (m+1) w'):=by
       refine⟨⟨L++ [x],f',?_,?_,by rw[List.length_append,←HKm.out];rfl,hO'⟩,?_⟩
       ·rw[HU1.1]
        simp[mrgU,←HKy.out]
       ·have h9:=HU1.2
        omega
       ·exact(HO1.2.2.alloc HO1.2.2.size _).grown hgr (by simp;omega) (fun q hq=>by cases hq;omega)
      clear hO' hgr d0 d1 d2 d3 d4 e0 e1 e2 e3 e4
      go_wp2_with fail
      go_roundw
      case rel=>exact⟨i+1,j+1,g',cp',m+1,_,_,by omega,by omega,slice_off ba oa ca NA i hca,slice_off bb ob cb NB j hcb,slice_step ba oa ca NA i,slice_step bb ob cb NB j,rfl,by omega,HNJ.out⟩
      case measure=>(go_light;simp;try omega)
     ·obtain rfl:ky= -1:=by omega
      go_wp2_with (at_builtin;refine wpList_append_cel _ rfl _ _ rfl w.heap.size g cp _ _ L x rfl rfl HKm.out ?hO ?hc ?hl ?hb ?_)
      case hO=>exact HO1.1.below (qB) (by omega)
      case hc=>exact cel_new w3 x
      case hl=>rw[←HKm.out];omega
      case hb=>(first|omega|(simp;omega))
      intro g' cp' w' hO' hgr
      have HNJ:Hid (UnJ w la lb U (i+1) (j) g' cp' (m+1) w'):=by
       refine⟨⟨L++ [x],f',?_,?_,by rw[List.length_append,←HKm.out];rfl,hO'⟩,?_⟩
       ·rw[HU1.1]
        simp[mrgU,←HKy.out,HXY.2]
       ·have h9:=HU1.2
        rw[HXY.2];simp only[List.length_cons]
        omega
       ·exact(HO1.2.2.alloc HO1.2.2.size _).grown hgr (by simp;omega) (fun q hq=>by cases hq;omega)
      clear hO' hgr d0 d1 d2 d3 d4 e0 e1 e2 e3 e4
      go_wp2_with fail
      go_roundw
      case rel=>exact⟨i+1,j,g',cp',m+1,_,_,by omega,by omega,slice_off ba oa ca NA i hca,fun _=>rfl,slice_step ba oa ca NA i,rfl,rfl,by omega,HNJ.out⟩
      case measure=>(go_light;simp;try omega)
   ·have zi:(0:Int)<((NA-i:Nat):Int):=by omega
    have zj:¬(0:Int)<((NB-j:Nat):Int):=by omega
    have hdb:lb.drop j= []:=List.drop_of_length_le (by rw[←HN.2];omega)
    obtain⟨L,f,hU1,hf1,hm1,hO1⟩:=HJ.own
    have HE:Hid (U=L++(la.drop i++lb.drop j)):=by
     show _=_
     rw[hU1,hdb,mrgU_nilr,List.append_nil]
    have HO1:Hid (OwnC wr w.heap.size g cp L∧m=L.length∧Below w.heap.size w wr):=⟨hO1,hm1,HJ.below⟩
    have HKm:Hid (m=L.length):=hm1
    have HA1:Hid (CelsAt wr ba pa (la.drop i)∧NA-i=(la.drop i).length):=⟨cels_drop ((HR.1 wr HJ.below).drop (k:=i) (by rw[←HN.1];omega)).at_ (fun q=>hpa (by rw[HN.1];exact q)),by rw[List.length_drop,←HN.1]<;>omega⟩
    have HB1:Hid ((∀wx,Below w.heap.size w wx→CelsAt wx bb pb (lb.drop j))∧NB-j=(lb.drop j).length):=⟨fun wx hx=>cels_drop ((HR.2 wx hx).drop (k:=j) (by rw[←HN.2];omega)).at_ (fun q=>hpb (by rw[HN.2];exact q)),by rw[List.length_drop,←HN.2]<;>omega⟩
    have HLA:Hid (NA-i=(la.drop i).length):=HA1.2
    have HLB:Hid (NB-j=(lb.drop j).length):=HB1.2
    have hbz:=HJ.below.size
    have hgl:=hO1.lt
    clear hdb hU1 hf1 hm1 hO1 HJ hpa hpb
    obtain⟨za,hza⟩:∃z,z=NA-i:=⟨_,rfl⟩
    obtain⟨zb,hzb⟩:∃z,z=NB-j:=⟨_,rfl⟩
    have HZ:Hid (za=NA-i∧zb=NB-j):=⟨hza,hzb⟩
    have zi2:(0:Int)<(za:Int):=by omega
    have zj2:¬(0:Int)<(zb:Int):=by omega
    rw[←hza]at HLA⊢
    rw[←hzb]at HLB⊢
    have hzl:za≤10000∧zb≤10000:=by omega
    have hzl1:=hzl.1
    have hzl2:=hzl.2
    have hm20:m≤20000:=by omega
    clear hza hzb hzl zi zj hli hlj
    go_upto_region 10 with fail
    clear zi2 zj2
    go_wp2_with (at_builtin;refine wpList_append_cels _ rfl _ _ rfl w.heap.size g cp _ _ _ _ _ L (la.drop i) rfl rfl HKm.out HLA.out ?hO ?hc ?hl ?hb ?_)
    case hO=>exact HO1.1
    case hc=>exact HA1.1
    case hl=>(have h8:=HKm.out;have h9:=HLA.out;omega)
    try (case hb=>omega)
    intro g' cp' w' hO' hgr
    have HN2:Hid (OwnC w' w.heap.size g' cp' (L++la.drop i)∧m+za=(L++la.drop i).length∧Below w.heap.size w w'):=⟨hO',by rw[List.length_append,←HKm.out,←HLA.out],HO1.2.2.grown hgr hbz (fun q hq=>by cases hq;omega)⟩
    have HKm2:Hid (m+za=(L++la.drop i).length):=HN2.2.1
    have hbz2:=HN2.2.2.size
    have hgl2:=hO'.lt
    clear hO' hgr
    go_wp2_with (at_builtin;refine wpList_append_cels _ rfl _ _ rfl w.heap.size g' cp' _ _ _ _ _ (L++la.drop i) (lb.drop j) rfl rfl HKm2.out HLB.out ?hO ?hc ?hl ?hb ?_)
    case hO=>exact HN2.1
    case hc=>exact HB1.1 w' HN2.2.2
    case hl=>(have h8:=HKm2.out;have h9:=HLB.out;omega)
    try (case hb=>omega)
    exact zzQ34
  ·have zi:¬(0:Int)<((NA-i:Nat):Int):=by omega
   have hda:la.drop i= []:=List.drop_of_length_le (by rw[←HN.1];omega)
   obtain⟨L,f,hU1,hf1,hm1,hO1⟩:=HJ.own
   have HE:Hid (U=L++(la.drop i++lb.drop j)):=by
    show _=_
    rw[hU1,hda,mrgU_nil,List.nil_append]
   have HO1:Hid (OwnC wr w.heap.size g cp L∧m=L.length∧Below w.heap.size w wr):=⟨hO1,hm1,HJ.below⟩
   have HKm:Hid (m=L.length):=hm1
   have HA1:Hid (CelsAt wr ba pa (la.drop i)∧NA-i=(la.drop i).length):=⟨cels_drop ((HR.1 wr HJ.below).drop (k:=i) (by rw[←HN.1];omega)).at_ (fun q=>hpa (by rw[HN.1];exact q)),by rw[List.length_drop,←HN.1]<;>omega⟩
   have HB1:Hid ((∀wx,Below w.heap.size w wx→CelsAt wx bb pb (lb.drop j))∧NB-j=(lb.drop j).length):=⟨fun wx hx=>cels_drop ((HR.2 wx hx).drop (k:=j) (by rw[←HN.2];omega)).at_ (fun q=>hpb (by rw[HN.2];exact q)),by rw[List.length_drop,←HN.2]<;>omega⟩
   have HLA:Hid (NA-i=(la.drop i).length):=HA1.2
   have HLB:Hid (NB-j=(lb.drop j).length):=HB1.2
   have hbz:=HJ.below.size
   have hgl:=hO1.lt
   clear hda hU1 hf1 hm1 hO1 HJ hpa hpb
   obtain⟨za,hza⟩:∃z,z=NA-i:=⟨_,rfl⟩
   obtain⟨zb,hzb⟩:∃z,z=NB-j:=⟨_,rfl⟩
   have HZ:Hid (za=NA-i∧zb=NB-j):=⟨hza,hzb⟩
   have zi2:((0:Int)<(za:Int))=False:=eq_false (by omega)
   have zi3:(0<za)=False:=eq_false (by omega)
   rw[←hza]at HLA⊢
   rw[←hzb]at HLB⊢
   have hzl:za≤10000∧zb≤10000:=by omega
   have hzl1:=hzl.1
   have hzl2:=hzl.2
   have hm20:m≤20000:=by omega
   clear hza hzb hzl zi hli
   go_upto_region 10 with fail
   clear zi2 zi3
   go_wp2_with (at_builtin;refine wpList_append_cels _ rfl _ _ rfl w.heap.size g cp _ _ _ _ _ L (la.drop i) rfl rfl HKm.out HLA.out ?hO ?hc ?hl ?hb ?_)
   case hO=>exact HO1.1
   case hc=>exact HA1.1
   case hl=>(have h8:=HKm.out;have h9:=HLA.out;omega)
   try (case hb=>omega)
   intro g' cp' w' hO' hgr
   have HN2:Hid (OwnC w' w.heap.size g' cp' (L++la.drop i)∧m+za=(L++la.drop i).length∧Below w.heap.size w w'):=⟨hO',by rw[List.length_append,←HKm.out,←HLA.out],HO1.2.2.grown hgr hbz (fun q hq=>by cases hq;omega)⟩
   have HKm2:Hid (m+za=(L++la.drop i).length):=HN2.2.1
   have hbz2:=HN2.2.2.size
   have hgl2:=hO'.lt
   clear hO' hgr
   go_wp2_with (at_builtin;refine wpList_append_cels _ rfl _ _ rfl w.heap.size g' cp' _ _ _ _ _ (L++la.drop i) (lb.drop j) rfl rfl HKm2.out HLB.out ?hO ?hc ?hl ?hb ?_)
   case hO=>exact HN2.1
   case hc=>exact HB1.1 w' HN2.2.2
   case hl=>(have h8:=HKm2.out;have h9:=HLB.out;omega)
   try (case hb=>omega)
   exact zzQ34
def SameRow (es:List Ent):Prop:=∀x∈es,∀y∈es,x.row=y.row
theorem Sub.sameRow {row l:List Ent} (h:Sub row l) (hr:SameRow row):SameRow l:=fun x hx y hy=>by
 obtain⟨u,hu,k1⟩:=h.key x hx
 obtain⟨v,hv,k2⟩:=h.key y hy
 rw[(keyCmp_zero.1 k1).1,(keyCmp_zero.1 k2).1]
 exact hr u hu v hv
theorem colB_iff {a b:Ent}:colB a b=true↔a.fam=b.fam∧a.qual=b.qual:=by
 unfold colB
 simp only[Bool.and_eq_true,beq_iff_eq]
 exact⟨fun h=>⟨toList_inj h.1,toList_inj h.2⟩,fun h=>⟨by rw[h.1],by rw[h.2]⟩⟩
theorem firstOf_le {a b:Int} (h:firstOf a b= -1) (ha:a= -1∨a=0∨a=1):a= -1∨(a=0∧b= -1):=by
 unfold firstOf at h
 split at h
 ·rename_i q;exact .inr ⟨q,h⟩
 ·exact .inl h
theorem col_between {x p c:Ent} (hr:x.row=p.row) (hr2:p.row=c.row) (h1:keyCmp x p= -1) (h2:keyCmp p c= -1) (hc:colB x c=true):colB p c=true:=by
 obtain⟨hf,hq⟩:=colB_iff.1 hc
 unfold keyCmp at h1 h2
 have z1:cB x.row p.row=0:=cB_zero.2 hr
 have z2:cB p.row c.row=0:=cB_zero.2 hr2
 rw[z1]at h1
 rw[z2]at h2
 have e1:firstOf (cB x.fam p.fam) (firstOf (cB x.qual p.qual) (firstOf (kindCmp x.kind p.kind) (tsCmp x.ts p.ts)))= -1:=h1
 have e2:firstOf (cB p.fam c.fam) (firstOf (cB p.qual c.qual) (firstOf (kindCmp p.kind c.kind) (tsCmp p.ts c.ts)))= -1:=h2
 rw[←hf,←hq]at e2
 have nf:=cB_neg x.fam p.fam
 have nq:=cB_neg x.qual p.qual
 rcases firstOf_le e1 (cB_vals _ _)with a1|⟨a1,a2⟩
 ·rcases firstOf_le e2 (cB_vals _ _)with b1|⟨b1,b2⟩<;>omega
 ·rcases firstOf_le e2 (cB_vals _ _)with b1|⟨b1,b2⟩
  ·omega
  ·rcases firstOf_le a2 (cB_vals _ _)with c1|⟨c1,c2⟩
   ·rcases firstOf_le b2 (cB_vals _ _)with d1|⟨d1,d2⟩<;>omega
   ·rcases firstOf_le b2 (cB_vals _ _)with d1|⟨d1,d2⟩
    ·omega
    ·exact colB_iff.2 ⟨by rw[←hf];exact(cB_zero.1 a1).symm,by rw[←hq];exact(cB_zero.1 c1).symm⟩
theorem befN_congr {pre:List Ent} {p c:Ent} (h:colB p c=true):befN pre c=befN pre p:=by
 obtain⟨h1,h2⟩:=colB_iff.1 h
 unfold befN colB
 rw[h1,h2]
theorem befN_none {es:List Ent} (ho:Ord es) (hr:SameRow es) {i:Nat} {p c:Ent} (hp:es[i]?=some p) (hc:es[i+1]?=some c) (hn:colB p c=false):befN (es.take (i+1)) c=0:=by
 unfold befN
 rw[List.countP_eq_zero]
 intro x hx hcx
 obtain⟨k,hk⟩:=List.getElem?_of_mem hx
 rw[List.getElem?_take]at hk
 split at hk
 ·rename_i hki
  by_cases he:k=i
  ·subst he
   rw[hp]at hk
   cases hk
   rw[hn]at hcx
   cases hcx
  ·have pw:=fun(a b:Nat) (u v:Ent) (hab:a<b) (hu:es[a]?=some u) (hv:es[b]?=some v)=>(show keyCmp u v= -1 from by
    obtain⟨h1,e1⟩:=List.getElem?_eq_some_iff.1 hu
    obtain⟨h2,e2⟩:=List.getElem?_eq_some_iff.1 hv
    have:=List.pairwise_iff_getElem.1 ho a b h1 h2 hab
    rw[e1,e2]at this
    exact this)
   have:=col_between (hr x (List.mem_of_getElem? hk) p (List.mem_of_getElem? hp)) (hr p (List.mem_of_getElem? hp) c (List.mem_of_getElem? hc)) (pw k i x p (by omega) hk hp) (pw i (i+1) p c (by omega) hp hc) hcx
   rw[hn]at this
   cases this
 ·cases hk
theorem befN_self {es:List Ent} {i:Nat} {c:Ent} (hc:es[i]?=some c):befN (es.take (i+1)) c=befN (es.take i) c+1:=by
 rw[befN_succ hc,if_pos]
 exact colB_iff.2 ⟨rfl,rfl⟩
structure VsJ (w:World) (b off cap:Nat) (es:List Ent) (g cp:Nat) (L:List Ent) (wr:World):Prop where
 own:OwnC wr w.heap.size g cp L
 row:CSl wr b off cap es
 low:b<w.heap.size
 below:Below w.heap.size w wr
theorem VsJ.move {w:World} {b off cap:Nat} {es:List Ent} {g cp:Nat} {L:List Ent} {wr w':World} (h:VsJ w b off cap es g cp L wr) (hb:Below wr.heap.size wr w'):VsJ w b off cap es g cp L w':=
 ⟨h.own.below hb h.own.lt.2,h.row.below hb,h.low,h.below.trans (hb.mono h.below.size)⟩
theorem VsJ.push {w:World} {b off cap:Nat} {es:List Ent} {g cp g' cp':Nat} {L L':List Ent} {X w':World} (h:VsJ w b off cap es g cp L X) (hO:OwnC w' w.heap.size g' cp' L') (hg:X.grownBy w' (some g)):VsJ w b off cap es g' cp' L' w':=by
 have hc:Chg (fun k=>k=g) X w':=Chg.of_grown hg (fun k q=>by cases q;rfl)
 have hgl:=h.own.lt
 have hlo:=h.low
 exact⟨hO,h.row.chg hc (by omega),hlo,h.below.grown hg h.below.size (fun j hj=>by cases hj;omega)⟩
def CntOf (es:List Ent) (i ct:Nat):Prop:=(i=0∧ct=0)∨∃p,0<i∧es[i-1]?=some p∧ct=befN (es.take i) p
set_option maxHeartbeats 8000000 in
theorem versions_core (n:Nd) (hk:n.kind=11) (hn:1≤n.n∧n.n≤1000) {w:World} {b off cap:Nat} {es:List Ent} (h:CSl w b off cap es) (ho:Ord es) (hr:SameRow es) (hl:es.length≤10000):Calls Tryz.prog 68 #[.slice (some ⟨b,off,none⟩) es.length cap,.int .i64 n.n] w fun e w'=>∃g cp,e=.returned (.slice (some ⟨g,0,none⟩) (leafM n es).length cp)∧OwnC w' w.heap.size g cp (leafM n es)∧Below w.heap.size w w':=by
 obtain⟨N,hN⟩:=qE es.length
 have HL:Hid (N=es.length∧Ord es∧SameRow es):=⟨hN,ho,hr⟩
 have HLM:Hid (leafM n es=leafG n [] (es.take N)):=by show _=_;rw[hN,List.take_length];rfl
 have HKB:Hid (∀(pre:List Ent) (c:Ent),keepB n pre c=decide ((befN pre c:Int)<n.n)∧stripE n c=c):=fun pre c=>by
  unfold keepB stripE
  rw[if_pos hk,if_neg (by omega)]
  exact⟨rfl,rfl⟩
 obtain⟨M,hM⟩:=qE n.n
 rw[←hM]at HKB hn⊢
 have hn1:=hn.1
 have hn2:=hn.2
 obtain⟨W0,hW0⟩:=qE (w.alloc (.cells #[] 55):World)
 have HJ0:Hid (VsJ w b off cap es w.heap.size 0 [] W0):=by
  have k1:Below w.heap.size w W0:=by rw[hW0];exact qB
  exact⟨by rw[hW0];exact ownC_new w,h.below k1,h.lt,k1⟩
 rw[←hN]
 rw[←hN]at hl
 clear h hN hk hM hn ho hr
 go_enter Tryz.func68,Tryz.ntmps68
 go_wp2_with fail
 rw[←hW0]
 clear hW0
 go_loopw[5,6,12] (fun o cv iv wr=>∃(i g cp m ct:Nat),i≤N∧iv=.int .i64 (i:Int)∧o=.slice (some ⟨g,0,none⟩) m cp∧cv=.int .i64 (ct:Int)∧ct≤i∧Hid (CntOf es i ct∧m=(leafG n [] (es.take i)).length∧VsJ w b off cap es g cp (leafG n [] (es.take i)) wr)) (fun _ _ iv _=>N-(intOf iv).toNat)
 case atStart=>exact⟨0,w.heap.size,0,0,0,Nat.zero_le _,rfl,rfl,rfl,Nat.le_refl _,.inl ⟨rfl,rfl⟩,rfl,HJ0.out⟩
 case round=>
  obtain⟨i,g,cp,m,ct,hiN,rfl,rfl,rfl,hcti,HJ⟩:=hrel
  by_cases hlt:i<N
  ·have zi:(i:Int)<(N:Int):=by omega
   obtain⟨c,hc⟩:∃c,es[i]?=some c:=⟨_,List.getElem?_eq_getElem (by have:=HL.1;omega)⟩
   obtain⟨bf,hbf⟩:=qE (befN (es.take i) c)
   have hbl:bf≤i:=by
    rw[hbf]
    refine Nat.le_trans List.countP_le_length ?_
    rw[List.length_take]
    omega
   have HStep:Hid ((((bf:Int)<M)→leafG n [] (es.take (i+1))=leafG n [] (es.take i)++ [c])∧((¬(bf:Int)<M)→leafG n [] (es.take (i+1))=leafG n [] (es.take i))):=by
    have h1:=leaf_step n hc
    rw[(HKB.out (es.take i) c).1,(HKB.out (es.take i) c).2,←hbf]at h1
    refine⟨fun q=>?_,fun q=>?_⟩
    ·rw[h1,if_pos (decide_eq_true q)]
    ·rw[h1,if_neg (by rw[decide_eq_true_iff];exact q),List.append_nil]
   have HCt:Hid (CntOf es (i+1) (bf+1)):=.inr ⟨c,by omega,by simpa using hc,by rw[hbf];exact(befN_self hc).symm⟩
   have HM:Hid (m=(leafG n [] (es.take i)).length):=HJ.2.1
   have hml:m≤10000:=by
    rw[HJ.2.1]
    refine Nat.le_trans (leafG_len _ _ _) ?_
    rw[List.length_take]
    omega
   have HBf:Hid (bf=befN (es.take i) c∧es[i]?=some c):=⟨hbf,hc⟩
   obtain⟨c0,c1,c2,c3,c4⟩:=HJ.2.2.row.at_ i c hc
   obtain⟨W1,hW1⟩:=qE (wr.alloc (.cells #[.string c.row,.string c.fam,.string c.qual,.int .u64 c.ts,.string c.val] 55):World)
   have hb1:Below wr.heap.size wr W1:=by rw[hW1];exact qB
   obtain⟨cb,hcb⟩:=qE wr.heap.size
   have HB1:Hid (VsJ w b off cap es g cp (leafG n [] (es.take i)) W1∧BoxAt W1 w.heap.size 55 5 cb c.five):=by
    refine⟨HJ.2.2.move hb1,?_⟩
    rw[hW1,hcb];exact boxAt_new wr #[.string c.row,.string c.fam,.string c.qual,.int .u64 c.ts,.string c.val] HJ.2.2.below.size rfl
   have HC0:Hid (CntOf es i ct):=HJ.1
   go_upto_region 6 with fail
   rw[←hW1,←hcb]
   clear hW1 hcb hb1 c0 c1 c2 c3 c4 hc hbf HJ
   have hd1:Below W1.heap.size W1 W1.drew:=(Below.refl _ _).drew
   have HB2:Hid (VsJ w b off cap es g cp (leafG n [] (es.take i)) W1.drew∧BoxAt W1.drew w.heap.size 55 5 cb c.five):=⟨HB1.1.move hd1,HB1.2.below hd1⟩
   by_cases hi0:i=0
   ·have HI0:Hid (i=0):=hi0
    have hb0:bf=0:=by have h9:=HBf.1;rw[hi0,List.take_zero]at h9;exact h9
    subst hb0
    clear hi0
    have hS0:(fun _:World=>True) W1.drew:=trivial
    refine wp_region_T 99 (fun _:World=>True) (by kernel_rfl) ?_
    refine qT 0 ?vva0 rfl ?yva0 hS0 ?_
    case yva0=>exact zzR13
    try simp only[qA,List.getElem_toArray,List.getElem_cons_zero,List.getElem_cons_succ]
    refine qT 1 (.bool true) rfl ?yva1 hS0 ?_
    case yva1=>(intro wz hSw;obtain _hz:=hSw;go_simp;(try simp[HI0.out]);(try with_reducible rfl))
    try simp only[qA,List.getElem_toArray,List.getElem_cons_zero,List.getElem_cons_succ]
    refine qT 2 ?vva2 rfl ?yva2 hS0 ?_
    case yva2=>exact zzR13
    try simp only[qA,List.getElem_toArray,List.getElem_cons_zero,List.getElem_cons_succ]
    refine anyT_takeN (i:=3) (v:=undef) rfl (by kernel_rfl) (by kernel_rfl) (by kernel_rfl) (by rfl) (fun _ _ _ h=>h) (Or.inr ⟨by rfl,rfl⟩) hS0 ?_
    try simp only[qA,List.getElem_toArray,List.getElem_cons_zero,List.getElem_cons_succ]
    refine anyT_takeN (i:=4) (v:=undef) rfl (by kernel_rfl) (by kernel_rfl) (by kernel_rfl) (by rfl) (fun _ _ _ h=>h) (Or.inr ⟨by rfl,rfl⟩) hS0 ?_
    try simp only[qA,List.getElem_toArray,List.getElem_cons_zero,List.getElem_cons_succ]
    refine anyT_takeN (i:=5) (v:=undef) rfl (by kernel_rfl) (by kernel_rfl) (by kernel_rfl) (by rfl) (fun _ _ _ h=>h) (Or.inr ⟨by rfl,rfl⟩) hS0 ?_
    try simp only[qA,List.getElem_toArray,List.getElem_cons_zero,List.getElem_cons_succ]
    refine anyT_takeN (i:=6) (v:=undef) rfl (by kernel_rfl) (by kernel_rfl) (by kernel_rfl) (by rfl) (fun _ _ _ h=>h) (Or.inr ⟨by rfl,rfl⟩) hS0 ?_
    try simp only[qA,List.getElem_toArray,List.getElem_cons_zero,List.getElem_cons_succ]
    refine anyT_takeN (i:=7) (v:=undef) rfl (by kernel_rfl) (by kernel_rfl) (by kernel_rfl) (by rfl) (fun _ _ _ h=>h) (Or.inr ⟨by rfl,rfl⟩) hS0 ?_
    try simp only[qA,List.getElem_toArray,List.getElem_cons_zero,List.getElem_cons_succ]
    refine anyT_takeN (i:=8) (v:=undef) rfl (by kernel_rfl) (by kernel_rfl) (by kernel_rfl) (by rfl) (fun _ _ _ h=>h) (Or.inr ⟨by rfl,rfl⟩) hS0 ?_
    try simp only[qA,List.getElem_toArray,List.getElem_cons_zero,List.getElem_cons_succ]
    refine anyT_takeN (i:=9) (v:=undef) rfl (by kernel_rfl) (by kernel_rfl) (by kernel_rfl) (by rfl) (fun _ _ _ h=>h) (Or.inr ⟨by rfl,rfl⟩) hS0 ?_
    try simp only[qA,List.getElem_toArray,List.getElem_cons_zero,List.getElem_cons_succ]
    refine anyT_takeN (i:=10) (v:=undef) rfl (by kernel_rfl) (by kernel_rfl) (by kernel_rfl) (by rfl) (fun _ _ _ h=>h) (Or.inr ⟨by rfl,rfl⟩) hS0 ?_
    try simp only[qA,List.getElem_toArray,List.getElem_cons_zero,List.getElem_cons_succ]
    refine anyT_takeN (i:=11) (v:=undef) rfl (by kernel_rfl) (by kernel_rfl) (by kernel_rfl) (by rfl) (fun _ _ _ h=>h) (Or.inr ⟨by rfl,rfl⟩) hS0 ?_
    try simp only[qA,List.getElem_toArray,List.getElem_cons_zero,List.getElem_cons_succ]
    refine qT 12 ?vva12 rfl ?yva12 hS0 ?_
    case yva12=>exact zzR13
    try simp only[qA,List.getElem_toArray,List.getElem_cons_zero,List.getElem_cons_succ]
    refine qT 13 ?vva13 rfl ?yva13 hS0 ?_
    case yva13=>exact zzR13
    try simp only[qA,List.getElem_toArray,List.getElem_cons_zero,List.getElem_cons_succ]
    refine anyT_takeN (i:=14) (v:=undef) rfl (by kernel_rfl) (by kernel_rfl) (by kernel_rfl) (by rfl) (fun _ _ _ h=>h) (Or.inr ⟨by rfl,rfl⟩) hS0 ?_
    try simp only[qA,List.getElem_toArray,List.getElem_cons_zero,List.getElem_cons_succ]
    refine anyT_takeN (i:=15) (v:=undef) rfl (by kernel_rfl) (by kernel_rfl) (by kernel_rfl) (by rfl) (fun _ _ _ h=>h) (Or.inr ⟨by rfl,rfl⟩) hS0 ?_
    try simp only[qA,List.getElem_toArray,List.getElem_cons_zero,List.getElem_cons_succ]
    refine anyT_takeN (i:=16) (v:=undef) rfl (by kernel_rfl) (by kernel_rfl) (by kernel_rfl) (by rfl) (fun _ _ _ h=>h) (Or.inr ⟨by rfl,rfl⟩) hS0 ?_
    try simp only[qA,List.getElem_toArray,List.getElem_cons_zero,List.getElem_cons_succ]
    refine anyT_takeN (i:=17) (v:=undef) rfl (by kernel_rfl) (by kernel_rfl) (by kernel_rfl) (by rfl) (fun _ _ _ h=>h) (Or.inr ⟨by rfl,rfl⟩) hS0 ?_
    try simp only[qA,List.getElem_toArray,List.getElem_cons_zero,List.getElem_cons_succ]
    refine anyT_takeN (i:=18) (v:=undef) rfl (by kernel_rfl) (by kernel_rfl) (by kernel_rfl) (by rfl) (fun _ _ _ h=>h) (Or.inr ⟨by rfl,rfl⟩) hS0 ?_
    try simp only[qA,List.getElem_toArray,List.getElem_cons_zero,List.getElem_cons_succ]
    refine anyT_takeN (i:=19) (v:=undef) rfl (by kernel_rfl) (by kernel_rfl) (by kernel_rfl) (by rfl) (fun _ _ _ h=>h) (Or.inr ⟨by rfl,rfl⟩) hS0 ?_
    try simp only[qA,List.getElem_toArray,List.getElem_cons_zero,List.getElem_cons_succ]
    refine anyT_takeN (i:=20) (v:=undef) rfl (by kernel_rfl) (by kernel_rfl) (by kernel_rfl) (by rfl) (fun _ _ _ h=>h) (Or.inr ⟨by rfl,rfl⟩) hS0 ?_
    try simp only[qA,List.getElem_toArray,List.getElem_cons_zero,List.getElem_cons_succ]
    refine anyT_takeN (i:=21) (v:=undef) rfl (by kernel_rfl) (by kernel_rfl) (by kernel_rfl) (by rfl) (fun _ _ _ h=>h) (Or.inr ⟨by rfl,rfl⟩) hS0 ?_
    try simp only[qA,List.getElem_toArray,List.getElem_cons_zero,List.getElem_cons_succ]
    refine anyT_takeN (i:=22) (v:=undef) rfl (by kernel_rfl) (by kernel_rfl) (by kernel_rfl) (by rfl) (fun _ _ _ h=>h) (Or.inr ⟨by rfl,rfl⟩) hS0 ?_
    try simp only[qA,List.getElem_toArray,List.getElem_cons_zero,List.getElem_cons_succ]
    refine qT 23 ?vva23 rfl ?yva23 hS0 ?_
    case yva23=>exact zzR13
    try simp only[qA,List.getElem_toArray,List.getElem_cons_zero,List.getElem_cons_succ]
    refine qD ?_
    by_cases gq:(0:Int)<M
    ·have HSt:Hid (leafG n [] (es.take (i+1))=leafG n [] (es.take i)++ [c]):=HStep.1 gq
     obtain⟨d0,d1,d2,d3,d4⟩:=HB2.2.c5
     have HKm:Hid (m=(leafG n [] (es.take i)).length):=HM.out
     have hgl:=HB2.1.own.lt
     have hz2:=HB2.1.below.size
     obtain⟨X,hX⟩:=qE W1.drew
     rw[←hX]at HB2 d0 d1 d2 d3 d4 hgl hz2⊢
     clear hX HStep
     go_wp2_with (at_builtin;refine wpList_append_cel _ rfl _ _ rfl w.heap.size g cp _ _ (leafG n [] (es.take i)) c rfl rfl HKm.out ?hO ?hc ?hl ?hb ?_)
     case hO=>exact HB2.1.own.below (qB) hgl.2
     case hc=>exact cel_new X c
     case hl=>rw[←HKm.out];omega
     case hb=>(first|omega|(simp;omega))
     intro g' cp' w' hO' hgr
     have HN:Hid (CntOf es (i+1) (0+1)∧m+1=(leafG n [] (es.take (i+1))).length∧VsJ w b off cap es g' cp' (leafG n [] (es.take (i+1))) w'):=by
      rw[HSt.out]
      exact⟨HCt.out,by rw[List.length_append,←HKm.out];rfl,(HB2.1.move (qB)).push hO' hgr⟩
     clear hO' hgr d0 d1 d2 d3 d4
     go_wp2_with fail
     go_roundw
     case rel=>exact⟨i+1,g',cp',m+1,0+1,by omega,by go_num,rfl,by go_num,by omega,HN.out⟩
     case measure=>go_light;simp[intOf];omega
    ·have HN:Hid (CntOf es (i+1) (0+1)∧m=(leafG n [] (es.take (i+1))).length∧VsJ w b off cap es g cp (leafG n [] (es.take (i+1))) W1.drew):=by
      rw[HStep.2 gq]
      exact⟨HCt.out,HM.out,HB2.1⟩
     clear HStep
     go_wp2_with fail
     go_roundw
     case rel=>exact⟨i+1,g,cp,m,0+1,by omega,by go_num,rfl,by go_num,by omega,HN.out⟩
     case measure=>go_light;simp[intOf];omega
   obtain⟨q,rfl⟩:∃q,i=q+1:=⟨i-1,by omega⟩
   have zi0:(((q+1:Nat):Int)==0)=false:=by rw[beq_eq_false_iff_ne];omega
   have zim:(q:Int)<(N:Int):=by omega
   have hwr:IntKind.i64.wrap (q:Int)=(q:Int):=by rw[IntKind.wrap_i64];omega
   obtain⟨p,hp,hct⟩:∃p,es[q]?=some p∧ct=befN (es.take (q+1)) p:=by
    rcases HC0.out with⟨q,_⟩|⟨p,_,h1,h2⟩
    ·omega
    ·exact⟨p,h1,h2⟩
   obtain⟨-,p1,p2,-,-⟩:=HB2.1.row.at_ q p hp
   have hS0:(fun w':World=>w'.cell? ⟨b,off+q*5+1,none⟩=some (.string p.fam)∧w'.cell? ⟨b,off+q*5+2,none⟩=some (.string p.qual)∧w'.cell? ⟨cb,1,none⟩=some (.string c.fam)∧w'.cell? ⟨cb,2,none⟩=some (.string c.qual)) W1.drew:=⟨p1,p2,HB2.2.cell (j:=1) rfl,HB2.2.cell (j:=2) rfl⟩
   have HSame:Hid (colB p c=true→ct=bf):=fun q=>by rw[hct,HBf.1,befN_congr q]
   have HDiff:Hid (colB p c=false→bf=0):=fun z=>by
    rw[HBf.1];exact befN_none HL.2.1 HL.2.2 hp HBf.2 z
   clear p1 p2 hp hct hi0
   cases hf:(p.fam.toList==c.fam.toList)
   ·have hb0:bf=0:=HDiff.out (by unfold colB;rw[hf];rfl)
    subst hb0
    clear HSame HDiff HC0 HBf
    refine wp_region_T 99 (fun w':World=>w'.cell? ⟨b,off+q*5+1,none⟩=some (.string p.fam)∧w'.cell? ⟨b,off+q*5+2,none⟩=some (.string p.qual)∧w'.cell? ⟨cb,1,none⟩=some (.string c.fam)∧w'.cell? ⟨cb,2,none⟩=some (.string c.qual)) (by kernel_rfl) ?_
    refine qT 0 ?vvb0 rfl ?yvb0 hS0 ?_
    case yvb0=>exact zzR0
    try simp only[qA,List.getElem_toArray,List.getElem_cons_zero,List.getElem_cons_succ]
    refine qT 1 ?vvb1 rfl ?yvb1 hS0 ?_
    case yvb1=>exact zzR0
    try simp only[qA,List.getElem_toArray,List.getElem_cons_zero,List.getElem_cons_succ]
    refine qT 2 ?vvb2 rfl ?yvb2 hS0 ?_
    case yvb2=>exact zzR0
    try simp only[qA,List.getElem_toArray,List.getElem_cons_zero,List.getElem_cons_succ]
    refine qT 3 ?vvb3 rfl ?yvb3 hS0 ?_
    case yvb3=>exact zzR0
    try simp only[qA,List.getElem_toArray,List.getElem_cons_zero,List.getElem_cons_succ]
    refine qT 4 ?vvb4 rfl ?yvb4 hS0 ?_
    case yvb4=>exact zzR0
    try simp only[qA,List.getElem_toArray,List.getElem_cons_zero,List.getElem_cons_succ]
    refine qT 5 ?vvb5 rfl ?yvb5 hS0 ?_
    case yvb5=>exact zzR0
    try simp only[qA,List.getElem_toArray,List.getElem_cons_zero,List.getElem_cons_succ]
    refine qT 6 ?vvb6 rfl ?yvb6 hS0 ?_
    case yvb6=>exact zzR0
    try simp only[qA,List.getElem_toArray,List.getElem_cons_zero,List.getElem_cons_succ]
    refine qT 7 ?vvb7 rfl ?yvb7 hS0 ?_
    case yvb7=>exact zzR0
    try simp only[qA,List.getElem_toArray,List.getElem_cons_zero,List.getElem_cons_succ]
    refine qT 8 ?vvb8 rfl ?yvb8 hS0 ?_
    case yvb8=>exact zzR0
    try simp only[qA,List.getElem_toArray,List.getElem_cons_zero,List.getElem_cons_succ]
    refine qT 9 ?vvb9 rfl ?yvb9 hS0 ?_
    case yvb9=>exact zzR0
    try simp only[qA,List.getElem_toArray,List.getElem_cons_zero,List.getElem_cons_succ]
    refine qT 10 ?vvb10 rfl ?yvb10 hS0 ?_
    case yvb10=>exact zzR0
    try simp only[qA,List.getElem_toArray,List.getElem_cons_zero,List.getElem_cons_succ]
    refine qT 11 ?vvb11 rfl ?yvb11 hS0 ?_
    case yvb11=>(intro wz hSw;obtain⟨hz0,hz1,hz2,hz3⟩:=hSw;go_simp;(try simp[hf]);(try with_reducible rfl))
    try simp only[qA,List.getElem_toArray,List.getElem_cons_zero,List.getElem_cons_succ]
    refine qT 12 ?vvb12 rfl ?yvb12 hS0 ?_
    case yvb12=>exact zzR0
    try simp only[qA,List.getElem_toArray,List.getElem_cons_zero,List.getElem_cons_succ]
    refine qT 13 ?vvb13 rfl ?yvb13 hS0 ?_
    case yvb13=>exact zzR0
    try simp only[qA,List.getElem_toArray,List.getElem_cons_zero,List.getElem_cons_succ]
    refine anyT_takeN (i:=14) (v:=undef) rfl (by kernel_rfl) (by kernel_rfl) (by kernel_rfl) (by rfl) (fun _ _ _ h=>h) (Or.inr ⟨by rfl,rfl⟩) hS0 ?_
    try simp only[qA,List.getElem_toArray,List.getElem_cons_zero,List.getElem_cons_succ]
    refine anyT_takeN (i:=15) (v:=undef) rfl (by kernel_rfl) (by kernel_rfl) (by kernel_rfl) (by rfl) (fun _ _ _ h=>h) (Or.inr ⟨by rfl,rfl⟩) hS0 ?_
    try simp only[qA,List.getElem_toArray,List.getElem_cons_zero,List.getElem_cons_succ]
    refine anyT_takeN (i:=16) (v:=undef) rfl (by kernel_rfl) (by kernel_rfl) (by kernel_rfl) (by rfl) (fun _ _ _ h=>h) (Or.inr ⟨by rfl,rfl⟩) hS0 ?_
    try simp only[qA,List.getElem_toArray,List.getElem_cons_zero,List.getElem_cons_succ]
    refine anyT_takeN (i:=17) (v:=undef) rfl (by kernel_rfl) (by kernel_rfl) (by kernel_rfl) (by rfl) (fun _ _ _ h=>h) (Or.inr ⟨by rfl,rfl⟩) hS0 ?_
    try simp only[qA,List.getElem_toArray,List.getElem_cons_zero,List.getElem_cons_succ]
    refine anyT_takeN (i:=18) (v:=undef) rfl (by kernel_rfl) (by kernel_rfl) (by kernel_rfl) (by rfl) (fun _ _ _ h=>h) (Or.inr ⟨by rfl,rfl⟩) hS0 ?_
    try simp only[qA,List.getElem_toArray,List.getElem_cons_zero,List.getElem_cons_succ]
    refine anyT_takeN (i:=19) (v:=undef) rfl (by kernel_rfl) (by kernel_rfl) (by kernel_rfl) (by rfl) (fun _ _ _ h=>h) (Or.inr ⟨by rfl,rfl⟩) hS0 ?_
    try simp only[qA,List.getElem_toArray,List.getElem_cons_zero,List.getElem_cons_succ]
    refine anyT_takeN (i:=20) (v:=undef) rfl (by kernel_rfl) (by kernel_rfl) (by kernel_rfl) (by rfl) (fun _ _ _ h=>h) (Or.inr ⟨by rfl,rfl⟩) hS0 ?_
    try simp only[qA,List.getElem_toArray,List.getElem_cons_zero,List.getElem_cons_succ]
    refine anyT_takeN (i:=21) (v:=undef) rfl (by kernel_rfl) (by kernel_rfl) (by kernel_rfl) (by rfl) (fun _ _ _ h=>h) (Or.inr ⟨by rfl,rfl⟩) hS0 ?_
    try simp only[qA,List.getElem_toArray,List.getElem_cons_zero,List.getElem_cons_succ]
    refine anyT_takeN (i:=22) (v:=undef) rfl (by kernel_rfl) (by kernel_rfl) (by kernel_rfl) (by rfl) (fun _ _ _ h=>h) (Or.inr ⟨by rfl,rfl⟩) hS0 ?_
    try simp only[qA,List.getElem_toArray,List.getElem_cons_zero,List.getElem_cons_succ]
    refine qT 23 ?vvb23 rfl ?yvb23 hS0 ?_
    case yvb23=>exact zzR0
    try simp only[qA,List.getElem_toArray,List.getElem_cons_zero,List.getElem_cons_succ]
    refine qD ?_
    by_cases gq:(0:Int)<M
    ·have HSt:Hid (leafG n [] (es.take (q+1+1))=leafG n [] (es.take (q+1))++ [c]):=HStep.1 gq
     obtain⟨d0,d1,d2,d3,d4⟩:=HB2.2.c5
     have HKm:Hid (m=(leafG n [] (es.take (q+1))).length):=HM.out
     have hgl:=HB2.1.own.lt
     have hz2:=HB2.1.below.size
     obtain⟨X,hX⟩:=qE W1.drew
     rw[←hX]at HB2 d0 d1 d2 d3 d4 hgl hz2⊢
     clear hX HStep
     go_wp2_with (at_builtin;refine wpList_append_cel _ rfl _ _ rfl w.heap.size g cp _ _ (leafG n [] (es.take (q+1))) c rfl rfl HKm.out ?hO ?hc ?hl ?hb ?_)
     case hO=>exact HB2.1.own.below (qB) hgl.2
     case hc=>exact cel_new X c
     case hl=>rw[←HKm.out];omega
     case hb=>(first|omega|(simp;omega))
     exact zzQ26
    ·exact zzQ37
   ·cases hq:(p.qual.toList==c.qual.toList)
    ·have hb0:bf=0:=HDiff.out (by unfold colB;rw[hf,hq];rfl)
     subst hb0
     clear HSame HDiff HC0 HBf
     refine wp_region_T 99 (fun w':World=>w'.cell? ⟨b,off+q*5+1,none⟩=some (.string p.fam)∧w'.cell? ⟨b,off+q*5+2,none⟩=some (.string p.qual)∧w'.cell? ⟨cb,1,none⟩=some (.string c.fam)∧w'.cell? ⟨cb,2,none⟩=some (.string c.qual)) (by kernel_rfl) ?_
     refine qT 0 ?vvc0 rfl ?yvc0 hS0 ?_
     case yvc0=>exact zzR0
     try simp only[qA,List.getElem_toArray,List.getElem_cons_zero,List.getElem_cons_succ]
     refine qT 1 ?vvc1 rfl ?yvc1 hS0 ?_
     case yvc1=>exact zzR0
     try simp only[qA,List.getElem_toArray,List.getElem_cons_zero,List.getElem_cons_succ]
     refine qT 2 ?vvc2 rfl ?yvc2 hS0 ?_
     case yvc2=>exact zzR0
     try simp only[qA,List.getElem_toArray,List.getElem_cons_zero,List.getElem_cons_succ]
     refine qT 3 ?vvc3 rfl ?yvc3 hS0 ?_
     case yvc3=>exact zzR0
     try simp only[qA,List.getElem_toArray,List.getElem_cons_zero,List.getElem_cons_succ]
     refine qT 4 ?vvc4 rfl ?yvc4 hS0 ?_
     case yvc4=>exact zzR0
     try simp only[qA,List.getElem_toArray,List.getElem_cons_zero,List.getElem_cons_succ]
     refine qT 5 ?vvc5 rfl ?yvc5 hS0 ?_
     case yvc5=>exact zzR0
     try simp only[qA,List.getElem_toArray,List.getElem_cons_zero,List.getElem_cons_succ]
     refine qT 6 ?vvc6 rfl ?yvc6 hS0 ?_
     case yvc6=>exact zzR0
     try simp only[qA,List.getElem_toArray,List.getElem_cons_zero,List.getElem_cons_succ]
     refine qT 7 ?vvc7 rfl ?yvc7 hS0 ?_
     case yvc7=>exact zzR0
     try simp only[qA,List.getElem_toArray,List.getElem_cons_zero,List.getElem_cons_succ]
     refine qT 8 ?vvc8 rfl ?yvc8 hS0 ?_
     case yvc8=>exact zzR0
     try simp only[qA,List.getElem_toArray,List.getElem_cons_zero,List.getElem_cons_succ]
     refine qT 9 ?vvc9 rfl ?yvc9 hS0 ?_
     case yvc9=>exact zzR0
     try simp only[qA,List.getElem_toArray,List.getElem_cons_zero,List.getElem_cons_succ]
     refine qT 10 ?vvc10 rfl ?yvc10 hS0 ?_
     case yvc10=>exact zzR0
     try simp only[qA,List.getElem_toArray,List.getElem_cons_zero,List.getElem_cons_succ]
     refine qT 11 ?vvc11 rfl ?yvc11 hS0 ?_
     case yvc11=>exact zzR22
     try simp only[qA,List.getElem_toArray,List.getElem_cons_zero,List.getElem_cons_succ]
     refine qT 12 ?vvc12 rfl ?yvc12 hS0 ?_
     case yvc12=>exact zzR0
     try simp only[qA,List.getElem_toArray,List.getElem_cons_zero,List.getElem_cons_succ]
     refine qT 13 ?vvc13 rfl ?yvc13 hS0 ?_
     case yvc13=>exact zzR0
     try simp only[qA,List.getElem_toArray,List.getElem_cons_zero,List.getElem_cons_succ]
     refine qT 14 ?vvc14 rfl ?yvc14 hS0 ?_
     case yvc14=>exact zzR0
     try simp only[qA,List.getElem_toArray,List.getElem_cons_zero,List.getElem_cons_succ]
     refine qT 15 ?vvc15 rfl ?yvc15 hS0 ?_
     case yvc15=>exact zzR0
     try simp only[qA,List.getElem_toArray,List.getElem_cons_zero,List.getElem_cons_succ]
     refine qT 16 ?vvc16 rfl ?yvc16 hS0 ?_
     case yvc16=>exact zzR0
     try simp only[qA,List.getElem_toArray,List.getElem_cons_zero,List.getElem_cons_succ]
     refine qT 17 ?vvc17 rfl ?yvc17 hS0 ?_
     case yvc17=>exact zzR0
     try simp only[qA,List.getElem_toArray,List.getElem_cons_zero,List.getElem_cons_succ]
     refine qT 18 ?vvc18 rfl ?yvc18 hS0 ?_
     case yvc18=>exact zzR0
     try simp only[qA,List.getElem_toArray,List.getElem_cons_zero,List.getElem_cons_succ]
     refine qT 19 ?vvc19 rfl ?yvc19 hS0 ?_
     case yvc19=>exact zzR0
     try simp only[qA,List.getElem_toArray,List.getElem_cons_zero,List.getElem_cons_succ]
     refine qT 20 ?vvc20 rfl ?yvc20 hS0 ?_
     case yvc20=>exact zzR0
     try simp only[qA,List.getElem_toArray,List.getElem_cons_zero,List.getElem_cons_succ]
     refine qT 21 ?vvc21 rfl ?yvc21 hS0 ?_
     case yvc21=>exact zzR0
     try simp only[qA,List.getElem_toArray,List.getElem_cons_zero,List.getElem_cons_succ]
     refine qT 22 ?vvc22 rfl ?yvc22 hS0 ?_
     case yvc22=>exact zzR22
     try simp only[qA,List.getElem_toArray,List.getElem_cons_zero,List.getElem_cons_succ]
     refine qT 23 ?vvc23 rfl ?yvc23 hS0 ?_
     case yvc23=>exact zzR0
     try simp only[qA,List.getElem_toArray,List.getElem_cons_zero,List.getElem_cons_succ]
     refine qD ?_
     by_cases gq:(0:Int)<M
     ·have HSt:Hid (leafG n [] (es.take (q+1+1))=leafG n [] (es.take (q+1))++ [c]):=HStep.1 gq
      obtain⟨d0,d1,d2,d3,d4⟩:=HB2.2.c5
      have HKm:Hid (m=(leafG n [] (es.take (q+1))).length):=HM.out
      have hgl:=HB2.1.own.lt
      have hz2:=HB2.1.below.size
      obtain⟨X,hX⟩:=qE W1.drew
      rw[←hX]at HB2 d0 d1 d2 d3 d4 hgl hz2⊢
      clear hX HStep
      go_wp2_with (at_builtin;refine wpList_append_cel _ rfl _ _ rfl w.heap.size g cp _ _ (leafG n [] (es.take (q+1))) c rfl rfl HKm.out ?hO ?hc ?hl ?hb ?_)
      case hO=>exact HB2.1.own.below (qB) hgl.2
      case hc=>exact cel_new X c
      case hl=>rw[←HKm.out];omega
      case hb=>(first|omega|(simp;omega))
      exact zzQ26
     ·exact zzQ37
    ·have hb0:ct=bf:=HSame.out (by unfold colB;rw[hf,hq];rfl)
     subst hb0
     clear HSame HDiff HC0 HBf
     refine wp_region_T 99 (fun w':World=>w'.cell? ⟨b,off+q*5+1,none⟩=some (.string p.fam)∧w'.cell? ⟨b,off+q*5+2,none⟩=some (.string p.qual)∧w'.cell? ⟨cb,1,none⟩=some (.string c.fam)∧w'.cell? ⟨cb,2,none⟩=some (.string c.qual)) (by kernel_rfl) ?_
     refine qT 0 ?vvd0 rfl ?yvd0 hS0 ?_
     case yvd0=>exact zzR0
     try simp only[qA,List.getElem_toArray,List.getElem_cons_zero,List.getElem_cons_succ]
     refine qT 1 ?vvd1 rfl ?yvd1 hS0 ?_
     case yvd1=>exact zzR0
     try simp only[qA,List.getElem_toArray,List.getElem_cons_zero,List.getElem_cons_succ]
     refine qT 2 ?vvd2 rfl ?yvd2 hS0 ?_
     case yvd2=>exact zzR0
     try simp only[qA,List.getElem_toArray,List.getElem_cons_zero,List.getElem_cons_succ]
     refine qT 3 ?vvd3 rfl ?yvd3 hS0 ?_
     case yvd3=>exact zzR0
     try simp only[qA,List.getElem_toArray,List.getElem_cons_zero,List.getElem_cons_succ]
     refine qT 4 ?vvd4 rfl ?yvd4 hS0 ?_
     case yvd4=>exact zzR0
     try simp only[qA,List.getElem_toArray,List.getElem_cons_zero,List.getElem_cons_succ]
     refine qT 5 ?vvd5 rfl ?yvd5 hS0 ?_
     case yvd5=>exact zzR0
     try simp only[qA,List.getElem_toArray,List.getElem_cons_zero,List.getElem_cons_succ]
     refine qT 6 ?vvd6 rfl ?yvd6 hS0 ?_
     case yvd6=>exact zzR0
     try simp only[qA,List.getElem_toArray,List.getElem_cons_zero,List.getElem_cons_succ]
     refine qT 7 ?vvd7 rfl ?yvd7 hS0 ?_
     case yvd7=>exact zzR0
     try simp only[qA,List.getElem_toArray,List.getElem_cons_zero,List.getElem_cons_succ]
     refine qT 8 ?vvd8 rfl ?yvd8 hS0 ?_
     case yvd8=>exact zzR0
     try simp only[qA,List.getElem_toArray,List.getElem_cons_zero,List.getElem_cons_succ]
     refine qT 9 ?vvd9 rfl ?yvd9 hS0 ?_
     case yvd9=>exact zzR0
     try simp only[qA,List.getElem_toArray,List.getElem_cons_zero,List.getElem_cons_succ]
     refine qT 10 ?vvd10 rfl ?yvd10 hS0 ?_
     case yvd10=>exact zzR0
     try simp only[qA,List.getElem_toArray,List.getElem_cons_zero,List.getElem_cons_succ]
     refine qT 11 ?vvd11 rfl ?yvd11 hS0 ?_
     case yvd11=>exact zzR22
     try simp only[qA,List.getElem_toArray,List.getElem_cons_zero,List.getElem_cons_succ]
     refine qT 12 ?vvd12 rfl ?yvd12 hS0 ?_
     case yvd12=>exact zzR0
     try simp only[qA,List.getElem_toArray,List.getElem_cons_zero,List.getElem_cons_succ]
     refine qT 13 ?vvd13 rfl ?yvd13 hS0 ?_
     case yvd13=>exact zzR0
     try simp only[qA,List.getElem_toArray,List.getElem_cons_zero,List.getElem_cons_succ]
     refine qT 14 ?vvd14 rfl ?yvd14 hS0 ?_
     case yvd14=>exact zzR0
     try simp only[qA,List.getElem_toArray,List.getElem_cons_zero,List.getElem_cons_succ]
     refine qT 15 ?vvd15 rfl ?yvd15 hS0 ?_
     case yvd15=>exact zzR0
     try simp only[qA,List.getElem_toArray,List.getElem_cons_zero,List.getElem_cons_succ]
     refine qT 16 ?vvd16 rfl ?yvd16 hS0 ?_
     case yvd16=>exact zzR0
     try simp only[qA,List.getElem_toArray,List.getElem_cons_zero,List.getElem_cons_succ]
     refine qT 17 ?vvd17 rfl ?yvd17 hS0 ?_
     case yvd17=>exact zzR0
     try simp only[qA,List.getElem_toArray,List.getElem_cons_zero,List.getElem_cons_succ]
     refine qT 18 ?vvd18 rfl ?yvd18 hS0 ?_
     case yvd18=>exact zzR0
     try simp only[qA,List.getElem_toArray,List.getElem_cons_zero,List.getElem_cons_succ]
     refine qT 19 ?vvd19 rfl ?yvd19 hS0 ?_
     case yvd19=>exact zzR0
     try simp only[qA,List.getElem_toArray,List.getElem_cons_zero,List.getElem_cons_succ]
     refine qT 20 ?vvd20 rfl ?yvd20 hS0 ?_
     case yvd20=>exact zzR0
     try simp only[qA,List.getElem_toArray,List.getElem_cons_zero,List.getElem_cons_succ]
     refine qT 21 ?vvd21 rfl ?yvd21 hS0 ?_
     case yvd21=>exact zzR0
     try simp only[qA,List.getElem_toArray,List.getElem_cons_zero,List.getElem_cons_succ]
     refine qT 22 ?vvd22 rfl ?yvd22 hS0 ?_
     case yvd22=>exact zzR22
     try simp only[qA,List.getElem_toArray,List.getElem_cons_zero,List.getElem_cons_succ]
     refine qT 23 ?vvd23 rfl ?yvd23 hS0 ?_
     case yvd23=>exact zzR0
     try simp only[qA,List.getElem_toArray,List.getElem_cons_zero,List.getElem_cons_succ]
     refine qD ?_
     by_cases gq:(ct:Int)<M
     ·have HSt:Hid (leafG n [] (es.take (q+1+1))=leafG n [] (es.take (q+1))++ [c]):=HStep.1 gq
      obtain⟨d0,d1,d2,d3,d4⟩:=HB2.2.c5
      have HKm:Hid (m=(leafG n [] (es.take (q+1))).length):=HM.out
      have hgl:=HB2.1.own.lt
      have hz2:=HB2.1.below.size
      obtain⟨X,hX⟩:=qE W1.drew
      rw[←hX]at HB2 d0 d1 d2 d3 d4 hgl hz2⊢
      clear hX HStep
      go_wp2_with (at_builtin;refine wpList_append_cel _ rfl _ _ rfl w.heap.size g cp _ _ (leafG n [] (es.take (q+1))) c rfl rfl HKm.out ?hO ?hc ?hl ?hb ?_)
      case hO=>exact HB2.1.own.below (qB) hgl.2
      case hc=>exact cel_new X c
      case hl=>rw[←HKm.out];omega
      case hb=>(first|omega|(simp;omega))
      intro g' cp' w' hO' hgr
      have HN:Hid (CntOf es (q+1+1) (ct+1)∧m+1=(leafG n [] (es.take (q+1+1))).length∧VsJ w b off cap es g' cp' (leafG n [] (es.take (q+1+1))) w'):=by
       rw[HSt.out]
       exact⟨HCt.out,by rw[List.length_append,←HKm.out];rfl,(HB2.1.move (qB)).push hO' hgr⟩
      clear hO' hgr d0 d1 d2 d3 d4
      go_wp2_with fail
      go_roundw
      case rel=>exact⟨q+1+1,g',cp',m+1,ct+1,by omega,by go_num,rfl,by go_num,by omega,HN.out⟩
      case measure=>go_light;simp[intOf];omega
     ·have HN:Hid (CntOf es (q+1+1) (ct+1)∧m=(leafG n [] (es.take (q+1+1))).length∧VsJ w b off cap es g cp (leafG n [] (es.take (q+1+1))) W1.drew):=by
       rw[HStep.2 gq]
       exact⟨HCt.out,HM.out,HB2.1⟩
      clear HStep
      go_wp2_with fail
      go_roundw
      case rel=>exact⟨q+1+1,g,cp,m,ct+1,by omega,by go_num,rfl,by go_num,by omega,HN.out⟩
      case measure=>go_light;simp[intOf];omega
  ·obtain rfl:i=N:=by omega
   have zi:¬(i:Int)<(i:Int):=by omega
   go_wp2_with fail
   go_ret
   refine⟨g,cp,?_,?_,HJ.2.2.below⟩
   ·rw[HLM.out,←HJ.2.1];rfl
   ·rw[HLM.out];exact HJ.2.2.own
theorem tst_build (k:Int) (s:ByteArray) (h:Bool) (t:ByteArray) (l u n:Int) (w:World):(Instr.build 111 #[(0,.agg #[.int .i64 k,.string s,.bool h,.string t,.int .u64 l,.int .u64 u,.int .i64 n])]).run Tryz.prog w=.ok (.agg #[.int .i64 k,.string s,.bool h,.string t,.int .u64 l,.int .u64 u,.int .i64 n,.pointer none]) w:=by kernel_rfl
def eightV (n:Nd) (mp:Option Addr):List Value:= [.int .i64 n.kind,.string n.s,.bool n.hi,.string n.t,.int .u64 n.lo,.int .u64 n.up,.int .i64 n.n,.pointer mp]
theorem ct_res {w:World} {base g:Nat} {tmps:Array Value} {n:Nd} {mp:Option Addr} (ht:tmps[2]?.getD undef=.pointer (some ⟨g,0,none⟩)) (h:BoxAt w base 111 8 g (eightV n mp)):(results Tryz.f71 tmps).run Tryz.prog w=.ok (.agg #[.int .i64 n.kind,.string n.s,.bool n.hi,.string n.t,.int .u64 n.lo,.int .u64 n.up,.int .i64 n.n,.pointer mp]) w:=by
 obtain⟨p0,p1,p2,p3,p4,p5,p6,p7⟩:=h.c8
 simp[results,Tryz.results71,ht,go_sem,p0,p1,p2,p3,p4,p5,p6,p7]
def set8 (w:World) (g:Nat) (n:Nd) (mp:Option Addr):World:=(((((((w.setCell ⟨g,0,none⟩ (.int .i64 n.kind)).setCell ⟨g,1,none⟩ (.string n.s)).setCell ⟨g,2,none⟩ (.bool n.hi)).setCell ⟨g,3,none⟩ (.string n.t)).setCell ⟨g,4,none⟩ (.int .u64 n.lo)).setCell ⟨g,5,none⟩ (.int .u64 n.up)).setCell ⟨g,6,none⟩ (.int .i64 n.n)).setCell ⟨g,7,none⟩ (.pointer mp)
theorem BoxAt.set8 {w:World} {base t g:Nat} {vs:List Value} (h:BoxAt w base t 8 g vs) (n:Nd) (mp:Option Addr):BoxAt (Go.Proofs.YtkidabedcgngcaaGreatDoor.set8 w g n mp) base t 8 g (eightV n mp):=by
 have hl:=h.len
 match vs,hl with
 | [a0,a1,a2,a3,a4,a5,a6,a7],_=>exact(((((((h.set 0 _).set 1 _).set 2 _).set 3 _).set 4 _).set 5 _).set 6 _).set 7 _
theorem below_set8 {B:Nat} {a w:World} (h:Below B a w) {k:Nat} (hk:B≤k) (n:Nd) (mp:Option Addr):Below B a (set8 w k n mp):=below_set (below_set (below_set (below_set (below_set (below_set (below_set (below_set h hk 0 _) hk 1 _) hk 2 _) hk 3 _) hk 4 _) hk 5 _) hk 6 _) hk 7 _
theorem chg_set8 (w:World) (g:Nat) (n:Nd) (mp:Option Addr):Chg (fun k=>k=g) w (set8 w g n mp):=by
 unfold set8
 refine Chg.trans ?_ (Chg.of_set _ g 7 _ rfl)
 refine Chg.trans ?_ (Chg.of_set _ g 6 _ rfl)
 refine Chg.trans ?_ (Chg.of_set _ g 5 _ rfl)
 refine Chg.trans ?_ (Chg.of_set _ g 4 _ rfl)
 refine Chg.trans ?_ (Chg.of_set _ g 3 _ rfl)
 refine Chg.trans ?_ (Chg.of_set _ g 2 _ rfl)
 refine Chg.trans ?_ (Chg.of_set _ g 1 _ rfl)
 refine Chg.trans ?_ (Chg.of_set _ g 0 _ rfl)
 exact Chg.refl _ _
def CteP (n:Nd) (w:World) (e:Ending) (w':World):Prop:=∃mp:Option Addr,e=.returned (.agg #[.int .i64 n.kind,.string n.s,.bool n.hi,.string n.t,.int .u64 n.lo,.int .u64 n.up,.int .i64 n.n,.pointer mp])∧Hid (TstAt w' w.heap.size w'.heap.size n (.pointer mp)∧Below w.heap.size w w')
theorem ct_start (n:Nd) (w W2:World) (hW2:W2=((w.alloc (.cells n.seven.toArray 75)).alloc (.cells #[.int .i64 0,.string ⟨#[]⟩,.bool false,.string ⟨#[]⟩,.int .u64 0,.int .u64 0,.int .i64 0,.pointer none] 111)).alloc (.cells #[.int .i64 n.kind,.string n.s,.bool n.hi,.string n.t,.int .u64 n.lo,.int .u64 n.up,.int .i64 n.n,.pointer none] 111)):BoxAt W2 w.heap.size 75 7 w.heap.size n.seven∧BoxAt W2 w.heap.size 111 8 (w.heap.size+1) (#[.int .i64 0,.string ⟨#[]⟩,.bool false,.string ⟨#[]⟩,.int .u64 0,.int .u64 0,.int .i64 0,.pointer none]).toList∧BoxAt W2 w.heap.size 111 8 (w.heap.size+1+1) (eightV n none)∧Below w.heap.size w W2:=by
 have b1:=boxAt_new w (base:=w.heap.size) (t:=75) (sz:=7) n.seven.toArray (Nat.le_refl _) rfl
 obtain⟨X1,hX1⟩:∃X,X=w.alloc (.cells n.seven.toArray 75):=⟨_,rfl⟩
 have z1:X1.heap.size=w.heap.size+1:=by rw[hX1];simp
 rw[←hX1]at b1 hW2
 have k1:Below w.heap.size w X1:=by rw[hX1];exact qB
 have b2:=boxAt_new X1 (base:=w.heap.size) (t:=111) (sz:=8) #[.int .i64 0,.string ⟨#[]⟩,.bool false,.string ⟨#[]⟩,.int .u64 0,.int .u64 0,.int .i64 0,.pointer none] (by omega) rfl
 obtain⟨X2,hX2⟩:∃X,X=X1.alloc (.cells #[.int .i64 0,.string ⟨#[]⟩,.bool false,.string ⟨#[]⟩,.int .u64 0,.int .u64 0,.int .i64 0,.pointer none] 111):=⟨_,rfl⟩
 have z2:X2.heap.size=w.heap.size+1+1:=by rw[hX2];simp[z1]
 rw[←hX2]at b2 hW2
 have k2:Below X1.heap.size X1 X2:=by rw[hX2];exact qB
 have b3:=boxAt_new X2 (base:=w.heap.size) (t:=111) (sz:=8) #[.int .i64 n.kind,.string n.s,.bool n.hi,.string n.t,.int .u64 n.lo,.int .u64 n.up,.int .i64 n.n,.pointer none] (by omega) rfl
 have k3:Below X2.heap.size X2 W2:=by rw[hW2];exact qB
 rw[←hW2,z2]at b3
 rw[z1]at b2
 exact⟨(b1.below k2).below k3,b2.below k3,b3,(k1.trans (k2.mono (by omega))).trans (k3.mono (by omega))⟩
theorem ct_fin (n:Nd) (w:World) (hT:TabD w):∀(X:World) (mp:Option Addr),BoxAt X w.heap.size 111 8 (w.heap.size+1) (#[.int .i64 0,.string ⟨#[]⟩,.bool false,.string ⟨#[]⟩,.int .u64 0,.int .u64 0,.int .i64 0,.pointer none]).toList→Below w.heap.size w X→w.heap.size+1<X.heap.size→TstAt X (w.heap.size+1+1+1) X.heap.size n (.pointer mp)→CteP n w (.returned (.agg #[.int .i64 n.kind,.string n.s,.bool n.hi,.string n.t,.int .u64 n.lo,.int .u64 n.up,.int .i64 n.n,.pointer mp])) (set8 X (w.heap.size+1) n mp)∧BoxAt (set8 X (w.heap.size+1) n mp) w.heap.size 111 8 (w.heap.size+1) (eightV n mp):=fun X mp hB hX hz hTs=>by
 have hc:=chg_set8 X (w.heap.size+1) n mp
 have hsz:(set8 X (w.heap.size+1) n mp).heap.size=X.heap.size:=by unfold set8;simp
 refine⟨⟨mp,rfl,?_,below_set8 hX (by omega) n mp⟩,hB.set8 n mp⟩
 rw[hsz]
 have hV:=hT.lt
 have h9:=hTs.chg hc (fun k q z=>by have:=z.1;omega) (fun _ q=>by omega)
 rcases h9 with q|⟨q,M,q1,hM⟩
 ·exact .inl q
 ·exact .inr ⟨q,M,q1,hM.wide (by omega) (Nat.le_refl _) hV⟩
set_option maxHeartbeats 8000000 in
theorem mct_plain (n:Nd) (w:World) (hT:TabD w) (hs:n.s.size≤maxLen) (hP:¬PatK n.kind):Calls Tryz.prog 71 #[n.v] w (CteP n w):=by
 obtain⟨W2,hW2⟩:=qE (((w.alloc (.cells n.seven.toArray 75)).alloc (.cells #[.int .i64 0,.string ⟨#[]⟩,.bool false,.string ⟨#[]⟩,.int .u64 0,.int .u64 0,.int .i64 0,.pointer none] 111)).alloc (.cells #[.int .i64 n.kind,.string n.s,.bool n.hi,.string n.t,.int .u64 n.lo,.int .u64 n.up,.int .i64 n.n,.pointer none] 111):World)
 have HW2:Hid (BoxAt W2 w.heap.size 75 7 w.heap.size n.seven∧BoxAt W2 w.heap.size 111 8 (w.heap.size+1) (#[.int .i64 0,.string ⟨#[]⟩,.bool false,.string ⟨#[]⟩,.int .u64 0,.int .u64 0,.int .i64 0,.pointer none]).toList∧BoxAt W2 w.heap.size 111 8 (w.heap.size+1+1) (eightV n none)∧Below w.heap.size w W2):=ct_start n w W2 hW2
 have HT:Hid (TabD w∧n.s.size≤maxLen):=⟨hT,hs⟩
 have hbd:=tst_build n.kind n.s n.hi n.t n.lo n.up n.n
 have HF:Hid (∀(X:World) (mp:Option Addr),BoxAt X w.heap.size 111 8 (w.heap.size+1) (#[.int .i64 0,.string ⟨#[]⟩,.bool false,.string ⟨#[]⟩,.int .u64 0,.int .u64 0,.int .i64 0,.pointer none]).toList→Below w.heap.size w X→w.heap.size+1<X.heap.size→TstAt X (w.heap.size+1+1+1) X.heap.size n (.pointer mp)→CteP n w (.returned (.agg #[.int .i64 n.kind,.string n.s,.bool n.hi,.string n.t,.int .u64 n.lo,.int .u64 n.up,.int .i64 n.n,.pointer mp])) (set8 X (w.heap.size+1) n mp)∧BoxAt (set8 X (w.heap.size+1) n mp) w.heap.size 111 8 (w.heap.size+1) (eightV n mp)):=ct_fin n w hT
 clear hT hs
 go_enter Tryz.func71,Tryz.ntmps71
 go_upto_region 2 with fail
 have hW2':=hW2
 simp only[Nd.seven]at hW2'
 rw[←hW2']
 clear hW2 hW2' hbd
 obtain⟨n0,n1⟩:=HW2.1.c2
 have hz2:w.heap.size+1+1<W2.heap.size:=HW2.2.2.1.lt.2
 have hk:¬n.kind=4∧¬n.kind=5∧¬n.kind=6∧¬n.kind=7:=by unfold PatK at hP;omega
 have b4:(n.kind==4)=false:=by rw[beq_eq_false_iff_ne];exact hk.1
 have b5:(n.kind==5)=false:=by rw[beq_eq_false_iff_ne];exact hk.2.1
 have b6:(n.kind==6)=false:=by rw[beq_eq_false_iff_ne];exact hk.2.2.1
 have b7:(n.kind==7)=false:=by rw[beq_eq_false_iff_ne];exact hk.2.2.2
 clear hk
 have HBx:Hid (BoxAt W2 w.heap.size 111 8 (w.heap.size+1) (#[.int .i64 0,.string ⟨#[]⟩,.bool false,.string ⟨#[]⟩,.int .u64 0,.int .u64 0,.int .i64 0,.pointer none]).toList∧Below w.heap.size w W2∧w.heap.size+1<W2.heap.size∧TstAt W2 (w.heap.size+1+1+1) W2.heap.size n (.pointer none)):=⟨HW2.2.1,HW2.2.2.2,by omega,.inl ⟨hP,rfl⟩⟩
 have HE:=HF.out W2 none HBx.1 HBx.2.1 HBx.2.2.1 HBx.2.2.2
 have HE2:Hid (CteP n w (.returned (.agg #[.int .i64 n.kind,.string n.s,.bool n.hi,.string n.t,.int .u64 n.lo,.int .u64 n.up,.int .i64 n.n,.pointer none])) (set8 W2 (w.heap.size+1) n none)∧BoxAt (set8 W2 (w.heap.size+1) n none) w.heap.size 111 8 (w.heap.size+1) (eightV n none)):=HE
 clear HE
 obtain⟨W9,hW9⟩:=qE (set8 W2 (w.heap.size+1) n none)
 rw[←hW9]at HE2
 simp only[set8]at hW9
 obtain⟨m0,m1,m2,m3,m4,m5,m6,m7⟩:=HW2.2.2.1.c8
 obtain⟨r0,r1,r2,r3,r4,r5,r6,r7⟩:=HW2.2.1.c8
 have f0:=HW2.2.1.frozen 0
 have f1:=HW2.2.1.frozen 1
 have f2:=HW2.2.1.frozen 2
 have f3:=HW2.2.1.frozen 3
 have f4:=HW2.2.1.frozen 4
 have f5:=HW2.2.1.frozen 5
 have f6:=HW2.2.1.frozen 6
 have f7:=HW2.2.1.frozen 7
 go_wp2_with fail
 rw[←hW9]
 exact bodyPost_ret (ct_res (base:=w.heap.size) (g:=w.heap.size+1) rfl HE2.2) rfl HE2.1
abbrev ptrC (p:Nat):Value:=.pointer (some ⟨p,0,none⟩)
inductive LeafAt (w:World) (n:Nd) (R:Nat→Prop):Value→Prop
 |strip (h:n.kind=3):LeafAt w n R (.func (Fn.func 66) #[] #[])
 |vers (h:n.kind=11) (h1:1≤n.n∧n.n≤1000) (p:Nat) (hp:R p) (hb:BoxAt w 0 75 7 p n.seven):LeafAt w n R (.func (Fn.func 67) #[] #[ptrC p])
 |cells (h:n.kind=12) (h1:1≤n.n∧n.n≤1000) (p:Nat) (hp:R p) (hb:BoxAt w 0 75 7 p n.seven):LeafAt w n R (.func (Fn.func 69) #[] #[ptrC p])
 |skip (h:n.kind=13) (h1:1≤n.n∧n.n≤1000) (p:Nat) (hp:R p) (hb:BoxAt w 0 75 7 p n.seven):LeafAt w n R (.func (Fn.func 70) #[] #[ptrC p])
 |test (h:Plain n) (p l m:Nat) (mp:Option Addr) (hp:R p∧¬InB l m p) (hl:l≤m∧m≤p) (hi:∀k,InB l m k→R k) (hb:BoxAt w 0 111 8 p (eightV n mp)) (ht:TstAt w l m n (.pointer mp)):LeafAt w n R (.func (Fn.func 72) #[] #[ptrC p])
structure Twp (R A B:Nat→Prop):Prop where
 a:∀k,A k→R k
 b:∀k,B k→R k
 d:∀k,A k→¬B k
structure Osd (R A:Nat→Prop) (p:Nat):Prop where
 inn:R p
 out:¬A p
def StepAt (w:World):CT→(Nat→Prop)→Value→Prop
 | .leaf n,R,fv=>LeafAt w n R fv
 | .chain _ a b,R,fv=>∃(A B:Nat→Prop) (pa pb:Nat) (ka:Nat) (ca:Array Value) (kb:Nat) (cb:Array Value),Twp R A B∧Osd R A pa∧Osd R B pa∧Osd R A pb∧Osd R B pb∧fv=.func (Fn.func 62) #[] #[ptrC pb,ptrC pa]∧BoxAt w 0 58 1 pa [.func (Fn.func ka) #[] ca]∧BoxAt w 0 58 1 pb [.func (Fn.func kb) #[] cb]∧StepAt w a A (.func (Fn.func ka) #[] ca)∧StepAt w b B (.func (Fn.func kb) #[] cb)
 | .inter _ a b,R,fv=>∃(A B:Nat→Prop) (pa pb:Nat) (ka:Nat) (ca:Array Value) (kb:Nat) (cb:Array Value),Twp R A B∧Osd R A pa∧Osd R B pa∧Osd R A pb∧Osd R B pb∧fv=.func (Fn.func 63) #[] #[ptrC pa,ptrC pb]∧BoxAt w 0 58 1 pa [.func (Fn.func ka) #[] ca]∧BoxAt w 0 58 1 pb [.func (Fn.func kb) #[] cb]∧StepAt w a A (.func (Fn.func ka) #[] ca)∧StepAt w b B (.func (Fn.func kb) #[] cb)
 | .cond _ p a b,R,fv=>∃(P A B:Nat→Prop) (pp pa pb:Nat) (kp:Nat) (cp:Array Value) (ka:Nat) (ca:Array Value) (kb:Nat) (cb:Array Value),(Twp R P A∧Twp R P B∧Twp R A B)∧(Osd R P pp∧Osd R A pp∧Osd R B pp)∧(Osd R P pa∧Osd R A pa∧Osd R B pa)∧(Osd R P pb∧Osd R A pb∧Osd R B pb)∧fv=.func (Fn.func 102) #[] #[ptrC pp,ptrC pa,ptrC pb]∧BoxAt w 0 58 1 pp [.func (Fn.func kp) #[] cp]∧BoxAt w 0 58 1 pa [.func (Fn.func ka) #[] ca]∧BoxAt w 0 58 1 pb [.func (Fn.func kb) #[] cb]∧StepAt w p P (.func (Fn.func kp) #[] cp)∧StepAt w a A (.func (Fn.func ka) #[] ca)∧StepAt w b B (.func (Fn.func kb) #[] cb)
theorem LeafAt.chg {S R:Nat→Prop} {w w':World} {n:Nd} {fv:Value} (h:LeafAt w n R fv) (hc:Chg S w w') (hS:∀k,S k→¬R k) (ht:¬S 1):LeafAt w' n R fv:=by
 cases h with
 |strip h=>exact .strip h
 |vers h h1 p hp hb=>exact .vers h h1 p hp (hb.chg hc (fun q=>hS _ q hp))
 |cells h h1 p hp hb=>exact .cells h h1 p hp (hb.chg hc (fun q=>hS _ q hp))
 |skip h h1 p hp hb=>exact .skip h h1 p hp (hb.chg hc (fun q=>hS _ q hp))
 |test h p l m mp hp hl hi hb hT=>exact .test h p l m mp hp hl hi (hb.chg hc (fun q=>hS _ q hp.1)) (hT.chg hc (fun k q z=>hS k q (hi k z)) (fun _=>ht))
theorem StepAt.chg {S:Nat→Prop} {w w':World} (hc:Chg S w w') (ht:¬S 1):∀{t:CT} {R:Nat→Prop} {fv:Value},StepAt w t R fv→(∀k,S k→¬R k)→StepAt w' t R fv
 | .leaf _,_,_,h,hS=>LeafAt.chg h hc hS ht
 | .chain _ _ _,_,_,⟨A,B,pa,pb,ka,ca,kb,cb,h1,h2,h2',h3,h3',h5,h6,h7,h8,h9⟩,hS=>⟨A,B,pa,pb,ka,ca,kb,cb,h1,h2,h2',h3,h3',h5,h6.chg hc (fun q=>hS _ q h2.inn),h7.chg hc (fun q=>hS _ q h3.inn),h8.chg hc ht (fun k q z=>hS k q (h1.a k z)),h9.chg hc ht (fun k q z=>hS k q (h1.b k z))⟩
 | .inter _ _ _,_,_,⟨A,B,pa,pb,ka,ca,kb,cb,h1,h2,h2',h3,h3',h5,h6,h7,h8,h9⟩,hS=>⟨A,B,pa,pb,ka,ca,kb,cb,h1,h2,h2',h3,h3',h5,h6.chg hc (fun q=>hS _ q h2.inn),h7.chg hc (fun q=>hS _ q h3.inn),h8.chg hc ht (fun k q z=>hS k q (h1.a k z)),h9.chg hc ht (fun k q z=>hS k q (h1.b k z))⟩
 | .cond _ _ _ _,_,_,⟨P,A,B,pp,pa,pb,kp,cp,ka,ca,kb,cb,h1,h4,h5,h6,h7,h8,h9,g1,g2,g3,g4⟩,hS=>⟨P,A,B,pp,pa,pb,kp,cp,ka,ca,kb,cb,h1,h4,h5,h6,h7,h8.chg hc (fun q=>hS _ q h4.1.inn),h9.chg hc (fun q=>hS _ q h5.1.inn),g1.chg hc (fun q=>hS _ q h6.1.inn),g2.chg hc ht (fun k q z=>hS k q (h1.1.a k z)),g3.chg hc ht (fun k q z=>hS k q (h1.1.b k z)),g4.chg hc ht (fun k q z=>hS k q (h1.2.1.b k z))⟩
theorem StepAt.below {w w':World} {t:CT} {R:Nat→Prop} {fv:Value} (h:StepAt w t R fv) (hb:Below w.heap.size w w'):StepAt w' t R fv:=h.chg (S:=fun _=>False) (Chg.of_below hb) (fun q=>q) (fun k q=>q.elim)
def StpP (t:CT) (R:Nat→Prop) (fv:Value) (rb:Nat) (es:List Ent) (w:World) (e:Ending) (w':World):Prop:=∃b o c,e=.returned (.slice (some ⟨b,o,none⟩) (mean t es).length c)∧Hid (CSl w' b o c (mean t es)∧(b=rb∨w.heap.size≤b)∧StepAt w' t R fv∧Chg R w w')
structure RowIn (w:World) (R:Nat→Prop) (rb ro rc:Nat) (es:List Ent):Prop where
 sl:CSl w rb ro rc es
 off:¬R rb
 sub:Sub es es
 same:SameRow es
 len:es.length≤10000
def StC (t:CT):Prop:=∀(w:World) (R:Nat→Prop) (k:Nat) (caps:Array Value) (rb ro rc:Nat) (es:List Ent),StepAt w t R (.func (Fn.func k) #[] caps)→(∀k,R k→k<w.heap.size)→¬R 1→RowIn w R rb ro rc es→
 Calls Tryz.prog k (#[.slice (some ⟨rb,ro,none⟩) es.length rc]++caps) w (StpP t R (.func (Fn.func k) #[] caps) rb es w)
theorem stp_own {t:CT} {R:Nat→Prop} {fv:Value} {rb:Nat} {es:List Ent} {w w':World} {g cp:Nat} (hO:OwnC w' w.heap.size g cp (mean t es)) (hS:StepAt w' t R fv) (hc:Chg R w w'):StpP t R fv rb es w (.returned (.slice (some ⟨g,0,none⟩) (mean t es).length cp)) w':=⟨g,0,cp,rfl,hO.sl,.inr hO.lt.1,hS,hc⟩
theorem leafG_take (n:Nd) (h:n.kind=12):∀(es pre:List Ent),leafG n pre es=es.take (n.n.toNat-pre.length)
 | [],_=>by simp[leafG]
 |c::es,pre=>by
  have hs:stripE n c=c:=by unfold stripE;rw[if_neg (by omega)]
  have hk:keepB n pre c=decide ((pre.length:Int)<n.n):=by unfold keepB;rw[if_neg (by omega),if_pos h]
  have ih:=leafG_take n h es (pre++ [c])
  rw[List.length_append,List.length_singleton]at ih
  unfold leafG
  rw[hs,ih]
  by_cases q:(pre.length:Int)<n.n
  ·rw[hk,if_pos (decide_eq_true q),show n.n.toNat-pre.length=(n.n.toNat-(pre.length+1))+1 by omega,List.take_succ_cons]
  ·rw[hk,if_neg (by rw[decide_eq_true_iff];exact q),show n.n.toNat-pre.length=0 by omega,show n.n.toNat-(pre.length+1)=0 by omega]
   simp
theorem leafG_drop (n:Nd) (h:n.kind=13):∀(es pre:List Ent),leafG n pre es=es.drop (n.n.toNat-pre.length)
 | [],_=>by simp[leafG]
 |c::es,pre=>by
  have hs:stripE n c=c:=by unfold stripE;rw[if_neg (by omega)]
  have hk:keepB n pre c=decide (n.n≤(pre.length:Int)):=by unfold keepB;rw[if_neg (by omega),if_neg (by omega),if_pos h]
  have ih:=leafG_drop n h es (pre++ [c])
  rw[List.length_append,List.length_singleton]at ih
  unfold leafG
  rw[hs,ih]
  by_cases q:n.n≤(pre.length:Int)
  ·rw[hk,if_pos (decide_eq_true q),show n.n.toNat-pre.length=0 by omega,show n.n.toNat-(pre.length+1)=0 by omega]
   simp
  ·rw[hk,if_neg (by rw[decide_eq_true_iff];exact q),show n.n.toNat-pre.length=(n.n.toNat-(pre.length+1))+1 by omega,List.drop_succ_cons]
set_option maxHeartbeats 4000000 in
theorem step_leaf (n:Nd):StC (.leaf n):=by
 intro w R k caps rb ro rc es hS hh hV hR
 have hL:LeafAt w n R (.func (Fn.func k) #[] caps):=hS
 have hSt:Hid (StepAt w (.leaf n) R (.func (Fn.func k) #[] caps)):=hS
 clear hS
 have HR:Hid (RowIn w R rb ro rc es∧(∀k,R k→k<w.heap.size)):=⟨hR,hh⟩
 have hel:=hR.len
 have hrc:=hR.sl.len
 have hcm:rc≤9223372036854775807:=by have:=hR.sl.cap;unfold maxLen at this;omega
 obtain⟨fv,hfv⟩:=qE ((.func (Fn.func k) #[] caps:Value))
 rw[←hfv]at hL
 cases hL with
 |strip h=>
  cases hfv
  refine(strip_core n h hR.sl hel).mono ?_
  rintro e w' ⟨g,cp,rfl,hO,hb⟩
  exact stp_own (t:=.leaf n) hO (hSt.out.below hb) (Chg.of_below hb)
 |vers h h1 p hp hb=>
  cases hfv
  have HC:Hid (Calls Tryz.prog 68 #[.slice (some ⟨rb,ro,none⟩) es.length rc,.int .i64 n.n] w fun e w'=>∃g cp,e=.returned (.slice (some ⟨g,0,none⟩) (leafM n es).length cp)∧OwnC w' w.heap.size g cp (leafM n es)∧Below w.heap.size w w'):=versions_core n h h1 hR.sl hR.sub.ord hR.same hel
  have c6:=hb.cell (j:=6) rfl
  obtain⟨N,hN⟩:=qE es.length
  rw[←hN]at HC⊢
  clear hR hb h hN
  show Calls Tryz.prog 67 #[.slice (some ⟨rb,ro,none⟩) N rc,ptrC p] w _
  go_enter Tryz.func67,Tryz.ntmps67
  go_wp2_with fail
  refine HC.mono ?_
  rintro e w' ⟨g,cp,rfl,hO,hb⟩
  have HE:Hid (StpP (.leaf n) R (.func (Fn.func 67) #[] #[ptrC p]) rb es w (.returned (.slice (some ⟨g,0,none⟩) (leafM n es).length cp)) w'):=stp_own (t:=.leaf n) hO (hSt.out.below hb) (Chg.of_below hb)
  clear hO hb
  go_wp2_with fail
  go_ret
  exact HE.out
 |cells h h1 p hp hb=>
  cases hfv
  have c6:=hb.cell (j:=6) rfl
  obtain⟨q,hq⟩:∃q:Nat,n.n=(q:Int):=⟨n.n.toNat,by omega⟩
  have HM:Hid (mean (.leaf n) es=es.take (min es.length q)):=by
   show leafG n [] es=_
   rw[leafG_take n h,hq,List.length_nil,Nat.sub_zero,Int.toNat_natCast,List.take_eq_take_min,Nat.min_comm]
  have HE:Hid (StpP (.leaf n) R (.func (Fn.func 69) #[] #[ptrC p]) rb es w (.returned (.slice (some ⟨rb,ro,none⟩) (min es.length q) rc)) w):=by
   refine⟨rb,ro,rc,by rw[HM.out,List.length_take];congr 2;omega,?_,.inl rfl,hSt.out,Chg.refl _ _⟩
   rw[HM.out];exact hR.sl.take (by omega)
  have hq2:q≤1000:=by omega
  obtain⟨N,hN⟩:=qE es.length
  rw[←hN]at hel hrc HE⊢
  rw[hq]at c6
  clear hR hb h hN hq h1
  show Calls Tryz.prog 69 #[.slice (some ⟨rb,ro,none⟩) N rc,ptrC p] w _
  obtain⟨mq,hmq⟩:=qE (min N q)
  have hmin:min (N:Int) (q:Int)=(mq:Int):=by omega
  have hmN:mq≤N:=by omega
  rw[←hmq]at HE
  clear hmq
  go_enter Tryz.func69,Tryz.ntmps69
  go_wp2_with fail
  go_ret
  exact HE.out
 |skip h h1 p hp hb=>
  cases hfv
  have c6:=hb.cell (j:=6) rfl
  obtain⟨q,hq⟩:∃q:Nat,n.n=(q:Int):=⟨n.n.toNat,by omega⟩
  have HM:Hid (mean (.leaf n) es=es.drop (min es.length q)):=by
   show leafG n [] es=_
   rw[leafG_drop n h,hq,List.length_nil,Nat.sub_zero,Int.toNat_natCast]
   by_cases hle:es.length≤q
   ·rw[Nat.min_eq_left hle,List.drop_of_length_le hle,List.drop_of_length_le (Nat.le_refl _)]
   ·rw[Nat.min_eq_right (by omega)]
  have hq2:q≤1000:=by omega
  have HE:Hid (∀o',(min es.length q<es.length→o'=ro+min es.length q*5)→StpP (.leaf n) R (.func (Fn.func 70) #[] #[ptrC p]) rb es w (.returned (.slice (some ⟨rb,o',none⟩) (es.length-min es.length q) (rc-min es.length q))) w):=fun o' ho=>by
   have hs:=hR.sl.drop (k:=min es.length q) (by omega)
   refine⟨rb,o',rc-min es.length q,by rw[HM.out,List.length_drop],?_,.inl rfl,hSt.out,Chg.refl _ _⟩
   rw[HM.out]
   exact⟨cels_drop hs.at_ ho,hs.lt,hs.len,hs.cap⟩
  obtain⟨N,hN⟩:=qE es.length
  rw[←hN]at hel hrc HE⊢
  rw[hq]at c6
  clear hR hb h hN hq h1
  show Calls Tryz.prog 70 #[.slice (some ⟨rb,ro,none⟩) N rc,ptrC p] w _
  obtain⟨mq,hmq⟩:=qE (min N q)
  have hmin:min (N:Int) (q:Int)=(mq:Int):=by omega
  have hmN:mq≤N:=by omega
  rw[←hmq]at HE
  clear hmq
  by_cases hrm:mq=rc
  ·have HE1:Hid (StpP (.leaf n) R (.func (Fn.func 70) #[] #[ptrC p]) rb es w (.returned (.slice (some ⟨rb,ro,none⟩) (N-mq) (rc-mq))) w):=HE.out ro (fun z=>by omega)
   have hrm2:rc-mq=0:=by omega
   have hrm3:N-mq=0:=by omega
   rw[hrm2,hrm3]at HE1
   subst hrm
   go_enter Tryz.func70,Tryz.ntmps70
   go_wp2_with fail
   go_ret
   exact HE1.out
  ·have HE1:Hid (StpP (.leaf n) R (.func (Fn.func 70) #[] #[ptrC p]) rb es w (.returned (.slice (some ⟨rb,ro+mq*5,none⟩) (N-mq) (rc-mq))) w):=HE.out _ (fun _=>rfl)
   have hrm2:¬rc=mq:=fun z=>hrm z.symm
   go_enter Tryz.func70,Tryz.ntmps70
   go_wp2_with fail
   go_ret
   exact HE1.out
 |test h p l m mp hp hl hi hb hT=>
  cases hfv
  have HK:Hid (Calls Tryz.prog 73 #[.slice (some ⟨rb,ro,none⟩) es.length rc,.func (Fn.func 74) #[.agg #[.int .i64 n.kind,.string n.s,.bool n.hi,.string n.t,.int .u64 n.lo,.int .u64 n.up,.int .i64 n.n,.pointer mp]] #[]] w (KeP w l m n (.pointer mp) es)):=keep_core n h mp hR.sl hel l m hT (by have h9:=hh p hp.1;omega) hl.1 (fun z=>hR.off (hi _ z))
  have HT:Hid (Plain n∧R p∧¬InB l m p∧(l≤m∧m≤p)∧(∀k,InB l m k→R k)∧BoxAt w 0 111 8 p (eightV n mp)):=⟨h,hp.1,hp.2,hl,hi,hb⟩
  obtain⟨c0,c1,c2,c3,c4,c5,c6,c7⟩:=hb.c8
  obtain⟨N,hN⟩:=qE es.length
  rw[←hN]at HK⊢
  clear hR hb h hN hT hel hrc hh hV hi hp
  show Calls Tryz.prog 72 #[.slice (some ⟨rb,ro,none⟩) N rc,ptrC p] w _
  go_enter Tryz.func72,Tryz.ntmps72
  go_wp2_with fail
  refine HK.mono ?_
  rintro e w' ⟨g,cp,rfl,H⟩
  have HE:Hid (StpP (.leaf n) R (.func (Fn.func 72) #[] #[ptrC p]) rb es w (.returned (.slice (some ⟨g,0,none⟩) (leafM n es).length cp)) w'):=by
   have hc:=H.chg
   have ht:=HT.out
   exact stp_own (t:=.leaf n) H.own (.test ht.1 p l m mp ⟨ht.2.1,ht.2.2.1⟩ ht.2.2.2.1 ht.2.2.2.2.1 (ht.2.2.2.2.2.chg hc ht.2.2.1) H.tst) (hc.mono ht.2.2.2.2.1)
  go_wp2_with fail
  go_ret
  exact HE.out
def CallOk (k:Nat):Prop:=∀(args:Array Value) (w:World),(callFunc k args).run Tryz.prog w=.ok (.enter k args) w
theorem callOk0:CallOk 66:=fun args w=>by kernel_rfl
theorem callOk1:CallOk 62:=fun args w=>by kernel_rfl
theorem callOk2:CallOk 63:=fun args w=>by kernel_rfl
theorem callOk3:CallOk 67:=fun args w=>by kernel_rfl
theorem callOk4:CallOk 69:=fun args w=>by kernel_rfl
theorem callOk5:CallOk 70:=fun args w=>by kernel_rfl
theorem callOk6:CallOk 72:=fun args w=>by kernel_rfl
theorem callOk7:CallOk 102:=fun args w=>by kernel_rfl
theorem StepAt.callOk {w:World} {t:CT} {R:Nat→Prop} {k:Nat} {caps:Array Value} (h:StepAt w t R (.func (Fn.func k) #[] caps)):CallOk k:=by
 cases t with
 |leaf n=>
  have h':LeafAt w n R (.func (Fn.func k) #[] caps):=h
  clear h
  cases h' with
  |strip h=>exact callOk0
  |vers h h1 p hp hb=>exact callOk3
  |cells h h1 p hp hb=>exact callOk4
  |skip h h1 p hp hb=>exact callOk5
  |test h p l m mp hp hl hi hb hT=>exact callOk6
 |chain n a b=>
  obtain⟨A,B,pa,pb,ka,ca,kb,cb,h1,h2,h2',h3,h3',h5,_⟩:=h
  cases h5
  exact callOk1
 |inter n a b=>
  obtain⟨A,B,pa,pb,ka,ca,kb,cb,h1,h2,h2',h3,h3',h5,_⟩:=h
  cases h5
  exact callOk2
 |cond n p a b=>
  obtain⟨P,A,B,pp,pa,pb,kp,cp,ka,ca,kb,cb,h1,h4,h5,h6,h7,_⟩:=h
  cases h7
  exact callOk7
theorem rowIn_chg {w w':World} {R A:Nat→Prop} {rb ro rc:Nat} {es:List Ent} (h:RowIn w R rb ro rc es) (hc:Chg A w w') (hA:∀k,A k→R k):RowIn w' R rb ro rc es:=⟨h.sl.chg hc (fun z=>h.off (hA _ z)),h.off,h.sub,h.same,h.len⟩
theorem rowIn_sub {w:World} {R A:Nat→Prop} {rb ro rc:Nat} {es:List Ent} (h:RowIn w R rb ro rc es) (hA:∀k,A k→R k):RowIn w A rb ro rc es:=⟨h.sl,fun z=>h.off (hA _ z),h.sub,h.same,h.len⟩
theorem rowIn_mean {w w':World} {R:Nat→Prop} {rb ro rc:Nat} {es:List Ent} (t:CT) (h:RowIn w R rb ro rc es) {b o c:Nat} (hs:CSl w' b o c (mean t es)) (hb:b=rb∨w.heap.size≤b) (hh:∀k,R k→k<w.heap.size):RowIn w' R b o c (mean t es):=by
 have hm:=mean_sub t h.sub
 refine⟨hs,fun z=>?_,hm.self,hm.sameRow h.same,Nat.le_trans (hm.len h.sub.ord) h.len⟩
 rcases hb with rfl|hb
 ·exact h.off z
 ·have:=hh _ z;omega
set_option maxHeartbeats 4000000 in
theorem step_chain (n:Nd) {a b:CT} (Ha:StC a) (Hb:StC b):StC (.chain n a b):=by
 intro w R k caps rb ro rc es hS hh hV hR
 obtain⟨A,B,pa,pb,ka,ca,kb,cb,h1,h2,h2',h3,h3',h5,h6,h7,h8,h9⟩:=hS
 cases h5
 have HS:Hid (Twp R A B∧(Osd R A pa∧Osd R B pa)∧(Osd R A pb∧Osd R B pb)∧BoxAt w 0 58 1 pa [.func (Fn.func ka) #[] ca]∧BoxAt w 0 58 1 pb [.func (Fn.func kb) #[] cb]∧StepAt w b B (.func (Fn.func kb) #[] cb)):=⟨h1,⟨h2,h2'⟩,⟨h3,h3'⟩,h6,h7,h9⟩
 have HR:Hid (RowIn w R rb ro rc es∧(∀k,R k→k<w.heap.size)∧¬R 1):=⟨hR,hh,hV⟩
 have hd:Below w.heap.size w w.drew:=(Below.refl _ _).drew
 have HA:Hid (Calls Tryz.prog ka (#[.slice (some ⟨rb,ro,none⟩) es.length rc]++ca) w.drew (StpP a A (.func (Fn.func ka) #[] ca) rb es w.drew)):=Ha w.drew A ka ca rb ro rc es (h8.below hd) (fun k z=>hh k (h1.a k z)) (fun z=>hV (h1.a _ z)) (rowIn_sub ⟨hR.sl.below hd,hR.off,hR.sub,hR.same,hR.len⟩ h1.a)
 have hS0:(fun w':World=>w'.cell? ⟨pa,0,none⟩=some (.func (Fn.func ka) #[] ca)∧w'.cell? ⟨pb,0,none⟩=some (.func (Fn.func kb) #[] cb)) w.drew:=⟨h6.cell (j:=0) rfl,h7.cell (j:=0) rfl⟩
 have hka:∀(args:Array Value) (w:World),(callFunc ka args).run Tryz.prog w=.ok (.enter ka args) w:=h8.callOk
 have hkb:∀(args:Array Value) (w:World),(callFunc kb args).run Tryz.prog w=.ok (.enter kb args) w:=h9.callOk
 obtain⟨N,hN⟩:=qE es.length
 have HNl:Hid (N=es.length):=hN
 rw[←hN]at HA⊢
 clear h1 h2 h2' h3 h3' h6 h7 h8 h9 hR hh hV hN
 show Calls Tryz.prog 62 #[.slice (some ⟨rb,ro,none⟩) N rc,ptrC pb,ptrC pa] w _
 go_enter Tryz.func62,Tryz.ntmps62
 go_upto_region 1 with fail
 refine wp_region_T 99 (fun w':World=>w'.cell? ⟨pa,0,none⟩=some (.func (Fn.func ka) #[] ca)∧w'.cell? ⟨pb,0,none⟩=some (.func (Fn.func kb) #[] cb)) (by kernel_rfl) ?_
 refine qT 0 ?vsc0 rfl ?ysc0 hS0 ?_
 case ysc0=>exact zzR2
 try simp only[qA,List.getElem_toArray,List.getElem_cons_zero,List.getElem_cons_succ]
 refine qT 1 ?vsc1 rfl ?ysc1 hS0 ?_
 case ysc1=>exact zzR2
 try simp only[qA,List.getElem_toArray,List.getElem_cons_zero,List.getElem_cons_succ]
 refine qT 2 ?vsc2 rfl ?ysc2 hS0 ?_
 case ysc2=>exact zzR2
 try simp only[qA,List.getElem_toArray,List.getElem_cons_zero,List.getElem_cons_succ]
 refine qO 3 rfl fun K hK=>?_
 go_simp
 refine HA.mono ?_
 rintro e w1 ⟨b1,o1,c1,rfl,H1⟩
 have hc1:Chg A w w1:=(Chg.of_below hd).trans H1.2.2.2
 have hx1:Hid (BoxAt w1 0 58 1 pa [.func (Fn.func ka) #[] ca]∧BoxAt w1 0 58 1 pb [.func (Fn.func kb) #[] cb]∧StepAt w1 b B (.func (Fn.func kb) #[] cb)∧RowIn w1 R rb ro rc es∧RowIn w1 R b1 o1 c1 (mean a es)∧(∀k,R k→k<w1.heap.size)∧Chg A w w1):=by
  have h8:=HS.out
  have hr:=HR.out
  exact⟨h8.2.2.2.1.chg hc1 h8.2.1.1.out,h8.2.2.2.2.1.chg hc1 h8.2.2.1.1.out,h8.2.2.2.2.2.chg hc1 (fun z=>hr.2.2 (h8.1.a _ z)) h8.1.d,rowIn_chg hr.1 hc1 h8.1.a,rowIn_mean a hr.1 H1.1 H1.2.1 hr.2.1,fun k z=>Nat.lt_of_lt_of_le (hr.2.1 k z) hc1.size,hc1⟩
 have hS1:(fun w':World=>w'.cell? ⟨pa,0,none⟩=some (.func (Fn.func ka) #[] ca)∧w'.cell? ⟨pb,0,none⟩=some (.func (Fn.func kb) #[] cb)) w1:=⟨hx1.out.1.cell (j:=0) rfl,hx1.out.2.1.cell (j:=0) rfl⟩
 have HB:Hid (Calls Tryz.prog kb (#[.slice (some ⟨b1,o1,none⟩) (mean a es).length c1]++cb) w1 (StpP b B (.func (Fn.func kb) #[] cb) b1 (mean a es) w1)):=Hb w1 B kb cb b1 o1 c1 (mean a es) hx1.out.2.2.1 (fun k z=>hx1.out.2.2.2.2.2.1 k (HS.1.b k z)) (fun z=>HR.2.2 (HS.1.b _ z)) (rowIn_sub hx1.out.2.2.2.2.1 HS.1.b)
 clear hc1
 refine hK.out _ _ (.inr hS1) ?_
 clear hK
 try simp only[qA,List.getElem_toArray,List.getElem_cons_zero,List.getElem_cons_succ]
 refine qO 4 rfl fun K hK=>?_
 go_simp
 refine HB.mono ?_
 rintro e w2 ⟨b2,o2,c2,rfl,H2⟩
 have hc2:=H2.2.2.2
 have hS2:(fun w':World=>w'.cell? ⟨pa,0,none⟩=some (.func (Fn.func ka) #[] ca)∧w'.cell? ⟨pb,0,none⟩=some (.func (Fn.func kb) #[] cb)) w2:=⟨(hx1.out.1.chg hc2 HS.2.1.2.out).cell (j:=0) rfl,(hx1.out.2.1.chg hc2 HS.2.2.1.2.out).cell (j:=0) rfl⟩
 have HE:Hid (StpP (.chain n a b) R (.func (Fn.func 62) #[] #[ptrC pb,ptrC pa]) rb es w (.returned (.slice (some ⟨b2,o2,none⟩) (mean b (mean a es)).length c2)) w2):=by
  have h8:=HS.out
  have hr:=HR.out
  have hc1:=hx1.out.2.2.2.2.2.2
  refine⟨b2,o2,c2,rfl,H2.1,?_,⟨A,B,pa,pb,ka,ca,kb,cb,h8.1,h8.2.1.1,h8.2.1.2,h8.2.2.1.1,h8.2.2.1.2,rfl,hx1.out.1.chg hc2 h8.2.1.2.out,hx1.out.2.1.chg hc2 h8.2.2.1.2.out,?_,H2.2.2.1⟩,?_⟩
  ·rcases H2.2.1 with z|z
   ·rw[z];exact H1.2.1
   ·exact .inr (Nat.le_trans hc1.size z)
  ·exact H1.2.2.1.chg hc2 (fun z=>hr.2.2 (h8.1.b _ z)) (fun k z y=>h8.1.d k y z)
  ·exact(hc1.mono h8.1.a).trans (hc2.mono h8.1.b)
 clear hc2
 refine hK.out _ _ (.inr hS2) ?_
 clear hK
 try simp only[qA,List.getElem_toArray,List.getElem_cons_zero,List.getElem_cons_succ]
 refine qT 5 ?vsc5 rfl ?ysc5 hS2 ?_
 case ysc5=>exact zzR2
 exact zzQ51
set_option maxHeartbeats 4000000 in
theorem step_inter (n:Nd) {a b:CT} (Ha:StC a) (Hb:StC b):StC (.inter n a b):=by
 intro w R k caps rb ro rc es hS hh hV hR
 obtain⟨A,B,pa,pb,ka,ca,kb,cb,h1,h2,h2',h3,h3',h5,h6,h7,h8,h9⟩:=hS
 cases h5
 have HS:Hid (Twp R A B∧(Osd R A pa∧Osd R B pa)∧(Osd R A pb∧Osd R B pb)∧BoxAt w 0 58 1 pa [.func (Fn.func ka) #[] ca]∧BoxAt w 0 58 1 pb [.func (Fn.func kb) #[] cb]∧StepAt w b B (.func (Fn.func kb) #[] cb)):=⟨h1,⟨h2,h2'⟩,⟨h3,h3'⟩,h6,h7,h9⟩
 have HR:Hid (RowIn w R rb ro rc es∧(∀k,R k→k<w.heap.size)∧¬R 1):=⟨hR,hh,hV⟩
 have hd:Below w.heap.size w w.drew:=(Below.refl _ _).drew
 have HA:Hid (Calls Tryz.prog ka (#[.slice (some ⟨rb,ro,none⟩) es.length rc]++ca) w.drew (StpP a A (.func (Fn.func ka) #[] ca) rb es w.drew)):=Ha w.drew A ka ca rb ro rc es (h8.below hd) (fun k z=>hh k (h1.a k z)) (fun z=>hV (h1.a _ z)) (rowIn_sub ⟨hR.sl.below hd,hR.off,hR.sub,hR.same,hR.len⟩ h1.a)
 have hS0:(fun w':World=>w'.cell? ⟨pa,0,none⟩=some (.func (Fn.func ka) #[] ca)∧w'.cell? ⟨pb,0,none⟩=some (.func (Fn.func kb) #[] cb)) w.drew:=⟨h6.cell (j:=0) rfl,h7.cell (j:=0) rfl⟩
 have hka:∀(args:Array Value) (w:World),(callFunc ka args).run Tryz.prog w=.ok (.enter ka args) w:=h8.callOk
 have hkb:∀(args:Array Value) (w:World),(callFunc kb args).run Tryz.prog w=.ok (.enter kb args) w:=h9.callOk
 obtain⟨N,hN⟩:=qE es.length
 have HNl:Hid (N=es.length):=hN
 rw[←hN]at HA⊢
 clear h1 h2 h2' h3 h3' h6 h7 h8 h9 hR hh hV hN
 show Calls Tryz.prog 63 #[.slice (some ⟨rb,ro,none⟩) N rc,ptrC pa,ptrC pb] w _
 go_enter Tryz.func63,Tryz.ntmps63
 go_upto_region 1 with fail
 refine wp_region_T 99 (fun w':World=>w'.cell? ⟨pa,0,none⟩=some (.func (Fn.func ka) #[] ca)∧w'.cell? ⟨pb,0,none⟩=some (.func (Fn.func kb) #[] cb)) (by kernel_rfl) ?_
 refine qT 0 ?vsi0 rfl ?ysi0 hS0 ?_
 case ysi0=>exact zzR2
 try simp only[qA,List.getElem_toArray,List.getElem_cons_zero,List.getElem_cons_succ]
 refine qT 1 ?vsi1 rfl ?ysi1 hS0 ?_
 case ysi1=>exact zzR2
 try simp only[qA,List.getElem_toArray,List.getElem_cons_zero,List.getElem_cons_succ]
 refine qT 3 ?vsi3 rfl ?ysi3 hS0 ?_
 case ysi3=>exact zzR2
 try simp only[qA,List.getElem_toArray,List.getElem_cons_zero,List.getElem_cons_succ]
 refine qT 4 ?vsi4 rfl ?ysi4 hS0 ?_
 case ysi4=>exact zzR2
 try simp only[qA,List.getElem_toArray,List.getElem_cons_zero,List.getElem_cons_succ]
 refine qO 2 rfl fun K hK=>?_
 go_simp
 refine HA.mono ?_
 rintro e w1 ⟨b1,o1,c1,rfl,H1⟩
 have hc1:Chg A w w1:=(Chg.of_below hd).trans H1.2.2.2
 have hx1:Hid (BoxAt w1 0 58 1 pa [.func (Fn.func ka) #[] ca]∧BoxAt w1 0 58 1 pb [.func (Fn.func kb) #[] cb]∧StepAt w1 b B (.func (Fn.func kb) #[] cb)∧RowIn w1 R rb ro rc es∧RowIn w1 R b1 o1 c1 (mean a es)∧(∀k,R k→k<w1.heap.size)∧Chg A w w1):=by
  have h8:=HS.out
  have hr:=HR.out
  exact⟨h8.2.2.2.1.chg hc1 h8.2.1.1.out,h8.2.2.2.2.1.chg hc1 h8.2.2.1.1.out,h8.2.2.2.2.2.chg hc1 (fun z=>hr.2.2 (h8.1.a _ z)) h8.1.d,rowIn_chg hr.1 hc1 h8.1.a,rowIn_mean a hr.1 H1.1 H1.2.1 hr.2.1,fun k z=>Nat.lt_of_lt_of_le (hr.2.1 k z) hc1.size,hc1⟩
 have hS1:(fun w':World=>w'.cell? ⟨pa,0,none⟩=some (.func (Fn.func ka) #[] ca)∧w'.cell? ⟨pb,0,none⟩=some (.func (Fn.func kb) #[] cb)) w1:=⟨hx1.out.1.cell (j:=0) rfl,hx1.out.2.1.cell (j:=0) rfl⟩
 have HB:Hid (Calls Tryz.prog kb (#[.slice (some ⟨rb,ro,none⟩) N rc]++cb) w1 (StpP b B (.func (Fn.func kb) #[] cb) rb es w1)):=by
  rw[HNl.out];exact Hb w1 B kb cb rb ro rc es hx1.out.2.2.1 (fun k z=>hx1.out.2.2.2.2.2.1 k (HS.1.b k z)) (fun z=>HR.2.2 (HS.1.b _ z)) (rowIn_sub hx1.out.2.2.2.1 HS.1.b)
 clear hc1
 refine hK.out _ _ (.inr hS1) ?_
 clear hK
 try simp only[qA,List.getElem_toArray,List.getElem_cons_zero,List.getElem_cons_succ]
 refine qO 5 rfl fun K hK=>?_
 go_simp
 refine HB.mono ?_
 rintro e w2 ⟨b2,o2,c2,rfl,H2⟩
 have hc2:=H2.2.2.2
 have hS2:(fun w':World=>w'.cell? ⟨pa,0,none⟩=some (.func (Fn.func ka) #[] ca)∧w'.cell? ⟨pb,0,none⟩=some (.func (Fn.func kb) #[] cb)) w2:=⟨(hx1.out.1.chg hc2 HS.2.1.2.out).cell (j:=0) rfl,(hx1.out.2.1.chg hc2 HS.2.2.1.2.out).cell (j:=0) rfl⟩
 have HU:Hid (Calls Tryz.prog 64 #[.slice (some ⟨b1,o1,none⟩) (mean a es).length c1,.slice (some ⟨b2,o2,none⟩) (mean b es).length c2] w2 fun e w'=>∃g cp,e=.returned (.slice (some ⟨g,0,none⟩) (uniM (mean a es) (mean b es)).length cp)∧OwnC w' w2.heap.size g cp (uniM (mean a es) (mean b es))∧Below w2.heap.size w2 w'):=by
  have hr:=HR.1
  have sa:=mean_sub a hr.sub
  have sb':=mean_sub b hr.sub
  have la:=sa.len hr.sub.ord
  have lb:=sb'.len hr.sub.ord
  have le:=hr.len
  exact unite_core ((hx1.out.2.2.2.2.1).sl.chg hc2 (fun z=>hx1.out.2.2.2.2.1.off (HS.1.b _ z))) H2.1 sa.ord sb'.ord sa.kind sb'.kind (by omega) (by omega)
 clear hc2
 refine hK.out _ _ (.inr hS2) ?_
 clear hK
 try simp only[qA,List.getElem_toArray,List.getElem_cons_zero,List.getElem_cons_succ]
 refine qO 6 rfl fun K hK=>?_
 go_simp
 refine HU.mono ?_
 rintro e w3 ⟨g3,cp3,rfl,hO3,hb3⟩
 have hc2:=H2.2.2.2
 have hc3:Chg B w1 w3:=hc2.trans (Chg.of_below hb3)
 have hS3:(fun w':World=>w'.cell? ⟨pa,0,none⟩=some (.func (Fn.func ka) #[] ca)∧w'.cell? ⟨pb,0,none⟩=some (.func (Fn.func kb) #[] cb)) w3:=⟨(hx1.out.1.chg hc3 HS.2.1.2.out).cell (j:=0) rfl,(hx1.out.2.1.chg hc3 HS.2.2.1.2.out).cell (j:=0) rfl⟩
 have HE:Hid (StpP (.inter n a b) R (.func (Fn.func 63) #[] #[ptrC pa,ptrC pb]) rb es w (.returned (.slice (some ⟨g3,0,none⟩) (uniM (mean a es) (mean b es)).length cp3)) w3):=by
  have h8:=HS.out
  have hr:=HR.out
  have hc1:=hx1.out.2.2.2.2.2.2
  refine⟨g3,0,cp3,rfl,hO3.sl,.inr ?_,⟨A,B,pa,pb,ka,ca,kb,cb,h8.1,h8.2.1.1,h8.2.1.2,h8.2.2.1.1,h8.2.2.1.2,rfl,hx1.out.1.chg hc3 h8.2.1.2.out,hx1.out.2.1.chg hc3 h8.2.2.1.2.out,?_,H2.2.2.1.below hb3⟩,?_⟩
  ·have:=hO3.lt.1;have:=hc1.size;have:=hc2.size;omega
  ·exact H1.2.2.1.chg hc3 (fun z=>hr.2.2 (h8.1.b _ z)) (fun k z y=>h8.1.d k y z)
  ·exact(hc1.mono h8.1.a).trans (hc3.mono h8.1.b)
 clear hc2 hc3 hO3 hb3
 refine hK.out _ _ (.inr hS3) ?_
 clear hK
 try simp only[qA,List.getElem_toArray,List.getElem_cons_zero,List.getElem_cons_succ]
 refine qT 7 ?vsi7 rfl ?ysi7 hS3 ?_
 case ysi7=>exact zzR2
 exact zzQ51
set_option maxHeartbeats 4000000 in
theorem step_cond (n:Nd) {p a b:CT} (Hp:StC p) (Ha:StC a) (Hb:StC b):StC (.cond n p a b):=by
 intro w R k caps rb ro rc es hS hh hV hR
 obtain⟨P,A,B,pp,pa,pb,kp,cp,ka,ca,kb,cb,h1,h4,h5,h6,h7,h8,h9,g1,g2,g3,g4⟩:=hS
 cases h7
 have HS:Hid ((Twp R P A∧Twp R P B∧Twp R A B)∧(Osd R P pp∧Osd R A pp∧Osd R B pp)∧(Osd R P pa∧Osd R A pa∧Osd R B pa)∧(Osd R P pb∧Osd R A pb∧Osd R B pb)):=⟨h1,h4,h5,h6⟩
 have HB0:Hid (BoxAt w 0 58 1 pp [.func (Fn.func kp) #[] cp]∧BoxAt w 0 58 1 pa [.func (Fn.func ka) #[] ca]∧BoxAt w 0 58 1 pb [.func (Fn.func kb) #[] cb]∧StepAt w a A (.func (Fn.func ka) #[] ca)∧StepAt w b B (.func (Fn.func kb) #[] cb)):=⟨h8,h9,g1,g3,g4⟩
 have HR:Hid (RowIn w R rb ro rc es∧(∀k,R k→k<w.heap.size)∧¬R 1):=⟨hR,hh,hV⟩
 have HP:Hid (Calls Tryz.prog kp (#[.slice (some ⟨rb,ro,none⟩) es.length rc]++cp) w (StpP p P (.func (Fn.func kp) #[] cp) rb es w)):=Hp w P kp cp rb ro rc es g2 (fun k z=>hh k (h1.1.a k z)) (fun z=>hV (h1.1.a _ z)) (rowIn_sub hR h1.1.a)
 have x0:=h8.cell (j:=0) rfl
 have hkp:∀(args:Array Value) (w:World),(callFunc kp args).run Tryz.prog w=.ok (.enter kp args) w:=g2.callOk
 have hka:∀(args:Array Value) (w:World),(callFunc ka args).run Tryz.prog w=.ok (.enter ka args) w:=g3.callOk
 have hkb:∀(args:Array Value) (w:World),(callFunc kb args).run Tryz.prog w=.ok (.enter kb args) w:=g4.callOk
 obtain⟨N,hN⟩:=qE es.length
 have HNl:Hid (N=es.length):=hN
 rw[←hN]at HP⊢
 clear h1 h4 h5 h6 h8 h9 g1 g2 g3 g4 hR hh hV hN
 show Calls Tryz.prog 102 #[.slice (some ⟨rb,ro,none⟩) N rc,ptrC pp,ptrC pa,ptrC pb] w _
 go_enter Tryz.func102,Tryz.ntmps102
 go_wp2_with fail
 refine HP.mono ?_
 rintro e w1 ⟨b1,o1,c1,rfl,H1⟩
 have hlp:(mean p es).length≤10000:=by have h8:=(mean_sub p HR.1.sub).len HR.1.sub.ord;have h9:=HR.1.len;omega
 obtain⟨Q,hQ⟩:=qE ((mean p es).length)
 have HPl:Hid (Q=(mean p es).length):=hQ
 rw[←hQ]at hlp⊢
 have HX:Hid (BoxAt w1 0 58 1 pp [.func (Fn.func kp) #[] cp]∧BoxAt w1 0 58 1 pa [.func (Fn.func ka) #[] ca]∧BoxAt w1 0 58 1 pb [.func (Fn.func kb) #[] cb]∧StepAt w1 a A (.func (Fn.func ka) #[] ca)∧StepAt w1 b B (.func (Fn.func kb) #[] cb)∧RowIn w1 R rb ro rc es∧(∀k,R k→k<w1.heap.size)):=by
  have hc1:=H1.2.2.2
  have h8:=HS.out
  have hb:=HB0.out
  have hr:=HR.out
  have hv:¬P 1:=fun z=>hr.2.2 (h8.1.1.a _ z)
  exact⟨hb.1.chg hc1 h8.2.1.1.out,hb.2.1.chg hc1 h8.2.2.1.1.out,hb.2.2.1.chg hc1 h8.2.2.2.1.out,hb.2.2.2.1.chg hc1 hv h8.1.1.d,hb.2.2.2.2.chg hc1 hv h8.1.2.1.d,rowIn_chg hr.1 hc1 h8.1.1.a,fun k z=>Nat.lt_of_lt_of_le (hr.2.1 k z) hc1.size⟩
 clear hQ x0
 by_cases hz:Q=0
 ·subst hz
  have HM:Hid (mean (.cond n p a b) es=mean b es):=by
   show mean (.cond n p a b) es=_
   have h0:mean p es= []:=List.length_eq_zero_iff.1 HPl.symm
   conv=>lhs;unfold mean
   rw[if_pos h0]
  have HC:Hid (Calls Tryz.prog kb (#[.slice (some ⟨rb,ro,none⟩) N rc]++cb) w1 (StpP b B (.func (Fn.func kb) #[] cb) rb es w1)):=by
   rw[HNl.out];exact Hb w1 B kb cb rb ro rc es HX.2.2.2.2.1 (fun k z=>HX.2.2.2.2.2.2 k (HS.1.2.1.b k z)) (fun z=>HR.2.2 (HS.1.2.1.b _ z)) (rowIn_sub HX.2.2.2.2.2.1 HS.1.2.1.b)
  have x1:=HX.2.2.1.cell (j:=0) rfl
  go_wp2_with fail
  refine HC.mono ?_
  rintro e w2 ⟨b2,o2,c2,rfl,H2⟩
  have HE:Hid (StpP (.cond n p a b) R (.func (Fn.func 102) #[] #[ptrC pp,ptrC pa,ptrC pb]) rb es w (.returned (.slice (some ⟨b2,o2,none⟩) (mean b es).length c2)) w2):=by
   have hc1:=H1.2.2.2
   have hc2:=H2.2.2.2
   have h8:=HS.out
   have hr:=HR.out
   have hv:¬B 1:=fun z=>hr.2.2 (HS.1.2.1.b _ z)
   refine⟨b2,o2,c2,by rw[HM.out],by rw[HM.out];exact H2.1,?_,⟨P,A,B,pp,pa,pb,kp,cp,ka,ca,kb,cb,h8.1,h8.2.1,h8.2.2.1,h8.2.2.2,rfl,HX.1.chg hc2 h8.2.1.2.2.out,HX.2.1.chg hc2 h8.2.2.1.2.2.out,HX.2.2.1.chg hc2 h8.2.2.2.2.2.out,?_,?_,?_⟩,?_⟩
   ·rcases H2.2.1 with z|z
    ·exact .inl z
    ·exact .inr (Nat.le_trans hc1.size z)
   ·exact H1.2.2.1.chg hc2 hv (fun k z y=>h8.1.2.1.d k y z)
   ·exact HX.2.2.2.1.chg hc2 hv (fun k z y=>h8.1.2.2.d k y z)
   ·exact H2.2.2.1
   ·exact(hc1.mono h8.1.1.a).trans (hc2.mono HS.1.2.1.b)
  go_wp2_with fail
  go_ret
  exact HE.out
 ·have zp:(0:Int)<(Q:Int):=by omega
  have HM:Hid (mean (.cond n p a b) es=mean a es):=by
   show mean (.cond n p a b) es=_
   have h0:¬mean p es= []:=fun q=>hz (by rw[HPl.out,q];rfl)
   conv=>lhs;unfold mean
   rw[if_neg h0]
  have HC:Hid (Calls Tryz.prog ka (#[.slice (some ⟨rb,ro,none⟩) N rc]++ca) w1 (StpP a A (.func (Fn.func ka) #[] ca) rb es w1)):=by
   rw[HNl.out];exact Ha w1 A ka ca rb ro rc es HX.2.2.2.1 (fun k z=>HX.2.2.2.2.2.2 k (HS.1.1.b k z)) (fun z=>HR.2.2 (HS.1.1.b _ z)) (rowIn_sub HX.2.2.2.2.2.1 HS.1.1.b)
  have x1:=HX.2.1.cell (j:=0) rfl
  go_wp2_with fail
  refine HC.mono ?_
  rintro e w2 ⟨b2,o2,c2,rfl,H2⟩
  have HE:Hid (StpP (.cond n p a b) R (.func (Fn.func 102) #[] #[ptrC pp,ptrC pa,ptrC pb]) rb es w (.returned (.slice (some ⟨b2,o2,none⟩) (mean a es).length c2)) w2):=by
   have hc1:=H1.2.2.2
   have hc2:=H2.2.2.2
   have h8:=HS.out
   have hr:=HR.out
   have hv:¬A 1:=fun z=>hr.2.2 (HS.1.1.b _ z)
   refine⟨b2,o2,c2,by rw[HM.out],by rw[HM.out];exact H2.1,?_,⟨P,A,B,pp,pa,pb,kp,cp,ka,ca,kb,cb,h8.1,h8.2.1,h8.2.2.1,h8.2.2.2,rfl,HX.1.chg hc2 h8.2.1.2.1.out,HX.2.1.chg hc2 h8.2.2.1.2.1.out,HX.2.2.1.chg hc2 h8.2.2.2.2.1.out,?_,?_,?_⟩,?_⟩
   ·rcases H2.2.1 with z|z
    ·exact .inl z
    ·exact .inr (Nat.le_trans hc1.size z)
   ·exact H1.2.2.1.chg hc2 hv (fun k z y=>h8.1.1.d k y z)
   ·exact H2.2.2.1
   ·exact HX.2.2.2.2.1.chg hc2 hv (fun k z y=>h8.1.2.2.d k z y)
   ·exact(hc1.mono h8.1.1.a).trans (hc2.mono HS.1.1.b)
  go_wp2_with fail
  go_ret
  exact HE.out
theorem step_all:∀t:CT,StC t
 | .leaf n=>step_leaf n
 | .chain n a b=>step_chain n (step_all a) (step_all b)
 | .inter n a b=>step_inter n (step_all a) (step_all b)
 | .cond n p a b=>step_cond n (step_all p) (step_all a) (step_all b)
set_option maxHeartbeats 8000000 in
theorem mct_4 (n:Nd) (w:World) (hT:TabD w) (hs:n.s.size≤maxLen) (hg:(checkM (sb n.s)).1=0) (h4:n.kind=4):Calls Tryz.prog 71 #[n.v] w (CteP n w):=by
 have hP:PatK n.kind:=by unfold PatK;omega
 have HKH:Hid (n.kind=4):=h4
 have HPH:Hid (PatK n.kind):=hP
 clear h4 hP
 obtain⟨W2,hW2⟩:=qE (((w.alloc (.cells n.seven.toArray 75)).alloc (.cells #[.int .i64 0,.string ⟨#[]⟩,.bool false,.string ⟨#[]⟩,.int .u64 0,.int .u64 0,.int .i64 0,.pointer none] 111)).alloc (.cells #[.int .i64 n.kind,.string n.s,.bool n.hi,.string n.t,.int .u64 n.lo,.int .u64 n.up,.int .i64 n.n,.pointer none] 111):World)
 have HW2:Hid (BoxAt W2 w.heap.size 75 7 w.heap.size n.seven∧BoxAt W2 w.heap.size 111 8 (w.heap.size+1) (#[.int .i64 0,.string ⟨#[]⟩,.bool false,.string ⟨#[]⟩,.int .u64 0,.int .u64 0,.int .i64 0,.pointer none]).toList∧BoxAt W2 w.heap.size 111 8 (w.heap.size+1+1) (eightV n none)∧Below w.heap.size w W2):=ct_start n w W2 hW2
 have HT:Hid (TabD w∧n.s.size≤maxLen):=⟨hT,hs⟩
 have hbd:=tst_build n.kind n.s n.hi n.t n.lo n.up n.n
 have HF:Hid (∀(X:World) (mp:Option Addr),BoxAt X w.heap.size 111 8 (w.heap.size+1) (#[.int .i64 0,.string ⟨#[]⟩,.bool false,.string ⟨#[]⟩,.int .u64 0,.int .u64 0,.int .i64 0,.pointer none]).toList→Below w.heap.size w X→w.heap.size+1<X.heap.size→TstAt X (w.heap.size+1+1+1) X.heap.size n (.pointer mp)→CteP n w (.returned (.agg #[.int .i64 n.kind,.string n.s,.bool n.hi,.string n.t,.int .u64 n.lo,.int .u64 n.up,.int .i64 n.n,.pointer mp])) (set8 X (w.heap.size+1) n mp)∧BoxAt (set8 X (w.heap.size+1) n mp) w.heap.size 111 8 (w.heap.size+1) (eightV n mp)):=ct_fin n w hT
 have HG:Hid (PatK n.kind→(checkM (sb n.s)).1=0):=fun _=>hg
 clear hg
 clear hT hs
 go_enter Tryz.func71,Tryz.ntmps71
 go_upto_region 2 with fail
 have hW2':=hW2
 simp only[Nd.seven]at hW2'
 rw[←hW2']
 clear hW2 hW2' hbd
 obtain⟨n0,n1⟩:=HW2.1.c2
 have hz2:w.heap.size+1+1<W2.heap.size:=HW2.2.2.1.lt.2
 have hp200:n.s.size≤200:=by
  apply Classical.byContradiction
  intro h6
  have q0:=HG.out HPH.out
  unfold checkM at q0
  rw[if_pos (by rw[sb_len];omega)]at q0
  exact absurd q0 (by decide)
 have HRp:Hid (Calls Tryz.prog 104 #[.string n.s] W2 (ReadPost n.s W2)):=readPattern_core n.s W2 HT.2
 have hP0:Hid (PatK n.kind):=HPH.out
 have hP:=HPH.out
 have h4:=HKH.out
 have b4:(n.kind==4)=true:=by rw[beq_iff_eq];exact h4
 have HK9:Hid (n.kind=4):=h4
 clear h4 hP
 exact zzQ0
set_option maxHeartbeats 8000000 in
theorem mct_5 (n:Nd) (w:World) (hT:TabD w) (hs:n.s.size≤maxLen) (hg:(checkM (sb n.s)).1=0) (h5:n.kind=5):Calls Tryz.prog 71 #[n.v] w (CteP n w):=by
 have hP:PatK n.kind:=by unfold PatK;omega
 have HKH:Hid (n.kind=5):=h5
 have HPH:Hid (PatK n.kind):=hP
 clear h5 hP
 obtain⟨W2,hW2⟩:=qE (((w.alloc (.cells n.seven.toArray 75)).alloc (.cells #[.int .i64 0,.string ⟨#[]⟩,.bool false,.string ⟨#[]⟩,.int .u64 0,.int .u64 0,.int .i64 0,.pointer none] 111)).alloc (.cells #[.int .i64 n.kind,.string n.s,.bool n.hi,.string n.t,.int .u64 n.lo,.int .u64 n.up,.int .i64 n.n,.pointer none] 111):World)
 have HW2:Hid (BoxAt W2 w.heap.size 75 7 w.heap.size n.seven∧BoxAt W2 w.heap.size 111 8 (w.heap.size+1) (#[.int .i64 0,.string ⟨#[]⟩,.bool false,.string ⟨#[]⟩,.int .u64 0,.int .u64 0,.int .i64 0,.pointer none]).toList∧BoxAt W2 w.heap.size 111 8 (w.heap.size+1+1) (eightV n none)∧Below w.heap.size w W2):=ct_start n w W2 hW2
 have HT:Hid (TabD w∧n.s.size≤maxLen):=⟨hT,hs⟩
 have hbd:=tst_build n.kind n.s n.hi n.t n.lo n.up n.n
 have HF:Hid (∀(X:World) (mp:Option Addr),BoxAt X w.heap.size 111 8 (w.heap.size+1) (#[.int .i64 0,.string ⟨#[]⟩,.bool false,.string ⟨#[]⟩,.int .u64 0,.int .u64 0,.int .i64 0,.pointer none]).toList→Below w.heap.size w X→w.heap.size+1<X.heap.size→TstAt X (w.heap.size+1+1+1) X.heap.size n (.pointer mp)→CteP n w (.returned (.agg #[.int .i64 n.kind,.string n.s,.bool n.hi,.string n.t,.int .u64 n.lo,.int .u64 n.up,.int .i64 n.n,.pointer mp])) (set8 X (w.heap.size+1) n mp)∧BoxAt (set8 X (w.heap.size+1) n mp) w.heap.size 111 8 (w.heap.size+1) (eightV n mp)):=ct_fin n w hT
 have HG:Hid (PatK n.kind→(checkM (sb n.s)).1=0):=fun _=>hg
 clear hg
 clear hT hs
 go_enter Tryz.func71,Tryz.ntmps71
 go_upto_region 2 with fail
 have hW2':=hW2
 simp only[Nd.seven]at hW2'
 rw[←hW2']
 clear hW2 hW2' hbd
 obtain⟨n0,n1⟩:=HW2.1.c2
 have hz2:w.heap.size+1+1<W2.heap.size:=HW2.2.2.1.lt.2
 have hp200:n.s.size≤200:=by
  apply Classical.byContradiction
  intro h6
  have q0:=HG.out HPH.out
  unfold checkM at q0
  rw[if_pos (by rw[sb_len];omega)]at q0
  exact absurd q0 (by decide)
 have HRp:Hid (Calls Tryz.prog 104 #[.string n.s] W2 (ReadPost n.s W2)):=readPattern_core n.s W2 HT.2
 have hP0:Hid (PatK n.kind):=HPH.out
 have hP:=HPH.out
 have h5:=HKH.out
 have b4:(n.kind==4)=false:=by rw[beq_eq_false_iff_ne];omega
 have b5:(n.kind==5)=true:=by rw[beq_iff_eq];exact h5
 have HK9:Hid (n.kind=5):=h5
 clear h5 hP
 exact zzQ0
set_option maxHeartbeats 8000000 in
theorem mct_6 (n:Nd) (w:World) (hT:TabD w) (hs:n.s.size≤maxLen) (hg:(checkM (sb n.s)).1=0) (h6:n.kind=6):Calls Tryz.prog 71 #[n.v] w (CteP n w):=by
 have hP:PatK n.kind:=by unfold PatK;omega
 have HKH:Hid (n.kind=6):=h6
 have HPH:Hid (PatK n.kind):=hP
 clear h6 hP
 obtain⟨W2,hW2⟩:=qE (((w.alloc (.cells n.seven.toArray 75)).alloc (.cells #[.int .i64 0,.string ⟨#[]⟩,.bool false,.string ⟨#[]⟩,.int .u64 0,.int .u64 0,.int .i64 0,.pointer none] 111)).alloc (.cells #[.int .i64 n.kind,.string n.s,.bool n.hi,.string n.t,.int .u64 n.lo,.int .u64 n.up,.int .i64 n.n,.pointer none] 111):World)
 have HW2:Hid (BoxAt W2 w.heap.size 75 7 w.heap.size n.seven∧BoxAt W2 w.heap.size 111 8 (w.heap.size+1) (#[.int .i64 0,.string ⟨#[]⟩,.bool false,.string ⟨#[]⟩,.int .u64 0,.int .u64 0,.int .i64 0,.pointer none]).toList∧BoxAt W2 w.heap.size 111 8 (w.heap.size+1+1) (eightV n none)∧Below w.heap.size w W2):=ct_start n w W2 hW2
 have HT:Hid (TabD w∧n.s.size≤maxLen):=⟨hT,hs⟩
 have hbd:=tst_build n.kind n.s n.hi n.t n.lo n.up n.n
 have HF:Hid (∀(X:World) (mp:Option Addr),BoxAt X w.heap.size 111 8 (w.heap.size+1) (#[.int .i64 0,.string ⟨#[]⟩,.bool false,.string ⟨#[]⟩,.int .u64 0,.int .u64 0,.int .i64 0,.pointer none]).toList→Below w.heap.size w X→w.heap.size+1<X.heap.size→TstAt X (w.heap.size+1+1+1) X.heap.size n (.pointer mp)→CteP n w (.returned (.agg #[.int .i64 n.kind,.string n.s,.bool n.hi,.string n.t,.int .u64 n.lo,.int .u64 n.up,.int .i64 n.n,.pointer mp])) (set8 X (w.heap.size+1) n mp)∧BoxAt (set8 X (w.heap.size+1) n mp) w.heap.size 111 8 (w.heap.size+1) (eightV n mp)):=ct_fin n w hT
 have HG:Hid (PatK n.kind→(checkM (sb n.s)).1=0):=fun _=>hg
 clear hg
 clear hT hs
 go_enter Tryz.func71,Tryz.ntmps71
 go_upto_region 2 with fail
 have hW2':=hW2
 simp only[Nd.seven]at hW2'
 rw[←hW2']
 clear hW2 hW2' hbd
 obtain⟨n0,n1⟩:=HW2.1.c2
 have hz2:w.heap.size+1+1<W2.heap.size:=HW2.2.2.1.lt.2
 have hp200:n.s.size≤200:=by
  apply Classical.byContradiction
  intro h6
  have q0:=HG.out HPH.out
  unfold checkM at q0
  rw[if_pos (by rw[sb_len];omega)]at q0
  exact absurd q0 (by decide)
 have HRp:Hid (Calls Tryz.prog 104 #[.string n.s] W2 (ReadPost n.s W2)):=readPattern_core n.s W2 HT.2
 have hP0:Hid (PatK n.kind):=HPH.out
 have hP:=HPH.out
 have h6:=HKH.out
 have b4:(n.kind==4)=false:=by rw[beq_eq_false_iff_ne];omega
 have b5:(n.kind==5)=false:=by rw[beq_eq_false_iff_ne];omega
 have b6:(n.kind==6)=true:=by rw[beq_iff_eq];exact h6
 have HK9:Hid (n.kind=6):=h6
 clear h6 hP
 exact zzQ0
set_option maxHeartbeats 8000000 in
theorem mct_7 (n:Nd) (w:World) (hT:TabD w) (hs:n.s.size≤maxLen) (hg:(checkM (sb n.s)).1=0) (h7:n.kind=7):Calls Tryz.prog 71 #[n.v] w (CteP n w):=by
 have hP:PatK n.kind:=by unfold PatK;omega
 have HKH:Hid (n.kind=7):=h7
 have HPH:Hid (PatK n.kind):=hP
 clear h7 hP
 obtain⟨W2,hW2⟩:=qE (((w.alloc (.cells n.seven.toArray 75)).alloc (.cells #[.int .i64 0,.string ⟨#[]⟩,.bool false,.string ⟨#[]⟩,.int .u64 0,.int .u64 0,.int .i64 0,.pointer none] 111)).alloc (.cells #[.int .i64 n.kind,.string n.s,.bool n.hi,.string n.t,.int .u64 n.lo,.int .u64 n.up,.int .i64 n.n,.pointer none] 111):World)
 have HW2:Hid (BoxAt W2 w.heap.size 75 7 w.heap.size n.seven∧BoxAt W2 w.heap.size 111 8 (w.heap.size+1) (#[.int .i64 0,.string ⟨#[]⟩,.bool false,.string ⟨#[]⟩,.int .u64 0,.int .u64 0,.int .i64 0,.pointer none]).toList∧BoxAt W2 w.heap.size 111 8 (w.heap.size+1+1) (eightV n none)∧Below w.heap.size w W2):=ct_start n w W2 hW2
 have HT:Hid (TabD w∧n.s.size≤maxLen):=⟨hT,hs⟩
 have hbd:=tst_build n.kind n.s n.hi n.t n.lo n.up n.n
 have HF:Hid (∀(X:World) (mp:Option Addr),BoxAt X w.heap.size 111 8 (w.heap.size+1) (#[.int .i64 0,.string ⟨#[]⟩,.bool false,.string ⟨#[]⟩,.int .u64 0,.int .u64 0,.int .i64 0,.pointer none]).toList→Below w.heap.size w X→w.heap.size+1<X.heap.size→TstAt X (w.heap.size+1+1+1) X.heap.size n (.pointer mp)→CteP n w (.returned (.agg #[.int .i64 n.kind,.string n.s,.bool n.hi,.string n.t,.int .u64 n.lo,.int .u64 n.up,.int .i64 n.n,.pointer mp])) (set8 X (w.heap.size+1) n mp)∧BoxAt (set8 X (w.heap.size+1) n mp) w.heap.size 111 8 (w.heap.size+1) (eightV n mp)):=ct_fin n w hT
 have HG:Hid (PatK n.kind→(checkM (sb n.s)).1=0):=fun _=>hg
 clear hg
 clear hT hs
 go_enter Tryz.func71,Tryz.ntmps71
 go_upto_region 2 with fail
 have hW2':=hW2
 simp only[Nd.seven]at hW2'
 rw[←hW2']
 clear hW2 hW2' hbd
 obtain⟨n0,n1⟩:=HW2.1.c2
 have hz2:w.heap.size+1+1<W2.heap.size:=HW2.2.2.1.lt.2
 have hp200:n.s.size≤200:=by
  apply Classical.byContradiction
  intro h6
  have q0:=HG.out HPH.out
  unfold checkM at q0
  rw[if_pos (by rw[sb_len];omega)]at q0
  exact absurd q0 (by decide)
 have HRp:Hid (Calls Tryz.prog 104 #[.string n.s] W2 (ReadPost n.s W2)):=readPattern_core n.s W2 HT.2
 have hP0:Hid (PatK n.kind):=HPH.out
 have hP:=HPH.out
 have h7:=HKH.out
 have b4:(n.kind==4)=false:=by rw[beq_eq_false_iff_ne];omega
 have b5:(n.kind==5)=false:=by rw[beq_eq_false_iff_ne];omega
 have b6:(n.kind==6)=false:=by rw[beq_eq_false_iff_ne];omega
 have b7:(n.kind==7)=true:=by rw[beq_iff_eq];exact h7
 have HK9:Hid (n.kind=7):=h7
 clear h7 hP
 exact zzQ0
end Go.Proofs.YtkidabedcgngcaaGreatDoor
namespace Go.Proofs.YtkidabedcgngcaaGreatDoor
open Go.ChangeShapes Go.WideShapes Go.ChangeAt Go.RowKit Go.Deep
theorem makeCellTest_core (n:Nd) (w:World) (hT:TabD w) (hs:n.s.size≤maxLen) (hg:PatK n.kind→(checkM (sb n.s)).1=0):Calls Tryz.prog 71 #[n.v] w (CteP n w):=by
 by_cases hP:PatK n.kind
 ·rcases hP with h|h|h|h
  ·exact mct_4 n w hT hs (hg (.inl h)) h
  ·exact mct_5 n w hT hs (hg (.inr (.inl h))) h
  ·exact mct_6 n w hT hs (hg (.inr (.inr (.inl h)))) h
  ·exact mct_7 n w hT hs (hg (.inr (.inr (.inr h)))) h
 ·exact mct_plain n w hT hs hP
end Go.Proofs.YtkidabedcgngcaaGreatDoor
