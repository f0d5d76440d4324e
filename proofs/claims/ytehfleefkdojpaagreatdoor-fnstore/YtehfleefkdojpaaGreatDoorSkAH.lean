import Derived.Test.YtehfleefkdojpaaGreatDoorSkAE
import Derived.Test.YtehfleefkdojpaaGreatDoorSkAF
import Derived.Test.YtehfleefkdojpaaGreatDoorSkAG
namespace Go.Proofs.YtehfleefkdojpaaGreatDoor
open Go.ChangeShapes Go.WideShapes Go.ChangeAt Go.RowKit Go.Deep _root_.List _root_.Nat Go.Sort Go.Proofs.Tryz
set_option linter.unusedVariables false
set_option linter.unusedSimpArgs false
set_option maxRecDepth 100000
set_option maxHeartbeats 16000000
structure CuAt(w:World)(c:Cu):Prop where
 slice:w.cell? ⟨c.blk,0,none⟩=some (.slice (some ⟨c.r.b,c.r.off,none⟩) c.r.es.length c.r.cap)
 pos:w.cell? ⟨c.blk,1,none⟩=some (.int .i64 c.pos)
 age:w.cell? ⟨c.blk,2,none⟩=some (.int .i64 c.age)
 free:∀j,w.frozen? ⟨c.blk,j,none⟩=false
 lt:c.blk<w.heap.size
 ents:c.r.at w
 here:c.pos<c.r.es.length
 short:c.r.es.length<=1048576
 young:c.age<=1048576
variable {w w':World}
theorem CuAt.below{c:Cu}(h:CuAt w c)(hb:Below w.heap.size w w'):CuAt w' c where
 slice:=by rw[hb.cell (p:=⟨c.blk,0,none⟩) h.lt];exact h.slice
 pos:=by rw[hb.cell (p:=⟨c.blk,1,none⟩) h.lt];exact h.pos
 age:=by rw[hb.cell (p:=⟨c.blk,2,none⟩) h.lt];exact h.age
 free:=λj=>by rw[hb.frozen (p:=⟨c.blk,j,none⟩) h.lt];exact h.free j
 lt:=by have:=hb.size;have:=h.lt;omega
 ents:=h.ents.below hb
 here:=h.here
 short:=h.short
 young:=h.young
theorem yLg(c:Cu)(w:World)(h:CuAt w c):
  Calls prog 320 #[.pointer (some ⟨c.blk,0,none⟩)] w λe w'=>e=.returned c.head.v/\Below w.heap.size w w':=by
 obtain⟨c0,c1,c2,c3,c4,c5⟩:=h.ents.ents c.pos c.head (Cu.head_get h.here);have hs:=h.slice;have hp:=h.pos;have hl:=h.lt;have hr:=h.ents.lt;have hh:=h.here;have z1:(0:Int)<=(c.pos:Int):=by omega
 have z2:(c.pos:Int)<(c.r.es.length:Int):=by omega
 have n1:=World.new_ne w _ hs;have n2:=World.new_ne w _ hp;have n3:=World.new_ne w _ c0;simp only at n1 n2 n3;clear h;unfold Ent.v;generalize c.head=e at*;obtain⟨blk,⟨rb,ro,rc,es⟩,pos,age⟩:=c;simp only at*;go_enter func320,ntmps320;go_upto_region 1 with fail
 go_region_held3 (λw'=>w'.cell? ⟨blk,0,none⟩=some (.slice (some ⟨rb,ro,none⟩) es.length rc)/\w'.cell? ⟨blk,1,none⟩=some (.int .i64 pos)/\w'.cell? ⟨rb,ro+pos*6,none⟩=some (.string e.row)/\w'.cell? ⟨rb,ro+pos*6+1,none⟩=some (.string e.fam)/\w'.cell? ⟨rb,ro+pos*6+2,none⟩=some (.string e.qual)/\
  w'.cell? ⟨rb,ro+pos*6+3,none⟩=some (.int .u64 e.ts)/\w'.cell? ⟨rb,ro+pos*6+4,none⟩=some (.int .i64 e.kind)/\w'.cell? ⟨rb,ro+pos*6+5,none⟩=some (.string e.val)) (go_keep) (fail)
 go_wp2;refine bodyPost_ret (v:=.agg #[.string e.row,.string e.fam,.string e.qual,.int .u64 e.ts,.int .i64 e.kind,.string e.val]) (by simp[results,results320,go_sem]) rfl ⟨rfl,?_⟩;exact(qB).drew
theorem yRh(c:Cu)(w:World)(h:CuAt w c):
  Calls prog 319 #[.pointer (some ⟨c.blk,0,none⟩)] w λe w'=>e=.returned (.int .i64 c.age)/\Below w.heap.size w w':=by
 have ha:=h.age;go_enter func319,ntmps319;go_wp2;go_ret;exact⟨rfl,Below.refl _ _⟩
variable {S:Nat->Prop}
theorem CuAt.chg{c:Cu}(h:CuAt w c)(hb:Chg S w w')(h1:¬S c.blk)(h2:¬S c.r.b):CuAt w' c where
 slice:=by rw[hb.cell (p:=⟨c.blk,0,none⟩) h.lt h1];exact h.slice
 pos:=by rw[hb.cell (p:=⟨c.blk,1,none⟩) h.lt h1];exact h.pos
 age:=by rw[hb.cell (p:=⟨c.blk,2,none⟩) h.lt h1];exact h.age
 free:=λj=>by rw[hb.frozen (p:=⟨c.blk,j,none⟩) h.lt h1];exact h.free j
 lt:=by have:=hb.size;have:=h.lt;omega
 ents:=h.ents.chg hb h2
 here:=h.here
 short:=h.short
 young:=h.young
def Cu.on(c:Cu):Cu:={c with pos:=c.pos+1}
theorem CuAt.on{c:Cu}(h:CuAt w c)(hb:¬c.r.b=c.blk)(hn:c.pos+1<c.r.es.length):CuAt (w.setCell ⟨c.blk,1,none⟩ (.int .i64 (c.pos+1:Nat))) c.on:=by
 have hg:Chg (λk=>k=c.blk) w (w.setCell ⟨c.blk,1,none⟩ (.int .i64 (c.pos+1:Nat))):=Chg.of_set w c.blk 1 _ rfl
 exact {
  slice:=by
   show World.cell? _ ⟨c.blk,0,none⟩=_
   rw[World.cell?_setCell_other _ _ _ _ (by simp)];exact h.slice
  pos:=World.cell?_setCell_same _ _ _ h.pos
  age:=by
   show World.cell? _ ⟨c.blk,2,none⟩=_
   rw[World.cell?_setCell_other _ _ _ _ (by simp)];exact h.age
  free:=λj=>by
   show World.frozen? _ ⟨c.blk,j,none⟩=_
   rw[World.frozen?_setCell];exact h.free j
  lt:=by have:=hg.size;have:=h.lt;show c.blk<_;omega
  ents:=h.ents.chg hg hb
  here:=hn
  short:=h.short
  young:=h.young}
theorem yO2(c:Cu)(w:World)(h:CuAt w c)(hn:c.pos+1<c.r.es.length):
  Calls prog 318 #[.pointer (some ⟨c.blk,0,none⟩)] w λe w'=>
   e=.returned (.bool true)/\∃w1,Below w.heap.size w w1/\w'=w1.setCell ⟨c.blk,1,none⟩ (.int .i64 (c.pos+1:Nat)):=by
 have hs:=h.slice;have hp:=h.pos;have hh:=h.here;have hq:=h.short;have hf:=h.free 1;clear h;obtain⟨blk,⟨rb,ro,rc,es⟩,pos,age⟩:=c;simp only at*;have z:¬((es.length:Int)<=(pos:Int)+1):=by omega
 go_enter func318,ntmps318;go_upto_region 1 with fail;go_quiet (fail);go_wp2;go_ret;exact⟨rfl,_,below_drewN (Below.refl _ _) _,rfl⟩
theorem yO3(c:Cu)(w:World)(h:CuAt w c)(hn:¬c.pos+1<c.r.es.length):
  Calls prog 318 #[.pointer (some ⟨c.blk,0,none⟩)] w λe w'=>e=.returned (.bool false)/\Below w.heap.size w w':=by
 have hs:=h.slice;have hp:=h.pos;have hh:=h.here;have hq:=h.short;clear h;obtain⟨blk,⟨rb,ro,rc,es⟩,pos,age⟩:=c;simp only at*;have z:(es.length:Int)<=(pos:Int)+1:=by omega
 go_enter func318,ntmps318;go_upto_region 1 with fail;go_quiet (fail);go_wp2;go_ret;exact⟨rfl,below_drewN (Below.refl _ _) _⟩
abbrev ifc(c:Cu):Value:=.iface 230 (.pointer (some ⟨c.blk,0,none⟩))
def OwnH(w:World)(base g cap:Nat)(d:Array Cu):Prop:=w.ownsRow base 151 1 (.slice (some ⟨g,0,none⟩) d.size cap) d.size (d.toList.map ifc)
variable {base g cap:Nat} {d:Array Cu}
theorem OwnH.lt(h:OwnH w base g cap d):base<=g/\g<w.heap.size:=World.ownsRow.lt h g rfl
variable {i:Nat}
theorem OwnH.cell(h:OwnH w base g cap d)(hi:i<d.size):w.cell? ⟨g,i,none⟩=some (ifc d[i]!):=by have:=World.ownsRow.cellAt h i (by omega);rw[this,getElem?_map];simp[hi]
theorem OwnH.below{B:Nat}(h:OwnH w base g cap d)(hb:Below B w w')(hg:g<B):OwnH w' base g cap d:=by exact yS8
theorem Out.entry{c:Cu}(h:CuAt w c)(n:Out w):Calls prog 320 #[.pointer (some ⟨c.blk,0,none⟩)] n.u λe w''=>e=.returned c.head.v/\∃m:Out w,w''=m.u:=
 Calls.out_of (yLg c n.u (h.below n.out))
theorem Out.age{c:Cu}(h:CuAt w c)(n:Out w):Calls prog 319 #[.pointer (some ⟨c.blk,0,none⟩)] n.u λe w''=>e=.returned (.int .i64 c.age)/\∃m:Out w,w''=m.u:=
 Calls.out_of (yRh c n.u (h.below n.out))
theorem yQz(a:Addr)(w:World):(method 525 230 (.pointer (some a)) "loop.example/s01854/impl.age").run prog w=.ok (319,.pointer (some a)) w:=by kernel_rfl
theorem yK5(a:Addr)(w:World):(method 525 230 (.pointer (some a)) "loop.example/s01854/impl.entry").run prog w=.ok (320,.pointer (some a)) w:=by kernel_rfl
theorem yUl(base g cap:Nat)(d:Array Cu)(i j:Nat)(w:World)(hO:OwnH w base g cap d)(hC:∀c∈d,CuAt w c)(hi:i<d.size)(hj:j<d.size):
  Calls prog 316 #[.slice (some ⟨g,0,none⟩) d.size cap,.int .i64 i,.int .i64 j] w λe w'=>e=.returned (.bool (yC1 d[i]! d[j]!))/\Below w.heap.size w w':=by
 have hg:=hO.lt.2;have HO:Hid (OwnH w base g cap d):=hO;have HI:Hid (CuAt w d[i]!):=hC _ (by rw[getElem!_pos d i hi];simp);have HJ:Hid (CuAt w d[j]!):=hC _ (by rw[getElem!_pos d j hj];simp);have c1:∀n:Out w,n.u.cell? ⟨g,i,none⟩=some (ifc d[i]!):=λn=>(HO.below n.out hg).cell hi;have c2:∀n:Out w,n.u.cell? ⟨g,j,none⟩=some (ifc d[j]!):=λn=>(HO.below n.out hg).cell hj;clear hO hC;obtain⟨a,a3⟩:∃a,Hid (d[i]! =a):=⟨_,rfl⟩;obtain⟨b,a0⟩:∃b,Hid (d[j]! =b):=⟨_,rfl⟩;rw[a3.out]at HI c1|-;rw[a0.out]at HJ c2|-;have z1:(i:Int)<(d.size:Int):=by omega
 have z2:(j:Int)<(d.size:Int):=by omega
 have a9:Nonempty (Out w):=⟨⟨w,Below.refl _ _⟩⟩;go_enter func316,ntmps316;go_upto_region 1 with fail;refine yAf (by kernel_rfl) (by kernel_rfl) ?_;have mE:=yK5;have mA:=yQz;repeat (go_big_quiet_step ((first|(go_at_call 320;refine Out.entry ?_ _;first|exact HI.out|exact HJ.out)|(go_at_call 167;exact Calls.out_of (yC4 _ _ _)))))
 refine wpQuiet_nil ?_;rintro wy ⟨⟨wx,y⟩,rfl⟩;have a7:Hid (CuAt wy a):=HI.below y;have a6:Hid (CuAt wy b):=HJ.below y;have a4:=y.size;clear c1 c2;by_cases hk:yAc a.head b.head=0
 .have hl:yC1 a b=decide (a.age<b.age):=by unfold yC1;rw[if_pos hk]
  have c1:∀n:Out wy,n.u.cell? ⟨g,i,none⟩=some (ifc d[i]!):=λn=>((HO.below y hg).below n.out (by omega)).cell hi;have c2:∀n:Out wy,n.u.cell? ⟨g,j,none⟩=some (ifc d[j]!):=λn=>((HO.below y hg).below n.out (by omega)).cell hj;rw[a3.out]at c1;rw[a0.out]at c2;rw[hk];have a8:Nonempty (Out wy):=⟨⟨wy,Below.refl _ _⟩⟩;go_upto_region 4 with fail;refine yAf (by kernel_rfl) (by kernel_rfl) ?_;repeat (go_big_quiet_step ((go_at_call 319;refine Out.age ?_ _;first|exact a7.out|exact a6.out)))
  refine wpQuiet_nil ?_;rintro wz ⟨⟨wv,a5⟩,rfl⟩;go_wp2_with fail;go_ret;exact⟨by rw[hl];simp,y.trans (a5.mono a4)⟩
 .have hl:yC1 a b=decide (yAc a.head b.head<0):=by unfold yC1;rw[if_neg hk]
  go_wp2_with fail;go_ret;exact⟨by rw[hl];simp,y⟩
theorem cell?_setCell_some{p q:Addr}{x v:Value}(h:w.cell? q=some v):∃v',(w.setCell p x).cell? q=some v':=by
 by_cases e:p=q
 .subst e;exact⟨x,World.cell?_setCell_same w p x h⟩
 .exact⟨v,(World.cell?_setCell_other w p q x e).trans h⟩
theorem yRp(g cap n i j:Nat)(x y:Value)(w:World)(hx:x.oneCell'=true)(hy:y.oneCell'=true)(hi:i<n)(hj:j<n)(ci:w.cell? ⟨g,i,none⟩=some (.iface 230 x))(cj:w.cell? ⟨g,j,none⟩=some (.iface 230 y))
  (fi:w.frozen? ⟨g,i,none⟩=false) (fj:w.frozen? ⟨g,j,none⟩=false):
  Calls prog 317 #[.slice (some ⟨g,0,none⟩) n cap,.int .i64 i,.int .i64 j] w λe w'=>
   e=.returned (.tuple #[])/\∃q,w'=((w.setCell ⟨g,i,none⟩ (.iface 230 y)).setCell ⟨g,j,none⟩ (.iface 230 x)).drewN q:=by
 obtain⟨v',a0⟩:=cell?_setCell_some (w:=w) (p:=⟨g,i,none⟩) (x:=.iface 230 y) (q:=⟨g,j,none⟩) cj;have z1:(i:Int)<(n:Int):=by omega
 have z2:(j:Int)<(n:Int):=by omega
 go_enter func317,ntmps317;go_wp2;go_region;all_goals (try go_wp2)
 all_goals go_end0
 all_goals exact⟨rfl,1,rfl⟩
theorem yUe(a:Addr)(w:World):(method 525 234 (.pointer (some a)) "Len").run prog w=((do let v<-loadVar 146 a;pure (89,v)):Sem (FuncId×Value)).run prog w:=by kernel_rfl
theorem yJs(g:Nat)(v:Value)(w:World)(h:w.cell? ⟨g,0,none⟩=some v):(loadVar 146 ⟨g,0,none⟩).run prog w=.ok v w:=by
 have a1:∀w,(isAgg 146).run prog w=.ok false w:=λw=>by kernel_rfl
 unfold loadVar;simp[go_sem,h,a1]
theorem yR8(a:Addr)(w:World):(method 525 234 (.pointer (some a)) "Less").run prog w=((do let v<-loadVar 146 a;pure (316,v)):Sem (FuncId×Value)).run prog w:=by kernel_rfl
theorem yR7(a:Addr)(w:World):(method 525 234 (.pointer (some a)) "Swap").run prog w=((do let v<-loadVar 146 a;pure (317,v)):Sem (FuncId×Value)).run prog w:=by kernel_rfl
theorem yWo(a:Addr)(w:World):(method 525 234 (.pointer (some a)) "Pop").run prog w=.ok (321,.pointer (some a)) w:=by kernel_rfl
theorem yMf{v:Value}(h:w.cell? ⟨g,0,none⟩=some v):(method 525 234 (.pointer (some ⟨g,0,none⟩)) "Len").run prog w=.ok (89,v) w:=by rw[yUe,Sem.run_bind,yJs g v w h];rfl
theorem yNy{v:Value}(h:w.cell? ⟨g,0,none⟩=some v):(method 525 234 (.pointer (some ⟨g,0,none⟩)) "Less").run prog w=.ok (316,v) w:=by rw[yR8,Sem.run_bind,yJs g v w h];rfl
theorem yGz{v:Value}(h:w.cell? ⟨g,0,none⟩=some v):(method 525 234 (.pointer (some ⟨g,0,none⟩)) "Swap").run prog w=.ok (317,v) w:=by rw[yR7,Sem.run_bind,yJs g v w h];rfl
theorem yG2(g:Option Addr)(n cap:Nat)(w:World):Calls prog 89 #[.slice g n cap] w λe w'=>e=.returned (.int .i64 n)/\w'=w:=by go_enter func89,ntmps89;go_wp2;go_ret;exact⟨rfl,rfl⟩
structure yA7(w:World)(hp base g cap:Nat)(d:Array Cu):Prop where
 hdr:w.cell? ⟨hp,0,none⟩=some (.slice (some ⟨g,0,none⟩) d.size cap)
 free:∀j,w.frozen? ⟨hp,j,none⟩=false
 lt:hp<w.heap.size
 ne:¬hp=g
 row:OwnH w base g cap d
 own:base<=hp
 cur:∀c∈d,CuAt w c
 low:∀c∈d,c.r.b<base
 high:∀c∈d,base<=c.blk/\¬c.blk=g/\¬c.blk=hp
variable {hp:Nat}
theorem yA7.below(h:yA7 w hp base g cap d)(hb:Below w.heap.size w w'):yA7 w' hp base g cap d where
 hdr:=by rw[hb.cell (p:=⟨hp,0,none⟩) h.lt];exact h.hdr
 free:=λj=>by rw[hb.frozen (p:=⟨hp,j,none⟩) h.lt];exact h.free j
 lt:=by have:=hb.size;have:=h.lt;omega
 ne:=h.ne
 row:=h.row.below hb h.row.lt.2
 own:=h.own
 cur:=λc hc=>(h.cur c hc).below hb
 low:=h.low
 high:=h.high
theorem yA7.turn{d':Array Cu}(h:yA7 w hp base g cap d)(hb:Chg (λk=>k=g) w w')(hO:OwnH w' base g cap d')(hs:d'.size=d.size)(hm:∀c∈d',c∈d):yA7 w' hp base g cap d' where
 hdr:=by rw[hb.cell (p:=⟨hp,0,none⟩) h.lt h.ne,hs];exact h.hdr
 free:=λj=>by rw[hb.frozen (p:=⟨hp,j,none⟩) h.lt h.ne];exact h.free j
 lt:=by have:=hb.size;have:=h.lt;omega
 ne:=h.ne
 row:=hO
 own:=h.own
 cur:=λc hc=>(h.cur c (hm c hc)).chg hb (h.high c (hm c hc)).2.1 (λq=>by have h1:=h.low c (hm c hc);have h2:=h.row.lt.1;omega)
 low:=λc hc=>h.low c (hm c hc)
 high:=λc hc=>h.high c (hm c hc)
theorem yUh(hi:i<d.size):d[i]! ∈d:=by rw[getElem!_pos d i hi];simp
theorem yYw{j:Nat}(hi:i<d.size)(hj:j<d.size){c:Cu}(h:c∈swp d i j):c∈d:=by
 unfold swp at h;rw[<-Array.mem_toList_iff,Array.toList_setIfInBounds]at h;rcases mem_or_eq_of_mem_set h with h|rfl
 .rw[Array.toList_setIfInBounds]at h;rcases mem_or_eq_of_mem_set h with h|rfl
  .simpa using h
  .exact yUh hj
 .exact yUh hi
theorem size_swp(d:Array Cu)(i j:Nat):(swp d i j).size=d.size:=by simp[swp]
theorem OwnH.swapped(h:OwnH w base g cap d){j:Nat}:OwnH ((w.setCell ⟨g,i,none⟩ (ifc d[j]!)).setCell ⟨g,j,none⟩ (ifc d[i]!)) base g cap (swp d i j):=by
 have h1:=(World.ownsRow.stored h i (ifc d[j]!)).1;have h2:=(World.ownsRow.stored h1 j (ifc d[i]!)).1;unfold OwnH;rw[size_swp];have:((swp d i j).toList.map ifc)=((d.toList.map ifc).set i (ifc d[j]!)).set j (ifc d[i]!):=by unfold Go.Sort.swp;rw[Array.toList_setIfInBounds,Array.toList_setIfInBounds,map_set,map_set]
 rw[this];exact h2
theorem yTi(hp base g cap:Nat)(d:Array Cu)(i j:Nat)(w:World)(h:yA7 w hp base g cap d)(hi:i<d.size)(hj:j<d.size):
  Calls prog 317 #[.slice (some ⟨g,0,none⟩) d.size cap,.int .i64 i,.int .i64 j] w λe w'=>e=.returned (.tuple #[])/\yA7 w' hp base g cap (swp d i j)/\Chg (λk=>k=g) w w':=by
 refine(yRp g cap d.size i j _ _ w rfl rfl hi hj (h.row.cell hi) (h.row.cell hj) (World.ownsRow.frozenAt h.row i) (World.ownsRow.frozenAt h.row j)).mono ?_;rintro e w' ⟨he,q,rfl⟩;have c1:Chg (λk=>k=g) w ((w.setCell ⟨g,i,none⟩ (ifc d[j]!)).setCell ⟨g,j,none⟩ (ifc d[i]!)):=(Chg.of_set (S:=λk=>k=g) w g i _ rfl).trans (Chg.of_set (S:=λk=>k=g) _ g j _ rfl);have hb:=below_drewN (Below.refl ((w.setCell ⟨g,i,none⟩ (ifc d[j]!)).setCell ⟨g,j,none⟩ (ifc d[i]!)).heap.size ((w.setCell ⟨g,i,none⟩ (ifc d[j]!)).setCell ⟨g,j,none⟩ (ifc d[i]!))) q;have c2:=c1.trans (Chg.of_below hb);have hO:OwnH ((w.setCell ⟨g,i,none⟩ (ifc d[j]!)).setCell ⟨g,j,none⟩ (ifc d[i]!)) base g cap (swp d i j):=h.row.swapped;exact⟨he,h.turn c2 (hO.below hb hO.lt.2) (size_swp _ _ _) (λc hc=>yYw hi hj hc),c2⟩
variable {n:Nat}
theorem yJf(h:n<=2*i+1):siftDown gtC n 0 i d=d:=by rw[siftDown,dif_pos (by omega)]
theorem yJe(h:2*i+2<n)(h1:yC1 d[2*i+2]! d[2*i+1]! =true)(h2:yC1 d[2*i+2]! d[i]! =false):siftDown gtC n 0 i d=d:=by rw[siftDown,dif_neg (by omega)];simp only[Nat.zero_add,gtC];rw[if_pos (by simp[h1];omega),if_pos (by simp[h2])]
theorem yNj(h:2*i+2<n)(h1:yC1 d[2*i+2]! d[2*i+1]! =true)(h2:yC1 d[2*i+2]! d[i]! =true):siftDown gtC n 0 i d=siftDown gtC n 0 (2*i+2) (swp d i (2*i+2)):=by rw[siftDown,dif_neg (by omega)];simp only[Nat.zero_add,gtC];rw[if_pos (by simp[h1];omega),if_neg (by simp[h2]),dif_pos h]
theorem yGa(h:2*i+1<n)(h1:2*i+2<n->yC1 d[2*i+2]! d[2*i+1]! =false)(h2:yC1 d[2*i+1]! d[i]! =false):siftDown gtC n 0 i d=d:=by rw[siftDown,dif_neg (by omega)];simp only[Nat.zero_add,gtC];rw[if_neg (by simp;exact λq=>h1 (by omega)),if_pos (by simp[h2])]
theorem yJg(h:2*i+1<n)(h1:2*i+2<n->yC1 d[2*i+2]! d[2*i+1]! =false)(h2:yC1 d[2*i+1]! d[i]! =true):siftDown gtC n 0 i d=siftDown gtC n 0 (2*i+1) (swp d i (2*i+1)):=by rw[siftDown,dif_neg (by omega)];simp only[Nat.zero_add,gtC];rw[if_neg (by simp;exact λq=>h1 (by omega)),if_neg (by simp[h2])]
theorem yMj(hp base g cap:Nat)(d:Array Cu)(a b:Int)(i j:Nat)(w:World)(h:yA7 w hp base g cap d)(ha:a=i)(hb:b=j)(hi:i<d.size)(hj:j<d.size):
  Calls prog 316 #[.slice (some ⟨g,0,none⟩) d.size cap,.int .i64 a,.int .i64 b] w λe w'=>e=.returned (.bool (yC1 d[i]! d[j]!))/\yA7 w' hp base g cap d/\Chg (λk=>k=g) w w':=by
 subst ha hb;exact(yUl base g cap d i j w h.row (λc hc=>h.cur c hc) hi hj).mono λe w' ⟨he,hb⟩=>⟨he,h.below hb,Chg.of_below hb⟩
theorem yL0(hp base g cap:Nat)(d:Array Cu)(a b:Int)(i j:Nat)(w:World)(h:yA7 w hp base g cap d)(ha:a=i)(hb:b=j)(hi:i<d.size)(hj:j<d.size):
  Calls prog 317 #[.slice (some ⟨g,0,none⟩) d.size cap,.int .i64 a,.int .i64 b] w λe w'=>e=.returned (.tuple #[])/\yA7 w' hp base g cap (swp d i j)/\Chg (λk=>k=g) w w':=by
 subst ha hb;exact yTi hp base g cap d i j w h hi hj
structure yO7(hp base g cap n i0:Nat)(d:Array Cu)(w:World)(i:Nat)(d':Array Cu)(w':World):Prop where
 heap:yA7 w' hp base g cap d'
 same:siftDown gtC n 0 i d'=siftDown gtC n 0 i0 d
 size:d'.size=d.size
 chg:Chg (λk=>k=g) w w'
theorem yJ5(hp base g cap n i0:Nat)(d:Array Cu)(w:World)(h:yA7 w hp base g cap d)(hn:n<=d.size)(hsz:d.size<=1048576)(hi0:i0<=1048576):
  Calls prog 212 #[.iface 234 (.pointer (some ⟨hp,0,none⟩)),.int .i64 i0,.int .i64 n] w λe w'=>
   ∃b,e=.returned (.bool b)/\yA7 w' hp base g cap (siftDown gtC n 0 i0 d)/\Chg (λk=>k=g) w w':=by
 have H0:Hid (yA7 w hp base g cap d):=h;clear h;go_enter func212,ntmps212;go_wp2_with fail;go_loopw[7] (λc wr=>∃(i:Nat)(d':Array Cu),i<=1048576/\c=.int .i64 i/\yO7 hp base g cap n i0 d w i d' wr) (λc _=>1048577-(intOf c).toNat);case atStart=>exact⟨i0,d,hi0,rfl,H0.out,rfl,rfl,Chg.refl _ _⟩
 case round=>
  obtain⟨i,d',hi,rfl,hD⟩:=hrel;have HD:Hid (yO7 hp base g cap n i0 d w i d' wr):=hD;have a9:n<=d'.size:=by rw[hD.size];exact hn
  have a8:d'.size<=1048576:=by rw[hD.size];exact hsz
  clear hD;by_cases hc1:n<=2*i+1
  .have z:(n:Int)<=2*(i:Int)+1:=by omega
   go_wp2_with fail;go_ret;refine⟨_,rfl,?_,HD.chg⟩;rw[<-HD.same,yJf hc1];exact HD.heap
  .have z:¬(n:Int)<=2*(i:Int)+1:=by omega
   have a3:i<d'.size:=by omega
   have a4:2*i+1<d'.size:=by omega
   have m1:=yNy HD.heap.hdr;by_cases hc2:2*i+2<n
   .have z2:2*(i:Int)+1+1<(n:Int):=by omega
    have a5:2*i+2<d'.size:=by omega
    go_wp2_with fail;refine(yMj hp base g cap d' _ _ (2*i+2) (2*i+1) _ HD.heap (by omega) (by omega) a5 a4).mono ?_;rintro e w1 ⟨rfl,a6,a7⟩;have H1:Hid (yA7 w1 hp base g cap d'/\Chg (λk=>k=g) w w1):=⟨a6,HD.chg.trans a7⟩;have m2:=yNy a6.hdr;clear a6 a7 m1;cases hL:yC1 d'[2*i+2]! d'[2*i+1]!
    .go_wp2_with fail;refine(yMj hp base g cap d' _ _ (2*i+1) i _ H1.1 (by omega) rfl a4 a3).mono ?_;rintro e w2 ⟨rfl,y,a0⟩;have H2:Hid (yA7 w2 hp base g cap d'/\Chg (λk=>k=g) w w2):=⟨y,H1.2.trans a0⟩;have m3:=yGz y.hdr;clear y a0 m2;cases hM:yC1 d'[2*i+1]! d'[i]!
     .go_wp2_with fail;go_ret;refine⟨_,rfl,?_,H2.2⟩;rw[<-HD.same,yGa (by omega) (λ_=>hL) hM];exact H2.1
     .go_wp2_with fail;refine(yL0 hp base g cap d' _ _ i (2*i+1) _ H2.1 rfl (by omega) a3 a4).mono ?_;rintro e w3 ⟨rfl,hH3,hC3⟩;have H3:Hid (yO7 hp base g cap n i0 d w (2*i+1) (swp d' i (2*i+1)) w3):=⟨hH3,by rw[<-HD.same,yJg (by omega) (λ_=>hL) hM],by rw[size_swp];exact HD.size,H2.2.trans hC3⟩;exact yZ2
    .go_wp2_with fail;refine(yMj hp base g cap d' _ _ (2*i+2) i _ H1.1 (by omega) rfl a5 a3).mono ?_;rintro e w2 ⟨rfl,y,a0⟩;have H2:Hid (yA7 w2 hp base g cap d'/\Chg (λk=>k=g) w w2):=⟨y,H1.2.trans a0⟩;have m3:=yGz y.hdr;clear y a0 m2;cases hM:yC1 d'[2*i+2]! d'[i]!
     .go_wp2_with fail;go_ret;refine⟨_,rfl,?_,H2.2⟩;rw[<-HD.same,yJe hc2 hL hM];exact H2.1
     .go_wp2_with fail;refine(yL0 hp base g cap d' _ _ i (2*i+2) _ H2.1 rfl (by omega) a3 a5).mono ?_;rintro e w3 ⟨rfl,hH3,hC3⟩;have H3:Hid (yO7 hp base g cap n i0 d w (2*i+2) (swp d' i (2*i+2)) w3):=⟨hH3,by rw[<-HD.same,yNj hc2 hL hM],by rw[size_swp];exact HD.size,H2.2.trans hC3⟩;clear hH3 hC3 m3;go_wp2_with fail;go_roundw;case rel=>exact⟨2*i+2,_,by omega,by go_num,H3.out⟩
      case measure=>go_light;simp[intOf];omega
   .have z2:¬2*(i:Int)+1+1<(n:Int):=by omega
    go_wp2_with fail;refine(yMj hp base g cap d' _ _ (2*i+1) i _ HD.heap (by omega) rfl a4 a3).mono ?_;rintro e w2 ⟨rfl,y,a0⟩;have H2:Hid (yA7 w2 hp base g cap d'/\Chg (λk=>k=g) w w2):=⟨y,HD.chg.trans a0⟩;have m3:=yGz y.hdr;clear y a0 m1;cases hM:yC1 d'[2*i+1]! d'[i]!
    .go_wp2_with fail;go_ret;refine⟨_,rfl,?_,H2.2⟩;rw[<-HD.same,yGa (by omega) (λq=>absurd q hc2) hM];exact H2.1
    .go_wp2_with fail;refine(yL0 hp base g cap d' _ _ i (2*i+1) _ H2.1 rfl (by omega) a3 a4).mono ?_;rintro e w3 ⟨rfl,hH3,hC3⟩;have H3:Hid (yO7 hp base g cap n i0 d w (2*i+1) (swp d' i (2*i+1)) w3):=⟨hH3,by rw[<-HD.same,yJg (by omega) (λq=>absurd q hc2) hM],by rw[size_swp];exact HD.size,H2.2.trans hC3⟩;exact yZ2
theorem yYc(v:Value)(w:World):Calls prog 213 #[v,.int .i64 0] w λe w'=>e=.returned (.tuple #[])/\w'=w:=by
 go_enter func213,ntmps213;go_wp2_with fail;go_loopw[1] (λc wr=>c=.int .i64 0/\wr=w) (λ_ _=>0);case atStart=>exact⟨rfl,rfl⟩
 case round=>obtain⟨rfl,rfl⟩:=hrel;go_wp2_with fail;go_end0;exact⟨rfl,rfl⟩
theorem yW1(hp base g cap:Nat)(d:Array Cu)(w:World)(h:yA7 w hp base g cap d)(hsz:d.size<=1048576):
  Calls prog 155 #[.iface 234 (.pointer (some ⟨hp,0,none⟩)),.int .i64 0] w λe w'=>
   e=.returned (.tuple #[])/\yA7 w' hp base g cap (siftDown gtC d.size 0 0 d)/\Chg (λk=>k=g) w w':=by
 have H0:Hid (yA7 w hp base g cap d):=h;have m1:=yMf h.hdr;clear h;go_enter func155,ntmps155;go_wp2_with fail;refine(yG2 _ _ _ _).mono ?_;rintro e w1 ⟨rfl,rfl⟩;go_wp2_with fail;refine(yJ5 hp base g cap d.size 0 d _ H0.out (Nat.le_refl _) hsz (by omega)).mono ?_;rintro e w2 ⟨b,rfl,hH,hC⟩;have H2:Hid (yA7 w2 hp base g cap (siftDown gtC d.size 0 0 d)/\Chg (λk=>k=g) w1 w2):=⟨hH,hC⟩;clear hH hC m1;cases b
 .go_wp2_with fail;refine(yYc _ _).mono ?_;rintro e w3 ⟨rfl,rfl⟩;go_wp2_with fail;go_end0;exact⟨rfl,H2.1,H2.2⟩
 .go_wp2_with fail;go_end0;exact⟨rfl,H2.1,H2.2⟩
structure yQi(hp base g cap:Nat)(d:Array Cu)(w:World)(k:Nat)(d':Array Cu)(w':World):Prop where
 heap:yA7 w' hp base g cap d'
 same:heapBuild gtC d.size 0 k d'=heapBuild gtC d.size 0 (d.size/2) d
 size:d'.size=d.size
 chg:Chg (λk=>k=g) w w'
theorem yHp(n:Nat):∀(m i:Nat)(d:Array Cu),n-i<=m->(siftDown gtC n 0 i d).size=d.size
 |0,i,d,h=>by rw[yJf (by omega)]
 |m+1,i,d,h=>by
  by_cases h1:n<=2*i+1
  .rw[yJf h1]
  .have hl:∀q:2*i+2<n->yC1 d[2*i+2]! d[2*i+1]! =false,(siftDown gtC n 0 i d).size=d.size:=λq=>by
    cases hM:yC1 d[2*i+1]! d[i]!
    .rw[yGa (by omega) q hM]
    .rw[yJg (by omega) q hM,yHp n m _ _ (by omega),size_swp]
   by_cases h2:2*i+2<n
   .cases hL:yC1 d[2*i+2]! d[2*i+1]!
    .exact hl (λ_=>hL)
    .cases hM:yC1 d[2*i+2]! d[i]!
     .rw[yJe h2 hL hM]
     .rw[yNj h2 hL hM,yHp n m _ _ (by omega),size_swp]
   .exact hl (λq=>absurd q h2)
theorem yGr(n i:Nat)(d:Array Cu):(siftDown gtC n 0 i d).size=d.size:=yHp n _ i d (Nat.le_refl _)
theorem yUy(hp base g cap:Nat)(d:Array Cu)(w:World)(h:yA7 w hp base g cap d)(hsz:d.size<=1048576):
  Calls prog 151 #[.iface 234 (.pointer (some ⟨hp,0,none⟩))] w λe w'=>
   e=.returned (.tuple #[])/\yA7 w' hp base g cap (heapBuild gtC d.size 0 (d.size/2) d)/\Chg (λk=>k=g) w w':=by
 have H0:Hid (yA7 w hp base g cap d):=h;have m1:=yMf h.hdr;clear h;go_enter func151,ntmps151;go_wp2_with fail;refine(yG2 _ _ _ _).mono ?_;rintro e w1 ⟨rfl,rfl⟩;go_wp2_with fail;go_loopw[3] (λc wr=>∃(k:Nat)(d':Array Cu),k<=d.size/2/\c=.int .i64 ((k:Int)-1)/\yQi hp base g cap d w1 k d' wr) (λc _=>(intOf c+1).toNat);case atStart=>exact⟨d.size/2,d,Nat.le_refl _,by go_num,H0.out,rfl,rfl,Chg.refl _ _⟩
 case round=>
  obtain⟨k,d',hk,rfl,hD⟩:=hrel;have HD:Hid (yQi hp base g cap d w1 k d' wr):=hD;have a0:d.size<=d'.size:=by rw[hD.size];omega
  have y:d'.size<=1048576:=by rw[hD.size];exact hsz
  clear hD;by_cases h0:k=0
  .subst h0;go_wp2_with fail;go_end0;refine⟨rfl,?_,HD.chg⟩;rw[<-HD.same];exact HD.heap
  .obtain⟨j,rfl⟩:∃j,k=j+1:=⟨k-1,by omega⟩;have e1:(((j+1:Nat):Int)-1)=(j:Int):=by omega
   rw[e1];have zj:(0:Int)<=(j:Int):=by omega
   clear e1;go_wp2_with fail;refine(yJ5 hp base g cap d.size j d' _ HD.heap a0 y (by omega)).mono ?_;rintro e w2 ⟨b,rfl,hH,hC⟩;have H2:Hid (yQi hp base g cap d w1 j (siftDown gtC d.size 0 j d') w2):=⟨hH,by rw[<-HD.same];rfl,by rw[yGr];exact HD.size,HD.chg.trans hC⟩;clear hH hC;go_wp2_with fail;go_roundw;case rel=>exact⟨j,_,by omega,by go_num,H2.out⟩
   case measure=>go_light;simp[intOf]
theorem OwnH.popped(h:OwnH w base g cap d):OwnH w base g cap d.pop:=by
 rcases h.2 with⟨hv,_⟩|⟨g',y,cur,hv,h1,h2,h3,h4,h5,h6⟩
 .cases hv
 .simp only[Value.slice.injEq,Option.some.injEq,Addr.mk.injEq,and_true,true_and]at hv;obtain⟨rfl,rfl⟩:=hv;refine⟨by simp,.inr ⟨g,cap,cur,rfl,h1,h2,by simp;omega,h4,h5,?_⟩⟩;have e:(d.pop.toList.map ifc)=(d.toList.map ifc).take (d.size-1):=by rw[Array.toList_pop,List.dropLast_eq_take,List.map_take];simp
  rw[e,<-h6,take_take];congr 1;simp
theorem yJq{c:Cu}(h:c∈d.pop):c∈d:=by rw[<-Array.mem_toList_iff,Array.toList_pop]at h;have:=List.dropLast_subset _ h;simpa using this
theorem yA7.pop(h:yA7 w hp base g cap d):yA7 (w.setCell ⟨hp,0,none⟩ (.slice (some ⟨g,0,none⟩) (d.size-1) cap)) hp base g cap d.pop:=by
 have hg:Chg (λk=>k=hp) w (w.setCell ⟨hp,0,none⟩ (.slice (some ⟨g,0,none⟩) (d.size-1) cap)):=Chg.of_set _ _ _ _ rfl
 exact {
  hdr:=by rw[World.cell?_setCell_same _ _ _ h.hdr];simp
  free:=λj=>by rw[World.frozen?_setCell];exact h.free j
  lt:=by have:=hg.size;have:=h.lt;omega
  ne:=h.ne
  row:=World.ownsRow.kept h.row.popped (yAk w hp 0 _) (.inr (λq=>h.ne (Option.some.inj q).symm))
  own:=h.own
  cur:=λc hc=>(h.cur c (yJq hc)).chg hg (h.high c (yJq hc)).2.2 (λq=>by have h1:=h.low c (yJq hc);have h2:=h.own;omega)
  low:=λc hc=>h.low c (yJq hc)
  high:=λc hc=>h.high c (yJq hc)}
theorem yTy(hp base g cap:Nat)(d:Array Cu)(w:World)(h:yA7 w hp base g cap d)(h0:0<d.size)(hsz:d.size<=1048576):
  Calls prog 321 #[.pointer (some ⟨hp,0,none⟩)] w λe w'=>(∃v,e=.returned v)/\yA7 w' hp base g cap d.pop/\Chg (λk=>k=hp) w w':=by
 have hP:Hid (yA7 (w.setCell ⟨hp,0,none⟩ (.slice (some ⟨g,0,none⟩) (d.size-1) cap)) hp base g cap d.pop):=h.pop;have c0:=h.hdr;have c1:=h.row.cell (i:=d.size-1) (by omega);have f0:=h.free 0;have y:d.size<=cap:=by
  rcases h.row.2 with⟨hv,_⟩|⟨g',a0,cur,hv,h1,h2,h3,h4,h5,h6⟩
  .cases hv
  .simp only[Value.slice.injEq,Option.some.injEq,Addr.mk.injEq,and_true,true_and]at hv;obtain⟨rfl,rfl⟩:=hv;exact h3
 generalize d[d.size-1]! =c at c1;clear h;have hC:Hid (Chg (λk=>k=hp) w (w.setCell ⟨hp,0,none⟩ (.slice (some ⟨g,0,none⟩) (d.size-1) cap))):=Chg.of_set _ _ _ _ rfl;generalize hn:d.size=n at*;obtain⟨m,rfl⟩:∃m,n=m+1:=⟨n-1,by omega⟩;have HN:Hid (d.size=m+1):=hn;clear hn;simp only[Nat.add_sub_cancel]at*;go_enter func321,ntmps321;go_wp2;go_ret;exact⟨⟨_,rfl⟩,hP.out,hC.out⟩
theorem yWg(hp base g cap:Nat)(d:Array Cu)(w:World)(h:yA7 w hp base g cap d)(h0:0<d.size)(hsz:d.size<=1048576):
  Calls prog 156 #[.iface 234 (.pointer (some ⟨hp,0,none⟩))] w λe w'=>
   (∃v,e=.returned v)/\yA7 w' hp base g cap (siftDown gtC (d.size-1) 0 0 (swp d 0 (d.size-1))).pop/\Chg (λk=>k=g\/k=hp) w w':=by
 have H0:Hid (yA7 w hp base g cap d):=h;have m1:=yMf h.hdr;have m2:=yGz h.hdr;clear h;have mP:=λw=>yWo ⟨hp,0,none⟩ w;go_enter func156,ntmps156;go_wp2_with fail;refine(yG2 _ _ _ _).mono ?_;rintro e w1 ⟨rfl,rfl⟩;go_wp2_with fail;refine(yL0 hp base g cap d _ _ 0 (d.size-1) _ H0.out rfl (by omega) h0 (by omega)).mono ?_;rintro e w2 ⟨rfl,a3,a6⟩;have H2:Hid (yA7 w2 hp base g cap (swp d 0 (d.size-1))/\Chg (λk=>k=g) w1 w2):=⟨a3,a6⟩;clear a3 a6 m1 m2;have e1:(d.size:Int)-1=((d.size-1:Nat):Int):=by omega
 rw[e1];clear e1;go_wp2_with fail;refine(yJ5 hp base g cap (d.size-1) 0 (swp d 0 (d.size-1)) _ H2.1 (by rw[size_swp];omega) (by rw[size_swp];exact hsz) (by omega)).mono ?_;rintro e w3 ⟨b,rfl,a0,a5⟩;have H3:Hid (yA7 w3 hp base g cap (siftDown gtC (d.size-1) 0 0 (swp d 0 (d.size-1)))/\Chg (λk=>k=g) w1 w3):=⟨a0,H2.2.trans a5⟩;clear a0 a5;go_wp2_with fail;refine(yTy hp base g cap _ _ H3.1 (by rw[yGr,size_swp];exact h0) (by rw[yGr,size_swp];exact hsz)).mono ?_;rintro e w4 ⟨⟨v,rfl⟩,y,a4⟩;have H4:Hid (yA7 w4 hp base g cap (siftDown gtC (d.size-1) 0 0 (swp d 0 (d.size-1))).pop/\Chg (λk=>k=g\/k=hp) w1 w4):=⟨y,(H3.2.mono (λk q=>.inl q)).trans (a4.mono (λk q=>.inr q))⟩;clear y a4;go_wp2_with fail;go_ret;exact⟨⟨_,rfl⟩,H4.1,H4.2⟩
section
open Go.Sort (siftDown heapBuild swp PermIn)
theorem yEm{d':Array Cu}(h:PermIn 0 d.size d d'):d'.toList.Perm d.toList:=by
 have h2:=h.2.2;have e1:d.extract 0 d.size=d:=by simp
 have e2:d'.extract 0 d.size=d':=by rw[<-h.1];simp
 rw[e1,e2]at h2;exact h2
abbrev fl(c:Cu):Nat×List Ent:=(c.age,c.rest)
def Heap(d:Array Cu):Prop:=∀i,i<d.size->Go.Sort.Ok gtC 0 d.size d i
theorem yWy(h:Heap d){c:Cu}(hc:c∈d):yC1 c d[0]! =false:=by obtain⟨i,hi,rfl⟩:=Array.getElem_of_mem hc;have:=Go.Sort.root_max yLz h i i (Nat.le_refl _) hi;simp only[Nat.zero_add]at this;rw[getElem!_pos d i hi]at this;exact this
theorem ySe:Heap (heapBuild gtC d.size 0 (d.size/2) d)/\(heapBuild gtC d.size 0 (d.size/2) d).toList.Perm d.toList:=by have h:=Go.Sort.build yLz d.size 0 (d.size/2) d (by omega) (λi h1 h2 k hk hlt=>by omega);rw[Nat.zero_add]at h;refine⟨?_,yEm h.2⟩;intro i hi;rw[h.2.1]at hi|-;exact h.1 i hi
variable {t:List Cu}
theorem yWz{c c':Cu}(h:Heap ⟨c::t⟩):Heap (siftDown gtC (t.length+1) 0 0 ⟨c'::t⟩)/\(siftDown gtC (t.length+1) 0 0 ⟨c'::t⟩).toList.Perm (c'::t):=by
 have g:∀i,i≠0->(⟨c'::t⟩:Array Cu)[i]! =(⟨c::t⟩:Array Cu)[i]! :=λi hi=>by obtain⟨j,rfl⟩:∃j,i=j+1:=⟨i-1,by omega⟩;simp[getElem!_def]
 have hs:(⟨c'::t⟩:Array Cu).size=t.length+1:=rfl;have y:(⟨c::t⟩:Array Cu).size=t.length+1:=rfl;have h1:=Go.Sort.sift yLz (t.length+1) 0 0 (t.length+1) 0 ⟨c'::t⟩ (by omega) (by rw[hs];omega) (Nat.le_refl _) (λi _ hi hne k hk hlt=>by
   have:=h i (by rw[y];exact hi) k hk (by rw[y];exact hlt)
   rw[Nat.zero_add,Nat.zero_add]at this|-
   rw[g i hne,g k (by omega)]
   exact this) (λp _ hp=>by omega)
 rw[Nat.zero_add]at h1;have hp:PermIn 0 (⟨c'::t⟩:Array Cu).size ⟨c'::t⟩ (siftDown gtC (t.length+1) 0 0 ⟨c'::t⟩):=h1.2;refine⟨?_,yEm hp⟩;intro i hi;rw[hp.1]at hi|-;exact h1.1 i (zero_le _) hi
theorem yWx{c:Cu}(h:Heap ⟨c::t⟩):Heap (siftDown gtC t.length 0 0 (swp ⟨c::t⟩ 0 t.length)).pop/\(siftDown gtC t.length 0 0 (swp ⟨c::t⟩ 0 t.length)).pop.toList.Perm t:=by
 obtain⟨d,hd⟩:∃d:Array Cu,d=⟨c::t⟩:=⟨_,rfl⟩;have a6:d.size=t.length+1:=by rw[hd];rfl
 have ae:d[0]! =c:=by rw[hd];rfl
 rw[<-hd]at h|-;obtain⟨e,he⟩:∃e:Array Cu,e=swp d 0 t.length:=⟨_,rfl⟩;have ab:e.size=t.length+1:=by rw[he,Go.Sort.size_swp];exact a6
 have ac:e[t.length]! =c:=by rw[he,Go.Sort.swp_right d 0 t.length (by omega)];exact ae
 have g:∀i,i≠0->i<t.length->e[i]! =d[i]! :=λi h1 h2=>by rw[he];exact Go.Sort.swp_other d 0 t.length i h1 (by omega)
 have a9:PermIn 0 d.size d e:=by rw[he];exact Go.Sort.swp_permIn d 0 d.size 0 t.length (Nat.le_refl _) (by omega) (zero_le _) (by omega) (Nat.le_refl _)
 rw[<-he];have h1:=Go.Sort.sift yLz t.length 0 0 t.length 0 e (by omega) (by omega) (Nat.le_refl _) (λi _ hi a0 k hk y=>by
   have:=h i (by omega) k hk (by omega)
   rw[Nat.zero_add,Nat.zero_add]at this|-
   rw[g i a0 hi,g k (by omega) y]
   exact this) (λp _ hp=>by omega)
 rw[Nat.zero_add]at h1;obtain⟨f,hf⟩:∃f:Array Cu,f=siftDown gtC t.length 0 0 e:=⟨_,rfl⟩;rw[<-hf]at h1|-;have a3:f.size=t.length+1:=by rw[h1.2.1];exact ab
 have a5:f[t.length]! =c:=by rw[h1.2.2.1 t.length (.inr (Nat.le_refl _))];exact ac
 have a8:PermIn 0 d.size d f:=by refine Go.Sort.permIn_trans d e f 0 d.size a9 ?_;exact Go.Sort.permIn_mono e f 0 t.length 0 d.size (Nat.le_refl _) (by omega) (by omega) h1.2
 have a7:f.pop.size=t.length:=by simp[a3]
 refine⟨?_,?_⟩
 .intro i hi k hk y;rw[a7]at hi y;have:=h1.1 i (zero_le _) hi k hk y;rw[Nat.zero_add,Nat.zero_add]at this|-;have q:∀j,j<t.length->f.pop[j]! =f[j]! :=λj hj=>by rw[getElem!_pos f.pop j (by omega),getElem!_pos f j (by omega)];simp
  rw[q i hi,q k y];exact this
 .have hP:=yEm a8;rw[hd]at hP;have ad:f.toList=f.pop.toList++ [c]:=by
   rw[Array.toList_pop];have a4:f.toList.length=t.length+1:=by rw[Array.length_toList];exact a3
   have a0:f.toList≠ []:=by intro q;rw[q]at a4;simp at a4
   have aa:f.toList.getLast a0=c:=by rw[List.getLast_eq_getElem];have:f[t.length]! =f[t.length]'(by omega):=getElem!_pos f t.length (by omega);rw[this]at a5;rw[<-a5];simp[a3]
   have:=List.dropLast_concat_getLast a0;rw[aa]at this;exact this.symm
  rw[ad]at hP;have af:(c::f.pop.toList).Perm (c::t):=(List.perm_append_singleton c f.pop.toList).symm.trans hP;exact af.cons_inv
variable {A:Nat->Ent->Prop} {N:Nat} {P:List (Nat×Ent)}
theorem yMs{c:Cu}(hh:Heap ⟨c::t⟩)(hpos:∀x∈c::t,x.pos<x.r.es.length)(h:Flow A N P ((c::t).map fl)):
  (∀p∈P,Lt2 p (c.age,c.head))/\Flow A N (P++ [(c.age,c.head)]) ((c.age,c.r.es.drop (c.pos+1))::t.map fl):=by
 have e:(c::t).map fl=(c.age,c.head::c.r.es.drop (c.pos+1))::t.map fl:=by rw[map_cons];simp only[fl,Cu.rest_cons (hpos c (by simp))]
 rw[e]at h;refine⟨h.next,h.step (λp hp=>?_)⟩;obtain⟨x,hx,rfl⟩:=List.mem_map.1 hp;refine⟨x.head,x.r.es.drop (x.pos+1),Cu.rest_cons (hpos x (mem_cons_of_mem _ hx)),?_⟩;have:=yWy hh (c:=x) (by simp[hx]);exact yGe.1 this
end
section
open Go.Sort (siftDown heapBuild swp PermIn)
structure yFi(A:Nat->Ent->Prop)(N:Nat)(S:Nat->Prop)(hp base g cap:Nat)(w:World)(P:List (Nat×Ent))(d:Array Cu):Prop where
 mem:yA7 w hp base g cap d
 heap:Heap d
 flow:Flow A N P (d.toList.map fl)
 blks:d.toList.Pairwise λa b=>a.blk≠b.blk
 inG:S g
 inH:S hp
 inC:∀c∈d,S c.blk
 few:d.size<=1048576
theorem yWp(a:Addr)(w:World):(method 525 230 (.pointer (some a)) "loop.example/s01854/impl.advance").run prog w=.ok (318,.pointer (some a)) w:=by kernel_rfl
variable {t:List Cu}
theorem yA7.onTop{c:Cu}(h:yA7 w hp base g cap ⟨c::t⟩)(hb:(c::t).Pairwise λa b=>a.blk≠b.blk)(hn:c.pos+1<c.r.es.length):
  yA7 (w.setCell ⟨c.blk,1,none⟩ (.int .i64 (c.pos+1:Nat))) hp base g cap ⟨c.on::t⟩:=by
 have hc:c∈(⟨c::t⟩:Array Cu):=by simp
 have hg:Chg (λk=>k=c.blk) w (w.setCell ⟨c.blk,1,none⟩ (.int .i64 (c.pos+1:Nat))):=Chg.of_set _ _ _ _ rfl;have y:=h.high c hc;have a3:=h.low c hc;have hm:∀x∈(⟨c.on::t⟩:Array Cu),x=c.on\/x∈t:=λx hx=>by simpa using hx
 have ht:∀x∈t,x∈(⟨c::t⟩:Array Cu):=λx hx=>by simp[hx]
 exact {
  hdr:=by rw[World.cell?_setCell_other _ _ _ _ (λq=>y.2.2 (congrArg Addr.block q))];exact h.hdr
  free:=λj=>by rw[World.frozen?_setCell];exact h.free j
  lt:=by have:=hg.size;have:=h.lt;omega
  ne:=h.ne
  row:=World.ownsRow.kept (show OwnH w base g cap ⟨c.on::t⟩from h.row) (yAk w c.blk 1 _) (.inr (λq=>y.2.1 (Option.some.inj q).symm))
  own:=h.own
  cur:=λx hx=>by
   rcases hm x hx with rfl|hx
   .exact(h.cur c hc).on (by omega) hn
   .have a0:=(List.pairwise_cons.1 hb).1 x hx
    exact(h.cur x (ht x hx)).chg hg (λq=>a0 q.symm) (λq=>by have:=h.low x (ht x hx);omega)
  low:=λx hx=>by
   rcases hm x hx with rfl|hx
   .exact a3
   .exact h.low x (ht x hx)
  high:=λx hx=>by
   rcases hm x hx with rfl|hx
   .exact y
   .exact h.high x (ht x hx)}
theorem yTj(A:Nat->Ent->Prop)(N:Nat)(S:Nat->Prop)(hp base g cap:Nat)(w:World)(P:List (Nat×Ent))(c:Cu)(t:List Cu)(h:yFi A N S hp base g cap w P ⟨c::t⟩):
  Calls prog 91 #[.pointer (some ⟨hp,0,none⟩)] w λe w'=>e=.returned (.tuple #[])/\∃d',yFi A N S hp base g cap w' (P++ [(c.age,c.head)]) d'/\Chg S w w':=by
 have H0:Hid (yFi A N S hp base g cap w P ⟨c::t⟩):=h;have hc:c∈(⟨c::t⟩:Array Cu):=by simp
 have a4:t.length+1<=1048576:=h.few;have hF:Hid ((∀p∈P,Lt2 p (c.age,c.head))/\Flow A N (P++ [(c.age,c.head)]) ((c.age,c.r.es.drop (c.pos+1))::t.map fl)):=yMs h.heap (λx hx=>(h.mem.cur x (by simpa using hx)).here) h.flow;have c0:w.cell? ⟨hp,0,none⟩=some (.slice (some ⟨g,0,none⟩) (t.length+1) cap):=h.mem.hdr;have c1:w.cell? ⟨g,0,none⟩=some (ifc c):=h.mem.row.cell (i:=0) (by simp);have mA:=yWp;have HC:Hid (CuAt w c):=h.mem.cur c hc;have hz:(0:Int)<((t.length+1:Nat):Int):=by omega
 clear h;by_cases hn:c.pos+1<c.r.es.length
 .go_enter func91,ntmps91;go_wp2_with fail;refine(yO2 c _ HC.out hn).mono ?_;rintro e w1 ⟨rfl,w0,a5,rfl⟩;have H1:Hid (yA7 (w0.setCell ⟨c.blk,1,none⟩ (.int .i64 (c.pos+1:Nat))) hp base g cap ⟨c.on::t⟩):=(H0.mem.below a5).onTop H0.blks hn;have a7:Chg S w (w0.setCell ⟨c.blk,1,none⟩ (.int .i64 (c.pos+1:Nat))):=(Chg.of_below a5).trans (Chg.of_set _ _ _ _ (H0.inC c hc));generalize w0.setCell ⟨c.blk,1,none⟩ (.int .i64 (c.pos+1:Nat))=W1 at*;have a8:Hid (Chg S w W1):=a7;clear a7 c0 c1;go_wp2_with fail;refine(yW1 hp base g cap ⟨c.on::t⟩ _ H1.out a4).mono ?_;rintro e w2 ⟨rfl,y,a0⟩;have hx:=yWz (c':=c.on) H0.heap;have H2:Hid (yFi A N S hp base g cap w2 (P++ [(c.age,c.head)]) (siftDown gtC (t.length+1) 0 0 ⟨c.on::t⟩)/\Chg S w w2):=by
   refine⟨⟨y,hx.1,?_,?_,H0.inG,H0.inH,?_,?_⟩,a8.trans (a0.mono (λk q=>by rw[q];exact H0.inG))⟩
   .exact(hF.out.2:Flow A N _ ((c.on::t).map fl)).perm (hx.2.map fl).symm
   .exact(hx.2.pairwise_iff (λh=>Ne.symm h)).2 (List.pairwise_cons.2 ⟨λa ha=>(List.pairwise_cons.1 H0.blks).1 a ha,(List.pairwise_cons.1 H0.blks).2⟩)
   .intro x a3;have:=hx.2.mem_iff.1 (Array.mem_toList_iff.2 a3);rcases mem_cons.1 this with rfl|q
    .exact H0.inC c hc
    .exact H0.inC x (by simp[q])
   .rw[yGr];exact a4
  clear y a0 hx;go_wp2_with fail;(try simp only[Exit.inBlock,Exit.then]);refine bodyPost_ret (results_none rfl _ _ _) rfl ?_;exact⟨rfl,_,H2.1,H2.2⟩
 .go_enter func91,ntmps91;go_wp2_with fail;refine(yO3 c _ HC.out hn).mono ?_;rintro e w1 ⟨rfl,hb1⟩;have H1:Hid (yA7 w1 hp base g cap ⟨c::t⟩/\Chg S w w1):=⟨H0.mem.below hb1,Chg.of_below hb1⟩;clear hb1 c0 c1;go_wp2_with fail;refine(yWg hp base g cap ⟨c::t⟩ _ H1.1 (by simp) a4).mono ?_;rintro e w2 ⟨⟨v,rfl⟩,y,a0⟩;have hx:=yWx H0.heap;have a6:yA7 w2 hp base g cap (siftDown gtC t.length 0 0 (swp ⟨c::t⟩ 0 t.length)).pop:=y;have H2:Hid (yFi A N S hp base g cap w2 (P++ [(c.age,c.head)]) (siftDown gtC t.length 0 0 (swp ⟨c::t⟩ 0 t.length)).pop/\Chg S w w2):=by
   refine⟨⟨a6,hx.1,?_,?_,H0.inG,H0.inH,?_,?_⟩,H1.2.trans (a0.mono (λk q=>q.elim (λq=>q▸H0.inG) (λq=>q▸H0.inH)))⟩
   .have hf:=hF.out.2;rw[List.drop_of_length_le (by omega)]at hf;exact hf.drop.perm (hx.2.map fl).symm
   .exact(hx.2.pairwise_iff (λh=>Ne.symm h)).2 (List.pairwise_cons.1 H0.blks).2
   .intro x a3;have:=hx.2.mem_iff.1 (Array.mem_toList_iff.2 a3);exact H0.inC x (by simp[this])
   .have:=hx.2.length_eq;rw[Array.length_toList]at this;omega
  clear y a6 a0 hx;go_wp2_with fail;go_end0;exact⟨rfl,_,H2.1,H2.2⟩
end
def yDg(ds:List (Nat×Int)):List Value:=ds.flatMap λd=> [.int .i64 d.1,.int .u64 d.2]
theorem yM1(a b:List (Nat×Int)):yDg (a++b)=yDg a++yDg b:=by simp[yDg]
theorem yLp:∀ds:List (Nat×Int),(yDg ds).length=ds.length*2
 | []=>rfl
 |d::ds=>by
  have:=yLp ds
  unfold yDg at*
  rw[flatMap_cons,length_append,this];simp;omega
theorem yLq:∀(ds:List (Nat×Int))(k:Nat)(d:Nat×Int),ds[k]?=some d->(yDg ds)[k*2]?=some (.int .i64 d.1)/\(yDg ds)[k*2+1]?=some (.int .u64 d.2)
 | [],k,d,h=>by simp at h
 |x::ds,0,d,h=>by
  simp at h
  subst h
  exact⟨rfl,rfl⟩
 |x::ds,k+1,d,h=>by
  simp at h
  have:=yLq ds k d h
  have e:yDg (x::ds)=.int .i64 x.1:: .int .u64 x.2::yDg ds:=rfl
  rw[e,show(k+1)*2=k*2+1+1 by omega,show k*2+1+1+1=(k*2+1)+1+1 by omega]
  simpa using this
def OwnM(w:World)(base mb:Nat)(vs:List Value):Prop:=w.ownsRow base 144 7 (.slice (some ⟨mb,0,none⟩) 1 1) 1 vs
def OwnD(w:World)(base:Nat)(dv:Value)(ds:List (Nat×Int)):Prop:=w.ownsRow base 238 2 dv ds.length (yDg ds)
structure MgAt(w:World)(base mb:Nat)(c:ByteArray×ByteArray×ByteArray)(dv:Value)(ds:List (Nat×Int))(dec:Bool)(ts:Int)(cg cc:Nat)(L:List Ent):Prop where
 own:OwnM w base mb [.string c.1,.string c.2.1,.string c.2.2,dv,.bool dec,.int .u64 ts,.slice (some ⟨cg,0,none⟩) L.length cc]
 dels:OwnD w base dv ds
 cells:OwnC w base cg cc L
def Mine(mb:Nat)(dv:Value)(cg:Nat)(k:Nat):Prop:=k=mb\/dv.ownBlock=some k\/k=cg
variable {mb cg cc:Nat} {dv:Value} {ds:List (Nat×Int)} {dec:Bool} {L:List Ent}
theorem MgAt.chg{c:ByteArray×ByteArray×ByteArray}{ts:Int}(h:MgAt w base mb c dv ds dec ts cg cc L)(hb:Chg S w w')(hn:∀k,Mine mb dv cg k->¬S k):MgAt w' base mb c dv ds dec ts cg cc L where
 own:=yAg h.own hb (λk q=>hn k (.inl (by simpa [Value.ownBlock]using q.symm)))
 dels:=yAg h.dels hb (λk q=>hn k (.inr (.inl q)))
 cells:=yAg h.cells hb (λk q=>hn k (.inr (.inr (by simpa [Value.ownBlock]using q.symm))))
theorem MgAt.below{c:ByteArray×ByteArray×ByteArray}{ts:Int}(h:MgAt w base mb c dv ds dec ts cg cc L)(hb:Below w.heap.size w w'):MgAt w' base mb c dv ds dec ts cg cc L:=
 h.chg (S:=λ_=>False) (Chg.of_below hb) (λk _ q=>q)
theorem MgAt.low{c:ByteArray×ByteArray×ByteArray}{ts:Int}(h:MgAt w base mb c dv ds dec ts cg cc L):∀k,Mine mb dv cg k->base<=k/\k<w.heap.size:=by
 rintro k (rfl|q|rfl)
 .exact World.ownsRow.lt h.own k rfl
 .exact World.ownsRow.lt h.dels k q
 .exact World.ownsRow.lt h.cells k rfl
theorem MgAt.cell{c:ByteArray×ByteArray×ByteArray}{ts:Int}(h:MgAt w base mb c dv ds dec ts cg cc L):
  w.cell? ⟨mb,0,none⟩=some (.string c.1)/\w.cell? ⟨mb,1,none⟩=some (.string c.2.1)/\w.cell? ⟨mb,2,none⟩=some (.string c.2.2)/\w.cell? ⟨mb,3,none⟩=some dv/\w.cell? ⟨mb,4,none⟩=some (.bool dec)/\w.cell? ⟨mb,5,none⟩=some (.int .u64 ts)/\w.cell? ⟨mb,6,none⟩=some (.slice (some ⟨cg,0,none⟩) L.length cc)/\(∀j,w.frozen? ⟨mb,j,none⟩=false):=
 ⟨World.ownsRow.cellAt h.own 0 (by decide),World.ownsRow.cellAt h.own 1 (by decide),World.ownsRow.cellAt h.own 2 (by decide),World.ownsRow.cellAt h.own 3 (by decide),World.ownsRow.cellAt h.own 4 (by decide),World.ownsRow.cellAt h.own 5 (by decide),World.ownsRow.cellAt h.own 6 (by decide),λj=>World.ownsRow.frozenAt h.own j⟩
theorem MgAt.apart{c:ByteArray×ByteArray×ByteArray}{ts:Int}(h:MgAt w base mb c dv ds dec ts cg cc L):(∀k,dv.ownBlock=some k->¬k=mb)/\¬cg=mb/\(∀k,dv.ownBlock=some k->¬k=cg):=by
 refine⟨λk hk q=>?_,λq=>?_,λk hk q=>?_⟩
 .exact yAb h.dels h.own (by decide) k hk (by rw[q];rfl)
 .exact yAb h.cells h.own (by decide) cg rfl (by rw[q];rfl)
 .exact yAb h.dels h.cells (by decide) k hk (by rw[q];rfl)
theorem yCk{c:ByteArray×ByteArray×ByteArray}{ts:Int}(h:MgAt w base mb c dv ds dec ts cg cc L)(j:Nat)(u:Value):
  OwnD (w.setCell ⟨mb,j,none⟩ u) base dv ds/\OwnC (w.setCell ⟨mb,j,none⟩ u) base cg cc L:=
 ⟨yAg h.dels (Chg.of_set (S:=λk=>k=mb) w mb j u rfl) h.apart.1,yAg h.cells (Chg.of_set (S:=λk=>k=mb) w mb j u rfl) (λk q=>by simp[Value.ownBlock]at q;subst q;exact h.apart.2.1)⟩
theorem MgAt.setCol{c:ByteArray×ByteArray×ByteArray}{ts:Int}(h:MgAt w base mb c dv ds dec ts cg cc L)(c':ByteArray×ByteArray×ByteArray):
  MgAt (((w.setCell ⟨mb,0,none⟩ (.string c'.1)).setCell ⟨mb,1,none⟩ (.string c'.2.1)).setCell ⟨mb,2,none⟩ (.string c'.2.2)) base mb c' dv ds dec ts cg cc L:=by
 have h1:MgAt (w.setCell ⟨mb,0,none⟩ (.string c'.1)) base mb (c'.1,c.2.1,c.2.2) dv ds dec ts cg cc L:=⟨(World.ownsRow.stored h.own 0 _).1,(yCk h 0 _).1,(yCk h 0 _).2⟩;have h2:MgAt ((w.setCell ⟨mb,0,none⟩ (.string c'.1)).setCell ⟨mb,1,none⟩ (.string c'.2.1)) base mb (c'.1,c'.2.1,c.2.2) dv ds dec ts cg cc L:=⟨(World.ownsRow.stored h1.own 1 _).1,(yCk h1 1 _).1,(yCk h1 1 _).2⟩;exact⟨(World.ownsRow.stored h2.own 2 _).1,(yCk h2 2 _).1,(yCk h2 2 _).2⟩
theorem MgAt.setDec{c:ByteArray×ByteArray×ByteArray}{ts:Int}(h:MgAt w base mb c dv ds dec ts cg cc L)(dec':Bool):
  MgAt (w.setCell ⟨mb,4,none⟩ (.bool dec')) base mb c dv ds dec' ts cg cc L:=⟨(World.ownsRow.stored h.own 4 _).1,(yCk h 4 _).1,(yCk h 4 _).2⟩
theorem MgAt.setTs{c:ByteArray×ByteArray×ByteArray}{ts:Int}(h:MgAt w base mb c dv ds dec ts cg cc L)(ts':Int):
  MgAt (w.setCell ⟨mb,5,none⟩ (.int .u64 ts')) base mb c dv ds dec ts' cg cc L:=⟨(World.ownsRow.stored h.own 5 _).1,(yCk h 5 _).1,(yCk h 5 _).2⟩
def cut0:Value->Value
 | .slice a _ cap=>.slice a 0 cap
 |v=>v
theorem yLh(h:OwnD w base dv ds):(cut0 dv).ownBlock=dv.ownBlock:=by rcases h.2 with⟨rfl,_⟩|⟨g,cap,cur,rfl,_⟩<;>rfl
theorem OwnD.cut(h:OwnD w base dv ds):OwnD w base (cut0 dv) []:=by
 rcases h.2 with⟨rfl,_⟩|⟨g,cap,cur,rfl,h1,h2,h3,h4,h5,h6⟩
 .exact⟨rfl,.inl ⟨rfl,rfl⟩⟩
 .exact⟨rfl,.inr ⟨g,cap,cur,rfl,h1,h2,zero_le _,h4,h5,by simp[yDg]⟩⟩
theorem MgAt.setDels{c:ByteArray×ByteArray×ByteArray}{dv':Value}{ds':List (Nat×Int)}{ts:Int}(h:MgAt w base mb c dv ds dec ts cg cc L)(hd:OwnD w base dv' ds'):
  MgAt (w.setCell ⟨mb,3,none⟩ dv') base mb c dv' ds' dec ts cg cc L:=
 ⟨(World.ownsRow.stored h.own 3 _).1,yAg hd (Chg.of_set (S:=λk=>k=mb) w mb 3 dv' rfl) (λk hk q=>yAb hd h.own (by decide) k hk (by rw[q];rfl)),(yCk h 3 _).2⟩
theorem yLb(base mb:Nat)(c:ByteArray×ByteArray×ByteArray)(dv:Value)(ds:List (Nat×Int))(dec:Bool)(ts:Int)(cg cc:Nat)(L:List Ent)(t:Int)(a:Nat)(w:World)(h:MgAt w base mb c dv ds dec ts cg cc L)(hn:ds.length<=1048576):
  Calls prog 153 #[.pointer (some ⟨mb,0,none⟩),.int .u64 t,.int .i64 a] w λe w'=>e=.returned (.bool (yFj ds t a))/\Below w.heap.size w w':=by
 obtain⟨_,_,_,c3,_,_,_,_⟩:=h.cell;rcases h.dels.2 with⟨rfl,h0⟩|⟨g,cap,cur,rfl,h1,h2,h3,h4,h5,h6⟩
 .have hd:ds= []:=List.eq_nil_of_length_eq_zero h0;subst hd;clear h;go_enter func153,ntmps153;go_wp2_with fail;go_loopw[14] (λc wr=>c=.int .i64 0/\wr=w) (λ_ _=>0);case atStart=>exact⟨rfl,rfl⟩
  case round=>exact yXt
 .have HD:Hid (OwnD w base (.slice (some ⟨g,0,none⟩) ds.length cap) ds):=h.dels;have a0:g<w.heap.size:=(World.ownsRow.lt h.dels g rfl).2;clear h h1 h2 h3 h4 h5 h6;go_enter func153,ntmps153;go_wp2_with fail;go_loopw[14] (λc wr=>∃k:Nat,k<=ds.length/\c=.int .i64 k/\yFj (ds.take k) t a=false/\Below w.heap.size w wr) (λc _=>ds.length-(intOf c).toNat);case atStart=>exact⟨0,zero_le _,rfl,rfl,Below.refl _ _⟩
  case round=>
   obtain⟨k,hk,rfl,hf,hb⟩:=hrel;have HF:Hid (yFj (ds.take k) t a=false):=hf;have hs:=hb.size;clear hf c3;by_cases hlt:k<ds.length
   .obtain⟨d,hd⟩:∃d,ds[k]?=some d:=⟨_,getElem?_eq_getElem hlt⟩;have y:=yLq ds k d hd;have q0:wr.cell? ⟨g,k*2,none⟩=some (.int .i64 d.1):=by rw[hb.cell (p:=⟨g,k*2,none⟩) a0];exact(World.ownsRow.cellAt HD.out (k*2) (by omega)).trans y.1
    have q1:wr.cell? ⟨g,k*2+1,none⟩=some (.int .u64 d.2):=by rw[hb.cell (p:=⟨g,k*2+1,none⟩) a0];exact(World.ownsRow.cellAt HD.out (k*2+1) (by omega)).trans y.2
    have HN:Hid (ds[k]?=some d):=hd;have HT:Hid (yFj (ds.take (k+1)) t a=(decide (d.1<a) && decide (t<=d.2))):=by show yFj (ds.take (k+1)) t a=_;have:=HF.out;unfold yFj at*;rw[take_add_one,hd,any_append,this];simp
    clear y hd;have zk:(k:Int)<(ds.length:Int):=by omega
    by_cases h1:d.1<a
    .have z1:(d.1:Int)<(a:Int):=by omega
     by_cases h2:t<=d.2
     .have HX:Hid (yFj ds t a=true):=by show yFj ds t a=true;unfold yFj;rw[any_eq_true];exact⟨d,mem_of_getElem? HN.out,by simp[h1,h2]⟩
      go_wp2_with fail;go_ret;exact⟨by rw[HX.out];rfl,(hb.alloc (by omega) _)⟩
     .have HX:Hid (yFj (ds.take (k+1)) t a=false):=by show _=_;rw[HT.out];simp[h2]
      exact yZ4
    .have z1:¬(d.1:Int)<(a:Int):=by omega
     have HX:Hid (yFj (ds.take (k+1)) t a=false):=by show _=_;rw[HT.out];simp[h1]
     exact yZ4
   .have HX:Hid (yFj ds t a=false):=by have:=HF.out;rw[take_of_length_le (by omega)]at this;exact this
    go_wp2_with fail;go_ret;exact⟨by rw[HX.out];rfl,hb⟩
theorem yJ6(e:Ent)(r f q:ByteArray)(b:Bool)(h:yAm e ⟨r,f,q,0,0,⟨#[]⟩⟩= !b)(wx:World):(binOp .neq 141 (.agg #[.string e.row,.string e.fam,.string e.qual]) (.agg #[.string r,.string f,.string q])).run prog wx=.ok (.bool b) wx:=by
 have hb:b= !(yAm e ⟨r,f,q,0,0,⟨#[]⟩⟩):=by rw[h];simp
 rw[hb];unfold yAm;cases h1:(e.row.toList==r.toList)
 .go_simp
 .cases h2:(e.fam.toList==f.toList)
  .go_simp
  .cases h3:(e.qual.toList==q.toList)
   .go_simp
   .go_simp
theorem Tryz.infoDel:(prog.info? 238).map (λi=>(i.zero,i.size,i.bytes))=some (some (.agg #[.int .i64 0,.int .u64 0]),2,16):=by kernel_rfl
variable {ops:Array Oper} {o:Oper} {Q:Exit->Act->World->Prop}
theorem yFm{a:Act}{K:Act->World->Prop}{E:Prop}(w:World)(hgd:o.guard=none)(s x:Operand)
  (ho:o.op=.call {callee:=.builtin .append,args:=#[s,x],argTypes:=#[37,37]})
  (base g cp blk:Nat) (fs:List Ent) (e:Ent) (hs:a.eval s=.slice (some ⟨g,0,none⟩) fs.length cp) (hx:a.eval x=.slice (some ⟨blk,0,none⟩) 1 1) (hO:OwnC w base g cp fs)
  (hc:yBd w blk 0 [e]) (hlen:fs.length<=2^30) (hbase:base<=w.heap.size)
  (h:∀g' cp' w',OwnC w' base g' cp' (fs++ [e])->w.grownBy w' (some g)->(g=g'\/g'=w.heap.size)->K (a.put o.dst (.slice (some ⟨g',0,none⟩) (fs.length+1) cp')) w'):if Region.wanted o (yielded ops a.tmps)=true then Oper.wp prog o a w K Q else E:=by
 obtain⟨i,hi,a3,a0,y⟩:=info_parts Tryz.infoCel;obtain⟨c0,c1,c2,c3,c4⟩:=hc 0 e rfl;refine step_append_lies w hgd s x 37 ho base 73 i _ 5 72 underlying37 hi a3 a0 y rfl (by decide) (.slice (some ⟨g,0,none⟩) fs.length cp) fs.length (yBg fs) hs hO ⟨blk,0,none⟩ 1 1 (yBg [e]) hx rfl ?_ ?_ (by decide) ?_ ?_ hbase w.heap.size rfl ?_
 .exact xA8
 .intro u hu;simp[yBg]at hu;rcases hu with rfl|rfl|rfl|rfl|rfl<;>rfl
 .unfold maxLen;omega
 .omega
 .intro g' cp' w' a5 a4 hat a6;refine h g' cp' w' ?_ a4 ?_
  .unfold OwnC;rw[length_append,yCq];exact a5
  .exact yXv
theorem yFl{a:Act}{K:Act->World->Prop}{E:Prop}(w:World)(hgd:o.guard=none)(s x:Operand)
  (ho:o.op=.call {callee:=.builtin .append,args:=#[s,x],argTypes:=#[142,142]})
  (base blk:Nat) (dv:Value) (ds:List (Nat×Int)) (ag:Nat) (t:Int) (hs:a.eval s=dv) (hx:a.eval x=.slice (some ⟨blk,0,none⟩) 1 1) (hO:OwnD w base dv ds)
  (h0:w.cell? ⟨blk,0,none⟩=some (.int .i64 ag)) (h1:w.cell? ⟨blk,1,none⟩=some (.int .u64 t)) (hlen:ds.length<=2^30) (hbase:base<=w.heap.size)
  (h:∀g' cp' w',OwnD w' base (.slice (some ⟨g',0,none⟩) (ds.length+1) cp') (ds++ [(ag,t)])->w.grownBy w' dv.ownBlock->(dv.ownBlock=some g'\/g'=w.heap.size)->K (a.put o.dst (.slice (some ⟨g',0,none⟩) (ds.length+1) cp')) w'):if Region.wanted o (yielded ops a.tmps)=true then Oper.wp prog o a w K Q else E:=by
 obtain⟨i,hi,a3,a0,y⟩:=info_parts Tryz.infoDel;refine step_append_lies w hgd s x 142 ho base 238 i _ 2 16 underlying142 hi a3 a0 y rfl (by decide) dv ds.length (yDg ds) hs hO ⟨blk,0,none⟩ 1 1 (yDg [(ag,t)]) hx rfl ?_ ?_ (by decide) ?_ ?_ hbase w.heap.size rfl ?_
 .intro j u hu;have hj:j<2:=by have:=(List.getElem?_eq_some_iff.1 hu).1;rw[yLp]at this;simpa using this
  rw[Addr.add_mid,Nat.zero_add];match j,hj,hu with
  |0,_,hu=>simp[yDg]at hu;rw[<-hu];exact h0
  |1,_,hu=>simp[yDg]at hu;rw[<-hu];exact h1
 .intro u hu;simp[yDg]at hu;rcases hu with rfl|rfl<;>rfl
 .unfold maxLen;omega
 .omega
 .intro g' cp' w' a6 a4 a5 a7;refine h g' cp' w' ?_ a4 a5;unfold OwnD;rw[length_append,yM1];exact a6
structure MInv(S:Nat->Prop)(base mb:Nat)(P:List (Nat×Ent))(w:World)(c:ByteArray×ByteArray×ByteArray)(dv:Value)(ds:List (Nat×Int))(dec:Bool)(ts:Int)(cg cc:Nat)(L:List Ent):Prop where
 at_:MgAt w base mb c dv ds dec ts cg cc L
 mem:Mem P c ds dec ts
 shown:Shown P L
 out:∀k,Mine mb dv cg k->¬S k
 short:L.length<=P.length
def MSt(S:Nat->Prop)(base mb:Nat)(P:List (Nat×Ent))(w:World)(c:ByteArray×ByteArray×ByteArray):Prop:=∃dv ds dec ts cg cc L,MInv S base mb P w c dv ds dec ts cg cc L
variable {P:List (Nat×Ent)}
theorem MSt.below{c:ByteArray×ByteArray×ByteArray}(h:MSt S base mb P w c)(hb:Below w.heap.size w w'):MSt S base mb P w' c:=by obtain⟨dv,ds,dec,ts,cg,cc,L,hR⟩:=h;exact⟨dv,ds,dec,ts,cg,cc,L,⟨hR.at_.below hb,hR.mem,hR.shown,hR.out,hR.short⟩⟩
theorem yWn{c:ByteArray×ByteArray×ByteArray}{old:Value}{ts:Int}{cg' cc':Nat}{L':List Ent}(ho:OwnM w base mb [.string c.1,.string c.2.1,.string c.2.2,dv,.bool dec,.int .u64 ts,old])(hd:OwnD w base dv ds)(hc:OwnC w base cg' cc' L'):
  MgAt (w.setCell ⟨mb,6,none⟩ (.slice (some ⟨cg',0,none⟩) L'.length cc')) base mb c dv ds dec ts cg' cc' L':=
 ⟨(World.ownsRow.stored ho 6 _).1,yAg hd (Chg.of_set (S:=λk=>k=mb) w mb 6 _ rfl) (λk hk q=>yAb hd ho (by decide) k hk (by rw[q];rfl)),yAg hc (Chg.of_set (S:=λk=>k=mb) w mb 6 _ rfl) (λk hk q=>yAb hc ho (by decide) k hk (by rw[q];rfl))⟩
theorem yYv{c:ByteArray×ByteArray×ByteArray}{old dv':Value}{ds':List (Nat×Int)}{ts:Int}(ho:OwnM w base mb [.string c.1,.string c.2.1,.string c.2.2,old,.bool dec,.int .u64 ts,.slice (some ⟨cg,0,none⟩) L.length cc])(hd:OwnD w base dv' ds')(hc:OwnC w base cg cc L):
  MgAt (w.setCell ⟨mb,3,none⟩ dv') base mb c dv' ds' dec ts cg cc L:=
 ⟨(World.ownsRow.stored ho 3 _).1,yAg hd (Chg.of_set (S:=λk=>k=mb) w mb 3 _ rfl) (λk hk q=>yAb hd ho (by decide) k hk (by rw[q];rfl)),yAg hc (Chg.of_set (S:=λk=>k=mb) w mb 3 _ rfl) (λk hk q=>yAb hc ho (by decide) k hk (by rw[q];rfl))⟩
theorem yTv{a:Nat}{e:Ent}{w5 w6 w7:World}{g7 cp7:Nat}(hM:MgAt w5 base mb e.col dv ds true e.ts cg cc L)(hq:Below w5.heap.size w5 w6)(hO:OwnC w7 base g7 cp7 (L++ [e]))
  (hgr:(w6.alloc (Obj.cells #[.string e.row,.string e.fam,.string e.qual,.int .u64 e.ts,.string e.val] 73)).grownBy w7 (some cg)) (hgg:cg=g7\/g7=(w6.alloc (Obj.cells #[.string e.row,.string e.fam,.string e.qual,.int .u64 e.ts,.string e.val] 73)).heap.size)
  (hmem:Mem (P++ [(a,e)]) e.col ds true e.ts) (hsh:Shown (P++ [(a,e)]) (L++ [e])) (hout:∀k,Mine mb dv cg k->¬S k) (hin:∀k,S k->k<w5.heap.size) (hsl:L.length<=P.length):
  MSt S base mb (P++ [(a,e)]) (w7.setCell ⟨mb,6,none⟩ (.slice (some ⟨g7,0,none⟩) (L.length+1) cp7)) e.col/\Chg (Mine mb dv cg) w5 (w7.setCell ⟨mb,6,none⟩ (.slice (some ⟨g7,0,none⟩) (L.length+1) cp7)):=by
 have a6:Below w6.heap.size w6 (w6.alloc (Obj.cells #[.string e.row,.string e.fam,.string e.qual,.int .u64 e.ts,.string e.val] 73)):=qB;generalize w6.alloc (Obj.cells #[.string e.row,.string e.fam,.string e.qual,.int .u64 e.ts,.string e.val] 73)=wA at*;have hb:Below w5.heap.size w5 wA:=hq.trans (a6.mono hq.size);have a7:=hb.size;have y:=hM.below hb;have a0:Chg (λk=>k=cg) wA w7:=Chg.of_grown hgr (λk hk=>by cases hk;rfl);have a4:=yAg y.own a0 (λk hk q=>by simp[Value.ownBlock]at hk;subst hk;exact y.apart.2.1 q.symm);have a5:=yAg y.dels a0 (λk hk q=>y.apart.2.2 k hk q);have a3:=yWn (c:=e.col) (dec:=true) (ts:=e.ts) a4 a5 hO;rw[length_append]at a3;refine⟨⟨dv,ds,true,e.ts,g7,cp7,L++ [e],⟨a3,hmem,hsh,?_,by simp;exact hsl⟩⟩,?_⟩
 .rintro k (rfl|q|rfl) hS
  .exact hout k (.inl rfl) hS
  .exact hout k (.inr (.inl q)) hS
  .rcases hgg with q|q
   .exact hout k (.inr (.inr q.symm)) hS
   .have:=hin k hS;omega
 .exact((Chg.of_below hb).trans (a0.mono (λk q=>.inr (.inr q)))).trans (Chg.of_set _ _ _ _ (.inl rfl))
theorem yVa{a:Nat}{e:Ent}{ts:Int}{w5 wA w7:World}{g7 cp7:Nat}(hM:MgAt w5 base mb e.col dv ds dec ts cg cc L)(hb:Below w5.heap.size w5 wA)(hO:OwnD w7 base (.slice (some ⟨g7,0,none⟩) (ds.length+1) cp7) (ds++ [(a,e.ts)]))
  (hgr:wA.grownBy w7 dv.ownBlock) (hgg:dv.ownBlock=some g7\/g7=wA.heap.size)
  (hmem:Mem (P++ [(a,e)]) e.col (ds++ [(a,e.ts)]) dec ts) (hsh:Shown (P++ [(a,e)]) L) (hout:∀k,Mine mb dv cg k->¬S k) (hin:∀k,S k->k<w5.heap.size) (hsl:L.length<=P.length):
  MSt S base mb (P++ [(a,e)]) (w7.setCell ⟨mb,3,none⟩ (.slice (some ⟨g7,0,none⟩) (ds.length+1) cp7)) e.col/\Chg (Mine mb dv cg) w5 (w7.setCell ⟨mb,3,none⟩ (.slice (some ⟨g7,0,none⟩) (ds.length+1) cp7))/\w7.cell? ⟨mb,3,none⟩=some dv/\w7.frozen? ⟨mb,3,none⟩=false:=by
 have a6:=hb.size;have y:=hM.below hb;have a3:Chg (λk=>dv.ownBlock=some k) wA w7:=Chg.of_grown hgr (λk hk=>hk);have a0:OwnM w7 base mb [.string e.col.1,.string e.col.2.1,.string e.col.2.2,dv,.bool dec,.int .u64 ts,.slice (some ⟨cg,0,none⟩) L.length cc]:=yAg y.own a3 (λk hk q=>by simp[Value.ownBlock]at hk;subst hk;exact y.apart.1 mb q rfl);have a5:OwnC w7 base cg cc L:=yAg y.cells a3 (λk hk q=>by simp[Value.ownBlock]at hk;subst hk;exact y.apart.2.2 cg q rfl);have a4:=yYv a0 hO a5;refine⟨⟨_,ds++ [(a,e.ts)],dec,ts,cg,cc,L,⟨a4,hmem,hsh,?_,by simp;omega⟩⟩,?_,World.ownsRow.cellAt a0 3 (by decide),World.ownsRow.frozenAt a0 3⟩
 .rintro k (rfl|q|rfl) hS
  .exact hout k (.inl rfl) hS
  .simp[Value.ownBlock]at q;subst q;rcases hgg with q|q
   .exact hout g7 (.inr (.inl q)) hS
   .have:=hin g7 hS;omega
  .exact hout k (.inr (.inr rfl)) hS
 .exact((Chg.of_below hb).trans (a3.mono (λk q=>.inr (.inl q)))).trans (Chg.of_set _ _ _ _ (.inl rfl))
structure yD8(l:List Rm)(lo:ByteArray)(hh:Bool)(hi:ByteArray)(k:Nat)(cs:List Cu):Prop where
 mem:∀(a:Nat)(x:Ent),(a<k/\(∃r,l[a]?=some r/\x∈r.es)/\inR lo hh hi x.row=true)↔∃c∈cs,c.age=a/\x∈c.r.es
 age:∀c∈cs,c.age<k
 zero:∀c∈cs,c.pos=0/\Ord c.r.es
 ages:cs.Pairwise λa b=>a.age≠b.age
 blks:cs.Pairwise λa b=>a.blk≠b.blk
 sum:sumL (cs.map fl)<=10000*k
 few:cs.length<=k
 src:∀c∈cs,∃r∈l,c.r.b=r.b
variable {l:List Rm} {hi:ByteArray} {hh:Bool} {k:Nat} {cs:List Cu}
theorem yD8.perm{lo:ByteArray}{ds:List Cu}(h:yD8 l lo hh hi k cs)(hp:cs.Perm ds):yD8 l lo hh hi k ds where
 mem:=λa x=>(h.mem a x).trans ⟨fun⟨c,hc,q⟩=>⟨c,hp.mem_iff.1 hc,q⟩,fun⟨c,hc,q⟩=>⟨c,hp.mem_iff.2 hc,q⟩⟩
 age:=λc hc=>h.age c (hp.mem_iff.2 hc)
 zero:=λc hc=>h.zero c (hp.mem_iff.2 hc)
 ages:=(hp.pairwise_iff (λh=>Ne.symm h)).1 h.ages
 blks:=(hp.pairwise_iff (λh=>Ne.symm h)).1 h.blks
 sum:=by have:sumL (ds.map fl)=sumL (cs.map fl):=(((hp.map fl).map (λp:Nat×List Ent=>p.2.length)).sum_nat).symm;rw[this];exact h.sum
 few:=by rw[<-hp.length_eq];exact h.few
 src:=λc hc=>h.src c (hp.mem_iff.2 hc)
theorem yPq(l:List Rm)(lo hi:ByteArray)(hh:Bool):yD8 l lo hh hi 0 [] where
 mem:=λa x=>⟨λh=>by omega,fun⟨c,hc,_⟩=>by simp at hc⟩
 age:=λc hc=>by simp at hc
 zero:=λc hc=>by simp at hc
 ages:=List.Pairwise.nil
 blks:=List.Pairwise.nil
 sum:=by simp[sumL]
 few:=by simp
 src:=λc hc=>by simp at hc
variable {r p:Rm}
theorem yK2{lo:ByteArray}(h:yD8 l lo hh hi k cs)(hr:l[k]?=some r)(hp:yCs r p lo hh hi)(a:Nat)(x:Ent):
  (a<k+1/\(∃r,l[a]?=some r/\x∈r.es)/\inR lo hh hi x.row=true)↔(∃c∈cs,c.age=a/\x∈c.r.es)\/(a=k/\x∈p.es):=by
 rw[<-h.mem a x];constructor
 .rintro⟨h1,⟨r',h2,h3⟩,h4⟩;by_cases hk:a=k
  .subst hk;rw[hr]at h2;simp at h2;subst h2;exact .inr ⟨rfl,(hp.mem x).2 ⟨h3,h4⟩⟩
  .exact .inl ⟨by omega,⟨r',h2,h3⟩,h4⟩
 .rintro(⟨h1,h2,h3⟩|⟨rfl,h2⟩)
  .exact⟨by omega,h2,h3⟩
  .obtain⟨h3,h4⟩:=(hp.mem x).1 h2;exact⟨by omega,⟨r,hr,h3⟩,h4⟩
theorem yPr{lo:ByteArray}(h:yD8 l lo hh hi k cs)(hr:l[k]?=some r)(hp:yCs r p lo hh hi)(h0:p.es= []):yD8 l lo hh hi (k+1) cs where
 mem:=λa x=>(yK2 h hr hp a x).trans (by rw[h0];simp)
 age:=λc hc=>by have:=h.age c hc;omega
 zero:=h.zero
 ages:=h.ages
 blks:=h.blks
 sum:=by have:=h.sum;omega
 few:=by have:=h.few;omega
 src:=h.src
theorem yPs{lo:ByteArray}{B:Nat}(h:yD8 l lo hh hi k cs)(hr:l[k]?=some r)(hg:yAp r.es)(hp:yCs r p lo hh hi)(hB:∀c∈cs,c.blk≠B):
  yD8 l lo hh hi (k+1) (cs++ [⟨B,p,0,k⟩]) where
 mem:=λa x=>(yK2 h hr hp a x).trans (by
  constructor
  .rintro(⟨c,hc,q⟩|⟨rfl,q⟩)
   .exact⟨c,mem_append_left _ hc,q⟩
   .exact⟨⟨B,p,0,a⟩,by simp,rfl,q⟩
  .rintro⟨c,hc,q1,q2⟩
   rcases List.mem_append.1 hc with hc|hc
   .exact .inl ⟨c,hc,q1,q2⟩
   .simp at hc
    subst hc
    exact .inr ⟨q1.symm,q2⟩)
 age:=λc hc=>by
  rcases List.mem_append.1 hc with hc|hc
  .have:=h.age c hc;omega
  .simp at hc
   subst hc
   show k<k+1
   omega
 zero:=λc hc=>by
  rcases List.mem_append.1 hc with hc|hc
  .exact h.zero c hc
  .simp at hc
   subst hc
   exact⟨rfl,hp.ord⟩
 ages:=List.pairwise_append.2 ⟨h.ages,by simp,λa ha b hb=>by
  simp at hb
  subst hb
  have:=h.age a ha
  show a.age≠k
  omega⟩
 blks:=List.pairwise_append.2 ⟨h.blks,by simp,λa ha b hb=>by
  simp at hb
  subst hb
  exact hB a ha⟩
 sum:=by have h1:=h.sum;have h2:=hp.len;have h3:=hg.1.1;simp[sumL,fl,Cu.rest]at h1|-;omega
 few:=by have:=h.few;simp;omega
 src:=λc hc=>by
  rcases List.mem_append.1 hc with hc|hc
  .exact h.src c hc
  .simp at hc;subst hc;exact⟨r,mem_of_getElem? hr,hp.blk⟩
theorem yU8{lo:ByteArray}(h:yD8 l lo hh hi l.length cs):Flow (λa x=>(∃j,At (esM l) a j x)/\inR lo hh hi x.row=true) (sumL (cs.map fl)) [] (cs.map fl) where
 sorted:=List.Pairwise.nil
 ahead:=λp hp=>by simp at hp
 all:=λa x=>by
  have hm:=h.mem a x
  constructor
  .rintro⟨⟨j,es,h1,h2⟩,h3⟩
   rw[getElem?_map]at h1
   cases hl:l[a]? with
   |none=>rw[hl]at h1;cases h1
   |some r=>
    rw[hl]at h1
    simp at h1
    subst h1
    obtain⟨c,hc,q1,q2⟩:=hm.1 ⟨(List.getElem?_eq_some_iff.1 hl).1,⟨r,hl,mem_of_getElem? h2⟩,h3⟩
    refine .inr ⟨fl c,List.mem_map.2 ⟨c,hc,rfl⟩,q1,?_⟩
    show x∈c.r.es.drop c.pos
    rw[(h.zero c hc).1];exact q2
  .rintro(h1|⟨c',hc',q1,q2⟩)
   .simp at h1
   .obtain⟨c,hc,rfl⟩:=List.mem_map.1 hc'
    have q3:x∈c.r.es.drop c.pos:=q2
    rw[(h.zero c hc).1]at q3
    obtain⟨_,⟨r,hr,hx⟩,h3⟩:=hm.2 ⟨c,hc,q1,q3⟩
    obtain⟨j,hj⟩:=getElem?_of_mem hx
    exact⟨⟨j,r.es,by rw[getElem?_map,hr];rfl,hj⟩,h3⟩
 ages:=by rw[List.pairwise_map];exact h.ages
 ord:=λc' hc'=>by obtain⟨c,hc,rfl⟩:=List.mem_map.1 hc';show Ord (c.r.es.drop c.pos);rw[(h.zero c hc).1];exact(h.zero c hc).2
 count:=by simp
structure yO6(w:World)(base g cap:Nat)(d:Array Cu):Prop where
 row:OwnH w base g cap d
 cur:∀c∈d,CuAt w c
 low:∀c∈d,c.r.b<base
 high:∀c∈d,base<=c.blk/\¬c.blk=g
theorem yO6.below(h:yO6 w base g cap d)(hb:Below w.heap.size w w'):yO6 w' base g cap d:=
 ⟨h.row.below hb h.row.lt.2,λc hc=>(h.cur c hc).below hb,h.low,h.high⟩
theorem yA7.rowOk(h:yA7 w hp base g cap d):yO6 w base g cap d:=⟨h.row,h.cur,h.low,λc hc=>⟨(h.high c hc).1,(h.high c hc).2.1⟩⟩
structure OInv(W:World)(hv:Nat)(l:List Rm)(lo:ByteArray)(hh:Bool)(hi:ByteArray)(k g cp:Nat)(d:Array Cu)(w:World):Prop where
 below:Below W.heap.size W w
 hdr:w.cell? ⟨hv,0,none⟩=some (.slice (some ⟨g,0,none⟩) d.size cp)
 free:∀j,w.frozen? ⟨hv,j,none⟩=false
 lt:hv<w.heap.size
 own:W.heap.size<hv
 new:W.heap.size<g
 ne:¬hv=g
 apart:∀c∈d,W.heap.size<c.blk/\¬c.blk=hv
 row:yO6 w W.heap.size g cp d
 opened:yD8 l lo hh hi k d.toList
 rg0:w.cell? ⟨W.heap.size,0,none⟩=some (.string lo)
 rg1:w.cell? ⟨W.heap.size,1,none⟩=some (.bool hh)
 rg2:w.cell? ⟨W.heap.size,2,none⟩=some (.string hi)
variable {W:World} {cp:Nat}
theorem OInv.step{hv:Nat}{lo:ByteArray}(h:OInv W hv l lo hh hi k g cp d w)(hb:Below w.heap.size w w'):OInv W hv l lo hh hi k g cp d w' where
 below:=h.below.trans (hb.mono h.below.size)
 hdr:=by rw[hb.cell (p:=⟨hv,0,none⟩) h.lt];exact h.hdr
 free:=λj=>by rw[hb.frozen (p:=⟨hv,j,none⟩) h.lt];exact h.free j
 lt:=by have:=hb.size;have:=h.lt;omega
 own:=h.own
 new:=h.new
 ne:=h.ne
 apart:=h.apart
 row:=h.row.below hb
 opened:=h.opened
 rg0:=by rw[hb.cell (p:=⟨W.heap.size,0,none⟩) (by have:=h.own;have:=h.lt;show W.heap.size<w.heap.size;omega)];exact h.rg0
 rg1:=by rw[hb.cell (p:=⟨W.heap.size,1,none⟩) (by have:=h.own;have:=h.lt;show W.heap.size<w.heap.size;omega)];exact h.rg1
 rg2:=by rw[hb.cell (p:=⟨W.heap.size,2,none⟩) (by have:=h.own;have:=h.lt;show W.heap.size<w.heap.size;omega)];exact h.rg2
theorem xB9(w:World)(p:Rm)(k:Nat)(hp:p.at w)(h0:0<p.es.length)(hs:p.es.length<=1048576)(hk:k<=1048576):
  CuAt (w.alloc (Obj.cells #[.slice (some ⟨p.b,p.off,none⟩) p.es.length p.cap,.int .i64 0,.int .i64 k] 232)) ⟨w.heap.size,p,0,k⟩ where
 slice:=by simp
 pos:=by simp
 age:=by simp
 free:=λj=>World.ownsRow.frozenAt (World.ownsRow_lit (base:=0) (e:=232) (size:=3) w #[.slice (some ⟨p.b,p.off,none⟩) p.es.length p.cap,.int .i64 0,.int .i64 k] 1 (zero_le _) (by decide) rfl) j
 lt:=by simp
 ents:=hp.below (qB)
 here:=h0
 short:=hs
 young:=hk
theorem OInv.push{hv:Nat}{lo:ByteArray}{w3 w4:World}(h:OInv W hv l lo hh hi k g cp d w)(hr:l[k]?=some r)(hg:yAp r.es)(hrb:r.b<W.heap.size)(hp:yCs r p lo hh hi)(hat:p.at w)(h0:0<p.es.length)(hk:k<=1048576)
  (hb3:Below (w.heap.size+1) (w.alloc (Obj.cells #[.slice (some ⟨p.b,p.off,none⟩) p.es.length p.cap,.int .i64 0,.int .i64 k] 232)) w3) {g' cp':Nat} (hO:OwnH w4 W.heap.size g' cp' (d.push ⟨w.heap.size,p,0,k⟩)) (hgr:w3.grownBy w4 (some g)) (hgg:g=g'\/g'=w3.heap.size):
  OInv W hv l lo hh hi (k+1) g' cp' (d.push ⟨w.heap.size,p,0,k⟩) (w4.setCell ⟨hv,0,none⟩ (.slice (some ⟨g',0,none⟩) (d.size+1) cp')):=by
 have a8:Below w.heap.size w (w.alloc (Obj.cells #[.slice (some ⟨p.b,p.off,none⟩) p.es.length p.cap,.int .i64 0,.int .i64 k] 232)):=qB;have a5:(w.alloc (Obj.cells #[.slice (some ⟨p.b,p.off,none⟩) p.es.length p.cap,.int .i64 0,.int .i64 k] 232)).heap.size=w.heap.size+1:=by simp
 have a6:=xB9 w p k hat h0 (by have:=hp.len;have:=hg.1.1;omega) hk;generalize w.alloc (Obj.cells #[.slice (some ⟨p.b,p.off,none⟩) p.es.length p.cap,.int .i64 0,.int .i64 k] 232)=wA at*;rw[<-a5]at hb3;have ab:=hb3.size;have aa:=hgr.size;have ad:=h.lt;have ac:=h.own;have ae:=h.row.row.lt;have a4:¬hv=g':=by
  rcases hgg with q|q
  .rw[<-q];exact h.ne
  .omega
 have h3:OInv W hv l lo hh hi k g cp d w3:=(h.step a8).step hb3;have y:Chg (λk=>k=g) w3 w4:=Chg.of_grown hgr (λk hk=>by cases hk;rfl);have a0:Chg (λk=>k=hv) w4 (w4.setCell ⟨hv,0,none⟩ (.slice (some ⟨g',0,none⟩) (d.size+1) cp')):=Chg.of_set _ _ _ _ rfl;have a9:=a0.size;have c4:w4.cell? ⟨hv,0,none⟩=some (.slice (some ⟨g,0,none⟩) d.size cp):=by rw[y.cell (p:=⟨hv,0,none⟩) h3.lt h.ne];exact h3.hdr
 have a7:∀c∈d.push ⟨w.heap.size,p,0,k⟩,c∈d\/c=⟨w.heap.size,p,0,k⟩:=λc hc=>by simpa using hc
 have a3:∀c∈d.push ⟨w.heap.size,p,0,k⟩,CuAt w3 c/\¬c.blk=g/\¬c.blk=hv/\c.r.b<W.heap.size/\W.heap.size<c.blk/\c.blk<w3.heap.size:=λc hc=>by
  rcases a7 c hc with hc|rfl
  .have q:=h3.row.cur c hc;exact⟨q,(h.row.high c hc).2,(h.apart c hc).2,h.row.low c hc,(h.apart c hc).1,q.lt⟩
  .have q:=a6.below hb3;refine⟨q,?_,?_,?_,?_,q.lt⟩
   .show¬w.heap.size=g;omega
   .show¬w.heap.size=hv;omega
   .show p.b<W.heap.size;rw[hp.blk];exact hrb
   .show W.heap.size<w.heap.size;omega
 have af:=h3.below.size
 exact {
  below:=(Chg.below (Chg.below h3.below y h3.below.size (λk q=>by omega)) a0 (by omega) (λk q=>by omega))
  hdr:=by rw[World.cell?_setCell_same _ _ _ c4];simp
  free:=λj=>by rw[World.frozen?_setCell,y.frozen (p:=⟨hv,j,none⟩) h3.lt h.ne];exact h3.free j
  lt:=by omega
  own:=h.own
  new:=by
   rcases hgg with q|q
   .rw[<-q];exact h.new
   .omega
  ne:=a4
  apart:=λc hc=>⟨(a3 c hc).2.2.2.2.1,(a3 c hc).2.2.1⟩
  row:={
   row:=World.ownsRow.kept hO (yAk w4 hv 0 _) (.inr (λq=>a4 (Option.some.inj q).symm))
   cur:=λc hc=>by
    obtain⟨q1,q2,q3,q4,q5,q6⟩:=a3 c hc
    exact(q1.chg y q2 (by omega)).chg a0 q3 (by omega)
   low:=λc hc=>(a3 c hc).2.2.2.1
   high:=λc hc=>by
    obtain⟨q1,q2,q3,q4,q5,q6⟩:=a3 c hc
    refine⟨by omega,?_⟩
    rcases hgg with q|q
    .rw[<-q];exact q2
    .omega}
  opened:=by
   have:=yPs (B:=w.heap.size) h.opened hr hg hp (λc hc=>by
    have:=(h.row.cur c (by simpa using hc)).lt
    omega)
   simpa using this
  rg0:=by
   have hx:W.heap.size<w3.heap.size:=by omega
   rw[a0.cell (p:=⟨W.heap.size,0,none⟩) (by show W.heap.size<w4.heap.size;omega) (by show¬W.heap.size=hv;omega),y.cell (p:=⟨W.heap.size,0,none⟩) hx (by have:=h.new;show¬W.heap.size=g;omega)]
   exact h3.rg0
  rg1:=by
   have hx:W.heap.size<w3.heap.size:=by omega
   rw[a0.cell (p:=⟨W.heap.size,1,none⟩) (by show W.heap.size<w4.heap.size;omega) (by show¬W.heap.size=hv;omega),y.cell (p:=⟨W.heap.size,1,none⟩) hx (by have:=h.new;show¬W.heap.size=g;omega)]
   exact h3.rg1
  rg2:=by
   have hx:W.heap.size<w3.heap.size:=by omega
   rw[a0.cell (p:=⟨W.heap.size,2,none⟩) (by show W.heap.size<w4.heap.size;omega) (by show¬W.heap.size=hv;omega),y.cell (p:=⟨W.heap.size,2,none⟩) hx (by have:=h.new;show¬W.heap.size=g;omega)]
   exact h3.rg2}
theorem yTg(S:Nat->Prop)(base mb:Nat)(P:List (Nat×Ent))(c:ByteArray×ByteArray×ByteArray)(dv:Value)(ds:List (Nat×Int))(dec:Bool)(ts:Int)(cg cc:Nat)(L:List Ent)(a:Nat)(e:Ent)(w:World)
  (h:MInv S base mb P w c dv ds dec ts cg cc L) (hl:Last P c) (hS:P.Pairwise Lt2) (hP:∀p∈P,Lt2 p (a,e)) (hin:∀k,S k->k<w.heap.size) (hB:base<=w.heap.size) (hN:P.length<=1048576) (hcol:e.col=c):
  Calls prog 90 #[.pointer (some ⟨mb,0,none⟩),.agg #[.string e.row,.string e.fam,.string e.qual,.int .u64 e.ts,.int .i64 e.kind,.string e.val],.int .i64 a] w λr w'=>
   r=.returned (.tuple #[])/\MSt S base mb (P++ [(a,e)]) w' e.col/\Chg (Mine mb dv cg) w w':=by
 have H0:Hid (MInv S base mb P w c dv ds dec ts cg cc L/\Last P c/\P.Pairwise Lt2/\(∀p∈P,Lt2 p (a,e))/\∀k,S k->k<w.heap.size):=⟨h,hl,hS,hP,hin⟩;clear h hl hS hP hin;obtain⟨Wa,aa⟩:=qE (w.alloc (Obj.cells #[.string e.row,.string e.fam,.string e.qual,.int .u64 e.ts,.int .i64 e.kind,.string e.val] 64):World);have aM:Below w.heap.size w Wa:=by rw[aa];exact qB
 have aV:Wa.heap.size=w.heap.size+1:=by rw[aa];simp
 have az:Hid (yAe Wa w.heap.size 0 [e]):=by show yAe Wa w.heap.size 0 [e];rw[aa];exact yDj w e
 have b8:=(H0.1.at_.low mb (.inl rfl)).2;go_enter func90,ntmps90;go_upto_region 1 with fail;rw[<-aa];clear aa;obtain⟨d0,d1,d2,d3,d4,d5⟩:=az.out 0 e rfl;simp only[Nat.zero_add,Nat.zero_mul]at d0 d1 d2 d3 d4 d5;go_wp2_with fail;refine(yE1 e _).mono ?_;rintro e' wb ⟨rfl,am⟩;obtain⟨W1,ah⟩:=qE (wb.alloc (Obj.cells #[.string e.row,.string e.fam,.string e.qual] 141):World);have al:Below wb.heap.size wb W1:=by rw[ah];exact qB
 have b3:=am.size;have b0:=al.size;have aP:Hid (yAe W1 w.heap.size 0 [e]):=(az.below am (by omega)).below al (by omega);have k1:Below w.heap.size w W1:=(aM.trans (am.mono (by omega))).trans (al.mono (by omega));have aF:Hid (MgAt W1 base mb c dv ds dec ts cg cc L):=H0.1.at_.below k1;have aR:Hid (W1.cell? ⟨wb.heap.size,0,none⟩=some (.string e.row)/\W1.cell? ⟨wb.heap.size,1,none⟩=some (.string e.fam)/\W1.cell? ⟨wb.heap.size,2,none⟩=some (.string e.qual)):=by refine⟨?_,?_,?_⟩<;>(rw[ah];simp)
 clear d0 d1 d2 d3 d4 d5;go_upto_region 2 with fail;rw[<-ah];clear ah;obtain⟨q0,q1,q2⟩:=aR.out;obtain⟨m0,m1,m2,m3,m4,m5,m6,mf⟩:=aF.cell;obtain⟨cr,cf,cq⟩:=c;simp only at m0 m1 m2;have aJ:=yJ6 e cr cf cq false (by rw[show(!false)=true from rfl,yDz];exact hcol);go_quiet (fail);have a5:Hid (Mem P e.col ds dec ts):=by have:=H0.1.mem;rw[<-hcol]at this;exact this
 have aY:=k1.size;obtain⟨W2,an⟩:=qE (W1.drewN nq:World);have hb2:Below W1.heap.size W1 W2:=by rw[an];exact below_drewN (Below.refl _ _) _
 have aZ:=hb2.size;have aW:w.heap.size<W2.heap.size:=by omega
 have aq:Hid (yAe W2 w.heap.size 0 [e]):=aP.below hb2 (by omega);have a7:Hid (MgAt W2 base mb e.col dv ds dec ts cg cc L):=by have:=aF.below hb2;rw[<-hcol]at this;exact this
 have ai:Hid (Chg (Mine mb dv cg) w W2):=Chg.of_below (k1.trans (hb2.mono (by omega)));rw[<-an];clear an q0 q1 q2 m0 m1 m2 m3 m4 m5 m6 mf aJ hcol;have ae:Hid (∀k,Mine mb dv cg k->¬S k):=H0.1.out;obtain⟨d0,d1,d2,d3,d4,d5⟩:=aq.out 0 e rfl;simp only[Nat.zero_add,Nat.zero_mul]at d0 d1 d2 d3 d4 d5;obtain⟨m0,m1,m2,m3,m4,m5,m6,mf⟩:=a7.cell;have b7:=ai.size;have aD:Hid (∀k,Mine mb dv cg k->Mine mb dv cg k):=λk q=>q;cases kk:(e.kind==2)
 .have HK:Hid (¬e.kind=2):=by show¬e.kind=2;simpa using kk
  by_cases hd:dec=true/\ts=e.ts
  .have HD:Hid (dec=true/\ts=e.ts):=hd;have ht:(ts==e.ts)=true:=by simp[hd.2]
   have ax:dec=true:=hd.1;rw[ax]at m4;clear hd ax
   have HR:Hid (MSt S base mb (P++ [(a,e)]) W2 e.col):=
    ⟨_,_,_,_,_,_,_,a7.out,yWq a5.out HK.out HD.1 HD.2,yCz H0.1.shown H0.2.2.2.1 (λq=>q.2 (yNu a5.out H0.2.2.2.1 HK.out HD.1 HD.2)),ae.out,by have:=H0.1.short;simp;omega⟩
   go_upto_region 8 with fail;go_quiet (fail);go_wp2_with fail;(try simp only[Exit.inBlock,Exit.then]);refine bodyPost_ret (results_none rfl _ _ _) rfl ?_;have ay:=below_drewN (Below.refl W2.heap.size W2) nq;exact⟨rfl,HR.below ay,ai.trans (Chg.of_below ay)⟩
  .have HD:Hid (¬(dec=true/\ts=e.ts)):=hd;have ht:∀b,dec=b->b=true->(ts==e.ts)=false:=λb h1 h2=>by simp;exact λq=>hd ⟨h1.trans h2,q⟩
   clear hd;go_upto_region 8 with fail;go_cut[58] (λs wx=>s=.bool false/\Below W2.heap.size W2 wx);case first=>
    cases hdd:dec
    .rw[hdd]at m4;go_quiet (fail);go_wp2_with fail;go_meet;exact⟨rfl,below_drewN (Below.refl _ _) _⟩
    .rw[hdd]at m4;have aX:=ht true hdd rfl;go_quiet (fail);go_wp2_with fail;go_meet;exact⟨rfl,below_drewN (Below.refl _ _) _⟩
   case rest=>
   obtain⟨rfl,hb3⟩:=hcut;have b6:=hb3.size;have aE:Hid (MgAt wc base mb e.col dv ds dec ts cg cc L):=a7.below hb3;have aQ:Hid (Chg (Mine mb dv cg) w wc):=ai.trans (Chg.of_below hb3);clear m0 m1 m2 m3 m4 m5 m6 mf d0 d1 d2 d3 d4 d5 ht;obtain⟨d0,d1,d2,d3,d4,d5⟩:=(aq.below hb3 (by omega)) 0 e rfl;simp only[Nat.zero_add,Nat.zero_mul]at d0 d1 d2 d3 d4 d5;obtain⟨m0,m1,m2,m3,m4,m5,m6,mf⟩:=aE.cell;obtain⟨W4,ab⟩:=qE ((wc.setCell ⟨mb,4,none⟩ (.bool true)).setCell ⟨mb,5,none⟩ (.int .u64 e.ts):World);have au:Hid (MgAt W4 base mb e.col dv ds true e.ts cg cc L):=by show MgAt W4 base mb e.col dv ds true e.ts cg cc L;rw[ab];exact(aE.setDec true).setTs e.ts
   have ao:Chg (λk=>k=mb) wc W4:=by rw[ab];exact(Chg.of_set (S:=λk=>k=mb) _ _ _ _ rfl).trans (Chg.of_set (S:=λk=>k=mb) _ _ _ _ rfl)
   have b5:=ao.size;have aB:Hid (yAe W4 w.heap.size 0 [e]):=(aq.below hb3 (by omega)).chg ao (by omega) (by omega);have aH:Hid (Chg (Mine mb dv cg) w W4):=aQ.trans (ao.mono (λk q=>.inl q));have af:Hid (Mem (P++ [(a,e)]) e.col ds true e.ts):=yUg a5.out H0.2.2.2.1 HK.out;cases k0:(e.kind==0)
   .have HR:Hid (MSt S base mb (P++ [(a,e)]) W4 e.col):=
     ⟨_,_,_,_,_,_,_,au.out,af.out,yCz H0.1.shown H0.2.2.2.1 (λq=>by have:=q.1;simp at k0;exact k0 this),ae.out,by have:=H0.1.short;simp;omega⟩
    go_wp2_with fail;rw[<-ab];go_end0;exact⟨rfl,HR.out,aH.out⟩
   .go_upto_region 11 with fail;rw[<-ab];clear ab m0 m1 m2 m3 m4 m5 m6 mf d0 d1 d2 d3 d4 d5;obtain⟨d0,d1,d2,d3,d4,d5⟩:=aB.out 0 e rfl;simp only[Nat.zero_add,Nat.zero_mul]at d0 d1 d2 d3 d4 d5;go_wp2_with fail;refine(yLb base mb e.col dv ds true e.ts cg cc L e.ts a _ au.out (by have:=a5.len;omega)).mono ?_;rintro e' w5 ⟨rfl,ag⟩;have b4:=ag.size;have y:Hid (MgAt w5 base mb e.col dv ds true e.ts cg cc L):=au.below ag;have aG:Hid (Chg (Mine mb dv cg) w w5):=aH.trans (Chg.of_below ag);have aA:Hid (yAe w5 w.heap.size 0 [e]):=aB.below ag (by omega);have aC:Hid (Over P a e↔yFj ds e.ts a=true):=yK0 a5.out H0.2.2.2.1 HK.out HD.out;clear d0 d1 d2 d3 d4 d5;cases hh:yFj ds e.ts a
    .obtain⟨d0,d1,d2,d3,d4,d5⟩:=aA.out 0 e rfl;simp only[Nat.zero_add,Nat.zero_mul]at d0 d1 d2 d3 d4 d5;obtain⟨m0,m1,m2,m3,m4,m5,m6,mf⟩:=y.cell;go_upto_region 12 with fail;have aS:mb≠w.heap.size:=by omega
     have aO:L.length<=2^30:=by have:=H0.1.short;omega
     have ak:base<=w5.heap.size:=by omega
     have aT:cg≠w.heap.size:=by have:=(H0.1.at_.low cg (.inr (.inr rfl))).2;omega
     have av:mb≠cg:=λq=>y.apart.2.1 q.symm;have aL:cg<w5.heap.size:=(y.low cg (.inr (.inr rfl))).2;have aw:mb<w5.heap.size:=(y.low mb (.inl rfl)).2;have ar:Hid (Shown (P++ [(a,e)]) (L++ [e])):=yNk H0.1.shown H0.2.2.2.1 (by simpa using k0) (λq=>by have:=aC.1 q;rw[hh]at this;cases this)
     go_region_law ((first
       |(go_simp;go_at_call 154;refine(yIc e _).mono ?_;rintro e' w6 ⟨rfl,aN⟩;have a0:Below w5.heap.size w5 w6:=((Below.refl w5.heap.size w5).drew).trans aN;obtain⟨y0,y1,y2,y3,y4,y5⟩:=(aA.below a0 (by omega)) 0 e rfl;simp only[Nat.zero_add,Nat.zero_mul]at y0 y1 y2 y3 y4 y5;have aI:=(y.below a0).cell.2.2.2.2.2.2.1;have aU:∀o,(w6.alloc o).cell? ⟨mb,6,none⟩=some (.slice (some ⟨cg,0,none⟩) L.length cc):=λo=>by {rw[((Below.refl w6.heap.size w6).alloc (Nat.le_refl _) o).cell (p:=⟨mb,6,none⟩) (Nat.lt_of_lt_of_le aw a0.size)];exact aI})
       |(refine yFm _ (by rfl) _ _ (by rfl) base cg cc w6.heap.size L e (by rfl) (by rfl) ?hO ?hc aO ?hb ?_
         case hO=>exact(y.below a0).cells.below (qB) (Nat.lt_of_lt_of_le aL a0.size)
         case hc=>exact yH5 w6 e
         case hb=>exact Nat.le_trans ak (Nat.le_trans a0.size (by simp))
         intro g7 ad w7 ac a6 a9
         have a4:Hid (MSt S base mb (P++ [(a,e)]) (w7.setCell ⟨mb,6,none⟩ (.slice (some ⟨g7,0,none⟩) (L.length+1) ad)) e.col/\Chg (Mine mb dv cg) w (w7.setCell ⟨mb,6,none⟩ (.slice (some ⟨g7,0,none⟩) (L.length+1) ad))):=by {have a3:=yTv y.out a0 ac a6 (by simpa using a9) af.out ar.out ae.out (λk hk=>by have:=H0.2.2.2.2 k hk;omega) H0.1.short;exact⟨a3.1,aG.trans (a3.2.mono aD.out)⟩}
         have a8:=(y.below a0).below ((Below.refl w6.heap.size w6).alloc (Nat.le_refl _) (Obj.cells #[.string e.row,.string e.fam,.string e.qual,.int .u64 e.ts,.string e.val] 73))
         have aj:Chg (λk=>k=cg) (w6.alloc (Obj.cells #[.string e.row,.string e.fam,.string e.qual,.int .u64 e.ts,.string e.val] 73)) w7:=Chg.of_grown a6 (λk hk=>by cases hk;rfl)
         have m7:w7.cell? ⟨mb,6,none⟩=some (.slice (some ⟨cg,0,none⟩) L.length cc):=by rw[aj.cell (p:=⟨mb,6,none⟩) (a8.low mb (.inl rfl)).2 av];exact a8.cell.2.2.2.2.2.2.1
         have f7:w7.frozen? ⟨mb,6,none⟩=false:=by rw[aj.frozen (p:=⟨mb,6,none⟩) (a8.low mb (.inl rfl)).2 av];exact a8.cell.2.2.2.2.2.2.2 6
         clear a8 aj ac a6 a9)))
     all_goals go_end0
     all_goals exact⟨rfl,a4.out.1,a4.out.2⟩
    .have HR:Hid (MSt S base mb (P++ [(a,e)]) w5 e.col):=
      ⟨_,_,_,_,_,_,_,y.out,af.out,yCz H0.1.shown H0.2.2.2.1 (λq=>q.2 (aC.2 hh)),ae.out,by have:=H0.1.short;simp;omega⟩
     go_wp2_with fail;go_end0;exact⟨rfl,HR.out,aG.out⟩
 .have HK:Hid (e.kind=2):=by show e.kind=2;simpa using kk
  have aK:ds.length<=2^30:=by have:=a5.len;omega
  have ak:base<=W2.heap.size:=by omega
  have af:Hid (Mem (P++ [(a,e)]) e.col (ds++ [(a,e.ts)]) dec ts):=yUi a5.out HK.out;have ar:Hid (Shown (P++ [(a,e)]) L):=yCz H0.1.shown H0.2.2.2.1 (λq=>by have:=q.1;have:=HK.out;omega);have aw:mb<W2.heap.size:=(a7.low mb (.inl rfl)).2;have f3:=mf 3;go_upto_region 7 with fail
  go_region_law ((refine yFl _ (by rfl) _ _ (by rfl) base W2.heap.size dv ds a e.ts (by rfl) (by rfl) ?hO ?h0 ?h1 aK ?hb ?_
                  case hO=>exact yAg (S:=λ_=>False) a7.dels (Chg.of_below (((Below.refl W2.heap.size W2).drew).alloc (Nat.le_refl _) _)) (λk _ q=>q)
                  case h0=>simp
                  case h1=>simp
                  case hb=>exact Nat.le_trans ak (by simp)
                  intro g7 ad w7 ac a6 a9
                  have a4:Hid (MSt S base mb (P++ [(a,e)]) (w7.setCell ⟨mb,3,none⟩ (.slice (some ⟨g7,0,none⟩) (ds.length+1) ad)) e.col/\Chg (Mine mb dv cg) w (w7.setCell ⟨mb,3,none⟩ (.slice (some ⟨g7,0,none⟩) (ds.length+1) ad))/\w7.cell? ⟨mb,3,none⟩=some dv/\w7.frozen? ⟨mb,3,none⟩=false):=by {have a3:=yVa a7.out (((Below.refl W2.heap.size W2).drew).alloc (Nat.le_refl _) _) ac a6 (by simpa using a9) af.out ar.out ae.out (λk hk=>by have:=H0.2.2.2.2 k hk;omega) H0.1.short;exact⟨a3.1,ai.trans (a3.2.1.mono aD.out),a3.2.2.1,a3.2.2.2⟩}
                  have m7:=a4.out.2.2.1
                  have f7:=a4.out.2.2.2
                  clear ac a6 a9))
  all_goals go_wp2_with fail
  all_goals (try simp only[Exit.inBlock,Exit.then])
  all_goals refine bodyPost_ret (results_none rfl _ _ _) rfl ?_
  all_goals exact⟨rfl,a4.out.1,a4.out.2.1⟩
theorem Tryz.infoCur:(prog.info? 151).map (λi=>(i.zero,i.size,i.bytes))=some (some .nilIface,1,16):=by kernel_rfl
theorem yIh{rest:List Oper}{a:Act}(w:World)(hgd:o.guard=none)(s x:Operand)
  (ho:o.op=.call {callee:=.builtin .append,args:=#[s,x],argTypes:=#[146,146]})
  (base g cp blk:Nat) (d:Array Cu) (c:Cu) (hs:a.eval s=.slice (some ⟨g,0,none⟩) d.size cp) (hx:a.eval x=.slice (some ⟨blk,0,none⟩) 1 1) (hO:OwnH w base g cp d)
  (hc:w.cell? ⟨blk,0,none⟩=some (ifc c)) (hlen:d.size<=2^30) (hbase:base<=w.heap.size)
  (h:∀g' cp' w',OwnH w' base g' cp' (d.push c)->w.grownBy w' (some g)->(g=g'\/g'=w.heap.size)->wpList prog ops Q rest (a.put o.dst (.slice (some ⟨g',0,none⟩) (d.size+1) cp')) w'):wpList prog ops Q (o::rest) a w:=by
 obtain⟨i,hi,a3,a0,y⟩:=info_parts Tryz.infoCur;refine wpList_append_lies w hgd s x 146 ho base 151 i _ 1 16 underlying146 hi a3 a0 y rfl (by decide) (.slice (some ⟨g,0,none⟩) d.size cp) d.size (d.toList.map ifc) hs hO ⟨blk,0,none⟩ 1 1 [ifc c] hx rfl ?_ ?_ (by decide) ?_ ?_ hbase w.heap.size rfl ?_
 .exact yZ9
 .intro u hu;simp at hu;subst hu;rfl
 .unfold maxLen;omega
 .omega
 .intro g' cp' w' a5 a4 hat a6;refine h g' cp' w' ?_ a4 ?_
  .unfold OwnH;have e:(d.push c).toList.map ifc=d.toList.map ifc++ [ifc c]:=by simp
   rw[Array.size_push,e];exact a5
  .exact yXv
theorem yIn(b off cap:Nat)(l:List Rm)(lo hi:ByteArray)(hh:Bool)(w:World)(hR:yB5 w b off l)(hG:yAl (esM l))(hB:b<w.heap.size):
  Calls prog 88 #[.slice (some ⟨b,off,none⟩) l.length cap,.agg #[.string lo,.bool hh,.string hi]] w λe w'=>
   ∃(g cp:Nat)(d:Array Cu),e=.returned (.slice (some ⟨g,0,none⟩) d.size cp)/\yO6 w' w.heap.size g cp d/\Heap d/\yD8 l lo hh hi l.length d.toList/\Below w.heap.size w w':=by
 have HR:Hid (yB5 w b off l):=hR;have HG:Hid (yAl (esM l)):=hG;have aA:l.length<=50:=by simpa using hG.1
 clear hR hG;obtain⟨i,al,af,aa,ae⟩:=info_parts Tryz.infoCur;have HI:Hid (prog.info? 151=some i/\i.zero=some .nilIface/\i.size=1/\i.bytes=16):=⟨al,af,aa,ae⟩;clear al af aa ae;obtain⟨W1,a4⟩:=qE (w.alloc (Obj.cells #[.string lo,.bool hh,.string hi] 30):World);have hb1:Below w.heap.size w W1:=by rw[a4];exact qB
 have aa:W1.heap.size=w.heap.size+1:=by rw[a4];simp
 have a9:Hid (W1.cell? ⟨w.heap.size,0,none⟩=some (.string lo)/\W1.cell? ⟨w.heap.size,1,none⟩=some (.bool hh)/\W1.cell? ⟨w.heap.size,2,none⟩=some (.string hi)):=by refine⟨?_,?_,?_⟩<;>(rw[a4];simp)
 go_enter func88,ntmps88;go_wp2_with (at_make;refine wpList_make_own _ rfl _ _ 146 rfl w.heap.size 151 i _ 1 underlying146 HI.1 HI.2.1 HI.2.2.1 _ _ _ l.length rfl rfl ?_ ?hb ?hm ?hs ?_);case hb=>rw[HI.2.2.2];omega
 case hm=>unfold maxLen;omega
 case hs=>simp
 .rfl
 rw[<-a4];clear a4;intro w2 ab a0;have hb2:Below W1.heap.size W1 w2:=(Below.refl _ _).grown a0 (Nat.le_refl _) (λk hk=>by cases hk);have az:w.heap.size+1<w2.heap.size:=(World.ownsRow.lt ab _ rfl).2;obtain⟨W3,a3⟩:=qE (w2.alloc (Obj.cells #[.slice (some ⟨w.heap.size+1,0,none⟩) 0 l.length] 146):World);have hb3:Below w2.heap.size w2 W3:=by rw[a3];exact qB
 have aw:W3.heap.size=w2.heap.size+1:=by rw[a3];simp
 have HO:Hid (OInv w w2.heap.size l lo hh hi 0 (w.heap.size+1) l.length #[] W3):=by
  have a5:Below W1.heap.size W1 W3:=hb2.trans (hb3.mono hb2.size)
  exact {
   below:=hb1.trans (a5.mono (by omega))
   hdr:=by rw[a3];simp
   free:=λj=>by
    rw[a3]
    exact World.ownsRow.frozenAt (World.ownsRow_lit (base:=0) (e:=146) (size:=1) w2 #[.slice (some ⟨w.heap.size+1,0,none⟩) 0 l.length] 1 (zero_le _) (by decide) rfl) j
   lt:=by omega
   own:=by omega
   new:=by omega
   ne:=by omega
   apart:=λc hc=>by simp at hc
   row:=⟨OwnH.below (d:=#[]) ab hb3 (by omega),λc hc=>by simp at hc,λc hc=>by simp at hc,λc hc=>by simp at hc⟩
   opened:=yPq l lo hi hh
   rg0:=by rw[a5.cell (p:=⟨w.heap.size,0,none⟩) (by show w.heap.size<W1.heap.size;omega)];exact a9.1
   rg1:=by rw[a5.cell (p:=⟨w.heap.size,1,none⟩) (by show w.heap.size<W1.heap.size;omega)];exact a9.2.1
   rg2:=by rw[a5.cell (p:=⟨w.heap.size,2,none⟩) (by show w.heap.size<W1.heap.size;omega)];exact a9.2.2}
 clear ab a0;go_wp2_with fail;rw[<-a3];clear a3 a9 hb1 hb2 hb3;generalize hhv:w2.heap.size=hv at*;clear hhv;go_loopw[14] (λc wr=>∃(k g cp:Nat)(d:Array Cu),k<=l.length/\c=.int .i64 k/\OInv w hv l lo hh hi k g cp d wr) (λc _=>l.length-(intOf c).toNat);case atStart=>exact⟨0,_,_,#[],zero_le _,rfl,HO.out⟩
 case round=>
  obtain⟨k,g,cp,d,hk,rfl,hI⟩:=hrel;have HV:Hid (OInv w hv l lo hh hi k g cp d wr):=hI;have a6:=hI.below;have ag:=a6.size;clear hI HO;by_cases hlt:k<l.length
  .obtain⟨r,hr⟩:∃r,l[k]?=some r:=⟨_,getElem?_eq_getElem hlt⟩;obtain⟨c0,ha⟩:=(HR.below a6 hB) k r hr;have HA:Hid (r.at wr/\l[k]?=some r/\yAp r.es/\r.b<w.heap.size):=⟨ha,hr,yFy HG.out (mem_of_getElem? hr),(HR.out k r hr).2.lt⟩;clear ha hr;obtain⟨Wa,a7⟩:=qE (wr.alloc (Obj.cells #[.slice (some ⟨r.b,r.off,none⟩) r.es.length r.cap] 60):World);have ac:Below wr.heap.size wr Wa:=by rw[a7];exact qB
   have au:Wa.cell? ⟨wr.heap.size,0,none⟩=some (.slice (some ⟨r.b,r.off,none⟩) r.es.length r.cap):=by rw[a7];simp
   have a8:Hid (OInv w hv l lo hh hi k g cp d Wa):=HV.step ac;have av:Hid (r.at Wa):=HA.1.below ac;go_upto_region 5 with fail;rw[<-a7];clear a7 c0;have q0:=a8.rg0;have q1:=a8.rg1;have q2:=a8.rg2;go_wp2_with fail;refine(yEr r lo hi hh _ av.out HA.2.2.1).mono ?_;rintro e wb ⟨p,rfl,ai,ah,ao⟩;have HP:Hid (p.at wb/\yCs r p lo hh hi):=⟨ai,ah⟩;have y:Hid (OInv w hv l lo hh hi k g cp d wb):=a8.step ao;clear ai ah q0 q1 q2 au;by_cases hp0:p.es.length=0
   .have HN:Hid (OInv w hv l lo hh hi (k+1) g cp d wb):={y.out with opened:=yPr y.opened HA.2.1 HP.2 (List.eq_nil_of_length_eq_zero hp0)};go_wp2_with fail;go_roundw;case rel=>exact⟨k+1,g,cp,d,by omega,by go_num,HN.out⟩
    case measure=>go_light;simp[intOf];omega
   .have zp:(0:Int)<(p.es.length:Int):=by omega
    have q0:=y.hdr;have ar:d.size<=k:=by simpa using y.opened.few
    have am:=y.row.row.lt.2;have ay:=y.lt;have f0:=y.free 0;have aj:=y.ne;have ax:=y.below.size;clear ac ao a6 ag;go_wp2_with (at_builtin;refine yIh _ rfl _ _ rfl w.heap.size g cp (wb.heap.size+1) d ⟨wb.heap.size,p,0,k⟩ rfl rfl ?hO ?hc ?hl ?hb ?_);case hO=>exact(y.row.row.below (qB) am).below (qB) (by simp;omega)
    case hc=>simp
    case hl=>omega
    case hb=>simp;omega
    intro g' cp' w4 hO a0 an;have hb3:Below (wb.heap.size+1) (wb.alloc (Obj.cells #[.slice (some ⟨p.b,p.off,none⟩) p.es.length p.cap,.int .i64 0,.int .i64 k] 232)) ((wb.alloc (Obj.cells #[.slice (some ⟨p.b,p.off,none⟩) p.es.length p.cap,.int .i64 0,.int .i64 k] 232)).alloc (Obj.cells #[.iface 230 (.pointer (some ⟨wb.heap.size,0,none⟩))] 151)):=(Below.refl _ _).alloc (by simp) _
    have HN:Hid (OInv w hv l lo hh hi (k+1) g' cp' (d.push ⟨wb.heap.size,p,0,k⟩) (w4.setCell ⟨hv,0,none⟩ (.slice (some ⟨g',0,none⟩) (d.size+1) cp'))):=
     y.push HA.2.1 HA.2.2.1 HA.2.2.2 HP.2 HP.1 (by omega) (by omega) hb3 hO a0 (by simpa using an)
    have hx:=(y.step ((Below.refl wb.heap.size wb).alloc (Nat.le_refl _) (Obj.cells #[.slice (some ⟨p.b,p.off,none⟩) p.es.length p.cap,.int .i64 0,.int .i64 k] 232))).step (w':=(wb.alloc (Obj.cells #[.slice (some ⟨p.b,p.off,none⟩) p.es.length p.cap,.int .i64 0,.int .i64 k] 232)).alloc (Obj.cells #[.iface 230 (.pointer (some ⟨wb.heap.size,0,none⟩))] 151)) (qB);have c4:w4.cell? ⟨hv,0,none⟩=some (.slice (some ⟨g,0,none⟩) d.size cp):=by rw[a0.cell_far ⟨hv,0,none⟩ hx.lt (λq=>aj (Option.some.inj q))];exact hx.hdr
    have f4:w4.frozen? ⟨hv,0,none⟩=false:=by rw[a0.frozen_far ⟨hv,0,none⟩ hx.lt (λq=>aj (Option.some.inj q))];exact hx.free 0
    clear hO a0 an hb3 hx q0 f0;go_wp2_with fail;go_roundw;case rel=>exact⟨k+1,g',cp',_,by omega,by go_num,HN.out⟩
    case measure=>go_light;simp[intOf];omega
  .have ak:k=l.length:=by omega
   have HW:Hid (yA7 wr hv w.heap.size g cp d):=by have h:=HV.out;exact⟨h.hdr,h.free,h.lt,h.ne,h.row.row,by have:=h.own;omega,h.row.cur,h.row.low,λc hc=>⟨(h.row.high c hc).1,(h.row.high c hc).2,(h.apart c hc).2⟩⟩
   have HK:Hid (yD8 l lo hh hi l.length d.toList):=by have:=HV.opened;rw[ak]at this;exact this
   have ar:d.size<=k:=by simpa using HV.opened.few
   clear ak;go_wp2_with fail;refine(yUy hv w.heap.size g cp d _ HW.out (by omega)).mono ?_;rintro e wf ⟨rfl,ad,aq⟩;have hb:=ySe (d:=d);have am:=HW.row.lt.1
   have HF:Hid (yO6 wf w.heap.size g cp (Go.Sort.heapBuild gtC d.size 0 (d.size/2) d)/\Heap (Go.Sort.heapBuild gtC d.size 0 (d.size/2) d)/\yD8 l lo hh hi l.length (Go.Sort.heapBuild gtC d.size 0 (d.size/2) d).toList/\Below w.heap.size w wf):=
    ⟨ad.rowOk,hb.1,HK.perm hb.2.symm,Chg.below a6 aq ag (λk q=>by omega)⟩
   have q0:=ad.hdr;clear ad aq hb;go_wp2_with fail;go_ret;exact⟨g,cp,_,rfl,HF.1,HF.2.1,HF.2.2.1,HF.2.2.2⟩
theorem yTf(S:Nat->Prop)(base mb:Nat)(P:List (Nat×Ent))(c:ByteArray×ByteArray×ByteArray)(dv:Value)(ds:List (Nat×Int))(dec:Bool)(ts:Int)(cg cc:Nat)(L:List Ent)(a:Nat)(e:Ent)(w:World)
  (h:MInv S base mb P w c dv ds dec ts cg cc L) (hl:Last P c) (hS:P.Pairwise Lt2) (hP:∀p∈P,Lt2 p (a,e)) (hin:∀k,S k->k<w.heap.size) (hB:base<=w.heap.size) (hN:P.length<=1048576) (hcol:¬e.col=c) (dg dcap:Nat) (hdv:dv=.slice (some ⟨dg,0,none⟩) ds.length dcap):
  Calls prog 90 #[.pointer (some ⟨mb,0,none⟩),.agg #[.string e.row,.string e.fam,.string e.qual,.int .u64 e.ts,.int .i64 e.kind,.string e.val],.int .i64 a] w λr w'=>
   r=.returned (.tuple #[])/\MSt S base mb (P++ [(a,e)]) w' e.col/\Chg (Mine mb dv cg) w w':=by
 have H0:Hid (MInv S base mb P w c dv ds dec ts cg cc L/\Last P c/\P.Pairwise Lt2/\(∀p∈P,Lt2 p (a,e))/\∀k,S k->k<w.heap.size):=⟨h,hl,hS,hP,hin⟩;clear h hl hS hP hin;obtain⟨Wa,y⟩:=qE (w.alloc (Obj.cells #[.string e.row,.string e.fam,.string e.qual,.int .u64 e.ts,.int .i64 e.kind,.string e.val] 64):World);have a6:Below w.heap.size w Wa:=by rw[y];exact qB
 have a8:Wa.heap.size=w.heap.size+1:=by rw[y];simp
 have a5:Hid (yAe Wa w.heap.size 0 [e]):=by show yAe Wa w.heap.size 0 [e];rw[y];exact yDj w e
 have ab:=(H0.1.at_.low mb (.inl rfl)).2;go_enter func90,ntmps90;go_upto_region 1 with fail;rw[<-y];clear y;obtain⟨d0,d1,d2,d3,d4,d5⟩:=a5.out 0 e rfl;simp only[Nat.zero_add,Nat.zero_mul]at d0 d1 d2 d3 d4 d5;go_wp2_with fail;refine(yE1 e _).mono ?_;rintro e' wb ⟨rfl,a4⟩;obtain⟨W1,a0⟩:=qE (wb.alloc (Obj.cells #[.string e.row,.string e.fam,.string e.qual] 141):World);have a3:Below wb.heap.size wb W1:=by rw[a0];exact qB
 have aa:=a4.size;have a9:=a3.size;have HX1:Hid (yAe W1 w.heap.size 0 [e]):=(a5.below a4 (by omega)).below a3 (by omega);have k1:Below w.heap.size w W1:=(a6.trans (a4.mono (by omega))).trans (a3.mono (by omega));have HM1:Hid (MgAt W1 base mb c dv ds dec ts cg cc L):=H0.1.at_.below k1;have a7:Hid (W1.cell? ⟨wb.heap.size,0,none⟩=some (.string e.row)/\W1.cell? ⟨wb.heap.size,1,none⟩=some (.string e.fam)/\W1.cell? ⟨wb.heap.size,2,none⟩=some (.string e.qual)):=by refine⟨?_,?_,?_⟩<;>(rw[a0];simp)
 clear d0 d1 d2 d3 d4 d5;go_upto_region 2 with fail;rw[<-a0];clear a0;obtain⟨q0,q1,q2⟩:=a7.out;obtain⟨m0,m1,m2,m3,m4,m5,m6,mf⟩:=HM1.cell;obtain⟨cr,cf,cq⟩:=c;simp only at m0 m1 m2;have hne:=yJ6 e cr cf cq true (by rw[show(!true)=false from rfl,Bool.eq_false_iff,ne_eq,yDz];exact hcol);go_quiet (fail);have hcut:cut0 dv=.slice (some ⟨dg,0,none⟩) 0 dcap:=by rw[hdv];rfl
 have hcl:([]:List (Nat×Int)).length=0:=rfl;clear hcl;rw[hdv]at m3;have HMem:Hid (Mem P e.col ([]:List (Nat×Int)) false ts):=yQ0 H0.2.1 H0.2.2.1 H0.2.2.2.1 hcol ts;have ac:Hid (cut0 dv=.slice (some ⟨dg,0,none⟩) 0 dcap):=hcut;have f0:=mf 0;have f1:=mf 1;have f2:=mf 2;have f3:=mf 3;have f4:=mf 4;obtain⟨W2,hW2⟩:=qE ((((((W1.drewN nq).setCell ⟨mb,0,none⟩ (.string e.row)).setCell ⟨mb,1,none⟩ (.string e.fam)).setCell ⟨mb,2,none⟩ (.string e.qual)).setCell ⟨mb,3,none⟩ (.slice (some ⟨dg,0,none⟩) 0 dcap)).setCell ⟨mb,4,none⟩ (.bool false):World);exact zzQ0
theorem yV9(S:Nat->Prop)(base mb:Nat)(P:List (Nat×Ent))(c:ByteArray×ByteArray×ByteArray)(dv:Value)(ds:List (Nat×Int))(dec:Bool)(ts:Int)(cg cc:Nat)(L:List Ent)(a:Nat)(e:Ent)(w:World)
  (h:MInv S base mb P w c dv ds dec ts cg cc L) (hl:Last P c) (hS:P.Pairwise Lt2) (hP:∀p∈P,Lt2 p (a,e)) (hin:∀k,S k->k<w.heap.size) (hB:base<=w.heap.size) (hN:P.length<=1048576) (hcol:¬e.col=c) (hdv:dv=.slice none 0 0):
  Calls prog 90 #[.pointer (some ⟨mb,0,none⟩),.agg #[.string e.row,.string e.fam,.string e.qual,.int .u64 e.ts,.int .i64 e.kind,.string e.val],.int .i64 a] w λr w'=>
   r=.returned (.tuple #[])/\MSt S base mb (P++ [(a,e)]) w' e.col/\Chg (Mine mb dv cg) w w':=by
 have H0:Hid (MInv S base mb P w c dv ds dec ts cg cc L/\Last P c/\P.Pairwise Lt2/\(∀p∈P,Lt2 p (a,e))/\∀k,S k->k<w.heap.size):=⟨h,hl,hS,hP,hin⟩;clear h hl hS hP hin;obtain⟨Wa,y⟩:=qE (w.alloc (Obj.cells #[.string e.row,.string e.fam,.string e.qual,.int .u64 e.ts,.int .i64 e.kind,.string e.val] 64):World);have a6:Below w.heap.size w Wa:=by rw[y];exact qB
 have a8:Wa.heap.size=w.heap.size+1:=by rw[y];simp
 have a5:Hid (yAe Wa w.heap.size 0 [e]):=by show yAe Wa w.heap.size 0 [e];rw[y];exact yDj w e
 have ab:=(H0.1.at_.low mb (.inl rfl)).2;go_enter func90,ntmps90;go_upto_region 1 with fail;rw[<-y];clear y;obtain⟨d0,d1,d2,d3,d4,d5⟩:=a5.out 0 e rfl;simp only[Nat.zero_add,Nat.zero_mul]at d0 d1 d2 d3 d4 d5;go_wp2_with fail;refine(yE1 e _).mono ?_;rintro e' wb ⟨rfl,a4⟩;obtain⟨W1,a0⟩:=qE (wb.alloc (Obj.cells #[.string e.row,.string e.fam,.string e.qual] 141):World);have a3:Below wb.heap.size wb W1:=by rw[a0];exact qB
 have aa:=a4.size;have a9:=a3.size;have HX1:Hid (yAe W1 w.heap.size 0 [e]):=(a5.below a4 (by omega)).below a3 (by omega);have k1:Below w.heap.size w W1:=(a6.trans (a4.mono (by omega))).trans (a3.mono (by omega));have HM1:Hid (MgAt W1 base mb c dv ds dec ts cg cc L):=H0.1.at_.below k1;have a7:Hid (W1.cell? ⟨wb.heap.size,0,none⟩=some (.string e.row)/\W1.cell? ⟨wb.heap.size,1,none⟩=some (.string e.fam)/\W1.cell? ⟨wb.heap.size,2,none⟩=some (.string e.qual)):=by refine⟨?_,?_,?_⟩<;>(rw[a0];simp)
 clear d0 d1 d2 d3 d4 d5;go_upto_region 2 with fail;rw[<-a0];clear a0;obtain⟨q0,q1,q2⟩:=a7.out;obtain⟨m0,m1,m2,m3,m4,m5,m6,mf⟩:=HM1.cell;obtain⟨cr,cf,cq⟩:=c;simp only at m0 m1 m2;have hne:=yJ6 e cr cf cq true (by rw[show(!true)=false from rfl,Bool.eq_false_iff,ne_eq,yDz];exact hcol);go_quiet (fail);have hcut:cut0 dv=.slice none 0 0:=by rw[hdv];rfl
 have hcl:([]:List (Nat×Int)).length=0:=rfl;clear hcl;rw[hdv]at m3;have HMem:Hid (Mem P e.col ([]:List (Nat×Int)) false ts):=yQ0 H0.2.1 H0.2.2.1 H0.2.2.2.1 hcol ts;have ac:Hid (cut0 dv=.slice none 0 0):=hcut;have f0:=mf 0;have f1:=mf 1;have f2:=mf 2;have f3:=mf 3;have f4:=mf 4;obtain⟨W2,hW2⟩:=qE ((((((W1.drewN nq).setCell ⟨mb,0,none⟩ (.string e.row)).setCell ⟨mb,1,none⟩ (.string e.fam)).setCell ⟨mb,2,none⟩ (.string e.qual)).setCell ⟨mb,3,none⟩ (.slice none 0 0)).setCell ⟨mb,4,none⟩ (.bool false):World);exact zzQ0
theorem yTh(S:Nat->Prop)(base mb:Nat)(P:List (Nat×Ent))(c:ByteArray×ByteArray×ByteArray)(dv:Value)(ds:List (Nat×Int))(dec:Bool)(ts:Int)(cg cc:Nat)(L:List Ent)(a:Nat)(e:Ent)(w:World)
  (h:MInv S base mb P w c dv ds dec ts cg cc L) (hl:Last P c) (hS:P.Pairwise Lt2) (hP:∀p∈P,Lt2 p (a,e)) (hin:∀k,S k->k<w.heap.size) (hB:base<=w.heap.size) (hN:P.length<=1048576):
  Calls prog 90 #[.pointer (some ⟨mb,0,none⟩),.agg #[.string e.row,.string e.fam,.string e.qual,.int .u64 e.ts,.int .i64 e.kind,.string e.val],.int .i64 a] w λr w'=>
   r=.returned (.tuple #[])/\MSt S base mb (P++ [(a,e)]) w' e.col/\Chg (Mine mb dv cg) w w':=by
 by_cases hcol:e.col=c
 .exact yTg S base mb P c dv ds dec ts cg cc L a e w h hl hS hP hin hB hN hcol
 .rcases h.at_.dels.2 with⟨y,_⟩|⟨dg,a0,cur,y,_⟩
  .exact yV9 S base mb P c dv ds dec ts cg cc L a e w h hl hS hP hin hB hN hcol y
  .exact yTf S base mb P c dv ds dec ts cg cc L a e w h hl hS hP hin hB hN hcol dg a0 y
theorem MSt.chg{c:ByteArray×ByteArray×ByteArray}(h:MSt S base mb P w c)(hb:Chg S w w'):MSt S base mb P w' c:=by obtain⟨dv,ds,dec,ts,cg,cc,L,hR⟩:=h;exact⟨dv,ds,dec,ts,cg,cc,L,⟨hR.at_.chg hb hR.out,hR.mem,hR.shown,hR.out,hR.short⟩⟩
theorem yA7.chg{T:Nat->Prop}(h:yA7 w hp base g cap d)(hb:Chg T w w')(h1:¬T hp)(h2:¬T g)(h3:∀c∈d,¬T c.blk)(h4:∀k,T k->base<=k):yA7 w' hp base g cap d where
 hdr:=by rw[hb.cell (p:=⟨hp,0,none⟩) h.lt h1];exact h.hdr
 free:=λj=>by rw[hb.frozen (p:=⟨hp,j,none⟩) h.lt h1];exact h.free j
 lt:=by have:=hb.size;have:=h.lt;omega
 ne:=h.ne
 row:=yAg h.row hb (λk q=>by simp[Value.ownBlock]at q;subst q;exact h2)
 own:=h.own
 cur:=λc hc=>(h.cur c hc).chg hb (h3 c hc) (λq=>by have:=h4 _ q;have:=h.low c hc;omega)
 low:=h.low
 high:=h.high
variable {A:Nat->Ent->Prop} {N:Nat}
theorem yFi.chg{T:Nat->Prop}(h:yFi A N S hp base g cap w P d)(hb:Chg T w w')(hST:∀k,S k->¬T k)(h4:∀k,T k->base<=k):yFi A N S hp base g cap w' P d:=
 {h with mem:=h.mem.chg hb (hST _ h.inH) (hST _ h.inG) (λc hc=>hST _ (h.inC c hc)) h4}
structure GInv(A:Nat->Ent->Prop)(N:Nat)(S:Nat->Prop)(hp g cap mb:Nat)(W:World)(w:World)(P:List (Nat×Ent))(d:Array Cu)(c:ByteArray×ByteArray×ByteArray):Prop where
 heap:yFi A N S hp W.heap.size g cap w P d
 mst:MSt S W.heap.size mb P w c
 last:Last P c
 below:Below W.heap.size W w
 inS:∀k,S k->k<w.heap.size
 lowS:∀k,S k->W.heap.size<=k
 short:N<=1048576
theorem GInv.below'{c:ByteArray×ByteArray×ByteArray}(h:GInv A N S hp g cap mb W w P d c)(hb:Below w.heap.size w w'):GInv A N S hp g cap mb W w' P d c:=
 ⟨{h.heap with mem:=h.heap.mem.below hb},h.mst.below hb,h.last,h.below.trans (hb.mono h.below.size),λk q=>by have:=h.inS k q;have:=hb.size;omega,h.lowS,h.short⟩
theorem Flow.len{l:List (Nat×List Ent)}(h:Flow A N P l):P.length<=N:=by have:=h.count;omega
theorem yV8{c:Cu}{t:List Cu}{co:ByteArray×ByteArray×ByteArray}(h:GInv A N S hp g cap mb W w P ⟨c::t⟩ co):
  Calls prog 90 #[.pointer (some ⟨mb,0,none⟩),.agg #[.string c.head.row,.string c.head.fam,.string c.head.qual,.int .u64 c.head.ts,.int .i64 c.head.kind,.string c.head.val],.int .i64 c.age] w λr w'=>
   r=.returned (.tuple #[])/\yFi A N S hp W.heap.size g cap w' P ⟨c::t⟩/\MSt S W.heap.size mb (P++ [(c.age,c.head)]) w' c.head.col/\Below W.heap.size W w'/\w.heap.size<=w'.heap.size:=by
 obtain⟨dv,ds,dec,ts,cg,cc,L,hR⟩:=h.mst;have a0:=yMs h.heap.heap (λx hx=>(h.heap.mem.cur x (by simpa using hx)).here) h.heap.flow;refine(yTh S W.heap.size mb P co dv ds dec ts cg cc L c.age c.head w hR h.last h.heap.flow.sorted a0.1 h.inS h.below.size (Nat.le_trans h.heap.flow.len h.short)).mono ?_;rintro e w' ⟨he,hm,hc⟩;have y:∀k,Mine mb dv cg k->W.heap.size<=k:=λk q=>(hR.at_.low k q).1;exact⟨he,h.heap.chg hc (λk hk q=>hR.out k q hk) y,hm,Chg.below h.below hc h.below.size y,hc.size⟩
theorem yWa{c:Cu}{t:List Cu}(h:yFi A N S hp W.heap.size g cap w P ⟨c::t⟩)(hm:MSt S W.heap.size mb (P++ [(c.age,c.head)]) w c.head.col)(hb:Below W.heap.size W w)(hi:∀k,S k->k<w.heap.size)(hl:∀k,S k->W.heap.size<=k)(hn:N<=1048576):
  Calls prog 91 #[.pointer (some ⟨hp,0,none⟩)] w λe w'=>e=.returned (.tuple #[])/\∃d',GInv A N S hp g cap mb W w' (P++ [(c.age,c.head)]) d' c.head.col:=by
 refine(yTj A N S hp W.heap.size g cap w P c t h).mono ?_;rintro e w' ⟨he,d',hH,hC⟩;exact⟨he,d',⟨hH,hm.chg hC,yUm P c.age c.head,Chg.below hb hC hb.size hl,λk q=>by have:=hi k q;have:=hC.size;omega,hl,hn⟩⟩
theorem xBw(w:World)(cg:Nat)(base:Nat)(hb:base<=w.heap.size)(hc:OwnC w base cg 0 [])(hn:cg<w.heap.size):
  MgAt (w.alloc (Obj.cells #[.string ⟨#[]⟩,.string ⟨#[]⟩,.string ⟨#[]⟩,.slice none 0 0,.bool false,.int .u64 0,.slice (some ⟨cg,0,none⟩) 0 0] 144)) base w.heap.size (⟨#[]⟩,⟨#[]⟩,⟨#[]⟩) (.slice none 0 0) [] false 0 cg 0 [] where
 own:=World.ownsRow_lit (base:=base) (e:=144) (size:=7) w #[.string ⟨#[]⟩,.string ⟨#[]⟩,.string ⟨#[]⟩,.slice none 0 0,.bool false,.int .u64 0,.slice (some ⟨cg,0,none⟩) 0 0] 1 hb (by decide) rfl
 dels:=⟨rfl,.inl ⟨rfl,rfl⟩⟩
 cells:=hc.below (qB) hn
theorem OwnH.mono{base':Nat}(h:OwnH w base g cap d)(hb:base'<=base):OwnH w base' g cap d:=by exact yM5
theorem ySm{lo:ByteArray}{w3 w4:World}{b off:Nat}(hR:yB5 W b off l)(hG:yAl (esM l))(k3:Below W.heap.size W w3)(hM:MgAt w3 W.heap.size mb (⟨#[]⟩,⟨#[]⟩,⟨#[]⟩) (.slice none 0 0) [] false 0 cg 0 [])
  (hrow:yO6 w4 w3.heap.size g cp d) (hh':Heap d) (ho:yD8 l lo hh hi l.length d.toList) (hb4:Below w3.heap.size w3 w4):
  ∃(A:Nat->Ent->Prop)(N:Nat)(S:Nat->Prop),GInv A N S w4.heap.size g cp mb W (w4.alloc (Obj.cells #[.slice (some ⟨g,0,none⟩) d.size cp] 146)) [] d (⟨#[]⟩,⟨#[]⟩,⟨#[]⟩)/\(∀P L,Flow A N P []->Shown P L->Mrg (esM l) (inR lo hh hi) L):=by
 have y:Below w4.heap.size w4 (w4.alloc (Obj.cells #[.slice (some ⟨g,0,none⟩) d.size cp] 146)):=qB;have a5:(w4.alloc (Obj.cells #[.slice (some ⟨g,0,none⟩) d.size cp] 146)).heap.size=w4.heap.size+1:=by simp
 have s3:=k3.size;have s4:=hb4.size;have a3:=hrow.row.lt;have a4:∀j,(w4.alloc (Obj.cells #[.slice (some ⟨g,0,none⟩) d.size cp] 146)).frozen? ⟨w4.heap.size,j,none⟩=false:=λj=>
  World.ownsRow.frozenAt (World.ownsRow_lit (base:=0) (e:=146) (size:=1) w4 #[.slice (some ⟨g,0,none⟩) d.size cp] 1 (zero_le _) (by decide) rfl) j
 have a0:∀k,Mine mb (.slice none 0 0) cg k->k<w3.heap.size:=λk q=>(hM.low k q).2;refine⟨_,_,λk=>k=g\/k=w4.heap.size\/∃c∈d,k=c.blk,⟨⟨?_,hh',yU8 ho,ho.blks,.inl rfl,.inr (.inl rfl),λc hc=>.inr (.inr ⟨c,hc,rfl⟩),?_⟩,⟨.slice none 0 0,[],false,0,cg,0,[],?_⟩,yWt _,?_,?_,?_,?_⟩,?_⟩
 .exact {
   hdr:=by simp
   free:=a4
   lt:=by omega
   ne:=by omega
   row:=OwnH.mono (hrow.row.below y a3.2) s3
   own:=by omega
   cur:=λc hc=>(hrow.cur c hc).below y
   low:=λc hc=>by
    obtain⟨r,hr,q⟩:=ho.src c (by simpa using hc)
    obtain⟨i,hi⟩:=getElem?_of_mem hr
    have:=(hR i r hi).2.lt
    omega
   high:=λc hc=>by
    have h1:=hrow.high c hc
    have h2:=(hrow.cur c hc).lt
    exact⟨by omega,h1.2,by omega⟩}
 .have h1:=ho.few;have h2:=hG.1;simp at h1 h2;omega
 .refine⟨(hM.below hb4).below y,yYx _ _,yTp,?_,by simp⟩;intro k q;have h1:=a0 k q;rintro(q|q|⟨c,hc,q⟩)
  .omega
  .omega
  .have h2:=(hrow.high c hc).1;omega
 .exact(k3.trans (hb4.mono s3)).trans (y.mono (by omega))
 .rintro k (q|q|⟨c,hc,q⟩)
  .omega
  .omega
  .have h2:=(hrow.cur c hc).lt;omega
 .rintro k (q|q|⟨c,hc,q⟩)
  .omega
  .omega
  .have h2:=(hrow.high c hc).1;omega
 .have h1:=ho.sum;have h2:=hG.1;simp at h2;omega
 .intro P L hF hS;exact yTq hS hF.done
theorem yEq(b off cap:Nat)(l:List Rm)(lo hi:ByteArray)(hh:Bool)(w:World)(hR:yB5 w b off l)(hok:okM l)(hB:b<w.heap.size)(hlen:l.length<=1048576):
  Calls prog 41 #[.slice (some ⟨b,off,none⟩) l.length cap,.agg #[.string lo,.bool hh,.string hi]] w λr w'=>
   ∃(g cp:Nat)(L:List Ent),r=.returned (.slice (some ⟨g,0,none⟩) L.length cp)/\OwnC w' w.heap.size g cp L/\Below w.heap.size w w'/\yBo (esM l) (inR lo hh hi) L:=by
 have HR:Hid (yB5 w b off l):=hR;have HO:Hid (okM l):=hok;clear hR hok;obtain⟨Wa,a0⟩:=qE (w.alloc (Obj.cells #[.string lo,.bool hh,.string hi] 30):World);have ai:Below w.heap.size w Wa:=by rw[a0];exact qB
 have aA:Wa.heap.size=w.heap.size+1:=by rw[a0];simp
 have ab:Hid (Wa.cell? ⟨w.heap.size,0,none⟩=some (.string lo)/\Wa.cell? ⟨w.heap.size,1,none⟩=some (.bool hh)/\Wa.cell? ⟨w.heap.size,2,none⟩=some (.string hi)):=by refine⟨?_,?_,?_⟩<;>(rw[a0];simp)
 have au:Hid (yB5 Wa b off l):=HR.below ai hB;go_enter func41,ntmps41;go_wp2_with fail;rw[<-a0];clear a0;refine(yI1 b off cap l _ au.out HO.out (by omega) hlen).mono ?_;rintro e w1 ⟨r,rfl,hr,hb1⟩;have HG:Hid (r=true↔yAl (esM l)):=hr;clear hr;have aC:=hb1.size;have k1:Below w.heap.size w w1:=ai.trans (hb1.mono (by omega));cases r
 .have HN:Hid (¬yAl (esM l)):=λh=>Bool.noConfusion (HG.2 h);have HC:Hid (OwnC (w1.alloc (Obj.cells #[] 73)) w.heap.size w1.heap.size 0 []):=(yMb w1).mono (by omega);go_wp2_with fail;go_ret;exact⟨_,0,[],rfl,HC.out,k1.alloc (by omega) _,λh=>absurd h HN.out,λ_=>rfl⟩
 have aa:Hid (yAl (esM l)):=HG.1 rfl;clear HG;obtain⟨W2,a4⟩:=qE (w1.alloc (Obj.cells #[] 73):World);have hb2:Below w1.heap.size w1 W2:=by rw[a4];exact qB
 have ao:W2.heap.size=w1.heap.size+1:=by rw[a4];simp
 have az:Hid (OwnC W2 w.heap.size w1.heap.size 0 []):=by show OwnC W2 w.heap.size w1.heap.size 0 [];rw[a4];exact(yMb w1).mono (by omega)
 obtain⟨W3,a3⟩:=qE (W2.alloc (Obj.cells #[.string ⟨#[]⟩,.string ⟨#[]⟩,.string ⟨#[]⟩,.slice none 0 0,.bool false,.int .u64 0,.slice (some ⟨w1.heap.size,0,none⟩) 0 0] 144):World);have hb3:Below W2.heap.size W2 W3:=by rw[a3];exact qB
 have aB:W3.heap.size=W2.heap.size+1:=by rw[a3];simp
 have aw:Hid (MgAt W3 w.heap.size (w1.heap.size+1) (⟨#[]⟩,⟨#[]⟩,⟨#[]⟩) (.slice none 0 0) [] false 0 w1.heap.size 0 []):=by show MgAt W3 _ _ _ _ _ _ _ _ _ _;rw[a3,<-ao];exact xBw W2 w1.heap.size w.heap.size (by omega) az.out (by omega)
 have ac:Below w1.heap.size w1 W3:=hb2.trans (hb3.mono (by omega));have k3:Below w.heap.size w W3:=k1.trans (ac.mono (by omega));have av:Hid (yB5 W3 b off l):=HR.below k3 hB;have ax:Hid (W3.cell? ⟨w.heap.size,0,none⟩=some (.string lo)/\W3.cell? ⟨w.heap.size,1,none⟩=some (.bool hh)/\W3.cell? ⟨w.heap.size,2,none⟩=some (.string hi)):=by
  have hy:Below Wa.heap.size Wa W3:=hb1.trans (ac.mono (by omega));refine⟨?_,?_,?_⟩
  .rw[hy.cell (p:=⟨w.heap.size,0,none⟩) (by show w.heap.size<Wa.heap.size;omega)];exact ab.1
  .rw[hy.cell (p:=⟨w.heap.size,1,none⟩) (by show w.heap.size<Wa.heap.size;omega)];exact ab.2.1
  .rw[hy.cell (p:=⟨w.heap.size,2,none⟩) (by show w.heap.size<Wa.heap.size;omega)];exact ab.2.2
 have s3:=k3.size;go_upto_region 4 with fail;rw[<-a4,<-a3];clear a4 a3;generalize w1.heap.size+1=mb at*;obtain⟨q0,q1,q2⟩:=ax.out;go_wp2_with fail;refine(yIn b off cap l lo hi hh _ av.out aa.out (by omega)).mono ?_;rintro e w4 ⟨g,cp,d0,rfl,ad,af,ae,ar⟩;obtain⟨A,N,S,am,ag⟩:=ySm HR.out aa.out k3 aw.out ad af ae ar;have a9:Hid (GInv A N S w4.heap.size g cp mb w (w4.alloc (Obj.cells #[.slice (some ⟨g,0,none⟩) d0.size cp] 146)) [] d0 (⟨#[]⟩,⟨#[]⟩,⟨#[]⟩)):=am;have ay:Hid (∀P L,Flow A N P []->Shown P L->Mrg (esM l) (inR lo hh hi) L):=ag;clear ad af ae am ag q0 q1 q2;obtain⟨W5,a8⟩:=qE (w4.alloc (Obj.cells #[.slice (some ⟨g,0,none⟩) d0.size cp] 146):World);rw[<-a8]at a9;go_wp2_with fail;rw[<-a8];clear a8;generalize w4.heap.size=hp at*;go_loopg[] (N+1) (λkx wr=>∃(P:List (Nat×Ent))(d:Array Cu)(c:ByteArray×ByteArray×ByteArray),N-P.length<=kx/\GInv A N S hp g cp mb w wr P d c);case atStart=>exact⟨[],d0,_,by simp,a9.out⟩
 case round=>
  obtain⟨P,d,co,aD,hI⟩:=hrel;have HI:Hid (GInv A N S hp g cp mb w wr P d co):=hI;clear hI a9;have c0:=HI.heap.mem.hdr;by_cases hd:d.size=0
  .have ah:d=#[]:=Array.eq_empty_of_size_eq_zero hd;obtain⟨dv,ds,dec,ts,cg,cc,L,a6⟩:=HI.mst;have c6:=a6.at_.cell.2.2.2.2.2.2.1;have HF:Hid (OwnC wr w.heap.size cg cc L/\Below w.heap.size w wr/\yBo (esM l) (inR lo hh hi) L):=by refine⟨a6.at_.cells,HI.below,λ_=>ay.out P L ?_ a6.shown,λh=>absurd aa.out h⟩;have:=HI.heap.flow;rw[ah]at this;exact this
   rw[hd]at c0;clear a6 ah hd;go_wp2_with fail;refine(yG2 _ _ _ _).mono ?_;rintro e wx ⟨rfl,rfl⟩;go_wp2_with fail;go_ret;exact⟨cg,cc,L,rfl,HF.1,HF.2.1,HF.2.2⟩
  .obtain⟨c,t,rfl⟩:∃c t,d=(⟨c::t⟩:Array Cu):=by
    obtain⟨dl⟩:=d;cases dl with
    |nil=>exact absurd rfl hd
    |cons c t=>exact⟨c,t,rfl⟩
   have aF:wr.cell? ⟨hp,0,none⟩=some (.slice (some ⟨g,0,none⟩) (t.length+1) cp):=c0;have aE:wr.cell? ⟨g,0,none⟩=some (ifc c):=HI.heap.mem.row.cell (i:=0) (by simp);have HC:Hid (CuAt wr c):=HI.heap.mem.cur c (by simp);have aG:P.length+1<=N:=by have:=(yMs HI.heap.heap (λx hx=>(HI.heap.mem.cur x (by simpa using hx)).here) HI.heap.flow).2.len;simpa using this
   clear c0 hd;go_wp2_with fail;refine(yG2 _ _ _ _).mono ?_;rintro e wx ⟨rfl,rfl⟩;have zt:(0:Int)<((t.length+1:Nat):Int):=by omega
   have mE:=yK5;have mA:=yQz;go_upto_region 6 with fail
   go_region_held3 (λw'=>w'.cell? ⟨hp,0,none⟩=some (.slice (some ⟨g,0,none⟩) (t.length+1) cp)/\w'.cell? ⟨g,0,none⟩=some (.iface 230 (.pointer (some ⟨c.blk,0,none⟩)))) (go_keep)
    ((first
      |(go_at_call 320;refine(yLg c _ (HC.below ((Below.refl _ _).drew))).mono ?_;rintro e' w6 ⟨rfl,aq⟩;have y:Below wx.heap.size wx w6:=((Below.refl wx.heap.size wx).drew).trans aq;have y0:=(HI.below' y).heap.mem.hdr;have y1:w6.cell? ⟨g,0,none⟩=some (.iface 230 (.pointer (some ⟨c.blk,0,none⟩))):=(HI.below' y).heap.mem.row.cell (i:=0) (by simp))
      |(go_at_call 319;refine(yRh c _ (HC.below y)).mono ?_;rintro e' w7 ⟨rfl,hb7⟩;have a5:Below wx.heap.size wx w7:=y.trans (hb7.mono y.size);have y2:=(HI.below' a5).heap.mem.hdr;have y3:w7.cell? ⟨g,0,none⟩=some (.iface 230 (.pointer (some ⟨c.blk,0,none⟩))):=(HI.below' a5).heap.mem.row.cell (i:=0) (by simp))
      |(go_at_call 90;refine(yV8 (HI.below' a5)).mono ?_;rintro e' w8 ⟨rfl,a7,al,an,aj⟩;have y4:=a7.mem.hdr;have y5:w8.cell? ⟨g,0,none⟩=some (.iface 230 (.pointer (some ⟨c.blk,0,none⟩))):=a7.mem.row.cell (i:=0) (by simp);have H8:Hid (yFi A N S hp w.heap.size g cp w8 P ⟨c::t⟩/\MSt S w.heap.size mb (P++ [(c.age,c.head)]) w8 c.head.col/\Below w.heap.size w w8/\wx.heap.size<=w8.heap.size):=⟨a7,al,an,Nat.le_trans a5.size aj⟩;clear a7 al an aj)))
   go_wp2_with fail;refine(yWa H8.1 H8.2.1 H8.2.2.1 (λk q=>by have:=HI.inS k q;have:=H8.2.2.2;omega) HI.lowS HI.short).mono ?_;rintro e' w9 ⟨rfl,d',ak⟩;have H9:Hid (GInv A N S hp g cp mb w w9 (P++ [(c.age,c.head)]) d' c.head.col):=ak;clear ak;go_wp2_with fail;go_roundg (N-(P.length+1));case measure=>omega
   case rel=>exact⟨P++ [(c.age,c.head)],d',c.head.col,by simp,H9.out⟩
def xCl(rs:List (List Ent))(R:List Ent):Prop:=∃L,yBo rs (inR ⟨#[]⟩ false ⟨#[]⟩) L/\((10000<L.length/\R= [])\/(L.length<=10000/\R=L.map putE))
theorem yEw(h:Ord L):L.Nodup:=by refine List.Pairwise.imp ?_ h;rintro a b y rfl;have:yAc a a=0:=yBw.2 (by simp);omega
theorem yBr:∀{L M:List Ent},L.Nodup->(∀x∈L,x∈M)->L.length<=M.length
 | [],_,_,_=>zero_le _
 |x::L,M,h,hs=>by
  obtain⟨a,b,rfl⟩:=List.append_of_mem (hs x (by simp))
  have hx:=List.nodup_cons.1 h
  have ih:=yBr (L:=L) (M:=a++b) hx.2 (λy hy=>by
   have:=hs y (mem_cons_of_mem _ hy)
   simp only[List.mem_append,mem_cons]at this|-
   rcases this with q|rfl|q
   .exact .inl q
   .exact absurd hy hx.1
   .exact .inr q)
  simp only[length_append,length_cons]at ih|-
  omega
theorem yY2(r:ByteArray):inR ⟨#[]⟩ false ⟨#[]⟩ r=true:=by
 have h:(⟨#[]⟩:ByteArray).toList= []:=by rw[ByteArray.toList_eq]
 unfold inR;rw[h];cases r.toList<;>simp[Op.bytesLess]
theorem yYo{x:Ent}(h:x.kind=0):putE x=x:=by
 cases x
 simp[putE]at h|-;exact h.symm
theorem yJj(h:∀x∈L,x.kind=0):L.map putE=L:=by
 induction L with
 |nil=>rfl
 |cons a r ih=>rw[map_cons,yYo (h a (by simp)),ih (λx hx=>h x (mem_cons_of_mem _ hx))]
variable {rs:List (List Ent)}
theorem yP4(hG:yAl rs)(h:Mrg rs (inR ⟨#[]⟩ false ⟨#[]⟩) L)(hn:L.length<=10000):yAp L:=by exact xA3
theorem ySj{R:List Ent}(h:yAp R):yAl [R]:=⟨by simp,λes he=>by simp at he;subst he;exact h⟩
abbrev allR:ByteArray->Bool:=inR ⟨#[]⟩ false ⟨#[]⟩
def yBi(L:List Ent):List (List Ent):=if L.length=0 then []else [L.map putE]
def yNr(ts:List Tb)(i:Nat)(a:Tb)(L:List Ent):List Tb:=ts.take i++ [⟨a.lo,yBi L⟩]++ts.drop (i+1)
def CmsT(ts:List Tb)(row:ByteArray)(out:List Tb):Prop:=
 (¬GoodS ts/\out=ts)\/∃i a L,GoodS ts/\yBp ts row i/\ts[i]?=some a/\yBo a.rs allR L/\((10000<L.length/\out=ts)\/(L.length<=10000/\out=yNr ts i a L))
theorem yQ9{ts:List Tb}{row:ByteArray}(h:¬GoodS ts):CmsT ts row ts:=.inl ⟨h,rfl⟩
theorem yOr{ts:List Tb}{row:ByteArray}{a:Tb}(hg:GoodS ts)(hi:yBp ts row i)(ha:ts[i]?=some a)(hm:yBo a.rs allR L)(hl:10000<L.length):CmsT ts row ts:=.inr ⟨i,a,L,hg,hi,ha,hm,.inl ⟨hl,rfl⟩⟩
theorem yOs{ts:List Tb}{row:ByteArray}{a:Tb}(hg:GoodS ts)(hi:yBp ts row i)(ha:ts[i]?=some a)(hm:yBo a.rs allR L)(hl:L.length<=10000):CmsT ts row (yNr ts i a L):=.inr ⟨i,a,L,hg,hi,ha,hm,.inr ⟨hl,rfl⟩⟩
theorem yVh{ts:List Tb}{row:ByteArray}{o1 o2:List Tb}(h:CmsT ts row o1)(k:CmsT ts row o2):o1=o2:=by
 rcases h with⟨g1,rfl⟩|⟨i,a,L,g1,hi,ha,hm,h⟩<;>rcases k with⟨g2,rfl⟩|⟨j,b,M,g2,hj,hb,hn,k⟩
 .rfl
 .exact absurd g2 g1
 .exact absurd g1 g2
 .have:=yE0 hi hj;subst this;rw[ha]at hb;cases hb
  have:=yK4 hm hn;subst this;rcases h with⟨h1,rfl⟩|⟨h1,rfl⟩<;>rcases k with⟨k1,rfl⟩|⟨k1,rfl⟩
  .rfl
  .omega
  .omega
  .rfl
theorem yQl:∀(rs:List (List Ent)),szR rs=rs.length+rs.flatten.length
 | []=>rfl
 |e::rs=>by
  have:=yQl rs
  simp only[szR,length_cons,flatten_cons,length_append]
  omega
theorem yT4(h:yBo rs allR L):szR (yBi L)<=szR rs:=by
 unfold yBi;split
 .exact zero_le _
 .rename_i hL;have h0:L.length<=rs.flatten.length:=by
   by_cases g:yAl rs
   .exact yBr (yEw (h.1 g).1) (yMe (h.1 g))
   .rw[h.2 g];exact zero_le _
  have h1:=yQl rs;have h2:0<rs.length:=by
   rcases rs with _|⟨e,rs⟩
   .simp at h0;simp[h0]at hL
   .simp
  simp only[szR,length_map];omega
theorem yZe{ts out:List Tb}{row:ByteArray}(h:CmsT ts row out):szB out<=szB ts/\out.length<=ts.length:=by
 rcases h with⟨g1,rfl⟩|⟨i,a,L,g1,hi,ha,hm,⟨_,rfl⟩|⟨_,rfl⟩⟩
 .exact⟨Nat.le_refl _,Nat.le_refl _⟩
 .exact⟨Nat.le_refl _,Nat.le_refl _⟩
 .have h1:ts=ts.take i++a::ts.drop (i+1):=by
   obtain⟨h1,h2⟩:=List.getElem?_eq_some_iff.1 ha;rw[<-h2];conv=>lhs;rw[<-take_append_drop i ts]
   congr 1;rw[drop_eq_getElem_cons h1]
  have h2:=congrArg szB h1;have h3:=congrArg List.length h1;have h4:=yT4 hm;rw[yBk]at h2;simp only[szB,length_append,length_cons]at h2 h3;unfold yNr;rw[yBk,yBk];simp only[szB,length_append,length_cons,length_nil];omega
abbrev yJm(ts:List Tb)(i:Nat)(a:Tb)(ws:List Ent):List Ent:=inP a.lo (hasN ts i) (hiN ts i) ws
def TabW(p:List Ent)(a o:Tb):Prop:=(p.length=0/\o=a)\/(0<p.length/\∃R,Kept p p.length R/\o=⟨a.lo,R::a.rs⟩)
def yXp(ts:List Tb)(ws:List Ent):Prop:=∃i a,ts[i]?=some a/\0<(yJm ts i a ws).length/\a.rs.length=50
def WrT(ts:List Tb)(ws:List Ent)(out:List Tb):Prop:=
 (¬(GoodS ts/\yEt ws)/\out=ts)\/(GoodS ts/\yEt ws/\((yXp ts ws/\out=ts)\/(¬yXp ts ws/\out.length=ts.length/\∀i a o,ts[i]?=some a->out[i]?=some o->TabW (yJm ts i a ws) a o)))
def cntP(lo:ByteArray)(hh:Bool)(hi:ByteArray)(ess:List (List Ent)):Nat:=((ess.map (inP lo hh hi)).flatten).length
theorem yT9{lo:ByteArray}(h:yBo rs (inR lo hh hi) L):L.length<=cntP lo hh hi rs:=by
 by_cases g:yAl rs
 .refine yBr (yEw (h.1 g).1) (λx hx=>?_);obtain⟨i,j,⟨es,h1,h2⟩,_,hr,_⟩:=((h.1 g).2 x).1 hx;exact List.mem_flatten.2 ⟨inP lo hh hi es,List.mem_map.2 ⟨es,mem_of_getElem? h1,rfl⟩,List.mem_filter.2 ⟨mem_of_getElem? h2,hr⟩⟩
 .rw[h.2 g];exact zero_le _
theorem yVf{lo:ByteArray}(h:l[k]?=some r):cntP lo hh hi (esM (l.take (k+1)))=cntP lo hh hi (esM (l.take k))+(inP lo hh hi r.es).length:=by unfold cntP esM;rw[take_add_one,h];simp only[Option.toList_some,map_append,map_cons,map_nil,flatten_append,length_append,flatten_cons,List.flatten_nil,append_nil]
theorem yVg(lo hi:ByteArray)(hh:Bool):∀(l:List Rm),(∀r∈l,yAp r.es)->cntP lo hh hi (esM l)<=l.length*10000
 | [],_=>zero_le _
 |r::l,h=>by
  have h1:=yVg lo hi hh l (λx hx=>h x (mem_cons_of_mem _ hx))
  have h2:=(h r (by simp)).1.1
  have h3:(inP lo hh hi r.es).length<=r.es.length:=List.length_filter_le _ _
  unfold cntP esM at h1|-
  simp only[map_cons,flatten_cons,length_append,length_cons,Nat.succ_mul]
  omega
def xCh(w:World)(ess:List (List Ent))(inr:ByteArray->Bool)(e:Ending)(w':World):Prop:=∃r:Bool,e=.returned (.bool r)/\(∀L,yBo ess inr L->(r=true↔10000<L.length))/\(r=true->∃L,yBo ess inr L/\10000<L.length)/\Below w.heap.size w w'
theorem yGw(lo0:ByteArray)(b off cap:Nat)(l:List Rm)(lo hi:ByteArray)(hh:Bool)(w:World)(h:yB5 w b off l)(hok:okM l)(hB:b<w.heap.size)(hn:l.length<=1048576)(hg:∀r∈l,yAp r.es):
  Calls prog 66 #[.agg #[.string lo0,.slice (some ⟨b,off,none⟩) l.length cap],.agg #[.string lo,.bool hh,.string hi]] w λe w'=>xCh w (esM l) (inR lo hh hi) e w':=by
 obtain⟨Wa,y⟩:=qE ((w.alloc (Obj.cells #[.string lo0,.slice (some ⟨b,off,none⟩) l.length cap] 56)).alloc (Obj.cells #[.string lo,.bool hh,.string hi] 30):World);have a6:Below w.heap.size w Wa:=by rw[y];exact(qB).alloc (by simp) _
 have af:Wa.heap.size=w.heap.size+1+1:=by rw[y];simp
 have HC:Hid (∀wx,Below Wa.heap.size Wa wx->wx.cell? ⟨w.heap.size,1,none⟩=some (.slice (some ⟨b,off,none⟩) l.length cap)/\wx.cell? ⟨w.heap.size+1,0,none⟩=some (.string lo)/\wx.cell? ⟨w.heap.size+1,1,none⟩=some (.bool hh)/\wx.cell? ⟨w.heap.size+1,2,none⟩=some (.string hi)/\yB5 wx b off l/\b<wx.heap.size):=by
  intro wx hx;have sx:=hx.size;refine⟨?_,?_,?_,?_,h.below (a6.trans (hx.mono (by omega))) hB,by omega⟩
  .rw[hx.cell (p:=⟨w.heap.size,1,none⟩) (by show w.heap.size<Wa.heap.size;omega),y];simp[go_sem]
  .rw[hx.cell (p:=⟨w.heap.size+1,0,none⟩) (by show w.heap.size+1<Wa.heap.size;omega),y];simp[go_sem]
  .rw[hx.cell (p:=⟨w.heap.size+1,1,none⟩) (by show w.heap.size+1<Wa.heap.size;omega),y];simp[go_sem]
  .rw[hx.cell (p:=⟨w.heap.size+1,2,none⟩) (by show w.heap.size+1<Wa.heap.size;omega),y];simp[go_sem]
 have HG:Hid ((∀r∈l,yAp r.es)/\okM l):=⟨hg,hok⟩;clear h hg hok;obtain⟨c0,_⟩:=HC.out Wa (Below.refl _ _);go_enter func66,ntmps66;go_upto_region 1 with fail;rw[<-y];clear y;go_wp2_with fail;go_loopw[5,11] (λo i wr=>∃(k c:Nat),k<=l.length/\i=.int .i64 k/\o=.int .i64 c/\Hid (c=cntP lo hh hi (esM (l.take k)))/\Below Wa.heap.size Wa wr) (λ_ i _=>l.length-(intOf i).toNat);case atStart=>exact⟨0,0,zero_le _,rfl,rfl,rfl,Below.refl _ _⟩
 case round=>
  obtain⟨k,c,hk,rfl,rfl,a4,hb⟩:=hrel;have ah:c<=1048576*10000:=by
   have h1:=yVg lo hi hh (l.take k) (λr hr=>HG.1 r (List.mem_of_mem_take hr));have h2:(l.take k).length<=1048576:=by rw[length_take];omega
   have h3:=mul_le_mul_right 10000 h2;have:=a4.out;omega
  have a7:=hb.size;by_cases hlt:k<l.length
  .obtain⟨r,hr⟩:∃r,l[k]?=some r:=⟨_,getElem?_eq_getElem hlt⟩;have HD:Hid (l[k]?=some r/\yAp r.es):=⟨hr,HG.1 r (mem_of_getElem? hr)⟩;obtain⟨_,_,_,_,a0,_⟩:=HC.out wr hb;obtain⟨c0,_⟩:=a0 k r hr;clear hr a0;have zk:(k:Int)<(l.length:Int):=by omega
   obtain⟨W1,a3⟩:=qE (wr.alloc (Obj.cells #[.slice (some ⟨r.b,r.off,none⟩) r.es.length r.cap] 60):World);have hb1:Below wr.heap.size wr W1:=by rw[a3];exact qB
   have k1:Below Wa.heap.size Wa W1:=hb.trans (hb1.mono a7);have cr:W1.cell? ⟨wr.heap.size,0,none⟩=some (.slice (some ⟨r.b,r.off,none⟩) r.es.length r.cap):=by rw[a3];simp
   obtain⟨_,e0,e1,e2,a8,_⟩:=HC.out W1 k1;have ae:Hid (r.at W1):=(a8 k r HD.1).2;clear a8;go_upto_region 5 with fail;rw[<-a3];clear a3;go_wp2_with fail;refine(yEr r lo hi hh _ ae.out HD.2).mono ?_;rintro e v1 ⟨p,rfl,aa,a5,ab⟩;have a9:Below Wa.heap.size Wa v1:=k1.trans (ab.mono k1.size);have ag:p.es.length<=10000:=by have h1:=a5.len;have h2:=HD.2.1.1;omega
   have HN:Hid (c+p.es.length=cntP lo hh hi (esM (l.take (k+1)))):=by show _=_;rw[yVf HD.1,<-a4.out,yCm a5 HD.2]
   clear aa a5 cr e0 e1 e2 c0;go_wp2_with fail;go_roundw;case rel=>
    go_light;exact⟨k+1,c+p.es.length,by omega,by go_num,by go_num,HN,a9⟩
   case measure=>go_light;simp[intOf];omega
  .have zk:¬(k:Int)<(l.length:Int):=by omega
   have HE:Hid (c=cntP lo hh hi (esM l)):=by have h1:=a4.out;rw[take_of_length_le (by omega)]at h1;exact h1
   clear a4;obtain⟨d0,d1,d2,d3,a0,ac⟩:=HC.out wr hb;have HA:Hid (yB5 wr b off l):=a0;clear a0;by_cases hc:10000<c
   .have zc:(10000:Int)<(c:Int):=by omega
    go_wp2_with fail;refine(yEq b off cap l lo hi hh _ HA.out HG.2 ac hn).mono ?_;rintro e v2 ⟨g,cp,L,rfl,ad,hb2,hM⟩;have HM:Hid (yBo (esM l) (inR lo hh hi) L):=hM;have HB:Hid (Below w.heap.size w v2):=a6.trans ((hb.trans (hb2.mono a7)).mono (by omega));clear ad hM hb2;go_wp2_with fail;go_ret;refine⟨decide ((10000:Int)<(L.length:Int)),rfl,λM hM=>?_,λq=>⟨L,HM.out,?_⟩,HB.out⟩
    .rw[yK4 hM HM.out,decide_eq_true_iff];omega
    .have:=of_decide_eq_true q;omega
   .have zc:¬(10000:Int)<(c:Int):=by omega
    go_wp2_with fail;go_ret;refine⟨false,rfl,λM hM=>?_,λq=>Bool.noConfusion q,a6.trans (hb.mono (by omega))⟩;have:=yT9 hM;have:=HE.out;simp;omega
theorem yIo(b off cap:Nat)(l:List Rm)(w:World)(h:yB5 w b off l)(ho:okM l)(hB:b<w.heap.size)(hn:l.length<=1048576):
  Calls prog 67 #[.slice (some ⟨b,off,none⟩) l.length cap] w λr w'=>
   ∃(a:Option Addr)(n c:Nat)(R:List Ent),r=.returned (.agg #[.slice a n c])/\OwnU w' w.heap.size (.slice a n c) R/\xCl (esM l) R/\Below w.heap.size w w'/\(a=none->∃L,yBo (esM l) (inR ⟨#[]⟩ false ⟨#[]⟩) L/\10000<L.length):=by
 obtain⟨i,ac,aa,a9,a8⟩:=info_parts Tryz.infoEnt;have HI:Hid (prog.info? 64=some i/\i.zero=some (.agg #[.string ⟨#[]⟩,.string ⟨#[]⟩,.string ⟨#[]⟩,.int .u64 0,.int .i64 0,.string ⟨#[]⟩])/\i.size=6/\i.bytes=80):=⟨ac,aa,a9,a8⟩;clear ac aa a9 a8;obtain⟨Wa,a0⟩:=qE (w.alloc (Obj.cells #[.slice none 0 0] 60):World);have ad:Below w.heap.size w Wa:=by rw[a0];exact qB
 have ar:Wa.heap.size=w.heap.size+1:=by rw[a0];simp
 have ah:Hid (Wa.cell? ⟨w.heap.size,0,none⟩=some (.slice none 0 0)/\Wa.frozen? ⟨w.heap.size,0,none⟩=false):=by rw[a0];exact⟨by simp,World.ownsRow.frozenAt (World.ownsRow_lit (base:=0) (e:=60) (size:=1) w #[.slice none 0 0] 1 (zero_le _) (by decide) rfl) 0⟩
 have HO:Hid (yB5 Wa b off l/\okM l):=⟨h.below ad hB,ho⟩;have am:b<Wa.heap.size:=by omega
 clear h ho;go_enter func67,ntmps67;go_wp2_with fail;rw[<-a0];clear a0;refine(yEq b off cap l ⟨#[]⟩ ⟨#[]⟩ false _ HO.1 HO.2 am hn).mono ?_;rintro e w1 ⟨gc,cc,L,rfl,a6,hb1,hM⟩;have s1:=hb1.size;have k1:Below w.heap.size w w1:=ad.trans (hb1.mono (by omega));have a3:Hid (OwnC w1 Wa.heap.size gc cc L/\yBo (esM l) (inR ⟨#[]⟩ false ⟨#[]⟩) L):=⟨a6,hM⟩;have aj:=a6.lt.2;clear a6 hM;have r1:w1.cell? ⟨w.heap.size,0,none⟩=some (.slice none 0 0):=by rw[hb1.cell (p:=⟨w.heap.size,0,none⟩) (by show w.heap.size<Wa.heap.size;omega)];exact ah.1
 have f1:w1.frozen? ⟨w.heap.size,0,none⟩=false:=by rw[hb1.frozen (p:=⟨w.heap.size,0,none⟩) (by show w.heap.size<Wa.heap.size;omega)];exact ah.2
 by_cases hbig:10000<L.length
 .have zb:(10000:Int)<(L.length:Int):=by omega
  go_wp2_with fail;refine bodyPost_ret (v:=.agg #[.slice none 0 0]) (by simp[results,results67,go_sem,World.cell?_setCell_same _ _ _ r1]) rfl ⟨none,0,0,[],rfl,.inl ⟨rfl,rfl⟩,⟨L,a3.2,.inl ⟨hbig,rfl⟩⟩,?_,λ_=>⟨L,a3.2,hbig⟩⟩;exact k1.setCell (Nat.le_refl _) _
 .have zb:¬(10000:Int)<(L.length:Int):=by omega
  have ag:Hid (w1.cell? ⟨w.heap.size,0,none⟩=some (.slice none 0 0)/\w1.frozen? ⟨w.heap.size,0,none⟩=false):=⟨r1,f1⟩;clear r1 f1;go_wp2_with (at_make;refine wpList_make_own _ rfl _ _ 58 rfl w1.heap.size 64 i _ 6 underlying58 HI.1 HI.2.1 HI.2.2.1 _ _ _ L.length rfl rfl ?_ ?hb ?hm ?hs ?_);case hb=>rw[HI.2.2.2];omega
  case hm=>unfold maxLen;omega
  case hs=>exact Nat.le_refl _
  .rfl
  intro w2 ab y;have hb2:Below w1.heap.size w1 w2:=(Below.refl _ _).grown y (Nat.le_refl _) (λk hk=>by cases hk);have aq:Hid (OwnE w2 w1.heap.size w1.heap.size L.length []):=ab;clear ab y;go_wp2_with fail;go_loopw[4,19] (λo c wr=>∃(m g5 cp5:Nat),m<=L.length/\c=.int .i64 m/\o=.slice (some ⟨g5,0,none⟩) m cp5/\OwnE wr w1.heap.size g5 cp5 (yB2 L m)/\Below w1.heap.size w1 wr) (λ_ c _=>L.length-(intOf c).toNat);case atStart=>exact⟨0,_,_,zero_le _,rfl,rfl,aq.out,hb2⟩
  case round=>
   obtain⟨m,g5,cp5,hm,rfl,rfl,hE,hb⟩:=hrel;have HE:Hid (OwnE wr w1.heap.size g5 cp5 (yB2 L m)):=hE;have ak:=hE.lt;have hs:=hb.size;clear hE;by_cases hlt:m<L.length
   .obtain⟨x,hx⟩:∃x,L[m]?=some x:=⟨_,getElem?_eq_getElem hlt⟩;obtain⟨c0,c1,c2,c3,c4⟩:=(a3.1.below hb aj).at m x hx;simp only[Nat.zero_add,Nat.zero_mul]at c0 c1 c2 c3 c4;have HX:Hid (yB2 L (m+1)=yB2 L m++ [putE x]):=yJk hx;have af:Hid (m=(yB2 L m).length):=(yKx hm).symm;clear hx;have zm:(m:Int)<(L.length:Int):=by omega
    obtain⟨W3,a5⟩:=qE (wr.alloc (Obj.cells #[.string x.row,.string x.fam,.string x.qual,.int .u64 x.ts,.string x.val] 73):World);have hb3:Below wr.heap.size wr W3:=by rw[a5];exact qB
    have ai:=hb3.size;go_wp2_with fail;rw[<-a5];clear a5 c0 c1 c2 c3 c4;refine(yC3 x _).mono ?_;rintro e' w4 ⟨rfl,a4⟩;have au:=a4.size;have k4:Below wr.heap.size wr w4:=hb3.trans (a4.mono ai);have ao:Hid (OwnE w4 w1.heap.size g5 cp5 (yB2 L m)):=HE.below k4 ak.2;have a7:Below w1.heap.size w1 w4:=hb.trans (k4.mono hs);clear hb3 a4;go_wp2_with (at_builtin;refine yAo _ rfl _ _ rfl w1.heap.size g5 cp5 _ _ (yB2 L m) (putE x) rfl rfl af.out ?hO ?hc ?hl ?hb ?_);case hO=>exact ao.below (qB) (by omega)
    case hc=>exact yDj w4 (putE x)
    case hl=>rw[<-af.out];omega
    case hb=>simp;omega
    intro g' cp' w' ae y;have an:Hid (OwnE w' w1.heap.size g' cp' (yB2 L (m+1))):=by show OwnE w' w1.heap.size g' cp' (yB2 L (m+1));rw[HX.out];exact ae
    have al:Below w1.heap.size w1 w':=(a7.alloc a7.size _).grown y (by simp;omega) (λj hj=>by cases hj;omega);clear ae y;go_wp2_with fail;go_roundw;case rel=>exact⟨m+1,g',cp',by omega,by go_num,rfl,an.out,al⟩
    case measure=>go_light;simp[intOf];omega
   .have HF:Hid (OwnE wr w1.heap.size g5 cp5 (L.map putE)):=by have:=HE.out;rw[yKy (by omega)]at this;exact this
    have HM:Hid (m=L.length):=by show m=L.length;omega
    have zm:¬(m:Int)<(L.length:Int):=by omega
    have r2:wr.cell? ⟨w.heap.size,0,none⟩=some (.slice none 0 0):=by rw[hb.cell (p:=⟨w.heap.size,0,none⟩) (by show w.heap.size<w1.heap.size;omega)];exact ag.1
    have f2:wr.frozen? ⟨w.heap.size,0,none⟩=false:=by rw[hb.frozen (p:=⟨w.heap.size,0,none⟩) (by show w.heap.size<w1.heap.size;omega)];exact ag.2
    go_wp2_with fail;refine bodyPost_ret (v:=.agg #[.slice (some ⟨g5,0,none⟩) m cp5]) (by simp[results,results67,go_sem,World.cell?_setCell_same _ _ _ r2]) rfl ⟨some ⟨g5,0,none⟩,m,cp5,rfl,L.map putE,.inr ⟨g5,cp5,by rw[HM.out];simp,?_⟩,⟨L,a3.2,.inr ⟨by omega,rfl⟩⟩,?_,(λq=>by cases q)⟩
    .exact OwnE.mono (World.ownsRow.kept HF.out (yAk wr w.heap.size 0 _) (.inr (λq=>by have h2:g5=w.heap.size:=Option.some.inj q;omega))) (by omega)
    .exact(k1.trans (hb.mono (by omega))).setCell (Nat.le_refl _) _
end Go.Proofs.YtehfleefkdojpaaGreatDoor
