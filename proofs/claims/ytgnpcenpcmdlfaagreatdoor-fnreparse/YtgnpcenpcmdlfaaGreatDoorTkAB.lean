import Derived.Test.YtgnpcenpcmdlfaaGreatDoorTkAA
import Derived.Lib.Bytealg
import Derived.Lib.Slices
import Derived.Lib.Walk
import Derived.Laws.Tables
import Derived.Laws.Rows
import Derived.Deep.WholeRow
import Derived.Test.YtgnpcenpcmdlfaaGreatDoorRows
import Derived.Deep.DeepCutAuto
import Derived.Deep.RegionWith
import Derived.Deep.RegionHeld3
namespace Go.Proofs.YtgnpcenpcmdlfaaGreatDoor
open Go.ChangeShapes Go.WideShapes Go.ChangeAt Go.RowKit Go.Deep
set_option linter.unusedVariables false
set_option linter.unusedSimpArgs false
set_option maxRecDepth 100000
set_option maxHeartbeats 32000000
abbrev pfV (c a:Int):Value:=.iface 46 (.agg #[.int .i64 c,.int .i64 a])
abbrev Pf (c a:Int):Ending:=.panicked [{v:=pfV c a,recovered:=false}]
abbrev sb (s:ByteArray):List UInt8:=s.data.toList
theorem yAn (s:ByteArray):(sb s).length=s.size:=by simp[sb]
variable {i:Nat}
theorem yD4 {s:ByteArray} {x:UInt8} (h:(sb s)[i]?=some x):∃hi:i<s.size,s[i]=x:=by have hi:=(List.getElem?_eq_some_iff.1 h).1;rw[yAn]at hi;refine⟨hi,?_⟩;rw[List.getElem?_eq_getElem (by rw[yAn];exact hi)]at h;exact Option.some.inj h
theorem yCq (s:ByteArray) (c:UInt8) (w:World):
  Calls Tryz.prog 61 #[.string s,.int .u8 (c.toNat:Int)] w fun e w'=>e=.returned (.int .i64 (Lib.indexByte (sb s) c))∧w'=w:=by
 have H:Calls Tryz.prog 94 #[.string s,.int .u8 (c.toNat:Int)] w fun e w'=>e=.returned (.int .i64 (Lib.indexByte (sb s) c))∧w'=w:=by go_enter Tryz.func94,Tryz.ntmps94;go_wp2;rw[run_callFunc_extern Tryz.func113 (by kernel_rfl) (by kernel_rfl) (by kernel_rfl) (e:=Extern.BytealgIndexByte.indexByte) (by kernel_rfl),Lib.run_indexByteString];simp only[Result.andThen];rw[Oper.upon_value];go_wp2;go_ret;exact⟨by simp,rfl⟩
 go_enter Tryz.func61,Tryz.ntmps61;go_wp2_with (go_at_call 94;refine H.mono ?_;rintro e w' ⟨rfl,rfl⟩);go_ret;exact⟨rfl,rfl⟩
theorem yE5:∀(l:List UInt8) (c:UInt8),-1≤Lib.indexByte l c∧(0≤Lib.indexByte l c↔c∈l)
 | [],c=>by simp[Lib.indexByte]
 |b::l,c=>by
  have ih:=yE5 l c
  unfold Lib.indexByte
  by_cases h:b=c
  ·subst h;simp
  ·have h2:¬c=b:=fun q=>h q.symm
   by_cases h3:Lib.indexByte l c= -1
   ·have h4:¬c∈l:=fun q=>by have:=ih.2.2 q;omega
    simp[h,h2,h3,h4]
   ·have h4:c∈l:=ih.2.1 (by omega)
    simp[h,h2,h3,h4]
    omega
abbrev PrAt (w:World) (base g:Nat) (p:ByteArray) (i o:Nat):Prop:=yA w base 181 3 g [.string p,.int .i64 (i:Int),.int .i64 (o:Int)]
theorem yLk (v:Value) (w:World):Calls Tryz.prog 143 #[v,.bool true] w fun e w'=>e=.returned (.tuple #[])∧w'=w:=by go_enter Tryz.func143,Tryz.ntmps143;go_wp2_with fail;go_end0;exact⟨rfl,rfl⟩
variable {base g o:Nat} {p:ByteArray} {w:World}
theorem yO (h:PrAt w base g p i o):Calls Tryz.prog 143 #[.pointer (some ⟨g,0,none⟩),.bool false] w fun e w'=>e=Pf 2 i∧w'=w:=by have c1:=h.cell (j:=1) rfl;clear h;go_enter Tryz.func143,Tryz.ntmps143;go_wp2_with fail;exact⟨rfl,rfl,rfl⟩
theorem yJa (c:Bool) (h:PrAt w base g p i o):Calls Tryz.prog 143 #[.pointer (some ⟨g,0,none⟩),.bool c] w fun e w'=>w'=w∧((c=true∧e=.returned (.tuple #[]))∨(c=false∧e=Pf 2 i)):=by
 cases c with
 |true=>exact(yLk _ w).mono fun e w' ⟨he,hw⟩=>⟨hw,.inl ⟨rfl,he⟩⟩
 |false=>exact(yO h).mono fun e w' ⟨he,hw⟩=>⟨hw,.inr ⟨rfl,he⟩⟩
def inB (p:List UInt8) (i:Nat) (l:List UInt8):Bool:=match p[i]? with|some c=>decide (c∈l)|none=>false
theorem yD6 (s:ByteArray) (h:PrAt w base g p i o) (hp:p.size≤200):
  Calls Tryz.prog 160 #[.pointer (some ⟨g,0,none⟩),.string s] w fun e w'=>e=.returned (.bool (inB (sb p) i (sb s)))∧Below w.heap.size w w':=by
 have hlt:=h.lt.2;obtain⟨c0,c1⟩:=h.c2;have e0:∀n:Out w,n.u.cell? ⟨g,0,none⟩=some (.string p):=fun n=>(n.out.cell (p:=⟨g,0,none⟩) hlt).trans c0;have e1:∀n:Out w,n.u.cell? ⟨g,1,none⟩=some (.int .i64 (i:Int)):=fun n=>(n.out.cell (p:=⟨g,1,none⟩) hlt).trans c1;clear h c0 c1;by_cases hi:i<p.size
 ·obtain⟨x,hx⟩:∃x,(sb p)[i]?=some x:=⟨_,List.getElem?_eq_getElem (by rw[yAn];exact hi)⟩;obtain⟨_,gx⟩:=yD4 hx;have z1:(i:Int)<(p.size:Int):=by omega
  obtain⟨r,hr⟩:=qE (Lib.indexByte (sb s) x);have HR:Hid (r=Lib.indexByte (sb s) x∧inB (sb p) i (sb s)=decide (0≤r)):=by refine⟨hr,?_⟩;unfold inB;rw[hx,hr];exact decide_eq_decide.2 (yE5 _ _).2.symm
  have HI:Hid (∀n:Out w,Calls Tryz.prog 61 #[.string s,.int .u8 (x.toNat:Int)] n.u fun e w'=>e=.returned (.int .i64 r)∧Below n.u.heap.size n.u w'):=fun n=>by rw[HR.1];exact(yCq s x n.u).mono fun e w' ⟨he,hw⟩=>⟨he,hw▸Below.refl _ _⟩
  rw[HR.2];clear hx hr;go_enter Tryz.func160,Tryz.ntmps160;go_upto_region 1 with fail;refine yBu (by kernel_rfl) (by kernel_rfl) ?_;repeat (go_big_quiet_step ((first|rfl|(go_at_call 61;exact Calls.out_of (HI.out _)))))
  refine wpQuiet_nil ?_;rintro w1 ⟨⟨wx,hb1⟩,rfl⟩;go_wp2_with fail;go_ret;exact⟨rfl,hb1⟩
 ·have z1:¬(i:Int)<(p.size:Int):=by omega
  have HR:inB (sb p) i (sb s)=false:=by unfold inB;rw[List.getElem?_eq_none (by rw[yAn];omega)]
  rw[HR];clear HR;go_enter Tryz.func160,Tryz.ntmps160;go_upto_region 1 with fail;refine yBu (by kernel_rfl) (by kernel_rfl) ?_;repeat (go_big_quiet_step (rfl))
  refine wpQuiet_nil ?_;rintro w1 ⟨⟨wx,hb1⟩,rfl⟩;go_wp2_with fail;go_ret;exact⟨rfl,hb1⟩
theorem PrAt.next (h:PrAt w base g p i o):PrAt (w.setCell ⟨g,1,none⟩ (.int .i64 ((i:Int)+1))) base g p (i+1) o:=yA.set h 1 (.int .i64 ((i:Int)+1))
theorem yI8 {x:UInt8} (h:PrAt w base g p i o) (hp:p.size≤200) (hx:(sb p)[i]?=some x):
  Calls Tryz.prog 166 #[.pointer (some ⟨g,0,none⟩)] w fun e w'=>e=.returned (.int .u8 (x.toNat:Int))∧PrAt w' base g p (i+1) o∧Chg (fun k=>k=g) w w':=by
 have HP:Hid (PrAt w base g p i o):=h;obtain⟨hi,gx⟩:=yD4 hx;obtain⟨c0,c1⟩:=h.c2;have f1:=h.frozen 1;have z1:(i:Int)<(p.size:Int):=by omega
 clear h hx;go_enter Tryz.func166,Tryz.ntmps166;go_upto_region 1 with fail;go_quiet ((go_at_call 143;exact Calls.quiet_of_same (yLk _ _)));go_upto_region 2 with fail;obtain⟨W1,hW1⟩:=qE (w.drewN nq:World);have hb1:Below w.heap.size w W1:=by rw[hW1];exact below_drewN (Below.refl _ _) _
 have HP1:Hid (PrAt W1 base g p i o):=HP.below hb1;rw[←hW1];clear hW1 c0 c1 f1;obtain⟨c0,c1⟩:=HP1.c2;have f1:=HP1.frozen 1;go_quiet (rfl);go_wp2_with fail;go_ret;have hb2:Below w.heap.size w (W1.drewN nq):=hb1.trans ((below_drewN (Below.refl _ _) _).mono hb1.size);exact⟨rfl,PrAt.next (yA.below HP.out hb2),(Chg.of_below hb2).trans (Chg.of_set _ g 1 _ rfl)⟩
variable {id:Nat} {Q:Exit→Act→World→Prop}
theorem yKc {a:Act} {l:List Oper} (d s c:Tmp) {tys:Array TypeId} {ty:TypeId} {pos:String} {aft:Array Edge} (hP:PrAt w base g p i o)
  (ho:l.getLast?=some ⟨some d,.call {callee:=.value (.func 143),args:=#[.tmp s,.tmp c],argTypes:=tys},ty,pos,aft,none⟩)
  (hB:∀m,Region.lexB .any (l.dropLast++ [fk m ⟨some d,.call {callee:=.value (.func 143),args:=#[.tmp s,.tmp c],argTypes:=tys},ty,pos,aft,none⟩]).toArray=true)
  (hB2:yOv l.dropLast ⟨some d,.call {callee:=.value (.func 143),args:=#[.tmp s,.tmp c],argTypes:=tys},ty,pos,aft,none⟩ [] d [s,c]=true)
  (hQ:∀(a':Act) (w':World),Below w.heap.size w w'→a'.defers=a.defers→Q (.panic [{v:=pfV 2 i,recovered:=false}]) a' w')
  (h:∀m,wpQuiet Tryz.prog (l.dropLast++ [fk m ⟨some d,.call {callee:=.value (.func 143),args:=#[.tmp s,.tmp c],argTypes:=tys},ty,pos,aft,none⟩]).toArray (fun w'=>∃n:Out w,w'=n.u) (fun a'=>a'.tmps.getD d undef=m∧∀q∈ [(s,Value.pointer (some ⟨g,0,none⟩)),(c,.bool false)],a'.tmps.getD q.1 undef=q.2) (l.dropLast++ [fk m ⟨some d,.call {callee:=.value (.func 143),args:=#[.tmp s,.tmp c],argTypes:=tys},ty,pos,aft,none⟩]) a):
  (Code.region id l.toArray true).wp Tryz.prog Q a w:=by
 have hl:l=l.dropLast++ [⟨some d,.call {callee:=.value (.func 143),args:=#[.tmp s,.tmp c],argTypes:=tys},ty,pos,aft,none⟩]:=by obtain⟨l',hl'⟩:=List.getLast?_eq_some_iff.1 ho;rw[hl'];simp
 refine yKd (C:=fun w'=>∃n:Out w,w'=n.u) l.dropLast _ [] d [(s,Value.pointer (some ⟨g,0,none⟩)),(c,.bool false)] l hl (by kernel_rfl) hB hB2 rfl rfl ⟨⟨_,(Below.refl _ _).drew⟩,rfl⟩ h ?_;rintro a' w' K ⟨n,rfl⟩ hd hp;have h1:a'.tmps.getD s undef=.pointer (some ⟨g,0,none⟩):=hp (s,_) (by simp);have h2:a'.tmps.getD c undef=.bool false:=hp (c,_) (by simp);have h3:a'.tmps[s]?.getD undef=.pointer (some ⟨g,0,none⟩):=by rw[←Array.getD_eq_getD_getElem?];exact h1
 have h4:a'.tmps[c]?.getD undef=.bool false:=by rw[←Array.getD_eq_getD_getElem?];exact h2
 unfold Oper.wp;have hrun:(execOp a'.eval ⟨some d,.call {callee:=.value (.func 143),args:=#[.tmp s,.tmp c],argTypes:=tys},ty,pos,aft,none⟩).run Tryz.prog n.u=.ok (.enter 143 #[.pointer (some ⟨g,0,none⟩),.bool false]) n.u:=by simp[execOp,h3,h4,go_sem,Act.eval,Tryz.func143]
 rw[hrun,Oper.upon_enter];refine(yO (yA.below hP n.out)).mono ?_;rintro e w'' ⟨rfl,rfl⟩;exact hQ a' n.u n.out hd
variable {y:Value}
theorem yY0 {a':Act} {s t:Tmp} {x:Value} (h:a'.tmps.getD s undef=x) (h2:a'.tmps.getD t undef=y):∀p∈ [(s,x),(t,y)],a'.tmps.getD p.1 undef=p.2:=by
 intro p hp;rcases List.mem_cons.1 hp with rfl|hp
 ·exact h
 ·rcases List.mem_cons.1 hp with rfl|hp
  ·exact h2
  ·cases hp
theorem yUv (h:PrAt w base g p i o) (hp:p.size≤200) (hx:¬i<p.size):
  Calls Tryz.prog 166 #[.pointer (some ⟨g,0,none⟩)] w fun e w'=>e=Pf 2 i∧Below w.heap.size w w':=by
 have HP:Hid (PrAt w base g p i o):=h;have hlt:=h.lt.2;obtain⟨c0,c1⟩:=h.c2;have e0:∀n:Out w,n.u.cell? ⟨g,0,none⟩=some (.string p):=fun n=>(n.out.cell (p:=⟨g,0,none⟩) hlt).trans c0;have e1:∀n:Out w,n.u.cell? ⟨g,1,none⟩=some (.int .i64 (i:Int)):=fun n=>(n.out.cell (p:=⟨g,1,none⟩) hlt).trans c1;have z1:¬(i:Int)<(p.size:Int):=by omega
 clear h c0 c1;go_enter Tryz.func166,Tryz.ntmps166;go_upto_region 1 with fail;refine yKc 15 4 14 HP.out rfl (fun m=>by kernel_rfl) (by kernel_rfl) ?q ?_;case q=>exact fun a' w' hb hd=>⟨hd,rfl,hb⟩
 intro m;dsimp only[List.dropLast,fk,List.cons_append,List.nil_append];repeat (go_big_quiet_step (rfl))
 refine wpQuiet_nil ?_;exact⟨rfl,yY0 rfl rfl⟩
theorem yH8 (h:PrAt w base g p i o) (hp:p.size≤200) (hi:i≤p.size):
  Calls Tryz.prog 166 #[.pointer (some ⟨g,0,none⟩)] w fun e w'=>Chg (fun k=>k=g) w w'∧
   ((∃x:UInt8,(sb p)[i]?=some x∧e=.returned (.int .u8 (x.toNat:Int))∧PrAt w' base g p (i+1) o)∨((sb p)[i]?=none∧e=Pf 2 i)):=by
 by_cases hx:i<p.size
 ·obtain⟨x,hx⟩:∃x,(sb p)[i]?=some x:=⟨_,List.getElem?_eq_getElem (by rw[yAn];exact hx)⟩;exact(yI8 h hp hx).mono fun e w' ⟨he,h1,h2⟩=>⟨h2,.inl ⟨x,hx,he,h1⟩⟩
 ·exact(yUv h hp hx).mono fun e w' ⟨he,h1⟩=>⟨Chg.of_below h1,.inr ⟨List.getElem?_eq_none (by rw[yAn];omega),he⟩⟩
theorem yEl (c:UInt8) (h:PrAt w base g p i o) (hp:p.size≤200):
  Calls Tryz.prog 153 #[.pointer (some ⟨g,0,none⟩),.int .u8 (c.toNat:Int)] w fun e w'=>Chg (fun k=>k=g) w w'∧
   (((sb p)[i]?=some c∧e=.returned (.bool true)∧PrAt w' base g p (i+1) o)∨(¬(sb p)[i]?=some c∧e=.returned (.bool false)∧PrAt w' base g p i o)):=by
 have HP:Hid (PrAt w base g p i o):=h;have hlt:=h.lt.2;obtain⟨c0,c1⟩:=h.c2;have e0:∀n:Out w,n.u.cell? ⟨g,0,none⟩=some (.string p):=fun n=>(n.out.cell (p:=⟨g,0,none⟩) hlt).trans c0;have e1:∀n:Out w,n.u.cell? ⟨g,1,none⟩=some (.int .i64 (i:Int)):=fun n=>(n.out.cell (p:=⟨g,1,none⟩) hlt).trans c1;clear h c0 c1;by_cases hi:i<p.size
 ·obtain⟨x,hx⟩:∃x,(sb p)[i]?=some x:=⟨_,List.getElem?_eq_getElem (by rw[yAn];exact hi)⟩;obtain⟨_,gx⟩:=yD4 hx;have z1:(i:Int)<(p.size:Int):=by omega
  by_cases hxc:x=c
  ·subst hxc;have HF:Hid ((sb p)[i]?=some x):=hx;clear hx;go_enter Tryz.func153,Tryz.ntmps153;go_upto_region 1 with fail;refine yBu (by kernel_rfl) (by kernel_rfl) ?_;repeat (go_big_quiet_step (rfl))
   refine wpQuiet_nil ?_;rintro w1 ⟨⟨wx,hb1⟩,rfl⟩;have HP1:Hid (PrAt w1 base g p i o):=yA.below HP.out hb1;have c1:=HP1.cell (j:=1) rfl;have f1:=HP1.frozen 1;clear e0 e1;go_wp2_with fail;go_ret;exact⟨(Chg.of_below hb1).trans (Chg.of_set _ g 1 _ rfl),.inl ⟨HF.out,rfl,PrAt.next HP1.out⟩⟩
  ·have HF:Hid (¬(sb p)[i]?=some c):=by show¬(sb p)[i]?=some c;rw[hx];exact fun q=>hxc (Option.some.inj q)
   have z2:¬(x.toNat:Int)=(c.toNat:Int):=fun q=>hxc (UInt8.toNat_inj.1 (by omega));clear hx hxc;go_enter Tryz.func153,Tryz.ntmps153;go_upto_region 1 with fail;refine yBu (by kernel_rfl) (by kernel_rfl) ?_;repeat (go_big_quiet_step (rfl))
   refine wpQuiet_nil ?_;rintro w1 ⟨⟨wx,hb1⟩,rfl⟩;have HP1:Hid (PrAt w1 base g p i o):=yA.below HP.out hb1;clear e0 e1;go_wp2_with fail;go_ret;exact⟨Chg.of_below hb1,.inr ⟨HF.out,congrArg (fun b=>Ending.returned (.bool b)) (beq_eq_false_iff_ne.2 z2),HP1.out⟩⟩
 ·have z1:¬(i:Int)<(p.size:Int):=by omega
  have HF:Hid (¬(sb p)[i]?=some c):=by show¬(sb p)[i]?=some c;rw[List.getElem?_eq_none (by rw[yAn];omega)];exact fun q=>by cases q
  go_enter Tryz.func153,Tryz.ntmps153;go_upto_region 1 with fail;refine yBu (by kernel_rfl) (by kernel_rfl) ?_;repeat (go_big_quiet_step (rfl))
  refine wpQuiet_nil ?_;rintro w1 ⟨⟨wx,hb1⟩,rfl⟩;have HP1:Hid (PrAt w1 base g p i o):=yA.below HP.out hb1;clear e0 e1;go_wp2_with fail;go_ret
  first
   |exact⟨Chg.of_below hb1,.inr ⟨HF.out,rfl,HP1.out⟩⟩
   |exact⟨Chg.of_below hb1,rfl,HP1.out⟩
theorem yMl:∃F:(UInt8→Bool)→Array Value,∀f,F f=Array.ofFn (n:=256) fun i=>.bool (f (UInt8.ofNat i.val)):=⟨_,fun _=>rfl⟩
noncomputable def setA (f:UInt8→Bool):Array Value:=Classical.choose yMl f
theorem yLh (f:UInt8→Bool):setA f=Array.ofFn (n:=256) fun i=>.bool (f (UInt8.ofNat i.val)):=Classical.choose_spec yMl f
theorem yAi (f:UInt8→Bool):(setA f).size=256:=by rw[yLh];simp
theorem yDx:(Tryz.prog.info? 219).map (fun i=>(i.zero,i.size))=some (some (.agg (Array.replicate 256 (.bool false))),256):=by kernel_rfl
theorem yI6:setA (fun _=>false)=Array.replicate 256 (.bool false):=by
 rw[yLh];apply Array.ext
 ·simp
 ·intro i h1 h2;simp
theorem yYr (f:UInt8→Bool) (i:Nat) (h:i<256):(setA f)[i]?=some (.bool (f (UInt8.ofNat i))):=by rw[yLh,Array.getElem?_eq_getElem (by simp;exact h)];simp only[Array.getElem_ofFn]
theorem yGb (f:UInt8→Bool):(setA f).all (·.oneCell')=true:=by rw[yLh,Array.all_eq_true_iff_forall_mem];intro v hv;obtain⟨i,hi,rfl⟩:=Array.getElem_of_mem hv;simp only[Array.getElem_ofFn];rfl
variable {t:Nat}
theorem yA.heap {sz:Nat} {vs:List Value} (h:yA w base t sz g vs):w.heap[g]?=some (.cells vs.toArray t (0,0)):=by
 rcases h.2 with⟨h0,_⟩|⟨g',cap,cur,hv,_,hc,_,_,hsz,htk⟩
 ·cases h0
 ·simp only[Value.slice.injEq,Option.some.injEq,Addr.mk.injEq,and_true,true_and]at hv;obtain⟨rfl,rfl⟩:=hv;rw[hc];rw[List.take_of_length_le (by simp[hsz])]at htk;rw[←htk]
theorem yA.ofHeap {sz:Nat} {vs:Array Value} (h:w.heap[g]?=some (.cells vs t (0,0))) (hb:base≤g) (hs:vs.size=sz):yA w base t sz g vs.toList:=by refine⟨by simp[hs],.inr ⟨g,1,vs,rfl,hb,h,Nat.le_refl _,by decide,by omega,?_⟩⟩;rw[List.take_of_length_le (by simp[hs])]
abbrev yBe (w:World) (base g:Nat) (f:UInt8→Bool):Prop:=yA w base 219 256 g (setA f).toList
variable {f:UInt8→Bool}
theorem yBe.heap (h:yBe w base g f):w.heap[g]?=some (.cells (setA f) 219 (0,0)):=by have h1:=yA.heap h;rw[Array.toArray_toList]at h1;exact h1
theorem yBe.ext {f':UInt8→Bool} (h:yBe w base g f) (he:∀c,f c=f' c):yBe w base g f':=by rw[show f'=f from funext fun c=>(he c).symm];exact h
theorem yG8 (f:UInt8→Bool) (k:Nat) (h:k<256):(setA f).toList[k]?=some (.bool (f (UInt8.ofNat k))):=by rw[Array.getElem?_toList];exact yYr f k h
variable {k:Nat}
theorem yU8 (hi:i<256) (hk:k<256) (h:UInt8.ofNat i=UInt8.ofNat k):i=k:=by have:=congrArg UInt8.toNat h;rw[UInt8.toNat_ofNat',UInt8.toNat_ofNat']at this;omega
theorem yO4 (f:UInt8→Bool) (k:Nat) (b:Bool) (hk:k<256):(setA f).toList.set k (.bool b)=(setA (fun c=>if c=UInt8.ofNat k then b else f c)).toList:=by
 apply List.ext_getElem?;intro i;rw[List.getElem?_set];by_cases h:k=i
 ·subst h;rw[if_pos rfl,if_pos (by simp[yAi];exact hk),yG8 _ _ hk,if_pos rfl]
 ·rw[if_neg h];by_cases hi:i<256
  ·rw[yG8 _ _ hi,yG8 _ _ hi,if_neg (fun q=>h (yU8 hi hk q).symm)]
  ·rw[List.getElem?_eq_none (by simp[yAi];omega),List.getElem?_eq_none (by simp[yAi];omega)]
variable {B:Nat}
theorem Below.setRow' {a:World} (h:Below B a w) (hg:B≤g) (cs:Array Value):Below B a (w.setRow g cs):=
 h.trans ⟨rfl,rfl,rfl,by simp,fun k hk=>setRow_other w g k cs (by omega)⟩
theorem yHe (f:UInt8→Bool) (w:World):
  Calls Tryz.prog 167 #[.agg (setA f)] w fun e w'=>e=.returned (.agg (setA (fun c=> !f c)))∧Below w.heap.size w w':=by
 have hzv:=(zero_of_info yDx).1;go_enter Tryz.func167,Tryz.ntmps167;go_wp2_with fail;clear hzv;rw[←yI6];obtain⟨W,hW⟩:=qE ((w.alloc (.cells (setA f) 219)).alloc (.cells (setA (fun _=>false)) 219));have HW:Hid (yBe W w.heap.size w.heap.size f∧yBe W w.heap.size (w.heap.size+1) (fun _=>false)∧Below w.heap.size w W):=by rw[hW];refine⟨yA.ofHeap (heap_alloc2_old w _ _) (Nat.le_refl _) (yAi _),yA.ofHeap (heap_alloc2_new w _ _) (by omega) (yAi _),(qB).alloc (by simp) _⟩
 rw[←hW];clear hW;go_loopw[4] (fun i wr=>∃(k:Nat),k≤256∧i=.int .i64 k∧yBe wr w.heap.size w.heap.size (fun c=>if c.toNat<k then !f c else f c)∧yBe wr w.heap.size (w.heap.size+1) (fun _=>false)∧Below w.heap.size w wr) (fun i _=>256-(intOf i).toNat);case atStart=>
  refine⟨0,Nat.zero_le _,rfl,?_,HW.2.1,HW.2.2⟩;exact yBe.ext HW.1 (fun c=>by rw[if_neg (by omega)])
 case round=>
  obtain⟨k,hk,rfl,h1,h2,h3⟩:=hrel;have HR:Hid (yBe wr w.heap.size w.heap.size (fun c=>if c.toNat<k then !f c else f c)∧yBe wr w.heap.size (w.heap.size+1) (fun _=>false)∧Below w.heap.size w wr):=⟨h1,h2,h3⟩;clear h1 h2 h3 HW;by_cases hlt:k<256
  ·have z:(k:Int)<256:=by omega
   obtain⟨b,hb⟩:=qE (f (UInt8.ofNat k));have hn:(UInt8.ofNat k).toNat=k:=by rw[UInt8.toNat_ofNat'];omega
   have d0:wr.cell? ⟨w.heap.size,k,none⟩=some (.bool b):=by have:=HR.1.cell (yG8 _ k hlt);rw[hn,if_neg (Nat.lt_irrefl _),←hb]at this;exact this
   have f0:=HR.1.frozen k;have HN:Hid (yBe (wr.setCell ⟨w.heap.size,k,none⟩ (.bool (!b))) w.heap.size w.heap.size (fun c=>if c.toNat<k+1 then !f c else f c)∧yBe (wr.setCell ⟨w.heap.size,k,none⟩ (.bool (!b))) w.heap.size (w.heap.size+1) (fun _=>false)∧Below w.heap.size w (wr.setCell ⟨w.heap.size,k,none⟩ (.bool (!b)))):=by
    refine⟨?_,HR.2.1.beside (by omega) k _,yAd HR.2.2 (Nat.le_refl _) k _⟩;have h4:=HR.1.set k (.bool (!b));rw[yO4 _ k (!b) hlt]at h4;refine yBe.ext h4 ?_
    ·intro c;by_cases hc:c=UInt8.ofNat k
     ·rw[if_pos hc,hc,hn,if_pos (by omega),hb]
     ·rw[if_neg hc];have:¬c.toNat=k:=fun q=>hc (UInt8.toNat_inj.1 (by rw[hn];exact q));by_cases h5:c.toNat<k
      ·rw[if_pos h5,if_pos (by omega)]
      ·rw[if_neg h5,if_neg (by omega)]
   clear hb hn HR;go_wp2_with fail;go_roundw;case rel=>exact⟨k+1,by omega,by go_num,HN.1,HN.2.1,HN.2.2⟩
   case measure=>simp[intOf];omega
  ·obtain rfl:k=256:=by omega
   have h0:=yBe.heap (yBe.ext HR.1 (f':=fun c=> !f c) (fun c=>if_pos (UInt8.toNat_lt c)));have h1:=yBe.heap HR.2.1;have hB:Below w.heap.size w (wr.setRow (w.heap.size+1) (setA (fun c=> !f c))):=Below.setRow' HR.2.2 (by omega) _;have hi:(Tryz.prog.info? 219).map (·.size)=some 256:=(zero_of_info yDx).2;clear HR;go_upto_region 6 with fail;apply wp_region_list;refine wpList_load_row rfl 219 _ rfl w.heap.size rfl 219 (setA (fun c=> !f c)) (0,0) _ h0 Tryz.underlying219 rfl (by rw[yAi];exact hi) ?_;refine wpList_store_row rfl 219 _ _ rfl (w.heap.size+1) (setA (fun c=> !f c)) rfl rfl 219 (setA (fun _=>false)) h1 (by rw[yAi];exact hi) (by rw[yAi,yAi]) (yGb _) ?_;have hr:=setRow_heap _ _ _ (setA (fun c=> !f c)) _ _ h1;obtain⟨W2,hW2⟩:=qE (wr.setRow (w.heap.size+1) (setA (fun c=> !f c)));rw[←hW2]at hB hr⊢;clear hW2 h0 h1;apply wpList_nil;go_wp2_with fail;refine bodyPost_ret (v:=.agg (setA (fun c=> !f c))) (results_cell_row rfl _ _ (w.heap.size+1) _ _ _ _ rfl hr Tryz.underlying219 rfl (by rw[yAi];exact hi)) rfl ⟨rfl,hB⟩
section
inductive Pat where
 |byte (b:UInt8)
 |cls (f:UInt8→Bool)
 |rep (t:Pat) (opt rpt:Bool)
 |alt (os:List (List Pat))
abbrev isOp (c:UInt8):Prop:=c=42∨c=43∨c=63
abbrev yFu (c:UInt8):Prop:=isOp c∨c=124∨c=41∨c=93
def chM (p:List UInt8) (i:Nat):UInt8×Nat×Bool:=
 match p[i]? with
 |none=>(0,i,false)
 |some c=>if c=93∨c=45 then(0,i,false)else if c=92 then(match p[i+1]? with|none=>(0,i+1,false)|some d=>(d,i+2,true))else(c,i+1,true)
variable {p:List UInt8}
theorem yJ0 {c:UInt8} (h:chM p i=(c,k,true)):i<k∧k≤p.length:=by
 unfold chM at h;split at h
 ·cases h
 ·next c' hc=>
  have h0:=(List.getElem?_eq_some_iff.1 hc).1;split at h
  ·cases h
  ·split at h
   ·split at h
    ·cases h
    ·next d hd=>
     have h1:=(List.getElem?_eq_some_iff.1 hd).1;simp only[Prod.mk.injEq]at h;omega
   ·simp only[Prod.mk.injEq]at h;omega
def yCx (p:List UInt8) (j:Nat):(UInt8×UInt8×Nat) ⊕ (Int×Nat):=
 match chM p j with
 |(_,k,false)=>.inr (2,k)
 |(lo,k,true)=>
  if p[k]?=some 45 then
   match chM p (k+1)with
   |(_,m,false)=>.inr (2,m)
   |(hi,m,true)=>if hi<lo then .inr (4,j)else .inl (lo,hi,m)
  else .inl (lo,lo,k)
variable {j:Nat}
theorem yHr {a b:UInt8} (h:yCx p j=.inl (a,b,k)):j<k∧k≤p.length∧a≤b:=by
 unfold yCx at h;split at h
 ·cases h
 ·next lo k' hk=>
  have h1:=yJ0 hk;split at h
  ·split at h
   ·cases h
   ·next hi m hm=>
    have h2:=yJ0 hm;split at h
    ·cases h
    ·next hle=>
     simp only[Sum.inl.injEq,Prod.mk.injEq]at h;obtain⟨rfl,rfl,rfl⟩:=h;exact⟨by omega,by omega,UInt8.not_lt.1 hle⟩
  ·simp only[Sum.inl.injEq,Prod.mk.injEq]at h;obtain⟨rfl,rfl,rfl⟩:=h;exact⟨by omega,by omega,UInt8.le_refl _⟩
def clsM (p:List UInt8) (j:Nat) (items:Bool) (f:UInt8→Bool):((UInt8→Bool)×Nat) ⊕ (Int×Nat):=
 if h:j<p.length then
  if p[j]?=some 93∧items=true then .inl (f,j+1)
  else match hi:yCx p j with
   | .inr e=>.inr e
   | .inl (a,b,k)=>clsM p k true (fun c=>f c || (decide (a≤c) && decide (c≤b)))
 else .inr (2,p.length)
termination_by p.length-j
decreasing_by have:=yHr hi;omega
def yBa (p:List UInt8) (i:Nat):((UInt8→Bool)×Nat) ⊕ (Int×Nat):=
 if p[i]?=some 94 then(match clsM p (i+1) false (fun _=>false)with| .inl (f,k)=>.inl (fun c=> !f c,k)| .inr e=>.inr e)
 else clsM p i false (fun _=>false)
theorem yOk:∀(n:Nat) {p:List UInt8} {j:Nat} {b:Bool} {f g:UInt8→Bool} {k:Nat},p.length-j≤n→clsM p j b f=.inl (g,k)→j<k∧k≤p.length
 |n,p,j,b,f,g,k,hn,h=>by
  unfold clsM at h
  split at h
  ·next hj=>
   split at h
   ·simp only[Sum.inl.injEq,Prod.mk.injEq]at h
    omega
   ·split at h
    ·cases h
    ·next a b' k' hk=>
     have h1:=yHr hk
     match n,hn with
     |0,hn=>omega
     |n+1,hn=>
      have h2:=yOk n (by omega) h
      omega
  ·cases h
theorem yJy {g:UInt8→Bool} (h:yBa p i=.inl (g,k)):i<k∧k≤p.length:=by
 unfold yBa at h;split at h
 ·split at h
  ·next hc=>
   have:=yOk _ (Nat.le_refl _) hc;simp only[Sum.inl.injEq,Prod.mk.injEq]at h;omega
  ·cases h
 ·exact yOk _ (Nat.le_refl _) h
theorem yS2 {c:Int} (h:yCx p j=.inr (c,k)):¬c=0:=by
 unfold yCx at h;split at h
 ·simp only[Sum.inr.injEq,Prod.mk.injEq]at h;omega
 ·split at h
  ·split at h
   ·simp only[Sum.inr.injEq,Prod.mk.injEq]at h;omega
   ·split at h
    ·simp only[Sum.inr.injEq,Prod.mk.injEq]at h;omega
    ·cases h
  ·cases h
theorem yL6:∀(n:Nat) {p:List UInt8} {j:Nat} {b:Bool} {f:UInt8→Bool} {c:Int} {k:Nat},p.length-j≤n→clsM p j b f=.inr (c,k)→¬c=0
 |n,p,j,b,f,c,k,hn,h=>by
  unfold clsM at h
  split at h
  ·split at h
   ·cases h
   ·split at h
    ·next e he=>
     simp only[Sum.inr.injEq]at h
     subst h
     exact yS2 he
    ·next a b' k' hk=>
     have h1:=yHr hk
     match n,hn with
     |0,hn=>omega
     |n+1,hn=>exact yL6 n (by omega) h
  ·simp only[Sum.inr.injEq,Prod.mk.injEq]at h;omega
theorem yL {c:Int} (h:yBa p i=.inr (c,k)):¬c=0:=by
 unfold yBa at h;split at h
 ·split at h
  ·cases h
  ·next e he=>
   simp only[Sum.inr.injEq]at h;subst h;exact yL6 _ (Nat.le_refl _) he
 ·exact yL6 _ (Nat.le_refl _) h
def chkM (p:List UInt8) (i o:Nat) (a:Bool):Int×Nat:=
 if h:i<p.length then
  if p[i]=40 then(if o=20 then(3,i)else chkM p (i+1) (o+1) false)
  else if p[i]=41 then(if o=0 then(2,i)else chkM p (i+1) (o-1) true)
  else if p[i]=124 then chkM p (i+1) o false
  else if p[i]=42∨p[i]=43∨p[i]=63 then(if a=true then chkM p (i+1) o true else(2,i))
  else if p[i]=91 then(match hc:yBa p (i+1)with| .inr e=>e| .inl (f,k)=>chkM p k o true)
  else if p[i]=93 then(2,i)
  else if p[i]=92 then(if i+1=p.length then(2,p.length)else chkM p (i+2) o true)
  else chkM p (i+1) o true
 else if 0<o then(2,p.length)else(0,0)
termination_by p.length-i
decreasing_by
 all_goals first
  |(have:=yJy hc;omega)
  |omega
variable {p:List UInt8} {i o:Nat} {a:Bool} {c:UInt8}
theorem yBh (h:p[i]?=some c):i<p.length:=(List.getElem?_eq_some_iff.1 h).1
theorem yC9 (h:p[i]?=some c):p[i]'(yBh h)=c:=(List.getElem?_eq_some_iff.1 h).2
theorem yIe (h:¬i<p.length):chkM p i o a=if 0<o then(2,p.length)else(0,0):=by rw[chkM,dif_neg h]
theorem yE (h:p[i]?=some 40):chkM p i o a=if o=20 then(3,i)else chkM p (i+1) (o+1) false:=by rw[chkM,dif_pos (yBh h),if_pos (yC9 h)]
theorem yEr (h:p[i]?=some 41):chkM p i o a=if o=0 then(2,i)else chkM p (i+1) (o-1) true:=by rw[chkM,dif_pos (yBh h),yC9 h];simp
theorem yJz (h:p[i]?=some 124):chkM p i o a=chkM p (i+1) o false:=by rw[chkM,dif_pos (yBh h),yC9 h];simp
theorem yNt (h:p[i]?=some c) (hc:isOp c):chkM p i o a=if a=true then chkM p (i+1) o true else(2,i):=by rw[chkM,dif_pos (yBh h),yC9 h];rcases hc with rfl|rfl|rfl<;>simp
theorem yNs (h:p[i]?=some 93):chkM p i o a=(2,i):=by rw[chkM,dif_pos (yBh h),yC9 h];simp
theorem yEs (h:p[i]?=some 91):chkM p i o a=match yBa p (i+1)with| .inr e=>e| .inl (f,k)=>chkM p k o true:=by rw[chkM,dif_pos (yBh h),yC9 h];simp only[show¬(91:UInt8)=40 by decide,show¬(91:UInt8)=41 by decide,show¬(91:UInt8)=124 by decide,show¬((91:UInt8)=42∨(91:UInt8)=43∨(91:UInt8)=63)by decide,if_false,if_true];split<;>(next hc=>rw[hc])
theorem yId (h:p[i]?=some 92):chkM p i o a=if i+1=p.length then(2,p.length)else chkM p (i+2) o true:=by rw[chkM,dif_pos (yBh h),yC9 h];simp
theorem yF3 (h:p[i]?=some c) (h1:¬yFu c) (h2:¬c=40) (h3:¬c=91) (h4:¬c=92):chkM p i o a=chkM p (i+1) o true:=by rw[chkM,dif_pos (yBh h),yC9 h];unfold yFu isOp at h1;simp only[not_or]at h1;obtain⟨⟨g1,g2,g3⟩,g4,g5,g6⟩:=h1;simp[h2,h3,h4,g1,g2,g3,g4,g5,g6]
theorem yWb (h:∀c,p[i]?=some c→¬isOp c) (a b:Bool):chkM p i o a=chkM p i o b:=by
 by_cases hi:i<p.length
 ·obtain⟨c,hc⟩:∃c,p[i]?=some c:=⟨_,List.getElem?_eq_getElem hi⟩;have hn:=h c hc;by_cases h1:c=40
  ·subst h1;rw[yE hc,yE hc]
  by_cases h2:c=41
  ·subst h2;rw[yEr hc,yEr hc]
  by_cases h3:c=124
  ·subst h3;rw[yJz hc,yJz hc]
  by_cases h4:c=93
  ·subst h4;rw[yNs hc,yNs hc]
  by_cases h5:c=91
  ·subst h5;rw[yEs hc,yEs hc]
  by_cases h6:c=92
  ·subst h6;rw[yId hc,yId hc]
  have he:¬yFu c:=fun q=>q.elim hn (fun q=>q.elim h3 (fun q=>q.elim h2 h4));rw[yF3 hc he h1 h5 h6,yF3 hc he h1 h5 h6]
 ·rw[yIe hi,yIe hi]
end
variable {p:List UInt8}
theorem chM_in (h:inB p i [93,45]=true):chM p i=(0,i,false):=by
 unfold inB at h;unfold chM;split at h
 ·next c hc=>
  rw[hc];have:c=93∨c=45:=by simpa using h
  simp only[];rw[if_pos this]
 ·cases h
theorem yOl (h:p[i]?=none):chM p i=(0,i,false):=by unfold chM;rw[h]
theorem yL7 (h:p[i]?=some 92):chM p i=match p[i+1]? with|none=>(0,i+1,false)|some d=>(d,i+2,true):=by unfold chM;rw[h];rfl
theorem yTm {c:UInt8} (h:p[i]?=some c) (h1:inB p i [93,45]=false) (h2:¬c=92):chM p i=(c,i+1,true):=by
 unfold inB at h1;unfold chM;rw[h]at h1⊢;have:¬(c=93∨c=45):=by simpa using h1
 simp only[];rw[if_neg this,if_neg h2]
theorem yGu {p:ByteArray} (h:PrAt w base g p i o) (hp:p.size≤200) (hi:i≤p.size):
  Calls Tryz.prog 171 #[.pointer (some ⟨g,0,none⟩)] w fun e w'=>Chg (fun k=>k=g) w w'∧
   ((∃(x:UInt8) (k:Nat),chM (sb p) i=(x,k,true)∧e=.returned (.int .u8 (x.toNat:Int))∧PrAt w' base g p k o)∨(∃(x:UInt8) (k:Nat),chM (sb p) i=(x,k,false)∧e=Pf 2 k)):=by
 have HP:Hid (PrAt w base g p i o):=h;clear h;go_enter Tryz.func171,Tryz.ntmps171;go_wp2_with fail;refine(yD6 ⟨#[93,45]⟩ HP.out hp).mono ?_;rintro e w1 ⟨rfl,hb1⟩;have HP1:Hid (PrAt w1 base g p i o∧Chg (fun k=>k=g) w w1):=⟨yA.below HP.out hb1,Chg.of_below hb1⟩;obtain⟨q,hq⟩:=qE (inB (sb p) i (sb ⟨#[93,45]⟩));have HQ:Hid (inB (sb p) i [93,45]=q):=hq.symm;rw[←hq];clear hb1 hq HP;go_wp2_with fail;refine(yJa (!q) HP1.1).mono ?_;rintro e w2 ⟨rfl,(⟨hc,rfl⟩|⟨hc,rfl⟩)⟩;case inr=>
  have hq:q=true:=by simpa using hc
  refine⟨rfl,HP1.2,.inr ⟨0,i,chM_in (by rw[HQ.out,hq]),rfl⟩⟩
 have hq:q=false:=by simpa using hc
 subst hq;clear hc;go_wp2_with fail;refine(yH8 HP1.1 hp hi).mono ?_;rintro e w3 ⟨hC3,(⟨x,hx,rfl,hP3⟩|⟨hx,rfl⟩)⟩;case inr=>exact⟨rfl,HP1.2.trans hC3,.inr ⟨0,i,yOl hx,rfl⟩⟩
 have HP3:Hid (PrAt w3 base g p (i+1) o∧Chg (fun k=>k=g) w w3∧(sb p)[i]?=some x):=⟨hP3,HP1.2.trans hC3,hx⟩;have hi1:i+1≤p.size:=by have:=(List.getElem?_eq_some_iff.1 hx).1;rw[yAn]at this;omega
 clear hC3 hx hP3 HP1;by_cases h92:x=92
 ·subst h92;go_wp2_with fail;refine(yH8 HP3.1 hp hi1).mono ?_;rintro e w4 ⟨hC4,(⟨y,hy,rfl,hP4⟩|⟨hy,rfl⟩)⟩;case inr=>exact⟨rfl,HP3.2.1.trans hC4,.inr ⟨0,i+1,by rw[yL7 HP3.2.2,hy],rfl⟩⟩
  have HF:Hid (Chg (fun k=>k=g) w w4∧chM (sb p) i=(y,i+2,true)∧PrAt w4 base g p (i+2) o):=⟨HP3.2.1.trans hC4,by rw[yL7 HP3.2.2,hy],hP4⟩;clear hC4 hy hP4;go_wp2_with fail;go_ret;exact⟨HF.1,.inl ⟨y,i+2,HF.2.1,rfl,HF.2.2⟩⟩
 ·have z:¬(x.toNat:Int)=92:=fun q=>h92 (UInt8.toNat_inj.1 (by show x.toNat=92;omega));go_wp2_with fail;go_ret;exact⟨HP3.2.1,.inl ⟨x,i+1,yTm HP3.2.2 HQ.out h92,rfl,HP3.1⟩⟩
def wider (f:UInt8→Bool) (a b:UInt8):UInt8→Bool:=fun c=>f c || (decide (a≤c) && decide (c≤b))
theorem Chg.absorb {S T:Nat→Prop} {w1 w2:World} (h:Chg S w w1) (k:Chg T w1 w2) (hT:∀j,T j→S j∨w.heap.size≤j):Chg S w w2:=
 ⟨k.os.trans h.os,k.tape.trans h.tape,k.output.trans h.output,Nat.le_trans h.size k.size,fun i hi hn=>(k.block i (Nat.lt_of_lt_of_le hi h.size) (fun q=>by rcases hT i q with q|q;exact hn q;omega)).trans (h.block i hi hn)⟩
theorem yR (a:UInt8):wrap64 (a.toNat:Int)=(a.toNat:Int):=by have:=UInt8.toNat_lt a;unfold wrap64;omega
theorem yGh (w:World) (g:Nat) (cs:Array Value):Chg (fun k=>k=g) w (w.setRow g cs):=⟨rfl,rfl,rfl,by simp,fun k hk hn=>setRow_other w g k cs hn⟩
theorem yM9 {p:ByteArray} (f:UInt8→Bool) (h:PrAt w base g p i o) (hp:p.size≤200) (hi:i≤p.size):
  Calls Tryz.prog 170 #[.pointer (some ⟨g,0,none⟩),.agg (setA f)] w fun e w'=>Chg (fun k=>k=g) w w'∧
   ((∃(a b:UInt8) (k:Nat),yCx (sb p) i=.inl (a,b,k)∧e=.returned (.agg (setA (wider f a b)))∧PrAt w' base g p k o)∨(∃(c:Int) (k:Nat),yCx (sb p) i=.inr (c,k)∧e=Pf c k)):=by
 have hgl:=h.lt.2;obtain⟨W0,hW0⟩:=qE ((w.alloc (.cells (setA f) 219)).alloc (.cells (setA (fun _=>false)) 219));have HW:Hid (yBe W0 w.heap.size w.heap.size f∧yBe W0 w.heap.size (w.heap.size+1) (fun _=>false)∧PrAt W0 base g p i o∧Chg (fun k=>k=g) w W0):=by rw[hW0];have hb:Below w.heap.size w ((w.alloc (.cells (setA f) 219)).alloc (.cells (setA (fun _=>false)) 219)):=(qB).alloc (by simp) _;refine⟨yA.ofHeap (heap_alloc2_old w _ _) (Nat.le_refl _) (yAi _),yA.ofHeap (heap_alloc2_new w _ _) (by omega) (yAi _),yA.below h hb,Chg.of_below hb⟩
 have hzv:=(zero_of_info yDx).1;rw[yI6]at hW0;have c1:=HW.2.2.1.cell (j:=1) rfl;clear h;go_enter Tryz.func170,Tryz.ntmps170;go_upto_region 1 with fail;rw[←hW0];clear hW0 hzv;go_wp2_with fail;clear c1;refine(yGu HW.2.2.1 hp hi).mono ?_;rintro e w1 ⟨hC1,(⟨a,k1,hk1,rfl,hP1⟩|⟨x,k,hk,rfl⟩)⟩;case inr=>
  refine⟨rfl,HW.2.2.2.trans hC1,.inr ⟨2,k,?_,rfl⟩⟩;unfold yCx;rw[hk]
 have HW1:Hid (yBe w1 w.heap.size w.heap.size f∧yBe w1 w.heap.size (w.heap.size+1) (fun _=>false)∧PrAt w1 base g p k1 o∧Chg (fun k=>k=g) w w1):=⟨yA.chg HW.1 hC1 (by omega),yA.chg HW.2.1 hC1 (by omega),hP1,HW.2.2.2.trans hC1⟩;have HK1:Hid (chM (sb p) i=(a,k1,true)):=hk1;have hk1p:k1≤p.size:=by have:=(yJ0 hk1).2;rw[yAn]at this;exact this
 clear hC1 hk1 hP1 HW;go_wp2_with fail;refine(yEl 45 HW1.2.2.1 hp).mono ?_;rintro e w2 ⟨hC2,h2⟩;have HW2:Hid (yBe w2 w.heap.size w.heap.size f∧yBe w2 w.heap.size (w.heap.size+1) (fun _=>false)∧Chg (fun k=>k=g) w w2):=⟨yA.chg HW1.1 hC2 (by omega),yA.chg HW1.2.1 hC2 (by omega),HW1.2.2.2.trans hC2⟩;clear hC2 HW1;rcases h2 with⟨hx,rfl,hP2⟩|⟨hx,rfl,hP2⟩;case' inl=>
  have HP2:Hid (PrAt w2 base g p (k1+1) o∧(sb p)[k1]?=some 45):=⟨hP2,hx⟩;have hk2:k1+1≤p.size:=by have:=(List.getElem?_eq_some_iff.1 hx).1;rw[yAn]at this;omega
  clear hP2 hx;go_wp2_with fail;refine(yGu HP2.1 hp hk2).mono ?_;rintro e w5 ⟨hC5,h5⟩;have HW5:Hid (yBe w5 w.heap.size w.heap.size f∧yBe w5 w.heap.size (w.heap.size+1) (fun _=>false)∧Chg (fun k=>k=g) w w5):=⟨yA.chg HW2.1 hC5 (by omega),yA.chg HW2.2.1 hC5 (by omega),HW2.2.2.trans hC5⟩;clear hC5 HW2;rcases h5 with⟨b,k5,hk5,rfl,hP5⟩|⟨x,k,hk,rfl⟩;case inr=>
   refine⟨rfl,HW5.2.2,.inr ⟨2,k,?_,rfl⟩⟩;unfold yCx;rw[HK1.out];simp only[];rw[if_pos HP2.2,hk]
  have HI:Hid (PrAt w5 base g p k5 o∧yCx (sb p) i=if b<a then .inr (4,i)else .inl (a,b,k5)):=by refine⟨hP5,?_⟩;unfold yCx;rw[HK1.out];simp only[];rw[if_pos HP2.2,hk5]
  clear hk5 hP5 HP2 hk2
 case' inr=>
  obtain⟨w5,hw5⟩:=qE w2;obtain⟨k5,hk5⟩:=qE (k1:Nat);have HW5:Hid (yBe w5 w.heap.size w.heap.size f∧yBe w5 w.heap.size (w.heap.size+1) (fun _=>false)∧Chg (fun k=>k=g) w w5):=by rw[hw5];exact HW2.out
  have HI2:Hid (PrAt w5 base g p k5 o∧yCx (sb p) i=.inl (a,a,k5)):=by rw[hw5,hk5];refine⟨hP2,?_⟩;unfold yCx;rw[HK1.out];simp only[];rw[if_neg hx]
  rw[←hw5];clear hw5 hP2 hx HW2 hk5
 case inl=>
  clear HK1 hk1p;by_cases hba:b<a
  ·have z:(b.toNat:Int)<(a.toNat:Int):=by have:=UInt8.lt_iff_toNat_lt.1 hba;omega
   go_wp2_with fail;exact⟨rfl,HW5.2.2,.inr ⟨4,i,by rw[HI.2,if_pos hba],rfl⟩⟩
  ·have z:(a.toNat:Int)≤(b.toNat:Int):=by have:=UInt8.le_iff_toNat_le.1 (UInt8.not_lt.1 hba);omega
   have HI2:Hid (PrAt w5 base g p k5 o∧yCx (sb p) i=.inl (a,b,k5)):=⟨HI.1,by rw[HI.2,if_neg hba]⟩;clear HI hba;go_wp2_with fail;go_loopw[8] (fun bv wr=>∃(k:Nat),a.toNat≤k∧k≤b.toNat+1∧bv=.int .i64 k∧yBe wr w.heap.size w.heap.size (fun c=>f c || (decide (a≤c) && decide (c.toNat<k)))∧yBe wr w.heap.size (w.heap.size+1) (fun _=>false)∧PrAt wr base g p k5 o∧Chg (fun k=>k=g) w wr) (fun bv _=>256-(intOf bv).toNat);case atStart=>
    exact zzQ46
   case round=>
    obtain⟨k,hk0,hk1,rfl,h1,h2,h3,h4⟩:=hrel;have HR:Hid (yBe wr w.heap.size w.heap.size (fun c=>f c || (decide (a≤c) && decide (c.toNat<k)))∧yBe wr w.heap.size (w.heap.size+1) (fun _=>false)∧PrAt wr base g p k5 o∧Chg (fun k=>k=g) w wr):=⟨h1,h2,h3,h4⟩;clear h1 h2 h3 h4 HW5;have hb256:=UInt8.toNat_lt b;by_cases hlt:k≤b.toNat
    ·have z2:(k:Int)≤(b.toNat:Int):=by omega
     exact zzQ12
    ·obtain rfl:k=b.toNat+1:=by omega
     have z2:¬((b.toNat:Int)+1)≤(b.toNat:Int):=by omega
     have h0:=yBe.heap (yBe.ext HR.1 (f':=wider f a b) (fun c=>by
      unfold wider
      rw[show decide (c.toNat<b.toNat+1)=decide (c≤b)from decide_eq_decide.2 ⟨fun q=>UInt8.le_iff_toNat_le.2 (by omega),fun q=>by have:=UInt8.le_iff_toNat_le.1 q;omega⟩]))
     have h1:=yBe.heap HR.2.1;have HC:Hid (Chg (fun k=>k=g) w (wr.setRow (w.heap.size+1) (setA (wider f a b)))∧PrAt (wr.setRow (w.heap.size+1) (setA (wider f a b))) base g p k5 o):=by have hc:=yGh wr (w.heap.size+1) (setA (wider f a b));exact⟨HR.2.2.2.absorb hc (fun j q=>.inr (by omega)),yA.chg HR.2.2.1 hc (by omega)⟩
     have hi:(Tryz.prog.info? 219).map (·.size)=some 256:=(zero_of_info yDx).2;clear HR;go_upto_region 12 with fail;apply wp_region_list;refine wpList_load_row rfl 219 _ rfl w.heap.size rfl 219 (setA (wider f a b)) (0,0) _ h0 Tryz.underlying219 rfl (by rw[yAi];exact hi) ?_;refine wpList_store_row rfl 219 _ _ rfl (w.heap.size+1) (setA (wider f a b)) rfl rfl 219 (setA (fun _=>false)) h1 (by rw[yAi];exact hi) (by rw[yAi,yAi]) (yGb _) ?_;have hr:=setRow_heap _ _ _ (setA (wider f a b)) _ _ h1;obtain⟨W2,hW2⟩:=qE (wr.setRow (w.heap.size+1) (setA (wider f a b)));rw[←hW2]at HC hr⊢;clear hW2 h0 h1;apply wpList_nil;go_wp2_with fail;refine bodyPost_ret (v:=.agg (setA (wider f a b))) (results_cell_row rfl _ _ (w.heap.size+1) _ _ _ _ rfl hr Tryz.underlying219 rfl (by rw[yAi];exact hi)) rfl ⟨HC.1,.inl ⟨a,b,k5,HI2.2,rfl,HC.2⟩⟩
 case inr=>
  clear HK1 hk1p;go_wp2_with fail;go_loopw[8] (fun bv wr=>∃(k:Nat),a.toNat≤k∧k≤a.toNat+1∧bv=.int .i64 k∧yBe wr w.heap.size w.heap.size (fun c=>f c || (decide (a≤c) && decide (c.toNat<k)))∧yBe wr w.heap.size (w.heap.size+1) (fun _=>false)∧PrAt wr base g p k5 o∧Chg (fun k=>k=g) w wr) (fun bv _=>256-(intOf bv).toNat);case atStart=>
   exact zzQ46
  case round=>
   obtain⟨k,hk0,hk1,rfl,h1,h2,h3,h4⟩:=hrel;have HR:Hid (yBe wr w.heap.size w.heap.size (fun c=>f c || (decide (a≤c) && decide (c.toNat<k)))∧yBe wr w.heap.size (w.heap.size+1) (fun _=>false)∧PrAt wr base g p k5 o∧Chg (fun k=>k=g) w wr):=⟨h1,h2,h3,h4⟩;clear h1 h2 h3 h4 HW5;have hb256:=UInt8.toNat_lt a;by_cases hlt:k≤a.toNat
   ·have z2:(k:Int)≤(a.toNat:Int):=by omega
    exact zzQ12
   ·obtain rfl:k=a.toNat+1:=by omega
    have z2:¬((a.toNat:Int)+1)≤(a.toNat:Int):=by omega
    have h0:=yBe.heap (yBe.ext HR.1 (f':=wider f a a) (fun c=>by
     unfold wider
     rw[show decide (c.toNat<a.toNat+1)=decide (c≤a)from decide_eq_decide.2 ⟨fun q=>UInt8.le_iff_toNat_le.2 (by omega),fun q=>by have:=UInt8.le_iff_toNat_le.1 q;omega⟩]))
    have h1:=yBe.heap HR.2.1;have HC:Hid (Chg (fun k=>k=g) w (wr.setRow (w.heap.size+1) (setA (wider f a a)))∧PrAt (wr.setRow (w.heap.size+1) (setA (wider f a a))) base g p k5 o):=by have hc:=yGh wr (w.heap.size+1) (setA (wider f a a));exact⟨HR.2.2.2.absorb hc (fun j q=>.inr (by omega)),yA.chg HR.2.2.1 hc (by omega)⟩
    have hi:(Tryz.prog.info? 219).map (·.size)=some 256:=(zero_of_info yDx).2;clear HR;go_upto_region 12 with fail;apply wp_region_list;refine wpList_load_row rfl 219 _ rfl w.heap.size rfl 219 (setA (wider f a a)) (0,0) _ h0 Tryz.underlying219 rfl (by rw[yAi];exact hi) ?_;refine wpList_store_row rfl 219 _ _ rfl (w.heap.size+1) (setA (wider f a a)) rfl rfl 219 (setA (fun _=>false)) h1 (by rw[yAi];exact hi) (by rw[yAi,yAi]) (yGb _) ?_;have hr:=setRow_heap _ _ _ (setA (wider f a a)) _ _ h1;obtain⟨W2,hW2⟩:=qE (wr.setRow (w.heap.size+1) (setA (wider f a a)));rw[←hW2]at HC hr⊢;clear hW2 h0 h1;apply wpList_nil;go_wp2_with fail;refine bodyPost_ret (v:=.agg (setA (wider f a a))) (results_cell_row rfl _ _ (w.heap.size+1) _ _ _ _ rfl hr Tryz.underlying219 rfl (by rw[yAi];exact hi)) rfl ⟨HC.1,.inl ⟨a,a,k5,HI2.2,rfl,HC.2⟩⟩
variable {j:Nat}
theorem yJx (hj:j≤p.length):clsM p j false f=match yCx p j with| .inr e=>.inr e| .inl (a,b,k)=>clsM p k true (wider f a b):=by
 by_cases h:j<p.length
 ·rw[clsM,dif_pos h,if_neg (by simp)];split<;>(next hc=>(rw[hc];first|done|rfl))
 ·rw[clsM,dif_neg h];exact zzQ77
theorem yL4 (h:p[j]?=some 93):clsM p j true f=.inl (f,j+1):=by rw[clsM,dif_pos (yBh h),if_pos ⟨h,rfl⟩]
theorem yL5 (hj:j≤p.length) (h:¬p[j]?=some 93):clsM p j true f=match yCx p j with| .inr e=>.inr e| .inl (a,b,k)=>clsM p k true (wider f a b):=by
 by_cases h1:j<p.length
 ·rw[clsM,dif_pos h1,if_neg (fun q=>h q.1)];split<;>(next hc=>(rw[hc];first|done|rfl))
 ·rw[clsM,dif_neg h1];exact zzQ77
noncomputable abbrev clsV (f:UInt8→Bool):Value:=.iface 222 (.agg (setA f))
theorem yPk:(Tryz.prog.info? 222).map (fun i=>(i.zero,i.size))=some (some (.agg (Array.replicate 256 (.bool false))),256):=by kernel_rfl
theorem yQh:(match Tryz.prog.underlying 222 with|some (.struct fs)=>fs.toList.mapM (fun f=>(Tryz.prog.info? f.type).map fun i=>(f.offset,i.size))|_=>none)=some [(0,256)]:=by kernel_rfl
theorem yNu:Tryz.prog.built 219 []=some (setA (fun _=>false)):=by rw[yI6];kernel_rfl
theorem yK8:∀(l:List Value) (k:Nat) (z:List Value),k+l.length≤z.length→(l.zipIdx k).foldl (fun(cs:Array Value) (p:Value×Nat)=>cs.setIfInBounds (0+p.2) p.1) z.toArray=(z.take k++l++z.drop (k+l.length)).toArray
 | [],k,z,h=>by simp
 |x::l,k,z,h=>by
  simp only[List.zipIdx_cons,List.foldl_cons,Nat.zero_add,List.setIfInBounds_toArray]
  have h2:=yK8 l (k+1) (z.set k x) (by simp at h⊢;omega)
  simp only[Nat.zero_add]at h2
  rw[h2]
  congr 1
  have hk:k<z.length:=by simp at h;omega
  rw[List.take_add_one,List.take_set_of_le (Nat.le_refl _),List.getElem?_set_self hk]
  have h3:(z.set k x).drop (k+1+l.length)=z.drop (k+(x::l).length):=by rw[List.drop_set_of_lt (by omega)];congr 1;simp;omega
  rw[h3]
  simp
theorem yJ3 (c:Array Value) (hc:c.size=256):Tryz.prog.built 222 [(0,.agg c)]=some c:=by
 have hp:=yQh;cases hi:Tryz.prog.info? 222 with
 |none=>have:=yPk;rw[hi]at this;cases this
 |some it=>
  have h1:=yPk;rw[hi]at h1;simp only[Option.map_some,Option.some.injEq,Prod.mk.injEq]at h1;cases hu:Tryz.prog.underlying 222 with
  |none=>rw[hu]at hp;cases hp
  |some d=>
   rw[hu]at hp;cases d<;>try (cases hp;done)
   case struct fs=>
    simp only[]at hp;unfold Program.built;rw[hi,hu];simp only[];rw[h1.1,hp];simp only[];show Instr.fill _ (Array.replicate 256 (.bool false)) [(0,.agg c)]=_;unfold Instr.fill;have hv:(Value.agg c).cells=c:=rfl;simp only[List.getElem?_toArray,List.getElem?_cons_zero,hv,hc];have hz:(Array.replicate 256 (Value.bool false)).size=256:=by simp
    rw[if_neg (by simp[hz])];unfold Instr.fill;congr 1;have h3:=yK8 c.toList 0 (Array.replicate 256 (Value.bool false)).toList (by simp[hc]);rw[←Array.foldl_toList,Array.toList_zipIdx];have h4:(Array.replicate 256 (Value.bool false)).toList.toArray=Array.replicate 256 (Value.bool false):=Array.toArray_toList;rw[h4]at h3;refine Eq.trans h3 ?_;have h5:(Array.replicate 256 (Value.bool false)).toList.drop (0+c.toList.length)= []:=by simp[hc]
    rw[h5];apply Array.ext';simp
variable {ops:Array Oper} {rest:List Oper} {o:Oper} {a:Act}
theorem yBv (hg:o.guard=none) (t:TypeId) (parts:Array (Nat×Operand)) (ho:o.op=.build t parts) (cells:Array Value)
  (hb:Tryz.prog.built t (parts.map fun(i,x)=>(i,a.eval x)).toList=some cells) (h:wpList Tryz.prog ops Q rest (a.put o.dst (.agg cells)) w):wpList Tryz.prog ops Q (o::rest) a w:=by
 refine wpList_build hg t parts ho (by rw[hb];rfl) ?_;rw[hb];exact h
theorem yDj (hgd:o.guard=none) (F:FuncId) (vals:Array Value) (hrun:(execOp a.eval o).run Tryz.prog w=.ok (.enter F vals) w)
  (h:Calls Tryz.prog F vals w fun e w'=>match e with| .returned v=>wpList Tryz.prog ops Q rest (a.put o.dst v) w'| .panicked chain=>Q (.panic chain) a w'| .outgrown=>False):wpList Tryz.prog ops Q (o::rest) a w:=by
 refine wpList_plain hgd fun K hK=>?_;unfold Oper.wp;rw[hrun,Oper.upon_enter];refine h.mono ?_;intro e w' he;cases e with
 |returned v=>exact hK _ _ he
 |panicked chain=>exact he
 |outgrown=>exact he.elim
theorem yIi (hg:o.guard=none) (x:Operand) (ho:o.op=.move x) (h:wpList Tryz.prog ops Q rest (a.put o.dst (a.eval x)) w):wpList Tryz.prog ops Q (o::rest) a w:=by refine wpList_plain hg fun K hK=>?_;unfold Oper.wp execOp;simp only[ho,Sem.run_pure];exact hK _ _ h
def yCm (p:List UInt8) (i:Nat) (ng:Bool) (k:Nat) (b:Bool) (f:UInt8→Bool):Prop:=yBa p i=(match clsM p k b f with| .inl (f,k)=>.inl ((if ng=true then fun c=> !f c else f),k)| .inr e=>.inr e)
theorem yCm.eq {ng:Bool} {b:Bool} (h:yCm p i ng k b f):yBa p i=(match clsM p k b f with| .inl (f,k)=>.inl ((if ng=true then fun c=> !f c else f),k)| .inr e=>.inr e):=h
def atOf (w:World) (g:Nat):Nat:=match w.cell? ⟨g,1,none⟩with|some v=>(intOf v).toNat|none=>0
theorem yF4 {o:Nat} {p:ByteArray} (h:PrAt w base g p i o):atOf w g=i:=by unfold atOf;rw[h.cell (j:=1) rfl];simp[intOf]
theorem yQy {o:Nat} {p:ByteArray} (h:PrAt w base g p i o) (hp:p.size≤200) (hi:i≤p.size):
  Calls Tryz.prog 169 #[.pointer (some ⟨g,0,none⟩)] w fun e w'=>Chg (fun k=>k=g) w w'∧
   ((∃(f:UInt8→Bool) (k:Nat),yBa (sb p) i=.inl (f,k)∧e=.returned (clsV f)∧PrAt w' base g p k o)∨(∃(c:Int) (k:Nat),yBa (sb p) i=.inr (c,k)∧e=Pf c k)):=by
 have hgl:=h.lt.2;have HP:Hid (PrAt w base g p i o):=h;clear h;go_enter Tryz.func169,Tryz.ntmps169;go_wp2_with fail;refine(yEl 94 HP.out hp).mono ?_;rintro e w1 ⟨hC1,h1⟩;obtain⟨ng,j,rfl,hj,hP1,hM⟩:∃(ng:Bool) (j:Nat),e=.returned (.bool ng)∧j≤p.size∧PrAt w1 base g p j o∧yCm (sb p) i ng j false (fun _=>false):=by
  rcases h1 with⟨hx,rfl,hP⟩|⟨hx,rfl,hP⟩
  ·refine⟨true,i+1,rfl,by have:=(List.getElem?_eq_some_iff.1 hx).1;rw[yAn]at this;omega,hP,?_⟩;unfold yCm yBa;rw[if_pos hx];rfl
  ·refine⟨false,i,rfl,hi,hP,?_⟩;unfold yCm yBa;rw[if_neg hx];generalize clsM (sb p) i false (fun _=>false)=r;cases r<;>rfl
 have HW1:Hid (PrAt w1 base g p j o∧Chg (fun k=>k=g) w w1∧yCm (sb p) i ng j false (fun _=>false)):=⟨hP1,hC1,hM⟩;clear h1 hC1 hP1 hM HP;go_upto_region 2 with fail;apply wp_region_list;refine yIi rfl _ rfl ?_;refine yBv rfl _ _ rfl (setA (fun _=>false)) (by simp;exact yNu) ?_;simp only[Act.put,Act.eval,List.setIfInBounds_toArray,List.set_cons_succ,List.set_cons_zero];refine yDj rfl 170 #[.pointer (some ⟨g,0,none⟩),.agg (setA (fun _=>false))] (by simp[execOp,go_sem,Act.eval,Tryz.func170]) ?_;refine(yM9 (fun _=>false) HW1.1 hp hj).mono ?_;rintro e w2 ⟨hC2,(⟨a,b,k,hk,rfl,hP2⟩|⟨c,k,hk,rfl⟩)⟩;case inr=>
  refine⟨rfl,HW1.2.1.trans hC2,.inr ⟨c,k,?_,rfl⟩⟩;rw[HW1.2.2.eq,yJx (by rw[yAn];exact hj),hk]
 obtain⟨fs,hfs⟩:=qE (wider (fun _=>false) a b);have hkp:k≤p.size:=by have:=(yHr hk).2.1;rw[yAn]at this;exact this
 have HW2:Hid (PrAt w2 base g p k o∧Chg (fun k=>k=g) w w2∧yCm (sb p) i ng k true fs):=by refine⟨hP2,HW1.2.1.trans hC2,?_⟩;unfold yCm;rw[HW1.2.2.eq,yJx (by rw[yAn];exact hj),hk,hfs]
 rw[←hfs];clear hC2 hk hP2 HW1 hfs;simp only[Act.put,List.setIfInBounds_toArray,List.set_cons_succ,List.set_cons_zero];have hs2:=HW2.2.1.size;have hzv:=(zero_of_info yDx).1;have hsz:=yAi fs;have hsc:=run_storeCells_new (P:=Tryz.prog) w2 219 (Array.replicate 256 (.bool false)) (setA fs) (by rw[yAi];exact(zero_of_info yDx).2) (by rw[yAi];simp) (yGb fs);obtain⟨W3,hW3⟩:=qE (w2.alloc (.cells (setA fs) 219));have HW3:Hid (PrAt W3 base g p k o∧Chg (fun k=>k=g) w W3∧yBe W3 w.heap.size w2.heap.size fs∧w.heap.size≤w2.heap.size):=by rw[hW3];have hb:Below w2.heap.size w2 (w2.alloc (.cells (setA fs) 219)):=qB;exact⟨yA.below HW2.1 hb,HW2.2.1.trans (Chg.of_below hb),yA.ofHeap (heap_alloc_last w2 _) hs2 (yAi fs),hs2⟩
 have HM:Hid (yCm (sb p) i ng k true fs):=HW2.2.2;go_wp2_with fail;rw[←hW3];obtain⟨SB,hSB⟩:=qE w2.heap.size;rw[←hSB]at HW3;rw[←hSB];have hsbl:w.heap.size≤SB:=by omega
 clear hW3 hsc hzv hsz HW2 hSB hs2;have hgsb:¬g=SB:=by omega
 go_loopw[] (fun wr=>∃(k:Nat) (f:UInt8→Bool),k≤p.size∧PrAt wr base g p k o∧Chg (fun k=>k=g) w wr∧yBe wr w.heap.size SB f∧yCm (sb p) i ng k true f) (fun wr=>p.size-atOf wr g);case atStart=>exact⟨k,fs,hkp,HW3.1,HW3.2.1,HW3.2.2.1,HM.out⟩
 case round=>
  clear HW3 HM;obtain⟨k,f,hk,h1,h2,h3,h4⟩:=hrel;have HR:Hid (PrAt wr base g p k o∧Chg (fun k=>k=g) w wr∧yBe wr w.heap.size SB f∧yCm (sb p) i ng k true f):=⟨h1,h2,h3,h4⟩;have HA:Hid (atOf wr g=k):=yF4 h1;clear h1 h2 h3 h4 hkp;go_wp2_with fail;refine(yEl 93 HR.1 hp).mono ?_;rintro e w5 ⟨hC5,(⟨hx,rfl,hP5⟩|⟨hx,rfl,hP5⟩)⟩
  ·have HF:Hid (PrAt w5 base g p (k+1) o∧Chg (fun k=>k=g) w w5∧yBe w5 w.heap.size SB f∧yBa (sb p) i=.inl ((if ng=true then fun c=> !f c else f),k+1)):=by refine⟨hP5,HR.2.1.trans hC5,yA.chg HR.2.2.1 hC5 (by omega),?_⟩;rw[HR.2.2.2.eq,yL4 hx]
   clear hC5 hx hP5 HR HA;have hi2:(Tryz.prog.info? 219).map (·.size)=some 256:=(zero_of_info yDx).2;cases ng
   ·have h0:=yBe.heap HF.2.2.1;go_upto_region 7 with fail;apply wp_region_list;refine wpList_load_row rfl 219 _ rfl SB rfl 219 (setA f) (0,0) _ h0 Tryz.underlying219 rfl (by rw[yAi];exact hi2) ?_;simp only[Act.put,Act.eval,List.setIfInBounds_toArray,List.set_cons_succ,List.set_cons_zero];refine yBv rfl _ _ rfl (setA f) (by simp[Act.eval];exact yJ3 _ (yAi f)) ?_;simp only[Act.put,Act.eval,List.setIfInBounds_toArray,List.set_cons_succ,List.set_cons_zero];clear h0;go_wp2_with fail;go_ret;exact⟨HF.2.1,.inl ⟨f,k+1,HF.2.2.2,rfl,HF.1⟩⟩
   ·have h0:=yBe.heap HF.2.2.1;go_upto_region 6 with fail;apply wp_region_list;refine wpList_load_row rfl 219 _ rfl SB rfl 219 (setA f) (0,0) _ h0 Tryz.underlying219 rfl (by rw[yAi];exact hi2) ?_;simp only[Act.put,Act.eval,List.setIfInBounds_toArray,List.set_cons_succ,List.set_cons_zero];refine yDj rfl 167 #[.agg (setA f)] (by simp[execOp,go_sem,Act.eval,Tryz.func167]) ?_;refine(yHe f w5).mono ?_;rintro e w6 ⟨rfl,hb6⟩;simp only[Act.put,Act.eval,List.setIfInBounds_toArray,List.set_cons_succ,List.set_cons_zero];have HF6:Hid (PrAt w6 base g p (k+1) o∧Chg (fun k=>k=g) w w6∧yBe w6 w.heap.size SB f):=⟨yA.below HF.1 hb6,HF.2.1.trans (Chg.of_below hb6),yA.below HF.2.2.1 hb6⟩;have h6:=yBe.heap HF6.2.2;refine wpList_store_row rfl 219 _ _ rfl SB (setA (fun c=> !f c)) rfl rfl 219 (setA f) h6 (by rw[yAi];exact hi2) (by rw[yAi,yAi]) (yGb _) ?_;have h7:=setRow_heap _ _ _ (setA (fun c=> !f c)) _ _ h6;obtain⟨W7,hW7⟩:=qE (w6.setRow SB (setA (fun c=> !f c)));have HF7:Hid (PrAt W7 base g p (k+1) o∧Chg (fun k=>k=g) w W7):=by have hc:=yGh w6 SB (setA (fun c=> !f c));rw[hW7];exact⟨yA.chg HF6.1 hc (by omega),HF6.2.1.absorb hc (fun j q=>.inr (by omega))⟩
    rw[←hW7]at h7⊢;clear hW7 h6 h0 hb6;apply wpList_nil;go_upto_region 7 with fail;apply wp_region_list;refine wpList_load_row rfl 219 _ rfl SB rfl 219 (setA (fun c=> !f c)) (0,0) _ h7 Tryz.underlying219 rfl (by rw[yAi];exact hi2) ?_;simp only[Act.put,Act.eval,List.setIfInBounds_toArray,List.set_cons_succ,List.set_cons_zero];refine yBv rfl _ _ rfl (setA (fun c=> !f c)) (by simp[Act.eval];exact yJ3 _ (yAi _)) ?_;simp only[Act.put,Act.eval,List.setIfInBounds_toArray,List.set_cons_succ,List.set_cons_zero];clear h7;go_wp2_with fail;go_ret;exact⟨HF7.2,.inl ⟨fun c=> !f c,k+1,HF.2.2.2,rfl,HF7.1⟩⟩
  ·have HF:Hid (PrAt w5 base g p k o∧Chg (fun k=>k=g) w w5∧yBe w5 w.heap.size SB f∧¬(sb p)[k]?=some 93):=⟨hP5,HR.2.1.trans hC5,yA.chg HR.2.2.1 hC5 (by omega),hx⟩;have HM:Hid (yCm (sb p) i ng k true f):=HR.2.2.2;clear hC5 hx hP5 HR;have hi2:(Tryz.prog.info? 219).map (·.size)=some 256:=(zero_of_info yDx).2;have h0:=yBe.heap HF.2.2.1;go_upto_region 4 with fail;apply wp_region_list;refine yIi rfl _ rfl ?_;refine wpList_load_row rfl 219 _ rfl SB rfl 219 (setA f) (0,0) _ h0 Tryz.underlying219 rfl (by rw[yAi];exact hi2) ?_;simp only[Act.put,Act.eval,List.setIfInBounds_toArray,List.set_cons_succ,List.set_cons_zero];refine yDj rfl 170 #[.pointer (some ⟨g,0,none⟩),.agg (setA f)] (by simp[execOp,go_sem,Act.eval,Tryz.func170]) ?_;refine(yM9 f HF.1 hp hk).mono ?_;rintro e w6 ⟨hC6,(⟨a,b,k6,hk6,rfl,hP6⟩|⟨c,k6,hk6,rfl⟩)⟩;case inr=>
    refine⟨rfl,HF.2.1.trans hC6,.inr ⟨c,k6,?_,rfl⟩⟩;rw[HM.eq,yL5 (by rw[yAn];exact hk) HF.2.2.2,hk6]
   have HF6:Hid (PrAt w6 base g p k6 o∧Chg (fun k=>k=g) w w6∧yBe w6 w.heap.size SB f):=⟨hP6,HF.2.1.trans hC6,yA.chg HF.2.2.1 hC6 (by omega)⟩;have hgt:=yHr hk6;rw[yAn]at hgt;have HM6:Hid (yCm (sb p) i ng k6 true (wider f a b)):=by show yCm _ _ _ _ _ _;unfold yCm;rw[HM.eq,yL5 (by rw[yAn];exact hk) HF.2.2.2,hk6]
   clear hC6 hk6 hP6 h0 HM HF;simp only[Act.put,Act.eval,List.setIfInBounds_toArray,List.set_cons_succ,List.set_cons_zero];have h6:=yBe.heap HF6.2.2;refine wpList_store_row rfl 219 _ _ rfl SB (setA (wider f a b)) rfl rfl 219 (setA f) h6 (by rw[yAi];exact hi2) (by rw[yAi,yAi]) (yGb _) ?_;have h7:=setRow_heap _ _ _ (setA (wider f a b)) _ _ h6;obtain⟨W7,hW7⟩:=qE (w6.setRow SB (setA (wider f a b)));have HF7:Hid (PrAt W7 base g p k6 o∧Chg (fun k=>k=g) w W7∧yBe W7 w.heap.size SB (wider f a b)):=by
    have hc:=yGh w6 SB (setA (wider f a b));rw[←hW7]at h7;refine⟨?_,?_,yA.ofHeap h7 hsbl (yAi _)⟩
    ·rw[hW7];exact yA.chg HF6.1 hc (by omega)
    ·rw[hW7];exact HF6.2.1.absorb hc (fun j q=>.inr (by omega))
   rw[←hW7];clear hW7 h6 h7;apply wpList_nil;go_wp2_with fail;go_roundw;case rel=>
    exact⟨_,_,_,_,_,_,⟨k6,wider f a b,hgt.2.1,HF7.1,HF7.2.1,HF7.2.2,HM6.out⟩,rfl⟩
   case measure=>rw[HA.out,yF4 HF7.1];omega
theorem yFr {x c:UInt8} (h:¬x=c):¬(x.toNat:Int)=(c.toNat:Int):=fun q=>h (UInt8.toNat_inj.1 (by omega))
theorem yHn (p:ByteArray) (i:Nat) (w:World) (hp:p.size≤200) (hi:i≤300) (c:UInt8) (k:Nat) (b:Bool) (h:chM (sb p) i=(c,k,b)):
  Calls Tryz.prog 124 #[.string p,.int .i64 (i:Int)] w fun e w'=>e=.returned (.tuple #[.int .u8 (c.toNat:Int),.int .i64 (k:Int),.bool b])∧w'=w:=by
 have HM:Hid (chM (sb p) i=(c,k,b)):=h;clear h;by_cases hlt:i<p.size
 ·obtain⟨x,hx⟩:∃x,(sb p)[i]?=some x:=⟨_,List.getElem?_eq_getElem (by rw[yAn];exact hlt)⟩;obtain⟨_,gx⟩:=yD4 hx;have z1:(i:Int)<(p.size:Int):=by omega
  have hle:¬p.size≤i:=by omega
  have HX:Hid ((sb p)[i]?=some x):=hx;clear hx;by_cases hend:x=93∨x=45
  ·have HF:c=0∧k=i∧b=false:=by
    have h1:chM (sb p) i=(0,i,false):=by unfold chM;rw[HX.out];simp only[];rw[if_pos hend]
    rw[HM.out]at h1;simpa using h1
   obtain⟨rfl,rfl,rfl⟩:=HF;rcases hend with rfl|rfl;all_goals go_enter Tryz.func124,Tryz.ntmps124
   all_goals go_wp2_with fail
   all_goals refine bodyPost_ret (v:=.tuple #[.int .u8 0,.int .i64 (k:Int),.bool false]) (by simp[results,Tryz.results124,go_sem]) rfl ⟨rfl,rfl⟩
  have h93:((x.toNat:Int)==93)=false:=beq_eq_false_iff_ne.2 (yFr (c:=93) (fun q=>hend (.inl q)));have h45:((x.toNat:Int)==45)=false:=beq_eq_false_iff_ne.2 (yFr (c:=45) (fun q=>hend (.inr q)));by_cases h92:x=92
  ·subst h92;by_cases hl2:i+1<p.size
   ·obtain⟨y,hy⟩:∃y,(sb p)[i+1]?=some y:=⟨_,List.getElem?_eq_getElem (by rw[yAn];exact hl2)⟩;obtain⟨_,gy⟩:=yD4 hy;have HF:c=y∧k=i+2∧b=true:=by
     have h1:chM (sb p) i=(y,i+2,true):=by rw[yL7 HX.out,hy]
     rw[HM.out]at h1;simpa using h1
    obtain⟨rfl,rfl,rfl⟩:=HF;have z2:(i:Int)+1<(p.size:Int):=by omega
    clear hy;go_enter Tryz.func124,Tryz.ntmps124;go_wp2_with fail;refine bodyPost_ret (v:=.tuple #[.int .u8 (c.toNat:Int),.int .i64 ((i+2:Nat):Int),.bool true]) (by simp[results,Tryz.results124,go_sem]) rfl ⟨rfl,rfl⟩
   ·have HF:c=0∧k=i+1∧b=false:=by
     have h1:chM (sb p) i=(0,i+1,false):=by rw[yL7 HX.out,List.getElem?_eq_none (by rw[yAn];omega)]
     rw[HM.out]at h1;simpa using h1
    obtain⟨rfl,rfl,rfl⟩:=HF;have z2:¬(i:Int)+1<(p.size:Int):=by omega
    go_enter Tryz.func124,Tryz.ntmps124;go_wp2_with fail;refine bodyPost_ret (v:=.tuple #[.int .u8 0,.int .i64 ((i+1:Nat):Int),.bool false]) (by simp[results,Tryz.results124,go_sem]) rfl ⟨rfl,rfl⟩
  ·have z92:((x.toNat:Int)==92)=false:=beq_eq_false_iff_ne.2 (yFr (c:=92) h92);have HF:c=x∧k=i+1∧b=true:=by
    have h1:chM (sb p) i=(x,i+1,true):=by unfold chM;rw[HX.out];simp only[];rw[if_neg hend,if_neg h92]
    rw[HM.out]at h1;simpa using h1
   obtain⟨rfl,rfl,rfl⟩:=HF;go_enter Tryz.func124,Tryz.ntmps124;go_wp2_with fail;refine bodyPost_ret (v:=.tuple #[.int .u8 (c.toNat:Int),.int .i64 ((i+1:Nat):Int),.bool true]) (by simp[results,Tryz.results124,go_sem]) rfl ⟨rfl,rfl⟩
 ·have HF:c=0∧k=i∧b=false:=by have h1:chM (sb p) i=(0,i,false):=yOl (List.getElem?_eq_none (by rw[yAn];omega));rw[HM.out]at h1;simpa using h1
  obtain⟨rfl,rfl,rfl⟩:=HF;have z1:¬(k:Int)<(p.size:Int):=by omega
  have z2:(p.size:Int)≤(k:Int):=by omega
  go_enter Tryz.func124,Tryz.ntmps124;go_wp2_with fail;refine bodyPost_ret (v:=.tuple #[.int .u8 0,.int .i64 (k:Int),.bool false]) (by simp[results,Tryz.results124,go_sem]) rfl ⟨rfl,rfl⟩
theorem yS0 (c:UInt8) (w:World):Calls Tryz.prog 106 #[.int .u8 (c.toNat:Int)] w fun e w'=>e=.returned (.bool (decide (isOp c)))∧w'=w:=by
 by_cases h42:c=42
 ·subst h42;exact yXt
 by_cases h43:c=43
 ·subst h43;exact yXt
 by_cases h63:c=63
 ·subst h63;exact yXt
 have z1:((c.toNat:Int)==42)=false:=beq_eq_false_iff_ne.2 (yFr (c:=42) h42);have z2:((c.toNat:Int)==43)=false:=beq_eq_false_iff_ne.2 (yFr (c:=43) h43);have z3:((c.toNat:Int)==63)=false:=beq_eq_false_iff_ne.2 (yFr (c:=63) h63);have H:Hid (decide (isOp c)=false):=decide_eq_false (fun q=>q.elim h42 (fun q=>q.elim h43 h63));go_enter Tryz.func106,Tryz.ntmps106;go_wp2_with fail;go_ret;exact⟨by rw[H.out];(first|rfl|simp[z3]),rfl⟩
theorem yXi {b:Bool} (hj:j≤p.length) (h:¬(p[j]?=some 93∧b=true)):clsM p j b f=match yCx p j with| .inr e=>.inr e| .inl (a,b,k)=>clsM p k true (wider f a b):=by
 cases b
 ·exact yJx hj
 ·exact yL5 hj (fun q=>h ⟨q,rfl⟩)
def ClassP (p:ByteArray) (i:Nat) (e:Ending):Prop:=
 (∃f k,yBa (sb p) i=.inl (f,k)∧e=.returned (.tuple #[.int .i64 (k:Int),.agg #[.int .i64 0,.int .i64 0]]))∨(∃c k,yBa (sb p) i=.inr (c,k)∧e=.returned (.tuple #[.int .i64 0,.agg #[.int .i64 c,.int .i64 (k:Int)]]))
theorem yCt {rb:Nat} {x z:Value} (hx:a.tmps.getD 4 undef=x) (ht:a.tmps.getD 5 undef=.pointer (some ⟨rb,0,none⟩)) (he:yA w base 125 2 rb [y,z]):
  (results Tryz.f107 a.tmps).run Tryz.prog w=.ok (.tuple #[x,.agg #[y,z]]) w:=by
 obtain⟨q0,q1⟩:=he.c2;have h1:a.tmps[4]?.getD undef=x:=by rw[←Array.getD_eq_getD_getElem?];exact hx
 have h2:a.tmps[5]?.getD undef=.pointer (some ⟨rb,0,none⟩):=by rw[←Array.getD_eq_getD_getElem?];exact ht
 simp[results,Tryz.results107,go_sem,h1,h2,q0,q1]
theorem yM5 (p:ByteArray) (i:Nat) (w:World) (hp:p.size≤200) (hi:i<p.size):
  Calls Tryz.prog 107 #[.string p,.int .i64 (i:Int)] w fun e w'=>ClassP p (i+1) e∧Below w.heap.size w w':=by
 obtain⟨W0,hW0⟩:=qE (w.alloc (Obj.cells #[.int .i64 0,.int .i64 0] 125):World);have HW0:Hid (yA W0 w.heap.size 125 2 w.heap.size [.int .i64 0,.int .i64 0]∧Below w.heap.size w W0):=by rw[hW0];exact⟨yAb w _ (Nat.le_refl _) rfl,qB⟩
 have HS:Hid (∀a b:Value,yA ((W0.setCell ⟨w.heap.size,0,none⟩ a).setCell ⟨w.heap.size,1,none⟩ b) w.heap.size 125 2 w.heap.size [a,b]∧Below w.heap.size w ((W0.setCell ⟨w.heap.size,0,none⟩ a).setCell ⟨w.heap.size,1,none⟩ b)):=fun a b=>⟨(HW0.1.set 0 a).set 1 b,yAd (yAd HW0.2 (Nat.le_refl _) 0 _) (Nat.le_refl _) 1 _⟩;obtain⟨r0,r1⟩:=HW0.1.c2;obtain⟨f0,f1⟩:=HW0.1.f2;clear HW0;obtain⟨ng,j0,hng,hj0,hM0⟩:∃(ng:Bool) (j0:Nat),j0=(if ng=true then i+2 else i+1)∧j0≤p.size∧(yCm (sb p) (i+1) ng j0 false (fun _=>false)∧(ng=true↔(sb p)[i+1]?=some 94)):=by
  by_cases hx:(sb p)[i+1]?=some 94
  ·refine⟨true,i+2,rfl,by have:=yBh hx;rw[yAn]at this;omega,?_,⟨fun _=>hx,fun _=>rfl⟩⟩;unfold yCm yBa;rw[if_pos hx];rfl
  ·refine⟨false,i+1,rfl,by omega,?_,⟨fun q=>(by cases q),fun q=>absurd q hx⟩⟩;unfold yCm yBa;rw[if_neg hx];generalize clsM (sb p) (i+1) false (fun _=>false)=r;cases r<;>rfl
 have HM0:Hid (yCm (sb p) (i+1) ng j0 false (fun _=>false)):=hM0.1;have HNG:Hid (ng=true↔(sb p)[i+1]?=some 94):=hM0.2;have HJ0:Hid (j0=if ng=true then i+2 else i+1):=hng;clear hM0 hng;go_enter Tryz.func107,Tryz.ntmps107;go_upto_region 1 with fail;rw[←hW0];clear hW0;by_cases hi1:i+1<p.size
 ·obtain⟨x0,hx0⟩:∃x,(sb p)[i+1]?=some x:=⟨_,List.getElem?_eq_getElem (by rw[yAn];exact hi1)⟩;obtain⟨_,gx0⟩:=yD4 hx0;have zi1:(i:Int)+1<(p.size:Int):=by omega
  cases ng
  ·have z94:((x0.toNat:Int)==94)=false:=beq_eq_false_iff_ne.2 (yFr (c:=94) (fun q=>by have h1:=HNG.2 (by rw[hx0,q]);cases h1));clear hx0;exact zzQ4
  ·have h94:x0=94:=by have h1:=HNG.1 rfl;rw[hx0]at h1;exact Option.some.inj h1
   subst h94;clear hx0;go_wp2_with fail;go_loopw[6,7] (fun jv nv wr=>∃(j n:Nat) (f:UInt8→Bool),j≤p.size∧n≤j∧jv=.int .i64 (j:Int)∧nv=.int .i64 (n:Int)∧yCm (sb p) (i+1) true j (decide (0<n)) f∧wr=W0) (fun jv _ _=>p.size-(intOf jv).toNat);case atStart=>exact⟨j0,0,fun _=>false,hj0,Nat.zero_le _,congrArg (Value.int .i64) (by rw[HJ0.out];simp<;>omega),rfl,HM0.out,rfl⟩
   case round=>
    obtain⟨j,n,f,hj,hnj,rfl,rfl,hE,hwr⟩:=hrel;have HE:Hid (yCm (sb p) (i+1) true j (decide (0<n)) f):=hE;rw[hwr];clear hE hwr HM0 HJ0 HNG;by_cases hlt:j<p.size
    ·obtain⟨x,hx⟩:∃x,(sb p)[j]?=some x:=⟨_,List.getElem?_eq_getElem (by rw[yAn];exact hlt)⟩;obtain⟨_,gx⟩:=yD4 hx;have HX:Hid ((sb p)[j]?=some x):=hx;have zj:(j:Int)<(p.size:Int):=by omega
     clear hx;by_cases hend:x=93∧0<n
     ·obtain⟨rfl,hn0⟩:=hend;have zn:(0:Int)<(n:Int):=by omega
      have HF:Hid (∃f',yBa (sb p) (i+1)=.inl (f',j+1)):=by refine⟨if true=true then fun c=> !f c else f,?_⟩;rw[HE.eq,decide_eq_true hn0,yL4 HX.out]
      obtain⟨f',hf'⟩:=HF.out;have HF':Hid (yBa (sb p) (i+1)=.inl (f',j+1)):=hf';clear hf' HF;go_wp2_with fail;exact bodyPost_ret (v:=.tuple #[.int .i64 ((j+1:Nat):Int),.agg #[.int .i64 0,.int .i64 0]]) (yCt rfl rfl (HS.out (.int .i64 0) (.int .i64 0)).1) rfl ⟨.inl ⟨f',j+1,HF'.out,rfl⟩,(HS.out (.int .i64 0) (.int .i64 0)).2⟩
     ·have HG:Hid (clsM (sb p) j (decide (0<n)) f=match yCx (sb p) j with| .inr e=>.inr e| .inl (a,b,k)=>clsM (sb p) k true (wider f a b)):=yXi (by rw[yAn];omega) (fun q=>hend ⟨by have h1:=q.1;rw[HX.out]at h1;exact Option.some.inj h1,by simpa using q.2⟩);obtain⟨lo,k,b,hch⟩:∃lo k b,chM (sb p) j=(lo,k,b):=⟨_,_,_,rfl⟩;have HCh:Hid (chM (sb p) j=(lo,k,b)):=hch;have hkl:b=true→k≤p.size∧j<k:=fun q=>by subst q;have:=yJ0 hch;rw[yAn]at this;omega
      clear hch;have hpick:((x.toNat:Int)==93)=false∨(¬(0:Int)<(n:Int)):=by
       by_cases h93:x=93
       ·exact .inr (fun q=>hend ⟨h93,by omega⟩)
       ·exact .inl (beq_eq_false_iff_ne.2 (yFr (c:=93) h93))
      clear hend;have hpk:(((x.toNat:Int)==93)=false)∨(((x.toNat:Int)==93)=true∧n=0):=by
       rcases hpick with q|q
       ·exact .inl q
       ·cases hq:((x.toNat:Int)==93)
        ·exact .inl rfl
        ·exact .inr ⟨rfl,by omega⟩
      clear hpick;rcases hpk with h93|⟨h93,hn0⟩;case' inr=>
       have zn:¬(0:Int)<(n:Int):=by omega
       clear hn0
      all_goals
       go_wp2_with fail
       refine(yHn p j W0 hp (by omega) lo k b HCh.out).mono ?_
       rintro e w1 ⟨rfl,hw1⟩
       rw[hw1]
       clear hw1
       cases b
       case false=>
        have HF:Hid (yBa (sb p) (i+1)=.inr (2,k)):=by show yBa (sb p) (i+1)=_;rw[HE.eq,HG.out];unfold yCx;rw[HCh.out]
        go_wp2_with fail;exact bodyPost_ret (v:=.tuple #[.int .i64 0,.agg #[.int .i64 2,.int .i64 (k:Int)]]) (yCt rfl rfl (HS.out (.int .i64 2) (.int .i64 (k:Int))).1) rfl ⟨.inr ⟨2,k,HF.out,rfl⟩,(HS.out (.int .i64 2) (.int .i64 (k:Int))).2⟩
       obtain⟨hks,hjk⟩:=hkl rfl
       clear hkl
       by_cases h45:(sb p)[k]?=some 45
       ·obtain⟨hk2,gk⟩:=yD4 h45;have HK:Hid ((sb p)[k]?=some 45):=h45;have zk:(k:Int)<(p.size:Int):=by omega
        obtain⟨hh,m,b2,hch2⟩:∃hh m b2,chM (sb p) (k+1)=(hh,m,b2):=⟨_,_,_,rfl⟩;have HCh2:Hid (chM (sb p) (k+1)=(hh,m,b2)):=hch2;have hml:b2=true→m≤p.size∧k<m:=fun q=>by subst q;have:=yJ0 hch2;rw[yAn]at this;omega
        clear hch2 h45;go_wp2_with fail;refine(yHn p (k+1) W0 hp (by omega) hh m b2 HCh2.out).mono ?_;rintro e w2 ⟨rfl,hw2⟩;rw[hw2];clear hw2;cases b2
        ·have HF:Hid (yBa (sb p) (i+1)=.inr (2,m)):=by show yBa (sb p) (i+1)=_;rw[HE.eq,HG.out];unfold yCx;rw[HCh.out];simp only[];rw[if_pos HK.out,HCh2.out]
         go_wp2_with fail;exact bodyPost_ret (v:=.tuple #[.int .i64 0,.agg #[.int .i64 2,.int .i64 (m:Int)]]) (yCt rfl rfl (HS.out (.int .i64 2) (.int .i64 (m:Int))).1) rfl ⟨.inr ⟨2,m,HF.out,rfl⟩,(HS.out (.int .i64 2) (.int .i64 (m:Int))).2⟩
        ·obtain⟨hms,hkm⟩:=hml rfl;clear hml;by_cases hlo:hh<lo
         ·have zlo:(hh.toNat:Int)<(lo.toNat:Int):=by have:=UInt8.lt_iff_toNat_lt.1 hlo;omega
          have HF:Hid (yBa (sb p) (i+1)=.inr (4,j)):=by show yBa (sb p) (i+1)=_;rw[HE.eq,HG.out];unfold yCx;rw[HCh.out];simp only[];rw[if_pos HK.out,HCh2.out];simp only[];rw[if_pos hlo]
          go_wp2_with fail;exact bodyPost_ret (v:=.tuple #[.int .i64 0,.agg #[.int .i64 4,.int .i64 (j:Int)]]) (yCt rfl rfl (HS.out (.int .i64 4) (.int .i64 (j:Int))).1) rfl ⟨.inr ⟨4,j,HF.out,rfl⟩,(HS.out (.int .i64 4) (.int .i64 (j:Int))).2⟩
         ·have zlo:(lo.toNat:Int)≤(hh.toNat:Int):=by have:=UInt8.le_iff_toNat_le.1 (UInt8.not_lt.1 hlo);omega
          have HF:Hid (yCm (sb p) (i+1) true m true (wider f lo hh)):=by show yCm _ _ _ _ _ _;unfold yCm;rw[HE.eq,HG.out];unfold yCx;rw[HCh.out];simp only[];rw[if_pos HK.out,HCh2.out];simp only[];rw[if_neg hlo]
          clear hlo;go_wp2_with fail;go_roundw;case rel=>exact⟨m,n+1,wider f lo hh,hms,by omega,rfl,by go_num,by rw[decide_eq_true (Nat.succ_pos n)];exact HF.out,trivial⟩
          case measure=>simp[intOf];omega
       ·have HK:Hid (¬(sb p)[k]?=some 45):=h45;have HF:Hid (yCm (sb p) (i+1) true k true (wider f lo lo)):=by show yCm _ _ _ _ _ _;unfold yCm;rw[HE.eq,HG.out];unfold yCx;rw[HCh.out];simp only[];rw[if_neg HK.out]
        clear h45;by_cases hke:k<p.size
        ·obtain⟨y,hy⟩:∃y,(sb p)[k]?=some y:=⟨_,List.getElem?_eq_getElem (by rw[yAn];exact hke)⟩;obtain⟨_,gy⟩:=yD4 hy;have zk:(k:Int)<(p.size:Int):=by omega
         have zy:((y.toNat:Int)==45)=false:=beq_eq_false_iff_ne.2 (yFr (c:=45) (fun q=>HK.out (by rw[hy,q])));clear hy;go_wp2_with fail;go_roundw;case rel=>exact⟨k,n+1,wider f lo lo,hks,by omega,rfl,by go_num,by rw[decide_eq_true (Nat.succ_pos n)];exact HF.out,trivial⟩
         case measure=>simp[intOf];omega
        ·have zk:¬(k:Int)<(p.size:Int):=by omega
         go_wp2_with fail;go_roundw;case rel=>exact⟨k,n+1,wider f lo lo,hks,by omega,rfl,by go_num,by rw[decide_eq_true (Nat.succ_pos n)];exact HF.out,trivial⟩
         case measure=>simp[intOf];omega
    ·have HF:Hid (yBa (sb p) (i+1)=.inr (2,p.size)):=by show yBa (sb p) (i+1)=_;rw[HE.eq,clsM,dif_neg (by rw[yAn];exact hlt),yAn]
     have zj:¬(j:Int)<(p.size:Int):=by omega
     go_wp2_with fail;exact bodyPost_ret (v:=.tuple #[.int .i64 0,.agg #[.int .i64 2,.int .i64 (p.size:Int)]]) (yCt rfl rfl (HS.out (.int .i64 2) (.int .i64 (p.size:Int))).1) rfl ⟨.inr ⟨2,p.size,HF.out,rfl⟩,(HS.out (.int .i64 2) (.int .i64 (p.size:Int))).2⟩
 ·have zi1:¬(i:Int)+1<(p.size:Int):=by omega
  cases ng
  case true=>exact absurd (HNG.1 rfl) (by rw[List.getElem?_eq_none (by rw[yAn];omega)];exact fun q=>by cases q)
  exact zzQ4
def yB0 (p:List UInt8):Int×Nat:=if 200<p.length then(1,0)else chkM p 0 0 false
theorem yZ0 {rb:Nat} {z:Value} (ht:a.tmps.getD 2 undef=.pointer (some ⟨rb,0,none⟩)) (he:yA w base 125 2 rb [y,z]):
  (results Tryz.f78 a.tmps).run Tryz.prog w=.ok (.agg #[y,z]) w:=by
 obtain⟨q0,q1⟩:=he.c2;have h2:a.tmps[2]?.getD undef=.pointer (some ⟨rb,0,none⟩):=by rw[←Array.getD_eq_getD_getElem?];exact ht
 simp[results,Tryz.results78,go_sem,h2,q0,q1]
def ChkP (p:ByteArray) (w:World) (e:Ending) (w':World):Prop:=e=.returned (.agg #[.int .i64 (yB0 (sb p)).1,.int .i64 ((yB0 (sb p)).2:Int)])∧Below w.heap.size w w'
theorem yF {p:ByteArray} {wr:World} {c:Int} (hM:yB0 (sb p)=(c,k)) (hd:a.defers= []) (ht:a.tmps.getD 2 undef=.pointer (some ⟨w.heap.size,0,none⟩)) (hx:yA wr w.heap.size 125 2 w.heap.size [.int .i64 0,.int .i64 0]) (hb:Below w.heap.size w wr):
  bodyPost Tryz.prog Tryz.f78 (ChkP p w) .ret a ((wr.setCell ⟨w.heap.size,0,none⟩ (.int .i64 c)).setCell ⟨w.heap.size,1,none⟩ (.int .i64 (k:Int))):=
 bodyPost_ret (v:=.agg #[.int .i64 c,.int .i64 (k:Int)]) (yZ0 ht ((hx.set 0 _).set 1 _)) hd ⟨by rw[hM],yAd (yAd hb (Nat.le_refl _) 0 _) (Nat.le_refl _) 1 _⟩
theorem yGp (p:ByteArray) (w:World) (hpm:p.size≤maxLen):Calls Tryz.prog 78 #[.string p] w (ChkP p w):=by
 obtain⟨W0,hW0⟩:=qE (w.alloc (Obj.cells #[.int .i64 0,.int .i64 0] 125):World);have HW0:Hid (yA W0 w.heap.size 125 2 w.heap.size [.int .i64 0,.int .i64 0]∧Below w.heap.size w W0):=by rw[hW0];exact⟨yAb w _ (Nat.le_refl _) rfl,qB⟩
 unfold maxLen at hpm;by_cases hp:200<p.size
 ·have HM:Hid (yB0 (sb p)=(1,0)):=by show yB0 (sb p)=_;unfold yB0;rw[if_pos (by rw[yAn];exact hp)]
  have z2:(200:Int)<(p.size:Int):=by omega
  obtain⟨r0,r1⟩:=HW0.1.c2;obtain⟨f0,f1⟩:=HW0.1.f2;go_enter Tryz.func78,Tryz.ntmps78;go_upto_region 1 with fail;rw[←hW0];clear hW0;go_wp2_with fail;exact yF HM.out rfl rfl HW0.1 HW0.2
 have hp2:p.size≤200:=by omega
 have HM:Hid (yB0 (sb p)=chkM (sb p) 0 0 false):=by show yB0 (sb p)=_;unfold yB0;rw[if_neg (by rw[yAn];exact hp)]
 have z2:¬(200:Int)<(p.size:Int):=by omega
 go_enter Tryz.func78,Tryz.ntmps78;go_upto_region 1 with fail;rw[←hW0];clear hW0 hp;go_wp2_with fail;go_loopw[3,4,5] (fun ov av iv wr=>∃(i o:Nat) (a:Bool),i≤p.size∧o≤i∧ov=.int .i64 (o:Int)∧av=.bool a∧iv=.int .i64 (i:Int)∧yB0 (sb p)=chkM (sb p) i o a∧Below W0.heap.size W0 wr) (fun _ _ iv _=>p.size-(intOf iv).toNat);case atStart=>exact⟨0,0,false,Nat.zero_le _,Nat.zero_le _,rfl,rfl,rfl,HM.out,Below.refl _ _⟩
 case round=>
  obtain⟨i,o,a,hi,hoi,rfl,rfl,rfl,hE,hb⟩:=hrel;have HE:Hid (yB0 (sb p)=chkM (sb p) i o a):=hE;have HX:Hid (yA wr w.heap.size 125 2 w.heap.size [.int .i64 0,.int .i64 0]∧Below w.heap.size w wr):=⟨HW0.1.below hb,HW0.2.trans (hb.mono HW0.2.size)⟩;have HB:Hid (Below W0.heap.size W0 wr):=hb;obtain⟨r0,r1⟩:=HX.1.c2;obtain⟨f0,f1⟩:=HX.1.f2;clear hE hb HM;by_cases hlt:i<p.size
  ·obtain⟨c,hc⟩:∃x,(sb p)[i]?=some x:=⟨_,List.getElem?_eq_getElem (by rw[yAn];exact hlt)⟩;obtain⟨_,gc⟩:=yD4 hc;have HC:Hid ((sb p)[i]?=some c):=hc;have zi:(i:Int)<(p.size:Int):=by omega
   clear hc;by_cases h40:c=40
   ·subst h40;by_cases ho:o=20
    ·subst ho;have HF:Hid (yB0 (sb p)=(3,i)):=by show yB0 (sb p)=_;rw[HE.out,yE HC.out,if_pos rfl]
     go_wp2_with fail;exact yF HF.out rfl rfl HX.1 HX.2
    ·have zo:¬(o:Int)=20:=by omega
     have HF:Hid (yB0 (sb p)=chkM (sb p) (i+1) (o+1) false):=by show yB0 (sb p)=_;rw[HE.out,yE HC.out,if_neg ho]
     go_wp2_with fail;go_roundw;case rel=>exact⟨i+1,o+1,false,by omega,by omega,by go_num,rfl,by go_num,HF.out,HB.out⟩
     case measure=>simp[intOf];omega
   have z40:((c.toNat:Int)==40)=false:=beq_eq_false_iff_ne.2 (yFr (c:=40) h40);by_cases h41:c=41
   ·subst h41;by_cases ho:o=0
    ·subst ho;have HF:Hid (yB0 (sb p)=(2,i)):=by show yB0 (sb p)=_;rw[HE.out,yEr HC.out,if_pos rfl]
     go_wp2_with fail;exact yF HF.out rfl rfl HX.1 HX.2
    ·have zo:¬(o:Int)=0:=by omega
     have HF:Hid (yB0 (sb p)=chkM (sb p) (i+1) (o-1) true):=by show yB0 (sb p)=_;rw[HE.out,yEr HC.out,if_neg ho]
     go_wp2_with fail;go_roundw;case rel=>exact⟨i+1,o-1,true,by omega,by omega,congrArg (Value.int .i64) (by omega),rfl,by go_num,HF.out,HB.out⟩
     case measure=>simp[intOf];omega
   have z41:((c.toNat:Int)==41)=false:=beq_eq_false_iff_ne.2 (yFr (c:=41) h41);by_cases h124:c=124
   ·subst h124;have HF:Hid (yB0 (sb p)=chkM (sb p) (i+1) o false):=by show yB0 (sb p)=_;rw[HE.out,yJz HC.out]
    go_wp2_with fail;go_roundw;case rel=>exact⟨i+1,o,false,by omega,by omega,rfl,rfl,by go_num,HF.out,HB.out⟩
    case measure=>simp[intOf];omega
   have z124:((c.toNat:Int)==124)=false:=beq_eq_false_iff_ne.2 (yFr (c:=124) h124);have HL:Hid (∀q:Bool,decide (isOp c)=q→Calls Tryz.prog 106 #[.int .u8 (c.toNat:Int)] wr fun e w'=>e=.returned (.bool q)∧w'=wr):=fun q hq=>by rw[←hq];exact yS0 c wr
   by_cases hop:isOp c
   ·go_wp2_with fail;refine(HL.out true (decide_eq_true hop)).mono ?_;rintro e w3 ⟨rfl,hw3⟩;rw[hw3];clear hw3 HL;cases a
    ·have HF:Hid (yB0 (sb p)=(2,i)):=by show yB0 (sb p)=_;rw[HE.out,yNt HC.out hop];rfl
     clear hop;go_wp2_with fail;exact yF HF.out rfl rfl HX.1 HX.2
    ·have HF:Hid (yB0 (sb p)=chkM (sb p) (i+1) o true):=by show yB0 (sb p)=_;rw[HE.out,yNt HC.out hop,if_pos rfl]
     clear hop;exact zzQ76
   go_wp2_with fail;refine(HL.out false (decide_eq_false hop)).mono ?_;rintro e w3 ⟨rfl,hw3⟩;rw[hw3];have HOp:Hid (¬isOp c):=hop;clear hw3 HL hop;by_cases h91:c=91
   ·subst h91;go_wp2_with fail;refine(yM5 p i wr hp2 hlt).mono ?_;rintro e w4 ⟨hP,hb4⟩;have hB4:Below W0.heap.size W0 w4:=HB.trans (hb4.mono HB.size);have hs4:=hb4.size;have hsw:=HX.2.size;rcases hP with⟨f,k,hk,rfl⟩|⟨c4,k,hk,rfl⟩
    ·have hkp:=yJy hk;rw[yAn]at hkp;obtain⟨W5,hW5⟩:=qE (w4.alloc (Obj.cells #[.int .i64 0,.int .i64 0] 125):World);have HF:Hid (yB0 (sb p)=chkM (sb p) k o true∧Below W0.heap.size W0 W5):=by refine⟨by rw[HE.out,yEs HC.out,hk],?_⟩;rw[hW5];exact hB4.trans ((Below.refl _ _).alloc (by have:=HB.size;omega) _)
     clear hk hb4 hB4 r0 r1 f0 f1;go_wp2_with fail;rw[←hW5];go_roundw;case rel=>exact⟨k,o,true,hkp.2,by omega,rfl,rfl,rfl,HF.1,HF.2⟩
     case measure=>simp[intOf];omega
    ·have hc4:=yL hk;obtain⟨W5,hW5⟩:=qE (w4.alloc (Obj.cells #[.int .i64 c4,.int .i64 (k:Int)] 125):World);have HF:Hid (yB0 (sb p)=(c4,k)∧yA W5 w.heap.size 125 2 w.heap.size [.int .i64 0,.int .i64 0]∧Below w.heap.size w W5∧yA W5 w.heap.size 125 2 w4.heap.size [.int .i64 c4,.int .i64 (k:Int)]):=by
      have hb5:Below w4.heap.size w4 W5:=by rw[hW5];exact qB
      refine⟨by rw[HE.out,yEs HC.out,hk],(HX.1.below hb4).below hb5,(HX.2.trans (hb4.mono hsw)).trans (hb5.mono (by omega)),?_⟩;rw[hW5];exact yAb w4 _ (by omega) rfl
     have hc4':(c4 != 0)=true:=by simpa using hc4
     clear hk hb4 hB4 r0 r1 f0 f1;go_upto_region 29 with fail;rw[←hW5];clear hW5;obtain⟨b0,b1⟩:=HF.2.2.2.c2;obtain⟨r0,r1⟩:=HF.2.1.c2;obtain⟨f0,f1⟩:=HF.2.1.f2;go_wp2_with fail;exact yF HF.1 rfl rfl HF.2.1 HF.2.2.1
   have z91:((c.toNat:Int)==91)=false:=beq_eq_false_iff_ne.2 (yFr (c:=91) h91);by_cases h93:c=93
   ·subst h93;have HF:Hid (yB0 (sb p)=(2,i)):=by show yB0 (sb p)=_;rw[HE.out,yNs HC.out]
    go_wp2_with fail;exact yF HF.out rfl rfl HX.1 HX.2
   have z93:((c.toNat:Int)==93)=false:=beq_eq_false_iff_ne.2 (yFr (c:=93) h93);by_cases h92:c=92
   ·subst h92;by_cases hl1:i+1=p.size
    ·have HF:Hid (yB0 (sb p)=(2,p.size)):=by show yB0 (sb p)=_;rw[HE.out,yId HC.out,if_pos (by rw[yAn];exact hl1),yAn]
     have zl:(i:Int)+1=(p.size:Int):=by omega
     go_wp2_with fail;exact yF HF.out rfl rfl HX.1 HX.2
    ·have HF:Hid (yB0 (sb p)=chkM (sb p) (i+2) o true):=by show yB0 (sb p)=_;rw[HE.out,yId HC.out,if_neg (by rw[yAn];exact hl1)]
     have zl:¬(i:Int)+1=(p.size:Int):=by omega
     go_wp2_with fail;go_roundw;case rel=>exact⟨i+2,o,true,by omega,by omega,rfl,rfl,by go_num,HF.out,HB.out⟩
     case measure=>simp[intOf];omega
   have z92:((c.toNat:Int)==92)=false:=beq_eq_false_iff_ne.2 (yFr (c:=92) h92);have HF:Hid (yB0 (sb p)=chkM (sb p) (i+1) o true):=by show yB0 (sb p)=_;rw[HE.out,yF3 HC.out (fun q=>q.elim HOp.out (fun q=>q.elim h124 (fun q=>q.elim h41 h93))) h40 h91 h92]
   exact zzQ76
  ·have zi:¬(i:Int)<(p.size:Int):=by omega
   by_cases ho:0<o
   ·have HF:Hid (yB0 (sb p)=(2,p.size)):=by show yB0 (sb p)=_;rw[HE.out,yIe (by rw[yAn];exact hlt),if_pos ho,yAn]
    have zo:(0:Int)<(o:Int):=by omega
    go_wp2_with fail;exact yF HF.out rfl rfl HX.1 HX.2
   ·have HF:Hid (yB0 (sb p)=(0,0)):=by show yB0 (sb p)=_;rw[HE.out,yIe (by rw[yAn];exact hlt),if_neg ho]
    have zo:¬(0:Int)<(o:Int):=by omega
    go_wp2_with fail;exact yF HF.out rfl rfl HX.1 HX.2
theorem yQd (c k:Int) (w:World):(Instr.field 125 (.agg #[.int .i64 c,.int .i64 k]) 0).run Tryz.prog w=.ok (.int .i64 c) w:=by kernel_rfl
def wsP:List ByteArray:= [⟨#[46,42]⟩,⟨#[46,63]⟩,⟨#[91,97,45,99,93,42]⟩,⟨#[]⟩,⟨#[98,42]⟩,⟨#[40,97,124,98,41,42]⟩,⟨#[99,43]⟩]
def patF (xs:List Int) (s:Dst):ByteArray×Dst:=
 if(belF xs 12 s).1=0 then(⟨#[46,42]⟩,(belF xs 12 s).2)
 else if(belF xs 12 s).1<4 then((yB7 xs 0 2 (belF xs 12 s).2).1++(yDo xs wsP (yB7 xs 0 2 (belF xs 12 s).2).2).1,(yDo xs wsP (yB7 xs 0 2 (belF xs 12 s).2).2).2)
 else if(yB0 (sb (yN2 xs (belF xs 12 s).2).1)).1=0 then yN2 xs (belF xs 12 s).2
 else yB7 xs 0 2 (yN2 xs (belF xs 12 s).2).2
theorem yFo (xs:List Int) (s:Dst):(patF xs s).1.size≤40000:=by
 have h1:=yB4 xs (a:=0) (b:=2) (by omega) (by omega) (by omega);have h2:=yQ xs;unfold patF;split
 ·show(2:Nat)≤_;omega
 split
 ·have h3:=yDn xs (ws:=wsP) (by decide) (yB7 xs 0 2 (belF xs 12 s).2).2;have h4:∀t∈wsP,t.size≤10:=by decide
  have h5:=h4 _ h3;have h6:=h1 (belF xs 12 s).2;simp only[yBk];omega
 split
 ·have:=h2 (belF xs 12 s).2;omega
 ·have:=h1 (yN2 xs (belF xs 12 s).2).2;omega
theorem yEz {xs:List Int} {s:Dst} {cb:Nat} {bv:Value} (h:yA5 xs s base cb bv w) {r:ByteArray} {s':Dst} (he:patF xs s=(r,s')):
  Calls Tryz.prog 130 #[.pointer (some ⟨cb,0,none⟩)] w fun e w'=>e=.returned (.string r)∧yBq xs s' base cb bv w w':=by
 have HD:Hid (yA5 xs s base cb bv w):=h;obtain⟨x,s1,hx⟩:∃x s1,belF xs 12 s=(x,s1):=⟨_,_,rfl⟩;have hxr:=yAm xs (m:=12) (by omega) s;rw[hx]at hxr;obtain⟨hx0,hx1⟩:=hxr;simp only at hx0 hx1;unfold patF at he;simp only[hx]at he;have HX:Hid (belF xs 12 s=(x,s1)):=hx;clear h hx;go_enter Tryz.func130,Tryz.ntmps130;go_wp2_with fail;refine(yAr HD.out (by omega) (by omega) HX.out).mono ?_;rintro e w1 ⟨rfl,hD1,hC1⟩;have H1:Hid (yBq xs s1 base cb bv w w1):=⟨hD1,hC1⟩;clear hD1 hC1;by_cases h0:x=0
 ·rw[if_pos h0]at he;simp only[Prod.mk.injEq]at he;obtain⟨rfl,rfl⟩:=he;subst h0;go_wp2_with fail;go_ret;exact⟨rfl,H1.out⟩
 rw[if_neg h0]at he;have b0:(x==0)=false:=by rw[beq_eq_false_iff_ne];exact h0
 by_cases h4:x<4
 ·rw[if_pos h4]at he;obtain⟨a,s2,ha⟩:∃a s2,yB7 xs 0 2 s1=(a,s2):=⟨_,_,rfl⟩;have has:a.size≤100:=by have h9:=yB4 xs (a:=0) (b:=2) (by omega) (by omega) (by omega) s1;rw[ha]at h9;exact h9
  obtain⟨t,s3,ht⟩:∃t s3,yDo xs wsP s2=(t,s3):=⟨_,_,rfl⟩;have hts:t.size≤10:=by
   have h9:=yDn xs (ws:=wsP) (by decide) s2;rw[ht]at h9;have h4:∀t∈wsP,t.size≤10:=by decide
   exact h4 _ h9
  simp only[ha,ht,Prod.mk.injEq]at he;obtain⟨rfl,rfl⟩:=he;have HA:Hid (yB7 xs 0 2 s1=(a,s2)∧yDo xs wsP s2=(t,s3)):=⟨ha,ht⟩;clear ha ht;go_wp2_with fail;refine(yCb H1.1 (by omega) (by omega) (by omega) HA.1).mono ?_;rintro e w2 ⟨rfl,hD2,hC2⟩;have H2:Hid (yBq xs s2 base cb bv w w2):=⟨hD2,H1.2.trans hC2⟩;have hcl:=hD2.lt.2;clear hD2 hC2;go_wp2_with fail;refine(yJ (ws:=wsP) (H2.1.below (qB)) (by decide) (by decide) (by omega) (by simp) ?_ HA.2).mono ?_
  ·intro k t ht;have hkl:k<7:=(List.getElem?_eq_some_iff.1 ht).1;match k,hkl,ht with
   |0,_,ht=>simp[wsP]at ht;subst ht;simp
   |1,_,ht=>simp[wsP]at ht;subst ht;simp
   |2,_,ht=>simp[wsP]at ht;subst ht;simp
   |3,_,ht=>simp[wsP]at ht;subst ht;simp
   |4,_,ht=>simp[wsP]at ht;subst ht;simp
   |5,_,ht=>simp[wsP]at ht;subst ht;simp
   |6,_,ht=>simp[wsP]at ht;subst ht;simp
  ·rintro e w3 ⟨rfl,hD3,hC3⟩;have H3:Hid (yBq xs s3 base cb bv w w3):=⟨hD3,(H2.2.alloc_new _).trans hC3⟩;clear hD3 hC3;go_wp2_with fail;go_ret;exact⟨rfl,H3.out⟩
 ·rw[if_neg h4]at he;obtain⟨p,s2,hp⟩:∃p s2,yN2 xs s1=(p,s2):=⟨_,_,rfl⟩;have hps:=(yRs xs s1 base cb bv w1 H1.1 p s2 hp).1;have HK:Hid (Calls Tryz.prog 140 #[.pointer (some ⟨cb,0,none⟩),.int .i64 2] w1 fun e w'=>e=.returned (.string p)∧yBq xs s2 base cb bv w1 w'):=(yRs xs s1 base cb bv w1 H1.1 p s2 hp).2;simp only[hp]at he;clear hp;go_wp2_with fail;refine HK.mono ?_;rintro e w2 ⟨rfl,hD2,hC2⟩;have H2:Hid (yBq xs s2 base cb bv w w2):=⟨hD2,H1.2.trans hC2⟩;clear hD2 hC2;have hsm:p.size≤maxLen:=by unfold maxLen;omega
  have HC:Hid (Calls Tryz.prog 78 #[.string p] w2 (ChkP p w2)):=yGp p w2 hsm;clear hsm;go_wp2_with fail;refine HC.mono ?_;rintro e w3 ⟨rfl,hb3⟩;have H3:Hid (yBq xs s2 base cb bv w w3):=⟨H2.1.below hb3,H2.2.trans (Chg.of_below hb3)⟩;obtain⟨c,hc⟩:=qE ((yB0 (sb p)).1:Int);obtain⟨k,hk⟩:=qE (((yB0 (sb p)).2:Int):Int);rw[←hc]at he⊢;rw[←hk];clear hc hk hb3;have hf:=yQd c k w3;by_cases hc0:c=0
  ·rw[if_pos hc0]at he;simp only[Prod.mk.injEq]at he;obtain⟨rfl,rfl⟩:=he;subst hc0;go_wp2_with fail;go_ret;exact⟨rfl,H3.out⟩
  ·rw[if_neg hc0]at he;have HE:Hid (yB7 xs 0 2 s2=(r,s')):=he;have bc:(c==0)=false:=by rw[beq_eq_false_iff_ne];exact hc0
   clear he;go_wp2_with fail;refine(yCb H3.1 (by omega) (by omega) (by omega) HE.out).mono ?_;rintro e w4 ⟨rfl,hD4,hC4⟩;have H4:Hid (yBq xs s' base cb bv w w4):=⟨hD4,H3.2.trans hC4⟩;clear hD4 hC4;go_wp2_with fail;go_ret;exact⟨rfl,H4.out⟩
section
structure Nd where
 kind:Int
 s:ByteArray
 hi:Bool
 t:ByteArray
 lo:Int
 up:Int
 n:Int
def yAo (k:Int):Nat:=if k=14∨k=15 then 2 else if k=16 then 3 else 0
theorem yFb (k:Int):yAo k≤3:=by unfold yAo;split<;>(try split)<;>omega
inductive IsT:Nat→List Nd→Prop
 |nil:IsT 0 []
 |snoc {k:Nat} {xs:List Nd} (n:Nd) (h:IsT (k+yAo n.kind) xs):IsT (k+1) (xs++ [n])
variable {xs:List Nd}
theorem IsT.inv_snoc {ys:List Nd} {n:Nd} (h:IsT k ys) (e:ys=xs++ [n]):∃j,k=j+1∧IsT (j+yAo n.kind) xs:=by
 cases h with
 |nil=>simp at e
 |snoc m h=>
  have:=List.append_inj' e rfl;obtain⟨rfl,h2⟩:=this;simp at h2;subst h2;exact⟨_,rfl,h⟩
theorem IsT.zero (h:IsT 0 xs):xs= []:=by
 cases h with
 |nil=>rfl
theorem IsT.len (h:IsT k xs):k≤xs.length:=by
 induction h with
 |nil=>exact Nat.le_refl _
 |snoc n h ih=>simp;omega
inductive Sc:Nat→List Nd→Prop
 |nil:Sc 1 []
 |cons {m:Nat} {ys:List Nd} (n:Nd) (h:Sc (m+1) ys):Sc (m+yAo n.kind) (n::ys)
theorem Sc.inv {m:Nat} {n:Nd} {ys:List Nd} (h:Sc m (n::ys)):∃q,m=q+yAo n.kind∧Sc (q+1) ys:=by
 cases h with
 |cons _ h=>exact⟨_,rfl,h⟩
theorem Sc.one:∀{ys:List Nd} {m k:Nat},Sc m ys→Sc k ys→m=k
 | [],_,_,.nil,.nil=>rfl
 |n::ys,m,k,h,g=>by
  obtain⟨a,rfl,ha⟩:=h.inv
  obtain⟨b,rfl,hb⟩:=g.inv
  have:=Sc.one ha hb
  omega
theorem Sc.tree:∀{ys:List Nd} {m:Nat},Sc m ys→∀{pre:List Nd},IsT m pre↔IsT 1 (pre++ys)
 | [],_,.nil,pre=>by simp
 |n::ys,m,h,pre=>by
  obtain⟨q,rfl,hq⟩:=h.inv
  have ih:=Sc.tree hq (pre:=pre++ [n])
  rw[List.append_assoc]at ih
  rw[show pre++n::ys=pre++([n]++ys)from rfl,←ih]
  constructor
  ·intro h;exact .snoc n h
  ·intro h
   obtain⟨j,hj,h2⟩:=h.inv_snoc rfl
   rw[show q=j by omega];exact h2
theorem IsT.sc {b:List Nd} (h:IsT j b):∀{m:Nat} {ys:List Nd},Sc (m+j) ys→Sc m (b++ys):=by
 induction h with
 |nil=>intro m ys h;exact h
 | @snoc k xs n h ih=>
   intro m ys hs;rw[List.append_assoc];apply ih;show Sc (m+(k+yAo n.kind)) (n::ys);rw[←Nat.add_assoc];exact .cons n hs
theorem IsT.sc0 {b:List Nd} (h:IsT 1 b):Sc 0 b:=by have:=h.sc (m:=0) (ys:= []) .nil;simpa using this
theorem yOx (hi:IsT 1 (xs.drop i)) (hj:IsT 1 (xs.drop j)) (hij:i≤j) (hjl:j≤xs.length):i=j:=by
 have h0:=hj.sc0;have e:xs.drop i=(xs.drop i).take (j-i)++xs.drop j:=by
  conv=>lhs;rw[←List.take_append_drop (j-i) (xs.drop i)]
  rw[List.drop_drop,show i+(j-i)=j by omega]
 rw[e]at hi;have h1:=(h0.tree.2 hi).zero;have h2:=congrArg List.length h1;simp at h2;omega
theorem yYs:∀{i m:Nat},Sc (m+1) (xs.drop i)→∀j,i≤j→j≤xs.length→¬IsT 1 (xs.drop j):=by
 intro i m h j hij hjl ht;obtain⟨d,rfl⟩:∃d,j=i+d:=⟨j-i,by omega⟩;clear hij;induction d generalizing i m with
 |zero=>have:=h.one ht.sc0;omega
 |succ d ih=>
  rw[List.drop_eq_getElem_cons (by omega)]at h;obtain⟨q,_,hq⟩:=h.inv;exact ih (i:=i+1) (m:=q) hq (by omega) (by rw[show i+1+d=i+(d+1)by omega];exact ht)
structure yAx where
 valid:Bool
 kind:Int
 nest:Nat
def yA3 (k:Int):Nat:=if k=15 then 1 else if k=14 then 2 else 3
def yBf (op:Int) (i:Nat) (kid:Int):Bool:=decide (op=16) || (if i=0 then decide (yA3 kid<yA3 op)else decide (yA3 kid≤yA3 op))
def yBw (op:Int):Nat→Nat→List yAx→Nat
 |_,a,[]=>a
 |i,a,o::os=>yBw op (i+1) (max a (o.nest+if yBf op i o.kind then 1 else 0)) os
variable (G:Nd→Bool)
def yCj (n:Nd) (os:List yAx):yAx:=⟨G n && os.all (·.valid),n.kind,yBw n.kind 0 0 os⟩
def yQb (st:List yAx) (n:Nd):Option (List yAx):=
 if st.length<yAo n.kind then none else some (st.take (st.length-yAo n.kind)++ [yCj G n (st.drop (st.length-yAo n.kind))])
def yDs (st:List yAx):List Nd→Option (List yAx)
 | []=>some st
 |n::ns=>match yQb G st n with
  |none=>none
  |some st'=>yDs st' ns
theorem yFy (st:List yAx) (xs ys:List Nd):yDs G st (xs++ys)=(yDs G st xs).bind (fun s=>yDs G s ys):=by
 induction xs generalizing st with
 |nil=>rfl
 |cons x xs ih=>
  simp only[List.cons_append,yDs];cases yQb G st x with
  |none=>rfl
  |some s=>exact ih s
inductive ShT:List yAx→List Nd→Prop
 |nil:ShT [] []
 |snoc {ss os:List yAx} {xs:List Nd} (n:Nd) (ho:os.length=yAo n.kind) (h:ShT (ss++os) xs):ShT (ss++ [yCj G n os]) (xs++ [n])
variable {ss:List yAx}
theorem ShT.tree (h:ShT G ss xs):IsT ss.length xs:=by exact zzQ71
theorem ShT.fold (h:ShT G ss xs):∀st,yDs G st xs=some (st++ss):=by
 induction h with
 |nil=>intro st;simp[yDs]
 | @snoc ss os xs n ho h ih=>
   intro st;rw[yFy,ih];simp only[Option.bind_some,yDs,yQb];rw[if_neg (by simp;omega)];have hl:(st++(ss++os)).length-yAo n.kind=(st++ss).length:=by simp;omega
   rw[hl,←List.append_assoc,List.take_left,List.drop_left,List.append_assoc]
theorem yNe:∀{xs pre:List Nd} {st ss:List yAx},ShT G st pre→yDs G st xs=some ss→ShT G ss (pre++xs)
 | [],pre,st,ss,h,e=>by simp[yDs]at e;subst e;simpa using h
 |n::xs,pre,st,ss,h,e=>by
  simp only[yDs,yQb]at e
  by_cases hl:st.length<yAo n.kind
  ·rw[if_pos hl]at e;cases e
  ·rw[if_neg hl]at e
   have h1:ShT G (st.take (st.length-yAo n.kind)++ [yCj G n (st.drop (st.length-yAo n.kind))]) (pre++ [n]):=by refine .snoc n (by simp;omega) ?_;rw[List.take_append_drop];exact h
   have h2:=yNe h1 e
   rw[List.append_assoc]at h2
   exact h2
theorem yNd (h:yDs G [] xs=some ss):ShT G ss xs:=by simpa using yNe G (pre:= []) .nil h
theorem ShT.valid (h:ShT G ss xs):ss.all (·.valid)=xs.all G:=by
 induction h with
 |nil=>rfl
 | @snoc ss os xs n ho h ih=>
   rw[List.all_append,List.all_append,←ih,List.all_append];simp[yCj];cases G n<;>cases ss.all (·.valid)<;>cases os.all (·.valid)<;>rfl
theorem ShT.split (h:ShT G ss xs):∀{a b:List yAx},ss=a++b→∃ys zs,xs=ys++zs∧ShT G a ys∧ShT G b zs:=by
 induction h with
 |nil=>intro a b e;obtain⟨rfl,rfl⟩:a= []∧b= []:=by simpa using e.symm
       exact⟨[],[],rfl,.nil,.nil⟩
 | @snoc ss os xs n ho h ih=>
   intro a b e;rcases List.eq_nil_or_concat b with rfl|⟨b',z,rfl⟩
   ·simp at e;subst e;exact⟨xs++ [n],[],by simp,.snoc n ho h,.nil⟩
   ·rw[List.concat_eq_append,←List.append_assoc]at e;have e2:=List.append_inj' e rfl;obtain⟨e3,e4⟩:=e2;simp at e4;subst e3 e4;obtain⟨ys,zs,rfl,h1,h2⟩:=ih (a:=a) (b:=b'++os) (by simp);refine⟨ys,zs++ [n],by simp,h1,?_⟩;rw[List.concat_eq_append];exact .snoc n ho h2
theorem ShT.inv {s:yAx} (h:ShT G [s] xs):∃ys n os,xs=ys++ [n]∧os.length=yAo n.kind∧ShT G os ys∧s=yCj G n os:=by exact zzQ54
inductive Kids:List yAx→List (List Nd)→Prop
 |nil:Kids [] []
 |cons {o:yAx} {os:List yAx} {k:List Nd} {ks:List (List Nd)} (h:ShT G [o] k) (t:Kids os ks):Kids (o::os) (k::ks)
theorem ShT.kids:∀{os:List yAx} {ys:List Nd},ShT G os ys→∃ks,ys=ks.flatten∧Kids G os ks
 | [],ys,h=>by
   have:=h.tree.zero
   subst this
   exact⟨[],rfl,.nil⟩
 |o::os,ys,h=>by
  obtain⟨a,b,rfl,h1,h2⟩:=ShT.split G h (a:= [o]) (b:=os) rfl
  obtain⟨ks,rfl,hk⟩:=ShT.kids h2
  exact⟨a::ks,rfl,.cons h1 hk⟩
variable {ks:List (List Nd)}
theorem Kids.length {os:List yAx} (h:Kids G os ks):os.length=ks.length:=by
 induction h with
 |nil=>rfl
 |cons _ _ ih=>simp[ih]
theorem yJd (op:Int) (B:Nat):∀{os:List yAx} {i a:Nat},a≤B→(∀o∈os,o.nest+1≤B)→yBw op i a os≤B
 | [],i,a,h,_=>h
 |o::os,i,a,h,g=>by
  unfold yBw
  apply yJd op B
  ·have:=g o (by simp)
   split<;>omega
  ·exact fun o' ho=>g o' (by simp[ho])
theorem yS1 {os:List yAx} (h:Kids G os ks) {o:yAx} (ho:o∈os):∃k∈ks,ShT G [o] k:=by
 induction h with
 |nil=>cases ho
 |cons h1 _ ih=>
  rcases List.mem_cons.1 ho with rfl|ho
  ·exact⟨_,by simp,h1⟩
  ·obtain⟨k,hk,h2⟩:=ih ho;exact⟨k,by simp[hk],h2⟩
theorem yLs {k:List Nd} (h:k∈ks):k.length≤ks.flatten.length:=by
 induction ks with
 |nil=>cases h
 |cons a ks ih=>
  simp only[List.flatten_cons,List.length_append];rcases List.mem_cons.1 h with rfl|h
  ·omega
  ·have:=ih h;omega
theorem yPe:∀(n:Nat) {s:yAx} {xs:List Nd},xs.length≤n→ShT G [s] xs→s.nest≤xs.length
 |0,s,xs,hn,h=>by
  obtain⟨ys,e,os,rfl,_⟩:=h.inv
  simp at hn
 |n+1,s,xs,hn,h=>by
  obtain⟨ys,e,os,rfl,_,h2,rfl⟩:=h.inv
  obtain⟨ks,rfl,hK⟩:=h2.kids
  simp only[List.length_append,List.length_singleton]at hn⊢
  refine yJd e.kind _ (Nat.zero_le _) fun o ho=>?_
  obtain⟨k,hk,h3⟩:=yS1 G hK ho
  have h4:=yLs hk
  have h5:=yPe n (by omega) h3
  omega
end
structure Nd.ok (e:Nd):Prop where
 s:e.s.size≤maxLen
 t:e.t.size≤maxLen
 kind:(Lit.int .i64 e.kind).wf=true
 lo:(Lit.int .u64 e.lo).wf=true
 up:(Lit.int .u64 e.up).wf=true
 n:(Lit.int .i64 e.n).wf=true
abbrev Nd.seven (e:Nd):List Value:= [.int .i64 e.kind,.string e.s,.bool e.hi,.string e.t,.int .u64 e.lo,.int .u64 e.up,.int .i64 e.n]
abbrev Nd.v (e:Nd):Value:=.agg #[.int .i64 e.kind,.string e.s,.bool e.hi,.string e.t,.int .u64 e.lo,.int .u64 e.up,.int .i64 e.n]
def yUc:Nd:=⟨0,⟨#[]⟩,false,⟨#[]⟩,0,0,0⟩
def yBn (es:List Nd):List Value:=es.flatMap Nd.seven
theorem yJ1 (e:Nd) (es:List Nd):yBn (e::es)=e.seven++yBn es:=by simp[yBn]
theorem yC8 (es:List Nd):(yBn es).length=es.length*7:=by
 induction es with
 |nil=>rfl
 |cons e es ih=>rw[yJ1,List.length_append,ih];simp;omega
theorem yLa (es:List Nd):∀(k:Nat) (e:Nd),es[k]?=some e→∀j,j<7→(yBn es)[k*7+j]?=e.seven[j]?:=by
 induction es with
 |nil=>intro k e h;simp at h
 |cons f es ih=>
  intro k e h j hj;rw[yJ1];cases k with
  |zero=>
   simp at h;subst h;rw[List.getElem?_append_left (by show 0*7+j<7;omega)];simp
  |succ k=>
   simp at h;rw[List.getElem?_append_right (by show 7≤(k+1)*7+j;omega)];have:(k+1)*7+j-f.seven.length=k*7+j:=by show(k+1)*7+j-7=_;omega
   rw[this];exact ih k e h j hj
def yBj (w:World) (b off:Nat) (es:List Nd):Prop:=
 ∀i e,es[i]?=some e→w.cell? ⟨b,off+i*7,none⟩=some (.int .i64 e.kind)∧w.cell? ⟨b,off+i*7+1,none⟩=some (.string e.s)∧w.cell? ⟨b,off+i*7+2,none⟩=some (.bool e.hi)∧w.cell? ⟨b,off+i*7+3,none⟩=some (.string e.t)∧w.cell? ⟨b,off+i*7+4,none⟩=some (.int .u64 e.lo)∧w.cell? ⟨b,off+i*7+5,none⟩=some (.int .u64 e.up)∧w.cell? ⟨b,off+i*7+6,none⟩=some (.int .i64 e.n)
variable {es:List Nd}
theorem yBj.below {w':World} {b off:Nat} (h:yBj w b off es) (hb:Below B w w') (hlt:b<B):yBj w' b off es:=by
 intro i e he;have:=h i e he;refine⟨?_,?_,?_,?_,?_,?_,?_⟩;all_goals rw[hb.cell (by exact hlt)]
 ·exact this.1
 ·exact this.2.1
 ·exact this.2.2.1
 ·exact this.2.2.2.1
 ·exact this.2.2.2.2.1
 ·exact this.2.2.2.2.2.1
 ·exact this.2.2.2.2.2.2
def yAu (w:World) (base g cap:Nat) (es:List Nd):Prop:=w.ownsRow base 65 7 (.slice (some ⟨g,0,none⟩) es.length cap) es.length (yBn es)
variable {cap:Nat}
theorem yAu.at (h:yAu w base g cap es):yBj w g 0 es:=by
 intro i e he;have hi:i<es.length:=(List.getElem?_eq_some_iff.1 he).1;have c:=fun j (hj:j<7)=>(World.ownsRow.cellAt h (i*7+j) (by omega)).trans (yLa es i e he j hj);refine⟨?_,?_,?_,?_,?_,?_,?_⟩
 ·simpa using c 0 (by omega)
 ·simpa using c 1 (by omega)
 ·simpa using c 2 (by omega)
 ·simpa using c 3 (by omega)
 ·simpa using c 4 (by omega)
 ·simpa using c 5 (by omega)
 ·simpa using c 6 (by omega)
theorem yAu.lt (h:yAu w base g cap es):base≤g∧g<w.heap.size:=World.ownsRow.lt h g rfl
theorem yAu.below {w':World} (h:yAu w base g cap es) (hb:Below B w w') (hg:g<B):yAu w' base g cap es:=by
 refine⟨h.1,?_⟩;rcases h.2 with hn|⟨g',cap',cur,hv,h1,h2,rest⟩
 ·exact .inl hn
 ·simp only[Value.slice.injEq,Option.some.injEq,Addr.mk.injEq,and_true,true_and]at hv;obtain⟨rfl,rfl⟩:=hv;exact .inr ⟨g,cap,cur,rfl,h1,by rw[hb.block g hg];exact h2,rest⟩
theorem yAu.mono {base':Nat} (h:yAu w base g cap es) (hb:base'≤base):yAu w base' g cap es:=by exact yT7
theorem yAu.caps {cp:Nat} {R:List Nd} (h:yAu w base g cp R):R.length≤cp∧cp≤maxLen:=by exact yP3
theorem Tryz.infoNd:(Tryz.prog.info? 65).map (fun i=>(i.zero,i.size,i.bytes))=some (some (.agg #[.int .i64 0,.string ⟨#[]⟩,.bool false,.string ⟨#[]⟩,.int .u64 0,.int .u64 0,.int .i64 0]),7,72):=by kernel_rfl
section
section
variable {P:Program} {ops:Array Oper} {Q:Exit→Act→World→Prop} {md:Region.Mode} {S:World→Prop} {L:Nat}
def AnyT (P:Program) (md:Region.Mode) (ops:Array Oper) (Q:Exit→Act→World→Prop) (S:World→Prop) (L:Nat):Nat→Array Bool→Act→World→Prop
 |0,listed,a,w=>Region.ready md ops listed= []∧Q .normal a w
 |fuel+1,listed,a,w=>
  (Region.ready md ops listed= []→Q .normal a w)∧
  ∀i∈Region.ready md ops listed,wpOp P ops Q i (fun a' w'=>(i=L∨S w')∧AnyT P md ops Q S L fuel (listed.setIfInBounds i true) a' w') a w
theorem yPz:∀(fuel:Nat) (listed:Array Bool) (a:Act) (w:World),AnyT P md ops Q S L fuel listed a w→wpAny P md ops Q fuel listed a w
 |0,_,_,_,h=>h
 |fuel+1,_,_,_,h=>⟨h.1,fun i hi=>wpOp_mono (fun a' w' h'=>yPz fuel _ a' w' h'.2) (h.2 i hi)⟩
def yMg (md:Region.Mode) (ops:Array Oper) (L i:Nat):Bool:=((ops[L]?).map (fun o=>o.after.any fun e=>Region.binds md e && e.on==i)).getD false
variable {oi:Oper}
theorem yQ7 {v:Value} (hi:ops[i]?=some oi) (hsel:∀(j:Nat) (o:Oper) cs b,ops[j]?=some o→o.op≠ .select cs b)
  (hQ:∀c a w,Q (.panic c) (a.put oi.dst v) w→Q (.panic c) a w) (hL:yMg md ops L i=true) (hne:i≠L):
  ∀(fuel:Nat) (listed:Array Bool) (a:Act) (w:World),
   (∀j oj,ops[j]?=some oj→j≠i→listed.getD j true=false→(∀e∈oj.after,Region.binds md e=true→e.on≠i)→oi.apart ops oj=true)→
   i∈Region.ready md ops listed→YieldsIf P ops S oi v a→S w→
   AnyT P md ops Q S L fuel (listed.setIfInBounds i true) (a.put oi.dst v) w→AnyT P md ops Q S L (fuel+1) listed a w:=by
 intro fuel;induction fuel with
 |zero=>
  intro listed a w _ hr hy hS H;refine⟨fun h=>(by rw[h]at hr;cases hr),fun j hj=>?_⟩;by_cases hji:j=i
  ·subst hji;exact hy.wpOp hi hS ⟨.inr hS,H⟩
  ·have:=ready_mono hj hji;rw[H.1]at this;cases this
 |succ fuel ih=>
  intro listed a w hfree hr hy hS H;refine⟨fun h=>(by rw[h]at hr;cases hr),fun j hj=>?_⟩;by_cases hji:j=i
  ·subst hji;exact hy.wpOp hi hS ⟨.inr hS,H⟩
  ·have h1:=H.2 j (ready_mono hj hji);obtain⟨hjun,oj,hoj,hall⟩:=mem_ready.1 hj;have hnot:∀e∈oj.after,Region.binds md e=true→e.on≠i:=fun e he hb heq=>by
    have h1:=hall e he hb;have h0:=(mem_ready.1 hr).1;rw[heq]at h1;rcases Nat.lt_or_ge i listed.size with h'|h'
    ·simp[h']at h0 h1;rw[h0]at h1;cases h1
    ·simp[Array.getElem?_eq_none h']at h1
   have hjL:j≠L:=fun q=>by subst q;unfold yMg at hL;rw[hoj]at hL;simp only[Option.map_some,Option.getD_some,Array.any_eq_true]at hL;obtain⟨k,hk,hb⟩:=hL;rw[Bool.and_eq_true,beq_iff_eq]at hb;exact hnot _ (Array.getElem_mem hk) hb.1 hb.2
   have h2:=wpOp_putIf hoj (hfree j oj hoj hji hjun hnot) (fun cs b=>hsel i oi cs b hi) (fun cs b=>hsel j oj cs b hoj) hQ hy h1
   have hfree':∀k ok,ops[k]?=some ok→k≠i→(listed.setIfInBounds j true).getD k true=false→
     (∀e∈ok.after,Region.binds md e=true→e.on≠i)→oi.apart ops ok=true:=fun k ok hk hki hun hno=>by
    refine hfree k ok hk hki ?_ hno;by_cases hjk:j=k
    ·subst hjk;exact hjun
    ·rw[getD_set_ne true hjk]at hun;exact hun
   refine wpOp_mono (fun a' w' h3=>⟨h3.2.1,ih (listed.setIfInBounds j true) a' w' hfree' (ready_mono hr (Ne.symm hji)) h3.1 (h3.2.1.resolve_left hjL) ?_⟩) h2;rw[Array.setIfInBounds_comm _ _ hji];exact h3.2.2
variable {fuel:Nat}
theorem yNx {v:Value} {listed:Array Bool} (hi:ops[i]?=some oi)
  (hs:Region.noSelect ops=true) (hf:Region.free md ops listed i=true) (hr:(Region.ready md ops listed).contains i=true) (hL:yMg md ops L i=true) (hne:i≠L)
  (hQ:∀c a w,Q (.panic c) (a.put oi.dst v) w→Q (.panic c) a w) (hy:YieldsIf P ops S oi v a) (hS:S w)
  (h:AnyT P md ops Q S L fuel (listed.setIfInBounds i true) (a.put oi.dst v) w):AnyT P md ops Q S L (fuel+1) listed a w:=
 yQ7 hi (Region.noSelect_spec hs) hQ hL hne fuel listed a w (Region.free_spec hi hf) (by simpa using hr) hy hS h
theorem yWz {listed:Array Bool} (hr:Region.ready md ops listed= [i]) (ho:ops[i]?=some o)
  (h:∀K':Act→World→Prop,Shut (∀a w,(i=L∨S w)→AnyT P md ops Q S L fuel (listed.setIfInBounds i true) a w→K' a w)→if Region.wanted o (yielded ops a.tmps)=true then Oper.wp P o a w K' Q else K' (a.put o.dst undef) w):
  AnyT P md ops Q S L (fuel+1) listed a w:=by
 refine⟨fun h0=>(by rw[hr]at h0;cases h0),fun j hj=>?_⟩;rw[hr]at hj;simp at hj;subst hj;exact wpOp_step ho (fun K' hK=>h K' (fun a w hS hW=>hK a w ⟨hS,hW⟩))
theorem yWy {q:Oper} {listed:Array Bool} (hr:Region.ready md ops listed= [i,j]) (ho:ops[i]?=some o) (hq:ops[j]?=some q)
  (h:∀K':Act→World→Prop,Shut (∀a w,(i=L∨S w)→AnyT P md ops Q S L fuel (listed.setIfInBounds i true) a w→K' a w)→if Region.wanted o (yielded ops a.tmps)=true then Oper.wp P o a w K' Q else K' (a.put o.dst undef) w)
  (h':∀K':Act→World→Prop,Shut (∀a w,(j=L∨S w)→AnyT P md ops Q S L fuel (listed.setIfInBounds j true) a w→K' a w)→if Region.wanted q (yielded ops a.tmps)=true then Oper.wp P q a w K' Q else K' (a.put q.dst undef) w):
  AnyT P md ops Q S L (fuel+1) listed a w:=by
 refine⟨fun h0=>(by rw[hr]at h0;cases h0),fun k hk=>?_⟩;rw[hr]at hk;simp at hk;rcases hk with rfl|rfl
 ·exact wpOp_step ho (fun K' hK=>h K' (fun a w hS hW=>hK a w ⟨hS,hW⟩))
 ·exact wpOp_step hq (fun K' hK=>h' K' (fun a w hS hW=>hK a w ⟨hS,hW⟩))
theorem yTz {listed:Array Bool} (hr:Region.ready md ops listed= []) (h:Q .normal a w):AnyT P md ops Q S L fuel listed a w:=by
 cases fuel with
 |zero=>exact⟨hr,h⟩
 |succ n=>exact⟨fun _=>h,by rw[hr];simp⟩
theorem yCa (L:Nat) (S:World→Prop) (hm:P.follows .mixedOrders=true)
  (h:AnyT P .any ops Q S L ops.size (Array.replicate ops.size false) a w.drew):(Code.region id ops true).wp P Q a w:=
 wp_region_any hm (yPz _ _ _ _ h)
end
end
section
section
variable {P:Program} {ops:Array Oper} {Q:Exit→Act→World→Prop} {md:Region.Mode} {S:World→Prop} {L:Nat} {oi:Oper}
theorem yOq {v:Value} (hi:ops[i]?=some oi) (hsel:∀(j:Nat) (o:Oper) cs b,ops[j]?=some o→o.op≠ .select cs b)
  (hQ:∀c a w,Q (.panic c) (a.put oi.dst v) w→Q (.panic c) a w) (hL:ops[L]?=none):
  ∀(fuel:Nat) (listed:Array Bool) (a:Act) (w:World),
   (∀j oj,ops[j]?=some oj→j≠i→listed.getD j true=false→(∀e∈oj.after,Region.binds md e=true→e.on≠i)→oi.apart ops oj=true)→
   i∈Region.ready md ops listed→YieldsIf P ops S oi v a→S w→
   AnyT P md ops Q S L fuel (listed.setIfInBounds i true) (a.put oi.dst v) w→AnyT P md ops Q S L (fuel+1) listed a w:=by
 intro fuel;induction fuel with
 |zero=>
  intro listed a w _ hr hy hS H;refine⟨fun h=>(by rw[h]at hr;cases hr),fun j hj=>?_⟩;by_cases hji:j=i
  ·subst hji;exact hy.wpOp hi hS ⟨.inr hS,H⟩
  ·have:=ready_mono hj hji;rw[H.1]at this;cases this
 |succ fuel ih=>
  intro listed a w hfree hr hy hS H;refine⟨fun h=>(by rw[h]at hr;cases hr),fun j hj=>?_⟩;by_cases hji:j=i
  ·subst hji;exact hy.wpOp hi hS ⟨.inr hS,H⟩
  ·have h1:=H.2 j (ready_mono hj hji);obtain⟨hjun,oj,hoj,hall⟩:=mem_ready.1 hj;have hnot:∀e∈oj.after,Region.binds md e=true→e.on≠i:=fun e he hb heq=>by
    have h1:=hall e he hb;have h0:=(mem_ready.1 hr).1;rw[heq]at h1;rcases Nat.lt_or_ge i listed.size with h'|h'
    ·simp[h']at h0 h1;rw[h0]at h1;cases h1
    ·simp[Array.getElem?_eq_none h']at h1
   have hjL:j≠L:=fun q=>by rw[q,hL]at hoj;cases hoj
   have h2:=wpOp_putIf hoj (hfree j oj hoj hji hjun hnot) (fun cs b=>hsel i oi cs b hi) (fun cs b=>hsel j oj cs b hoj) hQ hy h1
   have hfree':∀k ok,ops[k]?=some ok→k≠i→(listed.setIfInBounds j true).getD k true=false→
     (∀e∈ok.after,Region.binds md e=true→e.on≠i)→oi.apart ops ok=true:=fun k ok hk hki hun hno=>by
    refine hfree k ok hk hki ?_ hno;by_cases hjk:j=k
    ·subst hjk;exact hjun
    ·rw[getD_set_ne true hjk]at hun;exact hun
   refine wpOp_mono (fun a' w' h3=>⟨h3.2.1,ih (listed.setIfInBounds j true) a' w' hfree' (ready_mono hr (Ne.symm hji)) h3.1 (h3.2.1.resolve_left hjL) ?_⟩) h2;rw[Array.setIfInBounds_comm _ _ hji];exact h3.2.2
variable {fuel:Nat}
theorem yLb {v:Value} {listed:Array Bool} (hi:ops[i]?=some oi)
  (hs:Region.noSelect ops=true) (hf:Region.free md ops listed i=true) (hr:(Region.ready md ops listed).contains i=true) (hL:ops[L]?=none)
  (hQ:∀c a w,Q (.panic c) (a.put oi.dst v) w→Q (.panic c) a w) (hy:YieldsIf P ops S oi v a) (hS:S w)
  (h:AnyT P md ops Q S L fuel (listed.setIfInBounds i true) (a.put oi.dst v) w):AnyT P md ops Q S L (fuel+1) listed a w:=
 yOq hi (Region.noSelect_spec hs) hQ hL fuel listed a w (Region.free_spec hi hf) (by simpa using hr) hy hS h
end
end
structure Nd.small (e:Nd):Prop where
 s:e.s.size≤200000
 t:e.t.size≤300000
 lo:0≤e.lo∧e.lo≤100000
 up:0≤e.up∧e.up≤100000
 n:0≤e.n∧e.n≤100000
 kind:0≤e.kind∧e.kind≤100000
theorem yRb {x:Int} (h:0≤x∧x≤100000):(Lit.int .u64 x).wf=true:=by exact zzQ87
theorem yOu {x:Int} (h:0≤x∧x≤100000):(Lit.int .i64 x).wf=true:=by
 have h1:IntKind.i64.min= -9223372036854775808:=by decide
 have h2:IntKind.i64.max=9223372036854775807:=by decide
 simp[Lit.wf,h1,h2];omega
theorem yP6 (x:Int) (h:0≤x∧x≤100000):IntKind.u64.wrap x=x:=by simp only[IntKind.wrap,IntKind.bits,IntKind.signed,Bool.false_and,Bool.false_eq_true,if_false];omega
theorem Nd.small.ok {e:Nd} (h:e.small):e.ok:=⟨Nat.le_trans h.s (by decide),Nat.le_trans h.t (by decide),yOu h.kind,yRb h.lo,yRb h.up,yOu h.n⟩
theorem Nd.small_zero:yUc.small:=⟨by decide,by decide,by decide,by decide,by decide,by decide⟩
def set7 (w:World) (g:Nat) (f:Nd):World:=((((((w.setCell ⟨g,0,none⟩ (.int .i64 f.kind)).setCell ⟨g,1,none⟩ (.string f.s)).setCell ⟨g,2,none⟩ (.bool f.hi)).setCell ⟨g,3,none⟩ (.string f.t)).setCell ⟨g,4,none⟩ (.int .u64 f.lo)).setCell ⟨g,5,none⟩ (.int .u64 f.up)).setCell ⟨g,6,none⟩ (.int .i64 f.n)
theorem yA.set7 {e:Nd} (h:yA w base t 7 g e.seven) (f:Nd):yA (Go.Proofs.YtgnpcenpcmdlfaaGreatDoor.set7 w g f) base t 7 g f.seven:=by have:=((((((h.set 0 (.int .i64 f.kind)).set 1 (.string f.s)).set 2 (.bool f.hi)).set 3 (.string f.t)).set 4 (.int .u64 f.lo)).set 5 (.int .u64 f.up)).set 6 (.int .i64 f.n);exact this
theorem yWc {S:Nat→Prop} (w:World) (g:Nat) (f:Nd) (hs:S g):Chg S w (set7 w g f):=
 ((((((Chg.of_set w g 0 _ hs).trans (Chg.of_set _ g 1 _ hs)).trans (Chg.of_set _ g 2 _ hs)).trans (Chg.of_set _ g 3 _ hs)).trans (Chg.of_set _ g 4 _ hs)).trans (Chg.of_set _ g 5 _ hs)).trans (Chg.of_set _ g 6 _ hs)
section
variable {p:Prop}
theorem jS {q:Prop} (k:q) (h:q→p:=by intro z;(try simp only[qA,List.getElem_toArray,List.getElem_cons_zero,List.getElem_cons_succ]);exact z):p:=h k
theorem jz (h:p:=by intro z;(try simp only[qA,List.getElem_toArray,List.getElem_cons_zero,List.getElem_cons_succ]);exact z):p:=h
theorem jx (h:p:=by exact⟨rfl,by kernel_rfl,by kernel_rfl,by kernel_rfl,(by first|exact Or.inl (by rfl)|exact Or.inr ⟨by kernel_rfl,by decide⟩),fun _ _ _ h=>h⟩):p:=h
theorem jy0 (h:p:=by first|exact Or.inr ⟨by rfl,rfl⟩|exact Or.inl ⟨by rfl,by (intro wz hSw;obtain⟨d0,d1,d2,d3⟩:=hSw;go_simp;(try with_reducible rfl))⟩):p:=h
theorem jy1 (h:p:=by first|exact Or.inr ⟨by rfl,rfl⟩|exact Or.inl ⟨by rfl,by (intro wz hSw;go_simp;(try with_reducible rfl))⟩):p:=h
theorem jy10 (h:p:=by first|exact Or.inr ⟨by rfl,rfl⟩|exact Or.inl ⟨by rfl,by (intro wz hSw;obtain⟨hz0,hz1,hz2⟩:=hSw;have hcv:=yDk hz2 i (j-i) (cap-i) (by have:=HN.out;omega);rw[HW.out]at hcv;go_simp;(try with_reducible rfl))⟩):p:=h
theorem jy11 (h:p:=by first|exact Or.inr ⟨by rfl,rfl⟩|exact Or.inl ⟨by rfl,by (intro wz hSw;have hcv:=HSt.2 wz hSw;go_simp;(try with_reducible rfl))⟩):p:=h
theorem jy12 (h:p:=by first|exact Or.inr ⟨by rfl,rfl⟩|exact Or.inl ⟨by rfl,by (intro wz hSw;go_simp;(try with_reducible rfl);(try go_num))⟩):p:=h
theorem jy2 (h:p:=by first|exact Or.inr ⟨by rfl,rfl⟩|exact Or.inl ⟨by rfl,by (intro wz hSw;(try dsimp only at hSw);go_simp;(try with_reducible rfl))⟩):p:=h
theorem jy3 (h:p:=by first|exact Or.inr ⟨by rfl,rfl⟩|exact Or.inl ⟨by rfl,by (intro wz hSw;obtain⟨d0,d1,d2⟩:=hSw;go_simp;(try with_reducible rfl))⟩):p:=h
theorem jy4 (h:p:=by first|exact Or.inr ⟨by rfl,rfl⟩|exact Or.inl ⟨by rfl,by (intro wz hSw;obtain⟨d0,d1,d2,d3,d4,d5,d6,d7,d8,d9,d10,d11⟩:=hSw;go_simp;(try with_reducible rfl))⟩):p:=h
theorem jy5 (h:p:=by first|exact Or.inr ⟨by rfl,rfl⟩|exact Or.inl ⟨by rfl,by (intro wz hSw;obtain⟨z0,z1,z2,z3⟩:=hSw;obtain⟨c0,c1,c2,c3,c4,c5,c6⟩:=z2 i x HXx.out;obtain⟨d0,d1,d2,d3,d4,d5,d6⟩:=z3 i x HXx.out;go_simp;(try with_reducible rfl))⟩):p:=h
theorem jy6 (h:p:=by first|exact Or.inr ⟨by rfl,rfl⟩|exact Or.inl ⟨by rfl,by (intro wz hSw;obtain⟨d0,d1⟩:=hSw;go_simp;(try with_reducible rfl))⟩):p:=h
theorem jy7 (h:p:=by first|exact Or.inr ⟨by rfl,rfl⟩|exact Or.inl ⟨by rfl,by (intro wz hSw;obtain⟨d0,d1,d2,d3,d4,d5,d6,d7⟩:=hSw;go_simp;(try with_reducible rfl))⟩):p:=h
theorem jy8 (h:p:=by first|exact Or.inr ⟨by rfl,rfl⟩|exact Or.inl ⟨by rfl,by (intro wz hSw;(try dsimp only at hSw);go_simp;rfl)⟩):p:=h
theorem jy9 (h:p:=by first|exact Or.inr ⟨by rfl,rfl⟩|exact Or.inl ⟨by rfl,by (intro wz hSw;obtain⟨hz0,hz1⟩:=hSw;go_simp;(try with_reducible rfl);(try go_num))⟩):p:=h
def SW (S:World→Prop) (W:World):Prop:=S W
variable {S:World→Prop}
theorem SWm {W:World} (_:SW S W) (W2:World) (h:SW S W2):SW S W2:=h
variable {P:Program}
theorem wpR (L:Nat) {W:World} (hS:SW S W) (h:AnyT P .any ops Q S L ops.size (Array.replicate ops.size false) a w.drew) (hm:P.follows .mixedOrders=true:=by kernel_rfl):(Code.region id ops true).wp P Q a w:=yCa L S hm h
section
variable {P:Program} {ops:Array Oper} {Q:Exit→Act→World→Prop} {md:Region.Mode} {S:World→Prop} {L j:Nat} {v:Value} {oi:Oper} {fuel:Nat} {listed:Array Bool} {a:Act} {w:World} {q:Prop}
abbrev VX (ops:Array Oper) (Q:Exit→Act→World→Prop) (md:Region.Mode) (L i:Nat) (v:Value) (oi:Oper) (listed:Array Bool):Prop:=ops[i]?=some oi∧Region.noSelect ops=true∧Region.free md ops listed i=true∧(Region.ready md ops listed).contains i=true∧(ops[L]?=none∨yMg md ops L i=true∧i≠L)∧∀c a w,Q (.panic c) (a.put oi.dst v) w→Q (.panic c) a w
theorem jT (hx:VX ops Q md L i v oi listed) (hy:YieldsIf P ops S oi v a) (hS:S w) (h:AnyT P md ops Q S L fuel (listed.setIfInBounds i true) (a.put oi.dst v) w):AnyT P md ops Q S L (fuel+1) listed a w:=hx.2.2.2.2.1.elim (fun z=>yLb hx.1 hx.2.1 hx.2.2.1 hx.2.2.2.1 z hx.2.2.2.2.2 hy hS h) (fun z=>yNx hx.1 hx.2.1 hx.2.2.1 hx.2.2.2.1 z.1 z.2 hx.2.2.2.2.2 hy hS h)
theorem j0a (i:Nat) (hS:S w) (k:q) (hx:VX ops Q md L i v oi listed:=by exact jx) (hy:YieldsIf P ops S oi v a:=by exact jy0) (h:q→AnyT P md ops Q S L fuel (listed.setIfInBounds i true) (a.put oi.dst v) w:=by exact jz):AnyT P md ops Q S L (fuel+1) listed a w:=jT hx hy hS (h k)
theorem j0b (hS:S w) (k:q) (hx:VX ops Q md L (j+1) v oi (listed.setIfInBounds j true):=by exact jx) (hy:YieldsIf P ops S oi v a:=by exact jy0) (h:q→AnyT P md ops Q S L fuel ((listed.setIfInBounds j true).setIfInBounds (j+1) true) (a.put oi.dst v) w:=by exact jz):AnyT P md ops Q S L (fuel+1) (listed.setIfInBounds j true) a w:=jT hx hy hS (h k)
theorem j1a (i:Nat) (hS:S w) (k:q) (hx:VX ops Q md L i v oi listed:=by exact jx) (hy:YieldsIf P ops S oi v a:=by exact jy1) (h:q→AnyT P md ops Q S L fuel (listed.setIfInBounds i true) (a.put oi.dst v) w:=by exact jz):AnyT P md ops Q S L (fuel+1) listed a w:=jT hx hy hS (h k)
theorem j1b (hS:S w) (k:q) (hx:VX ops Q md L (j+1) v oi (listed.setIfInBounds j true):=by exact jx) (hy:YieldsIf P ops S oi v a:=by exact jy1) (h:q→AnyT P md ops Q S L fuel ((listed.setIfInBounds j true).setIfInBounds (j+1) true) (a.put oi.dst v) w:=by exact jz):AnyT P md ops Q S L (fuel+1) (listed.setIfInBounds j true) a w:=jT hx hy hS (h k)
theorem j10a (i:Nat) (hS:S w) (k:q) (hx:VX ops Q md L i v oi listed:=by exact jx) (hy:YieldsIf P ops S oi v a:=by exact jy10) (h:q→AnyT P md ops Q S L fuel (listed.setIfInBounds i true) (a.put oi.dst v) w:=by exact jz):AnyT P md ops Q S L (fuel+1) listed a w:=jT hx hy hS (h k)
theorem j11a (i:Nat) (hS:S w) (k:q) (hx:VX ops Q md L i v oi listed:=by exact jx) (hy:YieldsIf P ops S oi v a:=by exact jy11) (h:q→AnyT P md ops Q S L fuel (listed.setIfInBounds i true) (a.put oi.dst v) w:=by exact jz):AnyT P md ops Q S L (fuel+1) listed a w:=jT hx hy hS (h k)
theorem j12a (i:Nat) (hS:S w) (k:q) (hx:VX ops Q md L i v oi listed:=by exact jx) (hy:YieldsIf P ops S oi v a:=by exact jy12) (h:q→AnyT P md ops Q S L fuel (listed.setIfInBounds i true) (a.put oi.dst v) w:=by exact jz):AnyT P md ops Q S L (fuel+1) listed a w:=jT hx hy hS (h k)
theorem j2a (i:Nat) (hS:S w) (k:q) (hx:VX ops Q md L i v oi listed:=by exact jx) (hy:YieldsIf P ops S oi v a:=by exact jy2) (h:q→AnyT P md ops Q S L fuel (listed.setIfInBounds i true) (a.put oi.dst v) w:=by exact jz):AnyT P md ops Q S L (fuel+1) listed a w:=jT hx hy hS (h k)
theorem j2b (hS:S w) (k:q) (hx:VX ops Q md L (j+1) v oi (listed.setIfInBounds j true):=by exact jx) (hy:YieldsIf P ops S oi v a:=by exact jy2) (h:q→AnyT P md ops Q S L fuel ((listed.setIfInBounds j true).setIfInBounds (j+1) true) (a.put oi.dst v) w:=by exact jz):AnyT P md ops Q S L (fuel+1) (listed.setIfInBounds j true) a w:=jT hx hy hS (h k)
theorem j3a (i:Nat) (hS:S w) (k:q) (hx:VX ops Q md L i v oi listed:=by exact jx) (hy:YieldsIf P ops S oi v a:=by exact jy3) (h:q→AnyT P md ops Q S L fuel (listed.setIfInBounds i true) (a.put oi.dst v) w:=by exact jz):AnyT P md ops Q S L (fuel+1) listed a w:=jT hx hy hS (h k)
theorem j3b (hS:S w) (k:q) (hx:VX ops Q md L (j+1) v oi (listed.setIfInBounds j true):=by exact jx) (hy:YieldsIf P ops S oi v a:=by exact jy3) (h:q→AnyT P md ops Q S L fuel ((listed.setIfInBounds j true).setIfInBounds (j+1) true) (a.put oi.dst v) w:=by exact jz):AnyT P md ops Q S L (fuel+1) (listed.setIfInBounds j true) a w:=jT hx hy hS (h k)
theorem j4a (i:Nat) (hS:S w) (k:q) (hx:VX ops Q md L i v oi listed:=by exact jx) (hy:YieldsIf P ops S oi v a:=by exact jy4) (h:q→AnyT P md ops Q S L fuel (listed.setIfInBounds i true) (a.put oi.dst v) w:=by exact jz):AnyT P md ops Q S L (fuel+1) listed a w:=jT hx hy hS (h k)
theorem j5a (i:Nat) (hS:S w) (k:q) (hx:VX ops Q md L i v oi listed:=by exact jx) (hy:YieldsIf P ops S oi v a:=by exact jy5) (h:q→AnyT P md ops Q S L fuel (listed.setIfInBounds i true) (a.put oi.dst v) w:=by exact jz):AnyT P md ops Q S L (fuel+1) listed a w:=jT hx hy hS (h k)
theorem j5b (hS:S w) (k:q) (hx:VX ops Q md L (j+1) v oi (listed.setIfInBounds j true):=by exact jx) (hy:YieldsIf P ops S oi v a:=by exact jy5) (h:q→AnyT P md ops Q S L fuel ((listed.setIfInBounds j true).setIfInBounds (j+1) true) (a.put oi.dst v) w:=by exact jz):AnyT P md ops Q S L (fuel+1) (listed.setIfInBounds j true) a w:=jT hx hy hS (h k)
theorem j6a (i:Nat) (hS:S w) (k:q) (hx:VX ops Q md L i v oi listed:=by exact jx) (hy:YieldsIf P ops S oi v a:=by exact jy6) (h:q→AnyT P md ops Q S L fuel (listed.setIfInBounds i true) (a.put oi.dst v) w:=by exact jz):AnyT P md ops Q S L (fuel+1) listed a w:=jT hx hy hS (h k)
theorem j6b (hS:S w) (k:q) (hx:VX ops Q md L (j+1) v oi (listed.setIfInBounds j true):=by exact jx) (hy:YieldsIf P ops S oi v a:=by exact jy6) (h:q→AnyT P md ops Q S L fuel ((listed.setIfInBounds j true).setIfInBounds (j+1) true) (a.put oi.dst v) w:=by exact jz):AnyT P md ops Q S L (fuel+1) (listed.setIfInBounds j true) a w:=jT hx hy hS (h k)
theorem j7a (i:Nat) (hS:S w) (k:q) (hx:VX ops Q md L i v oi listed:=by exact jx) (hy:YieldsIf P ops S oi v a:=by exact jy7) (h:q→AnyT P md ops Q S L fuel (listed.setIfInBounds i true) (a.put oi.dst v) w:=by exact jz):AnyT P md ops Q S L (fuel+1) listed a w:=jT hx hy hS (h k)
theorem j7b (hS:S w) (k:q) (hx:VX ops Q md L (j+1) v oi (listed.setIfInBounds j true):=by exact jx) (hy:YieldsIf P ops S oi v a:=by exact jy7) (h:q→AnyT P md ops Q S L fuel ((listed.setIfInBounds j true).setIfInBounds (j+1) true) (a.put oi.dst v) w:=by exact jz):AnyT P md ops Q S L (fuel+1) (listed.setIfInBounds j true) a w:=jT hx hy hS (h k)
theorem j8a (i:Nat) (hS:S w) (k:q) (hx:VX ops Q md L i v oi listed:=by exact jx) (hy:YieldsIf P ops S oi v a:=by exact jy8) (h:q→AnyT P md ops Q S L fuel (listed.setIfInBounds i true) (a.put oi.dst v) w:=by exact jz):AnyT P md ops Q S L (fuel+1) listed a w:=jT hx hy hS (h k)
theorem j9a (i:Nat) (hS:S w) (k:q) (hx:VX ops Q md L i v oi listed:=by exact jx) (hy:YieldsIf P ops S oi v a:=by exact jy9) (h:q→AnyT P md ops Q S L fuel (listed.setIfInBounds i true) (a.put oi.dst v) w:=by exact jz):AnyT P md ops Q S L (fuel+1) listed a w:=jT hx hy hS (h k)
end
end
variable {P:Program} {S:World→Prop} {L fuel:Nat}
theorem qT {md:Region.Mode} (i:Nat) (v:Value) {oi:Oper} {listed:Array Bool} (hi:ops[i]?=some oi)
  (hy:∀w,S w→(execOp a.eval oi).run P w=.ok (.value v) w) (hS:S w)
  (h:AnyT P md ops Q S L fuel (listed.setIfInBounds i true) (a.put oi.dst v) w)
  (hs:Region.noSelect ops=true:=by kernel_rfl) (hf:Region.free md ops listed i=true:=by kernel_rfl) (hr:(Region.ready md ops listed).contains i=true:=by kernel_rfl) (hL:ops[L]?=none:=by rfl)
  (hQ:∀c a w,Q (.panic c) (a.put oi.dst v) w→Q (.panic c) a w:=by exact fun _ _ _ h=>h) (hw:Region.wanted oi (yielded ops a.tmps)=true:=by rfl):AnyT P md ops Q S L (fuel+1) listed a w:=
 yLb hi hs hf hr hL hQ (Or.inl ⟨hw,hy⟩) hS h
theorem qU {md:Region.Mode} (i:Nat) (v:Value) {oi:Oper} {listed:Array Bool} (hi:ops[i]?=some oi)
  (hy:∀w,S w→(execOp a.eval oi).run P w=.ok (.value v) w) (hS:S w)
  (h:AnyT P md ops Q S L fuel (listed.setIfInBounds i true) (a.put oi.dst v) w)
  (hs:Region.noSelect ops=true:=by kernel_rfl) (hf:Region.free md ops listed i=true:=by kernel_rfl) (hr:(Region.ready md ops listed).contains i=true:=by kernel_rfl) (hL:yMg md ops L i=true:=by kernel_rfl) (hne:i≠L:=by decide)
  (hQ:∀c a w,Q (.panic c) (a.put oi.dst v) w→Q (.panic c) a w:=by exact fun _ _ _ h=>h) (hw:Region.wanted oi (yielded ops a.tmps)=true:=by rfl):AnyT P md ops Q S L (fuel+1) listed a w:=
 yNx hi hs hf hr hL hne hQ (Or.inl ⟨hw,hy⟩) hS h
theorem qO {md:Region.Mode} (i:Nat) {listed:Array Bool} (ho:ops[i]?=some o)
  (h:∀K':Act→World→Prop,Shut (∀a w,(i=L∨S w)→AnyT P md ops Q S L fuel (listed.setIfInBounds i true) a w→K' a w)→if Region.wanted o (yielded ops a.tmps)=true then Oper.wp P o a w K' Q else K' (a.put o.dst undef) w)
  (hr:Region.ready md ops listed= [i]:=by kernel_rfl):AnyT P md ops Q S L (fuel+1) listed a w:=yWz hr ho h
theorem qD {md:Region.Mode} {listed:Array Bool} (h:Q .normal a w) (hr:Region.ready md ops listed= []:=by kernel_rfl):AnyT P md ops Q S L fuel listed a w:=yTz hr h
end Go.Proofs.YtgnpcenpcmdlfaaGreatDoor
