import Derived.Test.YtgnpcenpcmdlfaaGreatDoorWkAA
import Derived.Deep.DeepCutAuto
import Derived.Deep.RegionWith
import Derived.Deep.RegionHeld3
namespace Go.Proofs.YtgnpcenpcmdlfaaGreatDoor
open Go.ChangeShapes Go.WideShapes Go.ChangeAt Go.RowKit Go.Deep
set_option linter.unusedVariables false
set_option linter.unusedSimpArgs false
set_option maxRecDepth 100000
theorem cls_first {p:List UInt8} {j:Nat} {f:UInt8→Bool} (hj:j≤p.length):clsM p j false f=match itemM p j with| .inr e=>.inr e| .inl (a,b,k)=>clsM p k true (wider f a b):=by
 by_cases h:j<p.length
 ·rw[clsM,dif_pos h,if_neg (by simp)]
  split<;>(next hc=>(rw[hc];first|done|rfl))
 ·rw[clsM,dif_neg h]
  exact zzQ75
theorem cls_shut {p:List UInt8} {j:Nat} {f:UInt8→Bool} (h:p[j]?=some 93):clsM p j true f=.inl (f,j+1):=by
 rw[clsM,dif_pos (lt_of_at h),if_pos ⟨h,rfl⟩]
theorem cls_more {p:List UInt8} {j:Nat} {f:UInt8→Bool} (hj:j≤p.length) (h:¬p[j]?=some 93):clsM p j true f=match itemM p j with| .inr e=>.inr e| .inl (a,b,k)=>clsM p k true (wider f a b):=by
 by_cases h1:j<p.length
 ·rw[clsM,dif_pos h1,if_neg (fun q=>h q.1)]
  split<;>(next hc=>(rw[hc];first|done|rfl))
 ·rw[clsM,dif_neg h1]
  exact zzQ75
noncomputable abbrev clsV (f:UInt8→Bool):Value:=.iface 222 (.agg (setA f))
theorem info_cls:(Tryz.prog.info? 222).map (fun i=>(i.zero,i.size))=some (some (.agg (Array.replicate 256 (.bool false))),256):=by kernel_rfl
theorem places_cls:(match Tryz.prog.underlying 222 with|some (.struct fs)=>fs.toList.mapM (fun f=>(Tryz.prog.info? f.type).map fun i=>(f.offset,i.size))|_=>none)=some [(0,256)]:=by kernel_rfl
theorem built_set:Tryz.prog.built 219 []=some (setA (fun _=>false)):=by rw[setA_none];kernel_rfl
theorem fold_fillP:∀(l:List Value) (k:Nat) (z:List Value),k+l.length≤z.length→(l.zipIdx k).foldl (fun(cs:Array Value) (p:Value×Nat)=>cs.setIfInBounds (0+p.2) p.1) z.toArray=(z.take k++l++z.drop (k+l.length)).toArray
 | [],k,z,h=>by simp
 |x::l,k,z,h=>by
  simp only[List.zipIdx_cons,List.foldl_cons,Nat.zero_add,List.setIfInBounds_toArray]
  have h2:=fold_fillP l (k+1) (z.set k x) (by simp at h⊢;omega)
  simp only[Nat.zero_add]at h2
  rw[h2]
  congr 1
  have hk:k<z.length:=by simp at h;omega
  rw[List.take_add_one,List.take_set_of_le (Nat.le_refl _),List.getElem?_set_self hk]
  have h3:(z.set k x).drop (k+1+l.length)=z.drop (k+(x::l).length):=by
   rw[List.drop_set_of_lt (by omega)]
   congr 1
   simp;omega
  rw[h3]
  simp
theorem built_cls (c:Array Value) (hc:c.size=256):Tryz.prog.built 222 [(0,.agg c)]=some c:=by
 have hp:=places_cls
 cases hi:Tryz.prog.info? 222 with
 |none=>have:=info_cls;rw[hi]at this;cases this
 |some it=>
  have h1:=info_cls
  rw[hi]at h1
  simp only[Option.map_some,Option.some.injEq,Prod.mk.injEq]at h1
  cases hu:Tryz.prog.underlying 222 with
  |none=>rw[hu]at hp;cases hp
  |some d=>
   rw[hu]at hp
   cases d<;>try (cases hp;done)
   case struct fs=>
    simp only[]at hp
    unfold Program.built
    rw[hi,hu]
    simp only[]
    rw[h1.1,hp]
    simp only[]
    show Instr.fill _ (Array.replicate 256 (.bool false)) [(0,.agg c)]=_
    unfold Instr.fill
    have hv:(Value.agg c).cells=c:=rfl
    simp only[List.getElem?_toArray,List.getElem?_cons_zero,hv,hc]
    have hz:(Array.replicate 256 (Value.bool false)).size=256:=by simp
    rw[if_neg (by simp[hz])]
    unfold Instr.fill
    congr 1
    have h3:=fold_fillP c.toList 0 (Array.replicate 256 (Value.bool false)).toList (by simp[hc])
    rw[←Array.foldl_toList,Array.toList_zipIdx]
    have h4:(Array.replicate 256 (Value.bool false)).toList.toArray=Array.replicate 256 (Value.bool false):=Array.toArray_toList
    rw[h4]at h3
    refine Eq.trans h3 ?_
    have h5:(Array.replicate 256 (Value.bool false)).toList.drop (0+c.toList.length)= []:=by
     simp[hc]
    rw[h5]
    apply Array.ext'
    simp
theorem wpList_build_cells {ops:Array Oper} {rest:List Oper} {o:Oper} {a:Act} {w:World} {Q:Exit→Act→World→Prop} (hg:o.guard=none) (t:TypeId) (parts:Array (Nat×Operand)) (ho:o.op=.build t parts) (cells:Array Value)
  (hb:Tryz.prog.built t (parts.map fun(i,x)=>(i,a.eval x)).toList=some cells) (h:wpList Tryz.prog ops Q rest (a.put o.dst (.agg cells)) w):wpList Tryz.prog ops Q (o::rest) a w:=by
 refine wpList_build hg t parts ho (by rw[hb];rfl) ?_
 rw[hb]
 exact h
theorem wpList_call_of {ops:Array Oper} {rest:List Oper} {o:Oper} {a:Act} {w:World} {Q:Exit→Act→World→Prop} (hgd:o.guard=none) (F:FuncId) (vals:Array Value) (hrun:(execOp a.eval o).run Tryz.prog w=.ok (.enter F vals) w)
  (h:Calls Tryz.prog F vals w fun e w'=>match e with| .returned v=>wpList Tryz.prog ops Q rest (a.put o.dst v) w'| .panicked chain=>Q (.panic chain) a w'| .outgrown=>False):wpList Tryz.prog ops Q (o::rest) a w:=by
 refine wpList_plain hgd fun K hK=>?_
 unfold Oper.wp
 rw[hrun,Oper.upon_enter]
 refine h.mono ?_
 intro e w' he
 cases e with
 |returned v=>exact hK _ _ he
 |panicked chain=>exact he
 |outgrown=>exact he.elim
theorem wpList_moveS {ops:Array Oper} {rest:List Oper} {o:Oper} {a:Act} {w:World} {Q:Exit→Act→World→Prop} (hg:o.guard=none) (x:Operand) (ho:o.op=.move x) (h:wpList Tryz.prog ops Q rest (a.put o.dst (a.eval x)) w):wpList Tryz.prog ops Q (o::rest) a w:=by
 refine wpList_plain hg fun K hK=>?_
 unfold Oper.wp execOp
 simp only[ho,Sem.run_pure]
 exact hK _ _ h
def ClsEq (p:List UInt8) (i:Nat) (ng:Bool) (k:Nat) (b:Bool) (f:UInt8→Bool):Prop:=classM p i=(match clsM p k b f with| .inl (f,k)=>.inl ((if ng=true then fun c=> !f c else f),k)| .inr e=>.inr e)
theorem ClsEq.eq {p:List UInt8} {i:Nat} {ng:Bool} {k:Nat} {b:Bool} {f:UInt8→Bool} (h:ClsEq p i ng k b f):classM p i=(match clsM p k b f with| .inl (f,k)=>.inl ((if ng=true then fun c=> !f c else f),k)| .inr e=>.inr e):=h
def atOf (w:World) (g:Nat):Nat:=match w.cell? ⟨g,1,none⟩with|some v=>(intOf v).toNat|none=>0
theorem atOf_pr {w:World} {base g i o:Nat} {p:ByteArray} (h:PrAt w base g p i o):atOf w g=i:=by
 unfold atOf;rw[h.cell (j:=1) rfl];simp[intOf]
set_option maxHeartbeats 8000000 in
theorem class_core {base g i o:Nat} {p:ByteArray} {w:World} (h:PrAt w base g p i o) (hp:p.size≤200) (hi:i≤p.size):
  Calls Tryz.prog 169 #[.pointer (some ⟨g,0,none⟩)] w fun e w'=>Chg (fun k=>k=g) w w'∧
   ((∃(f:UInt8→Bool) (k:Nat),classM (sb p) i=.inl (f,k)∧e=.returned (clsV f)∧PrAt w' base g p k o)∨(∃(c:Int) (k:Nat),classM (sb p) i=.inr (c,k)∧e=Pf c k)):=by
 have hgl:=h.lt.2
 have HP:Hid (PrAt w base g p i o):=h
 clear h
 go_enter Tryz.func169,Tryz.ntmps169
 go_wp2_with fail
 refine(pskip_core 94 HP.out hp).mono ?_
 rintro e w1 ⟨hC1,h1⟩
 obtain⟨ng,j,rfl,hj,hP1,hM⟩:∃(ng:Bool) (j:Nat),e=.returned (.bool ng)∧j≤p.size∧PrAt w1 base g p j o∧ClsEq (sb p) i ng j false (fun _=>false):=by
  rcases h1 with⟨hx,rfl,hP⟩|⟨hx,rfl,hP⟩
  ·refine⟨true,i+1,rfl,by have:=(List.getElem?_eq_some_iff.1 hx).1;rw[sb_len]at this;omega,hP,?_⟩
   unfold ClsEq classM;rw[if_pos hx];rfl
  ·refine⟨false,i,rfl,hi,hP,?_⟩
   unfold ClsEq classM;rw[if_neg hx]
   generalize clsM (sb p) i false (fun _=>false)=r
   cases r<;>rfl
 have HW1:Hid (PrAt w1 base g p j o∧Chg (fun k=>k=g) w w1∧ClsEq (sb p) i ng j false (fun _=>false)):=⟨hP1,hC1,hM⟩
 clear h1 hC1 hP1 hM HP
 go_upto_region 2 with fail
 apply wp_region_list
 refine wpList_moveS rfl _ rfl ?_
 refine wpList_build_cells rfl _ _ rfl (setA (fun _=>false)) (by simp;exact built_set) ?_
 simp only[Act.put,Act.eval,List.setIfInBounds_toArray,List.set_cons_succ,List.set_cons_zero]
 refine wpList_call_of rfl 170 #[.pointer (some ⟨g,0,none⟩),.agg (setA (fun _=>false))] (by simp[execOp,go_sem,Act.eval,Tryz.func170]) ?_
 refine(item_core (fun _=>false) HW1.1 hp hj).mono ?_
 rintro e w2 ⟨hC2,(⟨a,b,k,hk,rfl,hP2⟩|⟨c,k,hk,rfl⟩)⟩
 case inr=>
  refine⟨rfl,HW1.2.1.trans hC2,.inr ⟨c,k,?_,rfl⟩⟩
  rw[HW1.2.2.eq,cls_first (by rw[sb_len];exact hj),hk]
 obtain⟨fs,hfs⟩:=qE (wider (fun _=>false) a b)
 have hkp:k≤p.size:=by have:=(itemM_gt hk).2.1;rw[sb_len]at this;exact this
 have HW2:Hid (PrAt w2 base g p k o∧Chg (fun k=>k=g) w w2∧ClsEq (sb p) i ng k true fs):=by
  refine⟨hP2,HW1.2.1.trans hC2,?_⟩
  unfold ClsEq
  rw[HW1.2.2.eq,cls_first (by rw[sb_len];exact hj),hk,hfs]
 rw[←hfs]
 clear hC2 hk hP2 HW1 hfs
 simp only[Act.put,List.setIfInBounds_toArray,List.set_cons_succ,List.set_cons_zero]
 have hs2:=HW2.2.1.size
 have hzv:=(zero_of_info info_set).1
 have hsz:=setA_size fs
 have hsc:=run_storeCells_new (P:=Tryz.prog) w2 219 (Array.replicate 256 (.bool false)) (setA fs) (by rw[setA_size];exact(zero_of_info info_set).2) (by rw[setA_size];simp) (setA_one fs)
 obtain⟨W3,hW3⟩:=qE (w2.alloc (.cells (setA fs) 219))
 have HW3:Hid (PrAt W3 base g p k o∧Chg (fun k=>k=g) w W3∧SetAt W3 w.heap.size w2.heap.size fs∧w.heap.size≤w2.heap.size):=by
  rw[hW3]
  have hb:Below w2.heap.size w2 (w2.alloc (.cells (setA fs) 219)):=qB
  exact⟨BoxAt.below HW2.1 hb,HW2.2.1.trans (Chg.of_below hb),BoxAt.ofHeap (heap_alloc_last w2 _) hs2 (setA_size fs),hs2⟩
 have HM:Hid (ClsEq (sb p) i ng k true fs):=HW2.2.2
 go_wp2_with fail
 rw[←hW3]
 obtain⟨SB,hSB⟩:=qE w2.heap.size
 rw[←hSB]at HW3
 rw[←hSB]
 have hsbl:w.heap.size≤SB:=by omega
 clear hW3 hsc hzv hsz HW2 hSB hs2
 have hgsb:¬g=SB:=by omega
 go_loopw[] (fun wr=>∃(k:Nat) (f:UInt8→Bool),k≤p.size∧PrAt wr base g p k o∧Chg (fun k=>k=g) w wr∧SetAt wr w.heap.size SB f∧ClsEq (sb p) i ng k true f) (fun wr=>p.size-atOf wr g)
 case atStart=>exact⟨k,fs,hkp,HW3.1,HW3.2.1,HW3.2.2.1,HM.out⟩
 case round=>
  clear HW3 HM
  obtain⟨k,f,hk,h1,h2,h3,h4⟩:=hrel
  have HR:Hid (PrAt wr base g p k o∧Chg (fun k=>k=g) w wr∧SetAt wr w.heap.size SB f∧ClsEq (sb p) i ng k true f):=⟨h1,h2,h3,h4⟩
  have HA:Hid (atOf wr g=k):=atOf_pr h1
  clear h1 h2 h3 h4 hkp
  go_wp2_with fail
  refine(pskip_core 93 HR.1 hp).mono ?_
  rintro e w5 ⟨hC5,(⟨hx,rfl,hP5⟩|⟨hx,rfl,hP5⟩)⟩
  ·
   have HF:Hid (PrAt w5 base g p (k+1) o∧Chg (fun k=>k=g) w w5∧SetAt w5 w.heap.size SB f∧classM (sb p) i=.inl ((if ng=true then fun c=> !f c else f),k+1)):=by
    refine⟨hP5,HR.2.1.trans hC5,BoxAt.chg HR.2.2.1 hC5 (by omega),?_⟩
    rw[HR.2.2.2.eq,cls_shut hx]
   clear hC5 hx hP5 HR HA
   have hi2:(Tryz.prog.info? 219).map (·.size)=some 256:=(zero_of_info info_set).2
   cases ng
   ·have h0:=SetAt.heap HF.2.2.1
    go_upto_region 7 with fail
    apply wp_region_list
    refine wpList_load_row rfl 219 _ rfl SB rfl 219 (setA f) (0,0) _ h0 Tryz.underlying219 rfl (by rw[setA_size];exact hi2) ?_
    simp only[Act.put,Act.eval,List.setIfInBounds_toArray,List.set_cons_succ,List.set_cons_zero]
    refine wpList_build_cells rfl _ _ rfl (setA f) (by simp[Act.eval];exact built_cls _ (setA_size f)) ?_
    simp only[Act.put,Act.eval,List.setIfInBounds_toArray,List.set_cons_succ,List.set_cons_zero]
    clear h0
    go_wp2_with fail
    go_ret
    exact⟨HF.2.1,.inl ⟨f,k+1,HF.2.2.2,rfl,HF.1⟩⟩
   ·have h0:=SetAt.heap HF.2.2.1
    go_upto_region 6 with fail
    apply wp_region_list
    refine wpList_load_row rfl 219 _ rfl SB rfl 219 (setA f) (0,0) _ h0 Tryz.underlying219 rfl (by rw[setA_size];exact hi2) ?_
    simp only[Act.put,Act.eval,List.setIfInBounds_toArray,List.set_cons_succ,List.set_cons_zero]
    refine wpList_call_of rfl 167 #[.agg (setA f)] (by simp[execOp,go_sem,Act.eval,Tryz.func167]) ?_
    refine(opposite_core f w5).mono ?_
    rintro e w6 ⟨rfl,hb6⟩
    simp only[Act.put,Act.eval,List.setIfInBounds_toArray,List.set_cons_succ,List.set_cons_zero]
    have HF6:Hid (PrAt w6 base g p (k+1) o∧Chg (fun k=>k=g) w w6∧SetAt w6 w.heap.size SB f):=⟨BoxAt.below HF.1 hb6,HF.2.1.trans (Chg.of_below hb6),BoxAt.below HF.2.2.1 hb6⟩
    have h6:=SetAt.heap HF6.2.2
    refine wpList_store_row rfl 219 _ _ rfl SB (setA (fun c=> !f c)) rfl rfl 219 (setA f) h6 (by rw[setA_size];exact hi2) (by rw[setA_size,setA_size]) (setA_one _) ?_
    have h7:=setRow_heap _ _ _ (setA (fun c=> !f c)) _ _ h6
    obtain⟨W7,hW7⟩:=qE (w6.setRow SB (setA (fun c=> !f c)))
    have HF7:Hid (PrAt W7 base g p (k+1) o∧Chg (fun k=>k=g) w W7):=by
     have hc:=chg_setRow w6 SB (setA (fun c=> !f c))
     rw[hW7]
     exact⟨BoxAt.chg HF6.1 hc (by omega),HF6.2.1.absorb hc (fun j q=>.inr (by omega))⟩
    rw[←hW7]at h7⊢
    clear hW7 h6 h0 hb6
    apply wpList_nil
    go_upto_region 7 with fail
    apply wp_region_list
    refine wpList_load_row rfl 219 _ rfl SB rfl 219 (setA (fun c=> !f c)) (0,0) _ h7 Tryz.underlying219 rfl (by rw[setA_size];exact hi2) ?_
    simp only[Act.put,Act.eval,List.setIfInBounds_toArray,List.set_cons_succ,List.set_cons_zero]
    refine wpList_build_cells rfl _ _ rfl (setA (fun c=> !f c)) (by simp[Act.eval];exact built_cls _ (setA_size _)) ?_
    simp only[Act.put,Act.eval,List.setIfInBounds_toArray,List.set_cons_succ,List.set_cons_zero]
    clear h7
    go_wp2_with fail
    go_ret
    exact⟨HF7.2,.inl ⟨fun c=> !f c,k+1,HF.2.2.2,rfl,HF7.1⟩⟩
  ·have HF:Hid (PrAt w5 base g p k o∧Chg (fun k=>k=g) w w5∧SetAt w5 w.heap.size SB f∧¬(sb p)[k]?=some 93):=⟨hP5,HR.2.1.trans hC5,BoxAt.chg HR.2.2.1 hC5 (by omega),hx⟩
   have HM:Hid (ClsEq (sb p) i ng k true f):=HR.2.2.2
   clear hC5 hx hP5 HR
   have hi2:(Tryz.prog.info? 219).map (·.size)=some 256:=(zero_of_info info_set).2
   have h0:=SetAt.heap HF.2.2.1
   go_upto_region 4 with fail
   apply wp_region_list
   refine wpList_moveS rfl _ rfl ?_
   refine wpList_load_row rfl 219 _ rfl SB rfl 219 (setA f) (0,0) _ h0 Tryz.underlying219 rfl (by rw[setA_size];exact hi2) ?_
   simp only[Act.put,Act.eval,List.setIfInBounds_toArray,List.set_cons_succ,List.set_cons_zero]
   refine wpList_call_of rfl 170 #[.pointer (some ⟨g,0,none⟩),.agg (setA f)] (by simp[execOp,go_sem,Act.eval,Tryz.func170]) ?_
   refine(item_core f HF.1 hp hk).mono ?_
   rintro e w6 ⟨hC6,(⟨a,b,k6,hk6,rfl,hP6⟩|⟨c,k6,hk6,rfl⟩)⟩
   case inr=>
    refine⟨rfl,HF.2.1.trans hC6,.inr ⟨c,k6,?_,rfl⟩⟩
    rw[HM.eq,cls_more (by rw[sb_len];exact hk) HF.2.2.2,hk6]
   have HF6:Hid (PrAt w6 base g p k6 o∧Chg (fun k=>k=g) w w6∧SetAt w6 w.heap.size SB f):=⟨hP6,HF.2.1.trans hC6,BoxAt.chg HF.2.2.1 hC6 (by omega)⟩
   have hgt:=itemM_gt hk6
   rw[sb_len]at hgt
   have HM6:Hid (ClsEq (sb p) i ng k6 true (wider f a b)):=by
    show ClsEq _ _ _ _ _ _
    unfold ClsEq
    rw[HM.eq,cls_more (by rw[sb_len];exact hk) HF.2.2.2,hk6]
   clear hC6 hk6 hP6 h0 HM HF
   simp only[Act.put,Act.eval,List.setIfInBounds_toArray,List.set_cons_succ,List.set_cons_zero]
   have h6:=SetAt.heap HF6.2.2
   refine wpList_store_row rfl 219 _ _ rfl SB (setA (wider f a b)) rfl rfl 219 (setA f) h6 (by rw[setA_size];exact hi2) (by rw[setA_size,setA_size]) (setA_one _) ?_
   have h7:=setRow_heap _ _ _ (setA (wider f a b)) _ _ h6
   obtain⟨W7,hW7⟩:=qE (w6.setRow SB (setA (wider f a b)))
   have HF7:Hid (PrAt W7 base g p k6 o∧Chg (fun k=>k=g) w W7∧SetAt W7 w.heap.size SB (wider f a b)):=by
    have hc:=chg_setRow w6 SB (setA (wider f a b))
    rw[←hW7]at h7
    refine⟨?_,?_,BoxAt.ofHeap h7 hsbl (setA_size _)⟩
    ·rw[hW7];exact BoxAt.chg HF6.1 hc (by omega)
    ·rw[hW7];exact HF6.2.1.absorb hc (fun j q=>.inr (by omega))
   rw[←hW7]
   clear hW7 h6 h7
   apply wpList_nil
   go_wp2_with fail
   go_roundw
   case rel=>
    exact⟨_,_,_,_,_,_,⟨k6,wider f a b,hgt.2.1,HF7.1,HF7.2.1,HF7.2.2,HM6.out⟩,rfl⟩
   case measure=>rw[HA.out,atOf_pr HF7.1];omega
theorem ne_u8 {x c:UInt8} (h:¬x=c):¬(x.toNat:Int)=(c.toNat:Int):=fun q=>h (UInt8.toNat_inj.1 (by omega))
set_option maxHeartbeats 2000000 in
theorem l4Ch_core (p:ByteArray) (i:Nat) (w:World) (hp:p.size≤200) (hi:i≤300) (c:UInt8) (k:Nat) (b:Bool) (h:chM (sb p) i=(c,k,b)):
  Calls Tryz.prog 124 #[.string p,.int .i64 (i:Int)] w fun e w'=>e=.returned (.tuple #[.int .u8 (c.toNat:Int),.int .i64 (k:Int),.bool b])∧w'=w:=by
 have HM:Hid (chM (sb p) i=(c,k,b)):=h
 clear h
 by_cases hlt:i<p.size
 ·obtain⟨x,hx⟩:∃x,(sb p)[i]?=some x:=⟨_,List.getElem?_eq_getElem (by rw[sb_len];exact hlt)⟩
  obtain⟨_,gx⟩:=sb_get hx
  have z1:(i:Int)<(p.size:Int):=by omega
  have hle:¬p.size≤i:=by omega
  have HX:Hid ((sb p)[i]?=some x):=hx
  clear hx
  by_cases hend:x=93∨x=45
  ·have HF:c=0∧k=i∧b=false:=by
    have h1:chM (sb p) i=(0,i,false):=by unfold chM;rw[HX.out];simp only[];rw[if_pos hend]
    rw[HM.out]at h1
    simpa using h1
   obtain⟨rfl,rfl,rfl⟩:=HF
   rcases hend with rfl|rfl
   all_goals go_enter Tryz.func124,Tryz.ntmps124
   all_goals go_wp2_with fail
   all_goals refine bodyPost_ret (v:=.tuple #[.int .u8 0,.int .i64 (k:Int),.bool false]) (by simp[results,Tryz.results124,go_sem]) rfl ⟨rfl,rfl⟩
  have h93:((x.toNat:Int)==93)=false:=beq_eq_false_iff_ne.2 (ne_u8 (c:=93) (fun q=>hend (.inl q)))
  have h45:((x.toNat:Int)==45)=false:=beq_eq_false_iff_ne.2 (ne_u8 (c:=45) (fun q=>hend (.inr q)))
  by_cases h92:x=92
  ·subst h92
   by_cases hl2:i+1<p.size
   ·obtain⟨y,hy⟩:∃y,(sb p)[i+1]?=some y:=⟨_,List.getElem?_eq_getElem (by rw[sb_len];exact hl2)⟩
    obtain⟨_,gy⟩:=sb_get hy
    have HF:c=y∧k=i+2∧b=true:=by
     have h1:chM (sb p) i=(y,i+2,true):=by rw[chM_esc HX.out,hy]
     rw[HM.out]at h1
     simpa using h1
    obtain⟨rfl,rfl,rfl⟩:=HF
    have z2:(i:Int)+1<(p.size:Int):=by omega
    clear hy
    go_enter Tryz.func124,Tryz.ntmps124
    go_wp2_with fail
    refine bodyPost_ret (v:=.tuple #[.int .u8 (c.toNat:Int),.int .i64 ((i+2:Nat):Int),.bool true]) (by simp[results,Tryz.results124,go_sem]) rfl ⟨rfl,rfl⟩
   ·have HF:c=0∧k=i+1∧b=false:=by
     have h1:chM (sb p) i=(0,i+1,false):=by rw[chM_esc HX.out,List.getElem?_eq_none (by rw[sb_len];omega)]
     rw[HM.out]at h1
     simpa using h1
    obtain⟨rfl,rfl,rfl⟩:=HF
    have z2:¬(i:Int)+1<(p.size:Int):=by omega
    go_enter Tryz.func124,Tryz.ntmps124
    go_wp2_with fail
    refine bodyPost_ret (v:=.tuple #[.int .u8 0,.int .i64 ((i+1:Nat):Int),.bool false]) (by simp[results,Tryz.results124,go_sem]) rfl ⟨rfl,rfl⟩
  ·have z92:((x.toNat:Int)==92)=false:=beq_eq_false_iff_ne.2 (ne_u8 (c:=92) h92)
   have HF:c=x∧k=i+1∧b=true:=by
    have h1:chM (sb p) i=(x,i+1,true):=by unfold chM;rw[HX.out];simp only[];rw[if_neg hend,if_neg h92]
    rw[HM.out]at h1
    simpa using h1
   obtain⟨rfl,rfl,rfl⟩:=HF
   go_enter Tryz.func124,Tryz.ntmps124
   go_wp2_with fail
   refine bodyPost_ret (v:=.tuple #[.int .u8 (c.toNat:Int),.int .i64 ((i+1:Nat):Int),.bool true]) (by simp[results,Tryz.results124,go_sem]) rfl ⟨rfl,rfl⟩
 ·have HF:c=0∧k=i∧b=false:=by
   have h1:chM (sb p) i=(0,i,false):=chM_end (List.getElem?_eq_none (by rw[sb_len];omega))
   rw[HM.out]at h1
   simpa using h1
  obtain⟨rfl,rfl,rfl⟩:=HF
  have z1:¬(k:Int)<(p.size:Int):=by omega
  have z2:(p.size:Int)≤(k:Int):=by omega
  go_enter Tryz.func124,Tryz.ntmps124
  go_wp2_with fail
  refine bodyPost_ret (v:=.tuple #[.int .u8 0,.int .i64 (k:Int),.bool false]) (by simp[results,Tryz.results124,go_sem]) rfl ⟨rfl,rfl⟩
set_option maxHeartbeats 1000000 in
theorem l4Op_core (c:UInt8) (w:World):Calls Tryz.prog 106 #[.int .u8 (c.toNat:Int)] w fun e w'=>e=.returned (.bool (decide (isOp c)))∧w'=w:=by
 by_cases h42:c=42
 ·subst h42
  exact zzQ67
 by_cases h43:c=43
 ·subst h43
  exact zzQ67
 by_cases h63:c=63
 ·subst h63
  exact zzQ67
 have z1:((c.toNat:Int)==42)=false:=beq_eq_false_iff_ne.2 (ne_u8 (c:=42) h42)
 have z2:((c.toNat:Int)==43)=false:=beq_eq_false_iff_ne.2 (ne_u8 (c:=43) h43)
 have z3:((c.toNat:Int)==63)=false:=beq_eq_false_iff_ne.2 (ne_u8 (c:=63) h63)
 have H:Hid (decide (isOp c)=false):=decide_eq_false (fun q=>q.elim h42 (fun q=>q.elim h43 h63))
 go_enter Tryz.func106,Tryz.ntmps106
 go_wp2_with fail
 go_ret
 exact⟨by rw[H.out];(first|rfl|simp[z3]),rfl⟩
theorem cls_go {p:List UInt8} {j:Nat} {b:Bool} {f:UInt8→Bool} (hj:j≤p.length) (h:¬(p[j]?=some 93∧b=true)):clsM p j b f=match itemM p j with| .inr e=>.inr e| .inl (a,b,k)=>clsM p k true (wider f a b):=by
 cases b
 ·exact cls_first hj
 ·exact cls_more hj (fun q=>h ⟨q,rfl⟩)
def ClassP (p:ByteArray) (i:Nat) (e:Ending):Prop:=
 (∃f k,classM (sb p) i=.inl (f,k)∧e=.returned (.tuple #[.int .i64 (k:Int),.agg #[.int .i64 0,.int .i64 0]]))∨(∃c k,classM (sb p) i=.inr (c,k)∧e=.returned (.tuple #[.int .i64 0,.agg #[.int .i64 c,.int .i64 (k:Int)]]))
theorem class_ret {base rb:Nat} {w:World} {a:Act} {x y z:Value} (hx:a.tmps.getD 4 undef=x) (ht:a.tmps.getD 5 undef=.pointer (some ⟨rb,0,none⟩)) (he:BoxAt w base 125 2 rb [y,z]):
  (results Tryz.f107 a.tmps).run Tryz.prog w=.ok (.tuple #[x,.agg #[y,z]]) w:=by
 have q0:=he.cell (j:=0) rfl
 have q1:=he.cell (j:=1) rfl
 have h1:a.tmps[4]?.getD undef=x:=by rw[←Array.getD_eq_getD_getElem?];exact hx
 have h2:a.tmps[5]?.getD undef=.pointer (some ⟨rb,0,none⟩):=by rw[←Array.getD_eq_getD_getElem?];exact ht
 simp[results,Tryz.results107,go_sem,h1,h2,q0,q1]
set_option maxHeartbeats 8000000 in
theorem l4Class_core (p:ByteArray) (i:Nat) (w:World) (hp:p.size≤200) (hi:i<p.size):
  Calls Tryz.prog 107 #[.string p,.int .i64 (i:Int)] w fun e w'=>ClassP p (i+1) e∧Below w.heap.size w w':=by
 obtain⟨W0,hW0⟩:=qE (w.alloc (Obj.cells #[.int .i64 0,.int .i64 0] 125):World)
 have HW0:Hid (BoxAt W0 w.heap.size 125 2 w.heap.size [.int .i64 0,.int .i64 0]∧Below w.heap.size w W0):=by
  rw[hW0];exact⟨boxAt_new w _ (Nat.le_refl _) rfl,qB⟩
 have HS:Hid (∀a b:Value,BoxAt ((W0.setCell ⟨w.heap.size,0,none⟩ a).setCell ⟨w.heap.size,1,none⟩ b) w.heap.size 125 2 w.heap.size [a,b]∧Below w.heap.size w ((W0.setCell ⟨w.heap.size,0,none⟩ a).setCell ⟨w.heap.size,1,none⟩ b)):=fun a b=>⟨(HW0.1.set 0 a).set 1 b,below_set (below_set HW0.2 (Nat.le_refl _) 0 _) (Nat.le_refl _) 1 _⟩
 have r0:=HW0.1.cell (j:=0) rfl
 have r1:=HW0.1.cell (j:=1) rfl
 have f0:=HW0.1.frozen 0
 have f1:=HW0.1.frozen 1
 clear HW0
 obtain⟨ng,j0,hng,hj0,hM0⟩:∃(ng:Bool) (j0:Nat),j0=(if ng=true then i+2 else i+1)∧j0≤p.size∧(ClsEq (sb p) (i+1) ng j0 false (fun _=>false)∧(ng=true↔(sb p)[i+1]?=some 94)):=by
  by_cases hx:(sb p)[i+1]?=some 94
  ·refine⟨true,i+2,rfl,by have:=lt_of_at hx;rw[sb_len]at this;omega,?_,⟨fun _=>hx,fun _=>rfl⟩⟩
   unfold ClsEq classM;rw[if_pos hx];rfl
  ·refine⟨false,i+1,rfl,by omega,?_,⟨fun q=>(by cases q),fun q=>absurd q hx⟩⟩
   unfold ClsEq classM;rw[if_neg hx]
   generalize clsM (sb p) (i+1) false (fun _=>false)=r
   cases r<;>rfl
 have HM0:Hid (ClsEq (sb p) (i+1) ng j0 false (fun _=>false)):=hM0.1
 have HNG:Hid (ng=true↔(sb p)[i+1]?=some 94):=hM0.2
 have HJ0:Hid (j0=if ng=true then i+2 else i+1):=hng
 clear hM0 hng
 go_enter Tryz.func107,Tryz.ntmps107
 go_upto_region 1 with fail
 rw[←hW0]
 clear hW0
 by_cases hi1:i+1<p.size
 ·obtain⟨x0,hx0⟩:∃x,(sb p)[i+1]?=some x:=⟨_,List.getElem?_eq_getElem (by rw[sb_len];exact hi1)⟩
  obtain⟨_,gx0⟩:=sb_get hx0
  have zi1:(i:Int)+1<(p.size:Int):=by omega
  cases ng
  ·have z94:((x0.toNat:Int)==94)=false:=beq_eq_false_iff_ne.2 (ne_u8 (c:=94) (fun q=>by have h1:=HNG.2 (by rw[hx0,q]);cases h1))
   clear hx0
   exact zzQ1
  ·have h94:x0=94:=by have h1:=HNG.1 rfl;rw[hx0]at h1;exact Option.some.inj h1
   subst h94
   clear hx0
   go_wp2_with fail
   go_loopw[6,7] (fun jv nv wr=>∃(j n:Nat) (f:UInt8→Bool),j≤p.size∧n≤j∧jv=.int .i64 (j:Int)∧nv=.int .i64 (n:Int)∧ClsEq (sb p) (i+1) true j (decide (0<n)) f∧wr=W0) (fun jv _ _=>p.size-(intOf jv).toNat)
   case atStart=>exact⟨j0,0,fun _=>false,hj0,Nat.zero_le _,congrArg (Value.int .i64) (by rw[HJ0.out];simp<;>omega),rfl,HM0.out,rfl⟩
   case round=>
    obtain⟨j,n,f,hj,hnj,rfl,rfl,hE,hwr⟩:=hrel
    have HE:Hid (ClsEq (sb p) (i+1) true j (decide (0<n)) f):=hE
    rw[hwr]
    clear hE hwr HM0 HJ0 HNG
    by_cases hlt:j<p.size
    ·obtain⟨x,hx⟩:∃x,(sb p)[j]?=some x:=⟨_,List.getElem?_eq_getElem (by rw[sb_len];exact hlt)⟩
     obtain⟨_,gx⟩:=sb_get hx
     have HX:Hid ((sb p)[j]?=some x):=hx
     have zj:(j:Int)<(p.size:Int):=by omega
     clear hx
     by_cases hend:x=93∧0<n
     ·obtain⟨rfl,hn0⟩:=hend
      have zn:(0:Int)<(n:Int):=by omega
      have HF:Hid (∃f',classM (sb p) (i+1)=.inl (f',j+1)):=by
       refine⟨if true=true then fun c=> !f c else f,?_⟩
       rw[HE.eq,decide_eq_true hn0,cls_shut HX.out]
      obtain⟨f',hf'⟩:=HF.out
      have HF':Hid (classM (sb p) (i+1)=.inl (f',j+1)):=hf'
      clear hf' HF
      go_wp2_with fail
      exact bodyPost_ret (v:=.tuple #[.int .i64 ((j+1:Nat):Int),.agg #[.int .i64 0,.int .i64 0]]) (class_ret rfl rfl (HS.out (.int .i64 0) (.int .i64 0)).1) rfl ⟨.inl ⟨f',j+1,HF'.out,rfl⟩,(HS.out (.int .i64 0) (.int .i64 0)).2⟩
     ·have HG:Hid (clsM (sb p) j (decide (0<n)) f=match itemM (sb p) j with| .inr e=>.inr e| .inl (a,b,k)=>clsM (sb p) k true (wider f a b)):=cls_go (by rw[sb_len];omega) (fun q=>hend ⟨by have h1:=q.1;rw[HX.out]at h1;exact Option.some.inj h1,by simpa using q.2⟩)
      obtain⟨lo,k,b,hch⟩:∃lo k b,chM (sb p) j=(lo,k,b):=⟨_,_,_,rfl⟩
      have HCh:Hid (chM (sb p) j=(lo,k,b)):=hch
      have hkl:b=true→k≤p.size∧j<k:=fun q=>by
       subst q
       have:=chM_gt hch
       rw[sb_len]at this
       omega
      clear hch
      have hpick:((x.toNat:Int)==93)=false∨(¬(0:Int)<(n:Int)):=by
       by_cases h93:x=93
       ·exact .inr (fun q=>hend ⟨h93,by omega⟩)
       ·exact .inl (beq_eq_false_iff_ne.2 (ne_u8 (c:=93) h93))
      clear hend
      have hpk:(((x.toNat:Int)==93)=false)∨(((x.toNat:Int)==93)=true∧n=0):=by
       rcases hpick with q|q
       ·exact .inl q
       ·cases hq:((x.toNat:Int)==93)
        ·exact .inl rfl
        ·exact .inr ⟨rfl,by omega⟩
      clear hpick
      rcases hpk with h93|⟨h93,hn0⟩
      case' inr=>
       have zn:¬(0:Int)<(n:Int):=by omega
       clear hn0
      all_goals
       go_wp2_with fail
       refine(l4Ch_core p j W0 hp (by omega) lo k b HCh.out).mono ?_
       rintro e w1 ⟨rfl,hw1⟩
       rw[hw1]
       clear hw1
       cases b
       case false=>
        have HF:Hid (classM (sb p) (i+1)=.inr (2,k)):=by
         show classM (sb p) (i+1)=_
         rw[HE.eq,HG.out]
         unfold itemM
         rw[HCh.out]
        go_wp2_with fail
        exact bodyPost_ret (v:=.tuple #[.int .i64 0,.agg #[.int .i64 2,.int .i64 (k:Int)]]) (class_ret rfl rfl (HS.out (.int .i64 2) (.int .i64 (k:Int))).1) rfl ⟨.inr ⟨2,k,HF.out,rfl⟩,(HS.out (.int .i64 2) (.int .i64 (k:Int))).2⟩
       obtain⟨hks,hjk⟩:=hkl rfl
       clear hkl
       by_cases h45:(sb p)[k]?=some 45
       ·obtain⟨hk2,gk⟩:=sb_get h45
        have HK:Hid ((sb p)[k]?=some 45):=h45
        have zk:(k:Int)<(p.size:Int):=by omega
        obtain⟨hh,m,b2,hch2⟩:∃hh m b2,chM (sb p) (k+1)=(hh,m,b2):=⟨_,_,_,rfl⟩
        have HCh2:Hid (chM (sb p) (k+1)=(hh,m,b2)):=hch2
        have hml:b2=true→m≤p.size∧k<m:=fun q=>by
         subst q
         have:=chM_gt hch2
         rw[sb_len]at this
         omega
        clear hch2 h45
        go_wp2_with fail
        refine(l4Ch_core p (k+1) W0 hp (by omega) hh m b2 HCh2.out).mono ?_
        rintro e w2 ⟨rfl,hw2⟩
        rw[hw2]
        clear hw2
        cases b2
        ·have HF:Hid (classM (sb p) (i+1)=.inr (2,m)):=by
          show classM (sb p) (i+1)=_
          rw[HE.eq,HG.out]
          unfold itemM
          rw[HCh.out]
          simp only[]
          rw[if_pos HK.out,HCh2.out]
         go_wp2_with fail
         exact bodyPost_ret (v:=.tuple #[.int .i64 0,.agg #[.int .i64 2,.int .i64 (m:Int)]]) (class_ret rfl rfl (HS.out (.int .i64 2) (.int .i64 (m:Int))).1) rfl ⟨.inr ⟨2,m,HF.out,rfl⟩,(HS.out (.int .i64 2) (.int .i64 (m:Int))).2⟩
        ·obtain⟨hms,hkm⟩:=hml rfl
         clear hml
         by_cases hlo:hh<lo
         ·have zlo:(hh.toNat:Int)<(lo.toNat:Int):=by have:=UInt8.lt_iff_toNat_lt.1 hlo;omega
          have HF:Hid (classM (sb p) (i+1)=.inr (4,j)):=by
           show classM (sb p) (i+1)=_
           rw[HE.eq,HG.out]
           unfold itemM
           rw[HCh.out]
           simp only[]
           rw[if_pos HK.out,HCh2.out]
           simp only[]
           rw[if_pos hlo]
          go_wp2_with fail
          exact bodyPost_ret (v:=.tuple #[.int .i64 0,.agg #[.int .i64 4,.int .i64 (j:Int)]]) (class_ret rfl rfl (HS.out (.int .i64 4) (.int .i64 (j:Int))).1) rfl ⟨.inr ⟨4,j,HF.out,rfl⟩,(HS.out (.int .i64 4) (.int .i64 (j:Int))).2⟩
         ·have zlo:(lo.toNat:Int)≤(hh.toNat:Int):=by have:=UInt8.le_iff_toNat_le.1 (UInt8.not_lt.1 hlo);omega
          have HF:Hid (ClsEq (sb p) (i+1) true m true (wider f lo hh)):=by
           show ClsEq _ _ _ _ _ _
           unfold ClsEq
           rw[HE.eq,HG.out]
           unfold itemM
           rw[HCh.out]
           simp only[]
           rw[if_pos HK.out,HCh2.out]
           simp only[]
           rw[if_neg hlo]
          clear hlo
          go_wp2_with fail
          go_roundw
          case rel=>exact⟨m,n+1,wider f lo hh,hms,by omega,rfl,by go_num,by rw[decide_eq_true (Nat.succ_pos n)];exact HF.out,trivial⟩
          case measure=>simp[intOf];omega
       ·have HK:Hid (¬(sb p)[k]?=some 45):=h45
        have HF:Hid (ClsEq (sb p) (i+1) true k true (wider f lo lo)):=by
         show ClsEq _ _ _ _ _ _
         unfold ClsEq
         rw[HE.eq,HG.out]
         unfold itemM
         rw[HCh.out]
         simp only[]
         rw[if_neg HK.out]
        clear h45
        by_cases hke:k<p.size
        ·obtain⟨y,hy⟩:∃y,(sb p)[k]?=some y:=⟨_,List.getElem?_eq_getElem (by rw[sb_len];exact hke)⟩
         obtain⟨_,gy⟩:=sb_get hy
         have zk:(k:Int)<(p.size:Int):=by omega
         have zy:((y.toNat:Int)==45)=false:=beq_eq_false_iff_ne.2 (ne_u8 (c:=45) (fun q=>HK.out (by rw[hy,q])))
         clear hy
         go_wp2_with fail
         go_roundw
         case rel=>exact⟨k,n+1,wider f lo lo,hks,by omega,rfl,by go_num,by rw[decide_eq_true (Nat.succ_pos n)];exact HF.out,trivial⟩
         case measure=>simp[intOf];omega
        ·have zk:¬(k:Int)<(p.size:Int):=by omega
         go_wp2_with fail
         go_roundw
         case rel=>exact⟨k,n+1,wider f lo lo,hks,by omega,rfl,by go_num,by rw[decide_eq_true (Nat.succ_pos n)];exact HF.out,trivial⟩
         case measure=>simp[intOf];omega
    ·have HF:Hid (classM (sb p) (i+1)=.inr (2,p.size)):=by
      show classM (sb p) (i+1)=_
      rw[HE.eq,clsM,dif_neg (by rw[sb_len];exact hlt),sb_len]
     have zj:¬(j:Int)<(p.size:Int):=by omega
     go_wp2_with fail
     exact bodyPost_ret (v:=.tuple #[.int .i64 0,.agg #[.int .i64 2,.int .i64 (p.size:Int)]]) (class_ret rfl rfl (HS.out (.int .i64 2) (.int .i64 (p.size:Int))).1) rfl ⟨.inr ⟨2,p.size,HF.out,rfl⟩,(HS.out (.int .i64 2) (.int .i64 (p.size:Int))).2⟩
 ·have zi1:¬(i:Int)+1<(p.size:Int):=by omega
  cases ng
  case true=>exact absurd (HNG.1 rfl) (by rw[List.getElem?_eq_none (by rw[sb_len];omega)];exact fun q=>by cases q)
  exact zzQ1
def specM (p:List UInt8):Int×Nat:=if 200<p.length then(1,0)else chkM p 0 0 false
theorem chk_ret {base rb:Nat} {w:World} {a:Act} {y z:Value} (ht:a.tmps.getD 2 undef=.pointer (some ⟨rb,0,none⟩)) (he:BoxAt w base 125 2 rb [y,z]):
  (results Tryz.f78 a.tmps).run Tryz.prog w=.ok (.agg #[y,z]) w:=by
 have q0:=he.cell (j:=0) rfl
 have q1:=he.cell (j:=1) rfl
 have h2:a.tmps[2]?.getD undef=.pointer (some ⟨rb,0,none⟩):=by rw[←Array.getD_eq_getD_getElem?];exact ht
 simp[results,Tryz.results78,go_sem,h2,q0,q1]
def ChkP (p:ByteArray) (w:World) (e:Ending) (w':World):Prop:=e=.returned (.agg #[.int .i64 (specM (sb p)).1,.int .i64 ((specM (sb p)).2:Int)])∧Below w.heap.size w w'
theorem chk_fin {p:ByteArray} {w wr:World} {a:Act} {c:Int} {k:Nat} (hM:specM (sb p)=(c,k)) (hd:a.defers= []) (ht:a.tmps.getD 2 undef=.pointer (some ⟨w.heap.size,0,none⟩)) (hx:BoxAt wr w.heap.size 125 2 w.heap.size [.int .i64 0,.int .i64 0]) (hb:Below w.heap.size w wr):
  bodyPost Tryz.prog Tryz.f78 (ChkP p w) .ret a ((wr.setCell ⟨w.heap.size,0,none⟩ (.int .i64 c)).setCell ⟨w.heap.size,1,none⟩ (.int .i64 (k:Int))):=
 bodyPost_ret (v:=.agg #[.int .i64 c,.int .i64 (k:Int)]) (chk_ret ht ((hx.set 0 _).set 1 _)) hd ⟨by rw[hM],below_set (below_set hb (Nat.le_refl _) 0 _) (Nat.le_refl _) 1 _⟩
set_option maxHeartbeats 8000000 in
theorem specCheck_core (p:ByteArray) (w:World) (hpm:p.size≤maxLen):Calls Tryz.prog 78 #[.string p] w (ChkP p w):=by
 obtain⟨W0,hW0⟩:=qE (w.alloc (Obj.cells #[.int .i64 0,.int .i64 0] 125):World)
 have HW0:Hid (BoxAt W0 w.heap.size 125 2 w.heap.size [.int .i64 0,.int .i64 0]∧Below w.heap.size w W0):=by
  rw[hW0];exact⟨boxAt_new w _ (Nat.le_refl _) rfl,qB⟩
 unfold maxLen at hpm
 by_cases hp:200<p.size
 ·have HM:Hid (specM (sb p)=(1,0)):=by
   show specM (sb p)=_
   unfold specM;rw[if_pos (by rw[sb_len];exact hp)]
  have z2:(200:Int)<(p.size:Int):=by omega
  have r0:=HW0.1.cell (j:=0) rfl
  have r1:=HW0.1.cell (j:=1) rfl
  have f0:=HW0.1.frozen 0
  have f1:=HW0.1.frozen 1
  go_enter Tryz.func78,Tryz.ntmps78
  go_upto_region 1 with fail
  rw[←hW0]
  clear hW0
  go_wp2_with fail
  exact chk_fin HM.out rfl rfl HW0.1 HW0.2
 have hp2:p.size≤200:=by omega
 have HM:Hid (specM (sb p)=chkM (sb p) 0 0 false):=by
  show specM (sb p)=_
  unfold specM;rw[if_neg (by rw[sb_len];exact hp)]
 have z2:¬(200:Int)<(p.size:Int):=by omega
 go_enter Tryz.func78,Tryz.ntmps78
 go_upto_region 1 with fail
 rw[←hW0]
 clear hW0 hp
 go_wp2_with fail
 go_loopw[3,4,5] (fun ov av iv wr=>∃(i o:Nat) (a:Bool),i≤p.size∧o≤i∧ov=.int .i64 (o:Int)∧av=.bool a∧iv=.int .i64 (i:Int)∧specM (sb p)=chkM (sb p) i o a∧Below W0.heap.size W0 wr) (fun _ _ iv _=>p.size-(intOf iv).toNat)
 case atStart=>exact⟨0,0,false,Nat.zero_le _,Nat.zero_le _,rfl,rfl,rfl,HM.out,Below.refl _ _⟩
 case round=>
  obtain⟨i,o,a,hi,hoi,rfl,rfl,rfl,hE,hb⟩:=hrel
  have HE:Hid (specM (sb p)=chkM (sb p) i o a):=hE
  have HX:Hid (BoxAt wr w.heap.size 125 2 w.heap.size [.int .i64 0,.int .i64 0]∧Below w.heap.size w wr):=⟨HW0.1.below hb,HW0.2.trans (hb.mono HW0.2.size)⟩
  have HB:Hid (Below W0.heap.size W0 wr):=hb
  have r0:=HX.1.cell (j:=0) rfl
  have r1:=HX.1.cell (j:=1) rfl
  have f0:=HX.1.frozen 0
  have f1:=HX.1.frozen 1
  clear hE hb HM
  by_cases hlt:i<p.size
  ·obtain⟨c,hc⟩:∃x,(sb p)[i]?=some x:=⟨_,List.getElem?_eq_getElem (by rw[sb_len];exact hlt)⟩
   obtain⟨_,gc⟩:=sb_get hc
   have HC:Hid ((sb p)[i]?=some c):=hc
   have zi:(i:Int)<(p.size:Int):=by omega
   clear hc
   by_cases h40:c=40
   ·subst h40
    by_cases ho:o=20
    ·subst ho
     have HF:Hid (specM (sb p)=(3,i)):=by
      show specM (sb p)=_
      rw[HE.out,chk_open HC.out,if_pos rfl]
     go_wp2_with fail
     exact chk_fin HF.out rfl rfl HX.1 HX.2
    ·have zo:¬(o:Int)=20:=by omega
     have HF:Hid (specM (sb p)=chkM (sb p) (i+1) (o+1) false):=by
      show specM (sb p)=_
      rw[HE.out,chk_open HC.out,if_neg ho]
     go_wp2_with fail
     go_roundw
     case rel=>exact⟨i+1,o+1,false,by omega,by omega,by go_num,rfl,by go_num,HF.out,HB.out⟩
     case measure=>simp[intOf];omega
   have z40:((c.toNat:Int)==40)=false:=beq_eq_false_iff_ne.2 (ne_u8 (c:=40) h40)
   by_cases h41:c=41
   ·subst h41
    by_cases ho:o=0
    ·subst ho
     have HF:Hid (specM (sb p)=(2,i)):=by
      show specM (sb p)=_
      rw[HE.out,chk_close HC.out,if_pos rfl]
     go_wp2_with fail
     exact chk_fin HF.out rfl rfl HX.1 HX.2
    ·have zo:¬(o:Int)=0:=by omega
     have HF:Hid (specM (sb p)=chkM (sb p) (i+1) (o-1) true):=by
      show specM (sb p)=_
      rw[HE.out,chk_close HC.out,if_neg ho]
     go_wp2_with fail
     go_roundw
     case rel=>exact⟨i+1,o-1,true,by omega,by omega,congrArg (Value.int .i64) (by omega),rfl,by go_num,HF.out,HB.out⟩
     case measure=>simp[intOf];omega
   have z41:((c.toNat:Int)==41)=false:=beq_eq_false_iff_ne.2 (ne_u8 (c:=41) h41)
   by_cases h124:c=124
   ·subst h124
    have HF:Hid (specM (sb p)=chkM (sb p) (i+1) o false):=by
     show specM (sb p)=_
     rw[HE.out,chk_bar HC.out]
    go_wp2_with fail
    go_roundw
    case rel=>exact⟨i+1,o,false,by omega,by omega,rfl,rfl,by go_num,HF.out,HB.out⟩
    case measure=>simp[intOf];omega
   have z124:((c.toNat:Int)==124)=false:=beq_eq_false_iff_ne.2 (ne_u8 (c:=124) h124)
   have HL:Hid (∀q:Bool,decide (isOp c)=q→Calls Tryz.prog 106 #[.int .u8 (c.toNat:Int)] wr fun e w'=>e=.returned (.bool q)∧w'=wr):=fun q hq=>by rw[←hq];exact l4Op_core c wr
   by_cases hop:isOp c
   ·go_wp2_with fail
    refine(HL.out true (decide_eq_true hop)).mono ?_
    rintro e w3 ⟨rfl,hw3⟩
    rw[hw3]
    clear hw3 HL
    cases a
    ·have HF:Hid (specM (sb p)=(2,i)):=by
      show specM (sb p)=_
      rw[HE.out,chk_op HC.out hop];rfl
     clear hop
     go_wp2_with fail
     exact chk_fin HF.out rfl rfl HX.1 HX.2
    ·have HF:Hid (specM (sb p)=chkM (sb p) (i+1) o true):=by
      show specM (sb p)=_
      rw[HE.out,chk_op HC.out hop,if_pos rfl]
     clear hop
     exact zzQ73
   go_wp2_with fail
   refine(HL.out false (decide_eq_false hop)).mono ?_
   rintro e w3 ⟨rfl,hw3⟩
   rw[hw3]
   have HOp:Hid (¬isOp c):=hop
   clear hw3 HL hop
   by_cases h91:c=91
   ·subst h91
    go_wp2_with fail
    refine(l4Class_core p i wr hp2 hlt).mono ?_
    rintro e w4 ⟨hP,hb4⟩
    have hB4:Below W0.heap.size W0 w4:=HB.trans (hb4.mono HB.size)
    have hs4:=hb4.size
    have hsw:=HX.2.size
    rcases hP with⟨f,k,hk,rfl⟩|⟨c4,k,hk,rfl⟩
    ·have hkp:=classM_gt hk
     rw[sb_len]at hkp
     obtain⟨W5,hW5⟩:=qE (w4.alloc (Obj.cells #[.int .i64 0,.int .i64 0] 125):World)
     have HF:Hid (specM (sb p)=chkM (sb p) k o true∧Below W0.heap.size W0 W5):=by
      refine⟨by rw[HE.out,chk_class HC.out,hk],?_⟩
      rw[hW5];exact hB4.trans ((Below.refl _ _).alloc (by have:=HB.size;omega) _)
     clear hk hb4 hB4 r0 r1 f0 f1
     go_wp2_with fail
     rw[←hW5]
     go_roundw
     case rel=>exact⟨k,o,true,hkp.2,by omega,rfl,rfl,rfl,HF.1,HF.2⟩
     case measure=>simp[intOf];omega
    ·have hc4:=classM_err hk
     obtain⟨W5,hW5⟩:=qE (w4.alloc (Obj.cells #[.int .i64 c4,.int .i64 (k:Int)] 125):World)
     have HF:Hid (specM (sb p)=(c4,k)∧BoxAt W5 w.heap.size 125 2 w.heap.size [.int .i64 0,.int .i64 0]∧Below w.heap.size w W5∧BoxAt W5 w.heap.size 125 2 w4.heap.size [.int .i64 c4,.int .i64 (k:Int)]):=by
      have hb5:Below w4.heap.size w4 W5:=by rw[hW5];exact qB
      refine⟨by rw[HE.out,chk_class HC.out,hk],(HX.1.below hb4).below hb5,(HX.2.trans (hb4.mono hsw)).trans (hb5.mono (by omega)),?_⟩
      rw[hW5];exact boxAt_new w4 _ (by omega) rfl
     have hc4':(c4 != 0)=true:=by simpa using hc4
     clear hk hb4 hB4 r0 r1 f0 f1
     go_upto_region 29 with fail
     rw[←hW5]
     clear hW5
     have b0:=HF.2.2.2.cell (j:=0) rfl
     have b1:=HF.2.2.2.cell (j:=1) rfl
     have r0:=HF.2.1.cell (j:=0) rfl
     have r1:=HF.2.1.cell (j:=1) rfl
     have f0:=HF.2.1.frozen 0
     have f1:=HF.2.1.frozen 1
     go_wp2_with fail
     exact chk_fin HF.1 rfl rfl HF.2.1 HF.2.2.1
   have z91:((c.toNat:Int)==91)=false:=beq_eq_false_iff_ne.2 (ne_u8 (c:=91) h91)
   by_cases h93:c=93
   ·subst h93
    have HF:Hid (specM (sb p)=(2,i)):=by
     show specM (sb p)=_
     rw[HE.out,chk_rb HC.out]
    go_wp2_with fail
    exact chk_fin HF.out rfl rfl HX.1 HX.2
   have z93:((c.toNat:Int)==93)=false:=beq_eq_false_iff_ne.2 (ne_u8 (c:=93) h93)
   by_cases h92:c=92
   ·subst h92
    by_cases hl1:i+1=p.size
    ·have HF:Hid (specM (sb p)=(2,p.size)):=by
      show specM (sb p)=_
      rw[HE.out,chk_esc HC.out,if_pos (by rw[sb_len];exact hl1),sb_len]
     have zl:(i:Int)+1=(p.size:Int):=by omega
     go_wp2_with fail
     exact chk_fin HF.out rfl rfl HX.1 HX.2
    ·have HF:Hid (specM (sb p)=chkM (sb p) (i+2) o true):=by
      show specM (sb p)=_
      rw[HE.out,chk_esc HC.out,if_neg (by rw[sb_len];exact hl1)]
     have zl:¬(i:Int)+1=(p.size:Int):=by omega
     go_wp2_with fail
     go_roundw
     case rel=>exact⟨i+2,o,true,by omega,by omega,rfl,rfl,by go_num,HF.out,HB.out⟩
     case measure=>simp[intOf];omega
   have z92:((c.toNat:Int)==92)=false:=beq_eq_false_iff_ne.2 (ne_u8 (c:=92) h92)
   have HF:Hid (specM (sb p)=chkM (sb p) (i+1) o true):=by
    show specM (sb p)=_
    rw[HE.out,chk_plain HC.out (fun q=>q.elim HOp.out (fun q=>q.elim h124 (fun q=>q.elim h41 h93))) h40 h91 h92]
   exact zzQ73
  ·have zi:¬(i:Int)<(p.size:Int):=by omega
   by_cases ho:0<o
   ·have HF:Hid (specM (sb p)=(2,p.size)):=by
     show specM (sb p)=_
     rw[HE.out,chk_end (by rw[sb_len];exact hlt),if_pos ho,sb_len]
    have zo:(0:Int)<(o:Int):=by omega
    go_wp2_with fail
    exact chk_fin HF.out rfl rfl HX.1 HX.2
   ·have HF:Hid (specM (sb p)=(0,0)):=by
     show specM (sb p)=_
     rw[HE.out,chk_end (by rw[sb_len];exact hlt),if_neg ho]
    have zo:¬(0:Int)<(o:Int):=by omega
    go_wp2_with fail
    exact chk_fin HF.out rfl rfl HX.1 HX.2
theorem reg_fieldR (c k:Int) (w:World):(Instr.field 125 (.agg #[.int .i64 c,.int .i64 k]) 0).run Tryz.prog w=.ok (.int .i64 c) w:=by kernel_rfl
set_option maxHeartbeats 4000000 in
theorem pattern_core (base cb:Nat) (bv:Value) (n:Nat) (w:World) (h:DrawAt base cb bv n w):Calls Tryz.prog 130 #[.pointer (some ⟨cb,0,none⟩)] w (TxtP base cb bv n 100000 w):=by
 have HD:Hid (DrawAt base cb bv n w):=h
 clear h
 go_enter Tryz.func130,Tryz.ntmps130
 go_wp2_with fail
 refine(below_core base cb bv n 12 _ HD.out (by omega) (by omega)).mono ?_
 rintro e w1 ⟨x,rfl,hx0,hx1,hD1,hC1⟩
 have H1:Hid (DrawAt base cb bv n w1∧Chg (fun k=>k=cb) w w1):=⟨hD1,hC1⟩
 clear hD1 hC1
 by_cases h0:x=0
 ·subst h0
  go_wp2_with fail
  go_ret
  exact⟨_,rfl,by decide,H1.out⟩
 have b0:(x==0)=false:=by rw[beq_eq_false_iff_ne];exact h0
 by_cases h4:x<4
 ·go_wp2_with fail
  refine(letters_core base cb bv n 0 2 _ H1.1 (by omega) (by omega) (by omega)).mono ?_
  rintro e w2 ⟨s,rfl,hs,hD2,hC2⟩
  have H2:Hid (DrawAt base cb bv n w2∧Chg (fun k=>k=cb) w w2):=⟨hD2,H1.2.trans hC2⟩
  have hcl:=hD2.lt.2
  clear hD2 hC2
  go_wp2_with fail
  refine(pick_core base cb bv n _ 7 _ ((H2.1).below (qB)) (by omega) (by omega) (by omega) (by simp) ?_).mono ?_
  ·intro k hk
   match k,hk with
   |0,_=>exact⟨_,by simp;rfl,by decide⟩
   |1,_=>exact⟨_,by simp;rfl,by decide⟩
   |2,_=>exact⟨_,by simp;rfl,by decide⟩
   |3,_=>exact⟨_,by simp;rfl,by decide⟩
   |4,_=>exact⟨_,by simp;rfl,by decide⟩
   |5,_=>exact⟨_,by simp;rfl,by decide⟩
   |6,_=>exact⟨_,by simp;rfl,by decide⟩
  ·rintro e w3 ⟨t,rfl,ht,hD3,hC3⟩
   have H3:Hid (DrawAt base cb bv n w3∧Chg (fun k=>k=cb) w w3):=⟨hD3,(H2.2.alloc_new _).trans hC3⟩
   clear hD3 hC3
   go_wp2_with fail
   go_ret
   exact⟨_,rfl,by rw[size_app];omega,H3.out⟩
 ·go_wp2_with fail
  refine(ptext_two base cb bv n _ H1.1).mono ?_
  rintro e w2 ⟨s,rfl,hs,hD2,hC2⟩
  have H2:Hid (DrawAt base cb bv n w2∧Chg (fun k=>k=cb) w w2):=⟨hD2,H1.2.trans hC2⟩
  clear hD2 hC2
  have hsm:s.size≤maxLen:=by unfold maxLen;omega
  have HC:Hid (Calls Tryz.prog 78 #[.string s] w2 (ChkP s w2)):=specCheck_core s w2 hsm
  clear hsm
  go_wp2_with fail
  refine HC.mono ?_
  rintro e w3 ⟨rfl,hb3⟩
  have H3:Hid (DrawAt base cb bv n w3∧Chg (fun k=>k=cb) w w3):=⟨H2.1.below hb3,H2.2.trans (Chg.of_below hb3)⟩
  obtain⟨c,hc⟩:=qE ((specM (sb s)).1:Int)
  obtain⟨k,hk⟩:=qE (((specM (sb s)).2:Int):Int)
  rw[←hc,←hk]
  clear hc hk hb3
  have hf:=reg_fieldR c k w3
  by_cases hc0:c=0
  ·subst hc0
   go_wp2_with fail
   go_ret
   exact⟨s,rfl,by omega,H3.out⟩
  ·have bc:(c==0)=false:=by rw[beq_eq_false_iff_ne];exact hc0
   go_wp2_with fail
   refine(letters_core base cb bv n 0 2 _ H3.1 (by omega) (by omega) (by omega)).mono ?_
   rintro e w4 ⟨t,rfl,ht,hD4,hC4⟩
   have H4:Hid (DrawAt base cb bv n w4∧Chg (fun k=>k=cb) w w4):=⟨hD4,H3.2.trans hC4⟩
   clear hD4 hC4
   go_wp2_with fail
   go_ret
   exact⟨t,rfl,by omega,H4.out⟩
end Go.Proofs.YtgnpcenpcmdlfaaGreatDoor
namespace Go.Proofs.YtgnpcenpcmdlfaaGreatDoor
set_option linter.unusedVariables false
set_option linter.unusedSimpArgs false
structure Nd where
 kind:Int
 s:ByteArray
 hi:Bool
 t:ByteArray
 lo:Int
 up:Int
 n:Int
def arity (k:Int):Nat:=if k=14∨k=15 then 2 else if k=16 then 3 else 0
theorem arity_le (k:Int):arity k≤3:=by unfold arity;split<;>(try split)<;>omega
inductive IsT:Nat→List Nd→Prop
 |nil:IsT 0 []
 |snoc {k:Nat} {xs:List Nd} (n:Nd) (h:IsT (k+arity n.kind) xs):IsT (k+1) (xs++ [n])
theorem IsT.inv_snoc {k:Nat} {xs ys:List Nd} {n:Nd} (h:IsT k ys) (e:ys=xs++ [n]):∃j,k=j+1∧IsT (j+arity n.kind) xs:=by
 cases h with
 |nil=>simp at e
 |snoc m h=>
  have:=List.append_inj' e rfl
  obtain⟨rfl,h2⟩:=this
  simp at h2
  subst h2
  exact⟨_,rfl,h⟩
theorem IsT.zero {xs:List Nd} (h:IsT 0 xs):xs= []:=by
 cases h with
 |nil=>rfl
theorem IsT.len {k:Nat} {xs:List Nd} (h:IsT k xs):k≤xs.length:=by
 induction h with
 |nil=>exact Nat.le_refl _
 |snoc n h ih=>simp;omega
inductive Sc:Nat→List Nd→Prop
 |nil:Sc 1 []
 |cons {m:Nat} {ys:List Nd} (n:Nd) (h:Sc (m+1) ys):Sc (m+arity n.kind) (n::ys)
theorem Sc.inv {m:Nat} {n:Nd} {ys:List Nd} (h:Sc m (n::ys)):∃q,m=q+arity n.kind∧Sc (q+1) ys:=by
 cases h with
 |cons _ h=>exact⟨_,rfl,h⟩
theorem Sc.one:∀{ys:List Nd} {m k:Nat},Sc m ys→Sc k ys→m=k
 | [],_,_,.nil,.nil=>rfl
 |n::ys,m,k,h,g=>by
  obtain⟨a,rfl,ha⟩:=h.inv
  obtain⟨b,rfl,hb⟩:=g.inv
  have:=Sc.one ha hb
  omega
theorem Sc.tree:∀{ys:List Nd} {m:Nat},Sc m ys→∀{pre:List Nd},IsT m pre↔IsT 1 (pre++ys)
 | [],_,.nil,pre=>by simp
 |n::ys,m,h,pre=>by
  obtain⟨q,rfl,hq⟩:=h.inv
  have ih:=Sc.tree hq (pre:=pre++ [n])
  rw[List.append_assoc]at ih
  rw[show pre++n::ys=pre++([n]++ys)from rfl,←ih]
  constructor
  ·intro h;exact .snoc n h
  ·intro h
   obtain⟨j,hj,h2⟩:=h.inv_snoc rfl
   rw[show q=j by omega];exact h2
theorem IsT.sc {j:Nat} {b:List Nd} (h:IsT j b):∀{m:Nat} {ys:List Nd},Sc (m+j) ys→Sc m (b++ys):=by
 induction h with
 |nil=>intro m ys h;exact h
 | @snoc k xs n h ih=>
   intro m ys hs
   rw[List.append_assoc]
   apply ih
   show Sc (m+(k+arity n.kind)) (n::ys)
   rw[←Nat.add_assoc]
   exact .cons n hs
theorem IsT.sc0 {b:List Nd} (h:IsT 1 b):Sc 0 b:=by
 have:=h.sc (m:=0) (ys:= []) .nil
 simpa using this
theorem tree_one {xs:List Nd} {i j:Nat} (hi:IsT 1 (xs.drop i)) (hj:IsT 1 (xs.drop j)) (hij:i≤j) (hjl:j≤xs.length):i=j:=by
 have h0:=hj.sc0
 have e:xs.drop i=(xs.drop i).take (j-i)++xs.drop j:=by
  conv=>lhs;rw[←List.take_append_drop (j-i) (xs.drop i)]
  rw[List.drop_drop,show i+(j-i)=j by omega]
 rw[e]at hi
 have h1:=(h0.tree.2 hi).zero
 have h2:=congrArg List.length h1
 simp at h2
 omega
theorem sc_none {xs:List Nd}:∀{i m:Nat},Sc (m+1) (xs.drop i)→∀j,i≤j→j≤xs.length→¬IsT 1 (xs.drop j):=by
 intro i m h j hij hjl ht
 obtain⟨d,rfl⟩:∃d,j=i+d:=⟨j-i,by omega⟩
 clear hij
 induction d generalizing i m with
 |zero=>have:=h.one ht.sc0;omega
 |succ d ih=>
  rw[List.drop_eq_getElem_cons (by omega)]at h
  obtain⟨q,_,hq⟩:=h.inv
  exact ih (i:=i+1) (m:=q) hq (by omega) (by rw[show i+1+d=i+(d+1)by omega];exact ht)
structure Shape where
 valid:Bool
 kind:Int
 nest:Nat
def strong (k:Int):Nat:=if k=15 then 1 else if k=14 then 2 else 3
def level (op:Int) (i:Nat) (kid:Int):Bool:=decide (op=16) || (if i=0 then decide (strong kid<strong op)else decide (strong kid≤strong op))
def nestFrom (op:Int):Nat→Nat→List Shape→Nat
 |_,a,[]=>a
 |i,a,o::os=>nestFrom op (i+1) (max a (o.nest+if level op i o.kind then 1 else 0)) os
variable (G:Nd→Bool)
def shapeM (n:Nd) (os:List Shape):Shape:=⟨G n && os.all (·.valid),n.kind,nestFrom n.kind 0 0 os⟩
def stepM (st:List Shape) (n:Nd):Option (List Shape):=
 if st.length<arity n.kind then none else some (st.take (st.length-arity n.kind)++ [shapeM G n (st.drop (st.length-arity n.kind))])
def foldM (st:List Shape):List Nd→Option (List Shape)
 | []=>some st
 |n::ns=>match stepM G st n with
  |none=>none
  |some st'=>foldM st' ns
theorem foldM_append (st:List Shape) (xs ys:List Nd):foldM G st (xs++ys)=(foldM G st xs).bind (fun s=>foldM G s ys):=by
 induction xs generalizing st with
 |nil=>rfl
 |cons x xs ih=>
  simp only[List.cons_append,foldM]
  cases stepM G st x with
  |none=>rfl
  |some s=>exact ih s
inductive ShT:List Shape→List Nd→Prop
 |nil:ShT [] []
 |snoc {ss os:List Shape} {xs:List Nd} (n:Nd) (ho:os.length=arity n.kind) (h:ShT (ss++os) xs):ShT (ss++ [shapeM G n os]) (xs++ [n])
theorem IsT.shapes {k:Nat} {xs:List Nd} (h:IsT k xs):∃ss,ss.length=k∧ShT G ss xs:=by
 induction h with
 |nil=>exact⟨[],rfl,.nil⟩
 | @snoc k xs n h ih=>
   obtain⟨ss,hl,hs⟩:=ih
   refine⟨ss.take k++ [shapeM G n (ss.drop k)],by simp;omega,.snoc n (by simp;omega) ?_⟩
   rw[List.take_append_drop];exact hs
theorem ShT.tree {ss:List Shape} {xs:List Nd} (h:ShT G ss xs):IsT ss.length xs:=by
 exact zzQ69
theorem ShT.fold {ss:List Shape} {xs:List Nd} (h:ShT G ss xs):∀st,foldM G st xs=some (st++ss):=by
 induction h with
 |nil=>intro st;simp[foldM]
 | @snoc ss os xs n ho h ih=>
   intro st
   rw[foldM_append,ih]
   simp only[Option.bind_some,foldM,stepM]
   rw[if_neg (by simp;omega)]
   have hl:(st++(ss++os)).length-arity n.kind=(st++ss).length:=by simp;omega
   rw[hl,←List.append_assoc,List.take_left,List.drop_left,List.append_assoc]
theorem fold_from:∀{xs pre:List Nd} {st ss:List Shape},ShT G st pre→foldM G st xs=some ss→ShT G ss (pre++xs)
 | [],pre,st,ss,h,e=>by
   simp[foldM]at e;subst e;simpa using h
 |n::xs,pre,st,ss,h,e=>by
  simp only[foldM,stepM]at e
  by_cases hl:st.length<arity n.kind
  ·rw[if_pos hl]at e;cases e
  ·rw[if_neg hl]at e
   have h1:ShT G (st.take (st.length-arity n.kind)++ [shapeM G n (st.drop (st.length-arity n.kind))]) (pre++ [n]):=by
    refine .snoc n (by simp;omega) ?_
    rw[List.take_append_drop];exact h
   have h2:=fold_from h1 e
   rw[List.append_assoc]at h2
   exact h2
theorem fold_tree {xs:List Nd} {ss:List Shape} (h:foldM G [] xs=some ss):ShT G ss xs:=by
 simpa using fold_from G (pre:= []) .nil h
theorem ShT.valid {ss:List Shape} {xs:List Nd} (h:ShT G ss xs):ss.all (·.valid)=xs.all G:=by
 induction h with
 |nil=>rfl
 | @snoc ss os xs n ho h ih=>
   rw[List.all_append,List.all_append,←ih,List.all_append]
   simp[shapeM]
   cases G n<;>cases ss.all (·.valid)<;>cases os.all (·.valid)<;>rfl
theorem ShT.split {ss:List Shape} {xs:List Nd} (h:ShT G ss xs):∀{a b:List Shape},ss=a++b→∃ys zs,xs=ys++zs∧ShT G a ys∧ShT G b zs:=by
 induction h with
 |nil=>intro a b e;obtain⟨rfl,rfl⟩:a= []∧b= []:=by simpa using e.symm
       exact⟨[],[],rfl,.nil,.nil⟩
 | @snoc ss os xs n ho h ih=>
   intro a b e
   rcases List.eq_nil_or_concat b with rfl|⟨b',z,rfl⟩
   ·simp at e;subst e
    exact⟨xs++ [n],[],by simp,.snoc n ho h,.nil⟩
   ·rw[List.concat_eq_append,←List.append_assoc]at e
    have e2:=List.append_inj' e rfl
    obtain⟨e3,e4⟩:=e2
    simp at e4
    subst e3 e4
    obtain⟨ys,zs,rfl,h1,h2⟩:=ih (a:=a) (b:=b'++os) (by simp)
    refine⟨ys,zs++ [n],by simp,h1,?_⟩
    rw[List.concat_eq_append]
    exact .snoc n ho h2
theorem ShT.inv {s:Shape} {xs:List Nd} (h:ShT G [s] xs):∃ys n os,xs=ys++ [n]∧os.length=arity n.kind∧ShT G os ys∧s=shapeM G n os:=by
 exact zzQ53
inductive Kids:List Shape→List (List Nd)→Prop
 |nil:Kids [] []
 |cons {o:Shape} {os:List Shape} {k:List Nd} {ks:List (List Nd)} (h:ShT G [o] k) (t:Kids os ks):Kids (o::os) (k::ks)
theorem ShT.kids:∀{os:List Shape} {ys:List Nd},ShT G os ys→∃ks,ys=ks.flatten∧Kids G os ks
 | [],ys,h=>by
   have:=h.tree.zero
   subst this
   exact⟨[],rfl,.nil⟩
 |o::os,ys,h=>by
  obtain⟨a,b,rfl,h1,h2⟩:=ShT.split G h (a:= [o]) (b:=os) rfl
  obtain⟨ks,rfl,hk⟩:=ShT.kids h2
  exact⟨a::ks,rfl,.cons h1 hk⟩
theorem Kids.length {os:List Shape} {ks:List (List Nd)} (h:Kids G os ks):os.length=ks.length:=by
 induction h with
 |nil=>rfl
 |cons _ _ ih=>simp[ih]
theorem Kids.tree {os:List Shape} {ks:List (List Nd)} (h:Kids G os ks):∀k∈ks,IsT 1 k:=by
 exact zzQ72
theorem Kids.nth {os:List Shape} {ks:List (List Nd)} (h:Kids G os ks):∀{j:Nat} {k:List Nd},ks[j]?=some k→∃o,os[j]?=some o∧ShT G [o] k:=by
 induction h with
 |nil=>intro j k hk;simp at hk
 |cons h1 _ ih=>
  intro j k hk
  cases j with
  |zero=>simp at hk;subst hk;exact⟨_,rfl,h1⟩
  |succ j=>simp at hk;simpa using ih hk
theorem nestFrom_le (op:Int) (B:Nat):∀{os:List Shape} {i a:Nat},a≤B→(∀o∈os,o.nest+1≤B)→nestFrom op i a os≤B
 | [],i,a,h,_=>h
 |o::os,i,a,h,g=>by
  unfold nestFrom
  apply nestFrom_le op B
  ·have:=g o (by simp)
   split<;>omega
  ·exact fun o' ho=>g o' (by simp[ho])
theorem kid_len {os:List Shape} {ks:List (List Nd)} (h:Kids G os ks) {o:Shape} (ho:o∈os):∃k∈ks,ShT G [o] k:=by
 induction h with
 |nil=>cases ho
 |cons h1 _ ih=>
  rcases List.mem_cons.1 ho with rfl|ho
  ·exact⟨_,by simp,h1⟩
  ·obtain⟨k,hk,h2⟩:=ih ho
   exact⟨k,by simp[hk],h2⟩
theorem len_flat {ks:List (List Nd)} {k:List Nd} (h:k∈ks):k.length≤ks.flatten.length:=by
 induction ks with
 |nil=>cases h
 |cons a ks ih=>
  simp only[List.flatten_cons,List.length_append]
  rcases List.mem_cons.1 h with rfl|h
  ·omega
  ·have:=ih h;omega
theorem nest_len:∀(n:Nat) {s:Shape} {xs:List Nd},xs.length≤n→ShT G [s] xs→s.nest≤xs.length
 |0,s,xs,hn,h=>by
  obtain⟨ys,e,os,rfl,_⟩:=h.inv
  simp at hn
 |n+1,s,xs,hn,h=>by
  obtain⟨ys,e,os,rfl,_,h2,rfl⟩:=h.inv
  obtain⟨ks,rfl,hK⟩:=h2.kids
  simp only[List.length_append,List.length_singleton]at hn⊢
  refine nestFrom_le e.kind _ (Nat.zero_le _) fun o ho=>?_
  obtain⟨k,hk,h3⟩:=kid_len G hK ho
  have h4:=len_flat hk
  have h5:=nest_len n (by omega) h3
  omega
end Go.Proofs.YtgnpcenpcmdlfaaGreatDoor
namespace Go.Proofs.YtgnpcenpcmdlfaaGreatDoor
open Go.ChangeShapes Go.WideShapes Go.ChangeAt Go.RowKit Go.Deep
set_option linter.unusedVariables false
set_option linter.unusedSimpArgs false
set_option maxRecDepth 100000
structure Nd.ok (e:Nd):Prop where
 s:e.s.size≤maxLen
 t:e.t.size≤maxLen
 kind:(Lit.int .i64 e.kind).wf=true
 lo:(Lit.int .u64 e.lo).wf=true
 up:(Lit.int .u64 e.up).wf=true
 n:(Lit.int .i64 e.n).wf=true
abbrev Nd.seven (e:Nd):List Value:= [.int .i64 e.kind,.string e.s,.bool e.hi,.string e.t,.int .u64 e.lo,.int .u64 e.up,.int .i64 e.n]
abbrev Nd.v (e:Nd):Value:=.agg #[.int .i64 e.kind,.string e.s,.bool e.hi,.string e.t,.int .u64 e.lo,.int .u64 e.up,.int .i64 e.n]
def zeroN:Nd:=⟨0,⟨#[]⟩,false,⟨#[]⟩,0,0,0⟩
def cellsN (es:List Nd):List Value:=es.flatMap Nd.seven
theorem cellsN_cons (e:Nd) (es:List Nd):cellsN (e::es)=e.seven++cellsN es:=by simp[cellsN]
theorem length_cellsN (es:List Nd):(cellsN es).length=es.length*7:=by
 induction es with
 |nil=>rfl
 |cons e es ih=>rw[cellsN_cons,List.length_append,ih];simp;omega
theorem cellsN_get (es:List Nd):∀(k:Nat) (e:Nd),es[k]?=some e→∀j,j<7→(cellsN es)[k*7+j]?=e.seven[j]?:=by
 induction es with
 |nil=>intro k e h;simp at h
 |cons f es ih=>
  intro k e h j hj
  rw[cellsN_cons]
  cases k with
  |zero=>
   simp at h;subst h
   rw[List.getElem?_append_left (by show 0*7+j<7;omega)]
   simp
  |succ k=>
   simp at h
   rw[List.getElem?_append_right (by show 7≤(k+1)*7+j;omega)]
   have:(k+1)*7+j-f.seven.length=k*7+j:=by show(k+1)*7+j-7=_;omega
   rw[this];exact ih k e h j hj
theorem cellsN_set (es:List Nd):∀(k:Nat) (e e':Nd) (u:Value) (j:Nat),es[k]?=some e→j<7→e'.seven=e.seven.set j u→(cellsN es).set (k*7+j) u=cellsN (es.set k e'):=by
 induction es with
 |nil=>intro k e e' u j h;simp at h
 |cons f es ih=>
  intro k e e' u j h hj hc
  rw[cellsN_cons]
  cases k with
  |zero=>
   simp at h;subst h
   rw[List.set_append_left _ _ (by show 0*7+j<7;omega),List.set_cons_zero,cellsN_cons,hc]
   simp
  |succ k=>
   simp at h
   rw[List.set_append_right _ _ (by show 7≤(k+1)*7+j;omega),List.set_cons_succ,cellsN_cons]
   have:(k+1)*7+j-f.seven.length=k*7+j:=by show(k+1)*7+j-7=_;omega
   rw[this,ih k e e' u j h hj hc]
def NdsAt (w:World) (b off:Nat) (es:List Nd):Prop:=
 ∀i e,es[i]?=some e→w.cell? ⟨b,off+i*7,none⟩=some (.int .i64 e.kind)∧w.cell? ⟨b,off+i*7+1,none⟩=some (.string e.s)∧w.cell? ⟨b,off+i*7+2,none⟩=some (.bool e.hi)∧w.cell? ⟨b,off+i*7+3,none⟩=some (.string e.t)∧w.cell? ⟨b,off+i*7+4,none⟩=some (.int .u64 e.lo)∧w.cell? ⟨b,off+i*7+5,none⟩=some (.int .u64 e.up)∧w.cell? ⟨b,off+i*7+6,none⟩=some (.int .i64 e.n)
theorem NdsAt.below {B:Nat} {w w':World} {b off:Nat} {es:List Nd} (h:NdsAt w b off es) (hb:Below B w w') (hlt:b<B):NdsAt w' b off es:=by
 intro i e he
 have:=h i e he
 refine⟨?_,?_,?_,?_,?_,?_,?_⟩
 all_goals rw[hb.cell (by exact hlt)]
 ·exact this.1
 ·exact this.2.1
 ·exact this.2.2.1
 ·exact this.2.2.2.1
 ·exact this.2.2.2.2.1
 ·exact this.2.2.2.2.2.1
 ·exact this.2.2.2.2.2.2
def OwnNd (w:World) (base g cap:Nat) (es:List Nd):Prop:=w.ownsRow base 65 7 (.slice (some ⟨g,0,none⟩) es.length cap) es.length (cellsN es)
theorem OwnNd.at {w:World} {base g cap:Nat} {es:List Nd} (h:OwnNd w base g cap es):NdsAt w g 0 es:=by
 intro i e he
 have hi:i<es.length:=(List.getElem?_eq_some_iff.1 he).1
 have c:=fun j (hj:j<7)=>(World.ownsRow.cellAt h (i*7+j) (by omega)).trans (cellsN_get es i e he j hj)
 refine⟨?_,?_,?_,?_,?_,?_,?_⟩
 ·simpa using c 0 (by omega)
 ·simpa using c 1 (by omega)
 ·simpa using c 2 (by omega)
 ·simpa using c 3 (by omega)
 ·simpa using c 4 (by omega)
 ·simpa using c 5 (by omega)
 ·simpa using c 6 (by omega)
theorem OwnNd.lt {w:World} {base g cap:Nat} {es:List Nd} (h:OwnNd w base g cap es):base≤g∧g<w.heap.size:=World.ownsRow.lt h g rfl
theorem OwnNd.below {B:Nat} {w w':World} {base g cap:Nat} {es:List Nd} (h:OwnNd w base g cap es) (hb:Below B w w') (hg:g<B):OwnNd w' base g cap es:=by
 refine⟨h.1,?_⟩
 rcases h.2 with hn|⟨g',cap',cur,hv,h1,h2,rest⟩
 ·exact .inl hn
 ·simp only[Value.slice.injEq,Option.some.injEq,Addr.mk.injEq,and_true,true_and]at hv
  obtain⟨rfl,rfl⟩:=hv
  exact .inr ⟨g,cap,cur,rfl,h1,by rw[hb.block g hg];exact h2,rest⟩
theorem OwnNd.mono {w:World} {base base' g cap:Nat} {es:List Nd} (h:OwnNd w base g cap es) (hb:base'≤base):OwnNd w base' g cap es:=by
 exact zzQ74
theorem OwnNd.caps {w:World} {base g cp:Nat} {R:List Nd} (h:OwnNd w base g cp R):R.length≤cp∧cp≤maxLen:=by
 exact zzQ26
theorem OwnNd.set {w:World} {base g cap:Nat} {es:List Nd} (h:OwnNd w base g cap es) (k j:Nat) (e e':Nd) (u:Value) (hk:es[k]?=some e) (hj:j<7) (hc:e'.seven=e.seven.set j u):
  OwnNd (w.setCell ⟨g,k*7+j,none⟩ u) base g cap (es.set k e'):=by
 have:=(World.ownsRow.stored h (k*7+j) u).1
 rw[cellsN_set es k e e' u j hk hj hc]at this
 unfold OwnNd
 rw[List.length_set]
 exact this
theorem Tryz.infoNd:(Tryz.prog.info? 65).map (fun i=>(i.zero,i.size,i.bytes))=some (some (.agg #[.int .i64 0,.string ⟨#[]⟩,.bool false,.string ⟨#[]⟩,.int .u64 0,.int .u64 0,.int .i64 0]),7,72):=by kernel_rfl
theorem OwnNd.put {w:World} {base g cap:Nat} {es:List Nd} (h:OwnNd w base g cap es) (k:Nat) (f e:Nd) (hk:es[k]?=some f):
  OwnNd (((((((w.setCell ⟨g,k*7,none⟩ (.int .i64 e.kind)).setCell ⟨g,k*7+1,none⟩ (.string e.s)).setCell ⟨g,k*7+2,none⟩ (.bool e.hi)).setCell ⟨g,k*7+3,none⟩ (.string e.t)).setCell ⟨g,k*7+4,none⟩ (.int .u64 e.lo)).setCell ⟨g,k*7+5,none⟩ (.int .u64 e.up)).setCell ⟨g,k*7+6,none⟩ (.int .i64 e.n)) base g cap (es.set k e):=by
 have hlt:k<es.length:=(List.getElem?_eq_some_iff.1 hk).1
 have g1:=h.set k 0 f ({f with kind:=e.kind}) (.int .i64 e.kind) hk (by omega) rfl
 have g2:=g1.set k 1 ({f with kind:=e.kind}) ({f with kind:=e.kind,s:=e.s}) (.string e.s) (by simp[hlt]) (by omega) rfl
 have g3:=g2.set k 2 ({f with kind:=e.kind,s:=e.s}) ({f with kind:=e.kind,s:=e.s,hi:=e.hi}) (.bool e.hi) (by simp[hlt]) (by omega) rfl
 have g4:=g3.set k 3 ({f with kind:=e.kind,s:=e.s,hi:=e.hi}) ({f with kind:=e.kind,s:=e.s,hi:=e.hi,t:=e.t}) (.string e.t) (by simp[hlt]) (by omega) rfl
 have g5:=g4.set k 4 ({f with kind:=e.kind,s:=e.s,hi:=e.hi,t:=e.t}) ({f with kind:=e.kind,s:=e.s,hi:=e.hi,t:=e.t,lo:=e.lo}) (.int .u64 e.lo) (by simp[hlt]) (by omega) rfl
 have g6:=g5.set k 5 ({f with kind:=e.kind,s:=e.s,hi:=e.hi,t:=e.t,lo:=e.lo}) ({f with kind:=e.kind,s:=e.s,hi:=e.hi,t:=e.t,lo:=e.lo,up:=e.up}) (.int .u64 e.up) (by simp[hlt]) (by omega) rfl
 have g7:=g6.set k 6 ({f with kind:=e.kind,s:=e.s,hi:=e.hi,t:=e.t,lo:=e.lo,up:=e.up}) e (.int .i64 e.n) (by simp[hlt]) (by omega) rfl
 simpa only[List.set_set,Nat.add_zero]using g7
end Go.Proofs.YtgnpcenpcmdlfaaGreatDoor
namespace Go.Proofs.YtgnpcenpcmdlfaaGreatDoor
open Go.ChangeShapes Go.WideShapes Go.ChangeAt Go.RowKit Go.Deep
set_option linter.unusedVariables false
section
variable {P:Program} {ops:Array Oper} {Q:Exit→Act→World→Prop} {md:Region.Mode} {S:World→Prop} {L:Nat}
def AnyT (P:Program) (md:Region.Mode) (ops:Array Oper) (Q:Exit→Act→World→Prop) (S:World→Prop) (L:Nat):Nat→Array Bool→Act→World→Prop
 |0,listed,a,w=>Region.ready md ops listed= []∧Q .normal a w
 |fuel+1,listed,a,w=>
  (Region.ready md ops listed= []→Q .normal a w)∧
  ∀i∈Region.ready md ops listed,wpOp P ops Q i (fun a' w'=>(i=L∨S w')∧AnyT P md ops Q S L fuel (listed.setIfInBounds i true) a' w') a w
theorem any_of_T:∀(fuel:Nat) (listed:Array Bool) (a:Act) (w:World),AnyT P md ops Q S L fuel listed a w→wpAny P md ops Q fuel listed a w
 |0,_,_,_,h=>h
 |fuel+1,_,_,_,h=>⟨h.1,fun i hi=>wpOp_mono (fun a' w' h'=>any_of_T fuel _ a' w' h'.2) (h.2 i hi)⟩
def waitsT (md:Region.Mode) (ops:Array Oper) (L i:Nat):Bool:=((ops[L]?).map (fun o=>o.after.any fun e=>Region.binds md e && e.on==i)).getD false
theorem anyT_first {i:Nat} {oi:Oper} {v:Value} (hi:ops[i]?=some oi) (hsel:∀(j:Nat) (o:Oper) cs b,ops[j]?=some o→o.op≠ .select cs b)
  (hQ:∀c a w,Q (.panic c) (a.put oi.dst v) w→Q (.panic c) a w) (hL:waitsT md ops L i=true) (hne:i≠L):
  ∀(fuel:Nat) (listed:Array Bool) (a:Act) (w:World),
   (∀j oj,ops[j]?=some oj→j≠i→listed.getD j true=false→(∀e∈oj.after,Region.binds md e=true→e.on≠i)→oi.apart ops oj=true)→
   i∈Region.ready md ops listed→YieldsIf P ops S oi v a→S w→
   AnyT P md ops Q S L fuel (listed.setIfInBounds i true) (a.put oi.dst v) w→AnyT P md ops Q S L (fuel+1) listed a w:=by
 intro fuel
 induction fuel with
 |zero=>
  intro listed a w _ hr hy hS H
  refine⟨fun h=>(by rw[h]at hr;cases hr),fun j hj=>?_⟩
  by_cases hji:j=i
  ·subst hji;exact hy.wpOp hi hS ⟨.inr hS,H⟩
  ·have:=ready_mono hj hji
   rw[H.1]at this
   cases this
 |succ fuel ih=>
  intro listed a w hfree hr hy hS H
  refine⟨fun h=>(by rw[h]at hr;cases hr),fun j hj=>?_⟩
  by_cases hji:j=i
  ·subst hji;exact hy.wpOp hi hS ⟨.inr hS,H⟩
  ·have h1:=H.2 j (ready_mono hj hji)
   obtain⟨hjun,oj,hoj,hall⟩:=mem_ready.1 hj
   have hnot:∀e∈oj.after,Region.binds md e=true→e.on≠i:=fun e he hb heq=>by
    have h1:=hall e he hb
    have h0:=(mem_ready.1 hr).1
    rw[heq]at h1
    rcases Nat.lt_or_ge i listed.size with h'|h'
    ·simp[h']at h0 h1;rw[h0]at h1;cases h1
    ·simp[Array.getElem?_eq_none h']at h1
   have hjL:j≠L:=fun q=>by
    subst q
    unfold waitsT at hL
    rw[hoj]at hL
    simp only[Option.map_some,Option.getD_some,Array.any_eq_true]at hL
    obtain⟨k,hk,hb⟩:=hL
    rw[Bool.and_eq_true,beq_iff_eq]at hb
    exact hnot _ (Array.getElem_mem hk) hb.1 hb.2
   have h2:=wpOp_putIf hoj (hfree j oj hoj hji hjun hnot) (fun cs b=>hsel i oi cs b hi) (fun cs b=>hsel j oj cs b hoj) hQ hy h1
   have hfree':∀k ok,ops[k]?=some ok→k≠i→(listed.setIfInBounds j true).getD k true=false→
     (∀e∈ok.after,Region.binds md e=true→e.on≠i)→oi.apart ops ok=true:=fun k ok hk hki hun hno=>by
    refine hfree k ok hk hki ?_ hno
    by_cases hjk:j=k
    ·subst hjk;exact hjun
    ·rw[getD_set_ne true hjk]at hun;exact hun
   refine wpOp_mono (fun a' w' h3=>⟨h3.2.1,ih (listed.setIfInBounds j true) a' w' hfree' (ready_mono hr (Ne.symm hji)) h3.1 (h3.2.1.resolve_left hjL) ?_⟩) h2
   rw[Array.setIfInBounds_comm _ _ hji]
   exact h3.2.2
theorem anyT_take {i:Nat} {oi:Oper} {v:Value} {fuel:Nat} {listed:Array Bool} {a:Act} {w:World} (hi:ops[i]?=some oi)
  (hs:Region.noSelect ops=true) (hf:Region.free md ops listed i=true) (hr:(Region.ready md ops listed).contains i=true) (hL:waitsT md ops L i=true) (hne:i≠L)
  (hQ:∀c a w,Q (.panic c) (a.put oi.dst v) w→Q (.panic c) a w) (hy:YieldsIf P ops S oi v a) (hS:S w)
  (h:AnyT P md ops Q S L fuel (listed.setIfInBounds i true) (a.put oi.dst v) w):AnyT P md ops Q S L (fuel+1) listed a w:=
 anyT_first hi (Region.noSelect_spec hs) hQ hL hne fuel listed a w (Region.free_spec hi hf) (by simpa using hr) hy hS h
theorem anyT_one {i:Nat} {o:Oper} {fuel:Nat} {listed:Array Bool} {a:Act} {w:World} (hr:Region.ready md ops listed= [i]) (ho:ops[i]?=some o)
  (h:∀K':Act→World→Prop,Shut (∀a w,(i=L∨S w)→AnyT P md ops Q S L fuel (listed.setIfInBounds i true) a w→K' a w)→if Region.wanted o (yielded ops a.tmps)=true then Oper.wp P o a w K' Q else K' (a.put o.dst undef) w):
  AnyT P md ops Q S L (fuel+1) listed a w:=by
 refine⟨fun h0=>(by rw[hr]at h0;cases h0),fun j hj=>?_⟩
 rw[hr]at hj
 simp at hj
 subst hj
 exact wpOp_step ho (fun K' hK=>h K' (fun a w hS hW=>hK a w ⟨hS,hW⟩))
theorem anyT_done {fuel:Nat} {listed:Array Bool} {a:Act} {w:World} (hr:Region.ready md ops listed= []) (h:Q .normal a w):AnyT P md ops Q S L fuel listed a w:=by
 cases fuel with
 |zero=>exact⟨hr,h⟩
 |succ n=>exact⟨fun _=>h,by rw[hr];simp⟩
theorem wp_region_T {id:Nat} {a:Act} {w:World} (L:Nat) (S:World→Prop) (hm:P.follows .mixedOrders=true)
  (h:AnyT P .any ops Q S L ops.size (Array.replicate ops.size false) a w.drew):(Code.region id ops true).wp P Q a w:=
 wp_region_any hm (any_of_T _ _ _ _ h)
end
section
variable {P:Program} {ops:Array Oper} {Q:Exit→Act→World→Prop} {md:Region.Mode} {S:World→Prop} {L:Nat}
theorem anyT_firstN {i:Nat} {oi:Oper} {v:Value} (hi:ops[i]?=some oi) (hsel:∀(j:Nat) (o:Oper) cs b,ops[j]?=some o→o.op≠ .select cs b)
  (hQ:∀c a w,Q (.panic c) (a.put oi.dst v) w→Q (.panic c) a w) (hL:ops[L]?=none):
  ∀(fuel:Nat) (listed:Array Bool) (a:Act) (w:World),
   (∀j oj,ops[j]?=some oj→j≠i→listed.getD j true=false→(∀e∈oj.after,Region.binds md e=true→e.on≠i)→oi.apart ops oj=true)→
   i∈Region.ready md ops listed→YieldsIf P ops S oi v a→S w→
   AnyT P md ops Q S L fuel (listed.setIfInBounds i true) (a.put oi.dst v) w→AnyT P md ops Q S L (fuel+1) listed a w:=by
 intro fuel
 induction fuel with
 |zero=>
  intro listed a w _ hr hy hS H
  refine⟨fun h=>(by rw[h]at hr;cases hr),fun j hj=>?_⟩
  by_cases hji:j=i
  ·subst hji;exact hy.wpOp hi hS ⟨.inr hS,H⟩
  ·have:=ready_mono hj hji
   rw[H.1]at this
   cases this
 |succ fuel ih=>
  intro listed a w hfree hr hy hS H
  refine⟨fun h=>(by rw[h]at hr;cases hr),fun j hj=>?_⟩
  by_cases hji:j=i
  ·subst hji;exact hy.wpOp hi hS ⟨.inr hS,H⟩
  ·have h1:=H.2 j (ready_mono hj hji)
   obtain⟨hjun,oj,hoj,hall⟩:=mem_ready.1 hj
   have hnot:∀e∈oj.after,Region.binds md e=true→e.on≠i:=fun e he hb heq=>by
    have h1:=hall e he hb
    have h0:=(mem_ready.1 hr).1
    rw[heq]at h1
    rcases Nat.lt_or_ge i listed.size with h'|h'
    ·simp[h']at h0 h1;rw[h0]at h1;cases h1
    ·simp[Array.getElem?_eq_none h']at h1
   have hjL:j≠L:=fun q=>by rw[q,hL]at hoj;cases hoj
   have h2:=wpOp_putIf hoj (hfree j oj hoj hji hjun hnot) (fun cs b=>hsel i oi cs b hi) (fun cs b=>hsel j oj cs b hoj) hQ hy h1
   have hfree':∀k ok,ops[k]?=some ok→k≠i→(listed.setIfInBounds j true).getD k true=false→
     (∀e∈ok.after,Region.binds md e=true→e.on≠i)→oi.apart ops ok=true:=fun k ok hk hki hun hno=>by
    refine hfree k ok hk hki ?_ hno
    by_cases hjk:j=k
    ·subst hjk;exact hjun
    ·rw[getD_set_ne true hjk]at hun;exact hun
   refine wpOp_mono (fun a' w' h3=>⟨h3.2.1,ih (listed.setIfInBounds j true) a' w' hfree' (ready_mono hr (Ne.symm hji)) h3.1 (h3.2.1.resolve_left hjL) ?_⟩) h2
   rw[Array.setIfInBounds_comm _ _ hji]
   exact h3.2.2
theorem anyT_takeN {i:Nat} {oi:Oper} {v:Value} {fuel:Nat} {listed:Array Bool} {a:Act} {w:World} (hi:ops[i]?=some oi)
  (hs:Region.noSelect ops=true) (hf:Region.free md ops listed i=true) (hr:(Region.ready md ops listed).contains i=true) (hL:ops[L]?=none)
  (hQ:∀c a w,Q (.panic c) (a.put oi.dst v) w→Q (.panic c) a w) (hy:YieldsIf P ops S oi v a) (hS:S w)
  (h:AnyT P md ops Q S L fuel (listed.setIfInBounds i true) (a.put oi.dst v) w):AnyT P md ops Q S L (fuel+1) listed a w:=
 anyT_firstN hi (Region.noSelect_spec hs) hQ hL fuel listed a w (Region.free_spec hi hf) (by simpa using hr) hy hS h
end
theorem qT {P:Program} {ops:Array Oper} {Q:Exit→Act→World→Prop} {md:Region.Mode} {S:World→Prop} {L:Nat} (i:Nat) (v:Value) {oi:Oper} {fuel:Nat} {listed:Array Bool} {a:Act} {w:World} (hi:ops[i]?=some oi)
  (hy:∀w,S w→(execOp a.eval oi).run P w=.ok (.value v) w) (hS:S w)
  (h:AnyT P md ops Q S L fuel (listed.setIfInBounds i true) (a.put oi.dst v) w)
  (hs:Region.noSelect ops=true:=by kernel_rfl) (hf:Region.free md ops listed i=true:=by kernel_rfl) (hr:(Region.ready md ops listed).contains i=true:=by kernel_rfl) (hL:ops[L]?=none:=by rfl)
  (hQ:∀c a w,Q (.panic c) (a.put oi.dst v) w→Q (.panic c) a w:=by exact fun _ _ _ h=>h) (hw:Region.wanted oi (yielded ops a.tmps)=true:=by rfl):AnyT P md ops Q S L (fuel+1) listed a w:=
 anyT_takeN hi hs hf hr hL hQ (Or.inl ⟨hw,hy⟩) hS h
theorem qU {P:Program} {ops:Array Oper} {Q:Exit→Act→World→Prop} {md:Region.Mode} {S:World→Prop} {L:Nat} (i:Nat) (v:Value) {oi:Oper} {fuel:Nat} {listed:Array Bool} {a:Act} {w:World} (hi:ops[i]?=some oi)
  (hy:∀w,S w→(execOp a.eval oi).run P w=.ok (.value v) w) (hS:S w)
  (h:AnyT P md ops Q S L fuel (listed.setIfInBounds i true) (a.put oi.dst v) w)
  (hs:Region.noSelect ops=true:=by kernel_rfl) (hf:Region.free md ops listed i=true:=by kernel_rfl) (hr:(Region.ready md ops listed).contains i=true:=by kernel_rfl) (hL:waitsT md ops L i=true:=by kernel_rfl) (hne:i≠L:=by decide)
  (hQ:∀c a w,Q (.panic c) (a.put oi.dst v) w→Q (.panic c) a w:=by exact fun _ _ _ h=>h) (hw:Region.wanted oi (yielded ops a.tmps)=true:=by rfl):AnyT P md ops Q S L (fuel+1) listed a w:=
 anyT_take hi hs hf hr hL hne hQ (Or.inl ⟨hw,hy⟩) hS h
end Go.Proofs.YtgnpcenpcmdlfaaGreatDoor
namespace Go.Proofs.YtgnpcenpcmdlfaaGreatDoor
open Go.ChangeShapes Go.WideShapes Go.ChangeAt Go.RowKit Go.Deep
set_option linter.unusedVariables false
set_option linter.unusedSimpArgs false
set_option maxRecDepth 100000
structure Nd.small (e:Nd):Prop where
 s:e.s.size≤200000
 t:e.t.size≤300000
 lo:0≤e.lo∧e.lo≤100000
 up:0≤e.up∧e.up≤100000
 n:0≤e.n∧e.n≤100000
 kind:0≤e.kind∧e.kind≤100000
theorem wfS_u64 {x:Int} (h:0≤x∧x≤100000):(Lit.int .u64 x).wf=true:=by
 have h1:IntKind.u64.min=0:=by decide
 have h2:IntKind.u64.max=18446744073709551615:=by decide
 simp[Lit.wf,h1,h2];omega
theorem wf_i64 {x:Int} (h:0≤x∧x≤100000):(Lit.int .i64 x).wf=true:=by
 exact zzQ77
theorem wrapU (x:Int) (h:0≤x∧x≤100000):IntKind.u64.wrap x=x:=by
 simp only[IntKind.wrap,IntKind.bits,IntKind.signed,Bool.false_and,Bool.false_eq_true,if_false]
 omega
theorem Nd.small.ok {e:Nd} (h:e.small):e.ok:=⟨Nat.le_trans h.s (by decide),Nat.le_trans h.t (by decide),wf_i64 h.kind,wfS_u64 h.lo,wfS_u64 h.up,wf_i64 h.n⟩
theorem Nd.small_zero:zeroN.small:=⟨by decide,by decide,by decide,by decide,by decide,by decide⟩
structure NInv (base cb:Nat) (bv:Value) (n:Nat) (w:World) (eb rb:Nat) (f:Nd) (wr:World):Prop where
 e:BoxAt wr w.heap.size 65 7 eb f.seven
 r:BoxAt wr w.heap.size 65 7 rb zeroN.seven
 ne:¬eb=rb
 d:DrawAt base cb bv n wr
 c:Chg (fun k=>k=cb) w wr
 lt:cb<w.heap.size
 hb:base≤w.heap.size
 sm:f.small
theorem NInv.call {base cb:Nat} {bv:Value} {n:Nat} {w:World} {eb rb:Nat} {f:Nd} {wr w1:World} (h:NInv base cb bv n w eb rb f wr) (hd:Drew base cb bv n wr w1):NInv base cb bv n w eb rb f w1:=
 ⟨h.e.chg hd.2 (by have:=h.e.lt.1;have:=h.lt;omega),h.r.chg hd.2 (by have:=h.r.lt.1;have:=h.lt;omega),h.ne,hd.1,h.c.trans hd.2,h.lt,h.hb,h.sm⟩
theorem NInv.drew {base cb:Nat} {bv:Value} {n:Nat} {w:World} {eb rb:Nat} {f:Nd} {wr:World} (h:NInv base cb bv n w eb rb f wr):NInv base cb bv n w eb rb f wr.drew:=by
 have hd:Below wr.heap.size wr wr.drew:=(Below.refl _ _).drew
 exact⟨h.e.below hd,h.r.below hd,h.ne,h.d.below hd,h.c.trans (Chg.of_below hd),h.lt,h.hb,h.sm⟩
theorem NInv.set {base cb:Nat} {bv:Value} {n:Nat} {w:World} {eb rb:Nat} {f:Nd} {wr:World} (h:NInv base cb bv n w eb rb f wr) (j:Nat) (f':Nd) (u:Value) (hc:f'.seven=f.seven.set j u) (hs:f'.small):NInv base cb bv n w eb rb f' (wr.setCell ⟨eb,j,none⟩ u):=by
 have h1:=h.e.set j u
 rw[←hc]at h1
 have hl:=h.e.lt
 have hcb:=h.lt
 have hbb:=h.hb
 have hcg:Chg (fun k=>k=eb) wr (wr.setCell ⟨eb,j,none⟩ u):=Chg.of_set _ _ _ _ rfl
 refine⟨h1,h.r.chg hcg (fun q=>h.ne q.symm),h.ne,h.d.chg hcg (by omega) (fun k q=>by omega),?_,h.lt,h.hb,hs⟩
 exact Chg.grown_new h.c (grown_set wr eb j u) (fun k hk=>by cases hk;exact hl.1)
theorem NInv.alloc {base cb:Nat} {bv:Value} {n:Nat} {w:World} {eb rb:Nat} {f:Nd} {wr:World} (h:NInv base cb bv n w eb rb f wr) (o:Obj):NInv base cb bv n w eb rb f (wr.alloc o):=by
 have hd:Below wr.heap.size wr (wr.alloc o):=qB
 exact⟨h.e.below hd,h.r.below hd,h.ne,h.d.below hd,h.c.trans (Chg.of_below hd),h.lt,h.hb,h.sm⟩
def set7 (w:World) (g:Nat) (f:Nd):World:=((((((w.setCell ⟨g,0,none⟩ (.int .i64 f.kind)).setCell ⟨g,1,none⟩ (.string f.s)).setCell ⟨g,2,none⟩ (.bool f.hi)).setCell ⟨g,3,none⟩ (.string f.t)).setCell ⟨g,4,none⟩ (.int .u64 f.lo)).setCell ⟨g,5,none⟩ (.int .u64 f.up)).setCell ⟨g,6,none⟩ (.int .i64 f.n)
theorem BoxAt.set7 {w:World} {base t g:Nat} {e:Nd} (h:BoxAt w base t 7 g e.seven) (f:Nd):BoxAt (Go.Proofs.YtgnpcenpcmdlfaaGreatDoor.set7 w g f) base t 7 g f.seven:=by
 have:=((((((h.set 0 (.int .i64 f.kind)).set 1 (.string f.s)).set 2 (.bool f.hi)).set 3 (.string f.t)).set 4 (.int .u64 f.lo)).set 5 (.int .u64 f.up)).set 6 (.int .i64 f.n)
 exact this
theorem chg_set7 {S:Nat→Prop} (w:World) (g:Nat) (f:Nd) (hs:S g):Chg S w (set7 w g f):=
 ((((((Chg.of_set w g 0 _ hs).trans (Chg.of_set _ g 1 _ hs)).trans (Chg.of_set _ g 2 _ hs)).trans (Chg.of_set _ g 3 _ hs)).trans (Chg.of_set _ g 4 _ hs)).trans (Chg.of_set _ g 5 _ hs)).trans (Chg.of_set _ g 6 _ hs)
def LefP (base cb:Nat) (bv:Value) (n:Nat) (w:World) (e:Ending) (w':World):Prop:=∃f:Nd,e=.returned f.v∧f.small∧Drew base cb bv n w w'
theorem NInv.fin {base cb:Nat} {bv:Value} {n:Nat} {w:World} {eb rb:Nat} {f:Nd} {wr:World} (h:NInv base cb bv n w eb rb f wr):BoxAt (set7 wr rb f) w.heap.size 65 7 rb f.seven∧LefP base cb bv n w (.returned f.v) (set7 wr rb f):=by
 have hcg:Chg (fun k=>k=rb) wr (set7 wr rb f):=chg_set7 wr rb f rfl
 have hl:=h.r.lt
 have hcb:=h.lt
 have hbb:=h.hb
 refine⟨h.r.set7 f,f,rfl,h.sm,h.d.chg hcg (by omega) (fun k q=>by omega),?_⟩
 exact⟨hcg.os.trans h.c.os,hcg.tape.trans h.c.tape,hcg.output.trans h.c.output,Nat.le_trans h.c.size hcg.size,fun k hk hn=>(hcg.block k (Nat.lt_of_lt_of_le hk h.c.size) (by omega)).trans (h.c.block k hk hn)⟩
set_option maxHeartbeats 16000000 in
theorem drawLeaf_core (base cb:Nat) (bv:Value) (n:Nat) (w:World) (h:DrawAt base cb bv n w):
  Calls Tryz.prog 118 #[.pointer (some ⟨cb,0,none⟩)] w (LefP base cb bv n w):=by
 have hlt:=h.lt
 have hbase:=h.base
 obtain⟨Wa,hWa⟩:=qE (w.alloc (Obj.cells #[.int .i64 0,.string ⟨#[]⟩,.bool false,.string ⟨#[]⟩,.int .u64 0,.int .u64 0,.int .i64 0] 65):World)
 have hba:Below w.heap.size w Wa:=by rw[hWa];exact qB
 have HA:Hid (DrawAt base cb bv n Wa∧BoxAt Wa w.heap.size 65 7 w.heap.size zeroN.seven∧Below w.heap.size w Wa):=⟨h.below hba,by rw[hWa];exact boxAt_new w #[.int .i64 0,.string ⟨#[]⟩,.bool false,.string ⟨#[]⟩,.int .u64 0,.int .u64 0,.int .i64 0] (Nat.le_refl _) rfl,hba⟩
 clear h hba
 go_enter Tryz.func118,Tryz.ntmps118
 go_wp2_with fail
 rw[←hWa]
 clear hWa
 refine(below_core base cb bv n 16 _ HA.1 (by omega) (by omega)).mono ?_
 rintro e w1 ⟨x,rfl,hx0,hx1,hd1⟩
 obtain⟨eb,heb⟩:=qE w1.heap.size
 obtain⟨W2,hW2⟩:=qE (w1.alloc (Obj.cells #[.int .i64 0,.string ⟨#[]⟩,.bool false,.string ⟨#[]⟩,.int .u64 0,.int .u64 0,.int .i64 0] 65):World)
 have H2:Hid (NInv base cb bv n w eb w.heap.size zeroN W2):=by
  have hb2:Below w1.heap.size w1 W2:=by rw[hW2];exact qB
  have hb1:=HA.2.2
  have hz:=hd1.2.size
  have hz0:=HA.2.1.lt.2
  have hr1:=HA.2.1.chg hd1.2 (by omega)
  refine⟨by rw[hW2,heb];exact boxAt_new w1 #[.int .i64 0,.string ⟨#[]⟩,.bool false,.string ⟨#[]⟩,.int .u64 0,.int .u64 0,.int .i64 0] (by have:=hb1.size;omega) rfl,hr1.below hb2,by have:=hr1.lt.2;omega,hd1.1.below hb2,((Chg.of_below hb1).trans hd1.2).trans (Chg.of_below hb2),hlt.2,hbase,Nd.small_zero⟩
 clear hd1 HA
 go_upto_region 3 with fail
 rw[←hW2,←heb]
 clear hW2 heb
 by_cases x0:x=0
 ·subst x0
  have c2_0:=H2.e.cell (j:=0) rfl
  have z2_0:=H2.e.frozen 0
  obtain⟨W3,hW3⟩:=qE (W2.setCell ⟨eb,0,none⟩ (.int .i64 1):World)
  have H3:Hid (NInv base cb bv n w eb w.heap.size (⟨1,⟨#[]⟩,false,⟨#[]⟩,0,0,0⟩:Nd) W3):=by rw[hW3];exact H2.set 0 _ _ rfl ⟨H2.sm.s,H2.sm.t,H2.sm.lo,H2.sm.up,H2.sm.n,(by show(0:Int)≤1∧(1:Int)≤100000;omega)⟩
  go_upto_region 49 with fail
  rw[←hW3]
  clear hW3
  obtain⟨k0,k1,k2,k3,k4,k5,k6⟩:=And.intro (H3.e.cell (j:=0) rfl) (And.intro (H3.e.cell (j:=1) rfl) (And.intro (H3.e.cell (j:=2) rfl) (And.intro (H3.e.cell (j:=3) rfl) (And.intro (H3.e.cell (j:=4) rfl) (And.intro (H3.e.cell (j:=5) rfl) (H3.e.cell (j:=6) rfl))))))
  obtain⟨l0,l1,l2,l3,l4,l5,l6⟩:=And.intro (H3.r.cell (j:=0) rfl) (And.intro (H3.r.cell (j:=1) rfl) (And.intro (H3.r.cell (j:=2) rfl) (And.intro (H3.r.cell (j:=3) rfl) (And.intro (H3.r.cell (j:=4) rfl) (And.intro (H3.r.cell (j:=5) rfl) (H3.r.cell (j:=6) rfl))))))
  have lf:=H3.r.frozen
  obtain⟨WF,hWF⟩:=qE (set7 W3 w.heap.size (⟨1,⟨#[]⟩,false,⟨#[]⟩,0,0,0⟩:Nd):World)
  have hfin:=H3.fin
  rw[←hWF]at hfin
  obtain⟨hB9,HR⟩:=hfin
  obtain⟨p0,p1,p2,p3,p4,p5,p6⟩:=And.intro (hB9.cell (j:=0) rfl) (And.intro (hB9.cell (j:=1) rfl) (And.intro (hB9.cell (j:=2) rfl) (And.intro (hB9.cell (j:=3) rfl) (And.intro (hB9.cell (j:=4) rfl) (And.intro (hB9.cell (j:=5) rfl) (hB9.cell (j:=6) rfl))))))
  have HRH:Hid (LefP base cb bv n w (.returned (Nd.v (⟨1,⟨#[]⟩,false,⟨#[]⟩,0,0,0⟩:Nd))) WF):=HR
  exact zzQ3
 by_cases x1:x=1
 ·subst x1
  have c2_0:=H2.e.cell (j:=0) rfl
  have z2_0:=H2.e.frozen 0
  obtain⟨W3,hW3⟩:=qE (W2.setCell ⟨eb,0,none⟩ (.int .i64 2):World)
  have H3:Hid (NInv base cb bv n w eb w.heap.size (⟨2,⟨#[]⟩,false,⟨#[]⟩,0,0,0⟩:Nd) W3):=by rw[hW3];exact H2.set 0 _ _ rfl ⟨H2.sm.s,H2.sm.t,H2.sm.lo,H2.sm.up,H2.sm.n,(by show(0:Int)≤2∧(2:Int)≤100000;omega)⟩
  go_upto_region 9 with fail
  rw[←hW3]
  clear hW3
  go_wp2_with fail
  refine(once_core base cb bv n 2 _ H3.d (by omega) (by omega)).mono ?_
  rintro e w4 ⟨v,rfl,hv,hd⟩
  have H4w:Hid (NInv base cb bv n w eb w.heap.size (⟨2,⟨#[]⟩,false,⟨#[]⟩,0,0,0⟩:Nd) w4):=H3.call hd
  clear hd
  rcases hv with rfl|rfl
  ·have c4_0:=H4w.e.cell (j:=0) rfl
   have z4_0:=H4w.e.frozen 0
   obtain⟨W5,hW5⟩:=qE (w4.setCell ⟨eb,0,none⟩ (.int .i64 3):World)
   have H5:Hid (NInv base cb bv n w eb w.heap.size (⟨3,⟨#[]⟩,false,⟨#[]⟩,0,0,0⟩:Nd) W5):=by rw[hW5];exact H4w.set 0 _ _ rfl ⟨H4w.sm.s,H4w.sm.t,H4w.sm.lo,H4w.sm.up,H4w.sm.n,(by show(0:Int)≤3∧(3:Int)≤100000;omega)⟩
   go_upto_region 49 with fail
   rw[←hW5]
   clear hW5
   obtain⟨k0,k1,k2,k3,k4,k5,k6⟩:=And.intro (H5.e.cell (j:=0) rfl) (And.intro (H5.e.cell (j:=1) rfl) (And.intro (H5.e.cell (j:=2) rfl) (And.intro (H5.e.cell (j:=3) rfl) (And.intro (H5.e.cell (j:=4) rfl) (And.intro (H5.e.cell (j:=5) rfl) (H5.e.cell (j:=6) rfl))))))
   obtain⟨l0,l1,l2,l3,l4,l5,l6⟩:=And.intro (H5.r.cell (j:=0) rfl) (And.intro (H5.r.cell (j:=1) rfl) (And.intro (H5.r.cell (j:=2) rfl) (And.intro (H5.r.cell (j:=3) rfl) (And.intro (H5.r.cell (j:=4) rfl) (And.intro (H5.r.cell (j:=5) rfl) (H5.r.cell (j:=6) rfl))))))
   have lf:=H5.r.frozen
   obtain⟨WF,hWF⟩:=qE (set7 W5 w.heap.size (⟨3,⟨#[]⟩,false,⟨#[]⟩,0,0,0⟩:Nd):World)
   have hfin:=H5.fin
   rw[←hWF]at hfin
   obtain⟨hB9,HR⟩:=hfin
   obtain⟨p0,p1,p2,p3,p4,p5,p6⟩:=And.intro (hB9.cell (j:=0) rfl) (And.intro (hB9.cell (j:=1) rfl) (And.intro (hB9.cell (j:=2) rfl) (And.intro (hB9.cell (j:=3) rfl) (And.intro (hB9.cell (j:=4) rfl) (And.intro (hB9.cell (j:=5) rfl) (hB9.cell (j:=6) rfl))))))
   have HRH:Hid (LefP base cb bv n w (.returned (Nd.v (⟨3,⟨#[]⟩,false,⟨#[]⟩,0,0,0⟩:Nd))) WF):=HR
   exact zzQ3
  ·go_upto_region 49 with fail
   obtain⟨k0,k1,k2,k3,k4,k5,k6⟩:=And.intro (H4w.e.cell (j:=0) rfl) (And.intro (H4w.e.cell (j:=1) rfl) (And.intro (H4w.e.cell (j:=2) rfl) (And.intro (H4w.e.cell (j:=3) rfl) (And.intro (H4w.e.cell (j:=4) rfl) (And.intro (H4w.e.cell (j:=5) rfl) (H4w.e.cell (j:=6) rfl))))))
   obtain⟨l0,l1,l2,l3,l4,l5,l6⟩:=And.intro (H4w.r.cell (j:=0) rfl) (And.intro (H4w.r.cell (j:=1) rfl) (And.intro (H4w.r.cell (j:=2) rfl) (And.intro (H4w.r.cell (j:=3) rfl) (And.intro (H4w.r.cell (j:=4) rfl) (And.intro (H4w.r.cell (j:=5) rfl) (H4w.r.cell (j:=6) rfl))))))
   have lf:=H4w.r.frozen
   obtain⟨WF,hWF⟩:=qE (set7 w4 w.heap.size (⟨2,⟨#[]⟩,false,⟨#[]⟩,0,0,0⟩:Nd):World)
   have hfin:=H4w.fin
   rw[←hWF]at hfin
   obtain⟨hB9,HR⟩:=hfin
   obtain⟨p0,p1,p2,p3,p4,p5,p6⟩:=And.intro (hB9.cell (j:=0) rfl) (And.intro (hB9.cell (j:=1) rfl) (And.intro (hB9.cell (j:=2) rfl) (And.intro (hB9.cell (j:=3) rfl) (And.intro (hB9.cell (j:=4) rfl) (And.intro (hB9.cell (j:=5) rfl) (hB9.cell (j:=6) rfl))))))
   have HRH:Hid (LefP base cb bv n w (.returned (Nd.v (⟨2,⟨#[]⟩,false,⟨#[]⟩,0,0,0⟩:Nd))) WF):=HR
   exact zzQ3
 by_cases x2:x=2
 ·subst x2
  have c2_0:=H2.e.cell (j:=0) rfl
  have z2_0:=H2.e.frozen 0
  obtain⟨W3,hW3⟩:=qE (W2.setCell ⟨eb,0,none⟩ (.int .i64 4):World)
  have H3:Hid (NInv base cb bv n w eb w.heap.size (⟨4,⟨#[]⟩,false,⟨#[]⟩,0,0,0⟩:Nd) W3):=by rw[hW3];exact H2.set 0 _ _ rfl ⟨H2.sm.s,H2.sm.t,H2.sm.lo,H2.sm.up,H2.sm.n,(by show(0:Int)≤4∧(4:Int)≤100000;omega)⟩
  go_upto_region 16 with fail
  rw[←hW3]
  clear hW3
  go_wp2_with fail
  refine(pattern_core base cb bv n _ H3.d).mono ?_
  rintro e w4 ⟨s1,rfl,hs1,hd⟩
  have H4w:Hid (NInv base cb bv n w eb w.heap.size (⟨4,⟨#[]⟩,false,⟨#[]⟩,0,0,0⟩:Nd) w4):=H3.call hd
  clear hd
  have c4_1:=H4w.e.cell (j:=1) rfl
  have z4_1:=H4w.e.frozen 1
  obtain⟨W5,hW5⟩:=qE (w4.setCell ⟨eb,1,none⟩ (.string s1):World)
  have H5:Hid (NInv base cb bv n w eb w.heap.size (⟨4,s1,false,⟨#[]⟩,0,0,0⟩:Nd) W5):=by rw[hW5];exact H4w.set 1 _ _ rfl ⟨(by show s1.size≤200000;omega),H4w.sm.t,H4w.sm.lo,H4w.sm.up,H4w.sm.n,H4w.sm.kind⟩
  go_upto_region 49 with fail
  rw[←hW5]
  clear hW5
  obtain⟨k0,k1,k2,k3,k4,k5,k6⟩:=And.intro (H5.e.cell (j:=0) rfl) (And.intro (H5.e.cell (j:=1) rfl) (And.intro (H5.e.cell (j:=2) rfl) (And.intro (H5.e.cell (j:=3) rfl) (And.intro (H5.e.cell (j:=4) rfl) (And.intro (H5.e.cell (j:=5) rfl) (H5.e.cell (j:=6) rfl))))))
  obtain⟨l0,l1,l2,l3,l4,l5,l6⟩:=And.intro (H5.r.cell (j:=0) rfl) (And.intro (H5.r.cell (j:=1) rfl) (And.intro (H5.r.cell (j:=2) rfl) (And.intro (H5.r.cell (j:=3) rfl) (And.intro (H5.r.cell (j:=4) rfl) (And.intro (H5.r.cell (j:=5) rfl) (H5.r.cell (j:=6) rfl))))))
  have lf:=H5.r.frozen
  obtain⟨WF,hWF⟩:=qE (set7 W5 w.heap.size (⟨4,s1,false,⟨#[]⟩,0,0,0⟩:Nd):World)
  have hfin:=H5.fin
  rw[←hWF]at hfin
  obtain⟨hB9,HR⟩:=hfin
  obtain⟨p0,p1,p2,p3,p4,p5,p6⟩:=And.intro (hB9.cell (j:=0) rfl) (And.intro (hB9.cell (j:=1) rfl) (And.intro (hB9.cell (j:=2) rfl) (And.intro (hB9.cell (j:=3) rfl) (And.intro (hB9.cell (j:=4) rfl) (And.intro (hB9.cell (j:=5) rfl) (hB9.cell (j:=6) rfl))))))
  have HRH:Hid (LefP base cb bv n w (.returned (Nd.v (⟨4,s1,false,⟨#[]⟩,0,0,0⟩:Nd))) WF):=HR
  exact zzQ3
 by_cases x3:x=3
 ·subst x3
  have c2_0:=H2.e.cell (j:=0) rfl
  have z2_0:=H2.e.frozen 0
  obtain⟨W3,hW3⟩:=qE (W2.setCell ⟨eb,0,none⟩ (.int .i64 5):World)
  have H3:Hid (NInv base cb bv n w eb w.heap.size (⟨5,⟨#[]⟩,false,⟨#[]⟩,0,0,0⟩:Nd) W3):=by rw[hW3];exact H2.set 0 _ _ rfl ⟨H2.sm.s,H2.sm.t,H2.sm.lo,H2.sm.up,H2.sm.n,(by show(0:Int)≤5∧(5:Int)≤100000;omega)⟩
  go_upto_region 16 with fail
  rw[←hW3]
  clear hW3
  go_wp2_with fail
  refine(pattern_core base cb bv n _ H3.d).mono ?_
  rintro e w4 ⟨s1,rfl,hs1,hd⟩
  have H4w:Hid (NInv base cb bv n w eb w.heap.size (⟨5,⟨#[]⟩,false,⟨#[]⟩,0,0,0⟩:Nd) w4):=H3.call hd
  clear hd
  have c4_1:=H4w.e.cell (j:=1) rfl
  have z4_1:=H4w.e.frozen 1
  obtain⟨W5,hW5⟩:=qE (w4.setCell ⟨eb,1,none⟩ (.string s1):World)
  have H5:Hid (NInv base cb bv n w eb w.heap.size (⟨5,s1,false,⟨#[]⟩,0,0,0⟩:Nd) W5):=by rw[hW5];exact H4w.set 1 _ _ rfl ⟨(by show s1.size≤200000;omega),H4w.sm.t,H4w.sm.lo,H4w.sm.up,H4w.sm.n,H4w.sm.kind⟩
  go_upto_region 18 with fail
  rw[←hW5]
  clear hW5
  go_wp2_with fail
  obtain⟨hcl,hbl⟩:cb<W5.heap.size∧Below W5.heap.size W5 (W5.alloc (Obj.cells #[] 0)):=⟨H5.d.lt.2,qB⟩
  refine(pick_core base cb bv n _ 5 _ (H5.d.below (qB)) (by omega) (by omega) (by omega) (by simp) ?_).mono ?_
  ·intro k hk
   match k,hk with
   |0,_=>exact⟨_,by simp;rfl,by decide⟩
   |1,_=>exact⟨_,by simp;rfl,by decide⟩
   |2,_=>exact⟨_,by simp;rfl,by decide⟩
   |3,_=>exact⟨_,by simp;rfl,by decide⟩
   |4,_=>exact⟨_,by simp;rfl,by decide⟩
  rintro e w6 ⟨s2,rfl,hs2,hd⟩
  have H6w:Hid (NInv base cb bv n w eb w.heap.size (⟨5,s1,false,⟨#[]⟩,0,0,0⟩:Nd) w6):=(H5.alloc _).call hd
  clear hd hbl hcl
  have c6_1:=H6w.e.cell (j:=1) rfl
  have z6_1:=H6w.e.frozen 1
  obtain⟨W7,hW7⟩:=qE (w6.setCell ⟨eb,1,none⟩ (.string s2):World)
  have H7:Hid (NInv base cb bv n w eb w.heap.size (⟨5,s2,false,⟨#[]⟩,0,0,0⟩:Nd) W7):=by rw[hW7];exact H6w.set 1 _ _ rfl ⟨(by show s2.size≤200000;omega),H6w.sm.t,H6w.sm.lo,H6w.sm.up,H6w.sm.n,H6w.sm.kind⟩
  go_upto_region 49 with fail
  rw[←hW7]
  clear hW7
  obtain⟨k0,k1,k2,k3,k4,k5,k6⟩:=And.intro (H7.e.cell (j:=0) rfl) (And.intro (H7.e.cell (j:=1) rfl) (And.intro (H7.e.cell (j:=2) rfl) (And.intro (H7.e.cell (j:=3) rfl) (And.intro (H7.e.cell (j:=4) rfl) (And.intro (H7.e.cell (j:=5) rfl) (H7.e.cell (j:=6) rfl))))))
  obtain⟨l0,l1,l2,l3,l4,l5,l6⟩:=And.intro (H7.r.cell (j:=0) rfl) (And.intro (H7.r.cell (j:=1) rfl) (And.intro (H7.r.cell (j:=2) rfl) (And.intro (H7.r.cell (j:=3) rfl) (And.intro (H7.r.cell (j:=4) rfl) (And.intro (H7.r.cell (j:=5) rfl) (H7.r.cell (j:=6) rfl))))))
  have lf:=H7.r.frozen
  obtain⟨WF,hWF⟩:=qE (set7 W7 w.heap.size (⟨5,s2,false,⟨#[]⟩,0,0,0⟩:Nd):World)
  have hfin:=H7.fin
  rw[←hWF]at hfin
  obtain⟨hB9,HR⟩:=hfin
  obtain⟨p0,p1,p2,p3,p4,p5,p6⟩:=And.intro (hB9.cell (j:=0) rfl) (And.intro (hB9.cell (j:=1) rfl) (And.intro (hB9.cell (j:=2) rfl) (And.intro (hB9.cell (j:=3) rfl) (And.intro (hB9.cell (j:=4) rfl) (And.intro (hB9.cell (j:=5) rfl) (hB9.cell (j:=6) rfl))))))
  have HRH:Hid (LefP base cb bv n w (.returned (Nd.v (⟨5,s2,false,⟨#[]⟩,0,0,0⟩:Nd))) WF):=HR
  exact zzQ3
 by_cases x4:x=4
 ·subst x4
  have c2_0:=H2.e.cell (j:=0) rfl
  have z2_0:=H2.e.frozen 0
  obtain⟨W3,hW3⟩:=qE (W2.setCell ⟨eb,0,none⟩ (.int .i64 6):World)
  have H3:Hid (NInv base cb bv n w eb w.heap.size (⟨6,⟨#[]⟩,false,⟨#[]⟩,0,0,0⟩:Nd) W3):=by rw[hW3];exact H2.set 0 _ _ rfl ⟨H2.sm.s,H2.sm.t,H2.sm.lo,H2.sm.up,H2.sm.n,(by show(0:Int)≤6∧(6:Int)≤100000;omega)⟩
  go_upto_region 16 with fail
  rw[←hW3]
  clear hW3
  go_wp2_with fail
  refine(pattern_core base cb bv n _ H3.d).mono ?_
  rintro e w4 ⟨s1,rfl,hs1,hd⟩
  have H4w:Hid (NInv base cb bv n w eb w.heap.size (⟨6,⟨#[]⟩,false,⟨#[]⟩,0,0,0⟩:Nd) w4):=H3.call hd
  clear hd
  have c4_1:=H4w.e.cell (j:=1) rfl
  have z4_1:=H4w.e.frozen 1
  obtain⟨W5,hW5⟩:=qE (w4.setCell ⟨eb,1,none⟩ (.string s1):World)
  have H5:Hid (NInv base cb bv n w eb w.heap.size (⟨6,s1,false,⟨#[]⟩,0,0,0⟩:Nd) W5):=by rw[hW5];exact H4w.set 1 _ _ rfl ⟨(by show s1.size≤200000;omega),H4w.sm.t,H4w.sm.lo,H4w.sm.up,H4w.sm.n,H4w.sm.kind⟩
  go_upto_region 49 with fail
  rw[←hW5]
  clear hW5
  obtain⟨k0,k1,k2,k3,k4,k5,k6⟩:=And.intro (H5.e.cell (j:=0) rfl) (And.intro (H5.e.cell (j:=1) rfl) (And.intro (H5.e.cell (j:=2) rfl) (And.intro (H5.e.cell (j:=3) rfl) (And.intro (H5.e.cell (j:=4) rfl) (And.intro (H5.e.cell (j:=5) rfl) (H5.e.cell (j:=6) rfl))))))
  obtain⟨l0,l1,l2,l3,l4,l5,l6⟩:=And.intro (H5.r.cell (j:=0) rfl) (And.intro (H5.r.cell (j:=1) rfl) (And.intro (H5.r.cell (j:=2) rfl) (And.intro (H5.r.cell (j:=3) rfl) (And.intro (H5.r.cell (j:=4) rfl) (And.intro (H5.r.cell (j:=5) rfl) (H5.r.cell (j:=6) rfl))))))
  have lf:=H5.r.frozen
  obtain⟨WF,hWF⟩:=qE (set7 W5 w.heap.size (⟨6,s1,false,⟨#[]⟩,0,0,0⟩:Nd):World)
  have hfin:=H5.fin
  rw[←hWF]at hfin
  obtain⟨hB9,HR⟩:=hfin
  obtain⟨p0,p1,p2,p3,p4,p5,p6⟩:=And.intro (hB9.cell (j:=0) rfl) (And.intro (hB9.cell (j:=1) rfl) (And.intro (hB9.cell (j:=2) rfl) (And.intro (hB9.cell (j:=3) rfl) (And.intro (hB9.cell (j:=4) rfl) (And.intro (hB9.cell (j:=5) rfl) (hB9.cell (j:=6) rfl))))))
  have HRH:Hid (LefP base cb bv n w (.returned (Nd.v (⟨6,s1,false,⟨#[]⟩,0,0,0⟩:Nd))) WF):=HR
  exact zzQ3
 by_cases x5:x=5
 ·subst x5
  have c2_0:=H2.e.cell (j:=0) rfl
  have z2_0:=H2.e.frozen 0
  obtain⟨W3,hW3⟩:=qE (W2.setCell ⟨eb,0,none⟩ (.int .i64 7):World)
  have H3:Hid (NInv base cb bv n w eb w.heap.size (⟨7,⟨#[]⟩,false,⟨#[]⟩,0,0,0⟩:Nd) W3):=by rw[hW3];exact H2.set 0 _ _ rfl ⟨H2.sm.s,H2.sm.t,H2.sm.lo,H2.sm.up,H2.sm.n,(by show(0:Int)≤7∧(7:Int)≤100000;omega)⟩
  go_upto_region 16 with fail
  rw[←hW3]
  clear hW3
  go_wp2_with fail
  refine(pattern_core base cb bv n _ H3.d).mono ?_
  rintro e w4 ⟨s1,rfl,hs1,hd⟩
  have H4w:Hid (NInv base cb bv n w eb w.heap.size (⟨7,⟨#[]⟩,false,⟨#[]⟩,0,0,0⟩:Nd) w4):=H3.call hd
  clear hd
  have c4_1:=H4w.e.cell (j:=1) rfl
  have z4_1:=H4w.e.frozen 1
  obtain⟨W5,hW5⟩:=qE (w4.setCell ⟨eb,1,none⟩ (.string s1):World)
  have H5:Hid (NInv base cb bv n w eb w.heap.size (⟨7,s1,false,⟨#[]⟩,0,0,0⟩:Nd) W5):=by rw[hW5];exact H4w.set 1 _ _ rfl ⟨(by show s1.size≤200000;omega),H4w.sm.t,H4w.sm.lo,H4w.sm.up,H4w.sm.n,H4w.sm.kind⟩
  go_upto_region 49 with fail
  rw[←hW5]
  clear hW5
  obtain⟨k0,k1,k2,k3,k4,k5,k6⟩:=And.intro (H5.e.cell (j:=0) rfl) (And.intro (H5.e.cell (j:=1) rfl) (And.intro (H5.e.cell (j:=2) rfl) (And.intro (H5.e.cell (j:=3) rfl) (And.intro (H5.e.cell (j:=4) rfl) (And.intro (H5.e.cell (j:=5) rfl) (H5.e.cell (j:=6) rfl))))))
  obtain⟨l0,l1,l2,l3,l4,l5,l6⟩:=And.intro (H5.r.cell (j:=0) rfl) (And.intro (H5.r.cell (j:=1) rfl) (And.intro (H5.r.cell (j:=2) rfl) (And.intro (H5.r.cell (j:=3) rfl) (And.intro (H5.r.cell (j:=4) rfl) (And.intro (H5.r.cell (j:=5) rfl) (H5.r.cell (j:=6) rfl))))))
  have lf:=H5.r.frozen
  obtain⟨WF,hWF⟩:=qE (set7 W5 w.heap.size (⟨7,s1,false,⟨#[]⟩,0,0,0⟩:Nd):World)
  have hfin:=H5.fin
  rw[←hWF]at hfin
  obtain⟨hB9,HR⟩:=hfin
  obtain⟨p0,p1,p2,p3,p4,p5,p6⟩:=And.intro (hB9.cell (j:=0) rfl) (And.intro (hB9.cell (j:=1) rfl) (And.intro (hB9.cell (j:=2) rfl) (And.intro (hB9.cell (j:=3) rfl) (And.intro (hB9.cell (j:=4) rfl) (And.intro (hB9.cell (j:=5) rfl) (hB9.cell (j:=6) rfl))))))
  have HRH:Hid (LefP base cb bv n w (.returned (Nd.v (⟨7,s1,false,⟨#[]⟩,0,0,0⟩:Nd))) WF):=HR
  exact zzQ3
 by_cases x6:x=6
 ·subst x6
  have c2_0:=H2.e.cell (j:=0) rfl
  have z2_0:=H2.e.frozen 0
  obtain⟨W3,hW3⟩:=qE (W2.setCell ⟨eb,0,none⟩ (.int .i64 8):World)
  have H3:Hid (NInv base cb bv n w eb w.heap.size (⟨8,⟨#[]⟩,false,⟨#[]⟩,0,0,0⟩:Nd) W3):=by rw[hW3];exact H2.set 0 _ _ rfl ⟨H2.sm.s,H2.sm.t,H2.sm.lo,H2.sm.up,H2.sm.n,(by show(0:Int)≤8∧(8:Int)≤100000;omega)⟩
  go_upto_region 21 with fail
  rw[←hW3]
  clear hW3
  go_wp2_with fail
  refine(letters_core base cb bv n 0 2 _ H3.d (by omega) (by omega) (by omega)).mono ?_
  rintro e w4 ⟨s1,rfl,hs1,hd⟩
  have H4w:Hid (NInv base cb bv n w eb w.heap.size (⟨8,⟨#[]⟩,false,⟨#[]⟩,0,0,0⟩:Nd) w4):=H3.call hd
  clear hd
  have c4_1:=H4w.e.cell (j:=1) rfl
  have z4_1:=H4w.e.frozen 1
  obtain⟨W5,hW5⟩:=qE (w4.setCell ⟨eb,1,none⟩ (.string s1):World)
  have H5:Hid (NInv base cb bv n w eb w.heap.size (⟨8,s1,false,⟨#[]⟩,0,0,0⟩:Nd) W5):=by rw[hW5];exact H4w.set 1 _ _ rfl ⟨(by show s1.size≤200000;omega),H4w.sm.t,H4w.sm.lo,H4w.sm.up,H4w.sm.n,H4w.sm.kind⟩
  go_upto_region 22 with fail
  rw[←hW5]
  clear hW5
  go_wp2_with fail
  refine(once_core base cb bv n 2 _ H5.d (by omega) (by omega)).mono ?_
  rintro e w6 ⟨v,rfl,hv,hd⟩
  have H6w:Hid (NInv base cb bv n w eb w.heap.size (⟨8,s1,false,⟨#[]⟩,0,0,0⟩:Nd) w6):=H5.call hd
  clear hd
  rcases hv with rfl|rfl
  ·have c6_2:=H6w.e.cell (j:=2) rfl
   have z6_2:=H6w.e.frozen 2
   obtain⟨W7,hW7⟩:=qE (w6.setCell ⟨eb,2,none⟩ (.bool true):World)
   have H7:Hid (NInv base cb bv n w eb w.heap.size (⟨8,s1,true,⟨#[]⟩,0,0,0⟩:Nd) W7):=by rw[hW7];exact H6w.set 2 _ _ rfl ⟨H6w.sm.s,H6w.sm.t,H6w.sm.lo,H6w.sm.up,H6w.sm.n,H6w.sm.kind⟩
   go_upto_region 23 with fail
   rw[←hW7]
   clear hW7
   have cH:=H7.e.cell (j:=2) rfl
   go_upto_region 24 with fail
   clear cH
   have HL:Hid (Calls Tryz.prog 131 #[.pointer (some ⟨cb,0,none⟩),.int .i64 1,.int .i64 2] W7.drew fun e w'=>∃s:ByteArray,e=.returned (.string s)∧s.size≤100∧Drew base cb bv n W7.drew w'):=letters_core base cb bv n 1 2 _ H7.drew.d (by omega) (by omega) (by omega)
   have hS0:(fun wz:World=>wz.cell? ⟨eb,1,none⟩=some (.string s1)) W7.drew:=H7.drew.e.cell (j:=1) rfl
   refine wp_region_T 6 (fun wz:World=>wz.cell? ⟨eb,1,none⟩=some (.string s1)) (by kernel_rfl) ?_
   refine qU 0 ?vx6r0 rfl ?yx6r0 hS0 ?_
   case yx6r0=>exact zzR3
   try simp only[qA,List.getElem_toArray,List.getElem_cons_zero,List.getElem_cons_succ]
   refine qU 1 ?vx6r1 rfl ?yx6r1 hS0 ?_
   case yx6r1=>exact zzR3
   try simp only[qA,List.getElem_toArray,List.getElem_cons_zero,List.getElem_cons_succ]
   refine qU 2 ?vx6r2 rfl ?yx6r2 hS0 ?_
   case yx6r2=>exact zzR3
   try simp only[qA,List.getElem_toArray,List.getElem_cons_zero,List.getElem_cons_succ]
   refine anyT_one (i:=3) (by kernel_rfl) rfl (fun K hK=>?_)
   go_simp
   refine HL.mono ?_
   rintro e w8 ⟨s4,rfl,hs4,hd⟩
   have H8w:Hid (NInv base cb bv n w eb w.heap.size (⟨8,s1,true,⟨#[]⟩,0,0,0⟩:Nd) w8):=H7.drew.call hd
   clear hd HL hS0
   have hS0:(fun wz:World=>wz.cell? ⟨eb,1,none⟩=some (.string s1)) w8:=H8w.e.cell (j:=1) rfl
   refine hK.out _ _ (.inr hS0) ?_
   clear hK
   try simp only[qA,List.getElem_toArray,List.getElem_cons_zero,List.getElem_cons_succ]
   have hcat:¬9223372036854775807<s1.size+s4.size:=by omega
   refine qU 4 ?vx6r4 rfl ?yx6r4 hS0 ?_
   case yx6r4=>exact zzR3
   try simp only[qA,List.getElem_toArray,List.getElem_cons_zero,List.getElem_cons_succ]
   clear hcat
   refine qU 5 ?vx6r5 rfl ?yx6r5 hS0 ?_
   case yx6r5=>exact zzR3
   try simp only[qA,List.getElem_toArray,List.getElem_cons_zero,List.getElem_cons_succ]
   have c8_3:=H8w.e.cell (j:=3) rfl
   have z8_3:=H8w.e.frozen 3
   obtain⟨W9,hW9⟩:=qE (w8.setCell ⟨eb,3,none⟩ (.string (s1++s4)):World)
   have H9:Hid (NInv base cb bv n w eb w.heap.size (⟨8,s1,true,(s1++s4),0,0,0⟩:Nd) W9):=by rw[hW9];exact H8w.set 3 _ _ rfl ⟨H8w.sm.s,(by show(s1++s4).size≤300000;rw[size_app];omega),H8w.sm.lo,H8w.sm.up,H8w.sm.n,H8w.sm.kind⟩
   refine anyT_one (i:=6) (by kernel_rfl) rfl (fun K hK=>?_)
   go_simp
   refine hK.out _ _ (.inl rfl) ?_
   clear hK
   try simp only[qA,List.getElem_toArray,List.getElem_cons_zero,List.getElem_cons_succ]
   refine anyT_done (by kernel_rfl) ?_
   rw[←hW9]
   clear hW9 hS0
   go_upto_region 49 with fail
   obtain⟨k0,k1,k2,k3,k4,k5,k6⟩:=And.intro (H9.e.cell (j:=0) rfl) (And.intro (H9.e.cell (j:=1) rfl) (And.intro (H9.e.cell (j:=2) rfl) (And.intro (H9.e.cell (j:=3) rfl) (And.intro (H9.e.cell (j:=4) rfl) (And.intro (H9.e.cell (j:=5) rfl) (H9.e.cell (j:=6) rfl))))))
   obtain⟨l0,l1,l2,l3,l4,l5,l6⟩:=And.intro (H9.r.cell (j:=0) rfl) (And.intro (H9.r.cell (j:=1) rfl) (And.intro (H9.r.cell (j:=2) rfl) (And.intro (H9.r.cell (j:=3) rfl) (And.intro (H9.r.cell (j:=4) rfl) (And.intro (H9.r.cell (j:=5) rfl) (H9.r.cell (j:=6) rfl))))))
   have lf:=H9.r.frozen
   obtain⟨WF,hWF⟩:=qE (set7 W9 w.heap.size (⟨8,s1,true,(s1++s4),0,0,0⟩:Nd):World)
   have hfin:=H9.fin
   rw[←hWF]at hfin
   obtain⟨hB9,HR⟩:=hfin
   obtain⟨p0,p1,p2,p3,p4,p5,p6⟩:=And.intro (hB9.cell (j:=0) rfl) (And.intro (hB9.cell (j:=1) rfl) (And.intro (hB9.cell (j:=2) rfl) (And.intro (hB9.cell (j:=3) rfl) (And.intro (hB9.cell (j:=4) rfl) (And.intro (hB9.cell (j:=5) rfl) (hB9.cell (j:=6) rfl))))))
   have HRH:Hid (LefP base cb bv n w (.returned (Nd.v (⟨8,s1,true,(s1++s4),0,0,0⟩:Nd))) WF):=HR
   exact zzQ3
  ·have c6_2:=H6w.e.cell (j:=2) rfl
   have z6_2:=H6w.e.frozen 2
   obtain⟨W7,hW7⟩:=qE (w6.setCell ⟨eb,2,none⟩ (.bool false):World)
   have H7:Hid (NInv base cb bv n w eb w.heap.size (⟨8,s1,false,⟨#[]⟩,0,0,0⟩:Nd) W7):=by rw[hW7];exact H6w.set 2 _ _ rfl ⟨H6w.sm.s,H6w.sm.t,H6w.sm.lo,H6w.sm.up,H6w.sm.n,H6w.sm.kind⟩
   go_upto_region 23 with fail
   rw[←hW7]
   clear hW7
   have cH:=H7.e.cell (j:=2) rfl
   go_upto_region 49 with fail
   clear cH
   obtain⟨k0,k1,k2,k3,k4,k5,k6⟩:=And.intro (H7.e.cell (j:=0) rfl) (And.intro (H7.e.cell (j:=1) rfl) (And.intro (H7.e.cell (j:=2) rfl) (And.intro (H7.e.cell (j:=3) rfl) (And.intro (H7.e.cell (j:=4) rfl) (And.intro (H7.e.cell (j:=5) rfl) (H7.e.cell (j:=6) rfl))))))
   obtain⟨l0,l1,l2,l3,l4,l5,l6⟩:=And.intro (H7.r.cell (j:=0) rfl) (And.intro (H7.r.cell (j:=1) rfl) (And.intro (H7.r.cell (j:=2) rfl) (And.intro (H7.r.cell (j:=3) rfl) (And.intro (H7.r.cell (j:=4) rfl) (And.intro (H7.r.cell (j:=5) rfl) (H7.r.cell (j:=6) rfl))))))
   have lf:=H7.r.frozen
   obtain⟨WF,hWF⟩:=qE (set7 W7 w.heap.size (⟨8,s1,false,⟨#[]⟩,0,0,0⟩:Nd):World)
   have hfin:=H7.fin
   rw[←hWF]at hfin
   obtain⟨hB9,HR⟩:=hfin
   obtain⟨p0,p1,p2,p3,p4,p5,p6⟩:=And.intro (hB9.cell (j:=0) rfl) (And.intro (hB9.cell (j:=1) rfl) (And.intro (hB9.cell (j:=2) rfl) (And.intro (hB9.cell (j:=3) rfl) (And.intro (hB9.cell (j:=4) rfl) (And.intro (hB9.cell (j:=5) rfl) (hB9.cell (j:=6) rfl))))))
   have HRH:Hid (LefP base cb bv n w (.returned (Nd.v (⟨8,s1,false,⟨#[]⟩,0,0,0⟩:Nd))) WF):=HR
   exact zzQ3
 by_cases x7:x=7
 ·subst x7
  have c2_0:=H2.e.cell (j:=0) rfl
  have z2_0:=H2.e.frozen 0
  obtain⟨W3,hW3⟩:=qE (W2.setCell ⟨eb,0,none⟩ (.int .i64 9):World)
  have H3:Hid (NInv base cb bv n w eb w.heap.size (⟨9,⟨#[]⟩,false,⟨#[]⟩,0,0,0⟩:Nd) W3):=by rw[hW3];exact H2.set 0 _ _ rfl ⟨H2.sm.s,H2.sm.t,H2.sm.lo,H2.sm.up,H2.sm.n,(by show(0:Int)≤9∧(9:Int)≤100000;omega)⟩
  go_upto_region 28 with fail
  rw[←hW3]
  clear hW3
  go_wp2_with fail
  refine(letters_core base cb bv n 0 2 _ H3.d (by omega) (by omega) (by omega)).mono ?_
  rintro e w4 ⟨s1,rfl,hs1,hd⟩
  have H4w:Hid (NInv base cb bv n w eb w.heap.size (⟨9,⟨#[]⟩,false,⟨#[]⟩,0,0,0⟩:Nd) w4):=H3.call hd
  clear hd
  have c4_1:=H4w.e.cell (j:=1) rfl
  have z4_1:=H4w.e.frozen 1
  obtain⟨W5,hW5⟩:=qE (w4.setCell ⟨eb,1,none⟩ (.string s1):World)
  have H5:Hid (NInv base cb bv n w eb w.heap.size (⟨9,s1,false,⟨#[]⟩,0,0,0⟩:Nd) W5):=by rw[hW5];exact H4w.set 1 _ _ rfl ⟨(by show s1.size≤200000;omega),H4w.sm.t,H4w.sm.lo,H4w.sm.up,H4w.sm.n,H4w.sm.kind⟩
  go_upto_region 29 with fail
  rw[←hW5]
  clear hW5
  go_wp2_with fail
  refine(once_core base cb bv n 2 _ H5.d (by omega) (by omega)).mono ?_
  rintro e w6 ⟨v,rfl,hv,hd⟩
  have H6w:Hid (NInv base cb bv n w eb w.heap.size (⟨9,s1,false,⟨#[]⟩,0,0,0⟩:Nd) w6):=H5.call hd
  clear hd
  rcases hv with rfl|rfl
  ·have c6_2:=H6w.e.cell (j:=2) rfl
   have z6_2:=H6w.e.frozen 2
   obtain⟨W7,hW7⟩:=qE (w6.setCell ⟨eb,2,none⟩ (.bool true):World)
   have H7:Hid (NInv base cb bv n w eb w.heap.size (⟨9,s1,true,⟨#[]⟩,0,0,0⟩:Nd) W7):=by rw[hW7];exact H6w.set 2 _ _ rfl ⟨H6w.sm.s,H6w.sm.t,H6w.sm.lo,H6w.sm.up,H6w.sm.n,H6w.sm.kind⟩
   go_upto_region 30 with fail
   rw[←hW7]
   clear hW7
   have cH:=H7.e.cell (j:=2) rfl
   go_upto_region 31 with fail
   clear cH
   have HL:Hid (Calls Tryz.prog 131 #[.pointer (some ⟨cb,0,none⟩),.int .i64 1,.int .i64 2] W7.drew fun e w'=>∃s:ByteArray,e=.returned (.string s)∧s.size≤100∧Drew base cb bv n W7.drew w'):=letters_core base cb bv n 1 2 _ H7.drew.d (by omega) (by omega) (by omega)
   have hS0:(fun wz:World=>wz.cell? ⟨eb,1,none⟩=some (.string s1)) W7.drew:=H7.drew.e.cell (j:=1) rfl
   refine wp_region_T 6 (fun wz:World=>wz.cell? ⟨eb,1,none⟩=some (.string s1)) (by kernel_rfl) ?_
   refine qU 0 ?vx7r0 rfl ?yx7r0 hS0 ?_
   case yx7r0=>exact zzR3
   try simp only[qA,List.getElem_toArray,List.getElem_cons_zero,List.getElem_cons_succ]
   refine qU 1 ?vx7r1 rfl ?yx7r1 hS0 ?_
   case yx7r1=>exact zzR3
   try simp only[qA,List.getElem_toArray,List.getElem_cons_zero,List.getElem_cons_succ]
   refine qU 2 ?vx7r2 rfl ?yx7r2 hS0 ?_
   case yx7r2=>exact zzR3
   try simp only[qA,List.getElem_toArray,List.getElem_cons_zero,List.getElem_cons_succ]
   refine anyT_one (i:=3) (by kernel_rfl) rfl (fun K hK=>?_)
   go_simp
   refine HL.mono ?_
   rintro e w8 ⟨s4,rfl,hs4,hd⟩
   have H8w:Hid (NInv base cb bv n w eb w.heap.size (⟨9,s1,true,⟨#[]⟩,0,0,0⟩:Nd) w8):=H7.drew.call hd
   clear hd HL hS0
   have hS0:(fun wz:World=>wz.cell? ⟨eb,1,none⟩=some (.string s1)) w8:=H8w.e.cell (j:=1) rfl
   refine hK.out _ _ (.inr hS0) ?_
   clear hK
   try simp only[qA,List.getElem_toArray,List.getElem_cons_zero,List.getElem_cons_succ]
   have hcat:¬9223372036854775807<s1.size+s4.size:=by omega
   refine qU 4 ?vx7r4 rfl ?yx7r4 hS0 ?_
   case yx7r4=>exact zzR3
   try simp only[qA,List.getElem_toArray,List.getElem_cons_zero,List.getElem_cons_succ]
   clear hcat
   refine qU 5 ?vx7r5 rfl ?yx7r5 hS0 ?_
   case yx7r5=>exact zzR3
   try simp only[qA,List.getElem_toArray,List.getElem_cons_zero,List.getElem_cons_succ]
   have c8_3:=H8w.e.cell (j:=3) rfl
   have z8_3:=H8w.e.frozen 3
   obtain⟨W9,hW9⟩:=qE (w8.setCell ⟨eb,3,none⟩ (.string (s1++s4)):World)
   have H9:Hid (NInv base cb bv n w eb w.heap.size (⟨9,s1,true,(s1++s4),0,0,0⟩:Nd) W9):=by rw[hW9];exact H8w.set 3 _ _ rfl ⟨H8w.sm.s,(by show(s1++s4).size≤300000;rw[size_app];omega),H8w.sm.lo,H8w.sm.up,H8w.sm.n,H8w.sm.kind⟩
   refine anyT_one (i:=6) (by kernel_rfl) rfl (fun K hK=>?_)
   go_simp
   refine hK.out _ _ (.inl rfl) ?_
   clear hK
   try simp only[qA,List.getElem_toArray,List.getElem_cons_zero,List.getElem_cons_succ]
   refine anyT_done (by kernel_rfl) ?_
   rw[←hW9]
   clear hW9 hS0
   go_upto_region 49 with fail
   obtain⟨k0,k1,k2,k3,k4,k5,k6⟩:=And.intro (H9.e.cell (j:=0) rfl) (And.intro (H9.e.cell (j:=1) rfl) (And.intro (H9.e.cell (j:=2) rfl) (And.intro (H9.e.cell (j:=3) rfl) (And.intro (H9.e.cell (j:=4) rfl) (And.intro (H9.e.cell (j:=5) rfl) (H9.e.cell (j:=6) rfl))))))
   obtain⟨l0,l1,l2,l3,l4,l5,l6⟩:=And.intro (H9.r.cell (j:=0) rfl) (And.intro (H9.r.cell (j:=1) rfl) (And.intro (H9.r.cell (j:=2) rfl) (And.intro (H9.r.cell (j:=3) rfl) (And.intro (H9.r.cell (j:=4) rfl) (And.intro (H9.r.cell (j:=5) rfl) (H9.r.cell (j:=6) rfl))))))
   have lf:=H9.r.frozen
   obtain⟨WF,hWF⟩:=qE (set7 W9 w.heap.size (⟨9,s1,true,(s1++s4),0,0,0⟩:Nd):World)
   have hfin:=H9.fin
   rw[←hWF]at hfin
   obtain⟨hB9,HR⟩:=hfin
   obtain⟨p0,p1,p2,p3,p4,p5,p6⟩:=And.intro (hB9.cell (j:=0) rfl) (And.intro (hB9.cell (j:=1) rfl) (And.intro (hB9.cell (j:=2) rfl) (And.intro (hB9.cell (j:=3) rfl) (And.intro (hB9.cell (j:=4) rfl) (And.intro (hB9.cell (j:=5) rfl) (hB9.cell (j:=6) rfl))))))
   have HRH:Hid (LefP base cb bv n w (.returned (Nd.v (⟨9,s1,true,(s1++s4),0,0,0⟩:Nd))) WF):=HR
   exact zzQ3
  ·have c6_2:=H6w.e.cell (j:=2) rfl
   have z6_2:=H6w.e.frozen 2
   obtain⟨W7,hW7⟩:=qE (w6.setCell ⟨eb,2,none⟩ (.bool false):World)
   have H7:Hid (NInv base cb bv n w eb w.heap.size (⟨9,s1,false,⟨#[]⟩,0,0,0⟩:Nd) W7):=by rw[hW7];exact H6w.set 2 _ _ rfl ⟨H6w.sm.s,H6w.sm.t,H6w.sm.lo,H6w.sm.up,H6w.sm.n,H6w.sm.kind⟩
   go_upto_region 30 with fail
   rw[←hW7]
   clear hW7
   have cH:=H7.e.cell (j:=2) rfl
   go_upto_region 49 with fail
   clear cH
   obtain⟨k0,k1,k2,k3,k4,k5,k6⟩:=And.intro (H7.e.cell (j:=0) rfl) (And.intro (H7.e.cell (j:=1) rfl) (And.intro (H7.e.cell (j:=2) rfl) (And.intro (H7.e.cell (j:=3) rfl) (And.intro (H7.e.cell (j:=4) rfl) (And.intro (H7.e.cell (j:=5) rfl) (H7.e.cell (j:=6) rfl))))))
   obtain⟨l0,l1,l2,l3,l4,l5,l6⟩:=And.intro (H7.r.cell (j:=0) rfl) (And.intro (H7.r.cell (j:=1) rfl) (And.intro (H7.r.cell (j:=2) rfl) (And.intro (H7.r.cell (j:=3) rfl) (And.intro (H7.r.cell (j:=4) rfl) (And.intro (H7.r.cell (j:=5) rfl) (H7.r.cell (j:=6) rfl))))))
   have lf:=H7.r.frozen
   obtain⟨WF,hWF⟩:=qE (set7 W7 w.heap.size (⟨9,s1,false,⟨#[]⟩,0,0,0⟩:Nd):World)
   have hfin:=H7.fin
   rw[←hWF]at hfin
   obtain⟨hB9,HR⟩:=hfin
   obtain⟨p0,p1,p2,p3,p4,p5,p6⟩:=And.intro (hB9.cell (j:=0) rfl) (And.intro (hB9.cell (j:=1) rfl) (And.intro (hB9.cell (j:=2) rfl) (And.intro (hB9.cell (j:=3) rfl) (And.intro (hB9.cell (j:=4) rfl) (And.intro (hB9.cell (j:=5) rfl) (hB9.cell (j:=6) rfl))))))
   have HRH:Hid (LefP base cb bv n w (.returned (Nd.v (⟨9,s1,false,⟨#[]⟩,0,0,0⟩:Nd))) WF):=HR
   exact zzQ3
 by_cases x8:x=8
 ·subst x8
  have c2_0:=H2.e.cell (j:=0) rfl
  have z2_0:=H2.e.frozen 0
  obtain⟨W3,hW3⟩:=qE (W2.setCell ⟨eb,0,none⟩ (.int .i64 9):World)
  have H3:Hid (NInv base cb bv n w eb w.heap.size (⟨9,⟨#[]⟩,false,⟨#[]⟩,0,0,0⟩:Nd) W3):=by rw[hW3];exact H2.set 0 _ _ rfl ⟨H2.sm.s,H2.sm.t,H2.sm.lo,H2.sm.up,H2.sm.n,(by show(0:Int)≤9∧(9:Int)≤100000;omega)⟩
  go_upto_region 28 with fail
  rw[←hW3]
  clear hW3
  go_wp2_with fail
  refine(letters_core base cb bv n 0 2 _ H3.d (by omega) (by omega) (by omega)).mono ?_
  rintro e w4 ⟨s1,rfl,hs1,hd⟩
  have H4w:Hid (NInv base cb bv n w eb w.heap.size (⟨9,⟨#[]⟩,false,⟨#[]⟩,0,0,0⟩:Nd) w4):=H3.call hd
  clear hd
  have c4_1:=H4w.e.cell (j:=1) rfl
  have z4_1:=H4w.e.frozen 1
  obtain⟨W5,hW5⟩:=qE (w4.setCell ⟨eb,1,none⟩ (.string s1):World)
  have H5:Hid (NInv base cb bv n w eb w.heap.size (⟨9,s1,false,⟨#[]⟩,0,0,0⟩:Nd) W5):=by rw[hW5];exact H4w.set 1 _ _ rfl ⟨(by show s1.size≤200000;omega),H4w.sm.t,H4w.sm.lo,H4w.sm.up,H4w.sm.n,H4w.sm.kind⟩
  go_upto_region 29 with fail
  rw[←hW5]
  clear hW5
  go_wp2_with fail
  refine(once_core base cb bv n 2 _ H5.d (by omega) (by omega)).mono ?_
  rintro e w6 ⟨v,rfl,hv,hd⟩
  have H6w:Hid (NInv base cb bv n w eb w.heap.size (⟨9,s1,false,⟨#[]⟩,0,0,0⟩:Nd) w6):=H5.call hd
  clear hd
  rcases hv with rfl|rfl
  ·have c6_2:=H6w.e.cell (j:=2) rfl
   have z6_2:=H6w.e.frozen 2
   obtain⟨W7,hW7⟩:=qE (w6.setCell ⟨eb,2,none⟩ (.bool true):World)
   have H7:Hid (NInv base cb bv n w eb w.heap.size (⟨9,s1,true,⟨#[]⟩,0,0,0⟩:Nd) W7):=by rw[hW7];exact H6w.set 2 _ _ rfl ⟨H6w.sm.s,H6w.sm.t,H6w.sm.lo,H6w.sm.up,H6w.sm.n,H6w.sm.kind⟩
   go_upto_region 30 with fail
   rw[←hW7]
   clear hW7
   have cH:=H7.e.cell (j:=2) rfl
   go_upto_region 31 with fail
   clear cH
   have HL:Hid (Calls Tryz.prog 131 #[.pointer (some ⟨cb,0,none⟩),.int .i64 1,.int .i64 2] W7.drew fun e w'=>∃s:ByteArray,e=.returned (.string s)∧s.size≤100∧Drew base cb bv n W7.drew w'):=letters_core base cb bv n 1 2 _ H7.drew.d (by omega) (by omega) (by omega)
   have hS0:(fun wz:World=>wz.cell? ⟨eb,1,none⟩=some (.string s1)) W7.drew:=H7.drew.e.cell (j:=1) rfl
   refine wp_region_T 6 (fun wz:World=>wz.cell? ⟨eb,1,none⟩=some (.string s1)) (by kernel_rfl) ?_
   refine qU 0 ?vx8r0 rfl ?yx8r0 hS0 ?_
   case yx8r0=>exact zzR3
   try simp only[qA,List.getElem_toArray,List.getElem_cons_zero,List.getElem_cons_succ]
   refine qU 1 ?vx8r1 rfl ?yx8r1 hS0 ?_
   case yx8r1=>exact zzR3
   try simp only[qA,List.getElem_toArray,List.getElem_cons_zero,List.getElem_cons_succ]
   refine qU 2 ?vx8r2 rfl ?yx8r2 hS0 ?_
   case yx8r2=>exact zzR3
   try simp only[qA,List.getElem_toArray,List.getElem_cons_zero,List.getElem_cons_succ]
   refine anyT_one (i:=3) (by kernel_rfl) rfl (fun K hK=>?_)
   go_simp
   refine HL.mono ?_
   rintro e w8 ⟨s4,rfl,hs4,hd⟩
   have H8w:Hid (NInv base cb bv n w eb w.heap.size (⟨9,s1,true,⟨#[]⟩,0,0,0⟩:Nd) w8):=H7.drew.call hd
   clear hd HL hS0
   have hS0:(fun wz:World=>wz.cell? ⟨eb,1,none⟩=some (.string s1)) w8:=H8w.e.cell (j:=1) rfl
   refine hK.out _ _ (.inr hS0) ?_
   clear hK
   try simp only[qA,List.getElem_toArray,List.getElem_cons_zero,List.getElem_cons_succ]
   have hcat:¬9223372036854775807<s1.size+s4.size:=by omega
   refine qU 4 ?vx8r4 rfl ?yx8r4 hS0 ?_
   case yx8r4=>exact zzR3
   try simp only[qA,List.getElem_toArray,List.getElem_cons_zero,List.getElem_cons_succ]
   clear hcat
   refine qU 5 ?vx8r5 rfl ?yx8r5 hS0 ?_
   case yx8r5=>exact zzR3
   try simp only[qA,List.getElem_toArray,List.getElem_cons_zero,List.getElem_cons_succ]
   have c8_3:=H8w.e.cell (j:=3) rfl
   have z8_3:=H8w.e.frozen 3
   obtain⟨W9,hW9⟩:=qE (w8.setCell ⟨eb,3,none⟩ (.string (s1++s4)):World)
   have H9:Hid (NInv base cb bv n w eb w.heap.size (⟨9,s1,true,(s1++s4),0,0,0⟩:Nd) W9):=by rw[hW9];exact H8w.set 3 _ _ rfl ⟨H8w.sm.s,(by show(s1++s4).size≤300000;rw[size_app];omega),H8w.sm.lo,H8w.sm.up,H8w.sm.n,H8w.sm.kind⟩
   refine anyT_one (i:=6) (by kernel_rfl) rfl (fun K hK=>?_)
   go_simp
   refine hK.out _ _ (.inl rfl) ?_
   clear hK
   try simp only[qA,List.getElem_toArray,List.getElem_cons_zero,List.getElem_cons_succ]
   refine anyT_done (by kernel_rfl) ?_
   rw[←hW9]
   clear hW9 hS0
   go_upto_region 49 with fail
   obtain⟨k0,k1,k2,k3,k4,k5,k6⟩:=And.intro (H9.e.cell (j:=0) rfl) (And.intro (H9.e.cell (j:=1) rfl) (And.intro (H9.e.cell (j:=2) rfl) (And.intro (H9.e.cell (j:=3) rfl) (And.intro (H9.e.cell (j:=4) rfl) (And.intro (H9.e.cell (j:=5) rfl) (H9.e.cell (j:=6) rfl))))))
   obtain⟨l0,l1,l2,l3,l4,l5,l6⟩:=And.intro (H9.r.cell (j:=0) rfl) (And.intro (H9.r.cell (j:=1) rfl) (And.intro (H9.r.cell (j:=2) rfl) (And.intro (H9.r.cell (j:=3) rfl) (And.intro (H9.r.cell (j:=4) rfl) (And.intro (H9.r.cell (j:=5) rfl) (H9.r.cell (j:=6) rfl))))))
   have lf:=H9.r.frozen
   obtain⟨WF,hWF⟩:=qE (set7 W9 w.heap.size (⟨9,s1,true,(s1++s4),0,0,0⟩:Nd):World)
   have hfin:=H9.fin
   rw[←hWF]at hfin
   obtain⟨hB9,HR⟩:=hfin
   obtain⟨p0,p1,p2,p3,p4,p5,p6⟩:=And.intro (hB9.cell (j:=0) rfl) (And.intro (hB9.cell (j:=1) rfl) (And.intro (hB9.cell (j:=2) rfl) (And.intro (hB9.cell (j:=3) rfl) (And.intro (hB9.cell (j:=4) rfl) (And.intro (hB9.cell (j:=5) rfl) (hB9.cell (j:=6) rfl))))))
   have HRH:Hid (LefP base cb bv n w (.returned (Nd.v (⟨9,s1,true,(s1++s4),0,0,0⟩:Nd))) WF):=HR
   exact zzQ3
  ·have c6_2:=H6w.e.cell (j:=2) rfl
   have z6_2:=H6w.e.frozen 2
   obtain⟨W7,hW7⟩:=qE (w6.setCell ⟨eb,2,none⟩ (.bool false):World)
   have H7:Hid (NInv base cb bv n w eb w.heap.size (⟨9,s1,false,⟨#[]⟩,0,0,0⟩:Nd) W7):=by rw[hW7];exact H6w.set 2 _ _ rfl ⟨H6w.sm.s,H6w.sm.t,H6w.sm.lo,H6w.sm.up,H6w.sm.n,H6w.sm.kind⟩
   go_upto_region 30 with fail
   rw[←hW7]
   clear hW7
   have cH:=H7.e.cell (j:=2) rfl
   go_upto_region 49 with fail
   clear cH
   obtain⟨k0,k1,k2,k3,k4,k5,k6⟩:=And.intro (H7.e.cell (j:=0) rfl) (And.intro (H7.e.cell (j:=1) rfl) (And.intro (H7.e.cell (j:=2) rfl) (And.intro (H7.e.cell (j:=3) rfl) (And.intro (H7.e.cell (j:=4) rfl) (And.intro (H7.e.cell (j:=5) rfl) (H7.e.cell (j:=6) rfl))))))
   obtain⟨l0,l1,l2,l3,l4,l5,l6⟩:=And.intro (H7.r.cell (j:=0) rfl) (And.intro (H7.r.cell (j:=1) rfl) (And.intro (H7.r.cell (j:=2) rfl) (And.intro (H7.r.cell (j:=3) rfl) (And.intro (H7.r.cell (j:=4) rfl) (And.intro (H7.r.cell (j:=5) rfl) (H7.r.cell (j:=6) rfl))))))
   have lf:=H7.r.frozen
   obtain⟨WF,hWF⟩:=qE (set7 W7 w.heap.size (⟨9,s1,false,⟨#[]⟩,0,0,0⟩:Nd):World)
   have hfin:=H7.fin
   rw[←hWF]at hfin
   obtain⟨hB9,HR⟩:=hfin
   obtain⟨p0,p1,p2,p3,p4,p5,p6⟩:=And.intro (hB9.cell (j:=0) rfl) (And.intro (hB9.cell (j:=1) rfl) (And.intro (hB9.cell (j:=2) rfl) (And.intro (hB9.cell (j:=3) rfl) (And.intro (hB9.cell (j:=4) rfl) (And.intro (hB9.cell (j:=5) rfl) (hB9.cell (j:=6) rfl))))))
   have HRH:Hid (LefP base cb bv n w (.returned (Nd.v (⟨9,s1,false,⟨#[]⟩,0,0,0⟩:Nd))) WF):=HR
   exact zzQ3
 by_cases x9:x=9
 ·subst x9
  have c2_0:=H2.e.cell (j:=0) rfl
  have z2_0:=H2.e.frozen 0
  obtain⟨W3,hW3⟩:=qE (W2.setCell ⟨eb,0,none⟩ (.int .i64 10):World)
  have H3:Hid (NInv base cb bv n w eb w.heap.size (⟨10,⟨#[]⟩,false,⟨#[]⟩,0,0,0⟩:Nd) W3):=by rw[hW3];exact H2.set 0 _ _ rfl ⟨H2.sm.s,H2.sm.t,H2.sm.lo,H2.sm.up,H2.sm.n,(by show(0:Int)≤10∧(10:Int)≤100000;omega)⟩
  go_upto_region 35 with fail
  rw[←hW3]
  clear hW3
  go_wp2_with fail
  refine(below_core base cb bv n 4 _ H3.d (by omega) (by omega)).mono ?_
  rintro e w4 ⟨y,rfl,hy0,hy1,hd⟩
  have H4w:Hid (NInv base cb bv n w eb w.heap.size (⟨10,⟨#[]⟩,false,⟨#[]⟩,0,0,0⟩:Nd) w4):=H3.call hd
  clear hd
  have c4_4:=H4w.e.cell (j:=4) rfl
  have z4_4:=H4w.e.frozen 4
  obtain⟨W5,hW5⟩:=qE (w4.setCell ⟨eb,4,none⟩ (.int .u64 y):World)
  have H5:Hid (NInv base cb bv n w eb w.heap.size (⟨10,⟨#[]⟩,false,⟨#[]⟩,y,0,0⟩:Nd) W5):=by rw[hW5];exact H4w.set 4 _ _ rfl ⟨H4w.sm.s,H4w.sm.t,(by show 0≤y∧y≤100000;omega),H4w.sm.up,H4w.sm.n,H4w.sm.kind⟩
  go_upto_region 36 with fail
  rw[←hW5]
  clear hW5
  go_wp2_with fail
  refine(once_core base cb bv n 2 _ H5.d (by omega) (by omega)).mono ?_
  rintro e w6 ⟨v,rfl,hv,hd⟩
  have H6w:Hid (NInv base cb bv n w eb w.heap.size (⟨10,⟨#[]⟩,false,⟨#[]⟩,y,0,0⟩:Nd) w6):=H5.call hd
  clear hd
  rcases hv with rfl|rfl
  ·have c6_2:=H6w.e.cell (j:=2) rfl
   have z6_2:=H6w.e.frozen 2
   obtain⟨W7,hW7⟩:=qE (w6.setCell ⟨eb,2,none⟩ (.bool true):World)
   have H7:Hid (NInv base cb bv n w eb w.heap.size (⟨10,⟨#[]⟩,true,⟨#[]⟩,y,0,0⟩:Nd) W7):=by rw[hW7];exact H6w.set 2 _ _ rfl ⟨H6w.sm.s,H6w.sm.t,H6w.sm.lo,H6w.sm.up,H6w.sm.n,H6w.sm.kind⟩
   go_upto_region 37 with fail
   rw[←hW7]
   clear hW7
   have cH:=H7.e.cell (j:=2) rfl
   go_upto_region 38 with fail
   clear cH
   have HL:Hid (Calls Tryz.prog 43 #[.pointer (some ⟨cb,0,none⟩),.int .i64 4] W7.drew fun e w'=>∃x:Int,e=.returned (.int .i64 x)∧0≤x∧x<4∧Drew base cb bv n W7.drew w'):=below_core base cb bv n 4 _ H7.drew.d (by omega) (by omega)
   have hS0:(fun wz:World=>wz.cell? ⟨eb,4,none⟩=some (.int .u64 y)) W7.drew:=H7.drew.e.cell (j:=4) rfl
   refine wp_region_T 8 (fun wz:World=>wz.cell? ⟨eb,4,none⟩=some (.int .u64 y)) (by kernel_rfl) ?_
   refine qU 0 ?vx9r0 rfl ?yx9r0 hS0 ?_
   case yx9r0=>exact zzR3
   try simp only[qA,List.getElem_toArray,List.getElem_cons_zero,List.getElem_cons_succ]
   refine qU 1 ?vx9r1 rfl ?yx9r1 hS0 ?_
   case yx9r1=>exact zzR3
   try simp only[qA,List.getElem_toArray,List.getElem_cons_zero,List.getElem_cons_succ]
   refine qU 2 ?vx9r2 rfl ?yx9r2 hS0 ?_
   case yx9r2=>exact zzR3
   try simp only[qA,List.getElem_toArray,List.getElem_cons_zero,List.getElem_cons_succ]
   refine qU 3 ?vx9r3 rfl ?yx9r3 hS0 ?_
   case yx9r3=>exact zzR3
   try simp only[qA,List.getElem_toArray,List.getElem_cons_zero,List.getElem_cons_succ]
   refine anyT_one (i:=4) (by kernel_rfl) rfl (fun K hK=>?_)
   go_simp
   refine HL.mono ?_
   rintro e w8 ⟨u,rfl,hu0,hu1,hd⟩
   have H8w:Hid (NInv base cb bv n w eb w.heap.size (⟨10,⟨#[]⟩,true,⟨#[]⟩,y,0,0⟩:Nd) w8):=H7.drew.call hd
   clear hd HL hS0
   have hS0:(fun wz:World=>wz.cell? ⟨eb,4,none⟩=some (.int .u64 y)) w8:=H8w.e.cell (j:=4) rfl
   refine hK.out _ _ (.inr hS0) ?_
   clear hK
   try simp only[qA,List.getElem_toArray,List.getElem_cons_zero,List.getElem_cons_succ]
   refine qU 5 ?vx9r5 rfl ?yx9r5 hS0 ?_
   case yx9r5=>exact zzR3
   try simp only[qA,List.getElem_toArray,List.getElem_cons_zero,List.getElem_cons_succ]
   refine qU 6 ?vx9r6 rfl ?yx9r6 hS0 ?_
   case yx9r6=>exact zzR3
   try simp only[qA,List.getElem_toArray,List.getElem_cons_zero,List.getElem_cons_succ]
   refine qU 7 ?vx9r7 rfl ?yx9r7 hS0 ?_
   case yx9r7=>exact zzR3
   try simp only[qA,List.getElem_toArray,List.getElem_cons_zero,List.getElem_cons_succ]
   have c8_5:=H8w.e.cell (j:=5) rfl
   have z8_5:=H8w.e.frozen 5
   obtain⟨W9,hW9⟩:=qE (w8.setCell ⟨eb,5,none⟩ (.int .u64 (y+1+u)):World)
   have H9:Hid (NInv base cb bv n w eb w.heap.size (⟨10,⟨#[]⟩,true,⟨#[]⟩,y,(y+1+u),0⟩:Nd) W9):=by rw[hW9];exact H8w.set 5 _ _ rfl ⟨H8w.sm.s,H8w.sm.t,H8w.sm.lo,(by show 0≤y+1+u∧y+1+u≤100000;omega),H8w.sm.n,H8w.sm.kind⟩
   refine anyT_one (i:=8) (by kernel_rfl) rfl (fun K hK=>?_)
   go_simp
   refine hK.out _ _ (.inl rfl) ?_
   clear hK
   try simp only[qA,List.getElem_toArray,List.getElem_cons_zero,List.getElem_cons_succ]
   refine anyT_done (by kernel_rfl) ?_
   have hwr:IntKind.u64.wrap (IntKind.u64.wrap (y+1)+IntKind.u64.wrap u)=y+1+u:=by rw[wrapU (y+1) (by omega),wrapU u (by omega),wrapU _ (by omega)]
   rw[hwr,←hW9]
   clear hW9 hS0
   go_upto_region 49 with fail
   obtain⟨k0,k1,k2,k3,k4,k5,k6⟩:=And.intro (H9.e.cell (j:=0) rfl) (And.intro (H9.e.cell (j:=1) rfl) (And.intro (H9.e.cell (j:=2) rfl) (And.intro (H9.e.cell (j:=3) rfl) (And.intro (H9.e.cell (j:=4) rfl) (And.intro (H9.e.cell (j:=5) rfl) (H9.e.cell (j:=6) rfl))))))
   obtain⟨l0,l1,l2,l3,l4,l5,l6⟩:=And.intro (H9.r.cell (j:=0) rfl) (And.intro (H9.r.cell (j:=1) rfl) (And.intro (H9.r.cell (j:=2) rfl) (And.intro (H9.r.cell (j:=3) rfl) (And.intro (H9.r.cell (j:=4) rfl) (And.intro (H9.r.cell (j:=5) rfl) (H9.r.cell (j:=6) rfl))))))
   have lf:=H9.r.frozen
   obtain⟨WF,hWF⟩:=qE (set7 W9 w.heap.size (⟨10,⟨#[]⟩,true,⟨#[]⟩,y,(y+1+u),0⟩:Nd):World)
   have hfin:=H9.fin
   rw[←hWF]at hfin
   obtain⟨hB9,HR⟩:=hfin
   obtain⟨p0,p1,p2,p3,p4,p5,p6⟩:=And.intro (hB9.cell (j:=0) rfl) (And.intro (hB9.cell (j:=1) rfl) (And.intro (hB9.cell (j:=2) rfl) (And.intro (hB9.cell (j:=3) rfl) (And.intro (hB9.cell (j:=4) rfl) (And.intro (hB9.cell (j:=5) rfl) (hB9.cell (j:=6) rfl))))))
   have HRH:Hid (LefP base cb bv n w (.returned (Nd.v (⟨10,⟨#[]⟩,true,⟨#[]⟩,y,(y+1+u),0⟩:Nd))) WF):=HR
   exact zzQ3
  ·have c6_2:=H6w.e.cell (j:=2) rfl
   have z6_2:=H6w.e.frozen 2
   obtain⟨W7,hW7⟩:=qE (w6.setCell ⟨eb,2,none⟩ (.bool false):World)
   have H7:Hid (NInv base cb bv n w eb w.heap.size (⟨10,⟨#[]⟩,false,⟨#[]⟩,y,0,0⟩:Nd) W7):=by rw[hW7];exact H6w.set 2 _ _ rfl ⟨H6w.sm.s,H6w.sm.t,H6w.sm.lo,H6w.sm.up,H6w.sm.n,H6w.sm.kind⟩
   go_upto_region 37 with fail
   rw[←hW7]
   clear hW7
   have cH:=H7.e.cell (j:=2) rfl
   go_upto_region 49 with fail
   clear cH
   obtain⟨k0,k1,k2,k3,k4,k5,k6⟩:=And.intro (H7.e.cell (j:=0) rfl) (And.intro (H7.e.cell (j:=1) rfl) (And.intro (H7.e.cell (j:=2) rfl) (And.intro (H7.e.cell (j:=3) rfl) (And.intro (H7.e.cell (j:=4) rfl) (And.intro (H7.e.cell (j:=5) rfl) (H7.e.cell (j:=6) rfl))))))
   obtain⟨l0,l1,l2,l3,l4,l5,l6⟩:=And.intro (H7.r.cell (j:=0) rfl) (And.intro (H7.r.cell (j:=1) rfl) (And.intro (H7.r.cell (j:=2) rfl) (And.intro (H7.r.cell (j:=3) rfl) (And.intro (H7.r.cell (j:=4) rfl) (And.intro (H7.r.cell (j:=5) rfl) (H7.r.cell (j:=6) rfl))))))
   have lf:=H7.r.frozen
   obtain⟨WF,hWF⟩:=qE (set7 W7 w.heap.size (⟨10,⟨#[]⟩,false,⟨#[]⟩,y,0,0⟩:Nd):World)
   have hfin:=H7.fin
   rw[←hWF]at hfin
   obtain⟨hB9,HR⟩:=hfin
   obtain⟨p0,p1,p2,p3,p4,p5,p6⟩:=And.intro (hB9.cell (j:=0) rfl) (And.intro (hB9.cell (j:=1) rfl) (And.intro (hB9.cell (j:=2) rfl) (And.intro (hB9.cell (j:=3) rfl) (And.intro (hB9.cell (j:=4) rfl) (And.intro (hB9.cell (j:=5) rfl) (hB9.cell (j:=6) rfl))))))
   have HRH:Hid (LefP base cb bv n w (.returned (Nd.v (⟨10,⟨#[]⟩,false,⟨#[]⟩,y,0,0⟩:Nd))) WF):=HR
   exact zzQ3
 by_cases x10:x=10
 ·subst x10
  have c2_0:=H2.e.cell (j:=0) rfl
  have z2_0:=H2.e.frozen 0
  obtain⟨W3,hW3⟩:=qE (W2.setCell ⟨eb,0,none⟩ (.int .i64 10):World)
  have H3:Hid (NInv base cb bv n w eb w.heap.size (⟨10,⟨#[]⟩,false,⟨#[]⟩,0,0,0⟩:Nd) W3):=by rw[hW3];exact H2.set 0 _ _ rfl ⟨H2.sm.s,H2.sm.t,H2.sm.lo,H2.sm.up,H2.sm.n,(by show(0:Int)≤10∧(10:Int)≤100000;omega)⟩
  go_upto_region 35 with fail
  rw[←hW3]
  clear hW3
  go_wp2_with fail
  refine(below_core base cb bv n 4 _ H3.d (by omega) (by omega)).mono ?_
  rintro e w4 ⟨y,rfl,hy0,hy1,hd⟩
  have H4w:Hid (NInv base cb bv n w eb w.heap.size (⟨10,⟨#[]⟩,false,⟨#[]⟩,0,0,0⟩:Nd) w4):=H3.call hd
  clear hd
  have c4_4:=H4w.e.cell (j:=4) rfl
  have z4_4:=H4w.e.frozen 4
  obtain⟨W5,hW5⟩:=qE (w4.setCell ⟨eb,4,none⟩ (.int .u64 y):World)
  have H5:Hid (NInv base cb bv n w eb w.heap.size (⟨10,⟨#[]⟩,false,⟨#[]⟩,y,0,0⟩:Nd) W5):=by rw[hW5];exact H4w.set 4 _ _ rfl ⟨H4w.sm.s,H4w.sm.t,(by show 0≤y∧y≤100000;omega),H4w.sm.up,H4w.sm.n,H4w.sm.kind⟩
  go_upto_region 36 with fail
  rw[←hW5]
  clear hW5
  go_wp2_with fail
  refine(once_core base cb bv n 2 _ H5.d (by omega) (by omega)).mono ?_
  rintro e w6 ⟨v,rfl,hv,hd⟩
  have H6w:Hid (NInv base cb bv n w eb w.heap.size (⟨10,⟨#[]⟩,false,⟨#[]⟩,y,0,0⟩:Nd) w6):=H5.call hd
  clear hd
  rcases hv with rfl|rfl
  ·have c6_2:=H6w.e.cell (j:=2) rfl
   have z6_2:=H6w.e.frozen 2
   obtain⟨W7,hW7⟩:=qE (w6.setCell ⟨eb,2,none⟩ (.bool true):World)
   have H7:Hid (NInv base cb bv n w eb w.heap.size (⟨10,⟨#[]⟩,true,⟨#[]⟩,y,0,0⟩:Nd) W7):=by rw[hW7];exact H6w.set 2 _ _ rfl ⟨H6w.sm.s,H6w.sm.t,H6w.sm.lo,H6w.sm.up,H6w.sm.n,H6w.sm.kind⟩
   go_upto_region 37 with fail
   rw[←hW7]
   clear hW7
   have cH:=H7.e.cell (j:=2) rfl
   go_upto_region 38 with fail
   clear cH
   have HL:Hid (Calls Tryz.prog 43 #[.pointer (some ⟨cb,0,none⟩),.int .i64 4] W7.drew fun e w'=>∃x:Int,e=.returned (.int .i64 x)∧0≤x∧x<4∧Drew base cb bv n W7.drew w'):=below_core base cb bv n 4 _ H7.drew.d (by omega) (by omega)
   have hS0:(fun wz:World=>wz.cell? ⟨eb,4,none⟩=some (.int .u64 y)) W7.drew:=H7.drew.e.cell (j:=4) rfl
   refine wp_region_T 8 (fun wz:World=>wz.cell? ⟨eb,4,none⟩=some (.int .u64 y)) (by kernel_rfl) ?_
   refine qU 0 ?vx10r0 rfl ?yx10r0 hS0 ?_
   case yx10r0=>exact zzR3
   try simp only[qA,List.getElem_toArray,List.getElem_cons_zero,List.getElem_cons_succ]
   refine qU 1 ?vx10r1 rfl ?yx10r1 hS0 ?_
   case yx10r1=>exact zzR3
   try simp only[qA,List.getElem_toArray,List.getElem_cons_zero,List.getElem_cons_succ]
   refine qU 2 ?vx10r2 rfl ?yx10r2 hS0 ?_
   case yx10r2=>exact zzR3
   try simp only[qA,List.getElem_toArray,List.getElem_cons_zero,List.getElem_cons_succ]
   refine qU 3 ?vx10r3 rfl ?yx10r3 hS0 ?_
   case yx10r3=>exact zzR3
   try simp only[qA,List.getElem_toArray,List.getElem_cons_zero,List.getElem_cons_succ]
   refine anyT_one (i:=4) (by kernel_rfl) rfl (fun K hK=>?_)
   go_simp
   refine HL.mono ?_
   rintro e w8 ⟨u,rfl,hu0,hu1,hd⟩
   have H8w:Hid (NInv base cb bv n w eb w.heap.size (⟨10,⟨#[]⟩,true,⟨#[]⟩,y,0,0⟩:Nd) w8):=H7.drew.call hd
   clear hd HL hS0
   have hS0:(fun wz:World=>wz.cell? ⟨eb,4,none⟩=some (.int .u64 y)) w8:=H8w.e.cell (j:=4) rfl
   refine hK.out _ _ (.inr hS0) ?_
   clear hK
   try simp only[qA,List.getElem_toArray,List.getElem_cons_zero,List.getElem_cons_succ]
   refine qU 5 ?vx10r5 rfl ?yx10r5 hS0 ?_
   case yx10r5=>exact zzR3
   try simp only[qA,List.getElem_toArray,List.getElem_cons_zero,List.getElem_cons_succ]
   refine qU 6 ?vx10r6 rfl ?yx10r6 hS0 ?_
   case yx10r6=>exact zzR3
   try simp only[qA,List.getElem_toArray,List.getElem_cons_zero,List.getElem_cons_succ]
   refine qU 7 ?vx10r7 rfl ?yx10r7 hS0 ?_
   case yx10r7=>exact zzR3
   try simp only[qA,List.getElem_toArray,List.getElem_cons_zero,List.getElem_cons_succ]
   have c8_5:=H8w.e.cell (j:=5) rfl
   have z8_5:=H8w.e.frozen 5
   obtain⟨W9,hW9⟩:=qE (w8.setCell ⟨eb,5,none⟩ (.int .u64 (y+1+u)):World)
   have H9:Hid (NInv base cb bv n w eb w.heap.size (⟨10,⟨#[]⟩,true,⟨#[]⟩,y,(y+1+u),0⟩:Nd) W9):=by rw[hW9];exact H8w.set 5 _ _ rfl ⟨H8w.sm.s,H8w.sm.t,H8w.sm.lo,(by show 0≤y+1+u∧y+1+u≤100000;omega),H8w.sm.n,H8w.sm.kind⟩
   refine anyT_one (i:=8) (by kernel_rfl) rfl (fun K hK=>?_)
   go_simp
   refine hK.out _ _ (.inl rfl) ?_
   clear hK
   try simp only[qA,List.getElem_toArray,List.getElem_cons_zero,List.getElem_cons_succ]
   refine anyT_done (by kernel_rfl) ?_
   have hwr:IntKind.u64.wrap (IntKind.u64.wrap (y+1)+IntKind.u64.wrap u)=y+1+u:=by rw[wrapU (y+1) (by omega),wrapU u (by omega),wrapU _ (by omega)]
   rw[hwr,←hW9]
   clear hW9 hS0
   go_upto_region 49 with fail
   obtain⟨k0,k1,k2,k3,k4,k5,k6⟩:=And.intro (H9.e.cell (j:=0) rfl) (And.intro (H9.e.cell (j:=1) rfl) (And.intro (H9.e.cell (j:=2) rfl) (And.intro (H9.e.cell (j:=3) rfl) (And.intro (H9.e.cell (j:=4) rfl) (And.intro (H9.e.cell (j:=5) rfl) (H9.e.cell (j:=6) rfl))))))
   obtain⟨l0,l1,l2,l3,l4,l5,l6⟩:=And.intro (H9.r.cell (j:=0) rfl) (And.intro (H9.r.cell (j:=1) rfl) (And.intro (H9.r.cell (j:=2) rfl) (And.intro (H9.r.cell (j:=3) rfl) (And.intro (H9.r.cell (j:=4) rfl) (And.intro (H9.r.cell (j:=5) rfl) (H9.r.cell (j:=6) rfl))))))
   have lf:=H9.r.frozen
   obtain⟨WF,hWF⟩:=qE (set7 W9 w.heap.size (⟨10,⟨#[]⟩,true,⟨#[]⟩,y,(y+1+u),0⟩:Nd):World)
   have hfin:=H9.fin
   rw[←hWF]at hfin
   obtain⟨hB9,HR⟩:=hfin
   obtain⟨p0,p1,p2,p3,p4,p5,p6⟩:=And.intro (hB9.cell (j:=0) rfl) (And.intro (hB9.cell (j:=1) rfl) (And.intro (hB9.cell (j:=2) rfl) (And.intro (hB9.cell (j:=3) rfl) (And.intro (hB9.cell (j:=4) rfl) (And.intro (hB9.cell (j:=5) rfl) (hB9.cell (j:=6) rfl))))))
   have HRH:Hid (LefP base cb bv n w (.returned (Nd.v (⟨10,⟨#[]⟩,true,⟨#[]⟩,y,(y+1+u),0⟩:Nd))) WF):=HR
   exact zzQ3
  ·have c6_2:=H6w.e.cell (j:=2) rfl
   have z6_2:=H6w.e.frozen 2
   obtain⟨W7,hW7⟩:=qE (w6.setCell ⟨eb,2,none⟩ (.bool false):World)
   have H7:Hid (NInv base cb bv n w eb w.heap.size (⟨10,⟨#[]⟩,false,⟨#[]⟩,y,0,0⟩:Nd) W7):=by rw[hW7];exact H6w.set 2 _ _ rfl ⟨H6w.sm.s,H6w.sm.t,H6w.sm.lo,H6w.sm.up,H6w.sm.n,H6w.sm.kind⟩
   go_upto_region 37 with fail
   rw[←hW7]
   clear hW7
   have cH:=H7.e.cell (j:=2) rfl
   go_upto_region 49 with fail
   clear cH
   obtain⟨k0,k1,k2,k3,k4,k5,k6⟩:=And.intro (H7.e.cell (j:=0) rfl) (And.intro (H7.e.cell (j:=1) rfl) (And.intro (H7.e.cell (j:=2) rfl) (And.intro (H7.e.cell (j:=3) rfl) (And.intro (H7.e.cell (j:=4) rfl) (And.intro (H7.e.cell (j:=5) rfl) (H7.e.cell (j:=6) rfl))))))
   obtain⟨l0,l1,l2,l3,l4,l5,l6⟩:=And.intro (H7.r.cell (j:=0) rfl) (And.intro (H7.r.cell (j:=1) rfl) (And.intro (H7.r.cell (j:=2) rfl) (And.intro (H7.r.cell (j:=3) rfl) (And.intro (H7.r.cell (j:=4) rfl) (And.intro (H7.r.cell (j:=5) rfl) (H7.r.cell (j:=6) rfl))))))
   have lf:=H7.r.frozen
   obtain⟨WF,hWF⟩:=qE (set7 W7 w.heap.size (⟨10,⟨#[]⟩,false,⟨#[]⟩,y,0,0⟩:Nd):World)
   have hfin:=H7.fin
   rw[←hWF]at hfin
   obtain⟨hB9,HR⟩:=hfin
   obtain⟨p0,p1,p2,p3,p4,p5,p6⟩:=And.intro (hB9.cell (j:=0) rfl) (And.intro (hB9.cell (j:=1) rfl) (And.intro (hB9.cell (j:=2) rfl) (And.intro (hB9.cell (j:=3) rfl) (And.intro (hB9.cell (j:=4) rfl) (And.intro (hB9.cell (j:=5) rfl) (hB9.cell (j:=6) rfl))))))
   have HRH:Hid (LefP base cb bv n w (.returned (Nd.v (⟨10,⟨#[]⟩,false,⟨#[]⟩,y,0,0⟩:Nd))) WF):=HR
   exact zzQ3
 by_cases x11:x=11
 ·subst x11
  have c2_0:=H2.e.cell (j:=0) rfl
  have z2_0:=H2.e.frozen 0
  obtain⟨W3,hW3⟩:=qE (W2.setCell ⟨eb,0,none⟩ (.int .i64 11):World)
  have H3:Hid (NInv base cb bv n w eb w.heap.size (⟨11,⟨#[]⟩,false,⟨#[]⟩,0,0,0⟩:Nd) W3):=by rw[hW3];exact H2.set 0 _ _ rfl ⟨H2.sm.s,H2.sm.t,H2.sm.lo,H2.sm.up,H2.sm.n,(by show(0:Int)≤11∧(11:Int)≤100000;omega)⟩
  go_upto_region 42 with fail
  rw[←hW3]
  clear hW3
  go_wp2_with fail
  refine(below_core base cb bv n 2 _ H3.d (by omega) (by omega)).mono ?_
  rintro e w4 ⟨y,rfl,hy0,hy1,hd⟩
  have H4w:Hid (NInv base cb bv n w eb w.heap.size (⟨11,⟨#[]⟩,false,⟨#[]⟩,0,0,0⟩:Nd) w4):=H3.call hd
  clear hd
  have c4_6:=H4w.e.cell (j:=6) rfl
  have z4_6:=H4w.e.frozen 6
  obtain⟨W5,hW5⟩:=qE (w4.setCell ⟨eb,6,none⟩ (.int .i64 (1+y)):World)
  have H5:Hid (NInv base cb bv n w eb w.heap.size (⟨11,⟨#[]⟩,false,⟨#[]⟩,0,0,(1+y)⟩:Nd) W5):=by rw[hW5];exact H4w.set 6 _ _ rfl ⟨H4w.sm.s,H4w.sm.t,H4w.sm.lo,H4w.sm.up,(by show 0≤1+y∧1+y≤100000;omega),H4w.sm.kind⟩
  go_upto_region 49 with fail
  rw[←hW5]
  clear hW5
  obtain⟨k0,k1,k2,k3,k4,k5,k6⟩:=And.intro (H5.e.cell (j:=0) rfl) (And.intro (H5.e.cell (j:=1) rfl) (And.intro (H5.e.cell (j:=2) rfl) (And.intro (H5.e.cell (j:=3) rfl) (And.intro (H5.e.cell (j:=4) rfl) (And.intro (H5.e.cell (j:=5) rfl) (H5.e.cell (j:=6) rfl))))))
  obtain⟨l0,l1,l2,l3,l4,l5,l6⟩:=And.intro (H5.r.cell (j:=0) rfl) (And.intro (H5.r.cell (j:=1) rfl) (And.intro (H5.r.cell (j:=2) rfl) (And.intro (H5.r.cell (j:=3) rfl) (And.intro (H5.r.cell (j:=4) rfl) (And.intro (H5.r.cell (j:=5) rfl) (H5.r.cell (j:=6) rfl))))))
  have lf:=H5.r.frozen
  obtain⟨WF,hWF⟩:=qE (set7 W5 w.heap.size (⟨11,⟨#[]⟩,false,⟨#[]⟩,0,0,(1+y)⟩:Nd):World)
  have hfin:=H5.fin
  rw[←hWF]at hfin
  obtain⟨hB9,HR⟩:=hfin
  obtain⟨p0,p1,p2,p3,p4,p5,p6⟩:=And.intro (hB9.cell (j:=0) rfl) (And.intro (hB9.cell (j:=1) rfl) (And.intro (hB9.cell (j:=2) rfl) (And.intro (hB9.cell (j:=3) rfl) (And.intro (hB9.cell (j:=4) rfl) (And.intro (hB9.cell (j:=5) rfl) (hB9.cell (j:=6) rfl))))))
  have HRH:Hid (LefP base cb bv n w (.returned (Nd.v (⟨11,⟨#[]⟩,false,⟨#[]⟩,0,0,(1+y)⟩:Nd))) WF):=HR
  exact zzQ3
 by_cases x12:x=12
 ·subst x12
  have c2_0:=H2.e.cell (j:=0) rfl
  have z2_0:=H2.e.frozen 0
  obtain⟨W3,hW3⟩:=qE (W2.setCell ⟨eb,0,none⟩ (.int .i64 11):World)
  have H3:Hid (NInv base cb bv n w eb w.heap.size (⟨11,⟨#[]⟩,false,⟨#[]⟩,0,0,0⟩:Nd) W3):=by rw[hW3];exact H2.set 0 _ _ rfl ⟨H2.sm.s,H2.sm.t,H2.sm.lo,H2.sm.up,H2.sm.n,(by show(0:Int)≤11∧(11:Int)≤100000;omega)⟩
  go_upto_region 42 with fail
  rw[←hW3]
  clear hW3
  go_wp2_with fail
  refine(below_core base cb bv n 2 _ H3.d (by omega) (by omega)).mono ?_
  rintro e w4 ⟨y,rfl,hy0,hy1,hd⟩
  have H4w:Hid (NInv base cb bv n w eb w.heap.size (⟨11,⟨#[]⟩,false,⟨#[]⟩,0,0,0⟩:Nd) w4):=H3.call hd
  clear hd
  have c4_6:=H4w.e.cell (j:=6) rfl
  have z4_6:=H4w.e.frozen 6
  obtain⟨W5,hW5⟩:=qE (w4.setCell ⟨eb,6,none⟩ (.int .i64 (1+y)):World)
  have H5:Hid (NInv base cb bv n w eb w.heap.size (⟨11,⟨#[]⟩,false,⟨#[]⟩,0,0,(1+y)⟩:Nd) W5):=by rw[hW5];exact H4w.set 6 _ _ rfl ⟨H4w.sm.s,H4w.sm.t,H4w.sm.lo,H4w.sm.up,(by show 0≤1+y∧1+y≤100000;omega),H4w.sm.kind⟩
  go_upto_region 49 with fail
  rw[←hW5]
  clear hW5
  obtain⟨k0,k1,k2,k3,k4,k5,k6⟩:=And.intro (H5.e.cell (j:=0) rfl) (And.intro (H5.e.cell (j:=1) rfl) (And.intro (H5.e.cell (j:=2) rfl) (And.intro (H5.e.cell (j:=3) rfl) (And.intro (H5.e.cell (j:=4) rfl) (And.intro (H5.e.cell (j:=5) rfl) (H5.e.cell (j:=6) rfl))))))
  obtain⟨l0,l1,l2,l3,l4,l5,l6⟩:=And.intro (H5.r.cell (j:=0) rfl) (And.intro (H5.r.cell (j:=1) rfl) (And.intro (H5.r.cell (j:=2) rfl) (And.intro (H5.r.cell (j:=3) rfl) (And.intro (H5.r.cell (j:=4) rfl) (And.intro (H5.r.cell (j:=5) rfl) (H5.r.cell (j:=6) rfl))))))
  have lf:=H5.r.frozen
  obtain⟨WF,hWF⟩:=qE (set7 W5 w.heap.size (⟨11,⟨#[]⟩,false,⟨#[]⟩,0,0,(1+y)⟩:Nd):World)
  have hfin:=H5.fin
  rw[←hWF]at hfin
  obtain⟨hB9,HR⟩:=hfin
  obtain⟨p0,p1,p2,p3,p4,p5,p6⟩:=And.intro (hB9.cell (j:=0) rfl) (And.intro (hB9.cell (j:=1) rfl) (And.intro (hB9.cell (j:=2) rfl) (And.intro (hB9.cell (j:=3) rfl) (And.intro (hB9.cell (j:=4) rfl) (And.intro (hB9.cell (j:=5) rfl) (hB9.cell (j:=6) rfl))))))
  have HRH:Hid (LefP base cb bv n w (.returned (Nd.v (⟨11,⟨#[]⟩,false,⟨#[]⟩,0,0,(1+y)⟩:Nd))) WF):=HR
  exact zzQ3
 by_cases x13:x=13
 ·subst x13
  have c2_0:=H2.e.cell (j:=0) rfl
  have z2_0:=H2.e.frozen 0
  obtain⟨W3,hW3⟩:=qE (W2.setCell ⟨eb,0,none⟩ (.int .i64 12):World)
  have H3:Hid (NInv base cb bv n w eb w.heap.size (⟨12,⟨#[]⟩,false,⟨#[]⟩,0,0,0⟩:Nd) W3):=by rw[hW3];exact H2.set 0 _ _ rfl ⟨H2.sm.s,H2.sm.t,H2.sm.lo,H2.sm.up,H2.sm.n,(by show(0:Int)≤12∧(12:Int)≤100000;omega)⟩
  go_upto_region 45 with fail
  rw[←hW3]
  clear hW3
  go_wp2_with fail
  refine(below_core base cb bv n 4 _ H3.d (by omega) (by omega)).mono ?_
  rintro e w4 ⟨y,rfl,hy0,hy1,hd⟩
  have H4w:Hid (NInv base cb bv n w eb w.heap.size (⟨12,⟨#[]⟩,false,⟨#[]⟩,0,0,0⟩:Nd) w4):=H3.call hd
  clear hd
  have c4_6:=H4w.e.cell (j:=6) rfl
  have z4_6:=H4w.e.frozen 6
  obtain⟨W5,hW5⟩:=qE (w4.setCell ⟨eb,6,none⟩ (.int .i64 (1+y)):World)
  have H5:Hid (NInv base cb bv n w eb w.heap.size (⟨12,⟨#[]⟩,false,⟨#[]⟩,0,0,(1+y)⟩:Nd) W5):=by rw[hW5];exact H4w.set 6 _ _ rfl ⟨H4w.sm.s,H4w.sm.t,H4w.sm.lo,H4w.sm.up,(by show 0≤1+y∧1+y≤100000;omega),H4w.sm.kind⟩
  go_upto_region 49 with fail
  rw[←hW5]
  clear hW5
  obtain⟨k0,k1,k2,k3,k4,k5,k6⟩:=And.intro (H5.e.cell (j:=0) rfl) (And.intro (H5.e.cell (j:=1) rfl) (And.intro (H5.e.cell (j:=2) rfl) (And.intro (H5.e.cell (j:=3) rfl) (And.intro (H5.e.cell (j:=4) rfl) (And.intro (H5.e.cell (j:=5) rfl) (H5.e.cell (j:=6) rfl))))))
  obtain⟨l0,l1,l2,l3,l4,l5,l6⟩:=And.intro (H5.r.cell (j:=0) rfl) (And.intro (H5.r.cell (j:=1) rfl) (And.intro (H5.r.cell (j:=2) rfl) (And.intro (H5.r.cell (j:=3) rfl) (And.intro (H5.r.cell (j:=4) rfl) (And.intro (H5.r.cell (j:=5) rfl) (H5.r.cell (j:=6) rfl))))))
  have lf:=H5.r.frozen
  obtain⟨WF,hWF⟩:=qE (set7 W5 w.heap.size (⟨12,⟨#[]⟩,false,⟨#[]⟩,0,0,(1+y)⟩:Nd):World)
  have hfin:=H5.fin
  rw[←hWF]at hfin
  obtain⟨hB9,HR⟩:=hfin
  obtain⟨p0,p1,p2,p3,p4,p5,p6⟩:=And.intro (hB9.cell (j:=0) rfl) (And.intro (hB9.cell (j:=1) rfl) (And.intro (hB9.cell (j:=2) rfl) (And.intro (hB9.cell (j:=3) rfl) (And.intro (hB9.cell (j:=4) rfl) (And.intro (hB9.cell (j:=5) rfl) (hB9.cell (j:=6) rfl))))))
  have HRH:Hid (LefP base cb bv n w (.returned (Nd.v (⟨12,⟨#[]⟩,false,⟨#[]⟩,0,0,(1+y)⟩:Nd))) WF):=HR
  exact zzQ3
 by_cases x14:x=14
 ·subst x14
  have c2_0:=H2.e.cell (j:=0) rfl
  have z2_0:=H2.e.frozen 0
  obtain⟨W3,hW3⟩:=qE (W2.setCell ⟨eb,0,none⟩ (.int .i64 13):World)
  have H3:Hid (NInv base cb bv n w eb w.heap.size (⟨13,⟨#[]⟩,false,⟨#[]⟩,0,0,0⟩:Nd) W3):=by rw[hW3];exact H2.set 0 _ _ rfl ⟨H2.sm.s,H2.sm.t,H2.sm.lo,H2.sm.up,H2.sm.n,(by show(0:Int)≤13∧(13:Int)≤100000;omega)⟩
  go_upto_region 48 with fail
  rw[←hW3]
  clear hW3
  go_wp2_with fail
  refine(below_core base cb bv n 3 _ H3.d (by omega) (by omega)).mono ?_
  rintro e w4 ⟨y,rfl,hy0,hy1,hd⟩
  have H4w:Hid (NInv base cb bv n w eb w.heap.size (⟨13,⟨#[]⟩,false,⟨#[]⟩,0,0,0⟩:Nd) w4):=H3.call hd
  clear hd
  have c4_6:=H4w.e.cell (j:=6) rfl
  have z4_6:=H4w.e.frozen 6
  obtain⟨W5,hW5⟩:=qE (w4.setCell ⟨eb,6,none⟩ (.int .i64 (1+y)):World)
  have H5:Hid (NInv base cb bv n w eb w.heap.size (⟨13,⟨#[]⟩,false,⟨#[]⟩,0,0,(1+y)⟩:Nd) W5):=by rw[hW5];exact H4w.set 6 _ _ rfl ⟨H4w.sm.s,H4w.sm.t,H4w.sm.lo,H4w.sm.up,(by show 0≤1+y∧1+y≤100000;omega),H4w.sm.kind⟩
  go_upto_region 49 with fail
  rw[←hW5]
  clear hW5
  obtain⟨k0,k1,k2,k3,k4,k5,k6⟩:=And.intro (H5.e.cell (j:=0) rfl) (And.intro (H5.e.cell (j:=1) rfl) (And.intro (H5.e.cell (j:=2) rfl) (And.intro (H5.e.cell (j:=3) rfl) (And.intro (H5.e.cell (j:=4) rfl) (And.intro (H5.e.cell (j:=5) rfl) (H5.e.cell (j:=6) rfl))))))
  obtain⟨l0,l1,l2,l3,l4,l5,l6⟩:=And.intro (H5.r.cell (j:=0) rfl) (And.intro (H5.r.cell (j:=1) rfl) (And.intro (H5.r.cell (j:=2) rfl) (And.intro (H5.r.cell (j:=3) rfl) (And.intro (H5.r.cell (j:=4) rfl) (And.intro (H5.r.cell (j:=5) rfl) (H5.r.cell (j:=6) rfl))))))
  have lf:=H5.r.frozen
  obtain⟨WF,hWF⟩:=qE (set7 W5 w.heap.size (⟨13,⟨#[]⟩,false,⟨#[]⟩,0,0,(1+y)⟩:Nd):World)
  have hfin:=H5.fin
  rw[←hWF]at hfin
  obtain⟨hB9,HR⟩:=hfin
  obtain⟨p0,p1,p2,p3,p4,p5,p6⟩:=And.intro (hB9.cell (j:=0) rfl) (And.intro (hB9.cell (j:=1) rfl) (And.intro (hB9.cell (j:=2) rfl) (And.intro (hB9.cell (j:=3) rfl) (And.intro (hB9.cell (j:=4) rfl) (And.intro (hB9.cell (j:=5) rfl) (hB9.cell (j:=6) rfl))))))
  have HRH:Hid (LefP base cb bv n w (.returned (Nd.v (⟨13,⟨#[]⟩,false,⟨#[]⟩,0,0,(1+y)⟩:Nd))) WF):=HR
  exact zzQ3
 ·obtain rfl:x=15:=by omega
  have c2_0:=H2.e.cell (j:=0) rfl
  have z2_0:=H2.e.frozen 0
  obtain⟨W3,hW3⟩:=qE (W2.setCell ⟨eb,0,none⟩ (.int .i64 1):World)
  have H3:Hid (NInv base cb bv n w eb w.heap.size (⟨1,⟨#[]⟩,false,⟨#[]⟩,0,0,0⟩:Nd) W3):=by rw[hW3];exact H2.set 0 _ _ rfl ⟨H2.sm.s,H2.sm.t,H2.sm.lo,H2.sm.up,H2.sm.n,(by show(0:Int)≤1∧(1:Int)≤100000;omega)⟩
  go_upto_region 49 with fail
  rw[←hW3]
  clear hW3
  obtain⟨k0,k1,k2,k3,k4,k5,k6⟩:=And.intro (H3.e.cell (j:=0) rfl) (And.intro (H3.e.cell (j:=1) rfl) (And.intro (H3.e.cell (j:=2) rfl) (And.intro (H3.e.cell (j:=3) rfl) (And.intro (H3.e.cell (j:=4) rfl) (And.intro (H3.e.cell (j:=5) rfl) (H3.e.cell (j:=6) rfl))))))
  obtain⟨l0,l1,l2,l3,l4,l5,l6⟩:=And.intro (H3.r.cell (j:=0) rfl) (And.intro (H3.r.cell (j:=1) rfl) (And.intro (H3.r.cell (j:=2) rfl) (And.intro (H3.r.cell (j:=3) rfl) (And.intro (H3.r.cell (j:=4) rfl) (And.intro (H3.r.cell (j:=5) rfl) (H3.r.cell (j:=6) rfl))))))
  have lf:=H3.r.frozen
  obtain⟨WF,hWF⟩:=qE (set7 W3 w.heap.size (⟨1,⟨#[]⟩,false,⟨#[]⟩,0,0,0⟩:Nd):World)
  have hfin:=H3.fin
  rw[←hWF]at hfin
  obtain⟨hB9,HR⟩:=hfin
  obtain⟨p0,p1,p2,p3,p4,p5,p6⟩:=And.intro (hB9.cell (j:=0) rfl) (And.intro (hB9.cell (j:=1) rfl) (And.intro (hB9.cell (j:=2) rfl) (And.intro (hB9.cell (j:=3) rfl) (And.intro (hB9.cell (j:=4) rfl) (And.intro (hB9.cell (j:=5) rfl) (hB9.cell (j:=6) rfl))))))
  have HRH:Hid (LefP base cb bv n w (.returned (Nd.v (⟨1,⟨#[]⟩,false,⟨#[]⟩,0,0,0⟩:Nd))) WF):=HR
  exact zzQ3
end Go.Proofs.YtgnpcenpcmdlfaaGreatDoor
namespace Go.Proofs.YtgnpcenpcmdlfaaGreatDoor
set_option linter.unusedVariables false
set_option linter.unusedSimpArgs false
def cut (p:List UInt8) (i k:Nat):List UInt8:=(p.drop i).take (k-i)
theorem cut_nil (p:List UInt8) (i:Nat):cut p i i= []:=by simp[cut]
theorem cut_len {p:List UInt8} {i k:Nat} (h:k≤p.length):(cut p i k).length=k-i:=by
 simp[cut];omega
theorem cut_cat {p:List UInt8} {i j k:Nat} (h1:i≤j) (h2:j≤k):cut p i k=cut p i j++cut p j k:=by
 unfold cut
 have:k-i=(j-i)+(k-j):=by omega
 rw[this,List.take_add,List.drop_drop]
 congr 3
 omega
theorem cut_one {p:List UInt8} {i:Nat} {c:UInt8} (h:p[i]?=some c):cut p i (i+1)= [c]:=by
 have hi:=lt_of_at h
 unfold cut
 rw[List.drop_eq_getElem_cons hi,Nat.add_sub_cancel_left,get_of_at h]
 simp
abbrev special (c:UInt8):Prop:=isEnd c∨c=40∨c=91∨c=46∨c=92
def RepG (A:List UInt8→Pat→Prop) (xs:List UInt8) (t:Pat):Prop:=
 ∃(ys ops:List UInt8) (a:Pat),xs=ys++ops∧A ys a∧(∀c∈ops,isOp c)∧t=(if ops= []then a else .rep a (ops.any (· != 43)) (ops.any (· != 63)))
def SeqG (A:List UInt8→Pat→Prop):List Pat→List UInt8→Prop
 | [],xs=>xs= []
 |t::ts,xs=>∃ys zs,xs=ys++zs∧RepG A ys t∧SeqG A ts zs
def AltG (A:List UInt8→Pat→Prop):List (List Pat)→List UInt8→Prop
 | [],xs=>False
 | [ts],xs=>SeqG A ts xs
 |ts::os,xs=>∃ys zs,xs=ys++124::zs∧SeqG A ts ys∧AltG A os zs
def AtomG:Nat→List UInt8→Pat→Prop
 |0,_,_=>False
 |n+1,xs,t=>(∃c,xs= [c]∧¬special c∧t=.byte c)∨(xs= [46]∧t=.cls (fun _=>true))∨(∃c,xs= [92,c]∧t=.byte c)∨
   (∃ys os,xs=40::ys++ [41]∧AltG (AtomG n) os ys∧t=.alt os)∨(∃p i k f,p[i]?=some 91∧classM p (i+1)=.inl (f,k)∧xs=cut p i k∧t=.cls f)
theorem RepG.mono {A B:List UInt8→Pat→Prop} (h:∀xs t,A xs t→B xs t) {xs:List UInt8} {t:Pat}:RepG A xs t→RepG B xs t:=fun⟨ys,ops,a,h1,h2,h3,h4⟩=>⟨ys,ops,a,h1,h _ _ h2,h3,h4⟩
theorem SeqG.mono {A B:List UInt8→Pat→Prop} (h:∀xs t,A xs t→B xs t):∀{ts:List Pat} {xs:List UInt8},SeqG A ts xs→SeqG B ts xs
 | [],_,q=>q
 |_::_,_,⟨ys,zs,h1,h2,h3⟩=>⟨ys,zs,h1,h2.mono h,SeqG.mono h h3⟩
theorem AltG.mono {A B:List UInt8→Pat→Prop} (h:∀xs t,A xs t→B xs t):∀{os:List (List Pat)} {xs:List UInt8},AltG A os xs→AltG B os xs
 | [],_,q=>q
 | [_],_,q=>SeqG.mono h q
 |_::_::_,_,⟨ys,zs,h1,h2,h3⟩=>⟨ys,zs,h1,h2.mono h,AltG.mono h h3⟩
theorem AtomG.mono:∀{n m:Nat} {xs:List UInt8} {t:Pat},n≤m→AtomG n xs t→AtomG m xs t
 |0,_,_,_,_,h=>h.elim
 |n+1,0,_,_,hm,_=>by omega
 |n+1,m+1,xs,t,hm,h=>by
  rcases h with h|h|h|⟨ys,os,h1,h2,h3⟩|h
  ·exact .inl h
  ·exact .inr (.inl h)
  ·exact .inr (.inr (.inl h))
  ·exact .inr (.inr (.inr (.inl ⟨ys,os,h1,h2.mono (fun _ _ q=>AtomG.mono (by omega) q),h3⟩)))
  ·exact .inr (.inr (.inr (.inr h)))
theorem SeqG.snoc {A:List UInt8→Pat→Prop}:∀{ts:List Pat} {xs ys:List UInt8} {t:Pat},SeqG A ts xs→RepG A ys t→SeqG A (ts++ [t]) (xs++ys)
 | [],xs,ys,t,h,k=>by subst h;exact⟨ys,[],by simp,k,rfl⟩
 |s::ts,xs,ys,t,⟨us,vs,h1,h2,h3⟩,k=>⟨us,vs++ys,by rw[h1];simp,h2,SeqG.snoc h3 k⟩
theorem AltG.snoc {A:List UInt8→Pat→Prop}:∀{os:List (List Pat)} {xs ys:List UInt8} {ts:List Pat},AltG A os xs→SeqG A ts ys→AltG A (os++ [ts]) (xs++124::ys)
 | [],_,_,_,h,_=>h.elim
 | [s],xs,ys,ts,h,k=>⟨xs,ys,rfl,h,k⟩
 |s::o::os,xs,ys,ts,⟨us,vs,h1,h2,h3⟩,k=>⟨us,vs++124::ys,by rw[h1];simp,h2,AltG.snoc h3 k⟩
structure AtomOk (p:List UInt8) (o i k:Nat) (t:Pat):Prop where
 lt:i<k
 le:k≤p.length
 chk:∀a,chkM p i o a=chkM p k o true
 gr:∃n,AtomG n (cut p i k) t
structure RepOk (p:List UInt8) (o i k:Nat) (t:Pat):Prop where
 lt:i<k
 le:k≤p.length
 chk:∀a,chkM p i o a=chkM p k o true
 next:∀c,p[k]?=some c→¬isOp c
 gr:∃n,RepG (AtomG n) (cut p i k) t
structure SeqOk (p:List UInt8) (o i k:Nat) (ts:List Pat):Prop where
 lei:i≤k
 le:k≤p.length
 chk:chkM p i o false=chkM p k o false
 gr:∃n,SeqG (AtomG n) ts (cut p i k)
structure AltOk (p:List UInt8) (o i k:Nat) (os:List (List Pat)):Prop where
 lei:i≤k
 le:k≤p.length
 chk:chkM p i o false=chkM p k o false
 gr:∃n,AltG (AtomG n) os (cut p i k)
theorem SeqOk.nil {p:List UInt8} {o i:Nat} (h:i≤p.length):SeqOk p o i i []:=⟨Nat.le_refl _,h,rfl,0,cut_nil p i⟩
theorem SeqOk.more {p:List UInt8} {o i j k:Nat} {ts:List Pat} {t:Pat} (h:SeqOk p o i j ts) (r:RepOk p o j k t):SeqOk p o i k (ts++ [t]):=by
 obtain⟨n,hn⟩:=h.gr
 obtain⟨m,hm⟩:=r.gr
 refine⟨Nat.le_trans h.lei (Nat.le_of_lt r.lt),r.le,?_,max n m,?_⟩
 ·rw[h.chk,r.chk,chk_flag r.next]
 ·rw[cut_cat h.lei (Nat.le_of_lt r.lt)]
  exact zzQ82
theorem AltOk.one {p:List UInt8} {o i k:Nat} {ts:List Pat} (h:SeqOk p o i k ts):AltOk p o i k [ts]:=⟨h.lei,h.le,h.chk,h.gr⟩
theorem AltOk.more {p:List UInt8} {o i j k:Nat} {os:List (List Pat)} {ts:List Pat} (h:AltOk p o i j os) (hb:p[j]?=some 124) (s:SeqOk p o (j+1) k ts):AltOk p o i k (os++ [ts]):=by
 obtain⟨n,hn⟩:=h.gr
 obtain⟨m,hm⟩:=s.gr
 have hl:=s.lei
 refine⟨Nat.le_trans h.lei (by omega),s.le,?_,max n m,?_⟩
 ·rw[h.chk,chk_bar hb,s.chk]
 ·rw[cut_cat h.lei (show j≤k by omega),cut_cat (show j≤j+1 by omega) hl,cut_one hb]
  exact zzQ82
theorem AtomOk.group {p:List UInt8} {o i j:Nat} {os:List (List Pat)} (h:p[i]?=some 40) (ho:¬o=20) (a:AltOk p (o+1) (i+1) j os) (hj:p[j]?=some 41):AtomOk p o i (j+1) (.alt os):=by
 obtain⟨n,hn⟩:=a.gr
 have hl:=a.lei
 refine⟨by omega,lt_of_at hj,fun b=>?_,n+1,.inr (.inr (.inr (.inl ⟨_,os,?_,hn,rfl⟩)))⟩
 ·rw[chk_open h,if_neg ho,a.chk,chk_close hj,if_neg (by omega),Nat.add_sub_cancel]
 ·rw[cut_cat (show i≤i+1 by omega) (show i+1≤j+1 by omega),cut_one h,cut_cat hl (show j≤j+1 by omega),cut_one hj]
  simp
theorem AtomOk.plain {p:List UInt8} {o i:Nat} {c:UInt8} (h:p[i]?=some c) (hc:¬special c):AtomOk p o i (i+1) (.byte c):=by
 refine⟨by omega,lt_of_at h,fun a=>chk_plain h (fun q=>hc (.inl q)) (fun q=>hc (.inr (.inl q))) (fun q=>hc (.inr (.inr (.inl q)))) (fun q=>hc (.inr (.inr (.inr (.inr q))))),1,.inl ⟨c,cut_one h,hc,rfl⟩⟩
theorem AtomOk.dot {p:List UInt8} {o i:Nat} (h:p[i]?=some 46):AtomOk p o i (i+1) (.cls (fun _=>true)):=by
 refine⟨by omega,lt_of_at h,fun a=>chk_plain h (by decide) (by decide) (by decide) (by decide),1,.inr (.inl ⟨cut_one h,rfl⟩)⟩
theorem AtomOk.esc {p:List UInt8} {o i:Nat} {c:UInt8} (h:p[i]?=some 92) (hc:p[i+1]?=some c):AtomOk p o i (i+1+1) (.byte c):=by
 have hl:=lt_of_at hc
 refine⟨by omega,hl,fun a=>by rw[chk_esc h,if_neg (by omega)],1,.inr (.inr (.inl ⟨c,?_,rfl⟩))⟩
 rw[cut_cat (show i≤i+1 by omega) (show i+1≤i+1+1 by omega),cut_one h,cut_one hc]
 rfl
theorem AtomOk.class {p:List UInt8} {o i k:Nat} {f:UInt8→Bool} (h:p[i]?=some 91) (hc:classM p (i+1)=.inl (f,k)):AtomOk p o i k (.cls f):=by
 have hl:=classM_gt hc
 exact⟨by omega,hl.2,fun a=>by rw[chk_class h,hc],1,.inr (.inr (.inr (.inr ⟨p,i,k,f,h,hc,rfl,rfl⟩)))⟩
structure OpsOk (p:List UInt8) (o i j k:Nat) (a:Pat) (op rp:Bool):Prop where
 atom:AtomOk p o i j a
 lt:j≤k
 le:k≤p.length
 chk:chkM p j o true=chkM p k o true
 ops:∀c∈cut p j k,isOp c
 opt:op=(cut p j k).any (· != 43)
 rpt:rp=(cut p j k).any (· != 63)
theorem OpsOk.zero {p:List UInt8} {o i j:Nat} {a:Pat} (h:AtomOk p o i j a):OpsOk p o i j j a false false:=
 ⟨h,Nat.le_refl _,h.le,rfl,by rw[cut_nil];simp,by rw[cut_nil];rfl,by rw[cut_nil];rfl⟩
theorem OpsOk.more {p:List UInt8} {o i j k:Nat} {a:Pat} {op rp:Bool} {c:UInt8} (h:OpsOk p o i j k a op rp) (hc:p[k]?=some c) (hop:isOp c):OpsOk p o i j (k+1) a (op || c != 43) (rp || c != 63):=by
 have hcut:cut p j (k+1)=cut p j k++ [c]:=by rw[cut_cat h.lt (show k≤k+1 by omega),cut_one hc]
 refine⟨h.atom,by have:=h.lt;omega,lt_of_at hc,?_,?_,?_,?_⟩
 ·rw[h.chk,chk_op hc hop,if_pos rfl]
 ·rw[hcut]
  intro d hd
  rcases List.mem_append.1 hd with hd|hd
  ·exact h.ops d hd
  ·simp at hd;subst hd;exact hop
 ·rw[hcut,List.any_append,←h.opt];simp
 ·rw[hcut,List.any_append,←h.rpt];simp
theorem OpsOk.rep {p:List UInt8} {o i j k:Nat} {a:Pat} {op rp:Bool} (h:OpsOk p o i j k a op rp) (hn:∀c,p[k]?=some c→¬isOp c):RepOk p o i k (if j=k then a else .rep a op rp):=by
 obtain⟨n,hg⟩:=h.atom.gr
 have h1:=h.atom.lt
 have h2:=h.lt
 refine⟨by omega,h.le,fun b=>by rw[h.atom.chk,h.chk],hn,n,cut p i j,cut p j k,a,cut_cat (by omega) h2,hg,h.ops,?_⟩
 by_cases hjk:j=k
 ·subst hjk;rw[if_pos rfl,if_pos (cut_nil p j)]
 ·have:¬cut p j k= []:=fun q=>by have:=cut_len (p:=p) (i:=j) h.le;rw[q]at this;simp at this;omega
  rw[if_neg hjk,if_neg this,←h.opt,←h.rpt]
end Go.Proofs.YtgnpcenpcmdlfaaGreatDoor
