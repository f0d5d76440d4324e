import Derived.Test.YtgnpcenpcmdlfaaGreatDoorWkAA
import Derived.Test.YtgnpcenpcmdlfaaGreatDoorWkAB
import Derived.Test.YtgnpcenpcmdlfaaGreatDoorWkAD
import Derived.Test.YtgnpcenpcmdlfaaGreatDoorWkAE
import Derived.Lib.AppendStr
import Derived.Lib.OthersKept
import Derived.Lib.OwnKind
import Derived.Deep.RegionHeld3
namespace Go.Proofs.YtgnpcenpcmdlfaaGreatDoor
open Go.ChangeShapes Go.WideShapes Go.ChangeAt Go.RowKit Go.Deep
set_option linter.unusedVariables false
set_option linter.unusedSimpArgs false
set_option maxRecDepth 100000
theorem run_append_ys (w:World) (ty:TypeId) (base b off cx:Nat) (v:Value) (l k:List UInt8) (hO:OwnS w base v l)
  (hc:BysAt w b off k) (hlen:l.length+k.length≤2^30) (hbase:base≤w.heap.size):
  ∃v' w',(Builtin.append_ #[22,22] ty #[v,.slice (some ⟨b,off,none⟩) k.length cx]).run Tryz.prog w=.ok v' w'∧OwnS w' base v' (l++k)∧w.grownBy w' v.ownBlock:=by
 obtain⟨i,hi,hz0,hz1,hz2⟩:=info_parts Tryz.infoByte
 obtain⟨v',w',hr,hO',hg,_⟩:=run_append_own (P:=Tryz.prog) w base 22 ty 5 i _ 1 1 Tryz.underlying22 hi hz0 hz1 hz2 rfl (by decide) v l.length (l.map ub) hO ⟨b,off,none⟩ k.length cx (k.map ub) (by simp) (fun j u hu=>by
  rw[List.getElem?_map]at hu
  cases hk:k[j]? with
  |none=>rw[hk]at hu;cases hu
  |some r=>
   rw[hk]at hu
   simp at hu
   rw[Addr.add_mid,hc j r hk,←hu]) (ub_one k) (by unfold maxLen;omega) (by omega) hbase
 refine⟨v',w',hr,?_,hg⟩
 unfold OwnS
 rw[List.length_append,List.map_append]
 exact hO'
theorem run_append_st (w:World) (ty:TypeId) (base:Nat) (v:Value) (l:List UInt8) (s:ByteArray) (hO:OwnS w base v l) (hlen:l.length+s.size≤2^30) (hbase:base≤w.heap.size):
  ∃v' w',(Builtin.append_ #[22,9] ty #[v,.string s]).run Tryz.prog w=.ok v' w'∧OwnS w' base v' (l++bl s)∧w.grownBy w' v.ownBlock:=by
 obtain⟨i,hi,hz0,hz1,hz2⟩:=info_parts Tryz.infoByte
 obtain⟨v',w',hr,hO',hg,_⟩:=Lib.run_append_own_string (P:=Tryz.prog) w base 22 9 ty 5 i Tryz.underlying22 Tryz.underlying9 hi hz0 hz1 hz2 v l.length (l.map ub) hO s (by unfold maxLen;omega) (by omega) hbase
 refine⟨v',w',hr,?_,hg⟩
 unfold OwnS
 rw[List.length_append,List.map_append,bl_len]
 exact hO'
theorem wpList_append_ys {ops:Array Oper} {rest:List Oper} {o:Oper} {a:Act} {Q:Exit→Act→World→Prop} (w:World) (hgd:o.guard=none) (s x:Operand)
  (ho:o.op=.call {callee:=.builtin .append,args:=#[s,x],argTypes:=#[22,22]})
  (base b off m cx:Nat) (v:Value) (l k:List UInt8) (hs:a.eval s=v) (hx:a.eval x=.slice (some ⟨b,off,none⟩) m cx) (hm:m=k.length) (hO:OwnS w base v l)
  (hc:BysAt w b off k) (hlen:l.length+k.length≤2^30) (hbase:base≤w.heap.size)
  (h:∀v' w',OwnS w' base v' (l++k)→w.grownBy w' v.ownBlock→wpList Tryz.prog ops Q rest (a.put o.dst v') w'):wpList Tryz.prog ops Q (o::rest) a w:=by
 subst hm
 refine wpList_plain hgd fun K hK=>?_
 obtain⟨v',w',hr,h1,h2⟩:=run_append_ys w o.type base b off cx v l k hO hc hlen hbase
 exact zzQ61
theorem step_append_ys {ops:Array Oper} {oo:Oper} {a:Act} {K:Act→World→Prop} {Q:Exit→Act→World→Prop} {E:Prop} (w:World) (hgd:oo.guard=none) (s x:Operand)
  (ho:oo.op=.call {callee:=.builtin .append,args:=#[s,x],argTypes:=#[22,22]})
  (base b off m cx:Nat) (v:Value) (l k:List UInt8) (hs:a.eval s=v) (hx:a.eval x=.slice (some ⟨b,off,none⟩) m cx) (hm:m=k.length) (hO:OwnS w base v l)
  (hc:BysAt w b off k) (hlen:l.length+k.length≤2^30) (hbase:base≤w.heap.size)
  (h:∀v' w',OwnS w' base v' (l++k)→w.grownBy w' v.ownBlock→K (a.put oo.dst v') w'):if Region.wanted oo (yielded ops a.tmps)=true then Oper.wp Tryz.prog oo a w K Q else E:=by
 subst hm
 obtain⟨v',w',hr,h1,h2⟩:=run_append_ys w oo.type base b off cx v l k hO hc hlen hbase
 exact zzQ55
theorem wpList_append_st {ops:Array Oper} {rest:List Oper} {o:Oper} {a:Act} {Q:Exit→Act→World→Prop} (w:World) (hgd:o.guard=none) (sl x:Operand)
  (ho:o.op=.call {callee:=.builtin .append,args:=#[sl,x],argTypes:=#[22,9]})
  (base:Nat) (v:Value) (l:List UInt8) (s:ByteArray) (hs:a.eval sl=v) (hx:a.eval x=.string s) (hO:OwnS w base v l) (hlen:l.length+s.size≤2^30) (hbase:base≤w.heap.size)
  (h:∀v' w',OwnS w' base v' (l++bl s)→w.grownBy w' v.ownBlock→wpList Tryz.prog ops Q rest (a.put o.dst v') w'):wpList Tryz.prog ops Q (o::rest) a w:=by
 refine wpList_plain hgd fun K hK=>?_
 obtain⟨v',w',hr,h1,h2⟩:=run_append_st w o.type base v l s hO hlen hbase
 exact zzQ61
theorem step_append_st {ops:Array Oper} {oo:Oper} {a:Act} {K:Act→World→Prop} {Q:Exit→Act→World→Prop} {E:Prop} (w:World) (hgd:oo.guard=none) (sl x:Operand)
  (ho:oo.op=.call {callee:=.builtin .append,args:=#[sl,x],argTypes:=#[22,9]})
  (base:Nat) (v:Value) (l:List UInt8) (s:ByteArray) (hs:a.eval sl=v) (hx:a.eval x=.string s) (hO:OwnS w base v l) (hlen:l.length+s.size≤2^30) (hbase:base≤w.heap.size)
  (h:∀v' w',OwnS w' base v' (l++bl s)→w.grownBy w' v.ownBlock→K (a.put oo.dst v') w'):if Region.wanted oo (yielded ops a.tmps)=true then Oper.wp Tryz.prog oo a w K Q else E:=by
 obtain⟨v',w',hr,h1,h2⟩:=run_append_st w oo.type base v l s hO hlen hbase
 exact zzQ55
theorem OwnS.next {w0 w w':World} {base:Nat} {v:Value} {l:List UInt8} (hO:OwnS w base v l) (h:Below base w0 w) (hb:base≤w.heap.size) (hgr:w.grownBy w' v.ownBlock):Below base w0 w':=h.grown hgr hb (fun j hj=>(hO.row j hj).1)
theorem OwnS.below {w w':World} {base:Nat} {v:Value} {l:List UInt8} (h:OwnS w base v l) (hb:Below w.heap.size w w'):OwnS w' base v l:=h.chg (Chg.of_below hb) (S:=fun _=>False) (fun _ _ q=>q)
structure Fr (base:Nat) (w w':World):Prop where
 below:Below base w w'
 kept:Lib.OthersKept 5 none w w'
theorem Fr.refl (base:Nat) (w:World):Fr base w w:=⟨Below.refl _ _,Lib.OthersKept.refl _ _ _⟩
theorem Fr.trans {base:Nat} {a b c:World} (h:Fr base a b) (k:Fr base b c):Fr base a c:=⟨h.below.trans k.below,h.kept.trans k.kept⟩
theorem kept_of_below {w w':World} (h:Below w.heap.size w w'):Lib.OthersKept 5 none w w':=fun k o hk _ _=>by
 rw[h.block k (Array.getElem?_eq_some_iff.1 hk).1];exact hk
theorem Fr.step {base:Nat} {a w w':World} (h:Fr base a w) (hb:Below w.heap.size w w') (hB:base≤w.heap.size):Fr base a w':=⟨h.below.trans (hb.mono hB),h.kept.trans (kept_of_below hb)⟩
theorem OwnS.nextF {w0 w w':World} {base:Nat} {v:Value} {l:List UInt8} (hO:OwnS w base v l) (h:Fr base w0 w) (hb:base≤w.heap.size) (hgr:w.grownBy w' v.ownBlock):Fr base w0 w':=
 ⟨hO.next h.below hb hgr,h.kept.grown hgr (Lib.ownsRow_kind hO)⟩
theorem Fr.box {base t sz g bb:Nat} {vs:List Value} {w w':World} (h:Fr base w w') (hB:BoxAt w bb t sz g vs) (ht:t≠5):BoxAt w' bb t sz g vs:=by
 refine⟨hB.1,?_⟩
 rcases hB.2 with q|⟨g',cap',cur,hv,h1,h2,rest⟩
 ·exact .inl q
 ·exact .inr ⟨g',cap',cur,hv,h1,h.kept g' _ h2 (by simp) (fun c fz q=>ht (by injection q)),rest⟩
def AppP (base:Nat) (l:List UInt8) (w:World) (r:Ending) (w':World):Prop:=∃v,r=.returned v∧OwnS w' base v l∧Fr base w w'
set_option maxHeartbeats 400000 in
theorem isPlain_core (x:UInt8) (w:World):Calls Tryz.prog 92 #[.int .u8 (x.toNat:Int)] w fun e w'=>e=.returned (.bool (decide (32≤x.toNat∧x.toNat≤126)))∧w'=w:=by
 have hx:=x.toNat_lt
 by_cases h1:32≤x.toNat
 ·have z1:(32:Int)≤(x.toNat:Int):=by omega
  by_cases h2:x.toNat≤126
  ·have z2:(x.toNat:Int)≤126:=by omega
   have H:Hid (decide (32≤x.toNat∧x.toNat≤126)=true):=by show _=_;simp[h1,h2]
   exact zzQ84
  ·have z2:¬(x.toNat:Int)≤126:=by omega
   have H:Hid (decide (32≤x.toNat∧x.toNat≤126)=false):=by show _=_;simp[h1,h2]
   exact zzQ84
 ·have z1:¬(32:Int)≤(x.toNat:Int):=by omega
  have H:Hid (decide (32≤x.toNat∧x.toNat≤126)=false):=by show _=_;simp[h1]
  go_enter Tryz.func92,Tryz.ntmps92
  go_wp2_with fail
  go_ret
  exact⟨by first|rfl|(rw[H.out]),rfl⟩
theorem and15 (x:UInt8):bits .and .u8 (x.toNat:Int) 15=((x.toNat%16:Nat):Int):=by
 have hb:∀y:Fin 256,bits .and .u8 ((y.val:Nat):Int) 15=((y.val%16:Nat):Int):=by decide
 exact hb ⟨x.toNat,x.toNat_lt⟩
set_option maxHeartbeats 4000000 in
theorem appendQuoted_core (base:Nat) (v:Value) (l:List UInt8) (s:ByteArray) (w:World) (hO:OwnS w base v l) (hl:l.length≤1000000) (hs:s.size≤1000000) (hb:base≤w.heap.size):
  Calls Tryz.prog 103 #[v,.string s] w (AppP base (l++quoM (bl s)) w):=by
 obtain⟨W1,hW1⟩:=qE (w.alloc (Obj.cells #[.int .u8 34] 5):World)
 have hb1:Below w.heap.size w W1:=by rw[hW1];exact qB
 have s1:=hb1.size
 have HO1:Hid (OwnS W1 base v l∧Fr base w W1∧BysAt W1 w.heap.size 0 [34]):=by
  refine⟨hO.below hb1,Fr.step (Fr.refl _ _) hb1 hb,?_⟩
  rw[hW1]
  exact bys_new w _ [34] rfl
 clear hb1 hO
 go_enter Tryz.func103,Tryz.ntmps103
 go_wp2_with (at_builtin;(try rw[←hW1]);refine wpList_append_ys _ rfl _ _ rfl base w.heap.size 0 1 1 v l [34] rfl rfl rfl HO1.1 HO1.2.2 ?hl ?hb ?_)
 case hl=>(show l.length+1≤_;omega)
 case hb=>omega
 intro v1 w1 hW1' hgr1
 have hgr2:W1.grownBy w1 v.ownBlock:=by first|exact hgr1|(rw[hW1];exact hgr1)
 have HO2:Hid (OwnS w1 base v1 (l++ [34])∧Fr base w w1):=⟨hW1',HO1.1.nextF HO1.2.1 (by omega) hgr2⟩
 clear hW1' hgr1 hgr2 hW1 HO1
 go_wp2_with fail
 go_loopw[0,5] (fun tv iv wr=>∃(k:Nat) (X:List UInt8),k≤s.size∧iv=.int .i64 k∧Hid (X=l++ [34]++quoL ((bl s).take k))∧X.length≤l.length+1+4*k∧OwnS wr base tv X∧Fr base w wr) (fun _ iv _=>s.size-(intOf iv).toNat)
 case atStart=>exact⟨0,l++ [34],Nat.zero_le _,rfl,by show _=_;simp[quoL],by simp,HO2.1,HO2.2⟩
 case round=>
  clear HO2
  obtain⟨k,X,hk,rfl,HX,hxl,hW,hbr⟩:=hrel
  have HW:Hid (OwnS wr base u0 X∧Fr base w wr):=⟨hW,hbr⟩
  have sr:=hbr.below.size
  clear hW hbr
  by_cases hlt:k<s.size
  ·have z:(k:Int)<(s.size:Int):=by omega
   obtain⟨x,hx⟩:∃x,(bl s)[k]?=some x:=⟨_,List.getElem?_eq_getElem (by rw[bl_len];exact hlt)⟩
   have gx:=bl_get hlt hx
   have HX2:Hid (l++ [34]++quoL ((bl s).take (k+1))=X++qByte x):=by
    show _=_
    rw[List.take_add_one,hx,HX.out,Option.toList,quoL_snoc,List.append_assoc (l++ [34])]
   have hx8:x.toNat<256:=x.toNat_lt
   clear hx
   by_cases h34:x.toNat=34
   ·obtain rfl:x=34:=UInt8.toNat_inj.1 h34
    have HQ:Hid (qByte 34= [92,34]):=by show _=_;decide
    obtain⟨W2,hW2⟩:=qE (wr.alloc (Obj.cells #[.int .u8 92,.int .u8 34] 5):World)
    have hb2:Below wr.heap.size wr W2:=by rw[hW2];exact qB
    have s2:=hb2.size
    have HW2:Hid (OwnS W2 base u0 X∧Fr base w W2∧BysAt W2 wr.heap.size 0 [92,34]):=by
     refine⟨HW.1.below hb2,HW.2.step hb2 (by omega),?_⟩
     rw[hW2];exact bys_new wr _ [92,34] rfl
    clear hb2
    go_wp2_with (at_builtin;(try rw[←hW2]);refine wpList_append_ys _ rfl _ _ rfl base wr.heap.size 0 2 2 u0 X [92,34] rfl rfl rfl HW2.1 HW2.2.2 ?hl ?hb ?_)
    case hl=>(show X.length+2≤_;omega)
    case hb=>omega
    intro v' w' hW' hgr
    have hgr2:W2.grownBy w' u0.ownBlock:=by first|exact hgr|(rw[hW2];exact hgr)
    have HR:Hid (OwnS w' base v' (X++ [92,34])∧Fr base w w'∧(X++ [92,34]).length≤l.length+1+4*(k+1)∧X++ [92,34]=l++ [34]++quoL ((bl s).take (k+1))):=⟨hW',HW2.1.nextF HW2.2.1 (by omega) hgr2,by rw[List.length_append];show X.length+2≤_;omega,by rw[HX2.out,HQ.out]⟩
    clear hW' hgr hgr2 hW2
    go_wp2_with fail
    go_roundw
    case rel=>exact⟨k+1,X++ [92,34],by omega,by go_num,HR.2.2.2,HR.2.2.1,HR.1,HR.2.1⟩
    case measure=>simp[intOf];omega
   by_cases h92:x.toNat=92
   ·obtain rfl:x=92:=UInt8.toNat_inj.1 h92
    have HQ:Hid (qByte 92= [92,92]):=by show _=_;decide
    obtain⟨W2,hW2⟩:=qE (wr.alloc (Obj.cells #[.int .u8 92,.int .u8 92] 5):World)
    have hb2:Below wr.heap.size wr W2:=by rw[hW2];exact qB
    have s2:=hb2.size
    have HW2:Hid (OwnS W2 base u0 X∧Fr base w W2∧BysAt W2 wr.heap.size 0 [92,92]):=by
     refine⟨HW.1.below hb2,HW.2.step hb2 (by omega),?_⟩
     rw[hW2];exact bys_new wr _ [92,92] rfl
    clear hb2
    go_wp2_with (at_builtin;(try rw[←hW2]);refine wpList_append_ys _ rfl _ _ rfl base wr.heap.size 0 2 2 u0 X [92,92] rfl rfl rfl HW2.1 HW2.2.2 ?hl ?hb ?_)
    case hl=>(show X.length+2≤_;omega)
    case hb=>omega
    intro v' w' hW' hgr
    have hgr2:W2.grownBy w' u0.ownBlock:=by first|exact hgr|(rw[hW2];exact hgr)
    have HR:Hid (OwnS w' base v' (X++ [92,92])∧Fr base w w'∧(X++ [92,92]).length≤l.length+1+4*(k+1)∧X++ [92,92]=l++ [34]++quoL ((bl s).take (k+1))):=⟨hW',HW2.1.nextF HW2.2.1 (by omega) hgr2,by rw[List.length_append];show X.length+2≤_;omega,by rw[HX2.out,HQ.out]⟩
    clear hW' hgr hgr2 hW2
    go_wp2_with fail
    go_roundw
    case rel=>exact⟨k+1,X++ [92,92],by omega,by go_num,HR.2.2.2,HR.2.2.1,HR.1,HR.2.1⟩
    case measure=>simp[intOf];omega
   have z34:((x.toNat:Int)==34)=false:=by rw[beq_eq_false_iff_ne];omega
   have z92:((x.toNat:Int)==92)=false:=by rw[beq_eq_false_iff_ne];omega
   by_cases h2:32≤x.toNat∧x.toNat≤126
   ·have HPl:Hid (∀W,Calls Tryz.prog 92 #[.int .u8 (x.toNat:Int)] W fun e w'=>e=.returned (.bool true)∧w'=W):=fun W=>by
     have:=isPlain_core x W
     rw[show decide (32≤x.toNat∧x.toNat≤126)=true by simp[h2]]at this
     exact this
    have HQ:Hid (qByte x= [x]):=by show _=_;unfold qByte;rw[if_neg (by omega),if_pos h2]
    clear h2
    obtain⟨W2,hW2⟩:=qE (wr.alloc (Obj.cells #[.int .u8 (x.toNat:Int)] 5):World)
    have hb2:Below wr.heap.size wr W2:=by rw[hW2];exact qB
    have s2:=hb2.size
    have HW2:Hid (OwnS W2 base u0 X∧Fr base w W2∧BysAt W2 wr.heap.size 0 [x]):=by
     refine⟨HW.1.below hb2,HW.2.step hb2 (by omega),?_⟩
     rw[hW2];exact bys_new wr _ [x] rfl
    clear hb2
    go_wp2_with fail
    refine(HPl.out _).mono ?_
    rintro r w9 ⟨rfl,hw9⟩
    rw[hw9]
    clear hw9
    go_wp2_with (at_builtin;(try rw[←hW2]);refine wpList_append_ys _ rfl _ _ rfl base wr.heap.size 0 1 1 u0 X [x] rfl rfl rfl HW2.1 HW2.2.2 ?hl ?hb ?_)
    case hl=>(show X.length+1≤_;omega)
    case hb=>omega
    intro v' w' hW' hgr
    have hgr2:W2.grownBy w' u0.ownBlock:=by first|exact hgr|(rw[hW2];exact hgr)
    have HR:Hid (OwnS w' base v' (X++ [x])∧Fr base w w'∧(X++ [x]).length≤l.length+1+4*(k+1)∧X++ [x]=l++ [34]++quoL ((bl s).take (k+1))):=⟨hW',HW2.1.nextF HW2.2.1 (by omega) hgr2,by rw[List.length_append];show X.length+1≤_;omega,by rw[HX2.out,HQ.out]⟩
    clear hW' hgr hgr2 hW2
    go_wp2_with fail
    go_roundw
    case rel=>exact⟨k+1,X++ [x],by omega,by go_num,HR.2.2.2,HR.2.2.1,HR.1,HR.2.1⟩
    case measure=>simp[intOf];omega
   have HPl:Hid (∀W,Calls Tryz.prog 92 #[.int .u8 (x.toNat:Int)] W fun e w'=>e=.returned (.bool false)∧w'=W):=fun W=>by
    have:=isPlain_core x W
    rw[show decide (32≤x.toNat∧x.toNat≤126)=false by simp only[h2,decide_false]]at this
    exact this
   obtain⟨d,hd⟩:=qE (x.toNat/16)
   obtain⟨f,hf⟩:=qE (x.toNat%16)
   have hdl:d<16:=by omega
   have hfl:f<16:=by omega
   have zdl:(d:Int)<16:=by omega
   have zfl:(f:Int)<16:=by omega
   obtain⟨d1,hd1⟩:=qE (hexB d)
   obtain⟨d2,hd2⟩:=qE (hexB f)
   have HD:Hid (IntKind.u8.wrap ((x.toNat:Int)/16)=(d:Int)∧bits .and .u8 (x.toNat:Int) 15=(f:Int)∧(⟨#[48,49,50,51,52,53,54,55,56,57,97,98,99,100,101,102]⟩:ByteArray)[d]'hdl=d1∧(⟨#[48,49,50,51,52,53,54,55,56,57,97,98,99,100,101,102]⟩:ByteArray)[f]'hfl=d2):=⟨by rw[wrap_div16,hd],by rw[and15,hf],by rw[hex_at,hd1],by rw[hex_at,hd2]⟩
   have HQ:Hid (qByte x= [92,120,d1,d2]):=by show _=_;unfold qByte;rw[if_neg (by omega),if_neg h2,←hd,←hf,hd1,hd2]
   obtain⟨W2,hW2⟩:=qE ((wr.alloc (Obj.cells #[.int .u8 92,.int .u8 120,.int .u8 (d1.toNat:Int),.int .u8 (d2.toNat:Int)] 5)).drew:World)
   have hb2:Below wr.heap.size wr W2:=by rw[hW2];exact(qB).drew
   have s2:=hb2.size
   have HW2:Hid (OwnS W2 base u0 X∧Fr base w W2∧BysAt W2 wr.heap.size 0 [92,120,d1,d2]):=by
    refine⟨HW.1.below hb2,HW.2.step hb2 (by omega),?_⟩
    rw[hW2];exact fun i y hy=>bys_new wr _ [92,120,d1,d2] rfl i y hy
   have zq:Hid ((x.toNat:Int)/16=(d:Int)):=by show _=_;omega
   clear hb2 hd hf hd1 hd2 h2
   go_wp2_with fail
   refine(HPl.out _).mono ?_
   rintro r w9 ⟨rfl,hw9⟩
   rw[hw9]
   clear hw9
   go_upto_region 6 with fail
   refine wp_region_T 9 (fun _=>True) (by kernel_rfl) ?_
   refine qU 0 ?vr0 rfl ?yr0 trivial ?_
   case yr0=>exact zzR4
   try simp only[qA]
   refine qU 1 ?vr1 rfl ?yr1 trivial ?_
   case yr1=>exact zzR4
   try simp only[qA]
   refine qU 2 (.int .u8 (d:Int)) rfl ?yr2 trivial ?_
   case yr2=>(intro wz _;go_simp;first|exact HD.1|rw[HD.1]|exact zq.out)
   try simp only[qA]
   refine qU 3 (.int .u8 (d1.toNat:Int)) rfl ?yr3 trivial ?_
   case yr3=>exact zzR9
   try simp only[qA]
   refine qU 4 ?vr4 rfl ?yr4 trivial ?_
   case yr4=>exact zzR4
   try simp only[qA]
   refine qU 5 (.int .u8 (f:Int)) rfl ?yr5 trivial ?_
   case yr5=>exact zzR10
   try simp only[qA]
   refine qU 6 (.int .u8 (d2.toNat:Int)) rfl ?yr6 trivial ?_
   case yr6=>exact zzR11
   try simp only[qA]
   refine anyT_one (i:=7) (by kernel_rfl) rfl (fun K hK=>?_)
   go_simp
   try rw[←hW2]
   refine hK.out _ _ (.inr trivial) ?_
   clear hK
   try simp only[qA]
   refine anyT_one (i:=8) (by kernel_rfl) rfl (fun K hK=>?_)
   refine step_append_ys _ rfl _ _ rfl base wr.heap.size 0 4 4 u0 X [92,120,d1,d2] rfl rfl rfl HW2.1 HW2.2.2 ?hl ?hb ?_
   case hl=>(show X.length+4≤_;omega)
   case hb=>omega
   intro v' w' hW' hgr2
   have HR:Hid (OwnS w' base v' (X++ [92,120,d1,d2])∧Fr base w w'∧(X++ [92,120,d1,d2]).length≤l.length+1+4*(k+1)∧X++ [92,120,d1,d2]=l++ [34]++quoL ((bl s).take (k+1))):=⟨hW',HW2.1.nextF HW2.2.1 (by omega) hgr2,by rw[List.length_append];show X.length+4≤_;omega,by rw[HX2.out,HQ.out]⟩
   refine hK.out _ _ (.inr trivial) ?_
   clear hK hW' hgr2 hW2
   try simp only[qA]
   refine anyT_one (i:=9) (by kernel_rfl) rfl (fun K hK=>?_)
   go_simp
   refine hK.out _ _ (.inl rfl) ?_
   clear hK
   try simp only[qA]
   refine anyT_done (by kernel_rfl) ?_
   go_wp2_with fail
   go_roundw
   case rel=>exact⟨k+1,X++ [92,120,d1,d2],by omega,by go_num,HR.2.2.2,HR.2.2.1,HR.1,HR.2.1⟩
   case measure=>simp[intOf];omega
  ·have z:¬(k:Int)<(s.size:Int):=by omega
   have HX2:Hid (l++quoM (bl s)=X++ [34]):=by
    show _=_
    have:=HX.out
    rw[List.take_of_length_le (by rw[bl_len];omega)]at this
    rw[quoM,this]
    simp
   obtain⟨W2,hW2⟩:=qE (wr.alloc (Obj.cells #[.int .u8 34] 5):World)
   have hb2:Below wr.heap.size wr W2:=by rw[hW2];exact qB
   have s2:=hb2.size
   have HW2:Hid (OwnS W2 base u0 X∧Fr base w W2∧BysAt W2 wr.heap.size 0 [34]):=by
    refine⟨HW.1.below hb2,HW.2.step hb2 (by omega),?_⟩
    rw[hW2];exact bys_new wr _ [34] rfl
   clear hb2
   go_wp2_with (at_builtin;(try rw[←hW2]);refine wpList_append_ys _ rfl _ _ rfl base wr.heap.size 0 1 1 u0 X [34] rfl rfl rfl HW2.1 HW2.2.2 ?hl ?hb ?_)
   case hl=>first|omega|(show X.length+1≤_;omega)
   case hb=>omega
   intro v' w' hW' hgr
   have hgr2:W2.grownBy w' u0.ownBlock:=by first|exact hgr|(rw[hW2];exact hgr)
   have HR:Hid (AppP base (l++quoM (bl s)) w (.returned v') w'):=⟨v',rfl,by rw[HX2.out];exact hW',HW2.1.nextF HW2.2.1 (by omega) hgr2⟩
   clear hW' hgr hgr2 hW2
   go_wp2_with fail
   go_ret
   exact HR.out
end Go.Proofs.YtgnpcenpcmdlfaaGreatDoor
