import Derived.Test.YtgnpcenpcmdlfaaGreatDoorWkAA
import Derived.Test.YtgnpcenpcmdlfaaGreatDoorWkAF
import Derived.Test.YtgnpcenpcmdlfaaGreatDoorWkAG
import Derived.Lib.AppendIntMem
import Derived.Test.YtgnpcenpcmdlfaaGreatDoorWkAC
namespace Go.Proofs.YtgnpcenpcmdlfaaGreatDoor
open Go.ChangeShapes Go.WideShapes Go.ChangeAt Go.RowKit Go.Deep
set_option linter.unusedVariables false
set_option linter.unusedSimpArgs false
set_option maxRecDepth 100000
def wordG (k:Nat):ByteArray:=if k=14 then⟨#[62]⟩else if k=15 then⟨#[124]⟩else if k=16 then⟨#[105,102]⟩else wordA k
structure Gl (w:World):Prop where
 words:∀k:Nat,k≤16→w.cell? ⟨0,k,none⟩=some (.string (wordG k))
 pows:Lib.TabIs Tryz.prog w "internal/strconv.uint64pow10" .u64 Lib.pow10Tab
theorem pow_named:Tryz.prog.globalNamed "internal/strconv.uint64pow10" =some 4:=by kernel_rfl
theorem Gl.on {B:Nat} {w w':World} (h:Gl w) (hb:Below B w w') (hB:7≤B):Gl w':=by
 refine⟨fun k hk=>by rw[hb.cell (p:=⟨0,k,none⟩) (by show 0<B;omega)];exact h.words k hk,?_⟩
 have h2:=h.pows
 unfold Lib.TabIs World.var? at h2⊢
 rw[pow_named]at h2⊢
 simp only[Option.bind_some]at h2⊢
 rw[hb.block 4 (by omega)]
 exact h2
set_option maxHeartbeats 1000000 in
theorem appendUint_core (base:Nat) (v:Value) (l:List UInt8) (n:Nat) (w:World) (hO:OwnS w base v l) (hl:l.length≤2^29) (hn:n<2^64) (hb:base≤w.heap.size) (hG:Gl w):
  Calls Tryz.prog 122 #[v,.int .u64 (n:Int),.int .i64 10] w (AppP base (l++Lib.decDigits n) w):=by
 have HC:Hid (Calls Tryz.prog 133 #[v,.int .u64 (n:Int),.int .i64 10] w (AppP base (l++Lib.decDigits n) w)):=by
  refine(Any.internal_strconv_AppendUint_10 Tryz.laysAU base l.length n hn v (l.map ub) w hO hb (by omega) hG.pows).mono ?_
  rintro e w' ⟨v',rfl,h1,h2,h3⟩
  refine⟨v',rfl,?_,h2,h3⟩
  unfold OwnS
  rw[List.length_append,List.map_append]
  exact h1
 clear hO hG
 go_enter Tryz.func122,Tryz.ntmps122
 exact zzQ63
set_option maxHeartbeats 1000000 in
theorem appendInt_core (base:Nat) (v:Value) (l:List UInt8) (n:Nat) (w:World) (hO:OwnS w base v l) (hl:l.length≤2^29) (hn:n<2^63) (hb:base≤w.heap.size) (hG:Gl w) (hB:7≤base):
  Calls Tryz.prog 105 #[v,.int .i64 (n:Int),.int .i64 10] w (AppP base (l++Lib.decDigits n) w):=by
 have HC:Hid (Calls Tryz.prog 123 #[v,.int .i64 (n:Int),.int .i64 10] w (AppP base (l++Lib.decDigits n) w)):=by
  refine(Any.internal_strconv_AppendInt_10 Tryz.laysAI base l.length (n:Int) (by omega) (by omega) v (l.map ub) w hO hb (by omega) (fun w' hw=>(hG.on hw hB).pows)).mono ?_
  rintro e w' ⟨v',rfl,h1,h2,h3⟩
  refine⟨v',rfl,?_,h2,h3⟩
  have hi:Lib.itoa (n:Int)=Lib.decDigits n:=by unfold Lib.itoa;rw[if_neg (by omega),Int.toNat_natCast]
  rw[hi]at h1
  unfold OwnS
  rw[List.length_append,List.map_append]
  exact h1
 clear hO hG
 go_enter Tryz.func105,Tryz.ntmps105
 exact zzQ63
set_option maxHeartbeats 1000000 in
theorem appendEnd_core (base:Nat) (v:Value) (l:List UInt8) (t:ByteArray) (n:Int) (w:World) (hO:OwnS w base v l) (hl:l.length≤100000) (ht:t.size≤1000) (hn0:0≤n) (hn:n<2^64) (hb:base≤w.heap.size) (hG:Gl w):
  Calls Tryz.prog 104 #[v,.string t,.int .u64 n] w (AppP base (l++endM (bl t) n) w):=by
 have HO:Hid (OwnS w base v l∧Gl w):=⟨hO,hG⟩
 clear hO hG
 by_cases h1:bl t= []
 ·have zt:(t.toList==([]:List UInt8))=true:=by rw[bl_nil.1 h1];rfl
  have zt2:t.toList= []:=bl_nil.1 h1
  by_cases h2:n=0
  ·subst h2
   have HE:Hid (l++endM (bl t) 0=l):=by show _=_;unfold endM;rw[if_pos h1,if_pos rfl,List.append_nil]
   go_enter Tryz.func104,Tryz.ntmps104
   go_wp2_with fail
   go_ret
   exact⟨v,rfl,by rw[HE.out];exact HO.1,Fr.refl _ _⟩
  ·obtain⟨m,rfl⟩:=Int.eq_ofNat_of_zero_le hn0
   have zn:((m:Int)==0)=false:=by rw[beq_eq_false_iff_ne];exact h2
   have zn2:((m:Int) != 0)=true:=by rw[bne_iff_ne];exact h2
   have HE:Hid (endM (bl t) (m:Int)=Lib.decDigits m):=by show _=_;unfold endM;rw[if_pos h1,if_neg h2,Int.toNat_natCast]
   have HC:Hid (Calls Tryz.prog 122 #[v,.int .u64 (m:Int),.int .i64 10] w (AppP base (l++endM (bl t) (m:Int)) w)):=by
    have:=appendUint_core base v l m w HO.1 (by omega) (by omega) hb HO.2
    rw[←HE.out]at this
    exact this
   clear h2
   go_enter Tryz.func104,Tryz.ntmps104
   go_wp2_with fail
   refine HC.mono ?_
   rintro e w' hp
   have HP:Hid (AppP base (l++endM (bl t) (m:Int)) w e w'):=hp
   obtain⟨v',rfl,_⟩:=hp
   go_wp2_with fail
   go_ret
   exact HP.out
 ·have zt:(t.toList==([]:List UInt8))=false:=by rw[beq_eq_false_iff_ne];exact fun q=>h1 (bl_nil.2 q)
  have zt2:¬t.toList= []:=fun q=>h1 (bl_nil.2 q)
  have HE:Hid (endM (bl t) n=quoM (bl t)):=by show _=_;unfold endM;rw[if_neg h1]
  have HC:Hid (Calls Tryz.prog 103 #[v,.string t] w (AppP base (l++endM (bl t) n) w)):=by
   have:=appendQuoted_core base v l t w HO.1 (by omega) (by omega) hb
   rw[←HE.out]at this
   exact this
  clear h1
  go_enter Tryz.func104,Tryz.ntmps104
  go_wp2_with fail
  refine HC.mono ?_
  rintro e w' hp
  have HP:Hid (AppP base (l++endM (bl t) n) w e w'):=hp
  obtain⟨v',rfl,_⟩:=hp
  go_wp2_with fail
  go_ret
  exact HP.out
set_option maxHeartbeats 4000000 in
theorem appendLeaf_1 (base:Nat) (v:Value) (l:List UInt8) (s:ByteArray) (hi:Bool) (t:ByteArray) (lo up n:Int) (w:World) (hg:GoodN ⟨1,s,hi,t,lo,up,n⟩) (hn:NumN ⟨1,s,hi,t,lo,up,n⟩) (hO:OwnS w base v l) (hl:l.length≤1000) (hb:base≤w.heap.size) (hG:Gl w) (hB:7≤base):
  Calls Tryz.prog 76 #[v,.agg #[.int .i64 1,.string s,.bool hi,.string t,.int .u64 lo,.int .u64 up,.int .i64 n]] w (AppP base (l++leafM ⟨1,s,hi,t,lo,up,n⟩) w):=by
 have HG:Hid (GoodN ⟨1,s,hi,t,lo,up,n⟩):=hg
 obtain⟨g0,g1,_,_⟩:=hg
 simp only at g0 g1
 obtain⟨W0,hW0⟩:=qE (w.alloc (Obj.cells #[.int .i64 1,.string s,.bool hi,.string t,.int .u64 lo,.int .u64 up,.int .i64 n] 65):World)
 have hb0:Below w.heap.size w W0:=by rw[hW0];exact qB
 have s0:=hb0.size
 have HW0:Hid (OwnS W0 base v l∧Fr base w W0∧Gl W0∧BoxAt W0 w.heap.size 65 7 w.heap.size [.int .i64 1,.string s,.bool hi,.string t,.int .u64 lo,.int .u64 up,.int .i64 n]):=by
  refine⟨hO.below hb0,(Fr.refl _ _).step hb0 hb,hG.on hb0 (by omega),?_⟩
  rw[hW0];exact boxAt_new w _ (Nat.le_refl _) rfl
 have c0:=HW0.2.2.2.cell (j:=0) rfl
 have gw:W0.cell? ⟨0,1,none⟩=some (.string ⟨#[112,97,115,115]⟩):=HW0.2.2.1.words 1 (by omega)
 clear hb0 hO hG
 go_enter Tryz.func76,Tryz.ntmps76
 go_upto_region 1 with fail
 rw[←hW0]
 clear hW0
 go_wp2_with (at_builtin;refine wpList_append_st _ rfl _ _ rfl base v l ⟨#[112,97,115,115]⟩ rfl rfl HW0.1 ?hl ?hb ?_)
 case hl=>first|omega|(show l.length+4≤_;omega)
 case hb=>omega
 intro v1 w1 hO1 hgr1
 have hgr2:W0.grownBy w1 v.ownBlock:=hgr1
 obtain⟨X1,hX1⟩:∃X1:List UInt8,X1=l++ [112,97,115,115]:=⟨_,rfl⟩
 have hO1':OwnS w1 base v1 X1:=by rw[hX1];exact hO1
 have x1:X1.length≤l.length+4:=by rw[hX1,List.length_append];exact Nat.le_refl _
 have HX1:Hid (X1=l++ [112,97,115,115]):=hX1
 clear hX1
 have hF1:=HW0.1.nextF HW0.2.1 (by omega) hgr2
 have HW1:Hid (OwnS w1 base v1 X1∧Fr base w w1∧Gl w1∧BoxAt w1 w.heap.size 65 7 w.heap.size [.int .i64 1,.string s,.bool hi,.string t,.int .u64 lo,.int .u64 up,.int .i64 n]):=by
  have hF01:Fr base W0 w1:=HW0.1.nextF (Fr.refl _ _) (by omega) hgr2
  exact⟨hO1',hF1,HW0.2.2.1.on hF01.below hB,hF01.box HW0.2.2.2 (by decide)⟩
 have s1:=hgr2.size
 clear hO1 hO1' hgr1 hgr2 c0 gw hF1
 have c0:=HW1.2.2.2.cell (j:=0) rfl
 have HL:Hid (l++leafM ⟨1,s,hi,t,lo,up,n⟩=X1):=by show _=_;rw[HX1.out];simp[leafM,tailM,wordA,bl]
 exact zzQ71
set_option maxHeartbeats 4000000 in
theorem appendLeaf_2 (base:Nat) (v:Value) (l:List UInt8) (s:ByteArray) (hi:Bool) (t:ByteArray) (lo up n:Int) (w:World) (hg:GoodN ⟨2,s,hi,t,lo,up,n⟩) (hn:NumN ⟨2,s,hi,t,lo,up,n⟩) (hO:OwnS w base v l) (hl:l.length≤1000) (hb:base≤w.heap.size) (hG:Gl w) (hB:7≤base):
  Calls Tryz.prog 76 #[v,.agg #[.int .i64 2,.string s,.bool hi,.string t,.int .u64 lo,.int .u64 up,.int .i64 n]] w (AppP base (l++leafM ⟨2,s,hi,t,lo,up,n⟩) w):=by
 have HG:Hid (GoodN ⟨2,s,hi,t,lo,up,n⟩):=hg
 obtain⟨g0,g1,_,_⟩:=hg
 simp only at g0 g1
 obtain⟨W0,hW0⟩:=qE (w.alloc (Obj.cells #[.int .i64 2,.string s,.bool hi,.string t,.int .u64 lo,.int .u64 up,.int .i64 n] 65):World)
 have hb0:Below w.heap.size w W0:=by rw[hW0];exact qB
 have s0:=hb0.size
 have HW0:Hid (OwnS W0 base v l∧Fr base w W0∧Gl W0∧BoxAt W0 w.heap.size 65 7 w.heap.size [.int .i64 2,.string s,.bool hi,.string t,.int .u64 lo,.int .u64 up,.int .i64 n]):=by
  refine⟨hO.below hb0,(Fr.refl _ _).step hb0 hb,hG.on hb0 (by omega),?_⟩
  rw[hW0];exact boxAt_new w _ (Nat.le_refl _) rfl
 have c0:=HW0.2.2.2.cell (j:=0) rfl
 have gw:W0.cell? ⟨0,2,none⟩=some (.string ⟨#[98,108,111,99,107]⟩):=HW0.2.2.1.words 2 (by omega)
 clear hb0 hO hG
 go_enter Tryz.func76,Tryz.ntmps76
 go_upto_region 1 with fail
 rw[←hW0]
 clear hW0
 go_wp2_with (at_builtin;refine wpList_append_st _ rfl _ _ rfl base v l ⟨#[98,108,111,99,107]⟩ rfl rfl HW0.1 ?hl ?hb ?_)
 case hl=>first|omega|(show l.length+5≤_;omega)
 case hb=>omega
 intro v1 w1 hO1 hgr1
 have hgr2:W0.grownBy w1 v.ownBlock:=hgr1
 obtain⟨X1,hX1⟩:∃X1:List UInt8,X1=l++ [98,108,111,99,107]:=⟨_,rfl⟩
 have hO1':OwnS w1 base v1 X1:=by rw[hX1];exact hO1
 have x1:X1.length≤l.length+5:=by rw[hX1,List.length_append];exact Nat.le_refl _
 have HX1:Hid (X1=l++ [98,108,111,99,107]):=hX1
 clear hX1
 have hF1:=HW0.1.nextF HW0.2.1 (by omega) hgr2
 have HW1:Hid (OwnS w1 base v1 X1∧Fr base w w1∧Gl w1∧BoxAt w1 w.heap.size 65 7 w.heap.size [.int .i64 2,.string s,.bool hi,.string t,.int .u64 lo,.int .u64 up,.int .i64 n]):=by
  have hF01:Fr base W0 w1:=HW0.1.nextF (Fr.refl _ _) (by omega) hgr2
  exact⟨hO1',hF1,HW0.2.2.1.on hF01.below hB,hF01.box HW0.2.2.2 (by decide)⟩
 have s1:=hgr2.size
 clear hO1 hO1' hgr1 hgr2 c0 gw hF1
 have c0:=HW1.2.2.2.cell (j:=0) rfl
 have HL:Hid (l++leafM ⟨2,s,hi,t,lo,up,n⟩=X1):=by show _=_;rw[HX1.out];simp[leafM,tailM,wordA,bl]
 exact zzQ71
set_option maxHeartbeats 4000000 in
theorem appendLeaf_3 (base:Nat) (v:Value) (l:List UInt8) (s:ByteArray) (hi:Bool) (t:ByteArray) (lo up n:Int) (w:World) (hg:GoodN ⟨3,s,hi,t,lo,up,n⟩) (hn:NumN ⟨3,s,hi,t,lo,up,n⟩) (hO:OwnS w base v l) (hl:l.length≤1000) (hb:base≤w.heap.size) (hG:Gl w) (hB:7≤base):
  Calls Tryz.prog 76 #[v,.agg #[.int .i64 3,.string s,.bool hi,.string t,.int .u64 lo,.int .u64 up,.int .i64 n]] w (AppP base (l++leafM ⟨3,s,hi,t,lo,up,n⟩) w):=by
 have HG:Hid (GoodN ⟨3,s,hi,t,lo,up,n⟩):=hg
 obtain⟨g0,g1,_,_⟩:=hg
 simp only at g0 g1
 obtain⟨W0,hW0⟩:=qE (w.alloc (Obj.cells #[.int .i64 3,.string s,.bool hi,.string t,.int .u64 lo,.int .u64 up,.int .i64 n] 65):World)
 have hb0:Below w.heap.size w W0:=by rw[hW0];exact qB
 have s0:=hb0.size
 have HW0:Hid (OwnS W0 base v l∧Fr base w W0∧Gl W0∧BoxAt W0 w.heap.size 65 7 w.heap.size [.int .i64 3,.string s,.bool hi,.string t,.int .u64 lo,.int .u64 up,.int .i64 n]):=by
  refine⟨hO.below hb0,(Fr.refl _ _).step hb0 hb,hG.on hb0 (by omega),?_⟩
  rw[hW0];exact boxAt_new w _ (Nat.le_refl _) rfl
 have c0:=HW0.2.2.2.cell (j:=0) rfl
 have gw:W0.cell? ⟨0,3,none⟩=some (.string ⟨#[115,116,114,105,112]⟩):=HW0.2.2.1.words 3 (by omega)
 clear hb0 hO hG
 go_enter Tryz.func76,Tryz.ntmps76
 go_upto_region 1 with fail
 rw[←hW0]
 clear hW0
 go_wp2_with (at_builtin;refine wpList_append_st _ rfl _ _ rfl base v l ⟨#[115,116,114,105,112]⟩ rfl rfl HW0.1 ?hl ?hb ?_)
 case hl=>first|omega|(show l.length+5≤_;omega)
 case hb=>omega
 intro v1 w1 hO1 hgr1
 have hgr2:W0.grownBy w1 v.ownBlock:=hgr1
 obtain⟨X1,hX1⟩:∃X1:List UInt8,X1=l++ [115,116,114,105,112]:=⟨_,rfl⟩
 have hO1':OwnS w1 base v1 X1:=by rw[hX1];exact hO1
 have x1:X1.length≤l.length+5:=by rw[hX1,List.length_append];exact Nat.le_refl _
 have HX1:Hid (X1=l++ [115,116,114,105,112]):=hX1
 clear hX1
 have hF1:=HW0.1.nextF HW0.2.1 (by omega) hgr2
 have HW1:Hid (OwnS w1 base v1 X1∧Fr base w w1∧Gl w1∧BoxAt w1 w.heap.size 65 7 w.heap.size [.int .i64 3,.string s,.bool hi,.string t,.int .u64 lo,.int .u64 up,.int .i64 n]):=by
  have hF01:Fr base W0 w1:=HW0.1.nextF (Fr.refl _ _) (by omega) hgr2
  exact⟨hO1',hF1,HW0.2.2.1.on hF01.below hB,hF01.box HW0.2.2.2 (by decide)⟩
 have s1:=hgr2.size
 clear hO1 hO1' hgr1 hgr2 c0 gw hF1
 have c0:=HW1.2.2.2.cell (j:=0) rfl
 have HL:Hid (l++leafM ⟨3,s,hi,t,lo,up,n⟩=X1):=by show _=_;rw[HX1.out];simp[leafM,tailM,wordA,bl]
 exact zzQ71
set_option maxHeartbeats 4000000 in
theorem appendLeaf_4 (base:Nat) (v:Value) (l:List UInt8) (s:ByteArray) (hi:Bool) (t:ByteArray) (lo up n:Int) (w:World) (hg:GoodN ⟨4,s,hi,t,lo,up,n⟩) (hn:NumN ⟨4,s,hi,t,lo,up,n⟩) (hO:OwnS w base v l) (hl:l.length≤1000) (hb:base≤w.heap.size) (hG:Gl w) (hB:7≤base):
  Calls Tryz.prog 76 #[v,.agg #[.int .i64 4,.string s,.bool hi,.string t,.int .u64 lo,.int .u64 up,.int .i64 n]] w (AppP base (l++leafM ⟨4,s,hi,t,lo,up,n⟩) w):=by
 have HG:Hid (GoodN ⟨4,s,hi,t,lo,up,n⟩):=hg
 obtain⟨g0,g1,_,_⟩:=hg
 simp only at g0 g1
 obtain⟨W0,hW0⟩:=qE (w.alloc (Obj.cells #[.int .i64 4,.string s,.bool hi,.string t,.int .u64 lo,.int .u64 up,.int .i64 n] 65):World)
 have hb0:Below w.heap.size w W0:=by rw[hW0];exact qB
 have s0:=hb0.size
 have HW0:Hid (OwnS W0 base v l∧Fr base w W0∧Gl W0∧BoxAt W0 w.heap.size 65 7 w.heap.size [.int .i64 4,.string s,.bool hi,.string t,.int .u64 lo,.int .u64 up,.int .i64 n]):=by
  refine⟨hO.below hb0,(Fr.refl _ _).step hb0 hb,hG.on hb0 (by omega),?_⟩
  rw[hW0];exact boxAt_new w _ (Nat.le_refl _) rfl
 have c0:=HW0.2.2.2.cell (j:=0) rfl
 have gw:W0.cell? ⟨0,4,none⟩=some (.string ⟨#[114,111,119]⟩):=HW0.2.2.1.words 4 (by omega)
 clear hb0 hO hG
 go_enter Tryz.func76,Tryz.ntmps76
 go_upto_region 1 with fail
 rw[←hW0]
 clear hW0
 go_wp2_with (at_builtin;refine wpList_append_st _ rfl _ _ rfl base v l ⟨#[114,111,119]⟩ rfl rfl HW0.1 ?hl ?hb ?_)
 case hl=>first|omega|(show l.length+3≤_;omega)
 case hb=>omega
 intro v1 w1 hO1 hgr1
 have hgr2:W0.grownBy w1 v.ownBlock:=hgr1
 obtain⟨X1,hX1⟩:∃X1:List UInt8,X1=l++ [114,111,119]:=⟨_,rfl⟩
 have hO1':OwnS w1 base v1 X1:=by rw[hX1];exact hO1
 have x1:X1.length≤l.length+3:=by rw[hX1,List.length_append];exact Nat.le_refl _
 have HX1:Hid (X1=l++ [114,111,119]):=hX1
 clear hX1
 have hF1:=HW0.1.nextF HW0.2.1 (by omega) hgr2
 have HW1:Hid (OwnS w1 base v1 X1∧Fr base w w1∧Gl w1∧BoxAt w1 w.heap.size 65 7 w.heap.size [.int .i64 4,.string s,.bool hi,.string t,.int .u64 lo,.int .u64 up,.int .i64 n]):=by
  have hF01:Fr base W0 w1:=HW0.1.nextF (Fr.refl _ _) (by omega) hgr2
  exact⟨hO1',hF1,HW0.2.2.1.on hF01.below hB,hF01.box HW0.2.2.2 (by decide)⟩
 have s1:=hgr2.size
 clear hO1 hO1' hgr1 hgr2 c0 gw hF1
 have c0:=HW1.2.2.2.cell (j:=0) rfl
 obtain⟨W1,hW1⟩:=qE (w1.alloc (Obj.cells #[.int .u8 32] 5):World)
 have hb1:Below w1.heap.size w1 W1:=by rw[hW1];exact qB
 have t1:=hb1.size
 have HV1:Hid (OwnS W1 base v1 X1∧Fr base w W1∧BysAt W1 w1.heap.size 0 [32]∧Gl W1∧BoxAt W1 w.heap.size 65 7 w.heap.size [.int .i64 4,.string s,.bool hi,.string t,.int .u64 lo,.int .u64 up,.int .i64 n]):=by
  refine⟨HW1.1.below hb1,HW1.2.1.step hb1 (by omega),?_,HW1.2.2.1.on hb1 (by omega),HW1.2.2.2.below hb1⟩
  rw[hW1];exact bys_new w1 _ [32] rfl
 clear hb1
 go_wp2_with (at_builtin;(try rw[←hW1]);refine wpList_append_ys _ rfl _ _ rfl base w1.heap.size 0 1 1 v1 X1 [32] rfl rfl rfl HV1.1 HV1.2.2.1 ?hl ?hb ?_)
 case hl=>first|omega|(show X1.length+1≤_;omega)
 case hb=>omega
 intro v2 w2 hO2 hgr2
 have hgr2:W1.grownBy w2 v1.ownBlock:=by first|exact hgr2|(rw[hW1];exact hgr2)
 obtain⟨X2,hX2⟩:∃X2:List UInt8,X2=X1++ [32]:=⟨_,rfl⟩
 have hO':OwnS w2 base v2 X2:=by rw[hX2];exact hO2
 have x2:X2.length≤X1.length+1:=by rw[hX2,List.length_append];exact Nat.le_refl _
 have HX2:Hid (X2=X1++ [32]):=hX2
 clear hX2
 have HW2:Hid (OwnS w2 base v2 X2∧Fr base w w2∧Gl w2∧BoxAt w2 w.heap.size 65 7 w.heap.size [.int .i64 4,.string s,.bool hi,.string t,.int .u64 lo,.int .u64 up,.int .i64 n]):=by
  have hF01:Fr base W1 w2:=HV1.1.nextF (Fr.refl _ _) (by omega) hgr2
  exact⟨hO',HV1.2.1.trans hF01,HV1.2.2.2.1.on hF01.below hB,hF01.box HV1.2.2.2.2 (by decide)⟩
 have s2:=hgr2.size
 clear hO2 hO' hgr2
 try clear hgr2
 try clear hW1
 try clear c0
 have HL:Hid (l++leafM ⟨4,s,hi,t,lo,up,n⟩=X2++quoM (bl s)):=by show _=_;rw[HX2.out,HX1.out];simp[leafM,tailM,wordA,bl]
 have e1:=HW2.2.2.2.cell (j:=1) rfl
 go_wp2_with fail
 refine(appendQuoted_core base v2 X2 s w2 HW2.1 (by omega) (by omega) (by omega)).mono ?_
 rintro e w9 ⟨v9,rfl,hO9,hF9⟩
 have HR:Hid (AppP base (l++leafM ⟨4,s,hi,t,lo,up,n⟩) w (.returned v9) w9):=⟨v9,rfl,by rw[HL.out];exact hO9,HW2.2.1.trans hF9⟩
 clear hO9 hF9
 go_wp2_with fail
 go_ret
 exact HR.out
set_option maxHeartbeats 4000000 in
theorem appendLeaf_5 (base:Nat) (v:Value) (l:List UInt8) (s:ByteArray) (hi:Bool) (t:ByteArray) (lo up n:Int) (w:World) (hg:GoodN ⟨5,s,hi,t,lo,up,n⟩) (hn:NumN ⟨5,s,hi,t,lo,up,n⟩) (hO:OwnS w base v l) (hl:l.length≤1000) (hb:base≤w.heap.size) (hG:Gl w) (hB:7≤base):
  Calls Tryz.prog 76 #[v,.agg #[.int .i64 5,.string s,.bool hi,.string t,.int .u64 lo,.int .u64 up,.int .i64 n]] w (AppP base (l++leafM ⟨5,s,hi,t,lo,up,n⟩) w):=by
 have HG:Hid (GoodN ⟨5,s,hi,t,lo,up,n⟩):=hg
 obtain⟨g0,g1,_,_⟩:=hg
 simp only at g0 g1
 obtain⟨W0,hW0⟩:=qE (w.alloc (Obj.cells #[.int .i64 5,.string s,.bool hi,.string t,.int .u64 lo,.int .u64 up,.int .i64 n] 65):World)
 have hb0:Below w.heap.size w W0:=by rw[hW0];exact qB
 have s0:=hb0.size
 have HW0:Hid (OwnS W0 base v l∧Fr base w W0∧Gl W0∧BoxAt W0 w.heap.size 65 7 w.heap.size [.int .i64 5,.string s,.bool hi,.string t,.int .u64 lo,.int .u64 up,.int .i64 n]):=by
  refine⟨hO.below hb0,(Fr.refl _ _).step hb0 hb,hG.on hb0 (by omega),?_⟩
  rw[hW0];exact boxAt_new w _ (Nat.le_refl _) rfl
 have c0:=HW0.2.2.2.cell (j:=0) rfl
 have gw:W0.cell? ⟨0,5,none⟩=some (.string ⟨#[102,97,109]⟩):=HW0.2.2.1.words 5 (by omega)
 clear hb0 hO hG
 go_enter Tryz.func76,Tryz.ntmps76
 go_upto_region 1 with fail
 rw[←hW0]
 clear hW0
 go_wp2_with (at_builtin;refine wpList_append_st _ rfl _ _ rfl base v l ⟨#[102,97,109]⟩ rfl rfl HW0.1 ?hl ?hb ?_)
 case hl=>first|omega|(show l.length+3≤_;omega)
 case hb=>omega
 intro v1 w1 hO1 hgr1
 have hgr2:W0.grownBy w1 v.ownBlock:=hgr1
 obtain⟨X1,hX1⟩:∃X1:List UInt8,X1=l++ [102,97,109]:=⟨_,rfl⟩
 have hO1':OwnS w1 base v1 X1:=by rw[hX1];exact hO1
 have x1:X1.length≤l.length+3:=by rw[hX1,List.length_append];exact Nat.le_refl _
 have HX1:Hid (X1=l++ [102,97,109]):=hX1
 clear hX1
 have hF1:=HW0.1.nextF HW0.2.1 (by omega) hgr2
 have HW1:Hid (OwnS w1 base v1 X1∧Fr base w w1∧Gl w1∧BoxAt w1 w.heap.size 65 7 w.heap.size [.int .i64 5,.string s,.bool hi,.string t,.int .u64 lo,.int .u64 up,.int .i64 n]):=by
  have hF01:Fr base W0 w1:=HW0.1.nextF (Fr.refl _ _) (by omega) hgr2
  exact⟨hO1',hF1,HW0.2.2.1.on hF01.below hB,hF01.box HW0.2.2.2 (by decide)⟩
 have s1:=hgr2.size
 clear hO1 hO1' hgr1 hgr2 c0 gw hF1
 have c0:=HW1.2.2.2.cell (j:=0) rfl
 obtain⟨W1,hW1⟩:=qE (w1.alloc (Obj.cells #[.int .u8 32] 5):World)
 have hb1:Below w1.heap.size w1 W1:=by rw[hW1];exact qB
 have t1:=hb1.size
 have HV1:Hid (OwnS W1 base v1 X1∧Fr base w W1∧BysAt W1 w1.heap.size 0 [32]∧Gl W1∧BoxAt W1 w.heap.size 65 7 w.heap.size [.int .i64 5,.string s,.bool hi,.string t,.int .u64 lo,.int .u64 up,.int .i64 n]):=by
  refine⟨HW1.1.below hb1,HW1.2.1.step hb1 (by omega),?_,HW1.2.2.1.on hb1 (by omega),HW1.2.2.2.below hb1⟩
  rw[hW1];exact bys_new w1 _ [32] rfl
 clear hb1
 go_wp2_with (at_builtin;(try rw[←hW1]);refine wpList_append_ys _ rfl _ _ rfl base w1.heap.size 0 1 1 v1 X1 [32] rfl rfl rfl HV1.1 HV1.2.2.1 ?hl ?hb ?_)
 case hl=>first|omega|(show X1.length+1≤_;omega)
 case hb=>omega
 intro v2 w2 hO2 hgr2
 have hgr2:W1.grownBy w2 v1.ownBlock:=by first|exact hgr2|(rw[hW1];exact hgr2)
 obtain⟨X2,hX2⟩:∃X2:List UInt8,X2=X1++ [32]:=⟨_,rfl⟩
 have hO':OwnS w2 base v2 X2:=by rw[hX2];exact hO2
 have x2:X2.length≤X1.length+1:=by rw[hX2,List.length_append];exact Nat.le_refl _
 have HX2:Hid (X2=X1++ [32]):=hX2
 clear hX2
 have HW2:Hid (OwnS w2 base v2 X2∧Fr base w w2∧Gl w2∧BoxAt w2 w.heap.size 65 7 w.heap.size [.int .i64 5,.string s,.bool hi,.string t,.int .u64 lo,.int .u64 up,.int .i64 n]):=by
  have hF01:Fr base W1 w2:=HV1.1.nextF (Fr.refl _ _) (by omega) hgr2
  exact⟨hO',HV1.2.1.trans hF01,HV1.2.2.2.1.on hF01.below hB,hF01.box HV1.2.2.2.2 (by decide)⟩
 have s2:=hgr2.size
 clear hO2 hO' hgr2
 try clear hgr2
 try clear hW1
 try clear c0
 have HL:Hid (l++leafM ⟨5,s,hi,t,lo,up,n⟩=X2++quoM (bl s)):=by show _=_;rw[HX2.out,HX1.out];simp[leafM,tailM,wordA,bl]
 have e1:=HW2.2.2.2.cell (j:=1) rfl
 go_wp2_with fail
 refine(appendQuoted_core base v2 X2 s w2 HW2.1 (by omega) (by omega) (by omega)).mono ?_
 rintro e w9 ⟨v9,rfl,hO9,hF9⟩
 have HR:Hid (AppP base (l++leafM ⟨5,s,hi,t,lo,up,n⟩) w (.returned v9) w9):=⟨v9,rfl,by rw[HL.out];exact hO9,HW2.2.1.trans hF9⟩
 clear hO9 hF9
 go_wp2_with fail
 go_ret
 exact HR.out
set_option maxHeartbeats 4000000 in
theorem appendLeaf_6 (base:Nat) (v:Value) (l:List UInt8) (s:ByteArray) (hi:Bool) (t:ByteArray) (lo up n:Int) (w:World) (hg:GoodN ⟨6,s,hi,t,lo,up,n⟩) (hn:NumN ⟨6,s,hi,t,lo,up,n⟩) (hO:OwnS w base v l) (hl:l.length≤1000) (hb:base≤w.heap.size) (hG:Gl w) (hB:7≤base):
  Calls Tryz.prog 76 #[v,.agg #[.int .i64 6,.string s,.bool hi,.string t,.int .u64 lo,.int .u64 up,.int .i64 n]] w (AppP base (l++leafM ⟨6,s,hi,t,lo,up,n⟩) w):=by
 have HG:Hid (GoodN ⟨6,s,hi,t,lo,up,n⟩):=hg
 obtain⟨g0,g1,_,_⟩:=hg
 simp only at g0 g1
 obtain⟨W0,hW0⟩:=qE (w.alloc (Obj.cells #[.int .i64 6,.string s,.bool hi,.string t,.int .u64 lo,.int .u64 up,.int .i64 n] 65):World)
 have hb0:Below w.heap.size w W0:=by rw[hW0];exact qB
 have s0:=hb0.size
 have HW0:Hid (OwnS W0 base v l∧Fr base w W0∧Gl W0∧BoxAt W0 w.heap.size 65 7 w.heap.size [.int .i64 6,.string s,.bool hi,.string t,.int .u64 lo,.int .u64 up,.int .i64 n]):=by
  refine⟨hO.below hb0,(Fr.refl _ _).step hb0 hb,hG.on hb0 (by omega),?_⟩
  rw[hW0];exact boxAt_new w _ (Nat.le_refl _) rfl
 have c0:=HW0.2.2.2.cell (j:=0) rfl
 have gw:W0.cell? ⟨0,6,none⟩=some (.string ⟨#[113,117,97,108]⟩):=HW0.2.2.1.words 6 (by omega)
 clear hb0 hO hG
 go_enter Tryz.func76,Tryz.ntmps76
 go_upto_region 1 with fail
 rw[←hW0]
 clear hW0
 go_wp2_with (at_builtin;refine wpList_append_st _ rfl _ _ rfl base v l ⟨#[113,117,97,108]⟩ rfl rfl HW0.1 ?hl ?hb ?_)
 case hl=>first|omega|(show l.length+4≤_;omega)
 case hb=>omega
 intro v1 w1 hO1 hgr1
 have hgr2:W0.grownBy w1 v.ownBlock:=hgr1
 obtain⟨X1,hX1⟩:∃X1:List UInt8,X1=l++ [113,117,97,108]:=⟨_,rfl⟩
 have hO1':OwnS w1 base v1 X1:=by rw[hX1];exact hO1
 have x1:X1.length≤l.length+4:=by rw[hX1,List.length_append];exact Nat.le_refl _
 have HX1:Hid (X1=l++ [113,117,97,108]):=hX1
 clear hX1
 have hF1:=HW0.1.nextF HW0.2.1 (by omega) hgr2
 have HW1:Hid (OwnS w1 base v1 X1∧Fr base w w1∧Gl w1∧BoxAt w1 w.heap.size 65 7 w.heap.size [.int .i64 6,.string s,.bool hi,.string t,.int .u64 lo,.int .u64 up,.int .i64 n]):=by
  have hF01:Fr base W0 w1:=HW0.1.nextF (Fr.refl _ _) (by omega) hgr2
  exact⟨hO1',hF1,HW0.2.2.1.on hF01.below hB,hF01.box HW0.2.2.2 (by decide)⟩
 have s1:=hgr2.size
 clear hO1 hO1' hgr1 hgr2 c0 gw hF1
 have c0:=HW1.2.2.2.cell (j:=0) rfl
 obtain⟨W1,hW1⟩:=qE (w1.alloc (Obj.cells #[.int .u8 32] 5):World)
 have hb1:Below w1.heap.size w1 W1:=by rw[hW1];exact qB
 have t1:=hb1.size
 have HV1:Hid (OwnS W1 base v1 X1∧Fr base w W1∧BysAt W1 w1.heap.size 0 [32]∧Gl W1∧BoxAt W1 w.heap.size 65 7 w.heap.size [.int .i64 6,.string s,.bool hi,.string t,.int .u64 lo,.int .u64 up,.int .i64 n]):=by
  refine⟨HW1.1.below hb1,HW1.2.1.step hb1 (by omega),?_,HW1.2.2.1.on hb1 (by omega),HW1.2.2.2.below hb1⟩
  rw[hW1];exact bys_new w1 _ [32] rfl
 clear hb1
 go_wp2_with (at_builtin;(try rw[←hW1]);refine wpList_append_ys _ rfl _ _ rfl base w1.heap.size 0 1 1 v1 X1 [32] rfl rfl rfl HV1.1 HV1.2.2.1 ?hl ?hb ?_)
 case hl=>first|omega|(show X1.length+1≤_;omega)
 case hb=>omega
 intro v2 w2 hO2 hgr2
 have hgr2:W1.grownBy w2 v1.ownBlock:=by first|exact hgr2|(rw[hW1];exact hgr2)
 obtain⟨X2,hX2⟩:∃X2:List UInt8,X2=X1++ [32]:=⟨_,rfl⟩
 have hO':OwnS w2 base v2 X2:=by rw[hX2];exact hO2
 have x2:X2.length≤X1.length+1:=by rw[hX2,List.length_append];exact Nat.le_refl _
 have HX2:Hid (X2=X1++ [32]):=hX2
 clear hX2
 have HW2:Hid (OwnS w2 base v2 X2∧Fr base w w2∧Gl w2∧BoxAt w2 w.heap.size 65 7 w.heap.size [.int .i64 6,.string s,.bool hi,.string t,.int .u64 lo,.int .u64 up,.int .i64 n]):=by
  have hF01:Fr base W1 w2:=HV1.1.nextF (Fr.refl _ _) (by omega) hgr2
  exact⟨hO',HV1.2.1.trans hF01,HV1.2.2.2.1.on hF01.below hB,hF01.box HV1.2.2.2.2 (by decide)⟩
 have s2:=hgr2.size
 clear hO2 hO' hgr2
 try clear hgr2
 try clear hW1
 try clear c0
 have HL:Hid (l++leafM ⟨6,s,hi,t,lo,up,n⟩=X2++quoM (bl s)):=by show _=_;rw[HX2.out,HX1.out];simp[leafM,tailM,wordA,bl]
 have e1:=HW2.2.2.2.cell (j:=1) rfl
 go_wp2_with fail
 refine(appendQuoted_core base v2 X2 s w2 HW2.1 (by omega) (by omega) (by omega)).mono ?_
 rintro e w9 ⟨v9,rfl,hO9,hF9⟩
 have HR:Hid (AppP base (l++leafM ⟨6,s,hi,t,lo,up,n⟩) w (.returned v9) w9):=⟨v9,rfl,by rw[HL.out];exact hO9,HW2.2.1.trans hF9⟩
 clear hO9 hF9
 go_wp2_with fail
 go_ret
 exact HR.out
set_option maxHeartbeats 4000000 in
theorem appendLeaf_7 (base:Nat) (v:Value) (l:List UInt8) (s:ByteArray) (hi:Bool) (t:ByteArray) (lo up n:Int) (w:World) (hg:GoodN ⟨7,s,hi,t,lo,up,n⟩) (hn:NumN ⟨7,s,hi,t,lo,up,n⟩) (hO:OwnS w base v l) (hl:l.length≤1000) (hb:base≤w.heap.size) (hG:Gl w) (hB:7≤base):
  Calls Tryz.prog 76 #[v,.agg #[.int .i64 7,.string s,.bool hi,.string t,.int .u64 lo,.int .u64 up,.int .i64 n]] w (AppP base (l++leafM ⟨7,s,hi,t,lo,up,n⟩) w):=by
 have HG:Hid (GoodN ⟨7,s,hi,t,lo,up,n⟩):=hg
 obtain⟨g0,g1,_,_⟩:=hg
 simp only at g0 g1
 obtain⟨W0,hW0⟩:=qE (w.alloc (Obj.cells #[.int .i64 7,.string s,.bool hi,.string t,.int .u64 lo,.int .u64 up,.int .i64 n] 65):World)
 have hb0:Below w.heap.size w W0:=by rw[hW0];exact qB
 have s0:=hb0.size
 have HW0:Hid (OwnS W0 base v l∧Fr base w W0∧Gl W0∧BoxAt W0 w.heap.size 65 7 w.heap.size [.int .i64 7,.string s,.bool hi,.string t,.int .u64 lo,.int .u64 up,.int .i64 n]):=by
  refine⟨hO.below hb0,(Fr.refl _ _).step hb0 hb,hG.on hb0 (by omega),?_⟩
  rw[hW0];exact boxAt_new w _ (Nat.le_refl _) rfl
 have c0:=HW0.2.2.2.cell (j:=0) rfl
 have gw:W0.cell? ⟨0,7,none⟩=some (.string ⟨#[118,97,108]⟩):=HW0.2.2.1.words 7 (by omega)
 clear hb0 hO hG
 go_enter Tryz.func76,Tryz.ntmps76
 go_upto_region 1 with fail
 rw[←hW0]
 clear hW0
 go_wp2_with (at_builtin;refine wpList_append_st _ rfl _ _ rfl base v l ⟨#[118,97,108]⟩ rfl rfl HW0.1 ?hl ?hb ?_)
 case hl=>first|omega|(show l.length+3≤_;omega)
 case hb=>omega
 intro v1 w1 hO1 hgr1
 have hgr2:W0.grownBy w1 v.ownBlock:=hgr1
 obtain⟨X1,hX1⟩:∃X1:List UInt8,X1=l++ [118,97,108]:=⟨_,rfl⟩
 have hO1':OwnS w1 base v1 X1:=by rw[hX1];exact hO1
 have x1:X1.length≤l.length+3:=by rw[hX1,List.length_append];exact Nat.le_refl _
 have HX1:Hid (X1=l++ [118,97,108]):=hX1
 clear hX1
 have hF1:=HW0.1.nextF HW0.2.1 (by omega) hgr2
 have HW1:Hid (OwnS w1 base v1 X1∧Fr base w w1∧Gl w1∧BoxAt w1 w.heap.size 65 7 w.heap.size [.int .i64 7,.string s,.bool hi,.string t,.int .u64 lo,.int .u64 up,.int .i64 n]):=by
  have hF01:Fr base W0 w1:=HW0.1.nextF (Fr.refl _ _) (by omega) hgr2
  exact⟨hO1',hF1,HW0.2.2.1.on hF01.below hB,hF01.box HW0.2.2.2 (by decide)⟩
 have s1:=hgr2.size
 clear hO1 hO1' hgr1 hgr2 c0 gw hF1
 have c0:=HW1.2.2.2.cell (j:=0) rfl
 obtain⟨W1,hW1⟩:=qE (w1.alloc (Obj.cells #[.int .u8 32] 5):World)
 have hb1:Below w1.heap.size w1 W1:=by rw[hW1];exact qB
 have t1:=hb1.size
 have HV1:Hid (OwnS W1 base v1 X1∧Fr base w W1∧BysAt W1 w1.heap.size 0 [32]∧Gl W1∧BoxAt W1 w.heap.size 65 7 w.heap.size [.int .i64 7,.string s,.bool hi,.string t,.int .u64 lo,.int .u64 up,.int .i64 n]):=by
  refine⟨HW1.1.below hb1,HW1.2.1.step hb1 (by omega),?_,HW1.2.2.1.on hb1 (by omega),HW1.2.2.2.below hb1⟩
  rw[hW1];exact bys_new w1 _ [32] rfl
 clear hb1
 go_wp2_with (at_builtin;(try rw[←hW1]);refine wpList_append_ys _ rfl _ _ rfl base w1.heap.size 0 1 1 v1 X1 [32] rfl rfl rfl HV1.1 HV1.2.2.1 ?hl ?hb ?_)
 case hl=>first|omega|(show X1.length+1≤_;omega)
 case hb=>omega
 intro v2 w2 hO2 hgr2
 have hgr2:W1.grownBy w2 v1.ownBlock:=by first|exact hgr2|(rw[hW1];exact hgr2)
 obtain⟨X2,hX2⟩:∃X2:List UInt8,X2=X1++ [32]:=⟨_,rfl⟩
 have hO':OwnS w2 base v2 X2:=by rw[hX2];exact hO2
 have x2:X2.length≤X1.length+1:=by rw[hX2,List.length_append];exact Nat.le_refl _
 have HX2:Hid (X2=X1++ [32]):=hX2
 clear hX2
 have HW2:Hid (OwnS w2 base v2 X2∧Fr base w w2∧Gl w2∧BoxAt w2 w.heap.size 65 7 w.heap.size [.int .i64 7,.string s,.bool hi,.string t,.int .u64 lo,.int .u64 up,.int .i64 n]):=by
  have hF01:Fr base W1 w2:=HV1.1.nextF (Fr.refl _ _) (by omega) hgr2
  exact⟨hO',HV1.2.1.trans hF01,HV1.2.2.2.1.on hF01.below hB,hF01.box HV1.2.2.2.2 (by decide)⟩
 have s2:=hgr2.size
 clear hO2 hO' hgr2
 try clear hgr2
 try clear hW1
 try clear c0
 have HL:Hid (l++leafM ⟨7,s,hi,t,lo,up,n⟩=X2++quoM (bl s)):=by show _=_;rw[HX2.out,HX1.out];simp[leafM,tailM,wordA,bl]
 have e1:=HW2.2.2.2.cell (j:=1) rfl
 go_wp2_with fail
 refine(appendQuoted_core base v2 X2 s w2 HW2.1 (by omega) (by omega) (by omega)).mono ?_
 rintro e w9 ⟨v9,rfl,hO9,hF9⟩
 have HR:Hid (AppP base (l++leafM ⟨7,s,hi,t,lo,up,n⟩) w (.returned v9) w9):=⟨v9,rfl,by rw[HL.out];exact hO9,HW2.2.1.trans hF9⟩
 clear hO9 hF9
 go_wp2_with fail
 go_ret
 exact HR.out
set_option maxHeartbeats 4000000 in
theorem appendLeaf_8 (base:Nat) (v:Value) (l:List UInt8) (s:ByteArray) (hi:Bool) (t:ByteArray) (lo up n:Int) (w:World) (hg:GoodN ⟨8,s,hi,t,lo,up,n⟩) (hn:NumN ⟨8,s,hi,t,lo,up,n⟩) (hO:OwnS w base v l) (hl:l.length≤1000) (hb:base≤w.heap.size) (hG:Gl w) (hB:7≤base):
  Calls Tryz.prog 76 #[v,.agg #[.int .i64 8,.string s,.bool hi,.string t,.int .u64 lo,.int .u64 up,.int .i64 n]] w (AppP base (l++leafM ⟨8,s,hi,t,lo,up,n⟩) w):=by
 have HG:Hid (GoodN ⟨8,s,hi,t,lo,up,n⟩):=hg
 obtain⟨g0,g1,_,_⟩:=hg
 simp only at g0 g1
 obtain⟨W0,hW0⟩:=qE (w.alloc (Obj.cells #[.int .i64 8,.string s,.bool hi,.string t,.int .u64 lo,.int .u64 up,.int .i64 n] 65):World)
 have hb0:Below w.heap.size w W0:=by rw[hW0];exact qB
 have s0:=hb0.size
 have HW0:Hid (OwnS W0 base v l∧Fr base w W0∧Gl W0∧BoxAt W0 w.heap.size 65 7 w.heap.size [.int .i64 8,.string s,.bool hi,.string t,.int .u64 lo,.int .u64 up,.int .i64 n]):=by
  refine⟨hO.below hb0,(Fr.refl _ _).step hb0 hb,hG.on hb0 (by omega),?_⟩
  rw[hW0];exact boxAt_new w _ (Nat.le_refl _) rfl
 have c0:=HW0.2.2.2.cell (j:=0) rfl
 have gw:W0.cell? ⟨0,8,none⟩=some (.string ⟨#[114,111,119,115]⟩):=HW0.2.2.1.words 8 (by omega)
 clear hb0 hO hG
 go_enter Tryz.func76,Tryz.ntmps76
 go_upto_region 1 with fail
 rw[←hW0]
 clear hW0
 go_wp2_with (at_builtin;refine wpList_append_st _ rfl _ _ rfl base v l ⟨#[114,111,119,115]⟩ rfl rfl HW0.1 ?hl ?hb ?_)
 case hl=>first|omega|(show l.length+4≤_;omega)
 case hb=>omega
 intro v1 w1 hO1 hgr1
 have hgr2:W0.grownBy w1 v.ownBlock:=hgr1
 obtain⟨X1,hX1⟩:∃X1:List UInt8,X1=l++ [114,111,119,115]:=⟨_,rfl⟩
 have hO1':OwnS w1 base v1 X1:=by rw[hX1];exact hO1
 have x1:X1.length≤l.length+4:=by rw[hX1,List.length_append];exact Nat.le_refl _
 have HX1:Hid (X1=l++ [114,111,119,115]):=hX1
 clear hX1
 have hF1:=HW0.1.nextF HW0.2.1 (by omega) hgr2
 have HW1:Hid (OwnS w1 base v1 X1∧Fr base w w1∧Gl w1∧BoxAt w1 w.heap.size 65 7 w.heap.size [.int .i64 8,.string s,.bool hi,.string t,.int .u64 lo,.int .u64 up,.int .i64 n]):=by
  have hF01:Fr base W0 w1:=HW0.1.nextF (Fr.refl _ _) (by omega) hgr2
  exact⟨hO1',hF1,HW0.2.2.1.on hF01.below hB,hF01.box HW0.2.2.2 (by decide)⟩
 have s1:=hgr2.size
 clear hO1 hO1' hgr1 hgr2 c0 gw hF1
 have c0:=HW1.2.2.2.cell (j:=0) rfl
 obtain⟨W1,hW1⟩:=qE (w1.alloc (Obj.cells #[.int .u8 32] 5):World)
 have hb1:Below w1.heap.size w1 W1:=by rw[hW1];exact qB
 have t1:=hb1.size
 have HV1:Hid (OwnS W1 base v1 X1∧Fr base w W1∧BysAt W1 w1.heap.size 0 [32]∧Gl W1∧BoxAt W1 w.heap.size 65 7 w.heap.size [.int .i64 8,.string s,.bool hi,.string t,.int .u64 lo,.int .u64 up,.int .i64 n]):=by
  refine⟨HW1.1.below hb1,HW1.2.1.step hb1 (by omega),?_,HW1.2.2.1.on hb1 (by omega),HW1.2.2.2.below hb1⟩
  rw[hW1];exact bys_new w1 _ [32] rfl
 clear hb1
 go_wp2_with (at_builtin;(try rw[←hW1]);refine wpList_append_ys _ rfl _ _ rfl base w1.heap.size 0 1 1 v1 X1 [32] rfl rfl rfl HV1.1 HV1.2.2.1 ?hl ?hb ?_)
 case hl=>first|omega|(show X1.length+1≤_;omega)
 case hb=>omega
 intro v2 w2 hO2 hgr2
 have hgr2:W1.grownBy w2 v1.ownBlock:=by first|exact hgr2|(rw[hW1];exact hgr2)
 obtain⟨X2,hX2⟩:∃X2:List UInt8,X2=X1++ [32]:=⟨_,rfl⟩
 have hO':OwnS w2 base v2 X2:=by rw[hX2];exact hO2
 have x2:X2.length≤X1.length+1:=by rw[hX2,List.length_append];exact Nat.le_refl _
 have HX2:Hid (X2=X1++ [32]):=hX2
 clear hX2
 have HW2:Hid (OwnS w2 base v2 X2∧Fr base w w2∧Gl w2∧BoxAt w2 w.heap.size 65 7 w.heap.size [.int .i64 8,.string s,.bool hi,.string t,.int .u64 lo,.int .u64 up,.int .i64 n]):=by
  have hF01:Fr base W1 w2:=HV1.1.nextF (Fr.refl _ _) (by omega) hgr2
  exact⟨hO',HV1.2.1.trans hF01,HV1.2.2.2.1.on hF01.below hB,hF01.box HV1.2.2.2.2 (by decide)⟩
 have s2:=hgr2.size
 clear hO2 hO' hgr2
 try clear hgr2
 try clear hW1
 try clear c0
 have n0:=hn.lo0
 have n1:=hn.lo1
 have n2:=hn.up0
 have n3:=hn.up1
 simp only at n0 n1 n2 n3
 have e1:=HW2.2.2.2.cell (j:=1) rfl
 have e4:=HW2.2.2.2.cell (j:=4) rfl
 have hln:=endM_len (t:=bl s) (n:=lo) (by rw[bl_len];exact g0) n0 n1
 go_wp2_with fail
 refine(appendEnd_core base v2 X2 s lo w2 HW2.1 (by omega) (by omega) n0 n1 (by omega) HW2.2.2.1).mono ?_
 rintro e w3 ⟨v3,rfl,hO3,hF3⟩
 have s3:=hF3.below.size
 obtain⟨X3,hX3⟩:∃X3:List UInt8,X3=X2++endM (bl s) lo:=⟨_,rfl⟩
 have hO':OwnS w3 base v3 X3:=by rw[hX3];exact hO3
 have x3:X3.length≤X2.length+802:=by rw[hX3,List.length_append];omega
 have HX3:Hid (X3=X2++endM (bl s) lo):=hX3
 clear hX3
 have HW3:Hid (OwnS w3 base v3 X3∧Fr base w w3∧Gl w3∧BoxAt w3 w.heap.size 65 7 w.heap.size [.int .i64 8,.string s,.bool hi,.string t,.int .u64 lo,.int .u64 up,.int .i64 n]):=⟨hO',HW2.2.1.trans hF3,HW2.2.2.1.on hF3.below hB,hF3.box HW2.2.2.2 (by decide)⟩
 clear hO3 hO' hF3 e1 e4
 go_wp2_with (at_builtin;refine wpList_append_st _ rfl _ _ rfl base v3 X3 ⟨#[46,46]⟩ rfl rfl HW3.1 ?hl ?hb ?_)
 case hl=>first|omega|(show X3.length+2≤_;omega)
 case hb=>omega
 intro v4 w4 hO4 hgr2
 obtain⟨X4,hX4⟩:∃X4:List UInt8,X4=X3++ [46,46]:=⟨_,rfl⟩
 have hO':OwnS w4 base v4 X4:=by rw[hX4];exact hO4
 have x4:X4.length≤X3.length+2:=by rw[hX4,List.length_append];exact Nat.le_refl _
 have HX4:Hid (X4=X3++ [46,46]):=hX4
 clear hX4
 have HW4:Hid (OwnS w4 base v4 X4∧Fr base w w4∧Gl w4∧BoxAt w4 w.heap.size 65 7 w.heap.size [.int .i64 8,.string s,.bool hi,.string t,.int .u64 lo,.int .u64 up,.int .i64 n]):=by
  have hF01:Fr base w3 w4:=HW3.1.nextF (Fr.refl _ _) (by omega) hgr2
  exact⟨hO',HW3.2.1.trans hF01,HW3.2.2.1.on hF01.below hB,hF01.box HW3.2.2.2 (by decide)⟩
 have s4:=hgr2.size
 clear hO4 hO' hgr2
 have HL:Hid (l++leafM ⟨8,s,hi,t,lo,up,n⟩=X4++endM (bl t) up):=by show _=_;rw[HX4.out,HX3.out,HX2.out,HX1.out];simp[leafM,tailM,wordA,bl]
 have e3:=HW4.2.2.2.cell (j:=3) rfl
 have e5:=HW4.2.2.2.cell (j:=5) rfl
 go_wp2_with fail
 refine(appendEnd_core base v4 X4 t up w4 HW4.1 (by omega) (by omega) n2 n3 (by omega) HW4.2.2.1).mono ?_
 rintro e w9 ⟨v9,rfl,hO9,hF9⟩
 have HR:Hid (AppP base (l++leafM ⟨8,s,hi,t,lo,up,n⟩) w (.returned v9) w9):=⟨v9,rfl,by rw[HL.out];exact hO9,HW4.2.1.trans hF9⟩
 clear hO9 hF9
 go_wp2_with fail
 go_ret
 exact HR.out
set_option maxHeartbeats 4000000 in
theorem appendLeaf_9 (base:Nat) (v:Value) (l:List UInt8) (s:ByteArray) (hi:Bool) (t:ByteArray) (lo up n:Int) (w:World) (hg:GoodN ⟨9,s,hi,t,lo,up,n⟩) (hn:NumN ⟨9,s,hi,t,lo,up,n⟩) (hO:OwnS w base v l) (hl:l.length≤1000) (hb:base≤w.heap.size) (hG:Gl w) (hB:7≤base):
  Calls Tryz.prog 76 #[v,.agg #[.int .i64 9,.string s,.bool hi,.string t,.int .u64 lo,.int .u64 up,.int .i64 n]] w (AppP base (l++leafM ⟨9,s,hi,t,lo,up,n⟩) w):=by
 have HG:Hid (GoodN ⟨9,s,hi,t,lo,up,n⟩):=hg
 obtain⟨g0,g1,_,_⟩:=hg
 simp only at g0 g1
 obtain⟨W0,hW0⟩:=qE (w.alloc (Obj.cells #[.int .i64 9,.string s,.bool hi,.string t,.int .u64 lo,.int .u64 up,.int .i64 n] 65):World)
 have hb0:Below w.heap.size w W0:=by rw[hW0];exact qB
 have s0:=hb0.size
 have HW0:Hid (OwnS W0 base v l∧Fr base w W0∧Gl W0∧BoxAt W0 w.heap.size 65 7 w.heap.size [.int .i64 9,.string s,.bool hi,.string t,.int .u64 lo,.int .u64 up,.int .i64 n]):=by
  refine⟨hO.below hb0,(Fr.refl _ _).step hb0 hb,hG.on hb0 (by omega),?_⟩
  rw[hW0];exact boxAt_new w _ (Nat.le_refl _) rfl
 have c0:=HW0.2.2.2.cell (j:=0) rfl
 have gw:W0.cell? ⟨0,9,none⟩=some (.string ⟨#[113,117,97,108,115]⟩):=HW0.2.2.1.words 9 (by omega)
 clear hb0 hO hG
 go_enter Tryz.func76,Tryz.ntmps76
 go_upto_region 1 with fail
 rw[←hW0]
 clear hW0
 go_wp2_with (at_builtin;refine wpList_append_st _ rfl _ _ rfl base v l ⟨#[113,117,97,108,115]⟩ rfl rfl HW0.1 ?hl ?hb ?_)
 case hl=>first|omega|(show l.length+5≤_;omega)
 case hb=>omega
 intro v1 w1 hO1 hgr1
 have hgr2:W0.grownBy w1 v.ownBlock:=hgr1
 obtain⟨X1,hX1⟩:∃X1:List UInt8,X1=l++ [113,117,97,108,115]:=⟨_,rfl⟩
 have hO1':OwnS w1 base v1 X1:=by rw[hX1];exact hO1
 have x1:X1.length≤l.length+5:=by rw[hX1,List.length_append];exact Nat.le_refl _
 have HX1:Hid (X1=l++ [113,117,97,108,115]):=hX1
 clear hX1
 have hF1:=HW0.1.nextF HW0.2.1 (by omega) hgr2
 have HW1:Hid (OwnS w1 base v1 X1∧Fr base w w1∧Gl w1∧BoxAt w1 w.heap.size 65 7 w.heap.size [.int .i64 9,.string s,.bool hi,.string t,.int .u64 lo,.int .u64 up,.int .i64 n]):=by
  have hF01:Fr base W0 w1:=HW0.1.nextF (Fr.refl _ _) (by omega) hgr2
  exact⟨hO1',hF1,HW0.2.2.1.on hF01.below hB,hF01.box HW0.2.2.2 (by decide)⟩
 have s1:=hgr2.size
 clear hO1 hO1' hgr1 hgr2 c0 gw hF1
 have c0:=HW1.2.2.2.cell (j:=0) rfl
 obtain⟨W1,hW1⟩:=qE (w1.alloc (Obj.cells #[.int .u8 32] 5):World)
 have hb1:Below w1.heap.size w1 W1:=by rw[hW1];exact qB
 have t1:=hb1.size
 have HV1:Hid (OwnS W1 base v1 X1∧Fr base w W1∧BysAt W1 w1.heap.size 0 [32]∧Gl W1∧BoxAt W1 w.heap.size 65 7 w.heap.size [.int .i64 9,.string s,.bool hi,.string t,.int .u64 lo,.int .u64 up,.int .i64 n]):=by
  refine⟨HW1.1.below hb1,HW1.2.1.step hb1 (by omega),?_,HW1.2.2.1.on hb1 (by omega),HW1.2.2.2.below hb1⟩
  rw[hW1];exact bys_new w1 _ [32] rfl
 clear hb1
 go_wp2_with (at_builtin;(try rw[←hW1]);refine wpList_append_ys _ rfl _ _ rfl base w1.heap.size 0 1 1 v1 X1 [32] rfl rfl rfl HV1.1 HV1.2.2.1 ?hl ?hb ?_)
 case hl=>first|omega|(show X1.length+1≤_;omega)
 case hb=>omega
 intro v2 w2 hO2 hgr2
 have hgr2:W1.grownBy w2 v1.ownBlock:=by first|exact hgr2|(rw[hW1];exact hgr2)
 obtain⟨X2,hX2⟩:∃X2:List UInt8,X2=X1++ [32]:=⟨_,rfl⟩
 have hO':OwnS w2 base v2 X2:=by rw[hX2];exact hO2
 have x2:X2.length≤X1.length+1:=by rw[hX2,List.length_append];exact Nat.le_refl _
 have HX2:Hid (X2=X1++ [32]):=hX2
 clear hX2
 have HW2:Hid (OwnS w2 base v2 X2∧Fr base w w2∧Gl w2∧BoxAt w2 w.heap.size 65 7 w.heap.size [.int .i64 9,.string s,.bool hi,.string t,.int .u64 lo,.int .u64 up,.int .i64 n]):=by
  have hF01:Fr base W1 w2:=HV1.1.nextF (Fr.refl _ _) (by omega) hgr2
  exact⟨hO',HV1.2.1.trans hF01,HV1.2.2.2.1.on hF01.below hB,hF01.box HV1.2.2.2.2 (by decide)⟩
 have s2:=hgr2.size
 clear hO2 hO' hgr2
 try clear hgr2
 try clear hW1
 try clear c0
 have n0:=hn.lo0
 have n1:=hn.lo1
 have n2:=hn.up0
 have n3:=hn.up1
 simp only at n0 n1 n2 n3
 have e1:=HW2.2.2.2.cell (j:=1) rfl
 have e4:=HW2.2.2.2.cell (j:=4) rfl
 have hln:=endM_len (t:=bl s) (n:=lo) (by rw[bl_len];exact g0) n0 n1
 go_wp2_with fail
 refine(appendEnd_core base v2 X2 s lo w2 HW2.1 (by omega) (by omega) n0 n1 (by omega) HW2.2.2.1).mono ?_
 rintro e w3 ⟨v3,rfl,hO3,hF3⟩
 have s3:=hF3.below.size
 obtain⟨X3,hX3⟩:∃X3:List UInt8,X3=X2++endM (bl s) lo:=⟨_,rfl⟩
 have hO':OwnS w3 base v3 X3:=by rw[hX3];exact hO3
 have x3:X3.length≤X2.length+802:=by rw[hX3,List.length_append];omega
 have HX3:Hid (X3=X2++endM (bl s) lo):=hX3
 clear hX3
 have HW3:Hid (OwnS w3 base v3 X3∧Fr base w w3∧Gl w3∧BoxAt w3 w.heap.size 65 7 w.heap.size [.int .i64 9,.string s,.bool hi,.string t,.int .u64 lo,.int .u64 up,.int .i64 n]):=⟨hO',HW2.2.1.trans hF3,HW2.2.2.1.on hF3.below hB,hF3.box HW2.2.2.2 (by decide)⟩
 clear hO3 hO' hF3 e1 e4
 go_wp2_with (at_builtin;refine wpList_append_st _ rfl _ _ rfl base v3 X3 ⟨#[46,46]⟩ rfl rfl HW3.1 ?hl ?hb ?_)
 case hl=>first|omega|(show X3.length+2≤_;omega)
 case hb=>omega
 intro v4 w4 hO4 hgr2
 obtain⟨X4,hX4⟩:∃X4:List UInt8,X4=X3++ [46,46]:=⟨_,rfl⟩
 have hO':OwnS w4 base v4 X4:=by rw[hX4];exact hO4
 have x4:X4.length≤X3.length+2:=by rw[hX4,List.length_append];exact Nat.le_refl _
 have HX4:Hid (X4=X3++ [46,46]):=hX4
 clear hX4
 have HW4:Hid (OwnS w4 base v4 X4∧Fr base w w4∧Gl w4∧BoxAt w4 w.heap.size 65 7 w.heap.size [.int .i64 9,.string s,.bool hi,.string t,.int .u64 lo,.int .u64 up,.int .i64 n]):=by
  have hF01:Fr base w3 w4:=HW3.1.nextF (Fr.refl _ _) (by omega) hgr2
  exact⟨hO',HW3.2.1.trans hF01,HW3.2.2.1.on hF01.below hB,hF01.box HW3.2.2.2 (by decide)⟩
 have s4:=hgr2.size
 clear hO4 hO' hgr2
 have HL:Hid (l++leafM ⟨9,s,hi,t,lo,up,n⟩=X4++endM (bl t) up):=by show _=_;rw[HX4.out,HX3.out,HX2.out,HX1.out];simp[leafM,tailM,wordA,bl]
 have e3:=HW4.2.2.2.cell (j:=3) rfl
 have e5:=HW4.2.2.2.cell (j:=5) rfl
 go_wp2_with fail
 refine(appendEnd_core base v4 X4 t up w4 HW4.1 (by omega) (by omega) n2 n3 (by omega) HW4.2.2.1).mono ?_
 rintro e w9 ⟨v9,rfl,hO9,hF9⟩
 have HR:Hid (AppP base (l++leafM ⟨9,s,hi,t,lo,up,n⟩) w (.returned v9) w9):=⟨v9,rfl,by rw[HL.out];exact hO9,HW4.2.1.trans hF9⟩
 clear hO9 hF9
 go_wp2_with fail
 go_ret
 exact HR.out
set_option maxHeartbeats 4000000 in
theorem appendLeaf_10 (base:Nat) (v:Value) (l:List UInt8) (s:ByteArray) (hi:Bool) (t:ByteArray) (lo up n:Int) (w:World) (hg:GoodN ⟨10,s,hi,t,lo,up,n⟩) (hn:NumN ⟨10,s,hi,t,lo,up,n⟩) (hO:OwnS w base v l) (hl:l.length≤1000) (hb:base≤w.heap.size) (hG:Gl w) (hB:7≤base):
  Calls Tryz.prog 76 #[v,.agg #[.int .i64 10,.string s,.bool hi,.string t,.int .u64 lo,.int .u64 up,.int .i64 n]] w (AppP base (l++leafM ⟨10,s,hi,t,lo,up,n⟩) w):=by
 have HG:Hid (GoodN ⟨10,s,hi,t,lo,up,n⟩):=hg
 obtain⟨g0,g1,_,_⟩:=hg
 simp only at g0 g1
 obtain⟨W0,hW0⟩:=qE (w.alloc (Obj.cells #[.int .i64 10,.string s,.bool hi,.string t,.int .u64 lo,.int .u64 up,.int .i64 n] 65):World)
 have hb0:Below w.heap.size w W0:=by rw[hW0];exact qB
 have s0:=hb0.size
 have HW0:Hid (OwnS W0 base v l∧Fr base w W0∧Gl W0∧BoxAt W0 w.heap.size 65 7 w.heap.size [.int .i64 10,.string s,.bool hi,.string t,.int .u64 lo,.int .u64 up,.int .i64 n]):=by
  refine⟨hO.below hb0,(Fr.refl _ _).step hb0 hb,hG.on hb0 (by omega),?_⟩
  rw[hW0];exact boxAt_new w _ (Nat.le_refl _) rfl
 have c0:=HW0.2.2.2.cell (j:=0) rfl
 have gw:W0.cell? ⟨0,10,none⟩=some (.string ⟨#[116,115]⟩):=HW0.2.2.1.words 10 (by omega)
 clear hb0 hO hG
 go_enter Tryz.func76,Tryz.ntmps76
 go_upto_region 1 with fail
 rw[←hW0]
 clear hW0
 go_wp2_with (at_builtin;refine wpList_append_st _ rfl _ _ rfl base v l ⟨#[116,115]⟩ rfl rfl HW0.1 ?hl ?hb ?_)
 case hl=>first|omega|(show l.length+2≤_;omega)
 case hb=>omega
 intro v1 w1 hO1 hgr1
 have hgr2:W0.grownBy w1 v.ownBlock:=hgr1
 obtain⟨X1,hX1⟩:∃X1:List UInt8,X1=l++ [116,115]:=⟨_,rfl⟩
 have hO1':OwnS w1 base v1 X1:=by rw[hX1];exact hO1
 have x1:X1.length≤l.length+2:=by rw[hX1,List.length_append];exact Nat.le_refl _
 have HX1:Hid (X1=l++ [116,115]):=hX1
 clear hX1
 have hF1:=HW0.1.nextF HW0.2.1 (by omega) hgr2
 have HW1:Hid (OwnS w1 base v1 X1∧Fr base w w1∧Gl w1∧BoxAt w1 w.heap.size 65 7 w.heap.size [.int .i64 10,.string s,.bool hi,.string t,.int .u64 lo,.int .u64 up,.int .i64 n]):=by
  have hF01:Fr base W0 w1:=HW0.1.nextF (Fr.refl _ _) (by omega) hgr2
  exact⟨hO1',hF1,HW0.2.2.1.on hF01.below hB,hF01.box HW0.2.2.2 (by decide)⟩
 have s1:=hgr2.size
 clear hO1 hO1' hgr1 hgr2 c0 gw hF1
 have c0:=HW1.2.2.2.cell (j:=0) rfl
 obtain⟨W1,hW1⟩:=qE (w1.alloc (Obj.cells #[.int .u8 32] 5):World)
 have hb1:Below w1.heap.size w1 W1:=by rw[hW1];exact qB
 have t1:=hb1.size
 have HV1:Hid (OwnS W1 base v1 X1∧Fr base w W1∧BysAt W1 w1.heap.size 0 [32]∧Gl W1∧BoxAt W1 w.heap.size 65 7 w.heap.size [.int .i64 10,.string s,.bool hi,.string t,.int .u64 lo,.int .u64 up,.int .i64 n]):=by
  refine⟨HW1.1.below hb1,HW1.2.1.step hb1 (by omega),?_,HW1.2.2.1.on hb1 (by omega),HW1.2.2.2.below hb1⟩
  rw[hW1];exact bys_new w1 _ [32] rfl
 clear hb1
 go_wp2_with (at_builtin;(try rw[←hW1]);refine wpList_append_ys _ rfl _ _ rfl base w1.heap.size 0 1 1 v1 X1 [32] rfl rfl rfl HV1.1 HV1.2.2.1 ?hl ?hb ?_)
 case hl=>first|omega|(show X1.length+1≤_;omega)
 case hb=>omega
 intro v2 w2 hO2 hgr2
 have hgr2:W1.grownBy w2 v1.ownBlock:=by first|exact hgr2|(rw[hW1];exact hgr2)
 obtain⟨X2,hX2⟩:∃X2:List UInt8,X2=X1++ [32]:=⟨_,rfl⟩
 have hO':OwnS w2 base v2 X2:=by rw[hX2];exact hO2
 have x2:X2.length≤X1.length+1:=by rw[hX2,List.length_append];exact Nat.le_refl _
 have HX2:Hid (X2=X1++ [32]):=hX2
 clear hX2
 have HW2:Hid (OwnS w2 base v2 X2∧Fr base w w2∧Gl w2∧BoxAt w2 w.heap.size 65 7 w.heap.size [.int .i64 10,.string s,.bool hi,.string t,.int .u64 lo,.int .u64 up,.int .i64 n]):=by
  have hF01:Fr base W1 w2:=HV1.1.nextF (Fr.refl _ _) (by omega) hgr2
  exact⟨hO',HV1.2.1.trans hF01,HV1.2.2.2.1.on hF01.below hB,hF01.box HV1.2.2.2.2 (by decide)⟩
 have s2:=hgr2.size
 clear hO2 hO' hgr2
 try clear hgr2
 try clear hW1
 try clear c0
 have n0:=hn.lo0
 have n1:=hn.lo1
 have n2:=hn.up0
 have n3:=hn.up1
 simp only at n0 n1 n2 n3
 have e1:=HW2.2.2.2.cell (j:=1) rfl
 have e4:=HW2.2.2.2.cell (j:=4) rfl
 have hln:=endM_len (t:=bl s) (n:=lo) (by rw[bl_len];exact g0) n0 n1
 go_wp2_with fail
 refine(appendEnd_core base v2 X2 s lo w2 HW2.1 (by omega) (by omega) n0 n1 (by omega) HW2.2.2.1).mono ?_
 rintro e w3 ⟨v3,rfl,hO3,hF3⟩
 have s3:=hF3.below.size
 obtain⟨X3,hX3⟩:∃X3:List UInt8,X3=X2++endM (bl s) lo:=⟨_,rfl⟩
 have hO':OwnS w3 base v3 X3:=by rw[hX3];exact hO3
 have x3:X3.length≤X2.length+802:=by rw[hX3,List.length_append];omega
 have HX3:Hid (X3=X2++endM (bl s) lo):=hX3
 clear hX3
 have HW3:Hid (OwnS w3 base v3 X3∧Fr base w w3∧Gl w3∧BoxAt w3 w.heap.size 65 7 w.heap.size [.int .i64 10,.string s,.bool hi,.string t,.int .u64 lo,.int .u64 up,.int .i64 n]):=⟨hO',HW2.2.1.trans hF3,HW2.2.2.1.on hF3.below hB,hF3.box HW2.2.2.2 (by decide)⟩
 clear hO3 hO' hF3 e1 e4
 go_wp2_with (at_builtin;refine wpList_append_st _ rfl _ _ rfl base v3 X3 ⟨#[46,46]⟩ rfl rfl HW3.1 ?hl ?hb ?_)
 case hl=>first|omega|(show X3.length+2≤_;omega)
 case hb=>omega
 intro v4 w4 hO4 hgr2
 obtain⟨X4,hX4⟩:∃X4:List UInt8,X4=X3++ [46,46]:=⟨_,rfl⟩
 have hO':OwnS w4 base v4 X4:=by rw[hX4];exact hO4
 have x4:X4.length≤X3.length+2:=by rw[hX4,List.length_append];exact Nat.le_refl _
 have HX4:Hid (X4=X3++ [46,46]):=hX4
 clear hX4
 have HW4:Hid (OwnS w4 base v4 X4∧Fr base w w4∧Gl w4∧BoxAt w4 w.heap.size 65 7 w.heap.size [.int .i64 10,.string s,.bool hi,.string t,.int .u64 lo,.int .u64 up,.int .i64 n]):=by
  have hF01:Fr base w3 w4:=HW3.1.nextF (Fr.refl _ _) (by omega) hgr2
  exact⟨hO',HW3.2.1.trans hF01,HW3.2.2.1.on hF01.below hB,hF01.box HW3.2.2.2 (by decide)⟩
 have s4:=hgr2.size
 clear hO4 hO' hgr2
 have HL:Hid (l++leafM ⟨10,s,hi,t,lo,up,n⟩=X4++endM (bl t) up):=by show _=_;rw[HX4.out,HX3.out,HX2.out,HX1.out];simp[leafM,tailM,wordA,bl]
 have e3:=HW4.2.2.2.cell (j:=3) rfl
 have e5:=HW4.2.2.2.cell (j:=5) rfl
 go_wp2_with fail
 refine(appendEnd_core base v4 X4 t up w4 HW4.1 (by omega) (by omega) n2 n3 (by omega) HW4.2.2.1).mono ?_
 rintro e w9 ⟨v9,rfl,hO9,hF9⟩
 have HR:Hid (AppP base (l++leafM ⟨10,s,hi,t,lo,up,n⟩) w (.returned v9) w9):=⟨v9,rfl,by rw[HL.out];exact hO9,HW4.2.1.trans hF9⟩
 clear hO9 hF9
 go_wp2_with fail
 go_ret
 exact HR.out
set_option maxHeartbeats 4000000 in
theorem appendLeaf_11 (base:Nat) (v:Value) (l:List UInt8) (s:ByteArray) (hi:Bool) (t:ByteArray) (lo up n:Int) (w:World) (hg:GoodN ⟨11,s,hi,t,lo,up,n⟩) (hn:NumN ⟨11,s,hi,t,lo,up,n⟩) (hO:OwnS w base v l) (hl:l.length≤1000) (hb:base≤w.heap.size) (hG:Gl w) (hB:7≤base):
  Calls Tryz.prog 76 #[v,.agg #[.int .i64 11,.string s,.bool hi,.string t,.int .u64 lo,.int .u64 up,.int .i64 n]] w (AppP base (l++leafM ⟨11,s,hi,t,lo,up,n⟩) w):=by
 have HG:Hid (GoodN ⟨11,s,hi,t,lo,up,n⟩):=hg
 obtain⟨g0,g1,_,_⟩:=hg
 simp only at g0 g1
 obtain⟨W0,hW0⟩:=qE (w.alloc (Obj.cells #[.int .i64 11,.string s,.bool hi,.string t,.int .u64 lo,.int .u64 up,.int .i64 n] 65):World)
 have hb0:Below w.heap.size w W0:=by rw[hW0];exact qB
 have s0:=hb0.size
 have HW0:Hid (OwnS W0 base v l∧Fr base w W0∧Gl W0∧BoxAt W0 w.heap.size 65 7 w.heap.size [.int .i64 11,.string s,.bool hi,.string t,.int .u64 lo,.int .u64 up,.int .i64 n]):=by
  refine⟨hO.below hb0,(Fr.refl _ _).step hb0 hb,hG.on hb0 (by omega),?_⟩
  rw[hW0];exact boxAt_new w _ (Nat.le_refl _) rfl
 have c0:=HW0.2.2.2.cell (j:=0) rfl
 have gw:W0.cell? ⟨0,11,none⟩=some (.string ⟨#[118,101,114,115,105,111,110,115]⟩):=HW0.2.2.1.words 11 (by omega)
 clear hb0 hO hG
 go_enter Tryz.func76,Tryz.ntmps76
 go_upto_region 1 with fail
 rw[←hW0]
 clear hW0
 go_wp2_with (at_builtin;refine wpList_append_st _ rfl _ _ rfl base v l ⟨#[118,101,114,115,105,111,110,115]⟩ rfl rfl HW0.1 ?hl ?hb ?_)
 case hl=>first|omega|(show l.length+8≤_;omega)
 case hb=>omega
 intro v1 w1 hO1 hgr1
 have hgr2:W0.grownBy w1 v.ownBlock:=hgr1
 obtain⟨X1,hX1⟩:∃X1:List UInt8,X1=l++ [118,101,114,115,105,111,110,115]:=⟨_,rfl⟩
 have hO1':OwnS w1 base v1 X1:=by rw[hX1];exact hO1
 have x1:X1.length≤l.length+8:=by rw[hX1,List.length_append];exact Nat.le_refl _
 have HX1:Hid (X1=l++ [118,101,114,115,105,111,110,115]):=hX1
 clear hX1
 have hF1:=HW0.1.nextF HW0.2.1 (by omega) hgr2
 have HW1:Hid (OwnS w1 base v1 X1∧Fr base w w1∧Gl w1∧BoxAt w1 w.heap.size 65 7 w.heap.size [.int .i64 11,.string s,.bool hi,.string t,.int .u64 lo,.int .u64 up,.int .i64 n]):=by
  have hF01:Fr base W0 w1:=HW0.1.nextF (Fr.refl _ _) (by omega) hgr2
  exact⟨hO1',hF1,HW0.2.2.1.on hF01.below hB,hF01.box HW0.2.2.2 (by decide)⟩
 have s1:=hgr2.size
 clear hO1 hO1' hgr1 hgr2 c0 gw hF1
 have c0:=HW1.2.2.2.cell (j:=0) rfl
 obtain⟨W1,hW1⟩:=qE (w1.alloc (Obj.cells #[.int .u8 32] 5):World)
 have hb1:Below w1.heap.size w1 W1:=by rw[hW1];exact qB
 have t1:=hb1.size
 have HV1:Hid (OwnS W1 base v1 X1∧Fr base w W1∧BysAt W1 w1.heap.size 0 [32]∧Gl W1∧BoxAt W1 w.heap.size 65 7 w.heap.size [.int .i64 11,.string s,.bool hi,.string t,.int .u64 lo,.int .u64 up,.int .i64 n]):=by
  refine⟨HW1.1.below hb1,HW1.2.1.step hb1 (by omega),?_,HW1.2.2.1.on hb1 (by omega),HW1.2.2.2.below hb1⟩
  rw[hW1];exact bys_new w1 _ [32] rfl
 clear hb1
 go_wp2_with (at_builtin;(try rw[←hW1]);refine wpList_append_ys _ rfl _ _ rfl base w1.heap.size 0 1 1 v1 X1 [32] rfl rfl rfl HV1.1 HV1.2.2.1 ?hl ?hb ?_)
 case hl=>first|omega|(show X1.length+1≤_;omega)
 case hb=>omega
 intro v2 w2 hO2 hgr2
 have hgr2:W1.grownBy w2 v1.ownBlock:=by first|exact hgr2|(rw[hW1];exact hgr2)
 obtain⟨X2,hX2⟩:∃X2:List UInt8,X2=X1++ [32]:=⟨_,rfl⟩
 have hO':OwnS w2 base v2 X2:=by rw[hX2];exact hO2
 have x2:X2.length≤X1.length+1:=by rw[hX2,List.length_append];exact Nat.le_refl _
 have HX2:Hid (X2=X1++ [32]):=hX2
 clear hX2
 have HW2:Hid (OwnS w2 base v2 X2∧Fr base w w2∧Gl w2∧BoxAt w2 w.heap.size 65 7 w.heap.size [.int .i64 11,.string s,.bool hi,.string t,.int .u64 lo,.int .u64 up,.int .i64 n]):=by
  have hF01:Fr base W1 w2:=HV1.1.nextF (Fr.refl _ _) (by omega) hgr2
  exact⟨hO',HV1.2.1.trans hF01,HV1.2.2.2.1.on hF01.below hB,hF01.box HV1.2.2.2.2 (by decide)⟩
 have s2:=hgr2.size
 clear hO2 hO' hgr2
 try clear hgr2
 try clear hW1
 try clear c0
 have hn1:1≤n∧n≤1000:=by
  obtain⟨_,_,_,g3⟩:=HG.out
  simp only at g3
  omega
 obtain⟨m,rfl⟩:=Int.eq_ofNat_of_zero_le (show 0≤n by omega)
 have HL:Hid (l++leafM ⟨11,s,hi,t,lo,up,(m:Int)⟩=X2++Lib.decDigits m):=by show _=_;rw[HX2.out,HX1.out];simp[leafM,tailM,wordA,bl]
 have e6:=HW2.2.2.2.cell (j:=6) rfl
 go_wp2_with fail
 refine(appendInt_core base v2 X2 m w2 HW2.1 (by omega) (by omega) (by omega) HW2.2.2.1 hB).mono ?_
 rintro e w9 ⟨v9,rfl,hO9,hF9⟩
 have HR:Hid (AppP base (l++leafM ⟨11,s,hi,t,lo,up,(m:Int)⟩) w (.returned v9) w9):=⟨v9,rfl,by rw[HL.out];exact hO9,HW2.2.1.trans hF9⟩
 clear hO9 hF9
 go_wp2_with fail
 go_ret
 exact HR.out
set_option maxHeartbeats 4000000 in
theorem appendLeaf_12 (base:Nat) (v:Value) (l:List UInt8) (s:ByteArray) (hi:Bool) (t:ByteArray) (lo up n:Int) (w:World) (hg:GoodN ⟨12,s,hi,t,lo,up,n⟩) (hn:NumN ⟨12,s,hi,t,lo,up,n⟩) (hO:OwnS w base v l) (hl:l.length≤1000) (hb:base≤w.heap.size) (hG:Gl w) (hB:7≤base):
  Calls Tryz.prog 76 #[v,.agg #[.int .i64 12,.string s,.bool hi,.string t,.int .u64 lo,.int .u64 up,.int .i64 n]] w (AppP base (l++leafM ⟨12,s,hi,t,lo,up,n⟩) w):=by
 have HG:Hid (GoodN ⟨12,s,hi,t,lo,up,n⟩):=hg
 obtain⟨g0,g1,_,_⟩:=hg
 simp only at g0 g1
 obtain⟨W0,hW0⟩:=qE (w.alloc (Obj.cells #[.int .i64 12,.string s,.bool hi,.string t,.int .u64 lo,.int .u64 up,.int .i64 n] 65):World)
 have hb0:Below w.heap.size w W0:=by rw[hW0];exact qB
 have s0:=hb0.size
 have HW0:Hid (OwnS W0 base v l∧Fr base w W0∧Gl W0∧BoxAt W0 w.heap.size 65 7 w.heap.size [.int .i64 12,.string s,.bool hi,.string t,.int .u64 lo,.int .u64 up,.int .i64 n]):=by
  refine⟨hO.below hb0,(Fr.refl _ _).step hb0 hb,hG.on hb0 (by omega),?_⟩
  rw[hW0];exact boxAt_new w _ (Nat.le_refl _) rfl
 have c0:=HW0.2.2.2.cell (j:=0) rfl
 have gw:W0.cell? ⟨0,12,none⟩=some (.string ⟨#[99,101,108,108,115]⟩):=HW0.2.2.1.words 12 (by omega)
 clear hb0 hO hG
 go_enter Tryz.func76,Tryz.ntmps76
 go_upto_region 1 with fail
 rw[←hW0]
 clear hW0
 go_wp2_with (at_builtin;refine wpList_append_st _ rfl _ _ rfl base v l ⟨#[99,101,108,108,115]⟩ rfl rfl HW0.1 ?hl ?hb ?_)
 case hl=>first|omega|(show l.length+5≤_;omega)
 case hb=>omega
 intro v1 w1 hO1 hgr1
 have hgr2:W0.grownBy w1 v.ownBlock:=hgr1
 obtain⟨X1,hX1⟩:∃X1:List UInt8,X1=l++ [99,101,108,108,115]:=⟨_,rfl⟩
 have hO1':OwnS w1 base v1 X1:=by rw[hX1];exact hO1
 have x1:X1.length≤l.length+5:=by rw[hX1,List.length_append];exact Nat.le_refl _
 have HX1:Hid (X1=l++ [99,101,108,108,115]):=hX1
 clear hX1
 have hF1:=HW0.1.nextF HW0.2.1 (by omega) hgr2
 have HW1:Hid (OwnS w1 base v1 X1∧Fr base w w1∧Gl w1∧BoxAt w1 w.heap.size 65 7 w.heap.size [.int .i64 12,.string s,.bool hi,.string t,.int .u64 lo,.int .u64 up,.int .i64 n]):=by
  have hF01:Fr base W0 w1:=HW0.1.nextF (Fr.refl _ _) (by omega) hgr2
  exact⟨hO1',hF1,HW0.2.2.1.on hF01.below hB,hF01.box HW0.2.2.2 (by decide)⟩
 have s1:=hgr2.size
 clear hO1 hO1' hgr1 hgr2 c0 gw hF1
 have c0:=HW1.2.2.2.cell (j:=0) rfl
 obtain⟨W1,hW1⟩:=qE (w1.alloc (Obj.cells #[.int .u8 32] 5):World)
 have hb1:Below w1.heap.size w1 W1:=by rw[hW1];exact qB
 have t1:=hb1.size
 have HV1:Hid (OwnS W1 base v1 X1∧Fr base w W1∧BysAt W1 w1.heap.size 0 [32]∧Gl W1∧BoxAt W1 w.heap.size 65 7 w.heap.size [.int .i64 12,.string s,.bool hi,.string t,.int .u64 lo,.int .u64 up,.int .i64 n]):=by
  refine⟨HW1.1.below hb1,HW1.2.1.step hb1 (by omega),?_,HW1.2.2.1.on hb1 (by omega),HW1.2.2.2.below hb1⟩
  rw[hW1];exact bys_new w1 _ [32] rfl
 clear hb1
 go_wp2_with (at_builtin;(try rw[←hW1]);refine wpList_append_ys _ rfl _ _ rfl base w1.heap.size 0 1 1 v1 X1 [32] rfl rfl rfl HV1.1 HV1.2.2.1 ?hl ?hb ?_)
 case hl=>first|omega|(show X1.length+1≤_;omega)
 case hb=>omega
 intro v2 w2 hO2 hgr2
 have hgr2:W1.grownBy w2 v1.ownBlock:=by first|exact hgr2|(rw[hW1];exact hgr2)
 obtain⟨X2,hX2⟩:∃X2:List UInt8,X2=X1++ [32]:=⟨_,rfl⟩
 have hO':OwnS w2 base v2 X2:=by rw[hX2];exact hO2
 have x2:X2.length≤X1.length+1:=by rw[hX2,List.length_append];exact Nat.le_refl _
 have HX2:Hid (X2=X1++ [32]):=hX2
 clear hX2
 have HW2:Hid (OwnS w2 base v2 X2∧Fr base w w2∧Gl w2∧BoxAt w2 w.heap.size 65 7 w.heap.size [.int .i64 12,.string s,.bool hi,.string t,.int .u64 lo,.int .u64 up,.int .i64 n]):=by
  have hF01:Fr base W1 w2:=HV1.1.nextF (Fr.refl _ _) (by omega) hgr2
  exact⟨hO',HV1.2.1.trans hF01,HV1.2.2.2.1.on hF01.below hB,hF01.box HV1.2.2.2.2 (by decide)⟩
 have s2:=hgr2.size
 clear hO2 hO' hgr2
 try clear hgr2
 try clear hW1
 try clear c0
 have hn1:1≤n∧n≤1000:=by
  obtain⟨_,_,_,g3⟩:=HG.out
  simp only at g3
  omega
 obtain⟨m,rfl⟩:=Int.eq_ofNat_of_zero_le (show 0≤n by omega)
 have HL:Hid (l++leafM ⟨12,s,hi,t,lo,up,(m:Int)⟩=X2++Lib.decDigits m):=by show _=_;rw[HX2.out,HX1.out];simp[leafM,tailM,wordA,bl]
 have e6:=HW2.2.2.2.cell (j:=6) rfl
 go_wp2_with fail
 refine(appendInt_core base v2 X2 m w2 HW2.1 (by omega) (by omega) (by omega) HW2.2.2.1 hB).mono ?_
 rintro e w9 ⟨v9,rfl,hO9,hF9⟩
 have HR:Hid (AppP base (l++leafM ⟨12,s,hi,t,lo,up,(m:Int)⟩) w (.returned v9) w9):=⟨v9,rfl,by rw[HL.out];exact hO9,HW2.2.1.trans hF9⟩
 clear hO9 hF9
 go_wp2_with fail
 go_ret
 exact HR.out
set_option maxHeartbeats 4000000 in
theorem appendLeaf_13 (base:Nat) (v:Value) (l:List UInt8) (s:ByteArray) (hi:Bool) (t:ByteArray) (lo up n:Int) (w:World) (hg:GoodN ⟨13,s,hi,t,lo,up,n⟩) (hn:NumN ⟨13,s,hi,t,lo,up,n⟩) (hO:OwnS w base v l) (hl:l.length≤1000) (hb:base≤w.heap.size) (hG:Gl w) (hB:7≤base):
  Calls Tryz.prog 76 #[v,.agg #[.int .i64 13,.string s,.bool hi,.string t,.int .u64 lo,.int .u64 up,.int .i64 n]] w (AppP base (l++leafM ⟨13,s,hi,t,lo,up,n⟩) w):=by
 have HG:Hid (GoodN ⟨13,s,hi,t,lo,up,n⟩):=hg
 obtain⟨g0,g1,_,_⟩:=hg
 simp only at g0 g1
 obtain⟨W0,hW0⟩:=qE (w.alloc (Obj.cells #[.int .i64 13,.string s,.bool hi,.string t,.int .u64 lo,.int .u64 up,.int .i64 n] 65):World)
 have hb0:Below w.heap.size w W0:=by rw[hW0];exact qB
 have s0:=hb0.size
 have HW0:Hid (OwnS W0 base v l∧Fr base w W0∧Gl W0∧BoxAt W0 w.heap.size 65 7 w.heap.size [.int .i64 13,.string s,.bool hi,.string t,.int .u64 lo,.int .u64 up,.int .i64 n]):=by
  refine⟨hO.below hb0,(Fr.refl _ _).step hb0 hb,hG.on hb0 (by omega),?_⟩
  rw[hW0];exact boxAt_new w _ (Nat.le_refl _) rfl
 have c0:=HW0.2.2.2.cell (j:=0) rfl
 have gw:W0.cell? ⟨0,13,none⟩=some (.string ⟨#[115,107,105,112]⟩):=HW0.2.2.1.words 13 (by omega)
 clear hb0 hO hG
 go_enter Tryz.func76,Tryz.ntmps76
 go_upto_region 1 with fail
 rw[←hW0]
 clear hW0
 go_wp2_with (at_builtin;refine wpList_append_st _ rfl _ _ rfl base v l ⟨#[115,107,105,112]⟩ rfl rfl HW0.1 ?hl ?hb ?_)
 case hl=>first|omega|(show l.length+4≤_;omega)
 case hb=>omega
 intro v1 w1 hO1 hgr1
 have hgr2:W0.grownBy w1 v.ownBlock:=hgr1
 obtain⟨X1,hX1⟩:∃X1:List UInt8,X1=l++ [115,107,105,112]:=⟨_,rfl⟩
 have hO1':OwnS w1 base v1 X1:=by rw[hX1];exact hO1
 have x1:X1.length≤l.length+4:=by rw[hX1,List.length_append];exact Nat.le_refl _
 have HX1:Hid (X1=l++ [115,107,105,112]):=hX1
 clear hX1
 have hF1:=HW0.1.nextF HW0.2.1 (by omega) hgr2
 have HW1:Hid (OwnS w1 base v1 X1∧Fr base w w1∧Gl w1∧BoxAt w1 w.heap.size 65 7 w.heap.size [.int .i64 13,.string s,.bool hi,.string t,.int .u64 lo,.int .u64 up,.int .i64 n]):=by
  have hF01:Fr base W0 w1:=HW0.1.nextF (Fr.refl _ _) (by omega) hgr2
  exact⟨hO1',hF1,HW0.2.2.1.on hF01.below hB,hF01.box HW0.2.2.2 (by decide)⟩
 have s1:=hgr2.size
 clear hO1 hO1' hgr1 hgr2 c0 gw hF1
 have c0:=HW1.2.2.2.cell (j:=0) rfl
 obtain⟨W1,hW1⟩:=qE (w1.alloc (Obj.cells #[.int .u8 32] 5):World)
 have hb1:Below w1.heap.size w1 W1:=by rw[hW1];exact qB
 have t1:=hb1.size
 have HV1:Hid (OwnS W1 base v1 X1∧Fr base w W1∧BysAt W1 w1.heap.size 0 [32]∧Gl W1∧BoxAt W1 w.heap.size 65 7 w.heap.size [.int .i64 13,.string s,.bool hi,.string t,.int .u64 lo,.int .u64 up,.int .i64 n]):=by
  refine⟨HW1.1.below hb1,HW1.2.1.step hb1 (by omega),?_,HW1.2.2.1.on hb1 (by omega),HW1.2.2.2.below hb1⟩
  rw[hW1];exact bys_new w1 _ [32] rfl
 clear hb1
 go_wp2_with (at_builtin;(try rw[←hW1]);refine wpList_append_ys _ rfl _ _ rfl base w1.heap.size 0 1 1 v1 X1 [32] rfl rfl rfl HV1.1 HV1.2.2.1 ?hl ?hb ?_)
 case hl=>first|omega|(show X1.length+1≤_;omega)
 case hb=>omega
 intro v2 w2 hO2 hgr2
 have hgr2:W1.grownBy w2 v1.ownBlock:=by first|exact hgr2|(rw[hW1];exact hgr2)
 obtain⟨X2,hX2⟩:∃X2:List UInt8,X2=X1++ [32]:=⟨_,rfl⟩
 have hO':OwnS w2 base v2 X2:=by rw[hX2];exact hO2
 have x2:X2.length≤X1.length+1:=by rw[hX2,List.length_append];exact Nat.le_refl _
 have HX2:Hid (X2=X1++ [32]):=hX2
 clear hX2
 have HW2:Hid (OwnS w2 base v2 X2∧Fr base w w2∧Gl w2∧BoxAt w2 w.heap.size 65 7 w.heap.size [.int .i64 13,.string s,.bool hi,.string t,.int .u64 lo,.int .u64 up,.int .i64 n]):=by
  have hF01:Fr base W1 w2:=HV1.1.nextF (Fr.refl _ _) (by omega) hgr2
  exact⟨hO',HV1.2.1.trans hF01,HV1.2.2.2.1.on hF01.below hB,hF01.box HV1.2.2.2.2 (by decide)⟩
 have s2:=hgr2.size
 clear hO2 hO' hgr2
 try clear hgr2
 try clear hW1
 try clear c0
 have hn1:1≤n∧n≤1000:=by
  obtain⟨_,_,_,g3⟩:=HG.out
  simp only at g3
  omega
 obtain⟨m,rfl⟩:=Int.eq_ofNat_of_zero_le (show 0≤n by omega)
 have HL:Hid (l++leafM ⟨13,s,hi,t,lo,up,(m:Int)⟩=X2++Lib.decDigits m):=by show _=_;rw[HX2.out,HX1.out];simp[leafM,tailM,wordA,bl]
 have e6:=HW2.2.2.2.cell (j:=6) rfl
 go_wp2_with fail
 refine(appendInt_core base v2 X2 m w2 HW2.1 (by omega) (by omega) (by omega) HW2.2.2.1 hB).mono ?_
 rintro e w9 ⟨v9,rfl,hO9,hF9⟩
 have HR:Hid (AppP base (l++leafM ⟨13,s,hi,t,lo,up,(m:Int)⟩) w (.returned v9) w9):=⟨v9,rfl,by rw[HL.out];exact hO9,HW2.2.1.trans hF9⟩
 clear hO9 hF9
 go_wp2_with fail
 go_ret
 exact HR.out
theorem appendLeaf_core (base:Nat) (v:Value) (l:List UInt8) (e:Nd) (w:World) (hg:GoodN e) (hn:NumN e) (hk:arity e.kind=0) (hO:OwnS w base v l) (hl:l.length≤1000) (hb:base≤w.heap.size) (hG:Gl w) (hB:7≤base):
  Calls Tryz.prog 76 #[v,e.v] w (AppP base (l++leafM e) w):=by
 obtain⟨kind,s,hi,t,lo,up,n⟩:=e
 have h13:kind=1∨kind=2∨kind=3∨kind=4∨kind=5∨kind=6∨kind=7∨kind=8∨kind=9∨kind=10∨kind=11∨kind=12∨kind=13:=by
  obtain⟨_,_,_,h⟩:=hg
  simp only at h hk
  unfold arity at hk
  by_cases q14:kind=14∨kind=15
  ·rw[if_pos q14]at hk;cases hk
  ·by_cases q16:kind=16
   ·rw[if_neg q14,if_pos q16]at hk;cases hk
   ·omega
 rcases h13 with rfl|rfl|rfl|rfl|rfl|rfl|rfl|rfl|rfl|rfl|rfl|rfl|rfl
 ·exact appendLeaf_1 base v l s hi t lo up n w hg hn hO hl hb hG hB
 ·exact appendLeaf_2 base v l s hi t lo up n w hg hn hO hl hb hG hB
 ·exact appendLeaf_3 base v l s hi t lo up n w hg hn hO hl hb hG hB
 ·exact appendLeaf_4 base v l s hi t lo up n w hg hn hO hl hb hG hB
 ·exact appendLeaf_5 base v l s hi t lo up n w hg hn hO hl hb hG hB
 ·exact appendLeaf_6 base v l s hi t lo up n w hg hn hO hl hb hG hB
 ·exact appendLeaf_7 base v l s hi t lo up n w hg hn hO hl hb hG hB
 ·exact appendLeaf_8 base v l s hi t lo up n w hg hn hO hl hb hG hB
 ·exact appendLeaf_9 base v l s hi t lo up n w hg hn hO hl hb hG hB
 ·exact appendLeaf_10 base v l s hi t lo up n w hg hn hO hl hb hG hB
 ·exact appendLeaf_11 base v l s hi t lo up n w hg hn hO hl hb hG hB
 ·exact appendLeaf_12 base v l s hi t lo up n w hg hn hO hl hb hG hB
 ·exact appendLeaf_13 base v l s hi t lo up n w hg hn hO hl hb hG hB
theorem emptyL:(⟨#[]⟩:ByteArray).toList= []:=by first|(simp;done)|(kernel_rfl;done)|(go_simp;done)
theorem lessL:Op.bytesLess [] []=false:=by first|(kernel_rfl;done)|(decide;done)|(simp[Op.bytesLess];done)
theorem ndEq_is (k:Int) (s:ByteArray) (h:Bool) (t:ByteArray) (l u n k':Int) (s':ByteArray) (h':Bool) (t':ByteArray) (l' u' n':Int) (B:Bool) (hB:B=decide (k=k'∧s.toList=s'.toList∧h=h'∧t.toList=t'.toList∧l=l'∧u=u'∧n=n')) (wx:World):
  (binOp .eql 65 (.agg #[.int .i64 k,.string s,.bool h,.string t,.int .u64 l,.int .u64 u,.int .i64 n]) (.agg #[.int .i64 k',.string s',.bool h',.string t',.int .u64 l',.int .u64 u',.int .i64 n'])).run Tryz.prog wx=.ok (.bool B) wx:=by
 rw[hB];exact ndEq_run k s h t l u n k' s' h' t' l' u' n' wx
set_option maxHeartbeats 8000000 in
theorem validNode_core (e:Nd) (w:World) (hs:e.s.size≤maxLen) (ht:e.t.size≤maxLen):Calls Tryz.prog 100 #[e.v] w (NdPost e w):=by
 obtain⟨kind,s,hi,t,lo,up,n⟩:=e
 have HS:Hid (s.size≤maxLen):=hs
 unfold maxLen at hs ht
 simp only[]at hs ht
 obtain⟨W0,hW0⟩:=qE (w.alloc (Obj.cells #[.int .i64 kind,.string s,.bool hi,.string t,.int .u64 lo,.int .u64 up,.int .i64 n] 65):World)
 have HW0:Hid (BoxAt W0 w.heap.size 65 7 w.heap.size [.int .i64 kind,.string s,.bool hi,.string t,.int .u64 lo,.int .u64 up,.int .i64 n]∧Below w.heap.size w W0):=by
  rw[hW0];exact⟨boxAt_new w _ (Nat.le_refl _) rfl,qB⟩
 have hbw:=HW0.2.size
 have c0:=HW0.1.cell (j:=0) rfl
 have c1:=HW0.1.cell (j:=1) rfl
 have c2:=HW0.1.cell (j:=2) rfl
 have c3:=HW0.1.cell (j:=3) rfl
 have c4:=HW0.1.cell (j:=4) rfl
 have c5:=HW0.1.cell (j:=5) rfl
 have c6:=HW0.1.cell (j:=6) rfl
 go_enter Tryz.func100,Tryz.ntmps100
 go_upto_region 1 with fail
 rw[←hW0]
 clear hW0
 by_cases hgood:s.size≤200∧t.size≤200
 case neg=>
  have HG:Hid (¬GoodN ⟨kind,s,hi,t,lo,up,n⟩):=fun q=>hgood ⟨q.1,q.2.1⟩
  by_cases h1:s.size≤200
  ·have z1:¬(200:Int)<(s.size:Int):=by omega
   have h2:¬t.size≤200:=fun q=>hgood ⟨h1,q⟩
   have z2:(200:Int)<(t.size:Int):=by omega
   exact zzQ41
  ·have z1:(200:Int)<(s.size:Int):=by omega
   exact zzQ41
 have HG:Hid (s.size≤200∧t.size≤200):=hgood
 have z1:¬(200:Int)<(s.size:Int):=by omega
 have z2:¬(200:Int)<(t.size:Int):=by omega
 clear hgood hs ht
 obtain⟨c,hc⟩:=qE ((checkM (sb s)).1)
 obtain⟨k,hk⟩:=qE (((checkM (sb s)).2:Int):Int)
 have HV:Hid (c=(checkM (sb s)).1):=hc
 have HC:Hid (∀w,Calls Tryz.prog 119 #[.string s] w fun e w'=>e=.returned (.agg #[.int .i64 c,.int .i64 k])∧Below w.heap.size w w'):=fun w=>by
  rw[hc,hk];exact implCheck_core s w HS.out
 clear hc hk
 by_cases k1:kind=1
 ·subst k1
  obtain⟨B,hB⟩:=qE (decide ((1:Int)=1∧s.toList=(⟨#[]⟩:ByteArray).toList∧hi=false∧t.toList=(⟨#[]⟩:ByteArray).toList∧lo=0∧up=0∧n=0))
  have hq:=ndEq_is 1 s hi t lo up n 1 ⟨#[]⟩ false ⟨#[]⟩ 0 0 0 B hB
  have HB:Hid (B=true↔(1:Int)=1∧s.toList=(⟨#[]⟩:ByteArray).toList∧hi=false∧t.toList=(⟨#[]⟩:ByteArray).toList∧lo=0∧up=0∧n=0):=by rw[hB];show decide _=true↔_;simp only[decide_eq_true_eq]
  clear hB
  have HF:Hid (B=true↔GoodN ⟨1,s,hi,t,lo,up,n⟩):=by
   show B=true↔GoodN _
   have hB:=HB.out
   have hG:=HG.out
   have hE:=emptyL
   try simp only[hE]at hB
   rw[hB]
   simp[GoodN]
   constructor
   ·rintro⟨q1,q2,q3,q4,q5,q6⟩
    simp_all
   ·rintro⟨q1,q2,q3,q4⟩
    simp_all
  go_wp2_with fail
  go_ret
  exact⟨_,rfl,HF.out,HW0.2⟩
 by_cases k2:kind=2
 ·subst k2
  obtain⟨B,hB⟩:=qE (decide ((2:Int)=2∧s.toList=(⟨#[]⟩:ByteArray).toList∧hi=false∧t.toList=(⟨#[]⟩:ByteArray).toList∧lo=0∧up=0∧n=0))
  have hq:=ndEq_is 2 s hi t lo up n 2 ⟨#[]⟩ false ⟨#[]⟩ 0 0 0 B hB
  have HB:Hid (B=true↔(2:Int)=2∧s.toList=(⟨#[]⟩:ByteArray).toList∧hi=false∧t.toList=(⟨#[]⟩:ByteArray).toList∧lo=0∧up=0∧n=0):=by rw[hB];show decide _=true↔_;simp only[decide_eq_true_eq]
  clear hB
  have HF:Hid (B=true↔GoodN ⟨2,s,hi,t,lo,up,n⟩):=by
   show B=true↔GoodN _
   have hB:=HB.out
   have hG:=HG.out
   have hE:=emptyL
   try simp only[hE]at hB
   rw[hB]
   simp[GoodN]
   constructor
   ·rintro⟨q1,q2,q3,q4,q5,q6⟩
    simp_all
   ·rintro⟨q1,q2,q3,q4⟩
    simp_all
  go_wp2_with fail
  go_ret
  exact⟨_,rfl,HF.out,HW0.2⟩
 by_cases k3:kind=3
 ·subst k3
  obtain⟨B,hB⟩:=qE (decide ((3:Int)=3∧s.toList=(⟨#[]⟩:ByteArray).toList∧hi=false∧t.toList=(⟨#[]⟩:ByteArray).toList∧lo=0∧up=0∧n=0))
  have hq:=ndEq_is 3 s hi t lo up n 3 ⟨#[]⟩ false ⟨#[]⟩ 0 0 0 B hB
  have HB:Hid (B=true↔(3:Int)=3∧s.toList=(⟨#[]⟩:ByteArray).toList∧hi=false∧t.toList=(⟨#[]⟩:ByteArray).toList∧lo=0∧up=0∧n=0):=by rw[hB];show decide _=true↔_;simp only[decide_eq_true_eq]
  clear hB
  have HF:Hid (B=true↔GoodN ⟨3,s,hi,t,lo,up,n⟩):=by
   show B=true↔GoodN _
   have hB:=HB.out
   have hG:=HG.out
   have hE:=emptyL
   try simp only[hE]at hB
   rw[hB]
   simp[GoodN]
   constructor
   ·rintro⟨q1,q2,q3,q4,q5,q6⟩
    simp_all
   ·rintro⟨q1,q2,q3,q4⟩
    simp_all
  go_wp2_with fail
  go_ret
  exact⟨_,rfl,HF.out,HW0.2⟩
 by_cases k14:kind=14
 ·subst k14
  obtain⟨B,hB⟩:=qE (decide ((14:Int)=14∧s.toList=(⟨#[]⟩:ByteArray).toList∧hi=false∧t.toList=(⟨#[]⟩:ByteArray).toList∧lo=0∧up=0∧n=0))
  have hq:=ndEq_is 14 s hi t lo up n 14 ⟨#[]⟩ false ⟨#[]⟩ 0 0 0 B hB
  have HB:Hid (B=true↔(14:Int)=14∧s.toList=(⟨#[]⟩:ByteArray).toList∧hi=false∧t.toList=(⟨#[]⟩:ByteArray).toList∧lo=0∧up=0∧n=0):=by rw[hB];show decide _=true↔_;simp only[decide_eq_true_eq]
  clear hB
  have HF:Hid (B=true↔GoodN ⟨14,s,hi,t,lo,up,n⟩):=by
   show B=true↔GoodN _
   have hB:=HB.out
   have hG:=HG.out
   have hE:=emptyL
   try simp only[hE]at hB
   rw[hB]
   simp[GoodN]
   constructor
   ·rintro⟨q1,q2,q3,q4,q5,q6⟩
    simp_all
   ·rintro⟨q1,q2,q3,q4⟩
    simp_all
  go_wp2_with fail
  go_ret
  exact⟨_,rfl,HF.out,HW0.2⟩
 by_cases k15:kind=15
 ·subst k15
  obtain⟨B,hB⟩:=qE (decide ((15:Int)=15∧s.toList=(⟨#[]⟩:ByteArray).toList∧hi=false∧t.toList=(⟨#[]⟩:ByteArray).toList∧lo=0∧up=0∧n=0))
  have hq:=ndEq_is 15 s hi t lo up n 15 ⟨#[]⟩ false ⟨#[]⟩ 0 0 0 B hB
  have HB:Hid (B=true↔(15:Int)=15∧s.toList=(⟨#[]⟩:ByteArray).toList∧hi=false∧t.toList=(⟨#[]⟩:ByteArray).toList∧lo=0∧up=0∧n=0):=by rw[hB];show decide _=true↔_;simp only[decide_eq_true_eq]
  clear hB
  have HF:Hid (B=true↔GoodN ⟨15,s,hi,t,lo,up,n⟩):=by
   show B=true↔GoodN _
   have hB:=HB.out
   have hG:=HG.out
   have hE:=emptyL
   try simp only[hE]at hB
   rw[hB]
   simp[GoodN]
   constructor
   ·rintro⟨q1,q2,q3,q4,q5,q6⟩
    simp_all
   ·rintro⟨q1,q2,q3,q4⟩
    simp_all
  go_wp2_with fail
  go_ret
  exact⟨_,rfl,HF.out,HW0.2⟩
 by_cases k16:kind=16
 ·subst k16
  obtain⟨B,hB⟩:=qE (decide ((16:Int)=16∧s.toList=(⟨#[]⟩:ByteArray).toList∧hi=false∧t.toList=(⟨#[]⟩:ByteArray).toList∧lo=0∧up=0∧n=0))
  have hq:=ndEq_is 16 s hi t lo up n 16 ⟨#[]⟩ false ⟨#[]⟩ 0 0 0 B hB
  have HB:Hid (B=true↔(16:Int)=16∧s.toList=(⟨#[]⟩:ByteArray).toList∧hi=false∧t.toList=(⟨#[]⟩:ByteArray).toList∧lo=0∧up=0∧n=0):=by rw[hB];show decide _=true↔_;simp only[decide_eq_true_eq]
  clear hB
  have HF:Hid (B=true↔GoodN ⟨16,s,hi,t,lo,up,n⟩):=by
   show B=true↔GoodN _
   have hB:=HB.out
   have hG:=HG.out
   have hE:=emptyL
   try simp only[hE]at hB
   rw[hB]
   simp[GoodN]
   constructor
   ·rintro⟨q1,q2,q3,q4,q5,q6⟩
    simp_all
   ·rintro⟨q1,q2,q3,q4⟩
    simp_all
  go_wp2_with fail
  go_ret
  exact⟨_,rfl,HF.out,HW0.2⟩
 by_cases k4:kind=4
 ·subst k4
  obtain⟨B,hB⟩:=qE (decide ((4:Int)=4∧s.toList=s.toList∧hi=false∧t.toList=(⟨#[]⟩:ByteArray).toList∧lo=0∧up=0∧n=0))
  have hq:=ndEq_is 4 s hi t lo up n 4 s false ⟨#[]⟩ 0 0 0 B hB
  have HB:Hid (B=true↔(4:Int)=4∧s.toList=s.toList∧hi=false∧t.toList=(⟨#[]⟩:ByteArray).toList∧lo=0∧up=0∧n=0):=by rw[hB];show decide _=true↔_;simp only[decide_eq_true_eq]
  clear hB
  cases B
  ·have HF:Hid (¬GoodN ⟨4,s,hi,t,lo,up,n⟩):=by
    show¬GoodN _
    have hB:=HB.out
    have hE:=emptyL
    try simp only[hE]at hB
    intro q
    simp[GoodN]at q hB
    simp_all
   go_wp2_with fail
   go_ret
   exact⟨_,rfl,by simp[HF.out],HW0.2⟩
  ·have HF:Hid (GoodN ⟨4,s,hi,t,lo,up,n⟩↔c=0):=by
    show GoodN _↔_
    have hB:=HB.out
    have hG:=HG.out
    have hE:=emptyL
    try simp only[hE]at hB
    rw[HV.out]
    simp at hB
    simp[GoodN]
    simp_all
   exact zzQ27
 by_cases k5:kind=5
 ·subst k5
  obtain⟨B,hB⟩:=qE (decide ((5:Int)=5∧s.toList=s.toList∧hi=false∧t.toList=(⟨#[]⟩:ByteArray).toList∧lo=0∧up=0∧n=0))
  have hq:=ndEq_is 5 s hi t lo up n 5 s false ⟨#[]⟩ 0 0 0 B hB
  have HB:Hid (B=true↔(5:Int)=5∧s.toList=s.toList∧hi=false∧t.toList=(⟨#[]⟩:ByteArray).toList∧lo=0∧up=0∧n=0):=by rw[hB];show decide _=true↔_;simp only[decide_eq_true_eq]
  clear hB
  cases B
  ·have HF:Hid (¬GoodN ⟨5,s,hi,t,lo,up,n⟩):=by
    show¬GoodN _
    have hB:=HB.out
    have hE:=emptyL
    try simp only[hE]at hB
    intro q
    simp[GoodN]at q hB
    simp_all
   go_wp2_with fail
   go_ret
   exact⟨_,rfl,by simp[HF.out],HW0.2⟩
  ·have HF:Hid (GoodN ⟨5,s,hi,t,lo,up,n⟩↔c=0):=by
    show GoodN _↔_
    have hB:=HB.out
    have hG:=HG.out
    have hE:=emptyL
    try simp only[hE]at hB
    rw[HV.out]
    simp at hB
    simp[GoodN]
    simp_all
   exact zzQ27
 by_cases k6:kind=6
 ·subst k6
  obtain⟨B,hB⟩:=qE (decide ((6:Int)=6∧s.toList=s.toList∧hi=false∧t.toList=(⟨#[]⟩:ByteArray).toList∧lo=0∧up=0∧n=0))
  have hq:=ndEq_is 6 s hi t lo up n 6 s false ⟨#[]⟩ 0 0 0 B hB
  have HB:Hid (B=true↔(6:Int)=6∧s.toList=s.toList∧hi=false∧t.toList=(⟨#[]⟩:ByteArray).toList∧lo=0∧up=0∧n=0):=by rw[hB];show decide _=true↔_;simp only[decide_eq_true_eq]
  clear hB
  cases B
  ·have HF:Hid (¬GoodN ⟨6,s,hi,t,lo,up,n⟩):=by
    show¬GoodN _
    have hB:=HB.out
    have hE:=emptyL
    try simp only[hE]at hB
    intro q
    simp[GoodN]at q hB
    simp_all
   go_wp2_with fail
   go_ret
   exact⟨_,rfl,by simp[HF.out],HW0.2⟩
  ·have HF:Hid (GoodN ⟨6,s,hi,t,lo,up,n⟩↔c=0):=by
    show GoodN _↔_
    have hB:=HB.out
    have hG:=HG.out
    have hE:=emptyL
    try simp only[hE]at hB
    rw[HV.out]
    simp at hB
    simp[GoodN]
    simp_all
   exact zzQ27
 by_cases k7:kind=7
 ·subst k7
  obtain⟨B,hB⟩:=qE (decide ((7:Int)=7∧s.toList=s.toList∧hi=false∧t.toList=(⟨#[]⟩:ByteArray).toList∧lo=0∧up=0∧n=0))
  have hq:=ndEq_is 7 s hi t lo up n 7 s false ⟨#[]⟩ 0 0 0 B hB
  have HB:Hid (B=true↔(7:Int)=7∧s.toList=s.toList∧hi=false∧t.toList=(⟨#[]⟩:ByteArray).toList∧lo=0∧up=0∧n=0):=by rw[hB];show decide _=true↔_;simp only[decide_eq_true_eq]
  clear hB
  cases B
  ·have HF:Hid (¬GoodN ⟨7,s,hi,t,lo,up,n⟩):=by
    show¬GoodN _
    have hB:=HB.out
    have hE:=emptyL
    try simp only[hE]at hB
    intro q
    simp[GoodN]at q hB
    simp_all
   go_wp2_with fail
   go_ret
   exact⟨_,rfl,by simp[HF.out],HW0.2⟩
  ·have HF:Hid (GoodN ⟨7,s,hi,t,lo,up,n⟩↔c=0):=by
    show GoodN _↔_
    have hB:=HB.out
    have hG:=HG.out
    have hE:=emptyL
    try simp only[hE]at hB
    rw[HV.out]
    simp at hB
    simp[GoodN]
    simp_all
   exact zzQ27
 by_cases k8:kind=8
 ·subst k8
  obtain⟨B,hB⟩:=qE (decide ((8:Int)=8∧s.toList=s.toList∧hi=hi∧t.toList=t.toList∧lo=0∧up=0∧n=0))
  have hq:=ndEq_is 8 s hi t lo up n 8 s hi t 0 0 0 B hB
  have HB:Hid (B=true↔(8:Int)=8∧s.toList=s.toList∧hi=hi∧t.toList=t.toList∧lo=0∧up=0∧n=0):=by rw[hB];show decide _=true↔_;simp only[decide_eq_true_eq]
  clear hB
  cases B
  ·have HF:Hid (¬GoodN ⟨8,s,hi,t,lo,up,n⟩):=by
    show¬GoodN _
    have hB:=HB.out
    have hE:=emptyL
    try simp only[hE]at hB
    intro q
    simp[GoodN]at q hB
    simp_all
   go_wp2_with fail
   go_ret
   exact⟨_,rfl,by simp[HF.out],HW0.2⟩
  ·go_wp2_with fail
   refine(ends_core ⟨8,s,hi,t,lo,up,n⟩ _).mono ?_
   rintro r w2 ⟨b,rfl,hb,hb2⟩
   have HF:Hid (b=true↔GoodN ⟨8,s,hi,t,lo,up,n⟩):=by
    show b=true↔GoodN _
    have hB:=HB.out
    have hG:=HG.out
    have hE:=emptyL
    have hL:=lessL
    try simp only[hE]at hB
    simp at hB
    rw[hb]
    simp[GoodN]
    cases hi<;>simp_all[less]
   exact zzQ57
 by_cases k9:kind=9
 ·subst k9
  obtain⟨B,hB⟩:=qE (decide ((9:Int)=9∧s.toList=s.toList∧hi=hi∧t.toList=t.toList∧lo=0∧up=0∧n=0))
  have hq:=ndEq_is 9 s hi t lo up n 9 s hi t 0 0 0 B hB
  have HB:Hid (B=true↔(9:Int)=9∧s.toList=s.toList∧hi=hi∧t.toList=t.toList∧lo=0∧up=0∧n=0):=by rw[hB];show decide _=true↔_;simp only[decide_eq_true_eq]
  clear hB
  cases B
  ·have HF:Hid (¬GoodN ⟨9,s,hi,t,lo,up,n⟩):=by
    show¬GoodN _
    have hB:=HB.out
    have hE:=emptyL
    try simp only[hE]at hB
    intro q
    simp[GoodN]at q hB
    simp_all
   go_wp2_with fail
   go_ret
   exact⟨_,rfl,by simp[HF.out],HW0.2⟩
  ·go_wp2_with fail
   refine(ends_core ⟨9,s,hi,t,lo,up,n⟩ _).mono ?_
   rintro r w2 ⟨b,rfl,hb,hb2⟩
   have HF:Hid (b=true↔GoodN ⟨9,s,hi,t,lo,up,n⟩):=by
    show b=true↔GoodN _
    have hB:=HB.out
    have hG:=HG.out
    have hE:=emptyL
    have hL:=lessL
    try simp only[hE]at hB
    simp at hB
    rw[hb]
    simp[GoodN]
    cases hi<;>simp_all[less]
   exact zzQ57
 by_cases k10:kind=10
 ·subst k10
  obtain⟨B,hB⟩:=qE (decide ((10:Int)=10∧s.toList=(⟨#[]⟩:ByteArray).toList∧hi=hi∧t.toList=(⟨#[]⟩:ByteArray).toList∧lo=lo∧up=up∧n=0))
  have hq:=ndEq_is 10 s hi t lo up n 10 ⟨#[]⟩ hi ⟨#[]⟩ lo up 0 B hB
  have HB:Hid (B=true↔(10:Int)=10∧s.toList=(⟨#[]⟩:ByteArray).toList∧hi=hi∧t.toList=(⟨#[]⟩:ByteArray).toList∧lo=lo∧up=up∧n=0):=by rw[hB];show decide _=true↔_;simp only[decide_eq_true_eq]
  clear hB
  cases B
  ·have HF:Hid (¬GoodN ⟨10,s,hi,t,lo,up,n⟩):=by
    show¬GoodN _
    have hB:=HB.out
    have hE:=emptyL
    try simp only[hE]at hB
    intro q
    simp[GoodN]at q hB
    simp_all
   go_wp2_with fail
   go_ret
   exact⟨_,rfl,by simp[HF.out],HW0.2⟩
  ·go_wp2_with fail
   refine(ends_core ⟨10,s,hi,t,lo,up,n⟩ _).mono ?_
   rintro r w2 ⟨b,rfl,hb,hb2⟩
   have HF:Hid (b=true↔GoodN ⟨10,s,hi,t,lo,up,n⟩):=by
    show b=true↔GoodN _
    have hB:=HB.out
    have hG:=HG.out
    have hE:=emptyL
    have hL:=lessL
    try simp only[hE]at hB
    simp at hB
    rw[hb]
    simp[GoodN]
    cases hi<;>simp_all[less]
   exact zzQ57
 by_cases k11:kind=11
 ·subst k11
  obtain⟨B,hB⟩:=qE (decide ((11:Int)=11∧s.toList=(⟨#[]⟩:ByteArray).toList∧hi=false∧t.toList=(⟨#[]⟩:ByteArray).toList∧lo=0∧up=0∧n=n))
  have hq:=ndEq_is 11 s hi t lo up n 11 ⟨#[]⟩ false ⟨#[]⟩ 0 0 n B hB
  have HB:Hid (B=true↔(11:Int)=11∧s.toList=(⟨#[]⟩:ByteArray).toList∧hi=false∧t.toList=(⟨#[]⟩:ByteArray).toList∧lo=0∧up=0∧n=n):=by rw[hB];show decide _=true↔_;simp only[decide_eq_true_eq]
  clear hB
  cases B
  ·have HF:Hid (¬GoodN ⟨11,s,hi,t,lo,up,n⟩):=by
    show¬GoodN _
    have hB:=HB.out
    have hE:=emptyL
    try simp only[hE]at hB
    intro q
    simp[GoodN]at q hB
    simp_all
   go_wp2_with fail
   go_ret
   exact⟨_,rfl,by simp[HF.out],HW0.2⟩
  ·have HF:Hid (GoodN ⟨11,s,hi,t,lo,up,n⟩↔(1≤n∧n≤1000)):=by
    show GoodN _↔_
    have hB:=HB.out
    have hG:=HG.out
    have hE:=emptyL
    try simp only[hE]at hB
    simp at hB
    simp[GoodN]
    simp_all
   exact zzQ42
 by_cases k12:kind=12
 ·subst k12
  obtain⟨B,hB⟩:=qE (decide ((12:Int)=12∧s.toList=(⟨#[]⟩:ByteArray).toList∧hi=false∧t.toList=(⟨#[]⟩:ByteArray).toList∧lo=0∧up=0∧n=n))
  have hq:=ndEq_is 12 s hi t lo up n 12 ⟨#[]⟩ false ⟨#[]⟩ 0 0 n B hB
  have HB:Hid (B=true↔(12:Int)=12∧s.toList=(⟨#[]⟩:ByteArray).toList∧hi=false∧t.toList=(⟨#[]⟩:ByteArray).toList∧lo=0∧up=0∧n=n):=by rw[hB];show decide _=true↔_;simp only[decide_eq_true_eq]
  clear hB
  cases B
  ·have HF:Hid (¬GoodN ⟨12,s,hi,t,lo,up,n⟩):=by
    show¬GoodN _
    have hB:=HB.out
    have hE:=emptyL
    try simp only[hE]at hB
    intro q
    simp[GoodN]at q hB
    simp_all
   go_wp2_with fail
   go_ret
   exact⟨_,rfl,by simp[HF.out],HW0.2⟩
  ·have HF:Hid (GoodN ⟨12,s,hi,t,lo,up,n⟩↔(1≤n∧n≤1000)):=by
    show GoodN _↔_
    have hB:=HB.out
    have hG:=HG.out
    have hE:=emptyL
    try simp only[hE]at hB
    simp at hB
    simp[GoodN]
    simp_all
   exact zzQ42
 by_cases k13:kind=13
 ·subst k13
  obtain⟨B,hB⟩:=qE (decide ((13:Int)=13∧s.toList=(⟨#[]⟩:ByteArray).toList∧hi=false∧t.toList=(⟨#[]⟩:ByteArray).toList∧lo=0∧up=0∧n=n))
  have hq:=ndEq_is 13 s hi t lo up n 13 ⟨#[]⟩ false ⟨#[]⟩ 0 0 n B hB
  have HB:Hid (B=true↔(13:Int)=13∧s.toList=(⟨#[]⟩:ByteArray).toList∧hi=false∧t.toList=(⟨#[]⟩:ByteArray).toList∧lo=0∧up=0∧n=n):=by rw[hB];show decide _=true↔_;simp only[decide_eq_true_eq]
  clear hB
  cases B
  ·have HF:Hid (¬GoodN ⟨13,s,hi,t,lo,up,n⟩):=by
    show¬GoodN _
    have hB:=HB.out
    have hE:=emptyL
    try simp only[hE]at hB
    intro q
    simp[GoodN]at q hB
    simp_all
   go_wp2_with fail
   go_ret
   exact⟨_,rfl,by simp[HF.out],HW0.2⟩
  ·have HF:Hid (GoodN ⟨13,s,hi,t,lo,up,n⟩↔(1≤n∧n≤1000)):=by
    show GoodN _↔_
    have hB:=HB.out
    have hG:=HG.out
    have hE:=emptyL
    try simp only[hE]at hB
    simp at hB
    simp[GoodN]
    simp_all
   exact zzQ42
 have HF:Hid (¬GoodN ⟨kind,s,hi,t,lo,up,n⟩):=by
  show¬GoodN _
  simp only[GoodN]
  rintro⟨_,_,_,q⟩
  omega
 go_wp2_with fail
 go_ret
 exact⟨_,rfl,by simp[HF.out],HW0.2⟩
end Go.Proofs.YtgnpcenpcmdlfaaGreatDoor
namespace Go.Proofs.YtgnpcenpcmdlfaaGreatDoor
open Go.ChangeShapes Go.WideShapes Go.ChangeAt Go.RowKit Go.Deep
set_option linter.unusedVariables false
set_option linter.unusedSimpArgs false
set_option linter.unnecessarySimpa false
set_option maxRecDepth 100000
set_option maxHeartbeats 1000000 in
theorem operandCount_core (k:Int) (w:World):Calls Tryz.prog 73 #[.int .i64 k] w fun e w'=>e=.returned (.int .i64 (arity k:Int))∧w'=w:=by
 by_cases h14:k=14
 ·subst h14
  exact zzQ70
 by_cases h15:k=15
 ·subst h15
  exact zzQ70
 by_cases h16:k=16
 ·subst h16
  exact zzQ70
 have z14:(k==14)=false:=by simpa using h14
 have z15:(k==15)=false:=by simpa using h15
 have z16:(k==16)=false:=by simpa using h16
 have H:Hid (arity k=0):=by show arity k=0;unfold arity;rw[if_neg (by omega),if_neg h16]
 go_enter Tryz.func73,Tryz.ntmps73
 go_wp2_with fail
 go_ret
 exact⟨by rw[H.out];rfl,rfl⟩
set_option maxHeartbeats 1000000 in
theorem strength_core (k:Int) (w:World):Calls Tryz.prog 121 #[.int .i64 k] w fun e w'=>e=.returned (.int .i64 (strong k:Int))∧w'=w:=by
 by_cases h15:k=15
 ·subst h15
  go_enter Tryz.func121,Tryz.ntmps121
  go_wp2_with fail
  go_ret
  exact⟨rfl,rfl⟩
 by_cases h14:k=14
 ·subst h14
  go_enter Tryz.func121,Tryz.ntmps121
  go_wp2_with fail
  go_ret
  exact⟨rfl,rfl⟩
 have z14:(k==14)=false:=by simpa using h14
 have z15:(k==15)=false:=by simpa using h15
 have H:Hid (strong k=3):=by show strong k=3;unfold strong;rw[if_neg h15,if_neg h14]
 go_enter Tryz.func121,Tryz.ntmps121
 go_wp2_with fail
 go_ret
 exact⟨by rw[H.out];rfl,rfl⟩
set_option maxHeartbeats 1000000 in
theorem inParens_core (op:Int) (i:Nat) (kid:Int) (w:World) (hop:¬op=16):Calls Tryz.prog 101 #[.int .i64 op,.int .i64 (i:Int),.int .i64 kid] w fun e w'=>e=.returned (.bool (level op i kid))∧w'=w:=by
 by_cases hi:i=0
 ·subst hi
  have HL:Hid (level op 0 kid=decide (strong kid<strong op)):=by
   show level op 0 kid=_
   unfold level;simp[hop]
  exact zzQ62
 ·have zi:((i:Int)==0)=false:=by simpa using hi
  have HL:Hid (level op i kid=decide (strong kid≤strong op)):=by
   show level op i kid=_
   unfold level;simp[hop,hi]
  exact zzQ62
abbrev Shape.three (s:Shape):List Value:= [.bool s.valid,.int .i64 s.kind,.int .i64 (s.nest:Int)]
def cellsS (ss:List Shape):List Value:=ss.flatMap Shape.three
theorem length_cellsS (ss:List Shape):(cellsS ss).length=ss.length*3:=by
 induction ss with
 |nil=>rfl
 |cons e es ih=>simp only[cellsS,List.flatMap_cons,List.length_append]at ih⊢;rw[ih];simp;omega
theorem cellsS_append (es fs:List Shape):cellsS (es++fs)=cellsS es++cellsS fs:=by simp[cellsS]
theorem cellsS_get (es:List Shape):∀(k:Nat) (e:Shape),es[k]?=some e→∀j,j<3→(cellsS es)[k*3+j]?=e.three[j]?:=by
 induction es with
 |nil=>intro k e h;simp at h
 |cons f es ih=>
  intro k e h j hj
  have hc:cellsS (f::es)=f.three++cellsS es:=by simp[cellsS]
  rw[hc]
  cases k with
  |zero=>
   simp at h;subst h
   rw[List.getElem?_append_left (by show 0*3+j<3;omega)]
   simp
  |succ k=>
   simp at h
   rw[List.getElem?_append_right (by show 3≤(k+1)*3+j;omega)]
   have:(k+1)*3+j-f.three.length=k*3+j:=by show(k+1)*3+j-3=_;omega
   rw[this];exact ih k e h j hj
theorem cellsS_take (es:List Shape) (k:Nat):cellsS (es.take k)=(cellsS es).take (k*3):=by
 induction es generalizing k with
 |nil=>simp[cellsS]
 |cons f es ih=>
  cases k with
  |zero=>simp[cellsS]
  |succ k=>
   have hc:cellsS (f::es)=f.three++cellsS es:=by simp[cellsS]
   have hd:cellsS (f::es.take k)=f.three++cellsS (es.take k):=by simp[cellsS]
   have e1:(k+1)*3=f.three.length+k*3:=by show(k+1)*3=3+k*3;omega
   rw[List.take_succ_cons,hd,hc,ih,e1,List.take_length_add_append]
def ShsAt (w:World) (b o:Nat) (ss:List Shape):Prop:=∀i s,ss[i]?=some s→w.cell? ⟨b,o+i*3,none⟩=some (.bool s.valid)∧w.cell? ⟨b,o+i*3+1,none⟩=some (.int .i64 s.kind)∧w.cell? ⟨b,o+i*3+2,none⟩=some (.int .i64 (s.nest:Int))
theorem ShsAt.below {B:Nat} {w w':World} {b o:Nat} {ss:List Shape} (h:ShsAt w b o ss) (hb:Below B w w') (hlt:b<B):ShsAt w' b o ss:=by
 intro i e he
 have:=h i e he
 refine⟨?_,?_,?_⟩
 all_goals rw[hb.cell (by exact hlt)]
 ·exact this.1
 ·exact this.2.1
 ·exact this.2.2
theorem ShsAt.drop {w:World} {b o:Nat} {ss:List Shape} (h:ShsAt w b o ss) (k:Nat):ShsAt w b (o+k*3) (ss.drop k):=by
 exact zzQ85
def OwnSh (w:World) (base g cp:Nat) (ss:List Shape):Prop:=w.ownsRow base 112 3 (.slice (some ⟨g,0,none⟩) ss.length cp) ss.length (cellsS ss)
theorem OwnSh.lt {w:World} {base g cp:Nat} {ss:List Shape} (h:OwnSh w base g cp ss):base≤g∧g<w.heap.size:=World.ownsRow.lt h g rfl
theorem OwnSh.below {w w':World} {base g cp:Nat} {ss:List Shape} (h:OwnSh w base g cp ss) (hb:Below w.heap.size w w'):OwnSh w' base g cp ss:=own_chg h (Chg.of_below hb) (S:=fun _=>False) (fun k q z=>z)
theorem OwnSh.at {w:World} {base g cp:Nat} {ss:List Shape} (h:OwnSh w base g cp ss):ShsAt w g 0 ss:=by
 intro i e he
 have hi:i<ss.length:=(List.getElem?_eq_some_iff.1 he).1
 have c:=fun j (hj:j<3)=>(World.ownsRow.cellAt h (i*3+j) (by omega)).trans (cellsS_get ss i e he j hj)
 refine⟨?_,?_,?_⟩
 ·simpa using c 0 (by omega)
 ·simpa using c 1 (by omega)
 ·simpa using c 2 (by omega)
theorem OwnSh.caps {w:World} {base g cp:Nat} {ss:List Shape} (h:OwnSh w base g cp ss):ss.length≤cp∧cp≤maxLen:=by
 exact zzQ26
theorem OwnSh.take {w:World} {base g cp:Nat} {ss:List Shape} (h:OwnSh w base g cp ss) {k:Nat} (hk:k≤ss.length):OwnSh w base g cp (ss.take k):=by
 rcases h.2 with⟨h0,_⟩|⟨g',cap',cur,hv,h1,h2,h3,h4,h5,h6⟩
 ·cases h0
 ·simp only[Value.slice.injEq,Option.some.injEq,Addr.mk.injEq,and_true,true_and]at hv
  obtain⟨rfl,rfl⟩:=hv
  have hl:(ss.take k).length=k:=by rw[List.length_take];omega
  refine⟨by rw[length_cellsS],.inr ⟨g,cp,cur,rfl,h1,h2,by omega,h4,h5,?_⟩⟩
  rw[hl,cellsS_take,←h6,List.take_take]
  congr 1
  omega
theorem ownSh_new (w:World) {base:Nat} (hb:base≤w.heap.size):OwnSh (w.alloc (Obj.cells #[] 112)) base w.heap.size 0 []:=
 World.ownsRow_made w #[] 0 hb (Nat.zero_le _) (by simp)
structure SoJ (w:World) (e:Nd) (WB:Nat) (v:Bool) (a:Nat) (wr:World):Prop where
 node:BoxAt wr w.heap.size 65 7 w.heap.size e.seven
 res:BoxAt wr w.heap.size 112 3 (w.heap.size+1) [.bool false,.int .i64 0,.int .i64 0]
 whole:BoxAt wr w.heap.size 112 3 WB [.bool v,.int .i64 e.kind,.int .i64 (a:Int)]
 ne:w.heap.size+2≤WB
 below:Below w.heap.size w wr
theorem SoJ.move {w:World} {e:Nd} {WB:Nat} {v:Bool} {a:Nat} {wr w':World} (h:SoJ w e WB v a wr) (hb:Below wr.heap.size wr w'):SoJ w e WB v a w':=
 ⟨h.node.below hb,h.res.below hb,h.whole.below hb,h.ne,h.below.trans (hb.mono h.below.size)⟩
theorem valid_is (e:Nd) (w:World) (hs:e.s.size≤maxLen) (ht:e.t.size≤maxLen):Calls Tryz.prog 100 #[.agg #[.int .i64 e.kind,.string e.s,.bool e.hi,.string e.t,.int .u64 e.lo,.int .u64 e.up,.int .i64 e.n]] w fun r w'=>r=.returned (.bool (goodB e))∧Below w.heap.size w w':=by
 refine(validNode_core e w hs ht).mono ?_
 rintro r w' ⟨b,rfl,hb,hb2⟩
 refine⟨?_,hb2⟩
 congr 2
 rw[Bool.eq_iff_iff,hb,goodB_iff]
end Go.Proofs.YtgnpcenpcmdlfaaGreatDoor
namespace Go.Proofs.YtgnpcenpcmdlfaaGreatDoor
open Go.ChangeShapes Go.WideShapes Go.ChangeAt Go.RowKit Go.Deep
set_option linter.unusedVariables false
set_option linter.unusedSimpArgs false
set_option maxRecDepth 100000
set_option maxHeartbeats 4000000 in
theorem appendOperand_core (base:Nat) (v:Value) (l:List UInt8) (op:Int) (i:Nat) (kid:Int) (b c:Nat) (t:List UInt8) (w:World) (hop:¬op=16) (hO:OwnS w base v l) (hl:l.length≤1000000) (ht:t.length≤1000000) (hb:base≤w.heap.size) (hE:BysAt w b 0 t) (hbb:b<base):
  Calls Tryz.prog 74 #[v,.int .i64 op,.int .i64 (i:Int),.agg #[.int .i64 kid,.slice (some ⟨b,0,none⟩) t.length c]] w (AppP base (l++wrapT op i (kid,t)) w):=by
 obtain⟨n,hn⟩:=qE t.length
 rw[←hn]
 obtain⟨W0,hW0⟩:=qE (w.alloc (Obj.cells #[.int .i64 kid,.slice (some ⟨b,0,none⟩) n c] 67):World)
 have hb0:Below w.heap.size w W0:=by rw[hW0];exact qB
 have s0:=hb0.size
 have HN:Hid (n=t.length):=hn
 have HW0:Hid (OwnS W0 base v l∧Fr base w W0∧BoxAt W0 w.heap.size 67 2 w.heap.size [.int .i64 kid,.slice (some ⟨b,0,none⟩) n c]∧BysAt W0 b 0 t):=by
  refine⟨hO.below hb0,(Fr.refl _ _).step hb0 hb,?_,hE.below hb0 (by omega)⟩
  rw[hW0];exact boxAt_new w _ (Nat.le_refl _) rfl
 have c0:=HW0.2.2.1.cell (j:=0) rfl
 have c1:=HW0.2.2.1.cell (j:=1) rfl
 obtain⟨L,hL⟩:=qE (level op i kid:Bool)
 have HC:Hid (Calls Tryz.prog 101 #[.int .i64 op,.int .i64 (i:Int),.int .i64 kid] W0 fun e w'=>e=.returned (.bool L)∧w'=W0):=by rw[hL];exact inParens_core op i kid W0 hop
 have HT:Hid (wrapT op i (kid,t)=if L=true then [40]++t++ [41]else t):=by
  show _=_
  unfold wrapT wrapB
  rw[if_neg hop,←hL]
 have hn1:n≤1000000:=by omega
 clear hL hn hE hb0 hO ht
 go_enter Tryz.func74,Tryz.ntmps74
 go_upto_region 1 with fail
 rw[←hW0]
 clear hW0
 go_wp2_with fail
 refine HC.mono ?_
 rintro r w9 ⟨rfl,hw9⟩
 rw[hw9]
 clear hw9 HC
 cases L
 case false=>
  have HL:Hid (l++wrapT op i (kid,t)=l++t):=by show _=_;rw[HT.out];rfl
  go_wp2_with (at_builtin;refine wpList_append_ys _ rfl _ _ rfl base b 0 n c v l t rfl rfl HN.out HW0.1 HW0.2.2.2 ?hl ?hb ?_)
  case hl=>rw[←HN.out];omega
  case hb=>omega
  intro v1 w1 hO1 hgr
  have HR:Hid (AppP base (l++wrapT op i (kid,t)) w (.returned v1) w1):=⟨v1,rfl,by rw[HL.out];exact hO1,HW0.1.nextF HW0.2.1 (by omega) hgr⟩
  clear hO1 hgr
  go_wp2_with fail
  go_ret
  exact HR.out
 case true=>
 have HL:Hid (l++wrapT op i (kid,t)=l++ [40]++t++ [41]):=by show _=_;rw[HT.out];simp
 obtain⟨W1,hW1⟩:=qE (W0.alloc (Obj.cells #[.int .u8 40] 5):World)
 have hb1:Below W0.heap.size W0 W1:=by rw[hW1];exact qB
 have s1:=hb1.size
 have HW1:Hid (OwnS W1 base v l∧Fr base w W1∧BoxAt W1 w.heap.size 67 2 w.heap.size [.int .i64 kid,.slice (some ⟨b,0,none⟩) n c]∧BysAt W1 b 0 t∧BysAt W1 W0.heap.size 0 [40]):=by
  refine⟨HW0.1.below hb1,HW0.2.1.step hb1 (by omega),HW0.2.2.1.below hb1,HW0.2.2.2.below hb1 (by omega),?_⟩
  rw[hW1];exact bys_new W0 _ [40] rfl
 clear hb1 c0 c1
 go_wp2_with (at_builtin;(try rw[←hW1]);refine wpList_append_ys _ rfl _ _ rfl base W0.heap.size 0 1 1 v l [40] rfl rfl rfl HW1.1 HW1.2.2.2.2 ?hl ?hb ?_)
 case hl=>first|omega|(show l.length+1≤_;omega)
 case hb=>omega
 intro v2 w2 hO2 hgr2'
 have hgr2:W1.grownBy w2 v.ownBlock:=by first|exact hgr2'|(rw[hW1];exact hgr2')
 obtain⟨X2,hX2⟩:∃X2:List UInt8,X2=l++ [40]:=⟨_,rfl⟩
 have HX2:Hid (X2=l++ [40]):=hX2
 have x2:X2.length≤l.length+1:=by rw[hX2,List.length_append];exact Nat.le_refl _
 have hF12:Fr base W1 w2:=HW1.1.nextF (Fr.refl _ _) (by omega) hgr2
 have s2:=hgr2.size
 have HW2:Hid (OwnS w2 base v2 X2∧Fr base w w2∧BoxAt w2 w.heap.size 67 2 w.heap.size [.int .i64 kid,.slice (some ⟨b,0,none⟩) n c]∧BysAt w2 b 0 t):=
  ⟨by rw[hX2];exact hO2,HW1.2.1.trans hF12,hF12.box HW1.2.2.1 (by decide),HW1.2.2.2.1.below hF12.below hbb⟩
 have d1:=HW2.2.2.1.cell (j:=1) rfl
 clear hO2 hgr2 hX2 hF12
 try clear hgr2'
 try clear hW1
 go_wp2_with (at_builtin;refine wpList_append_ys _ rfl _ _ rfl base b 0 n c v2 X2 t rfl rfl HN.out HW2.1 HW2.2.2.2 ?hl ?hb ?_)
 case hl=>rw[←HN.out];omega
 case hb=>omega
 intro v3 w3 hO3 hgr3
 obtain⟨X3,hX3⟩:∃X3:List UInt8,X3=X2++t:=⟨_,rfl⟩
 have HX3:Hid (X3=X2++t):=hX3
 have x3:X3.length≤X2.length+n:=by rw[hX3,List.length_append,←HN.out];exact Nat.le_refl _
 have s3:=hgr3.size
 obtain⟨W3,hW3⟩:=qE (w3.alloc (Obj.cells #[.int .u8 41] 5):World)
 have hb3:Below w3.heap.size w3 W3:=by rw[hW3];exact qB
 have t3:=hb3.size
 have HW3:Hid (OwnS W3 base v3 X3∧Fr base w W3∧BysAt W3 w3.heap.size 0 [41]):=by
  refine⟨OwnS.below (by rw[hX3];exact hO3) hb3,(HW2.1.nextF HW2.2.1 (by omega) hgr3).step hb3 (by omega),?_⟩
  rw[hW3];exact bys_new w3 _ [41] rfl
 clear hO3 hgr3 hX3 hb3 d1
 go_wp2_with (at_builtin;(try rw[←hW3]);refine wpList_append_ys _ rfl _ _ rfl base w3.heap.size 0 1 1 v3 X3 [41] rfl rfl rfl HW3.1 HW3.2.2 ?hl ?hb ?_)
 case hl=>first|omega|(show X3.length+1≤_;omega)
 case hb=>omega
 intro v4 w4 hO4 hgr4'
 have hgr4:W3.grownBy w4 v3.ownBlock:=by first|exact hgr4'|(rw[hW3];exact hgr4')
 have HR:Hid (AppP base (l++wrapT op i (kid,t)) w (.returned v4) w4):=⟨v4,rfl,by rw[HL.out,←HX2.out,←HX3.out];exact hO4,HW3.1.nextF HW3.2.1 (by omega) hgr4⟩
 clear hO4 hgr4
 try clear hgr4'
 try clear hW3
 go_wp2_with fail
 go_ret
 exact HR.out
end Go.Proofs.YtgnpcenpcmdlfaaGreatDoor
