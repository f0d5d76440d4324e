import Derived.Test.YtgnpcenpcmdlfaaGreatDoorTkAA
import Derived.Test.YtgnpcenpcmdlfaaGreatDoorTkAF
import Derived.Test.YtgnpcenpcmdlfaaGreatDoorTkAG
import Derived.Lib.AppendIntMem
import Derived.Test.YtgnpcenpcmdlfaaGreatDoorTkAC
import Derived.Test.YtgnpcenpcmdlfaaGreatDoorTkAD
import Derived.Test.YtgnpcenpcmdlfaaGreatDoorTkAB
import Derived.Deep.RegionLaw
import Derived.Deep.AppendLies
namespace Go.Proofs.YtgnpcenpcmdlfaaGreatDoor
open Go.ChangeShapes Go.WideShapes Go.ChangeAt Go.RowKit Go.Deep
set_option linter.unusedVariables false
set_option linter.unusedSimpArgs false
set_option maxRecDepth 100000
set_option maxHeartbeats 32000000
set_option linter.unnecessarySimpa false
def wordG (k:Nat):ByteArray:=if k=14 then⟨#[62]⟩else if k=15 then⟨#[124]⟩else if k=16 then⟨#[105,102]⟩else yA8 k
structure Gl (w:World):Prop where
 words:∀k:Nat,k≤16→w.cell? ⟨0,k,none⟩=some (.string (wordG k))
 pows:Lib.TabIs Tryz.prog w "internal/strconv.uint64pow10" .u64 Lib.pow10Tab
theorem yMt:Tryz.prog.globalNamed "internal/strconv.uint64pow10" =some 4:=by kernel_rfl
variable {B:Nat} {w w':World}
theorem Gl.on (h:Gl w) (hb:Below B w w') (hB:7≤B):Gl w':=by refine⟨fun k hk=>by rw[hb.cell (p:=⟨0,k,none⟩) (by show 0<B;omega)];exact h.words k hk,?_⟩;have h2:=h.pows;unfold Lib.TabIs World.var? at h2⊢;rw[yMt]at h2⊢;simp only[Option.bind_some]at h2⊢;rw[hb.block 4 (by omega)];exact h2
theorem yJ6 (base:Nat) (v:Value) (l:List UInt8) (n:Nat) (w:World) (hO:OwnS w base v l) (hl:l.length≤2^29) (hn:n<2^64) (hb:base≤w.heap.size) (hG:Gl w):
  Calls Tryz.prog 122 #[v,.int .u64 (n:Int),.int .i64 10] w (AppP base (l++Lib.decDigits n) w):=by
 have HC:Hid (Calls Tryz.prog 133 #[v,.int .u64 (n:Int),.int .i64 10] w (AppP base (l++Lib.decDigits n) w)):=by refine(Any.internal_strconv_AppendUint_10 Tryz.laysAU base l.length n hn v (l.map ub) w hO hb (by omega) hG.pows).mono ?_;rintro e w' ⟨v',rfl,h1,h2,h3⟩;refine⟨v',rfl,?_,h2,h3⟩;unfold OwnS;rw[List.length_append,List.map_append];exact h1
 clear hO hG;go_enter Tryz.func122,Tryz.ntmps122;exact zzQ66
theorem yKm (base:Nat) (v:Value) (l:List UInt8) (n:Nat) (w:World) (hO:OwnS w base v l) (hl:l.length≤2^29) (hn:n<2^63) (hb:base≤w.heap.size) (hG:Gl w) (hB:7≤base):
  Calls Tryz.prog 105 #[v,.int .i64 (n:Int),.int .i64 10] w (AppP base (l++Lib.decDigits n) w):=by
 have HC:Hid (Calls Tryz.prog 123 #[v,.int .i64 (n:Int),.int .i64 10] w (AppP base (l++Lib.decDigits n) w)):=by
  refine(Any.internal_strconv_AppendInt_10 Tryz.laysAI base l.length (n:Int) (by omega) (by omega) v (l.map ub) w hO hb (by omega) (fun w' hw=>(hG.on hw hB).pows)).mono ?_;rintro e w' ⟨v',rfl,h1,h2,h3⟩;refine⟨v',rfl,?_,h2,h3⟩;have hi:Lib.itoa (n:Int)=Lib.decDigits n:=by unfold Lib.itoa;rw[if_neg (by omega),Int.toNat_natCast]
  rw[hi]at h1;unfold OwnS;rw[List.length_append,List.map_append];exact h1
 clear hO hG;go_enter Tryz.func105,Tryz.ntmps105;exact zzQ66
theorem yGv (base:Nat) (v:Value) (l:List UInt8) (t:ByteArray) (n:Int) (w:World) (hO:OwnS w base v l) (hl:l.length≤100000) (ht:t.size≤1000) (hn0:0≤n) (hn:n<2^64) (hb:base≤w.heap.size) (hG:Gl w):
  Calls Tryz.prog 104 #[v,.string t,.int .u64 n] w (AppP base (l++endM (bl t) n) w):=by
 have HO:Hid (OwnS w base v l∧Gl w):=⟨hO,hG⟩;clear hO hG;by_cases h1:bl t= []
 ·have zt:(t.toList==([]:List UInt8))=true:=by rw[yDu.1 h1];rfl
  have zt2:t.toList= []:=yDu.1 h1;by_cases h2:n=0
  ·subst h2;have HE:Hid (l++endM (bl t) 0=l):=by show _=_;unfold endM;rw[if_pos h1,if_pos rfl,List.append_nil]
   go_enter Tryz.func104,Tryz.ntmps104;go_wp2_with fail;go_ret;exact⟨v,rfl,by rw[HE.out];exact HO.1,Fr.refl _ _⟩
  ·obtain⟨m,rfl⟩:=Int.eq_ofNat_of_zero_le hn0;have zn:((m:Int)==0)=false:=by rw[beq_eq_false_iff_ne];exact h2
   have zn2:((m:Int) != 0)=true:=by rw[bne_iff_ne];exact h2
   have HE:Hid (endM (bl t) (m:Int)=Lib.decDigits m):=by show _=_;unfold endM;rw[if_pos h1,if_neg h2,Int.toNat_natCast]
   have HC:Hid (Calls Tryz.prog 122 #[v,.int .u64 (m:Int),.int .i64 10] w (AppP base (l++endM (bl t) (m:Int)) w)):=by have:=yJ6 base v l m w HO.1 (by omega) (by omega) hb HO.2;rw[←HE.out]at this;exact this
   clear h2;go_enter Tryz.func104,Tryz.ntmps104;go_wp2_with fail;refine HC.mono ?_;rintro e w' hp;have HP:Hid (AppP base (l++endM (bl t) (m:Int)) w e w'):=hp;obtain⟨v',rfl,_⟩:=hp;go_wp2_with fail;go_ret;exact HP.out
 ·have zt:(t.toList==([]:List UInt8))=false:=by rw[beq_eq_false_iff_ne];exact fun q=>h1 (yDu.2 q)
  have zt2:¬t.toList= []:=fun q=>h1 (yDu.2 q);have HE:Hid (endM (bl t) n=quoM (bl t)):=by show _=_;unfold endM;rw[if_neg h1]
  have HC:Hid (Calls Tryz.prog 103 #[v,.string t] w (AppP base (l++endM (bl t) n) w)):=by have:=yEt base v l t w HO.1 (by omega) (by omega) hb;rw[←HE.out]at this;exact this
  clear h1;go_enter Tryz.func104,Tryz.ntmps104;go_wp2_with fail;refine HC.mono ?_;rintro e w' hp;have HP:Hid (AppP base (l++endM (bl t) n) w e w'):=hp;obtain⟨v',rfl,_⟩:=hp;go_wp2_with fail;go_ret;exact HP.out
def LfC (k:Int):Prop:=∀(base:Nat) (v:Value) (l:List UInt8) (s:ByteArray) (hi:Bool) (t:ByteArray) (lo up n:Int) (w:World),yAj ⟨k,s,hi,t,lo,up,n⟩→NumN ⟨k,s,hi,t,lo,up,n⟩→OwnS w base v l→l.length≤1000→base≤w.heap.size→Gl w→7≤base→
    Calls Tryz.prog 76 #[v,.agg #[.int .i64 k,.string s,.bool hi,.string t,.int .u64 lo,.int .u64 up,.int .i64 n]] w (AppP base (l++yBi ⟨k,s,hi,t,lo,up,n⟩) w)
variable {p:Prop}
theorem zLfa (h:p:=by
 intro base v l s hi t lo up n w hg hn hO hl hb hG hB;have HG:Hid (yAj ⟨k,s,hi,t,lo,up,n⟩):=hg;obtain⟨g0,g1,_,_⟩:=hg;simp only at g0 g1;obtain⟨YY,hYY⟩:=qE (l++yBi ⟨k,s,hi,t,lo,up,n⟩);rw[←hYY];have HYY:Hid (YY=l++yBi ⟨k,s,hi,t,lo,up,n⟩):=hYY;clear hYY;obtain⟨B,hBw⟩:=qE (yA8 k);have HBw:Hid (B=yA8 k):=hBw;have n8:B.size≤8:=by have:=yCk k;rw[yBb]at this;rw[hBw];exact this
 have nB:(bl B).length=B.size:=yBb B;obtain⟨W0,hW0⟩:=qE (w.alloc (Obj.cells #[.int .i64 k,.string s,.bool hi,.string t,.int .u64 lo,.int .u64 up,.int .i64 n] 65):World);obtain⟨vs,hvs⟩:∃vs:List Value,vs=(#[.int .i64 k,.string s,.bool hi,.string t,.int .u64 lo,.int .u64 up,.int .i64 n]).toList:=⟨_,rfl⟩;have hb0:Below w.heap.size w W0:=by rw[hW0];exact qB
 have s0:=hb0.size;have HW0:Hid (OwnS W0 base v l∧Fr base w W0∧Gl W0∧yA W0 w.heap.size 65 7 w.heap.size vs):=by refine⟨hO.below hb0,(Fr.refl _ _).step hb0 hb,hG.on hb0 (by omega),?_⟩;rw[hW0,hvs];exact yAb w _ (Nat.le_refl _) rfl
 have hv0:vs[0]?=some (.int .i64 k):=by rw[hvs];rfl
 have hv1:vs[1]?=some (.string s):=by rw[hvs];rfl
 have hv3:vs[3]?=some (.string t):=by rw[hvs];rfl
 have hv4:vs[4]?=some (.int .u64 lo):=by rw[hvs];rfl
 have hv5:vs[5]?=some (.int .u64 up):=by rw[hvs];rfl
 have hv6:vs[6]?=some (.int .i64 n):=by rw[hvs];rfl
 have c0:=HW0.2.2.2.cell (j:=0) hv0;have gw:W0.cell? ⟨0,jj,none⟩=some (.string B):=by rw[hBw];subst hk hjj;exact HW0.2.2.1.words _ (by omega)
 clear hb0 hO hG hvs hBw;subst hk hjj;go_enter Tryz.func76,Tryz.ntmps76;go_upto_region 1 with fail;rw[←hW0];clear hW0;go_wp2_with (at_builtin;refine yCc _ rfl _ _ rfl base v l B rfl rfl HW0.1 ?hl ?hb ?_);case hl=>first|omega|(show l.length+(bl B).length≤_;omega)
 case hb=>omega
 intro v1 w1 hO1 hgr1;have hgr2:W0.grownBy w1 v.ownBlock:=hgr1;obtain⟨X1,hX1⟩:∃X1:List UInt8,X1=l++bl B:=⟨_,rfl⟩;have hO1':OwnS w1 base v1 X1:=by rw[hX1];exact hO1
 have x1:X1.length≤l.length+8:=by rw[hX1,List.length_append];omega
 have HX1:Hid (X1=l++bl B):=hX1;clear hX1;have hF1:=HW0.1.nextF HW0.2.1 (by omega) hgr2;have HW1:Hid (OwnS w1 base v1 X1∧Fr base w w1∧Gl w1∧yA w1 w.heap.size 65 7 w.heap.size vs):=by have hF01:Fr base W0 w1:=HW0.1.nextF (Fr.refl _ _) (by omega) hgr2;exact⟨hO1',hF1,HW0.2.2.1.on hF01.below hB,hF01.box HW0.2.2.2 (by decide)⟩
 have s1:=hgr2.size;clear hO1 hO1' hgr1 hgr2 c0 gw hF1;have c0:=HW1.2.2.2.cell (j:=0) hv0;have HL:Hid (YY=X1):=by show _=_;rw[HX1.out,HYY.out,HBw.out];simp[yBi,yEd]
 go_wp2_with fail;go_ret;exact⟨v1,rfl,by rw[HL.out];exact HW1.1,HW1.2.1⟩):p:=h
variable {k:Int} {jj:Nat}
theorem xAc (hk:k=1) (hjj:jj=1):LfC k:=by exact zLfa
theorem xAb (hk:k=2) (hjj:jj=2):LfC k:=by exact zLfa
theorem xAa (hk:k=3) (hjj:jj=3):LfC k:=by exact zLfa
theorem zLfb (h:p:=by
 intro base v l s hi t lo up n w hg hn hO hl hb hG hB;have HG:Hid (yAj ⟨k,s,hi,t,lo,up,n⟩):=hg;obtain⟨g0,g1,_,_⟩:=hg;simp only at g0 g1;obtain⟨YY,hYY⟩:=qE (l++yBi ⟨k,s,hi,t,lo,up,n⟩);rw[←hYY];have HYY:Hid (YY=l++yBi ⟨k,s,hi,t,lo,up,n⟩):=hYY;clear hYY;obtain⟨B,hBw⟩:=qE (yA8 k);have HBw:Hid (B=yA8 k):=hBw;have n8:B.size≤8:=by have:=yCk k;rw[yBb]at this;rw[hBw];exact this
 have nB:(bl B).length=B.size:=yBb B;obtain⟨W0,hW0⟩:=qE (w.alloc (Obj.cells #[.int .i64 k,.string s,.bool hi,.string t,.int .u64 lo,.int .u64 up,.int .i64 n] 65):World);obtain⟨vs,hvs⟩:∃vs:List Value,vs=(#[.int .i64 k,.string s,.bool hi,.string t,.int .u64 lo,.int .u64 up,.int .i64 n]).toList:=⟨_,rfl⟩;have hb0:Below w.heap.size w W0:=by rw[hW0];exact qB
 have s0:=hb0.size;have HW0:Hid (OwnS W0 base v l∧Fr base w W0∧Gl W0∧yA W0 w.heap.size 65 7 w.heap.size vs):=by refine⟨hO.below hb0,(Fr.refl _ _).step hb0 hb,hG.on hb0 (by omega),?_⟩;rw[hW0,hvs];exact yAb w _ (Nat.le_refl _) rfl
 have hv0:vs[0]?=some (.int .i64 k):=by rw[hvs];rfl
 have hv1:vs[1]?=some (.string s):=by rw[hvs];rfl
 have hv3:vs[3]?=some (.string t):=by rw[hvs];rfl
 have hv4:vs[4]?=some (.int .u64 lo):=by rw[hvs];rfl
 have hv5:vs[5]?=some (.int .u64 up):=by rw[hvs];rfl
 have hv6:vs[6]?=some (.int .i64 n):=by rw[hvs];rfl
 have c0:=HW0.2.2.2.cell (j:=0) hv0;have gw:W0.cell? ⟨0,jj,none⟩=some (.string B):=by rw[hBw];subst hk hjj;exact HW0.2.2.1.words _ (by omega)
 clear hb0 hO hG hvs hBw;subst hk hjj;go_enter Tryz.func76,Tryz.ntmps76;go_upto_region 1 with fail;rw[←hW0];clear hW0;go_wp2_with (at_builtin;refine yCc _ rfl _ _ rfl base v l B rfl rfl HW0.1 ?hl ?hb ?_);case hl=>first|omega|(show l.length+(bl B).length≤_;omega)
 case hb=>omega
 intro v1 w1 hO1 hgr1;have hgr2:W0.grownBy w1 v.ownBlock:=hgr1;obtain⟨X1,hX1⟩:∃X1:List UInt8,X1=l++bl B:=⟨_,rfl⟩;have hO1':OwnS w1 base v1 X1:=by rw[hX1];exact hO1
 have x1:X1.length≤l.length+8:=by rw[hX1,List.length_append];omega
 have HX1:Hid (X1=l++bl B):=hX1;clear hX1;have hF1:=HW0.1.nextF HW0.2.1 (by omega) hgr2;have HW1:Hid (OwnS w1 base v1 X1∧Fr base w w1∧Gl w1∧yA w1 w.heap.size 65 7 w.heap.size vs):=by have hF01:Fr base W0 w1:=HW0.1.nextF (Fr.refl _ _) (by omega) hgr2;exact⟨hO1',hF1,HW0.2.2.1.on hF01.below hB,hF01.box HW0.2.2.2 (by decide)⟩
 have s1:=hgr2.size;clear hO1 hO1' hgr1 hgr2 c0 gw hF1;have c0:=HW1.2.2.2.cell (j:=0) hv0;obtain⟨W1,hW1⟩:=qE (w1.alloc (Obj.cells #[.int .u8 32] 5):World);have hb1:Below w1.heap.size w1 W1:=by rw[hW1];exact qB
 have t1:=hb1.size;have HV1:Hid (OwnS W1 base v1 X1∧Fr base w W1∧yAe W1 w1.heap.size 0 [32]∧Gl W1∧yA W1 w.heap.size 65 7 w.heap.size vs):=by refine⟨HW1.1.below hb1,HW1.2.1.step hb1 (by omega),?_,HW1.2.2.1.on hb1 (by omega),HW1.2.2.2.below hb1⟩;rw[hW1];exact yAp w1 _ [32] rfl
 clear hb1;go_wp2_with (at_builtin;(try rw[←hW1]);refine yAq _ rfl _ _ rfl base w1.heap.size 0 1 1 v1 X1 [32] rfl rfl rfl HV1.1 HV1.2.2.1 ?hl ?hb ?_);case hl=>first|omega|(show X1.length+1≤_;omega)
 case hb=>omega
 intro v2 w2 hO2 hgr2;have hgr2:W1.grownBy w2 v1.ownBlock:=by first|exact hgr2|(rw[hW1];exact hgr2)
 obtain⟨X2,hX2⟩:∃X2:List UInt8,X2=X1++ [32]:=⟨_,rfl⟩;have hO':OwnS w2 base v2 X2:=by rw[hX2];exact hO2
 have x2:X2.length≤X1.length+1:=by rw[hX2,List.length_append];exact Nat.le_refl _
 have HX2:Hid (X2=X1++ [32]):=hX2;clear hX2;have HW2:Hid (OwnS w2 base v2 X2∧Fr base w w2∧Gl w2∧yA w2 w.heap.size 65 7 w.heap.size vs):=by have hF01:Fr base W1 w2:=HV1.1.nextF (Fr.refl _ _) (by omega) hgr2;exact⟨hO',HV1.2.1.trans hF01,HV1.2.2.2.1.on hF01.below hB,hF01.box HV1.2.2.2.2 (by decide)⟩
 have s2:=hgr2.size;clear hO2 hO' hgr2;try clear hgr2
 try clear hW1
 try clear c0
 have HL:Hid (YY=X2++quoM (bl s)):=by show _=_;rw[HX2.out,HX1.out,HYY.out,HBw.out];simp[yBi,yEd]
 have e1:=HW2.2.2.2.cell (j:=1) hv1;go_wp2_with fail;refine(yEt base v2 X2 s w2 HW2.1 (by omega) (by omega) (by omega)).mono ?_;exact zzQ61):p:=h
theorem xA (hk:k=4) (hjj:jj=4):LfC k:=by exact zLfb
theorem yZ9 (hk:k=5) (hjj:jj=5):LfC k:=by exact zLfb
theorem yZ8 (hk:k=6) (hjj:jj=6):LfC k:=by exact zLfb
theorem yZ7 (hk:k=7) (hjj:jj=7):LfC k:=by exact zLfb
theorem zLfc (h:p:=by
 intro base v l s hi t lo up n w hg hn hO hl hb hG hB;have HG:Hid (yAj ⟨k,s,hi,t,lo,up,n⟩):=hg;obtain⟨g0,g1,_,_⟩:=hg;simp only at g0 g1;obtain⟨YY,hYY⟩:=qE (l++yBi ⟨k,s,hi,t,lo,up,n⟩);rw[←hYY];have HYY:Hid (YY=l++yBi ⟨k,s,hi,t,lo,up,n⟩):=hYY;clear hYY;obtain⟨B,hBw⟩:=qE (yA8 k);have HBw:Hid (B=yA8 k):=hBw;have n8:B.size≤8:=by have:=yCk k;rw[yBb]at this;rw[hBw];exact this
 have nB:(bl B).length=B.size:=yBb B;obtain⟨W0,hW0⟩:=qE (w.alloc (Obj.cells #[.int .i64 k,.string s,.bool hi,.string t,.int .u64 lo,.int .u64 up,.int .i64 n] 65):World);obtain⟨vs,hvs⟩:∃vs:List Value,vs=(#[.int .i64 k,.string s,.bool hi,.string t,.int .u64 lo,.int .u64 up,.int .i64 n]).toList:=⟨_,rfl⟩;have hb0:Below w.heap.size w W0:=by rw[hW0];exact qB
 have s0:=hb0.size;have HW0:Hid (OwnS W0 base v l∧Fr base w W0∧Gl W0∧yA W0 w.heap.size 65 7 w.heap.size vs):=by refine⟨hO.below hb0,(Fr.refl _ _).step hb0 hb,hG.on hb0 (by omega),?_⟩;rw[hW0,hvs];exact yAb w _ (Nat.le_refl _) rfl
 have hv0:vs[0]?=some (.int .i64 k):=by rw[hvs];rfl
 have hv1:vs[1]?=some (.string s):=by rw[hvs];rfl
 have hv3:vs[3]?=some (.string t):=by rw[hvs];rfl
 have hv4:vs[4]?=some (.int .u64 lo):=by rw[hvs];rfl
 have hv5:vs[5]?=some (.int .u64 up):=by rw[hvs];rfl
 have hv6:vs[6]?=some (.int .i64 n):=by rw[hvs];rfl
 have c0:=HW0.2.2.2.cell (j:=0) hv0;have gw:W0.cell? ⟨0,jj,none⟩=some (.string B):=by rw[hBw];subst hk hjj;exact HW0.2.2.1.words _ (by omega)
 clear hb0 hO hG hvs hBw;subst hk hjj;go_enter Tryz.func76,Tryz.ntmps76;go_upto_region 1 with fail;rw[←hW0];clear hW0;go_wp2_with (at_builtin;refine yCc _ rfl _ _ rfl base v l B rfl rfl HW0.1 ?hl ?hb ?_);case hl=>first|omega|(show l.length+(bl B).length≤_;omega)
 case hb=>omega
 intro v1 w1 hO1 hgr1;have hgr2:W0.grownBy w1 v.ownBlock:=hgr1;obtain⟨X1,hX1⟩:∃X1:List UInt8,X1=l++bl B:=⟨_,rfl⟩;have hO1':OwnS w1 base v1 X1:=by rw[hX1];exact hO1
 have x1:X1.length≤l.length+8:=by rw[hX1,List.length_append];omega
 have HX1:Hid (X1=l++bl B):=hX1;clear hX1;have hF1:=HW0.1.nextF HW0.2.1 (by omega) hgr2;have HW1:Hid (OwnS w1 base v1 X1∧Fr base w w1∧Gl w1∧yA w1 w.heap.size 65 7 w.heap.size vs):=by have hF01:Fr base W0 w1:=HW0.1.nextF (Fr.refl _ _) (by omega) hgr2;exact⟨hO1',hF1,HW0.2.2.1.on hF01.below hB,hF01.box HW0.2.2.2 (by decide)⟩
 have s1:=hgr2.size;clear hO1 hO1' hgr1 hgr2 c0 gw hF1;have c0:=HW1.2.2.2.cell (j:=0) hv0;obtain⟨W1,hW1⟩:=qE (w1.alloc (Obj.cells #[.int .u8 32] 5):World);have hb1:Below w1.heap.size w1 W1:=by rw[hW1];exact qB
 have t1:=hb1.size;have HV1:Hid (OwnS W1 base v1 X1∧Fr base w W1∧yAe W1 w1.heap.size 0 [32]∧Gl W1∧yA W1 w.heap.size 65 7 w.heap.size vs):=by refine⟨HW1.1.below hb1,HW1.2.1.step hb1 (by omega),?_,HW1.2.2.1.on hb1 (by omega),HW1.2.2.2.below hb1⟩;rw[hW1];exact yAp w1 _ [32] rfl
 clear hb1;go_wp2_with (at_builtin;(try rw[←hW1]);refine yAq _ rfl _ _ rfl base w1.heap.size 0 1 1 v1 X1 [32] rfl rfl rfl HV1.1 HV1.2.2.1 ?hl ?hb ?_);case hl=>first|omega|(show X1.length+1≤_;omega)
 case hb=>omega
 intro v2 w2 hO2 hgr2;have hgr2:W1.grownBy w2 v1.ownBlock:=by first|exact hgr2|(rw[hW1];exact hgr2)
 obtain⟨X2,hX2⟩:∃X2:List UInt8,X2=X1++ [32]:=⟨_,rfl⟩;have hO':OwnS w2 base v2 X2:=by rw[hX2];exact hO2
 have x2:X2.length≤X1.length+1:=by rw[hX2,List.length_append];exact Nat.le_refl _
 have HX2:Hid (X2=X1++ [32]):=hX2;clear hX2;have HW2:Hid (OwnS w2 base v2 X2∧Fr base w w2∧Gl w2∧yA w2 w.heap.size 65 7 w.heap.size vs):=by have hF01:Fr base W1 w2:=HV1.1.nextF (Fr.refl _ _) (by omega) hgr2;exact⟨hO',HV1.2.1.trans hF01,HV1.2.2.2.1.on hF01.below hB,hF01.box HV1.2.2.2.2 (by decide)⟩
 have s2:=hgr2.size;clear hO2 hO' hgr2;try clear hgr2
 try clear hW1
 try clear c0
 have n0:=hn.lo0;have n1:=hn.lo1;have n2:=hn.up0;have n3:=hn.up1;simp only at n0 n1 n2 n3;have e1:=HW2.2.2.2.cell (j:=1) hv1;have e4:=HW2.2.2.2.cell (j:=4) hv4;have hln:=yL2 (t:=bl s) (n:=lo) (by rw[yBb];exact g0) n0 n1;go_wp2_with fail;refine(yGv base v2 X2 s lo w2 HW2.1 (by omega) (by omega) n0 n1 (by omega) HW2.2.2.1).mono ?_;rintro e w3 ⟨v3,rfl,hO3,hF3⟩;have s3:=hF3.below.size;obtain⟨X3,hX3⟩:∃X3:List UInt8,X3=X2++endM (bl s) lo:=⟨_,rfl⟩;have hO':OwnS w3 base v3 X3:=by rw[hX3];exact hO3
 have x3:X3.length≤X2.length+802:=by rw[hX3,List.length_append];omega
 have HX3:Hid (X3=X2++endM (bl s) lo):=hX3;clear hX3;have HW3:Hid (OwnS w3 base v3 X3∧Fr base w w3∧Gl w3∧yA w3 w.heap.size 65 7 w.heap.size vs):=⟨hO',HW2.2.1.trans hF3,HW2.2.2.1.on hF3.below hB,hF3.box HW2.2.2.2 (by decide)⟩;clear hO3 hO' hF3 e1 e4;go_wp2_with (at_builtin;refine yCc _ rfl _ _ rfl base v3 X3 ⟨#[46,46]⟩ rfl rfl HW3.1 ?hl ?hb ?_);case hl=>first|omega|(show X3.length+2≤_;omega)
 case hb=>omega
 intro v4 w4 hO4 hgr2;obtain⟨X4,hX4⟩:∃X4:List UInt8,X4=X3++ [46,46]:=⟨_,rfl⟩;have hO':OwnS w4 base v4 X4:=by rw[hX4];exact hO4
 have x4:X4.length≤X3.length+2:=by rw[hX4,List.length_append];exact Nat.le_refl _
 have HX4:Hid (X4=X3++ [46,46]):=hX4;clear hX4;have HW4:Hid (OwnS w4 base v4 X4∧Fr base w w4∧Gl w4∧yA w4 w.heap.size 65 7 w.heap.size vs):=by have hF01:Fr base w3 w4:=HW3.1.nextF (Fr.refl _ _) (by omega) hgr2;exact⟨hO',HW3.2.1.trans hF01,HW3.2.2.1.on hF01.below hB,hF01.box HW3.2.2.2 (by decide)⟩
 have s4:=hgr2.size;clear hO4 hO' hgr2;have HL:Hid (YY=X4++endM (bl t) up):=by show _=_;rw[HX4.out,HX3.out,HX2.out,HX1.out,HYY.out,HBw.out];simp[yBi,yEd]
 have e3:=HW4.2.2.2.cell (j:=3) hv3;have e5:=HW4.2.2.2.cell (j:=5) hv5;go_wp2_with fail;refine(yGv base v4 X4 t up w4 HW4.1 (by omega) (by omega) n2 n3 (by omega) HW4.2.2.1).mono ?_;rintro e w9 ⟨v9,rfl,hO9,hF9⟩;have HR:Hid (AppP base (YY) w (.returned v9) w9):=⟨v9,rfl,by rw[HL.out];exact hO9,HW4.2.1.trans hF9⟩;clear hO9 hF9;go_wp2_with fail;go_ret;exact HR.out):p:=h
theorem yZ6 (hk:k=8) (hjj:jj=8):LfC k:=by exact zLfc
theorem yZ5 (hk:k=9) (hjj:jj=9):LfC k:=by exact zLfc
theorem yWx (hk:k=10) (hjj:jj=10):LfC k:=by exact zLfc
theorem zLfe (h:p:=by
 intro base v l s hi t lo up n w hg hn hO hl hb hG hB;have HG:Hid (yAj ⟨k,s,hi,t,lo,up,n⟩):=hg;obtain⟨g0,g1,_,_⟩:=hg;simp only at g0 g1;obtain⟨YY,hYY⟩:=qE (l++yBi ⟨k,s,hi,t,lo,up,n⟩);rw[←hYY];have HYY:Hid (YY=l++yBi ⟨k,s,hi,t,lo,up,n⟩):=hYY;clear hYY;obtain⟨B,hBw⟩:=qE (yA8 k);have HBw:Hid (B=yA8 k):=hBw;have n8:B.size≤8:=by have:=yCk k;rw[yBb]at this;rw[hBw];exact this
 have nB:(bl B).length=B.size:=yBb B;obtain⟨W0,hW0⟩:=qE (w.alloc (Obj.cells #[.int .i64 k,.string s,.bool hi,.string t,.int .u64 lo,.int .u64 up,.int .i64 n] 65):World);obtain⟨vs,hvs⟩:∃vs:List Value,vs=(#[.int .i64 k,.string s,.bool hi,.string t,.int .u64 lo,.int .u64 up,.int .i64 n]).toList:=⟨_,rfl⟩;have hb0:Below w.heap.size w W0:=by rw[hW0];exact qB
 have s0:=hb0.size;have HW0:Hid (OwnS W0 base v l∧Fr base w W0∧Gl W0∧yA W0 w.heap.size 65 7 w.heap.size vs):=by refine⟨hO.below hb0,(Fr.refl _ _).step hb0 hb,hG.on hb0 (by omega),?_⟩;rw[hW0,hvs];exact yAb w _ (Nat.le_refl _) rfl
 have hv0:vs[0]?=some (.int .i64 k):=by rw[hvs];rfl
 have hv1:vs[1]?=some (.string s):=by rw[hvs];rfl
 have hv3:vs[3]?=some (.string t):=by rw[hvs];rfl
 have hv4:vs[4]?=some (.int .u64 lo):=by rw[hvs];rfl
 have hv5:vs[5]?=some (.int .u64 up):=by rw[hvs];rfl
 have hv6:vs[6]?=some (.int .i64 n):=by rw[hvs];rfl
 have c0:=HW0.2.2.2.cell (j:=0) hv0;have gw:W0.cell? ⟨0,jj,none⟩=some (.string B):=by rw[hBw];subst hk hjj;exact HW0.2.2.1.words _ (by omega)
 clear hb0 hO hG hvs hBw;subst hk hjj;go_enter Tryz.func76,Tryz.ntmps76;go_upto_region 1 with fail;rw[←hW0];clear hW0;go_wp2_with (at_builtin;refine yCc _ rfl _ _ rfl base v l B rfl rfl HW0.1 ?hl ?hb ?_);case hl=>first|omega|(show l.length+(bl B).length≤_;omega)
 case hb=>omega
 intro v1 w1 hO1 hgr1;have hgr2:W0.grownBy w1 v.ownBlock:=hgr1;obtain⟨X1,hX1⟩:∃X1:List UInt8,X1=l++bl B:=⟨_,rfl⟩;have hO1':OwnS w1 base v1 X1:=by rw[hX1];exact hO1
 have x1:X1.length≤l.length+8:=by rw[hX1,List.length_append];omega
 have HX1:Hid (X1=l++bl B):=hX1;clear hX1;have hF1:=HW0.1.nextF HW0.2.1 (by omega) hgr2;have HW1:Hid (OwnS w1 base v1 X1∧Fr base w w1∧Gl w1∧yA w1 w.heap.size 65 7 w.heap.size vs):=by have hF01:Fr base W0 w1:=HW0.1.nextF (Fr.refl _ _) (by omega) hgr2;exact⟨hO1',hF1,HW0.2.2.1.on hF01.below hB,hF01.box HW0.2.2.2 (by decide)⟩
 have s1:=hgr2.size;clear hO1 hO1' hgr1 hgr2 c0 gw hF1;have c0:=HW1.2.2.2.cell (j:=0) hv0;obtain⟨W1,hW1⟩:=qE (w1.alloc (Obj.cells #[.int .u8 32] 5):World);have hb1:Below w1.heap.size w1 W1:=by rw[hW1];exact qB
 have t1:=hb1.size;have HV1:Hid (OwnS W1 base v1 X1∧Fr base w W1∧yAe W1 w1.heap.size 0 [32]∧Gl W1∧yA W1 w.heap.size 65 7 w.heap.size vs):=by refine⟨HW1.1.below hb1,HW1.2.1.step hb1 (by omega),?_,HW1.2.2.1.on hb1 (by omega),HW1.2.2.2.below hb1⟩;rw[hW1];exact yAp w1 _ [32] rfl
 clear hb1;go_wp2_with (at_builtin;(try rw[←hW1]);refine yAq _ rfl _ _ rfl base w1.heap.size 0 1 1 v1 X1 [32] rfl rfl rfl HV1.1 HV1.2.2.1 ?hl ?hb ?_);case hl=>first|omega|(show X1.length+1≤_;omega)
 case hb=>omega
 intro v2 w2 hO2 hgr2;have hgr2:W1.grownBy w2 v1.ownBlock:=by first|exact hgr2|(rw[hW1];exact hgr2)
 obtain⟨X2,hX2⟩:∃X2:List UInt8,X2=X1++ [32]:=⟨_,rfl⟩;have hO':OwnS w2 base v2 X2:=by rw[hX2];exact hO2
 have x2:X2.length≤X1.length+1:=by rw[hX2,List.length_append];exact Nat.le_refl _
 have HX2:Hid (X2=X1++ [32]):=hX2;clear hX2;have HW2:Hid (OwnS w2 base v2 X2∧Fr base w w2∧Gl w2∧yA w2 w.heap.size 65 7 w.heap.size vs):=by have hF01:Fr base W1 w2:=HV1.1.nextF (Fr.refl _ _) (by omega) hgr2;exact⟨hO',HV1.2.1.trans hF01,HV1.2.2.2.1.on hF01.below hB,hF01.box HV1.2.2.2.2 (by decide)⟩
 have s2:=hgr2.size;clear hO2 hO' hgr2;try clear hgr2
 try clear hW1
 try clear c0
 have hn1:1≤n∧n≤1000:=by obtain⟨_,_,_,g3⟩:=HG.out;simp only at g3;omega
 obtain⟨m,rfl⟩:=Int.eq_ofNat_of_zero_le (show 0≤n by omega);have HL:Hid (YY=X2++Lib.decDigits m):=by show _=_;rw[HX2.out,HX1.out,HYY.out,HBw.out];simp[yBi,yEd]
 have e6:=HW2.2.2.2.cell (j:=6) hv6;go_wp2_with fail;refine(yKm base v2 X2 m w2 HW2.1 (by omega) (by omega) (by omega) HW2.2.2.1 hB).mono ?_;exact zzQ61):p:=h
theorem yWw (hk:k=11) (hjj:jj=11):LfC k:=by exact zLfe
theorem yWv (hk:k=12) (hjj:jj=12):LfC k:=by exact zLfe
theorem yWu (hk:k=13) (hjj:jj=13):LfC k:=by exact zLfe
theorem yJ7 (base:Nat) (v:Value) (l:List UInt8) (e:Nd) (w:World) (hg:yAj e) (hn:NumN e) (hk:yAo e.kind=0) (hO:OwnS w base v l) (hl:l.length≤1000) (hb:base≤w.heap.size) (hG:Gl w) (hB:7≤base):
  Calls Tryz.prog 76 #[v,e.v] w (AppP base (l++yBi e) w):=by
 obtain⟨kind,s,hi,t,lo,up,n⟩:=e;have h13:kind=1∨kind=2∨kind=3∨kind=4∨kind=5∨kind=6∨kind=7∨kind=8∨kind=9∨kind=10∨kind=11∨kind=12∨kind=13:=by
  obtain⟨_,_,_,h⟩:=hg;simp only at h hk;unfold yAo at hk;by_cases q14:kind=14∨kind=15
  ·rw[if_pos q14]at hk;cases hk
  ·by_cases q16:kind=16
   ·rw[if_neg q14,if_pos q16]at hk;cases hk
   ·omega
 rcases h13 with rfl|rfl|rfl|rfl|rfl|rfl|rfl|rfl|rfl|rfl|rfl|rfl|rfl
 ·exact xAc rfl rfl base v l s hi t lo up n w hg hn hO hl hb hG hB
 ·exact xAb rfl rfl base v l s hi t lo up n w hg hn hO hl hb hG hB
 ·exact xAa rfl rfl base v l s hi t lo up n w hg hn hO hl hb hG hB
 ·exact xA rfl rfl base v l s hi t lo up n w hg hn hO hl hb hG hB
 ·exact yZ9 rfl rfl base v l s hi t lo up n w hg hn hO hl hb hG hB
 ·exact yZ8 rfl rfl base v l s hi t lo up n w hg hn hO hl hb hG hB
 ·exact yZ7 rfl rfl base v l s hi t lo up n w hg hn hO hl hb hG hB
 ·exact yZ6 rfl rfl base v l s hi t lo up n w hg hn hO hl hb hG hB
 ·exact yZ5 rfl rfl base v l s hi t lo up n w hg hn hO hl hb hG hB
 ·exact yWx rfl rfl base v l s hi t lo up n w hg hn hO hl hb hG hB
 ·exact yWw rfl rfl base v l s hi t lo up n w hg hn hO hl hb hG hB
 ·exact yWv rfl rfl base v l s hi t lo up n w hg hn hO hl hb hG hB
 ·exact yWu rfl rfl base v l s hi t lo up n w hg hn hO hl hb hG hB
theorem yB9:(⟨#[]⟩:ByteArray).toList= []:=by first|(simp;done)|(kernel_rfl;done)|(go_simp;done)
theorem yZi:Op.bytesLess [] []=false:=by first|(kernel_rfl;done)|(decide;done)|(simp[Op.bytesLess];done)
theorem yCr (k:Int) (s:ByteArray) (h:Bool) (t:ByteArray) (l u n k':Int) (s':ByteArray) (h':Bool) (t':ByteArray) (l' u' n':Int) (B:Bool) (hB:B=decide (k=k'∧s.toList=s'.toList∧h=h'∧t.toList=t'.toList∧l=l'∧u=u'∧n=n')) (wx:World):
  (binOp .eql 65 (.agg #[.int .i64 k,.string s,.bool h,.string t,.int .u64 l,.int .u64 u,.int .i64 n]) (.agg #[.int .i64 k',.string s',.bool h',.string t',.int .u64 l',.int .u64 u',.int .i64 n'])).run Tryz.prog wx=.ok (.bool B) wx:=by
 rw[hB];exact yVc k s h t l u n k' s' h' t' l' u' n' wx
theorem yKe (e:Nd) (w:World) (hs:e.s.size≤maxLen) (ht:e.t.size≤maxLen):Calls Tryz.prog 100 #[e.v] w (NdPost e w):=by
 obtain⟨kind,s,hi,t,lo,up,n⟩:=e;have HS:Hid (s.size≤maxLen):=hs;unfold maxLen at hs ht;simp only[]at hs ht;obtain⟨W0,hW0⟩:=qE (w.alloc (Obj.cells #[.int .i64 kind,.string s,.bool hi,.string t,.int .u64 lo,.int .u64 up,.int .i64 n] 65):World);have HW0:Hid (yA W0 w.heap.size 65 7 w.heap.size [.int .i64 kind,.string s,.bool hi,.string t,.int .u64 lo,.int .u64 up,.int .i64 n]∧Below w.heap.size w W0):=by rw[hW0];exact⟨yAb w _ (Nat.le_refl _) rfl,qB⟩
 have hbw:=HW0.2.size;obtain⟨c0,c1,c2,c3,c4,c5,c6⟩:=HW0.1.c7;go_enter Tryz.func100,Tryz.ntmps100;go_upto_region 1 with fail;rw[←hW0];clear hW0;by_cases hgood:s.size≤200∧t.size≤200;case neg=>
  have HG:Hid (¬yAj ⟨kind,s,hi,t,lo,up,n⟩):=fun q=>hgood ⟨q.1,q.2.1⟩;by_cases h1:s.size≤200
  ·have z1:¬(200:Int)<(s.size:Int):=by omega
   have h2:¬t.size≤200:=fun q=>hgood ⟨h1,q⟩;have z2:(200:Int)<(t.size:Int):=by omega
   clear hgood;go_wp2_with fail;go_ret;exact⟨_,rfl,by simp[HG.out],HW0.2⟩
  ·have z1:(200:Int)<(s.size:Int):=by omega
   clear hgood;go_wp2_with fail;go_ret;exact⟨_,rfl,by simp[HG.out],HW0.2⟩
 have HG:Hid (s.size≤200∧t.size≤200):=hgood;have z1:¬(200:Int)<(s.size:Int):=by omega
 have z2:¬(200:Int)<(t.size:Int):=by omega
 clear hgood hs ht;obtain⟨c,hc⟩:=qE ((yBg (sb s)).1);obtain⟨k,hk⟩:=qE (((yBg (sb s)).2:Int):Int);have HV:Hid (c=(yBg (sb s)).1):=hc;have HC:Hid (∀w,Calls Tryz.prog 119 #[.string s] w fun e w'=>e=.returned (.agg #[.int .i64 c,.int .i64 k])∧Below w.heap.size w w'):=fun w=>by rw[hc,hk];exact yGs s w HS.out
 clear hc hk;by_cases k1:kind=1
 ·subst k1;obtain⟨B,hB⟩:=qE (decide ((1:Int)=1∧s.toList=(⟨#[]⟩:ByteArray).toList∧hi=false∧t.toList=(⟨#[]⟩:ByteArray).toList∧lo=0∧up=0∧n=0));have hq:=yCr 1 s hi t lo up n 1 ⟨#[]⟩ false ⟨#[]⟩ 0 0 0 B hB;have HB:Hid (B=true↔(1:Int)=1∧s.toList=(⟨#[]⟩:ByteArray).toList∧hi=false∧t.toList=(⟨#[]⟩:ByteArray).toList∧lo=0∧up=0∧n=0):=by rw[hB];show decide _=true↔_;simp only[decide_eq_true_eq]
  clear hB;have HF:Hid (B=true↔yAj ⟨1,s,hi,t,lo,up,n⟩):=by
   show B=true↔yAj _;have hB:=HB.out;have hG:=HG.out;have hE:=yB9;try simp only[hE]at hB
   rw[hB];simp[yAj];constructor
   ·rintro⟨q1,q2,q3,q4,q5,q6⟩;simp_all
   ·rintro⟨q1,q2,q3,q4⟩;simp_all
  go_wp2_with fail;go_ret;exact⟨_,rfl,HF.out,HW0.2⟩
 by_cases k2:kind=2
 ·subst k2;obtain⟨B,hB⟩:=qE (decide ((2:Int)=2∧s.toList=(⟨#[]⟩:ByteArray).toList∧hi=false∧t.toList=(⟨#[]⟩:ByteArray).toList∧lo=0∧up=0∧n=0));have hq:=yCr 2 s hi t lo up n 2 ⟨#[]⟩ false ⟨#[]⟩ 0 0 0 B hB;have HB:Hid (B=true↔(2:Int)=2∧s.toList=(⟨#[]⟩:ByteArray).toList∧hi=false∧t.toList=(⟨#[]⟩:ByteArray).toList∧lo=0∧up=0∧n=0):=by rw[hB];show decide _=true↔_;simp only[decide_eq_true_eq]
  clear hB;have HF:Hid (B=true↔yAj ⟨2,s,hi,t,lo,up,n⟩):=by
   show B=true↔yAj _;have hB:=HB.out;have hG:=HG.out;have hE:=yB9;try simp only[hE]at hB
   rw[hB];simp[yAj];constructor
   ·rintro⟨q1,q2,q3,q4,q5,q6⟩;simp_all
   ·rintro⟨q1,q2,q3,q4⟩;simp_all
  go_wp2_with fail;go_ret;exact⟨_,rfl,HF.out,HW0.2⟩
 by_cases k3:kind=3
 ·subst k3;obtain⟨B,hB⟩:=qE (decide ((3:Int)=3∧s.toList=(⟨#[]⟩:ByteArray).toList∧hi=false∧t.toList=(⟨#[]⟩:ByteArray).toList∧lo=0∧up=0∧n=0));have hq:=yCr 3 s hi t lo up n 3 ⟨#[]⟩ false ⟨#[]⟩ 0 0 0 B hB;have HB:Hid (B=true↔(3:Int)=3∧s.toList=(⟨#[]⟩:ByteArray).toList∧hi=false∧t.toList=(⟨#[]⟩:ByteArray).toList∧lo=0∧up=0∧n=0):=by rw[hB];show decide _=true↔_;simp only[decide_eq_true_eq]
  clear hB;have HF:Hid (B=true↔yAj ⟨3,s,hi,t,lo,up,n⟩):=by
   show B=true↔yAj _;have hB:=HB.out;have hG:=HG.out;have hE:=yB9;try simp only[hE]at hB
   rw[hB];simp[yAj];constructor
   ·rintro⟨q1,q2,q3,q4,q5,q6⟩;simp_all
   ·rintro⟨q1,q2,q3,q4⟩;simp_all
  go_wp2_with fail;go_ret;exact⟨_,rfl,HF.out,HW0.2⟩
 by_cases k14:kind=14
 ·subst k14;obtain⟨B,hB⟩:=qE (decide ((14:Int)=14∧s.toList=(⟨#[]⟩:ByteArray).toList∧hi=false∧t.toList=(⟨#[]⟩:ByteArray).toList∧lo=0∧up=0∧n=0));have hq:=yCr 14 s hi t lo up n 14 ⟨#[]⟩ false ⟨#[]⟩ 0 0 0 B hB;have HB:Hid (B=true↔(14:Int)=14∧s.toList=(⟨#[]⟩:ByteArray).toList∧hi=false∧t.toList=(⟨#[]⟩:ByteArray).toList∧lo=0∧up=0∧n=0):=by rw[hB];show decide _=true↔_;simp only[decide_eq_true_eq]
  clear hB;have HF:Hid (B=true↔yAj ⟨14,s,hi,t,lo,up,n⟩):=by
   show B=true↔yAj _;have hB:=HB.out;have hG:=HG.out;have hE:=yB9;try simp only[hE]at hB
   rw[hB];simp[yAj];constructor
   ·rintro⟨q1,q2,q3,q4,q5,q6⟩;simp_all
   ·rintro⟨q1,q2,q3,q4⟩;simp_all
  go_wp2_with fail;go_ret;exact⟨_,rfl,HF.out,HW0.2⟩
 by_cases k15:kind=15
 ·subst k15;obtain⟨B,hB⟩:=qE (decide ((15:Int)=15∧s.toList=(⟨#[]⟩:ByteArray).toList∧hi=false∧t.toList=(⟨#[]⟩:ByteArray).toList∧lo=0∧up=0∧n=0));have hq:=yCr 15 s hi t lo up n 15 ⟨#[]⟩ false ⟨#[]⟩ 0 0 0 B hB;have HB:Hid (B=true↔(15:Int)=15∧s.toList=(⟨#[]⟩:ByteArray).toList∧hi=false∧t.toList=(⟨#[]⟩:ByteArray).toList∧lo=0∧up=0∧n=0):=by rw[hB];show decide _=true↔_;simp only[decide_eq_true_eq]
  clear hB;have HF:Hid (B=true↔yAj ⟨15,s,hi,t,lo,up,n⟩):=by
   show B=true↔yAj _;have hB:=HB.out;have hG:=HG.out;have hE:=yB9;try simp only[hE]at hB
   rw[hB];simp[yAj];constructor
   ·rintro⟨q1,q2,q3,q4,q5,q6⟩;simp_all
   ·rintro⟨q1,q2,q3,q4⟩;simp_all
  go_wp2_with fail;go_ret;exact⟨_,rfl,HF.out,HW0.2⟩
 by_cases k16:kind=16
 ·subst k16;obtain⟨B,hB⟩:=qE (decide ((16:Int)=16∧s.toList=(⟨#[]⟩:ByteArray).toList∧hi=false∧t.toList=(⟨#[]⟩:ByteArray).toList∧lo=0∧up=0∧n=0));have hq:=yCr 16 s hi t lo up n 16 ⟨#[]⟩ false ⟨#[]⟩ 0 0 0 B hB;have HB:Hid (B=true↔(16:Int)=16∧s.toList=(⟨#[]⟩:ByteArray).toList∧hi=false∧t.toList=(⟨#[]⟩:ByteArray).toList∧lo=0∧up=0∧n=0):=by rw[hB];show decide _=true↔_;simp only[decide_eq_true_eq]
  clear hB;have HF:Hid (B=true↔yAj ⟨16,s,hi,t,lo,up,n⟩):=by
   show B=true↔yAj _;have hB:=HB.out;have hG:=HG.out;have hE:=yB9;try simp only[hE]at hB
   rw[hB];simp[yAj];constructor
   ·rintro⟨q1,q2,q3,q4,q5,q6⟩;simp_all
   ·rintro⟨q1,q2,q3,q4⟩;simp_all
  go_wp2_with fail;go_ret;exact⟨_,rfl,HF.out,HW0.2⟩
 by_cases k4:kind=4
 ·subst k4;obtain⟨B,hB⟩:=qE (decide ((4:Int)=4∧s.toList=s.toList∧hi=false∧t.toList=(⟨#[]⟩:ByteArray).toList∧lo=0∧up=0∧n=0));have hq:=yCr 4 s hi t lo up n 4 s false ⟨#[]⟩ 0 0 0 B hB;have HB:Hid (B=true↔(4:Int)=4∧s.toList=s.toList∧hi=false∧t.toList=(⟨#[]⟩:ByteArray).toList∧lo=0∧up=0∧n=0):=by rw[hB];show decide _=true↔_;simp only[decide_eq_true_eq]
  clear hB;cases B
  ·have HF:Hid (¬yAj ⟨4,s,hi,t,lo,up,n⟩):=by
    show¬yAj _;have hB:=HB.out;have hE:=yB9;try simp only[hE]at hB
    intro q;simp[yAj]at q hB;simp_all
   go_wp2_with fail;go_ret;exact⟨_,rfl,by simp[HF.out],HW0.2⟩
  ·have HF:Hid (yAj ⟨4,s,hi,t,lo,up,n⟩↔c=0):=by
    show yAj _↔_;have hB:=HB.out;have hG:=HG.out;have hE:=yB9;try simp only[hE]at hB
    rw[HV.out];simp at hB;simp[yAj];simp_all
   exact yT8
 by_cases k5:kind=5
 ·subst k5;obtain⟨B,hB⟩:=qE (decide ((5:Int)=5∧s.toList=s.toList∧hi=false∧t.toList=(⟨#[]⟩:ByteArray).toList∧lo=0∧up=0∧n=0));have hq:=yCr 5 s hi t lo up n 5 s false ⟨#[]⟩ 0 0 0 B hB;have HB:Hid (B=true↔(5:Int)=5∧s.toList=s.toList∧hi=false∧t.toList=(⟨#[]⟩:ByteArray).toList∧lo=0∧up=0∧n=0):=by rw[hB];show decide _=true↔_;simp only[decide_eq_true_eq]
  clear hB;cases B
  ·have HF:Hid (¬yAj ⟨5,s,hi,t,lo,up,n⟩):=by
    show¬yAj _;have hB:=HB.out;have hE:=yB9;try simp only[hE]at hB
    intro q;simp[yAj]at q hB;simp_all
   go_wp2_with fail;go_ret;exact⟨_,rfl,by simp[HF.out],HW0.2⟩
  ·have HF:Hid (yAj ⟨5,s,hi,t,lo,up,n⟩↔c=0):=by
    show yAj _↔_;have hB:=HB.out;have hG:=HG.out;have hE:=yB9;try simp only[hE]at hB
    rw[HV.out];simp at hB;simp[yAj];simp_all
   exact yT8
 by_cases k6:kind=6
 ·subst k6;obtain⟨B,hB⟩:=qE (decide ((6:Int)=6∧s.toList=s.toList∧hi=false∧t.toList=(⟨#[]⟩:ByteArray).toList∧lo=0∧up=0∧n=0));have hq:=yCr 6 s hi t lo up n 6 s false ⟨#[]⟩ 0 0 0 B hB;have HB:Hid (B=true↔(6:Int)=6∧s.toList=s.toList∧hi=false∧t.toList=(⟨#[]⟩:ByteArray).toList∧lo=0∧up=0∧n=0):=by rw[hB];show decide _=true↔_;simp only[decide_eq_true_eq]
  clear hB;cases B
  ·have HF:Hid (¬yAj ⟨6,s,hi,t,lo,up,n⟩):=by
    show¬yAj _;have hB:=HB.out;have hE:=yB9;try simp only[hE]at hB
    intro q;simp[yAj]at q hB;simp_all
   go_wp2_with fail;go_ret;exact⟨_,rfl,by simp[HF.out],HW0.2⟩
  ·have HF:Hid (yAj ⟨6,s,hi,t,lo,up,n⟩↔c=0):=by
    show yAj _↔_;have hB:=HB.out;have hG:=HG.out;have hE:=yB9;try simp only[hE]at hB
    rw[HV.out];simp at hB;simp[yAj];simp_all
   exact yT8
 by_cases k7:kind=7
 ·subst k7;obtain⟨B,hB⟩:=qE (decide ((7:Int)=7∧s.toList=s.toList∧hi=false∧t.toList=(⟨#[]⟩:ByteArray).toList∧lo=0∧up=0∧n=0));have hq:=yCr 7 s hi t lo up n 7 s false ⟨#[]⟩ 0 0 0 B hB;have HB:Hid (B=true↔(7:Int)=7∧s.toList=s.toList∧hi=false∧t.toList=(⟨#[]⟩:ByteArray).toList∧lo=0∧up=0∧n=0):=by rw[hB];show decide _=true↔_;simp only[decide_eq_true_eq]
  clear hB;cases B
  ·have HF:Hid (¬yAj ⟨7,s,hi,t,lo,up,n⟩):=by
    show¬yAj _;have hB:=HB.out;have hE:=yB9;try simp only[hE]at hB
    intro q;simp[yAj]at q hB;simp_all
   go_wp2_with fail;go_ret;exact⟨_,rfl,by simp[HF.out],HW0.2⟩
  ·have HF:Hid (yAj ⟨7,s,hi,t,lo,up,n⟩↔c=0):=by
    show yAj _↔_;have hB:=HB.out;have hG:=HG.out;have hE:=yB9;try simp only[hE]at hB
    rw[HV.out];simp at hB;simp[yAj];simp_all
   exact yT8
 by_cases k8:kind=8
 ·subst k8;obtain⟨B,hB⟩:=qE (decide ((8:Int)=8∧s.toList=s.toList∧hi=hi∧t.toList=t.toList∧lo=0∧up=0∧n=0));have hq:=yCr 8 s hi t lo up n 8 s hi t 0 0 0 B hB;have HB:Hid (B=true↔(8:Int)=8∧s.toList=s.toList∧hi=hi∧t.toList=t.toList∧lo=0∧up=0∧n=0):=by rw[hB];show decide _=true↔_;simp only[decide_eq_true_eq]
  clear hB;cases B
  ·have HF:Hid (¬yAj ⟨8,s,hi,t,lo,up,n⟩):=by
    show¬yAj _;have hB:=HB.out;have hE:=yB9;try simp only[hE]at hB
    intro q;simp[yAj]at q hB;simp_all
   go_wp2_with fail;go_ret;exact⟨_,rfl,by simp[HF.out],HW0.2⟩
  ·go_wp2_with fail;refine(yJu ⟨8,s,hi,t,lo,up,n⟩ _).mono ?_;rintro r w2 ⟨b,rfl,hb,hb2⟩;have HF:Hid (b=true↔yAj ⟨8,s,hi,t,lo,up,n⟩):=by
    show b=true↔yAj _;have hB:=HB.out;have hG:=HG.out;have hE:=yB9;have hL:=yZi;try simp only[hE]at hB
    simp at hB;rw[hb];simp[yAj];cases hi<;>simp_all[less]
   exact yXu
 by_cases k9:kind=9
 ·subst k9;obtain⟨B,hB⟩:=qE (decide ((9:Int)=9∧s.toList=s.toList∧hi=hi∧t.toList=t.toList∧lo=0∧up=0∧n=0));have hq:=yCr 9 s hi t lo up n 9 s hi t 0 0 0 B hB;have HB:Hid (B=true↔(9:Int)=9∧s.toList=s.toList∧hi=hi∧t.toList=t.toList∧lo=0∧up=0∧n=0):=by rw[hB];show decide _=true↔_;simp only[decide_eq_true_eq]
  clear hB;cases B
  ·have HF:Hid (¬yAj ⟨9,s,hi,t,lo,up,n⟩):=by
    show¬yAj _;have hB:=HB.out;have hE:=yB9;try simp only[hE]at hB
    intro q;simp[yAj]at q hB;simp_all
   go_wp2_with fail;go_ret;exact⟨_,rfl,by simp[HF.out],HW0.2⟩
  ·go_wp2_with fail;refine(yJu ⟨9,s,hi,t,lo,up,n⟩ _).mono ?_;rintro r w2 ⟨b,rfl,hb,hb2⟩;have HF:Hid (b=true↔yAj ⟨9,s,hi,t,lo,up,n⟩):=by
    show b=true↔yAj _;have hB:=HB.out;have hG:=HG.out;have hE:=yB9;have hL:=yZi;try simp only[hE]at hB
    simp at hB;rw[hb];simp[yAj];cases hi<;>simp_all[less]
   exact yXu
 by_cases k10:kind=10
 ·subst k10;obtain⟨B,hB⟩:=qE (decide ((10:Int)=10∧s.toList=(⟨#[]⟩:ByteArray).toList∧hi=hi∧t.toList=(⟨#[]⟩:ByteArray).toList∧lo=lo∧up=up∧n=0));have hq:=yCr 10 s hi t lo up n 10 ⟨#[]⟩ hi ⟨#[]⟩ lo up 0 B hB;have HB:Hid (B=true↔(10:Int)=10∧s.toList=(⟨#[]⟩:ByteArray).toList∧hi=hi∧t.toList=(⟨#[]⟩:ByteArray).toList∧lo=lo∧up=up∧n=0):=by rw[hB];show decide _=true↔_;simp only[decide_eq_true_eq]
  clear hB;cases B
  ·have HF:Hid (¬yAj ⟨10,s,hi,t,lo,up,n⟩):=by
    show¬yAj _;have hB:=HB.out;have hE:=yB9;try simp only[hE]at hB
    intro q;simp[yAj]at q hB;simp_all
   go_wp2_with fail;go_ret;exact⟨_,rfl,by simp[HF.out],HW0.2⟩
  ·go_wp2_with fail;refine(yJu ⟨10,s,hi,t,lo,up,n⟩ _).mono ?_;rintro r w2 ⟨b,rfl,hb,hb2⟩;have HF:Hid (b=true↔yAj ⟨10,s,hi,t,lo,up,n⟩):=by
    show b=true↔yAj _;have hB:=HB.out;have hG:=HG.out;have hE:=yB9;have hL:=yZi;try simp only[hE]at hB
    simp at hB;rw[hb];simp[yAj];cases hi<;>simp_all[less]
   exact yXu
 by_cases k11:kind=11
 ·subst k11;obtain⟨B,hB⟩:=qE (decide ((11:Int)=11∧s.toList=(⟨#[]⟩:ByteArray).toList∧hi=false∧t.toList=(⟨#[]⟩:ByteArray).toList∧lo=0∧up=0∧n=n));have hq:=yCr 11 s hi t lo up n 11 ⟨#[]⟩ false ⟨#[]⟩ 0 0 n B hB;have HB:Hid (B=true↔(11:Int)=11∧s.toList=(⟨#[]⟩:ByteArray).toList∧hi=false∧t.toList=(⟨#[]⟩:ByteArray).toList∧lo=0∧up=0∧n=n):=by rw[hB];show decide _=true↔_;simp only[decide_eq_true_eq]
  clear hB;cases B
  ·have HF:Hid (¬yAj ⟨11,s,hi,t,lo,up,n⟩):=by
    show¬yAj _;have hB:=HB.out;have hE:=yB9;try simp only[hE]at hB
    intro q;simp[yAj]at q hB;simp_all
   go_wp2_with fail;go_ret;exact⟨_,rfl,by simp[HF.out],HW0.2⟩
  ·have HF:Hid (yAj ⟨11,s,hi,t,lo,up,n⟩↔(1≤n∧n≤1000)):=by
    show yAj _↔_;have hB:=HB.out;have hG:=HG.out;have hE:=yB9;try simp only[hE]at hB
    simp at hB;simp[yAj];simp_all
   exact yXz
 by_cases k12:kind=12
 ·subst k12;obtain⟨B,hB⟩:=qE (decide ((12:Int)=12∧s.toList=(⟨#[]⟩:ByteArray).toList∧hi=false∧t.toList=(⟨#[]⟩:ByteArray).toList∧lo=0∧up=0∧n=n));have hq:=yCr 12 s hi t lo up n 12 ⟨#[]⟩ false ⟨#[]⟩ 0 0 n B hB;have HB:Hid (B=true↔(12:Int)=12∧s.toList=(⟨#[]⟩:ByteArray).toList∧hi=false∧t.toList=(⟨#[]⟩:ByteArray).toList∧lo=0∧up=0∧n=n):=by rw[hB];show decide _=true↔_;simp only[decide_eq_true_eq]
  clear hB;cases B
  ·have HF:Hid (¬yAj ⟨12,s,hi,t,lo,up,n⟩):=by
    show¬yAj _;have hB:=HB.out;have hE:=yB9;try simp only[hE]at hB
    intro q;simp[yAj]at q hB;simp_all
   go_wp2_with fail;go_ret;exact⟨_,rfl,by simp[HF.out],HW0.2⟩
  ·have HF:Hid (yAj ⟨12,s,hi,t,lo,up,n⟩↔(1≤n∧n≤1000)):=by
    show yAj _↔_;have hB:=HB.out;have hG:=HG.out;have hE:=yB9;try simp only[hE]at hB
    simp at hB;simp[yAj];simp_all
   exact yXz
 by_cases k13:kind=13
 ·subst k13;obtain⟨B,hB⟩:=qE (decide ((13:Int)=13∧s.toList=(⟨#[]⟩:ByteArray).toList∧hi=false∧t.toList=(⟨#[]⟩:ByteArray).toList∧lo=0∧up=0∧n=n));have hq:=yCr 13 s hi t lo up n 13 ⟨#[]⟩ false ⟨#[]⟩ 0 0 n B hB;have HB:Hid (B=true↔(13:Int)=13∧s.toList=(⟨#[]⟩:ByteArray).toList∧hi=false∧t.toList=(⟨#[]⟩:ByteArray).toList∧lo=0∧up=0∧n=n):=by rw[hB];show decide _=true↔_;simp only[decide_eq_true_eq]
  clear hB;cases B
  ·have HF:Hid (¬yAj ⟨13,s,hi,t,lo,up,n⟩):=by
    show¬yAj _;have hB:=HB.out;have hE:=yB9;try simp only[hE]at hB
    intro q;simp[yAj]at q hB;simp_all
   go_wp2_with fail;go_ret;exact⟨_,rfl,by simp[HF.out],HW0.2⟩
  ·have HF:Hid (yAj ⟨13,s,hi,t,lo,up,n⟩↔(1≤n∧n≤1000)):=by
    show yAj _↔_;have hB:=HB.out;have hG:=HG.out;have hE:=yB9;try simp only[hE]at hB
    simp at hB;simp[yAj];simp_all
   exact yXz
 have HF:Hid (¬yAj ⟨kind,s,hi,t,lo,up,n⟩):=by show¬yAj _;simp only[yAj];rintro⟨_,_,_,q⟩;omega
 go_wp2_with fail;go_ret;exact⟨_,rfl,by simp[HF.out],HW0.2⟩
theorem yEm (k:Int) (w:World):Calls Tryz.prog 73 #[.int .i64 k] w fun e w'=>e=.returned (.int .i64 (yAo k:Int))∧w'=w:=by
 by_cases h14:k=14
 ·subst h14;exact yXr
 by_cases h15:k=15
 ·subst h15;exact yXr
 by_cases h16:k=16
 ·subst h16;exact yXr
 have z14:(k==14)=false:=by simpa using h14
 have z15:(k==15)=false:=by simpa using h15
 have z16:(k==16)=false:=by simpa using h16
 have H:Hid (yAo k=0):=by show yAo k=0;unfold yAo;rw[if_neg (by omega),if_neg h16]
 go_enter Tryz.func73,Tryz.ntmps73;go_wp2_with fail;go_ret;exact⟨by rw[H.out];rfl,rfl⟩
theorem yLe (k:Int) (w:World):Calls Tryz.prog 121 #[.int .i64 k] w fun e w'=>e=.returned (.int .i64 (yA3 k:Int))∧w'=w:=by
 by_cases h15:k=15
 ·subst h15;go_enter Tryz.func121,Tryz.ntmps121;go_wp2_with fail;go_ret;exact⟨rfl,rfl⟩
 by_cases h14:k=14
 ·subst h14;go_enter Tryz.func121,Tryz.ntmps121;go_wp2_with fail;go_ret;exact⟨rfl,rfl⟩
 have z14:(k==14)=false:=by simpa using h14
 have z15:(k==15)=false:=by simpa using h15
 have H:Hid (yA3 k=3):=by show yA3 k=3;unfold yA3;rw[if_neg h15,if_neg h14]
 go_enter Tryz.func121,Tryz.ntmps121;go_wp2_with fail;go_ret;exact⟨by rw[H.out];rfl,rfl⟩
theorem yE6 (op:Int) (i:Nat) (kid:Int) (w:World) (hop:¬op=16):Calls Tryz.prog 101 #[.int .i64 op,.int .i64 (i:Int),.int .i64 kid] w fun e w'=>e=.returned (.bool (yBf op i kid))∧w'=w:=by
 by_cases hi:i=0
 ·subst hi;have HL:Hid (yBf op 0 kid=decide (yA3 kid<yA3 op)):=by show yBf op 0 kid=_;unfold yBf;simp[hop]
  exact zzQ64
 ·have zi:((i:Int)==0)=false:=by simpa using hi
  have HL:Hid (yBf op i kid=decide (yA3 kid≤yA3 op)):=by show yBf op i kid=_;unfold yBf;simp[hop,hi]
  exact zzQ64
abbrev yAx.three (s:yAx):List Value:= [.bool s.valid,.int .i64 s.kind,.int .i64 (s.nest:Int)]
def yB6 (ss:List yAx):List Value:=ss.flatMap yAx.three
theorem yHk (ss:List yAx):(yB6 ss).length=ss.length*3:=by
 induction ss with
 |nil=>rfl
 |cons e es ih=>simp only[yB6,List.flatMap_cons,List.length_append]at ih⊢;rw[ih];simp;omega
theorem yL8 (es fs:List yAx):yB6 (es++fs)=yB6 es++yB6 fs:=by simp[yB6]
theorem yQz (es:List yAx):∀(k:Nat) (e:yAx),es[k]?=some e→∀j,j<3→(yB6 es)[k*3+j]?=e.three[j]?:=by
 induction es with
 |nil=>intro k e h;simp at h
 |cons f es ih=>
  intro k e h j hj;have hc:yB6 (f::es)=f.three++yB6 es:=by simp[yB6]
  rw[hc];cases k with
  |zero=>
   simp at h;subst h;rw[List.getElem?_append_left (by show 0*3+j<3;omega)];simp
  |succ k=>
   simp at h;rw[List.getElem?_append_right (by show 3≤(k+1)*3+j;omega)];have:(k+1)*3+j-f.three.length=k*3+j:=by show(k+1)*3+j-3=_;omega
   rw[this];exact ih k e h j hj
theorem yOm (es:List yAx) (k:Nat):yB6 (es.take k)=(yB6 es).take (k*3):=by
 induction es generalizing k with
 |nil=>simp[yB6]
 |cons f es ih=>
  cases k with
  |zero=>simp[yB6]
  |succ k=>
   have hc:yB6 (f::es)=f.three++yB6 es:=by simp[yB6]
   have hd:yB6 (f::es.take k)=f.three++yB6 (es.take k):=by simp[yB6]
   have e1:(k+1)*3=f.three.length+k*3:=by show(k+1)*3=3+k*3;omega
   rw[List.take_succ_cons,hd,hc,ih,e1,List.take_length_add_append]
def yJ9 (w:World) (b o:Nat) (ss:List yAx):Prop:=∀i s,ss[i]?=some s→w.cell? ⟨b,o+i*3,none⟩=some (.bool s.valid)∧w.cell? ⟨b,o+i*3+1,none⟩=some (.int .i64 s.kind)∧w.cell? ⟨b,o+i*3+2,none⟩=some (.int .i64 (s.nest:Int))
variable {b:Nat} {ss:List yAx}
theorem yJ9.below {o:Nat} (h:yJ9 w b o ss) (hb:Below B w w') (hlt:b<B):yJ9 w' b o ss:=by
 intro i e he;have:=h i e he;refine⟨?_,?_,?_⟩;all_goals rw[hb.cell (by exact hlt)]
 ·exact this.1
 ·exact this.2.1
 ·exact this.2.2
theorem yJ9.drop {o:Nat} (h:yJ9 w b o ss) (k:Nat):yJ9 w b (o+k*3) (ss.drop k):=by exact zzQ85
def yFd (w:World) (base g cp:Nat) (ss:List yAx):Prop:=w.ownsRow base 112 3 (.slice (some ⟨g,0,none⟩) ss.length cp) ss.length (yB6 ss)
variable {base g cp:Nat}
theorem yFd.lt (h:yFd w base g cp ss):base≤g∧g<w.heap.size:=World.ownsRow.lt h g rfl
theorem yFd.below (h:yFd w base g cp ss) (hb:Below w.heap.size w w'):yFd w' base g cp ss:=yA2 h (Chg.of_below hb) (S:=fun _=>False) (fun k q z=>z)
theorem yFd.at (h:yFd w base g cp ss):yJ9 w g 0 ss:=by
 intro i e he;have hi:i<ss.length:=(List.getElem?_eq_some_iff.1 he).1;have c:=fun j (hj:j<3)=>(World.ownsRow.cellAt h (i*3+j) (by omega)).trans (yQz ss i e he j hj);refine⟨?_,?_,?_⟩
 ·simpa using c 0 (by omega)
 ·simpa using c 1 (by omega)
 ·simpa using c 2 (by omega)
theorem yFd.caps (h:yFd w base g cp ss):ss.length≤cp∧cp≤maxLen:=by exact yP3
variable {k:Nat}
theorem yFd.take (h:yFd w base g cp ss) (hk:k≤ss.length):yFd w base g cp (ss.take k):=by
 rcases h.2 with⟨h0,_⟩|⟨g',cap',cur,hv,h1,h2,h3,h4,h5,h6⟩
 ·cases h0
 ·simp only[Value.slice.injEq,Option.some.injEq,Addr.mk.injEq,and_true,true_and]at hv;obtain⟨rfl,rfl⟩:=hv;have hl:(ss.take k).length=k:=by rw[List.length_take];omega
  refine⟨by rw[yHk],.inr ⟨g,cp,cur,rfl,h1,h2,by omega,h4,h5,?_⟩⟩;rw[hl,yOm,←h6,List.take_take];congr 1;omega
theorem ySc (w:World) (hb:base≤w.heap.size):yFd (w.alloc (Obj.cells #[] 112)) base w.heap.size 0 []:=
 World.ownsRow_made w #[] 0 hb (Nat.zero_le _) (by simp)
structure SoJ (w:World) (e:Nd) (WB:Nat) (v:Bool) (a:Nat) (wr:World):Prop where
 node:yA wr w.heap.size 65 7 w.heap.size e.seven
 res:yA wr w.heap.size 112 3 (w.heap.size+1) [.bool false,.int .i64 0,.int .i64 0]
 whole:yA wr w.heap.size 112 3 WB [.bool v,.int .i64 e.kind,.int .i64 (a:Int)]
 ne:w.heap.size+2≤WB
 below:Below w.heap.size w wr
variable {e:Nd} {WB a:Nat}
theorem SoJ.move {v:Bool} {wr:World} (h:SoJ w e WB v a wr) (hb:Below wr.heap.size wr w'):SoJ w e WB v a w':=
 ⟨h.node.below hb,h.res.below hb,h.whole.below hb,h.ne,h.below.trans (hb.mono h.below.size)⟩
theorem yUg (e:Nd) (w:World) (hs:e.s.size≤maxLen) (ht:e.t.size≤maxLen):Calls Tryz.prog 100 #[.agg #[.int .i64 e.kind,.string e.s,.bool e.hi,.string e.t,.int .u64 e.lo,.int .u64 e.up,.int .i64 e.n]] w fun r w'=>r=.returned (.bool (goodB e))∧Below w.heap.size w w':=by refine(yKe e w hs ht).mono ?_;rintro r w' ⟨b,rfl,hb,hb2⟩;refine⟨?_,hb2⟩;congr 2;rw[Bool.eq_iff_iff,hb,yFw]
theorem yHx (base:Nat) (v:Value) (l:List UInt8) (op:Int) (i:Nat) (kid:Int) (b c:Nat) (t:List UInt8) (w:World) (hop:¬op=16) (hO:OwnS w base v l) (hl:l.length≤1000000) (ht:t.length≤1000000) (hb:base≤w.heap.size) (hE:yAe w b 0 t) (hbb:b<base):
  Calls Tryz.prog 74 #[v,.int .i64 op,.int .i64 (i:Int),.agg #[.int .i64 kid,.slice (some ⟨b,0,none⟩) t.length c]] w (AppP base (l++yAw op i (kid,t)) w):=by
 obtain⟨n,hn⟩:=qE t.length;rw[←hn];obtain⟨W0,hW0⟩:=qE (w.alloc (Obj.cells #[.int .i64 kid,.slice (some ⟨b,0,none⟩) n c] 67):World);have hb0:Below w.heap.size w W0:=by rw[hW0];exact qB
 have s0:=hb0.size;have HN:Hid (n=t.length):=hn;have HW0:Hid (OwnS W0 base v l∧Fr base w W0∧yA W0 w.heap.size 67 2 w.heap.size [.int .i64 kid,.slice (some ⟨b,0,none⟩) n c]∧yAe W0 b 0 t):=by refine⟨hO.below hb0,(Fr.refl _ _).step hb0 hb,?_,hE.below hb0 (by omega)⟩;rw[hW0];exact yAb w _ (Nat.le_refl _) rfl
 obtain⟨c0,c1⟩:=HW0.2.2.1.c2;obtain⟨L,hL⟩:=qE (yBf op i kid:Bool);have HC:Hid (Calls Tryz.prog 101 #[.int .i64 op,.int .i64 (i:Int),.int .i64 kid] W0 fun e w'=>e=.returned (.bool L)∧w'=W0):=by rw[hL];exact yE6 op i kid W0 hop
 have HT:Hid (yAw op i (kid,t)=if L=true then [40]++t++ [41]else t):=by show _=_;unfold yAw yGx;rw[if_neg hop,←hL]
 have hn1:n≤1000000:=by omega
 clear hL hn hE hb0 hO ht;go_enter Tryz.func74,Tryz.ntmps74;go_upto_region 1 with fail;rw[←hW0];clear hW0;go_wp2_with fail;refine HC.mono ?_;rintro r w9 ⟨rfl,hw9⟩;rw[hw9];clear hw9 HC;cases L
 case false=>
  have HL:Hid (l++yAw op i (kid,t)=l++t):=by show _=_;rw[HT.out];rfl
  go_wp2_with (at_builtin;refine yAq _ rfl _ _ rfl base b 0 n c v l t rfl rfl HN.out HW0.1 HW0.2.2.2 ?hl ?hb ?_);case hl=>rw[←HN.out];omega
  case hb=>omega
  intro v1 w1 hO1 hgr;have HR:Hid (AppP base (l++yAw op i (kid,t)) w (.returned v1) w1):=⟨v1,rfl,by rw[HL.out];exact hO1,HW0.1.nextF HW0.2.1 (by omega) hgr⟩;clear hO1 hgr;go_wp2_with fail;go_ret;exact HR.out
 case true=>
 have HL:Hid (l++yAw op i (kid,t)=l++ [40]++t++ [41]):=by show _=_;rw[HT.out];simp
 obtain⟨W1,hW1⟩:=qE (W0.alloc (Obj.cells #[.int .u8 40] 5):World);have hb1:Below W0.heap.size W0 W1:=by rw[hW1];exact qB
 have s1:=hb1.size;have HW1:Hid (OwnS W1 base v l∧Fr base w W1∧yA W1 w.heap.size 67 2 w.heap.size [.int .i64 kid,.slice (some ⟨b,0,none⟩) n c]∧yAe W1 b 0 t∧yAe W1 W0.heap.size 0 [40]):=by refine⟨HW0.1.below hb1,HW0.2.1.step hb1 (by omega),HW0.2.2.1.below hb1,HW0.2.2.2.below hb1 (by omega),?_⟩;rw[hW1];exact yAp W0 _ [40] rfl
 clear hb1 c0 c1;go_wp2_with (at_builtin;(try rw[←hW1]);refine yAq _ rfl _ _ rfl base W0.heap.size 0 1 1 v l [40] rfl rfl rfl HW1.1 HW1.2.2.2.2 ?hl ?hb ?_);case hl=>first|omega|(show l.length+1≤_;omega)
 case hb=>omega
 intro v2 w2 hO2 hgr2';have hgr2:W1.grownBy w2 v.ownBlock:=by first|exact hgr2'|(rw[hW1];exact hgr2')
 obtain⟨X2,hX2⟩:∃X2:List UInt8,X2=l++ [40]:=⟨_,rfl⟩;have HX2:Hid (X2=l++ [40]):=hX2;have x2:X2.length≤l.length+1:=by rw[hX2,List.length_append];exact Nat.le_refl _
 have hF12:Fr base W1 w2:=HW1.1.nextF (Fr.refl _ _) (by omega) hgr2;have s2:=hgr2.size
 have HW2:Hid (OwnS w2 base v2 X2∧Fr base w w2∧yA w2 w.heap.size 67 2 w.heap.size [.int .i64 kid,.slice (some ⟨b,0,none⟩) n c]∧yAe w2 b 0 t):=
  ⟨by rw[hX2];exact hO2,HW1.2.1.trans hF12,hF12.box HW1.2.2.1 (by decide),HW1.2.2.2.1.below hF12.below hbb⟩
 have d1:=HW2.2.2.1.cell (j:=1) rfl;clear hO2 hgr2 hX2 hF12;try clear hgr2'
 try clear hW1
 go_wp2_with (at_builtin;refine yAq _ rfl _ _ rfl base b 0 n c v2 X2 t rfl rfl HN.out HW2.1 HW2.2.2.2 ?hl ?hb ?_);case hl=>rw[←HN.out];omega
 case hb=>omega
 intro v3 w3 hO3 hgr3;obtain⟨X3,hX3⟩:∃X3:List UInt8,X3=X2++t:=⟨_,rfl⟩;have HX3:Hid (X3=X2++t):=hX3;have x3:X3.length≤X2.length+n:=by rw[hX3,List.length_append,←HN.out];exact Nat.le_refl _
 have s3:=hgr3.size;obtain⟨W3,hW3⟩:=qE (w3.alloc (Obj.cells #[.int .u8 41] 5):World);have hb3:Below w3.heap.size w3 W3:=by rw[hW3];exact qB
 have t3:=hb3.size;have HW3:Hid (OwnS W3 base v3 X3∧Fr base w W3∧yAe W3 w3.heap.size 0 [41]):=by refine⟨OwnS.below (by rw[hX3];exact hO3) hb3,(HW2.1.nextF HW2.2.1 (by omega) hgr3).step hb3 (by omega),?_⟩;rw[hW3];exact yAp w3 _ [41] rfl
 clear hO3 hgr3 hX3 hb3 d1;go_wp2_with (at_builtin;(try rw[←hW3]);refine yAq _ rfl _ _ rfl base w3.heap.size 0 1 1 v3 X3 [41] rfl rfl rfl HW3.1 HW3.2.2 ?hl ?hb ?_);case hl=>first|omega|(show X3.length+1≤_;omega)
 case hb=>omega
 intro v4 w4 hO4 hgr4';have hgr4:W3.grownBy w4 v3.ownBlock:=by first|exact hgr4'|(rw[hW3];exact hgr4')
 have HR:Hid (AppP base (l++yAw op i (kid,t)) w (.returned v4) w4):=⟨v4,rfl,by rw[HL.out,←HX2.out,←HX3.out];exact hO4,HW3.1.nextF HW3.2.1 (by omega) hgr4⟩;clear hO4 hgr4;try clear hgr4'
 try clear hW3
 go_wp2_with fail;go_ret;exact HR.out
structure PnJ (w:World) (e:Nd) (v:Value) (X:List UInt8) (wr:World):Prop where
 own:OwnS wr (w.heap.size+3) v X
 node:yA wr w.heap.size 65 7 w.heap.size e.seven
 res:yA wr w.heap.size 67 2 (w.heap.size+1) [.int .i64 0,.slice none 0 0]
 whole:yA wr w.heap.size 67 2 (w.heap.size+1+1) [.int .i64 e.kind,v]
 gl:Gl wr
 below:Below w.heap.size w wr
 size:w.heap.size+3≤wr.heap.size
variable {X:List UInt8}
theorem PnJ.move {v:Value} {wr:World} (h:PnJ w e v X wr) (hb:Below wr.heap.size wr w') (hG:7≤w.heap.size):PnJ w e v X w':=by have hs:=hb.size;have h2:=h.size;exact⟨h.own.below hb,h.node.below hb,h.res.below hb,h.whole.below hb,h.gl.on hb (by omega),h.below.trans (hb.mono (by omega)),by omega⟩
theorem PnJ.step {v v2:Value} {X2:List UInt8} {wr w2:World} (h:PnJ w e v X wr) (hF:Fr (w.heap.size+3) wr w2) (hO:OwnS w2 (w.heap.size+3) v2 X2) (hG:7≤w.heap.size):PnJ w e v2 X2 (w2.setCell ⟨w.heap.size+1+1,1,none⟩ v2):=by
 have hs:=hF.below.size;have h2:=h.size;have hC:Chg (fun k=>k=w.heap.size+1+1) w2 (w2.setCell ⟨w.heap.size+1+1,1,none⟩ v2):=Chg.of_set w2 _ 1 v2 rfl;have hz:(w2.setCell ⟨w.heap.size+1+1,1,none⟩ v2).heap.size=w2.heap.size:=yUo _ _ _ _;refine⟨hO.chg hC (fun k hk q=>by have:=(hO.row k hk).1;omega),(hF.box h.node (by decide)).chg hC (by omega),(hF.box h.res (by decide)).chg hC (by omega),(hF.box h.whole (by decide)).set 1 v2,?_,?_,by omega⟩
 ·exact(h.gl.on hF.below (by omega)).on ((Below.refl (w.heap.size+1+1) w2).setCell (Nat.le_refl _) v2) (by omega)
 ·exact(h.below.trans (hF.below.mono (by omega))).setCell (by show w.heap.size≤w.heap.size+1+1;omega) _
def PnP (k:Int) (X:List UInt8) (w:World) (r:Ending) (w':World):Prop:=∃b c,r=.returned (.agg #[.int .i64 k,.slice (some ⟨b,0,none⟩) X.length c])∧OwnY w' w.heap.size b c X∧Below w.heap.size w w'
theorem PnJ.done {v:Value} {wr:World} (h:PnJ w e v X wr) (hne:X≠ []):∃b c,v=.slice (some ⟨b,0,none⟩) X.length c∧OwnY ((wr.setCell ⟨w.heap.size+1,0,none⟩ (.int .i64 e.kind)).setCell ⟨w.heap.size+1,1,none⟩ v) w.heap.size b c X∧Below w.heap.size w ((wr.setCell ⟨w.heap.size+1,0,none⟩ (.int .i64 e.kind)).setCell ⟨w.heap.size+1,1,none⟩ v)∧yA ((wr.setCell ⟨w.heap.size+1,0,none⟩ (.int .i64 e.kind)).setCell ⟨w.heap.size+1,1,none⟩ v) w.heap.size 67 2 (w.heap.size+1) [.int .i64 e.kind,v]:=by
 rcases h.own.2 with⟨_,h0⟩|⟨b,c,cur,hv,h1,_⟩
 ·exact absurd (List.length_eq_zero_iff.1 h0) hne
 ·have hO:OwnY wr (w.heap.size+3) b c X:=by have:=h.own;rw[hv]at this;exact this
  have hC:Chg (fun k=>k=w.heap.size+1) wr ((wr.setCell ⟨w.heap.size+1,0,none⟩ (.int .i64 e.kind)).setCell ⟨w.heap.size+1,1,none⟩ v):=(Chg.of_set wr _ 0 _ (S:=fun k=>k=w.heap.size+1) rfl).trans (Chg.of_set _ _ 1 _ rfl);refine⟨b,c,hv,(hO.chg hC (by omega)).mono (by omega),yAd (yAd h.below (by omega) 0 _) (by omega) 1 _,(h.res.set 0 _).set 1 _⟩
theorem yVx {v:Value} {l:List UInt8} (h:Lib.FreshBytes B w' v l):∃g cap,v=.slice (some ⟨g,0,none⟩) l.length cap∧B≤g∧yAe w' g 0 l:=by
 obtain⟨g,cap,zs,rfl,hB,hlc,_,hz,hr,hb,hc,_⟩:=h;refine⟨g,cap,rfl,hB,fun i x hx=>?_⟩;have hi:=(List.getElem?_eq_some_iff.1 hx).1;have hzi:i<zs.length:=by omega
 rw[Nat.zero_add,hc i (by omega),List.getD_eq_getElem?_getD,List.getElem?_eq_getElem hzi];have h1:(Lib.bytesOf (zs.take l.length))[i]?=some x:=by rw[hb];exact hx
 unfold Lib.bytesOf at h1;rw[List.getElem?_map,List.getElem?_take_of_lt hi,List.getElem?_eq_getElem hzi]at h1;simp only[Option.map_some,Option.some.injEq]at h1;have h2:=hr zs[i] (List.getElem_mem hzi);simp only[Option.getD_some];rw[←h1];show some (Value.int .u8 zs[i])=some (Value.int .u8 ((UInt8.ofNat zs[i].toNat).toNat:Int));rw[UInt8.toNat_ofNat'];congr 2;omega
theorem yQq (sb pb:Nat) (b0 p0 b1 p1 b2 p2 n0 n1 n2:Nat) (t0 t1 t2:List UInt8) (w:World) (h0:n0=t0.length) (h1:n1=t1.length) (h2:n2=t2.length) (l0:n0≤400000) (l1:n1≤400000) (l2:n2≤400000)
  (c0:w.cell? ⟨sb,0,none⟩=some (.slice (some ⟨b0,0,none⟩) n0 p0)) (c1:w.cell? ⟨sb,1,none⟩=some (.slice (some ⟨b1,0,none⟩) n1 p1)) (c2:w.cell? ⟨sb,2,none⟩=some (.slice (some ⟨b2,0,none⟩) n2 p2))
  (e0:yAe w b0 0 t0) (e1:yAe w b1 0 t1) (e2:yAe w b2 0 t2) (es:yAe w pb 0 [44,32]):
  Calls Tryz.prog 75 #[.slice (some ⟨sb,0,none⟩) 3 3,.slice (some ⟨pb,0,none⟩) 2 2] w fun r w'=>∃g m cap,r=.returned (.slice (some ⟨g,0,none⟩) m cap)∧m=(t0++ [44,32]++t1++ [44,32]++t2).length∧yAe w' g 0 (t0++ [44,32]++t1++ [44,32]++t2)∧Below w.heap.size w w':=by
 subst h0 h1 h2;have hold:∀(b p:Nat) (t:List UInt8),yAe w b 0 t→Lib.HoldsBytes w (.slice (some ⟨b,0,none⟩) t.length p) t:=fun b p t h=>⟨some ⟨b,0,none⟩,p,rfl,(fun q=>by cases q),fun a ha i x hx=>by
  cases ha
  rw[Addr.add_mid]
  exact h i x hx⟩
 have hP:Lib.PartsAt w ⟨sb,0,none⟩ [.slice (some ⟨b0,0,none⟩) t0.length p0,.slice (some ⟨b1,0,none⟩) t1.length p1,.slice (some ⟨b2,0,none⟩) t2.length p2] [t0,t1,t2]:=by
  refine⟨rfl,?_,?_⟩
  ·intro i v hv;rw[Addr.add_mid,Nat.zero_add];match i,hv with
   |0,hv=>simp at hv;subst hv;exact c0
   |1,hv=>simp at hv;subst hv;exact c1
   |2,hv=>simp at hv;subst hv;exact c2
  ·intro i v l hv hl;match i,hv,hl with
   |0,hv,hl=>simp at hv hl;subst hv hl;exact hold b0 p0 t0 e0
   |1,hv,hl=>simp at hv hl;subst hv hl;exact hold b1 p1 t1 e1
   |2,hv,hl=>simp at hv hl;subst hv hl;exact hold b2 p2 t2 e2
 refine(Any.bytes_Join_many Tryz.laysJn sb 0 3 3 _ [t0,t1,t2] (.slice (some ⟨pb,0,none⟩) 2 2) [44,32] w rfl (by omega) hP (by omega) (hold pb 2 [44,32] es) (by omega) (by simp[Lib.lens];omega)).mono ?_;rintro r w' ⟨v,rfl,hF,hb⟩;have hj:Lib.join [t0,t1,t2] [44,32]=t0++ [44,32]++t1++ [44,32]++t2:=by simp[Lib.join_cons,Lib.joinTail]
 rw[hj]at hF;obtain⟨g,cap,rfl,_,hE⟩:=yVx hF;exact⟨g,_,cap,rfl,rfl,hE,hb⟩
theorem yZj (h:yAj e) (hk:yAo e.kind=0):yBi e≠ []:=by
 obtain⟨kind,s,hi,t,lo,up,n⟩:=e;have h13:kind=1∨kind=2∨kind=3∨kind=4∨kind=5∨kind=6∨kind=7∨kind=8∨kind=9∨kind=10∨kind=11∨kind=12∨kind=13:=by
  obtain⟨_,_,_,h⟩:=h;simp only at h hk;unfold yAo at hk;by_cases q14:kind=14∨kind=15
  ·rw[if_pos q14]at hk;cases hk
  ·by_cases q16:kind=16
   ·rw[if_neg q14,if_pos q16]at hk;cases hk
   ·omega
 rcases h13 with rfl|rfl|rfl|rfl|rfl|rfl|rfl|rfl|rfl|rfl|rfl|rfl|rfl;all_goals simp[yBi,yA8,bl]
variable {j:Nat}
theorem yUq (h:Fr base w w') (hk:∃cs t fz,w.heap[k]?=some (.cells cs t fz)∧t≠5):w'.cell? ⟨k,j,none⟩=w.cell? ⟨k,j,none⟩:=by obtain⟨cs,t,fz,h1,h2⟩:=hk;have h3:=h.kept k _ h1 (by simp) (fun c z q=>h2 (by injection q));exact World.cell?_of_block (w:=w) (by rw[h3,h1])
theorem yLm {W:World} {v:Value} {kk:Int} {i:Nat} {ii:Int} {kid:Int} {c n:Nat} {t:List UInt8} {opk:Int} (hk:opk=kk) (hp:ii=(i:Int)) (hj:PnJ w e v X W) (hn:n=t.length) (ht:t.length≤1000000) (hX:X.length≤1000000) (hE:yAe W b 0 t) (hb:b<w.heap.size) (hop:¬kk=16):
  Calls Tryz.prog 74 #[v,.int .i64 opk,.int .i64 ii,.agg #[.int .i64 kid,.slice (some ⟨b,0,none⟩) n c]] W (AppP (w.heap.size+3) (X++yAw kk i (kid,t)) W):=by
 subst hk hp hn;exact yHx (w.heap.size+3) v X opk i kid b c t W hop hj.own hX ht hj.size hE (by omega)
theorem yMr (s:ByteArray) (hi:Bool) (t:ByteArray) (lo up n:Int) (g F c:Nat) (k0 k1:Int) (b0 p0 b1 p1:Nat) (t0 t1:List UInt8) (w:World) (hg:g<w.heap.size) (hG:Gl w) (hB:7≤w.heap.size)
  (h0:w.cell? ⟨g,F,none⟩=some (.int .i64 k0)∧w.cell? ⟨g,F+1,none⟩=some (.slice (some ⟨b0,0,none⟩) t0.length p0)∧yAe w b0 0 t0∧b0<w.heap.size)
  (h1:w.cell? ⟨g,F+2,none⟩=some (.int .i64 k1)∧w.cell? ⟨g,F+2+1,none⟩=some (.slice (some ⟨b1,0,none⟩) t1.length p1)∧yAe w b1 0 t1∧b1<w.heap.size) (hl0:t0.length≤400000) (hl1:t1.length≤400000):
  Calls Tryz.prog 37 #[.agg #[.int .i64 14,.string s,.bool hi,.string t,.int .u64 lo,.int .u64 up,.int .i64 n],.slice (some ⟨g,F,none⟩) 2 c] w (PnP 14 (yAw 14 0 (k0,t0)++ [32,62,32]++yAw 14 1 (k1,t1)) w):=by
 obtain⟨n0,hn0⟩:=qE t0.length;obtain⟨n1,hn1⟩:=qE t1.length;rw[←hn0]at h0;rw[←hn1]at h1;have HP:Hid ((w.cell? ⟨g,F,none⟩=some (.int .i64 k0)∧w.cell? ⟨g,F+1,none⟩=some (.slice (some ⟨b0,0,none⟩) n0 p0)∧yAe w b0 0 t0∧b0<w.heap.size)∧(w.cell? ⟨g,F+2,none⟩=some (.int .i64 k1)∧w.cell? ⟨g,F+2+1,none⟩=some (.slice (some ⟨b1,0,none⟩) n1 p1)∧yAe w b1 0 t1∧b1<w.heap.size)∧(n0=t0.length∧t0.length≤1000000)∧(n1=t1.length∧t1.length≤1000000)):=⟨h0,h1,⟨hn0,by omega⟩,hn1,by omega⟩;have l0:n0≤400000:=by omega
 have l1:n1≤400000:=by omega
 clear h0 h1 hn0 hn1 hl0 hl1;obtain⟨Y,hY⟩:=qE (yAw 14 0 (k0,t0)++ [32,62,32]++yAw 14 1 (k1,t1));rw[←hY];have HY0:Hid (Y=yAw 14 0 (k0,t0)++ [32,62,32]++yAw 14 1 (k1,t1)):=hY;clear hY;obtain⟨W0,hW0⟩:=qE (((w.alloc (Obj.cells #[.int .i64 14,.string s,.bool hi,.string t,.int .u64 lo,.int .u64 up,.int .i64 n] 65)).alloc (Obj.cells #[.int .i64 0,.slice none 0 0] 67)).alloc (Obj.cells #[.int .i64 14,.slice none 0 0] 67):World);have HJ0:Hid (PnJ w ⟨14,s,hi,t,lo,up,n⟩ (.slice none 0 0) [] W0):=by
  obtain⟨A,hA⟩:=qE (w.alloc (Obj.cells #[.int .i64 14,.string s,.bool hi,.string t,.int .u64 lo,.int .u64 up,.int .i64 n] 65):World);obtain⟨B,hBB⟩:=qE (A.alloc (Obj.cells #[.int .i64 0,.slice none 0 0] 67):World);have zA:A.heap.size=w.heap.size+1:=by rw[hA];simp
  have zB:B.heap.size=w.heap.size+2:=by rw[hBB];simp[zA]
  have bA:Below w.heap.size w A:=by rw[hA];exact qB
  have bB:Below A.heap.size A B:=by rw[hBB];exact qB
  have b0:Below B.heap.size B W0:=by rw[hW0,←hA,←hBB];exact qB
  have x0:yA A w.heap.size 65 7 w.heap.size [.int .i64 14,.string s,.bool hi,.string t,.int .u64 lo,.int .u64 up,.int .i64 n]:=by rw[hA];exact yAb w _ (Nat.le_refl _) rfl
  have x1:yA B w.heap.size 67 2 (w.heap.size+1) [.int .i64 0,.slice none 0 0]:=by rw[hBB,←zA];exact yAb A _ (by omega) rfl
  have x2:yA W0 w.heap.size 67 2 (w.heap.size+1+1) [.int .i64 14,.slice none 0 0]:=by rw[hW0,←hA,←hBB,←zB];exact yAb B _ (by omega) rfl
  have bw:Below w.heap.size w W0:=(bA.trans (bB.mono (by omega))).trans (b0.mono (by omega));exact⟨World.ownsRow_nil ..,(x0.below bB).below b0,x1.below b0,x2,hG.on bw hB,bw,by rw[hW0];simp⟩
 have z0:=HJ0.size;have c0:=HJ0.node.cell (j:=0) rfl;go_enter Tryz.func37,Tryz.ntmps37;go_upto_region 2 with fail;rw[←hW0];clear hW0;have m0a:W0.cell? ⟨w.heap.size+1+1,1,none⟩=some (.slice none 0 0):=HJ0.whole.cell (j:=1) rfl;have m0b:W0.cell? ⟨w.heap.size,0,none⟩=some (.int .i64 14):=HJ0.node.cell (j:=0) rfl;have m0c:W0.cell? ⟨g,F,none⟩=some (.int .i64 k0):=by rw[HJ0.below.cell (p:=⟨g,F,none⟩) hg];exact HP.1.1
 have m0d:W0.cell? ⟨g,F+1,none⟩=some (.slice (some ⟨b0,0,none⟩) n0 p0):=by rw[HJ0.below.cell (p:=⟨g,F+1,none⟩) hg];exact HP.1.2.1
 have hS:SW (fun w':World=>w'.cell? ⟨w.heap.size+1+1,1,none⟩=some (.slice none 0 0)∧w'.cell? ⟨w.heap.size,0,none⟩=some (.int .i64 14)∧w'.cell? ⟨g,F,none⟩=some (.int .i64 k0)∧w'.cell? ⟨g,F+1,none⟩=some (.slice (some ⟨b0,0,none⟩) n0 p0)) W0.drew:=⟨m0a,m0b,m0c,m0d⟩;have y0:=HJ0.size;have HC0:Hid (Calls Tryz.prog 74 #[(.slice none 0 0),.int .i64 14,.int .i64 0,.agg #[.int .i64 k0,.slice (some ⟨b0,0,none⟩) n0 p0]] W0.drew (AppP (w.heap.size+3) (([]:List UInt8)++yAw 14 0 (k0,t0)) W0.drew)):=by have hj:=HJ0.move (w':=W0.drew) ((Below.refl _ _).drew) hB;exact yLm (hk:=rfl) (hp:=rfl) hj HP.2.2.1.1 HP.2.2.1.2 (by first|omega|simp) (HP.1.2.2.1.below hj.below HP.1.2.2.2) HP.1.2.2.2 (by omega)
 go_upto_region 6 with fail;refine wpR 9 hS ?_;refine j2a 0 hS ?_;iterate 6 refine j2b hS ?_
 refine qO 7 rfl fun K hK=>?_;go_simp;go_at_call 74;refine HC0.mono ?_;rintro r q0 ⟨v1,rfl,hO1,hF1⟩;obtain⟨a1,e1,hv1⟩:=hO1.slice;obtain⟨m1,hm1⟩:=qE ((([]:List UInt8)++yAw 14 0 (k0,t0)).length:Nat);rw[←hm1]at hv1;subst hv1;clear hm1;obtain⟨X1,hX1⟩:∃X1:List UInt8,X1=([]:List UInt8)++yAw 14 0 (k0,t0):=⟨_,rfl⟩;have HX1:Hid (X1=([]:List UInt8)++yAw 14 0 (k0,t0)):=hX1;have x1:X1.length≤0+n0+2:=by rw[hX1,List.length_append];rw[List.length_nil];have h9:=yDl 14 0 (k0,t0);have:=HP.2.2.1.1;simp only at h9;omega
 have hFd:Fr (w.heap.size+3) W0 q0:=((Fr.refl _ _).step ((Below.refl _ _).drew) (by omega)).trans hF1;have HJ1:Hid (PnJ w ⟨14,s,hi,t,lo,up,n⟩ (.slice a1 m1 e1) X1 (q0.setCell ⟨w.heap.size+1+1,1,none⟩ (.slice a1 m1 e1))):=HJ0.step hFd (by rw[hX1];exact hO1) hB;have g0a:q0.cell? ⟨w.heap.size+1+1,1,none⟩=some (.slice none 0 0):=(hFd.box HJ0.whole (by decide)).cell (j:=1) rfl;have g0f:q0.frozen? ⟨w.heap.size+1+1,1,none⟩=false:=(hFd.box HJ0.whole (by decide)).frozen 1;have g0b:q0.cell? ⟨w.heap.size,0,none⟩=some (.int .i64 14):=(hFd.box HJ0.node (by decide)).cell (j:=0) rfl;have g0c:q0.cell? ⟨g,F,none⟩=some (.int .i64 k0):=by rw[hFd.below.cell (p:=⟨g,F,none⟩) (by show g<_;omega)];exact m0c
 have g0d:q0.cell? ⟨g,F+1,none⟩=some (.slice (some ⟨b0,0,none⟩) n0 p0):=by rw[hFd.below.cell (p:=⟨g,F+1,none⟩) (by show g<_;omega)];exact m0d
 clear hO1 hF1 hX1 hFd;refine hK.out _ _ (.inr ⟨g0a,g0b,g0c,g0d⟩) ?_;clear hK;refine jS ?_;refine qO 8 rfl fun K hK=>?_;go_simp;refine hK.out _ _ (.inr ⟨g0a,g0b,g0c,g0d⟩) ?_;clear hK;refine jS ?_;obtain⟨W1,hW1⟩:=qE (q0.setCell ⟨w.heap.size+1+1,1,none⟩ (.slice a1 m1 e1):World);rw[←hW1]at HJ1;refine qO 9 rfl fun K hK=>?_;go_simp;rw[←hW1];refine hK.out _ _ (.inl rfl) ?_;clear hK;refine jS ?_;refine qD ?_;clear hW1 g0a g0b g0c g0d g0f m0a m0b m0c m0d hS;have m1a:W1.cell? ⟨w.heap.size+1+1,1,none⟩=some (.slice a1 m1 e1):=HJ1.whole.cell (j:=1) rfl;have m1b:W1.cell? ⟨w.heap.size,0,none⟩=some (.int .i64 14):=HJ1.node.cell (j:=0) rfl;have m1c:W1.cell? ⟨0,14,none⟩=some (.string ⟨#[62]⟩):=HJ1.gl.words 14 (by omega);have hS:SW (fun w':World=>w'.cell? ⟨w.heap.size+1+1,1,none⟩=some (.slice a1 m1 e1)∧w'.cell? ⟨w.heap.size,0,none⟩=some (.int .i64 14)∧w'.cell? ⟨0,14,none⟩=some (.string ⟨#[62]⟩)) W1.drew:=⟨m1a,m1b,m1c⟩;have y1:=HJ1.size;have hJd:Hid (PnJ w ⟨14,s,hi,t,lo,up,n⟩ (.slice a1 m1 e1) X1 W1.drew):=HJ1.move ((Below.refl _ _).drew) hB;go_upto_region 7 with fail;refine wpR 10 hS ?_;refine j2a 0 hS ?_;iterate 5 refine j2b hS ?_
 refine j8a 6 hS (v:=((.string ⟨#[32,62]⟩))) ?_;refine j8a 7 hS (v:=((.string ⟨#[32,62,32]⟩))) ?_;refine qO 8 rfl fun K hK=>?_;refine yEe _ rfl _ _ rfl (w.heap.size+3) (.slice a1 m1 e1) X1 ⟨#[32,62,32]⟩ rfl rfl hJd.out.own ?hl ?hb ?_;case hl=>(have h3:(⟨#[32,62,32]⟩:ByteArray).size=3:=rfl;rw[h3];omega)
 case hb=>exact hJd.out.size
 intro v2 q1 hO2 hgr2;obtain⟨a2,e2,hv2⟩:=hO2.slice;obtain⟨m2,hm2⟩:=qE ((X1++bl ⟨#[32,62,32]⟩).length:Nat);rw[←hm2]at hv2;subst hv2;clear hm2;obtain⟨X2,hX2⟩:∃X2:List UInt8,X2=X1++ [32,62,32]:=⟨_,rfl⟩;have HX2:Hid (X2=X1++ [32,62,32]):=hX2;have x2:X2.length≤X1.length+3:=by rw[hX2,List.length_append];exact Nat.le_refl _
 have hFd:Fr (w.heap.size+3) W1 q1:=((Fr.refl _ _).step ((Below.refl _ _).drew) (by omega)).trans (hJd.out.own.nextF (Fr.refl _ _) hJd.out.size hgr2);have HJ2:Hid (PnJ w ⟨14,s,hi,t,lo,up,n⟩ (.slice a2 m2 e2) X2 (q1.setCell ⟨w.heap.size+1+1,1,none⟩ (.slice a2 m2 e2))):=HJ1.step hFd (by rw[hX2];exact hO2) hB;have g1a:q1.cell? ⟨w.heap.size+1+1,1,none⟩=some (.slice a1 m1 e1):=(hFd.box HJ1.whole (by decide)).cell (j:=1) rfl;have g1f:q1.frozen? ⟨w.heap.size+1+1,1,none⟩=false:=(hFd.box HJ1.whole (by decide)).frozen 1;have g1b:q1.cell? ⟨w.heap.size,0,none⟩=some (.int .i64 14):=(hFd.box HJ1.node (by decide)).cell (j:=0) rfl;have g1c:q1.cell? ⟨0,14,none⟩=some (.string ⟨#[62]⟩):=(HJ1.gl.on hFd.below (by omega)).words 14 (by omega);clear hO2 hgr2 hX2 hFd;refine hK.out _ _ (.inr ⟨g1a,g1b,g1c⟩) ?_;clear hK;refine jS ?_;refine qO 9 rfl fun K hK=>?_;go_simp;refine hK.out _ _ (.inr ⟨g1a,g1b,g1c⟩) ?_;clear hK;refine jS ?_;obtain⟨W2,hW2⟩:=qE (q1.setCell ⟨w.heap.size+1+1,1,none⟩ (.slice a2 m2 e2):World);rw[←hW2]at HJ2;refine qO 10 rfl fun K hK=>?_;go_simp;rw[←hW2];refine hK.out _ _ (.inl rfl) ?_;clear hK;refine jS ?_;refine qD ?_;clear hW2 g1a g1b g1c g1f m1a m1b m1c hS hJd;have m2a:W2.cell? ⟨w.heap.size+1+1,1,none⟩=some (.slice a2 m2 e2):=HJ2.whole.cell (j:=1) rfl;have m2b:W2.cell? ⟨w.heap.size,0,none⟩=some (.int .i64 14):=HJ2.node.cell (j:=0) rfl;have m2c:W2.cell? ⟨g,F+2,none⟩=some (.int .i64 k1):=by rw[HJ2.below.cell (p:=⟨g,F+2,none⟩) hg];exact HP.2.1.1
 have m2d:W2.cell? ⟨g,F+2+1,none⟩=some (.slice (some ⟨b1,0,none⟩) n1 p1):=by rw[HJ2.below.cell (p:=⟨g,F+2+1,none⟩) hg];exact HP.2.1.2.1
 have hS:SW (fun w':World=>w'.cell? ⟨w.heap.size+1+1,1,none⟩=some (.slice a2 m2 e2)∧w'.cell? ⟨w.heap.size,0,none⟩=some (.int .i64 14)∧w'.cell? ⟨g,F+2,none⟩=some (.int .i64 k1)∧w'.cell? ⟨g,F+2+1,none⟩=some (.slice (some ⟨b1,0,none⟩) n1 p1)) W2.drew:=⟨m2a,m2b,m2c,m2d⟩;have y2:=HJ2.size;have HC2:Hid (Calls Tryz.prog 74 #[(.slice a2 m2 e2),.int .i64 14,.int .i64 1,.agg #[.int .i64 k1,.slice (some ⟨b1,0,none⟩) n1 p1]] W2.drew (AppP (w.heap.size+3) (X2++yAw 14 1 (k1,t1)) W2.drew)):=by have hj:=HJ2.move (w':=W2.drew) ((Below.refl _ _).drew) hB;exact yLm (hk:=rfl) (hp:=rfl) hj HP.2.2.2.1 HP.2.2.2.2 (by first|omega|simp) (HP.2.1.2.2.1.below hj.below HP.2.1.2.2.2) HP.2.1.2.2.2 (by omega)
 go_upto_region 8 with fail;refine wpR 9 hS ?_;refine j2a 0 hS ?_;iterate 6 refine j2b hS ?_
 refine qO 7 rfl fun K hK=>?_;go_simp;go_at_call 74;refine HC2.mono ?_;rintro r q2 ⟨v3,rfl,hO3,hF3⟩;obtain⟨a3,e3,hv3⟩:=hO3.slice;obtain⟨m3,hm3⟩:=qE ((X2++yAw 14 1 (k1,t1)).length:Nat);rw[←hm3]at hv3;subst hv3;clear hm3;obtain⟨X3,hX3⟩:∃X3:List UInt8,X3=X2++yAw 14 1 (k1,t1):=⟨_,rfl⟩;have HX3:Hid (X3=X2++yAw 14 1 (k1,t1)):=hX3;have x3:X3.length≤X2.length+n1+2:=by rw[hX3,List.length_append];have h9:=yDl 14 1 (k1,t1);have:=HP.2.2.2.1;simp only at h9;omega
 have hFd:Fr (w.heap.size+3) W2 q2:=((Fr.refl _ _).step ((Below.refl _ _).drew) (by omega)).trans hF3;have HJ3:Hid (PnJ w ⟨14,s,hi,t,lo,up,n⟩ (.slice a3 m3 e3) X3 (q2.setCell ⟨w.heap.size+1+1,1,none⟩ (.slice a3 m3 e3))):=HJ2.step hFd (by rw[hX3];exact hO3) hB;have g2a:q2.cell? ⟨w.heap.size+1+1,1,none⟩=some (.slice a2 m2 e2):=(hFd.box HJ2.whole (by decide)).cell (j:=1) rfl;have g2f:q2.frozen? ⟨w.heap.size+1+1,1,none⟩=false:=(hFd.box HJ2.whole (by decide)).frozen 1;have g2b:q2.cell? ⟨w.heap.size,0,none⟩=some (.int .i64 14):=(hFd.box HJ2.node (by decide)).cell (j:=0) rfl;have g2c:q2.cell? ⟨g,F+2,none⟩=some (.int .i64 k1):=by rw[hFd.below.cell (p:=⟨g,F+2,none⟩) (by show g<_;omega)];exact m2c
 have g2d:q2.cell? ⟨g,F+2+1,none⟩=some (.slice (some ⟨b1,0,none⟩) n1 p1):=by rw[hFd.below.cell (p:=⟨g,F+2+1,none⟩) (by show g<_;omega)];exact m2d
 clear hO3 hF3 hX3 hFd;refine hK.out _ _ (.inr ⟨g2a,g2b,g2c,g2d⟩) ?_;clear hK;refine jS ?_;refine qO 8 rfl fun K hK=>?_;go_simp;refine hK.out _ _ (.inr ⟨g2a,g2b,g2c,g2d⟩) ?_;clear hK;refine jS ?_;obtain⟨W3,hW3⟩:=qE (q2.setCell ⟨w.heap.size+1+1,1,none⟩ (.slice a3 m3 e3):World);rw[←hW3]at HJ3;refine qO 9 rfl fun K hK=>?_;go_simp;rw[←hW3];refine hK.out _ _ (.inl rfl) ?_;clear hK;refine jS ?_;refine qD ?_;clear hW3 g2a g2b g2c g2d g2f m2a m2b m2c m2d hS;have HY:Hid (Y=X3):=by show _=_;rw[HY0.out,HX3.out,HX2.out,HX1.out];simp
 have HNE:Hid (X3≠ []):=by show X3≠ [];rw[HX3.out,HX2.out];simp
 obtain⟨bz,cz,hvz,hOz,hbz,hrz⟩:=HJ3.done HNE.out;obtain⟨hk0,hk1⟩:=HJ3.whole.c2;obtain⟨hr0,hr1⟩:=HJ3.res.c2;obtain⟨hf0,hf1⟩:=HJ3.res.f2;obtain⟨WZ,hWZ⟩:=qE ((W3.setCell ⟨w.heap.size+1,0,none⟩ (.int .i64 14)).setCell ⟨w.heap.size+1,1,none⟩ (.slice a3 m3 e3):World);have HZ:Hid (PnP 14 Y w (.returned (.agg #[.int .i64 14,(.slice a3 m3 e3)])) WZ∧yA WZ w.heap.size 67 2 (w.heap.size+1) [.int .i64 14,(.slice a3 m3 e3)]):=by rw[HY.out,hWZ];exact⟨⟨bz,cz,by rw[hvz],hOz,hbz⟩,hrz⟩
 obtain⟨p0,p1⟩:=HZ.2.c2;clear hvz hOz hbz hrz;go_wp2_with fail;rw[←hWZ];exact bodyPost_ret (v:=.agg #[.int .i64 14,(.slice a3 m3 e3)]) (by simp[results,Tryz.results37,go_sem,p0,p1]) rfl HZ.1
theorem yMq (s:ByteArray) (hi:Bool) (t:ByteArray) (lo up n:Int) (g F c:Nat) (k0 k1:Int) (b0 p0 b1 p1:Nat) (t0 t1:List UInt8) (w:World) (hg:g<w.heap.size) (hG:Gl w) (hB:7≤w.heap.size)
  (h0:w.cell? ⟨g,F,none⟩=some (.int .i64 k0)∧w.cell? ⟨g,F+1,none⟩=some (.slice (some ⟨b0,0,none⟩) t0.length p0)∧yAe w b0 0 t0∧b0<w.heap.size)
  (h1:w.cell? ⟨g,F+2,none⟩=some (.int .i64 k1)∧w.cell? ⟨g,F+2+1,none⟩=some (.slice (some ⟨b1,0,none⟩) t1.length p1)∧yAe w b1 0 t1∧b1<w.heap.size) (hl0:t0.length≤400000) (hl1:t1.length≤400000):
  Calls Tryz.prog 37 #[.agg #[.int .i64 15,.string s,.bool hi,.string t,.int .u64 lo,.int .u64 up,.int .i64 n],.slice (some ⟨g,F,none⟩) 2 c] w (PnP 15 (yAw 15 0 (k0,t0)++ [32,124,32]++yAw 15 1 (k1,t1)) w):=by
 obtain⟨n0,hn0⟩:=qE t0.length;obtain⟨n1,hn1⟩:=qE t1.length;rw[←hn0]at h0;rw[←hn1]at h1;have HP:Hid ((w.cell? ⟨g,F,none⟩=some (.int .i64 k0)∧w.cell? ⟨g,F+1,none⟩=some (.slice (some ⟨b0,0,none⟩) n0 p0)∧yAe w b0 0 t0∧b0<w.heap.size)∧(w.cell? ⟨g,F+2,none⟩=some (.int .i64 k1)∧w.cell? ⟨g,F+2+1,none⟩=some (.slice (some ⟨b1,0,none⟩) n1 p1)∧yAe w b1 0 t1∧b1<w.heap.size)∧(n0=t0.length∧t0.length≤1000000)∧(n1=t1.length∧t1.length≤1000000)):=⟨h0,h1,⟨hn0,by omega⟩,hn1,by omega⟩;have l0:n0≤400000:=by omega
 have l1:n1≤400000:=by omega
 clear h0 h1 hn0 hn1 hl0 hl1;obtain⟨Y,hY⟩:=qE (yAw 15 0 (k0,t0)++ [32,124,32]++yAw 15 1 (k1,t1));rw[←hY];have HY0:Hid (Y=yAw 15 0 (k0,t0)++ [32,124,32]++yAw 15 1 (k1,t1)):=hY;clear hY;obtain⟨W0,hW0⟩:=qE (((w.alloc (Obj.cells #[.int .i64 15,.string s,.bool hi,.string t,.int .u64 lo,.int .u64 up,.int .i64 n] 65)).alloc (Obj.cells #[.int .i64 0,.slice none 0 0] 67)).alloc (Obj.cells #[.int .i64 15,.slice none 0 0] 67):World);have HJ0:Hid (PnJ w ⟨15,s,hi,t,lo,up,n⟩ (.slice none 0 0) [] W0):=by
  obtain⟨A,hA⟩:=qE (w.alloc (Obj.cells #[.int .i64 15,.string s,.bool hi,.string t,.int .u64 lo,.int .u64 up,.int .i64 n] 65):World);obtain⟨B,hBB⟩:=qE (A.alloc (Obj.cells #[.int .i64 0,.slice none 0 0] 67):World);have zA:A.heap.size=w.heap.size+1:=by rw[hA];simp
  have zB:B.heap.size=w.heap.size+2:=by rw[hBB];simp[zA]
  have bA:Below w.heap.size w A:=by rw[hA];exact qB
  have bB:Below A.heap.size A B:=by rw[hBB];exact qB
  have b0:Below B.heap.size B W0:=by rw[hW0,←hA,←hBB];exact qB
  have x0:yA A w.heap.size 65 7 w.heap.size [.int .i64 15,.string s,.bool hi,.string t,.int .u64 lo,.int .u64 up,.int .i64 n]:=by rw[hA];exact yAb w _ (Nat.le_refl _) rfl
  have x1:yA B w.heap.size 67 2 (w.heap.size+1) [.int .i64 0,.slice none 0 0]:=by rw[hBB,←zA];exact yAb A _ (by omega) rfl
  have x2:yA W0 w.heap.size 67 2 (w.heap.size+1+1) [.int .i64 15,.slice none 0 0]:=by rw[hW0,←hA,←hBB,←zB];exact yAb B _ (by omega) rfl
  have bw:Below w.heap.size w W0:=(bA.trans (bB.mono (by omega))).trans (b0.mono (by omega));exact⟨World.ownsRow_nil ..,(x0.below bB).below b0,x1.below b0,x2,hG.on bw hB,bw,by rw[hW0];simp⟩
 have z0:=HJ0.size;have c0:=HJ0.node.cell (j:=0) rfl;go_enter Tryz.func37,Tryz.ntmps37;go_upto_region 2 with fail;rw[←hW0];clear hW0;have m0a:W0.cell? ⟨w.heap.size+1+1,1,none⟩=some (.slice none 0 0):=HJ0.whole.cell (j:=1) rfl;have m0b:W0.cell? ⟨w.heap.size,0,none⟩=some (.int .i64 15):=HJ0.node.cell (j:=0) rfl;have m0c:W0.cell? ⟨g,F,none⟩=some (.int .i64 k0):=by rw[HJ0.below.cell (p:=⟨g,F,none⟩) hg];exact HP.1.1
 have m0d:W0.cell? ⟨g,F+1,none⟩=some (.slice (some ⟨b0,0,none⟩) n0 p0):=by rw[HJ0.below.cell (p:=⟨g,F+1,none⟩) hg];exact HP.1.2.1
 have hS:SW (fun w':World=>w'.cell? ⟨w.heap.size+1+1,1,none⟩=some (.slice none 0 0)∧w'.cell? ⟨w.heap.size,0,none⟩=some (.int .i64 15)∧w'.cell? ⟨g,F,none⟩=some (.int .i64 k0)∧w'.cell? ⟨g,F+1,none⟩=some (.slice (some ⟨b0,0,none⟩) n0 p0)) W0.drew:=⟨m0a,m0b,m0c,m0d⟩;have y0:=HJ0.size;have HC0:Hid (Calls Tryz.prog 74 #[(.slice none 0 0),.int .i64 15,.int .i64 0,.agg #[.int .i64 k0,.slice (some ⟨b0,0,none⟩) n0 p0]] W0.drew (AppP (w.heap.size+3) (([]:List UInt8)++yAw 15 0 (k0,t0)) W0.drew)):=by have hj:=HJ0.move (w':=W0.drew) ((Below.refl _ _).drew) hB;exact yLm (hk:=rfl) (hp:=rfl) hj HP.2.2.1.1 HP.2.2.1.2 (by first|omega|simp) (HP.1.2.2.1.below hj.below HP.1.2.2.2) HP.1.2.2.2 (by omega)
 go_upto_region 6 with fail;refine wpR 9 hS ?_;refine j2a 0 hS ?_;iterate 6 refine j2b hS ?_
 refine qO 7 rfl fun K hK=>?_;go_simp;go_at_call 74;refine HC0.mono ?_;rintro r q0 ⟨v1,rfl,hO1,hF1⟩;obtain⟨a1,e1,hv1⟩:=hO1.slice;obtain⟨m1,hm1⟩:=qE ((([]:List UInt8)++yAw 15 0 (k0,t0)).length:Nat);rw[←hm1]at hv1;subst hv1;clear hm1;obtain⟨X1,hX1⟩:∃X1:List UInt8,X1=([]:List UInt8)++yAw 15 0 (k0,t0):=⟨_,rfl⟩;have HX1:Hid (X1=([]:List UInt8)++yAw 15 0 (k0,t0)):=hX1;have x1:X1.length≤0+n0+2:=by rw[hX1,List.length_append];rw[List.length_nil];have h9:=yDl 15 0 (k0,t0);have:=HP.2.2.1.1;simp only at h9;omega
 have hFd:Fr (w.heap.size+3) W0 q0:=((Fr.refl _ _).step ((Below.refl _ _).drew) (by omega)).trans hF1;have HJ1:Hid (PnJ w ⟨15,s,hi,t,lo,up,n⟩ (.slice a1 m1 e1) X1 (q0.setCell ⟨w.heap.size+1+1,1,none⟩ (.slice a1 m1 e1))):=HJ0.step hFd (by rw[hX1];exact hO1) hB;have g0a:q0.cell? ⟨w.heap.size+1+1,1,none⟩=some (.slice none 0 0):=(hFd.box HJ0.whole (by decide)).cell (j:=1) rfl;have g0f:q0.frozen? ⟨w.heap.size+1+1,1,none⟩=false:=(hFd.box HJ0.whole (by decide)).frozen 1;have g0b:q0.cell? ⟨w.heap.size,0,none⟩=some (.int .i64 15):=(hFd.box HJ0.node (by decide)).cell (j:=0) rfl;have g0c:q0.cell? ⟨g,F,none⟩=some (.int .i64 k0):=by rw[hFd.below.cell (p:=⟨g,F,none⟩) (by show g<_;omega)];exact m0c
 have g0d:q0.cell? ⟨g,F+1,none⟩=some (.slice (some ⟨b0,0,none⟩) n0 p0):=by rw[hFd.below.cell (p:=⟨g,F+1,none⟩) (by show g<_;omega)];exact m0d
 clear hO1 hF1 hX1 hFd;refine hK.out _ _ (.inr ⟨g0a,g0b,g0c,g0d⟩) ?_;clear hK;refine jS ?_;refine qO 8 rfl fun K hK=>?_;go_simp;refine hK.out _ _ (.inr ⟨g0a,g0b,g0c,g0d⟩) ?_;clear hK;refine jS ?_;obtain⟨W1,hW1⟩:=qE (q0.setCell ⟨w.heap.size+1+1,1,none⟩ (.slice a1 m1 e1):World);rw[←hW1]at HJ1;refine qO 9 rfl fun K hK=>?_;go_simp;rw[←hW1];refine hK.out _ _ (.inl rfl) ?_;clear hK;refine jS ?_;refine qD ?_;clear hW1 g0a g0b g0c g0d g0f m0a m0b m0c m0d hS;have m1a:W1.cell? ⟨w.heap.size+1+1,1,none⟩=some (.slice a1 m1 e1):=HJ1.whole.cell (j:=1) rfl;have m1b:W1.cell? ⟨w.heap.size,0,none⟩=some (.int .i64 15):=HJ1.node.cell (j:=0) rfl;have m1c:W1.cell? ⟨0,15,none⟩=some (.string ⟨#[124]⟩):=HJ1.gl.words 15 (by omega);have hS:SW (fun w':World=>w'.cell? ⟨w.heap.size+1+1,1,none⟩=some (.slice a1 m1 e1)∧w'.cell? ⟨w.heap.size,0,none⟩=some (.int .i64 15)∧w'.cell? ⟨0,15,none⟩=some (.string ⟨#[124]⟩)) W1.drew:=⟨m1a,m1b,m1c⟩;have y1:=HJ1.size;have hJd:Hid (PnJ w ⟨15,s,hi,t,lo,up,n⟩ (.slice a1 m1 e1) X1 W1.drew):=HJ1.move ((Below.refl _ _).drew) hB;go_upto_region 7 with fail;refine wpR 10 hS ?_;refine j2a 0 hS ?_;iterate 5 refine j2b hS ?_
 refine j8a 6 hS (v:=((.string ⟨#[32,124]⟩))) ?_;refine j8a 7 hS (v:=((.string ⟨#[32,124,32]⟩))) ?_;refine qO 8 rfl fun K hK=>?_;refine yEe _ rfl _ _ rfl (w.heap.size+3) (.slice a1 m1 e1) X1 ⟨#[32,124,32]⟩ rfl rfl hJd.out.own ?hl ?hb ?_;case hl=>(have h3:(⟨#[32,124,32]⟩:ByteArray).size=3:=rfl;rw[h3];omega)
 case hb=>exact hJd.out.size
 intro v2 q1 hO2 hgr2;obtain⟨a2,e2,hv2⟩:=hO2.slice;obtain⟨m2,hm2⟩:=qE ((X1++bl ⟨#[32,124,32]⟩).length:Nat);rw[←hm2]at hv2;subst hv2;clear hm2;obtain⟨X2,hX2⟩:∃X2:List UInt8,X2=X1++ [32,124,32]:=⟨_,rfl⟩;have HX2:Hid (X2=X1++ [32,124,32]):=hX2;have x2:X2.length≤X1.length+3:=by rw[hX2,List.length_append];exact Nat.le_refl _
 have hFd:Fr (w.heap.size+3) W1 q1:=((Fr.refl _ _).step ((Below.refl _ _).drew) (by omega)).trans (hJd.out.own.nextF (Fr.refl _ _) hJd.out.size hgr2);have HJ2:Hid (PnJ w ⟨15,s,hi,t,lo,up,n⟩ (.slice a2 m2 e2) X2 (q1.setCell ⟨w.heap.size+1+1,1,none⟩ (.slice a2 m2 e2))):=HJ1.step hFd (by rw[hX2];exact hO2) hB;have g1a:q1.cell? ⟨w.heap.size+1+1,1,none⟩=some (.slice a1 m1 e1):=(hFd.box HJ1.whole (by decide)).cell (j:=1) rfl;have g1f:q1.frozen? ⟨w.heap.size+1+1,1,none⟩=false:=(hFd.box HJ1.whole (by decide)).frozen 1;have g1b:q1.cell? ⟨w.heap.size,0,none⟩=some (.int .i64 15):=(hFd.box HJ1.node (by decide)).cell (j:=0) rfl;have g1c:q1.cell? ⟨0,15,none⟩=some (.string ⟨#[124]⟩):=(HJ1.gl.on hFd.below (by omega)).words 15 (by omega);clear hO2 hgr2 hX2 hFd;refine hK.out _ _ (.inr ⟨g1a,g1b,g1c⟩) ?_;clear hK;refine jS ?_;refine qO 9 rfl fun K hK=>?_;go_simp;refine hK.out _ _ (.inr ⟨g1a,g1b,g1c⟩) ?_;clear hK;refine jS ?_;obtain⟨W2,hW2⟩:=qE (q1.setCell ⟨w.heap.size+1+1,1,none⟩ (.slice a2 m2 e2):World);rw[←hW2]at HJ2;refine qO 10 rfl fun K hK=>?_;go_simp;rw[←hW2];refine hK.out _ _ (.inl rfl) ?_;clear hK;refine jS ?_;refine qD ?_;clear hW2 g1a g1b g1c g1f m1a m1b m1c hS hJd;have m2a:W2.cell? ⟨w.heap.size+1+1,1,none⟩=some (.slice a2 m2 e2):=HJ2.whole.cell (j:=1) rfl;have m2b:W2.cell? ⟨w.heap.size,0,none⟩=some (.int .i64 15):=HJ2.node.cell (j:=0) rfl;have m2c:W2.cell? ⟨g,F+2,none⟩=some (.int .i64 k1):=by rw[HJ2.below.cell (p:=⟨g,F+2,none⟩) hg];exact HP.2.1.1
 have m2d:W2.cell? ⟨g,F+2+1,none⟩=some (.slice (some ⟨b1,0,none⟩) n1 p1):=by rw[HJ2.below.cell (p:=⟨g,F+2+1,none⟩) hg];exact HP.2.1.2.1
 have hS:SW (fun w':World=>w'.cell? ⟨w.heap.size+1+1,1,none⟩=some (.slice a2 m2 e2)∧w'.cell? ⟨w.heap.size,0,none⟩=some (.int .i64 15)∧w'.cell? ⟨g,F+2,none⟩=some (.int .i64 k1)∧w'.cell? ⟨g,F+2+1,none⟩=some (.slice (some ⟨b1,0,none⟩) n1 p1)) W2.drew:=⟨m2a,m2b,m2c,m2d⟩;have y2:=HJ2.size;have HC2:Hid (Calls Tryz.prog 74 #[(.slice a2 m2 e2),.int .i64 15,.int .i64 1,.agg #[.int .i64 k1,.slice (some ⟨b1,0,none⟩) n1 p1]] W2.drew (AppP (w.heap.size+3) (X2++yAw 15 1 (k1,t1)) W2.drew)):=by have hj:=HJ2.move (w':=W2.drew) ((Below.refl _ _).drew) hB;exact yLm (hk:=rfl) (hp:=rfl) hj HP.2.2.2.1 HP.2.2.2.2 (by first|omega|simp) (HP.2.1.2.2.1.below hj.below HP.2.1.2.2.2) HP.2.1.2.2.2 (by omega)
 go_upto_region 8 with fail;refine wpR 9 hS ?_;refine j2a 0 hS ?_;iterate 6 refine j2b hS ?_
 refine qO 7 rfl fun K hK=>?_;go_simp;go_at_call 74;refine HC2.mono ?_;rintro r q2 ⟨v3,rfl,hO3,hF3⟩;obtain⟨a3,e3,hv3⟩:=hO3.slice;obtain⟨m3,hm3⟩:=qE ((X2++yAw 15 1 (k1,t1)).length:Nat);rw[←hm3]at hv3;subst hv3;clear hm3;obtain⟨X3,hX3⟩:∃X3:List UInt8,X3=X2++yAw 15 1 (k1,t1):=⟨_,rfl⟩;have HX3:Hid (X3=X2++yAw 15 1 (k1,t1)):=hX3;have x3:X3.length≤X2.length+n1+2:=by rw[hX3,List.length_append];have h9:=yDl 15 1 (k1,t1);have:=HP.2.2.2.1;simp only at h9;omega
 have hFd:Fr (w.heap.size+3) W2 q2:=((Fr.refl _ _).step ((Below.refl _ _).drew) (by omega)).trans hF3;have HJ3:Hid (PnJ w ⟨15,s,hi,t,lo,up,n⟩ (.slice a3 m3 e3) X3 (q2.setCell ⟨w.heap.size+1+1,1,none⟩ (.slice a3 m3 e3))):=HJ2.step hFd (by rw[hX3];exact hO3) hB;have g2a:q2.cell? ⟨w.heap.size+1+1,1,none⟩=some (.slice a2 m2 e2):=(hFd.box HJ2.whole (by decide)).cell (j:=1) rfl;have g2f:q2.frozen? ⟨w.heap.size+1+1,1,none⟩=false:=(hFd.box HJ2.whole (by decide)).frozen 1;have g2b:q2.cell? ⟨w.heap.size,0,none⟩=some (.int .i64 15):=(hFd.box HJ2.node (by decide)).cell (j:=0) rfl;have g2c:q2.cell? ⟨g,F+2,none⟩=some (.int .i64 k1):=by rw[hFd.below.cell (p:=⟨g,F+2,none⟩) (by show g<_;omega)];exact m2c
 have g2d:q2.cell? ⟨g,F+2+1,none⟩=some (.slice (some ⟨b1,0,none⟩) n1 p1):=by rw[hFd.below.cell (p:=⟨g,F+2+1,none⟩) (by show g<_;omega)];exact m2d
 clear hO3 hF3 hX3 hFd;refine hK.out _ _ (.inr ⟨g2a,g2b,g2c,g2d⟩) ?_;clear hK;refine jS ?_;refine qO 8 rfl fun K hK=>?_;go_simp;refine hK.out _ _ (.inr ⟨g2a,g2b,g2c,g2d⟩) ?_;clear hK;refine jS ?_;obtain⟨W3,hW3⟩:=qE (q2.setCell ⟨w.heap.size+1+1,1,none⟩ (.slice a3 m3 e3):World);rw[←hW3]at HJ3;refine qO 9 rfl fun K hK=>?_;go_simp;rw[←hW3];refine hK.out _ _ (.inl rfl) ?_;clear hK;refine jS ?_;refine qD ?_;clear hW3 g2a g2b g2c g2d g2f m2a m2b m2c m2d hS;have HY:Hid (Y=X3):=by show _=_;rw[HY0.out,HX3.out,HX2.out,HX1.out];simp
 have HNE:Hid (X3≠ []):=by show X3≠ [];rw[HX3.out,HX2.out];simp
 obtain⟨bz,cz,hvz,hOz,hbz,hrz⟩:=HJ3.done HNE.out;obtain⟨hk0,hk1⟩:=HJ3.whole.c2;obtain⟨hr0,hr1⟩:=HJ3.res.c2;obtain⟨hf0,hf1⟩:=HJ3.res.f2;obtain⟨WZ,hWZ⟩:=qE ((W3.setCell ⟨w.heap.size+1,0,none⟩ (.int .i64 15)).setCell ⟨w.heap.size+1,1,none⟩ (.slice a3 m3 e3):World);have HZ:Hid (PnP 15 Y w (.returned (.agg #[.int .i64 15,(.slice a3 m3 e3)])) WZ∧yA WZ w.heap.size 67 2 (w.heap.size+1) [.int .i64 15,(.slice a3 m3 e3)]):=by rw[HY.out,hWZ];exact⟨⟨bz,cz,by rw[hvz],hOz,hbz⟩,hrz⟩
 obtain⟨p0,p1⟩:=HZ.2.c2;clear hvz hOz hbz hrz;go_wp2_with fail;rw[←hWZ];exact bodyPost_ret (v:=.agg #[.int .i64 15,(.slice a3 m3 e3)]) (by simp[results,Tryz.results37,go_sem,p0,p1]) rfl HZ.1
theorem yMp (s:ByteArray) (hi:Bool) (t:ByteArray) (lo up n:Int) (g F c:Nat) (k0 k1 k2:Int) (b0 p0 b1 p1 b2 p2:Nat) (t0 t1 t2:List UInt8) (w:World) (hg:g<w.heap.size) (hG:Gl w) (hB:7≤w.heap.size)
  (h0:w.cell? ⟨g,F,none⟩=some (.int .i64 k0)∧w.cell? ⟨g,F+1,none⟩=some (.slice (some ⟨b0,0,none⟩) t0.length p0)∧yAe w b0 0 t0∧b0<w.heap.size)
  (h1:w.cell? ⟨g,F+2,none⟩=some (.int .i64 k1)∧w.cell? ⟨g,F+2+1,none⟩=some (.slice (some ⟨b1,0,none⟩) t1.length p1)∧yAe w b1 0 t1∧b1<w.heap.size)
  (h2:w.cell? ⟨g,F+4,none⟩=some (.int .i64 k2)∧w.cell? ⟨g,F+4+1,none⟩=some (.slice (some ⟨b2,0,none⟩) t2.length p2)∧yAe w b2 0 t2∧b2<w.heap.size) (hl0:t0.length≤400000) (hl1:t1.length≤400000) (hl2:t2.length≤400000):
  Calls Tryz.prog 37 #[.agg #[.int .i64 16,.string s,.bool hi,.string t,.int .u64 lo,.int .u64 up,.int .i64 n],.slice (some ⟨g,F,none⟩) 3 c] w (PnP 16 ([105,102,40]++(t0++ [44,32]++t1++ [44,32]++t2)++ [41]) w):=by
 obtain⟨n0,hn0⟩:=qE t0.length;obtain⟨n1,hn1⟩:=qE t1.length;obtain⟨n2,hn2⟩:=qE t2.length;rw[←hn0]at h0;rw[←hn1]at h1;rw[←hn2]at h2;have HP:Hid ((w.cell? ⟨g,F+1,none⟩=some (.slice (some ⟨b0,0,none⟩) n0 p0)∧yAe w b0 0 t0∧b0<w.heap.size∧n0=t0.length)∧(w.cell? ⟨g,F+2+1,none⟩=some (.slice (some ⟨b1,0,none⟩) n1 p1)∧yAe w b1 0 t1∧b1<w.heap.size∧n1=t1.length)∧(w.cell? ⟨g,F+4+1,none⟩=some (.slice (some ⟨b2,0,none⟩) n2 p2)∧yAe w b2 0 t2∧b2<w.heap.size∧n2=t2.length)):=⟨⟨h0.2.1,h0.2.2.1,h0.2.2.2,hn0⟩,⟨h1.2.1,h1.2.2.1,h1.2.2.2,hn1⟩,h2.2.1,h2.2.2.1,h2.2.2.2,hn2⟩;have l0:n0≤400000:=by omega
 have l1:n1≤400000:=by omega
 have l2:n2≤400000:=by omega
 clear h0 h1 h2 hn0 hn1 hn2 hl0 hl1 hl2;obtain⟨JN,hJN⟩:∃JN:List UInt8,JN=t0++ [44,32]++t1++ [44,32]++t2:=⟨_,rfl⟩;have HJN:Hid (JN=t0++ [44,32]++t1++ [44,32]++t2):=hJN;have lJ:JN.length≤1200004:=by rw[hJN];simp only[List.length_append,List.length_cons,List.length_nil];have:=HP.1.2.2.2;have:=HP.2.1.2.2.2;have:=HP.2.2.2.2.2;omega
 rw[←hJN];clear hJN;obtain⟨Y,hY⟩:∃Y:List UInt8,Y= [105,102,40]++JN++ [41]:=⟨_,rfl⟩;rw[←hY];have HY0:Hid (Y= [105,102,40]++JN++ [41]):=hY;clear hY;obtain⟨W0,hW0⟩:=qE (((w.alloc (Obj.cells #[.int .i64 16,.string s,.bool hi,.string t,.int .u64 lo,.int .u64 up,.int .i64 n] 65)).alloc (Obj.cells #[.int .i64 0,.slice none 0 0] 67)).alloc (Obj.cells #[.int .i64 16,.slice none 0 0] 67):World);have HJ0:Hid (PnJ w ⟨16,s,hi,t,lo,up,n⟩ (.slice none 0 0) [] W0):=by
  obtain⟨A,hA⟩:=qE (w.alloc (Obj.cells #[.int .i64 16,.string s,.bool hi,.string t,.int .u64 lo,.int .u64 up,.int .i64 n] 65):World);obtain⟨B,hBB⟩:=qE (A.alloc (Obj.cells #[.int .i64 0,.slice none 0 0] 67):World);have zA:A.heap.size=w.heap.size+1:=by rw[hA];simp
  have zB:B.heap.size=w.heap.size+2:=by rw[hBB];simp[zA]
  have bA:Below w.heap.size w A:=by rw[hA];exact qB
  have bB:Below A.heap.size A B:=by rw[hBB];exact qB
  have b0:Below B.heap.size B W0:=by rw[hW0,←hA,←hBB];exact qB
  have x0:yA A w.heap.size 65 7 w.heap.size [.int .i64 16,.string s,.bool hi,.string t,.int .u64 lo,.int .u64 up,.int .i64 n]:=by rw[hA];exact yAb w _ (Nat.le_refl _) rfl
  have x1:yA B w.heap.size 67 2 (w.heap.size+1) [.int .i64 0,.slice none 0 0]:=by rw[hBB,←zA];exact yAb A _ (by omega) rfl
  have x2:yA W0 w.heap.size 67 2 (w.heap.size+1+1) [.int .i64 16,.slice none 0 0]:=by rw[hW0,←hA,←hBB,←zB];exact yAb B _ (by omega) rfl
  have bw:Below w.heap.size w W0:=(bA.trans (bB.mono (by omega))).trans (b0.mono (by omega));exact⟨World.ownsRow_nil ..,(x0.below bB).below b0,x1.below b0,x2,hG.on bw hB,bw,by rw[hW0];simp⟩
 have z0:=HJ0.size;have c0:=HJ0.node.cell (j:=0) rfl;go_enter Tryz.func37,Tryz.ntmps37;go_upto_region 2 with fail;rw[←hW0];clear hW0;have m0a:W0.cell? ⟨g,F+1,none⟩=some (.slice (some ⟨b0,0,none⟩) n0 p0):=by rw[HJ0.below.cell (p:=⟨g,F+1,none⟩) hg];exact HP.1.1
 have m0b:W0.cell? ⟨g,F+2+1,none⟩=some (.slice (some ⟨b1,0,none⟩) n1 p1):=by rw[HJ0.below.cell (p:=⟨g,F+2+1,none⟩) hg];exact HP.2.1.1
 have m0c:W0.cell? ⟨g,F+4+1,none⟩=some (.slice (some ⟨b2,0,none⟩) n2 p2):=by rw[HJ0.below.cell (p:=⟨g,F+4+1,none⟩) hg];exact HP.2.2.1
 have hS:SW (fun w':World=>w'.cell? ⟨g,F+1,none⟩=some (.slice (some ⟨b0,0,none⟩) n0 p0)∧w'.cell? ⟨g,F+2+1,none⟩=some (.slice (some ⟨b1,0,none⟩) n1 p1)∧w'.cell? ⟨g,F+4+1,none⟩=some (.slice (some ⟨b2,0,none⟩) n2 p2)) W0.drew:=⟨m0a,m0b,m0c⟩;obtain⟨W1,hW1⟩:=qE ((W0.alloc (Obj.cells #[.slice (some ⟨b0,0,none⟩) n0 p0,.slice (some ⟨b1,0,none⟩) n1 p1,.slice (some ⟨b2,0,none⟩) n2 p2] 22)).drew:World);have hb1:Below W0.heap.size W0 W1:=by rw[hW1];exact(qB).drew
 have s1:=hb1.size;have HJ1:Hid (PnJ w ⟨16,s,hi,t,lo,up,n⟩ (.slice none 0 0) [] W1∧W1.cell? ⟨W0.heap.size,0,none⟩=some (.slice (some ⟨b0,0,none⟩) n0 p0)∧W1.cell? ⟨W0.heap.size,1,none⟩=some (.slice (some ⟨b1,0,none⟩) n1 p1)∧W1.cell? ⟨W0.heap.size,2,none⟩=some (.slice (some ⟨b2,0,none⟩) n2 p2)∧W0.heap.size<W1.heap.size):=by refine⟨HJ0.move hb1 hB,?_,?_,?_,?_⟩;all_goals (rw[hW1];simp)
 have HTR:Hid (∃cs t fz,W1.heap[W0.heap.size]?=some (.cells cs t fz)∧t≠5):=by refine⟨#[.slice (some ⟨b0,0,none⟩) n0 p0,.slice (some ⟨b1,0,none⟩) n1 p1,.slice (some ⟨b2,0,none⟩) n2 p2],22,(0,0),?_,by decide⟩;rw[hW1];exact heap_alloc_last W0 _
 clear hb1;go_upto_region 10 with fail;refine wpR 13 hS ?_;refine j2a 0 hS ?_;iterate 11 refine j2b hS ?_
 refine qO 12 rfl fun K hK=>?_;go_simp;rw[←hW1];have g0a:W1.cell? ⟨g,F+1,none⟩=some (.slice (some ⟨b0,0,none⟩) n0 p0):=by rw[HJ1.1.below.cell (p:=⟨g,F+1,none⟩) hg];exact HP.1.1
 have g0b:W1.cell? ⟨g,F+2+1,none⟩=some (.slice (some ⟨b1,0,none⟩) n1 p1):=by rw[HJ1.1.below.cell (p:=⟨g,F+2+1,none⟩) hg];exact HP.2.1.1
 have g0c:W1.cell? ⟨g,F+4+1,none⟩=some (.slice (some ⟨b2,0,none⟩) n2 p2):=by rw[HJ1.1.below.cell (p:=⟨g,F+4+1,none⟩) hg];exact HP.2.2.1
 refine hK.out _ _ (.inr ⟨g0a,g0b,g0c⟩) ?_;clear hK hW1;refine jS ?_;refine qO 13 rfl fun K hK=>?_;go_simp;refine hK.out _ _ (.inl rfl) ?_;clear hK;refine jS ?_;refine qD ?_;clear g0a g0b g0c m0a m0b m0c hS;have m1a:W1.cell? ⟨w.heap.size+1+1,1,none⟩=some (.slice none 0 0):=HJ1.1.whole.cell (j:=1) rfl;have m1b:W1.cell? ⟨w.heap.size,0,none⟩=some (.int .i64 16):=HJ1.1.node.cell (j:=0) rfl;have m1c:W1.cell? ⟨0,16,none⟩=some (.string ⟨#[105,102]⟩):=HJ1.1.gl.words 16 (by omega);have hS:SW (fun w':World=>w'.cell? ⟨w.heap.size+1+1,1,none⟩=some (.slice none 0 0)∧w'.cell? ⟨w.heap.size,0,none⟩=some (.int .i64 16)∧w'.cell? ⟨0,16,none⟩=some (.string ⟨#[105,102]⟩)) W1.drew:=⟨m1a,m1b,m1c⟩;have y1:=HJ1.1.size;have hJd:Hid (PnJ w ⟨16,s,hi,t,lo,up,n⟩ (.slice none 0 0) [] W1.drew):=HJ1.1.move ((Below.refl _ _).drew) hB;go_upto_region 11 with fail;refine wpR 9 hS ?_;refine j2a 0 hS ?_;iterate 5 refine j2b hS ?_
 refine j8a 6 hS (v:=((.string ⟨#[105,102,40]⟩))) ?_;refine qO 7 rfl fun K hK=>?_;refine yEe _ rfl _ _ rfl (w.heap.size+3) (.slice none 0 0) [] ⟨#[105,102,40]⟩ rfl rfl hJd.out.own ?hl ?hb ?_;case hl=>(have h3:(⟨#[105,102,40]⟩:ByteArray).size=3:=rfl;rw[h3];simp)
 case hb=>exact hJd.out.size
 intro v2 q1 hO2 hgr2;obtain⟨a2,e2,hv2⟩:=hO2.slice;obtain⟨m2,hm2⟩:=qE (([]++bl ⟨#[105,102,40]⟩).length:Nat);rw[←hm2]at hv2;subst hv2;clear hm2;obtain⟨X2,hX2⟩:∃X2:List UInt8,X2= [105,102,40]:=⟨_,rfl⟩;have HX2:Hid (X2= [105,102,40]):=hX2;have x2:X2.length≤3:=by rw[hX2];exact Nat.le_refl _
 have hFd:Fr (w.heap.size+3) W1 q1:=((Fr.refl _ _).step ((Below.refl _ _).drew) (by omega)).trans (hJd.out.own.nextF (Fr.refl _ _) hJd.out.size hgr2);have HJ2':PnJ w ⟨16,s,hi,t,lo,up,n⟩ (.slice a2 m2 e2) X2 (q1.setCell ⟨w.heap.size+1+1,1,none⟩ (.slice a2 m2 e2)):=HJ1.1.step hFd (by rw[hX2];exact hO2) hB;have g1a:q1.cell? ⟨w.heap.size+1+1,1,none⟩=some (.slice none 0 0):=(hFd.box HJ1.1.whole (by decide)).cell (j:=1) rfl;have g1f:q1.frozen? ⟨w.heap.size+1+1,1,none⟩=false:=(hFd.box HJ1.1.whole (by decide)).frozen 1;have g1b:q1.cell? ⟨w.heap.size,0,none⟩=some (.int .i64 16):=(hFd.box HJ1.1.node (by decide)).cell (j:=0) rfl;have g1c:q1.cell? ⟨0,16,none⟩=some (.string ⟨#[105,102]⟩):=(HJ1.1.gl.on hFd.below (by omega)).words 16 (by omega);have HJ2:Hid (PnJ w ⟨16,s,hi,t,lo,up,n⟩ (.slice a2 m2 e2) X2 (q1.setCell ⟨w.heap.size+1+1,1,none⟩ (.slice a2 m2 e2))∧(q1.setCell ⟨w.heap.size+1+1,1,none⟩ (.slice a2 m2 e2)).cell? ⟨W0.heap.size,0,none⟩=some (.slice (some ⟨b0,0,none⟩) n0 p0)∧(q1.setCell ⟨w.heap.size+1+1,1,none⟩ (.slice a2 m2 e2)).cell? ⟨W0.heap.size,1,none⟩=some (.slice (some ⟨b1,0,none⟩) n1 p1)∧(q1.setCell ⟨w.heap.size+1+1,1,none⟩ (.slice a2 m2 e2)).cell? ⟨W0.heap.size,2,none⟩=some (.slice (some ⟨b2,0,none⟩) n2 p2)∧W0.heap.size<(q1.setCell ⟨w.heap.size+1+1,1,none⟩ (.slice a2 m2 e2)).heap.size):=by
  have hC:Chg (fun k=>k=w.heap.size+1+1) q1 (q1.setCell ⟨w.heap.size+1+1,1,none⟩ (.slice a2 m2 e2)):=Chg.of_set q1 _ 1 _ rfl;have zC:=hC.size;have zF:=hFd.below.size;have zW:=HJ1.2.2.2.2;have kp:∀(j:Nat) (v:Value),W1.cell? ⟨W0.heap.size,j,none⟩=some v→(q1.setCell ⟨w.heap.size+1+1,1,none⟩ (.slice a2 m2 e2)).cell? ⟨W0.heap.size,j,none⟩=some v:=fun j v hv=>by rw[hC.cell (p:=⟨W0.heap.size,j,none⟩) (by show W0.heap.size<_;omega) (by show¬W0.heap.size=_;omega)];rw[←hv];exact yUq hFd HTR.out
  exact⟨HJ2',kp 0 _ HJ1.2.1,kp 1 _ HJ1.2.2.1,kp 2 _ HJ1.2.2.2.1,by omega⟩
 clear hO2 hgr2 hX2 hFd HJ2';refine hK.out _ _ (.inr ⟨g1a,g1b,g1c⟩) ?_;clear hK;refine jS ?_;refine qO 8 rfl fun K hK=>?_;go_simp;refine hK.out _ _ (.inr ⟨g1a,g1b,g1c⟩) ?_;clear hK;refine jS ?_;obtain⟨W2,hW2⟩:=qE (q1.setCell ⟨w.heap.size+1+1,1,none⟩ (.slice a2 m2 e2):World);rw[←hW2]at HJ2;refine qO 9 rfl fun K hK=>?_;go_simp;rw[←hW2];refine hK.out _ _ (.inl rfl) ?_;clear hK;refine jS ?_;refine qD ?_;clear hW2 g1a g1b g1c g1f m1a m1b m1c hS hJd;have y2:=HJ2.1.size;have m2a:W2.cell? ⟨w.heap.size+1+1,1,none⟩=some (.slice a2 m2 e2):=HJ2.1.whole.cell (j:=1) rfl;have hS:SW (fun w':World=>w'.cell? ⟨w.heap.size+1+1,1,none⟩=some (.slice a2 m2 e2)) W2.drew:=m2a;obtain⟨W3,hW3⟩:=qE ((W2.alloc (Obj.cells #[.int .u8 44,.int .u8 32] 5)).drew:World);obtain⟨W4,hW4⟩:=qE ((W2.alloc (Obj.cells #[.int .u8 44,.int .u8 32] 5 (2,3))).drew:World);have kc:Sem.run Tryz.prog (convert 22 22 (.slice (some ⟨W2.heap.size,0,none⟩) 2 2)) (W2.alloc (Obj.cells #[.int .u8 44,.int .u8 32] 5)).drew=.ok (.slice (some ⟨W2.heap.size,0,none⟩) 2 2) W4:=by rw[hW4];exact Lib.run_convert_bytes_const (P:=Tryz.prog) W2.drew 22 5 #[.int .u8 44,.int .u8 32] 2 2 Tryz.underlying22 Tryz.underlying5
 have hb3:Below W2.heap.size W2 W3:=by rw[hW3];exact(qB).drew
 have hb4:Below W2.heap.size W2 W4:=by rw[hW4];exact(qB).drew
 have s4:=hb4.size;have HJ4:Hid (PnJ w ⟨16,s,hi,t,lo,up,n⟩ (.slice a2 m2 e2) X2 W4∧yAe W4 W2.heap.size 0 [44,32]):=by refine⟨HJ2.1.move hb4 hB,?_⟩;rw[hW4];exact fun i y hy=>yHv W2 _ [44,32] _ rfl i y hy
 have HC:Hid (Calls Tryz.prog 75 #[.slice (some ⟨W0.heap.size,0,none⟩) 3 3,.slice (some ⟨W2.heap.size,0,none⟩) 2 2] W4 fun r w'=>∃g m cap,r=.returned (.slice (some ⟨g,0,none⟩) m cap)∧m=JN.length∧yAe w' g 0 JN∧Below W4.heap.size W4 w'):=by
  have hl:=HJ2.2.2.2.2;have hj:=HJ4.1.below;rw[HJN.out]
  exact yQq W0.heap.size W2.heap.size b0 p0 b1 p1 b2 p2 n0 n1 n2 t0 t1 t2 W4 HP.1.2.2.2 HP.2.1.2.2.2 HP.2.2.2.2.2 l0 l1 l2
   (by rw[hb4.cell (p:=⟨W0.heap.size,0,none⟩) hl];exact HJ2.2.1) (by rw[hb4.cell (p:=⟨W0.heap.size,1,none⟩) hl];exact HJ2.2.2.1) (by rw[hb4.cell (p:=⟨W0.heap.size,2,none⟩) hl];exact HJ2.2.2.2.1)
   (HP.1.2.1.below hj HP.1.2.2.1) (HP.2.1.2.1.below hj HP.2.1.2.2.1) (HP.2.2.2.1.below hj HP.2.2.2.2.1) HJ4.2
 have m3a:W3.cell? ⟨w.heap.size+1+1,1,none⟩=some (.slice a2 m2 e2):=(HJ2.1.move hb3 hB).whole.cell (j:=1) rfl;have m4a:W4.cell? ⟨w.heap.size+1+1,1,none⟩=some (.slice a2 m2 e2):=HJ4.1.whole.cell (j:=1) rfl;clear hb3 hb4 hW4;go_upto_region 12 with fail;refine wpR 8 hS ?_;refine j2a 0 hS ?_;iterate 2 refine j2b hS ?_
 refine qO 3 rfl fun K hK=>?_;go_simp;refine hK.out _ _ (.inr (by rw[←hW3];exact m3a)) ?_;clear hK;refine jS ?_;refine qO 4 rfl fun K hK=>?_;go_simp;refine hK.out _ _ (.inr m4a) ?_;clear hK hW3 kc;refine jS ?_;refine qO 5 rfl fun K hK=>?_;go_simp;go_at_call 75;refine HC.mono ?_;rintro r q4 ⟨jg,jm,jc,rfl,hjm,hjE,hjb⟩;have s5:=hjb.size;have HJ5:Hid (PnJ w ⟨16,s,hi,t,lo,up,n⟩ (.slice a2 m2 e2) X2 q4∧yAe q4 jg 0 JN∧jm=JN.length):=⟨HJ4.1.move hjb hB,hjE,hjm⟩;have m5a:q4.cell? ⟨w.heap.size+1+1,1,none⟩=some (.slice a2 m2 e2):=HJ5.1.whole.cell (j:=1) rfl;clear hjm hjE hjb;refine hK.out _ _ (.inr m5a) ?_;clear hK;refine jS ?_;refine qO 6 rfl fun K hK=>?_;refine yGn _ rfl _ _ rfl (w.heap.size+3) jg 0 jm jc (.slice a2 m2 e2) X2 JN rfl rfl HJ5.2.2 HJ5.1.own HJ5.2.1 ?hl ?hb ?_;case hl=>omega
 case hb=>exact HJ5.1.size
 intro v6 q6 hO6 hgr6;obtain⟨a6,e6,hv6⟩:=hO6.slice;obtain⟨m6,hm6⟩:=qE ((X2++JN).length:Nat);rw[←hm6]at hv6;subst hv6;clear hm6;obtain⟨X6,hX6⟩:∃X6:List UInt8,X6=X2++JN:=⟨_,rfl⟩;have HX6:Hid (X6=X2++JN):=hX6;have x6:X6.length≤X2.length+JN.length:=by rw[hX6,List.length_append];exact Nat.le_refl _
 have hFd:Fr (w.heap.size+3) q4 q6:=HJ5.1.own.nextF (Fr.refl _ _) HJ5.1.size hgr6;have HJ6:Hid (PnJ w ⟨16,s,hi,t,lo,up,n⟩ (.slice a6 m6 e6) X6 (q6.setCell ⟨w.heap.size+1+1,1,none⟩ (.slice a6 m6 e6))):=HJ5.1.step hFd (by rw[hX6];exact hO6) hB;have g6a:q6.cell? ⟨w.heap.size+1+1,1,none⟩=some (.slice a2 m2 e2):=(hFd.box HJ5.1.whole (by decide)).cell (j:=1) rfl;have g6f:q6.frozen? ⟨w.heap.size+1+1,1,none⟩=false:=(hFd.box HJ5.1.whole (by decide)).frozen 1;clear hO6 hgr6 hX6 hFd;refine hK.out _ _ (.inr g6a) ?_;clear hK;refine jS ?_;refine qO 7 rfl fun K hK=>?_;go_simp;refine hK.out _ _ (.inr g6a) ?_;clear hK;refine jS ?_;obtain⟨W6,hW6⟩:=qE (q6.setCell ⟨w.heap.size+1+1,1,none⟩ (.slice a6 m6 e6):World);rw[←hW6]at HJ6;refine qO 8 rfl fun K hK=>?_;go_simp;rw[←hW6];refine hK.out _ _ (.inl rfl) ?_;clear hK;refine jS ?_;refine qD ?_;clear hW6 g6a g6f m2a m3a m4a m5a hS HC;have y6:=HJ6.size;have m6a:W6.cell? ⟨w.heap.size+1+1,1,none⟩=some (.slice a6 m6 e6):=HJ6.whole.cell (j:=1) rfl;obtain⟨W7,hW7⟩:=qE (W6.alloc (Obj.cells #[.int .u8 41] 5):World);have hb7:Below W6.heap.size W6 W7:=by rw[hW7];exact qB
 have s7:=hb7.size;have HJ7:Hid (PnJ w ⟨16,s,hi,t,lo,up,n⟩ (.slice a6 m6 e6) X6 W7∧yAe W7 W6.heap.size 0 [41]):=by refine⟨HJ6.move hb7 hB,?_⟩;rw[hW7];exact yAp W6 _ [41] rfl
 clear hb7;go_wp2_with (at_builtin;(try rw[←hW7]);refine yAq _ rfl _ _ rfl (w.heap.size+3) W6.heap.size 0 1 1 (.slice a6 m6 e6) X6 [41] rfl rfl rfl HJ7.1.own HJ7.2 ?hl ?hb ?_);case hl=>first|omega|(show X6.length+1≤_;omega)
 case hb=>first|omega|exact HJ7.1.size
 intro v8 q8 hO8 hgr8';have hgr8:W7.grownBy q8 (Value.slice a6 m6 e6).ownBlock:=by first|exact hgr8'|(rw[hW7];exact hgr8')
 obtain⟨a8,e8,hv8⟩:=hO8.slice;obtain⟨m8,hm8⟩:=qE ((X6++ [41]).length:Nat);rw[←hm8]at hv8;subst hv8;clear hm8;obtain⟨X8,hX8⟩:∃X8:List UInt8,X8=X6++ [41]:=⟨_,rfl⟩;have HX8:Hid (X8=X6++ [41]):=hX8;have hFd:Fr (w.heap.size+3) W7 q8:=HJ7.1.own.nextF (Fr.refl _ _) HJ7.1.size hgr8;have HJ8:Hid (PnJ w ⟨16,s,hi,t,lo,up,n⟩ (.slice a8 m8 e8) X8 (q8.setCell ⟨w.heap.size+1+1,1,none⟩ (.slice a8 m8 e8))):=HJ7.1.step hFd (by rw[hX8];exact hO8) hB;have g8a:q8.cell? ⟨w.heap.size+1+1,1,none⟩=some (.slice a6 m6 e6):=(hFd.box HJ7.1.whole (by decide)).cell (j:=1) rfl;have g8f:q8.frozen? ⟨w.heap.size+1+1,1,none⟩=false:=(hFd.box HJ7.1.whole (by decide)).frozen 1;obtain⟨W8,hW8⟩:=qE (q8.setCell ⟨w.heap.size+1+1,1,none⟩ (.slice a8 m8 e8):World);rw[←hW8]at HJ8;clear hO8 hgr8 hX8 hFd;try clear hgr8'
 try clear hW7
 go_upto_region 14 with fail;rw[←hW8];clear hW8 g8a g8f m6a;have HY:Hid (Y=X8):=by show _=_;rw[HY0.out,HX8.out,HX6.out,HX2.out]
 have HNE:Hid (X8≠ []):=by show X8≠ [];rw[HX8.out];simp
 obtain⟨bz,cz,hvz,hOz,hbz,hrz⟩:=HJ8.done HNE.out;obtain⟨hk0,hk1⟩:=HJ8.whole.c2;obtain⟨hr0,hr1⟩:=HJ8.res.c2;obtain⟨hf0,hf1⟩:=HJ8.res.f2;obtain⟨WZ,hWZ⟩:=qE ((W8.setCell ⟨w.heap.size+1,0,none⟩ (.int .i64 16)).setCell ⟨w.heap.size+1,1,none⟩ (.slice a8 m8 e8):World);have HZ:Hid (PnP 16 Y w (.returned (.agg #[.int .i64 16,(.slice a8 m8 e8)])) WZ∧yA WZ w.heap.size 67 2 (w.heap.size+1) [.int .i64 16,(.slice a8 m8 e8)]):=by rw[HY.out,hWZ];exact⟨⟨bz,cz,by rw[hvz],hOz,hbz⟩,hrz⟩
 obtain⟨p0,p1⟩:=HZ.2.c2;clear hvz hOz hbz hrz;go_wp2_with fail;rw[←hWZ];exact bodyPost_ret (v:=.agg #[.int .i64 16,(.slice a8 m8 e8)]) (by simp[results,Tryz.results37,go_sem,p0,p1]) rfl HZ.1
theorem yKh (kk:Int) (s:ByteArray) (hi:Bool) (t:ByteArray) (lo up n:Int) (a0:Option Addr) (c:Nat) (w:World) (hg:yAj ⟨kk,s,hi,t,lo,up,n⟩) (hn:NumN ⟨kk,s,hi,t,lo,up,n⟩) (hk:yAo kk=0) (hG:Gl w) (hB:7≤w.heap.size):
  Calls Tryz.prog 37 #[.agg #[.int .i64 kk,.string s,.bool hi,.string t,.int .u64 lo,.int .u64 up,.int .i64 n],.slice a0 0 c] w (PnP kk (yBi ⟨kk,s,hi,t,lo,up,n⟩) w):=by
 have h14:¬kk=14:=by rintro rfl;cases hk
 have h15:¬kk=15:=by rintro rfl;cases hk
 have h16:¬kk=16:=by rintro rfl;cases hk
 have z14:(kk==14)=false:=by rw[beq_eq_false_iff_ne];exact h14
 have z15:(kk==15)=false:=by rw[beq_eq_false_iff_ne];exact h15
 have z16:(kk==16)=false:=by rw[beq_eq_false_iff_ne];exact h16
 obtain⟨Y,hY⟩:∃Y:List UInt8,Y=yBi ⟨kk,s,hi,t,lo,up,n⟩:=⟨_,rfl⟩;rw[←hY];have HY:Hid (Y=Y):=rfl;have HNE:Hid (Y≠ []):=by rw[hY];exact yZj hg hk
 have HY0:Hid (Y=yBi ⟨kk,s,hi,t,lo,up,n⟩∧yAj ⟨kk,s,hi,t,lo,up,n⟩∧NumN ⟨kk,s,hi,t,lo,up,n⟩∧yAo kk=0):=⟨hY,hg,hn,hk⟩;clear hY hg hn hk h14 h15 h16;obtain⟨W0,hW0⟩:=qE (((w.alloc (Obj.cells #[.int .i64 kk,.string s,.bool hi,.string t,.int .u64 lo,.int .u64 up,.int .i64 n] 65)).alloc (Obj.cells #[.int .i64 0,.slice none 0 0] 67)).alloc (Obj.cells #[.int .i64 kk,.slice none 0 0] 67):World);have HJ0:Hid (PnJ w ⟨kk,s,hi,t,lo,up,n⟩ (.slice none 0 0) [] W0):=by
  obtain⟨A,hA⟩:=qE (w.alloc (Obj.cells #[.int .i64 kk,.string s,.bool hi,.string t,.int .u64 lo,.int .u64 up,.int .i64 n] 65):World);obtain⟨B,hBB⟩:=qE (A.alloc (Obj.cells #[.int .i64 0,.slice none 0 0] 67):World);have zA:A.heap.size=w.heap.size+1:=by rw[hA];simp
  have zB:B.heap.size=w.heap.size+2:=by rw[hBB];simp[zA]
  have bA:Below w.heap.size w A:=by rw[hA];exact qB
  have bB:Below A.heap.size A B:=by rw[hBB];exact qB
  have b0:Below B.heap.size B W0:=by rw[hW0,←hA,←hBB];exact qB
  have x0:yA A w.heap.size 65 7 w.heap.size [.int .i64 kk,.string s,.bool hi,.string t,.int .u64 lo,.int .u64 up,.int .i64 n]:=by rw[hA];exact yAb w _ (Nat.le_refl _) rfl
  have x1:yA B w.heap.size 67 2 (w.heap.size+1) [.int .i64 0,.slice none 0 0]:=by rw[hBB,←zA];exact yAb A _ (by omega) rfl
  have x2:yA W0 w.heap.size 67 2 (w.heap.size+1+1) [.int .i64 kk,.slice none 0 0]:=by rw[hW0,←hA,←hBB,←zB];exact yAb B _ (by omega) rfl
  have bw:Below w.heap.size w W0:=(bA.trans (bB.mono (by omega))).trans (b0.mono (by omega));exact⟨World.ownsRow_nil ..,(x0.below bB).below b0,x1.below b0,x2,hG.on bw hB,bw,by rw[hW0];simp⟩
 have z0:=HJ0.size;obtain⟨c0,c1,c2,c3,c4,c5,c6⟩:=HJ0.node.c7;have d1:=HJ0.whole.cell (j:=1) rfl;have HC:Hid (Calls Tryz.prog 76 #[.slice none 0 0,.agg #[.int .i64 kk,.string s,.bool hi,.string t,.int .u64 lo,.int .u64 up,.int .i64 n]] W0 (AppP (w.heap.size+3) Y W0)):=by have h9:=yJ7 (w.heap.size+3) (.slice none 0 0) [] ⟨kk,s,hi,t,lo,up,n⟩ W0 HY0.2.1 HY0.2.2.1 HY0.2.2.2 HJ0.own (by simp) HJ0.size HJ0.gl (by omega);rw[List.nil_append,←HY0.1]at h9;exact h9
 go_enter Tryz.func37,Tryz.ntmps37;go_upto_region 2 with fail;rw[←hW0];clear hW0;go_wp2_with fail;refine HC.mono ?_;rintro r q1 ⟨v1,rfl,hO1,hF1⟩;obtain⟨a1,e1,hv1⟩:=hO1.slice;obtain⟨m1,hm1⟩:=qE (Y.length:Nat);rw[←hm1]at hv1;subst hv1;clear hm1;have HJ1:Hid (PnJ w ⟨kk,s,hi,t,lo,up,n⟩ (.slice a1 m1 e1) Y (q1.setCell ⟨w.heap.size+1+1,1,none⟩ (.slice a1 m1 e1))):=HJ0.step hF1 hO1 hB;have g1a:q1.cell? ⟨w.heap.size+1+1,1,none⟩=some (.slice none 0 0):=(hF1.box HJ0.whole (by decide)).cell (j:=1) rfl;have g1f:q1.frozen? ⟨w.heap.size+1+1,1,none⟩=false:=(hF1.box HJ0.whole (by decide)).frozen 1;obtain⟨W1,hW1⟩:=qE (q1.setCell ⟨w.heap.size+1+1,1,none⟩ (.slice a1 m1 e1):World);rw[←hW1]at HJ1;clear hO1 hF1 c0 c1 c2 c3 c4 c5 c6 d1 HC;go_upto_region 14 with fail;rw[←hW1];clear hW1 g1a g1f;obtain⟨bz,cz,hvz,hOz,hbz,hrz⟩:=HJ1.done HNE.out;obtain⟨hk0,hk1⟩:=HJ1.whole.c2;obtain⟨hr0,hr1⟩:=HJ1.res.c2;obtain⟨hf0,hf1⟩:=HJ1.res.f2;obtain⟨WZ,hWZ⟩:=qE ((W1.setCell ⟨w.heap.size+1,0,none⟩ (.int .i64 kk)).setCell ⟨w.heap.size+1,1,none⟩ (.slice a1 m1 e1):World);have HZ:Hid (PnP kk Y w (.returned (.agg #[.int .i64 kk,(.slice a1 m1 e1)])) WZ∧yA WZ w.heap.size 67 2 (w.heap.size+1) [.int .i64 kk,(.slice a1 m1 e1)]):=by rw[hWZ];exact⟨⟨bz,cz,by rw[hvz],hOz,hbz⟩,hrz⟩
 obtain⟨p0,p1⟩:=HZ.2.c2;clear hvz hOz hbz hrz;go_wp2_with fail;rw[←hWZ];exact bodyPost_ret (v:=.agg #[.int .i64 kk,(.slice a1 m1 e1)]) (by simp[results,Tryz.results37,go_sem,p0,p1]) rfl HZ.1
def SoA (w:World) (e:Nd) (W0:World):Prop:=yA W0 w.heap.size 65 7 w.heap.size e.seven∧yA W0 w.heap.size 112 3 (w.heap.size+1) [.bool false,.int .i64 0,.int .i64 0]∧Below w.heap.size w W0∧W0.heap.size=w.heap.size+2
theorem yUn {W0:World} {gd:Bool} (hA:SoA w e W0) (hb:Below W0.drew.heap.size W0.drew w'):SoJ w e w'.heap.size gd 0 (w'.alloc (Obj.cells #[.bool gd,.int .i64 e.kind,.int .i64 0] 112)):=by have h1:Below W0.heap.size W0 w':=((Below.refl W0.heap.size W0).drew).trans hb;have h2:=h1.size;have h3:Below W0.heap.size W0 (w'.alloc (Obj.cells #[.bool gd,.int .i64 e.kind,.int .i64 0] 112)):=h1.alloc h2 _;have h4:=hA.2.2.2;exact⟨hA.1.below h3,hA.2.1.below h3,yAb w' _ (by omega) rfl,by omega,hA.2.2.1.trans (h3.mono (by omega))⟩
theorem yRx {W0:World} {gd:Bool} (hA:SoA w e W0) (hb:Below (W0.drew.alloc (Obj.cells #[.bool false,.int .i64 0,.int .i64 0] 112)).heap.size (W0.drew.alloc (Obj.cells #[.bool false,.int .i64 0,.int .i64 0] 112)) w'):
  SoJ w e (w.heap.size+2) gd 0 (((w'.setCell ⟨w.heap.size+2,0,none⟩ (.bool gd)).setCell ⟨w.heap.size+2,1,none⟩ (.int .i64 e.kind)).setCell ⟨w.heap.size+2,2,none⟩ (.int .i64 0)):=by
 have h4:=hA.2.2.2;have hd:W0.drew.heap.size=W0.heap.size:=by simp
 have h0:Below W0.heap.size W0 (W0.drew.alloc (Obj.cells #[.bool false,.int .i64 0,.int .i64 0] 112)):=((Below.refl W0.heap.size W0).drew).alloc (by simp) _;have h1:Below W0.heap.size W0 w':=h0.trans (hb.mono (by simp));have hB:yA w' w.heap.size 112 3 (w.heap.size+2) [.bool false,.int .i64 0,.int .i64 0]:=by have:=yAb W0.drew (base:=w.heap.size) (t:=112) (sz:=3) #[.bool false,.int .i64 0,.int .i64 0] (by simp;omega) rfl;rw[hd,h4]at this;exact this.below hb
 refine⟨(((hA.1.below h1).beside (by omega) 0 _).beside (by omega) 1 _).beside (by omega) 2 _,(((hA.2.1.below h1).beside (by omega) 0 _).beside (by omega) 1 _).beside (by omega) 2 _,((hB.set 0 _).set 1 _).set 2 _,Nat.le_refl _,?_⟩;exact yAd (yAd (yAd (hA.2.2.1.trans (h1.mono (by omega))) (by omega) 0 _) (by omega) 1 _) (by omega) 2 _
structure SoK (w:World) (e:Nd) (WB OB:Nat) (v:Bool) (a:Nat) (x:yAx) (q:Nat) (wr:World):Prop where
 so:SoJ w e WB v a wr
 ob:yA wr w.heap.size 112 3 OB [.bool x.valid,.int .i64 x.kind,.int .i64 (q:Int)]
 ne:¬OB=WB
 ge:w.heap.size+2≤OB
theorem SoJ.round {v:Bool} {wr:World} (h:SoJ w e WB v a wr) (x:yAx):SoK w e WB wr.heap.size v a x x.nest (wr.alloc (Obj.cells #[.bool x.valid,.int .i64 x.kind,.int .i64 (x.nest:Int)] 112)):=by have hb:Below wr.heap.size wr (wr.alloc (Obj.cells #[.bool x.valid,.int .i64 x.kind,.int .i64 (x.nest:Int)] 112)):=qB;have h1:=h.whole.lt.2;have h2:=h.ne;exact⟨h.move hb,yAb wr _ h.below.size rfl,by omega,by omega⟩
variable {OB:Nat} {x:yAx}
theorem SoK.valid {v:Bool} {q:Nat} {wr:World} (h:SoK w e WB OB v a x q wr) (v2:Bool):SoK w e WB OB v2 a x q (wr.setCell ⟨WB,0,none⟩ (.bool v2)):=by have h2:=h.so.ne;exact⟨⟨h.so.node.beside (by omega) 0 _,h.so.res.beside (by omega) 0 _,h.so.whole.set 0 _,h2,yAd h.so.below (by omega) 0 _⟩,h.ob.beside h.ne 0 _,h.ne,h.ge⟩
theorem SoK.more {v:Bool} {q:Nat} {wr:World} (h:SoK w e WB OB v a x q wr) (q2:Nat):SoK w e WB OB v a x q2 (wr.setCell ⟨OB,2,none⟩ (.int .i64 (q2:Int))):=by have h2:=h.so.ne;have h3:=h.ge;have h4:=h.ne;exact⟨⟨h.so.node.beside (by omega) 2 _,h.so.res.beside (by omega) 2 _,h.so.whole.beside (by omega) 2 _,h2,yAd h.so.below (by omega) 2 _⟩,h.ob.set 2 _,h.ne,h.ge⟩
theorem SoK.done {v:Bool} {q:Nat} {wr:World} (h:SoK w e WB OB v a x q wr) (a2:Nat):SoJ w e WB v a2 (wr.setCell ⟨WB,2,none⟩ (.int .i64 (a2:Int))):=by have h2:=h.so.ne;exact⟨h.so.node.beside (by omega) 2 _,h.so.res.beside (by omega) 2 _,h.so.whole.set 2 _,h2,yAd h.so.below (by omega) 2 _⟩
variable {os:List yAx}
theorem yO1 (h:os[j]?=some x):(os.take (j+1)).all (·.valid)=((os.take j).all (·.valid) && x.valid):=by rw[List.take_add_one,h];simp
theorem yJe (op:Int) {o:yAx} (h:os[j]?=some o):yBw op j a (os.drop j)=yBw op (j+1) (max a (o.nest+if yBf op j o.kind then 1 else 0)) (os.drop (j+1)):=by have hj:=(List.getElem?_eq_some_iff.1 h).1;rw[List.drop_eq_getElem_cons hj,show os[j]=o from Option.some.inj ((List.getElem?_eq_getElem hj).symm.trans h)];rfl
variable {o:Nat}
theorem yIk {cap:Nat} (e:Nd) (h:yJ9 w b o os) (hbl:b<w.heap.size) (hl:os.length≤cap) (h3:os.length≤3) (hcap:cap≤9223372036854775807) (hN:∀x∈os,x.nest≤1000) (hs:e.s.size≤maxLen) (ht:e.t.size≤maxLen):
  Calls Tryz.prog 72 #[e.v,.slice (some ⟨b,o,none⟩) os.length cap] w fun r w'=>r=.returned (.agg #[.bool (yCj goodB e os).valid,.int .i64 e.kind,.int .i64 ((yCj goodB e os).nest:Int)])∧Below w.heap.size w w':=by
 have HF:Hid (yJ9 w b o os∧(∀x∈os,x.nest≤1000)∧e.s.size≤maxLen∧e.t.size≤maxLen):=⟨h,hN,hs,ht⟩;obtain⟨n,hn⟩:=qE os.length;have HL:Hid (n=os.length):=hn;rw[←hn]at hl h3⊢;clear h hN hs ht hn;obtain⟨gd,hgd⟩:=qE (goodB e);have HG:Hid (gd=goodB e):=hgd;have HVal:Hid (∀w,Calls Tryz.prog 100 #[.agg #[.int .i64 e.kind,.string e.s,.bool e.hi,.string e.t,.int .u64 e.lo,.int .u64 e.up,.int .i64 e.n]] w fun r w'=>r=.returned (.bool gd)∧Below w.heap.size w w'):=fun w=>by rw[hgd];exact yUg e w HF.2.2.1 HF.2.2.2
 clear hgd;obtain⟨W0,hW0⟩:=qE ((w.alloc (Obj.cells #[.int .i64 e.kind,.string e.s,.bool e.hi,.string e.t,.int .u64 e.lo,.int .u64 e.up,.int .i64 e.n] 65)).alloc (Obj.cells #[.bool false,.int .i64 0,.int .i64 0] 112):World);have HW0:Hid (yA W0 w.heap.size 65 7 w.heap.size e.seven∧yA W0 w.heap.size 112 3 (w.heap.size+1) [.bool false,.int .i64 0,.int .i64 0]∧Below w.heap.size w W0∧W0.heap.size=w.heap.size+2):=by rw[hW0];exact⟨yA.ofHeap (vs:=#[.int .i64 e.kind,.string e.s,.bool e.hi,.string e.t,.int .u64 e.lo,.int .u64 e.up,.int .i64 e.n]) (heap_alloc2_old w _ _) (Nat.le_refl _) rfl,yA.ofHeap (vs:=#[.bool false,.int .i64 0,.int .i64 0]) (heap_alloc2_new w _ _) (by omega) rfl,(qB).alloc (by simp) _,by simp⟩
 obtain⟨c0,c1,c2,c3,c4,c5,c6⟩:=HW0.1.c7;have hz:=HW0.2.2.2;obtain⟨tot,htot⟩:=qE ((yCj goodB e os).nest);have HT:Hid (yBw e.kind 0 0 os=tot):=by rw[htot];exact(rfl:yBw e.kind 0 0 os=_)
 have HV:Hid ((yCj goodB e os).valid=(gd && os.all (·.valid))):=by show(yCj goodB e os).valid=_;rw[HG.out];rfl
 rw[←htot];clear htot;go_enter Tryz.func72,Tryz.ntmps72;go_upto_region 1 with fail;rw[←hW0];clear hW0;go_cut[5] (fun s wx=>∃WB,s=.pointer (some ⟨WB,0,none⟩)∧SoJ w e WB gd 0 wx);case first=>
  have hlt0:w.heap.size<W0.heap.size:=by omega
  have c0a:∀o,(W0.alloc o).cell? ⟨w.heap.size,0,none⟩=some (.int .i64 e.kind):=fun o=>by rw[((Below.refl W0.heap.size W0).alloc (Nat.le_refl _) o).cell (p:=⟨w.heap.size,0,none⟩) hlt0];exact c0
  go_region_law ((go_simp;go_at_call 100;refine(HVal.out _).mono ?_;rintro r w' ⟨rfl,hbb⟩;obtain⟨hcc,hff⟩:=yZ1 hbb;have hsz':=hbb.size;have k0:w'.cell? ⟨w.heap.size,0,none⟩=some (.int .i64 e.kind):=by {rw[hcc w.heap.size 0 (by simp;omega)];first|exact c0|(simp;first|exact c0|exact c0a _)};have kl:w.heap.size<w'.heap.size:=by {simp at hsz';omega};have k0a:∀o,(w'.alloc o).cell? ⟨w.heap.size,0,none⟩=some (.int .i64 e.kind):=fun o=>by {rw[((Below.refl w'.heap.size w').alloc (Nat.le_refl _) o).cell (p:=⟨w.heap.size,0,none⟩) kl];exact k0}));all_goals go_wp2_with fail
  all_goals go_meet
  all_goals first
   |exact⟨_,rfl,yUn HW0.out hbb⟩
   |exact⟨_,rfl,yRx HW0.out hbb⟩
 case rest=>
 obtain⟨WB,rfl,hJ⟩:=hcut;have HJ0:Hid (SoJ w e WB gd 0 wc):=hJ;clear hJ c0 c1 c2 c3 c4 c5 c6 hz HW0 HVal;go_wp2_with fail;go_loopw[15] (fun iv wr=>∃(j a:Nat) (v:Bool),iv=.int .i64 (j:Int)∧j≤n∧a≤2000∧v=(gd && (os.take j).all (·.valid))∧yBw e.kind j a (os.drop j)=tot∧SoJ w e WB v a wr) (fun iv _=>n-(intOf iv).toNat);case atStart=>exact⟨0,0,gd,rfl,Nat.zero_le _,Nat.zero_le _,by simp,HT.out,HJ0.out⟩
 case round=>
  obtain⟨j,a,v,rfl,hj,ha,hv,hN,hJ⟩:=hrel;have HJ:Hid (v=(gd && (os.take j).all (·.valid))∧yBw e.kind j a (os.drop j)=tot∧SoJ w e WB v a wr):=⟨hv,hN,hJ⟩;have hWB:=hJ.whole.lt;have hWn:=hJ.ne;clear hv hN hJ HJ0 HT;by_cases hlt:j<n
  ·have zj:(j:Int)<(n:Int):=by omega
   obtain⟨x,hx⟩:∃x,os[j]?=some x:=⟨_,List.getElem?_eq_getElem (by have:=HL.out;omega)⟩;obtain⟨d0,d1,d2⟩:=(HF.1.below HJ.2.2.below hbl) j x hx;have hxn:=HF.2.1 x (List.mem_of_getElem? hx);have HX:Hid (os[j]?=some x):=hx;obtain⟨W1,hW1⟩:=qE (wr.alloc (Obj.cells #[.bool x.valid,.int .i64 x.kind,.int .i64 (x.nest:Int)] 112):World);have HK1:Hid (SoK w e WB wr.heap.size v a x x.nest W1):=by rw[hW1];exact HJ.2.2.round x
   clear hx;go_upto_region 5 with fail;rw[←hW1];clear hW1 d0 d1 d2;obtain⟨v0,hv0⟩:=qE v;have HV0:Hid (v0=(gd && (os.take j).all (·.valid))):=by rw[hv0];exact HJ.1
   have HN0:Hid (yBw e.kind j a (os.drop j)=tot):=HJ.2.1;clear HJ;have w0:=HK1.so.whole.cell (j:=0) rfl;have w0f:=HK1.so.whole.frozen 0;have o0:=HK1.ob.cell (j:=0) rfl;have hne:=HK1.ne;have hge:=HK1.ge;cases v
   ·have hv0':v0=false:=hv0;clear hv0;obtain⟨W2,hW2⟩:=qE (W1.setCell ⟨WB,0,none⟩ (.bool false):World);have HK2:Hid (SoK w e WB wr.heap.size false a x x.nest W2):=by rw[hW2];exact HK1.valid false
    have HVn:Hid (false=(gd && (os.take (j+1)).all (·.valid))):=by show false=_;rw[yO1 HX.out,←Bool.and_assoc,←HV0.out,hv0'];simp
    go_upto_region 6 with fail;rw[←hW2];clear hW2 w0 w0f o0 HK1 HV0;have m0:=HK2.so.node.cell (j:=0) rfl;have o1:=HK2.ob.cell (j:=1) rfl;have o2:=HK2.ob.cell (j:=2) rfl;have o2f:=HK2.ob.frozen 2;have w2:=HK2.so.whole.cell (j:=2) rfl;have w2f:=HK2.so.whole.frozen 2;have fin:∀(y:Nat),y=max a (x.nest+(if yBf e.kind j x.kind then 1 else 0))→yBw e.kind (j+1) y (os.drop (j+1))=tot:=fun y hy=>by rw[hy,←yJe e.kind HX.out];exact HN0.out
    by_cases h16:e.kind=16
    ·have hlv:yBf e.kind j x.kind=true:=by unfold yBf;rw[h16];rfl
     have z16:(e.kind==16)=true:=by simpa using h16
     clear h16;exact zzQ27
    ·have z16:(e.kind==16)=false:=by simpa using h16
     go_wp2_with fail;refine(yE6 e.kind j x.kind _ h16).mono ?_;rintro r w9 ⟨rfl,hw9⟩;rw[hw9];clear hw9 h16;cases hlv:yBf e.kind j x.kind
     ·skip;obtain⟨a2,ha2⟩:=qE (max a (x.nest));have HFin:Hid (yBw e.kind (j+1) a2 (os.drop (j+1))=tot∧a2≤2000):=⟨fin a2 (by rw[ha2,hlv];rfl),by omega⟩;have ha3:max (a:Int) ((x.nest:Int))=(a2:Int):=by omega
      clear fin hlv ha2;go_wp2_with fail;go_roundw;case rel=>
       refine⟨j+1,a2,false,by go_num,by omega,HFin.2,HVn.out,HFin.1,?_⟩;exact HK2.done a2
      case measure=>simp[intOf];omega
     ·skip;exact zzQ27
   ·have hv0':v0=true:=hv0;clear hv0;obtain⟨W2,hW2⟩:=qE (W1.setCell ⟨WB,0,none⟩ (.bool x.valid):World);have HK2:Hid (SoK w e WB wr.heap.size x.valid a x x.nest W2):=by rw[hW2];exact HK1.valid x.valid
    have HVn:Hid (x.valid=(gd && (os.take (j+1)).all (·.valid))):=by show x.valid=_;rw[yO1 HX.out,←Bool.and_assoc,←HV0.out,hv0'];simp
    go_upto_region 6 with fail;rw[←hW2];clear hW2 w0 w0f o0 HK1 HV0;have m0:=HK2.so.node.cell (j:=0) rfl;have o1:=HK2.ob.cell (j:=1) rfl;have o2:=HK2.ob.cell (j:=2) rfl;have o2f:=HK2.ob.frozen 2;have w2:=HK2.so.whole.cell (j:=2) rfl;have w2f:=HK2.so.whole.frozen 2;have fin:∀(y:Nat),y=max a (x.nest+(if yBf e.kind j x.kind then 1 else 0))→yBw e.kind (j+1) y (os.drop (j+1))=tot:=fun y hy=>by rw[hy,←yJe e.kind HX.out];exact HN0.out
    by_cases h16:e.kind=16
    ·have hlv:yBf e.kind j x.kind=true:=by unfold yBf;rw[h16];rfl
     have z16:(e.kind==16)=true:=by simpa using h16
     clear h16;exact zzQ26
    ·have z16:(e.kind==16)=false:=by simpa using h16
     go_wp2_with fail;refine(yE6 e.kind j x.kind _ h16).mono ?_;rintro r w9 ⟨rfl,hw9⟩;rw[hw9];clear hw9 h16;cases hlv:yBf e.kind j x.kind
     ·skip;obtain⟨a2,ha2⟩:=qE (max a (x.nest));have HFin:Hid (yBw e.kind (j+1) a2 (os.drop (j+1))=tot∧a2≤2000):=⟨fin a2 (by rw[ha2,hlv];rfl),by omega⟩;have ha3:max (a:Int) ((x.nest:Int))=(a2:Int):=by omega
      clear fin hlv ha2;go_wp2_with fail;go_roundw;case rel=>
       refine⟨j+1,a2,x.valid,by go_num,by omega,HFin.2,HVn.out,HFin.1,?_⟩;exact HK2.done a2
      case measure=>simp[intOf];omega
     ·skip;exact zzQ26
  ·have zj:¬(j:Int)<(n:Int):=by omega
   have HFi:Hid (a=tot∧v=(yCj goodB e os).valid):=by show _∧_;have h1:=HJ.2.1;have h2:=HJ.1;have hln:=HL.out;rw[List.drop_eq_nil_of_le (by omega)]at h1;rw[List.take_of_length_le (by omega)]at h2;exact⟨h1,by rw[h2,HV.out]⟩
   obtain⟨w0,w1,w2⟩:=HJ.2.2.whole.c3;obtain⟨r0,r1,r2⟩:=HJ.2.2.res.c3;obtain⟨f0,f1,f2⟩:=HJ.2.2.res.f3;obtain⟨W9,hW9⟩:=qE (set3 wr (w.heap.size+1) (.bool v) (.int .i64 e.kind) (.int .i64 (a:Int)):World);have HW9:Hid (yA W9 w.heap.size 112 3 (w.heap.size+1) [.bool v,.int .i64 e.kind,.int .i64 (a:Int)]∧Below w.heap.size w W9):=by rw[hW9];exact⟨HJ.2.2.res.set3 _ _ _,yGi HJ.2.2.below (by omega) _ _ _⟩
   obtain⟨p0,p1,p2⟩:=HW9.1.c3;unfold set3 at hW9;go_wp2_with fail;rw[←hW9];obtain⟨rfl,hvv⟩:=HFi.out;rw[←hvv];refine bodyPost_ret (v:=.agg #[.bool v,.int .i64 e.kind,.int .i64 (a:Int)]) (by simp[results,Tryz.results72,go_sem,p0,p1,p2]) rfl ⟨rfl,HW9.2⟩
theorem Tryz.infoSh:(Tryz.prog.info? 112).map (fun i=>(i.zero,i.size,i.bytes))=some (some (.agg #[.bool false,.int .i64 0,.int .i64 0]),3,24):=by kernel_rfl
theorem yH4 {ops:Array Oper} {oo:Oper} {a:Act} {K:Act→World→Prop} {Q:Exit→Act→World→Prop} {E:Prop} (w:World) (hgd:oo.guard=none) (s x:Operand)
  (ho:oo.op=.call {callee:=.builtin .append,args:=#[s,x],argTypes:=#[144,144]})
  (base n g cp blk:Nat) (ss:List yAx) (y:yAx) (hn:n=ss.length) (hs:a.eval s=.slice (some ⟨g,0,none⟩) n cp) (hx:a.eval x=.slice (some ⟨blk,0,none⟩) 1 1) (hO:yFd w base g cp ss)
  (hc:yJ9 w blk 0 [y]) (hlen:ss.length≤1000) (hbase:base≤w.heap.size)
  (h:∀g' cp' w',yFd w' base g' cp' (ss++ [y])→w.grownBy w' (some g)→(g=g'∨g'=w.heap.size)→K (a.put oo.dst (.slice (some ⟨g',0,none⟩) (n+1) cp')) w'):if Region.wanted oo (yielded ops a.tmps)=true then Oper.wp Tryz.prog oo a w K Q else E:=by
 subst hn;obtain⟨i,hi,hz0,hz1,hz2⟩:=info_parts Tryz.infoSh;obtain⟨c0,c1,c2⟩:=hc 0 y rfl;refine step_append_lies w hgd s x 144 ho base 112 i _ 3 24 Tryz.underlying144 hi hz0 hz1 hz2 rfl (by decide) (.slice (some ⟨g,0,none⟩) ss.length cp) ss.length (yB6 ss) hs hO ⟨blk,0,none⟩ 1 1 (yB6 [y]) hx rfl ?_ ?_ (by decide) ?_ ?_ hbase w.heap.size rfl ?_
 ·intro j u hu;have hj:j<3:=by have:=(List.getElem?_eq_some_iff.1 hu).1;rw[yHk]at this;simpa using this
  rw[Addr.add_mid];have hcs:yB6 [y]=y.three:=by simp[yB6]
  rw[hcs]at hu;match j,hj with
  |0,_=>simp at hu;rw[←hu];simpa using c0
  |1,_=>simp at hu;rw[←hu];simpa using c1
  |2,_=>simp at hu;rw[←hu];simpa using c2
 ·intro u hu;have hcs:yB6 [y]=y.three:=by simp[yB6]
  rw[hcs]at hu;simp at hu;rcases hu with rfl|rfl|rfl<;>rfl
 ·unfold maxLen;omega
 ·omega
 ·intro g' cp' w' hO' hgr hat hlt;refine h g' cp' w' ?_ hgr ?_
  ·unfold yFd;rw[List.length_append,yL8];exact hO'
  ·simp[Value.ownBlock]at hat;exact hat
variable {xs:List Nd}
theorem yT (h:yDs goodB [] xs=some ss):∀s∈ss,s.nest≤xs.length:=by intro s hs;obtain⟨ks,rfl,hK⟩:=ShT.kids goodB (yNd goodB h);obtain⟨k,hk,h3⟩:=yS1 goodB hK hs;have h4:=yLs hk;have h5:=yPe goodB _ (Nat.le_refl _) h3;omega
structure FoJ (w:World) (xs:List Nd) (j g cp:Nat) (ss:List yAx) (wr:World):Prop where
 fold:yDs goodB [] (xs.take j)=some ss
 own:yFd wr (w.heap.size+1) g cp ss
 res:yA wr w.heap.size 112 3 w.heap.size [.bool false,.int .i64 0,.int .i64 0]
 below:Below w.heap.size w wr
theorem FoJ.move {wr:World} (h:FoJ w xs j g cp ss wr) (hb:Below wr.heap.size wr w'):FoJ w xs j g cp ss w':=
 ⟨h.fold,h.own.below hb,h.res.below hb,h.below.trans (hb.mono h.below.size)⟩
theorem yS9 (h:yDs goodB [] (xs.take j)=some ss) (he:xs[j]?=some e) (hl:yAo e.kind≤ss.length):yDs goodB [] (xs.take (j+1))=some (ss.take (ss.length-yAo e.kind)++ [yCj goodB e (ss.drop (ss.length-yAo e.kind))]):=by rw[List.take_add_one,he,yFy,h];simp only[Option.toList,Option.bind_some,yDs,yQb];rw[if_neg (by omega)]
theorem yS8 (h:yDs goodB [] (xs.take j)=some ss) (he:xs[j]?=some e) (hl:ss.length<yAo e.kind):yDs goodB [] xs=none:=by
 have hj:=(List.getElem?_eq_some_iff.1 he).1;have:xs=xs.take j++e::xs.drop (j+1):=by
  conv=>lhs;rw[←List.take_append_drop j xs,List.drop_eq_getElem_cons hj]
  rw[show xs[j]=e from Option.some.inj ((List.getElem?_eq_getElem hj).symm.trans he)]
 rw[this,yFy,h];simp only[Option.bind_some,yDs,yQb];rw[if_pos hl]
def yP0 (xs:List Nd) (w:World) (r:Ending) (w':World):Prop:=Below w.heap.size w w'∧((∃s,yDs goodB [] xs=some [s]∧r=.returned (.tuple #[.agg #[.bool s.valid,.int .i64 s.kind,.int .i64 (s.nest:Int)],.bool true]))∨((∀s,¬yDs goodB [] xs=some [s])∧r=.returned (.tuple #[.agg #[.bool false,.int .i64 0,.int .i64 0],.bool false])))
theorem yQu {T:Type} (V:Nd→List T→T) {ns:List T} (h:yDy V [] (xs.take j)=some ns) (he:xs[j]?=some e) (hl:yAo e.kind≤ns.length):yDy V [] (xs.take (j+1))=some (ns.take (ns.length-yAo e.kind)++ [V e (ns.drop (ns.length-yAo e.kind))]):=by rw[List.take_add_one,he,yD9,h];simp only[Option.toList,Option.bind_some,yDy,yQa];rw[if_neg (by omega)];rfl
theorem yQt {T:Type} (V:Nd→List T→T) {ns:List T} (h:yDy V [] (xs.take j)=some ns) (he:xs[j]?=some e) (hl:ns.length<yAo e.kind):yDy V [] xs=none:=by
 have hj:=(List.getElem?_eq_some_iff.1 he).1;have:xs=xs.take j++e::xs.drop (j+1):=by
  conv=>lhs;rw[←List.take_append_drop j xs,List.drop_eq_getElem_cons hj]
  rw[show xs[j]=e from Option.some.inj ((List.getElem?_eq_getElem hj).symm.trans he)]
 rw[this,yD9,h];simp only[Option.bind_some,yDy,yQa];rw[if_pos hl];rfl
structure Po where
 kind:Int
 b:Nat
 c:Nat
 t:List UInt8
abbrev Po.pt (p:Po):PT:=(p.kind,p.t)
abbrev Po.two (p:Po):List Value:= [.int .i64 p.kind,.slice (some ⟨p.b,0,none⟩) p.t.length p.c]
def yCg (ps:List Po):List Value:=ps.flatMap Po.two
theorem yHl (ss:List Po):(yCg ss).length=ss.length*2:=by
 induction ss with
 |nil=>rfl
 |cons e es ih=>simp only[yCg,List.flatMap_cons,List.length_append]at ih⊢;rw[ih];simp;omega
theorem yL9 (es fs:List Po):yCg (es++fs)=yCg es++yCg fs:=by simp[yCg]
theorem yQ0 (es:List Po):∀(k:Nat) (e:Po),es[k]?=some e→∀j,j<2→(yCg es)[k*2+j]?=e.two[j]?:=by
 induction es with
 |nil=>intro k e h;simp at h
 |cons f es ih=>
  intro k e h j hj;have hc:yCg (f::es)=f.two++yCg es:=by simp[yCg]
  rw[hc];cases k with
  |zero=>
   simp at h;subst h;rw[List.getElem?_append_left (by show 0*2+j<2;omega)];simp
  |succ k=>
   simp at h;rw[List.getElem?_append_right (by show 2≤(k+1)*2+j;omega)];have:(k+1)*2+j-f.two.length=k*2+j:=by show(k+1)*2+j-2=_;omega
   rw[this];exact ih k e h j hj
theorem yOn (es:List Po) (k:Nat):yCg (es.take k)=(yCg es).take (k*2):=by
 induction es generalizing k with
 |nil=>simp[yCg]
 |cons f es ih=>
  cases k with
  |zero=>simp[yCg]
  |succ k=>
   have hc:yCg (f::es)=f.two++yCg es:=by simp[yCg]
   have hd:yCg (f::es.take k)=f.two++yCg (es.take k):=by simp[yCg]
   have e1:(k+1)*2=f.two.length+k*2:=by show(k+1)*2=2+k*2;omega
   rw[List.take_succ_cons,hd,hc,ih,e1,List.take_length_add_append]
def QsAt (w:World) (b o:Nat) (ps:List Po):Prop:=∀i p,ps[i]?=some p→w.cell? ⟨b,o+i*2,none⟩=some (.int .i64 p.kind)∧w.cell? ⟨b,o+i*2+1,none⟩=some (.slice (some ⟨p.b,0,none⟩) p.t.length p.c)
variable {ss:List Po}
theorem QsAt.below (h:QsAt w b o ss) (hb:Below B w w') (hlt:b<B):QsAt w' b o ss:=by
 intro i e he;have:=h i e he;refine⟨?_,?_⟩;all_goals rw[hb.cell (by exact hlt)]
 ·exact this.1
 ·exact this.2
theorem QsAt.drop (h:QsAt w b o ss) (k:Nat):QsAt w b (o+k*2) (ss.drop k):=by exact zzQ85
def yFe (w:World) (base g cp:Nat) (ps:List Po):Prop:=w.ownsRow base 67 2 (.slice (some ⟨g,0,none⟩) ps.length cp) ps.length (yCg ps)
theorem yFe.lt (h:yFe w base g cp ss):base≤g∧g<w.heap.size:=World.ownsRow.lt h g rfl
theorem yFe.below (h:yFe w base g cp ss) (hb:Below w.heap.size w w'):yFe w' base g cp ss:=yA2 h (Chg.of_below hb) (S:=fun _=>False) (fun k q z=>z)
theorem yFe.at (h:yFe w base g cp ss):QsAt w g 0 ss:=by
 intro i e he;have hi:i<ss.length:=(List.getElem?_eq_some_iff.1 he).1;have c:=fun j (hj:j<2)=>(World.ownsRow.cellAt h (i*2+j) (by omega)).trans (yQ0 ss i e he j hj);refine⟨?_,?_⟩
 ·rw[Nat.zero_add];exact c 0 (by omega)
 ·rw[Nat.zero_add];exact c 1 (by omega)
theorem yFe.caps (h:yFe w base g cp ss):ss.length≤cp∧cp≤maxLen:=by exact yP3
theorem yFe.take (h:yFe w base g cp ss) (hk:k≤ss.length):yFe w base g cp (ss.take k):=by
 rcases h.2 with⟨h0,_⟩|⟨g',cap',cur,hv,h1,h2,h3,h4,h5,h6⟩
 ·cases h0
 ·simp only[Value.slice.injEq,Option.some.injEq,Addr.mk.injEq,and_true,true_and]at hv;obtain⟨rfl,rfl⟩:=hv;have hl:(ss.take k).length=k:=by rw[List.length_take];omega
  refine⟨by rw[yHl],.inr ⟨g,cp,cur,rfl,h1,h2,by omega,h4,h5,?_⟩⟩;rw[hl,yOn,←h6,List.take_take];congr 1;omega
theorem ySd (w:World) (hb:base≤w.heap.size):yFe (w.alloc (Obj.cells #[] 67)) base w.heap.size 0 []:=
 World.ownsRow_made w #[] 0 hb (Nat.zero_le _) (by simp)
theorem Tryz.infoPt:(Tryz.prog.info? 67).map (fun i=>(i.zero,i.size,i.bytes))=some (some (.agg #[.int .i64 0,.slice none 0 0]),2,32):=by kernel_rfl
theorem yKf {ops:Array Oper} {oo:Oper} {a:Act} {K:Act→World→Prop} {Q:Exit→Act→World→Prop} {E:Prop} (w:World) (hgd:oo.guard=none) (s x:Operand)
  (ho:oo.op=.call {callee:=.builtin .append,args:=#[s,x],argTypes:=#[116,116]})
  (base n g cp blk:Nat) (ss:List Po) (y:Po) (hn:n=ss.length) (hs:a.eval s=.slice (some ⟨g,0,none⟩) n cp) (hx:a.eval x=.slice (some ⟨blk,0,none⟩) 1 1) (hO:yFe w base g cp ss)
  (hc:QsAt w blk 0 [y]) (hlen:ss.length≤1000) (hbase:base≤w.heap.size)
  (h:∀g' cp' w',yFe w' base g' cp' (ss++ [y])→w.grownBy w' (some g)→(g=g'∨g'=w.heap.size)→K (a.put oo.dst (.slice (some ⟨g',0,none⟩) (n+1) cp')) w'):if Region.wanted oo (yielded ops a.tmps)=true then Oper.wp Tryz.prog oo a w K Q else E:=by
 subst hn;obtain⟨i,hi,hz0,hz1,hz2⟩:=info_parts Tryz.infoPt;obtain⟨c0,c1⟩:=hc 0 y rfl;have hcs:yCg [y]=y.two:=by simp[yCg]
 refine step_append_lies w hgd s x 116 ho base 67 i _ 2 32 Tryz.underlying116 hi hz0 hz1 hz2 rfl (by decide) (.slice (some ⟨g,0,none⟩) ss.length cp) ss.length (yCg ss) hs hO ⟨blk,0,none⟩ 1 1 (yCg [y]) hx rfl ?_ ?_ (by decide) ?_ ?_ hbase w.heap.size rfl ?_
 ·intro j u hu;have hj:j<2:=by have:=(List.getElem?_eq_some_iff.1 hu).1;rw[yHl]at this;simpa using this
  rw[Addr.add_mid];rw[hcs]at hu;match j,hj with
  |0,_=>simp at hu;rw[←hu];simpa using c0
  |1,_=>simp at hu;rw[←hu];simpa using c1
 ·intro u hu;rw[hcs]at hu;simp at hu;rcases hu with rfl|rfl<;>rfl
 ·unfold maxLen;omega
 ·omega
 ·intro g' cp' w' hO' hgr hat hlt;refine h g' cp' w' ?_ hgr ?_
  ·unfold yFe;rw[List.length_append,yL9];exact hO'
  ·simp[Value.ownBlock]at hat;exact hat
theorem yGq (e:Nd) (g F c:Nat) (ps:List Po) (w:World) (hg:yAj e) (hn:NumN e) (hl:ps.length=yAo e.kind) (hgl:g<w.heap.size) (hQ:QsAt w g F ps) (hE:∀p∈ps,yAe w p.b 0 p.t∧p.b<w.heap.size∧p.t.length≤400000) (hG:Gl w) (hB:7≤w.heap.size):
  Calls Tryz.prog 37 #[e.v,.slice (some ⟨g,F,none⟩) ps.length c] w (PnP e.kind (yA4 e (ps.map Po.pt)).2 w):=by
 obtain⟨kind,s,hi,t,lo,up,n⟩:=e;simp only at hl⊢;by_cases h14:kind=14
 ·subst h14;match ps,hl with
  | [p,q],_=>
    have h0:=hQ 0 p rfl;have h1:=hQ 1 q rfl;simp only[Nat.zero_mul,Nat.one_mul,Nat.add_zero]at h0 h1;have e0:=hE p (by simp);have e1:=hE q (by simp);have:=yMr s hi t lo up n g F c p.kind q.kind p.b p.c q.b q.c p.t q.t w hgl hG hB ⟨h0.1,h0.2,e0.1,e0.2.1⟩ ⟨h1.1,h1.2,e1.1,e1.2.1⟩ e0.2.2 e1.2.2;have hv:(yA4 ⟨14,s,hi,t,lo,up,n⟩ ([p,q].map Po.pt)).2=yAw 14 0 (p.kind,p.t)++ [32,62,32]++yAw 14 1 (q.kind,q.t):=by simp[yA4,yBx,sepM]
    rw[hv];exact this
 by_cases h15:kind=15
 ·subst h15;match ps,hl with
  | [p,q],_=>
    have h0:=hQ 0 p rfl;have h1:=hQ 1 q rfl;simp only[Nat.zero_mul,Nat.one_mul,Nat.add_zero]at h0 h1;have e0:=hE p (by simp);have e1:=hE q (by simp);have:=yMq s hi t lo up n g F c p.kind q.kind p.b p.c q.b q.c p.t q.t w hgl hG hB ⟨h0.1,h0.2,e0.1,e0.2.1⟩ ⟨h1.1,h1.2,e1.1,e1.2.1⟩ e0.2.2 e1.2.2;have hv:(yA4 ⟨15,s,hi,t,lo,up,n⟩ ([p,q].map Po.pt)).2=yAw 15 0 (p.kind,p.t)++ [32,124,32]++yAw 15 1 (q.kind,q.t):=by simp[yA4,yBx,sepM]
    rw[hv];exact this
 by_cases h16:kind=16
 ·subst h16;match ps,hl with
  | [p,q,r],_=>
    have h0:=hQ 0 p rfl;have h1:=hQ 1 q rfl;have h2:=hQ 2 r rfl;simp only[Nat.zero_mul,Nat.one_mul,Nat.add_zero,Nat.reduceMul]at h0 h1 h2;have e0:=hE p (by simp);have e1:=hE q (by simp);have e2:=hE r (by simp);have:=yMp s hi t lo up n g F c p.kind q.kind r.kind p.b p.c q.b q.c r.b r.c p.t q.t r.t w hgl hG hB ⟨h0.1,h0.2,e0.1,e0.2.1⟩ ⟨h1.1,h1.2,e1.1,e1.2.1⟩ ⟨h2.1,h2.2,e2.1,e2.2.1⟩ e0.2.2 e1.2.2 e2.2.2;have hv:(yA4 ⟨16,s,hi,t,lo,up,n⟩ ([p,q,r].map Po.pt)).2= [105,102,40]++(p.t++ [44,32]++q.t++ [44,32]++r.t)++ [41]:=by simp[yA4,yBx,sepM,yAw,yGx]
    rw[hv];exact this
 have ha:yAo kind=0:=by unfold yAo;rw[if_neg (by omega),if_neg h16]
 obtain rfl:ps= []:=List.length_eq_zero_iff.1 (by rw[hl,ha]);have:=yKh kind s hi t lo up n (some ⟨g,F,none⟩) c w hg hn ha hG hB;have hv:(yA4 ⟨kind,s,hi,t,lo,up,n⟩ (([]:List Po).map Po.pt)).2=yBi ⟨kind,s,hi,t,lo,up,n⟩:=by simp[yA4]
 rw[hv];exact this
end Go.Proofs.YtgnpcenpcmdlfaaGreatDoor
