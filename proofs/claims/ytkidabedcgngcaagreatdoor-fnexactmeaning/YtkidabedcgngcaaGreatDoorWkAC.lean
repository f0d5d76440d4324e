import Derived.Test.YtkidabedcgngcaaGreatDoorWkAA
import Derived.Test.YtkidabedcgngcaaGreatDoorWkAB
import Derived.Deep.DeepCutAuto
import Derived.Maps.AppendAt
import Derived.Lib.Bytealg
import Derived.Lib.Slices
import Derived.Lib.Walk
import Derived.Deep.QuietTactic
import Derived.BigQuiet
import Derived.Deep.RegionWith
import Derived.Lib.TrailingZeros
import Derived.Laws.Bits64b
import Derived.RangeFuncNested
import Derived.RangeFuncBound
import Derived.RangeFuncCalls
import Derived.RangeFuncLeaves
import Derived.Shelf.Abstract
import Derived.Shelf.RegionOpen
import Derived.WalkKit
import Derived.OwnWalkIn
import Derived.TacticsInMore
import Derived.LoopNIn
import Derived.LoopIn
namespace Go.Proofs.YtkidabedcgngcaaGreatDoor
open Go.ChangeShapes Go.WideShapes Go.ChangeAt Go.RowKit Go.Deep
set_option linter.unusedVariables false
set_option linter.unusedSimpArgs false
set_option maxRecDepth 100000
theorem regField (c k:Int) (w:World):(Instr.field 129 (.agg #[.int .i64 c,.int .i64 k]) 0).run Tryz.prog w=.ok (.int .i64 c) w:=by kernel_rfl
def NdPost (e:Nd) (w:World) (r:Ending) (w':World):Prop:=∃b,r=.returned (.bool b)∧(b=true↔GoodN e)∧Below w.heap.size w w'
set_option maxHeartbeats 8000000 in
theorem good_core (e:Nd) (w:World) (hs:e.s.size≤maxLen) (ht:e.t.size≤maxLen):Calls Tryz.prog 47 #[e.v] w (NdPost e w):=by
 obtain⟨kind,s,hi,t,lo,up,n⟩:=e
 have HS:Hid (s.size≤maxLen):=hs
 unfold maxLen at hs ht
 simp only[]at hs ht
 obtain⟨W0,hW0⟩:=qE (w.alloc (Obj.cells #[.int .i64 kind,.string s,.bool hi,.string t,.int .u64 lo,.int .u64 up,.int .i64 n] 75):World)
 have HW0:Hid (BoxAt W0 w.heap.size 75 7 w.heap.size [.int .i64 kind,.string s,.bool hi,.string t,.int .u64 lo,.int .u64 up,.int .i64 n]∧Below w.heap.size w W0):=by
  rw[hW0];exact⟨boxAt_new w _ (Nat.le_refl _) rfl,qB⟩
 have hbw:=HW0.2.size
 obtain⟨c0,c1,c2,c3,c4,c5,c6⟩:=HW0.1.c7
 go_enter Tryz.func47,Tryz.ntmps47
 go_upto_region 1 with fail
 rw[←hW0]
 clear hW0
 by_cases hgood:s.size≤200∧t.size≤200∧(hi=true∨(hi=false∧t.toList= []∧up=0))
 case neg=>
  have HG:Hid (¬GoodN ⟨kind,s,hi,t,lo,up,n⟩):=fun q=>hgood ⟨q.1,q.2.1,by
   cases hi
   ·exact .inr ⟨rfl,q.2.2.1 rfl⟩
   ·exact .inl rfl⟩
  by_cases h1:s.size≤200
  ·have z1:¬(200:Int)<(s.size:Int):=by omega
   by_cases h2:t.size≤200
   ·have z2:¬(200:Int)<(t.size:Int):=by omega
    have hhi:hi=false:=by cases hi;rfl;exact absurd ⟨h1,h2,.inl rfl⟩ hgood
    subst hhi
    by_cases h3:t.toList= []
    ·have h4:¬up=0:=fun q=>hgood ⟨h1,h2,.inr ⟨rfl,h3,q⟩⟩
     exact zzQ36
    ·exact zzQ36
   ·have z2:(200:Int)<(t.size:Int):=by omega
    exact zzQ36
  ·have z1:(200:Int)<(s.size:Int):=by omega
   exact zzQ36
 have HG:Hid (s.size≤200∧t.size≤200∧(hi=false→t.toList= []∧up=0)):=⟨hgood.1,hgood.2.1,fun q=>hgood.2.2.elim (fun z=>by rw[q]at z;cases z) (fun z=>z.2)⟩
 go_cut[27] (fun s wx=>s=.bool false∧wx=W0)
 case first=>
  have z1:¬(200:Int)<(s.size:Int):=by have:=HG.1;omega
  have z2:¬(200:Int)<(t.size:Int):=by have:=HG.2.1;omega
  rcases hgood.2.2 with rfl|⟨rfl,h3,rfl⟩
  ·go_wp2_with fail
   go_meet
   exact⟨rfl,rfl⟩
  ·go_wp2_with fail
   go_meet
   exact⟨rfl,rfl⟩
 case rest=>
 obtain⟨rfl,rfl⟩:=hcut
 clear hgood hs ht
 obtain⟨c,hc⟩:=qE ((checkM (sb s)).1)
 obtain⟨k,hk⟩:=qE (((checkM (sb s)).2:Int):Int)
 have HV:Hid (c=(checkM (sb s)).1):=hc
 have HC:Hid (∀w,Calls Tryz.prog 88 #[.string s] w fun e w'=>e=.returned (.agg #[.int .i64 c,.int .i64 k])∧Below w.heap.size w w'):=fun w=>by
  rw[hc,hk];exact specCheck_core s w HS.out
 clear hc hk
 by_cases k4:kind=4
 ·subst k4
  go_wp2_with fail
  refine(bareS_core ⟨4,s,hi,t,lo,up,n⟩ _).mono ?_
  rintro r w1 ⟨b,rfl,hb,hb1⟩
  have HB:Hid (b=true↔(hi=false∧t.toList= []∧lo=0∧up=0∧n=0)):=hb
  have d0:=(HW0.1.below hb1).cell (j:=0) rfl
  have d1:=(HW0.1.below hb1).cell (j:=1) rfl
  have d2:=(HW0.1.below hb1).cell (j:=2) rfl
  have d3:=(HW0.1.below hb1).cell (j:=3) rfl
  have d4:=(HW0.1.below hb1).cell (j:=4) rfl
  have d5:=(HW0.1.below hb1).cell (j:=5) rfl
  have d6:=(HW0.1.below hb1).cell (j:=6) rfl
  clear hb
  cases b
  ·have HF:Hid (¬GoodN ⟨4,s,hi,t,lo,up,n⟩):=by
    show¬GoodN _
    have hB:=HB.out
    intro q
    simp[GoodN]at q hB
    simp_all
   exact zzQ10
  ·exact zzQ9
 by_cases k5:kind=5
 ·subst k5
  go_wp2_with fail
  refine(bareS_core ⟨5,s,hi,t,lo,up,n⟩ _).mono ?_
  rintro r w1 ⟨b,rfl,hb,hb1⟩
  have HB:Hid (b=true↔(hi=false∧t.toList= []∧lo=0∧up=0∧n=0)):=hb
  have d0:=(HW0.1.below hb1).cell (j:=0) rfl
  have d1:=(HW0.1.below hb1).cell (j:=1) rfl
  have d2:=(HW0.1.below hb1).cell (j:=2) rfl
  have d3:=(HW0.1.below hb1).cell (j:=3) rfl
  have d4:=(HW0.1.below hb1).cell (j:=4) rfl
  have d5:=(HW0.1.below hb1).cell (j:=5) rfl
  have d6:=(HW0.1.below hb1).cell (j:=6) rfl
  clear hb
  cases b
  ·have HF:Hid (¬GoodN ⟨5,s,hi,t,lo,up,n⟩):=by
    show¬GoodN _
    have hB:=HB.out
    intro q
    simp[GoodN]at q hB
    simp_all
   exact zzQ10
  ·exact zzQ9
 by_cases k6:kind=6
 ·subst k6
  go_wp2_with fail
  refine(bareS_core ⟨6,s,hi,t,lo,up,n⟩ _).mono ?_
  rintro r w1 ⟨b,rfl,hb,hb1⟩
  have HB:Hid (b=true↔(hi=false∧t.toList= []∧lo=0∧up=0∧n=0)):=hb
  have d0:=(HW0.1.below hb1).cell (j:=0) rfl
  have d1:=(HW0.1.below hb1).cell (j:=1) rfl
  have d2:=(HW0.1.below hb1).cell (j:=2) rfl
  have d3:=(HW0.1.below hb1).cell (j:=3) rfl
  have d4:=(HW0.1.below hb1).cell (j:=4) rfl
  have d5:=(HW0.1.below hb1).cell (j:=5) rfl
  have d6:=(HW0.1.below hb1).cell (j:=6) rfl
  clear hb
  cases b
  ·have HF:Hid (¬GoodN ⟨6,s,hi,t,lo,up,n⟩):=by
    show¬GoodN _
    have hB:=HB.out
    intro q
    simp[GoodN]at q hB
    simp_all
   exact zzQ10
  ·exact zzQ9
 by_cases k7:kind=7
 ·subst k7
  go_wp2_with fail
  refine(bareS_core ⟨7,s,hi,t,lo,up,n⟩ _).mono ?_
  rintro r w1 ⟨b,rfl,hb,hb1⟩
  have HB:Hid (b=true↔(hi=false∧t.toList= []∧lo=0∧up=0∧n=0)):=hb
  have d0:=(HW0.1.below hb1).cell (j:=0) rfl
  have d1:=(HW0.1.below hb1).cell (j:=1) rfl
  have d2:=(HW0.1.below hb1).cell (j:=2) rfl
  have d3:=(HW0.1.below hb1).cell (j:=3) rfl
  have d4:=(HW0.1.below hb1).cell (j:=4) rfl
  have d5:=(HW0.1.below hb1).cell (j:=5) rfl
  have d6:=(HW0.1.below hb1).cell (j:=6) rfl
  clear hb
  cases b
  ·have HF:Hid (¬GoodN ⟨7,s,hi,t,lo,up,n⟩):=by
    show¬GoodN _
    have hB:=HB.out
    intro q
    simp[GoodN]at q hB
    simp_all
   exact zzQ10
  ·exact zzQ9
 by_cases k8:kind=8
 ·subst k8
  go_wp2_with fail
  refine(bareST_core ⟨8,s,hi,t,lo,up,n⟩ _).mono ?_
  rintro r w1 ⟨b,rfl,hb,hb1⟩
  have HB:Hid (b=true↔(lo=0∧up=0∧n=0)):=hb
  have d0:=(HW0.1.below hb1).cell (j:=0) rfl
  have d1:=(HW0.1.below hb1).cell (j:=1) rfl
  have d2:=(HW0.1.below hb1).cell (j:=2) rfl
  have d3:=(HW0.1.below hb1).cell (j:=3) rfl
  have d4:=(HW0.1.below hb1).cell (j:=4) rfl
  have d5:=(HW0.1.below hb1).cell (j:=5) rfl
  have d6:=(HW0.1.below hb1).cell (j:=6) rfl
  clear hb
  cases b
  ·have HF:Hid (¬GoodN ⟨8,s,hi,t,lo,up,n⟩):=by
    show¬GoodN _
    have hB:=HB.out
    intro q
    simp[GoodN]at q hB
    simp_all
   exact zzQ10
  ·have HF:Hid (GoodN ⟨8,s,hi,t,lo,up,n⟩↔(hi=true→less s t)):=by
    show GoodN _↔_
    have hB:=HB.out
    have hG:=HG.out
    simp at hB
    simp[GoodN]
    simp_all
   cases hi
   ·exact zzQ10
   ·go_wp2_with fail
    go_ret
    exact⟨_,rfl,by simp[HF.out,less],HW0.2.trans (hb1.mono hbw)⟩
 by_cases k9:kind=9
 ·subst k9
  go_wp2_with fail
  refine(bareST_core ⟨9,s,hi,t,lo,up,n⟩ _).mono ?_
  rintro r w1 ⟨b,rfl,hb,hb1⟩
  have HB:Hid (b=true↔(lo=0∧up=0∧n=0)):=hb
  have d0:=(HW0.1.below hb1).cell (j:=0) rfl
  have d1:=(HW0.1.below hb1).cell (j:=1) rfl
  have d2:=(HW0.1.below hb1).cell (j:=2) rfl
  have d3:=(HW0.1.below hb1).cell (j:=3) rfl
  have d4:=(HW0.1.below hb1).cell (j:=4) rfl
  have d5:=(HW0.1.below hb1).cell (j:=5) rfl
  have d6:=(HW0.1.below hb1).cell (j:=6) rfl
  clear hb
  cases b
  ·have HF:Hid (¬GoodN ⟨9,s,hi,t,lo,up,n⟩):=by
    show¬GoodN _
    have hB:=HB.out
    intro q
    simp[GoodN]at q hB
    simp_all
   exact zzQ10
  ·have HF:Hid (GoodN ⟨9,s,hi,t,lo,up,n⟩↔(hi=true→less s t)):=by
    show GoodN _↔_
    have hB:=HB.out
    have hG:=HG.out
    simp at hB
    simp[GoodN]
    simp_all
   cases hi
   ·exact zzQ10
   ·go_wp2_with fail
    go_ret
    exact⟨_,rfl,by simp[HF.out,less],HW0.2.trans (hb1.mono hbw)⟩
 by_cases k10:kind=10
 ·subst k10
  go_wp2_with fail
  refine(bareN_core ⟨10,s,hi,t,lo,up,n⟩ _).mono ?_
  rintro r w1 ⟨b,rfl,hb,hb1⟩
  have HB:Hid (b=true↔(s.toList= []∧t.toList= []∧n=0)):=hb
  have d0:=(HW0.1.below hb1).cell (j:=0) rfl
  have d1:=(HW0.1.below hb1).cell (j:=1) rfl
  have d2:=(HW0.1.below hb1).cell (j:=2) rfl
  have d3:=(HW0.1.below hb1).cell (j:=3) rfl
  have d4:=(HW0.1.below hb1).cell (j:=4) rfl
  have d5:=(HW0.1.below hb1).cell (j:=5) rfl
  have d6:=(HW0.1.below hb1).cell (j:=6) rfl
  clear hb
  cases b
  ·have HF:Hid (¬GoodN ⟨10,s,hi,t,lo,up,n⟩):=by
    show¬GoodN _
    have hB:=HB.out
    intro q
    simp[GoodN]at q hB
    simp_all
   exact zzQ10
  ·have HF:Hid (GoodN ⟨10,s,hi,t,lo,up,n⟩↔(hi=true→lo<up)):=by
    show GoodN _↔_
    have hB:=HB.out
    have hG:=HG.out
    simp at hB
    simp[GoodN]
    simp_all
   cases hi
   ·exact zzQ10
   ·exact zzQ10
 by_cases k11:kind=11
 ·subst k11
  go_wp2_with fail
  refine(bareC_core ⟨11,s,hi,t,lo,up,n⟩ _).mono ?_
  rintro r w1 ⟨b,rfl,hb,hb1⟩
  have HB:Hid (b=true↔(s.toList= []∧hi=false∧t.toList= []∧lo=0∧up=0)):=hb
  have d0:=(HW0.1.below hb1).cell (j:=0) rfl
  have d1:=(HW0.1.below hb1).cell (j:=1) rfl
  have d2:=(HW0.1.below hb1).cell (j:=2) rfl
  have d3:=(HW0.1.below hb1).cell (j:=3) rfl
  have d4:=(HW0.1.below hb1).cell (j:=4) rfl
  have d5:=(HW0.1.below hb1).cell (j:=5) rfl
  have d6:=(HW0.1.below hb1).cell (j:=6) rfl
  clear hb
  cases b
  ·have HF:Hid (¬GoodN ⟨11,s,hi,t,lo,up,n⟩):=by
    show¬GoodN _
    have hB:=HB.out
    intro q
    simp[GoodN]at q hB
    simp_all
   exact zzQ10
  ·have HF:Hid (GoodN ⟨11,s,hi,t,lo,up,n⟩↔(1≤n∧n≤1000)):=by
    show GoodN _↔_
    have hB:=HB.out
    have hG:=HG.out
    simp at hB
    simp[GoodN]
    simp_all
   by_cases h1:1≤n
   ·exact zzQ27
   ·exact zzQ27
 by_cases k12:kind=12
 ·subst k12
  go_wp2_with fail
  refine(bareC_core ⟨12,s,hi,t,lo,up,n⟩ _).mono ?_
  rintro r w1 ⟨b,rfl,hb,hb1⟩
  have HB:Hid (b=true↔(s.toList= []∧hi=false∧t.toList= []∧lo=0∧up=0)):=hb
  have d0:=(HW0.1.below hb1).cell (j:=0) rfl
  have d1:=(HW0.1.below hb1).cell (j:=1) rfl
  have d2:=(HW0.1.below hb1).cell (j:=2) rfl
  have d3:=(HW0.1.below hb1).cell (j:=3) rfl
  have d4:=(HW0.1.below hb1).cell (j:=4) rfl
  have d5:=(HW0.1.below hb1).cell (j:=5) rfl
  have d6:=(HW0.1.below hb1).cell (j:=6) rfl
  clear hb
  cases b
  ·have HF:Hid (¬GoodN ⟨12,s,hi,t,lo,up,n⟩):=by
    show¬GoodN _
    have hB:=HB.out
    intro q
    simp[GoodN]at q hB
    simp_all
   exact zzQ10
  ·have HF:Hid (GoodN ⟨12,s,hi,t,lo,up,n⟩↔(1≤n∧n≤1000)):=by
    show GoodN _↔_
    have hB:=HB.out
    have hG:=HG.out
    simp at hB
    simp[GoodN]
    simp_all
   by_cases h1:1≤n
   ·exact zzQ27
   ·exact zzQ27
 by_cases k13:kind=13
 ·subst k13
  go_wp2_with fail
  refine(bareC_core ⟨13,s,hi,t,lo,up,n⟩ _).mono ?_
  rintro r w1 ⟨b,rfl,hb,hb1⟩
  have HB:Hid (b=true↔(s.toList= []∧hi=false∧t.toList= []∧lo=0∧up=0)):=hb
  have d0:=(HW0.1.below hb1).cell (j:=0) rfl
  have d1:=(HW0.1.below hb1).cell (j:=1) rfl
  have d2:=(HW0.1.below hb1).cell (j:=2) rfl
  have d3:=(HW0.1.below hb1).cell (j:=3) rfl
  have d4:=(HW0.1.below hb1).cell (j:=4) rfl
  have d5:=(HW0.1.below hb1).cell (j:=5) rfl
  have d6:=(HW0.1.below hb1).cell (j:=6) rfl
  clear hb
  cases b
  ·have HF:Hid (¬GoodN ⟨13,s,hi,t,lo,up,n⟩):=by
    show¬GoodN _
    have hB:=HB.out
    intro q
    simp[GoodN]at q hB
    simp_all
   exact zzQ10
  ·have HF:Hid (GoodN ⟨13,s,hi,t,lo,up,n⟩↔(1≤n∧n≤1000)):=by
    show GoodN _↔_
    have hB:=HB.out
    have hG:=HG.out
    simp at hB
    simp[GoodN]
    simp_all
   by_cases h1:1≤n
   ·exact zzQ27
   ·exact zzQ27
 by_cases k1:kind=1
 ·subst k1
  go_wp2_with fail
  refine(bareZ_core ⟨1,s,hi,t,lo,up,n⟩ _).mono ?_
  rintro r w1 ⟨b,rfl,hb,hb1⟩
  have HB:Hid (b=true↔(s.toList= []∧hi=false∧t.toList= []∧lo=0∧up=0∧n=0)):=hb
  have HF:Hid (b=true↔GoodN ⟨1,s,hi,t,lo,up,n⟩):=by
   show b=true↔GoodN _
   have hB:=HB.out
   have hG:=HG.out
   rw[hB]
   simp[GoodN]
   simp_all
  exact zzQ32
 by_cases k2:kind=2
 ·subst k2
  go_wp2_with fail
  refine(bareZ_core ⟨2,s,hi,t,lo,up,n⟩ _).mono ?_
  rintro r w1 ⟨b,rfl,hb,hb1⟩
  have HB:Hid (b=true↔(s.toList= []∧hi=false∧t.toList= []∧lo=0∧up=0∧n=0)):=hb
  have HF:Hid (b=true↔GoodN ⟨2,s,hi,t,lo,up,n⟩):=by
   show b=true↔GoodN _
   have hB:=HB.out
   have hG:=HG.out
   rw[hB]
   simp[GoodN]
   simp_all
  exact zzQ32
 by_cases k3:kind=3
 ·subst k3
  go_wp2_with fail
  refine(bareZ_core ⟨3,s,hi,t,lo,up,n⟩ _).mono ?_
  rintro r w1 ⟨b,rfl,hb,hb1⟩
  have HB:Hid (b=true↔(s.toList= []∧hi=false∧t.toList= []∧lo=0∧up=0∧n=0)):=hb
  have HF:Hid (b=true↔GoodN ⟨3,s,hi,t,lo,up,n⟩):=by
   show b=true↔GoodN _
   have hB:=HB.out
   have hG:=HG.out
   rw[hB]
   simp[GoodN]
   simp_all
  exact zzQ32
 by_cases k14:kind=14
 ·subst k14
  go_wp2_with fail
  refine(bareZ_core ⟨14,s,hi,t,lo,up,n⟩ _).mono ?_
  rintro r w1 ⟨b,rfl,hb,hb1⟩
  have HB:Hid (b=true↔(s.toList= []∧hi=false∧t.toList= []∧lo=0∧up=0∧n=0)):=hb
  have HF:Hid (b=true↔GoodN ⟨14,s,hi,t,lo,up,n⟩):=by
   show b=true↔GoodN _
   have hB:=HB.out
   have hG:=HG.out
   rw[hB]
   simp[GoodN]
   simp_all
  exact zzQ32
 by_cases k15:kind=15
 ·subst k15
  go_wp2_with fail
  refine(bareZ_core ⟨15,s,hi,t,lo,up,n⟩ _).mono ?_
  rintro r w1 ⟨b,rfl,hb,hb1⟩
  have HB:Hid (b=true↔(s.toList= []∧hi=false∧t.toList= []∧lo=0∧up=0∧n=0)):=hb
  have HF:Hid (b=true↔GoodN ⟨15,s,hi,t,lo,up,n⟩):=by
   show b=true↔GoodN _
   have hB:=HB.out
   have hG:=HG.out
   rw[hB]
   simp[GoodN]
   simp_all
  exact zzQ32
 by_cases k16:kind=16
 ·subst k16
  go_wp2_with fail
  refine(bareZ_core ⟨16,s,hi,t,lo,up,n⟩ _).mono ?_
  rintro r w1 ⟨b,rfl,hb,hb1⟩
  have HB:Hid (b=true↔(s.toList= []∧hi=false∧t.toList= []∧lo=0∧up=0∧n=0)):=hb
  have HF:Hid (b=true↔GoodN ⟨16,s,hi,t,lo,up,n⟩):=by
   show b=true↔GoodN _
   have hB:=HB.out
   have hG:=HG.out
   rw[hB]
   simp[GoodN]
   simp_all
  exact zzQ32
 have HF:Hid (¬GoodN ⟨kind,s,hi,t,lo,up,n⟩):=by
  show¬GoodN _
  simp only[GoodN]
  rintro⟨_,_,_,q⟩
  omega
 have hkk:¬(1≤kind∧kind≤16):=by omega
 by_cases k0:1≤kind
 ·have k17:¬kind≤16:=fun q=>hkk ⟨k0,q⟩
  go_wp2_with fail
  go_ret
  exact⟨_,rfl,by simp[HF.out],HW0.2⟩
 ·go_wp2_with fail
  go_ret
  exact⟨_,rfl,by simp[HF.out],HW0.2⟩
set_option maxHeartbeats 1000000 in
theorem l5Arity_core (k:Int) (w:World):Calls Tryz.prog 40 #[.int .i64 k] w fun e w'=>e=.returned (.int .i64 (arity k:Int))∧w'=w:=by
 by_cases h14:k=14
 ·subst h14
  exact zzQ74
 by_cases h15:k=15
 ·subst h15
  exact zzQ74
 by_cases h16:k=16
 ·subst h16
  exact zzQ74
 have z14:(k==14)=false:=by simpa using h14
 have z15:(k==15)=false:=by simpa using h15
 have z16:(k==16)=false:=by simpa using h16
 have H:Hid (arity k=0):=by show arity k=0;unfold arity;rw[if_neg (by omega),if_neg h16]
 go_enter Tryz.func40,Tryz.ntmps40
 go_wp2_with fail
 go_ret
 exact⟨by rw[H.out];rfl,rfl⟩
set_option maxHeartbeats 1000000 in
theorem l5Strength_core (k:Int) (w:World):Calls Tryz.prog 121 #[.int .i64 k] w fun e w'=>e=.returned (.int .i64 (strong k:Int))∧w'=w:=by
 by_cases h15:k=15
 ·subst h15
  go_enter Tryz.func121,Tryz.ntmps121
  go_wp2_with fail
  go_ret
  exact⟨rfl,rfl⟩
 by_cases h14:k=14
 ·subst h14
  go_enter Tryz.func121,Tryz.ntmps121
  go_wp2_with fail
  go_ret
  exact⟨rfl,rfl⟩
 have z14:(k==14)=false:=by simpa using h14
 have z15:(k==15)=false:=by simpa using h15
 have H:Hid (strong k=3):=by show strong k=3;unfold strong;rw[if_neg h15,if_neg h14]
 go_enter Tryz.func121,Tryz.ntmps121
 go_wp2_with fail
 go_ret
 exact⟨by rw[H.out];rfl,rfl⟩
set_option maxHeartbeats 1000000 in
theorem l5Wrapped_core (op:Int) (i:Nat) (kid:Int) (w:World) (hop:¬op=16):Calls Tryz.prog 92 #[.int .i64 op,.int .i64 (i:Int),.int .i64 kid] w fun e w'=>e=.returned (.bool (level op i kid))∧w'=w:=by
 have zop:(op==16)=false:=by simpa using hop
 by_cases hi:i=0
 ·subst hi
  have HL:Hid (level op 0 kid=decide (strong kid<strong op)):=by
   show level op 0 kid=_
   unfold level;simp[hop]
  exact zzQ66
 ·have zi:((i:Int)==0)=false:=by simpa using hi
  have HL:Hid (level op i kid=decide (strong kid≤strong op)):=by
   show level op i kid=_
   unfold level;simp[hop,hi]
  exact zzQ66
structure Win (w:World) (b off cap:Nat) (xs:List Nd):Prop where
 at_:NdsAt w b off xs
 lt:b<w.heap.size
 len:xs.length≤cap
 cap:cap≤9223372036854775807
 sm:xs.length≤281474976710656
theorem Win.below {w w':World} {b off cap:Nat} {xs:List Nd} (h:Win w b off cap xs) (hb:Below w.heap.size w w'):Win w' b off cap xs:=
 ⟨h.at_.below hb h.lt,by have:=hb.size;have:=h.lt;omega,h.len,h.cap,h.sm⟩
theorem Win.kind {w:World} {b off cap:Nat} {xs:List Nd} (h:Win w b off cap xs) {i:Nat} {e:Nd} (he:xs[i]?=some e):w.cell? ⟨b,off+i*7,none⟩=some (.int .i64 e.kind):=(h.at_ i e he).1
set_option maxHeartbeats 1000000 in
theorem l5Top_core {w:World} {b off cap:Nat} {xs:List Nd} {e:Nd} (h:Win w b off cap (xs++ [e])):Calls Tryz.prog 90 #[.slice (some ⟨b,off,none⟩) (xs.length+1) cap] w fun r w'=>r=.returned (.int .i64 e.kind)∧w'=w:=by
 have hk:=h.kind (i:=xs.length) (e:=e) (by simp)
 obtain⟨n,hn⟩:=qE xs.length
 have h1:=h.len
 have h2:=h.cap
 rw[List.length_append,List.length_singleton]at h1
 rw[←hn]at hk h1⊢
 clear h hn
 go_enter Tryz.func90,Tryz.ntmps90
 go_wp2_with fail
 go_ret
 exact⟨rfl,rfl⟩
def FromPost (xs:List Nd) (w:World) (r:Ending) (w':World):Prop:=w'=w∧((∃i:Nat,r=.returned (.int .i64 (i:Int))∧i≤xs.length∧IsT 1 (xs.drop i))∨(r=.returned (.int .i64 (-1))∧∀j,j≤xs.length→¬IsT 1 (xs.drop j)))
set_option maxHeartbeats 2000000 in
theorem l5From_core {w:World} {b off cap:Nat} {xs:List Nd} (h:Win w b off cap xs):Calls Tryz.prog 89 #[.slice (some ⟨b,off,none⟩) xs.length cap] w (FromPost xs w):=by
 have HW:Hid (Win w b off cap xs):=h
 have h1:=h.len
 have h2:=h.cap
 have h3:=h.sm
 obtain⟨n,hn⟩:=qE xs.length
 have HN:Hid (n=xs.length):=hn
 rw[←hn]at h1 h3⊢
 clear h hn
 go_enter Tryz.func89,Tryz.ntmps89
 go_wp2_with fail
 go_loopw[3,4] (fun nv iv wr=>∃(i m:Nat),iv=.int .i64 (i:Int)∧nv=.int .i64 (m:Int)∧i≤n∧m≤1+3*(n-i)∧Sc m (xs.drop i)∧wr=w) (fun _ iv _=>(intOf iv).toNat)
 case atStart=>exact⟨n,1,rfl,rfl,Nat.le_refl _,by omega,by rw[HN.out,List.drop_length];exact .nil,rfl⟩
 case round=>
  obtain⟨i,m,rfl,rfl,hi,hm,hS,rfl⟩:=hrel
  have HS:Hid (Sc m (xs.drop i)):=hS
  clear hS
  by_cases hm0:m=0
  ·subst hm0
   go_wp2_with fail
   go_ret
   refine⟨rfl,.inl ⟨i,rfl,by have:=HN.out;omega,?_⟩⟩
   have:=HS.tree (pre:= [])
   exact this.1 .nil
  ·obtain⟨m',rfl⟩:∃m',m=m'+1:=⟨m-1,by omega⟩
   have zm:(0:Int)<(m':Int)+1:=by omega
   by_cases hi0:i=0
   ·subst hi0
    go_wp2_with fail
    go_ret
    exact⟨rfl,.inr ⟨rfl,fun j hj=>sc_none HS.out j (Nat.zero_le _) hj⟩⟩
   ·obtain⟨i',rfl⟩:∃i',i=i'+1:=⟨i-1,by omega⟩
    obtain⟨e,he⟩:∃e,xs[i']?=some e:=⟨_,List.getElem?_eq_getElem (by have:=HN.out;omega)⟩
    have hk:=HW.kind he
    have hlt:i'<xs.length:=by have:=HN.out;omega
    have HS2:Hid (Sc (m'+arity e.kind) (xs.drop i')):=by
     show Sc _ _
     rw[List.drop_eq_getElem_cons hlt,show xs[i']=e from Option.some.inj ((List.getElem?_eq_getElem hlt).symm.trans he)]
     exact .cons e HS.out
    have ha:=arity_le e.kind
    have zi:¬(i':Int)<0:=by omega
    clear he hlt
    go_wp2_with fail
    refine(l5Arity_core e.kind _).mono ?_
    rintro r w2 ⟨rfl,hw2⟩
    rw[hw2]
    clear hw2
    go_wp2_with fail
    go_roundw
    case rel=>exact⟨i',m'+arity e.kind,by go_num,by go_num,by omega,by omega,HS2.out,by first|rfl|trivial⟩
    case measure=>simp[intOf]<;>omega
set_option maxHeartbeats 2000000 in
theorem l5Tree_core {w:World} {b off cap:Nat} {xs:List Nd} (h:Win w b off cap xs):Calls Tryz.prog 48 #[.slice (some ⟨b,off,none⟩) xs.length cap] w fun r w'=>w'=w∧((r=.returned (.bool true)∧IsT 1 xs)∨(r=.returned (.bool false)∧¬IsT 1 xs)):=by
 have HW:Hid (Win w b off cap xs):=h
 have h1:=h.len
 have h2:=h.cap
 have h3:=h.sm
 obtain⟨n,hn⟩:=qE xs.length
 have HN:Hid (n=xs.length):=hn
 have HF:Hid (Calls Tryz.prog 89 #[.slice (some ⟨b,off,none⟩) n cap] w (FromPost xs w)):=by
  rw[hn];exact l5From_core h
 rw[←hn]at h1 h3⊢
 clear h hn
 by_cases hn0:n=0
 ·subst hn0
  have HE:Hid (¬IsT 1 xs):=fun q=>by
   have:=q.len
   have:=HN.out
   omega
  go_enter Tryz.func48,Tryz.ntmps48
  go_wp2_with fail
  go_ret
  exact⟨rfl,.inr ⟨rfl,HE.out⟩⟩
 ·have zn:(0:Int)<(n:Int):=by omega
  go_enter Tryz.func48,Tryz.ntmps48
  go_wp2_with fail
  refine HF.mono ?_
  rintro r w2 ⟨hw2,(⟨i,rfl,hi,hT⟩|⟨rfl,hT⟩)⟩
  ·rw[hw2]
   clear hw2
   have HT:Hid (i≤xs.length∧IsT 1 (xs.drop i)):=⟨hi,hT⟩
   clear hi hT
   by_cases hi0:i=0
   ·subst hi0
    go_wp2_with fail
    go_ret
    exact⟨rfl,.inl ⟨rfl,by simpa using HT.2⟩⟩
   ·have zi:((i:Int)==0)=false:=by simpa using hi0
    go_wp2_with fail
    go_ret
    refine⟨rfl,.inr ⟨rfl,fun q=>hi0 ?_⟩⟩
    exact(tree_one (xs:=xs) (i:=0) (j:=i) (by simpa using q) HT.2 (Nat.zero_le _) HT.1).symm
  ·rw[hw2]
   clear hw2
   have HT:Hid (¬IsT 1 xs):=fun q=>hT 0 (Nat.zero_le _) (by simpa using q)
   clear hT
   go_wp2_with fail
   go_ret
   exact⟨rfl,.inr ⟨rfl,HT.out⟩⟩
def OwnV (w:World) (base g cp:Nat) (us:List Value):Prop:=w.ownsRow base 30 1 (.slice (some ⟨g,0,none⟩) us.length cp) us.length us
theorem OwnV.lt {w:World} {base g cp:Nat} {us:List Value} (h:OwnV w base g cp us):base≤g∧g<w.heap.size:=World.ownsRow.lt h g rfl
theorem OwnV.below {w w':World} {base g cp:Nat} {us:List Value} (h:OwnV w base g cp us) (hb:Below w.heap.size w w'):OwnV w' base g cp us:=own_chg h (Chg.of_below hb) (S:=fun _=>False) (fun k q z=>z)
theorem OwnV.cell {w:World} {base g cp:Nat} {us:List Value} (h:OwnV w base g cp us) {j:Nat} {v:Value} (hv:us[j]?=some v):w.cell? ⟨g,j,none⟩=some v:=by
 have hj:=(List.getElem?_eq_some_iff.1 hv).1
 rw[World.ownsRow.cellAt h j (by omega),hv]
theorem ownV_new (w:World) {base:Nat} (hb:base≤w.heap.size):OwnV (w.alloc (Obj.cells #[] 30)) base w.heap.size 0 []:=
 World.ownsRow_made w #[] 0 hb (Nat.zero_le _) (by simp)
theorem ownV_one (w:World) {base:Nat} (hb:base≤w.heap.size) (v:Value):OwnV (w.alloc (Obj.cells #[v] 30)) base w.heap.size 1 [v]:=
 World.ownsRow_lit w #[v] 1 hb (by decide) rfl
theorem Tryz.infoNds:(Tryz.prog.info? 30).map (fun i=>(i.zero,i.size,i.bytes))=some (some (.slice none 0 0),1,24):=by kernel_rfl
theorem wpList_append_nds {ops:Array Oper} {rest:List Oper} {oo:Oper} {a:Act} {Q:Exit→Act→World→Prop} (w:World) (hgd:oo.guard=none) (s x:Operand)
  (ho:oo.op=.call {callee:=.builtin .append,args:=#[s,x],argTypes:=#[124,124]})
  (base gq cp n b m cx:Nat) (us vs:List Value) (hs:a.eval s=.slice (some ⟨gq,0,none⟩) n cp) (hx:a.eval x=.slice (some ⟨b,0,none⟩) m cx) (hn:n=us.length) (hm:m=vs.length) (hO:OwnV w base gq cp us)
  (hc:∀(j:Nat) v,vs[j]?=some v→w.cell? ⟨b,j,none⟩=some v) (hy:∀v∈vs,v.oneCell'=true) (hlen:us.length+vs.length≤1000) (hbase:base≤w.heap.size)
  (h:∀g' cp' w',OwnV w' base g' cp' (us++vs)→w.grownBy w' (some gq)→(g'=gq∨g'=w.heap.size)→wpList Tryz.prog ops Q rest (a.put oo.dst (.slice (some ⟨g',0,none⟩) (n+m) cp')) w'):wpList Tryz.prog ops Q (oo::rest) a w:=by
 subst hn hm
 obtain⟨i,hi,hz0,hz1,hz2⟩:=info_parts Tryz.infoNds
 refine wpList_append_own_at w hgd s x 124 ho base 30 i _ 1 24 Tryz.underlying124 hi hz0 hz1 hz2 rfl (by decide) (.slice (some ⟨gq,0,none⟩) us.length cp) us.length us hs hO ⟨b,0,none⟩ vs.length cx vs hx (by simp) ?_ hy ?_ ?_ hbase ?_
 ·intro j u hu
  rw[Addr.add_mid,Nat.zero_add];exact hc j u hu
 ·unfold maxLen;omega
 ·omega
 ·intro v' w' hO' hgr hnil hat
  rcases hO'.2 with⟨h0,_⟩|⟨g',cap',cur,hv,_,_,hn,hcap,_,_⟩
  ·have:=(hnil.1 h0).1
   cases this
  ·subst hv
   refine h g' cap' w' ?_ hgr ?_
   ·unfold OwnV
    rw[List.length_append]
    exact hO'
   ·simp[Value.ownBlock]at hat
    exact hat
def kidVs (b:Nat):Nat→Nat→List (List Nd)→List Value
 |_,_,[]=> []
 |o,cap,k::ks=>.slice (some ⟨b,o,none⟩) k.length cap::kidVs b (o+k.length*7) (cap-k.length) ks
theorem kidVs_len (b:Nat):∀(o cap:Nat) (ks:List (List Nd)),(kidVs b o cap ks).length=ks.length
 |_,_,[]=>rfl
 |o,cap,k::ks=>by simp[kidVs,kidVs_len]
theorem kidVs_one (b:Nat):∀(o cap:Nat) (ks:List (List Nd)),∀v∈kidVs b o cap ks,v.oneCell'=true
 |_,_,[],v,h=>by cases h
 |o,cap,k::ks,v,h=>by
  rcases List.mem_cons.1 h with rfl|h
  ·rfl
  ·exact kidVs_one b _ _ ks v h
theorem NdsAt.part {w:World} {b o:Nat} {xs ys:List Nd} (h:NdsAt w b o (xs++ys)):NdsAt w b o xs∧NdsAt w b (o+xs.length*7) ys:=by
 refine⟨fun i e he=>h i e (by rw[List.getElem?_append_left (List.getElem?_eq_some_iff.1 he).1];exact he),fun i e he=>?_⟩
 have:=h (xs.length+i) e (by rw[List.getElem?_append_right (by omega),Nat.add_sub_cancel_left];exact he)
 rw[Nat.add_mul,←Nat.add_assoc]at this
 exact this
theorem kidVs_nth {w:World} {b:Nat}:∀{ks:List (List Nd)} {o cap:Nat} {rest:List Nd},Win w b o cap (ks.flatten++rest)→∀{j:Nat} {k:List Nd},ks[j]?=some k→∃o' cap',(kidVs b o cap ks)[j]?=some (.slice (some ⟨b,o',none⟩) k.length cap')∧Win w b o' cap' k
 | [],_,_,_,_,j,k,h=>by simp at h
 |a::ks,o,cap,rest,hW,j,k,h=>by
  simp only[List.flatten_cons,List.append_assoc]at hW
  have hp:=hW.at_.part
  have hl:=hW.len
  have hc:=hW.cap
  have hs:=hW.sm
  simp only[List.length_append]at hl hs
  cases j with
  |zero=>
   simp at h
   subst h
   exact⟨o,cap,rfl,hp.1,hW.lt,by omega,hc,by omega⟩
  |succ j=>
   simp at h
   exact kidVs_nth (ks:=ks) (o:=o+a.length*7) (cap:=cap-a.length) (rest:=rest) ⟨hp.2,hW.lt,by simp only[List.length_append];omega,by omega,by simp only[List.length_append];omega⟩ h
structure KiJ (w:World) (b o cap:Nat) (pre suf:List (List Nd)) (g cp:Nat) (wr:World):Prop where
 own:OwnV wr w.heap.size g cp (kidVs b (o+pre.flatten.length*7) (cap-pre.flatten.length) suf)
 below:Below w.heap.size w wr
set_option maxHeartbeats 4000000 in
theorem l5Kids_core {w:World} {b o cap:Nat} {ks:List (List Nd)} {e:Nd} (h:Win w b o cap (ks.flatten++ [e])) (hk:ks.length=arity e.kind) (hT:∀k∈ks,IsT 1 k):
  Calls Tryz.prog 91 #[.slice (some ⟨b,o,none⟩) (ks.flatten.length+1) cap] w fun r w'=>∃g cp,r=.returned (.slice (some ⟨g,0,none⟩) ks.length cp)∧OwnV w' w.heap.size g cp (kidVs b o cap ks)∧Below w.heap.size w w':=by
 have HW:Hid (Win w b o cap (ks.flatten++ [e])∧∀k∈ks,IsT 1 k):=⟨h,hT⟩
 have hkind:=h.kind (i:=ks.flatten.length) (e:=e) (by simp)
 have h1:=h.len
 have h2:=h.cap
 have h3:=h.sm
 obtain⟨n,hn⟩:=qE ks.flatten.length
 have HN:Hid (n=ks.flatten.length):=hn
 rw[List.length_append,List.length_singleton]at h1 h3
 rw[←hn]at hkind h1 h3⊢
 have ha:=arity_le e.kind
 have HA:Hid (ks.length=arity e.kind):=hk
 obtain⟨W0,hW0⟩:=qE (w.alloc (Obj.cells #[] 30):World)
 have HW0:Hid (KiJ w b o cap ks [] w.heap.size 0 W0):=by
  rw[hW0];exact⟨ownV_new w (Nat.le_refl _),qB⟩
 have hkind0:W0.cell? ⟨b,o+n*7,none⟩=some (.int .i64 e.kind):=by
  rw[(Chg.of_below HW0.below (S:=fun _=>False)).cell (p:=⟨b,o+n*7,none⟩) h.lt (fun q=>q)];exact hkind
 obtain⟨a,hak⟩:=qE (arity e.kind)
 have HAr:Hid (Calls Tryz.prog 40 #[.int .i64 e.kind] W0 fun r w'=>r=.returned (.int .i64 (a:Int))∧w'=W0):=by
  rw[hak];exact l5Arity_core e.kind W0
 have HAk:Hid (ks.length=a):=by rw[hak];exact hk
 rw[hk,←hak]
 rw[←hak]at ha
 clear h hn hT hk hkind HA hak
 go_enter Tryz.func91,Tryz.ntmps91
 go_upto_region 3 with fail
 rw[←hW0]
 clear hW0
 go_wp2_with fail
 refine HAr.mono ?_
 rintro r w1 ⟨rfl,hw1⟩
 rw[hw1]
 clear hw1 hkind0 HAr
 go_wp2_with fail
 go_loopw[3,4,5] (fun rv ov kv wr=>∃(c m g cp:Nat) (pre suf:List (List Nd)),ks=pre++suf∧pre.length=c∧suf.length+c=a∧m=pre.flatten.length∧m≤n∧kv=.int .i64 (c:Int)∧rv=.slice (some ⟨b,o,none⟩) m cap∧ov=.slice (some ⟨g,0,none⟩) suf.length cp∧KiJ w b o cap pre suf g cp wr) (fun _ _ kv _=>(intOf kv).toNat)
 case atStart=>exact⟨a,n,_,0,ks,[],by simp,HAk.out,by simp,HN.out,Nat.le_refl _,rfl,rfl,rfl,HW0.out⟩
 case round=>
  obtain⟨c,m,g,cp,pre,suf,hks,hpl,hsl,hm,hmn,rfl,rfl,rfl,hJ⟩:=hrel
  have HJ:Hid (KiJ w b o cap pre suf g cp wr∧ks=pre++suf∧m=pre.flatten.length∧pre.length=c):=⟨hJ,hks,hm,hpl⟩
  have hgl:=hJ.own.lt
  have hsz:=hJ.below.size
  clear hJ hks hm hpl HW0
  obtain⟨q,hq⟩:=qE suf.length
  have HQ:Hid (q=suf.length):=hq
  rw[←hq]at hsl⊢
  clear hq
  by_cases hc0:c=0
  ·subst hc0
   have HF:Hid (pre= []∧q=a):=⟨List.length_eq_zero_iff.1 HJ.2.2.2,by omega⟩
   go_wp2_with fail
   go_ret
   have hp:=HF.1
   have hj:=HJ.1.own
   have hs:=HJ.2.1
   rw[hp]at hj hs
   simp at hj hs
   refine⟨g,cp,by rw[←HF.2];rfl,by rw[hs];exact hj,HJ.1.below⟩
  ·obtain⟨c',rfl⟩:∃c',c=c'+1:=⟨c-1,by omega⟩
   have zc:(0:Int)<(c':Int)+1:=by omega
   obtain⟨pre',k,hpre⟩:∃pre' k,pre=pre'++ [k]:=by
    rcases List.eq_nil_or_concat pre with h|⟨p',k,h⟩
    ·have:=HJ.2.2.2;rw[h]at this;simp at this
    ·exact⟨p',k,by rw[h,List.concat_eq_append]⟩
   obtain⟨m',hm'⟩:=qE pre'.flatten.length
   have hmm:m=m'+k.length:=by rw[HJ.2.2.1,hpre,hm'];simp
   have hkT:IsT 1 k:=HW.2 k (by rw[HJ.2.1,hpre];simp)
   have hk1:=hkT.len
   have hwin:Win wr b o cap pre.flatten:=by
    have hw:=HW.1
    rw[HJ.2.1]at hw
    simp only[List.flatten_append,List.append_assoc]at hw
    have h8:=hw.len
    have h9:=hw.sm
    simp only[List.length_append]at h8 h9
    exact Win.below ⟨hw.at_.part.1,hw.lt,by omega,hw.cap,by omega⟩ HJ.1.below
   have HC:Hid (Calls Tryz.prog 89 #[.slice (some ⟨b,o,none⟩) m cap] wr fun r w'=>r=.returned (.int .i64 (m':Int))∧w'=wr):=by
    have hf:=l5From_core hwin
    rw[←HJ.2.2.1]at hf
    refine hf.mono ?_
    have hdrop:pre.flatten.drop m'=k:=by rw[hpre,hm'];simp
    rintro r w2 ⟨hw2,(⟨i,rfl,hi,hTi⟩|⟨rfl,hTi⟩)⟩
    ·refine⟨?_,hw2⟩
     have hml:m'≤pre.flatten.length:=by rw[hpre,hm'];simp
     have:i=m':=by
      rcases Nat.le_total i m' with hle|hle
      ·exact tree_one hTi (by rw[hdrop];exact hkT) hle hml
      ·exact(tree_one (by rw[hdrop];exact hkT) hTi hle hi).symm
     rw[this]
    ·exact absurd (by rw[hdrop];exact hkT) (hTi m' (by rw[hpre,hm'];simp))
   have HP:Hid (pre=pre'++ [k]∧m'=pre'.flatten.length∧IsT 1 k∧m=m'+k.length):=⟨hpre,hm',hkT,hmm⟩
   have hmle:m'≤m:=by omega
   have z1:(m':Int)≤(m:Int):=by omega
   have z2:(m:Int)≤(cap:Int):=by omega
   have z3:(m':Int)≤(cap:Int):=by omega
   clear hwin hkT hpre hm' hmm hk1
   go_wp2_with fail
   refine HC.mono ?_
   rintro r w2 ⟨rfl,hw2⟩
   rw[hw2]
   clear hw2 HC
   obtain⟨W5,hW5⟩:=qE (wr.alloc (Obj.cells #[.slice (some ⟨b,o+m'*7,none⟩) (m-m') (cap-m')] 30):World)
   have hb5:Below wr.heap.size wr W5:=by rw[hW5];exact qB
   have hz5:W5.heap.size=wr.heap.size+1:=by rw[hW5];simp
   have HW5:Hid (OwnV W5 w.heap.size wr.heap.size 1 [.slice (some ⟨b,o+m'*7,none⟩) (m-m') (cap-m')]∧OwnV W5 w.heap.size g cp (kidVs b (o+pre.flatten.length*7) (cap-pre.flatten.length) suf)∧Below w.heap.size w W5):=by
    refine⟨?_,HJ.1.own.below hb5,HJ.1.below.trans (hb5.mono hsz)⟩
    rw[hW5];exact ownV_one wr hsz _
   go_wp2_with (at_builtin;rw[←hW5];refine wpList_append_nds _ rfl _ _ rfl w.heap.size wr.heap.size 1 1 g q cp [.slice (some ⟨b,o+m'*7,none⟩) (m-m') (cap-m')] (kidVs b (o+pre.flatten.length*7) (cap-pre.flatten.length) suf) rfl rfl rfl ?hm ?hO ?hc ?hy ?hl ?hb ?_)
   case hm=>rw[kidVs_len];exact HQ.out
   case hO=>exact HW5.1
   case hc=>exact fun j v hv=>HW5.2.1.cell hv
   case hy=>exact kidVs_one _ _ _ _
   case hl=>rw[kidVs_len,←HQ.out];simp;omega
   case hb=>omega
   intro g' cp' w' hO' hgr hat
   rw[←hW5]at hgr
   have HJ6:Hid (KiJ w b o cap pre' (k::suf) g' cp' w'∧ks=pre'++(k::suf)∧pre'.length=c'∧(k::suf).length=q+1):=by
    have hP:=HP.out
    refine⟨⟨?_,HW5.2.2.grown hgr (by omega) (fun j hj=>by cases hj;omega)⟩,by rw[HJ.2.1,hP.1];simp,?_,by rw[HQ.out];rfl⟩
    ·have e1:(List.map List.length pre).sum=m'+k.length:=by rw[←List.length_flatten,←HJ.2.2.1];exact hP.2.2.2
     rw[e1]at hO'
     have e2:m-m'=k.length:=by omega
     rw[e2]at hO'
     have e3:o+(m'+k.length)*7=o+m'*7+k.length*7:=by omega
     have e4:cap-(m'+k.length)=cap-m'-k.length:=by omega
     rw[e3,e4]at hO'
     rw[←hP.2.1]
     exact hO'
    ·have:=HJ.2.2.2
     rw[hP.1]at this
     simpa using this
   clear hO' hgr hat hW5 hb5
   go_wp2_with fail
   go_roundw
   case rel=>exact⟨c',m',g',cp',pre',k::suf,HJ6.2.1,HJ6.2.2.1,by have:=HJ6.2.2.2;omega,HP.2.1,by omega,by go_num,rfl,by rw[HJ6.2.2.2];go_num,HJ6.1⟩
   case measure=>simp[intOf]<;>omega
variable (G:Nd→Bool)
def NestC (n:Nat):Prop:=∀(w:World) (b o cap:Nat) (xs:List Nd) (s:Shape),xs.length≤n→Win w b o cap xs→ShT G [s] xs→Calls Tryz.prog 49 #[.slice (some ⟨b,o,none⟩) xs.length cap] w fun r w'=>r=.returned (.int .i64 (s.nest:Int))∧Below w.heap.size w w'
theorem nestFrom_step (op:Int) {os:List Shape} {j a:Nat} {o:Shape} (h:os[j]?=some o):nestFrom op j a (os.drop j)=nestFrom op (j+1) (max a (o.nest+if level op j o.kind then 1 else 0)) (os.drop (j+1)):=by
 exact zzQ69
structure NeJ (w:World) (b o cap:Nat) (ks:List (List Nd)) (g cp:Nat) (wr:World):Prop where
 own:OwnV wr w.heap.size g cp (kidVs b o cap ks)
 below:Below w.heap.size w wr
theorem NeJ.move {w:World} {b o cap:Nat} {ks:List (List Nd)} {g cp:Nat} {wr w':World} (h:NeJ w b o cap ks g cp wr) (hb:Below wr.heap.size wr w'):NeJ w b o cap ks g cp w':=⟨h.own.below hb,h.below.trans (hb.mono h.below.size)⟩
set_option maxHeartbeats 4000000 in
theorem nest_of {n:Nat} (H:NestC G n):NestC G (n+1):=by
 intro w b o cap xs s hn hW hS
 obtain⟨ys,e,os,rfl,hal,hS2,hs⟩:=ShT.inv G hS
 obtain⟨ks,rfl,hK⟩:=ShT.kids G hS2
 have hlen:=Kids.length G hK
 have HF:Hid (Win w b o cap (ks.flatten++ [e])∧Kids G os ks∧s=shapeM G e os∧os.length=ks.length∧ks.flatten.length≤n∧NestC G n):=⟨hW,hK,hs,hlen,by simp at hn;rw[List.length_flatten];omega,H⟩
 have hk3:=arity_le e.kind
 obtain⟨a3,ha3⟩:=qE ks.length
 have HA:Hid (a3=ks.length):=ha3
 have hle:a3≤3:=by omega
 have hcap:=hW.cap
 have hsm:ks.flatten.length+1≤281474976710656:=by have:=hW.sm;rw[List.length_append,List.length_singleton]at this;exact this
 have hbig:ks.flatten.length+1≤cap:=by have:=hW.len;rw[List.length_append,List.length_singleton]at this;exact this
 have HT:Hid (Calls Tryz.prog 90 #[.slice (some ⟨b,o,none⟩) (ks.flatten.length+1) cap] w fun r w'=>r=.returned (.int .i64 e.kind)∧w'=w):=l5Top_core hW
 have HKs:Hid (Calls Tryz.prog 91 #[.slice (some ⟨b,o,none⟩) (ks.flatten.length+1) cap] w fun r w'=>∃g cp,r=.returned (.slice (some ⟨g,0,none⟩) a3 cp)∧OwnV w' w.heap.size g cp (kidVs b o cap ks)∧Below w.heap.size w w'):=by
  rw[ha3];exact l5Kids_core hW (by omega) (Kids.tree G hK)
 have HB:Hid (∀o∈os,o.nest≤281474976710656):=fun o' ho=>by
  obtain⟨k,hk,h3⟩:=kid_len G hK ho
  have h4:=len_flat hk
  have h5:=nest_len G _ (Nat.le_refl _) h3
  omega
 have HSn:Hid (nestFrom e.kind 0 0 os=s.nest):=by show _=_;rw[hs];rfl
 rw[List.length_append,List.length_singleton]
 obtain⟨m,hm⟩:=qE ks.flatten.length
 rw[←hm]at HT HKs hbig hsm⊢
 obtain⟨sn,hsn⟩:=qE s.nest
 have HSn2:Hid (nestFrom e.kind 0 0 os=sn):=by rw[hsn];exact HSn
 rw[←hsn]
 clear hW hS hS2 hK hs hal hlen H ha3 hm hn hsn HSn hk3
 go_enter Tryz.func49,Tryz.ntmps49
 go_wp2_with fail
 refine HT.mono ?_
 rintro r w1 ⟨rfl,hw1⟩
 rw[hw1]
 clear hw1 HT
 go_wp2_with fail
 refine HKs.mono ?_
 rintro r w1 ⟨g,cp,rfl,hO,hb1⟩
 have HW1:Hid (NeJ w b o cap ks g cp w1):=⟨hO,hb1⟩
 clear hO hb1 HKs
 go_wp2_with fail
 go_loopw[5,6] (fun mv iv wr=>∃(j a:Nat),iv=.int .i64 (j:Int)∧mv=.int .i64 (a:Int)∧j≤a3∧a≤999999999999999∧nestFrom e.kind j a (os.drop j)=sn∧NeJ w b o cap ks g cp wr) (fun _ iv _=>a3-(intOf iv).toNat)
 case atStart=>exact⟨0,0,rfl,rfl,Nat.zero_le _,by omega,HSn2.out,HW1.out⟩
 case round=>
  obtain⟨j,a,rfl,rfl,hj,ha,hN,hJ⟩:=hrel
  have HJ:Hid (nestFrom e.kind j a (os.drop j)=sn∧NeJ w b o cap ks g cp wr):=⟨hN,hJ⟩
  have hgl:=hJ.own.lt
  have hsz:=hJ.below.size
  clear hN hJ HW1 HSn2
  by_cases hlt:j<a3
  ·have zj:(j:Int)<(a3:Int):=by omega
   obtain⟨k,hk⟩:∃k,ks[j]?=some k:=⟨_,List.getElem?_eq_getElem (by have:=HA.out;omega)⟩
   obtain⟨os1,ho1,hS1⟩:=Kids.nth G HF.2.1 hk
   obtain⟨o',cap',hv,hWk⟩:=kidVs_nth HF.1 hk
   have hc:=HJ.2.own.cell hv
   have hkn:k.length≤n:=by have:=len_flat (List.mem_of_getElem? hk);have:=HF.2.2.2.2.1;omega
   have hWr:=hWk.below HJ.2.below
   have HCall:Hid (Calls Tryz.prog 49 #[.slice (some ⟨b,o',none⟩) k.length cap'] wr fun r w'=>r=.returned (.int .i64 (os1.nest:Int))∧Below wr.heap.size wr w'):=HF.2.2.2.2.2 wr b o' cap' k os1 hkn hWr hS1
   obtain⟨ky,ke,ko,rfl,_,_,hko⟩:=ShT.inv G hS1
   have hkk:os1.kind=ke.kind:=by rw[hko];rfl
   have HTop:Hid (∀w2,Below wr.heap.size wr w2→Calls Tryz.prog 90 #[.slice (some ⟨b,o',none⟩) (ky++ [ke]).length cap'] w2 fun r w'=>r=.returned (.int .i64 os1.kind)∧w'=w2):=fun w2 hb2=>by
    have:=l5Top_core (hWr.below hb2)
    rw[List.length_append,List.length_singleton,hkk]
    exact this
   have hnb:=HB.out os1 (List.mem_of_getElem? ho1)
   have HStep:Hid (nestFrom e.kind (j+1) (max a (os1.nest+if level e.kind j os1.kind then 1 else 0)) (os.drop (j+1))=sn):=by
    show _=_
    rw[←nestFrom_step e.kind ho1];exact HJ.1
   obtain⟨kl,hkl⟩:=qE ((ky++ [ke]).length)
   rw[←hkl]at hc HCall HTop
   clear hk ho1 hS1 hv hWk hkn hWr hko hkk hkl
   go_wp2_with fail
   refine HCall.mono ?_
   rintro r w2 ⟨rfl,hb2⟩
   have HJ2:Hid (NeJ w b o cap ks g cp w2):=HJ.2.move hb2
   have hc2:w2.cell? ⟨g,j,none⟩=some (.slice (some ⟨b,o',none⟩) kl cap'):=by
    rw[(Chg.of_below hb2 (S:=fun _=>False)).cell (p:=⟨g,j,none⟩) hgl.2 (fun q=>q)];exact hc
   have HTop2:Hid (Calls Tryz.prog 90 #[.slice (some ⟨b,o',none⟩) kl cap'] w2 fun r w'=>r=.returned (.int .i64 os1.kind)∧w'=w2):=HTop.out w2 hb2
   clear hc hb2 HTop HCall
   have fin:∀(x:Nat),x=os1.nest+(if level e.kind j os1.kind then 1 else 0)→x≤281474976710657→Hid (∀y:Nat,y=max a x→nestFrom e.kind (j+1) y (os.drop (j+1))=sn):=fun x hx _ y hy=>by
    rw[hy,hx];exact HStep.out
   by_cases h16:e.kind=16
   ·have hlv:level e.kind j os1.kind=true:=by unfold level;rw[h16];rfl
    rw[hlv]at fin
    have HFin:=fin (os1.nest+1) rfl (by omega)
    have z16:(e.kind==16)=true:=by simpa using h16
    clear fin hlv h16
    exact zzQ29
   ·have z16:(e.kind==16)=false:=by simpa using h16
    go_wp2_with fail
    refine HTop2.mono ?_
    rintro r w3 ⟨rfl,hw3⟩
    rw[hw3]
    clear hw3 HTop2
    go_wp2_with fail
    refine(l5Wrapped_core e.kind j os1.kind _ h16).mono ?_
    rintro r w3 ⟨rfl,hw3⟩
    rw[hw3]
    clear hw3
    cases hlv:level e.kind j os1.kind
    ·rw[hlv]at fin
     have HFin:=fin os1.nest rfl (by omega)
     clear fin hlv
     by_cases hgt:a<os1.nest
     ·have zg:(a:Int)<(os1.nest:Int):=by omega
      go_wp2_with fail
      go_roundw
      case rel=>exact⟨j+1,os1.nest,by go_num,rfl,by omega,by omega,HFin.out _ (by omega),HJ2.out⟩
      case measure=>simp[intOf];omega
     ·have zg:¬(a:Int)<(os1.nest:Int):=by omega
      go_wp2_with fail
      go_roundw
      case rel=>exact⟨j+1,a,by go_num,rfl,by omega,by omega,HFin.out _ (by omega),HJ2.out⟩
      case measure=>simp[intOf];omega
    ·rw[hlv]at fin
     have HFin:=fin (os1.nest+1) rfl (by omega)
     clear fin hlv
     exact zzQ29
  ·have zj:¬(j:Int)<(a3:Int):=by omega
   have hd:a=sn:=by
    have:=HJ.1
    rw[List.drop_eq_nil_of_le (by have:=HA.out;have:=HF.2.2.2.1;omega)]at this
    exact this
   subst hd
   go_wp2_with fail
   go_ret
   exact⟨rfl,HJ.2.below⟩
theorem nest_all:∀n,NestC G n
 |0=>fun w b o cap xs s hn hW hS=>by
  obtain⟨ys,e,os,rfl,_⟩:=ShT.inv G hS
  simp at hn
 |n+1=>nest_of G (nest_all n)
theorem Tryz.cellsNd:Tryz.prog.cellsOf 86=7:=by kernel_rfl
theorem list7 {α:Type} {cs:List α} (h:cs.length=7):∃c0 c1 c2 c3 c4 c5 c6,cs= [c0,c1,c2,c3,c4,c5,c6]:=by
 match cs,h with
 | [c0,c1,c2,c3,c4,c5,c6],_=>exact⟨c0,c1,c2,c3,c4,c5,c6,rfl⟩
theorem nd_of_trod {H:Type} {enc:TypeId×Value→H} {w:World} {base:Nat} {spare:Nat→Bool} {held:Bool} {fuel:Nat} {cs:List Value} {x:DataW H×List MemPlace}
  (h:DataW.trod enc Tryz.prog w base spare held fuel 86 cs=some x):∃e:Nd,e.ok∧cs=e.seven:=by
 obtain⟨xs,n,_,_,hl,hlen,hf⟩:=DataW.trod_struct Tryz.underlying86 h
 rw[Tryz.cellsNd]at hl
 obtain⟨c0,c1,c2,c3,c4,c5,c6,rfl⟩:=list7 hl
 obtain⟨x0,x1,x2,x3,x4,x5,x6,rfl⟩:=list7 (cs:=xs) hlen
 have h0:=hf 0 _ rfl
 have h1:=hf 1 _ rfl
 have h2:=hf 2 _ rfl
 have h3:=hf 3 _ rfl
 have h4:=hf 4 _ rfl
 have h5:=hf 5 _ rfl
 have h6:=hf 6 _ rfl
 simp[Tryz.cellsStr,Tryz.cellsU64,Tryz.cellsI64,Tryz.cellsBool]at h0 h1 h2 h3 h4 h5 h6
 obtain⟨a0,e0,_,b0⟩:=DataW.trod_int Tryz.underlying2 h0
 obtain⟨a1,e1,_,b1⟩:=DataW.trod_string Tryz.underlying9 h1
 obtain⟨a2,e2,_⟩:=DataW.trod_bool Tryz.underlying4 h2
 obtain⟨a3,e3,_,b3⟩:=DataW.trod_string Tryz.underlying9 h3
 obtain⟨a4,e4,_,b4⟩:=DataW.trod_int Tryz.underlying49 h4
 obtain⟨a5,e5,_,b5⟩:=DataW.trod_int Tryz.underlying49 h5
 obtain⟨a6,e6,_,b6⟩:=DataW.trod_int Tryz.underlying2 h6
 simp only[List.cons.injEq,and_true]at e0 e1 e2 e3 e4 e5 e6
 exact⟨⟨a0,a1,a2,a3,a4,a5,a6⟩,⟨b1,b3,b0,b4,b5,b6⟩,by rw[e0,e1,e2,e3,e4,e5,e6]⟩
def InNds (w:World) (v:Value) (es:List Nd):Prop:=
 (∃a cap,v=.slice a 0 cap∧es= [])∨
 ∃b off cap,v=.slice (some ⟨b,off,none⟩) es.length cap∧NdsAt w b off es∧b<w.heap.size∧es.length≤cap∧cap≤maxLen
theorem InNds.below {B:Nat} {w w':World} {v:Value} {es:List Nd} (h:InNds w v es) (hb:Below B w w') (hB:w.heap.size≤B):InNds w' v es:=by
 exact zzQ77
theorem nds_of_trod {H:Type} {enc:TypeId×Value→H} {w:World} {base:Nat} {held:Bool} {fuel:Nat} {v:Value} {x:DataW H×List MemPlace}
  (h:DataW.trod enc Tryz.prog w base (fun _=>true) held fuel 22 [v]=some x):∃es:List Nd,InNds w v es∧∀e∈es,e.ok:=by
 rcases open_slice Tryz.underlying22 h with⟨hcs,_⟩|⟨a,len,cap,m,n,D,Pl,hcs,hba,hl,hm,hmm,_,hel⟩
 ·simp only[List.cons.injEq,and_true]at hcs
  exact⟨[],.inl ⟨none,0,hcs,rfl⟩,by simp⟩
 ·simp only[List.cons.injEq,and_true]at hcs
  subst hcs
  rw[if_pos rfl]at hmm
  subst hmm
  have hel6:∀i,i<m→∃cs',w.cells? base (a.add (i*7)) 7=some cs'∧DataW.trod enc Tryz.prog w base (fun _=>true) held n 86 cs'=some (D i,Pl i):=fun i hi=>by
   have:=hel i hi
   rw[Tryz.cellsNd]at this
   exact this
  clear hel
  have HM:Hid (m≤maxLen):=hm
  clear hm
  by_cases h0:len=0
  ·subst h0;exact⟨[],.inl ⟨_,_,rfl,rfl⟩,by simp⟩
  ·obtain⟨b,off,spot⟩:=a
   have hspot:spot=none:=by
    obtain⟨cs',hc,_⟩:=hel6 0 (by omega)
    obtain⟨_,hlen,hget⟩:=World.cells?_some hc
    have h1:=hget 0 (by omega)
    have h2:(w.cell? ((Addr.add ⟨b,off,spot⟩ (0*7)).add 0)).isSome=true:=by rw[h1];simp;omega
    obtain⟨u,hu⟩:=Option.isSome_iff_exists.1 h2
    simpa [Addr.add]using World.cell?_spot hu
   subst hspot
   obtain⟨es,hes,hp⟩:=list_of_forall (P:=fun i (e:Nd)=>e.ok∧(w.cell? ⟨b,off+i*7,none⟩=some (.int .i64 e.kind)∧w.cell? ⟨b,off+i*7+1,none⟩=some (.string e.s)∧w.cell? ⟨b,off+i*7+2,none⟩=some (.bool e.hi)∧w.cell? ⟨b,off+i*7+3,none⟩=some (.string e.t)∧w.cell? ⟨b,off+i*7+4,none⟩=some (.int .u64 e.lo)∧w.cell? ⟨b,off+i*7+5,none⟩=some (.int .u64 e.up)∧w.cell? ⟨b,off+i*7+6,none⟩=some (.int .i64 e.n))) len (fun i hi=>by
    obtain⟨cs',hc,ht⟩:=hel6 i (by omega)
    obtain⟨e,ok,rfl⟩:=nd_of_trod ht
    obtain⟨_,hlen,hget⟩:=World.cells?_some hc
    refine⟨e,ok,?_,?_,?_,?_,?_,?_,?_⟩
    ·simpa [Addr.add_mid]using hget 0 (by omega)
    ·simpa [Addr.add_mid]using hget 1 (by omega)
    ·simpa [Addr.add_mid]using hget 2 (by omega)
    ·simpa [Addr.add_mid]using hget 3 (by omega)
    ·simpa [Addr.add_mid]using hget 4 (by omega)
    ·simpa [Addr.add_mid]using hget 5 (by omega)
    ·simpa [Addr.add_mid]using hget 6 (by omega))
   exact zzQ47
set_option maxHeartbeats 400000 in
theorem szNodeS_core (b off cap:Nat) (es:List Nd) (left:Int) (w:World) (hE:NdsAt w b off es) (hok:∀e∈es,e.ok) (hB:b<w.heap.size) (hlen:es.length≤cap) (hcap:cap≤maxLen) (h0:0≤left) (h1:left≤2^40):
  Calls Tryz.prog 22 #[.slice (some ⟨b,off,none⟩) es.length cap,.int .i64 left] w fun e w'=>
   ∃x,e=.returned (.int .i64 x)∧(x= -1∨(0≤x∧x+es.length≤left))∧Below w.heap.size w w':=by
 have HE:Hid (NdsAt w b off es):=hE
 have HO:Hid (∀e∈es,e.ok):=hok
 clear hE hok
 unfold maxLen at hcap
 by_cases hle:left<es.length
 ·have hle':left-es.length<0:=by omega
  go_enter Tryz.func22,Tryz.ntmps22
  go_wp2
  go_ret
  exact⟨_,rfl,.inl rfl,Below.refl _ _⟩
 have hle':0≤left-es.length:=by omega
 go_enter Tryz.func22,Tryz.ntmps22
 go_wp2
 go_loopw[1,5] (fun l i wr=>∃(k:Nat) (x:Int),k≤es.length∧i=.int .i64 k∧l=.int .i64 x∧0≤x∧x+es.length≤left∧Below w.heap.size w wr) (fun _ i _=>es.length-(intOf i).toNat)
 case atStart=>exact⟨0,_,Nat.zero_le _,rfl,rfl,hle',by omega,Below.refl _ _⟩
 case round=>
  obtain⟨k,x,hk,rfl,rfl,hx0,hx1,hb⟩:=hrel
  by_cases hlt:k<es.length
  ·obtain⟨e,he⟩:∃e,es[k]?=some e:=⟨_,List.getElem?_eq_getElem hlt⟩
   obtain⟨c0,c1,c2,c3,c4,c5,c6⟩:=(HE.below hb hB) k e he
   have ok:=HO.out e (List.mem_of_getElem? he)
   have HK:Hid e.ok:=ok
   clear ok he
   go_wp2_with fail
   refine(szNode_core e _ _ HK.out (by omega) (by omega)).mono ?_
   rintro e w1 ⟨y,rfl,hy,hb1⟩
   have hsz:=hb.size
   have hb2:=hb.trans (hb1.mono hsz)
   clear c0 c1 c2 c3 c4 c5 c6 hb1
   exact zzQ52
  ·go_wp2
   go_ret
   exact⟨_,rfl,.inr ⟨hx0,hx1⟩,hb⟩
set_option maxHeartbeats 400000 in
theorem szNodeS_zero (a:Option Addr) (cap:Nat) (left:Int) (w:World) (h0:0≤left) (h1:left≤2^40):
  Calls Tryz.prog 22 #[.slice a 0 cap,.int .i64 left] w fun e w'=>e=.returned (.int .i64 left)∧Below w.heap.size w w':=by
 go_enter Tryz.func22,Tryz.ntmps22
 exact zzQ54
theorem szNodeS_any (v:Value) (es:List Nd) (left:Int) (w:World) (h:InNds w v es) (hok:∀e∈es,e.ok) (h0:0≤left) (h1:left≤2^40):
  Calls Tryz.prog 22 #[v,.int .i64 left] w fun e w'=>
   ∃x,e=.returned (.int .i64 x)∧(x= -1∨(0≤x∧x+es.length≤left))∧Below w.heap.size w w':=by
 rcases h with⟨a,cap,rfl,rfl⟩|⟨b,off,cap,rfl,hE,hlt,g1,g2⟩
 ·exact(szNodeS_zero a cap left w h0 h1).mono fun e w' ⟨he,hb⟩=>⟨left,he,.inr ⟨h0,by simp⟩,hb⟩
 ·exact szNodeS_core b off cap es left w hE hok hlt g1 g2 h0 h1
theorem made_zeroN (n:Nat):(madeCells #[.int .i64 0,.string ⟨#[]⟩,.bool false,.string ⟨#[]⟩,.int .u64 0,.int .u64 0,.int .i64 0] (n*7)).toList=cellsN (List.replicate n zeroN):=by
 apply List.ext_getElem?
 intro j
 by_cases hj:j<n*7
 ·have h:=cellsN_get (List.replicate n zeroN) (j/7) zeroN (by rw[List.getElem?_replicate,if_pos (by omega)]) (j%7) (Nat.mod_lt _ (by omega))
  rw[show j/7*7+j%7=j by omega]at h
  rw[h]
  have h6:j%7<7:=Nat.mod_lt _ (by omega)
  simp[madeCells,hj]
  generalize j%7=m at*
  match m,h6 with
  |0,_=>rfl
  |1,_=>rfl
  |2,_=>rfl
  |3,_=>rfl
  |4,_=>rfl
  |5,_=>rfl
  |6,_=>rfl
 ·have h1:(cellsN (List.replicate n zeroN)).length≤j:=by rw[length_cellsN,List.length_replicate];omega
  rw[List.getElem?_eq_none h1]
  simp[madeCells,hj]
set_option maxHeartbeats 400000 in
theorem toNodeS_core (b off cap:Nat) (es:List Nd) (w:World) (hE:NdsAt w b off es) (hB:b<w.heap.size) (hlen:es.length≤cap) (hcap:cap≤maxLen) (h1:es.length≤1048576):
  Calls Tryz.prog 26 #[.slice (some ⟨b,off,none⟩) es.length cap] w fun e w'=>
   ∃g,e=.returned (.slice (some ⟨g,0,none⟩) es.length es.length)∧OwnNd w' w.heap.size g es.length es∧Below w.heap.size w w':=by
 have HE:Hid (NdsAt w b off es):=hE
 clear hE
 unfold maxLen at hcap
 obtain⟨i,hi,hz0,hz1,hz2⟩:=info_parts Tryz.infoNd
 have HI:Hid (Tryz.prog.info? 75=some i∧i.zero=some (.agg #[.int .i64 0,.string ⟨#[]⟩,.bool false,.string ⟨#[]⟩,.int .u64 0,.int .u64 0,.int .i64 0])∧i.size=7∧i.bytes=72):=⟨hi,hz0,hz1,hz2⟩
 clear hi hz0 hz1 hz2
 go_enter Tryz.func26,Tryz.ntmps26
 go_wp2_with (at_make;refine wpList_make_full _ rfl _ _ 30 rfl w.heap.size 75 i _ 7 Tryz.underlying30 HI.1 HI.2.1 HI.2.2.1 _ _ _ _ es.length rfl rfl ?_ ?_ ?hb ?hm ?hs ?_)
 case hb=>rw[HI.2.2.2];omega
 case hm=>unfold maxLen;omega
 case hs=>exact Nat.le_refl _
 ·rfl
 ·rfl
 intro w1 hown hgrow
 rw[made_zeroN]at hown
 have hown1:OwnNd w1 w.heap.size w.heap.size es.length (List.replicate es.length zeroN):=by
  unfold OwnNd;rw[List.length_replicate];exact hown
 have HW:Hid (OwnNd w1 w.heap.size w.heap.size es.length (List.replicate es.length zeroN)):=hown1
 have hb1:Below w.heap.size w w1:=(Below.refl _ _).grown hgrow (Nat.le_refl _) (fun k hk=>by cases hk)
 clear hown hown1 hgrow
 go_wp2_with fail
 go_loopw[4] (fun i wr=>∃(k:Nat) (fs:List Nd),k≤es.length∧i=.int .i64 k∧fs.length=es.length∧fs.take k=es.take k∧OwnNd wr w.heap.size w.heap.size es.length fs∧Below w.heap.size w wr) (fun i _=>es.length-(intOf i).toNat)
 case atStart=>exact⟨0,_,Nat.zero_le _,rfl,List.length_replicate ..,rfl,HW.out,hb1⟩
 case round=>
  obtain⟨k,fs,hk,rfl,hfl,hft,hO,hb⟩:=hrel
  have HO:Hid (fs.length=es.length∧fs.take k=es.take k∧OwnNd wr w.heap.size w.heap.size es.length fs):=⟨hfl,hft,hO⟩
  clear hfl hft hO
  by_cases hlt:k<es.length
  ·obtain⟨e,he⟩:∃e,es[k]?=some e:=⟨_,List.getElem?_eq_getElem hlt⟩
   obtain⟨c0,c1,c2,c3,c4,c5,c6⟩:=(HE.below hb hB) k e he
   have HG:Hid (es[k]?=some e):=he
   clear he
   go_wp2_with fail
   refine(toNode_core e _).mono ?_
   rintro e' w2 ⟨rfl,hb2⟩
   have hO2:=(HO.2.2).below hb2 (HO.2.2).lt.2
   obtain⟨f,hf⟩:∃f,fs[k]?=some f:=⟨_,List.getElem?_eq_getElem (by rw[HO.1];exact hlt)⟩
   obtain⟨d0,d1,d2,d3,d4,d5,d6⟩:=hO2.at k f hf
   simp only[Nat.zero_add]at d0 d1 d2 d3 d4 d5 d6
   have hfz:=fun j=>World.ownsRow.frozenAt hO2 j
   have HO2:Hid (OwnNd w2 w.heap.size w.heap.size es.length fs∧fs[k]?=some f):=⟨hO2,hf⟩
   clear hO2 hf c0 c1 c2 c3 c4 c5 c6
   go_wp2_with fail
   go_roundw
   case rel=>exact⟨k+1,fs.set k e,by omega,by go_num,by rw[List.length_set];exact HO.1,takeN_succ HO.2.1 HO.1 HG.out,HO2.1.put k f e HO2.2,below_put7 (hb.trans (hb2.mono hb.size)) (Nat.le_refl _) _ _ _ _ _ _ _ _ _ _ _ _ _ _⟩
   case measure=>simp[intOf];omega
  ·exact zzQ59
set_option maxHeartbeats 400000 in
theorem toNodeS_zero (a:Option Addr) (cap:Nat) (w:World):
  Calls Tryz.prog 26 #[.slice a 0 cap] w fun e w'=>
   ∃g,e=.returned (.slice (some ⟨g,0,none⟩) 0 0)∧OwnNd w' w.heap.size g 0 []∧Below w.heap.size w w':=by
 obtain⟨i,hi,hz0,hz1,hz2⟩:=info_parts Tryz.infoNd
 have HI:Hid (Tryz.prog.info? 75=some i∧i.zero=some (.agg #[.int .i64 0,.string ⟨#[]⟩,.bool false,.string ⟨#[]⟩,.int .u64 0,.int .u64 0,.int .i64 0])∧i.size=7∧i.bytes=72):=⟨hi,hz0,hz1,hz2⟩
 clear hi hz0 hz1 hz2
 go_enter Tryz.func26,Tryz.ntmps26
 go_wp2_with (at_make;refine wpList_make_full _ rfl _ _ 30 rfl w.heap.size 75 i _ 7 Tryz.underlying30 HI.1 HI.2.1 HI.2.2.1 _ _ _ _ 0 rfl rfl ?_ ?_ ?hb ?hm ?hs ?_)
 case hb=>rw[HI.2.2.2];omega
 case hm=>unfold maxLen;omega
 case hs=>exact Nat.le_refl _
 ·rfl
 ·rfl
 intro w1 hown hgrow
 have HW:Hid (OwnNd w1 w.heap.size w.heap.size 0 []):=by
  have h0:=made_zeroN 0
  rw[Nat.zero_mul]at h0
  rw[h0]at hown
  exact hown
 exact zzQ45
theorem toNodeS_any (v:Value) (es:List Nd) (w:World) (h:InNds w v es) (h1:es.length≤1048576):
  Calls Tryz.prog 26 #[v] w fun e w'=>
   ∃g,e=.returned (.slice (some ⟨g,0,none⟩) es.length es.length)∧OwnNd w' w.heap.size g es.length es∧Below w.heap.size w w':=by
 rcases h with⟨a,cap,rfl,rfl⟩|⟨b,off,cap,rfl,hE,hlt,g1,g2⟩
 ·exact toNodeS_zero a cap w
 ·exact toNodeS_core b off cap es w hE hlt g1 g2 h1
set_option maxHeartbeats 1000000 in
theorem eqNodeS_same (b off cap b' off' cap':Nat) (es:List Nd) (w:World) (hE:NdsAt w b off es) (hE':NdsAt w b' off' es) (hB:b<w.heap.size) (hB':b'<w.heap.size) (hlen:es.length≤maxLen):
  Calls Tryz.prog 34 #[.slice (some ⟨b,off,none⟩) es.length cap,.slice (some ⟨b',off',none⟩) es.length cap'] w fun e w'=>
   e=.returned (.bool true)∧Below w.heap.size w w':=by
 have HE:Hid (NdsAt w b off es∧NdsAt w b' off' es):=⟨hE,hE'⟩
 clear hE hE'
 unfold maxLen at hlen
 go_enter Tryz.func34,Tryz.ntmps34
 go_wp2
 go_loopw[5] (fun i wr=>∃(k:Nat),k≤es.length∧i=.int .i64 k∧Below w.heap.size w wr) (fun i _=>es.length-(intOf i).toNat)
 case atStart=>exact⟨0,Nat.zero_le _,rfl,Below.refl _ _⟩
 case round=>
  obtain⟨k,hk,rfl,hb⟩:=hrel
  have hs2:=hb.size
  by_cases hlt:k<es.length
  ·obtain⟨e,he⟩:∃e,es[k]?=some e:=⟨_,List.getElem?_eq_getElem hlt⟩
   obtain⟨c0,c1,c2,c3,c4,c5,c6⟩:=HE.1.below hb hB k e he
   obtain⟨d0,d1,d2,d3,d4,d5,d6⟩:=HE.2.below hb hB' k e he
   clear he
   go_upto_region 6 with fail
   go_cut[26] (fun s wx=>s=.bool false∧Below w.heap.size w wx)
   case first=>
    have z2:(k:Int)<(es.length:Int):=by omega
    go_region_with (go_at_call 76;refine(eqNode_same e _).mono ?_;rintro e' w' ⟨rfl,hbb⟩)
    all_goals go_wp2_with fail
    all_goals go_meet
    all_goals exact⟨rfl,hb.drew.trans (hbb.mono (by simp;omega))⟩
   case rest=>
   obtain⟨rfl,h3⟩:=hcut
   clear c0 c1 c2 c3 c4 c5 c6 d0 d1 d2 d3 d4 d5 d6
   go_wp2_with fail
   go_roundw
   case rel=>exact⟨k+1,by omega,by go_num,h3⟩
   case measure=>simp[intOf];omega
  ·go_wp2_with fail
   go_ret
   exact⟨rfl,hb⟩
set_option maxHeartbeats 400000 in
theorem eqNodeS_zero (a a':Option Addr) (cap cap':Nat) (w:World):
  Calls Tryz.prog 34 #[.slice a 0 cap,.slice a' 0 cap'] w fun e w'=>e=.returned (.bool true)∧Below w.heap.size w w':=by
 go_enter Tryz.func34,Tryz.ntmps34
 go_wp2
 go_loopw[5] (fun i wr=>i=.int .i64 0∧Below w.heap.size w wr) (fun i _=>0)
 case atStart=>exact⟨rfl,Below.refl _ _⟩
 case round=>
  obtain⟨rfl,hb⟩:=hrel
  go_wp2_with fail
  go_ret
  exact⟨rfl,hb⟩
theorem InNds.own {w:World} {base g n cap:Nat} {es:List Nd} (h:OwnNd w base g cap es) (hn:n=es.length):InNds w (.slice (some ⟨g,0,none⟩) n cap) es:=by
 subst hn
 exact .inr ⟨g,0,cap,rfl,h.at,h.lt.2,h.caps.1,h.caps.2⟩
theorem eqNodeS_any (u u':Value) (es:List Nd) (w:World) (h:InNds w u es) (h':InNds w u' es):
  Calls Tryz.prog 34 #[u,u'] w fun e w'=>e=.returned (.bool true)∧Below w.heap.size w w':=by
 rcases h with⟨a,cap,rfl,rfl⟩|⟨b,off,cap,rfl,hE,hlt,g1,g2⟩
 ·rcases h' with⟨a',cap',rfl,_⟩|⟨b',off',cap',rfl,hE',hlt',g1',g2'⟩
  ·exact eqNodeS_zero a a' cap cap' w
  ·exact eqNodeS_zero a _ cap cap' w
 ·rcases h' with⟨a',cap',rfl,rfl⟩|⟨b',off',cap',rfl,hE',hlt',g1',g2'⟩
  ·exact eqNodeS_zero _ a' cap cap' w
  ·exact eqNodeS_same b off cap b' off' cap' es w hE hE' hlt hlt' (Nat.le_trans g1 g2)
set_option maxRecDepth 100000 in
theorem open_filter {H:Type} {enc:TypeId×Value→H} {w:World} {base b0:Nat} {held:Bool} {r:Reach} {v:Value} {d:DataW H} {p:List MemPlace}
  (hv:Value.okWide Tryz.prog w r b0 24 v) (h:DataW.Trod enc Tryz.prog w base (fun _=>true) held 24 v d p):
  ∃(u:Value) (es:List Nd),v=.agg #[u]∧InNds w u es∧∀e∈es,e.ok:=by
 obtain⟨cs,rfl,hsz⟩:=okWide_struct Tryz.underlying24 hv
 obtain⟨fuel,hf⟩:=h
 obtain⟨y0,n,_,hl,h0⟩:=trod_struct1 Tryz.underlying24 hf
 have h1:Tryz.prog.cellsOf 24=1:=by kernel_rfl
 have h2:Tryz.prog.cellsOf 22=1:=by kernel_rfl
 rw[h1]at hsz
 obtain⟨l⟩:=cs
 match l,hsz with
 | [u],_=>
   simp[h2,Value.cells]at h0
   obtain⟨es,he,ok⟩:=nds_of_trod h0
   exact⟨u,es,rfl,he,ok⟩
set_option maxHeartbeats 400000 in
theorem szFilter_any (u:Value) (es:List Nd) (left:Int) (w:World) (h:InNds w u es) (hok:∀e∈es,e.ok) (h0:0≤left) (h1:left≤2^40):
  Calls Tryz.prog 5 #[.agg #[u],.int .i64 left] w fun e w'=>
   ∃x,e=.returned (.int .i64 x)∧(x= -1∨(0≤x∧x+es.length≤left))∧Below w.heap.size w w':=by
 have HE:Hid (InNds w u es∧∀e∈es,e.ok):=⟨h,hok⟩
 have hu:u.cells=#[u]:=by
  rcases h with⟨a,cap,rfl,_⟩|⟨b,off,cap,rfl,_⟩<;>rfl
 clear h hok
 go_enter Tryz.func5,Tryz.ntmps5
 go_wp2_with fail
 refine(szNodeS_any u es left _ (HE.1.below (qB) (Nat.le_refl _)) HE.2 h0 h1).mono ?_
 rintro e w1 ⟨x,rfl,hx,hb1⟩
 have k1:Below w.heap.size w w1:=((Below.refl _ _).alloc (Nat.le_refl _) (Obj.cells #[u] 24)).trans (hb1.mono (by simp))
 have HX:Hid (x= -1∨(0≤x∧x+es.length≤left)):=hx
 by_cases hx0:x<0
 ·clear hx
  go_wp2_with fail
  go_ret
  exact⟨_,rfl,.inl rfl,k1⟩
 ·clear hx
  go_wp2_with fail
  go_ret
  exact⟨_,rfl,HX.out,k1⟩
set_option maxHeartbeats 400000 in
theorem toFilter_any (u:Value) (es:List Nd) (w:World) (h:InNds w u es) (h1:es.length≤1048576):
  Calls Tryz.prog 8 #[.agg #[u]] w fun e w'=>
   ∃g,e=.returned (.agg #[.slice (some ⟨g,0,none⟩) es.length es.length])∧OwnNd w' w.heap.size g es.length es∧Below w.heap.size w w':=by
 have HE:Hid (InNds w u es):=h
 have hu:u.cells=#[u]:=by
  rcases h with⟨a,cap,rfl,_⟩|⟨b,off,cap,rfl,_⟩<;>rfl
 clear h
 go_enter Tryz.func8,Tryz.ntmps8
 go_wp2_with fail
 refine(toNodeS_any u es _ (HE.below (((qB).alloc (by simp) _).alloc (by simp;omega) _) (Nat.le_refl _)) h1).mono ?_
 rintro e w1 ⟨g,rfl,hO,hb1⟩
 obtain⟨hc1,hf1⟩:=bcell hb1
 have k1:Below w.heap.size w w1:=((((Below.refl _ _).alloc (Nat.le_refl _) (Obj.cells #[u] 24)).alloc (by simp) (Obj.cells #[.slice none 0 0] 32)).alloc (by simp;omega) (Obj.cells #[.slice none 0 0] 32)).trans (hb1.mono (by simp;omega))
 have HO:Hid (OwnNd w1 (w.heap.size+1+1+1) g es.length es):=by
  show OwnNd w1 (w.heap.size+1+1+1) g es.length es
  simpa using hO
 clear hO
 go_wp2_with fail
 refine bodyPost_ret (v:=.agg #[.slice (some ⟨g,0,none⟩) es.length es.length]) (by simp[results,Tryz.results8,go_sem,hc1]) rfl ⟨g,rfl,?_,?_⟩
 ·exact OwnNd.mono (ownsRow_setCell_below (ownsRow_setCell_below HO.out (by show w.heap.size+1+1<_;omega) _) (by show w.heap.size+1<_;omega) _) (by omega)
 ·exact(k1.setCell (by show w.heap.size≤w.heap.size+1+1;omega) _).setCell (by show w.heap.size≤w.heap.size+1;omega) _
set_option maxHeartbeats 400000 in
theorem eqFilter_any (u u':Value) (es:List Nd) (w:World) (h:InNds w u es) (h':InNds w u' es):
  Calls Tryz.prog 12 #[.agg #[u],.agg #[u']] w fun e w'=>e=.returned (.bool true)∧Below w.heap.size w w':=by
 have HE:Hid (InNds w u es∧InNds w u' es):=⟨h,h'⟩
 have hu:u.cells=#[u]:=by
  rcases h with⟨a,cap,rfl,_⟩|⟨b,off,cap,rfl,_⟩<;>rfl
 have hu':u'.cells=#[u']:=by
  rcases h' with⟨a,cap,rfl,_⟩|⟨b,off,cap,rfl,_⟩<;>rfl
 clear h h'
 go_enter Tryz.func12,Tryz.ntmps12
 go_wp2_with fail
 have k0:Below w.heap.size w ((w.alloc (Obj.cells #[u] 32)).alloc (Obj.cells #[u'] 32)):=(qB).alloc (by simp) _
 refine(eqNodeS_any u u' es _ (HE.1.below k0 (Nat.le_refl _)) (HE.2.below k0 (Nat.le_refl _))).mono ?_
 rintro e w1 ⟨rfl,hb1⟩
 go_wp2_with fail
 go_ret
 exact⟨rfl,k0.trans (hb1.mono (by simp;omega))⟩
end Go.Proofs.YtkidabedcgngcaaGreatDoor
namespace Go.Proofs.YtkidabedcgngcaaGreatDoor
open Go.ChangeShapes Go.WideShapes Go.ChangeAt Go.RowKit Go.Deep
set_option linter.unusedVariables false
set_option linter.unusedSimpArgs false
set_option maxRecDepth 100000
open Classical in
noncomputable def goodB (e:Nd):Bool:=decide (GoodN e)
theorem goodB_iff (e:Nd):goodB e=true↔GoodN e:=by unfold goodB;simp
def GoodF (xs:List Nd):Prop:=xs.length≤200∧∃s,ShT goodB [s] xs∧s.valid=true∧s.nest≤20
theorem goodF_all {xs:List Nd} (h:GoodF xs):∀e∈xs,GoodN e:=by
 obtain⟨_,s,hs,hv,_⟩:=h
 have:=ShT.valid goodB hs
 simp[hv]at this
 exact fun e he=>(goodB_iff e).1 (this e he)
theorem sh_one {xs:List Nd} {s t:Shape} (h:ShT goodB [s] xs) (k:ShT goodB [t] xs):s=t:=by
 have a:=ShT.fold goodB h []
 have b:=ShT.fold goodB k []
 rw[a]at b
 simpa using b
def FltPost (xs:List Nd) (w:World) (r:Ending) (w':World):Prop:=∃b,r=.returned (.bool b)∧(b=true↔GoodF xs)∧Below w.heap.size w w'
structure WdN (w:World) (g o cp:Nat) (xs:List Nd):Prop where
 nds:NdsAt w g o xs
 lt:g<w.heap.size
 caps:xs.length≤cp∧cp≤maxLen
theorem WdN.at {w:World} {g o cp:Nat} {xs:List Nd} (h:WdN w g o cp xs):NdsAt w g o xs:=h.nds
theorem WdN.below {B:Nat} {w w':World} {g o cp:Nat} {xs:List Nd} (h:WdN w g o cp xs) (hb:Below B w w') (hg:g<B):WdN w' g o cp xs:=
 ⟨h.at.below hb hg,by have:=hb.size;have:=h.lt;omega,h.caps⟩
theorem OwnNd.wd {w:World} {base g cp:Nat} {xs:List Nd} (h:OwnNd w base g cp xs):WdN w g 0 cp xs:=⟨h.at,h.lt.2,h.caps⟩
set_option maxHeartbeats 4000000 in
theorem specFilter_win {w:World} {g o cp:Nat} {xs:List Nd} (h:WdN w g o cp xs) (hok:∀e∈xs,e.ok):Calls Tryz.prog 19 #[.agg #[.slice (some ⟨g,o,none⟩) xs.length cp]] w (FltPost xs w):=by
 have HO:Hid (WdN w g o cp xs∧∀e∈xs,e.ok):=⟨h,hok⟩
 have hg:=h.lt
 have hcp:=h.caps
 obtain⟨n,hn⟩:=qE xs.length
 have HN:Hid (n=xs.length):=hn
 rw[←hn]at hcp⊢
 unfold maxLen at hcp
 clear h hok hn
 obtain⟨W0,hW0⟩:=qE (w.alloc (Obj.cells #[.slice (some ⟨g,o,none⟩) n cp] 32):World)
 have HW0:Hid (BoxAt W0 w.heap.size 32 1 w.heap.size [.slice (some ⟨g,o,none⟩) n cp]∧Below w.heap.size w W0):=by
  rw[hW0];exact⟨boxAt_new w _ (Nat.le_refl _) rfl,qB⟩
 have c0:=HW0.1.cell (j:=0) rfl
 have s0:=HW0.2.size
 go_enter Tryz.func19,Tryz.ntmps19
 go_upto_region 1 with fail
 rw[←hW0]
 clear hW0
 by_cases hbig:200<n
 ·exact zzQ67
 have zb:¬(200:Int)<(n:Int):=by omega
 go_wp2_with fail
 clear c0
 go_loopw[3] (fun iv wr=>∃(j:Nat),iv=.int .i64 (j:Int)∧j≤n∧(∀e∈xs.take j,GoodN e)∧BoxAt wr w.heap.size 32 1 w.heap.size [.slice (some ⟨g,o,none⟩) n cp]∧Below w.heap.size w wr) (fun iv _=>n-(intOf iv).toNat)
 case atStart=>exact⟨0,rfl,Nat.zero_le _,by simp,HW0.out⟩
 case round=>
  obtain⟨j,rfl,hj,hG,hB,hb⟩:=hrel
  have HJ:Hid ((∀e∈xs.take j,GoodN e)∧BoxAt wr w.heap.size 32 1 w.heap.size [.slice (some ⟨g,o,none⟩) n cp]∧Below w.heap.size w wr):=⟨hG,hB,hb⟩
  have c0:=hB.cell (j:=0) rfl
  have sr:=hb.size
  clear hG hB hb HW0
  by_cases hlt:j<n
  ·have zj:(j:Int)<(n:Int):=by omega
   obtain⟨e,he⟩:∃e,xs[j]?=some e:=⟨_,List.getElem?_eq_getElem (by have:=HN.out;omega)⟩
   obtain⟨d0,d1,d2,d3,d4,d5,d6⟩:=(HO.1.at.below HJ.2.2 hg) j e he
   have ok:=HO.2 e (List.mem_of_getElem? he)
   have HE:Hid (e.s.size≤maxLen∧e.t.size≤maxLen∧e∈xs∧xs.take (j+1)=xs.take j++ [e]):=⟨ok.s,ok.t,List.mem_of_getElem? he,by rw[List.take_add_one,he];rfl⟩
   clear ok he
   go_wp2_with fail
   refine(good_core e wr HE.1 HE.2.1).mono ?_
   rintro r w2 ⟨b,rfl,hb,hb2⟩
   have HB:Hid (b=true↔GoodN e):=hb
   have HJ2:Hid (BoxAt w2 w.heap.size 32 1 w.heap.size [.slice (some ⟨g,o,none⟩) n cp]∧Below w.heap.size w w2):=⟨HJ.2.1.below hb2,HJ.2.2.trans (hb2.mono sr)⟩
   clear hb hb2 c0 d0 d1 d2 d3 d4 d5 d6
   cases b
   ·have HF:Hid (¬GoodF xs):=fun q=>by
     have:=HB.2 (goodF_all q e HE.2.2.1)
     cases this
    go_wp2_with fail
    go_ret
    exact⟨_,rfl,by simp[HF.out],HJ2.2⟩
   ·go_wp2_with fail
    go_roundw
    case rel=>
     refine⟨j+1,by go_num,by omega,?_,HJ2.1,HJ2.2⟩
     intro e' he'
     rw[HE.2.2.2]at he'
     rcases List.mem_append.1 he' with h|h
     ·exact HJ.1 e' h
     ·simp at h;subst h;exact HB.1 (by first|rfl|trivial)
    case measure=>simp[intOf];omega
  ·have zj:¬(j:Int)<(n:Int):=by omega
   have HA:Hid (∀e∈xs,GoodN e):=by
    have h1:=HJ.1
    rw[List.take_of_length_le (by have:=HN.out;omega)]at h1
    exact h1
   have hWin:Win wr g o cp xs:=⟨HO.1.at.below HJ.2.2 hg,by omega,by rw[←HN.out];exact hcp.1,by omega,by have:=HN.out;omega⟩
   have HT:Hid (Calls Tryz.prog 48 #[.slice (some ⟨g,o,none⟩) n cp] wr fun r w'=>w'=wr∧((r=.returned (.bool true)∧IsT 1 xs)∨(r=.returned (.bool false)∧¬IsT 1 xs))):=by
    rw[HN.out];exact l5Tree_core hWin
   have HNe:Hid (∀s,ShT goodB [s] xs→Calls Tryz.prog 49 #[.slice (some ⟨g,o,none⟩) n cp] wr fun r w'=>r=.returned (.int .i64 (s.nest:Int))∧Below wr.heap.size wr w'):=fun s hs=>by
    rw[HN.out];exact nest_all goodB xs.length wr g o cp xs s (Nat.le_refl _) hWin hs
   clear hWin
   go_wp2_with fail
   refine HT.mono ?_
   rintro r w2 ⟨hw2,(⟨rfl,hT⟩|⟨rfl,hT⟩)⟩
   ·rw[hw2]
    clear hw2
    obtain⟨ss,hl,hs⟩:=IsT.shapes goodB hT
    obtain⟨s,rfl⟩:∃s,ss= [s]:=by
     match ss,hl with
     | [s],_=>exact⟨s,rfl⟩
    have HSh:Hid (ShT goodB [s] xs):=hs
    have HV:Hid (s.valid=true):=by
     show s.valid=true
     have h1:=ShT.valid goodB hs
     have h2:xs.all goodB=true:=List.all_eq_true.2 (fun e he=>(goodB_iff e).2 (HA.out e he))
     rw[h2]at h1
     simpa using h1
    have HF:Hid (GoodF xs↔s.nest≤20):=by
     show GoodF xs↔_
     constructor
     ·rintro⟨_,t,ht,_,hn⟩
      rw[sh_one hs ht];exact hn
     ·intro hn
      exact⟨by have:=HN.out;omega,s,hs,HV.out,hn⟩
    clear hT hl hs
    go_wp2_with fail
    refine(HNe.out s HSh.out).mono ?_
    rintro r w3 ⟨rfl,hb3⟩
    have HB3:Hid (Below w.heap.size w w3):=HJ.2.2.trans (hb3.mono sr)
    clear hb3 c0
    go_wp2_with fail
    go_ret
    exact⟨_,rfl,by rw[HF.out];simp<;>omega,HB3.out⟩
   ·rw[hw2]
    clear hw2
    have HF:Hid (¬GoodF xs):=fun q=>by
     obtain⟨_,s,hs,_⟩:=q
     exact hT hs.tree
    clear hT
    go_wp2_with fail
    go_ret
    exact⟨_,rfl,by simp[HF.out],HJ.2.2⟩
end Go.Proofs.YtkidabedcgngcaaGreatDoor
namespace Go.Proofs.YtkidabedcgngcaaGreatDoor
open Go.ChangeShapes Go.WideShapes Go.ChangeAt Go.RowKit Go.Deep
set_option linter.unusedVariables false
section
variable {T:Type} (V:Nd→List T→T)
inductive TrV:List T→List Nd→Prop
 |nil:TrV [] []
 |snoc {ss os:List T} {xs:List Nd} (n:Nd) (ho:os.length=arity n.kind) (h:TrV (ss++os) xs):TrV (ss++ [V n os]) (xs++ [n])
def stepV (st:List T) (n:Nd):Option (List T):=
 if st.length<arity n.kind then none else some (st.take (st.length-arity n.kind)++ [V n (st.drop (st.length-arity n.kind))])
def foldV (st:List T):List Nd→Option (List T)
 | []=>some st
 |n::ns=>(stepV V st n).bind fun s=>foldV s ns
theorem foldV_append (st:List T) (xs ys:List Nd):foldV V st (xs++ys)=(foldV V st xs).bind (fun s=>foldV V s ys):=by
 induction xs generalizing st with
 |nil=>rfl
 |cons x xs ih=>
  simp only[List.cons_append,foldV]
  cases stepV V st x with
  |none=>rfl
  |some s=>exact ih s
theorem IsT.trv {k:Nat} {xs:List Nd} (h:IsT k xs):∃ss,ss.length=k∧TrV V ss xs:=by
 induction h with
 |nil=>exact⟨[],rfl,.nil⟩
 | @snoc k xs n h ih=>
   obtain⟨ss,hl,hs⟩:=ih
   refine⟨ss.take k++ [V n (ss.drop k)],by simp;omega,.snoc n (by simp;omega) ?_⟩
   rw[List.take_append_drop];exact hs
theorem TrV.tree {ss:List T} {xs:List Nd} (h:TrV V ss xs):IsT ss.length xs:=by
 exact zzQ72
theorem TrV.fold {ss:List T} {xs:List Nd} (h:TrV V ss xs):∀st,foldV V st xs=some (st++ss):=by
 induction h with
 |nil=>intro st;simp[foldV]
 | @snoc ss os xs n ho h ih=>
   intro st
   rw[foldV_append,ih]
   simp only[Option.bind_some,foldV,stepV]
   rw[if_neg (by simp;omega)]
   have hl:(st++(ss++os)).length-arity n.kind=(st++ss).length:=by simp;omega
   rw[hl,←List.append_assoc,List.take_left,List.drop_left,List.append_assoc]
   simp
theorem TrV.one {ss ts:List T} {xs:List Nd} (h:TrV V ss xs) (k:TrV V ts xs):ss=ts:=by
 have a:=h.fold V []
 have b:=k.fold V []
 rw[a]at b
 simpa using b
theorem TrV.split {ss:List T} {xs:List Nd} (h:TrV V ss xs):∀{a b:List T},ss=a++b→∃ys zs,xs=ys++zs∧TrV V a ys∧TrV V b zs:=by
 induction h with
 |nil=>intro a b e;obtain⟨rfl,rfl⟩:a= []∧b= []:=by simpa using e.symm
       exact⟨[],[],rfl,.nil,.nil⟩
 | @snoc ss os xs n ho h ih=>
   intro a b e
   rcases List.eq_nil_or_concat b with rfl|⟨b',z,rfl⟩
   ·simp at e;subst e
    exact⟨xs++ [n],[],by simp,.snoc n ho h,.nil⟩
   ·rw[List.concat_eq_append,←List.append_assoc]at e
    have e2:=List.append_inj' e rfl
    obtain⟨e3,e4⟩:=e2
    simp at e4
    subst e3 e4
    obtain⟨ys,zs,rfl,h1,h2⟩:=ih (a:=a) (b:=b'++os) (by simp)
    refine⟨ys,zs++ [n],by simp,h1,?_⟩
    rw[List.concat_eq_append]
    exact .snoc n ho h2
theorem TrV.inv {s:T} {xs:List Nd} (h:TrV V [s] xs):∃ys n os,xs=ys++ [n]∧os.length=arity n.kind∧TrV V os ys∧s=V n os:=by
 exact zzQ56
inductive KidV:List T→List (List Nd)→Prop
 |nil:KidV [] []
 |cons {o:T} {os:List T} {k:List Nd} {ks:List (List Nd)} (h:TrV V [o] k) (t:KidV os ks):KidV (o::os) (k::ks)
theorem TrV.kids:∀{os:List T} {ys:List Nd},TrV V os ys→∃ks,ys=ks.flatten∧KidV V os ks
 | [],ys,h=>by
   have:=(TrV.tree V h).zero
   subst this
   exact⟨[],rfl,.nil⟩
 |o::os,ys,h=>by
  obtain⟨a,b,rfl,h1,h2⟩:=TrV.split V h (a:= [o]) (b:=os) rfl
  obtain⟨ks,rfl,hk⟩:=TrV.kids h2
  exact⟨a::ks,rfl,.cons h1 hk⟩
theorem KidV.length {os:List T} {ks:List (List Nd)} (h:KidV V os ks):os.length=ks.length:=by
 induction h with
 |nil=>rfl
 |cons _ _ ih=>simp[ih]
theorem KidV.nth {os:List T} {ks:List (List Nd)} (h:KidV V os ks):∀{j:Nat} {k:List Nd},ks[j]?=some k→∃o,os[j]?=some o∧TrV V [o] k:=by
 induction h with
 |nil=>intro j k hk;simp at hk
 |cons h1 _ ih=>
  intro j k hk
  cases j with
  |zero=>simp at hk;subst hk;exact⟨_,rfl,h1⟩
  |succ j=>simp at hk;simpa using ih hk
end
end Go.Proofs.YtkidabedcgngcaaGreatDoor
namespace Go.Proofs.YtkidabedcgngcaaGreatDoor
open Go.ChangeShapes Go.WideShapes Go.ChangeAt Go.RowKit Go.Deep
set_option linter.unusedVariables false
set_option linter.unusedSimpArgs false
set_option maxRecDepth 100000
structure Ix where
 op:Int
 a:Int
 b:Int
 free:Bool
 leaf:Nd
abbrev Ix.v (e:Ix):Value:=.agg #[.int .i64 e.op,.int .i64 e.a,.int .i64 e.b,.bool e.free,.int .i64 e.leaf.kind,.string e.leaf.s,.bool e.leaf.hi,.string e.leaf.t,.int .u64 e.leaf.lo,.int .u64 e.leaf.up,.int .i64 e.leaf.n]
inductive CT where
 |leaf (n:Nd)
 |chain (n:Nd) (a b:CT)
 |inter (n:Nd) (a b:CT)
 |cond (n:Nd) (a b c:CT)
def ctV (n:Nd):List CT→CT
 | [a,b]=>if n.kind=14 then .chain n a b else .inter n a b
 | [a,b,c]=>.cond n a b c
 |_=>.leaf n
def TreeF (xs:List Nd) (t:CT):Prop:=TrV ctV [t] xs
inductive Part:CT→List Nd→Prop
 |leaf (n:Nd) (h:arity n.kind=0):Part (.leaf n) [n]
 |chain (n:Nd) {a b:CT} {ka kb:List Nd} (h:n.kind=14) (ha:TreeF ka a) (hb:TreeF kb b):Part (.chain n a b) (ka++kb++ [n])
 |inter (n:Nd) {a b:CT} {ka kb:List Nd} (h:n.kind=15) (ha:TreeF ka a) (hb:TreeF kb b):Part (.inter n a b) (ka++kb++ [n])
 |cond (n:Nd) {a b c:CT} {ka kb kc:List Nd} (h:n.kind=16) (ha:TreeF ka a) (hb:TreeF kb b) (hc:TreeF kc c):Part (.cond n a b c) (ka++kb++kc++ [n])
theorem kidV_one {T:Type} {V:Nd→List T→T} {os:List T} {ks:List (List Nd)} {j:Nat} {o:T} {k:List Nd} (h:KidV V os ks) (ho:os[j]?=some o) (hk:ks[j]?=some k):TrV V [o] k:=by
 obtain⟨o',h1,h2⟩:=KidV.nth _ h hk
 rw[ho]at h1
 cases h1
 exact h2
theorem TreeF.part {xs:List Nd} {t:CT} (h:TreeF xs t):Part t xs:=by
 obtain⟨ys,n,os,rfl,hl,hT,rfl⟩:=TrV.inv _ h
 obtain⟨ks,rfl,hK⟩:=TrV.kids _ hT
 have hkl:=hK.length
 by_cases h14:n.kind=14
 ·have ha:arity n.kind=2:=by unfold arity;rw[if_pos (.inl h14)]
  rw[ha]at hl
  match os,ks,hl,hkl,hK with
  | [a,b],[ka,kb],_,_,hK=>
    have e1:ctV n [a,b]=.chain n a b:=if_pos h14
    have e2: [ka,kb].flatten++ [n]=ka++kb++ [n]:=by simp
    rw[e1,e2]
    exact .chain n h14 (kidV_one hK (j:=0) rfl rfl) (kidV_one hK (j:=1) rfl rfl)
 ·by_cases h15:n.kind=15
  ·have ha:arity n.kind=2:=by unfold arity;rw[if_pos (.inr h15)]
   rw[ha]at hl
   match os,ks,hl,hkl,hK with
   | [a,b],[ka,kb],_,_,hK=>
     have e1:ctV n [a,b]=.inter n a b:=if_neg h14
     have e2: [ka,kb].flatten++ [n]=ka++kb++ [n]:=by simp
     rw[e1,e2]
     exact .inter n h15 (kidV_one hK (j:=0) rfl rfl) (kidV_one hK (j:=1) rfl rfl)
  ·by_cases h16:n.kind=16
   ·have ha:arity n.kind=3:=by unfold arity;rw[if_neg (by omega),if_pos h16]
    rw[ha]at hl
    match os,ks,hl,hkl,hK with
    | [a,b,c],[ka,kb,kc],_,_,hK=>
      have e2: [ka,kb,kc].flatten++ [n]=ka++kb++kc++ [n]:=by simp
      rw[e2]
      exact .cond n h16 (kidV_one hK (j:=0) rfl rfl) (kidV_one hK (j:=1) rfl rfl) (kidV_one hK (j:=2) rfl rfl)
   ·have ha:arity n.kind=0:=by unfold arity;rw[if_neg (by omega),if_neg h16]
    have hos:os= []:=List.length_eq_zero_iff.1 (by omega)
    have hks:ks= []:=List.length_eq_zero_iff.1 (by omega)
    subst hos;subst hks
    exact .leaf n ha
theorem treeF_one {xs:List Nd} {t u:CT} (h:TreeF xs t) (k:TreeF xs u):t=u:=by
 have:=TrV.one _ h k
 exact(List.cons.inj this).1
theorem treeF_ex {xs:List Nd} (h:IsT 1 xs):∃t,TreeF xs t:=by
 obtain⟨ss,hl,hs⟩:=IsT.trv ctV h
 match ss,hl,hs with
 | [t],_,hs=>exact⟨t,hs⟩
def CT.size:CT→Nat
 | .leaf _=>1
 | .chain _ a b=>a.size+b.size+1
 | .inter _ a b=>a.size+b.size+1
 | .cond _ a b c=>a.size+b.size+c.size+1
theorem part_size (n:Nat):∀{t:CT} {xs:List Nd},xs.length≤n→TreeF xs t→t.size=xs.length:=by
 induction n with
 |zero=>intro t xs hl h;have:=h.part;cases this<;>simp at hl
 |succ n ih=>
  intro t xs hl h
  cases h.part with
  |leaf n h=>rfl
  |chain n h ha hb=>simp only[List.length_append,List.length_singleton]at hl⊢;simp only[CT.size,ih (by omega) ha,ih (by omega) hb]
  |inter n h ha hb=>simp only[List.length_append,List.length_singleton]at hl⊢;simp only[CT.size,ih (by omega) ha,ih (by omega) hb]
  |cond n h ha hb hc=>simp only[List.length_append,List.length_singleton]at hl⊢;simp only[CT.size,ih (by omega) ha,ih (by omega) hb,ih (by omega) hc]
theorem TreeF.size {xs:List Nd} {t:CT} (h:TreeF xs t):t.size=xs.length:=part_size _ (Nat.le_refl _) h
end Go.Proofs.YtkidabedcgngcaaGreatDoor
namespace Go.Proofs.YtkidabedcgngcaaGreatDoor
open Go.ChangeShapes Go.WideShapes Go.ChangeAt Go.RowKit Go.Deep
def cB (a b:ByteArray):Int:=Lib.compareBytes a.data.toList b.data.toList
theorem compareBytes_less:∀a b:List UInt8,Op.bytesLess a b=true→Lib.compareBytes a b= -1
 | [],[]=>by simp[Op.bytesLess]
 | [],_::_=>by simp[Lib.compareBytes]
 |_::_,[]=>by simp[Op.bytesLess]
 |a::x,b::y=>by
  intro h
  simp only[Op.bytesLess,Bool.or_eq_true,decide_eq_true_eq,Bool.and_eq_true,beq_iff_eq]at h
  unfold Lib.compareBytes
  rcases h with h|⟨rfl,h⟩
  ·rw[if_pos h]
  ·have hn:¬a<a:=by simp
   rw[if_neg hn,if_neg hn];exact compareBytes_less x y h
theorem compareBytes_self:∀a:List UInt8,Lib.compareBytes a a=0
 | []=>rfl
 |a::x=>by
  unfold Lib.compareBytes
  have hn:¬a<a:=by simp
  rw[if_neg hn,if_neg hn];exact compareBytes_self x
theorem compareBytes_more:∀a b:List UInt8,Op.bytesLess a b=false→(a==b)=false→Lib.compareBytes a b=1
 | [],[]=>by simp
 | [],_::_=>by simp[Op.bytesLess]
 |_::_,[]=>by simp[Lib.compareBytes]
 |a::x,b::y=>by
  intro h h2
  simp only[Op.bytesLess,Bool.or_eq_false_iff,decide_eq_false_iff_not]at h
  unfold Lib.compareBytes
  rw[if_neg h.1]
  by_cases hb:b<a
  ·rw[if_pos hb]
  ·rw[if_neg hb]
   have hab:a=b:=by
    have h1:=h.1
    rw[UInt8.lt_iff_toNat_lt]at h1 hb
    exact UInt8.toNat_inj.1 (by omega)
   subst hab
   refine compareBytes_more x y ?_ ?_
   ·simpa using h.2
   ·simpa using h2
theorem compareBytes_vals (a b:List UInt8):Lib.compareBytes a b= -1∨Lib.compareBytes a b=0∨Lib.compareBytes a b=1:=by
 cases h:Op.bytesLess a b
 ·cases h2:(a==b)
  ·exact .inr (.inr (compareBytes_more a b h h2))
  ·rw[beq_iff_eq]at h2;subst h2;exact .inr (.inl (compareBytes_self a))
 ·exact .inl (compareBytes_less a b h)
theorem cB_vals (a b:ByteArray):cB a b= -1∨cB a b=0∨cB a b=1:=compareBytes_vals _ _
theorem cB_less {a b:ByteArray} (h:Op.bytesLess a.toList b.toList=true):cB a b= -1:=by
 rw[ByteArray.toList_eq,ByteArray.toList_eq]at h;exact compareBytes_less _ _ h
theorem cB_more {a b:ByteArray} (h:Op.bytesLess a.toList b.toList=false) (h2:(a.toList==b.toList)=false):cB a b=1:=by
 rw[ByteArray.toList_eq,ByteArray.toList_eq]at h h2;exact compareBytes_more _ _ h h2
theorem cB_same {a b:ByteArray} (h2:(a.toList==b.toList)=true):cB a b=0:=by
 rw[ByteArray.toList_eq,ByteArray.toList_eq,beq_iff_eq]at h2;unfold cB;rw[h2];exact compareBytes_self _
def firstOf (a b:Int):Int:=if a=0 then b else a
def kindCmp (k l:Int):Int:=if k=2 then(if l=2 then 0 else-1)else(if l=2 then 1 else 0)
def tsCmp (t u:Int):Int:=if u<t then-1 else if t<u then 1 else 0
def keyCmp (a b:Ent):Int:=firstOf (cB a.row b.row) (firstOf (cB a.fam b.fam) (firstOf (cB a.qual b.qual) (firstOf (kindCmp a.kind b.kind) (tsCmp a.ts b.ts))))
theorem ret_int {k:IntKind} {a b:Int} (h:a=b):Ending.returned (.int k a)=.returned (.int k b):=by rw[h]
set_option maxHeartbeats 400000 in
theorem l1Str_any (a b:ByteArray) (w:World):
  Calls Tryz.prog 123 #[.string a,.string b] w fun e w'=>e=.returned (.int .i64 (cB a b))∧w'=w:=by
 cases h:Op.bytesLess a.toList b.toList
 ·cases h2:(a.toList==b.toList)
  ·have H:Hid (cB a b=1):=cB_more h h2
   exact zzQ70
  ·have H:Hid (cB a b=0):=cB_same h2
   exact zzQ70
 ·have H:Hid (cB a b= -1):=cB_less h
  exact zzQ70
set_option maxHeartbeats 400000 in
theorem l1First_any (a b:Int) (w:World):
  Calls Tryz.prog 122 #[.int .i64 a,.int .i64 b] w fun e w'=>e=.returned (.int .i64 (firstOf a b))∧w'=w:=by
 unfold firstOf
 by_cases h:a=0
 ·have h':(a != 0)=false:=by simp[h]
  rw[if_pos h]
  clear h
  go_enter Tryz.func122,Tryz.ntmps122
  go_wp2
  go_ret
  exact⟨rfl,rfl⟩
 ·have h':(a != 0)=true:=by simp[h]
  rw[if_neg h]
  clear h
  go_enter Tryz.func122,Tryz.ntmps122
  go_wp2
  go_ret
  exact⟨rfl,rfl⟩
set_option maxHeartbeats 1000000 in
set_option maxRecDepth 100000 in
theorem compareString_any (a b:ByteArray) (w:World):
  Calls Tryz.prog 164 #[.string a,.string b] w fun e w'=>e=.returned (.int .i64 (cB a b))∧w'=w:=by
 go_enter Tryz.func164,Tryz.ntmps164
 go_wp2
 rw[run_callFunc_extern Tryz.func172 (by kernel_rfl) (by kernel_rfl) (by kernel_rfl) (e:=Extern.BytealgCompare.compare) (by kernel_rfl),Lib.run_compareString]
 simp only[Result.andThen]
 rw[Oper.upon_value]
 go_wp2
 go_ret
 exact⟨rfl,rfl⟩
set_option maxHeartbeats 400000 in
theorem stringsCompare_any (a b:ByteArray) (w:World):
  Calls Tryz.prog 150 #[.string a,.string b] w fun e w'=>e=.returned (.int .i64 (cB a b))∧w'=w:=by
 go_enter Tryz.func150,Tryz.ntmps150
 go_wp2_with (go_at_call 164;refine(compareString_any _ _ _).mono ?_;rintro e w' ⟨rfl,rfl⟩)
 go_ret
 exact⟨rfl,rfl⟩
set_option maxHeartbeats 400000 in
theorem cmpU64_any (a b:Int) (w:World):
  Calls Tryz.prog 130 #[.int .u64 a,.int .u64 b] w fun e w'=>e=.returned (.int .i64 (tsCmp b a))∧w'=w:=by
 unfold tsCmp
 by_cases h:a<b
 ·rw[if_pos h]
  go_enter Tryz.func130,Tryz.ntmps130
  go_wp2
  go_ret
  exact⟨rfl,rfl⟩
 ·rw[if_neg h]
  by_cases h2:b<a
  ·rw[if_pos h2]
   go_enter Tryz.func130,Tryz.ntmps130
   go_wp2
   go_ret
   exact⟨rfl,rfl⟩
  ·rw[if_neg h2]
   go_enter Tryz.func130,Tryz.ntmps130
   go_wp2
   go_ret
   exact⟨rfl,rfl⟩
def tri (x:Int):Prop:=x= -1∨x=0∨x=1
theorem tri_first {a b:Int} (h:tri a) (k:tri b):tri (firstOf a b):=by
 unfold firstOf;split
 ·exact k
 ·exact h
theorem tri_kind (k l:Int):tri (kindCmp k l):=by
 unfold kindCmp tri;repeat' split
 all_goals omega
theorem tri_ts (k l:Int):tri (tsCmp k l):=by
 unfold tsCmp tri;repeat' split
 all_goals omega
theorem keyCmp_vals (a b:Ent):keyCmp a b= -1∨keyCmp a b=0∨keyCmp a b=1:=
 tri_first (cB_vals _ _) (tri_first (cB_vals _ _) (tri_first (cB_vals _ _) (tri_first (tri_kind _ _) (tri_ts _ _))))
def colCmp (a b:Ent):Int:=firstOf (cB a.row b.row) (firstOf (cB a.fam b.fam) (cB a.qual b.qual))
set_option maxHeartbeats 400000 in
theorem compareColumns_any (a b:Ent) (w:World):
  Calls Tryz.prog 129 #[a.v,b.v] w fun e w'=>e=.returned (.int .i64 (colCmp a b))∧Below w.heap.size w w':=by
 unfold colCmp firstOf Ent.v
 by_cases h1:cB a.row b.row=0
 ·have g1:(cB a.row b.row != 0)=false:=by simp[h1]
  rw[if_pos h1]
  clear h1
  by_cases h2:cB a.fam b.fam=0
  ·have g2:(cB a.fam b.fam != 0)=false:=by simp[h2]
   rw[if_pos h2]
   clear h2
   exact zzQ41
  ·have g2:(cB a.fam b.fam != 0)=true:=by simp[h2]
   rw[if_neg h2]
   clear h2
   exact zzQ41
 ·have g1:(cB a.row b.row != 0)=true:=by simp[h1]
  rw[if_neg h1]
  clear h1
  exact zzQ41
theorem firstOf_assoc (a b c:Int):firstOf (firstOf a b) c=firstOf a (firstOf b c):=by
 unfold firstOf
 by_cases h:a=0
 ·simp[h]
 ·simp[h]
theorem keyCmp_col (a b:Ent):keyCmp a b=firstOf (colCmp a b) (firstOf (kindCmp a.kind b.kind) (tsCmp a.ts b.ts)):=by
 unfold keyCmp colCmp
 rw[firstOf_assoc,firstOf_assoc]
theorem keyCmp_ne {a b:Ent} (h:¬colCmp a b=0):keyCmp a b=colCmp a b:=by
 rw[keyCmp_col];unfold firstOf;rw[if_neg h]
theorem keyCmp_del1 {a b:Ent} (h:colCmp a b=0) (h1:a.kind=2) (h2:¬b.kind=2):keyCmp a b= -1:=by
 rw[keyCmp_col];unfold firstOf kindCmp;simp[h,h1,h2]
theorem keyCmp_del2 {a b:Ent} (h:colCmp a b=0) (h1:¬a.kind=2) (h2:b.kind=2):keyCmp a b=1:=by
 rw[keyCmp_col];unfold firstOf kindCmp;simp[h,h1,h2]
theorem keyCmp_ts {a b:Ent} (h:colCmp a b=0) (h1:(a.kind=2)↔(b.kind=2)):keyCmp a b=tsCmp a.ts b.ts:=by
 rw[keyCmp_col];unfold firstOf kindCmp
 by_cases h2:a.kind=2
 ·simp[h,h2,h1.1 h2]
 ·have h3:¬b.kind=2:=fun x=>h2 (h1.2 x)
  simp[h,h2,h3]
set_option maxHeartbeats 400000 in
theorem compare_any (a b:Ent) (w:World):
  Calls Tryz.prog 101 #[a.v,b.v] w fun e w'=>e=.returned (.int .i64 (keyCmp a b))∧Below w.heap.size w w':=by
 by_cases h1:colCmp a b=0
 ·have g1:(colCmp a b != 0)=false:=by simp[h1]
  by_cases ha:a.kind=2
  ·have ga:(a.kind==2)=true:=by simp[ha]
   by_cases hb:b.kind=2
   ·have gb:(b.kind==2)=true:=by simp[hb]
    exact zzQ24
   ·have gb:(b.kind==2)=false:=by simp[hb]
    have H:Hid (keyCmp a b= -1):=keyCmp_del1 h1 ha hb
    clear h1 ha hb
    go_enter Tryz.func101,Tryz.ntmps101
    go_wp2_with fail
    refine(compareColumns_any a b _).mono ?_
    rintro e w1 ⟨rfl,hb1⟩
    obtain⟨hc1,hf1⟩:=bcell hb1
    have hz1:w.heap.size+1<w1.heap.size:=by have:=hb1.size;simp at this;omega
    exact zzQ30
  ·have ga:(a.kind==2)=false:=by simp[ha]
   by_cases hb:b.kind=2
   ·have gb:(b.kind==2)=true:=by simp[hb]
    have H:Hid (keyCmp a b=1):=keyCmp_del2 h1 ha hb
    clear h1 ha hb
    go_enter Tryz.func101,Tryz.ntmps101
    go_wp2_with fail
    refine(compareColumns_any a b _).mono ?_
    rintro e w1 ⟨rfl,hb1⟩
    obtain⟨hc1,hf1⟩:=bcell hb1
    have hz1:w.heap.size+1<w1.heap.size:=by have:=hb1.size;simp at this;omega
    exact zzQ30
   ·have gb:(b.kind==2)=false:=by simp[hb]
    exact zzQ24
 ·have g1:(colCmp a b != 0)=true:=by simp[h1]
  have H:Hid (keyCmp a b=colCmp a b):=keyCmp_ne h1
  clear h1
  go_enter Tryz.func101,Tryz.ntmps101
  go_wp2_with fail
  refine(compareColumns_any a b _).mono ?_
  rintro e w1 ⟨rfl,hb1⟩
  exact zzQ30
def kt (a b:Ent) (K T:Int):Prop:=keyCmp a b=firstOf (cB a.row b.row) (firstOf (cB a.fam b.fam) (firstOf (cB a.qual b.qual) (firstOf K T)))
theorem kt_of {a b:Ent} {K T:Int} (hk:kindCmp a.kind b.kind=K) (ht:tsCmp a.ts b.ts=T):kt a b K T:=by
 unfold kt keyCmp;rw[hk,ht]
theorem kinds (a b:Ent):
  ((a.kind==2)=true∧(a.kind != 2)=false∧(b.kind==2)=true∧(b.kind != 2)=false∧kindCmp a.kind b.kind=0)∨
  ((a.kind==2)=true∧(a.kind != 2)=false∧(b.kind==2)=false∧(b.kind != 2)=true∧kindCmp a.kind b.kind= -1)∨
  ((a.kind==2)=false∧(a.kind != 2)=true∧(b.kind==2)=true∧(b.kind != 2)=false∧kindCmp a.kind b.kind=1)∨
  ((a.kind==2)=false∧(a.kind != 2)=true∧(b.kind==2)=false∧(b.kind != 2)=true∧kindCmp a.kind b.kind=0):=by
 unfold kindCmp
 by_cases ha:a.kind=2<;>by_cases hb:b.kind=2<;>simp[ha,hb]
theorem tss (a b:Ent):
  (b.ts<a.ts∧¬a.ts<b.ts∧tsCmp a.ts b.ts= -1)∨(¬b.ts<a.ts∧a.ts<b.ts∧tsCmp a.ts b.ts=1)∨(¬b.ts<a.ts∧¬a.ts<b.ts∧tsCmp a.ts b.ts=0):=by
 unfold tsCmp
 by_cases h1:b.ts<a.ts
 ·exact .inl ⟨h1,by omega,by simp[h1]⟩
 ·by_cases h2:a.ts<b.ts
  ·exact .inr (.inl ⟨h1,h2,by simp[h1,h2]⟩)
  ·exact .inr (.inr ⟨h1,h2,by simp[h1,h2]⟩)
set_option maxHeartbeats 4000000 in
theorem specCompareKeys_any (a b:Ent) (w:World):
  Calls Tryz.prog 94 #[a.v,b.v] w fun e w'=>e=.returned (.int .i64 (keyCmp a b))∧Below w.heap.size w w':=by
 unfold Ent.v
 rcases kinds a b with⟨ga,ga',gb,gb',hk⟩|⟨ga,ga',gb,gb',hk⟩|⟨ga,ga',gb,gb',hk⟩|⟨ga,ga',gb,gb',hk⟩
 all_goals rcases tss a b with⟨h1,h2,ht⟩|⟨h1,h2,ht⟩|⟨h1,h2,ht⟩
 all_goals
  have H:=kt_of hk ht
  clear hk ht
  go_enter Tryz.func94,Tryz.ntmps94
  go_wp2
  go_quiet ((first|(go_at_call 123;exact Calls.quiet_of_same (l1Str_any _ _ _))|(go_at_call 122;exact Calls.quiet_of_same (l1First_any _ _ _))))
  go_wp2
  go_ret
  exact⟨ret_int H.symm,below_drewN ((qB).alloc (by simp) _) _⟩
end Go.Proofs.YtkidabedcgngcaaGreatDoor
namespace Go.Proofs.YtkidabedcgngcaaGreatDoor
open Go.ChangeShapes Go.WideShapes Go.ChangeAt Go.RowKit Go.Deep
set_option linter.unusedVariables false
def Ent.vld (e:Ent):Bool:=vE e.row e.fam e.qual e.kind e.val
def sameCol (a b:Ent):Bool:=(a.row.toList==b.row.toList) && ((a.fam.toList==b.fam.toList) && (a.qual.toList==b.qual.toList))
set_option maxHeartbeats 400000 in
theorem sameColumn_any (a b:Ent) (w:World):
  Calls Tryz.prog 95 #[a.v,b.v] w fun e w'=>e=.returned (.bool (sameCol a b))∧Below w.heap.size w w':=by
 unfold sameCol Ent.v
 cases h1:(a.row.toList==b.row.toList)
 ·exact zzQ63
 ·cases h2:(a.fam.toList==b.fam.toList)
  ·exact zzQ63
  ·exact zzQ63
def okPair (p e:Ent):Bool:=(keyCmp p e== -1) && !((p.kind==2) && ((e.kind==2) && sameCol p e))
def GoodW (es:List Ent):Prop:=es.length≤10000∧∀e∈es,e.vld=true
def Pairs (es:List Ent):Prop:=∀i p e,es[i]?=some p→es[i+1]?=some e→okPair p e=true
def GoodR (es:List Ent):Prop:=GoodW es∧Pairs es
theorem iffF {p:Prop} (h:¬p):(false=true↔p):=⟨fun x=>Bool.noConfusion x,fun x=>absurd x h⟩
theorem iffT {p:Prop} (h:p):(true=true↔p):=⟨fun _=>h,fun _=>rfl⟩
theorem vld_of_take {es:List Ent} {k:Nat} {e:Ent} (h:∀x∈es.take k,x.vld=true) (he:es[k]?=some e) (hv:e.vld=true):∀x∈es.take (k+1),x.vld=true:=by
 intro x hx
 rw[List.take_add_one,he]at hx
 simp at hx
 rcases hx with hx|rfl
 ·exact h x hx
 ·exact hv
def PairsTo (es:List Ent) (k:Nat):Prop:=∀i p e,i+1<k→es[i]?=some p→es[i+1]?=some e→okPair p e=true
theorem pairsTo_succ {es:List Ent} {m:Nat} {p e:Ent} (h:PairsTo es (m+1)) (hp:es[m]?=some p) (he:es[m+1]?=some e) (ho:okPair p e=true):PairsTo es (m+1+1):=by
 intro i p' e' hi h1 h2
 by_cases hm:i=m
 ·subst hm
  rw[hp]at h1;rw[he]at h2
  simp at h1 h2
  subst h1 h2
  exact ho
 ·exact h i p' e' (by omega) h1 h2
theorem pairs_of_to {es:List Ent} {k:Nat} (h:PairsTo es k) (hk:es.length≤k):Pairs es:=by
 intro i p e h1 h2
 have:=(List.getElem?_eq_some_iff.1 h2).1
 exact h i p e (by omega) h1 h2
theorem wpList_append_ent {ops:Array Oper} {rest:List Oper} {o:Oper} {a:Act} {Q:Exit→Act→World→Prop} (w:World) (hgd:o.guard=none) (s x:Operand)
  (ho:o.op=.call {callee:=.builtin .append,args:=#[s,x],argTypes:=#[88,88]})
  (base g cp n blk:Nat) (fs:List Ent) (e:Ent) (hs:a.eval s=.slice (some ⟨g,0,none⟩) n cp) (hx:a.eval x=.slice (some ⟨blk,0,none⟩) 1 1) (hn:n=fs.length) (hO:OwnE w base g cp fs)
  (hc:EntsAt w blk 0 [e]) (hlen:fs.length≤2^30) (hbase:base≤w.heap.size)
  (h:∀g' cp' w',OwnE w' base g' cp' (fs++ [e])→w.grownBy w' (some g)→wpList Tryz.prog ops Q rest (a.put o.dst (.slice (some ⟨g',0,none⟩) (n+1) cp')) w'):wpList Tryz.prog ops Q (o::rest) a w:=by
 obtain⟨i,hi,hz0,hz1,hz2⟩:=info_parts Tryz.infoEnt
 subst hn
 obtain⟨c0,c1,c2,c3,c4,c5⟩:=hc 0 e rfl
 refine wpList_append_own w hgd s x 88 ho base 102 i _ 6 80 Tryz.underlying88 hi hz0 hz1 hz2 rfl (by decide) (.slice (some ⟨g,0,none⟩) fs.length cp) fs.length (cellsE fs) hs hO ⟨blk,0,none⟩ 1 1 (cellsE [e]) hx rfl ?_ ?_ ?_ ?_ hbase ?_
 ·exact zzQ23
 ·intro u hu
  simp[cellsE]at hu
  rcases hu with rfl|rfl|rfl|rfl|rfl|rfl<;>rfl
 ·unfold maxLen;omega
 ·omega
 ·intro v' w' hown hgr hnil
  rw[←cellsE_append]at hown
  have hlen':(fs++ [e]).length=fs.length+1:=by simp
  rcases hown.2 with⟨hv,_⟩|⟨g',cap',cur,hv,h1,h2,h3⟩
  ·have:=(hnil.1 hv).1
   simp at this
  ·subst hv
   exact h g' cap' w' (by unfold OwnE;rw[hlen'];exact hown) hgr
def intoG (e:Ent):List Ent→Bool→List Ent
 | [],done=>if done then []else [e]
 |x::r,done=>
  if keyCmp x e= -1 then x::intoG e r done
  else if keyCmp x e=0 then(if done then intoG e r true else e::intoG e r true)
  else(if done then x::intoG e r true else e::x::intoG e r true)
def into (L:List Ent) (e:Ent):List Ent:=intoG e L false
theorem length_intoG (e:Ent):∀(L:List Ent) (d:Bool),(intoG e L d).length≤L.length+1
 | [],d=>by unfold intoG;split<;>simp
 |x::r,d=>by
  have h1:=length_intoG e r d
  have h2:=length_intoG e r true
  have h3:∀(L:List Ent),(intoG e L true).length≤L.length:=by
   intro L
   induction L with
   |nil=>simp[intoG]
   |cons y s ih=>
    unfold intoG
    split
    ·simp;omega
    ·split
     ·simp;omega
     ·simp;omega
  have h4:=h3 r
  unfold intoG
  split
  ·simp;omega
  ·split
   ·split<;>simp<;>omega
   ·split<;>simp<;>omega
set_option maxHeartbeats 2000000 in
theorem into_core (b off cap:Nat) (L:List Ent) (e:Ent) (w:World) (hE:EntsAt w b off L) (hB:b<w.heap.size) (hlen:L.length≤1048576):
  Calls Tryz.prog 113 #[.slice (some ⟨b,off,none⟩) L.length cap,e.v] w fun r w'=>
   ∃g cp,r=.returned (.slice (some ⟨g,0,none⟩) (into L e).length cp)∧OwnE w' w.heap.size g cp (into L e)∧Below w.heap.size w w':=by
 unfold Ent.v
 obtain⟨W0,hW0⟩:=qE (w.alloc (Obj.cells #[.string e.row,.string e.fam,.string e.qual,.int .u64 e.ts,.int .i64 e.kind,.string e.val] 102):World)
 have hb0:Below w.heap.size w W0:=by rw[hW0];exact qB
 have hz0:W0.heap.size=w.heap.size+1:=by rw[hW0];simp
 have HX:Hid (EntsAt W0 w.heap.size 0 [e]):=by
  show EntsAt W0 w.heap.size 0 [e]
  intro j f hf
  obtain rfl:j=0:=by
   have:=(List.getElem?_eq_some_iff.1 hf).1
   simpa using this
  simp at hf
  subst hf
  rw[hW0]
  simp
 have HE:Hid (EntsAt W0 b off L):=hE.below hb0 hB
 have HS:Hid (OwnE (W0.alloc (Obj.cells #[] 102)) (w.heap.size+1) (w.heap.size+1) 0 []):=by
  show OwnE (W0.alloc (Obj.cells #[] 102)) (w.heap.size+1) (w.heap.size+1) 0 []
  rw[←hz0]
  exact World.ownsRow_made W0 #[] 0 (Nat.le_refl _) (Nat.zero_le _) (by simp)
 clear hE
 have HZ:Hid (W0.heap.size=w.heap.size+1):=hz0
 have hz1:w.heap.size<W0.heap.size:=by omega
 have hz2:W0.heap.size≤w.heap.size+1:=by omega
 clear hz0
 go_enter Tryz.func113,Tryz.ntmps113
 go_wp2_with fail
 rw[←hW0]
 clear hW0
 go_loopw[5,6,7] (fun o d i wr=>∃(k g cp:Nat) (fs:List Ent) (dn:Bool),k≤L.length∧i=.int .i64 k∧d=.bool dn∧o=.slice (some ⟨g,0,none⟩) fs.length cp∧fs++intoG e (L.drop k) dn=into L e∧OwnE wr (w.heap.size+1) g cp fs∧Below W0.heap.size W0 wr) (fun _ _ i _=>L.length-(intOf i).toNat)
 case atStart=>exact⟨0,_,0,[],false,Nat.zero_le _,rfl,rfl,rfl,rfl,HS.out,qB⟩
 case round=>
  obtain⟨k,g,cp,fs,dn,hk,rfl,rfl,rfl,hin,hO,hb⟩:=hrel
  have hfl:fs.length≤1048577:=by
   have h1:=congrArg List.length hin
   have h2:=length_intoG e L false
   rw[List.length_append]at h1
   unfold into at h1
   omega
  have HI:Hid (fs++intoG e (L.drop k) dn=into L e):=hin
  have HO:Hid (OwnE wr (w.heap.size+1) g cp fs):=hO
  have hg:=hO.lt
  have hs:=hb.size
  clear hin hO
  by_cases hlt:k<L.length
  ·obtain⟨x,hx⟩:∃x,L[k]?=some x:=⟨_,List.getElem?_eq_getElem hlt⟩
   have hdr:L.drop k=x::L.drop (k+1):=by
    rw[List.drop_eq_getElem_cons hlt]
    rw[List.getElem?_eq_getElem hlt]at hx
    simp at hx
    rw[hx]
   have HD:Hid (L.drop k=x::L.drop (k+1)):=hdr
   clear hdr
   have hec:∀wx,Below W0.heap.size W0 wx→EntsAt wx b off L∧EntsAt wx w.heap.size 0 [e]:=fun wx h=>⟨HE.below h (by omega),HX.below h (by omega)⟩
   have HEC:Hid (∀wx,Below W0.heap.size W0 wx→EntsAt wx b off L∧EntsAt wx w.heap.size 0 [e]):=hec
   clear hec
   obtain⟨c0,c1,c2,c3,c4,c5⟩:=(HEC.out wr hb).1 k x hx
   obtain⟨d0,d1,d2,d3,d4,d5⟩:=(HEC.out wr hb).2 0 e rfl
   simp only[Nat.zero_add,Nat.zero_mul]at d0 d1 d2 d3 d4 d5
   have HXK:Hid (L[k]?=some x):=hx
   clear hx
   have z2:(k:Int)<(L.length:Int):=by omega
   go_upto_region 6 with fail
   go_cut[8] (fun s wx=>s=.int .i64 (keyCmp x e)∧Below wr.heap.size wr wx)
   case first=>
    go_region_with (go_at_call 94;refine(specCompareKeys_any x e _).mono ?_;rintro e' w' ⟨rfl,hbb⟩)
    all_goals go_wp2_with fail
    all_goals go_meet
    all_goals exact⟨rfl,((Below.refl _ _).drew).trans (hbb.mono (by simp))⟩
   case rest=>
   obtain⟨rfl,h3⟩:=hcut
   have hb3:=hb.trans (h3.mono hb.size)
   have HO3:Hid (OwnE wc (w.heap.size+1) g cp fs):=HO.below h3 hg.2
   have hs3:=h3.size
   clear c0 c1 c2 c3 c4 c5 d0 d1 d2 d3 d4 d5
   obtain⟨c0,c1,c2,c3,c4,c5⟩:=(HEC.out wc hb3).1 k x HXK.out
   obtain⟨d0,d1,d2,d3,d4,d5⟩:=(HEC.out wc hb3).2 0 e rfl
   simp only[Nat.zero_add,Nat.zero_mul]at d0 d1 d2 d3 d4 d5
   have ent_new:∀(wx:World) (f:Ent),EntsAt (wx.alloc (Obj.cells #[.string f.row,.string f.fam,.string f.qual,.int .u64 f.ts,.int .i64 f.kind,.string f.val] 102)) wx.heap.size 0 [f]:=by
    intro wx f j y hy
    obtain rfl:j=0:=by
     have:=(List.getElem?_eq_some_iff.1 hy).1
     simpa using this
    simp at hy
    subst hy
    simp
   have HN:Hid (∀(wx:World) (f:Ent),EntsAt (wx.alloc (Obj.cells #[.string f.row,.string f.fam,.string f.qual,.int .u64 f.ts,.int .i64 f.kind,.string f.val] 102)) wx.heap.size 0 [f]):=ent_new
   clear ent_new
   rcases keyCmp_vals x e with hc|hc|hc
   ·have HC:Hid (keyCmp x e= -1):=hc
    go_wp2_with (at_builtin;refine wpList_append_ent _ rfl _ _ rfl (w.heap.size+1) g cp _ _ fs x rfl rfl rfl ?hO ?hc ?hl ?hb ?_)
    case hO=>exact HO3.below (qB) (by omega)
    case hc=>exact HN.out wc x
    case hl=>omega
    case hb=>simp;omega
    intro g' cp' w' hO' hgr
    have HO':Hid (OwnE w' (w.heap.size+1) g' cp' (fs++ [x])):=hO'
    have hb':Below W0.heap.size W0 w':=(hb3.alloc hb3.size _).grown hgr (by simp;omega) (fun j hj=>by cases hj;omega)
    clear hO' hgr
    go_wp2_with fail
    go_roundw
    case rel=>
     go_light
     refine⟨k+1,g',cp',fs++ [x],dn,by omega,by go_num,rfl,by simp,?_,HO'.out,hb'⟩
     have h:=HI.out
     rw[HD.out]at h
     rw[←h]
     simp[intoG,HC.out]
    case measure=>go_light;simp[intOf];omega
   ·have HC:Hid (keyCmp x e=0):=hc
    cases dn
    ·go_wp2_with (at_builtin;refine wpList_append_ent _ rfl _ _ rfl (w.heap.size+1) g cp _ _ (fs) e rfl rfl rfl ?hO ?hc ?hl ?hb ?_)
     case hO=>exact HO3.below (qB) (by omega)
     case hc=>exact HN.out wc e
     case hl=>omega
     case hb=>simp;omega
     intro g' cp' w' hO' hgr
     have HO':Hid (OwnE w' (w.heap.size+1) g' cp' (fs++ [e])):=hO'
     have hb':Below W0.heap.size W0 w':=(hb3.alloc hb3.size _).grown hgr (by simp;omega) (fun j hj=>by cases hj;omega)
     clear hO' hgr
     go_wp2_with fail
     go_roundw
     case rel=>
      go_light
      refine⟨k+1,g',cp',fs++ [e],true,by omega,by go_num,rfl,by simp,?_,HO'.out,hb'⟩
      have h:=HI.out
      rw[HD.out]at h
      rw[←h]
      simp[intoG,HC.out]
     case measure=>go_light;simp[intOf];omega
    ·go_wp2_with fail
     go_roundw
     case rel=>
      go_light
      refine⟨k+1,g,cp,fs,true,by omega,by go_num,rfl,by simp,?_,HO3.out,hb3⟩
      have h:=HI.out
      rw[HD.out]at h
      rw[←h]
      simp[intoG,HC.out]
     case measure=>go_light;simp[intOf];omega
   ·have HC:Hid (keyCmp x e=1):=hc
    cases dn
    ·go_wp2_with (at_builtin;refine wpList_append_ent _ rfl _ _ rfl (w.heap.size+1) g cp _ _ (fs) e rfl rfl rfl ?hO ?hc ?hl ?hb ?_)
     case hO=>exact HO3.below (qB) (by omega)
     case hc=>exact HN.out wc e
     case hl=>omega
     case hb=>simp;omega
     intro g1 cp1 w1 hO1 hgr1
     have HO1:Hid (OwnE w1 (w.heap.size+1) g1 cp1 (fs++ [e])):=hO1
     have hb1:Below W0.heap.size W0 w1:=(hb3.alloc hb3.size _).grown hgr1 (by simp;omega) (fun j hj=>by cases hj;omega)
     have hg1:=hO1.lt
     have hs1:=hb1.size
     clear hO1 hgr1 c0 c1 c2 c3 c4 c5
     obtain⟨c0,c1,c2,c3,c4,c5⟩:=(HEC.out w1 hb1).1 k x HXK.out
     go_wp2_with (at_builtin;refine wpList_append_ent _ rfl _ _ rfl (w.heap.size+1) g1 cp1 _ _ (fs++ [e]) x rfl rfl (by simp) ?hO ?hc ?hl ?hb ?_)
     case hO=>exact HO1.below (qB) hg1.2
     case hc=>exact HN.out w1 x
     case hl=>simp;omega
     case hb=>simp;omega
     intro g' cp' w' hO' hgr
     have HO':Hid (OwnE w' (w.heap.size+1) g' cp' (fs++ [e,x])):=hO'
     have hb':Below W0.heap.size W0 w':=(hb1.alloc hb1.size _).grown hgr (by simp;omega) (fun j hj=>by cases hj;omega)
     clear hO' hgr
     go_wp2_with fail
     go_roundw
     case rel=>
      go_light
      refine⟨k+1,g',cp',fs++ [e,x],true,by omega,by go_num,rfl,by simp,?_,HO'.out,hb'⟩
      have h:=HI.out
      rw[HD.out]at h
      rw[←h]
      simp[intoG,HC.out]
     case measure=>go_light;simp[intOf];omega
    ·go_wp2_with (at_builtin;refine wpList_append_ent _ rfl _ _ rfl (w.heap.size+1) g cp _ _ (fs) x rfl rfl rfl ?hO ?hc ?hl ?hb ?_)
     case hO=>exact HO3.below (qB) (by omega)
     case hc=>exact HN.out wc x
     case hl=>omega
     case hb=>simp;omega
     intro g' cp' w' hO' hgr
     have HO':Hid (OwnE w' (w.heap.size+1) g' cp' (fs++ [x])):=hO'
     have hb':Below W0.heap.size W0 w':=(hb3.alloc hb3.size _).grown hgr (by simp;omega) (fun j hj=>by cases hj;omega)
     clear hO' hgr
     go_wp2_with fail
     go_roundw
     case rel=>
      go_light
      refine⟨k+1,g',cp',fs++ [x],true,by omega,by go_num,rfl,by simp,?_,HO'.out,hb'⟩
      have h:=HI.out
      rw[HD.out]at h
      rw[←h]
      simp[intoG,HC.out]
     case measure=>go_light;simp[intOf];omega
  ·have hdr:L.drop k= []:=List.drop_eq_nil_of_le (by omega)
   have HD:Hid (L.drop k= []):=hdr
   clear hdr
   have hkk:k=L.length:=by omega
   cases dn
   ·obtain⟨d0,d1,d2,d3,d4,d5⟩:=HX.below hb (by omega) 0 e rfl
    simp only[Nat.zero_add,Nat.zero_mul]at d0 d1 d2 d3 d4 d5
    have HF:Hid (fs++ [e]=into L e):=by
     have h:=HI.out
     rw[HD.out]at h
     exact h
    go_wp2_with (at_builtin;refine wpList_append_ent _ rfl _ _ rfl (w.heap.size+1) g cp _ _ fs e rfl rfl rfl ?hO ?hc ?hl ?hb ?_)
    case hO=>exact HO.below (qB) (by omega)
    case hc=>
     exact zzQ42
    case hl=>omega
    case hb=>simp;omega
    intro g' cp' w' hO' hgr
    have HO':Hid (OwnE w' (w.heap.size+1) g' cp' (fs++ [e])):=hO'
    have hb':Below W0.heap.size W0 w':=(hb.alloc hb.size _).grown hgr (by simp;omega) (fun j hj=>by cases hj;omega)
    clear hO' hgr
    go_wp2_with fail
    go_ret
    refine⟨g',cp',?_,?_,hb0.trans (hb'.mono (by omega))⟩
    ·rw[←HF.out];simp
    ·rw[←HF.out];exact HO'.mono (by omega)
   ·have HF:Hid (fs=into L e):=by
     have h:=HI.out
     rw[HD.out]at h
     show fs=into L e
     simpa [intoG]using h
    go_wp2_with fail
    go_ret
    refine⟨g,cp,?_,?_,hb0.trans (hb.mono (by omega))⟩
    ·rw[←HF.out];rfl
    ·rw[←HF.out];exact HO.mono (by omega)
end Go.Proofs.YtkidabedcgngcaaGreatDoor
namespace Go.Proofs.YtkidabedcgngcaaGreatDoor
set_option linter.unusedVariables false
theorem cmpB_zero:∀a b:List UInt8,Lib.compareBytes a b=0↔a=b
 | [],[]=>by simp[Lib.compareBytes]
 | [],_::_=>by simp[Lib.compareBytes]
 |_::_,[]=>by simp[Lib.compareBytes]
 |a::x,b::y=>by
  unfold Lib.compareBytes
  by_cases h1:a<b
  ·rw[if_pos h1]
   constructor
   ·intro h;cases h
   ·intro h
    simp at h
    rw[h.1]at h1
    simp at h1
  ·rw[if_neg h1]
   by_cases h2:b<a
   ·rw[if_pos h2]
    constructor
    ·intro h;cases h
    ·intro h
     simp at h
     rw[h.1]at h2
     simp at h2
   ·rw[if_neg h2,cmpB_zero x y]
    have hab:a=b:=by
     rw[UInt8.lt_iff_toNat_lt]at h1 h2
     exact UInt8.toNat_inj.1 (by omega)
    simp[hab]
theorem cmpB_neg:∀a b:List UInt8,Lib.compareBytes b a= -Lib.compareBytes a b
 | [],[]=>by simp[Lib.compareBytes]
 | [],_::_=>by simp[Lib.compareBytes]
 |_::_,[]=>by simp[Lib.compareBytes]
 |a::x,b::y=>by
  unfold Lib.compareBytes
  have:=cmpB_neg x y
  simp only[UInt8.lt_iff_toNat_lt]
  by_cases h1:a.toNat<b.toNat
  ·have h2:¬b.toNat<a.toNat:=by omega
   simp[h1,h2]
  ·by_cases h2:b.toNat<a.toNat
   ·simp[h1,h2]
   ·simp[h1,h2,this]
theorem cmpB_trans:∀a b c:List UInt8,Lib.compareBytes a b= -1→Lib.compareBytes b c= -1→Lib.compareBytes a c= -1
 | [],[],_=>by simp[Lib.compareBytes]
 | [],_::_,[]=>by simp[Lib.compareBytes]
 | [],_::_,_::_=>by simp[Lib.compareBytes]
 |_::_,[],_=>by simp[Lib.compareBytes]
 |_::_,_::_,[]=>by simp[Lib.compareBytes]
 |a::x,b::y,c::z=>by
  have ih:=cmpB_trans x y z
  unfold Lib.compareBytes
  simp only[UInt8.lt_iff_toNat_lt]
  intro h1 h2
  by_cases h3:a.toNat<c.toNat
  ·simp[h3]
  ·by_cases p1:a.toNat<b.toNat
   ·by_cases p2:b.toNat<c.toNat
    ·omega
    ·by_cases p3:c.toNat<b.toNat
     ·simp[p2,p3]at h2
     ·omega
   ·by_cases p2:b.toNat<a.toNat
    ·simp[p1,p2]at h1
    ·by_cases q1:b.toNat<c.toNat
     ·omega
     ·by_cases q2:c.toNat<b.toNat
      ·simp[q1,q2]at h2
      ·simp[p1,p2]at h1
       simp[q1,q2]at h2
       have r1:¬c.toNat<a.toNat:=by omega
       simp[h3,r1]
       exact ih h1 h2
theorem cB_zero {a b:ByteArray}:cB a b=0↔a=b:=by
 unfold cB
 rw[cmpB_zero]
 constructor
 ·intro h;cases a;cases b;simp at h;simpa using h
 ·intro h;rw[h]
theorem cB_neg (a b:ByteArray):cB b a= -cB a b:=cmpB_neg _ _
theorem cB_trans {a b c:ByteArray} (h:cB a b= -1) (k:cB b c= -1):cB a c= -1:=cmpB_trans _ _ _ h k
theorem tsCmp_neg (a b:Int):tsCmp b a= -tsCmp a b:=by
 unfold tsCmp;repeat' split
 all_goals omega
theorem kindCmp_neg (a b:Int):kindCmp b a= -kindCmp a b:=by
 unfold kindCmp;repeat' split
 all_goals omega
theorem firstOf_neg (a b:Int):firstOf (-a) (-b)= -firstOf a b:=by
 unfold firstOf
 by_cases h:a=0
 ·simp[h]
 ·simp[h]
theorem keyCmp_neg (a b:Ent):keyCmp b a= -keyCmp a b:=by
 unfold keyCmp
 rw[cB_neg a.row b.row,cB_neg a.fam b.fam,cB_neg a.qual b.qual,kindCmp_neg a.kind b.kind,tsCmp_neg a.ts b.ts,firstOf_neg,firstOf_neg,firstOf_neg,firstOf_neg]
theorem firstOf_trans {a b c a' b' c':Int} (h0:a=0→b=0→c=0) (h1:a= -1→b= -1→c= -1) (h2:a= -1→b=0→c= -1) (h3:a=0→b= -1→c= -1)
  (ta:tri a) (tb:tri b) (k:a'= -1→b'= -1→c'= -1) (x:firstOf a a'= -1) (y:firstOf b b'= -1):firstOf c c'= -1:=by
 unfold firstOf at*
 unfold tri at*
 by_cases ha:a=0
 ·rw[if_pos ha]at x
  by_cases hb:b=0
  ·rw[if_pos hb]at y
   rw[if_pos (h0 ha hb)];exact k x y
  ·rw[if_neg hb]at y
   have:=h3 ha y
   rw[if_neg (by omega)];exact this
 ·rw[if_neg ha]at x
  by_cases hb:b=0
  ·have:=h2 x hb
   rw[if_neg (by omega)];exact this
  ·rw[if_neg hb]at y
   have:=h1 x y
   rw[if_neg (by omega)];exact this
theorem cB_pack (a b c:ByteArray):(cB a b=0→cB b c=0→cB a c=0)∧(cB a b= -1→cB b c= -1→cB a c= -1)∧(cB a b= -1→cB b c=0→cB a c= -1)∧(cB a b=0→cB b c= -1→cB a c= -1):=by
 refine⟨fun h k=>?_,fun h k=>cB_trans h k,fun h k=>?_,fun h k=>?_⟩
 ·rw[cB_zero]at*;rw[h,k]
 ·rw[cB_zero]at k;rw[←k];exact h
 ·rw[cB_zero]at h;rw[h];exact k
theorem keyCmp_trans {a b c:Ent} (h:keyCmp a b= -1) (k:keyCmp b c= -1):keyCmp a c= -1:=by
 obtain⟨r0,r1,r2,r3⟩:=cB_pack a.row b.row c.row
 obtain⟨f0,f1,f2,f3⟩:=cB_pack a.fam b.fam c.fam
 obtain⟨q0,q1,q2,q3⟩:=cB_pack a.qual b.qual c.qual
 refine firstOf_trans r0 r1 r2 r3 (cB_vals _ _) (cB_vals _ _) (fun h k=>?_) h k
 refine firstOf_trans f0 f1 f2 f3 (cB_vals _ _) (cB_vals _ _) (fun h k=>?_) h k
 refine firstOf_trans q0 q1 q2 q3 (cB_vals _ _) (cB_vals _ _) (fun h k=>?_) h k
 refine firstOf_trans ?_ ?_ ?_ ?_ (tri_kind _ _) (tri_kind _ _) (fun h k=>?_) h k
 ·unfold kindCmp;(repeat' split)<;>omega
 ·unfold kindCmp;(repeat' split)<;>omega
 ·unfold kindCmp;(repeat' split)<;>omega
 ·unfold kindCmp;(repeat' split)<;>omega
 ·unfold tsCmp at*
  (repeat' split at h)<;>(repeat' split at k)<;>(repeat' split)<;>omega
theorem keyCmp_self (a:Ent):keyCmp a a=0:=by
 have:=keyCmp_neg a a
 omega
def Ord (l:List Ent):Prop:=l.Pairwise fun a b=>keyCmp a b= -1
theorem ord_ext:∀{l m:List Ent},Ord l→Ord m→(∀x,x∈l↔x∈m)→l=m
 | [],[],_,_,_=>rfl
 | [],b::m,_,_,h=>by have:=(h b).2 (by simp);simp at this
 |a::l,[],_,_,h=>by have:=(h a).1 (by simp);simp at this
 |a::l,b::m,hl,hm,h=>by
  have hl':=List.pairwise_cons.1 hl
  have hm':=List.pairwise_cons.1 hm
  have hab:a=b:=by
   rcases List.mem_cons.1 ((h a).1 (by simp))with e|e
   ·exact e
   ·rcases List.mem_cons.1 ((h b).2 (by simp))with e'|e'
    ·exact e'.symm
    ·have h1:=hm'.1 a e
     have h2:=hl'.1 b e'
     have:=keyCmp_neg a b
     omega
  subst hab
  congr 1
  refine ord_ext hl'.2 hm'.2 (fun x=>⟨fun hx=>?_,fun hx=>?_⟩)
  ·rcases List.mem_cons.1 ((h x).1 (List.mem_cons_of_mem _ hx))with e|e
   ·subst e
    have:=hl'.1 x hx
    rw[keyCmp_self]at this
    omega
   ·exact e
  ·rcases List.mem_cons.1 ((h x).2 (List.mem_cons_of_mem _ hx))with e|e
   ·subst e
    have:=hm'.1 x hx
    rw[keyCmp_self]at this
    omega
   ·exact e
theorem firstOf_zero {a b:Int}:firstOf a b=0↔a=0∧b=0:=by
 unfold firstOf
 by_cases h:a=0
 ·simp[h]
 ·simp[h]
theorem kindCmp_zero {a b:Int}:kindCmp a b=0↔(a=2↔b=2):=by
 unfold kindCmp
 by_cases h:a=2<;>by_cases k:b=2<;>simp[h,k]
theorem tsCmp_zero {a b:Int}:tsCmp a b=0↔a=b:=by
 unfold tsCmp
 (repeat' split)<;>omega
theorem keyCmp_zero {a b:Ent}:keyCmp a b=0↔a.row=b.row∧a.fam=b.fam∧a.qual=b.qual∧(a.kind=2↔b.kind=2)∧a.ts=b.ts:=by
 unfold keyCmp
 rw[firstOf_zero,firstOf_zero,firstOf_zero,firstOf_zero,cB_zero,cB_zero,cB_zero,kindCmp_zero,tsCmp_zero]
theorem kindCmp_congr {a b c:Int} (h:a=2↔b=2):kindCmp a c=kindCmp b c:=by
 unfold kindCmp
 by_cases k:a=2
 ·rw[if_pos k,if_pos (h.1 k)]
 ·rw[if_neg k,if_neg (fun x=>k (h.2 x))]
theorem keyCmp_congr {a b c:Ent} (h:keyCmp a b=0):keyCmp a c=keyCmp b c:=by
 obtain⟨h1,h2,h3,h4,h5⟩:=keyCmp_zero.1 h
 unfold keyCmp
 rw[h1,h2,h3,h5,kindCmp_congr h4]
theorem intoG_true (e:Ent):∀L:List Ent,(∀x∈L,keyCmp e x= -1)→intoG e L true=L
 | [],_=>rfl
 |x::r,h=>by
  have h1:=h x (by simp)
  have h2:=keyCmp_neg e x
  have h3:keyCmp x e=1:=by omega
  unfold intoG
  rw[if_neg (by omega),if_neg (by omega),if_pos rfl,intoG_true e r (fun y hy=>h y (List.mem_cons_of_mem _ hy))]
theorem into_spec (e:Ent):∀L:List Ent,Ord L→Ord (intoG e L false)∧∀x,x∈intoG e L false↔x=e∨(x∈L∧keyCmp x e≠0)
 | [],_=>⟨by simp[intoG,Ord],fun x=>by simp[intoG]⟩
 |x::r,h=>by
  have h':=List.pairwise_cons.1 h
  obtain⟨ih1,ih2⟩:=into_spec e r h'.2
  rcases keyCmp_vals x e with hc|hc|hc
  ·have e1:intoG e (x::r) false=x::intoG e r false:=by simp[intoG,hc]
   rw[e1]
   refine⟨List.pairwise_cons.2 ⟨fun y hy=>?_,ih1⟩,fun y=>?_⟩
   ·rcases(ih2 y).1 hy with rfl|⟨hy,_⟩
    ·exact hc
    ·exact h'.1 y hy
   ·rw[List.mem_cons,ih2,List.mem_cons]
    constructor
    ·rintro(rfl|rfl|⟨h1,h2⟩)
     ·exact .inr ⟨.inl rfl,by omega⟩
     ·exact .inl rfl
     ·exact .inr ⟨.inr h1,h2⟩
    ·rintro(rfl|⟨rfl|h1,h2⟩)
     ·exact .inr (.inl rfl)
     ·exact .inl rfl
     ·exact .inr (.inr ⟨h1,h2⟩)
  ·have hr:∀y∈r,keyCmp e y= -1:=fun y hy=>by rw[←keyCmp_congr hc];exact h'.1 y hy
   have e1:intoG e (x::r) false=e::r:=by
    simp[intoG,hc,intoG_true e r hr]
   rw[e1]
   refine⟨List.pairwise_cons.2 ⟨hr,h'.2⟩,fun y=>?_⟩
   rw[List.mem_cons,List.mem_cons]
   constructor
   ·rintro(rfl|h1)
    ·exact .inl rfl
    ·have h2:=hr y h1
     have h3:=keyCmp_neg e y
     exact .inr ⟨.inr h1,by omega⟩
   ·rintro(rfl|⟨rfl|h1,h2⟩)
    ·exact .inl rfl
    ·exact absurd hc h2
    ·exact .inr h1
  ·have hx:keyCmp e x= -1:=by
    have:=keyCmp_neg x e
    omega
   have hr:∀y∈r,keyCmp e y= -1:=fun y hy=>keyCmp_trans hx (h'.1 y hy)
   have e1:intoG e (x::r) false=e::x::r:=by
    simp[intoG,hc,intoG_true e r hr]
   rw[e1]
   refine⟨List.pairwise_cons.2 ⟨fun y hy=>?_,h⟩,fun y=>?_⟩
   ·rcases List.mem_cons.1 hy with rfl|hy
    ·exact hx
    ·exact hr y hy
   ·rw[List.mem_cons]
    constructor
    ·rintro(rfl|h1)
     ·exact .inl rfl
     ·refine .inr ⟨h1,?_⟩
      have h3:=keyCmp_neg e y
      rcases List.mem_cons.1 h1 with rfl|h1
      ·omega
      ·have:=hr y h1
       omega
    ·rintro(rfl|⟨h1,_⟩)
     ·exact .inl rfl
     ·exact .inr h1
end Go.Proofs.YtkidabedcgngcaaGreatDoor
namespace Go.Proofs.YtkidabedcgngcaaGreatDoor
open Go.ChangeShapes Go.WideShapes Go.ChangeAt Go.RowKit Go.Deep
set_option linter.unusedVariables false
end Go.Proofs.YtkidabedcgngcaaGreatDoor
namespace Go.Proofs.YtkidabedcgngcaaGreatDoor
set_option linter.unusedVariables false
theorem toList_inj {a b:ByteArray} (h:a.toList=b.toList):a=b:=by
 rw[ByteArray.toList_eq,ByteArray.toList_eq]at h
 cases a;cases b
 simp at h
 simpa using h
theorem length_into (L:List Ent) (e:Ent):(into L e).length≤L.length+1:=length_intoG e L false
end Go.Proofs.YtkidabedcgngcaaGreatDoor
namespace Go.Proofs.YtkidabedcgngcaaGreatDoor
set_option linter.unusedVariables false
set_option linter.unusedSimpArgs false
inductive Pls (P:List UInt8→Prop):List UInt8→Prop
 |one {x:List UInt8} (h:P x):Pls P x
 |more {x y:List UInt8} (h:P x) (k:Pls P y):Pls P (x++y)
def RepL (P:List UInt8→Prop) (o r:Bool) (x:List UInt8):Prop:=(o=true∧x= [])∨(if r=true then Pls P x else P x)
mutual
def Lg:Pat→List UInt8→Prop
 | .byte b=>fun x=>x= [b]
 | .cls f=>fun x=>∃c,x= [c]∧f c=true
 | .rep t o r=>RepL (Lg t) o r
 | .alt os=>LgA os
def LgA:List (List Pat)→List UInt8→Prop
 | []=>fun _=>False
 |ts::os=>fun x=>LgS ts x∨LgA os x
def LgS:List Pat→List UInt8→Prop
 | []=>fun x=>x= []
 |t::ts=>fun x=>∃y z,x=y++z∧Lg t y∧LgS ts z
end
theorem LgA_mem:∀(os:List (List Pat)) (x:List UInt8),LgA os x↔∃ts∈os,LgS ts x
 | [],x=>by simp[LgA]
 |ts::os,x=>by simp[LgA,LgA_mem os x]
mutual
def nulB:Pat→Bool
 | .byte _=>false
 | .cls _=>false
 | .rep t o _=>o || nulB t
 | .alt os=>nulA os
def nulA:List (List Pat)→Bool
 | []=>false
 |ts::os=>nulS ts || nulA os
def nulS:List Pat→Bool
 | []=>true
 |t::ts=>nulB t && nulS ts
end
abbrev PS:=Nat→Bool
def sOr (F G:PS):PS:=fun i=>F i || G i
def sOne (a:Nat):PS:=fun i=>i==a
def sNo:PS:=fun _=>false
structure Lay where
 nx:Nat
 fst:PS
 lst:PS
 tk:Nat→UInt8→Bool
 ed:Nat→Nat→Bool
def Lay.no (a:Nat):Lay:=⟨a,sNo,sNo,fun _ _=>false,fun _ _=>false⟩
def Lay.seq (g:Lay) (em nt:Bool) (l:Lay):Lay:=
 ⟨l.nx,if em=true then sOr g.fst l.fst else g.fst,if nt=true then sOr g.lst l.lst else l.lst,fun p c=>g.tk p c || l.tk p c,fun p q=>g.ed p q || l.ed p q || (g.lst p && l.fst q)⟩
def Lay.alt (g l:Lay):Lay:=⟨l.nx,sOr g.fst l.fst,sOr g.lst l.lst,fun p c=>g.tk p c || l.tk p c,fun p q=>g.ed p q || l.ed p q⟩
def Lay.rep (l:Lay) (r:Bool):Lay:=⟨l.nx,l.fst,l.lst,l.tk,fun p q=>l.ed p q || (r && l.lst p && l.fst q)⟩
mutual
def lyP:Pat→Nat→Lay
 | .byte b,a=>⟨a+1,sOne a,sOne a,fun p c=>p==a && c==b,fun _ _=>false⟩
 | .cls f,a=>⟨a+1,sOne a,sOne a,fun p c=>p==a && f c,fun _ _=>false⟩
 | .rep t _ r,a=>(lyP t a).rep r
 | .alt os,a=>lyA os (Lay.no a)
def lyA:List (List Pat)→Lay→Lay
 | [],g=>g
 |ts::os,g=>lyA os (g.alt (lyS ts true (Lay.no g.nx)))
def lyS:List Pat→Bool→Lay→Lay
 | [],_,g=>g
 |t::ts,em,g=>lyS ts (em && nulB t) (g.seq em (nulB t) (lyP t g.nx))
end
inductive Pth (l:Lay):Nat→List UInt8→Nat→Prop
 |nil (p:Nat):Pth l p [] p
 |step {p p' q:Nat} {c:UInt8} {xs:List UInt8} (he:l.ed p p'=true) (ht:l.tk p' c=true) (h:Pth l p' xs q):Pth l p (c::xs) q
def Wd (l:Lay) (x:List UInt8):Prop:=∃c xs p q,x=c::xs∧l.fst p=true∧l.tk p c=true∧Pth l p xs q∧l.lst q=true
structure Spt (a:Nat) (l:Lay):Prop where
 le:a≤l.nx
 fst:∀p,l.fst p=true→a≤p∧p<l.nx
 lst:∀p,l.lst p=true→a≤p∧p<l.nx
 tk:∀p c,l.tk p c=true→a≤p∧p<l.nx
 ed:∀p q,l.ed p q=true→(a≤p∧p<l.nx)∧a≤q∧q<l.nx
structure Cor (a:Nat) (l:Lay) (P:List UInt8→Prop) (em:Bool):Prop where
 spt:Spt a l
 wd:∀x,P x↔(x= []∧em=true)∨Wd l x
theorem Pth.in {a:Nat} {l:Lay} (hs:Spt a l) {p q:Nat} {xs:List UInt8} (h:Pth l p xs q) (hp:a≤p∧p<l.nx):a≤q∧q<l.nx:=by
 induction h with
 |nil p=>exact hp
 |step he ht h ih=>exact ih (hs.ed _ _ he).2
theorem Pth.cat {l:Lay} {p q r:Nat} {xs ys:List UInt8} (h:Pth l p xs q) (k:Pth l q ys r):Pth l p (xs++ys) r:=by
 induction h with
 |nil p=>exact k
 |step he ht h ih=>exact .step he ht (ih k)
theorem Pth.mono {l m:Lay} (h1:∀p q,l.ed p q=true→m.ed p q=true) (h2:∀p c,l.tk p c=true→m.tk p c=true) {p q:Nat} {xs:List UInt8} (h:Pth l p xs q):Pth m p xs q:=by
 induction h with
 |nil p=>exact .nil p
 |step he ht h ih=>exact .step (h1 _ _ he) (h2 _ _ ht) ih
theorem wd_ne {l:Lay}:¬Wd l []:=fun⟨c,xs,p,q,h,_⟩=>by cases h
theorem Cor.nul {a:Nat} {l:Lay} {P:List UInt8→Prop} {em:Bool} (h:Cor a l P em):P []↔em=true:=by
 rw[h.wd]
 constructor
 ·rintro(⟨_,q⟩|q)
  ·exact q
  ·exact(wd_ne q).elim
 ·exact fun q=>.inl ⟨rfl,q⟩
theorem cor_no (a:Nat):Cor a (Lay.no a) (fun x=>x= []) true:=by
 refine⟨⟨Nat.le_refl _,?_,?_,?_,?_⟩,fun x=>?_⟩
 ·intro p h;cases h
 ·intro p h;cases h
 ·intro p c h;cases h
 ·intro p q h;cases h
 ·constructor
  ·exact fun h=>.inl ⟨h,rfl⟩
  ·rintro(⟨h,_⟩|⟨c,xs,p,q,_,h,_⟩)
   ·exact h
   ·cases h
theorem cor_none (a:Nat):Cor a (Lay.no a) (fun _=>False) false:=by
 refine⟨(cor_no a).spt,fun x=>?_⟩
 constructor
 ·exact fun h=>h.elim
 ·rintro(⟨_,h⟩|⟨c,xs,p,q,_,h,_⟩)
  ·cases h
  ·cases h
theorem cor_one (a:Nat) (f:UInt8→Bool) (T:Nat→UInt8→Bool) (hT:∀p c,T p c=(p==a && f c)):Cor a ⟨a+1,sOne a,sOne a,T,fun _ _=>false⟩ (fun x=>∃c,x= [c]∧f c=true) false:=by
 refine⟨⟨Nat.le_succ _,?_,?_,?_,?_⟩,fun x=>?_⟩
 ·intro p h;simp[sOne]at h;simp;omega
 ·intro p h;simp[sOne]at h;simp;omega
 ·intro p c h;simp[hT]at h;simp;omega
 ·intro p q h;cases h
 ·constructor
  ·rintro⟨c,rfl,hc⟩
   exact .inr ⟨c,[],a,a,rfl,by simp[sOne],by simp[hT,hc],.nil a,by simp[sOne]⟩
  ·rintro(⟨_,h⟩|⟨c,xs,p,q,rfl,h1,h2,h3,_⟩)
   ·cases h
   ·cases h3 with
    |nil=>simp[hT]at h2;exact⟨c,rfl,h2.2⟩
    |step he _ _=>cases he
section
variable {a:Nat} {g l:Lay} {em nt:Bool}
theorem seq_path (hg:Spt a g) (hl:Spt g.nx l) {p q:Nat} {xs:List UInt8} (h:Pth (g.seq em nt l) p xs q):
  ((g.nx≤p∧p<l.nx)→Pth l p xs q)∧((a≤p∧p<g.nx)→Pth g p xs q∨∃xs1 c xs2 p1 q1,xs=xs1++c::xs2∧Pth g p xs1 p1∧g.lst p1=true∧l.fst q1=true∧l.tk q1 c=true∧Pth l q1 xs2 q):=by
 induction h with
 |nil p=>exact⟨fun _=>.nil p,fun _=>.inl (.nil p)⟩
 | @step p p' q c xs he ht h ih=>
   simp only[Lay.seq,Bool.or_eq_true,Bool.and_eq_true]at he ht
   refine⟨fun hp=>?_,fun hp=>?_⟩
   ·rcases he with(he|he)|he
    ·have:=(hg.ed _ _ he).1;omega
    ·have hp':=(hl.ed _ _ he).2
     rcases ht with ht|ht
     ·have:=hg.tk _ _ ht;omega
     ·exact .step he ht (ih.1 hp')
    ·have:=hg.lst _ he.1;omega
   ·rcases he with(he|he)|he
    ·have hp':=(hg.ed _ _ he).2
     rcases ht with ht|ht
     ·rcases ih.2 hp' with k|⟨xs1,c1,xs2,p1,q1,rfl,k1,k2⟩
      ·exact .inl (.step he ht k)
      ·exact .inr ⟨c::xs1,c1,xs2,p1,q1,rfl,.step he ht k1,k2⟩
     ·have:=hl.tk _ _ ht;omega
    ·have:=(hl.ed _ _ he).1;omega
    ·have hp':=hl.fst _ he.2
     rcases ht with ht|ht
     ·have:=hg.tk _ _ ht;omega
     ·exact .inr ⟨[],c,xs,p,p',rfl,.nil p,he.1,he.2,ht,ih.1 hp'⟩
theorem seq_g {p q:Nat} {xs:List UInt8} (h:Pth g p xs q):Pth (g.seq em nt l) p xs q:=h.mono (fun p q h=>by simp[Lay.seq,h]) (fun p c h=>by simp[Lay.seq,h])
theorem seq_l {p q:Nat} {xs:List UInt8} (h:Pth l p xs q):Pth (g.seq em nt l) p xs q:=h.mono (fun p q h=>by simp[Lay.seq,h]) (fun p c h=>by simp[Lay.seq,h])
theorem cor_seq {G P:List UInt8→Prop} (hg:Cor a g G em) (hl:Cor g.nx l P nt):Cor a (g.seq em nt l) (fun x=>∃y z,x=y++z∧G y∧P z) (em && nt):=by
 have sg:=hg.spt
 have sl:=hl.spt
 have hle:=sg.le
 have hle2:=sl.le
 have ff:∀p,(g.seq em nt l).fst p=true↔g.fst p=true∨(em=true∧l.fst p=true):=fun p=>by
  cases em<;>simp[Lay.seq,sOr]
 have fl:∀p,(g.seq em nt l).lst p=true↔(nt=true∧g.lst p=true)∨l.lst p=true:=fun p=>by
  cases nt<;>simp[Lay.seq,sOr]
 refine⟨⟨Nat.le_trans hle hle2,fun p h=>?_,fun p h=>?_,fun p c h=>?_,fun p q h=>?_⟩,fun x=>?_⟩
 ·show a≤p∧p<l.nx
  rcases(ff p).1 h with h|⟨_,h⟩
  ·have:=sg.fst p h;omega
  ·have:=sl.fst p h;omega
 ·show a≤p∧p<l.nx
  rcases(fl p).1 h with⟨_,h⟩|h
  ·have:=sg.lst p h;omega
  ·have:=sl.lst p h;omega
 ·show a≤p∧p<l.nx
  simp only[Lay.seq,Bool.or_eq_true]at h
  rcases h with h|h
  ·have:=sg.tk p c h;omega
  ·have:=sl.tk p c h;omega
 ·show(a≤p∧p<l.nx)∧a≤q∧q<l.nx
  simp only[Lay.seq,Bool.or_eq_true,Bool.and_eq_true]at h
  rcases h with(h|h)|⟨h,k⟩
  ·have:=sg.ed p q h;omega
  ·have:=sl.ed p q h;omega
  ·have:=sg.lst p h;have:=sl.fst q k;omega
 ·constructor
  ·rintro⟨y,z,rfl,hy,hz⟩
   rcases(hg.wd y).1 hy with⟨rfl,e1⟩|⟨c,xs,p,q,rfl,h1,h2,h3,h4⟩
   ·rcases(hl.wd z).1 hz with⟨rfl,e2⟩|⟨c,xs,p,q,rfl,h1,h2,h3,h4⟩
    ·exact .inl ⟨rfl,by rw[e1,e2];rfl⟩
    ·exact .inr ⟨c,xs,p,q,rfl,(ff p).2 (.inr ⟨e1,h1⟩),by simp[Lay.seq,h2],seq_l h3,(fl q).2 (.inr h4)⟩
   ·rcases(hl.wd z).1 hz with⟨rfl,e2⟩|⟨c',xs',p',q',rfl,k1,k2,k3,k4⟩
    ·exact .inr ⟨c,xs,p,q,by simp,(ff p).2 (.inl h1),by simp[Lay.seq,h2],seq_g h3,(fl q).2 (.inl ⟨e2,h4⟩)⟩
    ·refine .inr ⟨c,xs++c'::xs',p,q',by simp,(ff p).2 (.inl h1),by simp[Lay.seq,h2],(seq_g h3).cat (.step ?_ (by simp[Lay.seq,k2]) (seq_l k3)),(fl q').2 (.inr k4)⟩
     simp[Lay.seq,h4,k1]
  ·rintro(⟨rfl,e⟩|⟨c,xs,p,q,rfl,h1,h2,h3,h4⟩)
   ·simp only[Bool.and_eq_true]at e
    exact⟨[],[],rfl,hg.nul.2 e.1,hl.nul.2 e.2⟩
   ·simp only[Lay.seq,Bool.or_eq_true]at h2
    rcases(ff p).1 h1 with k1|⟨e1,k1⟩
    ·have hp:=sg.fst p k1
     have t1:g.tk p c=true:=by
      rcases h2 with h2|h2
      ·exact h2
      ·have:=sl.tk p c h2;omega
     rcases(seq_path sg sl h3).2 hp with k|⟨xs1,c1,xs2,p1,q1,rfl,k2,k3,k4,k5,k6⟩
     ·have hq:=k.in sg hp
      rcases(fl q).1 h4 with⟨e2,h4⟩|h4
      ·exact⟨c::xs,[],by simp,(hg.wd _).2 (.inr ⟨c,xs,p,q,rfl,k1,t1,k,h4⟩),hl.nul.2 e2⟩
      ·have:=sl.lst q h4;omega
     ·have hq:=k6.in sl (sl.fst _ k4)
      rcases(fl q).1 h4 with⟨_,h4⟩|h4
      ·have:=sg.lst q h4;omega
      ·exact⟨c::xs1,c1::xs2,by simp,(hg.wd _).2 (.inr ⟨c,xs1,p,p1,rfl,k1,t1,k2,k3⟩),(hl.wd _).2 (.inr ⟨c1,xs2,q1,q,rfl,k4,k5,k6,h4⟩)⟩
    ·have hp:=sl.fst p k1
     have t1:l.tk p c=true:=by
      rcases h2 with h2|h2
      ·have:=sg.tk p c h2;omega
      ·exact h2
     have k:=(seq_path sg sl h3).1 hp
     have hq:=k.in sl hp
     rcases(fl q).1 h4 with⟨_,h4⟩|h4
     ·have:=sg.lst q h4;omega
     ·exact⟨[],c::xs,rfl,hg.nul.2 e1,(hl.wd _).2 (.inr ⟨c,xs,p,q,rfl,k1,t1,k,h4⟩)⟩
theorem alt_path (hg:Spt a g) (hl:Spt g.nx l) {p q:Nat} {xs:List UInt8} (h:Pth (g.alt l) p xs q):
  ((g.nx≤p∧p<l.nx)→Pth l p xs q)∧((a≤p∧p<g.nx)→Pth g p xs q):=by
 induction h with
 |nil p=>exact⟨fun _=>.nil p,fun _=>.nil p⟩
 | @step p p' q c xs he ht h ih=>
   simp only[Lay.alt,Bool.or_eq_true]at he ht
   refine⟨fun hp=>?_,fun hp=>?_⟩
   ·rcases he with he|he
    ·have:=(hg.ed _ _ he).1;omega
    ·have hp':=(hl.ed _ _ he).2
     rcases ht with ht|ht
     ·have:=hg.tk _ _ ht;omega
     ·exact .step he ht (ih.1 hp')
   ·rcases he with he|he
    ·have hp':=(hg.ed _ _ he).2
     rcases ht with ht|ht
     ·exact .step he ht (ih.2 hp')
     ·have:=hl.tk _ _ ht;omega
    ·have:=(hl.ed _ _ he).1;omega
theorem alt_g {p q:Nat} {xs:List UInt8} (h:Pth g p xs q):Pth (g.alt l) p xs q:=h.mono (fun p q h=>by simp[Lay.alt,h]) (fun p c h=>by simp[Lay.alt,h])
theorem alt_l {p q:Nat} {xs:List UInt8} (h:Pth l p xs q):Pth (g.alt l) p xs q:=h.mono (fun p q h=>by simp[Lay.alt,h]) (fun p c h=>by simp[Lay.alt,h])
theorem cor_alt {G P:List UInt8→Prop} (hg:Cor a g G em) (hl:Cor g.nx l P nt):Cor a (g.alt l) (fun x=>G x∨P x) (em || nt):=by
 have sg:=hg.spt
 have sl:=hl.spt
 have hle:=sg.le
 have hle2:=sl.le
 refine⟨⟨Nat.le_trans hle hle2,fun p h=>?_,fun p h=>?_,fun p c h=>?_,fun p q h=>?_⟩,fun x=>?_⟩
 ·show a≤p∧p<l.nx
  simp only[Lay.alt,sOr,Bool.or_eq_true]at h
  rcases h with h|h
  ·have:=sg.fst p h;omega
  ·have:=sl.fst p h;omega
 ·show a≤p∧p<l.nx
  simp only[Lay.alt,sOr,Bool.or_eq_true]at h
  rcases h with h|h
  ·have:=sg.lst p h;omega
  ·have:=sl.lst p h;omega
 ·show a≤p∧p<l.nx
  simp only[Lay.alt,Bool.or_eq_true]at h
  rcases h with h|h
  ·have:=sg.tk p c h;omega
  ·have:=sl.tk p c h;omega
 ·show(a≤p∧p<l.nx)∧a≤q∧q<l.nx
  simp only[Lay.alt,Bool.or_eq_true]at h
  rcases h with h|h
  ·have:=sg.ed p q h;omega
  ·have:=sl.ed p q h;omega
 ·constructor
  ·rintro(h|h)
   ·rcases(hg.wd x).1 h with⟨rfl,e1⟩|⟨c,xs,p,q,rfl,h1,h2,h3,h4⟩
    ·exact .inl ⟨rfl,by rw[e1];rfl⟩
    ·exact .inr ⟨c,xs,p,q,rfl,by simp[Lay.alt,sOr,h1],by simp[Lay.alt,h2],alt_g h3,by simp[Lay.alt,sOr,h4]⟩
   ·rcases(hl.wd x).1 h with⟨rfl,e1⟩|⟨c,xs,p,q,rfl,h1,h2,h3,h4⟩
    ·exact .inl ⟨rfl,by rw[e1,Bool.or_true]⟩
    ·exact .inr ⟨c,xs,p,q,rfl,by simp[Lay.alt,sOr,h1],by simp[Lay.alt,h2],alt_l h3,by simp[Lay.alt,sOr,h4]⟩
  ·rintro(⟨rfl,e⟩|⟨c,xs,p,q,rfl,h1,h2,h3,h4⟩)
   ·simp only[Bool.or_eq_true]at e
    rcases e with e|e
    ·exact .inl (hg.nul.2 e)
    ·exact .inr (hl.nul.2 e)
   ·simp only[Lay.alt,sOr,Bool.or_eq_true]at h1 h2 h4
    rcases h1 with k1|k1
    ·have hp:=sg.fst p k1
     have k:=(alt_path sg sl h3).2 hp
     have hq:=k.in sg hp
     refine .inl ((hg.wd _).2 (.inr ⟨c,xs,p,q,rfl,k1,?_,k,?_⟩))
     ·rcases h2 with h2|h2
      ·exact h2
      ·have:=sl.tk p c h2;omega
     ·rcases h4 with h4|h4
      ·exact h4
      ·have:=sl.lst q h4;omega
    ·have hp:=sl.fst p k1
     have k:=(alt_path sg sl h3).1 hp
     have hq:=k.in sl hp
     refine .inr ((hl.wd _).2 (.inr ⟨c,xs,p,q,rfl,k1,?_,k,?_⟩))
     ·rcases h2 with h2|h2
      ·have:=sg.tk p c h2;omega
      ·exact h2
     ·rcases h4 with h4|h4
      ·have:=sg.lst q h4;omega
      ·exact h4
end
theorem rep_l {l:Lay} {r:Bool} {p q:Nat} {xs:List UInt8} (h:Pth l p xs q):Pth (l.rep r) p xs q:=Pth.mono (l:=l) (m:=l.rep r) (fun p q k=>by simp[Lay.rep,k]) (fun p c k=>k) h
theorem rep_path {l:Lay} {p q:Nat} {xs:List UInt8} (h:Pth (l.rep true) p xs q):Pth l p xs q∨∃xs1 c xs2 p1 q1,xs=xs1++c::xs2∧Pth l p xs1 p1∧l.lst p1=true∧l.fst q1=true∧l.tk q1 c=true∧Pth (l.rep true) q1 xs2 q:=by
 induction h with
 |nil p=>exact .inl (.nil p)
 | @step p p' q c xs he ht h ih=>
   simp only[Lay.rep,Bool.or_eq_true,Bool.and_eq_true,true_and]at he ht
   rcases he with he|he
   ·rcases ih with k|⟨xs1,c1,xs2,p1,q1,rfl,k1,k2⟩
    ·exact .inl (.step he ht k)
    ·exact .inr ⟨c::xs1,c1,xs2,p1,q1,rfl,.step he ht k1,k2⟩
   ·exact .inr ⟨[],c,xs,p,p',rfl,.nil p,he.1,he.2,ht,h⟩
theorem rep_words {l:Lay} {P:List UInt8→Prop} (hw:∀x,Wd l x→P x):∀(n:Nat) {x:List UInt8},x.length≤n→Wd (l.rep true) x→Pls P x
 |0,x,hn,⟨c,xs,p,q,hx,_⟩=>by subst hx;simp at hn
 |n+1,x,hn,⟨c,xs,p,q,hx,h1,h2,h3,h4⟩=>by
  subst hx
  rcases rep_path h3 with k|⟨xs1,c1,xs2,p1,q1,rfl,k1,k2,k3,k4,k5⟩
  ·exact .one (hw _ ⟨c,xs,p,q,rfl,h1,h2,k,h4⟩)
  ·have e:c::(xs1++c1::xs2)=(c::xs1)++(c1::xs2):=by simp
   rw[e]
   refine .more (hw _ ⟨c,xs1,p,p1,rfl,h1,h2,k1,k2⟩) (rep_words hw n ?_ ⟨c1,xs2,q1,q,rfl,k3,k4,k5,h4⟩)
   simp at hn⊢;omega
theorem cor_rep {a:Nat} {l:Lay} {P:List UInt8→Prop} {em:Bool} (h:Cor a l P em) (o r:Bool):Cor a (l.rep r) (RepL P o r) (o || em):=by
 have s:=h.spt
 refine⟨⟨s.le,s.fst,s.lst,s.tk,fun p q k=>?_⟩,fun x=>?_⟩
 ·simp only[Lay.rep,Bool.or_eq_true,Bool.and_eq_true]at k
  rcases k with k|⟨⟨_,k1⟩,k2⟩
  ·exact s.ed p q k
  ·exact⟨s.lst p k1,s.fst q k2⟩
 ·cases r with
  |false=>
   have e:∀x,Wd (l.rep false) x↔Wd l x:=fun x=>by
    have:l.rep false=l:=by simp[Lay.rep]
    rw[this]
   unfold RepL
   rw[if_neg (by decide),e,h.wd]
   cases o<;>cases em<;>simp
  |true=>
   unfold RepL
   rw[if_pos rfl]
   constructor
   ·rintro(⟨rfl,rfl⟩|k)
    ·exact .inl ⟨rfl,rfl⟩
    ·induction k with
     |one hx=>
      rcases(h.wd _).1 hx with⟨rfl,e⟩|⟨c,xs,p,q,rfl,h1,h2,h3,h4⟩
      ·exact .inl ⟨rfl,by rw[e,Bool.or_true]⟩
      ·exact .inr ⟨c,xs,p,q,rfl,h1,h2,rep_l h3,h4⟩
     | @more x y hx k ih=>
       rcases(h.wd _).1 hx with⟨rfl,e⟩|⟨c,xs,p,q,rfl,h1,h2,h3,h4⟩
       ·exact ih
       ·rcases ih with⟨rfl,e⟩|⟨c',xs',p',q',rfl,k1,k2,k3,k4⟩
        ·exact .inr ⟨c,xs,p,q,by simp,h1,h2,rep_l h3,h4⟩
        ·refine .inr ⟨c,xs++c'::xs',p,q',by simp,h1,h2,(rep_l h3).cat (.step ?_ k2 k3),k4⟩
         have k1':l.fst p'=true:=k1
         simp[Lay.rep,h4,k1']
   ·rintro(⟨rfl,e⟩|k)
    ·simp only[Bool.or_eq_true]at e
     rcases e with e|e
     ·exact .inl ⟨e,rfl⟩
     ·exact .inr (.one (h.nul.2 e))
    ·exact .inr (rep_words (fun x hx=>(h.wd x).2 (.inr hx)) _ (Nat.le_refl _) k)
theorem Cor.iff {a:Nat} {l:Lay} {P Q:List UInt8→Prop} {em:Bool} (h:Cor a l P em) (hq:∀x,Q x↔P x):Cor a l Q em:=⟨h.spt,fun x=>(hq x).trans (h.wd x)⟩
mutual
theorem cor_P:∀(t:Pat) (a:Nat),Cor a (lyP t a) (Lg t) (nulB t)
 | .byte b,a=>by
   refine(cor_one a (fun c=>c==b) _ (fun p c=>rfl)).iff (fun x=>?_)
   simp[Lg]
 | .cls f,a=>by
   refine(cor_one a f _ (fun p c=>rfl)).iff (fun x=>?_)
   simp[Lg]
 | .rep t o r,a=>by
   have:=cor_rep (cor_P t a) o r
   simp only[lyP,nulB,Lg]
   exact this
 | .alt os,a=>by
   have:=cor_A os a (Lay.no a) _ _ (cor_none a)
   simp only[lyP,nulB,Lg]
   refine(show Cor a (lyA os (Lay.no a)) _ (nulA os)from ?_)
   rw[Bool.false_or]at this
   exact this.iff (fun x=>by simp)
theorem cor_A:∀(os:List (List Pat)) (a:Nat) (g:Lay) (G:List UInt8→Prop) (em:Bool),Cor a g G em→Cor a (lyA os g) (fun x=>G x∨LgA os x) (em || nulA os)
 | [],a,g,G,em,h=>by
   simp only[lyA,nulA,LgA,or_false,Bool.or_false]
   exact h
 |ts::os,a,g,G,em,h=>by
  have h1:=cor_S ts g.nx (Lay.no g.nx) _ _ (cor_no g.nx)
  rw[Bool.true_and]at h1
  have h2:=cor_A os a _ _ _ (cor_alt h h1)
  simp only[lyA,nulA,LgA,←Bool.or_assoc]
  refine h2.iff (fun x=>?_)
  have e:(∃y z,x=y++z∧y= []∧LgS ts z)↔LgS ts x:=by
   constructor
   ·rintro⟨y,z,rfl,rfl,h⟩;exact h
   ·exact fun h=>⟨[],x,rfl,rfl,h⟩
  rw[e,or_assoc]
theorem cor_S:∀(ts:List Pat) (a:Nat) (g:Lay) (G:List UInt8→Prop) (em:Bool),Cor a g G em→Cor a (lyS ts em g) (fun x=>∃y z,x=y++z∧G y∧LgS ts z) (em && nulS ts)
 | [],a,g,G,em,h=>by
   simp only[lyS,nulS,LgS,Bool.and_true]
   refine h.iff (fun x=>?_)
   constructor
   ·rintro⟨y,z,rfl,hy,rfl⟩;simpa using hy
   ·exact fun h=>⟨x,[],by simp,h,rfl⟩
 |t::ts,a,g,G,em,h=>by
  have h2:=cor_S ts a _ _ _ (cor_seq h (cor_P t g.nx))
  simp only[lyS,nulS,LgS,←Bool.and_assoc]
  refine h2.iff (fun x=>?_)
  constructor
  ·rintro⟨y,z,rfl,hy,u,v,rfl,hu,hv⟩;exact⟨y++u,v,by simp,⟨y,u,rfl,hy,hu⟩,hv⟩
  ·rintro⟨y,z,rfl,⟨u,v,rfl,hu,hv⟩,hz⟩;exact⟨u,v++z,by simp,hu,v,z,rfl,hv,hz⟩
end
def ofB (f:Nat→Bool):Nat→Nat
 |0=>0
 |n+1=>ofB f n |||(if f n=true then 2^n else 0)
theorem ofB_bit (f:Nat→Bool):∀(n j:Nat),(ofB f n).testBit j=(decide (j<n) && f j)
 |0,j=>by simp[ofB]
 |n+1,j=>by
  unfold ofB
  rw[Nat.testBit_or,ofB_bit f n j]
  by_cases hf:f n=true
  ·rw[if_pos hf,Nat.testBit_two_pow]
   by_cases h:j=n
   ·subst h;simp[hf]
   ·have h1:decide (n=j)=false:=by simp;omega
    have h2:decide (j<n+1)=decide (j<n):=by rw[decide_eq_decide];omega
    rw[h1,h2];simp
  ·rw[if_neg hf,Nat.zero_testBit]
   by_cases h:j=n
   ·subst h;simp[hf]
   ·have h2:decide (j<n+1)=decide (j<n):=by rw[decide_eq_decide];omega
    rw[h2];simp
theorem ofB_lt (f:Nat→Bool) (n:Nat):ofB f n<2^n:=by
 refine Nat.lt_pow_two_of_testBit _ (fun i hi=>?_)
 rw[ofB_bit]
 have:decide (i<n)=false:=by simp;omega
 rw[this];rfl
theorem eq_ofB {x n:Nat} {f:Nat→Bool} (hx:x<2^n) (h:∀j,j<n→x.testBit j=f j):x=ofB f n:=by
 refine Nat.eq_of_testBit_eq (fun j=>?_)
 rw[ofB_bit]
 by_cases hj:j<n
 ·rw[h j hj];simp[hj]
 ·rw[Nat.testBit_lt_two_pow (Nat.lt_of_lt_of_le hx (Nat.pow_le_pow_right (by decide) (by omega)))]
  simp[hj]
theorem ofB_congr {f g:Nat→Bool} {n:Nat} (h:∀j,j<n→f j=g j):ofB f n=ofB g n:=eq_ofB (ofB_lt f n) (fun j hj=>by rw[ofB_bit,h j hj];simp[hj])
def wdF (S:PS) (i b:Nat):Nat:=ofB (fun j=>S (64*i+j) && decide (b≤j)) 64
def wdN (S:PS) (i:Nat):Nat:=ofB (fun j=>S (64*i+j)) 64
theorem wdF_zero (S:PS) (i:Nat):wdF S i 0=wdN S i:=ofB_congr (fun j _=>by simp)
theorem wdN_lt (S:PS) (i:Nat):wdN S i<18446744073709551616:=ofB_lt _ 64
theorem wdF_lt (S:PS) (i b:Nat):wdF S i b<18446744073709551616:=ofB_lt _ 64
def sAnd (F G:PS):PS:=fun i=>F i && G i
theorem wd_or (S T:PS) (i:Nat):bits .or .u64 (wdN S i:Int) (wdN T i:Int)=((wdN (sOr S T) i:Nat):Int):=by
 rw[bits_or_u64_nat _ _ (wdN_lt _ _) (wdN_lt _ _)]
 congr 1
 refine eq_ofB (Nat.or_lt_two_pow (wdN_lt _ _) (wdN_lt _ _)) (fun j hj=>?_)
 rw[Nat.testBit_or]
 unfold wdN
 rw[ofB_bit,ofB_bit]
 simp[hj,sOr]
theorem wd_and (S T:PS) (i:Nat):bits .and .u64 (wdN S i:Int) (wdN T i:Int)=((wdN (sAnd S T) i:Nat):Int):=by
 rw[bits_and_u64_nat _ _ (wdN_lt _ _) (wdN_lt _ _)]
 congr 1
 refine eq_ofB (Nat.and_lt_two_pow _ (wdN_lt _ _)) (fun j hj=>?_)
 rw[Nat.testBit_and]
 unfold wdN
 rw[ofB_bit,ofB_bit]
 simp[hj,sAnd]
theorem wd_with (S:PS) (a i:Nat) (hi:i=a/64):bits .or .u64 (wdN S i:Int) ((2^(a%64):Nat):Int)=((wdN (sOr S (sOne a)) i:Nat):Int):=by
 have hp:2^(a%64)<18446744073709551616:=Nat.pow_lt_pow_right (a:=2) (by decide) (Nat.mod_lt a (by decide):a%64<64)
 rw[bits_or_u64_nat _ _ (wdN_lt _ _) hp]
 congr 1
 refine eq_ofB (Nat.or_lt_two_pow (wdN_lt _ _) hp) (fun j hj=>?_)
 rw[Nat.testBit_or,Nat.testBit_two_pow]
 unfold wdN
 rw[ofB_bit]
 have h:decide (a%64=j)=(64*i+j==a):=by
  rw[Bool.eq_iff_iff,decide_eq_true_eq,beq_iff_eq];omega
 simp only[hj,decide_true,Bool.true_and,sOr,sOne,h]
theorem wd_other (S:PS) (a i:Nat) (hi:¬i=a/64):wdN (sOr S (sOne a)) i=wdN S i:=by
 refine ofB_congr (fun j hj=>?_)
 have h:(64*i+j==a)=false:=by rw[beq_eq_false_iff_ne];omega
 simp only[sOr,sOne,h,Bool.or_false]
theorem low_bit (x:Nat) (h0:x≠0) (hx:x<18446744073709551616):Lib.ctz 64 x<64∧x.testBit (Lib.ctz 64 x)=true∧(∀j,j<Lib.ctz 64 x→x.testBit j=false)∧∀j,(x &&& (x-1)).testBit j=(decide (Lib.ctz 64 x<j) && x.testBit j):=by
 obtain⟨m,hm,hk⟩:=Lib.ctzFrom_spec 64 x (by omega) hx
 have e:Lib.ctz 64 x=Lib.ctzFrom 64 x:=by simp[Lib.ctz,h0]
 rw[e]
 generalize Lib.ctzFrom 64 x=k at hm hk
 have hb:∀j,x.testBit j=(decide (k≤j) && (2*m+1).testBit (j-k)):=fun j=>by
  rw[hm,Nat.mul_comm,Nat.testBit_mul_two_pow]
 have hp:0<2^k:=Nat.pow_pos (by decide)
 have hd:(x-1)/2^k=2*m:=by
  have h1:x-1=2^k*(2*m)+(2^k-1):=by rw[hm,Nat.mul_add];omega
  rw[h1,Nat.mul_add_div hp,Nat.div_eq_of_lt (by omega),Nat.add_zero]
 have hb1:∀j,k≤j→(x-1).testBit j=(2*m).testBit (j-k):=fun j hj=>by
  rw[←hd,Nat.testBit_div_two_pow]
  congr 1
  omega
 refine⟨hk,by rw[hb];simp,fun j hj=>by rw[hb];have:decide (k≤j)=false:=by simp;omega
                                       rw[this];rfl,fun j=>?_⟩
 rw[Nat.testBit_and,hb j]
 by_cases h1:k≤j
 ·rw[hb1 j h1]
  by_cases h2:j=k
  ·subst h2;simp
  ·obtain⟨t,rfl⟩:∃t,j=k+(t+1):=⟨j-k-1,by omega⟩
   have e3:k+(t+1)-k=t+1:=by omega
   have e4:decide (k<k+(t+1))=true:=by simp
   have d1:(2*m+1)/2=m:=by omega
   have d2:(2*m)/2=m:=by omega
   rw[e3,e4,Nat.testBit_succ,Nat.testBit_succ,d1,d2]
   simp
 ·have h2:decide (k≤j)=false:=by simp;omega
  have h3:decide (k<j)=false:=by simp;omega
  rw[h2,h3];simp
theorem wdF_low {S:PS} {i b x:Nat} (hx:x=wdF S i b) (h0:x≠0):Lib.ctz 64 x<64∧S (64*i+Lib.ctz 64 x)=true∧b≤Lib.ctz 64 x∧(∀j,b≤j→j<Lib.ctz 64 x→S (64*i+j)=false)∧x &&& (x-1)=wdF S i (Lib.ctz 64 x+1):=by
 have hl:x<18446744073709551616:=by rw[hx];exact wdF_lt _ _ _
 obtain⟨h1,h2,h3,h4⟩:=low_bit x h0 hl
 generalize Lib.ctz 64 x=k at h1 h2 h3 h4
 have hb:∀j,j<64→x.testBit j=(S (64*i+j) && decide (b≤j)):=fun j hj=>by
  rw[hx];unfold wdF;rw[ofB_bit];simp[hj]
 rw[hb k h1,Bool.and_eq_true,decide_eq_true_eq]at h2
 refine⟨h1,h2.1,h2.2,fun j hbj hj=>?_,?_⟩
 ·have:=h3 j hj
  rw[hb j (by omega)]at this
  simpa [hbj]using this
 ·refine eq_ofB (Nat.and_lt_two_pow _ (by omega)) (fun j hj=>?_)
  rw[h4 j,hb j hj]
  by_cases q:k<j
  ·have q1:decide (k+1≤j)=true:=by simp;omega
   have q2:decide (b≤j)=true:=by have:=h2.2;simp;omega
   rw[q1,q2];simp[q]
  ·have q1:decide (k+1≤j)=false:=by simp;omega
   rw[q1];simp[q]
theorem wdF_none {S:PS} {i b:Nat} (h:wdF S i b=0) (j:Nat) (hb:b≤j) (hj:j<64):S (64*i+j)=false:=by
 have h1:(wdF S i b).testBit j=(S (64*i+j) && decide (b≤j)):=by unfold wdF;rw[ofB_bit];simp[hj]
 rw[h,Nat.zero_testBit]at h1
 simpa [hb]using h1.symm
theorem sub_one_u64 (x:Nat) (h0:x≠0) (hx:x<18446744073709551616):bits .and .u64 (x:Int) (IntKind.u64.wrap ((x:Int)-1))=((x &&& (x-1):Nat):Int):=by
 have e1:IntKind.u64.wrap ((x:Int)-1)=((x-1:Nat):Int):=by rw[IntKind.wrap_u64];omega
 rw[e1,bits_and_u64_nat x _ hx (by omega)]
def psL (S:PS):List Value:= [.int .u64 (wdN S 0:Int),.int .u64 (wdN S 1:Int),.int .u64 (wdN S 2:Int),.int .u64 (wdN S 3:Int)]
abbrev psV (S:PS):Value:=.agg #[.int .u64 (wdN S 0:Int),.int .u64 (wdN S 1:Int),.int .u64 (wdN S 2:Int),.int .u64 (wdN S 3:Int)]
theorem wdN_congr {S T:PS} (h:∀p,p<256→S p=T p) {i:Nat} (hi:i<4):wdN S i=wdN T i:=ofB_congr (fun j hj=>h _ (by omega))
theorem wdN_no (i:Nat):wdN sNo i=0:=by
 refine(eq_ofB (by decide) (fun j _=>?_)).symm
 simp[sNo]
theorem wdN_inj {S T:PS} {i:Nat} (h:wdN S i=wdN T i) (j:Nat) (hj:j<64):S (64*i+j)=T (64*i+j):=by
 have h1:(wdN S i).testBit j=S (64*i+j):=by unfold wdN;rw[ofB_bit];simp[hj]
 have h2:(wdN T i).testBit j=T (64*i+j):=by unfold wdN;rw[ofB_bit];simp[hj]
 rw[←h1,←h2,h]
theorem words_inj {S T:PS} (h:∀i,i<4→wdN S i=wdN T i) (p:Nat) (hp:p<256):S p=T p:=by
 have:=wdN_inj (h (p/64) (by omega)) (p%64) (by omega)
 rwa [show 64*(p/64)+p%64=p by omega]at this
end Go.Proofs.YtkidabedcgngcaaGreatDoor
namespace Go.Proofs.YtkidabedcgngcaaGreatDoor
open Go.ChangeShapes Go.WideShapes Go.ChangeAt Go.RowKit Go.Deep Go.Shelf
set_option linter.unusedVariables false
set_option linter.unusedSimpArgs false
set_option maxRecDepth 100000
def TabD (w:World):Prop:=∀j,j<64→w.cell? ⟨1,j,none⟩=some (.int .u8 (Lib.deBruijn64tab.getD j 0))
theorem TabD.lt {w:World} (h:TabD w):1<w.heap.size:=by
 have h0:=h 0 (by omega)
 apply Classical.byContradiction
 intro hn
 rw[World.cell?,Array.getElem?_eq_none (by simp only;omega)]at h0
 simp at h0
theorem neg_key (x a:Nat) (hx:x<18446744073709551616) (hx0:x≠0) (hlow:x &&& (18446744073709551616-x)=a):
  IntKind.u64.wrap (bits BinOp.and IntKind.u64 (x:Int) (IntKind.u64.wrap (-(x:Int)))*285870213051353865)/288230376151711744=((a*285870213051353865%18446744073709551616/288230376151711744:Nat):Int):=by
 have e1:IntKind.u64.wrap (-(x:Int))=((18446744073709551616-x:Nat):Int):=by rw[IntKind.wrap_u64];omega
 rw[e1,bits_and_u64_nat x _ hx (by omega),hlow,IntKind.wrap_u64]
 omega
set_option maxHeartbeats 1000000 in
theorem tz_at (x k idx:Nat) (w:World) (hx0:((x:Int)==0)=false)
  (key:IntKind.u64.wrap (bits BinOp.and IntKind.u64 (x:Int) (IntKind.u64.wrap (-(x:Int)))*285870213051353865)/288230376151711744=(idx:Int))
  (hi:idx<64) (hk:k<64) (hcell:w.cell? ⟨1,idx,none⟩=some (.int .u8 k)):
  Calls Tryz.prog 167 #[.int .u64 x] w fun e w'=>e=.returned (.int .i64 k)∧w'=w:=by
 go_enter Tryz.func167,Tryz.ntmps167
 go_wp2_with (simp only[key])
 go_ret
 exact⟨rfl,rfl⟩
theorem tz_core (x:Nat) (hx:x<18446744073709551616) (hx0:x≠0) (w:World) (hT:TabD w):Calls Tryz.prog 167 #[.int .u64 x] w fun e w'=>e=.returned (.int .i64 (Lib.ctz 64 x))∧w'=w:=by
 obtain⟨hlow,hk⟩:=Lib.lowest_bit 64 x hx0 hx
 obtain⟨hi,htab⟩:=Lib.deBruijn64_at _ hk
 have hcell:=hT _ hi
 rw[htab]at hcell
 exact tz_at x _ _ w (by simp;omega) (neg_key x _ hx hx0 hlow) hi hk hcell
theorem ps_index (S:PS) {k:Nat} (hk:k<4) (w:World):(Instr.index 178 (psV S) (.int .i64 (k:Int))).run Tryz.prog w=.ok (.int .u64 (wdN S k:Int)) w:=by
 rcases(by omega:k=0∨k=1∨k=2∨k=3)with rfl|rfl|rfl|rfl<;>kernel_rfl
set_option maxHeartbeats 4000000 in
theorem members_in (S:PS) (l m:Nat) (hm:1≤m) (J:Nat→World→Prop)
  (hY:∀k x W,J k W→k≤x→x<256→S x=true→(∀j,k≤j→j<x→S j=false)→YieldAt Fence.wide (m-1) Tryz.prog l #[.int .i64 (x:Int)] W fun e W'=>e=.returned (.bool true)∧J (x+1) W')
  (hJs:∀k k' W,J k W→k≤k'→(∀j,k≤j→j<k'→S j=false)→J k' W) (hJd:∀k W,J k W→J k W.drew) (hJa:∀k W (o:Obj),J k W→J k (W.alloc o)) (hJt:∀k W,J k W→TabD W) (W:World) (h0:J 0 W):
  CallsIn Fence.wide m Tryz.prog 160 #[psV S,.func (.yield l) #[] #[]] W fun e W'=>(∃v,e=.returned v)∧J 256 W':=by
 have HJ0:Hid (J 0 (W.alloc (.cells (psL S).toArray 178))):=hJa _ _ _ h0
 refine callsIn_of_wp Tryz.func160 rfl trivial ?_ rfl
 simp only[Tryz.ntmps160,List.size_toArray,List.length_cons,List.length_nil,Nat.reduceAdd,Nat.reduceSub,Array.replicate_succ,Array.replicate_zero,List.push_toArray,List.append_toArray,List.nil_append,List.cons_append]
 gi_wp2
 gi_loopw [7] (fun iv wr=>∃i:Nat,i≤4∧iv=.int .i64 (i:Int)∧J (64*i) wr) (fun iv _=>4-(intOf iv).toNat)
 case atStart=>exact⟨0,by omega,rfl,HJ0.out⟩
 case round=>
  obtain⟨i,hi,rfl,hJi⟩:=hrel
  by_cases hlt:i<4
  ·have zi:(i:Int)<4:=by omega
   have hix:=fun w=>ps_index S hlt w
   have HJi:Hid (J (64*i) wr):=hJi
   clear hJi
   gi_wp2
   gi_loopw [5] (fun xv wr=>∃x b:Nat,xv=.int .u64 (x:Int)∧Hid (x=wdF S i b)∧b≤64∧Hid (J (64*i+b) wr)) (fun xv _=>(intOf xv).toNat)
   case atStart=>exact⟨wdN S i,0,rfl,(wdF_zero S i).symm,by omega,HJi.out⟩
   case round=>
    obtain⟨x,b,rfl,HX,hb,HJb⟩:=hrel
    by_cases hx0:x=0
    ·subst hx0
     have hn:Hid (J (64*(i+1)) wr):=hJs _ _ _ HJb.out (by omega) (fun j h1 h2=>by
      have:=wdF_none HX.symm (j-64*i) (by omega) (by omega)
      rwa [show 64*i+(j-64*i)=j by omega]at this)
     clear HJb HX HJi
     gi_wp2
     go_roundw
     case rel=>exact⟨i+1,by omega,by go_num,hn.out⟩
     case measure=>simp[intOf];omega
    ·have hxl:x<18446744073709551616:=by rw[HX.out];exact wdF_lt _ _ _
     obtain⟨h1,h2,h3,h4,h5⟩:=wdF_low HX.out hx0
     have HT:=tz_core x hxl hx0 wr (hJt _ _ HJb.out)
     obtain⟨k,hk⟩:=qE (Lib.ctz 64 x)
     rw[←hk]at h1 h2 h3 h4 h5 HT
     obtain⟨fn,tmps,assign,body,hy,hR⟩:=hY _ (64*i+k) wr HJb.out (by omega) (by omega) h2 (fun j q1 q2=>by
      have:=h4 (j-64*i) (by omega) (by omega)
      rwa [show 64*i+(j-64*i)=j by omega]at this)
     have e0:((64*i+k:Nat):Int)=(i:Int)*64+(k:Int):=by omega
     rw[e0]at hy
     have zx:((x:Int)==0)=false:=by simp;omega
     have HN:Hid (x &&& (x-1)=wdF S i (k+1)∧x &&& (x-1)<x):=⟨h5,by have:=Nat.and_le_right (n:=x) (m:=x-1);omega⟩
     have HS1:bits .and .u64 (x:Int) ((x:Int)-1)=((x &&& (x-1):Nat):Int):=by
      have:=sub_one_u64 x hx0 hxl
      rwa [IntKind.wrap_u64,Int.emod_eq_of_lt (by omega) (by omega)]at this
     have HHT:Hid (Calls Tryz.prog 167 #[.int .u64 (x:Int)] wr fun e w'=>e=.returned (.int .i64 (k:Int))∧w'=wr):=HT
     obtain⟨y,hyy⟩:=qE (x &&& (x-1))
     rw[←hyy]at HS1 HN
     clear HT hk h2 h3 h4 h5 HJi HJb e0 hyy
     gi_wp2
     refine⟨trivial,(callsIn_wide.2 HHT.out).mono ?_⟩
     rintro e w' ⟨rfl,hw'⟩
     rw[hw']
     clear hw' HHT
     gi_wp2
     refine hR.mono ?_
     rintro e W3 ⟨rfl,hJ3⟩
     have HJ3:Hid (J (64*i+(k+1)) W3):=hJ3
     clear hJ3 hR hy
     gi_wp2_with (simp only[HS1])
     go_roundw
     case rel=>exact⟨y,k+1,by first|rfl|rw[HS1],HN.1,by omega,HJ3.out⟩
     case measure=>have:=HN.2;simp[intOf,HS1];omega
  ·obtain rfl:i=4:=by omega
   gi_wp2
   go_end0
   exact⟨⟨_,rfl⟩,hJi⟩
theorem wp_range_mem {g:Operand} {ps:Array Tmp} {assign body:Code} {Q:Exit→Act→World→Prop} {a:Act} {w:World} {n:Nat} (h1:2≤n) (S:PS)
  (hg:a.eval g=.func (.func 160) #[psV S] #[]) (hps:ps.size=1) (I:Nat→World→Prop) (hI:OwnFrom w.heap.size I) (hIt:∀k W,I k W→TabD W)
  (hIs:∀k k' W,I k W→k≤k'→(∀j,k≤j→j<k'→S j=false)→I k' W) (h0:I 0 w) (a₁:Nat→Act)
  (hassign:∀(l x:Nat) (W:World) (K:Act→World→Prop),K (a₁ x) W→assign.wpIn (Fence.wide.inRound l) (n-1-1) Tryz.prog (Exit.then K (fun _ _ _=>False)) {tmps:=(ps.zip #[.int .i64 (x:Int)]).foldl (fun t (p,v)=>t.setIfInBounds p v) a.tmps,defers:= []} W)
  (hbody:∀(l k x:Nat) (W:World),I k W→k≤x→x<256→S x=true→(∀j,k≤j→j<x→S j=false)→body.wpIn (Fence.wide.inRound l) (n-1-1) Tryz.prog (fun e _ W'=>e=.normal∧KeepsFrom w.heap.size W W'∧I (x+1) W') (a₁ x) W)
  (hdone:∀(D:Nat) (W:World),w.heap.size≤D→I 256 W→W.heap[D]?=some (.deferred (some []))→Q .normal {a with defers:={target:=.collected D,args:=#[]}::a.defers} W):
  (Code.rangeFunc g ps assign body).wpIn Fence.wide n Tryz.prog Q a w:=by
 refine wpIn_rangeFunc ?_
 intro fn hfn
 obtain⟨rec,hrec⟩:∃rec:LoopState→Option Code→Loop,rec=fun st pe=>{state:=st,pending:=pe,fn,tmps:=a.tmps,params:=ps,assign,body,defers:=w.heap.size}:=⟨_,rfl⟩
 obtain⟨W1,hW1⟩:∃W1,(w.alloc (.deferred (some []))).alloc (.loop (rec .ready none))=W1:=⟨_,rfl⟩
 have hL1:W1.heap[w.heap.size+1]?=some (.loop (rec .ready none)):=by
  rw[←hW1];have:=World.alloc_heap_new (w.alloc (.deferred (some []))) (.loop (rec .ready none));rwa [World.size_alloc]at this
 have hK1:W1.heap[w.heap.size]?=some (.deferred (some [])):=by
  rw[←hW1];exact(Below.heap_alloc _ _ _ (by simp)).trans (World.alloc_heap_new w _)
 have hI1:I 0 W1:=by rw[←hW1];exact hI.alloc _ (hI.alloc _ h0)
 refine⟨w.heap.size+1,[{target:=.collected w.heap.size,args:=#[]}],W1,{target:=.fn (.func 160) #[],args:=#[psV S,.func (.yield (w.heap.size+1)) #[] #[]]},W1,160,
  #[psV S,.func (.yield (w.heap.size+1)) #[] #[]],W1,?_,?_,fun _ _=>trivial,?_,fun _=>by omega,?_⟩
 ·rw[←hW1,hrec];exact run_enterLoop_outer _ _ _ _ _
 ·simp only[resolve,hg]
  simp[go_sem]
 ·simp[invoke,go_sem]
 ·have hkeep:∀(k:Nat) {A B:World} {row:Option Nat},(I k A∧A.heap[w.heap.size+1]?=some (.loop (rec .ready none))∧A.heap[w.heap.size]?=some (.deferred (some [])))→A.grownBy B none→(I k B∧B.heap[w.heap.size+1]?=some (.loop (rec .ready none))∧B.heap[w.heap.size]?=some (.deferred (some []))):=fun k A B row h hgr=>
   ⟨hI k A B none h.1 hgr (fun r e=>by cases e),(hgr.block _ (Array.getElem?_eq_some_iff.1 h.2.1).1 (by simp)).trans h.2.1,(hgr.block _ (Array.getElem?_eq_some_iff.1 h.2.2).1 (by simp)).trans h.2.2⟩
  refine(members_in S (w.heap.size+1) (n-1) (by omega) (fun k W=>I k W∧W.heap[w.heap.size+1]?=some (.loop (rec .ready none))∧W.heap[w.heap.size]?=some (.deferred (some []))) ?_ (fun k k' W h q1 q2=>⟨hIs k k' W h.1 q1 q2,h.2⟩) (fun k W h=>hkeep k (row:=none) h ⟨rfl,rfl,rfl,Nat.le_refl _,fun _ _ _=>rfl⟩) (fun k W o h=>hkeep k (row:=none) h (World.grownBy_alloc W o none)) (fun k W h=>hIt k W h.1) W1 ⟨hI1,hL1,hK1⟩).mono ?_
  ·rintro k x W ⟨hi,hl,hk⟩ hkx hx hS hbet
   have hlt:w.heap.size+1<W.heap.size:=(Array.getElem?_eq_some_iff.1 hl).1
   have hy:=run_yield (P:=Tryz.prog) (args:=#[.int .i64 (x:Int)]) hl (by rw[hrec];exact hps.symm)
   rw[hrec]at hy
   refine⟨fn,_,assign,body,hy,roundIn_of_wpIn hfn (hassign _ x W _ ⟨_,run_beginRound hl (by rw[hrec]),?_⟩)⟩
   have hl2:(W.putObj (w.heap.size+1) (.loop {rec .ready none with state:=.busy})).heap[w.heap.size+1]?=some (.loop {rec .ready none with state:=.busy}):=World.putObj_heap_same hlt
   have hk2:(W.putObj (w.heap.size+1) (.loop {rec .ready none with state:=.busy})).heap[w.heap.size]?=some (.deferred (some [])):=(World.putObj_heap_other (by omega)).trans hk
   refine wpIn_mono (hbody _ k x _ (hI.putObj _ hi (by omega) hl rfl) hkx hx hS hbet) ?_
   exact zzQ38
  ·exact zzQ53
end Go.Proofs.YtkidabedcgngcaaGreatDoor
