import Derived.Test.YtgnpcenpcmdlfaaGreatDoorTkAH
import Derived.Test.YtgnpcenpcmdlfaaGreatDoorTkAO
namespace Go.Proofs.YtgnpcenpcmdlfaaGreatDoor.exParse
open Go.ChangeShapes Go.WideShapes Go.ChangeAt Go.WideMaps Go.WideElems Go.RowKit
set_option linter.unusedVariables false
set_option linter.unusedSimpArgs false
set_option maxRecDepth 100000
theorem tPows:(Tryz.prog.globals[4]?).map (·.type)=some 199:=by kernel_rfl
theorem cU64:Tryz.prog.cellsOf 50=1:=by kernel_rfl
theorem cPows:Tryz.prog.cellsOf 199=20:=by kernel_rfl
theorem yU6 {W:World} (h:laidMetH Tryz.prog [("math/bits.deBruijn32tab",Rows.laid_math_bits_deBruijn32tab),("math/bits.deBruijn64tab",Rows.laid_math_bits_deBruijn64tab),("internal/strconv.uint64pow10",Rows.laid_internal_strconv_uint64pow10),("strconv.ErrRange",Rows.laid_strconv_ErrRange),("strconv.ErrSyntax",Rows.laid_strconv_ErrSyntax),("loop.example/s01854/impl.nodeWords",Rows.laid_loop_example_s01854_impl_nodeWords)] W):Gl W∧yGk W∧yF6 W∧7≤W.heap.size:=by have hE:=yU7 h;rw[MakeChecks.laidMetH_plain _ _ _ (by kernel_rfl)]at h;obtain⟨ps,⟨g0,t0,cs0,f0,p0,q0,hg0,ht0,hv0,hd0,⟨g1,t1,cs1,f1,p1,q1,hg1,ht1,hv1,hd1,⟨g2,t2,cs2,f2,p2,q2,hg2,ht2,hv2,hd2,⟨g3,t3,cs3,f3,p3,q3,hg3,ht3,hv3,hd3,⟨g4,t4,cs4,f4,p4,q4,hg4,ht4,hv4,hd4,⟨g5,t5,cs5,f5,p5,q5,hg5,ht5,hv5,hd5,_,_⟩,_⟩,_⟩,_⟩,_⟩,_⟩,_⟩:=h;obtain rfl:=Option.some.inj (yMt.symm.trans hg2);obtain rfl:=Option.some.inj (tPows.symm.trans ht2);refine⟨⟨fun k hk=>hE.1 k hk,?_⟩,hE⟩;have hc:=Lib.cells_of_tab (zs:=Lib.pow10Tab) Tryz.underlying199 Tryz.underlying50 cU64 cPows hd2;unfold Lib.TabIs;rw[hv2,←hc]
end Go.Proofs.YtgnpcenpcmdlfaaGreatDoor.exParse
