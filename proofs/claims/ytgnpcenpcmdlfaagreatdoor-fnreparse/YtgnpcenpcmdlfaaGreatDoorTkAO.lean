import Derived.Test.YtgnpcenpcmdlfaaGreatDoorTkAK
import Derived.Test.YtgnpcenpcmdlfaaGreatDoorTie
import Derived.Test.YtgnpcenpcmdlfaaGreatDoorCards
import Derived.ProofKit
import Derived.LaidMore
import Derived.OpenShut
import Derived.Lib.LaidTab
namespace Go.Proofs.YtgnpcenpcmdlfaaGreatDoor.exParse
open Go.ChangeShapes Go.WideShapes Go.ChangeAt Go.WideMaps Go.WideElems Go.RowKit
set_option linter.unusedVariables false
set_option linter.unusedSimpArgs false
set_option maxRecDepth 100000
theorem yXg:Tryz.prog.globalNamed "loop.example/s01854/impl.nodeWords" =some 0:=by kernel_rfl
theorem yW7:(Tryz.prog.globals[0]?).map (·.type)=some 119:=by kernel_rfl
theorem gD64:Tryz.prog.globalNamed "math/bits.deBruijn64tab" =some 6:=by kernel_rfl
theorem cStr:Tryz.prog.cellsOf 9=1:=by kernel_rfl
theorem yW6 {P:Program} {W:World} {n:String} {g:Nat} {cs:Array Value} (hg:P.globalNamed n=some g) (h:W.var? P n=some cs):g<W.heap.size:=by
 unfold World.var? at h;rw[hg]at h;simp only[Option.bind_some]at h;by_cases hlt:g<W.heap.size
 ·exact hlt
 ·rw[Array.getElem?_eq_none (by omega)]at h;simp at h
theorem yN3 {H:Type} {enc:TypeId×Value→H} {P:Program} {w:World} {base:Nat} {sp:Nat→Bool} {held:Bool} {fuel:Nat} {t e:TypeId} {n:Nat} {cs:List Value} {zs:List (List UInt8)} {p:List MemPlace}
  (ht:P.underlying t=some (.array n e)) (he:P.underlying e=some .string) (hce:P.cellsOf e=1)
  (h:DataW.trod enc P w base sp held fuel t cs=some (.agg (zs.map fun z=>.lit (.string z)),p)):∀(i:Nat) (z:List UInt8),zs[i]?=some z→cs[i]?=some (Value.string ⟨z.toArray⟩):=by
 obtain⟨xs,m,rfl,hx,hl,hn,hel⟩:=DataW.trod_array ht h;simp only[Prod.mk.injEq,DataW.agg.injEq]at hx;intro i z hz;have hlen:zs.length=n:=by have:=congrArg List.length hx.1;simpa [hn]using this
 have hi:i<n:=by have:=(List.getElem?_eq_some_iff.1 hz).1;omega
 have h1:=hel i hi;rw[hce,Nat.mul_one]at h1;obtain⟨y,hy⟩:∃y,xs[i]?=some y:=⟨_,List.getElem?_eq_getElem (by omega)⟩;rw[hy]at h1;obtain⟨s,hc,rfl,_⟩:=DataW.trod_string he h1;have h2:=congrArg (fun l=>l[i]?) hx.1;simp only[List.getElem?_map,hz,hy,Option.map_some,Option.some.injEq,DataW.lit.injEq,Lit.string.injEq]at h2;have h3:cs[i]?=some (.string s):=by
  have:((cs.drop i).take 1)[0]?=some (.string s):=by rw[hc];rfl
  simpa [List.getElem?_take,List.getElem?_drop]using this
 rw[h3,h2,Lib.mk_data]
theorem yUi {H:Type} {enc:TypeId×Value→H} {P:Program} {w:World} {base:Nat} {sp:Nat→Bool} {held:Bool} {fuel:Nat} {t:TypeId} {cs:List Value} {x:DataW H×List MemPlace} {ms:Array (String×TypeId)}
  (ht:P.underlying t=some (.interface ms)) (h:DataW.trod enc P w base sp held fuel t cs=some x):∃ev,cs= [ev]∧(ev=.nilIface∨∃te pe,ev=.iface te pe):=by
 cases fuel with
 |zero=>simp[DataW.trod]at h
 |succ n=>
  unfold DataW.trod at h;rw[ht]at h;split at h<;>simp_all
theorem gErr:Tryz.prog.globalNamed "strconv.ErrRange" =some 3:=by kernel_rfl
theorem tErr:(Tryz.prog.globals[3]?).map (·.type)=some 156:=by kernel_rfl
theorem yU7 {W:World} (h:laidMetH Tryz.prog [("math/bits.deBruijn32tab",Rows.laid_math_bits_deBruijn32tab),("math/bits.deBruijn64tab",Rows.laid_math_bits_deBruijn64tab),("internal/strconv.uint64pow10",Rows.laid_internal_strconv_uint64pow10),("strconv.ErrRange",Rows.laid_strconv_ErrRange),("strconv.ErrSyntax",Rows.laid_strconv_ErrSyntax),("loop.example/s01854/impl.nodeWords",Rows.laid_loop_example_s01854_impl_nodeWords)] W):yGk W∧yF6 W∧7≤W.heap.size:=by
 rw[MakeChecks.laidMetH_plain _ _ _ (by kernel_rfl)]at h;obtain⟨ps,⟨g0,t0,cs0,f0,p0,q0,hg0,ht0,hv0,hd0,⟨g1,t1,cs1,f1,p1,q1,hg1,ht1,hv1,hd1,⟨g2,t2,cs2,f2,p2,q2,hg2,ht2,hv2,hd2,⟨g3,t3,cs3,f3,p3,q3,hg3,ht3,hv3,hd3,⟨g4,t4,cs4,f4,p4,q4,hg4,ht4,hv4,hd4,⟨g5,t5,cs5,f5,p5,q5,hg5,ht5,hv5,hd5,_,_⟩,_⟩,_⟩,_⟩,_⟩,_⟩,_⟩:=h;obtain rfl:=Option.some.inj (gD64.symm.trans hg1);obtain rfl:=Option.some.inj (gErr.symm.trans hg3);obtain rfl:=Option.some.inj (yXg.symm.trans hg5);obtain rfl:=Option.some.inj (tErr.symm.trans ht3);obtain rfl:=Option.some.inj (yW7.symm.trans ht5);have hw:∀k:Nat,k≤16→W.cell? ⟨0,k,none⟩=some (.string (nodeW k)):=fun k hk=>by rw[World.var?_cell hg5 hv5 k];have hw:=yN3 (zs:=(List.range 17).map (fun k=>(nodeW k).data.toList)) Tryz.underlying119 Tryz.underlying9 cStr (h:=hd5) k (nodeW k).data.toList (by rw[List.getElem?_map,List.getElem?_range (by omega)];rfl);rw[Lib.mk_data]at hw;simpa using hw
 refine⟨hw,?_,yW6 hg1 hv1⟩
 ·obtain⟨ev,hcs,hev⟩:=yUi Tryz.underlying156 hd3;refine⟨ev,?_,hev⟩;rw[World.var?_cell hg3 hv3 0];have:cs3[0]?=some ev:=by
   have h9:cs3.toList[0]?=some ev:=by rw[hcs];rfl
   simpa using h9
  exact this
end Go.Proofs.YtgnpcenpcmdlfaaGreatDoor.exParse
