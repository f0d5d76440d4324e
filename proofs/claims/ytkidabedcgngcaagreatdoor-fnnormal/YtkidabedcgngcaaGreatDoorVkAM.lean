import Derived.Test.YtkidabedcgngcaaGreatDoorVkAL
import Derived.Test.YtkidabedcgngcaaGreatDoorTie
import Derived.Test.YtkidabedcgngcaaGreatDoorCards
import Derived.ProofKit
import Derived.LaidMore
import Derived.OpenShut
import Derived.Lib.LaidTab
import Derived.Stop.Joined
namespace Go.Proofs.YtkidabedcgngcaaGreatDoor.exFnNormal
open Go.ChangeMaps (open_string shut_string)
open Go.ChangeShapes Go.WideShapes Go.ChangeAt Go.WideMaps Go.WideElems Go.RowKit Go.Deep
set_option linter.unusedVariables false
set_option linter.unusedSimpArgs false
set_option maxRecDepth 100000
theorem own:ownKnob Tryz.prog.godebug=none:=by kernel_rfl
theorem yUx:laidOutB Tryz.prog=true:=by kernel_rfl
theorem gD64:Tryz.prog.globalNamed "math/bits.deBruijn64tab" =some 1:=by kernel_rfl
theorem tD64:(Tryz.prog.globals[1]?).map (·.type)=some 236:=by kernel_rfl
theorem cU8:Tryz.prog.cellsOf 5=1:=by kernel_rfl
theorem cD64:Tryz.prog.cellsOf 236=64:=by kernel_rfl
theorem yZi {W:World} (h:laidMetH Tryz.prog Rows.fnNormalRow.laid W):TabD W:=by
 have h':laidMetH Tryz.prog [("math/bits.deBruijn64tab",Rows.laid_math_bits_deBruijn64tab)] W:=h;clear h;rw[MakeChecks.laidMetH_plain _ _ _ (by kernel_rfl)]at h';obtain⟨ps,⟨g0,t0,cs0,f0,p0,q0,hg0,ht0,hv0,hd0,_,_⟩,_⟩:=h';obtain rfl:=Option.some.inj (gD64.symm.trans hg0);obtain rfl:=Option.some.inj (tD64.symm.trans ht0);have hc:=Lib.cells_of_tab (zs:=Lib.deBruijn64tab.map Int.ofNat) Tryz.underlying236 Tryz.underlying5 cU8 cD64 hd0;intro j hj;rw[World.var?_cell hg0 hv0 j];have hl:(cs0.toList)[j]?=some (.int .u8 (Lib.deBruijn64tab.getD j 0)):=by rw[hc,List.getElem?_map,List.getElem?_map];have:j<Lib.deBruijn64tab.length:=hj;rw[List.getElem?_eq_getElem this];simp[List.getD,List.getElem?_eq_getElem this]
 simpa using hl
theorem yW9 (os:Os) (args:Array Value):laidMetH Tryz.prog Rows.fnNormalRow.laid ((World.doorLaid Tryz.prog 400 os).forCall (fun _ _=>0) ⟨#[],args,[]⟩).memory:=
 laidMetH_of_parts3 (fuel:=8) (laidMet_of_run' 8 (by kernel_rfl) (by kernel_rfl)) (by kernel_rfl) (by kernel_rfl)
set_option maxRecDepth 100000 in
theorem lifted (os:Os) (started:os.Started) (H:Type) (enc:TypeId×Value→H):
  ReturnsInHanded {} Tryz.checked os 4 .any (fun w args=>(Rows.fnNormalSpec.pre enc Tryz.prog Tryz.f4 [] false w args∧laidMetH Tryz.prog Rows.fnNormalRow.laid w)∧sizedMet enc Tryz.prog Tryz.f4 (OpenSpec.ofChange Rows.fnNormalSpec) false w args)
   (Rows.fnNormalSpec.post enc Tryz.prog Tryz.f4 false true false false):=by
 refine returnsInHanded_of_change_and (C:=Tryz.checked) (X:=fun w _=>laidMetH Tryz.prog Rows.fnNormalRow.laid w) (fun _ _ _ hh h=>h.of_heap hh) own started (by kernel_rfl) Tryz.func4
  (ChangeSpec.witness_shaped (enc:=enc) (C:=Tryz.checked) (os:=os) (X:=fun w _=>laidMetH Tryz.prog Rows.fnNormalRow.laid w) false (World.doorLaid Tryz.prog 400 os) #[.slice none 0 0,.slice none 0 0] 8 rfl (World.shaped_of_RefB (by kernel_rfl) (by kernel_rfl)) (by kernel_rfl) (by kernel_rfl) (by kernel_rfl) (yW9 os _)) ?_
 intro W base args ds gs before hval0 hW _ _ hL _;have hval:∀(j:Nat) t v,Tryz.f4.params[j]?=some t→args[j]?=some v→Value.okWide Tryz.prog W .any base t v:=hval0;have hW':=hW;obtain⟨p,q,hA0,hV,rfl,hfz,hnd⟩:=hW;have hA:DataW.TrodAll enc Tryz.prog W 0 (fun _=>true) true Tryz.f4.params.toList args.toList ds p:=hA0;rw[Tryz.params4]at hA hval;obtain⟨v0,vs0,d0,ds0,p0,q0,hargs,rfl,rfl,h0,r0⟩:=trodAll_cons hA;obtain⟨v1,vs1,d1,ds1,p1,q1,rfl,rfl,rfl,h1,r1⟩:=trodAll_cons r0;obtain⟨rfl,rfl,rfl⟩:=trodAll_nil r1;obtain rfl:args=#[v0,v1]:=by cases args;simp_all
 obtain⟨rfl,rfl⟩:=trodVars_none hV;have k0:=h0;have kk1:=h1;have lt0:∀x∈p0,x.block<W.heap.size:=by obtain⟨m,hm⟩:=k0;exact DataW.trod_lt m _ _ _ hm
 have lt1:∀x∈p1,x.block<W.heap.size:=by obtain⟨m,hm⟩:=kk1;exact DataW.trod_lt m _ _ _ hm
 obtain⟨n0,hx0⟩:∃n,yDx W v0 n:=by obtain⟨a0,len0,cap0,rfl⟩:=okWide_slice Tryz.underlying40 (hval 0 40 v0 rfl rfl);obtain⟨fuel,hf⟩:=h0;exact yHk (x:=(d0,p0)) (by simpa [Value.cells]using hf) lt0
 obtain⟨n1,hx1⟩:∃n,yDx W v1 n:=by obtain⟨a0,len0,cap0,rfl⟩:=okWide_slice Tryz.underlying40 (hval 1 40 v1 rfl rfl);obtain⟨fuel,hf⟩:=h1;exact yHk (x:=(d1,p1)) (by simpa [Value.cells]using hf) lt1
 clear hA0 hval0;have hG:=yZi hL;refine(yMs v0 v1 n0 n1 W hx0 hx1 hG).mono fun e W' ⟨he,bel⟩=>?_;subst he;exact⟨_,rfl,_,_,_,[],_,[],hW',trodAll_mk1 (shut_bool Tryz.underlying4 _),(trodAll_cons_mk (Below.trod yUx (by kernel_rfl) (of_decide_eq_true (by kernel_rfl)) k0 bel lt0) (trodAll_cons_mk (Below.trod yUx (by kernel_rfl) (of_decide_eq_true (by kernel_rfl)) kk1 bel lt1) trodAll_mk0)),rfl,bel.frame _,fun h=>by cases h⟩
theorem over:Rows.FnNormalSaid:=
 OpenClaim.holds_of_wide 4 Tryz.f4 rfl rfl rfl rfl rfl rfl rfl ⟨rfl,rfl,rfl,rfl,rfl⟩ rfl rfl rfl rfl rfl (by kernel_rfl) Tryz.func4 (by kernel_rfl)
  (of_decide_eq_true (by kernel_rfl)) (by unfold Func.isWrapper;first|(rw[if_pos (by decide+kernel)];kernel_rfl)|(rw[if_neg (by decide+kernel)];exact⟨rfl,rfl⟩))
  (fun os started H enc _=>lifted os started H enc)
theorem card:Rows.FnNormalCardSaid:=
 Claim7.holds_tied_plain_at .later [] [.data] true Rows.fnNormalCard.stood.harness true
  over (fun _ h=>by cases h) (by kernel_rfl) (fun _ h=>by cases h) fnNormal_row_tie rfl ⟨rfl,rfl⟩ (by kernel_rfl) rfl
  (fun f fn hf hfn=>by
   obtain rfl:f=4:=Option.some.inj ((show Tryz.prog.funcNamed "loop.example/s01854/laws.FnNormal" =some 4 by kernel_rfl).symm.trans hf) |>.symm
   obtain rfl:fn=Tryz.f4:=(Option.some.inj (Tryz.func4.symm.trans hfn)).symm
   exact⟨by kernel_rfl,fun j t ht=>by
    rw[Tryz.params4]at ht
    have h3:t=40:=by
     rcases j with _|_|j
     ·simpa using ht.symm
     ·simpa using ht.symm
     ·simp at ht
    subst h3;exact(show Tryz.prog.wantsStandIn 40=false by kernel_rfl)⟩)
  (by kernel_rfl)
end Go.Proofs.YtkidabedcgngcaaGreatDoor.exFnNormal
namespace Go.Proofs.YtkidabedcgngcaaGreatDoor
theorem fnNormal_holds:Rows.FnNormalCardSaid:=exFnNormal.card
#print axioms fnNormal_holds
end Go.Proofs.YtkidabedcgngcaaGreatDoor
