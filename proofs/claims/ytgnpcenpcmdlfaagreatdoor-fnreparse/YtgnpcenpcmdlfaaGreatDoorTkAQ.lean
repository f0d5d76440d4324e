import Derived.Test.YtgnpcenpcmdlfaaGreatDoorTkAN
import Derived.Test.YtgnpcenpcmdlfaaGreatDoorTkAP
import Derived.Stop.Joined
namespace Go.Proofs.YtgnpcenpcmdlfaaGreatDoor.exParse
namespace rp
open Go.ChangeShapes Go.WideShapes Go.ChangeAt Go.WideMaps Go.WideElems Go.RowKit Go.Deep
set_option linter.unusedVariables false
set_option linter.unusedSimpArgs false
set_option maxRecDepth 100000
theorem own:ownKnob Tryz.prog.godebug=none:=by kernel_rfl
theorem ySu:laidOutB Tryz.prog=true:=by kernel_rfl
theorem yV9 (os:Os) (args:Array Value):laidMetH Tryz.prog Rows.fnReparseRow.laid ((World.doorLaid Tryz.prog 400 os).forCall (fun _ _=>0) ⟨#[],args,[]⟩).memory:=
 laidMetH_of_parts3 (fuel:=8) (laidMet_of_run' 8 (by kernel_rfl) (by kernel_rfl)) (by kernel_rfl) (by kernel_rfl)
theorem var?_below {P:Program} {B g:Nat} {W W':World} {n:String} {cs:Array Value} (h:Below B W W') (hg:P.globalNamed n=some g) (hgB:g<B) (hv:W.var? P n=some cs):W'.var? P n=some cs:=by unfold World.var? at hv⊢;simp only[hg,Option.bind_some]at hv⊢;rw[h.block g hgB];exact hv
set_option maxRecDepth 100000 in
theorem lifted (os:Os) (started:os.Started) (H:Type) (enc:TypeId×Value→H):
  ReturnsInHanded {} Tryz.checked os 5 .any (fun w args=>(Rows.fnReparseSpec.pre enc Tryz.prog Tryz.f5 [] false w args∧laidMetH Tryz.prog Rows.fnReparseRow.laid w)∧sizedMet enc Tryz.prog Tryz.f5 (OpenSpec.ofChange Rows.fnReparseSpec) false w args)
   (Rows.fnReparseSpec.post enc Tryz.prog Tryz.f5 false true false false):=by
 refine returnsInHanded_of_change_and (C:=Tryz.checked) (X:=fun w _=>laidMetH Tryz.prog Rows.fnReparseRow.laid w) (fun _ _ _ hh h=>h.of_heap hh) own started (by kernel_rfl) Tryz.func5
  (ChangeSpec.witness_shaped (enc:=enc) (C:=Tryz.checked) (os:=os) (X:=fun w _=>laidMetH Tryz.prog Rows.fnReparseRow.laid w) false (World.doorLaid Tryz.prog 400 os) #[.slice none 0 0] 8 rfl (World.shaped_of_RefB (by kernel_rfl) (by kernel_rfl)) (by kernel_rfl) (by kernel_rfl) (by kernel_rfl) (yV9 os _)) ?_
 intro W base args ds gs before hval0 hW _ _ hL _;have hval:∀(j:Nat) t v,Tryz.f5.params[j]?=some t→args[j]?=some v→Value.okWide Tryz.prog W .any base t v:=hval0;have hW':=hW;obtain⟨p,q,hA0,hV,rfl,hfz,hnd⟩:=hW;have hA:DataW.TrodAll enc Tryz.prog W 0 (fun _=>true) true Tryz.f5.params.toList args.toList ds p:=hA0;rw[Tryz.params5]at hA hval;obtain⟨v0,vs0,d0,ds0,p0,q0,hargs,rfl,rfl,h0,r0⟩:=trodAll_cons hA;obtain⟨rfl,rfl,rfl⟩:=trodAll_nil r0;obtain rfl:args=#[v0]:=by cases args;simp_all
 have hV1:DataW.TrodVars enc Tryz.prog W (fun _=>true) ["loop.example/s01854/impl.nodeWords"] gs q:=hV;obtain⟨gv,tv,cv,fv,dv,pv,rfl,k1,k2,k3,k4,rfl⟩:=trodVars_one hV1;obtain rfl:=Option.some.inj (yXg.symm.trans k1);obtain rfl:=Option.some.inj (yW7.symm.trans k2);have k0:=h0;have lt0:∀x∈p0,x.block<W.heap.size:=by obtain⟨m,hm⟩:=k0;exact DataW.trod_lt m _ _ _ hm
 have ltv:∀x∈pv,x.block<W.heap.size:=DataW.trod_lt fv _ _ _ k4;obtain⟨n0,hx0⟩:∃n,yF8 W v0 n:=by obtain⟨a0,len0,cap0,rfl⟩:=okWide_slice Tryz.underlying22 (hval 0 22 v0 rfl rfl);obtain⟨fuel,hf⟩:=h0;exact yMa (x:=(d0,p0)) (by simpa [Value.cells]using hf) lt0
 clear hA0 hval0 hV;obtain⟨hGl,hWd,hEr,hB⟩:=yU6 hL;obtain⟨a0,cap0,rfl⟩:=hx0.slice;obtain⟨t9,ht9⟩:∃t9,n0≤1048576→DrwC W (.slice a0 n0 cap0) t9:=by
  by_cases hn:n0≤1048576
  ·obtain⟨xs,hxs⟩:=hx0.codeX hn;obtain⟨t9,h9⟩:=yL3 hxs;exact⟨t9,fun _=>h9⟩
  ·exact⟨[],fun q=>absurd q hn⟩
 refine(yKl a0 n0 cap0 t9 W (by have:=hx0.1;unfold maxLen at this;omega) ht9 hGl hWd hEr hB).mono fun e W' ⟨he,bel⟩=>?_;subst he
 have k4':DataW.trod enc Tryz.prog W' 0 (fun b=>decide (b<W.heap.size)) true fv 119 cv.toList=some (dv,pv):=
  DataW.trod_stays (kids_book ySu (t0:=119) (by kernel_rfl)) (book_sized (by kernel_rfl)) (fun h=>by cases h) ⟨of_decide_eq_true (by kernel_rfl),book_self _⟩ k4 (fun x hx=>bel.same (ltv x hx)) (fun x hx=>by simpa using ltv x hx)
 exact⟨_,rfl,_,_,_,[],_,_,hW',trodAll_mk1 (shut_bool Tryz.underlying4 _),(trodAll_cons_mk (Below.trod ySu (by kernel_rfl) (of_decide_eq_true (by kernel_rfl)) k0 bel lt0) trodAll_mk0),trodVars_mk1 k1 k2 (var?_below bel k1 (yW6 k1 k3) k3) k4',bel.frame _,fun h=>by cases h⟩
theorem over:Rows.FnReparseSaid:=
 OpenClaim.holds_of_wide 5 Tryz.f5 rfl rfl rfl rfl rfl rfl rfl ⟨rfl,rfl,rfl,rfl,rfl⟩ rfl rfl rfl rfl rfl (by kernel_rfl) Tryz.func5 (by kernel_rfl)
  (of_decide_eq_true (by kernel_rfl)) (by unfold Func.isWrapper;first|(rw[if_pos (by decide+kernel)];kernel_rfl)|(rw[if_neg (by decide+kernel)];exact⟨rfl,rfl⟩))
  (fun os started H enc _=>lifted os started H enc)
theorem card:Rows.FnReparseCardSaid:=
 Claim7.holds_tied_plain_at .later [] [.data,.data,.data,.sentinel,.sentinel,.data] true Rows.fnReparseCard.stood.harness true
  over (fun _ h=>by cases h) (by kernel_rfl) (fun _ h=>by cases h) fnReparse_row_tie rfl ⟨rfl,rfl⟩ (by kernel_rfl) rfl
  (fun f fn hf hfn=>by
   obtain rfl:f=5:=Option.some.inj ((show Tryz.prog.funcNamed "loop.example/s01854/laws.FnReparse" =some 5 by kernel_rfl).symm.trans hf) |>.symm
   obtain rfl:fn=Tryz.f5:=(Option.some.inj (Tryz.func5.symm.trans hfn)).symm
   exact⟨by kernel_rfl,fun j t ht=>by
    rw[Tryz.params5]at ht
    have h3:t=22:=by
     rcases j with _|j
     ·simpa using ht.symm
     ·simp at ht
    subst h3
    exact(show Tryz.prog.wantsStandIn 22=false by kernel_rfl)⟩)
  (by kernel_rfl)
end rp
end Go.Proofs.YtgnpcenpcmdlfaaGreatDoor.exParse
namespace Go.Proofs.YtgnpcenpcmdlfaaGreatDoor
theorem fnReparse_holds:Rows.FnReparseCardSaid:=exParse.rp.card
#print axioms fnReparse_holds
end Go.Proofs.YtgnpcenpcmdlfaaGreatDoor
