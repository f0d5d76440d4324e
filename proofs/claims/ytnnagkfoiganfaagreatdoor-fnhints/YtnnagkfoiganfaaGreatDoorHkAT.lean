import Derived.Test.YtnnagkfoiganfaaGreatDoorHkAS
import Derived.Test.YtnnagkfoiganfaaGreatDoorTie
import Derived.Test.YtnnagkfoiganfaaGreatDoorCards
namespace Go.Proofs.YtnnagkfoiganfaaGreatDoor.exFnHints
open Go.ChangeMaps (open_string shut_string)
open _root_.List renaming getElem?_eq_getElem->AB,getElem?_map->AC
open _root_.Option.some renaming inj->AA
open Go.ChangeShapes Go.WideShapes Go.ChangeAt Go.WideMaps Go.WideElems Go.RowKit Go.Deep XD XI XU XG XP XK XW XT XF XE XH _root_.List _root_.Nat Go.Proofs.Tryz
set_option linter.unusedVariables false
set_option linter.unusedSimpArgs false
set_option maxRecDepth 100000
variable {W:Ww}
theorem own:ownKnob prog.godebug=none:=by kernel_rfl
theorem xEi:laidOutB prog=true:=by kernel_rfl
theorem gD64:prog.globalNamed "math/bits.deBruijn64tab" =some 1:=by kernel_rfl
theorem tD64:(prog.globals[1]?).map (·.type)=some 371:=by kernel_rfl
theorem cU8:prog.cellsOf 5=1:=by kernel_rfl
theorem cD64:prog.cellsOf 371=64:=by kernel_rfl
theorem xDz(h:laidMetH prog Rows.fnHintsRow.laid W):TabD W:=by
 have h':laidMetH prog [("math/bits.deBruijn64tab",Rows.laid_math_bits_deBruijn64tab)] W:=h;clear h;rw[MakeChecks.laidMetH_plain _ _ _ (by kernel_rfl)]at h';obtain⟨ps,⟨g0,t0,cs0,f0,p0,q0,hg0,ht0,hv0,hd0,_,_⟩,_⟩:=h';obtain rfl:=AA (gD64.symm.trans hg0);obtain rfl:=AA (tD64.symm.trans ht0);have hc:=Lib.cells_of_tab (zs:=Lib.deBruijn64tab.map Int.ofNat) underlying371 underlying5 cU8 cD64 hd0;intro j hj;rw[World.var?_cell hg0 hv0 j];have hl:(cs0.toList)[j]?=some (.int .u8 (Lib.deBruijn64tab.getD j 0)):=by rw[hc,AC,AC];have:j<Lib.deBruijn64tab.length:=hj;rw[AB this];simp[List.getD,AB this]
 simpa using hl
theorem xA9(os:Os)(args:Array Vv):laidMetH prog Rows.fnHintsRow.laid ((World.doorLaid prog 400 os).forCall (λ_ _=>0) ⟨#[],args,[]⟩).memory:=
 laidMetH_of_parts3 (fuel:=8) (laidMet_of_run' 8 (by kernel_rfl) (by kernel_rfl)) (by kernel_rfl) (by kernel_rfl)
set_option maxRecDepth 100000 in
theorem xHo(os:Os)(started:os.Started)(H:Type)(enc:TypeId×Vv->H):
  ReturnsInHanded {} Tryz.checked os 5 .any (λw args=>(Rows.fnHintsSpec.pre enc prog Tryz.f5 [] false w args/\laidMetH prog Rows.fnHintsRow.laid w)/\sizedMet enc prog Tryz.f5 (OpenSpec.ofChange Rows.fnHintsSpec) false w args)
   (Rows.fnHintsSpec.post enc prog Tryz.f5 false true false false):=by
 refine returnsInHanded_of_change_and (C:=Tryz.checked) (X:=λw _=>laidMetH prog Rows.fnHintsRow.laid w) (λ_ _ _ hh h=>h.of_heap hh) own started (by kernel_rfl) func5
  (ChangeSpec.witness_shaped (enc:=enc) (C:=Tryz.checked) (os:=os) (X:=λw _=>laidMetH prog Rows.fnHintsRow.laid w) false (World.doorLaid prog 400 os) #[.slice none 0 0] 8 rfl (World.shaped_of_RefB (by kernel_rfl) (by kernel_rfl)) (by kernel_rfl) (by kernel_rfl) (by kernel_rfl) (xA9 os _)) ?_
 intro W O args ds gs before hval0 hW _ _ hL _;have hval:∀(j:Nat) t v,Tryz.f5.params[j]?=some t->args[j]?=some v->Value.okWide prog W .any O t v:=hval0;have hW':=hW;obtain⟨p,q,hA0,hV,rfl,hfz,hnd⟩:=hW;have hA:DataW.TrodAll enc prog W 0 (λ_=>true) true Tryz.f5.params.toList args.toList ds p:=hA0;rw[Tryz.params5]at hA hval;obtain⟨v0,vs0,d0,ds0,p0,q0,hargs,rfl,rfl,h0,r0⟩:=trodAll_cons hA;obtain⟨rfl,rfl,rfl⟩:=trodAll_nil r0;obtain rfl:args=#[v0]:=by cases args;simp_all
 obtain⟨rfl,rfl⟩:=trodVars_none hV;have k0:=h0;have lt0:∀x∈p0,x.block<W.heap.size:=by obtain⟨m,hm⟩:=k0;exact DataW.trod_lt m _ _ _ hm
 obtain⟨n0,hx0⟩:∃n,yFs W v0 n:=by obtain⟨a0,len0,cap0,rfl⟩:=okWide_slice underlying22 (hval 0 22 v0 rfl rfl);obtain⟨fuel,hf⟩:=h0;exact yNu (x:=(d0,p0)) (by simpa [Value.cells]using hf) lt0
 clear hA0 hval0;have hG:=xDz hL;refine(yPl v0 n0 W hx0 hG).mono λe W' ⟨he,bel⟩=>?_;subst he;exact⟨_,rfl,_,_,_,[],_,[],hW',trodAll_mk1 (shut_bool underlying4 _),(trodAll_cons_mk (Below.trod xEi (by kernel_rfl) (of_decide_eq_true (by kernel_rfl)) k0 bel lt0) trodAll_mk0),rfl,bel.frame _,λh=>by cases h⟩
theorem over:Rows.FnHintsSaid:=
 OpenClaim.holds_of_wide 5 Tryz.f5 rfl rfl rfl rfl rfl rfl rfl ⟨rfl,rfl,rfl,rfl,rfl⟩ rfl rfl rfl rfl rfl (by kernel_rfl) func5 (by kernel_rfl)
  (of_decide_eq_true (by kernel_rfl)) (by unfold Func.isWrapper;first|(rw[iB (by decide+kernel)];kernel_rfl)|(rw[iA (by decide+kernel)];exact⟨rfl,rfl⟩))
  (λos started H enc _=>xHo os started H enc)
theorem card:Rows.FnHintsCardSaid:=
 Claim7.holds_tied_plain_at .later [] [.data] true Rows.fnHintsCard.stood.harness true
  over (λ_ h=>by cases h) (by kernel_rfl) (λ_ h=>by cases h) fnHints_row_tie rfl ⟨rfl,rfl⟩ (by kernel_rfl) rfl
  (λf fn hf hfn=>by
   obtain rfl:f=5:=AA ((show prog.funcNamed "loop.example/s01854/laws.FnHints" =some 5 by kernel_rfl).symm.trans hf) |>.symm
   obtain rfl:fn=Tryz.f5:=(AA (func5.symm.trans hfn)).symm
   exact⟨by kernel_rfl,λj t ht=>by
    rw[Tryz.params5]at ht
    have h3:t=22:=by
     rcases j with _|j
     .simpa using ht.symm
     .simp at ht
    subst h3
    exact(show prog.wantsStandIn 22=false by kernel_rfl)⟩)
  (by kernel_rfl)
end Go.Proofs.YtnnagkfoiganfaaGreatDoor.exFnHints
namespace Go.Proofs.YtnnagkfoiganfaaGreatDoor
theorem fnHints_holds:Rows.FnHintsCardSaid:=exFnHints.card
#print axioms fnHints_holds
end Go.Proofs.YtnnagkfoiganfaaGreatDoor
