import Derived.Test.YtehfleefkdojpaaGreatDoorSkAQ
import Derived.Test.YtehfleefkdojpaaGreatDoorTie
import Derived.Test.YtehfleefkdojpaaGreatDoorCards
namespace Go.Proofs.YtehfleefkdojpaaGreatDoor.exFnStore
open Go.ChangeMaps (open_string shut_string)
open Go.ChangeShapes Go.WideShapes Go.ChangeAt Go.WideMaps Go.WideElems Go.RowKit Go.Deep _root_.List _root_.Nat Go.Proofs.Tryz
set_option linter.unusedVariables false
set_option linter.unusedSimpArgs false
set_option maxRecDepth 100000
theorem own:ownKnob prog.godebug=none:=by kernel_rfl
theorem yUn:laidOutB prog=true:=by kernel_rfl
theorem yW5(os:Os)(args:Array Value):laidMetH prog Rows.fnStoreRow.laid ((World.doorLaid prog 400 os).forCall (λ_ _=>0) ⟨#[],args,[]⟩).memory:=
 laidMetH_of_parts3 (fuel:=8) (laidMet_of_run' 8 (by kernel_rfl) (by kernel_rfl)) (by kernel_rfl) (by kernel_rfl)
set_option maxRecDepth 100000 in
theorem xB0(os:Os)(started:os.Started)(H:Type)(enc:TypeId×Value->H):
  ReturnsInHanded {} Tryz.checked os 3 .any (λw args=>(Rows.fnStoreSpec.pre enc prog Tryz.f3 [] false w args/\laidMetH prog Rows.fnStoreRow.laid w)/\sizedMet enc prog Tryz.f3 (OpenSpec.ofChange Rows.fnStoreSpec) false w args)
   (Rows.fnStoreSpec.post enc prog Tryz.f3 false true false false):=by
 refine returnsInHanded_of_change_and (C:=Tryz.checked) (X:=λw _=>laidMetH prog Rows.fnStoreRow.laid w) (λ_ _ _ hh h=>h.of_heap hh) own started (by kernel_rfl) func3
  (ChangeSpec.witness_shaped (enc:=enc) (C:=Tryz.checked) (os:=os) (X:=λw _=>laidMetH prog Rows.fnStoreRow.laid w) false (World.doorLaid prog 400 os) #[.slice none 0 0,.slice none 0 0] 8 rfl (World.shaped_of_RefB (by kernel_rfl) (by kernel_rfl)) (by kernel_rfl) (by kernel_rfl) (by kernel_rfl) (yW5 os _)) ?_
 intro W base args ds gs ak a6 hW _ _ hL _;have y:∀(j:Nat) t v,Tryz.f3.params[j]?=some t->args[j]?=some v->Value.okWide prog W .any base t v:=a6;have ab:=hW;obtain⟨p,q,a7,hV,rfl,ag,af⟩:=hW;have hA:DataW.TrodAll enc prog W 0 (λ_=>true) true Tryz.f3.params.toList args.toList ds p:=a7;rw[Tryz.params3]at hA y;obtain⟨v0,ae,d0,aj,p0,q0,ah,rfl,rfl,h0,r0⟩:=trodAll_cons hA;obtain⟨v1,ad,d1,ai,p1,q1,rfl,rfl,rfl,h1,r1⟩:=trodAll_cons r0;obtain⟨rfl,rfl,rfl⟩:=trodAll_nil r1;obtain rfl:args=#[v0,v1]:=by cases args;simp_all
 obtain⟨rfl,rfl⟩:=trodVars_none hV;have k0:=h0;have a5:=h1;have a4:∀x∈p0,x.block<W.heap.size:=by obtain⟨m,hm⟩:=k0;exact DataW.trod_lt m _ _ _ hm
 have a3:∀x∈p1,x.block<W.heap.size:=by obtain⟨m,hm⟩:=a5;exact DataW.trod_lt m _ _ _ hm
 obtain⟨n0,aa⟩:∃n,yDl W v0 n:=by obtain⟨a0,a8,ac,rfl⟩:=okWide_slice underlying22 (y 0 22 v0 rfl rfl);obtain⟨fuel,hf⟩:=h0;exact yHa (x:=(d0,p0)) (by simpa [Value.cells]using hf) a4
 obtain⟨n1,a9⟩:∃n,yDl W v1 n:=by obtain⟨a0,a8,ac,rfl⟩:=okWide_slice underlying22 (y 1 22 v1 rfl rfl);obtain⟨fuel,hf⟩:=h1;exact yHa (x:=(d1,p1)) (by simpa [Value.cells]using hf) a3
 clear a7 a6;refine(yOn v0 v1 n0 n1 W aa a9).mono λe W' ⟨he,bel⟩=>?_;subst he;exact⟨_,rfl,_,_,_,[],_,[],ab,trodAll_mk1 (shut_bool underlying4 _),(trodAll_cons_mk (Below.trod yUn (by kernel_rfl) (of_decide_eq_true (by kernel_rfl)) k0 bel a4) (trodAll_cons_mk (Below.trod yUn (by kernel_rfl) (of_decide_eq_true (by kernel_rfl)) a5 bel a3) trodAll_mk0)),rfl,bel.frame _,λh=>by cases h⟩
theorem j1:(Rows.fnStoreRow.inPlace==Tryz.pinned.checked.prog.inPlace 3)=true:=by kernel_rfl
theorem j2:(Rows.fnStoreRow.unfollowed==Tryz.pinned.checked.prog.unfollowed 3)=true:=by kernel_rfl
theorem j3:(Rows.fnStoreRow.recurses==Tryz.pinned.checked.prog.recurses 3)=true:=by kernel_rfl
theorem j4:(Rows.fnStoreRow.named==Tryz.pinned.checked.prog.varsNamed 3)=true:=by kernel_rfl
theorem xCa:joinedFacts Tryz.pinned.checked.prog 3 Tryz.f3 Rows.fnStoreSpec Rows.fnStoreRow=true:=by unfold joinedFacts;rw[j1,j2,j3,j4];kernel_rfl
theorem over:Rows.FnStoreSaid:=
 OpenClaim.holds_of_wide 3 Tryz.f3 rfl rfl rfl rfl rfl rfl rfl ⟨rfl,rfl,rfl,rfl,rfl⟩ rfl rfl rfl rfl rfl (by kernel_rfl) func3 xCa
  (of_decide_eq_true (by kernel_rfl)) (by unfold Func.isWrapper;first|(rw[if_pos (by decide+kernel)];kernel_rfl)|(rw[if_neg (by decide+kernel)];exact⟨rfl,rfl⟩))
  (λos started H enc _=>xB0 os started H enc)
theorem card:Rows.FnStoreCardSaid:=
 Claim7.holds_tied_plain_at .later [] [.data] true Rows.fnStoreCard.stood.harness true
  over (λ_ h=>by cases h) (by kernel_rfl) (λ_ h=>by cases h) fnStore_row_tie rfl ⟨rfl,rfl⟩ (by kernel_rfl) rfl
  (λf fn hf hfn=>by
   obtain rfl:f=3:=Option.some.inj ((show prog.funcNamed "loop.example/s01854/laws.FnStore" =some 3 by kernel_rfl).symm.trans hf) |>.symm
   obtain rfl:fn=Tryz.f3:=(Option.some.inj (func3.symm.trans hfn)).symm
   exact⟨by kernel_rfl,λj t ht=>by
    rw[Tryz.params3]at ht
    have h3:t=22:=by
     rcases j with _|_|j
     .simpa using ht.symm
     .simpa using ht.symm
     .simp at ht
    subst h3
    exact(show prog.wantsStandIn 22=false by kernel_rfl)⟩)
  (by kernel_rfl)
end Go.Proofs.YtehfleefkdojpaaGreatDoor.exFnStore
namespace Go.Proofs.YtehfleefkdojpaaGreatDoor
theorem fnStore_holds:Rows.FnStoreCardSaid:=exFnStore.card
#print axioms fnStore_holds
end Go.Proofs.YtehfleefkdojpaaGreatDoor
