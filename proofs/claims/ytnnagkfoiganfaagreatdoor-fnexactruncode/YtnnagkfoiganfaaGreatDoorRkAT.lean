import Derived.Test.YtnnagkfoiganfaaGreatDoorRkAS
import Derived.Test.YtnnagkfoiganfaaGreatDoorTie
import Derived.Test.YtnnagkfoiganfaaGreatDoorCards
namespace Go.Proofs.YtnnagkfoiganfaaGreatDoor.exRunCode
open Go.ChangeMaps (open_string shut_string)
open Go.ChangeShapes Go.WideShapes Go.ChangeAt Go.WideMaps Go.WideElems Go.RowKit Go.Deep XD XI XU XG XP XK XW XT XF XE XH _root_.List _root_.Nat Go.Proofs.Tryz
set_option linter.unusedVariables false
set_option linter.unusedSimpArgs false
set_option maxRecDepth 100000
theorem own:ownKnob prog.godebug=none:=qk
theorem yS4:laidOutB prog=true:=qk
theorem gD64:prog.globalNamed "math/bits.deBruijn64tab" =some 1:=qk
theorem tD64:(prog.globals[1]?).map (·.type)=some 371:=qk
theorem cU8:prog.cellsOf 5=1:=qk
theorem cD64:prog.cellsOf 371=64:=qk
theorem xE0{W:World}(h:laidMetH prog Rows.fnExactRunCodeRow.laid W):TabD W:=by
 have h':=h;clear h;rw[MakeChecks.laidMetH_plain _ _ _ qk]at h';obtain⟨ps,⟨g0,t0,cs0,f0,p0,q0,a0,a2,a1,a3,_,_⟩,_⟩:=h';obtain rfl:=Option.some.inj (gD64.symm.trans a0);obtain rfl:=Option.some.inj (tD64.symm.trans a2);have hc:=Lib.cells_of_tab (zs:=Lib.deBruijn64tab.map Int.ofNat) underlying371 underlying5 cU8 cD64 a3;intro j hj;rw[World.var?_cell a0 a1 j];have hl:(cs0.toList)[j]?=some (.int .u8 (Lib.deBruijn64tab.getD j 0)):=by rw[hc,getElem?_map,getElem?_map];have:j<Lib.deBruijn64tab.length:=hj;rw[getElem?_eq_getElem this];simp[List.getD,getElem?_eq_getElem this]
 simpa using hl
theorem xB5(os:Os)(args:Array Value):laidMetH prog Rows.fnExactRunCodeRow.laid ((World.doorLaid prog 400 os).forCall (λ_ _=>0) ⟨#[],args,[]⟩).memory:=
 laidMetH_of_parts3 (fuel:=8) (laidMet_of_run' 8 qk qk) qk qk
theorem xBz(es:List Ent):∀e∈es.map putE,e.kind=0:=λe he=>by
 obtain⟨x,_,rfl⟩:=List.mem_map.1 he
 rfl
theorem xHr{es:List Ent}(h:∀e∈es,e.ok):∀e∈es.map putE,e.ok:=λe he=>by
 obtain⟨x,hx,rfl⟩:=List.mem_map.1 he
 have:=h x hx
 exact⟨this.row,this.fam,this.qual,this.val,this.ts,(show(Lit.int .i64 0).wf=true by decide)⟩
theorem xH6{w:World}{v:Value}{es:List Ent}(h:yEz w v es):yEz w v (es.map putE):=by
 rcases h with⟨a,cap,rfl,rfl⟩|⟨b,off,cap,rfl,hE,h1,h2,h3⟩
 .exact .inl ⟨a,cap,rfl,rfl⟩
 .refine .inr ⟨b,off,cap,by rw[length_map],λi e he=>?_,h1,by rw[length_map];exact h2,h3⟩;rw[getElem?_map]at he;cases hx:es[i]? with
  |none=>rw[hx]at he;cases he
  |some x=>
   rw[hx]at he;cases he
   exact hE i x hx
set_option maxRecDepth 100000 in
theorem xH2(os:Os)(started:os.Started)(H:Type)(enc:TypeId×Value->H):
  ReturnsInHanded {} Tryz.checked os 4 .any (λw args=>(Rows.fnExactRunCodeSpec.pre enc prog Tryz.f4 [] false w args/\laidMetH prog Rows.fnExactRunCodeRow.laid w)/\sizedMet enc prog Tryz.f4 (OpenSpec.ofChange Rows.fnExactRunCodeSpec) false w args)
   (Rows.fnExactRunCodeSpec.post enc prog Tryz.f4 false true false false):=by
 refine returnsInHanded_of_change_and (C:=Tryz.checked) (X:=λw _=>laidMetH prog Rows.fnExactRunCodeRow.laid w) (λ_ _ _ hh h=>h.of_heap hh) own started qk func4
  (ChangeSpec.witness_shaped (enc:=enc) (C:=Tryz.checked) (os:=os) (X:=λw _=>laidMetH prog Rows.fnExactRunCodeRow.laid w) false (World.doorLaid prog 400 os) #[.agg #[xh,xh,xi 0],xh,false] 8 rfl (World.shaped_of_RefB qk qk) qk qk qk (xB5 os _)) ?_
 intro W base args ds gs au a4 hW _ _ hL _;have a1:∀(j:Nat) t v,Tryz.f4.params[j]?=some t->args[j]?=some v->Value.okWide prog W .any base t v:=a4;have af:=hW;obtain⟨p,q,a5,hV,rfl,al,ak⟩:=hW;have hA:DataW.TrodAll enc prog W 0 (λ_=>true) true Tryz.f4.params.toList args.toList ds p:=a5;rw[Tryz.params4]at hA a1;obtain⟨v0,ai,d0,aq,p0,q0,am,rfl,rfl,h0,r0⟩:=trodAll_cons hA;obtain⟨v1,ah,d1,ao,p1,q1,rfl,rfl,rfl,h1,r1⟩:=trodAll_cons r0;obtain⟨v2,ag,d2,an,p2,q2,rfl,rfl,rfl,h2,r2⟩:=trodAll_cons r1;obtain⟨rfl,rfl,rfl⟩:=trodAll_nil r2;obtain rfl:args=#[v0,v1,v2]:=by cases args;simp_all
 obtain⟨rfl,rfl⟩:=trodVars_none hV;have k0:=h0;have a3:=h1;have a2:=h2;have ab:∀x∈p0,x.block<W.heap.size:=by obtain⟨m,hm⟩:=k0;exact DataW.trod_lt m _ _ _ hm
 have aa:∀x∈p1,x.block<W.heap.size:=by obtain⟨m,hm⟩:=a3;exact DataW.trod_lt m _ _ _ hm
 have a9:∀x∈p2,x.block<W.heap.size:=by obtain⟨m,hm⟩:=a2;exact DataW.trod_lt m _ _ _ hm
 obtain⟨u,bs,m,rfl,ad,a8,ac,a6⟩:=yYt (a1 0 51 v0 rfl rfl) h0;obtain⟨hints,rfl⟩:∃b,v2=.bool b:=okWide_bool underlying4 (a1 2 4 v2 rfl rfl);obtain⟨es,ae,a7⟩:∃es:List Ent,yEz W v1 es/\∀e∈es,e.ok:=by obtain⟨a0,aj,ar,rfl⟩:=okWide_slice underlying52 (a1 1 52 v1 rfl rfl);obtain⟨fuel,hf⟩:=h1;exact yRc (by simpa [Value.cells]using hf)
 clear a5 a4;have hG:=xE0 hL;refine(xHn u bs m v1 _ hints W ad a8 ac a6 (xH6 ae) (xHr a7) (xBz es) hG).mono λe W' ⟨he,bel⟩=>?_;subst he;exact⟨_,rfl,_,_,_,[],_,[],af,trodAll_mk1 (shut_bool underlying4 _),(trodAll_cons_mk (Below.trod yS4 qk (of_decide_eq_true qk) k0 bel ab) (trodAll_cons_mk (Below.trod yS4 qk (of_decide_eq_true qk) a3 bel aa) (trodAll_cons_mk (Below.trod yS4 qk (of_decide_eq_true qk) a2 bel a9) trodAll_mk0))),rfl,bel.frame _,λh=>by cases h⟩
theorem over:Rows.FnExactRunCodeSaid:=
 OpenClaim.holds_of_wide 4 Tryz.f4 rfl rfl rfl rfl rfl rfl rfl ⟨rfl,rfl,rfl,rfl,rfl⟩ rfl rfl rfl rfl rfl qk func4 qk
  (of_decide_eq_true qk) (by unfold Func.isWrapper;first|(rw[if_pos (by decide+kernel)];kernel_rfl)|(rw[if_neg (by decide+kernel)];exact⟨rfl,rfl⟩))
  (λos started H enc _=>xH2 os started H enc)
theorem card:Rows.FnExactRunCodeCardSaid:=
 Claim7.holds_tied_plain_at .later [] [.data] true Rows.fnExactRunCodeCard.stood.harness true
  over (λ_ h=>by cases h) (by kernel_rfl) (λ_ h=>by cases h) fnExactRunCode_row_tie rfl ⟨rfl,rfl⟩ (by kernel_rfl) rfl
  (λf fn hf hfn=>by
   obtain rfl:f=4:=Option.some.inj ((show prog.funcNamed "loop.example/s01854/laws.FnExactRunCode" =some 4 by kernel_rfl).symm.trans hf) |>.symm
   obtain rfl:fn=Tryz.f4:=(Option.some.inj (func4.symm.trans hfn)).symm
   exact⟨by kernel_rfl,λj t ht=>by
    rw[Tryz.params4]at ht
    rcases j with _|_|_|j
    .obtain rfl:t=51:=by simpa using ht.symm
     exact(show prog.wantsStandIn 51=false by kernel_rfl)
    .obtain rfl:t=52:=by simpa using ht.symm
     exact(show prog.wantsStandIn 52=false by kernel_rfl)
    .obtain rfl:t=4:=by simpa using ht.symm
     exact(show prog.wantsStandIn 4=false by kernel_rfl)
    .simp at ht⟩)
  (by kernel_rfl)
end Go.Proofs.YtnnagkfoiganfaaGreatDoor.exRunCode
namespace Go.Proofs.YtnnagkfoiganfaaGreatDoor
theorem exactRunCode_holds:Rows.FnExactRunCodeCardSaid:=exRunCode.card
#print axioms exactRunCode_holds
end Go.Proofs.YtnnagkfoiganfaaGreatDoor
