import Derived.WalkSpells
import Derived.WalkLawsBesides
import Derived.Deep.Light
import Derived.Lib.SmallJoins
import Derived.Deep.DeepCutAuto
import Derived.Lib.Bytealg
import Derived.Lib.Slices
import Derived.Lib.Walk
import Derived.Deep.WholeRow
import Derived.Deep.RegionLaw
import Derived.Deep.AppendLies
import Derived.RecoverIn
import Derived.Stop.Asserts
import Derived.Deep.RegionHeld3
import Derived.Great.BuildSlice
import Derived.Sort.LotB
import Derived.Lib.AppendZeros
import Derived.Deep.Upon
import Derived.RangeFuncNested
import Derived.RangeFuncBound
import Derived.Shelf.RegionOpen
import Derived.OwnWalkIn
import Derived.LoopNIn
import Derived.LoopIn
import Derived.LaidMore
import Derived.Stop.Joined
import Derived.Test.YtehfleefkdojpaaGreatDoorChecked
import Derived.Test.YtehfleefkdojpaaGreatDoorRows
namespace Go.Proofs.YtehfleefkdojpaaGreatDoor
open _root_.List _root_.Nat Go.RowKit Go.ChangeShapes Go.WideShapes Go.ChangeAt Go.Deep Go.Proofs.Tryz
set_option linter.unusedVariables false
set_option linter.unusedSimpArgs false
set_option maxRecDepth 100000
set_option maxHeartbeats 16000000
variable {p:Prop}
theorem zzR0(h:p:=by (intro wz hSw;(try dsimp only at hSw);go_simp;(try with_reducible rfl))):p:=h
theorem zzQ0 (h:p:=by
 have hb1:Below W1.heap.size W1 (W1.drewN nq):=below_drewN (Below.refl _ _) _;have hsd:=hb1.size;have hcw:Chg (λk=>k=mb) (W1.drewN nq) W2:=by rw[hW2];exact((((Chg.of_set (S:=λk=>k=mb) _ _ _ _ rfl).trans (Chg.of_set (S:=λk=>k=mb) _ _ _ _ rfl)).trans (Chg.of_set (S:=λk=>k=mb) _ _ _ _ rfl)).trans (Chg.of_set (S:=λk=>k=mb) _ _ _ _ rfl)).trans (Chg.of_set (S:=λk=>k=mb) _ _ _ _ rfl)
 have hse:=hcw.size;have hw2:w.heap.size<W2.heap.size:=by omega
 have hmw:¬w.heap.size=mb:=by omega
 have HX2:Hid (yAe W2 w.heap.size 0 [e]):=(HX1.below hb1 (by omega)).chg hcw (by omega) hmw;have HM2:Hid (MgAt W2 base mb e.col (cut0 dv) [] false ts cg cc L):=by show MgAt W2 base mb e.col (cut0 dv) [] false ts cg cc L;rw[hW2,<-hcut];have hA:=(HM1.below hb1).setCol e.col;exact(hA.setDels hA.dels.cut).setDec false
 have HK2:Hid (Chg (Mine mb dv cg) w W2):=(Chg.of_below (k1.trans (hb1.mono (by have:=k1.size;omega)))).trans (hcw.mono (λk q=>.inl q));have HOut:Hid (∀k,Mine mb (cut0 dv) cg k->¬S k):=λk q=>H0.1.out k (by unfold Mine at*;rw[yLh H0.1.at_.dels]at q;exact q);go_upto_region 6 with fail;rw[<-hW2];clear hW2 q0 q1 q2 m0 m1 m2 m3 m4 m5 m6 mf hne hcol f0 f1 f2 f3 f4 hcut hdv;obtain⟨d0,d1,d2,d3,d4,d5⟩:=HX2.out 0 e rfl;simp only[Nat.zero_add,Nat.zero_mul]at d0 d1 d2 d3 d4 d5;obtain⟨m0,m1,m2,m3,m4,m5,m6,mf⟩:=HM2.cell;have hs2:=HK2.size;have HMine:Hid (∀k,Mine mb (cut0 dv) cg k->Mine mb dv cg k):=λk q=>by unfold Mine at*;rw[yLh H0.1.at_.dels]at q;exact q
 cases kk:(e.kind==2)
 .have HK:Hid (¬e.kind=2):=by show¬e.kind=2;simpa using kk
  by_cases hd:false=true/\ts=e.ts
  .exact absurd hd.1 (by decide)
  .have HD:Hid (¬(false=true/\ts=e.ts)):=hd;have ht:∀b,false=b->b=true->(ts==e.ts)=false:=λb h1 h2=>by simp;exact λq=>hd ⟨h1.trans h2,q⟩
   clear hd;go_upto_region 8 with fail;go_cut[58] (λs wx=>s=.bool false/\Below W2.heap.size W2 wx);case first=>
    go_quiet (fail);go_wp2_with fail;go_meet;exact⟨rfl,below_drewN (Below.refl _ _) _⟩
   case rest=>
   obtain⟨rfl,hb3⟩:=hcut;have hs3:=hb3.size;have HM3:Hid (MgAt wc base mb e.col (cut0 dv) ([]:List (Nat×Int)) false ts cg cc L):=HM2.below hb3;have HK3:Hid (Chg (Mine mb dv cg) w wc):=HK2.trans (Chg.of_below hb3);clear m0 m1 m2 m3 m4 m5 m6 mf d0 d1 d2 d3 d4 d5 ht;obtain⟨d0,d1,d2,d3,d4,d5⟩:=(HX2.below hb3 (by omega)) 0 e rfl;simp only[Nat.zero_add,Nat.zero_mul]at d0 d1 d2 d3 d4 d5;obtain⟨m0,m1,m2,m3,m4,m5,m6,mf⟩:=HM3.cell;obtain⟨W4,hW4⟩:=qE ((wc.setCell ⟨mb,4,none⟩ (.bool true)).setCell ⟨mb,5,none⟩ (.int .u64 e.ts):World);have HM4:Hid (MgAt W4 base mb e.col (cut0 dv) ([]:List (Nat×Int)) true e.ts cg cc L):=by show MgAt W4 base mb e.col (cut0 dv) ([]:List (Nat×Int)) true e.ts cg cc L;rw[hW4];exact(HM3.setDec true).setTs e.ts
   have hC4:Chg (λk=>k=mb) wc W4:=by rw[hW4];exact(Chg.of_set (S:=λk=>k=mb) _ _ _ _ rfl).trans (Chg.of_set (S:=λk=>k=mb) _ _ _ _ rfl)
   have hs4:=hC4.size;have HX4:Hid (yAe W4 w.heap.size 0 [e]):=(HX2.below hb3 (by omega)).chg hC4 (by omega) (by omega);have HK4:Hid (Chg (Mine mb dv cg) w W4):=HK3.trans (hC4.mono (λk q=>.inl q));have HMn:Hid (Mem (P++ [(a,e)]) e.col ([]:List (Nat×Int)) true e.ts):=yUg HMem.out H0.2.2.2.1 HK.out;cases k0:(e.kind==0)
   .have HR:Hid (MSt S base mb (P++ [(a,e)]) W4 e.col):=
     ⟨_,_,_,_,_,_,_,HM4.out,HMn.out,yCz H0.1.shown H0.2.2.2.1 (λq=>by have:=q.1;simp at k0;exact k0 this),HOut.out,by have:=H0.1.short;simp;omega⟩
    go_wp2_with fail;rw[<-hW4];go_end0;exact⟨rfl,HR.out,HK4.out⟩
   .go_upto_region 11 with fail;rw[<-hW4];clear hW4 m0 m1 m2 m3 m4 m5 m6 mf d0 d1 d2 d3 d4 d5;obtain⟨d0,d1,d2,d3,d4,d5⟩:=HX4.out 0 e rfl;simp only[Nat.zero_add,Nat.zero_mul]at d0 d1 d2 d3 d4 d5;go_wp2_with fail;refine(yLb base mb e.col (cut0 dv) ([]:List (Nat×Int)) true e.ts cg cc L e.ts a _ HM4.out (by have:=HMem.len;omega)).mono ?_;rintro e' w5 ⟨rfl,hb5⟩;have hs5:=hb5.size;have HM5:Hid (MgAt w5 base mb e.col (cut0 dv) ([]:List (Nat×Int)) true e.ts cg cc L):=HM4.below hb5;have HK5:Hid (Chg (Mine mb dv cg) w w5):=HK4.trans (Chg.of_below hb5);have HX5:Hid (yAe w5 w.heap.size 0 [e]):=HX4.below hb5 (by omega);have HOv:Hid (Over P a e↔yFj ([]:List (Nat×Int)) e.ts a=true):=yK0 HMem.out H0.2.2.2.1 HK.out HD.out;clear d0 d1 d2 d3 d4 d5;cases hh:yFj ([]:List (Nat×Int)) e.ts a
    .obtain⟨d0,d1,d2,d3,d4,d5⟩:=HX5.out 0 e rfl;simp only[Nat.zero_add,Nat.zero_mul]at d0 d1 d2 d3 d4 d5;obtain⟨m0,m1,m2,m3,m4,m5,m6,mf⟩:=HM5.cell;go_upto_region 12 with fail;have nmb:mb≠w.heap.size:=by omega
     have hLl:L.length<=2^30:=by have:=H0.1.short;omega
     have hbs:base<=w5.heap.size:=by omega
     have ncg:cg≠w.heap.size:=by have:=(H0.1.at_.low cg (.inr (.inr rfl))).2;omega
     have nmc:mb≠cg:=λq=>HM5.apart.2.1 q.symm;have hcl:cg<w5.heap.size:=(HM5.low cg (.inr (.inr rfl))).2;have hml:mb<w5.heap.size:=(HM5.low mb (.inl rfl)).2;have HSp:Hid (Shown (P++ [(a,e)]) (L++ [e])):=yNk H0.1.shown H0.2.2.2.1 (by simpa using k0) (λq=>by have:=HOv.1 q;rw[hh]at this;cases this)
     go_region_law ((first
       |(go_simp;go_at_call 154;refine(yIc e _).mono ?_;rintro e' w6 ⟨rfl,hb6⟩;have hq6:Below w5.heap.size w5 w6:=((Below.refl w5.heap.size w5).drew).trans hb6;obtain⟨y0,y1,y2,y3,y4,y5⟩:=(HX5.below hq6 (by omega)) 0 e rfl;simp only[Nat.zero_add,Nat.zero_mul]at y0 y1 y2 y3 y4 y5;have m6':=(HM5.below hq6).cell.2.2.2.2.2.2.1;have m6a:∀o,(w6.alloc o).cell? ⟨mb,6,none⟩=some (.slice (some ⟨cg,0,none⟩) L.length cc):=λo=>by {rw[((Below.refl w6.heap.size w6).alloc (Nat.le_refl _) o).cell (p:=⟨mb,6,none⟩) (Nat.lt_of_lt_of_le hml hq6.size)];exact m6'})
       |(refine yFm _ (by rfl) _ _ (by rfl) base cg cc w6.heap.size L e (by rfl) (by rfl) ?hO ?hc hLl ?hb ?_
         case hO=>exact(HM5.below hq6).cells.below (qB) (Nat.lt_of_lt_of_le hcl hq6.size)
         case hc=>exact yH5 w6 e
         case hb=>exact Nat.le_trans hbs (Nat.le_trans hq6.size (by simp))
         intro g7 cp7 w7 hO7 hgr7 hgg7
         have fin7:Hid (MSt S base mb (P++ [(a,e)]) (w7.setCell ⟨mb,6,none⟩ (.slice (some ⟨g7,0,none⟩) (L.length+1) cp7)) e.col/\Chg (Mine mb dv cg) w (w7.setCell ⟨mb,6,none⟩ (.slice (some ⟨g7,0,none⟩) (L.length+1) cp7))):=by {have hpf:=yTv HM5.out hq6 hO7 hgr7 (by simpa using hgg7) HMn.out HSp.out HOut.out (λk hk=>by have:=H0.2.2.2.2 k hk;omega) H0.1.short;exact⟨hpf.1,HK5.trans (hpf.2.mono HMine.out)⟩}
         have hm7:=(HM5.below hq6).below ((Below.refl w6.heap.size w6).alloc (Nat.le_refl _) (Obj.cells #[.string e.row,.string e.fam,.string e.qual,.int .u64 e.ts,.string e.val] 73))
         have hc7:Chg (λk=>k=cg) (w6.alloc (Obj.cells #[.string e.row,.string e.fam,.string e.qual,.int .u64 e.ts,.string e.val] 73)) w7:=Chg.of_grown hgr7 (λk hk=>by cases hk;rfl)
         have m7:w7.cell? ⟨mb,6,none⟩=some (.slice (some ⟨cg,0,none⟩) L.length cc):=by rw[hc7.cell (p:=⟨mb,6,none⟩) (hm7.low mb (.inl rfl)).2 nmc];exact hm7.cell.2.2.2.2.2.2.1
         have f7:w7.frozen? ⟨mb,6,none⟩=false:=by rw[hc7.frozen (p:=⟨mb,6,none⟩) (hm7.low mb (.inl rfl)).2 nmc];exact hm7.cell.2.2.2.2.2.2.2 6
         clear hm7 hc7 hO7 hgr7 hgg7)))
     all_goals go_end0
     all_goals exact⟨rfl,fin7.out.1,fin7.out.2⟩
    .have HR:Hid (MSt S base mb (P++ [(a,e)]) w5 e.col):=
      ⟨_,_,_,_,_,_,_,HM5.out,HMn.out,yCz H0.1.shown H0.2.2.2.1 (λq=>q.2 (HOv.2 hh)),HOut.out,by have:=H0.1.short;simp;omega⟩
     go_wp2_with fail;go_end0;exact⟨rfl,HR.out,HK5.out⟩
 .have HK:Hid (e.kind=2):=by show e.kind=2;simpa using kk
  have hdl:([]:List (Nat×Int)).length<=2^30:=by have:=HMem.len;omega
  have hbs:base<=W2.heap.size:=by omega
  have HMn:Hid (Mem (P++ [(a,e)]) e.col (([]:List (Nat×Int))++ [(a,e.ts)]) false ts):=yUi HMem.out HK.out;have HSp:Hid (Shown (P++ [(a,e)]) L):=yCz H0.1.shown H0.2.2.2.1 (λq=>by have:=q.1;have:=HK.out;omega);have hml:mb<W2.heap.size:=(HM2.low mb (.inl rfl)).2;have f3:=mf 3;go_upto_region 7 with fail
  go_region_law ((refine yFl _ (by rfl) _ _ (by rfl) base W2.heap.size (cut0 dv) ([]:List (Nat×Int)) a e.ts (by rfl) (by rfl) ?hO ?h0 ?h1 hdl ?hb ?_
                  case hO=>exact yAg (S:=λ_=>False) HM2.dels (Chg.of_below (((Below.refl W2.heap.size W2).drew).alloc (Nat.le_refl _) _)) (λk _ q=>q)
                  case h0=>simp
                  case h1=>simp
                  case hb=>exact Nat.le_trans hbs (by simp)
                  intro g7 cp7 w7 hO7 hgr7 hgg7
                  have fin7:Hid (MSt S base mb (P++ [(a,e)]) (w7.setCell ⟨mb,3,none⟩ (.slice (some ⟨g7,0,none⟩) (([]:List (Nat×Int)).length+1) cp7)) e.col/\Chg (Mine mb dv cg) w (w7.setCell ⟨mb,3,none⟩ (.slice (some ⟨g7,0,none⟩) (([]:List (Nat×Int)).length+1) cp7))/\w7.cell? ⟨mb,3,none⟩=some (cut0 dv)/\w7.frozen? ⟨mb,3,none⟩=false):=by {have hpf:=yVa HM2.out (((Below.refl W2.heap.size W2).drew).alloc (Nat.le_refl _) _) hO7 hgr7 (by simpa using hgg7) HMn.out HSp.out HOut.out (λk hk=>by have:=H0.2.2.2.2 k hk;omega) H0.1.short;exact⟨hpf.1,HK2.trans (hpf.2.1.mono HMine.out),hpf.2.2.1,hpf.2.2.2⟩}
                  have m7:=fin7.out.2.2.1
                  have f7:=fin7.out.2.2.2
                  clear hO7 hgr7 hgg7))
  all_goals go_wp2_with fail
  all_goals (try simp only[Exit.inBlock,Exit.then])
  all_goals refine bodyPost_ret (results_none rfl _ _ _) rfl ?_
  all_goals exact⟨rfl,fin7.out.1,fin7.out.2.1⟩):p:=h
theorem zzQ1 (h:p:=by
 have hvb:vn<=2097152:=by have:=HVn.out;rw[length_append]at this;omega
 have sf:=HFin.1.size;by_cases hfull:50<vn
 .have H:Hid (MrgT (tbs ts) row (tbs ts)):=yNw HI.out (a:=t.tb) (b:=n.tb) (by rw[yBq,HTN.1];rfl) (by rw[yBq,HTN.2];rfl) (by have:=HVn.out;simp[Tm.tb]at this|-;omega);have zf:(50:Int)<(vn:Int):=by omega
  obtain⟨k0,_,_,_⟩:=HWa.out Wf HFin.1;go_wp2_with fail;refine(HCp.out _ HFin.1).mono ?_;rintro e w7 ⟨g,cp,xs,rfl,q1,q2,hc⟩;go_wp2_with fail;exact bodyPost_ret (v:=.agg #[.slice (some ⟨g,0,none⟩) xs.length cp]) (by simp[results,results31,go_sem,q1]) rfl ⟨_,H.out,hc.out⟩
 .have zf:¬(50:Int)<(vn:Int):=by omega
  obtain⟨k0,_,_,kT,kB⟩:=HWa.out Wf HFin.1;obtain⟨W8,hW8⟩:=qE (Wf.alloc (Obj.cells #[.string t.lo,.slice va vn vc] 56):World);have hb8':Below Wf.heap.size Wf W8:=by rw[hW8];exact qB
  have hb8:Below Wa.heap.size Wa W8:=HFin.1.trans (hb8'.mono sf);have hz8:W8.heap.size=Wf.heap.size+1:=by rw[hW8];simp
  have HT8:Hid (yA2 W8 b off ts/\yDk W8 Wf.heap.size 0 [⟨t.lo,.slice va vn vc,t.l++n.l⟩]):=by
   refine⟨kT.below hb8' kB,λj u hu=>?_⟩;have hj:j=0:=by have:=(List.getElem?_eq_some_iff.1 hu).1;simp at this;omega
   subst hj;obtain rfl:=Option.some.inj hu;exact⟨by rw[hW8];simp,by rw[hW8];simp,HFin.2.below hb8'⟩
  clear kT;have HRp:Hid (Calls prog 68 #[.agg #[.slice (some ⟨b,off,none⟩) ts.length cap],.int .i64 i,.int .i64 ((i:Int)+2),.slice (some ⟨Wf.heap.size,0,none⟩) 1 1] W8 λe w'=>∃(g cp:Nat)(xs:List Tx),e=.returned (.agg #[.slice (some ⟨g,0,none⟩) xs.length cp])/\w'.cell? ⟨w.heap.size+1,0,none⟩=some (.slice none 0 0)/\w'.frozen? ⟨w.heap.size+1,0,none⟩=false/\Hid (yVy w (tbs ts) row (.returned (.agg #[.slice (some ⟨g,0,none⟩) xs.length cp])) (w'.setCell ⟨w.heap.size+1,0,none⟩ (.slice (some ⟨g,0,none⟩) xs.length cp)))):=by
   have hln:(ts.map Tm.ty).length=ts.length:=length_map ..;have h9:=yC2 b off cap (ts.map Tm.ty) [⟨t.lo,.slice va vn vc,t.l++n.l⟩] i (i+2) Wf.heap.size W8 HT8.1.tys (by omega) HT8.2 (by omega) (by omega) (by simp) (by omega) (by unfold maxLen;omega) (by omega) (by rw[hln];omega) (by simp) (λx hx=>by
    rcases List.mem_append.1 hx with hx|hx
    .exact HSy.out x hx
    .simp at hx
     subst hx
     have h3:=HS.2 t (mem_of_getElem? HTN.1)
     have h4:=HS.2 n (mem_of_getElem? HTN.2)
     refine⟨?_,?_⟩
     .show(t.l++n.l).length<=1048576
      have:=HVn.out
      omega
     .show totM (t.l++n.l)<=1048576
      exact HTot.out)
   rw[hln]at h9;have h10:((i+2:Nat):Int)=(i:Int)+2:=by omega
   rw[h10]at h9;refine h9.mono ?_;intro e w9 hp;obtain⟨g,cp,xs,rfl,hb9,hc⟩:=yH1 (w:=w) (w.heap.size+1) (hba.trans (hb8.mono (by omega))) (by omega) (by omega) hp;obtain⟨_,q1,q2,_⟩:=HWa.out w9 (hb8.trans (hb9.mono hb8.size));refine⟨g,cp,xs,rfl,q1,q2,_,?_,hc⟩;have h11:=yNx HG.out HI.out (a:=t.tb) (b:=n.tb) (by rw[yBq,HTN.1];rfl) (by rw[yBq,HTN.2];rfl) (by have:=HVn.out;simp[Tm.tb]at this|-;omega);have h12:((ts.map Tm.ty).take i++ [Ty.mk t.lo (.slice va vn vc) (t.l++n.l)]++(ts.map Tm.ty).drop (i+2)).map Ty.tb=(tbs ts).take i++ [⟨t.tb.lo,t.tb.rs++n.tb.rs⟩]++(tbs ts).drop (i+2):=by rw[map_append,map_append,List.map_take,List.map_drop,yKu];simp[Ty.tb,Tm.tb]
   rw[h12];exact h11
  have zi2:(i:Int)+2<=1048580:=by omega
  go_wp2_with fail;rw[<-hW8];clear hW8;refine HRp.mono ?_;rintro e w9 ⟨g,cp,xs,rfl,q1,q2,hc⟩;go_wp2_with fail;exact bodyPost_ret (v:=.agg #[.slice (some ⟨g,0,none⟩) xs.length cp]) (by simp[results,results31,go_sem,q1]) rfl hc.out):p:=h
theorem zzQ2 (h:p:=by
 go_wp2_with fail;go_loopw[6,7] (λjv nv wr=>∃(j n:Nat)(f:UInt8->Bool),j<=p.size/\n<=j/\jv=.int .i64 (j:Int)/\nv=.int .i64 (n:Int)/\yEa (sb p) (i+1) false j (decide (0<n)) f/\wr=W0) (λjv _ _=>p.size-(intOf jv).toNat);case atStart=>exact⟨j0,0,λ_=>false,hj0,zero_le _,congrArg (Value.int .i64) (by rw[HJ0.out];simp<;>omega),rfl,HM0.out,rfl⟩
 case round=>
  obtain⟨j,n,f,hj,hnj,rfl,rfl,hE,hwr⟩:=hrel;have HE:Hid (yEa (sb p) (i+1) false j (decide (0<n)) f):=hE;rw[hwr];clear hE hwr HM0 HJ0 HNG;by_cases hlt:j<p.size
  .obtain⟨x,hx⟩:∃x,(sb p)[j]?=some x:=⟨_,getElem?_eq_getElem (by rw[yA9];exact hlt)⟩;obtain⟨_,gx⟩:=yF7 hx;have HX:Hid ((sb p)[j]?=some x):=hx;have zj:(j:Int)<(p.size:Int):=by omega
   clear hx;by_cases hend:x=93/\0<n
   .obtain⟨rfl,hn0⟩:=hend;have zn:(0:Int)<(n:Int):=by omega
    have HF:Hid (∃f',yBc (sb p) (i+1)=.inl (f',j+1)):=by refine⟨if false=true then λc=> !f c else f,?_⟩;rw[HE.eq,decide_eq_true hn0,yRa HX.out]
    obtain⟨f',hf'⟩:=HF.out;have HF':Hid (yBc (sb p) (i+1)=.inl (f',j+1)):=hf';clear hf' HF;go_wp2_with fail;exact bodyPost_ret (v:=.tuple #[.int .i64 ((j+1:Nat):Int),.agg #[.int .i64 0,.int .i64 0]]) (yB4 rfl rfl (HS.out (.int .i64 0) (.int .i64 0)).1) rfl ⟨.inl ⟨f',j+1,HF'.out,rfl⟩,(HS.out (.int .i64 0) (.int .i64 0)).2⟩
   .have HG:Hid (clsM (sb p) j (decide (0<n)) f=match yE (sb p) j with| .inr e=>.inr e| .inl (a,b,k)=>clsM (sb p) k true (wider f a b)):=yXm (by rw[yA9];omega) (λq=>hend ⟨by have h1:=q.1;rw[HX.out]at h1;exact Option.some.inj h1,by simpa using q.2⟩);obtain⟨lo,k,b,hch⟩:∃lo k b,chM (sb p) j=(lo,k,b):=⟨_,_,_,rfl⟩;have HCh:Hid (chM (sb p) j=(lo,k,b)):=hch;have hkl:b=true->k<=p.size/\j<k:=λq=>by subst q;have:=yLk hch;rw[yA9]at this;omega
    clear hch;have hpick:((x.toNat:Int)==93)=false\/(¬(0:Int)<(n:Int)):=by
     by_cases h93:x=93
     .exact .inr (λq=>hend ⟨h93,by omega⟩)
     .exact .inl (beq_eq_false_iff_ne.2 (yFp (c:=93) h93))
    clear hend;have hpk:(((x.toNat:Int)==93)=false)\/(((x.toNat:Int)==93)=true/\n=0):=by
     rcases hpick with q|q
     .exact .inl q
     .cases hq:((x.toNat:Int)==93)
      .exact .inl rfl
      .exact .inr ⟨rfl,by omega⟩
    clear hpick;rcases hpk with h93|⟨h93,hn0⟩;case' inr=>
     have zn:¬(0:Int)<(n:Int):=by omega
     clear hn0
    all_goals
     go_wp2_with fail
     refine(yG3 p j W0 hp (by omega) lo k b HCh.out).mono ?_
     rintro e w1 ⟨rfl,hw1⟩
     rw[hw1]
     clear hw1
     cases b
     case false=>
      have HF:Hid (yBc (sb p) (i+1)=.inr (2,k)):=by show yBc (sb p) (i+1)=_;rw[HE.eq,HG.out];unfold yE;rw[HCh.out]
      go_wp2_with fail;exact bodyPost_ret (v:=.tuple #[.int .i64 0,.agg #[.int .i64 2,.int .i64 (k:Int)]]) (yB4 rfl rfl (HS.out (.int .i64 2) (.int .i64 (k:Int))).1) rfl ⟨.inr ⟨2,k,HF.out,rfl⟩,(HS.out (.int .i64 2) (.int .i64 (k:Int))).2⟩
     obtain⟨hks,hjk⟩:=hkl rfl
     clear hkl
     by_cases h45:(sb p)[k]?=some 45
     .obtain⟨hk2,gk⟩:=yF7 h45;have HK:Hid ((sb p)[k]?=some 45):=h45;have zk:(k:Int)<(p.size:Int):=by omega
      obtain⟨hh,m,b2,hch2⟩:∃hh m b2,chM (sb p) (k+1)=(hh,m,b2):=⟨_,_,_,rfl⟩;have HCh2:Hid (chM (sb p) (k+1)=(hh,m,b2)):=hch2;have hml:b2=true->m<=p.size/\k<m:=λq=>by subst q;have:=yLk hch2;rw[yA9]at this;omega
      clear hch2 h45;go_wp2_with fail;refine(yG3 p (k+1) W0 hp (by omega) hh m b2 HCh2.out).mono ?_;rintro e w2 ⟨rfl,hw2⟩;rw[hw2];clear hw2;cases b2
      .have HF:Hid (yBc (sb p) (i+1)=.inr (2,m)):=by show yBc (sb p) (i+1)=_;rw[HE.eq,HG.out];unfold yE;rw[HCh.out];simp only[];rw[if_pos HK.out,HCh2.out]
       go_wp2_with fail;exact bodyPost_ret (v:=.tuple #[.int .i64 0,.agg #[.int .i64 2,.int .i64 (m:Int)]]) (yB4 rfl rfl (HS.out (.int .i64 2) (.int .i64 (m:Int))).1) rfl ⟨.inr ⟨2,m,HF.out,rfl⟩,(HS.out (.int .i64 2) (.int .i64 (m:Int))).2⟩
      .obtain⟨hms,hkm⟩:=hml rfl;clear hml;by_cases hlo:hh<lo
       .have zlo:(hh.toNat:Int)<(lo.toNat:Int):=by have:=UInt8.lt_iff_toNat_lt.1 hlo;omega
        have HF:Hid (yBc (sb p) (i+1)=.inr (4,j)):=by show yBc (sb p) (i+1)=_;rw[HE.eq,HG.out];unfold yE;rw[HCh.out];simp only[];rw[if_pos HK.out,HCh2.out];simp only[];rw[if_pos hlo]
        go_wp2_with fail;exact bodyPost_ret (v:=.tuple #[.int .i64 0,.agg #[.int .i64 4,.int .i64 (j:Int)]]) (yB4 rfl rfl (HS.out (.int .i64 4) (.int .i64 (j:Int))).1) rfl ⟨.inr ⟨4,j,HF.out,rfl⟩,(HS.out (.int .i64 4) (.int .i64 (j:Int))).2⟩
       .have zlo:(lo.toNat:Int)<=(hh.toNat:Int):=by have:=UInt8.le_iff_toNat_le.1 (UInt8.not_lt.1 hlo);omega
        have HF:Hid (yEa (sb p) (i+1) false m true (wider f lo hh)):=by show yEa _ _ _ _ _ _;unfold yEa;rw[HE.eq,HG.out];unfold yE;rw[HCh.out];simp only[];rw[if_pos HK.out,HCh2.out];simp only[];rw[if_neg hlo]
        clear hlo;go_wp2_with fail;go_roundw;case rel=>exact⟨m,n+1,wider f lo hh,hms,by omega,rfl,by go_num,by rw[decide_eq_true (succ_pos n)];exact HF.out,trivial⟩
        case measure=>simp[intOf];omega
     .have HK:Hid (¬(sb p)[k]?=some 45):=h45;have HF:Hid (yEa (sb p) (i+1) false k true (wider f lo lo)):=by show yEa _ _ _ _ _ _;unfold yEa;rw[HE.eq,HG.out];unfold yE;rw[HCh.out];simp only[];rw[if_neg HK.out]
      clear h45;by_cases hke:k<p.size
      .obtain⟨y,hy⟩:∃y,(sb p)[k]?=some y:=⟨_,getElem?_eq_getElem (by rw[yA9];exact hke)⟩;obtain⟨_,gy⟩:=yF7 hy;have zk:(k:Int)<(p.size:Int):=by omega
       have zy:((y.toNat:Int)==45)=false:=beq_eq_false_iff_ne.2 (yFp (c:=45) (λq=>HK.out (by rw[hy,q])));clear hy;go_wp2_with fail;go_roundw;case rel=>exact⟨k,n+1,wider f lo lo,hks,by omega,rfl,by go_num,by rw[decide_eq_true (succ_pos n)];exact HF.out,trivial⟩
       case measure=>simp[intOf];omega
      .have zk:¬(k:Int)<(p.size:Int):=by omega
       go_wp2_with fail;go_roundw;case rel=>exact⟨k,n+1,wider f lo lo,hks,by omega,rfl,by go_num,by rw[decide_eq_true (succ_pos n)];exact HF.out,trivial⟩
       case measure=>simp[intOf];omega
  .have HF:Hid (yBc (sb p) (i+1)=.inr (2,p.size)):=by show yBc (sb p) (i+1)=_;rw[HE.eq,clsM,dif_neg (by rw[yA9];exact hlt),yA9]
   have zj:¬(j:Int)<(p.size:Int):=by omega
   go_wp2_with fail;exact bodyPost_ret (v:=.tuple #[.int .i64 0,.agg #[.int .i64 2,.int .i64 (p.size:Int)]]) (yB4 rfl rfl (HS.out (.int .i64 2) (.int .i64 (p.size:Int))).1) rfl ⟨.inr ⟨2,p.size,HF.out,rfl⟩,(HS.out (.int .i64 2) (.int .i64 (p.size:Int))).2⟩):p:=h
theorem zzQ3(h:p:=by have HB:=HA.back (λe he=>(HX.2 e he).ok) (by rw[<-HN.out];exact hl) HSm.2 WP hWP;have HBH:Hid (yA WP w.heap.size 25 1 (w.heap.size+1) [.slice none 0 0]):=HB.1;obtain⟨WF,hWF⟩:=qE (WP.setCell ⟨w.heap.size+1,0,none⟩ (.slice (some ⟨g5,0,none⟩) N c5):World);have HR:Hid (WF.cell? ⟨w.heap.size+1,0,none⟩=some (.slice (some ⟨g5,0,none⟩) N c5)/\AnyP base cb bv n w (.returned (.agg #[.slice (some ⟨g5,0,none⟩) N c5])) WF):=HB.2 N WF HN.out hWF;clear HB;go_upto_region 28 with fail;rw[<-hWP];clear hWP k0 k1 k2 k3 k4 k5 k6 d0 d1 d2 d3 d4 d5 d6 hfz;have r0:=HBH.cell (j:=0) rfl;have rf:=HBH.frozen 0;have p0:=HR.1;go_wp2_with fail;rw[<-hWF];exact bodyPost_ret (by simp[results,results17,go_sem,p0]) rfl HR.2):p:=h
theorem zzQ4 (h:p:=by
 have c2_0:=H2.e.cell (j:=0) rfl;have z2_0:=H2.e.frozen 0;obtain⟨W3,hW3⟩:=qE (W2.setCell ⟨eb,0,none⟩ (.int .i64 10):World);have H3:Hid (NInv base cb bv n w eb w.heap.size (⟨10,⟨#[]⟩,false,⟨#[]⟩,0,0,0⟩:Nd) W3):=by rw[hW3];exact H2.set 0 _ _ rfl ⟨H2.sm.s,H2.sm.t,H2.sm.lo,H2.sm.up,H2.sm.n,(by show(0:Int)<=10/\(10:Int)<=100000;omega)⟩
 go_upto_region 35 with fail;rw[<-hW3];clear hW3;go_wp2_with fail;refine(yAh base cb bv n 4 _ H3.d (by omega) (by omega)).mono ?_;rintro e w4 ⟨y,rfl,hy0,hy1,hd⟩;have H4w:Hid (NInv base cb bv n w eb w.heap.size (⟨10,⟨#[]⟩,false,⟨#[]⟩,0,0,0⟩:Nd) w4):=H3.call hd;clear hd;have c4_4:=H4w.e.cell (j:=4) rfl;have z4_4:=H4w.e.frozen 4;obtain⟨W5,hW5⟩:=qE (w4.setCell ⟨eb,4,none⟩ (.int .u64 y):World);have H5:Hid (NInv base cb bv n w eb w.heap.size (⟨10,⟨#[]⟩,false,⟨#[]⟩,y,0,0⟩:Nd) W5):=by rw[hW5];exact H4w.set 4 _ _ rfl ⟨H4w.sm.s,H4w.sm.t,(by show 0<=y/\y<=100000;omega),H4w.sm.up,H4w.sm.n,H4w.sm.kind⟩
 go_upto_region 36 with fail;rw[<-hW5];clear hW5;go_wp2_with fail;refine(yAx base cb bv n 2 _ H5.d (by omega) (by omega)).mono ?_;rintro e w6 ⟨v,rfl,hv,hd⟩;have H6w:Hid (NInv base cb bv n w eb w.heap.size (⟨10,⟨#[]⟩,false,⟨#[]⟩,y,0,0⟩:Nd) w6):=H5.call hd;clear hd;rcases hv with rfl|rfl
 .have c6_2:=H6w.e.cell (j:=2) rfl;have z6_2:=H6w.e.frozen 2;obtain⟨W7,hW7⟩:=qE (w6.setCell ⟨eb,2,none⟩ (.bool true):World);have H7:Hid (NInv base cb bv n w eb w.heap.size (⟨10,⟨#[]⟩,true,⟨#[]⟩,y,0,0⟩:Nd) W7):=by rw[hW7];exact H6w.set 2 _ _ rfl ⟨H6w.sm.s,H6w.sm.t,H6w.sm.lo,H6w.sm.up,H6w.sm.n,H6w.sm.kind⟩
  go_upto_region 37 with fail;rw[<-hW7];clear hW7;have cH:=H7.e.cell (j:=2) rfl;go_upto_region 38 with fail;clear cH;have HL:Hid (Calls prog 42 #[.pointer (some ⟨cb,0,none⟩),.int .i64 4] W7.drew λe w'=>∃x:Int,e=.returned (.int .i64 x)/\0<=x/\x<4/\Drew base cb bv n W7.drew w'):=yAh base cb bv n 4 _ H7.drew.d (by omega) (by omega);have hS0:SW (λwz:World=>wz.cell? ⟨eb,4,none⟩=some (.int .u64 y)) W7.drew:=H7.drew.e.cell (j:=4) rfl;refine wpR 8 hS0 ?_;refine j1a 0 hS0 ?_;iterate 3 refine j1b hS0 ?_
  refine qO 4 rfl λK hK=>?_;go_simp;refine HL.mono ?_;rintro e w8 ⟨u,rfl,hu0,hu1,hd⟩;have H8w:Hid (NInv base cb bv n w eb w.heap.size (⟨10,⟨#[]⟩,true,⟨#[]⟩,y,0,0⟩:Nd) w8):=H7.drew.call hd;clear hd HL hS0;have hS0:(λwz:World=>wz.cell? ⟨eb,4,none⟩=some (.int .u64 y)) w8:=H8w.e.cell (j:=4) rfl;refine hK.out _ _ (.inr hS0) ?_;clear hK;refine jS ?_;refine j1a 5 hS0 ?_;iterate 2 refine j1b hS0 ?_
  have c8_5:=H8w.e.cell (j:=5) rfl;have z8_5:=H8w.e.frozen 5;obtain⟨W9,hW9⟩:=qE (w8.setCell ⟨eb,5,none⟩ (.int .u64 (y+1+u)):World);have H9:Hid (NInv base cb bv n w eb w.heap.size (⟨10,⟨#[]⟩,true,⟨#[]⟩,y,(y+1+u),0⟩:Nd) W9):=by rw[hW9];exact H8w.set 5 _ _ rfl ⟨H8w.sm.s,H8w.sm.t,H8w.sm.lo,(by show 0<=y+1+u/\y+1+u<=100000;omega),H8w.sm.n,H8w.sm.kind⟩
  refine qO 8 rfl λK hK=>?_;go_simp;refine hK.out _ _ (.inl rfl) ?_;clear hK;refine jS ?_;refine qD ?_;have hwr:IntKind.u64.wrap (IntKind.u64.wrap (y+1)+IntKind.u64.wrap u)=y+1+u:=by rw[yX9 (y+1) (by omega),yX9 u (by omega),yX9 _ (by omega)]
  rw[hwr,<-hW9];clear hW9 hS0;go_upto_region 49 with fail;obtain⟨k0,k1,k2,k3,k4,k5,k6⟩:=H9.e.c7;obtain⟨l0,l1,l2,l3,l4,l5,l6⟩:=H9.r.c7;have lf:=H9.r.frozen;obtain⟨WF,hWF⟩:=qE (set7 W9 w.heap.size (⟨10,⟨#[]⟩,true,⟨#[]⟩,y,(y+1+u),0⟩:Nd):World);have hfin:=H9.fin;rw[<-hWF]at hfin;obtain⟨hB9,HR⟩:=hfin;obtain⟨p0,p1,p2,p3,p4,p5,p6⟩:=hB9.c7;have HRH:Hid (LefP base cb bv n w (.returned (Nd.v (⟨10,⟨#[]⟩,true,⟨#[]⟩,y,(y+1+u),0⟩:Nd))) WF):=HR;clear hB9 HR;simp only[set7]at hWF;simp only at k0 k1 k2 k3 k4 k5 k6 l0 l1 l2 l3 l4 l5 l6 p0 p1 p2 p3 p4 p5 p6;go_wp2_with fail;rw[<-hWF];exact bodyPost_ret (by simp[results,results93,go_sem,p0,p1,p2,p3,p4,p5,p6]) rfl HRH.out
 .have c6_2:=H6w.e.cell (j:=2) rfl;have z6_2:=H6w.e.frozen 2;obtain⟨W7,hW7⟩:=qE (w6.setCell ⟨eb,2,none⟩ (.bool false):World);have H7:Hid (NInv base cb bv n w eb w.heap.size (⟨10,⟨#[]⟩,false,⟨#[]⟩,y,0,0⟩:Nd) W7):=by rw[hW7];exact H6w.set 2 _ _ rfl ⟨H6w.sm.s,H6w.sm.t,H6w.sm.lo,H6w.sm.up,H6w.sm.n,H6w.sm.kind⟩
  go_upto_region 37 with fail;rw[<-hW7];clear hW7;have cH:=H7.e.cell (j:=2) rfl;go_upto_region 49 with fail;clear cH;obtain⟨k0,k1,k2,k3,k4,k5,k6⟩:=H7.e.c7;obtain⟨l0,l1,l2,l3,l4,l5,l6⟩:=H7.r.c7;have lf:=H7.r.frozen;obtain⟨WF,hWF⟩:=qE (set7 W7 w.heap.size (⟨10,⟨#[]⟩,false,⟨#[]⟩,y,0,0⟩:Nd):World);have hfin:=H7.fin;rw[<-hWF]at hfin;obtain⟨hB9,HR⟩:=hfin;obtain⟨p0,p1,p2,p3,p4,p5,p6⟩:=hB9.c7;have HRH:Hid (LefP base cb bv n w (.returned (Nd.v (⟨10,⟨#[]⟩,false,⟨#[]⟩,y,0,0⟩:Nd))) WF):=HR;clear hB9 HR;simp only[set7]at hWF;simp only at k0 k1 k2 k3 k4 k5 k6 l0 l1 l2 l3 l4 l5 l6 p0 p1 p2 p3 p4 p5 p6;go_wp2_with fail;rw[<-hWF];exact bodyPost_ret (by simp[results,results93,go_sem,p0,p1,p2,p3,p4,p5,p6]) rfl HRH.out):p:=h
theorem zzQ5 (h:p:=by
 have c2_0:=H2.e.cell (j:=0) rfl;have z2_0:=H2.e.frozen 0;obtain⟨W3,hW3⟩:=qE (W2.setCell ⟨eb,0,none⟩ (.int .i64 9):World);have H3:Hid (NInv base cb bv n w eb w.heap.size (⟨9,⟨#[]⟩,false,⟨#[]⟩,0,0,0⟩:Nd) W3):=by rw[hW3];exact H2.set 0 _ _ rfl ⟨H2.sm.s,H2.sm.t,H2.sm.lo,H2.sm.up,H2.sm.n,(by show(0:Int)<=9/\(9:Int)<=100000;omega)⟩
 go_upto_region 28 with fail;rw[<-hW3];clear hW3;go_wp2_with fail;refine(yAu base cb bv n 0 2 _ H3.d (by omega) (by omega) (by omega)).mono ?_;rintro e w4 ⟨s1,rfl,hs1,hd⟩;have H4w:Hid (NInv base cb bv n w eb w.heap.size (⟨9,⟨#[]⟩,false,⟨#[]⟩,0,0,0⟩:Nd) w4):=H3.call hd;clear hd;have c4_1:=H4w.e.cell (j:=1) rfl;have z4_1:=H4w.e.frozen 1;obtain⟨W5,hW5⟩:=qE (w4.setCell ⟨eb,1,none⟩ (.string s1):World);have H5:Hid (NInv base cb bv n w eb w.heap.size (⟨9,s1,false,⟨#[]⟩,0,0,0⟩:Nd) W5):=by rw[hW5];exact H4w.set 1 _ _ rfl ⟨(by show s1.size<=200000;omega),H4w.sm.t,H4w.sm.lo,H4w.sm.up,H4w.sm.n,H4w.sm.kind⟩
 go_upto_region 29 with fail;rw[<-hW5];clear hW5;go_wp2_with fail;refine(yAx base cb bv n 2 _ H5.d (by omega) (by omega)).mono ?_;rintro e w6 ⟨v,rfl,hv,hd⟩;have H6w:Hid (NInv base cb bv n w eb w.heap.size (⟨9,s1,false,⟨#[]⟩,0,0,0⟩:Nd) w6):=H5.call hd;clear hd;rcases hv with rfl|rfl
 .have c6_2:=H6w.e.cell (j:=2) rfl;have z6_2:=H6w.e.frozen 2;obtain⟨W7,hW7⟩:=qE (w6.setCell ⟨eb,2,none⟩ (.bool true):World);have H7:Hid (NInv base cb bv n w eb w.heap.size (⟨9,s1,true,⟨#[]⟩,0,0,0⟩:Nd) W7):=by rw[hW7];exact H6w.set 2 _ _ rfl ⟨H6w.sm.s,H6w.sm.t,H6w.sm.lo,H6w.sm.up,H6w.sm.n,H6w.sm.kind⟩
  go_upto_region 30 with fail;rw[<-hW7];clear hW7;have cH:=H7.e.cell (j:=2) rfl;go_upto_region 31 with fail;clear cH;have HL:Hid (Calls prog 52 #[.pointer (some ⟨cb,0,none⟩),.int .i64 1,.int .i64 2] W7.drew λe w'=>∃s:ByteArray,e=.returned (.string s)/\s.size<=100/\Drew base cb bv n W7.drew w'):=yAu base cb bv n 1 2 _ H7.drew.d (by omega) (by omega) (by omega);have hS0:SW (λwz:World=>wz.cell? ⟨eb,1,none⟩=some (.string s1)) W7.drew:=H7.drew.e.cell (j:=1) rfl;refine wpR 6 hS0 ?_;refine j1a 0 hS0 ?_;iterate 2 refine j1b hS0 ?_
  refine qO 3 rfl λK hK=>?_;go_simp;refine HL.mono ?_;rintro e w8 ⟨s4,rfl,hs4,hd⟩;have H8w:Hid (NInv base cb bv n w eb w.heap.size (⟨9,s1,true,⟨#[]⟩,0,0,0⟩:Nd) w8):=H7.drew.call hd;clear hd HL hS0;have hS0:(λwz:World=>wz.cell? ⟨eb,1,none⟩=some (.string s1)) w8:=H8w.e.cell (j:=1) rfl;refine hK.out _ _ (.inr hS0) ?_;clear hK;refine jS ?_;have hcat:¬9223372036854775807<s1.size+s4.size:=by omega
  refine j1a 4 hS0 ?_;clear hcat;refine j1a 5 hS0 ?_;have c8_3:=H8w.e.cell (j:=3) rfl;have z8_3:=H8w.e.frozen 3;obtain⟨W9,hW9⟩:=qE (w8.setCell ⟨eb,3,none⟩ (.string (s1++s4)):World);have H9:Hid (NInv base cb bv n w eb w.heap.size (⟨9,s1,true,(s1++s4),0,0,0⟩:Nd) W9):=by rw[hW9];exact H8w.set 3 _ _ rfl ⟨H8w.sm.s,(by show(s1++s4).size<=300000;rw[yDq];omega),H8w.sm.lo,H8w.sm.up,H8w.sm.n,H8w.sm.kind⟩
  refine qO 6 rfl λK hK=>?_;go_simp;refine hK.out _ _ (.inl rfl) ?_;clear hK;refine jS ?_;refine qD ?_;rw[<-hW9];clear hW9 hS0;go_upto_region 49 with fail;obtain⟨k0,k1,k2,k3,k4,k5,k6⟩:=H9.e.c7;obtain⟨l0,l1,l2,l3,l4,l5,l6⟩:=H9.r.c7;have lf:=H9.r.frozen;obtain⟨WF,hWF⟩:=qE (set7 W9 w.heap.size (⟨9,s1,true,(s1++s4),0,0,0⟩:Nd):World);have hfin:=H9.fin;rw[<-hWF]at hfin;obtain⟨hB9,HR⟩:=hfin;obtain⟨p0,p1,p2,p3,p4,p5,p6⟩:=hB9.c7;have HRH:Hid (LefP base cb bv n w (.returned (Nd.v (⟨9,s1,true,(s1++s4),0,0,0⟩:Nd))) WF):=HR;clear hB9 HR;simp only[set7]at hWF;simp only at k0 k1 k2 k3 k4 k5 k6 l0 l1 l2 l3 l4 l5 l6 p0 p1 p2 p3 p4 p5 p6;go_wp2_with fail;rw[<-hWF];exact bodyPost_ret (by simp[results,results93,go_sem,p0,p1,p2,p3,p4,p5,p6]) rfl HRH.out
 .have c6_2:=H6w.e.cell (j:=2) rfl;have z6_2:=H6w.e.frozen 2;obtain⟨W7,hW7⟩:=qE (w6.setCell ⟨eb,2,none⟩ (.bool false):World);have H7:Hid (NInv base cb bv n w eb w.heap.size (⟨9,s1,false,⟨#[]⟩,0,0,0⟩:Nd) W7):=by rw[hW7];exact H6w.set 2 _ _ rfl ⟨H6w.sm.s,H6w.sm.t,H6w.sm.lo,H6w.sm.up,H6w.sm.n,H6w.sm.kind⟩
  go_upto_region 30 with fail;rw[<-hW7];clear hW7;have cH:=H7.e.cell (j:=2) rfl;go_upto_region 49 with fail;clear cH;obtain⟨k0,k1,k2,k3,k4,k5,k6⟩:=H7.e.c7;obtain⟨l0,l1,l2,l3,l4,l5,l6⟩:=H7.r.c7;have lf:=H7.r.frozen;obtain⟨WF,hWF⟩:=qE (set7 W7 w.heap.size (⟨9,s1,false,⟨#[]⟩,0,0,0⟩:Nd):World);have hfin:=H7.fin;rw[<-hWF]at hfin;obtain⟨hB9,HR⟩:=hfin;obtain⟨p0,p1,p2,p3,p4,p5,p6⟩:=hB9.c7;have HRH:Hid (LefP base cb bv n w (.returned (Nd.v (⟨9,s1,false,⟨#[]⟩,0,0,0⟩:Nd))) WF):=HR;clear hB9 HR;simp only[set7]at hWF;simp only at k0 k1 k2 k3 k4 k5 k6 l0 l1 l2 l3 l4 l5 l6 p0 p1 p2 p3 p4 p5 p6;go_wp2_with fail;rw[<-hWF];exact bodyPost_ret (by simp[results,results93,go_sem,p0,p1,p2,p3,p4,p5,p6]) rfl HRH.out):p:=h
theorem zzQ6(h:p:=by clear hB9 HR;simp only[set7]at hWF;simp only at k0 k1 k2 k3 k4 k5 k6 l0 l1 l2 l3 l4 l5 l6 p0 p1 p2 p3 p4 p5 p6;go_wp2_with fail;rw[<-hWF];exact bodyPost_ret (by simp[results,results93,go_sem,p0,p1,p2,p3,p4,p5,p6]) rfl HRH.out):p:=h
theorem zzQ7 (h:p:=by
 obtain⟨r,hr⟩:∃r,t.l[j]?=some r:=⟨_,getElem?_eq_getElem hjl⟩;obtain⟨tb_,toff,hta,hTB,f0,fa⟩:=HTm.out j r hr;rw[hta0]at hta;subst hta;have HRr:Hid (r.at wr_1/\t.l[j]?=some r/\yAp r.es):=⟨fa,hr,yHz HG.out (mem_of_getElem? hr)⟩;have hrr:r.es.length<=1048576:=by have:=HRr.2.2.1.1;omega
 clear fa hr;have zj:(j:Int)<(t.l.length:Int):=by omega
 by_cases hemp:r.es.length=0
 .have H:Hid (¬GoodS (tbz ts)):=λq=>(yE6 (yDc q HA.2.1).rows (mem_of_getElem? HRr.2.1)).1 (List.eq_nil_of_length_eq_zero hemp);have hd0:((r.es.length:Int)==0)=true:=by rw[hemp];rfl
  clear hemp;go_wp2_with fail;go_ret;exact⟨_,rfl,iffF H.out,hbjx⟩
 have hd0:((r.es.length:Int)==0)=false:=beq_eq_false_iff_ne.2 (by omega);have HM:Hid (¬r.es.length=0):=hemp;obtain⟨rb,roff,hra,hrE,hrB,_⟩:=HRr.1 (λq=>hemp (by rw[q];rfl));unfold Rz.u at f0;rw[hra]at f0;have HRb:Hid (yAe wr_1 rb roff r.es/\rb<wr_1.heap.size):=⟨hrE,hrB⟩;clear hemp hra hrE hrB;go_wp2_with fail;go_loopw[8] (λi wr=>∃(m:Nat),m<=r.es.length/\i=.int .i64 m/\(∀e∈r.es.take m,inR t.lo (hasN (tbz ts) k) (hiN (tbz ts) k) e.row=true)/\Below wr_1.heap.size wr_1 wr) (λi _=>r.es.length-(intOf i).toNat);case atStart=>exact⟨0,zero_le _,rfl,by simp,Below.refl _ _⟩
 case round=>
  obtain⟨wr_2,hw2⟩:∃v:World,v=wr:=⟨_,rfl⟩;subst hw2;obtain⟨m,hm,rfl,hvm,hbm⟩:=hrel;have HMm:Hid (∀e∈r.es.take m,inR t.lo (hasN (tbz ts) k) (hiN (tbz ts) k) e.row=true):=hvm;have sm:=hbm.size;have hbmx:Below w.heap.size w wr_2:=hbjx.trans (hbm.mono (by omega));have hbmj:Below W1.heap.size W1 wr_2:=hbj.trans (hbm.mono (by omega));clear hvm;by_cases hml:m<r.es.length
  .obtain⟨x,hx⟩:∃x,r.es[m]?=some x:=⟨_,getElem?_eq_getElem hml⟩;have q0:=(yFz (HRb.1.below hbm HRb.2) (by have:=HRb.2;omega) hx).1;have HXx:Hid (r.es[m]?=some x):=hx;have qS:∀n:Out wr_2,n.u.cell? ⟨w.heap.size,0,none⟩=some (.slice (some ⟨b,off,none⟩) ts.length cap):=λn=>(HCA.out n.u (hbmj.trans (n.out.mono hbmj.size))).2.2.1;have HY:Hid (∀n:Out wr_2,yFg n.u b off ts/\b<n.u.heap.size):=λn=>⟨(HCA.out n.u (hbmj.trans (n.out.mono hbmj.size))).2.2.2.1,(HCA.out n.u (hbmj.trans (n.out.mono hbmj.size))).2.2.2.2.1⟩;clear hx;have zm:(m:Int)<(r.es.length:Int):=by omega
   have inh2:Nonempty (Out wr_2):=⟨⟨wr_2,Below.refl _ _⟩⟩;go_upto_region 19 with fail;refine yAf (by kernel_rfl) (by kernel_rfl) ?_
   repeat (go_big_quiet_step ((first
    |(go_at_call 23;exact Calls.out_of (yJd b off cap ts k t _ (HY.out _).1 (HY.out _).2 HA.2.1 hn))
    |(go_at_call 22;exact Calls.out_of (yDi t.lo (hiN (tbz ts) k) x.row (hasN (tbz ts) k) _)))))
   refine wpQuiet_nil ?_;rintro wz ⟨⟨wx',hbz'⟩,rfl⟩;have hbw:Below w.heap.size w wz:=hbmx.trans (hbz'.mono (by omega));have hbw2:Below wr_1.heap.size wr_1 wz:=hbm.trans (hbz'.mono (by omega));cases hin:inR t.lo (hasN (tbz ts) k) (hiN (tbz ts) k) x.row
   .have H:Hid (¬GoodS (tbz ts)):=λq=>by have h3:=(yE6 (yDc q HA.2.1).rows (mem_of_getElem? HRr.2.1)).2 x (mem_of_getElem? HXx.out);have h4:inR t.lo (hasN (tbz ts) k) (hiN (tbz ts) k) x.row=true:=h3;rw[hin]at h4;cases h4
    go_wp2_with fail;go_ret;exact⟨_,rfl,iffF H.out,hbw⟩
   .have H:Hid (∀e∈r.es.take (m+1),inR t.lo (hasN (tbz ts) k) (hiN (tbz ts) k) e.row=true):=λy hy=>by
     rcases yDs HXx.out hy with h|rfl
     .exact HMm.out y h
     .exact hin
    go_wp2_with fail;go_roundw;case rel=>exact⟨m+1,by omega,by go_num,H.out,hbw2⟩
    case measure=>go_light;simp[intOf];omega
  .have zm:¬(m:Int)<(r.es.length:Int):=by omega
   have H:Hid (∀x∈t.l.take (j+1),x.es≠ []/\∀e∈x.es,inR t.lo (hasN (tbz ts) k) (hiN (tbz ts) k) e.row=true):=λy hy=>by
    rcases yDs HRr.2.1 hy with h|rfl
    .exact HJ.out y h
    .refine⟨λq=>HM.out (by rw[q];rfl),λe he=>HMm.out e ?_⟩;rw[take_of_length_le (by omega)];exact he
   go_wp2_with fail;go_roundw;case rel=>exact⟨j+1,by omega,by go_num,H.out,hbmj⟩
   case measure=>go_light;simp[intOf];omega):p:=h
theorem zzQ8 (h:p:=by
 rcases h.2 with⟨h0,_⟩|⟨g',cap',cur,hv,_,_,hn,hcap,_,_⟩
 .cases h0
 .simp only[Value.slice.injEq,Option.some.injEq,Addr.mk.injEq,and_true,true_and]at hv;obtain⟨rfl,rfl⟩:=hv;exact⟨hn,hcap⟩):p:=h
theorem zzQ9(h:p:=by have p0:=HR.1;go_wp2_with fail;rw[<-hWF];exact bodyPost_ret (by simp[results,results17,go_sem,p0]) rfl HR.2):p:=h
theorem yS8 (h:p:=by
 refine⟨h.1,?_⟩;rcases h.2 with hn|⟨g',cap',cur,hv,h1,h2,rest⟩
 .exact .inl hn
 .simp only[Value.slice.injEq,Option.some.injEq,Addr.mk.injEq,and_true,true_and]at hv;obtain⟨rfl,rfl⟩:=hv;exact .inr ⟨g,cap,cur,rfl,h1,by rw[hb.block g hg];exact h2,rest⟩):p:=h
theorem yM5 (h:p:=by
 refine⟨h.1,?_⟩;rcases h.2 with hn|⟨g',cap',cur,hv,h1,rest⟩
 .exact .inl hn
 .exact .inr ⟨g',cap',cur,hv,Nat.le_trans hb h1,rest⟩):p:=h
theorem yX8 (h:p:=by
 clear hst HC;go_wp2_with fail;refine HC2.mono ?_;rintro e w5 ⟨a5,m5,c5,tb5,rfl,h5,hb5⟩;have H5:Hid (SI base cb (.slice a n cap) n w vb (.slice a5 m5 c5) tb5 (k+1) (w5.setCell ⟨vb,0,none⟩ (.slice a5 m5 c5))):=H4.next hb5 h5;clear h5 c0 f0;obtain⟨c0,f0⟩:=(H4.call ⟨H4.x.d.below hb5,Chg.of_below hb5⟩).cells;go_wp2_with fail;go_roundw;case rel=>go_light;exact⟨k+1,a5,m5,c5,tb5,by omega,by go_num,H5.out⟩
 case measure=>go_light;simp[intOf];omega):p:=h
theorem xBf(h:p:=by clear h ht hn';have kb:∀x,Below w.heap.size w (((w.alloc (Obj.cells #[.slice (some ⟨b,off,none⟩) ts.length cap] 28)).alloc (Obj.cells #[.string ⟨#[]⟩,.bool false,.string ⟨#[]⟩] 30)).alloc (Obj.cells #[.string t.lo,.bool x,.string ⟨#[]⟩] 30)):=λx=>((qB).alloc (by simp) _).alloc (by simp;omega) _;have d1:=(kb true).cell (p:=⟨b,off+(i+1)*2,none⟩) (by exact hB);rw[d0]at d1;have HK:Hid (Below w.heap.size w (((w.alloc (Obj.cells #[.slice (some ⟨b,off,none⟩) ts.length cap] 28)).alloc (Obj.cells #[.string t.lo,.bool true,.string n.lo] 30)).alloc (Obj.cells #[.string t.lo,.bool true,.string n.lo] 30))):=((qB).alloc (by simp) _).alloc (by simp;omega) _;clear kb;go_enter func23,ntmps23;go_wp2_with fail;refine bodyPost_ret (v:=.agg #[.string t.lo,.bool true,.string n.lo]) (by simp[results,results23,go_sem]) rfl ⟨rfl,HK.out⟩):p:=h
theorem yO8(h:p:=by go_wp2_with fail;exact bodyPost_ret (v:=.agg #[.slice (some ⟨g,0,none⟩) N cp]) (by simp[results,results19,go_sem,e0]) rfl HF.out):p:=h
theorem yV4 (h:p:=by
 have H:Hid (∀r∈l.take (k+1),yAp r.es):=λx hx=>by
  rcases yDs HA.2 hx with h|rfl
  .exact HV.out x h
  .exact HS.1 rfl
 go_wp2_with fail;go_roundw;case rel=>exact⟨k+1,by omega,by go_num,H.out,hb2⟩
 case measure=>go_light;simp[intOf];omega):p:=h
theorem yS7(h:p:=by rintro e w3 ⟨va,vn,vc,rfl,q1,q2,hc⟩;go_wp2_with fail;exact bodyPost_ret (v:=.agg #[.slice va vn vc]) (by simp[results,results35,go_sem,q1]) rfl ⟨_,H.out,hc.out⟩):p:=h
theorem xBe(h:p:=by go_wp2_with fail;exact bodyPost_ret (v:=.agg #[.slice (some ⟨g,0,none⟩) xs.length cp]) (by simp[results,results31,go_sem,q1]) rfl ⟨_,H.out,hc.out⟩):p:=h
theorem yX7 (h:p:=by
 have p9:W9.cell? ⟨w.heap.size+1,0,none⟩=some (.slice (some ⟨g,0,none⟩) m cp):=by rw[hW9];exact World.cell?_setCell_same _ _ _ rc
 clear HFn HRs HV HR HX HZ H3;go_wp2_with fail;rw[<-hW9];exact bodyPost_ret (v:=.agg #[.slice (some ⟨g,0,none⟩) m cp]) (by simp[results,results51,go_sem,p9]) rfl HE.out):p:=h
theorem xBd (h:p:=by
 intro j u hu;have hj:j<es.length*6:=by rw[<-yDt];exact(List.getElem?_eq_some_iff.1 hu).1
 obtain⟨e,he⟩:∃e,es[j/6]?=some e:=⟨_,getElem?_eq_getElem (by omega)⟩;have hg:=yLo es (j/6) e he (j%6) (mod_lt _ (by omega));rw[show j/6*6+j%6=j by omega,hu]at hg;obtain⟨c0,c1,c2,c3,c4,c5⟩:=h (j/6) e he;rw[Addr.add_mid,show off+j=off+j/6*6+j%6 by omega];have hm:j%6<6:=mod_lt _ (by omega);generalize j%6=m at*;match m,hm,hg with
 |0,_,hg=>rw[Nat.add_zero,c0,hg];rfl
 |1,_,hg=>rw[c1,hg];rfl
 |2,_,hg=>rw[c2,hg];rfl
 |3,_,hg=>rw[c3,hg];rfl
 |4,_,hg=>rw[c4,hg];rfl
 |5,_,hg=>rw[c5,hg];rfl):p:=h
theorem xBc (h:p:=by
 go_wp2_with fail;go_roundw;case rel=>exact⟨k+1,by omega,by go_num,H.out,hb2⟩
 case measure=>go_light;simp[intOf];omega):p:=h
theorem yV3(h:p:=by rintro e w3 ⟨g,cp,xs,rfl,q1,q2,hc⟩;go_wp2_with fail;exact bodyPost_ret (v:=.agg #[.slice (some ⟨g,0,none⟩) xs.length cp]) (by simp[results,results32,go_sem,q1]) rfl ⟨_,H.out,hc.out⟩):p:=h
theorem xBb (h:p:=by
 intro g6 c6 w6 hO6 hgr6 hat6;have H6:Hid (TreP base cb bv n (3*m+1) w (.returned (.slice (some ⟨g6,0,none⟩) (A.length+B.length+C.length+1) c6)) w6):=by
  have hq:=HTl.out;refine⟨g6,c6,T++ [(⟨16,⟨#[]⟩,false,⟨#[]⟩,0,0,0⟩:Nd)],by rw[length_append,hq];rfl,by rw[length_append,hq];simp;omega,by simp,λe he=>?_,hO6,H5.2.1.grow hgr6 (λk q=>by cases q;exact H5.1.lt.1)⟩;rcases List.mem_append.1 he with q|q
  .exact H8.2.2 e q
  .simp at q;subst q;exact yFt 16 (by omega)
 clear hO6 hgr6 hat6 HW5;go_wp2_with fail;go_ret;exact H6.out):p:=h
theorem yX6 (h:p:=by
 intro k hk;match k,hk with
 |0,_=>exact⟨_,by simp;rfl,by decide⟩
 |1,_=>exact⟨_,by simp;rfl,by decide⟩
 |2,_=>exact⟨_,by simp;rfl,by decide⟩
 |3,_=>exact⟨_,by simp;rfl,by decide⟩
 |4,_=>exact⟨_,by simp;rfl,by decide⟩
 |5,_=>exact⟨_,by simp;rfl,by decide⟩):p:=h
theorem yX5 (h:p:=by
 have e0:(w2.setCell ⟨w.heap.size+1,0,none⟩ (.slice a2 m2 c2)).cell? ⟨w.heap.size+1,0,none⟩=some (.slice a2 m2 c2):=by simp[go_sem,d1]
 go_wp2_with fail;exact bodyPost_ret (v:=.agg #[.slice a2 m2 c2]) (by simp[results,results10,go_sem,e0]) rfl HF.out):p:=h
theorem yX4 (h:p:=by
 have e0:(w2.setCell ⟨w.heap.size+1,0,none⟩ (.slice a2 m2 c2)).cell? ⟨w.heap.size+1,0,none⟩=some (.slice a2 m2 c2):=by simp[go_sem,d1]
 go_wp2_with fail;exact bodyPost_ret (v:=.agg #[.slice a2 m2 c2]) (by simp[results,results8,go_sem,e0]) rfl HF.out):p:=h
theorem yS6 (h:p:=by
 go_wp2_with fail;go_roundw;case rel=>exact⟨k+1,x,by omega,by go_num,rfl,HN.out,hb3⟩
 case measure=>go_light;simp[intOf];omega):p:=h
theorem xBa (h:p:=by
 intro j u hu;have hj:j<6:=by have:=(List.getElem?_eq_some_iff.1 hu).1;rw[yDt]at this;simpa using this
 rw[Addr.add_mid,Nat.zero_add];simp only[Nat.zero_mul,Nat.zero_add]at c0 c1 c2 c3 c4 c5;match j,hj,hu with
 |0,_,hu=>simp[yBa]at hu;rw[<-hu];exact c0
 |1,_,hu=>simp[yBa]at hu;rw[<-hu];exact c1
 |2,_,hu=>simp[yBa]at hu;rw[<-hu];exact c2
 |3,_,hu=>simp[yBa]at hu;rw[<-hu];exact c3
 |4,_,hu=>simp[yBa]at hu;rw[<-hu];exact c4
 |5,_,hu=>simp[yBa]at hu;rw[<-hu];exact c5):p:=h
theorem xB (h:p:=by
 have H:Hid (yAc a b=yEk a.ts b.ts):=yUr h1 (by simp[ha,hb]);clear h1 ha hb;go_enter func167,ntmps167;go_wp2_with fail;refine(yBv a b _).mono ?_;rintro e w1 ⟨rfl,hb1⟩;obtain⟨hc1,hf1⟩:=ySy hb1;have hz1:w.heap.size+1<w1.heap.size:=by have:=hb1.size;simp at this;omega
 go_wp2_with fail;refine(ySp _ _ _).mono ?_;rintro e w2 ⟨rfl,rfl⟩;go_wp2_with fail;go_ret;exact⟨yL7 H.symm,((qB).alloc (by simp) _).trans (hb1.mono (by simp;omega))⟩):p:=h
theorem xA9 (h:p:=by
 have H:Hid (¬GoodS (tbz ts)):=λq=>by have h3:t.lo.size<=64:=(yDc q HA.2.1).size;omega
 have hd:decide ((64:Int)<(t.lo.size:Int))=true:=decide_eq_true (by omega);clear hl;go_upto_region 8 with fail;refine yAf (by kernel_rfl) (by kernel_rfl) ?_;repeat (go_big_quiet_step (fail))
 refine wpQuiet_nil ?_;rintro wz ⟨⟨wx',hbz'⟩,rfl⟩;have hbw:Below w.heap.size w wz:=hbyx.trans (hbz'.mono (by omega));go_wp2_with fail;go_ret;exact⟨_,rfl,iffF H.out,hbw⟩):p:=h
theorem yS5 (h:p:=by
 intro j y hy;obtain rfl:j=0:=by have:=(List.getElem?_eq_some_iff.1 hy).1;simpa using this
 simp at hy;subst hy;simp):p:=h
theorem xA8 (h:p:=by
 intro j u hu;have hj:j<5:=by have:=(List.getElem?_eq_some_iff.1 hu).1;rw[yCo]at this;simpa using this
 rw[Addr.add_mid,Nat.zero_add];simp only[Nat.zero_mul,Nat.zero_add]at c0 c1 c2 c3 c4;match j,hj,hu with
 |0,_,hu=>simp[yBg]at hu;rw[<-hu];exact c0
 |1,_,hu=>simp[yBg]at hu;rw[<-hu];exact c1
 |2,_,hu=>simp[yBg]at hu;rw[<-hu];exact c2
 |3,_,hu=>simp[yBg]at hu;rw[<-hu];exact c3
 |4,_,hu=>simp[yBg]at hu;rw[<-hu];exact c4):p:=h
theorem xA7 (h:p:=by
 have hb:Below wr.heap.size wr (wr.alloc o):=qB;have hl:=h.row.lt;have hcb:=h.lt;have hbb:=h.hb;refine⟨hO,λe he=>?_,?_,?_,h.lt,h.hb⟩
 .rcases List.mem_append.1 he with q|q
  .exact h.ok e q
  .simp at q;subst q;exact hf
 .exact(h.d.below hb).chg (Chg.of_grown (S:=λk=>k=g) hgr (λk hk=>by cases hk;rfl)) (by omega) (λk q=>by omega)
 .exact Chg.grown_new (h.c.trans (Chg.of_below hb)) hgr (λk hk=>by cases hk;exact hl.1)):p:=h
theorem yX3(h:p:=by go_wp2_with fail;go_ret;exact⟨yL7 H.symm,((qB).alloc (by simp) _).trans (hb1.mono (by simp;omega))⟩):p:=h
theorem yX2(h:p:=by intro i t ht;obtain⟨h1,h2,h3⟩:=h i t ht;exact⟨by rw[hb.cell (p:=⟨b,off+i*2,none⟩) (by exact hlt)];exact h1,by rw[hb.cell (p:=⟨b,off+i*2+1,none⟩) (by exact hlt)];exact h2,h3.below hb⟩):p:=h
theorem yX1(h:p:=by rintro e w3 ⟨s,rfl,hs,hD3,hC3⟩;have H3:Hid (yAd base cb bv n w3/\Chg (λk=>k=cb) w w3):=⟨hD3,H1.2.trans hC3⟩;clear hD3 hC3;go_wp2_with fail;go_ret;exact⟨s,rfl,by omega,H3.1,H3.2⟩):p:=h
theorem xA6 (h:p:=by
 go_simp;refine hK.out _ _ (.inl rfl) ?_;clear hK;try simp only[qA]
 refine qD ?_;go_wp2_with fail;go_meet;have hbf:Below v1.heap.size v1 (v1.alloc (Obj.cells #[.string t.lo,.slice (some ⟨g,0,none⟩) n cp] 56)):=qB;exact⟨v1.heap.size,g,cp,n,rs,rfl,by simp,by simp,HC.1,by simp,(HC.2.1.below hbf).mono (by simp),HC.2.2.2.trans (hbf.mono HC.2.2.2.size)⟩):p:=h
theorem xA5(h:p:=by go_wp2_with fail;refine HC.mono ?_;rintro e w3 ⟨rfl,hb3⟩;have k3:Below W0.heap.size W0 w3:=k2.trans (hb3.mono k2.size);clear HC hb3 k2 c0 c1 c2 c3 c4 c5 c6 c7 c8 c9 c10;obtain⟨c0,c1,c2,c3,c4,c5,c6,c7,c8,c9,c10⟩:=yC8 (HK.out w3 k3).1;have HE:Hid (Below w.heap.size w w3):=(HK.out w3 k3).2;clear k3;go_wp2_with fail;go_ret;exact⟨rfl,HE.out⟩):p:=h
theorem yS4(h:p:=by unfold Oper.wp;simp[execOp,ho,resolve,invoke,builtin,hs,hx,hr,Result.andThen];exact hfin):p:=h
theorem yX0(h:p:=by go_enter func215,ntmps215;go_wp2_with (go_at_call 188;refine(yEd _ _ _).mono ?_;rintro e w' ⟨rfl,rfl⟩);go_ret;exact⟨rfl,(qB).alloc (by simp) _⟩):p:=h
theorem yXz(h:p:=by rintro e w3 ⟨va,vn,vc,rfl,q1,q2,hc⟩;go_wp2_with fail;exact bodyPost_ret (v:=.agg #[.slice va vn vc]) (by simp[results,results34,go_sem,q1]) rfl ⟨_,H.out,hc.out⟩):p:=h
theorem xA4 (h:p:=by
 have HN:Hid (yF1 ws i (k+1)):=yGo HS.out HV.out HI.out (by unfold yA6;rw[hsc,g2];simpa using ge);go_upto_region 6 with fail;go_quiet (fail);go_upto_region 8 with fail;go_quiet (fail);go_wp2_with fail;go_roundw;case rel=>exact⟨k+1,by omega,by go_num,HN.out,below_drewN hb3 _⟩
 case measure=>go_light;simp[intOf];omega):p:=h
theorem xA3 (h:p:=by
 refine⟨⟨hn,λx hx=>?_⟩,λi p e hp he=>?_⟩
 .obtain⟨i,j,⟨es,h1,h2⟩,_⟩:=(h.2 x).1 hx;exact(hG.2 es (mem_of_getElem? h1)).1.2 x (mem_of_getElem? h2)
 .have hk:=yJo h.1 (Nat.lt_succ_self i) hp he;obtain⟨_,_,_,hg⟩:=(h.2 p).1 (mem_of_getElem? hp);unfold yA3;simp[hk,hg.1]):p:=h
theorem yXy(h:p:=by simp only at p0 p1 p2 p3 p4 p5 hW9;go_wp2_with fail;rw[<-hW9];exact bodyPost_ret (by simp[results,results98,go_sem,p0,p1,p2,p3,p4,p5]) rfl HR):p:=h
theorem xA2(h:p:=by exact(((((Chg.of_set (S:=λk=>k=g) _ _ _ _ rfl).trans (Chg.of_set (S:=λk=>k=g) _ _ _ _ rfl)).trans (Chg.of_set (S:=λk=>k=g) _ _ _ _ rfl)).trans (Chg.of_set (S:=λk=>k=g) _ _ _ _ rfl)).trans (Chg.of_set (S:=λk=>k=g) _ _ _ _ rfl)).trans (Chg.of_set (S:=λk=>k=g) _ _ _ _ rfl)):p:=h
theorem xA1(h:p:=by go_enter func165,ntmps165;go_wp2_with fail;go_quiet (fail);go_wp2_with fail;refine(yC4 a b _).mono ?_;rintro e w1 ⟨rfl,hb1⟩;go_wp2_with fail;go_ret;exact⟨yGu H.symm,(below_drewN ((qB).alloc (by simp) _) _).trans (hb1.mono (by simp;omega))⟩):p:=h
theorem xA0 (h:p:=by
 clear hp;have zk:(k:Int)<(ps.length:Int):=by omega
 have zz:¬(x:Int)+(p.us.length:Int)<0:=by omega
 go_wp2_with fail;go_roundw;case rel=>go_light;exact⟨k+1,x+p.us.length,by omega,by go_num,by go_num,HX2.out,hb0⟩
 case measure=>go_light;simp[intOf];omega):p:=h
theorem xAz (h:p:=by
 have hlen':=yPv R e;have hb5:=hb3.trans (hb4.mono (by omega));clear hO';go_wp2_with fail;go_roundw;case rel=>exact⟨k+1,g',cp',into R e,by omega,by go_num,rfl,HO'.mono (by omega),HS'.out,by omega,hb5⟩
 case measure=>go_light;simp[intOf];omega):p:=h
theorem xAy (h:p:=by
 have zk:¬(k:Int)<(ts.length:Int):=by omega
 have H:Hid (GoodS (tbz ts)):=yU2 (by omega) (by omega) HF.out (λi t ht=>HV.out i t (by have:=(List.getElem?_eq_some_iff.1 ht).1;omega) ht);go_wp2_with fail;go_ret;exact⟨_,rfl,iffT H.out,hbx⟩):p:=h
theorem xAx(h:p:=by clear h ht;go_enter func23,ntmps23;go_wp2_with fail;refine bodyPost_ret (v:=.agg #[.string t.lo,.bool false,.string ⟨#[]⟩]) (by simp[results,results23,go_sem]) rfl ⟨rfl,((qB).alloc (by simp) _).alloc (by simp;omega) _⟩):p:=h
theorem xAw(h:p:=by refine wpQuiet_nil ?_;rintro wy ⟨⟨wx,hby⟩,rfl⟩;go_wp2_with fail;go_ret2;first|exact⟨lo,_,rfl,HC.out,hbw.trans (hby.mono (by have:=hbw.size;omega))⟩|exact⟨lo,⟨_,rfl⟩,HC.out,hbw.trans (hby.mono (by have:=hbw.size;omega))⟩):p:=h
theorem xAv (h:p:=by
 have hb2:Below w.heap.size w w2:=hb.grown hA.grown hs (λq hq=>yCl HO.out q hq);clear hA;go_wp2_with fail;go_roundw;case rel=>go_light;exact⟨k+1,v',by omega,by go_num,rfl,HN.out,hb2⟩
 case measure=>go_light;simp[intOf];omega):p:=h
theorem xAu (h:p:=by
 rw[h.dels];constructor
 .rintro⟨p,hp,q⟩;exact⟨p,mem_append_left _ hp,q⟩
 .rintro⟨p,hp,q1,q2,q3⟩;rcases List.mem_append.1 hp with hp|hp
  .exact⟨p,hp,q1,q2,q3⟩
  .simp at hp;subst hp;exact absurd q1 h2):p:=h
theorem xAt(h:p:=by go_wp2_with fail;refine(HL.out _ H1.out).mono ?_;rintro e w2 ⟨f,rfl,hf,hd2⟩;have H2:Hid (DInv base cb bv n w w2/\f.small):=⟨H1.call hd2,hf⟩;clear hd2 hf;go_wp2_with fail;go_ret;exact HF.out w2 _ f H2.1 H2.2 rfl):p:=h
theorem xAs(h:p:=by rintro e w3 ⟨s,rfl,hs,hD3,hC3⟩;have H3:Hid (yAd base cb bv n w3/\Chg (λk=>k=cb) w w3):=⟨hD3,(H1.2.alloc_new _).trans hC3⟩;clear hD3 hC3;go_wp2_with fail;go_ret;exact⟨s,rfl,by omega,H3.1,H3.2⟩):p:=h
theorem xAr(h:p:=by rintro e w3 ⟨s,rfl,hs,hD3,hC3⟩;have H3:Hid (yAd base cb bv n w3/\Chg (λk=>k=cb) w w3):=⟨hD3,(H1.2.alloc_new _).trans hC3⟩;clear hD3 hC3;go_wp2_with fail;go_ret;exact⟨s,rfl,hs,H3.1,H3.2⟩):p:=h
theorem xAq(h:p:=by go_upto_region 3 with fail;go_quiet (fail);go_wp2_with fail;go_ret;exact⟨x0,rfl,hx1.1,hx1.2,HD.1.below (below_drewN (Below.refl _ _) _),HD.2.trans (Chg.of_below (below_drewN (Below.refl _ _) _))⟩):p:=h
theorem xAp(h:p:=by rintro e w3 ⟨g,cp,xs,rfl,q1,q2,hc⟩;go_wp2_with fail;exact bodyPost_ret (v:=.agg #[.slice (some ⟨g,0,none⟩) xs.length cp]) (by simp[results,results30,go_sem,q1]) rfl ⟨_,H.out,hc.out⟩):p:=h
theorem xAo (h:p:=by
 have H2:Hid (yCt es (m+1+1)):=yEg HV.2 HKp.out HK.2.1 ho;go_wp2_with fail;go_roundw;case rel=>exact⟨m+1+1,by omega,by go_num,H.out,H2.out,hb4⟩
 case measure=>simp[intOf];omega):p:=h
theorem xAn (h:p:=by
 intro k hk;match k,hk with
 |0,_=>exact⟨_,by simp;rfl,by decide⟩
 |1,_=>exact⟨_,by simp;rfl,by decide⟩
 |2,_=>exact⟨_,by simp;rfl,by decide⟩
 |3,_=>exact⟨_,by simp;rfl,by decide⟩):p:=h
theorem xAm(h:p:=by rintro e w9 ⟨g,cp,xs,rfl,q1,q2,hc⟩;go_wp2_with fail;exact bodyPost_ret (v:=.agg #[.slice (some ⟨g,0,none⟩) xs.length cp]) (by simp[results,results30,go_sem,q1]) rfl hc.out):p:=h
theorem yXx(h:p:=by go_enter func102,ntmps102;go_wp2;go_ret;exact⟨by simp,(qB).alloc (by simp) _⟩):p:=h
theorem xAl (h:p:=by
 have H:Hid (¬yEt es):=λh=>by have:=h.2 e (mem_of_getElem? HK.2);unfold Ent.vld at this;rw[hv]at this;cases this
 go_wp2_with fail;go_ret;exact⟨_,rfl,iffF H.out,hb2⟩):p:=h
theorem xAk (h:p:=by
 have H:Hid (¬GoodS (tbz ts)):=λq=>by have h3:=yDc q HA.2.1;exact Bool.noConfusion (HR.2 ⟨h3.runs,h3.rows⟩)
 go_wp2_with fail;go_ret;exact⟨_,rfl,iffF H.out,hbw⟩):p:=h
theorem xAj(h:p:=by refine wpQuiet_nil ?_;rintro wy ⟨⟨wx,hby⟩,rfl⟩;have hbyx:Below w.heap.size w wy:=hbzx.trans (hby.mono (by omega));go_wp2_with fail;go_ret;exact⟨_,rfl,iffF H.out,hbyx⟩):p:=h
theorem xAi(h:p:=by rintro e w3 ⟨va,vn,vc,rfl,q1,q2,hc⟩;go_wp2_with fail;exact bodyPost_ret (v:=.agg #[.slice va vn vc]) (by simp[results,results33,go_sem,q1]) rfl ⟨_,H.out,hc.out⟩):p:=h
theorem xAh(h:p:=by have H:Hid (yAl (esM l)):=yU5 (by omega) (λr hr=>HV.out r (by rw[take_of_length_le (by omega)];exact hr));go_wp2;go_ret;exact⟨_,rfl,iffT H.out,hb⟩):p:=h
theorem xAg(h:p:=by have H:Hid (yAl (esZ l)):=yU4 (by omega) (λr hr=>HV.out r (by rw[take_of_length_le (by omega)];exact hr));go_wp2;go_ret;exact⟨_,rfl,iffT H.out,hb⟩):p:=h
theorem yXw (h:p:=by
 cases fuel with
 |zero=>exact⟨hr,h⟩
 |succ n=>exact⟨λ_=>h,by rw[hr];simp⟩):p:=h
theorem yXv (h:p:=by
 rcases hat with q|q
 .exact .inl (by simpa [Value.ownBlock]using q)
 .exact .inr q):p:=h
theorem xAf(h:p:=by refine⟨λh0=>(by rw[hr]at h0;cases h0),λj hj=>?_⟩;rw[hr]at hj;simp at hj;subst hj;exact wpOp_step ho (λK' hK=>h K' (λa w hS hW=>hK a w ⟨hS,hW⟩))):p:=h
theorem xAe(h:p:=by have H:Hid (¬yAl (esM l)):=λh=>Bool.noConfusion (HS.2 (yFy h (mem_of_getElem? HA.2)));go_wp2_with fail;go_ret;exact⟨_,rfl,iffF H.out,hb2⟩):p:=h
theorem xAd(h:p:=by have H:Hid (¬yAl (esZ l)):=λh=>Bool.noConfusion (HS.2 (yHz h (mem_of_getElem? HA.2)));go_wp2_with fail;go_ret;exact⟨_,rfl,iffF H.out,hb2⟩):p:=h
theorem yXu(h:p:=by go_enter func163,ntmps163;go_wp2;go_ret;exact⟨yL7 H.symm,rfl⟩):p:=h
theorem yXt(h:p:=by obtain⟨rfl,rfl⟩:=hrel;go_wp2_with fail;go_ret;exact⟨rfl,Below.refl _ _⟩):p:=h
theorem yXs(h:p:=by go_enter func170,ntmps170;go_wp2_with fail;go_ret;exact⟨rfl,rfl⟩):p:=h
theorem yXr(h:p:=by go_enter func168,ntmps168;go_wp2_with fail;go_ret;exact⟨rfl,rfl⟩):p:=h
theorem yXq(h:p:=by go_enter func132,ntmps132;go_wp2_with fail;go_ret;exact⟨rfl,rfl⟩):p:=h
theorem xAc (h:p:=by
 obtain⟨g',cp,hv,hO⟩:=h.runs t ht
 .rw[hv]at hg;have e1:g'=g:=Option.some.inj hg;subst e1;have:=World.ownsRow.lt hO g' rfl;exact hne g' this.1 this.2):p:=h
theorem xAb (h:p:=by
 clear hO' hgr;go_wp2_with fail;go_roundw;case rel=>exact⟨k+1,g',cp',es++ [f],by omega,by go_num,rfl,HN.2,HN.1⟩
 case measure=>go_light;simp[intOf];omega):p:=h
theorem xAa (h:p:=by
 go_wp2_with fail;go_roundw;case rel=>exact⟨k+1,g,cp,R,by omega,by go_num,rfl,HK3.out,HS'.out,by omega,hb3⟩
 case measure=>go_light;simp[intOf];omega):p:=h
theorem xA(h:p:=by refine wpQuiet_nil ?_;rintro w2 ⟨⟨wx,hb2⟩,rfl⟩;go_wp2_with fail;go_ret;exact⟨_,rfl,iffF HF.out,HW1.2.2.1.trans (hb2.mono HW1.2.2.1.size)⟩):p:=h
theorem yZ9 (h:p:=by
 intro j u hu;have hj:j<1:=by simpa using (List.getElem?_eq_some_iff.1 hu).1
 obtain rfl:j=0:=by omega
 simp at hu;rw[<-hu];simpa [Addr.add]using hc):p:=h
theorem yZ8(h:p:=by have H:Hid (¬GoodS (tbz ts)):=λq=>Bool.noConfusion (HR.2 (yDc q HA.2.1).runs);go_wp2_with fail;go_ret;exact⟨_,rfl,iffF H.out,hbyx⟩):p:=h
theorem yZ7 (h:p:=by
 obtain⟨h1,h2⟩:=List.getElem?_eq_some_iff.1 ha;rw[<-h2];conv=>lhs;rw[<-take_append_drop i ts]
 congr 1;rw[drop_eq_getElem_cons h1]):p:=h
theorem yZ6(h:p:=by clear hc;go_wp2_with fail;exact bodyPost_ret (v:=.agg #[.slice va vn vc]) (by simp[results,results47,go_sem,q1]) rfl ⟨_,H.out,HC.out⟩):p:=h
theorem yZ5 (h:p:=by
 go_wp2_with fail;go_roundw;case rel=>exact⟨i+1,o,true,by omega,by omega,rfl,rfl,by go_num,HF.out,HB.out⟩
 case measure=>simp[intOf];omega):p:=h
theorem yZ4 (h:p:=by
 go_wp2_with fail;go_roundw;case rel=>exact⟨k+1,by omega,by go_num,HX.out,hb.alloc (by omega) _⟩
 case measure=>go_light;simp[intOf];omega):p:=h
theorem yZ3 (h:p:=by
 have h0:j=p.length:=by omega
 have:yE p j=.inr (2,p.length):=by unfold yE;rw[yVo (getElem?_eq_none (by omega)),h0]
 rw[this]):p:=h
theorem yZ2 (h:p:=by
 clear hH3 hC3 m3;go_wp2_with fail;go_roundw;case rel=>exact⟨2*i+1,_,by omega,by go_num,H3.out⟩
 case measure=>go_light;simp[intOf];omega):p:=h
theorem yZ1 (h:p:=by
 go_wp2_with fail;go_roundw;case rel=>exact⟨m+1,hi,by go_num,rfl,by omega,hhi,HN.out,HA.2,hb2⟩
 case measure=>go_light;simp[intOf];omega):p:=h
theorem yZ0(h:p:=by go_simp;rw[<-hW4];refine hK.out _ _ (.inr hS4) (tkS ?_);clear hK hW4;refine qD ?_;go_wp2_with fail;go_meet;exact⟨P,a2,n2,c2,rfl,H4⟩):p:=h
theorem yZz (h:p:=by
 have h1:IntKind.i64.min= -9223372036854775808:=by decide
 have h2:IntKind.i64.max=9223372036854775807:=by decide
 simp[Lit.wf,h1,h2];omega):p:=h
theorem yZy (h:p:=by
 go_wp2_with fail;rw[<-hW5];go_roundw;case rel=>exact⟨i+1,a3,m3,c3,by omega,by first|rfl|go_num,H5⟩
 case measure=>simp[intOf];omega):p:=h
theorem yZx (h:p:=by
 go_wp2_with fail;go_roundw;case rel=>exact⟨m+1,true,by omega,by go_num,rfl,HN.out,hby'⟩
 case measure=>go_light;simp[intOf];omega):p:=h
theorem yZw (h:p:=by
 go_wp2_with fail;go_roundw;case rel=>exact⟨k+1,_,by omega,by go_num,rfl,e1.out,H3.out⟩
 case measure=>go_light;simp[intOf];omega):p:=h
theorem yZv (h:p:=by
 go_wp2_with fail;go_roundw;case rel=>exact⟨j+1,lb,by omega,by go_num,rfl,HL'.out,hb9⟩
 case measure=>go_light;simp[intOf];omega):p:=h
theorem yZu (h:p:=by
 go_wp2_with fail;go_roundw;case rel=>exact⟨lo,m,rfl,rfl,hm1,by omega,HA.1,HN.out,hb2⟩
 case measure=>go_light;simp[intOf];omega):p:=h
theorem yZt(h:p:=by intro u hu;unfold yBa at hu;obtain⟨e,_,he⟩:=mem_flatMap.1 hu;simp at he;rcases he with rfl|rfl|rfl|rfl|rfl|rfl<;>rfl):p:=h
theorem yZs (h:p:=by
 rcases h.cases with⟨rfl,rfl⟩|⟨g,cp,rfl,hO⟩
 .simp[Value.ownBlock]at hk
 .simp[Value.ownBlock]at hk;subst hk;exact hO.lt):p:=h
theorem yXd (h:p:=by
 go_wp2_with fail;go_roundw;case rel=>exact⟨k+1,by omega,by go_num,H.out,hbw0⟩
 case measure=>go_light;simp[intOf];omega):p:=h
theorem yXc (h:p:=by
 go_wp2_with fail;go_roundw;case rel=>exact⟨k+1,by omega,by go_num,H.out,hbjz⟩
 case measure=>go_light;simp[intOf];omega):p:=h
theorem qA:(∀(a:Act)(n:Nat)(v:Value),a.put (some n) v={a with tmps:=a.tmps.setIfInBounds n v})/\(∀(a:Act)(v:Value),a.put none v=a)/\(∀(l:List Value)(i:Nat)(v:Value),l.toArray.setIfInBounds i v=(l.set i v).toArray)/\
  (∀(x v:Value)(l:List Value),(x::l).set 0 v=v::l)/\(∀(x v:Value)(l:List Value)(i:Nat),(x::l).set (i+1) v=x::l.set i v):=
 ⟨λ_ _ _=>rfl,λ_ _=>rfl,λ_ _ _=>by simp,λ_ _ _=>rfl,λ_ _ _ _=>rfl⟩
theorem qE{α:Sort _}(x:α):∃y,y=x:=⟨x,rfl⟩
variable {w:World}
theorem qB{o:Obj}:Below w.heap.size w (w.alloc o):=(Below.refl _ _).alloc (Nat.le_refl _) _
theorem zR{a:Prop}(x:a)(h:a->p:=by intro x;go_wp2;go_ret;exact⟨_,rfl,by simp[HG.out],x⟩):p:=h x
theorem zF{a:Prop}(x:a)(h:a->p:=by intro x;go_wp2;go_ret;exact⟨_,rfl,by simp[HF.out],x⟩):p:=h x
theorem qn{α:Type}[BEq α][LawfulBEq α]{a b:α}(h:¬a=b):(a==b)=false:=beq_eq_false_iff_ne.2 h
section
open Go.ChangeMaps (open_string shut_string)
structure Ent where
 row:ByteArray
 fam:ByteArray
 qual:ByteArray
 ts:Int
 kind:Int
 val:ByteArray
abbrev Ent.v(e:Ent):Value:=.agg #[.string e.row,.string e.fam,.string e.qual,.int .u64 e.ts,.int .i64 e.kind,.string e.val]
structure Ent.ok(e:Ent):Prop where
 row:e.row.size<=maxLen
 fam:e.fam.size<=maxLen
 qual:e.qual.size<=maxLen
 val:e.val.size<=maxLen
 ts:(Lit.int .u64 e.ts).wf=true
 kind:(Lit.int .i64 e.kind).wf=true
theorem yGu{a b:Bool}(h:a=b):Ending.returned (.bool a)=.returned (.bool b):=by rw[h]
theorem isE(v:ByteArray):v.toList.isEmpty=decide (v.size=0):=by rw[ByteArray.toList_eq,Bool.eq_iff_iff];simp[<-ByteArray.size_data]
theorem orE(k:Int)(v:ByteArray)(h:¬k=0):(k==0 || v.toList.isEmpty)=decide (v.size=0):=by rw[isE];simp[h]
def vE(r f q:ByteArray)(k:Int)(v:ByteArray):Bool:=
 decide (1<=r.size/\r.size<=64/\1<=f.size/\f.size<=16/\q.size<=64/\v.size<=200/\0<=k/\k<=2/\(k=0\/v.size=0))
theorem yF5(r f q v:ByteArray)(t k:Int)(w:World)(hr:r.size<=maxLen)(hf:f.size<=maxLen)(hq:q.size<=maxLen)(hv:v.size<=maxLen):
  Calls prog 100 #[.agg #[.string r,.string f,.string q,.int .u64 t,.int .i64 k,.string v]] w λe w'=>
   e=.returned (.bool (vE r f q k v))/\Below w.heap.size w w':=by
 unfold maxLen at hr hf hq hv;go_enter func100,ntmps100;go_wp2;all_goals go_ret
 all_goals refine⟨yGu ?_,qB⟩
 all_goals unfold vE
 all_goals go_light
 all_goals first
  |(refine(decide_eq_true ?_).symm;omega)
  |(refine(decide_eq_false ?_).symm;omega)
  |(rw[orE _ _ ‹¬k=0›];refine decide_eq_decide.2 ⟨λh=>?_,λh=>?_⟩<;>omega)
theorem yF8(r f q v:ByteArray)(t k:Int)(w:World)(hr:r.size<=maxLen)(hf:f.size<=maxLen)(hq:q.size<=maxLen)(hv:v.size<=maxLen):
  Calls prog 143 #[.agg #[.string r,.string f,.string q,.int .u64 t,.int .i64 k,.string v]] w λe w'=>
   e=.returned (.bool (vE r f q k v))/\Below w.heap.size w w':=by
 unfold maxLen at hr hf hq hv;go_enter func143,ntmps143;go_wp2;all_goals go_ret
 all_goals refine⟨yGu ?_,qB⟩
 all_goals unfold vE
 all_goals go_light
 all_goals (try simp only[beq_iff_eq,beq_eq_false_iff_ne,ne_eq]at*)
 all_goals first
  |(refine(decide_eq_true ?_).symm;omega)
  |(refine(decide_eq_false ?_).symm;omega)
  |(rw[isE];refine decide_eq_decide.2 ⟨λh=>?_,λh=>?_⟩<;>omega)
end
theorem ySy{W w1:World}(hb:Below W.heap.size W w1):(∀b o,b<W.heap.size->w1.cell? ⟨b,o,none⟩=W.cell? ⟨b,o,none⟩)/\(∀b o,b<W.heap.size->w1.frozen? ⟨b,o,none⟩=W.frozen? ⟨b,o,none⟩):=
 ⟨λb o h=>hb.cell (p:=⟨b,o,none⟩) h,λb o h=>hb.frozen (p:=⟨b,o,none⟩) h⟩
def cB(a b:ByteArray):Int:=Lib.compareBytes a.data.toList b.data.toList
theorem yC7:∀a b:List UInt8,Op.bytesLess a b=true->Lib.compareBytes a b= -1
 | [],[]=>by simp[Op.bytesLess]
 | [],_::_=>by simp[Lib.compareBytes]
 |_::_,[]=>by simp[Op.bytesLess]
 |a::x,b::y=>by
  intro h
  simp only[Op.bytesLess,Bool.or_eq_true,decide_eq_true_eq,Bool.and_eq_true,beq_iff_eq]at h
  unfold Lib.compareBytes
  rcases h with h|⟨rfl,h⟩
  .rw[if_pos h]
  .have hn:¬a<a:=by simp
   rw[if_neg hn,if_neg hn];exact yC7 x y h
theorem yC5:∀a:List UInt8,Lib.compareBytes a a=0
 | []=>rfl
 |a::x=>by
  unfold Lib.compareBytes
  have hn:¬a<a:=by simp
  rw[if_neg hn,if_neg hn];exact yC5 x
theorem yC6:∀a b:List UInt8,Op.bytesLess a b=false->(a==b)=false->Lib.compareBytes a b=1
 | [],[]=>by simp
 | [],_::_=>by simp[Op.bytesLess]
 |_::_,[]=>by simp[Lib.compareBytes]
 |a::x,b::y=>by
  intro h h2
  simp only[Op.bytesLess,Bool.or_eq_false_iff,decide_eq_false_iff_not]at h
  unfold Lib.compareBytes
  rw[if_neg h.1]
  by_cases hb:b<a
  .rw[if_pos hb]
  .rw[if_neg hb]
   have hab:a=b:=by have h1:=h.1;rw[UInt8.lt_iff_toNat_lt]at h1 hb;exact UInt8.toNat_inj.1 (by omega)
   subst hab
   refine yC6 x y ?_ ?_
   .simpa using h.2
   .simpa using h2
theorem yH3(a b:List UInt8):Lib.compareBytes a b= -1\/Lib.compareBytes a b=0\/Lib.compareBytes a b=1:=by
 cases h:Op.bytesLess a b
 .cases h2:(a==b)
  .exact .inr (.inr (yC6 a b h h2))
  .rw[beq_iff_eq]at h2;subst h2;exact .inr (.inl (yC5 a))
 .exact .inl (yC7 a b h)
theorem yCr(a b:ByteArray):cB a b= -1\/cB a b=0\/cB a b=1:=yH3 _ _
variable {a b:ByteArray}
theorem yKb(h:Op.bytesLess a.toList b.toList=true):cB a b= -1:=by rw[ByteArray.toList_eq,ByteArray.toList_eq]at h;exact yC7 _ _ h
theorem yQb(h:Op.bytesLess a.toList b.toList=false)(h2:(a.toList==b.toList)=false):cB a b=1:=by rw[ByteArray.toList_eq,ByteArray.toList_eq]at h h2;exact yC6 _ _ h h2
theorem yVp(h2:(a.toList==b.toList)=true):cB a b=0:=by rw[ByteArray.toList_eq,ByteArray.toList_eq,beq_iff_eq]at h2;unfold cB;rw[h2];exact yC5 _
def yAr(a b:Int):Int:=if a=0 then b else a
def yA1(k l:Int):Int:=if k=2 then(if l=2 then 0 else-1)else(if l=2 then 1 else 0)
def yEk(t u:Int):Int:=if u<t then-1 else if t<u then 1 else 0
def yAc(a b:Ent):Int:=yAr (cB a.row b.row) (yAr (cB a.fam b.fam) (yAr (cB a.qual b.qual) (yAr (yA1 a.kind b.kind) (yEk a.ts b.ts))))
theorem yL7{k:IntKind}{a b:Int}(h:a=b):Ending.returned (.int k a)=.returned (.int k b):=by rw[h]
theorem yUp(a b:ByteArray)(w:World):
  Calls prog 163 #[.string a,.string b] w λe w'=>e=.returned (.int .i64 (cB a b))/\w'=w:=by
 cases h:Op.bytesLess a.toList b.toList
 .cases h2:(a.toList==b.toList)
  .have H:Hid (cB a b=1):=yQb h h2;exact yXu
  .have H:Hid (cB a b=0):=yVp h2;exact yXu
 .have H:Hid (cB a b= -1):=yKb h;exact yXu
theorem yPy(a b:Int)(w:World):
  Calls prog 162 #[.int .i64 a,.int .i64 b] w λe w'=>e=.returned (.int .i64 (yAr a b))/\w'=w:=by
 unfold yAr;by_cases h:a=0
 .have h':(a != 0)=false:=by simp[h]
  rw[if_pos h];clear h;go_enter func162,ntmps162;go_wp2;go_ret;exact⟨rfl,rfl⟩
 .have h':(a != 0)=true:=by simp[h]
  rw[if_neg h];clear h;go_enter func162,ntmps162;go_wp2;go_ret;exact⟨rfl,rfl⟩
set_option maxRecDepth 100000 in
theorem yH2(a b:ByteArray)(w:World):
  Calls prog 225 #[.string a,.string b] w λe w'=>e=.returned (.int .i64 (cB a b))/\w'=w:=by
 go_enter func225,ntmps225;go_wp2;rw[run_callFunc_extern func249 (by kernel_rfl) (by kernel_rfl) (by kernel_rfl) (e:=Extern.BytealgCompare.compare) (by kernel_rfl),Lib.run_compareString];simp only[Result.andThen];rw[Oper.upon_value];go_wp2;go_ret;exact⟨rfl,rfl⟩
theorem yEd(a b:ByteArray)(w:World):
  Calls prog 188 #[.string a,.string b] w λe w'=>e=.returned (.int .i64 (cB a b))/\w'=w:=by
 go_enter func188,ntmps188;go_wp2_with (go_at_call 225;refine(yH2 _ _ _).mono ?_;rintro e w' ⟨rfl,rfl⟩);go_ret;exact⟨rfl,rfl⟩
theorem ySp(a b:Int)(w:World):
  Calls prog 216 #[.int .u64 a,.int .u64 b] w λe w'=>e=.returned (.int .i64 (yEk b a))/\w'=w:=by
 unfold yEk;by_cases h:a<b
 .rw[if_pos h];go_enter func216,ntmps216;go_wp2;go_ret;exact⟨rfl,rfl⟩
 .rw[if_neg h];by_cases h2:b<a
  .rw[if_pos h2];go_enter func216,ntmps216;go_wp2;go_ret;exact⟨rfl,rfl⟩
  .rw[if_neg h2];go_enter func216,ntmps216;go_wp2;go_ret;exact⟨rfl,rfl⟩
def tri(x:Int):Prop:=x= -1\/x=0\/x=1
theorem yGl{a b:Int}(h:tri a)(k:tri b):tri (yAr a b):=by
 unfold yAr;split
 .exact k
 .exact h
theorem yLw(k l:Int):tri (yA1 k l):=by
 unfold yA1 tri;repeat' split
 all_goals omega
theorem xBm(k l:Int):tri (yEk k l):=by
 unfold yEk tri;repeat' split
 all_goals omega
theorem yBe(a b:Ent):yAc a b= -1\/yAc a b=0\/yAc a b=1:=
 yGl (yCr _ _) (yGl (yCr _ _) (yGl (yCr _ _) (yGl (yLw _ _) (xBm _ _))))
def yE2(a b:Ent):Int:=yAr (cB a.row b.row) (yAr (cB a.fam b.fam) (cB a.qual b.qual))
theorem yBv(a b:Ent)(w:World):
  Calls prog 215 #[a.v,b.v] w λe w'=>e=.returned (.int .i64 (yE2 a b))/\Below w.heap.size w w':=by
 unfold yE2 yAr Ent.v;by_cases h1:cB a.row b.row=0
 .have g1:(cB a.row b.row != 0)=false:=by simp[h1]
  rw[if_pos h1];clear h1;by_cases h2:cB a.fam b.fam=0
  .have g2:(cB a.fam b.fam != 0)=false:=by simp[h2]
   rw[if_pos h2];clear h2;exact yX0
  .have g2:(cB a.fam b.fam != 0)=true:=by simp[h2]
   rw[if_neg h2];clear h2;exact yX0
 .have g1:(cB a.row b.row != 0)=true:=by simp[h1]
  rw[if_neg h1];clear h1;exact yX0
theorem yG6(a b c:Int):yAr (yAr a b) c=yAr a (yAr b c):=by
 unfold yAr;by_cases h:a=0
 .simp[h]
 .simp[h]
theorem yFx(a b:Ent):yAc a b=yAr (yE2 a b) (yAr (yA1 a.kind b.kind) (yEk a.ts b.ts)):=by unfold yAc yE2;rw[yG6,yG6]
variable {a b:Ent}
theorem yUs(h:¬yE2 a b=0):yAc a b=yE2 a b:=by rw[yFx];unfold yAr;rw[if_neg h]
theorem yP1(h:yE2 a b=0)(h1:a.kind=2)(h2:¬b.kind=2):yAc a b= -1:=by rw[yFx];unfold yAr yA1;simp[h,h1,h2]
theorem yP0(h:yE2 a b=0)(h1:¬a.kind=2)(h2:b.kind=2):yAc a b=1:=by rw[yFx];unfold yAr yA1;simp[h,h1,h2]
theorem yUr(h:yE2 a b=0)(h1:(a.kind=2)↔(b.kind=2)):yAc a b=yEk a.ts b.ts:=by
 rw[yFx];unfold yAr yA1;by_cases h2:a.kind=2
 .simp[h,h2,h1.1 h2]
 .have h3:¬b.kind=2:=λx=>h2 (h1.2 x);simp[h,h2,h3]
theorem yC4(a b:Ent)(w:World):
  Calls prog 167 #[a.v,b.v] w λe w'=>e=.returned (.int .i64 (yAc a b))/\Below w.heap.size w w':=by
 by_cases h1:yE2 a b=0
 .have g1:(yE2 a b != 0)=false:=by simp[h1]
  by_cases ha:a.kind=2
  .have ga:(a.kind==2)=true:=by simp[ha]
   by_cases hb:b.kind=2
   .have gb:(b.kind==2)=true:=by simp[hb]
    exact xB
   .have gb:(b.kind==2)=false:=by simp[hb]
    have H:Hid (yAc a b= -1):=yP1 h1 ha hb;clear h1 ha hb;go_enter func167,ntmps167;go_wp2_with fail;refine(yBv a b _).mono ?_;rintro e w1 ⟨rfl,hb1⟩;obtain⟨hc1,hf1⟩:=ySy hb1;have hz1:w.heap.size+1<w1.heap.size:=by have:=hb1.size;simp at this;omega
    exact yX3
  .have ga:(a.kind==2)=false:=by simp[ha]
   by_cases hb:b.kind=2
   .have gb:(b.kind==2)=true:=by simp[hb]
    have H:Hid (yAc a b=1):=yP0 h1 ha hb;clear h1 ha hb;go_enter func167,ntmps167;go_wp2_with fail;refine(yBv a b _).mono ?_;rintro e w1 ⟨rfl,hb1⟩;obtain⟨hc1,hf1⟩:=ySy hb1;have hz1:w.heap.size+1<w1.heap.size:=by have:=hb1.size;simp at this;omega
    exact yX3
   .have gb:(b.kind==2)=false:=by simp[hb]
    exact xB
 .have g1:(yE2 a b != 0)=true:=by simp[h1]
  have H:Hid (yAc a b=yE2 a b):=yUs h1;clear h1;go_enter func167,ntmps167;go_wp2_with fail;refine(yBv a b _).mono ?_;rintro e w1 ⟨rfl,hb1⟩;exact yX3
def kt(a b:Ent)(K T:Int):Prop:=yAc a b=yAr (cB a.row b.row) (yAr (cB a.fam b.fam) (yAr (cB a.qual b.qual) (yAr K T)))
theorem xCt{K T:Int}(hk:yA1 a.kind b.kind=K)(ht:yEk a.ts b.ts=T):kt a b K T:=by unfold kt yAc;rw[hk,ht]
theorem xCu(a b:Ent):
  ((a.kind==2)=true/\(a.kind != 2)=false/\(b.kind==2)=true/\(b.kind != 2)=false/\yA1 a.kind b.kind=0)\/
  ((a.kind==2)=true/\(a.kind != 2)=false/\(b.kind==2)=false/\(b.kind != 2)=true/\yA1 a.kind b.kind= -1)\/
  ((a.kind==2)=false/\(a.kind != 2)=true/\(b.kind==2)=true/\(b.kind != 2)=false/\yA1 a.kind b.kind=1)\/
  ((a.kind==2)=false/\(a.kind != 2)=true/\(b.kind==2)=false/\(b.kind != 2)=true/\yA1 a.kind b.kind=0):=by
 unfold yA1;by_cases ha:a.kind=2<;>by_cases hb:b.kind=2<;>simp[ha,hb]
theorem tss(a b:Ent):
  (b.ts<a.ts/\¬a.ts<b.ts/\yEk a.ts b.ts= -1)\/(¬b.ts<a.ts/\a.ts<b.ts/\yEk a.ts b.ts=1)\/(¬b.ts<a.ts/\¬a.ts<b.ts/\yEk a.ts b.ts=0):=by
 unfold yEk;by_cases h1:b.ts<a.ts
 .exact .inl ⟨h1,by omega,by simp[h1]⟩
 .by_cases h2:a.ts<b.ts
  .exact .inr (.inl ⟨h1,h2,by simp[h1,h2]⟩)
  .exact .inr (.inr ⟨h1,h2,by simp[h1,h2]⟩)
theorem yDy(a b:Ent)(w:World):
  Calls prog 101 #[a.v,b.v] w λe w'=>e=.returned (.int .i64 (yAc a b))/\Below w.heap.size w w':=by
 unfold Ent.v;rcases xCu a b with⟨ga,a0,gb,y,hk⟩|⟨ga,a0,gb,y,hk⟩|⟨ga,a0,gb,y,hk⟩|⟨ga,a0,gb,y,hk⟩;all_goals rcases tss a b with⟨h1,h2,ht⟩|⟨h1,h2,ht⟩|⟨h1,h2,ht⟩
 all_goals
  have H:=xCt hk ht
  clear hk ht
  go_enter func101,ntmps101
  go_wp2
  go_quiet ((first|(go_at_call 163;exact Calls.quiet_of_same (yUp _ _ _))|(go_at_call 162;exact Calls.quiet_of_same (yPy _ _ _))))
  go_wp2
  go_ret
  exact⟨yL7 H.symm,below_drewN ((qB).alloc (by simp) _) _⟩
abbrev Ent.cells(e:Ent):List Value:= [.string e.row,.string e.fam,.string e.qual,.int .u64 e.ts,.int .i64 e.kind,.string e.val]
def yBa(es:List Ent):List Value:=es.flatMap Ent.cells
theorem yD6(e:Ent)(es:List Ent):yBa (e::es)=e.cells++yBa es:=by simp[yBa]
theorem yDv(es fs:List Ent):yBa (es++fs)=yBa es++yBa fs:=by simp[yBa]
theorem yDt(es:List Ent):(yBa es).length=es.length*6:=by
 induction es with
 |nil=>rfl
 |cons e es ih=>rw[yD6,length_append,ih];simp;omega
theorem yLo(es:List Ent):∀(k:Nat)(e:Ent),es[k]?=some e->∀j,j<6->(yBa es)[k*6+j]?=e.cells[j]?:=by
 induction es with
 |nil=>intro k e h;simp at h
 |cons f es ih=>
  intro k e h j hj;rw[yD6];cases k with
  |zero=>
   simp at h;subst h;rw[getElem?_append_left (by show 0*6+j<6;omega)];simp
  |succ k=>
   simp at h;rw[getElem?_append_right (by show 6<=(k+1)*6+j;omega)];have:(k+1)*6+j-f.cells.length=k*6+j:=by show(k+1)*6+j-6=_;omega
   rw[this];exact ih k e h j hj
theorem ySv(es:List Ent):∀(k:Nat)(e e':Ent)(u:Value)(j:Nat),es[k]?=some e->j<6->e'.cells=e.cells.set j u->(yBa es).set (k*6+j) u=yBa (es.set k e'):=by
 induction es with
 |nil=>intro k e e' u j h;simp at h
 |cons f es ih=>
  intro k e e' u j h hj hc;rw[yD6];cases k with
  |zero=>
   simp at h;subst h;rw[set_append_left _ _ (by show 0*6+j<6;omega),set_cons_zero,yD6,hc];simp
  |succ k=>
   simp at h;rw[set_append_right _ _ (by show 6<=(k+1)*6+j;omega),set_cons_succ,yD6];have:(k+1)*6+j-f.cells.length=k*6+j:=by show(k+1)*6+j-6=_;omega
   rw[this,ih k e e' u j h hj hc]
def yAe(w:World)(b off:Nat)(es:List Ent):Prop:=
 ∀i e,es[i]?=some e->w.cell? ⟨b,off+i*6,none⟩=some (.string e.row)/\w.cell? ⟨b,off+i*6+1,none⟩=some (.string e.fam)/\w.cell? ⟨b,off+i*6+2,none⟩=some (.string e.qual)/\
  w.cell? ⟨b,off+i*6+3,none⟩=some (.int .u64 e.ts)/\w.cell? ⟨b,off+i*6+4,none⟩=some (.int .i64 e.kind)/\w.cell? ⟨b,off+i*6+5,none⟩=some (.string e.val)
variable {B:Nat} {w':World} {es:List Ent}
theorem yAe.below{b off:Nat}(h:yAe w b off es)(hb:Below B w w')(hlt:b<B):yAe w' b off es:=by
 intro i e he;have:=h i e he;refine⟨?_,?_,?_,?_,?_,?_⟩;all_goals rw[hb.cell (by exact hlt)]
 .exact this.1
 .exact this.2.1
 .exact this.2.2.1
 .exact this.2.2.2.1
 .exact this.2.2.2.2.1
 .exact this.2.2.2.2.2
def OwnE(w:World)(base g cap:Nat)(es:List Ent):Prop:=w.ownsRow base 64 6 (.slice (some ⟨g,0,none⟩) es.length cap) es.length (yBa es)
variable {base g cap:Nat}
theorem OwnE.at(h:OwnE w base g cap es):yAe w g 0 es:=by
 intro i e he;have hi:i<es.length:=(List.getElem?_eq_some_iff.1 he).1;have c:=λj (hj:j<6)=>(World.ownsRow.cellAt h (i*6+j) (by omega)).trans (yLo es i e he j hj);refine⟨?_,?_,?_,?_,?_,?_⟩
 .simpa using c 0 (by omega)
 .simpa using c 1 (by omega)
 .simpa using c 2 (by omega)
 .simpa using c 3 (by omega)
 .simpa using c 4 (by omega)
 .simpa using c 5 (by omega)
theorem OwnE.lt(h:OwnE w base g cap es):base<=g/\g<w.heap.size:=World.ownsRow.lt h g rfl
theorem OwnE.below(h:OwnE w base g cap es)(hb:Below B w w')(hg:g<B):OwnE w' base g cap es:=by exact yS8
theorem OwnE.set(h:OwnE w base g cap es)(k j:Nat)(e e':Ent)(u:Value)(hk:es[k]?=some e)(hj:j<6)(hc:e'.cells=e.cells.set j u):
  OwnE (w.setCell ⟨g,k*6+j,none⟩ u) base g cap (es.set k e'):=by
 have:=(World.ownsRow.stored h (k*6+j) u).1;rw[ySv es k e e' u j hk hj hc]at this;unfold OwnE;rw[length_set];exact this
theorem OwnE.put(h:OwnE w base g cap es)(k:Nat)(f e:Ent)(hk:es[k]?=some f):
  OwnE ((((((w.setCell ⟨g,k*6,none⟩ (.string e.row)).setCell ⟨g,k*6+1,none⟩ (.string e.fam)).setCell ⟨g,k*6+2,none⟩ (.string e.qual)).setCell ⟨g,k*6+3,none⟩ (.int .u64 e.ts)).setCell ⟨g,k*6+4,none⟩ (.int .i64 e.kind)).setCell ⟨g,k*6+5,none⟩ (.string e.val)) base g cap (es.set k e):=by
 have y:k<es.length:=(List.getElem?_eq_some_iff.1 hk).1;have g1:=h.set k 0 f {f with row:=e.row} (.string e.row) hk (by omega) rfl;have g2:=g1.set k 1 {f with row:=e.row} {f with row:=e.row,fam:=e.fam} (.string e.fam) (by simp[y]) (by omega) rfl;have g3:=g2.set k 2 {f with row:=e.row,fam:=e.fam} {f with row:=e.row,fam:=e.fam,qual:=e.qual} (.string e.qual) (by simp[y]) (by omega) rfl;have g4:=g3.set k 3 {f with row:=e.row,fam:=e.fam,qual:=e.qual} {f with row:=e.row,fam:=e.fam,qual:=e.qual,ts:=e.ts} (.int .u64 e.ts) (by simp[y]) (by omega) rfl;have g5:=g4.set k 4 {f with row:=e.row,fam:=e.fam,qual:=e.qual,ts:=e.ts} {f with row:=e.row,fam:=e.fam,qual:=e.qual,ts:=e.ts,kind:=e.kind} (.int .i64 e.kind) (by simp[y]) (by omega) rfl;have g6:=g5.set k 5 {f with row:=e.row,fam:=e.fam,qual:=e.qual,ts:=e.ts,kind:=e.kind} e (.string e.val) (by simp[y]) (by omega) rfl;simpa only[set_set,Nat.add_zero]using g6
theorem Tryz.infoEnt:(prog.info? 64).map (λi=>(i.zero,i.size,i.bytes))=some (some (.agg #[.string ⟨#[]⟩,.string ⟨#[]⟩,.string ⟨#[]⟩,.int .u64 0,.int .i64 0,.string ⟨#[]⟩]),6,80):=by kernel_rfl
def yGi:Ent:=⟨⟨#[]⟩,⟨#[]⟩,⟨#[]⟩,0,0,⟨#[]⟩⟩
def Ent.vld(e:Ent):Bool:=vE e.row e.fam e.qual e.kind e.val
def yAm(a b:Ent):Bool:=(a.row.toList==b.row.toList) && ((a.fam.toList==b.fam.toList) && (a.qual.toList==b.qual.toList))
theorem yB1(a b:Ent)(w:World):
  Calls prog 102 #[a.v,b.v] w λe w'=>e=.returned (.bool (yAm a b))/\Below w.heap.size w w':=by
 unfold yAm Ent.v;cases h1:(a.row.toList==b.row.toList)
 .exact yXx
 .cases h2:(a.fam.toList==b.fam.toList)
  .exact yXx
  .exact yXx
theorem yE1(a:Ent)(w:World):
  Calls prog 152 #[a.v] w λe w'=>e=.returned (.agg #[.string a.row,.string a.fam,.string a.qual])/\Below w.heap.size w w':=by
 unfold Ent.v;go_enter func152,ntmps152;go_wp2;refine bodyPost_ret (v:=.agg #[.string a.row,.string a.fam,.string a.qual]) (by simp[results,results152,go_sem]) rfl ⟨rfl,?_⟩;exact(qB).alloc (by simp) _
theorem yVd(a b:Ent)(wx:World):(binOp .eql 141 (.agg #[.string a.row,.string a.fam,.string a.qual]) (.agg #[.string b.row,.string b.fam,.string b.qual])).run prog wx=.ok (.bool (yAm a b)) wx:=by
 unfold yAm;cases h1:(a.row.toList==b.row.toList)
 .go_simp
 .cases h2:(a.fam.toList==b.fam.toList)
  .go_simp
  .cases h3:(a.qual.toList==b.qual.toList)
   .go_simp
   .go_simp
theorem yUk{P:Program}{f:Nat}{args:Array Value}{v:Value}(W0:World)(h:Below W0.heap.size W0 w)(c:Calls P f args w λe w'=>e=.returned v/\Below w.heap.size w w'):
  Calls P f args w λe w'=>e=.returned v/\Below W0.heap.size W0 w'/\(∀b o,b<W0.heap.size->w'.cell? ⟨b,o,none⟩=W0.cell? ⟨b,o,none⟩):=by
 refine c.mono ?_;rintro e w' ⟨he,hb⟩;have k:=h.trans (hb.mono h.size);exact⟨he,k,λb o hlt=>k.cell (p:=⟨b,o,none⟩) hlt⟩
def yA3(p e:Ent):Bool:=(yAc p e== -1) && !((p.kind==2) && ((e.kind==2) && yAm p e))
theorem yKo(a b:Ent)(w:World):
  Calls prog 165 #[a.v,b.v] w λe w'=>e=.returned (.bool (yA3 a b))/\Below w.heap.size w w':=by
 unfold Ent.v;cases ga:(a.kind==2)
 .have H:Hid (yA3 a b=decide (yAc a b<0)):=by show yA3 a b=_;unfold yA3;rw[ga];rcases yBe a b with h|h|h<;>rw[h]<;>rfl
  exact xA1
 .cases gb:(b.kind==2)
  .have H:Hid (yA3 a b=decide (yAc a b<0)):=by show yA3 a b=_;unfold yA3;rw[ga,gb];rcases yBe a b with h|h|h<;>rw[h]<;>rfl
   exact xA1
  .go_enter func165,ntmps165;go_upto_region 1 with fail;obtain⟨W0,y⟩:=qE ((w.alloc (Obj.cells #[.string a.row,.string a.fam,.string a.qual,.int .u64 a.ts,.int .i64 a.kind,.string a.val] 64)).alloc (Obj.cells #[.string b.row,.string b.fam,.string b.qual,.int .u64 b.ts,.int .i64 b.kind,.string b.val] 64):World);have a0:Below w.heap.size w W0:=by rw[y];exact(qB).alloc (by simp) _
   have a3:w.heap.size+1<W0.heap.size:=by rw[y];simp
   have ca:∀o,W0.cell? ⟨w.heap.size,o,none⟩=((w.alloc (Obj.cells #[.string a.row,.string a.fam,.string a.qual,.int .u64 a.ts,.int .i64 a.kind,.string a.val] 64)).alloc (Obj.cells #[.string b.row,.string b.fam,.string b.qual,.int .u64 b.ts,.int .i64 b.kind,.string b.val] 64)).cell? ⟨w.heap.size,o,none⟩:=λo=>by rw[y]
   have cb:∀o,W0.cell? ⟨w.heap.size+1,o,none⟩=((w.alloc (Obj.cells #[.string a.row,.string a.fam,.string a.qual,.int .u64 a.ts,.int .i64 a.kind,.string a.val] 64)).alloc (Obj.cells #[.string b.row,.string b.fam,.string b.qual,.int .u64 b.ts,.int .i64 b.kind,.string b.val] 64)).cell? ⟨w.heap.size+1,o,none⟩:=λo=>by rw[y]
   rw[<-y];clear y;go_cut[19] (λs wx=>s=.bool (yAm a b)/\Below W0.heap.size W0 wx);case first=>
    have e3:=yVd a b
    go_region_with (first
     |(go_at_call_of 152 (a.row);refine(yUk W0 ?hB (yE1 a _)).mono ?_;(case hB=>(repeat (first|assumption|exact Below.refl _ _|refine Below.drew ?_)));rintro e w' ⟨rfl,a5,a4⟩)
     |(go_at_call_of 152 (b.row);refine(yUk W0 ?hB (yE1 b _)).mono ?_;(case hB=>(repeat (first|assumption|exact Below.refl _ _|refine Below.drew ?_)));rintro e w' ⟨rfl,a5,a4⟩))
    all_goals go_wp2_with fail
    all_goals go_meet
    all_goals exact⟨rfl,by assumption⟩
   case rest=>
   obtain⟨rfl,h3⟩:=hcut;have a7:∀o,wc.cell? ⟨w.heap.size,o,none⟩=W0.cell? ⟨w.heap.size,o,none⟩:=λo=>h3.cell (p:=⟨w.heap.size,o,none⟩) (by show w.heap.size<_;omega);have a6:∀o,wc.cell? ⟨w.heap.size+1,o,none⟩=W0.cell? ⟨w.heap.size+1,o,none⟩:=λo=>h3.cell (p:=⟨w.heap.size+1,o,none⟩) a3;cases hs:yAm a b
   .have H:Hid (yA3 a b=decide (yAc a b<0)):=by show yA3 a b=_;unfold yA3;rw[ga,gb,hs];rcases yBe a b with h|h|h<;>rw[h]<;>rfl
    go_wp2_with fail;refine(yC4 a b _).mono ?_;rintro e w1 ⟨rfl,hb1⟩;go_wp2_with fail;go_ret;exact⟨yGu H.symm,(a0.trans (h3.mono (by omega))).trans (hb1.mono (by have:=h3.size;omega))⟩
   .have H:Hid (yA3 a b=false):=by show yA3 a b=_;unfold yA3;rw[ga,gb,hs];simp
    go_wp2_with fail;go_ret;exact⟨yGu H.symm,a0.trans (h3.mono (by omega))⟩
def yEt(es:List Ent):Prop:=es.length<=10000/\∀e∈es,e.vld=true
def xCg(es:List Ent):Prop:=∀i p e,es[i]?=some p->es[i+1]?=some e->yA3 p e=true
def yAp(es:List Ent):Prop:=yEt es/\xCg es
theorem iffF(h:¬p):(false=true↔p):=⟨λx=>Bool.noConfusion x,λx=>absurd x h⟩
theorem iffT(h:p):(true=true↔p):=⟨λ_=>h,λ_=>rfl⟩
variable {k:Nat} {e:Ent}
theorem yF9(h:∀x∈es.take k,x.vld=true)(he:es[k]?=some e)(hv:e.vld=true):∀x∈es.take (k+1),x.vld=true:=by
 intro x hx;rw[take_add_one,he]at hx;simp at hx;rcases hx with hx|rfl
 .exact h x hx
 .exact hv
theorem yIl(b off cap:Nat)(es:List Ent)(w:World)(hE:yAe w b off es)(hok:∀e∈es,e.ok)(hB:b<w.heap.size)(hlen:es.length<=cap)(hcap:cap<=maxLen):
  Calls prog 164 #[.slice (some ⟨b,off,none⟩) es.length cap] w λe w'=>
   ∃r:Bool,e=.returned (.bool r)/\(r=true↔yEt es)/\Below w.heap.size w w':=by
 have HE:Hid (yAe w b off es):=hE;have HO:Hid (∀e∈es,e.ok):=hok;clear hE hok;unfold maxLen at hcap;by_cases hbig:10000<es.length
 .have H:Hid (¬yEt es):=λh=>by have:=h.1;omega
  go_enter func164,ntmps164;go_wp2;go_ret;exact⟨_,rfl,iffF H.out,Below.refl _ _⟩
 go_enter func164,ntmps164;go_wp2;go_loopw[10] (λi wr=>∃(k:Nat),k<=es.length/\i=.int .i64 k/\(∀x∈es.take k,x.vld=true)/\Below w.heap.size w wr) (λi _=>es.length-(intOf i).toNat);case atStart=>exact⟨0,zero_le _,rfl,by simp,Below.refl _ _⟩
 case round=>
  obtain⟨k,hk,rfl,hv,hb⟩:=hrel;have HV:Hid (∀x∈es.take k,x.vld=true):=hv;clear hv;by_cases hlt:k<es.length
  .obtain⟨e,he⟩:∃e,es[k]?=some e:=⟨_,getElem?_eq_getElem hlt⟩;obtain⟨c0,c1,c2,c3,c4,c5⟩:=(HE.below hb hB) k e he;have HK:Hid (e.ok/\es[k]?=some e):=⟨HO.out e (mem_of_getElem? he),he⟩;clear he;go_wp2_with fail;refine(yF8 e.row e.fam e.qual e.val e.ts e.kind _ HK.1.row HK.1.fam HK.1.qual HK.1.val).mono ?_;rintro e' w1 ⟨rfl,hb1⟩;have hb2:=(hb.alloc hb.size (Obj.cells #[.string e.row,.string e.fam,.string e.qual,.int .u64 e.ts,.int .i64 e.kind,.string e.val] 64)).trans (hb1.mono (by have:=hb.size;simp;omega));clear c0 c1 c2 c3 c4 c5 hb1;cases hv:vE e.row e.fam e.qual e.kind e.val
   .exact xAl
   .have H:Hid (∀x∈es.take (k+1),x.vld=true):=yF9 HV.out HK.2 hv;go_wp2_with fail;go_roundw;case rel=>exact⟨k+1,by omega,by go_num,H.out,hb2⟩
    case measure=>simp[intOf];omega
  .go_wp2;go_ret;refine⟨_,rfl,⟨λ_=>⟨by omega,λe he=>?_⟩,λ_=>rfl⟩,hb⟩;have:=HV.out;rw[take_of_length_le (by omega)]at this;exact this e he
def yCt(es:List Ent)(k:Nat):Prop:=∀i p e,i+1<k->es[i]?=some p->es[i+1]?=some e->yA3 p e=true
variable {p:Ent}
theorem yEg{m:Nat}(h:yCt es (m+1))(hp:es[m]?=some p)(he:es[m+1]?=some e)(ho:yA3 p e=true):yCt es (m+1+1):=by
 intro i p' e' hi h1 h2;by_cases hm:i=m
 .subst hm;rw[hp]at h1;rw[he]at h2;simp at h1 h2;subst h1 h2;exact ho
 .exact h i p' e' (by omega) h1 h2
theorem yGc(h:yCt es k)(hk:es.length<=k):xCg es:=by intro i p e h1 h2;have:=(List.getElem?_eq_some_iff.1 h2).1;exact h i p e (by omega) h1 h2
theorem yEz(b off cap:Nat)(es:List Ent)(w:World)(hE:yAe w b off es)(hok:∀e∈es,e.ok)(hB:b<w.heap.size)(hlen:es.length<=cap)(hcap:cap<=maxLen):
  Calls prog 103 #[.agg #[.slice (some ⟨b,off,none⟩) es.length cap]] w λe w'=>
   ∃r:Bool,e=.returned (.bool r)/\(r=true↔yAp es)/\Below w.heap.size w w':=by
 obtain⟨W0,y⟩:=qE (w.alloc (Obj.cells #[.slice (some ⟨b,off,none⟩) es.length cap] 60):World);have a3:Below w.heap.size w W0:=by rw[y];exact qB
 have a4:w.heap.size<W0.heap.size:=by rw[y];simp
 have ca:W0.cell? ⟨w.heap.size,0,none⟩=some (.slice (some ⟨b,off,none⟩) es.length cap):=by rw[y];simp
 have HE:Hid (yAe W0 b off es):=hE.below a3 hB;have HO:Hid (∀e∈es,e.ok):=hok;have HC:Hid (cap<=maxLen):=hcap;clear hE hok;unfold maxLen at hcap;go_enter func103,ntmps103;go_wp2_with fail;rw[<-y];refine(yIl b off cap es _ HE.out HO.out (by omega) hlen HC.out).mono ?_;rintro e w1 ⟨r,rfl,hr,hb1⟩;have HR:Hid (r=true↔yEt es):=hr;clear hr y;have k1:=a3.trans (hb1.mono (by omega));have a6:w1.cell? ⟨w.heap.size,0,none⟩=some (.slice (some ⟨b,off,none⟩) es.length cap):=by rw[hb1.cell (p:=⟨w.heap.size,0,none⟩) a4];exact ca
 cases r
 .go_wp2_with fail;go_ret;exact⟨_,rfl,iffF (λh=>Bool.noConfusion (HR.2 h.1)),k1⟩
 have a7:Hid (yEt es):=HR.1 rfl;clear HR;go_wp2_with fail;go_loopw[3] (λi wr=>∃(k:Nat),1<=k/\i=.int .i64 k/\yCt es k/\Below w1.heap.size w1 wr) (λi _=>es.length-(intOf i).toNat);case atStart=>exact⟨1,Nat.le_refl _,rfl,λi p e hi=>by omega,Below.refl _ _⟩
 case round=>
  obtain⟨k,hk,rfl,hP,hb⟩:=hrel;have HP:Hid (yCt es k):=hP;clear hP;have a9:=hb1.size;have a8:=hb.size;have aa:wr.cell? ⟨w.heap.size,0,none⟩=some (.slice (some ⟨b,off,none⟩) es.length cap):=by rw[hb.cell (p:=⟨w.heap.size,0,none⟩) (by show w.heap.size<_;omega)];exact a6
  obtain⟨m,rfl⟩:∃m,k=m+1:=⟨k-1,by omega⟩;by_cases hlt:m+1<es.length
  .obtain⟨p,hp⟩:∃e,es[m]?=some e:=⟨_,getElem?_eq_getElem (by omega)⟩;obtain⟨e,he⟩:∃e,es[m+1]?=some e:=⟨_,getElem?_eq_getElem hlt⟩;have a0:=(HE.below hb1 (by omega)).below hb (by omega);obtain⟨c0,c1,c2,c3,c4,c5⟩:=a0 m p hp;obtain⟨d0,d1,d2,d3,d4,d5⟩:=a0 (m+1) e he;have HK:Hid (es[m]?=some p/\es[m+1]?=some e):=⟨hp,he⟩;clear hp he a0;go_upto_region 6 with fail;go_cut[27] (λs wx=>s=.bool (!yA3 p e)/\Below w1.heap.size w1 wx);case first=>
    have hw:IntKind.i64.wrap (m:Int)=(m:Int):=Go.IntWalk.i64_in _ (by omega);have z1:(0:Int)<=(m:Int):=by omega
    have z2:(m:Int)<(es.length:Int):=by omega
    have z3:(m:Int)+1<(es.length:Int):=by omega
    go_region_with (go_at_call 165;refine(yKo p e _).mono ?_;rintro e' w' ⟨rfl,a5⟩);all_goals go_wp2_with fail
    all_goals go_meet
    all_goals exact⟨rfl,hb.drew.trans (a5.mono (by simp;omega))⟩
   case rest=>
   obtain⟨rfl,h3⟩:=hcut;clear c0 c1 c2 c3 c4 c5 d0 d1 d2 d3 d4 d5;cases ho:yA3 p e
   .have H:Hid (¬yAp es):=λh=>by have:=h.2 m p e HK.1 HK.2;rw[ho]at this;cases this
    go_wp2_with fail;go_ret;exact⟨_,rfl,iffF H.out,k1.trans (h3.mono (by omega))⟩
   .have H:Hid (yCt es (m+1+1)):=yEg HP.out HK.1 HK.2 ho;go_wp2_with fail;go_roundw;case rel=>exact⟨m+1+1,by omega,by go_num,H.out,h3⟩
    case measure=>simp[intOf];omega
  .go_wp2_with fail;go_ret;exact⟨_,rfl,iffT ⟨a7.out,yGc HP.out (by omega)⟩,k1.trans (hb.mono (by omega))⟩
theorem OwnE.mono{base':Nat}(h:OwnE w base g cap es)(hb:base'<=base):OwnE w base' g cap es:=by exact yM5
theorem yAo{ops:Array Oper}{rest:List Oper}{o:Oper}{a:Act}{Q:Exit->Act->World->Prop}(w:World)(hgd:o.guard=none)(s x:Operand)
  (ho:o.op=.call {callee:=.builtin .append,args:=#[s,x],argTypes:=#[58,58]})
  (base g cp n blk:Nat) (fs:List Ent) (e:Ent) (hs:a.eval s=.slice (some ⟨g,0,none⟩) n cp) (hx:a.eval x=.slice (some ⟨blk,0,none⟩) 1 1) (hn:n=fs.length) (hO:OwnE w base g cp fs)
  (hc:yAe w blk 0 [e]) (hlen:fs.length<=2^30) (hbase:base<=w.heap.size)
  (h:∀g' cp' w',OwnE w' base g' cp' (fs++ [e])->w.grownBy w' (some g)->wpList prog ops Q rest (a.put o.dst (.slice (some ⟨g',0,none⟩) (n+1) cp')) w'):wpList prog ops Q (o::rest) a w:=by
 obtain⟨i,hi,a4,a3,a0⟩:=info_parts Tryz.infoEnt;subst hn;obtain⟨c0,c1,c2,c3,c4,c5⟩:=hc 0 e rfl;refine wpList_append_own w hgd s x 58 ho base 64 i _ 6 80 underlying58 hi a4 a3 a0 rfl (by decide) (.slice (some ⟨g,0,none⟩) fs.length cp) fs.length (yBa fs) hs hO ⟨blk,0,none⟩ 1 1 (yBa [e]) hx rfl ?_ ?_ ?_ ?_ hbase ?_
 .exact xBa
 .intro u hu;simp[yBa]at hu;rcases hu with rfl|rfl|rfl|rfl|rfl|rfl<;>rfl
 .unfold maxLen;omega
 .omega
 .intro v' w' y a7 a5;rw[<-yDv]at y;have a6:(fs++ [e]).length=fs.length+1:=by simp
  rcases y.2 with⟨hv,_⟩|⟨g',a8,cur,hv,h1,h2,h3⟩
  .have:=(a5.1 hv).1;simp at this
  .subst hv;exact h g' a8 w' (by unfold OwnE;rw[a6];exact y) a7
def yB0(e:Ent):List Ent->Bool->List Ent
 | [],done=>if done then []else [e]
 |x::r,done=>
  if yAc x e= -1 then x::yB0 e r done
  else if yAc x e=0 then(if done then yB0 e r true else e::yB0 e r true)
  else(if done then x::yB0 e r true else e::x::yB0 e r true)
def into(L:List Ent)(e:Ent):List Ent:=yB0 e L false
theorem yEh(e:Ent):∀(L:List Ent)(d:Bool),(yB0 e L d).length<=L.length+1
 | [],d=>by unfold yB0;split<;>simp
 |x::r,d=>by
  have h1:=yEh e r d
  have h2:=yEh e r true
  have h3:∀(L:List Ent),(yB0 e L true).length<=L.length:=by
   intro L;induction L with
   |nil=>simp[yB0]
   |cons y s ih=>
    unfold yB0;split
    .simp;omega
    .split
     .simp;omega
     .simp;omega
  have h4:=h3 r
  unfold yB0
  split
  .simp;omega
  .split
   .split<;>simp<;>omega
   .split<;>simp<;>omega
theorem yJy(b off cap:Nat)(L:List Ent)(e:Ent)(w:World)(hE:yAe w b off L)(hB:b<w.heap.size)(hlen:L.length<=1048576):
  Calls prog 112 #[.slice (some ⟨b,off,none⟩) L.length cap,e.v] w λr w'=>
   ∃g cp,r=.returned (.slice (some ⟨g,0,none⟩) (into L e).length cp)/\OwnE w' w.heap.size g cp (into L e)/\Below w.heap.size w w':=by
 unfold Ent.v;obtain⟨W0,a6⟩:=qE (w.alloc (Obj.cells #[.string e.row,.string e.fam,.string e.qual,.int .u64 e.ts,.int .i64 e.kind,.string e.val] 64):World);have ab:Below w.heap.size w W0:=by rw[a6];exact qB
 have a9:W0.heap.size=w.heap.size+1:=by rw[a6];simp
 have HX:Hid (yAe W0 w.heap.size 0 [e]):=by
  show yAe W0 w.heap.size 0 [e];intro j f hf;obtain rfl:j=0:=by have:=(List.getElem?_eq_some_iff.1 hf).1;simpa using this
  simp at hf;subst hf;rw[a6];simp
 have HE:Hid (yAe W0 b off L):=hE.below ab hB;have HS:Hid (OwnE (W0.alloc (Obj.cells #[] 64)) (w.heap.size+1) (w.heap.size+1) 0 []):=by show OwnE (W0.alloc (Obj.cells #[] 64)) (w.heap.size+1) (w.heap.size+1) 0 [];rw[<-a9];exact World.ownsRow_made W0 #[] 0 (Nat.le_refl _) (zero_le _) (by simp)
 clear hE;have HZ:Hid (W0.heap.size=w.heap.size+1):=a9;have al:w.heap.size<W0.heap.size:=by omega
 have ak:W0.heap.size<=w.heap.size+1:=by omega
 clear a9;go_enter func112,ntmps112;go_wp2_with fail;rw[<-a6];clear a6;go_loopw[5,6,7] (λo d i wr=>∃(k g cp:Nat)(fs:List Ent)(dn:Bool),k<=L.length/\i=.int .i64 k/\d=.bool dn/\o=.slice (some ⟨g,0,none⟩) fs.length cp/\fs++yB0 e (L.drop k) dn=into L e/\OwnE wr (w.heap.size+1) g cp fs/\Below W0.heap.size W0 wr) (λ_ _ i _=>L.length-(intOf i).toNat);case atStart=>exact⟨0,_,0,[],false,zero_le _,rfl,rfl,rfl,rfl,HS.out,qB⟩
 case round=>
  obtain⟨k,g,cp,fs,dn,hk,rfl,rfl,rfl,aa,hO,hb⟩:=hrel;have aq:fs.length<=1048577:=by have h1:=congrArg List.length aa;have h2:=yEh e L false;rw[length_append]at h1;unfold into at h1;omega
  have HI:Hid (fs++yB0 e (L.drop k) dn=into L e):=aa;have HO:Hid (OwnE wr (w.heap.size+1) g cp fs):=hO;have hg:=hO.lt;have hs:=hb.size;clear aa hO;by_cases hlt:k<L.length
  .obtain⟨x,hx⟩:∃x,L[k]?=some x:=⟨_,getElem?_eq_getElem hlt⟩;have hdr:L.drop k=x::L.drop (k+1):=by rw[drop_eq_getElem_cons hlt];rw[getElem?_eq_getElem hlt]at hx;simp at hx;rw[hx]
   have HD:Hid (L.drop k=x::L.drop (k+1)):=hdr;clear hdr;have ae:∀wx,Below W0.heap.size W0 wx->yAe wx b off L/\yAe wx w.heap.size 0 [e]:=λwx h=>⟨HE.below h (by omega),HX.below h (by omega)⟩;have a8:Hid (∀wx,Below W0.heap.size W0 wx->yAe wx b off L/\yAe wx w.heap.size 0 [e]):=ae;clear ae;obtain⟨c0,c1,c2,c3,c4,c5⟩:=(a8.out wr hb).1 k x hx;obtain⟨d0,d1,d2,d3,d4,d5⟩:=(a8.out wr hb).2 0 e rfl;simp only[Nat.zero_add,Nat.zero_mul]at d0 d1 d2 d3 d4 d5;have ag:Hid (L[k]?=some x):=hx;clear hx;have z2:(k:Int)<(L.length:Int):=by omega
   go_upto_region 6 with fail;go_cut[8] (λs wx=>s=.int .i64 (yAc x e)/\Below wr.heap.size wr wx);case first=>
    go_region_with (go_at_call 101;refine(yDy x e _).mono ?_;rintro e' w' ⟨rfl,ai⟩);all_goals go_wp2_with fail
    all_goals go_meet
    all_goals exact⟨rfl,((Below.refl _ _).drew).trans (ai.mono (by simp))⟩
   case rest=>
   obtain⟨rfl,h3⟩:=hcut;have hb3:=hb.trans (h3.mono hb.size);have a7:Hid (OwnE wc (w.heap.size+1) g cp fs):=HO.below h3 hg.2;have am:=h3.size;clear c0 c1 c2 c3 c4 c5 d0 d1 d2 d3 d4 d5;obtain⟨c0,c1,c2,c3,c4,c5⟩:=(a8.out wc hb3).1 k x ag.out;obtain⟨d0,d1,d2,d3,d4,d5⟩:=(a8.out wc hb3).2 0 e rfl;simp only[Nat.zero_add,Nat.zero_mul]at d0 d1 d2 d3 d4 d5;have yJ3:∀(wx:World)(f:Ent),yAe (wx.alloc (Obj.cells #[.string f.row,.string f.fam,.string f.qual,.int .u64 f.ts,.int .i64 f.kind,.string f.val] 64)) wx.heap.size 0 [f]:=by
    intro wx f j y hy;obtain rfl:j=0:=by have:=(List.getElem?_eq_some_iff.1 hy).1;simpa using this
    simp at hy;subst hy;simp
   have HN:Hid (∀(wx:World)(f:Ent),yAe (wx.alloc (Obj.cells #[.string f.row,.string f.fam,.string f.qual,.int .u64 f.ts,.int .i64 f.kind,.string f.val] 64)) wx.heap.size 0 [f]):=yJ3;clear yJ3;rcases yBe x e with hc|hc|hc
   .have HC:Hid (yAc x e= -1):=hc;go_wp2_with (at_builtin;refine yAo _ rfl _ _ rfl (w.heap.size+1) g cp _ _ fs x rfl rfl rfl ?hO ?hc ?hl ?hb ?_);case hO=>exact a7.below (qB) (by omega)
    case hc=>exact HN.out wc x
    case hl=>omega
    case hb=>simp;omega
    intro g' cp' w' a3 a0;have a5:Hid (OwnE w' (w.heap.size+1) g' cp' (fs++ [x])):=a3;have a4:Below W0.heap.size W0 w':=(hb3.alloc hb3.size _).grown a0 (by simp;omega) (λj hj=>by cases hj;omega);clear a3 a0;go_wp2_with fail;go_roundw;case rel=>
     go_light;refine⟨k+1,g',cp',fs++ [x],dn,by omega,by go_num,rfl,by simp,?_,a5.out,a4⟩;have h:=HI.out;rw[HD.out]at h;rw[<-h];simp[yB0,HC.out]
    case measure=>go_light;simp[intOf];omega
   .have HC:Hid (yAc x e=0):=hc;cases dn
    .go_wp2_with (at_builtin;refine yAo _ rfl _ _ rfl (w.heap.size+1) g cp _ _ (fs) e rfl rfl rfl ?hO ?hc ?hl ?hb ?_);case hO=>exact a7.below (qB) (by omega)
     case hc=>exact HN.out wc e
     case hl=>omega
     case hb=>simp;omega
     intro g' cp' w' a3 a0;have a5:Hid (OwnE w' (w.heap.size+1) g' cp' (fs++ [e])):=a3;have a4:Below W0.heap.size W0 w':=(hb3.alloc hb3.size _).grown a0 (by simp;omega) (λj hj=>by cases hj;omega);clear a3 a0;go_wp2_with fail;go_roundw;case rel=>
      go_light;refine⟨k+1,g',cp',fs++ [e],true,by omega,by go_num,rfl,by simp,?_,a5.out,a4⟩;have h:=HI.out;rw[HD.out]at h;rw[<-h];simp[yB0,HC.out]
     case measure=>go_light;simp[intOf];omega
    .go_wp2_with fail;go_roundw;case rel=>
      go_light;refine⟨k+1,g,cp,fs,true,by omega,by go_num,rfl,by simp,?_,a7.out,hb3⟩;have h:=HI.out;rw[HD.out]at h;rw[<-h];simp[yB0,HC.out]
     case measure=>go_light;simp[intOf];omega
   .have HC:Hid (yAc x e=1):=hc;cases dn
    .go_wp2_with (at_builtin;refine yAo _ rfl _ _ rfl (w.heap.size+1) g cp _ _ (fs) e rfl rfl rfl ?hO ?hc ?hl ?hb ?_);case hO=>exact a7.below (qB) (by omega)
     case hc=>exact HN.out wc e
     case hl=>omega
     case hb=>simp;omega
     intro g1 af w1 ac ad;have aj:Hid (OwnE w1 (w.heap.size+1) g1 af (fs++ [e])):=ac;have hb1:Below W0.heap.size W0 w1:=(hb3.alloc hb3.size _).grown ad (by simp;omega) (λj hj=>by cases hj;omega);have ah:=ac.lt;have an:=hb1.size;clear ac ad c0 c1 c2 c3 c4 c5;obtain⟨c0,c1,c2,c3,c4,c5⟩:=(a8.out w1 hb1).1 k x ag.out;go_wp2_with (at_builtin;refine yAo _ rfl _ _ rfl (w.heap.size+1) g1 af _ _ (fs++ [e]) x rfl rfl (by simp) ?hO ?hc ?hl ?hb ?_);case hO=>exact aj.below (qB) ah.2
     case hc=>exact HN.out w1 x
     case hl=>simp;omega
     case hb=>simp;omega
     intro g' cp' w' a3 a0;have a5:Hid (OwnE w' (w.heap.size+1) g' cp' (fs++ [e,x])):=a3;have a4:Below W0.heap.size W0 w':=(hb1.alloc hb1.size _).grown a0 (by simp;omega) (λj hj=>by cases hj;omega);clear a3 a0;go_wp2_with fail;go_roundw;case rel=>
      go_light;refine⟨k+1,g',cp',fs++ [e,x],true,by omega,by go_num,rfl,by simp,?_,a5.out,a4⟩;have h:=HI.out;rw[HD.out]at h;rw[<-h];simp[yB0,HC.out]
     case measure=>go_light;simp[intOf];omega
    .go_wp2_with (at_builtin;refine yAo _ rfl _ _ rfl (w.heap.size+1) g cp _ _ (fs) x rfl rfl rfl ?hO ?hc ?hl ?hb ?_);case hO=>exact a7.below (qB) (by omega)
     case hc=>exact HN.out wc x
     case hl=>omega
     case hb=>simp;omega
     intro g' cp' w' a3 a0;have a5:Hid (OwnE w' (w.heap.size+1) g' cp' (fs++ [x])):=a3;have a4:Below W0.heap.size W0 w':=(hb3.alloc hb3.size _).grown a0 (by simp;omega) (λj hj=>by cases hj;omega);clear a3 a0;go_wp2_with fail;go_roundw;case rel=>
      go_light;refine⟨k+1,g',cp',fs++ [x],true,by omega,by go_num,rfl,by simp,?_,a5.out,a4⟩;have h:=HI.out;rw[HD.out]at h;rw[<-h];simp[yB0,HC.out]
     case measure=>go_light;simp[intOf];omega
  .have hdr:L.drop k= []:=drop_eq_nil_of_le (by omega);have HD:Hid (L.drop k= []):=hdr;clear hdr;have ao:k=L.length:=by omega
   cases dn
   .obtain⟨d0,d1,d2,d3,d4,d5⟩:=HX.below hb (by omega) 0 e rfl;simp only[Nat.zero_add,Nat.zero_mul]at d0 d1 d2 d3 d4 d5;have HF:Hid (fs++ [e]=into L e):=by have h:=HI.out;rw[HD.out]at h;exact h
    go_wp2_with (at_builtin;refine yAo _ rfl _ _ rfl (w.heap.size+1) g cp _ _ fs e rfl rfl rfl ?hO ?hc ?hl ?hb ?_);case hO=>exact HO.below (qB) (by omega)
    case hc=>exact yS5
    case hl=>omega
    case hb=>simp;omega
    intro g' cp' w' a3 a0;have a5:Hid (OwnE w' (w.heap.size+1) g' cp' (fs++ [e])):=a3;have a4:Below W0.heap.size W0 w':=(hb.alloc hb.size _).grown a0 (by simp;omega) (λj hj=>by cases hj;omega);clear a3 a0;go_wp2_with fail;go_ret;refine⟨g',cp',?_,?_,ab.trans (a4.mono (by omega))⟩
    .rw[<-HF.out];simp
    .rw[<-HF.out];exact a5.mono (by omega)
   .have HF:Hid (fs=into L e):=by have h:=HI.out;rw[HD.out]at h;show fs=into L e;simpa [yB0]using h
    go_wp2_with fail;go_ret;refine⟨g,cp,?_,?_,ab.trans (hb.mono (by omega))⟩
    .rw[<-HF.out];rfl
    .rw[<-HF.out];exact HO.mono (by omega)
theorem yOt:∀a b:List UInt8,Lib.compareBytes a b=0↔a=b
 | [],[]=>by simp[Lib.compareBytes]
 | [],_::_=>by simp[Lib.compareBytes]
 |_::_,[]=>by simp[Lib.compareBytes]
 |a::x,b::y=>by
  unfold Lib.compareBytes
  by_cases h1:a<b
  .rw[if_pos h1]
   constructor
   .intro h;cases h
   .intro h
    simp at h
    rw[h.1]at h1
    simp at h1
  .rw[if_neg h1]
   by_cases h2:b<a
   .rw[if_pos h2]
    constructor
    .intro h;cases h
    .intro h
     simp at h
     rw[h.1]at h2
     simp at h2
   .rw[if_neg h2,yOt x y]
    have hab:a=b:=by rw[UInt8.lt_iff_toNat_lt]at h1 h2;exact UInt8.toNat_inj.1 (by omega)
    simp[hab]
theorem yR:∀a b:List UInt8,Lib.compareBytes b a= -Lib.compareBytes a b
 | [],[]=>by simp[Lib.compareBytes]
 | [],_::_=>by simp[Lib.compareBytes]
 |_::_,[]=>by simp[Lib.compareBytes]
 |a::x,b::y=>by
  unfold Lib.compareBytes
  have:=yR x y
  simp only[UInt8.lt_iff_toNat_lt]
  by_cases h1:a.toNat<b.toNat
  .have h2:¬b.toNat<a.toNat:=by omega
   simp[h1,h2]
  .by_cases h2:b.toNat<a.toNat
   .simp[h1,h2]
   .simp[h1,h2,this]
theorem yLj:∀a b c:List UInt8,Lib.compareBytes a b= -1->Lib.compareBytes b c= -1->Lib.compareBytes a c= -1
 | [],[],_=>by simp[Lib.compareBytes]
 | [],_::_,[]=>by simp[Lib.compareBytes]
 | [],_::_,_::_=>by simp[Lib.compareBytes]
 |_::_,[],_=>by simp[Lib.compareBytes]
 |_::_,_::_,[]=>by simp[Lib.compareBytes]
 |a::x,b::y,c::z=>by
  have ih:=yLj x y z
  unfold Lib.compareBytes
  simp only[UInt8.lt_iff_toNat_lt]
  intro h1 h2
  by_cases h3:a.toNat<c.toNat
  .simp[h3]
  .by_cases p1:a.toNat<b.toNat
   .by_cases p2:b.toNat<c.toNat
    .omega
    .by_cases p3:c.toNat<b.toNat
     .simp[p2,p3]at h2
     .omega
   .by_cases p2:b.toNat<a.toNat
    .simp[p1,p2]at h1
    .by_cases q1:b.toNat<c.toNat
     .omega
     .by_cases q2:c.toNat<b.toNat
      .simp[q1,q2]at h2
      .simp[p1,p2]at h1
       simp[q1,q2]at h2
       have r1:¬c.toNat<a.toNat:=by omega
       simp[h3,r1]
       exact ih h1 h2
theorem yBn{a b:ByteArray}:cB a b=0↔a=b:=by
 unfold cB;rw[yOt];constructor
 .intro h;cases a;cases b;simp at h;simpa using h
 .intro h;rw[h]
theorem yE3(a b:ByteArray):cB b a= -cB a b:=yR _ _
theorem yH{a b c:ByteArray}(h:cB a b= -1)(k:cB b c= -1):cB a c= -1:=yLj _ _ _ h k
theorem yTd(a b:Int):yEk b a= -yEk a b:=by
 unfold yEk;repeat' split
 all_goals omega
theorem yPz(a b:Int):yA1 b a= -yA1 a b:=by
 unfold yA1;repeat' split
 all_goals omega
theorem yFe(a b:Int):yAr (-a) (-b)= -yAr a b:=by
 unfold yAr;by_cases h:a=0
 .simp[h]
 .simp[h]
theorem yBm(a b:Ent):yAc b a= -yAc a b:=by unfold yAc;rw[yE3 a.row b.row,yE3 a.fam b.fam,yE3 a.qual b.qual,yPz a.kind b.kind,yTd a.ts b.ts,yFe,yFe,yFe,yFe]
theorem yDu{a b c a' b' c':Int}(h0:a=0->b=0->c=0)(h1:a= -1->b= -1->c= -1)(h2:a= -1->b=0->c= -1)(h3:a=0->b= -1->c= -1)
  (ta:tri a) (tb:tri b) (k:a'= -1->b'= -1->c'= -1) (x:yAr a a'= -1) (y:yAr b b'= -1):yAr c c'= -1:=by
 unfold yAr at*;unfold tri at*;by_cases ha:a=0
 .rw[if_pos ha]at x;by_cases hb:b=0
  .rw[if_pos hb]at y;rw[if_pos (h0 ha hb)];exact k x y
  .rw[if_neg hb]at y;have:=h3 ha y;rw[if_neg (by omega)];exact this
 .rw[if_neg ha]at x;by_cases hb:b=0
  .have:=h2 x hb;rw[if_neg (by omega)];exact this
  .rw[if_neg hb]at y;have:=h1 x y;rw[if_neg (by omega)];exact this
theorem yKa(a b c:ByteArray):(cB a b=0->cB b c=0->cB a c=0)/\(cB a b= -1->cB b c= -1->cB a c= -1)/\(cB a b= -1->cB b c=0->cB a c= -1)/\(cB a b=0->cB b c= -1->cB a c= -1):=by
 refine⟨λh k=>?_,λh k=>yH h k,λh k=>?_,λh k=>?_⟩
 .rw[yBn]at*;rw[h,k]
 .rw[yBn]at k;rw[<-k];exact h
 .rw[yBn]at h;rw[h];exact k
theorem yDa{c:Ent}(h:yAc a b= -1)(k:yAc b c= -1):yAc a c= -1:=by
 obtain⟨r0,r1,r2,r3⟩:=yKa a.row b.row c.row;obtain⟨f0,f1,f2,f3⟩:=yKa a.fam b.fam c.fam;obtain⟨q0,q1,q2,q3⟩:=yKa a.qual b.qual c.qual;refine yDu r0 r1 r2 r3 (yCr _ _) (yCr _ _) (λh k=>?_) h k;refine yDu f0 f1 f2 f3 (yCr _ _) (yCr _ _) (λh k=>?_) h k;refine yDu q0 q1 q2 q3 (yCr _ _) (yCr _ _) (λh k=>?_) h k;refine yDu ?_ ?_ ?_ ?_ (yLw _ _) (yLw _ _) (λh k=>?_) h k
 .unfold yA1;(repeat' split)<;>omega
 .unfold yA1;(repeat' split)<;>omega
 .unfold yA1;(repeat' split)<;>omega
 .unfold yA1;(repeat' split)<;>omega
 .unfold yEk at*;(repeat' split at h)<;>(repeat' split at k)<;>(repeat' split)<;>omega
theorem yD2(a:Ent):yAc a a=0:=by have:=yBm a a;omega
def Ord(l:List Ent):Prop:=l.Pairwise λa b=>yAc a b= -1
theorem yMc:∀{l m:List Ent},Ord l->Ord m->(∀x,x∈l↔x∈m)->l=m
 | [],[],_,_,_=>rfl
 | [],b::m,_,_,h=>by have:=(h b).2 (by simp);simp at this
 |a::l,[],_,_,h=>by have:=(h a).1 (by simp);simp at this
 |a::l,b::m,hl,hm,h=>by
  have hl':=List.pairwise_cons.1 hl
  have hm':=List.pairwise_cons.1 hm
  have hab:a=b:=by
   rcases mem_cons.1 ((h a).1 (by simp))with e|e
   .exact e
   .rcases mem_cons.1 ((h b).2 (by simp))with e'|e'
    .exact e'.symm
    .have h1:=hm'.1 a e;have h2:=hl'.1 b e';have:=yBm a b;omega
  subst hab
  congr 1
  refine yMc hl'.2 hm'.2 (λx=>⟨λhx=>?_,λhx=>?_⟩)
  .rcases mem_cons.1 ((h x).1 (mem_cons_of_mem _ hx))with e|e
   .subst e;have:=hl'.1 x hx;rw[yD2]at this;omega
   .exact e
  .rcases mem_cons.1 ((h x).2 (mem_cons_of_mem _ hx))with e|e
   .subst e;have:=hm'.1 x hx;rw[yD2]at this;omega
   .exact e
variable {a b:Int}
theorem yEi:yAr a b=0↔a=0/\b=0:=by
 unfold yAr;by_cases h:a=0
 .simp[h]
 .simp[h]
theorem yIb:yA1 a b=0↔(a=2↔b=2):=by unfold yA1;by_cases h:a=2<;>by_cases k:b=2<;>simp[h,k]
theorem yRo:yEk a b=0↔a=b:=by unfold yEk;(repeat' split)<;>omega
theorem yBw{a b:Ent}:yAc a b=0↔a.row=b.row/\a.fam=b.fam/\a.qual=b.qual/\(a.kind=2↔b.kind=2)/\a.ts=b.ts:=by unfold yAc;rw[yEi,yEi,yEi,yEi,yBn,yBn,yBn,yIb,yRo]
theorem yMn{c:Int}(h:a=2↔b=2):yA1 a c=yA1 b c:=by
 unfold yA1;by_cases k:a=2
 .rw[if_pos k,if_pos (h.1 k)]
 .rw[if_neg k,if_neg (λx=>k (h.2 x))]
theorem yDb{a b c:Ent}(h:yAc a b=0):yAc a c=yAc b c:=by obtain⟨h1,h2,h3,h4,h5⟩:=yBw.1 h;unfold yAc;rw[h1,h2,h3,h5,yMn h4]
theorem yHw(e:Ent):∀L:List Ent,(∀x∈L,yAc e x= -1)->yB0 e L true=L
 | [],_=>rfl
 |x::r,h=>by
  have h1:=h x (by simp)
  have h2:=yBm e x
  have h3:yAc x e=1:=by omega
  unfold yB0
  rw[if_neg (by omega),if_neg (by omega),if_pos rfl,yHw e r (λy hy=>h y (mem_cons_of_mem _ hy))]
theorem yJx(e:Ent):∀L:List Ent,Ord L->Ord (yB0 e L false)/\∀x,x∈yB0 e L false↔x=e\/(x∈L/\yAc x e≠0)
 | [],_=>⟨by simp[yB0,Ord],λx=>by simp[yB0]⟩
 |x::r,h=>by
  have h':=List.pairwise_cons.1 h
  obtain⟨ih1,ih2⟩:=yJx e r h'.2
  rcases yBe x e with hc|hc|hc
  .have e1:yB0 e (x::r) false=x::yB0 e r false:=by simp[yB0,hc]
   rw[e1]
   refine⟨List.pairwise_cons.2 ⟨λy hy=>?_,ih1⟩,λy=>?_⟩
   .rcases(ih2 y).1 hy with rfl|⟨hy,_⟩
    .exact hc
    .exact h'.1 y hy
   .rw[mem_cons,ih2,mem_cons]
    constructor
    .rintro(rfl|rfl|⟨h1,h2⟩)
     .exact .inr ⟨.inl rfl,by omega⟩
     .exact .inl rfl
     .exact .inr ⟨.inr h1,h2⟩
    .rintro(rfl|⟨rfl|h1,h2⟩)
     .exact .inr (.inl rfl)
     .exact .inl rfl
     .exact .inr (.inr ⟨h1,h2⟩)
  .have hr:∀y∈r,yAc e y= -1:=λy hy=>by rw[<-yDb hc];exact h'.1 y hy
   have e1:yB0 e (x::r) false=e::r:=by simp[yB0,hc,yHw e r hr]
   rw[e1]
   refine⟨List.pairwise_cons.2 ⟨hr,h'.2⟩,λy=>?_⟩
   rw[mem_cons,mem_cons]
   constructor
   .rintro(rfl|h1)
    .exact .inl rfl
    .have h2:=hr y h1;have h3:=yBm e y;exact .inr ⟨.inr h1,by omega⟩
   .rintro(rfl|⟨rfl|h1,h2⟩)
    .exact .inl rfl
    .exact absurd hc h2
    .exact .inr h1
  .have hx:yAc e x= -1:=by have:=yBm x e;omega
   have hr:∀y∈r,yAc e y= -1:=λy hy=>yDa hx (h'.1 y hy);have e1:yB0 e (x::r) false=e::x::r:=by simp[yB0,hc,yHw e r hr]
   rw[e1];refine⟨List.pairwise_cons.2 ⟨λy hy=>?_,h⟩,λy=>?_⟩
   .rcases mem_cons.1 hy with rfl|hy
    .exact hx
    .exact hr y hy
   .rw[mem_cons];constructor
    .rintro(rfl|h1)
     .exact .inl rfl
     .refine .inr ⟨h1,?_⟩;have h3:=yBm e y;rcases mem_cons.1 h1 with rfl|h1
      .omega
      .have:=hr y h1;omega
    .rintro(rfl|⟨h1,_⟩)
     .exact .inl rfl
     .exact .inr h1
def yA6(v e:Ent):Bool:=yAm v e && (if(v.kind==2)=true then decide (e.ts<=v.ts)else(v.ts==e.ts))
def yO5(ws:List Ent)(i:Nat):Prop:=∀j v e,i<j->ws[j]?=some v->ws[i]?=some e->yA6 v e=false
def yF1(ws:List Ent)(i k:Nat):Prop:=∀j v e,i<j->j<k->ws[j]?=some v->ws[i]?=some e->yA6 v e=false
variable {ws:List Ent} {i:Nat}
theorem yGo{v:Ent}(h:yF1 ws i k)(hv:ws[k]?=some v)(he:ws[i]?=some e)(hk:yA6 v e=false):yF1 ws i (k+1):=by
 intro j v' e' h1 h2 h3 h4;by_cases hj:j=k
 .subst hj;rw[hv]at h3;rw[he]at h4;simp at h3 h4;subst h3 h4;exact hk
 .exact h j v' e' h1 (by omega) h3 h4
theorem yPe(b off cap:Nat)(ws:List Ent)(i:Nat)(e:Ent)(w:World)(hE:yAe w b off ws)(hB:b<w.heap.size)(hi:ws[i]?=some e)(hlen:ws.length<=1048576):
  Calls prog 158 #[.slice (some ⟨b,off,none⟩) ws.length cap,.int .i64 i] w λr w'=>
   ∃s:Bool,r=.returned (.bool s)/\(s=true↔yO5 ws i)/\Below w.heap.size w w':=by
 have ab:i<ws.length:=(List.getElem?_eq_some_iff.1 hi).1;have HE:Hid (yAe w b off ws):=hE;have HI:Hid (ws[i]?=some e):=hi;clear hE hi;go_enter func158,ntmps158;go_wp2;go_loopw[5] (λc wr=>∃k:Nat,i<k/\c=.int .i64 k/\yF1 ws i k/\Below w.heap.size w wr) (λc _=>ws.length-(intOf c).toNat);case atStart=>exact⟨i+1,by omega,by go_num,λj v e h1 h2=>by omega,Below.refl _ _⟩
 case round=>
  obtain⟨k,hk,rfl,a3,hb⟩:=hrel;have HS:Hid (yF1 ws i k):=a3;clear a3;have hs:=hb.size;by_cases hlt:k<ws.length
  .obtain⟨v,hv⟩:∃v,ws[k]?=some v:=⟨_,getElem?_eq_getElem hlt⟩;have HV:Hid (ws[k]?=some v):=hv;obtain⟨c0,c1,c2,c3,c4,c5⟩:=(HE.below hb hB) k v hv;obtain⟨d0,d1,d2,d3,d4,d5⟩:=(HE.below hb hB) i e HI.out;clear hv;obtain⟨W1,a0⟩:=qE (wr.alloc (Obj.cells #[.string v.row,.string v.fam,.string v.qual,.int .u64 v.ts,.int .i64 v.kind,.string v.val] 64):World);have hb1:Below wr.heap.size wr W1:=by rw[a0];exact qB
   have a9:wr.heap.size<W1.heap.size:=by rw[a0];simp
   have a4:Hid (yAe W1 wr.heap.size 0 [v]):=by
    show yAe W1 wr.heap.size 0 [v];intro j y hy;obtain rfl:j=0:=by have:=(List.getElem?_eq_some_iff.1 hy).1;simpa using this
    simp at hy;subst hy;rw[a0];simp
   have zi:(i:Int)<(ws.length:Int):=by omega
   go_upto_region 5 with fail;rw[<-a0];clear a0 c0 c1 c2 c3 c4 c5 d0 d1 d2 d3 d4 d5;obtain⟨c0,c1,c2,c3,c4,c5⟩:=a4.out 0 v rfl;obtain⟨d0,d1,d2,d3,d4,d5⟩:=((HE.below hb hB).below hb1 (by omega)) i e HI.out;simp only[Nat.zero_add,Nat.zero_mul]at c0 c1 c2 c3 c4 c5;go_cut[24] (λs wx=>s=.bool (yAm v e)/\Below W1.heap.size W1 wx);case first=>
    go_region_with (go_at_call 102;refine(yB1 v e _).mono ?_;rintro e' w' ⟨rfl,a7⟩);all_goals go_wp2_with fail
    all_goals go_meet
    all_goals exact⟨rfl,((Below.refl _ _).drew).trans (a7.mono (by simp))⟩
   case rest=>
   obtain⟨rfl,h3⟩:=hcut;have aa:=h3.size;have hb3:Below w.heap.size w wc:=(hb.trans (hb1.mono (by omega))).trans (h3.mono (by omega));clear c0 c1 c2 c3 c4 c5 d0 d1 d2 d3 d4 d5;obtain⟨c0,c1,c2,c3,c4,c5⟩:=(a4.below h3 (by omega)) 0 v rfl;obtain⟨d0,d1,d2,d3,d4,d5⟩:=(HE.below hb3 hB) i e HI.out;simp only[Nat.zero_add,Nat.zero_mul]at c0 c1 c2 c3 c4 c5;have fin:∀(wx:World),Below w.heap.size w wx->yA6 v e=true->(∃s:Bool,Ending.returned (.bool false)=.returned (.bool s)/\(s=true↔yO5 ws i)/\Below w.heap.size w wx):=by intro wx hx a6;refine⟨false,rfl,iffF (λh=>?_),hx⟩;have:=h k v e hk HV.out HI.out;rw[a6]at this;cases this
   have a5:Hid (∀(wx:World),Below w.heap.size w wx->yA6 v e=true->(∃s:Bool,Ending.returned (.bool false)=.returned (.bool s)/\(s=true↔yO5 ws i)/\Below w.heap.size w wx)):=fin;clear fin;cases hsc:yAm v e
   .have HN:Hid (yF1 ws i (k+1)):=yGo HS.out HV.out HI.out (by unfold yA6;rw[hsc];rfl);go_wp2_with fail;go_roundw;case rel=>exact⟨k+1,by omega,by go_num,HN.out,hb3⟩
    case measure=>go_light;simp[intOf];omega
   .cases g2:(v.kind==2)
    .have a8:(v.kind != 2)=true:=by simp at g2|-;exact g2
     cases ge:(v.ts==e.ts)
     .exact xA4
     .have HK:Hid (yA6 v e=true):=by show yA6 v e=true;unfold yA6;rw[hsc,g2];simpa using ge
      go_upto_region 6 with fail;go_quiet (fail);go_upto_region 8 with fail;go_quiet (fail);go_wp2_with fail;go_ret;exact a5.out _ (below_drewN (below_drewN hb3 _) _) HK.out
    .have a8:(v.kind != 2)=false:=by simp at g2|-;exact g2
     by_cases ge:e.ts<=v.ts
     .have HK:Hid (yA6 v e=true):=by show yA6 v e=true;unfold yA6;rw[hsc,g2];simpa using ge
      go_upto_region 6 with fail;go_quiet (fail);go_wp2_with fail;go_ret;exact a5.out _ (below_drewN hb3 _) HK.out
     .exact xA4
  .go_wp2_with fail;go_ret;refine⟨true,rfl,iffT (λj v e h1 h2 h3=>?_),hb⟩;have:=(List.getElem?_eq_some_iff.1 h2).1;exact HS.out j v e h1 (by omega) h2 h3
theorem yFr(b off cap:Nat)(es:List Ent)(w:World)(hE:yAe w b off es)(hok:∀e∈es,e.ok)(hB:b<w.heap.size)(hlen:es.length<=1048576):
  Calls prog 95 #[.slice (some ⟨b,off,none⟩) es.length cap] w λe w'=>
   ∃r:Bool,e=.returned (.bool r)/\(r=true↔yEt es)/\Below w.heap.size w w':=by
 have HE:Hid (yAe w b off es):=hE;have HO:Hid (∀e∈es,e.ok):=hok;clear hE hok;by_cases hbig:10000<es.length
 .have H:Hid (¬yEt es):=λh=>by have:=h.1;omega
  go_enter func95,ntmps95;go_wp2;go_ret;exact⟨_,rfl,iffF H.out,Below.refl _ _⟩
 go_enter func95,ntmps95;go_wp2;go_loopw[3] (λi wr=>∃(k:Nat),k<=es.length/\i=.int .i64 k/\(∀x∈es.take k,x.vld=true)/\Below w.heap.size w wr) (λi _=>es.length-(intOf i).toNat);case atStart=>exact⟨0,zero_le _,rfl,by simp,Below.refl _ _⟩
 case round=>
  obtain⟨k,hk,rfl,hv,hb⟩:=hrel;have HV:Hid (∀x∈es.take k,x.vld=true):=hv;clear hv;by_cases hlt:k<es.length
  .obtain⟨e,he⟩:∃e,es[k]?=some e:=⟨_,getElem?_eq_getElem hlt⟩;obtain⟨c0,c1,c2,c3,c4,c5⟩:=(HE.below hb hB) k e he;have HK:Hid (e.ok/\es[k]?=some e):=⟨HO.out e (mem_of_getElem? he),he⟩;clear he;go_wp2_with fail;refine(yF5 e.row e.fam e.qual e.val e.ts e.kind _ HK.1.row HK.1.fam HK.1.qual HK.1.val).mono ?_;rintro e' w1 ⟨rfl,hb1⟩;have hb2:=hb.trans (hb1.mono hb.size);clear c0 c1 c2 c3 c4 c5 hb1;cases hv:vE e.row e.fam e.qual e.kind e.val
   .exact xAl
   .have H:Hid (∀x∈es.take (k+1),x.vld=true):=yF9 HV.out HK.2 hv;exact xBc
  .go_wp2;go_ret;refine⟨_,rfl,iffT ⟨by omega,λe he=>?_⟩,hb⟩;have:=HV.out;rw[take_of_length_le (by omega)]at this;exact this e he
theorem yDw{a b:ByteArray}(h:a.toList=b.toList):a=b:=by
 rw[ByteArray.toList_eq,ByteArray.toList_eq]at h;cases a;cases b
 simp at h;simpa using h
theorem yAz{a b:Ent}:yAm a b=true↔a.row=b.row/\a.fam=b.fam/\a.qual=b.qual:=by
 unfold yAm;simp only[Bool.and_eq_true,beq_iff_eq];constructor
 .rintro⟨h1,h2,h3⟩;exact⟨yDw h1,yDw h2,yDw h3⟩
 .rintro⟨h1,h2,h3⟩;rw[h1,h2,h3];exact⟨rfl,rfl,rfl⟩
theorem yNi{a b:ByteArray}(h:a.size=0)(k:b.size=0):a=b:=by
 obtain⟨⟨l⟩⟩:=a;obtain⟨⟨m⟩⟩:=b;cases l with
 |nil=>cases m with
  |nil=>rfl
  |cons y m=>simp[ByteArray.size]at k
 |cons x l=>simp[ByteArray.size]at h
theorem yTb(h:e.vld=true)(k:e.kind=2):e.val.size=0:=by unfold Ent.vld vE at h;have:=of_decide_eq_true h;omega
def yKe(ws:List Ent)(e:Ent):Prop:=∀v∈ws,v.kind=2->yAm v e=true->v.ts<=e.ts
def Keep(ws:List Ent)(i:Nat)(e:Ent):Prop:=(¬e.kind=2/\yO5 ws i)\/(e.kind=2/\yKe ws e)
def xCj(ws:List Ent)(k:Nat)(x:Ent):Prop:=∃i,i<k/\ws[i]?=some x/\Keep ws i x
def Kept(ws:List Ent)(k:Nat)(R:List Ent):Prop:=Ord R/\(∀x,x∈R↔xCj ws k x)
variable {x:Ent}
theorem yUv(hv:∀x∈ws,x.vld=true)(hik:i<k)(hx:ws[i]?=some x)(he:ws[k]?=some e)(kx:Keep ws i x)(ke:Keep ws k e)(hz:yAc x e=0):x=e:=by
 obtain⟨h1,h2,h3,h4,h5⟩:=yBw.1 hz;rcases kx with⟨hn,hs⟩|⟨y,_⟩
 .have:=hs k e x hik he hx;unfold yA6 at this;rw[yAz.2 ⟨h1.symm,h2.symm,h3.symm⟩]at this;have a3:(e.kind==2)=false:=by simp;exact λq=>hn (h4.2 q)
  rw[a3,if_neg (by simp),h5]at this;simp at this
 .have a0:=h4.1 y;have v1:=yTb (hv x (mem_of_getElem? hx)) y;have v2:=yTb (hv e (mem_of_getElem? he)) a0;obtain⟨r,f,q,t,kk,v⟩:=x;obtain⟨r',f',q',t',a4,v'⟩:=e;simp only at*;subst h1 h2 h3 h5 y a0;rw[yNi v1 v2]
theorem yUt(ws:List Ent):Kept ws 0 []:=⟨List.Pairwise.nil,λx=>⟨λh=>by simp at h,fun⟨i,hi,_⟩=>by omega⟩⟩
theorem yOa{R:List Ent}(h:Kept ws k R)(he:ws[k]?=some e)(hk:¬Keep ws k e):Kept ws (k+1) R:=by
 refine⟨h.1,λx=>(h.2 x).trans ⟨fun⟨i,hi,h1,h2⟩=>⟨i,by omega,h1,h2⟩,fun⟨i,hi,h1,h2⟩=>?_⟩⟩;by_cases hik:i=k
 .subst hik;rw[he]at h1;simp at h1;subst h1;exact absurd h2 hk
 .exact⟨i,by omega,h1,h2⟩
theorem yO(hv:∀x∈ws,x.vld=true){R:List Ent}(h:Kept ws k R)(he:ws[k]?=some e)(hk:Keep ws k e):Kept ws (k+1) (into R e):=by
 obtain⟨h1,h2⟩:=yJx e R h.1;refine⟨h1,λx=>(h2 x).trans ⟨?_,?_⟩⟩
 .rintro(rfl|⟨hx,_⟩)
  .exact⟨k,by omega,he,hk⟩
  .obtain⟨i,hi,a,b⟩:=(h.2 x).1 hx;exact⟨i,by omega,a,b⟩
 .rintro⟨i,hi,a,b⟩;by_cases hik:i=k
  .subst hik;rw[he]at a;simp at a;exact .inl a.symm
  .by_cases hz:yAc x e=0
   .exact .inl (yUv hv (by omega) a he b hk hz)
   .exact .inr ⟨(h.2 x).2 ⟨i,by omega,a,b⟩,hz⟩
theorem yPv(L:List Ent)(e:Ent):(into L e).length<=L.length+1:=yEh e L false
def hit(x e:Ent):Bool:=yAm x e && ((x.ts==e.ts) || ((e.kind==2) && decide (x.ts<=e.ts)))
theorem yNo(a b:Ent):yAm a b=yAm b a:=by rw[Bool.eq_iff_iff,yAz,yAz];constructor<;>rintro⟨h1,h2,h3⟩<;>exact⟨h1.symm,h2.symm,h3.symm⟩
theorem yR2(h:yA3 p e=true):yAc p e= -1:=by
 unfold yA3 at h;simp only[Bool.and_eq_true,decide_eq_true_eq,Bool.not_eq_true',beq_iff_eq]at h
 first
  |exact h.1
  |exact h.2
  |(have h1:=h.1;have h2:=h.2;rcases yBe p e with q|q|q<;>simp_all)
theorem yK1:∀(l:List Ent),(∀i p e,l[i]?=some p->l[i+1]?=some e->yAc p e= -1)->Ord l
 | [],_=>List.Pairwise.nil
 | [a],_=>by simp[Ord]
 |a::b::r,h=>by
  have ih:=yK1 (b::r) (λi p e h1 h2=>h (i+1) p e (by simpa using h1) (by simpa using h2))
  have hab:yAc a b= -1:=h 0 a b rfl rfl
  refine List.pairwise_cons.2 ⟨λx hx=>?_,ih⟩
  rcases mem_cons.1 hx with rfl|hx
  .exact hab
  .exact yDa hab ((List.pairwise_cons.1 ih).1 x hx)
theorem yB8(h:yAp es):Ord es:=yK1 es (λi p e h1 h2=>yR2 (h.2 i p e h1 h2))
variable {j:Nat}
theorem yJo{l:List Ent}(h:Ord l){y:Ent}(hij:i<j)(hx:l[i]?=some x)(hy:l[j]?=some y):yAc x y= -1:=by obtain⟨h1,rfl⟩:=List.getElem?_eq_some_iff.1 hx;obtain⟨h2,rfl⟩:=List.getElem?_eq_some_iff.1 hy;exact List.pairwise_iff_getElem.1 h i j h1 h2 hij
def yAl(rs:List (List Ent)):Prop:=rs.length<=50/\∀es∈rs,yAp es
def At(rs:List (List Ent))(i j:Nat)(x:Ent):Prop:=∃es,rs[i]?=some es/\es[j]?=some x
def yGh(rs:List (List Ent))(k:Nat)(x:Ent):Prop:=∃m ds d,m<k/\rs[m]?=some ds/\d∈ds/\yA6 d x=true
def Good(rs:List (List Ent))(inr:ByteArray->Bool)(i:Nat)(x:Ent):Prop:=x.kind=0/\inr x.row=true/\¬yGh rs i x
def yFh(rs:List (List Ent))(inr:ByteArray->Bool)(i j:Nat)(L:List Ent):Prop:=
 Ord L/\∀x,x∈L↔∃i' j',(i'<i\/(i'=i/\j'<j))/\At rs i' j' x/\Good rs inr i' x
def Mrg(rs:List (List Ent))(inr:ByteArray->Bool)(L:List Ent):Prop:=Ord L/\∀x,x∈L↔∃i j,At rs i j x/\Good rs inr i x
def yBo(rs:List (List Ent))(inr:ByteArray->Bool)(L:List Ent):Prop:=(yAl rs->Mrg rs inr L)/\(¬yAl rs->L= [])
variable {rs:List (List Ent)} {inr:ByteArray->Bool} {L:List Ent}
theorem yK4{M:List Ent}(h:yBo rs inr L)(k:yBo rs inr M):L=M:=by
 by_cases g:yAl rs
 .exact yMc (h.1 g).1 (k.1 g).1 (λx=>((h.1 g).2 x).trans ((k.1 g).2 x).symm)
 .rw[h.2 g,k.2 g]
theorem yR5(rs:List (List Ent))(inr:ByteArray->Bool):yFh rs inr 0 0 []:=
 ⟨List.Pairwise.nil,λx=>⟨λh=>by simp at h,fun⟨i,j,h,_⟩=>by omega⟩⟩
theorem yUa(h:yFh rs inr i j L)(he:rs[i]?=some es)(hj:es.length<=j):yFh rs inr (i+1) 0 L:=by
 refine⟨h.1,λx=>(h.2 x).trans ⟨?_,?_⟩⟩
 .rintro⟨i',j',hp,ha,hg⟩;exact⟨i',j',by omega,ha,hg⟩
 .rintro⟨i',j',hp,⟨fs,h1,h2⟩,hg⟩;refine⟨i',j',?_,⟨fs,h1,h2⟩,hg⟩;by_cases hii:i'=i
  .subst hii;rw[he]at h1;simp at h1;subst h1;have:=(List.getElem?_eq_some_iff.1 h2).1;omega
  .omega
theorem yHu(h:yFh rs inr i j L)(he:At rs i j e)(hn:¬Good rs inr i e):yFh rs inr i (j+1) L:=by
 refine⟨h.1,λx=>(h.2 x).trans ⟨?_,?_⟩⟩
 .rintro⟨i',j',hp,ha,hg⟩;exact⟨i',j',by omega,ha,hg⟩
 .rintro⟨i',j',hp,ha,hg⟩;refine⟨i',j',?_,ha,hg⟩;by_cases hq:i'=i/\j'=j
  .obtain⟨rfl,rfl⟩:=hq;obtain⟨es,h1,h2⟩:=he;obtain⟨fs,h3,h4⟩:=ha;rw[h1]at h3;simp at h3;subst h3;rw[h2]at h4;simp at h4;subst h4;exact absurd hg hn
  .omega
theorem yUb(hG:yAl rs)(h:yFh rs inr i j L)(he:At rs i j e)(hg:Good rs inr i e):yFh rs inr i (j+1) (into L e):=by
 obtain⟨h1,h2⟩:=yJx e L h.1;have uniq:∀x i' j',(i'<i\/(i'=i/\j'<j))->At rs i' j' x->Good rs inr i' x->yAc x e≠0:=by
  rintro x i' j' hp ⟨fs,a1,a2⟩ hx hz;rcases hp with hp|⟨rfl,hp⟩
  .exact hg.2.2 ⟨i',fs,x,hp,a1,mem_of_getElem? a2,by
    obtain⟨k1,k2,k3,k4,k5⟩:=yBw.1 hz
    unfold yA6
    have hk:¬x.kind=2:=by have:=hx.1;omega
    simp[yAz,hk,k1,k2,k3,k5]⟩
  .obtain⟨es,b1,b2⟩:=he;rw[b1]at a1;simp at a1;subst a1;have:=yJo (yB8 (hG.2 es (mem_of_getElem? b1))) hp a2 b2;omega
 refine⟨h1,λx=>(h2 x).trans ⟨?_,?_⟩⟩
 .rintro(rfl|⟨hx,_⟩)
  .exact⟨i,j,by omega,he,hg⟩
  .obtain⟨i',j',hp,ha,y⟩:=(h.2 x).1 hx;exact⟨i',j',by omega,ha,y⟩
 .rintro⟨i',j',hp,ha,y⟩;by_cases hq:i'=i/\j'=j
  .obtain⟨rfl,rfl⟩:=hq;obtain⟨es,a1,a2⟩:=he;obtain⟨fs,a3,a4⟩:=ha;rw[a1]at a3;simp at a3;subst a3;rw[a2]at a4;simp at a4;exact .inl a4.symm
  .have a0:i'<i\/(i'=i/\j'<j):=by omega
   exact .inr ⟨(h.2 x).2 ⟨i',j',a0,ha,y⟩,uniq x i' j' a0 ha y⟩
theorem yU(h:yFh rs inr i j L)(hi:rs.length<=i):Mrg rs inr L:=by
 refine⟨h.1,λx=>(h.2 x).trans ⟨?_,?_⟩⟩
 .rintro⟨i',j',hp,ha,hg⟩;exact⟨i',j',ha,hg⟩
 .rintro⟨i',j',⟨es,h1,h2⟩,hg⟩;have:=(List.getElem?_eq_some_iff.1 h1).1;exact⟨i',j',by omega,⟨es,h1,h2⟩,hg⟩
theorem yLc(rs:List (List Ent))(x:Ent):¬yGh rs 0 x:=fun⟨m,_,_,h,_⟩=>by omega
theorem ySd{ds:List Ent}(hd:rs[k]?=some ds):yGh rs (k+1) x↔yGh rs k x\/∃d∈ds,yA6 d x=true:=by
 constructor
 .rintro⟨m,es,d,h1,h2,h3,h4⟩;by_cases hm:m=k
  .subst hm;rw[hd]at h2;simp at h2;subst h2;exact .inr ⟨d,h3,h4⟩
  .exact .inl ⟨m,es,d,by omega,h2,h3,h4⟩
 .rintro(⟨m,es,d,h1,h2,h3,h4⟩|⟨d,h3,h4⟩)
  .exact⟨m,es,d,by omega,h2,h3,h4⟩
  .exact⟨k,ds,d,by omega,hd,h3,h4⟩
theorem yUc(h:yFh rs inr i j L):∀x∈L,x∈rs.flatten:=by intro x hx;obtain⟨i',j',_,⟨es,h1,h2⟩,_⟩:=(h.2 x).1 hx;exact List.mem_flatten.2 ⟨es,mem_of_getElem? h1,mem_of_getElem? h2⟩
theorem yMe(h:Mrg rs inr L):∀x∈L,x∈rs.flatten:=by intro x hx;obtain⟨i',j',⟨es,h1,h2⟩,_⟩:=(h.2 x).1 hx;exact List.mem_flatten.2 ⟨es,mem_of_getElem? h1,mem_of_getElem? h2⟩
theorem yT7(h:(yAc p e != -1)=true):yA3 p e=false:=by unfold yA3;simp at h;simp[h]
theorem yT6(h:(yAc p e != -1)=false)(h2:(p.kind==2)=false):yA3 p e=true:=by unfold yA3;simp at h;simp[h,h2]
theorem yT5(h:(yAc p e != -1)=false)(h2:(e.kind==2)=false):yA3 p e=true:=by unfold yA3;simp at h;simp[h,h2]
theorem yQv(h:(yAc p e != -1)=false)(h2:(p.kind==2)=true)(h3:(e.kind==2)=true):yA3 p e= !yAm p e:=by unfold yA3;simp at h;simp[h,h2,h3]
theorem yTz(p e:Ent):
  ((yAc p e != -1)=true/\yA3 p e=false)\/((yAc p e != -1)=false/\(p.kind==2)=false/\yA3 p e=true)\/
  ((yAc p e != -1)=false/\(p.kind==2)=true/\(e.kind==2)=false/\yA3 p e=true)\/
  ((yAc p e != -1)=false/\(p.kind==2)=true/\(e.kind==2)=true/\yAm p e=true/\yA3 p e=false)\/
  ((yAc p e != -1)=false/\(p.kind==2)=true/\(e.kind==2)=true/\yAm p e=false/\yA3 p e=true):=by
 cases h1:(yAc p e != -1)
 .cases h2:(p.kind==2)
  .exact .inr (.inl ⟨rfl,rfl,yT6 h1 h2⟩)
  .cases h3:(e.kind==2)
   .exact .inr (.inr (.inl ⟨rfl,rfl,rfl,yT5 h1 h3⟩))
   .cases h4:yAm p e
    .exact .inr (.inr (.inr (.inr ⟨rfl,rfl,rfl,rfl,by rw[yQv h1 h2 h3,h4];rfl⟩)))
    .exact .inr (.inr (.inr (.inl ⟨rfl,rfl,rfl,rfl,by rw[yQv h1 h2 h3,h4];rfl⟩)))
 .exact .inl ⟨rfl,yT7 h1⟩
theorem yCx(b off cap:Nat)(es:List Ent)(w:World)(hE:yAe w b off es)(hok:∀e∈es,e.ok)(hB:b<w.heap.size)(hlen:es.length<=cap)(hcap:cap<=maxLen):
  Calls prog 54 #[.agg #[.slice (some ⟨b,off,none⟩) es.length cap]] w λe w'=>
   ∃r:Bool,e=.returned (.bool r)/\(r=true↔yAp es)/\Below w.heap.size w w':=by
 obtain⟨W0,a0⟩:=qE (w.alloc (Obj.cells #[.slice (some ⟨b,off,none⟩) es.length cap] 60):World);have y:Below w.heap.size w W0:=by rw[a0];exact qB
 have aa:w.heap.size<W0.heap.size:=by rw[a0];simp
 have ca:W0.cell? ⟨w.heap.size,0,none⟩=some (.slice (some ⟨b,off,none⟩) es.length cap):=by rw[a0];simp
 have HE:Hid (yAe W0 b off es):=hE.below y hB;have HO:Hid (∀e∈es,e.ok):=hok;clear hE hok;unfold maxLen at hcap;by_cases hbig:10000<es.length
 .have H:Hid (¬yAp es):=λh=>by have:=h.1.1;omega
  go_enter func54,ntmps54;go_wp2;go_ret;exact⟨_,rfl,iffF H.out,qB⟩
 go_enter func54,ntmps54;go_wp2_with fail;rw[<-a0];clear a0;go_loopw[3] (λi wr=>∃(k:Nat),k<=es.length/\i=.int .i64 k/\(∀x∈es.take k,x.vld=true)/\yCt es k/\Below W0.heap.size W0 wr) (λi _=>es.length-(intOf i).toNat);case atStart=>exact⟨0,zero_le _,rfl,by simp,λi p e hi=>by omega,Below.refl _ _⟩
 case round=>
  obtain⟨k,hk,rfl,hv,hP,hb⟩:=hrel;have HV:Hid ((∀x∈es.take k,x.vld=true)/\yCt es k):=⟨hv,hP⟩;clear hv hP;have ab:=hb.size;have a7:wr.cell? ⟨w.heap.size,0,none⟩=some (.slice (some ⟨b,off,none⟩) es.length cap):=by rw[hb.cell (p:=⟨w.heap.size,0,none⟩) (by show w.heap.size<_;omega)];exact ca
  by_cases hlt:k<es.length
  .obtain⟨e,he⟩:∃e,es[k]?=some e:=⟨_,getElem?_eq_getElem hlt⟩;have a5:=HE.below hb (by omega);obtain⟨c0,c1,c2,c3,c4,c5⟩:=a5 k e he;have HK:Hid (e.ok/\es[k]?=some e/\yAe wr b off es):=⟨HO.out e (mem_of_getElem? he),he,a5⟩;clear he a5;go_wp2_with fail;refine(yF5 e.row e.fam e.qual e.val e.ts e.kind _ HK.1.row HK.1.fam HK.1.qual HK.1.val).mono ?_;rintro e' w1 ⟨rfl,hb1⟩;obtain⟨af,ad⟩:=ySy hb1;have a9:wr.heap.size<w1.heap.size:=by have:=hb1.size;simp at this;omega
   have hb2:=(hb.alloc hb.size (Obj.cells #[.string e.row,.string e.fam,.string e.qual,.int .u64 e.ts,.int .i64 e.kind,.string e.val] 64)).trans (hb1.mono (by simp;omega));clear c0 c1 c2 c3 c4 c5;cases hv:vE e.row e.fam e.qual e.kind e.val
   .have H:Hid (¬yAp es):=λh=>by have:=h.1.2 e (mem_of_getElem? HK.2.1);unfold Ent.vld at this;rw[hv]at this;cases this
    go_wp2_with fail;go_ret;exact⟨_,rfl,iffF H.out,y.trans (hb2.mono (by omega))⟩
   .have H:Hid (∀x∈es.take (k+1),x.vld=true):=yF9 HV.1 HK.2.1 hv;by_cases hk0:k=0
    .subst hk0;go_wp2_with fail;go_roundw;case rel=>exact⟨0+1,by omega,by go_num,H.out,λi p e hi=>by omega,hb2⟩
     case measure=>simp[intOf];omega
    .obtain⟨m,rfl⟩:∃m,k=m+1:=⟨k-1,by omega⟩;obtain⟨p,hp⟩:∃e,es[m]?=some e:=⟨_,getElem?_eq_getElem (by omega)⟩;have a6:Below wr.heap.size wr w1:=((Below.refl _ _).alloc (Nat.le_refl _) (Obj.cells #[.string e.row,.string e.fam,.string e.qual,.int .u64 e.ts,.int .i64 e.kind,.string e.val] 64)).trans (hb1.mono (by simp));have ag:w1.cell? ⟨w.heap.size,0,none⟩=some (.slice (some ⟨b,off,none⟩) es.length cap):=by rw[a6.cell (p:=⟨w.heap.size,0,none⟩) (by show w.heap.size<_;omega)];exact a7
     obtain⟨d0,d1,d2,d3,d4,d5⟩:=HK.2.2.below a6 (by omega) m p hp;have HKp:Hid (es[m]?=some p):=hp;clear hp;have hw:IntKind.i64.wrap (m:Int)=(m:Int):=Go.IntWalk.i64_in _ (by omega);go_wp2_with fail;refine(yDy p e _).mono ?_;rintro e' w2 ⟨rfl,hb3⟩;obtain⟨ae,ac⟩:=ySy hb3;have a8:w1.heap.size<w2.heap.size:=by have:=hb3.size;simp at this;omega
     have hb4:=(hb2.alloc hb2.size (Obj.cells #[.string p.row,.string p.fam,.string p.qual,.int .u64 p.ts,.int .i64 p.kind,.string p.val] 64)).trans (hb3.mono (by have:=hb2.size;simp;omega));clear d0 d1 d2 d3 d4 d5;rcases yTz p e with⟨g1,ho⟩|⟨g1,g2,ho⟩|⟨g1,g2,g3,ho⟩|⟨g1,g2,g3,g4,ho⟩|⟨g1,g2,g3,g4,ho⟩
     .have H2:Hid (¬yAp es):=λh=>by have:=h.2 m p e HKp.out HK.2.1;rw[ho]at this;cases this
      go_wp2_with fail;go_ret;exact⟨_,rfl,iffF H2.out,y.trans (hb4.mono (by omega))⟩
     .exact xAo
     .exact xAo
     .have H2:Hid (¬yAp es):=λh=>by have:=h.2 m p e HKp.out HK.2.1;rw[ho]at this;cases this
      go_wp2_with fail;refine(yB1 p e _).mono ?_;rintro e' w3 ⟨rfl,a4⟩;have a3:=hb4.trans (a4.mono hb4.size);go_wp2_with fail;go_ret;exact⟨_,rfl,iffF H2.out,y.trans (a3.mono (by omega))⟩
     .have H2:Hid (yCt es (m+1+1)):=yEg HV.2 HKp.out HK.2.1 ho;go_wp2_with fail;refine(yB1 p e _).mono ?_;rintro e' w3 ⟨rfl,a4⟩;have a3:=hb4.trans (a4.mono hb4.size);go_wp2_with fail;go_roundw;case rel=>exact⟨m+1+1,by omega,by go_num,H.out,H2.out,a3⟩
      case measure=>simp[intOf];omega
  .go_wp2_with fail;go_ret;refine⟨_,rfl,iffT ⟨⟨by omega,λe he=>?_⟩,yGc HV.2 (by omega)⟩,y.trans (hb.mono (by omega))⟩;have:=HV.1;rw[take_of_length_le (by omega)]at this;exact this e he
structure Out(w:World) where
 u:World
 out:Below w.heap.size w u
theorem yAf{id:Nat}{Q:Exit->Act->World->Prop}{a:Act}{l:List Oper}(hm:prog.follows .mixedOrders=true)(hB:Region.lexB .any l.toArray=true)
  (h:wpQuiet prog l.toArray (λw'=>∃n:Out w,w'=n.u) (λa'=>∀w',(∃n:Out w,w'=n.u)->Q .normal a' w') l a):(Code.region id l.toArray true).wp prog Q a w:=
 wp_region_quiet (C:=λw'=>∃n:Out w,w'=n.u) hm hB ⟨⟨_,(Below.refl _ _).drew⟩,rfl⟩ (by simpa using h)
theorem Calls.out_of{f:FuncId}{args:Array Value}{n:Out w}{v:Value}
  (h:Calls prog f args n.u λe w'=>e=.returned v/\Below n.u.heap.size n.u w'):Calls prog f args n.u λe w''=>e=.returned v/\∃m:Out w,w''=m.u:=
 h.mono λ_ w' ⟨he,hb⟩=>⟨he,⟨w',n.out.trans (hb.mono n.out.size)⟩,rfl⟩
theorem yFz{b off:Nat}(h:yAe w b off L)(hb:b<w.heap.size)(hx:L[j]?=some x):
  (∀n:Out w,n.u.cell? ⟨b,off+j*6,none⟩=some (.string x.row))/\(∀n:Out w,n.u.cell? ⟨b,off+j*6+1,none⟩=some (.string x.fam))/\(∀n:Out w,n.u.cell? ⟨b,off+j*6+2,none⟩=some (.string x.qual))/\
  (∀n:Out w,n.u.cell? ⟨b,off+j*6+3,none⟩=some (.int .u64 x.ts))/\(∀n:Out w,n.u.cell? ⟨b,off+j*6+4,none⟩=some (.int .i64 x.kind))/\(∀n:Out w,n.u.cell? ⟨b,off+j*6+5,none⟩=some (.string x.val)):=
 ⟨λn=>(h.below n.out hb j x hx).1,λn=>(h.below n.out hb j x hx).2.1,λn=>(h.below n.out hb j x hx).2.2.1,λn=>(h.below n.out hb j x hx).2.2.2.1,λn=>(h.below n.out hb j x hx).2.2.2.2.1,λn=>(h.below n.out hb j x hx).2.2.2.2.2⟩
def inR(lo:ByteArray)(hh:Bool)(hi row:ByteArray):Bool:= !Op.bytesLess row.toList lo.toList && (!hh || Op.bytesLess row.toList hi.toList)
theorem yDi(lo hi row:ByteArray)(hh:Bool)(w:World):
  Calls prog 22 #[.agg #[.string lo,.bool hh,.string hi],.string row] w λe w'=>
   e=.returned (.bool (inR lo hh hi row))/\Below w.heap.size w w':=by
 unfold inR;cases hb:Op.bytesLess row.toList lo.toList<;>cases hh
 all_goals
  go_enter func22,ntmps22
  go_wp2
  go_ret
  exact⟨by simp,qB⟩
theorem yB3(h:Below w.heap.size w w')(r:Option Nat):w.grownBy w' r:=⟨h.os,h.tape,h.output,h.size,λk hk _=>h.block k hk⟩
theorem yAk(w:World)(g o:Nat)(u:Value):w.grownBy (w.setCell ⟨g,o,none⟩ u) (some g):=by have h:Below g w (w.setCell ⟨g,o,none⟩ u):=(Below.refl g w).setCell (Nat.le_refl _) u;exact⟨h.os,h.tape,h.output,h.size,λk hk hne=>Below.heap_setCell w ⟨g,o,none⟩ u k (λe=>hne (by rw[e]))⟩
theorem OwnE.setNe(h:OwnE w base g cap es)(g' k:Nat)(u:Value)(hne:g≠g'):OwnE (w.setCell ⟨g',k,none⟩ u) base g cap es:=
 World.ownsRow.kept h (yAk w g' k u) (.inr (λq=>hne (Option.some.inj q)))
theorem Tryz.infoRun:(prog.info? 60).map (λi=>(i.zero,i.size,i.bytes))=some (some (.agg #[.slice none 0 0]),1,24):=by kernel_rfl
abbrev Pr:=ByteArray×Value
def yAs(xs:List Pr):List Value:=xs.flatMap λp=> [.string p.1,p.2]
theorem yD4(e:Pr)(es:List Pr):yAs (e::es)= [.string e.1,e.2]++yAs es:=by simp[yAs]
theorem yG9(es fs:List Pr):yAs (es++fs)=yAs es++yAs fs:=by simp[yAs]
theorem yE9(es:List Pr):(yAs es).length=es.length*2:=by
 induction es with
 |nil=>rfl
 |cons e es ih=>rw[yD4,length_append,ih];simp;omega
theorem yLm(es:List Pr):∀(k:Nat)(e:Pr),es[k]?=some e->∀j,j<2->(yAs es)[k*2+j]?= [Value.string e.1,e.2][j]?:=by
 induction es with
 |nil=>intro k e h;simp at h
 |cons f es ih=>
  intro k e h j hj;rw[yD4];cases k with
  |zero=>
   simp at h;subst h;rw[getElem?_append_left (by show 0*2+j<2;omega)];simp
  |succ k=>
   simp at h;rw[getElem?_append_right (by show 2<=(k+1)*2+j;omega)];have:(k+1)*2+j- [Value.string f.1,f.2].length=k*2+j:=by show(k+1)*2+j-2=_;omega
   rw[this];exact ih k e h j hj
theorem ySt(es:List Pr):∀(k:Nat)(e e':Pr)(u:Value)(j:Nat),es[k]?=some e->j<2-> [Value.string e'.1,e'.2]= [Value.string e.1,e.2].set j u->(yAs es).set (k*2+j) u=yAs (es.set k e'):=by
 induction es with
 |nil=>intro k e e' u j h;simp at h
 |cons f es ih=>
  intro k e e' u j h hj hc;rw[yD4];cases k with
  |zero=>
   simp at h;subst h;rw[set_append_left _ _ (by show 0*2+j<2;omega),set_cons_zero,yD4,hc];simp
  |succ k=>
   simp at h;rw[set_append_right _ _ (by show 2<=(k+1)*2+j;omega),set_cons_succ,yD4];have:(k+1)*2+j- [Value.string f.1,f.2].length=k*2+j:=by show(k+1)*2+j-2=_;omega
   rw[this,ih k e e' u j h hj hc]
def OwnP(w:World)(base g cap:Nat)(xs:List Pr):Prop:=w.ownsRow base 56 2 (.slice (some ⟨g,0,none⟩) xs.length cap) xs.length (yAs xs)
variable {xs:List Pr}
theorem OwnP.cells(h:OwnP w base g cap xs){p:Pr}(hp:xs[i]?=some p):w.cell? ⟨g,i*2,none⟩=some (.string p.1)/\w.cell? ⟨g,i*2+1,none⟩=some p.2:=by
 have hi:i<xs.length:=(List.getElem?_eq_some_iff.1 hp).1;have c:=λj (hj:j<2)=>(World.ownsRow.cellAt h (i*2+j) (by omega)).trans (yLm xs i p hp j hj);refine⟨?_,?_⟩
 .simpa using c 0 (by omega)
 .simpa using c 1 (by omega)
theorem OwnP.lt(h:OwnP w base g cap xs):base<=g/\g<w.heap.size:=World.ownsRow.lt h g rfl
theorem OwnP.below(h:OwnP w base g cap xs)(hb:Below B w w')(hg:g<B):OwnP w' base g cap xs:=by exact yS8
theorem OwnP.set(h:OwnP w base g cap xs)(k j:Nat)(e e':Pr)(u:Value)(hk:xs[k]?=some e)(hj:j<2)(hc: [Value.string e'.1,e'.2]= [Value.string e.1,e.2].set j u):
  OwnP (w.setCell ⟨g,k*2+j,none⟩ u) base g cap (xs.set k e'):=by
 have:=(World.ownsRow.stored h (k*2+j) u).1;rw[ySt xs k e e' u j hk hj hc]at this;unfold OwnP;rw[length_set];exact this
theorem OwnP.mono{base':Nat}(h:OwnP w base g cap xs)(hb:base'<=base):OwnP w base' g cap xs:=by exact yM5
theorem Tryz.infoTab:(prog.info? 56).map (λi=>(i.zero,i.size,i.bytes))=some (some (.agg #[.string ⟨#[]⟩,.slice none 0 0]),2,40):=by kernel_rfl
end Go.Proofs.YtehfleefkdojpaaGreatDoor
