import Derived.Test.YtgnpcenpcmdlfaaGreatDoorWkAA
import Derived.Test.YtgnpcenpcmdlfaaGreatDoorWkAM
import Derived.Test.YtgnpcenpcmdlfaaGreatDoorWkAC
import Derived.Deep.DeepCutAuto
import Derived.Deep.RegionWith
import Derived.Test.YtgnpcenpcmdlfaaGreatDoorWkAJ
import Derived.Test.YtgnpcenpcmdlfaaGreatDoorWkAD
import Derived.OwnWalk
import Derived.Test.YtgnpcenpcmdlfaaGreatDoorWkAI
namespace Go.Proofs.YtgnpcenpcmdlfaaGreatDoor
open Go.ChangeShapes Go.WideShapes Go.ChangeAt Go.RowKit Go.Deep
set_option linter.unusedVariables false
set_option linter.unusedSimpArgs false
set_option maxRecDepth 100000
def Ers {α β:Type} (A:α→PR β→Prop):Prop:=∀s e,A s (.error e)→1≤e.1
theorem ers_bind {α β γ:Type} {A:α→PR β→Prop} {B:β→PR γ→Prop} (hA:Ers A) (hB:Ers B):Ers (bindR A B):=by
 intro s e h
 rcases h with⟨e2,h1,q⟩|⟨s2,h1,h2⟩
 ·cases q;exact hA s e h1
 ·exact hB s2 e h2
theorem take_ers {ks:List Tk} {e:PE} (h:takeF ks=.error e):1≤e.1:=by
 unfold takeF at h
 split at h
 ·cases h;simp
 ·cases h
theorem exp_ers {b:UInt8} {ks:List Tk} {e:PE} (h:expectF b ks=.error e):1≤e.1:=by
 unfold expectF at h
 split at h
 ·exact take_ers h
 ·cases h;simp
theorem to_ers {s:Ps} {r:PR (List Tk)} {e:PE} (h:s.to r=.error e):r=.error e:=by
 cases r with
 |error q=>cases h;rfl
 |ok q=>cases h
theorem ers_expect (b:UInt8):Ers (fnR fun s:Ps=>s.to (expectF b s.ks)):=fun s e h=>exp_ers (to_ers (Eq.symm h))
theorem ers_maker:Ers (fnR makerF):=by
 intro s e h
 have h':Except.error e=makerF s:=h
 unfold makerF at h'
 split at h'
 ·exact take_ers (to_ers h'.symm)
 ·cases h';simp
theorem ers_enter (d:Nat):Ers (fnR (enterF d)):=by
 intro s e h
 have h':Except.error e=enterF d s:=h
 unfold enterF at h'
 split at h'
 ·split at h'
  ·cases h';simp
  ·exact take_ers (to_ers h'.symm)
 ·cases h';simp
theorem up_ers {k:Int} {st:Bool} {a:TkK} {ks:List Tk} {e:PE} (h:upF k st a ks=.error e):1≤e.1:=by
 unfold upF at h
 split at h
 ·exact zzQ47
 ·cases h
theorem dots_ers {k:Int} {st:Bool} {a:TkK} {ks:List Tk} {e:PE} (h:dotsF k st a ks=.error e):1≤e.1:=by
 unfold dotsF at h
 cases hq:expectF 46 ks with
 |error q=>rw[hq]at h;cases h;exact exp_ers hq
 |ok k2=>rw[hq]at h;exact up_ers h
theorem range_ers {k:Int} {st:Bool} {ks:List Tk} {e:PE} (h:rangeF k st ks=.error e):1≤e.1:=by
 unfold rangeF at h
 split at h
 ·cases hq:takeF ks with
  |error q=>rw[hq]at h;cases h;exact take_ers hq
  |ok k2=>rw[hq]at h;exact dots_ers h
 ·exact dots_ers h
theorem args_ers {k:Int} {ks:List Tk} {e:PE} (h:argsF k ks=.error e):1≤e.1:=by
 unfold argsF at h
 split at h
 ·cases h
 split at h
 ·split at h
  ·exact zzQ47
  ·cases h;simp
 split at h
 ·exact range_ers h
 split at h
 ·exact range_ers h
 split at h
 ·exact zzQ47
 ·cases h;simp
theorem ers_arg (k:Int):Ers (fnR (argF k)):=by
 intro s e h
 have h':Except.error e=argF k s:=h
 unfold argF at h'
 cases hq:argsF k s.ks with
 |error q=>rw[hq]at h';cases h';exact args_ers hq
 |ok q=>obtain⟨ks,nd⟩:=q;rw[hq]at h';cases h'
theorem ers_loop {sg:UInt8} {kd:Int} {R:Ps→PR Ps→Prop} (hR:Ers R) {s:Ps} {r:PR Ps} (h:LoopR sg kd R s r):∀e,r=.error e→1≤e.1:=by
 induction h with
 |stop _=>intro e q;cases q
 |e1 _ h1=>intro e q;cases q;exact ers_maker _ _ (Eq.symm h1)
 |e2 _ _ h2=>intro e q;cases q;exact hR _ _ h2
 |more _ _ _ _ ih=>exact ih
theorem ers_join {sg:UInt8} {kd:Int} {R:Ps→PR Ps→Prop} (hR:Ers R):Ers (JoinR sg kd R):=ers_bind hR (fun s e h=>ers_loop hR h e rfl)
theorem ers_bran {F:Ps→PR Ps→Prop} (hF:Ers F) (d:Nat):Ers (BranR F d):=ers_bind (ers_enter d) (ers_bind hF (ers_bind (ers_expect 44) (ers_bind hF (ers_bind (ers_expect 44) (ers_bind hF (ers_expect 41))))))
theorem ers_prim {F:Ps→PR Ps→Prop} (hF:Ers F) (d:Nat):Ers (PrimR F d):=by
 intro s e h
 rcases h with⟨_,h⟩|⟨hw,h⟩|⟨k,hw,_,h⟩|⟨_,_,q⟩
 ·exact ers_bind (ers_enter d) (ers_bind hF (ers_expect 41)) s e h
 ·exact ers_bind ers_maker (ers_bind (ers_bran hF d) (fun s e h=>by cases h)) s e h
 ·exact ers_bind ers_maker (ers_arg k) s e h
 ·cases q;simp
theorem ers_fil:∀d,Ers (FilR d)
 |0=>ers_join (ers_join (ers_prim (fun _ _ q=>q.elim) 0))
 |d+1=>ers_join (ers_join (ers_prim (ers_fil d) (d+1)))
def PfR (base:Nat) (t:List UInt8) (v:Value) (w':World):Prop:=∃(c a:Int) (nv:Value),v=.agg #[.int .i64 c,.int .i64 a,nv]∧
 ((4000<t.length∧c=1∧a=0∧nv=.slice none 0 0)∨
  (t.length≤4000∧∃ks,LexR t 0 ks∧((∃s1:Ps,ParR ks (.ok s1)∧c=0∧a=0∧w'.ownsRow base 65 7 nv s1.out.length (cellsN s1.out)∧s1.out.length≤200000)∨(∃p:Nat,ParR ks (.error (c,p))∧a=(p:Int)∧1≤c∧nv=.slice none 0 0))))
def PfP (t:List UInt8) (w:World) (e:Ending) (w':World):Prop:=∃v,e=.returned v∧Below w.heap.size w w'∧PfR w.heap.size t v w'
set_option maxHeartbeats 4000000 in
theorem pf_catch (base rb:Nat) (c a:Int) (older:List PanicEntry) (w:World) (hc:¬c=0) (hr:BoxAt w base 27 3 rb [.int .i64 0,.int .i64 0,.slice none 0 0]):
  CallsD Tryz.prog 23 #[.pointer (some ⟨rb,0,none⟩)] (.panicking ({v:=pfV c a,recovered:=false}::older)) w fun e u' w'=>
   e=.returned (.tuple #[])∧u'=.panicking ({v:=pfV c a,recovered:=true}::older)∧BoxAt w' base 27 3 rb [.int .i64 c,.int .i64 a,.slice none 0 0]∧Chg (fun k=>k=rb) w w':=by
 refine callsD_of_wpS Tryz.func23 rfl fun c₀ cs hu=>?_
 apply wpS_seq
 apply wpS_region
 simp[wpOpsS,go_sem,recoverD,hu,Tryz.ntmps23,Exit.thenS]
 refine(pfOf_pf c a w).mono ?_
 rintro e w1 ⟨rfl,hb1⟩
 simp[wpOpsS,go_sem]
 have ht:#[Value.pointer (some ⟨rb,0,none⟩)]++(((Array.replicate 11 undef).setIfInBounds 1 (pfV c a)).setIfInBounds 2 (Value.agg #[Value.int IntKind.i64 c,Value.int IntKind.i64 a])).setIfInBounds 0 (Value.pointer (some ⟨w1.heap.size,0,none⟩))=#[.pointer (some ⟨rb,0,none⟩),.pointer (some ⟨w1.heap.size,0,none⟩),pfV c a,.agg #[.int .i64 c,.int .i64 a],undef,undef,undef,undef,undef,undef,undef,undef]:=by rfl
 rw[ht]
 clear ht
 obtain⟨W2,hW2⟩:=qE (w1.alloc (Obj.cells #[.int .i64 c,.int .i64 a] 46):World)
 have hb2:Below w1.heap.size w1 W2:=by rw[hW2];exact qB
 have HB:Hid (BoxAt W2 base 27 3 rb [.int .i64 0,.int .i64 0,.slice none 0 0]∧Chg (fun k=>k=rb) w W2):=
  ⟨(hr.below hb1).below hb2,(Chg.of_below hb1).trans (Chg.of_below hb2)⟩
 have d0:W2.cell? ⟨w1.heap.size,0,none⟩=some (.int .i64 c):=by rw[hW2];simp
 have d1:W2.cell? ⟨w1.heap.size,1,none⟩=some (.int .i64 a):=by rw[hW2];simp
 have hrl:=(hr.below hb1).lt.2
 obtain⟨FB,hFB⟩:=qE w1.heap.size
 rw[←hW2]
 rw[←hFB]at d0 d1⊢
 have n1:¬FB=rb:=by omega
 clear hW2 hFB hb1 hb2 hr hrl
 have e0:=HB.1.cell (j:=0) rfl
 have e1:=HB.1.cell (j:=1) rfl
 have e2:=HB.1.cell (j:=2) rfl
 have f0:=HB.1.frozen 0
 have f1:=HB.1.frozen 1
 have f2:=HB.1.frozen 2
 obtain⟨W3,hW3⟩:∃V:World,V=((W2.setCell ⟨rb,0,none⟩ (.int .i64 c)).setCell ⟨rb,1,none⟩ (.int .i64 a)).setCell ⟨rb,2,none⟩ (.slice none 0 0):=⟨_,rfl⟩
 have HW3:Hid (BoxAt W3 base 27 3 rb [.int .i64 c,.int .i64 a,.slice none 0 0]∧Chg (fun k=>k=rb) w W3):=by
  rw[hW3]
  exact⟨((HB.1.set 0 (.int .i64 c)).set 1 (.int .i64 a)).set 2 (.slice none 0 0),((HB.2.trans (Chg.of_set _ rb 0 _ rfl)).trans (Chg.of_set _ rb 1 _ rfl)).trans (Chg.of_set _ rb 2 _ rfl)⟩
 refine wpS_of_wp ?_
 go_wp2_with fail
 rw[←hW3]
 exact⟨rfl,_,rfl,_,by simp[results,Tryz.results23],rfl,rfl,HW3.1,HW3.2⟩
set_option maxHeartbeats 4000000 in
theorem pf_idle (rb:Nat) (w:World):
  CallsD Tryz.prog 23 #[.pointer (some ⟨rb,0,none⟩)] .returning w fun e u' w'=>e=.returned (.tuple #[])∧u'=.returning∧Below w.heap.size w w':=by
 refine callsD_of_wpS Tryz.func23 rfl fun c₀ cs hu=>?_
 apply wpS_seq
 apply wpS_region
 simp[wpOpsS,go_sem,recoverD,hu,Tryz.ntmps23,Exit.thenS]
 refine(pfOf_nil w).mono ?_
 rintro e w1 ⟨rfl,hb1⟩
 simp[wpOpsS,go_sem]
 have ht:#[Value.pointer (some ⟨rb,0,none⟩)]++(((Array.replicate 11 undef).setIfInBounds 1 .nilIface).setIfInBounds 2 (Value.agg #[Value.int IntKind.i64 0,Value.int IntKind.i64 0])).setIfInBounds 0 (Value.pointer (some ⟨w1.heap.size,0,none⟩))=#[.pointer (some ⟨rb,0,none⟩),.pointer (some ⟨w1.heap.size,0,none⟩),.nilIface,.agg #[.int .i64 0,.int .i64 0],undef,undef,undef,undef,undef,undef,undef,undef]:=by rfl
 rw[ht]
 clear ht
 have HB:Hid (Below w.heap.size w (w1.alloc (Obj.cells #[.int .i64 0,.int .i64 0] 46))):=hb1.trans ((Below.refl _ _).alloc hb1.size _)
 clear hb1
 refine wpS_of_wp ?_
 go_wp2_with fail
 refine⟨rfl,.returning,?_,_,by simp[results,Tryz.results23],rfl,rfl,HB.out⟩
 cases c₀
 simp_all
theorem pf_res {base rb:Nat} {w:World} {a:Act} {x y:Value} {sa:Option Addr} {sn sc:Nat} (ht:a.tmps.getD 2 undef=.pointer (some ⟨rb,0,none⟩)) (hr:BoxAt w base 27 3 rb [x,y,.slice sa sn sc]):
  (results Tryz.f8 a.tmps).run Tryz.prog w=.ok (.agg #[x,y,.slice sa sn sc]) w:=by
 have p0:=hr.cell (j:=0) rfl
 have p1:=hr.cell (j:=1) rfl
 have p2:=hr.cell (j:=2) rfl
 have h1:a.tmps[2]?.getD undef=.pointer (some ⟨rb,0,none⟩):=by rw[←Array.getD_eq_getD_getElem?];exact ht
 simp[results,Tryz.results8,go_sem,h1,p0,p1,p2]
theorem pf_dies (t:List UInt8) (w wq:World) (a:Act) (c:Int) (k rb:Nat) {ks:List Tk} (hrb:w.heap.size≤rb) (hd:a.defers= [{target:=Target.fn (Fn.func 23) #[.pointer (some ⟨rb,0,none⟩)],args:=#[]}])
  (ht:a.tmps.getD 2 undef=.pointer (some ⟨rb,0,none⟩)) (hl:t.length≤4000) (hL:LexR t 0 ks) (hP:ParR ks (.error (c,k))) (hc:1≤c) (hr:BoxAt wq w.heap.size 27 3 rb [.int .i64 0,.int .i64 0,.slice none 0 0]) (hB:Below w.heap.size w wq):
  bodyPostD Tryz.prog Tryz.f8 (fun e w'=>PfP t w e w') (.panic [{v:=pfV c k,recovered:=false}]) a wq:=by
 show Leaves Tryz.prog Tryz.f8 a.tmps (fun e w'=>PfP t w e w') a.defers (.panicking [{v:=pfV c k,recovered:=false}]) wq
 rw[hd]
 refine leaves_cons (f:=23) (args:=#[.pointer (some ⟨rb,0,none⟩)]) (by simp) (by simp[go_sem]) ?_
 refine(pf_catch w.heap.size rb c k [] wq (by omega) hr).mono ?_
 rintro e u' w'' ⟨rfl,rfl,hr2,hC⟩
 show Leaves Tryz.prog Tryz.f8 a.tmps (fun e w'=>PfP t w e w') [] (settle (.panicking [{v:=pfV c k,recovered:=true}])) _
 exact⟨_,pf_res ht hr2,_,rfl,Chg.below hB hC hB.size (fun j q=>by omega),c,k,.slice none 0 0,rfl,.inr ⟨hl,ks,hL,.inr ⟨k,hP,rfl,hc,rfl⟩⟩⟩
theorem pf_done (t:List UInt8) (w wq:World) (a:Act) (rb:Nat) {ks:List Tk} {s1:Ps} {sa:Option Addr} {sn sc:Nat} (hd:a.defers= [{target:=Target.fn (Fn.func 23) #[.pointer (some ⟨rb,0,none⟩)],args:=#[]}])
  (ht:a.tmps.getD 2 undef=.pointer (some ⟨rb,0,none⟩)) (hl:t.length≤4000) (hL:LexR t 0 ks) (hP:ParR ks (.ok s1)) (hO:wq.ownsRow w.heap.size 65 7 (.slice sa sn sc) s1.out.length (cellsN s1.out)) (h2:s1.out.length≤200000) (hr:BoxAt wq w.heap.size 27 3 rb [.int .i64 0,.int .i64 0,.slice sa sn sc]) (hB:Below w.heap.size w wq):
  bodyPostD Tryz.prog Tryz.f8 (fun e w'=>PfP t w e w') .ret a wq:=by
 show Leaves Tryz.prog Tryz.f8 a.tmps (fun e w'=>PfP t w e w') a.defers .returning wq
 rw[hd]
 refine leaves_cons (f:=23) (args:=#[.pointer (some ⟨rb,0,none⟩)]) (by simp) (by simp[go_sem]) ?_
 refine(pf_idle rb wq).mono ?_
 rintro e u' w'' ⟨rfl,rfl,hb⟩
 show Leaves Tryz.prog Tryz.f8 a.tmps (fun e w'=>PfP t w e w') [] (settle .returning) w''
 exact⟨_,pf_res ht (hr.below hb),_,rfl,hB.trans (hb.mono hB.size),0,0,_,rfl,.inr ⟨hl,ks,hL,.inl ⟨s1,hP,rfl,rfl,own_chg (S:=fun _=>False) hO (Chg.of_below hb) (fun _ _ q=>q),h2⟩⟩⟩
set_option maxHeartbeats 8000000 in
theorem implParse_core {b off n cap:Nat} {t:List UInt8} {w:World} (hT:BysAt w b off t) (hb:b<w.heap.size) (hn:n=t.length) (hl:n≤2^40) (hc:n≤cap) (hcm:cap≤maxLen) (hG:7≤w.heap.size) (hW:WdsAt w) (hE:ErrAt w):
  Calls Tryz.prog 8 #[.slice (some ⟨b,off,none⟩) n cap] w (fun e w'=>PfP t w e w'):=by
 have hmf:∀(fn:Fn) (first cap:Array Value) (w:World),(Instr.makeFunc fn first cap).run Tryz.prog w=.ok (.func fn first cap) w:=fun _ _ _ _=>rfl
 have HN:Hid (n=t.length):=hn
 obtain⟨W0,hW0⟩:=qE (w.alloc (Obj.cells #[.int .i64 0,.int .i64 0,.slice none 0 0] 27):World)
 have b0:Below w.heap.size w W0:=by rw[hW0];exact qB
 have HB0:Hid (BoxAt W0 w.heap.size 27 3 w.heap.size [.int .i64 0,.int .i64 0,.slice none 0 0]∧Below w.heap.size w W0∧W0.heap.size=w.heap.size+1):=⟨by rw[hW0];exact boxAt_new w _ (Nat.le_refl _) rfl,b0,by rw[hW0];simp⟩
 by_cases hlong:4000<n
 ·have z:¬(n:Int)≤4000:=by omega
  have z2:(4000:Int)<(n:Int):=by omega
  go_enter_defers Tryz.func8,Tryz.ntmps8
  go_upto_region 1 with fail
  rw[←hW0]
  clear hW0
  have e0:=HB0.1.cell (j:=0) rfl
  have e1:=HB0.1.cell (j:=1) rfl
  have e2:=HB0.1.cell (j:=2) rfl
  have f0:=HB0.1.frozen 0
  have f1:=HB0.1.frozen 1
  have f2:=HB0.1.frozen 2
  obtain⟨W3,hW3⟩:∃V:World,V=((W0.setCell ⟨w.heap.size,0,none⟩ (.int .i64 1)).setCell ⟨w.heap.size,1,none⟩ (.int .i64 0)).setCell ⟨w.heap.size,2,none⟩ (.slice none 0 0):=⟨_,rfl⟩
  have HW3:Hid (BoxAt W3 w.heap.size 27 3 w.heap.size [.int .i64 1,.int .i64 0,.slice none 0 0]∧Below w.heap.size w W3):=by
   rw[hW3]
   exact⟨((HB0.1.set 0 (.int .i64 1)).set 1 (.int .i64 0)).set 2 (.slice none 0 0),below_set (below_set (below_set HB0.2.1 (Nat.le_refl _) 0 _) (Nat.le_refl _) 1 _) (Nat.le_refl _) 2 _⟩
  go_wp2_with fail
  rw[←hW3]
  show Leaves Tryz.prog Tryz.f8 _ (fun e w'=>PfP t w e w') [] .returning W3
  exact⟨_,pf_res (a:={tmps:=_,defers:= []}) rfl HW3.1,_,rfl,HW3.2,1,0,_,rfl,.inl ⟨by rw[←HN.out];exact hlong,rfl,rfl,rfl⟩⟩
 have hn4:n≤4000:=by omega
 have z:(n:Int)≤4000:=by omega
 obtain⟨ks,hL⟩:=lexR_ex t.length t 0 (Nat.le_refl _)
 obtain⟨W1,hW1⟩:∃V:World,V=W0.alloc (Obj.cells #[.slice (some ⟨b,off,none⟩) n cap,.int .i64 0,.int .u8 0,.int .i64 0,.int .i64 0,.int .u64 0,.string ⟨#[]⟩,.int .i64 0,.int .i64 0,.slice none 0 0] 54):=⟨_,rfl⟩
 have b1:Below W0.heap.size W0 W1:=by rw[hW1];exact qB
 have bw1:Below w.heap.size w W1:=b0.trans (b1.mono b0.size)
 have hz0:=HB0.2.2
 have hS0:FpS w.heap.size b off n cap t w:=⟨hT,hb,hG,Nat.le_refl _,hW,hE,hn,by omega,hc,hcm⟩
 have H1:Hid (BoxAt W1 w.heap.size 27 3 w.heap.size [.int .i64 0,.int .i64 0,.slice none 0 0]∧FpS w.heap.size b off n cap t W1∧FsAt W1 w.heap.size (w.heap.size+1) b off n cap 0 (fpL ⟨.fin,0⟩ 0 0 (.slice none 0 0))∧Below w.heap.size w W1∧W1.heap.size=w.heap.size+2∧LexR t 0 ks∧t.length≤4000):=
  ⟨HB0.1.below b1,hS0.up bw1,by rw[hW1,←hz0];exact boxAt_new W0 #[.slice (some ⟨b,off,none⟩) n cap,.int .i64 0,.int .u8 0,.int .i64 0,.int .i64 0,.int .u64 0,.string ⟨#[]⟩,.int .i64 0,.int .i64 0,.slice none 0 0] (by omega) rfl,bw1,by rw[hW1];simp;omega,hL,by omega⟩
 have HNx:Hid (Calls Tryz.prog 25 #[.pointer (some ⟨w.heap.size+1,0,none⟩)] W1 (NxtP w.heap.size (w.heap.size+1) b off n cap (fpL ⟨.fin,0⟩ 0 0 (.slice none 0 0)) t ks W1)):=by
  have h8:=H1.2.1
  exact next_core (i:=0) H1.2.2.1 h8.bys (by have:=h8.bl;have:=H1.2.2.2.2.1;omega) h8.nt h8.nl h8.nc h8.cm (Nat.zero_le _) ⟨by have:=H1.2.2.2.2.1;omega,by omega,by have:=h8.lo;omega,by have:=h8.lo;have:=h8.sz;omega⟩ h8.wds h8.err hL
 clear hT hb hG hW hE hn hl hc hcm b0 b1 bw1 hS0 hL HB0
 go_enter_defers Tryz.func8,Tryz.ntmps8
 go_upto_region 1 with fail
 rw[←hW0]
 clear hW0
 go_upto_region 5 with fail
 rw[←hW1]
 clear hW1 hz0
 go_wp2_with fail
 refine HNx.mono ?_
 clear HNx
 rintro e w2 ⟨Hc2,(⟨hbd,rfl⟩|⟨hbd,k,ks2,hk,rfl,p2,hfs,hp2,hlx⟩)⟩
 ·exact pf_dies t w w2 _ 2 (hdA ks) w.heap.size (Nat.le_refl _) rfl rfl H1.2.2.2.2.2.2 H1.2.2.2.2.2.1 (.inl ⟨hbd,rfl⟩) (by decide) (H1.1.chg Hc2.out (by omega)) (Chg.below H1.2.2.2.1 Hc2.out H1.2.2.2.1.size (fun j q=>by omega))
 have i0:=hfs.cell (j:=2) rfl
 have i1:=hfs.cell (j:=3) rfl
 have i2:=hfs.cell (j:=4) rfl
 have i3:=hfs.cell (j:=5) rfl
 have i4:=hfs.cell (j:=6) rfl
 have z0:=hfs.frozen 2
 have z1:=hfs.frozen 3
 have z2:=hfs.frozen 4
 have z3:=hfs.frozen 5
 have z4:=hfs.frozen 6
 obtain⟨W3,hW3⟩:∃V:World,V=setQ w2 (w.heap.size+1) (.int .u8 ((ftB k.k).toNat:Int)) (.int .i64 (k.pos:Int)) (.int .i64 k.k.wd) (.int .u64 k.k.nm) (.string k.k.txt):=⟨_,rfl⟩
 have hc3:Chg (fun q=>q=w.heap.size+1) w2 W3:=by rw[hW3];exact chg_setQ _ _ _ _ _ _ _
 have hc13:Chg (fun q=>q=w.heap.size+1) W1 W3:=Hc2.trans hc3
 have H3:Hid (BoxAt W3 w.heap.size 27 3 w.heap.size [.int .i64 0,.int .i64 0,.slice none 0 0]∧FpS w.heap.size b off n cap t W3∧Fp w.heap.size (w.heap.size+1) b off n cap t 20 ⟨ks,0,[]⟩ k ks2 p2 (.slice none 0 0) W3∧Below w.heap.size w W3∧(hdK ks).isBad=false∧LexR t 0 ks∧t.length≤4000):=by
  have hks:=H1.2.2.2.2.2.1
  refine⟨H1.1.chg hc13 (by omega),H1.2.1.chg hc13 (fun q z=>by omega),⟨hk,by rw[hW3];exact FsAt.setQ hfs,hp2,hlx,by rw[hk]at hbd;exact hbd,by have:=hks.toks;rw[hk]at this;exact this,by simp,by decide,⟨rfl,.inl ⟨rfl,rfl⟩⟩,(fun q hq=>by cases hq),by have:=hks.len.1;have:=H1.2.2.2.2.2.2;simp;omega⟩,Chg.below H1.2.2.2.1 hc13 H1.2.2.2.1.size (fun j q=>by omega),hbd,hks,H1.2.2.2.2.2.2⟩
 clear hbd hk hfs hp2 hlx hc3 hc13 H1 Hc2
 unfold setQ at hW3
 go_upto_region 6 with fail
 rw[←hW3]
 clear hW3 i0 i1 i2 i3 i4 z0 z1 z2 z3 z4
 have HFi:Hid (Calls Tryz.prog 26 #[.pointer (some ⟨w.heap.size+1,0,none⟩)] W3 (FpO w.heap.size (w.heap.size+1) b off n cap t 20 (FilR 20 ⟨ks,0,[]⟩) (.tuple #[]) (.slice none 0 0) W3)):=fil_of w.heap.size (w.heap.size+1) b off n cap t 20 W3 ⟨ks,0,[]⟩ k ks2 p2 (.slice none 0 0) H3.2.1 H3.2.2.1
 go_wp2_with fail
 refine HFi.mono ?_
 clear HFi
 rintro e w4 ⟨Hc4,(⟨s4,hs4,rfl,k4,ks4,p4,nv4,hF4,hn4'⟩|⟨c,a,hs4,rfl⟩)⟩
 case inr=>
  have hn1:¬(w.heap.size=w.heap.size+1∨(Value.slice none 0 0).ownBlock=some w.heap.size):=fun z=>by
   rcases z with q|q
   ·omega
   ·cases q
  have hn2:∀j,(j=w.heap.size+1∨(Value.slice none 0 0).ownBlock=some j)→w.heap.size≤j:=fun j z=>by
   rcases z with q|q
   ·omega
   ·cases q
  exact pf_dies t w w4 _ c a w.heap.size (Nat.le_refl _) rfl rfl H3.2.2.2.2.2.2 H3.2.2.2.2.2.1 (.inr ⟨H3.2.2.2.2.1,.inl ⟨_,hs4,rfl⟩⟩) (ers_fil 20 _ _ hs4) (H3.1.chg Hc4.out hn1) (Chg.below H3.2.2.2.1 Hc4.out H3.2.2.2.1.size hn2)
 obtain⟨a4,m4,c4,rfl⟩:=hF4.form
 have H4:Hid (BoxAt w4 w.heap.size 27 3 w.heap.size [.int .i64 0,.int .i64 0,.slice none 0 0]∧Fp w.heap.size (w.heap.size+1) b off n cap t 20 s4 k4 ks4 p4 (.slice a4 m4 c4) w4∧Below w.heap.size w w4∧(FilR 20 ⟨ks,0,[]⟩ (.ok s4))∧(∀q,(Value.slice a4 m4 c4).ownBlock=some q→¬q=w.heap.size)):=by
  have hsz:=H3.2.2.1.fs.lt.2
  have hn1:¬(w.heap.size=w.heap.size+1∨(Value.slice none 0 0).ownBlock=some w.heap.size):=fun z=>by
   rcases z with q|q
   ·omega
   ·cases q
  have hn2:∀j,(j=w.heap.size+1∨(Value.slice none 0 0).ownBlock=some j)→w.heap.size≤j:=fun j z=>by
   rcases z with q|q
   ·omega
   ·cases q
  refine⟨H3.1.chg Hc4.out hn1,hF4,Chg.below H3.2.2.2.1 Hc4.out H3.2.2.2.1.size hn2,hs4,fun q hq=>?_⟩
  rcases hn4' q hq with y|y
  ·cases y
  ·omega
 clear hs4 hF4 hn4' Hc4
 have cK:=H4.2.1.fs.cell (j:=2) rfl
 have cN:=H4.2.1.fs.cell (j:=9) rfl
 have hkn:=H4.2.1.kinds
 cases hfin:k4.k.isFin
 case false=>
  have zk:(((ftB k4.k).toNat:Int)==0)=false:=by
   cases hq:k4.k with
   |fin=>rw[hq]at hfin;cases hfin
   |sign c=>
    rw[hq]at hkn
    rcases hkn with q|q
    ·rcases q with rfl|rfl|rfl|rfl|rfl|rfl<;>rfl
    ·cases q
   |num _=>rfl
   |str _=>rfl
   |word _=>rfl
   |bad=>rw[hq]at hkn;rcases hkn with q|q<;>cases q
  have HE2:Hid (ParR ks (.error (3,k4.pos))):=.inr ⟨H3.2.2.2.2.1,.inr ⟨s4,H4.2.2.2.1,by
   show _=endF s4
   unfold endF
   rw[H4.2.1.eq]
   rw[if_neg (by show¬k4.k.isFin=true;rw[hfin];simp)]
   rfl⟩⟩
  obtain⟨kb,hkb⟩:=qE (((ftB k4.k).toNat:Int):Int)
  rw[←hkb]at zk cK
  clear hfin hkn hkb
  go_wp2_with fail
  refine(fdem_no H4.2.1 3).mono ?_
  rintro e w5 ⟨rfl,hw5⟩
  rw[hw5]
  exact pf_dies t w w4 _ 3 k4.pos w.heap.size (Nat.le_refl _) rfl rfl H3.2.2.2.2.2.2 H3.2.2.2.2.2.1 HE2.out (by decide) H4.1 H4.2.2.1
 have HOk:Hid (ParR ks (.ok s4)):=.inr ⟨H3.2.2.2.2.1,.inr ⟨s4,H4.2.2.2.1,by
   show _=endF s4
   unfold endF
   rw[H4.2.1.eq]
   rw[if_pos (by exact hfin)]⟩⟩
 rw[show ftB k4.k=0 from by
  cases hq:k4.k with
  |fin=>rfl
  |bad=>rfl
  |sign c=>rw[hq]at hfin;cases hfin
  |num _=>rw[hq]at hfin;cases hfin
  |str _=>rw[hq]at hfin;cases hfin
  |word _=>rw[hq]at hfin;cases hfin]at cK
 clear hfin hkn
 go_wp2_with fail
 refine(fdem_yes _ 3 w4).mono ?_
 rintro e w5 ⟨rfl,hw5⟩
 rw[hw5]
 clear hw5
 have e0:=H4.1.cell (j:=0) rfl
 have e1:=H4.1.cell (j:=1) rfl
 have e2:=H4.1.cell (j:=2) rfl
 have f0:=H4.1.frozen 0
 have f1:=H4.1.frozen 1
 have f2:=H4.1.frozen 2
 obtain⟨W6,hW6⟩:∃V:World,V=((w4.setCell ⟨w.heap.size,0,none⟩ (.int .i64 0)).setCell ⟨w.heap.size,1,none⟩ (.int .i64 0)).setCell ⟨w.heap.size,2,none⟩ (.slice a4 m4 c4):=⟨_,rfl⟩
 have HW6:Hid (BoxAt W6 w.heap.size 27 3 w.heap.size [.int .i64 0,.int .i64 0,.slice a4 m4 c4]∧Below w.heap.size w W6∧W6.ownsRow w.heap.size 65 7 (.slice a4 m4 c4) s4.out.length (cellsN s4.out)∧s4.out.length≤200000):=by
  have hc:Chg (fun q=>q=w.heap.size) w4 W6:=by rw[hW6];exact((Chg.of_set (S:=fun q=>q=w.heap.size) _ w.heap.size 0 _ rfl).trans (Chg.of_set (S:=fun q=>q=w.heap.size) _ w.heap.size 1 _ rfl)).trans (Chg.of_set (S:=fun q=>q=w.heap.size) _ w.heap.size 2 _ rfl)
  refine⟨by rw[hW6];exact((H4.1.set 0 (.int .i64 0)).set 1 (.int .i64 0)).set 2 (.slice a4 m4 c4),by rw[hW6];exact below_set (below_set (below_set H4.2.2.1 (Nat.le_refl _) 0 _) (Nat.le_refl _) 1 _) (Nat.le_refl _) 2 _,own_chg H4.2.1.nds hc (fun q hq=>H4.2.2.2.2 q hq),by have:=H4.2.1.ol;omega⟩
 clear cK
 go_wp2_with fail
 rw[←hW6]
 exact pf_done t w W6 _ w.heap.size rfl rfl H3.2.2.2.2.2.2 H3.2.2.2.2.2.1 HOk.out HW6.2.2.1 HW6.2.2.2 HW6.1 HW6.2.1
end Go.Proofs.YtgnpcenpcmdlfaaGreatDoor
namespace Go.Proofs.YtgnpcenpcmdlfaaGreatDoor
open Go.ChangeShapes Go.WideShapes Go.ChangeAt Go.RowKit Go.Deep
set_option linter.unusedVariables false
end Go.Proofs.YtgnpcenpcmdlfaaGreatDoor
namespace Go.Proofs.YtgnpcenpcmdlfaaGreatDoor
open Go.ChangeShapes Go.WideShapes Go.ChangeAt Go.RowKit Go.Deep
set_option linter.unusedVariables false
set_option linter.unusedSimpArgs false
set_option maxRecDepth 100000
def OwnUN (w:World) (base:Nat) (u:Value) (R:List Nd):Prop:=(u=.slice none 0 0∧R= [])∨∃g cp,u=.slice (some ⟨g,0,none⟩) R.length cp∧OwnNd w base g cp R
end Go.Proofs.YtgnpcenpcmdlfaaGreatDoor
namespace Go.Proofs.YtgnpcenpcmdlfaaGreatDoor
set_option linter.unusedVariables false
set_option linter.unusedSimpArgs false
def NxO (l:List UInt8):Prop:=∀b,l.head?=some b→isLet b=false∧isDig b=false
def Lx (c:Bool) (l:List UInt8) (K:List TkK):Prop:=∀(rest:List UInt8) (i:Nat) (ks':List Tk),(c=true→NxO rest)→LexR rest (i+l.length) ks'→∃ks,LexR (l++rest) i (ks++ks')∧ks.map (·.k)=K
theorem Lx.weak {c:Bool} {l:List UInt8} {K:List TkK} (h:Lx false l K):Lx c l K:=fun rest i ks' _ hl=>h rest i ks' (by simp) hl
theorem Lx.seq {c1 c2:Bool} {l1 l2:List UInt8} {K1 K2:List TkK} (h1:Lx c1 l1 K1) (h2:Lx c2 l2 K2) (hn:c1=true→l2≠ []∧NxO l2):Lx c2 (l1++l2) (K1++K2):=by
 intro rest i ks' hc hl
 rw[List.length_append,←Nat.add_assoc]at hl
 obtain⟨ka,ha,ea⟩:=h2 rest (i+l1.length) ks' hc hl
 obtain⟨kb,hb,eb⟩:=h1 (l2++rest) i (ka++ks') (fun q=>by
  obtain⟨n1,n2⟩:=hn q
  intro b hb
  apply n2
  cases l2 with
  |nil=>exact absurd rfl n1
  |cons x l=>exact hb) ha
 exact⟨kb++ka,by rw[List.append_assoc,List.append_assoc];exact hb,by rw[List.map_append,ea,eb]⟩
theorem Lx.space {c:Bool} {l:List UInt8} {K:List TkK} (h:Lx c l K):Lx c (32::l) K:=by
 intro rest i ks' hc hl
 obtain⟨ks,h1,h2⟩:=h rest (i+1) ks' hc (by rw[List.length_cons]at hl;rw[show i+1+l.length=i+(l.length+1)by omega];exact hl)
 exact⟨ks,.space h1,h2⟩
theorem Lx.nil {c:Bool}:Lx c [] []:=fun rest i ks' _ hl=>⟨[],hl,rfl⟩
theorem lx_tok {c:Bool} {b:UInt8} {l:List UInt8} {k:TkK} (hb:¬b=32) (h:∀rest,(c=true→NxO rest)→tokF (b::l++rest)=some (k,(b::l).length)):Lx c (b::l) [k]:=by
 intro rest i ks' hc hl
 refine⟨[⟨k,i⟩],?_,rfl⟩
 refine .tok (l:=l++rest) hb (h rest hc) ?_
 have e:(b::(l++rest)).drop (b::l).length=rest:=by rw[←List.cons_append,List.drop_left]
 rw[e]
 exact hl
theorem lx_sign {b:UInt8} (h:b=40∨b=41∨b=44∨b=62∨b=124):Lx false [b] [.sign b]:=by
 refine lx_tok (by rcases h with rfl|rfl|rfl|rfl|rfl<;>decide) (fun rest _=>?_)
 rcases h with rfl|rfl|rfl|rfl|rfl<;>rfl
theorem lx_dots:Lx false [46,46] [.sign 46]:=lx_tok (by decide) (fun rest _=>rfl)
theorem takeWhile_nx {p:UInt8→Bool}:∀{l rest:List UInt8},(∀b∈l,p b=true)→(∀b,rest.head?=some b→p b=false)→(l++rest).takeWhile p=l
 | [],[],_,_=>rfl
 | [],b::r,_,h=>by simp[h b rfl]
 |a::l,rest,h,h2=>by
  rw[List.cons_append,List.takeWhile_cons,if_pos (h a (by simp)),takeWhile_nx (fun b hb=>h b (by simp[hb])) h2]
theorem lx_letters {b:UInt8} {l:List UInt8} {k:Int} (hl:∀x∈b::l,isLet x=true) (hk:kwF (b::l)=some k):Lx true (b::l) [.word k]:=by
 have hb:=hl b (by simp)
 refine lx_tok (by intro q;subst q;exact absurd hb (by decide)) (fun rest hc=>?_)
 have ht:=takeWhile_nx hl (fun x hx=>(hc rfl x hx).1)
 rw[List.cons_append]at ht⊢
 unfold tokF
 dsimp only
 rw[if_pos hb,ht,hk]
 rfl
theorem lx_word {k:Int} (h1:1≤k) (h2:k≤13):Lx true (bl (wordA k)) [.word k]:=by
 rcases cases13 h1 h2 with rfl|rfl|rfl|rfl|rfl|rfl|rfl|rfl|rfl|rfl|rfl|rfl|rfl<;>exact lx_letters (by decide) (by decide)
theorem lx_if:Lx true [105,102] [.word 16]:=lx_letters (by decide) (by decide)
theorem dig_of {n:Nat} (h:n<10):isDig (UInt8.ofNat (48+n))=true∧(UInt8.ofNat (48+n)).toNat=48+n:=by
 have:(UInt8.ofNat (48+n)).toNat=48+n:=by simp[UInt8.toNat_ofNat'];omega
 refine⟨?_,this⟩
 unfold isDig
 rw[this]
 simp;omega
theorem dec_dig (n:Nat):∀b∈Lib.decDigits n,isDig b=true:=by
 induction n using Nat.strongRecOn with
 |_ n ih=>
  intro b hb
  rw[Lib.decDigits]at hb
  split at hb
  ·rename_i h
   rw[List.mem_singleton]at hb
   rw[hb];exact(dig_of h).1
  ·rename_i h
   rw[List.mem_append,List.mem_singleton]at hb
   rcases hb with hb|hb
   ·exact ih (n/10) (by omega) b hb
   ·rw[hb];exact(dig_of (Nat.mod_lt _ (by omega))).1
theorem dec_val (n:Nat):decV (Lib.decDigits n)=n:=by
 induction n using Nat.strongRecOn with
 |_ n ih=>
  rw[Lib.decDigits]
  split
  ·rename_i h
   simp only[decV,List.foldl_cons,List.foldl_nil,(dig_of h).2]
   omega
  ·rename_i h
   have h1:=ih (n/10) (by omega)
   unfold decV at h1⊢
   rw[List.foldl_append,h1]
   simp only[List.foldl_cons,List.foldl_nil,(dig_of (Nat.mod_lt n (by omega))).2]
   omega
theorem dec_head (n:Nat):∃b l,Lib.decDigits n=b::l∧(1≤n→¬b=48):=by
 induction n using Nat.strongRecOn with
 |_ n ih=>
  rw[Lib.decDigits]
  split
  ·rename_i h
   refine⟨_,_,rfl,fun h1 q=>?_⟩
   have:=(dig_of h).2
   rw[q]at this
   simp at this;omega
  ·rename_i h
   obtain⟨b,l,h1,h2⟩:=ih (n/10) (by omega)
   exact⟨b,l++ [_],by rw[h1];rfl,fun _=>h2 (by omega)⟩
theorem dec_numM {n:Nat} (h:n<2^64):numM (Lib.decDigits n)=some n:=by
 unfold numM
 rw[if_neg,if_pos (by rw[dec_val];exact h),dec_val]
 rintro⟨h1,h2⟩
 by_cases h0:n<10
 ·rw[Lib.decDigits,dif_pos h0]at h1
  simp at h1
 ·obtain⟨b,l,e,hb⟩:=dec_head n
  rw[e]at h2
  exact hb (by omega) (by simpa using h2)
theorem lx_num {n:Nat} (h:n<2^64):Lx true (Lib.decDigits n) [.num (n:Int)]:=by
 obtain⟨b,l,e,_⟩:=dec_head n
 have hd:=dec_dig n
 have hm:=dec_numM h
 rw[e]at hd hm⊢
 have hb:=hd b (by simp)
 have hnl:isLet b=false:=by
  unfold isDig at hb
  unfold isLet
  simp at hb⊢
  omega
 refine lx_tok (by intro q;subst q;exact absurd hb (by decide)) (fun rest hc=>?_)
 have ht:=takeWhile_nx hd (fun x hx=>(hc rfl x hx).2)
 rw[List.cons_append]at ht⊢
 unfold tokF
 dsimp only
 rw[if_neg (by rw[hnl];simp),if_pos hb,ht,hm]
 rfl
theorem hex_of {n:Nat} (h:n<16):hexV (hexB n)=some n:=by
 have:∀m:Fin 16,hexV (hexB m.val)=some m.val:=by decide
 exact this ⟨n,h⟩
theorem strM_quo:∀(s rest:List UInt8),strM (quoL s++34::rest)=some (s,(quoL s).length+1)
 | [],rest=>by
   show strM (34::rest)=_
   unfold strM
   rw[if_pos rfl]
   rfl
 |b::s,rest=>by
  have ih:=strM_quo s rest
  have e:quoL (b::s)=qByte b++quoL s:=by simp[quoL]
  rw[e,List.append_assoc]
  unfold qByte
  by_cases h1:b.toNat=34∨b.toNat=92
  ·rw[if_pos h1]
   have hb:b=34∨b=92:=by
    rcases h1 with h|h
    ·exact .inl (UInt8.toNat_inj.1 h)
    ·exact .inr (UInt8.toNat_inj.1 h)
   show strM (92::b::(quoL s++34::rest))=_
   unfold strM
   rw[if_neg (by decide),if_pos rfl]
   dsimp only
   rw[if_pos hb,ih]
   simp
  ·rw[if_neg h1]
   have n34:¬b=34:=fun q=>h1 (.inl (by rw[q];rfl))
   have n92:¬b=92:=fun q=>h1 (.inr (by rw[q];rfl))
   by_cases h2:32≤b.toNat∧b.toNat≤126
   ·rw[if_pos h2]
    show strM (b::(quoL s++34::rest))=_
    unfold strM
    rw[if_neg n34,if_neg n92,if_pos (by unfold isPla;simpa using h2),ih]
    simp
   ·rw[if_neg h2]
    show strM (92::120::hexB (b.toNat/16)::hexB (b.toNat%16)::(quoL s++34::rest))=_
    unfold strM
    rw[if_neg (by decide),if_pos rfl]
    dsimp only
    rw[if_neg (by decide),if_pos rfl]
    have hlt:=b.toNat_lt
    rw[hex_of (by omega),hex_of (Nat.mod_lt _ (by omega))]
    dsimp only
    rw[ih]
    have:UInt8.ofNat (16*(b.toNat/16)+b.toNat%16)=b:=by
     rw[Nat.div_add_mod];exact UInt8.ofNat_toNat
    rw[this]
    simp
theorem lx_str {s:ByteArray} (h:s.size≤200):Lx false (quoM (bl s)) [.str s]:=by
 have e:quoM (bl s)=34::(quoL (bl s)++ [34]):=by unfold quoM;simp
 rw[e]
 refine lx_tok (by decide) (fun rest _=>?_)
 rw[List.cons_append]
 unfold tokF
 dsimp only
 rw[if_neg (by decide),if_neg (by decide),if_pos rfl,List.append_assoc,List.singleton_append,strM_quo]
 dsimp only
 rw[if_pos (by rw[bl_len];exact h)]
 have:(⟨(bl s).toArray⟩:ByteArray)=s:=by
  cases s with
  |mk a=>simp[bl]
 rw[this]
 simp
def NoSo (t:TkK):Prop:=t.isBad=false∧t.isSort true=false∧t.isSort false=false
def Rd (C:TkK→Prop) (A:Ps→PR Ps→Prop) (K:List TkK) (p:List Nd):Prop:=
 ∀(ks:List Tk) (md:Nat) (out:List Nd) (k1 k2:List Tk),ks=k1++k2→k1.map (·.k)=K→NoSo (hdK k2)→C (hdK k2)→md+p.length≤200→A ⟨ks,md,out⟩ (.ok ⟨k2,md+p.length,out++p⟩)
inductive LoopP (sg:UInt8) (kd:Int) (R:Ps→PR Ps→Prop):Ps→Ps→Prop
 |refl (s:Ps):LoopP sg kd R s s
 |step {s s1 s2 s3:Ps} (h:(hdK s.ks).isSign sg=true) (h1:makerF s=.ok s1) (h2:R s1 (.ok s2)) (h3:LoopP sg kd R (s2.add (leafN kd)) s3):LoopP sg kd R s s3
theorem LoopP.loop {sg:UInt8} {kd:Int} {R:Ps→PR Ps→Prop} {s s1:Ps} (h:LoopP sg kd R s s1) {r:PR Ps} (k:LoopR sg kd R s1 r):LoopR sg kd R s r:=by
 induction h with
 |refl=>exact k
 |step h h1 h2 _ ih=>exact .more h h1 h2 (ih k)
theorem LoopP.snoc {sg:UInt8} {kd:Int} {R:Ps→PR Ps→Prop} {s s1:Ps} (h:LoopP sg kd R s s1) {s2 s3:Ps} (hs:(hdK s1.ks).isSign sg=true) (hm:makerF s1=.ok s2) (hr:R s2 (.ok s3)):LoopP sg kd R s (s3.add (leafN kd)):=by
 induction h with
 |refl=>exact .step hs hm hr (.refl _)
 |step h h1 h2 _ ih=>exact .step h h1 h2 (ih hs hm)
def JoinO (sg:UInt8) (kd:Int) (R:Ps→PR Ps→Prop) (s:Ps) (r:PR Ps):Prop:=∃s1,r=.ok s1∧∃s0,R s (.ok s0)∧LoopP sg kd R s0 s1
theorem rd_up {C:TkK→Prop} {R:Ps→PR Ps→Prop} {K:List TkK} {p:List Nd} (h:Rd C R K p) (sg:UInt8) (kd:Int):Rd C (JoinO sg kd R) K p:=
 fun ks md out k1 k2 e1 e2 hn hc hm=>⟨_,rfl,_,h ks md out k1 k2 e1 e2 hn hc hm,.refl _⟩
theorem rd_close {C:TkK→Prop} {R:Ps→PR Ps→Prop} {K:List TkK} {p:List Nd} {sg:UInt8} {kd:Int} (h:Rd C (JoinO sg kd R) K p):Rd (fun t=>C t∧t.isSign sg=false) (JoinR sg kd R) K p:=by
 intro ks md out k1 k2 e1 e2 hn hc hm
 obtain⟨s1,q,s0,h0,hl⟩:=h ks md out k1 k2 e1 e2 hn hc.1 hm
 cases q
 exact .inr ⟨s0,h0,hl.loop (.stop hc.2)⟩
theorem rd_weak {C D:TkK→Prop} {R:Ps→PR Ps→Prop} {K:List TkK} {p:List Nd} (h:Rd C R K p) (hd:∀t,D t→C t):Rd D R K p:=
 fun ks md out k1 k2 e1 e2 hn hc hm=>h ks md out k1 k2 e1 e2 hn (hd _ hc) hm
theorem tkF_ok {ks:List Tk} (h:(hdK ks.tail).isBad=false):takeF ks=.ok ks.tail:=by unfold takeF;rw[if_neg (by rw[h];simp)]
theorem maker_ok {x:Tk} {ks:List Tk} {md:Nat} {out:List Nd} (hm:md<200) (h:(hdK ks).isBad=false):makerF ⟨x::ks,md,out⟩=.ok ⟨ks,md+1,out⟩:=by
 unfold makerF
 rw[if_pos hm,tkF_ok (by exact h)]
 rfl
def HdG (K:List TkK):Prop:=∃t L,K=t::L∧t.isBad=false
theorem HdG.of {K:List TkK} (h:HdG K) {k1 k2:List Tk} (e:k1.map (·.k)=K):(hdK (k1++k2)).isBad=false:=by
 obtain⟨t,L,rfl,ht⟩:=h
 cases k1 with
 |nil=>cases e
 |cons x k1=>
  simp only[List.map_cons,List.cons.injEq]at e
  show x.k.isBad=false
  rw[e.1];exact ht
theorem rd_join {C1 C:TkK→Prop} {sg:UInt8} {kd:Int} {R:Ps→PR Ps→Prop} {K1 K2:List TkK} {p1 p2:List Nd} (h1:Rd C1 (JoinO sg kd R) K1 p1) (hc1:C1 (.sign sg)) (h2:Rd C R K2 p2) (hK:HdG K2):Rd C (JoinO sg kd R) (K1++ .sign sg::K2) (p1++(p2++ [leafN kd])):=by
 intro ks md out k1 k2 e1 e2 hn hc hm
 obtain⟨a,b,rfl,ea,eb⟩:=List.map_eq_append_iff.1 e2
 obtain⟨x,b,rfl,ex,eb⟩:=List.map_eq_cons_iff.1 eb
 simp only[List.length_append,List.length_singleton]at hm
 subst e1
 obtain⟨s1,q,s0,h0,hl⟩:=h1 (a++x::b++k2) md out a (x::b++k2) (by simp) ea (by show NoSo x.k;rw[ex];exact⟨rfl,rfl,rfl⟩) (by show C1 x.k;rw[ex];exact hc1) (by omega)
 cases q
 have hb:=hK.of (k2:=k2) eb
 have h3:=h2 (b++k2) (md+p1.length+1) (out++p1) b k2 rfl eb hn hc (by omega)
 refine⟨_,?_,s0,h0,hl.snoc (by show x.k.isSign sg=true;rw[ex];simp[TkK.isSign]) (maker_ok (by omega) hb) h3⟩
 show Except.ok _=Except.ok (Ps.mk _ _ _)
 simp only[List.length_append,List.length_singleton,List.append_assoc]
 rw[show md+p1.length+1+p2.length=md+(p1.length+(p2.length+1))by omega]
def Fd:Nat→Ps→PR Ps→Prop
 |0=>fun _ _=>False
 |d+1=>FilR d
theorem filR_eq (d:Nat):FilR d=JoinR 124 15 (ChaR (Fd d) d):=by cases d<;>rfl
def Any (_:TkK):Prop:=True
theorem rd_paren {C:TkK→Prop} {d:Nat} {K:List TkK} {p:List Nd} (h:Rd C (FilR d) K p) (hc:C (.sign 41)) (hK:HdG K):Rd Any (PrimR (Fd (d+1)) (d+1)) (.sign 40::(K++ [.sign 41])) p:=by
 intro ks md out k1 k2 e1 e2 hn _ hm
 obtain⟨x,b,rfl,ex,eb⟩:=List.map_eq_cons_iff.1 e2
 obtain⟨a,b,rfl,ea,eb⟩:=List.map_eq_append_iff.1 eb
 obtain⟨y,b,rfl,ey,eb⟩:=List.map_eq_cons_iff.1 eb
 obtain rfl:=List.map_eq_nil_iff.1 eb
 subst e1
 have hx:(hdK (x::(a++ [y])++k2)).isSign 40=true:=by show x.k.isSign 40=true;rw[ex];rfl
 refine .inl ⟨hx,.inr ⟨⟨a++ [y]++k2,md,out⟩,?_,.inr ⟨⟨y::k2,md+p.length,out++p⟩,?_,?_⟩⟩⟩
 ·show _=enterF _ _
  unfold enterF
  rw[if_pos hx,if_neg (by omega),tkF_ok (by show(hdK (a++ [y]++k2)).isBad=false;rw[List.append_assoc];exact hK.of ea)]
  rfl
 ·exact h (a++ [y]++k2) md out a (y::k2) (by simp) ea (by show NoSo y.k;rw[ey];exact⟨rfl,rfl,rfl⟩) (by show C y.k;rw[ey];exact hc) hm
 ·show _=leaveF _
  unfold leaveF expectF
  rw[if_pos (by show y.k.isSign 41=true;rw[ey];rfl),tkF_ok (by exact hn.1)]
  rfl
theorem comma_ok {y:Tk} {ks:List Tk} {md:Nat} {out:List Nd} (ey:y.k=.sign 44) (h:(hdK ks).isBad=false):commaF ⟨y::ks,md,out⟩=.ok ⟨ks,md,out⟩:=by
 unfold commaF expectF
 rw[if_pos (by show y.k.isSign 44=true;rw[ey];rfl),tkF_ok (by exact h)]
 rfl
theorem rd_if {C:TkK→Prop} {d:Nat} {K1 K2 K3:List TkK} {p1 p2 p3:List Nd} (h1:Rd C (FilR d) K1 p1) (h2:Rd C (FilR d) K2 p2) (h3:Rd C (FilR d) K3 p3) (hc:C (.sign 41)∧C (.sign 44)) (g1:HdG K1) (g2:HdG K2) (g3:HdG K3):
  Rd Any (PrimR (Fd (d+1)) (d+1)) (.word 16:: .sign 40::(K1++(.sign 44::(K2++(.sign 44::(K3++ [.sign 41])))))) (p1++(p2++(p3++ [leafN 16]))):=by
 intro ks md out k1 k2 e1 e2 hn _ hm
 obtain⟨w,b,rfl,ew,eb⟩:=List.map_eq_cons_iff.1 e2
 obtain⟨x,b,rfl,ex,eb⟩:=List.map_eq_cons_iff.1 eb
 obtain⟨a1,b,rfl,ea1,eb⟩:=List.map_eq_append_iff.1 eb
 obtain⟨y1,b,rfl,ey1,eb⟩:=List.map_eq_cons_iff.1 eb
 obtain⟨a2,b,rfl,ea2,eb⟩:=List.map_eq_append_iff.1 eb
 obtain⟨y2,b,rfl,ey2,eb⟩:=List.map_eq_cons_iff.1 eb
 obtain⟨a3,b,rfl,ea3,eb⟩:=List.map_eq_append_iff.1 eb
 obtain⟨y3,b,rfl,ey3,eb⟩:=List.map_eq_cons_iff.1 eb
 obtain rfl:=List.map_eq_nil_iff.1 eb
 simp only[List.length_append,List.length_singleton]at hm
 subst e1
 simp only[List.cons_append,List.append_assoc,List.nil_append]
 refine .inr (.inl ⟨ew,.inr ⟨_,(maker_ok (by omega) (by show x.k.isBad=false;rw[ex];rfl)).symm,.inr ⟨⟨k2,md+1+p1.length+p2.length+p3.length,out++p1++p2++p3⟩,?_,?_⟩⟩⟩)
 ·refine .inr ⟨⟨a1++y1::(a2++y2::(a3++y3::k2)),md+1,out⟩,?_,.inr ⟨⟨y1::(a2++y2::(a3++y3::k2)),md+1+p1.length,out++p1⟩,?_,.inr ⟨⟨a2++y2::(a3++y3::k2),md+1+p1.length,out++p1⟩,?_,.inr ⟨⟨y2::(a3++y3::k2),md+1+p1.length+p2.length,out++p1++p2⟩,?_,.inr ⟨⟨a3++y3::k2,md+1+p1.length+p2.length,out++p1++p2⟩,?_,.inr ⟨⟨y3::k2,md+1+p1.length+p2.length+p3.length,out++p1++p2++p3⟩,?_,?_⟩⟩⟩⟩⟩⟩
  ·show _=enterF _ _
   unfold enterF
   rw[if_pos (by show x.k.isSign 40=true;rw[ex];rfl),if_neg (by omega),tkF_ok (g1.of ea1)]
   rfl
  ·exact h1 _ _ _ a1 _ rfl ea1 (by show NoSo y1.k;rw[ey1];exact⟨rfl,rfl,rfl⟩) (by show C y1.k;rw[ey1];exact hc.2) (by omega)
  ·exact(comma_ok ey1 (g2.of ea2)).symm
  ·exact h2 _ _ _ a2 _ rfl ea2 (by show NoSo y2.k;rw[ey2];exact⟨rfl,rfl,rfl⟩) (by show C y2.k;rw[ey2];exact hc.2) (by omega)
  ·exact(comma_ok ey2 (g3.of ea3)).symm
  ·exact h3 _ _ _ a3 _ rfl ea3 (by show NoSo y3.k;rw[ey3];exact⟨rfl,rfl,rfl⟩) (by show C y3.k;rw[ey3];exact hc.1) (by omega)
  ·show _=leaveF _
   unfold leaveF expectF
   rw[if_pos (by show y3.k.isSign 41=true;rw[ey3];rfl),tkF_ok (by exact hn.1)]
   rfl
 ·show Except.ok (Ps.mk _ _ _)=Except.ok (Ps.add _ _)
  unfold Ps.add
  simp only[List.length_append,List.length_singleton,List.append_assoc]
  rw[show md+(p1.length+(p2.length+(p3.length+1)))=md+1+p1.length+p2.length+p3.length by omega]
theorem less_nil (s:ByteArray):¬less s noS:=by
 intro q
 unfold less at q
 rw[ByteArray.toList_eq,ByteArray.toList_eq]at q
 cases hq:s.data.toList with
 |nil=>rw[hq]at q;exact absurd q (by decide)
 |cons a l=>rw[hq]at q;exact absurd q (by simp[Op.bytesLess,noS])
theorem noS_of {s:ByteArray} (h:s.toList= []):s=noS:=by
 rw[ByteArray.toList_eq]at h
 cases s with
 |mk a=>
  cases a with
  |mk l=>simp at h;subst h;rfl
theorem bl_ne {s:ByteArray} (h:¬s.toList= []):¬bl s= []:=fun q=>h (bl_nil.1 q)
def endK (strs:Bool) (s:ByteArray) (n:Int):List TkK:=if strs=true then(if s.toList= []then []else [.str s])else(if n=0 then []else [.num n])
theorem lx_end {strs:Bool} {s:ByteArray} {n:Int} (hs:s.size≤200) (h0:0≤n) (h1:n<2^64) (h2:strs=true→n=0) (h3:strs=false→s.toList= []):Lx true (endM (bl s) n) (endK strs s n):=by
 unfold endM endK
 cases strs with
 |true=>
  rw[if_pos rfl]
  by_cases h:s.toList= []
  ·rw[if_pos h,if_pos (bl_nil.2 h),if_pos (h2 rfl)];exact .nil
  ·rw[if_neg h,if_neg (bl_ne h)];exact(lx_str hs).weak
 |false=>
  rw[if_neg (show¬((false:Bool)=true)by simp),if_pos (bl_nil.2 (h3 rfl))]
  by_cases h:n=0
  ·rw[if_pos h,if_pos h];exact .nil
  ·rw[if_neg h,if_neg h]
   have:=lx_num (n:=n.toNat) (by omega)
   rw[Int.toNat_of_nonneg h0]at this
   exact this
theorem lx_end_hd {strs:Bool} {s:ByteArray} {n:Int}:endK strs s n= []∨∃t,endK strs s n= [t]∧t.isBad=false∧t.isSort strs=true∧t.txt=(if strs=true then s else noS)∧t.nm=(if strs=true then 0 else n):=by
 unfold endK
 cases strs with
 |true=>
  rw[if_pos rfl]
  split
  ·exact .inl rfl
  ·exact .inr ⟨_,rfl,rfl,rfl,rfl,rfl⟩
 |false=>
  rw[if_neg (by simp)]
  split
  ·exact .inl rfl
  ·exact .inr ⟨_,rfl,rfl,rfl,rfl,rfl⟩
theorem endK_nil {strs:Bool} {s:ByteArray} {n:Int} (h:endK strs s n= []):(if strs=true then s else noS)=noS∧(if strs=true then 0 else n)=0:=by
 unfold endK at h
 cases strs with
 |true=>
  rw[if_pos rfl]at h
  split at h
  ·rename_i q;exact⟨by rw[if_pos rfl];exact noS_of q,rfl⟩
  ·cases h
 |false=>
  rw[if_neg (by simp)]at h
  split at h
  ·rename_i q;exact⟨by rw[if_neg (by simp)],by rw[if_neg (by simp)];exact q⟩
  ·cases h
theorem up_read {k:Int} {strs:Bool} {a:TkK} {e:Nd} {k1 k2:List Tk} (ek:k1.map (·.k)=endK strs e.t e.up) (hn:NoSo (hdK k2))
  (hh:e.hi=true→¬endK strs e.t e.up= []∧(less a.txt (if strs=true then e.t else noS)∨a.nm<(if strs=true then 0 else e.up))) (hl:e.hi=false→endK strs e.t e.up= []):
  upF k strs a (k1++k2)=.ok (k2,⟨k,a.txt,e.hi,(if strs=true then e.t else noS),a.nm,(if strs=true then 0 else e.up),0⟩):=by
 unfold upF
 rcases lx_end_hd (strs:=strs) (s:=e.t) (n:=e.up)with h|⟨t,h,hb,hs,ht,hm⟩
 ·rw[h]at ek
  obtain rfl:=List.map_eq_nil_iff.1 ek
  have hi:e.hi=false:=by
   cases q:e.hi with
   |false=>rfl
   |true=>exact absurd h (hh q).1
  obtain⟨z1,z2⟩:=endK_nil h
  rw[List.nil_append,if_neg (by cases strs<;>simp[hn.2.1,hn.2.2]),hi,z1,z2]
 ·rw[h]at ek
  obtain⟨x,b,rfl,ex,eb⟩:=List.map_eq_cons_iff.1 ek
  obtain rfl:=List.map_eq_nil_iff.1 eb
  have hi:e.hi=true:=by
   cases q:e.hi with
   |true=>rfl
   |false=>rw[hl q]at h;cases h
  have hx:hdK ([x]++k2)=t:=ex
  rw[hx,if_pos hs,ht,hm,if_pos (hh hi).2,tkF_ok (by exact hn.1),hi]
  rfl
theorem range_read {k:Int} {strs:Bool} {e:Nd} {k1 k2:List Tk} (ek:k1.map (·.k)=endK strs e.s e.lo++(.sign 46::endK strs e.t e.up)) (hn:NoSo (hdK k2))
  (hh:e.hi=true→¬endK strs e.t e.up= []∧(less (if strs=true then e.s else noS) (if strs=true then e.t else noS)∨(if strs=true then 0 else e.lo)<(if strs=true then 0 else e.up))) (hl:e.hi=false→endK strs e.t e.up= []):
  rangeF k strs (k1++k2)=.ok (k2,⟨k,(if strs=true then e.s else noS),e.hi,(if strs=true then e.t else noS),(if strs=true then 0 else e.lo),(if strs=true then 0 else e.up),0⟩):=by
 obtain⟨a,b,rfl,ea,eb⟩:=List.map_eq_append_iff.1 ek
 obtain⟨y,b,rfl,ey,eb⟩:=List.map_eq_cons_iff.1 eb
 have nb:(hdK (b++k2)).isBad=false:=by
  rcases lx_end_hd (strs:=strs) (s:=e.t) (n:=e.up)with h|⟨t,h,hb,_⟩
  ·rw[h]at eb
   obtain rfl:=List.map_eq_nil_iff.1 eb
   exact hn.1
  ·exact HdG.of ⟨t,[],h,hb⟩ eb
 have hdots:∀a:TkK,a.txt=(if strs=true then e.s else noS)→a.nm=(if strs=true then 0 else e.lo)→dotsF k strs a (y::(b++k2))=.ok (k2,⟨k,(if strs=true then e.s else noS),e.hi,(if strs=true then e.t else noS),(if strs=true then 0 else e.lo),(if strs=true then 0 else e.up),0⟩):=by
  intro a h1 h2
  unfold dotsF expectF
  rw[if_pos (by show y.k.isSign 46=true;rw[ey];rfl),tkF_ok (by exact nb)]
  have:=up_read (k:=k) (a:=a) eb hn (by rw[h1,h2];exact hh) hl
  rw[h1,h2]at this
  exact this
 unfold rangeF
 rcases lx_end_hd (strs:=strs) (s:=e.s) (n:=e.lo)with h|⟨t,h,hb,hs,ht,hm⟩
 ·rw[h]at ea
  obtain rfl:=List.map_eq_nil_iff.1 ea
  obtain⟨z1,z2⟩:=endK_nil h
  simp only[List.nil_append,List.cons_append]
  rw[if_neg (by show¬y.k.isSort strs=true;rw[ey];cases strs<;>simp[TkK.isSort])]
  exact hdots .fin (by rw[z1];rfl) (by rw[z2];rfl)
 ·rw[h]at ea
  obtain⟨x,c,rfl,ex,ec⟩:=List.map_eq_cons_iff.1 ea
  obtain rfl:=List.map_eq_nil_iff.1 ec
  simp only[List.singleton_append,List.cons_append,List.nil_append]
  have hx:hdK (x::y::(b++k2))=t:=ex
  rw[hx,if_pos hs,tkF_ok (by show y.k.isBad=false;rw[ey];rfl)]
  exact hdots t ht hm
theorem nx_cons {b:UInt8} {l:List UInt8} (h:isLet b=false∧isDig b=false):b::l≠ []∧NxO (b::l):=⟨by simp,fun x hx=>by simp at hx;subst hx;exact h⟩
theorem leaf_read {e:Nd} (h:GoodN e) (hn:NumN e) (ha:arity e.kind=0):∃K,1≤e.kind∧e.kind≤13∧Lx true (leafM e) (.word e.kind::K)∧HdG (K++ [.fin])∧∀k1 k2:List Tk,k1.map (·.k)=K→NoSo (hdK k2)→argsF e.kind (k1++k2)=.ok (k2,e):=by
 obtain⟨kd,s,hi,t,lo,up,n⟩:=e
 obtain⟨l0,l1,u0,u1⟩:=hn
 obtain⟨hs,ht,hh,hk⟩:=h
 simp only at hs ht hh hk l0 l1 u0 u1 ha⊢
 have hkd:1≤kd∧kd≤13:=by
  have:¬(kd=14∨kd=15∨kd=16):=by
   intro q
   unfold arity at ha
   rcases q with rfl|rfl|rfl<;>simp at ha
  omega
 have hw:=lx_word hkd.1 hkd.2
 have hno:∀{c:Bool} {l:List UInt8} {K:List TkK},Lx c l K→Lx c (bl (wordA kd)++32::l) (.word kd::K):=fun hl=>hw.seq hl.space (fun _=>nx_cons (by decide))
 rcases hk with⟨h1,⟨rfl,h3,rfl,rfl,rfl⟩,h7⟩|⟨h1,⟨rfl,rfl,rfl⟩,h7⟩|⟨h1,⟨h2,h3,rfl⟩,h7⟩|⟨h1,⟨h2,rfl,h3,rfl,rfl⟩,h7,h8⟩|⟨h1,h2,rfl,h3,rfl,rfl,rfl⟩
 ·obtain rfl:=noS_of h3
  refine⟨[.str s],hkd.1,hkd.2,?_,⟨_,_,rfl,rfl⟩,fun k1 k2 ek nk=>?_⟩
  ·unfold leafM tailM
   simp only
   rw[if_pos h1,List.singleton_append]
   exact hno (lx_str hs).weak
  ·obtain⟨x,b,rfl,ex,eb⟩:=List.map_eq_cons_iff.1 ek
   obtain rfl:=List.map_eq_nil_iff.1 eb
   unfold argsF
   rw[if_neg (by omega),if_pos (by omega),show hdK ([x]++k2)=.str s from ex]
   dsimp only
   rw[if_pos h7,tkF_ok (by exact nk.1)]
   rfl
 ·refine⟨endK true s 0++(.sign 46::endK true t 0),hkd.1,hkd.2,?_,?_,fun k1 k2 ek nk=>?_⟩
  ·unfold leafM tailM
   simp only
   rw[if_neg (by omega),if_pos (by omega)]
   simp only[List.append_assoc,List.singleton_append]
   refine hno ?_
   refine(lx_end (strs:=true) hs (by omega) (by omega) (fun _=>rfl) (by simp)).seq ?_ (fun _=>nx_cons (by decide))
   exact lx_dots.seq (lx_end (strs:=true) ht (by omega) (by omega) (fun _=>rfl) (by simp)) (by simp)
  ·rcases lx_end_hd (strs:=true) (s:=s) (n:=0)with q|⟨x,q,qb,_⟩
   ·rw[q];exact⟨_,_,rfl,rfl⟩
   ·rw[q];exact⟨_,_,rfl,qb⟩
  ·have:=range_read (k:=kd) (strs:=true) (e:=⟨kd,s,hi,t,0,0,0⟩) ek nk (fun q=>⟨fun z=>by
     have z1:=(endK_nil z).1
     simp only[if_pos]at z1
     have z2:=h7 q
     subst z1
     exact less_nil s z2,.inl (by simpa using h7 q)⟩) (fun q=>by
     have:=(hh q).1
     unfold endK
     rw[if_pos rfl,if_pos this])
   unfold argsF
   rw[if_neg (by omega),if_neg (by omega),if_pos (by omega),this]
   rfl
 ·obtain rfl:=noS_of h2
  obtain rfl:=noS_of h3
  refine⟨endK false noS lo++(.sign 46::endK false noS up),hkd.1,hkd.2,?_,?_,fun k1 k2 ek nk=>?_⟩
  ·unfold leafM tailM
   simp only
   rw[if_neg (by omega),if_pos (by omega)]
   simp only[List.append_assoc,List.singleton_append]
   refine hno ?_
   refine(lx_end (strs:=false) hs l0 l1 (by simp) (fun _=>h2)).seq ?_ (fun _=>nx_cons (by decide))
   exact lx_dots.seq (lx_end (strs:=false) ht u0 u1 (by simp) (fun _=>h3)) (by simp)
  ·rcases lx_end_hd (strs:=false) (s:=noS) (n:=lo)with q|⟨x,q,qb,_⟩
   ·rw[q];exact⟨_,_,rfl,rfl⟩
   ·rw[q];exact⟨_,_,rfl,qb⟩
  ·have:=range_read (k:=kd) (strs:=false) (e:=⟨kd,noS,hi,noS,lo,up,0⟩) ek nk (fun q=>⟨fun z=>by
     have z1:up=0:=by simpa using (endK_nil z).2
     have z2:=h7 q
     omega,.inr (by simpa using h7 q)⟩) (fun q=>by
     have:=(hh q).2
     unfold endK
     rw[if_neg (by simp),if_pos this])
   unfold argsF
   rw[if_neg (by omega),if_neg (by omega),if_neg (by omega),if_pos (by omega),this]
   rfl
 ·obtain rfl:=noS_of h2
  obtain rfl:=noS_of h3
  refine⟨[.num n],hkd.1,hkd.2,?_,⟨_,_,rfl,rfl⟩,fun k1 k2 ek nk=>?_⟩
  ·unfold leafM tailM
   simp only
   rw[if_neg (by omega),if_neg (by omega),if_pos h1,List.singleton_append]
   have:=lx_num (n:=n.toNat) (by omega)
   rw[Int.toNat_of_nonneg (by omega)]at this
   exact hno this
  ·obtain⟨x,b,rfl,ex,eb⟩:=List.map_eq_cons_iff.1 ek
   obtain rfl:=List.map_eq_nil_iff.1 eb
   unfold argsF
   rw[if_neg (by omega),if_neg (by omega),if_neg (by omega),if_neg (by omega),show hdK ([x]++k2)=.num n from ex]
   dsimp only
   rw[if_pos ⟨h7,h8⟩,tkF_ok (by exact nk.1)]
   rfl
 ·obtain rfl:=noS_of h2
  obtain rfl:=noS_of h3
  refine⟨[],hkd.1,hkd.2,?_,⟨_,_,rfl,rfl⟩,fun k1 k2 ek nk=>?_⟩
  ·unfold leafM tailM
   simp only
   rw[if_neg (by omega),if_neg (by omega),if_neg (by omega),List.append_nil]
   exact hw
  ·obtain rfl:=List.map_eq_nil_iff.1 ek
   unfold argsF
   rw[if_pos (by omega)]
   rfl
theorem rd_leaf {e:Nd} (h:GoodN e) (hn:NumN e) (ha:arity e.kind=0):∃K,Lx true (leafM e) K∧HdG K∧∀F d,Rd Any (PrimR F d) K [e]:=by
 obtain⟨K,h1,h2,h3,h4,h5⟩:=leaf_read h hn ha
 refine⟨.word e.kind::K,h3,⟨_,_,rfl,rfl⟩,fun F d ks md out k1 k2 e1 e2 nk _ hm=>?_⟩
 obtain⟨x,b,rfl,ex,eb⟩:=List.map_eq_cons_iff.1 e2
 subst e1
 have hb:(hdK (b++k2)).isBad=false:=by
  cases b with
  |nil=>exact nk.1
  |cons y b=>
   obtain⟨t,L,q,ht⟩:=h4
   rw[←eb]at q
   simp only[List.map_cons,List.cons_append,List.cons.injEq]at q
   show y.k.isBad=false
   rw[q.1];exact ht
 refine .inr (.inr (.inl ⟨e.kind,ex,by omega,.inr ⟨_,(maker_ok (by simp at hm;omega) hb).symm,?_⟩⟩))
 show _=argF _ _
 unfold argF
 rw[h5 b k2 eb nk]
 rfl
inductive All2 {α β:Type} (Q:α→β→Prop):List α→List β→Prop
 |nil:All2 Q [] []
 |cons {a:α} {b:β} {xa:List α} {xb:List β} (h:Q a b) (t:All2 Q xa xb):All2 Q (a::xa) (b::xb)
theorem All2.append {α β:Type} {Q:α→β→Prop} {xa:List α} {xb:List β} (h:All2 Q xa xb) {cs:List α} {ds:List β} (k:All2 Q cs ds):All2 Q (xa++cs) (xb++ds):=by
 induction h with
 |nil=>exact k
 |cons h _ ih=>exact .cons h ih
theorem All2.split {α β:Type} {Q:α→β→Prop}:∀{xa cs:List α} {xb:List β},All2 Q (xa++cs) xb→∃b1 b2,xb=b1++b2∧All2 Q xa b1∧All2 Q cs b2
 | [],cs,xb,h=>⟨[],xb,rfl,.nil,h⟩
 |a::xa,cs,_,.cons h t=>by
  obtain⟨b1,b2,rfl,h1,h2⟩:=All2.split t
  exact⟨_::b1,b2,rfl,.cons h h1,h2⟩
noncomputable def VV (n:Nd) (os:List (PT×Shape)):PT×Shape:=(printV n (os.map (·.1)),shapeM goodB n (os.map (·.2)))
theorem vv_text {ss:List (PT×Shape)} {xs:List Nd} (h:TrV VV ss xs):TrV printV (ss.map (·.1)) xs:=by
 exact zzQ81
theorem vv_shape {ss:List (PT×Shape)} {xs:List Nd} (h:TrV VV ss xs):ShT goodB (ss.map (·.2)) xs:=by
 exact zzQ81
abbrev N62 (t:TkK):Prop:=t.isSign 62=false
def Kn (st d:Nat) (K:List TkK) (p:List Nd):Prop:=(st=3→Rd Any (PrimR (Fd d) d) K p)∧(2≤st→Rd Any (JoinO 62 14 (PrimR (Fd d) d)) K p)∧Rd N62 (JoinO 124 15 (ChaR (Fd d) d)) K p
theorem kn_cha {st d:Nat} {K:List TkK} {p:List Nd} (hs:¬st=3) (h:Rd Any (JoinO 62 14 (PrimR (Fd d) d)) K p):Kn st d K p:=
 ⟨fun q=>absurd q hs,fun _=>h,rd_up (rd_weak (rd_close h) (fun t q=>⟨trivial,q⟩)) 124 15⟩
theorem kn_prim {st d:Nat} {K:List TkK} {p:List Nd} (h:Rd Any (PrimR (Fd d) d) K p):Kn st d K p:=by
 have h1:=rd_up h 62 14
 exact⟨fun _=>h,fun _=>h1,rd_up (rd_weak (rd_close h1) (fun t q=>⟨trivial,q⟩)) 124 15⟩
theorem Kn.fil {st d:Nat} {K:List TkK} {p:List Nd} (h:Kn st d K p):Rd (fun t=>N62 t∧t.isSign 124=false) (FilR d) K p:=by
 rw[filR_eq]
 exact rd_close h.2.2
def QQ (x:PT×Shape) (p:List Nd):Prop:=x.2.kind=x.1.1∧∃K,Lx true x.1.2 K∧HdG K∧∀d,x.2.nest≤d→Kn (strong x.1.1) d K p
theorem qq_opd {x:PT×Shape} {p:List Nd} (h:QQ x p) (op:Int) (i:Nat):∃K,Lx true (wrapT op i x.1) K∧HdG K∧∀d,x.2.nest+(if wrapB op i x.1.1=true then 1 else 0)≤d→Kn (if wrapB op i x.1.1=true then 3 else strong x.1.1) d K p:=by
 obtain⟨_,K,h1,h2,h3⟩:=h
 unfold wrapT
 by_cases hw:wrapB op i x.1.1=true
 ·rw[if_pos hw,if_pos hw,if_pos hw]
  refine⟨.sign 40::(K++ [.sign 41]),?_,⟨_,_,rfl,rfl⟩,fun d hd=>?_⟩
  ·rw[List.append_assoc]
   refine(lx_sign (by simp)).seq (K1:= [.sign 40]) ?_ (by simp)
   exact h1.seq (lx_sign (by simp)).weak (fun _=>nx_cons (by decide))
  ·obtain⟨d,rfl⟩:∃c,d=c+1:=⟨d-1,by omega⟩
   exact kn_prim (rd_paren (h3 d (by omega)).fil ⟨rfl,rfl⟩ h2)
 ·rw[if_neg hw,if_neg hw,if_neg hw]
  exact⟨K,h1,h2,fun d hd=>h3 d (by omega)⟩
theorem leaf_good {n:Nd} (h:GoodN n) (ha:¬arity n.kind=0):n=leafN n.kind∧(n.kind=14∨n.kind=15∨n.kind=16):=by
 have hk:n.kind=14∨n.kind=15∨n.kind=16:=by
  unfold arity at ha
  by_cases h1:n.kind=14∨n.kind=15
  ·omega
  ·rw[if_neg h1]at ha
   by_cases h2:n.kind=16
   ·omega
   ·rw[if_neg h2]at ha;omega
 obtain⟨kd,s,hi,t,lo,up,m⟩:=n
 obtain⟨_,_,_,h4⟩:=h
 simp only at hk h4⊢
 rcases h4 with⟨q,_⟩|⟨q,_⟩|⟨q,_⟩|⟨q,_⟩|⟨q,h2,h3,h5,h6,h7,h8⟩
 ·omega
 ·omega
 ·omega
 ·omega
 ·rw[noS_of h2,h3,noS_of h5,h6,h7,h8]
  exact⟨rfl,hk⟩
theorem nest2 (n:Nd) (x y:Shape):(shapeM goodB n [x,y]).nest=max (max 0 (x.nest+if level n.kind 0 x.kind then 1 else 0)) (y.nest+if level n.kind 1 y.kind then 1 else 0):=rfl
theorem nest3 (n:Nd) (x y z:Shape):(shapeM goodB n [x,y,z]).nest=max (max (max 0 (x.nest+if level n.kind 0 x.kind then 1 else 0)) (y.nest+if level n.kind 1 y.kind then 1 else 0)) (z.nest+if level n.kind 2 z.kind then 1 else 0):=rfl
theorem wrap_level {op:Int} (h:¬op=16) (i:Nat) (k:Int):wrapB op i k=level op i k:=by unfold wrapB;rw[if_neg h]
theorem strong_le (k:Int):1≤strong k∧strong k≤3:=by
 unfold strong
 by_cases h1:k=15
 ·rw[if_pos h1];omega
 ·rw[if_neg h1]
  by_cases h2:k=14
  ·rw[if_pos h2];omega
  ·rw[if_neg h2];omega
theorem qq_two {n:Nd} (hn:n=leafN n.kind) (hk:n.kind=14∨n.kind=15) {x y:PT×Shape} {p q:List Nd} (hx:QQ x p) (hy:QQ y q):QQ (VV n [x,y]) (p++q++ [n]):=by
 have h16:¬n.kind=16:=by omega
 obtain⟨K1,a1,a2,a3⟩:=qq_opd hx n.kind 0
 obtain⟨K2,b1,b2,b3⟩:=qq_opd hy n.kind 1
 rw[wrap_level h16]at a3 b3
 have hnest:(VV n [x,y]).2.nest=max (max 0 (x.2.nest+if level n.kind 0 x.1.1 then 1 else 0)) (y.2.nest+if level n.kind 1 y.1.1 then 1 else 0):=by
  show(shapeM goodB n [x.2,y.2]).nest=_
  rw[nest2,hx.1,hy.1]
 have htxt:(VV n [x,y]).1.2=wrapT n.kind 0 x.1++(sepM n.kind++wrapT n.kind 1 y.1):=by
  show(printV n [x.1,y.1]).2=_
  unfold printV
  simp[joinM,h16]
 have hsep:∃b,(b=62∨b=124)∧(n.kind=14→b=62)∧(n.kind=15→b=124)∧sepM n.kind= [32,b,32]:=by
  unfold sepM
  rw[if_neg h16]
  rcases hk with h|h
  ·exact⟨62,.inl rfl,fun _=>rfl,fun q=>by omega,by rw[if_neg (by omega)]⟩
  ·exact⟨124,.inr rfl,fun q=>by omega,fun _=>rfl,by rw[if_pos h]⟩
 obtain⟨b,hb,hb14,hb15,hsep⟩:=hsep
 refine⟨rfl,K1++(.sign b::K2),?_,?_,fun d hd=>?_⟩
 ·rw[htxt,hsep]
  refine a1.seq ?_ (fun _=>nx_cons (by decide))
  refine Lx.space ?_
  show Lx true ([b]++(32::wrapT n.kind 1 y.1)) ([.sign b]++K2)
  exact(lx_sign (by rcases hb with rfl|rfl<;>simp)).seq b1.space (by simp)
 ·obtain⟨t,L,rfl,ht⟩:=a2
  exact⟨t,_,rfl,ht⟩
 ·rw[hnest]at hd
  have d1:=a3 d (by omega)
  have d2:=b3 d (by omega)
  have e:p++q++ [n]=p++(q++ [leafN n.kind]):=by rw[←hn,List.append_assoc]
  rw[e]
  have s1:=strong_le x.1.1
  have s2:=strong_le y.1.1
  show Kn (strong n.kind) d _ _
  rcases hk with h|h
  ·rw[h]at d1 d2⊢
   rw[hb14 h]
   have t1:2≤(if level 14 0 x.1.1=true then 3 else strong x.1.1):=by
    split
    ·omega
    ·rename_i q
     unfold level at q
     simp[strong]at q
     exact q
   have t2:(if level 14 1 y.1.1=true then 3 else strong y.1.1)=3:=by
    split
    ·rfl
    ·rename_i q
     have z:¬strong y.1.1≤2:=fun z=>q (by
      unfold level
      rw[show strong 14=2 from rfl]
      simp[z])
     omega
   exact kn_cha (by decide) (rd_join (d1.2.1 t1) trivial (d2.1 t2) b2)
  ·rw[h]at d1 d2⊢
   rw[hb15 h]
   have t2:2≤(if level 15 1 y.1.1=true then 3 else strong y.1.1):=by
    split
    ·omega
    ·rename_i q
     unfold level at q
     simp[strong]at q
     exact q
   refine⟨fun q=>absurd q (by decide),fun q=>absurd q (by decide),?_⟩
   exact rd_join d1.2.2 rfl (rd_weak (rd_close (d2.2.1 t2)) (fun t q=>⟨trivial,q⟩)) b2
theorem qq_three {n:Nd} (hn:n=leafN n.kind) (hk:n.kind=16) {x y z:PT×Shape} {p q r:List Nd} (hx:QQ x p) (hy:QQ y q) (hz:QQ z r):QQ (VV n [x,y,z]) (p++q++r++ [n]):=by
 obtain⟨hxk,K1,a1,a2,a3⟩:=hx
 obtain⟨hyk,K2,b1,b2,b3⟩:=hy
 obtain⟨hzk,K3,c1,c2,c3⟩:=hz
 have hnest:(VV n [x,y,z]).2.nest=max (max (max 0 (x.2.nest+1)) (y.2.nest+1)) (z.2.nest+1):=by
  show(shapeM goodB n [x.2,y.2,z.2]).nest=_
  rw[nest3,hk]
  simp[level]
 have htxt:(VV n [x,y,z]).1.2= [105,102]++([40]++(x.1.2++([44]++(32::(y.1.2++([44]++(32::(z.1.2++ [41])))))))):=by
  show(printV n [x.1,y.1,z.1]).2=_
  unfold printV
  simp[joinM,hk,wrapT,wrapB,sepM]
 refine⟨rfl,.word 16:: .sign 40::(K1++(.sign 44::(K2++(.sign 44::(K3++ [.sign 41]))))),?_,⟨_,_,rfl,rfl⟩,fun d hd=>?_⟩
 ·rw[htxt]
  refine lx_if.seq (K1:= [.word 16]) ?_ (fun _=>nx_cons (by decide))
  refine(lx_sign (by simp)).seq (K1:= [.sign 40]) ?_ (by simp)
  refine a1.seq ?_ (fun _=>nx_cons (by decide))
  refine(lx_sign (by simp)).seq (K1:= [.sign 44]) (Lx.space ?_) (by simp)
  refine b1.seq ?_ (fun _=>nx_cons (by decide))
  refine(lx_sign (by simp)).seq (K1:= [.sign 44]) (Lx.space ?_) (by simp)
  exact c1.seq (lx_sign (by simp)).weak (fun _=>nx_cons (by decide))
 ·rw[hnest]at hd
  obtain⟨d,rfl⟩:∃c,d=c+1:=⟨d-1,by omega⟩
  have e:p++q++r++ [n]=p++(q++(r++ [leafN 16])):=by rw[hn,hk];simp
  rw[e]
  exact kn_prim (rd_if (a3 d (by omega)).fil (b3 d (by omega)).fil (c3 d (by omega)).fil ⟨⟨rfl,rfl⟩,⟨rfl,rfl⟩⟩ a2 b2 c2)
theorem qq_all {ss:List (PT×Shape)} {xs:List Nd} (h:TrV VV ss xs) (hg:∀e∈xs,GoodN e∧NumN e):∃ps,ps.flatten=xs∧All2 QQ ss ps:=by
 induction h with
 |nil=>exact⟨[],rfl,.nil⟩
 | @snoc ss os xs n ho h ih=>
   obtain⟨ps,hp,hq⟩:=ih (fun e he=>hg e (by simp[he]))
   obtain⟨pa,pb,rfl,q1,q2⟩:=hq.split
   obtain⟨g1,g2⟩:=hg n (by simp)
   refine⟨pa++ [pb.flatten++ [n]],by rw[←hp];simp,q1.append (.cons ?_ .nil)⟩
   by_cases ha:arity n.kind=0
   ·rw[ha]at ho
    obtain rfl:=List.length_eq_zero_iff.1 ho
    cases q2
    obtain⟨K,k1,k2,k3⟩:=rd_leaf g1 g2 ha
    exact⟨rfl,K,k1,k2,fun d _=>kn_prim (k3 _ _)⟩
   ·obtain⟨l1,l2⟩:=leaf_good g1 ha
    by_cases h16:n.kind=16
    ·have ho3:os.length=3:=by rw[ho,h16];rfl
     match os,ho3,q2 with
     | [x,y,z],_,.cons hx (.cons hy (.cons hz .nil))=>
       rename_i p q r
       have:=qq_three l1 h16 hx hy hz
       simpa using this
    ·have hk:n.kind=14∨n.kind=15:=by omega
     have ho2:os.length=2:=by rw[ho];rcases hk with h|h<;>rw[h]<;>rfl
     match os,ho2,q2 with
     | [x,y],_,.cons hx (.cons hy .nil)=>
       have:=qq_two l1 hk hx hy
       simpa using this
theorem text_parse {xs:List Nd} {y:PT} (h:GoodF xs) (hn:∀e∈xs,NumN e) (ht:TextF xs y):∃ks s,LexR y.2 0 ks∧ParR ks (.ok s)∧s.out=xs:=by
 have hg:=goodF_all h
 obtain⟨hlen,s,hs,hv,hnest⟩:=h
 obtain⟨ss,hl,hss⟩:=IsT.trv VV (ShT.tree goodB hs)
 match ss,hl with
 | [x],_=>
   have e1:y=x.1:=textF_one ht (vv_text hss)
   have e2:s=x.2:=sh_one hs (vv_shape hss)
   obtain⟨ps,hp,hq⟩:=qq_all hss (fun e he=>⟨hg e he,hn e he⟩)
   cases hq with
   |cons hx t=>
    cases t
    rename_i p
    have hpx:p=xs:=by simpa using hp
    subst hpx
    obtain⟨_,K,k1,k2,k3⟩:=hx
    have k4:=(k3 20 (by rw[←e2];exact hnest)).fil
    obtain⟨ks,hk,hm⟩:=k1 [] 0 [⟨.fin,0+x.1.2.length⟩] (fun _ b hb=>by simp at hb) .fin
    rw[List.append_nil]at hk
    refine⟨ks++ [⟨.fin,0+x.1.2.length⟩],⟨[⟨.fin,0+x.1.2.length⟩],0+p.length,[]++p⟩,by rw[e1];exact hk,.inr ⟨k2.of hm,.inr ⟨_,k4 _ 0 [] ks _ rfl hm ⟨rfl,rfl,rfl⟩ ⟨rfl,rfl⟩ (by omega),?_⟩⟩,by simp⟩
    rfl
def TG (ks:List Tk):Prop:=∀k∈ks,k.k.good∨k.k=.fin∨k.k=.bad
theorem toks_tg {ks:List Tk} (h:Toks ks):TG ks:=by
 induction h with
 |last k h=>intro x hx;simp at hx;subst hx;exact .inr h
 |more k h _ ih=>
  intro x hx
  rcases List.mem_cons.1 hx with rfl|hx
  ·exact .inl h
  ·exact ih x hx
theorem TG.tail {ks:List Tk} (h:TG ks):TG ks.tail:=fun k hk=>h k (List.mem_of_mem_tail hk)
theorem TG.hd {ks:List Tk} (h:TG ks):(hdK ks).good∨hdK ks=.fin∨hdK ks=.bad:=by
 cases ks with
 |nil=>exact .inr (.inl rfl)
 |cons k ks=>exact h k (by simp)
theorem takeF_ok {ks ks':List Tk} (h:takeF ks=.ok ks'):ks'=ks.tail:=by
 unfold takeF at h
 split at h
 ·cases h
 ·cases h;rfl
theorem expectF_ok {b:UInt8} {ks ks':List Tk} (h:expectF b ks=.ok ks'):ks'=ks.tail:=by
 unfold expectF at h
 split at h
 ·exact takeF_ok h
 ·cases h
theorem noS_list:noS.toList= []:=by rw[ByteArray.toList_eq];rfl
theorem good_kind {k:Int} (h:k=1∨k=2∨k=3∨k=14∨k=15∨k=16):GoodN (leafN k)∧NumN (leafN k):=
 ⟨⟨by show noS.size≤200;decide,by show noS.size≤200;decide,fun _=>⟨noS_list,rfl⟩,.inr (.inr (.inr (.inr ⟨h,noS_list,rfl,noS_list,rfl,rfl,rfl⟩)))⟩,by show(0:Int)≤0;omega,by show(0:Int)<2^64;omega,by show(0:Int)≤0;omega,by show(0:Int)<2^64;omega⟩
theorem sort_good {t:TkK} (h:t.good∨t=.fin∨t=.bad) (strs:Bool) (hs:t.isSort strs=true∨t=.fin):t.txt.size≤200∧0≤t.nm∧t.nm<2^64∧(strs=true→t.nm=0)∧(strs=false→t.txt.toList= []):=by
 cases t with
 |str s=>
  rcases h with h|h|h
  ·refine⟨h,by show(0:Int)≤0;omega,by show(0:Int)<2^64;omega,fun _=>rfl,fun q=>?_⟩
   subst q
   rcases hs with q|q<;>cases q
  ·cases h
  ·cases h
 |num n=>
  rcases h with h|h|h
  ·refine⟨by show noS.size≤200;decide,h.1,h.2,fun q=>?_,fun _=>noS_list⟩
   subst q
   rcases hs with q|q<;>cases q
  ·cases h
  ·cases h
 |fin=>exact⟨by show noS.size≤200;decide,by show(0:Int)≤0;omega,by show(0:Int)<2^64;omega,fun _=>rfl,fun _=>noS_list⟩
 |word k=>rcases hs with q|q<;>cases q
 |sign b=>rcases hs with q|q<;>cases q
 |bad=>rcases hs with q|q<;>cases q
def LeafG (kd:Int) (n:Nd):Prop:=GoodN n∧NumN n∧n.kind=kd
theorem range_good {kd:Int} {strs:Bool} (hk:(strs=true∧(kd=8∨kd=9))∨(strs=false∧kd=10)) {a:TkK} (ha:a.good∨a=.fin∨a=.bad) (has:a.isSort strs=true∨a=.fin) {ks ks':List Tk} {n:Nd} (ht:TG ks) (h:upF kd strs a ks=.ok (ks',n)):LeafG kd n∧TG ks':=by
 obtain⟨a1,a2,a3,a4,a5⟩:=sort_good ha strs has
 unfold upF at h
 split at h
 ·rename_i hso
  obtain⟨b1,b2,b3,b4,b5⟩:=sort_good ht.hd strs (.inl hso)
  split at h
  ·rename_i hlt
   cases ht2:takeF ks with
   |error e=>rw[ht2]at h;cases h
   |ok k2=>
    rw[ht2]at h
    cases h
    refine⟨⟨⟨a1,b1,fun q=>(by cases q),?_⟩,⟨a2,a3,b2,b3⟩,rfl⟩,by rw[takeF_ok ht2];exact ht.tail⟩
    rcases hk with⟨rfl,hk⟩|⟨rfl,hk⟩
    ·refine .inr (.inl ⟨hk,⟨a4 rfl,b4 rfl,rfl⟩,fun _=>?_⟩)
     rcases hlt with q|q
     ·exact q
     ·rw[a4 rfl,b4 rfl]at q;omega
    ·refine .inr (.inr (.inl ⟨hk,⟨a5 rfl,b5 rfl,rfl⟩,fun _=>?_⟩))
     rcases hlt with q|q
     ·rw[noS_of (b5 rfl)]at q
      exact absurd q (less_nil _)
     ·exact q
  ·cases h
 ·cases h
  refine⟨⟨⟨a1,by show noS.size≤200;decide,fun _=>⟨noS_list,rfl⟩,?_⟩,⟨a2,a3,by show(0:Int)≤0;omega,by show(0:Int)<2^64;omega⟩,rfl⟩,ht⟩
  rcases hk with⟨rfl,hk⟩|⟨rfl,hk⟩
  ·exact .inr (.inl ⟨hk,⟨a4 rfl,rfl,rfl⟩,fun q=>(by cases q)⟩)
  ·exact .inr (.inr (.inl ⟨hk,⟨a5 rfl,noS_list,rfl⟩,fun q=>(by cases q)⟩))
theorem dots_good {kd:Int} {strs:Bool} (hk:(strs=true∧(kd=8∨kd=9))∨(strs=false∧kd=10)) {a:TkK} (ha:a.good∨a=.fin∨a=.bad) (has:a.isSort strs=true∨a=.fin) {ks ks':List Tk} {n:Nd} (ht:TG ks) (h:dotsF kd strs a ks=.ok (ks',n)):LeafG kd n∧TG ks':=by
 unfold dotsF at h
 cases he:expectF 46 ks with
 |error e=>rw[he]at h;cases h
 |ok k2=>
  rw[he]at h
  exact range_good hk ha has (by rw[expectF_ok he];exact ht.tail) h
theorem rangeF_good {kd:Int} {strs:Bool} (hk:(strs=true∧(kd=8∨kd=9))∨(strs=false∧kd=10)) {ks ks':List Tk} {n:Nd} (ht:TG ks) (h:rangeF kd strs ks=.ok (ks',n)):LeafG kd n∧TG ks':=by
 unfold rangeF at h
 split at h
 ·rename_i hso
  cases he:takeF ks with
  |error e=>rw[he]at h;cases h
  |ok k2=>
   rw[he]at h
   exact dots_good hk ht.hd (.inl hso) (by rw[takeF_ok he];exact ht.tail) h
 ·exact dots_good hk (.inr (.inl rfl)) (.inr rfl) ht h
theorem args_good {kd:Int} (h1:1≤kd) (h2:kd≤13) {ks ks':List Tk} {n:Nd} (ht:TG ks) (h:argsF kd ks=.ok (ks',n)):LeafG kd n∧TG ks':=by
 unfold argsF at h
 split at h
 ·cases h
  obtain⟨g1,g2⟩:=good_kind (k:=kd) (by omega)
  exact⟨⟨g1,g2,rfl⟩,ht⟩
 split at h
 ·have hg:=ht.hd
  cases hk:hdK ks with
  |str s=>
   rw[hk]at h hg
   dsimp only at h
   split at h
   ·rename_i hc
    cases he:takeF ks with
    |error e=>rw[he]at h;cases h
    |ok k2=>
     rw[he]at h
     cases h
     have hs:s.size≤200:=by
      rcases hg with q|q|q
      ·exact q
      ·cases q
      ·cases q
     refine⟨⟨⟨hs,by show noS.size≤200;decide,fun _=>⟨noS_list,rfl⟩,.inl ⟨by show kd=4∨kd=5∨kd=6∨kd=7;omega,⟨rfl,noS_list,rfl,rfl,rfl⟩,hc⟩⟩,⟨by show(0:Int)≤0;omega,by show(0:Int)<2^64;omega,by show(0:Int)≤0;omega,by show(0:Int)<2^64;omega⟩,rfl⟩,by rw[takeF_ok he];exact ht.tail⟩
   ·cases h
  |_=>rw[hk]at h;cases h
 split at h
 ·exact rangeF_good (.inl ⟨rfl,by omega⟩) ht h
 split at h
 ·exact rangeF_good (.inr ⟨rfl,by omega⟩) ht h
 ·cases hk:hdK ks with
  |num m=>
   rw[hk]at h
   dsimp only at h
   split at h
   ·rename_i hc
    cases he:takeF ks with
    |error e=>rw[he]at h;cases h
    |ok k2=>
     rw[he]at h
     cases h
     refine⟨⟨⟨by show noS.size≤200;decide,by show noS.size≤200;decide,fun _=>⟨noS_list,rfl⟩,.inr (.inr (.inr (.inl ⟨by show kd=11∨kd=12∨kd=13;omega,⟨noS_list,rfl,noS_list,rfl,rfl⟩,hc⟩)))⟩,⟨by show(0:Int)≤0;omega,by show(0:Int)<2^64;omega,by show(0:Int)≤0;omega,by show(0:Int)<2^64;omega⟩,rfl⟩,by rw[takeF_ok he];exact ht.tail⟩
   ·cases h
  |_=>rw[hk]at h;cases h
theorem ShT.app {ss:List Shape} {xs:List Nd} (h:ShT goodB ss xs) {ts:List Shape} {ys:List Nd} (k:ShT goodB ts ys):ShT goodB (ss++ts) (xs++ys):=by
 induction k with
 |nil=>simpa using h
 | @snoc ts os ys n ho _ ih=>
   rw[←List.append_assoc,←List.append_assoc]
   rw[←List.append_assoc]at ih
   exact .snoc n ho ih
structure Tre (p:List Nd) (sh:Shape):Prop where
 tr:ShT goodB [sh] p
 ok:sh.valid=true
 nn:∀e∈p,NumN e
def Gd (Q:Shape→Prop) (R:Ps→PR Ps→Prop):Prop:=∀s s1,R s (.ok s1)→TG s.ks→s.made≤200→∃p sh,s1.out=s.out++p∧Tre p sh∧Q sh∧s1.made=s.made+p.length∧s1.made≤200∧TG s1.ks
def Qp (d:Nat) (sh:Shape):Prop:=(strong sh.kind=3∧sh.nest≤d)∨sh.nest+1≤d
def Qc (d:Nat) (sh:Shape):Prop:=(2≤strong sh.kind∧sh.nest≤d)∨sh.nest+1≤d
def Qf (d:Nat) (sh:Shape):Prop:=sh.nest≤d
theorem tre_two {kd:Int} (hk:kd=14∨kd=15) {p q:List Nd} {a b:Shape} (ha:Tre p a) (hb:Tre q b):Tre (p++(q++ [leafN kd])) (shapeM goodB (leafN kd) [a,b]):=by
 obtain⟨g1,g2⟩:=good_kind (k:=kd) (by omega)
 refine⟨?_,?_,?_⟩
 ·have h:=ha.tr.app hb.tr
  have:=ShT.snoc (G:=goodB) (ss:= []) (os:= [a,b]) (xs:=p++q) (leafN kd) (by show 2=arity kd;rcases hk with rfl|rfl<;>rfl) h
  rw[List.append_assoc]at this
  exact this
 ·show(goodB (leafN kd) && [a,b].all (·.valid))=true
  rw[(goodB_iff _).2 g1]
  simp[ha.ok,hb.ok]
 ·intro e he
  rcases List.mem_append.1 he with he|he
  ·exact ha.nn e he
  ·rcases List.mem_append.1 he with he|he
   ·exact hb.nn e he
   ·rw[List.mem_singleton]at he;rw[he];exact g2
theorem tre_three {p q r:List Nd} {a b c:Shape} (ha:Tre p a) (hb:Tre q b) (hc:Tre r c):Tre (p++(q++(r++ [leafN 16]))) (shapeM goodB (leafN 16) [a,b,c]):=by
 obtain⟨g1,g2⟩:=good_kind (k:=16) (by omega)
 refine⟨?_,?_,?_⟩
 ·have h:=(ha.tr.app hb.tr).app hc.tr
  have:=ShT.snoc (G:=goodB) (ss:= []) (os:= [a,b,c]) (xs:=p++q++r) (leafN 16) (by show 3=arity 16;rfl) h
  simp only[List.append_assoc]at this
  exact this
 ·show(goodB (leafN 16) && [a,b,c].all (·.valid))=true
  rw[(goodB_iff _).2 g1]
  simp[ha.ok,hb.ok,hc.ok]
 ·intro e he
  rcases List.mem_append.1 he with he|he
  ·exact ha.nn e he
  ·rcases List.mem_append.1 he with he|he
   ·exact hb.nn e he
   ·rcases List.mem_append.1 he with he|he
    ·exact hc.nn e he
    ·rw[List.mem_singleton]at he;rw[he];exact g2
theorem maker_inv {s s1:Ps} (h:makerF s=.ok s1):s.made<200∧s1.made=s.made+1∧s1.out=s.out∧s1.ks=s.ks.tail:=by
 unfold makerF at h
 split at h
 ·rename_i hm
  cases ht:takeF s.ks with
  |error e=>rw[ht]at h;cases h
  |ok k2=>
   rw[ht]at h
   cases h
   exact⟨hm,rfl,rfl,takeF_ok ht⟩
 ·cases h
theorem to_inv {s s1:Ps} {r:PR (List Tk)} (h:s.to r=.ok s1) (hr:∀k,r=.ok k→k=s.ks.tail):s1.made=s.made∧s1.out=s.out∧s1.ks=s.ks.tail:=by
 cases r with
 |error e=>cases h
 |ok k=>cases h;exact⟨rfl,rfl,hr k rfl⟩
theorem enter_inv {d:Nat} {s s1:Ps} (h:enterF d s=.ok s1):¬d=0∧s1.made=s.made∧s1.out=s.out∧s1.ks=s.ks.tail:=by
 unfold enterF at h
 split at h
 ·split at h
  ·cases h
  ·rename_i hd
   exact⟨hd,to_inv h (fun k q=>takeF_ok q)⟩
 ·cases h
theorem leave_inv {s s1:Ps} (h:leaveF s=.ok s1):s1.made=s.made∧s1.out=s.out∧s1.ks=s.ks.tail:=to_inv h (fun k q=>expectF_ok q)
theorem comma_inv {s s1:Ps} (h:commaF s=.ok s1):s1.made=s.made∧s1.out=s.out∧s1.ks=s.ks.tail:=to_inv h (fun k q=>expectF_ok q)
theorem bind_ok {α β γ:Type} {A:α→PR β→Prop} {B:β→PR γ→Prop} {s:α} {x:γ} (h:bindR A B s (.ok x)):∃s1,A s (.ok s1)∧B s1 (.ok x):=by
 rcases h with⟨e,_,q⟩|h
 ·cases q
 ·exact h
theorem fn_ok {α β:Type} {f:α→PR β} {s:α} {x:β} (h:fnR f s (.ok x)):f s=.ok x:=Eq.symm h
theorem gd_loop {sg:UInt8} {kd:Int} (hk:kd=14∨kd=15) {R:Ps→PR Ps→Prop} {Q QJ:Shape→Prop} (hR:Gd Q R) (hQ:∀a b,QJ a→Q b→QJ (shapeM goodB (leafN kd) [a,b])) {s:Ps} {r:PR Ps} (h:LoopR sg kd R s r):∀s1,r=.ok s1→∀out0 md0 p sh,s.out=out0++p→Tre p sh→QJ sh→s.made=md0+p.length→s.made≤200→TG s.ks→
  ∃p' sh',s1.out=out0++p'∧Tre p' sh'∧QJ sh'∧s1.made=md0+p'.length∧s1.made≤200∧TG s1.ks:=by
 induction h with
 |stop h=>
  intro s1 q out0 md0 p sh h1 h2 h3 h4 h5 h6
  cases q
  exact⟨p,sh,h1,h2,h3,h4,h5,h6⟩
 |e1 h h1=>intro s1 q;cases q
 |e2 h h1 h2=>intro s1 q;cases q
 | @more s sa sb r h hm hr _ ih=>
   intro s1 q out0 md0 p sh h1 h2 h3 h4 h5 h6
   obtain⟨m1,m2,m3,m4⟩:=maker_inv hm
   obtain⟨p2,sh2,e1,e2,e3,e4,e5,e6⟩:=hR sa sb hr (by rw[m4];exact h6.tail) (by omega)
   refine ih s1 q out0 md0 (p++(p2++ [leafN kd])) _ ?_ (tre_two hk h2 e2) (hQ _ _ h3 e3) ?_ e5 e6
   ·show sb.out++ [leafN kd]=_
    rw[e1,m3,h1];simp
   ·show sb.made=_
    simp only[List.length_append,List.length_singleton]
    omega
theorem gd_join {sg:UInt8} {kd:Int} (hk:kd=14∨kd=15) {R:Ps→PR Ps→Prop} {Q QJ:Shape→Prop} (hR:Gd Q R) (h0:∀a,Q a→QJ a) (hQ:∀a b,QJ a→Q b→QJ (shapeM goodB (leafN kd) [a,b])):Gd QJ (JoinR sg kd R):=by
 intro s s1 h ht hm
 obtain⟨s0,h1,h2⟩:=bind_ok h
 obtain⟨p,sh,e1,e2,e3,e4,e5,e6⟩:=hR s s0 h1 ht hm
 exact gd_loop hk hR hQ h2 s1 rfl s.out s.made p sh e1 e2 (h0 _ e3) e4 e5 e6
theorem gd_prim {F:Ps→PR Ps→Prop} {d:Nat} (hF:0<d→Gd (Qf (d-1)) F):Gd (Qp d) (PrimR F d):=by
 intro s s1 h ht hm
 rcases h with⟨_,h⟩|⟨_,h⟩|⟨k,hk,h16,h⟩|⟨_,_,h⟩
 ·obtain⟨sa,ha,h⟩:=bind_ok h
  obtain⟨sb,hb,h⟩:=bind_ok h
  obtain⟨a0,a1,a2,a3⟩:=enter_inv (fn_ok ha)
  obtain⟨c1,c2,c3⟩:=leave_inv (fn_ok h)
  obtain⟨p,sh,e1,e2,e3,e4,e5,e6⟩:=hF (by omega) sa sb hb (by rw[a3];exact ht.tail) (by omega)
  have e3':sh.nest≤d-1:=e3
  exact⟨p,sh,by rw[c2,e1,a2],e2,.inr (by omega),by omega,by omega,by rw[c3];exact e6.tail⟩
 ·obtain⟨sm,hsm,h⟩:=bind_ok h
  obtain⟨sx,h,hx⟩:=bind_ok h
  obtain⟨sa,ha,h⟩:=bind_ok h
  obtain⟨s2,h2,h⟩:=bind_ok h
  obtain⟨s3,h3,h⟩:=bind_ok h
  obtain⟨s4,h4,h⟩:=bind_ok h
  obtain⟨s5,h5,h⟩:=bind_ok h
  obtain⟨s6,h6,h⟩:=bind_ok h
  obtain⟨m1,m2,m3,m4⟩:=maker_inv (fn_ok hsm)
  obtain⟨a0,a1,a2,a3⟩:=enter_inv (fn_ok ha)
  have hd:0<d:=by omega
  obtain⟨p,sp,p1,p2,p3,p4,p5,p6⟩:=hF hd sa s2 h2 (by rw[a3,m4];exact ht.tail.tail) (by omega)
  obtain⟨b1,b2,b3⟩:=comma_inv (fn_ok h3)
  obtain⟨q,sq,q1,q2,q3,q4,q5,q6⟩:=hF hd s3 s4 h4 (by rw[b3];exact p6.tail) (by omega)
  obtain⟨c1,c2,c3⟩:=comma_inv (fn_ok h5)
  obtain⟨r,sr,r1,r2,r3,r4,r5,r6⟩:=hF hd s5 s6 h6 (by rw[c3];exact q6.tail) (by omega)
  obtain⟨d1,d2,d3⟩:=leave_inv (fn_ok h)
  have hx2:=fn_ok hx
  cases hx2
  have p3':sp.nest≤d-1:=p3
  have q3':sq.nest≤d-1:=q3
  have r3':sr.nest≤d-1:=r3
  refine⟨p++(q++(r++ [leafN 16])),_,?_,tre_three p2 q2 r2,.inl ⟨rfl,?_⟩,?_,?_,?_⟩
  ·show sx.out++ [leafN 16]=_
   rw[d2,r1,c2,q1,b2,p1,a2,m3];simp
  ·rw[nest3]
   simp[level,leafN]
   omega
  ·show sx.made=_
   simp only[List.length_append,List.length_singleton]
   omega
  ·show sx.made≤200
   omega
  ·show TG sx.ks
   rw[d3];exact r6.tail
 ·obtain⟨sm,hsm,h⟩:=bind_ok h
  obtain⟨m1,m2,m3,m4⟩:=maker_inv (fn_ok hsm)
  have hkd:1≤k∧k≤13:=by
   have:=ht.hd
   rw[hk]at this
   rcases this with(q|q)|q|q
   ·exact q
   ·exact absurd q h16
   ·cases q
   ·cases q
  have h2:=fn_ok h
  unfold argF at h2
  cases ha:argsF k sm.ks with
  |error e=>rw[ha]at h2;cases h2
  |ok x=>
   obtain⟨ks',n⟩:=x
   rw[ha]at h2
   cases h2
   obtain⟨⟨g1,g2,g3⟩,g4⟩:=args_good hkd.1 hkd.2 (by rw[m4];exact ht.tail) ha
   have har:arity n.kind=0:=by
    rw[g3]
    unfold arity
    rw[if_neg (by omega),if_neg (by omega)]
   refine⟨[n],shapeM goodB n [],by rw[←m3],⟨?_,?_,?_⟩,.inl ⟨?_,?_⟩,?_,?_,g4⟩
   ·exact ShT.snoc (G:=goodB) (ss:= []) (os:= []) (xs:= []) n har.symm .nil
   ·show(goodB n && ([]:List Shape).all (·.valid))=true
    rw[(goodB_iff _).2 g1];rfl
   ·intro e he;rw[List.mem_singleton]at he;rw[he];exact g2
   ·show strong n.kind=3
    rw[g3]
    unfold strong
    rw[if_neg (by omega),if_neg (by omega)]
   ·exact Nat.zero_le _
   ·show sm.made=_;simp;omega
   ·show sm.made≤200;omega
 ·cases h
theorem gd_cha {F:Ps→PR Ps→Prop} {d:Nat} (hF:0<d→Gd (Qf (d-1)) F):Gd (Qc d) (ChaR F d):=by
 refine gd_join (.inl rfl) (gd_prim hF) (fun a h=>?_) (fun a b ha hb=>?_)
 ·rcases h with⟨h1,h2⟩|h
  ·exact .inl ⟨by omega,h2⟩
  ·exact .inr h
 ·refine .inl ⟨by show 2≤strong 14;decide,?_⟩
  rw[nest2]
  have la:(level 14 0 a.kind=true→strong a.kind<2):=fun q=>by
   unfold level at q
   rw[show strong 14=2 from rfl]at q
   simpa using q
  have lb:(level 14 1 b.kind=true→strong b.kind≤2):=fun q=>by
   unfold level at q
   rw[show strong 14=2 from rfl]at q
   simpa using q
  show max (max 0 (a.nest+if level 14 0 a.kind=true then 1 else 0)) (b.nest+if level 14 1 b.kind=true then 1 else 0)≤d
  have e1:a.nest+(if level 14 0 a.kind=true then 1 else 0)≤d:=by
   split
   ·rename_i q
    rcases ha with⟨h1,h2⟩|h
    ·have:=la q;omega
    ·exact h
   ·rcases ha with⟨h1,h2⟩|h
    ·exact h2
    ·omega
  have e2:b.nest+(if level 14 1 b.kind=true then 1 else 0)≤d:=by
   split
   ·rename_i q
    rcases hb with⟨h1,h2⟩|h
    ·have:=lb q;omega
    ·exact h
   ·rcases hb with⟨h1,h2⟩|h
    ·exact h2
    ·omega
  omega
theorem gd_fil0 {F:Ps→PR Ps→Prop} {d:Nat} (hF:0<d→Gd (Qf (d-1)) F):Gd (Qf d) (JoinR 124 15 (ChaR F d)):=by
 refine gd_join (.inr rfl) (gd_cha hF) (fun a h=>?_) (fun a b ha hb=>?_)
 ·rcases h with⟨h1,h2⟩|h
  ·exact h2
  ·show a.nest≤d;omega
 ·show(shapeM goodB (leafN 15) [a,b]).nest≤d
  rw[nest2]
  have ha':a.nest≤d:=ha
  have la:level 15 0 a.kind=false:=by
   unfold level
   have:=strong_le a.kind
   rw[show strong 15=1 from rfl]
   simp
   omega
  have lb:(level 15 1 b.kind=true→strong b.kind≤1):=fun q=>by
   unfold level at q
   rw[show strong 15=1 from rfl]at q
   simpa using q
  show max (max 0 (a.nest+if level 15 0 a.kind=true then 1 else 0)) (b.nest+if level 15 1 b.kind=true then 1 else 0)≤d
  rw[la]
  have e2:b.nest+(if level 15 1 b.kind=true then 1 else 0)≤d:=by
   split
   ·rename_i q
    rcases hb with⟨h1,h2⟩|h
    ·have:=lb q;omega
    ·exact h
   ·rcases hb with⟨h1,h2⟩|h
    ·exact h2
    ·omega
  simp only[Bool.false_eq_true,if_false]
  omega
theorem gd_fil:∀d,Gd (Qf d) (FilR d)
 |0=>gd_fil0 (fun q=>absurd q (Nat.lt_irrefl _))
 |d+1=>gd_fil0 (fun _=>gd_fil d)
theorem parsed_good {ks:List Tk} {s:Ps} (hT:Toks ks) (h:ParR ks (.ok s)):GoodF s.out∧∀e∈s.out,NumN e:=by
 rcases h with⟨_,h⟩|⟨_,h⟩
 ·cases h
 ·obtain⟨s1,h1,h2⟩:=bind_ok h
  obtain⟨p,sh,e1,e2,e3,e4,e5,e6⟩:=gd_fil 20 _ _ h1 (toks_tg hT) (Nat.zero_le _)
  have h3:=fn_ok h2
  unfold endF at h3
  split at h3
  ·cases h3
   rw[e1]
   simp only[List.nil_append]
   refine⟨⟨?_,sh,e2.tr,e2.ok,e3⟩,e2.nn⟩
   have:s.made=0+p.length:=e4
   omega
  ·cases h3
end Go.Proofs.YtgnpcenpcmdlfaaGreatDoor
namespace Go.Proofs.YtgnpcenpcmdlfaaGreatDoor
open Go.ChangeShapes Go.WideShapes Go.ChangeAt Go.RowKit Go.Deep
set_option linter.unusedVariables false
set_option linter.unusedSimpArgs false
set_option maxRecDepth 100000
theorem OwnUN.sli {w:World} {base:Nat} {u:Value} {R:List Nd} (h:OwnUN w base u R):∃a n c,u=.slice a n c:=by
 rcases h with⟨rfl,_⟩|⟨g,cp,rfl,_⟩
 ·exact⟨_,_,_,rfl⟩
 ·exact⟨_,_,_,rfl⟩
def AnsOf (t:List UInt8) (c a:Int) (ns:List Nd):Prop:=
 (4000<t.length∧c=1∧a=0∧ns= [])∨(t.length≤4000∧∃ks,LexR t 0 ks∧((MEnds (⟨ks,0,[],[],true⟩:Ms) (.ok ns)∧c=0∧a=0)∨∃p:Nat,MEnds (⟨ks,0,[],[],true⟩:Ms) (.error (c,p))∧a=(p:Int)∧1≤c∧ns= []))
theorem AnsOf.one {t:List UInt8} {c a c' a':Int} {ns ns':List Nd} (h:AnsOf t c a ns) (k:AnsOf t c' a' ns'):c=c'∧a=a'∧ns=ns':=by
 rcases h with⟨h1,rfl,rfl,rfl⟩|⟨h1,ks,hk,h2⟩
 ·rcases k with⟨_,rfl,rfl,rfl⟩|⟨k1,_⟩
  ·exact⟨rfl,rfl,rfl⟩
  ·omega
 ·rcases k with⟨k1,_⟩|⟨k1,ks',hk',k2⟩
  ·omega
  ·obtain rfl:=hk.one hk'
   rcases h2 with⟨e1,rfl,rfl⟩|⟨p,e1,rfl,_,rfl⟩
   ·rcases k2 with⟨f1,rfl,rfl⟩|⟨q,f1,rfl,_,rfl⟩
    ·have:=e1.one f1
     cases this
     exact⟨rfl,rfl,rfl⟩
    ·have:=e1.one f1
     cases this
   ·rcases k2 with⟨f1,rfl,rfl⟩|⟨q,f1,rfl,_,rfl⟩
    ·have:=e1.one f1
     cases this
    ·have:=e1.one f1
     cases this
     exact⟨rfl,rfl,rfl⟩
def ResU (base:Nat) (c a:Int) (ns:List Nd) (v:Value) (w':World):Prop:=∃oa on oc,v=.agg #[.int .i64 c,.int .i64 a,.slice oa on oc]∧OwnUN w' base (.slice oa on oc) ns
theorem ownUN_row {w:World} {base:Nat} {v:Value} {R:List Nd} (h:w.ownsRow base 65 7 v R.length (cellsN R)) (hne:¬R= []):OwnUN w base v R:=by
 rcases h.2 with⟨h0,hz⟩|⟨g',cap',cur,hv,_⟩
 ·exfalso
  exact hne (List.length_eq_zero_iff.1 hz)
 ·exact .inr ⟨g',cap',hv,by rw[hv]at h;exact h⟩
theorem goodF_ne {R:List Nd} (h:GoodF R):¬R= []:=by
 obtain⟨_,s,hs,_⟩:=h
 have h1:=(ShT.tree goodB hs).len
 intro q
 subst q
 simp at h1
theorem PfR.ans {base:Nat} {t:List UInt8} {v:Value} {w':World} (h:PfR base t v w'):∃c a ns,AnsOf t c a ns∧ResU base c a ns v w'∧ns.length≤200000:=by
 obtain⟨c,a,nv,rfl,⟨h1,rfl,rfl,rfl⟩|⟨h1,ks,hk,⟨s1,hP,rfl,rfl,hO,hl⟩|⟨p,hP,rfl,hc,rfl⟩⟩⟩:=h
 ·exact⟨1,0,[],.inl ⟨h1,rfl,rfl,rfl⟩,⟨_,_,_,rfl,.inl ⟨rfl,rfl⟩⟩,by simp⟩
 ·have hg:=(parsed_good hk.toks hP).1
  have hU:=ownUN_row hO (goodF_ne hg)
  obtain⟨oa,on,oc,rfl⟩:=hU.sli
  exact⟨0,0,s1.out,.inr ⟨h1,ks,hk,.inl ⟨par_same hP,rfl,rfl⟩⟩,⟨_,_,_,rfl,hU⟩,hl⟩
 ·exact⟨c,p,[],.inr ⟨h1,ks,hk,.inr ⟨p,par_same hP,rfl,hc,rfl⟩⟩,⟨_,_,_,rfl,.inl ⟨rfl,rfl⟩⟩,by simp⟩
theorem conv_bys {w:World} {b off cap:Nat} {xs:List UInt8} (h:BysAt w b off xs):(convert 22 9 (.slice (some ⟨b,off,none⟩) xs.length cap)).run Tryz.prog w=.ok (.string ⟨xs.toArray⟩) w:=by
 refine run_convert_bytes_back (P:=Tryz.prog) w 22 9 5 ⟨b,off,none⟩ cap xs Tryz.underlying22 Tryz.underlying5 Tryz.underlying9 ?_
 intro i hi
 rw[Addr.add_mid,h i xs[i] (List.getElem?_eq_getElem hi)]
theorem lwBytes_same (b off cap b' off' cap':Nat) (xs:List UInt8) (w:World) (h:BysAt w b off xs) (h':BysAt w b' off' xs):
  Calls Tryz.prog 18 #[.slice (some ⟨b,off,none⟩) xs.length cap,.slice (some ⟨b',off',none⟩) xs.length cap'] w fun e w'=>e=.returned (.bool true)∧Below w.heap.size w w':=by
 have c1:=conv_bys (cap:=cap) h
 have c2:=conv_bys (cap:=cap') h'
 clear h h'
 go_enter Tryz.func18,Tryz.ntmps18
 go_wp2_with fail
 go_ret
 exact⟨by simp,Below.refl _ _⟩
structure QwI (w0:World) (tf b o c nf g cp nr:Nat) (ys:List Nd) (R:List UInt8) (w:World):Prop where
 bf:BoxAt w w0.heap.size 25 1 tf [.slice (some ⟨b,o,none⟩) nf c]
 wd:WdN w b o c ys
 ok:∀e∈ys,e.ok
 tx:OwnY w w0.heap.size g cp R
 gl:Gl w
 wds:WdsAt w
 er:ErrAt w
 below:Below w0.heap.size w0 w
 lf:nf=ys.length
 lr:nr=R.length
 hB:7≤w0.heap.size
theorem QwI.up {w0:World} {tf b o c nf g cp nr:Nat} {ys:List Nd} {R:List UInt8} {w w':World} (h:QwI w0 tf b o c nf g cp nr ys R w) (hb:Below w.heap.size w w'):QwI w0 tf b o c nf g cp nr ys R w':=
 ⟨h.bf.below hb,h.wd.below hb h.wd.lt,h.ok,h.tx.below hb,h.gl.on hb (Nat.le_trans h.hB h.below.size),h.wds.chg (S:=fun _=>False) (Chg.of_below hb) (fun q=>q),h.er.chg (S:=fun _=>False) (Chg.of_below hb) (fun q=>q),h.below.trans (hb.mono h.below.size),h.lf,h.lr,h.hB⟩
theorem ans_text {ys:List Nd} {R:List UInt8} (hG:GoodF ys) (hok:∀e∈ys,e.ok) (hP:PrtOf ys R) (hl:R.length≤4000):AnsOf R 0 0 ys:=by
 rcases hP with⟨q,_⟩|⟨_,k,hT⟩
 ·exact absurd hG q
 ·obtain⟨ks,s,h1,h2,h3⟩:=text_parse hG (fun e he=>num_of_ok (hok e he)) hT
  have h4:=par_same h2
  have h5:MEnds (⟨ks,0,[],[],true⟩:Ms) (.ok s.out):=h4
  rw[h3]at h5
  exact .inr ⟨hl,ks,h1,.inl ⟨h5,rfl,rfl⟩⟩
set_option maxHeartbeats 16000000 in
theorem fnPrintParse_walk (v0:Value) (n0:Nat) (w:World) (h0:BytesIn w v0 n0) (hGl:Gl w) (hWd:WdsAt w) (hEr:ErrAt w) (hB:7≤w.heap.size):Calls Tryz.prog 4 #[v0] w fun e w'=>e=.returned (.bool true)∧Below w.heap.size w w':=by
 obtain⟨a0,cap0,hv0⟩:=h0.slice
 subst hv0
 have HI:Hid (BytesIn w (.slice a0 n0 cap0) n0∧Gl w∧WdsAt w∧ErrAt w∧7≤w.heap.size):=⟨h0,hGl,hWd,hEr,hB⟩
 have hr0:=h0.1
 unfold maxLen at hr0
 clear h0 hGl hWd hEr hB
 by_cases hbig:1048576<n0
 ·have z:(1048576:Int)<(n0:Int):=by omega
  go_enter Tryz.func4,Tryz.ntmps4
  go_wp2_with fail
  go_ret
  exact⟨rfl,Below.refl _ _⟩
 have z:¬(1048576:Int)<(n0:Int):=by omega
 have h10:n0≤1048576:=by omega
 go_enter Tryz.func4,Tryz.ntmps4
 go_wp2_with fail
 refine(drawPrint_core _ n0 _ (HI.1.code h10)).mono ?_
 rintro e w1 ⟨b,o,c,ys,rfl,hyl,H1⟩
 have hb1:Below w.heap.size w w1:=H1.2
 obtain⟨W1,hW1⟩:=qE (w1.alloc (Obj.cells #[.slice (some ⟨b,o,none⟩) ys.length c] 25):World)
 obtain⟨tf,htf⟩:=qE w1.heap.size
 obtain⟨nf,hnf⟩:=qE ys.length
 rw[←hnf]at hW1 hyl⊢
 have s1:=hb1.size
 have kW1:Below w1.heap.size w1 W1:=by rw[hW1];exact qB
 have hB1:BoxAt W1 w.heap.size 25 1 tf [.slice (some ⟨b,o,none⟩) nf c]:=by
  rw[hW1,htf];exact boxAt_new w1 _ s1 rfl
 have kw1:Below w.heap.size w W1:=hb1.trans (kW1.mono s1)
 have HW1:Hid (BoxAt W1 w.heap.size 25 1 tf [.slice (some ⟨b,o,none⟩) nf c]∧WdN W1 b o c ys∧(∀e∈ys,e.ok)∧nf=ys.length∧Below w.heap.size w W1):=by
  have h9:=H1.1
  exact⟨hB1,(WdN.mk h9.2.1 h9.2.2.1.2 h9.2.2.2).below kW1 h9.2.2.1.2,h9.1,hnf,kw1⟩
 have HPi:Hid (∀W,Below w.heap.size w W→WdN W b o c ys→Calls Tryz.prog 15 #[.agg #[.slice (some ⟨b,o,none⟩) nf c]] W (PrtU ys W)):=fun W hW hwd=>by
  rw[HW1.2.2.2.1]
  exact implPrint_win hwd HW1.2.2.1 (HI.2.1.on hW HI.2.2.2.2) (Nat.le_trans HI.2.2.2.2 hW.size)
 have HPs:Hid (∀W,WdN W b o c ys→Calls Tryz.prog 17 #[.agg #[.slice (some ⟨b,o,none⟩) nf c]] W (PrtS ys W)):=fun W hwd=>by
  rw[HW1.2.2.2.1]
  exact specPrint_win hwd HW1.2.2.1
 have HVs:Hid (∀W,WdN W b o c ys→Calls Tryz.prog 16 #[.agg #[.slice (some ⟨b,o,none⟩) nf c]] W (FltPost ys W)):=fun W hwd=>by
  rw[HW1.2.2.2.1]
  exact specFilter_win hwd HW1.2.2.1
 clear H1 hb1 hnf kW1 hB1 kw1
 go_upto_region 4 with fail
 rw[←hW1,←htf]
 clear hW1 htf
 have t0:=HW1.1.cell (j:=0) rfl
 have HP1:Hid (Calls Tryz.prog 15 #[.agg #[.slice (some ⟨b,o,none⟩) nf c]] W1 (PrtU ys W1)):=HPi.out W1 HW1.2.2.2.2 HW1.2.1
 go_wp2_with fail
 refine HP1.mono ?_
 clear HP1 HPi
 rintro e w2 ⟨g,cp,R,rfl,hO2,hP2,hb2⟩
 obtain⟨nr,hnr⟩:=qE R.length
 rw[←hnr]
 have HPR:Hid (PrtOf ys R):=hP2
 have H2:Hid (QwI w tf b o c nf g cp nr ys R w2):=by
  have k2:=HW1.2.2.2.2.trans (hb2.mono HW1.2.2.2.2.size)
  exact⟨HW1.1.below hb2,HW1.2.1.below hb2 HW1.2.1.lt,HW1.2.2.1,hO2.mono HW1.2.2.2.2.size,HI.2.1.on k2 HI.2.2.2.2,HI.2.2.1.chg (S:=fun _=>False) (Chg.of_below k2) (fun q=>q),HI.2.2.2.1.chg (S:=fun _=>False) (Chg.of_below k2) (fun q=>q),k2,HW1.2.2.2.1,hnr,HI.2.2.2.2⟩
 clear hO2 hP2 hb2 hnr t0
 have t0:=H2.bf.cell (j:=0) rfl
 have HV1:Hid (Calls Tryz.prog 16 #[.agg #[.slice (some ⟨b,o,none⟩) nf c]] w2 (FltPost ys w2)):=HVs.out w2 H2.wd
 go_wp2_with fail
 refine HV1.mono ?_
 clear HV1 HVs
 rintro e w3 ⟨r,rfl,hr,hb3⟩
 have H3:Hid (QwI w tf b o c nf g cp nr ys R w3):=H2.up hb3
 have HR:Hid (r=true↔GoodF ys):=hr
 clear hr hb3 t0 H2
 cases r
 case false=>
  have hr0:nr=0:=by
   rw[H3.lr]
   rcases HPR.out with⟨_,q⟩|⟨q,_⟩
   ·rw[q];rfl
   ·exact absurd (HR.2 q) (by simp)
  have zr:((nr:Int)==0)=true:=by rw[beq_iff_eq];omega
  have HX:Hid (Below w.heap.size w w3):=H3.below
  clear hr0
  go_wp2_with fail
  go_ret
  exact⟨rfl,HX.out⟩
 case true=>
 have HG:Hid (GoodF ys):=HR.1 rfl
 clear HR
 have t0:=H3.bf.cell (j:=0) rfl
 have HP3:Hid (Calls Tryz.prog 17 #[.agg #[.slice (some ⟨b,o,none⟩) nf c]] w3 (PrtS ys w3)):=HPs.out w3 H3.wd
 go_wp2_with fail
 refine HP3.mono ?_
 clear HP3
 rintro e w4 ⟨g4,c4,R4,rfl,hO4,hP4,hb4⟩
 obtain rfl:R4=R:=prtOf_one hP4 HPR.out
 have H4:Hid (QwI w tf b o c nf g cp nr ys R4 w4):=H3.up hb4
 rw[←H4.lr]
 clear hO4 hP4 hb4 t0 H3
 have hnr:nr≤400000:=by rw[H4.lr];exact prtOf_len HPR.out H4.ok
 have t0:=H4.bf.cell (j:=0) rfl
 by_cases hlong:4000<nr
 ·have zl:(4000:Int)<(nr:Int):=by omega
  have HP5:Hid (Calls Tryz.prog 17 #[.agg #[.slice (some ⟨b,o,none⟩) nf c]] w4 (PrtS ys w4)):=HPs.out w4 H4.wd
  go_wp2_with fail
  refine HP5.mono ?_
  clear HP5 HPs
  rintro e w5 ⟨g5,c5,R5,rfl,hO5,hP5,hb5⟩
  obtain rfl:R5=R4:=prtOf_one hP5 HPR.out
  have H5:Hid (QwI w tf b o c nf g cp nr ys R5 w5∧BysAt w5 g5 0 R5):=⟨H4.up hb5,hO5.at_⟩
  clear hO5 hP5 hb5 t0 H4
  have HLw:Hid (Calls Tryz.prog 18 #[.slice (some ⟨g,0,none⟩) nr cp,.slice (some ⟨g5,0,none⟩) nr c5] w5 fun e w'=>e=.returned (.bool true)∧Below w5.heap.size w5 w'):=by
   have h9:=lwBytes_same g 0 cp g5 0 c5 R5 w5 H5.1.tx.at H5.2
   rw[←H5.1.lr]at h9
   exact h9
  rw[←H5.1.lr]
  go_wp2_with fail
  refine HLw.mono ?_
  rintro e w6 ⟨rfl,hb6⟩
  have HX:Hid (Below w.heap.size w w6):=H5.1.below.trans (hb6.mono H5.1.below.size)
  clear hb6
  go_wp2_with fail
  go_ret
  exact⟨rfl,HX.out⟩
 ·have zl:¬(4000:Int)<(nr:Int):=by omega
  have HPa:Hid (Calls Tryz.prog 8 #[.slice (some ⟨g,0,none⟩) nr cp] w4 (fun e w'=>PfP R4 w4 e w')):=
   implParse_core H4.tx.at H4.tx.lt.2 H4.lr (by omega) (by rw[H4.lr];exact H4.tx.caps.1) H4.tx.caps.2 (Nat.le_trans H4.hB H4.below.size) H4.wds H4.er
  go_wp2_with fail
  refine HPa.mono ?_
  clear HPa HPs
  rintro e w5 ⟨v5,rfl,hb5,hS5⟩
  obtain⟨ce,ca,ns,hA,⟨oa,on,oc,rfl,hU⟩,hnl⟩:=hS5.ans
  obtain⟨rfl,rfl,rfl⟩:=hA.one (ans_text HG.out H4.ok HPR.out (by have:=H4.lr;omega))
  have hne:=goodF_ne HG.out
  obtain⟨gu,cu,hu,hOu⟩:∃gu cu,Value.slice oa on oc=.slice (some ⟨gu,0,none⟩) ns.length cu∧OwnNd w5 w4.heap.size gu cu ns:=by
   rcases hU with⟨_,q⟩|⟨gu,cu,q,hq⟩
   ·exact absurd q hne
   ·exact⟨gu,cu,q,hq⟩
  rw[hu]
  obtain⟨W6,hW6⟩:∃V:World,V=w5.alloc (Obj.cells #[.int .i64 0,.int .i64 0,.slice (some ⟨gu,0,none⟩) ns.length cu] 27):=⟨_,rfl⟩
  obtain⟨tr,htr⟩:=qE w5.heap.size
  have hlf:=H4.lf
  rw[←hlf]at hW6⊢
  have hb6:Below w5.heap.size w5 W6:=by rw[hW6];exact qB
  have H6:Hid (QwI w tf b o c nf g cp nr ns R4 W6∧BoxAt W6 w.heap.size 27 3 tr [.int .i64 0,.int .i64 0,.slice (some ⟨gu,0,none⟩) nf cu]∧NdsAt W6 gu 0 ns∧gu<W6.heap.size):=by
   have h4:=H4.out
   have s5:=hb5.size
   have s4:=h4.below.size
   have s6:=hb6.size
   have hgu:=hOu.lt
   exact⟨(h4.up hb5).up hb6,by rw[htr,hW6];exact boxAt_new w5 _ (by omega) rfl,hOu.at.below hb6 hgu.2,by omega⟩
  have HLf:Hid (Calls Tryz.prog 19 #[.agg #[.slice (some ⟨gu,0,none⟩) nf cu],.agg #[.slice (some ⟨b,o,none⟩) nf c]] W6 fun e w'=>e=.returned (.bool true)∧Below W6.heap.size W6 w'):=by
   have h9:=lwFilter_same (c:=cu) (c':=c) H6.2.2.1 H6.2.2.2 H6.1.wd.at H6.1.wd.lt (by omega)
   rw[←hlf]at h9
   exact h9
  clear hS5 hA hU hu hOu hb5 hb6 hlf t0 hne
  go_upto_region 10 with fail
  rw[←hW6,←htr]
  clear hW6 htr
  have q0:=H6.2.1.cell (j:=0) rfl
  have q1:=H6.2.1.cell (j:=1) rfl
  have q2:=H6.2.1.cell (j:=2) rfl
  have t0:=H6.1.bf.cell (j:=0) rfl
  go_wp2_with fail
  refine HLf.mono ?_
  rintro e w7 ⟨rfl,hb7⟩
  have HX:Hid (Below w.heap.size w w7):=H6.1.below.trans (hb7.mono H6.1.below.size)
  clear hb7
  go_wp2_with fail
  go_ret
  exact⟨rfl,HX.out⟩
end Go.Proofs.YtgnpcenpcmdlfaaGreatDoor
