import Derived.Test.YtgnpcenpcmdlfaaGreatDoorXkAC
import Derived.Test.YtgnpcenpcmdlfaaGreatDoorXkAA
import Derived.Test.YtgnpcenpcmdlfaaGreatDoorXkAF
namespace Go.Proofs.YtgnpcenpcmdlfaaGreatDoor
open Go.ChangeShapes Go.WideShapes Go.ChangeAt Go.RowKit Go.Deep
set_option linter.unusedVariables false
set_option linter.unusedSimpArgs false
set_option maxRecDepth 100000
structure AgJ (w:World) (base g cp N nd pa:Nat) (ks:List Tk) (i:Nat) (e:Nd) (W:World):Prop where
 tk:OwnTk W base g cp ks
 p:BoxAt W w.heap.size 41 5 w.heap.size [.slice (some ⟨g,0,none⟩) N cp,.int .i64 (i:Int),.int .i64 (nd:Int),.int .i64 0,.int .i64 (pa:Int)]
 rp:BoxAt W w.heap.size 41 5 (w.heap.size+1) [.slice none 0 0,.int .i64 0,.int .i64 0,.int .i64 0,.int .i64 0]
 rn:BoxAt W w.heap.size 65 7 (w.heap.size+2) [.int .i64 0,.string ⟨#[]⟩,.bool false,.string ⟨#[]⟩,.int .u64 0,.int .u64 0,.int .i64 0]
 n:BoxAt W w.heap.size 65 7 (w.heap.size+3) e.seven
 bl:Below w.heap.size w W
 gl:g<w.heap.size
theorem AgJ.up {w:World} {base g cp N nd pa:Nat} {ks:List Tk} {i:Nat} {e:Nd} {W W':World} (h:AgJ w base g cp N nd pa ks i e W) (hb:Below W.heap.size W W'):AgJ w base g cp N nd pa ks i e W':=
 ⟨h.tk.below hb,h.p.below hb,h.rp.below hb,h.rn.below hb,h.n.below hb,h.bl.trans (hb.mono h.bl.size),h.gl⟩
theorem AgJ.stepI {w:World} {base g cp N nd pa:Nat} {ks:List Tk} {i:Nat} {e:Nd} {W:World} (h:AgJ w base g cp N nd pa ks i e W) (u:Value) (hu:u=.int .i64 ((i+1:Nat):Int)):AgJ w base g cp N nd pa ks (i+1) e (W.setCell ⟨w.heap.size,1,none⟩ u):=by
 subst hu
 have hc:Chg (fun k=>k=w.heap.size) W (W.setCell ⟨w.heap.size,1,none⟩ (.int .i64 ((i+1:Nat):Int))):=Chg.of_set _ _ _ _ rfl
 have hg:=h.gl
 exact⟨h.tk.chg hc (by omega),h.p.set 1 _,h.rp.chg hc (by omega),h.rn.chg hc (by omega),h.n.chg hc (by omega),below_set h.bl (Nat.le_refl _) 1 _,hg⟩
theorem AgJ.stepN {w:World} {base g cp N nd pa:Nat} {ks:List Tk} {i:Nat} {e e':Nd} {W:World} (h:AgJ w base g cp N nd pa ks i e W) (j:Nat) (u:Value) (hu:e.seven.set j u=e'.seven):AgJ w base g cp N nd pa ks i e' (W.setCell ⟨w.heap.size+3,j,none⟩ u):=by
 have hc:Chg (fun k=>k=w.heap.size+3) W (W.setCell ⟨w.heap.size+3,j,none⟩ u):=Chg.of_set _ _ _ _ rfl
 have hg:=h.gl
 exact⟨h.tk.chg hc (by omega),h.p.chg hc (by omega),h.rp.chg hc (by omega),h.rn.chg hc (by omega),by rw[←hu];exact h.n.set j _,below_set h.bl (by omega) j _,hg⟩
def ArgP (base g cp N nd pa:Nat) (ks:List Tk) (kd:Int) (i:Nat) (w:World) (e:Ending) (w':World):Prop:=Below w.heap.size w w'∧
 ((∃i' n,argsM kd (ks.drop i)=.ok (ks.drop i',n)∧i≤i'∧i'<N∧e=.returned (.tuple #[parV g N cp i' nd 0 pa,n.v]))∨
  (∃c a i' n,argsM kd (ks.drop i)=.error (c,a)∧1≤c∧e=.returned (.tuple #[parV g N cp i' nd c a,Nd.v n])))
theorem drop_hd {ks:List Tk} {i:Nat} {k:Tk} (h:ks[i]?=some k):hdK (ks.drop i)=k.k∧hdA (ks.drop i)=k.pos∧(ks.drop i).tail=ks.drop (i+1):=by
 have hl:i<ks.length:=(List.getElem?_eq_some_iff.1 h).1
 have hk:ks[i]=k:=(List.getElem?_eq_some_iff.1 h).2
 rw[List.drop_eq_getElem_cons hl,hk]
 exact⟨rfl,rfl,rfl⟩
theorem boxAt_low {w:World} {base base' ty sz g:Nat} {vs:List Value} (h:BoxAt w base ty sz g vs) (hb:base'≤base):BoxAt w base' ty sz g vs:=by
 refine⟨h.1,?_⟩
 rcases h.2 with hn|⟨g',cap',cur,hv,h1,rest⟩
 ·exact .inl hn
 ·exact .inr ⟨g',cap',cur,hv,Nat.le_trans hb h1,rest⟩
theorem AgJ.fin {w:World} {base g cp N nd pa:Nat} {ks:List Tk} {i:Nat} {e:Nd} {W:World} (h:AgJ w base g cp N nd pa ks i e W) (a b c d f:Value) (e2:Nd):BoxAt (setN (setP W (w.heap.size+1) a b c d f) (w.heap.size+2) e2) w.heap.size 41 5 (w.heap.size+1) [a,b,c,d,f]∧BoxAt (setN (setP W (w.heap.size+1) a b c d f) (w.heap.size+2) e2) w.heap.size 65 7 (w.heap.size+2) e2.seven∧Below w.heap.size w (setN (setP W (w.heap.size+1) a b c d f) (w.heap.size+2) e2):=by
 have c1:Chg (fun k=>k=w.heap.size+1) W (setP W (w.heap.size+1) a b c d f):=chg_setP _ _ _ _ _ _ _
 have c2:Chg (fun k=>k=w.heap.size+2) (setP W (w.heap.size+1) a b c d f) (setN (setP W (w.heap.size+1) a b c d f) (w.heap.size+2) e2):=chg_setN _ _ _
 exact⟨(h.rp.setP a b c d f).chg c2 (by omega),(h.rn.chg c1 (by omega)).setN e2,Chg.below (Chg.below h.bl c1 h.bl.size (fun k q=>by omega)) c2 (by have:=h.bl.size;have:=c1.size;omega) (fun k q=>by omega)⟩
theorem ag_start {w:World} {base g cp N nd pa:Nat} {ks:List Tk} {i:Nat} (kd:Int) (h:OwnTk w base g cp ks) {W:World} (hW:W=(((w.alloc (Obj.cells #[.slice (some ⟨g,0,none⟩) N cp,.int .i64 (i:Int),.int .i64 (nd:Int),.int .i64 0,.int .i64 (pa:Int)] 41)).alloc (Obj.cells #[.slice none 0 0,.int .i64 0,.int .i64 0,.int .i64 0,.int .i64 0] 41)).alloc (Obj.cells #[.int .i64 0,.string ⟨#[]⟩,.bool false,.string ⟨#[]⟩,.int .u64 0,.int .u64 0,.int .i64 0] 65)).alloc (Obj.cells #[.int .i64 kd,.string ⟨#[]⟩,.bool false,.string ⟨#[]⟩,.int .u64 0,.int .u64 0,.int .i64 0] 65)):AgJ w base g cp N nd pa ks i (leafN kd) W:=by
 obtain⟨X,hX⟩:=qE ((w.alloc (Obj.cells #[.slice (some ⟨g,0,none⟩) N cp,.int .i64 (i:Int),.int .i64 (nd:Int),.int .i64 0,.int .i64 (pa:Int)] 41)).alloc (Obj.cells #[.slice none 0 0,.int .i64 0,.int .i64 0,.int .i64 0,.int .i64 0] 41):World)
 obtain⟨b1,b2,b3⟩:=par_boxes [.slice (some ⟨g,0,none⟩) N cp,.int .i64 (i:Int),.int .i64 (nd:Int),.int .i64 0,.int .i64 (pa:Int)] [.slice none 0 0,.int .i64 0,.int .i64 0,.int .i64 0,.int .i64 0] hX
 have hz:X.heap.size=w.heap.size+2:=by rw[hX];simp
 rw[←hX]at hW
 obtain⟨d1,d2,d3,d4⟩:=boxes2 [.int .i64 0,.string ⟨#[]⟩,.bool false,.string ⟨#[]⟩,.int .u64 0,.int .u64 0,.int .i64 0] [.int .i64 kd,.string ⟨#[]⟩,.bool false,.string ⟨#[]⟩,.int .u64 0,.int .u64 0,.int .i64 0] hW
 rw[hz]at d1 d2
 have hb:=b3.trans (d3.mono (by omega))
 exact⟨h.below hb,b1.below d3,b2.below d3,boxAt_low d1 (by omega),boxAt_low d2 (by omega),hb,h.lt.2⟩
set_option maxHeartbeats 8000000 in
theorem args_low {w:World} {base g cp N nd pa:Nat} {ks:List Tk} {i:Nat} {k:Tk} (h:OwnTk w base g cp ks) (hN:N=ks.length) (hl:N≤1000000) (hk:ks[i]?=some k) (hT:Toks ks) (kd:Int) (h3:kd≤3):Calls Tryz.prog 49 #[parV g N cp i nd 0 pa,.int .i64 kd] w (ArgP base g cp N nd pa ks kd i w):=by
 obtain⟨W0,hW0⟩:=qE ((((w.alloc (Obj.cells #[.slice (some ⟨g,0,none⟩) N cp,.int .i64 (i:Int),.int .i64 (nd:Int),.int .i64 0,.int .i64 (pa:Int)] 41)).alloc (Obj.cells #[.slice none 0 0,.int .i64 0,.int .i64 0,.int .i64 0,.int .i64 0] 41)).alloc (Obj.cells #[.int .i64 0,.string ⟨#[]⟩,.bool false,.string ⟨#[]⟩,.int .u64 0,.int .u64 0,.int .i64 0] 65)).alloc (Obj.cells #[.int .i64 kd,.string ⟨#[]⟩,.bool false,.string ⟨#[]⟩,.int .u64 0,.int .u64 0,.int .i64 0] 65):World)
 have HJ0:Hid (AgJ w base g cp N nd pa ks i (leafN kd) W0):=ag_start kd h hW0
 have hi:i<N:=by rw[hN];exact(List.getElem?_eq_some_iff.1 hk).1
 have zi:(i:Int)<(N:Int):=by omega
 have H0:Hid (N=ks.length∧ks[i]?=some k∧hdK (ks.drop i)=k.k∧hdA (ks.drop i)=k.pos∧(ks.drop i).tail=ks.drop (i+1)∧Toks ks):=⟨hN,hk,(drop_hd hk).1,(drop_hd hk).2.1,(drop_hd hk).2.2,hT⟩
 have hgl:=h.lt.2
 clear h hN hk hT
 go_enter Tryz.func49,Tryz.ntmps49
 go_upto_region 2 with fail
 rw[←hW0]
 clear hW0
 have HA:Hid (argsM kd (ks.drop i)=.ok (ks.drop i,leafN kd)):=by show _=_;unfold argsM;rw[if_pos h3]
 go_upto_region 3 with fail
 obtain⟨a0,a1,a2,a3,a4⟩:=HJ0.p.c5
 obtain⟨b0,b1,b2,b3,b4,b5,b6⟩:=HJ0.n.c7
 obtain⟨c0,c1,c2,c3,c4⟩:=HJ0.rp.c5
 obtain⟨d0,d1,d2,d3,d4,d5,d6⟩:=HJ0.rn.c7
 have e0:=HJ0.rp.frozen 0
 have e1:=HJ0.rp.frozen 1
 have e2:=HJ0.rp.frozen 2
 have e3:=HJ0.rp.frozen 3
 have e4:=HJ0.rp.frozen 4
 have f0:=HJ0.rn.frozen 0
 have f1:=HJ0.rn.frozen 1
 have f2:=HJ0.rn.frozen 2
 have f3:=HJ0.rn.frozen 3
 have f4:=HJ0.rn.frozen 4
 have f5:=HJ0.rn.frozen 5
 have f6:=HJ0.rn.frozen 6
 obtain⟨W9,hW9⟩:∃V:World,V=(setN (setP W0 (w.heap.size+1) (.slice (some ⟨g,0,none⟩) N cp) (.int .i64 (i:Int)) (.int .i64 (nd:Int)) (.int .i64 0) (.int .i64 (pa:Int))) (w.heap.size+2) (leafN kd)).drew:=⟨_,rfl⟩
 have HF:Hid (BoxAt W9 w.heap.size 41 5 (w.heap.size+1) [.slice (some ⟨g,0,none⟩) N cp,.int .i64 (i:Int),.int .i64 (nd:Int),.int .i64 0,.int .i64 (pa:Int)]∧BoxAt W9 w.heap.size 65 7 (w.heap.size+2) (Nd.seven (leafN kd))∧Below w.heap.size w W9):=by
  have hf:=HJ0.fin (.slice (some ⟨g,0,none⟩) N cp) (.int .i64 (i:Int)) (.int .i64 (nd:Int)) (.int .i64 0) (.int .i64 (pa:Int)) (leafN kd)
  have hd:∀X:World,Below X.heap.size X X.drew:=fun X=>(Below.refl _ _).drew
  rw[hW9]
  exact⟨hf.1.below (hd _),hf.2.1.below (hd _),hf.2.2.trans ((hd _).mono hf.2.2.size)⟩
 have HR:Hid (ArgP base g cp N nd pa ks kd i w (.returned (.tuple #[parV g N cp (i) nd 0 pa,Nd.v (leafN kd)])) W9):=⟨HF.2.2,.inl ⟨i,(leafN kd),HA.out,by omega,by omega,rfl⟩⟩
 obtain⟨p0,p1,p2,p3,p4⟩:=HF.1.c5
 obtain⟨q0,q1,q2,q3,q4,q5,q6⟩:=HF.2.1.c7
 unfold setN setP at hW9
 simp only[leafN,patN,cntN,noS]at hW9 b0 b1 b2 b3 b4 b5 b6 q0 q1 q2 q3 q4 q5 q6
 go_region
 rw[←hW9]
 clear hW9 a0 a1 a2 a3 a4 b0 b1 b2 b3 b4 b5 b6 c0 c1 c2 c3 c4 d0 d1 d2 d3 d4 d5 d6 e0 e1 e2 e3 e4 f0 f1 f2 f3 f4 f5 f6
 go_wp2_with fail
 exact bodyPost_ret (v:=.tuple #[parV g N cp (i) nd 0 pa,Nd.v (leafN kd)]) (by simp[results,Tryz.results49,go_sem,p0,p1,p2,p3,p4,q0,q1,q2,q3,q4,q5,q6,leafN,patN,cntN,noS]) rfl HR.out
theorem toks_ok {ks:List Tk} (h:Toks ks):∀{i:Nat} {k:Tk},ks[i]?=some k→(k.k.good∧∃k1,ks[i+1]?=some k1)∨k.k=.fin∨k.k=.bad:=by
 induction h with
 |last k0 hq=>
  intro i k hk
  cases i with
  |zero=>simp at hk;subst hk;exact .inr hq
  |succ i=>simp at hk
 |more k0 hg ht ih=>
  intro i k hk
  cases i with
  |zero=>
   simp at hk;subst hk
   refine .inl ⟨hg,?_⟩
   cases ht with
   |last k _=>exact⟨k,rfl⟩
   |more k _ _=>exact⟨k,rfl⟩
  |succ i=>simp at hk;exact ih hk
theorem toks_kind {ks:List Tk} (h:Toks ks) {i:Nat} {k:Tk} (hk:ks[i]?=some k):k.k.good∨k.k=.fin∨k.k=.bad:=by
 rcases toks_ok h hk with q|q
 ·exact .inl q.1
 ·exact .inr q
theorem toks_next {ks:List Tk} (h:Toks ks) {i:Nat} {k:Tk} (hk:ks[i]?=some k) (h1:¬k.k=.fin) (h2:¬k.k=.bad):k.k.good∧∃k1,ks[i+1]?=some k1:=by
 rcases toks_ok h hk with q|q|q
 ·exact q
 ·exact absurd q h1
 ·exact absurd q h2
theorem argsM_str {kd:Int} {ks:List Tk} {sx:ByteArray} (h4:¬kd≤3) (h7:kd≤7) (hs:hdK ks=.str sx):argsM kd ks=if(checkM (sb sx)).1=0 then .ok (ks.tail,patN kd sx)else failF 6 ks:=by
 unfold argsM
 rw[if_neg h4,if_pos h7,hs]
theorem argsM_nostr {kd:Int} {ks:List Tk} (h4:¬kd≤3) (h7:kd≤7) (hs:¬tkN (hdK ks)=3):argsM kd ks=failF 3 ks:=by
 unfold argsM
 rw[if_neg h4,if_pos h7]
 cases hq:hdK ks with
 |str sx=>rw[hq]at hs;exact absurd rfl hs
 |_=>rfl
theorem argsM_num {kd:Int} {ks:List Tk} {v:Int} (h4:11≤kd) (hs:hdK ks=.num v):argsM kd ks=if 1≤v∧v≤1000 then .ok (ks.tail,cntN kd v)else failF 8 ks:=by
 unfold argsM
 rw[if_neg (by omega),if_neg (by omega),if_neg (by omega),if_neg (by omega),hs]
theorem argsM_nonum {kd:Int} {ks:List Tk} (h4:11≤kd) (hs:¬tkN (hdK ks)=2):argsM kd ks=failF 3 ks:=by
 unfold argsM
 rw[if_neg (by omega),if_neg (by omega),if_neg (by omega),if_neg (by omega)]
 cases hq:hdK ks with
 |num v=>rw[hq]at hs;exact absurd rfl hs
 |_=>rfl
theorem tkN_str {k:TkK} (h:tkN k=3):∃s,k=.str s:=by cases k<;>simp[tkN]at h;exact⟨_,rfl⟩
theorem tkN_num {k:TkK} (h:tkN k=2):∃s,k=.num s:=by cases k<;>simp[tkN]at h;exact⟨_,rfl⟩
set_option maxHeartbeats 8000000 in
theorem args_nostr {w:World} {base g cp N nd pa:Nat} {ks:List Tk} {i:Nat} {k:Tk} (h:OwnTk w base g cp ks) (hN:N=ks.length) (hl:N≤1000000) (hk:ks[i]?=some k) (hT:Toks ks) (kd:Int) (h3:¬kd≤3) (h7:kd≤7) (hn:¬tkN k.k=3):Calls Tryz.prog 49 #[parV g N cp i nd 0 pa,.int .i64 kd] w (ArgP base g cp N nd pa ks kd i w):=by
 obtain⟨W0,hW0⟩:=qE ((((w.alloc (Obj.cells #[.slice (some ⟨g,0,none⟩) N cp,.int .i64 (i:Int),.int .i64 (nd:Int),.int .i64 0,.int .i64 (pa:Int)] 41)).alloc (Obj.cells #[.slice none 0 0,.int .i64 0,.int .i64 0,.int .i64 0,.int .i64 0] 41)).alloc (Obj.cells #[.int .i64 0,.string ⟨#[]⟩,.bool false,.string ⟨#[]⟩,.int .u64 0,.int .u64 0,.int .i64 0] 65)).alloc (Obj.cells #[.int .i64 kd,.string ⟨#[]⟩,.bool false,.string ⟨#[]⟩,.int .u64 0,.int .u64 0,.int .i64 0] 65):World)
 have HJ0:Hid (AgJ w base g cp N nd pa ks i (leafN kd) W0):=ag_start kd h hW0
 have hi:i<N:=by rw[hN];exact(List.getElem?_eq_some_iff.1 hk).1
 have zi:(i:Int)<(N:Int):=by omega
 have H0:Hid (N=ks.length∧ks[i]?=some k∧hdK (ks.drop i)=k.k∧hdA (ks.drop i)=k.pos∧(ks.drop i).tail=ks.drop (i+1)∧Toks ks):=⟨hN,hk,(drop_hd hk).1,(drop_hd hk).2.1,(drop_hd hk).2.2,hT⟩
 have hgl:=h.lt.2
 clear h hN hk hT
 go_enter Tryz.func49,Tryz.ntmps49
 go_upto_region 2 with fail
 rw[←hW0]
 clear hW0
 obtain⟨t0,t1,t2,t3⟩:=tk_cells HJ0.tk H0.2.1
 obtain⟨a0,a1⟩:=HJ0.p.c2
 have z3:(tkN k.k==3)=false:=by rw[beq_eq_false_iff_ne];exact hn
 have HA:Hid (argsM kd (ks.drop i)=failF 3 (ks.drop i)):=argsM_nostr h3 h7 (by rw[H0.2.2.1];exact hn)
 clear t1 t2 t3 hn
 obtain⟨cc,hcc⟩:=qE (if k.k.isBad=true then 2 else 3:Int)
 have HFl:Hid (∀wx,Below W0.heap.size W0 wx→Calls Tryz.prog 46 #[parV g N cp (i) nd 0 pa,.int .i64 3] wx fun e w'=>e=.returned (parV g N cp (i) nd cc k.pos)∧Below wx.heap.size wx w'):=fun wx hx=>by
  rw[hcc]
  exact l5Fail_core (HJ0.tk.below hx) H0.1 hl H0.2.1 nd 0 pa 3
 have HAE:Hid (argsM kd (ks.drop i)=.error (cc,k.pos)∧1≤cc):=⟨by
  rw[HA.out,hcc]
  unfold failF
  rw[(drop_hd H0.2.1).1,(drop_hd H0.2.1).2.1],by rw[hcc];split<;>decide⟩
 clear hcc
 go_upto_region 6 with fail
 have hS0:(fun w':World=>w'.cell? ⟨w.heap.size,0,none⟩=some (.slice (some ⟨g,0,none⟩) N cp)∧w'.cell? ⟨w.heap.size,1,none⟩=some (.int .i64 ((i:Nat):Int))∧w'.cell? ⟨w.heap.size,2,none⟩=some (.int .i64 (nd:Int))∧w'.cell? ⟨w.heap.size,3,none⟩=some (.int .i64 0)∧w'.cell? ⟨w.heap.size,4,none⟩=some (.int .i64 (pa:Int))∧w'.cell? ⟨w.heap.size+3,0,none⟩=some (.int .i64 kd)∧w'.cell? ⟨w.heap.size+3,1,none⟩=some (.string ⟨#[]⟩)∧w'.cell? ⟨w.heap.size+3,2,none⟩=some (.bool false)∧w'.cell? ⟨w.heap.size+3,3,none⟩=some (.string ⟨#[]⟩)∧w'.cell? ⟨w.heap.size+3,4,none⟩=some (.int .u64 0)∧w'.cell? ⟨w.heap.size+3,5,none⟩=some (.int .u64 0)∧w'.cell? ⟨w.heap.size+3,6,none⟩=some (.int .i64 0)) W0.drew:=⟨HJ0.p.cell (j:=0) rfl,HJ0.p.cell (j:=1) rfl,HJ0.p.cell (j:=2) rfl,HJ0.p.cell (j:=3) rfl,HJ0.p.cell (j:=4) rfl,HJ0.n.cell (j:=0) rfl,HJ0.n.cell (j:=1) rfl,HJ0.n.cell (j:=2) rfl,HJ0.n.cell (j:=3) rfl,HJ0.n.cell (j:=4) rfl,HJ0.n.cell (j:=5) rfl,HJ0.n.cell (j:=6) rfl⟩
 refine wp_region_T 99 (fun w':World=>w'.cell? ⟨w.heap.size,0,none⟩=some (.slice (some ⟨g,0,none⟩) N cp)∧w'.cell? ⟨w.heap.size,1,none⟩=some (.int .i64 ((i:Nat):Int))∧w'.cell? ⟨w.heap.size,2,none⟩=some (.int .i64 (nd:Int))∧w'.cell? ⟨w.heap.size,3,none⟩=some (.int .i64 0)∧w'.cell? ⟨w.heap.size,4,none⟩=some (.int .i64 (pa:Int))∧w'.cell? ⟨w.heap.size+3,0,none⟩=some (.int .i64 kd)∧w'.cell? ⟨w.heap.size+3,1,none⟩=some (.string ⟨#[]⟩)∧w'.cell? ⟨w.heap.size+3,2,none⟩=some (.bool false)∧w'.cell? ⟨w.heap.size+3,3,none⟩=some (.string ⟨#[]⟩)∧w'.cell? ⟨w.heap.size+3,4,none⟩=some (.int .u64 0)∧w'.cell? ⟨w.heap.size+3,5,none⟩=some (.int .u64 0)∧w'.cell? ⟨w.heap.size+3,6,none⟩=some (.int .i64 0)) (by kernel_rfl) ?_
 refine qT 0 ?vs0 rfl ?ys0 hS0 ?_
 case ys0=>(intro wz hSw;obtain⟨hz0,hz1,hz2,hz3,hz4,hz5,hz6,hz7,hz8,hz9,hz10,hz11⟩:=hSw;go_simp;(try with_reducible rfl))
 try simp only[qA,List.getElem_toArray,List.getElem_cons_zero,List.getElem_cons_succ]
 refine qT 2 ?vs2 rfl ?ys2 hS0 ?_
 case ys2=>(intro wz hSw;obtain⟨hz0,hz1,hz2,hz3,hz4,hz5,hz6,hz7,hz8,hz9,hz10,hz11⟩:=hSw;go_simp;(try with_reducible rfl))
 try simp only[qA,List.getElem_toArray,List.getElem_cons_zero,List.getElem_cons_succ]
 refine qO 1 rfl fun K hK=>?_
 go_simp
 go_at_call 46
 refine(HFl.out W0.drew (Below.refl _ _).drew).mono ?_
 rintro e w5 ⟨rfl,hb5⟩
 have HJ5:Hid (AgJ w base g cp N nd pa ks (i) (leafN kd) w5):=HJ0.up (((Below.refl _ _).drew).trans (hb5.mono (Nat.le_refl _)))
 have hS5:(fun w':World=>w'.cell? ⟨w.heap.size,0,none⟩=some (.slice (some ⟨g,0,none⟩) N cp)∧w'.cell? ⟨w.heap.size,1,none⟩=some (.int .i64 ((i:Nat):Int))∧w'.cell? ⟨w.heap.size,2,none⟩=some (.int .i64 (nd:Int))∧w'.cell? ⟨w.heap.size,3,none⟩=some (.int .i64 0)∧w'.cell? ⟨w.heap.size,4,none⟩=some (.int .i64 (pa:Int))∧w'.cell? ⟨w.heap.size+3,0,none⟩=some (.int .i64 kd)∧w'.cell? ⟨w.heap.size+3,1,none⟩=some (.string ⟨#[]⟩)∧w'.cell? ⟨w.heap.size+3,2,none⟩=some (.bool false)∧w'.cell? ⟨w.heap.size+3,3,none⟩=some (.string ⟨#[]⟩)∧w'.cell? ⟨w.heap.size+3,4,none⟩=some (.int .u64 0)∧w'.cell? ⟨w.heap.size+3,5,none⟩=some (.int .u64 0)∧w'.cell? ⟨w.heap.size+3,6,none⟩=some (.int .i64 0)) w5:=⟨HJ5.p.cell (j:=0) rfl,HJ5.p.cell (j:=1) rfl,HJ5.p.cell (j:=2) rfl,HJ5.p.cell (j:=3) rfl,HJ5.p.cell (j:=4) rfl,HJ5.n.cell (j:=0) rfl,HJ5.n.cell (j:=1) rfl,HJ5.n.cell (j:=2) rfl,HJ5.n.cell (j:=3) rfl,HJ5.n.cell (j:=4) rfl,HJ5.n.cell (j:=5) rfl,HJ5.n.cell (j:=6) rfl⟩
 refine hK.out _ _ (.inr hS5) ?_
 clear hK hb5 HFl
 try simp only[qA,List.getElem_toArray,List.getElem_cons_zero,List.getElem_cons_succ]
 obtain⟨c0,c1,c2,c3,c4⟩:=HJ5.rp.c5
 have e0:=HJ5.rp.frozen 0
 have e1:=HJ5.rp.frozen 1
 have e2:=HJ5.rp.frozen 2
 have e3:=HJ5.rp.frozen 3
 have e4:=HJ5.rp.frozen 4
 obtain⟨W6,hW6⟩:∃V:World,V=setP w5 (w.heap.size+1) (.slice (some ⟨g,0,none⟩) N cp) (.int .i64 ((i:Nat):Int)) (.int .i64 (nd:Int)) (.int .i64 cc) (.int .i64 (k.pos:Int)):=⟨_,rfl⟩
 have hc6:Chg (fun k=>k=w.heap.size+1) w5 W6:=by rw[hW6];exact chg_setP _ _ _ _ _ _ _
 have hp6:=HJ5.p.chg hc6 (by omega)
 have hn6:=HJ5.n.chg hc6 (by omega)
 have hr6:=HJ5.rn.chg hc6 (by omega)
 have hS6:(fun w':World=>w'.cell? ⟨w.heap.size,0,none⟩=some (.slice (some ⟨g,0,none⟩) N cp)∧w'.cell? ⟨w.heap.size,1,none⟩=some (.int .i64 ((i:Nat):Int))∧w'.cell? ⟨w.heap.size,2,none⟩=some (.int .i64 (nd:Int))∧w'.cell? ⟨w.heap.size,3,none⟩=some (.int .i64 0)∧w'.cell? ⟨w.heap.size,4,none⟩=some (.int .i64 (pa:Int))∧w'.cell? ⟨w.heap.size+3,0,none⟩=some (.int .i64 kd)∧w'.cell? ⟨w.heap.size+3,1,none⟩=some (.string ⟨#[]⟩)∧w'.cell? ⟨w.heap.size+3,2,none⟩=some (.bool false)∧w'.cell? ⟨w.heap.size+3,3,none⟩=some (.string ⟨#[]⟩)∧w'.cell? ⟨w.heap.size+3,4,none⟩=some (.int .u64 0)∧w'.cell? ⟨w.heap.size+3,5,none⟩=some (.int .u64 0)∧w'.cell? ⟨w.heap.size+3,6,none⟩=some (.int .i64 0)) W6:=⟨hp6.cell (j:=0) rfl,hp6.cell (j:=1) rfl,hp6.cell (j:=2) rfl,hp6.cell (j:=3) rfl,hp6.cell (j:=4) rfl,hn6.cell (j:=0) rfl,hn6.cell (j:=1) rfl,hn6.cell (j:=2) rfl,hn6.cell (j:=3) rfl,hn6.cell (j:=4) rfl,hn6.cell (j:=5) rfl,hn6.cell (j:=6) rfl⟩
 obtain⟨d0,d1,d2,d3,d4,d5,d6⟩:=hr6.c7
 have f0:=hr6.frozen 0
 have f1:=hr6.frozen 1
 have f2:=hr6.frozen 2
 have f3:=hr6.frozen 3
 have f4:=hr6.frozen 4
 have f5:=hr6.frozen 5
 have f6:=hr6.frozen 6
 obtain⟨W9,hW9⟩:∃V:World,V=setN W6 (w.heap.size+2) (leafN kd):=⟨_,rfl⟩
 have hc9:Chg (fun k=>k=w.heap.size+2) W6 W9:=by rw[hW9];exact chg_setN _ _ _
 have hp9:=hp6.chg hc9 (by omega)
 have hn9:=hn6.chg hc9 (by omega)
 have hS9:(fun w':World=>w'.cell? ⟨w.heap.size,0,none⟩=some (.slice (some ⟨g,0,none⟩) N cp)∧w'.cell? ⟨w.heap.size,1,none⟩=some (.int .i64 ((i:Nat):Int))∧w'.cell? ⟨w.heap.size,2,none⟩=some (.int .i64 (nd:Int))∧w'.cell? ⟨w.heap.size,3,none⟩=some (.int .i64 0)∧w'.cell? ⟨w.heap.size,4,none⟩=some (.int .i64 (pa:Int))∧w'.cell? ⟨w.heap.size+3,0,none⟩=some (.int .i64 kd)∧w'.cell? ⟨w.heap.size+3,1,none⟩=some (.string ⟨#[]⟩)∧w'.cell? ⟨w.heap.size+3,2,none⟩=some (.bool false)∧w'.cell? ⟨w.heap.size+3,3,none⟩=some (.string ⟨#[]⟩)∧w'.cell? ⟨w.heap.size+3,4,none⟩=some (.int .u64 0)∧w'.cell? ⟨w.heap.size+3,5,none⟩=some (.int .u64 0)∧w'.cell? ⟨w.heap.size+3,6,none⟩=some (.int .i64 0)) W9:=⟨hp9.cell (j:=0) rfl,hp9.cell (j:=1) rfl,hp9.cell (j:=2) rfl,hp9.cell (j:=3) rfl,hp9.cell (j:=4) rfl,hn9.cell (j:=0) rfl,hn9.cell (j:=1) rfl,hn9.cell (j:=2) rfl,hn9.cell (j:=3) rfl,hn9.cell (j:=4) rfl,hn9.cell (j:=5) rfl,hn9.cell (j:=6) rfl⟩
 have HF:Hid (BoxAt W9 w.heap.size 41 5 (w.heap.size+1) [.slice (some ⟨g,0,none⟩) N cp,.int .i64 ((i:Nat):Int),.int .i64 (nd:Int),.int .i64 cc,.int .i64 (k.pos:Int)]∧BoxAt W9 w.heap.size 65 7 (w.heap.size+2) (Nd.seven (leafN kd))∧Below w.heap.size w W9):=by
  have hf:=HJ5.fin (.slice (some ⟨g,0,none⟩) N cp) (.int .i64 ((i:Nat):Int)) (.int .i64 (nd:Int)) (.int .i64 cc) (.int .i64 (k.pos:Int)) (leafN kd)
  rw[hW9,hW6]
  exact hf
 have HR:Hid (ArgP base g cp N nd pa ks kd i w (.returned (.tuple #[parV g N cp (i) nd cc k.pos,Nd.v (leafN kd)])) W9):=⟨HF.2.2,.inr ⟨cc,k.pos,i,(leafN kd),HAE.1,HAE.2,rfl⟩⟩
 obtain⟨p0,p1,p2,p3,p4⟩:=HF.1.c5
 obtain⟨q0,q1,q2,q3,q4,q5,q6⟩:=HF.2.1.c7
 unfold setP at hW6
 unfold setN at hW9
 clear hp6 hn6 hr6 hp9 hn9 hc6 hc9
 simp only[leafN,patN,cntN,noS]at hW9 q0 q1 q2 q3 q4 q5 q6
 refine qO 3 rfl fun K hK=>?_
 go_simp
 rw[←hW6]
 refine hK.out _ _ (.inr hS6) ?_
 clear hK hW6
 try simp only[qA,List.getElem_toArray,List.getElem_cons_zero,List.getElem_cons_succ]
 refine qO 4 rfl fun K hK=>?_
 go_simp
 rw[←hW9]
 refine hK.out _ _ (.inr hS9) ?_
 clear hK hW9
 try simp only[qA,List.getElem_toArray,List.getElem_cons_zero,List.getElem_cons_succ]
 refine qD ?_
 clear hS0 hS5 hS6 hS9 c0 c1 c2 c3 c4 d0 d1 d2 d3 d4 d5 d6 e0 e1 e2 e3 e4 f0 f1 f2 f3 f4 f5 f6
 go_wp2_with fail
 exact bodyPost_ret (v:=.tuple #[parV g N cp (i) nd cc k.pos,Nd.v (leafN kd)]) (by simp[results,Tryz.results49,go_sem,p0,p1,p2,p3,p4,q0,q1,q2,q3,q4,q5,q6,leafN,patN,cntN,noS]) rfl HR.out
set_option maxHeartbeats 8000000 in
theorem args_str {w:World} {base g cp N nd pa:Nat} {ks:List Tk} {i:Nat} {k:Tk} (h:OwnTk w base g cp ks) (hN:N=ks.length) (hl:N≤1000000) (hk:ks[i]?=some k) (hT:Toks ks) (kd:Int) (h3:¬kd≤3) (h7:kd≤7) {sx:ByteArray} (hs:k.k=.str sx):Calls Tryz.prog 49 #[parV g N cp i nd 0 pa,.int .i64 kd] w (ArgP base g cp N nd pa ks kd i w):=by
 obtain⟨W0,hW0⟩:=qE ((((w.alloc (Obj.cells #[.slice (some ⟨g,0,none⟩) N cp,.int .i64 (i:Int),.int .i64 (nd:Int),.int .i64 0,.int .i64 (pa:Int)] 41)).alloc (Obj.cells #[.slice none 0 0,.int .i64 0,.int .i64 0,.int .i64 0,.int .i64 0] 41)).alloc (Obj.cells #[.int .i64 0,.string ⟨#[]⟩,.bool false,.string ⟨#[]⟩,.int .u64 0,.int .u64 0,.int .i64 0] 65)).alloc (Obj.cells #[.int .i64 kd,.string ⟨#[]⟩,.bool false,.string ⟨#[]⟩,.int .u64 0,.int .u64 0,.int .i64 0] 65):World)
 have HJ0:Hid (AgJ w base g cp N nd pa ks i (leafN kd) W0):=ag_start kd h hW0
 have hi:i<N:=by rw[hN];exact(List.getElem?_eq_some_iff.1 hk).1
 have zi:(i:Int)<(N:Int):=by omega
 have H0:Hid (N=ks.length∧ks[i]?=some k∧hdK (ks.drop i)=k.k∧hdA (ks.drop i)=k.pos∧(ks.drop i).tail=ks.drop (i+1)∧Toks ks):=⟨hN,hk,(drop_hd hk).1,(drop_hd hk).2.1,(drop_hd hk).2.2,hT⟩
 have hgl:=h.lt.2
 clear h hN hk hT
 go_enter Tryz.func49,Tryz.ntmps49
 go_upto_region 2 with fail
 rw[←hW0]
 clear hW0
 obtain⟨t0,t1,t2,t3⟩:=tk_cells HJ0.tk H0.2.1
 rw[hs]at t0 t2
 have t0':W0.cell? ⟨g,i*4,none⟩=some (.int .i64 3):=t0
 have t2':W0.cell? ⟨g,i*4+2,none⟩=some (.string sx):=t2
 have HK:Hid (sx.size≤200∧(∃k1,ks[i+1]?=some k1)∧hdK (ks.drop i)=.str sx):=by
  obtain⟨q1,q2⟩:=toks_next H0.2.2.2.2.2 H0.2.1 (by rw[hs];intro q;cases q) (by rw[hs];intro q;cases q)
  rw[hs]at q1
  exact⟨q1,q2,by rw[H0.2.2.1];exact hs⟩
 have hi1:i+1<N:=by
  obtain⟨k1,hk1⟩:=HK.2.1
  have:=(List.getElem?_eq_some_iff.1 hk1).1
  rw[←H0.1]at this;exact this
 obtain⟨a0,a1⟩:=HJ0.p.c2
 clear t0 t1 t2 t3 hs
 obtain⟨W1,hW1⟩:∃V:World,V=W0.setCell ⟨w.heap.size+3,1,none⟩ (.string sx):=⟨_,rfl⟩
 have HJ1:Hid (AgJ w base g cp N nd pa ks (i) (patN kd sx) W1):=by rw[hW1];exact HJ0.stepN 1 _ rfl
 have n1:=HJ0.n.cell (j:=1) rfl
 have m1:=HJ0.n.frozen 1
 go_upto_region 8 with fail
 rw[←hW1]
 clear hW1 t0' t2' a0 a1 n1 m1
 have n1:=HJ1.n.cell (j:=1) rfl
 have HAr:Hid (argsM kd (ks.drop i)=if(checkM (sb sx)).1=0 then .ok (ks.drop (i+1),patN kd sx)else failF 6 (ks.drop i)):=by
  show _=_
  rw[argsM_str h3 h7 HK.2.2,H0.2.2.2.2.1]
 go_wp2_with fail
 refine(specCheck_core sx W1 (by have:=HK.1;unfold maxLen;omega)).mono ?_
 intro e w2 h2
 obtain⟨rfl,hb2⟩:=h2
 rw[show specM (sb sx)=checkM (sb sx)from rfl]
 have HJ2:Hid (AgJ w base g cp N nd pa ks i (patN kd sx) w2):=HJ1.up hb2
 clear hb2 n1
 obtain⟨cr,hcr⟩:=qE ((checkM (sb sx)).1)
 obtain⟨ck,hck⟩:=qE (((checkM (sb sx)).2:Int):Int)
 rw[←hcr,←hck]
 rw[←hcr]at HAr
 have hfd:∀wz:World,(Instr.field 125 (.agg #[.int .i64 cr,.int .i64 ck]) 0).run Tryz.prog wz=.ok (.int .i64 cr) wz:=fun wz=>by kernel_rfl
 by_cases hc0:cr=0
 ·have HA:Hid (argsM kd (ks.drop i)=.ok (ks.drop (i+1),patN kd sx)):=by show _=_;rw[HAr.out,if_pos hc0]
  have zc:(cr==0)=true:=by rw[beq_iff_eq];exact hc0
  clear hcr hc0 HAr hck
  have a1:=HJ2.p.cell (j:=1) rfl
  have ia:=HJ2.p.frozen 1
  obtain⟨W3,hW3⟩:∃V:World,V=w2.setCell ⟨w.heap.size,1,none⟩ (.int .i64 (((i:Nat):Int)+1)):=⟨_,rfl⟩
  have HJ3:Hid (AgJ w base g cp N nd pa ks (i+1) (patN kd sx) W3):=by rw[hW3];exact HJ2.stepI _ (by simp)
  obtain⟨i1,hi1'⟩:=qE (i+1)
  rw[←hi1']at HJ3 hi1
  have Hi1:Hid (i1=i+1):=hi1'
  have hile:i≤i1:=by omega
  clear hi1'
  go_upto_region 11 with fail
  rw[←hW3]
  clear hW3 a1 ia
  obtain⟨a0,a1,a2,a3,a4⟩:=HJ3.p.c5
  obtain⟨b0,b1,b2,b3,b4,b5,b6⟩:=HJ3.n.c7
  obtain⟨c0,c1,c2,c3,c4⟩:=HJ3.rp.c5
  obtain⟨d0,d1,d2,d3,d4,d5,d6⟩:=HJ3.rn.c7
  have e0:=HJ3.rp.frozen 0
  have e1:=HJ3.rp.frozen 1
  have e2:=HJ3.rp.frozen 2
  have e3:=HJ3.rp.frozen 3
  have e4:=HJ3.rp.frozen 4
  have f0:=HJ3.rn.frozen 0
  have f1:=HJ3.rn.frozen 1
  have f2:=HJ3.rn.frozen 2
  have f3:=HJ3.rn.frozen 3
  have f4:=HJ3.rn.frozen 4
  have f5:=HJ3.rn.frozen 5
  have f6:=HJ3.rn.frozen 6
  obtain⟨W9,hW9⟩:∃V:World,V=(setN (setP W3 (w.heap.size+1) (.slice (some ⟨g,0,none⟩) N cp) (.int .i64 (i1:Int)) (.int .i64 (nd:Int)) (.int .i64 0) (.int .i64 (pa:Int))) (w.heap.size+2) (patN kd sx)).drew:=⟨_,rfl⟩
  have HF:Hid (BoxAt W9 w.heap.size 41 5 (w.heap.size+1) [.slice (some ⟨g,0,none⟩) N cp,.int .i64 (i1:Int),.int .i64 (nd:Int),.int .i64 0,.int .i64 (pa:Int)]∧BoxAt W9 w.heap.size 65 7 (w.heap.size+2) (Nd.seven (patN kd sx))∧Below w.heap.size w W9):=by
   have hf:=HJ3.fin (.slice (some ⟨g,0,none⟩) N cp) (.int .i64 (i1:Int)) (.int .i64 (nd:Int)) (.int .i64 0) (.int .i64 (pa:Int)) (patN kd sx)
   have hd:∀X:World,Below X.heap.size X X.drew:=fun X=>(Below.refl _ _).drew
   rw[hW9]
   exact⟨hf.1.below (hd _),hf.2.1.below (hd _),hf.2.2.trans ((hd _).mono hf.2.2.size)⟩
  have HR:Hid (ArgP base g cp N nd pa ks kd i w (.returned (.tuple #[parV g N cp (i1) nd 0 pa,Nd.v (patN kd sx)])) W9):=⟨HF.2.2,.inl ⟨i1,(patN kd sx),by rw[Hi1.out];exact HA.out,by omega,by omega,rfl⟩⟩
  obtain⟨p0,p1,p2,p3,p4⟩:=HF.1.c5
  obtain⟨q0,q1,q2,q3,q4,q5,q6⟩:=HF.2.1.c7
  unfold setN setP at hW9
  simp only[leafN,patN,cntN,noS]at hW9 b0 b1 b2 b3 b4 b5 b6 q0 q1 q2 q3 q4 q5 q6
  go_region
  rw[←hW9]
  clear hW9 a0 a1 a2 a3 a4 b0 b1 b2 b3 b4 b5 b6 c0 c1 c2 c3 c4 d0 d1 d2 d3 d4 d5 d6 e0 e1 e2 e3 e4 f0 f1 f2 f3 f4 f5 f6
  go_wp2_with fail
  exact bodyPost_ret (v:=.tuple #[parV g N cp (i1) nd 0 pa,Nd.v (patN kd sx)]) (by simp[results,Tryz.results49,go_sem,p0,p1,p2,p3,p4,q0,q1,q2,q3,q4,q5,q6,leafN,patN,cntN,noS]) rfl HR.out
 ·have HA:Hid (argsM kd (ks.drop i)=failF 6 (ks.drop i)):=by show _=_;rw[HAr.out,if_neg hc0]
  have zc:(cr==0)=false:=by rw[beq_eq_false_iff_ne];exact hc0
  clear hcr hc0 HAr hck
  obtain⟨cc,hcc⟩:=qE (if k.k.isBad=true then 2 else 6:Int)
  have HFl:Hid (∀wx,Below w2.heap.size w2 wx→Calls Tryz.prog 46 #[parV g N cp (i) nd 0 pa,.int .i64 6] wx fun e w'=>e=.returned (parV g N cp (i) nd cc k.pos)∧Below wx.heap.size wx w'):=fun wx hx=>by
   rw[hcc]
   exact l5Fail_core (HJ2.tk.below hx) H0.1 hl H0.2.1 nd 0 pa 6
  have HAE:Hid (argsM kd (ks.drop i)=.error (cc,k.pos)∧1≤cc):=⟨by
   rw[HA.out,hcc]
   unfold failF
   rw[(drop_hd H0.2.1).1,(drop_hd H0.2.1).2.1],by rw[hcc];split<;>decide⟩
  clear hcc
  go_upto_region 9 with fail
  have hS0:(fun w':World=>w'.cell? ⟨w.heap.size,0,none⟩=some (.slice (some ⟨g,0,none⟩) N cp)∧w'.cell? ⟨w.heap.size,1,none⟩=some (.int .i64 ((i:Nat):Int))∧w'.cell? ⟨w.heap.size,2,none⟩=some (.int .i64 (nd:Int))∧w'.cell? ⟨w.heap.size,3,none⟩=some (.int .i64 0)∧w'.cell? ⟨w.heap.size,4,none⟩=some (.int .i64 (pa:Int))∧w'.cell? ⟨w.heap.size+3,0,none⟩=some (.int .i64 kd)∧w'.cell? ⟨w.heap.size+3,1,none⟩=some (.string sx)∧w'.cell? ⟨w.heap.size+3,2,none⟩=some (.bool false)∧w'.cell? ⟨w.heap.size+3,3,none⟩=some (.string ⟨#[]⟩)∧w'.cell? ⟨w.heap.size+3,4,none⟩=some (.int .u64 0)∧w'.cell? ⟨w.heap.size+3,5,none⟩=some (.int .u64 0)∧w'.cell? ⟨w.heap.size+3,6,none⟩=some (.int .i64 0)) w2.drew:=⟨HJ2.p.cell (j:=0) rfl,HJ2.p.cell (j:=1) rfl,HJ2.p.cell (j:=2) rfl,HJ2.p.cell (j:=3) rfl,HJ2.p.cell (j:=4) rfl,HJ2.n.cell (j:=0) rfl,HJ2.n.cell (j:=1) rfl,HJ2.n.cell (j:=2) rfl,HJ2.n.cell (j:=3) rfl,HJ2.n.cell (j:=4) rfl,HJ2.n.cell (j:=5) rfl,HJ2.n.cell (j:=6) rfl⟩
  refine wp_region_T 99 (fun w':World=>w'.cell? ⟨w.heap.size,0,none⟩=some (.slice (some ⟨g,0,none⟩) N cp)∧w'.cell? ⟨w.heap.size,1,none⟩=some (.int .i64 ((i:Nat):Int))∧w'.cell? ⟨w.heap.size,2,none⟩=some (.int .i64 (nd:Int))∧w'.cell? ⟨w.heap.size,3,none⟩=some (.int .i64 0)∧w'.cell? ⟨w.heap.size,4,none⟩=some (.int .i64 (pa:Int))∧w'.cell? ⟨w.heap.size+3,0,none⟩=some (.int .i64 kd)∧w'.cell? ⟨w.heap.size+3,1,none⟩=some (.string sx)∧w'.cell? ⟨w.heap.size+3,2,none⟩=some (.bool false)∧w'.cell? ⟨w.heap.size+3,3,none⟩=some (.string ⟨#[]⟩)∧w'.cell? ⟨w.heap.size+3,4,none⟩=some (.int .u64 0)∧w'.cell? ⟨w.heap.size+3,5,none⟩=some (.int .u64 0)∧w'.cell? ⟨w.heap.size+3,6,none⟩=some (.int .i64 0)) (by kernel_rfl) ?_
  refine qT 0 ?vt0 rfl ?yt0 hS0 ?_
  case yt0=>(intro wz hSw;obtain⟨hz0,hz1,hz2,hz3,hz4,hz5,hz6,hz7,hz8,hz9,hz10,hz11⟩:=hSw;go_simp;(try with_reducible rfl))
  try simp only[qA,List.getElem_toArray,List.getElem_cons_zero,List.getElem_cons_succ]
  refine qT 2 ?vt2 rfl ?yt2 hS0 ?_
  case yt2=>(intro wz hSw;obtain⟨hz0,hz1,hz2,hz3,hz4,hz5,hz6,hz7,hz8,hz9,hz10,hz11⟩:=hSw;go_simp;(try with_reducible rfl))
  try simp only[qA,List.getElem_toArray,List.getElem_cons_zero,List.getElem_cons_succ]
  refine qO 1 rfl fun K hK=>?_
  go_simp
  go_at_call 46
  refine(HFl.out w2.drew (Below.refl _ _).drew).mono ?_
  rintro e w5 ⟨rfl,hb5⟩
  have HJ5:Hid (AgJ w base g cp N nd pa ks (i) (patN kd sx) w5):=HJ2.up (((Below.refl _ _).drew).trans (hb5.mono (Nat.le_refl _)))
  have hS5:(fun w':World=>w'.cell? ⟨w.heap.size,0,none⟩=some (.slice (some ⟨g,0,none⟩) N cp)∧w'.cell? ⟨w.heap.size,1,none⟩=some (.int .i64 ((i:Nat):Int))∧w'.cell? ⟨w.heap.size,2,none⟩=some (.int .i64 (nd:Int))∧w'.cell? ⟨w.heap.size,3,none⟩=some (.int .i64 0)∧w'.cell? ⟨w.heap.size,4,none⟩=some (.int .i64 (pa:Int))∧w'.cell? ⟨w.heap.size+3,0,none⟩=some (.int .i64 kd)∧w'.cell? ⟨w.heap.size+3,1,none⟩=some (.string sx)∧w'.cell? ⟨w.heap.size+3,2,none⟩=some (.bool false)∧w'.cell? ⟨w.heap.size+3,3,none⟩=some (.string ⟨#[]⟩)∧w'.cell? ⟨w.heap.size+3,4,none⟩=some (.int .u64 0)∧w'.cell? ⟨w.heap.size+3,5,none⟩=some (.int .u64 0)∧w'.cell? ⟨w.heap.size+3,6,none⟩=some (.int .i64 0)) w5:=⟨HJ5.p.cell (j:=0) rfl,HJ5.p.cell (j:=1) rfl,HJ5.p.cell (j:=2) rfl,HJ5.p.cell (j:=3) rfl,HJ5.p.cell (j:=4) rfl,HJ5.n.cell (j:=0) rfl,HJ5.n.cell (j:=1) rfl,HJ5.n.cell (j:=2) rfl,HJ5.n.cell (j:=3) rfl,HJ5.n.cell (j:=4) rfl,HJ5.n.cell (j:=5) rfl,HJ5.n.cell (j:=6) rfl⟩
  refine hK.out _ _ (.inr hS5) ?_
  clear hK hb5 HFl
  try simp only[qA,List.getElem_toArray,List.getElem_cons_zero,List.getElem_cons_succ]
  obtain⟨c0,c1,c2,c3,c4⟩:=HJ5.rp.c5
  have e0:=HJ5.rp.frozen 0
  have e1:=HJ5.rp.frozen 1
  have e2:=HJ5.rp.frozen 2
  have e3:=HJ5.rp.frozen 3
  have e4:=HJ5.rp.frozen 4
  obtain⟨W6,hW6⟩:∃V:World,V=setP w5 (w.heap.size+1) (.slice (some ⟨g,0,none⟩) N cp) (.int .i64 ((i:Nat):Int)) (.int .i64 (nd:Int)) (.int .i64 cc) (.int .i64 (k.pos:Int)):=⟨_,rfl⟩
  have hc6:Chg (fun k=>k=w.heap.size+1) w5 W6:=by rw[hW6];exact chg_setP _ _ _ _ _ _ _
  have hp6:=HJ5.p.chg hc6 (by omega)
  have hn6:=HJ5.n.chg hc6 (by omega)
  have hr6:=HJ5.rn.chg hc6 (by omega)
  have hS6:(fun w':World=>w'.cell? ⟨w.heap.size,0,none⟩=some (.slice (some ⟨g,0,none⟩) N cp)∧w'.cell? ⟨w.heap.size,1,none⟩=some (.int .i64 ((i:Nat):Int))∧w'.cell? ⟨w.heap.size,2,none⟩=some (.int .i64 (nd:Int))∧w'.cell? ⟨w.heap.size,3,none⟩=some (.int .i64 0)∧w'.cell? ⟨w.heap.size,4,none⟩=some (.int .i64 (pa:Int))∧w'.cell? ⟨w.heap.size+3,0,none⟩=some (.int .i64 kd)∧w'.cell? ⟨w.heap.size+3,1,none⟩=some (.string sx)∧w'.cell? ⟨w.heap.size+3,2,none⟩=some (.bool false)∧w'.cell? ⟨w.heap.size+3,3,none⟩=some (.string ⟨#[]⟩)∧w'.cell? ⟨w.heap.size+3,4,none⟩=some (.int .u64 0)∧w'.cell? ⟨w.heap.size+3,5,none⟩=some (.int .u64 0)∧w'.cell? ⟨w.heap.size+3,6,none⟩=some (.int .i64 0)) W6:=⟨hp6.cell (j:=0) rfl,hp6.cell (j:=1) rfl,hp6.cell (j:=2) rfl,hp6.cell (j:=3) rfl,hp6.cell (j:=4) rfl,hn6.cell (j:=0) rfl,hn6.cell (j:=1) rfl,hn6.cell (j:=2) rfl,hn6.cell (j:=3) rfl,hn6.cell (j:=4) rfl,hn6.cell (j:=5) rfl,hn6.cell (j:=6) rfl⟩
  obtain⟨d0,d1,d2,d3,d4,d5,d6⟩:=hr6.c7
  have f0:=hr6.frozen 0
  have f1:=hr6.frozen 1
  have f2:=hr6.frozen 2
  have f3:=hr6.frozen 3
  have f4:=hr6.frozen 4
  have f5:=hr6.frozen 5
  have f6:=hr6.frozen 6
  obtain⟨W9,hW9⟩:∃V:World,V=setN W6 (w.heap.size+2) (patN kd sx):=⟨_,rfl⟩
  have hc9:Chg (fun k=>k=w.heap.size+2) W6 W9:=by rw[hW9];exact chg_setN _ _ _
  have hp9:=hp6.chg hc9 (by omega)
  have hn9:=hn6.chg hc9 (by omega)
  have hS9:(fun w':World=>w'.cell? ⟨w.heap.size,0,none⟩=some (.slice (some ⟨g,0,none⟩) N cp)∧w'.cell? ⟨w.heap.size,1,none⟩=some (.int .i64 ((i:Nat):Int))∧w'.cell? ⟨w.heap.size,2,none⟩=some (.int .i64 (nd:Int))∧w'.cell? ⟨w.heap.size,3,none⟩=some (.int .i64 0)∧w'.cell? ⟨w.heap.size,4,none⟩=some (.int .i64 (pa:Int))∧w'.cell? ⟨w.heap.size+3,0,none⟩=some (.int .i64 kd)∧w'.cell? ⟨w.heap.size+3,1,none⟩=some (.string sx)∧w'.cell? ⟨w.heap.size+3,2,none⟩=some (.bool false)∧w'.cell? ⟨w.heap.size+3,3,none⟩=some (.string ⟨#[]⟩)∧w'.cell? ⟨w.heap.size+3,4,none⟩=some (.int .u64 0)∧w'.cell? ⟨w.heap.size+3,5,none⟩=some (.int .u64 0)∧w'.cell? ⟨w.heap.size+3,6,none⟩=some (.int .i64 0)) W9:=⟨hp9.cell (j:=0) rfl,hp9.cell (j:=1) rfl,hp9.cell (j:=2) rfl,hp9.cell (j:=3) rfl,hp9.cell (j:=4) rfl,hn9.cell (j:=0) rfl,hn9.cell (j:=1) rfl,hn9.cell (j:=2) rfl,hn9.cell (j:=3) rfl,hn9.cell (j:=4) rfl,hn9.cell (j:=5) rfl,hn9.cell (j:=6) rfl⟩
  have HF:Hid (BoxAt W9 w.heap.size 41 5 (w.heap.size+1) [.slice (some ⟨g,0,none⟩) N cp,.int .i64 ((i:Nat):Int),.int .i64 (nd:Int),.int .i64 cc,.int .i64 (k.pos:Int)]∧BoxAt W9 w.heap.size 65 7 (w.heap.size+2) (Nd.seven (patN kd sx))∧Below w.heap.size w W9):=by
   have hf:=HJ5.fin (.slice (some ⟨g,0,none⟩) N cp) (.int .i64 ((i:Nat):Int)) (.int .i64 (nd:Int)) (.int .i64 cc) (.int .i64 (k.pos:Int)) (patN kd sx)
   rw[hW9,hW6]
   exact hf
  have HR:Hid (ArgP base g cp N nd pa ks kd i w (.returned (.tuple #[parV g N cp (i) nd cc k.pos,Nd.v (patN kd sx)])) W9):=⟨HF.2.2,.inr ⟨cc,k.pos,i,(patN kd sx),HAE.1,HAE.2,rfl⟩⟩
  obtain⟨p0,p1,p2,p3,p4⟩:=HF.1.c5
  obtain⟨q0,q1,q2,q3,q4,q5,q6⟩:=HF.2.1.c7
  unfold setP at hW6
  unfold setN at hW9
  clear hp6 hn6 hr6 hp9 hn9 hc6 hc9
  simp only[leafN,patN,cntN,noS]at hW9 q0 q1 q2 q3 q4 q5 q6
  refine qO 3 rfl fun K hK=>?_
  go_simp
  rw[←hW6]
  refine hK.out _ _ (.inr hS6) ?_
  clear hK hW6
  try simp only[qA,List.getElem_toArray,List.getElem_cons_zero,List.getElem_cons_succ]
  refine qO 4 rfl fun K hK=>?_
  go_simp
  rw[←hW9]
  refine hK.out _ _ (.inr hS9) ?_
  clear hK hW9
  try simp only[qA,List.getElem_toArray,List.getElem_cons_zero,List.getElem_cons_succ]
  refine qD ?_
  clear hS0 hS5 hS6 hS9 c0 c1 c2 c3 c4 d0 d1 d2 d3 d4 d5 d6 e0 e1 e2 e3 e4 f0 f1 f2 f3 f4 f5 f6
  go_wp2_with fail
  exact bodyPost_ret (v:=.tuple #[parV g N cp (i) nd cc k.pos,Nd.v (patN kd sx)]) (by simp[results,Tryz.results49,go_sem,p0,p1,p2,p3,p4,q0,q1,q2,q3,q4,q5,q6,leafN,patN,cntN,noS]) rfl HR.out
set_option maxHeartbeats 8000000 in
theorem args_nonum {w:World} {base g cp N nd pa:Nat} {ks:List Tk} {i:Nat} {k:Tk} (h:OwnTk w base g cp ks) (hN:N=ks.length) (hl:N≤1000000) (hk:ks[i]?=some k) (hT:Toks ks) (kd:Int) (h11:11≤kd) (hn:¬tkN k.k=2):Calls Tryz.prog 49 #[parV g N cp i nd 0 pa,.int .i64 kd] w (ArgP base g cp N nd pa ks kd i w):=by
 obtain⟨W0,hW0⟩:=qE ((((w.alloc (Obj.cells #[.slice (some ⟨g,0,none⟩) N cp,.int .i64 (i:Int),.int .i64 (nd:Int),.int .i64 0,.int .i64 (pa:Int)] 41)).alloc (Obj.cells #[.slice none 0 0,.int .i64 0,.int .i64 0,.int .i64 0,.int .i64 0] 41)).alloc (Obj.cells #[.int .i64 0,.string ⟨#[]⟩,.bool false,.string ⟨#[]⟩,.int .u64 0,.int .u64 0,.int .i64 0] 65)).alloc (Obj.cells #[.int .i64 kd,.string ⟨#[]⟩,.bool false,.string ⟨#[]⟩,.int .u64 0,.int .u64 0,.int .i64 0] 65):World)
 have HJ0:Hid (AgJ w base g cp N nd pa ks i (leafN kd) W0):=ag_start kd h hW0
 have hi:i<N:=by rw[hN];exact(List.getElem?_eq_some_iff.1 hk).1
 have zi:(i:Int)<(N:Int):=by omega
 have H0:Hid (N=ks.length∧ks[i]?=some k∧hdK (ks.drop i)=k.k∧hdA (ks.drop i)=k.pos∧(ks.drop i).tail=ks.drop (i+1)∧Toks ks):=⟨hN,hk,(drop_hd hk).1,(drop_hd hk).2.1,(drop_hd hk).2.2,hT⟩
 have hgl:=h.lt.2
 clear h hN hk hT
 go_enter Tryz.func49,Tryz.ntmps49
 go_upto_region 2 with fail
 rw[←hW0]
 clear hW0
 obtain⟨t0,t1,t2,t3⟩:=tk_cells HJ0.tk H0.2.1
 obtain⟨a0,a1⟩:=HJ0.p.c2
 have z3:(tkN k.k==2)=false:=by rw[beq_eq_false_iff_ne];exact hn
 have HA:Hid (argsM kd (ks.drop i)=failF 3 (ks.drop i)):=argsM_nonum h11 (by rw[H0.2.2.1];exact hn)
 have y1:¬kd≤3:=by omega
 have y2:¬kd≤7:=by omega
 clear t1 t2 t3 hn
 obtain⟨cc,hcc⟩:=qE (if k.k.isBad=true then 2 else 3:Int)
 have HFl:Hid (∀wx,Below W0.heap.size W0 wx→Calls Tryz.prog 46 #[parV g N cp (i) nd 0 pa,.int .i64 3] wx fun e w'=>e=.returned (parV g N cp (i) nd cc k.pos)∧Below wx.heap.size wx w'):=fun wx hx=>by
  rw[hcc]
  exact l5Fail_core (HJ0.tk.below hx) H0.1 hl H0.2.1 nd 0 pa 3
 have HAE:Hid (argsM kd (ks.drop i)=.error (cc,k.pos)∧1≤cc):=⟨by
  rw[HA.out,hcc]
  unfold failF
  rw[(drop_hd H0.2.1).1,(drop_hd H0.2.1).2.1],by rw[hcc];split<;>decide⟩
 clear hcc
 go_upto_region 14 with fail
 have hS0:(fun w':World=>w'.cell? ⟨w.heap.size,0,none⟩=some (.slice (some ⟨g,0,none⟩) N cp)∧w'.cell? ⟨w.heap.size,1,none⟩=some (.int .i64 ((i:Nat):Int))∧w'.cell? ⟨w.heap.size,2,none⟩=some (.int .i64 (nd:Int))∧w'.cell? ⟨w.heap.size,3,none⟩=some (.int .i64 0)∧w'.cell? ⟨w.heap.size,4,none⟩=some (.int .i64 (pa:Int))∧w'.cell? ⟨w.heap.size+3,0,none⟩=some (.int .i64 kd)∧w'.cell? ⟨w.heap.size+3,1,none⟩=some (.string ⟨#[]⟩)∧w'.cell? ⟨w.heap.size+3,2,none⟩=some (.bool false)∧w'.cell? ⟨w.heap.size+3,3,none⟩=some (.string ⟨#[]⟩)∧w'.cell? ⟨w.heap.size+3,4,none⟩=some (.int .u64 0)∧w'.cell? ⟨w.heap.size+3,5,none⟩=some (.int .u64 0)∧w'.cell? ⟨w.heap.size+3,6,none⟩=some (.int .i64 0)) W0.drew:=⟨HJ0.p.cell (j:=0) rfl,HJ0.p.cell (j:=1) rfl,HJ0.p.cell (j:=2) rfl,HJ0.p.cell (j:=3) rfl,HJ0.p.cell (j:=4) rfl,HJ0.n.cell (j:=0) rfl,HJ0.n.cell (j:=1) rfl,HJ0.n.cell (j:=2) rfl,HJ0.n.cell (j:=3) rfl,HJ0.n.cell (j:=4) rfl,HJ0.n.cell (j:=5) rfl,HJ0.n.cell (j:=6) rfl⟩
 refine wp_region_T 99 (fun w':World=>w'.cell? ⟨w.heap.size,0,none⟩=some (.slice (some ⟨g,0,none⟩) N cp)∧w'.cell? ⟨w.heap.size,1,none⟩=some (.int .i64 ((i:Nat):Int))∧w'.cell? ⟨w.heap.size,2,none⟩=some (.int .i64 (nd:Int))∧w'.cell? ⟨w.heap.size,3,none⟩=some (.int .i64 0)∧w'.cell? ⟨w.heap.size,4,none⟩=some (.int .i64 (pa:Int))∧w'.cell? ⟨w.heap.size+3,0,none⟩=some (.int .i64 kd)∧w'.cell? ⟨w.heap.size+3,1,none⟩=some (.string ⟨#[]⟩)∧w'.cell? ⟨w.heap.size+3,2,none⟩=some (.bool false)∧w'.cell? ⟨w.heap.size+3,3,none⟩=some (.string ⟨#[]⟩)∧w'.cell? ⟨w.heap.size+3,4,none⟩=some (.int .u64 0)∧w'.cell? ⟨w.heap.size+3,5,none⟩=some (.int .u64 0)∧w'.cell? ⟨w.heap.size+3,6,none⟩=some (.int .i64 0)) (by kernel_rfl) ?_
 refine qT 0 ?vu0 rfl ?yu0 hS0 ?_
 case yu0=>(intro wz hSw;obtain⟨hz0,hz1,hz2,hz3,hz4,hz5,hz6,hz7,hz8,hz9,hz10,hz11⟩:=hSw;go_simp;(try with_reducible rfl))
 try simp only[qA,List.getElem_toArray,List.getElem_cons_zero,List.getElem_cons_succ]
 refine qT 2 ?vu2 rfl ?yu2 hS0 ?_
 case yu2=>(intro wz hSw;obtain⟨hz0,hz1,hz2,hz3,hz4,hz5,hz6,hz7,hz8,hz9,hz10,hz11⟩:=hSw;go_simp;(try with_reducible rfl))
 try simp only[qA,List.getElem_toArray,List.getElem_cons_zero,List.getElem_cons_succ]
 refine qO 1 rfl fun K hK=>?_
 go_simp
 go_at_call 46
 refine(HFl.out W0.drew (Below.refl _ _).drew).mono ?_
 rintro e w5 ⟨rfl,hb5⟩
 have HJ5:Hid (AgJ w base g cp N nd pa ks (i) (leafN kd) w5):=HJ0.up (((Below.refl _ _).drew).trans (hb5.mono (Nat.le_refl _)))
 have hS5:(fun w':World=>w'.cell? ⟨w.heap.size,0,none⟩=some (.slice (some ⟨g,0,none⟩) N cp)∧w'.cell? ⟨w.heap.size,1,none⟩=some (.int .i64 ((i:Nat):Int))∧w'.cell? ⟨w.heap.size,2,none⟩=some (.int .i64 (nd:Int))∧w'.cell? ⟨w.heap.size,3,none⟩=some (.int .i64 0)∧w'.cell? ⟨w.heap.size,4,none⟩=some (.int .i64 (pa:Int))∧w'.cell? ⟨w.heap.size+3,0,none⟩=some (.int .i64 kd)∧w'.cell? ⟨w.heap.size+3,1,none⟩=some (.string ⟨#[]⟩)∧w'.cell? ⟨w.heap.size+3,2,none⟩=some (.bool false)∧w'.cell? ⟨w.heap.size+3,3,none⟩=some (.string ⟨#[]⟩)∧w'.cell? ⟨w.heap.size+3,4,none⟩=some (.int .u64 0)∧w'.cell? ⟨w.heap.size+3,5,none⟩=some (.int .u64 0)∧w'.cell? ⟨w.heap.size+3,6,none⟩=some (.int .i64 0)) w5:=⟨HJ5.p.cell (j:=0) rfl,HJ5.p.cell (j:=1) rfl,HJ5.p.cell (j:=2) rfl,HJ5.p.cell (j:=3) rfl,HJ5.p.cell (j:=4) rfl,HJ5.n.cell (j:=0) rfl,HJ5.n.cell (j:=1) rfl,HJ5.n.cell (j:=2) rfl,HJ5.n.cell (j:=3) rfl,HJ5.n.cell (j:=4) rfl,HJ5.n.cell (j:=5) rfl,HJ5.n.cell (j:=6) rfl⟩
 refine hK.out _ _ (.inr hS5) ?_
 clear hK hb5 HFl
 try simp only[qA,List.getElem_toArray,List.getElem_cons_zero,List.getElem_cons_succ]
 obtain⟨c0,c1,c2,c3,c4⟩:=HJ5.rp.c5
 have e0:=HJ5.rp.frozen 0
 have e1:=HJ5.rp.frozen 1
 have e2:=HJ5.rp.frozen 2
 have e3:=HJ5.rp.frozen 3
 have e4:=HJ5.rp.frozen 4
 obtain⟨W6,hW6⟩:∃V:World,V=setP w5 (w.heap.size+1) (.slice (some ⟨g,0,none⟩) N cp) (.int .i64 ((i:Nat):Int)) (.int .i64 (nd:Int)) (.int .i64 cc) (.int .i64 (k.pos:Int)):=⟨_,rfl⟩
 have hc6:Chg (fun k=>k=w.heap.size+1) w5 W6:=by rw[hW6];exact chg_setP _ _ _ _ _ _ _
 have hp6:=HJ5.p.chg hc6 (by omega)
 have hn6:=HJ5.n.chg hc6 (by omega)
 have hr6:=HJ5.rn.chg hc6 (by omega)
 have hS6:(fun w':World=>w'.cell? ⟨w.heap.size,0,none⟩=some (.slice (some ⟨g,0,none⟩) N cp)∧w'.cell? ⟨w.heap.size,1,none⟩=some (.int .i64 ((i:Nat):Int))∧w'.cell? ⟨w.heap.size,2,none⟩=some (.int .i64 (nd:Int))∧w'.cell? ⟨w.heap.size,3,none⟩=some (.int .i64 0)∧w'.cell? ⟨w.heap.size,4,none⟩=some (.int .i64 (pa:Int))∧w'.cell? ⟨w.heap.size+3,0,none⟩=some (.int .i64 kd)∧w'.cell? ⟨w.heap.size+3,1,none⟩=some (.string ⟨#[]⟩)∧w'.cell? ⟨w.heap.size+3,2,none⟩=some (.bool false)∧w'.cell? ⟨w.heap.size+3,3,none⟩=some (.string ⟨#[]⟩)∧w'.cell? ⟨w.heap.size+3,4,none⟩=some (.int .u64 0)∧w'.cell? ⟨w.heap.size+3,5,none⟩=some (.int .u64 0)∧w'.cell? ⟨w.heap.size+3,6,none⟩=some (.int .i64 0)) W6:=⟨hp6.cell (j:=0) rfl,hp6.cell (j:=1) rfl,hp6.cell (j:=2) rfl,hp6.cell (j:=3) rfl,hp6.cell (j:=4) rfl,hn6.cell (j:=0) rfl,hn6.cell (j:=1) rfl,hn6.cell (j:=2) rfl,hn6.cell (j:=3) rfl,hn6.cell (j:=4) rfl,hn6.cell (j:=5) rfl,hn6.cell (j:=6) rfl⟩
 obtain⟨d0,d1,d2,d3,d4,d5,d6⟩:=hr6.c7
 have f0:=hr6.frozen 0
 have f1:=hr6.frozen 1
 have f2:=hr6.frozen 2
 have f3:=hr6.frozen 3
 have f4:=hr6.frozen 4
 have f5:=hr6.frozen 5
 have f6:=hr6.frozen 6
 obtain⟨W9,hW9⟩:∃V:World,V=setN W6 (w.heap.size+2) (leafN kd):=⟨_,rfl⟩
 have hc9:Chg (fun k=>k=w.heap.size+2) W6 W9:=by rw[hW9];exact chg_setN _ _ _
 have hp9:=hp6.chg hc9 (by omega)
 have hn9:=hn6.chg hc9 (by omega)
 have hS9:(fun w':World=>w'.cell? ⟨w.heap.size,0,none⟩=some (.slice (some ⟨g,0,none⟩) N cp)∧w'.cell? ⟨w.heap.size,1,none⟩=some (.int .i64 ((i:Nat):Int))∧w'.cell? ⟨w.heap.size,2,none⟩=some (.int .i64 (nd:Int))∧w'.cell? ⟨w.heap.size,3,none⟩=some (.int .i64 0)∧w'.cell? ⟨w.heap.size,4,none⟩=some (.int .i64 (pa:Int))∧w'.cell? ⟨w.heap.size+3,0,none⟩=some (.int .i64 kd)∧w'.cell? ⟨w.heap.size+3,1,none⟩=some (.string ⟨#[]⟩)∧w'.cell? ⟨w.heap.size+3,2,none⟩=some (.bool false)∧w'.cell? ⟨w.heap.size+3,3,none⟩=some (.string ⟨#[]⟩)∧w'.cell? ⟨w.heap.size+3,4,none⟩=some (.int .u64 0)∧w'.cell? ⟨w.heap.size+3,5,none⟩=some (.int .u64 0)∧w'.cell? ⟨w.heap.size+3,6,none⟩=some (.int .i64 0)) W9:=⟨hp9.cell (j:=0) rfl,hp9.cell (j:=1) rfl,hp9.cell (j:=2) rfl,hp9.cell (j:=3) rfl,hp9.cell (j:=4) rfl,hn9.cell (j:=0) rfl,hn9.cell (j:=1) rfl,hn9.cell (j:=2) rfl,hn9.cell (j:=3) rfl,hn9.cell (j:=4) rfl,hn9.cell (j:=5) rfl,hn9.cell (j:=6) rfl⟩
 have HF:Hid (BoxAt W9 w.heap.size 41 5 (w.heap.size+1) [.slice (some ⟨g,0,none⟩) N cp,.int .i64 ((i:Nat):Int),.int .i64 (nd:Int),.int .i64 cc,.int .i64 (k.pos:Int)]∧BoxAt W9 w.heap.size 65 7 (w.heap.size+2) (Nd.seven (leafN kd))∧Below w.heap.size w W9):=by
  have hf:=HJ5.fin (.slice (some ⟨g,0,none⟩) N cp) (.int .i64 ((i:Nat):Int)) (.int .i64 (nd:Int)) (.int .i64 cc) (.int .i64 (k.pos:Int)) (leafN kd)
  rw[hW9,hW6]
  exact hf
 have HR:Hid (ArgP base g cp N nd pa ks kd i w (.returned (.tuple #[parV g N cp (i) nd cc k.pos,Nd.v (leafN kd)])) W9):=⟨HF.2.2,.inr ⟨cc,k.pos,i,(leafN kd),HAE.1,HAE.2,rfl⟩⟩
 obtain⟨p0,p1,p2,p3,p4⟩:=HF.1.c5
 obtain⟨q0,q1,q2,q3,q4,q5,q6⟩:=HF.2.1.c7
 unfold setP at hW6
 unfold setN at hW9
 clear hp6 hn6 hr6 hp9 hn9 hc6 hc9
 simp only[leafN,patN,cntN,noS]at hW9 q0 q1 q2 q3 q4 q5 q6
 refine qO 3 rfl fun K hK=>?_
 go_simp
 rw[←hW6]
 refine hK.out _ _ (.inr hS6) ?_
 clear hK hW6
 try simp only[qA,List.getElem_toArray,List.getElem_cons_zero,List.getElem_cons_succ]
 refine qO 4 rfl fun K hK=>?_
 go_simp
 rw[←hW9]
 refine hK.out _ _ (.inr hS9) ?_
 clear hK hW9
 try simp only[qA,List.getElem_toArray,List.getElem_cons_zero,List.getElem_cons_succ]
 refine qD ?_
 clear hS0 hS5 hS6 hS9 c0 c1 c2 c3 c4 d0 d1 d2 d3 d4 d5 d6 e0 e1 e2 e3 e4 f0 f1 f2 f3 f4 f5 f6
 go_wp2_with fail
 exact bodyPost_ret (v:=.tuple #[parV g N cp (i) nd cc k.pos,Nd.v (leafN kd)]) (by simp[results,Tryz.results49,go_sem,p0,p1,p2,p3,p4,q0,q1,q2,q3,q4,q5,q6,leafN,patN,cntN,noS]) rfl HR.out
set_option maxHeartbeats 8000000 in
theorem args_num {w:World} {base g cp N nd pa:Nat} {ks:List Tk} {i:Nat} {k:Tk} (h:OwnTk w base g cp ks) (hN:N=ks.length) (hl:N≤1000000) (hk:ks[i]?=some k) (hT:Toks ks) (kd:Int) (h11:11≤kd) {v:Int} (hs:k.k=.num v):Calls Tryz.prog 49 #[parV g N cp i nd 0 pa,.int .i64 kd] w (ArgP base g cp N nd pa ks kd i w):=by
 obtain⟨W0,hW0⟩:=qE ((((w.alloc (Obj.cells #[.slice (some ⟨g,0,none⟩) N cp,.int .i64 (i:Int),.int .i64 (nd:Int),.int .i64 0,.int .i64 (pa:Int)] 41)).alloc (Obj.cells #[.slice none 0 0,.int .i64 0,.int .i64 0,.int .i64 0,.int .i64 0] 41)).alloc (Obj.cells #[.int .i64 0,.string ⟨#[]⟩,.bool false,.string ⟨#[]⟩,.int .u64 0,.int .u64 0,.int .i64 0] 65)).alloc (Obj.cells #[.int .i64 kd,.string ⟨#[]⟩,.bool false,.string ⟨#[]⟩,.int .u64 0,.int .u64 0,.int .i64 0] 65):World)
 have HJ0:Hid (AgJ w base g cp N nd pa ks i (leafN kd) W0):=ag_start kd h hW0
 have hi:i<N:=by rw[hN];exact(List.getElem?_eq_some_iff.1 hk).1
 have zi:(i:Int)<(N:Int):=by omega
 have H0:Hid (N=ks.length∧ks[i]?=some k∧hdK (ks.drop i)=k.k∧hdA (ks.drop i)=k.pos∧(ks.drop i).tail=ks.drop (i+1)∧Toks ks):=⟨hN,hk,(drop_hd hk).1,(drop_hd hk).2.1,(drop_hd hk).2.2,hT⟩
 have hgl:=h.lt.2
 clear h hN hk hT
 go_enter Tryz.func49,Tryz.ntmps49
 go_upto_region 2 with fail
 rw[←hW0]
 clear hW0
 obtain⟨t0,t1,t2,t3⟩:=tk_cells HJ0.tk H0.2.1
 rw[hs]at t0 t1
 have t0':W0.cell? ⟨g,i*4,none⟩=some (.int .i64 2):=t0
 have t1':W0.cell? ⟨g,i*4+1,none⟩=some (.int .u64 v):=t1
 have HK:Hid ((0≤v∧v<2^64)∧(∃k1,ks[i+1]?=some k1)∧hdK (ks.drop i)=.num v):=by
  obtain⟨q1,q2⟩:=toks_next H0.2.2.2.2.2 H0.2.1 (by rw[hs];intro q;cases q) (by rw[hs];intro q;cases q)
  rw[hs]at q1
  exact⟨q1,q2,by rw[H0.2.2.1];exact hs⟩
 have hi1:i+1<N:=by
  obtain⟨k1,hk1⟩:=HK.2.1
  have:=(List.getElem?_eq_some_iff.1 hk1).1
  rw[←H0.1]at this;exact this
 obtain⟨a0,a1⟩:=HJ0.p.c2
 have y1:¬kd≤3:=by omega
 have y2:¬kd≤7:=by omega
 have HAr:Hid (argsM kd (ks.drop i)=if 1≤v∧v≤1000 then .ok (ks.drop (i+1),cntN kd v)else failF 8 (ks.drop i)):=by
  show _=_
  rw[argsM_num h11 HK.2.2,H0.2.2.2.2.1]
 clear t0 t1 t2 t3 hs
 by_cases hv1:v<1
 ·have z1:decide (v<1)=true:=decide_eq_true hv1
  have HA:Hid (argsM kd (ks.drop i)=failF 8 (ks.drop i)):=by show _=_;rw[HAr.out,if_neg (by omega)]
  clear HAr
  obtain⟨cc,hcc⟩:=qE (if k.k.isBad=true then 2 else 8:Int)
  have HFl:Hid (∀wx,Below W0.heap.size W0 wx→Calls Tryz.prog 46 #[parV g N cp (i) nd 0 pa,.int .i64 8] wx fun e w'=>e=.returned (parV g N cp (i) nd cc k.pos)∧Below wx.heap.size wx w'):=fun wx hx=>by
   rw[hcc]
   exact l5Fail_core (HJ0.tk.below hx) H0.1 hl H0.2.1 nd 0 pa 8
  have HAE:Hid (argsM kd (ks.drop i)=.error (cc,k.pos)∧1≤cc):=⟨by
   rw[HA.out,hcc]
   unfold failF
   rw[(drop_hd H0.2.1).1,(drop_hd H0.2.1).2.1],by rw[hcc];split<;>decide⟩
  clear hcc
  go_upto_region 17 with fail
  have hS0:(fun w':World=>w'.cell? ⟨w.heap.size,0,none⟩=some (.slice (some ⟨g,0,none⟩) N cp)∧w'.cell? ⟨w.heap.size,1,none⟩=some (.int .i64 ((i:Nat):Int))∧w'.cell? ⟨w.heap.size,2,none⟩=some (.int .i64 (nd:Int))∧w'.cell? ⟨w.heap.size,3,none⟩=some (.int .i64 0)∧w'.cell? ⟨w.heap.size,4,none⟩=some (.int .i64 (pa:Int))∧w'.cell? ⟨w.heap.size+3,0,none⟩=some (.int .i64 kd)∧w'.cell? ⟨w.heap.size+3,1,none⟩=some (.string ⟨#[]⟩)∧w'.cell? ⟨w.heap.size+3,2,none⟩=some (.bool false)∧w'.cell? ⟨w.heap.size+3,3,none⟩=some (.string ⟨#[]⟩)∧w'.cell? ⟨w.heap.size+3,4,none⟩=some (.int .u64 0)∧w'.cell? ⟨w.heap.size+3,5,none⟩=some (.int .u64 0)∧w'.cell? ⟨w.heap.size+3,6,none⟩=some (.int .i64 0)) W0.drew:=⟨HJ0.p.cell (j:=0) rfl,HJ0.p.cell (j:=1) rfl,HJ0.p.cell (j:=2) rfl,HJ0.p.cell (j:=3) rfl,HJ0.p.cell (j:=4) rfl,HJ0.n.cell (j:=0) rfl,HJ0.n.cell (j:=1) rfl,HJ0.n.cell (j:=2) rfl,HJ0.n.cell (j:=3) rfl,HJ0.n.cell (j:=4) rfl,HJ0.n.cell (j:=5) rfl,HJ0.n.cell (j:=6) rfl⟩
  refine wp_region_T 99 (fun w':World=>w'.cell? ⟨w.heap.size,0,none⟩=some (.slice (some ⟨g,0,none⟩) N cp)∧w'.cell? ⟨w.heap.size,1,none⟩=some (.int .i64 ((i:Nat):Int))∧w'.cell? ⟨w.heap.size,2,none⟩=some (.int .i64 (nd:Int))∧w'.cell? ⟨w.heap.size,3,none⟩=some (.int .i64 0)∧w'.cell? ⟨w.heap.size,4,none⟩=some (.int .i64 (pa:Int))∧w'.cell? ⟨w.heap.size+3,0,none⟩=some (.int .i64 kd)∧w'.cell? ⟨w.heap.size+3,1,none⟩=some (.string ⟨#[]⟩)∧w'.cell? ⟨w.heap.size+3,2,none⟩=some (.bool false)∧w'.cell? ⟨w.heap.size+3,3,none⟩=some (.string ⟨#[]⟩)∧w'.cell? ⟨w.heap.size+3,4,none⟩=some (.int .u64 0)∧w'.cell? ⟨w.heap.size+3,5,none⟩=some (.int .u64 0)∧w'.cell? ⟨w.heap.size+3,6,none⟩=some (.int .i64 0)) (by kernel_rfl) ?_
  refine qT 0 ?vv0 rfl ?yv0 hS0 ?_
  case yv0=>(intro wz hSw;obtain⟨hz0,hz1,hz2,hz3,hz4,hz5,hz6,hz7,hz8,hz9,hz10,hz11⟩:=hSw;go_simp;(try with_reducible rfl))
  try simp only[qA,List.getElem_toArray,List.getElem_cons_zero,List.getElem_cons_succ]
  refine qT 2 ?vv2 rfl ?yv2 hS0 ?_
  case yv2=>(intro wz hSw;obtain⟨hz0,hz1,hz2,hz3,hz4,hz5,hz6,hz7,hz8,hz9,hz10,hz11⟩:=hSw;go_simp;(try with_reducible rfl))
  try simp only[qA,List.getElem_toArray,List.getElem_cons_zero,List.getElem_cons_succ]
  refine qO 1 rfl fun K hK=>?_
  go_simp
  go_at_call 46
  refine(HFl.out W0.drew (Below.refl _ _).drew).mono ?_
  rintro e w5 ⟨rfl,hb5⟩
  have HJ5:Hid (AgJ w base g cp N nd pa ks (i) (leafN kd) w5):=HJ0.up (((Below.refl _ _).drew).trans (hb5.mono (Nat.le_refl _)))
  have hS5:(fun w':World=>w'.cell? ⟨w.heap.size,0,none⟩=some (.slice (some ⟨g,0,none⟩) N cp)∧w'.cell? ⟨w.heap.size,1,none⟩=some (.int .i64 ((i:Nat):Int))∧w'.cell? ⟨w.heap.size,2,none⟩=some (.int .i64 (nd:Int))∧w'.cell? ⟨w.heap.size,3,none⟩=some (.int .i64 0)∧w'.cell? ⟨w.heap.size,4,none⟩=some (.int .i64 (pa:Int))∧w'.cell? ⟨w.heap.size+3,0,none⟩=some (.int .i64 kd)∧w'.cell? ⟨w.heap.size+3,1,none⟩=some (.string ⟨#[]⟩)∧w'.cell? ⟨w.heap.size+3,2,none⟩=some (.bool false)∧w'.cell? ⟨w.heap.size+3,3,none⟩=some (.string ⟨#[]⟩)∧w'.cell? ⟨w.heap.size+3,4,none⟩=some (.int .u64 0)∧w'.cell? ⟨w.heap.size+3,5,none⟩=some (.int .u64 0)∧w'.cell? ⟨w.heap.size+3,6,none⟩=some (.int .i64 0)) w5:=⟨HJ5.p.cell (j:=0) rfl,HJ5.p.cell (j:=1) rfl,HJ5.p.cell (j:=2) rfl,HJ5.p.cell (j:=3) rfl,HJ5.p.cell (j:=4) rfl,HJ5.n.cell (j:=0) rfl,HJ5.n.cell (j:=1) rfl,HJ5.n.cell (j:=2) rfl,HJ5.n.cell (j:=3) rfl,HJ5.n.cell (j:=4) rfl,HJ5.n.cell (j:=5) rfl,HJ5.n.cell (j:=6) rfl⟩
  refine hK.out _ _ (.inr hS5) ?_
  clear hK hb5 HFl
  try simp only[qA,List.getElem_toArray,List.getElem_cons_zero,List.getElem_cons_succ]
  obtain⟨c0,c1,c2,c3,c4⟩:=HJ5.rp.c5
  have e0:=HJ5.rp.frozen 0
  have e1:=HJ5.rp.frozen 1
  have e2:=HJ5.rp.frozen 2
  have e3:=HJ5.rp.frozen 3
  have e4:=HJ5.rp.frozen 4
  obtain⟨W6,hW6⟩:∃V:World,V=setP w5 (w.heap.size+1) (.slice (some ⟨g,0,none⟩) N cp) (.int .i64 ((i:Nat):Int)) (.int .i64 (nd:Int)) (.int .i64 cc) (.int .i64 (k.pos:Int)):=⟨_,rfl⟩
  have hc6:Chg (fun k=>k=w.heap.size+1) w5 W6:=by rw[hW6];exact chg_setP _ _ _ _ _ _ _
  have hp6:=HJ5.p.chg hc6 (by omega)
  have hn6:=HJ5.n.chg hc6 (by omega)
  have hr6:=HJ5.rn.chg hc6 (by omega)
  have hS6:(fun w':World=>w'.cell? ⟨w.heap.size,0,none⟩=some (.slice (some ⟨g,0,none⟩) N cp)∧w'.cell? ⟨w.heap.size,1,none⟩=some (.int .i64 ((i:Nat):Int))∧w'.cell? ⟨w.heap.size,2,none⟩=some (.int .i64 (nd:Int))∧w'.cell? ⟨w.heap.size,3,none⟩=some (.int .i64 0)∧w'.cell? ⟨w.heap.size,4,none⟩=some (.int .i64 (pa:Int))∧w'.cell? ⟨w.heap.size+3,0,none⟩=some (.int .i64 kd)∧w'.cell? ⟨w.heap.size+3,1,none⟩=some (.string ⟨#[]⟩)∧w'.cell? ⟨w.heap.size+3,2,none⟩=some (.bool false)∧w'.cell? ⟨w.heap.size+3,3,none⟩=some (.string ⟨#[]⟩)∧w'.cell? ⟨w.heap.size+3,4,none⟩=some (.int .u64 0)∧w'.cell? ⟨w.heap.size+3,5,none⟩=some (.int .u64 0)∧w'.cell? ⟨w.heap.size+3,6,none⟩=some (.int .i64 0)) W6:=⟨hp6.cell (j:=0) rfl,hp6.cell (j:=1) rfl,hp6.cell (j:=2) rfl,hp6.cell (j:=3) rfl,hp6.cell (j:=4) rfl,hn6.cell (j:=0) rfl,hn6.cell (j:=1) rfl,hn6.cell (j:=2) rfl,hn6.cell (j:=3) rfl,hn6.cell (j:=4) rfl,hn6.cell (j:=5) rfl,hn6.cell (j:=6) rfl⟩
  obtain⟨d0,d1,d2,d3,d4,d5,d6⟩:=hr6.c7
  have f0:=hr6.frozen 0
  have f1:=hr6.frozen 1
  have f2:=hr6.frozen 2
  have f3:=hr6.frozen 3
  have f4:=hr6.frozen 4
  have f5:=hr6.frozen 5
  have f6:=hr6.frozen 6
  obtain⟨W9,hW9⟩:∃V:World,V=setN W6 (w.heap.size+2) (leafN kd):=⟨_,rfl⟩
  have hc9:Chg (fun k=>k=w.heap.size+2) W6 W9:=by rw[hW9];exact chg_setN _ _ _
  have hp9:=hp6.chg hc9 (by omega)
  have hn9:=hn6.chg hc9 (by omega)
  have hS9:(fun w':World=>w'.cell? ⟨w.heap.size,0,none⟩=some (.slice (some ⟨g,0,none⟩) N cp)∧w'.cell? ⟨w.heap.size,1,none⟩=some (.int .i64 ((i:Nat):Int))∧w'.cell? ⟨w.heap.size,2,none⟩=some (.int .i64 (nd:Int))∧w'.cell? ⟨w.heap.size,3,none⟩=some (.int .i64 0)∧w'.cell? ⟨w.heap.size,4,none⟩=some (.int .i64 (pa:Int))∧w'.cell? ⟨w.heap.size+3,0,none⟩=some (.int .i64 kd)∧w'.cell? ⟨w.heap.size+3,1,none⟩=some (.string ⟨#[]⟩)∧w'.cell? ⟨w.heap.size+3,2,none⟩=some (.bool false)∧w'.cell? ⟨w.heap.size+3,3,none⟩=some (.string ⟨#[]⟩)∧w'.cell? ⟨w.heap.size+3,4,none⟩=some (.int .u64 0)∧w'.cell? ⟨w.heap.size+3,5,none⟩=some (.int .u64 0)∧w'.cell? ⟨w.heap.size+3,6,none⟩=some (.int .i64 0)) W9:=⟨hp9.cell (j:=0) rfl,hp9.cell (j:=1) rfl,hp9.cell (j:=2) rfl,hp9.cell (j:=3) rfl,hp9.cell (j:=4) rfl,hn9.cell (j:=0) rfl,hn9.cell (j:=1) rfl,hn9.cell (j:=2) rfl,hn9.cell (j:=3) rfl,hn9.cell (j:=4) rfl,hn9.cell (j:=5) rfl,hn9.cell (j:=6) rfl⟩
  have HF:Hid (BoxAt W9 w.heap.size 41 5 (w.heap.size+1) [.slice (some ⟨g,0,none⟩) N cp,.int .i64 ((i:Nat):Int),.int .i64 (nd:Int),.int .i64 cc,.int .i64 (k.pos:Int)]∧BoxAt W9 w.heap.size 65 7 (w.heap.size+2) (Nd.seven (leafN kd))∧Below w.heap.size w W9):=by
   have hf:=HJ5.fin (.slice (some ⟨g,0,none⟩) N cp) (.int .i64 ((i:Nat):Int)) (.int .i64 (nd:Int)) (.int .i64 cc) (.int .i64 (k.pos:Int)) (leafN kd)
   rw[hW9,hW6]
   exact hf
  have HR:Hid (ArgP base g cp N nd pa ks kd i w (.returned (.tuple #[parV g N cp (i) nd cc k.pos,Nd.v (leafN kd)])) W9):=⟨HF.2.2,.inr ⟨cc,k.pos,i,(leafN kd),HAE.1,HAE.2,rfl⟩⟩
  obtain⟨p0,p1,p2,p3,p4⟩:=HF.1.c5
  obtain⟨q0,q1,q2,q3,q4,q5,q6⟩:=HF.2.1.c7
  unfold setP at hW6
  unfold setN at hW9
  clear hp6 hn6 hr6 hp9 hn9 hc6 hc9
  simp only[leafN,patN,cntN,noS]at hW9 q0 q1 q2 q3 q4 q5 q6
  refine qO 3 rfl fun K hK=>?_
  go_simp
  rw[←hW6]
  refine hK.out _ _ (.inr hS6) ?_
  clear hK hW6
  try simp only[qA,List.getElem_toArray,List.getElem_cons_zero,List.getElem_cons_succ]
  refine qO 4 rfl fun K hK=>?_
  go_simp
  rw[←hW9]
  refine hK.out _ _ (.inr hS9) ?_
  clear hK hW9
  try simp only[qA,List.getElem_toArray,List.getElem_cons_zero,List.getElem_cons_succ]
  refine qD ?_
  clear hS0 hS5 hS6 hS9 c0 c1 c2 c3 c4 d0 d1 d2 d3 d4 d5 d6 e0 e1 e2 e3 e4 f0 f1 f2 f3 f4 f5 f6
  go_wp2_with fail
  exact bodyPost_ret (v:=.tuple #[parV g N cp (i) nd cc k.pos,Nd.v (leafN kd)]) (by simp[results,Tryz.results49,go_sem,p0,p1,p2,p3,p4,q0,q1,q2,q3,q4,q5,q6,leafN,patN,cntN,noS]) rfl HR.out
 have z1:decide (v<1)=false:=decide_eq_false hv1
 by_cases hv2:1000<v
 ·have z2:decide (1000<v)=true:=decide_eq_true hv2
  have HA:Hid (argsM kd (ks.drop i)=failF 8 (ks.drop i)):=by show _=_;rw[HAr.out,if_neg (by omega)]
  clear HAr
  obtain⟨cc,hcc⟩:=qE (if k.k.isBad=true then 2 else 8:Int)
  have HFl:Hid (∀wx,Below W0.heap.size W0 wx→Calls Tryz.prog 46 #[parV g N cp (i) nd 0 pa,.int .i64 8] wx fun e w'=>e=.returned (parV g N cp (i) nd cc k.pos)∧Below wx.heap.size wx w'):=fun wx hx=>by
   rw[hcc]
   exact l5Fail_core (HJ0.tk.below hx) H0.1 hl H0.2.1 nd 0 pa 8
  have HAE:Hid (argsM kd (ks.drop i)=.error (cc,k.pos)∧1≤cc):=⟨by
   rw[HA.out,hcc]
   unfold failF
   rw[(drop_hd H0.2.1).1,(drop_hd H0.2.1).2.1],by rw[hcc];split<;>decide⟩
  clear hcc
  go_upto_region 17 with fail
  have hS0:(fun w':World=>w'.cell? ⟨w.heap.size,0,none⟩=some (.slice (some ⟨g,0,none⟩) N cp)∧w'.cell? ⟨w.heap.size,1,none⟩=some (.int .i64 ((i:Nat):Int))∧w'.cell? ⟨w.heap.size,2,none⟩=some (.int .i64 (nd:Int))∧w'.cell? ⟨w.heap.size,3,none⟩=some (.int .i64 0)∧w'.cell? ⟨w.heap.size,4,none⟩=some (.int .i64 (pa:Int))∧w'.cell? ⟨w.heap.size+3,0,none⟩=some (.int .i64 kd)∧w'.cell? ⟨w.heap.size+3,1,none⟩=some (.string ⟨#[]⟩)∧w'.cell? ⟨w.heap.size+3,2,none⟩=some (.bool false)∧w'.cell? ⟨w.heap.size+3,3,none⟩=some (.string ⟨#[]⟩)∧w'.cell? ⟨w.heap.size+3,4,none⟩=some (.int .u64 0)∧w'.cell? ⟨w.heap.size+3,5,none⟩=some (.int .u64 0)∧w'.cell? ⟨w.heap.size+3,6,none⟩=some (.int .i64 0)) W0.drew:=⟨HJ0.p.cell (j:=0) rfl,HJ0.p.cell (j:=1) rfl,HJ0.p.cell (j:=2) rfl,HJ0.p.cell (j:=3) rfl,HJ0.p.cell (j:=4) rfl,HJ0.n.cell (j:=0) rfl,HJ0.n.cell (j:=1) rfl,HJ0.n.cell (j:=2) rfl,HJ0.n.cell (j:=3) rfl,HJ0.n.cell (j:=4) rfl,HJ0.n.cell (j:=5) rfl,HJ0.n.cell (j:=6) rfl⟩
  refine wp_region_T 99 (fun w':World=>w'.cell? ⟨w.heap.size,0,none⟩=some (.slice (some ⟨g,0,none⟩) N cp)∧w'.cell? ⟨w.heap.size,1,none⟩=some (.int .i64 ((i:Nat):Int))∧w'.cell? ⟨w.heap.size,2,none⟩=some (.int .i64 (nd:Int))∧w'.cell? ⟨w.heap.size,3,none⟩=some (.int .i64 0)∧w'.cell? ⟨w.heap.size,4,none⟩=some (.int .i64 (pa:Int))∧w'.cell? ⟨w.heap.size+3,0,none⟩=some (.int .i64 kd)∧w'.cell? ⟨w.heap.size+3,1,none⟩=some (.string ⟨#[]⟩)∧w'.cell? ⟨w.heap.size+3,2,none⟩=some (.bool false)∧w'.cell? ⟨w.heap.size+3,3,none⟩=some (.string ⟨#[]⟩)∧w'.cell? ⟨w.heap.size+3,4,none⟩=some (.int .u64 0)∧w'.cell? ⟨w.heap.size+3,5,none⟩=some (.int .u64 0)∧w'.cell? ⟨w.heap.size+3,6,none⟩=some (.int .i64 0)) (by kernel_rfl) ?_
  refine qT 0 ?vx0 rfl ?yx0 hS0 ?_
  case yx0=>(intro wz hSw;obtain⟨hz0,hz1,hz2,hz3,hz4,hz5,hz6,hz7,hz8,hz9,hz10,hz11⟩:=hSw;go_simp;(try with_reducible rfl))
  try simp only[qA,List.getElem_toArray,List.getElem_cons_zero,List.getElem_cons_succ]
  refine qT 2 ?vx2 rfl ?yx2 hS0 ?_
  case yx2=>(intro wz hSw;obtain⟨hz0,hz1,hz2,hz3,hz4,hz5,hz6,hz7,hz8,hz9,hz10,hz11⟩:=hSw;go_simp;(try with_reducible rfl))
  try simp only[qA,List.getElem_toArray,List.getElem_cons_zero,List.getElem_cons_succ]
  refine qO 1 rfl fun K hK=>?_
  go_simp
  go_at_call 46
  refine(HFl.out W0.drew (Below.refl _ _).drew).mono ?_
  rintro e w5 ⟨rfl,hb5⟩
  have HJ5:Hid (AgJ w base g cp N nd pa ks (i) (leafN kd) w5):=HJ0.up (((Below.refl _ _).drew).trans (hb5.mono (Nat.le_refl _)))
  have hS5:(fun w':World=>w'.cell? ⟨w.heap.size,0,none⟩=some (.slice (some ⟨g,0,none⟩) N cp)∧w'.cell? ⟨w.heap.size,1,none⟩=some (.int .i64 ((i:Nat):Int))∧w'.cell? ⟨w.heap.size,2,none⟩=some (.int .i64 (nd:Int))∧w'.cell? ⟨w.heap.size,3,none⟩=some (.int .i64 0)∧w'.cell? ⟨w.heap.size,4,none⟩=some (.int .i64 (pa:Int))∧w'.cell? ⟨w.heap.size+3,0,none⟩=some (.int .i64 kd)∧w'.cell? ⟨w.heap.size+3,1,none⟩=some (.string ⟨#[]⟩)∧w'.cell? ⟨w.heap.size+3,2,none⟩=some (.bool false)∧w'.cell? ⟨w.heap.size+3,3,none⟩=some (.string ⟨#[]⟩)∧w'.cell? ⟨w.heap.size+3,4,none⟩=some (.int .u64 0)∧w'.cell? ⟨w.heap.size+3,5,none⟩=some (.int .u64 0)∧w'.cell? ⟨w.heap.size+3,6,none⟩=some (.int .i64 0)) w5:=⟨HJ5.p.cell (j:=0) rfl,HJ5.p.cell (j:=1) rfl,HJ5.p.cell (j:=2) rfl,HJ5.p.cell (j:=3) rfl,HJ5.p.cell (j:=4) rfl,HJ5.n.cell (j:=0) rfl,HJ5.n.cell (j:=1) rfl,HJ5.n.cell (j:=2) rfl,HJ5.n.cell (j:=3) rfl,HJ5.n.cell (j:=4) rfl,HJ5.n.cell (j:=5) rfl,HJ5.n.cell (j:=6) rfl⟩
  refine hK.out _ _ (.inr hS5) ?_
  clear hK hb5 HFl
  try simp only[qA,List.getElem_toArray,List.getElem_cons_zero,List.getElem_cons_succ]
  obtain⟨c0,c1,c2,c3,c4⟩:=HJ5.rp.c5
  have e0:=HJ5.rp.frozen 0
  have e1:=HJ5.rp.frozen 1
  have e2:=HJ5.rp.frozen 2
  have e3:=HJ5.rp.frozen 3
  have e4:=HJ5.rp.frozen 4
  obtain⟨W6,hW6⟩:∃V:World,V=setP w5 (w.heap.size+1) (.slice (some ⟨g,0,none⟩) N cp) (.int .i64 ((i:Nat):Int)) (.int .i64 (nd:Int)) (.int .i64 cc) (.int .i64 (k.pos:Int)):=⟨_,rfl⟩
  have hc6:Chg (fun k=>k=w.heap.size+1) w5 W6:=by rw[hW6];exact chg_setP _ _ _ _ _ _ _
  have hp6:=HJ5.p.chg hc6 (by omega)
  have hn6:=HJ5.n.chg hc6 (by omega)
  have hr6:=HJ5.rn.chg hc6 (by omega)
  have hS6:(fun w':World=>w'.cell? ⟨w.heap.size,0,none⟩=some (.slice (some ⟨g,0,none⟩) N cp)∧w'.cell? ⟨w.heap.size,1,none⟩=some (.int .i64 ((i:Nat):Int))∧w'.cell? ⟨w.heap.size,2,none⟩=some (.int .i64 (nd:Int))∧w'.cell? ⟨w.heap.size,3,none⟩=some (.int .i64 0)∧w'.cell? ⟨w.heap.size,4,none⟩=some (.int .i64 (pa:Int))∧w'.cell? ⟨w.heap.size+3,0,none⟩=some (.int .i64 kd)∧w'.cell? ⟨w.heap.size+3,1,none⟩=some (.string ⟨#[]⟩)∧w'.cell? ⟨w.heap.size+3,2,none⟩=some (.bool false)∧w'.cell? ⟨w.heap.size+3,3,none⟩=some (.string ⟨#[]⟩)∧w'.cell? ⟨w.heap.size+3,4,none⟩=some (.int .u64 0)∧w'.cell? ⟨w.heap.size+3,5,none⟩=some (.int .u64 0)∧w'.cell? ⟨w.heap.size+3,6,none⟩=some (.int .i64 0)) W6:=⟨hp6.cell (j:=0) rfl,hp6.cell (j:=1) rfl,hp6.cell (j:=2) rfl,hp6.cell (j:=3) rfl,hp6.cell (j:=4) rfl,hn6.cell (j:=0) rfl,hn6.cell (j:=1) rfl,hn6.cell (j:=2) rfl,hn6.cell (j:=3) rfl,hn6.cell (j:=4) rfl,hn6.cell (j:=5) rfl,hn6.cell (j:=6) rfl⟩
  obtain⟨d0,d1,d2,d3,d4,d5,d6⟩:=hr6.c7
  have f0:=hr6.frozen 0
  have f1:=hr6.frozen 1
  have f2:=hr6.frozen 2
  have f3:=hr6.frozen 3
  have f4:=hr6.frozen 4
  have f5:=hr6.frozen 5
  have f6:=hr6.frozen 6
  obtain⟨W9,hW9⟩:∃V:World,V=setN W6 (w.heap.size+2) (leafN kd):=⟨_,rfl⟩
  have hc9:Chg (fun k=>k=w.heap.size+2) W6 W9:=by rw[hW9];exact chg_setN _ _ _
  have hp9:=hp6.chg hc9 (by omega)
  have hn9:=hn6.chg hc9 (by omega)
  have hS9:(fun w':World=>w'.cell? ⟨w.heap.size,0,none⟩=some (.slice (some ⟨g,0,none⟩) N cp)∧w'.cell? ⟨w.heap.size,1,none⟩=some (.int .i64 ((i:Nat):Int))∧w'.cell? ⟨w.heap.size,2,none⟩=some (.int .i64 (nd:Int))∧w'.cell? ⟨w.heap.size,3,none⟩=some (.int .i64 0)∧w'.cell? ⟨w.heap.size,4,none⟩=some (.int .i64 (pa:Int))∧w'.cell? ⟨w.heap.size+3,0,none⟩=some (.int .i64 kd)∧w'.cell? ⟨w.heap.size+3,1,none⟩=some (.string ⟨#[]⟩)∧w'.cell? ⟨w.heap.size+3,2,none⟩=some (.bool false)∧w'.cell? ⟨w.heap.size+3,3,none⟩=some (.string ⟨#[]⟩)∧w'.cell? ⟨w.heap.size+3,4,none⟩=some (.int .u64 0)∧w'.cell? ⟨w.heap.size+3,5,none⟩=some (.int .u64 0)∧w'.cell? ⟨w.heap.size+3,6,none⟩=some (.int .i64 0)) W9:=⟨hp9.cell (j:=0) rfl,hp9.cell (j:=1) rfl,hp9.cell (j:=2) rfl,hp9.cell (j:=3) rfl,hp9.cell (j:=4) rfl,hn9.cell (j:=0) rfl,hn9.cell (j:=1) rfl,hn9.cell (j:=2) rfl,hn9.cell (j:=3) rfl,hn9.cell (j:=4) rfl,hn9.cell (j:=5) rfl,hn9.cell (j:=6) rfl⟩
  have HF:Hid (BoxAt W9 w.heap.size 41 5 (w.heap.size+1) [.slice (some ⟨g,0,none⟩) N cp,.int .i64 ((i:Nat):Int),.int .i64 (nd:Int),.int .i64 cc,.int .i64 (k.pos:Int)]∧BoxAt W9 w.heap.size 65 7 (w.heap.size+2) (Nd.seven (leafN kd))∧Below w.heap.size w W9):=by
   have hf:=HJ5.fin (.slice (some ⟨g,0,none⟩) N cp) (.int .i64 ((i:Nat):Int)) (.int .i64 (nd:Int)) (.int .i64 cc) (.int .i64 (k.pos:Int)) (leafN kd)
   rw[hW9,hW6]
   exact hf
  have HR:Hid (ArgP base g cp N nd pa ks kd i w (.returned (.tuple #[parV g N cp (i) nd cc k.pos,Nd.v (leafN kd)])) W9):=⟨HF.2.2,.inr ⟨cc,k.pos,i,(leafN kd),HAE.1,HAE.2,rfl⟩⟩
  obtain⟨p0,p1,p2,p3,p4⟩:=HF.1.c5
  obtain⟨q0,q1,q2,q3,q4,q5,q6⟩:=HF.2.1.c7
  unfold setP at hW6
  unfold setN at hW9
  clear hp6 hn6 hr6 hp9 hn9 hc6 hc9
  simp only[leafN,patN,cntN,noS]at hW9 q0 q1 q2 q3 q4 q5 q6
  refine qO 3 rfl fun K hK=>?_
  go_simp
  rw[←hW6]
  refine hK.out _ _ (.inr hS6) ?_
  clear hK hW6
  try simp only[qA,List.getElem_toArray,List.getElem_cons_zero,List.getElem_cons_succ]
  refine qO 4 rfl fun K hK=>?_
  go_simp
  rw[←hW9]
  refine hK.out _ _ (.inr hS9) ?_
  clear hK hW9
  try simp only[qA,List.getElem_toArray,List.getElem_cons_zero,List.getElem_cons_succ]
  refine qD ?_
  clear hS0 hS5 hS6 hS9 c0 c1 c2 c3 c4 d0 d1 d2 d3 d4 d5 d6 e0 e1 e2 e3 e4 f0 f1 f2 f3 f4 f5 f6
  go_wp2_with fail
  exact bodyPost_ret (v:=.tuple #[parV g N cp (i) nd cc k.pos,Nd.v (leafN kd)]) (by simp[results,Tryz.results49,go_sem,p0,p1,p2,p3,p4,q0,q1,q2,q3,q4,q5,q6,leafN,patN,cntN,noS]) rfl HR.out
 have z2:decide (1000<v)=false:=decide_eq_false hv2
 have HA:Hid (argsM kd (ks.drop i)=.ok (ks.drop (i+1),cntN kd v)):=by show _=_;rw[HAr.out,if_pos (by omega)]
 have zv:IntKind.i64.wrap v=v:=wrap64 (by omega) (by omega)
 clear HAr
 obtain⟨W1,hW1⟩:∃V:World,V=W0.setCell ⟨w.heap.size+3,6,none⟩ (.int .i64 v):=⟨_,rfl⟩
 have HJ1:Hid (AgJ w base g cp N nd pa ks (i) (cntN kd v) W1):=by rw[hW1];exact HJ0.stepN 6 _ rfl
 have n6:=HJ0.n.cell (j:=6) rfl
 have m6:=HJ0.n.frozen 6
 go_upto_region 19 with fail
 rw[←hW1]
 clear hW1 t0' t1' a0 a1 n6 m6 zv
 have a1:=HJ1.p.cell (j:=1) rfl
 have ia:=HJ1.p.frozen 1
 obtain⟨W3,hW3⟩:∃V:World,V=W1.setCell ⟨w.heap.size,1,none⟩ (.int .i64 (((i:Nat):Int)+1)):=⟨_,rfl⟩
 have HJ3:Hid (AgJ w base g cp N nd pa ks (i+1) (cntN kd v) W3):=by rw[hW3];exact HJ1.stepI _ (by simp)
 obtain⟨i1,hi1'⟩:=qE (i+1)
 rw[←hi1']at HJ3 hi1
 have Hi1:Hid (i1=i+1):=hi1'
 have hile:i≤i1:=by omega
 clear hi1'
 go_upto_region 20 with fail
 rw[←hW3]
 clear hW3 a1 ia
 obtain⟨a0,a1,a2,a3,a4⟩:=HJ3.p.c5
 obtain⟨b0,b1,b2,b3,b4,b5,b6⟩:=HJ3.n.c7
 obtain⟨c0,c1,c2,c3,c4⟩:=HJ3.rp.c5
 obtain⟨d0,d1,d2,d3,d4,d5,d6⟩:=HJ3.rn.c7
 have e0:=HJ3.rp.frozen 0
 have e1:=HJ3.rp.frozen 1
 have e2:=HJ3.rp.frozen 2
 have e3:=HJ3.rp.frozen 3
 have e4:=HJ3.rp.frozen 4
 have f0:=HJ3.rn.frozen 0
 have f1:=HJ3.rn.frozen 1
 have f2:=HJ3.rn.frozen 2
 have f3:=HJ3.rn.frozen 3
 have f4:=HJ3.rn.frozen 4
 have f5:=HJ3.rn.frozen 5
 have f6:=HJ3.rn.frozen 6
 obtain⟨W9,hW9⟩:∃V:World,V=(setN (setP W3 (w.heap.size+1) (.slice (some ⟨g,0,none⟩) N cp) (.int .i64 (i1:Int)) (.int .i64 (nd:Int)) (.int .i64 0) (.int .i64 (pa:Int))) (w.heap.size+2) (cntN kd v)).drew:=⟨_,rfl⟩
 have HF:Hid (BoxAt W9 w.heap.size 41 5 (w.heap.size+1) [.slice (some ⟨g,0,none⟩) N cp,.int .i64 (i1:Int),.int .i64 (nd:Int),.int .i64 0,.int .i64 (pa:Int)]∧BoxAt W9 w.heap.size 65 7 (w.heap.size+2) (Nd.seven (cntN kd v))∧Below w.heap.size w W9):=by
  have hf:=HJ3.fin (.slice (some ⟨g,0,none⟩) N cp) (.int .i64 (i1:Int)) (.int .i64 (nd:Int)) (.int .i64 0) (.int .i64 (pa:Int)) (cntN kd v)
  have hd:∀X:World,Below X.heap.size X X.drew:=fun X=>(Below.refl _ _).drew
  rw[hW9]
  exact⟨hf.1.below (hd _),hf.2.1.below (hd _),hf.2.2.trans ((hd _).mono hf.2.2.size)⟩
 have HR:Hid (ArgP base g cp N nd pa ks kd i w (.returned (.tuple #[parV g N cp (i1) nd 0 pa,Nd.v (cntN kd v)])) W9):=⟨HF.2.2,.inl ⟨i1,(cntN kd v),by rw[Hi1.out];exact HA.out,by omega,by omega,rfl⟩⟩
 obtain⟨p0,p1,p2,p3,p4⟩:=HF.1.c5
 obtain⟨q0,q1,q2,q3,q4,q5,q6⟩:=HF.2.1.c7
 unfold setN setP at hW9
 simp only[leafN,patN,cntN,noS]at hW9 b0 b1 b2 b3 b4 b5 b6 q0 q1 q2 q3 q4 q5 q6
 go_region
 rw[←hW9]
 clear hW9 a0 a1 a2 a3 a4 b0 b1 b2 b3 b4 b5 b6 c0 c1 c2 c3 c4 d0 d1 d2 d3 d4 d5 d6 e0 e1 e2 e3 e4 f0 f1 f2 f3 f4 f5 f6
 go_wp2_with fail
 exact bodyPost_ret (v:=.tuple #[parV g N cp (i1) nd 0 pa,Nd.v (cntN kd v)]) (by simp[results,Tryz.results49,go_sem,p0,p1,p2,p3,p4,q0,q1,q2,q3,q4,q5,q6,leafN,patN,cntN,noS]) rfl HR.out
end Go.Proofs.YtgnpcenpcmdlfaaGreatDoor
