import Derived.Test.YtnnagkfoiganfaaGreatDoorRkAC
namespace Go.Proofs.YtnnagkfoiganfaaGreatDoor
open Go.ChangeShapes Go.WideShapes Go.ChangeAt Go.RowKit Go.Deep Go.Shelf XD XI XU XG XP XK XW XT XF XE XH _root_.List _root_.Nat Go.Maps Go.Proofs.Tryz
set_option linter.unusedVariables false
set_option linter.unusedSimpArgs false
set_option maxRecDepth 100000
set_option maxHeartbeats 40000000
section
attribute [local go_sem] Oper.semAt_some
variable {w:World} {mp n:Nat} {E:Nat->PS} {en:PS}
theorem StI.mono {m:Nat} (h:StI w mp n E en) (hm:n<=m):StI w mp m E en:=by obtain⟨D,h1,h2⟩:=h;exact⟨D,h1.mono hm,h2⟩
variable {D:DataW Value}
theorem StD.tight (h:StD w mp n D E en):StD w mp (Maps.size D) D E en:=by obtain⟨⟨es,c,h1,h2,h3,h4⟩,hk⟩:=h;refine⟨⟨es,c,h1,h2,?_,h4⟩,hk⟩;rw[h4];simp[Maps.size,length_sorted]
theorem StD.clear (h:StD w mp n D E en):∃w',(∀ty,(Builtin.clear_ #[336] ty #[.map (some mp)]).run prog w=.ok (.tuple #[]) w')/\StD w' mp 0 (.map []) E en/\Chg (λk=>k=mp) w w':=by
 obtain⟨⟨es,c,h1,h2,h3,h4⟩,hk⟩:=h;have hl:=(Array.getElem?_eq_some_iff.1 h1).1;refine⟨{w with heap:=w.heap.setIfInBounds mp (.map #[] c)},λty=>?_,⟨⟨#[],c,?_,⟨by simp,MapKept.stamped_empty c,by simp⟩,Nat.le_refl _,rfl⟩,λS=>.inl rfl⟩,⟨rfl,rfl,rfl,?_,λk hk hn=>?_⟩⟩
 .simp[Builtin.clear_,run_underlying underlying336,MapKept.run_getObj_map h1,MapKept.run_setObj_map _ h1,Result.andThen]
 .simp[hl]
 .simp
 .show(w.heap.setIfInBounds mp _)[k]?=_;rw[Array.getElem?_setIfInBounds_ne (λq=>hn q.symm)]
def StQ (base M:Nat) (T:Nat->PS) (G cp a:Nat) (E:Nat->PS) (en:PS) (mp:Nat) (S:PS) (w:World) (e:Ending) (w':World):Prop:=
 e=.returned (stV (ahd E S) (acc en S))/\Hid (MtrI w' base M T G cp a E en mp/\StI w' mp 1000 E en/\Chg (λk=>k=mp) w w')
structure RaJ (w:World) (base M:Nat) (T:Nat->PS) (G cp a:Nat) (E:Nat->PS) (en:PS) (mp n:Nat) (D:DataW Value) (S:PS) (b7 k:Nat) (W4 W:World):Prop where
 st:StB w W base M T G cp a E en mp n D S
 made:yA W w 330 5 b7 (stL (ahdT E S k) (acc en S))
 low:Chg (λk=>k=mp) w W
 size:W4.heap.size<=W.heap.size
variable {X:World} {base M G cp a:Nat} {T:Nat->PS}
theorem StB.chgM {X':World} {n':Nat} {D':DataW Value} {S:PS} (h:StB w X base M T G cp a E en mp n D S) (hc:Chg (λk=>k=mp) X X') (hm:StD X' mp n' D' E en) (hbm:base<=mp):StB w X' base M T G cp a E en mp n' D' S:=
 ⟨h.mtr.chg hc (yEn h.map h.mtr.box) (λq=>h.map.ne h.mtr.row q.symm) (λk q=>qo),h.ptr.chg hc (yEn h.map h.ptr),h.set.chg hc (yEn h.map h.set),h.ans.chg hc (yEn h.map h.ans),hm⟩
theorem zSB {p:Prop} (h:p:=by
 obtain⟨w6,hput,hst6,hc6⟩:=StI.put (S:=S) ⟨_,hAd⟩ (by unfold maxLen;omega)
 have kd:Chg (λk=>k=mp) W W.drew:=Chg.of_below ((Below.refl _ _).drew)
 have HA:=qH5 HRJ hKj (hst6.mono (m:=1000) (by omega)) (kd.trans hc6) hD
 clear hA hK hst6 hc6 hAd m0 q0 q1 q2 q3 HRJ hKj htt kd
 (try clear hst9 hc9);gi_wp2;clear hlen
 (try clear hclr)
 have HS10:Hid (xk W.drew w 0 (xp M)/\xk W.drew M 1029 (.map (some mp))/\xk W.drew (w+1) 0 (xu (wdN S 0))/\xk W.drew (w+1) 1 (xu (wdN S 1))/\xk W.drew (w+1) 2 (xu (wdN S 2))/\xk W.drew (w+1) 3 (xu (wdN S 3))/\xk W.drew b7 0 (xu (wdN (ahd E S) 0))/\xk W.drew b7 1 (xu (wdN (ahd E S) 1))/\xk W.drew b7 2 (.int .u64 (wdN (ahd E S) 2:Int))/\xk W.drew b7 3 (.int .u64 (wdN (ahd E S) 3:Int))/\xk W.drew b7 4 (acc en S)):=by have h:=HA.1;exact⟨h.st.ptr.cell (j:=0) rfl,h.st.mtr.map,h.st.set.cell (j:=0) rfl,h.st.set.cell (j:=1) rfl,h.st.set.cell (j:=2) rfl,h.st.set.cell (j:=3) rfl,h.made.cell (j:=0) rfl,h.made.cell (j:=1) rfl,h.made.cell (j:=2) rfl,h.made.cell (j:=3) rfl,h.made.cell (j:=4) rfl⟩
 refine wpIn_wide.2 ?_;refine wp_region_noPanic ?_;refine yAf 6 (λwz=>xk wz w 0 (xp M)/\xk wz M 1029 (.map (some mp))/\xk wz (w+1) 0 (xu (wdN S 0))/\xk wz (w+1) 1 (xu (wdN S 1))/\xk wz (w+1) 2 (xu (wdN S 2))/\xk wz (w+1) 3 (xu (wdN S 3))/\xk wz b7 0 (xu (wdN (ahd E S) 0))/\xk wz b7 1 (xu (wdN (ahd E S) 1))/\xk wz b7 2 (xu (wdN (ahd E S) 2))/\xk wz b7 3 (xu (wdN (ahd E S) 3))/\xk wz b7 4 (acc en S)) qk ?_;refine ja 0 HS10.out ?_;iterate 5 refine jb HS10.out ?_
 refine qO 6 rfl λK hK=>?_;go_simp;refine hK.out _ _ (.inl rfl) ?_;clear hK;refine jS ?_;refine qD ?_;dsimp only[NoPanic];have hp:¬mp=b7:=HA.1.st.map.ne HA.1.made;have ha2:¬mp=w.heap.size+1+1:=HA.1.st.map.ne HA.1.st.ans;have hB6:yA w6 w 330 5 b7 (stL (ahd E S) (acc en S)):=HA.1.made.chg HA.2.2.2.1 (λq=>hp q.symm);have hA6:=HA.1.st.ans.chg HA.2.2.2.1 (λq=>ha2 q.symm);
 obtain⟨r0,r1,r2,r3,r4⟩:=hB6.c5;obtain⟨a0,a1,a2,a3,a4⟩:=hA6.c5;obtain⟨f0,f1,f2,f3,f4⟩:=hA6.f5
 obtain⟨W7,hW7⟩:=qE (set5 w6 (w+1+1) (ahd E S) (acc en S):World);have h:=HA.1;have hc7:Chg (λk=>k=w.heap.size+1+1) w6 W7:=by rw[hW7];exact yI0 _ _ _ _ rfl
 have hLo:=HLo.out;have hM6:=h.st.mtr.box.chg HA.2.2.2.1 (λq=>yEn h.st.map h.st.mtr.box q);have hDm:¬Dd=mp:=λq=>by obtain⟨⟨es,c,h1,_⟩,_⟩:=h.st.map;rw[<-q,HA.2.1]at h1;cases h1
 have hKD:W7.heap[Dd]?=some (.deferred (some [])):=by have hl:Dd<_:=(Array.getElem?_eq_some_iff.1 HA.2.1).1;rw[hc7.block Dd (Nat.lt_of_lt_of_le hl HA.2.2.2.1.size) (by have:=HA.2.2.2.2;omega),HA.2.2.2.1.block Dd hl hDm];exact HA.2.1
 exact zzQ5):p:=h
theorem zSA {p:Prop} (h:p:=by
 have m0:=HR4.1.st.ptr.cell (j:=0) rfl;obtain⟨q0,q1,q2,q3⟩:=HR4.1.st.set.c4;gi_wp2;have hbz:w.heap.size+1+1<W4.heap.size:=HR4.1.st.ans.lt.2;have hMz:=HR4.1.st.mtr.ltM;have hGz:=HR4.1.st.mtr.ltG;have hpz:=HR4.1.st.map.lt
 refine yH5 qj S rfl rfl (λk W=>RaI w base M T G cp a E en mp n D S b7 k W4 W) ?hI ?hIt ?hIs HR4.1
  (λx=>{tmps:=#[.pointer (some ⟨M,0,none⟩),psV S,.pointer (some ⟨w,0,none⟩),.pointer (some ⟨w+1,0,none⟩),.pointer (some ⟨w+1+1,0,none⟩),.pointer (some ⟨W0,0,none⟩),.bool false,.pointer (some ⟨b7,0,none⟩),.int .i64 (x:Int),.tuple #[.agg #[xu 0,xu 0,xu 0,xu 0,false],false],.pointer (some ⟨M,0,none⟩),.pointer (some ⟨M,0,none⟩),.pointer (some ⟨M,1029,none⟩),.map (some mp),psV S,.tuple #[.agg #[xu 0,xu 0,xu 0,xu 0,false],false],.agg #[xu 0,xu 0,xu 0,xu 0,false],.bool false,.bool false,undef,psV S,.pointer (some ⟨M,0,none⟩),.pointer (some ⟨M,0,none⟩),.pointer (some ⟨M,1025,none⟩),psV en,psV (sAnd S en),.agg #[xu 0,xu 0,xu 0,xu 0],.bool (acc en S),.agg #[xu 0,xu 0,xu 0,xu 0,(acc en S)],psV S,.func (.func 246) #[psV S] #[],.int .i64 (x:Int),undef,undef,undef,undef,undef,undef,undef,undef,undef,undef,undef,undef,undef,undef,undef,undef,undef,undef,undef,undef,undef,undef,undef,undef,undef,undef,undef,undef],defers:= []}) ?assign ?body ?done
 case hI=>exact xIi
 case hIt=>exact λk W hA=>hA.st.mtr.tab
 case hIs=>intro k k' W hA hk hno;exact⟨hA.st,by rw[yRi hk hno];exact hA.made,hA.low,hA.size⟩
 case assign=>intro l x W K hK;gi_wp2;exact hK
 case body=>
  intro l k x W hA hkx hx hSx hbet;have hxa:=HS.out x hSx;have zx:(x:Int)<(a:Int):=qo
  have hcap:=hA.st.mtr.caps;have HA:Hid (RaI w base M T G cp a E en mp n D S b7 k W4 W/\S x=true/\(∀j,k<=j->j<x->S j=false)):=⟨hA,hSx,hbet⟩;have HU:Hid (∀wx:World,(xf 247 #[psV (ahdT E S k),psV (E x)] wx (psV (sOr (ahdT E S k) (E x))):Prop)):=λwx=>yDa _ _ wx;have HS7:Hid (∀X,RaI w base M T G cp a E en mp n D S b7 k W4 X->(xk X w 0 (.pointer (some ⟨M,0,none⟩))/\X.cell? (xd M 1024)=some (.slice (some ⟨G,0,none⟩) a cp)/\X.cell? (xd b7 0)=some (.int .u64 (wdN (ahdT E S k) 0:Int))/\X.cell? (xd b7 1)=some (.int .u64 (wdN (ahdT E S k) 1:Int))/\X.cell? (xd b7 2)=some (.int .u64 (wdN (ahdT E S k) 2:Int))/\X.cell? (xd b7 3)=some (.int .u64 (wdN (ahdT E S k) 3:Int))/\X.cell? (xd G (x*4))=some (.int .u64 (wdN (E x) 0:Int))/\X.cell? (xd G (x*4+1))=some (.int .u64 (wdN (E x) 1:Int))/\X.cell? (xd G (x*4+2))=some (.int .u64 (wdN (E x) 2:Int))/\X.cell? (xd G (x*4+3))=some (.int .u64 (wdN (E x) 3:Int)))):=λX h=>by obtain⟨g0,g1,g2,g3,_⟩:=h.st.mtr.edge4 hxa;exact⟨h.st.ptr.cell (j:=0) rfl,h.st.mtr.fol,h.made.cell (j:=0) rfl,h.made.cell (j:=1) rfl,h.made.cell (j:=2) rfl,h.made.cell (j:=3) rfl,g0,g1,g2,g3⟩
  have HBl:Hid (∀X,Below W.heap.size W X->RaI w base M T G cp a E en mp n D S b7 k W4 X):=λX hb=>⟨HA.1.st.below hb,HA.1.made.below hb,HA.1.low.trans (hb.mono HA.1.low.size),Nat.le_trans HA.1.size hb.size⟩;clear hA hSx hbet;gi_wp2;refine yGh 11 (λwz=>wz.cell? (xd w.heap.size 0)=some (.pointer (some ⟨M,0,none⟩))/\wz.cell? (xd M 1024)=some (.slice (some ⟨G,0,none⟩) a cp)/\wz.cell? (xd b7 0)=some (.int .u64 (wdN (ahdT E S k) 0:Int))/\wz.cell? (xd b7 1)=some (.int .u64 (wdN (ahdT E S k) 1:Int))/\wz.cell? (xd b7 2)=some (.int .u64 (wdN (ahdT E S k) 2:Int))/\wz.cell? (xd b7 3)=some (.int .u64 (wdN (ahdT E S k) 3:Int))/\wz.cell? (xd G (x*4))=some (.int .u64 (wdN (E x) 0:Int))/\wz.cell? (xd G (x*4+1))=some (.int .u64 (wdN (E x) 1:Int))/\wz.cell? (xd G (x*4+2))=some (.int .u64 (wdN (E x) 2:Int))/\wz.cell? (xd G (x*4+3))=some (.int .u64 (wdN (E x) 3:Int))) qk qk ?hlet ?_;case hlet=>rintro⟨a0,w0,hq⟩;exact nomatch (show Exit.outgrown=Exit.normal from hq.1)
  exact xIm
 case done=>
  rintro Dd W hD hA hK;have m1:=hA.st.ptr.cell (j:=0) rfl;have m2:=hA.st.mtr.map;obtain⟨kk,hkk,hlen,htt⟩:∃kk:Nat,kk<=n/\(∀ty,(Builtin.len_ #[336] ty #[.map (some mp)]).run prog W=.ok (.int .i64 (kk:Int)) W)/\StD W mp kk D E en:=⟨_,hA.st.map.1.size_le,λty=>hA.st.map.1.len underlying336 ty,hA.st.map.tight⟩;by_cases hq:kk<1000
  .have zk:¬(1000:Int)<=(kk:Int):=by omega
   have HRJ:RaJ w base M T G cp a E en mp n D S b7 256 W4 W:=⟨hA.st,hA.made,Chg.of_below hA.low,hA.size⟩;have hKj:=hK;have hAd:=htt.chg (S:=λ_=>False) (Chg.of_below ((Below.refl _ _).drew)) (λq=>q);exact zSB
  .have zk:(1000:Int)<=(kk:Int):=by omega
   obtain⟨W,hclr,hst9,hc9⟩:=hA.st.map.clear;have HRJ:RaJ w base M T G cp a E en mp 0 (.map []) S b7 256 W4 W:=⟨hA.st.chgM hc9 hst9 HLp.out,hA.made.chg hc9 (yEn hA.st.map hA.made),(Chg.of_below hA.low).trans hc9,Nat.le_trans hA.size hc9.size⟩;have hKj:=(hc9.block Dd (Array.getElem?_eq_some_iff.1 hK).1 (λq=>by obtain⟨⟨es,c,h1,_⟩,_⟩:=hA.st.map;rw[<-q,hK]at h1;cases h1)).trans hK;have hAd:=hst9.chg (S:=λ_=>False) (Chg.of_below ((Below.refl _ _).drew)) (λq=>q);exact zSB):p:=h
theorem yX5 S w (h:MtrI w base M T G cp a E en mp) (hm:StD w mp n D E en) (hh:Maps.has D (psK S)=false) (hS:∀p,S p=true->p<a) (ha:a<=256) (hbm:base<=mp):Calls prog 232 #[xp M,psV S] w (StQ base M T G cp a E en mp S w):=by
 obtain⟨W0,aj⟩:=qE (xw ((w.alloc (.cells #[xp M] 284)).alloc (.cells (psL S).toArray 328)) z5 330:World);have ab:Hid (StB w W0 base M T G cp a E en mp n D S/\Below w w W0):=by rw[aj];exact yUk S w h hm
 have HH:=qH1 hh;have HLo:Hid (base<=w.heap.size):=by show _<=_;have:=h.ltM;omega
 have HS:=qH1 hS;have HLp:=qH1 hbm;clear h hm hh hS;refine(callsIn_wide (n:=9)).1 ?_;refine callsIn_of_wp_marks func232 rfl trivial ?_ rfl;simp only[ntmps232,size_toArray,length_cons,length_nil,Nat.reduceAdd,Nat.reduceSub,Array.replicate_succ,Array.replicate_zero,push_toArray,append_toArray,nil_append,cons_append];gi_wp2;have ai:=aj;simp only[psL,z5]at ai;rw[<-ai];clear aj ai;have ak:∀X,StB w X base M T G cp a E en mp n D S->(xk X w 0 (xp M)/\xk X M 1029 (.map (some mp))/\xk X (w+1) 0 (xu (wdN S 0))/\xk X (w+1) 1 (xu (wdN S 1))/\xk X (w+1) 2 (xu (wdN S 2))/\xk X (w+1) 3 (xu (wdN S 3))/\StD X mp n D E en):=λX h=>⟨h.ptr.cell (j:=0) rfl,h.mtr.map,h.set.cell (j:=0) rfl,h.set.cell (j:=1) rfl,h.set.cell (j:=2) rfl,h.set.cell (j:=3) rfl,h.map⟩;have ad:=qH1 ak;have HD:=qH1 (ab.1.below ((Below.refl _ _).drew));clear ak;refine wpIn_wide.2 ?_;refine wp_region_noPanic ?_;refine yAf 99 (λwz=>xk wz w 0 (xp M)/\xk wz M 1029 (.map (some mp))/\xk wz (w+1) 0 (xu (wdN S 0))/\xk wz (w+1) 1 (xu (wdN S 1))/\xk wz (w+1) 2 (xu (wdN S 2))/\xk wz (w+1) 3 (xu (wdN S 3))/\StD wz mp n D E en) qk ?_;refine ja 0 (ad.out _ HD.out) ?_;iterate 8 refine jb (ad.out _ HD.out) ?_
 refine qO 9 rfl λK hK=>?_;go_simp;refine hK.out _ _ (.inr (ad.out _ (ab.1.below (by repeat (first|exact Below.refl _ _|refine Below.drew ?_|refine Below.alloc ?_ qr _|refine yAc ?_ qr _ _))))) ?_;clear hK;refine jS ?_;refine qO 10 rfl λK hK=>?_;go_simp;refine hK.out _ _ (.inr (ad.out _ (ab.1.below (by repeat (first|exact Below.refl _ _|refine Below.drew ?_|refine Below.alloc ?_ qr _|refine yAc ?_ qr _ _))))) ?_;clear hK;refine jS ?_;refine qO 11 rfl λK hK=>?_;go_simp;refine hK.out _ _ (.inr (ad.out _ (ab.1.below (by repeat (first|exact Below.refl _ _|refine Below.drew ?_|refine Below.alloc ?_ qr _|refine yAc ?_ qr _ _))))) ?_;clear hK;refine jS ?_;refine qD ?_;dsimp only[NoPanic];obtain⟨W1,ah⟩:=qE ((W0.alloc (.cells z5 330)).drew:World);have k1:Below W0 W0 W1:=by rw[ah];exact(qB).drew
 have s0:=ab.2.size;have a9:=qH2 (ab.1.below k1) (ab.2.trans (k1.mono s0));have ag:=ah;simp only[z5]at ag;rw[<-ag];clear ah ag k1 HD ad;have an:=yUx (sAnd S en);have am:Hid (∀wx:World,(xf 234 #[psV S,psV en] wx (psV (sAnd S en)):Prop)):=λwx=>yKj S en wx;have a7:Hid (∀X,StB w X base M T G cp a E en mp n D S->(xk X w 0 (.pointer (some ⟨M,0,none⟩))/\xk X (w+1) 0 (xu (wdN S 0))/\xk X (w+1) 1 (xu (wdN S 1))/\X.cell? (xd (w.heap.size+1) 2)=some (.int .u64 (wdN S 2:Int))/\X.cell? (xd (w.heap.size+1) 3)=some (.int .u64 (wdN S 3:Int))/\X.cell? (xd M 1025)=some (.int .u64 (wdN en 0:Int))/\X.cell? (xd M 1026)=some (.int .u64 (wdN en 1:Int))/\X.cell? (xd M 1027)=some (.int .u64 (wdN en 2:Int))/\X.cell? (xd M 1028)=some (.int .u64 (wdN en 3:Int)))):=λX h=>⟨h.ptr.cell (j:=0) rfl,h.set.cell (j:=0) rfl,h.set.cell (j:=1) rfl,h.set.cell (j:=2) rfl,h.set.cell (j:=3) rfl,h.mtr.ends (j:=0) qo,h.mtr.ends (j:=1) qo,h.mtr.ends (j:=2) qo,h.mtr.ends (j:=3) qo⟩;have HD:=qH1 (a9.1.below ((Below.refl _ _).drew));gi_wp2;refine wpIn_wide.2 ?_;refine wp_region_noPanic ?_;refine yAf 99 (λwz=>wz.cell? (xd w.heap.size 0)=some (.pointer (some ⟨M,0,none⟩))/\wz.cell? (xd (w.heap.size+1) 0)=some (.int .u64 (wdN S 0:Int))/\wz.cell? (xd (w.heap.size+1) 1)=some (.int .u64 (wdN S 1:Int))/\wz.cell? (xd (w.heap.size+1) 2)=some (.int .u64 (wdN S 2:Int))/\wz.cell? (xd (w.heap.size+1) 3)=some (.int .u64 (wdN S 3:Int))/\wz.cell? (xd M 1025)=some (.int .u64 (wdN en 0:Int))/\wz.cell? (xd M 1026)=some (.int .u64 (wdN en 1:Int))/\wz.cell? (xd M 1027)=some (.int .u64 (wdN en 2:Int))/\wz.cell? (xd M 1028)=some (.int .u64 (wdN en 3:Int))) qk ?_;refine ja 0 (a7.out _ HD.out) ?_;iterate 4 refine jb (a7.out _ HD.out) ?_
 refine ja 6 (a7.out _ HD.out) ?_;refine yB2 (i:=5) (j:=9) qk rfl rfl (λK hK=>?_) (λK hK=>?_)
 .go_simp;refine(am.out _).mono ?_;rintro r v3 ⟨rfl,aa⟩;have HV:=qH1 (((Below.refl W1.heap.size W1).drew).trans aa);have a5:Hid (StB w v3 base M T G cp a E en mp n D S):=a9.1.below HV.out;refine hK.out _ _ (.inr (a7.out _ a5.out)) ?_;clear hK aa;refine jS ?_;refine yFu (i:=7) (v:=.bool (acc en S)) rfl qk qk qk (by rfl) (λ_ _ _ h=>h) (Or.inl ⟨by rfl,?yqa7⟩) (a7.out _ a5.out) ?_;case yqa7=>exact zzR5
  try simp only[qA,getElem_toArray,getElem_cons_zero,getElem_cons_succ]
  refine jb (a7.out _ a5.out) ?_;refine qO 9 rfl λK hK=>?_;go_simp;refine hK.out _ _ (.inr (a7.out _ (a5.below (by repeat (first|exact Below.refl _ _|refine Below.drew ?_|refine Below.alloc ?_ (Nat.le_refl _) _|refine yAc ?_ (Nat.le_refl _) _ _))))) ?_;clear hK;refine jS ?_;refine qO 10 rfl λK hK=>?_;go_simp;refine hK.out _ _ (.inr (a7.out _ (a5.below (by repeat (first|exact Below.refl _ _|refine Below.drew ?_|refine Below.alloc ?_ (Nat.le_refl _) _|refine yAc ?_ (Nat.le_refl _) _ _))))) ?_;clear hK;refine jS ?_;refine qD ?_;dsimp only[NoPanic];obtain⟨b7,hb7⟩:=qE v3.heap.size;obtain⟨W4,a8⟩:=qE (v3.alloc (.cells #[.int .u64 0,.int .u64 0,.int .u64 0,.int .u64 0,.bool (acc en S)] 330):World);have k4:Below v3 v3 W4:=by rw[a8];exact qB
  have s3:=HV.size;have s1:=a9.2.size;have HR4:Hid (RaI w base M T G cp a E en mp n D S b7 0 W4 W4/\b7<W4.heap.size):=by
   have e0:(stL (ahdT E S 0) (acc en S))= [.int .u64 0,.int .u64 0,.int .u64 0,.int .u64 0,.bool (acc en S)]:=by show stL sNo _=_;simp only[stL,yF2];rfl
   have b4:=yAa v3 (base:=w.heap.size) (t:=330) (sz:=5) #[.int .u64 0,.int .u64 0,.int .u64 0,.int .u64 0,.bool (acc en S)] qo rfl;refine⟨⟨a5.below k4,by rw[e0,hb7,a8];exact b4,(a9.2.trans (HV.mono s1)).trans (k4.mono qo),Nat.le_refl _⟩,by rw[hb7,a8];simp⟩
  have HGt:Hid (w.heap.size+1+1<b7):=by show _<_;rw[hb7];exact a5.ans.lt.2
  rw[<-a8,<-hb7];clear a8 hb7 k4;exact zSA
 .go_simp;refine hK.out _ _ (.inr (a7.out _ (a9.1.below (by repeat (first|exact Below.refl _ _|refine Below.drew ?_|refine Below.alloc ?_ (Nat.le_refl _) _))))) ?_;clear hK;refine jS ?_;have hX:Below W1.heap.size W1 (W1.alloc (.cells z5 330)).drew:=(qB).drew;have al:yA (W1.alloc (.cells z5 330)).drew w.heap.size 330 5 W1.heap.size z5.toList:=by exact(yAa W1 z5 a9.2.size rfl).below ((Below.refl _ _).drew)
  have HGt:Hid (w.heap.size+1+1<W1.heap.size):=by show _<_;exact a9.1.ans.lt.2
  refine qO 5 rfl λK hK=>?_;go_simp;refine(am.out _).mono ?_;rintro r v3 ⟨rfl,aa⟩;have HV:=qH2 (hX.trans (aa.mono hX.size)) (a9.2.trans ((hX.trans (aa.mono hX.size)).mono a9.2.size));have a5:Hid (StB w v3 base M T G cp a E en mp n D S):=a9.1.below HV.1;have a6:Hid (yA v3 w.heap.size 330 5 W1.heap.size z5.toList):=al.below aa;have ac:Hid (¬M=W1.heap.size/\¬G=W1.heap.size/\¬mp=W1.heap.size):=⟨λq=>yAb a5.mtr.box a6.out qj M rfl (by rw[q];rfl),λq=>yAb a5.mtr.row a6.out qj G rfl (by rw[q];rfl),a5.map.ne a6.out⟩;have y0:=a6.cell (j:=0) rfl;have o0:=a6.frozen 0;have y1:=a6.cell (j:=1) rfl;have o1:=a6.frozen 1;have y2:=a6.cell (j:=2) rfl;have o2:=a6.frozen 2;have y3:=a6.cell (j:=3) rfl;have o3:=a6.frozen 3;have y4:=a6.cell (j:=4) rfl;have o4:=a6.frozen 4;refine hK.out _ _ (.inr (a7.out _ a5.out)) ?_;clear hK aa hX al;refine jS ?_;refine yFu (i:=7) (v:=.bool (acc en S)) rfl qk qk qk (by rfl) (λ_ _ _ h=>h) (Or.inl ⟨by rfl,?yqb7⟩) (a7.out _ a5.out) ?_;case yqb7=>exact zzR5
  try simp only[qA,getElem_toArray,getElem_cons_zero,getElem_cons_succ]
  refine jb (a7.out _ a5.out) ?_;refine qO 10 rfl λK hK=>?_;go_simp;refine hK.out _ _ (.inr (a7.out _ (a5.chg (Z:=λk=>k=W1.heap.size) (((((Chg.of_set (S:=λk=>k=W1.heap.size) _ W1.heap.size 0 _ rfl).trans (Chg.of_set (S:=λk=>k=W1.heap.size) _ W1.heap.size 1 _ rfl)).trans (Chg.of_set (S:=λk=>k=W1.heap.size) _ W1.heap.size 2 _ rfl)).trans (Chg.of_set (S:=λk=>k=W1.heap.size) _ W1.heap.size 3 _ rfl)).trans (Chg.of_set (S:=λk=>k=W1.heap.size) _ W1.heap.size 4 _ rfl)) (by have:=ac.out;omega) (by have:=ac.out;omega) (by have:=ac.out;omega) (λk q=>by have:=HGt.out;have:=HLo.out;omega)))) ?_;clear hK;refine jS ?_;refine qD ?_;dsimp only[NoPanic];obtain⟨b7,hb7⟩:=qE W1.heap.size;rw[<-hb7]at a6 ac HGt⊢;obtain⟨W4,a8⟩:=qE (set5 v3 b7 sNo (acc en S):World);have af:Chg (λk=>k=b7) v3 W4:=by rw[a8];exact yI0 _ _ _ _ rfl
  have HR4:Hid (RaI w base M T G cp a E en mp n D S b7 0 W4 W4/\b7<W4.heap.size):=by have b4:=a6.set5 sNo (acc en S);rw[<-a8]at b4;refine⟨⟨a5.chg af (by have:=ac.out;omega) (by have:=ac.out;omega) (by have:=ac.out;omega) (λk q=>by have:=HGt.out;have:=HLo.out;omega),b4,Chg.below HV.2 af HV.2.size (λk q=>by have:=HGt.out;omega),Nat.le_refl _⟩,b4.lt.2⟩
  have ae:=a8;simp only[set5,yF2]at ae;simp only[Int.ofNat_zero,Int.natCast_zero]at ae;rw[<-ae];clear a8 ae af hb7 y0 y1 y2 y3 y4 o0 o1 o2 o3 o4;exact zSA
end
def StU (w:World) (mp:Nat) (E:Nat->PS) (en:PS):Prop:=∃n,StI w mp n E en
variable {w w':World} {mp:Nat} {E:Nat->PS} {en:PS}
theorem StU.chg {S:Nat->Prop} (h:StU w mp E en) (hc:Chg S w w') (hn:¬S mp):StU w' mp E en:=by obtain⟨n,h⟩:=h;exact⟨n,h.chg hc hn⟩
def StW (base M:Nat) (T:Nat->PS) (G cp a:Nat) (E:Nat->PS) (en:PS) (mp:Nat) (S:PS) (w:World) (e:Ending) (w':World):Prop:=
 e=.returned (stV (ahd E S) (acc en S))/\Hid (MtrI w' base M T G cp a E en mp/\StU w' mp E en/\Chg (λk=>k=mp) w w')
variable {base M G cp a:Nat} {T:Nat->PS}
theorem yPd S w (h:MtrI w base M T G cp a E en mp) (hm:StU w mp E en) (hS:∀p,S p=true->p<a) (ha:a<=256) (hbm:base<=mp):Calls prog 232 #[xp M,psV S] w (StW base M T G cp a E en mp S w):=by
 obtain⟨n,D,hD⟩:=hm;cases hh:Maps.has D (psK S)with
 |true=>
  refine(yR7 S w h hD hh).mono ?_;rintro e w' ⟨rfl,H⟩;exact⟨rfl,H.1,⟨_,H.2.1⟩,H.2.2⟩
 |false=>
  refine(yX5 S w h hD hh hS ha hbm).mono ?_;rintro e w' ⟨rfl,H⟩;exact⟨rfl,H.1,⟨_,H.2.1⟩,H.2.2⟩
structure MaU (w:World) (base M:Nat) (T:Nat->PS) (G cp a:Nat) (E:Nat->PS) (en:PS) (mp b5:Nat) (S:PS) (X:World):Prop where
 mtr:MtrI X base M T G cp a E en mp
 map:StU X mp E en
 box:yA X w 330 5 b5 (stL (ahd E S) (acc en S))
 chg:Chg (λk=>k=mp) w X
theorem MaU.below {X X':World} {b5:Nat} {S:PS} (h:MaU w base M T G cp a E en mp b5 S X) (hb:Below X X X'):MaU w base M T G cp a E en mp b5 S X':=
 ⟨h.mtr.below hb,h.map.chg (S:=λ_=>False) (Chg.of_below hb) (λq=>q),h.box.below hb,h.chg.trans (Chg.of_below hb)⟩
theorem MaU.ne {X:World} {b5:Nat} {S:PS} (h:MaU w base M T G cp a E en mp b5 S X):¬M=b5/\¬G=b5/\¬mp=b5/\¬M=mp/\¬G=mp:=by obtain⟨n,D,hD⟩:=h.map;exact⟨λq=>yAb h.mtr.box h.box qj M rfl (by rw[q];rfl),λq=>yAb h.mtr.row h.box qj G rfl (by rw[q];rfl),StD.ne hD h.box,λq=>StD.ne hD h.mtr.box q.symm,λq=>StD.ne hD h.mtr.row q.symm⟩
def MaP3 (base M:Nat) (T:Nat->PS) (G cp a:Nat) (E:Nat->PS) (en:PS) (mp:Nat) (s:ByteArray) (w:World) (e:Ending) (w':World):Prop:=∃b:Bool,e=.returned b/\Hid ((b=true↔acc en (runS E T (sOne 0) (sb s))=true)/\MtrI w' base M T G cp a E en mp/\StU w' mp E en/\Chg (λk=>k=mp) w w')
theorem ySt (s:ByteArray) (hs:s.size<=200) w (h:MtrI w base M T G cp a E en mp) (hm:StU w mp E en) (hT:∀b p,T b p=true->p<a) (ha0:0<a) (ha:a<=256) (hbm:base<=mp):Calls prog 218 #[xp M,s] w (MaP3 base M T G cp a E en mp s w):=by
 have HI:=qH3 h hm (by have:=h.ltM;omega:base<=w.heap.size);have HT:=qH1 hT;have ai:Hid (∀wx:World,(xf 233 #[.agg #[xu 0,xu 0,.int .u64 0,.int .u64 0],.int .i64 0] wx (psV (sOne 0)):Prop)):=λwx=>by have:=yE1 sNo 0 qo wx;rw[show sOr sNo (sOne 0)=sOne 0 by funext p;simp[sOr,sNo],yYi]at this;exact this
 have zs:¬(200:Int)<(s.size:Int):=qo
 have ah:∀p,sOne 0 p=true->p<a:=λp hp=>by
  have h0:p=0:=by simpa [sOne]using hp
  omega
 clear h hm hT;go_enter func218,ntmps218;go_wp2_with fail;refine(ai.out _).mono ?_;rintro e w1 ⟨rfl,a5⟩;have HSt:=qH1 (yPd (sOne 0) w1 (HI.1.below a5) (HI.2.1.chg (S:=λ_=>False) (Chg.of_below a5) (λq=>q)) ah ha hbm);go_wp2_with fail;refine HSt.mono ?_;rintro e w2 ⟨rfl,H2⟩;obtain⟨W3,a6⟩:=qW (w2.alloc (.cells (stL (ahd E (sOne 0)) (acc en (sOne 0))).toArray 330));have k3:Below w2 w2 W3:=by rw[a6];exact qB
 have ab:=Nat.le_trans a5.size H2.2.2.size;have aa:=(Chg.of_below a5).trans H2.2.2;obtain⟨b5,a7⟩:=qE w2.heap.size;have HW3:Hid (MaU w base M T G cp a E en mp b5 (sOne 0) W3/\w.heap.size<=b5):=by have b3:=yAa w2 (base:=w.heap.size) (t:=330) (sz:=5) (stL (ahd E (sOne 0)) (acc en (sOne 0))).toArray ab rfl;exact⟨⟨H2.1.below k3,H2.2.1.chg (S:=λ_=>False) (Chg.of_below k3) (λq=>q),by rw[a6,a7];exact b3,aa.trans (Chg.of_below k3)⟩,qo⟩
 go_upto_region 4 with fail;have a8:=a6;simp only[stL]at a8;rw[<-a8,<-a7];clear a6 a8 k3 ab aa a7 H2 HSt a5;go_wp2;go_loopw[6] (λiv wr=>∃k:Nat,k<=s.size/\iv=(xi k)/\Hid (MaU w base M T G cp a E en mp b5 (runS E T (sOne 0) ((sb s).take k)) wr)) (λiv _=>s.size-(intOf iv).toNat);case atStart=>exact⟨0,zero_le _,rfl,HW3.1⟩
 case round=>
  obtain⟨k,hk,rfl,HJ⟩:=hrel;by_cases hlt:k<s.size
  .have zk:(k:Int)<(s.size:Int):=qo
   obtain⟨x,hx⟩:∃x,(sb s)[k]?=some x:=qg (by rw[yAe];exact hlt);obtain⟨_,gx⟩:=yAr hx;obtain⟨Sk,a9⟩:=qE (runS E T (sOne 0) ((sb s).take k));have ag:=x.toNat_lt;rw[<-a9]at HJ;have HN:Hid (runS E T (sOne 0) ((sb s).take (k+1))=stp E T Sk x/\True/\runS E T (sOne 0) (sb s)=runS E T (stp E T Sk x) ((sb s).drop (k+1))):=by
    have h1:(sb s).take (k+1)=(sb s).take k++ [x]:=by rw[take_add_one,hx];rfl
    have h2:runS E T (sOne 0) ((sb s).take (k+1))=stp E T Sk x:=by rw[h1,yPk,<-a9]
    refine⟨h2,trivial,?_⟩;rw[<-h2,<-yUr,take_append_drop]
   have a2:Hid (∀X,MaU w base M T G cp a E en mp b5 Sk X->(xk X b5 0 (xu (wdN (ahd E Sk) 0))/\xk X b5 1 (xu (wdN (ahd E Sk) 1))/\xk X b5 2 (xu (wdN (ahd E Sk) 2))/\xk X b5 3 (xu (wdN (ahd E Sk) 3))/\xk X M (x.toNat*4) (xu (wdN (T x.toNat) 0))/\xk X M (x.toNat*4+1) (xu (wdN (T x.toNat) 1))/\xk X M (x.toNat*4+2) (xu (wdN (T x.toNat) 2))/\xk X M (x.toNat*4+3) (xu (wdN (T x.toNat) 3)))):=λX h=>by obtain⟨g0,g1,g2,g3,_⟩:=h.mtr.taken4 ag;exact⟨h.box.cell (j:=0) rfl,h.box.cell (j:=1) rfl,h.box.cell (j:=2) rfl,h.box.cell (j:=3) rfl,g0,g1,g2,g3⟩
   have af:Hid (∀wx:World,(xf 234 #[psV (ahd E Sk),psV (T x.toNat)] wx (psV (stp E T Sk x)):Prop)):=λwx=>by have:=yKj (ahd E Sk) (T x.toNat) wx;unfold stp;exact this
   have zx:(x.toNat:Int)<256:=qo
   have HX:=qH1 hx;clear hx a9;go_upto_region 7 with fail;refine yAf 99 (λwz=>xk wz b5 0 (xu (wdN (ahd E Sk) 0))/\xk wz b5 1 (xu (wdN (ahd E Sk) 1))/\xk wz b5 2 (xu (wdN (ahd E Sk) 2))/\xk wz b5 3 (xu (wdN (ahd E Sk) 3))/\xk wz M (x.toNat*4) (xu (wdN (T x.toNat) 0))/\xk wz M (x.toNat*4+1) (xu (wdN (T x.toNat) 1))/\xk wz M (x.toNat*4+2) (xu (wdN (T x.toNat) 2))/\xk wz M (x.toNat*4+3) (xu (wdN (T x.toNat) 3))) qk ?_;refine ja 0 (a2.out _ (HJ.below ((Below.refl _ _).drew))) ?_;iterate 9 refine jb (a2.out _ (HJ.below ((Below.refl _ _).drew))) ?_
   refine yB2 (i:=10) (j:=11) qk rfl rfl (λK hK=>?_) (λK hK=>?_)
   .go_simp;refine(af.out _).mono ?_;rintro r v3 ⟨rfl,a4⟩;have HV:=qH1 (HJ.below (((Below.refl wr wr).drew).trans a4));refine hK.out _ _ (.inr (a2.out _ HV.out)) ?_;clear hK a4;refine jS ?_;refine qO 11 rfl λK hK=>?_;go_simp;refine hK.out _ _ (.inr (a2.out _ (HV.below (by repeat (first|exact Below.refl _ _|refine Below.drew ?_|refine Below.alloc ?_ qr _|refine yAc ?_ qr _ _))))) ?_;clear hK;refine jS ?_;refine qO 12 rfl λK hK=>?_;go_simp;refine hK.out _ _ (.inr (a2.out _ (HV.below (by repeat (first|exact Below.refl _ _|refine Below.drew ?_|refine Below.alloc ?_ qr _|refine yAc ?_ qr _ _))))) ?_;clear hK;refine jS ?_;refine qD ?_;obtain⟨W4,a1⟩:=qW (xw v3 (psL (stp E T Sk x)).toArray 328);have k4:=qN a1
    have HW4:Hid (MaU w base M T G cp a E en mp b5 Sk W4/\yA W4 w 328 4 v3 (psL (stp E T Sk x))):=by have b4:=yAa v3 (base:=w.heap.size) (t:=328) (sz:=4) (psL (stp E T Sk x)).toArray HV.chg.size rfl;exact⟨HV.below k4,by rw[a1];exact b4⟩
    have a3:=a1;simp only[psL]at a3;rw[<-a3];clear a1 a3 k4;exact xG3
   .go_simp;refine hK.out _ _ (.inr (a2.out _ (HJ.below (by repeat (first|exact Below.refl _ _|refine Below.drew ?_|refine Below.alloc ?_ qr _|refine yAc ?_ qr _ _))))) ?_;clear hK;refine jS ?_;have hX:Below wr wr (wr.alloc (.cells z4 328)).drew:=(qB).drew;have ad:yA (wr.alloc (.cells z4 328)).drew w 328 4 wr z4.toList:=(yAa wr z4 HJ.chg.size rfl).below ((Below.refl _ _).drew);refine qO 10 rfl λK hK=>?_;go_simp;refine(af.out _).mono ?_;rintro r v3 ⟨rfl,a4⟩;have HV:=qH1 (HJ.below (hX.trans (a4.mono hX.size)));have a0:=qH1 (ad.below a4);have y0:=a0.cell (j:=0) rfl;have o0:=a0.frozen 0;have y1:=a0.cell (j:=1) rfl;have o1:=a0.frozen 1;have y2:=a0.cell (j:=2) rfl;have o2:=a0.frozen 2;have y3:=a0.cell (j:=3) rfl;have o3:=a0.frozen 3;have ac:∀cs:World,Chg (λj=>j=wr.heap.size) v3 cs->MaU w base M T G cp a E en mp b5 Sk cs:=λcs hc=>by
     have h:=HV.out;have hbs:=HI.2.2;have ak:=HJ.chg.size;obtain⟨_,D,hD⟩:=h.map;have n1:¬M=wr.heap.size:=qw HJ.mtr.ltM.2
     have n2:¬G=wr.heap.size:=qw HJ.mtr.ltG.2
     have n3:=StD.ne hD a0.out;have n4:¬b5=wr.heap.size:=qw HJ.box.lt.2
     exact⟨h.mtr.chg hc n1 n2 (λj q=>qo),h.map.chg hc n3,h.box.chg hc n4,yI1 h.chg (hc.mono (λj q=>qo))⟩
    have ae:=qH1 ac;refine hK.out _ _ (.inr (a2.out _ HV.out)) ?_;clear hK a4 hX ad ac;refine jS ?_;refine kO 12 (a2.out _ (ae.out _ ((((Chg.of_set (S:=λj=>j=wr.heap.size) _ wr 0 _ rfl).trans (Chg.of_set (S:=λj=>j=wr.heap.size) _ wr 1 _ rfl)).trans (Chg.of_set (S:=λj=>j=wr.heap.size) _ wr 2 _ rfl)).trans (Chg.of_set (S:=λj=>j=wr.heap.size) _ wr 3 _ rfl)))) ?_;refine qD ?_;obtain⟨W4,a1⟩:=qW (set4 v3 wr 0 (stp E T Sk x));have HW4:Hid (MaU w base M T G cp a E en mp b5 Sk W4/\yA W4 w 328 4 wr (psL (stp E T Sk x))):=by
     have hc:Chg (λj=>j=wr.heap.size) v3 W4:=by rw[a1];exact yBa _ _ _ _ rfl
     have b4:=yFo a0.out 0 (stp E T Sk x);rw[<-a1]at b4;exact⟨ae.out _ hc,b4⟩
    have a3:=a1;simp only[set4,Nat.zero_add]at a3;rw[<-a3];clear a1 a3 y0 y1 y2 y3 o0 o1 o2 o3;exact xG3
  .obtain rfl:k=s.size:=qo
   have zk:¬(s.size:Int)<(s.size:Int):=qo
   have r4:=HJ.box.cell (j:=4) rfl;have aj:Hid ((sb s).take s.size=sb s):=by show _=_;rw[<-yAe,take_length]
   go_wp2;go_ret;exact⟨_,rfl,by rw[aj.out],HJ.mtr,HJ.map,HJ.chg⟩
def inR (lo:ByteArray) (hh:Bool) (hi row:ByteArray):Bool:= !Op.bytesLess row.toList lo.toList && (!hh || Op.bytesLess row.toList hi.toList)
theorem yIr (lo hi row:ByteArray) (hh:Bool) (w:World):
  Calls prog 235 #[.agg #[lo,hh,hi],row] w λe w'=>
   e=.returned (inR lo hh hi row)/\Below w w w':=by
 unfold inR;cases hb:Op.bytesLess row.toList lo.toList<;>cases hh
 all_goals
  go_enter func235,ntmps235
  go_wp2
  go_ret
  exact⟨by simp,qB⟩
abbrev InB (lo hi k:Nat):Prop:=lo<=k/\k<hi
structure MchJ (w:World) (lo hi M:Nat) (p:ByteArray) (T:Nat->PS) (G cp a:Nat) (E:Nat->PS) (en:PS) (mp:Nat) (os:List (List Pat)) (n:Nat):Prop where
 gr:AltG (yAm n) os (sb p)
 chk:(yAj (sb p)).1=0
 mtr:MtrI w lo M T G cp a E en mp
 map:StU w mp E en
 tk:∀b p,T b p=true->p<a
 pos:0<a
 le:a<=256
 low:lo<=mp
 hM:M<hi
 hG:G<hi
 hm:mp<hi
 acc:∀s:List UInt8,acc en (runS E T (sOne 0) s)=true↔LgA os s
def yH2 (w:World) (lo hi M:Nat) (p:ByteArray):Prop:=∃T G cp a E en mp os n,MchJ w lo hi M p T G cp a E en mp os n
theorem MtrI.chg2 {S:Nat->Prop} (h:MtrI w base M T G cp a E en mp) (hc:Chg S w w') (hM:¬S M) (hG:¬S G) (h0:¬S 1):MtrI w' base M T G cp a E en mp:=
 ⟨h.box.chg hc hM,yAh h.row hc (λk q=>by simp[Value.ownBlock]at q;subst q;exact hG),h.new,h.tab.chg hc h0,h.low⟩
variable {t sz:Nat}
theorem ySg {base' n:Nat} {v:Value} {vs:List Value} (h:w.ownsRow base t sz v n vs) (hb:base'<=base):w.ownsRow base' t sz v n vs:=by exact xCp
variable {lo hi:Nat} {p:ByteArray}
theorem yH2.chg {S:Nat->Prop} (h:yH2 w lo hi M p) (hc:Chg S w w') (hS:∀k,S k->¬InB lo hi k) (ht:1<lo->¬S 1):yH2 w' lo hi M p:=by obtain⟨T,G,cp,a,E,en,mp,os,n,h⟩:=h;exact⟨T,G,cp,a,E,en,mp,os,n,h.gr,h.chk,h.mtr.chg2 hc (λq=>hS _ q ⟨h.mtr.ltM.1,h.hM⟩) (λq=>hS _ q ⟨h.mtr.ltG.1,h.hG⟩) (ht h.mtr.low),h.map.chg hc (λq=>hS _ q ⟨h.low,h.hm⟩),h.tk,h.pos,h.le,h.low,h.hM,h.hG,h.hm,h.acc⟩
theorem yH2.below (h:yH2 w lo hi M p) (hb:Below w w w'):yH2 w' lo hi M p:=h.chg (S:=λ_=>False) (Chg.of_below hb) (λk q=>q.elim) (λ_ q=>q)
def MtP (w:World) (lo hi M:Nat) (p s:ByteArray) (e:Ending) (w':World):Prop:=e=.returned (mtB p s)/\Hid (yH2 w' lo hi M p/\Chg (InB lo hi) w w')
theorem ySs (h:yH2 w lo hi M p) (s:ByteArray):Calls prog 218 #[xp M,s] w (MtP w lo hi M p s):=by
 obtain⟨T,G,cp,a,E,en,mp,os,n,h⟩:=h;by_cases hs:s.size<=200
 .refine(ySt s hs w h.mtr h.map h.tk h.pos h.le h.low).mono ?_;rintro e w' ⟨b,rfl,H⟩;have hb:MatB p s b:=.inr ⟨h.chk,n,os,h.gr,by rw[H.1,h.acc];exact⟨λq=>⟨hs,q⟩,λq=>q.2⟩⟩;rw[yY3 hb];exact⟨rfl,⟨T,G,cp,a,E,en,mp,os,n,h.gr,h.chk,H.2.1,H.2.2.1,h.tk,h.pos,h.le,h.low,h.hM,h.hG,h.hm,h.acc⟩,H.2.2.2.mono (λk q=>by subst q;exact⟨h.low,h.hm⟩)⟩
 .refine(yPz M s qo w).mono ?_;rintro e w' ⟨rfl,rfl⟩;have hb:MatB p s false:=.inr ⟨h.chk,n,os,h.gr,⟨λq=>(by cases q),λq=>absurd q.1 hs⟩⟩;exact⟨by rw[<-yY3 hb],⟨T,G,cp,a,E,en,mp,os,n,h⟩,Chg.refl _ _⟩
def PatK (k:Int):Prop:=k=4∨k=5∨k=6∨k=7
def yDm (w:World) (lo hi:Nat) (n:Nd) (mv:Value):Prop:=(¬PatK n.kind/\mv=.pointer none)∨(PatK n.kind/\∃M,mv=(xp M)/\yH2 w lo hi M n.s)
theorem yH2.wide {lo' hi':Nat} (h:yH2 w lo hi M p) (hl:lo'<=lo) (hh:hi<=hi') (ht:1<lo'):yH2 w lo' hi' M p:=by obtain⟨T,G,cp,a,E,en,mp,os,n,h⟩:=h;exact⟨T,G,cp,a,E,en,mp,os,n,h.gr,h.chk,⟨ySg h.mtr.box hl,ySg h.mtr.row hl,h.mtr.new,h.mtr.tab,ht⟩,h.map,h.tk,h.pos,h.le,Nat.le_trans hl h.low,Nat.lt_of_lt_of_le h.hM hh,Nat.lt_of_lt_of_le h.hG hh,Nat.lt_of_lt_of_le h.hm hh,h.acc⟩
variable {n:Nd}
theorem yDm.chg {S:Nat->Prop} {mv:Value} (h:yDm w lo hi n mv) (hc:Chg S w w') (hS:∀k,S k->¬InB lo hi k) (ht:1<lo->¬S 1):yDm w' lo hi n mv:=by
 rcases h with h|⟨h1,M,h2,h3⟩
 .exact .inl h
 .exact .inr ⟨h1,M,h2,h3.chg hc hS ht⟩
theorem yDm.below {mv:Value} (h:yDm w lo hi n mv) (hb:Below w w w'):yDm w' lo hi n mv:=h.chg (S:=λ_=>False) (Chg.of_below hb) (λk q=>q.elim) (λ_ q=>q)
def HoP (w:World) (lo hi:Nat) (n:Nd) (c:Ent) (mv:Value) (e:Ending) (w':World):Prop:=e=.returned (tstB n c)/\Hid (yDm w' lo hi n mv/\Chg (InB lo hi) w w')
theorem xH7 (x:ByteArray) (n:Nd):inS x n=inR n.s n.hi n.t x:=rfl
theorem yYf (s t:ByteArray) (h:Bool) (w:World):(Instr.build 341 #[(0,s),(1,h),(2,t)]).run prog w=.ok (.agg #[s,h,t]) w:=qk
theorem yM5 (n:Nd) (mp:Option Addr) (x:ByteArray) (w:World):(xf 219 #[.agg #[xi n.kind,n.s,n.hi,n.t,xu n.lo,xu n.up,xi n.n,.pointer mp],x] w (inS x n):Prop):=by
 have HI:Hid (∀w,(xf 235 #[.agg #[n.s,n.hi,n.t],x] w (inS x n):Prop)):=λw=>by rw[xH7];exact yIr n.s n.t x n.hi w
 have a2:=yYf n.s n.t n.hi;obtain⟨W1,a0⟩:=qW (xw w #[xi n.kind,n.s,n.hi,n.t,xu n.lo,xu n.up,xi n.n,.pointer mp] 286);have a1:Hid (Below w w W1):=by rw[a0];exact qB
 go_enter func219,ntmps219;go_wp2_with fail;rw[<-a0];clear a0 a2;refine(HI.out W1).mono ?_;rintro e w2 ⟨rfl,hb2⟩;have HE:=qH1 (a1.trans (hb2.mono a1.size));clear hb2;go_wp2;go_ret;exact⟨rfl,HE.out⟩
theorem yWt (n:Nd) (c:Ent) (mv:Value) (w:World) (bl bh:Nat) (hT:yDm w bl bh n mv) (hb:bh<=w.heap.size):∃mp:Option Addr,mv=.pointer mp/\Calls prog 193 #[.agg #[xi n.kind,n.s,n.hi,n.t,xu n.lo,xu n.up,xi n.n,.pointer mp],c.c] w (HoP w bl bh n c mv):=by
 obtain⟨mp,a5⟩:∃mp:Option Addr,mv=.pointer mp:=by
  rcases hT with⟨_,h⟩|⟨_,M,h,_⟩
  .exact⟨_,h⟩
  .exact⟨_,h⟩
 subst a5;refine⟨mp,rfl,?_⟩;have HT:=qH1 hT;obtain⟨k,s,hi,t,lo,up,nn⟩:=n;have HS:Hid (∀(x:ByteArray) (w:World),(xf 219 #[.agg #[xi k,s,hi,t,xu lo,xu up,xi nn,.pointer mp],x] w (inS x ⟨k,s,hi,t,lo,up,nn⟩):Prop)):=λx w=>yM5 ⟨k,s,hi,t,lo,up,nn⟩ mp x w;obtain⟨res,a4⟩:=qE (tstB ⟨k,s,hi,t,lo,up,nn⟩ c);have HR:=qH1 a4;obtain⟨W2,hW2⟩:=qW (xw (w.alloc (.cells #[xi k,s,hi,t,xu lo,xu up,xi nn,.pointer mp] 286)) #[c.row,c.fam,c.qual,xu c.ts,c.val] 70);have HW2:Hid (Below w w W2):=by rw[hW2];exact(qB).alloc (by simp) _
 have HFin:Hid (∀wx,Below w w wx->HoP w bl bh ⟨k,s,hi,t,lo,up,nn⟩ c (.pointer mp) (.returned res) wx):=λwx hx=>⟨by rw[HR.out],HT.below hx,Chg.of_below hx⟩;have a3:Hid (∀wx,yDm wx bl bh ⟨k,s,hi,t,lo,up,nn⟩ (.pointer mp)->Chg (InB bl bh) w wx->HoP w bl bh ⟨k,s,hi,t,lo,up,nn⟩ c (.pointer mp) (.returned res) wx):=λwx h1 h2=>⟨by rw[HR.out],h1,h2⟩;have a2:Hid (PatK k->∀x:ByteArray,Calls prog 218 #[.pointer mp,x] W2 λe w'=>e=.returned (mtB s x)/\yDm w' bl bh ⟨k,s,hi,t,lo,up,nn⟩ (.pointer mp)/\Chg (InB bl bh) w w'):=λhp x=>by
  rcases HT.below HW2.out with⟨q,_⟩|⟨_,M,q,hM⟩
  .exact absurd hp q
  .cases q
   refine(ySs hM x).mono ?_;rintro e w' ⟨rfl,H⟩;exact⟨rfl,.inr ⟨hp,M,rfl,H.1⟩,(Chg.of_below HW2.out).trans H.2⟩
 clear a4 hT;by_cases h1:k=1
 .subst h1;have hv:res=true:=HR.trans (by simp[tstB]);exact xDv
 have b1:=qn h1
 by_cases h3:k=3
 .subst h3;have hv:res=true:=HR.trans (by simp[tstB]);exact xDv
 have b3:=qn h3
 by_cases h4:k=4
 .subst h4;have hv:res=mtB s c.row:=HR.trans (by simp[tstB]);have a0:=qH1 (a2.out (by unfold PatK;omega) c.row);go_enter func193,ntmps193;go_wp2_with fail;rw[<-hW2];clear hW2;refine a0.mono ?_;rintro e w1 ⟨rfl,h1,h2⟩;have HE:=qH1 (a3.out w1 h1 h2);clear h1 h2;go_wp2;go_ret;exact hv▸HE.out
 have b4:=qn h4
 by_cases h5:k=5
 .subst h5;have hv:res=mtB s c.fam:=HR.trans (by simp[tstB]);have a0:=qH1 (a2.out (by unfold PatK;omega) c.fam);go_enter func193,ntmps193;go_wp2_with fail;rw[<-hW2];clear hW2;refine a0.mono ?_;rintro e w1 ⟨rfl,h1,h2⟩;have HE:=qH1 (a3.out w1 h1 h2);clear h1 h2;go_wp2;go_ret;exact hv▸HE.out
 have b5:=qn h5
 by_cases h6:k=6
 .subst h6;have hv:res=mtB s c.qual:=HR.trans (by simp[tstB]);have a0:Hid (Calls prog 218 #[.pointer mp,c.qual] W2 λe w'=>e=.returned (mtB s c.qual)/\yDm w' bl bh ⟨6,s,hi,t,lo,up,nn⟩ (.pointer mp)/\Chg (InB bl bh) w w'):=a2.out (by unfold PatK;omega) c.qual;go_enter func193,ntmps193;go_wp2_with fail;rw[<-hW2];clear hW2;refine a0.mono ?_;rintro e w1 ⟨rfl,h1,h2⟩;have HE:Hid (HoP w bl bh ⟨6,s,hi,t,lo,up,nn⟩ c (.pointer mp) (.returned res) w1):=a3.out w1 h1 h2;clear h1 h2;go_wp2;go_ret;exact hv▸HE.out
 have b6:=qn h6
 by_cases h7:k=7
 .subst h7;have hv:res=mtB s c.val:=HR.trans (by simp[tstB]);have a0:Hid (Calls prog 218 #[.pointer mp,c.val] W2 λe w'=>e=.returned (mtB s c.val)/\yDm w' bl bh ⟨7,s,hi,t,lo,up,nn⟩ (.pointer mp)/\Chg (InB bl bh) w w'):=a2.out (by unfold PatK;omega) c.val;go_enter func193,ntmps193;go_wp2_with fail;rw[<-hW2];clear hW2;refine a0.mono ?_;rintro e w1 ⟨rfl,h1,h2⟩;have HE:Hid (HoP w bl bh ⟨7,s,hi,t,lo,up,nn⟩ c (.pointer mp) (.returned res) w1):=a3.out w1 h1 h2;clear h1 h2;go_wp2;go_ret;exact hv▸HE.out
 have b7:=qn h7
 by_cases h8:k=8
 .subst h8;have hv:res=inS c.row ⟨8,s,hi,t,lo,up,nn⟩:=HR.trans (by simp[tstB]);go_enter func193,ntmps193;go_wp2_with fail;rw[<-hW2];clear hW2;refine(HS.out c.row W2).mono ?_;rintro e w1 ⟨rfl,a1⟩;have HE:Hid (HoP w bl bh ⟨8,s,hi,t,lo,up,nn⟩ c (.pointer mp) (.returned res) w1):=HFin.out w1 (HW2.trans (a1.mono HW2.size));clear a1;go_wp2;go_ret;exact hv▸HE.out
 have b8:=qn h8
 by_cases h9:k=9
 .subst h9;have hv:res=inS c.qual ⟨9,s,hi,t,lo,up,nn⟩:=HR.trans (by simp[tstB]);go_enter func193,ntmps193;go_wp2_with fail;rw[<-hW2];clear hW2;refine(HS.out c.qual W2).mono ?_;rintro e w1 ⟨rfl,a1⟩;have HE:Hid (HoP w bl bh ⟨9,s,hi,t,lo,up,nn⟩ c (.pointer mp) (.returned res) w1):=HFin.out w1 (HW2.trans (a1.mono HW2.size));clear a1;go_wp2;go_ret;exact hv▸HE.out
 have b9:=qn h9
 by_cases h10:k=10
 .subst h10;have hv:res=(decide (lo<=c.ts) && (!hi || decide (c.ts<up))):=HR.trans (by simp[tstB]);have HE:Hid (HoP w bl bh ⟨10,s,hi,t,lo,up,nn⟩ c (.pointer mp) (.returned (decide (lo<=c.ts) && (!hi || decide (c.ts<up)))) W2):=by rw[<-hv];exact HFin.out W2 HW2.out
  clear hv;by_cases g1:lo<=c.ts<;>cases hi<;>by_cases g2:c.ts<up
  all_goals simp only[g1,g2,decide_true,decide_false,Bool.not_true,Bool.not_false,Bool.true_and,Bool.false_and,Bool.true_or,Bool.false_or]at HE
  all_goals go_enter func193,ntmps193
  all_goals go_wp2_with fail
  all_goals rw[<-hW2]
  all_goals go_ret
  all_goals exact HE.out
 have a6:=qn h10
 have hv:res=false:=HR.trans (by simp[tstB,h1,h3,h4,h5,h6,h7,h8,h9,h10]);exact xDv
theorem yE3 (k:Int) (s:ByteArray) (h:Bool) (t:ByteArray) (l u n:Int) (w:World):(Instr.build 286 #[(0,.agg #[xi k,s,h,t,xu l,xu u,xi n])]).run prog w=.ok (.agg #[xi k,s,h,t,xu l,xu u,xi n,.pointer none]) w:=qk
def yKh (n:Nd) (mp:Option Addr):List Value:= [.int .i64 n.kind,.string n.s,.bool n.hi,.string n.t,.int .u64 n.lo,.int .u64 n.up,.int .i64 n.n,.pointer mp]
theorem xDj {g:Nat} {tmps:Array Value} {mp:Option Addr} (ht:tmps[2]?.getD undef=(xp g)) (h:yA w base 286 8 g (yKh n mp)):(results Tryz.f197 tmps).run prog w=.ok (.agg #[xi n.kind,n.s,n.hi,n.t,xu n.lo,xu n.up,xi n.n,.pointer mp]) w:=by obtain⟨p0,p1,p2,p3,p4,p5,p6,p7⟩:=h.c8;simp[results,results197,ht,go_sem,p0,p1,p2,p3,p4,p5,p6,p7]
def set8 (w:World) (g:Nat) (n:Nd) (mp:Option Addr):World:=(xt (((((((w.setCell (xd g 0) (xi n.kind)).setCell (xd g 1) n.s).setCell (xd g 2) n.hi).setCell (xd g 3) n.t).setCell (xd g 4) (xu n.lo)).setCell (xd g 5) (xu n.up)).setCell (xd g 6) (xi n.n)) g 7 (.pointer mp))
theorem yA.set8 {g:Nat} {vs:List Value} (h:yA w base t 8 g vs) n (mp:Option Addr):yA (Go.Proofs.YtnnagkfoiganfaaGreatDoor.set8 w g n mp) base t 8 g (yKh n mp):=by
 have hl:=h.len;match vs,hl with
 | [a0,a1,a2,a3,a4,a5,a6,a7],_=>exact(((((((h.set 0 _).set 1 _).set 2 _).set 3 _).set 4 _).set 5 _).set 6 _).set 7 _
variable {B k:Nat}
theorem yXa {a:World} (h:Below B a w) (hk:B<=k) n (mp:Option Addr):Below B a (set8 w k n mp):=yAc (yAc (yAc (yAc (yAc (yAc (yAc (yAc h hk 0 _) hk 1 _) hk 2 _) hk 3 _) hk 4 _) hk 5 _) hk 6 _) hk 7 _
theorem xC (w:World) (g:Nat) n (mp:Option Addr):Chg (λk=>k=g) w (set8 w g n mp):=by unfold set8;refine Chg.trans ?_ (Chg.of_set _ g 7 _ rfl);refine Chg.trans ?_ (Chg.of_set _ g 6 _ rfl);refine Chg.trans ?_ (Chg.of_set _ g 5 _ rfl);refine Chg.trans ?_ (Chg.of_set _ g 4 _ rfl);refine Chg.trans ?_ (Chg.of_set _ g 3 _ rfl);refine Chg.trans ?_ (Chg.of_set _ g 2 _ rfl);refine Chg.trans ?_ (Chg.of_set _ g 1 _ rfl);refine Chg.trans ?_ (Chg.of_set _ g 0 _ rfl);exact Chg.refl _ _
def CteP (n:Nd) (w:World) (e:Ending) (w':World):Prop:=∃mp:Option Addr,e=.returned (.agg #[xi n.kind,n.s,n.hi,n.t,xu n.lo,xu n.up,xi n.n,.pointer mp])/\Hid (yDm w' w w' n (.pointer mp)/\Below w w w')
theorem yG6 (n:Nd) (w W2:World) (hW2:W2=(xw ((w.alloc (.cells n.seven.toArray 83)).alloc (.cells #[xi 0,xe,false,xe,xu 0,xu 0,xi 0,.pointer none] 286)) #[xi n.kind,n.s,n.hi,n.t,xu n.lo,xu n.up,xi n.n,.pointer none] 286)):yA W2 w 83 7 w n.seven/\yA W2 w 286 8 (w+1) (#[.int .i64 0,.string ⟨#[]⟩,.bool false,.string ⟨#[]⟩,.int .u64 0,.int .u64 0,.int .i64 0,.pointer none]).toList/\yA W2 w 286 8 (w+1+1) (yKh n none)/\Below w w W2:=box3 hW2
theorem yQ5 (n:Nd) (w:World) (hT:TabD w):∀(X:World) (mp:Option Addr),yA X w 286 8 (w+1) (#[.int .i64 0,.string ⟨#[]⟩,.bool false,.string ⟨#[]⟩,.int .u64 0,.int .u64 0,.int .i64 0,.pointer none]).toList->Below w w X->w.heap.size+1<X.heap.size->yDm X (w+1+1+1) X n (.pointer mp)->CteP n w (.returned (.agg #[xi n.kind,n.s,n.hi,n.t,xu n.lo,xu n.up,xi n.n,.pointer mp])) (set8 X (w+1) n mp)/\yA (set8 X (w+1) n mp) w 286 8 (w+1) (yKh n mp):=λX mp hB hX hz hTs=>by
 have hc:=xC X (w+1) n mp
 have hsz:(set8 X (w+1) n mp).heap.size=X.heap.size:=by unfold set8;simp
 refine⟨⟨mp,rfl,?_,yXa hX qo n mp⟩,hB.set8 n mp⟩
 rw[hsz]
 have hV:=hT.lt
 have h9:=hTs.chg hc (λk q z=>by have:=z.1;omega) (λ_ q=>qo)
 rcases h9 with q|⟨q,M,q1,hM⟩
 .exact .inl q
 .exact .inr ⟨q,M,q1,hM.wide qo qr hV⟩
theorem yY7 (n:Nd) w (hT:TabD w) (hs:n.s.size<=maxLen) (hP:¬PatK n.kind):Calls prog 197 #[n.v] w (CteP n w):=by
 obtain⟨W2,a4⟩:=qE (xw ((w.alloc (.cells n.seven.toArray 83)).alloc (.cells #[.int .i64 0,.string ⟨#[]⟩,.bool false,.string ⟨#[]⟩,.int .u64 0,.int .u64 0,.int .i64 0,.pointer none] 286)) #[.int .i64 n.kind,n.s,n.hi,n.t,xu n.lo,xu n.up,xi n.n,.pointer none] 286:World);have a0:=qH1 (yG6 n w W2 a4);have HT:=qH2 hT hs;have a6:=yE3 n.kind n.s n.hi n.t n.lo n.up n.n;have HF:=qH1 (yQ5 n w hT);clear hT hs;go_enter func197,ntmps197;go_upto_region 2 with fail;have a3:=a4;simp only[Nd.seven]at a3;rw[<-a3];clear a4 a3 a6;obtain⟨n0,n1⟩:=a0.1.c2;have a7:=a0.2.2.1.lt.2;have hk:¬n.kind=4/\¬n.kind=5/\¬n.kind=6/\¬n.kind=7:=by unfold PatK at hP;omega
 have b4:(n.kind==4)=false:=by rw[beq_eq_false_iff_ne];exact hk.1
 have b5:(n.kind==5)=false:=by rw[beq_eq_false_iff_ne];exact hk.2.1
 have b6:(n.kind==6)=false:=by rw[beq_eq_false_iff_ne];exact hk.2.2.1
 have b7:(n.kind==7)=false:=by rw[beq_eq_false_iff_ne];exact hk.2.2.2
 clear hk;have a1:=qH4 a0.2.1 a0.2.2.2 (by omega:w.heap.size+1<W2.heap.size) (.inl ⟨hP,rfl⟩:yDm W2 (w+1+1+1) W2 n (.pointer none));have HE:=HF.out W2 none a1.1 a1.2.1 a1.2.2.1 a1.2.2.2;have a5:=qH1 HE;clear HE;obtain⟨W9,a2⟩:=qE (set8 W2 (w+1) n none);rw[<-a2]at a5;simp only[set8]at a2;obtain⟨m0,m1,m2,m3,m4,m5,m6,m7⟩:=a0.2.2.1.c8;obtain⟨r0,r1,r2,r3,r4,r5,r6,r7⟩:=a0.2.1.c8;obtain⟨f0,f1,f2,f3,f4,f5,f6,f7⟩:=a0.2.1.f8;go_wp2_with fail;rw[<-a2];exact bodyPost_ret (xDj (base:=w.heap.size) (g:=w.heap.size+1) rfl a5.2) rfl a5.1
theorem xIy (n:Nd) w (hT:TabD w) (hs:n.s.size<=maxLen) (hg:(yAj (sb n.s)).1=0) (h4:n.kind=4):Calls prog 197 #[n.v] w (CteP n w):=by
 have hP:PatK n.kind:=by unfold PatK;omega
 have a5:=qH1 h4;have a3:=qH1 hP;clear h4 hP;obtain⟨W2,a2⟩:=qW (xw ((w.alloc (.cells n.seven.toArray 83)).alloc (.cells #[xi 0,xe,false,xe,xu 0,xu 0,xi 0,.pointer none] 286)) #[xi n.kind,n.s,n.hi,n.t,xu n.lo,xu n.up,xi n.n,.pointer none] 286);have HW2:=qH1 (yG6 n w W2 a2);have HT:=qH2 hT hs;have a4:=yE3 n.kind n.s n.hi n.t n.lo n.up n.n;have HF:=qH1 (yQ5 n w hT);have HG:Hid (PatK n.kind->(yAj (sb n.s)).1=0):=λ_=>hg;clear hg;clear hT hs;go_enter func197,ntmps197;go_upto_region 2 with fail;have a1:=a2;simp only[Nd.seven]at a1;rw[<-a1];clear a2 a1 a4;obtain⟨n0,n1⟩:=HW2.1.c2;have a6:=HW2.2.2.1.lt.2;have a7:n.s.size<=200:=by apply Classical.byContradiction;intro h6;have q0:=HG.out a3.out;unfold yAj at q0;rw[if_pos (by rw[yAe];omega)]at q0;exact absurd q0 qj
 have HRp:=qH1 (yA5 n.s W2 HT.2);have hP0:=qH1 a3.out;have hP:=a3.out;have h4:=a5.out;have b4:(n.kind==4)=true:=by rw[beq_iff_eq];exact h4
 have a8:=qH1 h4;clear h4 hP;exact zzQ0
theorem xIx (n:Nd) w (hT:TabD w) (hs:n.s.size<=maxLen) (hg:(yAj (sb n.s)).1=0) (h5:n.kind=5):Calls prog 197 #[n.v] w (CteP n w):=by
 have hP:PatK n.kind:=by unfold PatK;omega
 have a5:=qH1 h5;have a3:=qH1 hP;clear h5 hP;obtain⟨W2,a2⟩:=qW (xw ((w.alloc (.cells n.seven.toArray 83)).alloc (.cells #[xi 0,xe,false,xe,xu 0,xu 0,xi 0,.pointer none] 286)) #[xi n.kind,n.s,n.hi,n.t,xu n.lo,xu n.up,xi n.n,.pointer none] 286);have HW2:=qH1 (yG6 n w W2 a2);have HT:=qH2 hT hs;have a4:=yE3 n.kind n.s n.hi n.t n.lo n.up n.n;have HF:=qH1 (yQ5 n w hT);have HG:Hid (PatK n.kind->(yAj (sb n.s)).1=0):=λ_=>hg;clear hg;clear hT hs;go_enter func197,ntmps197;go_upto_region 2 with fail;have a1:=a2;simp only[Nd.seven]at a1;rw[<-a1];clear a2 a1 a4;obtain⟨n0,n1⟩:=HW2.1.c2;have a6:=HW2.2.2.1.lt.2;have a7:n.s.size<=200:=by apply Classical.byContradiction;intro h6;have q0:=HG.out a3.out;unfold yAj at q0;rw[if_pos (by rw[yAe];omega)]at q0;exact absurd q0 qj
 have HRp:=qH1 (yA5 n.s W2 HT.2);have hP0:=qH1 a3.out;have hP:=a3.out;have h5:=a5.out;have b4:(n.kind==4)=false:=by rw[beq_eq_false_iff_ne];omega
 have b5:(n.kind==5)=true:=by rw[beq_iff_eq];exact h5
 have a8:=qH1 h5;clear h5 hP;exact zzQ0
theorem xIw (n:Nd) w (hT:TabD w) (hs:n.s.size<=maxLen) (hg:(yAj (sb n.s)).1=0) (h6:n.kind=6):Calls prog 197 #[n.v] w (CteP n w):=by
 have hP:PatK n.kind:=by unfold PatK;omega
 have a5:=qH1 h6;have a3:=qH1 hP;clear h6 hP;obtain⟨W2,a2⟩:=qW (xw ((w.alloc (.cells n.seven.toArray 83)).alloc (.cells #[xi 0,xe,false,xe,xu 0,xu 0,xi 0,.pointer none] 286)) #[xi n.kind,n.s,n.hi,n.t,xu n.lo,xu n.up,xi n.n,.pointer none] 286);have HW2:=qH1 (yG6 n w W2 a2);have HT:=qH2 hT hs;have a4:=yE3 n.kind n.s n.hi n.t n.lo n.up n.n;have HF:=qH1 (yQ5 n w hT);have HG:Hid (PatK n.kind->(yAj (sb n.s)).1=0):=λ_=>hg;clear hg;clear hT hs;go_enter func197,ntmps197;go_upto_region 2 with fail;have a1:=a2;simp only[Nd.seven]at a1;rw[<-a1];clear a2 a1 a4;obtain⟨n0,n1⟩:=HW2.1.c2;have a6:=HW2.2.2.1.lt.2;have a7:n.s.size<=200:=by apply Classical.byContradiction;intro h6;have q0:=HG.out a3.out;unfold yAj at q0;rw[if_pos (by rw[yAe];omega)]at q0;exact absurd q0 qj
 have HRp:=qH1 (yA5 n.s W2 HT.2);have hP0:=qH1 a3.out;have hP:=a3.out;have h6:=a5.out;have b4:(n.kind==4)=false:=by rw[beq_eq_false_iff_ne];omega
 have b5:(n.kind==5)=false:=by rw[beq_eq_false_iff_ne];omega
 have b6:(n.kind==6)=true:=by rw[beq_iff_eq];exact h6
 have a8:=qH1 h6;clear h6 hP;exact zzQ0
theorem xIv (n:Nd) w (hT:TabD w) (hs:n.s.size<=maxLen) (hg:(yAj (sb n.s)).1=0) (h7:n.kind=7):Calls prog 197 #[n.v] w (CteP n w):=by
 have hP:PatK n.kind:=by unfold PatK;omega
 have a5:=qH1 h7;have a3:=qH1 hP;clear h7 hP;obtain⟨W2,a2⟩:=qW (xw ((w.alloc (.cells n.seven.toArray 83)).alloc (.cells #[xi 0,xe,false,xe,xu 0,xu 0,xi 0,.pointer none] 286)) #[xi n.kind,n.s,n.hi,n.t,xu n.lo,xu n.up,xi n.n,.pointer none] 286);have HW2:=qH1 (yG6 n w W2 a2);have HT:=qH2 hT hs;have a4:=yE3 n.kind n.s n.hi n.t n.lo n.up n.n;have HF:=qH1 (yQ5 n w hT);have HG:Hid (PatK n.kind->(yAj (sb n.s)).1=0):=λ_=>hg;clear hg;clear hT hs;go_enter func197,ntmps197;go_upto_region 2 with fail;have a1:=a2;simp only[Nd.seven]at a1;rw[<-a1];clear a2 a1 a4;obtain⟨n0,n1⟩:=HW2.1.c2;have a6:=HW2.2.2.1.lt.2;have a7:n.s.size<=200:=by apply Classical.byContradiction;intro h6;have q0:=HG.out a3.out;unfold yAj at q0;rw[if_pos (by rw[yAe];omega)]at q0;exact absurd q0 qj
 have HRp:=qH1 (yA5 n.s W2 HT.2);have hP0:=qH1 a3.out;have hP:=a3.out;have h7:=a5.out;have b4:(n.kind==4)=false:=by rw[beq_eq_false_iff_ne];omega
 have b5:(n.kind==5)=false:=by rw[beq_eq_false_iff_ne];omega
 have b6:(n.kind==6)=false:=by rw[beq_eq_false_iff_ne];omega
 have b7:(n.kind==7)=true:=by rw[beq_iff_eq];exact h7
 have a8:=qH1 h7;clear h7 hP;exact zzQ0
theorem yHk (n:Nd) w (hT:TabD w) (hs:n.s.size<=maxLen) (hg:PatK n.kind->(yAj (sb n.s)).1=0):Calls prog 197 #[n.v] w (CteP n w):=by
 by_cases hP:PatK n.kind
 .rcases hP with h|h|h|h
  .exact xIy n w hT hs (hg (.inl h)) h
  .exact xIx n w hT hs (hg (.inr (.inl h))) h
  .exact xIw n w hT hs (hg (.inr (.inr (.inl h)))) h
  .exact xIv n w hT hs (hg (.inr (.inr (.inr h)))) h
 .exact yY7 n w hT hs hP
theorem Tryz.cellsX:prog.cellsOf 264=11:=qk
variable {α:Type}
theorem xH1 {cs:List α} (h:cs.length=11):∃c0 c1 c2 c3 c4 c5 c6 c7 c8 c9 c10,cs= [c0,c1,c2,c3,c4,c5,c6,c7,c8,c9,c10]:=by
 match cs,h with
 | [c0,c1,c2,c3,c4,c5,c6,c7,c8,c9,c10],_=>exact⟨c0,c1,c2,c3,c4,c5,c6,c7,c8,c9,c10,rfl⟩
theorem xHz {cs:List α} (h:cs.length=5):∃c0 c1 c2 c3 c4,cs= [c0,c1,c2,c3,c4]:=by
 match cs,h with
 | [c0,c1,c2,c3,c4],_=>exact⟨c0,c1,c2,c3,c4,rfl⟩
variable {fuel:Nat}
theorem yWq {H:Type} {enc:TypeId×Value->H} {spare:Nat->Bool} {held:Bool} {cs:List Value} {x:DataW H×List MemPlace}
  (h:DataW.trod enc prog w base spare held fuel 264 cs=some x):∃e:Ix,e.ok/\cs=e.ten:=by
 obtain⟨xs,n,_,_,hl,a4,hf⟩:=DataW.trod_struct underlying264 h;rw[Tryz.cellsX]at hl;obtain⟨c0,c1,c2,c3,c4,c5,c6,c7,c8,c9,c10,rfl⟩:=xH1 hl;obtain⟨x0,x1,x2,x3,x4,rfl⟩:=xHz (cs:=xs) a4;have h0:=hf 0 _ rfl;have h1:=hf 1 _ rfl;have h2:=hf 2 _ rfl;have h3:=hf 3 _ rfl;have h4:=hf 4 _ rfl;simp[Tryz.cellsStr,Tryz.cellsU64,Tryz.cellsI64,Tryz.cellsBool,Tryz.cellsNd]at h0 h1 h2 h3 h4;obtain⟨a0,e0,_,b0⟩:=DataW.trod_int underlying2 h0;obtain⟨a1,e1,_,b1⟩:=DataW.trod_int underlying2 h1;obtain⟨a2,e2,_,b2⟩:=DataW.trod_int underlying2 h2;obtain⟨a3,e3,_⟩:=DataW.trod_bool underlying4 h3;obtain⟨e,ok,he⟩:=yWh h4;simp only[List.cons.injEq,and_true]at e0 e1 e2 e3 he;obtain⟨f0,f1,f2,f3,f4,f5,f6⟩:=he;exact⟨⟨a0,a1,a2,a3,e⟩,⟨b0,b1,b2,ok⟩,by rw[e0,e1,e2,e3,f0,f1,f2,f3,f4,f5,f6]⟩
def yAy (w:World) (v:Value) (es:List Ix):Prop:=
 (∃a cap,v=.slice a 0 cap/\es= [])∨
 ∃b off cap,v=.slice (some ⟨b,off,none⟩) es.length cap/\yB5 w b off es/\b<w.heap.size/\es.length<=cap/\cap<=maxLen
theorem yAy.below {v:Value} {es:List Ix} (h:yAy w v es) (hb:Below B w w') (hB:w.heap.size<=B):yAy w' v es:=by exact xAq
theorem yTi {H:Type} {enc:TypeId×Value->H} {held:Bool} {v:Value} {x:DataW H×List MemPlace}
  (h:DataW.trod enc prog w base (λ_=>true) held fuel 47 [v]=some x):∃es:List Ix,yAy w v es/\∀e∈es,e.ok:=by
 rcases open_slice underlying47 h with⟨hcs,_⟩|⟨a,len,cap,m,n,D,Pl,hcs,a7,hl,hm,a3,_,a4⟩
 .exact xDt
 .simp only[List.cons.injEq,and_true]at hcs;subst hcs;rw[if_pos rfl]at a3;subst a3;have a1:∀i,i<m->∃cs',w.cells? base (a.add (i*11)) 11=some cs'/\DataW.trod enc prog w base (λ_=>true) held n 264 cs'=some (D i,Pl i):=λi hi=>by have:=a4 i hi;rw[Tryz.cellsX]at this;exact this
  clear a4;have HM:=qH1 hm;clear hm;by_cases h0:len=0
  .subst h0;exact⟨[],.inl ⟨_,_,rfl,rfl⟩,by simp⟩
  .obtain⟨b,off,a2⟩:=a;have a5:a2=none:=by
    obtain⟨cs',hc,_⟩:=a1 0 qo;obtain⟨_,a6,a0⟩:=World.cells?_some hc;have h1:=a0 0 qo;have h2:(w.cell? ((Addr.add ⟨b,off,a2⟩ (0*11)).add 0)).isSome=true:=by rw[h1];simp;omega
    obtain⟨u,hu⟩:=Option.isSome_iff_exists.1 h2;simpa [Addr.add]using World.cell?_spot hu
   subst a5;obtain⟨es,hes,hp⟩:=yC0 (P:=λi (e:Ix)=>e.ok/\(xk w b (off+i*11) (xi e.op)/\xk w b (off+i*11+1) (xi e.a)/\xk w b (off+i*11+2) (xi e.b)/\xk w b (off+i*11+3) e.free/\xk w b (off+i*11+4) (xi e.leaf.kind)/\xk w b (off+i*11+5) e.leaf.s/\xk w b (off+i*11+6) e.leaf.hi/\xk w b (off+i*11+7) e.leaf.t/\xk w b (off+i*11+8) (xu e.leaf.lo)/\xk w b (off+i*11+9) (xu e.leaf.up)/\xk w b (off+i*11+10) (xi e.leaf.n))) len (λi hi=>by
    obtain⟨cs',hc,ht⟩:=a1 i qo
    obtain⟨e,ok,rfl⟩:=yWq ht
    obtain⟨_,a6,a0⟩:=World.cells?_some hc
    refine⟨e,ok,?_,?_,?_,?_,?_,?_,?_,?_,?_,?_,?_⟩
    .simpa [Addr.add_mid]using a0 0 qo
    .simpa [Addr.add_mid]using a0 1 qo
    .simpa [Addr.add_mid]using a0 2 qo
    .simpa [Addr.add_mid]using a0 3 qo
    .simpa [Addr.add_mid]using a0 4 qo
    .simpa [Addr.add_mid]using a0 5 qo
    .simpa [Addr.add_mid]using a0 6 qo
    .simpa [Addr.add_mid]using a0 7 qo
    .simpa [Addr.add_mid]using a0 8 qo
    .simpa [Addr.add_mid]using a0 9 qo
    .simpa [Addr.add_mid]using a0 10 qo)
   have hlt:b<w.heap.size:=by obtain⟨cs',hc,_⟩:=a1 0 qo;simpa [Addr.add]using World.cells?_block hc qo
   exact xD0
theorem yR2 (b off cap:Nat) (es:List Ix) (left:Int) (w:World) (hE:yB5 w b off es) (hok:∀e∈es,e.ok) (hB:b<w.heap.size) (hlen:es.length<=cap) (hcap:cap<=maxLen) (h0:0<=left) (h1:left<=2^40):
  Calls prog 117 #[.slice (some ⟨b,off,none⟩) es.length cap,xi left] w λe w'=>
   ∃x,e=.returned (xi x)/\(x= -1∨(0<=x/\x+es.length<=left))/\Below w w w':=by
 have HE:Hid (yB5 w b off es):=hE;have HO:Hid (∀e∈es,e.ok):=hok;clear hE hok;unfold maxLen at hcap;by_cases hle:left<es.length
 .have a0:left-es.length<0:=qo
  go_enter func117,ntmps117;go_wp2;go_ret;exact⟨_,rfl,.inl rfl,Below.refl _ _⟩
 have a0:0<=left-es.length:=qo
 go_enter func117,ntmps117;go_wp2;go_loopw[1,5] (λl i wr=>∃(k:Nat) (x:Int),k<=es.length/\i=(xi k)/\l=(xi x)/\0<=x/\x+es.length<=left/\Below w w wr) (λ_ i _=>es.length-(intOf i).toNat);case atStart=>exact⟨0,_,zero_le _,rfl,rfl,a0,qo,Below.refl _ _⟩
 case round=>
  obtain⟨k,x,hk,rfl,rfl,a3,a2,hb⟩:=hrel;by_cases hlt:k<es.length
  .obtain⟨e,he⟩:∃e,es[k]?=some e:=qg hlt;obtain⟨c0,c1,c2,c3,c4,c5,c6,c7,c8,c9,c10⟩:=(HE.below hb hB) k e he;have ok:=HO.out e (mem_of_getElem? he);have HK:Hid e.ok:=ok;clear ok he;go_wp2_with fail;refine(yVv e _ _ HK.out qo qo).mono ?_;rintro e w1 ⟨y,rfl,hy,a1⟩;have a4:=hb.size;have hb2:=hb.trans (a1.mono a4);clear c0 c1 c2 c3 c4 c5 c6 c7 c8 c9 c10 a1;exact xGj
  .go_wp2;go_ret;exact⟨_,rfl,.inr ⟨a3,a2⟩,hb⟩
theorem yR1 (a:Option Addr) (cap:Nat) (left:Int) (w:World) (h0:0<=left) (h1:left<=2^40):
  (xf 117 #[.slice a 0 cap,xi left] w (xi left):Prop):=by
 go_enter func117,ntmps117;exact xD5
theorem yVw (v:Value) (es:List Ix) (left:Int) (w:World) (h:yAy w v es) (hok:∀e∈es,e.ok) (h0:0<=left) (h1:left<=2^40):
  Calls prog 117 #[v,xi left] w λe w'=>
   ∃x,e=.returned (xi x)/\(x= -1∨(0<=x/\x+es.length<=left))/\Below w w w':=by
 rcases h with⟨a,cap,rfl,rfl⟩|⟨b,off,cap,rfl,hE,a0,g1,g2⟩
 .exact(yR1 a cap left w h0 h1).mono λe w' ⟨he,hb⟩=>⟨left,he,.inr ⟨h0,by simp⟩,hb⟩
 .exact yR2 b off cap es left w hE hok a0 g1 g2 h0 h1
theorem yMc (n:Nat):(madeCells #[xi 0,xi 0,xi 0,false,xi 0,xe,false,xe,xu 0,xu 0,xi 0] (n*11)).toList=cellsX (List.replicate n yXn):=by
 apply ext_getElem?;intro j;by_cases hj:j<n*11
 .have h:=yMu (List.replicate n yXn) (j/11) yXn (by rw[getElem?_replicate,if_pos (by omega)]) (j%11) (mod_lt _ (by omega));rw[show j/11*11+j%11=j by omega]at h;rw[h];have h6:j%11<11:=mod_lt _ qo;simp[madeCells,hj];generalize j%11=m at*;match m,h6 with
  |0,_=>rfl
  |1,_=>rfl
  |2,_=>rfl
  |3,_=>rfl
  |4,_=>rfl
  |5,_=>rfl
  |6,_=>rfl
  |7,_=>rfl
  |8,_=>rfl
  |9,_=>rfl
  |10,_=>rfl
 .have h1:(cellsX (List.replicate n yXn)).length<=j:=by rw[yN8,length_replicate];omega
  rw[getElem?_eq_none h1];simp[madeCells,hj]
theorem yRy (b off cap:Nat) (es:List Ix) (w:World) (hE:yB5 w b off es) (hB:b<w.heap.size) (hlen:es.length<=cap) (hcap:cap<=maxLen) (h1:es.length<=1048576):
  Calls prog 124 #[.slice (some ⟨b,off,none⟩) es.length cap] w λe w'=>
   ∃g,e=.returned (xg g es.length es.length)/\OwnX w' w g es.length es/\Below w w w':=by
 have HE:=qH1 hE;clear hE;unfold maxLen at hcap;obtain⟨i,hi,a3,a2,a1⟩:=info_parts Tryz.infoX;have HI:=qH4 hi a3 a2 a1;clear hi a3 a2 a1;go_enter func124,ntmps124;go_wp2_with (at_make;refine wpList_make_full _ rfl _ _ 30 rfl w 153 i _ 11 underlying30 HI.1 HI.2.1 HI.2.2.1 _ _ _ _ es.length rfl rfl ?_ ?_ ?hb ?hm ?hs ?_);case hb=>rw[HI.2.2.2];omega
 case hm=>unfold maxLen;omega
 case hs=>exact Nat.le_refl _
 .rfl
 .rfl
 intro w1 a0 a5;rw[yMc]at a0;have a4:OwnX w1 w w es.length (List.replicate es.length yXn):=by unfold OwnX;rw[length_replicate];exact a0
 have HW:=qH1 a4;have a9:=(Below.refl _ _).grown a5 qr (λk hk=>by cases hk);clear a0 a4 a5;go_wp2;go_loopw[4] (λi wr=>∃(k:Nat) (fs:List Ix),k<=es.length/\i=(xi k)/\fs.length=es.length/\fs.take k=es.take k/\OwnX wr w w es.length fs/\Below w w wr) (λi _=>es.length-(intOf i).toNat);case atStart=>exact⟨0,_,zero_le _,rfl,length_replicate ..,rfl,HW.out,a9⟩
 case round=>
  obtain⟨k,fs,hk,rfl,a7,a6,hO,hb⟩:=hrel;have HO:=qH3 a7 a6 hO;clear a7 a6 hO;by_cases hlt:k<es.length
  .obtain⟨e,he⟩:∃e,es[k]?=some e:=qg hlt;obtain⟨c0,c1,c2,c3,c4,c5,c6,c7,c8,c9,c10⟩:=(HE.below hb hB) k e he;have HG:=qH1 he;clear he;go_wp2_with fail;refine(yVs e _).mono ?_;rintro e' w2 ⟨rfl,hb2⟩;have hO2:=(HO.2.2).below hb2 (HO.2.2).lt.2;obtain⟨f,hf⟩:∃f,fs[k]?=some f:=qg (by rw[HO.1];exact hlt);obtain⟨d0,d1,d2,d3,d4,d5,d6,d7,d8,d9,aa⟩:=hO2.at k f hf;simp only[Nat.zero_add]at d0 d1 d2 d3 d4 d5 d6 d7 d8 d9 aa;have ab:=λj=>World.ownsRow.frozenAt hO2 j;have a8:=qH2 hO2 hf;clear hO2 hf c0 c1 c2 c3 c4 c5 c6 c7 c8 c9 c10;refine zY ?_;exact⟨k+1,fs.set k e,qo,by go_num,by rw[length_set];exact HO.1,yVu HO.2.1 HO.1 HG.out,a8.1.put k f e a8.2,yKu (hb.trans (hb2.mono hb.size)) qr _ _ _ _ _ _ _ _ _ _ _ _ _ _ _ _ _ _ _ _ _ _⟩
  .exact xGd
theorem yRx (a:Option Addr) (cap:Nat) (w:World):
  Calls prog 124 #[.slice a 0 cap] w λe w'=>
   ∃g,e=.returned (xg g 0 0)/\OwnX w' w g 0 []/\Below w w w':=by
 obtain⟨i,hi,a2,a1,a0⟩:=info_parts Tryz.infoX;have HI:=qH4 hi a2 a1 a0;clear hi a2 a1 a0;go_enter func124,ntmps124;go_wp2_with (at_make;refine wpList_make_full _ rfl _ _ 30 rfl w 153 i _ 11 underlying30 HI.1 HI.2.1 HI.2.2.1 _ _ _ _ 0 rfl rfl ?_ ?_ ?hb ?hm ?hs ?_);case hb=>rw[HI.2.2.2];omega
 case hm=>unfold maxLen;omega
 case hs=>exact Nat.le_refl _
 .rfl
 .rfl
 intro w1 hown hgrow;have HW:Hid (OwnX w1 w w 0 []):=by have h0:=yMc 0;rw[Nat.zero_mul]at h0;rw[h0]at hown;exact hown
 exact xGn
theorem yVt (v:Value) (es:List Ix) (w:World) (h:yAy w v es) (h1:es.length<=1048576):
  Calls prog 124 #[v] w λe w'=>
   ∃g,e=.returned (xg g es.length es.length)/\OwnX w' w g es.length es/\Below w w w':=by
 rcases h with⟨a,cap,rfl,rfl⟩|⟨b,off,cap,rfl,hE,a0,g1,g2⟩
 .exact yRx a cap w
 .exact yRy b off cap es w hE a0 g1 g2 h1
theorem yTo (b off cap b' off' cap':Nat) (es:List Ix) (w:World) (hE:yB5 w b off es) (hE':yB5 w b' off' es) (hB:b<w.heap.size) (hB':b'<w.heap.size) (hlen:es.length<=maxLen):
  Calls prog 125 #[.slice (some ⟨b,off,none⟩) es.length cap,.slice (some ⟨b',off',none⟩) es.length cap'] w λe w'=>
   e=.returned true/\Below w w w':=by
 have HE:=qH2 hE hE';clear hE hE';unfold maxLen at hlen;go_enter func125,ntmps125;go_wp2;go_loopw[5] (λi wr=>∃(k:Nat),k<=es.length/\i=(xi k)/\Below w w wr) (λi _=>es.length-(intOf i).toNat);case atStart=>exact⟨0,zero_le _,rfl,Below.refl _ _⟩
 case round=>
  obtain⟨k,hk,rfl,hb⟩:=hrel;have a2:=hb.size;by_cases hlt:k<es.length
  .obtain⟨e,he⟩:∃e,es[k]?=some e:=qg hlt;obtain⟨c0,c1,c2,c3,c4,c5,c6,c7,c8,c9,c10⟩:=HE.1.below hb hB k e he;obtain⟨d0,d1,d2,d3,d4,d5,d6,d7,d8,d9,a1⟩:=HE.2.below hb hB' k e he;clear he;go_upto_region 6 with fail;go_cut[26] (λs wx=>s=false/\Below w w wx);case first=>
    have z2:(k:Int)<(es.length:Int):=qo
    go_region_with (go_at_call 174;refine(yWv e _).mono ?_;rintro e' w' ⟨rfl,a0⟩);all_goals go_wp2_with fail
    all_goals go_meet
    all_goals exact⟨rfl,hb.drew.trans (a0.mono (by simp;omega))⟩
   case rest=>
   obtain⟨rfl,h3⟩:=hcut;clear c0 c1 c2 c3 c4 c5 c6 c7 c8 c9 c10 d0 d1 d2 d3 d4 d5 d6 d7 d8 d9 a1;exact xDx
  .go_wp2;go_ret;exact⟨rfl,hb⟩
theorem yGd (a a':Option Addr) (cap cap':Nat) (w:World):
  (xf 125 #[.slice a 0 cap,.slice a' 0 cap'] w true:Prop):=by
 go_enter func125,ntmps125;exact xD2
variable {n cap:Nat}
theorem yAy.own {g:Nat} {es:List Ix} (h:OwnX w base g cap es) (hn:n=es.length):yAy w (xg g n cap) es:=by subst hn;exact .inr ⟨g,0,cap,rfl,h.at,h.lt.2,h.caps.1,h.caps.2⟩
theorem yWw (u u':Value) es (w:World) (h:yAy w u es) (h':yAy w u' es):
  (xf 125 #[u,u'] w true:Prop):=by
 rcases h with⟨a,cap,rfl,rfl⟩|⟨b,off,cap,rfl,hE,a4,g1,g2⟩
 .rcases h' with⟨a',a0,rfl,_⟩|⟨b',a1,a0,rfl,a3,a2,a6,a5⟩
  .exact yGd a a' cap a0 w
  .exact yGd a _ cap a0 w
 .rcases h' with⟨a',a0,rfl,rfl⟩|⟨b',a1,a0,rfl,a3,a2,a6,a5⟩
  .exact yGd _ a' cap a0 w
  .exact yTo b off cap b' a1 a0 es w hE a3 a4 a2 (Nat.le_trans g1 g2)
def cntK (k:Int):Prop:=k=11∨k=12∨k=13
def NoNd (e:Nd):Prop:=e.kind=0/\e.s.toList= []/\e.hi=false/\e.t.toList= []/\e.lo=0/\e.up=0/\e.n=0
def yIi (x:Ix):Prop:=x.free=false/\NoNd x.leaf
def yCy (x:Ix) (k n cnt conds:Int):Prop:=
 (x.op=1/\yFk [x.leaf]/\x.b=0/\((cntK x.leaf.kind/\0<=x.a/\x.a<cnt)∨(¬cntK x.leaf.kind/\x.a=0)))∨
 (x.op=5/\yIi x/\0<=x.a/\x.a<conds/\k<x.b/\x.b<=n)∨
 (x.op=6/\yIi x/\x.a=0/\k<x.b/\x.b<=n)∨
 ((x.op=2∨x.op=3∨x.op=4)/\yIi x/\x.a=0/\x.b=0)
def more (op:Int):Int:=if op=2 then 1 else if op=4 then-1 else 0
def least (op:Int):Int:=if op=3∨op=4 then 2 else 1
def ways (k:Nat) (x:Ix):List Nat:=if x.op=5 then [k+1,x.b.toNat]else if x.op=6 then [x.b.toNat]else [k+1]
def note (ds:List Int) (j:Nat) (d:Int):Option (List Int):=
 match ds[j]? with
 |some e=>if e=0∨e=d then some (ds.set j d)else none
 |none=>none
def yB1 (d:Int):List Nat->List Int->Option (List Int)
 | [],ds=>some ds
 |j::js,ds=>(note ds j d).bind (yB1 d js)
def yC2 (ds:List Int) (k:Nat) (x:Ix):Option (List Int):=
 match ds[k]? with
 |some e=>if e<least x.op∨250<e+more x.op then none else yB1 (e+more x.op) (ways k x) ds
 |none=>none
def yC6 (xs:List Ix):Nat->Option (List Int)
 |0=>some (1::List.replicate xs.length 0)
 |k+1=>(yC6 xs k).bind λds=>(xs[k]?).bind λx=>yC2 ds k x
def yBe (l:List Ix) (cnt:Int) (conds:Nat):Prop:=
 1<=l.length/\l.length<=4000/\0<=cnt/\cnt<=200/\(∀(k:Nat) (x:Ix),l[k]?=some x->yCy x k l.length cnt conds)/\∃ds,yC6 l l.length=some ds/\ds[l.length]?=some 1
variable {xs:List Ix} {ds:List Int} {x:Ix}
theorem yD3 (h:yC6 xs k=some ds) (hx:xs[k]?=some x):yC6 xs (k+1)=yC2 ds k x:=by simp[yC6,h,hx]
theorem yQt {m:Nat} (h:yC6 xs k=none) (hkm:k<=m):yC6 xs m=none:=by
 induction m with
 |zero=>have:k=0:=qo
        subst this;exact h
 |succ m ih=>
  by_cases e:k=m+1
  .subst e;exact h
  .simp[yC6,ih qo]
structure yIj (n:Nat) (ds:List Int):Prop where
 len:ds.length=n+1
 ran:∀d∈ds,0<=d/\d<=250
theorem xI2 (xs:List Ix):yIj xs.length (1::List.replicate xs.length 0):=
 ⟨by simp,λd hd=>by
  rcases mem_cons.1 hd with rfl|hd
  .omega
  .have:=(List.mem_replicate.1 hd).2;omega⟩
variable {j:Nat} {d:Int}
theorem xE5 {ds':List Int} (h:yIj n ds) (hd:0<=d/\d<=250) (hn:note ds j d=some ds'):yIj n ds'/\ds'=ds.set j d/\j<=n:=by
 unfold note at hn;cases hj:ds[j]? with
 |none=>rw[hj]at hn;cases hn
 |some e=>
  rw[hj]at hn;have hl:=qf hj;simp only at hn;split at hn
  .obtain rfl:=Option.some.inj hn;refine⟨⟨by rw[length_set];exact h.len,λx hx=>?_⟩,rfl,qw h.len⟩;rcases mem_or_eq_of_mem_set hx with q|q
   .exact h.ran x q
   .rw[q];exact hd
  .cases hn
theorem yJp {e:Int} (hj:ds[j]?=some e) (h:e=0∨e=d):note ds j d=some (ds.set j d):=by unfold note;rw[hj];simp[h]
theorem yNx {e:Int} (hj:ds[j]?=some e) (h:¬(e=0∨e=d)):note ds j d=none:=by unfold note;rw[hj];simp[h]
theorem yNw (hd:0<=d/\d<=250):∀(js:List Nat) {ds ds':List Int},yIj n ds->yB1 d js ds=some ds'->yIj n ds'
 | [],_,_,h,hn=>by obtain rfl:=Option.some.inj hn;exact h
 |j::js,ds,ds',h,hn=>by
  simp only[yB1,Option.bind_eq_some_iff]at hn
  obtain⟨d1,h1,h2⟩:=hn
  exact yNw hd js (xE5 h hd h1).1 h2
theorem xEe {ds':List Int} (h:yIj n ds) (hs:yC2 ds k x=some ds'):yIj n ds':=by
 unfold yC2 at hs;cases hj:ds[k]? with
 |none=>rw[hj]at hs;cases hs
 |some e=>
  rw[hj]at hs;simp only at hs;split at hs
  .cases hs
  .rename_i hc;have h1:=h.ran e (mem_of_getElem? hj);refine yNw ⟨?_,qo⟩ _ h hs;unfold least more at hc;unfold more;split at hc<;>split at hc<;>simp_all<;>omega
theorem yHn (h:yC6 xs k=some ds):yIj xs.length ds:=by
 induction k generalizing ds with
 |zero=>obtain rfl:=Option.some.inj h;exact xI2 xs
 |succ k ih=>
  simp only[yC6,Option.bind_eq_some_iff]at h;obtain⟨d1,h1,x,hx,h2⟩:=h;exact xEe (ih h1) h2
theorem yC3 {l:List Ix} {cnt:Int} {conds:Nat} (h:yBe l cnt conds) (hx:l[k]?=some x):yCy x k l.length cnt conds:=h.2.2.2.2.1 k x hx
theorem yHm {l:List Ix} {cnt:Int} {conds:Nat} (h:yBe l cnt conds) (hk:k<=l.length):yC6 l k≠none:=by intro q;obtain⟨ds,h1,_⟩:=h.2.2.2.2.2;rw[yQt q hk]at h1;cases h1
structure Hn where
 rank:Int
 txt:ByteArray
structure It where
 alive:Bool
 strip:Bool
 hint:Hn
structure Ctr where
 used:Bool
 row:ByteArray
 fam:ByteArray
 qual:ByteArray
 count:Int
def noH:Hn:=⟨0,⟨#[]⟩⟩
def newI:It:=⟨true,false,noH⟩
def yBl (h:Hn):It:=⟨false,false,h⟩
def newC:Ctr:=⟨false,⟨#[]⟩,⟨#[]⟩,⟨#[]⟩,0⟩
def eqB (a b:ByteArray):Bool:=a.toList==b.toList
def famB (c x:Ent):Bool:=eqB x.row c.row && eqB x.fam c.fam
def yAz (h:Hn) (c x:Ent):Bool:=
 if h.rank=1 then famB c x && eqB x.qual c.qual else if h.rank=2 then famB c x && lsB x.qual h.txt else if h.rank=3 then famB c x
 else if h.rank=4 then eqB x.row c.row else if h.rank=5 then lsB x.row h.txt else decide (h.rank=6)
def yN7 (a b:Hn):Hn:=if b.rank<a.rank∨(b.rank=a.rank/\lsB b.txt a.txt=true)then b else a
def yCm (x p:ByteArray):Bool:=decide (p.size<=x.size) && ((x.extract 0 p.size).toList==p.toList)
def yB4 (p:ByteArray) (n:Nd) (c:Ent):Hn:=
 if n.kind=2 then⟨6,⟨#[]⟩⟩
 else if n.kind=4 then(if lsB c.row p=true then⟨5,p⟩else if yCm c.row p=true then⟨4,⟨#[]⟩⟩else⟨6,⟨#[]⟩⟩)
 else if n.kind=5 then⟨3,⟨#[]⟩⟩
 else if n.kind=6 then(if lsB c.qual p=true then⟨2,p⟩else if yCm c.qual p=true then⟨1,⟨#[]⟩⟩else⟨3,⟨#[]⟩⟩)
 else if n.kind=8 then(if lsB c.row n.s=true then⟨5,n.s⟩else⟨6,⟨#[]⟩⟩)
 else if n.kind=9 then(if lsB c.qual n.s=true then⟨2,n.s⟩else⟨3,⟨#[]⟩⟩)
 else if n.kind=10 then(if c.ts<n.lo then⟨1,⟨#[]⟩⟩else noH)
 else if n.kind=11 then⟨1,⟨#[]⟩⟩
 else if n.kind=12 then⟨4,⟨#[]⟩⟩
 else noH
def yPj (n:Nd) (k:Ctr) (c:Ent):Bool:=k.used && eqB k.row c.row && (!decide (n.kind=11) || (eqB k.fam c.fam && eqB k.qual c.qual))
def yC4 (n:Nd) (k:Ctr) (c:Ent):Ctr:=if yPj n k c=true then k else⟨true,c.row,c.fam,c.qual,0⟩
def yCh (n:Nd) (k:Ctr) (c:Ent):Bool×Ctr:=
 if(yC4 n k c).count<n.n then(decide (¬n.kind=13),{yC4 n k c with count:=(yC4 n k c).count+1})else(decide (n.kind=13),yC4 n k c)
def yB (i:It) (c:Ent):Ent:=if i.strip=true then {c with val:=⟨#[]⟩}else c
noncomputable def leafI (P:ByteArray->ByteArray) (x:Ix) (c:Ent) (i:It) (cs:List Ctr):It×List Ctr:=
 if i.alive=true then
  (let s:It:=⟨true,i.strip || decide (x.leaf.kind=3),i.hint⟩
   let d:It:=yBl (if x.free=true then yB4 (P x.leaf.s) x.leaf c else noH)
   match (if x.leaf.kind=11∨x.leaf.kind=12∨x.leaf.kind=13 then cs[x.a.toNat]? else none)with
   |some k=>(if(yCh x.leaf k c).1=true then s else d,cs.set x.a.toNat (yCh x.leaf k c).2)
   |none=>(if tstB x.leaf (yB i c)=true then s else d,cs))
 else(i,cs)
def yTh (l r:It):It:=if l.alive=true then l else if r.alive=true then r else yBl (yN7 l.hint r.hint)
structure Lk where
 at_:Nat
 st:List It
 cs:List Ctr
noncomputable def stepL (P:ByteArray->ByteArray) (c:Ent) (conds:List Bool) (x:Ix) (s:Lk):Lk:=
 if x.op=1 then(match s.st with
  |i::r=>⟨s.at_+1,(leafI P x c i s.cs).1::r,(leafI P x c i s.cs).2⟩
  | []=>⟨s.at_+1,[],s.cs⟩)
 else if x.op=2 then(match s.st with
  |i::r=>⟨s.at_+1,i::i::r,s.cs⟩
  | []=>⟨s.at_+1,[],s.cs⟩)
 else if x.op=3 then(match s.st with
  |i::j::r=>⟨s.at_+1,j::i::r,s.cs⟩
  |r=>⟨s.at_+1,r,s.cs⟩)
 else if x.op=4 then(match s.st with
  |i::j::r=>⟨s.at_+1,yTh j i::r,s.cs⟩
  |r=>⟨s.at_+1,r,s.cs⟩)
 else if x.op=5 then(if conds[x.a.toNat]?=some false then⟨x.b.toNat,s.st,s.cs⟩else⟨s.at_+1,s.st,s.cs⟩)
 else if x.op=6 then⟨x.b.toNat,s.st,s.cs⟩
 else⟨s.at_+1,s.st,s.cs⟩
inductive LkR (P:ByteArray->ByteArray) (l:List Ix) (c:Ent) (conds:List Bool):Lk->It×List Ctr->Prop
 |fin {s:Lk} {i:It} (h:¬s.at_<l.length) (hs:s.st= [i]):LkR P l c conds s (i,s.cs)
 |step {s:Lk} {x:Ix} {r:It×List Ctr} (hx:l[s.at_]?=some x) (h:LkR P l c conds (stepL P c conds x s) r):LkR P l c conds s r
theorem LkR.one {P:ByteArray->ByteArray} {l:List Ix} {c:Ent} {conds:List Bool} {s:Lk} {r r':It×List Ctr} (h:LkR P l c conds s r) (k:LkR P l c conds s r'):r=r':=by
 induction h with
 |fin h hs=>cases k with
  |fin _ ks=>rw[hs]at ks;cases ks;rfl
  |step hx _=>exact absurd (qf hx) h
 |step hx _ ih=>cases k with
  |fin h _=>exact absurd (qf hx) h
  |step hx' k=>rw[hx]at hx';cases hx';exact ih k
structure yUc (l:List Ix) (d:Nat->Nat):Prop where
 start:d 0=1
 last:d l.length=1
 step:∀(k:Nat) (x:Ix),l[k]?=some x->1<=d k->(least x.op:Int)<=d k/\(d k:Int)+more x.op<=250/\∀j∈ways k x,((d j:Nat):Int)=d k+more x.op/\k<j/\j<=l.length
theorem yZe (P:ByteArray->ByteArray) x c i (cs:List Ctr):(leafI P x c i cs).2.length=cs.length:=by
 unfold leafI;split
 .dsimp only;split<;>simp
 .rfl
abbrev Hn.v (h:Hn):Value:=.agg #[xi h.rank,h.txt]
theorem up2 (w:World) (a b:Obj):Below w w ((w.alloc a).alloc b):=(qB).alloc (by simp) _
theorem up3 (w:World) (a b c:Obj):Below w w (((w.alloc a).alloc b).alloc c):=(up2 w a b).alloc (by simp;omega) _
theorem ySy (a b:Hn) (w:World):(xf 123 #[a.v,b.v] w (yN7 a b).v:Prop):=by
 obtain⟨ar,at_⟩:=a;obtain⟨br,bt⟩:=b;unfold yN7 lsB;by_cases h1:br<ar
 .rw[if_pos (.inl h1)];exact xGp
 .by_cases h2:br=ar
  .subst h2;cases h3:Op.bytesLess bt.toList at_.toList
   .rw[if_neg (by simp)];go_enter func123,ntmps123;go_wp2;refine bodyPost_ret (v:=.agg #[xi br,at_]) (by simp[results,results123,go_sem]) rfl ⟨rfl,?_⟩;repeat (first|exact Below.refl _ _|refine Below.alloc ?_ (by first|(simp;done)|(simp;omega)) _|refine yAc ?_ (by first|(simp;done)|(simp;omega)) _ _)
   .rw[if_pos (.inr ⟨rfl,rfl⟩)];exact xGp
  .have z2:(br==ar)=false:=by rw[beq_eq_false_iff_ne];exact h2
   rw[if_neg (λq=>q.elim h1 (λz=>h2 z.1))];go_enter func123,ntmps123;go_wp2;refine bodyPost_ret (v:=.agg #[xi ar,at_]) (by simp[results,results123,go_sem]) rfl ⟨rfl,?_⟩;repeat (first|exact Below.refl _ _|refine Below.alloc ?_ (by first|(simp;done)|(simp;omega)) _|refine yAc ?_ (by first|(simp;done)|(simp;omega)) _ _)
theorem yV0 (h:Hn) (c x:Ent) (w:World):(xf 60 #[h.v,c.c,x.c] w (yAz h c x):Prop):=by
 obtain⟨rk,tx⟩:=h;unfold yAz famB eqB lsB;obtain⟨e1,h1⟩:∃b,(x.row.toList==c.row.toList)=b:=⟨_,rfl⟩;obtain⟨e2,h2⟩:∃b,(x.fam.toList==c.fam.toList)=b:=⟨_,rfl⟩;obtain⟨e3,h3⟩:∃b,(x.qual.toList==c.qual.toList)=b:=⟨_,rfl⟩;obtain⟨e4,h4⟩:∃b,Op.bytesLess x.qual.toList tx.toList=b:=⟨_,rfl⟩;obtain⟨e5,h5⟩:∃b,Op.bytesLess x.row.toList tx.toList=b:=⟨_,rfl⟩;rw[h1,h2,h3,h4,h5];by_cases k1:rk=1
 .subst k1;cases e1<;>cases e2<;>cases e3
  all_goals
   go_enter func60,ntmps60
   go_wp2_with fail
   go_ret
   exact⟨by simp,up3 w _ _ _⟩
 by_cases k2:rk=2
 .subst k2;cases e1<;>cases e2<;>cases e4
  all_goals
   go_enter func60,ntmps60
   go_wp2_with fail
   go_ret
   exact⟨by simp,up3 w _ _ _⟩
 by_cases k3:rk=3
 .subst k3;exact xAo
 by_cases k4:rk=4
 .subst k4;exact xAo
 by_cases k5:rk=5
 .subst k5;cases e1<;>cases e2<;>cases e5
  all_goals
   go_enter func60,ntmps60
   go_wp2_with fail
   go_ret
   exact⟨by simp,up3 w _ _ _⟩
 by_cases k6:rk=6
 .subst k6;exact xAo
 have z1:=qn k1
 have z2:=qn k2
 have z3:=qn k3
 have z4:=qn k4
 have z5:=qn k5
 have z6:=qn k6
 simp only[k1,k2,k3,k4,k5,k6,if_false,decide_false];exact xAo
theorem yO4 (i:It) (c:Ent) (w:World):(xf 59 #[.agg #[i.alive,i.strip,xi i.hint.rank,i.hint.txt],c.c] w (yB i c).c:Prop):=by
 unfold yB;cases h:i.strip
 .rw[if_neg (by simp)];go_enter func59,ntmps59;go_wp2;refine bodyPost_ret (v:=c.c) (by simp[results,results59,go_sem]) rfl ⟨rfl,?_⟩;repeat (first|exact Below.refl _ _|refine Below.alloc ?_ (by first|(simp;done)|(simp;omega)) _|refine yAc ?_ (by first|(simp;done)|(simp;omega)) _ _)
 .rw[if_pos rfl];go_enter func59,ntmps59;go_wp2;refine bodyPost_ret (v:=.agg #[c.row,c.fam,c.qual,xu c.ts,xe]) (by simp[results,results59,go_sem]) rfl ⟨rfl,?_⟩;repeat (first|exact Below.refl _ _|refine Below.alloc ?_ (by first|(simp;done)|(simp;omega)) _|refine yAc ?_ (by first|(simp;done)|(simp;omega)) _ _)
abbrev Ctr.five (k:Ctr):List Value:= [.bool k.used,.string k.row,.string k.fam,.string k.qual,.int .i64 k.count]
abbrev Ctr.v (k:Ctr):Value:=.agg #[k.used,k.row,k.fam,k.qual,xi k.count]
abbrev It.four (i:It):List Value:= [.bool i.alive,.bool i.strip,.int .i64 i.hint.rank,.string i.hint.txt]
abbrev It.v (i:It):Value:=.agg #[i.alive,i.strip,xi i.hint.rank,i.hint.txt]
theorem yGe (k:Ctr):k.five.length=5:=rfl
theorem yAd (i:It):i.four.length=4:=rfl
theorem xFk (k:Ctr):∀u∈k.five,u.oneCell'=true:=λu hu=>by simp at hu;rcases hu with rfl|rfl|rfl|rfl|rfl<;>rfl
theorem yG2 (i:It):∀u∈i.four,u.oneCell'=true:=λu hu=>by simp at hu;rcases hu with rfl|rfl|rfl|rfl<;>rfl
theorem Tryz.infoCtr:(prog.info? 198).map (λi=>(i.zero,i.size,i.bytes))=some (some newC.v,5,64):=qk
theorem Tryz.infoItm:(prog.info? 115).map (λi=>(i.zero,i.size,i.bytes))=some (some (yBl noH).v,4,32):=qk
abbrev yF0 (w:World) (base g cap:Nat) (es:List Ctr):Prop:=OwnG Ctr.five 5 198 w base g cap es
abbrev xId (w:World) (base g cap:Nat) (es:List It):Prop:=OwnG It.four 4 115 w base g cap es
theorem yMm (m:Nat) (w:World) (hm:m<=1000):Calls prog 57 #[xi m] w λe w'=>∃g cp,e=.returned (xg g m cp)/\yF0 w' w g cp (List.replicate m newC)/\Below w w w':=by
 obtain⟨W1,a3⟩:=qW (xw w #[] 198);have HS:Hid (yF0 W1 w w 0 (List.replicate 0 newC)/\Below w w W1):=by rw[a3];exact⟨yU1 w qr,qB⟩
 go_enter func57,ntmps57;go_upto_region 2 with fail;rw[<-a3];clear a3;go_wp2;go_loopw[3,4] (λov iv wr=>∃(i g cp:Nat),i<=m/\iv=(xi i)/\ov=(xg g i cp)/\Hid (yF0 wr w g cp (List.replicate i newC)/\Below w w wr)) (λ_ iv _=>m-(intOf iv).toNat);case atStart=>exact⟨0,_,0,zero_le _,rfl,rfl,HS.out⟩
 case round=>
  clear HS;obtain⟨i,g,cp,hi,rfl,rfl,HJ⟩:=hrel;have a7:=HJ.1.lt;have sr:=HJ.2.size;by_cases hlt:i<m
  .have z:(i:Int)<(m:Int):=qo
   obtain⟨W2,a0⟩:=qW (xw wr #[false,xe,xe,xe,xi 0] 198);have hb2:=qN a0
   have a1:=qH4 (HJ.1.below hb2) (HJ.2.trans (hb2.mono sr)) (by rw[a0];exact yBm wr newC.five 198:(∀j u,newC.five[j]?=some u->(xk W2 wr j u:Prop))) (by simp:i=(List.replicate i newC).length);have s2:=hb2.size;clear hb2;go_wp2_with (at_builtin;(try rw[<-a0]);refine yDb yGe _ rfl _ _ 110 rfl underlying110 Tryz.infoCtr rfl qj qj xFk w g cp i wr 1 (List.replicate i newC) newC rfl rfl a1.2.2.2 a1.1 a1.2.2.1 ?hl ?hb ?_);case hl=>rw[length_replicate];omega
   case hb=>omega
   intro g' a6 w' a5 a2 a8;have a4:W2.grownBy w' (some g):=by first|exact a2|(rw[a0];exact a2)
   have HR:=qH2 (by rw[replicate_succ'];exact a5:yF0 w' w g' a6 (List.replicate (i+1) newC)) (a1.2.1.grown a4 qo (λj hj=>by cases hj;exact a7.1));clear a5 a2 a4 a8 a0;refine zY ?_;exact⟨i+1,g',a6,qo,by go_num,rfl,HR.out⟩
  .have z:¬(i:Int)<(m:Int):=qo
   obtain rfl:i=m:=qo
   go_wp2;go_ret;exact⟨g,cp,rfl,HJ.out⟩
theorem zSk {p:Prop} (h:p:=by go_enter func160,ntmps160;go_wp2;go_ret;exact⟨by simp,up3 w _ _ _⟩):p:=h
theorem zBl {p:Prop} (h:p:=by repeat (first|exact Below.refl _ _|refine Below.alloc ?_ (by first|(simp;done)|(simp;omega)) _|refine yAc ?_ (by first|(simp;done)|(simp;omega)) _ _)):p:=h
theorem ySb (h:Hn) (c x:Ent) (w:World):(xf 160 #[h.v,c.c,x.c] w (yAz h c x):Prop):=by
 obtain⟨rk,tx⟩:=h;unfold yAz famB eqB lsB;obtain⟨e1,h1⟩:∃b,(x.row.toList==c.row.toList)=b:=⟨_,rfl⟩;obtain⟨e2,h2⟩:∃b,(x.fam.toList==c.fam.toList)=b:=⟨_,rfl⟩;obtain⟨e3,h3⟩:∃b,(x.qual.toList==c.qual.toList)=b:=⟨_,rfl⟩;obtain⟨e4,h4⟩:∃b,Op.bytesLess x.qual.toList tx.toList=b:=⟨_,rfl⟩;obtain⟨e5,h5⟩:∃b,Op.bytesLess x.row.toList tx.toList=b:=⟨_,rfl⟩;rw[h1,h2,h3,h4,h5];by_cases k1:rk=1
 .subst k1;cases e1<;>cases e2<;>cases e3<;>exact zSk
 by_cases k2:rk=2
 .subst k2;cases e1<;>cases e2<;>cases e4<;>exact zSk
 by_cases k3:rk=3
 .subst k3;cases e1<;>cases e2<;>exact zSk
 by_cases k4:rk=4
 .subst k4;cases e1<;>cases e2<;>exact zSk
 by_cases k5:rk=5
 .subst k5;cases e1<;>cases e2<;>cases e5<;>exact zSk
 by_cases k6:rk=6
 .subst k6;cases e1<;>cases e2<;>exact zSk
 have z1:=qn k1
 have z2:=qn k2
 have z3:=qn k3
 have z4:=qn k4
 have z5:=qn k5
 have z6:=qn k6
 simp only[k1,k2,k3,k4,k5,k6,if_false,decide_false];cases e1<;>cases e2<;>exact zSk
theorem yZb {a b:ByteArray} (h1:Op.bytesLess a.toList b.toList=false) (h2:Op.bytesLess b.toList a.toList=false):a=b:=by
 by_cases h3:(a.toList==b.toList)=true
 .have h4:=eq_of_beq h3;rw[ByteArray.toList_eq,ByteArray.toList_eq]at h4;cases a;cases b
  congr;exact Array.toList_inj.1 h4
 .have h5:=yOs h1 (by simpa using h3);have h6:=yOs (a:=b) (b:=a) h2 (by
   have:¬(b.toList==a.toList)=true:=λq=>h3 (by rw[beq_iff_eq]at q⊢;exact q.symm)
   simpa using this)
  have h7:=yZ6 a b;omega
theorem yZa (a b:Hn):(if a.rank<b.rank∨(a.rank=b.rank/\lsB a.txt b.txt=true)then a else b)=yN7 a b:=by
 obtain⟨ar,at_⟩:=a;obtain⟨br,bt⟩:=b;unfold yN7 lsB;simp only;by_cases h1:ar<br
 .rw[if_pos (.inl h1),if_neg qo]
 .by_cases h2:br<ar
  .rw[if_neg (λq=>q.elim (λz=>qo) (λz=>qo)),if_pos (.inl h2)]
  .obtain rfl:ar=br:=qo
   cases h3:Op.bytesLess at_.toList bt.toList
   .rw[if_neg (by simp)];cases h4:Op.bytesLess bt.toList at_.toList
    .rw[if_neg (by simp),yZb h3 h4]
    .rw[if_pos (.inr ⟨rfl,rfl⟩)]
   .rw[if_pos (.inr ⟨rfl,rfl⟩),if_neg];rintro(q|⟨_,q⟩)
    .omega
    .have h5:=yOt h3;have h6:=yOt q;have h7:=yZ6 at_ bt;omega
theorem yP5 (a b:Hn) (w:World):(xf 201 #[a.v,b.v] w (yN7 a b).v:Prop):=by
 rw[<-yZa];obtain⟨ar,at_⟩:=a;obtain⟨br,bt⟩:=b;unfold lsB;simp only;by_cases h1:ar<br
 .rw[if_pos (.inl h1)];exact xG
 .by_cases h2:ar=br
  .subst h2;cases h3:Op.bytesLess at_.toList bt.toList
   .rw[if_neg (by simp)];go_enter func201,ntmps201;go_wp2;exact bodyPost_ret (v:=.agg #[xi ar,bt]) (by simp[results,results201,go_sem]) rfl ⟨rfl,zBl⟩
   .rw[if_pos (.inr ⟨rfl,rfl⟩)];exact xG
  .have z2:(ar==br)=false:=by rw[beq_eq_false_iff_ne];exact h2
   rw[if_neg (λq=>q.elim h1 (λz=>h2 z.1))];go_enter func201,ntmps201;go_wp2;exact bodyPost_ret (v:=.agg #[xi br,bt]) (by simp[results,results201,go_sem]) rfl ⟨rfl,zBl⟩
theorem yL9 (h:Hn) (c:Ent) (w:World):(xf 190 #[h.v,c.c] w h.v:Prop):=by go_enter func190,ntmps190;go_wp2;exact bodyPost_ret (v:=h.v) (by simp[results,results190,go_sem]) rfl ⟨rfl,zBl⟩
theorem yJf (i:It) (c:Ent) (w:World):(xf 106 #[i.v,c.c] w (yB i c).c:Prop):=by
 unfold yB;cases h:i.strip
 .rw[if_neg (by simp)];go_enter func106,ntmps106;go_wp2;exact bodyPost_ret (v:=c.c) (by simp[results,results106,go_sem]) rfl ⟨rfl,zBl⟩
 .rw[if_pos rfl];go_enter func106,ntmps106;go_wp2;exact bodyPost_ret (v:=.agg #[c.row,c.fam,c.qual,xu c.ts,xe]) (by simp[results,results106,go_sem]) rfl ⟨rfl,zBl⟩
structure PsJ (p:ByteArray) (n:Nat) (w:World) (ts:List Pat) (i g cp:Nat) (xs:List UInt8) (us:List Pat) (wr:World):Prop where
 seq:SeqG (yAm n) us (cut (sb p) i p.size)
 pre:yBh ts=(xs++(yBh us).1,(yBh us).2)
 own:OwnY wr (w+1) g cp xs
 res:yA wr w 268 2 w [xe,false]
 below:Below w w wr
variable {i:Nat} {wr:World}
theorem PsJ.move {ts:List Pat} {g:Nat} {xs:List UInt8} {us:List Pat} (h:PsJ p n w ts i g cp xs us wr) (hb:Below wr wr w'):PsJ p n w ts i g cp xs us w':=
 ⟨h.seq,h.pre,h.own.below hb,h.res.below hb,h.below.trans (hb.mono h.below.size)⟩
theorem yYg (c k:Int) (w:World):(Instr.field 158 (.agg #[xi c,xi k]) 0).run prog w=.ok (xi c) w:=qk
theorem yJb (p:ByteArray) (w:World) (hpm:p.size<=maxLen) (r:List UInt8×Bool) (hr:yVk p r):(xf 171 #[p] w (.agg #[.string ⟨r.1.toArray⟩,r.2]):Prop):=by
 have HR:=qH1 hr;clear hr;obtain⟨W0,ae⟩:=qW (xw w #[xe,false] 268);have a6:Hid (yA W0 w 268 2 w [xe,false]/\Below w w W0/\w.heap.size+1<=W0.heap.size):=by rw[ae];exact⟨yAa w _ qr rfl,qB,by simp⟩
 obtain⟨c,hc⟩:=qE ((yAj (sb p)).1);obtain⟨k,hk⟩:=qE (((yAj (sb p)).2:Int):Int);have HC:=qH1 hc;have HS:Hid (∀w,(xf 89 #[p] w (.agg #[xi c,xi k]):Prop)):=λw=>by rw[hc,hk];exact yB6 p w hpm
 have aB:=yYg c k;clear hc hk;have zero:∀w2:World,yA w2 w 268 2 w [xe,false]->Below w w w2->Hid (yA (xt (w2.setCell (xd w 0) xe) w 1 false) w 268 2 w [xe,false]/\Below w w (xt (w2.setCell (xd w 0) xe) w 1 false)):=λw2 h1 h2=>
  ⟨yCr h1 _ _,yAc (yAc h2 qr 0 _) qr 1 _⟩
 have HZ:=qH1 zero;clear zero;go_enter func171,ntmps171;go_upto_region 1 with fail;rw[<-ae];clear ae;have s0:=a6.2.1.size;by_cases hc0:c=0
 .have q0:(yAj (sb p)).1=0:=by rw[<-HC.out];exact hc0
  obtain⟨os,ho⟩:=ySm p hpm q0;have hp:p.size<=200:=by apply Classical.byContradiction;intro h6;unfold yAj at q0;rw[if_pos (by rw[yAe];omega)]at q0;exact absurd q0 qj
  have af:=qH1 (HR.2 q0 os ho);obtain⟨n,hg⟩:=ho.gr;obtain⟨m,hm,hT⟩:=hg.tokn;have HT:=qH3 hm hT hg;subst hc0;clear q0 ho hg hm hT HR HC;go_wp2_with fail;refine(HS.out W0).mono ?_;rintro e w1 ⟨rfl,a4⟩;have a3:=qH3 (a6.1.below a4) (a6.2.1.trans (a4.mono s0)) (by have:=a6.2.2;have:=a4.size;omega:w.heap.size+1<=w1.heap.size);have s1:=a3.2.1.size;clear a4 a6 HS;go_wp2_with fail;refine(yQ hp HT.2.1 w1).mono ?_;rintro e w2 ⟨g2,aC,rfl,hb2⟩;have a5:=qH3 (a3.1.below hb2) (a3.2.1.trans (hb2.mono s1)) (by have:=a3.2.2;have:=hb2.size;omega:w.heap.size+1<=w2.heap.size);clear hb2 a3;obtain⟨r0,r1⟩:=a5.1.c2;obtain⟨f0,f1⟩:=a5.1.f2;by_cases hm0:m=0
  .subst hm0;obtain⟨ts,aq,hS⟩:∃ts,r=yBh ts/\SeqG (yAm n) ts (cut (sb p) 0 p.size):=by
    have h1:=HT.1;have h2:=HT.2.2;have h3:=af.out;match os,h1,h2,h3 with
    | [ts],_,h2,h3=>exact⟨ts,h3,h2⟩
   subst aq;have ao:=a5.2.2;obtain⟨W3,aa⟩:=qW (xw w2 #[] 5);have an:Hid (PsJ p n w ts 0 w2 0 [] ts W3):=by
    have al:=qN aa
    refine⟨hS,by simp,?_,a5.1.below al,a5.2.1.trans (al.mono qo)⟩;rw[aa];exact yU0 w2 ao
   clear hS a5 HT af r0 r1 f0 f1 HZ;go_upto_region 4 with fail;rw[<-aa];clear aa;go_wp2;go_loopw[3,4] (λo iv wr=>∃(i g cp:Nat) (xs:List UInt8) (us:List Pat),iv=(xi i)/\i<=p.size/\xs.length<=i/\o=(xg g xs.length cp)/\PsJ p n w ts i g cp xs us wr) (λ_ iv _=>p.size-(intOf iv).toNat);case atStart=>exact⟨0,_,0,[],ts,rfl,zero_le _,zero_le _,rfl,an.out⟩
   case round=>
    obtain⟨i,g,cp,xs,us,rfl,az,aw,rfl,hJ⟩:=hrel;have HJ:=qH1 hJ;have aA:=hJ.own.lt;have ax:=hJ.below.size;clear hJ an;by_cases hlt:i<p.size
    .have zi:(i:Int)<(p.size:Int):=qo
     obtain⟨t,us',j,c,a,ah,a8⟩:=yNi HJ.seq (by rw[yAe];exact Nat.le_refl _) hlt;have a7:=qH2 ah a8;have hij:=a8.lt;have ar:=a8.le;obtain⟨_,gi⟩:=yAr a8.at0;clear ah a8;go_wp2_with fail;refine(yKf hp n i j a wr a7.2.atom ar).mono ?_;rintro e w6 ⟨rfl,ad⟩;have HJ6:=qH1 (HJ.move ad);have ay:=ad.size;clear ad HJ;rcases a7.2.what with⟨b,rfl,hs,hn,hb,hS⟩|⟨ak,hw⟩
     .obtain⟨j0,rfl⟩:∃j0,j=j0+1:=⟨j-1,qo⟩;obtain⟨_,gb⟩:=yAr (show(sb p)[j0]?=some b from hb);have HB:=qH2 hn hS;have HP:Hid (yBh ts=(xs++ [b]++(yBh us').1,(yBh us').2)):=by show yBh ts=_;rw[HJ6.pre,a7.1];simp[yBh]
      have au:(j0:Int)<(p.size:Int):=qo
      clear hn hb hS a7;by_cases ac:j0+1<p.size
      .obtain⟨d,hd⟩:∃d,(sb p)[j0+1]?=some d:=qg (by rw[yAe];exact ac);obtain⟨_,gd⟩:=yAr hd;have aj:=HB.1 d hd ac;have ag:(j0:Int)+1<(p.size:Int):=qo
       have a9:Hid (Calls prog 142 #[.int .u8 (d.toNat:Int)] w6 λe w'=>e=.returned false/\w'=w6):=by have:=yBi d w6;rw[decide_eq_false aj]at this;exact this
       clear hd aj;rcases hs with hs|rfl
       .skip;have a1:Hid (Calls prog 208 #[.int .u8 (c.toNat:Int)] w6 λe w'=>e=.returned false/\w'=w6):=by have:=yBc c w6;rw[decide_eq_false hs]at this;exact this
        clear hs;go_wp2_with fail;refine a1.mono ?_;rintro e' w7 ⟨rfl,a0⟩;rw[a0];clear a0;go_wp2_with fail;refine a9.mono ?_;rintro e' w8 ⟨rfl,a2⟩;rw[a2];clear a2;go_wp2_with (at_builtin;refine yBg _ rfl _ _ rfl (w+1) g cp xs.length w6 0 1 1 xs [b] rfl rfl rfl rfl ?hO ?hc ?hl ?hb ?_);case hO=>exact HJ6.own.below (qB)
        case hc=>exact(yGu w6 qr b rfl).at
        case hl=>first|omega|(simp;omega)
        case hb=>first|omega|(simp;omega)
        exact xAs
       .skip;have a1:=qH1 (yBc 92 w6);go_wp2_with fail;refine a1.mono ?_;rintro e' w7 ⟨rfl,a0⟩;rw[a0];clear a0;go_wp2_with fail;refine a9.mono ?_;rintro e' w8 ⟨rfl,a2⟩;rw[a2];clear a2;go_wp2_with (at_builtin;refine yBg _ rfl _ _ rfl (w+1) g cp xs.length w6 0 1 1 xs [b] rfl rfl rfl rfl ?hO ?hc ?hl ?hb ?_);case hO=>exact HJ6.own.below (qB)
        case hc=>exact(yGu w6 qr b rfl).at
        case hl=>first|omega|(simp;omega)
        case hb=>first|omega|(simp;omega)
        exact xAs
      .have ag:¬(j0:Int)+1<(p.size:Int):=qo
       rcases hs with hs|rfl
       .skip;have a1:Hid (Calls prog 208 #[.int .u8 (c.toNat:Int)] w6 λe w'=>e=.returned false/\w'=w6):=by have:=yBc c w6;rw[decide_eq_false hs]at this;exact this
        clear hs;go_wp2_with fail;refine a1.mono ?_;rintro e' w7 ⟨rfl,a0⟩;rw[a0];clear a0;go_wp2_with (at_builtin;refine yBg _ rfl _ _ rfl (w+1) g cp xs.length w6 0 1 1 xs [b] rfl rfl rfl rfl ?hO ?hc ?hl ?hb ?_);case hO=>exact HJ6.own.below (qB)
        case hc=>exact(yGu w6 qr b rfl).at
        case hl=>first|omega|(simp;omega)
        case hb=>first|omega|(simp;omega)
        exact xAs
       .skip;have a1:=qH1 (yBc 92 w6);go_wp2_with fail;refine a1.mono ?_;rintro e' w7 ⟨rfl,a0⟩;rw[a0];clear a0;go_wp2_with (at_builtin;refine yBg _ rfl _ _ rfl (w+1) g cp xs.length w6 0 1 1 xs [b] rfl rfl rfl rfl ?hO ?hc ?hl ?hb ?_);case hO=>exact HJ6.own.below (qB)
        case hc=>exact(yGu w6 qr b rfl).at
        case hl=>first|omega|(simp;omega)
        case hb=>first|omega|(simp;omega)
        exact xAs
     .have HP:Hid (yBh ts=(xs,false)):=by show yBh ts=_;rw[HJ6.pre,a7.1,yGt ak];simp
      clear a7 ak;rcases hw with⟨hs,am⟩|⟨hs,d,hd,ai,ac⟩
      .have av:((c.toNat:Int) != 92)=true:=by have:=yA8 (c:=92) am;simpa using this
       have a1:Hid (Calls prog 208 #[.int .u8 (c.toNat:Int)] w6 λe w'=>e=.returned true/\w'=w6):=by have:=yBc c w6;rw[decide_eq_true hs]at this;exact this
       clear hs am;go_wp2_with fail;refine a1.mono ?_;rintro e' w7 ⟨rfl,a0⟩;rw[a0];clear a0;exact xD6
      .obtain⟨_,gd⟩:=yAr hd;have ag:(j:Int)<(p.size:Int):=qo
       have a9:Hid (Calls prog 142 #[.int .u8 (d.toNat:Int)] w6 λe w'=>e=.returned true/\w'=w6):=by have:=yBi d w6;rw[decide_eq_true ai]at this;exact this
       clear hd ai;rcases hs with hs|rfl
       .skip;have a1:Hid (Calls prog 208 #[.int .u8 (c.toNat:Int)] w6 λe w'=>e=.returned false/\w'=w6):=by have:=yBc c w6;rw[decide_eq_false hs]at this;exact this
        clear hs;go_wp2_with fail;refine a1.mono ?_;rintro e' w7 ⟨rfl,a0⟩;rw[a0];clear a0;go_wp2_with fail;refine a9.mono ?_;rintro e' w8 ⟨rfl,a2⟩;rw[a2];clear a2;exact xD6
       .skip;have a1:=qH1 (yBc 92 w6);go_wp2_with fail;refine a1.mono ?_;rintro e' w7 ⟨rfl,a0⟩;rw[a0];clear a0;go_wp2_with fail;refine a9.mono ?_;rintro e' w8 ⟨rfl,a2⟩;rw[a2];clear a2;exact xD6
    .have zi:¬(i:Int)<(p.size:Int):=qo
     obtain rfl:i=p.size:=qo
     have HP:Hid (yBh ts=(xs,true)):=by show yBh ts=_;rw[HJ.pre,yNj HJ.seq (by rw[yAe];exact Nat.le_refl _)];simp[yBh]
     have hcv:=yG7 HJ.own;obtain⟨r0,r1⟩:=HJ.res.c2;obtain⟨f0,f1⟩:=HJ.res.f2;obtain⟨W9,hW9⟩:=qW (set2 wr w (.string ⟨xs.toArray⟩) true);have HW9:Hid (yA W9 w 268 2 w [.string ⟨xs.toArray⟩,true]/\Below w w W9):=by rw[hW9];exact⟨yCr HJ.res _ _,yAc (yAc HJ.below qr 0 _) qr 1 _⟩
     obtain⟨p0,p1⟩:=HW9.1.c2;unfold set2 at hW9;go_wp2;rw[<-hW9,HP.out];refine bodyPost_ret (v:=.agg #[.string ⟨xs.toArray⟩,true]) (by simp[results,results171,go_sem,p0,p1]) rfl ⟨rfl,HW9.2⟩
  .have ab:r=([],false):=by
    have h1:=HT.1;rw[af.out];match os,h1 with
    | [],_=>rfl
    | [_],h1=>simp at h1;omega
    |_::_::_,_=>rfl
   subst ab;have zm:(1:Int)<(m:Int)+1:=qo
   have HZ9:=HZ.out w2 a5.1 a5.2.1;obtain⟨p0,p1⟩:=HZ9.1.c2;obtain⟨W9,hW9⟩:=qW (xt (w2.setCell (xd w 0) xe) w 1 false);exact xGb
 .have ab:=HR.1 (by rw[<-HC.out];exact hc0);subst ab;have zc:(c != 0)=true:=by simpa using hc0
  clear HR HC;go_wp2_with fail;refine(HS.out W0).mono ?_;rintro e w1 ⟨rfl,a4⟩;have a3:=qH2 (a6.1.below a4) (a6.2.1.trans (a4.mono s0));clear a4 a6;obtain⟨r0,r1⟩:=a3.1.c2;obtain⟨f0,f1⟩:=a3.1.f2;have HZ9:=HZ.out w1 a3.1 a3.2;obtain⟨p0,p1⟩:=HZ9.1.c2;obtain⟨W9,hW9⟩:=qW (xt (w1.setCell (xd w 0) xe) w 1 false);exact xGb
theorem yT4 (x p:ByteArray) w:Calls prog 172 #[x,p] w λe w'=>e=.returned (.bool (yCm x p))/\w'=w:=by
 unfold yCm;by_cases h:p.size<=x.size
 .have z:(p.size:Int)<=(x.size:Int):=qo
  have z2:¬(x.size:Int)<(p.size:Int):=qo
  cases e1:((x.extract 0 p.size).toList==p.toList)
  .go_enter func172,ntmps172;go_wp2_with fail;go_ret;exact⟨by simp[h,e1],rfl⟩
  .go_enter func172,ntmps172;go_wp2_with fail;go_ret;exact⟨by simp[h,e1],rfl⟩
 .have z:¬(p.size:Int)<=(x.size:Int):=qo
  have z2:(x.size:Int)<(p.size:Int):=qo
  go_enter func172,ntmps172;go_wp2_with fail;go_ret;exact⟨by simp[h],rfl⟩
noncomputable def pfxR (s:ByteArray) (h:s.size<=maxLen):List UInt8×Bool:=Classical.choose (yJl s h)
theorem yYj (s:ByteArray) (h:s.size<=maxLen):yVk s (pfxR s h):=Classical.choose_spec (yJl s h)
noncomputable def pfxB (s:ByteArray):ByteArray:=if h:s.size<=maxLen then⟨(pfxR s h).1.toArray⟩else⟨#[]⟩
variable {p:Prop}
theorem zHe (h:p:=by
 go_wp2_with fail;refine bodyPost_ret (v:=(yB4 p n c).v) ?_ rfl ⟨rfl,yAc (yAc HV.2.2.2 (by omega) 0 _) (by omega) 1 _⟩
 have hm:=HM.out.symm;simp[results,results122,go_sem,r0,r1,f0,f1];simp[yB4,lsB,noH,Hn.v, *];try (rw[if_neg (by omega)];simp)):p:=h
theorem yTl (n:Nd) (c:Ent) (w:World) (hs:n.s.size<=maxLen):(xf 122 #[n.v,c.c] w (yB4 (pfxB n.s) n c).v:Prop):=by
 obtain⟨p,hp⟩:=qE (pfxB n.s);obtain⟨q,a7⟩:∃q:Bool,Hid (∀W,(xf 171 #[n.s] W (.agg #[p,q]):Prop)):=⟨(pfxR n.s hs).2,λW=>by
  have h9:=yJb n.s W hs (pfxR n.s hs) (yYj n.s hs)
  rw[show(⟨(pfxR n.s hs).1.toArray⟩:ByteArray)=p from by rw[hp];unfold pfxB;rw[dif_pos hs]]at h9
  exact h9⟩
 rw[<-hp];have ab:∀W:World,(Instr.field 268 (.agg #[p,q]) 0).run prog W=.ok p W:=λW=>qk
 clear hp;obtain⟨W0,a6⟩:∃V:World,V=(xw ((w.alloc (Obj.cells #[xi n.kind,n.s,n.hi,n.t,xu n.lo,xu n.up,xi n.n] 83)).alloc (Obj.cells #[c.row,c.fam,c.qual,xu c.ts,c.val] 70)) #[xi 0,xe] 113):=⟨_,rfl⟩;have H0:Hid (yA W0 w 83 7 w n.seven/\yA W0 w 70 5 (w+1) c.five/\yA W0 w 113 2 (w+2) [xi 0,xe]/\Below w.heap.size w W0):=box3 a6
 have HB:Hid (∀x W,Calls prog 172 #[.string x,.string p] W λe w'=>e=.returned (.bool (yCm x p))/\w'=W):=λx W=>yT4 x p W;go_enter func122,ntmps122;go_upto_region 1 with fail;rw[<-a6];clear a6;have a1:=H0.1.cell (j:=1) rfl;go_wp2_with fail;refine(a7.out W0).mono ?_;clear a7;rintro e v ⟨rfl,a3⟩;have HV:=qH4 (H0.1.below a3) (H0.2.1.below a3) (H0.2.2.1.below a3) (H0.2.2.2.trans (a3.mono H0.2.2.2.size));clear a3 a1 H0;obtain⟨a0,a1⟩:=HV.1.c2;have a4:=HV.1.cell (j:=4) rfl;have b0:=HV.2.1.cell (j:=0) rfl;have b2:=HV.2.1.cell (j:=2) rfl;have b3:=HV.2.1.cell (j:=3) rfl;obtain⟨r0,r1⟩:=HV.2.2.1.c2;obtain⟨f0,f1⟩:=HV.2.2.1.f2;obtain⟨kd,a5⟩:=qE n.kind;rw[<-a5]at a0;have HM:=qH1 a5;clear a5;by_cases k2:kd=2
 .subst k2;exact zHe
 by_cases k4:kd=4
 .subst k4;cases z:Op.bytesLess c.row.toList p.toList
  .go_wp2_with fail;refine(HB.out c.row v).mono ?_;rintro e wx ⟨rfl,a2⟩;rw[a2];clear a2;cases zb:yCm c.row p<;>exact zHe
  .exact zHe
 by_cases k5:kd=5
 .subst k5;exact zHe
 by_cases k6:kd=6
 .subst k6;cases z:Op.bytesLess c.qual.toList p.toList
  .go_wp2_with fail;refine(HB.out c.qual v).mono ?_;rintro e wx ⟨rfl,a2⟩;rw[a2];clear a2;cases zb:yCm c.qual p<;>exact zHe
  .exact zHe
 by_cases k8:kd=8
 .subst k8;cases z:Op.bytesLess c.row.toList n.s.toList<;>exact zHe
 by_cases k9:kd=9
 .subst k9;cases z:Op.bytesLess c.qual.toList n.s.toList<;>exact zHe
 by_cases k10:kd=10
 .subst k10;by_cases z:c.ts<n.lo<;>exact zHe
 by_cases k11:kd=11
 .subst k11;exact zHe
 by_cases k12:kd=12
 .subst k12;exact zHe
 have z2:=qn k2;have z4:=qn k4;have z5:=qn k5;have z6:=qn k6;have z8:=qn k8;have z9:=qn k9;have aa:=qn k10;have a9:=qn k11;have a8:=qn k12;exact zHe
theorem zHp (h:p:=by go_enter func248,ntmps248;go_wp2;go_ret;exact⟨by simp[h,e1],rfl⟩):p:=h
theorem yP4 (x p:ByteArray) w:Calls prog 248 #[x,p] w λe w'=>e=.returned (yCm x p)/\w'=w:=by
 unfold yCm;by_cases h:p.size<=x.size
 .have z:(p.size:Int)<=(x.size:Int):=qo
  have z2:¬(x.size:Int)<(p.size:Int):=qo
  cases e1:((x.extract 0 p.size).toList==p.toList)<;>exact zHp
 .have z:¬(p.size:Int)<=(x.size:Int):=qo
  have z2:(x.size:Int)<(p.size:Int):=qo
  have e1:=h;exact zHp
theorem yTm (x p:ByteArray) w:Calls prog 236 #[x,p] w λe w'=>e=.returned (yCm x p)/\w'=w:=by
 obtain⟨b,hb⟩:=qE (yCm x p);have HL:Hid (Calls prog 248 #[x,p] w λe w'=>e=.returned b/\w'=w):=by rw[hb];exact yP4 x p w
 rw[<-hb];clear hb;go_enter func236,ntmps236;go_wp2_with fail;refine HL.mono ?_;rintro e w1 ⟨rfl,rfl⟩;go_wp2_with fail;go_ret;exact⟨rfl,rfl⟩
structure LfA (w:World) (t:Nat) (n:Nd) (mv:Value) (low:ByteArray):Prop where
 lo:(xk w t 4 (xu n.lo):Prop)
 mt:(xk w t 7 mv:Prop)
 low:(xk w t 8 low:Prop)
 lt:t<w.heap.size
variable {W:World} {n:Nd}
theorem LfA.on {mv:Value} {low:ByteArray} (h:LfA w t n mv low) (hb:Below w w W):LfA W t n mv low:=
 ⟨by rw[hb.cell (p:=(xd t 4)) h.lt];exact h.lo,by rw[hb.cell (p:=(xd t 7)) h.lt];exact h.mt,by rw[hb.cell (p:=(xd t 8)) h.lt];exact h.low,qv hb.size h.lt⟩
def txtH (low:ByteArray) (m:Bool) (s:ByteArray) (b a p:Int):Hn:=if lsB s low=true then⟨b,low⟩else if(m && yCm s low)=true then⟨a,⟨#[]⟩⟩else⟨p,⟨#[]⟩⟩
def mvB (mv:Value) (m:Bool):Prop:=(mv=.pointer none/\m=false)∨(∃M,mv=(xp M)/\m=true)
theorem zTh (h:p:=by exact bodyPost_ret (v:=H.v) (by simp[results,results220,go_sem,hH]) rfl ⟨rfl,zBl⟩):p:=h
variable {m:Bool}
theorem yGk {mv:Value} {low:ByteArray} (h:LfA w t n mv low) (hm:mvB mv m) (s:ByteArray) (b a p:Int):
  (xf 220 #[xp t,s,xi b,xi a,xi p] w (txtH low m s b a p).v:Prop):=by
 have a2:=h.lt;have c7:=h.mt;have c8:=h.low;have a1:¬t=w.heap.size:=qo
 have HP:Hid (∀wz,Calls prog 236 #[s,low] wz λe w'=>e=.returned (yCm s low)/\w'=wz):=λwz=>yTm s low wz;obtain⟨H,hHd⟩:=qE (txtH low m s b a p);rw[<-hHd];unfold txtH lsB at hHd;clear h;cases e1:Op.bytesLess s.toList low.toList
 .rw[e1]at hHd;simp only[Bool.false_eq_true,if_false]at hHd;obtain⟨bg,a0⟩:∃bg,yCm s low=bg:=⟨_,rfl⟩;rw[a0]at HP hHd;rcases hm with⟨rfl,rfl⟩|⟨M,rfl,rfl⟩
  .simp only[Bool.false_and,Bool.false_eq_true,if_false]at hHd;have hH:=hHd;clear HP a0 hHd;go_enter func220,ntmps220;go_wp2_with fail;exact zTh
  .simp only[Bool.true_and]at hHd;clear a0;cases bg
   .simp only[Bool.false_eq_true,if_false]at hHd;exact xF1
   .simp only[if_true]at hHd;exact xF1
 .rw[e1]at hHd;simp only[if_true]at hHd;have hH:=hHd;clear hHd HP;go_enter func220,ntmps220;go_wp2_with fail;exact zTh
abbrev Hn.two (h:Hn):List Value:= [.int .i64 h.rank,.string h.txt]
theorem zRq (h:p:=by
 refine(HT.out _ zBl).mono ?_;rintro e w1 ⟨rfl,hb1⟩;rw[<-hW0]at hb1;obtain⟨V,hV⟩:=qW (setCs w1 (w+1) 0 H.two);have hbx:=H0.1.below hb1;obtain⟨x0,x1⟩:=hbx.c2;have fz:=hbx.frozen;have hc:Chg (λq=>q=w.heap.size+1) w1 V:=by rw[hV];exact yAl (S:=λq=>q=w.heap.size+1) _ rfl _ _ _
 have hbV:yA V w 179 2 (w+1) H.two:=by rw[hV];exact yBu (v:=(xg (w+1) 1 1)) rfl ⟨1,rfl⟩ _ 0 w1 _ hbx
 obtain⟨v0,v1⟩:=hbV.c2;have HB:Hid (Below w w V):=by have h1:=H0.2.trans (hb1.mono H0.2.size);exact Chg.below h1 hc h1.size (λq e=>qo)
 simp only[setCs,Nat.reduceAdd]at hV;clear hb1 hbx hbV hc hW0;go_wp2_with fail;rw[<-hV];clear hV;exact bodyPost_ret (v:=H.v) (by simp[results,hr,go_sem,v0,v1]) rfl ⟨rfl,HB.out⟩):p:=h
theorem zRw (h:p:=by
 have z:(w.alloc (Obj.cells #[c.row,c.fam,c.qual,xu c.ts,c.val] 70)).heap.size=w.heap.size+1:=by simp
 refine⟨?_,by rw[hW0];exact(qB).alloc (by simp) _⟩;rw[hW0,<-z];exact yAa _ _ qo rfl):p:=h
theorem yPn {mv:Value} {low:ByteArray} (h:LfA w t n mv low) (hm:mvB mv m) (c:Ent):
  (xf 194 #[xp t,c.c] w (txtH low m c.row 5 4 6).v:Prop):=by
 obtain⟨H,hH⟩:=qE (txtH low m c.row 5 4 6);have HT:Hid (∀W,Below w w W->(xf 220 #[xp t,c.row,xi 5,xi 4,xi 6] W H.v:Prop)):=λW hb=>by rw[hH];exact yGk (h.on hb) hm c.row 5 4 6
 have hr:=results194;obtain⟨W0,hW0⟩:=qW (xw (w.alloc (Obj.cells #[c.row,c.fam,c.qual,xu c.ts,c.val] 70)) #[xi 0,xe] 179);have H0:Hid (yA W0 w 179 2 (w+1) [xi 0,xe]/\Below w w W0):=by exact zRw
 rw[<-hH];clear hH;go_enter func194,ntmps194;go_wp2_with fail;exact zRq
theorem yNq {mv:Value} {low:ByteArray} (h:LfA w t n mv low) (hm:mvB mv m) (c:Ent):
  (xf 195 #[xp t,c.c] w (txtH low m c.qual 2 1 3).v:Prop):=by
 obtain⟨H,hH⟩:=qE (txtH low m c.qual 2 1 3);have HT:Hid (∀W,Below w w W->(xf 220 #[xp t,c.qual,xi 2,xi 1,xi 3] W H.v:Prop)):=λW hb=>by rw[hH];exact yGk (h.on hb) hm c.qual 2 1 3
 have hr:=results195;obtain⟨W0,hW0⟩:=qW (xw (w.alloc (Obj.cells #[c.row,c.fam,c.qual,xu c.ts,c.val] 70)) #[xi 0,xe] 179);have H0:Hid (yA W0 w 179 2 (w+1) [xi 0,xe]/\Below w w W0):=by exact zRw
 rw[<-hH];clear hH;go_enter func195,ntmps195;go_wp2_with fail;exact zRq
theorem zYx (h:p:=by intro wz hSw;obtain⟨z0,z1⟩:=hSw;go_simp;(try with_reducible rfl)):p:=h
theorem zTs (h:p:=by
 go_enter func196,ntmps196;go_upto_region 1 with fail;rw[<-hW0];clear hW0;refine yAf 99 (λwz:World=>xk wz t 4 (xu n.lo)/\xk wz w 3 (xu c.ts)) qk ?_;refine qT 0 ?v0x rfl ?y0x hS0 ?_;case y0x=>exact zYx
 refine jS ?_;refine qT 1 ?v1x rfl ?y1x hS0 ?_;case y1x=>exact zYx
 refine jS ?_;refine qT 2 ?v2x rfl ?y2x hS0 ?_;case y2x=>exact zYx
 refine jS ?_;refine qT 3 ?v3x rfl ?y3x hS0 ?_;case y3x=>exact zYx
 refine jS ?_;refine qT 4 ?v4x rfl ?y4x hS0 ?_;case y4x=>exact zYx
 refine jS ?_;refine qT 5 ?v5x rfl ?y5x hS0 ?_;case y5x=>exact zYx
 refine jS ?_;refine qT 6 ?v6x rfl ?y6x hS0 ?_;case y6x=>exact zYx
 refine jS ?_;refine qT 7 ?v7x rfl ?y7x hS0 ?_;case y7x=>exact zYx
 refine jS ?_;refine qT 8 bv rfl ?y8x hS0 ?_;case y8x=>(intro wz hSw;obtain⟨z0,z1⟩:=hSw;rw[hb2];go_simp;(try simp[e1]))
 try simp only[qA,getElem_toArray,getElem_cons_zero,getElem_cons_succ]
 refine qD ?_;rw[hb2];obtain⟨Y,hY⟩:=qW W0.drew;have hbx:=H0.1.below ((Below.refl W0 W0).drew);have h1:=H0.2.drew;rw[<-hY]at hbx h1⊢;clear hY hS0;obtain⟨V,hV⟩:=qW (setCs Y (w+1) 0 H.two);obtain⟨x0,x1⟩:=hbx.c2;have fz:=hbx.frozen;have hc:Chg (λq=>q=w.heap.size+1) Y V:=by rw[hV];exact yAl (S:=λq=>q=w.heap.size+1) _ rfl _ _ _
 have hbV:yA V w 179 2 (w+1) H.two:=by rw[hV];exact yBu (v:=(xg (w+1) 1 1)) rfl ⟨1,rfl⟩ _ 0 Y _ hbx
 obtain⟨v0,v1⟩:=hbV.c2;have HB:Hid (Below w w V):=by exact Chg.below h1 hc h1.size (λq e=>qo)
 rw[hH]at hV;simp only[setCs,Nat.reduceAdd,noH]at hV;clear hbx hbV hc h1;go_wp2_with fail;rw[<-hV];clear hV;exact bodyPost_ret (v:=H.v) (by simp[results,hr,go_sem,v0,v1]) rfl ⟨by first|rfl|rw[hH],HB.out⟩):p:=h
theorem yRu {mv:Value} {low:ByteArray} (h:LfA w t n mv low) (c:Ent):
  (xf 196 #[xp t,c.c] w (if c.ts<n.lo then(⟨1,⟨#[]⟩⟩:Hn)else noH).v:Prop):=by
 have a0:=h.lt;obtain⟨W0,hW0⟩:=qW (xw (w.alloc (Obj.cells #[c.row,c.fam,c.qual,xu c.ts,c.val] 70)) #[xi 0,xe] 179);have H0:Hid (yA W0 w 179 2 (w+1) [xi 0,xe]/\Below w w W0):=by exact zRw
 have hS0:xk W0.drew t 4 (xu n.lo)/\xk W0.drew w 3 (xu c.ts):=by refine⟨(h.on (H0.2.drew)).lo,?_⟩;rw[hW0];simp
 obtain⟨H,hH⟩:=qE (if c.ts<n.lo then(⟨1,⟨#[]⟩⟩:Hn)else noH);have hr:=results196;rw[<-hH];clear h;by_cases e1:c.ts<n.lo
 .rw[if_pos e1]at hH;obtain⟨bv,hb2⟩:=qE (true:Bool);exact zTs
 .rw[if_neg e1]at hH;obtain⟨bv,hb2⟩:=qE (false:Bool);exact zTs
structure CW where
 d:Bool
 u:Int
 f:Int->Option Ent
abbrev Col:=ByteArray×ByteArray×ByteArray
def Col.okc (c:Col):Prop:=c.1.size<=maxLen/\c.2.1.size<=maxLen/\c.2.2.size<=maxLen
abbrev Col.v (c:Col):Value:=colV c.1 c.2.1 c.2.2
def Col.l (c:Col):Lit:=colL c.1 c.2.1 c.2.2
theorem Col.key {c:Col} (h:c.okc):keyOf prog 238 c.v=some c.l:=xH5 h.1 h.2.1 h.2.2
theorem Col.inj {c c':Col} (h:c.okc) (h':c'.okc) (e:c.l=c'.l):c=c':=by have h1:=Col.key h;have h2:=Col.key h';rw[<-e]at h2;have:=xH4.inj h1 h2;obtain⟨a,b,d⟩:=c;obtain⟨a',b',d'⟩:=c';simp at this;obtain⟨rfl,rfl,rfl⟩:=this;rfl
def yUa (w:World) (base N:Nat) (m:Option Nat) (f:Int->Option Ent):Prop:=
 (m=none/\f=λ_=>none)∨∃b n,m=some b/\Inn w b n f/\n<=N/\base<=b
variable {N:Nat}
theorem yUa.kept {m:Option Nat} {f:Int->Option Ent} {row:Option Nat} (h:yUa w base N m f) (hg:w.grownBy w' row) (hne:m=none∨m≠row):yUa w' base N m f:=by
 rcases h with h|⟨b,n,rfl,h,hn,hb⟩
 .exact .inl h
 .refine .inr ⟨b,n,rfl,h.kept hg ?_,hn,hb⟩;rcases hne with e|e
  .cases e
  .exact e
theorem yUa.mono {N':Nat} {m:Option Nat} {f:Int->Option Ent} (h:yUa w base N m f) (hn:N<=N'):yUa w base N' m f:=by
 rcases h with h|⟨b,n,rfl,h,h1,hb⟩
 .exact .inl h
 .exact .inr ⟨b,n,rfl,h,qo,hb⟩
structure xAh (w:World) (base B N:Nat) (G:Col->Option CW) (M:Col->Option Nat):Prop where
 map:∃D,w.ownsMap prog 238 Rh B N D/\∀c,Col.okc c->(G c=none/\Maps.has D c.l=false)∨∃k,G c=some k/\Maps.has D c.l=true/\∀z,D.atKey c.l z=.held (.agg #[k.d,xu k.u,.map (M c)])
 inner:∀c k,G c=some k->yUa w base N (M c) k.f
 nom:∀c,G c=none->M c=none
 apart:∀c c' b,M c=some b->M c'=some b->c=c'
 off:∀c b,M c=some b->b≠B
 ok:∀c k,G c=some k->Col.okc c
theorem xAh.lt {G:Col->Option CW} {M:Col->Option Nat} (h:xAh w base B N G M):B<w.heap.size:=by obtain⟨D,hD,_⟩:=h.map;exact hD.lt
theorem xAh.kept {G:Col->Option CW} {M:Col->Option Nat} (h:xAh w base B N G M) (hg:w.grownBy w' none):xAh w' base B N G M:=by obtain⟨D,hD,hv⟩:=h.map;exact⟨⟨D,hD.kept hg (by simp),hv⟩,λc k hk=>(h.inner c k hk).kept hg (by cases M c<;>simp),h.nom,h.apart,h.off,h.ok⟩
theorem OwnE.kept {g:Nat} {fs:List Ent} {row:Option Nat} (h:OwnE w base g cp fs) (hg:w.grownBy w' row) (hne:some g≠row):OwnE w' base g cp fs:=
 World.ownsRow.kept h hg (.inr hne)
theorem xB3 (w:World) (e:Ent):yFl (xw w #[e.row,e.fam,e.qual,xu e.ts,xi e.kind,e.val] 165) w 0 [e]:=by exact xCm
def putE (x:Ent):Ent:={x with kind:=0}
theorem yR8 (e:Ent) (w:World):
  (xf 97 #[.agg #[e.row,e.fam,e.qual,xu e.ts,e.val]] w (putE e).v:Prop):=by
 go_enter func97,ntmps97;go_wp2;refine bodyPost_ret (v:=(putE e).v) (by simp[results,results97,go_sem,putE]) rfl ⟨rfl,?_⟩;exact(qB).alloc (by simp) _
theorem yBx (e:Ent) (w:World):
  (xf 99 #[.agg #[e.row,e.fam,e.qual,xu e.ts,e.val]] w (putE e).v:Prop):=by
 go_enter func99,ntmps99;go_wp2;refine bodyPost_ret (v:=(putE e).v) (by simp[results,results99,go_sem,putE]) rfl ⟨rfl,?_⟩;exact(qB).alloc (by simp) _
theorem yJa {ops:Array Oper} {o:Oper} {a:Act} {K:Act->World->Prop} {Q:Exit->Act->World->Prop} {E:Prop} (w:World) (hgd:o.guard=none) s x
  (ho:o.op=.call {callee:=.builtin .append,args:=#[s,x],argTypes:=#[87,87]})
  (base g cp n blk:Nat) (fs:List Ent) e (hn:n=fs.length) (hs:a.eval s=(xg g n cp)) (hx:a.eval x=(xg blk 1 1)) (hO:OwnE w base g cp fs)
  (hc:yFl w blk 0 [e]) (hlen:fs.length<=2^30) (hbase:base<=w.heap.size)
  (h:∀g' cp' w',OwnE w' base g' cp' (fs++ [e])->w.grownBy w' (some g)->(g=g'∨g'=w.heap.size)->K (a.put o.dst (xg g' (n+1) cp')) w'):if Region.wanted o (yielded ops a.tmps)=true then Oper.wp prog o a w K Q else E:=by
 subst hn;obtain⟨i,hi,a2,a1,a0⟩:=info_parts Tryz.infoEnt;obtain⟨c0,c1,c2,c3,c4,c5⟩:=hc 0 e rfl;refine step_append_lies w hgd s x 87 ho base 165 i _ 6 80 underlying87 hi a2 a1 a0 rfl qj (xg g fs.length cp) fs.length (yB8 fs) hs hO (xd blk 0) 1 1 (yB8 [e]) hx rfl ?_ ?_ qj ?_ ?_ hbase w rfl ?_
 .intro j u hu;have hj:j<6:=by have:=qf hu;rw[yN9]at this;simpa using this
  rw[Addr.add_mid,Nat.zero_add];simp only[Nat.zero_mul,Nat.zero_add]at c0 c1 c2 c3 c4 c5;match j,hj,hu with
  |0,_,hu=>simp[yB8]at hu;rw[<-hu];exact c0
  |1,_,hu=>simp[yB8]at hu;rw[<-hu];exact c1
  |2,_,hu=>simp[yB8]at hu;rw[<-hu];exact c2
  |3,_,hu=>simp[yB8]at hu;rw[<-hu];exact c3
  |4,_,hu=>simp[yB8]at hu;rw[<-hu];exact c4
  |5,_,hu=>simp[yB8]at hu;rw[<-hu];exact c5
 .intro u hu;simp[yB8]at hu;rcases hu with rfl|rfl|rfl|rfl|rfl|rfl<;>rfl
 .unfold maxLen;omega
 .omega
 .intro g' cp' w' a5 a3 a4 a6;refine h g' cp' w' ?_ a3 ?_
  .unfold OwnE;rw[length_append,yOq];exact a5
  .rcases a4 with q|q
   .exact .inl (by simpa [Value.ownBlock]using q)
   .exact .inr q
def yEu (L:List Ent) (m:Nat):List Ent:=(L.take m).map putE
variable {L:List Ent} {m:Nat}
theorem ySk {x:Ent} (h:L[m]?=some x):yEu L (m+1)=yEu L m++ [putE x]:=by unfold yEu;rw[take_add_one,h];simp
theorem yV8 (h:m<=L.length):(yEu L m).length=m:=by simp[yEu];omega
theorem yV9 (h:L.length<=m):yEu L m=L.map putE:=by unfold yEu;rw[take_of_length_le h]
structure PInv (w:World) (ov:Nat) (L:List Ent) (m g5 cp5:Nat) (wr:World):Prop where
 hdr:(xk wr ov 0 (xg g5 m cp5):Prop)
 free:wr.frozen? (xd ov 0)=false
 lt:ov<wr.heap.size
 own:w.heap.size<ov
 row:OwnE wr w g5 cp5 (yEu L m)
 ne:¬g5=ov
 new:w.heap.size<g5
 res:(xk wr w 0 xh:Prop)
 rfree:wr.frozen? (xd w 0)=false
 below:Below w w wr
theorem PInv.step {ov:Nat} {g5 cp5:Nat} (h:PInv w ov L m g5 cp5 wr) (hb:Below wr wr w'):PInv w ov L m g5 cp5 w' where
 hdr:=by rw[hb.cell (p:=(xd ov 0)) h.lt];exact h.hdr
 free:=by rw[hb.frozen (p:=(xd ov 0)) h.lt];exact h.free
 lt:=qv hb.size h.lt
 own:=h.own
 row:=h.row.below hb h.row.lt.2
 ne:=h.ne
 new:=h.new
 res:=by rw[hb.cell (p:=(xd w 0)) (by have:=h.own;have:=h.lt;show w.heap.size<wr.heap.size;omega)];exact h.res
 rfree:=by rw[hb.frozen (p:=(xd w 0)) (by have:=h.own;have:=h.lt;show w.heap.size<wr.heap.size;omega)];exact h.rfree
 below:=h.below.trans (hb.mono h.below.size)
theorem PInv.push {ov:Nat} {g5 cp5:Nat} {wA w7:World} (h:PInv w ov L m g5 cp5 wA) {x:Ent} (hx:L[m]?=some x) {g7 cp7:Nat} (hO:OwnE w7 w g7 cp7 (yEu L m++ [putE x])) (hgr:wA.grownBy w7 (some g5)) (hgg:g5=g7∨g7=wA.heap.size):
  PInv w ov L (m+1) g7 cp7 (xt w7 ov 0 (xg g7 (m+1) cp7))/\xk w7 ov 0 (xg g5 m cp5)/\w7.frozen? (xd ov 0)=false:=by
 have a0:Chg (λk=>k=g5) wA w7:=Chg.of_grown hgr (λk hk=>by cases hk;rfl);have a1:Chg (λk=>k=ov) w7 (xt w7 ov 0 (xg g7 (m+1) cp7)):=Chg.of_set _ _ _ _ rfl;have s7:=a0.size;have s8:=a1.size;have hl:=h.lt;have ho:=h.own;have hn:=h.new;have c7:(xk w7 ov 0 (xg g5 m cp5):Prop):=by rw[a0.cell (p:=(xd ov 0)) hl (λq=>h.ne q.symm)];exact h.hdr
 have f7:w7.frozen? (xd ov 0)=false:=by rw[a0.frozen (p:=(xd ov 0)) hl (λq=>h.ne q.symm)];exact h.free
 have a2:¬g7=ov:=by
  rcases hgg with q|q
  .rw[<-q];exact h.ne
  .omega
 refine⟨?_,c7,f7⟩
 exact {
  hdr:=World.cell?_setCell_same _ _ _ c7
  free:=by rw[World.frozen?_setCell];exact f7
  lt:=qo
  own:=ho
  row:=by
   rw[ySk hx]
   exact World.ownsRow.kept hO (yAv w7 ov 0 _) (.inr (λq=>a2 (Option.some.inj q)))
  ne:=a2
  new:=by
   rcases hgg with q|q
   .rw[<-q];exact hn
   .omega
  res:=by
   rw[a1.cell (p:=(xd w 0)) (by show w.heap.size<w7.heap.size;omega) (by show¬w.heap.size=ov;omega),a0.cell (p:=(xd w 0)) (by show w.heap.size<wA.heap.size;omega) (by show¬w.heap.size=g5;omega)]
   exact h.res
  rfree:=by
   rw[a1.frozen (p:=(xd w 0)) (by show w.heap.size<w7.heap.size;omega) (by show¬w.heap.size=ov;omega),a0.frozen (p:=(xd w 0)) (by show w.heap.size<wA.heap.size;omega) (by show¬w.heap.size=g5;omega)]
   exact h.rfree
  below:=Chg.below (Chg.below h.below a0 h.below.size (λk q=>by omega)) a1 (by omega) (λk q=>by omega)}
theorem yYh (g cap:Nat) (L:List Ent) (base:Nat) (w:World) (hC:OwnC w base g cap L) (hn:L.length<=1048576):
  Calls prog 44 #[xg g L.length cap] w λr w'=>
   ∃g' cp,r=.returned (.agg #[xg g' L.length cp])/\OwnE w' w g' cp (L.map putE)/\Below w w w':=by
 have HC:=qH1 hC;have ac:=hC.lt.2;clear hC;obtain⟨Wa,a2⟩:=qW (xw w #[xh] 89);have af:=qN a2
 have a9:=qS a2
 obtain⟨Wb,a3⟩:=qW (xw Wa #[] 165);have ae:=qN a3
 have a6:Wb.heap.size=w.heap.size+1+1:=by rw[a3];simp[a9]
 obtain⟨Wc,a1⟩:=qW (xw Wb #[xg (w+1) 0 0] 89);have a7:=qN a1
 have ar:Wc.heap.size=w.heap.size+1+1+1:=by rw[a1];simp[a6]
 have HP:Hid (PInv w (w+1+1) L 0 (w+1) 0 Wc):=by
  have k1:=ae.trans (a7.mono qo)
  exact {
   hdr:=by rw[a1,<-a6];simp
   free:=by
    rw[a1,<-a6]
    exact World.ownsRow.frozenAt (World.ownsRow_lit (base:=0) (e:=89) (size:=1) Wb #[xg (w+1) 0 0] 1 (zero_le _) qj rfl) 0
   lt:=qo
   own:=qo
   row:=by
    have h0:OwnE Wb w (w+1) 0 []:=by
     rw[a3,<-a9]
     exact World.ownsRow_made Wa #[] 0 qo (zero_le _) (by simp)
    exact h0.below a7 qo
   ne:=qo
   new:=qo
   res:=by rw[k1.cell (p:=(xd w 0)) (by show w.heap.size<Wa.heap.size;omega),a2];simp
   rfree:=by
    rw[k1.frozen (p:=(xd w 0)) (by show w.heap.size<Wa.heap.size;omega),a2]
    exact World.ownsRow.frozenAt (World.ownsRow_lit (base:=0) (e:=89) (size:=1) w #[xh] 1 (zero_le _) qj rfl) 0
   below:=af.trans (k1.mono qo)}
 go_enter func44,ntmps44;go_wp2_with fail;rw[<-a2,<-a3,<-a1];clear a2 a3 a1 af ae a7;generalize w.heap.size+1+1=ov at*;generalize w.heap.size+1=g0 at*;go_loopw[4] (λi wr=>∃(m g5 cp5:Nat),m<=L.length/\i=(xi m)/\PInv w ov L m g5 cp5 wr) (λi _=>L.length-(intOf i).toNat);case atStart=>exact⟨0,_,_,zero_le _,rfl,HP.out⟩
 case round=>
  obtain⟨m,g5,cp5,hm,rfl,hI⟩:=hrel;have HI:=qH1 hI;have a5:=hI.below;have ai:=a5.size;have h0:=hI.hdr;have aw:=hI.free;have al:=hI.row.lt.2;have ak:=hI.lt;clear hI HP;by_cases hlt:m<L.length
  .obtain⟨x,hx⟩:∃x,L[m]?=some x:=qg hlt;obtain⟨c0,c1,c2,c3,c4⟩:=(HC.below a5 ac).at m x hx;simp only[Nat.zero_add,Nat.zero_mul]at c0 c1 c2 c3 c4;have HX:=qH2 hx ((HC.below a5 ac).at);have ah:Hid (m=(yEu L m).length):=(yV8 hm).symm;have aj:(yEu L m).length<=2^30:=by rw[<-ah.out];omega
   clear hx;have zm:(m:Int)<(L.length:Int):=qo
   have ao:g≠ov:=qw HI.own
   have av:g<wr.heap.size:=qo
   go_upto_region 5 with fail
   go_region_law ((first
        |(go_simp;go_at_call 97;refine(yR8 x _).mono ?_;rintro e' w6 ⟨rfl,am⟩;have a0:Below wr wr w6:=((Below.refl wr wr).drew).trans am;have m6:=(HI.step a0).hdr;have aq:∀o,(xk (w6.alloc o) ov 0 (xg g5 m cp5):Prop):=λo=>by {rw[((Below.refl w6 w6).alloc qr o).cell (p:=(xd ov 0)) (Nat.lt_of_lt_of_le ak a0.size)];exact m6})
        |(refine yJa _ (by rfl) _ _ (by rfl) w g5 cp5 m w6 (yEu L m) (putE x) ah.out (by rfl) (by rfl) ?hO ?hc aj ?hb ?_
          case hO=>exact(HI.step a0).row.below (qB) (Nat.lt_of_lt_of_le al a0.size)
          case hc=>exact xB3 w6 (putE x)
          case hb=>exact Nat.le_trans ai (Nat.le_trans a0.size (by simp))
          intro g7 a8 w7 ag ab ad
          have a4:=((HI.step a0).step ((Below.refl w6 w6).alloc qr (Obj.cells #[(putE x).row,(putE x).fam,(putE x).qual,xu (putE x).ts,xi (putE x).kind,(putE x).val] 165))).push HX.1 ag ab (by simpa using ad)
          have an:Hid (PInv w ov L (m+1) g7 a8 (xt w7 ov 0 (xg g7 (m+1) a8))):=a4.1
          have m7:=a4.2.1
          have f7:=a4.2.2
          clear a4 ag ab ad)))
   all_goals go_wp2_with fail
   all_goals go_roundw
   all_goals first
    |exact⟨m+1,g7,a8,qo,by go_num,an.out⟩
    |(go_light;simp[intOf];omega)
  .have aa:m=L.length:=qo
   have HF:Hid (OwnE wr w g5 cp5 (L.map putE)):=by have:=HI.row;rw[yV9 qo]at this;exact this
   have r0:=HI.res;have rf:=HI.rfree;have HM:Hid (m=L.length):=aa;have zm:¬(m:Int)<(L.length:Int):=qo
   have au:=HI.new;clear aa;go_wp2;refine bodyPost_ret (v:=.agg #[xg g5 m cp5]) (by simp[results,results44,go_sem,World.cell?_setCell_same _ _ _ r0]) rfl ⟨g5,cp5,by rw[HM.out],?_,?_⟩
   .exact World.ownsRow.kept HF.out (yAv wr w 0 _) (.inr (λq=>by have h2:g5=w.heap.size:=Option.some.inj q;omega))
   .exact a5.setCell qr _
variable {p e:Ent}
theorem yYx (h:(yAo p e != -1)=true):yCe p e=false:=by unfold yCe;simp at h;simp[h]
theorem yYw (h:(yAo p e != -1)=false) (h2:(p.kind==2)=false):yCe p e=true:=by unfold yCe;simp at h;simp[h,h2]
theorem yYv (h:(yAo p e != -1)=false) (h2:(e.kind==2)=false):yCe p e=true:=by unfold yCe;simp at h;simp[h,h2]
theorem yU2 (h:(yAo p e != -1)=false) (h2:(p.kind==2)=true) (h3:(e.kind==2)=true):yCe p e= !yEc p e:=by unfold yCe;simp at h;simp[h,h2,h3]
theorem yYn (p e:Ent):
  ((yAo p e != -1)=true/\yCe p e=false)∨((yAo p e != -1)=false/\(p.kind==2)=false/\yCe p e=true)∨
  ((yAo p e != -1)=false/\(p.kind==2)=true/\(e.kind==2)=false/\yCe p e=true)∨
  ((yAo p e != -1)=false/\(p.kind==2)=true/\(e.kind==2)=true/\yEc p e=true/\yCe p e=false)∨
  ((yAo p e != -1)=false/\(p.kind==2)=true/\(e.kind==2)=true/\yEc p e=false/\yCe p e=true):=by
 cases h1:(yAo p e != -1)
 .cases h2:(p.kind==2)
  .exact .inr (.inl ⟨rfl,rfl,yYw h1 h2⟩)
  .cases h3:(e.kind==2)
   .exact .inr (.inr (.inl ⟨rfl,rfl,rfl,yYv h1 h3⟩))
   .cases h4:yEc p e
    .exact .inr (.inr (.inr (.inr ⟨rfl,rfl,rfl,rfl,by rw[yU2 h1 h2 h3,h4];rfl⟩)))
    .exact .inr (.inr (.inr (.inl ⟨rfl,rfl,rfl,rfl,by rw[yU2 h1 h2 h3,h4];rfl⟩)))
 .exact .inl ⟨rfl,yYx h1⟩
theorem yHf (b off cap:Nat) (es:List Ent) (w:World) (hE:yFl w b off es) (hok:∀e∈es,e.ok) (hB:b<w.heap.size) (hlen:es.length<=cap) (hcap:cap<=maxLen):
  Calls prog 43 #[.agg #[.slice (some ⟨b,off,none⟩) es.length cap]] w λe w'=>
   ∃r:Bool,e=.returned r/\(r=true↔yC es)/\Below w w w':=by
 obtain⟨W0,a1⟩:=qW (xw w #[.slice (some ⟨b,off,none⟩) es.length cap] 89);have a0:=qN a1
 have ab:w.heap.size<W0.heap.size:=by rw[a1];simp
 have ca:(xk W0 w 0 (.slice (some ⟨b,off,none⟩) es.length cap):Prop):=by rw[a1];simp
 have HE:=qH1 (hE.below a0 hB);have HO:=qH1 hok;clear hE hok;unfold maxLen at hcap;by_cases hbig:10000<es.length
 .have H:Hid (¬yC es):=λh=>qw h.1.1
  go_enter func43,ntmps43;go_wp2;go_ret;exact⟨_,rfl,iffF H.out,qB⟩
 go_enter func43,ntmps43;go_wp2_with fail;rw[<-a1];clear a1;go_loopw[3] (λi wr=>∃(k:Nat),k<=es.length/\i=(xi k)/\(∀x∈es.take k,x.vld=true)/\yFh es k/\Below W0 W0 wr) (λi _=>es.length-(intOf i).toNat);case atStart=>exact⟨0,zero_le _,rfl,by simp,λi p e hi=>qo,Below.refl _ _⟩
 case round=>
  obtain⟨k,hk,rfl,hv,hP,hb⟩:=hrel;have HV:=qH2 hv hP;clear hv hP;have ac:=hb.size;have a8:(xk wr w 0 (.slice (some ⟨b,off,none⟩) es.length cap):Prop):=by rw[hb.cell (p:=(xd w 0)) (by show w.heap.size<_;omega)];exact ca
  by_cases hlt:k<es.length
  .obtain⟨e,he⟩:∃e,es[k]?=some e:=qg hlt;have a6:=HE.below hb qo;obtain⟨c0,c1,c2,c3,c4,c5⟩:=a6 k e he;have HK:=qH3 (HO.out e (mem_of_getElem? he)) he a6;clear he a6;go_wp2_with fail;refine(yL e.row e.fam e.qual e.val e.ts e.kind _ HK.1.row HK.1.fam HK.1.qual HK.1.val).mono ?_;rintro e' w1 ⟨rfl,a2⟩;obtain⟨ag,ae⟩:=yOw a2;have aa:wr.heap.size<w1.heap.size:=by have:=a2.size;simp at this;omega
   have hb2:=(hb.alloc hb.size (Obj.cells #[e.row,e.fam,e.qual,xu e.ts,xi e.kind,e.val] 165)).trans (a2.mono (by simp;omega));clear c0 c1 c2 c3 c4 c5;cases hv:vE e.row e.fam e.qual e.kind e.val
   .have H:Hid (¬yC es):=λh=>by have:=h.1.2 e (mem_of_getElem? HK.2.1);unfold Ent.vld at this;rw[hv]at this;cases this
    go_wp2;go_ret;exact⟨_,rfl,iffF H.out,a0.trans (hb2.mono qo)⟩
   .have H:=qH1 (yRt HV.1 HK.2.1 hv);by_cases hk0:k=0
    .subst hk0;refine zY ?_;exact⟨0+1,qo,by go_num,H.out,λi p e hi=>qo,hb2⟩
    .obtain⟨m,rfl⟩:∃m,k=m+1:=⟨k-1,qo⟩;obtain⟨p,hp⟩:∃e,es[m]?=some e:=qg qo;have a7:=((Below.refl _ _).alloc qr (Obj.cells #[e.row,e.fam,e.qual,xu e.ts,xi e.kind,e.val] 165)).trans (a2.mono (by simp));have ah:(xk w1 w 0 (.slice (some ⟨b,off,none⟩) es.length cap):Prop):=by rw[a7.cell (p:=(xd w 0)) (by show w.heap.size<_;omega)];exact a8
     obtain⟨d0,d1,d2,d3,d4,d5⟩:=HK.2.2.below a7 qo m p hp;have HKp:=qH1 hp;clear hp;have hw:IntKind.i64.wrap (m:Int)=(m:Int):=Go.IntWalk.i64_in _ qo;go_wp2_with fail;refine(yF9 p e _).mono ?_;rintro e' w2 ⟨rfl,a5⟩;obtain⟨af,ad⟩:=yOw a5;have a9:w1.heap.size<w2.heap.size:=by have:=a5.size;simp at this;omega
     have hb4:=(hb2.alloc hb2.size (Obj.cells #[p.row,p.fam,p.qual,xu p.ts,xi p.kind,p.val] 165)).trans (a5.mono (by have:=hb2.size;simp;omega));clear d0 d1 d2 d3 d4 d5;rcases yYn p e with⟨g1,ho⟩|⟨g1,g2,ho⟩|⟨g1,g2,g3,ho⟩|⟨g1,g2,g3,g4,ho⟩|⟨g1,g2,g3,g4,ho⟩
     .have H2:Hid (¬yC es):=λh=>by have:=h.2 m p e HKp.out HK.2.1;rw[ho]at this;cases this
      go_wp2;go_ret;exact⟨_,rfl,iffF H2.out,a0.trans (hb4.mono qo)⟩
     .exact xGc
     .exact xGc
     .have H2:Hid (¬yC es):=λh=>by have:=h.2 m p e HKp.out HK.2.1;rw[ho]at this;cases this
      go_wp2_with fail;refine(yF5 p e _).mono ?_;rintro e' w3 ⟨rfl,a4⟩;have a3:=hb4.trans (a4.mono hb4.size);go_wp2;go_ret;exact⟨_,rfl,iffF H2.out,a0.trans (a3.mono qo)⟩
     .have H2:=qH1 (yE7 HV.2 HKp.out HK.2.1 ho);go_wp2_with fail;refine(yF5 p e _).mono ?_;rintro e' w3 ⟨rfl,a4⟩;have a3:=hb4.trans (a4.mono hb4.size);refine zY ?_;exact⟨m+1+1,qo,by go_num,H.out,H2.out,a3⟩
  .go_wp2;go_ret;refine⟨_,rfl,iffT ⟨⟨qo,λe he=>?_⟩,yJn HV.2 qo⟩,a0.trans (hb.mono qo)⟩;have:=HV.1;rw[take_of_length_le qo]at this;exact this e he
theorem xEr (h:e.ok):(putE e).ok:=⟨h.row,h.fam,h.qual,h.val,h.ts,(show(Lit.int .i64 0).wf=true by decide)⟩
theorem yL8 a b:yCe (putE a) (putE b)=(yAo (putE a) (putE b)== -1):=by unfold yCe putE;simp
theorem yKq (a b:Ent) (w:World):
  (xf 100 #[a.c,b.c] w (xi (yAo (putE a) (putE b))):Prop):=by
 unfold Ent.c;obtain⟨W0,a5⟩:=qW (xw (w.alloc (Obj.cells #[a.row,a.fam,a.qual,xu a.ts,a.val] 70)) #[b.row,b.fam,b.qual,xu b.ts,b.val] 70);have a6:Below w w W0:=by rw[a5];exact(qB).alloc (by simp) _
 have a7:W0.heap.size=w.heap.size+2:=by rw[a5];simp
 have HA:Hid (yA4 W0 w 0 [a]/\yA4 W0 (w+1) 0 [b]):=by rw[a5];refine⟨(yTz w a).below (qB) (by simp),?_⟩;have:=yTz (xw w #[a.row,a.fam,a.qual,xu a.ts,a.val] 70) b;simpa using this
 have q:∀n:Out W0,yA4 n.u w 0 [a]/\yA4 n.u (w+1) 0 [b]:=λn=>⟨HA.1.below n.out qo,HA.2.below n.out qo⟩;have a0:∀n:Out W0,(xk n.u w 0 a.row:Prop):=λn=>by simpa using ((q n).1 0 a rfl).1
 have a1:∀n:Out W0,(xk n.u w 1 a.fam:Prop):=λn=>by simpa using ((q n).1 0 a rfl).2.1
 have a2:∀n:Out W0,(xk n.u w 2 a.qual:Prop):=λn=>by simpa using ((q n).1 0 a rfl).2.2.1
 have a3:∀n:Out W0,(xk n.u w 3 (xu a.ts):Prop):=λn=>by simpa using ((q n).1 0 a rfl).2.2.2.1
 have a4:∀n:Out W0,(xk n.u w 4 a.val:Prop):=λn=>by simpa using ((q n).1 0 a rfl).2.2.2.2
 have b0:∀n:Out W0,(xk n.u (w+1) 0 b.row:Prop):=λn=>by simpa using ((q n).2 0 b rfl).1
 have b1:∀n:Out W0,(xk n.u (w+1) 1 b.fam:Prop):=λn=>by simpa using ((q n).2 0 b rfl).2.1
 have b2:∀n:Out W0,(xk n.u (w+1) 2 b.qual:Prop):=λn=>by simpa using ((q n).2 0 b rfl).2.2.1
 have b3:∀n:Out W0,(xk n.u (w+1) 3 (xu b.ts):Prop):=λn=>by simpa using ((q n).2 0 b rfl).2.2.2.1
 have b4:∀n:Out W0,(xk n.u (w+1) 4 b.val:Prop):=λn=>by simpa using ((q n).2 0 b rfl).2.2.2.2
 clear q HA;go_enter func100,ntmps100;go_upto_region 1 with fail;rw[<-a5];clear a5 a7;have a9:Nonempty (Out W0):=⟨⟨W0,Below.refl _ _⟩⟩;refine yAs qk qk ?_;repeat (go_big_quiet_step ((first|(go_at_call 99;exact Calls.out_of (yBx _ _))|(go_at_call 148;exact Calls.out_of (yTu (putE a) (putE b) _)))))
 refine wpQuiet_nil ?_;rintro w1 ⟨⟨wx,a8⟩,rfl⟩;go_wp2;go_ret;exact⟨rfl,a6.trans (a8.mono a6.size)⟩
def yH0 (P:Prop) (w:World) (e:Ending) (w':World):Prop:=∃r:Bool,e=.returned r/\(r=true↔P)/\Below w w w'
theorem ySo es:yFh es 1:=λi p e hi=>qo
theorem yQn {c:Ent} (h:yC (L.map putE)) (hp:L[i]?=some p) (hc:L[i+1]?=some c):yAo (putE p) (putE c)= -1:=by have h1:=h.2 i (putE p) (putE c) (by rw[getElem?_map,hp];rfl) (by rw[getElem?_map,hc];rfl);rw[yL8]at h1;simpa using h1
theorem yLm (g cap:Nat) (L:List Ent) (base:Nat) w (hC:OwnC w base g cap L) (hok:∀e∈L,e.ok) (hn:L.length<=1048576):
  Calls prog 45 #[xg g L.length cap] w (yH0 (yC (L.map putE)) w):=by
 have HC:=qH2 hC hok;have ai:=hC.lt.2;clear hC hok;by_cases hbig:10000<L.length
 .have H:Hid (¬yC (L.map putE)):=λh=>by have:=h.1.1;rw[length_map]at this;omega
  have z:(10000:Int)<(L.length:Int):=qo
  go_enter func45,ntmps45;go_wp2;go_ret;exact⟨_,rfl,iffF H.out,Below.refl _ _⟩
 have z:¬(10000:Int)<(L.length:Int):=qo
 go_enter func45,ntmps45;go_wp2;go_loopw[10] (λiv wr=>∃(k:Nat),k<=L.length/\iv=(xi k)/\(∀x∈L.take k,(putE x).vld=true)/\yFh (L.map putE) k/\Below w w wr) (λiv _=>L.length-(intOf iv).toNat);case atStart=>exact⟨0,zero_le _,rfl,by simp,λi p e hi=>qo,Below.refl _ _⟩
 case round=>
  obtain⟨k,hk,rfl,hv,hP,hb⟩:=hrel;have HV:=qH2 hv hP;have hs:=hb.size;clear hv hP;by_cases hlt:k<L.length
  .obtain⟨c,hc⟩:∃c,L[k]?=some c:=qg hlt;have a5:=qH2 hc (HC.2 c (mem_of_getElem? hc));have HR:=qH1 (HC.1.at.below hb ai);obtain⟨c0,c1,c2,c3,c4⟩:=HR.out k c hc;simp only[Nat.zero_add]at c0 c1 c2 c3 c4;have zk:(k:Int)<(L.length:Int):=qo
   obtain⟨W1,a6⟩:=qW (xw wr #[c.row,c.fam,c.qual,xu c.ts,c.val] 70);have HW1:Hid (yA4 W1 wr 0 [c]/\yA4 W1 g 0 L/\Below w w W1/\W1.heap.size=wr.heap.size+1):=by
    have ab:=qN a6
    refine⟨by rw[a6];exact yTz wr c,HR.below ab qo,hb.trans (ab.mono hs),by rw[a6];simp⟩
   clear hc;go_upto_region 6 with fail;rw[<-a6];clear a6 c0 c1 c2 c3 c4 HR;have ag:=HW1.2.2.2;have q:∀n:Out W1,yA4 n.u wr 0 [c]:=λn=>HW1.1.below n.out qo;have a0:∀n:Out W1,(xk n.u wr 0 c.row:Prop):=λn=>by simpa using ((q n) 0 c rfl).1
   have a1:∀n:Out W1,(xk n.u wr 1 c.fam:Prop):=λn=>by simpa using ((q n) 0 c rfl).2.1
   have a2:∀n:Out W1,(xk n.u wr 2 c.qual:Prop):=λn=>by simpa using ((q n) 0 c rfl).2.2.1
   have a3:∀n:Out W1,(xk n.u wr 3 (xu c.ts):Prop):=λn=>by simpa using ((q n) 0 c rfl).2.2.2.1
   have a4:∀n:Out W1,(xk n.u wr 4 c.val:Prop):=λn=>by simpa using ((q n) 0 c rfl).2.2.2.2
   clear q ag;have al:Nonempty (Out W1):=⟨⟨W1,Below.refl _ _⟩⟩;obtain⟨bv,a9⟩:=qE ((putE c).vld);have a7:Hid (∀n:Out W1,(xf 98 #[(putE c).v] n.u bv:Prop)):=λn=>by rw[a9];exact yLj _ _ _ _ _ _ n.u a5.2.row a5.2.fam a5.2.qual a5.2.val
   have af:=qH1 a9.symm;clear a9;cases bv
   .have HF:Hid (¬yC (L.map putE)):=λh=>by have:=h.1.2 (putE c) (List.mem_map.2 ⟨c,mem_of_getElem? a5.1,rfl⟩);rw[af.out]at this;cases this
    refine yAs qk qk ?_;repeat (go_big_quiet_step ((first|(go_at_call 99;exact Calls.out_of (yBx _ _))|(go_at_call 98;exact Calls.out_of (a7.out _)))))
    exact xC4
   have ac:Hid (∀x∈L.take (k+1),(putE x).vld=true):=by
    intro x hx;rw[take_add_one,a5.1]at hx;rcases List.mem_append.1 hx with hx|hx
    .exact HV.1 x hx
    .simp at hx;subst hx;exact af.out
   by_cases hk0:k=0
   .subst hk0;refine yAs qk qk ?_;repeat (go_big_quiet_step ((first|(go_at_call 99;exact Calls.out_of (yBx _ _))|(go_at_call 98;exact Calls.out_of (a7.out _)))))
    refine wpQuiet_nil ?_;rintro w2 ⟨⟨wx,hb2⟩,rfl⟩;refine zY ?_;exact⟨1,qo,by go_num,ac.out,ySo _,HW1.2.2.1.trans (hb2.mono HW1.2.2.1.size)⟩
   obtain⟨m,rfl⟩:∃m,k=m+1:=⟨k-1,qo⟩;obtain⟨p,hp⟩:∃p,L[m]?=some p:=qg qo;have ad:=qH1 hp;have q:∀n:Out W1,yA4 n.u g 0 L:=λn=>HW1.2.1.below n.out (qw HW1.2.2.2);have p0:∀n:Out W1,(xk n.u g (m*5) p.row:Prop):=λn=>by simpa using ((q n) m p hp).1
   have p1:∀n:Out W1,(xk n.u g (m*5+1) p.fam:Prop):=λn=>by simpa using ((q n) m p hp).2.1
   have p2:∀n:Out W1,(xk n.u g (m*5+2) p.qual:Prop):=λn=>by simpa using ((q n) m p hp).2.2.1
   have p3:∀n:Out W1,(xk n.u g (m*5+3) (xu p.ts):Prop):=λn=>by simpa using ((q n) m p hp).2.2.2.1
   have p4:∀n:Out W1,(xk n.u g (m*5+4) p.val:Prop):=λn=>by simpa using ((q n) m p hp).2.2.2.2
   clear q hp;obtain⟨kc,a8⟩:=qE (yAo (putE p) (putE c));have ae:Hid (∀n:Out W1,(xf 100 #[p.c,c.c] n.u (xi kc):Prop)):=λn=>by rw[a8];exact yKq p c n.u
   have aa:=qH1 a8;have zm:(m:Int)<(L.length:Int):=qo
   have ak:(0:Int)<(m:Int)+1:=qo
   clear a8;by_cases hneg:0<=kc
   .have HF:Hid (¬yC (L.map putE)):=λh=>by have:=yQn h ad.out a5.1;rw[<-aa.out]at this;omega
    refine yAs qk qk ?_;repeat (go_big_quiet_step ((first|(go_at_call 99;exact Calls.out_of (yBx _ _))|(go_at_call 98;exact Calls.out_of (a7.out _))|(go_at_call 100;exact Calls.out_of (ae.out _)))))
    exact xC4
   .have aj:Hid (yFh (L.map putE) (m+1+1)):=by
     refine yE7 HV.2 (p:=putE p) (e:=putE c) (by rw[getElem?_map,ad.out];rfl) (by rw[getElem?_map,a5.1];rfl) ?_;rw[yL8];rcases yJ4 (putE p) (putE c)with h|h|h
     .rw[h];rfl
     .rw[aa.out,h]at hneg;omega
     .rw[aa.out,h]at hneg;omega
    refine yAs qk qk ?_;repeat (go_big_quiet_step ((first|(go_at_call 99;exact Calls.out_of (yBx _ _))|(go_at_call 98;exact Calls.out_of (a7.out _))|(go_at_call 100;exact Calls.out_of (ae.out _)))))
    refine wpQuiet_nil ?_;rintro w2 ⟨⟨wx,hb2⟩,rfl⟩;refine zY ?_;exact⟨m+1+1,qo,by go_num,ac.out,aj.out,HW1.2.2.1.trans (hb2.mono HW1.2.2.1.size)⟩
  .have ah:k=L.length:=qo
   have HF:Hid (yC (L.map putE)):=by refine⟨⟨by rw[length_map];omega,λe he=>?_⟩,yJn HV.2 (by rw[length_map];omega)⟩;obtain⟨x,hx,rfl⟩:=List.mem_map.1 he;exact HV.1 x (by rw[take_of_length_le qo];exact hx)
   have zk:¬(k:Int)<(L.length:Int):=qo
   clear ah;go_wp2;go_ret;exact⟨_,rfl,iffT HF.out,hb⟩
theorem yLd (g cap:Nat) (L:List Ent) (base:Nat) w (hC:OwnC w base g cap L) (hok:∀e∈L,e.ok) (hn:L.length<=1048576):
  Calls prog 9 #[xg g L.length cap] w (yH0 (yC (L.map putE)) w):=by
 have HC:Hid (OwnC w base g cap L/\∀e∈L,e.ok):=⟨hC,hok⟩;clear hC hok;go_enter func9,ntmps9;go_wp2_with fail;refine(yYh g cap L base w HC.1 hn).mono ?_;rintro e w1 ⟨g1,a0,rfl,a1,a2⟩;have HO:Hid (OwnE w1 w g1 a0 (L.map putE)/\a0<=maxLen/\L.length<=a0):=by
  refine⟨a1,?_⟩;rcases a1.2 with⟨h0,_⟩|⟨g',a4,cur,hv,_,_,hn,a3,_,_⟩
  .cases h0
  .simp only[Value.slice.injEq,Option.some.injEq,Addr.mk.injEq,and_true,true_and]at hv;obtain⟨rfl,rfl⟩:=hv;rw[length_map]at hn;exact⟨a3,hn⟩
 have hl:L.length=(L.map putE).length:=(length_map ..).symm;have HV:Hid (Calls prog 43 #[.agg #[xg g1 L.length a0]] w1 λe w'=>∃r:Bool,e=.returned r/\(r=true↔yC (L.map putE))/\Below w1 w1 w'):=by show Calls _ _ _ _ _;have:=yHf g1 0 a0 (L.map putE) w1 HO.1.at (λe he=>by obtain⟨x,hx,rfl⟩:=List.mem_map.1 he;exact xEr (HC.2 x hx)) HO.1.lt.2 (by rw[length_map];exact HO.2.2) HO.2.1;rw[length_map]at this;exact this
 clear a1 hl;go_wp2_with fail;refine HV.mono ?_;rintro e w2 ⟨r,rfl,hr,hb2⟩;have HR:Hid (r=true↔yC (L.map putE)):=hr;clear hr;go_wp2;go_ret;exact⟨r,rfl,HR.out,a2.trans (hb2.mono a2.size)⟩
theorem yMl {f:α->List Value} (hf:∀x,(f x).length=sz):∀(es:List α) (i:Nat) (e e':α) (j:Nat) (u:Value),es[i]?=some e->j<sz->f e'=(f e).set j u->(es.flatMap f).set (i*sz+j) u=(es.set i e').flatMap f
 | [],i,e,e',j,u,h,_,_=>by simp at h
 |a::es,0,e,e',j,u,h,hj,he=>by
  simp at h;subst h
  rw[flatMap_cons,set_cons_zero,flatMap_cons,he,Nat.zero_mul,Nat.zero_add,set_append_left _ _ (by rw[hf];exact hj)]
 |a::es,i+1,e,e',j,u,h,hj,he=>by
  simp at h
  rw[flatMap_cons,set_cons_succ,flatMap_cons,<-yMl hf es i e e' j u h hj he,set_append_right _ _ (by rw[hf,Nat.add_mul];omega),hf,show(i+1)*sz+j-sz=i*sz+j by rw[Nat.add_mul];omega]
abbrev Ctr.kc (k:Ctr):List Value:= [.string k.row,.string k.fam,.string k.qual,.int .i64 k.count]
theorem yIf (k:Ctr):k.kc.length=4:=rfl
structure CkA (w:World) (base t g cap:Nat) (ks:List Ctr) (i:Nat) (k:Ctr) (most:Int):Prop where
 row:OwnG Ctr.kc 4 240 w base g cap ks
 at_:ks[i]?=some k
 p:(xk w t 0 (.pointer (some ⟨g,i*4,none⟩)):Prop)
 m:(xk w t 1 (xi most):Prop)
 tl:t<w.heap.size
 ne:¬t=g
variable {ks:List Ctr} {k:Ctr} {most:Int}
theorem CkA.cells {g:Nat} (h:CkA w base t g cap ks i k most):xk w g (i*4) k.row/\xk w g (i*4+1) k.fam/\xk w g (i*4+2) k.qual/\xk w g (i*4+3) (xi k.count):=
 ⟨h.row.cell yIf h.at_ 0 qj,h.row.cell yIf h.at_ 1 qj,h.row.cell yIf h.at_ 2 qj,h.row.cell yIf h.at_ 3 qj⟩
theorem CkA.frozen {g:Nat} (h:CkA w base t g cap ks i k most) (j:Nat):w.frozen? (xd g j)=false:=World.ownsRow.frozenAt h.row j
theorem CkA.on {g:Nat} (h:CkA w base t g cap ks i k most) (hb:Below w w W):CkA W base t g cap ks i k most:=
 ⟨h.row.below hb,h.at_,by rw[hb.cell (p:=(xd t 0)) h.tl];exact h.p,by rw[hb.cell (p:=(xd t 1)) h.tl];exact h.m,qv hb.size h.tl,h.ne⟩
theorem CkA.count {g:Nat} (h:CkA w base t g cap ks i k most) (v:Int):CkA (xt w g (i*4+3) (xi v)) base t g cap (ks.set i {k with count:=v}) i {k with count:=v} most:=by
 have hc:Chg (λq=>q=g) w (xt w g (i*4+3) (xi v)):=Chg.of_set _ _ _ _ rfl;have hi:i<ks.length:=qf h.at_;have h1:=(World.ownsRow.stored h.row (i*4+3) (xi v)).1;rw[yMl yIf ks i k {k with count:=v} 3 _ h.at_ (by decide) rfl]at h1;refine⟨by unfold OwnG;rw[length_set];exact h1,by rw[getElem?_set_self hi],?_,?_,qv hc.size h.tl,h.ne⟩
 .rw[hc.cell (p:=(xd t 0)) h.tl h.ne];exact h.p
 .rw[hc.cell (p:=(xd t 1)) h.tl h.ne];exact h.m
def TkP (base t g cap:Nat) (ks:List Ctr) (i:Nat) (k:Ctr) (most:Int) (w:World) (e:Ending) (w':World):Prop:=
 e=.returned (decide (k.count<most))/\CkA w' base t g cap (if k.count<most then ks.set i {k with count:=k.count+1}else ks) i (if k.count<most then {k with count:=k.count+1}else k) most/\Chg (λq=>q=g) w w'
theorem yL4 {g:Nat} (h:CkA w base t g cap ks i k most) (hc:0<=k.count/\k.count<=1000000):
  Calls prog 217 #[xp t] w (TkP base t g cap ks i k most w):=by
 have HC:=qH1 h;have p0:=h.p;have p1:=h.m;obtain⟨_,_,_,c3⟩:=h.cells;have f3:=h.frozen (i*4+3);obtain⟨ct,a0⟩:∃ct,k.count=ct:=⟨_,rfl⟩;obtain⟨o,ho⟩:∃o,i*4=o:=⟨_,rfl⟩;have HO:=qH2 ho a0;rw[a0]at c3 hc;rw[ho]at p0 c3 f3;clear h ho a0;by_cases hl:ct<most
 .have z:¬most<=ct:=qo
  have HR:Hid (∀q,TkP base t g cap ks i k most w (.returned true) (xt (w.drewN q) g (o+3) (xi (ct+1)))):=λq=>by have h9:=(HC.on (below_drewN (Below.refl _ _) q)).count (ct+1);rw[HO.1]at h9;unfold TkP;rw[HO.2,if_pos hl,if_pos hl];exact⟨by simp[hl],h9,(Chg.of_below (below_drewN (Below.refl _ _) q)).trans (Chg.of_set (S:=λq=>q=g) _ _ _ _ rfl)⟩
  exact xCn
 .have z:most<=ct:=qo
  have HR:Hid (∀q,TkP base t g cap ks i k most w (.returned false) (w.drewN q)):=λq=>by unfold TkP;rw[HO.2,if_neg hl,if_neg hl];exact⟨by simp[hl],HC.on (below_drewN (Below.refl _ _) q),Chg.of_below (below_drewN (Below.refl _ _) q)⟩
  exact xCn
def entC (c:Ent):Ctr:=⟨true,c.row,c.fam,c.qual,0⟩
theorem CkA.put {g:Nat} (h:CkA w base t g cap ks i k most) (k':Ctr) (hW:W=setCs w g (i*4) k'.kc):CkA W base t g cap (ks.set i k') i k' most/\Chg (λq=>q=g) w W:=by
 have hc:Chg (λq=>q=g) w W:=by rw[hW];exact yAl (S:=λq=>q=g) _ rfl _ _ _
 have hi:=qf h.at_;refine⟨⟨by rw[hW];exact h.row.setAll yIf hi,by rw[getElem?_set_self hi],?_,?_,by have:=hc.size;have:=h.tl;omega,h.ne⟩,hc⟩
 .rw[hc.cell (p:=(xd t 0)) h.tl h.ne];exact h.p
 .rw[hc.cell (p:=(xd t 1)) h.tl h.ne];exact h.m
def EnP (base t g cap:Nat) (ks:List Ctr) (i:Nat) (k:Ctr) (most:Int) (c:Ent) (same:Bool) (w:World) (e:Ending) (w':World):Prop:=
 e=.returned (.tuple #[])/\CkA w' base t g cap (if same=true then ks else ks.set i (entC c)) i (if same=true then k else entC c) most/\Chg (λq=>q=g) w w'
structure EnI (base t g cap:Nat) (ks:List Ctr) (i:Nat) (k:Ctr) (most:Int) (c:Ent) (b:Nat) (w wx:World):Prop where
 ck:CkA wx base t g cap ks i k most
 box:yA wx b 70 5 b c.five
 below:Below w w wx
variable {b:Nat} {wx:World}
theorem EnI.on {g:Nat} {c:Ent} {wy:World} (h:EnI base t g cap ks i k most c b w wx) (hb:Below wx wx wy):EnI base t g cap ks i k most c b w wy:=⟨h.ck.on hb,h.box.below hb,h.below.trans (hb.mono h.below.size)⟩
variable {o:Nat}
theorem EnI.S {g:Nat} {c:Ent} (h:EnI base t g cap ks i k most c b w wx) (ho:i*4=o):xk wx t 0 (.pointer (some ⟨g,o,none⟩))/\xk wx b 0 c.row/\xk wx b 1 c.fam/\xk wx b 2 c.qual/\xk wx b 3 (xu c.ts)/\xk wx b 4 c.val:=
 ⟨by rw[<-ho];exact h.ck.p,h.box.cell (j:=0) rfl,h.box.cell (j:=1) rfl,h.box.cell (j:=2) rfl,h.box.cell (j:=3) rfl,h.box.cell (j:=4) rfl⟩
theorem EnI.fin {g:Nat} {c:Ent} {V:World} (h:EnI base t g cap ks i k most c b w wx) (hV:V=setCs wx g (i*4) (entC c).kc):EnP base t g cap ks i k most c false w (.returned (.tuple #[])) V:=by obtain⟨h1,h2⟩:=h.ck.put (entC c) hV;exact⟨rfl,h1,(Chg.of_below h.below).trans h2⟩
theorem enter_core' {g:Nat} (h:CkA w base t g cap ks i k most) (c:Ent) (same:Bool):
  Calls prog 215 #[xp t,c.c,same] w (EnP base t g cap ks i k most c same w):=by
 obtain⟨W1,a1⟩:=qE (xw w #[c.row,c.fam,c.qual,xu c.ts,c.val] 70:World);have a4:=qN a1
 have H1:Hid (CkA W1 base t g cap ks i k most/\Below w w W1/\∀q,yA (W1.drewN q) w 70 5 w c.five):=⟨h.on a4,a4,λq=>by
  have h9:yA W1 w 70 5 w c.five:=by rw[a1];exact yAa w _ qr rfl
  exact h9.below (below_drewN (Below.refl _ _) q)⟩
 obtain⟨b,hb⟩:=qE w.heap.size;obtain⟨o,ho⟩:∃o,i*4=o:=⟨_,rfl⟩;have HO:Hid (i*4=o):=ho;have a5:Hid (EnI base t g cap ks i k most c b w W1.drew):=⟨H1.1.on ((Below.refl _ _).drew),by rw[hb];exact H1.2.2 1,H1.2.1.trans (((Below.refl _ _).drew).mono H1.2.1.size)⟩;have a7:Hid (∀wz,(xf 99 #[c.c] wz (putE c).v:Prop)):=λwz=>yBx c wz;have a6:Hid (∀wz,(xf 216 #[(putE c).v] wz (.agg #[c.row,c.fam,c.qual]):Prop)):=λwz=>yHr (putE c) wz;clear h a4 ho;cases same
 .go_enter func215,ntmps215;go_upto_region 1 with fail;rw[<-a1];clear a1;go_upto_region 2 with fail;rw[<-hb];clear hb;have hS0:SW (λwz:World=>xk wz t 0 (.pointer (some ⟨g,o,none⟩))/\xk wz b 0 c.row/\xk wz b 1 c.fam/\xk wz b 2 c.qual/\xk wz b 3 (xu c.ts)/\xk wz b 4 c.val) W1.drew:=a5.S HO.out;refine wpR 9 hS0 ?_;refine ja 0 hS0 ?_;refine ja 4 hS0 ?_;refine yB2 (i:=1) (j:=5) qk rfl rfl (λK hK=>?_) (λK hK=>?_)
  .skip;obtain⟨z0,z1,z2,z3,z4,z5⟩:=hS0;have hS0:=And.intro z0 (And.intro z1 (And.intro z2 (And.intro z3 (And.intro z4 z5))));go_simp;refine hK.out _ _ (.inr hS0) ?_;clear hK;refine jS ?_;refine ja 2 hS0 ?_;refine jb hS0 ?_;refine qO 5 rfl λK hK=>?_;go_simp;refine(a7.out _).mono ?_;rintro e wa ⟨rfl,a3⟩;have a2:=qH1 (a5.on a3);clear hS0 a3;have hS0:=a2.S HO.out;refine hK.out _ _ (.inr hS0) ?_;clear hK;refine jS ?_;refine qO 6 rfl λK hK=>?_;go_simp;refine(a6.out _).mono ?_;rintro e wb ⟨rfl,a0⟩;have HKwb:=qH1 (a2.on a0);clear hS0 a0;have hS0:=HKwb.S HO.out;refine hK.out _ _ (.inr hS0) ?_;clear hK;refine jS ?_;refine ja 7 hS0 ?_;exact xD7
  .skip;go_simp;refine(a7.out _).mono ?_;rintro e wa ⟨rfl,a3⟩;have a2:=qH1 (a5.on a3);clear hS0 a3;have hS0:=a2.S HO.out;refine hK.out _ _ (.inr hS0) ?_;clear hK;refine jS ?_;refine yB2 (i:=1) (j:=6) qk rfl rfl (λK hK=>?_) (λK hK=>?_)
   .skip;obtain⟨z0,z1,z2,z3,z4,z5⟩:=hS0;have hS0:=And.intro z0 (And.intro z1 (And.intro z2 (And.intro z3 (And.intro z4 z5))));go_simp;refine hK.out _ _ (.inr hS0) ?_;clear hK;refine jS ?_;refine ja 2 hS0 ?_;refine jb hS0 ?_;refine qO 6 rfl λK hK=>?_;go_simp;refine(a6.out _).mono ?_;rintro e wb ⟨rfl,a0⟩;have HKwb:=qH1 (a2.on a0);clear hS0 a0;have hS0:=HKwb.S HO.out;refine hK.out _ _ (.inr hS0) ?_;clear hK;refine jS ?_;refine ja 7 hS0 ?_;exact xD7
   .skip;go_simp;refine(a6.out _).mono ?_;rintro e wb ⟨rfl,a0⟩;have HKwb:=qH1 (a2.on a0);clear hS0 a0;have hS0:=HKwb.S HO.out;refine hK.out _ _ (.inr hS0) ?_;clear hK;refine jS ?_;refine ja 7 hS0 ?_;refine qO 1 rfl λK hK=>?_;obtain⟨z0,z1,z2,z3,z4,z5⟩:=hS0;have hS0:=And.intro z0 (And.intro z1 (And.intro z2 (And.intro z3 (And.intro z4 z5))));go_simp;refine hK.out _ _ (.inr hS0) ?_;clear hK;refine jS ?_;refine ja 2 hS0 ?_;refine jb hS0 ?_;exact xD7
 .have HR:Hid (EnP base t g cap ks i k most c true w (.returned (.tuple #[])) W1):=⟨rfl,H1.1,Chg.of_below H1.2.1⟩;go_enter func215,ntmps215;go_upto_region 1 with fail;rw[<-a1];clear a1;go_wp2_with fail;exact bodyPost_end (results_none rfl _ _ _) rfl HR.out
section
section
variable {P:Program} {ops:Array Oper} {Q:Exit->Act->World->Prop} {md:Region.Mode} {S:World->Prop} {L:Nat}
def yRb (md:Region.Mode) (ops:Array Oper):List Nat->Nat->Nat->Bool
 | [],i,L=>yDy md ops L i
 |m::ms,i,L=>yDy md ops m i && yRb md ops ms m L
variable {p:Nat}
theorem yPt {listed:Array Bool} (h:yDy md ops j p=true) (hun:listed.getD p true=false):¬j∈Region.ready md ops listed:=λhj=>by
 obtain⟨_,oj,hoj,hall⟩:=mem_ready.1 hj
 unfold yDy at h
 rw[hoj]at h
 simp only[Option.map_some,Option.getD_some,Array.any_eq_true]at h
 obtain⟨k,hk,hb⟩:=h
 rw[Bool.and_eq_true,beq_iff_eq]at hb
 have h1:=hall _ (Array.getElem_mem hk) hb.1
 rw[hb.2]at h1
 rcases Nat.lt_or_ge p listed.size with h'|h'
 .simp[h']at hun h1;rw[hun]at h1;cases h1
 .simp[Array.getElem?_eq_none h']at h1
theorem yRa {listed:Array Bool}:∀(ms:List Nat) (i:Nat),yRb md ops ms i L=true->listed.getD i true=false->(∀m∈ms,listed.getD m true=false)->∀j∈Region.ready md ops listed,¬j∈ms/\j≠L
 | [],i,h,hi,_,j,hj=>⟨by simp,λq=>yPt h hi (q▸hj)⟩
 |m::ms,i,h,hi,hm,j,hj=>by
  unfold yRb at h
  rw[Bool.and_eq_true]at h
  obtain⟨h1,h2⟩:=yRa ms m h.2 (hm m (by simp)) (λx hx=>hm x (by simp[hx])) j hj
  refine⟨λq=>?_,h2⟩
  rcases mem_cons.1 q with rfl|q
  .exact yPt h.1 hi hj
  .exact h1 q
variable {oi:Oper}
theorem yT6 {v:Value} (ms:List Nat) (hi:ops[i]?=some oi) (hsel:∀(j:Nat) (o:Oper) cs b,ops[j]?=some o->o.op≠ .select cs b)
  (hQ:∀c a w,Q (.panic c) (a.put oi.dst v) w->Q (.panic c) a w) (hL:yRb md ops ms i L=true):
  ∀(fuel:Nat) (listed:Array Bool) (a:Act) (w:World),(∀m∈ms,listed.getD m true=false)->
   (∀j oj,ops[j]?=some oj->j≠i->listed.getD j true=false->(∀e∈oj.after,Region.binds md e=true->e.on≠i)->oi.apart ops oj=true)->
   i∈Region.ready md ops listed->YieldsIf P ops S oi v a->S w->
   AnyT P md ops Q S L fuel (listed.setIfInBounds i true) (a.put oi.dst v) w->AnyT P md ops Q S L (fuel+1) listed a w:=by
 intro fuel;induction fuel with
 |zero=>
  intro listed a w _ _ hr hy hS H;refine⟨λh=>(by rw[h]at hr;cases hr),λj hj=>?_⟩;by_cases hji:j=i
  .subst hji;exact hy.wpOp hi hS ⟨.inr hS,H⟩
  .have:=ready_mono hj hji;rw[H.1]at this;cases this
 |succ fuel ih=>
  intro listed a w a1 a3 hr hy hS H;refine⟨λh=>(by rw[h]at hr;cases hr),λj hj=>?_⟩;by_cases hji:j=i
  .subst hji;exact hy.wpOp hi hS ⟨.inr hS,H⟩
  .have h1:=H.2 j (ready_mono hj hji);obtain⟨a6,a8⟩:=yRa ms i hL (mem_ready.1 hr).1 a1 j hj;obtain⟨a2,oj,a0,aa⟩:=mem_ready.1 hj;have a4:∀e∈oj.after,Region.binds md e=true->e.on≠i:=λe he hb heq=>by
    have h1:=aa e he hb;have h0:=(mem_ready.1 hr).1;rw[heq]at h1;rcases Nat.lt_or_ge i listed.size with h'|h'
    .simp[h']at h0 h1;rw[h0]at h1;cases h1
    .simp[Array.getElem?_eq_none h']at h1
   have h2:=wpOp_putIf a0 (a3 j oj a0 hji a2 a4) (λcs b=>hsel i oi cs b hi) (λcs b=>hsel j oj cs b a0) hQ hy h1
   have a9:∀k ok,ops[k]?=some ok->k≠i->(listed.setIfInBounds j true).getD k true=false->
     (∀e∈ok.after,Region.binds md e=true->e.on≠i)->oi.apart ops ok=true:=λk ok hk hki hun hno=>by
    refine a3 k ok hk hki ?_ hno;by_cases hjk:j=k
    .subst hjk;exact a2
    .rw[getD_set_ne true hjk]at hun;exact hun
   have a5:∀m∈ms,(listed.setIfInBounds j true).getD m true=false:=λm hm=>by have a7:j≠m:=λq=>a6 (q▸hm);rw[getD_set_ne true a7];exact a1 m hm
   refine wpOp_mono (λa' w' h3=>⟨h3.2.1,ih (listed.setIfInBounds j true) a' w' a5 a9 (ready_mono hr (Ne.symm hji)) h3.1 (h3.2.1.resolve_left a8) ?_⟩) h2;rw[Array.setIfInBounds_comm _ _ hji];exact h3.2.2
theorem yAi (ms:List Nat) (i:Nat) (v:Value) {listed:Array Bool} {a:Act} (hi:ops[i]?=some oi)
  (hy:∀w,S w->(execOp a.eval oi).run P w=.ok (.value v) w) (hS:S w)
  (h:AnyT P md ops Q S L fuel (listed.setIfInBounds i true) (a.put oi.dst v) w)
  (hs:Region.noSelect ops=true:=by kernel_rfl) (hf:Region.free md ops listed i=true:=by kernel_rfl) (hr:(Region.ready md ops listed).contains i=true:=by kernel_rfl) (hL:yRb md ops ms i L=true:=by kernel_rfl)
  (hm:(ms.all λm=> !listed.getD m true)=true:=by kernel_rfl)
  (hQ:∀c a w,Q (.panic c) (a.put oi.dst v) w->Q (.panic c) a w:=by exact λ_ _ _ h=>h) (hw:Region.wanted oi (yielded ops a.tmps)=true:=by rfl):AnyT P md ops Q S L (fuel+1) listed a w:=
 yT6 ms hi (Region.noSelect_spec hs) hQ hL fuel listed a w (λm hx=>by have:=all_eq_true.1 hm m hx;simpa using this) (Region.free_spec hi hf) (by simpa using hr) (Or.inl ⟨hw,hy⟩) hS h
end
end
theorem yA.setCs {g:Nat} {L:List Value} (h:yA w base t sz g L) (vs:List Value):yA (Go.Proofs.YtnnagkfoiganfaaGreatDoor.setCs w g 0 vs) base t sz g (setL L 0 vs):=yBu (v:=(xg g 1 1)) rfl ⟨1,rfl⟩ vs 0 w L h
structure MeI (n:Nd) (k:Ctr) (c:Ent) (w wr:World):Prop where
 n:yA wr w 83 7 w n.seven
 k:yA wr w 198 5 (w+1) k.five
 c:yA wr w 70 5 (w+2) c.five
 r:yA wr w 198 5 (w+3) newC.five
 below:Below w w wr
theorem MeI.setK {k':Ctr} {c:Ent} (h:MeI n k c w wr) (hW:W=setCs wr (w+1) 0 k'.five):MeI n k' c w W:=by
 have hc:Chg (λq=>q=w.heap.size+1) wr W:=by rw[hW];exact yAl (S:=λq=>q=w.heap.size+1) _ rfl _ _ _
 refine⟨h.n.chg hc qo,by rw[hW];exact h.k.setCs k'.five,h.c.chg hc qo,h.r.chg hc qo,Chg.below h.below hc h.below.size (λq e=>qo)⟩
theorem MeI.setR {c:Ent} (h:MeI n k c w wr) (hW:W=setCs wr (w+3) 0 k.five):yA W w 198 5 (w+3) k.five/\Below w w W:=by
 have hc:Chg (λq=>q=w.heap.size+3) wr W:=by rw[hW];exact yAl (S:=λq=>q=w.heap.size+3) _ rfl _ _ _
 exact⟨by rw[hW];exact h.r.setCs k.five,Chg.below h.below hc h.below.size (λq e=>qo)⟩
theorem MeI.up {c:Ent} (h:MeI n k c w wr) (v:Int):MeI n {k with count:=v} c w (xt wr (w+1) 4 (xi v)):=by have hc:Chg (λq=>q=w.heap.size+1) wr (xt wr (w+1) 4 (xi v)):=Chg.of_set _ _ _ _ rfl;exact⟨h.n.chg hc qo,h.k.set 4 _,h.c.chg hc (by omega),h.r.chg hc (by omega),Chg.below h.below hc h.below.size (λq e=>by omega)⟩
theorem MeI.on {c:Ent} (h:MeI n k c w wr) (hb:Below wr wr W):MeI n k c w W:=⟨h.n.below hb,h.k.below hb,h.c.below hb,h.r.below hb,h.below.trans (hb.mono h.below.size)⟩
theorem MeI.new (n:Nd) (k:Ctr) (c:Ent) (w W0:World) (hW0:W0=(xw (((w.alloc (Obj.cells #[xi n.kind,n.s,n.hi,n.t,xu n.lo,xu n.up,xi n.n] 83)).alloc (Obj.cells #[k.used,k.row,k.fam,k.qual,xi k.count] 198)).alloc (Obj.cells #[c.row,c.fam,c.qual,xu c.ts,c.val] 70)) #[false,xe,xe,xe,xi 0] 198)):MeI n k c w W0:=by obtain⟨a,b,d,e,f⟩:=box4 hW0;exact⟨a,b,d,e,f⟩
theorem yY6 (n:Nd) (k:Ctr) (c:Ent) (w:World) (hk:n.kind=11∨n.kind=12∨n.kind=13) (hc:0<=k.count/\k.count<=1000000):
  (xf 121 #[n.v,k.v,c.c] w (.tuple #[(yCh n k c).1,(yCh n k c).2.v]):Prop):=by
 obtain⟨W0,aa⟩:=qW (xw (((w.alloc (Obj.cells #[xi n.kind,n.s,n.hi,n.t,xu n.lo,xu n.up,xi n.n] 83)).alloc (Obj.cells #[k.used,k.row,k.fam,k.qual,xi k.count] 198)).alloc (Obj.cells #[c.row,c.fam,c.qual,xu c.ts,c.val] 70)) #[false,xe,xe,xe,xi 0] 198);have H0:=qH1 (MeI.new n k c w W0 aa);obtain⟨sm,ab⟩:=qE (yPj n k c);have a4:=qH1 ab;obtain⟨k1,a3⟩:=qE (yC4 n k c);have a1:=qH2 a3 (by rw[a3];rfl:yCh n k c=if k1.count<n.n then(decide (¬n.kind=13),{k1 with count:=k1.count+1})else(decide (n.kind=13),k1));have af:0<=k1.count/\k1.count<=1000000:=by rw[a3];unfold yC4;split<;>simp_all
 obtain⟨M,hM⟩:=qE (yCh n k c);have HM:=qH1 hM;rw[<-hM];clear ab a3 hM;obtain⟨e1,h1⟩:∃b,(k.row.toList==c.row.toList)=b:=⟨_,rfl⟩;obtain⟨e2,h2⟩:∃b,(k.fam.toList==c.fam.toList)=b:=⟨_,rfl⟩;obtain⟨e3,h3⟩:∃b,(k.qual.toList==c.qual.toList)=b:=⟨_,rfl⟩;obtain⟨us,a6⟩:∃us,k.used=us:=⟨_,rfl⟩;obtain⟨kd,a7⟩:∃kd,n.kind=kd:=⟨_,rfl⟩;have a5:Hid (sm=(us && e1 && (!decide (kd=11) || (e2 && e3)))):=by show _=_;rw[a4.out];unfold yPj eqB;rw[h1,h2,h3,a6,a7]
 have HU:=qH2 a6 a7;clear a6 a7;go_enter func121,ntmps121;go_upto_region 1 with fail;rw[<-aa];clear aa;have n0:=H0.n.cell (j:=0) rfl;obtain⟨x0,x1,x2,x3⟩:=H0.k.c4;obtain⟨y0,y1,y2⟩:=H0.c.c3;rw[HU.1]at x0;rw[HU.2]at n0 hk;go_cut[8] (λv wx=>v=(us && e1)/\wx=W0);case first=>
  cases us<;>cases e1
  all_goals
   go_wp2_with fail
   go_meet
   exact⟨rfl,rfl⟩
 case rest=>
  obtain⟨rfl,rfl⟩:=hcut;go_upto_if 21 with fail;go_cut[8] (λv wx=>v=sm/\wx=wc);case first=>
   obtain⟨s1,ac⟩:∃s1,(us && e1)=s1:=⟨_,rfl⟩;rw[ac]at a5⊢;by_cases k11:kd=11
   .subst k11;cases s1<;>cases e2<;>cases e3
    all_goals
     go_wp2_with fail
     go_meet
     exact⟨by rw[a5.out];rfl,rfl⟩
   .have kb:=qn k11
    have ag:Hid (sm=s1):=by show _=_;rw[a5.out];simp[k11]
    go_wp2_with fail;go_meet;exact⟨by rw[ag.out],rfl⟩
  case rest=>
   obtain⟨rfl,rfl⟩:=hcut;go_upto_if 38 with fail;go_cut[] (λwx=>Hid (MeI n k1 c w wx));case first=>
    rcases(show sm=true∨sm=false by cases sm<;>simp)with rfl|rfl
    .have a2:k1=k:=by rw[a1.1];unfold yC4;rw[<-a4.out];rfl
     go_wp2_with fail;go_meet;rw[a2];exact H0.out
    .have a2:k1=⟨true,c.row,c.fam,c.qual,0⟩:=by rw[a1.1];unfold yC4;rw[<-a4.out];rfl
     have x4:=H0.k.cell (j:=4) rfl;have f:=H0.k.frozen;obtain⟨W1,a9⟩:=qW (setCs wc (w+1) 0 (⟨true,c.row,c.fam,c.qual,0⟩:Ctr).five);have HR:Hid (MeI n k1 c w W1):=by rw[a2];exact H0.setK a9
     simp only[setCs,Nat.reduceAdd]at a9;clear a2;go_wp2_with fail;rw[<-a9];go_meet;exact HR.out
   case rest=>
    have H1:=qH1 hcut;clear hcut H0 a4 a5 n0 x0 x1 x2 x3 y0 y1 y2;have m0:=H1.n.cell (j:=0) rfl;have m6:=H1.n.cell (j:=6) rfl;have x4:=H1.k.cell (j:=4) rfl;have f4:=H1.k.frozen 4;rw[HU.2]at m0;obtain⟨ct,ae⟩:∃ct,k1.count=ct:=⟨_,rfl⟩;obtain⟨nn,ad⟩:∃nn,n.n=nn:=⟨_,rfl⟩;rw[ae]at x4 af a1;rw[ad]at m6 a1;have fin:∀(k2:Ctr) (b:Bool) (W:World),MeI n k2 c w W->M=(b,k2)->Hid (∀V,V=setCs W (w+3) 0 k2.five->xk V (w+3) 0 k2.used/\xk V (w+3) 1 k2.row/\xk V (w+3) 2 k2.fam/\xk V (w+3) 3 k2.qual/\xk V (w+3) 4 (xi k2.count)/\Below w w V):=λk2 b W h9 hM9 V hV=>by obtain⟨q1,q2⟩:=h9.setR hV;exact⟨q1.cell (j:=0) rfl,q1.cell (j:=1) rfl,q1.cell (j:=2) rfl,q1.cell (j:=3) rfl,q1.cell (j:=4) rfl,q2⟩
    have HF:=qH1 fin;clear fin;by_cases hl:ct<nn
    .obtain⟨k2,a0⟩:=qE ({k1 with count:=ct+1}:Ctr);have HMe:Hid (M=(decide (¬kd=13),k2)):=by show _=_;rw[HM.out,a1.2,if_pos hl,a0,HU.2]
     obtain⟨W2,a8⟩:=qW (xt wc (w+1) 4 (xi (ct+1)));have H2:Hid (MeI n k2 c w W2):=by rw[a0,a8];exact H1.up _
     clear a0;go_upto_region 9 with fail;rw[<-a8];clear a8 m0 m6 x4 f4 H1;have m0:=H2.n.cell (j:=0) rfl;rw[HU.2]at m0;obtain⟨q0,q1,q2,q3,q4⟩:=H2.k.c5;obtain⟨r0,r1,r2,r3,r4⟩:=H2.r.c5;have rf:=H2.r.frozen;obtain⟨V,hV⟩:=qW (setCs W2 (w+1+1+1) 0 k2.five);obtain⟨v0,v1,v2,v3,v4,hbV⟩:=(HF.out k2 _ W2 H2.out HMe.out).out V hV;exact xGk
    .obtain⟨k2,a0⟩:=qE (k1:Ctr);have HMe:Hid (M=(decide (kd=13),k2)):=by show _=_;rw[HM.out,a1.2,if_neg hl,a0,HU.2]
     have H2:Hid (MeI n k2 c w wc):=by rw[a0];exact H1.out
     clear a0;go_upto_region 9 with fail;clear m0 m6 x4 f4 H1;have m0:=H2.n.cell (j:=0) rfl;rw[HU.2]at m0;obtain⟨q0,q1,q2,q3,q4⟩:=H2.k.c5;obtain⟨r0,r1,r2,r3,r4⟩:=H2.r.c5;have rf:=H2.r.frozen;obtain⟨V,hV⟩:=qW (setCs wc (w+1+1+1) 0 k2.five);obtain⟨v0,v1,v2,v3,v4,hbV⟩:=(HF.out k2 _ wc H2.out HMe.out).out V hV;exact xGk
structure StA (w:World) (p o:Nat) (x:Ix) (kf:Nat) (rv:Value) (kh:Nat) (hv:Value):Prop where
 fr:(xk w p (o+3) x.free:Prop)
 kd:(xk w p (o+4) (xi x.leaf.kind):Prop)
 lets:(xk w p (o+11) (.func (Fn.func kf) #[rv] #[]):Prop)
 hnt:(xk w p (o+12) (.func (Fn.func kh) #[hv] #[]):Prop)
 lt:p<w.heap.size
variable {p kf kh:Nat} {rv hv:Value}
theorem StA.chg {S:Nat->Prop} (h:StA w p o x kf rv kh hv) (hc:Chg S w W) (hn:¬S p):StA W p o x kf rv kh hv:=
 ⟨by rw[hc.cell (p:=(xd p _)) h.lt hn];exact h.fr,by rw[hc.cell (p:=(xd p _)) h.lt hn];exact h.kd,by rw[hc.cell (p:=(xd p _)) h.lt hn];exact h.lets,by rw[hc.cell (p:=(xd p _)) h.lt hn];exact h.hnt,Nat.lt_of_lt_of_le h.lt hc.size⟩
structure LvB (w W:World) (p o:Nat) (x:Ix) (kf:Nat) (rv:Value) (kh:Nat) (hv:Value) (i:It) (c:Ent) (r:List Value):Prop where
 st:StA W p o x kf rv kh hv
 bi:yA W w 181 4 w i.four
 bc:yA W w 70 5 (w+1) c.five
 br:yA W w 181 4 (w+2) r
variable {W':World} {i:It}
theorem LvB.chg {S:Nat->Prop} {c:Ent} {r:List Value} (h:LvB w W p o x kf rv kh hv i c r) (hc:Chg S W W') (hS:∀q,S q->q<w.heap.size/\¬q=p):LvB w W' p o x kf rv kh hv i c r:=
 ⟨h.st.chg hc (λq=>(hS _ q).2 rfl),h.bi.chg hc (λq=>qw ((hS _ q).1)),h.bc.chg hc (λq=>qw ((hS _ q).1)),h.br.chg hc (λq=>qw ((hS _ q).1))⟩
theorem LvB.start (h:StA w p o x kf rv kh hv) (i:It) (c:Ent) (r:Array Value) (hr:r.size=4)
  (hW:W=(xw ((w.alloc (Obj.cells i.four.toArray 181)).alloc (Obj.cells c.five.toArray 70)) r 181)):LvB w W p o x kf rv kh hv i c r.toList/\Below w w W:=by
 obtain⟨b1,b2,b3,k⟩:=box3 hW;rw[hr]at b3;exact⟨⟨h.chg (S:=λ_=>False) (Chg.of_below k) id,b1,b2,b3⟩,k⟩
def EntF (k:Nat):Prop:=∀(a:Array Value) (w:World),(callFunc k a).run prog w=.ok (.enter k a) w
def LfP (w:World) (R:World->World->Prop) (W:World):Prop:=∃W1 W2,Below w w W1/\R W1 W2/\Chg (λq=>w.heap.size<=q) W2 W
theorem yZd {c:Ent} (ha:i.alive=false):
  (xf 156 #[.pointer (some ⟨p,o,none⟩),i.v,c.c] w i.v:Prop):=by
 obtain⟨al,sp,⟨rk,tx⟩⟩:=i;dsimp only at ha;subst ha;go_enter func156,ntmps156;go_wp2;exact bodyPost_ret (v:=.agg #[false,sp,xi rk,tx]) (by simp[results,results156,go_sem]) rfl ⟨rfl,zBl⟩
variable {p:Prop}
theorem zYs (h:p:=by intro wz hSw;obtain⟨z0,z1,z2,z3,z4,z5⟩:=hSw;go_simp;(try with_reducible rfl)):p:=h
theorem zLd (h:p:=by
 obtain⟨v0,v1,v2,v3⟩:=hbV.c4;have hP:LfP w R V:=by obtain⟨W1,W2,a,b,cc⟩:=HP9.out;refine⟨W1,W2,a,b,cc.trans ?_⟩;rw[hV];exact yAl (S:=λq=>w.heap.size<=q) _ (by show _<=_;omega) _ _ _
 simp only[setCs,yBl,Nat.reduceAdd]at hV;rw[<-hV];exact bodyPost_ret (v:=rs.v) (by rw[HSq.out];simp[results,results156,go_sem,v0,v1,v2,v3,yBl,noH]) rfl ⟨rfl,hP⟩):p:=h
theorem zLt (h:p:=by
 obtain⟨U,hU⟩:=qE (xt w2 w 1 true:World);obtain⟨V,hV⟩:=qW (setCs U (w+1+1) 0 [true,true,xi rk,tx]);have hbV:yA V w 181 4 (w+1+1) [true,true,xi rk,tx]:=by rw[hV,hU];exact(br.beside qo 1 _).setCs _
 exact xGs):p:=h
theorem zLu (h:p:=by
 obtain⟨U,hU⟩:=qE (xt w2 w 1 false:World);obtain⟨V,hV⟩:=qW (setCs U (w+1+1) 0 [true,false,xi rk,tx]);have hbV:yA V w 181 4 (w+1+1) [true,false,xi rk,tx]:=by rw[hV,hU];exact(br.beside qo 1 _).setCs _
 exact xGs):p:=h
theorem yP6 {p:Nat} {c d:Ent} {b:Bool} {H:Hn} {S:Nat->Prop} {R:World->World->Prop} (ha:i.alive=true) (hkf:Hid (EntF kf)) (hkh:Hid (EntF kh))
  (h:StA w p o x kf rv kh hv) (hd:d=yB i c) (hR:∀W W',R W W'->Chg S W W') (hS:∀q,S q->q<w.heap.size/\¬q=p)
  (hl:∀W,Below w w W->Calls prog kf #[rv,d.c] W λe w'=>e=.returned b/\R W w')
  (hh:∀W,LfP w R W->(xf kh #[hv,d.c] W H.v:Prop)):
  Calls prog 156 #[.pointer (some ⟨p,o,none⟩),i.v,c.c] w λe w'=>e=.returned (if b=true then(⟨true,i.strip || decide (x.leaf.kind=3),i.hint⟩:It)else yBl (if x.free=true then H else noH)).v/\LfP w R w':=by
 obtain⟨al,sp,⟨rk,tx⟩⟩:=i;dsimp only at ha;subst ha;obtain⟨i,hi⟩:=qE (⟨true,sp,⟨rk,tx⟩⟩:It);have av:Hid (∀W,(xf 106 #[.agg #[true,sp,xi rk,tx],c.c] W d.c:Prop)):=λW=>by rw[hd];exact yJf ⟨true,sp,⟨rk,tx⟩⟩ c W
 have HL:=qH1 hl;have HH:=qH1 hh;obtain⟨zr,ae⟩:∃zr:List Value,zr= [.bool false,.bool false,.int .i64 0,.string ⟨#[]⟩]:=⟨_,rfl⟩;obtain⟨W0,ai⟩:=qW (xw ((w.alloc (Obj.cells #[true,sp,xi rk,tx] 181)).alloc (Obj.cells #[c.row,c.fam,c.qual,xu c.ts,c.val] 70)) #[false,false,xi 0,xe] 181);have ak:Hid (LvB w W0 p o x kf rv kh hv i c zr/\Below w w W0):=by rw[ae,hi];exact LvB.start h ⟨true,sp,⟨rk,tx⟩⟩ c #[false,false,xi 0,xe] rfl ai
 obtain⟨rs,af⟩:=qE ((if b=true then(⟨true,sp || decide (x.leaf.kind=3),⟨rk,tx⟩⟩:It)else yBl (if x.free=true then H else noH)):It);have aw:=qH1 af;rw[<-af];clear hl hh hd af;go_enter func156,ntmps156;go_wp2_with fail;refine(av.out _).mono ?_;rintro e w1 ⟨rfl,ad⟩;rw[<-ai]at ad;clear ai;have a8:=ak.1.chg (S:=λ_=>False) (Chg.of_below ad) (λq k=>k.elim);obtain⟨V,hV⟩:=qW (setCs w1 (w+1) 0 d.five);have ab:Chg (λq=>q=w.heap.size+1) w1 V:=by rw[hV];exact yAl (S:=λq=>q=w.heap.size+1) _ rfl _ _ _
 have hbV:Below w w V:=by have h1:=ak.2.trans (ad.mono ak.2.size);exact Chg.below h1 ab h1.size (λq e=>qo)
 have hp:=h.lt;have a3:Hid (LvB w V.drew p o x kf rv kh hv i d zr/\Below w w V.drew):=by refine⟨LvB.chg (S:=λ_=>False) ⟨a8.st.chg ab (by show¬p=_;omega),a8.bi.chg ab (by show¬_=_;omega),?_,a8.br.chg ab (by show¬_=_;omega)⟩ (Chg.of_below ((Below.refl _ _).drew)) (λq k=>k.elim),hbV.drew⟩;rw[hV];exact a8.bc.setCs d.five
 obtain⟨x0,x1,x2,x3,x4⟩:=a8.bc.c5;have fz:=a8.bc.frozen;simp only[setCs,Nat.reduceAdd]at hV;clear a8 ab ad hbV;go_upto_region 4 with fail;rw[<-hV];clear hV x0 x1 x2 x3 x4 fz;have a0:SW (λwz:World=>xk wz p (o+11) (.func (Fn.func kf) #[rv] #[])/\xk wz (w+1) 0 d.row/\xk wz (w+1) 1 d.fam/\xk wz (w+1) 2 d.qual/\xk wz (w+1) 3 (xu d.ts)/\xk wz (w+1) 4 d.val) V.drew:=⟨a3.1.st.lets,a3.1.bc.cell (j:=0) rfl,a3.1.bc.cell (j:=1) rfl,a3.1.bc.cell (j:=2) rfl,a3.1.bc.cell (j:=3) rfl,a3.1.bc.cell (j:=4) rfl⟩;refine wpR 5 a0 ?_;refine yAi [1,2,3] 0 ?v0x rfl ?y0x a0 ?_;case y0x=>exact zYs
 refine jS ?_;refine yAi [2,3] 1 ?v1x rfl ?y1x a0 ?_;case y1x=>exact zYs
 refine jS ?_;refine yAi [3] 2 ?v2x rfl ?y2x a0 ?_;case y2x=>exact zYs
 refine jS ?_;refine yAi [] 3 ?v3x rfl ?y3x a0 ?_;case y3x=>exact zYs
 refine jS ?_;refine yAi [] 4 ?v4x rfl ?y4x a0 ?_;case y4x=>exact zYs
 refine jS ?_;refine qO 5 rfl λK hK=>?_;go_simp;rw[hkf.out];go_simp;refine(HL.out _ a3.2).mono ?_;rintro e w2 ⟨rfl,ag⟩;refine hK.out _ _ (.inl rfl) ?_;clear hK;refine jS ?_;refine qD ?_;have a1:=a3.1.chg (hR _ _ ag) hS;have HP2:Hid (LfP w R w2):=⟨_,_,a3.2,ag,Chg.refl _ _⟩;clear a0 ag a3;obtain⟨i0,i1,i2,i3⟩:=a1.bi.c4;have fi:=a1.bi.frozen;have br:=a1.br;rw[ae]at br;obtain⟨r0,r1,r2,r3⟩:=br.c4;have fr:=br.frozen;rw[hi]at i0 i1 i2 i3;dsimp only at i0 i1 i2 i3;have ck:=a1.st.kd;have cf:=a1.st.fr;have ax:=a1.st.lt;have ay:=h.lt;have n0:¬p=w.heap.size:=qo
 have n2:¬p=w.heap.size+1+1:=qo
 have a6:=aw.out;cases b
 .rw[if_neg (by simp)]at a6;have HSt:=qH1 a6;have n3:¬w.heap.size+1+1=w2.heap.size:=qw br.lt.2
  have n4:¬p=w2.heap.size:=qo
  clear a6;obtain⟨W9,a7⟩:=qW (xw w2 #[false,false,xi 0,xe] 181);have a9:=qN a7
  have HP9:Hid (LfP w R W9):=by obtain⟨W1,W2,a,b,cc⟩:=HP2.out;exact⟨W1,W2,a,b,cc.trans (Chg.of_below a9)⟩
  cases hxf:x.free
  .rw[hxf]at cf;have HSq:Hid (rs=yBl noH):=by show _=_;rw[HSt.out,hxf];rfl
   have a2:=br.below a9;have au:=(a1.st.chg (S:=λ_=>False) (Chg.of_below a9) id).fr;rw[hxf]at au;have bm:yA W9 w 181 4 w2 [false,false,xi 0,xe]:=by rw[a7];exact yAa w2 _ (qw br.lt) rfl
   obtain⟨m0,m1,m2,m3⟩:=bm.c4;obtain⟨s0,s1,s2,s3⟩:=a2.c4;have fs:=a2.frozen;obtain⟨V,hV⟩:=qW (setCs W9 (w+1+1) 0 [false,false,xi 0,xe]);have aj:Hid (yA V w 181 4 (w+1+1) [false,false,xi 0,xe]):=by show yA V _ _ _ _ _;rw[hV];exact a2.setCs _
   have HV:=qH1 hV;clear a1 a9 a2 hV bm;go_upto_region 8 with fail;rw[<-a7];clear a7 i0 i1 i2 i3 fi r0 r1 r2 r3 fr br ck cf;go_wp2_with fail;have hbV:=aj.out;have hV:=HV.out;exact zLd
  .rw[hxf]at cf;have HSq:Hid (rs=yBl H):=by show _=_;rw[HSt.out,hxf];rfl
   have am:LfP w R W9.drew:=by obtain⟨W1,W2,a,b,cc⟩:=HP9.out;exact⟨W1,W2,a,b,cc.trans (Chg.of_below ((Below.refl _ _).drew))⟩
   have aq:=(a1.chg (S:=λ_=>False) (Chg.of_below a9) (λq k=>k.elim)).chg (S:=λ_=>False) (Chg.of_below ((Below.refl _ _).drew)) (λq k=>k.elim);have bm:yA W9.drew w 181 4 w2 [false,false,xi 0,xe]:=by refine yA.below (w:=W9) ?_ ((Below.refl _ _).drew);rw[a7];exact yAa w2 _ (qw br.lt) rfl
   have a4:=qH3 aq bm am;clear a1 a9 aq bm am;go_upto_region 9 with fail;rw[<-a7];clear a7 i0 i1 i2 i3 fi r0 r1 r2 r3 fr br ck cf;have a0:SW (λwz:World=>xk wz p (o+12) (.func (Fn.func kh) #[hv] #[])/\xk wz (w+1) 0 d.row/\xk wz (w+1) 1 d.fam/\xk wz (w+1) 2 d.qual/\xk wz (w+1) 3 (xu d.ts)/\xk wz (w+1) 4 d.val) W9.drew:=⟨a4.1.st.hnt,a4.1.bc.cell (j:=0) rfl,a4.1.bc.cell (j:=1) rfl,a4.1.bc.cell (j:=2) rfl,a4.1.bc.cell (j:=3) rfl,a4.1.bc.cell (j:=4) rfl⟩;refine wpR 7 a0 ?_;refine yAi [1,2,3,5] 0 ?vv0d rfl ?yy0d a0 ?_;case yy0d=>exact zYs
   refine jS ?_;refine yAi [2,3,5] 1 ?vv1d rfl ?yy1d a0 ?_;case yy1d=>exact zYs
   refine jS ?_;refine yAi [3,5] 2 ?vv2d rfl ?yy2d a0 ?_;case yy2d=>exact zYs
   refine jS ?_;refine yAi [5] 3 ?vv3d rfl ?yy3d a0 ?_;case yy3d=>exact zYs
   refine jS ?_;refine yAi [5] 4 ?vv4d rfl ?yy4d a0 ?_;case yy4d=>exact zYs
   refine jS ?_;refine qO 5 rfl λK hK=>?_;go_simp;rw[hkh.out];go_simp;refine(HH.out _ a4.2.2).mono ?_;rintro e w3 ⟨rfl,ac⟩;have a5:=a4.1.chg (S:=λ_=>False) (Chg.of_below ac) (λq k=>k.elim);have aa:=a4.2.1.below ac;have ao:LfP w R w3:=by obtain⟨W1,W2,a,b,cc⟩:=a4.2.2;exact⟨W1,W2,a,b,cc.trans (Chg.of_below ac)⟩
   have a0:=SWm a0 w3 <|⟨a5.st.hnt,a5.bc.cell (j:=0) rfl,a5.bc.cell (j:=1) rfl,a5.bc.cell (j:=2) rfl,a5.bc.cell (j:=3) rfl,a5.bc.cell (j:=4) rfl⟩;refine hK.out _ _ (.inr a0) ?_;clear hK;refine jS ?_;refine yAi [] 6 ?vv6d rfl ?yy6d a0 ?_;case yy6d=>exact zYs
   refine jS ?_;obtain⟨c2,c3⟩:=And.intro (aa.cell (j:=2) rfl) (aa.cell (j:=3) rfl);have fm:=aa.frozen;obtain⟨X,hX⟩:=qW (setCs w3 w2 2 H.two);have ah:Chg (λq=>q=w2.heap.size) w3 X:=by rw[hX];exact yAl (S:=λq=>q=w2.heap.size) _ rfl _ _ _
   have ar:yA X w 181 4 w2 (It.four (yBl H)):=by rw[hX];exact yBu (v:=(xg w2 1 1)) rfl ⟨1,rfl⟩ _ 2 w3 _ aa
   have a2:=a5.br.chg ah (by show¬_=_;omega);have HP9:Hid (LfP w R X):=by obtain⟨W1,W2,a,b,cc⟩:=ao;exact⟨W1,W2,a,b,cc.trans (ah.mono (λq e=>by show _<=_;have:=aa.lt;omega))⟩
   simp only[setCs,Nat.reduceAdd]at hX;clear a5 ao ah aa ac;refine qO 7 rfl λK hK=>?_;go_simp;rw[<-hX];clear hX c2 c3 fm a0;refine hK.out _ _ (.inl rfl) ?_;clear hK;refine jS ?_;refine qD ?_;rw[ae]at a2;obtain⟨m0,m1,m2,m3⟩:=ar.c4;obtain⟨r0,r1,r2,r3⟩:=a2.c4;have fr:=a2.frozen;obtain⟨V,hV⟩:=qW (setCs X (w+1+1) 0 (It.four (yBl H)));have hbV:yA V w 181 4 (w+1+1) (It.four (yBl H)):=by rw[hV];exact a2.setCs _
   have aj:=qH1 hbV;have HV:=qH1 hV;clear hV hbV ar a2;dsimp only[yBl]at m0 m1 m2 m3;go_wp2_with fail;have hbV:=aj.out;have hV:=HV.out;exact zLd
 .rw[if_pos rfl]at a6;obtain⟨kd,an⟩:∃kd,x.leaf.kind=kd:=⟨_,rfl⟩;rw[an]at ck a6;have HSt:=qH1 a6;clear an a1 a6;cases sp
  .by_cases hk3:kd=3
   .have hs:(false || decide (kd=3))=true:=by simp[hk3]
    rw[hs]at HSt;clear hs;go_wp2_with fail;exact zLt
   .have az:(kd==3)=false:=by simp[hk3]
    have hs:(false || decide (kd=3))=false:=by simp[hk3]
    rw[hs]at HSt;clear hs;go_wp2_with fail;exact zLu
  .rw[Bool.true_or]at HSt;go_wp2_with fail;exact zLt
theorem yEi {k:Nat} {fn:Func} {c:Code} (hf:prog.funcs[k]?=some fn) (hn:(fn.name== "runtime.NumGoroutine")=false) (hb:fn.body=some c):EntF k:=λa w=>by
 have h1:fn.name≠ "runtime.NumGoroutine" :=by simpa using hn
 simp[callFunc,hf,h1,hb]
theorem yMp:EntF 190:=yEi func190 qk rfl
theorem yOi:EntF 189:=yEi func189 qk rfl
theorem yWz:EntF 191:=yEi func191 qk rfl
theorem yZu:EntF 192:=yEi func192 qk rfl
theorem yWy:EntF 193:=yEi func193 qk rfl
theorem yQz:EntF 194:=yEi func194 qk rfl
theorem yOj:EntF 195:=yEi func195 qk rfl
theorem yTq:EntF 196:=yEi func196 qk rfl
theorem ySd {n:Nat} {k:Nat} {cs:Array Value} {f:Nat->Bool} (hn:n<=1000000) (hk:Hid (EntF k)) (mono:∀i j,i<=j->j<n->f i=true->f j=true)
  (hf:∀(i:Nat) (W:World),i<n->Below w w W->(xf k (#[.int .i64 (i:Int)]++cs) W (f i):Prop)):
  Calls prog 158 #[xi n,.func (Fn.func k) #[] cs] w λe w'=>∃r:Nat,r<=n/\e=.returned (xi r)/\(∀i,i<r->f i=false)/\(∀i,r<=i->i<n->f i=true)/\Below w w w':=by
 have HF:=qH1 hf;have HM:=qH1 mono;clear hf mono;go_enter func158,ntmps158;go_wp2_with fail;go_loopw[5,6,7] (λiv jv hv wr=>∃(i j:Nat),i<=j/\j<=n/\iv=(xi i)/\jv=(xi j)/\Hid ((∀t,t<i->f t=false)/\(∀t,j<=t->t<n->f t=true)/\Below w w wr)) (λiv jv _ _=>(intOf jv-intOf iv).toNat);case atStart=>exact⟨0,n,zero_le _,Nat.le_refl _,rfl,rfl,λt ht=>qo,λt h1 h2=>qo,Below.refl _ _⟩
 case round=>
  obtain⟨i,j,hij,a1,rfl,rfl,HJ⟩:=hrel;by_cases hlt:i<j
  .have z:(i:Int)<(j:Int):=qo
   have z1:¬(i:Int)+(j:Int)<0:=qo
   go_wp2_with fail;obtain⟨m,hm,a2,a3⟩:∃m:Nat,((i:Int)+(j:Int))/2=(m:Int)/\i<=m/\m<j:=⟨(i+j)/2,qo,qo,qo⟩;rw[hm,hk.out];clear hm;go_simp;refine(HF.out m wr qo HJ.2.2).mono ?_;rintro e w1 ⟨rfl,a0⟩;have hb2:=HJ.2.2.trans (a0.mono HJ.2.2.size);cases hfm:f m
   .have HR:Hid ((∀t,t<m+1->f t=false)/\(∀t,j<=t->t<n->f t=true)/\Below w w w1):=by
     refine⟨λt ht=>?_,HJ.2.1,hb2⟩;cases ht2:f t
     .rfl
     .have:=HM.out t m qo qo ht2;rw[hfm]at this;exact this.symm
    clear a0 hb2 HJ hfm;go_wp2_with fail;go_roundw;case rel=>exact⟨m+1,j,qo,a1,by go_num,rfl,HR.out⟩
    case measure=>simp[intOf];omega
   .have HR:=qH3 HJ.1 (λt h1 h2=>HM.out m t h1 h2 hfm:(∀t,m<=t->t<n->f t=true)) hb2;clear a0 hb2 HJ hfm;go_wp2_with fail;go_roundw;case rel=>exact⟨i,m,a2,qo,rfl,rfl,HR.out⟩
    case measure=>simp[intOf];omega
  .have z:¬(i:Int)<(j:Int):=qo
   obtain rfl:i=j:=qo
   go_wp2_with fail;go_ret;exact⟨i,a1,rfl,HJ.out⟩
theorem zYr (h:p:=by intro wz hSw;obtain⟨z0,z1,z2,z3,z4,z5,z6,z7,y0,y1,y2,y3,y4⟩:=hSw;go_simp;(try with_reducible rfl)):p:=h
variable {i:Nat} {h:Hn} {x:Ent}
theorem ySh {b1 b2 b3 g off len:Nat} {c:Ent} (hi:i<len) (hlen:len<=1000000) (l1:b1<w.heap.size) (l2:b2<w.heap.size) (l3:b3<w.heap.size) (l4:g<w.heap.size)
  (hS:(λwz:World=>xk wz b1 0 (xi h.rank)/\xk wz b1 1 h.txt/\xk wz b2 0 c.row/\xk wz b2 1 c.fam/\xk wz b2 2 c.qual/\xk wz b2 3 (xu c.ts)/\xk wz b2 4 c.val/\xk wz b3 0 (.slice (some ⟨g,off,none⟩) len cap)/\xk wz g (off+i*5) x.row/\xk wz g (off+i*5+1) x.fam/\xk wz g (off+i*5+2) x.qual/\xk wz g (off+i*5+3) (xu x.ts)/\xk wz g (off+i*5+4) x.val) w):
  (xf 159 #[xi i,xp b1,xp b2,xp b3] w (!yAz h c x):Prop):=by
 obtain⟨sk,a2⟩:=qE (yAz h c x);have HK:Hid (∀W,(xf 160 #[.agg #[xi h.rank,h.txt],.agg #[c.row,c.fam,c.qual,xu c.ts,c.val],.agg #[x.row,x.fam,x.qual,xu x.ts,x.val]] W sk:Prop)):=λW=>by rw[a2];exact ySb h c x W
 rw[<-a2];clear a2;have a0:SW (λwz:World=>xk wz b1 0 (xi h.rank)/\xk wz b1 1 h.txt/\xk wz b2 0 c.row/\xk wz b2 1 c.fam/\xk wz b2 2 c.qual/\xk wz b2 3 (xu c.ts)/\xk wz b2 4 c.val/\xk wz b3 0 (.slice (some ⟨g,off,none⟩) len cap)/\xk wz g (off+i*5) x.row/\xk wz g (off+i*5+1) x.fam/\xk wz g (off+i*5+2) x.qual/\xk wz g (off+i*5+3) (xu x.ts)/\xk wz g (off+i*5+4) x.val) w.drew:=by have hb:Below w w w.drew:=(Below.refl _ _).drew;exact hS
 have z:(i:Int)<(len:Int):=qo
 have z1:¬(i:Int)<0:=qo
 go_enter func159,ntmps159;go_upto_region 1 with fail;refine wpR 99 a0 ?_;refine qT 0 ?v0x rfl ?y0x a0 ?_;case y0x=>exact zYr
 refine jS ?_;refine qT 1 ?v1x rfl ?y1x a0 ?_;case y1x=>exact zYr
 refine jS ?_;refine qT 2 ?v2x rfl ?y2x a0 ?_;case y2x=>exact zYr
 refine jS ?_;refine qT 3 ?v3x rfl ?y3x a0 ?_;case y3x=>exact zYr
 refine jS ?_;refine qT 4 ?v4x rfl ?y4x a0 ?_;case y4x=>exact zYr
 refine jS ?_;refine qT 5 ?v5x rfl ?y5x a0 ?_;case y5x=>exact zYr
 refine jS ?_;refine qO 6 rfl λK hK=>?_;go_simp;refine(HK.out _).mono ?_;rintro e w1 ⟨rfl,a3⟩;have e9:∀q:Addr,q.block<w.heap.size->w1.cell? q=w.drew.cell? q:=λq hq=>a3.cell (by simpa using hq);have HB:=qH1 (((Below.refl w w).drew).trans (a3.mono (by simp)));have a1:=SWm a0 w1 <|by
  show _/\_;rw[e9 (xd b1 0) l1,e9 (xd b1 1) l1,e9 (xd b2 0) l2,e9 (xd b2 1) l2,e9 (xd b2 2) l2,e9 (xd b2 3) l2,e9 (xd b2 4) l2,e9 (xd b3 0) l3,e9 (xd g (off+i*5)) l4,e9 (xd g (off+i*5+1)) l4,e9 (xd g (off+i*5+2)) l4,e9 (xd g (off+i*5+3)) l4,e9 (xd g (off+i*5+4)) l4];exact a0
 clear a0 hS e9 a3;refine hK.out _ _ (.inr a1) ?_;clear hK;refine jS ?_;refine kO 7 a1 ?_;refine kO 8 a1 ?_;refine qD ?_;clear a1;go_wp2;go_ret;exact⟨rfl,HB.out⟩
theorem yXx {p:Ent->Bool}:∀(es:List Ent) (r:Nat),r<=es.length->(∀i e,i<r->es[i]?=some e->p e=true)->(∀e,es[r]?=some e->p e=false)->(es.takeWhile p).length=r
 | [],r,hr,_,_=>by simp at hr;simp[hr]
 |a::es,0,_,_,h0=>by
  have:=h0 a (by simp)
  simp[takeWhile_cons,this]
 |a::es,r+1,hr,h1,h0=>by
  have ha:=h1 0 a qo (by simp)
  rw[takeWhile_cons,if_pos ha,length_cons,yXx es r (by simpa using hr) (λi e hi he=>h1 (i+1) e qo (by simpa using he)) (λe he=>h0 e (by simpa using he))]
def skF (h:Hn) (c:Ent) (es:List Ent) (i:Nat):Bool:=match es[i]? with
 |some e=> !yAz h c e
 |none=>true
theorem yTr:EntF 159:=yEi func159 qk rfl
theorem yV7 {g off:Nat} {es:List Ent} {c:Ent} (hE:yA4 w g off es) (hg:g<w.heap.size) (hlen:es.length<=1000000)
  (hmono:∀(i j:Nat) (ei ej:Ent),i<=j->es[i]?=some ei->es[j]?=some ej->yAz h c ej=true->yAz h c ei=true):
  (xf 105 #[h.v,c.c,.slice (some ⟨g,off,none⟩) es.length cap] w (xi (es.takeWhile (yAz h c)).length):Prop):=by
 obtain⟨n,hn⟩:=qE es.length;obtain⟨W0,a8⟩:=qW (xw ((w.alloc (Obj.cells #[xi h.rank,h.txt] 179)).alloc (Obj.cells #[c.row,c.fam,c.qual,xu c.ts,c.val] 70)) #[.slice (some ⟨g,off,none⟩) es.length cap] 26);have ab:Below w w W0:=by rw[a8];exact up3 w _ _ _
 have zs:W0.heap.size=w.heap.size+3:=by rw[a8];simp
 have ag:=hE.below ab hg;have ae:xk W0 w 0 (xi h.rank)/\xk W0 w 1 h.txt/\xk W0 (w+1) 0 c.row/\xk W0 (w+1) 1 c.fam/\xk W0 (w+1) 2 c.qual/\xk W0 (w+1) 3 (xu c.ts)/\xk W0 (w+1) 4 c.val/\xk W0 (w+2) 0 (.slice (some ⟨g,off,none⟩) es.length cap):=by rw[a8];refine⟨?_,?_,?_,?_,?_,?_,?_,?_⟩<;>go_simp
 have HS:Hid (Calls prog 158 #[xi n,.func (Fn.func 159) #[] #[xp w,xp (w+1),xp (w+1+1)]] W0 λe w'=>∃r:Nat,r<=n/\e=.returned (xi r)/\(∀i,i<r->skF h c es i=false)/\(∀i,r<=i->i<n->skF h c es i=true)/\Below W0 W0 w'):=by
  refine ySd qo yTr ?_ ?_
  .intro i j hij hj a9;obtain⟨ei,ad⟩:∃e,es[i]?=some e:=qg qo;obtain⟨ej,ac⟩:∃e,es[j]?=some e:=qg qo;unfold skF at a9⊢;rw[ad]at a9;rw[ac];dsimp only at a9⊢;cases hs:yAz h c ej
   .rfl
   .rw[hmono i j ei ej hij ad ac hs]at a9;cases a9
  .intro i W hi aa;obtain⟨x,hx⟩:∃e,es[i]?=some e:=qg qo;have aj:=aa.size;have e9:∀q:Addr,q.block<W0.heap.size->W.cell? q=W0.cell? q:=λq hq=>aa.cell hq;have ah:=(ag.below aa qo) i x hx;obtain⟨a0,a1,a2,a3,a4,a5,a6,a7⟩:=ae
   have hk:=ySh (w:=W) (b1:=w.heap.size) (b2:=w.heap.size+1) (b3:=w.heap.size+1+1) (g:=g) (off:=off) (len:=es.length) (cap:=cap) (i:=i) (h:=h) (c:=c) (x:=x) qo hlen qo qo qo qo
    ⟨by rw[e9 _ (by dsimp only;omega)];exact a0,by rw[e9 _ (by dsimp only;omega)];exact a1,by rw[e9 _ (by dsimp only;omega)];exact a2,by rw[e9 _ (by dsimp only;omega)];exact a3,by rw[e9 _ (by dsimp only;omega)];exact a4,by rw[e9 _ (by dsimp only;omega)];exact a5,by rw[e9 _ (by dsimp only;omega)];exact a6,by rw[e9 _ (by dsimp only;omega)];exact a7,ah⟩
   have hs:skF h c es i= !yAz h c x:=by unfold skF;rw[hx]
   rw[hs];exact hk
 have HB:=qH1 ab;have HT:Hid (∀r,r<=n->(∀i,i<r->skF h c es i=false)->(∀i,r<=i->i<n->skF h c es i=true)->(es.takeWhile (yAz h c)).length=r):=by
  intro r hr h1 h2;refine yXx es r qo (λi e hi he=>?_) (λe he=>?_)
  .have:=h1 i hi;unfold skF at this;rw[he]at this;simpa using this
  .have:=h2 r qr (qw (qf he));unfold skF at this;rw[he]at this;simpa using this
 obtain⟨T,hT⟩:=qE ((es.takeWhile (yAz h c)).length);rw[<-hT]at HT⊢;rw[<-hn]at a8⊢;clear ae ag zs ab hmono hE hT hn hlen;go_enter func105,ntmps105;go_wp2_with fail;rw[<-a8];refine HS.mono ?_;rintro e w1 ⟨r,hr,rfl,h1,h2,af⟩;have ai:=HT.out r hr h1 h2;subst ai;have hb2:=HB.trans (af.mono HB.size);clear h1 h2 af a8 HT HS;go_wp2;go_ret;exact⟨rfl,hb2⟩
variable {a b:ByteArray}
theorem yDx:eqB a b=true↔a=b:=by
 unfold eqB;constructor
 .intro h;have h4:=eq_of_beq h;rw[ByteArray.toList_eq,ByteArray.toList_eq]at h4;cases a;cases b
  congr;exact Array.toList_inj.1 h4
 .rintro rfl;simp
theorem yY9:lsB a b=true↔cB a b= -1:=by
 constructor
 .intro h;exact yOt h
 .intro h;cases h1:lsB a b
  .by_cases h2:(a.toList==b.toList)=true
   .have:a=b:=yDx.1 h2;rw[yCx.2 this]at h;omega
   .have:=yOs h1 (by simpa using h2);omega
  .rfl
def LeB (a b:ByteArray):Prop:=cB a b= -1∨a=b
theorem LeB.trans {c:ByteArray} (h:LeB a b) (k:LeB b c):LeB a c:=by
 rcases h with h|rfl
 .rcases k with k|rfl
  .exact .inl (yOr h k)
  .exact .inl h
 .exact k
theorem LeB.sand {c:ByteArray} (h:LeB a b) (k:LeB b c) (e:c=a):b=a:=by
 subst e;rcases h with h|h
 .rcases k with k|k
  .have:=yZ6 b c;rw[h,k]at this;omega
  .exact k
 .exact h.symm
theorem LeB.less {c t:ByteArray} (h:LeB b c) (k:lsB c t=true):lsB b t=true:=by
 rcases h with h|rfl
 .exact yY9.2 (yOr h (yY9.1 k))
 .exact k
def LeC (a b:Ent):Prop:=LeB a.row b.row/\(a.row=b.row->LeB a.fam b.fam/\(a.fam=b.fam->LeB a.qual b.qual))
theorem LeC.refl a:LeC a a:=⟨.inr rfl,λ_=>⟨.inr rfl,λ_=>.inr rfl⟩⟩
theorem LeC.of_key {a b:Ent} (h:yAo (putE a) (putE b)= -1):LeC a b:=by
 have h:yAp (cB a.row b.row) (yAp (cB a.fam b.fam) (yAp (cB a.qual b.qual) (yAp (yA7 (putE a).kind (putE b).kind) (yE4 a.ts b.ts))))= -1:=h;unfold yAp at h;refine⟨?_,λhr=>⟨?_,λhf=>?_⟩⟩
 .by_cases h0:cB a.row b.row=0
  .exact .inr (yCx.1 h0)
  .rw[if_neg h0]at h;exact .inl h
 .rw[if_pos (yCx.2 hr)]at h;by_cases h0:cB a.fam b.fam=0
  .exact .inr (yCx.1 h0)
  .rw[if_neg h0]at h;exact .inl h
 .rw[if_pos (yCx.2 hr),if_pos (yCx.2 hf)]at h;by_cases h0:cB a.qual b.qual=0
  .exact .inr (yCx.1 h0)
  .rw[if_neg h0]at h;exact .inl h
theorem yOg {c y:Ent} (h:LeC c x) (k:LeC x y) (hs:famB c y=true):famB c x=true/\x.row=y.row/\x.fam=y.fam/\c.row=x.row/\c.fam=x.fam:=by unfold famB at hs⊢;rw[Bool.and_eq_true,yDx,yDx]at hs;have hr:=h.1.sand k.1 hs.1;have hf:=(h.2 hr.symm).1.sand (k.2 (hr.trans hs.1.symm)).1 hs.2;refine⟨?_,hr.trans hs.1.symm,hf.trans hs.2.symm,hr.symm,hf.symm⟩;rw[Bool.and_eq_true,yDx,yDx];exact⟨hr,hf⟩
theorem yVz {c y:Ent} (h1:LeC c x) (h2:LeC x y) (hs:yAz h c y=true):yAz h c x=true:=by
 unfold yAz at hs⊢;by_cases r1:h.rank=1
 .rw[if_pos r1,Bool.and_eq_true,yDx]at hs;rw[if_pos r1,Bool.and_eq_true,yDx];obtain⟨a,b,d,e,f⟩:=yOg h1 h2 hs.1;exact⟨a,((h1.2 e).2 f).sand ((h2.2 b).2 d) hs.2⟩
 rw[if_neg r1]at hs⊢;by_cases r2:h.rank=2
 .rw[if_pos r2,Bool.and_eq_true]at hs;rw[if_pos r2,Bool.and_eq_true];obtain⟨a,b,d,e,f⟩:=yOg h1 h2 hs.1;exact⟨a,((h2.2 b).2 d).less hs.2⟩
 rw[if_neg r2]at hs⊢;by_cases r3:h.rank=3
 .rw[if_pos r3]at hs⊢;exact(yOg h1 h2 hs).1
 rw[if_neg r3]at hs⊢;by_cases r4:h.rank=4
 .rw[if_pos r4,yDx]at hs;rw[if_pos r4,yDx];exact h1.1.sand h2.1 hs
 rw[if_neg r4]at hs⊢;by_cases r5:h.rank=5
 .rw[if_pos r5]at hs⊢;exact h2.1.less hs
 rw[if_neg r5]at hs⊢;exact hs
section
theorem yI {P:Program} {a:Addr} {m:Mode} (f:Fn) (b c:Array Value):(store a (.func f b c) m).run P w=stored P w a (.func f b c) m:=run_store P w a _ m rfl
attribute [local go_sem] yI
theorem zBc (h:p:=by
 have hn:¬p=w.heap.size:=qo
 go_enter func149,ntmps149;go_wp2_with fail;exact bodyPost_end (results_none rfl _ _ _) rfl ⟨rfl,rfl⟩):p:=h
variable {p q:Nat} {m:Int} {u:Value}
theorem yHz {g:Nat} {v:Value} (hp:p<w.heap.size) (kd:(xk w p (o+4) (xi 11):Prop)) (nn:(xk w p (o+10) (xi m):Prop)) (c1:(xk w p (o+11) u:Prop)) (c2:(xk w p (o+12) v:Prop)) (fz:∀j,w.frozen? (xd p j)=false):
  Calls prog 149 #[.pointer (some ⟨p,o,none⟩),.pointer (some ⟨g,q,none⟩)] w λe w'=>e=.returned (.tuple #[])/\w'=(xw ((w.setCell (xd p (o+11)) (.func (Fn.func 189) #[xp w] #[])).setCell (xd p (o+12)) (.func (Fn.func 190) #[.agg #[xi 1,xe]] #[])) #[.pointer (some ⟨g,q,none⟩),xi m] 283):=by
 exact zBc
theorem yLz {g:Nat} {v:Value} (hp:p<w.heap.size) (kd:(xk w p (o+4) (xi 12):Prop)) (nn:(xk w p (o+10) (xi m):Prop)) (c1:(xk w p (o+11) u:Prop)) (c2:(xk w p (o+12) v:Prop)) (fz:∀j,w.frozen? (xd p j)=false):
  Calls prog 149 #[.pointer (some ⟨p,o,none⟩),.pointer (some ⟨g,q,none⟩)] w λe w'=>e=.returned (.tuple #[])/\w'=(xw ((w.setCell (xd p (o+11)) (.func (Fn.func 191) #[xp w] #[])).setCell (xd p (o+12)) (.func (Fn.func 190) #[.agg #[xi 4,xe]] #[])) #[.pointer (some ⟨g,q,none⟩),xi m] 283):=by
 exact zBc
theorem yOv {g:Nat} {v:Value} (hp:p<w.heap.size) (kd:(xk w p (o+4) (xi 13):Prop)) (nn:(xk w p (o+10) (xi m):Prop)) (c1:(xk w p (o+11) u:Prop)) (c2:(xk w p (o+12) v:Prop)) (fz:∀j,w.frozen? (xd p j)=false):
  Calls prog 149 #[.pointer (some ⟨p,o,none⟩),.pointer (some ⟨g,q,none⟩)] w λe w'=>e=.returned (.tuple #[])/\w'=(xw ((w.setCell (xd p (o+11)) (.func (Fn.func 192) #[xp w] #[])).setCell (xd p (o+12)) (.func (Fn.func 190) #[.agg #[xi 0,xe]] #[])) #[.pointer (some ⟨g,q,none⟩),xi m] 283):=by
 exact zBc
end
section
attribute [local go_sem] yI
abbrev ctvV (n:Nd) (mv:Value):Value:=.agg #[xi n.kind,n.s,n.hi,n.t,xu n.lo,xu n.up,xi n.n,mv]
structure CtvA (w:World) (t:Nat) (n:Nd) (mv:Value):Prop where
 t0:(xk w t 0 (xi n.kind):Prop)
 t1:(xk w t 1 n.s:Prop)
 t2:(xk w t 2 n.hi:Prop)
 t3:(xk w t 3 n.t:Prop)
 t4:(xk w t 4 (xu n.lo):Prop)
 t5:(xk w t 5 (xu n.up):Prop)
 t6:(xk w t 6 (xi n.n):Prop)
 t7:(xk w t 7 mv:Prop)
theorem zBt (h:p:=by obtain⟨t0,t1,t2,t3,t4,t5,t6,t7⟩:=ht;go_enter func150,ntmps150;go_wp2_with fail;exact bodyPost_end (results_none rfl _ _ _) rfl ⟨rfl,rfl⟩):p:=h
abbrev btW (w:World) (p o:Nat) (n:Nd) (mv:Value):World:=(xt (w.setCell (xd p (o+11)) (.func (Fn.func 193) #[ctvV n mv] #[])) p (o+12) (.func (Fn.func 190) #[.agg #[xi 0,xe]] #[]))
variable {p:Nat} {u:Value}
theorem yLy {mv v:Value} (ht:CtvA w t n mv) (hne:¬p=t) (kd:(xk w p (o+4) (xi 1):Prop)) (c1:(xk w p (o+11) u:Prop)) (c2:(xk w p (o+12) v:Prop)) (fz:∀j,w.frozen? (xd p j)=false):
  Calls prog 150 #[.pointer (some ⟨p,o,none⟩),xp t] w λe w'=>e=.returned (.tuple #[])/\w'=btW w p o n mv:=by
 exact zBt
theorem yLx {mv v:Value} (ht:CtvA w t n mv) (hne:¬p=t) (kd:(xk w p (o+4) (xi 2):Prop)) (c1:(xk w p (o+11) u:Prop)) (c2:(xk w p (o+12) v:Prop)) (fz:∀j,w.frozen? (xd p j)=false):
  Calls prog 150 #[.pointer (some ⟨p,o,none⟩),xp t] w λe w'=>e=.returned (.tuple #[])/\w'=(xt (btW w p o n mv) p (o+12) (.func (Fn.func 190) #[.agg #[xi 6,xe]] #[])):=by
 exact zBt
theorem yLw {mv v:Value} (ht:CtvA w t n mv) (hne:¬p=t) (kd:(xk w p (o+4) (xi 3):Prop)) (c1:(xk w p (o+11) u:Prop)) (c2:(xk w p (o+12) v:Prop)) (fz:∀j,w.frozen? (xd p j)=false):
  Calls prog 150 #[.pointer (some ⟨p,o,none⟩),xp t] w λe w'=>e=.returned (.tuple #[])/\w'=btW w p o n mv:=by
 exact zBt
theorem yLv {mv v:Value} (ht:CtvA w t n mv) (hne:¬p=t) (kd:(xk w p (o+4) (xi 4):Prop)) (c1:(xk w p (o+11) u:Prop)) (c2:(xk w p (o+12) v:Prop)) (fz:∀j,w.frozen? (xd p j)=false):
  Calls prog 150 #[.pointer (some ⟨p,o,none⟩),xp t] w λe w'=>e=.returned (.tuple #[])/\w'=(xt (btW w p o n mv) p (o+12) (.func (Fn.func 194) #[xp t] #[])):=by
 exact zBt
theorem yLu {mv v:Value} (ht:CtvA w t n mv) (hne:¬p=t) (kd:(xk w p (o+4) (xi 5):Prop)) (c1:(xk w p (o+11) u:Prop)) (c2:(xk w p (o+12) v:Prop)) (fz:∀j,w.frozen? (xd p j)=false):
  Calls prog 150 #[.pointer (some ⟨p,o,none⟩),xp t] w λe w'=>e=.returned (.tuple #[])/\w'=(xt (btW w p o n mv) p (o+12) (.func (Fn.func 190) #[.agg #[xi 3,xe]] #[])):=by
 exact zBt
theorem yLt {mv v:Value} (ht:CtvA w t n mv) (hne:¬p=t) (kd:(xk w p (o+4) (xi 6):Prop)) (c1:(xk w p (o+11) u:Prop)) (c2:(xk w p (o+12) v:Prop)) (fz:∀j,w.frozen? (xd p j)=false):
  Calls prog 150 #[.pointer (some ⟨p,o,none⟩),xp t] w λe w'=>e=.returned (.tuple #[])/\w'=(xt (btW w p o n mv) p (o+12) (.func (Fn.func 195) #[xp t] #[])):=by
 exact zBt
theorem yLs {mv v:Value} (ht:CtvA w t n mv) (hne:¬p=t) (kd:(xk w p (o+4) (xi 7):Prop)) (c1:(xk w p (o+11) u:Prop)) (c2:(xk w p (o+12) v:Prop)) (fz:∀j,w.frozen? (xd p j)=false):
  Calls prog 150 #[.pointer (some ⟨p,o,none⟩),xp t] w λe w'=>e=.returned (.tuple #[])/\w'=btW w p o n mv:=by
 exact zBt
theorem yLr {mv v:Value} (ht:CtvA w t n mv) (hne:¬p=t) (kd:(xk w p (o+4) (xi 8):Prop)) (c1:(xk w p (o+11) u:Prop)) (c2:(xk w p (o+12) v:Prop)) (fz:∀j,w.frozen? (xd p j)=false):
  Calls prog 150 #[.pointer (some ⟨p,o,none⟩),xp t] w λe w'=>e=.returned (.tuple #[])/\w'=(xt (btW w p o n mv) p (o+12) (.func (Fn.func 194) #[xp t] #[])):=by
 exact zBt
theorem yLq {mv v:Value} (ht:CtvA w t n mv) (hne:¬p=t) (kd:(xk w p (o+4) (xi 9):Prop)) (c1:(xk w p (o+11) u:Prop)) (c2:(xk w p (o+12) v:Prop)) (fz:∀j,w.frozen? (xd p j)=false):
  Calls prog 150 #[.pointer (some ⟨p,o,none⟩),xp t] w λe w'=>e=.returned (.tuple #[])/\w'=(xt (btW w p o n mv) p (o+12) (.func (Fn.func 195) #[xp t] #[])):=by
 exact zBt
theorem yKs {mv v:Value} (ht:CtvA w t n mv) (hne:¬p=t) (kd:(xk w p (o+4) (xi 10):Prop)) (c1:(xk w p (o+11) u:Prop)) (c2:(xk w p (o+12) v:Prop)) (fz:∀j,w.frozen? (xd p j)=false):
  Calls prog 150 #[.pointer (some ⟨p,o,none⟩),xp t] w λe w'=>e=.returned (.tuple #[])/\w'=(xt (btW w p o n mv) p (o+12) (.func (Fn.func 196) #[xp t] #[])):=by
 exact zBt
end
theorem xHl:(83:TypeId)<prog.types.size:=of_decide_eq_true qk
theorem xHa:(match prog.underlying 83 with|some (.array _ _)|some (.struct _)=>true|_=>false)=true:=qk
theorem yZg:Keyed prog 83:=Keyed.of_law (deep_law_laid yY8 (m:=2) qo xHl qk xHa)
def ndL (n:Nd):Lit:=.string (keyBytes [.int .i64 n.kind,.string n.s.data.toList,.bool n.hi,.string n.t.data.toList,.int .u64 n.lo,.int .u64 n.up,.int .i64 n.n])
theorem yWp (h:n.ok):keyOf prog 83 n.v=some (ndL n):=by
 have h1:prog.keyType 83=true:=qk
 have h2:prog.cellsOf 83=7:=qk
 have h3:prog.cellsOf 2=1:=qk
 have h4:prog.cellsOf 68=1:=qk
 have h5:prog.cellsOf 4=1:=qk
 have h6:prog.cellsOf 9=1:=qk
 obtain⟨m,hm⟩:∃m,prog.types.size=m+1:=⟨prog.types.size-1,by have h:(83:Nat)<prog.types.size:=xHl;omega⟩;unfold keyOf;rw[underlying83];simp only[h1,Value.formed,underlying83,h2,hm];simp[Program.keyLits,underlying83,underlying9,underlying2,underlying68,underlying4,h2,h3,h4,h5,h6,Value.cells,h.s,h.t,h.kind,h.lo,h.up,h.n,ndL]
theorem xHs {n':Nd} (h:n.ok) (h':n'.ok) (e:ndL n=ndL n'):n=n':=by
 have h1:=yWp h;have h2:=yWp h';rw[<-e]at h2;have:=yZg.inj h1 h2;cases n
 cases n'
 simp at this;simp[this]
structure Tt where
 n:Nd
 t:Nat
 lo:Nat
 hi:Nat
 mp:Option Addr
def MpA (w:World) (B N:Nat) (Ts:List Tt):Prop:=
 ∃D,w.ownsMap prog 83 Rh B N D/\∀n:Nd,n.ok->((∀T∈Ts,¬T.n=n)/\Maps.has D (ndL n)=false)∨∃T∈Ts,T.n=n/\Maps.has D (ndL n)=true/\∀z,D.atKey (ndL n) z=.held (xp T.t)
variable {Ts:List Tt}
theorem MpA.lt (h:MpA w B N Ts):B<w.heap.size:=by obtain⟨D,h,_⟩:=h;exact h.lt
theorem MpA.chg {S:Nat->Prop} (h:MpA w B N Ts) (hc:Chg S w w') (hn:¬S B):MpA w' B N Ts:=by obtain⟨D,hD,k⟩:=h;have a0:=hD.lt;obtain⟨es,a2,hb,F,hs,a1⟩:=hD;exact⟨D,⟨es,a2,(hc.block B a0 hn).trans hb,F,hs,a1⟩,k⟩
theorem xG4 (w:World):(zeroValue 242).run prog w=.ok (.pointer none) w:=qk
theorem MpA.look (h:MpA w B N Ts) (hn:n.ok):
  ((∀T∈Ts,¬T.n=n)/\(Instr.lookup 172 (.map (some B)) n.v true).run prog w=.ok (.tuple #[.pointer none,false]) w)∨∃T∈Ts,T.n=n/\(Instr.lookup 172 (.map (some B)) n.v true).run prog w=.ok (.tuple #[xp T.t,true]) w:=by
 obtain⟨D,hD,hv⟩:=h;obtain⟨v,ps,a1,hR⟩:=hD.look_ok yZg underlying172 (xG4 w) (zd:=.held (.pointer none)) (zp:= []) rfl (yWp hn);have a0:=(xI5 hR).1;rcases hv n hn with⟨h1,h2⟩|⟨T,hT,h1,h2,h3⟩
 .rw[Maps.atKey_of_not_has h2]at a0;simp only[DataW.held.injEq]at a0;rw[<-a0,h2]at a1;exact .inl ⟨h1,a1⟩
 .rw[h3]at a0;simp only[DataW.held.injEq]at a0;rw[<-a0,h2]at a1;exact .inr ⟨T,hT,h1,a1⟩
theorem MpA.put (h:MpA w B N Ts) (hN:N<maxLen) (T:Tt) (hn:T.n.ok) (hnew:∀T'∈Ts,¬T'.n=T.n):
  ∃w',(Instr.mapUpdate 172 (.map (some B)) T.n.v (xp T.t)).run prog w=.ok () w'/\MpA w' B (N+1) (T::Ts)/\w.grownBy w' (some B):=by
 obtain⟨D,hD,hv⟩:=h;obtain⟨w',a1,ho,hg⟩:=hD.update yZg underlying172 hN (yWp hn) (val:=(xp T.t)) (d:=.held (xp T.t)) (ps:= []) rfl;refine⟨w',a1,⟨_,ho,λn hno=>?_⟩,hg⟩;by_cases he:n=T.n
 .subst he;exact .inr ⟨T,mem_cons_self,rfl,Maps.has_put_same hD.isMap (yZg.key (yWp hn)) _,λz=>Maps.atKey_put_same hD.isMap (yZg.key (yWp hn)) _ z⟩
 .have a0:ndL n≠ndL T.n:=λq=>he (xHs hno hn q);rcases hv n hno with⟨h1,h2⟩|⟨T',a2,h1,h2,h3⟩
  .exact .inl ⟨λX hX=>by
    rcases mem_cons.1 hX with rfl|hX
    .exact λq=>he q.symm
    .exact h1 X hX,by rw[Maps.has_put_other a0];exact h2⟩
  .exact .inr ⟨T',mem_cons_of_mem _ a2,h1,by rw[Maps.has_put_other a0];exact h2,λz=>by rw[Maps.atKey_put_other a0];exact h3 z⟩
theorem xBs (w:World):MpA (w.alloc (.map #[] 0)) w 0 []:=
 ⟨.map [],World.ownsMap_made w prog 83 Rh,λn _=>.inl ⟨λT hT=>by simp at hT,rfl⟩⟩
noncomputable def lowB (n:Nd):ByteArray:=if n.kind=4∨n.kind=5∨n.kind=6∨n.kind=7 then pfxB n.s else n.s
structure TtA (T:Tt) (W:World):Prop where
 ctv:CtvA W T.t T.n (.pointer T.mp)
 low:(xk W T.t 8 (lowB T.n):Prop)
 lt:T.t<W.heap.size
 tst:yDm W T.lo T.hi T.n (.pointer T.mp)
 r1:T.lo<=T.hi
 r2:T.hi<=T.t
 tab:1<T.lo
theorem TtA.chg {S:Nat->Prop} {T:Tt} (h:TtA T W) (hc:Chg S W W') (hS:∀q,S q->¬(T.lo<=q/\q<=T.t)) (hv:¬S 1):TtA T W':=by have a1:=h.lt;have r1:=h.r1;have r2:=h.r2;have hnt:¬S T.t:=λq=>hS _ q ⟨qo,Nat.le_refl _⟩;obtain⟨t0,t1,t2,t3,t4,t5,t6,t7⟩:=h.ctv;have a0:∀j,W'.cell? (xd T.t j)=W.cell? (xd T.t j):=λj=>hc.cell (p:=(xd T.t j)) a1 hnt;exact⟨⟨(a0 0).trans t0,(a0 1).trans t1,(a0 2).trans t2,(a0 3).trans t3,(a0 4).trans t4,(a0 5).trans t5,(a0 6).trans t6,(a0 7).trans t7⟩,(a0 8).trans h.low,Nat.lt_of_lt_of_le a1 hc.size,h.tst.chg hc (λk hk z=>hS k hk ⟨z.1,by have:=z.2;omega⟩) (λ_=>hv),r1,r2,h.tab⟩
structure TsA (base:Nat) (Ts:List Tt) (W:World):Prop where
 at_:∀T∈Ts,TtA T W/\base<=T.lo
 apart:Ts.Pairwise λT T'=>T'.t<T.lo
 tab:TabD W
 tabl:1<base
theorem TsA.chg {S:Nat->Prop} (h:TsA base Ts W) (hc:Chg S W W') (hS:∀q,S q->q<base∨W.heap.size<=q) (hv:¬S 1):TsA base Ts W':=
 ⟨λT hT=>⟨(h.at_ T hT).1.chg hc (λq hq z=>by have:=(h.at_ T hT).1.lt;have:=(h.at_ T hT).2;rcases hS q hq with k|k<;>omega) hv,(h.at_ T hT).2⟩,h.apart,h.tab.chg hc hv,h.tabl⟩
theorem yWu (h:yCb n) (hk:PatK n.kind):(yAj (sb n.s)).1=0:=by
 unfold PatK at hk;rcases h.2.2.2 with q|q|q|q|q
 .exact q.2.2
 .have:=q.1;omega
 .have:=q.1;omega
 .have:=q.1;omega
 .have:=q.1;omega
theorem yQm (n:Nd) (hs:n.s.size<=maxLen):∃q:Bool,∀W,Calls prog 198 #[.string n.s] W λe w'=>e=.returned (.agg #[.string (pfxB n.s),.bool q])/\Below W W w':=
 ⟨(pfxR n.s hs).2,λW=>by
   have h9:=yJ5 n.s W hs (pfxR n.s hs) (yYj n.s hs)
   rw[show(⟨(pfxR n.s hs).1.toArray⟩:ByteArray)=pfxB n.s from by unfold pfxB;rw[dif_pos hs]]at h9
   exact h9⟩
theorem yUg {T:Tt} (h:TsA base Ts W) (hT:TtA T W) (hb:base<=T.lo) (ho:∀X∈Ts,X.t<T.lo):TsA base (T::Ts) W:=
 ⟨λX hX=>by
  rcases mem_cons.1 hX with rfl|hX
  .exact⟨hT,hb⟩
  .exact h.at_ X hX,List.pairwise_cons.2 ⟨ho,h.apart⟩,h.tab,h.tabl⟩
theorem TsA.turn (h:TsA base Ts W) (hc:Chg (λq=>q=B) W W') (hB:∀X∈Ts,X.t<B) (hv:¬1=B):TsA base Ts W':=
 ⟨λT hT=>⟨(h.at_ T hT).1.chg hc (λq hq z=>qw (hB T hT)) hv,(h.at_ T hT).2⟩,h.apart,h.tab.chg hc hv,h.tabl⟩
theorem xDg (h:¬PatK n.kind):lowB n=n.s:=by unfold PatK at h;unfold lowB;rw[if_neg h]
theorem ySx (h:PatK n.kind):lowB n=pfxB n.s:=by unfold PatK at h;unfold lowB;rw[if_pos h]
def TeP (base B N:Nat) (Ts:List Tt) (n:Nd) (w:World) (e:Ending) (w':World):Prop:=
 ∃T:Tt,e=.returned (xp T.t)/\Hid (∃N' Ts',T∈Ts'/\T.n=n/\(∀X∈Ts,X∈Ts')/\(∀X∈Ts',X∈Ts∨w.heap.size<=X.lo)/\MpA w' B N' Ts'/\N'<=N+1/\TsA base Ts' w'/\Chg (λq=>q=B) w w')
theorem zTeB (h:p:=by
 obtain⟨w9,hput,hM9,hg9⟩:=HBx.2.2.1.put (by unfold maxLen;omega) T (by rw[HTn.out];exact HnO.out) (by rw[HTn.out];exact hnew.out);have HE:Hid (∃N' Ts',T∈Ts'/\T.n=n/\(∀X∈Ts,X∈Ts')/\(∀X∈Ts',X∈Ts∨w.heap.size<=X.lo)/\MpA w9 B N' Ts'/\N'<=N+1/\TsA base Ts' w9/\Chg (λq=>q=B) w w9):=by
  have hc9:Chg (λq=>q=B) wx w9:=Chg.of_grown hg9 (λq hq=>by cases hq;rfl);refine⟨N+1,T::Ts,mem_cons_self,HTn.out,λX hX=>mem_cons_of_mem _ hX,λX hX=>?_,hM9,Nat.le_refl _,?_,HBx.2.2.2.2.1.trans hc9⟩
  .rcases mem_cons.1 hX with rfl|hX
   .exact .inr HBx.2.2.2.2.2
   .exact .inl hX
  .exact HBx.2.2.2.1.chg hc9 (λq hq=>.inl (qw HBb.out)) (qw HBb.out)
 rw[HTn.out,HTt.out]at hput;obtain⟨x0,x1,x2,x3,x4,x5,x6⟩:=HBx.2.1.c7;have y0:=HBx.1.cell (j:=0) rfl;clear hM9 hg9;go_wp2;go_ret;exact⟨T,by rw[HTt.out];rfl,HE⟩):p:=h
theorem yX1 (hM:MpA w B N Ts) (hT:TsA base Ts w) (hB:B<base) (hbw:base<=w.heap.size) (hN:N<10000000) (hVB:¬1=B) (hn:n.ok) (hg:yCb n):
  Calls prog 151 #[.agg #[.map (some B)],n.v] w (TeP base B N Ts n w):=by
 obtain⟨W0,a7⟩:=qW (xw (w.alloc (Obj.cells #[.map (some B)] 174)) #[xi n.kind,n.s,n.hi,n.t,xu n.lo,xu n.up,xi n.n] 83);have H0:Hid (yA W0 w 174 1 w [.map (some B)]/\yA W0 w 83 7 (w+1) n.seven/\Below w w W0):=by
  obtain⟨X,hX⟩:=qW (xw w #[.map (some B)] 174);rw[<-hX]at a7;have zx:=qS hX
  have k1:=qN hX
  have k2:=qN a7
  have b1:yA X w 174 1 w [.map (some B)]:=by rw[hX];exact yAa w _ qr rfl
  have b2:yA W0 w 83 7 (w+1) n.seven:=by rw[a7,<-zx];exact yAa X _ (by omega) rfl
  exact⟨b1.below k2,b2,k1.trans (k2.mono (by omega))⟩
 have HM:Hid (MpA W0 B N Ts/\TsA base Ts W0):=by have hc:Chg (λ_=>False) w W0:=Chg.of_below H0.2.2;exact⟨hM.chg hc (λq=>q),hT.chg hc (λq hq=>hq.elim) (λq=>q)⟩
 have HnO:Hid n.ok:=hn;have az:Hid (yCb n):=hg;have HBb:Hid (B<base/\base<=w.heap.size/\¬1=B):=⟨hB,hbw,hVB⟩;have c0:=H0.1.cell (j:=0) rfl;obtain⟨x0,x1,x2,x3,x4,x5,x6⟩:=H0.2.1.c7;have hlk:=HM.1.look hn;clear hM hT hB hbw hn hg hVB;rcases hlk with⟨an,al⟩|⟨T,aq,ao,al⟩
 .have hnew:Hid (∀T∈Ts,¬T.n=n):=an;clear an;go_enter func151,ntmps151;go_upto_region 1 with fail;rw[<-a7];clear a7;go_upto_region 4 with fail;clear al c0 x0 x1 x2 x3 x4 x5 x6;have ai:Hid (∀X:World,yA X w 83 7 (w+1) n.seven->(λw':World=>xk w' (w+1) 0 (xi n.kind)/\xk w' (w+1) 1 n.s/\xk w' (w+1) 2 n.hi/\xk w' (w+1) 3 n.t/\xk w' (w+1) 4 (xu n.lo)/\xk w' (w+1) 5 (xu n.up)/\xk w' (w+1) 6 (xi n.n)/\xk w' (w+1) 0 (xi n.kind)) X):=λX h=>⟨h.cell (j:=0) rfl,h.cell (j:=1) rfl,h.cell (j:=2) rfl,h.cell (j:=3) rfl,h.cell (j:=4) rfl,h.cell (j:=5) rfl,h.cell (j:=6) rfl,h.cell (j:=0) rfl⟩;have a8:Below W0 W0 W0.drew:=(Below.refl _ _).drew
  have HD:Hid (yA W0.drew w 174 1 w [.map (some B)]/\yA W0.drew w 83 7 (w+1) n.seven/\Below w w W0.drew/\MpA W0.drew B N Ts/\TsA base Ts W0.drew):=
   ⟨H0.1.below a8,H0.2.1.below a8,H0.2.2.trans (a8.mono H0.2.2.size),HM.1.chg (S:=λ_=>False) (Chg.of_below a8) (λq=>q),HM.2.chg (S:=λ_=>False) (Chg.of_below a8) (λq hq=>hq.elim) (λq=>q)⟩
  have a9:=ai.out _ HD.2.1;clear a8 H0 HM;refine yAf 99 (λw':World=>xk w' (w+1) 0 (xi n.kind)/\xk w' (w+1) 1 n.s/\xk w' (w+1) 2 n.hi/\w'.cell? (xd (w.heap.size+1) 3)=some (.string n.t)/\w'.cell? (xd (w.heap.size+1) 4)=some (.int .u64 n.lo)/\w'.cell? (xd (w.heap.size+1) 5)=some (.int .u64 n.up)/\w'.cell? (xd (w.heap.size+1) 6)=some (.int .i64 n.n)/\w'.cell? (xd (w.heap.size+1) 0)=some (.int .i64 n.kind)) (by kernel_rfl) ?_;generalize W0.drew=WD at HD a9⊢;have ak:Hid (∀X∈Ts,X.t<WD.heap.size):=λX hX=>(HD.2.2.2.2.at_ X hX).1.lt;have au:Hid (Calls prog 197 #[.agg #[.int .i64 n.kind,.string n.s,.bool n.hi,.string n.t,.int .u64 n.lo,.int .u64 n.up,.int .i64 n.n]] WD (CteP n WD)):=yHk n WD HD.2.2.2.2.tab HnO.s (yWu az.out);refine ja 0 a9 ?_;refine ja 2 a9 ?_;refine jb a9 ?_;refine qO 1 rfl λK hK=>?_;go_simp;refine au.mono ?_;rintro e w3 ⟨mp,rfl,H3⟩;have a6:=H3.2
  have a5:Hid (yA w3 w.heap.size 174 1 w.heap.size [.map (some B)]/\yA w3 w.heap.size 83 7 (w.heap.size+1) n.seven/\Below w.heap.size w w3/\MpA w3 B N Ts/\TsA base Ts w3/\yDm w3 WD.heap.size w3.heap.size n (.pointer mp)/\WD.heap.size<=w3.heap.size/\w.heap.size<=WD.heap.size):=
   ⟨HD.1.below a6,HD.2.1.below a6,HD.2.2.1.trans (a6.mono HD.2.2.1.size),HD.2.2.2.1.chg (S:=λ_=>False) (Chg.of_below a6) (λq=>q),HD.2.2.2.2.chg (S:=λ_=>False) (Chg.of_below a6) (λq hq=>hq.elim) (λq=>q),H3.1,a6.size,HD.2.2.1.size⟩
  have ah:=ai.out _ a5.2.1;clear a6 H3 HD a9 au;refine hK.out _ _ (.inr ah) ?_;clear hK;refine jS ?_;refine ja 4 ah ?_;obtain⟨W4,ab⟩:=qW (w3.alloc (Obj.cells #[.int .i64 n.kind,.string n.s,.bool n.hi,.string n.t,.int .u64 n.lo,.int .u64 n.up,.int .i64 n.n,.pointer mp,.string n.s] 288));have a2:Hid (yA W4 w.heap.size 174 1 w.heap.size [.map (some B)]/\yA W4 w.heap.size 83 7 (w.heap.size+1) n.seven/\Below w.heap.size w W4/\MpA W4 B N Ts/\TsA base Ts W4/\yDm W4 WD.heap.size w3.heap.size n (.pointer mp)/\yA W4 w.heap.size 288 9 w3.heap.size [.int .i64 n.kind,.string n.s,.bool n.hi,.string n.t,.int .u64 n.lo,.int .u64 n.up,.int .i64 n.n,.pointer mp,.string n.s]):=by
   have k4:Below w3 w3 W4:=by rw[ab];exact qB
   obtain⟨h1,h2,h3,h4,h5,h6,h7,h8⟩:=a5.out;exact⟨h1.below k4,h2.below k4,h3.trans (k4.mono h3.size),h4.chg (S:=λ_=>False) (Chg.of_below k4) (λq=>q),h5.chg (S:=λ_=>False) (Chg.of_below k4) (λq hq=>hq.elim) (λq=>q),h6.below k4,by rw[ab];exact yAa w3 _ h3.size rfl⟩
  have ag:=ai.out _ a2.2.1;have a3:=a5.2.2.2.2.2.2;refine qO 5 rfl λK hK=>?_;go_simp;rw[<-ab];refine hK.out _ _ (.inr ag) ?_;clear hK ab ah;refine jS ?_;refine qO 6 rfl λK hK=>?_;go_simp;refine hK.out _ _ (.inr ag) ?_;clear hK ag;refine jS ?_;refine qD ?_;have t7:=a2.2.2.2.2.2.2.cell (j:=7) rfl;obtain⟨T,a0⟩:=qE (⟨n,w3.heap.size,WD.heap.size,w3.heap.size,mp⟩:Tt);have HTn:Hid (T.n=n):=by show _=_;rw[a0]
  have HTt:Hid (T.t=w3.heap.size):=by show _=_;rw[a0]
  have ac:=a2.2.2.2.2.2.1;rcases ac with⟨hP,ae⟩|⟨hP,M,ae,ac⟩
  .cases ae
   obtain⟨wx,a4⟩:=qW W4;have HBx:Hid (yA wx w.heap.size 174 1 w.heap.size [.map (some B)]/\yA wx w.heap.size 83 7 (w.heap.size+1) n.seven/\MpA wx B N Ts/\TsA base (T::Ts) wx/\Chg (λq=>q=B) w wx/\w.heap.size<=T.lo):=by
    obtain⟨h1,h2,h3,h4,h5,h6,h7⟩:=a2.out;rw[a4];refine⟨h1,h2,h4,?_,Chg.of_below h3,by rw[a0];exact a3.2⟩;refine yUg h5 ?_ (by rw[a0];show base<=WD.heap.size;have:=HBb.2.1;omega) (λX hX=>?_)
    .rw[a0];exact⟨⟨h7.cell (j:=0) rfl,h7.cell (j:=1) rfl,h7.cell (j:=2) rfl,h7.cell (j:=3) rfl,h7.cell (j:=4) rfl,h7.cell (j:=5) rfl,h7.cell (j:=6) rfl,h7.cell (j:=7) rfl⟩,by rw[xDg hP];exact h7.cell (j:=8) rfl,h7.lt.2,h6,a3.1,Nat.le_refl _,by show _<WD.heap.size;have:=h5.tabl;have:=HBb.2.1;omega⟩
    .rw[a0];show X.t<WD.heap.size;exact ak.out X hX
   rw[<-a4]at t7⊢;clear a4 hP a2 a5 a3 a0;exact zTeB
  .cases ae
   obtain⟨qb,am⟩:=yQm n HnO.s;have ar:Hid (∀W,(xf 198 #[n.s] W (.agg #[(pfxB n.s),qb]):Prop)):=am;obtain⟨pb,ad⟩:=qE (pfxB n.s);rw[<-ad]at ar;have aA:∀W:World,(Instr.field 268 (.agg #[pb,qb]) 0).run prog W=.ok pb W:=λW=>by kernel_rfl
   have x1:=a2.2.1.cell (j:=1) rfl;have aj:Hid (pb=pfxB n.s/\PatK n.kind):=⟨ad,hP⟩;clear am ad hP;go_wp2_with fail;refine(ar.out _).mono ?_;rintro e w5 ⟨rfl,af⟩;obtain⟨wx,a4⟩:=qW (xt w5 w3 8 pb);have aa:=a2.2.2.2.2.2.2.below af;have u8:=aa.cell (j:=8) rfl;have f8:=aa.frozen 8;have HBx:Hid (yA wx w 174 1 w [.map (some B)]/\yA wx w 83 7 (w+1) n.seven/\MpA wx B N Ts/\TsA base (T::Ts) wx/\Chg (λq=>q=B) w wx/\w.heap.size<=T.lo):=by
    obtain⟨h1,h2,h3,h4,h5,h6,h7⟩:=a2.out;have ax:Chg (λq=>q=w3.heap.size) w5 wx:=by rw[a4];exact Chg.of_set _ _ _ _ rfl
    have k3:Chg (λq=>q=w3.heap.size) W4 wx:=(Chg.of_below af).trans ax;have a1:yA wx w 288 9 w3 [xi n.kind,n.s,n.hi,n.t,xu n.lo,xu n.up,xi n.n,xp M,pb]:=by have:=aa.set 8 pb;rw[a4];exact this
    have l1:=h1.lt;have l2:=h2.lt;have l7:=h7.lt;have lB:=HBb.out;have aw:¬w3.heap.size=w.heap.size+1:=qv a3 a5.2.1.lt
    have av:¬w3.heap.size=w.heap.size:=qw a5.1.lt
    refine⟨h1.chg k3 (λq=>av q.symm),h2.chg k3 (λq=>aw q.symm),h4.chg k3 (by omega),?_,?_,by rw[a0];exact a3.2⟩
    .have ay:TsA base Ts wx:=h5.turn k3 (λX hX=>qv (ak.out X hX) a3) (qw h5.tabl);refine yUg ay ?_ (by rw[a0];show base<=WD.heap.size;omega) (λX hX=>?_)
     .rw[a0];exact⟨⟨a1.cell (j:=0) rfl,a1.cell (j:=1) rfl,a1.cell (j:=2) rfl,a1.cell (j:=3) rfl,a1.cell (j:=4) rfl,a1.cell (j:=5) rfl,a1.cell (j:=6) rfl,a1.cell (j:=7) rfl⟩,by rw[ySx aj.2,<-aj.1];exact a1.cell (j:=8) rfl,a1.lt.2,h6.chg k3 (λq hq z=>qw z.2) (λ_=>qw h5.tabl),a3.1,Nat.le_refl _,by show _<WD.heap.size;have:=h5.tabl;omega⟩
     .rw[a0];show X.t<WD.heap.size;exact ak.out X hX
    .exact(Chg.of_below h3).absorb k3 (λq hq=>.inr (qw a5.1.lt))
   clear aa af;go_upto_region 7 with fail;rw[<-a4];clear a4 u8 f8 a2 a5 a3 a0 aj t7 x1 ac;exact zTeB
 .have HE:Hid (∃N' Ts',T∈Ts'/\T.n=n/\(∀X∈Ts,X∈Ts')/\(∀X∈Ts',X∈Ts∨w.heap.size<=X.lo)/\MpA W0 B N' Ts'/\N'<=N+1/\TsA base Ts' W0/\Chg (λq=>q=B) w W0):=⟨N,Ts,aq,ao,λX hX=>hX,λX hX=>.inl hX,HM.1,le_succ _,HM.2,Chg.of_below H0.2.2⟩;clear aq ao;go_enter func151,ntmps151;go_upto_region 1 with fail;rw[<-a7];clear a7;go_wp2;go_ret;exact⟨T,rfl,HE⟩
theorem EnI.SV {g:Nat} {c:Ent} {b:Nat} (h:EnI base t g cap ks i k most c b w wx) (ho:i*4=o):(λwz:World=>xk wz t 0 (.pointer (some ⟨g,o,none⟩))/\xk wz b 0 c.row/\xk wz b 1 c.fam/\xk wz b 2 c.qual/\xk wz b 3 (xu c.ts)/\xk wz b 4 c.val/\xk wz g o k.row/\xk wz g (o+1) k.fam/\xk wz g (o+2) k.qual) wx:=by obtain⟨h0,h1,h2,h3,h4,h5⟩:=h.S ho;obtain⟨c0,c1,c2,_⟩:=h.ck.cells;rw[ho]at c0 c1 c2;exact⟨h0,h1,h2,h3,h4,h5,c0,c1,c2⟩
def yFy (same:Bool) (k:Ctr) (c:Ent):Ctr:=if same=true then k else entC c
def yOk (same:Bool) (k:Ctr) (c:Ent) (most:Int):Ctr:=if(yFy same k c).count<most then {yFy same k c with count:=(yFy same k c).count+1}else yFy same k c
def CnP (base t g cap:Nat) (ks:List Ctr) (i:Nat) (k:Ctr) (most:Int) (c:Ent) (same:Bool) (w:World) (e:Ending) (w':World):Prop:=
 e=.returned (decide ((yFy same k c).count<most))/\CkA w' base t g cap (ks.set i (yOk same k c most)) i (yOk same k c most) most/\Chg (λq=>q=g) w w'
theorem yX7 (h:ks[i]?=some k):ks.set i k=ks:=by obtain⟨hi,rfl⟩:=List.getElem?_eq_some_iff.1 h;exact set_getElem_self hi
variable {e:Ending}
theorem xI {g:Nat} {c:Ent} {same:Bool} {w1 w2:World} {ks1:List Ctr} {k1:Ctr} (hk:ks[i]?=some k) (h1:ks1=if same=true then ks else ks.set i (entC c)) (h2:k1=if same=true then k else entC c) (hc:Chg (λq=>q=g) w w1) (ht:TkP base t g cap ks1 i k1 most w1 e w2):CnP base t g cap ks i k most c same w e w2:=by
 obtain⟨t1,t2,t3⟩:=ht;have a0:k1=yFy same k c:=h2;have hs:∀x,ks1.set i x=ks.set i x:=λx=>by
  rw[h1];cases same
  .simp
  .simp
 refine⟨by rw[t1,a0],?_,hc.trans t3⟩;unfold yOk;rw[<-a0];by_cases hl:k1.count<most
 .rw[if_pos hl,if_pos hl]at t2;rw[if_pos hl,<-hs];exact t2
 .rw[if_neg hl,if_neg hl]at t2;rw[if_neg hl,<-hs,yX7 t2.at_];exact t2
theorem EnI.start {g:Nat} (h:CkA w base t g cap ks i k most) (c:Ent) {W1:World} {b:Nat} (hb:b=w.heap.size) (hW1:W1=(xw w #[c.row,c.fam,c.qual,xu c.ts,c.val] 70)):EnI base t g cap ks i k most c b w W1:=by
 have a0:=qN hW1
 exact⟨h.on a0,by rw[hb,hW1];exact yAa w _ qr rfl,a0⟩
theorem yKp {g:Nat} (h:CkA w base t g cap ks i k most) (c:Ent) (hc:0<=k.count/\k.count<=1000000):
  Calls prog 191 #[xp t,c.c] w (CnP base t g cap ks i k most c (k.row.toList==c.row.toList) w):=by
 obtain⟨W1,a2⟩:=qW (xw w #[c.row,.string c.fam,.string c.qual,.int .u64 c.ts,.string c.val] 70);obtain⟨b,hb⟩:=qE w.heap.size;obtain⟨o,ho⟩:∃o,i*4=o:=⟨_,rfl⟩;have HO:=qH1 ho;have ac:=qH1 h.at_;obtain⟨sm,a1⟩:=qE ((k.row.toList==c.row.toList));rw[<-a1];have a9:Hid (sm=(k.row.toList==c.row.toList)):=a1;have a3:Hid (EnI base t g cap ks i k most c b w W1.drew):=(EnI.start h c hb a2).on ((Below.refl _ _).drew);have ad:Hid (∀wz,(xf 99 #[c.c] wz (putE c).v:Prop)):=λwz=>yBx c wz;have ae:Hid (∀wz,(xf 216 #[(putE c).v] wz (.agg #[c.row,c.fam,c.qual]):Prop)):=λwz=>yHr (putE c) wz;have ab:Hid (∀wz,EnI base t g cap ks i k most c b w wz->Calls prog 215 #[xp t,c.c,sm] wz (EnP base t g cap ks i k most c sm wz)):=λwz hz=>enter_core' hz.ck c sm;have a8:Hid (∀(wz wy:World),EnI base t g cap ks i k most c b w wz->∀e,EnP base t g cap ks i k most c sm wz e wy->Calls prog 217 #[xp t] wy (CnP base t g cap ks i k most c sm w)):=λwz wy hz e hy=>(yL4 hy.2.1 (by cases sm<;>simp[entC];omega)).mono λe' w' ht=>xI ac.out rfl rfl ((Chg.of_below hz.below).trans hy.2.2) ht;clear h ho a1;go_enter func191,ntmps191;go_upto_region 1 with fail;rw[<-a2,<-hb];clear a2 hb;have a0:SW (λwz:World=>xk wz t 0 (.pointer (some ⟨g,o,none⟩))/\xk wz b 0 c.row/\xk wz b 1 c.fam/\xk wz b 2 c.qual/\xk wz b 3 (xu c.ts)/\xk wz b 4 c.val/\xk wz g o k.row/\xk wz g (o+1) k.fam/\xk wz g (o+2) k.qual) W1.drew:=a3.SV HO.out;refine wpR 13 a0 ?_;refine yAi [] 0 ?vc0 rfl ?yc0 a0 ?_;case yc0=>exact zzR0
 refine jS ?_;refine yAi [] 1 ?vc1 rfl ?yc1 a0 ?_;case yc1=>exact zzR0
 refine jS ?_;refine yAi [3,4,5,6,7,8,9,12] 2 ?vc2 rfl ?yc2 a0 ?_;case yc2=>exact zzR0
 refine jS ?_;refine yAi [4,5,6,7,8,9,12] 3 ?vc3 rfl ?yc3 a0 ?_;case yc3=>exact zzR0
 refine jS ?_;refine yAi [5,6,7,8,9,12] 4 ?vc4 rfl ?yc4 a0 ?_;case yc4=>exact zzR0
 refine jS ?_;refine yAi [6,7,8,9,12] 5 ?vc5 rfl ?yc5 a0 ?_;case yc5=>exact zzR0
 refine jS ?_;refine yAi [7,8,9,12] 6 ?vc6 rfl ?yc6 a0 ?_;case yc6=>exact zzR0
 refine jS ?_;refine yAi [8,9,12] 7 ?vc7 rfl ?yc7 a0 ?_;case yc7=>exact zzR0
 refine jS ?_;refine yAi [9,12] 8 ?vc8 rfl ?yc8 a0 ?_;case yc8=>exact zzR0
 refine jS ?_;refine yAi [12] 9 ?vc9 rfl ?yc9 a0 ?_;case yc9=>exact zzR0
 refine jS ?_;refine yAi [11,12] 10 ?vc10 rfl ?yc10 a0 ?_;case yc10=>exact zzR0
 refine jS ?_;refine yAi [12] 11 ?vc11 rfl ?yc11 a0 ?_;case yc11=>exact zzR0
 refine jS ?_;refine yAi [] 12 sm rfl ?yc12 a0 ?_;case yc12=>(intro wz hSw;obtain⟨z0,z1,z2,z3,z4,z5,z6,z7,z8⟩:=hSw;go_simp;rw[a9.out])
 refine jS ?_;refine qO 13 rfl λK hK=>?_;go_simp;refine(ab.out _ a3.out).mono ?_;rintro e wy hy;have HY:=a8.out _ _ a3.out e hy;obtain⟨rfl,_,_⟩:=hy;refine hK.out _ _ (.inl rfl) ?_;clear hK a0;refine jS ?_;refine qD ?_;have a7:Hid (Calls prog 217 #[xp t] wy (CnP base t g cap ks i k most c sm w)):=HY;clear HY;go_wp2_with fail;refine a7.mono ?_;rintro e w9 h9;obtain⟨a6,a5,a4⟩:=h9;subst a6;have aa:Hid (CnP base t g cap ks i k most c sm w (.returned (decide ((yFy sm k c).count<most))) w9):=⟨rfl,a5,a4⟩;clear a5 a4;go_wp2;go_ret;exact aa.out
theorem yV1 {g:Nat} (h:CkA w base t g cap ks i k most) (c:Ent) (hc:0<=k.count/\k.count<=1000000):
  Calls prog 192 #[xp t,c.c] w λe w'=>e=.returned (!decide ((yFy (k.row.toList==c.row.toList) k c).count<most))/\CkA w' base t g cap (ks.set i (yOk (k.row.toList==c.row.toList) k c most)) i (yOk (k.row.toList==c.row.toList) k c most) most/\Chg (λq=>q=g) w w':=by
 obtain⟨W1,a1⟩:=qW (xw w #[c.row,c.fam,c.qual,xu c.ts,c.val] 70);have H1:=qH1 (EnI.start h c rfl a1);have HC:=qH1 (yKp H1.ck c hc);obtain⟨y0,y1,y2,y3,y4⟩:=H1.box.c5;obtain⟨bb,a0⟩:=qE (decide ((yFy (k.row.toList==c.row.toList) k c).count<most));have a2:=qH1 a0;rw[<-a0];clear h a0;go_enter func192,ntmps192;go_upto_region 1 with fail;rw[<-a1];clear a1;go_wp2_with fail;refine HC.mono ?_;rintro e w2 ⟨h1,h2,h3⟩;rw[<-a2.out]at h1;subst h1;have H2:=qH2 h2 ((Chg.of_below H1.below).trans h3);clear h2 h3;go_wp2;go_ret;exact⟨rfl,H2.out⟩
theorem zJa {q:Prop} (k:q) (h:q->p:=by intro zz;have hS1:=hS0;obtain⟨z0,z1,z2,z3,z4,z5,z6,z7,z8⟩:=hS1;go_simp;refine hK.out _ _ (.inr hS0) ?_;refine jS ?_;refine yAi [5,6,7,8,12] 4 _ rfl (by exact zzR0) hS0 ?_;refine jS ?_;refine yAi [6,7,8,12] 5 _ rfl (by exact zzR0) hS0 ?_;refine jS ?_;exact zz):p:=h k
theorem zJb {q:Prop} (k:q) (h:q->p:=by intro zz;have hS1:=hS0;obtain⟨z0,z1,z2,z3,z4,z5,z6,z7,z8⟩:=hS1;go_simp;refine hK.out _ _ (.inr hS0) ?_;refine jS ?_;refine yAi [8,12] 7 _ rfl (by exact zzR0) hS0 ?_;refine jS ?_;refine yAi [12] 8 _ rfl (by exact zzR0) hS0 ?_;refine jS ?_;exact zz):p:=h k
theorem zJ22 (h:p:=by refine yAi [] 12 (.bool sm) rfl (by exact zzR3) hS0 ?_;exact zzQ8):p:=h
theorem zJ21 (h:p:=by refine qO 11 rfl λK hK=>?_;go_simp;refine(HCol.out _).mono ?_;rintro e wb ⟨rfl,hb⟩;have HKwb:=qH1 (HKwa.on hb);clear hS0 hb;have hS0:=HKwb.SV HO.out;refine hK.out _ _ (.inr hS0) ?_;clear hK;refine jS ?_;exact zJ22):p:=h
theorem zJ20 (h:p:=by refine qO 10 rfl λK hK=>?_;go_simp;refine(HPut.out _).mono ?_;rintro e wa ⟨rfl,hb⟩;have HKwa:=qH1 (HKd.on hb);clear hS0 hb;have hS0:=HKwa.SV HO.out;refine hK.out _ _ (.inr hS0) ?_;clear hK;refine jS ?_;exact zJ21):p:=h
theorem zJ12 (h:p:=by refine qO 6 rfl λK hK=>?_;refine zJb ?_;exact zJ22):p:=h
theorem zJ02 (h:p:=by refine qO 3 rfl λK hK=>?_;refine zJa ?_;exact zJ12):p:=h
theorem zJ11 (h:p:=by 
 refine yB2 (i:=6) (j:=11) (by kernel_rfl) rfl rfl (λK hK=>?_) (λK hK=>?_)
 .refine zJb ?_;exact zJ21
 .go_simp;refine(HCol.out _).mono ?_;rintro e wb ⟨rfl,hb⟩;have HKwb:=qH1 (HKwa.on hb);clear hS0 hb;have hS0:=HKwb.SV HO.out;refine hK.out _ _ (.inr hS0) ?_;clear hK;refine jS ?_;exact zJ12):p:=h
theorem zJ10 (h:p:=by 
 refine yB2 (i:=6) (j:=10) (by kernel_rfl) rfl rfl (λK hK=>?_) (λK hK=>?_)
 .refine zJb ?_;exact zJ20
 .go_simp;refine(HPut.out _).mono ?_;rintro e wa ⟨rfl,hb⟩;have HKwa:=qH1 (HKd.on hb);clear hS0 hb;have hS0:=HKwa.SV HO.out;refine hK.out _ _ (.inr hS0) ?_;clear hK;refine jS ?_;exact zJ11):p:=h
theorem zJ01 (h:p:=by 
 refine yB2 (i:=3) (j:=11) (by kernel_rfl) rfl rfl (λK hK=>?_) (λK hK=>?_)
 .refine zJa ?_;exact zJ11
 .go_simp;refine(HCol.out _).mono ?_;rintro e wb ⟨rfl,hb⟩;have HKwb:=qH1 (HKwa.on hb);clear hS0 hb;have hS0:=HKwb.SV HO.out;refine hK.out _ _ (.inr hS0) ?_;clear hK;refine jS ?_;exact zJ02):p:=h
theorem yVq {g:Nat} (h:CkA w base t g cap ks i k most) (c:Ent) (hc:0<=k.count/\k.count<=1000000):
  Calls prog 189 #[xp t,c.c] w (CnP base t g cap ks i k most c (k.row.toList==c.row.toList && (k.fam.toList==c.fam.toList && k.qual.toList==c.qual.toList)) w):=by
 obtain⟨W1,a1⟩:=qE (xw w #[c.row,c.fam,c.qual,xu c.ts,c.val] 70:World);obtain⟨b,hb⟩:=qE w.heap.size;obtain⟨o,ho⟩:∃o,i*4=o:=⟨_,rfl⟩;have HO:=qH1 ho;have a2:=qH1 h.at_;obtain⟨sm,a0⟩:=qE ((k.row.toList==c.row.toList && (k.fam.toList==c.fam.toList && k.qual.toList==c.qual.toList)));rw[<-a0];have HSM:Hid (sm=(k.row.toList==c.row.toList && (k.fam.toList==c.fam.toList && k.qual.toList==c.qual.toList))):=a0;have HKd:Hid (EnI base t g cap ks i k most c b w W1.drew):=(EnI.start h c hb a1).on ((Below.refl _ _).drew);have HPut:Hid (∀wz,(xf 99 #[c.c] wz (putE c).v:Prop)):=λwz=>yBx c wz;have HCol:Hid (∀wz,(xf 216 #[(putE c).v] wz (.agg #[c.row,c.fam,c.qual]):Prop)):=λwz=>yHr (putE c) wz;have HEn:Hid (∀wz,EnI base t g cap ks i k most c b w wz->Calls prog 215 #[xp t,c.c,sm] wz (EnP base t g cap ks i k most c sm wz)):=λwz hz=>enter_core' hz.ck c sm;have HTk:Hid (∀(wz wy:World),EnI base t g cap ks i k most c b w wz->∀e,EnP base t g cap ks i k most c sm wz e wy->Calls prog 217 #[xp t] wy (CnP base t g cap ks i k most c sm w)):=λwz wy hz e hy=>(yL4 hy.2.1 (by cases sm<;>simp[entC];omega)).mono λe' w' ht=>xI a2.out rfl rfl ((Chg.of_below hz.below).trans hy.2.2) ht;clear h ho a0;go_enter func189,ntmps189;go_upto_region 1 with fail;rw[<-a1,<-hb];clear a1 hb;have hS0:SW (λwz:World=>xk wz t 0 (.pointer (some ⟨g,o,none⟩))/\xk wz b 0 c.row/\xk wz b 1 c.fam/\xk wz b 2 c.qual/\xk wz b 3 (xu c.ts)/\xk wz b 4 c.val/\xk wz g o k.row/\xk wz g (o+1) k.fam/\xk wz g (o+2) k.qual) W1.drew:=HKd.SV HO.out;refine wpR 13 hS0 ?_;refine yAi [] 0 _ rfl (by exact zzR0) hS0 ?_;refine jS ?_;refine yAi [] 1 _ rfl (by exact zzR0) hS0 ?_;refine jS ?_;refine yAi [3,4,5,6,7,8,12] 2 _ rfl (by exact zzR0) hS0 ?_;refine jS ?_;refine yAi [10,11,12] 9 _ rfl (by exact zzR0) hS0 ?_;refine jS ?_;refine yB2 (i:=3) (j:=10) (by kernel_rfl) rfl rfl (λK hK=>?_) (λK hK=>?_)
 .refine zJa ?_;exact zJ10
 .go_simp;refine(HPut.out _).mono ?_;rintro e wa ⟨rfl,hb⟩;have HKwa:=qH1 (HKd.on hb);clear hS0 hb;have hS0:=HKwa.SV HO.out;refine hK.out _ _ (.inr hS0) ?_;clear hK;refine jS ?_;exact zJ01
structure CtK (k:Ctr):Prop where
 lo:0<=k.count
 up:k.count<=1000
 new:k.used=false->k.row=⟨#[]⟩
theorem yZz:CtK newC:=⟨Int.le_refl _,qj,λ_=>rfl⟩
theorem xA8 (h:¬a=⟨#[]⟩):((⟨#[]⟩:ByteArray).toList==a.toList)=false:=by
 cases q:((⟨#[]⟩:ByteArray).toList==a.toList)
 .rfl
 .exact absurd (yDx.1 q).symm h
theorem yZ2 {c:Ent} (hk:CtK k) (hr:¬c.row=⟨#[]⟩) (same:Bool) (hs:same=(k.row.toList==c.row.toList && (!decide (n.kind=11) || (k.fam.toList==c.fam.toList && k.qual.toList==c.qual.toList)))):yFy same k c=yC4 n k c:=by
 have h1:yPj n k c=same:=by
  unfold yPj eqB;cases hu:k.used
  .rw[hs,hk.new hu,xA8 hr];rfl
  .rw[hs];rfl
 unfold yFy yC4;rw[h1];rfl
theorem xDk {c:Ent} {same:Bool} (h:yFy same k c=yC4 n k c) (h13:¬n.kind=13):decide ((yFy same k c).count<n.n)=(yCh n k c).1/\yOk same k c n.n=(yCh n k c).2:=by
 unfold yOk yCh;rw[h];split
 .rename_i q;simp[q,h13]
 .rename_i q;simp[q,h13]
theorem xB8 {c:Ent} {same:Bool} (h:yFy same k c=yC4 n k c) (h13:n.kind=13):(!decide ((yFy same k c).count<n.n))=(yCh n k c).1/\yOk same k c n.n=(yCh n k c).2:=by
 unfold yOk yCh;rw[h];split
 .rename_i q;simp[q,h13]
 .rename_i q;simp[q,h13]
theorem xE9 {c:Ent} (hk:CtK k) (hn:n.n<=1000):CtK (yCh n k c).2:=by
 have he:CtK (yC4 n k c):=by
  unfold yC4;split
  .exact hk
  .exact⟨Int.le_refl _,by simp,λq=>by simp at q⟩
 unfold yCh;split
 .refine⟨?_,?_,λq=>he.new q⟩
  .have:=he.lo;simp only;omega
  .simp only;omega
 .exact he
theorem yY5 n k i c:yCh n k (yB i c)=yCh n k c:=by unfold yB;split<;>rfl
theorem yZn (p:ByteArray) n i c:yB4 p n (yB i c)=yB4 p n c:=by unfold yB;split<;>rfl
abbrev xBw (n:Nd) (mp:Option Addr):Value:=.func (Fn.func 193) #[ctvV n (.pointer mp)] #[]
abbrev anyV (r:Int):Value:=.func (Fn.func 190) #[.agg #[xi r,xe]] #[]
abbrev ofT (k t:Nat):Value:=.func (Fn.func k) #[xp t] #[]
def hntV (k:Int) (t:Nat):Value:=
 if k=2 then anyV 6 else if k=4∨k=8 then ofT 194 t else if k=5 then anyV 3 else if k=6∨k=9 then ofT 195 t else if k=10 then ofT 196 t else anyV 0
def cntF (k:Int):Nat:=if k=11 then 189 else if k=12 then 191 else 192
def cntR (k:Int):Int:=if k=11 then 1 else if k=12 then 4 else 0
def tstK (k:Int):Prop:=k=1∨k=2∨k=3∨k=4∨k=5∨k=6∨k=7∨k=8∨k=9∨k=10
abbrev yFi (w:World) (base p N:Nat) (L:List Value):Prop:=w.ownsRow base 234 13 (xg p N N) N L
def BdT (w:World) (p o:Nat) (A H:Value) (e:Ending) (w':World):Prop:=e=.returned (.tuple #[])/\Hid ((∀base N L,yFi w base p N L->yFi w' base p N ((L.set (o+11) A).set (o+12) H))/\Chg (λq=>q=p) w w')
variable {p:Nat} {A H:Value}
theorem yZ7 (he:e=.returned (.tuple #[])) (hw:w'=(xt (w.setCell (xd p (o+11)) A) p (o+12) H)):BdT w p o A H e w':=
 ⟨he,λbase N L h=>by rw[hw];exact(World.ownsRow.stored (World.ownsRow.stored h (o+11) A).1 (o+12) H).1,by rw[hw];exact(Chg.of_set (S:=λq=>q=p) _ _ _ _ rfl).trans (Chg.of_set (S:=λq=>q=p) _ _ _ _ rfl)⟩
theorem yEq {H':Value} (he:e=.returned (.tuple #[])) (hw:w'=(xt ((w.setCell (xd p (o+11)) A).setCell (xd p (o+12)) H') p (o+12) H)):BdT w p o A H e w':=
 ⟨he,λbase N L h=>by
  rw[hw]
  have h3:=(World.ownsRow.stored (World.ownsRow.stored (World.ownsRow.stored h (o+11) A).1 (o+12) H').1 (o+12) H).1
  rw[set_set]at h3
  exact h3,by rw[hw];exact((Chg.of_set (S:=λq=>q=p) _ _ _ _ rfl).trans (Chg.of_set (S:=λq=>q=p) _ _ _ _ rfl)).trans (Chg.of_set (S:=λq=>q=p) _ _ _ _ rfl)⟩
theorem yRg {mp:Option Addr} {u v:Value} (ht:CtvA w t n (.pointer mp)) (hne:¬p=t) (hk:tstK n.kind) (kd:(xk w p (o+4) (xi n.kind):Prop)) (c1:(xk w p (o+11) u:Prop)) (c2:(xk w p (o+12) v:Prop)) (fz:∀j,w.frozen? (xd p j)=false):
  Calls prog 150 #[.pointer (some ⟨p,o,none⟩),xp t] w (BdT w p o (xBw n mp) (hntV n.kind t)):=by
 rcases hk with h|h|h|h|h|h|h|h|h|h
 .rw[h]at kd;rw[h];exact(yLy ht hne kd c1 c2 fz).mono (λe w' q=>yZ7 q.1 q.2)
 .rw[h]at kd;rw[h];exact(yLx ht hne kd c1 c2 fz).mono (λe w' q=>yEq q.1 q.2)
 .rw[h]at kd;rw[h];exact(yLw ht hne kd c1 c2 fz).mono (λe w' q=>yZ7 q.1 q.2)
 .rw[h]at kd;rw[h];exact(yLv ht hne kd c1 c2 fz).mono (λe w' q=>yEq q.1 q.2)
 .rw[h]at kd;rw[h];exact(yLu ht hne kd c1 c2 fz).mono (λe w' q=>yEq q.1 q.2)
 .rw[h]at kd;rw[h];exact(yLt ht hne kd c1 c2 fz).mono (λe w' q=>yEq q.1 q.2)
 .rw[h]at kd;rw[h];exact(yLs ht hne kd c1 c2 fz).mono (λe w' q=>yZ7 q.1 q.2)
 .rw[h]at kd;rw[h];exact(yLr ht hne kd c1 c2 fz).mono (λe w' q=>yEq q.1 q.2)
 .rw[h]at kd;rw[h];exact(yLq ht hne kd c1 c2 fz).mono (λe w' q=>yEq q.1 q.2)
 .rw[h]at kd;rw[h];exact(yKs ht hne kd c1 c2 fz).mono (λe w' q=>yEq q.1 q.2)
def BdC (w:World) (p o g q:Nat) (m:Int) (A H:Value) (e:Ending) (w':World):Prop:=e=.returned (.tuple #[])/\Hid ((∀base N L,yFi w base p N L->yFi w' base p N ((L.set (o+11) A).set (o+12) H))/\Chg (λk=>k=p) w w'/\yA w' w 283 2 w [.pointer (some ⟨g,q,none⟩),xi m])
theorem yZ8 {g q:Nat} {m:Int} (he:e=.returned (.tuple #[])) (hw:w'=(xw ((w.setCell (xd p (o+11)) A).setCell (xd p (o+12)) H) #[.pointer (some ⟨g,q,none⟩),xi m] 283)):BdC w p o g q m A H e w':=by
 obtain⟨X,hX⟩:=qW (xt (w.setCell (xd p (o+11)) A) p (o+12) H);have hz:X.heap.size=w.heap.size:=by rw[hX];simp
 rw[<-hX]at hw;have kb:=qN hw
 refine⟨he,λbase N L h=>?_,?_,?_⟩
 .have h3:=(World.ownsRow.stored (World.ownsRow.stored h (o+11) A).1 (o+12) H).1;rw[<-hX]at h3;exact yAh h3 (S:=λ_=>False) (Chg.of_below kb) (λ_ _ z=>z)
 .have h4:Chg (λk=>k=p) w X:=by rw[hX];exact(Chg.of_set (S:=λq=>q=p) _ _ _ _ rfl).trans (Chg.of_set (S:=λq=>q=p) _ _ _ _ rfl)
  exact h4.trans (Chg.of_below kb)
 .have:=yAa X (base:=w.heap.size) (t:=283) (sz:=2) #[.pointer (some ⟨g,q,none⟩),xi m] qo rfl;rw[<-hw,hz]at this;exact this
theorem yKt {g q:Nat} {m k:Int} {u v:Value} (hp:p<w.heap.size) (hk:cntK k) (kd:(xk w p (o+4) (xi k):Prop)) (nn:(xk w p (o+10) (xi m):Prop)) (c1:(xk w p (o+11) u:Prop)) (c2:(xk w p (o+12) v:Prop)) (fz:∀j,w.frozen? (xd p j)=false):
  Calls prog 149 #[.pointer (some ⟨p,o,none⟩),.pointer (some ⟨g,q,none⟩)] w (BdC w p o g q m (ofT (cntF k) w) (anyV (cntR k))):=by
 rcases hk with h|h|h
 .rw[h]at kd;rw[h];exact(yHz hp kd nn c1 c2 fz).mono (λe w' q=>yZ8 q.1 q.2)
 .rw[h]at kd;rw[h];exact(yLz hp kd nn c1 c2 fz).mono (λe w' q=>yZ8 q.1 q.2)
 .rw[h]at kd;rw[h];exact(yOv hp kd nn c1 c2 fz).mono (λe w' q=>yZ8 q.1 q.2)
theorem yZc (h:yFk [n]):cntK n.kind∨tstK n.kind:=by
 have hg:=yF h n (by simp);obtain⟨_,s,hs,_⟩:=h;have ha:yA0 n.kind=0:=by
  generalize hxs: [n]=xs at hs;generalize [s]=ss at hs;cases hs with
  |nil=>cases hxs
  | @snoc ss os xs m ho hh=>
    have h1:xs= []/\n=m:=by
     cases xs with
     |nil=>simp at hxs;exact⟨rfl,hxs⟩
     |cons a r=>simp at hxs
    obtain⟨rfl,rfl⟩:=h1;have h2:ss++os= []:=by
     generalize hz:ss++os=zs at hh;generalize hy:([]:List Nd)=ys at hh;cases hh with
     |nil=>rfl
     |snoc m ho hh=>simp at hy
    have h3:=(List.append_eq_nil_iff.1 h2).2;rw[<-ho,h3];rfl
 unfold yA0 at ha;unfold cntK tstK;rcases hg.2.2.2 with q|q|q|q|q
 .omega
 .omega
 .omega
 .omega
 .have q1:=q.1;rcases q1 with q1|q1|q1|q1|q1|q1<;>simp[q1]at ha⊢
section
section
variable {P:Program} {ops:Array Oper} {Q:Exit->Act->World->Prop} {md:Region.Mode} {S:World->Prop} {X:List Nat}
def AnyX (P:Program) (md:Region.Mode) (ops:Array Oper) (Q:Exit->Act->World->Prop) (S:World->Prop) (X:List Nat):Nat->Array Bool->Act->World->Prop
 |0,listed,a,w=>Region.ready md ops listed= []/\Q .normal a w
 |fuel+1,listed,a,w=>
  (Region.ready md ops listed= []->Q .normal a w)/\
  ∀i∈Region.ready md ops listed,wpOp P ops Q i (λa' w'=>(i∈X∨S w')/\AnyX P md ops Q S X fuel (listed.setIfInBounds i true) a' w') a w
theorem yVg:∀(fuel:Nat) (listed:Array Bool) (a:Act) (w:World),AnyX P md ops Q S X fuel listed a w->wpAny P md ops Q fuel listed a w
 |0,_,_,_,h=>h
 |fuel+1,_,_,_,h=>⟨h.1,λi hi=>wpOp_mono (λa' w' h'=>yVg fuel _ a' w' h'.2) (h.2 i hi)⟩
def yO2 (md:Region.Mode) (ops:Array Oper) (Y:List Nat) (listed:Array Bool) (i:Nat):Bool:=Y.all λL=>listed.getD L true==false && (yDy md ops L i || Y.any λL'=>yDy md ops L L')
def cloX (md:Region.Mode) (ops:Array Oper) (listed:Array Bool):Nat->List Nat->List Nat
 |0,Y=>Y
 |n+1,Y=>cloX md ops listed n (Y++(List.range ops.size).filter λL=> !Y.contains L && listed.getD L true==false && Y.any λL'=>yDy md ops L L')
def yO3 (md:Region.Mode) (ops:Array Oper) (X:List Nat) (listed:Array Bool) (i:Nat):Bool:=
 let Y:=(cloX md ops listed 6 [i]).erase i
 yO2 md ops Y listed i && X.all λL=>listed.getD L true || Y.contains L
theorem yGi {L:Nat} {o:Oper} (ho:ops[L]?=some o) (h:yDy md ops L i=true):∃e∈o.after,Region.binds md e=true/\e.on=i:=by unfold yDy at h;rw[ho]at h;simp only[Option.map_some,Option.getD_some,Array.any_eq_true]at h;obtain⟨k,hk,hb⟩:=h;rw[Bool.and_eq_true,beq_iff_eq]at hb;exact⟨_,Array.getElem_mem hk,hb.1,hb.2⟩
theorem yXg {oi:Oper} {v:Value} {Y:List Nat} (hi:ops[i]?=some oi) (hsel:∀(j:Nat) (o:Oper) cs b,ops[j]?=some o->o.op≠ .select cs b)
  (hQ:∀c a w,Q (.panic c) (a.put oi.dst v) w->Q (.panic c) a w):
  ∀(fuel:Nat) (listed:Array Bool) (a:Act) (w:World),yO2 md ops Y listed i=true->(∀L∈X,listed.getD L true=true∨L∈Y)->
   (∀j oj,ops[j]?=some oj->j≠i->listed.getD j true=false->(∀e∈oj.after,Region.binds md e=true->e.on≠i)->oi.apart ops oj=true)->
   i∈Region.ready md ops listed->YieldsIf P ops S oi v a->S w->
   AnyX P md ops Q S X fuel (listed.setIfInBounds i true) (a.put oi.dst v) w->AnyX P md ops Q S X (fuel+1) listed a w:=by
 intro fuel;induction fuel with
 |zero=>
  intro listed a w _ _ _ hr hy hS H;refine⟨λh=>(by rw[h]at hr;cases hr),λj hj=>?_⟩;by_cases hji:j=i
  .subst hji;exact hy.wpOp hi hS ⟨.inr hS,H⟩
  .have:=ready_mono hj hji;rw[H.1]at this;cases this
 |succ fuel ih=>
  intro listed a w hX a8 a7 hr hy hS H;refine⟨λh=>(by rw[h]at hr;cases hr),λj hj=>?_⟩;by_cases hji:j=i
  .subst hji;exact hy.wpOp hi hS ⟨.inr hS,H⟩
  .have h1:=H.2 j (ready_mono hj hji);obtain⟨a3,oj,a1,aa⟩:=mem_ready.1 hj;have a0:∀k,listed.getD k true=false->∀e∈oj.after,Region.binds md e=true->e.on≠k:=λk h0 e he hb heq=>by
    have h1:=aa e he hb;rw[heq]at h1;rcases Nat.lt_or_ge k listed.size with h'|h'
    .simp[h']at h0 h1;rw[h0]at h1;cases h1
    .simp[Array.getElem?_eq_none h']at h1
   have a4:=a0 i (mem_ready.1 hr).1;have a5:j∉Y:=λq=>by
    have h2:=all_eq_true.1 hX j q;rw[Bool.and_eq_true,Bool.or_eq_true]at h2;rcases h2.2 with h3|h3
    .obtain⟨e,he,hb,a2⟩:=yGi a1 h3;exact a4 e he hb a2
    .obtain⟨L',ad,h4⟩:=any_eq_true.1 h3;obtain⟨e,he,hb,a2⟩:=yGi a1 h4;have h5:=all_eq_true.1 hX L' ad;rw[Bool.and_eq_true]at h5;exact a0 L' (by simpa using h5.1) e he hb a2
   have a6:j∉X:=λq=>(a8 j q).elim (λz=>by rw[a3]at z;cases z) a5;have ab:∀L∈X,(listed.setIfInBounds j true).getD L true=true∨L∈Y:=λL hL=>(a8 L hL).imp (λz=>by rw[getD_set_ne true (λq:j=L=>a6 (by rw[q];exact hL))];exact z) (λz=>z)
   have h2:=wpOp_putIf a1 (a7 j oj a1 hji a3 a4) (λcs b=>hsel i oi cs b hi) (λcs b=>hsel j oj cs b a1) hQ hy h1
   have a9:∀k ok,ops[k]?=some ok->k≠i->(listed.setIfInBounds j true).getD k true=false->
     (∀e∈ok.after,Region.binds md e=true->e.on≠i)->oi.apart ops ok=true:=λk ok hk hki a0 hno=>by
    refine a7 k ok hk hki ?_ hno;by_cases hjk:j=k
    .subst hjk;exact a3
    .rw[getD_set_ne true hjk]at a0;exact a0
   have ac:yO2 md ops Y (listed.setIfInBounds j true) i=true:=by refine all_eq_true.2 λL hL=>?_;have h2:=all_eq_true.1 hX L hL;rw[getD_set_ne true (λq:j=L=>a5 (by rw[q];exact hL))];exact h2
   refine wpOp_mono (λa' w' h3=>⟨h3.2.1,ih (listed.setIfInBounds j true) a' w' ac ab a9 (ready_mono hr (Ne.symm hji)) h3.1 (h3.2.1.resolve_left a6) ?_⟩) h2;rw[Array.setIfInBounds_comm _ _ hji];exact h3.2.2
theorem xA {oi:Oper} {v:Value} (hi:ops[i]?=some oi) (hsel:∀(j:Nat) (o:Oper) cs b,ops[j]?=some o->o.op≠ .select cs b)
  (hQ:∀c a w,Q (.panic c) (a.put oi.dst v) w->Q (.panic c) a w):
  ∀(fuel:Nat) (listed:Array Bool) (a:Act) (w:World),(i∈X∨S w)->
   (∀j oj,ops[j]?=some oj->j≠i->listed.getD j true=false->(∀e∈oj.after,Region.binds md e=true->e.on≠i)->oi.apart ops oj=true)->
   i∈Region.ready md ops listed->YieldsIf P ops (λ_=>True) oi v a->(∀j,j∈X->j≠i->i∈X)->
   AnyX P md ops Q S X fuel (listed.setIfInBounds i true) (a.put oi.dst v) w->AnyX P md ops Q S X (fuel+1) listed a w:=by
 intro fuel;induction fuel with
 |zero=>
  intro listed a w hS _ hr hy _ H;refine⟨λh=>(by rw[h]at hr;cases hr),λj hj=>?_⟩;by_cases hji:j=i
  .subst hji;exact hy.wpOp hi trivial ⟨hS,H⟩
  .have:=ready_mono hj hji;rw[H.1]at this;cases this
 |succ fuel ih=>
  intro listed a w hS a2 hr hy a3 H;refine⟨λh=>(by rw[h]at hr;cases hr),λj hj=>?_⟩;by_cases hji:j=i
  .subst hji;exact hy.wpOp hi trivial ⟨hS,H⟩
  .have h1:=H.2 j (ready_mono hj hji);obtain⟨a1,oj,a0,a6⟩:=mem_ready.1 hj;have a4:∀e∈oj.after,Region.binds md e=true->e.on≠i:=λe he hb heq=>by
    have h1:=a6 e he hb;have h0:=(mem_ready.1 hr).1;rw[heq]at h1;rcases Nat.lt_or_ge i listed.size with h'|h'
    .simp[h']at h0 h1;rw[h0]at h1;cases h1
    .simp[Array.getElem?_eq_none h']at h1
   have h2:=wpOp_putIf a0 (a2 j oj a0 hji a1 a4) (λcs b=>hsel i oi cs b hi) (λcs b=>hsel j oj cs b a0) hQ hy h1
   have a5:∀k ok,ops[k]?=some ok->k≠i->(listed.setIfInBounds j true).getD k true=false->
     (∀e∈ok.after,Region.binds md e=true->e.on≠i)->oi.apart ops ok=true:=λk ok hk hki hun hno=>by
    refine a2 k ok hk hki ?_ hno;by_cases hjk:j=k
    .subst hjk;exact a1
    .rw[getD_set_ne true hjk]at hun;exact hun
   refine wpOp_mono (λa' w' h3=>⟨h3.2.1,ih (listed.setIfInBounds j true) a' w' (h3.2.1.imp (λq=>a3 j q hji) (λq=>q)) a5 (ready_mono hr (Ne.symm hji)) h3.1 a3 ?_⟩) h2;rw[Array.setIfInBounds_comm _ _ hji];exact h3.2.2
variable {a:Act}
theorem yA3 {o:Oper} {listed:Array Bool} (hr:Region.ready md ops listed= [i]) (ho:ops[i]?=some o)
  (h:∀K':Act->World->Prop,Shut (∀a w,(i∈X∨S w)->AnyX P md ops Q S X fuel (listed.setIfInBounds i true) a w->K' a w)->if Region.wanted o (yielded ops a.tmps)=true then Oper.wp P o a w K' Q else K' (a.put o.dst undef) w):
  AnyX P md ops Q S X (fuel+1) listed a w:=by
 exact xF6
theorem yD6 {listed:Array Bool} (hr:Region.ready md ops listed= []) (h:Q .normal a w):AnyX P md ops Q S X fuel listed a w:=by exact xDs
theorem yCq {id:Nat} (X:List Nat) (S:World->Prop) (hm:P.follows .mixedOrders=true)
  (h:AnyX P .any ops Q S X ops.size (Array.replicate ops.size false) a w.drew):(Code.region id ops true).wp P Q a w:=
 wp_region_any hm (yVg _ _ _ _ h)
end
variable {p:Prop}
theorem txx (h:p:=by exact⟨rfl,qk,qk,qk,qk,λ_ _ _ h=>h⟩):p:=h
section
variable {P:Program} {ops:Array Oper} {Q:Exit->Act->World->Prop} {md:Region.Mode} {S:World->Prop} {X:List Nat} {j:Nat} {v:Value} {oi:Oper} {fuel:Nat} {listed:Array Bool} {a:Act} {w:World} {q:Prop}
abbrev TxX (ops:Array Oper) (Q:Exit->Act->World->Prop) (md:Region.Mode) (X:List Nat) (i:Nat) (v:Value) (oi:Oper) (listed:Array Bool):Prop:=
 ops[i]?=some oi/\Region.noSelect ops=true/\Region.free md ops listed i=true/\(Region.ready md ops listed).contains i=true/\yO3 md ops X listed i=true/\∀c a w,Q (.panic c) (a.put oi.dst v) w->Q (.panic c) a w
theorem txT (hx:TxX ops Q md X i v oi listed) (hy:YieldsIf P ops S oi v a) (hS:S w) (h:AnyX P md ops Q S X fuel (listed.setIfInBounds i true) (a.put oi.dst v) w):AnyX P md ops Q S X (fuel+1) listed a w:=
 yXg (Y:=(cloX md ops listed 6 [i]).erase i) hx.1 (Region.noSelect_spec hx.2.1) hx.2.2.2.2.2 fuel listed a w (by
  have h2:=hx.2.2.2.2.1
  unfold yO3 at h2
  rw[Bool.and_eq_true]at h2
  exact h2.1) (λL hL=>by
  have h2:=hx.2.2.2.2.1
  unfold yO3 at h2
  rw[Bool.and_eq_true]at h2
  simpa using all_eq_true.1 h2.2 L hL) (Region.free_spec hx.1 hx.2.2.1) (by simpa using hx.2.2.2.1) hy hS h
theorem tyyN (h:p:=by first|exact Or.inr ⟨by rfl,rfl⟩|exact Or.inl ⟨by rfl,by(intro wz hSw;go_simp;(try with_reducible rfl))⟩):p:=h
abbrev TnX (ops:Array Oper) (Q:Exit->Act->World->Prop) (md:Region.Mode) (X:List Nat) (i:Nat) (v:Value) (oi:Oper) (listed:Array Bool):Prop:=
 ops[i]?=some oi/\Region.noSelect ops=true/\Region.free md ops listed i=true/\(Region.ready md ops listed).contains i=true/\∀c a w,Q (.panic c) (a.put oi.dst v) w->Q (.panic c) a w
theorem txnn (h:p:=by exact⟨rfl,qk,qk,qk,λ_ _ _ h=>h⟩):p:=h
theorem txna (i:Nat) (hS:i∈X∨S w) (hX:∀j,j∈X->j≠i->i∈X) (k:q) (hx:TnX ops Q md X i v oi listed:=by exact txnn) (hy:YieldsIf P ops (λ_=>True) oi v a:=by exact tyyN) (h:q->AnyX P md ops Q S X fuel (listed.setIfInBounds i true) (a.put oi.dst v) w:=by exact jz):AnyX P md ops Q S X (fuel+1) listed a w:=
 xA hx.1 (Region.noSelect_spec hx.2.1) hx.2.2.2.2 fuel listed a w hS (Region.free_spec hx.1 hx.2.2.1) (by simpa using hx.2.2.2.1) hy hX (h k)
theorem txa (i:Nat) (hS:S w) (k:q) (hx:TxX ops Q md X i v oi listed:=by exact txx) (hy:YieldsIf P ops S oi v a:=by exact jy) (h:q->AnyX P md ops Q S X fuel (listed.setIfInBounds i true) (a.put oi.dst v) w:=by exact jz):AnyX P md ops Q S X (fuel+1) listed a w:=txT hx hy hS (h k)
theorem txb (hS:S w) (k:q) (hx:TxX ops Q md X (j+1) v oi (listed.setIfInBounds j true):=by exact txx) (hy:YieldsIf P ops S oi v a:=by exact jy) (h:q->AnyX P md ops Q S X fuel ((listed.setIfInBounds j true).setIfInBounds (j+1) true) (a.put oi.dst v) w:=by exact jz):AnyX P md ops Q S X (fuel+1) (listed.setIfInBounds j true) a w:=txT hx hy hS (h k)
end
end
end Go.Proofs.YtnnagkfoiganfaaGreatDoor
