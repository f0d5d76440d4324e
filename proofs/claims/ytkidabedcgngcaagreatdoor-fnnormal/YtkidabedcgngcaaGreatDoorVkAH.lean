import Derived.Test.YtkidabedcgngcaaGreatDoorVkAE
import Derived.Test.YtkidabedcgngcaaGreatDoorVkAG
import Derived.Test.YtkidabedcgngcaaGreatDoorVkAA
import Derived.Test.YtkidabedcgngcaaGreatDoorVkAB
import Derived.Test.YtkidabedcgngcaaGreatDoorVkAD
import Derived.Maps.RangeWalk
import Derived.Maps.OwnSet
import Derived.Maps.OwnOps
import Derived.DeepKeys4
import Derived.Maps.AppendAt
import Derived.Laws.IdiomRangeMap
import Derived.Deep.RegionLaw
import Derived.Deep.AppendLies
namespace Go.Proofs.YtkidabedcgngcaaGreatDoor
open Go.RowKit Go.ChangeShapes Go.WideShapes Go.ChangeAt Go.Deep Go.Shelf Go.Maps
set_option linter.unusedVariables false
set_option linter.unusedSimpArgs false
set_option maxRecDepth 100000
set_option maxHeartbeats 40000000
inductive Ch (fa:Nat→Nat→Bool) (K:Nat):Nat→Nat→Prop
 |one {i j:Nat} (h:fa i j=true) (hij:i≤j):Ch fa K i j
 |more {i m j:Nat} (h:fa i m=true) (him:i≤m) (hm:m<K) (k:Ch fa K m j):Ch fa K i j
variable {fa:Nat→Nat→Bool} {K i j:Nat}
theorem Ch.le (h:Ch fa K i j):i≤j:=by
 induction h with
 |one _ h=>exact h
 |more _ h _ _ ih=>omega
theorem Ch.mono {K':Nat} (h:Ch fa K i j) (hK:K≤K'):Ch fa K' i j:=by
 induction h with
 |one h h'=>exact .one h h'
 |more h h1 h2 _ ih=>exact .more h h1 (by omega) ih
variable {m:Nat}
theorem Ch.cat (h:Ch fa K i m) (hm:m<K) (k:Ch fa K m j):Ch fa K i j:=by
 induction h with
 |one h h'=>exact .more h h' hm k
 |more h h1 h2 _ ih=>exact .more h h1 h2 (ih hm k)
theorem Ch.split (h:Ch fa (K+1) i j):Ch fa K i j∨(Ch fa K i K∧Ch fa K K j):=by
 induction h with
 |one h h'=>exact .inl (.one h h')
 | @more i m j h h1 h2 _ ih=>
   by_cases e:m=K
   ·subst e;rcases ih with k|⟨_,k⟩
    ·exact .inr ⟨.one h h1,k⟩
    ·exact .inr ⟨.one h h1,k⟩
   ·rcases ih with k|⟨k1,k2⟩
    ·exact .inl (.more h h1 (by omega) k)
    ·exact .inr ⟨.more h h1 (by omega) k1,k2⟩
theorem yGi (fa:Nat→Nat→Bool):∀(K i j:Nat),i≤j→(plK fa K i j=true↔Ch fa K i j)
 |0,i,j,hij=>by
  constructor
  ·exact fun h=>.one h hij
  ·intro h
   cases h with
   |one h _=>exact h
   |more _ _ h _=>omega
 |K+1,i,j,hij=>by
  simp only[plK,Bool.or_eq_true,Bool.and_eq_true,decide_eq_true_eq]
  constructor
  ·rintro(h|⟨⟨⟨h1,h2⟩,h3⟩,h4⟩)
   ·exact((yGi fa K i j hij).1 h).mono (by omega)
   ·exact(((yGi fa K i K h1).1 h3).mono (by omega)).cat (by omega) (((yGi fa K K j h2).1 h4).mono (by omega))
  ·intro h
   rcases h.split with k|⟨k1,k2⟩
   ·exact .inl ((yGi fa K i j hij).2 k)
   ·exact .inr ⟨⟨⟨k1.le,k2.le⟩,(yGi fa K i K k1.le).2 k1⟩,(yGi fa K K j k2.le).2 k2⟩
def RelW (s:List UInt8) (f:Nat→Nat→Bool) (P:List UInt8→Prop):Prop:=∀i j,i≤j→j≤s.length→(f i j=true↔P (cut s i j))
variable {s x:List UInt8}
theorem yO {y:List UInt8} (hij:i≤j) (hj:j≤s.length) (h:cut s i j=x++y):∃m,i≤m∧m≤j∧x=cut s i m∧y=cut s m j:=by obtain⟨h1,h2,h3⟩:=yRd h hj hij;exact⟨i+x.length,by omega,h3,h1.symm,h2.symm⟩
variable {P:List UInt8→Prop}
theorem RelW.plus (h:RelW s fa P):RelW s (plK fa (s.length+1)) (Pls P):=by
 intro i j hij hj;rw[yGi fa _ i j hij];constructor
 ·intro k;induction k with
  |one h' h1=>exact .one ((h _ _ h1 hj).1 h')
  | @more i m j h' h1 h2 k ih=>
    have hmj:=k.le;rw[yCh h1 hmj];exact .more ((h i m h1 (by omega)).1 h') (ih hmj hj)
 ·intro k;generalize hx:cut s i j=x at k;induction k generalizing i j with
  |one h'=>subst hx;exact .one ((h i j hij hj).2 h') hij
  |more h' k ih=>
   obtain⟨m,h1,h2,h3,h4⟩:=yO hij hj hx;exact .more ((h i m h1 (by omega)).2 (by rw[←h3];exact h')) h1 (by omega) (ih m j h2 hj h4.symm)
variable {fb:Nat→Nat→Bool} {Q:List UInt8→Prop}
theorem RelW.or (h:RelW s fa P) (k:RelW s fb Q):RelW s (fun i j=>fa i j || fb i j) (fun x=>P x∨Q x):=by intro i j hij hj;rw[Bool.or_eq_true,h i j hij hj,k i j hij hj]
theorem yR5 (s:List UInt8):RelW s (fun i j=>i==j) (fun x=>x= []):=by
 intro i j hij hj;rw[beq_iff_eq];constructor
 ·intro e;rw[e];exact yGl s j
 ·intro e;have:=yBk (p:=s) (i:=i) hj;rw[e]at this;simp at this;omega
theorem RelW.then (h:RelW s fa P) (k:RelW s fb Q):RelW s (fun i j=>thF fa fb i j (s.length+1)) (fun x=>∃y z,x=y++z∧P y∧Q z):=by
 intro i j hij hj;rw[yYy];constructor
 ·rintro⟨m,h0,h1,h2,h3,h4⟩;exact⟨cut s i m,cut s m j,yCh h1 h2,(h i m h1 (by omega)).1 h3,(k m j h2 hj).1 h4⟩
 ·rintro⟨y,z,hx,hy,hz⟩;obtain⟨m,h1,h2,h3,h4⟩:=yO hij hj hx;exact⟨m,by omega,h1,h2,(h i m h1 (by omega)).2 (by rw[←h3];exact hy),(k m j h2 hj).2 (by rw[←h4];exact hz)⟩
theorem RelW.iff {f g:Nat→Nat→Bool} (h:RelW s f P) (hf:∀i j,i≤j→j<s.length+1→g i j=f i j) (hp:∀x,Q x↔P x):RelW s g Q:=by intro i j hij hj;rw[hf i j hij (by omega),h i j hij hj,hp]
theorem Pls.mono (h:∀x,P x→Q x) (k:Pls P x):Pls Q x:=by
 induction k with
 |one k=>exact .one (h _ k)
 |more k _ ih=>exact .more (h _ k) ih
theorem Pls.cat {y:List UInt8} (h:Pls P x) (k:Pls P y):Pls P (x++y):=by
 induction h with
 |one h=>exact .more h k
 |more h _ ih=>rw[List.append_assoc];exact .more h ih
theorem yM9 (P:List UInt8→Prop) (o r:Bool) (x:List UInt8):Pls (RepL P o r) x↔RepL P o true x:=by
 have hsub:∀y,RepL P o r y→RepL P o true y:=by
  intro y h;rcases h with h|h
  ·exact .inl h
  ·refine .inr ?_;rw[if_pos rfl];cases r with
   |true=>rw[if_pos rfl]at h;exact h
   |false=>rw[if_neg (by decide)]at h;exact .one h
 constructor
 ·intro k;induction k with
  |one h=>exact hsub _ h
  | @more y z h k ih=>
    rcases hsub y h with⟨ho,hy⟩|hy
    ·rw[hy];exact ih
    ·rcases ih with⟨ho,hz⟩|hz
     ·rw[hz,List.append_nil];exact .inr hy
     ·rw[if_pos rfl]at hy hz;exact .inr (by rw[if_pos rfl];exact hy.cat hz)
 ·rintro(h|h)
  ·exact .one (.inl h)
  ·rw[if_pos rfl]at h;exact h.mono (fun y hy=>.inr (by
    cases r with
    |true=>rw[if_pos rfl];exact .one hy
    |false=>rw[if_neg (by decide)];exact hy))
theorem yQh (P:List UInt8→Prop) (o r:Bool) (x:List UInt8):(RepL P o r x∨x= [])↔RepL P true r x:=by
 constructor
 ·rintro((⟨_,h⟩|h)|h)
  ·exact .inl ⟨rfl,h⟩
  ·exact .inr h
  ·exact .inl ⟨rfl,h⟩
 ·rintro(⟨_,h⟩|h)
  ·exact .inr h
  ·exact .inl (.inr h)
variable {b:Bool} {k:Nat}
theorem yP0 {p:List UInt8} {f g:UInt8→Bool} (h:clsM p j b f=.inl (g,k)):j<p.length:=by
 unfold clsM at h;split at h
 ·assumption
 ·cases h
variable {n:Nat}
theorem yU4 {p:List UInt8} {it:Bool} {g f:UInt8→Bool} (h:clsM p j it g=.inl (f,n)):
  (p[j]?=some 93∧it=true∧g=f∧j+1=n)∨
  ∃x lo k1,p[j]?=some x∧¬x=93∧chM p j=(lo,k1,true)∧k1<p.length∧∃y,p[k1]?=some y∧
   ((y=45∧∃hi m,chM p (k1+1)=(hi,m,true)∧clsM p m true (fun c=>g c || (decide (lo≤c) && decide (c≤hi)))=.inl (f,n))∨
    (¬y=45∧clsM p k1 true (fun c=>g c || (decide (lo≤c) && decide (c≤lo)))=.inl (f,n))):=by
 have hj:=yP0 h;unfold clsM at h;rw[dif_pos hj]at h;split at h
 ·next hc=>
  simp only[Sum.inl.injEq,Prod.mk.injEq]at h;exact .inl ⟨hc.1,hc.2,h.1,h.2⟩
 ·split at h
  ·cases h
  ·next a b k hk=>
   refine .inr ?_;obtain⟨x,hx⟩:∃x,p[j]?=some x:=⟨_,List.getElem?_eq_getElem hj⟩;unfold yB2 at hk;split at hk
   ·cases hk
   ·next lo k1 hch=>
    have hx93:¬x=93:=fun q=>by unfold chM at hch;rw[hx]at hch;simp[q]at hch
    split at hk
    ·next h45=>
     split at hk
     ·cases hk
     ·next hi m hch2=>
      split at hk
      ·cases hk
      ·simp only[Sum.inl.injEq,Prod.mk.injEq]at hk;obtain⟨rfl,rfl,rfl⟩:=hk;exact⟨x,lo,k1,hx,hx93,hch,yAs h45,45,h45,.inl ⟨rfl,hi,m,hch2,h⟩⟩
    ·next h45=>
     simp only[Sum.inl.injEq,Prod.mk.injEq]at hk;obtain⟨rfl,rfl,rfl⟩:=hk;have hk1:=yP0 h;obtain⟨y,hy⟩:∃y,p[k1]?=some y:=⟨_,List.getElem?_eq_getElem hk1⟩;exact⟨x,lo,k1,hx,hx93,hch,hk1,y,hy,.inr ⟨fun q=>h45 (by rw[hy,q]),h⟩⟩
theorem yNv (q:ByteArray) (hq:q.size≤200) (b:UInt8) (f:UInt8→Bool) (h:yAt (sb q) 1=.inl (f,q.size)) (w:World):Calls Tryz.prog 185 #[.string q,.int .u8 (b.toNat:Int)] w fun e w'=>e=.returned (.bool (f b))∧w'=w:=by
 obtain⟨ng,f0,j0,hj0,hc0,hf,hng⟩:∃(ng:Bool) (f0:UInt8→Bool) (j0:Nat),j0=(if ng=true then 2 else 1)∧clsM (sb q) j0 false (fun _=>false)=.inl (f0,q.size)∧(∀c,f c=(f0 c != ng))∧(ng=true↔(sb q)[1]?=some 94):=by
  unfold yAt at h;split at h
  ·next h94=>
   split at h
   ·next g k hk=>
    simp only[Sum.inl.injEq,Prod.mk.injEq]at h;obtain⟨rfl,rfl⟩:=h;exact⟨true,g,2,rfl,hk,fun c=>by show(!g c)=(g c != true);cases g c<;>rfl,⟨fun _=>h94,fun _=>rfl⟩⟩
   ·cases h
  ·next h94=>exact⟨false,f,1,rfl,h,fun c=>by cases f c<;>rfl,⟨fun q=>(by cases q),fun q=>absurd q h94⟩⟩
 have hjl:=yP0 hc0;rw[yAd]at hjl;have h1l:1<q.size:=by
  cases ng
  ·simp at hj0;omega
  ·have:=yAs (hng.1 rfl);rw[yAd]at this;exact this
 obtain⟨x1,hx1⟩:∃x,(sb q)[1]?=some x:=⟨_,List.getElem?_eq_getElem (by rw[yAd];exact h1l)⟩;obtain⟨_,gx1⟩:=yA4 hx1;have HC0:Hid (clsM (sb q) j0 false (fun _=>false)=.inl (f0,q.size)):=hc0;have HFn:Hid (∀c,f c=(f0 c != ng)):=hf;have z1:(1:Int)<(q.size:Int):=by omega
 clear h hc0 hf;cases ng
 case false=>
  have z94:((x1.toNat:Int)==94)=false:=beq_eq_false_iff_ne.2 (yCa (c:=94) (fun q=>by have h1:=hng.2 (by rw[hx1,q]);cases h1));obtain rfl:j0=1:=by simpa using hj0
  exact zzQ4
 case true=>
  have z94:((x1.toNat:Int)==94)=true:=by
   have h1:=hng.1 rfl;rw[hx1]at h1;cases h1
   rfl
  obtain rfl:j0=2:=by simpa using hj0
  exact zzQ4
def MxG (s:ByteArray) (P:List UInt8→Prop) (w:World) (r:Ending) (w':World):Prop:=∃g cp ρ γ f,r=.returned (slV g (s.size+1) cp)∧s.size+1≤cp∧Hid (MatR w' g (s.size+1) ρ γ f∧RelW (sb s) f P)∧Below w.heap.size w w'
variable {s:ByteArray} {w w':World}
theorem MaG.says {F:Nat→Nat→Bool} {r:Ending} (h:MaG (s.size+1) F w r w') (hF:RelW (sb s) F P):MxG s P w r w':=by obtain⟨g,cp,ρ,γ,f,h1,h2,h3,h4⟩:=h;exact⟨g,cp,ρ,γ,f,h1,h2,⟨h3.out.1,hF.iff (fun i j hij hj=>h3.out.2 i j hij (by rw[yAd]at hj;exact hj)) (fun _=>Iff.rfl)⟩,h4⟩
def AltW (s:ByteArray) (m:Nat):Prop:=∀(n:Nat) (os:List (List Pat)) (p:ByteArray) (w:World),p.size≤m→p.size≤200→AltG (yAz n) os (sb p)→Calls Tryz.prog 163 #[.string p,.string s] w (MxG s (LgA os) w)
def SeqW (s:ByteArray) (m:Nat):Prop:=∀(n:Nat) (ts:List Pat) (p:ByteArray) (w:World),p.size≤m→p.size≤200→SeqG (yAz n) ts (sb p)→Calls Tryz.prog 171 #[.string p,.string s] w (MxG s (LgS ts) w)
def AtmW (s:ByteArray) (m:Nat):Prop:=∀(n:Nat) (t:Pat) (p:ByteArray) (w:World),p.size≤m→p.size≤200→yAz n (sb p) t→Calls Tryz.prog 178 #[.string p,.string s] w (MxG s (Lg t) w)
theorem yXm (os:List (List Pat)) (ts:List Pat) (x:List UInt8):LgA (os++ [ts]) x↔LgA os x∨LgS ts x:=by
 rw[yQa,yQa];constructor
 ·rintro⟨t,ht,h⟩;rcases List.mem_append.1 ht with q|q
  ·exact .inl ⟨t,q,h⟩
  ·simp at q;subst q;exact .inr h
 ·rintro(⟨t,ht,h⟩|h)
  ·exact⟨t,List.mem_append_left _ ht,h⟩
  ·exact⟨ts,by simp,h⟩
theorem yRj (hs:s.size≤200) (H:SeqW s m):AltW s m:=by
 intro n os p w hpm hp hG;have HH:Hid (SeqW s m∧p.size≤m∧p.size≤200):=⟨H,hpm,hp⟩;have HPt:Hid (∀wx,Calls Tryz.prog 169 #[.string p] wx (PrtP n os p.size wx)):=fun wx=>yNt hp hG wx;have hol:os.length≤201:=by obtain⟨k,h1,h2⟩:=hG.tokn;have:=yTi h2;rw[yAd]at this;omega
 have HNo:Hid (Calls Tryz.prog 168 #[.int .i64 (s.size:Int)] w (MaP (s.size+1) (fun _ _=>false) w)):=yBt s.size (by omega) w;clear H hpm hp hG;go_enter Tryz.func163,Tryz.ntmps163;go_wp2_with fail;refine HNo.mono ?_;rintro r w1 ⟨g,cp,ρ,γ,rfl,HM,hb1⟩;have hcp:=HM.out.out.caps.1;go_wp2_with fail;refine(HPt.out w1).mono ?_;rintro r w2 ⟨gq,cq,us,rfl,hul,HU,hb2⟩;have hgq:=HU.1.lt;have k2:Below w.heap.size w w2:=hb1.trans (hb2.mono hb1.size);obtain⟨N,hN⟩:=qE os.length;rw[←hN]at hol⊢;have HN:Hid (N=os.length∧us.length=N):=⟨hN,by rw[hul,hN]⟩;have HM2:Hid (MatR w2 g (s.size+1) ρ γ (fun _ _=>false)):=HM.read.below hb2 (Nat.le_refl _);clear hN hul;go_wp2_with fail;go_loopw[5,7] (fun ov kv wr=>∃(k go co:Nat) (ρo γo:Nat→Nat) (f:Nat→Nat→Bool),k≤N∧kv=.int .i64 k∧ov=slV go (s.size+1) co∧s.size+1≤co∧Hid (MatR wr go (s.size+1) ρo γo f∧RelW (sb s) f (LgA (os.take k))∧Below w2.heap.size w2 wr)) (fun _ kv _=>N-(intOf kv).toNat);case atStart=>exact⟨0,g,cp,ρ,γ,_,Nat.zero_le _,rfl,rfl,hcp,HM2.out,fun i j _ _=>by simp[LgA],Below.refl _ _⟩
 case round=>
  obtain⟨k,go,co,ρo,γo,f,hk,rfl,rfl,hco,HO⟩:=hrel;by_cases hlt:k<N
  ·have zk:(k:Int)<(N:Int):=by omega
   obtain⟨u,hu⟩:∃u,us[k]?=some u:=⟨_,List.getElem?_eq_getElem (by rw[HN.2];exact hlt)⟩;obtain⟨x,ts,rfl,hts,hsq,hxs⟩:=HU.2 k u hu;have c0:wr.cell? ⟨gq,k,none⟩=some (.string x):=by rw[HO.2.2.cell (p:=⟨gq,k,none⟩) hgq.2,World.ownsRow.cellAt HU.1 k (by rw[HN.2];omega),hu]
   have HC:Hid (Calls Tryz.prog 171 #[.string x,.string s] wr (MxG s (LgS ts) wr)):=HH.1 n ts x wr (by have:=HH.2.1;omega) (by have:=HH.2.2;omega) hsq;have HT:Hid (os[k]?=some ts):=hts;clear hu hts hsq hxs;go_wp2_with fail;refine HC.mono ?_;rintro e w3 ⟨g3,p3,ρ3,γ3,f3,rfl,hp3,HM3,hb3⟩;have HC2:Hid (Calls Tryz.prog 170 #[slV go (s.size+1) co,slV g3 (s.size+1) p3] w3 (MaF (s.size+1) (fun i j=>f i j || f3 i j) w3)):=yNu s.size go co g3 p3 ρo γo ρ3 γ3 f f3 w3 (by omega) (HO.1.below hb3 (Nat.le_refl _)) HM3.1 hco hp3;clear c0;go_wp2_with fail;refine HC2.mono ?_;rintro e w4 ⟨g4,p4,ρ4,γ4,f4,rfl,HM4,hb4⟩;have hp4:=HM4.1.out.caps.1;have HO2:Hid (MatR w4 g4 (s.size+1) ρ4 γ4 f4∧RelW (sb s) f4 (LgA (os.take (k+1)))∧Below w2.heap.size w2 w4):=by refine⟨HM4.1.read,?_,(HO.2.2.trans (hb3.mono HO.2.2.size)).trans (hb4.mono (Nat.le_trans HO.2.2.size hb3.size))⟩;refine(HO.2.1.or HM3.2).iff (fun i j hij hj=>HM4.2 i j hij (by rw[yAd]at hj;exact hj)) (fun y=>?_);rw[List.take_add_one,HT.out];exact yXm _ _ _
   clear HM4 HM3 hb3 hb4;go_wp2_with fail;go_roundw;case rel=>first|exact⟨k+1,g4,p4,ρ4,γ4,f4,by omega,by go_num,rfl,hp4,HO2⟩|exact⟨k+1,g4,p4,by omega,by go_num,rfl,hp4,ρ4,γ4,f4,HO2⟩|exact⟨k+1,by omega,by go_num,g4,p4,rfl,hp4,ρ4,γ4,f4,HO2⟩
   case measure=>simp[intOf];omega
  ·obtain rfl:k=N:=by omega
   have zk:¬(k:Int)<(k:Int):=by omega
   have HO2:Hid (MatR wr go (s.size+1) ρo γo f∧RelW (sb s) f (LgA os)):=by have h9:=HO.2.1;rw[List.take_of_length_le (by rw[HN.1];exact Nat.le_refl _)]at h9;exact⟨HO.1,h9⟩
   have hb9:Below w.heap.size w wr:=k2.trans (HO.2.2.mono k2.size);go_wp2_with fail;go_ret;exact⟨go,co,ρo,γo,f,rfl,hco,HO2,hb9⟩
theorem RelW.plus_sb (h:RelW (sb s) fa P):RelW (sb s) (plK fa (s.size+1)) (Pls P):=by have:=h.plus;rw[yAd]at this;exact this
theorem RelW.then_sb (h:RelW (sb s) fa P) (k:RelW (sb s) fb Q):RelW (sb s) (fun i j=>thF fa fb i j (s.size+1)) (fun x=>∃y z,x=y++z∧P y∧Q z):=by have:=h.then k;rw[yAd]at this;exact this
theorem MxG.iff {r:Ending} (h:MxG s P w r w') (hq:∀x,Q x↔P x):MxG s Q w r w':=by obtain⟨g,cp,ρ,γ,f,h1,h2,h3,h4⟩:=h;exact⟨g,cp,ρ,γ,f,h1,h2,⟨h3.out.1,h3.out.2.iff (fun _ _ _ _=>rfl) hq⟩,h4⟩
variable {cp:Nat} {ρ γ:Nat→Nat} {f:Nat→Nat→Bool}
theorem yNf (hs:s.size≤200) {g:Nat} (hM:MatR w g (s.size+1) ρ γ f) (hR:RelW (sb s) f P) (hc:s.size+1≤cp):Calls Tryz.prog 179 #[slV g (s.size+1) cp] w (MxG s (Pls P) w):=
 (yPo s.size g cp ρ γ f w (by omega) hM hc).mono (fun r w' h=>MaG.says h hR.plus_sb)
variable {g' cp':Nat}
theorem yUa (hs:s.size≤200) {g:Nat} {ρ' γ':Nat→Nat} {f':Nat→Nat→Bool} (hM:MatR w g (s.size+1) ρ γ f) (hR:RelW (sb s) f P) (hc:s.size+1≤cp) (hM':MatR w g' (s.size+1) ρ' γ' f') (hR':RelW (sb s) f' Q) (hc':s.size+1≤cp'):Calls Tryz.prog 170 #[slV g (s.size+1) cp,slV g' (s.size+1) cp'] w (MxG s (fun x=>P x∨Q x) w):=
 (yNu s.size g cp g' cp' ρ γ ρ' γ' f f' w (by omega) hM hM' hc hc').mono (fun r w' h=>MaG.says h.g (hR.or hR'))
theorem yM6 (hs:s.size≤200) {g:Nat} {ρ' γ':Nat→Nat} {f':Nat→Nat→Bool} (hM:MatR w g (s.size+1) ρ γ f) (hR:RelW (sb s) f P) (hc:s.size+1≤cp) (hM':MatR w g' (s.size+1) ρ' γ' f') (hR':RelW (sb s) f' Q) (hc':s.size+1≤cp'):Calls Tryz.prog 180 #[slV g (s.size+1) cp,slV g' (s.size+1) cp'] w (MxG s (fun x=>∃y z,x=y++z∧P y∧Q z) w):=
 (yPn s.size g cp g' cp' ρ γ ρ' γ' f f' w (by omega) hM hM' hc hc').mono (fun r w' h=>MaG.says h.g (hR.then_sb hR'))
theorem yFz (hs:s.size≤200) (w:World):Calls Tryz.prog 177 #[.int .i64 (s.size:Int)] w (MxG s (fun x=>x= []) w):=
 (yNw s.size (by omega) w).mono (fun r w' h=>MaG.says h.g (yR5 (sb s)))
def opL (P:List UInt8→Prop) (l:List UInt8):List UInt8→Prop:=RepL P (l.any (· != 43)) (l.any (· != 63))
theorem yUc (P:List UInt8→Prop) (x:List UInt8):opL P [] x↔P x:=by simp[opL,RepL]
theorem yMe (P:List UInt8→Prop) (l:List UInt8) (c:UInt8):opL P (l++ [c])=RepL P (l.any (· != 43) || c != 43) (l.any (· != 63) || c != 63):=by simp[opL,List.any_append]
theorem lg_rep (a:Pat) (ops:List UInt8) (x:List UInt8):Lg (if ops= []then a else .rep a (ops.any (· != 43)) (ops.any (· != 63))) x↔opL (Lg a) ops x:=by
 by_cases h:ops= []
 ·rw[if_pos h,h,yUc]
 ·rw[if_neg h];rfl
theorem sgn42 (P:List UInt8→Prop) (l:List UInt8) (x:List UInt8):opL P (l++ [42]) x↔(Pls (opL P l) x∨x= []):=by rw[yMe];have h1:=yM9 P (l.any (· != 43)) (l.any (· != 63)) x;have h2:=yQh P (l.any (· != 43)) true x;rw[show(l.any (· != 43) || (42:UInt8) != 43)=true by simp,show(l.any (· != 63) || (42:UInt8) != 63)=true by simp];unfold opL;rw[h1,h2]
theorem sgn43 (P:List UInt8→Prop) (l:List UInt8) (x:List UInt8):opL P (l++ [43]) x↔Pls (opL P l) x:=by rw[yMe];have h1:=yM9 P (l.any (· != 43)) (l.any (· != 63)) x;rw[show(l.any (· != 43) || (43:UInt8) != 43)=l.any (· != 43)by simp,show(l.any (· != 63) || (43:UInt8) != 63)=true by simp];unfold opL;rw[h1]
theorem sgn63 (P:List UInt8→Prop) (l:List UInt8) (x:List UInt8):opL P (l++ [63]) x↔(opL P l x∨x= []):=by rw[yMe];have h2:=yQh P (l.any (· != 43)) (l.any (· != 63)) x;rw[show(l.any (· != 43) || (63:UInt8) != 43)=true by simp,show(l.any (· != 63) || (63:UInt8) != 63)=l.any (· != 63)by simp];unfold opL;rw[h2]
structure SeqX (n m:Nat) (p:ByteArray) (a:Pat) (as_ ops:List UInt8) (ts:List Pat):Prop where
 len:0<as_.length
 le:as_.length+ops.length≤p.size
 atom:yAz n (cut (sb p) 0 as_.length) a
 sg:∀c∈ops,isOp c
 at_:∀k c,ops[k]?=some c→(sb p)[as_.length+k]?=some c
 rest:SeqG (yAz n) ts (cut (sb p) (as_.length+ops.length) p.size)
 stop:∀c,(sb p)[as_.length+ops.length]?=some c→¬isOp c
variable {p:ByteArray}
theorem yTv {t:Pat} {ts:List Pat} (h:SeqG (yAz n) (t::ts) (sb p)):∃a as_ ops,SeqX n 0 p a as_ ops ts∧∀x,Lg t x↔opL (Lg a) ops x:=by
 obtain⟨ys,zs,hx,⟨as_,ops,a,hys,hA,hops,ht⟩,hG⟩:=h;have hx2:sb p=as_++(ops++zs):=by rw[hx,hys,List.append_assoc]
 have hl:p.size=as_.length+(ops.length+zs.length):=by rw[←yAd,hx2];simp
 obtain⟨c,yt,hyc,_,_,nop⟩:=hA.first;have h1:cut (sb p) 0 as_.length=as_:=by unfold cut;rw[hx2];simp
 have h2:cut (sb p) (as_.length+ops.length) p.size=zs:=by
  unfold cut;have e:as_.length+ops.length=(as_++ops).length:=by simp
  rw[hx2,←List.append_assoc,e,List.drop_left];exact List.take_of_length_le (by rw[←e];omega)
 refine⟨a,as_,ops,⟨by rw[hyc];simp,by omega,by rw[h1];exact hA,hops,fun k c hk=>?_,by rw[h2];exact hG,fun c hc=>?_⟩,fun x=>by rw[ht];exact lg_rep a ops x⟩
 ·have hkl:=(List.getElem?_eq_some_iff.1 hk).1;rw[hx2,List.getElem?_append_right (by omega),Nat.add_sub_cancel_left,List.getElem?_append_left hkl];exact hk
 ·rw[hx2,List.getElem?_append_right (by omega),show as_.length+ops.length-as_.length=ops.length by omega,List.getElem?_append_right (Nat.le_refl _),Nat.sub_self]at hc;cases ts with
  |nil=>rw[show zs= []from hG]at hc;simp at hc
  |cons t' ts'=>
   obtain⟨y2,z2,hz,⟨a2,o2,b2,hy2,hA2,_,_⟩,_⟩:=hG;obtain⟨c2,yt2,hyc2,_,_,nop2⟩:=hA2.first;rw[hz,hy2,hyc2]at hc;simp at hc;rw[←hc];exact nop2
theorem yWi (hs:s.size≤200) (HA:AtmW s (m+1)) (HS:SeqW s m):SeqW s (m+1):=by
 intro n ts p w hpm hp hG;cases ts with
 |nil=>
  have h0:sb p= []:=hG;have hz:p.toList= []:=by rw[ByteArray.toList_eq];exact h0
  have q1:(p.toList== [])=true:=by rw[hz];rfl
  have HE:Hid (Calls Tryz.prog 177 #[.int .i64 (s.size:Int)] w (MxG s (fun x=>x= []) w)):=yFz hs w;clear hz h0 hG;go_enter Tryz.func171,Tryz.ntmps171;go_wp2_with fail;refine HE.mono ?_;rintro e w1 ⟨g1,p1,ρ1,γ1,f1,rfl,hp1,HM1,hb1⟩;have HR:Hid (MxG s (LgS []) w (.returned (slV g1 (s.size+1) p1)) w1):=⟨g1,p1,ρ1,γ1,f1,rfl,hp1,⟨HM1.1,HM1.2.iff (fun _ _ _ _=>rfl) (fun x=>by simp[LgS])⟩,hb1⟩;go_wp2_with fail;go_ret;exact HR.out
 |cons t ts=>
  obtain⟨a,as_,ops,hX,hLt⟩:=yTv hG;have HX:Hid (SeqX n 0 p a as_ ops ts∧∀x,Lg t x↔opL (Lg a) ops x):=⟨hX,hLt⟩;have q1:(p.toList== [])=false:=by
   have h1:=hX.len;have h2:=hX.le;have hz:p.toList≠ []:=fun q=>by rw[ByteArray.toList_eq]at q;have:=yAd p;rw[show sb p= []from q]at this;simp at this;omega
   cases hq:p.toList with
   |nil=>exact absurd hq hz
   |cons _ _=>rfl
  obtain⟨j1,hj1⟩:=qE as_.length;obtain⟨no,hno⟩:=qE ops.length;have hle:j1+no≤p.size:=by rw[hj1,hno];exact hX.le
  have hj0:0<j1:=by rw[hj1];exact hX.len
  have HEnd:Hid (Calls Tryz.prog 176 #[.string p,.int .i64 0] w fun e w'=>e=.returned (.int .i64 (j1:Int))∧Below w.heap.size w w'):=by have h9:=yPw hp n 0 j1 a w (by rw[hj1];exact hX.atom) (by omega);exact h9
  have HAt:Hid (∀wx,Calls Tryz.prog 178 #[.string (p.extract 0 j1),.string s] wx (MxG s (Lg a) wx)):=fun wx=>by
   have hsz:(p.extract 0 j1).size=j1:=by rw[←yAd,yB7 p (by omega),yBk (by rw[yAd];omega)];omega
   exact HA n a _ wx (by omega) (by omega) (by rw[yB7 p (by omega),hj1];exact hX.atom)
  have HSq:Hid (∀wx,Calls Tryz.prog 171 #[.string (p.extract (j1+no) p.size),.string s] wx (MxG s (LgS ts) wx)):=fun wx=>by
   have hsz:(p.extract (j1+no) p.size).size=p.size-(j1+no):=by rw[←yAd,yB7 p (Nat.le_refl _),yBk (by rw[yAd];exact Nat.le_refl _)]
   exact HS n ts _ wx (by omega) (by omega) (by rw[yB7 p (Nat.le_refl _),hj1,hno];exact hX.rest)
  have HL:Hid (j1=as_.length∧no=ops.length):=⟨hj1,hno⟩;have z1:(j1:Int)≤(p.size:Int):=by omega
  clear HA HS hG hX hLt hj1 hno;go_enter Tryz.func171,Tryz.ntmps171;go_wp2_with fail;refine HEnd.mono ?_;rintro e w1 ⟨rfl,hb1⟩;go_wp2_with fail;refine(HAt.out w1).mono ?_;rintro e w2 ⟨g2,p2,ρ2,γ2,f2,rfl,hp2,HM2,hb2⟩;have hb02:Below w.heap.size w w2:=hb1.trans (hb2.mono hb1.size);go_wp2_with fail;go_loopw[5,6] (fun jv rv wr=>∃(J k go co:Nat) (ρo γo:Nat→Nat) (f:Nat→Nat→Bool),J≤p.size∧k≤no∧jv=.int .i64 (J:Int)∧rv=slV go (s.size+1) co∧s.size+1≤co∧Hid (MatR wr go (s.size+1) ρo γo f∧RelW (sb s) f (opL (Lg a) (ops.take k))∧Below w.heap.size w wr)∧Hid (J=j1+k)) (fun jv _ _=>p.size-(intOf jv).toNat);case atStart=>exact⟨j1,0,g2,p2,ρ2,γ2,f2,by omega,Nat.zero_le _,rfl,rfl,hp2,⟨HM2.1,HM2.2.iff (fun _ _ _ _=>rfl) (fun x=>by rw[List.take_zero];exact yUc _ _),hb02⟩,rfl⟩
  case round=>
   obtain⟨J,k,go,co,ρo,γo,f,hJ,hk,rfl,rfl,hco,HO,HJ⟩:=hrel;by_cases hlt:k<no
   ·obtain⟨c,hc⟩:∃c,ops[k]?=some c:=⟨_,List.getElem?_eq_getElem (by rw[←HL.2];exact hlt)⟩;have HK:Hid (ops.take (k+1)=ops.take k++ [c]∧(sb p)[J]?=some c):=⟨by rw[List.take_add_one,hc];rfl,by rw[HJ.out,HL.1];exact HX.1.at_ k c hc⟩;have hop:=HX.1.sg c (List.mem_of_getElem? hc);have HJ2:Hid (J+1=j1+(k+1)):=by show _=_;rw[HJ.out];omega
    clear hc;rcases hop with rfl|rfl|rfl
    ·obtain⟨_,gj⟩:=yA4 HK.2;have zj:(J:Int)<(p.size:Int):=by have:=yAs HK.2;rw[yAd]at this;omega
     have HOp:Hid (Calls Tryz.prog 119 #[.int .u8 ((42:UInt8).toNat:Int)] wr fun e w'=>e=.returned (.bool true)∧w'=wr):=by have:=yCq 42 wr;rw[decide_eq_true (by decide)]at this;exact this
     have hJl:J<p.size:=by omega
     go_wp2_with fail;refine HOp.mono ?_;rintro e' w9 ⟨rfl,hw9⟩;rw[hw9];clear hw9;go_wp2_with fail;refine(yNf hs HO.1 HO.2.1 hco).mono ?_;rintro e w3 ⟨g3,p3,ρ3,γ3,f3,rfl,hp3,HM3,hb3⟩;have HB3:Hid (Below w.heap.size w w3):=HO.2.2.trans (hb3.mono HO.2.2.size);clear hb3;go_wp2_with fail;refine(yFz hs w3).mono ?_;rintro e w5 ⟨g5,p5,ρ5,γ5,f5,rfl,hp5,HM5,hb5⟩;have HOr:Hid (Calls Tryz.prog 170 #[slV g3 (s.size+1) p3,slV g5 (s.size+1) p5] w5 (MxG s _ w5)):=yUa hs (HM3.1.below hb5 (Nat.le_refl _)) HM3.2 hp3 HM5.1 HM5.2 hp5;have HB5:Hid (Below w.heap.size w w5):=HB3.trans (hb5.mono HB3.size);clear hb5;go_wp2_with fail;refine HOr.mono ?_;rintro e w6 ⟨g6,p6,ρ6,γ6,f6,rfl,hp6,HM6,hb6⟩;have HB6:Hid (Below w.heap.size w w6):=HB5.trans (hb6.mono HB5.size);clear hb6;have HO2:Hid (MatR w6 g6 (s.size+1) ρ6 γ6 f6∧RelW (sb s) f6 (opL (Lg a) (ops.take (k+1)))∧Below w.heap.size w w6):=⟨HM6.1,HM6.2.iff (fun _ _ _ _=>rfl) (fun x=>by rw[HK.1];exact(sgn42 _ _ x)),HB6.out⟩;go_wp2_with fail;go_roundw;case rel=>first|exact⟨J+1,k+1,g6,p6,ρ6,γ6,f6,by omega,by omega,by go_num,rfl,hp6,HO2,HJ2⟩|exact⟨J+1,by omega,by go_num,g6,p6,rfl,hp6,k+1,ρ6,γ6,f6,by omega,HO2,HJ2⟩|trace_state
     case measure=>simp[intOf];omega
    ·obtain⟨_,gj⟩:=yA4 HK.2;have zj:(J:Int)<(p.size:Int):=by have:=yAs HK.2;rw[yAd]at this;omega
     have HOp:Hid (Calls Tryz.prog 119 #[.int .u8 ((43:UInt8).toNat:Int)] wr fun e w'=>e=.returned (.bool true)∧w'=wr):=by have:=yCq 43 wr;rw[decide_eq_true (by decide)]at this;exact this
     have hJl:J<p.size:=by omega
     go_wp2_with fail;refine HOp.mono ?_;rintro e' w9 ⟨rfl,hw9⟩;rw[hw9];clear hw9;go_wp2_with fail;refine(yNf hs HO.1 HO.2.1 hco).mono ?_;rintro e w3 ⟨g3,p3,ρ3,γ3,f3,rfl,hp3,HM3,hb3⟩;have HB3:Hid (Below w.heap.size w w3):=HO.2.2.trans (hb3.mono HO.2.2.size);clear hb3;have HO2:Hid (MatR w3 g3 (s.size+1) ρ3 γ3 f3∧RelW (sb s) f3 (opL (Lg a) (ops.take (k+1)))∧Below w.heap.size w w3):=⟨HM3.1,HM3.2.iff (fun _ _ _ _=>rfl) (fun x=>by rw[HK.1];exact(sgn43 _ _ x)),HB3.out⟩;go_wp2_with fail;go_roundw;case rel=>first|exact⟨J+1,k+1,g3,p3,ρ3,γ3,f3,by omega,by omega,by go_num,rfl,hp3,HO2,HJ2⟩|exact⟨J+1,by omega,by go_num,g3,p3,rfl,hp3,k+1,ρ3,γ3,f3,by omega,HO2,HJ2⟩|trace_state
     case measure=>simp[intOf];omega
    ·obtain⟨_,gj⟩:=yA4 HK.2;have zj:(J:Int)<(p.size:Int):=by have:=yAs HK.2;rw[yAd]at this;omega
     have HOp:Hid (Calls Tryz.prog 119 #[.int .u8 ((63:UInt8).toNat:Int)] wr fun e w'=>e=.returned (.bool true)∧w'=wr):=by have:=yCq 63 wr;rw[decide_eq_true (by decide)]at this;exact this
     have hJl:J<p.size:=by omega
     go_wp2_with fail;refine HOp.mono ?_;rintro e' w9 ⟨rfl,hw9⟩;rw[hw9];clear hw9;go_wp2_with fail;refine(yFz hs wr).mono ?_;rintro e w5 ⟨g5,p5,ρ5,γ5,f5,rfl,hp5,HM5,hb5⟩;have HOr:Hid (Calls Tryz.prog 170 #[slV go (s.size+1) co,slV g5 (s.size+1) p5] w5 (MxG s _ w5)):=yUa hs (HO.1.below hb5 (Nat.le_refl _)) HO.2.1 hco HM5.1 HM5.2 hp5;have HB5:Hid (Below w.heap.size w w5):=HO.2.2.trans (hb5.mono HO.2.2.size);clear hb5;go_wp2_with fail;refine HOr.mono ?_;rintro e w6 ⟨g6,p6,ρ6,γ6,f6,rfl,hp6,HM6,hb6⟩;have HB6:Hid (Below w.heap.size w w6):=HB5.trans (hb6.mono HB5.size);clear hb6;have HO2:Hid (MatR w6 g6 (s.size+1) ρ6 γ6 f6∧RelW (sb s) f6 (opL (Lg a) (ops.take (k+1)))∧Below w.heap.size w w6):=⟨HM6.1,HM6.2.iff (fun _ _ _ _=>rfl) (fun x=>by rw[HK.1];exact(sgn63 _ _ x)),HB6.out⟩;go_wp2_with fail;go_roundw;case rel=>first|exact⟨J+1,k+1,g6,p6,ρ6,γ6,f6,by omega,by omega,by go_num,rfl,hp6,HO2,HJ2⟩|exact⟨J+1,by omega,by go_num,g6,p6,rfl,hp6,k+1,ρ6,γ6,f6,by omega,HO2,HJ2⟩|trace_state
     case measure=>simp[intOf];omega
   ·obtain rfl:k=no:=by omega
    have HO2:Hid (MatR wr go (s.size+1) ρo γo f∧RelW (sb s) f (Lg t)∧Below w.heap.size w wr):=by refine⟨HO.1,HO.2.1.iff (fun _ _ _ _=>rfl) (fun x=>?_),HO.2.2⟩;rw[List.take_of_length_le (by rw[HL.2];exact Nat.le_refl _)];exact HX.2 x
    have HFin:Hid (∀wx,Below wr.heap.size wr wx→Calls Tryz.prog 171 #[.string (p.extract J p.size),.string s] wx (MxG s (LgS ts) wx)):=fun wx _=>by rw[HJ.out];exact HSq.out wx
    by_cases hJl:J<p.size
    ·obtain⟨c,hc⟩:∃c,(sb p)[J]?=some c:=⟨_,List.getElem?_eq_getElem (by rw[yAd];exact hJl)⟩;obtain⟨_,gj⟩:=yA4 hc;have zj:(J:Int)<(p.size:Int):=by omega
     have nop:=HX.1.stop c (by rw[←HL.1,←HL.2,←HJ.out];exact hc);have HOp:Hid (Calls Tryz.prog 119 #[.int .u8 (c.toNat:Int)] wr fun e w'=>e=.returned (.bool false)∧w'=wr):=by have:=yCq c wr;rw[decide_eq_false nop]at this;exact this
     clear hc nop;go_wp2_with fail;refine HOp.mono ?_;rintro e' w9 ⟨rfl,hw9⟩;rw[hw9];clear hw9;go_wp2_with fail;refine(HFin.out wr (Below.refl _ _)).mono ?_;rintro e w3 ⟨g3,p3,ρ3,γ3,f3,rfl,hp3,HM3,hb3⟩;have HB3:Hid (Below w.heap.size w w3):=HO2.2.2.trans (hb3.mono HO2.2.2.size);have HTh:Hid (Calls Tryz.prog 180 #[slV go (s.size+1) co,slV g3 (s.size+1) p3] w3 (MxG s (LgS (t::ts)) w3)):=(yM6 hs (HO2.1.below hb3 (Nat.le_refl _)) HO2.2.1 hco HM3.1 HM3.2 hp3).mono (fun r w' h=>MxG.iff h (fun x=>by simp[LgS]));clear hb3;go_wp2_with fail;refine HTh.mono ?_;rintro e w4 ⟨g4,p4,ρ4,γ4,f4,rfl,hp4,HM4,hb4⟩;have HR:Hid (MxG s (LgS (t::ts)) w (.returned (slV g4 (s.size+1) p4)) w4):=⟨g4,p4,ρ4,γ4,f4,rfl,hp4,HM4,HB3.trans (hb4.mono HB3.size)⟩;clear hb4;go_wp2_with fail;go_ret;exact HR.out
    ·have zj:¬(J:Int)<(p.size:Int):=by omega
     have zj2:(J:Int)≤(p.size:Int):=by omega
     go_wp2_with fail;refine(HFin.out wr (Below.refl _ _)).mono ?_;rintro e w3 ⟨g3,p3,ρ3,γ3,f3,rfl,hp3,HM3,hb3⟩;have HB3:Hid (Below w.heap.size w w3):=HO2.2.2.trans (hb3.mono HO2.2.2.size);have HTh:Hid (Calls Tryz.prog 180 #[slV go (s.size+1) co,slV g3 (s.size+1) p3] w3 (MxG s (LgS (t::ts)) w3)):=(yM6 hs (HO2.1.below hb3 (Nat.le_refl _)) HO2.2.1 hco HM3.1 HM3.2 hp3).mono (fun r w' h=>MxG.iff h (fun x=>by simp[LgS]));clear hb3;go_wp2_with fail;refine HTh.mono ?_;rintro e w4 ⟨g4,p4,ρ4,γ4,f4,rfl,hp4,HM4,hb4⟩;have HR:Hid (MxG s (LgS (t::ts)) w (.returned (slV g4 (s.size+1) p4)) w4):=⟨g4,p4,ρ4,γ4,f4,rfl,hp4,HM4,HB3.trans (hb4.mono HB3.size)⟩;clear hb4;go_wp2_with fail;go_ret;exact HR.out
theorem yM {s:List UInt8} {τ:UInt8→Bool} (h:∀i j,i≤j→j<s.length+1→f i j=(decide (j=i+1) && ((s[i]?).map τ).getD false)):RelW s f (fun x=>∃c,x= [c]∧τ c=true):=by
 intro i j hij hj;rw[h i j hij (by omega),Bool.and_eq_true,decide_eq_true_eq];constructor
 ·rintro⟨rfl,h2⟩;cases hc:s[i]? with
  |none=>rw[hc]at h2;cases h2
  |some c=>rw[hc]at h2;exact⟨c,yCt hc,h2⟩
 ·rintro⟨c,hx,hc⟩;have hl:=yBk (p:=s) (i:=i) hj;rw[hx]at hl;have e:j=i+1:=by simp at hl;omega
  subst e;have hi:i<s.length:=by omega
  have h1:=yCt (p:=s) (i:=i) (List.getElem?_eq_getElem hi);rw[hx]at h1;have h2:c=s[i]:=by simpa using h1
  exact⟨rfl,by rw[List.getElem?_eq_getElem hi,←h2];exact hc⟩
theorem yXh (hs:s.size≤200) (q:ByteArray) (c:UInt8) (hq:sb q= [c]) (h40:¬c=40) (h46:¬c=46) (h92:¬c=92) (h91:¬c=91) (w:World):Calls Tryz.prog 178 #[.string q,.string s] w (MxG s (Lg (.byte c)) w):=by
 have hql:q.size=1:=by rw[←yAd,hq];rfl
 obtain⟨_,gq⟩:=yA4 (s:=q) (i:=0) (x:=c) (by rw[hq];rfl);have zq:(0:Int)<(q.size:Int):=by omega
 have z40:((c.toNat:Int)==40)=false:=beq_eq_false_iff_ne.2 (yCa (c:=40) h40);have z46:((c.toNat:Int)==46)=false:=beq_eq_false_iff_ne.2 (yCa (c:=46) h46);have z92:((c.toNat:Int)==92)=false:=beq_eq_false_iff_ne.2 (yCa (c:=92) h92);have z91:((c.toNat:Int)==91)=false:=beq_eq_false_iff_ne.2 (yCa (c:=91) h91);have HNo:Hid (Calls Tryz.prog 168 #[.int .i64 (s.size:Int)] w (MaP (s.size+1) (fun _ _=>false) w)):=yBt s.size (by omega) w;clear hq h40 h46 h92 h91 hql;go_enter Tryz.func178,Tryz.ntmps178;go_wp2_with fail;refine HNo.mono ?_;rintro r w1 ⟨g,cp,ρ,γ,rfl,HM,hb1⟩;have hcp:=HM.out.out.caps;go_wp2_with fail;go_loopw[6] (fun iv wr=>∃(k:Nat) (f:Nat→Nat→Bool),k≤s.size∧iv=.int .i64 k∧Hid (MatO wr w.heap.size g cp (s.size+1) (s.size+1) ρ γ f∧(∀i j,i≤j→j<s.size+1→f i j=(decide (j=i+1) && (((sb s)[i]?).map (fun x=>x==c)).getD false && decide (i<k)))∧Below w.heap.size w wr)) (fun iv _=>s.size-(intOf iv).toNat);case atStart=>exact⟨0,_,Nat.zero_le _,rfl,HM.out,fun i j _ _=>by simp,hb1⟩
 case round=>
  obtain⟨k,f,hk,rfl,HJ⟩:=hrel;by_cases hlt:k<s.size
  ·have zk:(k:Int)<(s.size:Int):=by omega
   obtain⟨x,hx⟩:∃x,(sb s)[k]?=some x:=⟨_,List.getElem?_eq_getElem (by rw[yAd];exact hlt)⟩;obtain⟨_,gx⟩:=yA4 hx;have c0:wr.cell? ⟨g,k,none⟩=some (slV (ρ k) (s.size+1) (γ k)):=HJ.1.cell (by omega);have hkk:k<s.size+1:=by omega
   have c1:wr.cell? ⟨ρ k,k+1,none⟩=some (.bool (f k (k+1))):=(HJ.1.row k hkk).cell (by omega);have y1:wr.frozen? ⟨ρ k,k+1,none⟩=false:=World.ownsRow.frozenAt (HJ.1.row k hkk) _;have hrc:=(HJ.1.row k hkk).caps;obtain⟨bv,hbv⟩:=qE (((c.toNat:Int)==(x.toNat:Int)));have HV:Hid (bv=(x==c)):=by show _=_;rw[hbv,Bool.eq_iff_iff,beq_iff_eq,beq_iff_eq];exact⟨fun q=>UInt8.toNat_inj.1 (by omega),fun q=>by rw[q]⟩
   have HX:Hid ((sb s)[k]?=some x):=hx;clear hx;go_upto_region 7 with fail;refine yAb 99 (fun _=>True) (by kernel_rfl) ?_;refine j3a 0 True.intro ?_;refine j3b True.intro ?_;refine j17a 2 True.intro (v:=(.bool false)) ?_;iterate 8 refine j3b True.intro ?_
   refine qO 11 rfl fun K hK=>?_;go_simp;refine hK.out _ _ (.inr True.intro) ?_;clear hK;refine jS ?_;refine qD ?_;rw[←hbv];clear hbv;have HJ2:Hid (MatO (wr.setCell ⟨ρ k,k+1,none⟩ (.bool bv)).drew w.heap.size g cp (s.size+1) (s.size+1) ρ γ (upd2 f k (k+1) bv)∧(∀i j,i≤j→j<s.size+1→upd2 f k (k+1) bv i j=(decide (j=i+1) && (((sb s)[i]?).map (fun x=>x==c)).getD false && decide (i<k+1)))∧Below w.heap.size w (wr.setCell ⟨ρ k,k+1,none⟩ (.bool bv)).drew):=by
    refine⟨(HJ.1.set hkk (by omega) bv).below ((Below.refl _ _).drew),fun i j hij hj=>?_,(yAc HJ.2.2 (HJ.1.row k hkk).lt.1 _ _).drew⟩;unfold upd2;by_cases e:i=k∧j=k+1
    ·rw[if_pos e,e.1,e.2,HX.out,HV.out];simp
    ·rw[if_neg e,HJ.2.1 i j hij hj];by_cases e2:j=i+1
     ·have h1:i≠k:=fun q=>e ⟨q,by omega⟩;have h2:decide (i<k)=decide (i<k+1):=by rw[decide_eq_decide];omega
      rw[h2]
     ·simp[e2]
   exact yVy
  ·exact zzQ58
theorem xAh (hs:s.size≤200) (q:ByteArray) (d:UInt8) (hq:sb q= [d]) (hd:d=46) (w:World):Calls Tryz.prog 178 #[.string q,.string s] w (MxG s (Lg (.cls (fun _=>true))) w):=by
 have hql:q.size=1:=by rw[←yAd,hq];rfl
 obtain⟨_,gq⟩:=yA4 (s:=q) (i:=0) (x:=d) (by rw[hq];rfl);have z40:((d.toNat:Int)==40)=false:=by rw[hd];rfl
 have z46:((d.toNat:Int)==46)=true:=by rw[hd];rfl
 have z92:((d.toNat:Int)==92)=false:=by rw[hd];rfl
 have z91:((d.toNat:Int)==91)=false:=by rw[hd];rfl
 have zq:(0:Int)<(q.size:Int):=by omega
 have HNo:Hid (Calls Tryz.prog 168 #[.int .i64 (s.size:Int)] w (MaP (s.size+1) (fun _ _=>false) w)):=yBt s.size (by omega) w;clear hq hd hql;go_enter Tryz.func178,Tryz.ntmps178;go_wp2_with fail;refine HNo.mono ?_;rintro r w1 ⟨g,cp,ρ,γ,rfl,HM,hb1⟩;have hcp:=HM.out.out.caps;go_wp2_with fail;go_loopw[6] (fun iv wr=>∃(k:Nat) (f:Nat→Nat→Bool),k≤s.size∧iv=.int .i64 k∧Hid (MatO wr w.heap.size g cp (s.size+1) (s.size+1) ρ γ f∧(∀i j,i≤j→j<s.size+1→f i j=(decide (j=i+1) && (((sb s)[i]?).map (fun _=>true)).getD false && decide (i<k)))∧Below w.heap.size w wr)) (fun iv _=>s.size-(intOf iv).toNat);case atStart=>exact⟨0,_,Nat.zero_le _,rfl,HM.out,fun i j _ _=>by simp,hb1⟩
 case round=>
  obtain⟨k,f,hk,rfl,HJ⟩:=hrel;by_cases hlt:k<s.size
  ·have zk:(k:Int)<(s.size:Int):=by omega
   obtain⟨x,hx⟩:∃x,(sb s)[k]?=some x:=⟨_,List.getElem?_eq_getElem (by rw[yAd];exact hlt)⟩;obtain⟨_,gx⟩:=yA4 hx;have c0:wr.cell? ⟨g,k,none⟩=some (slV (ρ k) (s.size+1) (γ k)):=HJ.1.cell (by omega);have hkk:k<s.size+1:=by omega
   have c1:wr.cell? ⟨ρ k,k+1,none⟩=some (.bool (f k (k+1))):=(HJ.1.row k hkk).cell (by omega);have y1:wr.frozen? ⟨ρ k,k+1,none⟩=false:=World.ownsRow.frozenAt (HJ.1.row k hkk) _;have hrc:=(HJ.1.row k hkk).caps;obtain⟨bv,hbv⟩:=qE ((true));have HV:Hid (bv=(fun _=>true) x):=by exact hbv
   have HX:Hid ((sb s)[k]?=some x):=hx;clear hx;go_upto_region 7 with fail;refine yAb 99 (fun _=>True) (by kernel_rfl) ?_;refine j3a 0 True.intro ?_;refine j3b True.intro ?_;refine j17a 2 True.intro (v:=(.bool true)) ?_;iterate 8 refine j3b True.intro ?_
   refine qO 11 rfl fun K hK=>?_;go_simp;refine hK.out _ _ (.inr True.intro) ?_;clear hK;refine jS ?_;refine qD ?_;have hbv2:(Value.bool true)=Value.bool bv:=by rw[hbv]
   rw[hbv2];clear hbv hbv2;have HJ2:Hid (MatO (wr.setCell ⟨ρ k,k+1,none⟩ (.bool bv)).drew w.heap.size g cp (s.size+1) (s.size+1) ρ γ (upd2 f k (k+1) bv)∧(∀i j,i≤j→j<s.size+1→upd2 f k (k+1) bv i j=(decide (j=i+1) && (((sb s)[i]?).map (fun _=>true)).getD false && decide (i<k+1)))∧Below w.heap.size w (wr.setCell ⟨ρ k,k+1,none⟩ (.bool bv)).drew):=by
    refine⟨(HJ.1.set hkk (by omega) bv).below ((Below.refl _ _).drew),fun i j hij hj=>?_,(yAc HJ.2.2 (HJ.1.row k hkk).lt.1 _ _).drew⟩;unfold upd2;by_cases e:i=k∧j=k+1
    ·rw[if_pos e,e.1,e.2,HX.out,HV.out];simp
    ·rw[if_neg e,HJ.2.1 i j hij hj];by_cases e2:j=i+1
     ·have h1:i≠k:=fun q=>e ⟨q,by omega⟩;have h2:decide (i<k)=decide (i<k+1):=by rw[decide_eq_decide];omega
      rw[h2]
     ·simp[e2]
   exact yVy
  ·obtain rfl:k=s.size:=by omega
   have zk:¬(s.size:Int)<(s.size:Int):=by omega
   go_wp2_with fail;go_ret;refine⟨g,cp,ρ,γ,f,rfl,hcp.1,⟨HJ.1.read,(yM (τ:=fun _=>true) (fun i j hij hj=>?_)).iff (fun _ _ _ _=>rfl) (fun y=>by simp[Lg])⟩,HJ.2.2⟩;rw[yAd]at hj;rw[HJ.2.1 i j hij hj];by_cases e:j=i+1
   ·have h1:i<s.size:=by omega
    simp[h1]
   ·simp[e]
theorem xAg (hs:s.size≤200) (q:ByteArray) (d c:UInt8) (hq:sb q= [d,c]) (hd:d=92) (w:World):Calls Tryz.prog 178 #[.string q,.string s] w (MxG s (Lg (.byte c)) w):=by
 have hql:q.size=2:=by rw[←yAd,hq];rfl
 obtain⟨_,gq⟩:=yA4 (s:=q) (i:=0) (x:=d) (by rw[hq];rfl);obtain⟨_,gq1⟩:=yA4 (s:=q) (i:=1) (x:=c) (by rw[hq];rfl);have zq1:(1:Int)<(q.size:Int):=by omega
 have z40:((d.toNat:Int)==40)=false:=by rw[hd];rfl
 have z46:((d.toNat:Int)==46)=false:=by rw[hd];rfl
 have z92:((d.toNat:Int)==92)=true:=by rw[hd];rfl
 have z91:((d.toNat:Int)==91)=false:=by rw[hd];rfl
 have zq:(0:Int)<(q.size:Int):=by omega
 have HNo:Hid (Calls Tryz.prog 168 #[.int .i64 (s.size:Int)] w (MaP (s.size+1) (fun _ _=>false) w)):=yBt s.size (by omega) w;clear hq hd hql;go_enter Tryz.func178,Tryz.ntmps178;go_wp2_with fail;refine HNo.mono ?_;rintro r w1 ⟨g,cp,ρ,γ,rfl,HM,hb1⟩;have hcp:=HM.out.out.caps;go_wp2_with fail;go_loopw[6] (fun iv wr=>∃(k:Nat) (f:Nat→Nat→Bool),k≤s.size∧iv=.int .i64 k∧Hid (MatO wr w.heap.size g cp (s.size+1) (s.size+1) ρ γ f∧(∀i j,i≤j→j<s.size+1→f i j=(decide (j=i+1) && (((sb s)[i]?).map (fun x=>x==c)).getD false && decide (i<k)))∧Below w.heap.size w wr)) (fun iv _=>s.size-(intOf iv).toNat);case atStart=>exact⟨0,_,Nat.zero_le _,rfl,HM.out,fun i j _ _=>by simp,hb1⟩
 case round=>
  obtain⟨k,f,hk,rfl,HJ⟩:=hrel;by_cases hlt:k<s.size
  ·have zk:(k:Int)<(s.size:Int):=by omega
   obtain⟨x,hx⟩:∃x,(sb s)[k]?=some x:=⟨_,List.getElem?_eq_getElem (by rw[yAd];exact hlt)⟩;obtain⟨_,gx⟩:=yA4 hx;have c0:wr.cell? ⟨g,k,none⟩=some (slV (ρ k) (s.size+1) (γ k)):=HJ.1.cell (by omega);have hkk:k<s.size+1:=by omega
   have c1:wr.cell? ⟨ρ k,k+1,none⟩=some (.bool (f k (k+1))):=(HJ.1.row k hkk).cell (by omega);have y1:wr.frozen? ⟨ρ k,k+1,none⟩=false:=World.ownsRow.frozenAt (HJ.1.row k hkk) _;have hrc:=(HJ.1.row k hkk).caps;obtain⟨bv,hbv⟩:=qE (((c.toNat:Int)==(x.toNat:Int)));have HV:Hid (bv=(fun x=>x==c) x):=by show _=_;rw[hbv,Bool.eq_iff_iff,beq_iff_eq,beq_iff_eq];exact⟨fun q=>UInt8.toNat_inj.1 (by omega),fun q=>by rw[q]⟩
   have HX:Hid ((sb s)[k]?=some x):=hx;clear hx;go_upto_region 7 with fail;refine yAb 99 (fun _=>True) (by kernel_rfl) ?_;refine j3a 0 True.intro ?_;refine j3b True.intro ?_;refine j17a 2 True.intro (v:=(.bool false)) ?_;iterate 8 refine j3b True.intro ?_
   refine qO 11 rfl fun K hK=>?_;go_simp;refine hK.out _ _ (.inr True.intro) ?_;clear hK;refine jS ?_;refine qD ?_;go_upto_region 9 with fail;refine yAb 99 (fun _=>True) (by kernel_rfl) ?_;refine j3a 0 True.intro ?_;iterate 5 refine j3b True.intro ?_
   refine qO 6 rfl fun K hK=>?_;go_simp;refine hK.out _ _ (.inr True.intro) ?_;clear hK;refine jS ?_;refine qD ?_;rw[←hbv];clear hbv;have HJ2:Hid (MatO (wr.setCell ⟨ρ k,k+1,none⟩ (.bool bv)).drew.drew w.heap.size g cp (s.size+1) (s.size+1) ρ γ (upd2 f k (k+1) bv)∧(∀i j,i≤j→j<s.size+1→upd2 f k (k+1) bv i j=(decide (j=i+1) && (((sb s)[i]?).map (fun x=>x==c)).getD false && decide (i<k+1)))∧Below w.heap.size w (wr.setCell ⟨ρ k,k+1,none⟩ (.bool bv)).drew.drew):=by
    refine⟨(HJ.1.set hkk (by omega) bv).below ((Below.refl _ _).drew.drew),fun i j hij hj=>?_,(yAc HJ.2.2 (HJ.1.row k hkk).lt.1 _ _).drew.drew⟩;unfold upd2;by_cases e:i=k∧j=k+1
    ·rw[if_pos e,e.1,e.2,HX.out,HV.out];simp
    ·rw[if_neg e,HJ.2.1 i j hij hj];by_cases e2:j=i+1
     ·have h1:i≠k:=fun q=>e ⟨q,by omega⟩;have h2:decide (i<k)=decide (i<k+1):=by rw[decide_eq_decide];omega
      rw[h2]
     ·simp[e2]
   exact yVy
  ·exact zzQ58
theorem xAi (hs:s.size≤200) (q:ByteArray) (fc:UInt8→Bool) (hq91:(sb q)[0]?=some 91) (hqs:q.size≤200) (hcl:yAt (sb q) 1=.inl (fc,q.size)) (w:World):Calls Tryz.prog 178 #[.string q,.string s] w (MxG s (Lg (.cls fc)) w):=by
 obtain⟨d,hd⟩:=qE (91:UInt8);rw[←hd]at hq91;have hql:0<q.size:=by have:=yAs hq91;rw[yAd]at this;exact this
 obtain⟨_,gq⟩:=yA4 (s:=q) (i:=0) (x:=d) hq91;have z40:((d.toNat:Int)==40)=false:=by rw[hd];rfl
 have z46:((d.toNat:Int)==46)=false:=by rw[hd];rfl
 have z92:((d.toNat:Int)==92)=false:=by rw[hd];rfl
 have z91:((d.toNat:Int)==91)=true:=by rw[hd];rfl
 have HHo:Hid (∀(b:UInt8) (wx:World),Calls Tryz.prog 185 #[.string q,.int .u8 (b.toNat:Int)] wx fun e w'=>e=.returned (.bool (fc b))∧w'=wx):=fun b wx=>yNv q hqs b fc hcl wx;have zq:(0:Int)<(q.size:Int):=by omega
 have HNo:Hid (Calls Tryz.prog 168 #[.int .i64 (s.size:Int)] w (MaP (s.size+1) (fun _ _=>false) w)):=yBt s.size (by omega) w;clear hq91 hd hqs hcl;go_enter Tryz.func178,Tryz.ntmps178;go_wp2_with fail;refine HNo.mono ?_;rintro r w1 ⟨g,cp,ρ,γ,rfl,HM,hb1⟩;have hcp:=HM.out.out.caps;go_wp2_with fail;go_loopw[6] (fun iv wr=>∃(k:Nat) (f:Nat→Nat→Bool),k≤s.size∧iv=.int .i64 k∧Hid (MatO wr w.heap.size g cp (s.size+1) (s.size+1) ρ γ f∧(∀i j,i≤j→j<s.size+1→f i j=(decide (j=i+1) && (((sb s)[i]?).map (fun x=>fc x)).getD false && decide (i<k)))∧Below w.heap.size w wr)) (fun iv _=>s.size-(intOf iv).toNat);case atStart=>exact⟨0,_,Nat.zero_le _,rfl,HM.out,fun i j _ _=>by simp,hb1⟩
 case round=>
  obtain⟨k,f,hk,rfl,HJ⟩:=hrel;by_cases hlt:k<s.size
  ·have zk:(k:Int)<(s.size:Int):=by omega
   obtain⟨x,hx⟩:∃x,(sb s)[k]?=some x:=⟨_,List.getElem?_eq_getElem (by rw[yAd];exact hlt)⟩;obtain⟨_,gx⟩:=yA4 hx;have c0:wr.cell? ⟨g,k,none⟩=some (slV (ρ k) (s.size+1) (γ k)):=HJ.1.cell (by omega);have hkk:k<s.size+1:=by omega
   have c1:wr.cell? ⟨ρ k,k+1,none⟩=some (.bool (f k (k+1))):=(HJ.1.row k hkk).cell (by omega);have y1:wr.frozen? ⟨ρ k,k+1,none⟩=false:=World.ownsRow.frozenAt (HJ.1.row k hkk) _;have hrc:=(HJ.1.row k hkk).caps;obtain⟨bv,hbv⟩:=qE ((fc x));have HV:Hid (bv=(fun x=>fc x) x):=by exact hbv
   have HX:Hid ((sb s)[k]?=some x):=hx;clear hx;go_upto_region 7 with fail;refine yAb 99 (fun _=>True) (by kernel_rfl) ?_;refine j3a 0 True.intro ?_;refine j3b True.intro ?_;refine j17a 2 True.intro (v:=(.bool false)) ?_;iterate 8 refine j3b True.intro ?_
   refine qO 11 rfl fun K hK=>?_;go_simp;refine hK.out _ _ (.inr True.intro) ?_;clear hK;refine jS ?_;refine qD ?_;go_wp2_with fail;refine(HHo.out x _).mono ?_;rintro e wh ⟨rfl,hwh⟩;rw[hwh];rw[←hbv];clear hbv;have HJ2:Hid (MatO (wr.setCell ⟨ρ k,k+1,none⟩ (.bool bv)).drew w.heap.size g cp (s.size+1) (s.size+1) ρ γ (upd2 f k (k+1) bv)∧(∀i j,i≤j→j<s.size+1→upd2 f k (k+1) bv i j=(decide (j=i+1) && (((sb s)[i]?).map (fun x=>fc x)).getD false && decide (i<k+1)))∧Below w.heap.size w (wr.setCell ⟨ρ k,k+1,none⟩ (.bool bv)).drew):=by
    refine⟨(HJ.1.set hkk (by omega) bv).below ((Below.refl _ _).drew),fun i j hij hj=>?_,(yAc HJ.2.2 (HJ.1.row k hkk).lt.1 _ _).drew⟩;unfold upd2;by_cases e:i=k∧j=k+1
    ·rw[if_pos e,e.1,e.2,HX.out,HV.out];simp
    ·rw[if_neg e,HJ.2.1 i j hij hj];by_cases e2:j=i+1
     ·have h1:i≠k:=fun q=>e ⟨q,by omega⟩;have h2:decide (i<k)=decide (i<k+1):=by rw[decide_eq_decide];omega
      rw[h2]
     ·simp[e2]
   exact yVy
  ·obtain rfl:k=s.size:=by omega
   have zk:¬(s.size:Int)<(s.size:Int):=by omega
   go_wp2_with fail;go_ret;refine⟨g,cp,ρ,γ,f,rfl,hcp.1,⟨HJ.1.read,(yM (τ:=fun x=>fc x) (fun i j hij hj=>?_)).iff (fun _ _ _ _=>rfl) (fun y=>by simp[Lg])⟩,HJ.2.2⟩;rw[yAd]at hj;rw[HJ.2.1 i j hij hj];by_cases e:j=i+1
   ·have h1:i<s.size:=by omega
    simp[h1]
   ·simp[e]
theorem yVm (H:AltW s m) (q:ByteArray) (ys:List UInt8) (n:Nat) (os:List (List Pat)) (hq:sb q=40::ys++ [41]) (hqm:q.size≤m+1) (hqs:q.size≤200) (hG:AltG (yAz n) os ys) (w:World):Calls Tryz.prog 178 #[.string q,.string s] w (MxG s (LgA os) w):=by
 have hql:q.size=ys.length+2:=by rw[←yAd,hq];simp
 obtain⟨d,hd⟩:=qE (40:UInt8);obtain⟨_,gq⟩:=yA4 (s:=q) (i:=0) (x:=d) (by rw[hq,hd];rfl);have z40:((d.toNat:Int)==40)=true:=by rw[hd];rfl
 have zq:(0:Int)<(q.size:Int):=by omega
 have hx:sb (q.extract 1 (q.size-1))=ys:=by rw[yB7 q (by omega),hq,hql];simp[cut]
 have HC:Hid (Calls Tryz.prog 163 #[.string (q.extract 1 (q.size-1)),.string s] w (MxG s (LgA os) w)):=H n os _ w (by rw[←yAd,hx];omega) (by rw[←yAd,hx];omega) (by rw[hx];exact hG);obtain⟨M,hM⟩:=qE (q.size-1);have z1:(1:Int)≤(M:Int):=by omega
 have z2:(M:Int)≤(q.size:Int):=by omega
 have z3:((q.size:Int)-1)=(M:Int):=by omega
 have z4:q.size≤200:=hqs;rw[←hM]at HC;clear hq hqm hqs hG hx hd hql hM;go_enter Tryz.func178,Tryz.ntmps178;go_wp2_with fail;refine HC.mono ?_;rintro r w1 ⟨g,cp,ρ,γ,f,rfl,hcp,HM,hb⟩;go_wp2_with fail;go_ret;exact⟨g,cp,ρ,γ,f,rfl,hcp,HM,hb⟩
theorem yHu (c k:Int) (w:World):(Instr.field 129 (.agg #[.int .i64 c,.int .i64 k]) 0).run Tryz.prog w=.ok (.int .i64 c) w:=by kernel_rfl
theorem yXg (hs:s.size≤200) (H:AltW s m):AtmW s (m+1):=by
 intro n t q w hqm hq hG;cases n with
 |zero=>exact hG.elim
 |succ n=>
  rcases hG with⟨c,h1,h2,rfl⟩|⟨h1,rfl⟩|⟨c,h1,rfl⟩|⟨ys,os,h1,h2,rfl⟩|⟨p,i,k,f,h1,h2,h3,rfl⟩
  ·unfold yEq at h2;exact yXh hs q c h1 (fun e=>h2 (.inr (.inl e))) (fun e=>h2 (.inr (.inr (.inr (.inl e))))) (fun e=>h2 (.inr (.inr (.inr (.inr e))))) (fun e=>h2 (.inr (.inr (.inl e)))) w
  ·exact xAh hs q 46 h1 rfl w
  ·exact xAg hs q 92 c h1 rfl w
  ·exact yVm H q ys n os h1 hqm hq h2 w
  ·have hg:=yBv h2;have hle:=hg.2;have hl:(sb q).length=k-i:=by rw[h3,yBk hle]
   have hat:∀t,i+t<k→(sb q)[t]?=p[i+t]?:=fun t ht=>by rw[h3];unfold cut;rw[List.getElem?_take,if_pos (by omega),List.getElem?_drop]
   have e:=yFo (q:=sb q) (j:=1) h2 (fun t ht=>by rw[hat (1+t) (by omega)];congr 1;omega)
   refine xAi hs q f (by have:=hat 0 (by omega);rw[this];exact h1) hq ?_ w;rw[e];have:1+(k-(i+1))=q.size:=by rw[←yAd,hl];omega
   rw[this]
theorem yWh (hs:s.size≤200):SeqW s 0:=by
 intro n ts p w hpm hp hG;have h0:sb p= []:=List.length_eq_zero_iff.1 (by rw[yAd];omega);cases ts with
 |nil=>
  have hz:p.toList= []:=by rw[ByteArray.toList_eq];exact h0
  have q1:(p.toList== [])=true:=by rw[hz];rfl
  have HE:Hid (Calls Tryz.prog 177 #[.int .i64 (s.size:Int)] w (MxG s (fun x=>x= []) w)):=yFz hs w;clear hz h0 hG;go_enter Tryz.func171,Tryz.ntmps171;go_wp2_with fail;refine HE.mono ?_;rintro e w1 ⟨g1,p1,ρ1,γ1,f1,rfl,hp1,HM1,hb1⟩;have HR:Hid (MxG s (LgS []) w (.returned (slV g1 (s.size+1) p1)) w1):=⟨g1,p1,ρ1,γ1,f1,rfl,hp1,⟨HM1.1,HM1.2.iff (fun _ _ _ _=>rfl) (fun x=>by simp[LgS])⟩,hb1⟩;go_wp2_with fail;go_ret;exact HR.out
 |cons t ts=>
  obtain⟨a,as_,ops,hX,_⟩:=yTv hG;have h1:=hX.len;have h2:=hX.le;omega
theorem yJf (hs:s.size≤200):∀m,SeqW s m
 |0=>yWh hs
 |m+1=>yWi hs (yXg hs (yRj hs (yJf hs m))) (yJf hs m)
theorem yVp (hs:s.size≤200) (m:Nat):AltW s m:=yRj hs (yJf hs m)
theorem yGu (p s:ByteArray) (hpm:p.size≤maxLen) (hc0:¬(yAr (sb p)).1=0) (w:World):Calls Tryz.prog 148 #[.string p,.string s] w fun e w'=>e=.returned (.bool false)∧Below w.heap.size w w':=by
 obtain⟨c,hc⟩:=qE ((yAr (sb p)).1);obtain⟨k,hk⟩:=qE (((yAr (sb p)).2:Int):Int);have HS:Hid (∀w,Calls Tryz.prog 88 #[.string p] w fun e w'=>e=.returned (.agg #[.int .i64 c,.int .i64 k])∧Below w.heap.size w w'):=fun w=>by rw[hc,hk];exact yCd p w hpm
 have hfd:=yHu c k;rw[←hc]at hc0;clear hc hk;exact zzQ97
theorem yKu (p s:ByteArray) (hpm:p.size≤maxLen) (hs:200<s.size) (w:World):Calls Tryz.prog 148 #[.string p,.string s] w fun e w'=>e=.returned (.bool false)∧Below w.heap.size w w':=by
 by_cases hc0:(yAr (sb p)).1=0
 ·obtain⟨k,hk⟩:=qE (((yAr (sb p)).2:Int):Int);have HS:Hid (∀w,Calls Tryz.prog 88 #[.string p] w fun e w'=>e=.returned (.agg #[.int .i64 0,.int .i64 k])∧Below w.heap.size w w'):=fun w=>by rw[←hc0,hk];exact yCd p w hpm
  have hfd:=yHu 0 k;have zs:¬(s.size:Int)≤200:=by omega
  clear hk hc0;exact zzQ97
 ·exact yGu p s hpm hc0 w
theorem yM8 (p s:ByteArray) (hpm:p.size≤maxLen) (hc0:(yAr (sb p)).1=0) (hs:s.size≤200) (n:Nat) (os:List (List Pat)) (hG:AltG (yAz n) os (sb p)) (w:World):Calls Tryz.prog 148 #[.string p,.string s] w fun e w'=>∃b:Bool,e=.returned (.bool b)∧Hid (b=true↔LgA os (sb s))∧Below w.heap.size w w':=by
 have hp:p.size≤200:=by apply Classical.byContradiction;intro h6;unfold yAr at hc0;rw[if_pos (by rw[yAd];omega)]at hc0;exact absurd hc0 (by decide)
 obtain⟨k,hk⟩:=qE (((yAr (sb p)).2:Int):Int);have HS:Hid (∀w,Calls Tryz.prog 88 #[.string p] w fun e w'=>e=.returned (.agg #[.int .i64 0,.int .i64 k])∧Below w.heap.size w w'):=fun w=>by rw[←hc0,hk];exact yCd p w hpm
 have HA:Hid (∀w,Calls Tryz.prog 163 #[.string p,.string s] w (MxG s (LgA os) w)):=fun w=>yVp hs 200 n os p w hp hp hG;have hfd:=yHu 0 k;have zs:(s.size:Int)≤200:=by omega
 clear hk hc0 hG;go_enter Tryz.func148,Tryz.ntmps148;go_wp2_with fail;refine(HS.out _).mono ?_;rintro e w1 ⟨rfl,hb1⟩;go_wp2_with fail;refine(HA.out _).mono ?_;rintro e w2 ⟨g,cp,ρ,γ,f,rfl,hcp,HM,hb2⟩;have c0:w2.cell? ⟨g,0,none⟩=some (slV (ρ 0) (s.size+1) (γ 0)):=HM.1.out 0 (by omega);have c1:w2.cell? ⟨ρ 0,s.size,none⟩=some (.bool (f 0 s.size)):=HM.1.row 0 s.size (by omega) (by omega);have hcap:=HM.1.cap 0 (by omega);have z9:(s.size:Int)<((s.size+1:Nat):Int):=by omega
 have z8:(s.size:Int)<(s.size:Int)+1:=by omega
 have z7:(0:Int)<(s.size:Int)+1:=by omega
 have HB:Hid (f 0 s.size=true↔LgA os (sb s)):=by
  have h:=HM.2 0 s.size (by omega) (by rw[yAd];omega);have e:cut (sb s) 0 s.size=sb s:=by unfold cut;rw[List.drop_zero,Nat.sub_zero,←yAd,List.take_length]
  rw[e]at h;exact h
 go_wp2_with fail;go_ret;exact⟨_,rfl,HB,hb1.trans (hb2.mono hb1.size)⟩
section
def Hd (Q:UInt8→Prop) (r:List UInt8):Prop:=r= []∨∃c zs,r=c::zs∧Q c
theorem Hd.mono {Q R:UInt8→Prop} (h:∀c,Q c→R c) {r:List UInt8}:Hd Q r→Hd R r
 | .inl q=>.inl q
 | .inr ⟨c,zs,h1,h2⟩=>.inr ⟨c,zs,h1,h c h2⟩
theorem yUb:∀(a b:List UInt8) {r r':List UInt8},(∀c∈a,isOp c)→(∀c∈b,isOp c)→Hd (fun c=>¬isOp c) r→Hd (fun c=>¬isOp c) r'→a++r=b++r'→a=b∧r=r'
 | [],[],r,r',_,_,_,_,h=>⟨rfl,by simpa using h⟩
 |x::a,[],r,r',ha,_,_,hr',h=>by
  rcases hr' with rfl|⟨c,zs,rfl,hc⟩
  ·cases h
  ·simp only[List.cons_append,List.nil_append,List.cons.injEq]at h
   exact absurd (h.1▸ha x (by simp)) hc
 | [],y::b,r,r',_,hb,hr,_,h=>by
   rcases hr with rfl|⟨c,zs,rfl,hc⟩
   ·cases h
   ·simp only[List.cons_append,List.nil_append,List.cons.injEq]at h
    exact absurd (h.1▸hb y (by simp)) hc
 |x::a,y::b,r,r',ha,hb,hr,hr',h=>by
  simp only[List.cons_append,List.cons.injEq]at h
  obtain⟨h1,h2⟩:=yUb a b (fun c hc=>ha c (by simp[hc])) (fun c hc=>hb c (by simp[hc])) hr hr' h.2
  exact⟨by rw[h.1,h1],h2⟩
theorem yR (zs:List UInt8):Hd (fun c=>c=41∨c=124) (124::zs):=.inr ⟨124,zs,rfl,.inr rfl⟩
section
variable {n m:Nat} (hU:∀xs t t',yAz n xs t→yAz m xs t'→t=t')
include hU
theorem yY5 {xs ys r r':List UInt8} {t t':Pat} (h:RepG (yAz n) xs t) (k:RepG (yAz m) ys t') (hr:Hd (fun c=>¬isOp c) r) (hr':Hd (fun c=>¬isOp c) r') (e:xs++r=ys++r'):xs=ys∧t=t'∧r=r':=by obtain⟨a,o,u,rfl,h2,h3,rfl⟩:=h;obtain⟨a',o',u',rfl,k2,k3,rfl⟩:=k;rw[List.append_assoc,List.append_assoc]at e;have ea:=yRh h2 k2 e;subst ea;obtain rfl:=hU _ _ _ h2 k2;obtain⟨rfl,rfl⟩:=yUb o o' h3 k3 hr hr' (List.append_cancel_left e);exact⟨rfl,rfl,rfl⟩
theorem yJe:∀{ts us:List Pat} {xs ys r r':List UInt8},SeqG (yAz n) ts xs→SeqG (yAz m) us ys→Hd (fun c=>c=41∨c=124) r→Hd (fun c=>c=41∨c=124) r'→xs++r=ys++r'→ts=us∧xs=ys∧r=r'
 | [],[],xs,ys,r,r',h,k,hr,hr',e=>by
   have h:xs= []:=h
   have k:ys= []:=k
   subst h k
   exact⟨rfl,rfl,by simpa using e⟩
 |t::ts,[],xs,ys,r,r',h,k,hr,hr',e=>by
  have k:ys= []:=k
  subst k
  obtain⟨as_,zs,rfl,⟨a,o,u,rfl,h2,h3,_⟩,h4⟩:=h
  obtain⟨c,yt,rfl,n1,n2,n3⟩:=h2.first
  rcases hr' with rfl|⟨c',zs',rfl,hc⟩
  ·simp at e
  ·simp only[List.cons_append,List.nil_append,List.cons.injEq]at e
   rcases hc with q|q
   ·exact absurd (e.1.trans q) n1
   ·exact absurd (e.1.trans q) n2
 | [],u::us,xs,ys,r,r',h,k,hr,hr',e=>by
   have h:xs= []:=h
   subst h
   obtain⟨as_,zs,rfl,⟨a,o,u',rfl,h2,h3,_⟩,h4⟩:=k
   obtain⟨c,yt,rfl,n1,n2,n3⟩:=h2.first
   rcases hr with rfl|⟨c',zs',rfl,hc⟩
   ·simp at e
   ·simp only[List.cons_append,List.nil_append,List.cons.injEq]at e
    rcases hc with q|q
    ·exact absurd (e.1.symm.trans q) n1
    ·exact absurd (e.1.symm.trans q) n2
 |t::ts,u::us,xs,ys,r,r',h,k,hr,hr',e=>by
  obtain⟨as_,zs,rfl,h2,h3⟩:=h
  obtain⟨bs,ws,rfl,k2,k3⟩:=k
  have hd:∀{j:Nat} {vs:List Pat} {qs rr:List UInt8},SeqG (yAz j) vs qs→Hd (fun c=>c=41∨c=124) rr→Hd (fun c=>¬isOp c) (qs++rr):=fun {j vs qs rr} hq hrr=>by
   cases vs with
   |nil=>
    have hq:qs= []:=hq
    subst hq
    refine hrr.mono (fun c hc=>?_)
    rcases hc with rfl|rfl
    ·unfold isOp;decide
    ·unfold isOp;decide
   |cons v vs=>
    obtain⟨a1,z1,rfl,⟨a,o,u',rfl,g2,g3,_⟩,g4⟩:=hq
    obtain⟨c,yt,rfl,n1,n2,n3⟩:=g2.first
    exact .inr ⟨c,_,by simp only[List.cons_append];rfl,n3⟩
  rw[List.append_assoc,List.append_assoc]at e
  obtain⟨rfl,rfl,e2⟩:=yY5 hU h2 k2 (hd h3 hr) (hd k3 hr') e
  obtain⟨rfl,rfl,e3⟩:=yJe h3 k3 hr hr' e2
  exact⟨rfl,rfl,e3⟩
theorem yQ:∀{os us:List (List Pat)} {xs ys r r':List UInt8},AltG (yAz n) os xs→AltG (yAz m) us ys→Hd (fun c=>c=41) r→Hd (fun c=>c=41) r'→xs++r=ys++r'→os=us∧xs=ys
 | [],_,_,_,_,_,h,_,_,_,_=>h.elim
 |_::_,[],_,_,_,_,_,k,_,_,_=>k.elim
 | [ts],[us],xs,ys,r,r',h,k,hr,hr',e=>by
   obtain⟨rfl,rfl,_⟩:=yJe hU (ts:=ts) (us:=us) h k (hr.mono (fun c q=>.inl q)) (hr'.mono (fun c q=>.inl q)) e
   exact⟨rfl,rfl⟩
 | [ts],u1::u2::us,xs,ys,r,r',h,⟨a,z,k1,k2,k3⟩,hr,hr',e=>by
   subst k1
   rw[List.append_assoc,List.cons_append]at e
   obtain⟨_,_,e3⟩:=yJe hU (ts:=ts) (us:=u1) h k2 (hr.mono (fun c q=>.inl q)) (yR _) e
   rcases hr with rfl|⟨c,zs,rfl,hc⟩
   ·cases e3
   ·simp only[List.cons.injEq]at e3
    rw[hc]at e3
    exact absurd e3.1 (by decide)
 |t1::t2::ts,[us],xs,ys,r,r',⟨a,z,h1,h2,h3⟩,k,hr,hr',e=>by
  subst h1
  rw[List.append_assoc,List.cons_append]at e
  obtain⟨_,_,e3⟩:=yJe hU (ts:=t1) (us:=us) h2 k (yR _) (hr'.mono (fun c q=>.inl q)) e
  rcases hr' with rfl|⟨c,zs,rfl,hc⟩
  ·cases e3
  ·simp only[List.cons.injEq]at e3
   rw[hc]at e3
   exact absurd e3.1 (by decide)
 |t1::t2::ts,u1::u2::us,xs,ys,r,r',⟨a,z,h1,h2,h3⟩,⟨b,y,k1,k2,k3⟩,hr,hr',e=>by
  subst h1 k1
  rw[List.append_assoc,List.append_assoc,List.cons_append,List.cons_append]at e
  obtain⟨rfl,rfl,e3⟩:=yJe hU h2 k2 (yR _) (yR _) e
  simp only[List.cons.injEq,true_and]at e3
  obtain⟨e4,rfl⟩:=yQ h3 k3 hr hr' e3
  exact⟨by rw[e4],rfl⟩
end
theorem yRg:∀(n:Nat) {m:Nat} (xs:List UInt8) (t t':Pat),yAz n xs t→yAz m xs t'→t=t'
 |0,_,_,_,_,h,_=>h.elim
 |n+1,0,_,_,_,_,k=>k.elim
 |n+1,m+1,xs,t,t',h,k=>by
  have hu:∀xs t t',yAz n xs t→yAz m xs t'→t=t':=fun xs t t' p q=>yRg n xs t t' p q
  have hc91:∀{p:List UInt8} {i k:Nat} {f:UInt8→Bool},p[i]?=some 91→yAt p (i+1)=.inl (f,k)→∃zs,cut p i k=91::zs:=fun {p i k f} h1 h2=>by
   have hg:=yBv h2
   have:=yCh (p:=p) (i:=i) (j:=i+1) (k:=k) (by omega) (by omega)
   rw[yCt h1]at this
   exact⟨_,this⟩
  rcases h with⟨c,rfl,hs,rfl⟩|⟨rfl,rfl⟩|⟨c,rfl,rfl⟩|⟨ys,os,rfl,h2,rfl⟩|⟨p,i,j,f,h1,h2,h3,rfl⟩<;>
   rcases k with⟨c',k1,ks,rfl⟩|⟨k1,rfl⟩|⟨c',k1,rfl⟩|⟨zs,us,k1,k2,rfl⟩|⟨p',i',j',f',k1,k2,k3,rfl⟩
  ·simp at k1;rw[k1]
  ·simp at k1;subst k1;exact absurd (by unfold yEq;simp) hs
  ·simp at k1
  ·have:=congrArg List.length k1;simp at this
  ·obtain⟨zs,hz⟩:=hc91 k1 k2
   rw[hz]at k3;simp at k3;rw[k3.1]at hs;exact absurd (by unfold yEq;simp) hs
  ·simp at k1;subst k1;exact absurd (by unfold yEq;simp) ks
  ·rfl
  ·simp at k1
  ·have:=congrArg List.length k1;simp at this
  ·obtain⟨zs,hz⟩:=hc91 k1 k2
   rw[hz]at k3;simp at k3
  ·simp at k1
  ·simp at k1
  ·simp at k1;rw[k1]
  ·simp at k1
  ·obtain⟨zs,hz⟩:=hc91 k1 k2
   rw[hz]at k3;simp at k3
  ·have:=congrArg List.length k1;simp at this
  ·have:=congrArg List.length k1;simp at this
  ·simp at k1
  ·simp only[List.cons_append,List.cons.injEq,true_and]at k1
   obtain⟨rfl,_⟩:=yQ hu h2 k2 (.inr ⟨41,[],rfl,rfl⟩) (.inr ⟨41,[],rfl,rfl⟩) k1
   rfl
  ·obtain⟨zs,hz⟩:=hc91 k1 k2
   rw[hz]at k3;simp at k3
  ·obtain⟨zs,hz⟩:=hc91 h1 h2
   rw[hz,k1]at h3;simp at h3;rw[h3.1]at ks;exact absurd (by unfold yEq;simp) ks
  ·obtain⟨zs,hz⟩:=hc91 h1 h2
   rw[hz,k1]at h3;simp at h3
  ·obtain⟨zs,hz⟩:=hc91 h1 h2
   rw[hz,k1]at h3;simp at h3
  ·obtain⟨zs,hz⟩:=hc91 h1 h2
   rw[hz,k1]at h3;simp at h3
  ·have hg:=yBv h2
   have hg':=yBv k2
   have hcut:cut p i j=cut p' i' j':=h3.symm.trans k3
   have hl:j-i=j'-i':=by have:=congrArg List.length hcut;rwa [yBk hg.2,yBk hg'.2]at this
   have hat:∀t,i+t<j→p'[i'+t]?=p[i+t]?:=fun t ht=>by
    have e1:(cut p i j)[t]?=p[i+t]?:=by unfold cut;rw[List.getElem?_take,if_pos (by omega),List.getElem?_drop]
    have e2:(cut p' i' j')[t]?=p'[i'+t]?:=by unfold cut;rw[List.getElem?_take,if_pos (by omega),List.getElem?_drop]
    rw[←e1,←e2,hcut]
   have e:=yFo (q:=p') (j:=i'+1) h2 (fun t ht=>by
    have:=hat (1+t) (by omega)
    rw[show i'+1+t=i'+(1+t)by omega,show i+1+t=i+(1+t)by omega];exact this)
   rw[e]at k2;simp only[Sum.inl.injEq,Prod.mk.injEq]at k2;rw[k2.1]
theorem yZg {os us:List (List Pat)} {xs:List UInt8} (h:AltG (yAz n) os xs) (k:AltG (yAz m) us xs):os=us:=
 (yQ (fun xs t t' p q=>yRg n xs t t' p q) h k (.inl rfl) (.inl rfl) rfl).1
end
def MatB (p s:ByteArray) (b:Bool):Prop:=(¬(yAr (sb p)).1=0∧b=false)∨((yAr (sb p)).1=0∧∃n os,AltG (yAz n) os (sb p)∧(b=true↔s.size≤200∧LgA os (sb s)))
theorem MatB.one {c:Bool} (h:MatB p s b) (k:MatB p s c):b=c:=by
 rcases h with⟨h1,rfl⟩|⟨h1,n,os,h2,h3⟩
 ·rcases k with⟨_,rfl⟩|⟨k1,_⟩
  ·rfl
  ·exact absurd k1 h1
 ·rcases k with⟨k1,_⟩|⟨_,m,us,k2,k3⟩
  ·exact absurd h1 k1
  ·obtain rfl:=yZg h2 k2;rw[Bool.eq_iff_iff,h3,k3]
def SpeB (p s:ByteArray) (w:World) (e:Ending) (w':World):Prop:=∃b:Bool,e=.returned (.bool b)∧Hid (Below w.heap.size w w'∧MatB p s b)
theorem yKv (p s:ByteArray) (w:World) (hpm:p.size≤maxLen):Calls Tryz.prog 148 #[.string p,.string s] w (SpeB p s w):=by
 by_cases hc0:(yAr (sb p)).1=0
 ·obtain⟨os,ho⟩:=yZe p hpm hc0;obtain⟨n,hg⟩:=ho.gr;have ecut:cut (sb p) 0 p.size=sb p:=by unfold cut;rw[List.drop_zero,Nat.sub_zero,←yAd,List.take_length]
  rw[ecut]at hg;by_cases hs:s.size≤200
  ·refine(yM8 p s hpm hc0 hs n os hg w).mono ?_;rintro e w' ⟨b,rfl,H,hb⟩;exact⟨b,rfl,hb,.inr ⟨hc0,n,os,hg,H.trans ⟨fun q=>⟨hs,q⟩,fun q=>q.2⟩⟩⟩
  ·refine(yKu p s hpm (by omega) w).mono ?_;rintro e w' ⟨rfl,hb⟩;exact⟨false,rfl,hb,.inr ⟨hc0,n,os,hg,⟨fun q=>(by cases q),fun q=>absurd q.1 hs⟩⟩⟩
 ·refine(yGu p s hpm hc0 w).mono ?_;rintro e w' ⟨rfl,hb⟩;exact⟨false,rfl,hb,.inl ⟨hc0,rfl⟩⟩
open Classical in
noncomputable def mtB (p s:ByteArray):Bool:=decide (MatB p s true)
theorem yUp (h:MatB p s b):b=mtB p s:=by
 unfold mtB;cases b with
 |true=>exact(@decide_eq_true _ (Classical.propDecidable _) h).symm
 |false=>
  refine(@decide_eq_false _ (Classical.propDecidable _) fun q=>?_).symm;have:=MatB.one h q;cases this
def lsB (a b:ByteArray):Bool:=Op.bytesLess a.toList b.toList
def inS (x:ByteArray) (n:Nd):Bool:= !(lsB x n.s) && (!n.hi || lsB x n.t)
noncomputable def tstB (n:Nd) (c:Ent):Bool:=
 if n.kind=1∨n.kind=3 then true else if n.kind=4 then mtB n.s c.row else if n.kind=5 then mtB n.s c.fam else if n.kind=6 then mtB n.s c.qual else if n.kind=7 then mtB n.s c.val
 else if n.kind=8 then inS c.row n else if n.kind=9 then inS c.qual n else if n.kind=10 then decide (n.lo≤c.ts) && (!n.hi || decide (c.ts<n.up))else false
def colB (a b:Ent):Bool:=(a.fam.toList==b.fam.toList) && (a.qual.toList==b.qual.toList)
def befN (pre:List Ent) (c:Ent):Nat:=pre.countP fun x=>colB x c
noncomputable def keepB (n:Nd) (pre:List Ent) (c:Ent):Bool:=
 if n.kind=11 then decide ((befN pre c:Int)<n.n)else if n.kind=12 then decide ((pre.length:Int)<n.n)else if n.kind=13 then decide (n.n≤(pre.length:Int))else tstB n c
def yBb (n:Nd) (c:Ent):Ent:=if n.kind=3 then {c with val:=⟨#[]⟩}else c
noncomputable def leafG (n:Nd):List Ent→List Ent→List Ent
 |_,[]=> []
 |pre,c::cs=>if keepB n pre c then yBb n c::leafG n (pre++ [c]) cs else leafG n (pre++ [c]) cs
noncomputable def leafM (n:Nd) (row:List Ent):List Ent:=leafG n [] row
def uniM (a b:List Ent):List Ent:=a.foldl into (b.foldl into [])
noncomputable def mean:CT→List Ent→List Ent
 | .leaf n,row=>leafM n row
 | .chain _ a b,row=>mean b (mean a row)
 | .inter _ a b,row=>uniM (mean a row) (mean b row)
 | .cond _ p a b,row=>if mean p row= []then mean b row else mean a row
structure Sub (row l:List Ent):Prop where
 ord:Ord l
 key:∀x∈l,∃y∈row,yAh x y=0
 kind:∀x∈l,x.kind=0
 ok:∀x∈l,x.ok
theorem yGk {a b:Ent} (h:yAh a b=0):yAh b a=0:=by rw[yA2,h];rfl
theorem yOx:∀{row l:List Ent},Ord row→Ord l→(∀x∈l,∃y∈row,yAh x y=0)→l.length≤row.length
 | [],l,_,_,h=>by
   match l,h with
   | [],_=>exact Nat.le_refl _
   |x::l,h=>obtain⟨y,hy,_⟩:=h x (by simp);simp at hy
 |y::row,[],_,_,_=>Nat.zero_le _
 |y::row,x::l,hr,hl,h=>by
  have hr':=List.pairwise_cons.1 hr
  have hl':=List.pairwise_cons.1 hl
  by_cases hz:yAh x y=0
  ·have:l.length≤row.length:=yOx hr'.2 hl'.2 fun z hzl=>by
    obtain⟨u,hu,hk⟩:=h z (List.mem_cons_of_mem _ hzl)
    rcases List.mem_cons.1 hu with rfl|hu
    ·have h1:=hl'.1 z hzl
     have h2:yAh x z=0:=by have:=yCn (c:=z) hz;rw[this];exact yGk hk
     omega
    ·exact⟨u,hu,hk⟩
   simpa using this
  ·have:(x::l).length≤row.length:=yOx hr'.2 hl fun z hzl=>by
    obtain⟨u,hu,hk⟩:=h z hzl;rcases List.mem_cons.1 hu with rfl|hu
    ·exfalso;rcases List.mem_cons.1 hzl with rfl|hzl
     ·exact hz hk
     ·obtain⟨v,hv,hkv⟩:=h x (by simp);rcases List.mem_cons.1 hv with rfl|hv
      ·exact hz hkv
      ·have h1:=hl'.1 z hzl;have h2:=hr'.1 v hv;have h3:yAh x u= -1:=by have a1:=yCn (c:=x) hk;have a2:=yA2 z x;have a3:=yA2 u x;omega
       have h4:yAh u x= -1:=by have a1:=yCn (c:=u) (yGk hkv);have a2:=yA2 v u;have a3:=yA2 u x;have a4:=yA2 u v;have a5:=yA2 x u;omega
       have h5:=yA2 u x;omega
    ·exact⟨u,hu,hk⟩
   exact Nat.le_succ_of_le this
variable {row l:List Ent}
theorem Sub.len (h:Sub row l) (hr:Ord row):l.length≤row.length:=yOx hr h.ord h.key
theorem Sub.trans {m:List Ent} (h:Sub row l) (k:Sub l m):Sub row m:=
 ⟨k.ord,fun x hx=>by
  obtain⟨y,hy,h1⟩:=k.key x hx
  obtain⟨z,hz,h2⟩:=h.key y hy
  exact⟨z,hz,by rw[yCn h1];exact h2⟩,k.kind,k.ok⟩
theorem yIi (n:Nd) (c d:Ent):yAh (yBb n c) d=yAh c d:=by unfold yBb;split<;>rfl
theorem keyCmp_strip' (n:Nd) (c d:Ent):yAh d (yBb n c)=yAh d c:=by unfold yBb;split<;>rfl
theorem yEk (n:Nd):∀(cs pre:List Ent) (x:Ent),x∈leafG n pre cs→∃c∈cs,x=yBb n c
 | [],_,x,h=>by simp[leafG]at h
 |c::cs,pre,x,h=>by
  unfold leafG at h
  split at h
  ·rcases List.mem_cons.1 h with rfl|h
   ·exact⟨c,by simp,rfl⟩
   ·obtain⟨d,hd,e⟩:=yEk n cs _ x h;exact⟨d,List.mem_cons_of_mem _ hd,e⟩
  ·obtain⟨d,hd,e⟩:=yEk n cs _ x h;exact⟨d,List.mem_cons_of_mem _ hd,e⟩
theorem yJx (n:Nd):∀(cs pre:List Ent),Ord cs→Ord (leafG n pre cs)
 | [],_,_=>List.Pairwise.nil
 |c::cs,pre,h=>by
  have h':=List.pairwise_cons.1 h
  unfold leafG
  split
  ·refine List.pairwise_cons.2 ⟨fun x hx=>?_,yJx n cs _ h'.2⟩
   obtain⟨d,hd,rfl⟩:=yEk n cs _ x hx
   rw[yIi,keyCmp_strip']
   exact h'.1 d hd
  ·exact yJx n cs _ h'.2
variable {n:Nd}
theorem yWc {c:Ent} (h:c.ok):(yBb n c).ok:=by
 unfold yBb;split
 ·exact⟨h.row,h.fam,h.qual,Nat.zero_le _,h.ts,h.kind⟩
 ·exact h
theorem yUv (n:Nd) (h:Sub row row):Sub row (leafM n row):=by
 refine⟨yJx n row [] h.ord,fun x hx=>?_,fun x hx=>?_,fun x hx=>?_⟩
 ·obtain⟨c,hc,rfl⟩:=yEk n row [] x hx;exact⟨c,hc,by rw[yIi];exact yB1 c⟩
 ·obtain⟨c,hc,rfl⟩:=yEk n row [] x hx;have:=h.kind c hc;unfold yBb;split<;>exact this
 ·obtain⟨c,hc,rfl⟩:=yEk n row [] x hx;exact yWc (h.ok c hc)
theorem yJ7:∀(a L:List Ent),Ord L→Ord a→Ord (a.foldl into L)∧∀x,x∈a.foldl into L↔x∈a∨(x∈L∧∀y∈a,yAh x y≠0)
 | [],L,h,_=>⟨h,fun x=>by simp⟩
 |e::a,L,h,ha=>by
  have ha':=List.pairwise_cons.1 ha
  obtain⟨h1,h2⟩:=yJ1 e L h
  obtain⟨h3,h4⟩:=yJ7 a (into L e) h1 ha'.2
  refine⟨h3,fun x=>?_⟩
  show x∈a.foldl into (into L e)↔_
  have h5:x∈into L e↔x=e∨(x∈L∧yAh x e≠0):=h2 x
  rw[h4,h5]
  constructor
  ·rintro(h6|⟨rfl|⟨h6,h7⟩,h8⟩)
   ·exact .inl (List.mem_cons_of_mem _ h6)
   ·exact .inl (by simp)
   ·refine .inr ⟨h6,fun y hy=>?_⟩
    rcases List.mem_cons.1 hy with rfl|hy
    ·exact h7
    ·exact h8 y hy
  ·rintro(h6|⟨h6,h7⟩)
   ·rcases List.mem_cons.1 h6 with rfl|h6
    ·exact .inr ⟨.inl rfl,fun y hy q=>by have:=ha'.1 y hy;omega⟩
    ·exact .inl h6
   ·exact .inr ⟨.inr ⟨h6,h7 e (by simp)⟩,fun y hy=>h7 y (List.mem_cons_of_mem _ hy)⟩
variable {a b:List Ent}
theorem yFc (ha:Ord a) (hb:Ord b):Ord (uniM a b)∧∀x,x∈uniM a b↔x∈a∨(x∈b∧∀y∈a,yAh x y≠0):=by obtain⟨h1,h2⟩:=yJ7 b [] List.Pairwise.nil hb;obtain⟨h3,h4⟩:=yJ7 a _ h1 ha;refine⟨h3,fun x=>?_⟩;show x∈a.foldl into (b.foldl into [])↔_;rw[h4,h2];simp
theorem yW (ha:Sub row a) (hb:Sub row b):Sub row (uniM a b):=by
 obtain⟨h1,h2⟩:=yFc ha.ord hb.ord;refine⟨h1,fun x hx=>?_,fun x hx=>?_,fun x hx=>?_⟩
 ·rcases(h2 x).1 hx with h|h
  ·exact ha.key x h
  ·exact hb.key x h.1
 ·rcases(h2 x).1 hx with h|h
  ·exact ha.kind x h
  ·exact hb.kind x h.1
 ·rcases(h2 x).1 hx with h|h
  ·exact ha.ok x h
  ·exact hb.ok x h.1
theorem Sub.self (h:Sub row l):Sub l l:=⟨h.ord,fun x hx=>⟨x,hx,yB1 x⟩,h.kind,h.ok⟩
theorem yA1:∀(t:CT) {row:List Ent},Sub row row→Sub row (mean t row)
 | .leaf n,row,h=>yUv n h
 | .chain _ a b,row,h=>(yA1 a h).trans (yA1 b (yA1 a h).self)
 | .inter _ a b,row,h=>yW (yA1 a h) (yA1 b h)
 | .cond _ p a b,row,h=>by
   unfold mean
   split
   ·exact yA1 b h
   ·exact yA1 a h
def mrgU:Nat→List Ent→List Ent→List Ent
 |0,a,b=>a++b
 |_+1,[],b=>b
 |_+1,a,[]=>a
 |f+1,x::a,y::b=>if yAh x y=1 then y::mrgU f (x::a) b else if yAh x y=0 then x::mrgU f a b else x::mrgU f a (y::b)
theorem yQ2 (f:Nat) (b:List Ent):mrgU f [] b=b:=by cases f<;>simp[mrgU]
theorem yNm (f:Nat) (a:List Ent):mrgU f a []=a:=by cases f<;>cases a<;>simp[mrgU]
theorem yG8:∀(f:Nat) (a b:List Ent),a.length+b.length≤f→Ord a→Ord b→Ord (mrgU f a b)∧∀x,x∈mrgU f a b↔x∈a∨(x∈b∧∀y∈a,yAh x y≠0)
 |f,[],b,_,_,hb=>by rw[yQ2];exact⟨hb,fun x=>by simp⟩
 |f,a,[],_,ha,_=>by rw[yNm];exact⟨ha,fun x=>by simp⟩
 |0,x::a,y::b,h,_,_=>by simp at h
 |f+1,x::a,y::b,h,ha,hb=>by
  have ha':=List.pairwise_cons.1 ha
  have hb':=List.pairwise_cons.1 hb
  simp only[List.length_cons]at h
  rcases yCz x y with hc|hc|hc
  ·have e:mrgU (f+1) (x::a) (y::b)=x::mrgU f a (y::b):=by simp[mrgU,hc]
   obtain⟨i1,i2⟩:=yG8 f a (y::b) (by simp;omega) ha'.2 hb
   rw[e]
   have hlt:∀z∈y::b,yAh x z= -1:=fun z hz=>by
    rcases List.mem_cons.1 hz with rfl|hz
    ·exact hc
    ·exact yD7 hc (hb'.1 z hz)
   refine⟨List.pairwise_cons.2 ⟨fun z hz=>?_,i1⟩,fun z=>?_⟩
   ·rcases(i2 z).1 hz with q|q
    ·exact ha'.1 z q
    ·exact hlt z q.1
   ·rw[List.mem_cons,i2]
    constructor
    ·rintro(rfl|q|⟨q,r⟩)
     ·exact .inl (by simp)
     ·exact .inl (List.mem_cons_of_mem _ q)
     ·refine .inr ⟨q,fun u hu=>?_⟩
      rcases List.mem_cons.1 hu with rfl|hu
      ·have h1:=hlt z q;have h2:=yA2 u z;omega
      ·exact r u hu
    ·rintro(q|⟨q,r⟩)
     ·rcases List.mem_cons.1 q with rfl|q
      ·exact .inl rfl
      ·exact .inr (.inl q)
     ·exact .inr (.inr ⟨q,fun u hu=>r u (List.mem_cons_of_mem _ hu)⟩)
  ·have e:mrgU (f+1) (x::a) (y::b)=x::mrgU f a b:=by simp[mrgU,hc]
   obtain⟨i1,i2⟩:=yG8 f a b (by omega) ha'.2 hb'.2
   rw[e]
   have hlt:∀z∈b,yAh x z= -1:=fun z hz=>by rw[yCn hc];exact hb'.1 z hz
   refine⟨List.pairwise_cons.2 ⟨fun z hz=>?_,i1⟩,fun z=>?_⟩
   ·rcases(i2 z).1 hz with q|q
    ·exact ha'.1 z q
    ·exact hlt z q.1
   ·rw[List.mem_cons,i2]
    constructor
    ·rintro(rfl|q|⟨q,r⟩)
     ·exact .inl (by simp)
     ·exact .inl (List.mem_cons_of_mem _ q)
     ·refine .inr ⟨List.mem_cons_of_mem _ q,fun u hu=>?_⟩
      rcases List.mem_cons.1 hu with rfl|hu
      ·have h1:=hlt z q;have h2:=yA2 u z;omega
      ·exact r u hu
    ·rintro(q|⟨q,r⟩)
     ·rcases List.mem_cons.1 q with rfl|q
      ·exact .inl rfl
      ·exact .inr (.inl q)
     ·rcases List.mem_cons.1 q with rfl|q
      ·exact absurd (yGk hc) (r x (by simp))
      ·exact .inr (.inr ⟨q,fun u hu=>r u (List.mem_cons_of_mem _ hu)⟩)
  ·have e:mrgU (f+1) (x::a) (y::b)=y::mrgU f (x::a) b:=by simp[mrgU,hc]
   obtain⟨i1,i2⟩:=yG8 f (x::a) b (by simp;omega) ha hb'.2
   have hyx:yAh y x= -1:=by have:=yA2 x y;omega
   rw[e]
   have hlt:∀z∈x::a,yAh y z= -1:=fun z hz=>by
    rcases List.mem_cons.1 hz with rfl|hz
    ·exact hyx
    ·exact yD7 hyx (ha'.1 z hz)
   refine⟨List.pairwise_cons.2 ⟨fun z hz=>?_,i1⟩,fun z=>?_⟩
   ·rcases(i2 z).1 hz with q|q
    ·exact hlt z q
    ·exact hb'.1 z q.1
   ·rw[List.mem_cons,i2]
    constructor
    ·rintro(rfl|q|⟨q,r⟩)
     ·exact .inr ⟨by simp,fun u hu=>by have:=hlt u hu;omega⟩
     ·exact .inl q
     ·exact .inr ⟨List.mem_cons_of_mem _ q,r⟩
    ·rintro(q|⟨q,r⟩)
     ·exact .inr (.inl q)
     ·rcases List.mem_cons.1 q with rfl|q
      ·exact .inl rfl
      ·exact .inr (.inr ⟨q,r⟩)
theorem yW0 {f:Nat} (hf:a.length+b.length≤f) (ha:Ord a) (hb:Ord b):mrgU f a b=uniM a b:=by obtain⟨h1,h2⟩:=yG8 f a b hf ha hb;obtain⟨h3,h4⟩:=yFc ha hb;exact yJl h1 h3 fun x=>by rw[h2,h4]
theorem ySk (x:ByteArray) (n:Nd) (w:World):Calls Tryz.prog 149 #[.string x,n.v] w fun e w'=>e=.returned (.bool (inS x n))∧Below w.heap.size w w':=by
 obtain⟨k,s,hi,t,lo,up,nn⟩:=n;unfold inS lsB;cases h1:Op.bytesLess x.toList s.toList<;>cases hi<;>cases h3:Op.bytesLess x.toList t.toList
 all_goals go_enter Tryz.func149,Tryz.ntmps149
 all_goals go_wp2_with fail
 all_goals go_ret
 all_goals exact⟨rfl,qB⟩
theorem yO0 (p s:ByteArray) (w:World) (hp:p.size≤maxLen):Calls Tryz.prog 148 #[.string p,.string s] w fun e w'=>e=.returned (.bool (mtB p s))∧Below w.heap.size w w':=by refine(yKv p s w hp).mono ?_;rintro e w' ⟨b,rfl,H⟩;rw[yUp H.2];exact⟨rfl,H.1⟩
theorem yPk (n:Nd) (c:Ent) (w:World) (hs:n.s.size≤maxLen):Calls Tryz.prog 124 #[n.v,c.c] w fun e w'=>e=.returned (.bool (tstB n c))∧Below w.heap.size w w':=by
 obtain⟨k,s,hi,t,lo,up,nn⟩:=n;have HM:Hid (∀(x:ByteArray) (w:World),Calls Tryz.prog 148 #[.string s,.string x] w fun e w'=>e=.returned (.bool (mtB s x))∧Below w.heap.size w w'):=fun x w=>yO0 s x w hs;have HS:Hid (∀(x:ByteArray) (w:World),Calls Tryz.prog 149 #[.string x,.agg #[.int .i64 k,.string s,.bool hi,.string t,.int .u64 lo,.int .u64 up,.int .i64 nn]] w fun e w'=>e=.returned (.bool (inS x ⟨k,s,hi,t,lo,up,nn⟩))∧Below w.heap.size w w'):=fun x w=>ySk x _ w;have HB:Hid (∀wx:World,Below w.heap.size w wx→Below w.heap.size w wx):=fun _ h=>h;obtain⟨res,hres⟩:=qE (tstB ⟨k,s,hi,t,lo,up,nn⟩ c);have HR:Hid (res=tstB ⟨k,s,hi,t,lo,up,nn⟩ c):=hres;rw[←hres];obtain⟨W2,hW2⟩:=qE ((w.alloc (.cells #[.int .i64 k,.string s,.bool hi,.string t,.int .u64 lo,.int .u64 up,.int .i64 nn] 75)).alloc (.cells #[.string c.row,.string c.fam,.string c.qual,.int .u64 c.ts,.string c.val] 55):World);have HW2:Hid (Below w.heap.size w W2):=by rw[hW2];exact(qB).alloc (by simp) _
 clear hres hs;by_cases h1:k=1
 ·subst h1;have hv:res=true:=HR.trans (by simp[tstB]);exact yYg
 have b1:(k==1)=false:=by rw[beq_eq_false_iff_ne];exact h1
 by_cases h3:k=3
 ·subst h3;have hv:res=true:=HR.trans (by simp[tstB]);exact yYg
 have b3:(k==3)=false:=by rw[beq_eq_false_iff_ne];exact h3
 by_cases h4:k=4
 ·subst h4;have hv:res=mtB s c.row:=HR.trans (by simp[tstB]);go_enter Tryz.func124,Tryz.ntmps124;go_wp2_with fail;rw[←hW2];clear hW2;refine(HM.out c.row W2).mono ?_;exact yRr
 have b4:(k==4)=false:=by rw[beq_eq_false_iff_ne];exact h4
 by_cases h5:k=5
 ·subst h5;have hv:res=mtB s c.fam:=HR.trans (by simp[tstB]);go_enter Tryz.func124,Tryz.ntmps124;go_wp2_with fail;rw[←hW2];clear hW2;refine(HM.out c.fam W2).mono ?_;exact yRr
 have b5:(k==5)=false:=by rw[beq_eq_false_iff_ne];exact h5
 by_cases h6:k=6
 ·subst h6;have hv:res=mtB s c.qual:=HR.trans (by simp[tstB]);go_enter Tryz.func124,Tryz.ntmps124;go_wp2_with fail;rw[←hW2];clear hW2;refine(HM.out c.qual W2).mono ?_;exact yRr
 have b6:(k==6)=false:=by rw[beq_eq_false_iff_ne];exact h6
 by_cases h7:k=7
 ·subst h7;have hv:res=mtB s c.val:=HR.trans (by simp[tstB]);go_enter Tryz.func124,Tryz.ntmps124;go_wp2_with fail;rw[←hW2];clear hW2;refine(HM.out c.val W2).mono ?_;exact yRr
 have b7:(k==7)=false:=by rw[beq_eq_false_iff_ne];exact h7
 by_cases h8:k=8
 ·subst h8;have hv:res=inS c.row ⟨8,s,hi,t,lo,up,nn⟩:=HR.trans (by simp[tstB]);go_enter Tryz.func124,Tryz.ntmps124;go_wp2_with fail;rw[←hW2];clear hW2;refine(HS.out c.row W2).mono ?_;exact yRr
 have b8:(k==8)=false:=by rw[beq_eq_false_iff_ne];exact h8
 by_cases h9:k=9
 ·subst h9;have hv:res=inS c.qual ⟨9,s,hi,t,lo,up,nn⟩:=HR.trans (by simp[tstB]);go_enter Tryz.func124,Tryz.ntmps124;go_wp2_with fail;rw[←hW2];clear hW2;refine(HS.out c.qual W2).mono ?_;exact yRr
 have b9:(k==9)=false:=by rw[beq_eq_false_iff_ne];exact h9
 by_cases h10:k=10
 ·subst h10;have hv:res=(decide (lo≤c.ts) && (!hi || decide (c.ts<up))):=HR.trans (by simp[tstB]);subst hv;by_cases g1:lo≤c.ts<;>cases hi<;>by_cases g2:c.ts<up
  all_goals simp only[g1,g2,decide_true,decide_false,Bool.not_true,Bool.not_false,Bool.true_and,Bool.false_and,Bool.true_or,Bool.false_or]
  all_goals go_enter Tryz.func124,Tryz.ntmps124
  all_goals go_wp2_with fail
  all_goals go_ret
  all_goals exact⟨rfl,(qB).alloc (by simp) _⟩
 have b10:(k==10)=false:=by rw[beq_eq_false_iff_ne];exact h10
 have hv:res=false:=HR.trans (by simp[tstB,h1,h3,h4,h5,h6,h7,h8,h9,h10]);exact yYg
structure CSl (w:World) (b off cap:Nat) (es:List Ent):Prop where
 at_:yBd w b off es
 lt:b<w.heap.size
 len:es.length≤cap
 cap:cap≤maxLen
variable {b:Nat} {es:List Ent}
theorem yBd.chg {S:Nat→Prop} {off:Nat} (h:yBd w b off es) (hc:Chg S w w') (hb:b<w.heap.size) (hn:¬S b):yBd w' b off es:=by intro i e he;obtain⟨h0,h1,h2,h3,h4⟩:=h i e he;exact⟨by rw[hc.cell (p:=⟨b,off+i*5,none⟩) hb hn];exact h0,by rw[hc.cell (p:=⟨b,off+i*5+1,none⟩) hb hn];exact h1,by rw[hc.cell (p:=⟨b,off+i*5+2,none⟩) hb hn];exact h2,by rw[hc.cell (p:=⟨b,off+i*5+3,none⟩) hb hn];exact h3,by rw[hc.cell (p:=⟨b,off+i*5+4,none⟩) hb hn];exact h4⟩
variable {cap:Nat}
theorem CSl.chg {S:Nat→Prop} {off:Nat} (h:CSl w b off cap es) (hc:Chg S w w') (hn:¬S b):CSl w' b off cap es:=⟨h.at_.chg hc h.lt hn,Nat.lt_of_lt_of_le h.lt hc.size,h.len,h.cap⟩
theorem CSl.below {off:Nat} (h:CSl w b off cap es) (hb:Below w.heap.size w w'):CSl w' b off cap es:=h.chg (S:=fun _=>False) (Chg.of_below hb) (fun q=>q)
variable {base:Nat}
theorem OwnC.sl {g:Nat} (h:OwnC w base g cap es):CSl w g 0 cap es:=⟨h.at,h.lt.2,h.caps.1,h.caps.2⟩
theorem CSl.drop {off:Nat} (h:CSl w b off cap es) (hk:k≤es.length):CSl w b (off+k*5) (cap-k) (es.drop k):=by refine⟨fun i e he=>?_,h.lt,by rw[List.length_drop];have:=h.len;omega,by have:=h.cap;omega⟩;rw[List.getElem?_drop]at he;have:=h.at_ (k+i) e he;rw[show off+(k+i)*5=off+k*5+i*5 by omega]at this;exact this
theorem CSl.take {off:Nat} (h:CSl w b off cap es) (hk:k≤es.length):CSl w b off cap (es.take k):=by
 refine⟨fun i e he=>?_,h.lt,by rw[List.length_take];have:=h.len;omega,h.cap⟩;rw[List.getElem?_take]at he;split at he
 ·exact h.at_ i e he
 ·cases he
variable {x:Ent}
theorem yOi {c:Ent} (h:es[j]?=some x):befN (es.take (j+1)) c=befN (es.take j) c+(if colB x c then 1 else 0):=by unfold befN;rw[List.take_add_one,h,Option.toList_some,List.countP_append];simp[List.countP_cons]
theorem yP7 {off:Nat} (h:CSl w b off cap es) {c:Ent} (hi:es[i]?=some c) (hl:es.length≤1048576):Calls Tryz.prog 125 #[.slice (some ⟨b,off,none⟩) es.length cap,.int .i64 (i:Int)] w fun e w'=>e=.returned (.int .i64 (befN (es.take i) c:Int))∧Below w.heap.size w w':=by
 obtain⟨n,hn⟩:=qE es.length;have hin:i<n:=by rw[hn];exact(List.getElem?_eq_some_iff.1 hi).1
 have HL:Hid (CSl w b off cap es∧n=es.length∧es[i]?=some c):=⟨h,hn,hi⟩;rw[←hn];rw[←hn]at hl;clear h hn hi;go_enter Tryz.func125,Tryz.ntmps125;go_wp2_with fail;go_loopw[5,6] (fun kv jv wr=>∃(j:Nat),j≤i∧jv=.int .i64 (j:Int)∧kv=.int .i64 (befN (es.take j) c:Int)∧Hid (Below w.heap.size w wr)) (fun _ jv _=>i-(intOf jv).toNat);case atStart=>exact⟨0,Nat.zero_le _,rfl,rfl,Below.refl _ _⟩
 case round=>
  obtain⟨j,hj,rfl,rfl,HB⟩:=hrel;obtain⟨m,hm⟩:=qE (befN (es.take j) c);have HM:Hid (m=befN (es.take j) c):=hm;have hml:m≤1048576:=by rw[hm];refine Nat.le_trans List.countP_le_length ?_;rw[List.length_take];omega
  rw[←hm];clear hm;by_cases hlt:j<i
  ·have zj:(j:Int)<(i:Int):=by omega
   have zjn:(j:Int)<(n:Int):=by omega
   have zin:(i:Int)<(n:Int):=by omega
   obtain⟨x,hx⟩:∃x,es[j]?=some x:=⟨_,List.getElem?_eq_getElem (by have:=HL.2.1;omega)⟩;have hC:=HL.1.below HB.out;obtain⟨-,f1,f2,-,-⟩:=hC.at_ j x hx;obtain⟨-,g1,g2,-,-⟩:=hC.at_ i c HL.2.2;have hS0:(fun w':World=>w'.cell? ⟨b,off+j*5+1,none⟩=some (.string x.fam)∧w'.cell? ⟨b,off+j*5+2,none⟩=some (.string x.qual)∧w'.cell? ⟨b,off+i*5+1,none⟩=some (.string c.fam)∧w'.cell? ⟨b,off+i*5+2,none⟩=some (.string c.qual)) wr.drew:=⟨f1,f2,g1,g2⟩;have HBd:Hid (Below w.heap.size w wr.drew):=HB.trans (((Below.refl _ _).drew).mono HB.size);have HN:Hid (befN (es.take (j+1)) c=m+(if colB x c then 1 else 0)):=by rw[HM.out];exact yOi hx
   clear f1 f2 g1 g2 hC hx;cases hf:(x.fam.toList==c.fam.toList)
   ·have HN2:Hid (befN (es.take (j+1)) c=m):=by show _=_;have:=HN.out;unfold colB at this;rw[hf]at this;simpa using this
    go_upto_region 5 with fail;refine yAb 99 (fun w':World=>w'.cell? ⟨b,off+j*5+1,none⟩=some (.string x.fam)∧w'.cell? ⟨b,off+j*5+2,none⟩=some (.string x.qual)∧w'.cell? ⟨b,off+i*5+1,none⟩=some (.string c.fam)∧w'.cell? ⟨b,off+i*5+2,none⟩=some (.string c.qual)) (by kernel_rfl) ?_;refine j0a 0 hS0 ?_;iterate 23 refine j0b hS0 ?_
    refine qD ?_;go_wp2_with fail;go_roundw;case rel=>exact⟨j+1,by omega,by go_num,by rw[HN2.out],HBd.out⟩
    case measure=>go_light;simp[intOf];omega
   ·cases hq:(x.qual.toList==c.qual.toList)
    ·have HN2:Hid (befN (es.take (j+1)) c=m):=by show _=_;have:=HN.out;unfold colB at this;rw[hf,hq]at this;simpa using this
     exact zzQ39
    ·have HN2:Hid (befN (es.take (j+1)) c=m+1):=by show _=_;have:=HN.out;unfold colB at this;rw[hf,hq]at this;simpa using this
     exact zzQ39
  ·obtain rfl:j=i:=by omega
   have zj:¬(j:Int)<(j:Int):=by omega
   go_wp2_with fail;go_ret;exact⟨by rw[HM.out];rfl,HB.out⟩
def yEt (es:List Ent) (i k:Nat):Bool:=(es[k]?.map fun x=>x.row.toList)==(es[i]?.map fun x=>x.row.toList)
def yKx (es:List Ent) (i:Nat):Nat→Nat→Nat
 |0,j=>j
 |f+1,j=>if j<es.length then(if yEt es i j then yKx es i f (j+1)else j)else j
def rEnd (es:List Ent) (i:Nat):Nat:=yKx es i (es.length-i) i
structure yIy (es:List Ent) (i j:Nat):Prop where
 lt:i<j
 le:j≤es.length
 same:∀k,i≤k→k<j→yEt es i k=true
 other:j<es.length→yEt es i j=false
theorem yQs (h:yIy es i j):∀(f k:Nat),i≤k→k≤j→j-k≤f→yKx es i f k=j
 |0,k,_,hk,hf=>by unfold yKx;omega
 |f+1,k,h1,hk,hf=>by
  unfold yKx
  by_cases hkj:k=j
  ·subst hkj
   by_cases hl:k<es.length
   ·rw[if_pos hl,h.other hl];rfl
   ·rw[if_neg hl]
  ·have hlt:k<j:=by omega
   rw[if_pos (by have:=h.le;omega),h.same k h1 hlt,if_pos rfl]
   exact yQs h f (k+1) (by omega) (by omega) (by omega)
theorem yZ (h:yIy es i j):rEnd es i=j:=yQs h _ i (Nat.le_refl _) (Nat.le_of_lt h.lt) (by have:=h.le;omega)
def yH0 (es:List Ent):Nat→Nat→List (Nat×Nat)
 |0,_=> []
 |f+1,i=>if i<es.length then(i,rEnd es i)::yH0 es f (rEnd es i)else []
def allC (es:List Ent) (i:Nat):List (Nat×Nat):=yH0 es (es.length-i) i
theorem yLm (hE:∀i,i<es.length→i<rEnd es i):∀(f g i:Nat),es.length-i≤f→es.length-i≤g→yH0 es f i=yH0 es g i
 |0,0,i,_,_=>rfl
 |0,g+1,i,h1,_=>by unfold yH0;rw[if_neg (by omega)]
 |f+1,0,i,_,h2=>by unfold yH0;rw[if_neg (by omega)]
 |f+1,g+1,i,h1,h2=>by
  unfold yH0
  by_cases hi:i<es.length
  ·rw[if_pos hi,if_pos hi]
   have:=hE i hi
   rw[yLm hE f g (rEnd es i) (by omega) (by omega)]
  ·rw[if_neg hi,if_neg hi]
theorem yQr (es:List Ent) (i:Nat):∀(f k:Nat),k≤yKx es i f k
 |0,k=>Nat.le_refl _
 |f+1,k=>by
  unfold yKx
  split
  ·split
   ·exact Nat.le_trans (Nat.le_succ k) (yQr es i f (k+1))
   ·exact Nat.le_refl _
  ·exact Nat.le_refl _
theorem yT0 (hi:i<es.length):i<rEnd es i:=by unfold rEnd;obtain⟨f,hf⟩:∃f,es.length-i=f+1:=⟨es.length-i-1,by omega⟩;rw[hf];unfold yKx;rw[if_pos hi,show yEt es i i=true by simp[yEt],if_pos rfl];exact yQr es i f (i+1)
theorem yKm (h:yIy es i j):allC es i=(i,j)::allC es j:=by
 have hi:i<es.length:=by have:=h.lt;have:=h.le;omega
 unfold allC;obtain⟨f,hf⟩:∃f,es.length-i=f+1:=⟨es.length-i-1,by omega⟩;rw[hf];conv=>lhs;unfold yH0
 rw[if_pos hi,yZ h];rw[yLm (fun i hi=>yT0 hi) f (es.length-j) j (by have:=h.lt;omega) (Nat.le_refl _)]
theorem yOj (h:es.length≤i):allC es i= []:=by unfold allC;rw[show es.length-i=0 by omega];rfl
def segE (es:List Ent) (p:Nat×Nat):List Ent:=(es.take p.2).drop p.1
theorem CSl.seg {off:Nat} (h:CSl w b off cap es) (hij:i≤j) (hj:j≤es.length):CSl w b (off+i*5) (cap-i) (segE es (i,j)):=(h.take hj).drop (by rw[List.length_take];omega)
theorem yQl (hj:j≤es.length):(segE es (i,j)).length=j-i:=by unfold segE;rw[List.length_drop,List.length_take];simp only;omega
theorem yGy (h:Sub es es) (p:Nat×Nat):Sub (segE es p) (segE es p):=by have hs:(segE es p).Sublist es:=(List.drop_sublist _ _).trans (List.take_sublist _ _);exact⟨h.ord.sublist hs,fun x hx=>⟨x,hx,yB1 x⟩,fun x hx=>h.kind x (hs.subset hx),fun x hx=>h.ok x (hs.subset hx)⟩
noncomputable def meanAll (t:CT) (es:List Ent):List Ent:=(allC es 0).flatMap fun p=>mean t (segE es p)
def segV (b off cap:Nat) (p:Nat×Nat):Value:=.slice (some ⟨b,off+p.1*5,none⟩) (p.2-p.1) (cap-p.1)
def yE1 (w:World) (base g cp:Nat) (us:List Value):Prop:=w.ownsRow base 28 1 (.slice (some ⟨g,0,none⟩) us.length cp) us.length us
variable {us:List Value}
theorem yE1.lt {g:Nat} (h:yE1 w base g cp us):base≤g∧g<w.heap.size:=World.ownsRow.lt h g rfl
theorem yE1.below {g:Nat} (h:yE1 w base g cp us) (hb:Below w.heap.size w w'):yE1 w' base g cp us:=yAp h (Chg.of_below hb) (S:=fun _=>False) (fun k q z=>z)
theorem yE1.cell {g:Nat} (h:yE1 w base g cp us) {v:Value} (hv:us[j]?=some v):w.cell? ⟨g,j,none⟩=some v:=by have:=World.ownsRow.cellAt h j (by have:=(List.getElem?_eq_some_iff.1 hv).1;omega);rw[this,hv]
theorem yT9 (w:World) (hb:base≤w.heap.size):yE1 (w.alloc (Obj.cells #[] 28)) base w.heap.size 0 []:=
 World.ownsRow_made w #[] 0 hb (Nat.zero_le _) (by simp)
theorem Tryz.infoCs:(Tryz.prog.info? 28).map (fun i=>(i.zero,i.size,i.bytes))=some (some (.slice none 0 0),1,24):=by kernel_rfl
theorem yE3 {ops:Array Oper} {rest:List Oper} {oo:Oper} {a:Act} {Q:Exit→Act→World→Prop} (w:World) (hgd:oo.guard=none) (s x:Operand)
  (ho:oo.op=.call {callee:=.builtin .append,args:=#[s,x],argTypes:=#[92,92]})
  (base gq cp n b:Nat) (us:List Value) (y:Value) (hs:a.eval s=.slice (some ⟨gq,0,none⟩) n cp) (hx:a.eval x=.slice (some ⟨b,0,none⟩) 1 1) (hn:n=us.length) (hO:yE1 w base gq cp us)
  (hc:w.cell? ⟨b,0,none⟩=some y) (hy:y.oneCell'=true) (hlen:us.length≤1048576) (hbase:base≤w.heap.size)
  (h:∀g' cp' w',yE1 w' base g' cp' (us++ [y])→w.grownBy w' (some gq)→(g'=gq∨g'=w.heap.size)→wpList Tryz.prog ops Q rest (a.put oo.dst (.slice (some ⟨g',0,none⟩) (n+1) cp')) w'):wpList Tryz.prog ops Q (oo::rest) a w:=by
 subst hn;obtain⟨i,hi,hz0,hz1,hz2⟩:=info_parts Tryz.infoCs;refine wpList_append_own_at w hgd s x 92 ho base 28 i _ 1 24 Tryz.underlying92 hi hz0 hz1 hz2 rfl (by decide) (.slice (some ⟨gq,0,none⟩) us.length cp) us.length us hs hO ⟨b,0,none⟩ 1 1 [y] hx rfl ?_ ?_ ?_ ?_ hbase ?_
 ·exact yV0
 ·intro u hu;simp at hu;subst hu;exact hy
 ·unfold maxLen;omega
 ·omega
 ·intro v' w' hO' hgr hnil hat;rcases hO'.2 with⟨h0,_⟩|⟨g',cap',cur,hv,_,_,hn,hcap,_,_⟩
  ·have:=(hnil.1 h0).1;cases this
  ·subst hv;refine h g' cap' w' ?_ hgr ?_
   ·unfold yE1;rw[List.length_append];exact hO'
   ·simp[Value.ownBlock]at hat;exact hat
theorem yPl {off:Nat} (h:CSl w b off cap es) (hl:es.length≤1048576):Calls Tryz.prog 53 #[.slice (some ⟨b,off,none⟩) es.length cap] w fun e w'=>∃g cp,e=.returned (.slice (some ⟨g,0,none⟩) (allC es 0).length cp)∧yE1 w' w.heap.size g cp ((allC es 0).map (segV b off cap))∧Below w.heap.size w w':=by
 obtain⟨N,hN⟩:=qE es.length;have HL:Hid (CSl w b off cap es∧N=es.length):=⟨h,hN⟩;have hNc:N≤cap:=by rw[hN];exact h.len
 have hcm:cap≤9223372036854775807:=by have:=h.cap;unfold maxLen at this;omega
 obtain⟨A,hA⟩:=qE (allC es 0);have HA:Hid (A=allC es 0):=hA;rw[←hN,←hA];rw[←hN]at hl;have HO0:Hid (yE1 (w.alloc (Obj.cells #[] 28)) w.heap.size w.heap.size 0 []∧Below w.heap.size w (w.alloc (Obj.cells #[] 28))):=⟨yT9 w (Nat.le_refl _),qB⟩;clear h hN hA;go_enter Tryz.func53,Tryz.ntmps53;go_wp2_with fail;go_loopw[3,4] (fun o iv wr=>∃(i g cp m:Nat),i≤N∧iv=.int .i64 (i:Int)∧o=.slice (some ⟨g,0,none⟩) m cp∧m≤i∧Hid (∃P,A=P++allC es i∧m=P.length∧yE1 wr w.heap.size g cp (P.map (segV b off cap))∧Below w.heap.size w wr)) (fun _ iv _=>N-(intOf iv).toNat);case atStart=>exact⟨0,w.heap.size,0,0,Nat.zero_le _,rfl,rfl,Nat.le_refl _,[],HA.out,rfl,HO0.1,HO0.2⟩
 case round=>
  obtain⟨i,g,cp,m,hiN,rfl,rfl,hmi,HJ⟩:=hrel;by_cases hlt:i<N
  ·have zi:(i:Int)<(N:Int):=by omega
   obtain⟨c,hc⟩:∃c,es[i]?=some c:=⟨_,List.getElem?_eq_getElem (by have:=HL.2;omega)⟩;have HCi:Hid (es[i]?=some c):=hc;obtain⟨P,hP⟩:=HJ.out;have HP:Hid (A=P++allC es i∧m=P.length∧yE1 wr w.heap.size g cp (P.map (segV b off cap))∧Below w.heap.size w wr):=hP;clear hP HJ hc;obtain⟨wo,hwo⟩:=qE (wr:World);subst hwo;go_wp2_with fail;go_loopw[5] (fun jv wx=>∃j:Nat,i≤j∧j≤N∧jv=.int .i64 (j:Int)∧Hid ((∀k,i≤k→k<j→yEt es i k=true)∧Below wo.heap.size wo wx)) (fun jv _=>N-(intOf jv).toNat);case atStart=>exact⟨i,Nat.le_refl _,by omega,rfl,fun k h1 h2=>by omega,Below.refl _ _⟩
   case round=>
    obtain⟨j,hij,hjN,rfl,HQ⟩:=hrel;have HBw:Hid (Below w.heap.size w wr):=HP.2.2.2.trans (HQ.2.mono HP.2.2.2.size);by_cases hjl:j<N
    ·have zj:(j:Int)<(N:Int):=by omega
     obtain⟨x,hx⟩:∃x,es[j]?=some x:=⟨_,List.getElem?_eq_getElem (by have:=HL.2;omega)⟩;have f0:=((HL.1.below HBw.out).at_ j x hx).1;have f1:=((HL.1.below HBw.out).at_ i c HCi.out).1;have hS0:(fun w':World=>w'.cell? ⟨b,off+j*5,none⟩=some (.string x.row)∧w'.cell? ⟨b,off+i*5,none⟩=some (.string c.row)) wr.drew:=⟨f0,f1⟩;have HBd:Hid (Below wo.heap.size wo wr.drew):=HQ.2.trans (((Below.refl _ _).drew).mono HQ.2.size);have HSame:Hid (yEt es i j=(x.row.toList==c.row.toList)):=by show yEt es i j=_;unfold yEt;rw[hx,HCi.out];rfl
     clear f0 f1 hx;cases hr:(x.row.toList==c.row.toList)
     ·have HE:Hid (yIy es i j):=by
       have h0:=HSame.out;rw[hr]at h0;have hne:¬i=j:=fun q=>by subst q;rw[show yEt es i i=true by simp[yEt]]at h0;cases h0
       exact⟨by omega,by rw[←HL.2];omega,HQ.1,fun _=>h0⟩
      go_upto_region 5 with fail;refine yAb 99 (fun w':World=>w'.cell? ⟨b,off+j*5,none⟩=some (.string x.row)∧w'.cell? ⟨b,off+i*5,none⟩=some (.string c.row)) (by kernel_rfl) ?_;refine j2a 0 hS0 ?_;iterate 16 refine j2b hS0 ?_
      refine qD ?_;have HX:Hid (A=(P++ [(i,j)])++allC es j):=by show _=_;rw[HP.1,yKm HE.out];simp
      have hij2:i≤j:=hij;have HPl:Hid (m=(P.map (segV b off cap)).length):=by rw[List.length_map];exact HP.2.1
      have hbz:=HP.2.2.2.size;have hlt3:=HP.2.2.1.lt;have hbd:=HBd.size;go_wp2_with (at_builtin;refine yE3 _ rfl _ _ rfl w.heap.size g cp _ _ (P.map (segV b off cap)) (segV b off cap (i,j)) rfl rfl HPl.out ?hO ?hc ?hy ?hl ?hb ?_);case hO=>exact(HP.2.2.1.below HBd.out).below (qB)
      case hc=>simp[go_sem,segV]
      case hy=>rfl
      case hl=>(have h9:=HP.2.1;simp;omega)
      case hb=>exact Nat.le_succ_of_le (HP.2.2.2.trans (HBd.mono hbz)).size
      exact zzQ31
     ·have HS2:Hid (∀k,i≤k→k<j+1→yEt es i k=true):=fun k h1 h2=>by
       by_cases hk:k=j
       ·rw[hk,HSame.out];exact hr
       ·exact HQ.1 k h1 (by omega)
      go_upto_region 5 with fail;refine yAb 99 (fun w':World=>w'.cell? ⟨b,off+j*5,none⟩=some (.string x.row)∧w'.cell? ⟨b,off+i*5,none⟩=some (.string c.row)) (by kernel_rfl) ?_;refine j2a 0 hS0 ?_;iterate 16 refine j2b hS0 ?_
      refine qD ?_;go_wp2_with fail;go_roundw;case rel=>exact⟨j+1,by omega,by omega,by go_num,HS2.out,HBd.out⟩
      case measure=>go_light;simp[intOf];omega
    ·obtain rfl:j=N:=by omega
     have zj:¬(j:Int)<(j:Int):=by omega
     have HBd:Hid (Below wo.heap.size wo wr.drew):=HQ.2.trans (((Below.refl _ _).drew).mono HQ.2.size);have HE:Hid (yIy es i j):=⟨hlt,by rw[←HL.2];omega,HQ.1,fun q=>by rw[←HL.2]at q;omega⟩;have hS0:(fun _:World=>True) wr.drew:=trivial;go_upto_region 5 with fail;refine yAb 99 (fun _:World=>True) (by kernel_rfl) ?_;refine j3a 0 hS0 ?_;iterate 16 refine j3b hS0 ?_
     refine qD ?_;have HX:Hid (A=(P++ [(i,j)])++allC es j):=by show _=_;rw[HP.1,yKm HE.out];simp
     have hij2:i≤j:=hij;have HPl:Hid (m=(P.map (segV b off cap)).length):=by rw[List.length_map];exact HP.2.1
     have hbz:=HP.2.2.2.size;have hlt3:=HP.2.2.1.lt;have hbd:=HBd.size;go_wp2_with (at_builtin;refine yE3 _ rfl _ _ rfl w.heap.size g cp _ _ (P.map (segV b off cap)) (segV b off cap (i,j)) rfl rfl HPl.out ?hO ?hc ?hy ?hl ?hb ?_);case hO=>exact(HP.2.2.1.below HBd.out).below (qB)
     case hc=>simp[go_sem,segV]
     case hy=>rfl
     case hl=>(have h9:=HP.2.1;simp;omega)
     case hb=>exact Nat.le_succ_of_le (HP.2.2.2.trans (HBd.mono hbz)).size
     exact zzQ31
  ·obtain rfl:i=N:=by omega
   have zi:¬(i:Int)<(i:Int):=by omega
   obtain⟨P,hP⟩:=HJ.out;have HE:Hid (A=P∧m=P.length∧yE1 wr w.heap.size g cp (P.map (segV b off cap))∧Below w.heap.size w wr):=⟨by rw[hP.1,yOj (by rw[←HL.2];omega),List.append_nil],hP.2⟩;clear hP HJ;go_wp2_with fail;go_ret;refine⟨g,cp,?_,?_,HE.2.2.2⟩
   ·rw[HE.1,←HE.2.1];rfl
   ·rw[HE.1];exact HE.2.2.1
theorem yIg (n:Nd):∀(a pre b:List Ent),leafG n pre (a++b)=leafG n pre a++leafG n (pre++a) b
 | [],pre,b=>by simp[leafG]
 |c::a,pre,b=>by
  have ih:=yIg n a (pre++ [c]) b
  simp only[List.cons_append,leafG]
  split<;>simp[ih]
theorem yJv (n:Nd) {c:Ent} (h:es[i]?=some c):leafG n [] (es.take (i+1))=leafG n [] (es.take i)++(if keepB n (es.take i) c then [yBb n c]else []):=by rw[List.take_add_one,h,Option.toList_some,yIg];simp only[List.nil_append,leafG]
theorem yH (n:Nd):∀(a pre:List Ent),(leafG n pre a).length≤a.length
 | [],_=>Nat.le_refl _
 |c::a,pre=>by
  have:=yH n a (pre++ [c])
  unfold leafG
  split<;>simp<;>omega
structure LfJ (w:World) (n:Nd) (b off cap:Nat) (es:List Ent) (g cp:Nat) (L:List Ent) (wr:World):Prop where
 own:OwnC wr w.heap.size g cp L
 box:yA wr w.heap.size 75 7 w.heap.size n.seven
 row:CSl wr b off cap es
 low:b<w.heap.size
 below:Below w.heap.size w wr
variable {L:List Ent}
theorem LfJ.move {off:Nat} {g:Nat} {wr:World} (h:LfJ w n b off cap es g cp L wr) (hb:Below wr.heap.size wr w'):LfJ w n b off cap es g cp L w':=
 ⟨h.own.below hb h.own.lt.2,h.box.below hb,h.row.below hb,h.low,h.below.trans (hb.mono h.below.size)⟩
theorem LfJ.push {off:Nat} {g:Nat} {L':List Ent} {X:World} (h:LfJ w n b off cap es g cp L X) (hO:OwnC w' w.heap.size g' cp' L') (hg:X.grownBy w' (some g)):LfJ w n b off cap es g' cp' L' w':=by have hc:Chg (fun k=>k=g) X w':=Chg.of_grown hg (fun k q=>by cases q;rfl);have hgl:=h.own.lt;have hlo:=h.low;refine⟨hO,h.box.chg hc (fun q=>yAo h.own h.box (by decide) g rfl (by rw[←q];rfl)),h.row.chg hc (by omega),hlo,?_⟩;exact h.below.grown hg h.below.size (fun j hj=>by cases hj;omega)
theorem LfJ.set {off:Nat} {g:Nat} {X:World} (h:LfJ w n b off cap es g cp L X) (hk:w.heap.size<k) (hg:¬g=k) (j:Nat) (u:Value):LfJ w n b off cap es g cp L (X.setCell ⟨k,j,none⟩ u):=by have hc:Chg (fun q=>q=k) X (X.setCell ⟨k,j,none⟩ u):=Chg.of_set _ _ _ _ rfl;have hlo:=h.low;have hs:=h.below.size;exact⟨yAp h.own hc (fun q z=>by simp[Value.ownBlock]at z;subst z;exact hg),h.box.chg hc (by omega),h.row.chg hc (by omega),hlo,Chg.below h.below hc hs (fun q z=>by omega)⟩
theorem yPm (n:Nd) (hns:n.s.size≤maxLen) {off:Nat} (h:CSl w b off cap es) (hl:es.length≤1048576):Calls Tryz.prog 98 #[n.v,.slice (some ⟨b,off,none⟩) es.length cap] w fun e w'=>∃g cp,e=.returned (.slice (some ⟨g,0,none⟩) (leafM n es).length cp)∧OwnC w' w.heap.size g cp (leafM n es)∧Below w.heap.size w w':=by
 obtain⟨N,hN⟩:=qE es.length;have HL:Hid (N=es.length):=hN;have HLM:Hid (leafM n es=leafG n [] (es.take N)):=by show _=_;rw[hN,List.take_length];rfl
 have HTs:Hid (∀(c:Ent) (w:World),Calls Tryz.prog 124 #[n.v,c.c] w fun e w'=>e=.returned (.bool (tstB n c))∧Below w.heap.size w w'):=fun c w=>yPk n c w hns;obtain⟨W0,hW0⟩:=qE ((w.alloc (.cells n.seven.toArray 75)).alloc (.cells #[] 55):World);have HJ0:Hid (LfJ w n b off cap es (w.heap.size+1) 0 [] W0):=by
  have k1:Below w.heap.size w (w.alloc (.cells n.seven.toArray 75)):=qB;have k2:Below (w.alloc (.cells n.seven.toArray 75)).heap.size (w.alloc (.cells n.seven.toArray 75)) W0:=by rw[hW0];exact qB
  have k3:Below w.heap.size w W0:=k1.trans (k2.mono k1.size);refine⟨?_,(yAa w _ (Nat.le_refl _) rfl).below k2,h.below k3,h.lt,k3⟩;have:=yC7 (w.alloc (.cells n.seven.toArray 75));rw[hW0];have e:(w.alloc (.cells n.seven.toArray 75)).heap.size=w.heap.size+1:=by simp
  rw[e]at this;exact this.mono (by omega)
 rw[←hN];rw[←hN]at hl;obtain⟨k,s,hi,t,lo,up,nn⟩:=n;clear h hns;go_enter Tryz.func98,Tryz.ntmps98;go_wp2_with fail;have hW0':=hW0;simp only[Nd.seven]at hW0';rw[←hW0'];clear hW0 hW0' hN;go_loopw[5,6] (fun o iv wr=>∃(i g cp m:Nat),i≤N∧iv=.int .i64 (i:Int)∧o=.slice (some ⟨g,0,none⟩) m cp∧Hid (m=(leafG ⟨k,s,hi,t,lo,up,nn⟩ [] (es.take i)).length∧LfJ w ⟨k,s,hi,t,lo,up,nn⟩ b off cap es g cp (leafG ⟨k,s,hi,t,lo,up,nn⟩ [] (es.take i)) wr)) (fun _ iv _=>N-(intOf iv).toNat);case atStart=>exact⟨0,w.heap.size+1,0,0,Nat.zero_le _,rfl,rfl,rfl,HJ0.out⟩
 case round=>
  obtain⟨i,g,cp,m,hiN,rfl,rfl,HJ⟩:=hrel;by_cases hlt:i<N
  ·have zi:(i:Int)<(N:Int):=by omega
   obtain⟨c,hc⟩:∃c,es[i]?=some c:=⟨_,List.getElem?_eq_getElem (by have:=HL.out;omega)⟩;have HStep:Hid (leafG ⟨k,s,hi,t,lo,up,nn⟩ [] (es.take (i+1))=leafG ⟨k,s,hi,t,lo,up,nn⟩ [] (es.take i)++(if keepB ⟨k,s,hi,t,lo,up,nn⟩ (es.take i) c then [yBb ⟨k,s,hi,t,lo,up,nn⟩ c]else [])):=yJv _ hc;have HC:Hid (es[i]?=some c):=hc;have HMl:Hid (m=(leafG ⟨k,s,hi,t,lo,up,nn⟩ [] (es.take i)).length):=HJ.1;have hml:m≤1048576:=by rw[HJ.1];refine Nat.le_trans (yH _ _ _) ?_;rw[List.length_take];omega
   obtain⟨c0,c1,c2,c3,c4⟩:=HJ.2.row.at_ i c hc;obtain⟨W1,hW1⟩:=qE (wr.alloc (.cells #[.string c.row,.string c.fam,.string c.qual,.int .u64 c.ts,.string c.val] 55):World);have hb1:Below wr.heap.size wr W1:=by rw[hW1];exact qB
   obtain⟨cb,hcb⟩:=qE wr.heap.size;have HB1:Hid (LfJ w ⟨k,s,hi,t,lo,up,nn⟩ b off cap es g cp (leafG ⟨k,s,hi,t,lo,up,nn⟩ [] (es.take i)) W1∧yA W1 w.heap.size 55 5 cb c.five∧g<cb∧w.heap.size<cb):=by refine⟨HJ.2.move hb1,?_,by rw[hcb];exact HJ.2.own.lt.2,by rw[hcb];exact HJ.2.box.lt.2⟩;rw[hW1,hcb];exact yAa wr #[.string c.row,.string c.fam,.string c.qual,.int .u64 c.ts,.string c.val] HJ.2.below.size rfl
   go_upto_region 6 with fail;rw[←hW1,←hcb];clear hW1 hcb hb1 c0 c1 c2 c3 c4 hc;obtain⟨n0,n1,n2,n3,n4,n5,n6⟩:=HB1.1.box.c7;obtain⟨c0,c1,c2,c3,c4⟩:=HB1.2.1.c5;go_wp2_with fail;refine(HTs.out c W1).mono ?_;rintro e w2 ⟨rfl,hb2⟩;have HB2:Hid (LfJ w ⟨k,s,hi,t,lo,up,nn⟩ b off cap es g cp (leafG ⟨k,s,hi,t,lo,up,nn⟩ [] (es.take i)) w2∧yA w2 w.heap.size 55 5 cb c.five∧g<cb∧w.heap.size<cb):=⟨HB1.1.move hb2,HB1.2.1.below hb2,HB1.2.2⟩;clear n0 n1 n2 n3 n4 n5 n6 c0 c1 c2 c3 c4 hb2 HB1 HJ;obtain⟨tb,htb⟩:=qE (tstB ⟨k,s,hi,t,lo,up,nn⟩ c);have HTb:Hid (tb=tstB ⟨k,s,hi,t,lo,up,nn⟩ c):=htb;rw[←htb];clear htb;have n0:=HB2.1.box.cell (j:=0) rfl;have n6:=HB2.1.box.cell (j:=6) rfl;dsimp only at n0 n6;have HM:Hid (m=(leafG ⟨k,s,hi,t,lo,up,nn⟩ [] (es.take i)).length):=HMl.out;by_cases h12:k=12
   ·subst h12;have hlenT:((es.take i).length:Int)=(i:Int):=by rw[List.length_take];have:=HL.out;omega
    by_cases gq:(i:Int)<nn
    ·have HSt:Hid (leafG ⟨12,s,hi,t,lo,up,nn⟩ [] (es.take (i+1))=leafG ⟨12,s,hi,t,lo,up,nn⟩ [] (es.take i)++ [c]):=by
      show _=_;have hk:keepB ⟨12,s,hi,t,lo,up,nn⟩ (es.take i) c=true:=by simp only[keepB,hlenT];simp[gq]
      rw[HStep.out,hk,if_pos rfl];rfl
     clear hlenT;obtain⟨d0,d1,d2,d3,d4⟩:=HB2.2.1.c5;have HKm:Hid (m=(leafG ⟨12,s,hi,t,lo,up,nn⟩ [] (es.take i)).length):=HM.out;go_wp2_with (at_builtin;refine yAj _ rfl _ _ rfl w.heap.size g cp _ _ (leafG ⟨12,s,hi,t,lo,up,nn⟩ [] (es.take i)) c rfl rfl HKm.out ?hO ?hc ?hl ?hb ?_);case hO=>exact HB2.1.own.below (qB) HB2.1.own.lt.2
     case hc=>exact yBw w2 c
     case hl=>rw[←HKm.out];omega
     case hb=>have:=HB2.1.below.size;simp;omega
     intro g' cp' w' hO' hgr;have HN:Hid (m+1=(leafG ⟨12,s,hi,t,lo,up,nn⟩ [] (es.take (i+1))).length∧LfJ w ⟨12,s,hi,t,lo,up,nn⟩ b off cap es g' cp' (leafG ⟨12,s,hi,t,lo,up,nn⟩ [] (es.take (i+1))) w'):=by rw[HSt.out];exact⟨by rw[List.length_append,←HKm.out];rfl,(HB2.1.move (qB)).push hO' hgr⟩
     exact yRs
    ·have HSt:Hid (leafG ⟨12,s,hi,t,lo,up,nn⟩ [] (es.take (i+1))=leafG ⟨12,s,hi,t,lo,up,nn⟩ [] (es.take i)):=by
      show _=_;have hk:keepB ⟨12,s,hi,t,lo,up,nn⟩ (es.take i) c=false:=by simp only[keepB,hlenT];simp[gq]
      rw[HStep.out,hk,if_neg (by decide),List.append_nil]
     clear hlenT;have HN:Hid (m=(leafG ⟨12,s,hi,t,lo,up,nn⟩ [] (es.take (i+1))).length∧LfJ w ⟨12,s,hi,t,lo,up,nn⟩ b off cap es g cp (leafG ⟨12,s,hi,t,lo,up,nn⟩ [] (es.take (i+1))) w2):=by rw[HSt.out];exact⟨HM.out,HB2.1⟩
     exact yS8
   have b12:(k==12)=false:=by rw[beq_eq_false_iff_ne];exact h12
   by_cases h13:k=13
   ·subst h13;have hlenT:((es.take i).length:Int)=(i:Int):=by rw[List.length_take];have:=HL.out;omega
    by_cases gq:nn≤(i:Int)
    ·have HSt:Hid (leafG ⟨13,s,hi,t,lo,up,nn⟩ [] (es.take (i+1))=leafG ⟨13,s,hi,t,lo,up,nn⟩ [] (es.take i)++ [c]):=by
      show _=_;have hk:keepB ⟨13,s,hi,t,lo,up,nn⟩ (es.take i) c=true:=by simp only[keepB,hlenT];simp[gq]
      rw[HStep.out,hk,if_pos rfl];rfl
     clear hlenT;obtain⟨d0,d1,d2,d3,d4⟩:=HB2.2.1.c5;have HKm:Hid (m=(leafG ⟨13,s,hi,t,lo,up,nn⟩ [] (es.take i)).length):=HM.out;go_wp2_with (at_builtin;refine yAj _ rfl _ _ rfl w.heap.size g cp _ _ (leafG ⟨13,s,hi,t,lo,up,nn⟩ [] (es.take i)) c rfl rfl HKm.out ?hO ?hc ?hl ?hb ?_);case hO=>exact HB2.1.own.below (qB) HB2.1.own.lt.2
     case hc=>exact yBw w2 c
     case hl=>rw[←HKm.out];omega
     case hb=>have:=HB2.1.below.size;simp;omega
     intro g' cp' w' hO' hgr;have HN:Hid (m+1=(leafG ⟨13,s,hi,t,lo,up,nn⟩ [] (es.take (i+1))).length∧LfJ w ⟨13,s,hi,t,lo,up,nn⟩ b off cap es g' cp' (leafG ⟨13,s,hi,t,lo,up,nn⟩ [] (es.take (i+1))) w'):=by rw[HSt.out];exact⟨by rw[List.length_append,←HKm.out];rfl,(HB2.1.move (qB)).push hO' hgr⟩
     exact yRs
    ·have HSt:Hid (leafG ⟨13,s,hi,t,lo,up,nn⟩ [] (es.take (i+1))=leafG ⟨13,s,hi,t,lo,up,nn⟩ [] (es.take i)):=by
      show _=_;have hk:keepB ⟨13,s,hi,t,lo,up,nn⟩ (es.take i) c=false:=by simp only[keepB,hlenT];simp[gq]
      rw[HStep.out,hk,if_neg (by decide),List.append_nil]
     clear hlenT;have HN:Hid (m=(leafG ⟨13,s,hi,t,lo,up,nn⟩ [] (es.take (i+1))).length∧LfJ w ⟨13,s,hi,t,lo,up,nn⟩ b off cap es g cp (leafG ⟨13,s,hi,t,lo,up,nn⟩ [] (es.take (i+1))) w2):=by rw[HSt.out];exact⟨HM.out,HB2.1⟩
     exact yS8
   have b13:(k==13)=false:=by rw[beq_eq_false_iff_ne];exact h13
   by_cases h11:k=11
   ·subst h11;have hS0:(fun w':World=>w'.cell? ⟨w.heap.size,6,none⟩=some (.int .i64 nn)) w2.drew:=n6;have HBf:Hid (Calls Tryz.prog 125 #[.slice (some ⟨b,off,none⟩) N cap,.int .i64 (i:Int)] w2.drew fun e w'=>e=.returned (.int .i64 (befN (es.take i) c:Int))∧Below w2.drew.heap.size w2.drew w'):=by rw[HL.out];exact yP7 ((HB2.1.row).below ((Below.refl _ _).drew)) HC.out (by rw[←HL.out];exact hl)
    obtain⟨bf,hbf⟩:=qE (befN (es.take i) c);have HBn:Hid (bf=befN (es.take i) c):=hbf;rw[←hbf]at HBf;clear hbf;go_upto_region 8 with fail;refine yAb 99 (fun w':World=>w'.cell? ⟨w.heap.size,6,none⟩=some (.int .i64 nn)) (by kernel_rfl) ?_;refine j3a 0 hS0 ?_;refine j3b hS0 ?_;refine j3a 3 hS0 ?_;refine j3b hS0 ?_;refine qO 2 rfl fun K hK=>?_;go_simp;go_at_call 125;refine HBf.mono ?_;rintro e w3 ⟨rfl,hb3⟩;have hb3':Below w2.heap.size w2 w3:=((Below.refl _ _).drew).trans hb3;have HB3:Hid (LfJ w ⟨11,s,hi,t,lo,up,nn⟩ b off cap es g cp (leafG ⟨11,s,hi,t,lo,up,nn⟩ [] (es.take i)) w3∧yA w3 w.heap.size 55 5 cb c.five∧g<cb∧w.heap.size<cb):=⟨HB2.1.move hb3',HB2.2.1.below hb3',HB2.2.2⟩;have hS3:(fun w':World=>w'.cell? ⟨w.heap.size,6,none⟩=some (.int .i64 nn)) w3:=HB3.1.box.cell (j:=6) rfl;clear hb3 hb3';refine hK.out _ _ (.inr hS3) ?_;clear hK;refine jS ?_;by_cases gq:(bf:Int)<nn
    ·refine qT 5 (.bool true) rfl ?ylt5 hS3 ?_;case ylt5=>exact zzR4
     try simp only[qA,List.getElem_toArray,List.getElem_cons_zero,List.getElem_cons_succ]
     refine j3b hS3 ?_;refine qD ?_;have n0:=HB3.1.box.cell (j:=0) rfl;dsimp only at n0;have HSt:Hid (leafG ⟨11,s,hi,t,lo,up,nn⟩ [] (es.take (i+1))=leafG ⟨11,s,hi,t,lo,up,nn⟩ [] (es.take i)++ [c]):=by
      show _=_;have hk:keepB ⟨11,s,hi,t,lo,up,nn⟩ (es.take i) c=true:=by simp only[keepB,←HBn.out];simp[gq]
      rw[HStep.out,hk,if_pos rfl];rfl
     obtain⟨d0,d1,d2,d3,d4⟩:=HB3.2.1.c5;have HKm:Hid (m=(leafG ⟨11,s,hi,t,lo,up,nn⟩ [] (es.take i)).length):=HM.out;go_wp2_with (at_builtin;refine yAj _ rfl _ _ rfl w.heap.size g cp _ _ (leafG ⟨11,s,hi,t,lo,up,nn⟩ [] (es.take i)) c rfl rfl HKm.out ?hO ?hc ?hl ?hb ?_);case hO=>exact HB3.1.own.below (qB) HB3.1.own.lt.2
     case hc=>exact yBw w3 c
     case hl=>rw[←HKm.out];omega
     case hb=>have:=HB3.1.below.size;simp;omega
     intro g' cp' w' hO' hgr;have HN:Hid (m+1=(leafG ⟨11,s,hi,t,lo,up,nn⟩ [] (es.take (i+1))).length∧LfJ w ⟨11,s,hi,t,lo,up,nn⟩ b off cap es g' cp' (leafG ⟨11,s,hi,t,lo,up,nn⟩ [] (es.take (i+1))) w'):=by rw[HSt.out];exact⟨by rw[List.length_append,←HKm.out];rfl,(HB3.1.move (qB)).push hO' hgr⟩
     exact yRs
    ·refine qT 5 (.bool false) rfl ?ylf5 hS3 ?_;case ylf5=>exact zzR4
     try simp only[qA,List.getElem_toArray,List.getElem_cons_zero,List.getElem_cons_succ]
     refine j3b hS3 ?_;refine qD ?_;have n0:=HB3.1.box.cell (j:=0) rfl;dsimp only at n0;have HSt:Hid (leafG ⟨11,s,hi,t,lo,up,nn⟩ [] (es.take (i+1))=leafG ⟨11,s,hi,t,lo,up,nn⟩ [] (es.take i)):=by
      show _=_;have hk:keepB ⟨11,s,hi,t,lo,up,nn⟩ (es.take i) c=false:=by simp only[keepB,←HBn.out];simp[gq]
      rw[HStep.out,hk,if_neg (by decide),List.append_nil]
     have HN:Hid (m=(leafG ⟨11,s,hi,t,lo,up,nn⟩ [] (es.take (i+1))).length∧LfJ w ⟨11,s,hi,t,lo,up,nn⟩ b off cap es g cp (leafG ⟨11,s,hi,t,lo,up,nn⟩ [] (es.take (i+1))) w3):=by rw[HSt.out];exact⟨HM.out,HB3.1⟩
     exact yS8
   have b11:(k==11)=false:=by rw[beq_eq_false_iff_ne];exact h11
   by_cases h3:k=3
   ·subst h3;have htt:tb=true:=HTb.trans (by simp[tstB]);subst htt;have f4:=HB2.2.1.frozen 4;have d4:=HB2.2.1.cell (j:=4) rfl;obtain⟨W3,hW3⟩:=qE (w2.setCell ⟨cb,4,none⟩ (.string ⟨#[]⟩):World);have HB3:Hid (LfJ w ⟨3,s,hi,t,lo,up,nn⟩ b off cap es g cp (leafG ⟨3,s,hi,t,lo,up,nn⟩ [] (es.take i)) W3∧yA W3 w.heap.size 55 5 cb (⟨c.row,c.fam,c.qual,c.ts,c.kind,⟨#[]⟩⟩:Ent).five∧g<cb∧w.heap.size<cb):=by rw[hW3];exact⟨HB2.1.set HB2.2.2.2 (by have:=HB2.2.2.1;omega) 4 _,HB2.2.1.set 4 _,HB2.2.2⟩
    go_upto_region 15 with fail;rw[←hW3];clear hW3 f4 d4;have HSt:Hid (leafG ⟨3,s,hi,t,lo,up,nn⟩ [] (es.take (i+1))=leafG ⟨3,s,hi,t,lo,up,nn⟩ [] (es.take i)++ [⟨c.row,c.fam,c.qual,c.ts,c.kind,⟨#[]⟩⟩]):=by
     show _=_;have hk:keepB ⟨3,s,hi,t,lo,up,nn⟩ (es.take i) c=true:=by simp[keepB,tstB]
     rw[HStep.out,hk,if_pos rfl];rfl
    obtain⟨d0,d1,d2,d3,d4⟩:=HB3.2.1.c5;have HKm:Hid (m=(leafG ⟨3,s,hi,t,lo,up,nn⟩ [] (es.take i)).length):=HM.out;go_wp2_with (at_builtin;refine yAj _ rfl _ _ rfl w.heap.size g cp _ _ (leafG ⟨3,s,hi,t,lo,up,nn⟩ [] (es.take i)) ⟨c.row,c.fam,c.qual,c.ts,c.kind,⟨#[]⟩⟩ rfl rfl HKm.out ?hO ?hc ?hl ?hb ?_);case hO=>exact HB3.1.own.below (qB) HB3.1.own.lt.2
    case hc=>exact yBw W3 ⟨c.row,c.fam,c.qual,c.ts,c.kind,⟨#[]⟩⟩
    case hl=>rw[←HKm.out];omega
    case hb=>have:=HB3.1.below.size;simp;omega
    intro g' cp' w' hO' hgr;have HN:Hid (m+1=(leafG ⟨3,s,hi,t,lo,up,nn⟩ [] (es.take (i+1))).length∧LfJ w ⟨3,s,hi,t,lo,up,nn⟩ b off cap es g' cp' (leafG ⟨3,s,hi,t,lo,up,nn⟩ [] (es.take (i+1))) w'):=by rw[HSt.out];exact⟨by rw[List.length_append,←HKm.out];rfl,(HB3.1.move (qB)).push hO' hgr⟩
    exact yRs
   have b3:(k==3)=false:=by rw[beq_eq_false_iff_ne];exact h3
   have hst:Hid (yBb ⟨k,s,hi,t,lo,up,nn⟩ c=c):=by show yBb ⟨k,s,hi,t,lo,up,nn⟩ c=c;unfold yBb;rw[if_neg h3]
   have hkt:Hid (keepB ⟨k,s,hi,t,lo,up,nn⟩ (es.take i) c=tb):=by rw[HTb.out];show keepB _ _ _=_;simp only[keepB];rw[if_neg h11,if_neg h12,if_neg h13]
   cases tb
   ·have HSt:Hid (leafG ⟨k,s,hi,t,lo,up,nn⟩ [] (es.take (i+1))=leafG ⟨k,s,hi,t,lo,up,nn⟩ [] (es.take i)):=by
     show _=_;have hk:keepB ⟨k,s,hi,t,lo,up,nn⟩ (es.take i) c=false:=by exact hkt.out
     rw[HStep.out,hk,if_neg (by decide),List.append_nil]
    have HN:Hid (m=(leafG ⟨k,s,hi,t,lo,up,nn⟩ [] (es.take (i+1))).length∧LfJ w ⟨k,s,hi,t,lo,up,nn⟩ b off cap es g cp (leafG ⟨k,s,hi,t,lo,up,nn⟩ [] (es.take (i+1))) w2):=by rw[HSt.out];exact⟨HM.out,HB2.1⟩
    exact yS8
   ·have HSt:Hid (leafG ⟨k,s,hi,t,lo,up,nn⟩ [] (es.take (i+1))=leafG ⟨k,s,hi,t,lo,up,nn⟩ [] (es.take i)++ [c]):=by
     show _=_;have hk:keepB ⟨k,s,hi,t,lo,up,nn⟩ (es.take i) c=true:=by exact hkt.out
     rw[HStep.out,hk,if_pos rfl,hst.out]
    obtain⟨d0,d1,d2,d3,d4⟩:=HB2.2.1.c5;have HKm:Hid (m=(leafG ⟨k,s,hi,t,lo,up,nn⟩ [] (es.take i)).length):=HM.out;go_wp2_with (at_builtin;refine yAj _ rfl _ _ rfl w.heap.size g cp _ _ (leafG ⟨k,s,hi,t,lo,up,nn⟩ [] (es.take i)) c rfl rfl HKm.out ?hO ?hc ?hl ?hb ?_);case hO=>exact HB2.1.own.below (qB) HB2.1.own.lt.2
    case hc=>exact yBw w2 c
    case hl=>rw[←HKm.out];omega
    case hb=>have:=HB2.1.below.size;simp;omega
    intro g' cp' w' hO' hgr;have HN:Hid (m+1=(leafG ⟨k,s,hi,t,lo,up,nn⟩ [] (es.take (i+1))).length∧LfJ w ⟨k,s,hi,t,lo,up,nn⟩ b off cap es g' cp' (leafG ⟨k,s,hi,t,lo,up,nn⟩ [] (es.take (i+1))) w'):=by rw[HSt.out];exact⟨by rw[List.length_append,←HKm.out];rfl,(HB2.1.move (qB)).push hO' hgr⟩
    exact yRs
  ·obtain rfl:i=N:=by omega
   have zi:¬(i:Int)<(i:Int):=by omega
   go_wp2_with fail;go_ret;refine⟨g,cp,?_,?_,HJ.2.below⟩
   ·rw[HLM.out,←HJ.1];rfl
   ·rw[HLM.out];exact HJ.2.own
theorem yW7 (w:World) (e:Ent):yA7 (w.alloc (Obj.cells #[.string e.row,.string e.fam,.string e.qual,.int .u64 e.ts,.int .i64 e.kind,.string e.val] 102)) w.heap.size 0 [e]:=by exact yS7
def putE (x:Ent):Ent:={x with kind:=0}
theorem yGg (e:Ent) (w:World):
  Calls Tryz.prog 96 #[.agg #[.string e.row,.string e.fam,.string e.qual,.int .u64 e.ts,.string e.val]] w fun r w'=>r=.returned (putE e).v∧Below w.heap.size w w':=by
 go_enter Tryz.func96,Tryz.ntmps96;go_wp2;refine bodyPost_ret (v:=(putE e).v) (by simp[results,Tryz.results96,go_sem,putE]) rfl ⟨rfl,?_⟩;exact(qB).alloc (by simp) _
theorem yDr (e:Ent) (w:World):
  Calls Tryz.prog 59 #[.agg #[.string e.row,.string e.fam,.string e.qual,.int .u64 e.ts,.string e.val]] w fun r w'=>r=.returned (putE e).v∧Below w.heap.size w w':=by
 go_enter Tryz.func59,Tryz.ntmps59;go_wp2;refine bodyPost_ret (v:=(putE e).v) (by simp[results,Tryz.results59,go_sem,putE]) rfl ⟨rfl,?_⟩;exact(qB).alloc (by simp) _
theorem yJ {ops:Array Oper} {o:Oper} {a:Act} {K:Act→World→Prop} {Q:Exit→Act→World→Prop} {E:Prop} (w:World) (hgd:o.guard=none) (s x:Operand)
  (ho:o.op=.call {callee:=.builtin .append,args:=#[s,x],argTypes:=#[88,88]})
  (base g cp n blk:Nat) (fs:List Ent) (e:Ent) (hn:n=fs.length) (hs:a.eval s=.slice (some ⟨g,0,none⟩) n cp) (hx:a.eval x=.slice (some ⟨blk,0,none⟩) 1 1) (hO:OwnE w base g cp fs)
  (hc:yA7 w blk 0 [e]) (hlen:fs.length≤2^30) (hbase:base≤w.heap.size)
  (h:∀g' cp' w',OwnE w' base g' cp' (fs++ [e])→w.grownBy w' (some g)→(g=g'∨g'=w.heap.size)→K (a.put o.dst (.slice (some ⟨g',0,none⟩) (n+1) cp')) w'):if Region.wanted o (yielded ops a.tmps)=true then Oper.wp Tryz.prog o a w K Q else E:=by
 subst hn;obtain⟨i,hi,hz0,hz1,hz2⟩:=info_parts Tryz.infoEnt;obtain⟨c0,c1,c2,c3,c4,c5⟩:=hc 0 e rfl;refine step_append_lies w hgd s x 88 ho base 102 i _ 6 80 Tryz.underlying88 hi hz0 hz1 hz2 rfl (by decide) (.slice (some ⟨g,0,none⟩) fs.length cp) fs.length (yBy fs) hs hO ⟨blk,0,none⟩ 1 1 (yBy [e]) hx rfl ?_ ?_ (by decide) ?_ ?_ hbase w.heap.size rfl ?_
 ·exact zzQ40
 ·intro u hu;simp[yBy]at hu;rcases hu with rfl|rfl|rfl|rfl|rfl|rfl<;>rfl
 ·unfold maxLen;omega
 ·omega
 ·intro g' cp' w' hO' hgr hat hlt;refine h g' cp' w' ?_ hgr ?_
  ·unfold OwnE;rw[List.length_append,yHj];exact hO'
  ·rcases hat with q|q
   ·exact .inl (by simpa [Value.ownBlock]using q)
   ·exact .inr q
def yE5 (L:List Ent) (m:Nat):List Ent:=(L.take m).map putE
theorem yO6 (h:L[m]?=some x):yE5 L (m+1)=yE5 L m++ [putE x]:=by unfold yE5;rw[List.take_add_one,h];simp
theorem yR7 (h:m≤L.length):(yE5 L m).length=m:=by simp[yE5];omega
theorem yR8 (h:L.length≤m):yE5 L m=L.map putE:=by unfold yE5;rw[List.take_of_length_le h]
structure PInv (w:World) (ov:Nat) (L:List Ent) (m g5 cp5:Nat) (wr:World):Prop where
 hdr:wr.cell? ⟨ov,0,none⟩=some (.slice (some ⟨g5,0,none⟩) m cp5)
 free:wr.frozen? ⟨ov,0,none⟩=false
 lt:ov<wr.heap.size
 own:w.heap.size<ov
 row:OwnE wr w.heap.size g5 cp5 (yE5 L m)
 ne:¬g5=ov
 new:w.heap.size<g5
 res:wr.cell? ⟨w.heap.size,0,none⟩=some (.slice none 0 0)
 rfree:wr.frozen? ⟨w.heap.size,0,none⟩=false
 below:Below w.heap.size w wr
theorem PInv.step {ov:Nat} {g5 cp5:Nat} {wr:World} (h:PInv w ov L m g5 cp5 wr) (hb:Below wr.heap.size wr w'):PInv w ov L m g5 cp5 w' where
 hdr:=by rw[hb.cell (p:=⟨ov,0,none⟩) h.lt];exact h.hdr
 free:=by rw[hb.frozen (p:=⟨ov,0,none⟩) h.lt];exact h.free
 lt:=by have:=hb.size;have:=h.lt;omega
 own:=h.own
 row:=h.row.below hb h.row.lt.2
 ne:=h.ne
 new:=h.new
 res:=by rw[hb.cell (p:=⟨w.heap.size,0,none⟩) (by have:=h.own;have:=h.lt;show w.heap.size<wr.heap.size;omega)];exact h.res
 rfree:=by rw[hb.frozen (p:=⟨w.heap.size,0,none⟩) (by have:=h.own;have:=h.lt;show w.heap.size<wr.heap.size;omega)];exact h.rfree
 below:=h.below.trans (hb.mono h.below.size)
theorem PInv.push {ov:Nat} {g5 cp5:Nat} {wA w7:World} (h:PInv w ov L m g5 cp5 wA) (hx:L[m]?=some x) {g7 cp7:Nat} (hO:OwnE w7 w.heap.size g7 cp7 (yE5 L m++ [putE x])) (hgr:wA.grownBy w7 (some g5)) (hgg:g5=g7∨g7=wA.heap.size):
  PInv w ov L (m+1) g7 cp7 (w7.setCell ⟨ov,0,none⟩ (.slice (some ⟨g7,0,none⟩) (m+1) cp7))∧w7.cell? ⟨ov,0,none⟩=some (.slice (some ⟨g5,0,none⟩) m cp5)∧w7.frozen? ⟨ov,0,none⟩=false:=by
 have hc7:Chg (fun k=>k=g5) wA w7:=Chg.of_grown hgr (fun k hk=>by cases hk;rfl);have hc8:Chg (fun k=>k=ov) w7 (w7.setCell ⟨ov,0,none⟩ (.slice (some ⟨g7,0,none⟩) (m+1) cp7)):=Chg.of_set _ _ _ _ rfl;have s7:=hc7.size;have s8:=hc8.size;have hl:=h.lt;have ho:=h.own;have hn:=h.new;have c7:w7.cell? ⟨ov,0,none⟩=some (.slice (some ⟨g5,0,none⟩) m cp5):=by rw[hc7.cell (p:=⟨ov,0,none⟩) hl (fun q=>h.ne q.symm)];exact h.hdr
 have f7:w7.frozen? ⟨ov,0,none⟩=false:=by rw[hc7.frozen (p:=⟨ov,0,none⟩) hl (fun q=>h.ne q.symm)];exact h.free
 have hne7:¬g7=ov:=by
  rcases hgg with q|q
  ·rw[←q];exact h.ne
  ·omega
 refine⟨?_,c7,f7⟩;exact {
  hdr:=World.cell?_setCell_same _ _ _ c7
  free:=by rw[World.frozen?_setCell];exact f7
  lt:=by omega
  own:=ho
  row:=by
   rw[yO6 hx]
   exact World.ownsRow.kept hO (yBf w7 ov 0 _) (.inr (fun q=>hne7 (Option.some.inj q)))
  ne:=hne7
  new:=by
   rcases hgg with q|q
   ·rw[←q];exact hn
   ·omega
  res:=by
   rw[hc8.cell (p:=⟨w.heap.size,0,none⟩) (by show w.heap.size<w7.heap.size;omega) (by show¬w.heap.size=ov;omega),hc7.cell (p:=⟨w.heap.size,0,none⟩) (by show w.heap.size<wA.heap.size;omega) (by show¬w.heap.size=g5;omega)]
   exact h.res
  rfree:=by
   rw[hc8.frozen (p:=⟨w.heap.size,0,none⟩) (by show w.heap.size<w7.heap.size;omega) (by show¬w.heap.size=ov;omega),hc7.frozen (p:=⟨w.heap.size,0,none⟩) (by show w.heap.size<wA.heap.size;omega) (by show¬w.heap.size=g5;omega)]
   exact h.rfree
  below:=Chg.below (Chg.below h.below hc7 h.below.size (fun k q=>by omega)) hc8 (by omega) (fun k q=>by omega)}
theorem yT2 (g cap:Nat) (L:List Ent) (base:Nat) (w:World) (hC:OwnC w base g cap L) (hn:L.length≤1048576):
  Calls Tryz.prog 52 #[.slice (some ⟨g,0,none⟩) L.length cap] w fun r w'=>
   ∃g' cp,r=.returned (.agg #[.slice (some ⟨g',0,none⟩) L.length cp])∧OwnE w' w.heap.size g' cp (L.map putE)∧Below w.heap.size w w':=by
 have HC:Hid (OwnC w base g cap L):=hC;have hgl:=hC.lt.2;clear hC;obtain⟨Wa,hWa⟩:=qE (w.alloc (Obj.cells #[.slice none 0 0] 90):World);have hba:Below w.heap.size w Wa:=by rw[hWa];exact qB
 have hza:Wa.heap.size=w.heap.size+1:=by rw[hWa];simp
 obtain⟨Wb,hWb⟩:=qE (Wa.alloc (Obj.cells #[] 102):World);have hbb:Below Wa.heap.size Wa Wb:=by rw[hWb];exact qB
 have hzb:Wb.heap.size=w.heap.size+1+1:=by rw[hWb];simp[hza]
 obtain⟨Wc,hWc⟩:=qE (Wb.alloc (Obj.cells #[.slice (some ⟨w.heap.size+1,0,none⟩) 0 0] 90):World);have hbc:Below Wb.heap.size Wb Wc:=by rw[hWc];exact qB
 have hzc:Wc.heap.size=w.heap.size+1+1+1:=by rw[hWc];simp[hzb]
 have HP:Hid (PInv w (w.heap.size+1+1) L 0 (w.heap.size+1) 0 Wc):=by
  have k1:Below Wa.heap.size Wa Wc:=hbb.trans (hbc.mono (by omega));exact {
   hdr:=by rw[hWc,←hzb];simp
   free:=by
    rw[hWc,←hzb]
    exact World.ownsRow.frozenAt (World.ownsRow_lit (base:=0) (e:=90) (size:=1) Wb #[.slice (some ⟨w.heap.size+1,0,none⟩) 0 0] 1 (Nat.zero_le _) (by decide) rfl) 0
   lt:=by omega
   own:=by omega
   row:=by
    have h0:OwnE Wb w.heap.size (w.heap.size+1) 0 []:=by
     rw[hWb,←hza]
     exact World.ownsRow_made Wa #[] 0 (by omega) (Nat.zero_le _) (by simp)
    exact h0.below hbc (by omega)
   ne:=by omega
   new:=by omega
   res:=by rw[k1.cell (p:=⟨w.heap.size,0,none⟩) (by show w.heap.size<Wa.heap.size;omega),hWa];simp
   rfree:=by
    rw[k1.frozen (p:=⟨w.heap.size,0,none⟩) (by show w.heap.size<Wa.heap.size;omega),hWa]
    exact World.ownsRow.frozenAt (World.ownsRow_lit (base:=0) (e:=90) (size:=1) w #[.slice none 0 0] 1 (Nat.zero_le _) (by decide) rfl) 0
   below:=hba.trans (k1.mono (by omega))}
 go_enter Tryz.func52,Tryz.ntmps52;go_wp2_with fail;rw[←hWa,←hWb,←hWc];clear hWa hWb hWc hba hbb hbc;generalize w.heap.size+1+1=ov at*;generalize w.heap.size+1=g0 at*;go_loopw[4] (fun i wr=>∃(m g5 cp5:Nat),m≤L.length∧i=.int .i64 m∧PInv w ov L m g5 cp5 wr) (fun i _=>L.length-(intOf i).toNat);case atStart=>exact⟨0,_,_,Nat.zero_le _,rfl,HP.out⟩
 case round=>
  obtain⟨m,g5,cp5,hm,rfl,hI⟩:=hrel;have HI:Hid (PInv w ov L m g5 cp5 wr):=hI;have hbw:=hI.below;have hsw:=hbw.size;have h0:=hI.hdr;have hf0:=hI.free;have hgl5:=hI.row.lt.2;have hlo:=hI.lt;clear hI HP;by_cases hlt:m<L.length
  ·obtain⟨x,hx⟩:∃x,L[m]?=some x:=⟨_,List.getElem?_eq_getElem hlt⟩;obtain⟨c0,c1,c2,c3,c4⟩:=(HC.below hbw hgl).at m x hx;simp only[Nat.zero_add,Nat.zero_mul]at c0 c1 c2 c3 c4;have HX:Hid (L[m]?=some x∧yBd wr g 0 L):=⟨hx,(HC.below hbw hgl).at⟩;have HTM:Hid (m=(yE5 L m).length):=(yR7 hm).symm;have hpl:(yE5 L m).length≤2^30:=by rw[←HTM.out];omega
   clear hx;have zm:(m:Int)<(L.length:Int):=by omega
   have ngo:g≠ov:=by have:=HI.own;omega
   have hgr0:g<wr.heap.size:=by omega
   go_upto_region 5 with fail;go_region_law ((first
        |(go_simp;go_at_call 96;refine(yGg x _).mono ?_;rintro e' w6 ⟨rfl,hb6⟩;have hq6:Below wr.heap.size wr w6:=((Below.refl wr.heap.size wr).drew).trans hb6;have m6:=(HI.step hq6).hdr;have m6a:∀o,(w6.alloc o).cell? ⟨ov,0,none⟩=some (.slice (some ⟨g5,0,none⟩) m cp5):=fun o=>by {rw[((Below.refl w6.heap.size w6).alloc (Nat.le_refl _) o).cell (p:=⟨ov,0,none⟩) (Nat.lt_of_lt_of_le hlo hq6.size)];exact m6})
        |(refine yJ _ (by rfl) _ _ (by rfl) w.heap.size g5 cp5 m w6.heap.size (yE5 L m) (putE x) HTM.out (by rfl) (by rfl) ?hO ?hc hpl ?hb ?_
          case hO=>exact(HI.step hq6).row.below (qB) (Nat.lt_of_lt_of_le hgl5 hq6.size)
          case hc=>exact yW7 w6 (putE x)
          case hb=>exact Nat.le_trans hsw (Nat.le_trans hq6.size (by simp))
          intro g7 cp7 w7 hO7 hgr7 hgg7
          have hpp:=((HI.step hq6).step ((Below.refl w6.heap.size w6).alloc (Nat.le_refl _) (Obj.cells #[.string (putE x).row,.string (putE x).fam,.string (putE x).qual,.int .u64 (putE x).ts,.int .i64 (putE x).kind,.string (putE x).val] 102))).push HX.1 hO7 hgr7 (by simpa using hgg7)
          have fin7:Hid (PInv w ov L (m+1) g7 cp7 (w7.setCell ⟨ov,0,none⟩ (.slice (some ⟨g7,0,none⟩) (m+1) cp7))):=hpp.1
          have m7:=hpp.2.1
          have f7:=hpp.2.2
          clear hpp hO7 hgr7 hgg7)))
   all_goals go_wp2_with fail
   all_goals go_roundw
   all_goals first
    |exact⟨m+1,g7,cp7,by omega,by go_num,fin7.out⟩
    |(go_light;simp[intOf];omega)
  ·have hml:m=L.length:=by omega
   have HF:Hid (OwnE wr w.heap.size g5 cp5 (L.map putE)):=by have:=HI.row;rw[yR8 (by omega)]at this;exact this
   have r0:=HI.res;have rf:=HI.rfree;have HM:Hid (m=L.length):=hml;have zm:¬(m:Int)<(L.length:Int):=by omega
   have hnew:=HI.new;clear hml;go_wp2_with fail;refine bodyPost_ret (v:=.agg #[.slice (some ⟨g5,0,none⟩) m cp5]) (by simp[results,Tryz.results52,go_sem,World.cell?_setCell_same _ _ _ r0]) rfl ⟨g5,cp5,by rw[HM.out],?_,?_⟩
   ·exact World.ownsRow.kept HF.out (yBf wr w.heap.size 0 _) (.inr (fun q=>by have h2:g5=w.heap.size:=Option.some.inj q;omega))
   ·exact hbw.setCell (Nat.le_refl _) _
theorem yHf:∀(a L:List Ent),(a.foldl into L).length≤L.length+a.length
 | [],L=>Nat.le_refl _
 |e::a,L=>by
  have h1:=yHf a (into L e)
  have h2:=yPd L e
  show(a.foldl into (into L e)).length≤_
  simp only[List.length_cons]
  omega
theorem yNs {ba oa ca bb ob cb:Nat} {la lb:List Ent} (ha:CSl w ba oa ca la) (hb:CSl w bb ob cb lb) (hka:∀x∈la,x.kind=0) (hkb:∀x∈lb,x.kind=0) (hla:la.length≤100000) (hlb:lb.length≤100000):Calls Tryz.prog 97 #[.slice (some ⟨ba,oa,none⟩) la.length ca,.slice (some ⟨bb,ob,none⟩) lb.length cb] w fun e w'=>∃g cp,e=.returned (.slice (some ⟨g,0,none⟩) (uniM la lb).length cp)∧OwnC w' w.heap.size g cp (uniM la lb)∧Below w.heap.size w w':=by
 obtain⟨NA,hNA⟩:∃N,N=la.length:=⟨_,rfl⟩;obtain⟨NB,hNB⟩:∃N,N=lb.length:=⟨_,rfl⟩;have HN:Hid (NA=la.length∧NB=lb.length):=⟨hNA,hNB⟩;have HNA:Hid (NA=la.length):=hNA;have HNB:Hid (NB=lb.length):=hNB;have HR:Hid ((∀wx,Below w.heap.size w wx→CSl wx ba oa ca la)∧(∀wx,Below w.heap.size w wx→CSl wx bb ob cb lb)):=⟨fun wx hx=>ha.below hx,fun wx hx=>hb.below hx⟩;have HK:Hid ((∀x∈la,x.kind=0)∧(∀x∈lb,x.kind=0)):=⟨hka,hkb⟩;have HO0:Hid (OwnE (w.alloc (Obj.cells #[] 102)) w.heap.size w.heap.size 0 []∧Below w.heap.size w (w.alloc (Obj.cells #[] 102))):=⟨World.ownsRow_made w #[] 0 (Nat.le_refl _) (Nat.zero_le _) (by simp),qB⟩;have HPre:Hid ((lb.foldl into []).length≤100000):=by show _≤_;have:=yHf lb [];simp only[List.length_nil]at this;omega
 obtain⟨U,hU⟩:=qE (uniM la lb);have HU:Hid (U=uniM la lb):=hU;rw[←hU];clear hU;rw[←hNA,←hNB];rw[←hNA]at hla;rw[←hNB]at hlb;clear ha hb hka hkb hNA hNB;go_enter Tryz.func97,Tryz.ntmps97;go_wp2_with fail;go_loopw[5,6] (fun o iv wr=>∃(i g cp m:Nat),i≤NB∧iv=.int .i64 (i:Int)∧o=.slice (some ⟨g,0,none⟩) m cp∧Hid (m=((lb.take i).foldl into []).length∧OwnE wr w.heap.size g cp ((lb.take i).foldl into [])∧Below w.heap.size w wr)) (fun _ iv _=>NB-(intOf iv).toNat);case atStart=>exact⟨0,w.heap.size,0,0,Nat.zero_le _,rfl,rfl,rfl,HO0.1,HO0.2⟩
 case round=>
  obtain⟨i,g,cp,m,hiN,rfl,rfl,HJ⟩:=hrel;by_cases hlt:i<NB
  ·have zi:(i:Int)<(NB:Int):=by omega
   obtain⟨c,hc⟩:∃c,lb[i]?=some c:=⟨_,List.getElem?_eq_getElem (by have:=HNB.out;omega)⟩;have hck:c.kind=0:=HK.2 c (List.mem_of_getElem? hc);have HP:Hid (putE c=c):=by show putE c=c;cases c;simp only[putE]at*;subst hck;rfl
   have HStep:Hid ((lb.take (i+1)).foldl into []=into ((lb.take i).foldl into []) c):=by show _=_;rw[List.take_add_one,hc,Option.toList_some,List.foldl_append];rfl
   have hml:m≤1048576:=by rw[HJ.1];have:=yHf (lb.take i) [];rw[List.length_take]at this;simp only[List.length_nil]at this;omega
   obtain⟨c0,c1,c2,c3,c4⟩:=(HR.2 _ HJ.2.2).at_ i c hc;have HPt:Hid (∀wx:World,Calls Tryz.prog 96 #[.agg #[.string c.row,.string c.fam,.string c.qual,.int .u64 c.ts,.string c.val]] wx fun r w'=>r=.returned (.agg #[.string c.row,.string c.fam,.string c.qual,.int .u64 c.ts,.int .i64 c.kind,.string c.val])∧Below wx.heap.size wx w'):=fun wx=>by have:=yGg c wx;rw[HP.out]at this;exact this
   go_wp2_with fail;refine(HPt.out _).mono ?_;rintro e w2 ⟨rfl,hb2⟩;have HI:Hid (Calls Tryz.prog 113 #[.slice (some ⟨g,0,none⟩) m cp,.agg #[.string c.row,.string c.fam,.string c.qual,.int .u64 c.ts,.int .i64 c.kind,.string c.val]] w2 fun r w'=>∃g cp,r=.returned (.slice (some ⟨g,0,none⟩) ((lb.take (i+1)).foldl into []).length cp)∧OwnE w' w.heap.size g cp ((lb.take (i+1)).foldl into [])∧Below w.heap.size w w'):=by
    have hO:=HJ.2.1.below hb2 HJ.2.1.lt.2;have h1:=yJ2 g 0 cp ((lb.take i).foldl into []) c w2 hO.at hO.lt.2 (by rw[←HJ.1];omega);rw[HStep.out,HJ.1];refine h1.mono ?_;rintro r w' ⟨g',cp',rfl,hO',hb'⟩;have hz:=HJ.2.2.size;have hz2:=hb2.size;exact⟨g',cp',rfl,by
     rcases hO'.2 with⟨q,_⟩|⟨g9,cap9,cur,hv,q1,q2⟩
     ·cases q
     ·exact⟨hO'.1,.inr ⟨g9,cap9,cur,hv,by omega,q2⟩⟩,HJ.2.2.trans ((hb2.trans (hb'.mono hz2)).mono hz)⟩
   clear c0 c1 c2 c3 c4 hb2 hc hck;go_wp2_with fail;refine HI.mono ?_;rintro e w3 ⟨g',cp',rfl,hO',hb3⟩;have HJ2:Hid (OwnE w3 w.heap.size g' cp' ((lb.take (i+1)).foldl into [])∧Below w.heap.size w w3):=⟨hO',hb3⟩;exact zzQ87
  ·obtain rfl:i=NB:=by omega
   have zi:¬(i:Int)<(i:Int):=by omega
   have HJ1:Hid (m=(lb.foldl into []).length∧OwnE wr w.heap.size g cp (lb.foldl into [])∧Below w.heap.size w wr):=by have:=HJ.out;rw[show lb.take i=lb by rw[HNB.out,List.take_length]]at this;exact this
   clear HJ;go_wp2_with fail;go_loopw[5,7] (fun o iv wr=>∃(i g cp m:Nat),i≤NA∧iv=.int .i64 (i:Int)∧o=.slice (some ⟨g,0,none⟩) m cp∧Hid (m=((la.take i).foldl into (lb.foldl into [])).length∧OwnE wr w.heap.size g cp ((la.take i).foldl into (lb.foldl into []))∧Below w.heap.size w wr)) (fun _ iv _=>NA-(intOf iv).toNat);case atStart=>exact⟨0,g,cp,m,Nat.zero_le _,rfl,rfl,HJ1.1,HJ1.2.1,HJ1.2.2⟩
   case round=>
    obtain⟨i,g,cp,m,hiN,rfl,rfl,HJ⟩:=hrel;by_cases hlt:i<NA
    ·have zi:(i:Int)<(NA:Int):=by omega
     obtain⟨c,hc⟩:∃c,la[i]?=some c:=⟨_,List.getElem?_eq_getElem (by have:=HNA.out;omega)⟩;have hck:c.kind=0:=HK.1 c (List.mem_of_getElem? hc);have HP:Hid (putE c=c):=by show putE c=c;cases c;simp only[putE]at*;subst hck;rfl
     have HStep:Hid ((la.take (i+1)).foldl into (lb.foldl into [])=into ((la.take i).foldl into (lb.foldl into [])) c):=by show _=_;rw[List.take_add_one,hc,Option.toList_some,List.foldl_append];rfl
     have hml:m≤1048576:=by rw[HJ.1];have:=yHf (la.take i) (lb.foldl into []);rw[List.length_take]at this;have h0:=HPre.out;omega
     obtain⟨c0,c1,c2,c3,c4⟩:=(HR.1 _ HJ.2.2).at_ i c hc;have HPt:Hid (∀wx:World,Calls Tryz.prog 96 #[.agg #[.string c.row,.string c.fam,.string c.qual,.int .u64 c.ts,.string c.val]] wx fun r w'=>r=.returned (.agg #[.string c.row,.string c.fam,.string c.qual,.int .u64 c.ts,.int .i64 c.kind,.string c.val])∧Below wx.heap.size wx w'):=fun wx=>by have:=yGg c wx;rw[HP.out]at this;exact this
     go_wp2_with fail;refine(HPt.out _).mono ?_;rintro e w2 ⟨rfl,hb2⟩;have HI:Hid (Calls Tryz.prog 113 #[.slice (some ⟨g,0,none⟩) m cp,.agg #[.string c.row,.string c.fam,.string c.qual,.int .u64 c.ts,.int .i64 c.kind,.string c.val]] w2 fun r w'=>∃g cp,r=.returned (.slice (some ⟨g,0,none⟩) ((la.take (i+1)).foldl into (lb.foldl into [])).length cp)∧OwnE w' w.heap.size g cp ((la.take (i+1)).foldl into (lb.foldl into []))∧Below w.heap.size w w'):=by
      have hO:=HJ.2.1.below hb2 HJ.2.1.lt.2;have h1:=yJ2 g 0 cp ((la.take i).foldl into (lb.foldl into [])) c w2 hO.at hO.lt.2 (by rw[←HJ.1];omega);rw[HStep.out,HJ.1];refine h1.mono ?_;rintro r w' ⟨g',cp',rfl,hO',hb'⟩;have hz:=HJ.2.2.size;have hz2:=hb2.size;exact⟨g',cp',rfl,by
       rcases hO'.2 with⟨q,_⟩|⟨g9,cap9,cur,hv,q1,q2⟩
       ·cases q
       ·exact⟨hO'.1,.inr ⟨g9,cap9,cur,hv,by omega,q2⟩⟩,HJ.2.2.trans ((hb2.trans (hb'.mono hz2)).mono hz)⟩
     clear c0 c1 c2 c3 c4 hb2 hc hck;go_wp2_with fail;refine HI.mono ?_;rintro e w3 ⟨g',cp',rfl,hO',hb3⟩;have HJ2:Hid (OwnE w3 w.heap.size g' cp' ((la.take (i+1)).foldl into (lb.foldl into []))∧Below w.heap.size w w3):=⟨hO',hb3⟩;exact zzQ87
    ·obtain rfl:i=NA:=by omega
     have zi:¬(i:Int)<(i:Int):=by omega
     have hUl:m≤200000:=by rw[HJ.1];have:=yHf (la.take i) (lb.foldl into []);rw[List.length_take]at this;have h0:=HPre.out;omega
     obtain⟨ob5,hob5⟩:∃x,x=wr.heap.size:=⟨_,rfl⟩;have HJ2:Hid (m=U.length∧OwnE wr w.heap.size g cp U∧Below w.heap.size w wr):=by have:=HJ.out;rw[show la.take i=la by rw[HNA.out,List.take_length]]at this;rw[HU.out];exact this
     clear HJ HJ1;have HC0:Hid (OwnC (wr.alloc (Obj.cells #[] 55)) w.heap.size wr.heap.size 0 []∧Below wr.heap.size wr (wr.alloc (Obj.cells #[] 55))):=⟨(yC7 wr).mono HJ2.2.2.size,qB⟩;go_wp2_with fail;go_loopw[8,9] (fun o iv wx=>∃(i g5 cp5:Nat),i≤m∧iv=.int .i64 (i:Int)∧o=.slice (some ⟨g5,0,none⟩) i cp5∧Hid (i=(U.take i).length∧OwnC wx w.heap.size g5 cp5 (U.take i)∧OwnE wx w.heap.size g cp U∧Below w.heap.size w wx)) (fun _ iv _=>m-(intOf iv).toNat);case atStart=>exact⟨0,wr.heap.size,0,Nat.zero_le _,rfl,rfl,rfl,HC0.1,HJ2.2.1.below HC0.2 HJ2.2.1.lt.2,HJ2.2.2.trans (HC0.2.mono HJ2.2.2.size)⟩
     case round=>
      obtain⟨i,g5,cp5,him,rfl,rfl,HQ⟩:=hrel;by_cases hlt2:i<m
      ·have zi2:(i:Int)<(m:Int):=by omega
       obtain⟨x,hx⟩:∃x,U[i]?=some x:=⟨_,List.getElem?_eq_getElem (by have:=HJ2.1;omega)⟩;have HX:Hid (U.take (i+1)=U.take i++ [x]):=by show _=_;rw[List.take_add_one,hx];rfl
       obtain⟨c0,c1,c2,c3,c4,c5⟩:=HQ.2.2.1.at i x hx;simp only[Nat.zero_add]at c0 c1 c2 c3 c4 c5;have hgl:=HQ.2.2.1.lt;have hg5:=HQ.2.1.lt;have hbs:=HQ.2.2.2.size;have hne:¬g=g5:=fun q=>yAo HQ.2.1 HQ.2.2.1 (by decide) g5 rfl (by rw[←q];rfl);have HSc:Hid (∀wx,Calls Tryz.prog 114 #[.agg #[.string x.row,.string x.fam,.string x.qual,.int .u64 x.ts,.int .i64 x.kind,.string x.val]] wx fun r w'=>r=.returned x.c∧Below wx.heap.size wx w'):=fun wx=>yIb x wx;clear hx;go_wp2_with fail;refine(HSc.out _).mono ?_;rintro e w3 ⟨rfl,hb3⟩;have hs3:=hb3.size;have HM3:Hid (OwnC w3 w.heap.size g5 cp5 (U.take i)∧OwnE w3 w.heap.size g cp U∧Below w.heap.size w w3):=⟨HQ.2.1.below hb3 hg5.2,HQ.2.2.1.below hb3 hgl.2,HQ.2.2.2.trans (hb3.mono hbs)⟩;have HTM:Hid (i=(U.take i).length):=HQ.1;clear c0 c1 c2 c3 c4 c5 hb3;go_wp2_with (at_builtin;refine yAj _ rfl _ _ rfl w.heap.size g5 cp5 _ _ (U.take i) x rfl rfl HTM.out ?hO ?hc ?hl ?hb ?_);case hO=>exact HM3.1.below (qB) (by omega)
       case hc=>exact yBw w3 x
       case hl=>rw[←HTM.out];omega
       case hb=>simp;omega
       intro g' cp' w' hO' hgr;have HN2:Hid (i+1=(U.take (i+1)).length∧OwnC w' w.heap.size g' cp' (U.take (i+1))∧OwnE w' w.heap.size g cp U∧Below w.heap.size w w'):=by have hc':Chg (fun k=>k=g5) (w3.alloc (Obj.cells #[.string x.row,.string x.fam,.string x.qual,.int .u64 x.ts,.string x.val] 55)) w':=Chg.of_grown hgr (fun k q=>by cases q;rfl);rw[HX.out];refine⟨by rw[List.length_append,←HTM.out];rfl,hO',?_,(HM3.2.2.alloc HM3.2.2.size _).grown hgr (by simp;omega) (fun j hj=>by cases hj;omega)⟩;exact yAp (HM3.2.1.below (qB) (by omega)) hc' (fun k q=>by simp[Value.ownBlock]at q;subst q;exact hne)
       clear hO' hgr;go_wp2_with fail;go_roundw;case rel=>exact⟨i+1,g',cp',by omega,by go_num,rfl,HN2.out⟩
       case measure=>go_light;simp[intOf];omega
      ·obtain rfl:i=m:=by omega
       have zi2:¬(i:Int)<(i:Int):=by omega
       have HT:Hid (U.take i=U):=by show U.take i=U;rw[HJ2.1,List.take_length]
       go_wp2_with fail;go_ret;refine⟨g5,cp5,?_,?_,HQ.2.2.2⟩
       ·rw[←HJ2.1];rfl
       ·have:=HQ.2.1;rw[HT.out]at this;exact this
end Go.Proofs.YtkidabedcgngcaaGreatDoor
