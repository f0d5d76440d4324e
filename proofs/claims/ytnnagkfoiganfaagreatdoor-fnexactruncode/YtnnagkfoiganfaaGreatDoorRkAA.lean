import Derived.Deep.RegionHeld3
import Derived.Test.YtnnagkfoiganfaaGreatDoorRows
import Derived.WalkSpells
import Derived.WalkLawsBesides
import Derived.Deep.Light
import Derived.Lib.SmallJoins
import Derived.Lib.Bytealg
import Derived.Lib.Slices
import Derived.Lib.Walk
import Derived.Deep.DeepCutAuto
import Derived.Deep.WholeRow
import Derived.Deep.RegionLaw
import Derived.Deep.AppendLies
import Derived.RecoverIn
import Derived.Stop.Asserts
import Derived.Lib.TrailingZeros
import Derived.RangeFuncNested
import Derived.RangeFuncBound
import Derived.Shelf.RegionOpen
import Derived.OwnWalkIn
import Derived.LoopNIn
import Derived.LoopIn
import Derived.Great.BuildSlice
import Derived.LaidMore
import Derived.Stop.Joined
namespace Go.Proofs.YtnnagkfoiganfaaGreatDoor
open Go.RowKit _root_.List _root_.Nat Go.ChangeShapes Go.WideShapes Go.ChangeAt Go.Deep Go.Proofs.Tryz
set_option linter.unusedVariables false
set_option linter.unusedSimpArgs false
set_option maxRecDepth 100000
set_option maxHeartbeats 40000000
inductive XD|xd (b o:Nat)
inductive XI|xi (n:Int)
inductive XU|xu (n:Int)
inductive XG|xg (g n c:Nat)
inductive XP|xp (g:Nat)
inductive XK|xk (w:World) (b o:Nat) (v:Value)
inductive XW|xw (w:World) (a:Array Value) (t:TypeId)
inductive XT|xt (w:World) (b o:Nat) (v:Value)
inductive XE|xe
inductive XH|xh
inductive XF|xf (k:FuncId) (a:Array Value) (w:World) (v:Value)
open XD XI XU XG XP XK XW XT XF XE XH
instance:Coe World Nat:=⟨λw=>w.heap.size⟩
instance:Coe Bool Value:=⟨Value.bool⟩
instance:Coe ByteArray Value:=⟨Value.string⟩
instance {b o}:CoeDep XD (xd b o) Addr:=⟨⟨b,o,none⟩⟩
instance {n}:CoeDep XI (xi n) Value:=⟨.int .i64 n⟩
instance {n}:CoeDep XU (xu n) Value:=⟨.int .u64 n⟩
instance {g n c}:CoeDep XG (xg g n c) Value:=⟨.slice (some ⟨g,0,none⟩) n c⟩
instance {g}:CoeDep XP (xp g) Value:=⟨.pointer (some ⟨g,0,none⟩)⟩
instance {w b o v}:CoeDep XK (xk w b o v) Prop:=⟨w.cell? ⟨b,o,none⟩=some v⟩
instance {w a t}:CoeDep XW (xw w a t) World:=⟨w.alloc (.cells a t)⟩
instance {w b o v}:CoeDep XT (xt w b o v) World:=⟨w.setCell ⟨b,o,none⟩ v⟩
instance:CoeDep XE xe Value:=⟨.string ⟨#[]⟩⟩
instance:CoeDep XH xh Value:=⟨.slice none 0 0⟩
instance {k a w v}:CoeDep XF (xf k a w v) Prop:=⟨Calls prog k a w λe w'=>e=.returned v/\Below w.heap.size w w'⟩
variable {w W:World} {o:Obj}
theorem qN(h:W=w.alloc o):Below w.heap.size w W:=by rw[h];exact (Below.refl _ _).alloc (Nat.le_refl _) _
theorem qS(h:W=w.alloc o):W.heap.size=w.heap.size+1:=by rw[h];simp
variable {n:Nat}
theorem qr:n<=n:=Nat.le_refl n
variable {i:Nat}
theorem qg{α}{l:List α}(h:i<l.length):∃x,l[i]?=some x:=⟨_,getElem?_eq_getElem h⟩
theorem qf{α}{l:List α}{x:α}(h:l[i]?=some x):i<l.length:=(List.getElem?_eq_some_iff.1 h).1
theorem qA:(∀(a:Act)(n:Nat)(v:Value),a.put (some n) v={a with tmps:=a.tmps.setIfInBounds n v})/\(∀(a:Act)(v:Value),a.put none v=a)/\(∀(l:List Value)(i:Nat)(v:Value),l.toArray.setIfInBounds i v=(l.set i v).toArray)/\
  (∀(x v:Value)(l:List Value),(x::l).set 0 v=v::l)/\(∀(x v:Value)(l:List Value)(i:Nat),(x::l).set (i+1) v=x::l.set i v):=
 ⟨λ_ _ _=>rfl,λ_ _=>rfl,λ_ _ _=>by simp,λ_ _ _=>rfl,λ_ _ _ _=>rfl⟩
theorem qE{α:Sort _}(x:α):∃y,y=x:=⟨x,rfl⟩
theorem qB:Below w.heap.size w (w.alloc o):=(Below.refl _ _).alloc (Nat.le_refl _) _
variable {p:Prop}
theorem qo(h:p:=by omega):p:=h
theorem qk(h:p:=by kernel_rfl):p:=h
theorem qj(h:p:=by decide):p:=h
variable {a:Prop}
theorem qH1(x:a):Hid a:=x
variable {b:Prop}
theorem qH2(x:a)(y:b):Hid (a/\b):=⟨x,y⟩
theorem qH3{c:Prop}(x:a)(y:b)(z:c):Hid (a/\b/\c):=⟨x,y,z⟩
variable {d:Prop}
theorem qH4{c:Prop}(x:a)(y:b)(z:c)(u:d):Hid (a/\b/\c/\d):=⟨x,y,z,u⟩
variable {e:Prop}
theorem qH5{c:Prop}(x:a)(y:b)(z:c)(u:d)(v:e):Hid (a/\b/\c/\d/\e):=⟨x,y,z,u,v⟩
theorem qH6{c f:Prop}(x:a)(y:b)(z:c)(u:d)(v:e)(w:f):Hid (a/\b/\c/\d/\e/\f):=⟨x,y,z,u,v,w⟩
theorem qH7{c f g:Prop}(x:a)(y:b)(z:c)(u:d)(v:e)(w:f)(r:g):Hid (a/\b/\c/\d/\e/\f/\g):=⟨x,y,z,u,v,w,r⟩
theorem qW(x:World):∃y,y=x:=⟨x,rfl⟩
theorem qw(x:a)(h:a->p:=by intro _;omega):p:=h x
theorem qv(x:a)(y:b)(h:a->b->p:=by intro _ _;omega):p:=h x y
theorem zY{q:Prop}(k:q)(h:q->p:=by intro z;go_wp2_with fail;go_roundw;(case rel=>exact z);case measure=>simp[intOf]<;>omega):p:=h k
theorem zR(x:a)(h:a->p:=by intro x;go_wp2;go_ret;exact⟨_,rfl,by simp[HG.out],x⟩):p:=h x
theorem zF(x:a)(h:a->p:=by intro x;go_wp2;go_ret;exact⟨_,rfl,by simp[HF.out],x⟩):p:=h x
theorem qn{α:Type}[BEq α][LawfulBEq α]{a b:α}(h:¬a=b):(a==b)=false:=beq_eq_false_iff_ne.2 h
theorem zzR0(h:p:=by (intro wz hSw;obtain⟨z0,z1,z2,z3,z4,z5,z6,z7,z8⟩:=hSw;go_simp;(try with_reducible rfl))):p:=h
theorem zzR1(h:p:=by (intro wz hSw;go_simp;(try simp only[zq,zr,zs,zwi,zwn,HW.1]);(try with_reducible rfl))):p:=h
theorem zzR3(h:p:=by (intro wz hSw;obtain⟨z0,z1,z2,z3,z4,z5,z6,z7,z8⟩:=hSw;go_simp;rw[HSM.out];by_cases q1:k.row.toList=c.row.toList<;>by_cases q2:k.fam.toList=c.fam.toList<;>by_cases q3:k.qual.toList=c.qual.toList<;>simp[q1,q2,q3])):p:=h
theorem zzR4(h:p:=by (intro wz hSw;go_simp;(try with_reducible rfl))):p:=h
theorem zzR5(h:p:=by (intro wz hSw;obtain⟨d0,d1,d2,d3,d4,d5,d6,d7,d8⟩:=hSw;go_simp;(try with_reducible rfl);(try (rw[<-xFx,Bool.not_not])))):p:=h
theorem zzQ0 (h:p:=by
 go_upto_region 7 with fail;go_wp2_with fail;refine HRp.mono ?_;rintro e w3 ⟨u,rfl,hb3,hu⟩;obtain⟨os,ho,hU0⟩:∃os,yDn (sb n.s) 0 0 n.s.size os/\yDo w3 (Bet W2.heap.size w3.heap.size) os u:=by
  rcases hu with⟨_,os,h1,h2⟩|⟨q,_⟩
  .exact⟨os,h1,h2⟩
  .exact absurd (HG.out hP0.out) q
 obtain⟨ua,un,uc,rfl⟩:∃a n cp,u=.slice a n cp:=by obtain⟨g,n,cp,rfl⟩:=hU0.slice;exact⟨_,_,_,rfl⟩
 obtain⟨cc,hcc⟩:∃c,c=(yAj (sb n.s)).1:=⟨_,rfl⟩;obtain⟨kk,hkk⟩:∃k:Int,k=((yAj (sb n.s)).2:Int):=⟨_,rfl⟩;rw[<-hcc,<-hkk];clear hcc hkk hu;obtain⟨W4,hW4⟩:=qW ((w3.alloc (Obj.cells #[.slice ua un uc] 304)).alloc (Obj.cells #[.int .i64 cc,.int .i64 kk] 158));have hb4:Below w3.heap.size w3 W4:=by rw[hW4];exact(qB).alloc (by simp) _
 have hz3:=hb3.size;have hz4:=hb4.size;have k24:Below W2.heap.size W2 W4:=hb3.trans (hb4.mono hz3);have HA4:Hid (yA W4 w.heap.size 304 1 w3.heap.size [.slice ua un uc]/\Below W2.heap.size W2 W4/\W2.heap.size<=W4.heap.size):=by refine⟨?_,k24,by omega⟩;rw[hW4];exact yA.ofHeap (vs:=#[.slice ua un uc]) (heap_alloc2_old w3 _ _) qo rfl
 obtain⟨nn,hg0⟩:=ho.gr;have ecut:cut (sb n.s) 0 n.s.size=sb n.s:=by unfold cut;rw[drop_zero,Nat.sub_zero,<-yAe,take_length]
 rw[ecut]at hg0;have hwt:wtA os<=250:=by have:=yXs (λxs t q=>yXr nn xs t q) hg0;rw[yAe]at this;omega
 have hU4:yDo W4 (Bet W2.heap.size w3.heap.size) os (.slice ua un uc):=hU0.move (S:=λ_=>False) (Chg.of_below hb4) (λq hq=>hq.elim) (λq _ z=>z);obtain⟨dd,hU5⟩:=hU4;have hT4:TabD W4:=HT.1.chg (S:=λ_=>False) (Chg.of_below (HW2.2.2.2.trans (k24.mono HW2.2.2.2.size))) (λq=>q);obtain⟨sa,sn,sc,hsl,hmk⟩:=yIq W4 hT4 (λk hk=>qw hk.2) hU5 hwt;simp only[Value.slice.injEq]at hsl;obtain⟨rfl,rfl,rfl⟩:=hsl;have HMk:Hid (Calls prog 221 #[.agg #[.slice ua un uc]] W4 (MkR os W4)):=hmk;have HGr:Hid (AltG (yAm nn) os (sb n.s)/\wtA os<=250):=⟨hg0,hwt⟩;obtain⟨rb,hrb⟩:=qE w3.heap.size;rw[<-hrb]at HA4;go_upto_region 8 with fail;rw[<-hW4,<-hrb];clear hW4 hrb ho hU0 hU5 hg0 hwt hT4 hmk ecut k24 hb3 hb4 hz3 hz4;have a0:=HA4.1.cell (j:=0) rfl;have HB4:Hid (∀wx,Below W4.heap.size W4 wx->yA wx w.heap.size 286 8 (w.heap.size+1) (#[.int .i64 0,.string ⟨#[]⟩,.bool false,.string ⟨#[]⟩,.int .u64 0,.int .u64 0,.int .i64 0,.pointer none]).toList/\yA wx w.heap.size 286 8 (w.heap.size+1+1) (yKh n none)/\Below w.heap.size w wx):=λwx hx=>by have k:=HA4.2.1.trans (hx.mono HA4.2.2);exact⟨HW2.2.1.below k,HW2.2.2.1.below k,HW2.2.2.2.trans (k.mono HW2.2.2.2.size)⟩
 go_wp2_with fail;refine HMk.mono ?_;rintro e w5 ⟨M,G,cp,mp,rfl,H5⟩;have hB5:=HB4.out w5 H5.2.2.2;have q7:=hB5.2.1.cell (j:=7) rfl;have g7:=hB5.2.1.frozen 7;have hlm:=H5.1.ltM;have hlg:=H5.1.ltG;have hlp:=H5.2.2.1;have hlp2:mp<w5.heap.size:=(Array.getElem?_eq_some_iff.1 H5.2.1).1;have hz4:=HA4.2.2;obtain⟨W6,hW6⟩:=qW (w5.setCell ⟨w.heap.size+1+1,7,none⟩ (.pointer (some ⟨M,0,none⟩)));have hc6:Chg (λk=>k=w.heap.size+1+1) w5 W6:=by rw[hW6];exact Chg.of_set _ _ _ _ rfl
 have hs6:W6.heap.size=w5.heap.size:=by rw[hW6];simp
 have HBx:Hid (yA W6 w.heap.size 286 8 (w.heap.size+1) (#[.int .i64 0,.string ⟨#[]⟩,.bool false,.string ⟨#[]⟩,.int .u64 0,.int .u64 0,.int .i64 0,.pointer none]).toList/\Below w.heap.size w W6/\w.heap.size+1<W6.heap.size/\yDm W6 (w.heap.size+1+1+1) W6.heap.size n (.pointer (some ⟨M,0,none⟩))):=by
  refine⟨hB5.1.chg hc6 qo,Chg.below hB5.2.2 hc6 hB5.2.2.size (λk q=>by omega),qw hB5.2.2.size,.inr ⟨hP0.out,M,rfl,?_⟩⟩;have hcor:=yQ7 (.alt os) 1;have e1:lyP (.alt os) 1=lyA os (Lay.no 1):=by simp only[lyP]
  rw[e1]at hcor;have hnx:(lyA os (Lay.no 1)).nx<=256:=by have h8:=nx_A os (Lay.no 1);have h9:=HGr.2;simp only[Lay.no]at h8;simp only[Lay.no];omega
  have hM5:yH2 w5 W4.heap.size w5.heap.size M n.s:=⟨_,_,_,_,_,_,_,os,nn,HGr.1,HG.out hP0.out,H5.1,⟨0,StI.made H5.2.1⟩,λb p hp=>(hcor.spt.tk p _ hp).2,hcor.spt.le,hnx,hlp,hlm.2,hlg.2,hlp2,λs=>by
   have:=yYb os hnx s
   exact this⟩
  have h9:=hM5.chg hc6 (λk q z=>qw z.1) (λq z=>qw HT.1.lt);rw[hs6];exact h9.wide qo (Nat.le_refl _) (qw HT.1.lt)
 have HB6:Hid (yA W6 w.heap.size 286 8 (w.heap.size+1+1) (yKh n (some ⟨M,0,none⟩))):=by rw[hW6];exact hB5.2.1.set 7 _
 have HE2:Hid (CteP n w (.returned (.agg #[.int .i64 n.kind,.string n.s,.bool n.hi,.string n.t,.int .u64 n.lo,.int .u64 n.up,.int .i64 n.n,.pointer (some ⟨M,0,none⟩)])) (set8 W6 (w.heap.size+1) n (some ⟨M,0,none⟩))/\yA (set8 W6 (w.heap.size+1) n (some ⟨M,0,none⟩)) w.heap.size 286 8 (w.heap.size+1) (yKh n (some ⟨M,0,none⟩))):=HF.out W6 (some ⟨M,0,none⟩) HBx.1 HBx.2.1 HBx.2.2.1 HBx.2.2.2;clear hlm hlg hlp hlp2 hz4 hc6 hs6 H5 hB5;go_upto_region 9 with fail;rw[<-hW6];clear hW6 q7 g7 a0;obtain⟨W9,hW9⟩:=qE (set8 W6 (w.heap.size+1) n (some ⟨M,0,none⟩));rw[<-hW9]at HE2;simp only[set8]at hW9;obtain⟨m0,m1,m2,m3,m4,m5,m6,m7⟩:=HB6.c8;obtain⟨r0,r1,r2,r3,r4,r5,r6,r7⟩:=HBx.1.c8;obtain⟨f0,f1,f2,f3,f4,f5,f6,f7⟩:=HBx.1.f8;go_wp2;rw[<-hW9];exact bodyPost_ret (xDj (base:=w.heap.size) (g:=w.heap.size+1) rfl HE2.2) rfl HE2.1):p:=h
theorem zzQ1 (h:p:=by
 go_wp2_with fail;go_loopw[6,7] (λjv nv wr=>∃(j n:Nat)(f:UInt8->Bool),j<=p.size/\n<=j/\jv=.int .i64 (j:Int)/\nv=.int .i64 (n:Int)/\yCo (sb p) (i+1) false j (decide (0<n)) f/\wr=W0) (λjv _ _=>p.size-(intOf jv).toNat);case atStart=>exact⟨j0,0,λ_=>false,hj0,zero_le _,congrArg (Value.int .i64) (by rw[HJ0.out];simp<;>omega),rfl,HM0.out,rfl⟩
 case round=>
  obtain⟨j,n,f,hj,hnj,rfl,rfl,hE,hwr⟩:=hrel;have HE:Hid (yCo (sb p) (i+1) false j (decide (0<n)) f):=hE;rw[hwr];clear hE hwr HM0 HJ0 HNG;by_cases hlt:j<p.size
  .obtain⟨x,hx⟩:∃x,(sb p)[j]?=some x:=⟨_,getElem?_eq_getElem (by rw[yAe];exact hlt)⟩;obtain⟨_,gx⟩:=yAr hx;have HX:Hid ((sb p)[j]?=some x):=hx;have zj:(j:Int)<(p.size:Int):=by omega
   clear hx;by_cases hend:x=93/\0<n
   .obtain⟨rfl,hn0⟩:=hend;have zn:(0:Int)<(n:Int):=by omega
    have HF:Hid (∃f',yAq (sb p) (i+1)=.inl (f',j+1)):=by refine⟨if false=true then λc=> !f c else f,?_⟩;rw[HE.eq,decide_eq_true hn0,yOl HX.out]
    obtain⟨f',hf'⟩:=HF.out;have HF':Hid (yAq (sb p) (i+1)=.inl (f',j+1)):=hf';clear hf' HF;go_wp2_with fail;exact bodyPost_ret (v:=.tuple #[.int .i64 ((j+1:Nat):Int),.agg #[.int .i64 0,.int .i64 0]]) (yB7 rfl rfl (HS.out (.int .i64 0) (.int .i64 0)).1) rfl ⟨.inl ⟨f',j+1,HF'.out,rfl⟩,(HS.out (.int .i64 0) (.int .i64 0)).2⟩
   .have HG:Hid (clsM (sb p) j (decide (0<n)) f=match yBw (sb p) j with| .inr e=>.inr e| .inl (a,b,k)=>clsM (sb p) k true (wider f a b)):=xDl (by rw[yAe];omega) (λq=>hend ⟨by have h1:=q.1;rw[HX.out]at h1;exact Option.some.inj h1,by simpa using q.2⟩);obtain⟨lo,k,b,hch⟩:∃lo k b,chM (sb p) j=(lo,k,b):=⟨_,_,_,rfl⟩;have HCh:Hid (chM (sb p) j=(lo,k,b)):=hch;have hkl:b=true->k<=p.size/\j<k:=λq=>by subst q;have:=yEx hch;rw[yAe]at this;omega
    clear hch;have hpick:((x.toNat:Int)==93)=false\/(¬(0:Int)<(n:Int)):=by
     by_cases h93:x=93
     .exact .inr (λq=>hend ⟨h93,by omega⟩)
     .exact .inl (beq_eq_false_iff_ne.2 (yA8 (c:=93) h93))
    clear hend;have hpk:(((x.toNat:Int)==93)=false)\/(((x.toNat:Int)==93)=true/\n=0):=by
     rcases hpick with q|q
     .exact .inl q
     .cases hq:((x.toNat:Int)==93)
      .exact .inl rfl
      .exact .inr ⟨rfl,by omega⟩
    clear hpick;rcases hpk with h93|⟨h93,hn0⟩;case' inr=>
     have zn:¬(0:Int)<(n:Int):=by omega
     clear hn0
    all_goals
     go_wp2_with fail
     refine(yD1 p j W0 hp qo lo k b HCh.out).mono ?_
     rintro e w1 ⟨rfl,hw1⟩
     rw[hw1]
     clear hw1
     cases b
     case false=>
      have HF:Hid (yAq (sb p) (i+1)=.inr (2,k)):=by show yAq (sb p) (i+1)=_;rw[HE.eq,HG.out];unfold yBw;rw[HCh.out]
      go_wp2_with fail;exact bodyPost_ret (v:=.tuple #[.int .i64 0,.agg #[.int .i64 2,.int .i64 (k:Int)]]) (yB7 rfl rfl (HS.out (.int .i64 2) (.int .i64 (k:Int))).1) rfl ⟨.inr ⟨2,k,HF.out,rfl⟩,(HS.out (.int .i64 2) (.int .i64 (k:Int))).2⟩
     obtain⟨hks,hjk⟩:=hkl rfl
     clear hkl
     by_cases h45:(sb p)[k]?=some 45
     .obtain⟨hk2,gk⟩:=yAr h45;have HK:Hid ((sb p)[k]?=some 45):=h45;have zk:(k:Int)<(p.size:Int):=by omega
      obtain⟨hh,m,b2,hch2⟩:∃hh m b2,chM (sb p) (k+1)=(hh,m,b2):=⟨_,_,_,rfl⟩;have HCh2:Hid (chM (sb p) (k+1)=(hh,m,b2)):=hch2;have hml:b2=true->m<=p.size/\k<m:=λq=>by subst q;have:=yEx hch2;rw[yAe]at this;omega
      clear hch2 h45;go_wp2_with fail;refine(yD1 p (k+1) W0 hp qo hh m b2 HCh2.out).mono ?_;rintro e w2 ⟨rfl,hw2⟩;rw[hw2];clear hw2;cases b2
      .have HF:Hid (yAq (sb p) (i+1)=.inr (2,m)):=by show yAq (sb p) (i+1)=_;rw[HE.eq,HG.out];unfold yBw;rw[HCh.out];simp only[];rw[if_pos HK.out,HCh2.out]
       go_wp2_with fail;exact bodyPost_ret (v:=.tuple #[.int .i64 0,.agg #[.int .i64 2,.int .i64 (m:Int)]]) (yB7 rfl rfl (HS.out (.int .i64 2) (.int .i64 (m:Int))).1) rfl ⟨.inr ⟨2,m,HF.out,rfl⟩,(HS.out (.int .i64 2) (.int .i64 (m:Int))).2⟩
      .obtain⟨hms,hkm⟩:=hml rfl;clear hml;by_cases hlo:hh<lo
       .have zlo:(hh.toNat:Int)<(lo.toNat:Int):=by have:=UInt8.lt_iff_toNat_lt.1 hlo;omega
        have HF:Hid (yAq (sb p) (i+1)=.inr (4,j)):=by show yAq (sb p) (i+1)=_;rw[HE.eq,HG.out];unfold yBw;rw[HCh.out];simp only[];rw[if_pos HK.out,HCh2.out];simp only[];rw[if_pos hlo]
        go_wp2_with fail;exact bodyPost_ret (v:=.tuple #[.int .i64 0,.agg #[.int .i64 4,.int .i64 (j:Int)]]) (yB7 rfl rfl (HS.out (.int .i64 4) (.int .i64 (j:Int))).1) rfl ⟨.inr ⟨4,j,HF.out,rfl⟩,(HS.out (.int .i64 4) (.int .i64 (j:Int))).2⟩
       .have zlo:(lo.toNat:Int)<=(hh.toNat:Int):=by have:=UInt8.le_iff_toNat_le.1 (UInt8.not_lt.1 hlo);omega
        have HF:Hid (yCo (sb p) (i+1) false m true (wider f lo hh)):=by show yCo _ _ _ _ _ _;unfold yCo;rw[HE.eq,HG.out];unfold yBw;rw[HCh.out];simp only[];rw[if_pos HK.out,HCh2.out];simp only[];rw[if_neg hlo]
        clear hlo;go_wp2_with fail;go_roundw;case rel=>exact⟨m,n+1,wider f lo hh,hms,by omega,rfl,by go_num,by rw[decide_eq_true (succ_pos n)];exact HF.out,trivial⟩
        case measure=>simp[intOf];omega
     .have HK:Hid (¬(sb p)[k]?=some 45):=h45;have HF:Hid (yCo (sb p) (i+1) false k true (wider f lo lo)):=by show yCo _ _ _ _ _ _;unfold yCo;rw[HE.eq,HG.out];unfold yBw;rw[HCh.out];simp only[];rw[if_neg HK.out]
      clear h45;by_cases hke:k<p.size
      .obtain⟨y,hy⟩:∃y,(sb p)[k]?=some y:=⟨_,getElem?_eq_getElem (by rw[yAe];exact hke)⟩;obtain⟨_,gy⟩:=yAr hy;have zk:(k:Int)<(p.size:Int):=by omega
       have zy:((y.toNat:Int)==45)=false:=beq_eq_false_iff_ne.2 (yA8 (c:=45) (λq=>HK.out (by rw[hy,q])));clear hy;go_wp2_with fail;go_roundw;case rel=>exact⟨k,n+1,wider f lo lo,hks,by omega,rfl,by go_num,by rw[decide_eq_true (succ_pos n)];exact HF.out,trivial⟩
       case measure=>simp[intOf];omega
      .have zk:¬(k:Int)<(p.size:Int):=by omega
       go_wp2_with fail;go_roundw;case rel=>exact⟨k,n+1,wider f lo lo,hks,by omega,rfl,by go_num,by rw[decide_eq_true (succ_pos n)];exact HF.out,trivial⟩
       case measure=>simp[intOf];omega
  .have HF:Hid (yAq (sb p) (i+1)=.inr (2,p.size)):=by show yAq (sb p) (i+1)=_;rw[HE.eq,clsM,dif_neg (by rw[yAe];exact hlt),yAe]
   have zj:¬(j:Int)<(p.size:Int):=by omega
   go_wp2_with fail;exact bodyPost_ret (v:=.tuple #[.int .i64 0,.agg #[.int .i64 2,.int .i64 (p.size:Int)]]) (yB7 rfl rfl (HS.out (.int .i64 2) (.int .i64 (p.size:Int))).1) rfl ⟨.inr ⟨2,p.size,HF.out,rfl⟩,(HS.out (.int .i64 2) (.int .i64 (p.size:Int))).2⟩):p:=h
theorem zzQ2 (h:p:=by
 refine jS ?_;refine kO 14 HS3.out ?_;refine kL 15 ?_;refine qD ?_;obtain⟨W4,hW4⟩:=qW (set4 v3 M (bn*4) (sOr (T bn) (sOne a)));have HW4:Hid (MtrI W4 base M (yCp T (lyP (.byte b) a)) G1 cp1 (a+1) (yBo E (lyP (.byte b) a)) en mp/\yA W4 w 343 8 w zsA.toList/\Chg (λk=>k=M\/k=G) w W4/\(G1=G\/w.heap.size<=G1)):=by
  have hc:Chg (λk=>k=M) v3 W4:=by rw[hW4];exact yBa v3 M _ _ rfl
  have h1:MtrI W4 base M (updE T bn (sOr (T bn) (sOne a))) G1 cp1 (a+1) E en mp:=by rw[hW4,Nat.mul_comm bn 4];exact HM3.setT hlB _
  have k0:Chg (λk=>k=M\/k=G) w W0:=Chg.of_below HW0.2.2.1;have k1:Chg (λk=>k=M\/k=G) w1 v3:=Chg.of_below HV.out;have q0:=HW0.2.2.1.size;refine⟨h1.iff (λc p hc hp=>?_) (λq p hq hp=>by simp[yBo,lyP]) (λp hp q=>by have:=h1.new p hp q;simp[yBo,lyP,this]),HB3.1.chg hc qo,((k0.trans H1.2.1).trans k1).trans (hc.mono (λk q=>.inl q)),?_⟩
  .unfold yCp updE;by_cases e:c=bn
   .subst e;have:UInt8.ofNat c=b:=by rw[HBn.out];simp
    simp[sOr,sOne,lyP,this]
   .have:¬UInt8.ofNat c=b:=λq=>e (by rw[HBn.out,<-q,UInt8.toNat_ofNat'];omega);rw[if_neg e];simp[lyP,this]
  .rcases H1.2.2 with q|q
   .exact .inl q
   .exact .inr qo
 have HSp:Hid (∀wx:World,Calls prog 250 #[xi a] wx λe w'=>e=.returned (spV (sOne a) (sOne a))/\Below wx wx w'):=λwx=>yE5 a ha wx;have hW4':W4=(xt (((v3.setCell (xd M (bn*4)) (xu (wdN (sOr (T bn) (sOne a)) 0))).setCell (xd M (bn*4+1)) (xu (wdN (sOr (T bn) (sOne a)) 1))).setCell (xd M (bn*4+2)) (xu (wdN (sOr (T bn) (sOne a)) 2))) M (bn*4+3) (xu (wdN (sOr (T bn) (sOne a)) 3))):=hW4;rw[<-hW4'];clear hW4 hW4' g0 g1 g2 g3 y0 y1 y2 y3 HS0 HS3 r0;go_wp2_with fail;refine(HSp.out _).mono ?_;rintro e w5 ⟨rfl,hb5⟩;have HB5:=HW4.2.1.below hb5;obtain⟨r0,r1,r2,r3,r4,r5,r6,r7⟩:=HB5.c8;obtain⟨f0,f1,f2,f3,f4,f5,f6,f7⟩:=HB5.f8;have HF:Hid (LayR base M T G E en mp (lyP (.byte b) a) w (.returned (spV (sOne a) (sOne a))) (setSp w5 w (sOne a) (sOne a))/\yA (setSp w5 w (sOne a) (sOne a)) w 343 8 w (spL (sOne a) (sOne a))):=by have h5:=HW4.1.below hb5;have hc:Chg (λk=>k=w.heap.size) w5 (setSp w5 w (sOne a) (sOne a)):=yKm w5 _ _ _ rfl;have hG1:¬G1=w.heap.size:=λq=>yAb h5.row HB5 qj G1 rfl (by rw[q];rfl);refine⟨⟨G1,cp1,rfl,⟨h5.chg hc qo hG1 (λk q=>by omega),?_,HW4.2.2.2⟩⟩,HB5.setSp _ _⟩;have hx:=HW4.2.2.1.trans (Chg.of_below hb5);exact⟨hc.os.trans hx.os,hc.tape.trans hx.tape,hc.output.trans hx.output,Nat.le_trans hx.size hc.size,λj hj hn=>(hc.block j (Nat.lt_of_lt_of_le hj hx.size) qo).trans (hx.block j hj hn)⟩
 clear HB5 hb5;go_wp2;exact bodyPost_ret (v:=spV (sOne a) (sOne a)) (yEa (base:=w.heap.size) (g:=w.heap.size) rfl HF.2) rfl HF.1):p:=h
theorem zzQ4 (h:p:=by
 clear hx1 hng hj0;go_enter func255,ntmps255;go_wp2;go_loopw[5,7] (λjv inv wr=>∃(j:Nat)(it gb:Bool),j<=q.size/\jv=(xi j)/\inv=.bool gb/\Hid (∃g:UInt8->Bool,g b=gb/\clsM (sb q) j it g=.inl (f0,q.size))/\wr=w) (λjv _ _=>q.size-(intOf jv).toNat);case atStart=>exact⟨_,false,false,by omega,by first|rfl|go_num,rfl,⟨λ_=>false,rfl,HC0.out⟩,rfl⟩
 case round=>
  obtain⟨j,it,gb,hj,rfl,rfl,HC,hwr⟩:=hrel;rw[hwr];clear hwr;obtain⟨g,hg,hC⟩:=HC.out;have HG:Hid (g b=gb):=hg;rcases yZm hC with⟨h93,_,hf,hn⟩|⟨x,lo,k1,hx,hx93,hch,hk1,y,hy,hrest⟩
  .obtain⟨_,gx⟩:=yAr h93;have zj:(j:Int)<(q.size:Int):=by have:=yAn h93;rw[yAe]at this;omega
   have HF:Hid (gb=f0 b):=by show gb=_;rw[<-HG.out,hf]
   clear hC hg hf hn h93 HC0 HC;go_wp2;go_ret;exact⟨by rw[HF.out,HFn.out b];cases f0 b<;>rfl,rfl⟩
  .obtain⟨_,gx⟩:=yAr hx;obtain⟨_,gy⟩:=yAr hy;have hjl:=yAn hx;rw[yAe]at hjl hk1;have zj:(j:Int)<(q.size:Int):=by omega
   have zk:(k1:Int)<(q.size:Int):=by omega
   have hkj:=(yEx hch).1;have z93:((x.toNat:Int)==93)=false:=beq_eq_false_iff_ne.2 (yA8 (c:=93) hx93);have HCh:Hid (chM (sb q) j=(lo,k1,true)):=hch;clear hC hg hx hx93 hch hy HC0 HC;go_wp2_with fail;refine(yD1 q j w hq qo lo k1 true HCh.out).mono ?_;rintro e' w' ⟨rfl,hw'⟩;rw[hw'];clear hw';rcases hrest with⟨h45,hi,m,hch2,hcl⟩|⟨h45,hcl⟩
   .have z45:((y.toNat:Int)==45)=true:=by rw[h45];rfl
    have HCh2:Hid (chM (sb q) (k1+1)=(hi,m,true)):=hch2;have hm:=(yEx hch2);rw[yAe]at hm;have HCl:Hid (clsM (sb q) m true (λc=>g c || (decide (lo<=c) && decide (c<=hi)))=.inl (f0,q.size)):=hcl;have HZ:Hid (((k1:Int)+1)=((k1+1:Nat):Int)):=by show _=_;omega
    clear hch2 hcl h45;go_wp2_with fail;rw[HZ.out];refine(yD1 q (k1+1) w hq qo hi m true HCh2.out).mono ?_;rintro e' w' ⟨rfl,hw'⟩;rw[hw'];clear hw';cases gb
    case true=>
     have HV:Hid ((g b || (decide (lo<=b) && decide (b<=hi)))=true):=by show _=_;rw[HG.out];rfl
     go_wp2;go_roundw;case rel=>exact⟨m,true,true,by omega,by first|rfl|go_num,by first|rfl|(simp;omega),⟨_,HV.out,HCl.out⟩,trivial⟩
     case measure=>simp[intOf];omega
    case false=>
     by_cases hlo:lo<=b
     .have hd1:((lo.toNat:Int)<=(b.toNat:Int)):=qw (UInt8.le_iff_toNat_le.1 hlo)
      by_cases hhi:b<=hi
      .have hd2:((b.toNat:Int)<=(hi.toNat:Int)):=qw (UInt8.le_iff_toNat_le.1 hhi)
       have HV:Hid ((g b || (decide (lo<=b) && decide (b<=hi)))=true):=by show _=_;rw[HG.out];simp[hlo,hhi]
       go_wp2;go_roundw;case rel=>exact⟨m,true,true,by omega,by first|rfl|go_num,by first|rfl|(simp;omega),⟨_,HV.out,HCl.out⟩,trivial⟩
       case measure=>simp[intOf];omega
      .have hd2:¬((b.toNat:Int)<=(hi.toNat:Int)):=λq=>hhi (UInt8.le_iff_toNat_le.2 qo);have HV:Hid ((g b || (decide (lo<=b) && decide (b<=hi)))=false):=by show _=_;rw[HG.out];simp[hhi]
       go_wp2;go_roundw;case rel=>exact⟨m,true,false,by omega,by first|rfl|go_num,by first|rfl|(simp;omega),⟨_,HV.out,HCl.out⟩,trivial⟩
       case measure=>simp[intOf];omega
     .have hd1:¬((lo.toNat:Int)<=(b.toNat:Int)):=λq=>hlo (UInt8.le_iff_toNat_le.2 qo);have HV:Hid ((g b || (decide (lo<=b) && decide (b<=hi)))=false):=by show _=_;rw[HG.out];simp[hlo]
      go_wp2;go_roundw;case rel=>exact⟨m,true,false,by omega,by first|rfl|go_num,by first|rfl|(simp;omega),⟨_,HV.out,HCl.out⟩,trivial⟩
      case measure=>simp[intOf];omega
   .have z45:((y.toNat:Int)==45)=false:=beq_eq_false_iff_ne.2 (yA8 (c:=45) h45);have HCl:Hid (clsM (sb q) k1 true (λc=>g c || (decide (lo<=c) && decide (c<=lo)))=.inl (f0,q.size)):=hcl;clear hcl h45;cases gb
    case true=>
     have HV:Hid ((g b || (decide (lo<=b) && decide (b<=lo)))=true):=by show _=_;rw[HG.out];rfl
     go_wp2;go_roundw;case rel=>exact⟨k1,true,true,by omega,by first|rfl|go_num,by first|rfl|(simp;omega),⟨_,HV.out,HCl.out⟩,trivial⟩
     case measure=>simp[intOf];omega
    case false=>
     by_cases hlo:lo<=b
     .have hd1:((lo.toNat:Int)<=(b.toNat:Int)):=qw (UInt8.le_iff_toNat_le.1 hlo)
      by_cases hhi:b<=lo
      .have hd2:((b.toNat:Int)<=(lo.toNat:Int)):=qw (UInt8.le_iff_toNat_le.1 hhi)
       have HV:Hid ((g b || (decide (lo<=b) && decide (b<=lo)))=true):=by show _=_;rw[HG.out];simp[hlo,hhi]
       go_wp2;go_roundw;case rel=>exact⟨k1,true,true,by omega,by first|rfl|go_num,by first|rfl|(simp;omega),⟨_,HV.out,HCl.out⟩,trivial⟩
       case measure=>simp[intOf];omega
      .have hd2:¬((b.toNat:Int)<=(lo.toNat:Int)):=λq=>hhi (UInt8.le_iff_toNat_le.2 qo);have HV:Hid ((g b || (decide (lo<=b) && decide (b<=lo)))=false):=by show _=_;rw[HG.out];simp[hhi]
       go_wp2;go_roundw;case rel=>exact⟨k1,true,false,by omega,by first|rfl|go_num,by first|rfl|(simp;omega),⟨_,HV.out,HCl.out⟩,trivial⟩
       case measure=>simp[intOf];omega
     .have hd1:¬((lo.toNat:Int)<=(b.toNat:Int)):=λq=>hlo (UInt8.le_iff_toNat_le.2 qo);have HV:Hid ((g b || (decide (lo<=b) && decide (b<=lo)))=false):=by show _=_;rw[HG.out];simp[hlo]
      go_wp2;go_roundw;case rel=>exact⟨k1,true,false,by omega,by first|rfl|go_num,by first|rfl|(simp;omega),⟨_,HV.out,HCl.out⟩,trivial⟩
      case measure=>simp[intOf];omega):p:=h
theorem zzQ5 (h:p:=by
 have hMm:¬M=mp:=yEn h.st.map h.st.mtr.box;have hGm:¬G=mp:=λq=>h.st.map.ne h.st.mtr.row q.symm;have hMa:¬M=w.heap.size+1+1:=λq=>yAb h.st.mtr.box h.st.ans qj M rfl (by rw[q];rfl);have hGa:¬G=w.heap.size+1+1:=λq=>yAb h.st.mtr.row h.st.ans qj G rfl (by rw[q];rfl);have hbp:base<=mp:=HLp.out;have hc8:Chg (λk=>k=Dd) W7 (W7.putObj Dd (.deferred none)):=Chg.of_grown (grownBy_putObj' W7 Dd _) (λj q=>by cases q;rfl);have hDd:=HA.2.2.2.2;have HF:Hid (StQ base M T G cp a E en mp S w (.returned (stV (ahd E S) (acc en S))) (W7.putObj Dd (.deferred none))/\yA (W7.putObj Dd (.deferred none)) w 330 5 (w+1+1) (stL (ahd E S) (acc en S))):=by have m6:=h.st.mtr.chg HA.2.2.2.1 hMm hGm (λk q=>by omega);have m7:=m6.chg hc7 hMa hGa (λk q=>by omega);have m8:=m7.chg hc8 qo qo (λk q=>by omega);have hx:Chg (λk=>k=mp) w w6:=h.low.trans HA.2.2.2.1;have hx7:=yI1 hx (hc7.mono (λk q=>by omega));have hx8:=yI1 hx7 (hc8.mono (λk q=>by omega));refine⟨⟨rfl,m8,(HA.2.2.1.chg hc7 ha2).chg hc8 (λq=>hDm q.symm),hx8⟩,?_⟩;have b7':=hA6.set5 (ahd E S) (acc en S);rw[<-hW7]at b7';exact b7'.chg hc8 qo
 have hW7':=hW7;simp only[set5]at hW7';clear hB6 hA6 hc7 hc8 hM6;gi_wp2;rw[<-hW7'];refine⟨by simp,.inl ⟨_,_,rfl,run_takeDeferred hKD,?_⟩⟩;exact⟨_,xC9 (base:=w.heap.size) (g:=w.heap.size+1+1) rfl HF.2,HF.1⟩):p:=h
theorem zzQ7 (h:p:=by
 refine yB9 (i:=2) (v:=?va2) rfl qk qk qk qk qj (λ_ _ _ h=>h) (Or.inl ⟨by rfl,?ya2⟩) (by simp) ?_;case ya2=>exact zzR1
 refine jS ?_;refine yB9 (i:=3) (v:=?va3) rfl qk qk qk qk qj (λ_ _ _ h=>h) (Or.inl ⟨by rfl,?ya3⟩) (by simp) ?_;case ya3=>exact zzR1
 refine jS ?_;refine yB9 (i:=4) (v:=?va4) rfl qk qk qk qk qj (λ_ _ _ h=>h) (Or.inl ⟨by rfl,?ya4⟩) (by simp) ?_;case ya4=>exact zzR1
 refine jS ?_;refine ja 5 (by simp) (v:=(xi n)) ?_;refine yB9 (i:=6) (v:=?va6) rfl qk qk qk qk qj (λ_ _ _ h=>h) (Or.inl ⟨by rfl,?ya6⟩) (by simp) ?_;case ya6=>exact zzR1
 refine jS ?_;refine yB9 (i:=7) (v:=?va7) rfl qk qk qk qk qj (λ_ _ _ h=>h) (Or.inl ⟨by rfl,?ya7⟩) (by simp) ?_;case ya7=>exact zzR1
 refine jS ?_;refine yB9 (i:=8) (v:=?va8) rfl qk qk qk qk qj (λ_ _ _ h=>h) (Or.inl ⟨by rfl,?ya8⟩) (by simp) ?_;case ya8=>exact zzR4
 refine jS ?_;refine kL 9 ?_;refine qD ?_;go_wp2;refine bodyPost_ret (v:=psV (sOr S (sOne a))) (by simp[results,results233,go_sem,HW.2]) rfl ⟨rfl,?_⟩;repeat (first|exact Below.refl _ _|refine Below.drew ?_|refine Below.alloc ?_ (by simp;done) _|refine Below.alloc ?_ (Nat.le_refl _) _|refine Below.alloc ?_ (by simp;omega) _)):p:=h
theorem zzQ8(h:p:=by refine jS ?_;refine qO 13 rfl λK hK=>?_;go_simp;refine(HEn.out _ HKwb.out).mono ?_;rintro e wy hy;have HY:=HTk.out _ _ HKwb.out e hy;obtain⟨rfl,_,_⟩:=hy;refine hK.out _ _ (.inl rfl) ?_;clear hK hS0;refine jS ?_;refine qD ?_;have HYH:Hid (Calls prog 217 #[xp t] wy (CnP base t g cap ks i k most c sm w)):=HY;clear HY;go_wp2_with fail;refine HYH.mono ?_;rintro e w9 h9;obtain⟨h91,h92,h93⟩:=h9;subst h91;have HRR:Hid (CnP base t g cap ks i k most c sm w (.returned (.bool (decide ((yFy sm k c).count<most)))) w9):=⟨rfl,h92,h93⟩;clear h92 h93;go_wp2;go_ret;exact HRR.out):p:=h
theorem zzQ9 (h:p:=by
 by_cases h1:op=1;case pos=>
  subst h1;obtain⟨B,hB,hq⟩:=yQi 1 a b free kind s hi t lo up nn;have HB:Hid (B=true↔b=0):=hB;clear hB;cases B
  case false=>have HG:Hid (¬P):=λq=>Bool.noConfusion (HB.2 (yGc.1 (HP.1 q)).2.1);exact zR kw1
  case true=>
  go_wp2_with fail;refine(yF4 ⟨1,a,b,free,⟨kind,s,hi,t,lo,up,nn⟩⟩ _ cnt _ rfl HO.out).mono ?_;rintro e w3 ⟨r,rfl,hr,hb3⟩;have HR:Hid (r=true↔yKz ⟨1,a,b,free,⟨kind,s,hi,t,lo,up,nn⟩⟩ cnt):=hr;have k3w:Below w w w3:=kw1.trans (hb3.mono qo);have HG:Hid (r=true↔P):=by show r=true↔P;rw[HR.out,HP.out,yGc];have hb0:b=0:=HB.1 (by simp);simp only[yKz,hb0,true_and]
  clear hr;go_wp2;go_ret;exact⟨_,rfl,HG.out,k3w⟩
 by_cases h5:op=5;case pos=>
  subst h5;obtain⟨B,hB,hq⟩:=yD2 5 a b free kind s hi t lo up nn a b;have HB:Hid (B=true↔(free=false/\NoNd ⟨kind,s,hi,t,lo,up,nn⟩)):=by show B=true↔_;rw[hB];simp only[true_and]
  clear hB;cases B
  case false=>have HG:Hid (¬P):=λq=>Bool.noConfusion (HB.2 (yKb.1 (HP.1 q)).1);exact zR kw1
  case true=>
  have HG:Hid (¬P):=λq=>qw ((yKb.1 (HP.1 q)).2.2.2)
  exact zR kw1
 by_cases h6:op=6;case pos=>
  subst h6;obtain⟨B,hB,hq⟩:=yD2 6 a b free kind s hi t lo up nn 0 b;have HB:Hid (B=true↔(a=0/\free=false/\NoNd ⟨kind,s,hi,t,lo,up,nn⟩)):=by show B=true↔_;rw[hB];simp only[true_and]
  clear hB;cases B
  case false=>
   have HG:Hid (¬P):=λq=>by have z:=yKa.1 (HP.1 q);exact Bool.noConfusion (HB.2 ⟨z.2.1,z.1⟩)
   exact zR kw1
  case true=>
  have HG:Hid (¬P):=λq=>qw ((yKa.1 (HP.1 q)).2.2)
  exact zR kw1
 by_cases h2:2<=op/\op<=4;case pos=>
  obtain⟨B,hB,hq⟩:=yD2 op a b free kind s hi t lo up nn 0 0;have HG:Hid (B=true↔P):=by show B=true↔P;rw[hB,HP.out,yK h1 h5 h6];exact⟨λz=>⟨h2,z.2.2,z.1,z.2.1⟩,λz=>⟨z.2.2.1,z.2.2.2,z.2.1⟩⟩
  clear hB;have h3:op=2\/op=3\/op=4:=by omega
  clear h1 h5 h6 h2;rcases h3 with rfl|rfl|rfl;all_goals go_wp2_with fail
  all_goals go_ret
  all_goals exact⟨_,rfl,HG.out,kw1⟩
 have HG:Hid (¬P):=λq=>h2 ((yK h1 h5 h6).1 (HP.1 q)).1;have h22:¬op=2:=by omega
 have h23:¬op=3:=by omega
 have h24:¬op=4:=by omega
 clear h2;exact zR kw1):p:=h
theorem xG3 (h:p:=by
 have heq:=yUx (stp E T Sk x);obtain⟨q0,q1,q2,q3⟩:=HW4.2.c4;cases hne:noE (stp E T Sk x)with
 |true=>
  rw[hne]at heq;have HFn:Hid ((false=true↔acc en (runS E T (sOne 0) (sb s))=true)):=by
   refine⟨λq=>(by cases q),λq=>?_⟩;rw[HN.2.2]at q;have hd:∀p,p<256->(stp E T Sk x) p=false:=λp hp=>by
    cases hx:(stp E T Sk x) p with
    |false=>rfl
    |true=>have:=(yY1 (stp E T Sk x)).2 ⟨p,hp,hx⟩;rw[hne]at this;cases this
   unfold acc at q;rw[any_eq_true]at q;obtain⟨p,hp,hx⟩:=q;rw[yPl E T _ _ hd p (mem_range.1 hp)]at hx;cases hx
  clear hne;go_wp2;go_ret;exact⟨false,rfl,HFn.out,HW4.1.mtr,HW4.1.map,HW4.1.chg⟩
 |false=>
  rw[hne]at heq;clear hne;have HSt:Hid (Calls prog 232 #[xp M,psV (stp E T Sk x)] W4 (StW base M T G cp a E en mp (stp E T Sk x) W4)):=yPd (stp E T Sk x) W4 HW4.1.mtr HW4.1.map (λp hp=>by
   unfold stp sAnd at hp
   rw[Bool.and_eq_true]at hp
   exact HT.out _ _ hp.2) ha hbm
  go_wp2_with fail;refine HSt.mono ?_;rintro e w5 ⟨rfl,H5⟩;have hne5:=HW4.1.ne;have HB5:=HW4.1.box.chg H5.2.2 (λq=>hne5.2.2.1 q.symm);have r0:=HB5.cell (j:=0) rfl;have f0:=HB5.frozen 0;have r1:=HB5.cell (j:=1) rfl;have f1:=HB5.frozen 1;have r2:=HB5.cell (j:=2) rfl;have f2:=HB5.frozen 2;have r3:=HB5.cell (j:=3) rfl;have f3:=HB5.frozen 3;have r4:=HB5.cell (j:=4) rfl;have f4:=HB5.frozen 4;have HJ2:Hid (MaU w base M T G cp a E en mp b5 (runS E T (sOne 0) ((sb s).take (k+1))) (set5 w5 b5 (ahd E (stp E T Sk x)) (acc en (stp E T Sk x)))):=by have hc:Chg (λj=>j=b5) w5 (set5 w5 b5 (ahd E (stp E T Sk x)) (acc en (stp E T Sk x))):=yI0 _ _ _ _ rfl;have hbl:=HW3.2;have hbs:=HI.2.2;rw[HN.1];exact⟨H5.1.chg hc hne5.1 hne5.2.1 (λj q=>by omega),H5.2.1.chg hc hne5.2.2.1,HB5.set5 _ _,yI1 (HW4.1.chg.trans H5.2.2) (hc.mono (λj q=>by omega))⟩
  simp only[set5]at HJ2;clear HB5;go_wp2_with fail;refine⟨⟨k+1,by omega,by go_num,HJ2⟩,?_⟩;go_light;simp[intOf];omega):p:=h
theorem xAs (h:p:=by
 intro g' cp' w' hO' hgr hat;have HJ7:Hid (PsJ p n w ts (j0+1) g' cp' (xs++ [b]) us' w'):=by have hb7:Below w6 w6 (xw w6 #[.int .u8 (b.toNat:Int)] 5):=qB;have hC:Chg (λj=>j=g) (xw w6 #[.int .u8 (b.toNat:Int)] 5) w':=Chg.of_grown hgr (λj hj=>by cases hj;rfl);have hJ':=HJ6.move hb7;exact⟨HB.2,HP.out,hO',hJ'.res.chg hC qo,Chg.below hJ'.below hC hJ'.below.size (λj q=>by omega)⟩
 clear hO' hgr hat;go_wp2;go_roundw;case rel=>exact⟨j0+1,g',cp',xs++ [b],us',by go_num,by omega,by simp;omega,by simp,HJ7.out⟩
 case measure=>simp[intOf];omega):p:=h
theorem yMx (h:p:=by
 rcases h.2 with⟨h0,_⟩|⟨g',cap',cur,hv,_,_,hn,hcap,_,_⟩
 .cases h0
 .simp only[Value.slice.injEq,Option.some.injEq,Addr.mk.injEq,and_true,true_and]at hv;obtain⟨rfl,rfl⟩:=hv;exact⟨hn,hcap⟩):p:=h
theorem xIm (h:p:=by
 refine ja 0 (HS7.out _ (HBl.out _ ((Below.refl _ _).drew))) ?_;iterate 8 refine jb (HS7.out _ (HBl.out _ ((Below.refl _ _).drew))) ?_
 refine qO 9 rfl λK hK=>?_;go_simp;refine(HU.out _).mono ?_;rintro r v5 ⟨rfl,hb5⟩;have HV5:Hid (RaI w base M T G cp a E en mp n D S b7 k W4 v5/\Below W W v5):=⟨HBl.out _ (((Below.refl W W).drew).trans hb5),((Below.refl W W).drew).trans hb5⟩;obtain⟨y0,y1,y2,y3⟩:=HV5.1.made.c4;obtain⟨o0,o1,o2,o3⟩:=HV5.1.made.f4;refine hK.out _ _ (.inr (HS7.out _ HV5.1)) ?_;clear hK hb5;refine jS ?_;refine ja 10 (HS7.out _ HV5.1) ?_;refine kL 11 ?_;refine qD ?_;have hc:Chg (λj=>j=b7) v5 (set4 v5 b7 0 (sOr (ahdT E S k) (E x))):=yBa _ _ _ _ rfl;have hb7:=HR4.2;have h5:=HV5.1;have hbw:w.heap.size<=b7:=h5.made.lt.1;have hLo:=HLo.out;have hM:¬M=b7:=λq=>yAb h5.st.mtr.box h5.made qj M rfl (by rw[q];rfl);have hG:¬G=b7:=λq=>yAb h5.st.mtr.row h5.made qj G rfl (by rw[q];rfl);have hp:¬mp=b7:=h5.st.map.ne h5.made;have hgt:w.heap.size+1+1<b7:=HGt.out;refine⟨rfl,⟨Nat.le_trans HV5.2.size hc.size,λj o hj ho _=>(hc.block j (Nat.lt_of_lt_of_le (Array.getElem?_eq_some_iff.1 ho).1 HV5.2.size) qo).trans ((HV5.2.block j (Array.getElem?_eq_some_iff.1 ho).1).trans ho)⟩,?_⟩;refine⟨h5.st.chg hc hM hG hp (λj q=>by omega),?_,Chg.below h5.low hc h5.low.size (λj q=>by omega),Nat.le_trans h5.size hc.size⟩;rw[xAf hkx HA.2.1 HA.2.2];have h6:=yFo h5.made 0 (sOr (ahdT E S k) (E x));exact h6):p:=h
theorem xG2 (h:p:=by
 have z3:(k:Int)<256:=by omega
 obtain⟨v,hv⟩:∃v,(setA (λc=>f c || (decide (a<=c) && decide (c.toNat<k)))).toList[k]?=some v:=⟨_,yGp _ k qo⟩;have d0:=HR.1.cell hv;have f0:=HR.1.frozen k;have HN:Hid (yBd (xt wr w k (.bool true)) w w (λc=>f c || (decide (a<=c) && decide (c.toNat<k+1)))/\yBd (xt wr w k (.bool true)) w (w+1) (λ_=>false)/\PrAt (xt wr w k (.bool true)) base g p k5 o/\Chg (λk=>k=g) w (xt wr w k (.bool true))):=by
  refine⟨?_,yA.beside HR.2.1 qo k _,yA.beside HR.2.2.1 qo k _,HR.2.2.2.absorb (Chg.of_set wr w k _ (S:=λq=>q=w.heap.size) rfl) (λj q=>.inr qo)⟩;have h5:=HR.1.set k (.bool true);rw[yUn _ k true qo]at h5;have hn:(UInt8.ofNat k).toNat=k:=by rw[UInt8.toNat_ofNat'];omega
  refine yBd.ext h5 (λc=>?_);by_cases hc:c=UInt8.ofNat k
  .have h6:a<=c:=UInt8.le_iff_toNat_le.2 (by rw[hc,hn];exact hk0);rw[if_pos hc,decide_eq_true h6,decide_eq_true (show c.toNat<k+1 by rw[hc,hn];omega)];simp
  .rw[if_neg hc];have h6:¬c.toNat=k:=λq=>hc (UInt8.toNat_inj.1 (by rw[hn];exact q));rw[show decide (c.toNat<k+1)=decide (c.toNat<k)from decide_eq_decide.2 ⟨λq=>by omega,λq=>by omega⟩]
 clear hv HR;go_wp2;go_roundw;case rel=>exact⟨k+1,by omega,by omega,by go_num,HN.1,HN.2.1,HN.2.2.1,HN.2.2.2⟩
 case measure=>simp[intOf];omega):p:=h
theorem xD7(h:p:=by refine qO 8 rfl λK hK=>?_;obtain⟨z0,z1,z2,z3,z4,z5⟩:=hS0;have hS0:=And.intro z0 (And.intro z1 (And.intro z2 (And.intro z3 (And.intro z4 z5))));go_simp;refine hK.out _ _ (.inr hS0) ?_;clear hK;refine jS ?_;obtain⟨V,hV⟩:=qW (setCs wb g o (entC c).kc);have HR:Hid (EnP base t g cap ks i k most c false w (.returned (.tuple #[])) V):=HKwb.fin (by rw[HO.out];exact hV);obtain⟨c0,c1,c2,c3⟩:=HKwb.ck.cells;have fz:=HKwb.ck.frozen;rw[HO.out]at c0 c1 c2 c3;simp only[setCs,entC,Nat.add_assoc,Nat.reduceAdd]at hV;refine qO 9 rfl λK hK=>?_;go_simp;rw[<-hV];clear hV c0 c1 c2 c3 fz hS0;refine hK.out _ _ (.inl rfl) ?_;clear hK;refine jS ?_;refine qD ?_;go_wp2_with fail;exact bodyPost_end (results_none rfl _ _ _) rfl HR.out):p:=h
theorem xG1 (h:p:=by
 generalize wY.drew=WD at HI5 hS0|-;refine yK8 0 rfl hS0 ?_;refine yK8 1 rfl hS0 ?_;refine yK8 2 rfl hS0 ?_;refine yK8 4 rfl hS0 ?_;refine yK8 5 rfl hS0 ?_;refine yEr (i:=3) qk rfl (λK hK=>?_);go_simp;refine⟨trivial,(callsIn_wide.2 (HSh.out WD)).mono ?_⟩;rintro e w5 ⟨rfl,hb5⟩;have hS5:=HSS.out _ (HI5.1.below hb5) (HI5.2.1.below hb5);obtain⟨fn,tmps,assign,body,hy,hRy⟩:=HYs.out w5 (HI5.2.2.trans (hb5.mono HI5.2.2.size));refine hK.out _ _ (.inr hS5) ?_;clear hK hS0 hb5;refine jS ?_;refine yEr (i:=6) qk rfl (λK hK=>?_);go_simp;refine hRy.mono ?_;rintro e W9 ⟨rfl,hJ9⟩;rw[HNx.out]at hJ9;have HJ9:Hid (J nx ks' v' W9):=hJ9;refine hK.out _ _ (.inl qj) ?_;clear hK hS5 hJ9 hRy hy;refine jS ?_;refine yEr (i:=7) qk rfl (λK hK=>?_);go_simp;refine hK.out _ _ (.inl qj) ?_;clear hK;refine jS ?_;refine yKw qk ?_;obtain⟨o7,n7,c7,hsv7,hn7,hnc7,hcm7,ho7⟩:=HSx.out;have HE7:Hid (SvI b off M nx (.slice (some ⟨b,o7,none⟩) n7 c7)):=⟨o7,n7,c7,rfl,hn7,hnc7,hcm7,ho7⟩;have hlt7:n7<M-i:=qw HNl.out
 rw[hsv7];clear ho7 hn7;gi_wp2;go_roundw;case rel=>exact⟨nx,ks',v',qw HNl.out,HE7.out,HJ9.out⟩
 case measure=>(have h1:=HRn.out;have h3:=hlt7;rw[<-h1]at h3;exact h3)):p:=h
theorem xD6 (h:p:=by
 have hcv:=yG7 HJ6.own;obtain⟨r0,r1⟩:=HJ6.res.c2;obtain⟨f0,f1⟩:=HJ6.res.f2;obtain⟨W9,hW9⟩:=qW (set2 w6 w (.string ⟨xs.toArray⟩) (.bool false));have HW9:Hid (yA W9 w 268 2 w [.string ⟨xs.toArray⟩,.bool false]/\Below w w W9):=by rw[hW9];exact⟨yCr HJ6.res _ _,yAc (yAc HJ6.below (Nat.le_refl _) 0 _) (Nat.le_refl _) 1 _⟩
 obtain⟨p0,p1⟩:=HW9.1.c2;unfold set2 at hW9;go_wp2;rw[<-hW9,HP.out];refine bodyPost_ret (v:=.agg #[.string ⟨xs.toArray⟩,.bool false]) (by simp[results,results171,go_sem,p0,p1]) rfl ⟨rfl,HW9.2⟩):p:=h
theorem xIl(h:p:=by have hfd:=yUt c k;go_wp2_with fail;refine(HC.out _).mono ?_;rintro r w2 ⟨rfl,hb2⟩;have hs1:=hb1.size;have HK:Hid (Below w w w2):=(HW0.2.trans (hb1.mono hbw)).trans (hb2.mono qo);clear hb1 hb2 d0 d1 d2 d3 d4 d5 d6;go_wp2;go_ret;refine⟨_,rfl,?_,HK.out⟩;have hG:=HG.out;have hB:=HB.out;simp at hB;rw[HV.out];simp[yCb];simp_all):p:=h
theorem xIk (h:p:=by
 have zm:¬(m:Int)<(js.length:Int):=by omega
 have HF2:Hid (yC6 l (k+1)=some es):=by show _=_;rw[yD3 HJ.1 HX.out,HS.out];have:=HN.1;rw[take_of_length_le qo]at this;exact this
 clear hel;go_wp2;go_roundw;case rel=>exact⟨k+1,es,by omega,by go_num,⟨HF2.out,HN.2.1⟩,hbi⟩
 case measure=>simp[intOf];omega):p:=h
theorem yO0 (h:p:=by
 refine⟨h.1,?_⟩;rcases h.2 with hn|⟨g',cap',cur,hv,h1,rest⟩
 .exact .inl hn
 .exact .inr ⟨g',cap',cur,hv,Nat.le_trans hb h1,rest⟩):p:=h
theorem xG0(h:p:=by refine wpQuiet_nil ?_;rintro w1 ⟨⟨wx,hb1⟩,rfl⟩;have HJ1:=fin w1 hb1;clear e0 e1 HI hb1 fin HX;have b0:=HJ1.box.cell (j:=0) rfl;have r0:=HJ1.res.cell (j:=0) rfl;have rf:=HJ1.res.frozen 0;go_wp2;refine bodyPost_ret (v:=.agg #[.slice va us.length vc]) (by simp[results,results243,go_sem,World.cell?_setCell_same _ _ _ r0]) rfl ?_;have hc:=Chg.of_set w1 w 0 (.slice va us.length vc) (S:=λj=>j=w.heap.size) rfl;refine⟨HJ1.chg.absorb hc (λj q=>.inr qo),.inl ⟨k,ts,_,HJ1.ok,HE.out,rfl,?_,yA.chg HJ1.rd hc qo⟩⟩;refine(HJ1.row.seq HJ1.len (R:=λj=>w.heap.size+2<=j) (λi x t hx ht=>(HJ1.nodes i x t hx ht).move (S:=λ_=>False) (Chg.refl _ _) (λ_ q=>q.elim) (λ_ _ q=>q.1)) (λj hj=>(World.ownsRow.lt HJ1.row j hj).1)).move hc (λj q=>by subst q;exact λz=>by omega) (λj hj z=>⟨by omega,qw hc.size⟩)):p:=h
theorem xGz (h:p:=by
 clear he0;go_wp2;go_roundw;case rel=>exact⟨m+1,_,by omega,by go_num,HN2,kb5⟩
 case measure=>simp[intOf];omega):p:=h
theorem xAr (h:p:=by
 refine⟨h.1,?_⟩;rcases h.2 with hn|⟨g',cap',cur,hv,h1,h2,rest⟩
 .exact .inl hn
 .simp only[Value.slice.injEq,Option.some.injEq,Addr.mk.injEq,and_true,true_and]at hv;obtain⟨rfl,rfl⟩:=hv;exact .inr ⟨g,cap,cur,rfl,h1,by rw[hb.block g hg];exact h2,rest⟩):p:=h
theorem yVo(h:p:=by rintro e w1 ⟨rfl,hb1⟩;have HE:Hid (Below w w w1):=HW2.trans (hb1.mono HW2.size);clear hb1;go_wp2;go_ret;exact⟨by rw[hv];rfl,HE.out⟩):p:=h
theorem xGy (h:p:=by
 obtain⟨W3,hW3⟩:=qW (xt W2 wr 2 (xi ((x.nest:Int)+1)));have HK3:Hid (SoK w e WB wr x.valid a x (x.nest+1) W3):=by rw[hW3];exact HK2.more (x.nest+1)
 go_upto_region 8 with fail;rw[<-hW3];clear hW3 m0 o1 o2 o2f w2 w2f HK2;have o2:=HK3.ob.cell (j:=2) rfl;have w2:=HK3.so.whole.cell (j:=2) rfl;have w2f:=HK3.so.whole.frozen 2;obtain⟨a2,ha2⟩:=qE (max a (x.nest+1));have HFin:Hid (yA2 e.kind (j+1) a2 (os.drop (j+1))=tot/\a2<=2000):=⟨fin a2 (by rw[ha2,hlv];rfl),by omega⟩;have ha3:max (a:Int) ((x.nest:Int)+1)=(a2:Int):=by omega
 clear fin hlv ha2;go_wp2;go_roundw;case rel=>
  refine⟨j+1,a2,x.valid,by go_num,by omega,HFin.2,HVn.out,HFin.1,?_⟩;exact HK3.done a2
 case measure=>simp[intOf];omega):p:=h
theorem xGx (h:p:=by
 obtain⟨W3,hW3⟩:=qW (xt W2 wr 2 (xi ((x.nest:Int)+1)));have HK3:Hid (SoK w e WB wr false a x (x.nest+1) W3):=by rw[hW3];exact HK2.more (x.nest+1)
 go_upto_region 8 with fail;rw[<-hW3];clear hW3 m0 o1 o2 o2f w2 w2f HK2;have o2:=HK3.ob.cell (j:=2) rfl;have w2:=HK3.so.whole.cell (j:=2) rfl;have w2f:=HK3.so.whole.frozen 2;obtain⟨a2,ha2⟩:=qE (max a (x.nest+1));have HFin:Hid (yA2 e.kind (j+1) a2 (os.drop (j+1))=tot/\a2<=2000):=⟨fin a2 (by rw[ha2,hlv];rfl),by omega⟩;have ha3:max (a:Int) ((x.nest:Int)+1)=(a2:Int):=by omega
 clear fin hlv ha2;go_wp2;go_roundw;case rel=>
  refine⟨j+1,a2,false,by go_num,by omega,HFin.2,HVn.out,HFin.1,?_⟩;exact HK3.done a2
 case measure=>simp[intOf];omega):p:=h
theorem yK1(h:p:=by go_enter func208,ntmps208;go_wp2;go_ret;exact⟨rfl,rfl⟩):p:=h
theorem xIj(h:p:=by have HG:Hid (¬P):=λq=>yG3 HJ.1.flow HX.1 (HS.2 (λz=>Bool.noConfusion (HR2.1.2 z))) (HP.1 q);exact zR k4w):p:=h
theorem xGw (h:p:=by
 have HF:Hid (LayR base M T G E en mp l w (.returned (spV l.fst l.lst)) (setSp w5 w l.fst l.lst)/\yA (setSp w5 w l.fst l.lst) w 343 8 w (spL l.fst l.lst)):=by obtain⟨f1,f2,f3⟩:=yHl H1.1 HB5 ((Chg.of_below HW0.2.1).trans H1.2.1) l.fst l.lst;exact⟨⟨G1,cp1,rfl,⟨f1,f3,by rcases H1.2.2 with q|q;exact .inl q;exact .inr qo⟩⟩,f2⟩
 clear HB5;go_wp2;exact bodyPost_ret (v:=spV l.fst l.lst) (yEa (base:=w.heap.size) (g:=w.heap.size) rfl HF.2) rfl HF.1):p:=h
theorem xGv (h:p:=by
 have H:Hid (yAo a b=yE4 a.ts b.ts):=yZj h1 (by simp[ha,hb]);clear h1 ha hb;go_enter func148,ntmps148;go_wp2_with fail;refine(yBr a b _).mono ?_;rintro e w1 ⟨rfl,hb1⟩;obtain⟨hc1,hf1⟩:=yOw hb1;have hz1:w.heap.size+1<w1.heap.size:=by have:=hb1.size;simp at this;omega
 go_wp2_with fail;refine(yW1 _ _ _).mono ?_;rintro e w2 ⟨rfl,rfl⟩;go_wp2;go_ret;exact⟨yNn H.symm,((qB).alloc (by simp) _).trans (hb1.mono (by simp;omega))⟩):p:=h
theorem xD5 (h:p:=by
 go_wp2;go_loopw[1,5] (λl i wr=>l=(xi left)/\i=(xi 0)/\Below w w wr) (λ_ i _=>0);case atStart=>exact⟨rfl,rfl,Below.refl _ _⟩
 case round=>obtain⟨rfl,rfl,hb⟩:=hrel;go_wp2;go_ret;exact⟨rfl,hb⟩):p:=h
theorem xIi(h:p:=by rintro k A B row hA hg hr;have hc:Chg (λj=>row=some j) A B:=Chg.of_grown hg (λj q=>q);have hl:∀j,row=some j->W4.heap.size<=j:=λj q=>(hr j q).1;have hLo:=HLo.out;have hb7:=HR4.2;exact⟨hA.st.chg hc (λq=>qw (hl _ q)) (λq=>qw (hl _ q)) (λq=>qw (hl _ q)) (λj q=>qw (hl _ q)),hA.made.chg hc (λq=>qw (hl _ q)),Chg.below hA.low hc hA.low.size (λj q=>qw (hl _ q)),Nat.le_trans hA.size hc.size⟩):p:=h
theorem xD4 (h:p:=by
 go_wp2;go_loopw[1,5] (λc i wr=>c=(xi k)/\i=(xi 0)/\wr=w) (λ_ i _=>0);case atStart=>exact⟨rfl,rfl,rfl⟩
 case round=>obtain⟨rfl,rfl,rfl⟩:=hrel;go_wp2;go_ret;exact⟨rfl,Below.refl _ _⟩):p:=h
theorem xAq (h:p:=by
 rcases h with h|⟨b,off,cap,hv,hE,hlt,h1,h2⟩
 .exact .inl h
 .exact .inr ⟨b,off,cap,hv,hE.below hb qo,qw hb.size,h1,h2⟩):p:=h
theorem yXl (h:p:=by
 go_enter func88,ntmps88;go_wp2_with fail;all_goals go_ret
 all_goals exact⟨_,rfl,by simp_all,qB⟩):p:=h
theorem xGu (h:p:=by
 by_cases hgt:a<os1.nest+1
 .have zg:(a:Int)<(os1.nest:Int)+1:=by omega
  go_wp2;go_roundw;case rel=>exact⟨j+1,os1.nest+1,by go_num,by go_num,by omega,by omega,HFin.out _ qo,HJ2.out⟩
  case measure=>simp[intOf];omega
 .have zg:¬(a:Int)<(os1.nest:Int)+1:=by omega
  go_wp2;go_roundw;case rel=>exact⟨j+1,a,by go_num,rfl,by omega,by omega,HFin.out _ qo,HJ2.out⟩
  case measure=>simp[intOf];omega):p:=h
theorem xD3(h:p:=by go_wp2;go_ret;exact⟨yNn H.symm,((qB).alloc (by simp) _).trans (hb1.mono (by simp;omega))⟩):p:=h
theorem xGt (h:p:=by
 obtain⟨fn,tmps,assign,body,hy,hRy⟩:=HY.out i j wr.drew HJd.out HE.out;have hy2:segV b off cap (i,j)=.slice (some ⟨b,off+i*5,none⟩) (j-i) (cap-i):=rfl;rw[hy2]at hy;have x1:=(HR.out i wr.drew HJd.out).1;have hji:i<=j:=by omega
 gi_wp2;refine hRy.mono ?_;rintro e W3 ⟨rfl,hJ3⟩;have HJ3:Hid (J j W3):=hJ3;clear hJ3 hRy hy x1;gi_wp2;go_roundw;case rel=>exact⟨j,by omega,rfl,HJ3.out⟩
 case measure=>simp[intOf];omega):p:=h
theorem xGs (h:p:=by
 obtain⟨v0,v1,v2,v3⟩:=hbV.c4;have hP:LfP w R V:=by obtain⟨W1,W2,a,b,cc⟩:=HP2.out;refine⟨W1,W2,a,b,cc.trans ?_⟩;rw[hV,hU];exact(Chg.of_set _ _ _ _ (Nat.le_refl _)).trans (yAl (S:=λq=>w.heap.size<=q) _ (by show _<=_;omega) _ _ _)
 simp only[setCs,Nat.reduceAdd]at hV;rw[hU]at hV;rw[<-hV];exact bodyPost_ret (v:=rs.v) (by rw[HSt.out];simp[results,results156,go_sem,v0,v1,v2,v3]) rfl ⟨rfl,hP⟩):p:=h
theorem xD2 (h:p:=by
 go_wp2;go_loopw[5] (λi wr=>i=(xi 0)/\Below w w wr) (λi _=>0);case atStart=>exact⟨rfl,Below.refl _ _⟩
 case round=>obtain⟨rfl,hb⟩:=hrel;go_wp2;go_ret;exact⟨rfl,hb⟩):p:=h
theorem xAp (h:p:=by
 intro j u hu;have hj:j=0:=by have:=(List.getElem?_eq_some_iff.1 hu).1;simpa using this
 subst hj;simp at hu;rw[Addr.add_mid,<-hu];exact hc):p:=h
theorem xGr(h:p:=by go_wp2;exact bodyPost_ret (v:=spV l.fst l.lst) (yEa (base:=w.heap.size) (g:=w.heap.size) rfl HF.2) rfl HF.1):p:=h
theorem yVn(h:p:=by clear hgood;exact zR HW0.2):p:=h
theorem xAo (h:p:=by
 cases e1<;>cases e2
 all_goals
  go_enter func60,ntmps60
  go_wp2_with fail
  go_ret
  exact⟨by simp,up3 w _ _ _⟩):p:=h
theorem xGq (h:p:=by
 obtain rfl:k=s.size:=by omega
 have zk:¬(s.size:Int)<(s.size:Int):=by omega
 go_wp2;go_ret;refine⟨g,cp,ρ,γ,f,rfl,hcp.1,⟨HJ.1.read,(yNo (τ:=λx=>x==c) (λi j hij hj=>?_)).iff (λ_ _ _ _=>rfl) (λy=>by simp[Lg])⟩,HJ.2.2⟩;rw[yAe]at hj;rw[HJ.2.1 i j hij hj];by_cases e:j=i+1
 .have h1:i<s.size:=by omega
  simp[h1]
 .simp[e]):p:=h
theorem xD1(h:p:=by go_enter func187,ntmps187;go_wp2_with (go_at_call 213;refine(yGl _ _ _).mono ?_;rintro e w' ⟨rfl,rfl⟩);go_ret;exact⟨rfl,(qB).alloc (by simp) _⟩):p:=h
theorem xIh (h:p:=by
 go_wp2;go_roundw;case rel=>exact⟨k+1,_,by omega,by go_num,HN,kw5⟩
 case measure=>simp[intOf];omega):p:=h
theorem xAn(h:p:=by go_wp2_with fail;refine⟨⟨k+1,upd2 f k (k+1) bv,by omega,by go_num,HJ2⟩,?_⟩;go_light;simp[intOf];omega):p:=h
theorem xAm(h:p:=by unfold OwnG;rw[length_append,length_singleton,flatMap_append,flatMap_singleton];exact hO'):p:=h
theorem xAl(h:p:=by have HG:Hid (¬P):=λq=>p0 (HP.1 q).1;clear p0;exact zR hb0):p:=h
theorem xGp(h:p:=by go_enter func123,ntmps123;go_wp2;refine bodyPost_ret (v:=.agg #[xi br,.string bt]) (by simp[results,results123,go_sem]) rfl ⟨rfl,?_⟩;repeat (first|exact Below.refl _ _|refine Below.alloc ?_ (by first|(simp;done)|(simp;omega)) _|refine yAc ?_ (by first|(simp;done)|(simp;omega)) _ _)):p:=h
theorem xGo (h:p:=by
 have HN:Hid (∀(j:Nat)(y:Bk),j<k+1->bs[j]?=some y->yBe y.l y.cnt j):=λj y hj hy=>by
  by_cases e:j=k
  .subst e;have:=HX.2.2;rw[hy]at this;cases this
   exact HR.1 rfl
  .exact HJ.out j y qo hy
 go_wp2;go_roundw;case rel=>exact⟨k+1,by omega,by go_num,HN,kb3⟩
 case measure=>simp[intOf];omega):p:=h
theorem xD0(h:p:=by subst hes;refine⟨es,.inr ⟨b,off,m,rfl,λi e he=>(hp i e he).2,hlt,hl,HM.out⟩,λe he=>?_⟩;obtain⟨i,hi⟩:=getElem?_of_mem he;exact(hp i e hi).1):p:=h
theorem xGn (h:p:=by
 have hb1:Below w w w1:=(Below.refl _ _).grown hgrow (Nat.le_refl _) (λk hk=>by cases hk);clear hown hgrow;go_wp2;go_loopw[4] (λi wr=>i=(xi 0)/\wr=w1) (λi _=>0);case atStart=>exact⟨rfl,rfl⟩
 case round=>obtain⟨rfl,rfl⟩:=hrel;go_wp2;go_ret;exact⟨_,rfl,HW.out,hb1⟩):p:=h
theorem xGm (h:p:=by
 have hl:=congrArg List.length h;rw[yAw hm]at hl;simp at hl;have hj:j<m:=by omega
 obtain⟨d,hd⟩:∃d,p[j]?=some d:=⟨_,getElem?_eq_getElem qo⟩;rw[yBq (show j<=j+1 by omega) (show j+1<=m by omega),yCa hd]at h;simp at h;exact⟨by rw[hd,h.1],h.2,hj⟩):p:=h
theorem xGl (h:p:=by
 refine⟨a.toNat,Nat.le_refl _,by omega,congrArg (Value.int .i64) (yXu a),yBd.ext HW5.1 (λc=>?_),HW5.2.1,HI2.1,HW5.2.2⟩;by_cases q:a<=c
 .have:=UInt8.le_iff_toNat_le.1 q;rw[decide_eq_false (show¬c.toNat<a.toNat by omega)];simp
 .rw[decide_eq_false q];simp):p:=h
theorem xGk (h:p:=by
 simp only[setCs,Nat.reduceAdd]at hV;rcases hk with rfl|rfl|rfl
 all_goals
  go_region
  rw[<-hV]
  clear hV
  go_wp2_with fail
  refine bodyPost_ret (v:=.tuple #[.bool M.1,M.2.v]) ?_ rfl ⟨rfl,hbV.drew⟩
  rw[HMe.out]
  simp[results,results121,go_sem,v0,v1,v2,v3,v4]):p:=h
theorem xGj (h:p:=by
 by_cases hy0:y<0
 .go_wp2;go_ret;exact⟨_,rfl,.inl rfl,hb2⟩
 .have hy1:0<=y:=by omega
  have hy2:y+es.length<=left:=by omega
  go_wp2;go_roundw;case rel=>exact⟨k+1,y,by omega,by go_num,rfl,hy1,hy2,hb2⟩
  case measure=>simp[intOf];omega):p:=h
theorem xGi(h:p:=by have hi:i<bs.length:=(List.getElem?_eq_some_iff.1 hx).1;have c:=λj (hj:j<2)=>(World.ownsRow.cellAt h (i*2+j) qo).trans (yMv bs i x hx j hj);exact⟨by simpa using c 0 qo,by simpa using c 1 qo⟩):p:=h
theorem xGh (h:p:=by
 generalize hs: [s]=ss at h;cases h with
 |nil=>cases hs
 | @snoc ss os xs n ho h=>
   have e:=append_inj' (s₁:= []) (t₁:= [s]) hs rfl;obtain⟨e1,e2⟩:=e;subst e1;simp at e2;exact⟨xs,n,os,rfl,ho,h,e2⟩):p:=h
theorem xGg (h:p:=by
 by_cases hd1:d=1
 .have HG:Hid P:=HF.2 hd1;go_wp2;go_ret;exact⟨_,rfl,by simp[HG.out,hd1],kw⟩
 .have HG:Hid (¬P):=λq=>hd1 (HF.1 q);go_wp2;go_ret;exact⟨_,rfl,by simp[HG.out,hd1],kw⟩):p:=h
theorem xDz(h:p:=by have HG:Hid (¬P):=λq=>p1 (HF.1 q).2.1;go_wp2;go_ret;exact⟨_,rfl,by simp[HG.out,p0,p1],hb0⟩):p:=h
theorem xDy(h:p:=by subst hv;go_enter func119,ntmps119;go_wp2;go_ret;exact⟨rfl,(qB).alloc (by simp) _⟩):p:=h
theorem xDx (h:p:=by
 go_wp2;go_roundw;case rel=>exact⟨k+1,by omega,by go_num,h3⟩
 case measure=>simp[intOf];omega):p:=h
theorem xGf(h:p:=by exact {hI2.dc with mks:=⟨List.nodup_cons.2 ⟨λq=>qw (hI2.nd _ q),hI2.dc.mks.1⟩,λE hE=>(mem_cons.1 hE).elim (λq=>by subst q;exact⟨hI2.ll,hI2.mrk⟩) (λq=>hI2.dc.mks.2 E q)⟩}):p:=h
theorem xDw(h:p:=by have HG:Hid (¬P):=λq=>p0 (HF.1 q).1;go_wp2;go_ret;exact⟨_,rfl,by simp[HG.out,p0],hb0⟩):p:=h
theorem xDv(h:p:=by go_enter func193,ntmps193;go_wp2_with fail;rw[<-hW2];go_ret;exact hv▸HFin.out W2 HW2.out):p:=h
theorem xGe(h:p:=by have h1:=yBq (p:=p) (show j<=j+xs.length by omega) (show j+xs.length<=m by omega);rw[h]at h1;have h2:=append_inj h1 (by rw[yAw qo];omega);exact⟨h2.1.symm,h2.2.symm,by omega⟩):p:=h
theorem xGd (h:p:=by
 have hfs:fs=es:=by have h:=HO.2.1;rw[take_of_length_le (qw HO.1),take_of_length_le qo]at h;exact h
 go_wp2;go_ret;exact⟨_,rfl,by rw[<-hfs]at HO|-;exact HO.2.2,hb⟩):p:=h
theorem xGc (h:p:=by
 have H2:Hid (yFh es (m+1+1)):=yE7 HV.2 HKp.out HK.2.1 ho;go_wp2;go_roundw;case rel=>exact⟨m+1+1,by omega,by go_num,H.out,H2.out,hb4⟩
 case measure=>simp[intOf];omega):p:=h
theorem xGb(h:p:=by rw[<-hW9]at p0 p1 HZ9;go_wp2;rw[<-hW9];refine bodyPost_ret (v:=.agg #[.string ⟨#[]⟩,.bool false]) (by simp[results,results171,go_sem,p0,p1]) rfl ⟨rfl,HZ9.2⟩):p:=h
theorem xDu(h:p:=by go_enter func96,ntmps96;go_wp2;go_ret;exact⟨by simp,(qB).alloc (by simp) _⟩):p:=h
theorem xDt(h:p:=by simp only[List.cons.injEq,and_true]at hcs;exact⟨[],.inl ⟨none,0,hcs,rfl⟩,by simp⟩):p:=h
theorem xGa(h:p:=by clear hop;go_enter func139,ntmps139;go_wp2_with (go_at_call 185;refine(yM9 _ _).mono ?_;rintro e' w' ⟨rfl,rfl⟩);go_ret;exact⟨by rw[HL.out];rfl,rfl⟩):p:=h
theorem xG(h:p:=by go_enter func201,ntmps201;go_wp2;exact bodyPost_ret (v:=.agg #[xi ar,.string at_]) (by simp[results,results201,go_sem]) rfl ⟨rfl,zBl⟩):p:=h
theorem xF9(h:p:=by clear hz;go_wp2;rw[<-hW6];refine bodyPost_ret (v:=.agg #[.string ⟨#[]⟩,.bool false]) (by simp[results,results198,go_sem,p0,p1]) rfl ⟨rfl,HW6.2⟩):p:=h
theorem xF8(h:p:=by go_enter func93,ntmps93;go_wp2_with (go_at_call 145;refine(yJ0 _ _).mono ?_;rintro e' w' ⟨rfl,rfl⟩);go_ret;exact⟨by rw[HL.out];rfl,rfl⟩):p:=h
theorem xDs (h:p:=by
 cases fuel with
 |zero=>exact⟨hr,h⟩
 |succ n=>exact⟨λ_=>h,by rw[hr];simp⟩):p:=h
theorem xF7 (h:p:=by
 have zb:(200:Int)<(n:Int):=by omega
 have HF:Hid (¬yFk xs):=λq=>qv q.1 HN.out
 exact zF HW0.2):p:=h
theorem xF6(h:p:=by refine⟨λh0=>(by rw[hr]at h0;cases h0),λj hj=>?_⟩;rw[hr]at hj;simp at hj;subst hj;exact wpOp_step ho (λK' hK=>h K' (λa w hS hW=>hK a w ⟨hS,hW⟩))):p:=h
theorem xDr(h:p:=by go_enter func147,ntmps147;go_wp2;go_ret;exact⟨yNn H.symm,rfl⟩):p:=h
theorem xF5(h:p:=by have hj:=(List.getElem?_eq_some_iff.1 h).1;rw[drop_eq_getElem_cons hj,show os[j]=o from Option.some.inj ((getElem?_eq_getElem hj).symm.trans h)];rfl):p:=h
theorem xF4 (h:p:=by
 have z:(4000:Int)<(l.length:Int):=by omega
 have HG:Hid (¬P):=λq=>p1 (HP.1 q).2.1;clear p0 p1;exact zR hb0):p:=h
theorem xDq(h:p:=by go_enter func142,ntmps142;go_wp2;go_ret;exact⟨rfl,rfl⟩):p:=h
theorem xDp(h:p:=by go_enter func144,ntmps144;go_wp2;go_ret;exact⟨rfl,rfl⟩):p:=h
theorem xF3 (h:p:=by
 rintro e W2 ⟨⟨v,rfl⟩,(⟨hl,hq⟩|⟨c,hl,hq⟩)⟩
 .exact⟨none,_,run_endLoop hl (by simp),hq⟩
 .exact⟨some c,_,run_endLoop hl (by simp),hq⟩):p:=h
theorem xF2 (h:p:=by
 induction h with
 |nil=>exact .nil
 | @snoc ss os xs n ho h ih=>
   rw[length_append];refine IsT.snoc n ?_;rw[<-ho,<-length_append];exact ih):p:=h
theorem xF1(h:p:=by have hH:=hHd;clear hHd;go_enter func220,ntmps220;go_wp2_with fail;refine(HP.out _).mono ?_;rintro e w1 ⟨rfl,rfl⟩;go_wp2_with fail;exact zTh):p:=h
theorem xC5(h:p:=by exact h.move hR (Chg.of_below hb (S:=λ_=>False)) ⟨kf,vf,hI.turn hR.pr.mds (Chg.of_below hb (S:=λ_=>False)) (λq z=>z.elim)⟩ (λq z=>z.elim)):p:=h
theorem yXm(h:p:=by go_enter func83,ntmps83;go_wp2;go_ret;exact⟨rfl,rfl⟩):p:=h
theorem xC4(h:p:=by refine wpQuiet_nil ?_;rintro w2 ⟨⟨wx,hb2⟩,rfl⟩;go_wp2;go_ret;exact⟨_,rfl,iffF HF.out,HW1.2.2.1.trans (hb2.mono HW1.2.2.1.size)⟩):p:=h
theorem xC3(h:p:=by go_enter func169,ntmps169;go_wp2_with fail;refine(HS.out _).mono ?_;rintro e w1 ⟨rfl,hb1⟩;go_wp2;go_ret;exact⟨rfl,hb1⟩):p:=h
theorem xC2 (h:p:=by
 induction h with
 |nil=>intro k hk;cases hk
 |cons h1 _ ih=>
  intro k hk;rcases mem_cons.1 hk with rfl|hk
  .exact h1.tree
  .exact ih k hk):p:=h
theorem xC1 (h:p:=by
 have z:200<cnt:=by omega
 have HG:Hid (¬P):=λq=>p3 (HP.1 q).2.2.2.1;clear p0 p1;exact zR hb0):p:=h
theorem xC0 (h:p:=by
 go_wp2;go_ret;have e1:m=es.length:=by omega
 refine⟨fs,?_,HR.2.1,HR.2.2.1,?_,HG.out⟩
 .rw[HR.1,e1];rfl
 .rw[<-e1];exact HR.2.2.2):p:=h
theorem xCz (h:p:=by
 go_wp2;go_roundw;case rel=>exact⟨i+1,o,true,by omega,by omega,rfl,rfl,by go_num,HF.out,HB.out⟩
 case measure=>simp[intOf];omega):p:=h
theorem xCy (h:p:=by
 have h0:j=p.length:=by omega
 have:yBw p j=.inr (2,p.length):=by unfold yBw;rw[yTw (getElem?_eq_none qo),h0]
 rw[this]):p:=h
theorem xCx (h:p:=by
 have z:cnt<0:=by omega
 have HG:Hid (¬P):=λq=>p2 (HP.1 q).2.2.1;clear p0 p1;exact zR hb0):p:=h
theorem xCw(h:p:=by gi_wp2;refine⟨⟨k+1,bsd++ [y],W3.heap.size::Ds,_,_,_,_,_,_,_,_,_,_,_,_,_,_,by omega,HN.out,by rw[hkk];rfl⟩,?_⟩;simp[intOf];omega):p:=h
theorem xCv (h:p:=by
 rcases hT.mv with⟨q,hm⟩|⟨q,hm⟩
 .unfold PatK at q;omega
 .exact⟨false,hm,by rw[xDg q];unfold yB4 txtH;simp[h]⟩):p:=h
theorem xCu (h:p:=by
 go_roundw;case rel=>exact⟨x.b.toNat,sn,g,cp,m,cs,hr2,hs1,hs2,rfl,by rw[zb],HW2.1,HL.1,HR.1⟩
 case measure=>simp[intOf];omega):p:=h
theorem xCt (h:p:=by
 rcases h.cases with⟨rfl,rfl⟩|⟨g,cp,rfl,hO⟩
 .simp[Value.ownBlock]at hk
 .simp[Value.ownBlock]at hk;subst hk;exact hO.lt):p:=h
theorem xCs(h:p:=by exact(hn.mono (λ_ _ q=>yAm.mono (Nat.le_max_left _ _) q)).snoc (hm.mono (λ_ _ q=>yAm.mono (Nat.le_max_right _ _) q))):p:=h
theorem xCr (h:p:=by
 go_roundw;case rel=>exact⟨x.b.toNat,sn,g,cp,m,ks,hr2,hs1,hs2,rfl,by rw[zb],HJ.1,HL.1,HR.1⟩
 case measure=>simp[intOf];omega):p:=h
theorem xCq (h:p:=by
 go_wp2;go_roundw;case rel=>exact⟨j+1,by go_num,by omega,by omega,HN.out,hb⟩
 case measure=>simp[intOf];omega):p:=h
theorem xCp (h:p:=by
 rcases h.2 with q|⟨g,cap,cur,h1,h2,h3⟩
 .exact⟨h.1,.inl q⟩
 .exact⟨h.1,.inr ⟨g,cap,cur,h1,by omega,h3⟩⟩):p:=h
theorem xCo(h:p:=by obtain⟨n,hn⟩:=h;exact⟨n,hn.mono (λt v q=>q.mono (yI6 hc hS hl) (Nat.le_refl _)) (yI6 hc hS hl)⟩):p:=h
theorem xCn(h:p:=by go_enter func217,ntmps217;go_upto_region 1 with fail;go_quiet (fail);go_wp2;go_ret;exact HR.out _):p:=h
theorem xCm (h:p:=by
 intro j y hy;obtain rfl:j=0:=by have:=(List.getElem?_eq_some_iff.1 hy).1;simpa using this
 simp at hy;subst hy;simp):p:=h
theorem xCl(h:p:=by have HG:Hid (¬P):=λq=>p3 (HF.1 q).2.2.2;go_wp2;go_ret;exact⟨_,rfl,by simp[HG.out,p0,p1,p2,p3],hb0⟩):p:=h
theorem xCk(h:p:=by have HG:Hid (¬P):=λq=>p2 (HF.1 q).2.2.1;go_wp2;go_ret;exact⟨_,rfl,by simp[HG.out,p0,p1,p2],hb0⟩):p:=h
theorem xCj(h:p:=by have HG:Hid (P):=HF.2 ⟨p0,p1,p2,p3⟩;go_wp2;go_ret;exact⟨_,rfl,by simp[HG.out,p0,p1,p2,p3],hb0⟩):p:=h
theorem xCi (h:p:=by
 go_wp2;go_roundw;case rel=>exact⟨k+1,_,by omega,by go_num,HN,kw6⟩
 case measure=>simp[intOf];omega):p:=h
section
open Go.ChangeMaps (open_string shut_string)
structure Ent where
 row:ByteArray
 fam:ByteArray
 qual:ByteArray
 ts:Int
 kind:Int
 val:ByteArray
abbrev Ent.v(e:Ent):Value:=.agg #[e.row,e.fam,e.qual,xu e.ts,xi e.kind,e.val]
structure Ent.ok(e:Ent):Prop where
 row:e.row.size<=maxLen
 fam:e.fam.size<=maxLen
 qual:e.qual.size<=maxLen
 val:e.val.size<=maxLen
 ts:(Lit.int .u64 e.ts).wf=true
 kind:(Lit.int .i64 e.kind).wf=true
theorem yUs{a b:Bool}(h:a=b):Ending.returned a=.returned b:=by rw[h]
theorem isE(v:ByteArray):v.toList.isEmpty=decide (v.size=0):=by rw[ByteArray.toList_eq,Bool.eq_iff_iff];simp[<-ByteArray.size_data]
theorem orE(k:Int)(v:ByteArray)(h:¬k=0):(k==0 || v.toList.isEmpty)=decide (v.size=0):=by rw[isE];simp[h]
def vE(r f q:ByteArray)(k:Int)(v:ByteArray):Bool:=
 decide (1<=r.size/\r.size<=64/\1<=f.size/\f.size<=16/\q.size<=64/\v.size<=200/\0<=k/\k<=2/\(k=0\/v.size=0))
theorem yL(r f q v:ByteArray)(t k:Int)(w:World)(hr:r.size<=maxLen)(hf:f.size<=maxLen)(hq:q.size<=maxLen)(hv:v.size<=maxLen):
  Calls prog 94 #[.agg #[r,f,q,xu t,xi k,v]] w λe w'=>
   e=.returned (vE r f q k v)/\Below w w w':=by
 unfold maxLen at hr hf hq hv;go_enter func94,ntmps94;go_wp2;all_goals go_ret
 all_goals refine⟨yUs ?_,qB⟩
 all_goals unfold vE
 all_goals go_light
 all_goals first
  |(refine(decide_eq_true ?_).symm;omega)
  |(refine(decide_eq_false ?_).symm;omega)
  |(rw[orE _ _ ‹¬k=0›];refine decide_eq_decide.2 ⟨λh=>?_,λh=>?_⟩<;>omega)
theorem yLj(r f q v:ByteArray)(t k:Int)(w:World)(hr:r.size<=maxLen)(hf:f.size<=maxLen)(hq:q.size<=maxLen)(hv:v.size<=maxLen):
  Calls prog 98 #[.agg #[r,f,q,xu t,xi k,v]] w λe w'=>
   e=.returned (vE r f q k v)/\Below w w w':=by
 unfold maxLen at hr hf hq hv;go_enter func98,ntmps98;go_wp2;all_goals go_ret
 all_goals refine⟨yUs ?_,qB⟩
 all_goals unfold vE
 all_goals go_light
 all_goals (try simp only[beq_iff_eq,beq_eq_false_iff_ne,ne_eq]at*)
 all_goals first
  |(refine(decide_eq_true ?_).symm;omega)
  |(refine(decide_eq_false ?_).symm;omega)
  |(rw[isE];refine decide_eq_decide.2 ⟨λh=>?_,λh=>?_⟩<;>omega)
end
theorem Tryz.cellsStr:prog.cellsOf 9=1:=qk
theorem Tryz.cellsU64:prog.cellsOf 68=1:=qk
theorem Tryz.cellsI64:prog.cellsOf 2=1:=qk
theorem Tryz.cellsBool:prog.cellsOf 4=1:=qk
theorem yOw{w1:World}(hb:Below W W w1):(∀b o,b<W.heap.size->w1.cell? (xd b o)=W.cell? (xd b o))/\(∀b o,b<W.heap.size->w1.frozen? (xd b o)=W.frozen? (xd b o)):=
 ⟨λb o h=>hb.cell (p:=(xd b o)) h,λb o h=>hb.frozen (p:=(xd b o)) h⟩
abbrev Ent.cells(e:Ent):List Value:= [.string e.row,.string e.fam,.string e.qual,.int .u64 e.ts,.int .i64 e.kind,.string e.val]
def yB8(es:List Ent):List Value:=es.flatMap Ent.cells
theorem yDg(e:Ent) es:yB8 (e::es)=e.cells++yB8 es:=by simp[yB8]
theorem yOq es fs:yB8 (es++fs)=yB8 es++yB8 fs:=by simp[yB8]
theorem yN9(es:List Ent):(yB8 es).length=es.length*6:=by
 induction es with
 |nil=>rfl
 |cons e es ih=>rw[yDg,length_append,ih];simp;omega
theorem yW8 es:∀(k:Nat)(e:Ent),es[k]?=some e->∀j,j<6->(yB8 es)[k*6+j]?=e.cells[j]?:=by
 induction es with
 |nil=>intro k e h;simp at h
 |cons f es ih=>
  intro k e h j hj;rw[yDg];cases k with
  |zero=>
   simp at h;subst h;rw[getElem?_append_left (by show 0*6+j<6;omega)];simp
  |succ k=>
   simp at h;rw[getElem?_append_right (by show 6<=(k+1)*6+j;omega)];have:(k+1)*6+j-f.cells.length=k*6+j:=by show(k+1)*6+j-6=_;omega
   rw[this];exact ih k e h j hj
theorem yW7(es:List Ent):∀(k:Nat)(e e':Ent)(u:Value)(j:Nat),es[k]?=some e->j<6->e'.cells=e.cells.set j u->(yB8 es).set (k*6+j) u=yB8 (es.set k e'):=by
 induction es with
 |nil=>intro k e e' u j h;simp at h
 |cons f es ih=>
  intro k e e' u j h hj hc;rw[yDg];cases k with
  |zero=>
   simp at h;subst h;rw[set_append_left _ _ (by show 0*6+j<6;omega),set_cons_zero,yDg,hc];simp
  |succ k=>
   simp at h;rw[set_append_right _ _ (by show 6<=(k+1)*6+j;omega),set_cons_succ,yDg];have:(k+1)*6+j-f.cells.length=k*6+j:=by show(k+1)*6+j-6=_;omega
   rw[this,ih k e e' u j h hj hc]
def yFl(w:World)(b off:Nat)(es:List Ent):Prop:=
 ∀i e,es[i]?=some e->xk w b (off+i*6) e.row/\xk w b (off+i*6+1) e.fam/\xk w b (off+i*6+2) e.qual/\
  xk w b (off+i*6+3) (xu e.ts)/\xk w b (off+i*6+4) (xi e.kind)/\xk w b (off+i*6+5) e.val
variable {B:Nat} {w':World} {es:List Ent}
theorem yFl.below{b off:Nat}(h:yFl w b off es)(hb:Below B w w')(hlt:b<B):yFl w' b off es:=by
 intro i e he;have:=h i e he;refine⟨?_,?_,?_,?_,?_,?_⟩;all_goals rw[hb.cell (by exact hlt)]
 .exact this.1
 .exact this.2.1
 .exact this.2.2.1
 .exact this.2.2.2.1
 .exact this.2.2.2.2.1
 .exact this.2.2.2.2.2
def OwnE(w:World)(base g cap:Nat)(es:List Ent):Prop:=w.ownsRow base 165 6 (xg g es.length cap) es.length (yB8 es)
variable {base cap:Nat}
theorem OwnE.at{g:Nat}(h:OwnE w base g cap es):yFl w g 0 es:=by
 intro i e he;have hi:=qf he;have c:=λj (hj:j<6)=>(World.ownsRow.cellAt h (i*6+j) qo).trans (yW8 es i e he j hj);refine⟨?_,?_,?_,?_,?_,?_⟩
 .simpa using c 0 qo
 .simpa using c 1 qo
 .simpa using c 2 qo
 .simpa using c 3 qo
 .simpa using c 4 qo
 .simpa using c 5 qo
theorem OwnE.lt{g:Nat}(h:OwnE w base g cap es):base<=g/\g<w.heap.size:=World.ownsRow.lt h g rfl
theorem OwnE.below{g:Nat}(h:OwnE w base g cap es)(hb:Below B w w')(hg:g<B):OwnE w' base g cap es:=by exact xAr
theorem OwnE.set{g:Nat}(h:OwnE w base g cap es)(k j:Nat)(e e':Ent)(u:Value)(hk:es[k]?=some e)(hj:j<6)(hc:e'.cells=e.cells.set j u):
  OwnE (xt w g (k*6+j) u) base g cap (es.set k e'):=by
 have:=(World.ownsRow.stored h (k*6+j) u).1;rw[yW7 es k e e' u j hk hj hc]at this;unfold OwnE;rw[length_set];exact this
variable {k:Nat}
theorem yM6{fs:List Ent}{e:Ent}(h:fs.take k=es.take k)(hl:fs.length=es.length)(he:es[k]?=some e):(fs.set k e).take (k+1)=es.take (k+1):=by
 have a0:=qf he;apply ext_getElem?;intro j;have hj:=congrArg (λl=>l[j]?) h;simp only[getElem?_take]at hj|-;rw[getElem?_set];by_cases h1:j<k
 .have h2:j<k+1:=qo
  have h3:¬k=j:=qo
  simp only[h1,h2,h3,if_true,if_false]at hj|-;exact hj
 .by_cases h2:k=j
  .subst h2;have h3:k<k+1:=qo
   have h4:k<fs.length:=qo
   simp only[h3,h4,if_true,he]
  .have h3:¬j<k+1:=qo
   simp only[h3,if_false]
theorem Tryz.infoEnt:(prog.info? 165).map (λi=>(i.zero,i.size,i.bytes))=some (some (.agg #[xe,xe,xe,xu 0,xi 0,xe]),6,80):=qk
def yXo:Ent:=⟨⟨#[]⟩,⟨#[]⟩,⟨#[]⟩,0,0,⟨#[]⟩⟩
def yRm(w:World)(v:Value)(es:List Ent):Prop:=
 (∃a cap,v=.slice a 0 cap/\es= [])\/
 ∃b off cap,v=.slice (some ⟨b,off,none⟩) es.length cap/\yFl w b off es/\b<w.heap.size/\es.length<=cap/\cap<=maxLen
theorem yRm.below{v:Value}(h:yRm w v es)(hb:Below B w w')(hB:w.heap.size<=B):yRm w' v es:=by exact xAq
theorem yRm.own{g:Nat}(h:OwnE w base g cap es)(h1:es.length<=cap)(h2:cap<=maxLen):yRm w (xg g es.length cap) es:=
 .inr ⟨g,0,cap,rfl,h.at,h.lt.2,h1,h2⟩
theorem yC0{α:Type}{P:Nat->α->Prop}:∀n,(∀i,i<n->∃x,P i x)->∃l:List α,l.length=n/\∀i x,l[i]?=some x->P i x
 |0,_=>⟨[],rfl,λi x h=>by simp at h⟩
 |n+1,h=>by
  obtain⟨l,hl,hp⟩:=yC0 n (λi hi=>h i (by omega))
  obtain⟨x,hx⟩:=h n (by omega)
  refine⟨l++ [x],by simp[hl],λi y hy=>?_⟩
  by_cases hi:i<l.length
  .rw[getElem?_append_left hi]at hy;exact hp i y hy
  .rw[getElem?_append_right (by omega)]at hy
   have:i-l.length=0:=by have:=qf hy;simp at this;omega
   rw[this]at hy
   simp at hy
   subst hy
   rw[show i=n by omega];exact hx
theorem OwnE.mono{base' g:Nat}(h:OwnE w base g cap es)(hb:base'<=base):OwnE w base' g cap es:=by exact yO0
def digF:Nat->Nat->List UInt8
 |0,_=> []
 |f+1,k=>if k=0 then []else digF f (k/10)++ [UInt8.ofNat (48+k%10)]
theorem yQ0(f:Nat):digF f 0= []:=by cases f<;>simp[digF]
theorem yKi:∀(f k:Nat),k<=f->digF f k=digF k k
 |0,k,h=>by rw[show k=0 by omega]
 |f+1,k,h=>by
  by_cases h0:k=0
  .subst h0;rw[yQ0,yQ0]
  .obtain⟨j,rfl⟩:∃j,k=j+1:=⟨k-1,qo⟩
   have h1:(j+1)/10<=j:=by omega
   unfold digF
   rw[if_neg h0,if_neg h0,yKi f _ (by omega),yKi j _ h1]
def dig(k:Nat):List UInt8:=digF k k
theorem xB6(h:0<k):dig k=dig (k/10)++ [UInt8.ofNat (48+k%10)]:=by obtain⟨j,rfl⟩:∃j,k=j+1:=⟨k-1,qo⟩;show digF (j+1) (j+1)=_;rw[digF,if_neg qo,yKi j _ qo];rfl
def yAx(k:Nat):ByteArray:=⟨(109::dig k).toArray⟩
theorem xBv{out:ByteArray}(h:dig k=out.data.toList):yAx k=⟨#[109]⟩++out:=by obtain⟨a⟩:=out;unfold yAx;rw[ByteArray.mk_append_mk,h];simp
set_option maxRecDepth 100000 in
theorem yP0(k:Nat)(w:World)(h0:0<k)(h1:k<=2^40):
  (xf 69 #[xi k] w (yAx k):Prop):=by
 go_enter func69,ntmps69;go_wp2;go_loopw[0,3] (λc o wr=>∃(j:Nat)(out:ByteArray),c=(xi j)/\j+out.size<=k/\o=out/\dig k=dig j++out.data.toList/\Below w w wr) (λc _ _=>(intOf c).toNat);case atStart=>exact⟨k,⟨#[]⟩,rfl,Nat.le_refl _,rfl,by simp,Below.refl _ _⟩
 case round=>
  obtain⟨j,out,rfl,hj,rfl,hd,hb⟩:=hrel;have HD:=qH1 hd;clear hd;by_cases hp:0<j
  .obtain⟨d,hd⟩:=qE (UInt8.ofNat (48+j%10):UInt8);have a0:(d.toNat:Int)=48+(j:Int)%10:=by rw[hd,UInt8.toNat_ofNat'];omega
   have a1:((convert 22 9 (xg wr 1 1)).run prog (xw wr #[.int .u8 (48+(j:Int)%10)] 5))=.ok (.string ⟨#[d]⟩) (xw wr #[.int .u8 (48+(j:Int)%10)] 5):=by
    refine run_convert_bytes_back (P:=prog) (xw wr #[.int .u8 (48+(j:Int)%10)] 5) 22 9 5 (xd wr 0) 1 [d] underlying22 underlying5 underlying9 ?_;intro i hi;obtain rfl:i=0:=by simpa using hi
    simp[Addr.add,a0]
   have HN:=qH1 hd;clear hd a0;go_wp2_with fail;refine⟨⟨j/10,⟨#[d]⟩++out,by go_num,?_,rfl,?_,hb.alloc hb.size _⟩,?_⟩
   .go_light;rw[ByteArray.size_append];show j/10+(1+out.size)<=k;omega
   .go_light;rw[HD.out,xB6 hp,HN.out];simp
   .go_light;simp[intOf];omega
  .go_wp2;go_ret;refine⟨?_,hb⟩;have e:=xBv (by rw[HD.out,show j=0 by omega];rfl);rw[e];rfl
theorem yBv(a:Int)(w:World)(h0:0<a)(h1:a<=2^40):
  (xf 69 #[xi a] w (yAx a.toNat):Prop):=by
 obtain⟨k,rfl⟩:=Int.eq_ofNat_of_zero_le (by omega:0<=a);rw[Int.toNat_natCast];exact yP0 k w qo qo
def mEnt(k:Int):Ent:=⟨yAx k.toNat,yAx (k+1).toNat,yAx (k+1+1).toNat,k+1+1+1,k+1+1+1+1,yAx (k+1+1+1+1+1).toNat⟩
def marked(k:Int)(es:List Ent)(i:Nat):Prop:=∀j:Nat,j<i->es[j]?=some (mEnt (k+j*6))
theorem yAu(h:Below w w w')(r:Option Nat):w.grownBy w' r:=⟨h.os,h.tape,h.output,h.size,λk hk _=>h.block k hk⟩
theorem yAv(w:World)(g o:Nat)(u:Value):w.grownBy (xt w g o u) (some g):=by have h:Below g w (xt w g o u):=(Below.refl g w).setCell qr u;exact⟨h.os,h.tape,h.output,h.size,λk hk hne=>Below.heap_setCell w (xd g o) u k (λe=>hne (by rw[e]))⟩
structure Chg(S:Nat->Prop)(w w':World):Prop where
 os:w'.os=w.os
 tape:w'.tape=w.tape
 output:w'.output=w.output
 size:w.heap.size<=w'.heap.size
 block:∀k,k<w.heap.size->¬S k->w'.heap[k]?=w.heap[k]?
theorem Chg.refl(S:Nat->Prop)(w:World):Chg S w w:=⟨rfl,rfl,rfl,Nat.le_refl _,λ_ _ _=>rfl⟩
theorem Chg.trans{S:Nat->Prop}{a b c:World}(h:Chg S a b)(k:Chg S b c):Chg S a c:=
 ⟨k.os.trans h.os,k.tape.trans h.tape,k.output.trans h.output,Nat.le_trans h.size k.size,λi hi hn=>(k.block i (Nat.lt_of_lt_of_le hi h.size) hn).trans (h.block i hi hn)⟩
theorem Chg.mono{S T:Nat->Prop}(h:Chg S w w')(hs:∀k,S k->T k):Chg T w w':=⟨h.os,h.tape,h.output,h.size,λk hk hn=>h.block k hk (λq=>hn (hs k q))⟩
theorem Chg.of_below{S:Nat->Prop}(h:Below w w w'):Chg S w w':=⟨h.os,h.tape,h.output,h.size,λk hk _=>h.block k hk⟩
theorem Chg.of_grown{S:Nat->Prop}{row:Option Nat}(h:w.grownBy w' row)(hs:∀k,row=some k->S k):Chg S w w':=
 ⟨h.os,h.tape,h.output,h.size,λk hk hn=>h.block k hk (λq=>hn (hs k q.symm))⟩
theorem Chg.of_set{S:Nat->Prop}(w:World)(g o:Nat)(u:Value)(hs:S g):Chg S w (xt w g o u):=Chg.of_grown (yAv w g o u) (λk hk=>by cases hk;exact hs)
theorem Chg.below{S:Nat->Prop}{a:World}(h:Below B a w)(k:Chg S w w')(hB:B<=w.heap.size)(hs:∀k,S k->B<=k):Below B a w':=
 h.trans ⟨k.os,k.tape,k.output,k.size,λi hi=>k.block i qo (λq=>qw (hs i q))⟩
theorem Chg.cell{S:Nat->Prop}(h:Chg S w w'){p:Addr}(hp:p.block<w.heap.size)(hn:¬S p.block):w'.cell? p=w.cell? p:=World.cell?_of_block (w:=w) (h.block p.block hp hn)
theorem Chg.frozen{S:Nat->Prop}(h:Chg S w w'){p:Addr}(hp:p.block<w.heap.size)(hn:¬S p.block):w'.frozen? p=w.frozen? p:=World.frozen?_of_block (w:=w) (h.block p.block hp hn)
theorem yFl.chg{S:Nat->Prop}{b off:Nat}(h:yFl w b off es)(hb:Chg S w w')(hlt:b<w.heap.size)(hn:¬S b):yFl w' b off es:=by
 intro i e he;have:=h i e he;refine⟨?_,?_,?_,?_,?_,?_⟩;all_goals rw[hb.cell (by exact hlt) (by exact hn)]
 .exact this.1
 .exact this.2.1
 .exact this.2.2.1
 .exact this.2.2.2.1
 .exact this.2.2.2.2.1
 .exact this.2.2.2.2.2
theorem yAb{e size:Nat}{v:Value}{xs:List Value}{base' e' size':Nat}{v':Value}{n':Nat}{xs':List Value}(h:w.ownsRow base e size v n xs)(h':w.ownsRow base' e' size' v' n' xs')(hne:e≠e'):∀k,v.ownBlock=some k->v'.ownBlock≠some k:=by
 intro k hk a0;rcases h.2 with⟨rfl,_⟩|⟨g1,a3,cur,rfl,_,hc,_⟩
 .simp[Value.ownBlock]at hk
 .rcases h'.2 with⟨rfl,_⟩|⟨g2,a2,a1,rfl,_,hc2,_⟩
  .simp[Value.ownBlock]at a0
  .simp[Value.ownBlock]at hk a0;subst hk a0;rw[hc]at hc2;simp at hc2;exact hne hc2.2
theorem yAh{S:Nat->Prop}{e size:Nat}{v:Value}{xs:List Value}(h:w.ownsRow base e size v n xs)(hb:Chg S w w')(hn:∀k,v.ownBlock=some k->¬S k):w'.ownsRow base e size v n xs:=by
 refine⟨h.1,?_⟩;rcases h.2 with hz|⟨g,cap,cur,rfl,h1,hg,rest⟩
 .exact .inl hz
 .refine .inr ⟨g,cap,cur,rfl,h1,?_,rest⟩;have a0:g<w.heap.size:=by
   rcases Nat.lt_or_ge g w with q|q
   .exact q
   .rw[Array.getElem?_eq_none q]at hg;cases hg
  rw[hb.block g a0 (hn g rfl)];exact hg
def yA(w:World)(base t sz g:Nat)(vs:List Value):Prop:=w.ownsRow base t sz (xg g 1 1) 1 vs
variable {t sz:Nat} {vs:List Value}
theorem yA.len{g:Nat}(h:yA w base t sz g vs):vs.length=sz:=qw h.1
theorem yA.lt{g:Nat}(h:yA w base t sz g vs):base<=g/\g<w.heap.size:=World.ownsRow.lt h g rfl
theorem yA.chg{S:Nat->Prop}{g:Nat}(h:yA w base t sz g vs)(hc:Chg S w w')(hn:¬S g):yA w' base t sz g vs:=yAh h hc (λk q=>by simp[Value.ownBlock]at q;subst q;exact hn)
theorem yA.below{g:Nat}(h:yA w base t sz g vs)(hb:Below w w w'):yA w' base t sz g vs:=h.chg (Chg.of_below hb) (S:=λ_=>False) (λq=>q)
variable {j:Nat}
theorem yA.cell{g:Nat}(h:yA w base t sz g vs){v:Value}(hv:vs[j]?=some v):(xk w g j v:Prop):=by have hj:=qf hv;rw[World.ownsRow.cellAt h j (qw h.len),hv]
theorem yA.frozen{g:Nat}(h:yA w base t sz g vs)(j:Nat):w.frozen? (xd g j)=false:=World.ownsRow.frozenAt h j
theorem yA.set{g:Nat}(h:yA w base t sz g vs)(j:Nat)(u:Value):yA (xt w g j u) base t sz g (vs.set j u):=(World.ownsRow.stored h j u).1
theorem yA.beside{g:Nat}(h:yA w base t sz g vs)(hk:¬g=k)(j:Nat)(u:Value):yA (xt w k j u) base t sz g vs:=h.chg (Chg.of_set w k j u (S:=λq=>q=k) rfl) hk
theorem yAa(w:World)(cs:Array Value)(hb:base<=w.heap.size)(hs:cs.size=sz):yA (xw w cs t) base t sz w cs.toList:=
 World.ownsRow_lit w cs 1 hb qj qo
variable {a b:Array Value} {s:Nat}
theorem box2(h:W=(xw (w.alloc (.cells a s)) b t)):yA W w s a.size w a.toList/\yA W w t b.size (w+1) b.toList/\Below w w W:=by
 have b1:=yAa w (t:=s) a qr rfl;have b2:=yAa (xw w a s) (base:=w.heap.size) (t:=t) b (by simp) rfl;rw[World.size_alloc]at b2;rw[h];exact⟨b1.below qB,b2,(qB).alloc (by simp) _⟩
theorem box3{c:Array Value}{u:Nat}(h:W=(xw ((w.alloc (.cells a s)).alloc (.cells b t)) c u)):yA W w s a.size w a.toList/\yA W w t b.size (w+1) b.toList/\yA W w u c.size (w+1+1) c.toList/\Below w w W:=by
 obtain⟨x,y,z⟩:=box2 (w:=w) (a:=a) (b:=b) (s:=s) (t:=t) rfl;have b3:=yAa (xw (w.alloc (.cells a s)) b t) (base:=w.heap.size) (t:=u) c (by simp;omega) rfl;rw[World.size_alloc,World.size_alloc]at b3;rw[h];exact⟨x.below qB,y.below qB,b3,z.alloc (by simp;omega) _⟩
theorem box4{c d:Array Value}{u v:Nat}(h:W=(xw (((w.alloc (.cells a s)).alloc (.cells b t)).alloc (.cells c u)) d v)):yA W w s a.size w a.toList/\yA W w t b.size (w+1) b.toList/\yA W w u c.size (w+1+1) c.toList/\yA W w v d.size (w+1+1+1) d.toList/\Below w w W:=by
 obtain⟨x,y,z,k⟩:=box3 (w:=w) (a:=a) (b:=b) (c:=c) (s:=s) (t:=t) (u:=u) rfl;have b3:=yAa (xw ((w.alloc (.cells a s)).alloc (.cells b t)) c u) (base:=w.heap.size) (t:=v) d (by simp;omega) rfl;rw[World.size_alloc,World.size_alloc,World.size_alloc]at b3;rw[h];exact⟨x.below qB,y.below qB,z.below qB,b3,k.alloc (by simp;omega) _⟩
def set3(w:World)(g:Nat)(a b c:Value):World:=(xt ((w.setCell (xd g 0) a).setCell (xd g 1) b) g 2 c)
theorem yA.set3{g:Nat}(h:yA w base t 3 g vs)(a b c:Value):yA (set3 w g a b c) base t 3 g [a,b,c]:=by
 have h1:=((h.set 0 a).set 1 b).set 2 c;have hl:=h.len;match vs,hl with
 | [x,y,z],_=>exact h1
theorem yAc{a:World}(h:Below B a w)(hk:B<=k)(j:Nat)(u:Value):Below B a (xt w k j u):=h.setCell (p:=(xd k j)) hk u
theorem yFt{a:World}(h:Below B a w)(hk:B<=k)(x y z:Value):Below B a (set3 w k x y z):=yAc (yAc (yAc h hk 0 x) hk 1 y) hk 2 z
theorem xA0(w:World)(k j:Nat)(u:Value):(w.setCell (xd k j) u).heap.size=w.heap.size:=by simp[World.setCell]
section
variable {P:Program} {C:World->Prop}
def fk(m:Value)(o:Oper):Oper:={o with op:=.move (.const m)}
def yUe(pre:List Oper)(o:Oper)(tl:List Oper)(d:Tmp)(sl:List Tmp):Bool:=
 sl.all (λs=>s != d && ((List.range pre.length).all (λi=>match pre[i]? with
  |some oi=>oi.dst != some s || o.after.any (λe=>Region.binds .any e && e.on==i)
  |none=>true) && tl.all (λoi=>oi.dst != some s))) && pre.all (λoi=>oi.dst != some d) && tl.all (λoi=>oi.dst != some d && oi.after.any (λe=>Region.binds .any e && Nat.ble pre.length e.on))
theorem yEg(pre tl:List Oper)(i:Nat):(pre++tl).toArray[i]?=if i<pre.length then pre[i]? else tl[i-pre.length]?:=by
 rw[getElem?_toArray];by_cases h:i<pre.length
 .rw[if_pos h,getElem?_append_left h]
 .rw[if_neg h,getElem?_append_right qo]
theorem yUu(m:Value)(pre tl:List Oper)(listed:Array Bool):Region.ready .any (pre++tl.map (fk m)).toArray listed=Region.ready .any (pre++tl).toArray listed:=by
 unfold Region.ready;have hz:(pre++tl.map (fk m)).toArray.size=(pre++tl).toArray.size:=by simp
 rw[hz];congr 1;funext i;rw[yEg,yEg];by_cases h:i<pre.length
 .rw[if_pos h,if_pos h]
 .rw[if_neg h,if_neg h,getElem?_map];cases tl[i-pre.length]?<;>rfl
theorem yVp(m:Value)(pre tl:List Oper)(tmps:Array Value):yielded (pre++tl.map (fk m)).toArray tmps=yielded (pre++tl).toArray tmps:=by
 funext j;unfold yielded;rw[yEg,yEg];by_cases h:j<pre.length
 .rw[if_pos h,if_pos h]
 .rw[if_neg h,if_neg h,getElem?_map];cases tl[j-pre.length]?<;>rfl
theorem yGs(a:Act)(dst:Option Tmp)(v:Value)(s:Tmp)(h:dst≠some s):(a.put dst v).tmps.getD s undef=a.tmps.getD s undef:=by
 cases dst with
 |none=>rfl
 |some t=>
  have a0:t≠s:=λq=>h (by rw[q]);show(a.tmps.setIfInBounds t v).getD s undef=_;rw[Array.getD_eq_getD_getElem?,Array.getD_eq_getD_getElem?,Array.getElem?_setIfInBounds_ne a0]
theorem put_defers(a:Act)(dst:Option Tmp)(v:Value):(a.put dst v).defers=a.defers:=by cases dst<;>rfl
theorem yMg(listed:Array Bool)(i j:Nat)(d:Bool)(h:listed.getD j d=true):(listed.setIfInBounds i true).getD j d=true:=by
 rw[Array.getD_eq_getD_getElem?]at h|-;by_cases q:i=j
 .subst q;rw[Array.getElem?_setIfInBounds_self];split
  .rfl
  .next hl=>rw[Array.getElem?_eq_none qo]at h;exact h
 .rw[Array.getElem?_setIfInBounds_ne q];exact h
theorem yNc{ops:Array Oper}{Q:Act->Prop}(s:Tmp)(x:Value)(hQ:∀a,Q a->a.tmps.getD s undef=x):∀(fuel:Nat)(listed:Array Bool)(a:Act),wpAnyQ P .any ops C Q fuel listed a->
  (∀i oi,ops[i]?=some oi->oi.dst=some s->listed.getD i true=true)->a.tmps.getD s undef=x
 |0,listed,a,h,_=>hQ a h.2
 |fuel+1,listed,a,h,hl=>by
  cases hr:Region.ready .any ops listed with
  |nil=>exact hQ a (h.1 hr)
  |cons i rest=>
   have hi:i∈Region.ready .any ops listed:=by rw[hr];simp
   have hq:=h.2 i hi
   obtain⟨a2,oi,a0,_⟩:=mem_ready.1 hi
   have hd:oi.dst≠some s:=λe=>by
    have:=hl i oi a0 e
    rw[a2]at this;cases this
   have a1:∀j oj,ops[j]?=some oj->oj.dst=some s->(listed.setIfInBounds i true).getD j true=true:=λj oj hj e=>yMg _ _ _ _ (hl j oj hj e)
   unfold qOp at hq
   simp only[a0]at hq
   split at hq
   .obtain⟨v,_,h2⟩:=hq
    have:=yNc s x hQ fuel _ _ h2 a1
    rwa [yGs _ _ _ _ hd]at this
   .have:=yNc s x hQ fuel _ _ hq a1
    rwa [yGs _ _ _ _ hd]at this
variable {Q:Exit->Act->World->Prop}
theorem yKv{m:Value}{pre tl:List Oper}{o:Oper}{D:List Deferred}(d:Tmp)(sl:List (Tmp×Value))(hB2:yUe pre o tl d (sl.map (·.1))=true)(hdst:o.dst=some d)(hg:o.guard=none)
  (hop:∀(a':Act)(w':World)(K:Act->World->Prop),C w'->a'.defers=D->(∀p∈sl,a'.tmps.getD p.1 undef=p.2)->o.wp P a' w' K Q):
  ∀(fuel:Nat)(listed:Array Bool)(a:Act)(w:World),wpAnyQ P .any (pre++(o::tl).map (fk m)).toArray C (λa'=>a'.tmps.getD d undef=m/\∀p∈sl,a'.tmps.getD p.1 undef=p.2) fuel listed a->C w->
   a.tmps.getD d undef≠m->a.defers=D->(∀j,pre.length<=j->listed.getD j false=false)->wpAny P .any (pre++o::tl).toArray Q fuel listed a w
 |0,listed,a,w,h,_,hm,_,_=>absurd h.2.1 hm
 |fuel+1,listed,a,w,h,hw,hm,hD,hJ=>by
  have hB3:=hB2
  simp only[yUe,Bool.and_eq_true,all_eq_true]at hB2
  obtain⟨⟨hS,hP⟩,hT⟩:=hB2
  refine⟨λhr=>absurd (h.1 (by rw[yUu];exact hr)).1 hm,λi hi=>?_⟩
  have hq:=h.2 i (by rw[yUu];exact hi)
  obtain⟨hun,oi,hoi,hdep⟩:=mem_ready.1 hi
  rw[yEg]at hoi
  unfold wpOp
  unfold qOp at hq
  rw[yEg]at hq|-
  by_cases hlt:i<pre.length
  .rw[if_pos hlt]at hoi hq|-
   have hne:oi.dst≠some d:=by have:=hP oi (mem_of_getElem? hoi);simpa using this
   have a3:∀j,pre.length<=j->(listed.setIfInBounds i true).getD j false=false:=by intro j hj;have:=hJ j hj;rw[Array.getD_eq_getD_getElem?]at this|-;rw[Array.getElem?_setIfInBounds_ne qo];exact this
   simp only[hoi]at hq|-
   rw[yVp]at hq
   split
   .next hwt=>
    rw[if_pos hwt]at hq;obtain⟨v,h1,h2⟩:=hq;refine .inl (Oper.wp_of_quiet (K:=λa'=>wpAnyQ P .any (pre++(o::tl).map (fk m)).toArray C (λa'=>a'.tmps.getD d undef=m/\∀p∈sl,a'.tmps.getD p.1 undef=p.2) fuel (listed.setIfInBounds i true) a'/\a'.tmps.getD d undef≠m/\a'.defers=D) hw ?_ ⟨v,h1,h2,by rw[yGs _ _ _ _ hne];exact hm,by rw[put_defers];exact hD⟩);intro a' w' a7 hk;exact yKv d sl hB3 hdst hg hop fuel _ a' w' hk.1 a7 hk.2.1 hk.2.2 a3
   .next hwt=>
    rw[if_neg hwt]at hq;exact yKv d sl hB3 hdst hg hop fuel _ _ w hq hw (by rw[yGs _ _ _ _ hne];exact hm) (by rw[put_defers];exact hD) a3
  .rw[if_neg hlt]at hoi hq|-;by_cases hn:i=pre.length
   .rw[hn,Nat.sub_self]at hoi hq|-;simp only[getElem?_cons_zero,map_cons,Option.some.injEq]at hoi hq|-;have a6:∀y,Region.wanted o y=true:=λy=>by unfold Region.wanted;rw[hg]
    have a5:∀y,Region.wanted (fk m o) y=true:=λy=>by unfold Region.wanted;show(match o.guard with|none=>true|some (j,want)=>y j==some want)=true;rw[hg]
    simp only[a6,a5,if_true]at hq|-;obtain⟨v,_,h2⟩:=hq;refine .inl (hop a w _ hw hD λp hp=>?_);have a0:=hS p.1 (List.mem_map.2 ⟨p,hp,rfl⟩);have a2:(some d:Option Tmp)≠some p.1:=by
     have:=a0.1;intro q;cases q
     simp at this
    have h3:=yNc (C:=C) p.1 p.2 (λa' h=>h.2 p hp) fuel _ _ h2 (by
     intro j oj hj e
     rw[yEg]at hj
     by_cases hjl:j<pre.length
     .rw[if_pos hjl]at hj
      have h4:=a0.2.1 j (mem_range.2 hjl)
      simp only[hj,Bool.or_eq_true]at h4
      rcases h4 with h4|h4
      .rw[e]at h4;simp at h4
      .rw[Array.any_eq_true']at h4
       obtain⟨ed,a1,h5⟩:=h4
       simp only[Bool.and_eq_true,beq_iff_eq]at h5
       have h6:=hdep ed (by rw[<-hoi];exact a1) h5.1
       rw[h5.2]at h6
       refine yMg _ _ _ _ ?_
       rw[Array.getD_eq_getD_getElem?]at h6|-
       cases hx:listed[j]? with
       |none=>rfl
       |some y=>rw[hx]at h6;exact h6
     .rw[if_neg hjl]at hj
      obtain⟨k,hk⟩:∃k,j-pre.length=k:=⟨_,rfl⟩
      rw[hk,<-map_cons,getElem?_map]at hj
      cases k with
      |zero=>
       simp only[getElem?_cons_zero,Option.map_some,Option.some.injEq]at hj
       rw[<-hj]at e
       exact absurd (hdst.symm.trans e) a2
      |succ k=>
       simp only[getElem?_cons_succ]at hj
       cases ht:tl[k]? with
       |none=>rw[ht]at hj;cases hj
       |some ot=>
        rw[ht]at hj
        simp only[Option.map_some,Option.some.injEq]at hj
        have h7:=a0.2.2 ot (mem_of_getElem? ht)
        rw[<-hj]at e
        have e2:ot.dst=some p.1:=e
        rw[e2]at h7
        simp at h7)
    have a8:(fk m o).dst=some d:=hdst;rwa [a8,yGs _ _ _ _ a2]at h3
   .exfalso;obtain⟨k,hk⟩:∃k,i-pre.length=k+1:=⟨i-pre.length-1,qo⟩;rw[hk]at hoi;simp only[getElem?_cons_succ]at hoi;have h8:=hT oi (mem_of_getElem? hoi);rw[Array.any_eq_true']at h8;obtain⟨ed,a1,h9⟩:=h8.2;simp only[Bool.and_eq_true]at h9;have a4:=hdep ed a1 h9.1;rw[hJ ed.on (le_of_ble_eq_true h9.2)]at a4;cases a4
variable {id:Nat} {a:Act}
theorem yK3(pre:List Oper)(o:Oper)(tl:List Oper)(d:Tmp)(sl:List (Tmp×Value))(l:List Oper)(hl:l=pre++o::tl)(hm:P.follows .mixedOrders=true)(hB:∀m,Region.lexB .any (pre++(o::tl).map (fk m)).toArray=true)
  (hB2:yUe pre o tl d (sl.map (·.1))=true) (hdst:o.dst=some d) (hg:o.guard=none) (hC:C {w with drawn:=w.drawn+1})
  (h:∀m,wpQuiet P (pre++(o::tl).map (fk m)).toArray C (λa'=>a'.tmps.getD d undef=m/\∀p∈sl,a'.tmps.getD p.1 undef=p.2) (pre++(o::tl).map (fk m)) a)
  (hop:∀(a':Act)(w':World)(K:Act->World->Prop),C w'->a'.defers=a.defers->(∀p∈sl,a'.tmps.getD p.1 undef=p.2)->o.wp P a' w' K Q):(Code.region id l.toArray true).wp P Q a w:=by
 subst hl;obtain⟨m,h0⟩:∃m,a.tmps.getD d undef≠m:=by
  by_cases q:a.tmps.getD d undef=true
  .exact⟨false,by rw[q];intro e;cases e⟩
  .exact⟨true,q⟩
 have a0:=hB m;simp only[Region.lexB,Bool.and_eq_true]at a0;refine wp_region_any hm ?_;have h1:=wpAnyQ_lex (C:=C) (md:=.any) a0.1 (pre++(o::tl).map (fk m)) 0 (Array.replicate (pre++(o::tl).map (fk m)).toArray.size false) a (by simp) (by simpa using a0.2) (h m);have hz:(pre++o::tl).toArray.size=(pre++(o::tl).map (fk m)).length:=by simp
 rw[hz];have a1:(pre++(o::tl).map (fk m)).toArray.size=(pre++(o::tl).map (fk m)).length:=by simp
 rw[a1]at h1;refine yKv d sl hB2 hdst hg hop _ _ _ _ h1 hC h0 rfl ?_;intro j _;rw[Array.getD_eq_getD_getElem?,Array.getElem?_replicate];split<;>rfl
end
variable {v0 v1:Value} {r:List Value}
theorem yA.c2{g:Nat}(h:yA w base t sz g (v0::v1::r)):xk w g 0 v0/\xk w g 1 v1:=
 ⟨h.cell (j:=0) rfl,h.cell (j:=1) rfl⟩
variable {v2:Value}
theorem yA.c3{g:Nat}(h:yA w base t sz g (v0::v1::v2::r)):xk w g 0 v0/\xk w g 1 v1/\xk w g 2 v2:=
 ⟨h.cell (j:=0) rfl,h.cell (j:=1) rfl,h.cell (j:=2) rfl⟩
variable {v3:Value}
theorem yA.c4{g:Nat}(h:yA w base t sz g (v0::v1::v2::v3::r)):xk w g 0 v0/\xk w g 1 v1/\xk w g 2 v2/\xk w g 3 v3:=
 ⟨h.cell (j:=0) rfl,h.cell (j:=1) rfl,h.cell (j:=2) rfl,h.cell (j:=3) rfl⟩
variable {v4:Value}
theorem yA.c5{g:Nat}(h:yA w base t sz g (v0::v1::v2::v3::v4::r)):xk w g 0 v0/\xk w g 1 v1/\xk w g 2 v2/\xk w g 3 v3/\xk w g 4 v4:=
 ⟨h.cell (j:=0) rfl,h.cell (j:=1) rfl,h.cell (j:=2) rfl,h.cell (j:=3) rfl,h.cell (j:=4) rfl⟩
variable {v5:Value}
theorem yA.c6{g:Nat}(h:yA w base t sz g (v0::v1::v2::v3::v4::v5::r)):xk w g 0 v0/\xk w g 1 v1/\xk w g 2 v2/\xk w g 3 v3/\xk w g 4 v4/\xk w g 5 v5:=
 ⟨h.cell (j:=0) rfl,h.cell (j:=1) rfl,h.cell (j:=2) rfl,h.cell (j:=3) rfl,h.cell (j:=4) rfl,h.cell (j:=5) rfl⟩
variable {v6:Value}
theorem yA.c7{g:Nat}(h:yA w base t sz g (v0::v1::v2::v3::v4::v5::v6::r)):xk w g 0 v0/\xk w g 1 v1/\xk w g 2 v2/\xk w g 3 v3/\xk w g 4 v4/\xk w g 5 v5/\xk w g 6 v6:=
 ⟨h.cell (j:=0) rfl,h.cell (j:=1) rfl,h.cell (j:=2) rfl,h.cell (j:=3) rfl,h.cell (j:=4) rfl,h.cell (j:=5) rfl,h.cell (j:=6) rfl⟩
variable {v7:Value}
theorem yA.c8{g:Nat}(h:yA w base t sz g (v0::v1::v2::v3::v4::v5::v6::v7::r)):xk w g 0 v0/\xk w g 1 v1/\xk w g 2 v2/\xk w g 3 v3/\xk w g 4 v4/\xk w g 5 v5/\xk w g 6 v6/\xk w g 7 v7:=
 ⟨h.cell (j:=0) rfl,h.cell (j:=1) rfl,h.cell (j:=2) rfl,h.cell (j:=3) rfl,h.cell (j:=4) rfl,h.cell (j:=5) rfl,h.cell (j:=6) rfl,h.cell (j:=7) rfl⟩
variable {v8:Value}
theorem yA.c9{g:Nat}(h:yA w base t sz g (v0::v1::v2::v3::v4::v5::v6::v7::v8::r)):xk w g 0 v0/\xk w g 1 v1/\xk w g 2 v2/\xk w g 3 v3/\xk w g 4 v4/\xk w g 5 v5/\xk w g 6 v6/\xk w g 7 v7/\xk w g 8 v8:=
 ⟨h.cell (j:=0) rfl,h.cell (j:=1) rfl,h.cell (j:=2) rfl,h.cell (j:=3) rfl,h.cell (j:=4) rfl,h.cell (j:=5) rfl,h.cell (j:=6) rfl,h.cell (j:=7) rfl,h.cell (j:=8) rfl⟩
theorem yA.c10{g:Nat}{v9:Value}(h:yA w base t sz g (v0::v1::v2::v3::v4::v5::v6::v7::v8::v9::r)):xk w g 0 v0/\xk w g 1 v1/\xk w g 2 v2/\xk w g 3 v3/\xk w g 4 v4/\xk w g 5 v5/\xk w g 6 v6/\xk w g 7 v7/\xk w g 8 v8/\xk w g 9 v9:=
 ⟨h.cell (j:=0) rfl,h.cell (j:=1) rfl,h.cell (j:=2) rfl,h.cell (j:=3) rfl,h.cell (j:=4) rfl,h.cell (j:=5) rfl,h.cell (j:=6) rfl,h.cell (j:=7) rfl,h.cell (j:=8) rfl,h.cell (j:=9) rfl⟩
theorem yA.c11{g:Nat}{v9 v10:Value}(h:yA w base t sz g (v0::v1::v2::v3::v4::v5::v6::v7::v8::v9::v10::r)):xk w g 0 v0/\xk w g 1 v1/\xk w g 2 v2/\xk w g 3 v3/\xk w g 4 v4/\xk w g 5 v5/\xk w g 6 v6/\xk w g 7 v7/\xk w g 8 v8/\xk w g 9 v9/\xk w g 10 v10:=
 ⟨h.cell (j:=0) rfl,h.cell (j:=1) rfl,h.cell (j:=2) rfl,h.cell (j:=3) rfl,h.cell (j:=4) rfl,h.cell (j:=5) rfl,h.cell (j:=6) rfl,h.cell (j:=7) rfl,h.cell (j:=8) rfl,h.cell (j:=9) rfl,h.cell (j:=10) rfl⟩
theorem yA.f2{g:Nat}(h:yA w base t sz g vs):w.frozen? ⟨g,0,none⟩=false/\w.frozen? ⟨g,1,none⟩=false:=⟨h.frozen 0,h.frozen 1⟩
theorem yA.f3{g:Nat}(h:yA w base t sz g vs):w.frozen? ⟨g,0,none⟩=false/\w.frozen? ⟨g,1,none⟩=false/\w.frozen? ⟨g,2,none⟩=false:=⟨h.frozen 0,h.frozen 1,h.frozen 2⟩
theorem yA.f4{g:Nat}(h:yA w base t sz g vs):w.frozen? ⟨g,0,none⟩=false/\w.frozen? ⟨g,1,none⟩=false/\w.frozen? ⟨g,2,none⟩=false/\w.frozen? ⟨g,3,none⟩=false:=⟨h.frozen 0,h.frozen 1,h.frozen 2,h.frozen 3⟩
theorem yA.f5{g:Nat}(h:yA w base t sz g vs):w.frozen? ⟨g,0,none⟩=false/\w.frozen? ⟨g,1,none⟩=false/\w.frozen? ⟨g,2,none⟩=false/\w.frozen? ⟨g,3,none⟩=false/\w.frozen? ⟨g,4,none⟩=false:=⟨h.frozen 0,h.frozen 1,h.frozen 2,h.frozen 3,h.frozen 4⟩
theorem yA.f6{g:Nat}(h:yA w base t sz g vs):w.frozen? ⟨g,0,none⟩=false/\w.frozen? ⟨g,1,none⟩=false/\w.frozen? ⟨g,2,none⟩=false/\w.frozen? ⟨g,3,none⟩=false/\w.frozen? ⟨g,4,none⟩=false/\w.frozen? ⟨g,5,none⟩=false:=⟨h.frozen 0,h.frozen 1,h.frozen 2,h.frozen 3,h.frozen 4,h.frozen 5⟩
theorem yA.f7{g:Nat}(h:yA w base t sz g vs):w.frozen? ⟨g,0,none⟩=false/\w.frozen? ⟨g,1,none⟩=false/\w.frozen? ⟨g,2,none⟩=false/\w.frozen? ⟨g,3,none⟩=false/\w.frozen? ⟨g,4,none⟩=false/\w.frozen? ⟨g,5,none⟩=false/\w.frozen? ⟨g,6,none⟩=false:=⟨h.frozen 0,h.frozen 1,h.frozen 2,h.frozen 3,h.frozen 4,h.frozen 5,h.frozen 6⟩
theorem yA.f8{g:Nat}(h:yA w base t sz g vs):w.frozen? ⟨g,0,none⟩=false/\w.frozen? ⟨g,1,none⟩=false/\w.frozen? ⟨g,2,none⟩=false/\w.frozen? ⟨g,3,none⟩=false/\w.frozen? ⟨g,4,none⟩=false/\w.frozen? ⟨g,5,none⟩=false/\w.frozen? ⟨g,6,none⟩=false/\w.frozen? ⟨g,7,none⟩=false:=⟨h.frozen 0,h.frozen 1,h.frozen 2,h.frozen 3,h.frozen 4,h.frozen 5,h.frozen 6,h.frozen 7⟩
structure Out(w:World) where
 u:World
 out:Below w w u
theorem yAs{id:Nat}{Q:Exit->Act->World->Prop}{a:Act}{l:List Oper}(hm:prog.follows .mixedOrders=true)(hB:Region.lexB .any l.toArray=true)
  (h:wpQuiet prog l.toArray (λw'=>∃n:Out w,w'=n.u) (λa'=>∀w',(∃n:Out w,w'=n.u)->Q .normal a' w') l a):(Code.region id l.toArray true).wp prog Q a w:=
 wp_region_quiet (C:=λw'=>∃n:Out w,w'=n.u) hm hB ⟨⟨_,(Below.refl _ _).drew⟩,rfl⟩ (by simpa using h)
theorem Calls.out_of{f:FuncId}{args:Array Value}{n:Out w}{v:Value}
  (h:(xf f args n.u v:Prop)):Calls prog f args n.u λe w''=>e=.returned v/\∃m:Out w,w''=m.u:=
 h.mono λ_ w' ⟨he,hb⟩=>⟨he,⟨w',n.out.trans (hb.mono n.out.size)⟩,rfl⟩
abbrev pfV(c a:Int):Value:=.iface 321 (.agg #[xi c,xi a])
abbrev Pf(c a:Int):Ending:=.panicked [{v:=pfV c a,recovered:=false}]
abbrev sb(s:ByteArray):List UInt8:=s.data.toList
theorem yAe(s:ByteArray):(sb s).length=s.size:=by simp[sb]
theorem yAr{s:ByteArray}{x:UInt8}(h:(sb s)[i]?=some x):∃hi:i<s.size,s[i]=x:=by have hi:=qf h;rw[yAe]at hi;refine⟨hi,?_⟩;rw[getElem?_eq_getElem (by rw[yAe];exact hi)]at h;exact Option.some.inj h
theorem yFv(s:ByteArray)(c:UInt8) w:
  Calls prog 259 #[s,.int .u8 (c.toNat:Int)] w λe w'=>e=.returned (xi (Lib.indexByte (sb s) c))/\w'=w:=by
 have H:Calls prog 262 #[s,.int .u8 (c.toNat:Int)] w λe w'=>e=.returned (xi (Lib.indexByte (sb s) c))/\w'=w:=by go_enter func262,ntmps262;go_wp2;rw[run_callFunc_extern func266 qk qk qk (e:=Extern.BytealgIndexByte.indexByte) qk,Lib.run_indexByteString];simp only[Result.andThen];rw[Oper.upon_value];go_wp2;go_ret;exact⟨by simp,rfl⟩
 go_enter func259,ntmps259;go_wp2_with (go_at_call 262;refine H.mono ?_;rintro e w' ⟨rfl,rfl⟩);go_ret;exact⟨rfl,rfl⟩
theorem yG0:∀(l:List UInt8)(c:UInt8),-1<=Lib.indexByte l c/\(0<=Lib.indexByte l c↔c∈l)
 | [],c=>by simp[Lib.indexByte]
 |b::l,c=>by
  have ih:=yG0 l c
  unfold Lib.indexByte
  by_cases h:b=c
  .subst h;simp
  .have h2:¬c=b:=λq=>h q.symm
   by_cases h3:Lib.indexByte l c= -1
   .have h4:¬c∈l:=λq=>qw (ih.2.2 q)
    simp[h,h2,h3,h4]
   .have h4:=ih.2.1 qo
    simp[h,h2,h3,h4]
    omega
abbrev PrAt(w:World)(base g:Nat)(p:ByteArray)(i o:Nat):Prop:=yA w base 324 3 g [p,xi i,xi o]
theorem yNs(v:Value) w:Calls prog 230 #[v,true] w λe w'=>e=.returned (.tuple #[])/\w'=w:=by go_enter func230,ntmps230;go_wp2_with fail;go_end0;exact⟨rfl,rfl⟩
variable {o:Nat} {p:ByteArray}
theorem ySn{g:Nat}(h:PrAt w base g p i o):Calls prog 230 #[xp g,false] w λe w'=>e=Pf 2 i/\w'=w:=by have c1:=h.cell (j:=1) rfl;clear h;go_enter func230,ntmps230;go_wp2_with fail;exact⟨rfl,rfl,rfl⟩
theorem yJm(c:Bool){g:Nat}(h:PrAt w base g p i o):Calls prog 230 #[xp g,c] w λe w'=>w'=w/\((c=true/\e=.returned (.tuple #[]))\/(c=false/\e=Pf 2 i)):=by
 cases c with
 |true=>exact(yNs _ w).mono λe w' ⟨he,hw⟩=>⟨hw,.inl ⟨rfl,he⟩⟩
 |false=>exact(ySn h).mono λe w' ⟨he,hw⟩=>⟨hw,.inr ⟨rfl,he⟩⟩
def inB(p:List UInt8)(i:Nat)(l:List UInt8):Bool:=match p[i]? with|some c=>decide (c∈l)|none=>false
theorem yDs{g:Nat}(s:ByteArray)(h:PrAt w base g p i o)(hp:p.size<=200):
  (xf 256 #[xp g,s] w (inB (sb p) i (sb s)):Prop):=by
 have a1:=h.lt.2;obtain⟨c0,c1⟩:=h.c2;have e0:∀n:Out w,(xk n.u g 0 p:Prop):=λn=>(n.out.cell (p:=(xd g 0)) a1).trans c0;have e1:∀n:Out w,(xk n.u g 1 (xi i):Prop):=λn=>(n.out.cell (p:=(xd g 1)) a1).trans c1;clear h c0 c1;by_cases hi:i<p.size
 .obtain⟨x,hx⟩:∃x,(sb p)[i]?=some x:=qg (by rw[yAe];exact hi);obtain⟨_,gx⟩:=yAr hx;have z1:(i:Int)<(p.size:Int):=qo
  obtain⟨r,hr⟩:=qE (Lib.indexByte (sb s) x);have HR:Hid (r=Lib.indexByte (sb s) x/\inB (sb p) i (sb s)=decide (0<=r)):=by refine⟨hr,?_⟩;unfold inB;rw[hx,hr];exact decide_eq_decide.2 (yG0 _ _).2.symm
  have HI:Hid (∀n:Out w,(xf 259 #[s,.int .u8 (x.toNat:Int)] n.u (xi r):Prop)):=λn=>by rw[HR.1];exact(yFv s x n.u).mono λe w' ⟨he,hw⟩=>⟨he,hw▸Below.refl _ _⟩
  rw[HR.2];clear hx hr;go_enter func256,ntmps256;go_upto_region 1 with fail;refine yAs qk qk ?_;repeat (go_big_quiet_step ((first|rfl|(go_at_call 259;exact Calls.out_of (HI.out _)))))
  refine wpQuiet_nil ?_;rintro w1 ⟨⟨wx,a0⟩,rfl⟩;go_wp2;go_ret;exact⟨rfl,a0⟩
 .have z1:¬(i:Int)<(p.size:Int):=qo
  have HR:inB (sb p) i (sb s)=false:=by unfold inB;rw[getElem?_eq_none (by rw[yAe];omega)]
  rw[HR];clear HR;go_enter func256,ntmps256;go_upto_region 1 with fail;refine yAs qk qk ?_;repeat (go_big_quiet_step (rfl))
  refine wpQuiet_nil ?_;rintro w1 ⟨⟨wx,a0⟩,rfl⟩;go_wp2;go_ret;exact⟨rfl,a0⟩
theorem PrAt.next{g:Nat}(h:PrAt w base g p i o):PrAt (xt w g 1 (xi ((i:Int)+1))) base g p (i+1) o:=yA.set h 1 (xi ((i:Int)+1))
theorem yJk{g:Nat}{x:UInt8}(h:PrAt w base g p i o)(hp:p.size<=200)(hx:(sb p)[i]?=some x):
  Calls prog 261 #[xp g] w λe w'=>e=.returned (.int .u8 (x.toNat:Int))/\PrAt w' base g p (i+1) o/\Chg (λk=>k=g) w w':=by
 have HP:=qH1 h;obtain⟨hi,gx⟩:=yAr hx;obtain⟨c0,c1⟩:=h.c2;have f1:=h.frozen 1;have z1:(i:Int)<(p.size:Int):=qo
 clear h hx;go_enter func261,ntmps261;go_upto_region 1 with fail;go_quiet ((go_at_call 230;exact Calls.quiet_of_same (yNs _ _)));go_upto_region 2 with fail;obtain⟨W1,a1⟩:=qW (w.drewN nq);have a0:Below w w W1:=by rw[a1];exact below_drewN (Below.refl _ _) _
 have a2:Hid (PrAt W1 base g p i o):=HP.below a0;rw[<-a1];clear a1 c0 c1 f1;obtain⟨c0,c1⟩:=a2.c2;have f1:=a2.frozen 1;go_quiet (rfl);go_wp2;go_ret;have hb2:Below w w (W1.drewN nq):=a0.trans ((below_drewN (Below.refl _ _) _).mono a0.size);exact⟨rfl,PrAt.next (yA.below HP.out hb2),(Chg.of_below hb2).trans (Chg.of_set _ g 1 _ rfl)⟩
theorem yK2{id:Nat}{Q:Exit->Act->World->Prop}{a:Act}{l:List Oper}{g:Nat}(d s c:Tmp){tys:Array TypeId}{ty:TypeId}{pos:String}{aft:Array Edge}(hP:PrAt w base g p i o)
  (ho:l.getLast?=some ⟨some d,.call {callee:=.value (.func 230),args:=#[.tmp s,.tmp c],argTypes:=tys},ty,pos,aft,none⟩)
  (hB:∀m,Region.lexB .any (l.dropLast++ [fk m ⟨some d,.call {callee:=.value (.func 230),args:=#[.tmp s,.tmp c],argTypes:=tys},ty,pos,aft,none⟩]).toArray=true)
  (hB2:yUe l.dropLast ⟨some d,.call {callee:=.value (.func 230),args:=#[.tmp s,.tmp c],argTypes:=tys},ty,pos,aft,none⟩ [] d [s,c]=true)
  (hQ:∀(a':Act)(w':World),Below w w w'->a'.defers=a.defers->Q (.panic [{v:=pfV 2 i,recovered:=false}]) a' w')
  (h:∀m,wpQuiet prog (l.dropLast++ [fk m ⟨some d,.call {callee:=.value (.func 230),args:=#[.tmp s,.tmp c],argTypes:=tys},ty,pos,aft,none⟩]).toArray (λw'=>∃n:Out w,w'=n.u) (λa'=>a'.tmps.getD d undef=m/\∀q∈ [(s,Value.pointer (some ⟨g,0,none⟩)),(c,false)],a'.tmps.getD q.1 undef=q.2) (l.dropLast++ [fk m ⟨some d,.call {callee:=.value (.func 230),args:=#[.tmp s,.tmp c],argTypes:=tys},ty,pos,aft,none⟩]) a):
  (Code.region id l.toArray true).wp prog Q a w:=by
 have hl:l=l.dropLast++ [⟨some d,.call {callee:=.value (.func 230),args:=#[.tmp s,.tmp c],argTypes:=tys},ty,pos,aft,none⟩]:=by obtain⟨l',a1⟩:=List.getLast?_eq_some_iff.1 ho;rw[a1];simp
 refine yK3 (C:=λw'=>∃n:Out w,w'=n.u) l.dropLast _ [] d [(s,Value.pointer (some ⟨g,0,none⟩)),(c,false)] l hl (by kernel_rfl) hB hB2 rfl rfl ⟨⟨_,(Below.refl _ _).drew⟩,rfl⟩ h ?_;rintro a' w' K ⟨n,rfl⟩ hd hp;have h1:a'.tmps.getD s undef=(xp g):=hp (s,_) (by simp);have h2:a'.tmps.getD c undef=.bool false:=hp (c,_) (by simp);have h3:a'.tmps[s]?.getD undef=(xp g):=by rw[<-Array.getD_eq_getD_getElem?];exact h1
 have h4:a'.tmps[c]?.getD undef=.bool false:=by rw[<-Array.getD_eq_getD_getElem?];exact h2
 unfold Oper.wp;have a0:(execOp a'.eval ⟨some d,.call {callee:=.value (.func 230),args:=#[.tmp s,.tmp c],argTypes:=tys},ty,pos,aft,none⟩).run prog n.u=.ok (.enter 230 #[xp g,false]) n.u:=by simp[execOp,h3,h4,go_sem,Act.eval,func230]
 rw[a0,Oper.upon_enter];refine(ySn (yA.below hP n.out)).mono ?_;rintro e w'' ⟨rfl,rfl⟩;exact hQ a' n.u n.out hd
theorem xEs{a':Act}{s t:Tmp}{x y:Value}(h:a'.tmps.getD s undef=x)(h2:a'.tmps.getD t undef=y):∀p∈ [(s,x),(t,y)],a'.tmps.getD p.1 undef=p.2:=by
 intro p hp;rcases mem_cons.1 hp with rfl|hp
 .exact h
 .rcases mem_cons.1 hp with rfl|hp
  .exact h2
  .cases hp
theorem xBf{g:Nat}(h:PrAt w base g p i o)(hp:p.size<=200)(hx:¬i<p.size):
  Calls prog 261 #[xp g] w λe w'=>e=Pf 2 i/\Below w w w':=by
 have HP:=qH1 h;have a0:=h.lt.2;obtain⟨c0,c1⟩:=h.c2;have e0:∀n:Out w,(xk n.u g 0 p:Prop):=λn=>(n.out.cell (p:=(xd g 0)) a0).trans c0;have e1:∀n:Out w,(xk n.u g 1 (xi i):Prop):=λn=>(n.out.cell (p:=(xd g 1)) a0).trans c1;have z1:¬(i:Int)<(p.size:Int):=qo
 clear h c0 c1;go_enter func261,ntmps261;go_upto_region 1 with fail;refine yK2 15 4 14 HP.out rfl (λm=>qk) qk ?q ?_;case q=>exact λa' w' hb hd=>⟨hd,rfl,hb⟩
 intro m;dsimp only[List.dropLast,fk,cons_append,nil_append];repeat (go_big_quiet_step (rfl))
 refine wpQuiet_nil ?_;exact⟨rfl,xEs rfl rfl⟩
theorem yHi{g:Nat}(h:PrAt w base g p i o)(hp:p.size<=200)(hi:i<=p.size):
  Calls prog 261 #[xp g] w λe w'=>Chg (λk=>k=g) w w'/\
   ((∃x:UInt8,(sb p)[i]?=some x/\e=.returned (.int .u8 (x.toNat:Int))/\PrAt w' base g p (i+1) o)\/((sb p)[i]?=none/\e=Pf 2 i)):=by
 by_cases hx:i<p.size
 .obtain⟨x,hx⟩:∃x,(sb p)[i]?=some x:=qg (by rw[yAe];exact hx);exact(yJk h hp hx).mono λe w' ⟨he,h1,h2⟩=>⟨h2,.inl ⟨x,hx,he,h1⟩⟩
 .exact(xBf h hp hx).mono λe w' ⟨he,h1⟩=>⟨Chg.of_below h1,.inr ⟨getElem?_eq_none (by rw[yAe];omega),he⟩⟩
theorem yD0{g:Nat}(c:UInt8)(h:PrAt w base g p i o)(hp:p.size<=200):
  Calls prog 244 #[xp g,.int .u8 (c.toNat:Int)] w λe w'=>Chg (λk=>k=g) w w'/\
   (((sb p)[i]?=some c/\e=.returned true/\PrAt w' base g p (i+1) o)\/(¬(sb p)[i]?=some c/\e=.returned false/\PrAt w' base g p i o)):=by
 have HP:=qH1 h;have a2:=h.lt.2;obtain⟨c0,c1⟩:=h.c2;have e0:∀n:Out w,(xk n.u g 0 p:Prop):=λn=>(n.out.cell (p:=⟨g,0,none⟩) a2).trans c0;have e1:∀n:Out w,n.u.cell? (xd g 1)=some (.int .i64 (i:Int)):=λn=>(n.out.cell (p:=⟨g,1,none⟩) a2).trans c1;clear h c0 c1;by_cases hi:i<p.size
 .obtain⟨x,hx⟩:∃x,(sb p)[i]?=some x:=⟨_,getElem?_eq_getElem (by rw[yAe];exact hi)⟩;obtain⟨_,gx⟩:=yAr hx;have z1:(i:Int)<(p.size:Int):=qo
  by_cases hxc:x=c
  .subst hxc;have HF:=qH1 hx;clear hx;go_enter func244,ntmps244;go_upto_region 1 with fail;refine yAs qk qk ?_;repeat (go_big_quiet_step (rfl))
   refine wpQuiet_nil ?_;rintro w1 ⟨⟨wx,a0⟩,rfl⟩;have a1:=qH1 (yA.below HP.out a0);have c1:=a1.cell (j:=1) rfl;have f1:=a1.frozen 1;clear e0 e1;go_wp2;go_ret;exact⟨(Chg.of_below a0).trans (Chg.of_set _ g 1 _ rfl),.inl ⟨HF.out,rfl,PrAt.next a1.out⟩⟩
  .have HF:Hid (¬(sb p)[i]?=some c):=by show¬(sb p)[i]?=some c;rw[hx];exact λq=>hxc (Option.some.inj q)
   have z2:¬(x.toNat:Int)=(c.toNat:Int):=λq=>hxc (UInt8.toNat_inj.1 qo);clear hx hxc;go_enter func244,ntmps244;go_upto_region 1 with fail;refine yAs qk qk ?_;repeat (go_big_quiet_step (rfl))
   refine wpQuiet_nil ?_;rintro w1 ⟨⟨wx,a0⟩,rfl⟩;have a1:=qH1 (yA.below HP.out a0);clear e0 e1;go_wp2;go_ret;exact⟨Chg.of_below a0,.inr ⟨HF.out,congrArg (λb=>Ending.returned (.bool b)) (beq_eq_false_iff_ne.2 z2),a1.out⟩⟩
 .have z1:¬(i:Int)<(p.size:Int):=qo
  have HF:Hid (¬(sb p)[i]?=some c):=by show¬(sb p)[i]?=some c;rw[getElem?_eq_none (by rw[yAe];omega)];exact λq=>by cases q
  go_enter func244,ntmps244;go_upto_region 1 with fail;refine yAs qk qk ?_;repeat (go_big_quiet_step (rfl))
  refine wpQuiet_nil ?_;rintro w1 ⟨⟨wx,a0⟩,rfl⟩;have a1:=qH1 (yA.below HP.out a0);clear e0 e1;go_wp2;go_ret
  first
   |exact⟨Chg.of_below a0,.inr ⟨HF.out,rfl,a1.out⟩⟩
   |exact⟨Chg.of_below a0,rfl,a1.out⟩
section
inductive Pat where
 |byte (b:UInt8)
 |cls (f:UInt8->Bool)
 |rep (t:Pat) (opt rpt:Bool)
 |alt (os:List (List Pat))
abbrev isOp(c:UInt8):Prop:=c=42\/c=43\/c=63
abbrev yFw(c:UInt8):Prop:=isOp c\/c=124\/c=41\/c=93
def chM(p:List UInt8)(i:Nat):UInt8×Nat×Bool:=
 match p[i]? with
 |none=>(0,i,false)
 |some c=>if c=93\/c=45 then(0,i,false)else if c=92 then(match p[i+1]? with|none=>(0,i+1,false)|some d=>(d,i+2,true))else(c,i+1,true)
variable {p:List UInt8}
theorem yEx{c:UInt8}(h:chM p i=(c,k,true)):i<k/\k<=p.length:=by
 unfold chM at h;split at h
 .cases h
 .next c' hc=>
  have h0:=qf hc;split at h
  .cases h
  .split at h
   .split at h
    .cases h
    .next d hd=>
     have h1:=qf hd;simp only[Prod.mk.injEq]at h;omega
   .simp only[Prod.mk.injEq]at h;omega
def yBw(p:List UInt8)(j:Nat):(UInt8×UInt8×Nat) ⊕ (Int×Nat):=
 match chM p j with
 |(_,k,false)=>.inr (2,k)
 |(lo,k,true)=>
  if p[k]?=some 45 then
   match chM p (k+1)with
   |(_,m,false)=>.inr (2,m)
   |(hi,m,true)=>if hi<lo then .inr (4,j)else .inl (lo,hi,m)
  else .inl (lo,lo,k)
theorem yFq{a b:UInt8}(h:yBw p j=.inl (a,b,k)):j<k/\k<=p.length/\a<=b:=by
 unfold yBw at h;split at h
 .cases h
 .next lo k' hk=>
  have h1:=yEx hk;split at h
  .split at h
   .cases h
   .next hi m hm=>
    have h2:=yEx hm;split at h
    .cases h
    .next hle=>
     simp only[Sum.inl.injEq,Prod.mk.injEq]at h;obtain⟨rfl,rfl,rfl⟩:=h;exact⟨qo,qo,UInt8.not_lt.1 hle⟩
  .simp only[Sum.inl.injEq,Prod.mk.injEq]at h;obtain⟨rfl,rfl,rfl⟩:=h;exact⟨qo,qo,UInt8.le_refl _⟩
def clsM(p:List UInt8)(j:Nat)(items:Bool)(f:UInt8->Bool):((UInt8->Bool)×Nat) ⊕ (Int×Nat):=
 if h:j<p.length then
  if p[j]?=some 93/\items=true then .inl (f,j+1)
  else match hi:yBw p j with
   | .inr e=>.inr e
   | .inl (a,b,k)=>clsM p k true (λc=>f c || (decide (a<=c) && decide (c<=b)))
 else .inr (2,p.length)
termination_by p.length-j
decreasing_by have:=yFq hi;omega
def yAq(p:List UInt8)(i:Nat):((UInt8->Bool)×Nat) ⊕ (Int×Nat):=
 if p[i]?=some 94 then(match clsM p (i+1) false (λ_=>false)with| .inl (f,k)=>.inl (λc=> !f c,k)| .inr e=>.inr e)
 else clsM p i false (λ_=>false)
theorem yHs:∀(n:Nat){p:List UInt8}{j:Nat}{b:Bool}{f g:UInt8->Bool}{k:Nat},p.length-j<=n->clsM p j b f=.inl (g,k)->j<k/\k<=p.length
 |n,p,j,b,f,g,k,hn,h=>by
  unfold clsM at h
  split at h
  .next hj=>
   split at h
   .simp only[Sum.inl.injEq,Prod.mk.injEq]at h
    omega
   .split at h
    .cases h
    .next a b' k' hk=>
     have h1:=yFq hk
     match n,hn with
     |0,hn=>omega
     |n+1,hn=>
      have h2:=yHs n qo h
      omega
  .cases h
theorem yBj{g:UInt8->Bool}(h:yAq p i=.inl (g,k)):i<k/\k<=p.length:=by
 unfold yAq at h;split at h
 .split at h
  .next hc=>
   have:=yHs _ qr hc;simp only[Sum.inl.injEq,Prod.mk.injEq]at h;omega
  .cases h
 .exact yHs _ qr h
theorem yZl{c:Int}(h:yBw p j=.inr (c,k)):¬c=0:=by
 unfold yBw at h;split at h
 .simp only[Sum.inr.injEq,Prod.mk.injEq]at h;omega
 .split at h
  .split at h
   .simp only[Sum.inr.injEq,Prod.mk.injEq]at h;omega
   .split at h
    .simp only[Sum.inr.injEq,Prod.mk.injEq]at h;omega
    .cases h
  .cases h
theorem yOn:∀(n:Nat){p:List UInt8}{j:Nat}{b:Bool}{f:UInt8->Bool}{c:Int}{k:Nat},p.length-j<=n->clsM p j b f=.inr (c,k)->¬c=0
 |n,p,j,b,f,c,k,hn,h=>by
  unfold clsM at h
  split at h
  .split at h
   .cases h
   .split at h
    .next e he=>
     simp only[Sum.inr.injEq]at h
     subst h
     exact yZl he
    .next a b' k' hk=>
     have h1:=yFq hk
     match n,hn with
     |0,hn=>omega
     |n+1,hn=>exact yOn n qo h
  .simp only[Sum.inr.injEq,Prod.mk.injEq]at h;omega
theorem yMt{c:Int}(h:yAq p i=.inr (c,k)):¬c=0:=by
 unfold yAq at h;split at h
 .split at h
  .cases h
  .next e he=>
   simp only[Sum.inr.injEq]at h;subst h;exact yOn _ qr he
 .exact yOn _ qr h
def chkM(p:List UInt8)(i o:Nat)(a:Bool):Int×Nat:=
 if h:i<p.length then
  if p[i]=40 then(if o=20 then(3,i)else chkM p (i+1) (o+1) false)
  else if p[i]=41 then(if o=0 then(2,i)else chkM p (i+1) (o-1) true)
  else if p[i]=124 then chkM p (i+1) o false
  else if p[i]=42\/p[i]=43\/p[i]=63 then(if a=true then chkM p (i+1) o true else(2,i))
  else if p[i]=91 then(match hc:yAq p (i+1)with| .inr e=>e| .inl (f,k)=>chkM p k o true)
  else if p[i]=93 then(2,i)
  else if p[i]=92 then(if i+1=p.length then(2,p.length)else chkM p (i+2) o true)
  else chkM p (i+1) o true
 else if 0<o then(2,p.length)else(0,0)
termination_by p.length-i
decreasing_by
 all_goals first
  |(have:=yBj hc;omega)
  |omega
variable {p:List UInt8} {i o:Nat} {a:Bool} {c:UInt8}
theorem yAn(h:p[i]?=some c):i<p.length:=qf h
theorem yCj(h:p[i]?=some c):p[i]'(yAn h)=c:=(List.getElem?_eq_some_iff.1 h).2
theorem yHv(h:¬i<p.length):chkM p i o a=if 0<o then(2,p.length)else(0,0):=by rw[chkM,dif_neg h]
theorem yDu(h:p[i]?=some 40):chkM p i o a=if o=20 then(3,i)else chkM p (i+1) (o+1) false:=by rw[chkM,dif_pos (yAn h),if_pos (yCj h)]
theorem yD4(h:p[i]?=some 41):chkM p i o a=if o=0 then(2,i)else chkM p (i+1) (o-1) true:=by rw[chkM,dif_pos (yAn h),yCj h];simp
theorem yKl(h:p[i]?=some 124):chkM p i o a=chkM p (i+1) o false:=by rw[chkM,dif_pos (yAn h),yCj h];simp
theorem yR(h:p[i]?=some c)(hc:isOp c):chkM p i o a=if a=true then chkM p (i+1) o true else(2,i):=by rw[chkM,dif_pos (yAn h),yCj h];rcases hc with rfl|rfl|rfl<;>simp
theorem yQ9(h:p[i]?=some 93):chkM p i o a=(2,i):=by rw[chkM,dif_pos (yAn h),yCj h];simp
theorem yD5(h:p[i]?=some 91):chkM p i o a=match yAq p (i+1)with| .inr e=>e| .inl (f,k)=>chkM p k o true:=by rw[chkM,dif_pos (yAn h),yCj h];simp only[show¬(91:UInt8)=40 by decide,show¬(91:UInt8)=41 by decide,show¬(91:UInt8)=124 by decide,show¬((91:UInt8)=42\/(91:UInt8)=43\/(91:UInt8)=63)by decide,if_false,if_true];split<;>(next hc=>rw[hc])
theorem yHu(h:p[i]?=some 92):chkM p i o a=if i+1=p.length then(2,p.length)else chkM p (i+2) o true:=by rw[chkM,dif_pos (yAn h),yCj h];simp
theorem yFe(h:p[i]?=some c)(h1:¬yFw c)(h2:¬c=40)(h3:¬c=91)(h4:¬c=92):chkM p i o a=chkM p (i+1) o true:=by rw[chkM,dif_pos (yAn h),yCj h];unfold yFw isOp at h1;simp only[not_or]at h1;obtain⟨⟨g1,g2,g3⟩,g4,g5,g6⟩:=h1;simp[h2,h3,h4,g1,g2,g3,g4,g5,g6]
theorem xB9(h:∀c,p[i]?=some c->¬isOp c)(a b:Bool):chkM p i o a=chkM p i o b:=by
 by_cases hi:i<p.length
 .obtain⟨c,hc⟩:∃c,p[i]?=some c:=qg hi;have hn:=h c hc;by_cases h1:c=40
  .subst h1;rw[yDu hc,yDu hc]
  by_cases h2:c=41
  .subst h2;rw[yD4 hc,yD4 hc]
  by_cases h3:c=124
  .subst h3;rw[yKl hc,yKl hc]
  by_cases h4:c=93
  .subst h4;rw[yQ9 hc,yQ9 hc]
  by_cases h5:c=91
  .subst h5;rw[yD5 hc,yD5 hc]
  by_cases h6:c=92
  .subst h6;rw[yHu hc,yHu hc]
  have he:¬yFw c:=λq=>q.elim hn (λq=>q.elim h3 (λq=>q.elim h2 h4));rw[yFe hc he h1 h5 h6,yFe hc he h1 h5 h6]
 .rw[yHv hi,yHv hi]
end
theorem yPi:∃F:(UInt8->Bool)->Array Value,∀f,F f=Array.ofFn (n:=256) λi=>.bool (f (UInt8.ofNat i.val)):=⟨_,λ_=>rfl⟩
noncomputable def setA(f:UInt8->Bool):Array Value:=Classical.choose yPi f
theorem yNh(f:UInt8->Bool):setA f=Array.ofFn (n:=256) λi=>.bool (f (UInt8.ofNat i.val)):=Classical.choose_spec yPi f
theorem yAg(f:UInt8->Bool):(setA f).size=256:=by rw[yNh];simp
theorem yC1:(prog.info? 358).map (λi=>(i.zero,i.size))=some (some (.agg (Array.replicate 256 false)),256):=qk
theorem yJh:setA (λ_=>false)=Array.replicate 256 (.bool false):=by
 rw[yNh];apply Array.ext
 .simp
 .intro i h1 h2;simp
theorem yX9(f:UInt8->Bool)(i:Nat)(h:i<256):(setA f)[i]?=some (.bool (f (UInt8.ofNat i))):=by rw[yNh,Array.getElem?_eq_getElem (by simp;exact h)];simp only[Array.getElem_ofFn]
theorem yEb(f:UInt8->Bool):(setA f).all (·.oneCell')=true:=by rw[yNh,Array.all_eq_true_iff_forall_mem];intro v hv;obtain⟨i,hi,rfl⟩:=Array.getElem_of_mem hv;simp only[Array.getElem_ofFn];rfl
theorem yA.heap{g:Nat}(h:yA w base t sz g vs):w.heap[g]?=some (.cells vs.toArray t (0,0)):=by
 rcases h.2 with⟨h0,_⟩|⟨g',cap,cur,hv,_,hc,_,_,a1,a0⟩
 .cases h0
 .simp only[Value.slice.injEq,Option.some.injEq,Addr.mk.injEq,and_true,true_and]at hv;obtain⟨rfl,rfl⟩:=hv;rw[hc];rw[take_of_length_le (by simp[a1])]at a0;rw[<-a0]
theorem yA.ofHeap{g:Nat}{vs:Array Value}(h:w.heap[g]?=some (.cells vs t (0,0)))(hb:base<=g)(hs:vs.size=sz):yA w base t sz g vs.toList:=by refine⟨by simp[hs],.inr ⟨g,1,vs,rfl,hb,h,Nat.le_refl _,qj,qo,?_⟩⟩;rw[take_of_length_le (by simp[hs])]
abbrev yBd(w:World)(base g:Nat)(f:UInt8->Bool):Prop:=yA w base 358 256 g (setA f).toList
variable {f:UInt8->Bool}
theorem yBd.heap{g:Nat}(h:yBd w base g f):w.heap[g]?=some (.cells (setA f) 358 (0,0)):=by have h1:=yA.heap h;rw[Array.toArray_toList]at h1;exact h1
theorem yBd.ext{g:Nat}{f':UInt8->Bool}(h:yBd w base g f)(he:∀c,f c=f' c):yBd w base g f':=by rw[show f'=f from funext λc=>(he c).symm];exact h
theorem yGp(f:UInt8->Bool)(k:Nat)(h:k<256):(setA f).toList[k]?=some (.bool (f (UInt8.ofNat k))):=by rw[Array.getElem?_toList];exact yX9 f k h
theorem xBm(hi:i<256)(hk:k<256)(h:UInt8.ofNat i=UInt8.ofNat k):i=k:=by have:=congrArg UInt8.toNat h;rw[UInt8.toNat_ofNat',UInt8.toNat_ofNat']at this;omega
theorem yUn(f:UInt8->Bool)(k:Nat)(b:Bool)(hk:k<256):(setA f).toList.set k (.bool b)=(setA (λc=>if c=UInt8.ofNat k then b else f c)).toList:=by
 apply ext_getElem?;intro i;rw[getElem?_set];by_cases h:k=i
 .subst h;rw[if_pos rfl,if_pos (by simp[yAg];exact hk),yGp _ _ hk,if_pos rfl]
 .rw[if_neg h];by_cases hi:i<256
  .rw[yGp _ _ hi,yGp _ _ hi,if_neg (λq=>h (xBm hi hk q).symm)]
  .rw[getElem?_eq_none (by simp[yAg];omega),getElem?_eq_none (by simp[yAg];omega)]
theorem Below.setRow'{a:World}(h:Below B a w){g:Nat}(hg:B<=g)(cs:Array Value):Below B a (w.setRow g cs):=
 h.trans ⟨rfl,rfl,rfl,by simp,λk hk=>setRow_other w g k cs qo⟩
theorem yGv(f:UInt8->Bool)(w:World):
  Calls prog 263 #[.agg (setA f)] w λe w'=>e=.returned (.agg (setA (λc=> !f c)))/\Below w w w':=by
 have a1:=(zero_of_info yC1).1;go_enter func263,ntmps263;go_wp2_with fail;clear a1;rw[<-yJh];obtain⟨W,hW⟩:=qE ((w.alloc (.cells (setA f) 358)).alloc (.cells (setA (λ_=>false)) 358));have HW:Hid (yBd W w.heap.size w.heap.size f/\yBd W w.heap.size (w.heap.size+1) (λ_=>false)/\Below w.heap.size w W):=by rw[hW];refine⟨yA.ofHeap (heap_alloc2_old w _ _) (Nat.le_refl _) (yAg _),yA.ofHeap (heap_alloc2_new w _ _) qo (yAg _),(qB).alloc (by simp) _⟩
 rw[<-hW];clear hW;go_loopw[4] (λi wr=>∃(k:Nat),k<=256/\i=.int .i64 k/\yBd wr w.heap.size w.heap.size (λc=>if c.toNat<k then !f c else f c)/\yBd wr w.heap.size (w.heap.size+1) (λ_=>false)/\Below w.heap.size w wr) (λi _=>256-(intOf i).toNat);case atStart=>
  refine⟨0,zero_le _,rfl,?_,HW.2.1,HW.2.2⟩;exact yBd.ext HW.1 (λc=>by rw[if_neg qo])
 case round=>
  obtain⟨k,hk,rfl,h1,h2,h3⟩:=hrel;have HR:=qH3 h1 h2 h3;clear h1 h2 h3 HW;by_cases hlt:k<256
  .have z:(k:Int)<256:=qo
   obtain⟨b,hb⟩:=qE (f (UInt8.ofNat k));have hn:(UInt8.ofNat k).toNat=k:=by rw[UInt8.toNat_ofNat'];omega
   have d0:wr.cell? (xd w.heap.size k)=some (.bool b):=by have:=HR.1.cell (yGp _ k hlt);rw[hn,if_neg (Nat.lt_irrefl _),<-hb]at this;exact this
   have f0:=HR.1.frozen k;have HN:Hid (yBd (wr.setCell (xd w.heap.size k) (.bool (!b))) w.heap.size w.heap.size (λc=>if c.toNat<k+1 then !f c else f c)/\yBd (wr.setCell (xd w.heap.size k) (.bool (!b))) w.heap.size (w.heap.size+1) (λ_=>false)/\Below w.heap.size w (wr.setCell (xd w.heap.size k) (.bool (!b)))):=by
    refine⟨?_,HR.2.1.beside qo k _,yAc HR.2.2 (Nat.le_refl _) k _⟩;have h4:=HR.1.set k (.bool (!b));rw[yUn _ k (!b) hlt]at h4;refine yBd.ext h4 ?_
    .intro c;by_cases hc:c=UInt8.ofNat k
     .rw[if_pos hc,hc,hn,if_pos qo,hb]
     .rw[if_neg hc];have:¬c.toNat=k:=λq=>hc (UInt8.toNat_inj.1 (by rw[hn];exact q));by_cases h5:c.toNat<k
      .rw[if_pos h5,if_pos qo]
      .rw[if_neg h5,if_neg qo]
   clear hb hn HR;go_wp2_with fail;go_roundw;case rel=>exact⟨k+1,qo,by go_num,HN.1,HN.2.1,HN.2.2⟩
   case measure=>simp[intOf];omega
  .obtain rfl:k=256:=qo
   have h0:=yBd.heap (yBd.ext HR.1 (f':=λc=> !f c) (λc=>if_pos (UInt8.toNat_lt c)));have h1:=yBd.heap HR.2.1;have hB:Below w.heap.size w (wr.setRow (w.heap.size+1) (setA (λc=> !f c))):=Below.setRow' HR.2.2 qo _;have hi:=(zero_of_info yC1).2;clear HR;go_upto_region 6 with fail;apply wp_region_list;refine wpList_load_row rfl 358 _ rfl w.heap.size rfl 358 (setA (λc=> !f c)) (0,0) _ h0 underlying358 rfl (by rw[yAg];exact hi) ?_;refine wpList_store_row rfl 358 _ _ rfl (w.heap.size+1) (setA (λc=> !f c)) rfl rfl 358 (setA (λ_=>false)) h1 (by rw[yAg];exact hi) (by rw[yAg,yAg]) (yEb _) ?_;have hr:=setRow_heap _ _ _ (setA (λc=> !f c)) _ _ h1;obtain⟨W2,a0⟩:=qE (wr.setRow (w.heap.size+1) (setA (λc=> !f c)));rw[<-a0]at hB hr|-;clear a0 h0 h1;apply wpList_nil;go_wp2_with fail;refine bodyPost_ret (v:=.agg (setA (λc=> !f c))) (results_cell_row rfl _ _ (w.heap.size+1) _ _ _ _ rfl hr underlying358 rfl (by rw[yAg];exact hi)) rfl ⟨rfl,hB⟩
variable {p:List UInt8}
theorem xIa(h:inB p i [93,45]=true):chM p i=(0,i,false):=by
 unfold inB at h;unfold chM;split at h
 .next c hc=>
  rw[hc];have:c=93\/c=45:=by simpa using h
  simp only[];rw[if_pos this]
 .cases h
theorem yTw(h:p[i]?=none):chM p i=(0,i,false):=by unfold chM;rw[h]
theorem yOo(h:p[i]?=some 92):chM p i=match p[i+1]? with|none=>(0,i+1,false)|some d=>(d,i+2,true):=by unfold chM;rw[h];rfl
theorem yZ5{c:UInt8}(h:p[i]?=some c)(h1:inB p i [93,45]=false)(h2:¬c=92):chM p i=(c,i+1,true):=by
 unfold inB at h1;unfold chM;rw[h]at h1|-;have:¬(c=93\/c=45):=by simpa using h1
 simp only[];rw[if_neg this,if_neg h2]
theorem yF8{g:Nat}{p:ByteArray}(h:PrAt w base g p i o)(hp:p.size<=200)(hi:i<=p.size):
  Calls prog 268 #[xp g] w λe w'=>Chg (λk=>k=g) w w'/\
   ((∃(x:UInt8)(k:Nat),chM (sb p) i=(x,k,true)/\e=.returned (.int .u8 (x.toNat:Int))/\PrAt w' base g p k o)\/(∃(x:UInt8)(k:Nat),chM (sb p) i=(x,k,false)/\e=Pf 2 k)):=by
 have HP:=qH1 h;clear h;go_enter func268,ntmps268;go_wp2_with fail;refine(yDs ⟨#[93,45]⟩ HP.out hp).mono ?_;rintro e w1 ⟨rfl,a2⟩;have a1:Hid (PrAt w1 base g p i o/\Chg (λk=>k=g) w w1):=⟨yA.below HP.out a2,Chg.of_below a2⟩;obtain⟨q,hq⟩:=qE (inB (sb p) i (sb ⟨#[93,45]⟩));have HQ:Hid (inB (sb p) i [93,45]=q):=hq.symm;rw[<-hq];clear a2 hq HP;go_wp2_with fail;refine(yJm (!q) a1.1).mono ?_;rintro e w2 ⟨rfl,(⟨hc,rfl⟩|⟨hc,rfl⟩)⟩;case inr=>
  have hq:q=true:=by simpa using hc
  refine⟨rfl,a1.2,.inr ⟨0,i,xIa (by rw[HQ.out,hq]),rfl⟩⟩
 have hq:q=false:=by simpa using hc
 subst hq;clear hc;go_wp2_with fail;refine(yHi a1.1 hp hi).mono ?_;rintro e w3 ⟨a4,(⟨x,hx,rfl,a6⟩|⟨hx,rfl⟩)⟩;case inr=>exact⟨rfl,a1.2.trans a4,.inr ⟨0,i,yTw hx,rfl⟩⟩
 have a0:Hid (PrAt w3 base g p (i+1) o/\Chg (λk=>k=g) w w3/\(sb p)[i]?=some x):=⟨a6,a1.2.trans a4,hx⟩;have a7:i+1<=p.size:=by have:=qf hx;rw[yAe]at this;omega
 clear a4 hx a6 a1;by_cases h92:x=92
 .subst h92;go_wp2_with fail;refine(yHi a0.1 hp a7).mono ?_;rintro e w4 ⟨a3,(⟨y,hy,rfl,a5⟩|⟨hy,rfl⟩)⟩;case inr=>exact⟨rfl,a0.2.1.trans a3,.inr ⟨0,i+1,by rw[yOo a0.2.2,hy],rfl⟩⟩
  have HF:Hid (Chg (λk=>k=g) w w4/\chM (sb p) i=(y,i+2,true)/\PrAt w4 base g p (i+2) o):=⟨a0.2.1.trans a3,by rw[yOo a0.2.2,hy],a5⟩;clear a3 hy a5;go_wp2;go_ret;exact⟨HF.1,.inl ⟨y,i+2,HF.2.1,rfl,HF.2.2⟩⟩
 .have z:¬(x.toNat:Int)=92:=λq=>h92 (UInt8.toNat_inj.1 (by show x.toNat=92;omega));go_wp2;go_ret;exact⟨a0.2.1,.inl ⟨x,i+1,yZ5 a0.2.2 HQ.out h92,rfl,a0.1⟩⟩
def wider(f:UInt8->Bool)(a b:UInt8):UInt8->Bool:=λc=>f c || (decide (a<=c) && decide (c<=b))
theorem Chg.absorb{S T:Nat->Prop}{w1 w2:World}(h:Chg S w w1)(k:Chg T w1 w2)(hT:∀j,T j->S j\/w.heap.size<=j):Chg S w w2:=
 ⟨k.os.trans h.os,k.tape.trans h.tape,k.output.trans h.output,Nat.le_trans h.size k.size,λi hi hn=>(k.block i (Nat.lt_of_lt_of_le hi h.size) (λq=>by rcases hT i q with q|q;exact hn q;omega)).trans (h.block i hi hn)⟩
theorem yXu(a:UInt8):wrap64 (a.toNat:Int)=(a.toNat:Int):=by have:=UInt8.toNat_lt a;unfold wrap64;omega
theorem yFs(w:World)(g:Nat)(cs:Array Value):Chg (λk=>k=g) w (w.setRow g cs):=⟨rfl,rfl,rfl,by simp,λk hk hn=>setRow_other w g k cs hn⟩
theorem yQj{g:Nat}{p:ByteArray}(f:UInt8->Bool)(h:PrAt w base g p i o)(hp:p.size<=200)(hi:i<=p.size):
  Calls prog 267 #[.pointer (some ⟨g,0,none⟩),.agg (setA f)] w λe w'=>Chg (λk=>k=g) w w'/\
   ((∃(a b:UInt8)(k:Nat),yBw (sb p) i=.inl (a,b,k)/\e=.returned (.agg (setA (wider f a b)))/\PrAt w' base g p k o)\/(∃(c:Int)(k:Nat),yBw (sb p) i=.inr (c,k)/\e=Pf c k)):=by
 have aj:=h.lt.2;obtain⟨W0,a9⟩:=qE ((w.alloc (.cells (setA f) 358)).alloc (.cells (setA (λ_=>false)) 358));have HW:Hid (yBd W0 w.heap.size w.heap.size f/\yBd W0 w.heap.size (w.heap.size+1) (λ_=>false)/\PrAt W0 base g p i o/\Chg (λk=>k=g) w W0):=by rw[a9];have hb:Below w.heap.size w ((w.alloc (.cells (setA f) 358)).alloc (.cells (setA (λ_=>false)) 358)):=(qB).alloc (by simp) _;refine⟨yA.ofHeap (heap_alloc2_old w _ _) (Nat.le_refl _) (yAg _),yA.ofHeap (heap_alloc2_new w _ _) qo (yAg _),yA.below h hb,Chg.of_below hb⟩
 have ah:=(zero_of_info yC1).1;rw[yJh]at a9;have c1:=HW.2.2.1.cell (j:=1) rfl;clear h;go_enter func267,ntmps267;go_upto_region 1 with fail;rw[<-a9];clear a9 ah;go_wp2_with fail;clear c1;refine(yF8 HW.2.2.1 hp hi).mono ?_;rintro e w1 ⟨a5,(⟨a,k1,a2,rfl,ag⟩|⟨x,k,hk,rfl⟩)⟩;case inr=>
  refine⟨rfl,HW.2.2.2.trans a5,.inr ⟨2,k,?_,rfl⟩⟩;unfold yBw;rw[hk]
 have a6:=qH4 (yA.chg HW.1 a5 qo) (yA.chg HW.2.1 a5 qo) ag (HW.2.2.2.trans a5);have a7:=qH1 a2;have ae:k1<=p.size:=by have:=(yEx a2).2;rw[yAe]at this;exact this
 clear a5 a2 ag HW;go_wp2_with fail;refine(yD0 45 a6.2.2.1 hp).mono ?_;rintro e w2 ⟨ab,h2⟩;have a0:=qH3 (yA.chg a6.1 ab qo) (yA.chg a6.2.1 ab qo) (a6.2.2.2.trans ab);clear ab a6;rcases h2 with⟨hx,rfl,a4⟩|⟨hx,rfl,a4⟩;case' inl=>
  have ac:=qH2 a4 hx;have ad:k1+1<=p.size:=by have:=qf hx;rw[yAe]at this;omega
  clear a4 hx;go_wp2_with fail;refine(yF8 ac.1 hp ad).mono ?_;rintro e w5 ⟨aa,h5⟩;have HW5:=qH3 (yA.chg a0.1 aa qo) (yA.chg a0.2.1 aa qo) (a0.2.2.trans aa);clear aa a0;rcases h5 with⟨b,k5,a1,rfl,af⟩|⟨x,k,hk,rfl⟩;case inr=>
   refine⟨rfl,HW5.2.2,.inr ⟨2,k,?_,rfl⟩⟩;unfold yBw;rw[a7.out];simp only[];rw[if_pos ac.2,hk]
  have HI:Hid (PrAt w5 base g p k5 o/\yBw (sb p) i=if b<a then .inr (4,i)else .inl (a,b,k5)):=by refine⟨af,?_⟩;unfold yBw;rw[a7.out];simp only[];rw[if_pos ac.2,a1]
  clear a1 af ac ad
 case' inr=>
  obtain⟨w5,a8⟩:=qE w2;obtain⟨k5,a1⟩:=qE (k1:Nat);have HW5:Hid (yBd w5 w w f/\yBd w5 w (w+1) (λ_=>false)/\Chg (λk=>k=g) w w5):=by rw[a8];exact a0.out
  have HI2:Hid (PrAt w5 base g p k5 o/\yBw (sb p) i=.inl (a,a,k5)):=by rw[a8,a1];refine⟨a4,?_⟩;unfold yBw;rw[a7.out];simp only[];rw[if_neg hx]
  rw[<-a8];clear a8 a4 hx a0 a1
 case inl=>
  clear a7 ae;by_cases hba:b<a
  .have z:(b.toNat:Int)<(a.toNat:Int):=qw (UInt8.lt_iff_toNat_lt.1 hba)
   go_wp2_with fail;exact⟨rfl,HW5.2.2,.inr ⟨4,i,by rw[HI.2,if_pos hba],rfl⟩⟩
  .have z:(a.toNat:Int)<=(b.toNat:Int):=qw (UInt8.le_iff_toNat_le.1 (UInt8.not_lt.1 hba))
   have HI2:=qH2 HI.1 (by rw[HI.2,if_neg hba]:yBw (sb p) i=.inl (a,b,k5));clear HI hba;go_wp2;go_loopw[8] (λbv wr=>∃(k:Nat),a.toNat<=k/\k<=b.toNat+1/\bv=(xi k)/\yBd wr w w (λc=>f c || (decide (a<=c) && decide (c.toNat<k)))/\yBd wr w (w+1) (λ_=>false)/\PrAt wr base g p k5 o/\Chg (λk=>k=g) w wr) (λbv _=>256-(intOf bv).toNat);case atStart=>
    exact xGl
   case round=>
    obtain⟨k,hk0,a2,rfl,h1,h2,h3,h4⟩:=hrel;have HR:=qH4 h1 h2 h3 h4;clear h1 h2 h3 h4 HW5;have ai:=UInt8.toNat_lt b;by_cases hlt:k<=b.toNat
    .have z2:(k:Int)<=(b.toNat:Int):=qo
     exact xG2
    .obtain rfl:k=b.toNat+1:=qo
     have z2:¬((b.toNat:Int)+1)<=(b.toNat:Int):=qo
     have h0:=yBd.heap (yBd.ext HR.1 (f':=wider f a b) (λc=>by
      unfold wider
      rw[show decide (c.toNat<b.toNat+1)=decide (c<=b)from decide_eq_decide.2 ⟨λq=>UInt8.le_iff_toNat_le.2 qo,λq=>qw (UInt8.le_iff_toNat_le.1 q)⟩]))
     have h1:=yBd.heap HR.2.1;have HC:Hid (Chg (λk=>k=g) w (wr.setRow (w+1) (setA (wider f a b)))/\PrAt (wr.setRow (w+1) (setA (wider f a b))) base g p k5 o):=by have hc:=yFs wr (w+1) (setA (wider f a b));exact⟨HR.2.2.2.absorb hc (λj q=>.inr qo),yA.chg HR.2.2.1 hc qo⟩
     have hi:=(zero_of_info yC1).2;clear HR;go_upto_region 12 with fail;apply wp_region_list;refine wpList_load_row rfl 358 _ rfl w rfl 358 (setA (wider f a b)) (0,0) _ h0 underlying358 rfl (by rw[yAg];exact hi) ?_;refine wpList_store_row rfl 358 _ _ rfl (w+1) (setA (wider f a b)) rfl rfl 358 (setA (λ_=>false)) h1 (by rw[yAg];exact hi) (by rw[yAg,yAg]) (yEb _) ?_;have hr:=setRow_heap _ _ _ (setA (wider f a b)) _ _ h1;obtain⟨W2,a3⟩:=qE (wr.setRow (w+1) (setA (wider f a b)));rw[<-a3]at HC hr|-;clear a3 h0 h1;apply wpList_nil;go_wp2;refine bodyPost_ret (v:=.agg (setA (wider f a b))) (results_cell_row rfl _ _ (w+1) _ _ _ _ rfl hr underlying358 rfl (by rw[yAg];exact hi)) rfl ⟨HC.1,.inl ⟨a,b,k5,HI2.2,rfl,HC.2⟩⟩
 case inr=>
  clear a7 ae;go_wp2;go_loopw[8] (λbv wr=>∃(k:Nat),a.toNat<=k/\k<=a.toNat+1/\bv=(xi k)/\yBd wr w w (λc=>f c || (decide (a<=c) && decide (c.toNat<k)))/\yBd wr w (w+1) (λ_=>false)/\PrAt wr base g p k5 o/\Chg (λk=>k=g) w wr) (λbv _=>256-(intOf bv).toNat);case atStart=>
   exact xGl
  case round=>
   obtain⟨k,hk0,a2,rfl,h1,h2,h3,h4⟩:=hrel;have HR:=qH4 h1 h2 h3 h4;clear h1 h2 h3 h4 HW5;have ai:=UInt8.toNat_lt a;by_cases hlt:k<=a.toNat
   .have z2:(k:Int)<=(a.toNat:Int):=qo
    exact xG2
   .obtain rfl:k=a.toNat+1:=qo
    have z2:¬((a.toNat:Int)+1)<=(a.toNat:Int):=qo
    have h0:=yBd.heap (yBd.ext HR.1 (f':=wider f a a) (λc=>by
     unfold wider
     rw[show decide (c.toNat<a.toNat+1)=decide (c<=a)from decide_eq_decide.2 ⟨λq=>UInt8.le_iff_toNat_le.2 qo,λq=>qw (UInt8.le_iff_toNat_le.1 q)⟩]))
    have h1:=yBd.heap HR.2.1;have HC:Hid (Chg (λk=>k=g) w (wr.setRow (w+1) (setA (wider f a a)))/\PrAt (wr.setRow (w+1) (setA (wider f a a))) base g p k5 o):=by have hc:=yFs wr (w+1) (setA (wider f a a));exact⟨HR.2.2.2.absorb hc (λj q=>.inr qo),yA.chg HR.2.2.1 hc qo⟩
    have hi:=(zero_of_info yC1).2;clear HR;go_upto_region 12 with fail;apply wp_region_list;refine wpList_load_row rfl 358 _ rfl w rfl 358 (setA (wider f a a)) (0,0) _ h0 underlying358 rfl (by rw[yAg];exact hi) ?_;refine wpList_store_row rfl 358 _ _ rfl (w+1) (setA (wider f a a)) rfl rfl 358 (setA (λ_=>false)) h1 (by rw[yAg];exact hi) (by rw[yAg,yAg]) (yEb _) ?_;have hr:=setRow_heap _ _ _ (setA (wider f a a)) _ _ h1;obtain⟨W2,a3⟩:=qE (wr.setRow (w+1) (setA (wider f a a)));rw[<-a3]at HC hr|-;clear a3 h0 h1;apply wpList_nil;go_wp2;refine bodyPost_ret (v:=.agg (setA (wider f a a))) (results_cell_row rfl _ _ (w+1) _ _ _ _ rfl hr underlying358 rfl (by rw[yAg];exact hi)) rfl ⟨HC.1,.inl ⟨a,a,k5,HI2.2,rfl,HC.2⟩⟩
def cut(p:List UInt8)(i k:Nat):List UInt8:=(p.drop i).take (k-i)
theorem yDe(p:List UInt8)(i:Nat):cut p i i= []:=by simp[cut]
theorem yAw(h:k<=p.length):(cut p i k).length=k-i:=by simp[cut];omega
theorem yBq(h1:i<=j)(h2:j<=k):cut p i k=cut p i j++cut p j k:=by
 unfold cut;have:k-i=(j-i)+(k-j):=qo
 rw[this,take_add,drop_drop];congr 3;omega
theorem yCa{c:UInt8}(h:p[i]?=some c):cut p i (i+1)= [c]:=by have hi:=yAn h;unfold cut;rw[drop_eq_getElem_cons hi,Nat.add_sub_cancel_left,yCj h];simp
abbrev yB3(c:UInt8):Prop:=yFw c\/c=40\/c=91\/c=46\/c=92
def RepG(A:List UInt8->Pat->Prop)(xs:List UInt8)(t:Pat):Prop:=
 ∃(ys ops:List UInt8)(a:Pat),xs=ys++ops/\A ys a/\(∀c∈ops,isOp c)/\t=(if ops= []then a else .rep a (ops.any (· != 43)) (ops.any (· != 63)))
def SeqG(A:List UInt8->Pat->Prop):List Pat->List UInt8->Prop
 | [],xs=>xs= []
 |t::ts,xs=>∃ys zs,xs=ys++zs/\RepG A ys t/\SeqG A ts zs
def AltG(A:List UInt8->Pat->Prop):List (List Pat)->List UInt8->Prop
 | [],xs=>False
 | [ts],xs=>SeqG A ts xs
 |ts::os,xs=>∃ys zs,xs=ys++124::zs/\SeqG A ts ys/\AltG A os zs
def yAm:Nat->List UInt8->Pat->Prop
 |0,_,_=>False
 |n+1,xs,t=>(∃c,xs= [c]/\¬yB3 c/\t=.byte c)\/(xs= [46]/\t=.cls (λ_=>true))\/(∃c,xs= [92,c]/\t=.byte c)\/
   (∃ys os,xs=40::ys++ [41]/\AltG (yAm n) os ys/\t=.alt os)\/(∃p i k f,p[i]?=some 91/\yAq p (i+1)=.inl (f,k)/\xs=cut p i k/\t=.cls f)
variable {A B:List UInt8->Pat->Prop}
theorem RepG.mono(h:∀xs t,A xs t->B xs t){xs:List UInt8}{t:Pat}:RepG A xs t->RepG B xs t:=fun⟨ys,ops,a,h1,h2,h3,h4⟩=>⟨ys,ops,a,h1,h _ _ h2,h3,h4⟩
theorem SeqG.mono(h:∀xs t,A xs t->B xs t):∀{ts:List Pat}{xs:List UInt8},SeqG A ts xs->SeqG B ts xs
 | [],_,q=>q
 |_::_,_,⟨ys,zs,h1,h2,h3⟩=>⟨ys,zs,h1,h2.mono h,SeqG.mono h h3⟩
theorem AltG.mono(h:∀xs t,A xs t->B xs t):∀{os:List (List Pat)}{xs:List UInt8},AltG A os xs->AltG B os xs
 | [],_,q=>q
 | [_],_,q=>SeqG.mono h q
 |_::_::_,_,⟨ys,zs,h1,h2,h3⟩=>⟨ys,zs,h1,h2.mono h,AltG.mono h h3⟩
theorem yAm.mono:∀{n m:Nat}{xs:List UInt8}{t:Pat},n<=m->yAm n xs t->yAm m xs t
 |0,_,_,_,_,h=>h.elim
 |n+1,0,_,_,hm,_=>qo
 |n+1,m+1,xs,t,hm,h=>by
  rcases h with h|h|h|⟨ys,os,h1,h2,h3⟩|h
  .exact .inl h
  .exact .inr (.inl h)
  .exact .inr (.inr (.inl h))
  .exact .inr (.inr (.inr (.inl ⟨ys,os,h1,h2.mono (λ_ _ q=>yAm.mono qo q),h3⟩)))
  .exact .inr (.inr (.inr (.inr h)))
theorem SeqG.snoc:∀{ts:List Pat}{xs ys:List UInt8}{t:Pat},SeqG A ts xs->RepG A ys t->SeqG A (ts++ [t]) (xs++ys)
 | [],xs,ys,t,h,k=>by subst h;exact⟨ys,[],by simp,k,rfl⟩
 |s::ts,xs,ys,t,⟨us,vs,h1,h2,h3⟩,k=>⟨us,vs++ys,by rw[h1];simp,h2,SeqG.snoc h3 k⟩
theorem AltG.snoc:∀{os:List (List Pat)}{xs ys:List UInt8}{ts:List Pat},AltG A os xs->SeqG A ts ys->AltG A (os++ [ts]) (xs++124::ys)
 | [],_,_,_,h,_=>h.elim
 | [s],xs,ys,ts,h,k=>⟨xs,ys,rfl,h,k⟩
 |s::o::os,xs,ys,ts,⟨us,vs,h1,h2,h3⟩,k=>⟨us,vs++124::ys,by rw[h1];simp,h2,AltG.snoc h3 k⟩
structure yBy(p:List UInt8)(o i k:Nat)(t:Pat):Prop where
 lt:i<k
 le:k<=p.length
 chk:∀a,chkM p i o a=chkM p k o true
 gr:∃n,yAm n (cut p i k) t
structure yT9(p:List UInt8)(o i k:Nat)(t:Pat):Prop where
 lt:i<k
 le:k<=p.length
 chk:∀a,chkM p i o a=chkM p k o true
 next:∀c,p[k]?=some c->¬isOp c
 gr:∃n,RepG (yAm n) (cut p i k) t
structure yKy(p:List UInt8)(o i k:Nat)(ts:List Pat):Prop where
 lei:i<=k
 le:k<=p.length
 chk:chkM p i o false=chkM p k o false
 gr:∃n,SeqG (yAm n) ts (cut p i k)
structure yDn(p:List UInt8)(o i k:Nat)(os:List (List Pat)):Prop where
 lei:i<=k
 le:k<=p.length
 chk:chkM p i o false=chkM p k o false
 gr:∃n,AltG (yAm n) os (cut p i k)
theorem yKy.nil(h:i<=p.length):yKy p o i i []:=⟨Nat.le_refl _,h,rfl,0,yDe p i⟩
variable {ts:List Pat}
theorem yKy.more{t:Pat}(h:yKy p o i j ts)(r:yT9 p o j k t):yKy p o i k (ts++ [t]):=by
 obtain⟨n,hn⟩:=h.gr;obtain⟨m,hm⟩:=r.gr;refine⟨Nat.le_trans h.lei (Nat.le_of_lt r.lt),r.le,?_,max n m,?_⟩
 .rw[h.chk,r.chk,xB9 r.next]
 .rw[yBq h.lei (Nat.le_of_lt r.lt)];exact xCs
theorem yDn.one(h:yKy p o i k ts):yDn p o i k [ts]:=⟨h.lei,h.le,h.chk,h.gr⟩
theorem yDn.more{os:List (List Pat)}(h:yDn p o i j os)(hb:p[j]?=some 124)(s:yKy p o (j+1) k ts):yDn p o i k (os++ [ts]):=by
 obtain⟨n,hn⟩:=h.gr;obtain⟨m,hm⟩:=s.gr;have hl:=s.lei;refine⟨Nat.le_trans h.lei (by omega),s.le,?_,max n m,?_⟩
 .rw[h.chk,yKl hb,s.chk]
 .rw[yBq h.lei (show j<=k by omega),yBq (show j<=j+1 by omega) hl,yCa hb];exact xCs
theorem yBy.group{os:List (List Pat)}(h:p[i]?=some 40)(ho:¬o=20)(a:yDn p (o+1) (i+1) j os)(hj:p[j]?=some 41):yBy p o i (j+1) (.alt os):=by
 obtain⟨n,hn⟩:=a.gr;have hl:=a.lei;refine⟨by omega,yAn hj,λb=>?_,n+1,.inr (.inr (.inr (.inl ⟨_,os,?_,hn,rfl⟩)))⟩
 .rw[yDu h,if_neg ho,a.chk,yD4 hj,if_neg (by omega),Nat.add_sub_cancel]
 .rw[yBq (show i<=i+1 by omega) (show i+1<=j+1 by omega),yCa h,yBq hl (show j<=j+1 by omega),yCa hj];simp
theorem yBy.plain{c:UInt8}(h:p[i]?=some c)(hc:¬yB3 c):yBy p o i (i+1) (.byte c):=by refine⟨qo,yAn h,λa=>yFe h (λq=>hc (.inl q)) (λq=>hc (.inr (.inl q))) (λq=>hc (.inr (.inr (.inl q)))) (λq=>hc (.inr (.inr (.inr (.inr q))))),1,.inl ⟨c,yCa h,hc,rfl⟩⟩
theorem yBy.dot(h:p[i]?=some 46):yBy p o i (i+1) (.cls (λ_=>true)):=by refine⟨qo,yAn h,λa=>yFe h qj qj qj qj,1,.inr (.inl ⟨yCa h,rfl⟩)⟩
theorem yBy.esc{c:UInt8}(h:p[i]?=some 92)(hc:p[i+1]?=some c):yBy p o i (i+1+1) (.byte c):=by have hl:=yAn hc;refine⟨by omega,hl,λa=>by rw[yHu h,if_neg (by omega)],1,.inr (.inr (.inl ⟨c,?_,rfl⟩))⟩;rw[yBq (show i<=i+1 by omega) (show i+1<=i+1+1 by omega),yCa h,yCa hc];rfl
theorem yBy.class(h:p[i]?=some 91)(hc:yAq p (i+1)=.inl (f,k)):yBy p o i k (.cls f):=by have hl:=yBj hc;exact⟨qo,hl.2,λa=>by rw[yD5 h,hc],1,.inr (.inr (.inr (.inr ⟨p,i,k,f,h,hc,rfl,rfl⟩)))⟩
structure yL1(p:List UInt8)(o i j k:Nat)(a:Pat)(op rp:Bool):Prop where
 atom:yBy p o i j a
 lt:j<=k
 le:k<=p.length
 chk:chkM p j o true=chkM p k o true
 ops:∀c∈cut p j k,isOp c
 opt:op=(cut p j k).any (· != 43)
 rpt:rp=(cut p j k).any (· != 63)
variable {a:Pat}
theorem yL1.zero(h:yBy p o i j a):yL1 p o i j j a false false:=
 ⟨h,Nat.le_refl _,h.le,rfl,by rw[yDe];simp,by rw[yDe];rfl,by rw[yDe];rfl⟩
theorem yL1.more{op rp:Bool}{c:UInt8}(h:yL1 p o i j k a op rp)(hc:p[k]?=some c)(hop:isOp c):yL1 p o i j (k+1) a (op || c != 43) (rp || c != 63):=by
 have a0:cut p j (k+1)=cut p j k++ [c]:=by rw[yBq h.lt (show k<=k+1 by omega),yCa hc]
 refine⟨h.atom,qw h.lt,yAn hc,?_,?_,?_,?_⟩
 .rw[h.chk,yR hc hop,if_pos rfl]
 .rw[a0];intro d hd;rcases List.mem_append.1 hd with hd|hd
  .exact h.ops d hd
  .simp at hd;subst hd;exact hop
 .rw[a0,any_append,<-h.opt];simp
 .rw[a0,any_append,<-h.rpt];simp
theorem yL1.rep{op rp:Bool}(h:yL1 p o i j k a op rp)(hn:∀c,p[k]?=some c->¬isOp c):yT9 p o i k (if j=k then a else .rep a op rp):=by
 obtain⟨n,hg⟩:=h.atom.gr;have h1:=h.atom.lt;have h2:=h.lt;refine⟨qo,h.le,λb=>by rw[h.atom.chk,h.chk],hn,n,cut p i j,cut p j k,a,yBq qo h2,hg,h.ops,?_⟩;by_cases hjk:j=k
 .subst hjk;rw[if_pos rfl,if_pos (yDe p j)]
 .have:¬cut p j k= []:=λq=>by have:=yAw (p:=p) (i:=j) h.le;rw[q]at this;simp at this;omega
  rw[if_neg hjk,if_neg this,<-h.opt,<-h.rpt]
end Go.Proofs.YtnnagkfoiganfaaGreatDoor
