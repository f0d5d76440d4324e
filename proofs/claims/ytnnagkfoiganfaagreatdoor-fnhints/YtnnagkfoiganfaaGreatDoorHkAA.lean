import Derived.Deep.RegionHeld3
import Derived.Test.YtnnagkfoiganfaaGreatDoorRows
import Derived.WalkSpells
import Derived.WalkLawsBesides
import Derived.Deep.Light
import Derived.Lib.SmallJoins
import Derived.Lib.Bytealg
import Derived.Lib.Slices
import Derived.Lib.Walk
import Derived.Deep.DeepCutAuto
import Derived.Deep.WholeRow
import Derived.Deep.RegionLaw
import Derived.Deep.AppendLies
import Derived.RecoverIn
import Derived.Stop.Asserts
import Derived.Lib.TrailingZeros
import Derived.RangeFuncNested
import Derived.RangeFuncBound
import Derived.Shelf.RegionOpen
import Derived.OwnWalkIn
import Derived.LoopNIn
import Derived.LoopIn
import Derived.Great.BuildSlice
import Derived.LaidMore
import Derived.Stop.Joined
import Derived.Lib.AppendZeros
namespace Go.Proofs.YtnnagkfoiganfaaGreatDoor
open Go.RowKit _root_.List _root_.Nat Go.ChangeShapes Go.WideShapes Go.ChangeAt Go.Deep Go.Proofs.Tryz
open _root_.Array renaming replicate->AE,toArray_toList->Ap,getElem_ofFn->Aq,ofFn->Az
open _root_.Bool renaming or_eq_true->AC,and_eq_true->AR,or_true->Au
open _root_.Go renaming wp_region_list->AN,zero_of_info->AO,wpList_load_row->AP,wpList_store_row->Ad,setRow_heap->Ak,wpList_nil->Ao,wpQuiet_nil->As,results_cell_row->Ay,heap_alloc2_old->A0,heap_alloc2_new->A6,setRow_other->A8,bodyPost_ret->A9,wpList_plain->BA
open _root_.Go.Act renaming eval->AL,put->AX
open _root_.Go.Lib renaming indexByte->AJ
open _root_.Go.Oper renaming wp->AZ
open _root_.Go.Value renaming ownBlock->AT,bool->AY
open _root_.Go.World.ownsRow renaming cellAt->Af,lt->Aj,frozenAt->Aw,stored->Ax
open _root_.List renaming setIfInBounds_toArray->AB,set_cons_zero->AF,set_cons_succ->AG,flatMap_cons->AM,getElem?_eq_getElem->AW,getElem?_eq_none->Ab,take_of_length_le->Ag,getElem?_eq_some_iff->Ai,length_append->A7
open _root_.Nat renaming le_refl->AI,add_mul->AS,le_trans->AU,zero_add->Ae,add_zero->An,lt_of_lt_of_le->Ar,le_of_lt->Av
open _root_.Option.some renaming injEq->Ac,inj->Al
open _root_.Prod.mk renaming injEq->AA
open _root_.Sum.inl renaming injEq->AD
open _root_.Sum.inr renaming injEq->AQ
open _root_.UInt8 renaming ofNat->AH,le_iff_toNat_le->AK,toNat_ofNat'->AV,toNat_inj->Aa,toNat_lt->Ah
set_option linter.unusedVariables false
set_option linter.unusedSimpArgs false
set_option maxRecDepth 100000
set_option maxHeartbeats 64000000
theorem iA{c:Prop}{h:Decidable c}(g:¬c){α:Sort _}{t e:α}:ite c t e=e:=if_neg g
theorem iB{c:Prop}{h:Decidable c}(g:c){α:Sort _}{t e:α}:ite c t e=t:=if_pos g
theorem iC{α:Type}[BEq α][LawfulBEq α]{a b:α}:(a==b)=false↔a≠b:=beq_eq_false_iff_ne
variable {ty g cp off base' n' e' size s u id n sz O:Nat} {E:Prop} {S T:Nat->Prop} {row:Option Nat} {ops:Array Oper} {ng op rp em:Bool} {rest:List Oper}
abbrev Ww:=World
abbrev Vv:=Value
abbrev Ba:=ByteArray
abbrev U8:=UInt8
inductive XD|xd (b o:Nat)
inductive XI|xi (n:Int)
inductive XU|xu (n:Int)
inductive XG|xg (g n c:Nat)
inductive XP|xp (g:Nat)
inductive XY|xy (b o n c:Nat)
inductive XK|xk (w:Ww) (b o:Nat) (v:Vv)
inductive XW|xw (w:Ww) (a:Array Vv) (t:TypeId)
inductive XT|xt (w:Ww) (b o:Nat) (v:Vv)
inductive XE|xe
inductive XH|xh
inductive XF|xf (k:FuncId) (a:Array Vv) (w:Ww) (v:Vv)
open XD XI XU XG XP XK XW XT XF XE XH XY
instance:Coe Ww Nat:=⟨λw=>w.heap.size⟩
instance:Coe Bool Vv:=⟨AY⟩
instance:Coe Ba Vv:=⟨Value.string⟩
instance {b o}:CoeDep XD (xd b o) Addr:=⟨⟨b,o,none⟩⟩
instance {n}:CoeDep XI (xi n) Vv:=⟨.int .i64 n⟩
instance {n}:CoeDep XU (xu n) Vv:=⟨.int .u64 n⟩
instance {g n c}:CoeDep XG (xg g n c) Vv:=⟨.slice (some ⟨g,0,none⟩) n c⟩
instance {b o n c}:CoeDep XY (xy b o n c) Vv:=⟨.slice (some ⟨b,o,none⟩) n c⟩
instance {g}:CoeDep XP (xp g) Vv:=⟨.pointer (some ⟨g,0,none⟩)⟩
instance {w b o v}:CoeDep XK (xk w b o v) Prop:=⟨w.cell? ⟨b,o,none⟩=some v⟩
instance {w a t}:CoeDep XW (xw w a t) Ww:=⟨w.alloc (.cells a t)⟩
instance {w b o v}:CoeDep XT (xt w b o v) Ww:=⟨w.setCell ⟨b,o,none⟩ v⟩
instance:CoeDep XE xe Vv:=⟨.string ⟨#[]⟩⟩
instance:CoeDep XH xh Vv:=⟨.slice none 0 0⟩
instance {k a w v}:CoeDep XF (xf k a w v) Prop:=⟨Calls prog k a w λe w'=>e=.returned v/\Below w.heap.size w w'⟩
variable {w:Ww}
variable {W:Ww} {o:Obj}
theorem qN(h:W=w.alloc o):Below w.heap.size w W:=by rw[h];exact (Below.refl _ _).alloc (AI _) _
theorem qS(h:W=w.alloc o):W.heap.size=w.heap.size+1:=by rw[h];simp
theorem qr:n<=n:=AI n
theorem qg{α}{l:List α}{i:Nat}(h:i<l.length):∃x,l[i]?=some x:=⟨_,AW h⟩
theorem qf{α}{l:List α}{i:Nat}{x:α}(h:l[i]?=some x):i<l.length:=(Ai.1 h).1
theorem qA:(∀(a:Act)(n:Nat)(v:Vv),a.put (some n) v={a with tmps:=a.tmps.setIfInBounds n v})/\(∀(a:Act)(v:Vv),a.put none v=a)/\(∀(l:List Vv)(i:Nat)(v:Vv),l.toArray.setIfInBounds i v=(l.set i v).toArray)/\
  (∀(x v:Vv)(l:List Vv),(x::l).set 0 v=v::l)/\(∀(x v:Vv)(l:List Vv)(i:Nat),(x::l).set (i+1) v=x::l.set i v):=
 ⟨λ_ _ _=>rfl,λ_ _=>rfl,λ_ _ _=>by simp,λ_ _ _=>rfl,λ_ _ _ _=>rfl⟩
theorem qE{α:Sort _}(x:α):∃y,y=x:=⟨x,rfl⟩
theorem qB:Below w.heap.size w (w.alloc o):=(Below.refl _ _).alloc (AI _) _
variable {p:Prop}
theorem qo(h:p:=by omega):p:=h
theorem qk(h:p:=by kernel_rfl):p:=h
theorem qj(h:p:=by decide):p:=h
variable {a:Prop}
theorem qH1(x:a):Hid a:=x
variable {b:Prop}
theorem qH2(x:a)(y:b):Hid (a/\b):=⟨x,y⟩
theorem qH3{c:Prop}(x:a)(y:b)(z:c):Hid (a/\b/\c):=⟨x,y,z⟩
variable {d:Prop}
theorem qH4{c:Prop}(x:a)(y:b)(z:c)(u:d):Hid (a/\b/\c/\d):=⟨x,y,z,u⟩
variable {e:Prop}
theorem qH5{c:Prop}(x:a)(y:b)(z:c)(u:d)(v:e):Hid (a/\b/\c/\d/\e):=⟨x,y,z,u,v⟩
theorem qH6{c f:Prop}(x:a)(y:b)(z:c)(u:d)(v:e)(w:f):Hid (a/\b/\c/\d/\e/\f):=⟨x,y,z,u,v,w⟩
theorem qH7{c f g:Prop}(x:a)(y:b)(z:c)(u:d)(v:e)(w:f)(r:g):Hid (a/\b/\c/\d/\e/\f/\g):=⟨x,y,z,u,v,w,r⟩
theorem qW(x:Ww):∃y,y=x:=⟨x,rfl⟩
theorem qw(x:a)(h:a->p:=by intro _;omega):p:=h x
theorem qv(x:a)(y:b)(h:a->b->p:=by intro _ _;omega):p:=h x y
theorem zY{q:Prop}(k:q)(h:q->p:=by intro z;go_wp2_with fail;go_roundw;(case rel=>exact z);case measure=>simp[intOf]<;>omega):p:=h k
theorem zX{q:Prop}(k:q)(h:q->p:=by intro z;go_wp2;go_roundw;(case rel=>exact z);case measure=>simp[intOf]<;>omega):p:=h k
theorem zR(x:a)(h:a->p:=by intro x;go_wp2;go_ret;exact⟨_,rfl,by simp[HG.out],x⟩):p:=h x
theorem zF(x:a)(h:a->p:=by intro x;go_wp2;go_ret;exact⟨_,rfl,by simp[HF.out],x⟩):p:=h x
variable {α:Type}
theorem qn[BEq α][LawfulBEq α]{a b:α}(h:¬a=b):(a==b)=false:=iC.2 h
theorem zzR0(h:p:=by (intro wz hSw;obtain⟨z0,z1,z2,z3,z4,z5,z6,z7,z8⟩:=hSw;go_simp;(try with_reducible rfl))):p:=h
theorem zzR1(h:p:=by (intro wz hSw;go_simp;(try simp only[zq,zr,zs,zwi,zwn,HW.1]);(try with_reducible rfl))):p:=h
theorem zzR3(h:p:=by (intro wz hSw;obtain⟨z0,z1,z2,z3,z4,z5,z6,z7,z8⟩:=hSw;go_simp;rw[HSM.out];by_cases q1:k.j.toList=c.j.toList<;>by_cases q2:k.E.toList=c.E.toList<;>by_cases q3:k.C.toList=c.C.toList<;>simp[q1,q2,q3])):p:=h
theorem zzR4(h:p:=by (intro wz hSw;go_simp;(try with_reducible rfl))):p:=h
theorem zzR5(h:p:=by (intro wz hSw;obtain⟨d0,d1,d2,d3,d4,d5,d6,d7,d8⟩:=hSw;go_simp;(try with_reducible rfl);(try (rw[<-xE3,Bool.not_not])))):p:=h
theorem zzQ0 (h:p:=by
 go_upto_region 7 with fail;go_wp2_with fail;refine HRp.mono ?_;rintro e w3 ⟨ug,un,uc,os,rfl,hb3,ho,hU0⟩;obtain⟨ua,hua⟩:∃ua,ua=some (⟨ug,0,none⟩:Addr):=⟨_,rfl⟩;rw[<-hua]at hU0|-;clear hua;obtain⟨W4,hW4⟩:=qW ((w3.alloc (Obj.cells #[.slice ua un uc] 304)).alloc (Obj.cells #[.int .i64 0,.int .i64 0] 158));have hb4:Below w3.heap.size w3 W4:=by rw[hW4];exact(qB).alloc (by simp) _
 have hz3:=hb3.size;have hz4:=hb4.size;have k24:Below W2.heap.size W2 W4:=hb3.trans (hb4.mono hz3);have HA4:Hid (yA W4 w.heap.size 304 1 w3.heap.size [.slice ua un uc]/\Below W2.heap.size W2 W4/\W2.heap.size<=W4.heap.size):=by refine⟨?_,k24,by omega⟩;rw[hW4];exact yA.ofHeap (vs:=#[.slice ua un uc]) (heap_alloc2_old w3 _ _) qo rfl
 obtain⟨nn,hg0⟩:=ho.gr;have ecut:cut (sb n.s) 0 n.s.size=sb n.s:=by unfold cut;rw[drop_zero,Nat.sub_zero,<-yAe,take_length]
 rw[ecut]at hg0;have hwt:wtA os<=250:=by have:=yV3 (λxs t q=>yV2 nn xs t q) hg0;rw[yAe]at this;omega
 have hU4:yD2 W4 (Bet W2.heap.size w3.heap.size) os (.slice ua un uc):=hU0.K (S:=λ_=>False) (Chg.h hb4) (λq hq=>hq.elim) (λq _ z=>z);obtain⟨dd,hU5⟩:=hU4;have hT4:TabD W4:=HT.1.i (S:=λ_=>False) (Chg.h (HW2.2.2.2.trans (k24.mono HW2.2.2.2.size))) (λq=>q);obtain⟨sa,sn,sc,hsl,hmk⟩:=yIs W4 hT4 (λk hk=>qw hk.2) hU5 hwt;simp only[Value.slice.injEq]at hsl;obtain⟨rfl,rfl,rfl⟩:=hsl;have HMk:Hid (Calls prog 221 #[.agg #[.slice ua un uc]] W4 (MkR os W4)):=hmk;have HGr:Hid (AltG (yAn nn) os (sb n.s)/\wtA os<=250):=⟨hg0,hwt⟩;obtain⟨rb,hrb⟩:=qE w3.heap.size;rw[<-hrb]at HA4;go_upto_region 8 with fail;rw[<-hW4,<-hrb];clear hW4 hrb ho hU0 hU5 hg0 hwt hT4 hmk ecut k24 hb3 hb4 hz3 hz4;have a0:=HA4.1.z (j:=0) rfl;have HB4:Hid (∀wx,Below W4.heap.size W4 wx->yA wx w.heap.size 286 8 (w.heap.size+1) (#[.int .i64 0,.string ⟨#[]⟩,.bool false,.string ⟨#[]⟩,.int .u64 0,.int .u64 0,.int .i64 0,.pointer none]).toList/\yA wx w.heap.size 286 8 (w.heap.size+1+1) (yJ6 n none)/\Below w.heap.size w wx):=λwx hx=>by have k:=HA4.2.1.trans (hx.mono HA4.2.2);exact⟨HW2.2.1.k k,HW2.2.2.1.k k,HW2.2.2.2.trans (k.mono HW2.2.2.2.size)⟩
 go_wp2_with fail;refine HMk.mono ?_;rintro e w5 ⟨M,G,cp,mp,rfl,H5⟩;have hB5:=HB4.out w5 H5.2.2.2;have q7:=hB5.2.1.z (j:=7) rfl;have g7:=hB5.2.1.frozen 7;have hlm:=H5.1.ltM;have hlg:=H5.1.ltG;have hlp:=H5.2.2.1;have hlp2:mp<w5.heap.size:=(Array.getElem?_eq_some_iff.1 H5.2.1).1;have hz4:=HA4.2.2;obtain⟨W6,hW6⟩:=qW (w5.setCell ⟨w.heap.size+1+1,7,none⟩ (.pointer (some ⟨M,0,none⟩)));have hc6:Chg (λk=>k=w.heap.size+1+1) w5 W6:=by rw[hW6];exact Chg.D _ _ _ _ rfl
 have hs6:W6.heap.size=w5.heap.size:=by rw[hW6];simp
 have HBx:Hid (yA W6 w.heap.size 286 8 (w.heap.size+1) (#[.int .i64 0,.string ⟨#[]⟩,.bool false,.string ⟨#[]⟩,.int .u64 0,.int .u64 0,.int .i64 0,.pointer none]).toList/\Below w.heap.size w W6/\w.heap.size+1<W6.heap.size/\yDq W6 (w.heap.size+1+1+1) W6.heap.size n (.pointer (some ⟨M,0,none⟩))):=by
  refine⟨hB5.1.i hc6 qo,Chg.k hB5.2.2 hc6 hB5.2.2.size (λk q=>by omega),qw hB5.2.2.size,.inr ⟨hP0.out,M,rfl,?_⟩⟩;have hcor:=yR1 (.alt os) 1;have e1:lyP (.alt os) 1=lyA os (Lay.no 1):=by simp only[lyP]
  rw[e1]at hcor;have hnx:(lyA os (Lay.no 1)).nx<=256:=by have h8:=nx_A os (Lay.no 1);have h9:=HGr.2;simp only[Lay.no]at h8;simp only[Lay.no];omega
  have hM5:yLf w5 W4.heap.size w5.heap.size M n.s:=⟨_,_,_,_,_,_,_,os,nn,HGr.1,HG.out hP0.out,H5.1,⟨0,StI.made H5.2.1⟩,λb p hp=>(hcor.spt.tk p _ hp).2,hcor.spt.le,hnx,hlp,hlm.2,hlg.2,hlp2,λs=>by
   have:=yWn os hnx s
   exact this⟩
  have h9:=hM5.i hc6 (λk q z=>qw z.1) (λq z=>qw HT.1.lt);rw[hs6];exact h9.wide qo (Nat.le_refl _) (qw HT.1.lt)
 have HB6:Hid (yA W6 w.heap.size 286 8 (w.heap.size+1+1) (yJ6 n (some ⟨M,0,none⟩))):=by rw[hW6];exact hB5.2.1.set 7 _
 have HE2:Hid (CteP n w (.returned (.agg #[.int .i64 n.f,.string n.s,.bool n.hi,.string n.t,.int .u64 n.lo,.int .u64 n.up,.int .i64 n.n,.pointer (some ⟨M,0,none⟩)])) (set8 W6 (w.heap.size+1) n (some ⟨M,0,none⟩))/\yA (set8 W6 (w.heap.size+1) n (some ⟨M,0,none⟩)) w.heap.size 286 8 (w.heap.size+1) (yJ6 n (some ⟨M,0,none⟩))):=HF.out W6 (some ⟨M,0,none⟩) HBx.1 HBx.2.1 HBx.2.2.1 HBx.2.2.2;clear hlm hlg hlp hlp2 hz4 hc6 hs6 H5 hB5;go_upto_region 9 with fail;rw[<-hW6];clear hW6 q7 g7 a0;obtain⟨W9,hW9⟩:=qE (set8 W6 (w.heap.size+1) n (some ⟨M,0,none⟩));rw[<-hW9]at HE2;simp only[set8]at hW9;obtain⟨m0,m1,m2,m3,m4,m5,m6,m7⟩:=HB6.c8;obtain⟨r0,r1,r2,r3,r4,r5,r6,r7⟩:=HBx.1.c8;obtain⟨f0,f1,f2,f3,f4,f5,f6,f7⟩:=HBx.1.f8;go_wp2;rw[<-hW9];exact bodyPost_ret (xCh (O:=w.heap.size) (g:=w.heap.size+1) rfl HE2.2) rfl HE2.1):p:=h
theorem zzQ1 (h:p:=by
 go_wp2_with fail;go_loopw[6,7] (λjv nv wr=>∃(j n:Nat)(f:U8->Bool),j<=p.size/\n<=j/\jv=.int .i64 (j:Int)/\nv=.int .i64 (n:Int)/\yEi (sb p) (i+1) false j (decide (0<n)) f/\wr=W0) (λjv _ _=>p.size-(intOf jv).toNat);case atStart=>exact⟨j0,0,λ_=>false,hj0,zero_le _,congrArg (Value.int .i64) (by rw[HJ0.out];simp<;>omega),rfl,HM0.out,rfl⟩
 case round=>
  obtain⟨j,n,f,hj,hnj,rfl,rfl,hE,hwr⟩:=hrel;have HE:Hid (yEi (sb p) (i+1) false j (decide (0<n)) f):=hE;rw[hwr];clear hE hwr HM0 HJ0 HNG;by_cases hlt:j<p.size
  .obtain⟨x,hx⟩:∃x,(sb p)[j]?=some x:=⟨_,getElem?_eq_getElem (by rw[yAe];exact hlt)⟩;obtain⟨_,gx⟩:=yAw hx;have HX:Hid ((sb p)[j]?=some x):=hx;have zj:(j:Int)<(p.size:Int):=by omega
   clear hx;by_cases hend:x=93/\0<n
   .obtain⟨rfl,hn0⟩:=hend;have zn:(0:Int)<(n:Int):=by omega
    have HF:Hid (∃f',yAt (sb p) (i+1)=.inl (f',j+1)):=by refine⟨if false=true then λc=> !f c else f,?_⟩;rw[HE.eq,decide_eq_true hn0,yTu HX.out]
    obtain⟨f',hf'⟩:=HF.out;have HF':Hid (yAt (sb p) (i+1)=.inl (f',j+1)):=hf';clear hf' HF;go_wp2_with fail;exact bodyPost_ret (v:=.tuple #[.int .i64 ((j+1:Nat):Int),.agg #[.int .i64 0,.int .i64 0]]) (yB7 rfl rfl (HS.out (.int .i64 0) (.int .i64 0)).1) rfl ⟨.inl ⟨f',j+1,HF'.out,rfl⟩,(HS.out (.int .i64 0) (.int .i64 0)).2⟩
   .have HG:Hid (clsM (sb p) j (decide (0<n)) f=match yCh (sb p) j with| .inr e=>.inr e| .inl (a,b,k)=>clsM (sb p) k true (wider f a b)):=xCk (by rw[yAe];omega) (λq=>hend ⟨by have h1:=q.1;rw[HX.out]at h1;exact Option.some.inj h1,by simpa using q.2⟩);obtain⟨lo,k,b,hch⟩:∃lo k b,chM (sb p) j=(lo,k,b):=⟨_,_,_,rfl⟩;have HCh:Hid (chM (sb p) j=(lo,k,b)):=hch;have hkl:b=true->k<=p.size/\j<k:=λq=>by subst q;have:=yFn hch;rw[yAe]at this;omega
    clear hch;have hpick:((x.toNat:Int)==93)=false\/(¬(0:Int)<(n:Int)):=by
     by_cases h93:x=93
     .exact .inr (λq=>hend ⟨h93,by omega⟩)
     .exact .inl (iC.2 (yA7 (c:=93) h93))
    clear hend;have hpk:(((x.toNat:Int)==93)=false)\/(((x.toNat:Int)==93)=true/\n=0):=by
     rcases hpick with q|q
     .exact .inl q
     .cases hq:((x.toNat:Int)==93)
      .exact .inl rfl
      .exact .inr ⟨rfl,by omega⟩
    clear hpick;rcases hpk with h93|⟨h93,hn0⟩;case' inr=>
     have zn:¬(0:Int)<(n:Int):=by omega
     clear hn0
    all_goals
     go_wp2_with fail
     refine(yD9 p j W0 hp qo lo k b HCh.out).mono ?_
     rintro e w1 ⟨rfl,hw1⟩
     rw[hw1]
     clear hw1
     cases b
     case false=>
      have HF:Hid (yAt (sb p) (i+1)=.inr (2,k)):=by show yAt (sb p) (i+1)=_;rw[HE.eq,HG.out];unfold yCh;rw[HCh.out]
      go_wp2_with fail;exact bodyPost_ret (v:=.tuple #[.int .i64 0,.agg #[.int .i64 2,.int .i64 (k:Int)]]) (yB7 rfl rfl (HS.out (.int .i64 2) (.int .i64 (k:Int))).1) rfl ⟨.inr ⟨2,k,HF.out,rfl⟩,(HS.out (.int .i64 2) (.int .i64 (k:Int))).2⟩
     obtain⟨hks,hjk⟩:=hkl rfl
     clear hkl
     by_cases h45:(sb p)[k]?=some 45
     .obtain⟨hk2,gk⟩:=yAw h45;have HK:Hid ((sb p)[k]?=some 45):=h45;have zk:(k:Int)<(p.size:Int):=by omega
      obtain⟨hh,m,b2,hch2⟩:∃hh m b2,chM (sb p) (k+1)=(hh,m,b2):=⟨_,_,_,rfl⟩;have HCh2:Hid (chM (sb p) (k+1)=(hh,m,b2)):=hch2;have hml:b2=true->m<=p.size/\k<m:=λq=>by subst q;have:=yFn hch2;rw[yAe]at this;omega
      clear hch2 h45;go_wp2_with fail;refine(yD9 p (k+1) W0 hp qo hh m b2 HCh2.out).mono ?_;rintro e w2 ⟨rfl,hw2⟩;rw[hw2];clear hw2;cases b2
      .have HF:Hid (yAt (sb p) (i+1)=.inr (2,m)):=by show yAt (sb p) (i+1)=_;rw[HE.eq,HG.out];unfold yCh;rw[HCh.out];simp only[];rw[iB HK.out,HCh2.out]
       go_wp2_with fail;exact bodyPost_ret (v:=.tuple #[.int .i64 0,.agg #[.int .i64 2,.int .i64 (m:Int)]]) (yB7 rfl rfl (HS.out (.int .i64 2) (.int .i64 (m:Int))).1) rfl ⟨.inr ⟨2,m,HF.out,rfl⟩,(HS.out (.int .i64 2) (.int .i64 (m:Int))).2⟩
      .obtain⟨hms,hkm⟩:=hml rfl;clear hml;by_cases hlo:hh<lo
       .have zlo:(hh.toNat:Int)<(lo.toNat:Int):=by have:=UInt8.lt_iff_toNat_lt.1 hlo;omega
        have HF:Hid (yAt (sb p) (i+1)=.inr (4,j)):=by show yAt (sb p) (i+1)=_;rw[HE.eq,HG.out];unfold yCh;rw[HCh.out];simp only[];rw[iB HK.out,HCh2.out];simp only[];rw[iB hlo]
        go_wp2_with fail;exact bodyPost_ret (v:=.tuple #[.int .i64 0,.agg #[.int .i64 4,.int .i64 (j:Int)]]) (yB7 rfl rfl (HS.out (.int .i64 4) (.int .i64 (j:Int))).1) rfl ⟨.inr ⟨4,j,HF.out,rfl⟩,(HS.out (.int .i64 4) (.int .i64 (j:Int))).2⟩
       .have zlo:(lo.toNat:Int)<=(hh.toNat:Int):=by have:=UInt8.le_iff_toNat_le.1 (UInt8.not_lt.1 hlo);omega
        have HF:Hid (yEi (sb p) (i+1) false m true (wider f lo hh)):=by show yEi _ _ _ _ _ _;unfold yEi;rw[HE.eq,HG.out];unfold yCh;rw[HCh.out];simp only[];rw[iB HK.out,HCh2.out];simp only[];rw[iA hlo]
        clear hlo;go_wp2_with fail;go_roundw;case rel=>exact⟨m,n+1,wider f lo hh,hms,by omega,rfl,by go_num,by rw[decide_eq_true (succ_pos n)];exact HF.out,trivial⟩
        case measure=>simp[intOf];omega
     .have HK:Hid (¬(sb p)[k]?=some 45):=h45;have HF:Hid (yEi (sb p) (i+1) false k true (wider f lo lo)):=by show yEi _ _ _ _ _ _;unfold yEi;rw[HE.eq,HG.out];unfold yCh;rw[HCh.out];simp only[];rw[iA HK.out]
      clear h45;by_cases hke:k<p.size
      .obtain⟨y,hy⟩:∃y,(sb p)[k]?=some y:=⟨_,getElem?_eq_getElem (by rw[yAe];exact hke)⟩;obtain⟨_,gy⟩:=yAw hy;have zk:(k:Int)<(p.size:Int):=by omega
       have zy:((y.toNat:Int)==45)=false:=iC.2 (yA7 (c:=45) (λq=>HK.out (by rw[hy,q])));clear hy;go_wp2_with fail;go_roundw;case rel=>exact⟨k,n+1,wider f lo lo,hks,by omega,rfl,by go_num,by rw[decide_eq_true (succ_pos n)];exact HF.out,trivial⟩
       case measure=>simp[intOf];omega
      .have zk:¬(k:Int)<(p.size:Int):=by omega
       go_wp2_with fail;go_roundw;case rel=>exact⟨k,n+1,wider f lo lo,hks,by omega,rfl,by go_num,by rw[decide_eq_true (succ_pos n)];exact HF.out,trivial⟩
       case measure=>simp[intOf];omega
  .have HF:Hid (yAt (sb p) (i+1)=.inr (2,p.size)):=by show yAt (sb p) (i+1)=_;rw[HE.eq,clsM,dif_neg (by rw[yAe];exact hlt),yAe]
   have zj:¬(j:Int)<(p.size:Int):=by omega
   go_wp2_with fail;exact bodyPost_ret (v:=.tuple #[.int .i64 0,.agg #[.int .i64 2,.int .i64 (p.size:Int)]]) (yB7 rfl rfl (HS.out (.int .i64 2) (.int .i64 (p.size:Int))).1) rfl ⟨.inr ⟨2,p.size,HF.out,rfl⟩,(HS.out (.int .i64 2) (.int .i64 (p.size:Int))).2⟩):p:=h
theorem zzQ2 (h:p:=by
 refine jS ?_;refine kO 14 HS3.out ?_;refine kL 15 ?_;refine qD ?_;obtain⟨W4,hW4⟩:=qW (set4 v3 M (bn*4) (sOr (T bn) (sOne a)));have HW4:Hid (MtrI W4 O M (yCr T (lyP (.byte b) a)) G1 cp1 (a+1) (yBn E (lyP (.byte b) a)) en mp/\yA W4 w 343 8 w zsA.toList/\Chg (λk=>k=M\/k=G) w W4/\(G1=G\/w.heap.size<=G1)):=by
  have hc:Chg (λk=>k=M) v3 W4:=by rw[hW4];exact yBk v3 M _ _ rfl
  have h1:MtrI W4 O M (updE T bn (sOr (T bn) (sOne a))) G1 cp1 (a+1) E en mp:=by rw[hW4,Nat.mul_comm bn 4];exact HM3.setT hlB _
  have k0:Chg (λk=>k=M\/k=G) w W0:=Chg.h HW0.2.2.1;have k1:Chg (λk=>k=M\/k=G) w1 v3:=Chg.h HV.out;have q0:=HW0.2.2.1.size;refine⟨h1.iff (λc p hc hp=>?_) (λq p hq hp=>by simp[yBn,lyP]) (λp hp q=>by have:=h1.new p hp q;simp[yBn,lyP,this]),HB3.1.i hc qo,((k0.trans H1.2.1).trans k1).trans (hc.mono (λk q=>.inl q)),?_⟩
  .unfold yCr updE;by_cases e:c=bn
   .subst e;have:UInt8.ofNat c=b:=by rw[HBn.out];simp
    simp[sOr,sOne,lyP,this]
   .have:¬UInt8.ofNat c=b:=λq=>e (by rw[HBn.out,<-q,UInt8.toNat_ofNat'];omega);rw[iA e];simp[lyP,this]
  .rcases H1.2.2 with q|q
   .exact .inl q
   .exact .inr qo
 have HSp:Hid (∀wx:Ww,Calls prog 250 #[xi a] wx λe w'=>e=.returned (spV (sOne a) (sOne a))/\Below wx wx w'):=λwx=>yFc a ha wx;have hW4':W4=(xt (((v3.setCell (xd M (bn*4)) (xu (wdN (sOr (T bn) (sOne a)) 0))).setCell (xd M (bn*4+1)) (xu (wdN (sOr (T bn) (sOne a)) 1))).setCell (xd M (bn*4+2)) (xu (wdN (sOr (T bn) (sOne a)) 2))) M (bn*4+3) (xu (wdN (sOr (T bn) (sOne a)) 3))):=hW4;rw[<-hW4'];clear hW4 hW4' g0 g1 g2 g3 y0 y1 y2 y3 HS0 HS3 r0;go_wp2_with fail;refine(HSp.out _).mono ?_;rintro e w5 ⟨rfl,hb5⟩;have HB5:=HW4.2.1.k hb5;obtain⟨r0,r1,r2,r3,r4,r5,r6,r7⟩:=HB5.c8;obtain⟨f0,f1,f2,f3,f4,f5,f6,f7⟩:=HB5.f8;have HF:Hid (LayR O M T G E en mp (lyP (.byte b) a) w (.returned (spV (sOne a) (sOne a))) (setSp w5 w (sOne a) (sOne a))/\yA (setSp w5 w (sOne a) (sOne a)) w 343 8 w (spL (sOne a) (sOne a))):=by have h5:=HW4.1.k hb5;have hc:Chg (λk=>k=w.heap.size) w5 (setSp w5 w (sOne a) (sOne a)):=yK w5 _ _ _ rfl;have hG1:¬G1=w.heap.size:=λq=>yAb h5.j HB5 qj G1 rfl (by rw[q];rfl);refine⟨⟨G1,cp1,rfl,⟨h5.i hc qo hG1 (λk q=>by omega),?_,HW4.2.2.2⟩⟩,HB5.setSp _ _⟩;have hx:=HW4.2.2.1.trans (Chg.h hb5);exact⟨hc.os.trans hx.os,hc.tape.trans hx.tape,hc.output.trans hx.output,Nat.le_trans hx.size hc.size,λj hj hn=>(hc.block j (Nat.lt_of_lt_of_le hj hx.size) qo).trans (hx.block j hj hn)⟩
 clear HB5 hb5;go_wp2;exact bodyPost_ret (v:=spV (sOne a) (sOne a)) (yEm (O:=w.heap.size) (g:=w.heap.size) rfl HF.2) rfl HF.1):p:=h
theorem zzQ4 (h:p:=by
 clear hx1 hng hj0;go_enter func255,ntmps255;go_wp2;go_loopw[5,7] (λjv inv wr=>∃(j:Nat)(it gb:Bool),j<=q.size/\jv=(xi j)/\inv=.bool gb/\Hid (∃g:U8->Bool,g b=gb/\clsM (sb q) j it g=.inl (f0,q.size))/\wr=w) (λjv _ _=>q.size-(intOf jv).toNat);case atStart=>exact⟨_,false,false,by omega,by first|rfl|go_num,rfl,⟨λ_=>false,rfl,HC0.out⟩,rfl⟩
 case round=>
  obtain⟨j,it,gb,hj,rfl,rfl,HC,hwr⟩:=hrel;rw[hwr];clear hwr;obtain⟨g,hg,hC⟩:=HC.out;have HG:Hid (g b=gb):=hg;rcases yX8 hC with⟨h93,_,hf,hn⟩|⟨x,lo,k1,hx,hx93,hch,hk1,y,hy,hrest⟩
  .obtain⟨_,gx⟩:=yAw h93;have zj:(j:Int)<(q.size:Int):=by have:=yAq h93;rw[yAe]at this;omega
   have HF:Hid (gb=f0 b):=by show gb=_;rw[<-HG.out,hf]
   clear hC hg hf hn h93 HC0 HC;go_wp2;go_ret;exact⟨by rw[HF.out,HFn.out b];cases f0 b<;>rfl,rfl⟩
  .obtain⟨_,gx⟩:=yAw hx;obtain⟨_,gy⟩:=yAw hy;have hjl:=yAq hx;rw[yAe]at hjl hk1;have zj:(j:Int)<(q.size:Int):=by omega
   have zk:(k1:Int)<(q.size:Int):=by omega
   have hkj:=(yFn hch).1;have z93:((x.toNat:Int)==93)=false:=iC.2 (yA7 (c:=93) hx93);have HCh:Hid (chM (sb q) j=(lo,k1,true)):=hch;clear hC hg hx hx93 hch hy HC0 HC;go_wp2_with fail;refine(yD9 q j w hq qo lo k1 true HCh.out).mono ?_;rintro e' w' ⟨rfl,hw'⟩;rw[hw'];clear hw';rcases hrest with⟨h45,hi,m,hch2,hcl⟩|⟨h45,hcl⟩
   .have z45:((y.toNat:Int)==45)=true:=by rw[h45];rfl
    have HCh2:Hid (chM (sb q) (k1+1)=(hi,m,true)):=hch2;have hm:=(yFn hch2);rw[yAe]at hm;have HCl:Hid (clsM (sb q) m true (λc=>g c || (decide (lo<=c) && decide (c<=hi)))=.inl (f0,q.size)):=hcl;have HZ:Hid (((k1:Int)+1)=((k1+1:Nat):Int)):=by show _=_;omega
    clear hch2 hcl h45;go_wp2_with fail;rw[HZ.out];refine(yD9 q (k1+1) w hq qo hi m true HCh2.out).mono ?_;rintro e' w' ⟨rfl,hw'⟩;rw[hw'];clear hw';cases gb
    case true=>
     have HV:Hid ((g b || (decide (lo<=b) && decide (b<=hi)))=true):=by show _=_;rw[HG.out];rfl
     go_wp2;go_roundw;case rel=>exact⟨m,true,true,by omega,by first|rfl|go_num,by first|rfl|(simp;omega),⟨_,HV.out,HCl.out⟩,trivial⟩
     case measure=>simp[intOf];omega
    case false=>
     by_cases hlo:lo<=b
     .have hd1:((lo.toNat:Int)<=(b.toNat:Int)):=qw (UInt8.le_iff_toNat_le.1 hlo)
      by_cases hhi:b<=hi
      .have hd2:((b.toNat:Int)<=(hi.toNat:Int)):=qw (UInt8.le_iff_toNat_le.1 hhi)
       have HV:Hid ((g b || (decide (lo<=b) && decide (b<=hi)))=true):=by show _=_;rw[HG.out];simp[hlo,hhi]
       go_wp2;go_roundw;case rel=>exact⟨m,true,true,by omega,by first|rfl|go_num,by first|rfl|(simp;omega),⟨_,HV.out,HCl.out⟩,trivial⟩
       case measure=>simp[intOf];omega
      .have hd2:¬((b.toNat:Int)<=(hi.toNat:Int)):=λq=>hhi (UInt8.le_iff_toNat_le.2 qo);have HV:Hid ((g b || (decide (lo<=b) && decide (b<=hi)))=false):=by show _=_;rw[HG.out];simp[hhi]
       go_wp2;go_roundw;case rel=>exact⟨m,true,false,by omega,by first|rfl|go_num,by first|rfl|(simp;omega),⟨_,HV.out,HCl.out⟩,trivial⟩
       case measure=>simp[intOf];omega
     .have hd1:¬((lo.toNat:Int)<=(b.toNat:Int)):=λq=>hlo (UInt8.le_iff_toNat_le.2 qo);have HV:Hid ((g b || (decide (lo<=b) && decide (b<=hi)))=false):=by show _=_;rw[HG.out];simp[hlo]
      go_wp2;go_roundw;case rel=>exact⟨m,true,false,by omega,by first|rfl|go_num,by first|rfl|(simp;omega),⟨_,HV.out,HCl.out⟩,trivial⟩
      case measure=>simp[intOf];omega
   .have z45:((y.toNat:Int)==45)=false:=iC.2 (yA7 (c:=45) h45);have HCl:Hid (clsM (sb q) k1 true (λc=>g c || (decide (lo<=c) && decide (c<=lo)))=.inl (f0,q.size)):=hcl;clear hcl h45;cases gb
    case true=>
     have HV:Hid ((g b || (decide (lo<=b) && decide (b<=lo)))=true):=by show _=_;rw[HG.out];rfl
     go_wp2;go_roundw;case rel=>exact⟨k1,true,true,by omega,by first|rfl|go_num,by first|rfl|(simp;omega),⟨_,HV.out,HCl.out⟩,trivial⟩
     case measure=>simp[intOf];omega
    case false=>
     by_cases hlo:lo<=b
     .have hd1:((lo.toNat:Int)<=(b.toNat:Int)):=qw (UInt8.le_iff_toNat_le.1 hlo)
      by_cases hhi:b<=lo
      .have hd2:((b.toNat:Int)<=(lo.toNat:Int)):=qw (UInt8.le_iff_toNat_le.1 hhi)
       have HV:Hid ((g b || (decide (lo<=b) && decide (b<=lo)))=true):=by show _=_;rw[HG.out];simp[hlo,hhi]
       go_wp2;go_roundw;case rel=>exact⟨k1,true,true,by omega,by first|rfl|go_num,by first|rfl|(simp;omega),⟨_,HV.out,HCl.out⟩,trivial⟩
       case measure=>simp[intOf];omega
      .have hd2:¬((b.toNat:Int)<=(lo.toNat:Int)):=λq=>hhi (UInt8.le_iff_toNat_le.2 qo);have HV:Hid ((g b || (decide (lo<=b) && decide (b<=lo)))=false):=by show _=_;rw[HG.out];simp[hhi]
       go_wp2;go_roundw;case rel=>exact⟨k1,true,false,by omega,by first|rfl|go_num,by first|rfl|(simp;omega),⟨_,HV.out,HCl.out⟩,trivial⟩
       case measure=>simp[intOf];omega
     .have hd1:¬((lo.toNat:Int)<=(b.toNat:Int)):=λq=>hlo (UInt8.le_iff_toNat_le.2 qo);have HV:Hid ((g b || (decide (lo<=b) && decide (b<=lo)))=false):=by show _=_;rw[HG.out];simp[hlo]
      go_wp2;go_roundw;case rel=>exact⟨k1,true,false,by omega,by first|rfl|go_num,by first|rfl|(simp;omega),⟨_,HV.out,HCl.out⟩,trivial⟩
      case measure=>simp[intOf];omega):p:=h
theorem zzQ5 (h:p:=by
 have hMm:¬M=mp:=yEw h.st.map h.st.mtr.A;have hGm:¬G=mp:=λq=>h.st.map.ne h.st.mtr.j q.symm;have hMa:¬M=w.heap.size+1+1:=λq=>yAb h.st.mtr.A h.st.ans qj M rfl (by rw[q];rfl);have hGa:¬G=w.heap.size+1+1:=λq=>yAb h.st.mtr.j h.st.ans qj G rfl (by rw[q];rfl);have hbp:O<=mp:=HLp.out;have hc8:Chg (λk=>k=Dd) W7 (W7.putObj Dd (.deferred none)):=Chg.M (grownBy_putObj' W7 Dd _) (λj q=>by cases q;rfl);have hDd:=HA.2.2.2.2;have HF:Hid (StQ O M T G cp a E en mp S w (.returned (stV (ahd E S) (acc en S))) (W7.putObj Dd (.deferred none))/\yA (W7.putObj Dd (.deferred none)) w 330 5 (w+1+1) (stL (ahd E S) (acc en S))):=by have m6:=h.st.mtr.i HA.2.2.2.1 hMm hGm (λk q=>by omega);have m7:=m6.i hc7 hMa hGa (λk q=>by omega);have m8:=m7.i hc8 qo qo (λk q=>by omega);have hx:Chg (λk=>k=mp) w w6:=h.low.trans HA.2.2.2.1;have hx7:=yI4 hx (hc7.mono (λk q=>by omega));have hx8:=yI4 hx7 (hc8.mono (λk q=>by omega));refine⟨⟨rfl,m8,(HA.2.2.1.i hc7 ha2).i hc8 (λq=>hDm q.symm),hx8⟩,?_⟩;have b7':=hA6.set5 (ahd E S) (acc en S);rw[<-hW7]at b7';exact b7'.i hc8 qo
 have hW7':=hW7;simp only[set5]at hW7';clear hB6 hA6 hc7 hc8 hM6;gi_wp2;rw[<-hW7'];refine⟨by simp,.inl ⟨_,_,rfl,run_takeDeferred hKD,?_⟩⟩;exact⟨_,xB6 (O:=w.heap.size) (g:=w.heap.size+1+1) rfl HF.2,HF.1⟩):p:=h
theorem zzQ7 (h:p:=by
 refine yB8 (i:=2) (v:=?va2) rfl qk qk qk qk qj (λ_ _ _ h=>h) (Or.inl ⟨by rfl,?ya2⟩) (by simp) ?_;case ya2=>exact zzR1
 refine jS ?_;refine yB8 (i:=3) (v:=?va3) rfl qk qk qk qk qj (λ_ _ _ h=>h) (Or.inl ⟨by rfl,?ya3⟩) (by simp) ?_;case ya3=>exact zzR1
 refine jS ?_;refine yB8 (i:=4) (v:=?va4) rfl qk qk qk qk qj (λ_ _ _ h=>h) (Or.inl ⟨by rfl,?ya4⟩) (by simp) ?_;case ya4=>exact zzR1
 refine jS ?_;refine ja 5 (by simp) (v:=(xi n)) ?_;refine yB8 (i:=6) (v:=?va6) rfl qk qk qk qk qj (λ_ _ _ h=>h) (Or.inl ⟨by rfl,?ya6⟩) (by simp) ?_;case ya6=>exact zzR1
 refine jS ?_;refine yB8 (i:=7) (v:=?va7) rfl qk qk qk qk qj (λ_ _ _ h=>h) (Or.inl ⟨by rfl,?ya7⟩) (by simp) ?_;case ya7=>exact zzR1
 refine jS ?_;refine yB8 (i:=8) (v:=?va8) rfl qk qk qk qk qj (λ_ _ _ h=>h) (Or.inl ⟨by rfl,?ya8⟩) (by simp) ?_;case ya8=>exact zzR4
 refine jS ?_;refine kL 9 ?_;refine qD ?_;go_wp2;refine bodyPost_ret (v:=psV (sOr S (sOne a))) (by simp[results,results233,go_sem,HW.2]) rfl ⟨rfl,?_⟩;repeat (first|exact Below.refl _ _|refine Below.drew ?_|refine Below.alloc ?_ (by simp;done) _|refine Below.alloc ?_ (Nat.le_refl _) _|refine Below.alloc ?_ (by simp;omega) _)):p:=h
theorem zzQ8(h:p:=by refine jS ?_;refine qO 13 rfl λK hK=>?_;go_simp;refine(HEn.out _ HKwb.out).mono ?_;rintro e wy hy;have HY:=HTk.out _ _ HKwb.out e hy;obtain⟨rfl,_,_⟩:=hy;refine hK.out _ _ (.inl rfl) ?_;clear hK hS0;refine jS ?_;refine qD ?_;have HYH:Hid (Calls prog 217 #[xp t] wy (CnP O t g cap ks i k most c sm w)):=HY;clear HY;go_wp2_with fail;refine HYH.mono ?_;rintro e w9 h9;obtain⟨h91,h92,h93⟩:=h9;subst h91;have HRR:Hid (CnP O t g cap ks i k most c sm w (.returned (.bool (decide ((yF5 sm k c).count<most)))) w9):=⟨rfl,h92,h93⟩;clear h92 h93;go_wp2;go_ret;exact HRR.out):p:=h
theorem xGq (h:p:=by
 have heq:=yS6 (stp E T Sk x);obtain⟨q0,q1,q2,q3⟩:=HW4.2.c4;cases hne:noE (stp E T Sk x)with
 |true=>
  rw[hne]at heq;have HFn:Hid ((false=true↔acc en (runS E T (sOne 0) (sb s))=true)):=by
   refine⟨λq=>(by cases q),λq=>?_⟩;rw[HN.2.2]at q;have hd:∀p,p<256->(stp E T Sk x) p=false:=λp hp=>by
    cases hx:(stp E T Sk x) p with
    |false=>rfl
    |true=>have:=(yXg (stp E T Sk x)).2 ⟨p,hp,hx⟩;rw[hne]at this;cases this
   unfold acc at q;rw[any_eq_true]at q;obtain⟨p,hp,hx⟩:=q;rw[yOh E T _ _ hd p (mem_range.1 hp)]at hx;cases hx
  clear hne;go_wp2;go_ret;exact⟨false,rfl,HFn.out,HW4.1.mtr,HW4.1.map,HW4.1.i⟩
 |false=>
  rw[hne]at heq;clear hne;have HSt:Hid (Calls prog 232 #[xp M,psV (stp E T Sk x)] W4 (StW O M T G cp a E en mp (stp E T Sk x) W4)):=yN9 (stp E T Sk x) W4 HW4.1.mtr HW4.1.map (λp hp=>by
   unfold stp sAnd at hp
   rw[Bool.and_eq_true]at hp
   exact HT.out _ _ hp.2) ha hbm
  go_wp2_with fail;refine HSt.mono ?_;rintro e w5 ⟨rfl,H5⟩;have hne5:=HW4.1.ne;have HB5:=HW4.1.A.i H5.2.2 (λq=>hne5.2.2.1 q.symm);have r0:=HB5.z (j:=0) rfl;have f0:=HB5.frozen 0;have r1:=HB5.z (j:=1) rfl;have f1:=HB5.frozen 1;have r2:=HB5.z (j:=2) rfl;have f2:=HB5.frozen 2;have r3:=HB5.z (j:=3) rfl;have f3:=HB5.frozen 3;have r4:=HB5.z (j:=4) rfl;have f4:=HB5.frozen 4;have HJ2:Hid (MaU w O M T G cp a E en mp b5 (runS E T (sOne 0) ((sb s).take (k+1))) (set5 w5 b5 (ahd E (stp E T Sk x)) (acc en (stp E T Sk x)))):=by have hc:Chg (λj=>j=b5) w5 (set5 w5 b5 (ahd E (stp E T Sk x)) (acc en (stp E T Sk x))):=yI3 _ _ _ _ rfl;have hbl:=HW3.2;have hbs:=HI.2.2;rw[HN.1];exact⟨H5.1.i hc hne5.1 hne5.2.1 (λj q=>by omega),H5.2.1.i hc hne5.2.2.1,HB5.set5 _ _,yI4 (HW4.1.i.trans H5.2.2) (hc.mono (λj q=>by omega))⟩
  simp only[set5]at HJ2;clear HB5;go_wp2_with fail;refine⟨⟨k+1,by omega,by go_num,HJ2⟩,?_⟩;go_light;simp[intOf];omega):p:=h
theorem yL7 (h:p:=by
 rcases h.2 with⟨h0,_⟩|⟨g',cap',cur,hv,_,_,hn,hcap,_,_⟩
 .cases h0
 .simp only[Value.slice.injEq,Option.some.injEq,Addr.mk.injEq,and_true,true_and]at hv;obtain⟨rfl,rfl⟩:=hv;exact⟨hn,hcap⟩):p:=h
theorem xIh (h:p:=by
 refine ja 0 (HS7.out _ (HBl.out _ ((Below.refl _ _).drew))) ?_;iterate 8 refine jb (HS7.out _ (HBl.out _ ((Below.refl _ _).drew))) ?_
 refine qO 9 rfl λK hK=>?_;go_simp;refine(HU.out _).mono ?_;rintro r v5 ⟨rfl,hb5⟩;have HV5:Hid (RaI w O M T G cp a E en mp n D S b7 k W4 v5/\Below W W v5):=⟨HBl.out _ (((Below.refl W W).drew).trans hb5),((Below.refl W W).drew).trans hb5⟩;obtain⟨y0,y1,y2,y3⟩:=HV5.1.made.c4;obtain⟨o0,o1,o2,o3⟩:=HV5.1.made.f4;refine hK.out _ _ (.inr (HS7.out _ HV5.1)) ?_;clear hK hb5;refine jS ?_;refine ja 10 (HS7.out _ HV5.1) ?_;refine kL 11 ?_;refine qD ?_;have hc:Chg (λj=>j=b7) v5 (set4 v5 b7 0 (sOr (ahdT E S k) (E x))):=yBk _ _ _ _ rfl;have hb7:=HR4.2;have h5:=HV5.1;have hbw:w.heap.size<=b7:=h5.made.lt.1;have hLo:=HLo.out;have hM:¬M=b7:=λq=>yAb h5.st.mtr.A h5.made qj M rfl (by rw[q];rfl);have hG:¬G=b7:=λq=>yAb h5.st.mtr.j h5.made qj G rfl (by rw[q];rfl);have hp:¬mp=b7:=h5.st.map.ne h5.made;have hgt:w.heap.size+1+1<b7:=HGt.out;refine⟨rfl,⟨Nat.le_trans HV5.2.size hc.size,λj o hj ho _=>(hc.block j (Nat.lt_of_lt_of_le (Array.getElem?_eq_some_iff.1 ho).1 HV5.2.size) qo).trans ((HV5.2.block j (Array.getElem?_eq_some_iff.1 ho).1).trans ho)⟩,?_⟩;refine⟨h5.st.i hc hM hG hp (λj q=>by omega),?_,Chg.k h5.low hc h5.low.size (λj q=>by omega),Nat.le_trans h5.size hc.size⟩;rw[yZl hkx HA.2.1 HA.2.2];have h6:=yFv h5.made 0 (sOr (ahdT E S k) (E x));exact h6):p:=h
theorem xGo(h:p:=by refine qO 8 rfl λK hK=>?_;obtain⟨z0,z1,z2,z3,z4,z5⟩:=hS0;have hS0:=And.intro z0 (And.intro z1 (And.intro z2 (And.intro z3 (And.intro z4 z5))));go_simp;refine hK.out _ _ (.inr hS0) ?_;clear hK;refine jS ?_;obtain⟨V,hV⟩:=qW (setCs wb g o (entC c).kc);have HR:Hid (EnP O t g cap ks i k most c false w (.returned (.tuple #[])) V):=HKwb.fin (by rw[HO.out];exact hV);obtain⟨c0,c1,c2,c3⟩:=HKwb.ck.cells;have fz:=HKwb.ck.frozen;rw[HO.out]at c0 c1 c2 c3;simp only[setCs,entC,Nat.add_assoc,Nat.reduceAdd]at hV;refine qO 9 rfl λK hK=>?_;go_simp;rw[<-hV];clear hV c0 c1 c2 c3 fz hS0;refine hK.out _ _ (.inl rfl) ?_;clear hK;refine jS ?_;refine qD ?_;go_wp2_with fail;exact bodyPost_end (results_none rfl _ _ _) rfl HR.out):p:=h
theorem xGn (h:p:=by
 generalize wY.drew=WD at HI5 hS0|-;refine yKr 0 rfl hS0 ?_;refine yKr 1 rfl hS0 ?_;refine yKr 2 rfl hS0 ?_;refine yKr 4 rfl hS0 ?_;refine yKr 5 rfl hS0 ?_;refine yE0 (i:=3) qk rfl (λK hK=>?_);go_simp;refine⟨trivial,(callsIn_wide.2 (HSh.out WD)).mono ?_⟩;rintro e w5 ⟨rfl,hb5⟩;have hS5:=HSS.out _ (HI5.1.k hb5) (HI5.2.1.k hb5);obtain⟨fn,tmps,assign,body,hy,hRy⟩:=HYs.out w5 (HI5.2.2.trans (hb5.mono HI5.2.2.size));refine hK.out _ _ (.inr hS5) ?_;clear hK hS0 hb5;refine jS ?_;refine yE0 (i:=6) qk rfl (λK hK=>?_);go_simp;refine hRy.mono ?_;rintro e W9 ⟨rfl,hJ9⟩;rw[HNx.out]at hJ9;have HJ9:Hid (J nx ks' v' W9):=hJ9;refine hK.out _ _ (.inl qj) ?_;clear hK hS5 hJ9 hRy hy;refine jS ?_;refine yE0 (i:=7) qk rfl (λK hK=>?_);go_simp;refine hK.out _ _ (.inl qj) ?_;clear hK;refine jS ?_;refine yKh qk ?_;obtain⟨o7,n7,c7,hsv7,hn7,hnc7,hcm7,ho7⟩:=HSx.out;have HE7:Hid (SvI b off M nx (.slice (some ⟨b,o7,none⟩) n7 c7)):=⟨o7,n7,c7,rfl,hn7,hnc7,hcm7,ho7⟩;have hlt7:n7<M-i:=qw HNl.out
 rw[hsv7];clear ho7 hn7;gi_wp2;go_roundw;case rel=>exact⟨nx,ks',v',qw HNl.out,HE7.out,HJ9.out⟩
 case measure=>(have h1:=HRn.out;have h3:=hlt7;rw[<-h1]at h3;exact h3)):p:=h
theorem xIg(h:p:=by have hfd:=yS2 c k;go_wp2_with fail;refine(HC.out _).mono ?_;rintro r w2 ⟨rfl,hb2⟩;have hs1:=hb1.size;have HK:Hid (Below w w w2):=(HW0.2.trans (hb1.mono hbw)).trans (hb2.mono qo);clear hb1 hb2 d0 d1 d2 d3 d4 d5 d6;go_wp2;go_ret;refine⟨_,rfl,?_,HK.out⟩;have hG:=HG.out;have hB:=HB.out;simp at hB;rw[HV.out];simp[yCz];simp_all):p:=h
theorem yT8 (h:p:=by
 refine⟨h.1,?_⟩;rcases h.2 with hn|⟨g',cap',cur,hv,h1,rest⟩
 .exact .inl hn
 .exact .inr ⟨g',cap',cur,hv,Nat.le_trans hb h1,rest⟩):p:=h
theorem xGm(h:p:=by refine wpQuiet_nil ?_;rintro w1 ⟨⟨wx,hb1⟩,rfl⟩;have HJ1:=fin w1 hb1;clear e0 e1 HI hb1 fin HX;have b0:=HJ1.A.z (j:=0) rfl;have r0:=HJ1.res.z (j:=0) rfl;have rf:=HJ1.res.frozen 0;go_wp2;refine bodyPost_ret (v:=.agg #[.slice va us.length vc]) (by simp[results,results243,go_sem,World.cell?_setCell_same _ _ _ r0]) rfl ?_;have hc:=Chg.D w1 w 0 (.slice va us.length vc) (S:=λj=>j=w.heap.size) rfl;refine⟨HJ1.i.absorb hc (λj q=>.inr qo),k,ts,_,HJ1.ok,HE.out,rfl,?_,yA.i HJ1.rd hc qo⟩;refine(HJ1.j.seq HJ1.X (R:=λj=>w.heap.size+2<=j) (λi x t hx ht=>(HJ1.nodes i x t hx ht).K (S:=λ_=>False) (Chg.refl _ _) (λ_ q=>q.elim) (λ_ _ q=>q.1)) (λj hj=>(World.ownsRow.lt HJ1.j j hj).1)).K hc (λj q=>by subst q;exact λz=>by omega) (λj hj z=>⟨by omega,qw hc.size⟩)):p:=h
theorem xGl (h:p:=by
 refine⟨h.1,?_⟩;rcases h.2 with hn|⟨g',cap',cur,hv,h1,h2,rest⟩
 .exact .inl hn
 .simp only[Value.slice.injEq,Option.some.injEq,Addr.mk.injEq,and_true,true_and]at hv;obtain⟨rfl,rfl⟩:=hv;exact .inr ⟨g,cap,cur,rfl,h1,by rw[hb.block g hg];exact h2,rest⟩):p:=h
theorem yT7(h:p:=by rintro e w1 ⟨rfl,hb1⟩;have HE:Hid (Below w w w1):=HW2.trans (hb1.mono HW2.size);clear hb1;go_wp2;go_ret;exact⟨by rw[hv];rfl,HE.out⟩):p:=h
theorem xGk (h:p:=by
 obtain⟨W3,hW3⟩:=qW (xt W2 wr 2 (xi ((x.nest:Int)+1)));have HK3:Hid (SoK w e WB wr true a x (x.nest+1) W3):=by rw[hW3];exact HK2.more (x.nest+1)
 go_upto_region 8 with fail;rw[<-hW3];clear hW3 m0 o1 o2 o2f w2 w2f HK2;have o2:=HK3.ob.z (j:=2) rfl;have w2:=HK3.so.whole.z (j:=2) rfl;have w2f:=HK3.so.whole.frozen 2;obtain⟨a2,ha2⟩:=qE (max a (x.nest+1));have HFin:Hid (yA4 e.f (j+1) a2 (os.drop (j+1))=tot/\a2<=2000):=⟨fin a2 (by rw[ha2,hlv];rfl),by omega⟩;have ha3:max (a:Int) ((x.nest:Int)+1)=(a2:Int):=by omega
 clear fin hlv ha2;go_wp2;go_roundw;case rel=>
  refine⟨j+1,a2,by go_num,by omega,HFin.2,HFin.1,?_⟩;exact HK3.done a2
 case measure=>simp[intOf];omega):p:=h
theorem xGj (h:p:=by
 have HF:Hid (LayR O M T G E en mp l w (.returned (spV l.fst l.P)) (setSp w5 w l.fst l.P)/\yA (setSp w5 w l.fst l.P) w 343 8 w (spL l.fst l.P)):=by obtain⟨f1,f2,f3⟩:=yHt H1.1 HB5 ((Chg.h HW0.2.1).trans H1.2.1) l.fst l.P;exact⟨⟨G1,cp1,rfl,⟨f1,f3,by rcases H1.2.2 with q|q;exact .inl q;exact .inr qo⟩⟩,f2⟩
 clear HB5;go_wp2;exact bodyPost_ret (v:=spV l.fst l.P) (yEm (O:=w.heap.size) (g:=w.heap.size) rfl HF.2) rfl HF.1):p:=h
theorem xGi (h:p:=by
 have H:Hid (yAr a b=yGg a.ts b.ts):=yX0 h1 (by simp[ha,hb]);clear h1 ha hb;go_enter func148,ntmps148;go_wp2_with fail;refine(yBs a b _).mono ?_;rintro e w1 ⟨rfl,hb1⟩;obtain⟨hc1,hf1⟩:=yVr hb1;have hz1:w.heap.size+1<w1.heap.size:=by have:=hb1.size;simp at this;omega
 go_wp2_with fail;refine(yVi _ _ _).mono ?_;rintro e w2 ⟨rfl,rfl⟩;go_wp2;go_ret;exact⟨yMt H.symm,((qB).alloc (by simp) _).trans (hb1.mono (by simp;omega))⟩):p:=h
theorem xIf(h:p:=by rintro k A B row hA hg hr;have hc:Chg (λj=>row=some j) A B:=Chg.M hg (λj q=>q);have hl:∀j,row=some j->W4.heap.size<=j:=λj q=>(hr j q).1;have hLo:=HLo.out;have hb7:=HR4.2;exact⟨hA.st.i hc (λq=>qw (hl _ q)) (λq=>qw (hl _ q)) (λq=>qw (hl _ q)) (λj q=>qw (hl _ q)),hA.made.i hc (λq=>qw (hl _ q)),Chg.k hA.low hc hA.low.size (λj q=>qw (hl _ q)),Nat.le_trans hA.size hc.size⟩):p:=h
theorem xIe (h:p:=by
 rcases h with h|⟨b,off,cap,hv,hE,hlt,h1,h2⟩
 .exact .inl h
 .exact .inr ⟨b,off,cap,hv,hE.k hb qo,qw hb.size,h1,h2⟩):p:=h
theorem yVz (h:p:=by
 go_enter func88,ntmps88;go_wp2_with fail;all_goals go_ret
 all_goals exact⟨_,rfl,by simp_all,qB⟩):p:=h
theorem xGh (h:p:=by
 by_cases hgt:a<os1.nest+1
 .have zg:(a:Int)<(os1.nest:Int)+1:=by omega
  go_wp2;go_roundw;case rel=>exact⟨j+1,os1.nest+1,by go_num,by go_num,by omega,by omega,HFin.out _ qo,HJ2.out⟩
  case measure=>simp[intOf];omega
 .have zg:¬(a:Int)<(os1.nest:Int)+1:=by omega
  go_wp2;go_roundw;case rel=>exact⟨j+1,a,by go_num,rfl,by omega,by omega,HFin.out _ qo,HJ2.out⟩
  case measure=>simp[intOf];omega):p:=h
theorem xGg(h:p:=by go_wp2;go_ret;exact⟨yMt H.symm,((qB).alloc (by simp) _).trans (hb1.mono (by simp;omega))⟩):p:=h
theorem xGf (h:p:=by
 obtain⟨fn,tmps,assign,body,hy,hRy⟩:=HY.out i j wr.drew HJd.out HE.out;have hy2:segV b off cap (i,j)=.slice (some ⟨b,off+i*5,none⟩) (j-i) (cap-i):=rfl;rw[hy2]at hy;have x1:=(HR.out i wr.drew HJd.out).1;have hji:i<=j:=by omega
 gi_wp2;refine hRy.mono ?_;rintro e W3 ⟨rfl,hJ3⟩;have HJ3:Hid (J j W3):=hJ3;clear hJ3 hRy hy x1;gi_wp2;go_roundw;case rel=>exact⟨j,by omega,rfl,HJ3.out⟩
 case measure=>simp[intOf];omega):p:=h
theorem xGe (h:p:=by
 obtain⟨v0,v1,v2,v3⟩:=hbV.c4;have hP:LfP w R V:=by obtain⟨W1,W2,a,b,cc⟩:=HP2.out;refine⟨W1,W2,a,b,cc.trans ?_⟩;rw[hV,hU];exact(Chg.D _ _ _ _ (Nat.le_refl _)).trans (yAo (S:=λq=>w.heap.size<=q) _ (by show _<=_;omega) _ _ _)
 simp only[setCs,Nat.reduceAdd]at hV;rw[hU]at hV;rw[<-hV];exact bodyPost_ret (v:=rs.v) (by rw[HSt.out];simp[results,results156,go_sem,v0,v1,v2,v3]) rfl ⟨rfl,hP⟩):p:=h
theorem xGd (h:p:=by
 intro j u hu;have hj:j=0:=by have:=(List.getElem?_eq_some_iff.1 hu).1;simpa using this
 subst hj;simp at hu;rw[Addr.add_mid,<-hu];exact hc):p:=h
theorem xGc(h:p:=by go_wp2;exact bodyPost_ret (v:=spV l.fst l.P) (yEm (O:=w.heap.size) (g:=w.heap.size) rfl HF.2) rfl HF.1):p:=h
theorem xC2(h:p:=by go_enter func187,ntmps187;go_wp2_with (go_at_call 213;refine(yGv _ _ _).mono ?_;rintro e w' ⟨rfl,rfl⟩);go_ret;exact⟨rfl,(qB).alloc (by simp) _⟩):p:=h
theorem xG (h:p:=by
 have hl:=congrArg List.length h;rw[yAx hm]at hl;simp at hl;have hj:j<m:=by omega
 obtain⟨d,hd⟩:∃d,p[j]?=some d:=⟨_,getElem?_eq_getElem qo⟩;rw[yBq (show j<=j+1 by omega) (show j+1<=m by omega),yCb hd]at h;simp at h;exact⟨by rw[hd,h.1],h.2,hj⟩):p:=h
theorem xId(h:p:=by have hi:i<bs.length:=(List.getElem?_eq_some_iff.1 hx).1;have c:=λj (hj:j<2)=>(World.ownsRow.cellAt h (i*2+j) qo).trans (yVo bs i x hx j hj);exact⟨by simpa using c 0 qo,by simpa using c 1 qo⟩):p:=h
theorem xF8 (h:p:=by
 generalize hs: [s]=ss at h;cases h with
 |nil=>cases hs
 | @snoc ss os xs n ho h=>
   have e:=append_inj' (s₁:= []) (t₁:= [s]) hs rfl;obtain⟨e1,e2⟩:=e;subst e1;simp at e2;exact⟨xs,n,os,rfl,ho,h,e2⟩):p:=h
theorem xC1(h:p:=by subst hv;go_enter func119,ntmps119;go_wp2;go_ret;exact⟨rfl,(qB).alloc (by simp) _⟩):p:=h
theorem xF7(h:p:=by exact {hI2.dc with mks:=⟨List.nodup_cons.2 ⟨λq=>qw (hI2.nd _ q),hI2.dc.mks.1⟩,λE hE=>(mem_cons.1 hE).elim (λq=>by subst q;exact⟨hI2.ll,hI2.mrk⟩) (λq=>hI2.dc.mks.2 E q)⟩}):p:=h
theorem xC0(h:p:=by go_enter func193,ntmps193;go_wp2_with fail;rw[<-hW2];go_ret;exact hv▸HFin.out W2 HW2.out):p:=h
theorem xF6(h:p:=by have h1:=yBq (p:=p) (show j<=j+xs.length by omega) (show j+xs.length<=m by omega);rw[h]at h1;have h2:=append_inj h1 (by rw[yAx qo];omega);exact⟨h2.1.symm,h2.2.symm,by omega⟩):p:=h
theorem xF5 (h:p:=by
 have H2:Hid (yKl es (m+1+1)):=yIb HV.2 HKp.out HK.2.1 ho;go_wp2;go_roundw;case rel=>exact⟨m+1+1,by omega,by go_num,H.out,H2.out,hb4⟩
 case measure=>simp[intOf];omega):p:=h
theorem xCz(h:p:=by go_enter func96,ntmps96;go_wp2;go_ret;exact⟨by simp,(qB).alloc (by simp) _⟩):p:=h
theorem xF3(h:p:=by clear hop;go_enter func139,ntmps139;go_wp2_with (go_at_call 185;refine(yMf _ _).mono ?_;rintro e' w' ⟨rfl,rfl⟩);go_ret;exact⟨by rw[HL.out];rfl,rfl⟩):p:=h
theorem xF2(h:p:=by go_enter func201,ntmps201;go_wp2;exact bodyPost_ret (v:=.agg #[xi ar,.string at_]) (by simp[results,results201,go_sem]) rfl ⟨rfl,zBl⟩):p:=h
theorem xIc(h:p:=by clear hz;go_wp2;rw[<-hW6];refine bodyPost_ret (v:=.agg #[.string ⟨#[]⟩,.bool false]) (by simp[results,results198,go_sem,p0,p1]) rfl ⟨rfl,HW6.2⟩):p:=h
theorem xF1(h:p:=by go_enter func93,ntmps93;go_wp2_with (go_at_call 145;refine(yJv _ _).mono ?_;rintro e' w' ⟨rfl,rfl⟩);go_ret;exact⟨by rw[HL.out];rfl,rfl⟩):p:=h
theorem xCy (h:p:=by
 cases fuel with
 |zero=>exact⟨hr,h⟩
 |succ n=>exact⟨λ_=>h,by rw[hr];simp⟩):p:=h
theorem xF0(h:p:=by refine⟨λh0=>(by rw[hr]at h0;cases h0),λj hj=>?_⟩;rw[hr]at hj;simp at hj;subst hj;exact wpOp_step ho (λK' hK=>h K' (λa w hS hW=>hK a w ⟨hS,hW⟩))):p:=h
theorem xCx(h:p:=by go_enter func147,ntmps147;go_wp2;go_ret;exact⟨yMt H.symm,rfl⟩):p:=h
theorem xFz(h:p:=by have hj:=(List.getElem?_eq_some_iff.1 h).1;rw[drop_eq_getElem_cons hj,show os[j]=o from Option.some.inj ((getElem?_eq_getElem hj).symm.trans h)];rfl):p:=h
theorem xCw(h:p:=by go_enter func142,ntmps142;go_wp2;go_ret;exact⟨rfl,rfl⟩):p:=h
theorem xCv(h:p:=by go_enter func144,ntmps144;go_wp2;go_ret;exact⟨rfl,rfl⟩):p:=h
theorem xFy (h:p:=by
 rintro e W2 ⟨⟨v,rfl⟩,(⟨hl,hq⟩|⟨c,hl,hq⟩)⟩
 .exact⟨none,_,run_endLoop hl (by simp),hq⟩
 .exact⟨some c,_,run_endLoop hl (by simp),hq⟩):p:=h
theorem xFx (h:p:=by
 induction h with
 |nil=>exact .nil
 | @snoc ss os xs n ho h ih=>
   rw[length_append];refine IsT.snoc n ?_;rw[<-ho,<-length_append];exact ih):p:=h
theorem xFw(h:p:=by have hH:=hHd;clear hHd;go_enter func220,ntmps220;go_wp2_with fail;refine(HP.out _).mono ?_;rintro e w1 ⟨rfl,rfl⟩;go_wp2_with fail;exact zTh):p:=h
theorem xB2(h:p:=by exact h.K hR (Chg.h hb (S:=λ_=>False)) ⟨kf,vf,hI.turn hR.pr.mds (Chg.h hb (S:=λ_=>False)) (λq z=>z.elim)⟩ (λq z=>z.elim)):p:=h
theorem yV0(h:p:=by go_enter func83,ntmps83;go_wp2;go_ret;exact⟨rfl,rfl⟩):p:=h
theorem xB1(h:p:=by go_enter func169,ntmps169;go_wp2_with fail;refine(HS.out _).mono ?_;rintro e w1 ⟨rfl,hb1⟩;go_wp2;go_ret;exact⟨rfl,hb1⟩):p:=h
theorem xGp (h:p:=by
 induction h with
 |nil=>intro k hk;cases hk
 |cons h1 _ ih=>
  intro k hk;rcases mem_cons.1 hk with rfl|hk
  .exact h1.tree
  .exact ih k hk):p:=h
theorem xB0 (h:p:=by
 go_wp2;go_roundw;case rel=>exact⟨i+1,o,true,by omega,by omega,rfl,rfl,by go_num,HF.out,HB.out⟩
 case measure=>simp[intOf];omega):p:=h
theorem xBz (h:p:=by
 have h0:j=p.length:=by omega
 have:yCh p j=.inr (2,p.length):=by unfold yCh;rw[yY7 (getElem?_eq_none qo),h0]
 rw[this]):p:=h
theorem xBy(h:p:=by gi_wp2;refine⟨⟨k+1,bsd++ [y],W3.heap.size::Ds,_,_,_,_,_,_,_,_,_,_,_,_,_,_,by omega,HN.out,by rw[hkk];rfl⟩,?_⟩;simp[intOf];omega):p:=h
theorem xBx (h:p:=by
 rcases hT.mv with⟨q,hm⟩|⟨q,hm⟩
 .unfold PatK at q;omega
 .exact⟨false,hm,by rw[xCb q];unfold yCa txtH;simp[h]⟩):p:=h
theorem xBv (h:p:=by
 rcases h.cases with⟨rfl,rfl⟩|⟨g,cp,rfl,hO⟩
 .simp[Value.ownBlock]at hk
 .simp[Value.ownBlock]at hk;subst hk;exact hO.lt):p:=h
theorem xBu(h:p:=by exact(hn.mono (λ_ _ q=>yAn.mono (Nat.le_max_left _ _) q)).snoc (hm.mono (λ_ _ q=>yAn.mono (Nat.le_max_right _ _) q))):p:=h
theorem xBt (h:p:=by
 go_roundw;case rel=>exact⟨x.b.toNat,sn,g,cp,m,ks,hr2,hs1,hs2,rfl,by rw[zb],HJ.1,HL.1,HR.1⟩
 case measure=>simp[intOf];omega):p:=h
theorem xBs (h:p:=by
 go_wp2;go_roundw;case rel=>exact⟨j+1,by go_num,by omega,by omega,HN.out,hb⟩
 case measure=>simp[intOf];omega):p:=h
theorem xBr (h:p:=by
 rcases h.2 with q|⟨g,cap,cur,h1,h2,h3⟩
 .exact⟨h.1,.inl q⟩
 .exact⟨h.1,.inr ⟨g,cap,cur,h1,by omega,h3⟩⟩):p:=h
theorem xBq(h:p:=by obtain⟨n,hn⟩:=h;exact⟨n,hn.mono (λt v q=>q.mono (yJa hc hS hl) (Nat.le_refl _)) (yJa hc hS hl)⟩):p:=h
theorem xBp(h:p:=by go_enter func217,ntmps217;go_upto_region 1 with fail;go_quiet (fail);go_wp2;go_ret;exact HR.out _):p:=h
theorem xBo (h:p:=by
 intro j y hy;obtain rfl:j=0:=by have:=(List.getElem?_eq_some_iff.1 hy).1;simpa using this
 simp at hy;subst hy;simp):p:=h
theorem yZt(h:p:=by clear hgood;exact zR HW0.2):p:=h
theorem xIb (h:p:=by
 have zb:(200:Int)<(n:Int):=by omega
 have HF:Hid (¬yB9 xs):=λq=>qv q.1 HN.out
 exact zF HW0.2):p:=h
variable {y:Vv} {Own:Ww->Nat->Nat->Nat->List Vv->Prop} {vs:List Vv}
section
def TyI(sty ty sz:Nat):Prop:=prog.underlying sty=some (.slice ty)/\∃z bytes,(prog.info? ty).map (λi=>(i.zero,i.size,i.bytes))=some (some z,sz,bytes)/\z.cells.size=sz/\0<sz/\bytes<=1000
def AtV(w:Ww)(b off:Nat)(us:List Vv):Prop:=(∀j u,us[j]?=some u->w.cell? ⟨b,off+j,none⟩=some u)/\∀u∈us,u.oneCell'=true
variable {b:Nat}
theorem atV1(hc:w.cell? (xd b 0)=some y)(hy:y.oneCell'=true):AtV w b 0 [y]:=⟨λj u h=>by match j,h with |0,h=>cases h;exact hc,λu h=>by simp at h;rw[h];exact hy⟩
variable {us:List Vv}
theorem atV0(hc:∀(j:Nat) v,us[j]?=some v->w.cell? (xd b j)=some v)(hy:∀v∈us,v.oneCell'=true):AtV w b 0 us:=⟨λj u h=>by rw[Ae];exact hc j u h,hy⟩
theorem lT(h:n<=1000):n<=2^31:=by omega
theorem lN(h:n<=2^30):n+1<=2^31:=by omega
theorem yHv{f:α->List Vv}(hf:∀x,(f x).length=sz):∀(es:List α)(i:Nat)(e e':α)(j:Nat)(u:Vv),es[i]?=some e->j<sz->f e'=(f e).set j u->(es.flatMap f).set (i*sz+j) u=(es.set i e').flatMap f
 | [],i,e,e',j,u,h,_,_=>by simp at h
 |a::es,0,e,e',j,u,h,hj,he=>by
  simp at h;subst h
  rw[AM,AF,AM,he,Nat.zero_mul,Ae,set_append_left _ _ (by rw[hf];exact hj)]
 |a::es,i+1,e,e',j,u,h,hj,he=>by
  simp at h
  rw[AM,AG,AM,<-yHv hf es i e e' j u h hj he,set_append_right _ _ (by rw[hf,AS];omega),hf,show(i+1)*sz+j-sz=i*sz+j by rw[AS];omega]
theorem yQt{k:Nat}(h:w.ownsRow O ty sz (xg g n cp) n us)(hk:k<=n):w.ownsRow O ty sz (xg g k cp) k (us.take (k*sz)):=by
 rcases h.2 with⟨h0,_⟩|⟨g',a0,cur,hv,h1,h2,h3,h4,h5,h6⟩
 .cases h0
 .have h7:=Nat.mul_le_mul_right sz hk;simp only[Value.slice.injEq,Ac,Addr.mk.injEq,and_true,true_and]at hv;obtain⟨rfl,rfl⟩:=hv;exact⟨by rw[length_take,h.1];omega,.inr ⟨g,cp,cur,rfl,h1,h2,qo,h4,h5,by rw[<-h6,take_take];congr 1;omega⟩⟩
section
variable {α:Type} {f:α->List Vv}
theorem yBv(hf:∀x,(f x).length=sz)(es:List α):(es.flatMap f).length=es.length*sz:=by
 induction es with
 |nil=>simp
 |cons e es ih=>rw[AM,A7,ih,hf,length_cons,AS];omega
theorem yB6(hf:∀x,(f x).length=sz):∀(es:List α)(k:Nat)(e:α),es[k]?=some e->∀j,j<sz->(es.flatMap f)[k*sz+j]?=(f e)[j]?
 | [],k,e,h,j,hj=>by simp at h
 |a::es,0,e,h,j,hj=>by
  simp at h;subst h
  rw[AM,getElem?_append_left (by rw[hf];omega)]
  simp
 |a::es,k+1,e,h,j,hj=>by
  simp at h
  rw[AM,getElem?_append_right (by rw[hf,AS];omega),hf]
  rw[show(k+1)*sz+j-sz=k*sz+j by rw[AS];omega]
  exact yB6 hf es k e h j hj
theorem yLs(hf:∀x,(f x).length=sz):∀(es:List α)(k:Nat),k<=es.length->(es.take k).flatMap f=(es.flatMap f).take (k*sz)
 |es,0,_=>by simp
 | [],k+1,h=>by simp at h
 |a::es,k+1,h=>by rw[take_succ_cons,AM,AM,yLs hf es k (by simpa using h),take_append,hf,Ag (l:=f a) (by rw[hf,AS];omega),show(k+1)*sz-sz=k*sz by rw[AS];omega]
theorem yLv(hf:∀x,(f x).length=sz)(hsz:0<sz){l:List α}(h:∀i e,l[i]?=some e->∀j u,(f e)[j]?=some u->w.cell? ⟨b,off+i*sz+j,none⟩=some u)(h1:∀x∈l,∀u∈f x,u.oneCell'=true):AtV w b off (l.flatMap f):=by
 refine⟨λj u hu=>?_,λu hu=>?_⟩
 .have hj:=qf hu;rw[yBv hf]at hj;have⟨e,he⟩:=qg (Nat.div_lt_of_lt_mul (Nat.mul_comm _ _▸hj));have hd:j/sz*sz+j%sz=j:=Nat.div_add_mod' j sz
  have hg:=yB6 hf l (j/sz) e he (j%sz) (Nat.mod_lt _ hsz);rw[hd,hu]at hg;have h2:=h _ e he _ u hg.symm;rwa[Nat.add_assoc,hd]at h2
 .have⟨e,he,h2⟩:=mem_flatMap.1 hu;exact h1 e he u h2
theorem atG1{e:α}(h1:∀x,∀u∈f x,u.oneCell'=true)(hc:∀j u,(f e)[j]?=some u->(xk w b j u:Prop)):AtV w b 0 ([e].flatMap f):=by rw[flatMap_singleton];exact atV0 hc (h1 e)
end
section
variable {o:Oper} {a:Act} {K:Act->Ww->Prop} {Q:Exit->Act->Ww->Prop}
theorem wpA(hgd:o.guard=none)(h:AZ prog o a w (wpList prog ops Q rest) Q):wpList prog ops Q (o::rest) a w:=by unfold wpList;rw[iB (by simp[Region.wanted,hgd])];exact .inl h
theorem stA(hgd:o.guard=none)(h:AZ prog o a w K Q):if Region.wanted o (yielded ops a.tmps)=true then AZ prog o a w K Q else E:=by rw[iB (by simp[Region.wanted,hgd])];exact h
variable {sty b m cx:Nat} {s x:Operand}
theorem apV(hT:TyI sty ty sz)(ho:o.op=.call {callee:=.builtin .append,args:=#[s,x],argTypes:=#[sty,sty]}){v:Vv}(hs:a.eval s=v)(hx:a.eval x=(xy b off m cx))(hO:w.ownsRow O ty sz v n us)(hl:vs.length=m*sz)(hc:AtV w b off vs)(hlen:n+m<=2^31)(hbase:O<=w)
  (h:∀v' w',w'.ownsRow O ty sz v' (n+m) (us++vs)->w.grownBy w' v.ownBlock->(v'= .slice none 0 0↔v= .slice none 0 0/\m=0)->(v'.ownBlock=v.ownBlock\/v'.ownBlock=some w.heap.size)->K (a.put o.dst v') w'):AZ prog o a w K Q:=by
 have⟨ht,z,bytes,hi,hz,hsz,hb⟩:=hT;obtain⟨i,hi,a4,a3,a2⟩:=info_parts hi;obtain⟨v',w',hr,h2,h3,h4,h5⟩:=run_append_own_at (P:=prog) w O sty o.type ty i _ sz bytes ht hi a4 a3 a2 hz hsz v n us hO _ m cx vs hl (λj u hu=>by rw[Addr.add_mid];exact hc.1 j u hu) hc.2 (by unfold maxLen;omega) (by have:=Nat.mul_le_mul hlen hb;omega) hbase
 unfold AZ execOp;simp only[ho,resolve,invoke,builtin,Sem.run_bind,Sem.run_pure,Result.andThen_ok,List.map_toArray,List.map_cons,List.map_nil,hs,hx,hr];exact h v' w' h2 h3 h4 h5
theorem apY(hT:TyI sty ty sz)(ho:o.op=.call {callee:=.builtin .append,args:=#[s,x],argTypes:=#[sty,sty]})(O:Nat)(hs:a.eval s=xg g n cp)(hx:a.eval x=(xy b off m cx))(hO:w.ownsRow O ty sz (xg g n cp) n us)(hl:vs.length=m*sz)(hc:AtV w b off vs)(hlen:n+m<=2^31)(hbase:O<=w)
  (h:∀g' cp' w',w'.ownsRow O ty sz (xg g' (n+m) cp') (n+m) (us++vs)->w.grownBy w' (some g)->(g'=g\/g'=w)->K (a.put o.dst (xg g' (n+m) cp')) w'):AZ prog o a w K Q:=
 apV hT ho hs hx hO hl hc hlen hbase λv' w' a1 a6 a5 a0=>by
  rcases a1.2 with⟨h0,_⟩|⟨g',a7,cur,hv,_,_,hn,a8,_,_⟩
  .have:=(a5.1 h0).1;cases this
  .subst hv;apply h g' a7 w' a1 a6;simp[AT]at a0;exact a0
structure ApT{α:Type}(sty ty sz:Nat)(F:List α->List Vv)(Own:Ww->Nat->Nat->Nat->List α->Prop)(At:Ww->Nat->Nat->List α->Prop):Prop where
 tyi:TyI sty ty sz
 app:∀l m,F (l++m)=F l++F m
 X:∀l,(F l).length=l.length*sz
 Z:∀{w O g cp l},Own w O g cp l↔w.ownsRow O ty sz (xg g l.length cp) l.length (F l)
 U:∀{w b off l},At w b off l->AtV w b off (F l)
theorem apTV(hT:TyI sty ty 1)(hO:∀{w O g cp l},Own w O g cp l↔w.ownsRow O ty 1 (xg g l.length cp) l.length l):ApT sty ty 1 (λl=>l) Own AtV:=⟨hT,λ_ _=>rfl,λ_=>(Nat.mul_one _).symm,hO,id⟩
theorem apTG{f:α->List Vv}{Own:Ww->Nat->Nat->Nat->List α->Prop}{At:Ww->Nat->Nat->List α->Prop}(hT:TyI sty ty sz)(hf:∀x,(f x).length=sz)(hO:∀{w O g cp l},Own w O g cp l↔w.ownsRow O ty sz (xg g l.length cp) l.length (l.flatMap f))(hA:∀{w b off l},At w b off l->AtV w b off (l.flatMap f)):ApT sty ty sz (λl=>l.flatMap f) Own At:=⟨hT,λ_ _=>flatMap_append,yBv hf,hO,hA⟩
theorem apK{F:List α->List Vv}{Own:Ww->Nat->Nat->Nat->List α->Prop}{At:Ww->Nat->Nat->List α->Prop}(hT:ApT sty ty sz F Own At)(ho:o.op=.call {callee:=.builtin .append,args:=#[s,x],argTypes:=#[sty,sty]})(O:Nat)(fs es:List α)(hs:a.eval s=xg g n cp)(hx:a.eval x=(xy b off m cx))(hn:n=fs.length)(hm:m=es.length)(hO:Own w O g cp fs)(hc:At w b off es)(hlen:fs.length+es.length<=2^31)(hbase:O<=w)
  (h:∀g' cp' w',Own w' O g' cp' (fs++es)->w.grownBy w' (some g)->(g'=g\/g'=w)->K (a.put o.dst (xg g' (n+m) cp')) w'):AZ prog o a w K Q:=by
 subst hn hm;exact apY hT.tyi ho O hs hx (hT.Z.1 hO) (hT.X es) (hT.U hc) hlen hbase λg' cp' w' h1=>h g' cp' w' (hT.Z.2 (by rw[A7,hT.app];exact h1))
end
end
section
open Go.ChangeMaps (open_string shut_string)
structure Ent where
 j:Ba
 E:Ba
 C:Ba
 ts:Int
 f:Int
 val:Ba
abbrev Ent.v(e:Ent):Vv:=.agg #[e.j,e.E,e.C,xu e.ts,xi e.f,e.val]
structure Ent.ok(e:Ent):Prop where
 j:e.j.size<=maxLen
 E:e.E.size<=maxLen
 C:e.C.size<=maxLen
 val:e.val.size<=maxLen
 ts:(Lit.int .u64 e.ts).wf=true
 f:(Lit.int .i64 e.f).wf=true
theorem yS1{a b:Bool}(h:a=b):Ending.returned a=.returned b:=by rw[h]
theorem isE(v:Ba):v.toList.isEmpty=decide (v.size=0):=by rw[ByteArray.toList_eq,Bool.eq_iff_iff];simp[<-ByteArray.size_data]
theorem orE(k:Int)(v:Ba)(h:¬k=0):(k==0 || v.toList.isEmpty)=decide (v.size=0):=by rw[isE];simp[h]
def vE(r f q:Ba)(k:Int)(v:Ba):Bool:=
 decide (1<=r.size/\r.size<=64/\1<=f.size/\f.size<=16/\q.size<=64/\v.size<=200/\0<=k/\k<=2/\(k=0\/v.size=0))
theorem yGa(r f q v:Ba)(t k:Int)(w:Ww)(hr:r.size<=maxLen)(hf:f.size<=maxLen)(hq:q.size<=maxLen)(hv:v.size<=maxLen):
  Calls prog 94 #[.agg #[r,f,q,xu t,xi k,v]] w λe w'=>
   e=.returned (vE r f q k v)/\Below w w w':=by
 unfold maxLen at hr hf hq hv;go_enter func94,ntmps94;go_wp2;all_goals go_ret
 all_goals refine⟨yS1 ?_,qB⟩
 all_goals unfold vE
 all_goals go_light
 all_goals first
  |(refine(decide_eq_true ?_).symm;omega)
  |(refine(decide_eq_false ?_).symm;omega)
  |(rw[orE _ _ ‹¬k=0›];refine decide_eq_decide.2 ⟨λh=>?_,λh=>?_⟩<;>omega)
theorem yKx(r f q v:Ba)(t k:Int)(w:Ww)(hr:r.size<=maxLen)(hf:f.size<=maxLen)(hq:q.size<=maxLen)(hv:v.size<=maxLen):
  Calls prog 98 #[.agg #[r,f,q,xu t,xi k,v]] w λe w'=>
   e=.returned (vE r f q k v)/\Below w w w':=by
 unfold maxLen at hr hf hq hv;go_enter func98,ntmps98;go_wp2;all_goals go_ret
 all_goals refine⟨yS1 ?_,qB⟩
 all_goals unfold vE
 all_goals go_light
 all_goals (try simp only[beq_iff_eq,iC,ne_eq]at*)
 all_goals first
  |(refine(decide_eq_true ?_).symm;omega)
  |(refine(decide_eq_false ?_).symm;omega)
  |(rw[isE];refine decide_eq_decide.2 ⟨λh=>?_,λh=>?_⟩<;>omega)
end
variable {w1:Ww}
theorem yVr(hb:Below W W w1):(∀b o,b<W.heap.size->w1.cell? (xd b o)=W.cell? (xd b o))/\(∀b o,b<W.heap.size->w1.frozen? (xd b o)=W.frozen? (xd b o)):=
 ⟨λb o h=>hb.cell (p:=(xd b o)) h,λb o h=>hb.frozen (p:=(xd b o)) h⟩
abbrev Ent.cells(e:Ent):List Vv:= [.string e.j,.string e.E,.string e.C,.int .u64 e.ts,.int .i64 e.f,.string e.val]
def yY8(es:List Ent):List Vv:=es.flatMap Ent.cells
theorem yVn es:∀(k:Nat)(e:Ent),es[k]?=some e->∀j,j<6->(yY8 es)[k*6+j]?=e.cells[j]?:=yB6 (f:=Ent.cells) (λ_=>rfl) es
def yBu(w:Ww)(b off:Nat)(es:List Ent):Prop:=
 ∀i e,es[i]?=some e->xk w b (off+i*6) e.j/\xk w b (off+i*6+1) e.E/\xk w b (off+i*6+2) e.C/\
  xk w b (off+i*6+3) (xu e.ts)/\xk w b (off+i*6+4) (xi e.f)/\xk w b (off+i*6+5) e.val
variable {B:Nat} {w':Ww} {es:List Ent}
theorem yBu.k{b:Nat}(h:yBu w b off es)(hb:Below B w w')(hlt:b<B):yBu w' b off es:=by have c:=λo=>hb.cell (p:=(xd b o)) hlt;intro i e he;simpa only[c]using h i e he
def OwnE(w:Ww)(O g cap:Nat)(es:List Ent):Prop:=w.ownsRow O 165 6 (xg g es.length cap) es.length (yY8 es)
variable {cap:Nat}
theorem OwnE.at(h:OwnE w O g cap es):yBu w g 0 es:=by
 intro i e he;have hi:=qf he;have c:=λj (hj:j<6)=>(Af h (i*6+j) qo).trans (yVn es i e he j hj);refine⟨?_,?_,?_,?_,?_,?_⟩
 .simpa using c 0 qo
 .simpa using c 1 qo
 .simpa using c 2 qo
 .simpa using c 3 qo
 .simpa using c 4 qo
 .simpa using c 5 qo
theorem OwnE.lt(h:OwnE w O g cap es):O<=g/\g<w.heap.size:=Aj h g rfl
theorem OwnE.k(h:OwnE w O g cap es)(hb:Below B w w')(hg:g<B):OwnE w' O g cap es:=by exact xGl
theorem Tryz.infoEnt:(prog.info? 165).map (λi=>(i.zero,i.size,i.bytes))=some (some (.agg #[xe,xe,xe,xu 0,xi 0,xe]),6,80):=qk
def yZv:Ent:=⟨⟨#[]⟩,⟨#[]⟩,⟨#[]⟩,0,0,⟨#[]⟩⟩
theorem yNx:ApT 87 165 6 yY8 OwnE yBu:=apTG ⟨underlying87,_,_,Tryz.infoEnt,rfl,qj,qj⟩ (λ_=>rfl) Iff.rfl λh=>yLv (f:=Ent.cells) (sz:=6) (λ_=>rfl) qj (λi e he j u hu=>by
 obtain⟨c0,c1,c2,c3,c4,c5⟩:=h i e he;match j,hu with
 |0,hu=>cases hu;exact c0
 |1,hu=>cases hu;exact c1
 |2,hu=>cases hu;exact c2
 |3,hu=>cases hu;exact c3
 |4,hu=>cases hu;exact c4
 |5,hu=>cases hu;exact c5) λx _ u h=>by simp at h;rcases h with rfl|rfl|rfl|rfl|rfl|rfl<;>rfl
theorem OwnE.mono(h:OwnE w O g cap es)(hb:base'<=O):OwnE w base' g cap es:=by exact yT8
theorem yDj(w:Ww)(g o:Nat)(u:Vv):w.grownBy (xt w g o u) (some g):=by have h:Below g w (xt w g o u):=(Below.refl g w).setCell qr u;exact⟨h.os,h.tape,h.output,h.size,λk hk hne=>Below.heap_setCell w (xd g o) u k (λe=>hne (by rw[e]))⟩
structure Chg(S:Nat->Prop)(w w':Ww):Prop where
 os:w'.os=w.os
 tape:w'.tape=w.tape
 output:w'.output=w.output
 size:w.heap.size<=w'.heap.size
 block:∀k,k<w.heap.size->¬S k->w'.heap[k]?=w.heap[k]?
theorem Chg.refl(S:Nat->Prop)(w:Ww):Chg S w w:=⟨rfl,rfl,rfl,AI _,λ_ _ _=>rfl⟩
theorem Chg.trans{a b c:Ww}(h:Chg S a b)(k:Chg S b c):Chg S a c:=
 ⟨k.os.trans h.os,k.tape.trans h.tape,k.output.trans h.output,AU h.size k.size,λi hi hn=>(k.block i (Ar hi h.size) hn).trans (h.block i hi hn)⟩
theorem Chg.mono(h:Chg S w w')(hs:∀k,S k->T k):Chg T w w':=⟨h.os,h.tape,h.output,h.size,λk hk hn=>h.block k hk (λq=>hn (hs k q))⟩
theorem Chg.h(h:Below w w w'):Chg S w w':=⟨h.os,h.tape,h.output,h.size,λk hk _=>h.block k hk⟩
theorem Chg.M(h:w.grownBy w' row)(hs:∀k,row=some k->S k):Chg S w w':=
 ⟨h.os,h.tape,h.output,h.size,λk hk hn=>h.block k hk (λq=>hn (hs k q.symm))⟩
theorem Chg.D(w:Ww)(g o:Nat)(u:Vv)(hs:S g):Chg S w (xt w g o u):=Chg.M (yDj w g o u) (λk hk=>by cases hk;exact hs)
theorem Chg.k{a:Ww}(h:Below B a w)(k:Chg S w w')(hB:B<=w.heap.size)(hs:∀k,S k->B<=k):Below B a w':=
 h.trans ⟨k.os,k.tape,k.output,k.size,λi hi=>k.block i qo (λq=>qw (hs i q))⟩
theorem Chg.z(h:Chg S w w'){p:Addr}(hp:p.block<w.heap.size)(hn:¬S p.block):w'.cell? p=w.cell? p:=World.cell?_of_block (w:=w) (h.block p.block hp hn)
theorem Chg.frozen(h:Chg S w w'){p:Addr}(hp:p.block<w.heap.size)(hn:¬S p.block):w'.frozen? p=w.frozen? p:=World.frozen?_of_block (w:=w) (h.block p.block hp hn)
variable {xs':List Vv} {v':Vv}
theorem yAb{e:Nat}{v:Vv}{xs:List Vv}{size':Nat}(h:w.ownsRow O e size v n xs)(h':w.ownsRow base' e' size' v' n' xs')(hne:e≠e'):∀k,v.ownBlock=some k->v'.ownBlock≠some k:=by
 intro k hk a0;rcases h.2 with⟨rfl,_⟩|⟨g1,a3,cur,rfl,_,hc,_⟩
 .simp[AT]at hk
 .rcases h'.2 with⟨rfl,_⟩|⟨g2,a2,a1,rfl,_,hc2,_⟩
  .simp[AT]at a0
  .simp[AT]at hk a0;subst hk a0;rw[hc]at hc2;simp at hc2;exact hne hc2.2
theorem yAg{e:Nat}{v:Vv}{xs:List Vv}(h:w.ownsRow O e size v n xs)(hb:Chg S w w')(hn:∀k,v.ownBlock=some k->¬S k):w'.ownsRow O e size v n xs:=by
 refine⟨h.1,?_⟩;rcases h.2 with hz|⟨g,cap,cur,rfl,h1,hg,rest⟩
 .exact .inl hz
 .refine .inr ⟨g,cap,cur,rfl,h1,?_,rest⟩;have a0:g<w.heap.size:=by
   rcases Nat.lt_or_ge g w with q|q
   .exact q
   .rw[Array.getElem?_eq_none q]at hg;cases hg
  rw[hb.block g a0 (hn g rfl)];exact hg
theorem zzU0 (h:p:=by
 refine kO 12 a0.out ?_;refine kL 13 ?_;refine qD ?_;have a1:Hid (ClI w O M T f G1 a2 a E en mp (k+1) w1 (set4 v3 M (k*4) (sOr (clsT T f a k k) (sOne a)))):=by
  have hc:Chg (λj=>j=M) v3 (set4 v3 M (k*4) (sOr (clsT T f a k k) (sOne a))):=yBk v3 M _ _ rfl;have h1:MtrI (set4 v3 M (k*4) (sOr (clsT T f a k k) (sOne a))) O M (updE (clsT T f a k) k (sOr (clsT T f a k k) (sOne a))) G1 a2 (a+1) E en mp:=by rw[Nat.mul_comm k 4];exact a4.setT hlt _
  refine⟨h1.iff (λb p hb hp=>?_) (λ_ _ _ _=>rfl) h1.new,(HJ.A.k HV.out).i hc qo,(HJ.i.trans (Chg.h HV.out)).trans hc⟩;unfold updE clsT;by_cases e:b=k
  .subst e;rw[iB rfl];simp[sOr,sOne,ac.out]
  .have:decide (b<k+1)=decide (b<k):=by rw[decide_eq_decide];omega
   rw[iA e,this]
 simp only[set4]at a1;go_wp2_with fail;refine⟨⟨k+1,qo,by go_num,a1⟩,?_⟩;go_light;simp[intOf];omega):p:=h
theorem zzU1(h:p:=by go_wp2_with fail;refine(ax.out wr (Below.refl _ _)).mono ?_;rintro e w3 ⟨g3,p3,ρ3,γ3,f3,rfl,a5,a3,a1⟩;have a4:=qH1 (a0.2.2.trans (a1.mono a0.2.2.size));have am:Hid (Calls prog 242 #[slV go (s.size+1) co,slV g3 (s.size+1) p3] w3 (MxG s (LgS (t::ts)) w3)):=(yWc hs (a0.1.k a1 qr) a0.2.1 ab a3.1 a3.2 a5).mono (λr w' h=>MxG.iff h (λx=>by simp[LgS]));clear a1;go_wp2_with fail;refine am.mono ?_;rintro e w4 ⟨g4,p4,ρ4,γ4,f4,rfl,al,ao,ad⟩;have HR:Hid (MxG s (LgS (t::ts)) w (.returned (slV g4 (s.size+1) p4)) w4):=⟨g4,p4,ρ4,γ4,f4,rfl,al,ao,a4.trans (ad.mono a4.size)⟩;clear ad;go_wp2;go_ret;exact HR.out):p:=h
theorem zzU2 (h:p:=by
 have HN:Hid (∃P',A=P'++allC es j/\m+1=P'.length/\yEh w' w g' a5 (P'.map (segV b off cap))/\Below w w w'):=by refine⟨P++ [(i,j)],HX.out,by rw[length_append,<-HP.2.1];rfl,by rw[map_append];exact a4,?_⟩;have k1:=HP.2.2.2.trans (a0.mono a3);have k2:=k1.alloc k1.size (Obj.cells #[segV b off cap (i,j)] 26);exact k2.grown a2 k2.size (λq hq=>by cases hq;omega)
 clear a4 a2 a6;go_wp2;go_roundw;case rel=>exact⟨j,g',a5,m+1,by omega,rfl,rfl,qw HE.lt,HN.out⟩
 case measure=>go_light;simp[intOf];have:=HE.lt;omega):p:=h
theorem zzU3 (h:p:=by
 refine⟨?_,λhr=>⟨?_,λhf=>?_⟩⟩
 .by_cases h0:cB a.j b.j=0
  .exact .inr (yD0.1 h0)
  .rw[iA h0]at h;exact .inl h
 .rw[iB (yD0.2 hr)]at h;by_cases h0:cB a.E b.E=0
  .exact .inr (yD0.1 h0)
  .rw[iA h0]at h;exact .inl h
 .rw[iB (yD0.2 hr),iB (yD0.2 hf)]at h;by_cases h0:cB a.C b.C=0
  .exact .inr (yD0.1 h0)
  .rw[iA h0]at h;exact .inl h):p:=h
theorem zzU4 (h:p:=by
 rcases eq_nil_or_concat b with rfl|⟨b',z,rfl⟩
 .simp at e;subst e;exact⟨xs++ [n],[],by simp,.snoc n ho h,.nil⟩
 .rw[concat_eq_append,<-append_assoc]at e;have e2:=append_inj' e rfl;have⟨e3,e4⟩:=e2;simp at e4;subst e3 e4;obtain⟨ys,zs,rfl,h1,h2⟩:=ih (a:=a) (b:=b'++os) (by simp);refine⟨ys,zs++ [n],by simp,h1,?_⟩;rw[concat_eq_append];exact .snoc n ho h2):p:=h
theorem zzU5(h:p:=by go_wp2_with fail;exact yR5 HF.out rfl rfl HX.1 HX.2):p:=h
theorem zzU6(h:p:=by refine qO 6 rfl λK hK=>?_;go_simp;refine(a6.out _).mono ?_;rintro e wb ⟨rfl,a0⟩;have HKwb:=qH1 (a2.on a0);clear hS0 a0;have hS0:=HKwb.S HO.out;refine hK.out _ _ (.inr hS0) ?_;clear hK;refine jS ?_;refine ja 7 hS0 ?_;exact xGo):p:=h
theorem zzU7(h:p:=by have h:=HI.out;rw[HD.out]at h;rw[<-h];simp[yE5,HC.out]):p:=h
theorem zzU8(h:p:=by rw[Bool.eq_iff_iff];simp only[Bool.or_eq_true,Bool.and_eq_true,decide_eq_true_eq,beq_iff_eq];omega):p:=h
theorem zzU9 (h:p:=by
 rw[any_eq_true];constructor
 .rintro⟨p,hp,hx⟩;rw[Bool.and_eq_true]at hx;exact⟨p,mem_range.1 hp,hx.1,hx.2⟩
 .rintro⟨p,hp,h1,h2⟩;exact⟨p,mem_range.2 hp,by rw[h1,h2];rfl⟩):p:=h
theorem xFr (h:p:=by
 have b1:=yAa w (O:=w.heap.size) (t:=343) (sz:=8) zsA qr rfl;have k0:Below w w W0:=a0▸((qB).alloc (by simp) _)
 refine⟨?_,k0,h.k k0⟩;rw[a0];exact b1.k (qB)):p:=h
theorem xFq (h:p:=by
 go_wp2;go_roundw;case rel=>exact⟨k,n+1,wider f lo lo,hks,qo,rfl,by go_num,by rw[decide_eq_true (succ_pos n)];exact HF.out,trivial⟩
 case measure=>simp[intOf];omega):p:=h
theorem xFp(h:p:=by have g1:=hS p (yA.lt hb).2 he;have g2:=hS q hr.lt.2 he';exact⟨h0,m,m2,pa,pb,q,cq,k,ha h1,hb' h2,l1,l2,yA.i hb hc g1.1,hr.i hc g2.1,hp,hq,g1.2,g2.2⟩):p:=h
theorem xFo(h:p:=by refine zY ?_;first|exact⟨J+1,k+1,g6,p6,ρ6,γ6,f6,qo,qo,by go_num,rfl,aa,a0,a9⟩|exact⟨J+1,qo,by go_num,g6,p6,rfl,aa,k+1,ρ6,γ6,f6,qo,a0,a9⟩|trace_state):p:=h
theorem xFn (h:p:=by
 rcases h with⟨a,cap',hq,hl⟩|⟨b,off,cap',hq,hE,hlt,h1,h2⟩
 .simp only at p0 hl;subst hl;simp at p0
 .exact⟨b,off,cap',hq,hE,hlt,h1,h2⟩):p:=h
theorem xCu(h:p:=by go_enter func188,ntmps188;go_wp2;go_ret;exact⟨rfl,rfl⟩):p:=h
theorem xCt(h:p:=by exact a0 0 (by rw[h];rfl) (λc=>by unfold yCa;simp[h,noH])):p:=h
theorem xFm (h:p:=by
 obtain⟨hc1,hf1⟩:=yVr hb1;have hz1:w.heap.size+1<w1.heap.size:=by have:=hb1.size;simp at this;omega
 exact xGg):p:=h
theorem xFl(h:p:=by apply a0.mono;rintro e w1 ⟨rfl,h1,h2⟩;have HE:=qH1 (a3 w1 h1 h2);clear h1 h2;go_wp2;go_ret;exact hv▸HE):p:=h
theorem xCs(h:p:=by simp only[Sum.inl.injEq,Prod.mk.injEq,true_and];omega):p:=h
theorem xFk (h:p:=by
 have a0:=(hl.ed _ _ he).2;rcases ht with ht|ht
 .have:=hg.tk _ _ ht;omega
 .exact .step he ht (ih.1 a0)):p:=h
theorem xFj (h:p:=by
 rcases h with⟨a,cap,hq,hl⟩|⟨b,off,cap,hq,_⟩
 .subst hl;exact⟨_,_,hq⟩
 .exact⟨_,_,hq⟩):p:=h
theorem xFi (h:p:=by
 rw[ByteArray.toList_eq,ByteArray.toList_eq]at h4;cases a;cases b
 congr;exact Array.toList_inj.1 h4):p:=h
theorem xFh (h:p:=by
 rcases h.2 with⟨a,cap,rfl,rfl⟩|⟨b,off,cap,rfl,_⟩
 .exact⟨_,_,rfl⟩
 .exact⟨_,_,rfl⟩):p:=h
theorem xFg(h:p:=by refine qO 13 rfl λK hK=>?_;go_simp;refine hK.out _ _ (.inr HS3.out) ?_;clear hK;exact zzQ2):p:=h
theorem xFf (h:p:=by
 rcases h.cases with⟨rfl,rfl⟩|⟨g,cp,rfl,hO⟩
 .exact⟨_,_,rfl⟩
 .exact⟨_,_,rfl⟩):p:=h
theorem xFe(h:p:=by go_wp2_with fail;refine(yBi O cb bv n 1 1 _ H1.1 qo qo qo).mono ?_;exact zzT1):p:=h
theorem xFd (h:p:=by
 rcases k.new i hi with q|q
 .exact h.new i q
 .exact .inr (Nat.le_trans h.i.size q)):p:=h
theorem xFc(h:p:=by apply wpQuiet_nil;rintro w1 ⟨⟨wx,a0⟩,rfl⟩;go_wp2;go_ret;exact⟨rfl,a0⟩):p:=h
theorem xFb (h:p:=by
 unfold yPw yCm;rw[h];split
 .rename_i q;simp[q,h13]
 .rename_i q;simp[q,h13]):p:=h
theorem xFa(h:p:=by go_enter func207,ntmps207;go_wp2;go_ret;exact⟨rfl,Below.refl _ _⟩):p:=h
theorem xF(h:p:=by refine .inl ⟨h0,?_⟩;have:X.length=0:=h1;exact length_eq_zero_iff.1 this):p:=h
theorem xE9(h:p:=by clear hT d0 d1 d2 d3 d4 d5 d6 d7 d8 d9 d10;go_wp2_with fail;go_ret;exact HR):p:=h
def yA(w:Ww)(O t sz g:Nat)(vs:List Vv):Prop:=w.ownsRow O t sz (xg g 1 1) 1 vs
variable {t:Nat}
theorem yA.X(h:yA w O t sz g vs):vs.length=sz:=qw h.1
theorem yA.lt(h:yA w O t sz g vs):O<=g/\g<w.heap.size:=Aj h g rfl
theorem yA.i(h:yA w O t sz g vs)(hc:Chg S w w')(hn:¬S g):yA w' O t sz g vs:=yAg h hc (λk q=>by simp[AT]at q;subst q;exact hn)
theorem yA.k(h:yA w O t sz g vs)(hb:Below w w w'):yA w' O t sz g vs:=h.i (Chg.h hb) (S:=λ_=>False) (λq=>q)
variable {j:Nat}
theorem yA.z(h:yA w O t sz g vs){v:Vv}(hv:vs[j]?=some v):(xk w g j v:Prop):=by have hj:=qf hv;rw[Af h j (qw h.X),hv]
theorem yA.frozen(h:yA w O t sz g vs)(j:Nat):w.frozen? (xd g j)=false:=Aw h j
theorem yA.set(h:yA w O t sz g vs)(j:Nat)(u:Vv):yA (xt w g j u) O t sz g (vs.set j u):=(Ax h j u).1
theorem yA.Q(h:yA w O t sz g vs){k:Nat}(hk:¬g=k)(j:Nat)(u:Vv):yA (xt w k j u) O t sz g vs:=h.i (Chg.D w k j u (S:=λq=>q=k) rfl) hk
theorem yAa(w:Ww)(cs:Array Vv)(hb:O<=w.heap.size)(hs:cs.size=sz):yA (xw w cs t) O t sz w cs.toList:=
 World.ownsRow_lit w cs 1 hb qj qo
theorem box2{a b:Array Vv}(h:W=(xw (w.alloc (.cells a s)) b t)):yA W w s a.size w a.toList/\yA W w t b.size (w+1) b.toList/\Below w w W:=by
 have b1:=yAa w (t:=s) a qr rfl;have b2:=yAa (xw w a s) (O:=w.heap.size) (t:=t) b (by simp) rfl;rw[World.size_alloc]at b2;rw[h];exact⟨b1.k qB,b2,(qB).alloc (by simp) _⟩
theorem box3{a b c:Array Vv}(h:W=(xw ((w.alloc (.cells a s)).alloc (.cells b t)) c u)):yA W w s a.size w a.toList/\yA W w t b.size (w+1) b.toList/\yA W w u c.size (w+1+1) c.toList/\Below w w W:=by
 have⟨x,y,z⟩:=box2 (w:=w) (a:=a) (b:=b) (s:=s) (t:=t) rfl;have b3:=yAa (xw (w.alloc (.cells a s)) b t) (O:=w.heap.size) (t:=u) c (by simp;omega) rfl;rw[World.size_alloc,World.size_alloc]at b3;rw[h];exact⟨x.k qB,y.k qB,b3,z.alloc (by simp;omega) _⟩
def set3(w:Ww)(g:Nat)(a b c:Vv):Ww:=(xt ((w.setCell (xd g 0) a).setCell (xd g 1) b) g 2 c)
theorem yA.set3(h:yA w O t 3 g vs)(a b c:Vv):yA (set3 w g a b c) O t 3 g [a,b,c]:=by
 have h1:=((h.set 0 a).set 1 b).set 2 c;have hl:=h.X;match vs,hl with
 | [x,y,z],_=>exact h1
theorem yAc{a:Ww}(h:Below B a w){k:Nat}(hk:B<=k)(j:Nat)(u:Vv):Below B a (xt w k j u):=h.setCell (p:=(xd k j)) hk u
theorem yL5{a:Ww}(h:Below B a w){k:Nat}(hk:B<=k)(x y z:Vv):Below B a (set3 w k x y z):=yAc (yAc (yAc h hk 0 x) hk 1 y) hk 2 z
theorem yZ5(w:Ww)(k j:Nat)(u:Vv):(w.setCell (xd k j) u).heap.size=w.heap.size:=by simp[World.setCell]
variable {v0 v1:Vv} {r:List Vv}
theorem yA.c2(h:yA w O t sz g (v0::v1::r)):xk w g 0 v0/\xk w g 1 v1:=
 ⟨h.z (j:=0) rfl,h.z (j:=1) rfl⟩
variable {v2:Vv}
theorem yA.c3(h:yA w O t sz g (v0::v1::v2::r)):xk w g 0 v0/\xk w g 1 v1/\xk w g 2 v2:=
 ⟨h.z (j:=0) rfl,h.z (j:=1) rfl,h.z (j:=2) rfl⟩
variable {v3:Vv}
theorem yA.c4(h:yA w O t sz g (v0::v1::v2::v3::r)):xk w g 0 v0/\xk w g 1 v1/\xk w g 2 v2/\xk w g 3 v3:=
 ⟨h.z (j:=0) rfl,h.z (j:=1) rfl,h.z (j:=2) rfl,h.z (j:=3) rfl⟩
variable {v4:Vv}
theorem yA.c5(h:yA w O t sz g (v0::v1::v2::v3::v4::r)):xk w g 0 v0/\xk w g 1 v1/\xk w g 2 v2/\xk w g 3 v3/\xk w g 4 v4:=
 ⟨h.z (j:=0) rfl,h.z (j:=1) rfl,h.z (j:=2) rfl,h.z (j:=3) rfl,h.z (j:=4) rfl⟩
variable {v5 v6:Vv}
theorem yA.c7(h:yA w O t sz g (v0::v1::v2::v3::v4::v5::v6::r)):xk w g 0 v0/\xk w g 1 v1/\xk w g 2 v2/\xk w g 3 v3/\xk w g 4 v4/\xk w g 5 v5/\xk w g 6 v6:=
 ⟨h.z (j:=0) rfl,h.z (j:=1) rfl,h.z (j:=2) rfl,h.z (j:=3) rfl,h.z (j:=4) rfl,h.z (j:=5) rfl,h.z (j:=6) rfl⟩
variable {v7:Vv}
theorem yA.c8(h:yA w O t sz g (v0::v1::v2::v3::v4::v5::v6::v7::r)):xk w g 0 v0/\xk w g 1 v1/\xk w g 2 v2/\xk w g 3 v3/\xk w g 4 v4/\xk w g 5 v5/\xk w g 6 v6/\xk w g 7 v7:=
 ⟨h.z (j:=0) rfl,h.z (j:=1) rfl,h.z (j:=2) rfl,h.z (j:=3) rfl,h.z (j:=4) rfl,h.z (j:=5) rfl,h.z (j:=6) rfl,h.z (j:=7) rfl⟩
theorem yA.c11{v8 v9 v10:Vv}(h:yA w O t sz g (v0::v1::v2::v3::v4::v5::v6::v7::v8::v9::v10::r)):xk w g 0 v0/\xk w g 1 v1/\xk w g 2 v2/\xk w g 3 v3/\xk w g 4 v4/\xk w g 5 v5/\xk w g 6 v6/\xk w g 7 v7/\xk w g 8 v8/\xk w g 9 v9/\xk w g 10 v10:=
 ⟨h.z (j:=0) rfl,h.z (j:=1) rfl,h.z (j:=2) rfl,h.z (j:=3) rfl,h.z (j:=4) rfl,h.z (j:=5) rfl,h.z (j:=6) rfl,h.z (j:=7) rfl,h.z (j:=8) rfl,h.z (j:=9) rfl,h.z (j:=10) rfl⟩
theorem yA.f2(h:yA w O t sz g vs):w.frozen? ⟨g,0,none⟩=false/\w.frozen? ⟨g,1,none⟩=false:=⟨h.frozen 0,h.frozen 1⟩
theorem yA.f3(h:yA w O t sz g vs):w.frozen? ⟨g,0,none⟩=false/\w.frozen? ⟨g,1,none⟩=false/\w.frozen? ⟨g,2,none⟩=false:=⟨h.frozen 0,h.frozen 1,h.frozen 2⟩
theorem yA.f4(h:yA w O t sz g vs):w.frozen? ⟨g,0,none⟩=false/\w.frozen? ⟨g,1,none⟩=false/\w.frozen? ⟨g,2,none⟩=false/\w.frozen? ⟨g,3,none⟩=false:=⟨h.frozen 0,h.frozen 1,h.frozen 2,h.frozen 3⟩
theorem yA.f5(h:yA w O t sz g vs):w.frozen? ⟨g,0,none⟩=false/\w.frozen? ⟨g,1,none⟩=false/\w.frozen? ⟨g,2,none⟩=false/\w.frozen? ⟨g,3,none⟩=false/\w.frozen? ⟨g,4,none⟩=false:=⟨h.frozen 0,h.frozen 1,h.frozen 2,h.frozen 3,h.frozen 4⟩
theorem yA.f8(h:yA w O t sz g vs):w.frozen? ⟨g,0,none⟩=false/\w.frozen? ⟨g,1,none⟩=false/\w.frozen? ⟨g,2,none⟩=false/\w.frozen? ⟨g,3,none⟩=false/\w.frozen? ⟨g,4,none⟩=false/\w.frozen? ⟨g,5,none⟩=false/\w.frozen? ⟨g,6,none⟩=false/\w.frozen? ⟨g,7,none⟩=false:=⟨h.frozen 0,h.frozen 1,h.frozen 2,h.frozen 3,h.frozen 4,h.frozen 5,h.frozen 6,h.frozen 7⟩
structure Out(w:Ww) where
 u:Ww
 out:Below w w u
theorem yAv{Q:Exit->Act->Ww->Prop}{a:Act}{l:List Oper}(hm:prog.follows .mixedOrders=true)(hB:Region.lexB .any l.toArray=true)
  (h:wpQuiet prog l.toArray (λw'=>∃n:Out w,w'=n.u) (λa'=>∀w',(∃n:Out w,w'=n.u)->Q .normal a' w') l a):(Code.region id l.toArray true).wp prog Q a w:=
 wp_region_quiet (C:=λw'=>∃n:Out w,w'=n.u) hm hB ⟨⟨_,(Below.refl _ _).drew⟩,rfl⟩ (by simpa using h)
variable {args:Array Vv}
theorem Calls.out_of{f:FuncId}{n:Out w}{v:Vv}
  (h:(xf f args n.u v:Prop)):Calls prog f args n.u λe w''=>e=.returned v/\∃m:Out w,w''=m.u:=
 h.mono λ_ w' ⟨he,hb⟩=>⟨he,⟨w',n.out.trans (hb.mono n.out.size)⟩,rfl⟩
section
variable {P:Program} {C:Ww->Prop}
def fk(m:Vv)(o:Oper):Oper:={o with op:=.move (.const m)}
theorem put_defers(a:Act)(dst:Option Tmp)(v:Vv):(a.put dst v).defers=a.defers:=by cases dst<;>rfl
end
abbrev sb(s:Ba):List U8:=s.data.toList
theorem yAe(s:Ba):(sb s).length=s.size:=by simp[sb]
variable {x:U8}
theorem yAw{s:Ba}{i:Nat}(h:(sb s)[i]?=some x):∃hi:i<s.size,s[i]=x:=by have hi:=qf h;rw[yAe]at hi;refine⟨hi,?_⟩;rw[AW (by rw[yAe];exact hi)]at h;exact Al h
theorem yF4(s:Ba)(c:U8) w:
  Calls prog 259 #[s,.int .u8 (c.toNat:Int)] w λe w'=>e=.returned (xi (AJ (sb s) c))/\w'=w:=by
 have H:Calls prog 262 #[s,.int .u8 (c.toNat:Int)] w λe w'=>e=.returned (xi (AJ (sb s) c))/\w'=w:=by go_enter func262,ntmps262;go_wp2;rw[run_callFunc_extern func266 qk qk qk (e:=Extern.BytealgIndexByte.indexByte) qk,Lib.run_indexByteString];simp only[Result.andThen];rw[Oper.upon_value];go_wp2;go_ret;exact⟨by simp,rfl⟩
 go_enter func259,ntmps259;go_wp2_with (go_at_call 262;apply H.mono;rintro e w' ⟨rfl,rfl⟩);go_ret;exact⟨rfl,rfl⟩
theorem yG9:∀(l:List U8)(c:U8),-1<=AJ l c/\(0<=AJ l c↔c∈l)
 | [],c=>by simp[AJ]
 |b::l,c=>by
  have ih:=yG9 l c
  unfold AJ
  by_cases h:b=c
  .subst h;simp
  .have h2:¬c=b:=λq=>h q.symm
   by_cases h3:AJ l c= -1
   .have h4:¬c∈l:=λq=>qw (ih.2.2 q)
    simp[h,h2,h3,h4]
   .have h4:=ih.2.1 qo
    simp[h,h2,h3,h4]
    omega
abbrev PrAt(w:Ww)(O g:Nat)(p:Ba)(i o:Nat):Prop:=yA w O 324 3 g [p,xi i,xi o]
theorem yI0(v:Vv) w:Calls prog 230 #[v,true] w λe w'=>e=.returned (.tuple #[])/\w'=w:=by go_enter func230,ntmps230;go_wp2;go_end0;exact⟨rfl,rfl⟩
def inB(p:List U8)(i:Nat)(l:List U8):Bool:=match p[i]? with|some c=>decide (c∈l)|none=>false
variable {o:Nat} {p:Ba}
theorem yDu{i:Nat}(s:Ba)(h:PrAt w O g p i o)(hp:p.size<=200):
  (xf 256 #[xp g,s] w (inB (sb p) i (sb s)):Prop):=by
 have a1:=h.lt.2;have⟨c0,c1⟩:=h.c2;have e0:∀n:Out w,(xk n.u g 0 p:Prop):=λn=>(n.out.cell (p:=(xd g 0)) a1).trans c0;have e1:∀n:Out w,(xk n.u g 1 (xi i):Prop):=λn=>(n.out.cell (p:=(xd g 1)) a1).trans c1;by_cases hi:i<p.size
 .obtain⟨x,hx⟩:∃x,(sb p)[i]?=some x:=qg (by rw[yAe];exact hi);have⟨_,gx⟩:=yAw hx;have z1:=qo
  have⟨r,hr⟩:=qE (AJ (sb s) x);have HR:Hid (r=AJ (sb s) x/\inB (sb p) i (sb s)=decide (0<=r)):=by refine⟨hr,?_⟩;unfold inB;rw[hx,hr];exact decide_eq_decide.2 (yG9 _ _).2.symm
  have HI:Hid (∀n:Out w,(xf 259 #[s,.int .u8 (x.toNat:Int)] n.u (xi r):Prop)):=λn=>by rw[HR.1];exact(yF4 s x n.u).mono λe w' ⟨he,hw⟩=>⟨he,hw▸Below.refl _ _⟩
  rw[HR.2];clear hx hr;go_enter func256,ntmps256;go_upto_region 1 with fail;apply yAv qk qk;repeat (go_big_quiet_step ((first|rfl|(go_at_call 259;exact Calls.out_of (HI _)))))
  exact xFc
 .have z1:=qo
  have HR:inB (sb p) i (sb s)=false:=by unfold inB;rw[Ab (by rw[yAe];omega)]
  rw[HR];go_enter func256,ntmps256;go_upto_region 1 with fail;apply yAv qk qk;repeat (go_big_quiet_step (rfl))
  exact xFc
theorem PrAt.next{i:Nat}(h:PrAt w O g p i o):PrAt (xt w g 1 (xi ((i:Int)+1))) O g p (i+1) o:=yA.set h 1 (xi ((i:Int)+1))
theorem yFd{i:Nat}(h:PrAt w O g p i o)(hp:p.size<=200)(hx:(sb p)[i]?=some x):
  Calls prog 261 #[xp g] w λe w'=>e=.returned (.int .u8 (x.toNat:Int))/\PrAt w' O g p (i+1) o/\Chg (λk=>k=g) w w':=by
 have HP:=qH1 h;have⟨hi,gx⟩:=yAw hx;have⟨c0,c1⟩:=h.c2;have f1:=h.frozen 1;have z1:=qo
 go_enter func261,ntmps261;go_upto_region 1 with fail;go_quiet ((go_at_call 230;exact Calls.quiet_of_same (yI0 _ _)));go_upto_region 2 with fail;have⟨W1,a1⟩:=qW (w.drewN nq);have a0:Below w w W1:=a1▸(below_drewN (Below.refl _ _) _)
 have a2:Hid (PrAt W1 O g p i o):=HP.k a0;rw[<-a1];clear a1 c0 c1 f1;have⟨c0,c1⟩:=a2.c2;have f1:=a2.frozen 1;go_quiet (rfl);go_wp2;go_ret;have hb2:Below w w (W1.drewN nq):=a0.trans ((below_drewN (Below.refl _ _) _).mono a0.size);exact⟨rfl,PrAt.next (yA.k HP hb2),(Chg.h hb2).trans (Chg.D _ g 1 _ rfl)⟩
theorem yD6{i:Nat}(c:U8)(h:PrAt w O g p i o)(hp:p.size<=200):
  Calls prog 244 #[xp g,.int .u8 (c.toNat:Int)] w λe w'=>Chg (λk=>k=g) w w'/\
   (((sb p)[i]?=some c/\e=.returned true/\PrAt w' O g p (i+1) o)\/(¬(sb p)[i]?=some c/\e=.returned false/\PrAt w' O g p i o)):=by
 have HP:=qH1 h;have a2:=h.lt.2;have⟨c0,c1⟩:=h.c2;have e0:∀n:Out w,(xk n.u g 0 p:Prop):=λn=>(n.out.cell (p:=⟨g,0,none⟩) a2).trans c0;have e1:∀n:Out w,n.u.cell? (xd g 1)=some (.int .i64 (i:Int)):=λn=>(n.out.cell (p:=⟨g,1,none⟩) a2).trans c1;by_cases hi:i<p.size
 .obtain⟨x,hx⟩:∃x,(sb p)[i]?=some x:=⟨_,AW (by rw[yAe];exact hi)⟩;have⟨_,gx⟩:=yAw hx;have z1:=qo
  by_cases hxc:x=c
  .subst hxc;have HF:=qH1 hx;go_enter func244,ntmps244;go_upto_region 1 with fail;apply yAv qk qk;repeat (go_big_quiet_step (rfl))
   apply As;rintro w1 ⟨⟨wx,a0⟩,rfl⟩;have a1:=qH1 (yA.k HP a0);have c1:=a1.z (j:=1) rfl;have f1:=a1.frozen 1;go_wp2;go_ret;exact⟨(Chg.h a0).trans (Chg.D _ g 1 _ rfl),.inl ⟨HF,rfl,PrAt.next a1⟩⟩
  .have HF:Hid (¬(sb p)[i]?=some c):=by show¬(sb p)[i]?=some c;rw[hx];exact λq=>hxc (Al q)
   have z2:¬(x.toNat:Int)=(c.toNat:Int):=λq=>hxc (Aa.1 qo);go_enter func244,ntmps244;go_upto_region 1 with fail;apply yAv qk qk;repeat (go_big_quiet_step (rfl))
   apply As;rintro w1 ⟨⟨wx,a0⟩,rfl⟩;have a1:=qH1 (yA.k HP a0);go_wp2;go_ret;exact⟨Chg.h a0,.inr ⟨HF,congrArg (λb=>Ending.returned (.bool b)) (iC.2 z2),a1⟩⟩
 .have z1:=qo
  have HF:Hid (¬(sb p)[i]?=some c):=by show¬(sb p)[i]?=some c;rw[Ab (by rw[yAe];omega)];exact λq=>by cases q
  go_enter func244,ntmps244;go_upto_region 1 with fail;apply yAv qk qk;repeat (go_big_quiet_step (rfl))
  apply As;rintro w1 ⟨⟨wx,a0⟩,rfl⟩;have a1:=qH1 (yA.k HP a0);go_wp2;go_ret
  first
   |exact⟨Chg.h a0,.inr ⟨HF,rfl,a1⟩⟩
   |exact⟨Chg.h a0,rfl,a1⟩
variable {c:U8}
section
inductive Pat where
 |byte (b:U8)
 |cls (f:U8->Bool)
 |rep (t:Pat) (opt rpt:Bool)
 |alt (os:List (List Pat))
abbrev isOp(c:U8):Prop:=c=42\/c=43\/c=63
abbrev yGl(c:U8):Prop:=isOp c\/c=124\/c=41\/c=93
def chM(p:List U8)(i:Nat):U8×Nat×Bool:=
 match p[i]? with
 |none=>(0,i,false)
 |some c=>if c=93\/c=45 then(0,i,false)else if c=92 then(match p[i+1]? with|none=>(0,i+1,false)|some d=>(d,i+2,true))else(c,i+1,true)
variable {p:List U8}
theorem yFn{i k:Nat}(h:chM p i=(c,k,true)):i<k/\k<=p.length:=by
 unfold chM at h;split at h
 .cases h
 .next c' hc=>
  have h0:=qf hc;split at h
  .cases h
  .split at h
   .split at h
    .cases h
    .next d hd=>
     have h1:=qf hd;simp only[AA]at h;omega
   .simp only[AA]at h;omega
def yCh(p:List U8)(j:Nat):(U8×U8×Nat) ⊕ (Int×Nat):=
 match chM p j with
 |(_,k,false)=>.inr (2,k)
 |(lo,k,true)=>
  if p[k]?=some 45 then
   match chM p (k+1)with
   |(_,m,false)=>.inr (2,m)
   |(hi,m,true)=>if hi<lo then .inr (4,j)else .inl (lo,hi,m)
  else .inl (lo,lo,k)
variable {b:U8}
theorem yFy{k:Nat}{a:U8}(h:yCh p j=.inl (a,b,k)):j<k/\k<=p.length/\a<=b:=by
 unfold yCh at h;split at h
 .cases h
 .next lo k' hk=>
  have h1:=yFn hk;split at h
  .split at h
   .cases h
   .next hi m hm=>
    have h2:=yFn hm;split at h
    .cases h
    .next hle=>
     simp only[AD,AA]at h;obtain⟨rfl,rfl,rfl⟩:=h;exact⟨qo,qo,UInt8.not_lt.1 hle⟩
  .simp only[AD,AA]at h;obtain⟨rfl,rfl,rfl⟩:=h;exact⟨qo,qo,UInt8.le_refl _⟩
def clsM(p:List U8)(j:Nat)(items:Bool)(f:U8->Bool):((U8->Bool)×Nat) ⊕ (Int×Nat):=
 if h:j<p.length then
  if p[j]?=some 93/\items=true then .inl (f,j+1)
  else match hi:yCh p j with
   | .inr e=>.inr e
   | .inl (a,b,k)=>clsM p k true (λc=>f c || (decide (a<=c) && decide (c<=b)))
 else .inr (2,p.length)
termination_by p.length-j
decreasing_by have:=yFy hi;omega
def yAt(p:List U8)(i:Nat):((U8->Bool)×Nat) ⊕ (Int×Nat):=
 if p[i]?=some 94 then(match clsM p (i+1) false (λ_=>false)with| .inl (f,k)=>.inl (λc=> !f c,k)| .inr e=>.inr e)
 else clsM p i false (λ_=>false)
theorem yH1:∀(n:Nat){p:List U8}{j:Nat}{b:Bool}{f g:U8->Bool}{k:Nat},p.length-j<=n->clsM p j b f=.inl (g,k)->j<k/\k<=p.length
 |n,p,j,b,f,g,k,hn,h=>by
  unfold clsM at h
  split at h
  .next hj=>
   split at h
   .simp only[AD,AA]at h
    omega
   .split at h
    .cases h
    .next a b' k' hk=>
     have h1:=yFy hk
     match n,hn with
     |0,hn=>omega
     |n+1,hn=>
      have h2:=yH1 n qo h
      omega
  .cases h
theorem yBe{i:Nat}{g:U8->Bool}{k:Nat}(h:yAt p i=.inl (g,k)):i<k/\k<=p.length:=by
 unfold yAt at h;split at h
 .split at h
  .next hc=>
   have:=yH1 _ qr hc;simp only[AD,AA]at h;omega
  .cases h
 .exact yH1 _ qr h
theorem yX4{c:Int}{k:Nat}(h:yCh p j=.inr (c,k)):¬c=0:=by
 unfold yCh at h;split at h
 .simp only[AQ,AA]at h;omega
 .split at h
  .split at h
   .simp only[AQ,AA]at h;omega
   .split at h
    .simp only[AQ,AA]at h;omega
    .cases h
  .cases h
theorem yNp:∀(n:Nat){p:List U8}{j:Nat}{b:Bool}{f:U8->Bool}{c:Int}{k:Nat},p.length-j<=n->clsM p j b f=.inr (c,k)->¬c=0
 |n,p,j,b,f,c,k,hn,h=>by
  unfold clsM at h
  split at h
  .split at h
   .cases h
   .split at h
    .next e he=>
     simp only[AQ]at h
     subst h
     exact yX4 he
    .next a b' k' hk=>
     have h1:=yFy hk
     match n,hn with
     |0,hn=>omega
     |n+1,hn=>exact yNp n qo h
  .simp only[AQ,AA]at h;omega
theorem yL1{i:Nat}{c:Int}{k:Nat}(h:yAt p i=.inr (c,k)):¬c=0:=by
 unfold yAt at h;split at h
 .split at h
  .cases h
  .next e he=>
   simp only[AQ]at h;subst h;exact yNp _ qr he
 .exact yNp _ qr h
def chkM(p:List U8)(i o:Nat)(a:Bool):Int×Nat:=
 if h:i<p.length then
  if p[i]=40 then(if o=20 then(3,i)else chkM p (i+1) (o+1) false)
  else if p[i]=41 then(if o=0 then(2,i)else chkM p (i+1) (o-1) true)
  else if p[i]=124 then chkM p (i+1) o false
  else if p[i]=42\/p[i]=43\/p[i]=63 then(if a=true then chkM p (i+1) o true else(2,i))
  else if p[i]=91 then(match hc:yAt p (i+1)with| .inr e=>e| .inl (f,k)=>chkM p k o true)
  else if p[i]=93 then(2,i)
  else if p[i]=92 then(if i+1=p.length then(2,p.length)else chkM p (i+2) o true)
  else chkM p (i+1) o true
 else if 0<o then(2,p.length)else(0,0)
termination_by p.length-i
decreasing_by
 all_goals first
  |(have:=yBe hc;omega)
  |omega
variable {p:List U8} {i o:Nat} {a:Bool}
theorem yAq(h:p[i]?=some c):i<p.length:=qf h
theorem yCj(h:p[i]?=some c):p[i]'(yAq h)=c:=(Ai.1 h).2
theorem yJ8(h:¬i<p.length):chkM p i o a=if 0<o then(2,p.length)else(0,0):=by rw[chkM,dif_neg h]
theorem yF1(h:p[i]?=some 40):chkM p i o a=if o=20 then(3,i)else chkM p (i+1) (o+1) false:=by rw[chkM,dif_pos (yAq h),iB (yCj h)]
theorem yEb(h:p[i]?=some 41):chkM p i o a=if o=0 then(2,i)else chkM p (i+1) (o-1) true:=by rw[chkM,dif_pos (yAq h),yCj h];simp
theorem yJ9(h:p[i]?=some 124):chkM p i o a=chkM p (i+1) o false:=by rw[chkM,dif_pos (yAq h),yCj h];simp
theorem yTw(h:p[i]?=some c)(hc:isOp c):chkM p i o a=if a=true then chkM p (i+1) o true else(2,i):=by rw[chkM,dif_pos (yAq h),yCj h];rcases hc with rfl|rfl|rfl<;>simp
theorem yTv(h:p[i]?=some 93):chkM p i o a=(2,i):=by rw[chkM,dif_pos (yAq h),yCj h];simp
theorem yEc(h:p[i]?=some 91):chkM p i o a=match yAt p (i+1)with| .inr e=>e| .inl (f,k)=>chkM p k o true:=by rw[chkM,dif_pos (yAq h),yCj h];simp only[show¬(91:U8)=40 by decide,show¬(91:U8)=41 by decide,show¬(91:U8)=124 by decide,show¬((91:U8)=42\/(91:U8)=43\/(91:U8)=63)by decide,if_false,if_true];split<;>(next hc=>rw[hc])
theorem yH3(h:p[i]?=some 92):chkM p i o a=if i+1=p.length then(2,p.length)else chkM p (i+2) o true:=by rw[chkM,dif_pos (yAq h),yCj h];simp
theorem yFm(h:p[i]?=some c)(h1:¬yGl c)(h2:¬c=40)(h3:¬c=91)(h4:¬c=92):chkM p i o a=chkM p (i+1) o true:=by rw[chkM,dif_pos (yAq h),yCj h];unfold yGl isOp at h1;simp only[not_or]at h1;have⟨⟨g1,g2,g3⟩,g4,g5,g6⟩:=h1;simp[h2,h3,h4,g1,g2,g3,g4,g5,g6]
theorem yTx(h:∀c,p[i]?=some c->¬isOp c)(a b:Bool):chkM p i o a=chkM p i o b:=by
 by_cases hi:i<p.length
 .obtain⟨c,hc⟩:∃c,p[i]?=some c:=qg hi;have hn:=h c hc;by_cases h1:c=40
  .subst h1;rw[yF1 hc,yF1 hc]
  by_cases h2:c=41
  .subst h2;rw[yEb hc,yEb hc]
  by_cases h3:c=124
  .subst h3;rw[yJ9 hc,yJ9 hc]
  by_cases h4:c=93
  .subst h4;rw[yTv hc,yTv hc]
  by_cases h5:c=91
  .subst h5;rw[yEc hc,yEc hc]
  by_cases h6:c=92
  .subst h6;rw[yH3 hc,yH3 hc]
  have he:¬yGl c:=λq=>q.elim hn (λq=>q.elim h3 (λq=>q.elim h2 h4));rw[yFm hc he h1 h5 h6,yFm hc he h1 h5 h6]
 .rw[yJ8 hi,yJ8 hi]
end
theorem yOe:∃F:(U8->Bool)->Array Vv,∀f,F f=Az (n:=256) λi=>.bool (f (AH i.val)):=⟨_,λ_=>rfl⟩
noncomputable def setA(f:U8->Bool):Array Vv:=Classical.choose yOe f
theorem yMm(f:U8->Bool):setA f=Az (n:=256) λi=>.bool (f (AH i.val)):=Classical.choose_spec yOe f
theorem yAh(f:U8->Bool):(setA f).size=256:=by rw[yMm];simp
theorem yDb:(prog.info? 358).map (λi=>(i.zero,i.size))=some (some (.agg (AE 256 false)),256):=qk
theorem yJl:setA (λ_=>false)=AE 256 (.bool false):=by
 rw[yMm];apply Array.ext
 .simp
 .intro i h1 h2;simp
theorem yWl(f:U8->Bool)(i:Nat)(h:i<256):(setA f)[i]?=some (.bool (f (AH i))):=by rw[yMm,Array.getElem?_eq_getElem (by simp;exact h)];simp only[Aq]
theorem yFu(f:U8->Bool):(setA f).all (·.oneCell')=true:=by rw[yMm,Array.all_eq_true_iff_forall_mem];intro v hv;obtain⟨i,hi,rfl⟩:=Array.getElem_of_mem hv;simp only[Aq];rfl
theorem yA.heap(h:yA w O t sz g vs):w.heap[g]?=some (.cells vs.toArray t (0,0)):=by
 rcases h.2 with⟨h0,_⟩|⟨g',cap,cur,hv,_,hc,_,_,a1,a0⟩
 .cases h0
 .simp only[Value.slice.injEq,Ac,Addr.mk.injEq,and_true,true_and]at hv;obtain⟨rfl,rfl⟩:=hv;rw[hc];rw[Ag (by simp[a1])]at a0;rw[<-a0]
theorem yA.ofHeap{vs:Array Vv}(h:w.heap[g]?=some (.cells vs t (0,0)))(hb:O<=g)(hs:vs.size=sz):yA w O t sz g vs.toList:=by refine⟨by simp[hs],.inr ⟨g,1,vs,rfl,hb,h,AI _,qj,qo,?_⟩⟩;rw[Ag (by simp[hs])]
abbrev yBr(w:Ww)(O g:Nat)(f:U8->Bool):Prop:=yA w O 358 256 g (setA f).toList
variable {f:U8->Bool}
theorem yBr.heap(h:yBr w O g f):w.heap[g]?=some (.cells (setA f) 358 (0,0)):=by have h1:=yA.heap h;rw[Ap]at h1;exact h1
variable {f':U8->Bool}
theorem yBr.ext(h:yBr w O g f)(he:∀c,f c=f' c):yBr w O g f':=by rw[show f'=f from funext λc=>(he c).symm];exact h
theorem yG0(f:U8->Bool)(k:Nat)(h:k<256):(setA f).toList[k]?=some (.bool (f (AH k))):=by rw[Array.getElem?_toList];exact yWl f k h
theorem xAp{i k:Nat}(hi:i<256)(hk:k<256)(h:AH i=AH k):i=k:=by have:=congrArg UInt8.toNat h;rw[AV,AV]at this;omega
theorem ySv(f:U8->Bool)(k:Nat)(b:Bool)(hk:k<256):(setA f).toList.set k (.bool b)=(setA (λc=>if c=AH k then b else f c)).toList:=by
 apply ext_getElem?;intro i;rw[getElem?_set];by_cases h:k=i
 .subst h;rw[iB rfl,iB (by simp[yAh];exact hk),yG0 _ _ hk,iB rfl]
 .rw[iA h];by_cases hi:i<256
  .rw[yG0 _ _ hi,yG0 _ _ hi,iA (λq=>h (xAp hi hk q).symm)]
  .rw[Ab (by simp[yAh];omega),Ab (by simp[yAh];omega)]
theorem Below.setRow'{a:Ww}(h:Below B a w)(hg:B<=g)(cs:Array Vv):Below B a (w.setRow g cs):=
 h.trans ⟨rfl,rfl,rfl,by simp,λk hk=>A8 w g k cs qo⟩
theorem yG4(f:U8->Bool)(w:Ww):
  Calls prog 263 #[.agg (setA f)] w λe w'=>e=.returned (.agg (setA (λc=> !f c)))/\Below w w w':=by
 have a1:=(AO yDb).1;go_enter func263,ntmps263;go_wp2;rw[<-yJl];have⟨W,hW⟩:=qE ((w.alloc (.cells (setA f) 358)).alloc (.cells (setA (λ_=>false)) 358));have HW:Hid (yBr W w.heap.size w.heap.size f/\yBr W w.heap.size (w.heap.size+1) (λ_=>false)/\Below w.heap.size w W):=by rw[hW];refine⟨yA.ofHeap (A0 w _ _) (AI _) (yAh _),yA.ofHeap (A6 w _ _) qo (yAh _),(qB).alloc (by simp) _⟩
 rw[<-hW];go_loopw[4] (λi wr=>∃(k:Nat),k<=256/\i=.int .i64 k/\yBr wr w.heap.size w.heap.size (λc=>if c.toNat<k then !f c else f c)/\yBr wr w.heap.size (w.heap.size+1) (λ_=>false)/\Below w.heap.size w wr) (λi _=>256-(intOf i).toNat);case atStart=>
  refine⟨0,zero_le _,rfl,?_,HW.2.1,HW.2.2⟩;exact yBr.ext HW.1 (λc=>by rw[iA qo])
 case round=>
  obtain⟨k,hk,rfl,h1,h2,h3⟩:=hrel;have HR:=qH3 h1 h2 h3;by_cases hlt:k<256
  .have z:(k:Int)<256:=qo
   have⟨b,hb⟩:=qE (f (AH k));have hn:(AH k).toNat=k:=by rw[AV];omega
   have d0:wr.cell? (xd w.heap.size k)=some (.bool b):=by have:=HR.1.z (yG0 _ k hlt);rw[hn,iA (Nat.lt_irrefl _),<-hb]at this;exact this
   have f0:=HR.1.frozen k;have HN:Hid (yBr (wr.setCell (xd w.heap.size k) (.bool (!b))) w.heap.size w.heap.size (λc=>if c.toNat<k+1 then !f c else f c)/\yBr (wr.setCell (xd w.heap.size k) (.bool (!b))) w.heap.size (w.heap.size+1) (λ_=>false)/\Below w.heap.size w (wr.setCell (xd w.heap.size k) (.bool (!b)))):=by
    refine⟨?_,HR.2.1.Q qo k _,yAc HR.2.2 (AI _) k _⟩;have h4:=HR.1.set k (.bool (!b));rw[ySv _ k (!b) hlt]at h4;apply yBr.ext h4
    .intro c;by_cases hc:c=AH k
     .rw[iB hc,hc,hn,iB qo,hb]
     .rw[iA hc];have:¬c.toNat=k:=λq=>hc (Aa.1 (by rw[hn];exact q));by_cases h5:c.toNat<k
      .rw[iB h5,iB qo]
      .rw[iA h5,iA qo]
   clear hb hn HR;refine zY ?_;exact⟨k+1,qo,by go_num,HN.1,HN.2.1,HN.2.2⟩
  .obtain rfl:k=256:=qo
   have h0:=yBr.heap (yBr.ext HR.1 (f':=λc=> !f c) (λc=>iB (Ah c)));have h1:=yBr.heap HR.2.1;have hB:Below w.heap.size w (wr.setRow (w.heap.size+1) (setA (λc=> !f c))):=Below.setRow' HR.2.2 qo _;have hi:=(AO yDb).2;clear HR;go_upto_region 6 with fail;apply AN;refine AP rfl 358 _ rfl w.heap.size rfl 358 (setA (λc=> !f c)) (0,0) _ h0 underlying358 rfl (by rw[yAh];exact hi) ?_;refine Ad rfl 358 _ _ rfl (w.heap.size+1) (setA (λc=> !f c)) rfl rfl 358 (setA (λ_=>false)) h1 (by rw[yAh];exact hi) (by rw[yAh,yAh]) (yFu _) ?_;have hr:=Ak _ _ _ (setA (λc=> !f c)) _ _ h1;obtain⟨W2,a0⟩:=qE (wr.setRow (w.heap.size+1) (setA (λc=> !f c)));rw[<-a0]at hB hr|-;clear a0 h0 h1;apply Ao;go_wp2_with fail;refine A9 (v:=.agg (setA (λc=> !f c))) (Ay rfl _ _ (w.heap.size+1) _ _ _ _ rfl hr underlying358 rfl (by rw[yAh];exact hi)) rfl ⟨rfl,hB⟩
variable {p:List U8}
theorem yY7{i:Nat}(h:p[i]?=none):chM p i=(0,i,false):=by unfold chM;rw[h]
theorem yY6{i:Nat}(h:p[i]?=some 92):chM p i=match p[i+1]? with|none=>(0,i+1,false)|some d=>(d,i+2,true):=by unfold chM;rw[h];rfl
theorem xH2{i k:Nat}(h:chM p i=(x,k,true)):inB p i [93,45]=false/\∃c,p[i]?=some c/\((c=92/\p[i+1]?=some x/\k=i+2)\/(¬c=92/\x=c/\k=i+1)):=by
 unfold chM at h;unfold inB;split at h
 .cases h
 .next c hc=>
  rw[hc];split at h
  .cases h
  .next hn=>
   refine⟨by simpa using hn,c,rfl,?_⟩;split at h
   .next q=>
    split at h
    .cases h
    .next d hd=>simp only[AA]at h;exact .inl ⟨q,by rw[hd,h.1],h.2.1.symm⟩
   .next q=>simp only[AA]at h;exact .inr ⟨q,h.1.symm,h.2.1.symm⟩
theorem yGf{i k:Nat}{p:Ba}(h:PrAt w O g p i o)(hp:p.size<=200)(hk:chM (sb p) i=(x,k,true)):
  Calls prog 268 #[xp g] w λe w'=>e=.returned (.int .u8 (x.toNat:Int))/\PrAt w' O g p k o/\Chg (λk=>k=g) w w':=by
 have⟨h1,c,hc,h2⟩:=xH2 hk;have HP:=qH3 h hc h2;clear hk hc h2;go_enter func268,ntmps268;go_wp2_with fail;apply (yDu ⟨#[93,45]⟩ HP.1 hp).mono;rintro e w1 ⟨rfl,a2⟩;rw[show inB (sb p) i (sb ⟨#[93,45]⟩)=false from h1];have a1:=qH2 (yA.k HP.1 a2) (Chg.h a2 (S:=λk=>k=g));clear a2 h1;go_wp2_with fail;apply (yI0 _ w1).mono;rintro e w2 ⟨rfl,rfl⟩;go_wp2_with fail;refine(yFd a1.1 hp HP.2.1).mono ?_;rintro e w3 ⟨rfl,a6,a4⟩;have a0:=qH2 a6 (a1.2.trans a4);clear a6 a4 a1;rcases HP.2.2 with⟨rfl,hx,rfl⟩|⟨q,rfl,rfl⟩
 .go_wp2_with fail;refine(yFd a0.1 hp hx).mono ?_;rintro e w4 ⟨rfl,a5,a3⟩;go_wp2;go_ret;exact⟨rfl,a5,a0.2.trans a3⟩
 .have z:¬(x.toNat:Int)=92:=λe=>q (Aa.1 (by show x.toNat=92;omega));go_wp2;go_ret;exact⟨rfl,a0.1,a0.2⟩
def wider(f:U8->Bool)(a b:U8):U8->Bool:=λc=>f c || (decide (a<=c) && decide (c<=b))
variable {w2:Ww}
theorem Chg.absorb(h:Chg S w w1)(k:Chg T w1 w2)(hT:∀j,T j->S j\/w.heap.size<=j):Chg S w w2:=
 ⟨k.os.trans h.os,k.tape.trans h.tape,k.output.trans h.output,AU h.size k.size,λi hi hn=>(k.block i (Ar hi h.size) (λq=>by rcases hT i q with q|q;exact hn q;omega)).trans (h.block i hi hn)⟩
theorem yV5(a:U8):wrap64 (a.toNat:Int)=(a.toNat:Int):=by have:=Ah a;unfold wrap64;omega
theorem yH4(w:Ww)(g:Nat)(cs:Array Vv):Chg (λk=>k=g) w (w.setRow g cs):=⟨rfl,rfl,rfl,by simp,λk hk hn=>A8 w g k cs hn⟩
theorem xA2{k:Nat}{a b:U8}(h:yCh p j=.inl (a,b,k)):∃k1,chM p j=(a,k1,true)/\((p[k1]?=some 45/\chM p (k1+1)=(b,k,true))\/(¬p[k1]?=some 45/\a=b/\k1=k)):=by
 unfold yCh at h;split at h
 .cases h
 .next lo k' hk=>
  split at h
  .next q=>
   split at h
   .cases h
   .next hi m hm=>
    split at h
    .cases h
    .simp only[AD,AA]at h;obtain⟨rfl,rfl,rfl⟩:=h;exact⟨_,hk,.inl ⟨q,hm⟩⟩
  .next q=>simp only[AD,AA]at h;obtain⟨rfl,rfl,rfl⟩:=h;exact⟨_,hk,.inr ⟨q,rfl,rfl⟩⟩
theorem yPb{i k5:Nat}{a b:U8}{p:Ba}(f:U8->Bool)(h:PrAt w O g p i o)(hp:p.size<=200)(hk:yCh (sb p) i=.inl (a,b,k5)):
  Calls prog 267 #[xp g,.agg (setA f)] w λe w'=>e=.returned (.agg (setA (wider f a b)))/\PrAt w' O g p k5 o/\Chg (λk=>k=g) w w':=by
 have⟨k1,ck,hx⟩:=xA2 hk;have HK:=qH2 ck hx;have z:(a.toNat:Int)<=(b.toNat:Int):=qw (AK.1 (yFy hk).2.2);have aj:=h.lt.2;have⟨W0,a9⟩:=qE ((w.alloc (.cells (setA f) 358)).alloc (.cells (setA (λ_=>false)) 358));have HW:Hid (yBr W0 w.heap.size w.heap.size f/\yBr W0 w.heap.size (w.heap.size+1) (λ_=>false)/\PrAt W0 O g p i o/\Chg (λk=>k=g) w W0):=by rw[a9];have hb:Below w.heap.size w ((w.alloc (.cells (setA f) 358)).alloc (.cells (setA (λ_=>false)) 358)):=(qB).alloc (by simp) _;refine⟨yA.ofHeap (A0 w _ _) (AI _) (yAh _),yA.ofHeap (A6 w _ _) qo (yAh _),yA.k h hb,Chg.h hb⟩
 clear hk ck hx;have ah:=(AO yDb).1;rw[yJl]at a9;have c1:=HW.2.2.1.z (j:=1) rfl;go_enter func267,ntmps267;go_upto_region 1 with fail;rw[<-a9];clear a9 ah;go_wp2_with fail;clear c1;refine(yGf HW.2.2.1 hp HK.1).mono ?_;rintro e w1 ⟨rfl,ag,a5⟩;have a6:=qH4 (yA.i HW.1 a5 qo) (yA.i HW.2.1 a5 qo) ag (HW.2.2.2.trans a5);clear a5 ag HW;go_wp2_with fail;refine(yD6 45 a6.2.2.1 hp).mono ?_;rintro e w2 ⟨ab,h2⟩;have a0:=qH3 (yA.i a6.1 ab qo) (yA.i a6.2.1 ab qo) (a6.2.2.2.trans ab);clear ab a6;obtain⟨q,rfl,hq⟩:∃q:Bool,e=.returned q/\((q=true/\PrAt w2 O g p (k1+1) o/\chM (sb p) (k1+1)=(b,k5,true))\/(q=false/\PrAt w2 O g p k5 o/\a=b)):=by
  rcases h2 with⟨hx,rfl,a4⟩|⟨hx,rfl,a4⟩
  .exact⟨true,rfl,.inl ⟨rfl,a4,HK.2.elim (λq=>q.2) (λq=>absurd hx q.1)⟩⟩
  .obtain⟨h3,rfl⟩:=HK.2.elim (λq=>absurd q.1 hx) (λq=>q.2);exact⟨false,rfl,.inr ⟨rfl,a4,h3⟩⟩
 have HQ:=qH1 hq;clear h2 hq HK;go_upto_if 17 with fail;go_cut[7] (λs wx=>s=.int .u8 (b.toNat:Int)/\Hid (yBr wx w w f/\yBr wx w (w+1) (λ_=>false)/\PrAt wx O g p k5 o/\Chg (λk=>k=g) w wx));case first=>
  rcases HQ.out with⟨rfl,a4,ck⟩|⟨rfl,a4,rfl⟩
  .clear HQ;go_wp2_with fail;refine(yGf a4 hp ck).mono ?_;rintro e w5 ⟨rfl,af,aa⟩;go_wp2_with fail;go_meet;exact⟨rfl,yA.i a0.1 aa qo,yA.i a0.2.1 aa qo,af,a0.2.2.trans aa⟩
  .clear HQ;go_wp2_with fail;go_meet;exact⟨rfl,a0.1,a0.2.1,a4,a0.2.2⟩
 case rest=>
 have⟨h7,H5⟩:=hcut;subst h7;clear HQ a0;go_wp2;go_loopw[8] (λbv wr=>∃(k:Nat),a.toNat<=k/\k<=b.toNat+1/\bv=(xi k)/\yBr wr w w (λc=>f c || (decide (a<=c) && decide (c.toNat<k)))/\yBr wr w (w+1) (λ_=>false)/\PrAt wr O g p k5 o/\Chg (λk=>k=g) w wr) (λbv _=>256-(intOf bv).toNat);case atStart=>
  refine⟨a.toNat,AI _,qo,congrArg (Value.int .i64) (yV5 a),yBr.ext H5.1 (λc=>?_),H5.2.1,H5.2.2.1,H5.2.2.2⟩;by_cases q:a<=c
  .have:=AK.1 q;rw[decide_eq_false (show¬c.toNat<a.toNat by omega)];simp
  .rw[decide_eq_false q];simp
 case round=>
  obtain⟨k,hk0,a2,rfl,h1,h2,h3,h4⟩:=hrel;have HR:=qH4 h1 h2 h3 h4;clear h1 h2 h3 h4 H5;have ai:=Ah b;by_cases hlt:k<=b.toNat
  .have z2:=qo
   have z3:(k:Int)<256:=qo
   obtain⟨v,hv⟩:∃v,(setA (λc=>f c || (decide (a<=c) && decide (c.toNat<k)))).toList[k]?=some v:=⟨_,yG0 _ k qo⟩;have d0:=HR.1.z hv;have f0:=HR.1.frozen k;have HN:Hid (yBr (xt wr w k (.bool true)) w w (λc=>f c || (decide (a<=c) && decide (c.toNat<k+1)))/\yBr (xt wr w k (.bool true)) w (w+1) (λ_=>false)/\PrAt (xt wr w k (.bool true)) O g p k5 o/\Chg (λk=>k=g) w (xt wr w k (.bool true))):=by
    refine⟨?_,yA.Q HR.2.1 qo k _,yA.Q HR.2.2.1 qo k _,HR.2.2.2.absorb (Chg.D wr w k _ (S:=λq=>q=w.heap.size) rfl) (λj q=>.inr qo)⟩;have h5:=HR.1.set k (.bool true);rw[ySv _ k true qo]at h5;have hn:(AH k).toNat=k:=by rw[AV];omega
    refine yBr.ext h5 (λc=>?_);by_cases hc:c=AH k
    .have h6:a<=c:=AK.2 (by rw[hc,hn];exact hk0);rw[iB hc,decide_eq_true h6,decide_eq_true (show c.toNat<k+1 by rw[hc,hn];omega)];simp
    .rw[iA hc];have h6:¬c.toNat=k:=λq=>hc (Aa.1 (by rw[hn];exact q));rw[show decide (c.toNat<k+1)=decide (c.toNat<k)from decide_eq_decide.2 ⟨λq=>by omega,λq=>by omega⟩]
   clear hv HR;go_wp2;go_roundw;case rel=>exact⟨k+1,by omega,by omega,by go_num,HN.1,HN.2.1,HN.2.2.1,HN.2.2.2⟩
   case measure=>simp[intOf];omega
  .obtain rfl:k=b.toNat+1:=qo
   have z2:¬((b.toNat:Int)+1)<=(b.toNat:Int):=qo
   have h0:=yBr.heap (yBr.ext HR.1 (f':=wider f a b) (λc=>by
    unfold wider
    rw[show decide (c.toNat<b.toNat+1)=decide (c<=b)from decide_eq_decide.2 ⟨λq=>AK.2 qo,λq=>qw (AK.1 q)⟩]))
   have h1:=yBr.heap HR.2.1;have HC:Hid (Chg (λk=>k=g) w (wr.setRow (w+1) (setA (wider f a b)))/\PrAt (wr.setRow (w+1) (setA (wider f a b))) O g p k5 o):=by have hc:=yH4 wr (w+1) (setA (wider f a b));exact⟨HR.2.2.2.absorb hc (λj q=>.inr qo),yA.i HR.2.2.1 hc qo⟩
   have hi:=(AO yDb).2;clear HR;go_upto_region 12 with fail;apply AN;refine AP rfl 358 _ rfl w rfl 358 (setA (wider f a b)) (0,0) _ h0 underlying358 rfl (by rw[yAh];exact hi) ?_;refine Ad rfl 358 _ _ rfl (w+1) (setA (wider f a b)) rfl rfl 358 (setA (λ_=>false)) h1 (by rw[yAh];exact hi) (by rw[yAh,yAh]) (yFu _) ?_;have hr:=Ak _ _ _ (setA (wider f a b)) _ _ h1;obtain⟨W2,a3⟩:=qE (wr.setRow (w+1) (setA (wider f a b)));rw[<-a3]at HC hr|-;clear a3 h0 h1;apply Ao;go_wp2;refine A9 (v:=.agg (setA (wider f a b))) (Ay rfl _ _ (w+1) _ _ _ _ rfl hr underlying358 rfl (by rw[yAh];exact hi)) rfl ⟨rfl,HC.2,HC.1⟩
section
inductive Pls(P:List U8->Prop):List U8->Prop
 |one {x:List U8} (h:P x):Pls P x
 |more {x y:List U8} (h:P x) (k:Pls P y):Pls P (x++y)
def RepL(P:List U8->Prop)(o r:Bool)(x:List U8):Prop:=(o=true/\x= [])\/(if r=true then Pls P x else P x)
mutual
def Lg:Pat->List U8->Prop
 | .byte b=>λx=>x= [b]
 | .cls f=>λx=>∃c,x= [c]/\f c=true
 | .rep t o r=>RepL (Lg t) o r
 | .alt os=>LgA os
def LgA:List (List Pat)->List U8->Prop
 | []=>λ_=>False
 |ts::os=>λx=>LgS ts x\/LgA os x
def LgS:List Pat->List U8->Prop
 | []=>λx=>x= []
 |t::ts=>λx=>∃y z,x=y++z/\Lg t y/\LgS ts z
end
theorem ySh:∀(os:List (List Pat))(x:List U8),LgA os x↔∃ts∈os,LgS ts x
 | [],x=>by simp[LgA]
 |ts::os,x=>by simp[LgA,ySh os x]
mutual
def nulB:Pat->Bool
 | .byte _| .cls _=>false
 | .rep t o _=>o || nulB t
 | .alt os=>nulA os
def nulA:List (List Pat)->Bool
 | []=>false
 |ts::os=>nulS ts || nulA os
def nulS:List Pat->Bool
 | []=>true
 |t::ts=>nulB t && nulS ts
end
abbrev PS:=Nat->Bool
def sOr(F G:PS):PS:=λi=>F i || G i
def sOne(a:Nat):PS:=λi=>i==a
def sNo:PS:=λ_=>false
structure Lay where
 nx:Nat
 fst:PS
 P:PS
 tk:Nat->U8->Bool
 ed:Nat->Nat->Bool
def Lay.no(a:Nat):Lay:=⟨a,sNo,sNo,λ_ _=>false,λ_ _=>false⟩
def Lay.seq(g:Lay)(em nt:Bool)(l:Lay):Lay:=
 ⟨l.nx,if em=true then sOr g.fst l.fst else g.fst,if nt=true then sOr g.P l.P else l.P,λp c=>g.tk p c || l.tk p c,λp q=>g.ed p q || l.ed p q || (g.P p && l.fst q)⟩
def Lay.alt(g l:Lay):Lay:=⟨l.nx,sOr g.fst l.fst,sOr g.P l.P,λp c=>g.tk p c || l.tk p c,λp q=>g.ed p q || l.ed p q⟩
def Lay.rep(l:Lay)(r:Bool):Lay:=⟨l.nx,l.fst,l.P,l.tk,λp q=>l.ed p q || (r && l.P p && l.fst q)⟩
mutual
def lyP:Pat->Nat->Lay
 | .byte b,a=>⟨a+1,sOne a,sOne a,λp c=>p==a && c==b,λ_ _=>false⟩
 | .cls f,a=>⟨a+1,sOne a,sOne a,λp c=>p==a && f c,λ_ _=>false⟩
 | .rep t _ r,a=>(lyP t a).rep r
 | .alt os,a=>lyA os (Lay.no a)
def lyA:List (List Pat)->Lay->Lay
 | [],g=>g
 |ts::os,g=>lyA os (g.alt (lyS ts true (Lay.no g.nx)))
def lyS:List Pat->Bool->Lay->Lay
 | [],_,g=>g
 |t::ts,em,g=>lyS ts (em && nulB t) (g.seq em (nulB t) (lyP t g.nx))
end
inductive Pth(l:Lay):Nat->List U8->Nat->Prop
 |nil (p:Nat):Pth l p [] p
 |step {p p' q:Nat} {c:U8} {xs:List U8} (he:l.ed p p'=true) (ht:l.tk p' c=true) (h:Pth l p' xs q):Pth l p (c::xs) q
def Wd(l:Lay)(x:List U8):Prop:=∃c xs p q,x=c::xs/\l.fst p=true/\l.tk p c=true/\Pth l p xs q/\l.P q=true
structure Spt(a:Nat)(l:Lay):Prop where
 le:a<=l.nx
 fst:∀p,l.fst p=true->a<=p/\p<l.nx
 P:∀p,l.P p=true->a<=p/\p<l.nx
 tk:∀p c,l.tk p c=true->a<=p/\p<l.nx
 ed:∀p q,l.ed p q=true->(a<=p/\p<l.nx)/\a<=q/\q<l.nx
structure Cor(a:Nat)(l:Lay)(P:List U8->Prop)(em:Bool):Prop where
 spt:Spt a l
 wd:∀x,P x↔(x= []/\em=true)\/Wd l x
variable {a p q:Nat} {l:Lay} {xs:List U8}
theorem Pth.in(hs:Spt a l)(h:Pth l p xs q)(hp:a<=p/\p<l.nx):a<=q/\q<l.nx:=by
 induction h with
 |nil p=>exact hp
 |step he ht h ih=>exact ih (hs.ed _ _ he).2
variable {ys:List U8}
theorem Pth.cat{r:Nat}(h:Pth l p xs q)(k:Pth l q ys r):Pth l p (xs++ys) r:=by
 induction h with
 |nil p=>exact k
 |step he ht h ih=>exact .step he ht (ih k)
variable {m:Lay}
theorem Pth.mono(h1:∀p q,l.ed p q=true->m.ed p q=true)(h2:∀p c,l.tk p c=true->m.tk p c=true)(h:Pth l p xs q):Pth m p xs q:=by
 induction h with
 |nil p=>exact .nil p
 |step he ht h ih=>exact .step (h1 _ _ he) (h2 _ _ ht) ih
theorem xG0:¬Wd l []:=fun⟨c,xs,p,q,h,_⟩=>by cases h
variable {P:List U8->Prop}
theorem Cor.nul(h:Cor a l P em):P []↔em=true:=by
 rw[h.wd];constructor
 .rintro(⟨_,q⟩|q)
  .exact q
  .exact(xG0 q).elim
 .exact λq=>.inl ⟨rfl,q⟩
theorem yYs(a:Nat):Cor a (Lay.no a) (λx=>x= []) true:=by
 refine⟨⟨AI _,?_,?_,?_,?_⟩,λx=>?_⟩
 .intro p h;cases h
 .intro p h;cases h
 .intro p c h;cases h
 .intro p q h;cases h
 .constructor
  .exact λh=>.inl ⟨h,rfl⟩
  .rintro(⟨h,_⟩|⟨c,xs,p,q,_,h,_⟩)
   .exact h
   .cases h
theorem xB(a:Nat):Cor a (Lay.no a) (λ_=>False) false:=by
 refine⟨(yYs a).spt,λx=>?_⟩;constructor
 .exact λh=>h.elim
 .rintro(⟨_,h⟩|⟨c,xs,p,q,_,h,_⟩)
  .cases h
  .cases h
theorem yYr(a:Nat)(f:U8->Bool)(T:Nat->U8->Bool)(hT:∀p c,T p c=(p==a && f c)):Cor a ⟨a+1,sOne a,sOne a,T,λ_ _=>false⟩ (λx=>∃c,x= [c]/\f c=true) false:=by
 refine⟨⟨le_succ _,?_,?_,?_,?_⟩,λx=>?_⟩
 .intro p h;simp[sOne]at h;simp;omega
 .intro p h;simp[sOne]at h;simp;omega
 .intro p c h;simp[hT]at h;simp;omega
 .intro p q h;cases h
 .constructor
  .rintro⟨c,rfl,hc⟩;exact .inr ⟨c,[],a,a,rfl,by simp[sOne],by simp[hT,hc],.nil a,by simp[sOne]⟩
  .rintro(⟨_,h⟩|⟨c,xs,p,q,rfl,h1,h2,h3,_⟩)
   .cases h
   .cases h3 with
    |nil=>simp[hT]at h2;exact⟨c,rfl,h2.2⟩
    |step he _ _=>cases he
variable {G:List U8->Prop}
section
variable {a:Nat} {g l:Lay} {nt:Bool}
theorem ySx(hg:Spt a g)(hl:Spt g.nx l)(h:Pth (g.seq em nt l) p xs q):
  ((g.nx<=p/\p<l.nx)->Pth l p xs q)/\((a<=p/\p<g.nx)->Pth g p xs q\/∃xs1 c xs2 p1 q1,xs=xs1++c::xs2/\Pth g p xs1 p1/\g.P p1=true/\l.fst q1=true/\l.tk q1 c=true/\Pth l q1 xs2 q):=by
 induction h with
 |nil p=>exact⟨λ_=>.nil p,λ_=>.inl (.nil p)⟩
 | @step p p' q c xs he ht h ih=>
   simp only[Lay.seq,AC,AR]at he ht;refine⟨λhp=>?_,λhp=>?_⟩
   .rcases he with(he|he)|he
    .have:=(hg.ed _ _ he).1;omega
    .exact xFk
    .have:=hg.P _ he.1;omega
   .rcases he with(he|he)|he
    .have a0:=(hg.ed _ _ he).2;rcases ht with ht|ht
     .rcases ih.2 a0 with k|⟨xs1,c1,xs2,p1,q1,rfl,k1,k2⟩
      .exact .inl (.step he ht k)
      .exact .inr ⟨c::xs1,c1,xs2,p1,q1,rfl,.step he ht k1,k2⟩
     .have:=hl.tk _ _ ht;omega
    .have:=(hl.ed _ _ he).1;omega
    .have a0:=hl.fst _ he.2;rcases ht with ht|ht
     .have:=hg.tk _ _ ht;omega
     .exact .inr ⟨[],c,xs,p,p',rfl,.nil p,he.1,he.2,ht,ih.1 a0⟩
theorem xG8(h:Pth g p xs q):Pth (g.seq em nt l) p xs q:=h.mono (λp q h=>by simp[Lay.seq,h]) (λp c h=>by simp[Lay.seq,h])
theorem xG7(h:Pth l p xs q):Pth (g.seq em nt l) p xs q:=h.mono (λp q h=>by simp[Lay.seq,h]) (λp c h=>by simp[Lay.seq,h])
theorem xEo(hg:Cor a g G em)(hl:Cor g.nx l P nt):Cor a (g.seq em nt l) (λx=>∃y z,x=y++z/\G y/\P z) (em && nt):=by
 have sg:=hg.spt;have sl:=hl.spt;have a4:=sg.le;have a3:=sl.le;have ff:∀p,(g.seq em nt l).fst p=true↔g.fst p=true\/(em=true/\l.fst p=true):=λp=>by cases em<;>simp[Lay.seq,sOr]
 have fl:∀p,(g.seq em nt l).P p=true↔(nt=true/\g.P p=true)\/l.P p=true:=λp=>by cases nt<;>simp[Lay.seq,sOr]
 refine⟨⟨AU a4 a3,λp h=>?_,λp h=>?_,λp c h=>?_,λp q h=>?_⟩,λx=>?_⟩
 .show a<=p/\p<l.nx;rcases(ff p).1 h with h|⟨_,h⟩
  .have:=sg.fst p h;omega
  .have:=sl.fst p h;omega
 .show a<=p/\p<l.nx;rcases(fl p).1 h with⟨_,h⟩|h
  .have:=sg.P p h;omega
  .have:=sl.P p h;omega
 .show a<=p/\p<l.nx;simp only[Lay.seq,AC]at h;rcases h with h|h
  .have:=sg.tk p c h;omega
  .have:=sl.tk p c h;omega
 .show(a<=p/\p<l.nx)/\a<=q/\q<l.nx;simp only[Lay.seq,AC,AR]at h;rcases h with(h|h)|⟨h,k⟩
  .have:=sg.ed p q h;omega
  .have:=sl.ed p q h;omega
  .have:=sg.P p h;have:=sl.fst q k;omega
 .constructor
  .rintro⟨y,z,rfl,hy,hz⟩;rcases(hg.wd y).1 hy with⟨rfl,e1⟩|⟨c,xs,p,q,rfl,h1,h2,h3,h4⟩
   .rcases(hl.wd z).1 hz with⟨rfl,e2⟩|⟨c,xs,p,q,rfl,h1,h2,h3,h4⟩
    .exact .inl ⟨rfl,by rw[e1,e2];rfl⟩
    .exact .inr ⟨c,xs,p,q,rfl,(ff p).2 (.inr ⟨e1,h1⟩),by simp[Lay.seq,h2],xG7 h3,(fl q).2 (.inr h4)⟩
   .rcases(hl.wd z).1 hz with⟨rfl,e2⟩|⟨c',a2,p',q',rfl,k1,k2,k3,k4⟩
    .exact .inr ⟨c,xs,p,q,by simp,(ff p).2 (.inl h1),by simp[Lay.seq,h2],xG8 h3,(fl q).2 (.inl ⟨e2,h4⟩)⟩
    .refine .inr ⟨c,xs++c'::a2,p,q',by simp,(ff p).2 (.inl h1),by simp[Lay.seq,h2],(xG8 h3).cat (.step ?_ (by simp[Lay.seq,k2]) (xG7 k3)),(fl q').2 (.inr k4)⟩;simp[Lay.seq,h4,k1]
  .rintro(⟨rfl,e⟩|⟨c,xs,p,q,rfl,h1,h2,h3,h4⟩)
   .simp only[AR]at e;exact⟨[],[],rfl,hg.nul.2 e.1,hl.nul.2 e.2⟩
   .simp only[Lay.seq,AC]at h2;rcases(ff p).1 h1 with k1|⟨e1,k1⟩
    .have hp:=sg.fst p k1;have t1:g.tk p c=true:=by
      rcases h2 with h2|h2
      .exact h2
      .have:=sl.tk p c h2;omega
     rcases(ySx sg sl h3).2 hp with k|⟨a1,c1,a0,p1,q1,rfl,k2,k3,k4,k5,k6⟩
     .have hq:=k.in sg hp;rcases(fl q).1 h4 with⟨e2,h4⟩|h4
      .exact⟨c::xs,[],by simp,(hg.wd _).2 (.inr ⟨c,xs,p,q,rfl,k1,t1,k,h4⟩),hl.nul.2 e2⟩
      .have:=sl.P q h4;omega
     .have hq:=k6.in sl (sl.fst _ k4);rcases(fl q).1 h4 with⟨_,h4⟩|h4
      .have:=sg.P q h4;omega
      .exact⟨c::a1,c1::a0,by simp,(hg.wd _).2 (.inr ⟨c,a1,p,p1,rfl,k1,t1,k2,k3⟩),(hl.wd _).2 (.inr ⟨c1,a0,q1,q,rfl,k4,k5,k6,h4⟩)⟩
    .have hp:=sl.fst p k1;have t1:l.tk p c=true:=by
      rcases h2 with h2|h2
      .have:=sg.tk p c h2;omega
      .exact h2
     have k:=(ySx sg sl h3).1 hp;have hq:=k.in sl hp;rcases(fl q).1 h4 with⟨_,h4⟩|h4
     .have:=sg.P q h4;omega
     .exact⟨[],c::xs,rfl,hg.nul.2 e1,(hl.wd _).2 (.inr ⟨c,xs,p,q,rfl,k1,t1,k,h4⟩)⟩
theorem yT3(hg:Spt a g)(hl:Spt g.nx l)(h:Pth (g.alt l) p xs q):
  ((g.nx<=p/\p<l.nx)->Pth l p xs q)/\((a<=p/\p<g.nx)->Pth g p xs q):=by
 induction h with
 |nil p=>exact⟨λ_=>.nil p,λ_=>.nil p⟩
 | @step p p' q c xs he ht h ih=>
   simp only[Lay.alt,AC]at he ht;refine⟨λhp=>?_,λhp=>?_⟩
   .rcases he with he|he
    .have:=(hg.ed _ _ he).1;omega
    .exact xFk
   .rcases he with he|he
    .have a0:=(hg.ed _ _ he).2;rcases ht with ht|ht
     .exact .step he ht (ih.2 a0)
     .have:=hl.tk _ _ ht;omega
    .have:=(hl.ed _ _ he).1;omega
theorem xIx(h:Pth g p xs q):Pth (g.alt l) p xs q:=h.mono (λp q h=>by simp[Lay.alt,h]) (λp c h=>by simp[Lay.alt,h])
theorem xIw(h:Pth l p xs q):Pth (g.alt l) p xs q:=h.mono (λp q h=>by simp[Lay.alt,h]) (λp c h=>by simp[Lay.alt,h])
theorem xEq(hg:Cor a g G em)(hl:Cor g.nx l P nt):Cor a (g.alt l) (λx=>G x\/P x) (em || nt):=by
 have sg:=hg.spt;have sl:=hl.spt;have a1:=sg.le;have a0:=sl.le;refine⟨⟨AU a1 a0,λp h=>?_,λp h=>?_,λp c h=>?_,λp q h=>?_⟩,λx=>?_⟩
 .show a<=p/\p<l.nx;simp only[Lay.alt,sOr,AC]at h;rcases h with h|h
  .have:=sg.fst p h;omega
  .have:=sl.fst p h;omega
 .show a<=p/\p<l.nx;simp only[Lay.alt,sOr,AC]at h;rcases h with h|h
  .have:=sg.P p h;omega
  .have:=sl.P p h;omega
 .show a<=p/\p<l.nx;simp only[Lay.alt,AC]at h;rcases h with h|h
  .have:=sg.tk p c h;omega
  .have:=sl.tk p c h;omega
 .show(a<=p/\p<l.nx)/\a<=q/\q<l.nx;simp only[Lay.alt,AC]at h;rcases h with h|h
  .have:=sg.ed p q h;omega
  .have:=sl.ed p q h;omega
 .constructor
  .rintro(h|h)
   .rcases(hg.wd x).1 h with⟨rfl,e1⟩|⟨c,xs,p,q,rfl,h1,h2,h3,h4⟩
    .exact .inl ⟨rfl,by rw[e1];rfl⟩
    .exact .inr ⟨c,xs,p,q,rfl,by simp[Lay.alt,sOr,h1],by simp[Lay.alt,h2],xIx h3,by simp[Lay.alt,sOr,h4]⟩
   .rcases(hl.wd x).1 h with⟨rfl,e1⟩|⟨c,xs,p,q,rfl,h1,h2,h3,h4⟩
    .exact .inl ⟨rfl,by rw[e1,Au]⟩
    .exact .inr ⟨c,xs,p,q,rfl,by simp[Lay.alt,sOr,h1],by simp[Lay.alt,h2],xIw h3,by simp[Lay.alt,sOr,h4]⟩
  .rintro(⟨rfl,e⟩|⟨c,xs,p,q,rfl,h1,h2,h3,h4⟩)
   .simp only[AC]at e;rcases e with e|e
    .exact .inl (hg.nul.2 e)
    .exact .inr (hl.nul.2 e)
   .simp only[Lay.alt,sOr,AC]at h1 h2 h4;rcases h1 with k1|k1
    .have hp:=sg.fst p k1;have k:=(yT3 sg sl h3).2 hp;have hq:=k.in sg hp;refine .inl ((hg.wd _).2 (.inr ⟨c,xs,p,q,rfl,k1,?_,k,?_⟩))
     .rcases h2 with h2|h2
      .exact h2
      .have:=sl.tk p c h2;omega
     .rcases h4 with h4|h4
      .exact h4
      .have:=sl.P q h4;omega
    .have hp:=sl.fst p k1;have k:=(yT3 sg sl h3).1 hp;have hq:=k.in sl hp;refine .inr ((hl.wd _).2 (.inr ⟨c,xs,p,q,rfl,k1,?_,k,?_⟩))
     .rcases h2 with h2|h2
      .have:=sg.tk p c h2;omega
      .exact h2
     .rcases h4 with h4|h4
      .have:=sg.P q h4;omega
      .exact h4
end
theorem xDo{r:Bool}(h:Pth l p xs q):Pth (l.rep r) p xs q:=Pth.mono (l:=l) (m:=l.rep r) (λp q k=>by simp[Lay.rep,k]) (λp c k=>k) h
theorem xAf(h:Pth (l.rep true) p xs q):Pth l p xs q\/∃xs1 c xs2 p1 q1,xs=xs1++c::xs2/\Pth l p xs1 p1/\l.P p1=true/\l.fst q1=true/\l.tk q1 c=true/\Pth (l.rep true) q1 xs2 q:=by
 induction h with
 |nil p=>exact .inl (.nil p)
 | @step p p' q c xs he ht h ih=>
   simp only[Lay.rep,AC,AR,true_and]at he ht;rcases he with he|he
   .rcases ih with k|⟨xs1,c1,xs2,p1,q1,rfl,k1,k2⟩
    .exact .inl (.step he ht k)
    .exact .inr ⟨c::xs1,c1,xs2,p1,q1,rfl,.step he ht k1,k2⟩
   .exact .inr ⟨[],c,xs,p,p',rfl,.nil p,he.1,he.2,ht,h⟩
theorem yOm{P:List U8->Prop}(hw:∀x,Wd l x->P x):∀(n:Nat){x:List U8},x.length<=n->Wd (l.rep true) x->Pls P x
 |0,x,hn,⟨c,xs,p,q,hx,_⟩=>by subst hx;simp at hn
 |n+1,x,hn,⟨c,xs,p,q,hx,h1,h2,h3,h4⟩=>by
  subst hx
  rcases xAf h3 with k|⟨xs1,c1,xs2,p1,q1,rfl,k1,k2,k3,k4,k5⟩
  .exact .one (hw _ ⟨c,xs,p,q,rfl,h1,h2,k,h4⟩)
  .have e:c::(xs1++c1::xs2)=(c::xs1)++(c1::xs2):=by simp
   rw[e]
   refine .more (hw _ ⟨c,xs1,p,p1,rfl,h1,h2,k1,k2⟩) (yOm hw n ?_ ⟨c1,xs2,q1,q,rfl,k3,k4,k5,h4⟩)
   simp at hn|-;omega
theorem xEp(h:Cor a l P em)(o r:Bool):Cor a (l.rep r) (RepL P o r) (o || em):=by
 have s:=h.spt;refine⟨⟨s.le,s.fst,s.P,s.tk,λp q k=>?_⟩,λx=>?_⟩
 .simp only[Lay.rep,AC,AR]at k;rcases k with k|⟨⟨_,k1⟩,k2⟩
  .exact s.ed p q k
  .exact⟨s.P p k1,s.fst q k2⟩
 .cases r with
  |false=>
   have e:∀x,Wd (l.rep false) x↔Wd l x:=λx=>by
    have:l.rep false=l:=by simp[Lay.rep]
    rw[this]
   unfold RepL;rw[iA (by decide),e,h.wd];cases o<;>cases em<;>simp
  |true=>
   unfold RepL;rw[iB rfl];constructor
   .rintro(⟨rfl,rfl⟩|k)
    .exact .inl ⟨rfl,rfl⟩
    .induction k with
     |one hx=>
      rcases(h.wd _).1 hx with⟨rfl,e⟩|⟨c,xs,p,q,rfl,h1,h2,h3,h4⟩
      .exact .inl ⟨rfl,by rw[e,Au]⟩
      .exact .inr ⟨c,xs,p,q,rfl,h1,h2,xDo h3,h4⟩
     | @more x y hx k ih=>
       rcases(h.wd _).1 hx with⟨rfl,e⟩|⟨c,xs,p,q,rfl,h1,h2,h3,h4⟩
       .exact ih
       .rcases ih with⟨rfl,e⟩|⟨c',a0,p',q',rfl,k1,k2,k3,k4⟩
        .exact .inr ⟨c,xs,p,q,by simp,h1,h2,xDo h3,h4⟩
        .refine .inr ⟨c,xs++c'::a0,p,q',by simp,h1,h2,(xDo h3).cat (.step ?_ k2 k3),k4⟩;have a1:l.fst p'=true:=k1;simp[Lay.rep,h4,a1]
   .rintro(⟨rfl,e⟩|k)
    .simp only[AC]at e;rcases e with e|e
     .exact .inl ⟨e,rfl⟩
     .exact .inr (.one (h.nul.2 e))
    .exact .inr (yOm (λx hx=>(h.wd x).2 (.inr hx)) _ qr k)
theorem Cor.iff{Q:List U8->Prop}(h:Cor a l P em)(hq:∀x,Q x↔P x):Cor a l Q em:=⟨h.spt,λx=>(hq x).trans (h.wd x)⟩
mutual
theorem yR1:∀(t:Pat)(a:Nat),Cor a (lyP t a) (Lg t) (nulB t)
 | .byte b,a=>by
   refine(yYr a (λc=>c==b) _ (λp c=>rfl)).iff (λx=>?_)
   simp[Lg]
 | .cls f,a=>by
   refine(yYr a f _ (λp c=>rfl)).iff (λx=>?_)
   simp[Lg]
 | .rep t o r,a=>by
   have:=xEp (yR1 t a) o r
   simp only[lyP,nulB,Lg]
   exact this
 | .alt os,a=>by
   have:=xHz os a (Lay.no a) _ _ (xB a)
   simp only[lyP,nulB,Lg]
   refine(show Cor a (lyA os (Lay.no a)) _ (nulA os)from ?_)
   rw[Bool.false_or]at this
   exact this.iff (λx=>by simp)
theorem xHz:∀(os:List (List Pat))(a:Nat)(g:Lay)(G:List U8->Prop)(em:Bool),Cor a g G em->Cor a (lyA os g) (λx=>G x\/LgA os x) (em || nulA os)
 | [],a,g,G,em,h=>by
   simp only[lyA,nulA,LgA,or_false,Bool.or_false]
   exact h
 |ts::os,a,g,G,em,h=>by
  have h1:=xEr ts g.nx (Lay.no g.nx) _ _ (yYs g.nx)
  rw[Bool.true_and]at h1
  have h2:=xHz os a _ _ _ (xEq h h1)
  simp only[lyA,nulA,LgA,<-Bool.or_assoc]
  refine h2.iff (λx=>?_)
  have e:(∃y z,x=y++z/\y= []/\LgS ts z)↔LgS ts x:=by
   constructor
   .rintro⟨y,z,rfl,rfl,h⟩;exact h
   .exact λh=>⟨[],x,rfl,rfl,h⟩
  rw[e,or_assoc]
theorem xEr:∀(ts:List Pat)(a:Nat)(g:Lay)(G:List U8->Prop)(em:Bool),Cor a g G em->Cor a (lyS ts em g) (λx=>∃y z,x=y++z/\G y/\LgS ts z) (em && nulS ts)
 | [],a,g,G,em,h=>by
   simp only[lyS,nulS,LgS,Bool.and_true]
   refine h.iff (λx=>?_)
   constructor
   .rintro⟨y,z,rfl,hy,rfl⟩;simpa using hy
   .exact λh=>⟨x,[],by simp,h,rfl⟩
 |t::ts,a,g,G,em,h=>by
  have h2:=xEr ts a _ _ _ (xEo h (yR1 t g.nx))
  simp only[lyS,nulS,LgS,<-Bool.and_assoc]
  refine h2.iff (λx=>?_)
  constructor
  .rintro⟨y,z,rfl,hy,u,v,rfl,hu,hv⟩;exact⟨y++u,v,by simp,⟨y,u,rfl,hy,hu⟩,hv⟩
  .rintro⟨y,z,rfl,⟨u,v,rfl,hu,hv⟩,hz⟩;exact⟨u,v++z,by simp,hu,v,z,rfl,hv,hz⟩
end
end
theorem yY2(hj:j<=p.length):clsM p j false f=match yCh p j with| .inr e=>.inr e| .inl (a,b,k)=>clsM p k true (wider f a b):=by
 by_cases h:j<p.length
 .rw[clsM,dif_pos h,iA (by simp)];split<;>(next hc=>(rw[hc];first|done|rfl))
 .rw[clsM,dif_neg h];exact xBz
theorem yTu(h:p[j]?=some 93):clsM p j true f=.inl (f,j+1):=by rw[clsM,dif_pos (yAq h),iB ⟨h,rfl⟩]
theorem xBd(hj:j<=p.length)(h:¬p[j]?=some 93):clsM p j true f=match yCh p j with| .inr e=>.inr e| .inl (a,b,k)=>clsM p k true (wider f a b):=by
 by_cases h1:j<p.length
 .rw[clsM,dif_pos h1,iA (λq=>h q.1)];split<;>(next hc=>(rw[hc];first|done|rfl))
 .rw[clsM,dif_neg h1];exact xBz
noncomputable abbrev clsV(f:U8->Bool):Vv:=.iface 360 (.agg (setA f))
theorem yTn:(prog.info? 360).map (λi=>(i.zero,i.size))=some (some (.agg (AE 256 false)),256):=qk
theorem yUo:(match prog.underlying 360 with|some (.struct fs)=>fs.toList.mapM (λf=>(prog.info? f.type).map λi=>(f.offset,i.size))|_=>none)=some [(0,256)]:=qk
theorem yP1:prog.built 358 []=some (setA (λ_=>false)):=by rw[yJl];kernel_rfl
theorem yLu:∀(l:List Vv)(k:Nat)(z:List Vv),k+l.length<=z.length->(l.zipIdx k).foldl (fun(cs:Array Vv) (p:Vv×Nat)=>cs.setIfInBounds (0+p.2) p.1) z.toArray=(z.take k++l++z.drop (k+l.length)).toArray
 | [],k,z,h=>by simp
 |x::l,k,z,h=>by
  simp only[zipIdx_cons,foldl_cons,Ae,AB]
  have h2:=yLu l (k+1) (z.set k x) (by simp at h|-;omega)
  simp only[Ae]at h2
  rw[h2]
  congr 1
  have hk:k<z.length:=by simp at h;omega
  rw[take_add_one,take_set_of_le qr,getElem?_set_self hk]
  have h3:(z.set k x).drop (k+1+l.length)=z.drop (k+(x::l).length):=by rw[drop_set_of_lt qo];congr 1;simp;omega
  rw[h3]
  simp
theorem yKd(c:Array Vv)(hc:c.size=256):prog.built 360 [(0,.agg c)]=some c:=by
 have hp:=yUo;cases hi:prog.info? 360 with
 |none=>have:=yTn;rw[hi]at this;cases this
 |some it=>
  have h1:=yTn;rw[hi]at h1;simp only[Option.map_some,Ac,AA]at h1;cases hu:prog.underlying 360 with
  |none=>rw[hu]at hp;cases hp
  |some d=>
   rw[hu]at hp;cases d<;>try (cases hp;done)
   case struct fs=>
    simp only[]at hp;unfold Program.built;rw[hi,hu];simp only[];rw[h1.1,hp];simp only[];show Instr.fill _ (AE 256 false) [(0,.agg c)]=_;unfold Instr.fill;have hv:(Value.agg c).cells=c:=rfl;simp only[getElem?_toArray,getElem?_cons_zero,hv,hc];have hz:(AE 256 (AY false)).size=256:=by simp
    rw[iA (by simp[hz])];unfold Instr.fill;congr 1;have h3:=yLu c.toList 0 (AE 256 (AY false)).toList (by simp[hc]);rw[<-Array.foldl_toList,Array.toList_zipIdx];have h4:(AE 256 (AY false)).toList.toArray=AE 256 (AY false):=Ap;rw[h4]at h3;apply Eq.trans h3;have h5:(AE 256 (AY false)).toList.drop (0+c.toList.length)= []:=by simp[hc]
    rw[h5];apply Array.ext';simp
variable {o:Oper} {a:Act}
theorem yA5{Q:Exit->Act->Ww->Prop}(hg:o.guard=none)(t:TypeId)(parts:Array (Nat×Operand))(ho:o.op=.build t parts)(cells:Array Vv)
  (hb:prog.built t (parts.map fun(i,x)=>(i,a.eval x)).toList=some cells) (h:wpList prog ops Q rest (a.put o.dst (.agg cells)) w):wpList prog ops Q (o::rest) a w:=by
 refine wpList_build hg t parts ho (by rw[hb];rfl) ?_;rw[hb];exact h
theorem yC0{Q:Exit->Act->Ww->Prop}(hgd:o.guard=none)(F:FuncId)(vals:Array Vv)(hrun:(execOp a.eval o).run prog w=.ok (.enter F vals) w)
  (h:Calls prog F vals w λe w'=>match e with| .returned v=>wpList prog ops Q rest (a.put o.dst v) w'| .panicked chain=>Q (.panic chain) a w'| .outgrown=>False):wpList prog ops Q (o::rest) a w:=by
 refine BA hgd λK hK=>?_;unfold AZ;rw[hrun,Oper.upon_enter];apply h.mono;intro e w' he;cases e with
 |returned v=>exact hK _ _ he
 |panicked chain=>exact he
 |outgrown=>exact he.elim
theorem yH9{Q:Exit->Act->Ww->Prop}(hg:o.guard=none) x (ho:o.op=.move x) (h:wpList prog ops Q rest (a.put o.dst (a.eval x)) w):wpList prog ops Q (o::rest) a w:=by refine BA hg λK hK=>?_;unfold AZ execOp;simp only[ho,Sem.run_pure];exact hK _ _ h
def yEi(p:List U8)(i:Nat)(ng:Bool)(k:Nat)(b:Bool)(f:U8->Bool):Prop:=yAt p i=(match clsM p k b f with| .inl (f,k)=>.inl ((if ng=true then λc=> !f c else f),k)| .inr e=>.inr e)
theorem yEi.eq{i:Nat}{k:Nat}{b:Bool}(h:yEi p i ng k b f):yAt p i=(match clsM p k b f with| .inl (f,k)=>.inl ((if ng=true then λc=> !f c else f),k)| .inr e=>.inr e):=h
def atOf(w:Ww)(g:Nat):Nat:=match w.cell? (xd g 1)with|some v=>(intOf v).toNat|none=>0
variable {o:Nat}
theorem yFp{i:Nat}{p:Ba}(h:PrAt w O g p i o):atOf w g=i:=by unfold atOf;rw[h.z (j:=1) rfl];simp[intOf]
theorem yY1{b:Bool}{r:(U8->Bool)×Nat}(h:clsM p j b f=.inl r):(p[j]?=some 93/\b=true/\(f,j+1)=r)\/(¬(p[j]?=some 93/\b=true)/\∃a c k,yCh p j=.inl (a,c,k)/\clsM p k true (wider f a c)=.inl r):=by
 unfold clsM at h;split at h
 .split at h
  .next q=>exact .inl ⟨q.1,q.2,Sum.inl.inj h⟩
  .next q=>
   split at h
   .cases h
   .next a c k hk=>exact .inr ⟨q,a,c,k,hk,h⟩
 .cases h
variable {fr:U8->Bool}
theorem yVj{i kr:Nat}{p:Ba}(h:PrAt w O g p i o)(hp:p.size<=200)(hk:yAt (sb p) i=.inl (fr,kr)):
  Calls prog 265 #[xp g] w λe w'=>e=.returned (clsV fr)/\PrAt w' O g p kr o/\Chg (λk=>k=g) w w':=by
 have aw:=h.lt.2;have HP:=qH1 h;go_enter func265,ntmps265;go_wp2_with fail;apply (yD6 94 HP hp).mono;rintro e w1 ⟨am,h1⟩;obtain⟨ng,j,fe,rfl,al,hM,hE⟩:∃(ng:Bool)(j:Nat)(fe:U8->Bool),e=.returned ng/\PrAt w1 O g p j o/\clsM (sb p) j false (λ_=>false)=.inl (fe,kr)/\fr=(if ng=true then λc=> !fe c else fe):=by
  unfold yAt at hk;rcases h1 with⟨hx,rfl,hP⟩|⟨hx,rfl,hP⟩
  .rw[iB hx]at hk;split at hk
   .next f k hf=>simp only[AD,AA]at hk;exact⟨true,i+1,f,rfl,hP,by rw[hf,hk.2],hk.1.symm⟩
   .cases hk
  .rw[iA hx]at hk;exact⟨false,i,fr,rfl,hP,hk,rfl⟩
 rcases yY1 hM with⟨_,q,_⟩|⟨_,a,b,k,ik,ck⟩
 .cases q
 have HE:=qH1 hE;have a5:=qH2 al am;clear h1 am al hM HP hk hE;go_upto_region 2 with fail;apply AN;apply yH9 rfl _ rfl;refine yA5 rfl _ _ rfl (setA (λ_=>false)) (by simp;exact yP1) ?_;simp only[AX,AL,AB,AG,AF];refine yC0 rfl 267 #[xp g,.agg (setA (λ_=>false))] (by simp[execOp,go_sem,AL,func267]) ?_;refine(yPb (λ_=>false) a5.1 hp ik).mono ?_;rintro e w2 ⟨rfl,ak,ag⟩
 have⟨fs,ad⟩:=qE (wider (λ_=>false) a b);have a9:=qH3 ak (a5.2.trans ag) (by rw[ad];exact ck:clsM (sb p) k true fs=.inl (fe,kr))
 rw[<-ad];clear ag ik ck ak a5 ad;simp only[AX,AB,AG,AF];have ac:=a9.2.1.size;have an:=(AO yDb).1;have ao:=yAh fs;have aq:=run_storeCells_new (P:=prog) w2 358 (AE 256 false) (setA fs) (by rw[yAh];exact(AO yDb).2) (by rw[yAh];simp) (yFu fs);have⟨W3,ae⟩:=qE (w2.alloc (.cells (setA fs) 358));have a8:Hid (PrAt W3 O g p k o/\Chg (λk=>k=g) w W3/\yBr W3 w w2 fs/\w.heap.size<=w2):=by rw[ae];have hb:Below w2 w2 (xw w2 (setA fs) 358):=qB;exact⟨yA.k a9.1 hb,a9.2.1.trans (Chg.h hb),yA.ofHeap (heap_alloc_last w2 _) ac (yAh fs),ac⟩
 have HM:=qH1 a9.2.2;go_wp2_with fail;rw[<-ae];have⟨SB,af⟩:=qE w2.heap.size;rw[<-af]at a8;rw[<-af];have ar:w<=SB:=qo
 clear ae aq an ao a9 af ac;have av:¬g=SB:=qo
 go_loopw[] (λwr=>∃(k:Nat)(f:U8->Bool),PrAt wr O g p k o/\Chg (λk=>k=g) w wr/\yBr wr w SB f/\clsM (sb p) k true f=.inl (fe,kr)) (λwr=>p.size-atOf wr g);case atStart=>exact⟨k,fs,a8.1,a8.2.1,a8.2.2.1,HM⟩
 case round=>
  clear a8 HM;have⟨k,f,h1,h2,h3,h4⟩:=hrel;have HR:=qH4 h1 h2 h3 h4;have HA:=qH1 (yFp h1);clear h1 h2 h3 h4;go_wp2_with fail;apply (yD6 93 HR.1 hp).mono;rintro e w5 ⟨a4,(⟨hx,rfl,a7⟩|⟨hx,rfl,a7⟩)⟩
  .obtain⟨rfl,rfl⟩:f=fe/\k+1=kr:=(yY1 HR.2.2.2).elim (λq=>by simpa using q.2.2) (λq=>absurd ⟨hx,rfl⟩ q.1)
   have HF:=qH3 a7 (HR.2.1.trans a4) (yA.i HR.2.2.1 a4 qo);clear a4 hx a7 HR HA;have a1:=(AO yDb).2;cases ng
   .have h0:=yBr.heap HF.2.2;go_upto_region 7 with fail;apply AN;refine AP rfl 358 _ rfl SB rfl 358 (setA f) (0,0) _ h0 underlying358 rfl (by rw[yAh];exact a1) ?_;simp only[AX,AL,AB,AG,AF];refine yA5 rfl _ _ rfl (setA f) (by simp[AL];exact yKd _ (yAh f)) ?_;simp only[AX,AL,AB,AG,AF];clear h0;go_wp2_with fail;go_ret;exact⟨by rw[HE.out];rfl,HF.1,HF.2.1⟩
   .have h0:=yBr.heap HF.2.2;go_upto_region 6 with fail;apply AN;refine AP rfl 358 _ rfl SB rfl 358 (setA f) (0,0) _ h0 underlying358 rfl (by rw[yAh];exact a1) ?_;simp only[AX,AL,AB,AG,AF];refine yC0 rfl 263 #[.agg (setA f)] (by simp[execOp,go_sem,AL,func263]) ?_;apply (yG4 f w5).mono;rintro e w6 ⟨rfl,aa⟩;simp only[AX,AL,AB,AG,AF];have a3:=qH3 (yA.k HF.1 aa) (HF.2.1.trans (Chg.h aa)) (yA.k HF.2.2 aa);have h6:=yBr.heap a3.2.2;refine Ad rfl 358 _ _ rfl SB (setA (λc=> !f c)) rfl rfl 358 (setA f) h6 (by rw[yAh];exact a1) (by rw[yAh,yAh]) (yFu _) ?_;have h7:=Ak _ _ _ (setA (λc=> !f c)) _ _ h6;have⟨W7,a0⟩:=qE (w6.setRow SB (setA (λc=> !f c)));have a2:Hid (PrAt W7 O g p (k+1) o/\Chg (λk=>k=g) w W7):=by have hc:=yH4 w6 SB (setA (λc=> !f c));rw[a0];exact⟨yA.i a3.1 hc qo,a3.2.1.absorb hc (λj q=>.inr qo)⟩
    rw[<-a0]at h7|-;clear a0 h6 h0 aa;apply Ao;go_upto_region 7 with fail;apply AN;refine AP rfl 358 _ rfl SB rfl 358 (setA (λc=> !f c)) (0,0) _ h7 underlying358 rfl (by rw[yAh];exact a1) ?_;simp only[AX,AL,AB,AG,AF];refine yA5 rfl _ _ rfl (setA (λc=> !f c)) (by simp[AL];exact yKd _ (yAh _)) ?_;simp only[AX,AL,AB,AG,AF];clear h7;go_wp2_with fail;go_ret;exact⟨by rw[HE.out];rfl,a2.1,a2.2⟩
  .obtain⟨a,b,k6,a6,ck⟩:=(yY1 HR.2.2.2).elim (λq=>absurd q.1 hx) (λq=>q.2);have HF:=qH3 a7 (HR.2.1.trans a4) (yA.i HR.2.2.1 a4 qo);have HM:=qH1 ck;clear a4 hx a7 HR ck;have a1:=(AO yDb).2;have h0:=yBr.heap HF.2.2;go_upto_region 4 with fail;apply AN;apply yH9 rfl _ rfl;refine AP rfl 358 _ rfl SB rfl 358 (setA f) (0,0) _ h0 underlying358 rfl (by rw[yAh];exact a1) ?_;simp only[AX,AL,AB,AG,AF];refine yC0 rfl 267 #[xp g,.agg (setA f)] (by simp[execOp,go_sem,AL,func267]) ?_;apply (yPb f HF.1 hp a6).mono;rintro e w6 ⟨rfl,aj,ab⟩
   have a3:=qH3 aj (HF.2.1.trans ab) (yA.i HF.2.2 ab qo);have ai:=yFy a6;rw[yAe]at ai
   clear ab a6 aj h0 HF;simp only[AX,AL,AB,AG,AF];have h6:=yBr.heap a3.2.2;refine Ad rfl 358 _ _ rfl SB (setA (wider f a b)) rfl rfl 358 (setA f) h6 (by rw[yAh];exact a1) (by rw[yAh,yAh]) (yFu _) ?_;have h7:=Ak _ _ _ (setA (wider f a b)) _ _ h6;have⟨W7,a0⟩:=qE (w6.setRow SB (setA (wider f a b)));have a2:Hid (PrAt W7 O g p k6 o/\Chg (λk=>k=g) w W7/\yBr W7 w SB (wider f a b)):=by
    have hc:=yH4 w6 SB (setA (wider f a b));rw[<-a0]at h7;refine⟨?_,?_,yA.ofHeap h7 ar (yAh _)⟩
    .rw[a0];exact yA.i a3.1 hc qo
    .rw[a0];exact a3.2.1.absorb hc (λj q=>.inr qo)
   rw[<-a0];clear a0 h6 h7;apply Ao;go_wp2_with fail;go_roundw;case rel=>
    exact⟨_,_,_,_,_,_,⟨k6,wider f a b,a2.1,a2.2.1,a2.2.2,HM⟩,rfl⟩
   case measure=>rw[HA,yFp a2.1];omega
def cut(p:List U8)(i k:Nat):List U8:=(p.drop i).take (k-i)
theorem yDm(p:List U8)(i:Nat):cut p i i= []:=by simp[cut]
theorem yAx{i k:Nat}(h:k<=p.length):(cut p i k).length=k-i:=by simp[cut];omega
theorem yBq{i k:Nat}(h1:i<=j)(h2:j<=k):cut p i k=cut p i j++cut p j k:=by
 unfold cut;have:k-i=(j-i)+(k-j):=qo
 rw[this,take_add,drop_drop];congr 3;omega
theorem yCb{i:Nat}(h:p[i]?=some c):cut p i (i+1)= [c]:=by have hi:=yAq h;unfold cut;rw[drop_eq_getElem_cons hi,Nat.add_sub_cancel_left,yCj h];simp
abbrev yB3(c:U8):Prop:=yGl c\/c=40\/c=91\/c=46\/c=92
def RepG(A:List U8->Pat->Prop)(xs:List U8)(t:Pat):Prop:=
 ∃(ys ops:List U8)(a:Pat),xs=ys++ops/\A ys a/\(∀c∈ops,isOp c)/\t=(if ops= []then a else .rep a (ops.any (· != 43)) (ops.any (· != 63)))
def SeqG(A:List U8->Pat->Prop):List Pat->List U8->Prop
 | [],xs=>xs= []
 |t::ts,xs=>∃ys zs,xs=ys++zs/\RepG A ys t/\SeqG A ts zs
def AltG(A:List U8->Pat->Prop):List (List Pat)->List U8->Prop
 | [],xs=>False
 | [ts],xs=>SeqG A ts xs
 |ts::os,xs=>∃ys zs,xs=ys++124::zs/\SeqG A ts ys/\AltG A os zs
def yAn:Nat->List U8->Pat->Prop
 |0,_,_=>False
 |n+1,xs,t=>(∃c,xs= [c]/\¬yB3 c/\t=.byte c)\/(xs= [46]/\t=.cls (λ_=>true))\/(∃c,xs= [92,c]/\t=.byte c)\/
   (∃ys os,xs=40::ys++ [41]/\AltG (yAn n) os ys/\t=.alt os)\/(∃p i k f,p[i]?=some 91/\yAt p (i+1)=.inl (f,k)/\xs=cut p i k/\t=.cls f)
variable {A B:List U8->Pat->Prop}
theorem RepG.mono(h:∀xs t,A xs t->B xs t){xs:List U8}{t:Pat}:RepG A xs t->RepG B xs t:=fun⟨ys,ops,a,h1,h2,h3,h4⟩=>⟨ys,ops,a,h1,h _ _ h2,h3,h4⟩
theorem SeqG.mono(h:∀xs t,A xs t->B xs t):∀{ts:List Pat}{xs:List U8},SeqG A ts xs->SeqG B ts xs
 | [],_,q=>q
 |_::_,_,⟨ys,zs,h1,h2,h3⟩=>⟨ys,zs,h1,h2.mono h,SeqG.mono h h3⟩
theorem AltG.mono(h:∀xs t,A xs t->B xs t):∀{os:List (List Pat)}{xs:List U8},AltG A os xs->AltG B os xs
 | [],_,q=>q
 | [_],_,q=>SeqG.mono h q
 |_::_::_,_,⟨ys,zs,h1,h2,h3⟩=>⟨ys,zs,h1,h2.mono h,AltG.mono h h3⟩
theorem yAn.mono:∀{n m:Nat}{xs:List U8}{t:Pat},n<=m->yAn n xs t->yAn m xs t
 |0,_,_,_,_,h=>h.elim
 |n+1,0,_,_,hm,_=>qo
 |n+1,m+1,xs,t,hm,h=>by
  rcases h with h|h|h|⟨ys,os,h1,h2,h3⟩|h
  .exact .inl h
  .exact .inr (.inl h)
  .exact .inr (.inr (.inl h))
  .exact .inr (.inr (.inr (.inl ⟨ys,os,h1,h2.mono (λ_ _ q=>yAn.mono qo q),h3⟩)))
  .exact .inr (.inr (.inr (.inr h)))
theorem SeqG.snoc:∀{ts:List Pat}{xs ys:List U8}{t:Pat},SeqG A ts xs->RepG A ys t->SeqG A (ts++ [t]) (xs++ys)
 | [],xs,ys,t,h,k=>by subst h;exact⟨ys,[],by simp,k,rfl⟩
 |s::ts,xs,ys,t,⟨us,vs,h1,h2,h3⟩,k=>⟨us,vs++ys,by rw[h1];simp,h2,SeqG.snoc h3 k⟩
theorem AltG.snoc:∀{os:List (List Pat)}{xs ys:List U8}{ts:List Pat},AltG A os xs->SeqG A ts ys->AltG A (os++ [ts]) (xs++124::ys)
 | [],_,_,_,h,_=>h.elim
 | [s],xs,ys,ts,h,k=>⟨xs,ys,rfl,h,k⟩
 |s::o::os,xs,ys,ts,⟨us,vs,h1,h2,h3⟩,k=>⟨us,vs++124::ys,by rw[h1];simp,h2,AltG.snoc h3 k⟩
structure yBx(p:List U8)(o i k:Nat)(t:Pat):Prop where
 lt:i<k
 le:k<=p.length
 chk:∀a,chkM p i o a=chkM p k o true
 gr:∃n,yAn n (cut p i k) t
structure ySg(p:List U8)(o i k:Nat)(t:Pat):Prop where
 lt:i<k
 le:k<=p.length
 chk:∀a,chkM p i o a=chkM p k o true
 next:∀c,p[k]?=some c->¬isOp c
 gr:∃n,RepG (yAn n) (cut p i k) t
structure yKj(p:List U8)(o i k:Nat)(ts:List Pat):Prop where
 lei:i<=k
 le:k<=p.length
 chk:chkM p i o false=chkM p k o false
 gr:∃n,SeqG (yAn n) ts (cut p i k)
structure yE8(p:List U8)(o i k:Nat)(os:List (List Pat)):Prop where
 lei:i<=k
 le:k<=p.length
 chk:chkM p i o false=chkM p k o false
 gr:∃n,AltG (yAn n) os (cut p i k)
theorem yKj.nil{i:Nat}(h:i<=p.length):yKj p o i i []:=⟨AI _,h,rfl,0,yDm p i⟩
variable {ts:List Pat}
theorem yKj.more{i k:Nat}{t:Pat}(h:yKj p o i j ts)(r:ySg p o j k t):yKj p o i k (ts++ [t]):=by
 have⟨n,hn⟩:=h.gr;have⟨m,hm⟩:=r.gr;refine⟨AU h.lei (Av r.lt),r.le,?_,max n m,?_⟩
 .rw[h.chk,r.chk,yTx r.next]
 .rw[yBq h.lei (Av r.lt)];exact xBu
theorem yE8.one{i k:Nat}(h:yKj p o i k ts):yE8 p o i k [ts]:=⟨h.lei,h.le,h.chk,h.gr⟩
theorem yE8.more{i k:Nat}{os:List (List Pat)}(h:yE8 p o i j os)(hb:p[j]?=some 124)(s:yKj p o (j+1) k ts):yE8 p o i k (os++ [ts]):=by
 have⟨n,hn⟩:=h.gr;have⟨m,hm⟩:=s.gr;have hl:=s.lei;refine⟨AU h.lei (by omega),s.le,?_,max n m,?_⟩
 .rw[h.chk,yJ9 hb,s.chk]
 .rw[yBq h.lei (show j<=k by omega),yBq (show j<=j+1 by omega) hl,yCb hb];exact xBu
variable {os:List (List Pat)}
theorem yBx.group{i:Nat}(h:p[i]?=some 40)(ho:¬o=20)(a:yE8 p (o+1) (i+1) j os)(hj:p[j]?=some 41):yBx p o i (j+1) (.alt os):=by
 have⟨n,hn⟩:=a.gr;have hl:=a.lei;refine⟨by omega,yAq hj,λb=>?_,n+1,.inr (.inr (.inr (.inl ⟨_,os,?_,hn,rfl⟩)))⟩
 .rw[yF1 h,iA ho,a.chk,yEb hj,iA (by omega),Nat.add_sub_cancel]
 .rw[yBq (show i<=i+1 by omega) (show i+1<=j+1 by omega),yCb h,yBq hl (show j<=j+1 by omega),yCb hj];simp
theorem yBx.plain{i:Nat}(h:p[i]?=some c)(hc:¬yB3 c):yBx p o i (i+1) (.byte c):=by refine⟨qo,yAq h,λa=>yFm h (λq=>hc (.inl q)) (λq=>hc (.inr (.inl q))) (λq=>hc (.inr (.inr (.inl q)))) (λq=>hc (.inr (.inr (.inr (.inr q))))),1,.inl ⟨c,yCb h,hc,rfl⟩⟩
theorem yBx.dot{i:Nat}(h:p[i]?=some 46):yBx p o i (i+1) (.cls (λ_=>true)):=by refine⟨qo,yAq h,λa=>yFm h qj qj qj qj,1,.inr (.inl ⟨yCb h,rfl⟩)⟩
theorem yBx.esc{i:Nat}(h:p[i]?=some 92)(hc:p[i+1]?=some c):yBx p o i (i+1+1) (.byte c):=by have hl:=yAq hc;refine⟨by omega,hl,λa=>by rw[yH3 h,iA (by omega)],1,.inr (.inr (.inl ⟨c,?_,rfl⟩))⟩;rw[yBq (show i<=i+1 by omega) (show i+1<=i+1+1 by omega),yCb h,yCb hc];rfl
theorem yBx.class{i k:Nat}(h:p[i]?=some 91)(hc:yAt p (i+1)=.inl (f,k)):yBx p o i k (.cls f):=by have hl:=yBe hc;exact⟨qo,hl.2,λa=>by rw[yEc h,hc],1,.inr (.inr (.inr (.inr ⟨p,i,k,f,h,hc,rfl,rfl⟩)))⟩
structure yLe(p:List U8)(o i j k:Nat)(a:Pat)(op rp:Bool):Prop where
 atom:yBx p o i j a
 lt:j<=k
 le:k<=p.length
 chk:chkM p j o true=chkM p k o true
 ops:∀c∈cut p j k,isOp c
 opt:op=(cut p j k).any (· != 43)
 rpt:rp=(cut p j k).any (· != 63)
variable {a:Pat}
theorem yLe.zero{i:Nat}(h:yBx p o i j a):yLe p o i j j a false false:=
 ⟨h,AI _,h.le,rfl,by rw[yDm];simp,by rw[yDm];rfl,by rw[yDm];rfl⟩
theorem yLe.more{i k:Nat}{op rp:Bool}{c:U8}(h:yLe p o i j k a op rp)(hc:p[k]?=some c)(hop:isOp c):yLe p o i j (k+1) a (op || c != 43) (rp || c != 63):=by
 have a0:cut p j (k+1)=cut p j k++ [c]:=by rw[yBq h.lt (show k<=k+1 by omega),yCb hc]
 refine⟨h.atom,qw h.lt,yAq hc,?_,?_,?_,?_⟩
 .rw[h.chk,yTw hc hop,iB rfl]
 .rw[a0];intro d hd;rcases List.mem_append.1 hd with hd|hd
  .exact h.ops d hd
  .simp at hd;subst hd;exact hop
 .rw[a0,any_append,<-h.opt];simp
 .rw[a0,any_append,<-h.rpt];simp
theorem yLe.rep{i k:Nat}(h:yLe p o i j k a op rp)(hn:∀c,p[k]?=some c->¬isOp c):ySg p o i k (if j=k then a else .rep a op rp):=by
 have⟨n,hg⟩:=h.atom.gr;have h1:=h.atom.lt;have h2:=h.lt;refine⟨qo,h.le,λb=>by rw[h.atom.chk,h.chk],hn,n,cut p i j,cut p j k,a,yBq qo h2,hg,h.ops,?_⟩;by_cases hjk:j=k
 .subst hjk;rw[iB rfl,iB (yDm p j)]
 .have:¬cut p j k= []:=λq=>by have:=yAx (p:=p) (i:=j) h.le;rw[q]at this;simp at this;omega
  rw[iA hjk,iA this,<-h.opt,<-h.rpt]
variable {q:List U8}
theorem yKa{i k:Nat}(h:chM p i=(c,k,true))(ha:∀t,i+t<k->q[j+t]?=p[i+t]?):chM q j=(c,j+(k-i),true):=by
 have hg:=yFn h;have h0:=ha 0 qo;simp only[An]at h0;unfold chM at h|-;rw[h0];split at h
 .cases h
 .next d hd=>
  split at h
  .cases h
  .next hn=>
   rw[iA hn];split at h
   .next h92=>
    rw[iB h92];split at h
    .cases h
    .next e he=>
     simp only[AA,and_true]at h;obtain⟨rfl,rfl⟩:=h;have h1:=ha 1 qo;rw[h1,he];simp only[AA,and_true,true_and];omega
   .next h92=>
    rw[iA h92];simp only[AA,and_true]at h;obtain⟨rfl,rfl⟩:=h;simp only[AA,and_true,true_and];omega
theorem yRq{i k:Nat}{a b:U8}(h:yCh p i=.inl (a,b,k))(ha:∀t,i+t<=k->q[j+t]?=p[i+t]?):yCh q j=.inl (a,b,j+(k-i)):=by
 unfold yCh at h|-;split at h
 .cases h
 .next lo k1 hk1=>
  have hg:=yFn hk1;split at h
  .next h45=>
   split at h
   .cases h
   .next hi m hm=>
    have a0:=yFn hm;split at h
    .cases h
    .next hle=>
     simp only[AD,AA]at h;obtain⟨rfl,rfl,rfl⟩:=h;have e1:=yKa (q:=q) (j:=j) hk1 (λt ht=>ha t (by omega));have e2:q[j+(k1-i)]?=some 45:=by rw[ha (k1-i) (by omega),show i+(k1-i)=k1 by omega];exact h45
     have e3:=yKa (q:=q) (j:=j+(k1-i)+1) hm (λt ht=>by have:=ha (k1-i+1+t) qo;rw[show j+(k1-i)+1+t=j+(k1-i+1+t)by omega,this];congr 1;omega);rw[e1];simp only[];rw[iB e2,e3];simp only[];rw[iA hle];exact xCs
  .next h45=>
   simp only[AD,AA]at h;obtain⟨rfl,rfl,rfl⟩:=h;have e1:=yKa (q:=q) (j:=j) hk1 (λt ht=>ha t (by omega));have e2:¬q[j+(k1-i)]?=some 45:=by rw[ha (k1-i) (by omega),show i+(k1-i)=k1 by omega];exact h45
   rw[e1];simp only[];rw[iA e2]
theorem yH2:∀(n:Nat){p q:List U8}{i j k:Nat}{b:Bool}{f g:U8->Bool},p.length-i<=n->clsM p i b f=.inl (g,k)->(∀t,i+t<k->q[j+t]?=p[i+t]?)->clsM q j b f=.inl (g,j+(k-i))
 |n,p,q,i,j,k,b,f,g,hn,h,ha=>by
  have hg:=yH1 _ qr h
  have h0:=ha 0 (by omega)
  simp only[An]at h0
  rw[clsM]at h
  split at h
  .next hi=>
   have hj:j<q.length:=by rw[AW hi]at h0;exact yAq h0
   rw[clsM,dif_pos hj,h0]
   split at h
   .next he=>
    rw[iB he];simp only[AD,AA]at h;obtain⟨rfl,rfl⟩:=h;simp only[AD,AA,true_and];omega
   .next he=>
    rw[iA he];split at h
    .cases h
    .next a b' k' hk=>
     have h1:=yFy hk;have h2:=yH1 _ qr h;have e1:=yRq (q:=q) (j:=j) hk (λt ht=>ha t (by omega));match n,hn with
     |0,hn=>omega
     |n+1,hn=>
      have e2:=yH2 n (q:=q) (j:=j+(k'-i)) (by omega) h (λt ht=>by have:=ha (k'-i+t) (by omega);rw[show j+(k'-i)+t=j+(k'-i+t)by omega,this];congr 1;omega);split
      .next e hh=>rw[e1]at hh;cases hh
      .next a2 b2 k2 hh=>
       rw[e1]at hh;simp only[AD,AA]at hh;obtain⟨rfl,rfl,rfl⟩:=hh;rw[e2];simp only[AD,AA,true_and];omega
  .cases h
theorem yFl{i k:Nat}{g:U8->Bool}(h:yAt p i=.inl (g,k))(ha:∀t,i+t<k->q[j+t]?=p[i+t]?):yAt q j=.inl (g,j+(k-i)):=by
 have hg:=yBe h;have h0:=ha 0 (by omega);simp only[An]at h0;unfold yAt at h|-;rw[h0];split at h
 .next h94=>
  rw[iB h94];split at h
  .next f k' hc=>
   have a0:=yH1 _ qr hc;simp only[AD,AA]at h;obtain⟨rfl,rfl⟩:=h;have e:=yH2 _ qr (q:=q) (j:=j+1) hc (λt ht=>by have:=ha (1+t) (by omega);rw[show j+1+t=j+(1+t)by omega,this];congr 1;omega);rw[e];exact xCs
  .cases h
 .next h94=>
  rw[iA h94];exact yH2 _ qr h ha
abbrev ub(x:U8):Vv:=.int .u8 (x.toNat:Int)
def xBm(w:Ww)(b off:Nat)(xs:List U8):Prop:=∀i x,xs[i]?=some x->(xk w b (off+i) (ub x):Prop)
end Go.Proofs.YtnnagkfoiganfaaGreatDoor
