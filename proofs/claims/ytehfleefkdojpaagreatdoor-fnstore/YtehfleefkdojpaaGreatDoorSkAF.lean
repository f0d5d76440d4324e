import Derived.Test.YtehfleefkdojpaaGreatDoorSkAD
import Derived.Test.YtehfleefkdojpaaGreatDoorSkAC
import Derived.Test.YtehfleefkdojpaaGreatDoorSkAB
namespace Go.Proofs.YtehfleefkdojpaaGreatDoor
open _root_.List _root_.Nat Go.ChangeShapes Go.WideShapes Go.ChangeAt Go.RowKit Go.Deep Go.Maps Go.Proofs.Tryz
set_option linter.unusedVariables false
set_option linter.unusedSimpArgs false
set_option maxRecDepth 100000
set_option maxHeartbeats 16000000
variable {S:Nat->Prop} {w w':World}
theorem Rm.at.chg{r:Rm}(h:r.at w)(hb:Chg S w w')(hn:¬S r.b):r.at w':=⟨h.ents.chg hb h.lt hn,by have:=hb.size;have:=h.lt;omega,h.len,h.cap⟩
abbrev sb(s:ByteArray):List UInt8:=s.data.toList
theorem yA9(s:ByteArray):(sb s).length=s.size:=by simp[sb]
variable {i:Nat}
theorem yF7{s:ByteArray}{x:UInt8}(h:(sb s)[i]?=some x):∃hi:i<s.size,s[i]=x:=by have hi:=(List.getElem?_eq_some_iff.1 h).1;rw[yA9]at hi;refine⟨hi,?_⟩;rw[getElem?_eq_getElem (by rw[yA9];exact hi)]at h;exact Option.some.inj h
variable {p:List UInt8}
theorem yVo(h:p[i]?=none):chM p i=(0,i,false):=by unfold chM;rw[h]
theorem yVn(h:p[i]?=some 92):chM p i=match p[i+1]? with|none=>(0,i+1,false)|some d=>(d,i+2,true):=by unfold chM;rw[h];rfl
def wider(f:UInt8->Bool)(a b:UInt8):UInt8->Bool:=λc=>f c || (decide (a<=c) && decide (c<=b))
variable {w1:World}
theorem Chg.absorb{T:Nat->Prop}{w2:World}(h:Chg S w w1)(k:Chg T w1 w2)(hT:∀j,T j->S j\/w.heap.size<=j):Chg S w w2:=
 ⟨k.os.trans h.os,k.tape.trans h.tape,k.output.trans h.output,Nat.le_trans h.size k.size,λi hi hn=>(k.block i (Nat.lt_of_lt_of_le hi h.size) (λq=>by rcases hT i q with q|q;exact hn q;omega)).trans (h.block i hi hn)⟩
variable {j:Nat} {f:UInt8->Bool}
theorem yVj(hj:j<=p.length):clsM p j false f=match yE p j with| .inr e=>.inr e| .inl (a,b,k)=>clsM p k true (wider f a b):=by
 by_cases h:j<p.length
 .rw[clsM,dif_pos h,if_neg (by simp)];split<;>(next hc=>(rw[hc];first|done|rfl))
 .rw[clsM,dif_neg h];exact yZ3
theorem yRa(h:p[j]?=some 93):clsM p j true f=.inl (f,j+1):=by rw[clsM,dif_pos (yCn h),if_pos ⟨h,rfl⟩]
theorem yW7(hj:j<=p.length)(h:¬p[j]?=some 93):clsM p j true f=match yE p j with| .inr e=>.inr e| .inl (a,b,k)=>clsM p k true (wider f a b):=by
 by_cases h1:j<p.length
 .rw[clsM,dif_pos h1,if_neg (λq=>h q.1)];split<;>(next hc=>(rw[hc];first|done|rfl))
 .rw[clsM,dif_neg h1];exact yZ3
def yEa(p:List UInt8)(i:Nat)(ng:Bool)(k:Nat)(b:Bool)(f:UInt8->Bool):Prop:=yBc p i=(match clsM p k b f with| .inl (f,k)=>.inl ((if ng=true then λc=> !f c else f),k)| .inr e=>.inr e)
variable {k:Nat}
theorem yEa.eq{ng:Bool}{b:Bool}(h:yEa p i ng k b f):yBc p i=(match clsM p k b f with| .inl (f,k)=>.inl ((if ng=true then λc=> !f c else f),k)| .inr e=>.inr e):=h
theorem yFp{x c:UInt8}(h:¬x=c):¬(x.toNat:Int)=(c.toNat:Int):=λq=>h (UInt8.toNat_inj.1 (by omega))
theorem yG3(p:ByteArray)(i:Nat)(w:World)(hp:p.size<=200)(hi:i<=300)(c:UInt8)(k:Nat)(b:Bool)(h:chM (sb p) i=(c,k,b)):
  Calls prog 217 #[.string p,.int .i64 (i:Int)] w λe w'=>e=.returned (.tuple #[.int .u8 (c.toNat:Int),.int .i64 (k:Int),.bool b])/\w'=w:=by
 have HM:Hid (chM (sb p) i=(c,k,b)):=h;clear h;by_cases hlt:i<p.size
 .obtain⟨x,hx⟩:∃x,(sb p)[i]?=some x:=⟨_,getElem?_eq_getElem (by rw[yA9];exact hlt)⟩;obtain⟨_,gx⟩:=yF7 hx;have z1:(i:Int)<(p.size:Int):=by omega
  have a3:¬p.size<=i:=by omega
  have HX:Hid ((sb p)[i]?=some x):=hx;clear hx;by_cases hend:x=93\/x=45
  .have HF:c=0/\k=i/\b=false:=by
    have h1:chM (sb p) i=(0,i,false):=by unfold chM;rw[HX.out];simp only[];rw[if_pos hend]
    rw[HM.out]at h1;simpa using h1
   obtain⟨rfl,rfl,rfl⟩:=HF;rcases hend with rfl|rfl;all_goals go_enter func217,ntmps217
   all_goals go_wp2_with fail
   all_goals refine bodyPost_ret (v:=.tuple #[.int .u8 0,.int .i64 (k:Int),.bool false]) (by simp[results,results217,go_sem]) rfl ⟨rfl,rfl⟩
  have a4:((x.toNat:Int)==93)=false:=beq_eq_false_iff_ne.2 (yFp (c:=93) (λq=>hend (.inl q)));have a5:((x.toNat:Int)==45)=false:=beq_eq_false_iff_ne.2 (yFp (c:=45) (λq=>hend (.inr q)));by_cases h92:x=92
  .subst h92;by_cases hl2:i+1<p.size
   .obtain⟨y,hy⟩:∃y,(sb p)[i+1]?=some y:=⟨_,getElem?_eq_getElem (by rw[yA9];exact hl2)⟩;obtain⟨_,gy⟩:=yF7 hy;have HF:c=y/\k=i+2/\b=true:=by
     have h1:chM (sb p) i=(y,i+2,true):=by rw[yVn HX.out,hy]
     rw[HM.out]at h1;simpa using h1
    obtain⟨rfl,rfl,rfl⟩:=HF;have z2:(i:Int)+1<(p.size:Int):=by omega
    clear hy;go_enter func217,ntmps217;go_wp2_with fail;refine bodyPost_ret (v:=.tuple #[.int .u8 (c.toNat:Int),.int .i64 ((i+2:Nat):Int),.bool true]) (by simp[results,results217,go_sem]) rfl ⟨rfl,rfl⟩
   .have HF:c=0/\k=i+1/\b=false:=by
     have h1:chM (sb p) i=(0,i+1,false):=by rw[yVn HX.out,getElem?_eq_none (by rw[yA9];omega)]
     rw[HM.out]at h1;simpa using h1
    obtain⟨rfl,rfl,rfl⟩:=HF;have z2:¬(i:Int)+1<(p.size:Int):=by omega
    go_enter func217,ntmps217;go_wp2_with fail;refine bodyPost_ret (v:=.tuple #[.int .u8 0,.int .i64 ((i+1:Nat):Int),.bool false]) (by simp[results,results217,go_sem]) rfl ⟨rfl,rfl⟩
  .have a0:((x.toNat:Int)==92)=false:=beq_eq_false_iff_ne.2 (yFp (c:=92) h92);have HF:c=x/\k=i+1/\b=true:=by
    have h1:chM (sb p) i=(x,i+1,true):=by unfold chM;rw[HX.out];simp only[];rw[if_neg hend,if_neg h92]
    rw[HM.out]at h1;simpa using h1
   obtain⟨rfl,rfl,rfl⟩:=HF;go_enter func217,ntmps217;go_wp2_with fail;refine bodyPost_ret (v:=.tuple #[.int .u8 (c.toNat:Int),.int .i64 ((i+1:Nat):Int),.bool true]) (by simp[results,results217,go_sem]) rfl ⟨rfl,rfl⟩
 .have HF:c=0/\k=i/\b=false:=by have h1:chM (sb p) i=(0,i,false):=yVo (getElem?_eq_none (by rw[yA9];omega));rw[HM.out]at h1;simpa using h1
  obtain⟨rfl,rfl,rfl⟩:=HF;have z1:¬(k:Int)<(p.size:Int):=by omega
  have z2:(p.size:Int)<=(k:Int):=by omega
  go_enter func217,ntmps217;go_wp2_with fail;refine bodyPost_ret (v:=.tuple #[.int .u8 0,.int .i64 (k:Int),.bool false]) (by simp[results,results217,go_sem]) rfl ⟨rfl,rfl⟩
theorem yUo(c:UInt8)(w:World):Calls prog 168 #[.int .u8 (c.toNat:Int)] w λe w'=>e=.returned (.bool (decide (isOp c)))/\w'=w:=by
 by_cases h42:c=42
 .subst h42;exact yXr
 by_cases h43:c=43
 .subst h43;exact yXr
 by_cases h63:c=63
 .subst h63;exact yXr
 have z1:((c.toNat:Int)==42)=false:=beq_eq_false_iff_ne.2 (yFp (c:=42) h42);have z2:((c.toNat:Int)==43)=false:=beq_eq_false_iff_ne.2 (yFp (c:=43) h43);have z3:((c.toNat:Int)==63)=false:=beq_eq_false_iff_ne.2 (yFp (c:=63) h63);have H:Hid (decide (isOp c)=false):=decide_eq_false (λq=>q.elim h42 (λq=>q.elim h43 h63));go_enter func168,ntmps168;go_wp2_with fail;go_ret;exact⟨by rw[H.out];(first|rfl|simp[z3]),rfl⟩
theorem yXm{b:Bool}(hj:j<=p.length)(h:¬(p[j]?=some 93/\b=true)):clsM p j b f=match yE p j with| .inr e=>.inr e| .inl (a,b,k)=>clsM p k true (wider f a b):=by
 cases b
 .exact yVj hj
 .exact yW7 hj (λq=>h ⟨q,rfl⟩)
def xCm(p:ByteArray)(i:Nat)(e:Ending):Prop:=
 (∃f k,yBc (sb p) i=.inl (f,k)/\e=.returned (.tuple #[.int .i64 (k:Int),.agg #[.int .i64 0,.int .i64 0]]))\/(∃c k,yBc (sb p) i=.inr (c,k)/\e=.returned (.tuple #[.int .i64 0,.agg #[.int .i64 c,.int .i64 (k:Int)]]))
variable {base rb:Nat} {a:Act}
theorem yB4{x y z:Value}(hx:a.tmps.getD 4 undef=x)(ht:a.tmps.getD 5 undef=.pointer (some ⟨rb,0,none⟩))(he:yA w base 168 2 rb [y,z]):
  (results Tryz.f169 a.tmps).run prog w=.ok (.tuple #[x,.agg #[y,z]]) w:=by
 obtain⟨q0,q1⟩:=he.c2;have h1:a.tmps[4]?.getD undef=x:=by rw[<-Array.getD_eq_getD_getElem?];exact hx
 have h2:a.tmps[5]?.getD undef=.pointer (some ⟨rb,0,none⟩):=by rw[<-Array.getD_eq_getD_getElem?];exact ht
 simp[results,results169,go_sem,h1,h2,q0,q1]
theorem yN5(p:ByteArray)(i:Nat)(w:World)(hp:p.size<=200)(hi:i<p.size):
  Calls prog 169 #[.string p,.int .i64 (i:Int)] w λe w'=>xCm p (i+1) e/\Below w.heap.size w w':=by
 obtain⟨W0,a4⟩:=qE (w.alloc (Obj.cells #[.int .i64 0,.int .i64 0] 168):World);have a3:Hid (yA W0 w.heap.size 168 2 w.heap.size [.int .i64 0,.int .i64 0]/\Below w.heap.size w W0):=by rw[a4];exact⟨yAa w _ (Nat.le_refl _) rfl,qB⟩
 have HS:Hid (∀a b:Value,yA ((W0.setCell ⟨w.heap.size,0,none⟩ a).setCell ⟨w.heap.size,1,none⟩ b) w.heap.size 168 2 w.heap.size [a,b]/\Below w.heap.size w ((W0.setCell ⟨w.heap.size,0,none⟩ a).setCell ⟨w.heap.size,1,none⟩ b)):=λa b=>⟨(a3.1.set 0 a).set 1 b,yBb (yBb a3.2 (Nat.le_refl _) 0 _) (Nat.le_refl _) 1 _⟩;obtain⟨r0,r1⟩:=a3.1.c2;obtain⟨f0,f1⟩:=a3.1.f2;clear a3;obtain⟨ng,j0,a6,hj0,a5⟩:∃(ng:Bool)(j0:Nat),j0=(if ng=true then i+2 else i+1)/\j0<=p.size/\(yEa (sb p) (i+1) ng j0 false (λ_=>false)/\(ng=true↔(sb p)[i+1]?=some 94)):=by
  by_cases hx:(sb p)[i+1]?=some 94
  .refine⟨true,i+2,rfl,by have:=yCn hx;rw[yA9]at this;omega,?_,⟨λ_=>hx,λ_=>rfl⟩⟩;unfold yEa yBc;rw[if_pos hx];rfl
  .refine⟨false,i+1,rfl,by omega,?_,⟨λq=>(by cases q),λq=>absurd q hx⟩⟩;unfold yEa yBc;rw[if_neg hx];generalize clsM (sb p) (i+1) false (λ_=>false)=r;cases r<;>rfl
 have HM0:Hid (yEa (sb p) (i+1) ng j0 false (λ_=>false)):=a5.1;have HNG:Hid (ng=true↔(sb p)[i+1]?=some 94):=a5.2;have HJ0:Hid (j0=if ng=true then i+2 else i+1):=a6;clear a5 a6;go_enter func169,ntmps169;go_upto_region 1 with fail;rw[<-a4];clear a4;by_cases hi1:i+1<p.size
 .obtain⟨x0,a0⟩:∃x,(sb p)[i+1]?=some x:=⟨_,getElem?_eq_getElem (by rw[yA9];exact hi1)⟩;obtain⟨_,aa⟩:=yF7 a0;have a7:(i:Int)+1<(p.size:Int):=by omega
  cases ng
  .have a9:((x0.toNat:Int)==94)=false:=beq_eq_false_iff_ne.2 (yFp (c:=94) (λq=>by have h1:=HNG.2 (by rw[a0,q]);cases h1));clear a0;exact zzQ2
  .have a8:x0=94:=by have h1:=HNG.1 rfl;rw[a0]at h1;exact Option.some.inj h1
   subst a8;clear a0;go_wp2_with fail;go_loopw[6,7] (λjv nv wr=>∃(j n:Nat)(f:UInt8->Bool),j<=p.size/\n<=j/\jv=.int .i64 (j:Int)/\nv=.int .i64 (n:Int)/\yEa (sb p) (i+1) true j (decide (0<n)) f/\wr=W0) (λjv _ _=>p.size-(intOf jv).toNat);case atStart=>exact⟨j0,0,λ_=>false,hj0,zero_le _,congrArg (Value.int .i64) (by rw[HJ0.out];simp<;>omega),rfl,HM0.out,rfl⟩
   case round=>
    obtain⟨j,n,f,hj,hnj,rfl,rfl,hE,hwr⟩:=hrel;have HE:Hid (yEa (sb p) (i+1) true j (decide (0<n)) f):=hE;rw[hwr];clear hE hwr HM0 HJ0 HNG;by_cases hlt:j<p.size
    .obtain⟨x,hx⟩:∃x,(sb p)[j]?=some x:=⟨_,getElem?_eq_getElem (by rw[yA9];exact hlt)⟩;obtain⟨_,gx⟩:=yF7 hx;have HX:Hid ((sb p)[j]?=some x):=hx;have zj:(j:Int)<(p.size:Int):=by omega
     clear hx;by_cases hend:x=93/\0<n
     .obtain⟨rfl,hn0⟩:=hend;have zn:(0:Int)<(n:Int):=by omega
      have HF:Hid (∃f',yBc (sb p) (i+1)=.inl (f',j+1)):=by refine⟨if true=true then λc=> !f c else f,?_⟩;rw[HE.eq,decide_eq_true hn0,yRa HX.out]
      obtain⟨f',hf'⟩:=HF.out;have HF':Hid (yBc (sb p) (i+1)=.inl (f',j+1)):=hf';clear hf' HF;go_wp2_with fail;exact bodyPost_ret (v:=.tuple #[.int .i64 ((j+1:Nat):Int),.agg #[.int .i64 0,.int .i64 0]]) (yB4 rfl rfl (HS.out (.int .i64 0) (.int .i64 0)).1) rfl ⟨.inl ⟨f',j+1,HF'.out,rfl⟩,(HS.out (.int .i64 0) (.int .i64 0)).2⟩
     .have HG:Hid (clsM (sb p) j (decide (0<n)) f=match yE (sb p) j with| .inr e=>.inr e| .inl (a,b,k)=>clsM (sb p) k true (wider f a b)):=yXm (by rw[yA9];omega) (λq=>hend ⟨by have h1:=q.1;rw[HX.out]at h1;exact Option.some.inj h1,by simpa using q.2⟩);obtain⟨lo,k,b,hch⟩:∃lo k b,chM (sb p) j=(lo,k,b):=⟨_,_,_,rfl⟩;have HCh:Hid (chM (sb p) j=(lo,k,b)):=hch;have hkl:b=true->k<=p.size/\j<k:=λq=>by subst q;have:=yLk hch;rw[yA9]at this;omega
      clear hch;have hpick:((x.toNat:Int)==93)=false\/(¬(0:Int)<(n:Int)):=by
       by_cases h93:x=93
       .exact .inr (λq=>hend ⟨h93,by omega⟩)
       .exact .inl (beq_eq_false_iff_ne.2 (yFp (c:=93) h93))
      clear hend;have hpk:(((x.toNat:Int)==93)=false)\/(((x.toNat:Int)==93)=true/\n=0):=by
       rcases hpick with q|q
       .exact .inl q
       .cases hq:((x.toNat:Int)==93)
        .exact .inl rfl
        .exact .inr ⟨rfl,by omega⟩
      clear hpick;rcases hpk with h93|⟨h93,hn0⟩;case' inr=>
       have zn:¬(0:Int)<(n:Int):=by omega
       clear hn0
      all_goals
       go_wp2_with fail
       refine(yG3 p j W0 hp (by omega) lo k b HCh.out).mono ?_
       rintro e w1 ⟨rfl,hw1⟩
       rw[hw1]
       clear hw1
       cases b
       case false=>
        have HF:Hid (yBc (sb p) (i+1)=.inr (2,k)):=by show yBc (sb p) (i+1)=_;rw[HE.eq,HG.out];unfold yE;rw[HCh.out]
        go_wp2_with fail;exact bodyPost_ret (v:=.tuple #[.int .i64 0,.agg #[.int .i64 2,.int .i64 (k:Int)]]) (yB4 rfl rfl (HS.out (.int .i64 2) (.int .i64 (k:Int))).1) rfl ⟨.inr ⟨2,k,HF.out,rfl⟩,(HS.out (.int .i64 2) (.int .i64 (k:Int))).2⟩
       obtain⟨hks,hjk⟩:=hkl rfl
       clear hkl
       by_cases h45:(sb p)[k]?=some 45
       .obtain⟨hk2,gk⟩:=yF7 h45;have HK:Hid ((sb p)[k]?=some 45):=h45;have zk:(k:Int)<(p.size:Int):=by omega
        obtain⟨hh,m,b2,hch2⟩:∃hh m b2,chM (sb p) (k+1)=(hh,m,b2):=⟨_,_,_,rfl⟩;have HCh2:Hid (chM (sb p) (k+1)=(hh,m,b2)):=hch2;have hml:b2=true->m<=p.size/\k<m:=λq=>by subst q;have:=yLk hch2;rw[yA9]at this;omega
        clear hch2 h45;go_wp2_with fail;refine(yG3 p (k+1) W0 hp (by omega) hh m b2 HCh2.out).mono ?_;rintro e w2 ⟨rfl,hw2⟩;rw[hw2];clear hw2;cases b2
        .have HF:Hid (yBc (sb p) (i+1)=.inr (2,m)):=by show yBc (sb p) (i+1)=_;rw[HE.eq,HG.out];unfold yE;rw[HCh.out];simp only[];rw[if_pos HK.out,HCh2.out]
         go_wp2_with fail;exact bodyPost_ret (v:=.tuple #[.int .i64 0,.agg #[.int .i64 2,.int .i64 (m:Int)]]) (yB4 rfl rfl (HS.out (.int .i64 2) (.int .i64 (m:Int))).1) rfl ⟨.inr ⟨2,m,HF.out,rfl⟩,(HS.out (.int .i64 2) (.int .i64 (m:Int))).2⟩
        .obtain⟨hms,hkm⟩:=hml rfl;clear hml;by_cases hlo:hh<lo
         .have zlo:(hh.toNat:Int)<(lo.toNat:Int):=by have:=UInt8.lt_iff_toNat_lt.1 hlo;omega
          have HF:Hid (yBc (sb p) (i+1)=.inr (4,j)):=by show yBc (sb p) (i+1)=_;rw[HE.eq,HG.out];unfold yE;rw[HCh.out];simp only[];rw[if_pos HK.out,HCh2.out];simp only[];rw[if_pos hlo]
          go_wp2_with fail;exact bodyPost_ret (v:=.tuple #[.int .i64 0,.agg #[.int .i64 4,.int .i64 (j:Int)]]) (yB4 rfl rfl (HS.out (.int .i64 4) (.int .i64 (j:Int))).1) rfl ⟨.inr ⟨4,j,HF.out,rfl⟩,(HS.out (.int .i64 4) (.int .i64 (j:Int))).2⟩
         .have zlo:(lo.toNat:Int)<=(hh.toNat:Int):=by have:=UInt8.le_iff_toNat_le.1 (UInt8.not_lt.1 hlo);omega
          have HF:Hid (yEa (sb p) (i+1) true m true (wider f lo hh)):=by show yEa _ _ _ _ _ _;unfold yEa;rw[HE.eq,HG.out];unfold yE;rw[HCh.out];simp only[];rw[if_pos HK.out,HCh2.out];simp only[];rw[if_neg hlo]
          clear hlo;go_wp2_with fail;go_roundw;case rel=>exact⟨m,n+1,wider f lo hh,hms,by omega,rfl,by go_num,by rw[decide_eq_true (succ_pos n)];exact HF.out,trivial⟩
          case measure=>simp[intOf];omega
       .have HK:Hid (¬(sb p)[k]?=some 45):=h45;have HF:Hid (yEa (sb p) (i+1) true k true (wider f lo lo)):=by show yEa _ _ _ _ _ _;unfold yEa;rw[HE.eq,HG.out];unfold yE;rw[HCh.out];simp only[];rw[if_neg HK.out]
        clear h45;by_cases hke:k<p.size
        .obtain⟨y,hy⟩:∃y,(sb p)[k]?=some y:=⟨_,getElem?_eq_getElem (by rw[yA9];exact hke)⟩;obtain⟨_,gy⟩:=yF7 hy;have zk:(k:Int)<(p.size:Int):=by omega
         have zy:((y.toNat:Int)==45)=false:=beq_eq_false_iff_ne.2 (yFp (c:=45) (λq=>HK.out (by rw[hy,q])));clear hy;go_wp2_with fail;go_roundw;case rel=>exact⟨k,n+1,wider f lo lo,hks,by omega,rfl,by go_num,by rw[decide_eq_true (succ_pos n)];exact HF.out,trivial⟩
         case measure=>simp[intOf];omega
        .have zk:¬(k:Int)<(p.size:Int):=by omega
         go_wp2_with fail;go_roundw;case rel=>exact⟨k,n+1,wider f lo lo,hks,by omega,rfl,by go_num,by rw[decide_eq_true (succ_pos n)];exact HF.out,trivial⟩
         case measure=>simp[intOf];omega
    .have HF:Hid (yBc (sb p) (i+1)=.inr (2,p.size)):=by show yBc (sb p) (i+1)=_;rw[HE.eq,clsM,dif_neg (by rw[yA9];exact hlt),yA9]
     have zj:¬(j:Int)<(p.size:Int):=by omega
     go_wp2_with fail;exact bodyPost_ret (v:=.tuple #[.int .i64 0,.agg #[.int .i64 2,.int .i64 (p.size:Int)]]) (yB4 rfl rfl (HS.out (.int .i64 2) (.int .i64 (p.size:Int))).1) rfl ⟨.inr ⟨2,p.size,HF.out,rfl⟩,(HS.out (.int .i64 2) (.int .i64 (p.size:Int))).2⟩
 .have a7:¬(i:Int)+1<(p.size:Int):=by omega
  cases ng
  case true=>exact absurd (HNG.1 rfl) (by rw[getElem?_eq_none (by rw[yA9];omega)];exact λq=>by cases q)
  exact zzQ2
def yBl(p:List UInt8):Int×Nat:=if 200<p.length then(1,0)else chkM p 0 0 false
theorem yZf{y z:Value}(ht:a.tmps.getD 2 undef=.pointer (some ⟨rb,0,none⟩))(he:yA w base 168 2 rb [y,z]):
  (results Tryz.f106 a.tmps).run prog w=.ok (.agg #[y,z]) w:=by
 obtain⟨q0,q1⟩:=he.c2;have h2:a.tmps[2]?.getD undef=.pointer (some ⟨rb,0,none⟩):=by rw[<-Array.getD_eq_getD_getElem?];exact ht
 simp[results,results106,go_sem,h2,q0,q1]
def ChkP(p:ByteArray)(w:World)(e:Ending)(w':World):Prop:=e=.returned (.agg #[.int .i64 (yBl (sb p)).1,.int .i64 ((yBl (sb p)).2:Int)])/\Below w.heap.size w w'
variable {wr:World}
theorem yFf{p:ByteArray}{c:Int}(hM:yBl (sb p)=(c,k))(hd:a.defers= [])(ht:a.tmps.getD 2 undef=.pointer (some ⟨w.heap.size,0,none⟩))(hx:yA wr w.heap.size 168 2 w.heap.size [.int .i64 0,.int .i64 0])(hb:Below w.heap.size w wr):
  bodyPost prog Tryz.f106 (ChkP p w) .ret a ((wr.setCell ⟨w.heap.size,0,none⟩ (.int .i64 c)).setCell ⟨w.heap.size,1,none⟩ (.int .i64 (k:Int))):=
 bodyPost_ret (v:=.agg #[.int .i64 c,.int .i64 (k:Int)]) (yZf ht ((hx.set 0 _).set 1 _)) hd ⟨by rw[hM],yBb (yBb hb (Nat.le_refl _) 0 _) (Nat.le_refl _) 1 _⟩
theorem yKl(p:ByteArray)(w:World)(hpm:p.size<=maxLen):Calls prog 106 #[.string p] w (ChkP p w):=by
 obtain⟨W0,a5⟩:=qE (w.alloc (Obj.cells #[.int .i64 0,.int .i64 0] 168):World);have a0:Hid (yA W0 w.heap.size 168 2 w.heap.size [.int .i64 0,.int .i64 0]/\Below w.heap.size w W0):=by rw[a5];exact⟨yAa w _ (Nat.le_refl _) rfl,qB⟩
 unfold maxLen at hpm;by_cases hp:200<p.size
 .have HM:Hid (yBl (sb p)=(1,0)):=by show yBl (sb p)=_;unfold yBl;rw[if_pos (by rw[yA9];exact hp)]
  have z2:(200:Int)<(p.size:Int):=by omega
  obtain⟨r0,r1⟩:=a0.1.c2;obtain⟨f0,f1⟩:=a0.1.f2;go_enter func106,ntmps106;go_upto_region 1 with fail;rw[<-a5];clear a5;go_wp2_with fail;exact yFf HM.out rfl rfl a0.1 a0.2
 have aa:p.size<=200:=by omega
 have HM:Hid (yBl (sb p)=chkM (sb p) 0 0 false):=by show yBl (sb p)=_;unfold yBl;rw[if_neg (by rw[yA9];exact hp)]
 have z2:¬(200:Int)<(p.size:Int):=by omega
 go_enter func106,ntmps106;go_upto_region 1 with fail;rw[<-a5];clear a5 hp;go_wp2_with fail;go_loopw[3,4,5] (λov av iv wr=>∃(i o:Nat)(a:Bool),i<=p.size/\o<=i/\ov=.int .i64 (o:Int)/\av=.bool a/\iv=.int .i64 (i:Int)/\yBl (sb p)=chkM (sb p) i o a/\Below W0.heap.size W0 wr) (λ_ _ iv _=>p.size-(intOf iv).toNat);case atStart=>exact⟨0,0,false,zero_le _,zero_le _,rfl,rfl,rfl,HM.out,Below.refl _ _⟩
 case round=>
  obtain⟨i,o,a,hi,ak,rfl,rfl,rfl,hE,hb⟩:=hrel;have HE:Hid (yBl (sb p)=chkM (sb p) i o a):=hE;have HX:Hid (yA wr w.heap.size 168 2 w.heap.size [.int .i64 0,.int .i64 0]/\Below w.heap.size w wr):=⟨a0.1.below hb,a0.2.trans (hb.mono a0.2.size)⟩;have HB:Hid (Below W0.heap.size W0 wr):=hb;obtain⟨r0,r1⟩:=HX.1.c2;obtain⟨f0,f1⟩:=HX.1.f2;clear hE hb HM;by_cases hlt:i<p.size
  .obtain⟨c,hc⟩:∃x,(sb p)[i]?=some x:=⟨_,getElem?_eq_getElem (by rw[yA9];exact hlt)⟩;obtain⟨_,gc⟩:=yF7 hc;have HC:Hid ((sb p)[i]?=some c):=hc;have zi:(i:Int)<(p.size:Int):=by omega
   clear hc;by_cases h40:c=40
   .subst h40;by_cases ho:o=20
    .subst ho;have HF:Hid (yBl (sb p)=(3,i)):=by show yBl (sb p)=_;rw[HE.out,yRb HC.out,if_pos rfl]
     go_wp2_with fail;exact yFf HF.out rfl rfl HX.1 HX.2
    .have zo:¬(o:Int)=20:=by omega
     have HF:Hid (yBl (sb p)=chkM (sb p) (i+1) (o+1) false):=by show yBl (sb p)=_;rw[HE.out,yRb HC.out,if_neg ho]
     go_wp2_with fail;go_roundw;case rel=>exact⟨i+1,o+1,false,by omega,by omega,by go_num,rfl,by go_num,HF.out,HB.out⟩
     case measure=>simp[intOf];omega
   have ah:((c.toNat:Int)==40)=false:=beq_eq_false_iff_ne.2 (yFp (c:=40) h40);by_cases h41:c=41
   .subst h41;by_cases ho:o=0
    .subst ho;have HF:Hid (yBl (sb p)=(2,i)):=by show yBl (sb p)=_;rw[HE.out,yOv HC.out,if_pos rfl]
     go_wp2_with fail;exact yFf HF.out rfl rfl HX.1 HX.2
    .have zo:¬(o:Int)=0:=by omega
     have HF:Hid (yBl (sb p)=chkM (sb p) (i+1) (o-1) true):=by show yBl (sb p)=_;rw[HE.out,yOv HC.out,if_neg ho]
     go_wp2_with fail;go_roundw;case rel=>exact⟨i+1,o-1,true,by omega,by omega,congrArg (Value.int .i64) (by omega),rfl,by go_num,HF.out,HB.out⟩
     case measure=>simp[intOf];omega
   have ag:((c.toNat:Int)==41)=false:=beq_eq_false_iff_ne.2 (yFp (c:=41) h41);by_cases h124:c=124
   .subst h124;have HF:Hid (yBl (sb p)=chkM (sb p) (i+1) o false):=by show yBl (sb p)=_;rw[HE.out,yZg HC.out]
    go_wp2_with fail;go_roundw;case rel=>exact⟨i+1,o,false,by omega,by omega,rfl,rfl,by go_num,HF.out,HB.out⟩
    case measure=>simp[intOf];omega
   have ai:((c.toNat:Int)==124)=false:=beq_eq_false_iff_ne.2 (yFp (c:=124) h124);have HL:Hid (∀q:Bool,decide (isOp c)=q->Calls prog 168 #[.int .u8 (c.toNat:Int)] wr λe w'=>e=.returned (.bool q)/\w'=wr):=λq hq=>by rw[<-hq];exact yUo c wr
   by_cases hop:isOp c
   .go_wp2_with fail;refine(HL.out true (decide_eq_true hop)).mono ?_;rintro e w3 ⟨rfl,a4⟩;rw[a4];clear a4 HL;cases a
    .have HF:Hid (yBl (sb p)=(2,i)):=by show yBl (sb p)=_;rw[HE.out,yXn HC.out hop];rfl
     clear hop;go_wp2_with fail;exact yFf HF.out rfl rfl HX.1 HX.2
    .have HF:Hid (yBl (sb p)=chkM (sb p) (i+1) o true):=by show yBl (sb p)=_;rw[HE.out,yXn HC.out hop,if_pos rfl]
     clear hop;exact yZ5
   go_wp2_with fail;refine(HL.out false (decide_eq_false hop)).mono ?_;rintro e w3 ⟨rfl,a4⟩;rw[a4];have ac:Hid (¬isOp c):=hop;clear a4 HL hop;by_cases h91:c=91
   .subst h91;go_wp2_with fail;refine(yN5 p i wr aa hlt).mono ?_;rintro e w4 ⟨hP,a3⟩;have a6:Below W0.heap.size W0 w4:=HB.trans (a3.mono HB.size);have aj:=a3.size;have a9:=HX.2.size;rcases hP with⟨f,k,hk,rfl⟩|⟨c4,k,hk,rfl⟩
    .have a7:=yOu hk;rw[yA9]at a7;obtain⟨W5,y⟩:=qE (w4.alloc (Obj.cells #[.int .i64 0,.int .i64 0] 168):World);have HF:Hid (yBl (sb p)=chkM (sb p) k o true/\Below W0.heap.size W0 W5):=by refine⟨by rw[HE.out,yOw HC.out,hk],?_⟩;rw[y];exact a6.trans ((Below.refl _ _).alloc (by have:=HB.size;omega) _)
     clear hk a3 a6 r0 r1 f0 f1;go_wp2_with fail;rw[<-y];go_roundw;case rel=>exact⟨k,o,true,a7.2,by omega,rfl,rfl,rfl,HF.1,HF.2⟩
     case measure=>simp[intOf];omega
    .have ab:=ySr hk;obtain⟨W5,y⟩:=qE (w4.alloc (Obj.cells #[.int .i64 c4,.int .i64 (k:Int)] 168):World);have HF:Hid (yBl (sb p)=(c4,k)/\yA W5 w.heap.size 168 2 w.heap.size [.int .i64 0,.int .i64 0]/\Below w.heap.size w W5/\yA W5 w.heap.size 168 2 w4.heap.size [.int .i64 c4,.int .i64 (k:Int)]):=by
      have a8:Below w4.heap.size w4 W5:=by rw[y];exact qB
      refine⟨by rw[HE.out,yOw HC.out,hk],(HX.1.below a3).below a8,(HX.2.trans (a3.mono a9)).trans (a8.mono (by omega)),?_⟩;rw[y];exact yAa w4 _ (by omega) rfl
     have al:(c4 != 0)=true:=by simpa using ab
     clear hk a3 a6 r0 r1 f0 f1;go_upto_region 29 with fail;rw[<-y];clear y;obtain⟨b0,b1⟩:=HF.2.2.2.c2;obtain⟨r0,r1⟩:=HF.2.1.c2;obtain⟨f0,f1⟩:=HF.2.1.f2;go_wp2_with fail;exact yFf HF.1 rfl rfl HF.2.1 HF.2.2.1
   have af:((c.toNat:Int)==91)=false:=beq_eq_false_iff_ne.2 (yFp (c:=91) h91);by_cases h93:c=93
   .subst h93;have HF:Hid (yBl (sb p)=(2,i)):=by show yBl (sb p)=_;rw[HE.out,xCb HC.out]
    go_wp2_with fail;exact yFf HF.out rfl rfl HX.1 HX.2
   have ad:((c.toNat:Int)==93)=false:=beq_eq_false_iff_ne.2 (yFp (c:=93) h93);by_cases h92:c=92
   .subst h92;by_cases hl1:i+1=p.size
    .have HF:Hid (yBl (sb p)=(2,p.size)):=by show yBl (sb p)=_;rw[HE.out,yVl HC.out,if_pos (by rw[yA9];exact hl1),yA9]
     have zl:(i:Int)+1=(p.size:Int):=by omega
     go_wp2_with fail;exact yFf HF.out rfl rfl HX.1 HX.2
    .have HF:Hid (yBl (sb p)=chkM (sb p) (i+2) o true):=by show yBl (sb p)=_;rw[HE.out,yVl HC.out,if_neg (by rw[yA9];exact hl1)]
     have zl:¬(i:Int)+1=(p.size:Int):=by omega
     go_wp2_with fail;go_roundw;case rel=>exact⟨i+2,o,true,by omega,by omega,rfl,rfl,by go_num,HF.out,HB.out⟩
     case measure=>simp[intOf];omega
   have ae:((c.toNat:Int)==92)=false:=beq_eq_false_iff_ne.2 (yFp (c:=92) h92);have HF:Hid (yBl (sb p)=chkM (sb p) (i+1) o true):=by show yBl (sb p)=_;rw[HE.out,yVk HC.out (λq=>q.elim ac.out (λq=>q.elim h124 (λq=>q.elim h41 h93))) h40 h91 h92]
   exact yZ5
  .have zi:¬(i:Int)<(p.size:Int):=by omega
   by_cases ho:0<o
   .have HF:Hid (yBl (sb p)=(2,p.size)):=by show yBl (sb p)=_;rw[HE.out,yVm (by rw[yA9];exact hlt),if_pos ho,yA9]
    have zo:(0:Int)<(o:Int):=by omega
    go_wp2_with fail;exact yFf HF.out rfl rfl HX.1 HX.2
   .have HF:Hid (yBl (sb p)=(0,0)):=by show yBl (sb p)=_;rw[HE.out,yVm (by rw[yA9];exact hlt),if_neg ho]
    have zo:¬(0:Int)<(o:Int):=by omega
    go_wp2_with fail;exact yFf HF.out rfl rfl HX.1 HX.2
section
variable {p:ByteArray} {base g i o:Nat} {w:World} {k:Nat} {ts:List Pat} {us:List Value} {v:Value} {wr:World}
end
section
variable {p:ByteArray} {base g i o:Nat} {w:World} {k:Nat} {os:List (List Pat)} {us:List Value} {gq cp:Nat} {wr:World}
end
theorem yQu:∀(R ws:List Ent),Ord R->(∀x∈R,x∈ws)->R.length<=ws.length
 | [],_,_,_=>by simp
 |a::R,ws,h,hs=>by
  have h':=List.pairwise_cons.1 h
  obtain⟨l1,l2,rfl⟩:=List.append_of_mem (hs a (by simp))
  have:=yQu R (l1++l2) h'.2 (λx hx=>by
   have h1:=hs x (mem_cons_of_mem _ hx)
   simp only[List.mem_append,mem_cons]at h1|-
   rcases h1 with h1|rfl|h1
   .exact .inl h1
   .have:=h'.1 x hx
    rw[yD2]at this
    omega
   .exact .inr h1)
  simp at this|-
  omega
theorem yQ6:∀(rs:List (List Ent)),(∀es∈rs,yAp es)->rs.flatten.length<=10000*rs.length
 | [],_=>by simp
 |es::rs,h=>by
  have h1:=(h es (by simp)).1.1
  have h2:=yQ6 rs (λx hx=>h x (mem_cons_of_mem _ hx))
  rw[flatten_cons,length_append,length_cons]
  omega
theorem yJp{rs:List (List Ent)}{inr:ByteArray->Bool}{L:List Ent}(hG:yAl rs)(h:yFh rs inr i j L):L.length<=500000:=by have h1:=yQu L rs.flatten h.1 (yUc h);have h2:=yQ6 rs hG.2;have h3:=hG.1;omega
variable {g cp g' cp':Nat} {es fs:List Ent}
theorem OwnC.ne_row{base':Nat}(h:OwnC w base g cp es)(h':OwnE w base' g' cp' fs):g≠g':=by
 rcases h.2 with⟨h0,_⟩|⟨g1,a5,cur,hv,_,hc,_⟩
 .cases h0
 .rcases h'.2 with⟨h0,_⟩|⟨g2,a4,a3,y,_,a0,_⟩
  .cases h0
  .simp only[Value.slice.injEq,Option.some.injEq,Addr.mk.injEq,and_true,true_and]at hv y;obtain⟨rfl,rfl⟩:=hv;obtain⟨rfl,rfl⟩:=y;intro q;rw[q,a0]at hc;simp at hc
theorem yLa(lo hi row:ByteArray)(hh:Bool){s:Bool}(hs:inR lo hh hi row=s)(w:World):
  Calls prog 22 #[.agg #[.string lo,.bool hh,.string hi],.string row] w λe w'=>e=.returned (.bool s)/\Below w.heap.size w w':=hs▸yDi lo hi row hh w
theorem xCz{l:List Rm}{r:Rm}{e:Ent}(hr:l[k]?=some r)(he:r.es[j]?=some e):At (esM l) k j e:=⟨r.es,by rw[getElem?_map,hr];rfl,he⟩
theorem yEl(b off cap:Nat)(l:List Rm)(lo hi:ByteArray)(hh:Bool)(w:World)(hR:yB5 w b off l)(hok:okM l)(hB:b<w.heap.size)(hlen:l.length<=1048576):
  Calls prog 60 #[.slice (some ⟨b,off,none⟩) l.length cap,.agg #[.string lo,.bool hh,.string hi]] w λr w'=>
   ∃(g cp:Nat)(L:List Ent),r=.returned (.slice (some ⟨g,0,none⟩) L.length cp)/\OwnC w' w.heap.size g cp L/\Below w.heap.size w w'/\L.length<=500000/\yBo (esM l) (inR lo hh hi) L:=by
 have HR:Hid (yB5 w b off l):=hR;have HO:Hid (okM l):=hok;clear hR hok;obtain⟨Wa,a3⟩:=qE (w.alloc (Obj.cells #[.string lo,.bool hh,.string hi] 30):World);have aK:Below w.heap.size w Wa:=by rw[a3];exact qB
 have an:Wa.heap.size=w.heap.size+1:=by rw[a3];simp
 have al:Hid (Wa.cell? ⟨w.heap.size,0,none⟩=some (.string lo)/\Wa.cell? ⟨w.heap.size,1,none⟩=some (.bool hh)/\Wa.cell? ⟨w.heap.size,2,none⟩=some (.string hi)):=by refine⟨?_,?_,?_⟩<;>(rw[a3];simp)
 obtain⟨W0,a6⟩:=qE (Wa.alloc (Obj.cells #[] 73):World);have av:Below Wa.heap.size Wa W0:=by rw[a6];exact qB
 have b0:W0.heap.size=w.heap.size+1+1:=by rw[a6];simp[an]
 have aV:Hid (OwnC W0 w.heap.size (w.heap.size+1) 0 []):=by show OwnC W0 w.heap.size (w.heap.size+1) 0 [];rw[a6,<-an];exact(yMb Wa).mono (by omega)
 have am:Below w.heap.size w W0:=aK.trans (av.mono (by omega));have az:Hid (yB5 W0 b off l):=HR.below am hB;go_enter func60,ntmps60;go_wp2_with fail;rw[<-a3,<-a6];clear a3 a6;refine(yMr b off cap l _ az.out HO.out (by omega) hlen).mono ?_;rintro e w1 ⟨r,rfl,hr,hb1⟩;have HG:Hid (r=true↔yAl (esM l)):=hr;clear hr;have b3:=hb1.size;have k1:Below w.heap.size w w1:=am.trans (hb1.mono (by omega));have aD:Hid (OwnC w1 w.heap.size (w.heap.size+1) 0 []):=aV.below hb1 (by omega);cases r
 .have HN:Hid (¬yAl (esM l)):=λh=>Bool.noConfusion (HG.2 h);go_wp2_with fail;go_ret;exact⟨_,0,[],rfl,aD.out,k1,by simp,λh=>absurd h HN.out,λ_=>rfl⟩
 have a0:Hid (yAl (esM l)):=HG.1 rfl;clear HG;obtain⟨W1,a5⟩:=qE (w1.alloc (Obj.cells #[] 64):World);have aa:Below w1.heap.size w1 W1:=by rw[a5];exact qB
 have aZ:w1.heap.size<W1.heap.size:=by rw[a5];simp
 have aQ:Hid (OwnE W1 w1.heap.size w1.heap.size 0 []):=by show OwnE W1 w1.heap.size w1.heap.size 0 [];rw[a5];exact World.ownsRow_made w1 #[] 0 (Nat.le_refl _) (zero_le _) (by simp)
 have ah:Hid (yB5 W1 b off l):=(az.below hb1 (by omega)).below aa (by omega);have aU:Hid (OwnC W1 w.heap.size (w.heap.size+1) 0 []):=aD.below aa (by omega);have aP:Hid (∀wx,Below W1.heap.size W1 wx->wx.cell? ⟨w.heap.size,0,none⟩=some (.string lo)/\wx.cell? ⟨w.heap.size,1,none⟩=some (.bool hh)/\wx.cell? ⟨w.heap.size,2,none⟩=some (.string hi)):=by
  intro wx hx;have hy:Below Wa.heap.size Wa wx:=((av.trans (hb1.mono (by omega))).trans (aa.mono (by omega))).trans (hx.mono (by omega));refine⟨?_,?_,?_⟩
  .rw[hy.cell (p:=⟨w.heap.size,0,none⟩) (by show w.heap.size<Wa.heap.size;omega)];exact al.1
  .rw[hy.cell (p:=⟨w.heap.size,1,none⟩) (by show w.heap.size<Wa.heap.size;omega)];exact al.2.1
  .rw[hy.cell (p:=⟨w.heap.size,2,none⟩) (by show w.heap.size<Wa.heap.size;omega)];exact al.2.2
 go_wp2_with fail;rw[<-a5];clear a5;go_loopw[6,7] (λo i wr=>∃(k g cp:Nat)(L:List Ent),k<=l.length/\i=.int .i64 k/\o=.slice (some ⟨g,0,none⟩) L.length cp/\OwnE wr w1.heap.size g cp L/\yFh (esM l) (inR lo hh hi) k 0 L/\Below W1.heap.size W1 wr) (λ_ i _=>l.length-(intOf i).toNat);case atStart=>exact⟨0,_,0,[],zero_le _,rfl,rfl,aQ.out,yR5 _ _,Below.refl _ _⟩
 case round=>
  obtain⟨k,g,cp,L,hk,rfl,rfl,hO,hK,hb⟩:=hrel;obtain⟨wo,rfl⟩:=qE (wr:World);have HK:Hid (OwnE wo w1.heap.size g cp L/\yFh (esM l) (inR lo hh hi) k 0 L):=⟨hO,hK⟩;have ag:=yJp a0.out hK;have hs:=hb.size;have hg:=hO.lt;clear hO hK;by_cases hlt:k<l.length
  .obtain⟨r,hr⟩:∃r,l[k]?=some r:=⟨_,getElem?_eq_getElem hlt⟩;have a8:Hid (l[k]?=some r/\yAp r.es):=⟨hr,yFy a0.out (mem_of_getElem? hr)⟩;have b4:r.es.length<=10000:=a8.2.1.1;clear hr;have zk:(k:Int)<(l.length:Int):=by omega
   go_wp2_with fail;go_loopw[6,8] (λo i wr=>∃(j g cp:Nat)(L:List Ent),j<=r.es.length/\i=.int .i64 j/\o=.slice (some ⟨g,0,none⟩) L.length cp/\OwnE wr w1.heap.size g cp L/\yFh (esM l) (inR lo hh hi) k j L/\Below W1.heap.size W1 wr) (λ_ i _=>r.es.length-(intOf i).toNat);case atStart=>exact⟨0,_,_,L,zero_le _,rfl,rfl,HK.1,HK.2,hb⟩
   case round=>
    clear HK hb hs hg ag;obtain⟨j,g,cp,L,hj,rfl,rfl,hO,hK,hb⟩:=hrel;obtain⟨wi,rfl⟩:=qE (wr:World);have HK:Hid (OwnE wi w1.heap.size g cp L/\yFh (esM l) (inR lo hh hi) k j L):=⟨hO,hK⟩;have ag:=yJp a0.out hK;have hs:=hb.size;have hg:=hO.lt;clear hO hK;have c0:=((ah.below hb (by omega)) k r a8.1).1;by_cases hjl:j<r.es.length
    .obtain⟨e,he⟩:∃e,r.es[j]?=some e:=⟨_,getElem?_eq_getElem hjl⟩;obtain⟨c1,c2,c3,c4,c5,c6⟩:=((ah.below hb (by omega)) k r a8.1).2.ents j e he;have ab:Hid (At (esM l) k j e):=xCz a8.1 he;clear he;obtain⟨W2,a4⟩:=qE (wi.alloc (Obj.cells #[.string e.row,.string e.fam,.string e.qual,.int .u64 e.ts,.int .i64 e.kind,.string e.val] 64):World);have au:Below wi.heap.size wi W2:=by rw[a4];exact qB
     have aY:W2.heap.size=wi.heap.size+1:=by rw[a4];simp
     have ax:Hid (yAe W2 wi.heap.size 0 [e]):=by show yAe W2 wi.heap.size 0 [e];rw[a4];exact yDj wi e
     have ak:Hid (OwnE W2 w1.heap.size g cp L):=HK.1.below au hg.2;have hb2:Below W1.heap.size W1 W2:=hb.trans (au.mono hs);have zj:(j:Int)<(r.es.length:Int):=by omega
     go_upto_region 12 with fail;rw[<-a4];clear a4 c0 c1 c2 c3 c4 c5 c6;obtain⟨d0,d1,d2,d3,d4,d5⟩:=ax.out 0 e rfl;simp only[Nat.zero_add,Nat.zero_mul]at d0 d1 d2 d3 d4 d5;obtain⟨q0,q1,q2⟩:=aP.out W2 hb2;cases k0:(e.kind==0)
     .have HN:Hid (yFh (esM l) (inR lo hh hi) k (j+1) L):=yHu HK.2 ab.out (λq=>by have:=q.1;simp at k0;exact k0 this);go_wp2_with fail;go_roundw;case rel=>exact⟨j+1,g,cp,L,by omega,by go_num,rfl,ak.out,HN.out,hb2⟩
      case measure=>go_light;simp[intOf];omega
     .go_wp2_with fail;cases hir:inR lo hh hi e.row
      .have HN:Hid (yFh (esM l) (inR lo hh hi) k (j+1) L):=yHu HK.2 ab.out (λq=>by have:=q.2.1;rw[hir]at this;cases this);refine(yLa lo hi e.row hh hir _).mono ?_;rintro e' w3 ⟨rfl,hb3⟩;have aq:=hb3.size;have af:=hb2.trans (hb3.mono (by omega));have aj:Hid (OwnE w3 w1.heap.size g cp L):=ak.below hb3 (by omega);clear d0 d1 d2 d3 d4 d5 q0 q1 q2;go_wp2_with fail;go_roundw;case rel=>exact⟨j+1,g,cp,L,by omega,by go_num,rfl,aj.out,HN.out,af⟩
       case measure=>go_light;simp[intOf];omega
      .refine(yLa lo hi e.row hh hir _).mono ?_;rintro e' w3 ⟨rfl,hb3⟩;have aq:=hb3.size;have af:=hb2.trans (hb3.mono (by omega));have aj:Hid (OwnE w3 w1.heap.size g cp L):=ak.below hb3 (by omega);have aw:Hid (yAe w3 wi.heap.size 0 [e]):=ax.below hb3 (by omega);have aC:Hid (e.kind=0/\inR lo hh hi e.row=true):=⟨by simpa using k0,hir⟩;clear d0 d1 d2 d3 d4 d5 q0 q1 q2;go_wp2_with fail;go_loopw[10,11] (λo i wr=>∃(m:Nat)(hd:Bool),m<=k/\i=.int .i64 m/\o=.bool hd/\(hd=true↔yGh (esM l) m e)/\Below w3.heap.size w3 wr) (λ_ i _=>k-(intOf i).toNat);case atStart=>exact⟨0,false,zero_le _,rfl,rfl,iffF (yLc _ _),Below.refl _ _⟩
       case round=>
        obtain⟨m,hd,hm,rfl,rfl,hH,y⟩:=hrel;have HH:Hid (hd=true↔yGh (esM l) m e):=hH;have ao:=y.size;clear hH;have ae:Below W1.heap.size W1 wr:=af.trans (y.mono (by omega));by_cases hmk:m<k
        .obtain⟨r',a9⟩:∃r',l[m]?=some r':=⟨_,getElem?_eq_getElem (by omega)⟩;have ad:=yFy a0.out (mem_of_getElem? a9);have aF:r'.es.length<=1048576:=by have:=ad.1.1;omega
         obtain⟨y0,y1⟩:=yYl (ah.below ae (by omega)) (by omega) a9;obtain⟨x0,x1,x2,x3,x4,x5⟩:=yFz (aw.below y (by omega)) (by omega) (rfl: [e][0]?=some e);simp only[Nat.zero_add,Nat.zero_mul]at x0 x1 x2 x3 x4 x5;have HY:Hid (∀n:Out wr,r'.at n.u):=y1;have HS:Hid (yGh (esM l) (m+1) e↔yGh (esM l) m e\/(yA5 e r'.es 0).1≠0):=by have h1:=ySd (rs:=esM l) (k:=m) (x:=e) (ds:=r'.es) (by rw[getElem?_map,a9];rfl);have h2:=yGb e r'.es 0 ad.1.2;show _↔_;rw[h1,h2];simp
         clear y1 a9 ad;have zm:(m:Int)<(l.length:Int):=by omega
         have aX:Nonempty (Out wr):=⟨⟨wr,Below.refl _ _⟩⟩;go_upto_region 17 with fail;refine yAf (by kernel_rfl) (by kernel_rfl) ?_;repeat (go_big_quiet_step ((go_at_call 111;exact Calls.out_of (yTt r' e _ (HY.out _) aF))))
         refine wpQuiet_nil ?_;rintro wy ⟨⟨wx,aI⟩,rfl⟩;clear x0 x1 x2 x3 x4 x5 y0;have hby':=y.trans (aI.mono ao);generalize (yA5 e r'.es 0).1=sx at*;generalize (yA5 e r'.es 0).2=sv at*;cases hd
         .cases hsx:(sx != 0)
          .have HN:Hid (false=true↔yGh (esM l) (m+1) e):=iffF (λq=>by
            rcases HS.1 q with q|q
            .exact Bool.noConfusion (HH.2 q)
            .simp at hsx;exact q hsx)
           go_wp2_with fail;go_roundw;case rel=>exact⟨m+1,false,by omega,by go_num,rfl,HN.out,hby'⟩
           case measure=>go_light;simp[intOf];omega
          .have HN:Hid (true=true↔yGh (esM l) (m+1) e):=iffT (HS.2 (.inr (by simpa using hsx)));exact yZx
         .have HN:Hid (true=true↔yGh (esM l) (m+1) e):=iffT (HS.2 (.inl (HH.1 rfl)));exact yZx
        .obtain rfl:m=k:=by omega
         have aB:Hid (OwnE wr w1.heap.size g cp L):=aj.below y (by omega);have aO:Hid (yAe wr wi.heap.size 0 [e]):=aw.below y (by omega);have aW:¬(m:Int)<(m:Int):=by omega
         cases hd
         .have HN:Hid (yFh (esM l) (inR lo hh hi) m (j+1) (into L e)):=yUb a0.out HK.2 ab.out ⟨aC.1,aC.2,λq=>Bool.noConfusion (HH.2 q)⟩;obtain⟨d0,d1,d2,d3,d4,d5⟩:=aO.out 0 e rfl;simp only[Nat.zero_add,Nat.zero_mul]at d0 d1 d2 d3 d4 d5;go_wp2_with fail;refine(yJy g 0 cp L e _ aB.at (by omega) (by omega)).mono ?_;rintro e' w5 ⟨g',cp',rfl,a7,aM⟩;have ai:Hid (OwnE w5 w1.heap.size g' cp' (into L e)):=a7.mono (by omega);have aL:=ae.trans (aM.mono (by omega));clear a7 d0 d1 d2 d3 d4 d5;go_wp2_with fail;go_roundw;case rel=>exact⟨j+1,g',cp',into L e,by omega,by go_num,rfl,ai.out,HN.out,aL⟩
          case measure=>go_light;simp[intOf];omega
         .have HN:Hid (yFh (esM l) (inR lo hh hi) m (j+1) L):=yHu HK.2 ab.out (λq=>q.2.2 (HH.1 rfl));go_wp2_with fail;go_roundw;case rel=>exact⟨j+1,g,cp,L,by omega,by go_num,rfl,aB.out,HN.out,ae⟩
          case measure=>go_light;simp[intOf];omega
    .have HN:Hid (yFh (esM l) (inR lo hh hi) (k+1) 0 L):=yUa HK.2 (es:=r.es) (by rw[getElem?_map,a8.1];rfl) (by omega);have zj:¬(j:Int)<(r.es.length:Int):=by omega
     go_wp2_with fail;go_roundw;case rel=>exact⟨k+1,g,cp,L,by omega,by go_num,rfl,HK.1,HN.out,hb⟩
     case measure=>go_light;simp[intOf];omega
  .have aS:Hid (yBo (esM l) (inR lo hh hi) L):=by refine⟨λ_=>yU HK.2 (by simp;omega),λh=>absurd a0.out h⟩
   have aJ:Below w.heap.size w wo:=(k1.trans (aa.mono (by omega))).trans (hb.mono (by omega));have aT:Hid (OwnC wo w.heap.size (w.heap.size+1) 0 []):=aU.below hb (by omega);have zk:¬(k:Int)<(l.length:Int):=by omega
   go_wp2_with fail;go_loopw[5,14] (λo i wr=>∃(m g5 cp5:Nat),m<=L.length/\i=.int .i64 m/\o=.slice (some ⟨g5,0,none⟩) m cp5/\OwnC wr w.heap.size g5 cp5 (L.take m)/\OwnE wr w1.heap.size g cp L/\Below w.heap.size w wr) (λ_ i _=>L.length-(intOf i).toNat);case atStart=>exact⟨0,_,0,zero_le _,rfl,rfl,aT.out,HK.1,aJ⟩
   case round=>
    obtain⟨m,g5,cp5,hm,rfl,rfl,hC,hL,y⟩:=hrel;have HM:Hid (OwnC wr w.heap.size g5 cp5 (L.take m)/\OwnE wr w1.heap.size g cp L):=⟨hC,hL⟩;have aH:=hC.lt;have aG:=hL.lt;have aE:=hC.ne_row hL;have ao:=y.size;have ay:Hid (m=(L.take m).length):=by show m=(L.take m).length;rw[length_take];omega
    clear hC hL;by_cases hlt:m<L.length
    .obtain⟨x,hx⟩:∃x,L[m]?=some x:=⟨_,getElem?_eq_getElem hlt⟩;have HX:Hid (L.take (m+1)=L.take m++ [x]):=by show L.take (m+1)=L.take m++ [x];rw[take_add_one,hx];rfl
     obtain⟨c0,c1,c2,c3,c4,c5⟩:=HM.2.at m x hx;simp only[Nat.zero_add,Nat.zero_mul]at c0 c1 c2 c3 c4 c5;clear hx;go_wp2_with fail;refine(yNh x _).mono ?_;rintro e' w3 ⟨rfl,hb3⟩;have aq:=hb3.size;have aA:Hid (OwnC w3 w.heap.size g5 cp5 (L.take m)/\OwnE w3 w1.heap.size g cp L):=⟨HM.1.below hb3 aH.2,HM.2.below hb3 aG.2⟩;have ar:Below w.heap.size w w3:=y.trans (hb3.mono (by omega));clear c0 c1 c2 c3 c4 c5 hb3;go_wp2_with (at_builtin;refine yHl _ rfl _ _ rfl w.heap.size g5 cp5 _ _ (L.take m) x rfl rfl ay.out ?hO ?hc ?hl ?hb ?_);case hO=>exact aA.1.below (qB) (by omega)
     case hc=>exact yH5 w3 x
     case hl=>rw[<-ay.out];omega
     case hb=>simp;omega
     intro g' cp' w' a7 ac;have ai:Hid (OwnC w' w.heap.size g' cp' (L.take (m+1))):=by show OwnC w' w.heap.size g' cp' (L.take (m+1));rw[HX.out];exact a7
     have aN:Below w.heap.size w w':=(ar.alloc ar.size _).grown ac (by simp;omega) (λj hj=>by cases hj;omega);have aR:Hid (OwnE w' w1.heap.size g cp L):=World.ownsRow.kept (aA.2.below (qB) (by omega)) ac (.inr (λq=>aE (Option.some.inj q).symm));clear a7 ac;go_wp2_with fail;go_roundw;case rel=>exact⟨m+1,g',cp',by omega,by go_num,rfl,ai.out,aR.out,aN⟩
     case measure=>go_light;simp[intOf];omega
    .have HT:Hid (L.take m=L):=take_of_length_le (by omega);go_wp2_with fail;go_ret;refine⟨g5,cp5,L,?_,?_,y,ag,aS.out⟩
     .have e1:m=L.length:=by omega
      show Ending.returned (Value.slice (some ⟨g5,0,none⟩) m cp5)=_;rw[e1]
     .have h:=HM.1;rw[HT.out]at h;exact h
theorem yBd.flat{b off:Nat}(h:yBd w b off es):∀(j:Nat)(u:Value),(yBg es)[j]?=some u->w.cell? ⟨b,off+j,none⟩=some u:=by
 intro j u hu;have hl:=(List.getElem?_eq_some_iff.1 hu).1;rw[yCo]at hl;have hk:j/5<es.length:=by omega
 obtain⟨e,he⟩:∃e,es[j/5]?=some e:=⟨_,getElem?_eq_getElem hk⟩;have h5:=yLr es (j/5) e he (j%5) (by omega);rw[show j/5*5+j%5=j by omega,hu]at h5;obtain⟨h0,h1,h2,h3,h4⟩:=h (j/5) e he;have hm:j%5<5:=by omega
 have hj:off+j=off+j/5*5+j%5:=by omega
 rw[hj];generalize j%5=r at h5 hm;match r,hm,h5 with
 |0,_,h5=>cases h5;exact h0
 |1,_,h5=>cases h5;exact h1
 |2,_,h5=>cases h5;exact h2
 |3,_,h5=>cases h5;exact h3
 |4,_,h5=>cases h5;exact h4
theorem yMt(es:List Ent):∀u∈yBg es,u.oneCell'=true:=by intro u hu;unfold yBg at hu;rw[mem_flatMap]at hu;obtain⟨e,_,h⟩:=hu;simp at h;rcases h with rfl|rfl|rfl|rfl|rfl<;>rfl
variable {ops:Array Oper} {Q:Exit->Act->World->Prop}
theorem yL1{oo:Oper}{K:Act->World->Prop}{E:Prop}(w:World)(hgd:oo.guard=none)(x:Operand)(ho:oo.op=.buildSlice 37 1 #[(0,x)])(e:Ent)(hx:a.eval x=e.c)
  (h:K (a.put oo.dst (.slice (some ⟨w.heap.size,0,none⟩) 1 1)) (w.alloc (.cells #[.string e.row,.string e.fam,.string e.qual,.int .u64 e.ts,.string e.val] 73))):if Region.wanted oo (yielded ops a.tmps)=true then Oper.wp prog oo a w K Q else E:=by
 have hw:Region.wanted oo (yielded ops a.tmps)=true:=by simp[Region.wanted,hgd]
 rw[if_pos hw];obtain⟨i,hi,a0,y,a3⟩:=info_parts Tryz.infoCel;refine wp_buildSlice 37 73 1 #[(0,x)] ho _ i _ underlying37 hi a0 (by rw[y];decide) (by rw[y];decide) ?_ h;rw[y,show(Array.map (λx=>(x.1,a.eval x.2)) #[(0,x)]).toList= [(0,a.eval x)]from by simp,hx];kernel_rfl
def RowC(w:World)(base:Nat)(v:Value)(es:List Ent):Prop:=w.ownsRow base 73 5 v es.length (yBg es)
theorem RowC.cases{v:Value}(h:RowC w base v es):(v=.slice none 0 0/\es= [])\/∃g cp,v=.slice (some ⟨g,0,none⟩) es.length cp/\OwnC w base g cp es:=by
 rcases h.2 with⟨h0,h1⟩|⟨g',y,cur,hv,rest⟩
 .refine .inl ⟨h0,?_⟩;have:es.length=0:=h1;exact length_eq_zero_iff.1 this
 .subst hv;exact .inr ⟨g',y,rfl,h⟩
theorem yIt(w:World)(base:Nat):RowC w base (.slice none 0 0) []:=⟨rfl,.inl ⟨rfl,rfl⟩⟩
variable {X:List Ent}
theorem RowC.chg{v:Value}(h:RowC w base v X)(hc:Chg S w w')(hn:∀k,v.ownBlock=some k->¬S k):RowC w' base v X:=yAg h hc hn
theorem RowC.below{v:Value}(h:RowC w base v X)(hb:Below w.heap.size w w'):RowC w' base v X:=h.chg (S:=λ_=>False) (Chg.of_below hb) (λ_ _ q=>q)
theorem RowC.blk{v:Value}(h:RowC w base v X)(hk:v.ownBlock=some k):base<=k/\k<w.heap.size:=by exact yZs
theorem yHn{oo:Oper}{K:Act->World->Prop}{E:Prop}(w:World)(hgd:oo.guard=none)(s x:Operand)
  (ho:oo.op=.call {callee:=.builtin .append,args:=#[s,x],argTypes:=#[37,37]})
  (base:Nat) (a0:Option Addr) (n c0 b off m cx:Nat) (fs es:List Ent) (hs:a.eval s=.slice a0 n c0) (hx:a.eval x=.slice (some ⟨b,off,none⟩) m cx) (hn:n=fs.length) (hm:m=es.length) (hO:RowC w base (.slice a0 n c0) fs)
  (hc:yBd w b off es) (hlen:fs.length+es.length<=2^30) (hbase:base<=w.heap.size)
  (h:∀a' c' w',RowC w' base (.slice a' (n+m) c') (fs++es)->w.grownBy w' (Value.slice a0 n c0).ownBlock->((Value.slice a' (n+m) c').ownBlock=(Value.slice a0 n c0).ownBlock\/(Value.slice a' (n+m) c').ownBlock=some w.heap.size)->K (a.put oo.dst (.slice a' (n+m) c')) w'):if Region.wanted oo (yielded ops a.tmps)=true then Oper.wp prog oo a w K Q else E:=by
 have hw:Region.wanted oo (yielded ops a.tmps)=true:=by simp[Region.wanted,hgd]
 rw[if_pos hw];subst hn;subst hm;obtain⟨i,hi,a6,a5,a4⟩:=info_parts Tryz.infoCel;obtain⟨v',w',hr,a3,a7,a9,a8⟩:=run_append_own_at (P:=prog) w base 37 oo.type 73 i _ 5 72 underlying37 hi a6 a5 a4 rfl (by decide) (.slice a0 fs.length c0) fs.length (yBg fs) hO ⟨b,off,none⟩ es.length cx (yBg es) (yCo es) (λj u hu=>by rw[Addr.add_mid];exact hc.flat j u hu) (yMt es) (by unfold maxLen;omega) (by omega) hbase;rw[<-yCq]at a3;have y:(fs++es).length=fs.length+es.length:=by simp
 have hR:RowC w' base v' (fs++es):=by unfold RowC;rw[y];exact a3
 obtain⟨a',c',rfl⟩:∃a' c',v'=.slice a' (fs.length+es.length) c':=by
  rcases hR.cases with⟨q,q2⟩|⟨g,cp,q,_⟩
  .have h9:(fs++es).length=0:=by rw[q2];rfl
   rw[y]at h9;exact⟨none,0,by rw[h9];exact q⟩
  .exact⟨_,_,by rw[<-y];exact q⟩
 have hfin:=h a' c' w' hR a7 a8;exact yS4
structure LInv(base cb:Nat)(bv:Value)(n:Nat)(w:World)(g cp:Nat)(es:List Ent)(wr:World):Prop where
 row:OwnE wr w.heap.size g cp es
 ok:∀e∈es,e.small
 d:yAd base cb bv n wr
 c:Chg (λk=>k=cb) w wr
 lt:cb<w.heap.size
 hb:base<=w.heap.size
structure YInv(base cb:Nat)(bv:Value)(n:Nat)(w:World)(g cp:Nat)(es:List Ent)(vb:Nat)(f:Ent)(wr:World):Prop extends LInv base cb bv n w g cp es wr where
 var:OwnE wr w.heap.size vb 1 [f]
 ne:¬g=vb
variable {cb n:Nat} {bv:Value}
theorem LInv.call(h:LInv base cb bv n w g cp es wr)(hd:Drew base cb bv n wr w1):LInv base cb bv n w g cp es w1:=
 ⟨yAg h.row hd.2 (λk q=>by simp[Value.ownBlock]at q;subst q;have:=h.row.lt.1;have:=h.lt;omega),h.ok,hd.1,h.c.trans hd.2,h.lt,h.hb⟩
theorem LInv.below(h:LInv base cb bv n w g cp es wr)(hb:Below wr.heap.size wr w1):LInv base cb bv n w g cp es w1:=
 ⟨h.row.below hb h.row.lt.2,h.ok,h.d.below hb,h.c.trans (Chg.of_below hb),h.lt,h.hb⟩
theorem LInv.make(h:LInv base cb bv n w g cp es wr)(f:Ent):YInv base cb bv n w g cp es wr.heap.size f (wr.alloc (Obj.cells #[.string f.row,.string f.fam,.string f.qual,.int .u64 f.ts,.int .i64 f.kind,.string f.val] 64)):=
 {h.below (qB)with
  var:=yGv wr w.heap.size f h.c.size
  ne:=by have:=h.row.lt.2;omega}
variable {vb:Nat} {f:Ent}
theorem YInv.call(h:YInv base cb bv n w g cp es vb f wr)(hd:Drew base cb bv n wr w1):YInv base cb bv n w g cp es vb f w1:=
 {h.toLInv.call hd with
  var:=yAg h.var hd.2 (λk q=>by simp[Value.ownBlock]at q;subst q;have:=h.var.lt.1;have:=h.lt;omega)
  ne:=h.ne}
theorem YInv.set(h:YInv base cb bv n w g cp es vb f wr)(j:Nat)(f':Ent)(u:Value)(hj:j<6)(hc:f'.cells=f.cells.set j u):YInv base cb bv n w g cp es vb f' (wr.setCell ⟨vb,j,none⟩ u):=by have h1:=h.var.set 0 j f f' u rfl hj hc;simp only[Nat.zero_mul,Nat.zero_add]at h1;have hl:=h.var.lt;have a0:=h.lt;have a3:=h.hb;have y:Chg (λk=>k=vb) wr (wr.setCell ⟨vb,j,none⟩ u):=Chg.of_set _ _ _ _ rfl;exact {row:=yAg h.row y (λk q=>by simp[Value.ownBlock]at q;subst q;exact h.ne),ok:=h.ok,d:=h.d.chg y (by omega) (λk q=>by omega),c:=Chg.grown_new h.c (yAk wr vb j u) (λk hk=>by cases hk;exact hl.1),lt:=h.lt,hb:=h.hb,var:=h1,ne:=h.ne}
theorem YInv.cells(h:YInv base cb bv n w g cp es vb f wr):
  (wr.cell? ⟨vb,0,none⟩=some (.string f.row)/\wr.cell? ⟨vb,1,none⟩=some (.string f.fam)/\wr.cell? ⟨vb,2,none⟩=some (.string f.qual)/\wr.cell? ⟨vb,3,none⟩=some (.int .u64 f.ts)/\wr.cell? ⟨vb,4,none⟩=some (.int .i64 f.kind)/\wr.cell? ⟨vb,5,none⟩=some (.string f.val))/\∀j,wr.frozen? ⟨vb,j,none⟩=false:=by
 have:=h.var.at 0 f rfl;simp only[Nat.zero_add,Nat.zero_mul]at this;exact⟨this,λj=>World.ownsRow.frozenAt h.var j⟩
theorem YInv.push{o:Obj}(h:YInv base cb bv n w g cp es vb f wr)(hf:f.small)(hO:OwnE w' w.heap.size g' cp' (es++ [f]))(hgr:(wr.alloc o).grownBy w' (some g)):LInv base cb bv n w g' cp' (es++ [f]) w':=by exact xA7
theorem yP(base cb:Nat)(bv:Value)(n:Nat)(most:Nat)(w:World)(h:yAd base cb bv n w)(hm:most<=100):
  Calls prog 48 #[.pointer (some ⟨cb,0,none⟩),.int .i64 most] w λr w'=>∃(g cp:Nat)(es:List Ent),r=.returned (.slice (some ⟨g,0,none⟩) es.length cp)/\es.length<=100/\LInv base cb bv n w g cp es w':=by
 have HD:Hid (yAd base cb bv n w):=h;have aq:=h.lt;have ar:=h.base;clear h;go_enter func48,ntmps48;go_wp2_with fail;refine(yAh base cb bv n ((most:Int)/2+1) _ HD.out (by omega) (by omega)).mono ?_;rintro e w1 ⟨x,rfl,ax,aw,a8⟩;obtain⟨W2,a9⟩:=qE (w1.alloc (Obj.cells #[] 64):World);have H2:Hid (LInv base cb bv n w w1.heap.size 0 [] W2):=by
  have hb:Below w1.heap.size w1 W2:=by rw[a9];exact qB
  refine⟨?_,λe he=>by simp at he,a8.1.below hb,a8.2.trans (Chg.of_below hb),aq.2,ar⟩;rw[a9];exact World.ownsRow_made w1 #[] 0 a8.2.size (zero_le _) (by simp)
 obtain⟨m,ao⟩:∃m:Nat,(most:Int)/2+x=(m:Int):=⟨((most:Int)/2+x).toNat,by omega⟩;have ay:m<=100:=by omega
 go_wp2_with fail;rw[<-a9];clear a9 ao a8;go_loopw[6,7] (λo i wr=>∃(k g cp:Nat)(es:List Ent),k<=m/\i=.int .i64 k/\o=.slice (some ⟨g,0,none⟩) k cp/\es.length=k/\LInv base cb bv n w g cp es wr) (λ_ i _=>m-(intOf i).toNat);case atStart=>exact⟨0,_,0,[],zero_le _,rfl,rfl,rfl,H2.out⟩
 case round=>
  obtain⟨k,g,cp,es,hk,rfl,rfl,af,hL⟩:=hrel;have HL:Hid (es.length=k/\LInv base cb bv n w g cp es wr):=⟨af,hL⟩;clear af hL;by_cases hlk:k<m
  .have zk:(k:Int)<(m:Int):=by omega
   go_wp2_with fail;refine(yRl base cb bv n _ HL.2.d).mono ?_;rintro e w3 ⟨f,rfl,hf,ai⟩;have au:Hid (LInv base cb bv n w g cp es w3):=HL.2.call ai;clear ai;obtain⟨W4,ab⟩:=qE (w3.alloc (Obj.cells #[.string f.row,.string f.fam,.string f.qual,.int .u64 f.ts,.int .i64 f.kind,.string f.val] 64):World);have a4:Hid (YInv base cb bv n w g cp es w3.heap.size f W4/\f.small/\es.length=k):=⟨by rw[ab];exact au.make f,hf,HL.1⟩;go_upto_region 7 with fail;rw[<-ab];clear ab;generalize w3.heap.size=vb at*;by_cases hk0:k=0
   .have aj:¬(0:Int)<(k:Int):=by omega
    clear hk0;obtain⟨⟨k0,k1,k2,k3,k4,k5⟩,_⟩:=a4.1.cells;have ae:=a4.1.row.lt;have ad:=a4.1.c.size;have a6:Hid (k=es.length):=a4.2.2.symm;go_wp2_with (at_builtin;refine yAo _ rfl _ _ rfl w.heap.size g cp _ _ es f rfl rfl a6.out ?hO ?hc ?hl ?hb ?_);case hO=>exact a4.1.row.below (qB) (by omega)
    case hc=>exact yDj W4 f
    case hl=>rw[<-a6.out];omega
    case hb=>first|(simp;omega)|omega
    intro g' cp' w' hO' hgr;have HN:Hid (LInv base cb bv n w g' cp' (es++ [f]) w'/\(es++ [f]).length=k+1):=⟨a4.1.push a4.2.1 hO' hgr,by simp[a4.2.2]⟩;exact xAb
   .have aj:(0:Int)<(k:Int):=by omega
    go_wp2_with fail;refine(yAx base cb bv n 2 _ a4.1.d (by omega) (by omega)).mono ?_;rintro e w5 ⟨v,rfl,hv,ah⟩;have a3:Hid (YInv base cb bv n w g cp es vb f w5/\f.small/\es.length=k):=⟨a4.1.call ah,a4.2⟩;clear ah;rcases hv with rfl|rfl
    .go_wp2_with fail;refine(yAh base cb bv n (k:Int) _ a3.1.d (by omega) (by omega)).mono ?_;rintro e w6 ⟨y,rfl,an,av,ag⟩;have a7:Hid (YInv base cb bv n w g cp es vb f w6/\f.small/\es.length=k):=⟨a3.1.call ag,a3.2⟩;clear ag;obtain⟨j,rfl⟩:=Int.eq_ofNat_of_zero_le an;obtain⟨x,hx⟩:∃x,es[j]?=some x:=⟨_,getElem?_eq_getElem (by have:=a7.2.2;omega)⟩;have ac:Hid (x.small):=a7.1.ok x (mem_of_getElem? hx);have hA:=a7.1.set 0 {f with row:=x.row} (.string x.row) (by omega) rfl;have hB:=hA.set 1 {f with row:=x.row,fam:=x.fam} (.string x.fam) (by omega) rfl;have hC:=hB.set 2 {f with row:=x.row,fam:=x.fam,qual:=x.qual} (.string x.qual) (by omega) rfl;obtain⟨a0,a1,a2,_⟩:=a7.1.row.at j x hx;obtain⟨b0,b1,b2,_⟩:=hA.row.at j x hx;obtain⟨c0,c1,c2,_⟩:=hB.row.at j x hx;simp only[Nat.zero_add]at a0 a1 a2 b0 b1 b2 c0 c1 c2;obtain⟨⟨k0,_⟩,kf⟩:=a7.1.cells;obtain⟨⟨_,k1,_⟩,kg⟩:=hA.cells;obtain⟨⟨_,_,k2,_⟩,kh⟩:=hB.cells;have am:=kf 0;have al:=kg 1;have ak:=kh 2;simp only at k1 k2;obtain⟨W7,aa⟩:=qE (((w6.setCell ⟨vb,0,none⟩ (.string x.row)).setCell ⟨vb,1,none⟩ (.string x.fam)).setCell ⟨vb,2,none⟩ (.string x.qual):World);have a5:Hid (YInv base cb bv n w g cp es vb {f with row:=x.row,fam:=x.fam,qual:=x.qual} W7/\({f with row:=x.row,fam:=x.fam,qual:=x.qual}:Ent).small/\es.length=k):=by refine⟨by rw[aa];exact hC,⟨ac.row,ac.fam,ac.qual,hf.val,hf.ts,hf.kind⟩,a7.2.2⟩
     clear hA hB hC kf kg kh hx;go_upto_region 12 with fail;rw[<-aa];clear aa a0 a1 a2 b0 b1 b2 c0 c1 c2 k0 k1 k2 am al ak;generalize ({f with row:=x.row,fam:=x.fam,qual:=x.qual}:Ent)=f7 at*;obtain⟨⟨k0,k1,k2,k3,k4,k5⟩,_⟩:=a5.1.cells;have ae:=a5.1.row.lt;have ad:=a5.1.c.size;have a6:Hid (k=es.length):=a5.2.2.symm;go_wp2_with (at_builtin;refine yAo _ rfl _ _ rfl w.heap.size g cp _ _ es f7 rfl rfl a6.out ?hO ?hc ?hl ?hb ?_);case hO=>exact a5.1.row.below (qB) (by omega)
     case hc=>exact yDj W7 f7
     case hl=>rw[<-a6.out];omega
     case hb=>first|(simp;omega)|omega
     intro g' cp' w' hO' hgr;have HN:Hid (LInv base cb bv n w g' cp' (es++ [f7]) w'/\(es++ [f7]).length=k+1):=⟨a5.1.push a5.2.1 hO' hgr,by simp[a5.2.2]⟩;clear hO' hgr;go_wp2_with fail;go_roundw;case rel=>exact⟨k+1,g',cp',es++ [f7],by omega,by go_num,rfl,HN.2,HN.1⟩
     case measure=>go_light;simp[intOf];omega
    .obtain⟨⟨k0,k1,k2,k3,k4,k5⟩,_⟩:=a3.1.cells;have ae:=a3.1.row.lt;have ad:=a3.1.c.size;have a6:Hid (k=es.length):=a3.2.2.symm;go_wp2_with (at_builtin;refine yAo _ rfl _ _ rfl w.heap.size g cp _ _ es f rfl rfl a6.out ?hO ?hc ?hl ?hb ?_);case hO=>exact a3.1.row.below (qB) (by omega)
     case hc=>exact yDj w5 f
     case hl=>rw[<-a6.out];omega
     case hb=>first|(simp;omega)|omega
     intro g' cp' w' hO' hgr;have HN:Hid (LInv base cb bv n w g' cp' (es++ [f]) w'/\(es++ [f]).length=k+1):=⟨a3.1.push a3.2.1 hO' hgr,by simp[a3.2.2]⟩;exact xAb
  .have zk:¬(k:Int)<(m:Int):=by omega
   have HE:Hid (k=es.length):=HL.1.symm;go_wp2_with fail;go_ret;refine⟨g,cp,es,?_,by rw[<-HE.out];omega,HL.2⟩;show Ending.returned (Value.slice (some ⟨g,0,none⟩) k cp)=_;rw[HE.out]
theorem yTo(a:Option Addr)(n cap:Nat)(w:World)(hn:n<=1048576):
  Calls prog 49 #[.slice a n cap] w λe w'=>∃k:Nat,e=.returned (.int .i64 k)/\k<=22/\w'=w:=by
 by_cases hb:(22:Int)<8+(n:Int)/16
 .go_enter func49,ntmps49;go_wp2_with fail;go_ret;exact⟨22,rfl,Nat.le_refl _,rfl⟩
 .obtain⟨k,hk⟩:∃k:Nat,(8:Int)+(n:Int)/16=(k:Int):=⟨8+n/16,by omega⟩;have y:k<=22:=by omega
  go_enter func49,ntmps49;go_wp2_with fail;go_ret;exact⟨k,rfl,y,rfl⟩
structure XInv(base cb:Nat)(bv:Value)(n:Nat)(w:World)(T sz vb rb:Nat)(vs zs:List Value)(wr:World):Prop where
 var:wr.ownsRow w.heap.size T sz (.slice (some ⟨vb,0,none⟩) 1 1) 1 vs
 res:wr.ownsRow w.heap.size T sz (.slice (some ⟨rb,0,none⟩) 1 1) 1 zs
 ne:¬vb=rb
 d:yAd base cb bv n wr
 c:Chg (λk=>k=cb) w wr
 lt:cb<w.heap.size
 hb:base<=w.heap.size
variable {T sz:Nat} {vs zs:List Value}
theorem XInv.call(h:XInv base cb bv n w T sz vb rb vs zs wr)(hd:Drew base cb bv n wr w1):XInv base cb bv n w T sz vb rb vs zs w1:=
 ⟨yAg h.var hd.2 (λk q=>by have h1:=(World.ownsRow.lt h.var k q).1;have:=h.lt;omega),yAg h.res hd.2 (λk q=>by have h1:=(World.ownsRow.lt h.res k q).1;have:=h.lt;omega),h.ne,hd.1,h.c.trans hd.2,h.lt,h.hb⟩
theorem XInv.below(h:XInv base cb bv n w T sz vb rb vs zs wr)(hb:Below wr.heap.size wr w1):XInv base cb bv n w T sz vb rb vs zs w1:=
 h.call ⟨h.d.below hb,Chg.of_below hb⟩
theorem XInv.set(h:XInv base cb bv n w T sz vb rb vs zs wr)(j:Nat)(u:Value):XInv base cb bv n w T sz vb rb (vs.set j u) zs (wr.setCell ⟨vb,j,none⟩ u):=by have hl:=World.ownsRow.lt h.var vb rfl;have a0:=h.lt;have a3:=h.hb;have y:Chg (λk=>k=vb) wr (wr.setCell ⟨vb,j,none⟩ u):=Chg.of_set _ _ _ _ rfl;exact⟨(World.ownsRow.stored h.var j u).1,yAg h.res y (λk q=>by simp[Value.ownBlock]at q;subst q;exact λq=>h.ne q.symm),h.ne,h.d.chg y (by omega) (λk q=>by omega),Chg.grown_new h.c (yAk wr vb j u) (λk hk=>by cases hk;exact hl.1),h.lt,h.hb⟩
theorem XInv.setRes(h:XInv base cb bv n w T sz vb rb vs zs wr)(j:Nat)(u:Value):XInv base cb bv n w T sz vb rb vs (zs.set j u) (wr.setCell ⟨rb,j,none⟩ u):=by have hl:=World.ownsRow.lt h.res rb rfl;have a0:=h.lt;have a3:=h.hb;have y:Chg (λk=>k=rb) wr (wr.setCell ⟨rb,j,none⟩ u):=Chg.of_set _ _ _ _ rfl;exact⟨yAg h.var y (λk q=>by simp[Value.ownBlock]at q;subst q;exact h.ne),(World.ownsRow.stored h.res j u).1,h.ne,h.d.chg y (by omega) (λk q=>by omega),Chg.grown_new h.c (yAk wr rb j u) (λk hk=>by cases hk;exact hl.1),h.lt,h.hb⟩
theorem XInv.cell(h:XInv base cb bv n w T sz vb rb vs zs wr)(j:Nat)(hj:j<1*sz):wr.cell? ⟨vb,j,none⟩=vs[j]?/\wr.frozen? ⟨vb,j,none⟩=false:=
 ⟨World.ownsRow.cellAt h.var j hj,World.ownsRow.frozenAt h.var j⟩
theorem XInv.cellRes(h:XInv base cb bv n w T sz vb rb vs zs wr)(j:Nat)(hj:j<1*sz):wr.cell? ⟨rb,j,none⟩=zs[j]?/\wr.frozen? ⟨rb,j,none⟩=false:=
 ⟨World.ownsRow.cellAt h.res j hj,World.ownsRow.frozenAt h.res j⟩
abbrev rgv(lo:ByteArray)(hh:Bool)(hi:ByteArray):List Value:= [.string lo,.bool hh,.string hi]
abbrev RX(base cb:Nat)(bv:Value)(n:Nat)(w:World)(vb:Nat)(lo:ByteArray)(hh:Bool)(hi:ByteArray)(wr:World):Prop:=XInv base cb bv n w 30 3 vb w.heap.size (rgv lo hh hi) (rgv ⟨#[]⟩ false ⟨#[]⟩) wr
theorem yRx(base cb:Nat)(bv:Value)(n:Nat)(w:World)(h:yAd base cb bv n w):
  Calls prog 20 #[.pointer (some ⟨cb,0,none⟩)] w λr w'=>∃(lo:ByteArray)(hv:Value)(hi:ByteArray),r=.returned (.agg #[.string lo,hv,.string hi])/\(hv=.bool true\/hv=.bool false)/\lo.size<=1000/\hi.size<=1000/\Drew base cb bv n w w':=by
 have ak:=h.lt;have ar:=h.base;obtain⟨Wa,ab⟩:=qE (w.alloc (Obj.cells #[.string ⟨#[]⟩,.bool false,.string ⟨#[]⟩] 30):World);have ah:Below w.heap.size w Wa:=by rw[ab];exact qB
 have aj:Wa.heap.size=w.heap.size+1:=by rw[ab];simp
 obtain⟨Wb,af⟩:=qE (Wa.alloc (Obj.cells #[.string ⟨#[]⟩,.bool false,.string ⟨#[]⟩] 30):World);have ae:Below Wa.heap.size Wa Wb:=by rw[af];exact qB
 have H0:Hid (RX base cb bv n w (w.heap.size+1) ⟨#[]⟩ false ⟨#[]⟩ Wb):=by
  refine⟨?_,?_,by omega,(h.below ah).below ae,(Chg.of_below ah).trans (Chg.of_below ae),ak.2,ar⟩
  .rw[af,<-aj];exact World.ownsRow_lit Wa #[.string ⟨#[]⟩,.bool false,.string ⟨#[]⟩] 1 (by omega) (by decide) rfl
  .have:Wa.ownsRow w.heap.size 30 3 (.slice (some ⟨w.heap.size,0,none⟩) 1 1) 1 (rgv ⟨#[]⟩ false ⟨#[]⟩):=by rw[ab];exact World.ownsRow_lit w #[.string ⟨#[]⟩,.bool false,.string ⟨#[]⟩] 1 (Nat.le_refl _) (by decide) rfl
   exact yAg (S:=λ_=>False) this (Chg.of_below ae) (λk _ q=>q)
 clear h ak;go_enter func20,ntmps20;go_wp2_with fail;rw[<-ab,<-af];clear ab af ah ae aj;generalize w.heap.size+1=vb at*;refine(yAx base cb bv n 2 _ H0.d (by omega) (by omega)).mono ?_;rintro e w1 ⟨v,rfl,hv,am⟩;have H1:Hid (RX base cb bv n w vb ⟨#[]⟩ false ⟨#[]⟩ w1):=H0.call am;clear am;rcases hv with rfl|rfl
 .go_wp2_with fail;refine(yAu base cb bv n 0 2 _ H1.d (by omega) (by omega) (by omega)).mono ?_;rintro e w2 ⟨s2,rfl,au,al⟩;have H2:Hid (RX base cb bv n w vb ⟨#[]⟩ false ⟨#[]⟩ w2):=H1.call al;clear al;obtain⟨m0,ao⟩:=H2.cell 0 (by decide);simp only[getElem?_cons_zero,getElem?_cons_succ]at m0;obtain⟨W2,ai⟩:=qE (w2.setCell ⟨vb,0,none⟩ (.string s2):World);have an:Hid (RX base cb bv n w vb s2 false ⟨#[]⟩ W2):=by show RX base cb bv n w vb s2 false ⟨#[]⟩ W2;rw[ai];exact H2.set 0 (.string s2)
  go_upto_region 4 with fail;rw[<-ai];clear ai m0 ao;go_wp2_with fail;refine(yAx base cb bv n 3 _ an.d (by omega) (by omega)).mono ?_;rintro e w3 ⟨v,rfl,hv,aa⟩;have H3:Hid (RX base cb bv n w vb s2 false ⟨#[]⟩ w3):=an.call aa;clear aa;rcases hv with rfl|rfl
  .obtain⟨m1,ag⟩:=H3.cell 1 (by decide);simp only[getElem?_cons_zero,getElem?_cons_succ]at m1;have ad:Hid (RX base cb bv n w vb s2 true ⟨#[]⟩ (w3.setCell ⟨vb,1,none⟩ (.bool true))):=H3.set 1 (.bool true);go_wp2_with fail;refine(yAu base cb bv n 1 2 _ ad.d (by omega) (by omega) (by omega)).mono ?_;rintro e w4 ⟨s4,rfl,aq,a9⟩;have H4:Hid (RX base cb bv n w vb s2 true ⟨#[]⟩ w4):=ad.call a9;clear a9 m1 ag;obtain⟨m2,a3⟩:=H4.cell 2 (by decide);simp only[getElem?_cons_zero,getElem?_cons_succ]at m2;obtain⟨W4,a8⟩:=qE (w4.setCell ⟨vb,2,none⟩ (.string s4):World);have ac:Hid (RX base cb bv n w vb s2 true s4 W4):=by show RX base cb bv n w vb s2 true s4 W4;rw[a8];exact H4.set 2 (.string s4)
   go_upto_region 7 with fail;rw[<-a8];clear a8 m2 a3;go_wp2_with fail;refine(yAx base cb bv n 20 _ ac.d (by omega) (by omega)).mono ?_;rintro e w5 ⟨v,rfl,hv,a4⟩;have H5:Hid (RX base cb bv n w vb s2 true s4 w5):=ac.call a4;clear a4;rcases hv with rfl|rfl
   .obtain⟨m2,a3⟩:=H5.cell 2 (by decide);simp only[getElem?_cons_zero,getElem?_cons_succ]at m2;obtain⟨W6,a0⟩:=qE (w5.setCell ⟨vb,2,none⟩ (.string ⟨#[98]⟩):World);have H6:Hid (RX base cb bv n w vb s2 true ⟨#[98]⟩ W6):=by show RX base cb bv n w vb s2 true ⟨#[98]⟩ W6;rw[a0];exact H5.set 2 (.string ⟨#[98]⟩)
    go_upto_region 9 with fail;rw[<-a0];clear a0 m2 a3;obtain⟨k0,_⟩:=H6.cell 0 (by decide);obtain⟨k1,_⟩:=H6.cell 1 (by decide);obtain⟨k2,_⟩:=H6.cell 2 (by decide);obtain⟨l0,a7⟩:=H6.cellRes 0 (by decide);obtain⟨l1,a6⟩:=H6.cellRes 1 (by decide);obtain⟨l2,a5⟩:=H6.cellRes 2 (by decide);simp only[getElem?_cons_zero,getElem?_cons_succ]at k0 k1 k2 l0 l1 l2;obtain⟨W9,y⟩:=qE (((W6.setCell ⟨w.heap.size,0,none⟩ (.string s2)).setCell ⟨w.heap.size,1,none⟩ (.bool true)).setCell ⟨w.heap.size,2,none⟩ (.string ⟨#[98]⟩):World);have H9:=((H6.setRes 0 (.string s2)).setRes 1 (.bool true)).setRes 2 (.string ⟨#[98]⟩);rw[<-y]at H9;have p0:=(H9.cellRes 0 (by decide)).1;have p1:=(H9.cellRes 1 (by decide)).1;have p2:=(H9.cellRes 2 (by decide)).1;simp only[rgv,set_cons_zero,set_cons_succ,getElem?_cons_zero,getElem?_cons_succ]at p0 p1 p2;have HR:Hid (Drew base cb bv n w W9):=⟨H9.d,H9.c⟩;clear H9;go_wp2_with fail;rw[<-y];exact bodyPost_ret (v:=.agg #[.string s2,.bool true,.string ⟨#[98]⟩]) (by simp[results,results20,go_sem,p0,p1,p2]) rfl ⟨_,_,_,rfl,.inl rfl,by omega,by decide,HR.1,HR.2⟩
   .obtain⟨k0,_⟩:=H5.cell 0 (by decide);obtain⟨k1,_⟩:=H5.cell 1 (by decide);obtain⟨k2,_⟩:=H5.cell 2 (by decide);obtain⟨l0,a7⟩:=H5.cellRes 0 (by decide);obtain⟨l1,a6⟩:=H5.cellRes 1 (by decide);obtain⟨l2,a5⟩:=H5.cellRes 2 (by decide);simp only[getElem?_cons_zero,getElem?_cons_succ]at k0 k1 k2 l0 l1 l2;obtain⟨W9,y⟩:=qE (((w5.setCell ⟨w.heap.size,0,none⟩ (.string s2)).setCell ⟨w.heap.size,1,none⟩ (.bool true)).setCell ⟨w.heap.size,2,none⟩ (.string s4):World);have H9:=((H5.setRes 0 (.string s2)).setRes 1 (.bool true)).setRes 2 (.string s4);rw[<-y]at H9;have p0:=(H9.cellRes 0 (by decide)).1;have p1:=(H9.cellRes 1 (by decide)).1;have p2:=(H9.cellRes 2 (by decide)).1;simp only[rgv,set_cons_zero,set_cons_succ,getElem?_cons_zero,getElem?_cons_succ]at p0 p1 p2;have HR:Hid (Drew base cb bv n w W9):=⟨H9.d,H9.c⟩;clear H9;go_wp2_with fail;rw[<-y];exact bodyPost_ret (v:=.agg #[.string s2,.bool true,.string s4]) (by simp[results,results20,go_sem,p0,p1,p2]) rfl ⟨_,_,_,rfl,.inl rfl,by omega,by omega,HR.1,HR.2⟩
  .go_wp2_with fail;refine(yAx base cb bv n 20 _ H3.d (by omega) (by omega)).mono ?_;rintro e w5 ⟨v,rfl,hv,a4⟩;have H5:Hid (RX base cb bv n w vb s2 false ⟨#[]⟩ w5):=H3.call a4;clear a4;rcases hv with rfl|rfl
   .obtain⟨m2,a3⟩:=H5.cell 2 (by decide);simp only[getElem?_cons_zero,getElem?_cons_succ]at m2;obtain⟨W6,a0⟩:=qE (w5.setCell ⟨vb,2,none⟩ (.string ⟨#[98]⟩):World);have H6:Hid (RX base cb bv n w vb s2 false ⟨#[98]⟩ W6):=by show RX base cb bv n w vb s2 false ⟨#[98]⟩ W6;rw[a0];exact H5.set 2 (.string ⟨#[98]⟩)
    go_upto_region 9 with fail;rw[<-a0];clear a0 m2 a3;obtain⟨k0,_⟩:=H6.cell 0 (by decide);obtain⟨k1,_⟩:=H6.cell 1 (by decide);obtain⟨k2,_⟩:=H6.cell 2 (by decide);obtain⟨l0,a7⟩:=H6.cellRes 0 (by decide);obtain⟨l1,a6⟩:=H6.cellRes 1 (by decide);obtain⟨l2,a5⟩:=H6.cellRes 2 (by decide);simp only[getElem?_cons_zero,getElem?_cons_succ]at k0 k1 k2 l0 l1 l2;obtain⟨W9,y⟩:=qE (((W6.setCell ⟨w.heap.size,0,none⟩ (.string s2)).setCell ⟨w.heap.size,1,none⟩ (.bool false)).setCell ⟨w.heap.size,2,none⟩ (.string ⟨#[98]⟩):World);have H9:=((H6.setRes 0 (.string s2)).setRes 1 (.bool false)).setRes 2 (.string ⟨#[98]⟩);rw[<-y]at H9;have p0:=(H9.cellRes 0 (by decide)).1;have p1:=(H9.cellRes 1 (by decide)).1;have p2:=(H9.cellRes 2 (by decide)).1;simp only[rgv,set_cons_zero,set_cons_succ,getElem?_cons_zero,getElem?_cons_succ]at p0 p1 p2;have HR:Hid (Drew base cb bv n w W9):=⟨H9.d,H9.c⟩;clear H9;go_wp2_with fail;rw[<-y];exact bodyPost_ret (v:=.agg #[.string s2,.bool false,.string ⟨#[98]⟩]) (by simp[results,results20,go_sem,p0,p1,p2]) rfl ⟨_,_,_,rfl,.inr rfl,by omega,by decide,HR.1,HR.2⟩
   .obtain⟨k0,_⟩:=H5.cell 0 (by decide);obtain⟨k1,_⟩:=H5.cell 1 (by decide);obtain⟨k2,_⟩:=H5.cell 2 (by decide);obtain⟨l0,a7⟩:=H5.cellRes 0 (by decide);obtain⟨l1,a6⟩:=H5.cellRes 1 (by decide);obtain⟨l2,a5⟩:=H5.cellRes 2 (by decide);simp only[getElem?_cons_zero,getElem?_cons_succ]at k0 k1 k2 l0 l1 l2;obtain⟨W9,y⟩:=qE (((w5.setCell ⟨w.heap.size,0,none⟩ (.string s2)).setCell ⟨w.heap.size,1,none⟩ (.bool false)).setCell ⟨w.heap.size,2,none⟩ (.string ⟨#[]⟩):World);have H9:=((H5.setRes 0 (.string s2)).setRes 1 (.bool false)).setRes 2 (.string ⟨#[]⟩);rw[<-y]at H9;have p0:=(H9.cellRes 0 (by decide)).1;have p1:=(H9.cellRes 1 (by decide)).1;have p2:=(H9.cellRes 2 (by decide)).1;simp only[rgv,set_cons_zero,set_cons_succ,getElem?_cons_zero,getElem?_cons_succ]at p0 p1 p2;have HR:Hid (Drew base cb bv n w W9):=⟨H9.d,H9.c⟩;clear H9;go_wp2_with fail;rw[<-y];exact bodyPost_ret (v:=.agg #[.string s2,.bool false,.string ⟨#[]⟩]) (by simp[results,results20,go_sem,p0,p1,p2]) rfl ⟨_,_,_,rfl,.inr rfl,by omega,by decide,HR.1,HR.2⟩
 .go_wp2_with fail;refine(yAx base cb bv n 3 _ H1.d (by omega) (by omega)).mono ?_;rintro e w3 ⟨v,rfl,hv,aa⟩;have H3:Hid (RX base cb bv n w vb ⟨#[]⟩ false ⟨#[]⟩ w3):=H1.call aa;clear aa;rcases hv with rfl|rfl
  .obtain⟨m1,ag⟩:=H3.cell 1 (by decide);simp only[getElem?_cons_zero,getElem?_cons_succ]at m1;have ad:Hid (RX base cb bv n w vb ⟨#[]⟩ true ⟨#[]⟩ (w3.setCell ⟨vb,1,none⟩ (.bool true))):=H3.set 1 (.bool true);go_wp2_with fail;refine(yAu base cb bv n 1 2 _ ad.d (by omega) (by omega) (by omega)).mono ?_;rintro e w4 ⟨s4,rfl,aq,a9⟩;have H4:Hid (RX base cb bv n w vb ⟨#[]⟩ true ⟨#[]⟩ w4):=ad.call a9;clear a9 m1 ag;obtain⟨m2,a3⟩:=H4.cell 2 (by decide);simp only[getElem?_cons_zero,getElem?_cons_succ]at m2;obtain⟨W4,a8⟩:=qE (w4.setCell ⟨vb,2,none⟩ (.string s4):World);have ac:Hid (RX base cb bv n w vb ⟨#[]⟩ true s4 W4):=by show RX base cb bv n w vb ⟨#[]⟩ true s4 W4;rw[a8];exact H4.set 2 (.string s4)
   go_upto_region 7 with fail;rw[<-a8];clear a8 m2 a3;go_wp2_with fail;refine(yAx base cb bv n 20 _ ac.d (by omega) (by omega)).mono ?_;rintro e w5 ⟨v,rfl,hv,a4⟩;have H5:Hid (RX base cb bv n w vb ⟨#[]⟩ true s4 w5):=ac.call a4;clear a4;rcases hv with rfl|rfl
   .obtain⟨m2,a3⟩:=H5.cell 2 (by decide);simp only[getElem?_cons_zero,getElem?_cons_succ]at m2;obtain⟨W6,a0⟩:=qE (w5.setCell ⟨vb,2,none⟩ (.string ⟨#[98]⟩):World);have H6:Hid (RX base cb bv n w vb ⟨#[]⟩ true ⟨#[98]⟩ W6):=by show RX base cb bv n w vb ⟨#[]⟩ true ⟨#[98]⟩ W6;rw[a0];exact H5.set 2 (.string ⟨#[98]⟩)
    go_upto_region 9 with fail;rw[<-a0];clear a0 m2 a3;obtain⟨k0,_⟩:=H6.cell 0 (by decide);obtain⟨k1,_⟩:=H6.cell 1 (by decide);obtain⟨k2,_⟩:=H6.cell 2 (by decide);obtain⟨l0,a7⟩:=H6.cellRes 0 (by decide);obtain⟨l1,a6⟩:=H6.cellRes 1 (by decide);obtain⟨l2,a5⟩:=H6.cellRes 2 (by decide);simp only[getElem?_cons_zero,getElem?_cons_succ]at k0 k1 k2 l0 l1 l2;obtain⟨W9,y⟩:=qE (((W6.setCell ⟨w.heap.size,0,none⟩ (.string ⟨#[]⟩)).setCell ⟨w.heap.size,1,none⟩ (.bool true)).setCell ⟨w.heap.size,2,none⟩ (.string ⟨#[98]⟩):World);have H9:=((H6.setRes 0 (.string ⟨#[]⟩)).setRes 1 (.bool true)).setRes 2 (.string ⟨#[98]⟩);rw[<-y]at H9;have p0:=(H9.cellRes 0 (by decide)).1;have p1:=(H9.cellRes 1 (by decide)).1;have p2:=(H9.cellRes 2 (by decide)).1;simp only[rgv,set_cons_zero,set_cons_succ,getElem?_cons_zero,getElem?_cons_succ]at p0 p1 p2;have HR:Hid (Drew base cb bv n w W9):=⟨H9.d,H9.c⟩;clear H9;go_wp2_with fail;rw[<-y];exact bodyPost_ret (v:=.agg #[.string ⟨#[]⟩,.bool true,.string ⟨#[98]⟩]) (by simp[results,results20,go_sem,p0,p1,p2]) rfl ⟨_,_,_,rfl,.inl rfl,by decide,by decide,HR.1,HR.2⟩
   .obtain⟨k0,_⟩:=H5.cell 0 (by decide);obtain⟨k1,_⟩:=H5.cell 1 (by decide);obtain⟨k2,_⟩:=H5.cell 2 (by decide);obtain⟨l0,a7⟩:=H5.cellRes 0 (by decide);obtain⟨l1,a6⟩:=H5.cellRes 1 (by decide);obtain⟨l2,a5⟩:=H5.cellRes 2 (by decide);simp only[getElem?_cons_zero,getElem?_cons_succ]at k0 k1 k2 l0 l1 l2;obtain⟨W9,y⟩:=qE (((w5.setCell ⟨w.heap.size,0,none⟩ (.string ⟨#[]⟩)).setCell ⟨w.heap.size,1,none⟩ (.bool true)).setCell ⟨w.heap.size,2,none⟩ (.string s4):World);have H9:=((H5.setRes 0 (.string ⟨#[]⟩)).setRes 1 (.bool true)).setRes 2 (.string s4);rw[<-y]at H9;have p0:=(H9.cellRes 0 (by decide)).1;have p1:=(H9.cellRes 1 (by decide)).1;have p2:=(H9.cellRes 2 (by decide)).1;simp only[rgv,set_cons_zero,set_cons_succ,getElem?_cons_zero,getElem?_cons_succ]at p0 p1 p2;have HR:Hid (Drew base cb bv n w W9):=⟨H9.d,H9.c⟩;clear H9;go_wp2_with fail;rw[<-y];exact bodyPost_ret (v:=.agg #[.string ⟨#[]⟩,.bool true,.string s4]) (by simp[results,results20,go_sem,p0,p1,p2]) rfl ⟨_,_,_,rfl,.inl rfl,by decide,by omega,HR.1,HR.2⟩
  .go_wp2_with fail;refine(yAx base cb bv n 20 _ H3.d (by omega) (by omega)).mono ?_;rintro e w5 ⟨v,rfl,hv,a4⟩;have H5:Hid (RX base cb bv n w vb ⟨#[]⟩ false ⟨#[]⟩ w5):=H3.call a4;clear a4;rcases hv with rfl|rfl
   .obtain⟨m2,a3⟩:=H5.cell 2 (by decide);simp only[getElem?_cons_zero,getElem?_cons_succ]at m2;obtain⟨W6,a0⟩:=qE (w5.setCell ⟨vb,2,none⟩ (.string ⟨#[98]⟩):World);have H6:Hid (RX base cb bv n w vb ⟨#[]⟩ false ⟨#[98]⟩ W6):=by show RX base cb bv n w vb ⟨#[]⟩ false ⟨#[98]⟩ W6;rw[a0];exact H5.set 2 (.string ⟨#[98]⟩)
    go_upto_region 9 with fail;rw[<-a0];clear a0 m2 a3;obtain⟨k0,_⟩:=H6.cell 0 (by decide);obtain⟨k1,_⟩:=H6.cell 1 (by decide);obtain⟨k2,_⟩:=H6.cell 2 (by decide);obtain⟨l0,a7⟩:=H6.cellRes 0 (by decide);obtain⟨l1,a6⟩:=H6.cellRes 1 (by decide);obtain⟨l2,a5⟩:=H6.cellRes 2 (by decide);simp only[getElem?_cons_zero,getElem?_cons_succ]at k0 k1 k2 l0 l1 l2;obtain⟨W9,y⟩:=qE (((W6.setCell ⟨w.heap.size,0,none⟩ (.string ⟨#[]⟩)).setCell ⟨w.heap.size,1,none⟩ (.bool false)).setCell ⟨w.heap.size,2,none⟩ (.string ⟨#[98]⟩):World);have H9:=((H6.setRes 0 (.string ⟨#[]⟩)).setRes 1 (.bool false)).setRes 2 (.string ⟨#[98]⟩);rw[<-y]at H9;have p0:=(H9.cellRes 0 (by decide)).1;have p1:=(H9.cellRes 1 (by decide)).1;have p2:=(H9.cellRes 2 (by decide)).1;simp only[rgv,set_cons_zero,set_cons_succ,getElem?_cons_zero,getElem?_cons_succ]at p0 p1 p2;have HR:Hid (Drew base cb bv n w W9):=⟨H9.d,H9.c⟩;clear H9;go_wp2_with fail;rw[<-y];exact bodyPost_ret (v:=.agg #[.string ⟨#[]⟩,.bool false,.string ⟨#[98]⟩]) (by simp[results,results20,go_sem,p0,p1,p2]) rfl ⟨_,_,_,rfl,.inr rfl,by decide,by decide,HR.1,HR.2⟩
   .obtain⟨k0,_⟩:=H5.cell 0 (by decide);obtain⟨k1,_⟩:=H5.cell 1 (by decide);obtain⟨k2,_⟩:=H5.cell 2 (by decide);obtain⟨l0,a7⟩:=H5.cellRes 0 (by decide);obtain⟨l1,a6⟩:=H5.cellRes 1 (by decide);obtain⟨l2,a5⟩:=H5.cellRes 2 (by decide);simp only[getElem?_cons_zero,getElem?_cons_succ]at k0 k1 k2 l0 l1 l2;obtain⟨W9,y⟩:=qE (((w5.setCell ⟨w.heap.size,0,none⟩ (.string ⟨#[]⟩)).setCell ⟨w.heap.size,1,none⟩ (.bool false)).setCell ⟨w.heap.size,2,none⟩ (.string ⟨#[]⟩):World);have H9:=((H5.setRes 0 (.string ⟨#[]⟩)).setRes 1 (.bool false)).setRes 2 (.string ⟨#[]⟩);rw[<-y]at H9;have p0:=(H9.cellRes 0 (by decide)).1;have p1:=(H9.cellRes 1 (by decide)).1;have p2:=(H9.cellRes 2 (by decide)).1;simp only[rgv,set_cons_zero,set_cons_succ,getElem?_cons_zero,getElem?_cons_succ]at p0 p1 p2;have HR:Hid (Drew base cb bv n w W9):=⟨H9.d,H9.c⟩;clear H9;go_wp2_with fail;rw[<-y];exact bodyPost_ret (v:=.agg #[.string ⟨#[]⟩,.bool false,.string ⟨#[]⟩]) (by simp[results,results20,go_sem,p0,p1,p2]) rfl ⟨_,_,_,rfl,.inr rfl,by decide,by decide,HR.1,HR.2⟩
theorem WInv.below{eb:Nat}(h:WInv base cb bv n w eb rb f wr)(hb:Below wr.heap.size wr w1):WInv base cb bv n w eb rb f w1:=h.call ⟨h.d.below hb,Chg.of_below hb⟩
theorem yPg(base cb:Nat)(bv:Value)(n:Nat)(f:Ent)(w:World)(h:yAd base cb bv n w)(hf:f.small):
  Calls prog 99 #[.pointer (some ⟨cb,0,none⟩),.agg #[.string f.row,.string f.fam,.string f.qual,.int .u64 f.ts,.int .i64 f.kind,.string f.val]] w λr w'=>∃e:Ent,r=.returned e.v/\e.small/\Drew base cb bv n w w':=by
 have aa:=h.lt;have ae:=h.base;have HS:Hid f.small:=hf;obtain⟨Wa,a5⟩:=qE (w.alloc (Obj.cells #[.string f.row,.string f.fam,.string f.qual,.int .u64 f.ts,.int .i64 f.kind,.string f.val] 64):World);have a8:Below w.heap.size w Wa:=by rw[a5];exact qB
 have a9:Wa.heap.size=w.heap.size+1:=by rw[a5];simp
 obtain⟨Wb,a7⟩:=qE (Wa.alloc (Obj.cells #[.string ⟨#[]⟩,.string ⟨#[]⟩,.string ⟨#[]⟩,.int .u64 0,.int .i64 0,.string ⟨#[]⟩] 64):World);have a6:Below Wa.heap.size Wa Wb:=by rw[a7];exact qB
 have H0:Hid (WInv base cb bv n w w.heap.size (w.heap.size+1) f Wb):=by
  refine⟨?_,?_,by omega,(h.below a8).below a6,(Chg.of_below a8).trans (Chg.of_below a6),aa.2,ae⟩
  .have:OwnE Wa w.heap.size w.heap.size 1 [f]:=by rw[a5];exact yGv w w.heap.size f (Nat.le_refl _)
   exact this.below a6 (by omega)
  .rw[a7,<-a9];exact yGv Wa w.heap.size yGi (by omega)
 clear h aa hf;go_enter func99,ntmps99;go_wp2_with fail;rw[<-a5,<-a7];clear a5 a7 a8 a6 a9;generalize w.heap.size+1=rb at*;refine(yAh base cb bv n 7 _ H0.d (by omega) (by omega)).mono ?_;rintro e w5 ⟨x,rfl,ad,ac,ab⟩;have H5:Hid (WInv base cb bv n w w.heap.size rb f w5):=H0.call ab;clear ab;have hx:x=0\/x=1\/x=2\/x=3\/x=4\/x=5\/x=6:=by omega
 clear ad ac;rcases hx with rfl|rfl|rfl|rfl|rfl|rfl|rfl
 .obtain⟨⟨c0,c1,c2,c3,c4,c5⟩,f1⟩:=H5.cells;have g0:=f1 0;obtain⟨W7,a0⟩:=qE (w5.setCell ⟨w.heap.size,0,none⟩ (.string ⟨#[]⟩):World);have H7:Hid (WInv base cb bv n w w.heap.size rb ⟨⟨#[]⟩,f.fam,f.qual,f.ts,f.kind,f.val⟩ W7/\(⟨⟨#[]⟩,f.fam,f.qual,f.ts,f.kind,f.val⟩:Ent).small):=⟨by rw[a0];exact H5.set 0 _ _ (by omega) rfl,⟨by show(0:Nat)<=1000;omega,HS.fam,HS.qual,HS.val,HS.ts,HS.kind⟩⟩;clear f1;go_upto_region 4 with fail;rw[<-a0];clear a0 c0 c1 c2 c3 c4 c5 g0;obtain⟨⟨k0,k1,k2,k3,k4,k5⟩,_⟩:=H7.1.cells;obtain⟨⟨l0,l1,l2,l3,l4,l5⟩,lf,_⟩:=H7.1.back;simp only at k0 k1 k2 k3 k4 k5;obtain⟨W9,y⟩:=qE (((((((W7.setCell ⟨rb,0,none⟩ (.string (⟨⟨#[]⟩,f.fam,f.qual,f.ts,f.kind,f.val⟩:Ent).row)).setCell ⟨rb,1,none⟩ (.string (⟨⟨#[]⟩,f.fam,f.qual,f.ts,f.kind,f.val⟩:Ent).fam)).setCell ⟨rb,2,none⟩ (.string (⟨⟨#[]⟩,f.fam,f.qual,f.ts,f.kind,f.val⟩:Ent).qual)).setCell ⟨rb,3,none⟩ (.int .u64 (⟨⟨#[]⟩,f.fam,f.qual,f.ts,f.kind,f.val⟩:Ent).ts)).setCell ⟨rb,4,none⟩ (.int .i64 (⟨⟨#[]⟩,f.fam,f.qual,f.ts,f.kind,f.val⟩:Ent).kind)).setCell ⟨rb,5,none⟩ (.string (⟨⟨#[]⟩,f.fam,f.qual,f.ts,f.kind,f.val⟩:Ent).val)):World);obtain⟨⟨p0,p1,p2,p3,p4,p5⟩,hdr⟩:=H7.1.back.2.2 W9 y;have HR:Hid ((⟨⟨#[]⟩,f.fam,f.qual,f.ts,f.kind,f.val⟩:Ent).small/\Drew base cb bv n w W9):=⟨H7.2,hdr⟩;clear hdr;simp only at p0 p1 p2 p3 p4 p5 y;go_wp2_with fail;rw[<-y];exact bodyPost_ret (v:=(⟨⟨#[]⟩,f.fam,f.qual,f.ts,f.kind,f.val⟩:Ent).v) (by simp[results,results99,go_sem,p0,p1,p2,p3,p4,p5]) rfl ⟨⟨⟨#[]⟩,f.fam,f.qual,f.ts,f.kind,f.val⟩,rfl,HR.1,HR.2⟩
 .go_wp2_with fail;refine(yEx 98 65 _ (by omega)).mono ?_;rintro e w6 ⟨s6,rfl,a4,a3⟩;have H6:Hid (WInv base cb bv n w w.heap.size rb f w6):=H5.below a3;clear a3;obtain⟨⟨c0,c1,c2,c3,c4,c5⟩,f1⟩:=H6.cells;have g0:=f1 0;obtain⟨W7,a0⟩:=qE (w6.setCell ⟨w.heap.size,0,none⟩ (.string s6):World);have H7:Hid (WInv base cb bv n w w.heap.size rb ⟨s6,f.fam,f.qual,f.ts,f.kind,f.val⟩ W7/\(⟨s6,f.fam,f.qual,f.ts,f.kind,f.val⟩:Ent).small):=⟨by rw[a0];exact H6.set 0 _ _ (by omega) rfl,⟨a4,HS.fam,HS.qual,HS.val,HS.ts,HS.kind⟩⟩;clear f1;go_upto_region 6 with fail;rw[<-a0];clear a0 c0 c1 c2 c3 c4 c5 g0;obtain⟨⟨k0,k1,k2,k3,k4,k5⟩,_⟩:=H7.1.cells;obtain⟨⟨l0,l1,l2,l3,l4,l5⟩,lf,_⟩:=H7.1.back;simp only at k0 k1 k2 k3 k4 k5;obtain⟨W9,y⟩:=qE (((((((W7.setCell ⟨rb,0,none⟩ (.string (⟨s6,f.fam,f.qual,f.ts,f.kind,f.val⟩:Ent).row)).setCell ⟨rb,1,none⟩ (.string (⟨s6,f.fam,f.qual,f.ts,f.kind,f.val⟩:Ent).fam)).setCell ⟨rb,2,none⟩ (.string (⟨s6,f.fam,f.qual,f.ts,f.kind,f.val⟩:Ent).qual)).setCell ⟨rb,3,none⟩ (.int .u64 (⟨s6,f.fam,f.qual,f.ts,f.kind,f.val⟩:Ent).ts)).setCell ⟨rb,4,none⟩ (.int .i64 (⟨s6,f.fam,f.qual,f.ts,f.kind,f.val⟩:Ent).kind)).setCell ⟨rb,5,none⟩ (.string (⟨s6,f.fam,f.qual,f.ts,f.kind,f.val⟩:Ent).val)):World);obtain⟨⟨p0,p1,p2,p3,p4,p5⟩,hdr⟩:=H7.1.back.2.2 W9 y;have HR:Hid ((⟨s6,f.fam,f.qual,f.ts,f.kind,f.val⟩:Ent).small/\Drew base cb bv n w W9):=⟨H7.2,hdr⟩;clear hdr;simp only at p0 p1 p2 p3 p4 p5 y;go_wp2_with fail;rw[<-y];exact bodyPost_ret (v:=(⟨s6,f.fam,f.qual,f.ts,f.kind,f.val⟩:Ent).v) (by simp[results,results99,go_sem,p0,p1,p2,p3,p4,p5]) rfl ⟨⟨s6,f.fam,f.qual,f.ts,f.kind,f.val⟩,rfl,HR.1,HR.2⟩
 .go_wp2_with fail;refine(yEx 102 17 _ (by omega)).mono ?_;rintro e w6 ⟨s6,rfl,a4,a3⟩;have H6:Hid (WInv base cb bv n w w.heap.size rb f w6):=H5.below a3;clear a3;obtain⟨⟨c0,c1,c2,c3,c4,c5⟩,f1⟩:=H6.cells;have g0:=f1 1;obtain⟨W7,a0⟩:=qE (w6.setCell ⟨w.heap.size,1,none⟩ (.string s6):World);have H7:Hid (WInv base cb bv n w w.heap.size rb ⟨f.row,s6,f.qual,f.ts,f.kind,f.val⟩ W7/\(⟨f.row,s6,f.qual,f.ts,f.kind,f.val⟩:Ent).small):=⟨by rw[a0];exact H6.set 1 _ _ (by omega) rfl,⟨HS.row,a4,HS.qual,HS.val,HS.ts,HS.kind⟩⟩;clear f1;go_upto_region 8 with fail;rw[<-a0];clear a0 c0 c1 c2 c3 c4 c5 g0;obtain⟨⟨k0,k1,k2,k3,k4,k5⟩,_⟩:=H7.1.cells;obtain⟨⟨l0,l1,l2,l3,l4,l5⟩,lf,_⟩:=H7.1.back;simp only at k0 k1 k2 k3 k4 k5;obtain⟨W9,y⟩:=qE (((((((W7.setCell ⟨rb,0,none⟩ (.string (⟨f.row,s6,f.qual,f.ts,f.kind,f.val⟩:Ent).row)).setCell ⟨rb,1,none⟩ (.string (⟨f.row,s6,f.qual,f.ts,f.kind,f.val⟩:Ent).fam)).setCell ⟨rb,2,none⟩ (.string (⟨f.row,s6,f.qual,f.ts,f.kind,f.val⟩:Ent).qual)).setCell ⟨rb,3,none⟩ (.int .u64 (⟨f.row,s6,f.qual,f.ts,f.kind,f.val⟩:Ent).ts)).setCell ⟨rb,4,none⟩ (.int .i64 (⟨f.row,s6,f.qual,f.ts,f.kind,f.val⟩:Ent).kind)).setCell ⟨rb,5,none⟩ (.string (⟨f.row,s6,f.qual,f.ts,f.kind,f.val⟩:Ent).val)):World);obtain⟨⟨p0,p1,p2,p3,p4,p5⟩,hdr⟩:=H7.1.back.2.2 W9 y;have HR:Hid ((⟨f.row,s6,f.qual,f.ts,f.kind,f.val⟩:Ent).small/\Drew base cb bv n w W9):=⟨H7.2,hdr⟩;clear hdr;simp only at p0 p1 p2 p3 p4 p5 y;go_wp2_with fail;rw[<-y];exact bodyPost_ret (v:=(⟨f.row,s6,f.qual,f.ts,f.kind,f.val⟩:Ent).v) (by simp[results,results99,go_sem,p0,p1,p2,p3,p4,p5]) rfl ⟨⟨f.row,s6,f.qual,f.ts,f.kind,f.val⟩,rfl,HR.1,HR.2⟩
 .obtain⟨⟨c0,c1,c2,c3,c4,c5⟩,f1⟩:=H5.cells;have g0:=f1 4;obtain⟨W7,a0⟩:=qE (w5.setCell ⟨w.heap.size,4,none⟩ (.int .i64 3):World);have H7:Hid (WInv base cb bv n w w.heap.size rb ⟨f.row,f.fam,f.qual,f.ts,3,f.val⟩ W7/\(⟨f.row,f.fam,f.qual,f.ts,3,f.val⟩:Ent).small):=⟨by rw[a0];exact H5.set 4 _ _ (by omega) rfl,⟨HS.row,HS.fam,HS.qual,HS.val,HS.ts,by simp⟩⟩;clear f1;go_upto_region 10 with fail;rw[<-a0];clear a0 c0 c1 c2 c3 c4 c5 g0;obtain⟨⟨k0,k1,k2,k3,k4,k5⟩,_⟩:=H7.1.cells;obtain⟨⟨l0,l1,l2,l3,l4,l5⟩,lf,_⟩:=H7.1.back;simp only at k0 k1 k2 k3 k4 k5;obtain⟨W9,y⟩:=qE (((((((W7.setCell ⟨rb,0,none⟩ (.string (⟨f.row,f.fam,f.qual,f.ts,3,f.val⟩:Ent).row)).setCell ⟨rb,1,none⟩ (.string (⟨f.row,f.fam,f.qual,f.ts,3,f.val⟩:Ent).fam)).setCell ⟨rb,2,none⟩ (.string (⟨f.row,f.fam,f.qual,f.ts,3,f.val⟩:Ent).qual)).setCell ⟨rb,3,none⟩ (.int .u64 (⟨f.row,f.fam,f.qual,f.ts,3,f.val⟩:Ent).ts)).setCell ⟨rb,4,none⟩ (.int .i64 (⟨f.row,f.fam,f.qual,f.ts,3,f.val⟩:Ent).kind)).setCell ⟨rb,5,none⟩ (.string (⟨f.row,f.fam,f.qual,f.ts,3,f.val⟩:Ent).val)):World);obtain⟨⟨p0,p1,p2,p3,p4,p5⟩,hdr⟩:=H7.1.back.2.2 W9 y;have HR:Hid ((⟨f.row,f.fam,f.qual,f.ts,3,f.val⟩:Ent).small/\Drew base cb bv n w W9):=⟨H7.2,hdr⟩;clear hdr;simp only at p0 p1 p2 p3 p4 p5 y;go_wp2_with fail;rw[<-y];exact bodyPost_ret (v:=(⟨f.row,f.fam,f.qual,f.ts,3,f.val⟩:Ent).v) (by simp[results,results99,go_sem,p0,p1,p2,p3,p4,p5]) rfl ⟨⟨f.row,f.fam,f.qual,f.ts,3,f.val⟩,rfl,HR.1,HR.2⟩
 .go_wp2_with fail;refine(yEx 118 201 _ (by omega)).mono ?_;rintro e w6 ⟨s6,rfl,a4,a3⟩;have H6:Hid (WInv base cb bv n w w.heap.size rb f w6):=H5.below a3;clear a3;obtain⟨⟨c0,c1,c2,c3,c4,c5⟩,f1⟩:=H6.cells;have g0:=f1 5;obtain⟨W7,a0⟩:=qE (w6.setCell ⟨w.heap.size,5,none⟩ (.string s6):World);have H7:Hid (WInv base cb bv n w w.heap.size rb ⟨f.row,f.fam,f.qual,f.ts,f.kind,s6⟩ W7/\(⟨f.row,f.fam,f.qual,f.ts,f.kind,s6⟩:Ent).small):=⟨by rw[a0];exact H6.set 5 _ _ (by omega) rfl,⟨HS.row,HS.fam,HS.qual,a4,HS.ts,HS.kind⟩⟩;clear f1;go_upto_region 12 with fail;rw[<-a0];clear a0 c0 c1 c2 c3 c4 c5 g0;obtain⟨⟨k0,k1,k2,k3,k4,k5⟩,_⟩:=H7.1.cells;obtain⟨⟨l0,l1,l2,l3,l4,l5⟩,lf,_⟩:=H7.1.back;simp only at k0 k1 k2 k3 k4 k5;obtain⟨W9,y⟩:=qE (((((((W7.setCell ⟨rb,0,none⟩ (.string (⟨f.row,f.fam,f.qual,f.ts,f.kind,s6⟩:Ent).row)).setCell ⟨rb,1,none⟩ (.string (⟨f.row,f.fam,f.qual,f.ts,f.kind,s6⟩:Ent).fam)).setCell ⟨rb,2,none⟩ (.string (⟨f.row,f.fam,f.qual,f.ts,f.kind,s6⟩:Ent).qual)).setCell ⟨rb,3,none⟩ (.int .u64 (⟨f.row,f.fam,f.qual,f.ts,f.kind,s6⟩:Ent).ts)).setCell ⟨rb,4,none⟩ (.int .i64 (⟨f.row,f.fam,f.qual,f.ts,f.kind,s6⟩:Ent).kind)).setCell ⟨rb,5,none⟩ (.string (⟨f.row,f.fam,f.qual,f.ts,f.kind,s6⟩:Ent).val)):World);obtain⟨⟨p0,p1,p2,p3,p4,p5⟩,hdr⟩:=H7.1.back.2.2 W9 y;have HR:Hid ((⟨f.row,f.fam,f.qual,f.ts,f.kind,s6⟩:Ent).small/\Drew base cb bv n w W9):=⟨H7.2,hdr⟩;clear hdr;simp only at p0 p1 p2 p3 p4 p5 y;go_wp2_with fail;rw[<-y];exact bodyPost_ret (v:=(⟨f.row,f.fam,f.qual,f.ts,f.kind,s6⟩:Ent).v) (by simp[results,results99,go_sem,p0,p1,p2,p3,p4,p5]) rfl ⟨⟨f.row,f.fam,f.qual,f.ts,f.kind,s6⟩,rfl,HR.1,HR.2⟩
 .have hA:=H5.set 4 ⟨f.row,f.fam,f.qual,f.ts,1,f.val⟩ (.int .i64 1) (by omega) rfl;obtain⟨⟨_,_,_,_,c4,_⟩,f1⟩:=H5.cells;obtain⟨⟨_,_,_,_,_,c5⟩,f2⟩:=hA.cells;have g4:=f1 4;have g5:=f2 5;simp only at c5;obtain⟨W7,a0⟩:=qE ((w5.setCell ⟨w.heap.size,4,none⟩ (.int .i64 1)).setCell ⟨w.heap.size,5,none⟩ (.string ⟨#[120]⟩):World);have H7:Hid (WInv base cb bv n w w.heap.size rb ⟨f.row,f.fam,f.qual,f.ts,1,⟨#[120]⟩⟩ W7/\(⟨f.row,f.fam,f.qual,f.ts,1,⟨#[120]⟩⟩:Ent).small):=⟨by rw[a0];exact hA.set 5 _ _ (by omega) rfl,⟨HS.row,HS.fam,HS.qual,by show(1:Nat)<=1000;omega,HS.ts,by simp⟩⟩;clear hA f1 f2;go_upto_region 15 with fail;rw[<-a0];clear a0 c4 c5 g4 g5;obtain⟨⟨k0,k1,k2,k3,k4,k5⟩,_⟩:=H7.1.cells;obtain⟨⟨l0,l1,l2,l3,l4,l5⟩,lf,_⟩:=H7.1.back;simp only at k0 k1 k2 k3 k4 k5;obtain⟨W9,y⟩:=qE (((((((W7.setCell ⟨rb,0,none⟩ (.string (⟨f.row,f.fam,f.qual,f.ts,1,⟨#[120]⟩⟩:Ent).row)).setCell ⟨rb,1,none⟩ (.string (⟨f.row,f.fam,f.qual,f.ts,1,⟨#[120]⟩⟩:Ent).fam)).setCell ⟨rb,2,none⟩ (.string (⟨f.row,f.fam,f.qual,f.ts,1,⟨#[120]⟩⟩:Ent).qual)).setCell ⟨rb,3,none⟩ (.int .u64 (⟨f.row,f.fam,f.qual,f.ts,1,⟨#[120]⟩⟩:Ent).ts)).setCell ⟨rb,4,none⟩ (.int .i64 (⟨f.row,f.fam,f.qual,f.ts,1,⟨#[120]⟩⟩:Ent).kind)).setCell ⟨rb,5,none⟩ (.string (⟨f.row,f.fam,f.qual,f.ts,1,⟨#[120]⟩⟩:Ent).val)):World);obtain⟨⟨p0,p1,p2,p3,p4,p5⟩,hdr⟩:=H7.1.back.2.2 W9 y;have HR:Hid ((⟨f.row,f.fam,f.qual,f.ts,1,⟨#[120]⟩⟩:Ent).small/\Drew base cb bv n w W9):=⟨H7.2,hdr⟩;clear hdr;simp only at p0 p1 p2 p3 p4 p5 y;go_wp2_with fail;rw[<-y];exact bodyPost_ret (v:=(⟨f.row,f.fam,f.qual,f.ts,1,⟨#[120]⟩⟩:Ent).v) (by simp[results,results99,go_sem,p0,p1,p2,p3,p4,p5]) rfl ⟨⟨f.row,f.fam,f.qual,f.ts,1,⟨#[120]⟩⟩,rfl,HR.1,HR.2⟩
 .go_wp2_with fail;refine(yEx 113 65 _ (by omega)).mono ?_;rintro e w6 ⟨s6,rfl,a4,a3⟩;have H6:Hid (WInv base cb bv n w w.heap.size rb f w6):=H5.below a3;clear a3;obtain⟨⟨c0,c1,c2,c3,c4,c5⟩,f1⟩:=H6.cells;have g0:=f1 2;obtain⟨W7,a0⟩:=qE (w6.setCell ⟨w.heap.size,2,none⟩ (.string s6):World);have H7:Hid (WInv base cb bv n w w.heap.size rb ⟨f.row,f.fam,s6,f.ts,f.kind,f.val⟩ W7/\(⟨f.row,f.fam,s6,f.ts,f.kind,f.val⟩:Ent).small):=⟨by rw[a0];exact H6.set 2 _ _ (by omega) rfl,⟨HS.row,HS.fam,a4,HS.val,HS.ts,HS.kind⟩⟩;clear f1;go_upto_region 17 with fail;rw[<-a0];clear a0 c0 c1 c2 c3 c4 c5 g0;obtain⟨⟨k0,k1,k2,k3,k4,k5⟩,_⟩:=H7.1.cells;obtain⟨⟨l0,l1,l2,l3,l4,l5⟩,lf,_⟩:=H7.1.back;simp only at k0 k1 k2 k3 k4 k5;obtain⟨W9,y⟩:=qE (((((((W7.setCell ⟨rb,0,none⟩ (.string (⟨f.row,f.fam,s6,f.ts,f.kind,f.val⟩:Ent).row)).setCell ⟨rb,1,none⟩ (.string (⟨f.row,f.fam,s6,f.ts,f.kind,f.val⟩:Ent).fam)).setCell ⟨rb,2,none⟩ (.string (⟨f.row,f.fam,s6,f.ts,f.kind,f.val⟩:Ent).qual)).setCell ⟨rb,3,none⟩ (.int .u64 (⟨f.row,f.fam,s6,f.ts,f.kind,f.val⟩:Ent).ts)).setCell ⟨rb,4,none⟩ (.int .i64 (⟨f.row,f.fam,s6,f.ts,f.kind,f.val⟩:Ent).kind)).setCell ⟨rb,5,none⟩ (.string (⟨f.row,f.fam,s6,f.ts,f.kind,f.val⟩:Ent).val)):World);obtain⟨⟨p0,p1,p2,p3,p4,p5⟩,hdr⟩:=H7.1.back.2.2 W9 y;have HR:Hid ((⟨f.row,f.fam,s6,f.ts,f.kind,f.val⟩:Ent).small/\Drew base cb bv n w W9):=⟨H7.2,hdr⟩;clear hdr;simp only at p0 p1 p2 p3 p4 p5 y;go_wp2_with fail;rw[<-y];exact bodyPost_ret (v:=(⟨f.row,f.fam,s6,f.ts,f.kind,f.val⟩:Ent).v) (by simp[results,results99,go_sem,p0,p1,p2,p3,p4,p5]) rfl ⟨⟨f.row,f.fam,s6,f.ts,f.kind,f.val⟩,rfl,HR.1,HR.2⟩
theorem yMy{b off:Nat}(h:yAe w b off es):∀j u,(yBa es)[j]?=some u->w.cell? ((⟨b,off,none⟩:Addr).add j)=some u:=by exact xBd
theorem yT3(es:List Ent):∀u∈yBa es,u.oneCell'=true:=by exact yZt
theorem yGj{rest:List Oper}{o:Oper}(w:World)(hgd:o.guard=none)(s x:Operand)
  (ho:o.op=.call {callee:=.builtin .append,args:=#[s,x],argTypes:=#[58,58]})
  (base g cp n b off m cx:Nat) (fs es:List Ent) (hs:a.eval s=.slice (some ⟨g,0,none⟩) n cp) (hx:a.eval x=.slice (some ⟨b,off,none⟩) m cx) (hn:n=fs.length) (hm:m=es.length) (hO:OwnE w base g cp fs)
  (hc:yAe w b off es) (hlen:fs.length+es.length<=2^30) (hbase:base<=w.heap.size)
  (h:∀g' cp' w',OwnE w' base g' cp' (fs++es)->w.grownBy w' (some g)->wpList prog ops Q rest (a.put o.dst (.slice (some ⟨g',0,none⟩) (n+m) cp')) w'):wpList prog ops Q (o::rest) a w:=by
 subst hn hm;obtain⟨i,hi,a4,a3,a0⟩:=info_parts Tryz.infoEnt;refine wpList_append_own_at w hgd s x 58 ho base 64 i _ 6 80 underlying58 hi a4 a3 a0 rfl (by decide) (.slice (some ⟨g,0,none⟩) fs.length cp) fs.length (yBa fs) hs hO ⟨b,off,none⟩ es.length cx (yBa es) hx (yDt es) (yMy hc) (yT3 es) ?_ ?_ hbase ?_
 .unfold maxLen;omega
 .omega
 .intro v' w' y a6 a5 _;rcases y.2 with⟨h0,_⟩|⟨g',a7,cur,hv,_,_,hn,a8,_,_⟩
  .have:=(a5.1 h0).1;cases this
  .subst hv;refine h g' a7 w' ?_ a6;unfold OwnE;rw[length_append,yDv];exact y
structure yEs(w:World)(b:Nat)(es:List Ent)(r:Rm)(w':World):Prop where
 at_:r.at w'
 ok:∀e∈r.es,e.small
 len:r.es.length<=es.length+1
 blk:r.b=b\/w.heap.size<=r.b
theorem yG0{e':Ent}(h:∀e∈fs,e.small)(he:e'.small):∀e∈fs.set i e',e.small:=by
 intro e hm;rcases mem_or_eq_of_mem_set hm with q|rfl
 .exact h e q
 .exact he
theorem LInv.turn(h:LInv base cb bv n w g cp es wr)(hc:Chg (λk=>k=g) wr w')(hO:OwnE w' w.heap.size g cp fs)(hok:∀e∈fs,e.small):LInv base cb bv n w g cp fs w':=by have hl:=h.row.lt;have y:=h.lt;have a0:=h.hb;refine⟨hO,hok,h.d.chg hc (by omega) (λk q=>by omega),?_,h.lt,h.hb⟩;exact⟨hc.os.trans h.c.os,hc.tape.trans h.c.tape,hc.output.trans h.c.output,Nat.le_trans h.c.size hc.size,λk hk hn=>(hc.block k (Nat.lt_of_lt_of_le hk h.c.size) (by omega)).trans (h.c.block k hk hn)⟩
theorem LInv.put(h:LInv base cb bv n w g cp es wr)(i:Nat)(x e:Ent)(hx:es[i]?=some x)(he:e.small):
  LInv base cb bv n w g cp (es.set i e) ((((((wr.setCell ⟨g,i*6,none⟩ (.string e.row)).setCell ⟨g,i*6+1,none⟩ (.string e.fam)).setCell ⟨g,i*6+2,none⟩ (.string e.qual)).setCell ⟨g,i*6+3,none⟩ (.int .u64 e.ts)).setCell ⟨g,i*6+4,none⟩ (.int .i64 e.kind)).setCell ⟨g,i*6+5,none⟩ (.string e.val)):=by
 refine h.turn ?_ (h.row.put i x e hx) (yG0 h.ok he);exact xA2
theorem LInv.at6(h:LInv base cb bv n w g cp es wr)(i:Nat)(x:Ent)(hx:es[i]?=some x):
  (wr.cell? ⟨g,i*6,none⟩=some (.string x.row)/\wr.cell? ⟨g,i*6+1,none⟩=some (.string x.fam)/\wr.cell? ⟨g,i*6+2,none⟩=some (.string x.qual)/\wr.cell? ⟨g,i*6+3,none⟩=some (.int .u64 x.ts)/\wr.cell? ⟨g,i*6+4,none⟩=some (.int .i64 x.kind)/\wr.cell? ⟨g,i*6+5,none⟩=some (.string x.val))/\∀j,wr.frozen? ⟨g,j,none⟩=false:=by
 have:=h.row.at i x hx;simp only[Nat.zero_add]at this;exact⟨this,λj=>World.ownsRow.frozenAt h.row j⟩
theorem YInv.put(h:YInv base cb bv n w g cp es vb f wr)(i:Nat)(x e:Ent)(hx:es[i]?=some x)(he:e.small):
  YInv base cb bv n w g cp (es.set i e) vb f ((((((wr.setCell ⟨g,i*6,none⟩ (.string e.row)).setCell ⟨g,i*6+1,none⟩ (.string e.fam)).setCell ⟨g,i*6+2,none⟩ (.string e.qual)).setCell ⟨g,i*6+3,none⟩ (.int .u64 e.ts)).setCell ⟨g,i*6+4,none⟩ (.int .i64 e.kind)).setCell ⟨g,i*6+5,none⟩ (.string e.val)):=by
 refine {h.toLInv.put i x e hx he with
  var:=yAg h.var (S:=λk=>k=g) ?_ (λk q=>by simp[Value.ownBlock]at q;subst q;exact λq=>h.ne q.symm)
  ne:=h.ne}
 exact xA2
theorem LInv.push{o:Obj}(h:LInv base cb bv n w g cp es wr)(hf:f.small)(hO:OwnE w' w.heap.size g' cp' (es++ [f]))(hgr:(wr.alloc o).grownBy w' (some g)):LInv base cb bv n w g' cp' (es++ [f]) w':=by exact xA7
theorem LInv.set(h:LInv base cb bv n w g cp es wr)(k j:Nat)(e e':Ent)(u:Value)(hk:es[k]?=some e)(hj:j<6)(hc:e'.cells=e.cells.set j u)(hs:e'.small):LInv base cb bv n w g cp (es.set k e') (wr.setCell ⟨g,k*6+j,none⟩ u):=
 h.turn (Chg.of_set (S:=λk=>k=g) _ _ _ _ rfl) (h.row.set k j e e' u hk hj hc) (yG0 h.ok hs)
theorem yPf(base cb:Nat)(bv:Value)(n:Nat)(r:Rm)(w:World)(h:yAd base cb bv n w)(hr:r.at w)(hok:∀e∈r.es,e.small)(hl:r.es.length<=100000)(hrb:¬r.b=cb):
  Calls prog 51 #[.pointer (some ⟨cb,0,none⟩),.agg #[.slice (some ⟨r.b,r.off,none⟩) r.es.length r.cap]] w λx w'=>∃r':Rm,x=.returned (.agg #[.slice (some ⟨r'.b,r'.off,none⟩) r'.es.length r'.cap])/\yEs w r.b r.es r' w'/\Drew base cb bv n w w':=by
 have al:=h.lt;have av:=h.base;obtain⟨Wa,ae⟩:=qE (w.alloc (Obj.cells #[.slice (some ⟨r.b,r.off,none⟩) r.es.length r.cap] 60):World);have aw:Below w.heap.size w Wa:=by rw[ae];exact qB
 have ak:Wa.heap.size=w.heap.size+1:=by rw[ae];simp
 obtain⟨Wb,ab⟩:=qE (Wa.alloc (Obj.cells #[.slice none 0 0] 60):World);have am:Below Wa.heap.size Wa Wb:=by rw[ab];exact qB
 have ao:Wb.heap.size=w.heap.size+1+1:=by rw[ab];simp[ak]
 have kb:Below w.heap.size w Wb:=aw.trans (am.mono (by omega));have HV:Hid (Wb.cell? ⟨w.heap.size,0,none⟩=some (.slice (some ⟨r.b,r.off,none⟩) r.es.length r.cap)/\Wb.cell? ⟨w.heap.size+1,0,none⟩=some (.slice none 0 0)/\Wb.frozen? ⟨w.heap.size+1,0,none⟩=false):=by
  refine⟨?_,?_,?_⟩
  .rw[am.cell (p:=⟨w.heap.size,0,none⟩) (by show w.heap.size<Wa.heap.size;omega),ae];simp
  .rw[ab,<-ak];simp
  .rw[ab,<-ak];exact World.ownsRow.frozenAt (World.ownsRow_lit (base:=0) (e:=60) (size:=1) Wa #[.slice none 0 0] 1 (zero_le _) (by decide) rfl) 0
 obtain⟨Wc,an⟩:=qE (Wb.alloc (Obj.cells #[] 64):World);have a5:Below Wb.heap.size Wb Wc:=by rw[an];exact qB
 have HL:Hid (LInv base cb bv n Wb (w.heap.size+1+1) 0 [] Wc):=by refine⟨?_,λe he=>by simp at he,(h.below kb).below a5,Chg.of_below a5,by omega,by omega⟩;rw[an,<-ao];exact World.ownsRow_made Wb #[] 0 (Nat.le_refl _) (zero_le _) (by simp)
 have HR:Hid (r.at Wc/\(∀e∈r.es,e.small)):=⟨(hr.below kb).below a5,hok⟩;have aq:=hr.lt;have cv:Wc.cell? ⟨w.heap.size,0,none⟩=some (.slice (some ⟨r.b,r.off,none⟩) r.es.length r.cap):=by rw[a5.cell (p:=⟨w.heap.size,0,none⟩) (by show w.heap.size<Wb.heap.size;omega)];exact HV.1
 clear h hok;have HZ:Hid (Wb.heap.size=w.heap.size+1+1):=ao;have fin:∀(g cp:Nat)(es:List Ent)(wr:World),LInv base cb bv n Wb g cp es wr->es.length<=r.es.length+1->∃r':Rm,Ending.returned (Value.agg #[.slice (some ⟨g,0,none⟩) es.length cp])=.returned (.agg #[.slice (some ⟨r'.b,r'.off,none⟩) r'.es.length r'.cap])/\yEs w r.b r.es r' (wr.setCell ⟨w.heap.size+1,0,none⟩ (.slice (some ⟨g,0,none⟩) es.length cp))/\Drew base cb bv n w (wr.setCell ⟨w.heap.size+1,0,none⟩ (.slice (some ⟨g,0,none⟩) es.length cp)):=by
  intro g cp es wr hL hn;have hg:=hL.row.lt;have aa:Chg (λk=>k=w.heap.size+1) wr (wr.setCell ⟨w.heap.size+1,0,none⟩ (.slice (some ⟨g,0,none⟩) es.length cp)):=Chg.of_set _ _ _ _ rfl;have hO:OwnE (wr.setCell ⟨w.heap.size+1,0,none⟩ (.slice (some ⟨g,0,none⟩) es.length cp)) Wb.heap.size g cp es:=yAg hL.row aa (λk q=>by simp[Value.ownBlock]at q;subst q;omega);have ad:es.length<=cp/\cp<=maxLen:=by
   rcases hO.2 with⟨h0,_⟩|⟨g',aO,cur,hv,_,_,hn,ad,_,_⟩
   .cases h0
   .simp only[Value.slice.injEq,Option.some.injEq,Addr.mk.injEq,and_true,true_and]at hv;obtain⟨rfl,rfl⟩:=hv;exact⟨hn,ad⟩
  refine⟨⟨g,0,cp,es⟩,rfl,⟨⟨hO.at,hO.lt.2,ad.1,ad.2⟩,hL.ok,hn,.inr (by show w.heap.size<=g;omega)⟩,hL.d.chg aa (by omega) (λk q=>by omega),?_⟩;exact Chg.grown_new ((Chg.of_below kb).trans hL.c) (yAk wr (w.heap.size+1) 0 _) (λk hk=>by cases hk;omega)
 have az:Hid (∀(g cp:Nat)(es:List Ent)(wr:World),LInv base cb bv n Wb g cp es wr->es.length<=r.es.length+1->∃r':Rm,Ending.returned (Value.agg #[.slice (some ⟨g,0,none⟩) es.length cp])=.returned (.agg #[.slice (some ⟨r'.b,r'.off,none⟩) r'.es.length r'.cap])/\yEs w r.b r.es r' (wr.setCell ⟨w.heap.size+1,0,none⟩ (.slice (some ⟨g,0,none⟩) es.length cp))/\Drew base cb bv n w (wr.setCell ⟨w.heap.size+1,0,none⟩ (.slice (some ⟨g,0,none⟩) es.length cp))):=fin;have aB:∀wr,Chg (λk=>k=cb) Wb wr->wr.cell? ⟨w.heap.size+1,0,none⟩=some (.slice none 0 0)/\wr.frozen? ⟨w.heap.size+1,0,none⟩=false:=λwr hc=>by rw[hc.cell (p:=⟨w.heap.size+1,0,none⟩) (by show w.heap.size+1<Wb.heap.size;omega) (by show¬w.heap.size+1=cb;omega),hc.frozen (p:=⟨w.heap.size+1,0,none⟩) (by show w.heap.size+1<Wb.heap.size;omega) (by show¬w.heap.size+1=cb;omega)];exact HV.2
 have HRs:Hid (∀wr,Chg (λk=>k=cb) Wb wr->wr.cell? ⟨w.heap.size+1,0,none⟩=some (.slice none 0 0)/\wr.frozen? ⟨w.heap.size+1,0,none⟩=false):=aB;clear fin aB;go_enter func51,ntmps51;have a0:Hid (Wa=w.alloc (Obj.cells #[.slice (some ⟨r.b,r.off,none⟩) r.es.length r.cap] 60)/\Wb=Wa.alloc (Obj.cells #[.slice none 0 0] 60)/\Wc=Wb.alloc (Obj.cells #[] 64)):=⟨ae,ab,an⟩;clear ae ab an ak ao;go_wp2_with (at_builtin;refine yGj _ rfl _ _ rfl Wb.heap.size (w.heap.size+1+1) 0 0 r.b r.off r.es.length r.cap [] r.es rfl rfl rfl rfl ?hO ?hc ?hl ?hb ?_);case hO=>rw[<-a0.1,<-a0.2.1,<-a0.2.2];exact HL.row
 case hc=>rw[<-a0.1,<-a0.2.1,<-a0.2.2];exact HR.1.ents
 case hl=>simp;omega
 case hb=>rw[<-a0.1,<-a0.2.1,<-a0.2.2];exact a5.size
 rw[<-a0.1,<-a0.2.1,<-a0.2.2];clear a0;intro g cp w1 aI ar;have H1:Hid (LInv base cb bv n Wb g cp r.es w1):=by have hs:=a5.size;have hz:=HZ.out;refine⟨aI,HR.2,HL.d.chg (Chg.of_grown (S:=λk=>k=w.heap.size+1+1) ar (λk hk=>by cases hk;rfl)) (by omega) (λk q=>by omega),Chg.grown_new HL.c ar (λk hk=>by cases hk;omega),HL.lt,HL.hb⟩
 clear aI ar HL;by_cases h0:r.es.length=0
 .have zl:(r.es.length:Int)=0:=by omega
  have a4:=H1.c;have HS:Hid (w1.cell? ⟨w.heap.size+1,0,none⟩=some (.slice none 0 0)/\w1.frozen? ⟨w.heap.size+1,0,none⟩=false/\w1.cell? ⟨w.heap.size,0,none⟩=some (.slice (some ⟨r.b,r.off,none⟩) r.es.length r.cap)):=by have hz:=HZ.out;refine⟨(HRs.out w1 a4).1,(HRs.out w1 a4).2,?_⟩;rw[a4.cell (p:=⟨w.heap.size,0,none⟩) (by show w.heap.size<Wb.heap.size;omega) (by show¬w.heap.size=cb;omega)];exact HV.1
  obtain⟨s1,s2,s3⟩:=HS.out;obtain⟨W9,hW9⟩:=qE (w1.setCell ⟨w.heap.size+1,0,none⟩ (.slice (some ⟨r.b,r.off,none⟩) r.es.length r.cap):World);have HE:Hid (yEs w r.b r.es r W9/\Drew base cb bv n w W9):=by
   have aa:Chg (λk=>k=w.heap.size+1) w1 W9:=by rw[hW9];exact Chg.of_set _ _ _ _ rfl
   refine⟨⟨⟨?_,?_,hr.len,hr.cap⟩,HR.2,by omega,.inl rfl⟩,H1.d.chg aa (by omega) (λk q=>by omega),?_⟩
   .refine yAe.chg (yAe.chg ((hr.below kb).ents) a4 ?_ ?_) aa ?_ ?_
    .have:=kb.size;omega
    .exact hrb
    .have:=kb.size;have:=a4.size;omega
    .show¬r.b=w.heap.size+1;omega
   .have:=aa.size;have:=a4.size;have:=kb.size;omega
   .rw[hW9];exact Chg.grown_new ((Chg.of_below kb).trans a4) (yAk w1 (w.heap.size+1) 0 _) (λk hk=>by cases hk;omega)
  have p9:W9.cell? ⟨w.heap.size+1,0,none⟩=some (.slice (some ⟨r.b,r.off,none⟩) r.es.length r.cap):=by rw[hW9];exact World.cell?_setCell_same _ _ _ s1
  clear hr h0 aq aw am kb a5 al av hrb HRs HV HR HZ H1 a4 az;go_wp2_with fail;rw[<-hW9];exact bodyPost_ret (v:=.agg #[.slice (some ⟨r.b,r.off,none⟩) r.es.length r.cap]) (by simp[results,results51,go_sem,p9]) rfl ⟨r,rfl,HE.out⟩
 .clear cv;have zl:¬(r.es.length:Int)=0:=by omega
  go_wp2_with fail;refine(yAh base cb bv n r.es.length w1 H1.d (by omega) (by omega)).mono ?_;rintro e w2 ⟨i,rfl,aE,aQ,aH⟩;obtain⟨i,rfl⟩:=Int.eq_ofNat_of_zero_le aE;have hi:i<r.es.length:=by omega
  clear aE;have H2:Hid (LInv base cb bv n Wb g cp r.es w2):=H1.call aH;clear aH H1;go_wp2_with fail;refine(yAh base cb bv n 4 w2 H2.d (by omega) (by omega)).mono ?_;rintro e w3 ⟨k,rfl,aM,aL,aG⟩;have H3:Hid (LInv base cb bv n Wb g cp r.es w3):=H2.call aG;clear aG H2;have hk:k=0\/k=1\/k=2\/k=3:=by omega
  clear aM aL;obtain⟨x,hx⟩:∃x,r.es[i]?=some x:=⟨_,getElem?_eq_getElem hi⟩;have HX:Hid (r.es[i]?=some x/\x.small):=⟨hx,HR.2 x (mem_of_getElem? hx)⟩;clear hx;have au:r.es.length<=cp/\r.es.length<=maxLen:=by
   rcases H3.row.2 with⟨h0,_⟩|⟨g',aO,cur,hv,_,_,hn,ad,_,_⟩
   .cases h0
   .simp only[Value.slice.injEq,Option.some.injEq,Addr.mk.injEq,and_true,true_and]at hv;obtain⟨rfl,rfl⟩:=hv;exact⟨hn,by omega⟩
  have HN:Hid (base<=cb/\cb<w.heap.size/\base<=w.heap.size/\r.b<w.heap.size/\i<r.es.length/\r.es.length<=100000/\r.es.length<=cp/\r.es.length<=maxLen/\¬r.b=cb):=⟨al.1,al.2,av,aq,hi,hl,au.1,au.2,hrb⟩;clear hl hr h0 aq aw am kb a5 al av zl hi au hrb;generalize hmm:r.es.length=m at*;have HM:Hid (r.es.length=m):=hmm;clear hmm;have HFn:Hid (∀(g cp:Nat)(es:List Ent)(m':Nat)(wr:World),m'=es.length->LInv base cb bv n Wb g cp es wr->m'<=m+1->∃r':Rm,Ending.returned (Value.agg #[.slice (some ⟨g,0,none⟩) m' cp])=.returned (.agg #[.slice (some ⟨r'.b,r'.off,none⟩) r'.es.length r'.cap])/\yEs w r.b r.es r' (wr.setCell ⟨w.heap.size+1,0,none⟩ (.slice (some ⟨g,0,none⟩) m' cp))/\Drew base cb bv n w (wr.setCell ⟨w.heap.size+1,0,none⟩ (.slice (some ⟨g,0,none⟩) m' cp))):=by rintro g cp es m' wr rfl hL h1;exact az.out g cp es wr hL h1
  clear az;rcases hk with rfl|rfl|rfl|rfl
  .obtain⟨⟨c0,c1,c2,c3,c4,c5⟩,_⟩:=H3.at6 i x HX.1;go_wp2_with fail;refine(yPg base cb bv n x w3 H3.d HX.2).mono ?_;rintro e w4 ⟨y,rfl,hy,ac⟩;have H4:Hid (LInv base cb bv n Wb g cp r.es w4/\y.small):=⟨H3.call ac,hy⟩;clear ac hy c0 c1 c2 c3 c4 c5;obtain⟨⟨c0,c1,c2,c3,c4,c5⟩,f1⟩:=H4.1.at6 i x HX.1;have ai:=f1 (i*6);have ah:=f1 (i*6+1);have ag:=f1 (i*6+2);have af:=f1 (i*6+3);have a8:=f1 (i*6+4);have a7:=f1 (i*6+5);obtain⟨W5,a3⟩:=qE (((((((w4.setCell ⟨g,i*6,none⟩ (.string y.row)).setCell ⟨g,i*6+1,none⟩ (.string y.fam)).setCell ⟨g,i*6+2,none⟩ (.string y.qual)).setCell ⟨g,i*6+3,none⟩ (.int .u64 y.ts)).setCell ⟨g,i*6+4,none⟩ (.int .i64 y.kind)).setCell ⟨g,i*6+5,none⟩ (.string y.val)):World);have H5:Hid (LInv base cb bv n Wb g cp (r.es.set i y) W5):=by show LInv base cb bv n Wb g cp (r.es.set i y) W5;rw[a3];exact H4.1.put i x y HX.1 H4.2
   clear f1;go_upto_region 9 with fail;rw[<-a3];clear a3 c0 c1 c2 c3 c4 c5 ai ah ag af a8 a7 H4;obtain⟨rc,rf⟩:=HRs.out W5 H5.c;obtain⟨W9,hW9⟩:=qE (W5.setCell ⟨w.heap.size+1,0,none⟩ (.slice (some ⟨g,0,none⟩) m cp):World);have HE:Hid (∃r':Rm,Ending.returned (Value.agg #[.slice (some ⟨g,0,none⟩) m cp])=.returned (.agg #[.slice (some ⟨r'.b,r'.off,none⟩) r'.es.length r'.cap])/\yEs w r.b r.es r' W9/\Drew base cb bv n w W9):=by rw[hW9];exact HFn.out _ _ (r.es.set i y) _ _ (by rw[length_set,HM.out]) H5.out (by omega)
   exact yX7
  .obtain⟨z,hz⟩:∃z,r.es[0]?=some z:=⟨_,getElem?_eq_getElem (by have:=HM.out;omega)⟩;have aj:Hid (r.es[0]?=some z/\z.small):=⟨hz,HR.2 z (mem_of_getElem? hz)⟩;clear hz;obtain⟨W4,ax⟩:=qE (w3.alloc (Obj.cells #[.string z.row,.string z.fam,.string z.qual,.int .u64 z.ts,.int .i64 z.kind,.string z.val] 64):World);obtain⟨⟨k0,k1,k2,k3,k4,k5⟩,_⟩:=H3.at6 0 z aj.1;simp only[Nat.zero_mul,Nat.zero_add]at k0 k1 k2 k3 k4 k5;have H4:Hid (YInv base cb bv n Wb g cp r.es w3.heap.size z W4):=by show YInv base cb bv n Wb g cp r.es w3.heap.size z W4;rw[ax];exact H3.make z
   go_upto_region 11 with fail;rw[<-ax];clear ax k0 k1 k2 k3 k4 k5;generalize w3.heap.size=vb at*;obtain⟨⟨c0,c1,c2,c3,c4,c5⟩,f1⟩:=H4.at6 i x HX.1;obtain⟨⟨k0,k1,k2,k3,k4,k5⟩,_⟩:=H4.at6 0 z aj.1;simp only[Nat.zero_mul,Nat.zero_add]at k0 k1 k2 k3 k4 k5;have ai:=f1 0;have ah:=f1 1;have ag:=f1 2;have af:=f1 3;have a8:=f1 4;have a7:=f1 5;obtain⟨W5,a3⟩:=qE (((((((W4.setCell ⟨g,0,none⟩ (.string x.row)).setCell ⟨g,1,none⟩ (.string x.fam)).setCell ⟨g,2,none⟩ (.string x.qual)).setCell ⟨g,3,none⟩ (.int .u64 x.ts)).setCell ⟨g,4,none⟩ (.int .i64 x.kind)).setCell ⟨g,5,none⟩ (.string x.val)):World);have H5:Hid (YInv base cb bv n Wb g cp (r.es.set 0 x) vb z W5):=by have:=H4.put 0 z x aj.1 HX.2;simp only[Nat.zero_mul,Nat.zero_add]at this;rw[<-a3]at this;exact this
   clear f1;go_upto_region 12 with fail;rw[<-a3];clear a3 c0 c1 c2 c3 c4 c5 k0 k1 k2 k3 k4 k5 ai ah ag af a8 a7 H4;obtain⟨x2,aA⟩:∃x2,(r.es.set 0 x)[i]?=some x2:=⟨_,getElem?_eq_getElem (by rw[length_set,HM.out];omega)⟩;have a9:Hid ((r.es.set 0 x)[i]?=some x2):=aA;clear aA;obtain⟨⟨c0,c1,c2,c3,c4,c5⟩,f1⟩:=H5.at6 i x2 a9.out;obtain⟨⟨k0,k1,k2,k3,k4,k5⟩,_⟩:=H5.cells;have ai:=f1 (i*6);have ah:=f1 (i*6+1);have ag:=f1 (i*6+2);have af:=f1 (i*6+3);have a8:=f1 (i*6+4);have a7:=f1 (i*6+5);obtain⟨W6,a6⟩:=qE (((((((W5.setCell ⟨g,i*6,none⟩ (.string z.row)).setCell ⟨g,i*6+1,none⟩ (.string z.fam)).setCell ⟨g,i*6+2,none⟩ (.string z.qual)).setCell ⟨g,i*6+3,none⟩ (.int .u64 z.ts)).setCell ⟨g,i*6+4,none⟩ (.int .i64 z.kind)).setCell ⟨g,i*6+5,none⟩ (.string z.val)):World);have H6:Hid (LInv base cb bv n Wb g cp ((r.es.set 0 x).set i z) W6):=by show LInv base cb bv n Wb g cp ((r.es.set 0 x).set i z) W6;rw[a6];exact H5.toLInv.put i x2 z a9.out aj.2
   clear f1;go_upto_region 13 with fail;rw[<-a6];clear a6 c0 c1 c2 c3 c4 c5 k0 k1 k2 k3 k4 k5 ai ah ag af a8 a7 H5 a9 aj;obtain⟨rc,rf⟩:=HRs.out W6 H6.c;obtain⟨W9,hW9⟩:=qE (W6.setCell ⟨w.heap.size+1,0,none⟩ (.slice (some ⟨g,0,none⟩) m cp):World);have HE:Hid (∃r':Rm,Ending.returned (Value.agg #[.slice (some ⟨g,0,none⟩) m cp])=.returned (.agg #[.slice (some ⟨r'.b,r'.off,none⟩) r'.es.length r'.cap])/\yEs w r.b r.es r' W9/\Drew base cb bv n w W9):=by rw[hW9];exact HFn.out _ _ ((r.es.set 0 x).set i z) _ _ (by rw[length_set,length_set,HM.out]) H6.out (by omega)
   exact yX7
  .obtain⟨⟨c0,c1,c2,c3,c4,c5⟩,_⟩:=H3.at6 i x HX.1;have aN:=H3.row.lt;have aK:=H3.c.size;have ay:Hid (m=r.es.length):=HM.symm;have aP:Hid (m<=100000):=HN.2.2.2.2.2.1;go_wp2_with (at_builtin;refine yAo _ rfl _ _ rfl Wb.heap.size g cp _ _ r.es x rfl rfl ay.out ?hO ?hc ?hl ?hb ?_);case hO=>exact H3.row.below (qB) (by omega)
   case hc=>exact yJ3 w3 x
   case hl=>rw[<-ay.out];have:=aP.out;omega
   case hb=>first|(simp;omega)|omega
   intro g' cp' w4 aJ aF;have H6:Hid (LInv base cb bv n Wb g' cp' (r.es++ [x]) w4):=H3.push HX.2 aJ aF;clear aJ aF c0 c1 c2 c3 c4 c5 aN aK ay;obtain⟨rc,rf⟩:=HRs.out w4 H6.c;obtain⟨W9,hW9⟩:=qE (w4.setCell ⟨w.heap.size+1,0,none⟩ (.slice (some ⟨g',0,none⟩) (m+1) cp'):World);have HE:Hid (∃r':Rm,Ending.returned (Value.agg #[.slice (some ⟨g',0,none⟩) (m+1) cp'])=.returned (.agg #[.slice (some ⟨r'.b,r'.off,none⟩) r'.es.length r'.cap])/\yEs w r.b r.es r' W9/\Drew base cb bv n w W9):=by rw[hW9];exact HFn.out _ _ (r.es++ [x]) _ _ (by simp[HM.out]) H6.out (by omega)
   have p9:W9.cell? ⟨w.heap.size+1,0,none⟩=some (.slice (some ⟨g',0,none⟩) (m+1) cp'):=by rw[hW9];exact World.cell?_setCell_same _ _ _ rc
   clear HFn HRs HV HR HX HZ H3;go_wp2_with fail;rw[<-hW9];exact bodyPost_ret (v:=.agg #[.slice (some ⟨g',0,none⟩) (m+1) cp']) (by simp[results,results51,go_sem,p9]) rfl HE.out
  .go_wp2_with fail;refine(yAh base cb bv n 3 w3 H3.d (by omega) (by omega)).mono ?_;rintro e w4 ⟨q,rfl,aD,aC,ac⟩;have H4:Hid (LInv base cb bv n Wb g cp r.es w4/\0<=q/\q<3):=⟨H3.call ac,aD,aC⟩;clear ac aD aC;have H5:Hid (LInv base cb bv n Wb g cp (r.es.set i {x with kind:=q}) (w4.setCell ⟨g,i*6+4,none⟩ (.int .i64 q))):=H4.1.set i 4 x {x with kind:=q} (.int .i64 q) HX.1 (by omega) rfl ⟨HX.2.row,HX.2.fam,HX.2.qual,HX.2.val,HX.2.ts,by have:=H4.2;show 0<=q/\q<=3;omega⟩;have a9:Hid ((r.es.set i {x with kind:=q})[i]?=some {x with kind:=q}):=by show(r.es.set i {x with kind:=q})[i]?=some {x with kind:=q};rw[getElem?_set_self (by have:=HM.out;omega)]
   obtain⟨⟨c0,c1,c2,c3,c4,c5⟩,f1⟩:=H4.1.at6 i x HX.1;have a8:=f1 (i*6+4);obtain⟨W5,a3⟩:=qE (w4.setCell ⟨g,i*6+4,none⟩ (.int .i64 q):World);rw[<-a3]at H5;clear f1;go_upto_region 17 with fail;rw[<-a3];clear a3 c0 c1 c2 c3 c4 c5 a8;obtain⟨⟨c0,c1,c2,c3,c4,c5⟩,f1⟩:=H5.at6 i _ a9.out;have a7:=f1 (i*6+5);obtain⟨W6,a6⟩:=qE (W5.setCell ⟨g,i*6+5,none⟩ (.string ⟨#[]⟩):World);have H6:Hid (LInv base cb bv n Wb g cp ((r.es.set i {x with kind:=q}).set i {x with kind:=q,val:=⟨#[]⟩}) W6):=by show LInv base cb bv n Wb g cp ((r.es.set i {x with kind:=q}).set i {x with kind:=q,val:=⟨#[]⟩}) W6;rw[a6];exact H5.set i 5 _ {x with kind:=q,val:=⟨#[]⟩} (.string ⟨#[]⟩) a9.out (by omega) rfl ⟨HX.2.row,HX.2.fam,HX.2.qual,by show(0:Nat)<=1000;omega,HX.2.ts,by have:=H4.2;show 0<=q/\q<=3;omega⟩
   clear f1;go_upto_region 18 with fail;rw[<-a6];clear a6 c0 c1 c2 c3 c4 c5 a7 H5 a9 H4;obtain⟨rc,rf⟩:=HRs.out W6 H6.c;obtain⟨W9,hW9⟩:=qE (W6.setCell ⟨w.heap.size+1,0,none⟩ (.slice (some ⟨g,0,none⟩) m cp):World);have HE:Hid (∃r':Rm,Ending.returned (Value.agg #[.slice (some ⟨g,0,none⟩) m cp])=.returned (.agg #[.slice (some ⟨r'.b,r'.off,none⟩) r'.es.length r'.cap])/\yEs w r.b r.es r' W9/\Drew base cb bv n w W9):=by rw[hW9];exact HFn.out _ _ ((r.es.set i {x with kind:=q}).set i {x with kind:=q,val:=⟨#[]⟩}) _ _ (by rw[length_set,length_set,HM.out]) H6.out (by omega)
   exact yX7
theorem yRv(c k:Int)(w:World):(Instr.field 168 (.agg #[.int .i64 c,.int .i64 k]) 0).run prog w=.ok (.int .i64 c) w:=by kernel_rfl
theorem yEf(base cb:Nat)(bv:Value)(n:Nat)(w:World)(h:yAd base cb bv n w):Calls prog 157 #[.pointer (some ⟨cb,0,none⟩)] w (TxtP base cb bv n 100000 w):=by
 have HD:Hid (yAd base cb bv n w):=h;clear h;go_enter func157,ntmps157;go_wp2_with fail;refine(yAh base cb bv n 12 _ HD.out (by omega) (by omega)).mono ?_;rintro e w1 ⟨x,rfl,ab,aa,a6,a9⟩;have H1:Hid (yAd base cb bv n w1/\Chg (λk=>k=cb) w w1):=⟨a6,a9⟩;clear a6 a9;by_cases h0:x=0
 .subst h0;go_wp2_with fail;go_ret;exact⟨_,rfl,by decide,H1.out⟩
 have b0:=qn h0
 by_cases h4:x<4
 .go_wp2_with fail;refine(yAu base cb bv n 0 2 _ H1.1 (by omega) (by omega) (by omega)).mono ?_;rintro e w2 ⟨s,rfl,hs,y,a0⟩;have H2:Hid (yAd base cb bv n w2/\Chg (λk=>k=cb) w w2):=⟨y,H1.2.trans a0⟩;have ac:=y.lt.2;clear y a0;go_wp2_with fail;refine(yD0 base cb bv n _ 7 _ ((H2.1).below (qB)) (by omega) (by omega) (by omega) (by simp) ?_).mono ?_
  .intro k hk;match k,hk with
   |0,_=>exact⟨_,by simp;rfl,by decide⟩
   |1,_=>exact⟨_,by simp;rfl,by decide⟩
   |2,_=>exact⟨_,by simp;rfl,by decide⟩
   |3,_=>exact⟨_,by simp;rfl,by decide⟩
   |4,_=>exact⟨_,by simp;rfl,by decide⟩
   |5,_=>exact⟨_,by simp;rfl,by decide⟩
   |6,_=>exact⟨_,by simp;rfl,by decide⟩
  .rintro e w3 ⟨t,rfl,ht,a5,a8⟩;have H3:Hid (yAd base cb bv n w3/\Chg (λk=>k=cb) w w3):=⟨a5,(H2.2.alloc_new _).trans a8⟩;clear a5 a8;go_wp2_with fail;go_ret;exact⟨_,rfl,by rw[yDq];omega,H3.out⟩
 .go_wp2_with fail;refine(yTw base cb bv n _ H1.1).mono ?_;rintro e w2 ⟨s,rfl,hs,y,a0⟩;have H2:Hid (yAd base cb bv n w2/\Chg (λk=>k=cb) w w2):=⟨y,H1.2.trans a0⟩;clear y a0;have a3:s.size<=maxLen:=by unfold maxLen;omega
  have HC:Hid (Calls prog 106 #[.string s] w2 (ChkP s w2)):=yKl s w2 a3;clear a3;go_wp2_with fail;refine HC.mono ?_;rintro e w3 ⟨rfl,hb3⟩;have H3:Hid (yAd base cb bv n w3/\Chg (λk=>k=cb) w w3):=⟨H2.1.below hb3,H2.2.trans (Chg.of_below hb3)⟩;obtain⟨c,hc⟩:=qE ((yBl (sb s)).1:Int);obtain⟨k,hk⟩:=qE (((yBl (sb s)).2:Int):Int);rw[<-hc,<-hk];clear hc hk hb3;have hf:=yRv c k w3;by_cases hc0:c=0
  .subst hc0;go_wp2_with fail;go_ret;exact⟨s,rfl,by omega,H3.out⟩
  .have bc:=qn hc0
   go_wp2_with fail;refine(yAu base cb bv n 0 2 _ H3.1 (by omega) (by omega) (by omega)).mono ?_;rintro e w4 ⟨t,rfl,ht,a4,a7⟩;have H4:Hid (yAd base cb bv n w4/\Chg (λk=>k=cb) w w4):=⟨a4,H3.2.trans a7⟩;clear a4 a7;go_wp2_with fail;go_ret;exact⟨t,rfl,by omega,H4.out⟩
section
attribute [local go_sem] Oper.semAt_some
abbrev mkD(D:Nat):Deferred:={target:=.collected D,args:=#[]}
theorem ySa{F:Fence}{fn:Func}{tmps:Array Value}{R:Ending->World->Prop}{v:Value}{W:World}{D:Nat}(hm:W.heap[D]?=some (.deferred (some [])))(hr:(results fn tmps).run prog (W.putObj D (.deferred none))=.ok v (W.putObj D (.deferred none)))(h:R (.returned v) (W.putObj D (.deferred none))):LeavesInM F n prog fn tmps R [mkD D] .returning W:=
 ⟨by simp,.inl ⟨D,W.putObj D (.deferred none),rfl,run_takeDeferred hm,v,hr,h⟩⟩
theorem yKg{F:Fence}(w:World){rest:List Oper}{o:Oper}(hg:o.guard=none)(s x:Operand)
  (ho:o.op=.call {callee:=.builtin .append,args:=#[s,x],argTypes:=#[37,37]})
  (base:Nat) (a0:Option Addr) (nn c0 b off m cx:Nat) (fs es:List Ent) (hs:a.eval s=.slice a0 nn c0) (hx:a.eval x=.slice (some ⟨b,off,none⟩) m cx) (hn:nn=fs.length) (hm:m=es.length) (hO:RowC w base (.slice a0 nn c0) fs)
  (hc:yBd w b off es) (hlen:fs.length+es.length<=2^30) (hbase:base<=w.heap.size)
  (h:∀a' c' w',RowC w' base (.slice a' (nn+m) c') (fs++es)->w.grownBy w' (Value.slice a0 nn c0).ownBlock->wpListIn F n prog ops Q rest (a.put o.dst (.slice a' (nn+m) c')) w'):wpListIn F n prog ops Q (o::rest) a w:=by
 subst hn;subst hm;obtain⟨i,hi,a6,a5,a4⟩:=info_parts Tryz.infoCel;refine wpListIn_append_own w hg s x 37 ho base 73 i _ 5 72 underlying37 hi a6 a5 a4 rfl (by decide) (.slice a0 fs.length c0) fs.length (yBg fs) hs hO ⟨b,off,none⟩ es.length cx (yBg es) hx (yCo es) (λj u hu=>by rw[Addr.add_mid];exact hc.flat j u hu) (yMt es) (by unfold maxLen;omega) (by omega) hbase ?_;intro v' w' a3 a7 a8;rw[<-yCq]at a3;have y:(fs++es).length=fs.length+es.length:=by simp
 have hR:RowC w' base v' (fs++es):=by unfold RowC;rw[y];exact a3
 obtain⟨a',c',rfl⟩:∃a' c',v'=.slice a' (fs.length+es.length) c':=by
  rcases hR.cases with⟨q,q2⟩|⟨g,cp,q,_⟩
  .have h9:(fs++es).length=0:=by rw[q2];rfl
   rw[y]at h9;exact⟨none,0,by rw[h9];exact q⟩
  .exact⟨_,_,by rw[<-y];exact q⟩
 exact h a' c' w' hR a7
end
end Go.Proofs.YtehfleefkdojpaaGreatDoor
