import Derived.Test.YtehfleefkdojpaaGreatDoorSkAA
namespace Go.Proofs.YtehfleefkdojpaaGreatDoor
open Go.ChangeShapes Go.WideShapes Go.ChangeAt Go.RowKit Go.Deep _root_.List _root_.Nat Go.Proofs.Tryz
set_option linter.unusedVariables false
set_option linter.unusedSimpArgs false
set_option maxRecDepth 100000
set_option maxHeartbeats 16000000
structure Rm where
 b:Nat
 off:Nat
 cap:Nat
 es:List Ent
abbrev Rm.u(r:Rm):Value:=.slice (some ⟨r.b,r.off,none⟩) r.es.length r.cap
structure Rm.at(w:World)(r:Rm):Prop where
 ents:yAe w r.b r.off r.es
 lt:r.b<w.heap.size
 len:r.es.length<=r.cap
 cap:r.cap<=maxLen
variable {w w':World} {r:Rm}
theorem Rm.at.below(h:r.at w)(hb:Below w.heap.size w w'):r.at w':=⟨h.ents.below hb h.lt,by have:=hb.size;have:=h.lt;omega,h.len,h.cap⟩
def yB5(w:World)(b off:Nat)(l:List Rm):Prop:=∀i r,l[i]?=some r->w.cell? ⟨b,off+i,none⟩=some r.u/\r.at w
variable {b off:Nat} {l:List Rm}
theorem yB5.below(h:yB5 w b off l)(hb:Below w.heap.size w w')(hlt:b<w.heap.size):yB5 w' b off l:=by intro i r hr;obtain⟨h1,h2⟩:=h i r hr;exact⟨by rw[hb.cell (p:=⟨b,off+i,none⟩) (by exact hlt)];exact h1,h2.below hb⟩
def okM(l:List Rm):Prop:=∀r∈l,∀e∈r.es,e.ok
abbrev esM(l:List Rm):List (List Ent):=l.map Rm.es
theorem yU5(h:l.length<=50)(k:∀r∈l,yAp r.es):yAl (esM l):=by refine⟨by simpa using h,λes he=>?_⟩;obtain⟨r,hr,rfl⟩:=List.mem_map.1 he;exact k r hr
theorem yFy(h:yAl (esM l))(hr:r∈l):yAp r.es:=h.2 _ (List.mem_map.2 ⟨r,hr,rfl⟩)
variable {k:Nat}
theorem yDs{α:Type}{l:List α}{a x:α}(h:l[k]?=some a)(hx:x∈l.take (k+1)):x∈l.take k\/x=a:=by rw[take_add_one,h]at hx;simpa using hx
theorem yMr(b off cap:Nat)(l:List Rm)(w:World)(hR:yB5 w b off l)(hok:okM l)(hB:b<w.heap.size)(hlen:l.length<=1048576):
  Calls prog 21 #[.slice (some ⟨b,off,none⟩) l.length cap] w λe w'=>
   ∃r:Bool,e=.returned (.bool r)/\(r=true↔yAl (esM l))/\Below w.heap.size w w':=by
 have HR:Hid (yB5 w b off l/\okM l):=⟨hR,hok⟩;clear hR hok;by_cases hbig:50<l.length
 .have H:Hid (¬yAl (esM l)):=λh=>by have:=h.1;simp at this;omega
  go_enter func21,ntmps21;go_wp2;go_ret;exact⟨_,rfl,iffF H.out,Below.refl _ _⟩
 go_enter func21,ntmps21;go_wp2;go_loopw[3] (λi wr=>∃(k:Nat),k<=l.length/\i=.int .i64 k/\(∀r∈l.take k,yAp r.es)/\Below w.heap.size w wr) (λi _=>l.length-(intOf i).toNat);case atStart=>exact⟨0,zero_le _,rfl,by simp,Below.refl _ _⟩
 case round=>
  obtain⟨k,hk,rfl,hv,hb⟩:=hrel;have HV:Hid (∀r∈l.take k,yAp r.es):=hv;clear hv;by_cases hlt:k<l.length
  .obtain⟨r,hr⟩:∃r,l[k]?=some r:=⟨_,getElem?_eq_getElem hlt⟩;obtain⟨c0,ha⟩:=(HR.1.below hb hB) k r hr;have HA:Hid (r.at wr/\l[k]?=some r):=⟨ha,hr⟩;clear ha hr;go_wp2_with fail;refine(yCx r.b r.off r.cap r.es _ HA.1.ents (HR.2 r (mem_of_getElem? HA.2)) HA.1.lt HA.1.len HA.1.cap).mono ?_;rintro e' w1 ⟨s,rfl,hs,hb1⟩;have hb2:=hb.trans (hb1.mono hb.size);have HS:Hid (s=true↔yAp r.es):=hs;clear c0 hb1 hs;cases s
   .exact xAe
   .exact yV4
  .exact xAh
theorem yI1(b off cap:Nat)(l:List Rm)(w:World)(hR:yB5 w b off l)(hok:okM l)(hB:b<w.heap.size)(hlen:l.length<=1048576):
  Calls prog 55 #[.slice (some ⟨b,off,none⟩) l.length cap] w λe w'=>
   ∃r:Bool,e=.returned (.bool r)/\(r=true↔yAl (esM l))/\Below w.heap.size w w':=by
 have HR:Hid (yB5 w b off l/\okM l):=⟨hR,hok⟩;clear hR hok;by_cases hbig:50<l.length
 .have H:Hid (¬yAl (esM l)):=λh=>by have:=h.1;simp at this;omega
  go_enter func55,ntmps55;go_wp2;go_ret;exact⟨_,rfl,iffF H.out,Below.refl _ _⟩
 go_enter func55,ntmps55;go_wp2;go_loopw[10] (λi wr=>∃(k:Nat),k<=l.length/\i=.int .i64 k/\(∀r∈l.take k,yAp r.es)/\Below w.heap.size w wr) (λi _=>l.length-(intOf i).toNat);case atStart=>exact⟨0,zero_le _,rfl,by simp,Below.refl _ _⟩
 case round=>
  obtain⟨k,hk,rfl,hv,hb⟩:=hrel;have HV:Hid (∀r∈l.take k,yAp r.es):=hv;clear hv;by_cases hlt:k<l.length
  .obtain⟨r,hr⟩:∃r,l[k]?=some r:=⟨_,getElem?_eq_getElem hlt⟩;obtain⟨c0,ha⟩:=(HR.1.below hb hB) k r hr;have HA:Hid (r.at wr/\l[k]?=some r):=⟨ha,hr⟩;clear ha hr;obtain⟨W1,a3⟩:=qE (wr.alloc (Obj.cells #[.slice (some ⟨r.b,r.off,none⟩) r.es.length r.cap] 60):World);have a0:Below wr.heap.size wr W1:=by rw[a3];exact qB
   have y:Hid (r.at W1):=HA.1.below a0;go_wp2_with fail;rw[<-a3];clear a3;refine(yEz r.b r.off r.cap r.es _ y.ents (HR.2 r (mem_of_getElem? HA.2)) y.lt y.len y.cap).mono ?_;rintro e' w1 ⟨s,rfl,hs,hb1⟩;have hb2:=(hb.trans (a0.mono hb.size)).trans (hb1.mono (by have:=hb.size;have:=a0.size;omega));have HS:Hid (s=true↔yAp r.es):=hs;clear c0 hb1 hs;cases s
   .exact xAe
   .exact yV4
  .exact xAh
def yA5(e:Ent):List Ent->Int->Int×ByteArray
 | [],h=>(h,⟨#[]⟩)
 |d::r,h=>if yAm d e=true then
   (if(d.kind==0)=true/\(d.ts==e.ts)=true then(1,d.val)else if(d.kind==1)=true/\(d.ts==e.ts)=true then(2,⟨#[]⟩)else if(d.kind==2)=true/\e.ts<=d.ts then yA5 e r 2 else yA5 e r h)
  else yA5 e r h
theorem yGb(e:Ent):∀(es:List Ent)(h:Int),(∀d∈es,d.vld=true)->((yA5 e es h).1≠0↔h≠0\/∃d∈es,yA6 d e=true)
 | [],h,_=>by simp[yA5]
 |d::r,h,hv=>by
  have ih2:=yGb e r 2 (λx hx=>hv x (mem_cons_of_mem _ hx))
  have ihh:=yGb e r h (λx hx=>hv x (mem_cons_of_mem _ hx))
  have hd:=hv d (by simp)
  unfold Ent.vld vE at hd
  have hk:=of_decide_eq_true hd
  unfold yA5
  have hex:(∃x∈d::r,yA6 x e=true)↔yA6 d e=true\/∃x∈r,yA6 x e=true:=by simp
  rw[hex]
  by_cases hc:yAm d e=true
  .rw[if_pos hc]
   by_cases h0:(d.kind==0)=true/\(d.ts==e.ts)=true
   .rw[if_pos h0]
    have:yA6 d e=true:=by
     unfold yA6;have:d.kind=0:=by simpa using h0.1
     simp[hc,this,h0.2]
    simp[this]
   .rw[if_neg h0];by_cases h1:(d.kind==1)=true/\(d.ts==e.ts)=true
    .rw[if_pos h1];have:yA6 d e=true:=by
      unfold yA6;have:d.kind=1:=by simpa using h1.1
      simp[hc,this,h1.2]
     simp[this]
    .rw[if_neg h1];by_cases h2:(d.kind==2)=true/\e.ts<=d.ts
     .rw[if_pos h2,ih2];have:yA6 d e=true:=by
       unfold yA6;have:d.kind=2:=by simpa using h2.1
       simp[hc,this,h2.2]
      simp[this]
     .rw[if_neg h2,ihh];have:yA6 d e=false:=by
       unfold yA6;simp only[beq_iff_eq]at h0 h1 h2;rw[hc];by_cases hk2:d.kind=2
       .simp[hk2];have:¬e.ts<=d.ts:=λq=>h2 ⟨hk2,q⟩;omega
       .simp[hk2];intro q;have:d.kind=0\/d.kind=1:=by omega
        rcases this with z|z
        .exact h0 ⟨z,q⟩
        .exact h1 ⟨z,q⟩
      simp[this]
  .rw[if_neg hc,ihh];have:yA6 d e=false:=by unfold yA6;simp[hc]
   simp[this]
variable {es:List Ent}
theorem yRs{e d:Ent}{h:Int}(hd:es[k]?=some d):yA5 e (es.drop k) h=yA5 e (d::es.drop (k+1)) h:=by congr 1;obtain⟨h1,rfl⟩:=List.getElem?_eq_some_iff.1 hd;exact drop_eq_getElem_cons h1
theorem yYl{m:Nat}(h:yB5 w b off l)(hb:b<w.heap.size)(hr:l[m]?=some r):(∀n:Out w,n.u.cell? ⟨b,off+m,none⟩=some (.slice (some ⟨r.b,r.off,none⟩) r.es.length r.cap))/\∀n:Out w,r.at n.u:=
 ⟨λn=>(h.below n.out hb m r hr).1,λn=>(h.below n.out hb m r hr).2⟩
theorem yDj(w:World)(e:Ent):yAe (w.alloc (Obj.cells #[.string e.row,.string e.fam,.string e.qual,.int .u64 e.ts,.int .i64 e.kind,.string e.val] 64)) w.heap.size 0 [e]:=by exact yS5
theorem yCb(e d:Ent)(r:List Ent)(h:Int):yA5 e (d::r) h=if yAm d e=true then
   (if(d.kind==0)=true/\(d.ts==e.ts)=true then(1,d.val)else if(d.kind==1)=true/\(d.ts==e.ts)=true then(2,⟨#[]⟩)else if(d.kind==2)=true/\e.ts<=d.ts then yA5 e r 2 else yA5 e r h)
  else yA5 e r h:=rfl
theorem yTt(r:Rm)(e:Ent)(w:World)(hr:r.at w)(hlen:r.es.length<=1048576):
  Calls prog 111 #[.agg #[.slice (some ⟨r.b,r.off,none⟩) r.es.length r.cap],.agg #[.string e.row,.string e.fam,.string e.qual,.int .u64 e.ts,.int .i64 e.kind,.string e.val]] w λx w'=>
   x=.returned (.tuple #[.int .i64 (yA5 e r.es 0).1,.string (yA5 e r.es 0).2])/\Below w.heap.size w w':=by
 obtain⟨rb,ro,rc,es⟩:=r;simp only at*;obtain⟨Wa,y⟩:=qE (w.alloc (Obj.cells #[.slice (some ⟨rb,ro,none⟩) es.length rc] 60):World);obtain⟨W0,a3⟩:=qE (Wa.alloc (Obj.cells #[.string e.row,.string e.fam,.string e.qual,.int .u64 e.ts,.int .i64 e.kind,.string e.val] 64):World);have a5:Below w.heap.size w Wa:=by rw[y];exact qB
 have a6:Wa.heap.size=w.heap.size+1:=by rw[y];simp
 have a4:Below Wa.heap.size Wa W0:=by rw[a3];exact qB
 have ae:W0.heap.size=w.heap.size+1+1:=by rw[a3];simp[a6]
 have a9:Below w.heap.size w W0:=a5.trans (a4.mono (by omega));have a7:Wa.cell? ⟨w.heap.size,0,none⟩=some (.slice (some ⟨rb,ro,none⟩) es.length rc):=by rw[y];simp
 have HC:Hid (W0.cell? ⟨w.heap.size,0,none⟩=some (.slice (some ⟨rb,ro,none⟩) es.length rc)):=by show W0.cell? ⟨w.heap.size,0,none⟩=_;rw[a4.cell (p:=⟨w.heap.size,0,none⟩) (by show w.heap.size<Wa.heap.size;omega)];exact a7
 have HX:Hid (yAe W0 (w.heap.size+1) 0 [e]):=by show yAe W0 (w.heap.size+1) 0 [e];rw[a3,<-a6];exact yDj Wa e
 have HR:Hid (yAe W0 rb ro es/\rb<w.heap.size):=⟨(hr.below a5).ents.below a4 (hr.below a5).lt,hr.lt⟩;have ac:=hr.lt;simp only at ac;clear hr a7;go_enter func111,ntmps111;go_wp2_with fail;rw[<-y,<-a3];clear y a3;go_loopw[6,7] (λh i wr=>∃(k:Nat)(x:Int),k<=es.length/\i=.int .i64 k/\h=.int .i64 x/\yA5 e es 0=yA5 e (es.drop k) x/\Below W0.heap.size W0 wr) (λ_ i _=>es.length-(intOf i).toNat);case atStart=>exact⟨0,0,zero_le _,rfl,rfl,by simp,Below.refl _ _⟩
 case round=>
  obtain⟨k,x,hk,rfl,rfl,hS,hb⟩:=hrel;have HS:Hid (yA5 e es 0=yA5 e (es.drop k) x):=hS;clear hS;have hs:=hb.size;have ca:wr.cell? ⟨w.heap.size,0,none⟩=some (.slice (some ⟨rb,ro,none⟩) es.length rc):=by rw[hb.cell (p:=⟨w.heap.size,0,none⟩) (by show w.heap.size<W0.heap.size;omega)];exact HC.out
  by_cases hlt:k<es.length
  .obtain⟨v,hv⟩:∃v,es[k]?=some v:=⟨_,getElem?_eq_getElem hlt⟩;obtain⟨c0,c1,c2,c3,c4,c5⟩:=(HR.1.below hb (by omega)) k v hv;obtain⟨d0,d1,d2,d3,d4,d5⟩:=(HX.below hb (by omega)) 0 e rfl;simp only[Nat.zero_add,Nat.zero_mul]at d0 d1 d2 d3 d4 d5;have HD:Hid (yA5 e es 0=yA5 e (v::es.drop (k+1)) x):=HS.trans (yRs hv);clear hv;obtain⟨W1,a0⟩:=qE (wr.alloc (Obj.cells #[.string v.row,.string v.fam,.string v.qual,.int .u64 v.ts,.int .i64 v.kind,.string v.val] 64):World);have hb1:Below wr.heap.size wr W1:=by rw[a0];exact qB
   have ad:W1.heap.size=wr.heap.size+1:=by rw[a0];simp
   have aa:Hid (yAe W1 wr.heap.size 0 [v]):=by show yAe W1 wr.heap.size 0 [v];rw[a0];exact yDj wr v
   go_upto_region 6 with fail;rw[<-a0];clear a0 c0 c1 c2 c3 c4 c5 d0 d1 d2 d3 d4 d5 ca;obtain⟨c0,c1,c2,c3,c4,c5⟩:=aa.out 0 v rfl;obtain⟨d0,d1,d2,d3,d4,d5⟩:=((HX.below hb (by omega)).below hb1 (by omega)) 0 e rfl;simp only[Nat.zero_add,Nat.zero_mul]at c0 c1 c2 c3 c4 c5 d0 d1 d2 d3 d4 d5;go_wp2_with fail;refine(yB1 v e _).mono ?_;rintro e' w2 ⟨rfl,hb2⟩;have af:=hb2.size;have hb3:Below W0.heap.size W0 w2:=(hb.trans (hb1.mono (by omega))).trans (hb2.mono (by omega));clear c0 c1 c2 c3 c4 c5 d0 d1 d2 d3 d4 d5;obtain⟨c0,c1,c2,c3,c4,c5⟩:=(aa.below hb2 (by omega)) 0 v rfl;obtain⟨d0,d1,d2,d3,d4,d5⟩:=(HX.below hb3 (by omega)) 0 e rfl;simp only[Nat.zero_add,Nat.zero_mul]at c0 c1 c2 c3 c4 c5 d0 d1 d2 d3 d4 d5;have a8:Below w.heap.size w w2:=a9.trans (hb3.mono (by omega));have fin:∀(wx:World)(a:Int)(t:ByteArray),Below w.heap.size w wx->yA5 e es 0=(a,t)->(Ending.returned (Value.tuple #[.int .i64 a,.string t])=.returned (.tuple #[.int .i64 (yA5 e es 0).1,.string (yA5 e es 0).2])/\Below w.heap.size w wx):=by intro wx a t hx hq;rw[hq];exact⟨rfl,hx⟩
   have ab:Hid (∀(wx:World)(a:Int)(t:ByteArray),Below w.heap.size w wx->yA5 e es 0=(a,t)->(Ending.returned (Value.tuple #[.int .i64 a,.string t])=.returned (.tuple #[.int .i64 (yA5 e es 0).1,.string (yA5 e es 0).2])/\Below w.heap.size w wx)):=fin;clear fin;cases hsc:yAm v e
   .have HN:Hid (yA5 e es 0=yA5 e (es.drop (k+1)) x):=by show yA5 e es 0=_;rw[HD.out];rw[yCb,if_neg (by rw[hsc];simp)]
    exact yS6
   .cases k0:(v.kind==0)
    .cases k1:(v.kind==1)
     .cases k2:(v.kind==2)
      .have HN:Hid (yA5 e es 0=yA5 e (es.drop (k+1)) x):=by show yA5 e es 0=_;rw[HD.out];rw[yCb,if_pos hsc,if_neg (by rw[k0];simp),if_neg (by rw[k1];simp),if_neg (by rw[k2];simp)]
       exact yS6
      .by_cases ge:e.ts<=v.ts
       .have HN:Hid (yA5 e es 0=yA5 e (es.drop (k+1)) 2):=by show yA5 e es 0=_;rw[HD.out];rw[yCb,if_pos hsc,if_neg (by rw[k0];simp),if_neg (by rw[k1];simp),if_pos ⟨k2,ge⟩]
        go_wp2_with fail;go_roundw;case rel=>exact⟨k+1,2,by omega,by go_num,rfl,HN.out,hb3⟩
        case measure=>go_light;simp[intOf];omega
       .have HN:Hid (yA5 e es 0=yA5 e (es.drop (k+1)) x):=by show yA5 e es 0=_;rw[HD.out];rw[yCb,if_pos hsc,if_neg (by rw[k0];simp),if_neg (by rw[k1];simp),if_neg (λq=>ge q.2)]
        exact yS6
     .have k2:(v.kind==2)=false:=by simp at k1|-;omega
      cases ht:(v.ts==e.ts)
      .have HN:Hid (yA5 e es 0=yA5 e (es.drop (k+1)) x):=by show yA5 e es 0=_;rw[HD.out];rw[yCb,if_pos hsc,if_neg (by rw[k0];simp),if_neg (by rw[ht];simp),if_neg (by rw[k2];simp)]
       exact yS6
      .have HN:Hid (yA5 e es 0=(2,⟨#[]⟩)):=by show yA5 e es 0=_;rw[HD.out];rw[yCb,if_pos hsc,if_neg (by rw[k0];simp),if_pos ⟨k1,ht⟩]
       go_wp2_with fail;go_ret2;exact ab.out _ _ _ a8 HN.out
    .have k1:(v.kind==1)=false:=by simp at k0|-;omega
     have k2:(v.kind==2)=false:=by simp at k0|-;omega
     cases ht:(v.ts==e.ts)
     .have HN:Hid (yA5 e es 0=yA5 e (es.drop (k+1)) x):=by show yA5 e es 0=_;rw[HD.out];rw[yCb,if_pos hsc,if_neg (by rw[ht];simp),if_neg (by rw[ht];simp),if_neg (by rw[k2];simp)]
      exact yS6
     .have HN:Hid (yA5 e es 0=(1,v.val)):=by show yA5 e es 0=_;rw[HD.out];rw[yCb,if_pos hsc,if_pos ⟨k0,ht⟩]
      go_upto_region 8 with fail;go_quiet (fail);go_wp2_with fail;go_ret2;exact ab.out _ _ _ (below_drewN a8 _) HN.out
  .have HN:Hid (yA5 e es 0=(x,⟨#[]⟩)):=by show yA5 e es 0=_;rw[HS.out,List.drop_of_length_le (by omega)];rfl
   go_wp2_with fail;go_ret2;refine⟨?_,a9.trans (hb.mono (by omega))⟩;rw[HN.out];rfl
theorem ySn(h:yAe w b off es):∀j u,(yBa es)[j]?=some u->w.cell? ((⟨b,off,none⟩:Addr).add j)=some u:=by exact xBd
theorem yW3(es:List Ent):∀u∈yBa es,u.oneCell'=true:=by exact yZt
variable {ops:Array Oper} {o:Oper} {a:Act} {Q:Exit->Act->World->Prop}
theorem yCf{rest:List Oper}(w:World)(hgd:o.guard=none)(s x:Operand)
  (ho:o.op=.call {callee:=.builtin .append,args:=#[s,x],argTypes:=#[58,58]})
  (base g cp n b off m cx:Nat) (fs es:List Ent) (hs:a.eval s=.slice (some ⟨g,0,none⟩) n cp) (hx:a.eval x=.slice (some ⟨b,off,none⟩) m cx) (hn:n=fs.length) (hm:m=es.length) (hO:OwnE w base g cp fs)
  (hc:yAe w b off es) (hlen:fs.length+es.length<=2^30) (hbase:base<=w.heap.size)
  (h:∀g' cp' w',OwnE w' base g' cp' (fs++es)->w.grownBy w' (some g)->(g'=g\/g'=w.heap.size)->wpList prog ops Q rest (a.put o.dst (.slice (some ⟨g',0,none⟩) (n+m) cp')) w'):wpList prog ops Q (o::rest) a w:=by
 subst hn hm;obtain⟨i,hi,a4,a3,a0⟩:=info_parts Tryz.infoEnt;refine wpList_append_own_at w hgd s x 58 ho base 64 i _ 6 80 underlying58 hi a4 a3 a0 rfl (by decide) (.slice (some ⟨g,0,none⟩) fs.length cp) fs.length (yBa fs) hs hO ⟨b,off,none⟩ es.length cx (yBa es) hx (yDt es) (ySn hc) (yW3 es) ?_ ?_ hbase ?_
 .unfold maxLen;omega
 .omega
 .intro v' w' y a6 a5 a7;rcases y.2 with⟨h0,_⟩|⟨g',a8,cur,hv,_,_,hn,a9,_,_⟩
  .have:=(a5.1 h0).1;cases this
  .subst hv;refine h g' a8 w' ?_ a6 ?_
   .unfold OwnE;rw[length_append,yDv];exact y
   .simpa [Value.ownBlock]using a7
structure AppR(w w':World)(base:Nat)(v v':Value)(us ns:List Value):Prop where
 row:w'.ownsRow base 60 1 v' (us++ns).length (us++ns)
 grown:w.grownBy w' v.ownBlock
 nil:v'=.slice none 0 0↔v=.slice none 0 0/\ns.length=0
 blk:v'.ownBlock=v.ownBlock\/v'.ownBlock=some w.heap.size
theorem AppR.form{base:Nat}{v v':Value}{us ns:List Value}(h:AppR w w' base v v' us ns)(hv:v≠ .slice none 0 0):∃g cp,v'=.slice (some ⟨g,0,none⟩) (us++ns).length cp:=by
 rcases h.row.2 with⟨h0,_⟩|⟨g3,a0,cur,y,_⟩
 .exact absurd (h.nil.1 h0).1 hv
 .exact⟨g3,a0,y⟩
theorem yA8{rest:List Oper}(w:World)(hgd:o.guard=none)(s x:Operand)
  (ho:o.op=.call {callee:=.builtin .append,args:=#[s,x],argTypes:=#[54,54]})
  (base:Nat) (v:Value) (us:List Value) (b off m cx:Nat) (ns:List Value) (hs:a.eval s=v) (hx:a.eval x=.slice (some ⟨b,off,none⟩) m cx) (hm:m=ns.length) (hO:w.ownsRow base 60 1 v us.length us)
  (hc:∀j u,ns[j]?=some u->w.cell? ⟨b,off+j,none⟩=some u) (h1:∀u∈ns,u.oneCell'=true) (hlen:us.length+ns.length<=2^30) (hbase:base<=w.heap.size)
  (h:∀v' w',AppR w w' base v v' us ns->wpList prog ops Q rest (a.put o.dst v') w'):wpList prog ops Q (o::rest) a w:=by
 subst hm;obtain⟨i,hi,a3,a0,y⟩:=info_parts Tryz.infoRun;refine wpList_append_own_at w hgd s x 54 ho base 60 i _ 1 24 underlying54 hi a3 a0 y rfl (by decide) v us.length us hs hO ⟨b,off,none⟩ ns.length cx ns hx (by omega) (λj u hu=>by rw[Addr.add_mid];exact hc j u hu) h1 ?_ ?_ hbase ?_
 .unfold maxLen;omega
 .omega
 .intro v' w' a7 a5 a4 a6;exact h v' w' ⟨by rw[length_append];exact a7,a5,a4,a6⟩
structure AppT(w w':World)(base:Nat)(v v':Value)(us ns:List Pr):Prop where
 row:w'.ownsRow base 56 2 v' (us++ns).length (yAs (us++ns))
 grown:w.grownBy w' v.ownBlock
 nil:v'=.slice none 0 0↔v=.slice none 0 0/\ns.length=0
 blk:v'.ownBlock=v.ownBlock\/v'.ownBlock=some w.heap.size
theorem AppT.form{base:Nat}{v v':Value}{us ns:List Pr}(h:AppT w w' base v v' us ns)(hv:v≠ .slice none 0 0\/0<ns.length):∃g cp,v'=.slice (some ⟨g,0,none⟩) (us++ns).length cp:=by
 rcases h.row.2 with⟨h0,_⟩|⟨g3,a0,cur,y,_⟩
 .have:=h.nil.1 h0;rcases hv with hv|hv
  .exact absurd this.1 hv
  .omega
 .exact⟨g3,a0,y⟩
theorem yXj{ps:List Pr}(h:∀i p,ps[i]?=some p->w.cell? ⟨b,off+i*2,none⟩=some (.string p.1)/\w.cell? ⟨b,off+i*2+1,none⟩=some p.2):∀j u,(yAs ps)[j]?=some u->w.cell? ((⟨b,off,none⟩:Addr).add j)=some u:=by
 intro j u hu;have hj:j<ps.length*2:=by rw[<-yE9];exact(List.getElem?_eq_some_iff.1 hu).1
 obtain⟨e,he⟩:∃e,ps[j/2]?=some e:=⟨_,getElem?_eq_getElem (by omega)⟩;have hg:=yLm ps (j/2) e he (j%2) (mod_lt _ (by omega));rw[show j/2*2+j%2=j by omega,hu]at hg;obtain⟨c0,c1⟩:=h (j/2) e he;rw[Addr.add_mid,show off+j=off+j/2*2+j%2 by omega];have hm:j%2<2:=mod_lt _ (by omega);generalize j%2=m at*;match m,hm,hg with
 |0,_,hg=>rw[Nat.add_zero,c0,hg];rfl
 |1,_,hg=>rw[c1,hg];rfl
theorem yCe{rest:List Oper}(w:World)(hgd:o.guard=none)(s x:Operand)
  (ho:o.op=.call {callee:=.builtin .append,args:=#[s,x],argTypes:=#[26,26]})
  (base:Nat) (v:Value) (us:List Pr) (b off m cx:Nat) (ns:List Pr) (hs:a.eval s=v) (hx:a.eval x=.slice (some ⟨b,off,none⟩) m cx) (hm:m=ns.length) (hO:w.ownsRow base 56 2 v us.length (yAs us))
  (hc:∀i p,ns[i]?=some p->w.cell? ⟨b,off+i*2,none⟩=some (.string p.1)/\w.cell? ⟨b,off+i*2+1,none⟩=some p.2) (h1:∀p∈ns,p.2.oneCell'=true) (hlen:us.length+ns.length<=2^30) (hbase:base<=w.heap.size)
  (h:∀v' w',AppT w w' base v v' us ns->wpList prog ops Q rest (a.put o.dst v') w'):wpList prog ops Q (o::rest) a w:=by
 subst hm;obtain⟨i,hi,a3,a0,y⟩:=info_parts Tryz.infoTab;refine wpList_append_own_at w hgd s x 26 ho base 56 i _ 2 40 underlying26 hi a3 a0 y rfl (by decide) v us.length (yAs us) hs hO ⟨b,off,none⟩ ns.length cx (yAs ns) hx (yE9 ns) (yXj hc) (λu hu=>?_) ?_ ?_ hbase ?_
 .unfold yAs at hu;obtain⟨p,hp,he⟩:=mem_flatMap.1 hu;simp at he;rcases he with rfl|rfl
  .rfl
  .exact h1 p hp
 .unfold maxLen;omega
 .omega
 .intro v' w' a7 a5 a4 a6;exact h v' w' ⟨by rw[length_append,yG9];exact a7,a5,a4,a6⟩
theorem yB6{oo:Oper}{K:Act->World->Prop}{E:Prop}(w:World)(hgd:oo.guard=none)(s x:Operand)
  (ho:oo.op=.call {callee:=.builtin .append,args:=#[s,x],argTypes:=#[26,26]})
  (base:Nat) (v:Value) (us:List Pr) (b off m cx:Nat) (ns:List Pr) (hs:a.eval s=v) (hx:a.eval x=.slice (some ⟨b,off,none⟩) m cx) (hm:m=ns.length) (hO:w.ownsRow base 56 2 v us.length (yAs us))
  (hc:∀i p,ns[i]?=some p->w.cell? ⟨b,off+i*2,none⟩=some (.string p.1)/\w.cell? ⟨b,off+i*2+1,none⟩=some p.2) (h1:∀p∈ns,p.2.oneCell'=true) (hlen:us.length+ns.length<=2^30) (hbase:base<=w.heap.size)
  (h:∀v' w',AppT w w' base v v' us ns->K (a.put oo.dst v') w'):if Region.wanted oo (yielded ops a.tmps)=true then Oper.wp prog oo a w K Q else E:=by
 have hw:Region.wanted oo (yielded ops a.tmps)=true:=by simp[Region.wanted,hgd]
 rw[if_pos hw];subst hm;obtain⟨i,hi,a3,a0,y⟩:=info_parts Tryz.infoTab;obtain⟨v',w',hr,a7,a5,a4,a6⟩:=run_append_own_at (P:=prog) w base 26 oo.type 56 i _ 2 40 underlying26 hi a3 a0 y rfl (by decide) v us.length (yAs us) hO ⟨b,off,none⟩ ns.length cx (yAs ns) (yE9 ns) (yXj hc) (λu hu=>by
  unfold yAs at hu
  obtain⟨p,hp,he⟩:=mem_flatMap.1 hu
  simp at he
  rcases he with rfl|rfl
  .rfl
  .exact h1 p hp) (by unfold maxLen;omega) (by omega) hbase
 have hfin:=h v' w' ⟨by rw[length_append,yG9];exact a7,a5,a4,a6⟩;exact yS4
theorem yB7{oo:Oper}{K:Act->World->Prop}{E:Prop}(w:World)(hgd:oo.guard=none)(s x:Operand)
  (ho:oo.op=.call {callee:=.builtin .append,args:=#[s,x],argTypes:=#[54,54]})
  (base:Nat) (v:Value) (us:List Value) (b off m cx:Nat) (ns:List Value) (hs:a.eval s=v) (hx:a.eval x=.slice (some ⟨b,off,none⟩) m cx) (hm:m=ns.length) (hO:w.ownsRow base 60 1 v us.length us)
  (hc:∀j u,ns[j]?=some u->w.cell? ⟨b,off+j,none⟩=some u) (h1:∀u∈ns,u.oneCell'=true) (hlen:us.length+ns.length<=2^30) (hbase:base<=w.heap.size)
  (h:∀v' w',AppR w w' base v v' us ns->K (a.put oo.dst v') w'):if Region.wanted oo (yielded ops a.tmps)=true then Oper.wp prog oo a w K Q else E:=by
 have hw:Region.wanted oo (yielded ops a.tmps)=true:=by simp[Region.wanted,hgd]
 rw[if_pos hw];subst hm;obtain⟨i,hi,a3,a0,y⟩:=info_parts Tryz.infoRun;obtain⟨v',w',hr,a7,a5,a4,a6⟩:=run_append_own_at (P:=prog) w base 54 oo.type 60 i _ 1 24 underlying54 hi a3 a0 y rfl (by decide) v us.length us hO ⟨b,off,none⟩ ns.length cx ns (by omega) (λj u hu=>by rw[Addr.add_mid];exact hc j u hu) h1 (by unfold maxLen;omega) (by omega) hbase;have hfin:=h v' w' ⟨by rw[length_append];exact a7,a5,a4,a6⟩;exact yS4
theorem yHt(w:World)(base:Nat)(hb:base<=w.heap.size):OwnE (w.alloc (Obj.cells #[] 64)) base w.heap.size 0 []:=
 World.ownsRow_lit w #[] 0 hb (by decide) (by decide)
theorem yEv(w:World)(base:Nat)(hb:base<=w.heap.size):(w.alloc (Obj.cells #[] 60)).ownsRow base 60 1 (.slice (some ⟨w.heap.size,0,none⟩) 0 0) 0 []:=
 World.ownsRow_lit w #[] 0 hb (by decide) (by decide)
theorem ySq(r:Rm)(w:World)(hr:r.at w)(hl:r.es.length<=1048576):
  Calls prog 125 #[.slice (some ⟨r.b,r.off,none⟩) r.es.length r.cap] w λe w'=>
   ∃g cp,e=.returned (.slice (some ⟨g,0,none⟩) r.es.length cp)/\OwnE w' w.heap.size g cp r.es/\Below w.heap.size w w':=by
 have HR:Hid (r.at w):=hr;clear hr;have HE:Hid (OwnE (w.alloc (Obj.cells #[] 64)) w.heap.size w.heap.size 0 []):=yHt w _ (Nat.le_refl _);have a0:Below w.heap.size w (w.alloc (Obj.cells #[] 64)):=qB;go_enter func125,ntmps125;have a5:∀wx:World,(binOp .eql 58 (.slice (some ⟨r.b,r.off,none⟩) r.es.length r.cap) (.slice none 0 0)).run prog wx=.ok (.bool false) wx:=λwx=>Go.Lib.run_eql_slice_nil wx _ _ _ _ _ _ _ underlying58;go_wp2_with (at_builtin;refine yCf _ rfl _ _ rfl w.heap.size w.heap.size 0 0 r.b r.off r.es.length r.cap [] r.es rfl rfl rfl rfl HE.out ?hc ?hl ?hb ?_);case hc=>exact(HR.below a0).ents
 case hl=>simp;omega
 case hb=>simp
 intro g' cp' w' a3 y a6;have a4:Below w.heap.size w w':=a0.grown y (by simp) (λj hj=>by cases hj;exact Nat.le_refl _);have HO:Hid (OwnE w' w.heap.size g' cp' r.es):=a3;clear a3 y;go_wp2_with fail;go_ret;exact⟨g',cp',rfl,HO.out,a4⟩
def yZo(es:List Ent)(k:Ent)(i:Nat):Prop:=i<=es.length/\(∀(t:Nat)(x:Ent),t<i->es[t]?=some x->yAc x k= -1)/\(∀(t:Nat)(x:Ent),i<=t->es[t]?=some x->¬yAc x k= -1)
theorem yOy(b off cap:Nat)(es:List Ent)(e:Ent)(w:World)(hE:yAe w b off es)(hB:b<w.heap.size)(hlen:es.length<=1048576)
  (hmono:∀(i j:Nat)(x y:Ent),i<=j->es[i]?=some x->es[j]?=some y->yAc y e= -1->yAc x e= -1):
  Calls prog 166 #[.slice (some ⟨b,off,none⟩) es.length cap,.agg #[.string e.row,.string e.fam,.string e.qual,.int .u64 e.ts,.int .i64 e.kind,.string e.val],.func (.func 167) #[] #[]] w λr w'=>
   ∃(i:Nat)(f:Value),r=.returned (.tuple #[.int .i64 i,f])/\yZo es e i/\Below w.heap.size w w':=by
 obtain⟨W0,a0⟩:=qE (w.alloc (Obj.cells #[.string e.row,.string e.fam,.string e.qual,.int .u64 e.ts,.int .i64 e.kind,.string e.val] 64):World);have a4:Below w.heap.size w W0:=by rw[a0];exact qB
 have a5:w.heap.size<W0.heap.size:=by rw[a0];simp
 have HE:Hid (yAe W0 b off es):=hE.below a4 hB;have HX:Hid (yAe W0 w.heap.size 0 [e]):=by show yAe W0 w.heap.size 0 [e];rw[a0];exact yDj w e
 have HM:Hid (∀(i j:Nat)(x y:Ent),i<=j->es[i]?=some x->es[j]?=some y->yAc y e= -1->yAc x e= -1):=hmono;clear hE hmono;go_enter func166,ntmps166;go_wp2_with fail;rw[<-a0];clear a0;go_loopw[9,10] (λi j wr=>∃lo hi:Nat,i=.int .i64 lo/\j=.int .i64 hi/\lo<=hi/\hi<=es.length/\(∀(t:Nat)(x:Ent),t<lo->es[t]?=some x->yAc x e= -1)/\(∀(t:Nat)(x:Ent),hi<=t->es[t]?=some x->¬yAc x e= -1)/\Below W0.heap.size W0 wr) (λi j _=>(intOf j).toNat-(intOf i).toNat);case atStart=>exact⟨0,es.length,rfl,rfl,zero_le _,Nat.le_refl _,λt x ht=>by omega,λt x ht hx=>by have:=(List.getElem?_eq_some_iff.1 hx).1;omega,Below.refl _ _⟩
 case round=>
  obtain⟨lo,hi,rfl,rfl,a7,hhi,hA,hZ,hb⟩:=hrel;have HA:Hid ((∀(t:Nat)(x:Ent),t<lo->es[t]?=some x->yAc x e= -1)/\(∀(t:Nat)(x:Ent),hi<=t->es[t]?=some x->¬yAc x e= -1)):=⟨hA,hZ⟩;have hs:=hb.size;clear hA hZ;by_cases hlt:lo<hi
  .have zl:(lo:Int)<(hi:Int):=by omega
   go_upto_region 5 with fail;obtain⟨m,hm⟩:=qE ((lo+hi)/2:Nat);have em:((lo:Int)+(hi:Int))/2=(m:Int):=by omega
   have hm1:lo<=m:=by omega
   have a6:m<hi:=by omega
   rw[em];clear em hm;obtain⟨v,hv⟩:∃v,es[m]?=some v:=⟨_,getElem?_eq_getElem (by omega)⟩;obtain⟨q0,q1,q2,q3,q4,q5⟩:=yFz (HE.below hb (by omega)) (by omega) hv;obtain⟨r0,r1,r2,r3,r4,r5⟩:=yFz (HX.below hb (by omega)) (by omega) (rfl: [e][0]?=some e);simp only[Nat.zero_add,Nat.zero_mul]at q0 q1 q2 q3 q4 q5 r0 r1 r2 r3 r4 r5;have HV:Hid (es[m]?=some v):=hv;clear hv;have a3:Nonempty (Out wr):=⟨⟨wr,Below.refl _ _⟩⟩;have zm:(m:Int)<(es.length:Int):=by omega
   refine yAf (by kernel_rfl) (by kernel_rfl) ?_;repeat (go_big_quiet_step ((go_at_call 167;exact Calls.out_of (yC4 v e _))))
   refine wpQuiet_nil ?_;rintro wy ⟨⟨wx,hby⟩,rfl⟩;have hb2:Below W0.heap.size W0 wy:=hb.trans (hby.mono hs);clear q0 q1 q2 q3 q4 q5 r0 r1 r2 r3 r4 r5;by_cases hk:yAc v e<0
   .have HK:Hid (yAc v e= -1):=by
     rcases yBe v e with h|h|h
     .exact h
     .omega
     .omega
    have HN:Hid (∀(t:Nat)(x:Ent),t<m+1->es[t]?=some x->yAc x e= -1):=λt x ht hx=>HM.out t m x v (by omega) hx HV.out HK.out;exact yZ1
   .have HN:Hid (∀(t:Nat)(x:Ent),m<=t->es[t]?=some x->¬yAc x e= -1):=λt x ht hx q=>by have:=HM.out m t v x ht HV.out hx q;omega
    exact yZu
  .obtain rfl:lo=hi:=by omega
   have HC:Hid (yZo es e lo):=⟨hhi,HA.1,HA.2⟩;have hbw:Below w.heap.size w wr:=a4.trans (hb.mono (by omega));have zl:¬(lo:Int)<(lo:Int):=by omega
   by_cases hn:lo<es.length
   .obtain⟨v,hv⟩:∃v,es[lo]?=some v:=⟨_,getElem?_eq_getElem hn⟩;have zm:(lo:Int)<(es.length:Int):=by omega
    go_upto_region 8 with fail;obtain⟨q0,q1,q2,q3,q4,q5⟩:=yFz (HE.below hb (by omega)) (by omega) hv;obtain⟨r0,r1,r2,r3,r4,r5⟩:=yFz (HX.below hb (by omega)) (by omega) (rfl: [e][0]?=some e);simp only[Nat.zero_add,Nat.zero_mul]at q0 q1 q2 q3 q4 q5 r0 r1 r2 r3 r4 r5;clear hv;have a3:Nonempty (Out wr):=⟨⟨wr,Below.refl _ _⟩⟩;refine yAf (by kernel_rfl) (by kernel_rfl) ?_;repeat (go_big_quiet_step ((go_at_call 167;exact Calls.out_of (yC4 v e _))))
    exact xAw
   .have zm:¬(lo:Int)<(es.length:Int):=by omega
    go_upto_region 8 with fail;have a3:Nonempty (Out wr):=⟨⟨wr,Below.refl _ _⟩⟩;refine yAf (by kernel_rfl) (by kernel_rfl) ?_;repeat (go_big_quiet_step (fail))
    exact xAw
def lstE(row:ByteArray):Ent:=⟨row,⟨#[]⟩,⟨#[]⟩,18446744073709551615,2,⟨#[]⟩⟩
theorem yW9{a:ByteArray}(h:1<=a.size):cB a ⟨#[]⟩=1:=by
 obtain⟨⟨l⟩⟩:=a;cases l with
 |nil=>simp[ByteArray.size]at h
 |cons x l=>simp[cB,Lib.compareBytes]
theorem yAv(a b:ByteArray):Op.bytesLess a.toList b.toList=true↔cB a b= -1:=by
 constructor
 .exact yKb
 .intro h;cases hl:Op.bytesLess a.toList b.toList
  .cases he:(a.toList==b.toList)
   .have:=yQb hl he;omega
   .have:a=b:=yDw (by simpa using he);subst this;have:=yBn.2 (rfl:a=a);omega
  .rfl
variable {x:Ent}
theorem yJt(hv:x.vld=true)(row:ByteArray):yAc x (lstE row)= -1↔Op.bytesLess x.row.toList row.toList=true:=by
 have hf:1<=x.fam.size:=by unfold Ent.vld vE at hv;have:=of_decide_eq_true hv;omega
 rw[yAv];unfold yAc lstE yAr;simp only[yW9 hf];by_cases h:cB x.row row=0
 .simp[h]
 .simp[h]
def yF3(es:List Ent)(row:ByteArray)(i:Nat):Prop:=i<=es.length/\∀(t:Nat)(x:Ent),es[t]?=some x->(t<i↔Op.bytesLess x.row.toList row.toList=true)
variable {i:Nat}
theorem yWf(hg:yAp es){row:ByteArray}(h:yZo es (lstE row) i):yF3 es row i:=by
 refine⟨h.1,λt x hx=>?_⟩;have hv:=hg.1.2 x (mem_of_getElem? hx);rw[<-yJt hv];constructor
 .intro ht;exact h.2.1 t x ht hx
 .intro hk;by_cases ht:t<i
  .exact ht
  .exact absurd hk (h.2.2 t x (by omega) hx)
theorem yId(r:Rm)(row:ByteArray)(w:World)(hr:r.at w)(hg:yAp r.es):
  Calls prog 104 #[.agg #[.slice (some ⟨r.b,r.off,none⟩) r.es.length r.cap],.string row] w λe w'=>
   ∃i:Nat,e=.returned (.int .i64 i)/\yF3 r.es row i/\Below w.heap.size w w':=by
 obtain⟨rb,ro,rc,es⟩:=r;simp only at*;obtain⟨Wa,a3⟩:=qE (w.alloc (Obj.cells #[.slice (some ⟨rb,ro,none⟩) es.length rc] 60):World);obtain⟨W0,a5⟩:=qE (Wa.alloc (Obj.cells #[.string row,.string ⟨#[]⟩,.string ⟨#[]⟩,.int .u64 18446744073709551615,.int .i64 2,.string ⟨#[]⟩] 64):World);have a0:Below w.heap.size w Wa:=by rw[a3];exact qB
 have a8:Wa.heap.size=w.heap.size+1:=by rw[a3];simp
 have a4:Below Wa.heap.size Wa W0:=by rw[a5];exact qB
 have HR:Hid (yAe W0 rb ro es/\rb<W0.heap.size):=⟨(hr.below a0).ents.below a4 (hr.below a0).lt,((hr.below a0).below a4).lt⟩;have a6:Below w.heap.size w W0:=a0.trans (a4.mono (by omega));have hL:es.length<=1048576:=by have:=hg.1.1;omega
 have HG:Hid (yAp es):=hg;have HM:Hid (∀(i j:Nat)(x y:Ent),i<=j->es[i]?=some x->es[j]?=some y->yAc y (lstE row)= -1->yAc x (lstE row)= -1):=by
  intro i j x y a9 hx hy hk;by_cases h:i=j
  .subst h;rw[hx]at hy;simp at hy;subst hy;exact hk
  .exact yDa (yJo (yB8 hg) (by omega) hx hy) hk
 clear hr hg;go_enter func104,ntmps104;go_wp2_with fail;rw[<-a3,<-a5];clear a3 a5;refine(yOy rb ro rc es (lstE row) _ HR.1 HR.2 hL HM.out).mono ?_;rintro e w1 ⟨i,f,rfl,hc,hb1⟩;have HC:Hid (yF3 es row i):=yWf HG.out hc;have a7:=a6.trans (hb1.mono a6.size);clear hc hb1;go_wp2_with fail;go_ret;exact⟨i,rfl,HC.out,a7⟩
def Rm.part(r:Rm)(i n:Nat):Rm:=⟨r.b,r.off+i*6,r.cap-i,(r.es.drop i).take n⟩
variable {n:Nat}
theorem Rm.at.part(h:r.at w)(hi:i+n<=r.es.length):(r.part i n).at w:=by
 refine⟨?_,h.lt,?_,?_⟩
 .intro j e he;show _/\_;simp only[Rm.part]at he|-;rw[getElem?_take]at he;by_cases hj:j<n
  .rw[if_pos hj,getElem?_drop]at he;have:=h.ents (i+j) e he;rw[show r.off+(i+j)*6=r.off+i*6+j*6 by omega]at this;exact this
  .rw[if_neg hj]at he;cases he
 .have:=h.len;simp[Rm.part];omega
 .have:=h.cap;simp only[Rm.part];omega
theorem yIu(hi:i+n<=r.es.length):(r.part i n).es.length=n:=by simp[Rm.part];omega
theorem yWr:x∈(r.part i n).es↔∃t,i<=t/\t<i+n/\r.es[t]?=some x:=by
 constructor
 .intro h;obtain⟨j,hj⟩:=getElem?_of_mem h;simp only[Rm.part]at hj;rw[getElem?_take]at hj;by_cases hn:j<n
  .rw[if_pos hn,getElem?_drop]at hj;exact⟨i+j,by omega,by omega,hj⟩
  .rw[if_neg hn]at hj;cases hj
 .rintro⟨t,h1,h2,h3⟩;refine mem_of_getElem? (i:=t-i) ?_;simp only[Rm.part];rw[getElem?_take,if_pos (by omega),getElem?_drop,show i+(t-i)=t by omega];exact h3
structure yCs(r p:Rm)(lo:ByteArray)(hh:Bool)(hi:ByteArray):Prop where
 blk:p.b=r.b
 ord:Ord p.es
 mem:∀x,x∈p.es↔x∈r.es/\inR lo hh hi x.row=true
 len:p.es.length<=r.es.length
variable {hi:ByteArray} {hh:Bool} {j:Nat}
theorem yPn(hg:yAp r.es){lo:ByteArray}(h1:yF3 r.es lo i)(h2:(hh=true->yF3 r.es hi j)/\(hh=false->j=r.es.length)):yCs r (r.part i (max i j-i)) lo hh hi:=by
 refine⟨rfl,?_,λx=>?_,?_⟩
 .exact((yB8 hg).drop (i:=i)).take
 .rw[yWr];constructor
  .rintro⟨t,a1,a2,a3⟩;refine⟨mem_of_getElem? a3,?_⟩;unfold inR;have b1:Op.bytesLess x.row.toList lo.toList=false:=by
    cases hb:Op.bytesLess x.row.toList lo.toList
    .rfl
    .have:=(h1.2 t x a3).2 hb;omega
   rw[b1];cases hh
   .rfl
   .have:=(h2.1 rfl).2 t x a3;rw[this.1 (by omega)];rfl
  .rintro⟨hx,hr⟩;obtain⟨t,ht⟩:=getElem?_of_mem hx;have hl:=(List.getElem?_eq_some_iff.1 ht).1;unfold inR at hr;rw[Bool.and_eq_true]at hr;have c1:i<=t:=by
    by_cases q:t<i
    .have:=(h1.2 t x ht).1 q;rw[this]at hr;simp at hr
    .omega
   have c2:t<j:=by
    cases hh
    .have:=h2.2 rfl;omega
    .refine((h2.1 rfl).2 t x ht).2 ?_;simpa using hr.2
   exact⟨t,c1,by omega,ht⟩
 .simp[Rm.part];omega
def yHd(r p:Rm)(lo:ByteArray):Prop:=∃i,yF3 r.es lo i/\p.off=(if r.cap=i then r.off else r.off+i*6)/\p.cap=r.cap-i
theorem yIe(r:Rm)(lo hi:ByteArray)(hh:Bool)(w:World)(hr:r.at w)(hg:yAp r.es):
  Calls prog 56 #[.agg #[.slice (some ⟨r.b,r.off,none⟩) r.es.length r.cap],.agg #[.string lo,.bool hh,.string hi]] w λe w'=>
   ∃p:Rm,e=.returned (.slice (some ⟨p.b,p.off,none⟩) p.es.length p.cap)/\p.at w'/\yCs r p lo hh hi/\Below w.heap.size w w'/\yHd r p lo:=by
 have HR:Hid (r.at w/\yAp r.es):=⟨hr,hg⟩;have hL:r.es.length<=1048576:=by have:=hg.1.1;omega
 have al:=hr.len;have af:=hr.cap;unfold maxLen at af;clear hr hg;obtain⟨Wa,a5⟩:=qE (w.alloc (Obj.cells #[.slice (some ⟨r.b,r.off,none⟩) r.es.length r.cap] 60):World);obtain⟨W0,a4⟩:=qE (Wa.alloc (Obj.cells #[.string lo,.bool hh,.string hi] 30):World);have aa:Below w.heap.size w Wa:=by rw[a5];exact qB
 have a7:Wa.heap.size=w.heap.size+1:=by rw[a5];simp
 have a6:Below Wa.heap.size Wa W0:=by rw[a4];exact qB
 have ai:W0.heap.size=w.heap.size+1+1:=by rw[a4];simp[a7]
 have ac:Below w.heap.size w W0:=aa.trans (a6.mono (by omega));have HC:Hid (∀wx,Below W0.heap.size W0 wx->wx.cell? ⟨w.heap.size,0,none⟩=some (.slice (some ⟨r.b,r.off,none⟩) r.es.length r.cap)/\wx.cell? ⟨w.heap.size+1,1,none⟩=some (.bool hh)/\wx.cell? ⟨w.heap.size+1,2,none⟩=some (.string hi)/\r.at wx):=by
  intro wx hb;have a3:r.at wx:=((HR.1.below aa).below a6).below hb;rw[hb.cell (p:=⟨w.heap.size,0,none⟩) (by show w.heap.size<W0.heap.size;omega),hb.cell (p:=⟨w.heap.size+1,1,none⟩) (by show w.heap.size+1<W0.heap.size;omega),hb.cell (p:=⟨w.heap.size+1,2,none⟩) (by show w.heap.size+1<W0.heap.size;omega)];refine⟨?_,?_,?_,a3⟩
  .rw[a6.cell (p:=⟨w.heap.size,0,none⟩) (by show w.heap.size<Wa.heap.size;omega),a5];simp
  .rw[a4,<-a7];simp
  .rw[a4,<-a7];simp
 have ah:Hid (r.at W0):=(HR.1.below aa).below a6;go_enter func56,ntmps56;go_wp2_with fail;rw[<-a5,<-a4];clear a5 a4;refine(yId r lo _ ah.out HR.2).mono ?_;rintro e w1 ⟨i,rfl,a9,hb1⟩;have HI:Hid (yF3 r.es lo i):=a9;have ak:=a9.1;clear a9;obtain⟨c0,c1,c2,a3⟩:=HC.out w1 hb1;have ag:Hid (r.at w1):=a3;have aj:=hb1.size;clear a3;have fin:¬r.cap=i->∀(j:Nat)(wx:World),Below W0.heap.size W0 wx->((hh=true->yF3 r.es hi j)/\(hh=false->j=r.es.length))->∃p:Rm,Ending.returned (Value.slice (some ⟨r.b,r.off+i*6,none⟩) ((max (i:Int) (j:Int)).toNat-i) (r.cap-i))=.returned (.slice (some ⟨p.b,p.off,none⟩) p.es.length p.cap)/\p.at wx/\yCs r p lo hh hi/\Below w.heap.size w wx/\yHd r p lo:=by
  intro y j wx hb hj;have ab:j<=r.es.length:=by
   cases hh
   .rw[hj.2 rfl];exact Nat.le_refl _
   .exact(hj.1 rfl).1
  refine⟨r.part i (max i j-i),?_,(HC.out wx hb).2.2.2.part (by omega),yPn HR.2 HI.out hj,ac.trans (hb.mono (by omega)),i,HI.out,?_,rfl⟩;rotate_left
  .rw[if_neg y];rfl
  rw[yIu (by omega),show(max (i:Int) (j:Int)).toNat-i=max i j-i by omega];rfl
 have HF:Hid (¬r.cap=i->∀(j:Nat)(wx:World),Below W0.heap.size W0 wx->((hh=true->yF3 r.es hi j)/\(hh=false->j=r.es.length))->∃p:Rm,Ending.returned (Value.slice (some ⟨r.b,r.off+i*6,none⟩) ((max (i:Int) (j:Int)).toNat-i) (r.cap-i))=.returned (.slice (some ⟨p.b,p.off,none⟩) p.es.length p.cap)/\p.at wx/\yCs r p lo hh hi/\Below w.heap.size w wx/\yHd r p lo):=fin;have ad:r.cap=i->∀(j:Nat)(wx:World),Below W0.heap.size W0 wx->((hh=true->yF3 r.es hi j)/\(hh=false->j=r.es.length))->∃p:Rm,Ending.returned (Value.slice (some ⟨r.b,r.off,none⟩) ((max (i:Int) (j:Int)).toNat-i) 0)=.returned (.slice (some ⟨p.b,p.off,none⟩) p.es.length p.cap)/\p.at wx/\yCs r p lo hh hi/\Below w.heap.size w wx/\yHd r p lo:=by
  intro y j wx hb hj;have ab:j<=r.es.length:=by
   cases hh
   .rw[hj.2 rfl];exact Nat.le_refl _
   .exact(hj.1 rfl).1
  have hp:=yPn HR.2 HI.out hj;have hn:(r.part i (max i j-i)).es= []:=List.eq_nil_of_length_eq_zero (by rw[yIu (by omega)];omega);refine⟨⟨r.b,r.off,0,[]⟩,?_,⟨λj e he=>by simp at he,(HC.out wx hb).2.2.2.lt,by simp,by simp[maxLen]⟩,⟨rfl,List.Pairwise.nil,λx=>?_,by simp⟩,ac.trans (hb.mono (by omega)),i,HI.out,by rw[if_pos y],by show 0=r.cap-i;omega⟩
  .rw[show(max (i:Int) (j:Int)).toNat-i=0 by omega];rfl
  .have:=hp.mem x;rw[hn]at this;exact this
 have ae:Hid (r.cap=i->∀(j:Nat)(wx:World),Below W0.heap.size W0 wx->((hh=true->yF3 r.es hi j)/\(hh=false->j=r.es.length))->∃p:Rm,Ending.returned (Value.slice (some ⟨r.b,r.off,none⟩) ((max (i:Int) (j:Int)).toNat-i) 0)=.returned (.slice (some ⟨p.b,p.off,none⟩) p.es.length p.cap)/\p.at wx/\yCs r p lo hh hi/\Below w.heap.size w wx/\yHd r p lo):=ad;clear fin ad;cases hh
 .by_cases y:r.cap=i
  .have a0:Hid (r.cap=i):=y;go_wp2_with fail;go_ret;exact ae.out a0.out r.es.length w1 hb1 ⟨λq=>by simp at q,λ_=>rfl⟩
  .have a0:Hid (¬r.cap=i):=y;go_wp2_with fail;go_ret;exact HF.out a0.out r.es.length w1 hb1 ⟨λq=>by simp at q,λ_=>rfl⟩
 .go_wp2_with fail;refine(yId r hi _ ag.out HR.2).mono ?_;rintro e w2 ⟨j,rfl,a8,hb2⟩;have ab:=a8.1;have HJ:Hid (yF3 r.es hi j):=a8;have hb3:=hb1.trans (hb2.mono (by omega));clear c0 c1 c2 a8;obtain⟨c0,c1,c2,a3⟩:=HC.out w2 hb3;clear a3;by_cases y:r.cap=i
  .have a0:Hid (r.cap=i):=y;go_wp2_with fail;go_ret;exact ae.out a0.out j w2 hb3 ⟨λ_=>HJ.out,λq=>by simp at q⟩
  .have a0:Hid (¬r.cap=i):=y;go_wp2_with fail;go_ret;exact HF.out a0.out j w2 hb3 ⟨λ_=>HJ.out,λq=>by simp at q⟩
theorem yEr(r:Rm)(lo hi:ByteArray)(hh:Bool)(w:World)(hr:r.at w)(hg:yAp r.es):
  Calls prog 56 #[.agg #[.slice (some ⟨r.b,r.off,none⟩) r.es.length r.cap],.agg #[.string lo,.bool hh,.string hi]] w λe w'=>
   ∃p:Rm,e=.returned (.slice (some ⟨p.b,p.off,none⟩) p.es.length p.cap)/\p.at w'/\yCs r p lo hh hi/\Below w.heap.size w w':=
 (yIe r lo hi hh w hr hg).mono λe w' ⟨p,h1,h2,h3,h4,_⟩=>⟨p,h1,h2,h3,h4⟩
structure Tb where
 lo:ByteArray
 rs:List (List Ent)
def hasN(ts:List Tb)(i:Nat):Bool:=decide (i+1<ts.length)
def hiN(ts:List Tb)(i:Nat):ByteArray:=match ts[i+1]? with|some t=>t.lo|none=>⟨#[]⟩
def RowsIn(lo:ByteArray)(hh:Bool)(hi:ByteArray)(rs:List (List Ent)):Prop:=∀es∈rs,es≠ []/\∀e∈es,inR lo hh hi e.row=true
structure yIp(ts:List Tb)(i:Nat)(t:Tb):Prop where
 size:t.lo.size<=64
 up:∀p,0<i->ts[i-1]?=some p->Op.bytesLess p.lo.toList t.lo.toList=true
 runs:yAl t.rs
 rows:RowsIn t.lo (hasN ts i) (hiN ts i) t.rs
structure GoodS(ts:List Tb):Prop where
 ne:1<=ts.length
 le:ts.length<=100
 first:∀t,ts[0]?=some t->t.lo.size=0
 tabs:∀i t,ts[i]?=some t->yIp ts i t
variable {p:Rm}
theorem yCm{lo:ByteArray}(h:yCs r p lo hh hi)(hg:yAp r.es):p.es=r.es.filter (λx=>inR lo hh hi x.row):=
 yMc h.ord ((yB8 hg).filter _) (λx=>by rw[h.mem x,List.mem_filter])
theorem yKz{lo:ByteArray}(h:yCs r p lo hh hi)(hg:yAp r.es):r.es.length<=p.es.length↔∀e∈r.es,inR lo hh hi e.row=true:=by
 rw[yCm h hg];constructor
 .intro hl;have:=List.length_filter_le (λx=>inR lo hh hi x.row) r.es;exact List.length_filter_eq_length_iff.1 (by omega)
 .intro hl;rw[List.filter_eq_self.2 hl];exact Nat.le_refl _
structure Tm where
 lo:ByteArray
 b:Nat
 off:Nat
 cap:Nat
 l:List Rm
abbrev Tm.u(t:Tm):Value:=.slice (some ⟨t.b,t.off,none⟩) t.l.length t.cap
def Tm.tb(t:Tm):Tb:=⟨t.lo,esM t.l⟩
structure Tm.at(w:World)(t:Tm):Prop where
 rms:yB5 w t.b t.off t.l
 lt:t.b<w.heap.size
 len:t.l.length<=t.cap
 cap:t.cap<=maxLen
theorem Tm.at.below{t:Tm}(h:t.at w)(hb:Below w.heap.size w w'):t.at w':=⟨h.rms.below hb h.lt,by have:=hb.size;have:=h.lt;omega,h.len,h.cap⟩
def yA2(w:World)(b off:Nat)(ts:List Tm):Prop:=∀i t,ts[i]?=some t->w.cell? ⟨b,off+i*2,none⟩=some (.string t.lo)/\w.cell? ⟨b,off+i*2+1,none⟩=some t.u/\t.at w
theorem yA2.below{ts:List Tm}(h:yA2 w b off ts)(hb:Below w.heap.size w w')(hlt:b<w.heap.size):yA2 w' b off ts:=by exact yX2
structure OkTm(t:Tm):Prop where
 ents:okM t.l
 runs:t.l.length<=1048576
 lo:t.lo.size<=maxLen
def okTs(ts:List Tm):Prop:=∀t∈ts,OkTm t
theorem yLe:yAp []:=⟨⟨by simp,λx hx=>by simp at hx⟩,λi p e hp=>by simp at hp⟩
structure Rz where
 a:Option Addr
 cap:Nat
 es:List Ent
abbrev Rz.u(r:Rz):Value:=.slice r.a r.es.length r.cap
def Rz.at(w:World)(r:Rz):Prop:=r.es≠ []->∃b off,r.a=some ⟨b,off,none⟩/\yAe w b off r.es/\b<w.heap.size/\r.es.length<=r.cap/\r.cap<=maxLen
theorem Rz.at.below{r:Rz}(h:r.at w)(hb:Below w.heap.size w w'):r.at w':=λq=>by
 obtain⟨b,off,h1,h2,h3,h4⟩:=h q
 exact⟨b,off,h1,h2.below hb h3,by have:=hb.size;omega,h4⟩
def yKt(w:World)(a:Option Addr)(l:List Rz):Prop:=∀i r,l[i]?=some r->∃b off,a=some ⟨b,off,none⟩/\b<w.heap.size/\w.cell? ⟨b,off+i,none⟩=some r.u/\r.at w
variable {l:List Rz}
theorem yKt.below{a:Option Addr}(h:yKt w a l)(hb:Below w.heap.size w w'):yKt w' a l:=by intro i r hr;obtain⟨b,off,h1,h2,h3,h4⟩:=h i r hr;exact⟨b,off,h1,by have:=hb.size;omega,by rw[hb.cell (p:=⟨b,off+i,none⟩) (by exact h2)];exact h3,h4.below hb⟩
def okZ(l:List Rz):Prop:=∀r∈l,∀e∈r.es,e.ok
abbrev esZ(l:List Rz):List (List Ent):=l.map Rz.es
theorem yU4(h:l.length<=50)(k:∀r∈l,yAp r.es):yAl (esZ l):=by refine⟨by simpa using h,λes he=>?_⟩;obtain⟨r,hr,rfl⟩:=List.mem_map.1 he;exact k r hr
theorem yHz(h:yAl (esZ l)){r:Rz}(hr:r∈l):yAp r.es:=h.2 _ (List.mem_map.2 ⟨r,hr,rfl⟩)
theorem yHo(a:Option Addr)(cap:Nat)(w:World):
  Calls prog 54 #[.agg #[.slice a 0 cap]] w λe w'=>e=.returned (.bool true)/\Below w.heap.size w w':=by
 obtain⟨W0,y⟩:=qE (w.alloc (Obj.cells #[.slice a 0 cap] 60):World);have a0:Below w.heap.size w W0:=by rw[y];exact qB
 have ca:W0.cell? ⟨w.heap.size,0,none⟩=some (.slice a 0 cap):=by rw[y];simp
 go_enter func54,ntmps54;go_wp2_with fail;rw[<-y];clear y;go_loopw[3] (λi wr=>i=.int .i64 0/\wr=W0) (λi _=>0);case atStart=>exact⟨rfl,rfl⟩
 case round=>obtain⟨rfl,rfl⟩:=hrel;go_wp2_with fail;go_ret;exact⟨rfl,a0⟩
theorem yIk(a:Option Addr)(cap:Nat)(w:World):
  Calls prog 164 #[.slice a 0 cap] w λe w'=>e=.returned (.bool true)/\Below w.heap.size w w':=by
 go_enter func164,ntmps164;go_wp2_with fail;go_loopw[10] (λi wr=>i=.int .i64 0/\wr=w) (λi _=>0);case atStart=>exact⟨rfl,rfl⟩
 case round=>exact yXt
theorem yHx(a:Option Addr)(cap:Nat)(w:World):
  Calls prog 103 #[.agg #[.slice a 0 cap]] w λe w'=>e=.returned (.bool true)/\Below w.heap.size w w':=by
 obtain⟨W0,y⟩:=qE (w.alloc (Obj.cells #[.slice a 0 cap] 60):World);have a4:Below w.heap.size w W0:=by rw[y];exact qB
 have a0:w.heap.size<W0.heap.size:=by rw[y];simp
 have ca:∀wx,Below W0.heap.size W0 wx->wx.cell? ⟨w.heap.size,0,none⟩=some (.slice a 0 cap):=λwx hx=>by rw[hx.cell (p:=⟨w.heap.size,0,none⟩) (by exact a0),y];simp
 have c0:=ca W0 (Below.refl _ _);go_enter func103,ntmps103;go_wp2_with fail;rw[<-y];clear y;refine(yIk a cap _).mono ?_;rintro e w1 ⟨rfl,hb1⟩;have c1:=ca w1 hb1;have a3:=a4.trans (hb1.mono (by omega));clear ca c0;go_wp2_with fail;go_loopw[3] (λi wr=>i=.int .i64 1/\wr=w1) (λi _=>0);case atStart=>exact⟨rfl,rfl⟩
 case round=>obtain⟨rfl,rfl⟩:=hrel;go_wp2_with fail;go_ret;exact⟨rfl,a3⟩
theorem yKi(r:Rz)(w:World)(h:r.at w)(hok:∀e∈r.es,e.ok):
  Calls prog 54 #[.agg #[.slice r.a r.es.length r.cap]] w λe w'=>∃s:Bool,e=.returned (.bool s)/\(s=true↔yAp r.es)/\Below w.heap.size w w':=by
 by_cases he:r.es= []
 .rw[he];exact(yHo r.a r.cap w).mono λe w' ⟨h1,h2⟩=>⟨true,h1,iffT yLe,h2⟩
 .obtain⟨b,off,h1,h2,h3,h4,h5⟩:=h he;rw[h1];exact yCx b off r.cap r.es w h2 hok h3 h4 h5
theorem yKp(r:Rz)(w:World)(h:r.at w)(hok:∀e∈r.es,e.ok):
  Calls prog 103 #[.agg #[.slice r.a r.es.length r.cap]] w λe w'=>∃s:Bool,e=.returned (.bool s)/\(s=true↔yAp r.es)/\Below w.heap.size w w':=by
 by_cases he:r.es= []
 .rw[he];exact(yHx r.a r.cap w).mono λe w' ⟨h1,h2⟩=>⟨true,h1,iffT yLe,h2⟩
 .obtain⟨b,off,h1,h2,h3,h4,h5⟩:=h he;rw[h1];exact yEz b off r.cap r.es w h2 hok h3 h4 h5
theorem ySi(a:Option Addr)(cap:Nat)(l:List Rz)(w:World)(hR:yKt w a l)(hok:okZ l)(hlen:l.length<=1048576):
  Calls prog 21 #[.slice a l.length cap] w λe w'=>
   ∃r:Bool,e=.returned (.bool r)/\(r=true↔yAl (esZ l))/\Below w.heap.size w w':=by
 have HR:Hid (yKt w a l/\okZ l):=⟨hR,hok⟩;clear hR hok;by_cases hbig:50<l.length
 .have H:Hid (¬yAl (esZ l)):=λh=>by have:=h.1;simp at this;omega
  go_enter func21,ntmps21;go_wp2;go_ret;exact⟨_,rfl,iffF H.out,Below.refl _ _⟩
 go_enter func21,ntmps21;go_wp2;go_loopw[3] (λi wr=>∃(k:Nat),k<=l.length/\i=.int .i64 k/\(∀r∈l.take k,yAp r.es)/\Below w.heap.size w wr) (λi _=>l.length-(intOf i).toNat);case atStart=>exact⟨0,zero_le _,rfl,by simp,Below.refl _ _⟩
 case round=>
  obtain⟨k,hk,rfl,hv,hb⟩:=hrel;have HV:Hid (∀r∈l.take k,yAp r.es):=hv;clear hv;by_cases hlt:k<l.length
  .obtain⟨r,hr⟩:∃r,l[k]?=some r:=⟨_,getElem?_eq_getElem hlt⟩;obtain⟨b,off,rfl,hB,c0,ha⟩:=(HR.1.below hb) k r hr;have HA:Hid (r.at wr/\l[k]?=some r):=⟨ha,hr⟩;clear ha hr;go_wp2_with fail;refine(yKi r _ HA.1 (HR.2 r (mem_of_getElem? HA.2))).mono ?_;rintro e' w1 ⟨s,rfl,hs,hb1⟩;have hb2:=hb.trans (hb1.mono hb.size);have HS:Hid (s=true↔yAp r.es):=hs;clear c0 hb1 hs;cases s
   .exact xAd
   .exact yV4
  .exact xAg
theorem yM8(a:Option Addr)(cap:Nat)(l:List Rz)(w:World)(hR:yKt w a l)(hok:okZ l)(hlen:l.length<=1048576):
  Calls prog 55 #[.slice a l.length cap] w λe w'=>
   ∃r:Bool,e=.returned (.bool r)/\(r=true↔yAl (esZ l))/\Below w.heap.size w w':=by
 have HR:Hid (yKt w a l/\okZ l):=⟨hR,hok⟩;clear hR hok;by_cases hbig:50<l.length
 .have H:Hid (¬yAl (esZ l)):=λh=>by have:=h.1;simp at this;omega
  go_enter func55,ntmps55;go_wp2;go_ret;exact⟨_,rfl,iffF H.out,Below.refl _ _⟩
 go_enter func55,ntmps55;go_wp2;go_loopw[10] (λi wr=>∃(k:Nat),k<=l.length/\i=.int .i64 k/\(∀r∈l.take k,yAp r.es)/\Below w.heap.size w wr) (λi _=>l.length-(intOf i).toNat);case atStart=>exact⟨0,zero_le _,rfl,by simp,Below.refl _ _⟩
 case round=>
  obtain⟨k,hk,rfl,hv,hb⟩:=hrel;have HV:Hid (∀r∈l.take k,yAp r.es):=hv;clear hv;by_cases hlt:k<l.length
  .obtain⟨r,hr⟩:∃r,l[k]?=some r:=⟨_,getElem?_eq_getElem hlt⟩;obtain⟨b,off,rfl,hB,c0,ha⟩:=(HR.1.below hb) k r hr;have HA:Hid (r.at wr/\l[k]?=some r):=⟨ha,hr⟩;clear ha hr;obtain⟨W1,a0⟩:=qE (wr.alloc (Obj.cells #[.slice r.a r.es.length r.cap] 60):World);have y:Below wr.heap.size wr W1:=by rw[a0];exact qB
   have a3:Hid (r.at W1):=HA.1.below y;go_wp2_with fail;rw[<-a0];clear a0;refine(yKp r _ a3.out (HR.2 r (mem_of_getElem? HA.2))).mono ?_;rintro e' w1 ⟨s,rfl,hs,hb1⟩;have hb2:=(hb.trans (y.mono hb.size)).trans (hb1.mono (by have:=hb.size;have:=y.size;omega));have HS:Hid (s=true↔yAp r.es):=hs;clear c0 hb1 hs;cases s
   .exact xAd
   .exact yV4
  .exact xAg
def tbs(ts:List Tm):List Tb:=ts.map Tm.tb
theorem yAy(ts:List Tm):(tbs ts).length=ts.length:=by simp[tbs]
theorem yBq(ts:List Tm)(i:Nat):(tbs ts)[i]?=ts[i]?.map Tm.tb:=by simp[tbs]
theorem xB6{ts:List Tm}(h:i+1<ts.length):hasN (tbs ts) i=true:=by unfold hasN;rw[yAy];exact decide_eq_true h
theorem xB7{ts:List Tm}(h:¬i+1<ts.length):hasN (tbs ts) i=false:=by unfold hasN;rw[yAy];exact decide_eq_false h
theorem xCw{ts:List Tm}{n:Tm}(h:ts[i+1]?=some n):hiN (tbs ts) i=n.lo:=by unfold hiN;rw[yBq,h];rfl
theorem xCx{ts:List Tm}(h:¬i+1<ts.length):hiN (tbs ts) i=⟨#[]⟩:=by unfold hiN;rw[yBq,getElem?_eq_none (by omega)];rfl
theorem yKj(b off cap:Nat)(ts:List Tm)(i:Nat)(t:Tm)(w:World)(h:yA2 w b off ts)(hB:b<w.heap.size)(ht:ts[i]?=some t)(hn:ts.length<=1048576):
  Calls prog 23 #[.agg #[.slice (some ⟨b,off,none⟩) ts.length cap],.int .i64 i] w λe w'=>
   e=.returned (.agg #[.string t.lo,.bool (hasN (tbs ts) i),.string (hiN (tbs ts) i)])/\Below w.heap.size w w':=by
 have hi:i<ts.length:=(List.getElem?_eq_some_iff.1 ht).1;obtain⟨c0,c1,_⟩:=h i t ht;clear c1;by_cases hx:i+1<ts.length
 .obtain⟨n,hn'⟩:∃n,ts[i+1]?=some n:=⟨_,getElem?_eq_getElem hx⟩;obtain⟨d0,d1,_⟩:=h (i+1) n hn';clear d1;rw[xB6 hx,xCw hn'];exact xBf
 .rw[xB7 hx,xCx hx];exact xAx
theorem yHv(a b:ByteArray):(Op.bytesLess a.toList b.toList || a.toList==b.toList)= !Op.bytesLess b.toList a.toList:=by
 have hn:=yE3 a b;cases h1:Op.bytesLess a.toList b.toList
 .cases h2:(a.toList==b.toList)
  .have:=yQb h1 h2;have h3:cB b a= -1:=by rw[hn,this]
   rw[(yAv b a).2 h3];rfl
  .have:=yVp h2;cases h3:Op.bytesLess b.toList a.toList
   .rfl
   .have:=yKb h3;omega
 .have:=yKb h1;cases h3:Op.bytesLess b.toList a.toList
  .rfl
  .have:=yKb h3;omega
theorem yRu{row:ByteArray}(h:yF3 es row i)(k:yF3 es row j):i=j:=by
 rcases Nat.lt_trichotomy i j with q|q|q
 .have hl:i<es.length:=by have:=k.1;omega
  have hx:=getElem?_eq_getElem hl;have h1:=(k.2 i _ hx).1 q;have h2:=(h.2 i _ hx).2 h1;omega
 .exact q
 .have hl:j<es.length:=by have:=h.1;omega
  have hx:=getElem?_eq_getElem hl;have h1:=(h.2 j _ hx).1 q;have h2:=(k.2 j _ hx).2 h1;omega
theorem yRm{q:Rm}{lo:ByteArray}(hg:yAp r.es)(h:yCs r p lo hh hi)(h':yCs r q lo hh hi)(k:yHd r p lo)(k':yHd r q lo):p=q:=by
 have e1:=yCm h hg;have e2:=yCm h' hg;obtain⟨i,a1,a2,a3⟩:=k;obtain⟨j,b1,b2,b3⟩:=k';have a0:=yRu a1 b1;subst a0;cases p;cases q
 simp only at*;rw[e1,e2,a2,b2,a3,b3];have hb:=h.blk;have y:=h'.blk;simp only at hb y;rw[hb,y]
theorem yVb{α:Type}(P:α->Bool):∀(l:List α),(∀(i j:Nat)(x y:α),i<=j->l[i]?=some x->l[j]?=some y->P y=true->P x=true)->∃i:Nat,i<=l.length/\∀(t:Nat)(x:α),l[t]?=some x->(t<i↔P x=true)
 | [],_=>⟨0,Nat.le_refl _,λt x h=>by simp at h⟩
 |a::l,hm=>by
  cases ha:P a
  .refine⟨0,zero_le _,λt x hx=>⟨λq=>by omega,λq=>?_⟩⟩
   have:=hm 0 t a x (zero_le _) rfl hx q
   rw[ha]at this
   cases this
  .obtain⟨i,h1,h2⟩:=yVb P l (λi j x y hij hx hy=>hm (i+1) (j+1) x y (by omega) (by simpa using hx) (by simpa using hy))
   refine⟨i+1,by simp;omega,λt x hx=>?_⟩
   cases t with
   |zero=>
    simp at hx
    subst hx
    exact⟨λ_=>ha,λ_=>by omega⟩
   |succ t=>
    have:=h2 t x (by simpa using hx)
    rw[<-this]
    omega
theorem yQr(hg:yAp es)(row:ByteArray):∃i,yF3 es row i:=by
 refine yVb (λx:Ent=>Op.bytesLess x.row.toList row.toList) es (λi j x y hij hx hy hk=>?_);have vx:=hg.1.2 x (mem_of_getElem? hx);have vy:=hg.1.2 y (mem_of_getElem? hy);rw[<-yJt vx];rw[<-yJt vy]at hk;by_cases h:i=j
 .subst h;rw[hx]at hy;simp at hy;subst hy;exact hk
 .exact yDa (yJo (yB8 hg) (by omega) hx hy) hk
theorem yYp(hg:yAp r.es)(hc:r.es.length<=r.cap)(lo hi:ByteArray)(hh:Bool):∃p:Rm,yCs r p lo hh hi/\yHd r p lo/\p.es.length<=p.cap:=by
 obtain⟨i,h1⟩:=yQr hg lo;obtain⟨j,hj⟩:∃j,(hh=true->yF3 r.es hi j)/\(hh=false->j=r.es.length):=by
  cases hh
  .exact⟨r.es.length,⟨λq=>(by cases q),λ_=>rfl⟩⟩
  .obtain⟨j,hj⟩:=yQr hg hi;exact⟨j,⟨λ_=>hj,λq=>(by cases q)⟩⟩
 have hp:=yPn hg h1 hj;have a0:=h1.1;have y:j<=r.es.length:=by
  cases hh
  .rw[hj.2 rfl];exact Nat.le_refl _
  .exact(hj.1 rfl).1
 by_cases hci:r.cap=i
 .have hn:(r.part i (max i j-i)).es= []:=List.eq_nil_of_length_eq_zero (by rw[yIu (by omega)];omega);refine⟨⟨r.b,r.off,0,[]⟩,⟨rfl,List.Pairwise.nil,λx=>?_,by simp⟩,⟨i,h1,by rw[if_pos hci],by show 0=r.cap-i;omega⟩,by simp⟩;have:=hp.mem x;rw[hn]at this;exact this
 .exact⟨r.part i (max i j-i),hp,⟨i,h1,by rw[if_neg hci];rfl,rfl⟩,by rw[yIu (by omega)];show max i j-i<=r.cap-i;omega⟩
theorem yMu(r p:Rm)(lo hi:ByteArray)(hh:Bool)(w:World)(hr:r.at w)(hg:yAp r.es)(hp:yCs r p lo hh hi)(hw:yHd r p lo):
  Calls prog 56 #[.agg #[.slice (some ⟨r.b,r.off,none⟩) r.es.length r.cap],.agg #[.string lo,.bool hh,.string hi]] w λe w'=>
   e=.returned (.slice (some ⟨p.b,p.off,none⟩) p.es.length p.cap)/\Below w.heap.size w w':=
 (yIe r lo hi hh w hr hg).mono λe w' ⟨q,h1,h2,h3,h4,h5⟩=>by
  have:=yRm hg hp h3 hw h5
  subst this
  exact⟨h1,h4⟩
structure Tz where
 lo:ByteArray
 a:Option Addr
 cap:Nat
 l:List Rz
abbrev Tz.u(t:Tz):Value:=.slice t.a t.l.length t.cap
def Tz.tb(t:Tz):Tb:=⟨t.lo,esZ t.l⟩
def Tz.at(w:World)(t:Tz):Prop:=yKt w t.a t.l
theorem Tz.at.below{t:Tz}(h:t.at w)(hb:Below w.heap.size w w'):t.at w':=yKt.below h hb
def yFg(w:World)(b off:Nat)(ts:List Tz):Prop:=∀i t,ts[i]?=some t->w.cell? ⟨b,off+i*2,none⟩=some (.string t.lo)/\w.cell? ⟨b,off+i*2+1,none⟩=some t.u/\t.at w
theorem yFg.below{ts:List Tz}(h:yFg w b off ts)(hb:Below w.heap.size w w')(hlt:b<w.heap.size):yFg w' b off ts:=by exact yX2
structure OkTz(t:Tz):Prop where
 ents:okZ t.l
 runs:t.l.length<=1048576
 lo:t.lo.size<=maxLen
def okTz(ts:List Tz):Prop:=∀t∈ts,OkTz t
def tbz(ts:List Tz):List Tb:=ts.map Tz.tb
theorem yEc(ts:List Tz):(tbz ts).length=ts.length:=by simp[tbz]
theorem yCj(ts:List Tz)(i:Nat):(tbz ts)[i]?=ts[i]?.map Tz.tb:=by simp[tbz]
theorem yU0{ts:List Tz}(h:i+1<ts.length):hasN (tbz ts) i=true:=by unfold hasN;rw[yEc];exact decide_eq_true h
theorem yU1{ts:List Tz}(h:¬i+1<ts.length):hasN (tbz ts) i=false:=by unfold hasN;rw[yEc];exact decide_eq_false h
theorem yXk{ts:List Tz}{n:Tz}(h:ts[i+1]?=some n):hiN (tbz ts) i=n.lo:=by unfold hiN;rw[yCj,h];rfl
theorem yXl{ts:List Tz}(h:¬i+1<ts.length):hiN (tbz ts) i=⟨#[]⟩:=by unfold hiN;rw[yCj,getElem?_eq_none (by omega)];rfl
theorem yJd(b off cap:Nat)(ts:List Tz)(i:Nat)(t:Tz)(w:World)(h:yFg w b off ts)(hB:b<w.heap.size)(ht:ts[i]?=some t)(hn:ts.length<=1048576):
  Calls prog 23 #[.agg #[.slice (some ⟨b,off,none⟩) ts.length cap],.int .i64 i] w λe w'=>
   e=.returned (.agg #[.string t.lo,.bool (hasN (tbz ts) i),.string (hiN (tbz ts) i)])/\Below w.heap.size w w':=by
 have hi:i<ts.length:=(List.getElem?_eq_some_iff.1 ht).1;obtain⟨c0,c1,_⟩:=h i t ht;clear c1;by_cases hx:i+1<ts.length
 .obtain⟨n,hn'⟩:∃n,ts[i+1]?=some n:=⟨_,getElem?_eq_getElem hx⟩;obtain⟨d0,d1,_⟩:=h (i+1) n hn';clear d1;rw[yU0 hx,yXk hn'];exact xBf
 .rw[yU1 hx,yXl hx];exact xAx
theorem yH8(b off cap:Nat)(ts:List Tz)(i:Nat)(t:Tz)(w:World)(h:yFg w b off ts)(hB:b<w.heap.size)(ht:ts[i]?=some t)(hn:ts.length<=1048576):
  Calls prog 25 #[.agg #[.slice (some ⟨b,off,none⟩) ts.length cap],.int .i64 i] w λe w'=>
   e=.returned (.agg #[.string t.lo,.bool (hasN (tbz ts) i),.string (hiN (tbz ts) i)])/\Below w.heap.size w w':=by
 have hi:i<ts.length:=(List.getElem?_eq_some_iff.1 ht).1;obtain⟨c0,c1,_⟩:=h i t ht;clear c1;by_cases hx:i+1<ts.length
 .obtain⟨n,y⟩:∃n,ts[i+1]?=some n:=⟨_,getElem?_eq_getElem hx⟩;obtain⟨d0,d1,_⟩:=h (i+1) n y;clear d1;rw[yU0 hx,yXk y];clear h ht y;have zx:¬(i:Int)+1=(ts.length:Int):=by omega
  go_enter func25,ntmps25;go_upto_region 3 with fail;go_region;all_goals go_wp2_with fail
  all_goals refine bodyPost_ret (v:=.agg #[.string t.lo,.bool true,.string n.lo]) (by simp[results,results25,go_sem]) rfl ⟨rfl,?_⟩
  all_goals exact((qB).alloc (by simp) _).drew
 .rw[yU1 hx,yXl hx];clear h ht;have zx:(i:Int)+1=(ts.length:Int):=by omega
  go_enter func25,ntmps25;go_wp2_with fail;refine bodyPost_ret (v:=.agg #[.string t.lo,.bool false,.string ⟨#[]⟩]) (by simp[results,results25,go_sem]) rfl ⟨rfl,(qB).alloc (by simp) _⟩
theorem yE6{lo:ByteArray}(h:RowsIn lo hh hi (esZ l)){r:Rz}(hr:r∈l):r.es≠ []/\∀e∈r.es,inR lo hh hi e.row=true:=h _ (List.mem_map.2 ⟨r,hr,rfl⟩)
theorem yHr{lo:ByteArray}(h:∀r∈l,r.es≠ []/\∀e∈r.es,inR lo hh hi e.row=true):RowsIn lo hh hi (esZ l):=by intro es he;obtain⟨r,hr,rfl⟩:=List.mem_map.1 he;exact h r hr
theorem yI2(t:Tz)(ta:Option Addr)(hta0:t.a=ta)(lo hi:ByteArray)(hh:Bool)(w:World)(ht:t.at w)(hok:OkTz t):
  Calls prog 24 #[.agg #[.string t.lo,.slice ta t.l.length t.cap],.agg #[.string lo,.bool hh,.string hi]] w λe w'=>
   ∃r:Bool,e=.returned (.bool r)/\(r=true↔yAl (esZ t.l)/\RowsIn lo hh hi (esZ t.l))/\Below w.heap.size w w':=by
 have HT:Hid (t.at w/\OkTz t):=⟨ht,hok⟩;have hn:=hok.runs;clear ht hok;obtain⟨Wa,a3⟩:=qE (w.alloc (Obj.cells #[.string t.lo,.slice ta t.l.length t.cap] 56):World);obtain⟨W0,a0⟩:=qE (Wa.alloc (Obj.cells #[.string lo,.bool hh,.string hi] 30):World);have aj:Below w.heap.size w Wa:=by rw[a3];exact qB
 have a4:Wa.heap.size=w.heap.size+1:=by rw[a3];simp
 have ac:Below Wa.heap.size Wa W0:=by rw[a0];exact qB
 have ay:W0.heap.size=w.heap.size+1+1:=by rw[a0];simp[a4]
 have a6:Below w.heap.size w W0:=aj.trans (ac.mono (by omega));have HC:Hid (∀wx,Below W0.heap.size W0 wx->wx.cell? ⟨w.heap.size,1,none⟩=some (.slice ta t.l.length t.cap)/\wx.cell? ⟨w.heap.size+1,0,none⟩=some (.string lo)/\wx.cell? ⟨w.heap.size+1,1,none⟩=some (.bool hh)/\wx.cell? ⟨w.heap.size+1,2,none⟩=some (.string hi)):=by
  intro wx hb;rw[hb.cell (p:=⟨w.heap.size,1,none⟩) (by show w.heap.size<W0.heap.size;omega),hb.cell (p:=⟨w.heap.size+1,0,none⟩) (by show w.heap.size+1<W0.heap.size;omega),hb.cell (p:=⟨w.heap.size+1,1,none⟩) (by show w.heap.size+1<W0.heap.size;omega),hb.cell (p:=⟨w.heap.size+1,2,none⟩) (by show w.heap.size+1<W0.heap.size;omega)];refine⟨?_,?_,?_,?_⟩
  .rw[ac.cell (p:=⟨w.heap.size,1,none⟩) (by show w.heap.size<Wa.heap.size;omega),a3];simp
  .rw[a0,<-a4];simp
  .rw[a0,<-a4];simp
  .rw[a0,<-a4];simp
 have al:Hid (t.at W0):=(HT.1.below aj).below ac;obtain⟨c0,c1,c2,c3⟩:=HC.out W0 (Below.refl _ _);go_enter func24,ntmps24;go_wp2_with fail;rw[<-a3,<-a0];clear a3 a0;refine(yM8 ta t.cap t.l _ (hta0▸al.out) HT.2.ents hn).mono ?_;rintro e w1 ⟨s,rfl,hs,hb1⟩;have HS:Hid (s=true↔yAl (esZ t.l)):=hs;have az:=hb1.size;have aq:Hid (t.at w1):=al.below hb1;clear hs c0 c1 c2 c3;obtain⟨c0,c1,c2,c3⟩:=HC.out w1 hb1;cases s
 .have H:Hid (¬(yAl (esZ t.l)/\RowsIn lo hh hi (esZ t.l))):=λq=>Bool.noConfusion (HS.2 q.1);go_wp2_with fail;go_ret;exact⟨_,rfl,iffF H.out,a6.trans (hb1.mono (by omega))⟩
 have HG:Hid (yAl (esZ t.l)):=HS.1 rfl;go_wp2_with fail;clear c0 c1 c2 c3;go_loopw[14] (λi wr=>∃(k:Nat),k<=t.l.length/\i=.int .i64 k/\(∀r∈t.l.take k,r.es≠ []/\∀e∈r.es,inR lo hh hi e.row=true)/\Below w1.heap.size w1 wr) (λi _=>t.l.length-(intOf i).toNat);case atStart=>exact⟨0,zero_le _,rfl,by simp,Below.refl _ _⟩
 case round=>
  obtain⟨k,hk,rfl,hv,hb⟩:=hrel;have HV:Hid (∀r∈t.l.take k,r.es≠ []/\∀e∈r.es,inR lo hh hi e.row=true):=hv;have am:=hb.size;have ao:=hb1.trans (hb.mono (by omega));clear hv;by_cases hlt:k<t.l.length
  .obtain⟨r,hr⟩:∃r,t.l[k]?=some r:=⟨_,getElem?_eq_getElem hlt⟩;obtain⟨av,au,ad,aC,c0,ha⟩:=(aq.below hb) k r hr;rw[hta0]at ad;subst ad;have HA:Hid (r.at wr/\t.l[k]?=some r/\yAp r.es):=⟨ha,hr,yHz HG.out (mem_of_getElem? hr)⟩;have aA:r.es.length<=1048576:=by have:=HA.2.2.1.1;omega
   clear ha hr;obtain⟨W1,y⟩:=qE (wr.alloc (Obj.cells #[.slice r.a r.es.length r.cap] 60):World);have ak:Below wr.heap.size wr W1:=by rw[y];exact qB
   have ax:W1.heap.size=wr.heap.size+1:=by rw[y];simp
   have ar:Hid (r.at W1):=HA.1.below ak;have a9:Below w1.heap.size w1 W1:=hb.trans (ak.mono am);have cR:∀n:Out W1,n.u.cell? ⟨wr.heap.size,0,none⟩=some (.slice r.a r.es.length r.cap):=λn=>by rw[n.out.cell (p:=⟨wr.heap.size,0,none⟩) (by show wr.heap.size<W1.heap.size;omega),y];simp
   have qq:∀n:Out W1,n.u.cell? ⟨w.heap.size+1,0,none⟩=some (.string lo)/\n.u.cell? ⟨w.heap.size+1,1,none⟩=some (.bool hh)/\n.u.cell? ⟨w.heap.size+1,2,none⟩=some (.string hi):=λn=>(HC.out n.u (hb1.trans ((a9.trans (n.out.mono (by omega))).mono (by omega)))).2;have q1:=λn=>(qq n).1;have q2:=λn=>(qq n).2.1;have q3:=λn=>(qq n).2.2;clear qq;have zk:(k:Int)<(t.l.length:Int):=by omega
   have aw:Nonempty (Out W1):=⟨⟨W1,Below.refl _ _⟩⟩;by_cases hemp:r.es.length=0
   .have H:Hid (¬(yAl (esZ t.l)/\RowsIn lo hh hi (esZ t.l))):=λq=>(yE6 q.2 (mem_of_getElem? HA.2.1)).1 (List.eq_nil_of_length_eq_zero hemp);have hd:((r.es.length:Int)==0)=true:=by rw[hemp];rfl
    clear hemp;go_upto_region 6 with fail;rw[<-y];clear y;refine yAf (by kernel_rfl) (by kernel_rfl) ?_;repeat (go_big_quiet_step (fail))
    refine wpQuiet_nil ?_;rintro wy ⟨⟨wx,aa⟩,rfl⟩;have ab:Below w.heap.size w wy:=a6.trans ((hb1.trans ((a9.trans (aa.mono (by omega))).mono (by omega))).mono (by omega));go_wp2_with fail;go_ret;exact⟨_,rfl,iffF H.out,ab⟩
   .have hd:((r.es.length:Int)==0)=false:=beq_eq_false_iff_ne.2 (by omega);have HM:Hid (¬r.es.length=0):=hemp;obtain⟨rb,a7,af,ag,ah,a8,ae⟩:=ar.out (λq=>hemp (by rw[q];rfl));obtain⟨p,a5,ai,an⟩:=yYp (r:=⟨rb,a7,r.cap,r.es⟩) HA.2.2 a8 lo hi hh;have HE:Hid (∀n:Out W1,Calls prog 56 #[.agg #[.slice r.a r.es.length r.cap],.agg #[.string lo,.bool hh,.string hi]] n.u λe w'=>e=.returned (.slice (some ⟨p.b,p.off,none⟩) p.es.length p.cap)/\Below n.u.heap.size n.u w'):=λn=>by rw[af];exact yMu ⟨rb,a7,r.cap,r.es⟩ p lo hi hh n.u ⟨ag.below n.out ah,by have:=n.out.size;show rb<_;omega,a8,ae⟩ HA.2.2 a5 ai
    have HP:Hid (yCs ⟨rb,a7,r.cap,r.es⟩ p lo hh hi):=a5;have aB:p.es.length<=r.es.length:=a5.len;clear a5 ai an hemp af ag ah a8 ae;go_upto_region 6 with fail;rw[<-y];clear y;refine yAf (by kernel_rfl) (by kernel_rfl) ?_;repeat (go_big_quiet_step ((go_at_call 56;exact Calls.out_of (HE.out _))))
    refine wpQuiet_nil ?_;rintro wy ⟨⟨wx,aa⟩,rfl⟩;have hb2:Below w1.heap.size w1 wy:=a9.trans (aa.mono (by omega));by_cases hall:p.es.length<r.es.length
    .have H:Hid (¬(yAl (esZ t.l)/\RowsIn lo hh hi (esZ t.l))):=λq=>by have h1:=(yE6 q.2 (mem_of_getElem? HA.2.1)).2;have h2:r.es.length<=p.es.length:=(yKz HP.out HA.2.2).2 h1;omega
     have ab:Below w.heap.size w wy:=a6.trans ((hb1.trans (hb2.mono (by omega))).mono (by omega));have zl:(p.es.length:Int)<(r.es.length:Int):=by omega
     go_wp2_with fail;go_ret;exact⟨_,rfl,iffF H.out,ab⟩
    .have zl:¬(p.es.length:Int)<(r.es.length:Int):=by omega
     have H:Hid (∀r∈t.l.take (k+1),r.es≠ []/\∀e∈r.es,inR lo hh hi e.row=true):=λx hx=>by
      rcases yDs HA.2.1 hx with h|rfl
      .exact HV.out x h
      .exact⟨λq=>HM.out (by rw[q];rfl),(yKz HP.out HA.2.2).1 (by show x.es.length<=p.es.length;omega)⟩
     exact xBc
  .have zk:¬(k:Int)<(t.l.length:Int):=by omega
   have H:Hid (yAl (esZ t.l)/\RowsIn lo hh hi (esZ t.l)):=⟨HG.out,yHr (λr hr=>HV.out r (by rw[take_of_length_le (by omega)];exact hr))⟩;go_wp2_with fail;go_ret;exact .inr ⟨rfl,H.out,a6.trans (ao.mono (by omega))⟩
theorem yTc{m:Nat}{l:List Tz}{r:Tz}(h:yFg w b off l)(hb:b<w.heap.size)(hr:l[m]?=some r):(∀n:Out w,n.u.cell? ⟨b,off+m*2,none⟩=some (.string r.lo))/\(∀n:Out w,n.u.cell? ⟨b,off+m*2+1,none⟩=some r.u)/\∀n:Out w,r.at n.u:=
 ⟨λn=>(h.below n.out hb m r hr).1,λn=>(h.below n.out hb m r hr).2.1,λn=>(h.below n.out hb m r hr).2.2⟩
theorem yU2{ts:List Tz}(h1:1<=ts.length)(h2:ts.length<=100)(h3:∀t,ts[0]?=some t->t.lo.size=0)(h4:∀i t,ts[i]?=some t->yIp (tbz ts) i t.tb):GoodS (tbz ts):=by
 refine⟨by rw[yEc];exact h1,by rw[yEc];exact h2,λt ht=>?_,λi t ht=>?_⟩
 .rw[yCj]at ht;obtain⟨u,hu,rfl⟩:=Option.map_eq_some_iff.1 ht;exact h3 u hu
 .rw[yCj]at ht;obtain⟨u,hu,rfl⟩:=Option.map_eq_some_iff.1 ht;exact h4 i u hu
theorem yDc{ts:List Tz}(h:GoodS (tbz ts)){t:Tz}(ht:ts[i]?=some t):yIp (tbz ts) i t.tb:=h.tabs i t.tb (by rw[yCj,ht];rfl)
def SayB(P:Prop)(w:World)(e:Ending)(w':World):Prop:=∃r:Bool,e=.returned (.bool r)/\(r=true↔P)/\Below w.heap.size w w'
theorem yQc(P:Prop):∃r:Bool,(r=true↔P):=(Classical.em P).elim (λh=>⟨true,by simp[h]⟩) (λh=>⟨false,by simp[h]⟩)
variable {b:ByteArray}
theorem yFu:b.toList.isEmpty=true↔b.size=0:=by rw[isE];exact decide_eq_true_iff
theorem yF4(t:Tz)(lo hi:ByteArray)(hh:Bool)(w:World)(ht:t.at w)(hok:OkTz t)(R:Bool)(hR:R=true↔yAl (esZ t.l)/\RowsIn lo hh hi (esZ t.l)):
  Calls prog 24 #[.agg #[.string t.lo,.slice t.a t.l.length t.cap],.agg #[.string lo,.bool hh,.string hi]] w λe w'=>
   e=.returned (.bool R)/\Below w.heap.size w w':=
 (yI2 t t.a rfl lo hi hh w ht hok).mono λe w' ⟨r,h1,h2,h3⟩=>by
  have:r=R:=by rw[Bool.eq_iff_iff,h2,hR]
  subst this
  exact⟨h1,h3⟩
theorem yGf(b off cap:Nat)(ts:List Tz)(w:World)(h:yFg w b off ts)(hok:okTz ts)(hB:b<w.heap.size)(hn:ts.length<=1048576):
  Calls prog 6 #[.agg #[.slice (some ⟨b,off,none⟩) ts.length cap]] w λe w'=>SayB (GoodS (tbz ts)) w e w':=by
 obtain⟨W0,a0⟩:=qE (w.alloc (Obj.cells #[.slice (some ⟨b,off,none⟩) ts.length cap] 28):World);have a4:Below w.heap.size w W0:=by rw[a0];exact qB
 have am:W0.heap.size=w.heap.size+1:=by rw[a0];simp
 have HC:Hid (∀wx,Below W0.heap.size W0 wx->wx.cell? ⟨w.heap.size,0,none⟩=some (.slice (some ⟨b,off,none⟩) ts.length cap)):=by intro wx hb;rw[hb.cell (p:=⟨w.heap.size,0,none⟩) (by show w.heap.size<W0.heap.size;omega),a0];simp
 have HT:Hid (yFg W0 b off ts/\okTz ts):=⟨h.below a4 hB,hok⟩;have ab:b<W0.heap.size:=by omega
 clear h hok;by_cases h1:ts.length=0
 .have H:Hid (¬GoodS (tbz ts)):=λq=>by have:=q.ne;rw[yEc]at this;omega
  have z1:(ts.length:Int)<1:=by omega
  clear h1;go_enter func6,ntmps6;go_wp2_with fail;go_ret;rw[<-a0];exact⟨_,rfl,iffF H.out,a4⟩
 by_cases h2:100<ts.length
 .have H:Hid (¬GoodS (tbz ts)):=λq=>by have:=q.le;rw[yEc]at this;omega
  have z1:¬(ts.length:Int)<1:=by omega
  have z2:(100:Int)<ts.length:=by omega
  go_enter func6,ntmps6;go_wp2_with fail;go_ret;rw[<-a0];exact⟨_,rfl,iffF H.out,a4⟩
 have z1:¬(ts.length:Int)<1:=by omega
 have z2:¬(100:Int)<ts.length:=by omega
 obtain⟨t0,a6⟩:∃t,ts[0]?=some t:=⟨_,getElem?_eq_getElem (by omega)⟩;have c0:=HC.out W0 (Below.refl _ _);have d0:=(HT.1 0 t0 a6).1;rw[Nat.zero_mul,Nat.add_zero]at d0;have H0:Hid (ts[0]?=some t0):=a6;clear a6;cases he:t0.lo.toList.isEmpty
 .have H:Hid (¬GoodS (tbz ts)):=λq=>by have:=q.first t0.tb (by rw[yCj,H0.out];rfl);have h3:t0.lo.toList.isEmpty=true:=yFu.2 this;rw[he]at h3;cases h3
  go_enter func6,ntmps6;go_upto_region 1 with fail;rw[<-a0];clear a0;go_wp2_with fail;go_ret;exact⟨_,rfl,iffF H.out,a4⟩
 have HF:Hid (∀t,ts[0]?=some t->t.lo.size=0):=λt ht=>by
  rw[H0.out]at ht;cases ht
  exact yFu.1 he
 go_enter func6,ntmps6;go_upto_region 1 with fail;rw[<-a0];clear a0;go_wp2_with fail;clear c0 d0 he;go_loopw[26] (λi wr=>∃(k:Nat),k<=ts.length/\i=.int .i64 k/\(∀j t,j<k->ts[j]?=some t->yIp (tbz ts) j t.tb)/\Below W0.heap.size W0 wr) (λi _=>ts.length-(intOf i).toNat);case atStart=>exact⟨0,zero_le _,rfl,λj t hj=>by omega,Below.refl _ _⟩
 case round=>
  obtain⟨k,hk,rfl,hv,hb⟩:=hrel;have HV:Hid (∀j t,j<k->ts[j]?=some t->yIp (tbz ts) j t.tb):=hv;have ad:=hb.size;have hbx:=a4.trans (hb.mono (by omega));clear hv;by_cases hlt:k<ts.length
  .obtain⟨t,ht⟩:∃t,ts[k]?=some t:=⟨_,getElem?_eq_getElem hlt⟩;obtain⟨c0,c1,ha⟩:=(HT.1.below hb ab) k t ht;have HA:Hid (t.at wr/\ts[k]?=some t/\OkTz t):=⟨ha,ht,HT.2 t (mem_of_getElem? ht)⟩;have an:t.l.length<=1048576:=HA.2.2.runs;have ae:t.lo.size<=maxLen:=HA.2.2.lo;unfold maxLen at ae;clear ha ht;obtain⟨W1,y⟩:=qE (wr.alloc (Obj.cells #[.string t.lo,.slice t.a t.l.length t.cap] 56):World);have a8:Below wr.heap.size wr W1:=by rw[y];exact qB
   have al:W1.heap.size=wr.heap.size+1:=by rw[y];simp
   have a5:Below W0.heap.size W0 W1:=hb.trans (a8.mono ad);have hbzx:Below w.heap.size w W1:=a4.trans (a5.mono (by omega));have cR:∀n:Out W1,n.u.cell? ⟨wr.heap.size,0,none⟩=some (.string t.lo):=λn=>by rw[n.out.cell (p:=⟨wr.heap.size,0,none⟩) (by show wr.heap.size<W1.heap.size;omega),y];simp
   have cU:∀n:Out W1,n.u.cell? ⟨wr.heap.size,1,none⟩=some (.slice t.a t.l.length t.cap):=λn=>by rw[n.out.cell (p:=⟨wr.heap.size,1,none⟩) (by show wr.heap.size<W1.heap.size;omega),y];simp
   have cS:∀n:Out W1,n.u.cell? ⟨w.heap.size,0,none⟩=some (.slice (some ⟨b,off,none⟩) ts.length cap):=λn=>HC.out n.u (a5.trans (n.out.mono (by omega)));have ak:Nonempty (Out W1):=⟨⟨W1,Below.refl _ _⟩⟩;have zk:(k:Int)<(ts.length:Int):=by omega
   have a9:b<W1.heap.size:=by omega
   have aa:Hid (yFg W1 b off ts):=HT.1.below a5 ab;by_cases hk0:k=0
   .have hg:decide (0<k)=false:=decide_eq_false (by omega);have HK:Hid (k=0):=hk0;clear hk0;go_upto_region 6 with fail;rw[<-y];clear y;refine yAf (by kernel_rfl) (by kernel_rfl) ?_;repeat (go_big_quiet_step (fail))
    refine wpQuiet_nil ?_;rintro wy ⟨⟨wx,hby⟩,rfl⟩;have sy:=hby.size;have hbyx:Below w.heap.size w wy:=hbzx.trans (hby.mono (by omega));have a7:Below W0.heap.size W0 wy:=a5.trans (hby.mono (by omega));have ai:∀n:Out wy,n.u.cell? ⟨wr.heap.size,0,none⟩=some (.string t.lo):=λn=>cR ⟨n.u,hby.trans (n.out.mono sy)⟩;have ag:∀n:Out wy,n.u.cell? ⟨wr.heap.size,1,none⟩=some (.slice t.a t.l.length t.cap):=λn=>cU ⟨n.u,hby.trans (n.out.mono sy)⟩;have ah:∀n:Out wy,n.u.cell? ⟨w.heap.size,0,none⟩=some (.slice (some ⟨b,off,none⟩) ts.length cap):=λn=>cS ⟨n.u,hby.trans (n.out.mono sy)⟩;have ac:Nonempty (Out wy):=⟨⟨wy,Below.refl _ _⟩⟩;have a3:Hid (∀n:Out wy,yFg n.u b off ts/\b<n.u.heap.size/\t.at n.u):=λn=>⟨(aa.below hby a9).below n.out (by omega),by have:=n.out.size;omega,((HA.1.below a8).below hby).below n.out⟩;clear cR cU cS;by_cases hl:64<t.lo.size
    .exact xA9
    .have hd:decide ((64:Int)<(t.lo.size:Int))=false:=decide_eq_false (by omega);obtain⟨R,hR⟩:=yQc (yAl (esZ t.l)/\RowsIn t.lo (hasN (tbz ts) k) (hiN (tbz ts) k) (esZ t.l));have HR:Hid (R=true↔yAl (esZ t.l)/\RowsIn t.lo (hasN (tbz ts) k) (hiN (tbz ts) k) (esZ t.l)):=hR;have HL:Hid (¬64<t.lo.size):=hl;clear hR hl;go_upto_region 8 with fail;refine yAf (by kernel_rfl) (by kernel_rfl) ?_
     repeat (go_big_quiet_step ((first
      |(go_at_call 25;exact Calls.out_of (yH8 b off cap ts k t _ (a3.out _).1 (a3.out _).2.1 HA.2.1 hn))
      |(go_at_call 24;exact Calls.out_of (yF4 t t.lo (hiN (tbz ts) k) (hasN (tbz ts) k) _ (a3.out _).2.2 HA.2.2 R HR.out)))))
     refine wpQuiet_nil ?_;rintro wz ⟨⟨wx',hbz'⟩,rfl⟩;have hbw:Below w.heap.size w wz:=hbyx.trans (hbz'.mono (by omega));have hbw0:Below W0.heap.size W0 wz:=a7.trans (hbz'.mono (by omega));cases R
     .exact xAk
     .have H:Hid (∀j t,j<k+1->ts[j]?=some t->yIp (tbz ts) j t.tb):=λj u hj hu=>by
       by_cases hjk:j<k
       .exact HV.out j u hjk hu
       .have:j=k:=by omega
        subst this;rw[HA.2.1]at hu;cases hu
        refine⟨?_,λp hp=>by have:=HK.out;omega,(HR.1 rfl).1,(HR.1 rfl).2⟩;have:=HL.out;show t.lo.size<=64;omega
      exact yXd
   .obtain⟨p,hp⟩:∃p,ts[k-1]?=some p:=⟨_,getElem?_eq_getElem (by omega)⟩;obtain⟨p0,p1,p2⟩:=yTc aa.out a9 hp;clear p1 p2;have HP:Hid (ts[k-1]?=some p):=hp;clear hp;have hg:decide (0<k)=true:=decide_eq_true (by omega);have em:(k:Int)-1=((k-1:Nat):Int):=by omega
    cases hlo:Op.bytesLess p.lo.toList t.lo.toList
    .have af:(Op.bytesLess t.lo.toList p.lo.toList || t.lo.toList==p.lo.toList)=true:=by rw[yHv,hlo];rfl
     have H:Hid (¬GoodS (tbz ts)):=λq=>by have h3:=(yDc q HA.2.1).up p.tb (by omega) (by rw[yCj,HP.out];rfl);have h4:Op.bytesLess p.lo.toList t.lo.toList=true:=h3;rw[hlo]at h4;cases h4
     clear hlo;go_upto_region 6 with fail;rw[<-y];clear y;refine yAf (by kernel_rfl) (by kernel_rfl) ?_;repeat (go_big_quiet_step (fail))
     exact xAj
    .have aj:Hid (Op.bytesLess p.lo.toList t.lo.toList=true):=hlo;have af:(Op.bytesLess t.lo.toList p.lo.toList || t.lo.toList==p.lo.toList)=false:=by rw[yHv,hlo];rfl
     clear hlo;go_upto_region 6 with fail;rw[<-y];clear y;refine yAf (by kernel_rfl) (by kernel_rfl) ?_;repeat (go_big_quiet_step (fail))
     refine wpQuiet_nil ?_;rintro wy ⟨⟨wx,hby⟩,rfl⟩;have sy:=hby.size;have hbyx:Below w.heap.size w wy:=hbzx.trans (hby.mono (by omega));have a7:Below W0.heap.size W0 wy:=a5.trans (hby.mono (by omega));have ai:∀n:Out wy,n.u.cell? ⟨wr.heap.size,0,none⟩=some (.string t.lo):=λn=>cR ⟨n.u,hby.trans (n.out.mono sy)⟩;have ag:∀n:Out wy,n.u.cell? ⟨wr.heap.size,1,none⟩=some (.slice t.a t.l.length t.cap):=λn=>cU ⟨n.u,hby.trans (n.out.mono sy)⟩;have ah:∀n:Out wy,n.u.cell? ⟨w.heap.size,0,none⟩=some (.slice (some ⟨b,off,none⟩) ts.length cap):=λn=>cS ⟨n.u,hby.trans (n.out.mono sy)⟩;have ac:Nonempty (Out wy):=⟨⟨wy,Below.refl _ _⟩⟩;have a3:Hid (∀n:Out wy,yFg n.u b off ts/\b<n.u.heap.size/\t.at n.u):=λn=>⟨(aa.below hby a9).below n.out (by omega),by have:=n.out.size;omega,((HA.1.below a8).below hby).below n.out⟩;clear cR cU cS;by_cases hl:64<t.lo.size
     .exact xA9
     .have hd:decide ((64:Int)<(t.lo.size:Int))=false:=decide_eq_false (by omega);obtain⟨R,hR⟩:=yQc (yAl (esZ t.l)/\RowsIn t.lo (hasN (tbz ts) k) (hiN (tbz ts) k) (esZ t.l));have HR:Hid (R=true↔yAl (esZ t.l)/\RowsIn t.lo (hasN (tbz ts) k) (hiN (tbz ts) k) (esZ t.l)):=hR;have HL:Hid (¬64<t.lo.size):=hl;clear hR hl;go_upto_region 8 with fail;refine yAf (by kernel_rfl) (by kernel_rfl) ?_
      repeat (go_big_quiet_step ((first
       |(go_at_call 25;exact Calls.out_of (yH8 b off cap ts k t _ (a3.out _).1 (a3.out _).2.1 HA.2.1 hn))
       |(go_at_call 24;exact Calls.out_of (yF4 t t.lo (hiN (tbz ts) k) (hasN (tbz ts) k) _ (a3.out _).2.2 HA.2.2 R HR.out)))))
      refine wpQuiet_nil ?_;rintro wz ⟨⟨wx',hbz'⟩,rfl⟩;have hbw:Below w.heap.size w wz:=hbyx.trans (hbz'.mono (by omega));have hbw0:Below W0.heap.size W0 wz:=a7.trans (hbz'.mono (by omega));cases R
      .exact xAk
      .have H:Hid (∀j t,j<k+1->ts[j]?=some t->yIp (tbz ts) j t.tb):=λj u hj hu=>by
        by_cases hjk:j<k
        .exact HV.out j u hjk hu
        .have:j=k:=by omega
         subst this;rw[HA.2.1]at hu;cases hu
         refine⟨?_,λq _ hq=>?_,(HR.1 rfl).1,(HR.1 rfl).2⟩
         .have:=HL.out;show t.lo.size<=64;omega
         .rw[yCj,HP.out]at hq;cases hq
          exact aj.out
       exact yXd
  .exact xAy
theorem yDn(b off cap:Nat)(ts:List Tz)(w:World)(h:yFg w b off ts)(hok:okTz ts)(hB:b<w.heap.size)(hn:ts.length<=1048576):
  Calls prog 6 #[.agg #[.slice (some ⟨b,off,none⟩) ts.length cap]] w λe w'=>
   ∃r:Bool,e=.returned (.bool r)/\(r=true↔GoodS (tbz ts))/\Below w.heap.size w w':=yGf b off cap ts w h hok hB hn
def yBp(ts:List Tb)(row:ByteArray)(i:Nat):Prop:=i<ts.length/\∀(j:Nat)(t:Tb),ts[j]?=some t->(j<=i↔Op.bytesLess row.toList t.lo.toList=false)
theorem yEy{a c:ByteArray}(h1:Op.bytesLess a.toList b.toList=true)(h2:Op.bytesLess b.toList c.toList=true):Op.bytesLess a.toList c.toList=true:=
 (yAv a c).2 (yH ((yAv a b).1 h1) ((yAv b c).1 h2))
theorem yN2{ts:List Tb}(h:GoodS ts):∀(n j:Nat)(x y:Tb),ts[j]?=some x->ts[j+n+1]?=some y->Op.bytesLess x.lo.toList y.lo.toList=true:=by
 intro n;induction n with
 |zero=>
  intro j x y hx hy;exact(h.tabs (j+1) y (by simpa using hy)).up x (by omega) (by simpa using hx)
 |succ n ih=>
  intro j x y hx hy;obtain⟨z,hz⟩:∃z,ts[j+n+1]?=some z:=⟨_,getElem?_eq_getElem (by have:=(List.getElem?_eq_some_iff.1 hy).1;omega)⟩;have h1:=ih j x z hx hz;have h2:=(h.tabs (j+(n+1)+1) y hy).up z (by omega) (by rw[show j+(n+1)+1-1=j+n+1 by omega];exact hz);exact yEy h1 h2
theorem yPi(h:b.size=0):b.toList= []:=List.isEmpty_iff.1 (by rw[isE];exact decide_eq_true h)
theorem yK8(a b:ByteArray)(h:b.size=0):Op.bytesLess a.toList b.toList=false:=by
 have hb:b.toList= []:=by have:=yPi h;exact this
 rw[hb];cases a.toList<;>simp[Op.bytesLess]
theorem yB9{ts:List Tb}(h:GoodS ts)(row:ByteArray):∃i,yBp ts row i:=by
 obtain⟨c,hc,hp⟩:=yVb (λt:Tb=> !Op.bytesLess row.toList t.lo.toList) ts (λi j x y hij hx hy hk=>by
  by_cases e:i=j
  .subst e;rw[hx]at hy;cases hy;exact hk
  .have hl:=yN2 h (j-i-1) i x y hx (by rw[show i+(j-i-1)+1=j by omega];exact hy)
   cases hq:Op.bytesLess row.toList x.lo.toList
   .rfl
   .have:=yEy hq hl
    simp only[this]at hk
    cases hk)
 obtain⟨t,ht⟩:∃t,ts[0]?=some t:=⟨_,getElem?_eq_getElem (by have:=h.ne;omega)⟩;have h0:0<c:=(hp 0 t ht).2 (by rw[yK8 row t.lo (h.first t ht)];rfl);refine⟨c-1,by omega,λj t hj=>?_⟩;have:=hp j t hj;constructor
 .intro q;have:=this.1 (by omega);simpa using this
 .intro q;have:=this.2 (by rw[q];rfl);omega
theorem yE0{ts:List Tb}{row:ByteArray}(h:yBp ts row i)(k:yBp ts row j):i=j:=by have hi:=getElem?_eq_getElem h.1;have hj:=getElem?_eq_getElem k.1;have h1:=(k.2 i _ hi).2 ((h.2 i _ hi).1 (Nat.le_refl _));have h2:=(h.2 j _ hj).2 ((k.2 j _ hj).1 (Nat.le_refl _));omega
theorem yDx(b off cap:Nat)(ts:List Tm)(row:ByteArray)(i:Nat)(w:World)(h:yA2 w b off ts)(hB:b<w.heap.size)(hn:ts.length<=1048576)(hh:yBp (tbs ts) row i):
  Calls prog 71 #[.agg #[.slice (some ⟨b,off,none⟩) ts.length cap],.string row] w λe w'=>e=.returned (.int .i64 i)/\Below w.heap.size w w':=by
 obtain⟨W0,y⟩:=qE (w.alloc (Obj.cells #[.slice (some ⟨b,off,none⟩) ts.length cap] 28):World);have a0:Below w.heap.size w W0:=by rw[y];exact qB
 have c0:W0.cell? ⟨w.heap.size,0,none⟩=some (.slice (some ⟨b,off,none⟩) ts.length cap):=by rw[y];simp
 have HT:Hid (yA2 W0 b off ts/\yBp (tbs ts) row i):=⟨h.below a0 hB,hh⟩;have a7:i<ts.length:=by have:=hh.1;rw[yAy]at this;exact this
 clear h hh;go_enter func71,ntmps71;go_wp2_with fail;rw[<-y];clear y;go_loopw[5,6] (λa j wr=>∃(m x:Nat),m<=ts.length/\j=.int .i64 m/\a=.int .i64 x/\x=min (m-1) i/\wr=W0) (λ_ j _=>ts.length-(intOf j).toNat);case atStart=>exact⟨0,0,zero_le _,rfl,rfl,by omega,rfl⟩
 case round=>
  obtain⟨m,x,hm,rfl,rfl,hx,rfl⟩:=hrel;have HX:Hid (x=min (m-1) i):=hx;clear hx;by_cases hlt:m<ts.length
  .obtain⟨t,ht⟩:∃t,ts[m]?=some t:=⟨_,getElem?_eq_getElem hlt⟩;obtain⟨d0,_⟩:=HT.1 m t ht;have hq:=HT.2.2 m t.tb (by rw[yBq,ht];rfl);have a4:t.tb.lo=t.lo:=rfl;rw[a4]at hq;have zm:(m:Int)<(ts.length:Int):=by omega
   cases hl:Op.bytesLess row.toList t.lo.toList
   .have a5:(Op.bytesLess t.lo.toList row.toList || t.lo.toList==row.toList)=true:=by rw[yHv,hl];rfl
    have a3:m<=i:=hq.2 hl;clear hq ht hl;go_wp2_with fail;go_roundw;case rel=>go_light;exact⟨m+1,m,by omega,by go_num,rfl,by omega,by first|rfl|trivial⟩
    case measure=>go_light;simp[intOf];omega
   .have a5:(Op.bytesLess t.lo.toList row.toList || t.lo.toList==row.toList)=false:=by rw[yHv,hl];rfl
    have a3:¬m<=i:=λq=>by have:=hq.1 q;rw[hl]at this;cases this
    clear hq ht hl;go_wp2_with fail;go_roundw;case rel=>go_light;exact⟨m+1,x,by omega,by go_num,rfl,by have:=HX.out;omega,by first|rfl|trivial⟩
    case measure=>go_light;simp[intOf];omega
  .have zm:¬(m:Int)<(ts.length:Int):=by omega
   have a6:Hid (x=i):=by have:=HX.out;show x=i;omega
   go_wp2_with fail;go_ret;exact⟨by rw[a6.out];rfl,a0⟩
theorem yG7(lo:ByteArray)(a:Option Addr)(n c:Nat)(row:ByteArray)(w:World):
  Calls prog 127 #[.agg #[.string lo,.slice a n c],.string row] w λe w'=>e=.returned (.int .i64 (cB lo row))/\Below w.heap.size w w':=by
 go_enter func127,ntmps127;go_wp2_with fail;refine(yEd _ _ _).mono ?_;rintro e w' ⟨rfl,rfl⟩;go_wp2_with fail;go_ret;exact⟨rfl,qB⟩
def xCk(ts:List Tm)(row:ByteArray)(i:Nat):Prop:=i<=ts.length/\(∀(j:Nat)(t:Tm),j<i->ts[j]?=some t->cB t.lo row= -1)/\(∀(j:Nat)(t:Tm),i<=j->ts[j]?=some t->¬cB t.lo row= -1)
def xCn(ts:List Tm)(row:ByteArray)(w:World)(r:Ending)(w':World):Prop:=∃(i:Nat)(f:Bool),r=.returned (.tuple #[.int .i64 i,.bool f])/\xCk ts row i/\(f=true↔∃t,ts[i]?=some t/\cB t.lo row=0)/\Below w.heap.size w w'
theorem yM2(b off cap:Nat)(ts:List Tm)(row:ByteArray)(w:World)(hE:yA2 w b off ts)(hB:b<w.heap.size)(hlen:ts.length<=1048576)
  (hmono:∀(i j:Nat)(x y:Tm),i<=j->ts[i]?=some x->ts[j]?=some y->cB y.lo row= -1->cB x.lo row= -1):
  Calls prog 126 #[.slice (some ⟨b,off,none⟩) ts.length cap,.string row,.func (.func 127) #[] #[]] w λr w'=>xCn ts row w r w':=by
 have HE:Hid (yA2 w b off ts):=hE;have HM:Hid (∀(i j:Nat)(x y:Tm),i<=j->ts[i]?=some x->ts[j]?=some y->cB y.lo row= -1->cB x.lo row= -1):=hmono;clear hE hmono;go_enter func126,ntmps126;go_wp2_with fail;go_loopw[9,10] (λi j wr=>∃lo hi:Nat,i=.int .i64 lo/\j=.int .i64 hi/\lo<=hi/\hi<=ts.length/\(∀(t:Nat)(x:Tm),t<lo->ts[t]?=some x->cB x.lo row= -1)/\(∀(t:Nat)(x:Tm),hi<=t->ts[t]?=some x->¬cB x.lo row= -1)/\Below w.heap.size w wr) (λi j _=>(intOf j).toNat-(intOf i).toNat);case atStart=>exact⟨0,ts.length,rfl,rfl,zero_le _,Nat.le_refl _,λt x ht=>by omega,λt x ht hx=>by have:=(List.getElem?_eq_some_iff.1 hx).1;omega,Below.refl _ _⟩
 case round=>
  obtain⟨lo,hi,rfl,rfl,a4,hhi,hA,hZ,hb⟩:=hrel;have HA:Hid ((∀(t:Nat)(x:Tm),t<lo->ts[t]?=some x->cB x.lo row= -1)/\(∀(t:Nat)(x:Tm),hi<=t->ts[t]?=some x->¬cB x.lo row= -1)):=⟨hA,hZ⟩;have hs:=hb.size;clear hA hZ;by_cases hlt:lo<hi
  .have zl:(lo:Int)<(hi:Int):=by omega
   go_upto_region 5 with fail;obtain⟨m,hm⟩:=qE ((lo+hi)/2:Nat);have em:((lo:Int)+(hi:Int))/2=(m:Int):=by omega
   have hm1:lo<=m:=by omega
   have a3:m<hi:=by omega
   rw[em];clear em hm;obtain⟨v,hv⟩:∃v,ts[m]?=some v:=⟨_,getElem?_eq_getElem (by omega)⟩;obtain⟨q0,q1,_⟩:=(HE.below hb hB) m v hv;have HV:Hid (ts[m]?=some v):=hv;clear hv;have zm:(m:Int)<(ts.length:Int):=by omega
   go_wp2_with fail;refine(yG7 v.lo _ _ _ row _).mono ?_;rintro e w2 ⟨rfl,a0⟩;have hb2:Below w.heap.size w w2:=hb.trans (a0.mono hs);clear q0 q1 a0;by_cases hk:cB v.lo row<0
   .have HK:Hid (cB v.lo row= -1):=by
     rcases yCr v.lo row with h|h|h
     .exact h
     .omega
     .omega
    have HN:Hid (∀(t:Nat)(x:Tm),t<m+1->ts[t]?=some x->cB x.lo row= -1):=λt x ht hx=>HM.out t m x v (by omega) hx HV.out HK.out;exact yZ1
   .have HN:Hid (∀(t:Nat)(x:Tm),m<=t->ts[t]?=some x->¬cB x.lo row= -1):=λt x ht hx q=>by have:=HM.out m t v x ht HV.out hx q;omega
    exact yZu
  .obtain rfl:lo=hi:=by omega
   have HC:Hid (xCk ts row lo):=⟨hhi,HA.1,HA.2⟩;have zl:¬(lo:Int)<(lo:Int):=by omega
   by_cases hn:lo<ts.length
   .obtain⟨v,hv⟩:∃v,ts[lo]?=some v:=⟨_,getElem?_eq_getElem hn⟩;obtain⟨q0,q1,_⟩:=(HE.below hb hB) lo v hv;have HV:Hid (ts[lo]?=some v):=hv;clear hv;have zm:(lo:Int)<(ts.length:Int):=by omega
    go_wp2_with fail;refine(yG7 v.lo _ _ _ row _).mono ?_;rintro e w2 ⟨rfl,a0⟩;have hb2:Below w.heap.size w w2:=hb.trans (a0.mono hs);clear q0 q1 a0;have HF:Hid ((cB v.lo row==0)=true↔∃t,ts[lo]?=some t/\cB t.lo row=0):=by
     show _↔_;rw[beq_iff_eq];constructor
     .intro q;exact⟨v,HV.out,q⟩
     .rintro⟨t,ht,q⟩;rw[HV.out]at ht;cases ht
      exact q
    go_wp2_with fail;go_ret2;exact⟨lo,_,rfl,HC.out,HF.out,hb2⟩
   .have zm:¬(lo:Int)<(ts.length:Int):=by omega
    have HF:Hid (¬∃t,ts[lo]?=some t/\cB t.lo row=0):=fun⟨t,ht,_⟩=>by have:=(List.getElem?_eq_some_iff.1 ht).1;omega
    go_wp2_with fail;go_ret2;exact⟨lo,false,rfl,HC.out,iffF HF.out,hb⟩
theorem yYu{ts:List Tm}(h:GoodS (tbs ts))(row:ByteArray):∀(i j:Nat)(x y:Tm),i<=j->ts[i]?=some x->ts[j]?=some y->cB y.lo row= -1->cB x.lo row= -1:=by
 intro i j x y a0 hx hy hk;by_cases e:i=j
 .subst e;rw[hx]at hy;cases hy;exact hk
 .have hl:=yN2 h (j-i-1) i x.tb y.tb (by rw[yBq,hx];rfl) (by rw[yBq,show i+(j-i-1)+1=j by omega,hy];rfl);exact yH ((yAv x.lo y.lo).1 hl) hk
theorem yD3(b off cap:Nat)(ts:List Tm)(row:ByteArray)(i:Nat)(w:World)(h:yA2 w b off ts)(hB:b<w.heap.size)(hn:ts.length<=1048576)(hg:GoodS (tbs ts))(hh:yBp (tbs ts) row i):
  Calls prog 65 #[.agg #[.slice (some ⟨b,off,none⟩) ts.length cap],.string row] w λe w'=>e=.returned (.int .i64 i)/\Below w.heap.size w w':=by
 obtain⟨W0,a0⟩:=qE (w.alloc (Obj.cells #[.slice (some ⟨b,off,none⟩) ts.length cap] 28):World);have a5:Below w.heap.size w W0:=by rw[a0];exact qB
 have a8:W0.heap.size=w.heap.size+1:=by rw[a0];simp
 have HT:Hid (yA2 W0 b off ts/\GoodS (tbs ts)/\yBp (tbs ts) row i):=⟨h.below a5 hB,hg,hh⟩;have a6:i<ts.length:=by have:=hh.1;rw[yAy]at this;exact this
 clear h hh hg;go_enter func65,ntmps65;go_wp2_with fail;rw[<-a0];clear a0;refine(yM2 b off cap ts row _ HT.1 (by omega) hn (yYu HT.2.1 row)).mono ?_;rintro e w1 ⟨c,f,rfl,hc,hf,hb1⟩;have a4:Below w.heap.size w w1:=a5.trans (hb1.mono (by omega));obtain⟨t,ht⟩:∃t,ts[i]?=some t:=⟨_,getElem?_eq_getElem a6⟩;have y:∀(j:Nat)(u:Tm),ts[j]?=some u->(j<=i↔¬cB row u.lo= -1):=λj u hj=>by have h1:=HT.2.2.2 j u.tb (by rw[yBq,hj];rfl);have h2:Op.bytesLess row.toList u.tb.lo.toList=Op.bytesLess row.toList u.lo.toList:=rfl;rw[h2]at h1;rw[h1,<-yAv];cases Op.bytesLess row.toList u.lo.toList<;>simp
 cases f
 .have HC:Hid (c=i+1):=by
   show c=i+1;have e1:cB t.lo row= -1:=by
    have h1:=(y i t ht).1 (Nat.le_refl _);rw[yE3 t.lo row]at h1;rcases yCr t.lo row with q|q|q
    .exact q
    .exfalso;have a3:c=i:=by
      rcases Nat.lt_trichotomy c i with q1|q1|q1
      .exfalso;have hx:=getElem?_eq_getElem (show c<ts.length by omega);have h3:=hc.2.2 c _ (Nat.le_refl _) hx;have h4:=yN2 HT.2.1 (i-c-1) c _ t.tb (by rw[yBq,hx];rfl) (by rw[yBq,show c+(i-c-1)+1=i by omega,ht];rfl);have h5:=(yAv _ _).1 h4;have h6:t.lo=row:=yBn.1 q;have h7:t.tb.lo=t.lo:=rfl;rw[h7,h6]at h5;exact h3 h5
      .exact q1
      .exfalso;have h3:=hc.2.1 i t q1 ht;omega
     have:=hf.2 ⟨t,by rw[a3];exact ht,q⟩;cases this
    .exact absurd (by rw[q]) h1
   have h8:¬c<=i:=λq=>hc.2.2 i t q ht e1;by_cases q:c=i+1
   .exact q
   .exfalso;have hx:=getElem?_eq_getElem (show i+1<ts.length by have:=hc.1;omega);have h9:=hc.2.1 (i+1) _ (by omega) hx;have a7:=(y (i+1) _ hx);have:¬cB row (ts[i+1]'(by have:=hc.1;omega)).lo= -1:=by rw[yE3,h9];decide
    have:=a7.2 this;omega
  have a3:=HC.out;clear hf y hc ht;have a9:c<=1048577:=by omega
  go_wp2_with fail;go_ret;exact⟨rfl,a4⟩
 .have HC:Hid (c=i):=by
   obtain⟨u,hu,hq⟩:=hf.1 rfl;have h1:c<=i:=(y c u hu).2 (by rw[yE3,hq];decide);by_cases q:c=i
   .exact q
   .exfalso;have h4:=yN2 HT.2.1 (i-c-1) c u.tb t.tb (by rw[yBq,hu];rfl) (by rw[yBq,show c+(i-c-1)+1=i by omega,ht];rfl);have h5:=(yAv _ _).1 h4;have h6:u.lo=row:=yBn.1 hq;have h7:u.tb.lo=u.lo:=rfl;have h8:t.tb.lo=t.lo:=rfl;rw[h7,h6,h8]at h5;exact(y i t ht).1 (Nat.le_refl _) h5
  clear hf y hc ht;go_wp2_with fail;go_ret;exact⟨by rw[HC.out];rfl,a4⟩
theorem yFc(a:Option Addr)(cap:Nat)(l:List Rz)(w:World)(hR:yKt w a l)(hok:okZ l)(hlen:l.length<=1048576)(R:Bool)(h:R=true↔yAl (esZ l)):
  Calls prog 21 #[.slice a l.length cap] w λe w'=>e=.returned (.bool R)/\Below w.heap.size w w':=
 (ySi a cap l w hR hok hlen).mono λe w' ⟨r,h1,h2,h3⟩=>by
  have:r=R:=by rw[Bool.eq_iff_iff,h2,h]
  subst this
  exact⟨h1,h3⟩
theorem yG(b off cap:Nat)(ts:List Tz)(w:World)(h:yFg w b off ts)(hok:okTz ts)(hB:b<w.heap.size)(hn:ts.length<=1048576):
  Calls prog 5 #[.agg #[.slice (some ⟨b,off,none⟩) ts.length cap]] w λe w'=>SayB (GoodS (tbz ts)) w e w':=by
 obtain⟨W0,a3⟩:=qE (w.alloc (Obj.cells #[.slice (some ⟨b,off,none⟩) ts.length cap] 28):World);have a5:Below w.heap.size w W0:=by rw[a3];exact qB
 have aj:W0.heap.size=w.heap.size+1:=by rw[a3];simp
 have HC:Hid (∀wx,Below W0.heap.size W0 wx->wx.cell? ⟨w.heap.size,0,none⟩=some (.slice (some ⟨b,off,none⟩) ts.length cap)):=by intro wx hb;rw[hb.cell (p:=⟨w.heap.size,0,none⟩) (by show w.heap.size<W0.heap.size;omega),a3];simp
 have HT:Hid (yFg W0 b off ts/\okTz ts):=⟨h.below a5 hB,hok⟩;have ab:b<W0.heap.size:=by omega
 clear h hok;by_cases h1:ts.length=0
 .have H:Hid (¬GoodS (tbz ts)):=λq=>by have:=q.ne;rw[yEc]at this;omega
  have z1:(ts.length:Int)<1:=by omega
  clear h1;go_enter func5,ntmps5;go_wp2_with fail;go_ret;rw[<-a3];exact⟨_,rfl,iffF H.out,a5⟩
 by_cases h2:100<ts.length
 .have H:Hid (¬GoodS (tbz ts)):=λq=>by have:=q.le;rw[yEc]at this;omega
  have z1:¬(ts.length:Int)<1:=by omega
  have z2:(100:Int)<ts.length:=by omega
  go_enter func5,ntmps5;go_wp2_with fail;go_ret;rw[<-a3];exact⟨_,rfl,iffF H.out,a5⟩
 have z1:¬(ts.length:Int)<1:=by omega
 have z2:¬(100:Int)<ts.length:=by omega
 obtain⟨t0,a8⟩:∃t,ts[0]?=some t:=⟨_,getElem?_eq_getElem (by omega)⟩;have c0:=HC.out W0 (Below.refl _ _);have d0:=(HT.1 0 t0 a8).1;rw[Nat.zero_mul,Nat.add_zero]at d0;have H0:Hid (ts[0]?=some t0):=a8;clear a8;cases he:t0.lo.toList.isEmpty
 .have H:Hid (¬GoodS (tbz ts)):=λq=>by have:=q.first t0.tb (by rw[yCj,H0.out];rfl);have h3:t0.lo.toList.isEmpty=true:=yFu.2 this;rw[he]at h3;cases h3
  go_enter func5,ntmps5;go_upto_region 1 with fail;rw[<-a3];clear a3;go_wp2_with fail;go_ret;exact⟨_,rfl,iffF H.out,a5⟩
 have HF:Hid (∀t,ts[0]?=some t->t.lo.size=0):=λt ht=>by
  rw[H0.out]at ht;cases ht
  exact yFu.1 he
 go_enter func5,ntmps5;go_upto_region 1 with fail;rw[<-a3];clear a3;go_wp2_with fail;clear c0 d0 he;go_loopw[4] (λi wr=>∃(k:Nat),k<=ts.length/\i=.int .i64 k/\(∀j t,j<k->ts[j]?=some t->yIp (tbz ts) j t.tb)/\Below W0.heap.size W0 wr) (λi _=>ts.length-(intOf i).toNat);case atStart=>exact⟨0,zero_le _,rfl,λj t hj=>by omega,Below.refl _ _⟩
 case round=>
  obtain⟨k,hk,rfl,hv,hb⟩:=hrel;have HV:Hid (∀j t,j<k->ts[j]?=some t->yIp (tbz ts) j t.tb):=hv;have ac:=hb.size;have hbx:=a5.trans (hb.mono (by omega));clear hv;by_cases hlt:k<ts.length
  .obtain⟨t,ht⟩:∃t,ts[k]?=some t:=⟨_,getElem?_eq_getElem hlt⟩;obtain⟨c0,c1,ha⟩:=(HT.1.below hb ab) k t ht;obtain⟨ta,hta0⟩:∃ta,t.a=ta:=⟨_,rfl⟩;unfold Tz.u at c1;rw[hta0]at c1;have HA:Hid (t.at wr/\ts[k]?=some t/\OkTz t):=⟨ha,ht,HT.2 t (mem_of_getElem? ht)⟩;have a9:t.l.length<=1048576:=HA.2.2.runs;have ad:t.lo.size<=maxLen:=HA.2.2.lo;unfold maxLen at ad;have cw:=HC.out wr hb;clear ha ht;obtain⟨W1,a0⟩:=qE (wr.alloc (Obj.cells #[.string t.lo,.slice ta t.l.length t.cap] 56):World);have aa:Below wr.heap.size wr W1:=by rw[a0];exact qB
   have ai:W1.heap.size=wr.heap.size+1:=by rw[a0];simp
   have a4:Below W0.heap.size W0 W1:=hb.trans (aa.mono ac);have hbzx:Below w.heap.size w W1:=a5.trans (a4.mono (by omega));have HCA:Hid (∀wx,Below W1.heap.size W1 wx->wx.cell? ⟨wr.heap.size,0,none⟩=some (.string t.lo)/\wx.cell? ⟨wr.heap.size,1,none⟩=some (.slice ta t.l.length t.cap)/\wx.cell? ⟨w.heap.size,0,none⟩=some (.slice (some ⟨b,off,none⟩) ts.length cap)/\yFg wx b off ts/\b<wx.heap.size/\t.at wx):=by
    intro wx hx;have sx:=hx.size;refine⟨?_,?_,HC.out wx (a4.trans (hx.mono (by omega))),(HT.1.below a4 ab).below hx (by omega),by omega,(HA.1.below aa).below hx⟩
    .rw[hx.cell (p:=⟨wr.heap.size,0,none⟩) (by show wr.heap.size<W1.heap.size;omega),a0];simp
    .rw[hx.cell (p:=⟨wr.heap.size,1,none⟩) (by show wr.heap.size<W1.heap.size;omega),a0];simp
   have cR:∀n:Out W1,n.u.cell? ⟨wr.heap.size,0,none⟩=some (.string t.lo):=λn=>(HCA.out n.u n.out).1;have cU:∀n:Out W1,n.u.cell? ⟨wr.heap.size,1,none⟩=some (.slice ta t.l.length t.cap):=λn=>(HCA.out n.u n.out).2.1;have cS:∀n:Out W1,n.u.cell? ⟨w.heap.size,0,none⟩=some (.slice (some ⟨b,off,none⟩) ts.length cap):=λn=>(HCA.out n.u n.out).2.2.1;have ah:Nonempty (Out W1):=⟨⟨W1,Below.refl _ _⟩⟩;have zk:(k:Int)<(ts.length:Int):=by omega
   have ak:b<W1.heap.size:=by omega
   obtain⟨p,hp⟩:∃p,(0<k->ts[k-1]?=some p):=by
    by_cases h0:0<k
    .exact⟨ts[k-1]'(by omega),λ_=>getElem?_eq_getElem _⟩
    .exact⟨t,λq=>absurd q h0⟩
   have p0:0<k->∀n:Out W1,n.u.cell? ⟨b,off+(k-1)*2,none⟩=some (.string p.lo):=λq n=>((HCA.out n.u n.out).2.2.2.1 (k-1) p (hp q)).1;have HP:Hid (0<k->ts[k-1]?=some p):=hp;clear hp;obtain⟨R,hR⟩:=yQc (yAl (esZ t.l));have HR:Hid (R=true↔yAl (esZ t.l)):=hR;clear hR;by_cases hl:64<t.lo.size
   .have H:Hid (¬GoodS (tbz ts)):=λq=>by have h3:t.lo.size<=64:=(yDc q HA.2.1).size;omega
    have hd:decide ((64:Int)<(t.lo.size:Int))=true:=decide_eq_true (by omega);clear hl p0;go_upto_region 8 with fail;rw[<-a0];clear a0;refine yAf (by kernel_rfl) (by kernel_rfl) ?_;repeat (go_big_quiet_step (fail))
    refine wpQuiet_nil ?_;rintro wz ⟨⟨wx',hbz'⟩,rfl⟩;have hbw:Below w.heap.size w wz:=hbzx.trans (hbz'.mono (by omega));go_wp2_with fail;go_ret;exact⟨_,rfl,iffF H.out,hbw⟩
   have hd:decide ((64:Int)<(t.lo.size:Int))=false:=decide_eq_false (by omega);have HL:Hid (¬64<t.lo.size):=hl;clear hl;by_cases hk0:k=0
   .have hg:decide (0<k)=false:=decide_eq_false (by omega);have HK:Hid (k=0):=hk0;clear hk0 p0;go_upto_region 8 with fail;rw[<-a0];clear a0;refine yAf (by kernel_rfl) (by kernel_rfl) ?_;repeat (go_big_quiet_step ((go_at_call 21;exact Calls.out_of (yFc ta t.cap t.l _ (hta0▸(HCA.out _ (Out.out _)).2.2.2.2.2) HA.2.2.ents a9 R HR.out))))
    refine wpQuiet_nil ?_;rintro wy ⟨⟨wx,hby⟩,rfl⟩;have sy:=hby.size;have hbyx:Below w.heap.size w wy:=hbzx.trans (hby.mono (by omega));have af:Below W0.heap.size W0 wy:=a4.trans (hby.mono (by omega));clear cR cU cS;cases R
    .exact yZ8
    have HG:Hid (yAl (esZ t.l)):=HR.1 rfl;go_wp2_with fail;go_loopw[6] (λi wr=>∃(j:Nat),j<=t.l.length/\i=.int .i64 j/\(∀r∈t.l.take j,r.es≠ []/\∀e∈r.es,inR t.lo (hasN (tbz ts) k) (hiN (tbz ts) k) e.row=true)/\Below W1.heap.size W1 wr) (λi _=>t.l.length-(intOf i).toNat);case atStart=>exact⟨0,zero_le _,rfl,by simp,hby⟩
    case round=>
     obtain⟨wr_1,a7⟩:∃v:World,v=wr:=⟨_,rfl⟩;subst a7;obtain⟨j,hj,rfl,a6,hbj⟩:=hrel;have HJ:Hid (∀r∈t.l.take j,r.es≠ []/\∀e∈r.es,inR t.lo (hasN (tbz ts) k) (hiN (tbz ts) k) e.row=true):=a6;have sj:=hbj.size;have hbjx:Below w.heap.size w wr_1:=hbzx.trans (hbj.mono (by omega));have hbjz:Below W0.heap.size W0 wr_1:=a4.trans (hbj.mono (by omega));clear a6;obtain⟨e0,e1,e2,e3,e4,e5⟩:=HCA.out wr_1 hbj;have HTm:Hid (t.at wr_1):=e5;clear e3 e5;by_cases hjl:j<t.l.length
     .exact zzQ7
     .have zj:¬(j:Int)<(t.l.length:Int):=by omega
      have H:Hid (∀j t,j<k+1->ts[j]?=some t->yIp (tbz ts) j t.tb):=λi u hi hu=>by
       by_cases hjk:i<k
       .exact HV.out i u hjk hu
       .have:i=k:=by omega
        subst this;rw[HA.2.1]at hu;cases hu
        refine⟨?_,λq hq0 hq=>?_,HG.out,yHr (λr hr=>HJ.out r (by rw[take_of_length_le (by omega)];exact hr))⟩
        .have:=HL.out;show t.lo.size<=64;omega
        .have:=HK.out;omega
      exact yXc
   .have hg:decide (0<k)=true:=decide_eq_true (by omega);have em:(k:Int)-1=((k-1:Nat):Int):=by omega
    have p1:=p0 (by omega);clear p0;cases hlo:Op.bytesLess p.lo.toList t.lo.toList
    .have ae:(Op.bytesLess t.lo.toList p.lo.toList || t.lo.toList==p.lo.toList)=true:=by rw[yHv,hlo];rfl
     have H:Hid (¬GoodS (tbz ts)):=λq=>by have h3:=(yDc q HA.2.1).up p.tb (by omega) (by rw[yCj,HP.out (by omega)];rfl);have h4:Op.bytesLess p.lo.toList t.lo.toList=true:=h3;rw[hlo]at h4;cases h4
     go_upto_region 8 with fail;rw[<-a0];clear a0;refine yAf (by kernel_rfl) (by kernel_rfl) ?_;repeat (go_big_quiet_step ((go_at_call 21;exact Calls.out_of (yFc ta t.cap t.l _ (hta0▸(HCA.out _ (Out.out _)).2.2.2.2.2) HA.2.2.ents a9 R HR.out))))
     exact xAj
    .have ag:Hid (Op.bytesLess p.lo.toList t.lo.toList=true):=hlo;have ae:(Op.bytesLess t.lo.toList p.lo.toList || t.lo.toList==p.lo.toList)=false:=by rw[yHv,hlo];rfl
     go_upto_region 8 with fail;rw[<-a0];clear a0;refine yAf (by kernel_rfl) (by kernel_rfl) ?_;repeat (go_big_quiet_step ((go_at_call 21;exact Calls.out_of (yFc ta t.cap t.l _ (hta0▸(HCA.out _ (Out.out _)).2.2.2.2.2) HA.2.2.ents a9 R HR.out))))
     refine wpQuiet_nil ?_;rintro wy ⟨⟨wx,hby⟩,rfl⟩;have sy:=hby.size;have hbyx:Below w.heap.size w wy:=hbzx.trans (hby.mono (by omega));have af:Below W0.heap.size W0 wy:=a4.trans (hby.mono (by omega));clear cR cU cS p1;cases R
     .exact yZ8
     have HG:Hid (yAl (esZ t.l)):=HR.1 rfl;go_wp2_with fail;go_loopw[6] (λi wr=>∃(j:Nat),j<=t.l.length/\i=.int .i64 j/\(∀r∈t.l.take j,r.es≠ []/\∀e∈r.es,inR t.lo (hasN (tbz ts) k) (hiN (tbz ts) k) e.row=true)/\Below W1.heap.size W1 wr) (λi _=>t.l.length-(intOf i).toNat);case atStart=>exact⟨0,zero_le _,rfl,by simp,hby⟩
     case round=>
      obtain⟨wr_1,a7⟩:∃v:World,v=wr:=⟨_,rfl⟩;subst a7;obtain⟨j,hj,rfl,a6,hbj⟩:=hrel;have HJ:Hid (∀r∈t.l.take j,r.es≠ []/\∀e∈r.es,inR t.lo (hasN (tbz ts) k) (hiN (tbz ts) k) e.row=true):=a6;have sj:=hbj.size;have hbjx:Below w.heap.size w wr_1:=hbzx.trans (hbj.mono (by omega));have hbjz:Below W0.heap.size W0 wr_1:=a4.trans (hbj.mono (by omega));clear a6;obtain⟨e0,e1,e2,e3,e4,e5⟩:=HCA.out wr_1 hbj;have HTm:Hid (t.at wr_1):=e5;clear e3 e5;by_cases hjl:j<t.l.length
      .exact zzQ7
      .have zj:¬(j:Int)<(t.l.length:Int):=by omega
       have H:Hid (∀j t,j<k+1->ts[j]?=some t->yIp (tbz ts) j t.tb):=λi u hi hu=>by
        by_cases hjk:i<k
        .exact HV.out i u hjk hu
        .have:i=k:=by omega
         subst this;rw[HA.2.1]at hu;cases hu
         refine⟨?_,λq hq0 hq=>?_,HG.out,yHr (λr hr=>HJ.out r (by rw[take_of_length_le (by omega)];exact hr))⟩
         .have:=HL.out;show t.lo.size<=64;omega
         .rw[yCj,HP.out (by omega)]at hq;cases hq
          exact ag.out
       exact yXc
  .exact xAy
theorem yDm(b off cap:Nat)(ts:List Tz)(w:World)(h:yFg w b off ts)(hok:okTz ts)(hB:b<w.heap.size)(hn:ts.length<=1048576):
  Calls prog 5 #[.agg #[.slice (some ⟨b,off,none⟩) ts.length cap]] w λe w'=>
   ∃r:Bool,e=.returned (.bool r)/\(r=true↔GoodS (tbz ts))/\Below w.heap.size w w':=yG b off cap ts w h hok hB hn
structure MrgT(ts:List Tb)(row:ByteArray)(out:List Tb):Prop where
 bad:¬GoodS ts->out=ts
 last:GoodS ts->∀i,yBp ts row i->i+1=ts.length->out=ts
 full:GoodS ts->∀i a b,yBp ts row i->ts[i]?=some a->ts[i+1]?=some b->50<a.rs.length+b.rs.length->out=ts
 done:GoodS ts->∀i a b,yBp ts row i->ts[i]?=some a->ts[i+1]?=some b->a.rs.length+b.rs.length<=50->out=ts.take i++ [⟨a.lo,a.rs++b.rs⟩]++ts.drop (i+2)
theorem yUd{ts:List Tb}{row:ByteArray}{o1 o2:List Tb}(h:MrgT ts row o1)(k:MrgT ts row o2):o1=o2:=by
 by_cases hg:GoodS ts
 .obtain⟨i,hi⟩:=yB9 hg row;by_cases hl:i+1=ts.length
  .rw[h.last hg i hi hl,k.last hg i hi hl]
  .have ha:=getElem?_eq_getElem hi.1;have hb:=getElem?_eq_getElem (show i+1<ts.length by have:=hi.1;omega);by_cases hf:50<(ts[i]'hi.1).rs.length+(ts[i+1]'(by have:=hi.1;omega)).rs.length
   .rw[h.full hg i _ _ hi ha hb hf,k.full hg i _ _ hi ha hb hf]
   .rw[h.done hg i _ _ hi ha hb (by omega),k.done hg i _ _ hi ha hb (by omega)]
 .rw[h.bad hg,k.bad hg]
theorem yQy{ts:List Tb}{row:ByteArray}(h:¬GoodS ts):MrgT ts row ts:=⟨λ_=>rfl,λq=>absurd q h,λq=>absurd q h,λq=>absurd q h⟩
theorem yNv{ts:List Tb}{row:ByteArray}(hi:yBp ts row i)(hl:i+1=ts.length):MrgT ts row ts:=by refine⟨λ_=>rfl,λ_ _ _ _=>rfl,λ_ j a b hj ha hb _=>rfl,λ_ j a b hj ha hb _=>?_⟩;have:=yE0 hi hj;subst this;have:=(List.getElem?_eq_some_iff.1 hb).1;omega
theorem yNw{ts:List Tb}{row:ByteArray}{a b:Tb}(hi:yBp ts row i)(ha:ts[i]?=some a)(hb:ts[i+1]?=some b)(hf:50<a.rs.length+b.rs.length):MrgT ts row ts:=by
 refine⟨λ_=>rfl,λ_ _ _ _=>rfl,λ_ j a b hj ha hb _=>rfl,λ_ j a' b' hj ha' hb' hq=>?_⟩;have:=yE0 hi hj;subst this;rw[ha]at ha';rw[hb]at hb';cases ha'
 cases hb'
 omega
theorem yNx{ts:List Tb}{row:ByteArray}{a b:Tb}(hg:GoodS ts)(hi:yBp ts row i)(ha:ts[i]?=some a)(hb:ts[i+1]?=some b)(hf:a.rs.length+b.rs.length<=50):MrgT ts row (ts.take i++ [⟨a.lo,a.rs++b.rs⟩]++ts.drop (i+2)):=by
 refine⟨λq=>absurd hg q,λ_ j hj hl=>?_,λ_ j a' b' hj ha' hb' hq=>?_,λ_ j a' b' hj ha' hb' hq=>?_⟩
 all_goals
  have:=yE0 hi hj
  subst this
 .have:=(List.getElem?_eq_some_iff.1 hb).1;omega
 .rw[ha]at ha';rw[hb]at hb';cases ha'
  cases hb'
  omega
 .rw[ha]at ha';rw[hb]at hb';cases ha'
  cases hb'
  rfl
def Rm.rz(r:Rm):Rz:=⟨some ⟨r.b,r.off,none⟩,r.cap,r.es⟩
def Tm.tz(t:Tm):Tz:=⟨t.lo,some ⟨t.b,t.off,none⟩,t.cap,t.l.map Rm.rz⟩
theorem xCp(l:List Rm):esZ (l.map Rm.rz)=esM l:=by simp[Rm.rz,Function.comp_def]
theorem yXe(ts:List Tm):tbz (ts.map Tm.tz)=tbs ts:=by unfold tbz tbs;rw[map_map];exact map_congr_left λt _=>by show(⟨t.lo,esZ (t.l.map Rm.rz)⟩:Tb)=⟨t.lo,esM t.l⟩;rw[xCp]
theorem xBk{b:Nat}{ts:List Tm}(h:yA2 w b off ts):yFg w b off (ts.map Tm.tz):=by intro i t ht;rw[getElem?_map]at ht;obtain⟨m,hm,rfl⟩:=Option.map_eq_some_iff.1 ht;obtain⟨h1,h2,h3⟩:=h i m hm;refine⟨h1,by rw[h2];simp[Tm.tz],λj r hr=>?_⟩;have y:(m.l.map Rm.rz)[j]?=some r:=hr;rw[getElem?_map]at y;obtain⟨q,hq,rfl⟩:=Option.map_eq_some_iff.1 y;obtain⟨k1,k2⟩:=h3.rms j q hq;exact⟨m.b,m.off,rfl,h3.lt,k1,λ_=>⟨q.b,q.off,rfl,k2.ents,k2.lt,k2.len,k2.cap⟩⟩
theorem xBj{ts:List Tm}(h:okTs ts):okTz (ts.map Tm.tz):=by intro t ht;obtain⟨m,hm,rfl⟩:=List.mem_map.1 ht;refine⟨λr hr=>?_,by simpa [Tm.tz]using (h m hm).runs,(h m hm).lo⟩;obtain⟨q,hq,rfl⟩:=List.mem_map.1 hr;exact(h m hm).ents q hq
theorem yBf(b off cap:Nat)(ts:List Tm)(w:World)(h:yA2 w b off ts)(hok:okTs ts)(hB:b<w.heap.size)(hn:ts.length<=1048576):
  Calls prog 6 #[.agg #[.slice (some ⟨b,off,none⟩) ts.length cap]] w λe w'=>
   ∃r:Bool,e=.returned (.bool r)/\(r=true↔GoodS (tbs ts))/\Below w.heap.size w w':=by
 have:=yDn b off cap (ts.map Tm.tz) w (xBk h) (xBj hok) hB (by simpa using hn);rwa [length_map,yXe]at this
theorem yA4(b off cap:Nat)(ts:List Tm)(w:World)(h:yA2 w b off ts)(hok:okTs ts)(hB:b<w.heap.size)(hn:ts.length<=1048576):
  Calls prog 5 #[.agg #[.slice (some ⟨b,off,none⟩) ts.length cap]] w λe w'=>
   ∃r:Bool,e=.returned (.bool r)/\(r=true↔GoodS (tbs ts))/\Below w.heap.size w w':=by
 have:=yDm b off cap (ts.map Tm.tz) w (xBk h) (xBj hok) hB (by simpa using hn);rwa [length_map,yXe]at this
abbrev inP(lo:ByteArray)(hh:Bool)(hi:ByteArray)(es:List Ent):List Ent:=es.filter λx=>inR lo hh hi x.row
theorem yY3{lo:ByteArray}(h:es[k]?=some x)(hx:inR lo hh hi x.row=true):inP lo hh hi (es.take (k+1))=inP lo hh hi (es.take k)++ [x]:=by unfold inP;rw[take_add_one,h,List.filter_append];simp[hx]
theorem xB5{lo:ByteArray}(h:es[k]?=some x)(hx:inR lo hh hi x.row=false):inP lo hh hi (es.take (k+1))=inP lo hh hi (es.take k):=by unfold inP;rw[take_add_one,h,List.filter_append];simp[hx]
theorem yY4(lo hi:ByteArray)(hh:Bool)(es:List Ent)(k:Nat):(inP lo hh hi (es.take k)).length<=es.length:=by have h1:(inP lo hh hi (es.take k)).length<=(es.take k).length:=List.length_filter_le ..;have:=List.length_take_le k es;have:=length_take (i:=k) (l:=es);omega
def yZm(w:World)(fs:List Ent)(e:Ending)(w':World):Prop:=∃g cp,e=.returned (.slice (some ⟨g,0,none⟩) fs.length cp)/\OwnE w' w.heap.size g cp fs/\Below w.heap.size w w'
theorem yGq(r:Rm)(lo hi:ByteArray)(hh:Bool)(w:World)(h:r.at w)(hn:r.es.length<=1048576):
  Calls prog 96 #[.slice (some ⟨r.b,r.off,none⟩) r.es.length r.cap,.agg #[.string lo,.bool hh,.string hi]] w λe w'=>yZm w (inP lo hh hi r.es) e w':=by
 obtain⟨Wa,y⟩:=qE ((w.alloc (Obj.cells #[.string lo,.bool hh,.string hi] 30)).alloc (Obj.cells #[] 64):World);have a9:Below w.heap.size w Wa:=by rw[y];exact(qB).alloc (by simp) _
 have ai:Wa.heap.size=w.heap.size+1+1:=by rw[y];simp
 have af:Hid (OwnE Wa (w.heap.size+1) (w.heap.size+1) 0 []):=by
  rw[y];have:=yHt (w.alloc (Obj.cells #[.string lo,.bool hh,.string hi] 30)) (w.heap.size+1) (by simp);have h2:OwnE ((w.alloc (Obj.cells #[.string lo,.bool hh,.string hi] 30)).alloc (Obj.cells #[] 64)) (w.heap.size+1) (w.heap.size+1) 0 []:=by simpa using this
  exact h2
 have HC:Hid (∀wx,Below (w.heap.size+1) Wa wx->wx.cell? ⟨w.heap.size,0,none⟩=some (.string lo)/\wx.cell? ⟨w.heap.size,1,none⟩=some (.bool hh)/\wx.cell? ⟨w.heap.size,2,none⟩=some (.string hi)/\r.at wx):=by
  intro wx hx;refine⟨?_,?_,?_,?_⟩
  .rw[hx.cell (p:=⟨w.heap.size,0,none⟩) (by show w.heap.size<w.heap.size+1;omega),y];simp[go_sem]
  .rw[hx.cell (p:=⟨w.heap.size,1,none⟩) (by show w.heap.size<w.heap.size+1;omega),y];simp[go_sem]
  .rw[hx.cell (p:=⟨w.heap.size,2,none⟩) (by show w.heap.size<w.heap.size+1;omega),y];simp[go_sem]
  .have ad:Below w.heap.size w wx:=a9.trans (hx.mono (by omega));exact h.below ad
 clear h;go_enter func96,ntmps96;go_wp2_with fail;rw[<-y];clear y;go_loopw[5,6] (λo i wr=>∃(k g cp:Nat)(fs:List Ent),k<=r.es.length/\i=.int .i64 k/\o=.slice (some ⟨g,0,none⟩) fs.length cp/\fs=inP lo hh hi (r.es.take k)/\OwnE wr (w.heap.size+1) g cp fs/\Below (w.heap.size+1) Wa wr) (λ_ i _=>r.es.length-(intOf i).toNat);case atStart=>exact⟨0,w.heap.size+1,0,[],zero_le _,rfl,rfl,rfl,af.out,Below.refl _ _⟩
 case round=>
  obtain⟨k,g,cp,fs,hk,rfl,rfl,a5,hO,hb⟩:=hrel;have HR:Hid (fs=inP lo hh hi (r.es.take k)/\OwnE wr (w.heap.size+1) g cp fs):=⟨a5,hO⟩;have ak:fs.length<=1048576:=by rw[a5];exact Nat.le_trans (yY4 ..) hn
  have ac:=hO.lt;have aj:=hb.size;clear a5 hO;by_cases hlt:k<r.es.length
  .obtain⟨x,hx⟩:∃x,r.es[k]?=some x:=⟨_,getElem?_eq_getElem hlt⟩;have HX:Hid (r.es[k]?=some x):=hx;clear hx;have zk:(k:Int)<(r.es.length:Int):=by omega
   have a4:Hid (∀n:Out wr,Below (w.heap.size+1) Wa n.u):=λn=>hb.trans (n.out.mono (by omega));have q1:∀n:Out wr,n.u.cell? ⟨w.heap.size,0,none⟩=some (.string lo):=λn=>(HC.out n.u (a4.out n)).1;have q2:∀n:Out wr,n.u.cell? ⟨w.heap.size,1,none⟩=some (.bool hh):=λn=>(HC.out n.u (a4.out n)).2.1;have q3:∀n:Out wr,n.u.cell? ⟨w.heap.size,2,none⟩=some (.string hi):=λn=>(HC.out n.u (a4.out n)).2.2.1;have q4:∀n:Out wr,n.u.cell? ⟨r.b,r.off+k*6,none⟩=some (.string x.row):=λn=>((HC.out n.u (a4.out n)).2.2.2.ents k x HX.out).1;have ab:Nonempty (Out wr):=⟨⟨wr,Below.refl _ _⟩⟩;go_upto_region 5 with fail;refine yAf (by kernel_rfl) (by kernel_rfl) ?_;repeat (go_big_quiet_step ((go_at_call 22;exact Calls.out_of (yDi lo hi x.row hh _))))
   refine wpQuiet_nil ?_;rintro wz ⟨⟨ah,a3⟩,rfl⟩;have a6:Below (w.heap.size+1) Wa wz:=hb.trans (a3.mono (by omega));have sz:=a3.size;obtain⟨d0,d1,d2,d3,d4,d5⟩:=(HC.out wz a6).2.2.2.ents k x HX.out;clear q1 q2 q3 q4 ab;cases hin:inR lo hh hi x.row
   .have H:Hid (fs=inP lo hh hi (r.es.take (k+1))/\OwnE wz (w.heap.size+1) g cp fs):=⟨by rw[xB5 HX.out hin];exact HR.1,HR.2.below a3 HR.2.lt.2⟩;go_wp2_with fail;go_roundw;case rel=>go_light;exact⟨k+1,g,cp,fs,by omega,by go_num,rfl,H.1,H.2,a6⟩
    case measure=>go_light;simp[intOf];omega
   .obtain⟨W2,a0⟩:=qE (wz.alloc (Obj.cells #[.string x.row,.string x.fam,.string x.qual,.int .u64 x.ts,.int .i64 x.kind,.string x.val] 64):World);have hb2:Below wz.heap.size wz W2:=by rw[a0];exact qB
    have ae:Hid (OwnE W2 (w.heap.size+1) g cp fs):=(HR.2.below a3 HR.2.lt.2).below hb2 (by have:=HR.2.lt.2;omega);have ag:Hid (yAe W2 wz.heap.size 0 [x]):=by rw[a0];exact yDj wz x
    have s2:=hb2.size;go_wp2_with (at_builtin;rw[<-a0];refine yCf _ rfl _ _ rfl (w.heap.size+1) g cp fs.length wz.heap.size 0 1 1 fs [x] rfl rfl rfl rfl ae.out ag.out ?hl ?hb ?_);case hl=>simp;omega
    case hb=>omega
    intro g' cp' w3 aa a8 al;have a7:W2.grownBy w3 (some g):=by rw[a0];exact a8
    have hb3:Below (w.heap.size+1) Wa w3:=(a6.trans (hb2.mono (by omega))).grown a7 (by omega) (λj hj=>by cases hj;exact ac.1);have H:Hid (fs++ [x]=inP lo hh hi (r.es.take (k+1))/\OwnE w3 (w.heap.size+1) g' cp' (fs++ [x])):=⟨by rw[yY3 HX.out hin];rw[<-HR.1],aa⟩;clear aa a8 a7 a0;go_wp2_with fail;go_roundw;case rel=>go_light;exact⟨k+1,g',cp',fs++ [x],by omega,by go_num,by simp,H.1,H.2,hb3⟩
    case measure=>go_light;simp[intOf];omega
  .have zk:¬(k:Int)<(r.es.length:Int):=by omega
   have H:Hid (fs=inP lo hh hi r.es):=by have h1:=HR.1;rw[take_of_length_le (by omega)]at h1;exact h1
   go_wp2_with fail;go_ret;refine⟨g,cp,(by rw[<-H.out];rfl),?_,a9.trans (hb.mono (by omega))⟩;rw[<-H.out];exact HR.2.mono (by omega)
end Go.Proofs.YtehfleefkdojpaaGreatDoor
