import Derived.Test.YtehfleefkdojpaaGreatDoorSkAI
import Derived.Test.YtehfleefkdojpaaGreatDoorSkAH
import Derived.Test.YtehfleefkdojpaaGreatDoorSkAJ
namespace Go.Proofs.YtehfleefkdojpaaGreatDoor
open Go.ChangeShapes Go.WideShapes Go.ChangeAt Go.RowKit Go.Deep _root_.List _root_.Nat Go.Maps Go.Proofs.Tryz
set_option linter.unusedVariables false
set_option linter.unusedSimpArgs false
set_option maxRecDepth 100000
set_option maxHeartbeats 16000000
theorem yOl(k:Int)(w:World):Calls prog 194 #[.int .i64 k] w λr w'=>r=.returned (.bool (yF2 k))/\w'=w:=by
 go_enter func194,ntmps194;go_wp2_with fail;all_goals go_ret
 all_goals exact⟨by(have e0:yF2 k=(k==11 || k==12 || k==13):=by simp only[yF2,Bool.decide_or,Bool.or_assoc];rfl);rw[e0];simp_all,rfl⟩
variable {w:World}
theorem EmAt.count{eb c:Nat}{v:Value}{X:List Ix}(h:EmAt w eb v X c)(c':Nat):EmTo w (w.setCell ⟨eb,1,none⟩ (.int .i64 (c':Int))) eb v v X c':=by have y:Chg (λb=>b=eb) w (w.setCell ⟨eb,1,none⟩ (.int .i64 (c':Int))):=Chg.of_set _ _ _ _ rfl;refine⟨⟨?_,h.row.chg y (λk hk q=>by have:=(h.row.blk hk).1;omega)⟩,y.mono (λk hk=>.inl hk),λk hk=>.inl hk⟩;have:=h.box.set 1 (.int .i64 (c':Int));simpa using this
theorem yS2{n:Nd}{k c:Nat}{f:Bool}(h:yF2 n.kind=false):absG k c [⟨1,0,0,f,n⟩]= [⟨1,0,0,f,n⟩]/\cntL [⟨1,0,0,f,n⟩]=0:=by simp[absG,fixI,cntL,cntI,h]
theorem yQh{n:Nd}{k c:Nat}{f:Bool}(h:yF2 n.kind=true):absG k c [⟨1,0,0,f,n⟩]= [⟨1,(c:Int),0,f,n⟩]/\cntL [⟨1,0,0,f,n⟩]=1:=by simp[absG,fixI,cntL,cntI,h]
def LfP(w:World)(eb c:Nat)(v:Value)(X:List Ix)(n:Nd)(s:Bool)(r:Ending)(w':World):Prop:=∃v',r=.returned (.bool (s || yF2 n.kind))/\EmTo w w' eb v v' (X++absG X.length c [⟨1,0,0, !s,n⟩]) (c+cntL [⟨1,0,0, !s,n⟩])
theorem yO4{eb c:Nat}{v:Value}{X:List Ix}(h:EmAt w eb v X c)(n:Nd)(s:Bool)(hl:X.length<=100000)(hc:c<=100000):Calls prog 138 #[.pointer (some ⟨eb,0,none⟩),n.v,.bool s] w (LfP w eb c v X n s):=by
 have HE:Hid (EmAt w eb v X c):=h;have HL:Hid (X.length<=100000):=hl;clear h hl;obtain⟨W1,aa⟩:=qE ((w.alloc (Obj.cells #[.int .i64 n.kind,.string n.s,.bool n.hi,.string n.t,.int .u64 n.lo,.int .u64 n.up,.int .i64 n.n] 35)).alloc (Obj.cells #[.int .i64 1,.int .i64 0,.int .i64 0,.bool (!s),.int .i64 n.kind,.string n.s,.bool n.hi,.string n.t,.int .u64 n.lo,.int .u64 n.up,.int .i64 n.n] 210):World);obtain⟨P1,ac⟩:=qE w.heap.size;obtain⟨P2,ab⟩:=qE (w.heap.size+1);have z1:(w.alloc (Obj.cells #[.int .i64 n.kind,.string n.s,.bool n.hi,.string n.t,.int .u64 n.lo,.int .u64 n.up,.int .i64 n.n] 35)).heap.size=w.heap.size+1:=by simp
 have y:Hid (yA W1 P1 35 7 P1 [.int .i64 n.kind,.string n.s,.bool n.hi,.string n.t,.int .u64 n.lo,.int .u64 n.up,.int .i64 n.n]/\yA W1 P2 210 11 P2 (Ix.ten ⟨1,0,0, !s,n⟩)/\Below w.heap.size w W1/\w.heap.size<=P2):=by have hb2:=yAa (w.alloc (Obj.cells #[.int .i64 n.kind,.string n.s,.bool n.hi,.string n.t,.int .u64 n.lo,.int .u64 n.up,.int .i64 n.n] 35)) (base:=w.heap.size+1) (t:=210) (sz:=11) #[.int .i64 1,.int .i64 0,.int .i64 0,.bool (!s),.int .i64 n.kind,.string n.s,.bool n.hi,.string n.t,.int .u64 n.lo,.int .u64 n.up,.int .i64 n.n] (by rw[z1];exact Nat.le_refl _) rfl;rw[z1]at hb2;rw[aa,ac,ab];exact⟨(yAa w _ (Nat.le_refl _) rfl).below (qB),hb2,(qB).alloc (by simp) _,by omega⟩
 clear z1;have a5:Hid (EmAt W1 eb v X c):=HE.below y.2.2.1;have ag:Hid (∀k,v.ownBlock=some k->k≠P2):=λk hk q=>by have:=(HE.row.blk hk).2;have:=y.2.2.2;omega
 have af:Hid (¬eb=P2):=λq=>by have:=HE.lt;have:=y.2.2.2;omega
 go_enter func138,ntmps138;go_upto_region 2 with fail;rw[<-aa,<-ab,<-ac];clear aa ac ab;have q0:W1.cell? ⟨P1,0,none⟩=some (.int .i64 n.kind):=y.1.cell (j:=0) rfl;go_wp2_with fail;refine(yOl n.kind W1).mono ?_;rintro r ah ⟨rfl,ae⟩;rw[ae];clear ae q0;obtain⟨ct,a8⟩:=qE (yF2 n.kind);rw[<-a8];have a6:Hid (ct=yF2 n.kind):=a8;clear a8;cases ct
 case false=>
  have HY:Hid (absG X.length c [⟨1,0,0, !s,n⟩]= [⟨1,0,0, !s,n⟩]/\cntL [⟨1,0,0, !s,n⟩]=0):=yS2 a6.symm;have d0:W1.cell? ⟨P2,0,none⟩=some (.int .i64 1):=y.2.1.cell (j:=0) rfl;have d1:W1.cell? ⟨P2,1,none⟩=some (.int .i64 0):=y.2.1.cell (j:=1) rfl;have d2:W1.cell? ⟨P2,2,none⟩=some (.int .i64 0):=y.2.1.cell (j:=2) rfl;have d3:W1.cell? ⟨P2,3,none⟩=some (.bool (!s)):=y.2.1.cell (j:=3) rfl;have d4:W1.cell? ⟨P2,4,none⟩=some (.int .i64 n.kind):=y.2.1.cell (j:=4) rfl;have d5:W1.cell? ⟨P2,5,none⟩=some (.string n.s):=y.2.1.cell (j:=5) rfl;have d6:W1.cell? ⟨P2,6,none⟩=some (.bool n.hi):=y.2.1.cell (j:=6) rfl;have d7:W1.cell? ⟨P2,7,none⟩=some (.string n.t):=y.2.1.cell (j:=7) rfl;have d8:W1.cell? ⟨P2,8,none⟩=some (.int .u64 n.lo):=y.2.1.cell (j:=8) rfl;have d9:W1.cell? ⟨P2,9,none⟩=some (.int .u64 n.up):=y.2.1.cell (j:=9) rfl;have ad:W1.cell? ⟨P2,10,none⟩=some (.int .i64 n.n):=y.2.1.cell (j:=10) rfl;go_wp2_with fail;refine(yRi a5.out ⟨1,0,0, !s,n⟩ HL.out).mono ?_;rintro r w2 ⟨rfl,v',hT⟩;have HR:Hid (LfP w eb c v X n s (.returned (.bool s)) w2):=by refine⟨v',by rw[<-a6.out];simp,?_⟩;rw[HY.1,HY.2];exact(EmTo.of_below HE.out y.2.2.1).trans hT
  clear hT d0 d1 d2 d3 d4 d5 d6 d7 d8 d9 ad;go_wp2_with fail;go_ret;exact HR.out
 case true=>
  have HY:Hid (absG X.length c [⟨1,0,0, !s,n⟩]= [⟨1,(c:Int),0, !s,n⟩]/\cntL [⟨1,0,0, !s,n⟩]=1):=yQh a6.symm;have q1:W1.cell? ⟨eb,1,none⟩=some (.int .i64 (c:Int)):=a5.box.cell (j:=1) rfl;have q2:W1.cell? ⟨P2,1,none⟩=some (.int .i64 0):=y.2.1.cell (j:=1) rfl;have f2:=y.2.1.frozen 1;obtain⟨W2,a3⟩:=qE (W1.setCell ⟨P2,1,none⟩ (.int .i64 (c:Int)):World);have a7:Chg (λb=>b=P2) W1 W2:=by rw[a3];exact Chg.of_set _ _ _ _ rfl
  have a4:Hid (EmAt W2 eb v X c/\yA W2 P2 210 11 P2 (Ix.ten ⟨1,(c:Int),0, !s,n⟩)/\Below w.heap.size w W2):=by
   refine⟨⟨a5.box.chg a7 af.out,a5.row.chg a7 (λk hk q=>ag.out k hk q)⟩,?_,?_⟩
   .rw[a3];exact y.2.1.set 1 _
   .rw[a3];exact yBb y.2.2.1 y.2.2.2 _ _
  clear a7;go_upto_region 4 with fail;rw[<-a3];clear a3 q1 q2 f2;have q1:W2.cell? ⟨eb,1,none⟩=some (.int .i64 (c:Int)):=a4.1.box.cell (j:=1) rfl;have f2:=a4.1.box.frozen 1;obtain⟨W3,a9⟩:=qE (W2.setCell ⟨eb,1,none⟩ (.int .i64 ((c:Int)+1)):World);have a0:Hid (EmTo W2 W3 eb v v X (c+1)/\yA W3 P2 210 11 P2 (Ix.ten ⟨1,(c:Int),0, !s,n⟩)):=by rw[a9];refine⟨by have:=a4.1.count (c+1);rwa [Int.natCast_add]at this,a4.2.1.beside (λq=>af.out q.symm) _ _⟩
  go_upto_region 5 with fail;rw[<-a9];clear a9 q1 f2;have d0:W3.cell? ⟨P2,0,none⟩=some (.int .i64 1):=a0.2.cell (j:=0) rfl;have d1:W3.cell? ⟨P2,1,none⟩=some (.int .i64 (c:Int)):=a0.2.cell (j:=1) rfl;have d2:W3.cell? ⟨P2,2,none⟩=some (.int .i64 0):=a0.2.cell (j:=2) rfl;have d3:W3.cell? ⟨P2,3,none⟩=some (.bool (!s)):=a0.2.cell (j:=3) rfl;have d4:W3.cell? ⟨P2,4,none⟩=some (.int .i64 n.kind):=a0.2.cell (j:=4) rfl;have d5:W3.cell? ⟨P2,5,none⟩=some (.string n.s):=a0.2.cell (j:=5) rfl;have d6:W3.cell? ⟨P2,6,none⟩=some (.bool n.hi):=a0.2.cell (j:=6) rfl;have d7:W3.cell? ⟨P2,7,none⟩=some (.string n.t):=a0.2.cell (j:=7) rfl;have d8:W3.cell? ⟨P2,8,none⟩=some (.int .u64 n.lo):=a0.2.cell (j:=8) rfl;have d9:W3.cell? ⟨P2,9,none⟩=some (.int .u64 n.up):=a0.2.cell (j:=9) rfl;have ad:W3.cell? ⟨P2,10,none⟩=some (.int .i64 n.n):=a0.2.cell (j:=10) rfl;go_wp2_with fail;refine(yRi a0.1.at_ ⟨1,(c:Int),0, !s,n⟩ HL.out).mono ?_;rintro r w2 ⟨rfl,v',hT⟩;have HR:Hid (LfP w eb c v X n s (.returned (.bool true)) w2):=by refine⟨v',by rw[<-a6.out];simp,?_⟩;rw[HY.1,HY.2];exact((EmTo.of_below HE.out a4.2.2).trans a0.1).trans hT
  clear hT d0 d1 d2 d3 d4 d5 d6 d7 d8 d9 ad;go_wp2_with fail;go_ret;exact HR.out
abbrev ptrV(p:Nat):Value:=.pointer (some ⟨p,0,none⟩)
abbrev xCr(n:Nd)(v:Value)(k:Int):List Value:= [.int .i64 n.kind,.string n.s,.bool n.hi,.string n.t,.int .u64 n.lo,.int .u64 n.up,.int .i64 n.n,v,.int .i64 k]
def BoxT(w:World)(base p:Nat)(n:Nd)(v:Value)(k:Int):Prop:=yA w base 206 9 p (xCr n v k)
def PRow(w:World)(base q cq:Nat)(ps:List Nat):Prop:=w.ownsRow base 117 1 (.slice (some ⟨q,0,none⟩) ps.length cq) ps.length (ps.map ptrV)
variable {base q cq:Nat} {ps:List Nat}
theorem PRow.chg{S:Nat->Prop}{w':World}(h:PRow w base q cq ps)(hc:Chg S w w')(hn:¬S q):PRow w' base q cq ps:=yAg h hc (λk hk=>by simp[Value.ownBlock]at hk;subst hk;exact hn)
theorem PRow.lt(h:PRow w base q cq ps):base<=q/\q<w.heap.size:=World.ownsRow.lt h q rfl
theorem PRow.cell(h:PRow w base q cq ps){j p:Nat}(hj:ps[j]?=some p):w.cell? ⟨q,j,none⟩=some (ptrV p):=by have hl:=(List.getElem?_eq_some_iff.1 hj).1;rw[World.ownsRow.cellAt h j (by omega),getElem?_map,hj];rfl
theorem PRow.caps(h:PRow w base q cq ps):ps.length<=cq/\cq<=maxLen:=by exact zzQ8
theorem Tryz.infoCt:(prog.info? 117).map (λi=>(i.zero,i.size,i.bytes))=some (some (.pointer none),1,8):=by kernel_rfl
structure AppC(w w':World)(base g n cp:Nat)(ps qs:List Nat)(g' cp':Nat):Prop where
 own:PRow w' base g' cp' (ps++qs)
 grown:w.grownBy w' (some g)
 at_:g'=g\/g'=w.heap.size
variable {g:Nat}
theorem yO0{w':World}{v':Value}{cp m:Nat}{qs:List Nat}(hO':w'.ownsRow base 117 1 v' (ps.length+m) (ps.map ptrV++qs.map ptrV))(hm:m=qs.length)(hgr:w.grownBy w' (some g))(hnil:v'=.slice none 0 0↔(Value.slice (some ⟨g,0,none⟩) ps.length cp)=.slice none 0 0/\m=0)(hat:v'.ownBlock=some g\/v'.ownBlock=some w.heap.size):∃g' cp',v'=.slice (some ⟨g',0,none⟩) (ps.length+m) cp'/\AppC w w' base g ps.length cp ps qs g' cp':=by
 subst hm;rcases hO'.2 with⟨h0,_⟩|⟨g',y,cur,hv,_,_,hn,a0,_,_⟩
 .have:=(hnil.1 h0).1;cases this
 .subst hv;refine⟨g',y,rfl,⟨?_,hgr,?_⟩⟩
  .unfold PRow;rw[length_append,map_append];exact hO'
  .simp[Value.ownBlock]at hat;exact hat
theorem yT1(qs:List Nat):∀u∈qs.map ptrV,u.oneCell'=true:=by intro u hu;obtain⟨p,_,rfl⟩:=List.mem_map.1 hu;rfl
variable {ops:Array Oper} {a:Act} {Q:Exit->Act->World->Prop}
theorem yIi{rest:List Oper}{o:Oper}(w:World)(hgd:o.guard=none)(s x:Operand)
  (ho:o.op=.call {callee:=.builtin .append,args:=#[s,x],argTypes:=#[204,204]})
  (base g cp n b off m cx:Nat) (ps qs:List Nat) (hs:a.eval s=.slice (some ⟨g,0,none⟩) n cp) (hx:a.eval x=.slice (some ⟨b,off,none⟩) m cx) (hn:n=ps.length) (hm:m=qs.length) (hO:PRow w base g cp ps)
  (hc:∀j p,qs[j]?=some p->w.cell? ⟨b,off+j,none⟩=some (ptrV p)) (hlen:ps.length+qs.length<=2^30) (hbase:base<=w.heap.size)
  (h:∀g' cp' w',AppC w w' base g n cp ps qs g' cp'->wpList prog ops Q rest (a.put o.dst (.slice (some ⟨g',0,none⟩) (n+m) cp')) w'):wpList prog ops Q (o::rest) a w:=by
 subst hn;obtain⟨i,hi,a3,a0,y⟩:=info_parts Tryz.infoCt;refine wpList_append_own_at w hgd s x 204 ho base 117 i _ 1 8 underlying204 hi a3 a0 y rfl (by decide) (.slice (some ⟨g,0,none⟩) ps.length cp) ps.length (ps.map ptrV) hs hO ⟨b,off,none⟩ m cx (qs.map ptrV) hx (by simp[hm]) (λj u hu=>?_) (yT1 qs) ?_ ?_ hbase ?_
 .rw[getElem?_map]at hu;rw[Addr.add_mid];cases hq:qs[j]? with
  |none=>rw[hq]at hu;cases hu
  |some p=>rw[hq]at hu;cases hu;exact hc j p hq
 .unfold maxLen;omega
 .omega
 .intro v' w' a7 a5 a4 a6;obtain⟨g',cp',rfl,hA⟩:=yO0 a7 hm a5 a4 a6;exact h g' cp' w' hA
variable {oo:Oper} {K:Act->World->Prop} {E:Prop}
theorem yKh(w:World)(hgd:oo.guard=none)(s x:Operand)
  (ho:oo.op=.call {callee:=.builtin .append,args:=#[s,x],argTypes:=#[204,204]})
  (base g cp n b off m cx:Nat) (ps qs:List Nat) (hs:a.eval s=.slice (some ⟨g,0,none⟩) n cp) (hx:a.eval x=.slice (some ⟨b,off,none⟩) m cx) (hn:n=ps.length) (hm:m=qs.length) (hO:PRow w base g cp ps)
  (hc:∀j p,qs[j]?=some p->w.cell? ⟨b,off+j,none⟩=some (ptrV p)) (hlen:ps.length+qs.length<=2^30) (hbase:base<=w.heap.size)
  (h:∀g' cp' w',AppC w w' base g n cp ps qs g' cp'->K (a.put oo.dst (.slice (some ⟨g',0,none⟩) (n+m) cp')) w'):if Region.wanted oo (yielded ops a.tmps)=true then Oper.wp prog oo a w K Q else E:=by
 have hw:Region.wanted oo (yielded ops a.tmps)=true:=by simp[Region.wanted,hgd]
 rw[if_pos hw];subst hn;obtain⟨i,hi,a3,a0,y⟩:=info_parts Tryz.infoCt;obtain⟨v',w',hr,a7,a5,a4,a6⟩:=run_append_own_at (P:=prog) w base 204 oo.type 117 i _ 1 8 underlying204 hi a3 a0 y rfl (by decide) (.slice (some ⟨g,0,none⟩) ps.length cp) ps.length (ps.map ptrV) hO ⟨b,off,none⟩ m cx (qs.map ptrV) (by simp[hm]) (λj u hu=>by
  rw[getElem?_map]at hu
  rw[Addr.add_mid]
  cases hq:qs[j]? with
  |none=>rw[hq]at hu;cases hu
  |some p=>rw[hq]at hu;cases hu;exact hc j p hq) (yT1 qs) (by unfold maxLen;omega) (by omega) hbase
 obtain⟨g',cp',rfl,hA⟩:=yO0 a7 hm a5 a4 a6;have hfin:=h g' cp' w' hA;exact yS4
def CtP(e:Nd)(ps:List Nat)(w:World)(r:Ending)(w':World):Prop:=∃p q cq,r=.returned (ptrV p)/\BoxT w' w.heap.size p e (.slice (some ⟨q,0,none⟩) ps.length cq) 0/\PRow w' w.heap.size q cq ps/\Below w.heap.size w w'
theorem yJ7(e:Nd)(b off m cx:Nat)(ps:List Nat)(w:World)(hm:m=ps.length)(hl:ps.length<=1000)(hb:b<w.heap.size)(hc:∀j p,ps[j]?=some p->w.cell? ⟨b,off+j,none⟩=some (ptrV p)):Calls prog 78 #[e.v,.slice (some ⟨b,off,none⟩) m cx] w (CtP e ps w):=by
 have HC:Hid (m=ps.length/\∀wx,Below w.heap.size w wx->∀j p,ps[j]?=some p->wx.cell? ⟨b,off+j,none⟩=some (ptrV p)):=⟨hm,λwx hx j p hp=>by rw[hx.cell (p:=⟨b,off+j,none⟩) hb];exact hc j p hp⟩;clear hc hm;obtain⟨W0,a7⟩:=qE (w.alloc (Obj.cells #[.int .i64 e.kind,.string e.s,.bool e.hi,.string e.t,.int .u64 e.lo,.int .u64 e.up,.int .i64 e.n] 35):World);obtain⟨P0,ab⟩:=qE w.heap.size;have a6:Below w.heap.size w W0:=by rw[a7];exact qB
 have y:Hid (yA W0 P0 35 7 P0 [.int .i64 e.kind,.string e.s,.bool e.hi,.string e.t,.int .u64 e.lo,.int .u64 e.up,.int .i64 e.n]):=by rw[a7,ab];exact yAa w _ (Nat.le_refl _) rfl
 have aa:SW (λw':World=>w'.cell? ⟨P0,0,none⟩=some (.int .i64 e.kind)/\w'.cell? ⟨P0,1,none⟩=some (.string e.s)/\w'.cell? ⟨P0,2,none⟩=some (.bool e.hi)/\w'.cell? ⟨P0,3,none⟩=some (.string e.t)/\w'.cell? ⟨P0,4,none⟩=some (.int .u64 e.lo)/\w'.cell? ⟨P0,5,none⟩=some (.int .u64 e.up)/\w'.cell? ⟨P0,6,none⟩=some (.int .i64 e.n)) W0.drew:=⟨y.cell (j:=0) rfl,y.cell (j:=1) rfl,y.cell (j:=2) rfl,y.cell (j:=3) rfl,y.cell (j:=4) rfl,y.cell (j:=5) rfl,y.cell (j:=6) rfl⟩;go_enter func78,ntmps78;go_upto_region 1 with fail;rw[<-a7,<-ab];clear a7 ab;refine wpR 99 aa ?_;refine j3a 0 aa ?_;refine j3a 2 aa ?_;obtain⟨V1,a9⟩:=qE ((W0.alloc (Obj.cells #[] 117)).drew:World);obtain⟨G1,ad⟩:=qE W0.heap.size;have a0:Below W0.heap.size W0 V1:=by rw[a9];exact(qB).drew
 have k1:Below w.heap.size w V1:=a6.trans (a0.mono a6.size);have ah:Hid (PRow V1 W0.heap.size G1 0 []):=by rw[a9,ad];have h9:PRow (W0.alloc (Obj.cells #[] 117)) W0.heap.size W0.heap.size 0 []:=World.ownsRow_lit W0 #[] 0 (Nat.le_refl _) (by decide) (by decide);exact h9.chg (S:=λ_=>False) (Chg.of_below ((Below.refl _ _).drew)) (λq=>q)
 have ag:=SWm aa V1 <|⟨by rw[a0.cell (p:=⟨P0,0,none⟩) y.lt.2];exact y.cell (j:=0) rfl,by rw[a0.cell (p:=⟨P0,1,none⟩) y.lt.2];exact y.cell (j:=1) rfl,by rw[a0.cell (p:=⟨P0,2,none⟩) y.lt.2];exact y.cell (j:=2) rfl,by rw[a0.cell (p:=⟨P0,3,none⟩) y.lt.2];exact y.cell (j:=3) rfl,by rw[a0.cell (p:=⟨P0,4,none⟩) y.lt.2];exact y.cell (j:=4) rfl,by rw[a0.cell (p:=⟨P0,5,none⟩) y.lt.2];exact y.cell (j:=5) rfl,by rw[a0.cell (p:=⟨P0,6,none⟩) y.lt.2];exact y.cell (j:=6) rfl⟩;have ai:Hid (yA V1 P0 35 7 P0 [.int .i64 e.kind,.string e.s,.bool e.hi,.string e.t,.int .u64 e.lo,.int .u64 e.up,.int .i64 e.n]/\W0.heap.size<=V1.heap.size/\w.heap.size<=W0.heap.size):=⟨y.below a0,a0.size,a6.size⟩;refine qO 1 rfl λK hK=>?_;go_simp;rw[<-a9,<-ad];clear a9 ad;refine hK.out _ _ (.inr ag) ?_;clear hK;refine jS ?_;refine qO 3 rfl λK hK=>?_;refine yKh _ rfl _ _ rfl W0.heap.size G1 0 0 b off m cx [] ps rfl rfl rfl HC.1 ah.out (HC.2 V1 k1) (by simp;omega) ai.2.1 ?_;intro g2 c2 w2 ae;have a5:Below W0.heap.size W0 w2:=by have h1:Chg (λb=>W0.heap.size<=b) V1 w2:=Chg.of_grown ae.grown (λj hj=>by cases hj;exact ah.lt.1);exact Chg.below a0 h1 ai.2.1 (λj hj=>hj)
 have a4:Hid (PRow w2 W0.heap.size g2 c2 ps/\Below W0.heap.size W0 w2):=⟨ae.own,a5⟩;have a3:=SWm ag w2 <|⟨by rw[a5.cell (p:=⟨P0,0,none⟩) y.lt.2];exact y.cell (j:=0) rfl,by rw[a5.cell (p:=⟨P0,1,none⟩) y.lt.2];exact y.cell (j:=1) rfl,by rw[a5.cell (p:=⟨P0,2,none⟩) y.lt.2];exact y.cell (j:=2) rfl,by rw[a5.cell (p:=⟨P0,3,none⟩) y.lt.2];exact y.cell (j:=3) rfl,by rw[a5.cell (p:=⟨P0,4,none⟩) y.lt.2];exact y.cell (j:=4) rfl,by rw[a5.cell (p:=⟨P0,5,none⟩) y.lt.2];exact y.cell (j:=5) rfl,by rw[a5.cell (p:=⟨P0,6,none⟩) y.lt.2];exact y.cell (j:=6) rfl⟩;clear ae a0;refine hK.out _ _ (.inr a3) ?_;clear hK;refine jS ?_;simp only[Nat.zero_add];refine j3a 4 a3 ?_;obtain⟨V3,a8⟩:=qE (w2.alloc (Obj.cells #[.int .i64 e.kind,.string e.s,.bool e.hi,.string e.t,.int .u64 e.lo,.int .u64 e.up,.int .i64 e.n,.slice (some ⟨g2,0,none⟩) m c2,.int .i64 0] 206):World);obtain⟨G3,ac⟩:=qE w2.heap.size;have hb3:Below w2.heap.size w2 V3:=by rw[a8];exact qB
 have HR:Hid (CtP e ps w (.returned (ptrV G3)) V3):=by
  have h1:=a4.2.size;have h2:=a6.size;refine⟨G3,g2,c2,rfl,?_,?_,(a6.trans (a4.2.mono h2)).trans (hb3.mono (by omega))⟩
  .rw[a8,ac,<-HC.1];exact yAa w2 _ (by omega) rfl
  .have h9:PRow V3 W0.heap.size g2 c2 ps:=a4.1.chg (S:=λ_=>False) (Chg.of_below hb3) (λq=>q);refine⟨h9.1,?_⟩;rcases h9.2 with hn|⟨g',aj,cur,hv,h3,rest⟩
   .exact .inl hn
   .exact .inr ⟨g',aj,cur,hv,Nat.le_trans h2 h3,rest⟩
 have af:=SWm a3 V3 <|⟨by rw[hb3.cell (p:=⟨P0,0,none⟩) (by show P0<_;have:=y.lt.2;have:=a4.2.size;omega)];exact a3.1,by rw[hb3.cell (p:=⟨P0,1,none⟩) (by show P0<_;have:=y.lt.2;have:=a4.2.size;omega)];exact a3.2.1,by rw[hb3.cell (p:=⟨P0,2,none⟩) (by show P0<_;have:=y.lt.2;have:=a4.2.size;omega)];exact a3.2.2.1,by rw[hb3.cell (p:=⟨P0,3,none⟩) (by show P0<_;have:=y.lt.2;have:=a4.2.size;omega)];exact a3.2.2.2.1,by rw[hb3.cell (p:=⟨P0,4,none⟩) (by show P0<_;have:=y.lt.2;have:=a4.2.size;omega)];exact a3.2.2.2.2.1,by rw[hb3.cell (p:=⟨P0,5,none⟩) (by show P0<_;have:=y.lt.2;have:=a4.2.size;omega)];exact a3.2.2.2.2.2.1,by rw[hb3.cell (p:=⟨P0,6,none⟩) (by show P0<_;have:=y.lt.2;have:=a4.2.size;omega)];exact a3.2.2.2.2.2.2⟩;refine qO 5 rfl λK hK=>?_;go_simp;rw[<-a8,<-ac];clear a8 ac;refine hK.out _ _ (.inr af) ?_;clear hK;refine jS ?_;refine qO 6 rfl λK hK=>?_;go_simp;refine hK.out _ _ (.inr af) ?_;clear hK;refine jS ?_;refine qD ?_;go_wp2_with fail;go_ret;exact HR.out
section
section
variable {α:Type} {f:α->List Value} {sz:Nat}
def OwnG(f:α->List Value)(sz ty:Nat)(w:World)(base g cap:Nat)(es:List α):Prop:=w.ownsRow base ty sz (.slice (some ⟨g,0,none⟩) es.length cap) es.length (es.flatMap f)
variable {ty:Nat}
end
section
variable {α:Type} {f:α->List Value} {sz ty:Nat}
def yPj(w:World)(g:Nat):Nat->List Value->World
 |_,[]=>w
 |o,v::vs=>yPj (w.setCell ⟨g,o,none⟩ v) g (o+1) vs
def setL:List Value->Nat->List Value->List Value
 |L,_,[]=>L
 |L,o,v::vs=>setL (L.set o v) (o+1) vs
theorem yQp:∀(vs:List Value)(L:List Value)(o j:Nat),(setL L o vs)[j]?=if o<=j/\j<o+vs.length/\j<L.length then vs[j-o]? else L[j]?
 | [],L,o,j=>by rw[setL,if_neg (by simp;omega)]
 |v::vs,L,o,j=>by
  rw[setL,yQp vs,length_set,length_cons]
  by_cases h1:j=o
  .subst h1
   rw[if_neg (by omega)]
   by_cases h2:j<L.length
   .rw[if_pos ⟨Nat.le_refl _,by omega,h2⟩,Nat.sub_self];simp[h2]
   .rw[if_neg (by omega)];simp[h2]
  .by_cases h2:o+1<=j/\j<o+1+vs.length/\j<L.length
   .rw[if_pos h2,if_pos (by omega),show j-o=(j-(o+1))+1 by omega,getElem?_cons_succ]
   .rw[if_neg h2,if_neg (by omega),getElem?_set_ne (λq=>h1 q.symm)]
theorem yOx{S:Nat->Prop}(g:Nat)(hs:S g):∀(vs:List Value)(o:Nat)(w:World),Chg S w (yPj w g o vs)
 | [],o,w=>Chg.of_below (Below.refl _ _)
 |v::vs,o,w=>(Chg.of_set w g o v hs).trans (yOx g hs vs (o+1) _)
theorem yNs{n:Nat}{v:Value}(hv:v.ownBlock=some g)(hv0:∃c,v=.slice (some ⟨g,0,none⟩) n c):∀(vs:List Value)(o:Nat)(w:World)(L:List Value),w.ownsRow base ty sz v n L->(yPj w g o vs).ownsRow base ty sz v n (setL L o vs)
 | [],o,w,L,h=>h
 |x::vs,o,w,L,h=>by
  obtain⟨c,rfl⟩:=hv0
  exact yNs hv ⟨c,rfl⟩ vs (o+1) _ _ (World.ownsRow.stored h o x).1
end
theorem yIj{α:Type}{f:α->List Value}{sz ty:Nat}{rest:List Oper}{o:Oper}(hf:∀x,(f x).length=sz)(w:World)(hgd:o.guard=none)(s x:Operand)(sty:Nat)
  (ho:o.op=.call {callee:=.builtin .append,args:=#[s,x],argTypes:=#[sty,sty]}) (hst:prog.underlying sty=some (.slice ty)) {z:Value} {bytes:Nat} (hin:(prog.info? ty).map (λi=>(i.zero,i.size,i.bytes))=some (some z,sz,bytes)) (hz:z.cells.size=sz) (hsz:0<sz) (hby:bytes<=1000)
  (h1:∀x,∀u∈f x,u.oneCell'=true)
  (base:Nat) (v:Value) (b cx:Nat) (fs:List α) (e:α) (hs:a.eval s=v) (hx:a.eval x=.slice (some ⟨b,0,none⟩) 1 cx) (hO:w.ownsRow base ty sz v fs.length (fs.flatMap f))
  (hc:∀j u,(f e)[j]?=some u->w.cell? ⟨b,j,none⟩=some u) (hlen:fs.length<=1000000) (hbase:base<=w.heap.size)
  (h:∀g' cp' w',OwnG f sz ty w' base g' cp' (fs++ [e])->w.grownBy w' v.ownBlock->(v.ownBlock=some g'\/g'=w.heap.size)->wpList prog ops Q rest (a.put o.dst (.slice (some ⟨g',0,none⟩) (fs.length+1) cp')) w'):wpList prog ops Q (o::rest) a w:=by
 obtain⟨i,hi,a4,a3,a0⟩:=info_parts hin;refine wpList_append_own_at w hgd s x sty ho base ty i _ sz bytes hst hi a4 a3 a0 hz hsz v fs.length (fs.flatMap f) hs hO ⟨b,0,none⟩ 1 cx (f e) hx (by rw[hf];omega) (λj u hu=>by rw[Addr.add_mid,Nat.zero_add];exact hc j u hu) (h1 e) ?_ ?_ hbase ?_
 .unfold maxLen;omega
 .have:=Nat.mul_le_mul (show fs.length+1<=1000001 by omega) hby;omega
 .intro v' w' y a6 a5 a7;rcases y.2 with⟨h0,_⟩|⟨g',a8,cur,hv,_,_,hn,a9,_,_⟩
  .have:=(a5.1 h0).2;cases this
  .subst hv;refine h g' a8 w' ?_ a6 ?_
   .unfold OwnG;rw[length_append,length_singleton,flatMap_append,flatMap_singleton];exact y
   .rcases a7 with q|q
    .exact .inl q.symm
    .simp[Value.ownBlock]at q;exact .inr q
end
def yVz(w:World)(tb:List Tb)(row:ByteArray)(e:Ending)(w':World):Prop:=∃out,CmsT tb row out/\yBy w out e w'
theorem yEu(b off cap:Nat)(ts:List Tm)(row:ByteArray)(w:World)(h:yA2 w b off ts)(hok:okTs ts)(hB:b<w.heap.size)(hn:ts.length<=1048576)(hs:∀t∈ts,t.l.length<=1048576/\totM t.l<=1048576):
  Calls prog 33 #[.agg #[.slice (some ⟨b,off,none⟩) ts.length cap],.string row] w λe w'=>yVz w (tbs ts) row e w':=by
 obtain⟨Wa,a4⟩:=qE ((w.alloc (Obj.cells #[.slice (some ⟨b,off,none⟩) ts.length cap] 28)).alloc (Obj.cells #[.slice none 0 0] 28):World);have ae:Below w.heap.size w Wa:=by rw[a4];exact(qB).alloc (by simp) _
 have aN:Wa.heap.size=w.heap.size+1+1:=by rw[a4];simp
 have a3:Hid (∀wx,Below Wa.heap.size Wa wx->wx.cell? ⟨w.heap.size,0,none⟩=some (.slice (some ⟨b,off,none⟩) ts.length cap)/\wx.cell? ⟨w.heap.size+1,0,none⟩=some (.slice none 0 0)/\wx.frozen? ⟨w.heap.size+1,0,none⟩=false/\yA2 wx b off ts/\b<wx.heap.size):=by
  intro wx hx;have sx:=hx.size;refine⟨?_,?_,?_,(h.below ae hB).below hx (by omega),by omega⟩
  .rw[hx.cell (p:=⟨w.heap.size,0,none⟩) (by show w.heap.size<Wa.heap.size;omega),a4];simp[go_sem]
  .rw[hx.cell (p:=⟨w.heap.size+1,0,none⟩) (by show w.heap.size+1<Wa.heap.size;omega),a4];simp[go_sem]
  .rw[hx.frozen (p:=⟨w.heap.size+1,0,none⟩) (by show w.heap.size+1<Wa.heap.size;omega),a4];simp[go_sem]
 have HS:Hid (okTs ts/\∀t∈ts,t.l.length<=1048576/\totM t.l<=1048576):=⟨hok,hs⟩;have aK:Hid (∀W,Below Wa.heap.size Wa W->Calls prog 50 #[.agg #[.slice (some ⟨b,off,none⟩) ts.length cap]] W λe w'=>∃(va:Option Addr)(vn vc:Nat),e=.returned (.agg #[.slice va vn vc])/\w'.cell? ⟨w.heap.size+1,0,none⟩=some (.slice none 0 0)/\w'.frozen? ⟨w.heap.size+1,0,none⟩=false/\Hid (yBy w (tbs ts) (.returned (.agg #[.slice va vn vc])) (w'.setCell ⟨w.heap.size+1,0,none⟩ (.slice va vn vc)))):=by intro W hW;obtain⟨_,_,_,hT,ag⟩:=a3.out W hW;have sW:=hW.size;refine(yBz b off cap ts W hT ag hn HS.2).mono ?_;rintro e w3 ⟨v,xs,rfl,hS,hx,hb3⟩;have a5:Below Wa.heap.size Wa w3:=hW.trans (hb3.mono sW);obtain⟨_,q1,q2,_⟩:=a3.out w3 a5;obtain⟨va,vn,vc,rfl,hc⟩:=yL2 (w:=w) (R:=w.heap.size+1) (by omega) (by omega) hS (ae.trans (a5.mono (by omega)));rw[hx]at hc;exact⟨va,vn,vc,rfl,q1,q2,hc⟩
 clear h hok hs;obtain⟨c0,_,_,aA,aY⟩:=a3.out Wa (Below.refl _ _);have b4:Hid (yA2 Wa b off ts):=aA;clear aA;go_enter func33,ntmps33;go_upto_region 1 with fail;rw[<-a4];clear a4;go_wp2_with fail;refine(yA4 b off cap ts _ b4.out HS.1 aY hn).mono ?_;rintro e w1 ⟨r,rfl,hr,hb1⟩;have HR:Hid (r=true↔GoodS (tbs ts)):=hr;have s1:=hb1.size;clear hr c0;obtain⟨c0,_,_,az,aX⟩:=a3.out w1 hb1;have b3:Hid (yA2 w1 b off ts):=az;clear az;cases r
 .have H:Hid (CmsT (tbs ts) row (tbs ts)):=yQ9 (λq=>Bool.noConfusion (HR.2 q));go_wp2_with fail;refine(aK.out _ hb1).mono ?_;exact xAi
 have HG:Hid (GoodS (tbs ts)):=HR.1 rfl;obtain⟨i,hi⟩:=yB9 HG.out row;have HI:Hid (yBp (tbs ts) row i):=hi;have aT:i<ts.length:=by have:=hi.1;rw[yAy]at this;exact this
 have bf:ts.length<=100:=by have:=HG.le;rw[yAy]at this;exact this
 clear hi;go_wp2_with fail;refine(yDx b off cap ts row i _ b3.out aX hn HI.out).mono ?_;rintro e w2 ⟨rfl,aw⟩;have hb2:Below Wa.heap.size Wa w2:=hb1.trans (aw.mono s1);have s2:=hb2.size;clear aw c0;obtain⟨c0,_,_,ay,bi⟩:=a3.out w2 hb2;have b0:Hid (yA2 w2 b off ts):=ay;clear ay;have bd:IntKind.i64.wrap ((i:Int)+1)=(i:Int)+1:=by rw[IntKind.wrap_i64];omega
 obtain⟨t,ht⟩:∃t,ts[i]?=some t:=⟨_,getElem?_eq_getElem aT⟩;have aZ:Hid (ts[i]?=some t):=ht;have aF:Hid ((tbs ts)[i]?=some t.tb):=by show(tbs ts)[i]?=some t.tb;rw[yBq,ht];rfl
 have aH:Hid (okM t.l/\t.l.length<=1048576):=⟨(HS.1 t (mem_of_getElem? ht)).ents,(HS.2 t (mem_of_getElem? ht)).1⟩;clear ht;have HK:Hid (∀w',Below Wa.heap.size Wa w'->w'.cell? ⟨w.heap.size,0,none⟩=some (.slice (some ⟨b,off,none⟩) ts.length cap)/\w'.cell? ⟨b,off+i*2,none⟩=some (.string t.lo)/\w'.cell? ⟨b,off+i*2+1,none⟩=some (.slice (some ⟨t.b,t.off,none⟩) t.l.length t.cap)/\t.at w'):=by intro w' aO;obtain⟨k0,_,_,kT,_⟩:=a3.out w' aO;obtain⟨k1,k2,k3⟩:=kT i t aZ.out;exact⟨k0,k1,k2,k3⟩
 have z1:(i:Int)<(ts.length:Int):=by omega
 obtain⟨d0,d1,d2,ax⟩:=HK.out w2 hb2;have aL:Hid (t.at w2):=ax;clear ax b0;go_wp2_with fail;refine(yEl t.b t.off t.cap t.l ⟨#[]⟩ ⟨#[]⟩ false _ aL.rms aH.1 aL.lt aH.2).mono ?_;rintro e v1 ⟨gc,cc,L,rfl,aC,aq,bg,hM⟩;have k1:Below Wa.heap.size Wa v1:=hb2.trans (aq.mono s2);have ab:Hid (OwnC v1 w2.heap.size gc cc L/\yBo t.tb.rs allR L):=⟨aC,hM⟩;have am:=k1.size;clear aC hM d0 d1 d2 aq c0;by_cases hbig:10000<L.length
 .have H:Hid (CmsT (tbs ts) row (tbs ts)):=yOr HG.out HI.out aF.out ab.2 hbig;have zf:(10000:Int)<(L.length:Int):=by omega
  obtain⟨k0,_⟩:=HK.out v1 k1;go_wp2_with fail;refine(aK.out _ k1).mono ?_;exact xAi
 have zf:¬(10000:Int)<(L.length:Int):=by omega
 obtain⟨W2,a9⟩:=qE (v1.alloc (Obj.cells #[] 60):World);have au:Below v1.heap.size v1 W2:=by rw[a9];exact qB
 have bb:W2.heap.size=v1.heap.size+1:=by rw[a9];simp
 have ad:Below Wa.heap.size Wa W2:=k1.trans (au.mono am);have al:Hid (yBt W2 Wa.heap.size (.slice (some ⟨v1.heap.size,0,none⟩) 0 0) [] []):=by have h1:=yEv v1 Wa.heap.size am;rw[<-a9]at h1;exact⟨h1,λr hr=>by simp at hr,rfl⟩
 have b8:Hid (OwnC W2 w2.heap.size gc cc L):=ab.1.below au ab.1.lt.2;go_upto_region 8 with fail;rw[<-a9];clear a9;go_upto_if 32 with fail;go_cut[7] (λo wx=>∃(g cp n:Nat)(rs:List Rw),o=.slice (some ⟨g,0,none⟩) n cp/\Hid (n=rs.length/\yBt wx Wa.heap.size (.slice (some ⟨g,0,none⟩) n cp) rs (yBi L))/\Below Wa.heap.size Wa wx);case first=>
  by_cases hp:0<L.length
  .have zp:(0:Int)<(L.length:Int):=by omega
   go_wp2_with fail;refine(yNq gc cc L w2.heap.size _ b8.out (by omega)).mono ?_;rintro e v3 ⟨g1,a7,rfl,aB,hb3⟩;have k3:Below W2.heap.size W2 v3:=hb3;have ak:Hid (OwnE v3 W2.heap.size g1 a7 (L.map putE)):=aB;obtain⟨fs,aa⟩:=qE (L.map putE);have b7:Hid (fs=L.map putE):=aa;have aJ:Hid (L.length=fs.length):=by show _=_;rw[aa];simp
   rw[<-aa]at ak;clear aa aB;have s3:=k3.size;obtain⟨W5,a8⟩:=qE (v3.alloc (Obj.cells #[.slice (some ⟨g1,0,none⟩) L.length a7] 60):World);have af:Below v3.heap.size v3 W5:=by rw[a8];exact qB
   have k5:Below W2.heap.size W2 W5:=k3.trans (af.mono s3);have aG:Hid (W5.ownsRow Wa.heap.size 60 1 (.slice (some ⟨v1.heap.size,0,none⟩) 0 0) (([]:List Rw).map Rw.u).length (([]:List Rw).map Rw.u)):=(al.below k5).row;have b6:Hid (∀j u,[Value.slice (some ⟨g1,0,none⟩) L.length a7][j]?=some u->W5.cell? ⟨v3.heap.size,0+j,none⟩=some u):=by rw[a8];exact yCd
   have s5:=af.size;go_wp2_with (at_builtin;rw[<-a8];refine yA8 _ rfl _ _ rfl Wa.heap.size (.slice (some ⟨v1.heap.size,0,none⟩) 0 0) [] v3.heap.size 0 1 1 [.slice (some ⟨g1,0,none⟩) L.length a7] rfl rfl rfl aG.out b6.out ?h1 ?hl ?hb ?_);case h1=>(intro u hu;simp at hu;subst hu;rfl)
   case hl=>simp
   case hb=>omega
   intro v' w3 ai;obtain⟨g3,a0,rfl⟩:=ai.form (by intro q;cases q);have ah:AppR W5 w3 Wa.heap.size (.slice (some ⟨v1.heap.size,0,none⟩) 0 0) (.slice (some ⟨g3,0,none⟩) 1 a0) (([]:List Rw).map Rw.u) [.slice (some ⟨g1,0,none⟩) L.length a7]:=by rw[a8,aN];exact ai
   have aI:Hid (yBt w3 Wa.heap.size (.slice (some ⟨g3,0,none⟩) 1 a0) [⟨.slice (some ⟨g1,0,none⟩) L.length a7,fs,some g1⟩] (yBi L)/\Below Wa.heap.size Wa w3):=by
    have aE:=ah;rw[aJ.out]at aE;have h1:=al.snoc k5 ((ak.mono (by omega)).below af ak.lt.2) aE;have e1:yBi L= []++ [fs]:=by unfold yBi;rw[if_neg (by omega),b7.out];rfl
    rw[e1,aJ.out];exact⟨h1,(ad.trans (k5.mono ad.size)).grown ah.grown (by omega) (λj hj=>yCl aG.out j hj)⟩
   clear ai ah a8;go_wp2_with fail;go_meet;exact⟨g3,a0,_,_,rfl,⟨rfl,aI.1⟩,aI.2⟩
  .have zp:¬(0:Int)<(L.length:Int):=by omega
   have e1:Hid (yBi L= []):=by show _=_;unfold yBi;rw[if_pos (by omega)]
   go_wp2_with fail;go_meet;exact⟨v1.heap.size,0,0,[],rfl,⟨rfl,by rw[e1.out];exact al.out⟩,ad⟩
 case rest=>
 obtain⟨g3,a0,N3,rs,rfl,b9,ar⟩:=hcut;have ac:Hid (yBt wc Wa.heap.size (.slice (some ⟨g3,0,none⟩) N3 a0) rs (yBi L)/\Below Wa.heap.size Wa wc):=⟨b9.2,ar⟩;obtain⟨k0,aM,_⟩:=HK.out wc ar
 have b5:Hid (∀(X:World)(ob:Nat),Below Wa.heap.size Wa X->ob<X.heap.size->yAw X Wa.heap.size [⟨t.lo,.slice (some ⟨g3,0,none⟩) N3 a0,rs⟩]->X.cell? ⟨ob,0,none⟩=some (.string t.lo)->X.cell? ⟨ob,1,none⟩=some (.slice (some ⟨g3,0,none⟩) N3 a0)->
   Calls prog 73 #[.agg #[.slice (some ⟨b,off,none⟩) ts.length cap],.int .i64 i,.int .i64 ((i:Int)+1),.slice (some ⟨ob,0,none⟩) 1 1] X λe w'=>∃(va:Option Addr)(vn vc:Nat),e=.returned (.agg #[.slice va vn vc])/\w'.cell? ⟨w.heap.size+1,0,none⟩=some (.slice none 0 0)/\w'.frozen? ⟨w.heap.size+1,0,none⟩=false/\w'.cell? ⟨w.heap.size,0,none⟩=some (.slice (some ⟨b,off,none⟩) ts.length cap)/\w'.cell? ⟨b,off+i*2,none⟩=some (.string t.lo)/\Hid (yVz w (tbs ts) row (.returned (.agg #[.slice va vn vc])) (w'.setCell ⟨w.heap.size+1,0,none⟩ (.slice va vn vc)))):=by
  intro X ob hX aS aP aV aU;obtain⟨_,_,_,hT,ag⟩:=a3.out X hX;have sX:=hX.size;have ao:=yDh b off cap ts [⟨t.lo,.slice (some ⟨g3,0,none⟩) N3 a0,rs⟩] i (i+1) ob Wa.heap.size X hT ag (λj u hu=>by
   cases j with
   |zero=>simp at hu;subst hu;exact⟨by simpa using aV,by simpa using aU⟩
   |succ j=>simp at hu) aS aP sX (by omega) (by simp) (by simp) (by omega) (by omega) (by omega) HS.2
  rw[show((i+1:Nat):Int)=(i:Int)+1 by omega]at ao;refine ao.mono ?_;rintro e w3 ⟨v,ys,rfl,aR,an,aQ,hb3⟩;have a5:Below Wa.heap.size Wa w3:=hX.trans (hb3.mono sX);obtain⟨_,q1,q2,_⟩:=a3.out w3 a5;have aW:yBs w3 Wa.heap.size v ys:=⟨yI5 aR sX,an.runs,an.ents⟩;obtain⟨va,vn,vc,rfl,hc⟩:=yL2 (w:=w) (R:=w.heap.size+1) (by omega) (by omega) aW (ae.trans (a5.mono (by omega)));obtain⟨y0,y1,_⟩:=HK.out w3 a5;refine⟨va,vn,vc,rfl,q1,q2,y0,y1,_,yOs HG.out HI.out aF.out ab.2 (by omega),?_⟩;have he:ys.map Tx.tb=yNr (tbs ts) i t.tb L:=by rw[aQ];unfold tbs yNr;rw[List.map_take,List.map_drop];have:=ac.1.same;simp only[map_cons,map_nil,Tx.tb,this];rfl
  rw[<-he];exact hc
 go_upto_region 10 with fail;have y:SW (λw':World=>w'.cell? ⟨w.heap.size,0,none⟩=some (.slice (some ⟨b,off,none⟩) ts.length cap)/\w'.cell? ⟨b,off+i*2,none⟩=some (.string t.lo)) wc.drew:=⟨by simpa using k0,by simpa using aM⟩;refine wpR 14 y ?_;refine qU 0 ?vr0x14 rfl ?yr0x14 y ?_;case yr0x14=>exact zzR0
 try simp only[qA]
 refine qU 1 ?vr1x15 rfl ?yr1x15 y ?_;case yr1x15=>exact zzR0
 try simp only[qA]
 refine qU 2 ?vr2x16 rfl ?yr2x16 y ?_;case yr2x16=>exact zzR0
 try simp only[qA]
 refine qU 3 ?vr3x17 rfl ?yr3x17 y ?_;case yr3x17=>exact zzR0
 try simp only[qA]
 refine qU 4 ?vr4x18 rfl ?yr4x18 y ?_;case yr4x18=>exact zzR0
 try simp only[qA]
 refine qU 5 ?vr5x19 rfl ?yr5x19 y ?_;case yr5x19=>exact zzR0
 try simp only[qA]
 refine qU 6 ?vr6x20 rfl ?yr6x20 y ?_;case yr6x20=>exact zzR0
 try simp only[qA]
 refine qU 7 ?vr7x21 rfl ?yr7x21 y ?_;case yr7x21=>exact zzR0
 try simp only[qA]
 refine qU 8 ?vr8x22 rfl ?yr8x22 y ?_;case yr8x22=>exact zzR0
 try simp only[qA]
 refine qU 9 ?vr9x23 rfl ?yr9x23 y ?_;case yr9x23=>exact zzR0
 try simp only[qA]
 refine qU 10 ?vr10x24 rfl ?yr10x24 y ?_;case yr10x24=>exact zzR0
 try simp only[qA]
 refine qU 11 ?vr11x25 rfl ?yr11x25 y ?_;case yr11x25=>exact zzR0
 try simp only[qA]
 refine qO 12 rfl λK hK=>?_;go_simp;obtain⟨W4,a6⟩:=qE ((wc.alloc (Obj.cells #[.string t.lo,.slice (some ⟨g3,0,none⟩) N3 a0] 56)).drew:World);have av:Below wc.heap.size wc W4:=by rw[a6];exact(qB).drew
 have ba:W4.heap.size=wc.heap.size+1:=by rw[a6];simp
 have aD:Below Wa.heap.size Wa W4:=ac.2.trans (av.mono ac.2.size)
 have aj:Hid (yAw W4 Wa.heap.size [⟨t.lo,.slice (some ⟨g3,0,none⟩) N3 a0,rs⟩]/\W4.cell? ⟨wc.heap.size,0,none⟩=some (.string t.lo)/\W4.cell? ⟨wc.heap.size,1,none⟩=some (.slice (some ⟨g3,0,none⟩) N3 a0)):=
  ⟨(ac.1.ts t.lo).below av,by rw[a6];simp[go_sem],by rw[a6];simp[go_sem]⟩
 rw[<-a6];obtain⟨p0,p1,_⟩:=HK.out W4 aD;refine hK.out _ _ (.inr ⟨p0,p1⟩) ?_;clear hK a6;try simp only[qA]
 refine qO 13 rfl λK hK=>?_;go_simp;go_at_call 73;refine(b5.out W4 wc.heap.size aD (by omega) aj.1 aj.2.1 aj.2.2).mono ?_;rintro e w5 ⟨va,vn,vc,rfl,q1,q2,y0,y1,hc⟩;refine hK.out _ _ (.inr ⟨y0,y1⟩) ?_;clear hK;try simp only[qA]
 refine qO 14 rfl λK hK=>?_;go_simp;refine hK.out _ _ (.inl rfl) ?_;clear hK;try simp only[qA]
 refine qD ?_;go_wp2_with fail;exact bodyPost_ret (v:=.agg #[.slice va vn vc]) (by simp[results,results33,go_sem,q1]) rfl hc.out
theorem yGn(w:World)(hgd:oo.guard=none)(l c:Operand)(t:TypeId)(hop:oo.op=Op.makeSlice t l c)
  (base:Nat) (e:TypeId) (i:TypeInfo) (z:Value) (size:Nat) (h1:prog.underlying t=some (.slice e)) (h2:prog.info? e=some i) (h3:i.zero=some z) (h4:i.size=size)
  (kl kc:IntKind) (L C:Int) (n:Nat) (hl:a.eval l=.int kl L) (hc:a.eval c=.int kc C) (hL:L=(n:Int)) (hC:C=(n:Int)) (b2:i.bytes*n<=281474976710656) (b3:n<=maxLen) (b4:base<=w.heap.size)
  (hK:∀w',w'.ownsRow base e size (.slice (some ⟨w.heap.size,0,none⟩) n n) n (madeCells z.cells (n*size)).toList->w.grownBy w' none->w'.heap.size=w.heap.size+1->K (a.put oo.dst (.slice (some ⟨w.heap.size,0,none⟩) n n)) w'):if Region.wanted oo (yielded ops a.tmps)=true then Oper.wp prog oo a w K Q else E:=by
 have hw:Region.wanted oo (yielded ops a.tmps)=true:=by simp[Region.wanted,hgd]
 rw[if_pos hw];obtain⟨w',y,r1,r2,r3⟩:∃w',(Instr.makeSlice t (.int kl (n:Int)) (.int kc (n:Int))).run prog w=.ok (.slice (some ⟨w.heap.size,0,none⟩) n n) w'/\w'.ownsRow base e size (.slice (some ⟨w.heap.size,0,none⟩) n n) n (madeCells z.cells (n*size)).toList/\w.grownBy w' none/\w'.heap.size=w.heap.size+1:=by
  obtain⟨w',y,r1,r2⟩:=run_make_full (P:=prog) w base t e i z size h1 h2 h3 h4 kl kc n b2 b3 b4;refine⟨w',y,r1,r2,?_⟩;subst h4;have a3:n<=9223372036854775807:=by unfold maxLen at b3;omega
  have a0:(i.bytes:Int)*(n:Int)<=281474976710656:=by
   have h:((i.bytes*n:Nat):Int)<=281474976710656:=by omega
   rwa [Int.natCast_mul]at h
  have h9:=run_make (P:=prog) w t e i z h1 h2 h3 kl kc n n (by omega) (Int.le_refl _) a0 (by omega);rw[y]at h9;simp only[Result.ok.injEq]at h9;rw[h9.2];simp
 subst hL;subst hC;unfold Oper.wp;simp[execOp,hop,hl,hc,y,Result.andThen];exact hK w' r1 r2 r3
theorem yJh(g:Nat):∀(vs:List Value)(o:Nat)(w:World),w.setCells g o vs=yPj w g o vs
 | [],_,_=>rfl
 |v::vs,o,w=>yJh g vs (o+1) _
theorem yRt(w:World)(ty g o:Nat)(vs:List Value)(hi:(prog.info? ty).map (·.size)=some vs.length)(hc:∀j,j<vs.length->(w.cell? ⟨g,o+j,none⟩).isSome=true)(hf:∀j,w.frozen? ⟨g,j,none⟩=false)(h1:∀v∈vs,v.oneCell'=true):
  (storeVar ty ⟨g,o,none⟩ (.agg vs.toArray)).run prog w=.ok () (yPj w g o vs):=by
 have h9:=run_storeCells_cells (P:=prog) g o vs 0 w (by simpa using hc) (λj _=>hf _) h1;rw[Nat.add_zero,yJh]at h9;cases hq:prog.info? ty with
 |none=>simp[hq]at hi
 |some i=>
  have hs:i.size=vs.length:=by simpa [hq]using hi
  simp[storeVar,sizeOf,typeInfo,hq,Value.cells,hs,h9]
theorem yPd(hgd:oo.guard=none)(p x:Operand)(ty:Nat)(ho:oo.op=.store ty p x)(g o:Nat)(hp:a.eval p=.pointer (some ⟨g,o,none⟩))(vs:List Value)(hx:a.eval x=.agg vs.toArray)
  (hi:(prog.info? ty).map (·.size)=some vs.length) (hc:∀j,j<vs.length->(w.cell? ⟨g,o+j,none⟩).isSome=true) (hf:∀j,w.frozen? ⟨g,j,none⟩=false) (h1:∀v∈vs,v.oneCell'=true)
  (h:K (a.put oo.dst undef) (yPj w g o vs)):if Region.wanted oo (yielded ops a.tmps)=true then Oper.wp prog oo a w K Q else E:=by
 have hw:Region.wanted oo (yielded ops a.tmps)=true:=by simp[Region.wanted,hgd]
 rw[if_pos hw];unfold Oper.wp execOp;simp only[ho,hp,hx,Instr.storeAt,Instr.sureAddr,Sem.run_bind,Sem.run_pure,Result.andThen_ok,yRt w ty g o vs hi hc hf h1];exact h
def yV0(w:World)(tb:List Tb)(row:ByteArray)(e:Ending)(w':World):Prop:=∃out,CmsT tb row out/\yD9 w out e w'
theorem yVi{rs:List (List Ent)}{R:List Ent}(h:xCl rs R)(hf:∀L,yBo rs allR L->¬10000<L.length):∃L,yBo rs allR L/\L.length<=10000/\R=L.map putE:=by
 obtain⟨L,hM,⟨h1,_⟩|⟨h1,h2⟩⟩:=h
 .exact absurd h1 (hf L hM)
 .exact⟨L,hM,h1,h2⟩
theorem yT2{g2 cp:Nat}{R:List Ent}(hc:w.cell? ⟨g,0,none⟩=some (.slice (some ⟨g2,0,none⟩) R.length cp))(hg:g<w.heap.size)(hO:OwnE w base g2 cp R):yC9 w (.slice (some ⟨g,0,none⟩) 1 1) [⟨g2,0,cp,R⟩]:=by
 refine .inr ⟨g,0,1,rfl,λi r hi=>?_,hg,Nat.le_refl _,by unfold maxLen;omega⟩;match i with
 |0=>simp at hi;subst hi;exact⟨by simpa using hc,hO.at,hO.lt.2,hO.caps.1,hO.caps.2⟩
 |i+1=>simp at hi
theorem yHy(b off cap:Nat)(ts:List Tm)(row:ByteArray)(w:World)(h:yA2 w b off ts)(hok:okTs ts)(hB:b<w.heap.size)(hn:ts.length<=1048576)(hcap:ts.length<=cap)(hcm:cap<=maxLen)(hs:∀t∈ts,t.l.length<=1048576/\totM t.l<=1048576):
  Calls prog 30 #[.agg #[.slice (some ⟨b,off,none⟩) ts.length cap],.string row] w λe w'=>yV0 w (tbs ts) row e w':=by
 obtain⟨Wa,a5⟩:=qE ((w.alloc (Obj.cells #[.slice (some ⟨b,off,none⟩) ts.length cap] 28)).alloc (Obj.cells #[.slice none 0 0] 28):World);have ag:Below w.heap.size w Wa:=by rw[a5];exact(qB).alloc (by simp) _
 have bi:Wa.heap.size=w.heap.size+1+1:=by rw[a5];simp
 have a0:Hid (∀wx,Below Wa.heap.size Wa wx->wx.cell? ⟨w.heap.size,0,none⟩=some (.slice (some ⟨b,off,none⟩) ts.length cap)/\wx.cell? ⟨w.heap.size+1,0,none⟩=some (.slice none 0 0)/\wx.frozen? ⟨w.heap.size+1,0,none⟩=false/\yA2 wx b off ts/\b<wx.heap.size):=by
  intro wx hx;have sx:=hx.size;refine⟨?_,?_,?_,(h.below ag hB).below hx (by omega),by omega⟩
  .rw[hx.cell (p:=⟨w.heap.size,0,none⟩) (by show w.heap.size<Wa.heap.size;omega),a5];simp[go_sem]
  .rw[hx.cell (p:=⟨w.heap.size+1,0,none⟩) (by show w.heap.size+1<Wa.heap.size;omega),a5];simp[go_sem]
  .rw[hx.frozen (p:=⟨w.heap.size+1,0,none⟩) (by show w.heap.size+1<Wa.heap.size;omega),a5];simp[go_sem]
 have HS:Hid (okTs ts/\∀t∈ts,t.l.length<=1048576/\totM t.l<=1048576):=⟨hok,hs⟩;have aM:Hid (∀t∈ts.map Tm.ty,t.l.length<=1048576/\totM t.l<=1048576):=by intro t ht;obtain⟨u,hu,rfl⟩:=List.mem_map.1 ht;exact hs u hu
 have aP:Hid (∀W,Below Wa.heap.size Wa W->Calls prog 64 #[.agg #[.slice (some ⟨b,off,none⟩) ts.length cap]] W λe w'=>∃(g cp:Nat)(xs:List Tx),e=.returned (.agg #[.slice (some ⟨g,0,none⟩) xs.length cp])/\w'.cell? ⟨w.heap.size+1,0,none⟩=some (.slice none 0 0)/\w'.frozen? ⟨w.heap.size+1,0,none⟩=false/\Hid (yD9 w (tbs ts) (.returned (.agg #[.slice (some ⟨g,0,none⟩) xs.length cp])) (w'.setCell ⟨w.heap.size+1,0,none⟩ (.slice (some ⟨g,0,none⟩) xs.length cp)))):=by intro W hW;obtain⟨_,_,_,hT,aY⟩:=a0.out W hW;have:=yCp b off cap (ts.map Tm.ty) W hT.tys aY (by rw[length_map];exact hn) aM.out;rw[length_map,yKu]at this;refine this.mono ?_;intro e w3 hp;have sW:=hW.size;obtain⟨g,cp,xs,rfl,hb3,hc⟩:=yH1 (w:=w) (w.heap.size+1) (ag.trans (hW.mono (by omega))) (by omega) (by omega) hp;obtain⟨_,q1,q2,_⟩:=a0.out w3 (hW.trans (hb3.mono sW));exact⟨g,cp,xs,rfl,q1,q2,hc⟩
 unfold maxLen at hcm;clear h hok hs;obtain⟨c0,_,_,aE,b4⟩:=a0.out Wa (Below.refl _ _);have bd:Hid (yA2 Wa b off ts):=aE;clear aE;go_enter func30,ntmps30;go_upto_region 1 with fail;rw[<-a5];clear a5;go_wp2_with fail;refine(yBf b off cap ts _ bd.out HS.1 b4 hn).mono ?_;rintro e w1 ⟨r,rfl,hr,hb1⟩;have HR:Hid (r=true↔GoodS (tbs ts)):=hr;have s1:=hb1.size;clear hr c0;obtain⟨c0,_,_,aD,b3⟩:=a0.out w1 hb1;have bb:Hid (yA2 w1 b off ts):=aD;clear aD;cases r
 .have H:Hid (CmsT (tbs ts) row (tbs ts)):=yQ9 (λq=>Bool.noConfusion (HR.2 q));go_wp2_with fail;refine(aP.out _ hb1).mono ?_;exact xAp
 have HG:Hid (GoodS (tbs ts)):=HR.1 rfl;obtain⟨i,hi⟩:=yB9 HG.out row;have HI:Hid (yBp (tbs ts) row i):=hi;have aV:i<ts.length:=by have:=hi.1;rw[yAy]at this;exact this
 have bm:ts.length<=100:=by have:=HG.le;rw[yAy]at this;exact this
 clear hi;go_wp2_with fail;refine(yD3 b off cap ts row i _ bb.out b3 hn HG.out HI.out).mono ?_;rintro e w2 ⟨rfl,ax⟩;have hb2:Below Wa.heap.size Wa w2:=hb1.trans (ax.mono s1);have s2:=hb2.size;clear ax c0;obtain⟨c0,_,_,aC,bo⟩:=a0.out w2 hb2;have aL:Hid (yA2 w2 b off ts):=aC;clear aC;obtain⟨t,ht⟩:∃t,ts[i]?=some t:=⟨_,getElem?_eq_getElem aV⟩;have aB:=aL.out;obtain⟨c1,c2,_⟩:=aB i t ht;have ba:Hid (ts[i]?=some t):=ht;have al:Hid ((tbs ts)[i]?=some t.tb):=by show(tbs ts)[i]?=some t.tb;rw[yBq,ht];rfl
 have ae:Hid (okM t.l/\t.l.length<=1048576/\∀r∈t.l,yAp r.es):=⟨(HS.1 t (mem_of_getElem? ht)).ents,(HS.2 t (mem_of_getElem? ht)).1,λr hr=>(HG.tabs i _ al.out).runs.2 _ (List.mem_map.2 ⟨r,hr,rfl⟩)⟩;clear ht aB aL;have zi:(i:Int)<(ts.length:Int):=by omega
 have bk:IntKind.i64.wrap ((i:Int)+1)=(i:Int)+1:=by rw[IntKind.wrap_i64];omega
 obtain⟨W4,a8⟩:=qE (w2.alloc (Obj.cells #[.string t.lo,.slice (some ⟨t.b,t.off,none⟩) t.l.length t.cap] 56):World);have aW:Below w2.heap.size w2 W4:=by rw[a8];exact qB
 have aT:W4.heap.size=w2.heap.size+1:=by rw[a8];simp
 have k4:Below Wa.heap.size Wa W4:=hb2.trans (aW.mono s2);have af:Hid (∀wx,Below W4.heap.size W4 wx->Below Wa.heap.size Wa wx/\wx.cell? ⟨w.heap.size,0,none⟩=some (.slice (some ⟨b,off,none⟩) ts.length cap)/\wx.cell? ⟨w2.heap.size,0,none⟩=some (.string t.lo)/\wx.cell? ⟨w2.heap.size,1,none⟩=some (.slice (some ⟨t.b,t.off,none⟩) t.l.length t.cap)/\t.at wx):=by
  intro wx hx;have k:=k4.trans (hx.mono k4.size);refine⟨k,(a0.out wx k).1,?_,?_,((a0.out wx k).2.2.2.1 i t ba.out).2.2⟩
  .rw[hx.cell (p:=⟨w2.heap.size,0,none⟩) (by show w2.heap.size<W4.heap.size;omega),a8];simp
  .rw[hx.cell (p:=⟨w2.heap.size,1,none⟩) (by show w2.heap.size<W4.heap.size;omega),a8];simp
 clear aT;go_upto_region 5 with fail;rw[<-a8];clear a8 c0 c1 c2;obtain⟨_,c0,c1,c2,aA⟩:=af.out W4 (Below.refl _ _);have aR:Hid (t.at W4):=aA;clear aA;go_wp2_with fail;refine(yGw t.lo t.b t.off t.cap t.l ⟨#[]⟩ ⟨#[]⟩ false _ aR.rms ae.1 aR.lt ae.2.1 ae.2.2).mono ?_;rintro e v5 ⟨r5,rfl,au,ar,ai⟩;have bf:Hid (∀L,yBo t.tb.rs allR L->(r5=true↔10000<L.length)):=au;have b9:Hid (r5=true->∃L,yBo t.tb.rs allR L/\10000<L.length):=ar;clear au ar c0 c1 c2;obtain⟨k5,c0,c1,c2,az⟩:=af.out v5 ai;have bq:Hid (t.at v5):=az;clear az;cases r5
 case true=>
  have H:Hid (CmsT (tbs ts) row (tbs ts)):=by obtain⟨L,hM,hl⟩:=b9.out rfl;exact yOr HG.out HI.out al.out hM hl
  go_wp2_with fail;refine(aP.out _ k5).mono ?_;exact xAp
 case false=>
 have s5:=ai.size;obtain⟨W6,a6⟩:=qE (v5.alloc (Obj.cells #[.string t.lo,.slice none 0 0] 56):World);have aX:Below v5.heap.size v5 W6:=by rw[a6];exact qB
 have aq:W6.heap.size=v5.heap.size+1:=by rw[a6];simp
 have aJ:Below W4.heap.size W4 W6:=ai.trans (aX.mono s5);have a9:Hid (∀wx,Below W6.heap.size W6 wx->wx.cell? ⟨v5.heap.size,0,none⟩=some (.string t.lo)/\wx.cell? ⟨v5.heap.size,1,none⟩=some (.slice none 0 0)/\wx.frozen? ⟨v5.heap.size,1,none⟩=false/\v5.heap.size<wx.heap.size):=by
  intro wx hx;have sx:=hx.size;refine⟨?_,?_,?_,by omega⟩
  .rw[hx.cell (p:=⟨v5.heap.size,0,none⟩) (by show v5.heap.size<W6.heap.size;omega),a6];simp
  .rw[hx.cell (p:=⟨v5.heap.size,1,none⟩) (by show v5.heap.size<W6.heap.size;omega),a6];simp
  .rw[hx.frozen (p:=⟨v5.heap.size,1,none⟩) (by show v5.heap.size<W6.heap.size;omega),a6];simp
 have s6:Hid (Wa.heap.size<=v5.heap.size/\W4.heap.size<=v5.heap.size/\W6.heap.size=v5.heap.size+1):=⟨k5.size,s5,aq⟩;clear aq;go_upto_region 8 with fail;rw[<-a6];clear a6 c0 c1 c2;obtain⟨k6,c0,c1,c2,ay⟩:=af.out W6 aJ;have aQ:Hid (t.at W6):=ay;clear ay;go_wp2_with fail;refine(yIo t.b t.off t.cap t.l _ aQ.rms ae.1 aQ.lt ae.2.1).mono ?_;rintro e v7 ⟨a,n,c,R,rfl,aG,aI,hb7,_⟩;obtain⟨L,aH,hL,ak⟩:=yVi aI (λL hL=>λq=>Bool.noConfusion ((bf.out L hL).2 q));have HL:Hid (yBo t.tb.rs allR L/\L.length<=10000/\R=L.map putE):=⟨aH,hL,ak⟩;have bn:R.length<=10000:=by rw[ak,length_map];exact hL
 have aO:Hid (OwnU v7 W6.heap.size (.slice a n c) R):=aG;clear aH hL ak aG aI;have s7:=hb7.size;have aN:Hid (∀(X:World)(va:Option Addr)(vn vc:Nat)(l':List Rm),Below Wa.heap.size Wa X->yC9 X (.slice va vn vc) l'->esM l'=yBi L->Calls prog 68 #[.agg #[.slice (some ⟨b,off,none⟩) ts.length cap],.int .i64 i,.int .i64 ((i:Int)+1),.slice (some ⟨X.heap.size,0,none⟩) 1 1] (X.alloc (Obj.cells #[.string t.lo,.slice va vn vc] 56)) λe w'=>∃(g cp:Nat)(xs:List Tx),e=.returned (.agg #[.slice (some ⟨g,0,none⟩) xs.length cp])/\w'.cell? ⟨w.heap.size+1,0,none⟩=some (.slice none 0 0)/\w'.frozen? ⟨w.heap.size+1,0,none⟩=false/\Hid (yV0 w (tbs ts) row (.returned (.agg #[.slice (some ⟨g,0,none⟩) xs.length cp])) (w'.setCell ⟨w.heap.size+1,0,none⟩ (.slice (some ⟨g,0,none⟩) xs.length cp)))):=by
  intro X va vn vc l' hX b0 aw;obtain⟨W8,y⟩:=qE (X.alloc (Obj.cells #[.string t.lo,.slice va vn vc] 56):World);rw[<-y];have sf:=hX.size;obtain⟨k0,_,_,kT,kB⟩:=a0.out X hX;have ah:Below X.heap.size X W8:=by rw[y];exact qB
  have a4:Below Wa.heap.size Wa W8:=hX.trans (ah.mono sf);have bj:W8.heap.size=X.heap.size+1:=by rw[y];simp
  have aK:yA2 W8 b off ts/\yDk W8 X.heap.size 0 [⟨t.lo,.slice va vn vc,l'⟩]:=by
   refine⟨kT.below ah kB,λj u hu=>?_⟩;have hj:j=0:=by have:=(List.getElem?_eq_some_iff.1 hu).1;simp at this;omega
   subst hj;obtain rfl:=Option.some.inj hu;exact⟨by rw[y];simp,by rw[y];simp,b0.below ah⟩
  have av:(ts.map Tm.ty).length=ts.length:=length_map ..;have aU:l'.length<=1048576/\totM l'<=1048576:=by
   have h1:=yIq l';rw[aw]at h1;have h2:szR (yBi L)<=10001:=by
    unfold yBi;split
    .simp[szR]
    .have:=HL.2.1;simp only[szR,length_map];omega
   omega
  have h9:=yC2 b off cap (ts.map Tm.ty) [⟨t.lo,.slice va vn vc,l'⟩] i (i+1) X.heap.size W8 aK.1.tys (by omega) aK.2 (by omega) (by omega) (by simp) (by omega) (by unfold maxLen;omega) (by omega) (by rw[av];omega) (by simp) (λx hx=>by
   rcases List.mem_append.1 hx with hx|hx
   .exact aM.out x hx
   .simp at hx
    subst hx
    exact aU)
  rw[av]at h9;have b7:((i+1:Nat):Int)=(i:Int)+1:=by omega
  rw[b7]at h9;refine h9.mono ?_;intro e w9 hp;obtain⟨g,cp,xs,rfl,aa,hc⟩:=yH1 (w:=w) (w.heap.size+1) (ag.trans (a4.mono (by omega))) (by omega) (by omega) hp;obtain⟨_,q1,q2,_⟩:=a0.out w9 (a4.trans (aa.mono a4.size));refine⟨g,cp,xs,rfl,q1,q2,_,?_,hc⟩;have b6:((ts.map Tm.ty).take i++ [Ty.mk t.lo (.slice va vn vc) l']++(ts.map Tm.ty).drop (i+1)).map Ty.tb=yNr (tbs ts) i t.tb L:=by rw[map_append,map_append,List.map_take,List.map_drop,yKu];simp only[map_cons,map_nil,Ty.tb,aw];rfl
  rw[b6];exact yOs HG.out HI.out al.out HL.1 HL.2.1
 obtain⟨W8,y⟩:=qE (v7.alloc (Obj.cells #[.slice a n c] 60):World);have a4:Below v7.heap.size v7 W8:=by rw[y];exact qB
 have ad:Below W6.heap.size W6 W8:=hb7.trans (a4.mono s7);have b8:W8.cell? ⟨v7.heap.size,0,none⟩=some (.slice a n c):=by rw[y];simp
 have b5:Below W4.heap.size W4 W8:=aJ.trans (ad.mono (by have:=s6.out;omega));go_upto_region 9 with fail;rw[<-y];clear y c0 c1 c2;obtain⟨k8,c0,c1,c2,_⟩:=af.out W8 b5;obtain⟨m0,m1,m2,m3⟩:=a9.out W8 ad;by_cases hp:0<n
 .have zp:(0:Int)<(n:Int):=by omega
  obtain⟨g7,rfl,rfl,am⟩:∃g7,a=some ⟨g7,0,none⟩/\n=R.length/\Hid (OwnE v7 W6.heap.size g7 c R):=by
   rcases aO.out with⟨q,_⟩|⟨g,cp,q,hO⟩
   .cases q;omega
   .cases q;exact⟨g,rfl,rfl,hO⟩
  obtain⟨W9,ab⟩:=qE (W8.alloc (Obj.cells #[.slice (some ⟨g7,0,none⟩) R.length c] 60):World);have aa:Below W8.heap.size W8 W9:=by rw[ab];exact qB
  have aS:W9.heap.size=W8.heap.size+1:=by rw[ab];simp
  have ac:Below W6.heap.size W6 W9:=ad.trans (aa.mono ad.size);have k9:Below Wa.heap.size Wa W9:=k8.trans (aa.mono k8.size);obtain⟨a3,aj⟩:=qE ((W8.setCell ⟨v5.heap.size,1,none⟩ (.slice (some ⟨W8.heap.size,0,none⟩) 1 1)).alloc (Obj.cells #[.slice (some ⟨g7,0,none⟩) R.length c] 60):World);have a7:a3=W9.setCell ⟨v5.heap.size,1,none⟩ (.slice (some ⟨W8.heap.size,0,none⟩) 1 1):=by rw[aj,ab];simp[go_sem,m3]
  have ao:Below Wa.heap.size Wa a3:=by rw[a7];exact k9.setCell s6.out.1 _
  have bg:Hid (yC9 a3 (.slice (some ⟨W8.heap.size,0,none⟩) 1 1) [⟨g7,0,c,R⟩]):=by
   have h8:=ad.size;have h6:=s6.out;have aF:OwnE W9 W6.heap.size g7 c R:=(am.below a4 am.lt.2).below aa (by have:=am.lt;have:=a4.size;omega);have aZ:OwnE a3 W6.heap.size g7 c R:=by rw[a7];exact aF.setNe _ _ _ (by have:=aF.lt;omega)
   refine yT2 ?_ (by rw[a7];simp;omega) aZ;rw[a7,World.cell?_setCell_far _ _ _ _ (by show v5.heap.size≠W8.heap.size;omega),ab];simp
  have an:Hid (esM [(⟨g7,0,c,R⟩:Rm)]=yBi L):=by
   show [R]=yBi L;unfold yBi;have h1:=HL.2.2;have h2:R.length=L.length:=by rw[h1,length_map]
   rw[if_neg (by omega),h1]
  have n0:a3.cell? ⟨v5.heap.size,0,none⟩=some (.string t.lo):=by rw[a7];simp[go_sem,(a9.out W9 ac).1,(a9.out W9 ac).2.1]
  have n1:a3.cell? ⟨v5.heap.size,1,none⟩=some (.slice (some ⟨W8.heap.size,0,none⟩) 1 1):=by rw[a7];simp[go_sem,(a9.out W9 ac).1,(a9.out W9 ac).2.1]
  have n2:=(a0.out a3 ao).1;obtain⟨x0,x1,x2,x3⟩:=a9.out W9 ac;clear aS;go_upto_region 11 with fail;rw[<-aj];clear ab a7 aj x0 x1 x2 x3 m0 m1 m2 m3 b8;go_wp2_with fail;refine(aN.out a3 _ _ _ _ ao bg.out an.out).mono ?_;exact xAm
 .have zp:¬(0:Int)<(n:Int):=by omega
  have an:Hid (esM ([]:List Rm)=yBi L):=by
   show []=yBi L;unfold yBi;have h1:=HL.2.2;have h2:R.length=L.length:=by rw[h1,length_map]
   have h3:R.length=0:=by
    rcases aO.out with⟨_,q⟩|⟨g,cp,q,hO⟩
    .rw[q];rfl
    .cases q;omega
   rw[if_pos (by omega)]
  go_wp2_with fail;refine(aN.out W8 _ _ _ _ k8 (.inl ⟨_,_,rfl,rfl⟩) an.out).mono ?_;exact xAm
end Go.Proofs.YtehfleefkdojpaaGreatDoor
