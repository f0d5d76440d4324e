import Derived.Test.YtehfleefkdojpaaGreatDoorSkAC
import Derived.Test.YtehfleefkdojpaaGreatDoorSkAD
namespace Go.Proofs.YtehfleefkdojpaaGreatDoor
open Go.ChangeShapes Go.WideShapes Go.ChangeAt Go.RowKit Go.Deep _root_.List _root_.Nat Go.Proofs.Tryz
set_option linter.unusedVariables false
set_option linter.unusedSimpArgs false
set_option maxRecDepth 100000
set_option maxHeartbeats 16000000
def yC9(w:World)(v:Value)(l:List Rm):Prop:=
 (∃a cap,v=.slice a 0 cap/\l= [])\/∃b off cap,v=.slice (some ⟨b,off,none⟩) l.length cap/\yB5 w b off l/\b<w.heap.size/\l.length<=cap/\cap<=maxLen
variable {w w':World} {l:List Rm}
theorem yC9.below{v:Value}(h:yC9 w v l)(hb:Below w.heap.size w w'):yC9 w' v l:=by
 rcases h with h|⟨b,off,cap,hv,hE,y,h1,h2⟩
 .exact .inl h
 .exact .inr ⟨b,off,cap,hv,hE.below hb y,by have:=hb.size;omega,h1,h2⟩
theorem yC9.one{v:Value}(h:yC9 w v l):v.oneCell'=true:=by rcases h with⟨a,cap,rfl,_⟩|⟨b,off,cap,rfl,_⟩<;>rfl
theorem yC9.shape{v:Value}(h:yC9 w v l):∃ad c,v=.slice ad l.length c/\∀(i:Nat)(r:Rm),l[i]?=some r->∃b off,ad=some ⟨b,off,none⟩/\b<w.heap.size/\yB5 w b off l:=by
 rcases h with⟨a,cap,rfl,rfl⟩|⟨b,off,cap,rfl,hE,y,h1,h2⟩
 .exact⟨a,cap,rfl,λi r hi=>by simp at hi⟩
 .exact⟨_,cap,rfl,λi r hi=>⟨b,off,rfl,y,hE⟩⟩
variable {base:Nat} {rs:List Rw}
theorem yAn.of{gq nq cq:Nat}{us:List Value}(h:w.ownsRow base 60 1 (.slice (some ⟨gq,0,none⟩) nq cq) us.length us)(hu:us=rs.map Rw.u):yAn w base (.slice (some ⟨gq,0,none⟩) nq cq) rs:=by
 have hl:us.length=rs.length:=by rw[hu,length_map]
 rcases h.2 with⟨h0,h1⟩|⟨g,cap,cur,hv,_⟩
 .cases h0
 .refine⟨g,cap,by rw[<-hl];exact hv,?_⟩;rw[hl,hu]at h;rw[hl]at hv;rw[hv]at h;exact h
structure yZq(w:World)(base:Nat)(v:Value)(l:List Rm)(rs:List Rw):Prop where
 row:yAn w base v rs
 ents:∀r∈rs,OwnK w base r
 apart:yKf rs
 same:rs.map Rw.es=esM l
variable {base':Nat}
theorem OwnK.mono{r:Rw}(h:OwnK w base r)(hb:base'<=base):OwnK w base' r:=by
 rcases h with h|⟨g,cp,hk,hu,hO⟩
 .exact .inl h
 .exact .inr ⟨g,cp,hk,hu,hO.mono hb⟩
variable {e size n:Nat} {xs:List Value}
theorem yDr{v:Value}(h:w.ownsRow base e size v n xs)(hb:base'<=base):w.ownsRow base' e size v n xs:=by exact yM5
theorem yAn.mono{v:Value}(h:yAn w base v rs)(hb:base'<=base):yAn w base' v rs:=by obtain⟨g,cp,hv,hO⟩:=h;exact⟨g,cp,hv,yDr hO hb⟩
theorem yLs{r:Rw}(h:yKf rs)(h1:∀x∈rs,∀k,x.k=some k->k<n)(h2:∀k,r.k=some k->n<=k):yKf (rs++ [r]):=by refine List.pairwise_append.2 ⟨h,by simp,λa ha b hb k hk hk'=>?_⟩;simp at hb;subst hb;have:=h1 a ha k hk;have:=h2 k hk';omega
variable {x:Value}
theorem yCd{t:TypeId}:∀j u,[x][j]?=some u->(w.alloc (.cells #[x] t)).cell? ⟨w.heap.size,0+j,none⟩=some u:=by intro j u hj;have:=cell_one_new w x t j u hj;rw[Addr.add_mid]at this;exact this
def totM:List Rm->Nat
 | []=>0
 |r::rs=>r.es.length+totM rs
theorem yLy{r:Rm}(h:r∈l):r.es.length<=totM l:=by
 induction l with
 |nil=>cases h
 |cons a l ih=>
  rcases mem_cons.1 h with rfl|h
  .simp[totM]
  .have:=ih h;simp only[totM];omega
def yZp(w:World)(l:List Rm)(e:Ending)(w':World):Prop:=∃(u:Value)(rs:List Rw),e=.returned u/\yZq w' w.heap.size u l rs/\(∃g cp,u=.slice (some ⟨g,0,none⟩) rs.length cp/\w'.ownsRow w.heap.size 60 1 (.slice (some ⟨g,0,none⟩) rs.length cp) rs.length (rs.map Rw.u))/\Below w.heap.size w w'
theorem yCy(v:Value)(l:List Rm)(w:World)(h:yC9 w v l)(hn:l.length<=1048576)(ht:totM l<=1048576):
  Calls prog 53 #[v] w λe w'=>yZp w l e w':=by
 obtain⟨ad,vc,rfl,ak⟩:=h.shape;have HA:Hid (∀(i:Nat)(r:Rm),l[i]?=some r->∃b off,ad=some ⟨b,off,none⟩/\b<w.heap.size/\yB5 w b off l):=ak;clear h ak;obtain⟨W0,a6⟩:=qE (w.alloc (Obj.cells #[] 60):World);have ax:Below w.heap.size w W0:=by rw[a6];exact qB
 have aD:W0.heap.size=w.heap.size+1:=by rw[a6];simp
 have aA:Hid (W0.ownsRow w.heap.size 60 1 (.slice (some ⟨w.heap.size,0,none⟩) 0 0) 0 []):=by rw[a6];exact yEv w _ (Nat.le_refl _)
 go_enter func53,ntmps53;go_wp2_with fail;rw[<-a6];clear a6;go_loopw[3,4] (λo i wr=>∃(k g cp:Nat)(rs:List Rw),k<=l.length/\i=.int .i64 k/\o=.slice (some ⟨g,0,none⟩) k cp/\rs.length=k/\rs.map Rw.es=esM (l.take k)/\wr.ownsRow w.heap.size 60 1 (.slice (some ⟨g,0,none⟩) k cp) k (rs.map Rw.u)/\(∀r∈rs,OwnK wr w.heap.size r)/\yKf rs/\Below w.heap.size w wr) (λ_ i _=>l.length-(intOf i).toNat);case atStart=>exact⟨0,w.heap.size,0,[],zero_le _,rfl,rfl,rfl,rfl,aA.out,λr hr=>by simp at hr,List.Pairwise.nil,ax⟩
 case round=>
  obtain⟨k,g,cp,rs,hk,rfl,rfl,ag,aj,aa,ah,am,hb⟩:=hrel;have HR:Hid (rs.length=k/\rs.map Rw.es=esM (l.take k)/\wr.ownsRow w.heap.size 60 1 (.slice (some ⟨g,0,none⟩) k cp) k (rs.map Rw.u)/\(∀r∈rs,OwnK wr w.heap.size r)/\yKf rs):=⟨ag,aj,aa,ah,am⟩;have hg:=World.ownsRow.lt aa g rfl;have ar:=hb.size;clear ag aj aa ah am;by_cases hlt:k<l.length
  .obtain⟨r,hr⟩:∃r,l[k]?=some r:=⟨_,getElem?_eq_getElem hlt⟩;obtain⟨b,off,rfl,hB,al⟩:=HA.out k r hr;obtain⟨c0,ha⟩:=(al.below hb hB) k r hr;have af:=mem_of_getElem? hr;have aE:r.es.length<=1048576:=by have:=yLy af;omega
   have HD:Hid (l[k]?=some r/\r.at wr):=⟨hr,ha⟩;clear hr ha al af;have zk:(k:Int)<(l.length:Int):=by omega
   obtain⟨W1,a0⟩:=qE (wr.alloc (Obj.cells #[] 64):World);have a8:Below wr.heap.size wr W1:=by rw[a0];exact qB
   have aC:W1.heap.size=wr.heap.size+1:=by rw[a0];simp
   have aB:Hid (OwnE W1 wr.heap.size wr.heap.size 0 []):=by rw[a0];exact yHt wr _ (Nat.le_refl _)
   have c1:W1.cell? ⟨b,off+k,none⟩=some (.slice (some ⟨r.b,r.off,none⟩) r.es.length r.cap):=by rw[a8.cell (p:=⟨b,off+k,none⟩) (by show b<_;omega)];exact c0
   have ay:(wr.alloc (Obj.cells #[] 64)).cell? ⟨b,off+k,none⟩=some (.slice (some ⟨r.b,r.off,none⟩) r.es.length r.cap):=by rw[<-a0];exact c1
   go_wp2_with (at_builtin;rw[<-a0];refine yCf _ rfl _ _ rfl wr.heap.size wr.heap.size 0 0 r.b r.off r.es.length r.cap [] r.es rfl rfl rfl rfl aB.out ?hc ?hl ?hb ?_);case hc=>exact(HD.2.below a8).ents
   case hl=>simp;omega
   case hb=>omega
   intro g' cp' w2 an ac aF;rw[<-a0]at ac;have hb2:Below wr.heap.size wr w2:=a8.grown ac a8.size (λj hj=>by cases hj;exact Nat.le_refl _);have aq:Hid (OwnE w2 wr.heap.size g' cp' r.es):=an;have s2:=hb2.size;clear an ac a0 c1 ay c0;have a7:(rs.map Rw.u).length=k:=by rw[length_map];exact HR.1
   have az:Hid ((w2.alloc (Obj.cells #[.slice (some ⟨g',0,none⟩) r.es.length cp'] 60)).ownsRow w.heap.size 60 1 (.slice (some ⟨g,0,none⟩) k cp) (rs.map Rw.u).length (rs.map Rw.u)):=by show World.ownsRow _ _ _ _ _ _ _;rw[a7];exact World.ownsRow.alloc (World.ownsRow.kept HR.2.2.1 (yB3 hb2 none) (.inr (λq=>by cases q))) _
   go_wp2_with (at_builtin;refine yA8 _ rfl _ _ rfl w.heap.size (.slice (some ⟨g,0,none⟩) k cp) (rs.map Rw.u) w2.heap.size 0 1 1 [.slice (some ⟨g',0,none⟩) r.es.length cp'] rfl rfl rfl az.out yCd ?h1 ?hl ?hb ?_);case h1=>intro u hu;simp at hu;subst hu;rfl
   case hl=>rw[a7];simp;omega
   case hb=>simp;omega
   intro v' w3 a9;have hz:(rs.map Rw.u++ [Value.slice (some ⟨g',0,none⟩) r.es.length cp']).length=k+1:=by simp[a7]
   obtain⟨g3,ao,rfl⟩:=a9.form (by intro q;cases q);have ae:=a9.row;rw[hz]at ae|-;have ab:=a9.grown;clear a9;have HN:Hid (∃y:List Rw,y.length=k+1/\y.map Rw.es=esM (l.take (k+1))/\w3.ownsRow w.heap.size 60 1 (.slice (some ⟨g3,0,none⟩) (k+1) ao) (k+1) (y.map Rw.u)/\(∀r∈y,OwnK w3 w.heap.size r)/\yKf y):=by
    obtain⟨q1,q2,q3,q4,q5⟩:=HR.out;have aw:Below w2.heap.size w2 (w2.alloc (Obj.cells #[.slice (some ⟨g',0,none⟩) r.es.length cp'] 60)):=qB;have ai:∀x:Rw,OwnK w2 w.heap.size x->OwnK w3 w.heap.size x:=λx hx=>by
     refine(hx.below aw).kept ab (λk' hk' q=>?_);have hq:g=k':=Option.some.inj q;subst hq;rcases hx with⟨h0,_⟩|⟨g2,aG,h1,h2,hE⟩
     .rw[h0]at hk';cases hk'
     .rw[h1]at hk';have e2:g2=g:=Option.some.inj hk';subst e2;exact yAb (World.ownsRow.kept q3 (yB3 hb2 none) (.inr (λq=>by cases q))) hE (by decide) _ rfl rfl
    refine⟨rs++ [⟨.slice (some ⟨g',0,none⟩) r.es.length cp',r.es,some g'⟩],by simp[q1],?_,?_,?_,?_⟩
    .rw[map_append,q2,take_add_one,HD.1];simp[esM]
    .rw[map_append];exact ae
    .intro x hx;rcases List.mem_append.1 hx with hx|hx
     .exact ai x ((q4 x hx).below hb2)
     .simp at hx;subst hx;exact ai _ ((OwnK.mono (.inr ⟨g',cp',rfl,rfl,aq.out⟩) (by omega)))
    .refine yLs (n:=wr.heap.size) q5 (λx hx k' hk'=>((q4 x hx).key hk').2) (λk' hk'=>?_);have e2:g'=k':=Option.some.inj hk';subst e2;exact aq.lt.1
   have hb3:Below w.heap.size w w3:=((hb.trans (hb2.mono ar)).alloc (by omega) _).grown ab (by simp;omega) (λj hj=>by cases hj;exact hg.1);clear ae ab a7 hz;go_wp2_with fail;go_roundw;case rel=>
    go_light;obtain⟨y,a1,a2,a3,a4,a5⟩:=HN.out;exact⟨k+1,g3,ao,y,by omega,by go_num,rfl,a1,a2,a3,a4,a5,hb3⟩
   case measure=>go_light;simp[intOf];omega
  .have zk:¬(k:Int)<(l.length:Int):=by omega
   have HF:Hid (∃rs:List Rw,yZq wr w.heap.size (.slice (some ⟨g,0,none⟩) k cp) l rs/\rs.length=k/\wr.ownsRow w.heap.size 60 1 (.slice (some ⟨g,0,none⟩) rs.length cp) rs.length (rs.map Rw.u)):=by
    obtain⟨q1,q2,q3,q4,q5⟩:=HR.out;refine⟨rs,⟨yAn.of (us:=rs.map Rw.u) ?_ rfl,q4,q5,?_⟩,q1,by rw[q1];exact q3⟩
    .rw[length_map,q1];exact q3
    .rw[take_of_length_le (by omega)]at q2;exact q2
   go_wp2_with fail;go_ret;obtain⟨y,hc,av,au⟩:=HF.out;exact⟨_,y,rfl,hc,⟨g,cp,(by rw[av];rfl),au⟩,hb⟩
def Tx.tb(t:Tx):Tb:=⟨t.lo,t.rs.map Rw.es⟩
theorem Tm.at.ins{t:Tm}(h:t.at w):yC9 w t.u t.l:=.inr ⟨t.b,t.off,t.cap,rfl,h.rms,h.lt,h.len,h.cap⟩
structure yAw(w:World)(base:Nat)(ts:List Tx):Prop where
 runs:∀t∈ts,yAn w base t.v t.rs
 ents:∀t∈ts,∀r∈t.rs,OwnK w base r
theorem yAw.below{ts:List Tx}(h:yAw w base ts)(hb:Below w.heap.size w w'):yAw w' base ts:=
 ⟨λt ht=>(h.runs t ht).below hb,λt ht r hr=>(h.ents t ht r hr).below hb⟩
theorem yAw.grown{ts:List Tx}{v:Value}(h:yAw w base ts)(hv:w.ownsRow base' 56 2 v n xs)(hg:w.grownBy w' v.ownBlock):yAw w' base ts:=by
 refine⟨λt ht=>(h.runs t ht).kept hg (λg hg1 hg2=>?_),λt ht r hr=>(h.ents t ht r hr).kept hg (λg hg1 hg2=>?_)⟩
 .obtain⟨g',cp,y,hO⟩:=h.runs t ht
  .rw[y]at hg1;exact yAb hv hO (by decide) g hg2 hg1
 .rcases h.ents t ht r hr with⟨q,_⟩|⟨g',cp,hk,hu,hO⟩
  .rw[q]at hg1;cases hg1
  .rw[hk]at hg1;have e1:g'=g:=Option.some.inj hg1;subst e1;exact yAb hv hO (by decide) g' hg2 rfl
theorem yAw.set{ts:List Tx}(h:yAw w base ts)(g o:Nat)(u:Value)(hlt:g<base):yAw (w.setCell ⟨g,o,none⟩ u) base ts:=by
 refine⟨λt ht=>(h.runs t ht).kept (yAk w g o u) (λg' hg1 hg2=>?_),λt ht r hr=>(h.ents t ht r hr).kept (yAk w g o u) (λg' hg1 hg2=>?_)⟩
 .obtain⟨g2,cp,y,hO⟩:=h.runs t ht
  .rw[y]at hg1;have e1:g2=g':=Option.some.inj hg1;have e2:g=g':=Option.some.inj hg2;have:=World.ownsRow.lt hO g2 rfl;omega
 .have:=(h.ents t ht r hr).key hg1;have e2:g=g':=Option.some.inj hg2;omega
theorem yAw.snoc{ts:List Tx}{t:Tx}(h:yAw w base ts)(h1:yAn w base t.v t.rs)(h2:∀r∈t.rs,OwnK w base r):yAw w base (ts++ [t]):=by
 refine⟨λx hx=>?_,λx hx=>?_⟩
 .rcases List.mem_append.1 hx with hx|hx
  .exact h.runs x hx
  .simp at hx;subst hx;exact h1
 .rcases List.mem_append.1 hx with hx|hx
  .exact h.ents x hx
  .simp at hx;subst hx;exact h2
theorem yE7{v:Value}(h:w.ownsRow base e size v n xs)(g o:Nat)(u:Value)(hlt:g<base):(w.setCell ⟨g,o,none⟩ u).ownsRow base e size v n xs:=by
 refine World.ownsRow.kept h (yAk w g o u) ?_;rcases h.2 with⟨q,_⟩|⟨g2,cp,cur,y,h1,_⟩
 .exact .inr (λz=>by rw[q]at z;cases z)
 .refine .inr (λz=>?_);rw[y]at z;have e1:g2=g:=Option.some.inj z;omega
theorem yCl{v:Value}(h:w.ownsRow base e size v n xs):∀j,v.ownBlock=some j->base<=j:=by
 intro j hj;rcases h.2 with⟨q,_⟩|⟨g,cap,cur,hv,h1,_⟩
 .rw[q]at hj;cases hj
 .rw[hv]at hj;have:g=j:=Option.some.inj hj;omega
theorem yB{v:Value}(h:w.ownsRow base e size v n xs)(hb:Below w.heap.size w w'):w'.ownsRow base e size v n xs:=by
 refine World.ownsRow.kept h (yB3 hb none) ?_;cases hv:v.ownBlock with
 |none=>exact .inl rfl
 |some g=>exact .inr (λq=>by cases q)
theorem yCh{lo:ByteArray}{t:TypeId}:∀i p,[(lo,x)][i]?=some p->(w.alloc (.cells #[.string lo,x] t)).cell? ⟨w.heap.size,0+i*2,none⟩=some (.string p.1)/\(w.alloc (.cells #[.string lo,x] t)).cell? ⟨w.heap.size,0+i*2+1,none⟩=some p.2:=by
 intro i p hp;have hi:i=0:=by have:=(List.getElem?_eq_some_iff.1 hp).1;simp at this;omega
 subst hi;simp at hp;subst hp;constructor<;>simp
theorem yAn.isSlice{v:Value}(h:yAn w base v rs):∃a n c,v=.slice a n c:=by obtain⟨g,cp,h,_⟩:=h;exact⟨_,_,_,h⟩
theorem yAn.one{v:Value}(h:yAn w base v rs):v.oneCell'=true:=by obtain⟨g,cp,h,_⟩:=h;rw[h];rfl
theorem yHs{v:Value}{ts:List Tx}(h:w.ownsRow base 56 2 v n (yAs (ts.map Tx.pr)))(hn:ts.length=n):yBx w base v ts:=by
 subst hn;rcases h.2 with⟨h0,h1⟩|⟨g,cap,cur,hv,_⟩
 .exact .inl ⟨List.eq_nil_of_length_eq_zero h1,none,0,h0⟩
 .refine .inr ⟨g,cap,hv,?_⟩;unfold OwnP;rw[length_map];rw[hv]at h;exact h
def yBy(w:World)(tbs:List Tb)(e:Ending)(w':World):Prop:=∃(v:Value)(xs:List Tx),e=.returned (.agg #[v])/\yBs w' w.heap.size v xs/\xs.map Tx.tb=tbs/\Below w.heap.size w w'
def yDp(xs:List Tx):Prop:=xs.Pairwise λa b=>∀j,a.v.ownBlock=some j->b.v.ownBlock≠some j
def yV1(w:World)(tbs:List Tb)(e:Ending)(w':World):Prop:=∃(v:Value)(xs:List Tx),e=.returned (.agg #[v])/\yBs w' w.heap.size v xs/\xs.map Tx.tb=tbs/\Below w.heap.size w w'/\yDp xs
theorem yAn.blk{v:Value}(h:yAn w base v rs):∀j,v.ownBlock=some j->base<=j/\j<w.heap.size:=by
 obtain⟨g,cp,hv,hO⟩:=h
 .intro j hj;rw[hv]at hj;have:g=j:=Option.some.inj hj;subst this;exact World.ownsRow.lt hO g rfl
variable {xs:List Tx}
theorem yDp.snoc{t:Tx}(h:yDp xs)(ho:yAw w base xs)(ht:yAn w' w.heap.size t.v t.rs):yDp (xs++ [t]):=by refine List.pairwise_append.2 ⟨h,by simp,λx hx y hy j hj hk=>?_⟩;simp at hy;subst hy;have a1:=(ho.runs x hx).blk j hj;have a2:=ht.blk j hk;omega
theorem yF6(b off cap:Nat)(ts:List Tm)(w:World)(h:yA2 w b off ts)(hB:b<w.heap.size)(hn:ts.length<=1048576)(hs:∀t∈ts,t.l.length<=1048576/\totM t.l<=1048576):
  Calls prog 50 #[.agg #[.slice (some ⟨b,off,none⟩) ts.length cap]] w (yV1 w (ts.map Tm.tb)):=by
 obtain⟨Wa,a6⟩:=qE ((w.alloc (Obj.cells #[.slice (some ⟨b,off,none⟩) ts.length cap] 28)).alloc (Obj.cells #[.slice none 0 0] 28):World);obtain⟨W0,a7⟩:=qE (Wa.alloc (Obj.cells #[.slice none 0 0] 28):World);have ah:Below w.heap.size w Wa:=by rw[a6];exact(qB).alloc (by simp) _
 have aa:Wa.heap.size=w.heap.size+1+1:=by rw[a6];simp
 have an:Below Wa.heap.size Wa W0:=by rw[a7];exact qB
 have ax:W0.heap.size=w.heap.size+1+1+1:=by rw[a7];simp[aa]
 have au:Hid (∀wx,Below Wa.heap.size Wa wx->wx.cell? ⟨w.heap.size,0,none⟩=some (.slice (some ⟨b,off,none⟩) ts.length cap)/\wx.cell? ⟨w.heap.size+1,0,none⟩=some (.slice none 0 0)/\wx.frozen? ⟨w.heap.size+1,0,none⟩=false/\yA2 wx b off ts/\b<wx.heap.size):=by
  intro wx hx;have sx:=hx.size;refine⟨?_,?_,?_,(h.below ah hB).below hx (by omega),by omega⟩
  .rw[hx.cell (p:=⟨w.heap.size,0,none⟩) (by show w.heap.size<Wa.heap.size;omega),a6];simp[go_sem]
  .rw[hx.cell (p:=⟨w.heap.size+1,0,none⟩) (by show w.heap.size+1<Wa.heap.size;omega),a6];simp[go_sem]
  .rw[hx.frozen (p:=⟨w.heap.size+1,0,none⟩) (by show w.heap.size+1<Wa.heap.size;omega),a6];simp[go_sem]
 have HS:Hid (∀t∈ts,t.l.length<=1048576/\totM t.l<=1048576):=hs;have c0:W0.cell? ⟨w.heap.size+1+1,0,none⟩=some (.slice none 0 0):=by rw[a7,<-aa];simp
 have f0:W0.frozen? ⟨w.heap.size+1+1,0,none⟩=false:=by rw[a7,<-aa];simp
 clear h hs;go_enter func50,ntmps50;go_wp2_with fail;rw[<-a6,<-a7];clear a6 a7;go_loopw[4] (λi wr=>∃(k:Nat)(V:Value)(xs:List Tx),k<=ts.length/\i=.int .i64 k/\(xs.length=k/\yDp xs)/\xs.map Tx.tb=(ts.take k).map Tm.tb/\wr.cell? ⟨w.heap.size+1+1,0,none⟩=some V/\wr.frozen? ⟨w.heap.size+1+1,0,none⟩=false/\wr.ownsRow W0.heap.size 56 2 V k (yAs (xs.map Tx.pr))/\yAw wr W0.heap.size xs/\Below Wa.heap.size Wa wr/\W0.heap.size<=wr.heap.size) (λi _=>ts.length-(intOf i).toNat);case atStart=>exact⟨0,.slice none 0 0,[],zero_le _,rfl,⟨rfl,List.Pairwise.nil⟩,rfl,c0,f0,World.ownsRow_nil ..,⟨λt ht=>by simp at ht,λt ht=>by simp at ht⟩,an,Nat.le_refl _⟩
 case round=>
  obtain⟨k,V,xs,hk,rfl,ad,ac,cV,fV,ab,ae,hb,af⟩:=hrel;have HR:Hid ((xs.length=k/\yDp xs)/\xs.map Tx.tb=(ts.take k).map Tm.tb/\wr.ownsRow W0.heap.size 56 2 V k (yAs (xs.map Tx.pr))/\yAw wr W0.heap.size xs):=⟨ad,ac,ab,ae⟩;have ay:V.cells=#[V]:=by rcases ab.2 with⟨q,_⟩|⟨g2,cp,cur,q,_⟩<;>rw[q]<;>rfl
  clear ad ac ab ae;obtain⟨d0,d1,d2,d3,d4⟩:=au.out wr hb;have HT:Hid (yA2 wr b off ts):=d3;clear d3;by_cases hlt:k<ts.length
  .obtain⟨t,ht⟩:∃t,ts[k]?=some t:=⟨_,getElem?_eq_getElem hlt⟩;obtain⟨e0,e1,ha⟩:=HT.out k t ht;have HD:Hid (ts[k]?=some t/\t.at wr/\t.l.length<=1048576/\totM t.l<=1048576):=⟨ht,ha,HS.out t (mem_of_getElem? ht)⟩;clear ht ha;have zk:(k:Int)<(ts.length:Int):=by omega
   have HK:Hid (∀w',Below W0.heap.size wr w'->w'.cell? ⟨w.heap.size+1+1,0,none⟩=some V/\w'.frozen? ⟨w.heap.size+1+1,0,none⟩=false/\w'.cell? ⟨w.heap.size,0,none⟩=some (.slice (some ⟨b,off,none⟩) ts.length cap)/\w'.cell? ⟨b,off+k*2,none⟩=some (.string t.lo)/\w'.cell? ⟨b,off+k*2+1,none⟩=some (.slice (some ⟨t.b,t.off,none⟩) t.l.length t.cap)):=by intro w' k';exact⟨by rw[k'.cell (p:=⟨w.heap.size+1+1,0,none⟩) (by show w.heap.size+1+1<W0.heap.size;omega)];exact cV,by rw[k'.frozen (p:=⟨w.heap.size+1+1,0,none⟩) (by show w.heap.size+1+1<W0.heap.size;omega)];exact fV,by rw[k'.cell (p:=⟨w.heap.size,0,none⟩) (by show w.heap.size<W0.heap.size;omega)];exact d0,by rw[k'.cell (p:=⟨b,off+k*2,none⟩) (by show b<W0.heap.size;omega)];exact e0,by rw[k'.cell (p:=⟨b,off+k*2+1,none⟩) (by show b<W0.heap.size;omega)];exact e1⟩
   go_upto_region 5 with fail;have av:Hid (∀X,Below wr.heap.size wr X->Calls prog 53 #[.slice (some ⟨t.b,t.off,none⟩) t.l.length t.cap] X λe w'=>∃(ua:Option Addr)(un uc:Nat)(rs:List Rw),e=.returned (.slice ua un uc)/\Hid (yZq w' wr.heap.size (.slice ua un uc) t.l rs/\Below wr.heap.size wr w')/\w'.cell? ⟨w.heap.size+1+1,0,none⟩=some V/\w'.cell? ⟨w.heap.size,0,none⟩=some (.slice (some ⟨b,off,none⟩) ts.length cap)/\w'.cell? ⟨b,off+k*2,none⟩=some (.string t.lo)/\w'.cell? ⟨b,off+k*2+1,none⟩=some (.slice (some ⟨t.b,t.off,none⟩) t.l.length t.cap)/\(w'.alloc (Obj.cells #[.string t.lo,.slice ua un uc] 56)).cell? ⟨w.heap.size+1+1,0,none⟩=some V):=by intro X hX;refine(yCy t.u t.l X (HD.2.1.below hX).ins HD.2.2.1 HD.2.2.2).mono ?_;rintro e w' ⟨u,rs,he,hC,_,aq⟩;have k':=hX.trans (aq.mono hX.size);have s':=k'.size;obtain⟨ua,un,uc,rfl⟩:=hC.row.isSlice;obtain⟨q0,q1,q2,q3,q4⟩:=HK.out w' (k'.mono (by omega));obtain⟨p0,_⟩:=HK.out (w'.alloc (Obj.cells #[.string t.lo,.slice ua un uc] 56)) ((k'.alloc s' _).mono (by omega));exact⟨ua,un,uc,rs,he,⟨⟨hC.row.mono hX.size,λr hr=>(hC.ents r hr).mono hX.size,hC.apart,hC.same⟩,k'⟩,q0,q2,q3,q4,p0⟩
   have aw:Hid (∀(v1 w2:World)(ua:Option Addr)(un uc g3 n3 y:Nat),Below wr.heap.size wr v1->AppT (v1.alloc (Obj.cells #[.string t.lo,.slice ua un uc] 56)) w2 W0.heap.size V (.slice (some ⟨g3,0,none⟩) n3 y) (xs.map Tx.pr) [(t.lo,.slice ua un uc)]->w2.cell? ⟨w.heap.size+1+1,0,none⟩=some V/\w2.frozen? ⟨w.heap.size+1+1,0,none⟩=false/\w2.cell? ⟨w.heap.size,0,none⟩=some (.slice (some ⟨b,off,none⟩) ts.length cap)/\w2.cell? ⟨b,off+k*2,none⟩=some (.string t.lo)/\w2.cell? ⟨b,off+k*2+1,none⟩=some (.slice (some ⟨t.b,t.off,none⟩) t.l.length t.cap)):=by intro v1 w2 ua un uc g3 n3 y hb1 a8;have s1:=hb1.size;have hb2:Below W0.heap.size wr w2:=((hb1.mono (by omega)).alloc (by omega) _).grown a8.grown (by simp;omega) (λj hj=>yCl HR.2.2.1 j hj);exact HK.out w2 hb2
   have hS:SW (λw':World=>w'.cell? ⟨w.heap.size+1+1,0,none⟩=some V/\w'.cell? ⟨w.heap.size,0,none⟩=some (.slice (some ⟨b,off,none⟩) ts.length cap)/\w'.cell? ⟨b,off+k*2,none⟩=some (.string t.lo)/\w'.cell? ⟨b,off+k*2+1,none⟩=some (.slice (some ⟨t.b,t.off,none⟩) t.l.length t.cap)) wr.drew:=by obtain⟨q0,q1,q2,q3,q4⟩:=HK.out wr.drew ((Below.refl _ _).drew);exact⟨q0,q2,q3,q4⟩
   refine wpR 19 hS ?_;refine qU 0 ?vq0 rfl ?yq0 hS ?_;case yq0=>exact zzR0
   try simp only[qA]
   refine qU 1 ?vq1 rfl ?yq1 hS ?_;case yq1=>exact zzR0
   try simp only[qA]
   refine qU 2 ?vq2 rfl ?yq2 hS ?_;case yq2=>exact zzR0
   try simp only[qA]
   refine qU 3 ?vq3 rfl ?yq3 hS ?_;case yq3=>exact zzR0
   try simp only[qA]
   refine qU 4 ?vq4 rfl ?yq4 hS ?_;case yq4=>exact zzR0
   try simp only[qA]
   refine qU 5 ?vq5 rfl ?yq5 hS ?_;case yq5=>exact zzR0
   try simp only[qA]
   refine qU 6 ?vq6 rfl ?yq6 hS ?_;case yq6=>exact zzR0
   try simp only[qA]
   refine qU 7 ?vq7 rfl ?yq7 hS ?_;case yq7=>exact zzR0
   try simp only[qA]
   refine qU 8 ?vq8 rfl ?yq8 hS ?_;case yq8=>exact zzR0
   try simp only[qA]
   refine qU 9 ?vq9 rfl ?yq9 hS ?_;case yq9=>exact zzR0
   try simp only[qA]
   refine qU 10 ?vq10 rfl ?yq10 hS ?_;case yq10=>exact zzR0
   try simp only[qA]
   refine qU 11 ?vq11 rfl ?yq11 hS ?_;case yq11=>exact zzR0
   try simp only[qA]
   refine qU 12 ?vq12 rfl ?yq12 hS ?_;case yq12=>exact zzR0
   try simp only[qA]
   refine qU 13 ?vq13 rfl ?yq13 hS ?_;case yq13=>exact zzR0
   try simp only[qA]
   refine qO 14 rfl λK hK=>?_;go_simp;go_at_call 53;refine(av.out _ (by repeat (first|exact Below.refl _ _|refine Below.drew ?_))).mono ?_;rintro r v1 ⟨ua,un,uc,rs,rfl,a0,n0,n2,n3,n4,n5⟩;refine hK.out _ _ (.inr ⟨n0,n2,n3,n4⟩) ?_;clear hK;try simp only[qA]
   refine yBh (i:=15) (v:=?vq15) rfl (by kernel_rfl) (by kernel_rfl) (by kernel_rfl) (by kernel_rfl) (by decide) (λ_ _ _ h=>h) (Or.inl ⟨by rfl,?yq15⟩) (show _/\_ from⟨n0,n2,n3,n4⟩) ?_;case yq15=>exact zzR0
   try simp only[qA]
   obtain⟨p0,p1,p2,p3,p4⟩:=HK.out (v1.alloc (Obj.cells #[.string t.lo,.slice ua un uc] 56)) ((a0.2.alloc a0.2.size _).mono (by omega));refine qO 16 rfl λK hK=>?_;go_simp;refine hK.out _ _ (.inr ⟨p0,p2,p3,p4⟩) ?_;clear hK;try simp only[qA]
   refine qO 17 rfl λK hK=>?_;refine yB6 _ (by rfl) _ _ (by rfl) W0.heap.size V (xs.map Tx.pr) v1.heap.size 0 1 1 [(t.lo,.slice ua un uc)] (by rfl) (by rfl) rfl ?_ ?_ ?_ ?_ ?_ ?_
   .rw[length_map,HR.1.1];exact World.ownsRow.alloc (yB HR.2.2.1 a0.2) _
   .exact yCh
   .intro p hp;simp at hp;subst hp;rfl
   .rw[length_map,HR.1.1];simp;omega
   .have:=a0.2.size;simp;omega
   intro v' w2 a8;obtain⟨g3,y,rfl⟩:=a8.form (.inr (by simp));obtain⟨m0,m1,m2,m3,m4⟩:=aw.out v1 w2 ua un uc g3 _ y a0.2 a8;have a9:Hid (AppT (v1.alloc (Obj.cells #[.string t.lo,.slice ua un uc] 56)) w2 W0.heap.size V (.slice (some ⟨g3,0,none⟩) (xs.map Tx.pr++ [(t.lo,Value.slice ua un uc)]).length y) (xs.map Tx.pr) [(t.lo,.slice ua un uc)]):=a8;clear a8;have ag:(xs.map Tx.pr++ [(t.lo,Value.slice ua un uc)]).length=k+1:=by rw[length_append,length_map,HR.1.1];rfl
   rw[ag]at a9|-;refine hK.out _ _ (.inr ⟨m0,m2,m3,m4⟩) ?_;clear hK;try simp only[qA]
   refine yBh (i:=18) (v:=?vq18) rfl (by kernel_rfl) (by kernel_rfl) (by kernel_rfl) (by kernel_rfl) (by decide) (λ_ _ _ h=>h) (Or.inl ⟨by rfl,?yq18⟩) (show _/\_ from⟨m0,m2,m3,m4⟩) ?_;case yq18=>exact zzR0
   try simp only[qA]
   refine qO 19 rfl λK hK=>?_;go_simp;refine hK.out _ _ (.inl rfl) ?_;clear hK;try simp only[qA]
   refine qD ?_;have HN:Hid (∃a5:List Tx,(a5.length=k+1/\yDp a5)/\a5.map Tx.tb=(ts.take (k+1)).map Tm.tb/\(w2.setCell ⟨w.heap.size+1+1,0,none⟩ (.slice (some ⟨g3,0,none⟩) (k+1) y)).ownsRow W0.heap.size 56 2 (.slice (some ⟨g3,0,none⟩) (k+1) y) (k+1) (yAs (a5.map Tx.pr))/\yAw (w2.setCell ⟨w.heap.size+1+1,0,none⟩ (.slice (some ⟨g3,0,none⟩) (k+1) y)) W0.heap.size a5):=by
    obtain⟨q1,q2,q3,q4⟩:=HR.out;have hA:=a9.out;have hb1:=a0.2;have am:Below v1.heap.size v1 (v1.alloc (Obj.cells #[.string t.lo,.slice ua un uc] 56)):=qB;have al:=World.ownsRow.alloc (yB q3 hb1) (Obj.cells #[.string t.lo,.slice ua un uc] 56);have hC:=a0.1;have aj:yAw v1 W0.heap.size (xs++ [⟨t.lo,.slice ua un uc,rs⟩]):=(q4.below hb1).snoc (hC.row.mono af) (λr hr=>(hC.ents r hr).mono af);have ai:yAw w2 W0.heap.size (xs++ [⟨t.lo,.slice ua un uc,rs⟩]):=(aj.below am).grown al hA.grown;refine⟨xs++ [⟨t.lo,.slice ua un uc,rs⟩],⟨by simp[q1.1],q1.2.snoc q4 hC.row⟩,?_,?_,ai.set _ _ _ (by omega)⟩
    .rw[take_add_one,HD.1,map_append,map_append,q2];simp[Tx.tb,Tm.tb,hC.same]
    .have h5:=hA.row;rw[ag]at h5;rw[map_append];exact yE7 h5 _ _ _ (by omega)
   have ao:Below Wa.heap.size Wa (w2.setCell ⟨w.heap.size+1+1,0,none⟩ (.slice (some ⟨g3,0,none⟩) (k+1) y)):=by have hb1:=a0.2;have s1:=hb1.size;have hb2:Below W0.heap.size wr w2:=((hb1.mono (by omega)).alloc (by omega) _).grown a9.grown (by simp;omega) (λj hj=>yCl HR.2.2.1 j hj);exact(hb.trans (hb2.mono (by omega))).setCell (by show Wa.heap.size<=w.heap.size+1+1;omega) _
   have ak:W0.heap.size<=(w2.setCell ⟨w.heap.size+1+1,0,none⟩ (.slice (some ⟨g3,0,none⟩) (k+1) y)).heap.size:=by have s1:=a0.2.size;have s2:=a9.grown.size;simp at s2|-;omega
   have m5:(w2.setCell ⟨w.heap.size+1+1,0,none⟩ (.slice (some ⟨g3,0,none⟩) (k+1) y)).cell? ⟨w.heap.size+1+1,0,none⟩=some (.slice (some ⟨g3,0,none⟩) (k+1) y):=by simp[go_sem,m0]
   have m6:(w2.setCell ⟨w.heap.size+1+1,0,none⟩ (.slice (some ⟨g3,0,none⟩) (k+1) y)).frozen? ⟨w.heap.size+1+1,0,none⟩=false:=by simp[go_sem,m1]
   go_wp2_with fail;go_roundw;case rel=>
    go_light;obtain⟨a5,a1,a2,a3,a4⟩:=HN.out;exact⟨k+1,_,a5,by omega,by go_num,a1,a2,m5,m6,a3,a4,ao,ak⟩
   case measure=>go_light;simp[intOf];omega
  .have zk:¬(k:Int)<(ts.length:Int):=by omega
   have HF:Hid (yBs (wr.setCell ⟨w.heap.size+1,0,none⟩ V) w.heap.size V xs/\xs.map Tx.tb=ts.map Tm.tb/\Below w.heap.size w (wr.setCell ⟨w.heap.size+1,0,none⟩ V)):=by obtain⟨q1,q2,q3,q4⟩:=HR.out;rw[take_of_length_le (by omega)]at q2;have hq:=yE7 q3 (w.heap.size+1) 0 V (by omega);have ht:=q4.set (w.heap.size+1) 0 V (by omega);refine⟨⟨?_,λt ht'=>(ht.runs t ht').mono (by omega),λt ht' r hr=>(ht.ents t ht' r hr).mono (by omega)⟩,q2,((ah.trans (hb.mono (by omega))).setCell (by show w.heap.size<=w.heap.size+1;omega) _)⟩;exact yHs (yDr hq (by omega)) (by rw[q1.1])
   have ar:∃va vn vc,V=.slice va vn vc:=by rcases HR.2.2.1.2 with⟨q,_⟩|⟨g2,cp,cur,q,_⟩<;>exact⟨_,_,_,q⟩
   obtain⟨va,vn,vc,rfl⟩:=ar;go_wp2_with fail;refine bodyPost_ret (v:=.agg #[.slice va vn vc]) (by simp[results,results50,go_sem,d1]) rfl ⟨_,xs,rfl,HF.1,HF.2.1,HF.2.2,HR.1.2⟩
theorem yBz(b off cap:Nat)(ts:List Tm)(w:World)(h:yA2 w b off ts)(hB:b<w.heap.size)(hn:ts.length<=1048576)(hs:∀t∈ts,t.l.length<=1048576/\totM t.l<=1048576):
  Calls prog 50 #[.agg #[.slice (some ⟨b,off,none⟩) ts.length cap]] w λe w'=>yBy w (ts.map Tm.tb) e w':=
 (yF6 b off cap ts w h hB hn hs).mono λe w' ⟨v,xs,h1,h2,h3,h4,_⟩=>⟨v,xs,h1,h2,h3,h4⟩
structure Ty where
 lo:ByteArray
 v:Value
 l:List Rm
def Ty.tb(t:Ty):Tb:=⟨t.lo,esM t.l⟩
def yDk(w:World)(b off:Nat)(ts:List Ty):Prop:=∀i t,ts[i]?=some t->w.cell? ⟨b,off+i*2,none⟩=some (.string t.lo)/\w.cell? ⟨b,off+i*2+1,none⟩=some t.v/\yC9 w t.v t.l
variable {off:Nat}
theorem yDk.below{b:Nat}{ts:List Ty}(h:yDk w b off ts)(hb:Below w.heap.size w w')(hlt:b<w.heap.size):yDk w' b off ts:=by exact yX2
def Tm.ty(t:Tm):Ty:=⟨t.lo,t.u,t.l⟩
theorem yA2.tys{b:Nat}{ts:List Tm}(h:yA2 w b off ts):yDk w b off (ts.map Tm.ty):=by
 intro i t ht;rw[getElem?_map]at ht;cases hp:ts[i]? with
 |none=>rw[hp]at ht;cases ht
 |some p=>
  rw[hp]at ht;simp at ht;subst ht;obtain⟨h1,h2,h3⟩:=h i p hp;exact⟨h1,h2,h3.ins⟩
theorem yQd{t:Tx}(h:yHi xs)(h1:∀x∈xs,∀r∈x.rs,∀k,r.k=some k->k<n)(h2:∀r∈t.rs,∀k,r.k=some k->n<=k)(h3:yKf t.rs):yHi (xs++ [t]):=by unfold yHi;rw[flatMap_append];refine List.pairwise_append.2 ⟨h,(by simp only[flatMap_cons,List.flatMap_nil,append_nil];exact h3),λa ha b hb k hk hk'=>?_⟩;obtain⟨x,hx,hr⟩:=mem_flatMap.1 ha;simp at hb;have q1:=h1 x hx a hr k hk;have q2:=h2 b hb k hk';omega
def yD9(w:World)(tbs:List Tb)(e:Ending)(w':World):Prop:=∃(g cp:Nat)(xs:List Tx),e=.returned (.agg #[.slice (some ⟨g,0,none⟩) xs.length cp])/\yBs w' w.heap.size (.slice (some ⟨g,0,none⟩) xs.length cp) xs/\yHi xs/\xs.map Tx.tb=tbs/\Below w.heap.size w w'
theorem yCp(b off cap:Nat)(ts:List Ty)(w:World)(h:yDk w b off ts)(hB:b<w.heap.size)(hn:ts.length<=1048576)(hs:∀t∈ts,t.l.length<=1048576/\totM t.l<=1048576):
  Calls prog 64 #[.agg #[.slice (some ⟨b,off,none⟩) ts.length cap]] w λe w'=>yD9 w (ts.map Ty.tb) e w':=by
 obtain⟨iT,aN,aD,aC,aB⟩:=info_parts Tryz.infoTab;have an:Hid (prog.info? 56=some iT/\iT.zero=some (.agg #[.string ⟨#[]⟩,.slice none 0 0])/\iT.size=2/\iT.bytes=40):=⟨aN,aD,aC,aB⟩;obtain⟨iR,aO,aG,aF,aE⟩:=info_parts Tryz.infoRun;have ao:Hid (prog.info? 60=some iR/\iR.zero=some (.agg #[.slice none 0 0])/\iR.size=1/\iR.bytes=24):=⟨aO,aG,aF,aE⟩;clear aN aD aC aB aO aG aF aE;obtain⟨Wa,ab⟩:=qE ((w.alloc (Obj.cells #[.slice (some ⟨b,off,none⟩) ts.length cap] 28)).alloc (Obj.cells #[.slice none 0 0] 28):World);have aR:Below w.heap.size w Wa:=by rw[ab];exact(qB).alloc (by simp) _
 have aA:Wa.heap.size=w.heap.size+1+1:=by rw[ab];simp
 have al:Hid (∀wx,Below Wa.heap.size Wa wx->wx.cell? ⟨w.heap.size,0,none⟩=some (.slice (some ⟨b,off,none⟩) ts.length cap)/\wx.cell? ⟨w.heap.size+1,0,none⟩=some (.slice none 0 0)/\wx.frozen? ⟨w.heap.size+1,0,none⟩=false/\yDk wx b off ts/\b<wx.heap.size):=by
  intro wx hx;have sx:=hx.size;refine⟨?_,?_,?_,(h.below aR hB).below hx (by omega),by omega⟩
  .rw[hx.cell (p:=⟨w.heap.size,0,none⟩) (by show w.heap.size<Wa.heap.size;omega),ab];simp[go_sem]
  .rw[hx.cell (p:=⟨w.heap.size+1,0,none⟩) (by show w.heap.size+1<Wa.heap.size;omega),ab];simp[go_sem]
  .rw[hx.frozen (p:=⟨w.heap.size+1,0,none⟩) (by show w.heap.size+1<Wa.heap.size;omega),ab];simp[go_sem]
 have HS:Hid (∀t∈ts,t.l.length<=1048576/\totM t.l<=1048576):=hs;clear h hs;obtain⟨c0,_⟩:=al.out Wa (Below.refl _ _);go_enter func64,ntmps64;go_upto_region 1 with fail;rw[<-ab];clear ab;go_wp2_with (at_make;refine wpList_make_own _ rfl _ _ 26 rfl Wa.heap.size 56 iT _ 2 underlying26 an.1 an.2.1 an.2.2.1 _ _ _ ts.length rfl rfl rfl ?hb ?hm ?hs ?_);case hb=>rw[an.2.2.2];omega
 case hm=>unfold maxLen;omega
 case hs=>exact Nat.le_refl _
 intro w1 af ag;have bd:Hid (w1.ownsRow (w.heap.size+1+1) 56 2 (.slice (some ⟨w.heap.size+1+1,0,none⟩) 0 ts.length) 0 []):=af;have hb1:Below Wa.heap.size Wa w1:=(Below.refl _ _).grown ag (Nat.le_refl _) (λk hk=>by cases hk);clear af ag c0;obtain⟨c0,_⟩:=al.out w1 hb1;go_wp2_with fail;clear c0;go_loopw[3,16] (λo i wr=>∃(k g cp:Nat)(xs:List Tx),k<=ts.length/\i=.int .i64 k/\o=.slice (some ⟨g,0,none⟩) k cp/\xs.length=k/\xs.map Tx.tb=(ts.take k).map Ty.tb/\wr.ownsRow Wa.heap.size 56 2 (.slice (some ⟨g,0,none⟩) k cp) k (yAs (xs.map Tx.pr))/\yAw wr Wa.heap.size xs/\yHi xs/\Below Wa.heap.size Wa wr) (λ_ i _=>ts.length-(intOf i).toNat);case atStart=>exact⟨0,w.heap.size+1+1,ts.length,[],zero_le _,rfl,rfl,rfl,rfl,(by rw[aA];exact bd.out),⟨λt ht=>by simp at ht,λt ht=>by simp at ht⟩,List.Pairwise.nil,hb1⟩
 case round=>
  obtain⟨wo,aX⟩:∃v:World,v=wr:=⟨_,rfl⟩;subst aX;obtain⟨k,g,cp,xs,hk,rfl,rfl,aI,aH,a9,aJ,aj,hb⟩:=hrel;have HR:Hid (xs.length=k/\xs.map Tx.tb=(ts.take k).map Ty.tb/\wo.ownsRow Wa.heap.size 56 2 (.slice (some ⟨g,0,none⟩) k cp) k (yAs (xs.map Tx.pr))/\yAw wo Wa.heap.size xs/\yHi xs):=⟨aI,aH,a9,aJ,aj⟩;have hg:=World.ownsRow.lt a9 g rfl;have b3:=hb.size;clear aI aH a9 aJ aj;by_cases hlt:k<ts.length
  .obtain⟨t,ht⟩:∃t,ts[k]?=some t:=⟨_,getElem?_eq_getElem hlt⟩;obtain⟨_,_,_,d3,d4⟩:=al.out wo hb;obtain⟨e0,e1,aq⟩:=d3 k t ht;obtain⟨lo,tv,l⟩:=t;simp only at e0 e1 aq;obtain⟨ad,vc,rfl,aQ⟩:=aq.shape;have hl2:=HS.out _ (mem_of_getElem? ht);simp only at hl2;have bj:l.length<=1048576:=hl2.1;have HD:Hid (ts[k]?=some ⟨lo,.slice ad l.length vc,l⟩/\totM l<=1048576/\(∀(i:Nat)(r:Rm),l[i]?=some r->∃b off,ad=some ⟨b,off,none⟩/\b<wo.heap.size/\yB5 wo b off l)):=⟨ht,hl2.2,aQ⟩;clear d3 ht aq hl2 aQ;have zk:(k:Int)<(ts.length:Int):=by omega
   obtain⟨W1,ae⟩:=qE (wo.alloc (Obj.cells #[.string lo,.slice ad l.length vc] 56):World);have aS:Below wo.heap.size wo W1:=by rw[ae];exact qB
   have bg:W1.heap.size=wo.heap.size+1:=by rw[ae];simp
   have ay:Hid (∀wx,Below W1.heap.size W1 wx->wx.cell? ⟨wo.heap.size,0,none⟩=some (.string lo)/\wx.cell? ⟨wo.heap.size,1,none⟩=some (.slice ad l.length vc)):=by
    intro wx hx;constructor
    .rw[hx.cell (p:=⟨wo.heap.size,0,none⟩) (by show wo.heap.size<W1.heap.size;omega),ae];simp
    .rw[hx.cell (p:=⟨wo.heap.size,1,none⟩) (by show wo.heap.size<W1.heap.size;omega),ae];simp
   obtain⟨n0,n1⟩:=ay.out W1 (Below.refl _ _);go_upto_region 5 with fail;rw[<-ae];clear ae;go_wp2_with (at_make;refine wpList_make_own _ rfl _ _ 54 rfl (wo.heap.size+1) 60 iR _ 1 underlying54 ao.1 ao.2.1 ao.2.2.1 _ _ _ l.length rfl rfl rfl ?hb ?hm ?hs ?_);case hb=>rw[ao.2.2.2];omega
   case hm=>unfold maxLen;omega
   case hs=>omega
   intro w2 af ag;have hb2:Below W1.heap.size W1 w2:=(Below.refl _ _).grown ag (Nat.le_refl _) (λk hk=>by cases hk);have bb:Hid (w2.ownsRow (wo.heap.size+1) 60 1 (.slice (some ⟨wo.heap.size+1,0,none⟩) 0 l.length) 0 []):=af;clear ag n0 n1 af;obtain⟨n0,n1⟩:=ay.out w2 hb2;go_wp2_with fail;clear n0 n1 e0 e1;go_loopw[6,27] (λo i wr=>∃(j g6 y:Nat)(rs:List Rw),j<=l.length/\i=.int .i64 j/\o=.slice (some ⟨g6,0,none⟩) j y/\rs.length=j/\rs.map Rw.es=esM (l.take j)/\wr.ownsRow (wo.heap.size+1) 60 1 (.slice (some ⟨g6,0,none⟩) j y) j (rs.map Rw.u)/\(∀r∈rs,OwnK wr (wo.heap.size+1) r)/\yKf rs/\Below W1.heap.size W1 wr) (λ_ i _=>l.length-(intOf i).toNat);case atStart=>exact⟨0,wo.heap.size+1,l.length,[],zero_le _,rfl,rfl,rfl,rfl,bb.out,λr hr=>by simp at hr,List.Pairwise.nil,hb2⟩
   case round=>
    obtain⟨wi,aY⟩:∃v:World,v=wr:=⟨_,rfl⟩;subst aY;obtain⟨j,g6,y,rs,hj,rfl,rfl,aK,aP,a9,aL,aj,ah⟩:=hrel;have am:Hid (rs.length=j/\rs.map Rw.es=esM (l.take j)/\wi.ownsRow (wo.heap.size+1) 60 1 (.slice (some ⟨g6,0,none⟩) j y) j (rs.map Rw.u)/\(∀r∈rs,OwnK wi (wo.heap.size+1) r)/\yKf rs):=⟨aK,aP,a9,aL,aj⟩;have b8:=World.ownsRow.lt a9 g6 rfl;have b4:=ah.size;clear aK aP a9 aL aj;by_cases hjl:j<l.length
    .obtain⟨r,hr⟩:∃r,l[j]?=some r:=⟨_,getElem?_eq_getElem hjl⟩;obtain⟨b',bf,rfl,ba,aT⟩:=HD.2.2 j r hr;have aa:Below wo.heap.size wo wi:=aS.trans (ah.mono (by omega));obtain⟨m0,ha⟩:=(aT.below aa ba) j r hr;have b5:r.es.length<=1048576:=by have:=yLy (mem_of_getElem? hr);have:=HD.2.1;omega
     have aV:Hid (l[j]?=some r/\r.at wi):=⟨hr,ha⟩;clear hr ha aT;have zj:(j:Int)<(l.length:Int):=by omega
     obtain⟨W3,ak⟩:=qE (wi.alloc (Obj.cells #[.slice (some ⟨r.b,r.off,none⟩) r.es.length r.cap] 60):World);have hb3:Below wi.heap.size wi W3:=by rw[ak];exact qB
     have bi:W3.heap.size=wi.heap.size+1:=by rw[ak];simp
     have p0:W3.cell? ⟨wi.heap.size,0,none⟩=some (.slice (some ⟨r.b,r.off,none⟩) r.es.length r.cap):=by rw[ak];simp
     go_upto_region 9 with fail;rw[<-ak];clear ak;go_wp2_with fail;refine(ySq r _ (aV.2.below hb3) b5).mono ?_;rintro e w4 ⟨g4,ac,rfl,aU,b9⟩;have aW:Hid (OwnE w4 W3.heap.size g4 ac r.es):=aU;have ai:Below wi.heap.size wi w4:=hb3.trans (b9.mono (by omega));have s4:=ai.size;have a0:(rs.map Rw.u).length=j:=by rw[length_map];exact am.1
     have ax:Hid ((w4.alloc (Obj.cells #[.slice (some ⟨g4,0,none⟩) r.es.length ac] 60)).ownsRow (wo.heap.size+1) 60 1 (.slice (some ⟨g6,0,none⟩) j y) (rs.map Rw.u).length (rs.map Rw.u)):=by show World.ownsRow _ _ _ _ _ _ _;rw[a0];exact World.ownsRow.alloc (yB am.2.2.1 ai) _
     clear aU p0 m0;go_wp2_with (at_builtin;refine yA8 _ rfl _ _ rfl (wo.heap.size+1) (.slice (some ⟨g6,0,none⟩) j y) (rs.map Rw.u) w4.heap.size 0 1 1 [.slice (some ⟨g4,0,none⟩) r.es.length ac] rfl rfl rfl ax.out yCd ?h1 ?hl ?hb ?_);case h1=>intro u hu;simp at hu;subst hu;rfl
     case hl=>rw[a0];simp;omega
     case hb=>simp;omega
     intro v' w5 a6;have hz:(rs.map Rw.u++ [Value.slice (some ⟨g4,0,none⟩) r.es.length ac]).length=j+1:=by simp[a0]
     obtain⟨g5,cp5,rfl⟩:=a6.form (by intro q;cases q);have aw:=a6.row;rw[hz]at aw|-;have ar:=a6.grown;clear a6;have HN:Hid (∃a8:List Rw,a8.length=j+1/\a8.map Rw.es=esM (l.take (j+1))/\w5.ownsRow (wo.heap.size+1) 60 1 (.slice (some ⟨g5,0,none⟩) (j+1) cp5) (j+1) (a8.map Rw.u)/\(∀r∈a8,OwnK w5 (wo.heap.size+1) r)/\yKf a8):=by
      obtain⟨q1,q2,q3,q4,q5⟩:=am.out;have au:Below w4.heap.size w4 (w4.alloc (Obj.cells #[.slice (some ⟨g4,0,none⟩) r.es.length ac] 60)):=qB;have aM:∀x:Rw,OwnK w4 (wo.heap.size+1) x->OwnK w5 (wo.heap.size+1) x:=λx hx=>by
       refine(hx.below au).kept ar (λk' hk' q=>?_);have hq:g6=k':=Option.some.inj q;subst hq;rcases hx with⟨h0,_⟩|⟨g2,bk,h1,h2,hE⟩
       .rw[h0]at hk';cases hk'
       .rw[h1]at hk';have e2:g2=g6:=Option.some.inj hk';subst e2;exact yAb (yB q3 ai) hE (by decide) _ rfl rfl
      refine⟨rs++ [⟨.slice (some ⟨g4,0,none⟩) r.es.length ac,r.es,some g4⟩],by simp[q1],?_,?_,?_,?_⟩
      .rw[map_append,q2,take_add_one,aV.1];simp[esM]
      .rw[map_append];exact aw
      .intro x hx;rcases List.mem_append.1 hx with hx|hx
       .exact aM x ((q4 x hx).below ai)
       .simp at hx;subst hx;exact aM _ ((OwnK.mono (.inr ⟨g4,ac,rfl,rfl,aW.out⟩) (by omega)))
      .refine yLs (n:=wi.heap.size) q5 (λx hx k' hk'=>((q4 x hx).key hk').2) (λk' hk'=>?_);have e2:g4=k':=Option.some.inj hk';subst e2;have:=aW.lt.1;omega
     have av:Below W1.heap.size W1 w5:=((ah.trans (ai.mono b4)).alloc (by omega) _).grown ar (by simp;omega) (λq hq=>by have e:g6=q:=Option.some.inj hq;have:=b8.1;omega);clear aw ar a0 hz;go_wp2_with fail;go_roundw;case rel=>
      go_light;obtain⟨a8,a1,a2,a3,a4,a5⟩:=HN.out;exact⟨j+1,g5,cp5,a8,by omega,by go_num,rfl,a1,a2,a3,a4,a5,av⟩
     case measure=>go_light;simp[intOf];omega
    .have zj:¬(j:Int)<(l.length:Int):=by omega
     obtain⟨n0,n1⟩:=ay.out wi ah;have aa:Below wo.heap.size wo wi:=aS.trans (ah.mono (by omega));have s4:=aa.size;have a0:(xs.map Tx.pr).length=k:=by rw[length_map];exact HR.1
     have ax:Hid ((wi.alloc (Obj.cells #[.string lo,.slice (some ⟨g6,0,none⟩) j y] 56)).ownsRow Wa.heap.size 56 2 (.slice (some ⟨g,0,none⟩) k cp) (xs.map Tx.pr).length (yAs (xs.map Tx.pr))):=by show World.ownsRow _ _ _ _ _ _ _;rw[a0];exact World.ownsRow.alloc (yB HR.2.2.1 aa) _
     go_wp2_with (at_builtin;refine yCe _ rfl _ _ rfl Wa.heap.size (.slice (some ⟨g,0,none⟩) k cp) (xs.map Tx.pr) wi.heap.size 0 1 1 [(lo,.slice (some ⟨g6,0,none⟩) j y)] rfl rfl rfl ax.out yCh ?h1 ?hl ?hb ?_);case h1=>first|rfl|(intro p hp;simp at hp;subst hp;rfl)
     case hl=>first|omega|(rw[a0];simp;omega)
     case hb=>first|omega|(simp;omega)
     intro v' w5 a6;have hz:(xs.map Tx.pr++ [(lo,Value.slice (some ⟨g6,0,none⟩) j y)]).length=k+1:=by simp[a0]
     obtain⟨g5,cp5,rfl⟩:=a6.form (.inr (by simp));have az:Hid (AppT (wi.alloc (Obj.cells #[.string lo,.slice (some ⟨g6,0,none⟩) j y] 56)) w5 (w.heap.size+1+1) (.slice (some ⟨g,0,none⟩) k cp) (.slice (some ⟨g5,0,none⟩) (xs.map Tx.pr++ [(lo,Value.slice (some ⟨g6,0,none⟩) j y)]).length cp5) (xs.map Tx.pr) [(lo,.slice (some ⟨g6,0,none⟩) j y)]):=a6;rw[hz]at az|-;clear a6;have HN:Hid (∃a7:List Tx,a7.length=k+1/\a7.map Tx.tb=(ts.take (k+1)).map Ty.tb/\w5.ownsRow Wa.heap.size 56 2 (.slice (some ⟨g5,0,none⟩) (k+1) cp5) (k+1) (yAs (a7.map Tx.pr))/\yAw w5 Wa.heap.size a7/\yHi a7):=by
      obtain⟨q1,q2,q3,q4,q5⟩:=HR.out;obtain⟨r1,r2,r3,r4,r5⟩:=am.out;rw[take_of_length_le (by omega)]at r2;have hA:=az.out;rw[<-aA]at hA;have au:Below wi.heap.size wi (wi.alloc (Obj.cells #[.string lo,.slice (some ⟨g6,0,none⟩) j y] 56)):=qB;have b6:=World.ownsRow.alloc (yB q3 aa) (Obj.cells #[.string lo,.slice (some ⟨g6,0,none⟩) j y] 56);have b7:yAn wi (wo.heap.size+1) (.slice (some ⟨g6,0,none⟩) j y) rs:=yAn.of (us:=rs.map Rw.u) (by rw[length_map,r1];exact r3) rfl;have b0:yAw wi Wa.heap.size (xs++ [⟨lo,.slice (some ⟨g6,0,none⟩) j y,rs⟩]):=(q4.below aa).snoc (b7.mono (by omega)) (λr hr=>(r4 r hr).mono (by omega));have aZ:yAw w5 Wa.heap.size (xs++ [⟨lo,.slice (some ⟨g6,0,none⟩) j y,rs⟩]):=(b0.below au).grown b6 hA.grown;refine⟨xs++ [⟨lo,.slice (some ⟨g6,0,none⟩) j y,rs⟩],by simp[q1],?_,?_,aZ,?_⟩
      .rw[take_add_one,HD.1,map_append,map_append,q2];simp[Tx.tb,Ty.tb,r2]
      .have h5:=hA.row;rw[hz]at h5;rw[map_append];exact h5
      .refine yQd (n:=wo.heap.size) q5 (λx hx r hr k' hk'=>((q4.ents x hx r hr).key hk').2) (λr hr k' hk'=>?_) r5;have:=((r4 r hr).key hk').1;omega
     have av:Below Wa.heap.size Wa w5:=((hb.trans (aa.mono b3)).alloc (by omega) _).grown az.grown (by simp;omega) (λj hj=>by cases hj;exact hg.1);clear a0 hz n0 n1;go_wp2_with fail;go_roundw;case rel=>
      go_light;obtain⟨a7,a1,a2,a3,a4,a5⟩:=HN.out;exact⟨k+1,g5,cp5,a7,by omega,by go_num,rfl,a1,a2,a3,a4,a5,av⟩
     case measure=>go_light;simp[intOf];omega
  .have zk:¬(k:Int)<(ts.length:Int):=by omega
   obtain⟨_,d1,d2,_⟩:=al.out wo hb;have HF:Hid (xs.length=k/\yBs (wo.setCell ⟨w.heap.size+1,0,none⟩ (.slice (some ⟨g,0,none⟩) k cp)) w.heap.size (.slice (some ⟨g,0,none⟩) k cp) xs/\yHi xs/\xs.map Tx.tb=ts.map Ty.tb/\Below w.heap.size w (wo.setCell ⟨w.heap.size+1,0,none⟩ (.slice (some ⟨g,0,none⟩) k cp))):=by obtain⟨q1,q2,q3,q4,q5⟩:=HR.out;rw[take_of_length_le (by omega)]at q2;have hq:=yE7 q3 (w.heap.size+1) 0 (.slice (some ⟨g,0,none⟩) k cp) (by omega);have ht:=q4.set (w.heap.size+1) 0 (.slice (some ⟨g,0,none⟩) k cp) (by omega);exact⟨q1,⟨yHs (yDr hq (by omega)) q1,λt ht'=>(ht.runs t ht').mono (by omega),λt ht' r hr=>(ht.ents t ht' r hr).mono (by omega)⟩,q5,q2,((aR.trans (hb.mono (by omega))).setCell (by show w.heap.size<=w.heap.size+1;omega) _)⟩
   go_wp2_with fail;refine bodyPost_ret (v:=.agg #[.slice (some ⟨g,0,none⟩) k cp]) (by simp[results,results64,go_sem,d1]) rfl ⟨g,cp,xs,by rw[HF.1],by rw[HF.1];exact HF.2.1,HF.2.2.1,HF.2.2.2.1,HF.2.2.2.2⟩
theorem yAw.chg{S:Nat->Prop}{ts:List Tx}(h:yAw w base ts)(hc:Chg S w w')(hne:∀k,base<=k->k<w.heap.size->¬S k):yAw w' base ts:=by refine⟨λt ht=>(h.runs t ht).chg hc (λg hg=>?_),λt ht r hr=>(h.ents t ht r hr).chg hc (λg hg=>hne g ((h.ents t ht r hr).key hg).1 ((h.ents t ht r hr).key hg).2)⟩;exact xAc
theorem yAw.mono{ts:List Tx}(h:yAw w base ts)(hb:base'<=base):yAw w base' ts:=⟨λt ht=>(h.runs t ht).mono hb,λt ht r hr=>(h.ents t ht r hr).mono hb⟩
variable {a:List Tx}
theorem yAw.append{b:List Tx}(h:yAw w base a)(k:yAw w base b):yAw w base (a++b):=
 ⟨λt ht=>by rcases List.mem_append.1 ht with q|q;exact h.runs t q;exact k.runs t q,λt ht=>by rcases List.mem_append.1 ht with q|q;exact h.ents t q;exact k.ents t q⟩
theorem yAw.take(h:yAw w base a)(n:Nat):yAw w base (a.take n):=⟨λt ht=>h.runs t (List.mem_of_mem_take ht),λt ht=>h.ents t (List.mem_of_mem_take ht)⟩
theorem yAw.drop(h:yAw w base a)(n:Nat):yAw w base (a.drop n):=⟨λt ht=>h.runs t (mem_of_mem_drop ht),λt ht=>h.ents t (mem_of_mem_drop ht)⟩
def xCd(w:World)(b:Nat)(ms:List Tx):Prop:=∀i t,ms[i]?=some t->w.cell? ⟨b,i*2,none⟩=some (.string t.lo)/\w.cell? ⟨b,i*2+1,none⟩=some t.v
def xCe(w:World)(base:Nat)(tb:List Tb)(e:Ending)(w':World):Prop:=∃(v:Value)(ys:List Tx),e=.returned (.agg #[v])/\yBx w' w.heap.size v ys/\yAw w' base ys/\ys.map Tx.tb=tb/\Below w.heap.size w w'
theorem yDh(b off cap:Nat)(ts:List Tm)(ms:List Tx)(fr til ob base:Nat)(w:World)(h:yA2 w b off ts)(hB:b<w.heap.size)(hob:xCd w ob ms)(hoB:ob<w.heap.size)(hms:yAw w base ms)(hbase:base<=w.heap.size)(hn:ts.length<=1000)(hmn:ms.length<=1000)(hm0:0<ms.length)(h1:fr<=til)(h2:til<=ts.length)(h0:0<ts.length)
  (hs:∀t∈ts,t.l.length<=1048576/\totM t.l<=1048576):
  Calls prog 73 #[.agg #[.slice (some ⟨b,off,none⟩) ts.length cap],.int .i64 fr,.int .i64 til,.slice (some ⟨ob,0,none⟩) ms.length ms.length] w λe w'=>xCe w base ((ts.take fr).map Tm.tb++ms.map Tx.tb++(ts.drop til).map Tm.tb) e w':=by
 obtain⟨Wa,a8⟩:=qE (((w.alloc (Obj.cells #[.slice (some ⟨b,off,none⟩) ts.length cap] 28)).alloc (Obj.cells #[.slice none 0 0] 28)).alloc (Obj.cells #[.slice none 0 0] 28):World);have ai:Below w.heap.size w Wa:=by rw[a8];exact((qB).alloc (by simp) _).alloc (by simp;omega) _
 have aO:Wa.heap.size=w.heap.size+1+1+1:=by rw[a8];simp
 have aA:Hid (∀wx,Below Wa.heap.size Wa wx->wx.cell? ⟨w.heap.size,0,none⟩=some (.slice (some ⟨b,off,none⟩) ts.length cap)/\wx.cell? ⟨w.heap.size+1,0,none⟩=some (.slice none 0 0)/\wx.frozen? ⟨w.heap.size+1,0,none⟩=false/\wx.cell? ⟨w.heap.size+1+1,0,none⟩=some (.slice none 0 0)/\wx.frozen? ⟨w.heap.size+1+1,0,none⟩=false):=by
  intro wx hx;refine⟨?_,?_,?_,?_,?_⟩
  .rw[hx.cell (p:=⟨w.heap.size,0,none⟩) (by show w.heap.size<Wa.heap.size;omega),a8];simp[go_sem]
  .rw[hx.cell (p:=⟨w.heap.size+1,0,none⟩) (by show w.heap.size+1<Wa.heap.size;omega),a8];simp[go_sem]
  .rw[hx.frozen (p:=⟨w.heap.size+1,0,none⟩) (by show w.heap.size+1<Wa.heap.size;omega),a8];simp[go_sem]
  .rw[hx.cell (p:=⟨w.heap.size+1+1,0,none⟩) (by show w.heap.size+1+1<Wa.heap.size;omega),a8];simp[go_sem]
  .rw[hx.frozen (p:=⟨w.heap.size+1+1,0,none⟩) (by show w.heap.size+1+1<Wa.heap.size;omega),a8];simp[go_sem]
 have aH:Hid (yA2 Wa b off ts/\yAw Wa base ms/\xCd Wa ob ms):=⟨h.below ai hB,hms.below ai,λi t ht=>by
  obtain⟨q0,q1⟩:=hob i t ht
  exact⟨by rw[ai.cell (p:=⟨ob,i*2,none⟩) (by exact hoB)];exact q0,by rw[ai.cell (p:=⟨ob,i*2+1,none⟩) (by exact hoB)];exact q1⟩⟩
 have HS:Hid (∀t∈ts,t.l.length<=1048576/\totM t.l<=1048576):=hs;have HM:Hid (yAw w base ms):=hms;clear h hob hms hs;obtain⟨c0,_⟩:=aA.out Wa (Below.refl _ _);go_enter func73,ntmps73;go_upto_region 2 with fail;rw[<-a8];clear a8;go_wp2_with fail;refine(yBz b off cap ts _ aH.1 (by omega) (by omega) HS.out).mono ?_;rintro e w1 ⟨cv,xs,rfl,ay,ax,hb1⟩;have ad:xs.length=ts.length:=by have:=congrArg List.length ax;simpa using this
 obtain⟨gc,a6,rfl⟩:∃gc a6,cv=.slice (some ⟨gc,0,none⟩) xs.length a6:=by
  rcases ay.row with⟨q,_⟩|⟨g,cp,q,_⟩
  .rw[q]at ad;simp at ad;omega
  .exact⟨g,cp,q⟩
 have s1:=hb1.size;obtain⟨W1,ak⟩:=qE (w1.alloc (Obj.cells #[.slice (some ⟨gc,0,none⟩) xs.length a6] 28):World);obtain⟨CB,au⟩:=qE w1.heap.size;have aF:Below w1.heap.size w1 W1:=by rw[ak];exact qB
 have aC:W1.heap.size=CB+1:=by rw[ak,au];simp
 have aV:w.heap.size+1+1+1<=CB:=by omega
 have aj:Below Wa.heap.size Wa W1:=hb1.trans (aF.mono s1);have ar:=ay.below aF;have aq:OwnP W1 Wa.heap.size gc a6 (xs.map Tx.pr):=by
  rcases ar.row with⟨q,_⟩|⟨g,cp,q,hO⟩
  .rw[q]at ad;simp at ad;omega
  .cases q;exact hO
 have ao:w.heap.size+1+1<gc/\gc<W1.heap.size:=⟨by have:=aq.lt.1;omega,aq.lt.2⟩;have HX:Hid (OwnP W1 Wa.heap.size gc a6 (xs.map Tx.pr)/\yAw W1 Wa.heap.size xs/\xs.map Tx.tb=ts.map Tm.tb):=⟨aq,⟨ar.runs,ar.ents⟩,ax⟩;have HC:Hid (∀w',Chg (λq=>q=w.heap.size+1+1\/W1.heap.size<=q) W1 w'->w'.cell? ⟨CB,0,none⟩=some (.slice (some ⟨gc,0,none⟩) xs.length a6)/\w'.cell? ⟨w.heap.size+1,0,none⟩=some (.slice none 0 0)/\w'.frozen? ⟨w.heap.size+1,0,none⟩=false/\(∀i t,ms[i]?=some t->w'.cell? ⟨ob,0+i*2,none⟩=some (.string t.lo)/\w'.cell? ⟨ob,0+i*2+1,none⟩=some t.v)):=by
  intro w' a3;obtain⟨_,q1,q2,_,_⟩:=aA.out W1 aj;refine⟨?_,?_,?_,λi t ht=>?_⟩
  .rw[a3.cell (p:=⟨CB,0,none⟩) (by show CB<W1.heap.size;omega) (by intro q;rcases q with q|q<;>simp only at q<;>omega),ak,au];simp
  .rw[a3.cell (p:=⟨w.heap.size+1,0,none⟩) (by show w.heap.size+1<W1.heap.size;omega) (by intro q;rcases q with q|q<;>simp only at q<;>omega)];exact q1
  .rw[a3.frozen (p:=⟨w.heap.size+1,0,none⟩) (by show w.heap.size+1<W1.heap.size;omega) (by intro q;rcases q with q|q<;>simp only at q<;>omega)];exact q2
  .obtain⟨y0,y1⟩:=aH.2.2 i t ht;rw[Nat.zero_add];exact⟨by rw[a3.cell (p:=⟨ob,i*2,none⟩) (by show ob<W1.heap.size;omega) (by intro q;rcases q with q|q<;>simp only at q<;>omega),aj.cell (p:=⟨ob,i*2,none⟩) (by show ob<Wa.heap.size;omega)];exact y0,by rw[a3.cell (p:=⟨ob,i*2+1,none⟩) (by show ob<W1.heap.size;omega) (by intro q;rcases q with q|q<;>simp only at q<;>omega),aj.cell (p:=⟨ob,i*2+1,none⟩) (by show ob<Wa.heap.size;omega)];exact y1⟩
 obtain⟨_,_,_,cO,fO⟩:=aA.out W1 aj;clear ay ax ar aq c0;have HL:Hid (xs.length=ts.length):=ad;have aR:xs.length<=1000:=by omega
 have aS:0<xs.length:=by omega
 have aU:fr<=xs.length:=by omega
 have aJ:til<=xs.length:=by omega
 clear ad;have aN:(fr:Int)<=(xs.length:Int):=by omega
 go_upto_region 3 with fail;rw[<-ak,<-au];clear ak au;go_wp2_with fail;go_loopw[11] (λi wr=>∃(k:Nat)(V:Value)(ys:List Tx),k<=fr/\i=.int .i64 k/\ys=xs.take k/\wr.cell? ⟨w.heap.size+1+1,0,none⟩=some V/\wr.frozen? ⟨w.heap.size+1+1,0,none⟩=false/\wr.ownsRow W1.heap.size 56 2 V ys.length (yAs (ys.map Tx.pr))/\Chg (λq=>q=w.heap.size+1+1\/W1.heap.size<=q) W1 wr) (λi _=>fr-(intOf i).toNat);case atStart=>exact⟨0,.slice none 0 0,[],zero_le _,rfl,rfl,cO,fO,World.ownsRow_nil ..,Chg.refl _ _⟩
 case round=>
  obtain⟨k,V,ys,hk,rfl,aw,cV,am,af,y⟩:=hrel;have HY:Hid (ys=xs.take k):=aw;have aQ:ys.length<=1000:=by rw[aw,length_take];omega
  have HR:Hid (wr.ownsRow W1.heap.size 56 2 V ys.length (yAs (ys.map Tx.pr))):=af;clear aw af;by_cases hlt:k<fr
  .have zk:(k:Int)<(fr:Int):=by omega
   obtain⟨x,hx⟩:∃x,xs[k]?=some x:=⟨_,getElem?_eq_getElem (by omega)⟩;obtain⟨xa,xn,xc,ab⟩:=(HX.2.1.runs x (mem_of_getElem? hx)).isSlice;have ac:Hid (∀w',Chg (λq=>q=w.heap.size+1+1\/W1.heap.size<=q) W1 w'->w'.cell? ⟨CB,0,none⟩=some (.slice (some ⟨gc,0,none⟩) xs.length a6)/\w'.cell? ⟨gc,k*2,none⟩=some (.string x.lo)/\w'.cell? ⟨gc,k*2+1,none⟩=some (.slice xa xn xc)):=by
    intro w' a3;obtain⟨q0,q1⟩:=HX.1.cells (p:=x.pr) (i:=k) (by rw[getElem?_map,hx];rfl);have e2:x.pr.2=.slice xa xn xc:=ab;have e1:x.pr.1=x.lo:=rfl;rw[e2]at q1;rw[e1]at q0;refine⟨(HC.out w' a3).1,?_,?_⟩
    .rw[a3.cell (p:=⟨gc,k*2,none⟩) (by exact ao.2) (by intro q;rcases q with q|q<;>simp only at q<;>omega)];exact q0
    .rw[a3.cell (p:=⟨gc,k*2+1,none⟩) (by exact ao.2) (by intro q;rcases q with q|q<;>simp only at q<;>omega)];exact q1
   have HD:Hid (xs[k]?=some x/\x.v=.slice xa xn xc):=⟨hx,ab⟩;clear hx ab;have aL:∃Va Vn Vc,V=.slice Va Vn Vc:=by rcases HR.2 with⟨q,_⟩|⟨g2,cp,cur,q,_⟩<;>exact⟨_,_,_,q⟩
   have zz:(k:Int)<(xs.length:Int):=by omega
   have az:Chg (λq=>q=w.heap.size+1+1\/W1.heap.size<=q) W1 wr.drew:=y.trans (Chg.of_below ((Below.refl _ _).drew));obtain⟨j0,j1,j2⟩:=ac.out wr.drew az;have jV:wr.drew.cell? ⟨w.heap.size+1+1,0,none⟩=some V:=by simpa using cV
   have hS:SW (λw':World=>w'.cell? ⟨w.heap.size+1+1,0,none⟩=some V/\w'.cell? ⟨CB,0,none⟩=some (.slice (some ⟨gc,0,none⟩) xs.length a6)/\w'.cell? ⟨gc,k*2,none⟩=some (.string x.lo)/\w'.cell? ⟨gc,k*2+1,none⟩=some (.slice xa xn xc)) wr.drew:=⟨jV,j0,j1,j2⟩;go_upto_region 6 with fail;refine wpR 10 hS ?_;refine qU 0 ?vr0x1 rfl ?yr0x1 hS ?_;case yr0x1=>exact zzR0
   try simp only[qA]
   refine qU 1 ?vr1x2 rfl ?yr1x2 hS ?_;case yr1x2=>exact zzR0
   try simp only[qA]
   refine qU 2 ?vr2x3 rfl ?yr2x3 hS ?_;case yr2x3=>exact zzR0
   try simp only[qA]
   refine qU 3 ?vr3x4 rfl ?yr3x4 hS ?_;case yr3x4=>exact zzR0
   try simp only[qA]
   refine qU 4 ?vr4x5 rfl ?yr4x5 hS ?_;case yr4x5=>exact zzR0
   try simp only[qA]
   refine qU 5 ?vr5x6 rfl ?yr5x6 hS ?_;case yr5x6=>exact zzR0
   try simp only[qA]
   refine qU 6 ?vr6x7 rfl ?yr6x7 hS ?_;case yr6x7=>exact zzR0
   try simp only[qA]
   refine qO 7 rfl λK hK=>?_;go_simp;obtain⟨W3,a5⟩:=qE ((wr.alloc (Obj.cells #[.string x.lo,.slice xa xn xc] 56)).drew:World);have hb3:Below wr.heap.size wr W3:=by rw[a5];exact(qB).drew
   have aI:W3.heap.size=wr.heap.size+1:=by rw[a5];simp
   have al:Chg (λq=>q=w.heap.size+1+1\/W1.heap.size<=q) W1 W3:=y.trans (Chg.of_below hb3);have ah:∀i p,[(x.lo,Value.slice xa xn xc)][i]?=some p->W3.cell? ⟨wr.heap.size,0+i*2,none⟩=some (.string p.1)/\W3.cell? ⟨wr.heap.size,0+i*2+1,none⟩=some p.2:=by intro i p hp;have:=yCh (w:=wr) (t:=56) i p hp;rw[a5];simpa using this
   have a9:Hid (W3.ownsRow W1.heap.size 56 2 V (ys.map Tx.pr).length (yAs (ys.map Tx.pr))/\(∀i p,[(x.lo,Value.slice xa xn xc)][i]?=some p->W3.cell? ⟨wr.heap.size,0+i*2,none⟩=some (.string p.1)/\W3.cell? ⟨wr.heap.size,0+i*2+1,none⟩=some p.2)):=⟨by rw[length_map];exact yB HR.out hb3,ah⟩;obtain⟨e0,e1,e2⟩:=ac.out W3 al;have eV:W3.cell? ⟨w.heap.size+1+1,0,none⟩=some V:=by rw[hb3.cell (p:=⟨w.heap.size+1+1,0,none⟩) (by show w.heap.size+1+1<wr.heap.size;have:=y.size;omega)];exact cV
   rw[<-a5];refine hK.out _ _ (.inr ⟨eV,e0,e1,e2⟩) ?_;clear hK a5 ah;try simp only[qA]
   refine qO 8 rfl λK hK=>?_;refine yB6 _ (by rfl) _ _ (by rfl) W1.heap.size V (ys.map Tx.pr) wr.heap.size 0 1 1 [(x.lo,.slice xa xn xc)] (by rfl) (by rfl) rfl a9.1 a9.2 (by intro p hp;simp at hp;subst hp;rfl) (by rw[length_map];simp;omega) (by have:=y.size;omega) ?_;intro v' w4 hA;obtain⟨g4,a0,rfl⟩:=hA.form (.inr (by simp));have ag:(ys.map Tx.pr++ [(x.lo,Value.slice xa xn xc)]).length=ys.length+1:=by simp
   have a4:=hA.row;rw[ag]at a4|-;have aa:Chg (λq=>q=w.heap.size+1+1\/W1.heap.size<=q) W1 w4:=al.trans (Chg.of_grown hA.grown (λq hq=>.inr (yCl a9.1 q hq)));have a7:Below W1.heap.size W3 w4:=(Below.refl _ _).grown hA.grown (by have:=y.size;omega) (λq hq=>yCl a9.1 q hq);obtain⟨f0,f1,f2⟩:=ac.out w4 aa;have fV:w4.cell? ⟨w.heap.size+1+1,0,none⟩=some V:=by rw[a7.cell (p:=⟨w.heap.size+1+1,0,none⟩) (by show w.heap.size+1+1<W1.heap.size;omega)];exact eV
   have fF:w4.frozen? ⟨w.heap.size+1+1,0,none⟩=false:=by rw[a7.frozen (p:=⟨w.heap.size+1+1,0,none⟩) (by show w.heap.size+1+1<W1.heap.size;omega),hb3.frozen (p:=⟨w.heap.size+1+1,0,none⟩) (by show w.heap.size+1+1<wr.heap.size;have:=y.size;omega)];exact am
   have HN:Hid ((w4.setCell ⟨w.heap.size+1+1,0,none⟩ (.slice (some ⟨g4,0,none⟩) (ys.length+1) a0)).ownsRow W1.heap.size 56 2 (.slice (some ⟨g4,0,none⟩) (ys.length+1) a0) (ys++ [x]).length (yAs ((ys++ [x]).map Tx.pr))/\Chg (λq=>q=w.heap.size+1+1\/W1.heap.size<=q) W1 (w4.setCell ⟨w.heap.size+1+1,0,none⟩ (.slice (some ⟨g4,0,none⟩) (ys.length+1) a0))):=by
    refine⟨?_,aa.trans (Chg.of_set _ _ _ _ (.inl rfl))⟩;have h5:=yE7 a4 (w.heap.size+1+1) 0 (.slice (some ⟨g4,0,none⟩) (ys.length+1) a0) (by omega);have e5:(ys++ [x]).map Tx.pr=ys.map Tx.pr++ [(x.lo,Value.slice xa xn xc)]:=by rw[map_append];show _++ [(x.lo,x.v)]=_;rw[HD.2]
    rw[e5,length_append];exact h5
   refine hK.out _ _ (.inr ⟨fV,f0,f1,f2⟩) ?_;clear hK hA a4;try simp only[qA]
   refine yBh (i:=9) (v:=?vr9x8) rfl (by kernel_rfl) (by kernel_rfl) (by kernel_rfl) (by kernel_rfl) (by decide) (λ_ _ _ h=>h) (Or.inl ⟨by rfl,?yr9x8⟩) (show _/\_ from⟨fV,f0,f1,f2⟩) ?_;case yr9x8=>exact zzR0
   try simp only[qA]
   refine qO 10 rfl λK hK=>?_;go_simp;refine hK.out _ _ (.inl rfl) ?_;clear hK;try simp only[qA]
   refine qD ?_;have m5:(w4.setCell ⟨w.heap.size+1+1,0,none⟩ (.slice (some ⟨g4,0,none⟩) (ys.length+1) a0)).cell? ⟨w.heap.size+1+1,0,none⟩=some (.slice (some ⟨g4,0,none⟩) (ys.length+1) a0):=by simp[go_sem,fV]
   have m6:(w4.setCell ⟨w.heap.size+1+1,0,none⟩ (.slice (some ⟨g4,0,none⟩) (ys.length+1) a0)).frozen? ⟨w.heap.size+1+1,0,none⟩=false:=by simp[go_sem,fF]
   clear f0 f1 f2 fV fF e0 e1 e2 eV j0 j1 j2 jV;go_wp2_with fail;go_roundw;case rel=>go_light;exact⟨k+1,_,ys++ [x],by omega,by go_num,by rw[HY.out,take_add_one,HD.1];rfl,m5,m6,HN.1,HN.2⟩
   case measure=>go_light;simp[intOf];omega
  .have zk:¬(k:Int)<(fr:Int):=by omega
   have aM:Hid (ys=xs.take fr):=by
    have e:k=fr:=by omega
    show ys=xs.take fr;rw[<-e];exact HY.out
   obtain⟨Va,Vn,Vc,rfl⟩:∃Va Vn Vc,V=.slice Va Vn Vc:=by rcases HR.2 with⟨q,_⟩|⟨g2,cp,cur,q,_⟩<;>exact⟨_,_,_,q⟩
   have aD:Hid (∀i p,(ms.map Tx.pr)[i]?=some p->wr.cell? ⟨ob,0+i*2,none⟩=some (.string p.1)/\wr.cell? ⟨ob,0+i*2+1,none⟩=some p.2):=by intro i p hp;rw[getElem?_map]at hp;obtain⟨t,ht,rfl⟩:=Option.map_eq_some_iff.1 hp;exact(HC.out wr y).2.2.2 i t ht
   have aG:Hid (∀p∈ms.map Tx.pr,p.2.oneCell'=true):=by intro p hp;obtain⟨t,ht,rfl⟩:=List.mem_map.1 hp;exact(HM.runs t ht).one
   go_wp2_with (at_builtin;refine yCe _ rfl _ _ rfl W1.heap.size (.slice Va Vn Vc) (ys.map Tx.pr) ob 0 ms.length ms.length (ms.map Tx.pr) rfl rfl (length_map ..).symm ?hO aD.out aG.out ?hl ?hb ?_);case hO=>rw[<-aC];exact HR.out
   case hl=>omega
   case hb=>have:=y.size;omega
   intro v' w4 hA;obtain⟨g4,a0,rfl⟩:=hA.form (.inr (by simp;omega));have ag:(ys.map Tx.pr++ms.map Tx.pr).length=ys.length+ms.length:=by simp
   have a4:=hA.row;rw[ag]at a4|-;have aa:Chg (λq=>q=w.heap.size+1+1\/W1.heap.size<=q) W1 w4:=y.trans (Chg.of_grown hA.grown (λq hq=>.inr (yCl HR.out q hq)));have a7:Below W1.heap.size wr w4:=(Below.refl _ _).grown hA.grown (by have:=y.size;omega) (λq hq=>yCl HR.out q hq);have fV:w4.cell? ⟨w.heap.size+1+1,0,none⟩=some (.slice Va Vn Vc):=by rw[a7.cell (p:=⟨w.heap.size+1+1,0,none⟩) (by show w.heap.size+1+1<W1.heap.size;omega)];exact cV
   have fF:w4.frozen? ⟨w.heap.size+1+1,0,none⟩=false:=by rw[a7.frozen (p:=⟨w.heap.size+1+1,0,none⟩) (by show w.heap.size+1+1<W1.heap.size;omega)];exact am
   obtain⟨W5,ae⟩:=qE (w4.setCell ⟨w.heap.size+1+1,0,none⟩ (.slice (some ⟨g4,0,none⟩) (ys.length+ms.length) a0));have an:Hid (W5.cell? ⟨w.heap.size+1+1,0,none⟩=some (.slice (some ⟨g4,0,none⟩) (ys.length+ms.length) a0)/\W5.frozen? ⟨w.heap.size+1+1,0,none⟩=false/\W5.ownsRow W1.heap.size 56 2 (.slice (some ⟨g4,0,none⟩) (ys.length+ms.length) a0) (ys++ms).length (yAs ((ys++ms).map Tx.pr))/\Chg (λq=>q=w.heap.size+1+1\/W1.heap.size<=q) W1 W5):=by refine⟨by rw[ae];simp[go_sem,fV],by rw[ae];simp[go_sem,fF],?_,by rw[ae];exact aa.trans (Chg.of_set _ _ _ _ (.inl rfl))⟩;have h5:=yE7 a4 (w.heap.size+1+1) 0 (.slice (some ⟨g4,0,none⟩) (ys.length+ms.length) a0) (by omega);rw[map_append,length_append,ae,aC];exact h5
   clear hA a4 aD aG;go_wp2_with fail;rw[<-ae];clear ae;go_loopw[12] (λi wr=>∃(k:Nat)(V:Value)(zs:List Tx),til<=k/\k<=xs.length/\i=.int .i64 k/\zs=ys++ms++(xs.drop til).take (k-til)/\wr.cell? ⟨w.heap.size+1+1,0,none⟩=some V/\wr.frozen? ⟨w.heap.size+1+1,0,none⟩=false/\wr.ownsRow W1.heap.size 56 2 V zs.length (yAs (zs.map Tx.pr))/\Chg (λq=>q=w.heap.size+1+1\/W1.heap.size<=q) W1 wr) (λi _=>xs.length-(intOf i).toNat);case atStart=>exact⟨til,_,ys++ms,Nat.le_refl _,aJ,rfl,by simp,an.1,an.2.1,an.2.2.1,an.2.2.2⟩
   clear HR y cV am HY aa a7 fV fF an hk zk;case round=>
    obtain⟨k,V,zs,aT,hk,rfl,av,cV,am,af,y⟩:=hrel;have HY:Hid (zs=ys++ms++(xs.drop til).take (k-til)):=av;have aP:zs.length<=3000:=by rw[av,length_append,length_append,length_take,length_drop];omega
    have HR:Hid (wr.ownsRow W1.heap.size 56 2 V zs.length (yAs (zs.map Tx.pr))):=af;have aW:=(HC.out wr y).1;clear av af;by_cases hlt:k<xs.length
    .have zk:(k:Int)<(xs.length:Int):=by omega
     obtain⟨x,hx⟩:∃x,xs[k]?=some x:=⟨_,getElem?_eq_getElem (by omega)⟩;obtain⟨xa,xn,xc,ab⟩:=(HX.2.1.runs x (mem_of_getElem? hx)).isSlice;have ac:Hid (∀w',Chg (λq=>q=w.heap.size+1+1\/W1.heap.size<=q) W1 w'->w'.cell? ⟨CB,0,none⟩=some (.slice (some ⟨gc,0,none⟩) xs.length a6)/\w'.cell? ⟨gc,k*2,none⟩=some (.string x.lo)/\w'.cell? ⟨gc,k*2+1,none⟩=some (.slice xa xn xc)):=by
      intro w' a3;obtain⟨q0,q1⟩:=HX.1.cells (p:=x.pr) (i:=k) (by rw[getElem?_map,hx];rfl);have e2:x.pr.2=.slice xa xn xc:=ab;have e1:x.pr.1=x.lo:=rfl;rw[e2]at q1;rw[e1]at q0;refine⟨(HC.out w' a3).1,?_,?_⟩
      .rw[a3.cell (p:=⟨gc,k*2,none⟩) (by exact ao.2) (by intro q;rcases q with q|q<;>simp only at q<;>omega)];exact q0
      .rw[a3.cell (p:=⟨gc,k*2+1,none⟩) (by exact ao.2) (by intro q;rcases q with q|q<;>simp only at q<;>omega)];exact q1
     have HD:Hid (xs[k]?=some x/\x.v=.slice xa xn xc):=⟨hx,ab⟩;clear hx ab;have aL:∃Va Vn Vc,V=.slice Va Vn Vc:=by rcases HR.2 with⟨q,_⟩|⟨g2,cp,cur,q,_⟩<;>exact⟨_,_,_,q⟩
     have zz:(k:Int)<(xs.length:Int):=by omega
     have az:Chg (λq=>q=w.heap.size+1+1\/W1.heap.size<=q) W1 wr.drew:=y.trans (Chg.of_below ((Below.refl _ _).drew));obtain⟨j0,j1,j2⟩:=ac.out wr.drew az;have jV:wr.drew.cell? ⟨w.heap.size+1+1,0,none⟩=some V:=by simpa using cV
     have hS:SW (λw':World=>w'.cell? ⟨w.heap.size+1+1,0,none⟩=some V/\w'.cell? ⟨CB,0,none⟩=some (.slice (some ⟨gc,0,none⟩) xs.length a6)/\w'.cell? ⟨gc,k*2,none⟩=some (.string x.lo)/\w'.cell? ⟨gc,k*2+1,none⟩=some (.slice xa xn xc)) wr.drew:=⟨jV,j0,j1,j2⟩;go_upto_region 11 with fail;refine wpR 10 hS ?_;refine qU 0 ?vr0x9 rfl ?yr0x9 hS ?_;case yr0x9=>exact zzR0
     try simp only[qA]
     refine qU 1 ?vr1x10 rfl ?yr1x10 hS ?_;case yr1x10=>exact zzR0
     try simp only[qA]
     refine qU 2 ?vr2x11 rfl ?yr2x11 hS ?_;case yr2x11=>exact zzR0
     try simp only[qA]
     refine qU 3 ?vr3x12 rfl ?yr3x12 hS ?_;case yr3x12=>exact zzR0
     try simp only[qA]
     refine qU 4 ?vr4x13 rfl ?yr4x13 hS ?_;case yr4x13=>exact zzR0
     try simp only[qA]
     refine qU 5 ?vr5x14 rfl ?yr5x14 hS ?_;case yr5x14=>exact zzR0
     try simp only[qA]
     refine qU 6 ?vr6x15 rfl ?yr6x15 hS ?_;case yr6x15=>exact zzR0
     try simp only[qA]
     refine qO 7 rfl λK hK=>?_;go_simp;obtain⟨W3,a5⟩:=qE ((wr.alloc (Obj.cells #[.string x.lo,.slice xa xn xc] 56)).drew:World);have hb3:Below wr.heap.size wr W3:=by rw[a5];exact(qB).drew
     have aI:W3.heap.size=wr.heap.size+1:=by rw[a5];simp
     have al:Chg (λq=>q=w.heap.size+1+1\/W1.heap.size<=q) W1 W3:=y.trans (Chg.of_below hb3);have ah:∀i p,[(x.lo,Value.slice xa xn xc)][i]?=some p->W3.cell? ⟨wr.heap.size,0+i*2,none⟩=some (.string p.1)/\W3.cell? ⟨wr.heap.size,0+i*2+1,none⟩=some p.2:=by intro i p hp;have:=yCh (w:=wr) (t:=56) i p hp;rw[a5];simpa using this
     have a9:Hid (W3.ownsRow W1.heap.size 56 2 V (zs.map Tx.pr).length (yAs (zs.map Tx.pr))/\(∀i p,[(x.lo,Value.slice xa xn xc)][i]?=some p->W3.cell? ⟨wr.heap.size,0+i*2,none⟩=some (.string p.1)/\W3.cell? ⟨wr.heap.size,0+i*2+1,none⟩=some p.2)):=⟨by rw[length_map];exact yB HR.out hb3,ah⟩;obtain⟨e0,e1,e2⟩:=ac.out W3 al;have eV:W3.cell? ⟨w.heap.size+1+1,0,none⟩=some V:=by rw[hb3.cell (p:=⟨w.heap.size+1+1,0,none⟩) (by show w.heap.size+1+1<wr.heap.size;have:=y.size;omega)];exact cV
     rw[<-a5];refine hK.out _ _ (.inr ⟨eV,e0,e1,e2⟩) ?_;clear hK a5 ah;try simp only[qA]
     refine qO 8 rfl λK hK=>?_;refine yB6 _ (by rfl) _ _ (by rfl) W1.heap.size V (zs.map Tx.pr) wr.heap.size 0 1 1 [(x.lo,.slice xa xn xc)] (by rfl) (by rfl) rfl a9.1 a9.2 (by intro p hp;simp at hp;subst hp;rfl) (by rw[length_map];simp;omega) (by have:=y.size;omega) ?_;intro v' w4 hA;obtain⟨g4,a0,rfl⟩:=hA.form (.inr (by simp));have ag:(zs.map Tx.pr++ [(x.lo,Value.slice xa xn xc)]).length=zs.length+1:=by simp
     have a4:=hA.row;rw[ag]at a4|-;have aa:Chg (λq=>q=w.heap.size+1+1\/W1.heap.size<=q) W1 w4:=al.trans (Chg.of_grown hA.grown (λq hq=>.inr (yCl a9.1 q hq)));have a7:Below W1.heap.size W3 w4:=(Below.refl _ _).grown hA.grown (by have:=y.size;omega) (λq hq=>yCl a9.1 q hq);obtain⟨f0,f1,f2⟩:=ac.out w4 aa;have fV:w4.cell? ⟨w.heap.size+1+1,0,none⟩=some V:=by rw[a7.cell (p:=⟨w.heap.size+1+1,0,none⟩) (by show w.heap.size+1+1<W1.heap.size;omega)];exact eV
     have fF:w4.frozen? ⟨w.heap.size+1+1,0,none⟩=false:=by rw[a7.frozen (p:=⟨w.heap.size+1+1,0,none⟩) (by show w.heap.size+1+1<W1.heap.size;omega),hb3.frozen (p:=⟨w.heap.size+1+1,0,none⟩) (by show w.heap.size+1+1<wr.heap.size;have:=y.size;omega)];exact am
     have HN:Hid ((w4.setCell ⟨w.heap.size+1+1,0,none⟩ (.slice (some ⟨g4,0,none⟩) (zs.length+1) a0)).ownsRow W1.heap.size 56 2 (.slice (some ⟨g4,0,none⟩) (zs.length+1) a0) (zs++ [x]).length (yAs ((zs++ [x]).map Tx.pr))/\Chg (λq=>q=w.heap.size+1+1\/W1.heap.size<=q) W1 (w4.setCell ⟨w.heap.size+1+1,0,none⟩ (.slice (some ⟨g4,0,none⟩) (zs.length+1) a0))):=by
      refine⟨?_,aa.trans (Chg.of_set _ _ _ _ (.inl rfl))⟩;have h5:=yE7 a4 (w.heap.size+1+1) 0 (.slice (some ⟨g4,0,none⟩) (zs.length+1) a0) (by omega);have e5:(zs++ [x]).map Tx.pr=zs.map Tx.pr++ [(x.lo,Value.slice xa xn xc)]:=by rw[map_append];show _++ [(x.lo,x.v)]=_;rw[HD.2]
      rw[e5,length_append];exact h5
     refine hK.out _ _ (.inr ⟨fV,f0,f1,f2⟩) ?_;clear hK hA a4;try simp only[qA]
     refine yBh (i:=9) (v:=?vr9x16) rfl (by kernel_rfl) (by kernel_rfl) (by kernel_rfl) (by kernel_rfl) (by decide) (λ_ _ _ h=>h) (Or.inl ⟨by rfl,?yr9x16⟩) (show _/\_ from⟨fV,f0,f1,f2⟩) ?_;case yr9x16=>exact zzR0
     try simp only[qA]
     refine qO 10 rfl λK hK=>?_;go_simp;refine hK.out _ _ (.inl rfl) ?_;clear hK;try simp only[qA]
     refine qD ?_;have m5:(w4.setCell ⟨w.heap.size+1+1,0,none⟩ (.slice (some ⟨g4,0,none⟩) (zs.length+1) a0)).cell? ⟨w.heap.size+1+1,0,none⟩=some (.slice (some ⟨g4,0,none⟩) (zs.length+1) a0):=by simp[go_sem,fV]
     have m6:(w4.setCell ⟨w.heap.size+1+1,0,none⟩ (.slice (some ⟨g4,0,none⟩) (zs.length+1) a0)).frozen? ⟨w.heap.size+1+1,0,none⟩=false:=by simp[go_sem,fF]
     clear f0 f1 f2 fV fF e0 e1 e2 eV j0 j1 j2 jV;go_wp2_with fail;go_roundw;case rel=>go_light;exact⟨k+1,_,zs++ [x],by omega,by omega,by go_num,by rw[HY.out,show k+1-til=(k-til)+1 by omega,take_add_one,getElem?_drop,show til+(k-til)=k by omega,HD.1];simp,m5,m6,HN.1,HN.2⟩
     case measure=>go_light;simp[intOf];omega
    .have zk:¬(k:Int)<(xs.length:Int):=by omega
     obtain⟨_,d1,d2,_⟩:=HC.out wr y;have HF:Hid (yBx (wr.setCell ⟨w.heap.size+1,0,none⟩ V) w.heap.size V zs/\yAw (wr.setCell ⟨w.heap.size+1,0,none⟩ V) base zs/\zs.map Tx.tb=(ts.take fr).map Tm.tb++ms.map Tx.tb++(ts.drop til).map Tm.tb/\Below w.heap.size w (wr.setCell ⟨w.heap.size+1,0,none⟩ V)):=by
      have aK:Below w.heap.size w wr:=Chg.below (ai.trans (aj.mono (by omega))) y (by omega) (λq hq=>by rcases hq with hq|hq<;>omega);have aE:Below w.heap.size w (wr.setCell ⟨w.heap.size+1,0,none⟩ V):=aK.setCell (by show w.heap.size<=w.heap.size+1;omega) _;have hq:=yE7 HR.out (w.heap.size+1) 0 V (by omega);have hX:=((HX.2.1.chg y (λq h1 h2 hS=>by rcases hS with hS|hS<;>omega)).set (w.heap.size+1) 0 V (by omega)).mono (base':=base) (by omega);have aB:zs=xs.take fr++ms++xs.drop til:=by have e9:(xs.drop til).take (k-til)=xs.drop til:=take_of_length_le (by rw[length_drop];omega);rw[HY.out,aM.out,e9]
      refine⟨yHs (yDr hq (by omega)) rfl,?_,?_,aE⟩
      .rw[aB];exact((hX.take fr).append (HM.below aE)).append (hX.drop til)
      .rw[aB,map_append,map_append,List.map_take,List.map_drop,HX.2.2,List.map_take,List.map_drop]
     obtain⟨va,vn,vc,rfl⟩:∃va vn vc,V=.slice va vn vc:=by rcases HR.2 with⟨q,_⟩|⟨g2,cp,cur,q,_⟩<;>exact⟨_,_,_,q⟩
     go_wp2_with fail;refine bodyPost_ret (v:=.agg #[.slice va vn vc]) (by simp[results,results73,go_sem,d1]) rfl ⟨_,zs,rfl,HF.1,HF.2.1,?_,HF.2.2.2⟩;rw[HF.2.2.1];simp
def yV2(e size:Nat)(w:World)(xs:List Value)(n:Nat)(r:Ending)(w':World):Prop:=∃v:Value,r=.returned v/\w'.ownsRow w.heap.size e size v n xs/\Below w.heap.size w w'
def yRj(e size:Nat)(w:World)(r:Ending)(w':World):Prop:=∃v:Value,r=.returned v/\w'.ownsRow w.heap.size e size v 0 []/\Below w.heap.size w w'
theorem yQ4(w:World)(t:TypeId)(z:Array Value)(size n c:Nat)(hz:z.size=size)(hn:n<=c)(hc:c<=maxLen):
  (w.drew.alloc (.cells (Builtin.zeroCells z n++Builtin.zeroCells z (c-n)) t)).ownsRow w.heap.size t size (.slice (some ⟨w.heap.size,0,none⟩) 0 c) 0 []:=by
 refine⟨by simp,.inr ⟨w.heap.size,c,_,rfl,Nat.le_refl _,heap_alloc_new w.drew _,zero_le _,hc,?_,by simp⟩⟩;rw[Array.size_append,size_zeroCells,size_zeroCells,hz,<-Nat.add_mul];congr 1;omega
theorem ySg(n:Nat)(w:World)(hn:n<=2^30):
  Calls prog 130 #[.slice none 0 0,.int .i64 n] w λr w'=>yRj 60 1 w r w':=by
 obtain⟨i,hi,a0,a5,y⟩:=info_parts Tryz.infoRun;by_cases h0:n=0
 .subst h0;go_enter func130,ntmps130;go_wp2_with fail;go_ret;exact⟨_,rfl,World.ownsRow_nil ..,Below.refl _ _⟩
 .have hp:0<n:=by omega
  have HG:Hid (n<=grownCap w n 0 60/\grownCap w n 0 60<=maxLen):=⟨grownCap_ge w n 0 _,grownCap_le_maxLen w n 0 _ (by unfold maxLen;omega)⟩;have a4:Hid (∀ty,(Builtin.append_ #[54,3] ty #[.slice none 0 0,.int .i64 n]).run prog w=.ok (.slice (some ⟨w.heap.size,0,none⟩) n (grownCap w n 0 60)) (w.drew.alloc (.cells (Builtin.zeroCells #[.slice none 0 0] n++Builtin.zeroCells #[.slice none 0 0] (grownCap w n 0 60-n)) 60))):=λty=>
   Go.Lib.run_append_nil_zeros w 54 3 ty 60 i (.agg #[.slice none 0 0]) .i64 .i64 underlying54 underlying3 hi a0 n hp (by omega) (by omega) (by rw[y];omega)
  obtain⟨c,hc⟩:=qE (grownCap w n 0 60);rw[<-hc]at HG a4;have a7:=HG.2;have a6:=HG.1;unfold maxLen at a7;have zp:(0:Int)<(n:Int):=by omega
  clear h0 hc hi a0 a5 y;go_enter func130,ntmps130;go_wp2_with (at_builtin;refine Go.Lib.wpList_append_run _ rfl _ _ _ _ rfl _ _ rfl rfl _ _ (a4.out _) ?_);obtain⟨W1,a3⟩:=qE ((w.drew.alloc (.cells (Builtin.zeroCells #[.slice none 0 0] n++Builtin.zeroCells #[.slice none 0 0] (c-n)) 60)):World);have HO:Hid (W1.ownsRow w.heap.size 60 1 (.slice (some ⟨w.heap.size,0,none⟩) 0 c) 0 []/\Below w.heap.size w W1):=by rw[a3];exact⟨yQ4 w _ _ 1 n c rfl a6 (by unfold maxLen;omega),(Below.refl _ _).drew.alloc (by simp) _⟩
  go_ret;rw[a3]at HO;exact⟨_,rfl,HO.1,HO.2⟩
structure Pt where
 b:Nat
 off:Nat
 cap:Nat
 us:List Value
structure Pt.at(w:World)(p:Pt):Prop where
 cells:∀j u,p.us[j]?=some u->w.cell? ⟨p.b,p.off+j,none⟩=some u
 one:∀u∈p.us,u.oneCell'=true
 lt:p.b<w.heap.size
theorem Pt.at.below{p:Pt}(h:p.at w)(hb:Below w.heap.size w w'):p.at w':=⟨λj u hu=>by rw[hb.cell (p:=⟨p.b,p.off+j,none⟩) (by exact h.lt)];exact h.cells j u hu,h.one,by have:=hb.size;have:=h.lt;omega⟩
def yM4(w:World)(sb:Nat)(ps:List Pt):Prop:=∀i p,ps[i]?=some p->w.cell? ⟨sb,i,none⟩=some (.slice (some ⟨p.b,p.off,none⟩) p.us.length p.cap)/\p.at w
theorem yM4.below{sb:Nat}{ps:List Pt}(h:yM4 w sb ps)(hb:Below w.heap.size w w')(hlt:sb<w.heap.size):yM4 w' sb ps:=λi p hp=>⟨by rw[hb.cell (p:=⟨sb,i,none⟩) (by exact hlt)];exact(h i p hp).1,(h i p hp).2.below hb⟩
def allU(ps:List Pt):List Value:=ps.flatMap Pt.us
theorem yKc{ps:List Pt}{k:Nat}{p:Pt}(h:ps[k]?=some p):allU (ps.take (k+1))=allU (ps.take k)++p.us:=by unfold allU;rw[take_add_one,h,flatMap_append];simp
theorem yQf(ps:List Pt)(k:Nat):(allU (ps.take k)).length<=(allU ps).length:=by
 have h:allU ps=allU (ps.take k)++allU (ps.drop k):=by unfold allU;rw[<-flatMap_append,take_append_drop]
 rw[h,length_append];omega
theorem yFs(sb:Nat)(ps:List Pt)(w:World)(h:yM4 w sb ps)(hB:sb<w.heap.size)(hn:(allU ps).length<=2^28)(hm:ps.length<=1000):
  Calls prog 69 #[.slice (some ⟨sb,0,none⟩) ps.length ps.length] w λr w'=>yV2 60 1 w (allU ps) (allU ps).length r w':=by
 have HP:Hid (yM4 w sb ps):=h;clear h;go_enter func69,ntmps69;go_wp2_with fail;go_loopw[3,11] (λs i wr=>∃(k x:Nat),k<=ps.length/\i=.int .i64 k/\s=.int .i64 x/\x=(allU (ps.take k)).length/\Below w.heap.size w wr) (λ_ i _=>ps.length-(intOf i).toNat);case atStart=>exact⟨0,0,zero_le _,rfl,rfl,rfl,Below.refl _ _⟩
 case round=>
  obtain⟨k,x,hk,rfl,rfl,hx,hb0⟩:=hrel;have y:=hb0.size;have HX:Hid (x=(allU (ps.take k)).length):=hx;have a7:x<=2^28:=by have:=yQf ps k;omega
  clear hx;by_cases hlt:k<ps.length
  .obtain⟨p,hp⟩:∃p,ps[k]?=some p:=⟨_,getElem?_eq_getElem hlt⟩;obtain⟨c0,_⟩:=(HP.below hb0 hB) k p hp;have HX2:Hid (x+p.us.length=(allU (ps.take (k+1))).length):=by have h1:=HX.out;show x+p.us.length=(allU (ps.take (k+1))).length;rw[yKc hp,length_append,<-h1]
   have a8:x+p.us.length<=2^28:=by have:=HX2.out;have:=yQf ps (k+1);omega
   exact xA0
  .have zk:¬(k:Int)<(ps.length:Int):=by omega
   go_wp2_with fail;refine(ySg x _ (by omega)).mono ?_;rintro e w1 ⟨v,rfl,a4,hb1⟩;have a5:Hid (w1.ownsRow w.heap.size 60 1 v 0 []/\Below w.heap.size w w1):=⟨yDr a4 y,hb0.trans (hb1.mono y)⟩;clear a4 hb1;go_wp2_with fail;go_loopw[6,27] (λo i wr=>∃(k:Nat)(v:Value),k<=ps.length/\i=.int .i64 k/\o=v/\wr.ownsRow w.heap.size 60 1 v (allU (ps.take k)).length (allU (ps.take k))/\Below w.heap.size w wr) (λ_ i _=>ps.length-(intOf i).toNat);case atStart=>exact⟨0,v,zero_le _,rfl,rfl,a5.1,a5.2⟩
   case round=>
    obtain⟨v0,a6⟩:=qE (u6:Value);subst a6;obtain⟨k,v,hk,rfl,a0,hO,hb⟩:=hrel;rw[<-a0]at hO;clear a0;have HO:Hid (wr.ownsRow w.heap.size 60 1 v0 (allU (ps.take k)).length (allU (ps.take k))):=hO;have hs:=hb.size;clear hO;by_cases hlt:k<ps.length
    .obtain⟨p,hp⟩:∃p,ps[k]?=some p:=⟨_,getElem?_eq_getElem hlt⟩;obtain⟨c0,a3⟩:=(HP.below hb hB) k p hp;have HD:Hid (ps[k]?=some p/\p.at wr):=⟨hp,a3⟩;have a9:(allU (ps.take k)).length+p.us.length<=2^28:=by have h1:=yQf ps (k+1);rw[yKc hp,length_append]at h1;omega
     clear hp a3;have zk:(k:Int)<(ps.length:Int):=by omega
     go_wp2_with (at_builtin;refine yA8 _ rfl _ _ rfl w.heap.size v0 (allU (ps.take k)) p.b p.off p.us.length p.cap p.us rfl rfl rfl HO.out HD.2.cells HD.2.one ?hl ?hb ?_);case hl=>omega
     case hb=>omega
     intro v' w2 hA;have HN:Hid (w2.ownsRow w.heap.size 60 1 v' (allU (ps.take (k+1))).length (allU (ps.take (k+1)))):=by show World.ownsRow _ _ _ _ _ _ _;rw[yKc HD.1];exact hA.row
     exact xAv
    .have zk:¬(k:Int)<(ps.length:Int):=by omega
     have HF:Hid (wr.ownsRow w.heap.size 60 1 v0 (allU ps).length (allU ps)):=by have h1:=HO.out;rw[take_of_length_le (by omega)]at h1;exact h1
     go_wp2_with fail;go_ret;exact⟨v0,rfl,HF.out,hb⟩
theorem ySf(n:Nat)(w:World)(hn:n<=2^30):
  Calls prog 189 #[.slice none 0 0,.int .i64 n] w λr w'=>yRj 56 2 w r w':=by
 obtain⟨i,hi,a0,a5,y⟩:=info_parts Tryz.infoTab;by_cases h0:n=0
 .subst h0;go_enter func189,ntmps189;go_wp2_with fail;go_ret;exact⟨_,rfl,World.ownsRow_nil ..,Below.refl _ _⟩
 .have hp:0<n:=by omega
  have HG:Hid (n<=grownCap w n 0 56/\grownCap w n 0 56<=maxLen):=⟨grownCap_ge w n 0 _,grownCap_le_maxLen w n 0 _ (by unfold maxLen;omega)⟩;have a4:Hid (∀ty,(Builtin.append_ #[26,3] ty #[.slice none 0 0,.int .i64 n]).run prog w=.ok (.slice (some ⟨w.heap.size,0,none⟩) n (grownCap w n 0 56)) (w.drew.alloc (.cells (Builtin.zeroCells #[.string ⟨#[]⟩,.slice none 0 0] n++Builtin.zeroCells #[.string ⟨#[]⟩,.slice none 0 0] (grownCap w n 0 56-n)) 56))):=λty=>
   Go.Lib.run_append_nil_zeros w 26 3 ty 56 i (.agg #[.string ⟨#[]⟩,.slice none 0 0]) .i64 .i64 underlying26 underlying3 hi a0 n hp (by omega) (by omega) (by rw[y];omega)
  obtain⟨c,hc⟩:=qE (grownCap w n 0 56);rw[<-hc]at HG a4;have a7:=HG.2;have a6:=HG.1;unfold maxLen at a7;have zp:(0:Int)<(n:Int):=by omega
  clear h0 hc hi a0 a5 y;go_enter func189,ntmps189;go_wp2_with (at_builtin;refine Go.Lib.wpList_append_run _ rfl _ _ _ _ rfl _ _ rfl rfl _ _ (a4.out _) ?_);obtain⟨W1,a3⟩:=qE ((w.drew.alloc (.cells (Builtin.zeroCells #[.string ⟨#[]⟩,.slice none 0 0] n++Builtin.zeroCells #[.string ⟨#[]⟩,.slice none 0 0] (c-n)) 56)):World);have HO:Hid (W1.ownsRow w.heap.size 56 2 (.slice (some ⟨w.heap.size,0,none⟩) 0 c) 0 []/\Below w.heap.size w W1):=by rw[a3];exact⟨yQ4 w _ _ 2 n c rfl a6 (by unfold maxLen;omega),(Below.refl _ _).drew.alloc (by simp) _⟩
  go_ret;rw[a3]at HO;exact⟨_,rfl,HO.1,HO.2⟩
structure PtT where
 b:Nat
 off:Nat
 cap:Nat
 us:List Pr
structure PtT.at(w:World)(p:PtT):Prop where
 cells:∀j u,p.us[j]?=some u->w.cell? ⟨p.b,p.off+j*2,none⟩=some (.string u.1)/\w.cell? ⟨p.b,p.off+j*2+1,none⟩=some u.2
 one:∀u∈p.us,u.2.oneCell'=true
 lt:p.b<w.heap.size
theorem PtT.at.below{p:PtT}(h:p.at w)(hb:Below w.heap.size w w'):p.at w':=⟨λj u hu=>⟨by rw[hb.cell (p:=⟨p.b,p.off+j*2,none⟩) (by exact h.lt)];exact(h.cells j u hu).1,by rw[hb.cell (p:=⟨p.b,p.off+j*2+1,none⟩) (by exact h.lt)];exact(h.cells j u hu).2⟩,h.one,by have:=hb.size;have:=h.lt;omega⟩
def yLt(w:World)(sb:Nat)(ps:List PtT):Prop:=∀i p,ps[i]?=some p->w.cell? ⟨sb,i,none⟩=some (.slice (some ⟨p.b,p.off,none⟩) p.us.length p.cap)/\p.at w
theorem yLt.below{sb:Nat}{ps:List PtT}(h:yLt w sb ps)(hb:Below w.heap.size w w')(hlt:sb<w.heap.size):yLt w' sb ps:=λi p hp=>⟨by rw[hb.cell (p:=⟨sb,i,none⟩) (by exact hlt)];exact(h i p hp).1,(h i p hp).2.below hb⟩
def allP(ps:List PtT):List Pr:=ps.flatMap PtT.us
theorem yKd{ps:List PtT}{k:Nat}{p:PtT}(h:ps[k]?=some p):allP (ps.take (k+1))=allP (ps.take k)++p.us:=by unfold allP;rw[take_add_one,h,flatMap_append];simp
theorem yQg(ps:List PtT)(k:Nat):(allP (ps.take k)).length<=(allP ps).length:=by
 have h:allP ps=allP (ps.take k)++allP (ps.drop k):=by unfold allP;rw[<-flatMap_append,take_append_drop]
 rw[h,length_append];omega
theorem yOq(sb:Nat)(ps:List PtT)(w:World)(h:yLt w sb ps)(hB:sb<w.heap.size)(hn:(allP ps).length<=2^28)(hm:ps.length<=1000):
  Calls prog 129 #[.slice (some ⟨sb,0,none⟩) ps.length ps.length] w λr w'=>yV2 56 2 w (yAs (allP ps)) (allP ps).length r w':=by
 have HP:Hid (yLt w sb ps):=h;clear h;go_enter func129,ntmps129;go_wp2_with fail;go_loopw[3,11] (λs i wr=>∃(k x:Nat),k<=ps.length/\i=.int .i64 k/\s=.int .i64 x/\x=(allP (ps.take k)).length/\Below w.heap.size w wr) (λ_ i _=>ps.length-(intOf i).toNat);case atStart=>exact⟨0,0,zero_le _,rfl,rfl,rfl,Below.refl _ _⟩
 case round=>
  obtain⟨k,x,hk,rfl,rfl,hx,hb0⟩:=hrel;have y:=hb0.size;have HX:Hid (x=(allP (ps.take k)).length):=hx;have a7:x<=2^28:=by have:=yQg ps k;omega
  clear hx;by_cases hlt:k<ps.length
  .obtain⟨p,hp⟩:∃p,ps[k]?=some p:=⟨_,getElem?_eq_getElem hlt⟩;obtain⟨c0,_⟩:=(HP.below hb0 hB) k p hp;have HX2:Hid (x+p.us.length=(allP (ps.take (k+1))).length):=by have h1:=HX.out;show x+p.us.length=(allP (ps.take (k+1))).length;rw[yKd hp,length_append,<-h1]
   have a8:x+p.us.length<=2^28:=by have:=HX2.out;have:=yQg ps (k+1);omega
   exact xA0
  .have zk:¬(k:Int)<(ps.length:Int):=by omega
   go_wp2_with fail;refine(ySf x _ (by omega)).mono ?_;rintro e w1 ⟨v,rfl,a4,hb1⟩;have a5:Hid (w1.ownsRow w.heap.size 56 2 v 0 []/\Below w.heap.size w w1):=⟨yDr a4 y,hb0.trans (hb1.mono y)⟩;clear a4 hb1;go_wp2_with fail;go_loopw[6,27] (λo i wr=>∃(k:Nat)(v:Value),k<=ps.length/\i=.int .i64 k/\o=v/\wr.ownsRow w.heap.size 56 2 v (allP (ps.take k)).length (yAs (allP (ps.take k)))/\Below w.heap.size w wr) (λ_ i _=>ps.length-(intOf i).toNat);case atStart=>exact⟨0,v,zero_le _,rfl,rfl,a5.1,a5.2⟩
   case round=>
    obtain⟨v0,a6⟩:=qE (u6:Value);subst a6;obtain⟨k,v,hk,rfl,a0,hO,hb⟩:=hrel;rw[<-a0]at hO;clear a0;have HO:Hid (wr.ownsRow w.heap.size 56 2 v0 (allP (ps.take k)).length (yAs (allP (ps.take k)))):=hO;have hs:=hb.size;clear hO;by_cases hlt:k<ps.length
    .obtain⟨p,hp⟩:∃p,ps[k]?=some p:=⟨_,getElem?_eq_getElem hlt⟩;obtain⟨c0,a3⟩:=(HP.below hb hB) k p hp;have HD:Hid (ps[k]?=some p/\p.at wr):=⟨hp,a3⟩;have a9:(allP (ps.take k)).length+p.us.length<=2^28:=by have h1:=yQg ps (k+1);rw[yKd hp,length_append]at h1;omega
     clear hp a3;have zk:(k:Int)<(ps.length:Int):=by omega
     go_wp2_with (at_builtin;refine yCe _ rfl _ _ rfl w.heap.size v0 (allP (ps.take k)) p.b p.off p.us.length p.cap p.us rfl rfl rfl HO.out HD.2.cells HD.2.one ?hl ?hb ?_);case hl=>omega
     case hb=>omega
     intro v' w2 hA;have HN:Hid (w2.ownsRow w.heap.size 56 2 v' (allP (ps.take (k+1))).length (yAs (allP (ps.take (k+1))))):=by show World.ownsRow _ _ _ _ _ _ _;rw[yKd HD.1];exact hA.row
     exact xAv
    .have zk:¬(k:Int)<(ps.length:Int):=by omega
     have HF:Hid (wr.ownsRow w.heap.size 56 2 v0 (allP ps).length (yAs (allP ps))):=by have h1:=HO.out;rw[take_of_length_le (by omega)]at h1;exact h1
     go_wp2_with fail;go_ret;exact⟨v0,rfl,HF.out,hb⟩
def Ty.pr(t:Ty):Pr:=(t.lo,t.v)
variable {b:Nat}
theorem yDk.cells{ts:List Ty}(h:yDk w b off ts):∀j u,(ts.map Ty.pr)[j]?=some u->w.cell? ⟨b,off+j*2,none⟩=some (.string u.1)/\w.cell? ⟨b,off+j*2+1,none⟩=some u.2:=by
 intro j u hu;rw[getElem?_map]at hu;cases hp:ts[j]? with
 |none=>rw[hp]at hu;cases hu
 |some p=>
  rw[hp]at hu;simp at hu;subst hu;obtain⟨h1,h2,_⟩:=h j p hp;exact⟨h1,h2⟩
theorem yDk.one{ts:List Ty}(h:yDk w b off ts):∀u∈ts.map Ty.pr,u.2.oneCell'=true:=by intro u hu;obtain⟨t,ht,rfl⟩:=List.mem_map.1 hu;obtain⟨j,hj⟩:=getElem?_of_mem ht;exact(h j t hj).2.2.one
theorem yDk.take{ts:List Ty}(h:yDk w b off ts)(n:Nat):yDk w b off (ts.take n):=by
 intro i t ht;rw[getElem?_take]at ht;by_cases hi:i<n
 .rw[if_pos hi]at ht;exact h i t ht
 .rw[if_neg hi]at ht;cases ht
theorem yDk.drop{ts:List Ty}(h:yDk w b off ts)(n:Nat):yDk w b (off+n*2) (ts.drop n):=by intro i t ht;rw[getElem?_drop]at ht;have:=h (n+i) t ht;rw[show off+(n+i)*2=off+n*2+i*2 by omega]at this;exact this
theorem yBs.mono{v:Value}{ts:List Tx}(h:yBs w base v ts)(hb:base'<=base):yBs w base' v ts:=by
 refine⟨?_,λt ht=>(h.runs t ht).mono hb,λt ht r hr=>(h.ents t ht r hr).mono hb⟩;rcases h.row with q|⟨g,cp,hv,hO⟩
 .exact .inl q
 .exact .inr ⟨g,cp,hv,hO.mono hb⟩
variable {g:Nat}
theorem yYd{cp:Nat}{ts:List Ty}(h:w.ownsRow base 56 2 (.slice (some ⟨g,0,none⟩) n cp) n (yAs (ts.map Ty.pr)))(hn:n=ts.length)(hin:∀t∈ts,yC9 w t.v t.l):yDk w g 0 ts:=by
 subst hn;have hO:OwnP w base g cp (ts.map Ty.pr):=by unfold OwnP;rw[length_map];exact h
 intro i t ht;obtain⟨c0,c1⟩:=hO.cells (p:=t.pr) (i:=i) (by rw[getElem?_map,ht];rfl);rw[Nat.zero_add];exact⟨c0,c1,hin t (mem_of_getElem? ht)⟩
theorem yC2(b off cap:Nat)(ts os:List Ty)(fr til ob:Nat)(w:World)(h:yDk w b off ts)(hB:b<w.heap.size)(ho:yDk w ob 0 os)(hoB:ob<w.heap.size)(hn:ts.length<=1000)(hon:os.length<=1000)(hcap:ts.length<=cap)(hcm:cap<=maxLen)(h1:fr<=til)(h2:til<=ts.length)(h0:0<os.length)
  (hs:∀t∈ts++os,t.l.length<=1048576/\totM t.l<=1048576):
  Calls prog 68 #[.agg #[.slice (some ⟨b,off,none⟩) ts.length cap],.int .i64 fr,.int .i64 til,.slice (some ⟨ob,0,none⟩) os.length os.length] w λe w'=>yD9 w ((ts.take fr++os++ts.drop til).map Ty.tb) e w':=by
 obtain⟨Wa,a0⟩:=qE ((w.alloc (Obj.cells #[.slice (some ⟨b,off,none⟩) ts.length cap] 28)).alloc (Obj.cells #[.slice none 0 0] 28):World);have ac:Below w.heap.size w Wa:=by rw[a0];exact(qB).alloc (by simp) _
 have a8:Wa.heap.size=w.heap.size+1+1:=by rw[a0];simp
 have ab:Hid (∀wx,Below Wa.heap.size Wa wx->wx.cell? ⟨w.heap.size,0,none⟩=some (.slice (some ⟨b,off,none⟩) ts.length cap)/\wx.cell? ⟨w.heap.size+1,0,none⟩=some (.slice none 0 0)/\wx.frozen? ⟨w.heap.size+1,0,none⟩=false/\yDk wx b off ts/\yDk wx ob 0 os):=by
  intro wx hx;have sx:=hx.size;refine⟨?_,?_,?_,(h.below ac hB).below hx (by omega),(ho.below ac hoB).below hx (by omega)⟩
  .rw[hx.cell (p:=⟨w.heap.size,0,none⟩) (by show w.heap.size<Wa.heap.size;omega),a0];simp[go_sem]
  .rw[hx.cell (p:=⟨w.heap.size+1,0,none⟩) (by show w.heap.size+1<Wa.heap.size;omega),a0];simp[go_sem]
  .rw[hx.frozen (p:=⟨w.heap.size+1,0,none⟩) (by show w.heap.size+1<Wa.heap.size;omega),a0];simp[go_sem]
 have HS:Hid (∀t∈ts++os,t.l.length<=1048576/\totM t.l<=1048576):=hs;unfold maxLen at hcm;clear h ho hs;obtain⟨c0,_⟩:=ab.out Wa (Below.refl _ _);have cd:Wa.drew.cell? ⟨w.heap.size,0,none⟩=some (.slice (some ⟨b,off,none⟩) ts.length cap):=by simpa using c0
 go_enter func68,ntmps68;go_upto_region 1 with fail;rw[<-a0];clear a0;have hS:SW (λw':World=>w'.cell? ⟨w.heap.size,0,none⟩=some (.slice (some ⟨b,off,none⟩) ts.length cap)) Wa.drew:=cd;have av:(fr:Int)<=(cap:Int):=by omega
 have ar:(til:Int)<=(ts.length:Int):=by omega
 have aq:(til:Int)<=(cap:Int):=by omega
 obtain⟨X,hX⟩:=qE ((if cap=til then off else off+til*2));have HX:Hid (X=(if cap=til then off else off+til*2)):=hX;clear hX;refine wpR 13 hS ?_;refine qU 0 ?vq0 rfl ?yq0 hS ?_;case yq0=>exact zzR0
 try simp only[qA]
 refine qU 1 ?vq1 rfl ?yq1 hS ?_;case yq1=>exact zzR0
 try simp only[qA]
 refine qU 2 ?vq2 rfl ?yq2 hS ?_;case yq2=>exact zzR0
 try simp only[qA]
 refine qU 3 ?vq3 rfl ?yq3 hS ?_;case yq3=>exact zzR0
 try simp only[qA]
 refine qU 4 ?vq4 rfl ?yq4 hS ?_;case yq4=>exact zzR0
 try simp only[qA]
 refine qU 5 ?vq5 rfl ?yq5 hS ?_;case yq5=>exact zzR0
 try simp only[qA]
 refine qU 6 ?vq6 rfl ?yq6 hS ?_;case yq6=>exact zzR0
 try simp only[qA]
 refine qU 7 ?vq7 rfl ?yq7 hS ?_;case yq7=>exact zzR0
 try simp only[qA]
 refine qU 8 (.slice (some ⟨b,X,none⟩) (ts.length-til) (cap-til)) rfl ?yq8 hS ?_;case yq8=>
  intro wz hSw;by_cases hct:cap=til
  .have a6:X=off:=by rw[HX.out,if_pos hct]
   have hz:cap-til=0:=by omega
   rw[a6,hz];go_simp;try with_reducible rfl
  .have a6:X=off+til*2:=by rw[HX.out,if_neg hct]
   rw[a6];go_simp;try with_reducible rfl
 try simp only[qA]
 refine qO 9 rfl λK hK=>?_;go_simp;obtain⟨W1,a3⟩:=qE ((Wa.alloc (Obj.cells #[.slice (some ⟨b,off,none⟩) fr cap,.slice (some ⟨ob,0,none⟩) os.length os.length,.slice (some ⟨b,X,none⟩) (ts.length-til) (cap-til)] 26)).drew:World);have hb1:Below Wa.heap.size Wa W1:=by rw[a3];exact(qB).drew
 have ao:W1.heap.size=w.heap.size+1+1+1:=by rw[a3];simp[a8]
 obtain⟨p0,_,_,a4,aa⟩:=ab.out W1 hb1;have am:Hid (yLt W1 (w.heap.size+1+1) [⟨b,off,cap,(ts.take fr).map Ty.pr⟩,⟨ob,0,os.length,os.map Ty.pr⟩,⟨b,X,cap-til,(ts.drop til).map Ty.pr⟩]):=by
  have k0:W1.cell? ⟨w.heap.size+1+1,0,none⟩=some (.slice (some ⟨b,off,none⟩) fr cap):=by rw[a3,<-a8];simp
  have k1:W1.cell? ⟨w.heap.size+1+1,1,none⟩=some (.slice (some ⟨ob,0,none⟩) os.length os.length):=by rw[a3,<-a8];simp
  have k2:W1.cell? ⟨w.heap.size+1+1,2,none⟩=some (.slice (some ⟨b,X,none⟩) (ts.length-til) (cap-til)):=by rw[a3,<-a8];simp
  have l1:((ts.take fr).map Ty.pr).length=fr:=by rw[length_map,length_take];omega
  have l3:((ts.drop til).map Ty.pr).length=ts.length-til:=by rw[length_map,length_drop]
  intro i p hp;match i,hp with
  |0,hp=>
   obtain rfl:=Option.some.inj hp;exact⟨by rw[k0,l1],⟨(a4.take fr).cells,(a4.take fr).one,by show b<_;omega⟩⟩
  |1,hp=>
   obtain rfl:=Option.some.inj hp;exact⟨by rw[k1,length_map],⟨aa.cells,aa.one,by show ob<_;omega⟩⟩
  |2,hp=>
   obtain rfl:=Option.some.inj hp;refine⟨by rw[k2,l3],?_⟩;by_cases hct:cap=til
   .have hd:ts.drop til= []:=drop_eq_nil_of_le (by omega);rw[hd];exact⟨λj u hu=>by simp at hu,λu hu=>by simp at hu,by show b<_;omega⟩
   .have a6:X=off+til*2:=by rw[HX.out,if_neg hct]
    rw[a6];exact⟨(a4.drop til).cells,(a4.drop til).one,by show b<_;omega⟩
  |n+3,hp=>simp at hp
 have ag:Hid (∀t∈ts.take fr++os++ts.drop til,yC9 W1 t.v t.l/\t.l.length<=1048576/\totM t.l<=1048576):=by
  intro t ht;rcases List.mem_append.1 ht with ht|ht
  .rcases List.mem_append.1 ht with ht|ht
   .have hm:=List.mem_of_mem_take ht;obtain⟨j,hj⟩:=getElem?_of_mem hm;exact⟨(a4 j t hj).2.2,HS.out t (mem_append_left _ hm)⟩
   .obtain⟨j,hj⟩:=getElem?_of_mem ht;exact⟨(aa j t hj).2.2,HS.out t (List.mem_append_right _ ht)⟩
  .have hm:=mem_of_mem_drop ht;obtain⟨j,hj⟩:=getElem?_of_mem hm;exact⟨(a4 j t hj).2.2,HS.out t (mem_append_left _ hm)⟩
 have ae:allP [⟨b,off,cap,(ts.take fr).map Ty.pr⟩,⟨ob,0,os.length,os.map Ty.pr⟩,⟨b,X,cap-til,(ts.drop til).map Ty.pr⟩]=(ts.take fr++os++ts.drop til).map Ty.pr:=by simp[allP]
 obtain⟨y,a9⟩:=qE (ts.take fr++os++ts.drop til);have au:0<y.length/\y.length<=3000:=by rw[a9];simp;omega
 rw[<-a9]at ae ag;have an:Hid (y=ts.take fr++os++ts.drop til):=a9;clear a9;rw[<-a3];refine hK.out _ _ (.inr p0) ?_;clear hK a3 a4 aa;try simp only[qA]
 refine qO 10 rfl λK hK=>?_;go_simp;go_at_call 129;refine(yOq (w.heap.size+1+1) _ _ am.out (by omega) (by rw[ae,length_map];omega) (by simp)).mono ?_;rintro r w2 ⟨v,rfl,a7,hb2⟩;rw[ae,length_map]at a7;obtain⟨g,cp,rfl⟩:∃g cp,v=.slice (some ⟨g,0,none⟩) y.length cp:=by
  rcases a7.2 with⟨_,q⟩|⟨g,cp,cur,q,_⟩
  .omega
  .exact⟨g,cp,q⟩
 have s2:=hb2.size;have al:=World.ownsRow.lt a7 g rfl;have ad:Below Wa.heap.size Wa w2:=hb1.trans (hb2.mono (by omega));have af:Hid (yDk w2 g 0 y/\g<w2.heap.size/\∀t∈y,t.l.length<=1048576/\totM t.l<=1048576):=⟨yYd a7 rfl (λt ht=>(ag.out t ht).1.below hb2),al.2,λt ht=>(ag.out t ht).2⟩;obtain⟨q0,_,_,_⟩:=ab.out w2 ad;refine hK.out _ _ (.inr q0) ?_;clear hK a7;try simp only[qA]
 refine qU 11 ?vq11 rfl ?yq11 q0 ?_;case yq11=>exact zzR0
 try simp only[qA]
 refine qO 12 rfl λK hK=>?_;go_simp;go_at_call 64;refine(yCp g 0 cp y _ af.1 af.2.1 (by omega) af.2.2).mono ?_;rintro r w3 ⟨g3,a5,xs,rfl,ai,ak,aj,hb3⟩;have s3:=hb3.size;have ah:Below Wa.heap.size Wa w3:=ad.trans (hb3.mono ad.size);have HF:Hid (yBs w3 w2.heap.size (.slice (some ⟨g3,0,none⟩) xs.length a5) xs/\yHi xs/\xs.map Tx.tb=y.map Ty.tb):=⟨ai,ak,aj⟩;clear q0;obtain⟨q0,q1,q2,_⟩:=ab.out w3 ah;refine hK.out _ _ (.inr q0) ?_;clear hK ai ak aj;try simp only[qA]
 refine qO 13 rfl λK hK=>?_;go_simp;refine hK.out _ _ (.inl rfl) ?_;clear hK;try simp only[qA]
 refine qD ?_;have HG:Hid (yBs (w3.setCell ⟨w.heap.size+1,0,none⟩ (.slice (some ⟨g3,0,none⟩) xs.length a5)) w.heap.size (.slice (some ⟨g3,0,none⟩) xs.length a5) xs/\Below w.heap.size w (w3.setCell ⟨w.heap.size+1,0,none⟩ (.slice (some ⟨g3,0,none⟩) xs.length a5))):=by refine⟨?_,(ac.trans (ah.mono (by omega))).setCell (by show w.heap.size<=w.heap.size+1;omega) _⟩;have h5:=HF.1.chg (Chg.of_set w3 (w.heap.size+1) 0 (.slice (some ⟨g3,0,none⟩) xs.length a5) (S:=λk=>k=w.heap.size+1) rfl) (λk hk _ q=>by omega);exact h5.mono (by omega)
 go_wp2_with fail;refine bodyPost_ret (v:=.agg #[.slice (some ⟨g3,0,none⟩) xs.length a5]) (by simp[results,results68,go_sem,q1]) rfl ⟨g3,a5,xs,rfl,HG.1,HF.2.1,by rw[HF.2.2,an.out]<;>simp,HG.2⟩
theorem yL2{w3:World}{R:Nat}{v:Value}(hR:w.heap.size<=R)(hRl:R<base)(h:yBs w3 base v xs)(hb:Below w.heap.size w w3):
  ∃va vn vc,v=.slice va vn vc/\yBy w (xs.map Tx.tb) (.returned (.agg #[.slice va vn vc])) (w3.setCell ⟨R,0,none⟩ (.slice va vn vc)):=by
 obtain⟨va,vn,vc,rfl⟩:∃va vn vc,v=.slice va vn vc:=by rcases h.row with⟨_,a,c,q⟩|⟨g,cp,q,_⟩<;>exact⟨_,_,_,q⟩
 refine⟨va,vn,vc,rfl,_,xs,rfl,?_,rfl,hb.setCell hR _⟩;have h5:=h.chg (Chg.of_set w3 R 0 (.slice va vn vc) (S:=λk=>k=R) rfl) (λk hk _ q=>by omega);exact h5.mono (by omega)
theorem yI5{v:Value}{ts:List Tx}(h:yBx w base v ts)(hb:base'<=base):yBx w base' v ts:=by
 rcases h with h|⟨g,cp,hv,hO⟩
 .exact .inl h
 .exact .inr ⟨g,cp,hv,yDr hO hb⟩
structure yBt(w:World)(base:Nat)(v:Value)(rs:List Rw)(ess:List (List Ent)):Prop where
 row:w.ownsRow base 60 1 v (rs.map Rw.u).length (rs.map Rw.u)
 ents:∀r∈rs,OwnK w base r
 same:rs.map Rw.es=ess
variable {ess:List (List Ent)}
theorem yBt.below{v:Value}(h:yBt w base v rs ess)(hb:Below w.heap.size w w'):yBt w' base v rs ess:=
 ⟨yB h.row hb,λr hr=>(h.ents r hr).below hb,h.same⟩
theorem yBt.mono{v:Value}(h:yBt w base v rs ess)(hb:base'<=base):yBt w base' v rs ess:=
 ⟨yDr h.row hb,λr hr=>(h.ents r hr).mono hb,h.same⟩
theorem yBt.cat{v v2 v':Value}{rs2:List Rw}{e1 e2:List (List Ent)}(h:yBt w base v rs e1)(h2:yBt w base v2 rs2 e2)(hA:AppR w w' base v v' (rs.map Rw.u) (rs2.map Rw.u)):yBt w' base v' (rs++rs2) (e1++e2):=by
 have y:∀x:Rw,OwnK w base x->OwnK w' base x:=λx hx=>by
  refine hx.kept hA.grown (λk' hk' q=>?_);rcases hx with⟨h0,_⟩|⟨g2,a0,h1,_,hE⟩
  .rw[h0]at hk';cases hk'
  .rw[h1]at hk';have e3:g2=k':=Option.some.inj hk';subst e3;exact yAb h.row hE (by decide) _ q rfl
 refine⟨by rw[map_append];exact hA.row,λr hr=>?_,by rw[map_append,h.same,h2.same]⟩;rcases List.mem_append.1 hr with q|q
 .exact y r (h.ents r q)
 .exact y r (h2.ents r q)
theorem yBt.ts{gq nq cq:Nat}(h:yBt w base (.slice (some ⟨gq,0,none⟩) nq cq) rs ess)(lo:ByteArray):yAw w base [⟨lo,.slice (some ⟨gq,0,none⟩) nq cq,rs⟩]:=by
 refine⟨λt ht=>?_,λt ht=>?_⟩
 all_goals
  simp at ht
  subst ht
 .exact yAn.of h.row rfl
 .exact h.ents
def yVx(w:World)(tb:List Tb)(row:ByteArray)(e:Ending)(w':World):Prop:=∃out,MrgT tb row out/\yBy w out e w'
theorem yFo(b off cap:Nat)(ts:List Tm)(row:ByteArray)(w:World)(h:yA2 w b off ts)(hok:okTs ts)(hB:b<w.heap.size)(hn:ts.length<=1048576)(hs:∀t∈ts,t.l.length<=1048576/\totM t.l<=1048576):
  Calls prog 34 #[.agg #[.slice (some ⟨b,off,none⟩) ts.length cap],.string row] w λe w'=>yVx w (tbs ts) row e w':=by
 obtain⟨Wa,a8⟩:=qE ((w.alloc (Obj.cells #[.slice (some ⟨b,off,none⟩) ts.length cap] 28)).alloc (Obj.cells #[.slice none 0 0] 28):World);have aj:Below w.heap.size w Wa:=by rw[a8];exact(qB).alloc (by simp) _
 have aX:Wa.heap.size=w.heap.size+1+1:=by rw[a8];simp
 have a7:Hid (∀wx,Below Wa.heap.size Wa wx->wx.cell? ⟨w.heap.size,0,none⟩=some (.slice (some ⟨b,off,none⟩) ts.length cap)/\wx.cell? ⟨w.heap.size+1,0,none⟩=some (.slice none 0 0)/\wx.frozen? ⟨w.heap.size+1,0,none⟩=false/\yA2 wx b off ts/\b<wx.heap.size):=by
  intro wx hx;have sx:=hx.size;refine⟨?_,?_,?_,(h.below aj hB).below hx (by omega),by omega⟩
  .rw[hx.cell (p:=⟨w.heap.size,0,none⟩) (by show w.heap.size<Wa.heap.size;omega),a8];simp[go_sem]
  .rw[hx.cell (p:=⟨w.heap.size+1,0,none⟩) (by show w.heap.size+1<Wa.heap.size;omega),a8];simp[go_sem]
  .rw[hx.frozen (p:=⟨w.heap.size+1,0,none⟩) (by show w.heap.size+1<Wa.heap.size;omega),a8];simp[go_sem]
 have HS:Hid (okTs ts/\∀t∈ts,t.l.length<=1048576/\totM t.l<=1048576):=⟨hok,hs⟩;have am:Hid (∀W,Below Wa.heap.size Wa W->Calls prog 50 #[.agg #[.slice (some ⟨b,off,none⟩) ts.length cap]] W λe w'=>∃(va:Option Addr)(vn vc:Nat),e=.returned (.agg #[.slice va vn vc])/\w'.cell? ⟨w.heap.size+1,0,none⟩=some (.slice none 0 0)/\w'.frozen? ⟨w.heap.size+1,0,none⟩=false/\Hid (yBy w (tbs ts) (.returned (.agg #[.slice va vn vc])) (w'.setCell ⟨w.heap.size+1,0,none⟩ (.slice va vn vc)))):=by intro W hW;obtain⟨_,_,_,hT,ab⟩:=a7.out W hW;have sW:=hW.size;refine(yBz b off cap ts W hT ab hn HS.2).mono ?_;rintro e w3 ⟨v,xs,rfl,hS,hx,hb3⟩;have aa:Below Wa.heap.size Wa w3:=hW.trans (hb3.mono sW);obtain⟨_,q1,q2,_⟩:=a7.out w3 aa;obtain⟨va,vn,vc,rfl,hc⟩:=yL2 (w:=w) (R:=w.heap.size+1) (by omega) (by omega) hS (aj.trans (aa.mono (by omega)));rw[hx]at hc;exact⟨va,vn,vc,rfl,q1,q2,hc⟩
 clear h hok hs;obtain⟨c0,_,_,ay,aR⟩:=a7.out Wa (Below.refl _ _);have aU:Hid (yA2 Wa b off ts):=ay;clear ay;go_enter func34,ntmps34;go_upto_region 1 with fail;rw[<-a8];clear a8;go_wp2_with fail;refine(yA4 b off cap ts _ aU.out HS.1 aR hn).mono ?_;rintro e w1 ⟨r,rfl,hr,hb1⟩;have HR:Hid (r=true↔GoodS (tbs ts)):=hr;have s1:=hb1.size;clear hr c0;obtain⟨c0,_,_,ax,aQ⟩:=a7.out w1 hb1;have aT:Hid (yA2 w1 b off ts):=ax;clear ax;cases r
 .have H:Hid (MrgT (tbs ts) row (tbs ts)):=yQy (λq=>Bool.noConfusion (HR.2 q));go_wp2_with fail;refine(am.out _ hb1).mono ?_;exact yXz
 have HG:Hid (GoodS (tbs ts)):=HR.1 rfl;obtain⟨i,hi⟩:=yB9 HG.out row;have HI:Hid (yBp (tbs ts) row i):=hi;have aK:i<ts.length:=by have:=hi.1;rw[yAy]at this;exact this
 have b8:ts.length<=100:=by have:=HG.le;rw[yAy]at this;exact this
 clear hi;go_wp2_with fail;refine(yDx b off cap ts row i _ aT.out aQ hn HI.out).mono ?_;rintro e w2 ⟨rfl,av⟩;have hb2:Below Wa.heap.size Wa w2:=hb1.trans (av.mono s1);have s2:=hb2.size;clear av c0;obtain⟨c0,_,_,aw,aP⟩:=a7.out w2 hb2;have aS:Hid (yA2 w2 b off ts):=aw;clear aw;have b0:IntKind.i64.wrap ((i:Int)+1)=(i:Int)+1:=by rw[IntKind.wrap_i64];omega
 go_upto_region 4 with fail;by_cases hlast:i+1=ts.length
 .have H:Hid (MrgT (tbs ts) row (tbs ts)):=yNv HI.out (by rw[yAy];exact hlast);have zl:((i:Int)+1==(ts.length:Int))=true:=by rw[beq_iff_eq];omega
  have HL:Hid (i+1=ts.length):=hlast;clear hlast;go_quiet (fail);go_wp2_with fail;refine(am.out _ (below_drewN hb2 _)).mono ?_;exact yXz
 obtain⟨t,ht⟩:∃t,ts[i]?=some t:=⟨_,getElem?_eq_getElem aK⟩;obtain⟨n,ae⟩:∃n,ts[i+1]?=some n:=⟨_,getElem?_eq_getElem (by omega)⟩;have ah:Hid (ts[i]?=some t/\ts[i+1]?=some n):=⟨ht,ae⟩;have HK:Hid (∀w',Below Wa.heap.size Wa w'->w'.cell? ⟨w.heap.size,0,none⟩=some (.slice (some ⟨b,off,none⟩) ts.length cap)/\w'.cell? ⟨b,off+i*2,none⟩=some (.string t.lo)/\w'.cell? ⟨b,off+i*2+1,none⟩=some (.slice (some ⟨t.b,t.off,none⟩) t.l.length t.cap)/\w'.cell? ⟨b,off+(i+1)*2+1,none⟩=some (.slice (some ⟨n.b,n.off,none⟩) n.l.length n.cap)/\t.at w'/\n.at w'):=by intro w' aG;obtain⟨k0,_,_,kT,_⟩:=a7.out w' aG;obtain⟨k1,k2,k3⟩:=kT i t ah.1;obtain⟨k4,k5,k6⟩:=kT (i+1) n ah.2;exact⟨k0,k1,k2,k5,k3,k6⟩
 have b6:t.l.length<=1048576:=(HS.2 t (mem_of_getElem? ht)).1;have b7:n.l.length<=1048576:=(HS.2 n (mem_of_getElem? ae)).1;have ag:Hid ((tbs ts)[i]?=some t.tb/\(tbs ts)[i+1]?=some n.tb):=by unfold tbs;rw[show(List.map Tm.tb ts)[i]?=some t.tb by rw[getElem?_map,ht];rfl,show(List.map Tm.tb ts)[i+1]?=some n.tb by rw[getElem?_map,ae];rfl];exact⟨rfl,rfl⟩
 clear ht ae;have zl:((i:Int)+1==(ts.length:Int))=false:=by rw[beq_eq_false_iff_ne];omega
 have z1:(i:Int)<(ts.length:Int):=by omega
 have z2:(i:Int)+1<(ts.length:Int):=by omega
 have z3:(0:Int)<=(i:Int)+1:=by omega
 have b5:((i:Int)+1).toNat=i+1:=by omega
 obtain⟨d0,d1,d2,d3,_⟩:=HK.out w2 hb2;by_cases hfull:50<t.l.length+n.l.length
 .have H:Hid (MrgT (tbs ts) row (tbs ts)):=yNw HI.out ag.1 ag.2 (by show 50<(esM t.l).length+(esM n.l).length;rw[length_map,length_map];exact hfull);have zf:(50:Int)<(t.l.length:Int)+(n.l.length:Int):=by omega
  have aF:IntKind.i64.wrap ((t.l.length:Int)+(n.l.length:Int))=(t.l.length:Int)+(n.l.length:Int):=by rw[IntKind.wrap_i64];omega
  go_quiet (fail);go_wp2_with fail;refine(am.out _ (below_drewN hb2 _)).mono ?_;exact yXz
 have zf:¬(50:Int)<(t.l.length:Int)+(n.l.length:Int):=by omega
 have aF:IntKind.i64.wrap ((t.l.length:Int)+(n.l.length:Int))=(t.l.length:Int)+(n.l.length:Int):=by rw[IntKind.wrap_i64];omega
 go_quiet (fail);go_upto_region 6 with fail;obtain⟨W2,ak⟩:=qE (w2.drewN nq:World);have af:Below Wa.heap.size Wa W2:=by rw[ak];exact below_drewN hb2 _
 rw[<-ak];clear ak d0 d1 d2 d3 c0 aS aP s2 hb2;have aE:Hid (∀(u:Tm)(X:World),u∈ts->u.at X->Below Wa.heap.size Wa X->Calls prog 53 #[.slice (some ⟨u.b,u.off,none⟩) u.l.length u.cap] X λe w'=>∃(g cp nn:Nat)(rs:List Rw),e=.returned (.slice (some ⟨g,0,none⟩) nn cp)/\Hid (nn=rs.length/\yBt w' X.heap.size (.slice (some ⟨g,0,none⟩) nn cp) rs (esM u.l)/\Below X.heap.size X w'/\Below Wa.heap.size Wa w')/\w'.cell? ⟨w.heap.size,0,none⟩=some (.slice (some ⟨b,off,none⟩) ts.length cap)/\w'.cell? ⟨b,off+i*2+1,none⟩=some (.slice (some ⟨t.b,t.off,none⟩) t.l.length t.cap)/\w'.cell? ⟨b,off+(i+1)*2+1,none⟩=some (.slice (some ⟨n.b,n.off,none⟩) n.l.length n.cap)):=by intro u X hu aN hX;refine(yCy u.u u.l X aN.ins (HS.2 u hu).1 (HS.2 u hu).2).mono ?_;rintro e w' ⟨v,rs,rfl,hC,⟨g,cp,rfl,ai⟩,ab⟩;have k':=hX.trans (ab.mono hX.size);obtain⟨q0,q1,q2,q3,_⟩:=HK.out w' k';exact⟨g,cp,rs.length,rs,rfl,⟨rfl,⟨by rw[length_map];exact ai,hC.ents,hC.same⟩,ab,k'⟩,q0,q2,q3⟩
 have aD:Hid (t∈ts/\n∈ts):=⟨mem_of_getElem? ah.1,mem_of_getElem? ah.2⟩;have hS:SW (λw':World=>w'.cell? ⟨w.heap.size,0,none⟩=some (.slice (some ⟨b,off,none⟩) ts.length cap)/\w'.cell? ⟨b,off+i*2+1,none⟩=some (.slice (some ⟨t.b,t.off,none⟩) t.l.length t.cap)/\w'.cell? ⟨b,off+(i+1)*2+1,none⟩=some (.slice (some ⟨n.b,n.off,none⟩) n.l.length n.cap)) W2.drew:=by obtain⟨q0,q1,q2,q3,_⟩:=HK.out W2.drew af.drew;exact⟨q0,q2,q3⟩
 refine wpR 16 hS ?_;refine qU 0 ?vr0x1 rfl ?yr0x1 hS ?_;case yr0x1=>exact zzR0
 try simp only[qA]
 refine qU 1 ?vr1x2 rfl ?yr1x2 hS ?_;case yr1x2=>exact zzR0
 try simp only[qA]
 refine qU 2 ?vr2x3 rfl ?yr2x3 hS ?_;case yr2x3=>exact zzR0
 try simp only[qA]
 refine qU 3 ?vr3x4 rfl ?yr3x4 hS ?_;case yr3x4=>exact zzR0
 try simp only[qA]
 refine qU 4 ?vr4x5 rfl ?yr4x5 hS ?_;case yr4x5=>exact zzR0
 try simp only[qA]
 refine qU 5 ?vr5x6 rfl ?yr5x6 hS ?_;case yr5x6=>exact zzR0
 try simp only[qA]
 refine qU 7 ?vr7x7 rfl ?yr7x7 hS ?_;case yr7x7=>exact zzR0
 try simp only[qA]
 refine qU 8 ?vr8x8 rfl ?yr8x8 hS ?_;case yr8x8=>exact zzR0
 try simp only[qA]
 refine qU 9 ?vr9x9 rfl ?yr9x9 hS ?_;case yr9x9=>exact zzR0
 try simp only[qA]
 refine qU 10 ?vr10x10 rfl ?yr10x10 hS ?_;case yr10x10=>exact zzR0
 try simp only[qA]
 refine qU 11 ?vr11x11 rfl ?yr11x11 hS ?_;case yr11x11=>exact zzR0
 try simp only[qA]
 refine qU 12 ?vr12x12 rfl ?yr12x12 hS ?_;case yr12x12=>exact zzR0
 try simp only[qA]
 refine qU 13 ?vr13x13 rfl ?yr13x13 hS ?_;case yr13x13=>exact zzR0
 try simp only[qA]
 refine qO 6 rfl λK hK=>?_;go_simp;go_at_call 53;refine(aE.out t _ aD.1 (HK.out W2.drew af.drew).2.2.2.2.1 af.drew).mono ?_;rintro r v1 ⟨g1,aC,n1,a6,rfl,an,m0,m2,m3⟩;refine hK.out _ _ (.inr ⟨m0,m2,m3⟩) ?_;clear hK;try simp only[qA]
 refine qO 14 rfl λK hK=>?_;go_simp;go_at_call 53;refine(aE.out n _ aD.2 (HK.out v1 an.2.2.2).2.2.2.2.2 an.2.2.2).mono ?_;rintro r v2 ⟨g2,aB,n2,a5,rfl,aW,l0,l2,l3⟩;refine hK.out _ _ (.inr ⟨l0,l2,l3⟩) ?_;clear hK;try simp only[qA]
 have a0:Hid (yBt v2 Wa.heap.size (.slice (some ⟨g1,0,none⟩) n1 aC) a6 (esM t.l)/\yBt v2 Wa.heap.size (.slice (some ⟨g2,0,none⟩) n2 aB) a5 (esM n.l)/\n2=(a5.map Rw.u).length/\Below Wa.heap.size Wa v2):=by obtain⟨a1,a2,a3,a4⟩:=an.out;obtain⟨b1,b2,b3,b4⟩:=aW.out;have s1:=af.drew.size;have s2:=a4.size;exact⟨(a2.below b3).mono s1,b2.mono s2,by rw[length_map];exact b1,b4⟩
 have aq:Hid ((a6.map Rw.u).length+(a5.map Rw.u).length<=2^30):=by have e1:=congrArg List.length a0.1.same;have e2:=congrArg List.length a0.2.1.same;simp at e1 e2;show _<=_;rw[length_map,length_map,e1,e2];omega
 refine qO 15 rfl λK hK=>?_;refine yB7 _ (by rfl) _ _ (by rfl) Wa.heap.size (.slice (some ⟨g1,0,none⟩) n1 aC) (a6.map Rw.u) g2 0 n2 aB (a5.map Rw.u) (by rfl) (by rfl) a0.2.2.1 a0.1.row (λj u hu=>?hc) (λu hu=>?h1) aq.out a0.2.2.2.size ?_;case hc=>
  have hl:=(List.getElem?_eq_some_iff.1 hu).1;have h5:=a0.2.1.row;rw[<-a0.2.2.1]at h5;have:=World.ownsRow.cellAt h5 j (by have:=a0.2.2.1;omega);rw[hu]at this;rw[Nat.zero_add];exact this
 case h1=>obtain⟨r,hr,rfl⟩:=List.mem_map.1 hu;rcases a0.2.1.ents r hr with⟨_,_,a,c,q⟩|⟨g,cp,_,q,_⟩<;>rw[q]<;>rfl
 intro v' v3 hA;obtain⟨g3,a9,rfl⟩:=hA.form (λq=>by cases q);obtain⟨N3,az⟩:=qE ((a6.map Rw.u++a5.map Rw.u).length);rw[<-az]at hA|-;have ad:Hid (yBt v3 Wa.heap.size (.slice (some ⟨g3,0,none⟩) N3 a9) (a6++a5) (esM t.l++esM n.l)/\Below Wa.heap.size Wa v3):=by obtain⟨a1,a2,a3,a4⟩:=a0.out;exact⟨a1.cat a2 hA,a4.grown hA.grown a4.size (λj hj=>yCl a1.row j hj)⟩
 obtain⟨k0,k1,k2,k3,_⟩:=HK.out v3 ad.2;refine hK.out _ _ (.inr ⟨k0,k2,k3⟩) ?_;clear hK hA az;try simp only[qA]
 refine qO 16 rfl λK hK=>?_;go_simp;refine hK.out _ _ (.inl rfl) ?_;clear hK;try simp only[qA]
 refine qD ?_;have aZ:IntKind.i64.wrap ((i:Int)+2)=(i:Int)+2:=by rw[IntKind.wrap_i64];omega
 have aV:Hid (∀(X:World)(ob:Nat),Below Wa.heap.size Wa X->ob<X.heap.size->yAw X Wa.heap.size [⟨t.lo,.slice (some ⟨g3,0,none⟩) N3 a9,a6++a5⟩]->X.cell? ⟨ob,0,none⟩=some (.string t.lo)->X.cell? ⟨ob,1,none⟩=some (.slice (some ⟨g3,0,none⟩) N3 a9)->
   Calls prog 73 #[.agg #[.slice (some ⟨b,off,none⟩) ts.length cap],.int .i64 i,.int .i64 ((i:Int)+2),.slice (some ⟨ob,0,none⟩) 1 1] X λe w'=>∃(va:Option Addr)(vn vc:Nat),e=.returned (.agg #[.slice va vn vc])/\w'.cell? ⟨w.heap.size+1,0,none⟩=some (.slice none 0 0)/\w'.frozen? ⟨w.heap.size+1,0,none⟩=false/\w'.cell? ⟨w.heap.size,0,none⟩=some (.slice (some ⟨b,off,none⟩) ts.length cap)/\w'.cell? ⟨b,off+i*2,none⟩=some (.string t.lo)/\Hid (yVx w (tbs ts) row (.returned (.agg #[.slice va vn vc])) (w'.setCell ⟨w.heap.size+1,0,none⟩ (.slice va vn vc)))):=by
  intro X ob hX aJ aH aM aL;obtain⟨_,_,_,hT,ab⟩:=a7.out X hX;have sX:=hX.size;have ar:=yDh b off cap ts [⟨t.lo,.slice (some ⟨g3,0,none⟩) N3 a9,a6++a5⟩] i (i+2) ob Wa.heap.size X hT ab (λj u hu=>by
   cases j with
   |zero=>simp at hu;subst hu;exact⟨by simpa using aM,by simpa using aL⟩
   |succ j=>simp at hu) aJ aH sX (by omega) (by simp) (by simp) (by omega) (by omega) (by omega) HS.2
  rw[show((i+2:Nat):Int)=(i:Int)+2 by omega]at ar;refine ar.mono ?_;rintro e w3 ⟨v,ys,rfl,ai,ao,aI,hb3⟩;have aa:Below Wa.heap.size Wa w3:=hX.trans (hb3.mono sX);obtain⟨_,q1,q2,_⟩:=a7.out w3 aa;have aO:yBs w3 Wa.heap.size v ys:=⟨yI5 ai sX,ao.runs,ao.ents⟩;obtain⟨va,vn,vc,rfl,hc⟩:=yL2 (w:=w) (R:=w.heap.size+1) (by omega) (by omega) aO (aj.trans (aa.mono (by omega)));obtain⟨y0,y1,_⟩:=HK.out w3 aa;refine⟨va,vn,vc,rfl,q1,q2,y0,y1,_,yNx HG.out HI.out ag.1 ag.2 (by show(esM t.l).length+(esM n.l).length<=50;rw[length_map,length_map];omega),?_⟩;have he:ys.map Tx.tb=(tbs ts).take i++ [⟨t.tb.lo,t.tb.rs++n.tb.rs⟩]++(tbs ts).drop (i+2):=by rw[aI];unfold tbs;rw[List.map_take,List.map_drop];have:=ad.1.same;simp only[map_cons,map_nil,Tx.tb,this];rfl
  rw[<-he];exact hc
 clear m0 m2 m3 l0 l2 l3 aq;go_upto_region 7 with fail;have y:SW (λw':World=>w'.cell? ⟨w.heap.size,0,none⟩=some (.slice (some ⟨b,off,none⟩) ts.length cap)/\w'.cell? ⟨b,off+i*2,none⟩=some (.string t.lo)) v3.drew:=⟨by simpa using k0,by simpa using k1⟩;refine wpR 14 y ?_;refine qU 0 ?vr0x14 rfl ?yr0x14 y ?_;case yr0x14=>exact zzR0
 try simp only[qA]
 refine qU 1 ?vr1x15 rfl ?yr1x15 y ?_;case yr1x15=>exact zzR0
 try simp only[qA]
 refine qU 2 ?vr2x16 rfl ?yr2x16 y ?_;case yr2x16=>exact zzR0
 try simp only[qA]
 refine qU 3 ?vr3x17 rfl ?yr3x17 y ?_;case yr3x17=>exact zzR0
 try simp only[qA]
 refine qU 4 ?vr4x18 rfl ?yr4x18 y ?_;case yr4x18=>exact zzR0
 try simp only[qA]
 refine qU 5 ?vr5x19 rfl ?yr5x19 y ?_;case yr5x19=>exact zzR0
 try simp only[qA]
 refine qU 6 ?vr6x20 rfl ?yr6x20 y ?_;case yr6x20=>exact zzR0
 try simp only[qA]
 refine qU 7 ?vr7x21 rfl ?yr7x21 y ?_;case yr7x21=>exact zzR0
 try simp only[qA]
 refine qU 8 ?vr8x22 rfl ?yr8x22 y ?_;case yr8x22=>exact zzR0
 try simp only[qA]
 refine qU 9 ?vr9x23 rfl ?yr9x23 y ?_;case yr9x23=>exact zzR0
 try simp only[qA]
 refine qU 10 ?vr10x24 rfl ?yr10x24 y ?_;case yr10x24=>exact zzR0
 try simp only[qA]
 refine qU 11 ?vr11x25 rfl ?yr11x25 y ?_;case yr11x25=>exact zzR0
 try simp only[qA]
 refine qO 12 rfl λK hK=>?_;go_simp;obtain⟨W4,ac⟩:=qE ((v3.alloc (Obj.cells #[.string t.lo,.slice (some ⟨g3,0,none⟩) N3 a9] 56)).drew:World);have au:Below v3.heap.size v3 W4:=by rw[ac];exact(qB).drew
 have aY:W4.heap.size=v3.heap.size+1:=by rw[ac];simp
 have aA:Below Wa.heap.size Wa W4:=ad.2.trans (au.mono ad.2.size)
 have al:Hid (yAw W4 Wa.heap.size [⟨t.lo,.slice (some ⟨g3,0,none⟩) N3 a9,a6++a5⟩]/\W4.cell? ⟨v3.heap.size,0,none⟩=some (.string t.lo)/\W4.cell? ⟨v3.heap.size,1,none⟩=some (.slice (some ⟨g3,0,none⟩) N3 a9)):=
  ⟨(ad.1.ts t.lo).below au,by rw[ac];simp[go_sem],by rw[ac];simp[go_sem]⟩
 rw[<-ac];obtain⟨p0,p1,_⟩:=HK.out W4 aA;refine hK.out _ _ (.inr ⟨p0,p1⟩) ?_;clear hK ac;try simp only[qA]
 refine qO 13 rfl λK hK=>?_;go_simp;go_at_call 73;refine(aV.out W4 v3.heap.size aA (by omega) al.1 al.2.1 al.2.2).mono ?_;rintro e w5 ⟨va,vn,vc,rfl,q1,q2,y0,y1,hc⟩;refine hK.out _ _ (.inr ⟨y0,y1⟩) ?_;clear hK;try simp only[qA]
 refine qO 14 rfl λK hK=>?_;go_simp;refine hK.out _ _ (.inl rfl) ?_;clear hK;try simp only[qA]
 refine qD ?_;go_wp2_with fail;exact bodyPost_ret (v:=.agg #[.slice va vn vc]) (by simp[results,results34,go_sem,q1]) rfl hc.out
theorem yKu(ts:List Tm):(ts.map Tm.ty).map Ty.tb=tbs ts:=by unfold tbs;rw[map_map];apply map_congr_left;intro t _;rfl
theorem yH1{w3:World}{tb:List Tb}{e:Ending}{W:World}(R:Nat)(hb:Below w.heap.size w W)(hR:w.heap.size<=R)(hRl:R<W.heap.size)(h:yD9 W tb e w3):
  ∃(g cp:Nat)(xs:List Tx),e=.returned (.agg #[.slice (some ⟨g,0,none⟩) xs.length cp])/\Below W.heap.size W w3/\yD9 w tb (.returned (.agg #[.slice (some ⟨g,0,none⟩) xs.length cp])) (w3.setCell ⟨R,0,none⟩ (.slice (some ⟨g,0,none⟩) xs.length cp)):=by
 obtain⟨g,cp,xs,rfl,hS,hA,hE,hb3⟩:=h;refine⟨g,cp,xs,rfl,hb3,g,cp,xs,rfl,?_,hA,hE,(hb.trans (hb3.mono hb.size)).setCell hR _⟩;have h5:=hS.chg (Chg.of_set w3 R 0 (.slice (some ⟨g,0,none⟩) xs.length cp) (S:=λk=>k=R) rfl) (λk hk _ q=>by omega);exact h5.mono hb.size
theorem yG5{v:Value}(h:w.ownsRow base 60 1 v l.length (l.map Rm.u))(hr:∀r∈l,r.at w):yC9 w v l:=by
 rcases h.2 with⟨q,q2⟩|⟨g,cp,cur,q,q2,q3,a0,y,_⟩
 .exact .inl ⟨none,0,q,List.eq_nil_of_length_eq_zero q2⟩
 .subst q;refine .inr ⟨g,0,cp,rfl,λi r hi=>⟨?_,hr r (mem_of_getElem? hi)⟩,(World.ownsRow.lt h g rfl).2,a0,y⟩;have hl:=(List.getElem?_eq_some_iff.1 hi).1;have:=World.ownsRow.cellAt h i (by omega);rw[getElem?_map,hi]at this;rw[Nat.zero_add];exact this
theorem yG4{va:Option Addr}{vn vc:Nat}{R o:Nat}(h:yC9 w (.slice va vn vc) l)(hv:∀g,va=some g->g.block≠R\/l= [])(hl:∀r∈l,r.b≠R):yC9 (w.setCell ⟨R,o,none⟩ x) (.slice va vn vc) l:=by
 rcases h with⟨a,c,hq,rfl⟩|⟨b,off,cap,hq,hE,y,h1,h2⟩
 .exact .inl ⟨a,c,hq,rfl⟩
 .by_cases hn:l= []
  .subst hn;exact .inl ⟨_,_,hq,rfl⟩
  .cases hq
   refine .inr ⟨b,off,vc,rfl,λi r hi=>?_,by simpa using y,h1,h2⟩;have hb:b≠R:=(hv _ rfl).resolve_right hn;have hr:=hl r (mem_of_getElem? hi);obtain⟨k1,k2⟩:=hE i r hi;refine⟨by rw[World.cell?_setCell_far _ _ _ _ (by exact λq=>hb q.symm)];exact k1,⟨λj e he=>?_,by simpa using k2.lt,k2.len,k2.cap⟩⟩;obtain⟨q0,q1,q2,q3,q4,q5⟩:=k2.ents j e he;refine⟨?_,?_,?_,?_,?_,?_⟩;all_goals rw[World.cell?_setCell_far _ _ _ _ (by exact λq=>hr q.symm)]
   .exact q0
   .exact q1
   .exact q2
   .exact q3
   .exact q4
   .exact q5
def yVy(w:World)(tb:List Tb)(row:ByteArray)(e:Ending)(w':World):Prop:=∃out,MrgT tb row out/\yD9 w out e w'
theorem yJ2(b off cap:Nat)(ts:List Tm)(row:ByteArray)(w:World)(h:yA2 w b off ts)(hok:okTs ts)(hB:b<w.heap.size)(hn:ts.length<=1048576)(hcap:ts.length<=cap)(hcm:cap<=maxLen)(hs:∀t∈ts,t.l.length<=1048576/\totM t.l<=1048576)(htot:∀(i:Nat)(t n:Tm),ts[i]?=some t->ts[i+1]?=some n->totM (t.l++n.l)<=1048576):
  Calls prog 31 #[.agg #[.slice (some ⟨b,off,none⟩) ts.length cap],.string row] w λe w'=>yVy w (tbs ts) row e w':=by
 obtain⟨Wa,ab⟩:=qE ((w.alloc (Obj.cells #[.slice (some ⟨b,off,none⟩) ts.length cap] 28)).alloc (Obj.cells #[.slice none 0 0] 28):World);have hba:Below w.heap.size w Wa:=by rw[ab];exact(qB).alloc (by simp) _
 have aN:Wa.heap.size=w.heap.size+1+1:=by rw[ab];simp
 have HWa:Hid (∀wx,Below Wa.heap.size Wa wx->wx.cell? ⟨w.heap.size,0,none⟩=some (.slice (some ⟨b,off,none⟩) ts.length cap)/\wx.cell? ⟨w.heap.size+1,0,none⟩=some (.slice none 0 0)/\wx.frozen? ⟨w.heap.size+1,0,none⟩=false/\yA2 wx b off ts/\b<wx.heap.size):=by
  intro wx hx;have sx:=hx.size;refine⟨?_,?_,?_,(h.below hba hB).below hx (by omega),by omega⟩
  .rw[hx.cell (p:=⟨w.heap.size,0,none⟩) (by show w.heap.size<Wa.heap.size;omega),ab];simp[go_sem]
  .rw[hx.cell (p:=⟨w.heap.size+1,0,none⟩) (by show w.heap.size+1<Wa.heap.size;omega),ab];simp[go_sem]
  .rw[hx.frozen (p:=⟨w.heap.size+1,0,none⟩) (by show w.heap.size+1<Wa.heap.size;omega),ab];simp[go_sem]
 have HS:Hid (okTs ts/\∀t∈ts,t.l.length<=1048576/\totM t.l<=1048576):=⟨hok,hs⟩;have HSy:Hid (∀t∈ts.map Tm.ty,t.l.length<=1048576/\totM t.l<=1048576):=by intro t ht;obtain⟨u,hu,rfl⟩:=List.mem_map.1 ht;exact hs u hu
 have HCp:Hid (∀W,Below Wa.heap.size Wa W->Calls prog 64 #[.agg #[.slice (some ⟨b,off,none⟩) ts.length cap]] W λe w'=>∃(g cp:Nat)(xs:List Tx),e=.returned (.agg #[.slice (some ⟨g,0,none⟩) xs.length cp])/\w'.cell? ⟨w.heap.size+1,0,none⟩=some (.slice none 0 0)/\w'.frozen? ⟨w.heap.size+1,0,none⟩=false/\Hid (yD9 w (tbs ts) (.returned (.agg #[.slice (some ⟨g,0,none⟩) xs.length cp])) (w'.setCell ⟨w.heap.size+1,0,none⟩ (.slice (some ⟨g,0,none⟩) xs.length cp)))):=by intro W hW;obtain⟨_,_,_,hT,aG⟩:=HWa.out W hW;have:=yCp b off cap (ts.map Tm.ty) W hT.tys aG (by rw[length_map];exact hn) HSy.out;rw[length_map,yKu]at this;refine this.mono ?_;intro e w3 hp;have sW:=hW.size;obtain⟨g,cp,xs,rfl,hb3,hc⟩:=yH1 (w:=w) (w.heap.size+1) (hba.trans (hW.mono (by omega))) (by omega) (by omega) hp;obtain⟨_,q1,q2,_⟩:=HWa.out w3 (hW.trans (hb3.mono sW));exact⟨g,cp,xs,rfl,q1,q2,hc⟩
 unfold maxLen at hcm;clear h hok hs;obtain⟨c0,_,_,aA,aI⟩:=HWa.out Wa (Below.refl _ _);have aL:Hid (yA2 Wa b off ts):=aA;clear aA;go_enter func31,ntmps31;go_upto_region 1 with fail;rw[<-ab];clear ab;go_wp2_with fail;refine(yBf b off cap ts _ aL.out HS.1 aI hn).mono ?_;rintro e w1 ⟨r,rfl,hr,hb1⟩;have HR:Hid (r=true↔GoodS (tbs ts)):=hr;have s1:=hb1.size;clear hr c0;obtain⟨c0,_,_,az,aH⟩:=HWa.out w1 hb1;have aK:Hid (yA2 w1 b off ts):=az;clear az;cases r
 .have H:Hid (MrgT (tbs ts) row (tbs ts)):=yQy (λq=>Bool.noConfusion (HR.2 q));go_wp2_with fail;refine(HCp.out _ hb1).mono ?_;rintro e w3 ⟨g,cp,xs,rfl,q1,q2,hc⟩;exact xBe
 have HG:Hid (GoodS (tbs ts)):=HR.1 rfl;obtain⟨i,hi⟩:=yB9 HG.out row;have HI:Hid (yBp (tbs ts) row i):=hi;have aF:i<ts.length:=by have:=hi.1;rw[yAy]at this;exact this
 have aS:ts.length<=100:=by have:=HG.le;rw[yAy]at this;exact this
 clear hi;go_wp2_with fail;refine(yD3 b off cap ts row i _ aK.out aH hn HG.out HI.out).mono ?_;rintro e w2 ⟨rfl,ax⟩;have hb2:Below Wa.heap.size Wa w2:=hb1.trans (ax.mono s1);have s2:=hb2.size;clear ax c0;obtain⟨c0,_,_,ay,aT⟩:=HWa.out w2 hb2;have aU:Hid (yA2 w2 b off ts):=ay;clear ay;by_cases hlast:i+1=ts.length
 .have H:Hid (MrgT (tbs ts) row (tbs ts)):=yNv HI.out (by rw[yAy];exact hlast);have zl:(i:Int)+1=(ts.length:Int):=by omega
  go_wp2_with fail;refine(HCp.out _ hb2).mono ?_;rintro e w3 ⟨g,cp,xs,rfl,q1,q2,hc⟩;exact xBe
 obtain⟨t,ht⟩:∃t,ts[i]?=some t:=⟨_,getElem?_eq_getElem aF⟩;obtain⟨n,ao⟩:∃n,ts[i+1]?=some n:=⟨_,getElem?_eq_getElem (by omega)⟩;have HTN:Hid (ts[i]?=some t/\ts[i+1]?=some n):=⟨ht,ao⟩;have HK:Hid (∀w',Below Wa.heap.size Wa w'->w'.cell? ⟨w.heap.size,0,none⟩=some (.slice (some ⟨b,off,none⟩) ts.length cap)/\w'.cell? ⟨b,off+i*2,none⟩=some (.string t.lo)/\w'.cell? ⟨b,off+i*2+1,none⟩=some (.slice (some ⟨t.b,t.off,none⟩) t.l.length t.cap)/\w'.cell? ⟨b,off+(i+1)*2+1,none⟩=some (.slice (some ⟨n.b,n.off,none⟩) n.l.length n.cap)/\t.at w'/\n.at w'):=by intro w' an;obtain⟨k0,_,_,kT,_⟩:=HWa.out w' an;obtain⟨k1,k2,k3⟩:=kT i t HTN.1;obtain⟨k4,k5,k6⟩:=kT (i+1) n HTN.2;exact⟨k0,k1,k2,k5,k3,k6⟩
 have aQ:t.l.length<=1048576:=(HS.2 t (mem_of_getElem? ht)).1;have aR:n.l.length<=1048576:=(HS.2 n (mem_of_getElem? ao)).1;have HTot:Hid (totM (t.l++n.l)<=1048576):=htot i t n HTN.1 HTN.2;clear ht ao;have zl:¬(i:Int)+1=(ts.length:Int):=by omega
 have z1:(i:Int)<(ts.length:Int):=by omega
 have z2:(i:Int)+1<(ts.length:Int):=by omega
 have z3:(0:Int)<=(i:Int)+1:=by omega
 have aO:IntKind.i64.wrap ((i:Int)+1)=(i:Int)+1:=by rw[IntKind.wrap_i64];omega
 have aP:((i:Int)+1).toNat=i+1:=by omega
 have hS:SW (λw':World=>w'.cell? ⟨w.heap.size,0,none⟩=some (.slice (some ⟨b,off,none⟩) ts.length cap)/\w'.cell? ⟨b,off+i*2,none⟩=some (.string t.lo)/\w'.cell? ⟨b,off+i*2+1,none⟩=some (.slice (some ⟨t.b,t.off,none⟩) t.l.length t.cap)/\w'.cell? ⟨b,off+(i+1)*2+1,none⟩=some (.slice (some ⟨n.b,n.off,none⟩) n.l.length n.cap)) w2.drew:=by obtain⟨k0,k1,k2,k3,_⟩:=HK.out w2.drew hb2.drew;exact⟨k0,k1,k2,k3⟩
 go_upto_region 6 with fail;refine wpR 23 hS ?_;refine qU 0 ?vq0 rfl ?yq0 hS ?_;case yq0=>exact zzR0
 try simp only[qA]
 refine qU 1 ?vq1 rfl ?yq1 hS ?_;case yq1=>exact zzR0
 try simp only[qA]
 refine qU 2 ?vq2 rfl ?yq2 hS ?_;case yq2=>exact zzR0
 try simp only[qA]
 refine qU 3 ?vq3 rfl ?yq3 hS ?_;case yq3=>exact zzR0
 try simp only[qA]
 refine qU 4 ?vq4 rfl ?yq4 hS ?_;case yq4=>exact zzR0
 try simp only[qA]
 refine qU 5 ?vq5 rfl ?yq5 hS ?_;case yq5=>exact zzR0
 try simp only[qA]
 refine qU 6 ?vq6 rfl ?yq6 hS ?_;case yq6=>exact zzR0
 try simp only[qA]
 refine qU 7 ?vq7 rfl ?yq7 hS ?_;case yq7=>exact zzR0
 try simp only[qA]
 refine qU 8 ?vq8 rfl ?yq8 hS ?_;case yq8=>exact zzR0
 try simp only[qA]
 refine qU 9 ?vq9 rfl ?yq9 hS ?_;case yq9=>exact zzR0
 try simp only[qA]
 refine qU 10 ?vq10 rfl ?yq10 hS ?_;case yq10=>exact zzR0
 try simp only[qA]
 refine qU 11 ?vq11 rfl ?yq11 hS ?_;case yq11=>exact zzR0
 try simp only[qA]
 refine qU 12 ?vq12 rfl ?yq12 hS ?_;case yq12=>exact zzR0
 try simp only[qA]
 refine qU 13 ?vq13 rfl ?yq13 hS ?_;case yq13=>exact zzR0
 try simp only[qA]
 refine qU 14 ?vq14 rfl ?yq14 hS ?_;case yq14=>exact zzR0
 try simp only[qA]
 refine qU 15 ?vq15 rfl ?yq15 hS ?_;case yq15=>exact zzR0
 try simp only[qA]
 refine qU 16 ?vq16 rfl ?yq16 hS ?_;case yq16=>exact zzR0
 try simp only[qA]
 refine qU 17 ?vq17 rfl ?yq17 hS ?_;case yq17=>exact zzR0
 try simp only[qA]
 refine qU 18 ?vq18 rfl ?yq18 hS ?_;case yq18=>exact zzR0
 try simp only[qA]
 have av:∀(w':World)(x:Tm),x.at w'->Pt.at w' ⟨x.b,x.off,x.cap,x.l.map Rm.u⟩:=λw' x hx=>by
  refine⟨λj u hu=>?_,λu hu=>?_,hx.lt⟩
  .rw[getElem?_map]at hu;cases hp:x.l[j]? with
   |none=>rw[hp]at hu;cases hu
   |some r=>rw[hp]at hu;simp at hu;subst hu;exact(hx.rms j r hp).1
  .obtain⟨r,_,rfl⟩:=List.mem_map.1 hu;rfl
 have aC:Hid (∀(w':World)(x:Tm),x.at w'->Pt.at w' ⟨x.b,x.off,x.cap,x.l.map Rm.u⟩):=av;clear av;have ae:allU [⟨t.b,t.off,t.cap,t.l.map Rm.u⟩,⟨n.b,n.off,n.cap,n.l.map Rm.u⟩]=(t.l++n.l).map Rm.u:=by simp[allU]
 have aB:Hid (∀(w':World)(sb:Nat),Below Wa.heap.size Wa w'->w'.cell? ⟨sb,0,none⟩=some (.slice (some ⟨t.b,t.off,none⟩) t.l.length t.cap)->w'.cell? ⟨sb,1,none⟩=some (.slice (some ⟨n.b,n.off,none⟩) n.l.length n.cap)->yM4 w' sb [⟨t.b,t.off,t.cap,t.l.map Rm.u⟩,⟨n.b,n.off,n.cap,n.l.map Rm.u⟩]):=by
  intro w' sb an k0 k1 j p hp;obtain⟨_,_,_,_,ft,fn⟩:=HK.out w' an;match j,hp with
  |0,hp=>
   obtain rfl:=Option.some.inj hp;exact⟨by rw[k0,length_map],aC.out w' t ft⟩
  |1,hp=>
   obtain rfl:=Option.some.inj hp;exact⟨by rw[k1,length_map],aC.out w' n fn⟩
  |m+2,hp=>simp at hp
 refine yD (i:=19) (j:=22) (by kernel_rfl) rfl rfl (λK hK=>?_) (λK hK=>?_)
 .go_simp;obtain⟨W3,a5⟩:=qE ((w2.alloc (Obj.cells #[.slice (some ⟨t.b,t.off,none⟩) t.l.length t.cap,.slice (some ⟨n.b,n.off,none⟩) n.l.length n.cap] 54)).drew:World);have aq:Below w2.heap.size w2 W3:=by rw[a5];exact(qB).drew
  have hb3:Below Wa.heap.size Wa W3:=hb2.trans (aq.mono s2);have ad:W3.heap.size=w2.heap.size+1:=by rw[a5];simp
  have af:Hid (yM4 W3 w2.heap.size [⟨t.b,t.off,t.cap,t.l.map Rm.u⟩,⟨n.b,n.off,n.cap,n.l.map Rm.u⟩]):=aB.out W3 _ hb3 (by rw[a5];simp) (by rw[a5];simp);obtain⟨e0,e1,e2,e3,_,_⟩:=HK.out W3 hb3;rw[<-a5];refine hK.out _ _ (.inr ⟨e0,e1,e2,e3⟩) ?_;clear hK a5;try simp only[qA]
  refine yD (i:=20) (j:=22) (by kernel_rfl) rfl rfl (λK hK=>?_) (λK hK=>?_)
  .skip;go_simp;go_at_call 69;refine(yFs w2.heap.size _ _ af.out (by omega) (by rw[ae,length_map,length_append];omega) (by simp)).mono ?_;rintro r w4 ⟨v,rfl,ak,aw⟩;rw[ae,length_map]at ak;obtain⟨va,vn,vc,rfl⟩:∃va vn vc,v=.slice va vn vc:=by rcases ak.2 with⟨q,_⟩|⟨g,cp,cur,q,_⟩<;>exact⟨_,_,_,q⟩
   have aj:Below Wa.heap.size Wa w4:=hb3.trans (aw.mono hb3.size);have aM:=aw.size;obtain⟨f0,f1,f2,f3,ft,fn⟩:=HK.out w4 aj;have ac:Hid (yC9 w4 (.slice va vn vc) (t.l++n.l)/\(∀g,va=some g->W3.heap.size<=g.block\/t.l++n.l= [])):=by
    refine⟨yG5 ak (λr hr=>?_),λg hg=>?_⟩
    .rcases List.mem_append.1 hr with hr|hr
     .obtain⟨j,hj⟩:=getElem?_of_mem hr;exact(ft.rms j r hj).2
     .obtain⟨j,hj⟩:=getElem?_of_mem hr;exact(fn.rms j r hj).2
    .rcases ak.2 with⟨q,q2⟩|⟨g',cp,cur,q,q2,_⟩
     .exact .inr (List.eq_nil_of_length_eq_zero q2)
     .cases q
      cases hg
      exact .inl q2
   have HVn:Hid (vn=(t.l++n.l).length):=by
    show vn=(t.l++n.l).length;rcases ak.2 with⟨q,q2⟩|⟨g',cp,cur,q,_⟩
    .cases q;omega
    .cases q;rfl
   refine hK.out _ _ (.inr ⟨f0,f1,f2,f3⟩) ?_;clear hK;try simp only[qA]
   refine yBh (i:=21) (v:=?vr21x1) rfl (by kernel_rfl) (by kernel_rfl) (by kernel_rfl) (by kernel_rfl) (by decide) (λ_ _ _ h=>h) (Or.inl ⟨by rfl,?yr21x1⟩) (show _/\_ from⟨f0,f1,f2,f3⟩) ?_;case yr21x1=>exact zzR0
   try simp only[qA]
   refine qO 22 rfl λK hK=>?_;go_simp;obtain⟨g0,g1,g2,g3,_,_⟩:=HK.out (w4.alloc (Obj.cells #[.string ⟨#[]⟩,.slice none 0 0] 56)) (aj.alloc aj.size _);refine hK.out _ _ (.inr ⟨g0,g1,g2,g3⟩) ?_;clear hK;try simp only[qA]
   refine qO 23 rfl λK hK=>?_;go_simp;refine hK.out _ _ (.inl rfl) ?_;clear hK;try simp only[qA]
   refine qD ?_;obtain⟨R6,a0⟩:=qE w4.heap.size;obtain⟨Wf,y⟩:=qE (w4.alloc (Obj.cells #[.string t.lo,.slice va vn vc] 56):World);have au:Wf.cell? ⟨R6,0,none⟩=some (.string t.lo):=by rw[y,a0];simp
   have ar:Wf.cell? ⟨R6,1,none⟩=some (.slice va vn vc):=by rw[y,a0];simp
   have HFin:Hid (Below Wa.heap.size Wa Wf/\yC9 Wf (.slice va vn vc) (t.l++n.l)):=by
    have h1:Below w4.heap.size w4 Wf:=by rw[y];exact qB
    exact⟨aj.trans (h1.mono aj.size),ac.1.below h1⟩
   rw[<-a0,<-y];clear a0 y f0 f1 f2 f3 g0 g1 g2 g3 e0 e1 e2 e3;exact zzQ1
  .go_simp;obtain⟨W4,a4⟩:=qE (W3.alloc (Obj.cells #[.string ⟨#[]⟩,.slice none 0 0] 56):World);have a7:Below W3.heap.size W3 W4:=by rw[a4];exact qB
   have a8:Below Wa.heap.size Wa W4:=hb3.trans (a7.mono hb3.size);have aE:W4.heap.size=w2.heap.size+1+1:=by rw[a4];simp[ad]
   have af:Hid (yM4 W4 w2.heap.size [⟨t.b,t.off,t.cap,t.l.map Rm.u⟩,⟨n.b,n.off,n.cap,n.l.map Rm.u⟩]):=af.below a7 (by omega);have HZ:Hid (W4.cell? ⟨w2.heap.size+1,0,none⟩=some (.string ⟨#[]⟩)/\W4.cell? ⟨w2.heap.size+1,1,none⟩=some (.slice none 0 0)/\W4.frozen? ⟨w2.heap.size+1,0,none⟩=false/\W4.frozen? ⟨w2.heap.size+1,1,none⟩=false):=by rw[a4,<-ad];refine⟨?_,?_,?_,?_⟩<;>simp
   obtain⟨g0,g1,g2,g3,_,_⟩:=HK.out W4 a8;rw[<-a4];refine hK.out _ _ (.inr ⟨g0,g1,g2,g3⟩) ?_;clear hK a4 e0 e1 e2 e3;try simp only[qA]
   refine qO 20 rfl λK hK=>?_;go_simp;go_at_call 69;refine(yFs w2.heap.size _ _ af.out (by omega) (by rw[ae,length_map,length_append];omega) (by simp)).mono ?_;rintro r w5 ⟨v,rfl,a6,a3⟩;rw[ae,length_map]at a6;obtain⟨va,vn,vc,rfl⟩:∃va vn vc,v=.slice va vn vc:=by rcases a6.2 with⟨q,_⟩|⟨g,cp,cur,q,_⟩<;>exact⟨_,_,_,q⟩
   have ai:Below Wa.heap.size Wa w5:=a8.trans (a3.mono a8.size);have aD:=a3.size;obtain⟨f0,f1,f2,f3,ft,fn⟩:=HK.out w5 ai;have ac:Hid (yC9 w5 (.slice va vn vc) (t.l++n.l)/\(∀g,va=some g->W4.heap.size<=g.block\/t.l++n.l= [])):=by
    refine⟨yG5 a6 (λr hr=>?_),λg hg=>?_⟩
    .rcases List.mem_append.1 hr with hr|hr
     .obtain⟨j,hj⟩:=getElem?_of_mem hr;exact(ft.rms j r hj).2
     .obtain⟨j,hj⟩:=getElem?_of_mem hr;exact(fn.rms j r hj).2
    .rcases a6.2 with⟨q,q2⟩|⟨g',cp,cur,q,q2,_⟩
     .exact .inr (List.eq_nil_of_length_eq_zero q2)
     .cases q
      cases hg
      exact .inl q2
   have HVn:Hid (vn=(t.l++n.l).length):=by
    show vn=(t.l++n.l).length;rcases a6.2 with⟨q,q2⟩|⟨g',cp,cur,q,_⟩
    .cases q;omega
    .cases q;rfl
   refine hK.out _ _ (.inr ⟨f0,f1,f2,f3⟩) ?_;clear hK;try simp only[qA]
   refine yBh (i:=21) (v:=?vr21x2) rfl (by kernel_rfl) (by kernel_rfl) (by kernel_rfl) (by kernel_rfl) (by decide) (λ_ _ _ h=>h) (Or.inl ⟨by rfl,?yr21x2⟩) (show _/\_ from⟨f0,f1,f2,f3⟩) ?_;case yr21x2=>exact zzR0
   try simp only[qA]
   obtain⟨aa,a9,am,al⟩:w5.cell? ⟨(w2.heap.size+1),0,none⟩=some (.string ⟨#[]⟩)/\w5.cell? ⟨(w2.heap.size+1),1,none⟩=some (.slice none 0 0)/\w5.frozen? ⟨(w2.heap.size+1),0,none⟩=false/\w5.frozen? ⟨(w2.heap.size+1),1,none⟩=false:=by obtain⟨y0,y1,y2,y3⟩:=HZ.out;exact⟨by rw[a3.cell (p:=⟨(w2.heap.size+1),0,none⟩) (by show(w2.heap.size+1)<W4.heap.size;omega)];exact y0,by rw[a3.cell (p:=⟨(w2.heap.size+1),1,none⟩) (by show(w2.heap.size+1)<W4.heap.size;omega)];exact y1,by rw[a3.frozen (p:=⟨(w2.heap.size+1),0,none⟩) (by show(w2.heap.size+1)<W4.heap.size;omega)];exact y2,by rw[a3.frozen (p:=⟨(w2.heap.size+1),1,none⟩) (by show(w2.heap.size+1)<W4.heap.size;omega)];exact y3⟩
   refine qO 23 rfl λK hK=>?_;go_simp;refine hK.out _ _ (.inl rfl) ?_;clear hK;try simp only[qA]
   refine qD ?_;obtain⟨R6,a0⟩:=qE ((w2.heap.size+1));obtain⟨Wf,y⟩:=qE ((w5.setCell ⟨(w2.heap.size+1),0,none⟩ (.string t.lo)).setCell ⟨(w2.heap.size+1),1,none⟩ (.slice va vn vc):World);have au:Wf.cell? ⟨R6,0,none⟩=some (.string t.lo):=by rw[y,a0];simp[go_sem,aa,a9]
   have ar:Wf.cell? ⟨R6,1,none⟩=some (.slice va vn vc):=by rw[y,a0];simp[go_sem,aa,a9]
   have HFin:Hid (Below Wa.heap.size Wa Wf/\yC9 Wf (.slice va vn vc) (t.l++n.l)):=by
    have hR:Wa.heap.size<=(w2.heap.size+1):=by omega
    rw[y];refine⟨(ai.setCell hR _).setCell hR _,?_⟩;have ah:∀r∈t.l++n.l,r.b≠(w2.heap.size+1):=λr hr q=>by
     obtain⟨_,_,_,_,kt,kn⟩:=HK.out w2 hb2;have:r.b<w2.heap.size:=by
      rcases List.mem_append.1 hr with hr|hr
      .obtain⟨j,hj⟩:=getElem?_of_mem hr;exact(kt.rms j r hj).2.lt
      .obtain⟨j,hj⟩:=getElem?_of_mem hr;exact(kn.rms j r hj).2.lt
     omega
    have ag:∀g,va=some g->g.block≠(w2.heap.size+1)\/t.l++n.l= []:=λg hg=>by
     rcases ac.2 g hg with q|q
     .exact .inl (by omega)
     .exact .inr q
    exact yG4 (yG4 ac.1 ag ah) ag ah
   rw[<-y,<-a0];clear a0 y aa a9 am al f0 f1 f2 f3;exact zzQ1
 .go_simp;obtain⟨W3,a5⟩:=qE ((w2.alloc (Obj.cells #[.string ⟨#[]⟩,.slice none 0 0] 56)).drew:World);have aq:Below w2.heap.size w2 W3:=by rw[a5];exact(qB).drew
  have hb3:Below Wa.heap.size Wa W3:=hb2.trans (aq.mono s2);have ad:W3.heap.size=w2.heap.size+1:=by rw[a5];simp
  have aJ:Hid (W3.cell? ⟨w2.heap.size,0,none⟩=some (.string ⟨#[]⟩)/\W3.cell? ⟨w2.heap.size,1,none⟩=some (.slice none 0 0)/\W3.frozen? ⟨w2.heap.size,0,none⟩=false/\W3.frozen? ⟨w2.heap.size,1,none⟩=false):=by rw[a5];refine⟨?_,?_,?_,?_⟩<;>simp
  obtain⟨e0,e1,e2,e3,_,_⟩:=HK.out W3 hb3;rw[<-a5];refine hK.out _ _ (.inr ⟨e0,e1,e2,e3⟩) ?_;clear hK a5;try simp only[qA]
  refine qO 19 rfl λK hK=>?_
  .go_simp;obtain⟨W4,a4⟩:=qE (W3.alloc (Obj.cells #[.slice (some ⟨t.b,t.off,none⟩) t.l.length t.cap,.slice (some ⟨n.b,n.off,none⟩) n.l.length n.cap] 54):World);have a7:Below W3.heap.size W3 W4:=by rw[a4];exact qB
   have a8:Below Wa.heap.size Wa W4:=hb3.trans (a7.mono hb3.size);have aE:W4.heap.size=w2.heap.size+1+1:=by rw[a4];simp[ad]
   have af:Hid (yM4 W4 (w2.heap.size+1) [⟨t.b,t.off,t.cap,t.l.map Rm.u⟩,⟨n.b,n.off,n.cap,n.l.map Rm.u⟩]):=aB.out W4 _ a8 (by rw[a4,<-ad];simp) (by rw[a4,<-ad];simp);have HZ:Hid (W4.cell? ⟨w2.heap.size,0,none⟩=some (.string ⟨#[]⟩)/\W4.cell? ⟨w2.heap.size,1,none⟩=some (.slice none 0 0)/\W4.frozen? ⟨w2.heap.size,0,none⟩=false/\W4.frozen? ⟨w2.heap.size,1,none⟩=false):=by obtain⟨y0,y1,y2,y3⟩:=aJ.out;exact⟨by rw[a7.cell (p:=⟨w2.heap.size,0,none⟩) (by show w2.heap.size<W3.heap.size;omega)];exact y0,by rw[a7.cell (p:=⟨w2.heap.size,1,none⟩) (by show w2.heap.size<W3.heap.size;omega)];exact y1,by rw[a7.frozen (p:=⟨w2.heap.size,0,none⟩) (by show w2.heap.size<W3.heap.size;omega)];exact y2,by rw[a7.frozen (p:=⟨w2.heap.size,1,none⟩) (by show w2.heap.size<W3.heap.size;omega)];exact y3⟩
   obtain⟨g0,g1,g2,g3,_,_⟩:=HK.out W4 a8;rw[<-a4];refine hK.out _ _ (.inr ⟨g0,g1,g2,g3⟩) ?_;clear hK a4 e0 e1 e2 e3;try simp only[qA]
   refine qO 20 rfl λK hK=>?_;go_simp;go_at_call 69;refine(yFs (w2.heap.size+1) _ _ af.out (by omega) (by rw[ae,length_map,length_append];omega) (by simp)).mono ?_;rintro r w5 ⟨v,rfl,a6,a3⟩;rw[ae,length_map]at a6;obtain⟨va,vn,vc,rfl⟩:∃va vn vc,v=.slice va vn vc:=by rcases a6.2 with⟨q,_⟩|⟨g,cp,cur,q,_⟩<;>exact⟨_,_,_,q⟩
   have ai:Below Wa.heap.size Wa w5:=a8.trans (a3.mono a8.size);have aD:=a3.size;obtain⟨f0,f1,f2,f3,ft,fn⟩:=HK.out w5 ai;have ac:Hid (yC9 w5 (.slice va vn vc) (t.l++n.l)/\(∀g,va=some g->W4.heap.size<=g.block\/t.l++n.l= [])):=by
    refine⟨yG5 a6 (λr hr=>?_),λg hg=>?_⟩
    .rcases List.mem_append.1 hr with hr|hr
     .obtain⟨j,hj⟩:=getElem?_of_mem hr;exact(ft.rms j r hj).2
     .obtain⟨j,hj⟩:=getElem?_of_mem hr;exact(fn.rms j r hj).2
    .rcases a6.2 with⟨q,q2⟩|⟨g',cp,cur,q,q2,_⟩
     .exact .inr (List.eq_nil_of_length_eq_zero q2)
     .cases q
      cases hg
      exact .inl q2
   have HVn:Hid (vn=(t.l++n.l).length):=by
    show vn=(t.l++n.l).length;rcases a6.2 with⟨q,q2⟩|⟨g',cp,cur,q,_⟩
    .cases q;omega
    .cases q;rfl
   refine hK.out _ _ (.inr ⟨f0,f1,f2,f3⟩) ?_;clear hK;try simp only[qA]
   refine yBh (i:=21) (v:=?vr21x3) rfl (by kernel_rfl) (by kernel_rfl) (by kernel_rfl) (by kernel_rfl) (by decide) (λ_ _ _ h=>h) (Or.inl ⟨by rfl,?yr21x3⟩) (show _/\_ from⟨f0,f1,f2,f3⟩) ?_;case yr21x3=>exact zzR0
   try simp only[qA]
   obtain⟨aa,a9,am,al⟩:w5.cell? ⟨w2.heap.size,0,none⟩=some (.string ⟨#[]⟩)/\w5.cell? ⟨w2.heap.size,1,none⟩=some (.slice none 0 0)/\w5.frozen? ⟨w2.heap.size,0,none⟩=false/\w5.frozen? ⟨w2.heap.size,1,none⟩=false:=by obtain⟨y0,y1,y2,y3⟩:=HZ.out;exact⟨by rw[a3.cell (p:=⟨w2.heap.size,0,none⟩) (by show w2.heap.size<W4.heap.size;omega)];exact y0,by rw[a3.cell (p:=⟨w2.heap.size,1,none⟩) (by show w2.heap.size<W4.heap.size;omega)];exact y1,by rw[a3.frozen (p:=⟨w2.heap.size,0,none⟩) (by show w2.heap.size<W4.heap.size;omega)];exact y2,by rw[a3.frozen (p:=⟨w2.heap.size,1,none⟩) (by show w2.heap.size<W4.heap.size;omega)];exact y3⟩
   refine qO 23 rfl λK hK=>?_;go_simp;refine hK.out _ _ (.inl rfl) ?_;clear hK;try simp only[qA]
   refine qD ?_;obtain⟨R6,a0⟩:=qE w2.heap.size;obtain⟨Wf,y⟩:=qE ((w5.setCell ⟨w2.heap.size,0,none⟩ (.string t.lo)).setCell ⟨w2.heap.size,1,none⟩ (.slice va vn vc):World);have au:Wf.cell? ⟨R6,0,none⟩=some (.string t.lo):=by rw[y,a0];simp[go_sem,aa,a9]
   have ar:Wf.cell? ⟨R6,1,none⟩=some (.slice va vn vc):=by rw[y,a0];simp[go_sem,aa,a9]
   have HFin:Hid (Below Wa.heap.size Wa Wf/\yC9 Wf (.slice va vn vc) (t.l++n.l)):=by
    have hR:Wa.heap.size<=w2.heap.size:=by omega
    rw[y];refine⟨(ai.setCell hR _).setCell hR _,?_⟩;have ah:∀r∈t.l++n.l,r.b≠w2.heap.size:=λr hr q=>by
     obtain⟨_,_,_,_,kt,kn⟩:=HK.out w2 hb2;have:r.b<w2.heap.size:=by
      rcases List.mem_append.1 hr with hr|hr
      .obtain⟨j,hj⟩:=getElem?_of_mem hr;exact(kt.rms j r hj).2.lt
      .obtain⟨j,hj⟩:=getElem?_of_mem hr;exact(kn.rms j r hj).2.lt
     omega
    have ag:∀g,va=some g->g.block≠w2.heap.size\/t.l++n.l= []:=λg hg=>by
     rcases ac.2 g hg with q|q
     .exact .inl (by omega)
     .exact .inr q
    exact yG4 (yG4 ac.1 ag ah) ag ah
   rw[<-y,<-a0];clear a0 y aa a9 am al f0 f1 f2 f3;exact zzQ1
def szR:List (List Ent)->Nat
 | []=>0
 |e::es=>1+e.length+szR es
theorem yKv:∀(a b:List (List Ent)),szR (a++b)=szR a+szR b
 | [],b=>by simp[szR]
 |e::a,b=>by simp[szR,yKv a b];omega
def szB:List Tb->Nat
 | []=>0
 |t::ts=>szR t.rs+szB ts
theorem yBk:∀(a b:List Tb),szB (a++b)=szB a+szB b
 | [],b=>by simp[szB]
 |e::a,b=>by simp[szB,yBk a b];omega
theorem yPc{a:List Tb}{t:Tb}(h:t∈a):szR t.rs<=szB a:=by obtain⟨x,y,rfl⟩:=List.append_of_mem h;rw[yBk];simp[szB];omega
variable {i:Nat}
theorem yJ{ts:List Tb}{a b:Tb}(ha:ts[i]?=some a)(hb:ts[i+1]?=some b):ts=ts.take i++a::b::ts.drop (i+2):=by
 obtain⟨h1,h2⟩:=List.getElem?_eq_some_iff.1 ha;obtain⟨h3,h4⟩:=List.getElem?_eq_some_iff.1 hb;rw[<-h2,<-h4];conv=>lhs;rw[<-take_append_drop i ts]
 congr 1;rw[drop_eq_getElem_cons h1,drop_eq_getElem_cons h3]
theorem yYr{ts out:List Tb}{row:ByteArray}(h:MrgT ts row out):szB out<=szB ts/\out.length<=ts.length:=by
 by_cases hg:GoodS ts
 .obtain⟨i,hi⟩:=yB9 hg row;by_cases hl:i+1=ts.length
  .rw[h.last hg i hi hl];exact⟨Nat.le_refl _,Nat.le_refl _⟩
  .have ha:=getElem?_eq_getElem hi.1;have hb:=getElem?_eq_getElem (show i+1<ts.length by have:=hi.1;omega);by_cases hf:50<(ts[i]'hi.1).rs.length+(ts[i+1]'(by have:=hi.1;omega)).rs.length
   .rw[h.full hg i _ _ hi ha hb hf];exact⟨Nat.le_refl _,Nat.le_refl _⟩
   .rw[h.done hg i _ _ hi ha hb (by omega)];have h1:=yJ ha hb;have h2:=congrArg szB h1;have h3:=congrArg List.length h1;rw[yBk]at h2;simp only[szB,length_append,length_cons]at h2 h3;rw[yBk,yBk];simp only[szB,length_append,length_cons,length_nil,yKv];omega
 .rw[h.bad hg];exact⟨Nat.le_refl _,Nat.le_refl _⟩
theorem yIq:∀(l:List Rm),szR (esM l)=l.length+totM l
 | []=>rfl
 |r::l=>by
  have:=yIq l
  unfold esM at this|-
  simp[szR,totM,this]
  omega
theorem yI6:∀(a b:List Rm),totM (a++b)=totM a+totM b
 | [],b=>by simp[totM]
 |r::a,b=>by simp[totM,yI6 a b];omega
theorem yIm{ops:Array Oper}{oo:Oper}{a:Act}{K:Act->World->Prop}{Q:Exit->Act->World->Prop}{E:Prop}(w:World)(hgd:oo.guard=none)(s x:Operand)
  (ho:oo.op=.call {callee:=.builtin .append,args:=#[s,x],argTypes:=#[54,54]})
  (base g n cp:Nat) (us:List Value) (vx:Value) (rs:List Rw) (hs:a.eval s=.slice (some ⟨g,0,none⟩) n cp) (hn:n=us.length) (hx:a.eval x=vx) (hX:yAn w base vx rs) (hk:∀r∈rs,OwnK w base r) (hO:w.ownsRow base 60 1 (.slice (some ⟨g,0,none⟩) n cp) us.length us)
  (hlen:us.length+rs.length<=2^30) (hbase:base<=w.heap.size)
  (h:∀v' w',AppR w w' base (.slice (some ⟨g,0,none⟩) n cp) v' us (rs.map Rw.u)->K (a.put oo.dst v') w'):if Region.wanted oo (yielded ops a.tmps)=true then Oper.wp prog oo a w K Q else E:=by
 obtain⟨g2,a0,rfl,y⟩:=hX
 .refine yB7 w hgd s x ho base (.slice (some ⟨g,0,none⟩) n cp) us g2 0 rs.length a0 (rs.map Rw.u) hs hx (by rw[length_map]) hO (λj u hu=>?_) (λu hu=>?_) (by rw[length_map];exact hlen) hbase h
  .have hl:=(List.getElem?_eq_some_iff.1 hu).1;rw[length_map]at hl;have:=World.ownsRow.cellAt y j (by omega);rw[hu]at this;rw[Nat.zero_add];exact this
  .obtain⟨r,hr,rfl⟩:=List.mem_map.1 hu;rcases hk r hr with⟨_,_,a,c,q⟩|⟨g,cp,_,q,_⟩<;>rw[q]<;>rfl
theorem OwnP.setRuns{cap:Nat}{xs:List Pr}(h:OwnP w base g cap xs){p:Pr}(hp:xs[i]?=some p)(v:Value):OwnP (w.setCell ⟨g,i*2+1,none⟩ v) base g cap (xs.set i (p.1,v)):=
 h.set i 1 p (p.1,v) v hp (by omega) rfl
theorem yBs.setRuns{cp:Nat}{ys:List Tx}(h:yBs w base (.slice (some ⟨g,0,none⟩) ys.length cp) ys){t:Tx}(ht:ys[i]?=some t){v:Value}(hv:yAn w base v rs)(hk:∀r∈rs,OwnK w base r):yBs (w.setCell ⟨g,i*2+1,none⟩ v) base (.slice (some ⟨g,0,none⟩) ys.length cp) (ys.set i ⟨t.lo,v,rs⟩):=by
 obtain⟨hO⟩:Nonempty (OwnP w base g cp (ys.map Tx.pr)):=by
  rcases h.row with⟨q,_⟩|⟨g',cp',q,hO⟩
  .rw[q]at ht;simp at ht
  .cases q;exact⟨hO⟩
 have a4:Chg (λk=>k=g) w (w.setCell ⟨g,i*2+1,none⟩ v):=Chg.of_set _ _ _ _ rfl;have a3:=yAk w g (i*2+1) v;have y:yAw (w.setCell ⟨g,i*2+1,none⟩ v) base ys:=yAw.grown ⟨h.runs,h.ents⟩ hO a3;have a0:yAw (w.setCell ⟨g,i*2+1,none⟩ v) base [⟨t.lo,v,rs⟩]:=yAw.grown ⟨λx hx=>by simp at hx;subst hx;exact hv,λx hx=>by simp at hx;subst hx;exact hk⟩ hO a3;refine⟨.inr ⟨g,cp,by rw[length_set],?_⟩,λx hx=>?_,λx hx=>?_⟩
 .rw[map_set];exact hO.setRuns (p:=t.pr) (by rw[getElem?_map,ht];rfl) v
 .rcases mem_or_eq_of_mem_set hx with q|q
  .exact y.runs x q
  .exact a0.runs x (by rw[q];simp)
 .rcases mem_or_eq_of_mem_set hx with q|q
  .exact y.ents x q
  .exact a0.ents x (by rw[q];simp)
end Go.Proofs.YtehfleefkdojpaaGreatDoor
