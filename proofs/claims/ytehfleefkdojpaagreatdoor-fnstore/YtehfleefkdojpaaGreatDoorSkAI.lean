import Derived.Test.YtehfleefkdojpaaGreatDoorSkAE
import Derived.Test.YtehfleefkdojpaaGreatDoorSkAF
namespace Go.Proofs.YtehfleefkdojpaaGreatDoor
open Go.ChangeShapes Go.WideShapes Go.ChangeAt Go.RowKit Go.Deep _root_.List _root_.Nat Go.Proofs.Tryz
set_option linter.unusedVariables false
set_option linter.unusedSimpArgs false
set_option maxRecDepth 100000
set_option maxHeartbeats 16000000
set_option linter.unnecessarySimpa false
section
section
variable {T:Type} (V:Nd->List T->T)
end
end
variable {w:World}
theorem yXb.form{v:Value}{xs:List Nd}(h:yXb w v xs):∃a c,v=.slice a xs.length c/\(xs≠ []->∃b o,a=some ⟨b,o,none⟩/\yC w b o xs/\b<w.heap.size/\xs.length<=c/\c<=maxLen):=by
 rcases h with⟨a,cap,rfl,rfl⟩|⟨b,off,cap,rfl,hE,y,h1,h2⟩
 .exact⟨a,cap,rfl,λq=>absurd rfl q⟩
 .exact⟨_,cap,rfl,λ_=>⟨b,off,rfl,hE,y,h1,h2⟩⟩
theorem yM0(es fs:List Nd):yCv (es++fs)=yCv es++yCv fs:=by simp[yCv]
variable {b:Nat}
theorem yT8{off:Nat}{es:List Nd}(h:yC w b off es):∀j u,(yCv es)[j]?=some u->w.cell? ((⟨b,off,none⟩:Addr).add j)=some u:=by
 intro j u hu;have hj:j<es.length*7:=by rw[<-yF];exact(List.getElem?_eq_some_iff.1 hu).1
 obtain⟨e,he⟩:∃e,es[j/7]?=some e:=⟨_,getElem?_eq_getElem (by omega)⟩;have hg:=yLn es (j/7) e he (j%7) (mod_lt _ (by omega));rw[show j/7*7+j%7=j by omega,hu]at hg;obtain⟨c0,c1,c2,c3,c4,c5,c6⟩:=h (j/7) e he;rw[Addr.add_mid,show off+j=off+j/7*7+j%7 by omega];have hm:j%7<7:=mod_lt _ (by omega);generalize j%7=m at*;match m,hm,hg with
 |0,_,hg=>rw[Nat.add_zero,c0,hg];rfl
 |1,_,hg=>rw[c1,hg];rfl
 |2,_,hg=>rw[c2,hg];rfl
 |3,_,hg=>rw[c3,hg];rfl
 |4,_,hg=>rw[c4,hg];rfl
 |5,_,hg=>rw[c5,hg];rfl
 |6,_,hg=>rw[c6,hg];rfl
theorem yYq(es:List Nd):∀u∈yCv es,u.oneCell'=true:=by intro u hu;unfold yCv at hu;obtain⟨e,_,he⟩:=mem_flatMap.1 hu;simp at he;rcases he with rfl|rfl|rfl|rfl|rfl|rfl|rfl<;>rfl
variable {ops:Array Oper} {a:Act} {Q:Exit->Act->World->Prop}
theorem yAi{rest:List Oper}{o:Oper}(w:World)(hgd:o.guard=none)(s x:Operand)
  (ho:o.op=.call {callee:=.builtin .append,args:=#[s,x],argTypes:=#[23,23]})
  (base g cp n b off m cx:Nat) (fs es:List Nd) (hs:a.eval s=.slice (some ⟨g,0,none⟩) n cp) (hx:a.eval x=.slice (some ⟨b,off,none⟩) m cx) (hn:n=fs.length) (hm:m=es.length) (hO:yAj w base g cp fs)
  (hc:yC w b off es) (hlen:fs.length+es.length<=2^30) (hbase:base<=w.heap.size)
  (h:∀g' cp' w',yAj w' base g' cp' (fs++es)->w.grownBy w' (some g)->(g'=g\/g'=w.heap.size)->wpList prog ops Q rest (a.put o.dst (.slice (some ⟨g',0,none⟩) (n+m) cp')) w'):wpList prog ops Q (o::rest) a w:=by
 subst hn hm;obtain⟨i,hi,a5,a4,a3⟩:=info_parts Tryz.infoNd;refine wpList_append_own_at w hgd s x 23 ho base 35 i _ 7 72 underlying23 hi a5 a4 a3 rfl (by decide) (.slice (some ⟨g,0,none⟩) fs.length cp) fs.length (yCv fs) hs hO ⟨b,off,none⟩ es.length cx (yCv es) hx (yF es) (yT8 hc) (yYq es) ?_ ?_ hbase ?_
 .unfold maxLen;omega
 .omega
 .intro v' w' a0 a7 a6 y;rcases a0.2 with⟨h0,_⟩|⟨g',a8,cur,hv,_,_,hn,a9,_,_⟩
  .have:=(a6.1 h0).1;cases this
  .subst hv;refine h g' a8 w' ?_ a7 ?_
   .unfold yAj;rw[length_append,yM0];exact a0
   .simp[Value.ownBlock]at y;exact y
theorem yOo{α:Type}{ns:List (List α)}{k:Nat}{y:List α}(h:ns[k]?=some y):(ns.take (k+1)).flatten=(ns.take k).flatten++y:=by rw[take_add_one,h];simp
theorem yZ{α:Type}(ns:List (List α))(k:Nat):(ns.take k).flatten.length<=ns.flatten.length:=by
 have h:ns.flatten=(ns.take k).flatten++(ns.drop k).flatten:=by rw[<-flatten_append,take_append_drop]
 rw[h,length_append];omega
theorem yPx(b cp:Nat)(us:List Value)(ns:List (List Nd))(w:World)(hc:∀(j:Nat)(u:Value),us[j]?=some u->w.cell? ⟨b,j,none⟩=some u)(hb:b<w.heap.size)(hl:us.length=ns.length)(hI:∀(j:Nat)(u:Value)(y:List Nd),us[j]?=some u->ns[j]?=some y->yXb w u y/\y≠ [])(ht:ns.flatten.length<=1000000)(hn:ns.length<=1000):
  Calls prog 187 #[.slice (some ⟨b,0,none⟩) ns.length cp] w λr w'=>∃g' cp',r=.returned (.slice (some ⟨g',0,none⟩) ns.flatten.length cp')/\yAj w' w.heap.size g' cp' ns.flatten/\Below w.heap.size w w':=by
 have HH:Hid ((∀(j:Nat)(u:Value),us[j]?=some u->w.cell? ⟨b,j,none⟩=some u)/\us.length=ns.length/\(∀(j:Nat)(u:Value)(y:List Nd),us[j]?=some u->ns[j]?=some y->yXb w u y/\y≠ [])/\ns.flatten.length<=1000000):=⟨hc,hl,hI,ht⟩;clear hc hl hI ht;obtain⟨N,hN⟩:=qE ns.flatten.length;have HN:Hid (N=ns.flatten.length):=hN;rw[<-hN];clear hN;obtain⟨W1,a3⟩:=qE (w.alloc (Obj.cells #[] 35):World);have hb1:Below w.heap.size w W1:=by rw[a3];exact qB
 have ad:Hid (yAj W1 w.heap.size w.heap.size 0 ((ns.take 0).flatten)):=by rw[a3];exact World.ownsRow_made w #[] 0 (Nat.le_refl _) (zero_le _) (by simp)
 go_enter func187,ntmps187;go_upto_region 2 with fail;rw[<-a3];clear a3;go_wp2_with fail;go_loopw[3,4] (λov iv wr=>∃(k g cg m:Nat),k<=ns.length/\iv=.int .i64 k/\ov=.slice (some ⟨g,0,none⟩) m cg/\Hid (m=((ns.take k).flatten).length/\yAj wr w.heap.size g cg ((ns.take k).flatten))/\Below w.heap.size w wr) (λ_ iv _=>ns.length-(intOf iv).toNat);case atStart=>exact⟨0,_,_,0,zero_le _,rfl,rfl,⟨rfl,ad.out⟩,hb1⟩
 case round=>
  obtain⟨k,g,cg,m,hk,rfl,rfl,HO,a0⟩:=hrel;have sb:=a0.size;by_cases hlt:k<ns.length
  .have zk:(k:Int)<(ns.length:Int):=by omega
   obtain⟨y,hy⟩:∃y,ns[k]?=some y:=⟨_,getElem?_eq_getElem hlt⟩;obtain⟨u,hu⟩:∃u,us[k]?=some u:=⟨_,getElem?_eq_getElem (by have:=HH.2.1;omega)⟩;obtain⟨a5,a4⟩:=HH.2.2.1 k u y hu hy;obtain⟨a,c,hv,hf⟩:=a5.form;obtain⟨b',o',rfl,hE,a9,_⟩:=hf a4;have c0:wr.cell? ⟨b,k,none⟩=some (.slice (some ⟨b',o',none⟩) y.length c):=by rw[a0.cell (p:=⟨b,k,none⟩) hb,<-hv];exact HH.1 k u hu
   have HY:Hid (ns[k]?=some y/\yC wr b' o' y/\((ns.take k).flatten).length+y.length<=2^30):=by refine⟨hy,hE.below a0 a9,?_⟩;have h1:=yZ ns (k+1);rw[yOo hy,length_append]at h1;have:=HH.2.2.2;omega
   clear hy hu a5 a4 hf hE hv;go_wp2_with (at_builtin;refine yAi _ rfl _ _ rfl w.heap.size g cg m b' o' y.length c ((ns.take k).flatten) y rfl rfl HO.1 rfl HO.2 HY.2.1 HY.2.2 ?hb ?_);case hb=>omega
   intro g' cp' w' a7 a6 ac;have ae:Hid (m+y.length=((ns.take (k+1)).flatten).length/\yAj w' w.heap.size g' cp' ((ns.take (k+1)).flatten)):=by rw[yOo HY.1];exact⟨by rw[length_append,HO.1],a7⟩
   have ab:Below w.heap.size w w':=a0.grown a6 sb (λj hj=>by have:=HO.2.lt.1;cases hj;omega);clear a7 a6 ac c0;go_wp2_with fail;go_roundw;case rel=>exact⟨k+1,g',cp',m+y.length,by omega,by go_num,by first|rfl|go_num,ae,ab⟩
   case measure=>simp[intOf];omega
  .have zk:¬(k:Int)<(ns.length:Int):=by omega
   have aa:k=ns.length:=by omega
   subst aa;have a8:Hid (m=N/\yAj wr w.heap.size g cg ns.flatten):=by have:=HO.out;rw[take_length,<-HN.out]at this;exact this
   clear HO;go_wp2_with fail;go_ret;exact⟨g,cg,by rw[a8.1];rfl,a8.2,a0⟩
theorem yC0(k:Int)(w:World):Calls prog 132 #[.int .i64 k] w λe w'=>e=.returned (.int .i64 (yE4 k:Int))/\w'=w:=by
 by_cases h14:k=14
 .subst h14;exact yXq
 by_cases h15:k=15
 .subst h15;exact yXq
 by_cases h16:k=16
 .subst h16;exact yXq
 have a3:(k==14)=false:=by simpa using h14
 have a0:(k==15)=false:=by simpa using h15
 have y:(k==16)=false:=by simpa using h16
 have H:Hid (yE4 k=0):=by show yE4 k=0;unfold yE4;rw[if_neg (by omega),if_neg h16]
 go_enter func132,ntmps132;go_wp2_with fail;go_ret;exact⟨by rw[H.out];rfl,rfl⟩
abbrev yHe.three(s:yHe):List Value:= [.bool s.valid,.int .i64 s.kind,.int .i64 (s.nest:Int)]
def yDf(ss:List yHe):List Value:=ss.flatMap yHe.three
theorem yMk(ss:List yHe):(yDf ss).length=ss.length*3:=by
 induction ss with
 |nil=>rfl
 |cons e es ih=>simp only[yDf,flatMap_cons,length_append]at ih|-;rw[ih];simp;omega
theorem yMz(es fs:List yHe):yDf (es++fs)=yDf es++yDf fs:=by simp[yDf]
theorem ySs(es:List yHe):∀(k:Nat)(e:yHe),es[k]?=some e->∀j,j<3->(yDf es)[k*3+j]?=e.three[j]?:=by
 induction es with
 |nil=>intro k e h;simp at h
 |cons f es ih=>
  intro k e h j hj;have hc:yDf (f::es)=f.three++yDf es:=by simp[yDf]
  rw[hc];cases k with
  |zero=>
   simp at h;subst h;rw[getElem?_append_left (by show 0*3+j<3;omega)];simp
  |succ k=>
   simp at h;rw[getElem?_append_right (by show 3<=(k+1)*3+j;omega)];have:(k+1)*3+j-f.three.length=k*3+j:=by show(k+1)*3+j-3=_;omega
   rw[this];exact ih k e h j hj
def yZn(w:World)(b o:Nat)(ss:List yHe):Prop:=∀i s,ss[i]?=some s->w.cell? ⟨b,o+i*3,none⟩=some (.bool s.valid)/\w.cell? ⟨b,o+i*3+1,none⟩=some (.int .i64 s.kind)/\w.cell? ⟨b,o+i*3+2,none⟩=some (.int .i64 (s.nest:Int))
def yGg(w:World)(base g cp:Nat)(ss:List yHe):Prop:=w.ownsRow base 113 3 (.slice (some ⟨g,0,none⟩) ss.length cp) ss.length (yDf ss)
variable {base g cp:Nat} {ss:List yHe}
theorem yGg.lt(h:yGg w base g cp ss):base<=g/\g<w.heap.size:=World.ownsRow.lt h g rfl
variable {w':World}
theorem yGg.below(h:yGg w base g cp ss)(hb:Below w.heap.size w w'):yGg w' base g cp ss:=yAg h (Chg.of_below hb) (S:=λ_=>False) (λk q z=>z)
theorem yGg.at(h:yGg w base g cp ss):yZn w g 0 ss:=by
 intro i e he;have hi:i<ss.length:=(List.getElem?_eq_some_iff.1 he).1;have c:=λj (hj:j<3)=>(World.ownsRow.cellAt h (i*3+j) (by omega)).trans (ySs ss i e he j hj);refine⟨?_,?_,?_⟩
 .simpa using c 0 (by omega)
 .simpa using c 1 (by omega)
 .simpa using c 2 (by omega)
theorem yGg.caps(h:yGg w base g cp ss):ss.length<=cp/\cp<=maxLen:=by exact zzQ8
theorem yT0(w:World)(hb:base<=w.heap.size):yGg (w.alloc (Obj.cells #[] 113)) base w.heap.size 0 []:=
 World.ownsRow_made w #[] 0 hb (zero_le _) (by simp)
theorem Tryz.infoSh:(prog.info? 113).map (λi=>(i.zero,i.size,i.bytes))=some (some (.agg #[.bool false,.int .i64 0,.int .i64 0]),3,24):=by kernel_rfl
variable {oo:Oper}
theorem yHm{K:Act->World->Prop}{E:Prop}(w:World)(hgd:oo.guard=none)(s x:Operand)
  (ho:oo.op=.call {callee:=.builtin .append,args:=#[s,x],argTypes:=#[202,202]})
  (base n g cp blk:Nat) (ss:List yHe) (y:yHe) (hn:n=ss.length) (hs:a.eval s=.slice (some ⟨g,0,none⟩) n cp) (hx:a.eval x=.slice (some ⟨blk,0,none⟩) 1 1) (hO:yGg w base g cp ss)
  (hc:yZn w blk 0 [y]) (hlen:ss.length<=1000) (hbase:base<=w.heap.size)
  (h:∀g' cp' w',yGg w' base g' cp' (ss++ [y])->w.grownBy w' (some g)->(g=g'\/g'=w.heap.size)->K (a.put oo.dst (.slice (some ⟨g',0,none⟩) (n+1) cp')) w'):if Region.wanted oo (yielded ops a.tmps)=true then Oper.wp prog oo a w K Q else E:=by
 subst hn;obtain⟨i,hi,a6,a5,a4⟩:=info_parts Tryz.infoSh;obtain⟨c0,c1,c2⟩:=hc 0 y rfl;refine step_append_lies w hgd s x 202 ho base 113 i _ 3 24 underlying202 hi a6 a5 a4 rfl (by decide) (.slice (some ⟨g,0,none⟩) ss.length cp) ss.length (yDf ss) hs hO ⟨blk,0,none⟩ 1 1 (yDf [y]) hx rfl ?_ ?_ (by decide) ?_ ?_ hbase w.heap.size rfl ?_
 .intro j u hu;have hj:j<3:=by have:=(List.getElem?_eq_some_iff.1 hu).1;rw[yMk]at this;simpa using this
  rw[Addr.add_mid];have a0:yDf [y]=y.three:=by simp[yDf]
  rw[a0]at hu;match j,hj with
  |0,_=>simp at hu;rw[<-hu];simpa using c0
  |1,_=>simp at hu;rw[<-hu];simpa using c1
  |2,_=>simp at hu;rw[<-hu];simpa using c2
 .intro u hu;have a0:yDf [y]=y.three:=by simp[yDf]
  rw[a0]at hu;simp at hu;rcases hu with rfl|rfl|rfl<;>rfl
 .unfold maxLen;omega
 .omega
 .intro g' cp' w' a8 a7 a3 a9;refine h g' cp' w' ?_ a7 ?_
  .unfold yGg;rw[length_append,yMz];exact a8
  .simp[Value.ownBlock]at a3;exact a3
abbrev ndP:Nd:=⟨1,⟨#[]⟩,false,⟨#[]⟩,0,0,0⟩
theorem xCv:IsT 1 [ndP]:=IsT.snoc (k:=0) (xs:= []) ndP .nil
theorem xCc(w:World):Calls prog 105 #[ndP.v,.bool false,.bool false,.bool false,.bool false,.bool false] w λe w'=>e=.returned (.bool true)/\Below w.heap.size w w':=by go_enter func105,ntmps105;go_wp2_with fail;go_ret;exact⟨rfl,qB⟩
theorem yZh(w:World):yA (w.alloc (.cells #[.int .i64 1,.string ⟨#[]⟩,.bool false,.string ⟨#[]⟩,.int .u64 0,.int .u64 0,.int .i64 0] 35)) w.heap.size 35 7 w.heap.size [.int .i64 1,.string ⟨#[]⟩,.bool false,.string ⟨#[]⟩,.int .u64 0,.int .u64 0,.int .i64 0]/\Below w.heap.size w (w.alloc (.cells #[.int .i64 1,.string ⟨#[]⟩,.bool false,.string ⟨#[]⟩,.int .u64 0,.int .u64 0,.int .i64 0] 35)):=⟨yAa w _ (Nat.le_refl _) rfl,qB⟩
theorem ySl(w:World):Calls prog 57 #[ndP.v] w λe w'=>e=.returned (.bool true)/\Below w.heap.size w w':=by obtain⟨W1,y⟩:=qE (w.alloc (.cells #[.int .i64 1,.string ⟨#[]⟩,.bool false,.string ⟨#[]⟩,.int .u64 0,.int .u64 0,.int .i64 0] 35):World);have H1:=yZh w;rw[<-y]at H1;have HB:Hid (Below w.heap.size w W1):=H1.2;obtain⟨c0,c1,c2,c3,c4,c5,c6⟩:=H1.1.c7;clear H1;go_enter func57,ntmps57;go_upto_region 1 with fail;rw[<-y];clear y;go_wp2_with fail;refine(xCc W1).mono ?_;rintro e w2 ⟨rfl,hb2⟩;clear c0 c1 c2 c3 c4 c5 c6;go_wp2_with fail;go_ret;exact⟨rfl,HB.trans (hb2.mono HB.size)⟩
variable {cap:Nat}
theorem xBv(hW:Win w b 0 cap [ndP]):Calls prog 59 #[.slice (some ⟨b,0,none⟩) 1 cap] w λe w'=>e=.returned (.int .i64 0)/\Below w.heap.size w w':=by
 have HT:Hid (Calls prog 108 #[.slice (some ⟨b,0,none⟩) 1 cap] w λr w'=>r=.returned (.int .i64 1)/\w'=w):=yFw (xs:= []) (e:=ndP) hW;have a0:Hid (Calls prog 109 #[.slice (some ⟨b,0,none⟩) 1 cap] w λr w'=>∃g cp,r=.returned (.slice (some ⟨g,0,none⟩) 0 cp)/\OwnV w' w.heap.size g cp []/\Below w.heap.size w w'):=yFa (ks:= []) (e:=ndP) hW rfl (λk hk=>by cases hk);clear hW;go_enter func59,ntmps59;go_wp2_with fail;refine HT.mono ?_;rintro r w1 ⟨rfl,y⟩;rw[y];clear y HT;go_wp2_with fail;refine a0.mono ?_;rintro r w1 ⟨kg,kc,rfl,hO,hb1⟩;clear hO a0;go_wp2_with fail;go_loopw[5,6] (λm i wr=>m=.int .i64 0/\i=.int .i64 0/\wr=w1) (λ_ _ _=>0);case atStart=>exact⟨rfl,rfl,rfl⟩
 case round=>obtain⟨rfl,rfl,rfl⟩:=hrel;go_wp2_with fail;go_ret;exact⟨rfl,hb1⟩
theorem yEe(h:yAj w base g cp [ndP]):Calls prog 26 #[.agg #[.slice (some ⟨g,0,none⟩) 1 cp]] w λe w'=>e=.returned (.bool true)/\Below w.heap.size w w':=by
 have a4:1<=cp:=h.caps.1;obtain⟨W0,y⟩:=qE (w.alloc (.cells #[.slice (some ⟨g,0,none⟩) 1 cp] 25):World);have HK:Hid (∀wx,Below W0.heap.size W0 wx->wx.cell? ⟨w.heap.size,0,none⟩=some (.slice (some ⟨g,0,none⟩) 1 cp)/\Win wx g 0 cp [ndP]/\Below w.heap.size w wx):=λwx hx=>by
  have k0:Below w.heap.size w W0:=by rw[y];exact qB
  have b0:yA W0 w.heap.size 25 1 w.heap.size [.slice (some ⟨g,0,none⟩) 1 cp]:=by rw[y];exact yAa w _ (Nat.le_refl _) rfl
  have hb:=k0.trans (hx.mono k0.size);have hO:=h.below hb h.lt.2;exact⟨(b0.below hx).cell (j:=0) rfl,⟨hO.at,hO.lt.2,hO.caps.1,by have:=hO.caps.2;unfold maxLen at this;omega,by simp⟩,hb⟩
 clear h;go_enter func26,ntmps26;go_upto_region 1 with fail;rw[<-y];clear y;have c0:=(HK.out W0 (Below.refl _ _)).1;go_wp2_with fail;clear c0;go_loopw[3] (λi wr=>∃k:Nat,k<=1/\i=.int .i64 k/\Hid (Below W0.heap.size W0 wr)) (λi _=>1-(intOf i).toNat);case atStart=>exact⟨0,by omega,rfl,Below.refl _ _⟩
 case round=>
  obtain⟨k,hk,rfl,HJ⟩:=hrel;have c0:=(HK.out wr HJ.out).1;by_cases hk0:k<1
  .obtain rfl:k=0:=by omega
   obtain⟨d0,d1,d2,d3,d4,d5,d6⟩:=(HK.out wr HJ.out).2.1.at_ 0 ndP rfl;simp only[Nat.zero_mul,Nat.zero_add]at d0 d1 d2 d3 d4 d5 d6;go_wp2_with fail;refine(ySl wr).mono ?_;rintro e w2 ⟨rfl,hb2⟩;have H2:Hid (Below W0.heap.size W0 w2):=HJ.trans (hb2.mono HJ.size);clear c0 d0 d1 d2 d3 d4 d5 d6 hb2 HJ;go_wp2_with fail;go_roundw;case rel=>exact⟨1,by omega,by first|rfl|go_num,H2⟩
   case measure=>simp[intOf]
  .obtain rfl:k=1:=by omega
   have a3:Hid (Calls prog 58 #[.slice (some ⟨g,0,none⟩) 1 cp] wr λr w'=>r=.returned (.bool true)/\w'=wr):=by
    refine(yPw (xs:= [ndP]) (HK.out wr HJ.out).2.1).mono ?_;rintro r w' ⟨rfl,(⟨rfl,_⟩|⟨_,hn⟩)⟩
    .exact⟨rfl,rfl⟩
    .exact absurd xCv hn
   go_wp2_with fail;refine a3.mono ?_;rintro r w1 ⟨rfl,a0⟩;rw[a0];clear a0 a3;go_wp2_with fail;refine(xBv (HK.out wr HJ.out).2.1).mono ?_;rintro r w2 ⟨rfl,hb2⟩;have H2:Hid (Below W0.heap.size W0 w2):=HJ.trans (hb2.mono HJ.size);clear c0 hb2 HJ;go_wp2_with fail;go_ret;exact⟨rfl,(HK.out w2 H2.out).2.2⟩
theorem yI3(w:World):Calls prog 133 #[ndP.v] w λe w'=>e=.returned (.bool true)/\Below w.heap.size w w':=by obtain⟨W1,y⟩:=qE (w.alloc (.cells #[.int .i64 1,.string ⟨#[]⟩,.bool false,.string ⟨#[]⟩,.int .u64 0,.int .u64 0,.int .i64 0] 35):World);have H1:=yZh w;rw[<-y]at H1;have HB:Hid (Below w.heap.size w W1):=H1.2;obtain⟨c0,c1,c2,c3,c4,c5,c6⟩:=H1.1.c7;clear H1;go_enter func133,ntmps133;go_upto_region 1 with fail;rw[<-y];clear y;go_wp2_with fail;go_ret;exact⟨rfl,HB.out⟩
abbrev shP:List Value:= [.bool true,.int .i64 1,.int .i64 0]
def ShJ(w:World)(X:Nat)(vs:List Value)(wr:World):Prop:=yA wr w.heap.size 113 3 (w.heap.size+1) [.bool false,.int .i64 0,.int .i64 0]/\yA wr w.heap.size 113 3 X vs/\w.heap.size+1<X/\Below w.heap.size w wr
theorem zWa {p:Prop} (h:p:=by
 obtain⟨v0,v1,v2⟩:=H3.2.1.c3;obtain⟨f0,f1,f2⟩:=H3.2.1.f3;obtain⟨W4,hW4⟩:=qE (set3 W3 X (.bool true) (.int .i64 1) (.int .i64 0):World);have H4:Hid (ShJ w X shP W4/\Below W0.heap.size W0 W4):=by
  have hc:Chg (λk=>k=X) W3 W4:=by rw[hW4];exact((Chg.of_set (S:=λk=>k=X) _ _ _ _ rfl).trans (Chg.of_set (S:=λk=>k=X) _ _ _ _ rfl)).trans (Chg.of_set (S:=λk=>k=X) _ _ _ _ rfl)
  obtain⟨q1,q2,q3,q4⟩:=H3.out;exact⟨⟨q1.chg hc (by omega),by rw[hW4];exact q2.set3 _ _ _,q3,Chg.below q4 hc q4.size (λk z=>by omega)⟩,Chg.below HX.1 hc HX.1.size (λk z=>by have:=HX.2;omega)⟩
 have hS4:=HSS.out _ H4.2;unfold set3 at hW4;refine qO 6 rfl λK hK=>?_;go_simp;rw[<-hW4];refine hK.out _ _ (.inr hS4) (tkS ?_);clear hK hW4;refine qD ?_;go_wp2_with fail;go_meet;exact⟨X,rfl,H4.1⟩):p:=h
theorem yNl(a:Option Addr)(c:Nat)(w:World):Calls prog 76 #[ndP.v,.slice a 0 c] w λe w'=>e=.returned (.agg #[.bool true,.int .i64 1,.int .i64 0])/\Below w.heap.size w w':=by
 obtain⟨W0,a3⟩:=qE ((w.alloc (.cells #[.int .i64 1,.string ⟨#[]⟩,.bool false,.string ⟨#[]⟩,.int .u64 0,.int .u64 0,.int .i64 0] 35)).alloc (.cells #[.bool false,.int .i64 0,.int .i64 0] 113):World);have HT:Hid (∀wx,Below W0.heap.size W0 wx->yA wx w.heap.size 35 7 w.heap.size [.int .i64 1,.string ⟨#[]⟩,.bool false,.string ⟨#[]⟩,.int .u64 0,.int .u64 0,.int .i64 0]/\yA wx w.heap.size 113 3 (w.heap.size+1) [.bool false,.int .i64 0,.int .i64 0]/\Below w.heap.size w wx/\w.heap.size+1<wx.heap.size):=λwx hx=>by
  obtain⟨q1,q2⟩:=yZh w;obtain⟨A,hA⟩:=qE (w.alloc (.cells #[.int .i64 1,.string ⟨#[]⟩,.bool false,.string ⟨#[]⟩,.int .u64 0,.int .u64 0,.int .i64 0] 35):World);have zA:A.heap.size=w.heap.size+1:=by rw[hA];simp
  rw[<-hA]at q1 q2 a3;have k0:Below A.heap.size A W0:=by rw[a3];exact qB
  have b0:yA W0 w.heap.size 113 3 (w.heap.size+1) [.bool false,.int .i64 0,.int .i64 0]:=by rw[a3,<-zA];exact yAa A _ (by omega) rfl
  have b1:=b0.below hx;exact⟨(q1.below k0).below hx,b1,(q2.trans (k0.mono q2.size)).trans (hx.mono (Nat.le_trans q2.size k0.size)),b1.lt.2⟩
 have HSS:Hid (∀X:World,Below W0.heap.size W0 X->(λw':World=>w'.cell? ⟨w.heap.size,0,none⟩=some (.int .i64 1)/\w'.cell? ⟨w.heap.size,1,none⟩=some (.string ⟨#[]⟩)/\w'.cell? ⟨w.heap.size,2,none⟩=some (.bool false)/\w'.cell? ⟨w.heap.size,3,none⟩=some (.string ⟨#[]⟩)/\w'.cell? ⟨w.heap.size,4,none⟩=some (.int .u64 0)/\w'.cell? ⟨w.heap.size,5,none⟩=some (.int .u64 0)/\w'.cell? ⟨w.heap.size,6,none⟩=some (.int .i64 0)/\w'.cell? ⟨w.heap.size,6,none⟩=some (.int .i64 0)) X):=λX hX=>by have hb:=(HT.out X hX).1;exact⟨hb.cell (j:=0) rfl,hb.cell (j:=1) rfl,hb.cell (j:=2) rfl,hb.cell (j:=3) rfl,hb.cell (j:=4) rfl,hb.cell (j:=5) rfl,hb.cell (j:=6) rfl,hb.cell (j:=6) rfl⟩
 have kd:Below W0.heap.size W0 W0.drew:=(Below.refl _ _).drew;have y:=HSS.out _ kd;go_enter func76,ntmps76;go_upto_region 1 with fail;rw[<-a3];clear a3;go_cut[5] (λpv wx=>∃X,pv=.pointer (some ⟨X,0,none⟩)/\Hid (ShJ w X shP wx));case first=>
  refine yAq 99 (λw':World=>w'.cell? ⟨w.heap.size,0,none⟩=some (.int .i64 1)/\w'.cell? ⟨w.heap.size,1,none⟩=some (.string ⟨#[]⟩)/\w'.cell? ⟨w.heap.size,2,none⟩=some (.bool false)/\w'.cell? ⟨w.heap.size,3,none⟩=some (.string ⟨#[]⟩)/\w'.cell? ⟨w.heap.size,4,none⟩=some (.int .u64 0)/\w'.cell? ⟨w.heap.size,5,none⟩=some (.int .u64 0)/\w'.cell? ⟨w.heap.size,6,none⟩=some (.int .i64 0)/\w'.cell? ⟨w.heap.size,6,none⟩=some (.int .i64 0)) (by kernel_rfl) ?_;generalize W0.drew=WD at kd y|-;refine tk8a 0 y ?_;refine tk8a 2 y ?_;refine tk8b y ?_;refine yD (i:=1) (j:=5) (by kernel_rfl) rfl rfl (λK hK=>?_) (λK hK=>?_)
  .go_simp;go_at_call 133;refine(yI3 WD).mono ?_;rintro e w2 ⟨rfl,hb2⟩;have k2:Below W0.heap.size W0 w2:=kd.trans (hb2.mono kd.size);have a0:=HSS.out _ k2;refine hK.out _ _ (.inr a0) (tkS ?_);clear hK y;refine tk8a 4 a0 ?_;obtain⟨W3,a4⟩:=qE (w2.alloc (.cells #[.bool false,.int .i64 0,.int .i64 0] 113):World);obtain⟨X,hX⟩:=qE w2.heap.size;have k3:Below w2.heap.size w2 W3:=by rw[a4];exact qB
   have HX:Hid (Below W0.heap.size W0 W3/\W0.heap.size<=X):=⟨k2.trans (k3.mono k2.size),by rw[hX];exact k2.size⟩;have H3:Hid (ShJ w X [.bool false,.int .i64 0,.int .i64 0] W3):=by obtain⟨_,q2,q3,q4⟩:=HT.out w2 k2;exact⟨q2.below k3,by rw[a4,hX];exact yAa w2 _ q3.size rfl,by omega,q3.trans (k3.mono q3.size)⟩
   have a6:=HSS.out _ HX.1;refine qO 5 rfl λK hK=>?_;go_simp;rw[<-a4,<-hX];refine hK.out _ _ (.inr a6) (tkS ?_);clear hK a4 hX a0 k3 k2 hb2 kd;exact zWa
  .obtain⟨W2,a5⟩:=qE (WD.alloc (.cells #[.bool false,.int .i64 0,.int .i64 0] 113):World);obtain⟨X,hX⟩:=qE WD.heap.size;have k3:Below WD.heap.size WD W2:=by rw[a5];exact qB
   have k2:Below W0.heap.size W0 W2:=kd.trans (k3.mono kd.size);have H2:Hid (ShJ w X [.bool false,.int .i64 0,.int .i64 0] W2/\W0.heap.size<=X):=by obtain⟨_,q2,q3,q4⟩:=HT.out WD kd;exact⟨⟨q2.below k3,by rw[a5,hX];exact yAa WD _ q3.size rfl,by omega,q3.trans (k3.mono q3.size)⟩,by rw[hX];exact kd.size⟩
   have a0:=HSS.out _ k2;go_simp;rw[<-a5,<-hX];refine hK.out _ _ (.inr a0) (tkS ?_);clear hK a5 hX y k3;refine qO 1 rfl λK hK=>?_;go_simp;go_at_call 133;refine(yI3 W2).mono ?_;rintro e W3 ⟨rfl,hb2⟩;have HX:Hid (Below W0.heap.size W0 W3/\W0.heap.size<=X):=⟨k2.trans (hb2.mono k2.size),H2.2⟩;have H3:Hid (ShJ w X [.bool false,.int .i64 0,.int .i64 0] W3):=by obtain⟨⟨q1,q2,q3,q4⟩,_⟩:=H2.out;exact⟨q1.below hb2,q2.below hb2,q3,q4.trans (hb2.mono q4.size)⟩
   have a6:=HSS.out _ HX.1;refine hK.out _ _ (.inr a6) (tkS ?_);clear hK a0 hb2 k2 kd H2;refine tk8a 4 a6 ?_;exact zWa
 case rest=>
 obtain⟨X,rfl,HJ⟩:=hcut;clear y kd HSS HT;go_upto_region 2 with fail;go_wp2_with fail;go_loopw[15] (λi wr=>i=.int .i64 0/\wr=wc) (λ_ _=>0);case atStart=>exact⟨rfl,rfl⟩
 case round=>
  obtain⟨rfl,rfl⟩:=hrel;obtain⟨t0,t1,t2⟩:=HJ.2.1.c3;obtain⟨v0,v1,v2⟩:=HJ.1.c3;obtain⟨f0,f1,f2⟩:=HJ.1.f3;obtain⟨W9,a7⟩:=qE (set3 wr (w.heap.size+1) (.bool true) (.int .i64 1) (.int .i64 0):World);have H9:Hid (yA W9 w.heap.size 113 3 (w.heap.size+1) shP/\Below w.heap.size w W9):=by rw[a7];exact⟨HJ.1.set3 _ _ _,yH6 HJ.2.2.2 (by omega) _ _ _⟩
  unfold set3 at a7;go_wp2_with fail;rw[<-a7];obtain⟨q0,q1,q2⟩:=H9.1.c3;exact bodyPost_ret (v:=.agg #[.bool true,.int .i64 1,.int .i64 0]) (by simp[results,results76,go_sem,q0,q1,q2]) rfl ⟨rfl,H9.2⟩
def cntK(k:Int):Prop:=k=11\/k=12\/k=13
def more(op:Int):Int:=if op=2 then 1 else if op=4 then-1 else 0
def xC3(op:Int):Int:=if op=3\/op=4 then 2 else 1
def OwnZ(e:TypeId)(w:World)(base g cp:Nat)(ds:List Int)(kd:IntKind):Prop:=w.ownsRow base e 1 (.slice (some ⟨g,0,none⟩) ds.length cp) ds.length (ds.map λd=>.int kd d)
def yZr(P:Prop)(w:World)(r:Ending)(w':World):Prop:=∃b,r=.returned (.bool b)/\(b=true↔P)/\Below w.heap.size w w'
def xC1(e d:Int)(base g cp j:Nat)(ds:List Int)(w:World)(r:Ending)(w':World):Prop:=∃b,r=.returned (.bool b)/\(b=true↔(e=0\/e=d)/\1<=d/\d<=250)/\(b=true->OwnZ 2 w' base g cp (ds.set j d) .i64)/\Chg (λq=>q=g) w w'
theorem yIg(e:Nd)(w:World):Calls prog 176 #[e.v] w (yZr (cntK e.kind) w):=by
 go_enter func176,ntmps176;go_wp2_with fail;all_goals go_ret
 all_goals exact⟨_,rfl,by simp_all[cntK],qB⟩
theorem yOf(op:Int)(w:World):Calls prog 183 #[.int .i64 op] w (yZr (op=5\/op=6) w):=by
 go_enter func183,ntmps183;go_wp2_with fail;all_goals go_ret
 all_goals exact⟨_,rfl,by simp_all,Below.refl _ _⟩
theorem yJn(w:World)(e:Nd):yAj (w.alloc (Obj.cells #[.int .i64 e.kind,.string e.s,.bool e.hi,.string e.t,.int .u64 e.lo,.int .u64 e.up,.int .i64 e.n] 35)) w.heap.size w.heap.size 1 [e]:=
 World.ownsRow_lit w #[.int .i64 e.kind,.string e.s,.bool e.hi,.string e.t,.int .u64 e.lo,.int .u64 e.up,.int .i64 e.n] 1 (Nat.le_refl _) (by decide) rfl
variable {e:TypeId} {ds:List Int} {kd:IntKind}
theorem OwnZ.cell(h:OwnZ e w base g cp ds kd){j:Nat}{d:Int}(hd:ds[j]?=some d):w.cell? ⟨g,j,none⟩=some (.int kd d)/\w.frozen? ⟨g,j,none⟩=false:=by have hj:=(List.getElem?_eq_some_iff.1 hd).1;refine⟨?_,World.ownsRow.frozenAt h j⟩;rw[World.ownsRow.cellAt h j (by omega),getElem?_map,hd];rfl
theorem OwnZ.lt(h:OwnZ e w base g cp ds kd):base<=g/\g<w.heap.size:=World.ownsRow.lt h g rfl
theorem OwnZ.below(h:OwnZ e w base g cp ds kd)(hb:Below w.heap.size w w'):OwnZ e w' base g cp ds kd:=yAg (S:=λ_=>False) h (Chg.of_below hb) (λk _ q=>q)
theorem OwnZ.set(h:OwnZ e w base g cp ds kd)(j:Nat)(d:Int):OwnZ e (w.setCell ⟨g,j,none⟩ (.int kd d)) base g cp (ds.set j d) kd:=by have:=(World.ownsRow.stored h j (.int kd d)).1;unfold OwnZ;rw[length_set,map_set];exact this
theorem yWb{j:Nat}{d:Int}(h:ds[j]?=some d):ds.set j d=ds:=by
 apply ext_getElem?;intro i;rw[getElem?_set];split
 .rename_i e;subst e;rw[if_pos (List.getElem?_eq_some_iff.1 h).1,h]
 .rfl
theorem yR3(base g cp:Nat)(ds:List Int)(j:Nat)(d e:Int)(w:World)(h:OwnZ 2 w base g cp ds .i64)(hj:ds[j]?=some e)(hl:ds.length<=4001):
  Calls prog 219 #[.slice (some ⟨g,0,none⟩) ds.length cp,.int .i64 j,.int .i64 d] w (xC1 e d base g cp j ds w):=by
 have HO:Hid (OwnZ 2 w base g cp ds .i64):=h;obtain⟨c0,f0⟩:=h.cell hj;have y:=(List.getElem?_eq_some_iff.1 hj).1;have HJ:Hid (ds[j]?=some e):=hj;have zj:(j:Int)<(ds.length:Int):=by omega
 clear h hj;go_enter func219,ntmps219;by_cases he:e=0
 .subst he;have HS:Hid (OwnZ 2 (w.setCell ⟨g,j,none⟩ (.int .i64 d)) base g cp (ds.set j d) .i64):=HO.set j d;go_wp2_with fail;all_goals go_ret
  all_goals exact⟨_,rfl,by simp_all<;>omega,λ_=>HS.out,Chg.of_set _ _ _ _ rfl⟩
 .by_cases hed:e=d
  .subst hed;have HS:Hid (OwnZ 2 w base g cp (ds.set j e) .i64):=by show OwnZ _ _ _ _ _ _ _;rw[yWb HJ.out];exact HO.out
   go_wp2_with fail;all_goals go_ret
   all_goals exact⟨_,rfl,by simp_all<;>omega,λ_=>HS.out,Chg.refl _ _⟩
  .go_wp2_with fail;go_ret;exact⟨_,rfl,by simp_all,λq=>by simp_all,Chg.refl _ _⟩
theorem Tryz.infoI64:(prog.info? 2).map (λi=>(i.zero,i.size,i.bytes))=some (some (.int .i64 0),1,8):=by kernel_rfl
theorem yHk{rest:List Oper}(w:World)(hgd:oo.guard=none)(s x:Operand)
  (ho:oo.op=.call {callee:=.builtin .append,args:=#[s,x],argTypes:=#[315,315]})
  (base gq cp n b m cx:Nat) (us vs:List Int) (hs:a.eval s=.slice (some ⟨gq,0,none⟩) n cp) (hx:a.eval x=.slice (some ⟨b,0,none⟩) m cx) (hn:n=us.length) (hm:m=vs.length) (hO:OwnZ 2 w base gq cp us .i64)
  (hc:∀(j:Nat) v,vs[j]?=some v->w.cell? ⟨b,j,none⟩=some (.int .i64 v)) (hlen:us.length+vs.length<=10000) (hbase:base<=w.heap.size)
  (h:∀g' cp' w',OwnZ 2 w' base g' cp' (us++vs) .i64->w.grownBy w' (some gq)->wpList prog ops Q rest (a.put oo.dst (.slice (some ⟨g',0,none⟩) (n+m) cp')) w'):wpList prog ops Q (oo::rest) a w:=by
 subst hn hm;obtain⟨i,hi,a4,a3,a0⟩:=info_parts Tryz.infoI64;refine wpList_append_own_at w hgd s x 315 ho base 2 i _ 1 8 underlying315 hi a4 a3 a0 rfl (by decide) (.slice (some ⟨gq,0,none⟩) us.length cp) us.length (us.map λd=>.int .i64 d) hs hO ⟨b,0,none⟩ vs.length cx (vs.map λd=>.int .i64 d) hx (by simp) ?_ ?_ ?_ ?_ hbase ?_
 .intro j u hu;rw[getElem?_map]at hu;cases hq:vs[j]? with
  |none=>rw[hq]at hu;cases hu
  |some d=>rw[hq]at hu;obtain rfl:=Option.some.inj hu;rw[Addr.add_mid,Nat.zero_add];exact hc j d hq
 .intro v hv;obtain⟨d,_,rfl⟩:=List.mem_map.1 hv;rfl
 .unfold maxLen;omega
 .omega
 .intro v' w' y a6 a5 a9;rcases y.2 with⟨h0,_⟩|⟨g',a7,cur,hv,_,_,hn,a8,_,_⟩
  .have:=(a5.1 h0).1;cases this
  .subst hv;refine h g' a7 w' ?_ a6;unfold OwnZ;rw[length_append,map_append];exact y
abbrev ixP:Ix:=⟨1,0,0,true,ndP⟩
structure PcAt(w:World)(gi ci:Nat):Prop where
 ixs:yHh w gi 0 [ixP]
 lt:gi<w.heap.size
 cap:1<=ci/\ci<=maxLen
variable {gi ci:Nat}
theorem PcAt.below(h:PcAt w gi ci)(hb:Below w.heap.size w w'):PcAt w' gi ci:=⟨h.ixs.below hb h.lt,by have:=hb.size;have:=h.lt;omega,h.cap⟩
abbrev elP:List Value:= [.int .i64 1,.int .i64 0,.int .i64 0,.bool true,.int .i64 1,.string ⟨#[]⟩,.bool false,.string ⟨#[]⟩,.int .u64 0,.int .u64 0,.int .i64 0]
theorem yC8{X:Nat}(h:yA w base 210 11 X elP):w.cell? ⟨X,0,none⟩=some (.int .i64 1)/\w.cell? ⟨X,1,none⟩=some (.int .i64 0)/\w.cell? ⟨X,2,none⟩=some (.int .i64 0)/\w.cell? ⟨X,3,none⟩=some (.bool true)/\w.cell? ⟨X,4,none⟩=some (.int .i64 1)/\w.cell? ⟨X,5,none⟩=some (.string ⟨#[]⟩)/\w.cell? ⟨X,6,none⟩=some (.bool false)/\w.cell? ⟨X,7,none⟩=some (.string ⟨#[]⟩)/\w.cell? ⟨X,8,none⟩=some (.int .u64 0)/\w.cell? ⟨X,9,none⟩=some (.int .u64 0)/\w.cell? ⟨X,10,none⟩=some (.int .i64 0):=
 ⟨h.cell (j:=0) rfl,h.cell (j:=1) rfl,h.cell (j:=2) rfl,h.cell (j:=3) rfl,h.cell (j:=4) rfl,h.cell (j:=5) rfl,h.cell (j:=6) rfl,h.cell (j:=7) rfl,h.cell (j:=8) rfl,h.cell (j:=9) rfl,h.cell (j:=10) rfl⟩
theorem yQ2(h:PcAt w gi ci):w.cell? ⟨gi,0,none⟩=some (.int .i64 1)/\w.cell? ⟨gi,1,none⟩=some (.int .i64 0)/\w.cell? ⟨gi,2,none⟩=some (.int .i64 0)/\w.cell? ⟨gi,3,none⟩=some (.bool true)/\w.cell? ⟨gi,4,none⟩=some (.int .i64 1)/\w.cell? ⟨gi,5,none⟩=some (.string ⟨#[]⟩)/\w.cell? ⟨gi,6,none⟩=some (.bool false)/\w.cell? ⟨gi,7,none⟩=some (.string ⟨#[]⟩)/\w.cell? ⟨gi,8,none⟩=some (.int .u64 0)/\w.cell? ⟨gi,9,none⟩=some (.int .u64 0)/\w.cell? ⟨gi,10,none⟩=some (.int .i64 0):=by have:=h.ixs 0 ixP rfl;simpa only[Nat.zero_mul,Nat.zero_add]using this
theorem yU7(w:World):Calls prog 218 #[ixP.v,.int .i64 0,.int .i64 1,.int .i64 0,.int .i64 0] w λe w'=>e=.returned (.bool true)/\Below w.heap.size w w':=by
 obtain⟨W0,a0⟩:=qE (w.alloc (.cells elP.toArray 210):World);have HK:Hid (∀wx,Below W0.heap.size W0 wx->yA wx w.heap.size 210 11 w.heap.size elP/\Below w.heap.size w wx):=λwx hx=>by
  have k0:Below w.heap.size w W0:=by rw[a0];exact qB
  exact⟨(show yA W0 w.heap.size 210 11 w.heap.size elP by rw[a0];exact yAa w _ (Nat.le_refl _) rfl).below hx,k0.trans (hx.mono k0.size)⟩
 obtain⟨W1,y⟩:=qE (W0.alloc (Obj.cells #[.int .i64 1,.string ⟨#[]⟩,.bool false,.string ⟨#[]⟩,.int .u64 0,.int .u64 0,.int .i64 0] 35):World);have HF:Hid (Calls prog 26 #[.agg #[.slice (some ⟨W0.heap.size,0,none⟩) 1 1]] W1 λe w'=>e=.returned (.bool true)/\Below W1.heap.size W1 w'):=yEe (base:=W0.heap.size) (by rw[y];exact yJn W0 ndP);have k1:Below W0.heap.size W0 W1:=by rw[y];exact qB
 obtain⟨c0,c1,c2,c3,c4,c5,c6,c7,c8,c9,c10⟩:=yC8 (HK.out W0 (Below.refl _ _)).1;go_enter func218,ntmps218;go_upto_region 1 with fail;rw[<-a0];clear a0;go_wp2_with fail;rw[<-y];clear y c0 c1 c2 c3 c4 c5 c6 c7 c8 c9 c10;refine HF.mono ?_;rintro e w2 ⟨rfl,hb2⟩;have k2:Below W0.heap.size W0 w2:=k1.trans (hb2.mono k1.size);obtain⟨c0,c1,c2,c3,c4,c5,c6,c7,c8,c9,c10⟩:=yC8 (HK.out w2 k2).1;clear HF hb2 k1;have HC:Hid (Calls prog 176 #[.agg #[.int .i64 1,.string ⟨#[]⟩,.bool false,.string ⟨#[]⟩,.int .u64 0,.int .u64 0,.int .i64 0]] w2 λe w'=>e=.returned (.bool false)/\Below w2.heap.size w2 w'):=by
  refine(yIg ndP w2).mono ?_;rintro e w' ⟨q,rfl,hq,hb⟩;cases q
  .exact⟨rfl,hb⟩
  .exact absurd (hq.1 rfl) (by simp[cntK])
 exact xA5
theorem OwnZ.caps(h:OwnZ e w base g cp ds kd):ds.length<=cp/\cp<=maxLen:=by exact zzQ8
structure GbJ(w:World)(gi ci g cp:Nat)(ds:List Int)(wr:World):Prop where
 box:yA wr w.heap.size 77 2 w.heap.size [.slice (some ⟨gi,0,none⟩) 1 ci,.int .i64 0]
 own:OwnZ 2 wr (w.heap.size+1) g cp ds .i64
 below:Below w.heap.size w wr
variable {wr W:World}
theorem GbJ.on(h:GbJ w gi ci g cp ds wr)(hb:Below wr.heap.size wr W):GbJ w gi ci g cp ds W:=⟨h.box.below hb,h.own.below hb,h.below.trans (hb.mono h.below.size)⟩
theorem GbJ.chg{g' cp':Nat}{ds':List Int}(h:GbJ w gi ci g cp ds wr)(hc:Chg (λk=>k=g) wr W)(hO:OwnZ 2 W (w.heap.size+1) g' cp' ds' .i64):GbJ w gi ci g' cp' ds' W:=by have hg:=h.own.lt.1;exact⟨h.box.chg hc (by omega),hO,Chg.below h.below hc h.below.size (λk z=>by omega)⟩
theorem yP7(hP:PcAt w gi ci):Calls prog 172 #[.agg #[.slice (some ⟨gi,0,none⟩) 1 ci,.int .i64 0],.int .i64 0] w λe w'=>e=.returned (.bool true)/\Below w.heap.size w w':=by
 have ah:=hP.lt;have aj:=hP.cap.1;have ag:=hP.cap.2;unfold maxLen at ag;have HP:Hid (∀wx,Below w.heap.size w wx->PcAt wx gi ci):=λwx hx=>hP.below hx;obtain⟨W0,a4⟩:=qE (w.alloc (.cells #[.slice (some ⟨gi,0,none⟩) 1 ci,.int .i64 0] 77):World);have H0:Hid (yA W0 w.heap.size 77 2 w.heap.size [.slice (some ⟨gi,0,none⟩) 1 ci,.int .i64 0]/\Below w.heap.size w W0/\W0.heap.size=w.heap.size+1):=by rw[a4];exact⟨yAa w _ (Nat.le_refl _) rfl,qB,by simp⟩
 obtain⟨W1,a3⟩:=qE (W0.alloc (.cells #[.int .i64 1] 2):World);obtain⟨D,hD⟩:=qE W0.heap.size;have H1:Hid (GbJ w gi ci D 1 [1] W1):=by
  have k1:Below W0.heap.size W0 W1:=by rw[a3];exact qB
  exact⟨H0.1.below k1,by rw[a3,hD];exact World.ownsRow_lit W0 #[.int .i64 1] 1 (by have:=H0.2.2;omega) (by decide) rfl,H0.2.1.trans (k1.mono H0.2.1.size)⟩
 clear hP;obtain⟨c0,c1⟩:=H0.1.c2;go_enter func172,ntmps172;go_upto_region 1 with fail;rw[<-a4];clear a4;go_upto_region 5 with fail;rw[<-a3,<-hD];clear a3 hD c0 c1 H0;go_wp2_with fail;go_loopw[6,7] (λsv iv wr=>∃(g cp:Nat),(iv=.int .i64 0/\sv=.slice (some ⟨g,0,none⟩) 1 cp/\Hid (GbJ w gi ci g cp [1] wr))\/(iv=.int .i64 1/\sv=.slice (some ⟨g,0,none⟩) 2 cp/\Hid (GbJ w gi ci g cp [1,0] wr))) (λ_ iv _=>1-(intOf iv).toNat);case atStart=>exact⟨D,1,.inl ⟨rfl,rfl,H1⟩⟩
 case round=>
  clear H1;obtain⟨g,cp,(⟨rfl,rfl,HJ⟩|⟨rfl,rfl,H1⟩)⟩:=hrel
  .obtain⟨W3,y⟩:=qE (wr.alloc (.cells #[.int .i64 0] 2):World);have H3:Hid (GbJ w gi ci g cp [1] W3/\∀(j:Nat)(v:Int),[(0:Int)][j]?=some v->W3.cell? ⟨wr.heap.size,j,none⟩=some (.int .i64 v)):=by
    have k3:Below wr.heap.size wr W3:=by rw[y];exact qB
    have o3:OwnZ 2 W3 wr.heap.size wr.heap.size 1 [0] .i64:=by rw[y];exact World.ownsRow_lit wr #[.int .i64 0] 1 (Nat.le_refl _) (by decide) rfl
    exact⟨HJ.on k3,λj v hv=>(o3.cell hv).1⟩
   go_wp2_with (at_builtin;rw[<-y];clear y;refine yHk _ rfl _ _ rfl (w.heap.size+1) g cp 1 wr.heap.size 1 1 [1] [0] rfl rfl rfl rfl H3.1.own H3.2 (by simp) (by have:=H3.1.own.lt;omega) ?_);intro g4 ab w4 a9 a6;have H4:Hid (GbJ w gi ci g4 ab [1,0] w4):=H3.1.chg (Chg.of_grown a6 (λk hk=>by cases hk;rfl)) a9;clear a9 a6;go_wp2_with fail;go_roundw;case rel=>exact⟨g4,ab,.inr ⟨by first|rfl|go_num,rfl,H4⟩⟩
   case measure=>simp[intOf]
  .go_wp2_with fail;go_loopw[8] (λiv wr=>∃(k:Nat),k<=1/\iv=.int .i64 k/\Hid (GbJ w gi ci g cp [1,(k:Int)] wr)) (λiv _=>1-(intOf iv).toNat);case atStart=>exact⟨0,by omega,rfl,H1⟩
   case round=>
    clear H1;obtain⟨k,hk,rfl,HJ⟩:=hrel;have ai:2<=cp:=HJ.own.caps.1;obtain⟨b0,b1⟩:=HJ.box.c2;by_cases hk0:k<1
    .obtain rfl:k=0:=by omega
     obtain⟨d0,d1,d2,d3,d4,d5,d6,d7,d8,d9,a5⟩:=yQ2 (HP.out wr HJ.below);have ae:=(HP.out wr HJ.below).lt;obtain⟨W3,y⟩:=qE (wr.alloc (.cells elP.toArray 210):World);obtain⟨X,hX⟩:=qE wr.heap.size;have HK:Hid (∀wx,Below W3.heap.size W3 wx->GbJ w gi ci g cp [1,0] wx/\yA wx wr.heap.size 210 11 X elP):=λwx hx=>by
      have k3:Below wr.heap.size wr W3:=by rw[y];exact qB
      exact⟨(HJ.on k3).on hx,(show yA W3 wr.heap.size 210 11 X elP by rw[y,hX];exact yAa wr _ (Nat.le_refl _) rfl).below hx⟩
     go_upto_region 13 with fail;rw[<-hX,<-y];clear y hX d0 d1 d2 d3 d4 d5 d6 d7 d8 d9 a5 b0 b1 ae;obtain⟨d0,d1,d2,d3,d4,d5,d6,d7,d8,d9,a5⟩:=yC8 (HK.out W3 (Below.refl _ _)).2;have b0:=(HK.out W3 (Below.refl _ _)).1.box.cell (j:=0) rfl;have b1:=(HK.out W3 (Below.refl _ _)).1.box.cell (j:=1) rfl;have e0:=((HK.out W3 (Below.refl _ _)).1.own.cell (j:=0) rfl).1;have HG:Hid (Calls prog 218 #[.agg elP.toArray,.int .i64 0,.int .i64 1,.int .i64 0,.int .i64 0] W3 λe w'=>e=.returned (.bool true)/\Below W3.heap.size W3 w'):=yU7 W3;go_wp2_with fail;refine HG.mono ?_;rintro e w4 ⟨rfl,a0⟩;clear HG d0 d1 d2 d3 d4 d5 d6 d7 d8 d9 a5 b0 b1 e0;obtain⟨d0,d1,d2,_⟩:=yC8 (HK.out w4 a0).2;have ac:Hid (Calls prog 219 #[.slice (some ⟨g,0,none⟩) 2 cp,.int .i64 1,.int .i64 1] w4 λr w'=>r=.returned (.bool true)/\GbJ w gi ci g cp [1,1] w'/\yA w' wr.heap.size 210 11 X elP):=by
      refine(yR3 (w.heap.size+1) g cp [1,0] 1 1 0 w4 (HK.out w4 a0).1.own rfl (by simp)).mono ?_;rintro r w' ⟨q,rfl,hq,hO,hc⟩;obtain rfl:q=true:=hq.2 (by omega);have h9:=(HK.out w4 a0).1;have af:¬X=g:=by have h1:=HJ.own.lt.2;have h2:=(HK.out w4 a0).2.lt.1;omega
      exact⟨rfl,h9.chg hc (hO rfl),(HK.out w4 a0).2.chg hc af⟩
     go_wp2_with fail;refine ac.mono ?_;rintro e w5 ⟨rfl,aa,a8⟩;have H5:Hid (GbJ w gi ci g cp [1,1] w5/\yA w5 wr.heap.size 210 11 X elP):=⟨aa,a8⟩;clear ac d0 d1 d2 aa a8;obtain⟨d0,d1,d2,_⟩:=yC8 H5.2;have ad:Hid (Calls prog 183 #[.int .i64 1] w5 λr w'=>r=.returned (.bool false)/\Below w5.heap.size w5 w'):=by
      refine(yOf 1 w5).mono ?_;rintro r w' ⟨q,rfl,hq,hb⟩;cases q
      .exact⟨rfl,hb⟩
      .exact absurd (hq.1 rfl) (by decide)
     go_wp2_with fail;refine ad.mono ?_;rintro e w6 ⟨rfl,a7⟩;have H6:Hid (GbJ w gi ci g cp [1,1] w6):=H5.1.on a7;clear ad d0 d1 d2 a7 HK HJ;go_wp2_with fail;go_roundw;case rel=>exact⟨1,by omega,by first|rfl|go_num,H6⟩
     case measure=>simp[intOf]
    .obtain rfl:k=1:=by omega
     have e1:=(HJ.own.cell (j:=1) rfl).1;go_wp2_with fail;go_ret;exact⟨rfl,HJ.below⟩
theorem yYb(hP:PcAt w gi ci)(a:Option Addr)(c:Nat):Calls prog 114 #[.agg #[.slice a 0 c,.slice (some ⟨gi,0,none⟩) 1 ci,.int .i64 0]] w λe w'=>e=.returned (.bool true)/\Below w.heap.size w w':=by
 obtain⟨W0,y⟩:=qE (w.alloc (.cells #[.slice a 0 c,.slice (some ⟨gi,0,none⟩) 1 ci,.int .i64 0] 79):World);have HK:Hid (∀wx,Below W0.heap.size W0 wx->yA wx w.heap.size 79 3 w.heap.size [.slice a 0 c,.slice (some ⟨gi,0,none⟩) 1 ci,.int .i64 0]/\Below w.heap.size w wx):=λwx hx=>by
  have k0:Below w.heap.size w W0:=by rw[y];exact qB
  exact⟨(show yA W0 w.heap.size 79 3 w.heap.size [.slice a 0 c,.slice (some ⟨gi,0,none⟩) 1 ci,.int .i64 0]by rw[y];exact yAa w _ (Nat.le_refl _) rfl).below hx,k0.trans (hx.mono k0.size)⟩
 have HG:Hid (Calls prog 172 #[.agg #[.slice (some ⟨gi,0,none⟩) 1 ci,.int .i64 0],.int .i64 0] W0 λe w'=>e=.returned (.bool true)/\Below W0.heap.size W0 w'):=yP7 (hP.below (HK.out W0 (Below.refl _ _)).2);clear hP;have c0:=(HK.out W0 (Below.refl _ _)).1.cell (j:=0) rfl;have c1:=(HK.out W0 (Below.refl _ _)).1.cell (j:=1) rfl;have c2:=(HK.out W0 (Below.refl _ _)).1.cell (j:=2) rfl;go_enter func114,ntmps114;go_upto_region 1 with fail;rw[<-y];clear y;go_wp2_with fail;refine HG.mono ?_;rintro e w1 ⟨rfl,hb1⟩;clear HG c0 c1 c2;go_wp2_with fail;go_loopw[3] (λiv wr=>iv=.int .i64 0/\wr=w1) (λ_ _=>0);case atStart=>exact⟨rfl,rfl⟩
 case round=>obtain⟨rfl,rfl⟩:=hrel;have c0:=(HK.out wr hb1).1.cell (j:=0) rfl;go_wp2_with fail;go_ret;exact⟨rfl,(HK.out wr hb1).2⟩
def WbJ(w:World)(g cp:Nat)(ss:List yHe)(wr:World):Prop:=yA wr w.heap.size 113 3 w.heap.size [.bool false,.int .i64 0,.int .i64 0]/\yGg wr (w.heap.size+1) g cp ss/\Below w.heap.size w wr
theorem WbJ.on(h:WbJ w g cp ss wr)(hb:Below wr.heap.size wr W):WbJ w g cp ss W:=⟨h.1.below hb,h.2.1.below hb,h.2.2.trans (hb.mono h.2.2.size)⟩
theorem zWb{p:Prop}(h:p:=by obtain⟨v0,v1,v2⟩:=H3.2.c3;obtain⟨f0,f1,f2⟩:=H3.2.f3;obtain⟨W4,hW4⟩:=qE (set3 W3 X (.bool true) (.int .i64 1) (.int .i64 0):World);have H4:Hid (Below W1.heap.size W1 W4/\yA W4 W1.heap.size 113 3 X shP):=⟨by rw[hW4];exact yH6 H3.1 H3.2.lt.1 _ _ _,by rw[hW4];exact H3.2.set3 _ _ _⟩;have hS4:=HSS.out _ H4.1;unfold set3 at hW4;refine qO 7 rfl λK hK=>?_;go_simp;rw[<-hW4];refine hK.out _ _ (.inr hS4) (tkS ?_);clear hK hW4;refine qD ?_;go_wp2_with fail;go_meet;exact⟨X,rfl,H4⟩):p:=h
theorem yY7{gN cpN:Nat}(h:yC w gN 0 [ndP])(hg:gN<w.heap.size):Calls prog 75 #[.slice (some ⟨gN,0,none⟩) 1 cpN,.func (Fn.func 76) #[] #[]] w λr w'=>r=.returned (.tuple #[.agg #[.bool true,.int .i64 1,.int .i64 0],.bool true])/\Below w.heap.size w w':=by
 obtain⟨W0,a4⟩:=qE ((w.alloc (.cells #[.bool false,.int .i64 0,.int .i64 0] 113)).alloc (.cells #[] 113):World);have H0:Hid (WbJ w (w.heap.size+1) 0 [] W0):=by
  obtain⟨A,hA⟩:=qE (w.alloc (.cells #[.bool false,.int .i64 0,.int .i64 0] 113):World);have zA:A.heap.size=w.heap.size+1:=by rw[hA];simp
  have bA:yA A w.heap.size 113 3 w.heap.size [.bool false,.int .i64 0,.int .i64 0]:=by rw[hA];exact yAa w _ (Nat.le_refl _) rfl
  have kA:Below w.heap.size w A:=by rw[hA];exact qB
  rw[<-hA]at a4;have k0:Below A.heap.size A W0:=by rw[a4];exact qB
  exact⟨bA.below k0,by rw[a4,<-zA];exact yT0 A (Nat.le_refl _),kA.trans (k0.mono kA.size)⟩
 have HN:Hid (yC w gN 0 [ndP]):=h;clear h;go_enter func75,ntmps75;go_upto_region 2 with fail;rw[<-a4];clear a4;go_wp2_with fail;go_loopw[6,14] (λsv iv wr=>(iv=.int .i64 0/\sv=.slice (some ⟨w.heap.size+1,0,none⟩) 0 0/\wr=W0)\/(∃g cp,iv=.int .i64 1/\sv=.slice (some ⟨g,0,none⟩) 1 cp/\Hid (WbJ w g cp [⟨true,1,0⟩] wr))) (λ_ iv _=>1-(intOf iv).toNat);case atStart=>exact .inl ⟨rfl,rfl,rfl⟩
 case round=>
  obtain(⟨rfl,rfl,rfl⟩|⟨g,cp,rfl,rfl,HJ⟩):=hrel
  .obtain⟨d0,d1,d2,d3,d4,d5,d6⟩:=(HN.below H0.2.2 hg) 0 ndP rfl;simp only[Nat.zero_mul,Nat.zero_add]at d0 d1 d2 d3 d4 d5 d6;obtain⟨W1,a7⟩:=qE (wr.alloc (Obj.cells #[.int .i64 1,.string ⟨#[]⟩,.bool false,.string ⟨#[]⟩,.int .u64 0,.int .u64 0,.int .i64 0] 35):World);obtain⟨P,hP⟩:=qE wr.heap.size;have H1:Hid (WbJ w (w.heap.size+1) 0 [] W1/\yA W1 w.heap.size 35 7 P [.int .i64 1,.string ⟨#[]⟩,.bool false,.string ⟨#[]⟩,.int .u64 0,.int .u64 0,.int .i64 0]):=by
    have k1:Below wr.heap.size wr W1:=by rw[a7];exact qB
    refine⟨H0.on k1,?_⟩;rw[a7,hP];exact yAa wr _ H0.2.2.size rfl
   go_upto_region 5 with fail;rw[<-a7,<-hP];clear a7 hP d0 d1 d2 d3 d4 d5 d6;have c0:=H1.2.cell (j:=0) rfl;have ae:Hid (Calls prog 132 #[.int .i64 1] W1 λr w'=>r=.returned (.int .i64 0)/\w'=W1):=yC0 1 W1;go_wp2_with fail;refine ae.mono ?_;rintro r w9 ⟨rfl,aa⟩;rw[aa];clear aa ae c0;have HSS:Hid (∀X:World,Below W1.heap.size W1 X->(λw':World=>w'.cell? ⟨P,0,none⟩=some (.int .i64 1)/\w'.cell? ⟨P,1,none⟩=some (.string ⟨#[]⟩)/\w'.cell? ⟨P,2,none⟩=some (.bool false)/\w'.cell? ⟨P,3,none⟩=some (.string ⟨#[]⟩)/\w'.cell? ⟨P,4,none⟩=some (.int .u64 0)/\w'.cell? ⟨P,5,none⟩=some (.int .u64 0)/\w'.cell? ⟨P,6,none⟩=some (.int .i64 0)/\w'.cell? ⟨P,6,none⟩=some (.int .i64 0)) X):=λX hX=>by have hb:=H1.2.below hX;exact⟨hb.cell (j:=0) rfl,hb.cell (j:=1) rfl,hb.cell (j:=2) rfl,hb.cell (j:=3) rfl,hb.cell (j:=4) rfl,hb.cell (j:=5) rfl,hb.cell (j:=6) rfl,hb.cell (j:=6) rfl⟩
   have kd:Below W1.heap.size W1 W1.drew:=(Below.refl _ _).drew;have y:=HSS.out _ kd;go_upto_region 8 with fail;go_cut[10] (λpv wx=>∃X,pv=.pointer (some ⟨X,0,none⟩)/\Hid (Below W1.heap.size W1 wx/\yA wx W1.heap.size 113 3 X shP));case first=>
    refine yAq 99 (λw':World=>w'.cell? ⟨P,0,none⟩=some (.int .i64 1)/\w'.cell? ⟨P,1,none⟩=some (.string ⟨#[]⟩)/\w'.cell? ⟨P,2,none⟩=some (.bool false)/\w'.cell? ⟨P,3,none⟩=some (.string ⟨#[]⟩)/\w'.cell? ⟨P,4,none⟩=some (.int .u64 0)/\w'.cell? ⟨P,5,none⟩=some (.int .u64 0)/\w'.cell? ⟨P,6,none⟩=some (.int .i64 0)/\w'.cell? ⟨P,6,none⟩=some (.int .i64 0)) (by kernel_rfl) ?_;generalize W1.drew=WD at kd y|-;refine tk8a 0 y ?_;iterate 4 refine tk8b y ?_
    refine yD (i:=5) (j:=6) (by kernel_rfl) rfl rfl (λK hK=>?_) (λK hK=>?_)
    .go_simp;go_at_call 76;refine(yNl _ _ WD).mono ?_;rintro r w2 ⟨rfl,hb2⟩;have k2:Below W1.heap.size W1 w2:=kd.trans (hb2.mono kd.size);have a5:=HSS.out _ k2;refine hK.out _ _ (.inr a5) (tkS ?_);clear hK y;obtain⟨W3,a0⟩:=qE (w2.alloc (.cells #[.bool false,.int .i64 0,.int .i64 0] 113):World);obtain⟨X,hX⟩:=qE w2.heap.size;have H3:Hid (Below W1.heap.size W1 W3/\yA W3 W1.heap.size 113 3 X [.bool false,.int .i64 0,.int .i64 0]):=⟨by rw[a0];exact k2.alloc k2.size _,by rw[a0,hX];exact yAa w2 _ k2.size rfl⟩;have a3:=HSS.out _ H3.1;refine qO 6 rfl λK hK=>?_;go_simp;rw[<-a0,<-hX];refine hK.out _ _ (.inr a3) (tkS ?_);clear hK a0 hX a5 k2 hb2 kd;exact zWb
    .obtain⟨W2,a6⟩:=qE (WD.alloc (.cells #[.bool false,.int .i64 0,.int .i64 0] 113):World);obtain⟨X,hX⟩:=qE WD.heap.size;have H2:Hid (Below W1.heap.size W1 W2/\yA W2 W1.heap.size 113 3 X [.bool false,.int .i64 0,.int .i64 0]):=⟨by rw[a6];exact kd.alloc kd.size _,by rw[a6,hX];exact yAa WD _ kd.size rfl⟩;have a5:=HSS.out _ H2.1;go_simp;rw[<-a6,<-hX];refine hK.out _ _ (.inr a5) (tkS ?_);clear hK a6 hX y kd;refine qO 5 rfl λK hK=>?_;go_simp;go_at_call 76;refine(yNl _ _ W2).mono ?_;rintro r W3 ⟨rfl,hb2⟩;have H3:Hid (Below W1.heap.size W1 W3/\yA W3 W1.heap.size 113 3 X [.bool false,.int .i64 0,.int .i64 0]):=⟨H2.1.trans (hb2.mono H2.1.size),H2.2.below hb2⟩;have a3:=HSS.out _ H3.1;refine hK.out _ _ (.inr a3) (tkS ?_);clear hK a5 hb2 H2;exact zWb
   case rest=>
   obtain⟨X,rfl,HB⟩:=hcut;clear y kd HSS;have HF:Hid (WbJ w (w.heap.size+1) 0 [] wc.drew/\yA wc.drew W1.heap.size 113 3 X shP/\w.heap.size+1<X):=by have kd:Below wc.heap.size wc wc.drew:=(Below.refl _ _).drew;exact⟨(H1.1.on HB.1).on kd,HB.2.below kd,by have h1:=H1.1.2.1.lt.2;have h2:=HB.2.lt.1;omega⟩
   have HSS:Hid (∀W:World,yA W W1.heap.size 113 3 X shP->(λw':World=>w'.cell? ⟨X,0,none⟩=some (.bool true)/\w'.cell? ⟨X,1,none⟩=some (.int .i64 1)/\w'.cell? ⟨X,2,none⟩=some (.int .i64 0)) W):=λW hb=>⟨hb.cell (j:=0) rfl,hb.cell (j:=1) rfl,hb.cell (j:=2) rfl⟩;have y:=HSS.out _ HF.2.1;go_upto_region 9 with fail;refine yAq 99 (λw':World=>w'.cell? ⟨X,0,none⟩=some (.bool true)/\w'.cell? ⟨X,1,none⟩=some (.int .i64 1)/\w'.cell? ⟨X,2,none⟩=some (.int .i64 0)) (by kernel_rfl) ?_;generalize wc.drew=WD at HF y|-;refine tk3a 0 y ?_;iterate 3 refine tk3b y ?_
   obtain⟨W3,a0⟩:=qE (WD.alloc (.cells #[.bool true,.int .i64 1,.int .i64 0] 113):World);obtain⟨Y,hY⟩:=qE WD.heap.size;have H3:Hid (WbJ w (w.heap.size+1) 0 [] W3/\yA W3 W1.heap.size 113 3 X shP/\yZn W3 Y 0 [⟨true,1,0⟩]):=by
    have k3:Below WD.heap.size WD W3:=by rw[a0];exact qB
    have o3:yGg W3 WD.heap.size Y 1 [⟨true,1,0⟩]:=by rw[a0,hY];exact World.ownsRow_lit WD #[.bool true,.int .i64 1,.int .i64 0] 1 (Nat.le_refl _) (by decide) rfl
    exact⟨HF.1.on k3,HF.2.1.below k3,o3.at⟩
   have a3:=HSS.out _ H3.2.1;refine qO 4 rfl λK hK=>?_;go_simp;rw[<-a0,<-hY];refine hK.out _ _ (.inr a3) (tkS ?_);clear hK a0 hY y;refine qO 5 rfl λK hK=>?_;refine yHm _ rfl _ _ rfl (w.heap.size+1) 0 (w.heap.size+1) 0 Y [] ⟨true,1,0⟩ rfl rfl rfl H3.1.2.1 H3.2.2 (by simp) (by have:=H3.1.2.1.lt;omega) ?_;intro g4 ad w4 ac ab af;have H4:Hid (WbJ w g4 ad [⟨true,1,0⟩] w4/\yA w4 W1.heap.size 113 3 X shP):=by have a8:Chg (λk=>k=w.heap.size+1) W3 w4:=Chg.of_grown ab (λk hk=>by cases hk;rfl);have hX:=HF.2.2;obtain⟨⟨q1,q2,q3⟩,q4,_⟩:=H3.out;exact⟨⟨q1.chg a8 (by omega),ac,Chg.below q3 a8 q3.size (λk z=>by omega)⟩,q4.chg a8 (by omega)⟩
   have hS4:=HSS.out _ H4.2;refine hK.out _ _ (.inr hS4) (tkS ?_);clear hK ac ab af a3;refine tk3a 6 hS4 ?_;refine qD ?_;clear hS4;go_wp2_with fail;go_roundw;case rel=>exact .inr ⟨g4,ad,by first|rfl|go_num,rfl,H4.1⟩
   case measure=>simp[intOf]
  .obtain⟨e0,e1,e2⟩:=HJ.2.1.at 0 _ rfl;simp only[Nat.zero_mul,Nat.zero_add]at e0 e1 e2;have ah:1<=cp:=HJ.2.1.caps.1;have ag:=HJ.2.1.lt;obtain⟨v0,v1,v2⟩:=HJ.1.c3;obtain⟨f0,f1,f2⟩:=HJ.1.f3;obtain⟨W9,a9⟩:=qE (set3 wr w.heap.size (.bool true) (.int .i64 1) (.int .i64 0):World);have H9:Hid (yA W9 w.heap.size 113 3 w.heap.size shP/\Below w.heap.size w W9):=by rw[a9];exact⟨HJ.1.set3 _ _ _,yH6 HJ.2.2 (Nat.le_refl _) _ _ _⟩
   unfold set3 at a9;go_wp2_with fail;rw[<-a9];obtain⟨q0,q1,q2⟩:=H9.1.c3;exact bodyPost_ret (v:=.tuple #[.agg #[.bool true,.int .i64 1,.int .i64 0],.bool true]) (by simp[results,results75,go_sem,q0,q1,q2]) rfl ⟨rfl,H9.2⟩
theorem yIw(h:yAj w base g cp [ndP]):Calls prog 36 #[.agg #[.slice (some ⟨g,0,none⟩) 1 cp]] w λe w'=>e=.returned (.bool true)/\Below w.heap.size w w':=by
 have a0:=h.lt.2;obtain⟨W0,y⟩:=qE (w.alloc (.cells #[.slice (some ⟨g,0,none⟩) 1 cp] 25):World);have k0:Below w.heap.size w W0:=by rw[y];exact qB
 have b0:yA W0 w.heap.size 25 1 w.heap.size [.slice (some ⟨g,0,none⟩) 1 cp]:=by rw[y];exact yAa w _ (Nat.le_refl _) rfl
 have HF:Hid (Calls prog 75 #[.slice (some ⟨g,0,none⟩) 1 cp,.func (Fn.func 76) #[] #[]] W0 λr w'=>r=.returned (.tuple #[.agg #[.bool true,.int .i64 1,.int .i64 0],.bool true])/\Below W0.heap.size W0 w'):=yY7 (h.below k0 a0).at (h.below k0 a0).lt.2;have HB:Hid (Below w.heap.size w W0):=k0;have c0:=b0.cell (j:=0) rfl;clear h k0 b0;go_enter func36,ntmps36;go_upto_region 1 with fail;rw[<-y];clear y;go_wp2_with fail;refine HF.mono ?_;rintro e w1 ⟨rfl,hb1⟩;have H1:Hid (Below w.heap.size w w1):=HB.trans (hb1.mono HB.size);clear HF c0 hb1;go_wp2_with fail;go_ret;exact⟨rfl,H1.alloc H1.size _⟩
theorem Tryz.infoInt:(prog.info? 3).map (λi=>(i.zero,i.size,i.bytes))=some (some (.int .i64 0),1,8):=by kernel_rfl
theorem yR9(n:Nat):(madeCells #[.int .i64 0] n).toList=(List.replicate n (0:Int)).map λd=>Value.int .i64 d:=by
 apply ext_getElem?;intro j;by_cases hj:j<n
 .rw[getElem?_map,getElem?_replicate,if_pos hj];simp[madeCells,hj,mod_one]
 .rw[getElem?_map,getElem?_replicate,if_neg hj];simp[madeCells,hj]
theorem yP3(k:Int)(w:World):Calls prog 194 #[.int .i64 k] w (yZr (cntK k) w):=by
 go_enter func194,ntmps194;go_wp2_with fail;all_goals go_ret
 all_goals exact⟨_,rfl,by simp_all[cntK],Below.refl _ _⟩
theorem yPa(v:Value)(hv:v.cells=#[v])(w:World):Calls prog 228 #[.agg #[v,.int .i64 0],ixP.v] w λe w'=>e=.returned (.bool true)/\Below w.heap.size w w':=by
 obtain⟨W0,y⟩:=qE ((w.alloc (.cells #[v,.int .i64 0] 77)).alloc (.cells elP.toArray 210):World);have HK:Hid (∀wx,Below W0.heap.size W0 wx->yA wx w.heap.size 210 11 (w.heap.size+1) elP/\Below w.heap.size w wx):=λwx hx=>by
  obtain⟨A,hA⟩:=qE (w.alloc (.cells #[v,.int .i64 0] 77):World);have zA:A.heap.size=w.heap.size+1:=by rw[hA];simp
  have kA:Below w.heap.size w A:=by rw[hA];exact qB
  rw[<-hA]at y;have k0:Below A.heap.size A W0:=by rw[y];exact qB
  exact⟨(show yA W0 w.heap.size 210 11 (w.heap.size+1) elP by rw[y,<-zA];exact yAa A _ (by omega) rfl).below hx,(kA.trans (k0.mono kA.size)).trans (hx.mono (Nat.le_trans kA.size k0.size))⟩
 obtain⟨W1,a0⟩:=qE (W0.alloc (Obj.cells #[.int .i64 1,.string ⟨#[]⟩,.bool false,.string ⟨#[]⟩,.int .u64 0,.int .u64 0,.int .i64 0] 35):World);have HF:Hid (Calls prog 36 #[.agg #[.slice (some ⟨W0.heap.size,0,none⟩) 1 1]] W1 λe w'=>e=.returned (.bool true)/\Below W1.heap.size W1 w'):=yIw (base:=W0.heap.size) (by rw[a0];exact yJn W0 ndP);have k1:Below W0.heap.size W0 W1:=by rw[a0];exact qB
 have a3:W0.heap.size=w.heap.size+1+1:=by rw[y];simp
 obtain⟨c0,c1,c2,c3,c4,c5,c6,c7,c8,c9,c10⟩:=yC8 (HK.out W0 (Below.refl _ _)).1;rw[a3]at HF;go_enter func228,ntmps228;go_upto_region 1 with fail;rw[<-y];clear y;go_wp2_with fail;rw[<-a0];clear a0 c0 c1 c2 c3 c4 c5 c6 c7 c8 c9 c10;refine HF.mono ?_;rintro e w2 ⟨rfl,hb2⟩;have k2:Below W0.heap.size W0 w2:=k1.trans (hb2.mono k1.size);obtain⟨c0,c1,c2,c3,c4,c5,c6,c7,c8,c9,c10⟩:=yC8 (HK.out w2 k2).1;clear HF hb2 k1;have HC:Hid (Calls prog 194 #[.int .i64 1] w2 λe w'=>e=.returned (.bool false)/\Below w2.heap.size w2 w'):=by
  refine(yP3 1 w2).mono ?_;rintro e w' ⟨q,rfl,hq,hb⟩;cases q
  .exact⟨rfl,hb⟩
  .exact absurd (hq.1 rfl) (by simp[cntK])
 exact xA5
theorem yRn(hP:PcAt w gi ci):Calls prog 198 #[.agg #[.slice (some ⟨gi,0,none⟩) 1 ci,.int .i64 0],.int .i64 0,.int .i64 0] w λe w'=>e=.returned (.bool true)/\Below w.heap.size w w':=by
 have a4:=hP.cap.1;have a3:=hP.lt;obtain⟨d0,d1,d2,d3,d4,d5,d6,d7,d8,d9,a0⟩:=yQ2 hP;obtain⟨W0,y⟩:=qE ((w.alloc (.cells #[.slice (some ⟨gi,0,none⟩) 1 ci,.int .i64 0] 77)).alloc (.cells elP.toArray 210):World);have HK:Hid (yA W0 w.heap.size 77 2 w.heap.size [.slice (some ⟨gi,0,none⟩) 1 ci,.int .i64 0]/\yA W0 w.heap.size 210 11 (w.heap.size+1) elP/\Below w.heap.size w W0):=by
  obtain⟨A,hA⟩:=qE (w.alloc (.cells #[.slice (some ⟨gi,0,none⟩) 1 ci,.int .i64 0] 77):World);have zA:A.heap.size=w.heap.size+1:=by rw[hA];simp
  have kA:Below w.heap.size w A:=by rw[hA];exact qB
  have bA:yA A w.heap.size 77 2 w.heap.size [.slice (some ⟨gi,0,none⟩) 1 ci,.int .i64 0]:=by rw[hA];exact yAa w _ (Nat.le_refl _) rfl
  rw[<-hA]at y;have k0:Below A.heap.size A W0:=by rw[y];exact qB
  exact⟨bA.below k0,by rw[y,<-zA];exact yAa A _ (by omega) rfl,kA.trans (k0.mono kA.size)⟩
 have HL:Hid (Calls prog 228 #[.agg #[.slice (some ⟨gi,0,none⟩) 1 ci,.int .i64 0],.agg elP.toArray] W0 λe w'=>e=.returned (.bool true)/\Below W0.heap.size W0 w'):=yPa _ rfl W0;have hq:∀wz:World,(binOp .eql 210 (.agg elP.toArray) (.agg elP.toArray)).run prog wz=.ok (.bool true) wz:=λwz=>by kernel_rfl
 clear hP;go_enter func198,ntmps198;go_upto_region 2 with fail;rw[<-y];clear y d0 d1 d2 d3 d4 d5 d6 d7 d8 d9 a0;obtain⟨c0,c1,c2,c3,c4,c5,c6,c7,c8,c9,c10⟩:=yC8 HK.2.1;obtain⟨b0,b1⟩:=HK.1.c2;go_wp2_with fail;refine HL.mono ?_;rintro e w2 ⟨rfl,hb2⟩;have HE:Hid (Below w.heap.size w w2):=HK.2.2.trans (hb2.mono HK.2.2.size);clear HL hb2 b0 b1 c0 c1 c2 c3 c4 c5 c6 c7 c8 c9 c10;go_wp2_with fail;go_ret;exact⟨rfl,HE.out⟩
theorem xBi(w:World):Calls prog 229 #[ixP.v,.int .i64 0] w λe w'=>∃g,e=.returned (.slice (some ⟨g,0,none⟩) 1 1)/\w.heap.size<=g/\w'.cell? ⟨g,0,none⟩=some (.int .i64 1)/\g<w'.heap.size/\Below w.heap.size w w':=by
 obtain⟨W0,y⟩:=qE (w.alloc (.cells elP.toArray 210):World);have HK:Hid (yA W0 w.heap.size 210 11 w.heap.size elP/\Below w.heap.size w W0):=by rw[y];exact⟨yAa w _ (Nat.le_refl _) rfl,qB⟩
 obtain⟨c0,c1,c2,_⟩:=yC8 HK.1;go_enter func229,ntmps229;go_upto_region 1 with fail;rw[<-y];clear y;go_wp2_with fail;go_ret;exact⟨_,rfl,HK.2.size,by simp,by simp,HK.2.alloc HK.2.size _⟩
structure VfJ(w:World)(gi ci g:Nat)(ds:List Int)(wr:World):Prop where
 box:yA wr w.heap.size 77 2 w.heap.size [.slice (some ⟨gi,0,none⟩) 1 ci,.int .i64 0]
 own:OwnZ 3 wr (w.heap.size+1) g 2 ds .i64
 below:Below w.heap.size w wr
theorem VfJ.on(h:VfJ w gi ci g ds wr)(hb:Below wr.heap.size wr W):VfJ w gi ci g ds W:=⟨h.box.below hb,h.own.below hb,h.below.trans (hb.mono h.below.size)⟩
theorem VfJ.set(h:VfJ w gi ci g ds wr)(j:Nat)(d:Int):VfJ w gi ci g (ds.set j d) (wr.setCell ⟨g,j,none⟩ (.int .i64 d)):=by have hg:=h.own.lt.1;have hc:Chg (λk=>k=g) wr (wr.setCell ⟨g,j,none⟩ (.int .i64 d)):=Chg.of_set _ _ _ _ rfl;exact⟨h.box.chg hc (by omega),h.own.set j d,Chg.below h.below hc h.below.size (λk z=>by omega)⟩
theorem yPb(hP:PcAt w gi ci):Calls prog 199 #[.agg #[.slice (some ⟨gi,0,none⟩) 1 ci,.int .i64 0]] w λe w'=>e=.returned (.bool true)/\Below w.heap.size w w':=by
 have ag:=hP.cap.1;have HP:Hid (∀wx,Below w.heap.size w wx->PcAt wx gi ci):=λwx hx=>hP.below hx;obtain⟨i,hi,a8,a7,a6⟩:=info_parts Tryz.infoInt;have HI:Hid (prog.info? 3=some i/\i.zero=some (.int .i64 0)/\i.size=1/\i.bytes=8):=⟨hi,a8,a7,a6⟩;clear hi a8 a7 a6 hP;obtain⟨W0,a4⟩:=qE (w.alloc (.cells #[.slice (some ⟨gi,0,none⟩) 1 ci,.int .i64 0] 77):World);have H0:Hid (yA W0 w.heap.size 77 2 w.heap.size [.slice (some ⟨gi,0,none⟩) 1 ci,.int .i64 0]/\Below w.heap.size w W0/\W0.heap.size=w.heap.size+1):=by rw[a4];exact⟨yAa w _ (Nat.le_refl _) rfl,qB,by simp⟩
 have b0:=H0.1.cell (j:=0) rfl;go_enter func199,ntmps199;go_upto_region 1 with fail;rw[<-a4];clear a4;go_wp2_with (at_make;refine wpList_make_full _ rfl _ _ 330 rfl W0.heap.size 3 i _ 1 underlying330 HI.1 HI.2.1 HI.2.2.1 _ _ _ _ 2 rfl rfl ?_ ?_ ?hb ?hm ?hs ?_);case hb=>rw[HI.2.2.2];omega
 case hm=>unfold maxLen;omega
 case hs=>exact Nat.le_refl _
 .rfl
 .rfl
 intro w1 a0 a9;rw[yR9]at a0;obtain⟨D,hD⟩:=qE W0.heap.size;have H1:Hid (VfJ w gi ci D [0,0] w1):=by have hb1:Below W0.heap.size W0 w1:=(Below.refl _ _).grown a9 (Nat.le_refl _) (λk hk=>by cases hk);exact⟨H0.1.below hb1,by rw[hD,<-H0.2.2];exact a0,H0.2.1.trans (hb1.mono H0.2.1.size)⟩
 clear a0 a9 b0;obtain⟨e0,f0⟩:=H1.own.cell (j:=0) (d:=0) rfl;obtain⟨W2,a3⟩:=qE (w1.setCell ⟨D,0,none⟩ (.int .i64 1):World);have H2:Hid (VfJ w gi ci D [1,0] W2):=by rw[a3];exact H1.set 0 1
 go_upto_region 2 with fail;rw[<-hD];clear hD;go_upto_region 3 with fail;rw[<-a3];clear a3 e0 f0 H1 H0;have b0:=H2.box.cell (j:=0) rfl;go_wp2_with fail;clear b0;go_loopw[21] (λiv wr=>(iv=.int .i64 0/\Hid (VfJ w gi ci D [1,0] wr))\/(iv=.int .i64 1/\Hid (VfJ w gi ci D [1,1] wr))) (λiv _=>1-(intOf iv).toNat);case atStart=>exact .inl ⟨rfl,H2⟩
 case round=>
  clear H2;obtain(⟨rfl,HJ⟩|⟨rfl,HJ⟩):=hrel
  .obtain⟨d0,d1,d2,d3,d4,d5,d6,d7,d8,d9,a5⟩:=yQ2 (HP.out wr HJ.below);have ae:=(HP.out wr HJ.below).lt;obtain⟨W3,y⟩:=qE (wr.alloc (.cells elP.toArray 210):World);obtain⟨X,hX⟩:=qE wr.heap.size;have H3:Hid (VfJ w gi ci D [1,0] W3/\yA W3 wr.heap.size 210 11 X elP):=by
    have k3:Below wr.heap.size wr W3:=by rw[y];exact qB
    exact⟨HJ.on k3,by rw[y,hX];exact yAa wr _ (Nat.le_refl _) rfl⟩
   go_upto_region 6 with fail;rw[<-hX,<-y];clear y hX d0 d1 d2 d3 d4 d5 d6 d7 d8 d9 a5 ae;obtain⟨d0,d1,d2,d3,d4,d5,d6,d7,d8,d9,a5⟩:=yC8 H3.2;obtain⟨e0,f0⟩:=H3.1.own.cell (j:=0) (d:=1) rfl;have HG:Hid (Calls prog 229 #[.agg elP.toArray,.int .i64 0] W3 λe w'=>∃g,e=.returned (.slice (some ⟨g,0,none⟩) 1 1)/\W3.heap.size<=g/\w'.cell? ⟨g,0,none⟩=some (.int .i64 1)/\g<w'.heap.size/\Below W3.heap.size W3 w'):=xBi W3;go_wp2_with fail;refine HG.mono ?_;rintro e w4 ⟨gw,rfl,ad,af,ac,aa⟩;have H4:Hid (VfJ w gi ci D [1,0] w4/\D<gw):=⟨H3.1.on aa,by have:=H3.1.own.lt.2;omega⟩;clear HG d0 d1 d2 d3 d4 d5 d6 d7 d8 d9 a5 e0 f0 aa ad H3 HJ;go_wp2_with fail;go_loopw[54] (λiv wr=>(iv=.int .i64 0/\wr=w4)\/(iv=.int .i64 1/\Hid (VfJ w gi ci D [1,1] wr))) (λiv _=>1-(intOf iv).toNat);case atStart=>exact .inl ⟨rfl,rfl⟩
   case round=>
    obtain(⟨rfl,rfl⟩|⟨rfl,HJ⟩):=hrel
    .obtain⟨e1,f1⟩:=H4.1.own.cell (j:=1) (d:=0) rfl;have ah:=H4.2;obtain⟨W5,ab⟩:=qE (wr.setCell ⟨D,1,none⟩ (.int .i64 1):World);have H5:Hid (VfJ w gi ci D [1,1] W5):=by rw[ab];exact H4.1.set 1 1
     go_wp2_with fail;rw[<-ab];go_roundw;case rel=>exact .inr ⟨by first|rfl|go_num,H5⟩
     case measure=>simp[intOf]
    .clear H4 af ac;go_wp2_with fail;go_roundw;case rel=>exact .inr ⟨by first|rfl|go_num,HJ⟩
     case measure=>simp[intOf]
  .have b0:=HJ.box.cell (j:=0) rfl;obtain⟨e1,f1⟩:=HJ.own.cell (j:=1) (d:=1) rfl;go_wp2_with fail;go_ret;exact⟨rfl,HJ.below⟩
theorem yOz(hP:PcAt w gi ci):Calls prog 142 #[.agg #[.slice (some ⟨gi,0,none⟩) 1 ci,.int .i64 0],.int .i64 0] w λe w'=>e=.returned (.bool true)/\Below w.heap.size w w':=by
 have HP:Hid (∀wx,Below w.heap.size w wx->PcAt wx gi ci):=λwx hx=>hP.below hx;obtain⟨W0,y⟩:=qE (w.alloc (.cells #[.slice (some ⟨gi,0,none⟩) 1 ci,.int .i64 0] 77):World);have HK:Hid (∀wx,Below W0.heap.size W0 wx->yA wx w.heap.size 77 2 w.heap.size [.slice (some ⟨gi,0,none⟩) 1 ci,.int .i64 0]/\Below w.heap.size w wx):=λwx hx=>by
  have k0:Below w.heap.size w W0:=by rw[y];exact qB
  exact⟨(show yA W0 w.heap.size 77 2 w.heap.size [.slice (some ⟨gi,0,none⟩) 1 ci,.int .i64 0]by rw[y];exact yAa w _ (Nat.le_refl _) rfl).below hx,k0.trans (hx.mono k0.size)⟩
 clear hP;have b0:=(HK.out W0 (Below.refl _ _)).1.cell (j:=0) rfl;have b1:=(HK.out W0 (Below.refl _ _)).1.cell (j:=1) rfl;go_enter func142,ntmps142;go_upto_region 1 with fail;rw[<-y];clear y;go_wp2_with fail;clear b0 b1;go_loopw[29] (λiv wr=>(iv=.int .i64 0\/iv=.int .i64 1)/\Hid (Below W0.heap.size W0 wr)) (λiv _=>1-(intOf iv).toNat);case atStart=>exact⟨.inl rfl,Below.refl _ _⟩
 case round=>
  obtain⟨(rfl|rfl),HJ⟩:=hrel
  .have b0:=(HK.out wr HJ.out).1.cell (j:=0) rfl;have b1:=(HK.out wr HJ.out).1.cell (j:=1) rfl;have HV:Hid (Calls prog 198 #[.agg #[.slice (some ⟨gi,0,none⟩) 1 ci,.int .i64 0],.int .i64 0,.int .i64 0] wr λe w'=>e=.returned (.bool true)/\Below wr.heap.size wr w'):=yRn (HP.out wr (HK.out wr HJ.out).2);go_wp2_with fail;refine HV.mono ?_;rintro e w2 ⟨rfl,hb2⟩;have H2:Hid (Below W0.heap.size W0 w2):=HJ.trans (hb2.mono HJ.size);clear HV hb2 b0 b1 HJ;go_wp2_with fail;go_roundw;case rel=>exact⟨.inr (by first|rfl|go_num),H2⟩
   case measure=>simp[intOf]
  .have b0:=(HK.out wr HJ.out).1.cell (j:=0) rfl;have b1:=(HK.out wr HJ.out).1.cell (j:=1) rfl;have HV:Hid (Calls prog 199 #[.agg #[.slice (some ⟨gi,0,none⟩) 1 ci,.int .i64 0]] wr λe w'=>e=.returned (.bool true)/\Below wr.heap.size wr w'):=yPb (HP.out wr (HK.out wr HJ.out).2);go_wp2_with fail;refine HV.mono ?_;rintro e w2 ⟨rfl,hb2⟩;have H2:Hid (Below w.heap.size w w2):=(HK.out w2 (HJ.trans (hb2.mono HJ.size))).2;clear HV hb2 b0 b1 HJ;go_wp2_with fail;go_ret;exact⟨rfl,H2.out⟩
theorem yV6(hP:PcAt w gi ci)(a:Option Addr)(c:Nat):Calls prog 84 #[.agg #[.slice a 0 c,.slice (some ⟨gi,0,none⟩) 1 ci,.int .i64 0]] w λe w'=>e=.returned (.bool true)/\Below w.heap.size w w':=by
 obtain⟨W0,y⟩:=qE (w.alloc (.cells #[.slice a 0 c,.slice (some ⟨gi,0,none⟩) 1 ci,.int .i64 0] 79):World);have H0:Hid (yA W0 w.heap.size 79 3 w.heap.size [.slice a 0 c,.slice (some ⟨gi,0,none⟩) 1 ci,.int .i64 0]/\Below w.heap.size w W0):=by rw[y];exact⟨yAa w _ (Nat.le_refl _) rfl,qB⟩
 have HG:Hid (Calls prog 142 #[.agg #[.slice (some ⟨gi,0,none⟩) 1 ci,.int .i64 0],.int .i64 0] W0 λe w'=>e=.returned (.bool true)/\Below W0.heap.size W0 w'):=yOz (hP.below H0.2);clear hP;obtain⟨c0,c1,c2⟩:=H0.1.c3;go_enter func84,ntmps84;go_upto_region 1 with fail;rw[<-y];clear y;go_wp2_with fail;go_loopw[12] (λiv wr=>iv=.int .i64 0/\wr=W0) (λ_ _=>0);case atStart=>exact⟨rfl,rfl⟩
 case round=>obtain⟨rfl,rfl⟩:=hrel;go_wp2_with fail;refine HG.mono ?_;rintro e w1 ⟨rfl,hb1⟩;clear HG c0 c1 c2;go_wp2_with fail;go_ret;exact⟨rfl,H0.2.trans (hb1.mono H0.2.size)⟩
def yF2(k:Int):Bool:=decide (k=11\/k=12\/k=13)
def cntI(x:Ix):Nat:=if x.op=1/\yF2 x.leaf.kind=true then 1 else 0
def fixI(k c:Nat)(x:Ix):Ix:=⟨x.op,if x.op=1/\yF2 x.leaf.kind=true then(c:Int)else x.a,if x.op=5\/x.op=6 then x.b+(k:Int)else x.b,x.free,x.leaf⟩
def absG:Nat->Nat->List Ix->List Ix
 |_,_,[]=> []
 |k,c,x::r=>fixI k c x::absG (k+1) (c+cntI x) r
def cntL:List Ix->Nat
 | []=>0
 |x::r=>cntI x+cntL r
theorem xBu(hW:Win w b 0 cap [ndP]):Calls prog 124 #[.slice (some ⟨b,0,none⟩) 1 cap] w λr w'=>∃g cp,r=.returned (.slice (some ⟨g,0,none⟩) 1 cp)/\yAj w' w.heap.size g cp [ndP]/\Below w.heap.size w w':=by
 have HT:Hid (∀wx,Below w.heap.size w wx->Calls prog 108 #[.slice (some ⟨b,0,none⟩) 1 cap] wx λr w'=>r=.returned (.int .i64 1)/\w'=wx):=λwx hx=>yFw (xs:= []) (e:=ndP) (hW.below hx);have aa:Hid (Calls prog 109 #[.slice (some ⟨b,0,none⟩) 1 cap] w λr w'=>∃g cp,r=.returned (.slice (some ⟨g,0,none⟩) 0 cp)/\OwnV w' w.heap.size g cp []/\Below w.heap.size w w'):=yFa (ks:= []) (e:=ndP) hW rfl (λk hk=>by cases hk);have HW:Hid (Win w b 0 cap [ndP]):=hW;have ac:1<=cap:=hW.len;have ad:=hW.cap;clear hW;go_enter func124,ntmps124;go_wp2_with fail;refine aa.mono ?_;rintro r w1 ⟨kg,kc,rfl,a9,hb1⟩;have H1:Hid (OwnV w1 w.heap.size kg kc []/\Below w.heap.size w w1):=⟨a9,hb1⟩;clear a9 aa hb1;go_wp2_with fail;go_loopw[5] (λi wr=>i=.int .i64 0/\wr=w1) (λ_ _=>0);case atStart=>exact⟨rfl,rfl⟩
 case round=>
  obtain⟨rfl,rfl⟩:=hrel;go_wp2_with fail;refine(HT.out wr H1.2).mono ?_;rintro r w2 ⟨rfl,a4⟩;rw[a4];clear a4 HT;obtain⟨W3,a0⟩:=qE (wr.alloc (.cells #[.slice (some ⟨b,0,none⟩) 1 cap] 23):World);have H3:Hid (OwnV W3 w.heap.size kg kc []/\Below w.heap.size w W3/\(∀(j:Nat)(v:Value),[Value.slice (some ⟨b,0,none⟩) 1 cap][j]?=some v->W3.cell? ⟨wr.heap.size,j,none⟩=some v)):=by
   have k3:Below wr.heap.size wr W3:=by rw[a0];exact qB
   have o3:OwnV W3 wr.heap.size wr.heap.size 1 [.slice (some ⟨b,0,none⟩) 1 cap]:=by rw[a0];exact yMa wr (Nat.le_refl _) _
   exact⟨H1.1.below k3,H1.2.trans (k3.mono H1.2.size),λj v hv=>o3.cell hv⟩
  go_wp2_with (at_builtin;rw[<-a0];clear a0;refine yCw _ rfl _ _ rfl w.heap.size kg kc 0 wr.heap.size 1 1 [] [.slice (some ⟨b,0,none⟩) 1 cap] rfl rfl rfl rfl H3.1 H3.2.2 (by simp[Value.oneCell']) (by simp) H3.2.1.size ?_);intro g4 a3 w4 a8 a5 ab;have H4:Hid (OwnV w4 w.heap.size g4 a3 [.slice (some ⟨b,0,none⟩) 1 cap]/\Below w.heap.size w w4):=⟨a8,Chg.below H3.2.1 (Chg.of_grown (S:=λk=>k=kg) a5 (λk hk=>by cases hk;rfl)) H3.2.1.size (λk z=>by have:=H1.1.lt;omega)⟩;clear a8 a5 ab;have HJ:Hid (Calls prog 187 #[.slice (some ⟨g4,0,none⟩) 1 a3] w4 λr w'=>∃g' cp',r=.returned (.slice (some ⟨g',0,none⟩) 1 cp')/\yAj w' w4.heap.size g' cp' [ndP]/\Below w4.heap.size w4 w'):=yPx g4 a3 [.slice (some ⟨b,0,none⟩) 1 cap] [[ndP]] w4 (λj u hu=>H4.1.cell hu) H4.1.lt.2 rfl (λj u y hu hy=>by
   obtain rfl:j=0:=by
    have:=(List.getElem?_eq_some_iff.1 hu).1
    simp at this
    exact this
   cases hu
   cases hy
   have hw:=HW.below H4.2
   exact⟨.inr ⟨b,0,cap,rfl,hw.at_,hw.lt,hw.len,hw.cap⟩,by simp⟩) (by simp) (by simp)
  go_wp2_with fail;refine HJ.mono ?_;rintro r w5 ⟨g5,cp5,rfl,a7,a6⟩;have H5:Hid (yAj w5 w.heap.size g5 cp5 [ndP]/\Below w.heap.size w w5):=⟨a7.mono H4.2.size,H4.2.trans (a6.mono H4.2.size)⟩;clear a7 a6 HJ;go_wp2_with fail;go_ret;exact⟨g5,cp5,rfl,H5.out⟩
theorem yNf(h:yAj w base g cp [ndP])(hc:cp<=281474976710656):Calls prog 63 #[.agg #[.slice (some ⟨g,0,none⟩) 1 cp]] w λr w'=>∃g' cp',r=.returned (.agg #[.slice (some ⟨g',0,none⟩) 1 cp'])/\yAj w' w.heap.size g' cp' [ndP]/\Below w.heap.size w w':=by
 have a8:=h.lt.2;obtain⟨W0,a0⟩:=qE ((w.alloc (.cells #[.slice (some ⟨g,0,none⟩) 1 cp] 25)).alloc (.cells #[.slice none 0 0] 25):World);have HK:Hid (∀wx,Below W0.heap.size W0 wx->yA wx w.heap.size 25 1 w.heap.size [.slice (some ⟨g,0,none⟩) 1 cp]/\yA wx w.heap.size 25 1 (w.heap.size+1) [.slice none 0 0]/\yAj wx base g cp [ndP]/\Below w.heap.size w wx):=λwx hx=>by
  obtain⟨A,hA⟩:=qE (w.alloc (.cells #[.slice (some ⟨g,0,none⟩) 1 cp] 25):World);have zA:A.heap.size=w.heap.size+1:=by rw[hA];simp
  have bA:yA A w.heap.size 25 1 w.heap.size [.slice (some ⟨g,0,none⟩) 1 cp]:=by rw[hA];exact yAa w _ (Nat.le_refl _) rfl
  have kA:Below w.heap.size w A:=by rw[hA];exact qB
  rw[<-hA]at a0;have k0:Below A.heap.size A W0:=by rw[a0];exact qB
  have b0:yA W0 w.heap.size 25 1 (w.heap.size+1) [.slice none 0 0]:=by rw[a0,<-zA];exact yAa A _ (by omega) rfl
  have hb:=(kA.trans (k0.mono kA.size)).trans (hx.mono (Nat.le_trans kA.size k0.size));exact⟨(bA.below k0).below hx,b0.below hx,h.below hb a8,hb⟩
 have HF:Hid (Calls prog 26 #[.agg #[.slice (some ⟨g,0,none⟩) 1 cp]] W0 λe w'=>e=.returned (.bool true)/\Below W0.heap.size W0 w'):=yEe (HK.out W0 (Below.refl _ _)).2.2.1;clear h;go_enter func63,ntmps63;go_upto_region 1 with fail;rw[<-a0];clear a0;have c0:=(HK.out W0 (Below.refl _ _)).1.cell (j:=0) rfl;go_wp2_with fail;refine HF.mono ?_;rintro e w1 ⟨rfl,hb1⟩;clear HF c0;have c0:=(HK.out w1 hb1).1.cell (j:=0) rfl;obtain⟨W2,a3⟩:=qE (w1.alloc (Obj.cells #[] 35):World);have k2:Below w1.heap.size w1 W2:=by rw[a3];exact qB
 have y:Hid (yAj W2 w1.heap.size w1.heap.size 0 []/\Below W0.heap.size W0 W2):=⟨by rw[a3];exact World.ownsRow_made w1 #[] 0 (Nat.le_refl _) (zero_le _) (by simp),hb1.trans (k2.mono hb1.size)⟩;have HC:Hid (Calls prog 124 #[.slice (some ⟨g,0,none⟩) 1 cp] W2 λr w'=>∃g cp,r=.returned (.slice (some ⟨g,0,none⟩) 1 cp)/\yAj w' W2.heap.size g cp [ndP]/\Below W2.heap.size W2 w'):=by have hO:=(HK.out W2 y.2).2.2.1;exact xBu ⟨hO.at,hO.lt.2,hO.caps.1,by omega,by simp⟩
 have aa:w.heap.size<w1.heap.size:=(HK.out w1 hb1).1.lt.2;have ab:=hb1.size;clear k2;go_wp2_with fail;rw[<-a3];clear a3;refine HC.mono ?_;rintro e w3 ⟨vb,vc,rfl,a6,hb3⟩;have H3:Hid (yAj w3 w1.heap.size w1.heap.size 0 []/\yC w3 vb 0 [ndP]/\Below W0.heap.size W0 w3/\w1.heap.size<=w3.heap.size):=⟨y.1.below hb3 y.1.lt.2,a6.at,y.2.trans (hb3.mono y.2.size),by have:=y.1.lt.2;have:=hb3.size;omega⟩;clear a6 hb3 HC c0;go_wp2_with (at_builtin;refine yAi _ rfl _ _ rfl w1.heap.size w1.heap.size 0 0 vb 0 1 vc [] [ndP] rfl rfl rfl rfl H3.1 H3.2.1 (by simp) H3.2.2.2 ?_);intro g' cp' w' a7 a4 a9;have a5:Below W0.heap.size W0 w':=H3.2.2.1.grown a4 H3.2.2.1.size (λj hj=>by cases hj;omega);have H5:Hid (yAj (w'.setCell ⟨w.heap.size+1,0,none⟩ (.slice (some ⟨g',0,none⟩) 1 cp')) w.heap.size g' cp' [ndP]/\Below w.heap.size w (w'.setCell ⟨w.heap.size+1,0,none⟩ (.slice (some ⟨g',0,none⟩) 1 cp'))/\yA w' w.heap.size 25 1 (w.heap.size+1) [.slice none 0 0]):=by obtain⟨_,q2,_,q4⟩:=HK.out w' a5;exact⟨yAj.mono (ownsRow_setCell_below a7 (by show w.heap.size+1<_;have:=(HK.out W0 (Below.refl _ _)).2.1.lt.2;omega) _) (by omega),q4.setCell (by show _<=w.heap.size+1;omega) _,q2⟩
 clear a7 a4 a9 a5;have c1:=H5.2.2.cell (j:=0) rfl;have c2:=H5.2.2.frozen 0;go_wp2_with fail;exact bodyPost_ret (v:=.agg #[.slice (some ⟨g',0,none⟩) 1 cp']) (by simp[results,results63,go_sem,c1]) rfl (by exact⟨g',cp',rfl,by simpa using H5.1,by simpa using H5.2.1⟩)
theorem ySo(e:Nd)(w:World):Calls prog 176 #[e.v] w λr w'=>r=.returned (.bool (yF2 e.kind))/\Below w.heap.size w w':=by
 go_enter func176,ntmps176;go_wp2_with fail;all_goals go_ret
 all_goals exact⟨by(have e0:yF2 e.kind=(e.kind==11 || e.kind==12 || e.kind==13):=by simp only[yF2,Bool.decide_or,Bool.or_assoc];rfl);rw[e0];simp_all,qB⟩
theorem yM(w:World)(x:Ix):OwnX (w.alloc (Obj.cells #[.int .i64 x.op,.int .i64 x.a,.int .i64 x.b,.bool x.free,.int .i64 x.leaf.kind,.string x.leaf.s,.bool x.leaf.hi,.string x.leaf.t,.int .u64 x.leaf.lo,.int .u64 x.leaf.up,.int .i64 x.leaf.n] 210)) w.heap.size w.heap.size 1 [x]:=
 World.ownsRow_lit w #[.int .i64 x.op,.int .i64 x.a,.int .i64 x.b,.bool x.free,.int .i64 x.leaf.kind,.string x.leaf.s,.bool x.leaf.hi,.string x.leaf.t,.int .u64 x.leaf.lo,.int .u64 x.leaf.up,.int .i64 x.leaf.n] 1 (Nat.le_refl _) (by decide) rfl
theorem yUw(es:List Ix):∀v∈yCu es,v.oneCell'=true:=by intro v hv;unfold yCu at hv;obtain⟨e,_,h⟩:=mem_flatMap.1 hv;simp only[Ix.ten,mem_cons,List.mem_nil_iff,or_false]at h;rcases h with rfl|rfl|rfl|rfl|rfl|rfl|rfl|rfl|rfl|rfl|rfl<;>rfl
theorem yOe{off:Nat}{es:List Ix}(h:yHh w b off es):∀(j:Nat)(v:Value),(yCu es)[j]?=some v->w.cell? ((⟨b,off,none⟩:Addr).add j)=some v:=by
 intro j v hv;have hj:=(List.getElem?_eq_some_iff.1 hv).1;rw[yE8]at hj;obtain⟨e,he⟩:∃e,es[j/11]?=some e:=⟨_,getElem?_eq_getElem (by omega)⟩;have h1:=yLl es (j/11) e he (j%11) (mod_lt _ (by decide));have ej:j/11*11+j%11=j:=by omega
 rw[ej,hv]at h1;obtain⟨d0,d1,d2,d3,d4,d5,d6,d7,d8,d9,y⟩:=h (j/11) e he;rw[Addr.add_mid,show off+j=off+j/11*11+j%11 by omega];have hm:j%11<11:=mod_lt _ (by omega);generalize j%11=m at*;match m,hm,h1 with
 |0,_,hg=>rw[Nat.add_zero,d0,hg];rfl
 |1,_,hg=>rw[d1,hg];rfl
 |2,_,hg=>rw[d2,hg];rfl
 |3,_,hg=>rw[d3,hg];rfl
 |4,_,hg=>rw[d4,hg];rfl
 |5,_,hg=>rw[d5,hg];rfl
 |6,_,hg=>rw[d6,hg];rfl
 |7,_,hg=>rw[d7,hg];rfl
 |8,_,hg=>rw[d8,hg];rfl
 |9,_,hg=>rw[d9,hg];rfl
 |10,_,hg=>rw[y,hg];rfl
structure Lst(w:World)(g:Nat)(X:List Ix):Prop where
 at_:yHh w g 0 X
 lt:g<w.heap.size
variable {X:List Ix}
theorem OwnX.lst(h:OwnX w base g cap X):Lst w g X:=⟨h.at,h.lt.2⟩
structure AppX(w w':World)(base:Nat)(v v':Value)(X Y:List Ix):Prop where
 own:RowX w' base v' (X++Y)
 grown:w.grownBy w' v.ownBlock
 at_:v'.ownBlock=v.ownBlock\/v'.ownBlock=some w.heap.size
theorem yG8(l m:List Ix):yCu (l++m)=yCu l++yCu m:=by simp[yCu]
theorem yHj{rest:List Oper}{o:Oper}(w:World)(hgd:o.guard=none)(s x:Operand)
  (ho:o.op=.call {callee:=.builtin .append,args:=#[s,x],argTypes:=#[75,75]})
  (base:Nat) (v:Value) (b off m cx:Nat) (fs es:List Ix) (hs:a.eval s=v) (hx:a.eval x=.slice (some ⟨b,off,none⟩) m cx) (hm:m=es.length) (hO:RowX w base v fs)
  (hc:yHh w b off es) (hlen:fs.length+es.length<=2^30) (hbase:base<=w.heap.size)
  (h:∀v' w',AppX w w' base v v' fs es->wpList prog ops Q rest (a.put o.dst v') w'):wpList prog ops Q (o::rest) a w:=by
 subst hm;obtain⟨i,hi,a3,a0,y⟩:=info_parts Tryz.infoX;refine wpList_append_own_at w hgd s x 75 ho base 210 i _ 11 104 underlying75 hi a3 a0 y rfl (by decide) v fs.length (yCu fs) hs hO ⟨b,off,none⟩ es.length cx (yCu es) hx (yE8 es) (yOe hc) (yUw es) ?_ ?_ hbase ?_
 .unfold maxLen;omega
 .omega
 .intro v' w' a6 a4 a7 a5;exact h v' w' ⟨by unfold RowX;rw[length_append,yG8];exact a6,a4,a5⟩
theorem yI7{K:Act->World->Prop}{E:Prop}(w:World)(hgd:oo.guard=none)(s x:Operand)
  (ho:oo.op=.call {callee:=.builtin .append,args:=#[s,x],argTypes:=#[75,75]})
  (base:Nat) (v:Value) (b off m cx:Nat) (fs es:List Ix) (hs:a.eval s=v) (hx:a.eval x=.slice (some ⟨b,off,none⟩) m cx) (hm:m=es.length) (hO:RowX w base v fs)
  (hc:yHh w b off es) (hlen:fs.length+es.length<=2^30) (hbase:base<=w.heap.size)
  (h:∀v' w',AppX w w' base v v' fs es->K (a.put oo.dst v') w'):if Region.wanted oo (yielded ops a.tmps)=true then Oper.wp prog oo a w K Q else E:=by
 have hw:Region.wanted oo (yielded ops a.tmps)=true:=by simp[Region.wanted,hgd]
 rw[if_pos hw];subst hm;obtain⟨i,hi,a3,a0,y⟩:=info_parts Tryz.infoX;obtain⟨v',w',hr,a6,a4,a7,a5⟩:=run_append_own_at (P:=prog) w base 75 oo.type 210 i _ 11 104 underlying75 hi a3 a0 y rfl (by decide) v fs.length (yCu fs) hO ⟨b,off,none⟩ es.length cx (yCu es) (yE8 es) (yOe hc) (yUw es) (by unfold maxLen;omega) (by omega) hbase;have hfin:=h v' w' ⟨by unfold RowX;rw[length_append,yG8];exact a6,a4,a5⟩;exact yS4
theorem ySb(op:Int)(w:World):Calls prog 183 #[.int .i64 op] w λr w'=>r=.returned (.bool (op==5 || op==6))/\w'=w:=by
 go_enter func183,ntmps183;go_wp2_with fail;all_goals go_ret
 all_goals simp_all
theorem xCy(hW:Win w b 0 cap [ndP]):Calls prog 123 #[.slice (some ⟨b,0,none⟩) 1 cap,.bool false,.int .i64 0] w λr w'=>∃g,r=.returned (.slice (some ⟨g,0,none⟩) 1 1)/\Lst w' g [ixP]/\Below w.heap.size w w':=by have HT:Hid (∀wx,Below w.heap.size w wx->Calls prog 108 #[.slice (some ⟨b,0,none⟩) 1 cap] wx λr w'=>r=.returned (.int .i64 1)/\w'=wx):=λwx hx=>yFw (xs:= []) (e:=ndP) (hW.below hx);have a0:Hid (Calls prog 109 #[.slice (some ⟨b,0,none⟩) 1 cap] w λr w'=>∃g cp,r=.returned (.slice (some ⟨g,0,none⟩) 0 cp)/\OwnV w' w.heap.size g cp []/\Below w.heap.size w w'):=yFa (ks:= []) (e:=ndP) hW rfl (λk hk=>by cases hk);have HW:Hid (Win w b 0 cap [ndP]):=hW;have a5:=hW.cap;have a4:1<=cap:=hW.len;clear hW;go_enter func123,ntmps123;go_wp2_with fail;refine a0.mono ?_;rintro r w1 ⟨kg,kc,rfl,hO,hb1⟩;have s1:=hb1.size;clear hO a0;go_wp2_with fail;refine(HT.out w1 hb1).mono ?_;rintro r a3 ⟨rfl,y⟩;rw[y];clear y;obtain⟨d0,d1,d2,d3,d4,d5,d6⟩:=((HW.below hb1).at_) 0 ndP rfl;simp only[Nat.zero_mul,Nat.zero_add]at d0 d1 d2 d3 d4 d5 d6;have HR:Hid (Lst (w1.alloc (Obj.cells #[.int .i64 1,.int .i64 0,.int .i64 0,.bool true,.int .i64 1,.string ⟨#[]⟩,.bool false,.string ⟨#[]⟩,.int .u64 0,.int .u64 0,.int .i64 0] 210)) w1.heap.size [ixP]):=(yM w1 ixP).lst;go_wp2_with fail;go_ret;exact⟨_,rfl,HR.out,hb1.alloc s1 _⟩
theorem yZc{gb cb:Nat}(hW:Win w b 0 cap [ndP]):Calls prog 121 #[.slice (some ⟨b,0,none⟩) 1 cap,.slice (some ⟨gb,0,none⟩) 0 cb,.bool false,.int .i64 0] w λr w'=>∃g,r=.returned (.slice (some ⟨g,0,none⟩) 0 0)/\Below w.heap.size w w':=by
 have HT:Hid (∀wx,Below w.heap.size w wx->Calls prog 108 #[.slice (some ⟨b,0,none⟩) 1 cap] wx λr w'=>r=.returned (.int .i64 1)/\w'=wx):=λwx hx=>yFw (xs:= []) (e:=ndP) (hW.below hx);have a3:Hid (Calls prog 109 #[.slice (some ⟨b,0,none⟩) 1 cap] w λr w'=>∃g cp,r=.returned (.slice (some ⟨g,0,none⟩) 0 cp)/\OwnV w' w.heap.size g cp []/\Below w.heap.size w w'):=yFa (ks:= []) (e:=ndP) hW rfl (λk hk=>by cases hk);clear hW;go_enter func121,ntmps121;go_wp2_with fail;refine a3.mono ?_;rintro r w1 ⟨kg,kc,rfl,hO,hb1⟩;have s1:=hb1.size;clear hO a3;obtain⟨W1,y⟩:=qE (w1.alloc (Obj.cells #[] 77):World);have j1:Below w.heap.size w W1:=by rw[y];exact hb1.alloc s1 _
 go_upto_region 3 with fail;rw[<-y];clear y;go_wp2_with fail;refine(HT.out W1 j1).mono ?_;rintro r a4 ⟨rfl,a0⟩;rw[a0];clear a0;go_wp2_with fail;go_ret;exact⟨_,rfl,j1⟩
structure BkJ(w:World)(v:Value)(X:List Ix)(wr:World):Prop where
 res:yA wr w.heap.size 77 2 w.heap.size [.slice none 0 0,.int .i64 0]
 box:yA wr w.heap.size 77 2 (w.heap.size+1) [v,.int .i64 0]
 row:RowX wr (w.heap.size+2) v X
 below:Below w.heap.size w wr
theorem BkJ.on{v:Value}(h:BkJ w v X wr)(hb:Below wr.heap.size wr W):BkJ w v X W:=⟨h.res.below hb,h.box.below hb,h.row.below hb,h.below.trans (hb.mono h.below.size)⟩
theorem yZi(hX:Lst w b [ixP]):Calls prog 122 #[.slice (some ⟨b,0,none⟩) 1 cap] w λr w'=>∃g cp,r=.returned (.agg #[.slice (some ⟨g,0,none⟩) 1 cp,.int .i64 0])/\OwnX w' (w.heap.size+2) g cp [ixP]/\Below w.heap.size w w':=by
 obtain⟨W0,y⟩:=qE ((w.alloc (.cells #[.slice none 0 0,.int .i64 0] 77)).alloc (.cells #[.slice none 0 0,.int .i64 0] 77):World);have H0:Hid (BkJ w (.slice none 0 0) [] W0):=by
  obtain⟨A,hA⟩:=qE (w.alloc (.cells #[.slice none 0 0,.int .i64 0] 77):World);have zA:A.heap.size=w.heap.size+1:=by rw[hA];simp
  have bA:yA A w.heap.size 77 2 w.heap.size [.slice none 0 0,.int .i64 0]:=by rw[hA];exact yAa w _ (Nat.le_refl _) rfl
  have kA:Below w.heap.size w A:=by rw[hA];exact qB
  rw[<-hA]at y;have k0:Below A.heap.size A W0:=by rw[y];exact qB
  exact⟨bA.below k0,by rw[y,<-zA];exact yAa A _ (by omega) rfl,⟨rfl,.inl ⟨rfl,rfl⟩⟩,kA.trans (k0.mono kA.size)⟩
 have HX:Hid (∀wx,Below w.heap.size w wx->PcAt wx b 1):=λwx hx=>PcAt.below ⟨hX.at_,hX.lt,by decide,by unfold maxLen;omega⟩ hx;clear hX;go_enter func122,ntmps122;go_upto_region 2 with fail;rw[<-y];clear y;go_wp2_with fail;go_loopw[4] (λiv wr=>(iv=.int .i64 0/\Hid (BkJ w (.slice none 0 0) [] wr))\/(∃g cp,iv=.int .i64 1/\Hid (BkJ w (.slice (some ⟨g,0,none⟩) 1 cp) [ixP] wr))) (λiv _=>1-(intOf iv).toNat);case atStart=>exact .inl ⟨rfl,H0⟩
 case round=>
  clear H0;obtain(⟨rfl,HJ⟩|⟨g,cp,rfl,HJ⟩):=hrel
  .obtain⟨d0,d1,d2,d3,d4,d5,d6,d7,d8,d9,a3⟩:=yQ2 (HX.out wr HJ.below);have ae:=(HX.out wr HJ.below).lt;obtain⟨W3,a5⟩:=qE (wr.alloc (.cells elP.toArray 210):World);obtain⟨X,hX⟩:=qE wr.heap.size;have HK:Hid (∀wx,Below W3.heap.size W3 wx->BkJ w (.slice none 0 0) [] wx/\yA wx wr.heap.size 210 11 X elP):=λwx hx=>by
    have k3:Below wr.heap.size wr W3:=by rw[a5];exact qB
    exact⟨(HJ.on k3).on hx,(show yA W3 wr.heap.size 210 11 X elP by rw[a5,hX];exact yAa wr _ (Nat.le_refl _) rfl).below hx⟩
   go_upto_region 6 with fail;rw[<-hX,<-a5];clear a5 hX d0 d1 d2 d3 d4 d5 d6 d7 d8 d9 a3 ae;obtain⟨d0,d1,d2,d3,d4,d5,d6,d7,d8,d9,a3⟩:=yC8 (HK.out W3 (Below.refl _ _)).2;have ac:Hid (Calls prog 183 #[.int .i64 1] W3 λr w'=>r=.returned (.bool false)/\w'=W3):=ySb 1 W3;go_wp2_with fail;refine ac.mono ?_;rintro r w4 ⟨rfl,ab⟩;rw[ab];clear ab ac;have HC:Hid (Calls prog 176 #[.agg #[.int .i64 1,.string ⟨#[]⟩,.bool false,.string ⟨#[]⟩,.int .u64 0,.int .u64 0,.int .i64 0]] W3 λe w'=>e=.returned (.bool false)/\Below W3.heap.size W3 w'):=ySo ndP W3;go_wp2_with fail;refine HC.mono ?_;rintro r w4 ⟨rfl,a7⟩;clear HC d0 d1 d2 d3 d4 d5 d6 d7 d8 d9 a3;obtain⟨d0,d1,d2,d3,d4,d5,d6,d7,d8,d9,a3⟩:=yC8 (HK.out w4 a7).2;have b0:=(HK.out w4 a7).1.box.cell (j:=0) rfl;obtain⟨W5,a4⟩:=qE (w4.alloc (.cells elP.toArray 210):World);have H5:Hid (BkJ w (.slice none 0 0) [] W5/\yHh W5 w4.heap.size 0 [ixP]):=by
    have k5:Below w4.heap.size w4 W5:=by rw[a4];exact qB
    exact⟨(HK.out w4 a7).1.on k5,by rw[a4];exact(yM w4 ixP).at⟩
   have ad:w.heap.size+2<=W5.heap.size:=by have:=H5.1.box.lt.2;omega
   go_wp2_with (at_builtin;rw[<-a4];clear a4;refine yHj _ rfl _ _ rfl (w.heap.size+2) (.slice none 0 0) w4.heap.size 0 1 1 [] [ixP] rfl rfl rfl H5.1.row H5.2 (by simp) ad ?_);intro v6 w6 a0;obtain⟨g,cp,rfl,hO⟩:∃g cp,v6=.slice (some ⟨g,0,none⟩) 1 cp/\OwnX w6 (w.heap.size+2) g cp [ixP]:=by
    rcases RowX.cases a0.own with⟨_,q⟩|q
    .cases q
    .exact q
   obtain⟨W7,a9⟩:=qE (w6.setCell ⟨w.heap.size+1,0,none⟩ (.slice (some ⟨g,0,none⟩) 1 cp):World);have H6:Hid (yA w6 w.heap.size 77 2 (w.heap.size+1) [.slice none 0 0,.int .i64 0]/\BkJ w (.slice (some ⟨g,0,none⟩) 1 cp) [ixP] W7):=by
    have a6:Chg (λ_=>False) W5 w6:=Chg.of_grown a0.grown (λj hj=>by cases hj);have hs:Chg (λk=>k=w.heap.size+1) w6 W7:=by rw[a9];exact Chg.of_set _ _ _ _ rfl
    obtain⟨q1,q2,_,q4⟩:=H5.1;have r4:=Chg.below q4 a6 q4.size (λk z=>z.elim);have aa:=q2.chg a6 (λz=>z);exact⟨aa,(q1.chg a6 (λz=>z)).chg hs (by omega),by rw[a9];exact aa.set 0 _,a0.own.chg hs (λj hj z=>by have:=(a0.own.blk hj).1;omega),Chg.below r4 hs r4.size (λk z=>by omega)⟩
   clear a0 hO d0 d1 d2 d3 d4 d5 d6 d7 d8 d9 a3 b0;have b0:=H6.1.cell (j:=0) rfl;have f0:=H6.1.frozen 0;go_wp2_with fail;rw[<-a9];go_roundw;case rel=>exact .inr ⟨g,cp,by first|rfl|go_num,H6.2⟩
   case measure=>simp[intOf]
  .obtain⟨b0,b1⟩:=HJ.box.c2;obtain⟨r0,r1⟩:=HJ.res.c2;obtain⟨f0,f1⟩:=HJ.res.f2;obtain⟨W9,a8⟩:=qE ((wr.setCell ⟨w.heap.size,0,none⟩ (.slice (some ⟨g,0,none⟩) 1 cp)).setCell ⟨w.heap.size,1,none⟩ (.int .i64 0):World);have H9:Hid (yA W9 w.heap.size 77 2 w.heap.size [.slice (some ⟨g,0,none⟩) 1 cp,.int .i64 0]/\OwnX W9 (w.heap.size+2) g cp [ixP]/\Below w.heap.size w W9):=by
    have hs:Chg (λk=>k=w.heap.size) wr W9:=by rw[a8];exact(Chg.of_set (S:=λk=>k=w.heap.size) _ _ _ _ rfl).trans (Chg.of_set (S:=λk=>k=w.heap.size) _ _ _ _ rfl)
    exact⟨by rw[a8];exact(HJ.res.set 0 _).set 1 _,HJ.row.chg hs (λj hj z=>by have:=(HJ.row.blk hj).1;omega),Chg.below HJ.below hs HJ.below.size (λk z=>by omega)⟩
   go_wp2_with fail;rw[<-a8];obtain⟨q0,q1⟩:=H9.1.c2;exact bodyPost_ret (v:=.agg #[.slice (some ⟨g,0,none⟩) 1 cp,.int .i64 0]) (by simp[results,results122,go_sem,q0,q1]) rfl ⟨g,cp,rfl,H9.2⟩
theorem PcAt.chg{S:Nat->Prop}(h:PcAt w gi ci)(hc:Chg S w w')(hn:¬S gi):PcAt w' gi ci:=⟨h.ixs.chg hc h.lt hn,by have:=hc.size;have:=h.lt;omega,h.cap⟩
theorem OwnX.pc(h:OwnX w base g cp [ixP]):PcAt w g cp:=⟨h.at,h.lt.2,h.caps⟩
theorem yL5(h:yAj w base g cp [ndP]):Calls prog 62 #[.agg #[.slice (some ⟨g,0,none⟩) 1 cp]] w λr w'=>∃gc gi ci,r=.returned (.agg #[.slice (some ⟨gc,0,none⟩) 0 0,.slice (some ⟨gi,0,none⟩) 1 ci,.int .i64 0])/\PcAt w' gi ci/\Below w.heap.size w w':=by
 have af:=h.lt.2;obtain⟨W0,y⟩:=qE ((w.alloc (Obj.cells #[.slice (some ⟨g,0,none⟩) 1 cp] 25)).alloc (Obj.cells #[.slice none 0 0,.slice none 0 0,.int .i64 0] 79):World);have ab:Below w.heap.size w W0:=by rw[y];exact(qB).alloc (by simp) _
 have ai:W0.heap.size=w.heap.size+1+1:=by rw[y];simp
 have HK:Hid (∀wx,Below W0.heap.size W0 wx->wx.cell? ⟨w.heap.size,0,none⟩=some (.slice (some ⟨g,0,none⟩) 1 cp)/\yA wx (w.heap.size+1) 79 3 (w.heap.size+1) [.slice none 0 0,.slice none 0 0,.int .i64 0]/\yAj wx base g cp [ndP]/\Below w.heap.size w wx/\w.heap.size+2<=wx.heap.size):=by
  intro wx hx;refine⟨?_,?_,(h.below ab af).below hx (by omega),ab.trans (hx.mono (by omega)),by have:=hx.size;omega⟩
  .rw[hx.cell (p:=⟨w.heap.size,0,none⟩) (by show w.heap.size<_;omega),y];simp[go_sem]
  .refine yA.below ?_ hx;rw[y];have z1:(w.alloc (Obj.cells #[.slice (some ⟨g,0,none⟩) 1 cp] 25)).heap.size=w.heap.size+1:=by simp
   have hb2:=yAa (w.alloc (Obj.cells #[.slice (some ⟨g,0,none⟩) 1 cp] 25)) (base:=w.heap.size+1) (t:=79) (sz:=3) #[.slice none 0 0,.slice none 0 0,.int .i64 0] (by rw[z1];exact Nat.le_refl _) rfl;rw[z1]at hb2;exact hb2
 have HF:Hid (Calls prog 26 #[.agg #[.slice (some ⟨g,0,none⟩) 1 cp]] W0 λe w'=>e=.returned (.bool true)/\Below W0.heap.size W0 w'):=yEe (HK.out W0 (Below.refl _ _)).2.2.1;clear h;have c0:=(HK.out W0 (Below.refl _ _)).1;go_enter func62,ntmps62;go_upto_region 1 with fail;rw[<-y];clear y;go_wp2_with fail;refine HF.mono ?_;rintro e w1 ⟨rfl,hb1⟩;clear c0 HF;have c0:=(HK.out w1 hb1).1;have ad:Hid (∀wx,Below W0.heap.size W0 wx->Win wx g 0 cp [ndP]):=λwx hx=>by have hO:=(HK.out wx hx).2.2.1;exact⟨hO.at,hO.lt.2,hO.caps.1,by have:=hO.caps.2;unfold maxLen at this;omega,by simp⟩
 obtain⟨V1,a8⟩:=qE ((w1.alloc (Obj.cells #[] 210)).drew:World);have ag:Below w1.heap.size w1 V1:=by rw[a8];exact(qB).drew
 have a6:Below W0.heap.size W0 V1:=hb1.trans (ag.mono hb1.size);have ae:Hid (Calls prog 121 #[.slice (some ⟨g,0,none⟩) 1 cp,.slice (some ⟨w1.heap.size,0,none⟩) 0 0,.bool false,.int .i64 0] V1 λr w'=>∃g,r=.returned (.slice (some ⟨g,0,none⟩) 0 0)/\Below V1.heap.size V1 w'):=yZc (ad.out V1 a6);have a0:SW (λw':World=>w'.cell? ⟨w.heap.size,0,none⟩=some (.slice (some ⟨g,0,none⟩) 1 cp)) w1.drew:=c0;go_upto_region 3 with fail;refine wpR 99 a0 ?_;refine tk1a 0 a0 ?_;refine tk1b a0 ?_;refine tk1a 4 a0 ?_;refine tk1b a0 ?_;refine qO 2 rfl λK hK=>?_;go_simp;rw[<-a8];have d0:V1.cell? ⟨w.heap.size,0,none⟩=some (.slice (some ⟨g,0,none⟩) 1 cp):=(HK.out V1 a6).1;clear a8;refine hK.out _ _ (.inr d0) (tkS ?_);clear hK;refine qO 3 rfl λK hK=>?_;go_simp;go_at_call 121;refine ae.mono ?_;rintro r v2 ⟨g2,rfl,hb2⟩;have a5:Below W0.heap.size W0 v2:=a6.trans (hb2.mono a6.size);have d2:v2.cell? ⟨w.heap.size,0,none⟩=some (.slice (some ⟨g,0,none⟩) 1 cp):=(HK.out v2 a5).1;refine hK.out _ _ (.inr d2) (tkS ?_);clear hK;refine qO 6 rfl λK hK=>?_;go_simp;go_at_call 123;refine(xCy (ad.out v2 a5)).mono ?_;rintro r v3 ⟨g3,rfl,ac,hb3⟩;have a4:Below W0.heap.size W0 v3:=a5.trans (hb3.mono a5.size);have d3:v3.cell? ⟨w.heap.size,0,none⟩=some (.slice (some ⟨g,0,none⟩) 1 cp):=(HK.out v3 a4).1;refine hK.out _ _ (.inr d3) (tkS ?_);clear hK;refine qO 7 rfl λK hK=>?_;go_simp;go_at_call 122;refine(yZi ac).mono ?_;rintro r v4 ⟨g4,c4,rfl,a9,ah⟩;have a3:Below W0.heap.size W0 v4:=a4.trans (ah.mono a4.size);have d4:v4.cell? ⟨w.heap.size,0,none⟩=some (.slice (some ⟨g,0,none⟩) 1 cp):=(HK.out v4 a3).1;have aa:Hid (yA v4 (w.heap.size+1) 79 3 (w.heap.size+1) [.slice none 0 0,.slice none 0 0,.int .i64 0]):=(HK.out v4 a3).2.1;have HX:Hid (PcAt v4 g4 c4/\¬g4=w.heap.size+1/\Below w.heap.size w v4):=⟨a9.pc,by have:=a9.lt.1;have:=a4.size;omega,(HK.out v4 a3).2.2.2.1⟩;clear a9 ac ae d0 d2 d3;refine hK.out _ _ (.inr d4) (tkS ?_);clear hK;refine tk1a 8 d4 ?_;obtain⟨f0,f1,f2⟩:=aa.c3;obtain⟨z0,z1,z2⟩:=aa.f3;obtain⟨V5,a7⟩:=qE ((((v4.setCell ⟨w.heap.size+1,0,none⟩ (.slice (some ⟨g2,0,none⟩) 0 0)).setCell ⟨w.heap.size+1,1,none⟩ (.slice (some ⟨g4,0,none⟩) 1 c4)).setCell ⟨w.heap.size+1,2,none⟩ (.int .i64 0)):World);have h9:Chg (λb=>b=w.heap.size+1) v4 V5:=by rw[a7];exact(((Chg.of_set (S:=λb=>b=w.heap.size+1) v4 (w.heap.size+1) 0 _ rfl).trans (Chg.of_set (S:=λb=>b=w.heap.size+1) _ (w.heap.size+1) 1 _ rfl)).trans (Chg.of_set (S:=λb=>b=w.heap.size+1) _ (w.heap.size+1) 2 _ rfl))
 have HB:Hid (yA V5 (w.heap.size+1) 79 3 (w.heap.size+1) [.slice (some ⟨g2,0,none⟩) 0 0,.slice (some ⟨g4,0,none⟩) 1 c4,.int .i64 0]):=by rw[a7];exact((aa.set 0 _).set 1 _).set 2 _
 have D5:Hid (V5.cell? ⟨w.heap.size,0,none⟩=some (.slice (some ⟨g,0,none⟩) 1 cp)):=by show _=_;rw[h9.cell (p:=⟨w.heap.size,0,none⟩) (by show w.heap.size<_;have:=a3.size;omega) (by show¬w.heap.size=w.heap.size+1;omega)];exact d4
 have HG:Hid (PcAt V5 g4 c4/\Below w.heap.size w V5):=⟨HX.1.chg h9 HX.2.1,Chg.below HX.2.2 h9 HX.2.2.size (λk hk=>by omega)⟩;refine qO 9 rfl λK hK=>?_;go_simp;rw[<-a7];clear a7 h9;refine hK.out _ _ (.inr D5.out) (tkS ?_);clear hK;refine qD ?_;clear f0 f1 f2 z0 z1 z2 d4;go_wp2_with fail;obtain⟨e0,e1,e2⟩:=HB.c3;exact bodyPost_ret (v:=.agg #[.slice (some ⟨g2,0,none⟩) 0 0,.slice (some ⟨g4,0,none⟩) 1 c4,.int .i64 0]) (by simp[results,results62,go_sem,e0,e1,e2]) rfl ⟨g2,g4,c4,rfl,HG.out⟩
theorem yM9(w:World)(a b:Obj):Below w.heap.size w ((w.alloc a).alloc b):=(qB).alloc (by simp) _
theorem yLv(w:World)(a b c:Obj):Below w.heap.size w (((w.alloc a).alloc b).alloc c):=(yM9 w a b).alloc (by simp;omega) _
theorem xBr(c:Ent)(w:World):Calls prog 175 #[ndP.v,c.c] w λe w'=>e=.returned (.bool true)/\Below w.heap.size w w':=by go_enter func175,ntmps175;go_wp2_with fail;go_ret;exact⟨rfl,yM9 w _ _⟩
theorem xBn(c:Ent)(w:World):Calls prog 119 #[.agg #[.bool true,.bool false,.int .i64 0,.string ⟨#[]⟩],c.c] w λe w'=>e=.returned c.c/\Below w.heap.size w w':=by go_enter func119,ntmps119;go_wp2_with fail;refine bodyPost_ret (v:=c.c) (by simp[results,results119,go_sem]) rfl ⟨rfl,?_⟩;exact yLv w _ _ _
theorem yY6(w:World):Calls prog 117 #[.int .i64 0] w λe w'=>∃g,e=.returned (.slice (some ⟨g,0,none⟩) 0 0)/\Below w.heap.size w w':=by
 obtain⟨W1,y⟩:=qE (w.alloc (Obj.cells #[] 261):World);have hb1:Below w.heap.size w W1:=by rw[y];exact qB
 go_enter func117,ntmps117;go_upto_region 2 with fail;rw[<-y];clear y;go_wp2_with fail;go_loopw[3,4] (λov iv wr=>ov=.slice (some ⟨w.heap.size,0,none⟩) 0 0/\iv=.int .i64 0/\wr=W1) (λ_ _ _=>0);case atStart=>exact⟨rfl,rfl,rfl⟩
 case round=>obtain⟨rfl,rfl,rfl⟩:=hrel;go_wp2_with fail;go_ret;exact⟨_,rfl,hb1⟩
abbrev itP:List Value:= [.bool true,.bool false,.int .i64 0,.string ⟨#[]⟩]
abbrev itPv:Value:=.agg #[.bool true,.bool false,.int .i64 0,.string ⟨#[]⟩]
structure LkS(w:World)(gi ci:Nat)(x:Ent)(wr:World):Prop where
 blk:yA wr w.heap.size 77 2 w.heap.size [.slice (some ⟨gi,0,none⟩) 1 ci,.int .i64 0]
 cel:yA wr w.heap.size 73 5 (w.heap.size+1) x.five
 res:yA wr w.heap.size 184 4 (w.heap.size+1+1) [.bool false,.bool false,.int .i64 0,.string ⟨#[]⟩]
 top:yA wr w.heap.size 184 4 (w.heap.size+1+1+1) itP
 pc:PcAt wr gi ci
 below:Below w.heap.size w wr
theorem LkS.on{x:Ent}(h:LkS w gi ci x wr)(hb:Below wr.heap.size wr W):LkS w gi ci x W:=
 ⟨h.blk.below hb,h.cel.below hb,h.res.below hb,h.top.below hb,h.pc.below hb,h.below.trans (hb.mono h.below.size)⟩
theorem LkS.chg{x:Ent}(h:LkS w gi ci x wr){S:Nat->Prop}(hc:Chg S wr W)(hs:∀k,S k->w.heap.size+1+1+1<=k)(hg:gi<w.heap.size)(ht:yA W w.heap.size 184 4 (w.heap.size+1+1+1) itP):LkS w gi ci x W:=
 ⟨h.blk.chg hc (λq=>by have:=hs _ q;omega),h.cel.chg hc (λq=>by have:=hs _ q;omega),h.res.chg hc (λq=>by have:=hs _ q;omega),ht,h.pc.chg hc (λq=>by have:=hs _ q;omega),Chg.below h.below hc h.below.size (λk q=>by have:=hs _ q;omega)⟩
theorem yYz(hP:PcAt w gi ci)(x:Ent):LkS w gi ci x ((((w.alloc (Obj.cells #[.slice (some ⟨gi,0,none⟩) 1 ci,.int .i64 0] 77)).alloc (Obj.cells #[.string x.row,.string x.fam,.string x.qual,.int .u64 x.ts,.string x.val] 73)).alloc (Obj.cells #[.bool false,.bool false,.int .i64 0,.string ⟨#[]⟩] 184)).alloc (Obj.cells #[.bool true,.bool false,.int .i64 0,.string ⟨#[]⟩] 184)):=by
 obtain⟨A,hA⟩:=qE (w.alloc (Obj.cells #[.slice (some ⟨gi,0,none⟩) 1 ci,.int .i64 0] 77):World);obtain⟨B,hB⟩:=qE (A.alloc (Obj.cells #[.string x.row,.string x.fam,.string x.qual,.int .u64 x.ts,.string x.val] 73):World);obtain⟨C,hC⟩:=qE (B.alloc (Obj.cells #[.bool false,.bool false,.int .i64 0,.string ⟨#[]⟩] 184):World);obtain⟨D,hD⟩:=qE (C.alloc (Obj.cells #[.bool true,.bool false,.int .i64 0,.string ⟨#[]⟩] 184):World);have zA:A.heap.size=w.heap.size+1:=by rw[hA];simp
 have zB:B.heap.size=w.heap.size+1+1:=by rw[hB];simp[zA]
 have zC:C.heap.size=w.heap.size+1+1+1:=by rw[hC];simp[zB]
 have kA:Below w.heap.size w A:=by rw[hA];exact qB
 have kB:Below A.heap.size A B:=by rw[hB];exact qB
 have kC:Below B.heap.size B C:=by rw[hC];exact qB
 have kD:Below C.heap.size C D:=by rw[hD];exact qB
 have bA:yA A w.heap.size 77 2 w.heap.size [.slice (some ⟨gi,0,none⟩) 1 ci,.int .i64 0]:=by rw[hA];exact yAa w _ (Nat.le_refl _) rfl
 have bB:yA B w.heap.size 73 5 (w.heap.size+1) x.five:=by rw[hB,<-zA];exact yAa A _ (by omega) rfl
 have bC:yA C w.heap.size 184 4 (w.heap.size+1+1) [.bool false,.bool false,.int .i64 0,.string ⟨#[]⟩]:=by rw[hC,<-zB];exact yAa B _ (by omega) rfl
 have bD:yA D w.heap.size 184 4 (w.heap.size+1+1+1) itP:=by rw[hD,<-zC];exact yAa C _ (by omega) rfl
 have kw:Below w.heap.size w D:=((kA.trans (kB.mono (by omega))).trans (kC.mono (by omega))).trans (kD.mono (by omega));rw[<-hA,<-hB,<-hC,<-hD];exact⟨((bA.below kB).below kC).below kD,(bB.below kC).below kD,bC.below kD,bD,hP.below kw,kw⟩
theorem xBx(hP:PcAt w gi ci)(x:Ent)(ca da:Option Addr)(cc dc:Nat):Calls prog 118 #[.agg #[.slice (some ⟨gi,0,none⟩) 1 ci,.int .i64 0],.agg #[.string x.row,.string x.fam,.string x.qual,.int .u64 x.ts,.string x.val],.slice ca 0 cc,.slice da 0 dc] w λe w'=>e=.returned (.tuple #[itPv,.slice ca 0 cc])/\Below w.heap.size w w':=by
 have a9:=hP.lt;have ae:=hP.cap;unfold maxLen at ae;obtain⟨W1,a7⟩:=qE (((((w.alloc (Obj.cells #[.slice (some ⟨gi,0,none⟩) 1 ci,.int .i64 0] 77)).alloc (Obj.cells #[.string x.row,.string x.fam,.string x.qual,.int .u64 x.ts,.string x.val] 73)).alloc (Obj.cells #[.bool false,.bool false,.int .i64 0,.string ⟨#[]⟩] 184)).alloc (Obj.cells #[.bool true,.bool false,.int .i64 0,.string ⟨#[]⟩] 184)):World);have H1:Hid (LkS w gi ci x W1):=by rw[a7];exact yYz hP x
 clear hP;go_enter func118,ntmps118;go_upto_region 2 with fail;rw[<-a7];clear a7;go_wp2_with fail;go_loopw[10,11] (λsv kv wr=>∃(j:Nat),j<=1/\kv=.int .i64 (j:Int)/\sv=.slice (some ⟨w.heap.size+1+1+1,0,none⟩) 1 1/\Hid (LkS w gi ci x wr)) (λ_ kv _=>1-(intOf kv).toNat);case atStart=>exact⟨0,by omega,rfl,rfl,H1⟩
 case round=>
  clear H1;obtain⟨j,hj,rfl,rfl,HJ⟩:=hrel;have c0:=HJ.blk.cell (j:=0) rfl;by_cases hlt:j<1
  .obtain rfl:j=0:=by omega
   obtain⟨d0,d1,d2,d3,d4,d5,d6,d7,d8,d9,aa⟩:=HJ.pc.ixs 0 ixP rfl;simp only[Nat.zero_mul,Nat.zero_add]at d0 d1 d2 d3 d4 d5 d6 d7 d8 d9 aa;obtain⟨t0,t1,t2,t3⟩:=HJ.top.c4;obtain⟨e0,e1,e2,e3,e4⟩:=HJ.cel.c5;have s3:w.heap.size+1+1+1<wr.heap.size:=HJ.top.lt.2;have s1:w.heap.size+1<wr.heap.size:=HJ.cel.lt.2;have ad:w.heap.size+1<wr.heap.size+1:=by omega
   have ac:w.heap.size+1<wr.heap.size+1+1:=by omega
   have ab:w.heap.size+1+1+1<wr.heap.size+1:=by omega
   obtain⟨W4,a0⟩:=qE (((wr.alloc (Obj.cells #[.int .i64 1,.int .i64 0,.int .i64 0,.bool true,.int .i64 1,.string ⟨#[]⟩,.bool false,.string ⟨#[]⟩,.int .u64 0,.int .u64 0,.int .i64 0] 210)).alloc (Obj.cells #[.bool true,.bool false,.int .i64 0,.string ⟨#[]⟩] 184)).alloc (Obj.cells #[.string x.row,.string x.fam,.string x.qual,.int .u64 x.ts,.string x.val] 73):World);obtain⟨P,hP⟩:=qE wr.heap.size;have H4:Hid (LkS w gi ci x W4/\yA W4 w.heap.size 210 11 P ixP.ten/\yA W4 w.heap.size 184 4 (P+1) itP/\yA W4 w.heap.size 73 5 (P+1+1) x.five):=by
    obtain⟨A,hA⟩:=qE (wr.alloc (Obj.cells #[.int .i64 1,.int .i64 0,.int .i64 0,.bool true,.int .i64 1,.string ⟨#[]⟩,.bool false,.string ⟨#[]⟩,.int .u64 0,.int .u64 0,.int .i64 0] 210):World);obtain⟨B,hB⟩:=qE (A.alloc (Obj.cells #[.bool true,.bool false,.int .i64 0,.string ⟨#[]⟩] 184):World);rw[<-hA,<-hB]at a0;have sw:=HJ.below.size;have zA:A.heap.size=P+1:=by rw[hA,hP];simp
    have zB:B.heap.size=P+1+1:=by rw[hB];simp[zA]
    have kA:Below wr.heap.size wr A:=by rw[hA];exact qB
    have kB:Below A.heap.size A B:=by rw[hB];exact qB
    have kC:Below B.heap.size B W4:=by rw[a0];exact qB
    have bA:yA A w.heap.size 210 11 P ixP.ten:=by rw[hA,hP];exact yAa wr _ sw rfl
    have bB:yA B w.heap.size 184 4 (P+1) itP:=by rw[hB,<-zA];exact yAa A _ (by omega) rfl
    have bC:yA W4 w.heap.size 73 5 (P+1+1) x.five:=by rw[a0,<-zB];exact yAa B _ (by omega) rfl
    exact⟨((HJ.on kA).on kB).on kC,(bA.below kB).below kC,bB.below kC,bC⟩
   clear HJ;go_upto_region 14 with fail;rw[<-a0,<-hP];have af:w.heap.size+1+1+1<P:=by omega
   clear a0 hP s3 s1 ad ac ab d0 d1 d2 d3 d4 d5 d6 d7 d8 d9 aa t0 t1 t2 t3 e0 e1 e2 e3 e4 c0;have n4:=H4.2.1.cell (j:=4) rfl;have n5:=H4.2.1.cell (j:=5) rfl;have n6:=H4.2.1.cell (j:=6) rfl;have n7:=H4.2.1.cell (j:=7) rfl;have n8:=H4.2.1.cell (j:=8) rfl;have n9:=H4.2.1.cell (j:=9) rfl;have a6:=H4.2.1.cell (j:=10) rfl;obtain⟨e0,e1,e2,e3,e4⟩:=H4.2.2.2.c5;go_wp2_with fail;refine(xBr x W4).mono ?_;rintro e w5 ⟨rfl,a4⟩;have H5:Hid (LkS w gi ci x w5/\yA w5 w.heap.size 210 11 P ixP.ten/\yA w5 w.heap.size 184 4 (P+1) itP):=⟨H4.1.on a4,H4.2.1.below a4,H4.2.2.1.below a4⟩;clear H4 a4 n4 n5 n6 n7 n8 n9 a6 e0 e1 e2 e3 e4;have n4:=H5.2.1.cell (j:=4) rfl;have n5:=H5.2.1.cell (j:=5) rfl;have n6:=H5.2.1.cell (j:=6) rfl;have n7:=H5.2.1.cell (j:=7) rfl;have n8:=H5.2.1.cell (j:=8) rfl;have n9:=H5.2.1.cell (j:=9) rfl;have a6:=H5.2.1.cell (j:=10) rfl;go_wp2_with fail;refine(yIg ndP w5).mono ?_;rintro e w6 ⟨r6,rfl,a8,a3⟩;obtain rfl:r6=false:=by
    cases r6
    .rfl
    .exact absurd (a8.1 rfl) (by simp[cntK])
   have H6:Hid (LkS w gi ci x w6/\yA w6 w.heap.size 210 11 P ixP.ten/\yA w6 w.heap.size 184 4 (P+1) itP):=⟨H5.1.on a3,H5.2.1.below a3,H5.2.2.below a3⟩;clear H5 a3 a8 n4 n5 n6 n7 n8 n9 a6;have n4:=H6.2.1.cell (j:=4) rfl;obtain⟨i0,i1,i2,i3⟩:=H6.2.2.c4;have g1:=H6.2.2.frozen 1;obtain⟨W7,a5⟩:=qE (w6.setCell ⟨P+1,1,none⟩ (.bool false):World);have H7:Hid (LkS w gi ci x W7/\yA W7 w.heap.size 184 4 (P+1) itP):=by
    have hc:Chg (λk=>k=P+1) w6 W7:=by rw[a5];exact Chg.of_set _ _ _ _ rfl
    refine⟨H6.1.chg hc (λk hk=>by omega) a9 (H6.1.top.chg hc (λq=>by omega)),?_⟩;rw[a5];exact H6.2.2.set 1 _
   go_upto_region 20 with fail;rw[<-a5];clear a5 H6 n4 i0 i1 i2 i3 g1;obtain⟨i0,i1,i2,i3⟩:=H7.2.c4;obtain⟨t0,t1,t2,t3⟩:=H7.1.top.c4;obtain⟨g0,g1,g2,g3⟩:=H7.1.top.f4;obtain⟨W8,y⟩:=qE ((((W7.setCell ⟨w.heap.size+1+1+1,0,none⟩ (.bool true)).setCell ⟨w.heap.size+1+1+1,1,none⟩ (.bool false)).setCell ⟨w.heap.size+1+1+1,2,none⟩ (.int .i64 0)).setCell ⟨w.heap.size+1+1+1,3,none⟩ (.string ⟨#[]⟩):World);have H8:Hid (LkS w gi ci x W8):=by
    have hc:Chg (λk=>k=w.heap.size+1+1+1) W7 W8:=by rw[y];exact(((Chg.of_set (S:=λk=>k=w.heap.size+1+1+1) _ _ _ _ rfl).trans (Chg.of_set (S:=λk=>k=w.heap.size+1+1+1) _ _ _ _ rfl)).trans (Chg.of_set (S:=λk=>k=w.heap.size+1+1+1) _ _ _ _ rfl)).trans (Chg.of_set (S:=λk=>k=w.heap.size+1+1+1) _ _ _ _ rfl)
    refine H7.1.chg hc (λk hk=>by omega) a9 ?_;rw[y];exact(((H7.1.top.set 0 _).set 1 _).set 2 _).set 3 _
   go_wp2_with fail;rw[<-y];go_roundw;case rel=>exact⟨1,by omega,by first|rfl|go_num,rfl,H8⟩
   case measure=>simp[intOf]
  .obtain rfl:j=1:=by omega
   obtain⟨t0,t1,t2,t3⟩:=HJ.top.c4;obtain⟨r0,r1,r2,r3⟩:=HJ.res.c4;obtain⟨g0,g1,g2,g3⟩:=HJ.res.f4;obtain⟨W8,y⟩:=qE ((((wr.setCell ⟨w.heap.size+1+1,0,none⟩ (.bool true)).setCell ⟨w.heap.size+1+1,1,none⟩ (.bool false)).setCell ⟨w.heap.size+1+1,2,none⟩ (.int .i64 0)).setCell ⟨w.heap.size+1+1,3,none⟩ (.string ⟨#[]⟩):World);have H8:Hid (yA W8 w.heap.size 184 4 (w.heap.size+1+1) itP/\Below w.heap.size w W8):=by rw[y];exact⟨(((HJ.res.set 0 _).set 1 _).set 2 _).set 3 _,yBb (yBb (yBb (yBb HJ.below (by omega) _ _) (by omega) _ _) (by omega) _ _) (by omega) _ _⟩
   go_wp2_with fail;rw[<-y];obtain⟨q0,q1,q2,q3⟩:=H8.1.c4;exact bodyPost_ret (v:=.tuple #[itPv,.slice ca 0 cc]) (by simp[results,results118,go_sem,q0,q1,q2,q3]) rfl ⟨rfl,H8.2⟩
structure EmAt(w:World)(eb:Nat)(v:Value)(X:List Ix)(c:Nat):Prop where
 box:yA w eb 125 2 eb [v,.int .i64 (c:Int)]
 row:RowX w (eb+1) v X
variable {eb:Nat}
theorem EmAt.lt{c:Nat}{v:Value}(h:EmAt w eb v X c):eb<w.heap.size:=h.box.lt.2
theorem EmAt.below{c:Nat}{v:Value}(h:EmAt w eb v X c)(hb:Below w.heap.size w w'):EmAt w' eb v X c:=⟨h.box.below hb,h.row.below hb⟩
def EmS(eb:Nat)(v:Value)(b:Nat):Prop:=b=eb\/v.ownBlock=some b
structure EmTo(w w':World)(eb:Nat)(v v':Value)(X:List Ix)(c:Nat):Prop where
 at_:EmAt w' eb v' X c
 chg:Chg (EmS eb v) w w'
 new:∀k,v'.ownBlock=some k->v.ownBlock=some k\/w.heap.size<=k
theorem EmTo.trans{w1 w2:World}{c1 c2:Nat}{v v1 v2:Value}{X1 X2:List Ix}(h:EmTo w w1 eb v v1 X1 c1)(k:EmTo w1 w2 eb v1 v2 X2 c2):EmTo w w2 eb v v2 X2 c2:=by
 refine⟨k.at_,⟨k.chg.os.trans h.chg.os,k.chg.tape.trans h.chg.tape,k.chg.output.trans h.chg.output,Nat.le_trans h.chg.size k.chg.size,λi hi hn=>?_⟩,λi hi=>?_⟩
 .refine(k.chg.block i (Nat.lt_of_lt_of_le hi h.chg.size) ?_).trans (h.chg.block i hi hn);rintro(q|q)
  .exact hn (.inl q)
  .rcases h.new i q with q|q
   .exact hn (.inr q)
   .omega
 .rcases k.new i hi with q|q
  .exact h.new i q
  .exact .inr (Nat.le_trans h.chg.size q)
theorem EmTo.of_below{c:Nat}{v:Value}(h:EmAt w eb v X c)(hb:Below w.heap.size w w'):EmTo w w' eb v v X c:=⟨h.below hb,Chg.of_below hb,λk hk=>.inl hk⟩
theorem EmTo.below{c c':Nat}{v v':Value}{X':List Ix}(h:EmAt w eb v X c)(k:EmTo w w' eb v v' X' c'):Below eb w w':=
 ⟨k.chg.os,k.chg.tape,k.chg.output,k.chg.size,λi hi=>k.chg.block i (by have:=h.lt;omega) (by
  rintro(q|q)
  .omega
  .have:=(h.row.blk q).1;omega)⟩
theorem EmAt.app{c:Nat}{v v':Value}{Y:List Ix}(h:EmAt w eb v X c)(hA:AppX w w' (eb+1) v v' X Y):EmTo w (w'.setCell ⟨eb,0,none⟩ v') eb v v' (X++Y) c:=by
 have a0:Chg (λk=>v.ownBlock=some k) w w':=Chg.of_grown hA.grown (λk hk=>hk);have a3:¬v.ownBlock=some eb:=λq=>by have:=(h.row.blk q).1;omega
 have a4:=h.box.chg a0 a3;have y:Chg (λb=>b=eb) w' (w'.setCell ⟨eb,0,none⟩ v'):=Chg.of_set _ _ _ _ rfl;refine⟨⟨?_,hA.own.chg y (λk hk q=>by have:=(hA.own.blk hk).1;omega)⟩,(a0.mono (λk hk=>.inr hk)).trans (y.mono (λk hk=>.inl hk)),λk hk=>?_⟩
 .have:=a4.set 0 v';simpa using this
 .rcases hA.at_ with q|q
  .rw[q]at hk;exact .inl hk
  .rw[q]at hk;cases hk;exact .inr (Nat.le_refl _)
theorem yRi{c:Nat}{v:Value}(h:EmAt w eb v X c)(x:Ix)(hl:X.length<=100000):Calls prog 136 #[.pointer (some ⟨eb,0,none⟩),x.v] w λr w'=>r=.returned (.tuple #[])/\∃v',EmTo w w' eb v v' (X++ [x]) c:=by
 obtain⟨va,vc,hv⟩:=h.row.slice;obtain⟨vn,ae⟩:=qE X.length;rw[<-ae]at hv;subst hv;have HE:Hid (EmAt w eb (.slice va vn vc) X c):=h;have HL:Hid (X.length<=100000):=hl;have aj:=h.lt;clear h ae hl;obtain⟨W0,aa⟩:=qE (w.alloc (Obj.cells #[.int .i64 x.op,.int .i64 x.a,.int .i64 x.b,.bool x.free,.int .i64 x.leaf.kind,.string x.leaf.s,.bool x.leaf.hi,.string x.leaf.t,.int .u64 x.leaf.lo,.int .u64 x.leaf.up,.int .i64 x.leaf.n] 210):World);obtain⟨P,hP⟩:=qE w.heap.size;have y:Hid (yA W0 P 210 11 P x.ten/\Below w.heap.size w W0/\P=w.heap.size):=by rw[aa,hP];exact⟨yAa w _ (Nat.le_refl _) rfl,qB,rfl⟩
 have ac:Hid (EmAt W0 eb (.slice va vn vc) X c):=HE.below y.2.1;have q0:W0.cell? ⟨eb,0,none⟩=some (.slice va vn vc):=ac.box.cell (j:=0) rfl;have a6:SW (λw':World=>w'.cell? ⟨eb,0,none⟩=some (.slice va vn vc)/\w'.cell? ⟨P,0,none⟩=some (.int .i64 x.op)/\w'.cell? ⟨P,1,none⟩=some (.int .i64 x.a)/\w'.cell? ⟨P,2,none⟩=some (.int .i64 x.b)/\w'.cell? ⟨P,3,none⟩=some (.bool x.free)/\w'.cell? ⟨P,4,none⟩=some (.int .i64 x.leaf.kind)/\w'.cell? ⟨P,5,none⟩=some (.string x.leaf.s)/\w'.cell? ⟨P,6,none⟩=some (.bool x.leaf.hi)/\w'.cell? ⟨P,7,none⟩=some (.string x.leaf.t)/\w'.cell? ⟨P,8,none⟩=some (.int .u64 x.leaf.lo)/\w'.cell? ⟨P,9,none⟩=some (.int .u64 x.leaf.up)/\w'.cell? ⟨P,10,none⟩=some (.int .i64 x.leaf.n)) W0.drew:=⟨q0,y.1.cell (j:=0) rfl,y.1.cell (j:=1) rfl,y.1.cell (j:=2) rfl,y.1.cell (j:=3) rfl,y.1.cell (j:=4) rfl,y.1.cell (j:=5) rfl,y.1.cell (j:=6) rfl,y.1.cell (j:=7) rfl,y.1.cell (j:=8) rfl,y.1.cell (j:=9) rfl,y.1.cell (j:=10) rfl⟩;go_enter func136,ntmps136;go_upto_region 1 with fail;rw[<-aa,<-hP];clear aa hP;refine wpR 12 a6 ?_;refine j2a 0 a6 ?_;iterate 6 refine j2b a6 ?_
 obtain⟨V1,a5⟩:=qE ((W0.alloc (Obj.cells #[.int .i64 x.op,.int .i64 x.a,.int .i64 x.b,.bool x.free,.int .i64 x.leaf.kind,.string x.leaf.s,.bool x.leaf.hi,.string x.leaf.t,.int .u64 x.leaf.lo,.int .u64 x.leaf.up,.int .i64 x.leaf.n] 210)).drew:World);obtain⟨G1,ab⟩:=qE W0.heap.size;have a4:Below W0.heap.size W0 V1:=by rw[a5];exact(qB).drew
 have HV:Hid (yHh V1 G1 0 [x]/\EmAt V1 eb (.slice va vn vc) X c/\eb+1<=V1.heap.size):=by refine⟨?_,ac.below a4,(ac.below a4).lt⟩;rw[a5,ab];exact(yM W0 x).at
 have a0:Hid (yA V1 P 210 11 P x.ten):=y.1.below a4;have ai:Hid (Below w.heap.size w V1):=y.2.1.trans (a4.mono y.2.1.size);have ah:=SWm a6 V1 <|⟨HV.2.1.box.cell (j:=0) rfl,a0.cell (j:=0) rfl,a0.cell (j:=1) rfl,a0.cell (j:=2) rfl,a0.cell (j:=3) rfl,a0.cell (j:=4) rfl,a0.cell (j:=5) rfl,a0.cell (j:=6) rfl,a0.cell (j:=7) rfl,a0.cell (j:=8) rfl,a0.cell (j:=9) rfl,a0.cell (j:=10) rfl⟩;clear a4;refine qO 7 rfl λK hK=>?_;go_simp;rw[<-a5,<-ab];clear a5 ab;refine hK.out _ _ (.inr ah) ?_;clear hK;refine jS ?_;refine qO 8 rfl λK hK=>?_;refine yI7 _ rfl _ _ rfl (eb+1) (.slice va vn vc) G1 0 1 1 X [x] rfl rfl rfl HV.2.1.row HV.1 (by have:=HL.out;simp;omega) HV.2.2 ?_;intro v' w2 hA;have HT:Hid (EmTo V1 (w2.setCell ⟨eb,0,none⟩ v') eb (.slice va vn vc) v' (X++ [x]) c):=HV.2.1.app hA;have a8:Chg (λk=>(Value.slice va vn vc).ownBlock=some k) V1 w2:=Chg.of_grown hA.grown (λk hk=>hk);have ad:Hid (yA w2 eb 125 2 eb [.slice va vn vc,.int .i64 (c:Int)]):=HV.2.1.box.chg a8 (λq=>by have:=(HV.2.1.row.blk q).1;omega);have a3:Hid (yA w2 P 210 11 P x.ten):=a0.chg a8 (λq=>by have:=(HE.row.blk q).2;rw[<-y.2.2]at this;omega);have a7:=SWm ah w2 <|⟨ad.cell (j:=0) rfl,a3.cell (j:=0) rfl,a3.cell (j:=1) rfl,a3.cell (j:=2) rfl,a3.cell (j:=3) rfl,a3.cell (j:=4) rfl,a3.cell (j:=5) rfl,a3.cell (j:=6) rfl,a3.cell (j:=7) rfl,a3.cell (j:=8) rfl,a3.cell (j:=9) rfl,a3.cell (j:=10) rfl⟩;obtain⟨a9,c9,af⟩:=hA.own.slice;obtain⟨n9,ag⟩:=qE ((X++ [x]).length);rw[<-ag]at af;clear ag;subst af;clear hA a8;refine hK.out _ _ (.inr a7) ?_;clear hK;refine jS ?_;refine qO 9 rfl λK hK=>?_;go_simp;refine hK.out _ _ (.inr a7) ?_;clear hK;refine jS ?_;refine qO 10 rfl λK hK=>?_;go_simp;refine hK.out _ _ (.inr a7) ?_;clear hK;refine jS ?_;refine qO 11 rfl λK hK=>?_;go_simp;refine hK.out _ _ (.inr a7) ?_;clear hK;refine jS ?_;have z0:=ad.frozen 0;have e0:=ad.cell (j:=0) rfl;refine qO 12 rfl λK hK=>?_;go_simp;refine hK.out _ _ (.inl rfl) ?_;clear hK;refine jS ?_;refine qD ?_;go_wp2_with fail;refine bodyPost_end (results_none rfl _ _ _) rfl ?_;exact⟨rfl,_,(EmTo.of_below HE.out ai.out).trans HT.out⟩
section
def RnPP(es:List Ent)(w:World)(e:Ending)(w':World):Prop:=∃a c,e=.returned (.agg #[.bool true,.slice a es.length c,.int .i64 (es.length:Int)])/\Hid (RowC w' w.heap.size (.slice a es.length c) es/\Below w.heap.size w w')
structure RnP(w:World)(cv:Value)(gi ci ob:Nat)(out:List Ent)(a:Option Addr)(n c m:Nat)(wr:World):Prop where
 box:yA wr w.heap.size 79 3 w.heap.size [cv,.slice (some ⟨gi,0,none⟩) 1 ci,.int .i64 0]
 res:yA wr w.heap.size 39 3 (w.heap.size+1) [.bool false,.slice none 0 0,.int .i64 0]
 obx:yA wr w.heap.size 39 3 ob [.bool true,.slice a n c,.int .i64 (m:Int)]
 row:RowC wr w.heap.size (.slice a n c) out
 nl:n=out.length
 ne:w.heap.size+1<ob
 pc:PcAt wr gi ci
 pl:gi<w.heap.size
 below:Below w.heap.size w wr
section
variable {w:World} {cv:Value} {gi ci ob:Nat} {out:List Ent} {a:Option Addr} {n c m:Nat} {wr W:World}
theorem RnP.on(h:RnP w cv gi ci ob out a n c m wr)(hb:Below wr.heap.size wr W):RnP w cv gi ci ob out a n c m W:=
 {h with box:=h.box.below hb,res:=h.res.below hb,obx:=h.obx.below hb,row:=h.row.below hb,pc:=h.pc.below hb,below:=h.below.trans (hb.mono h.below.size)}
theorem RnP.side{B:Nat}(h:RnP w cv gi ci ob out a n c m wr)(hB:w.heap.size+1<B/\¬B=ob/\¬(Value.slice a n c).ownBlock=some B)(hc:Chg (λk=>k=B) wr W):RnP w cv gi ci ob out a n c m W:=
 {h with
  box:=h.box.chg hc (by omega)
  res:=h.res.chg hc (by omega)
  obx:=h.obx.chg hc (λq=>hB.2.1 q.symm)
  row:=h.row.chg hc (λk hk q=>hB.2.2 (by rw[<-q];exact hk))
  pc:=h.pc.chg hc (λq=>by have:=h.pl;omega)
  below:=Chg.below h.below hc h.below.size (λk q=>by omega)}
theorem RnP.put{out':List Ent}{a':Option Addr}{n' c' m':Nat}{W1:World}(h:RnP w cv gi ci ob out a n c m wr)(hc1:Chg (λk=>(Value.slice a n c).ownBlock=some k) wr W1)(hr:RowC W1 w.heap.size (.slice a' n' c') out')(hn:n'=out'.length)(hc:Chg (λk=>k=ob) W1 W)(hb:yA W w.heap.size 39 3 ob [.bool true,.slice a' n' c',.int .i64 (m':Int)]):RnP w cv gi ci ob out' a' n' c' m' W:=by
 have o1:=h.obx.chg hc1 (λq=>yAb h.row h.obx (by decide) _ q rfl);have a0:=h.ne;have y:=h.pl;have b1:Below w.heap.size w W1:=Chg.below h.below hc1 h.below.size (λq z=>(h.row.blk z).1)
 exact {h with
  box:=(h.box.chg hc1 (λq=>yAb h.row h.box (by decide) _ q rfl)).chg hc (by omega)
  res:=(h.res.chg hc1 (λq=>yAb h.row h.res (by decide) _ q rfl)).chg hc (by omega)
  obx:=hb
  row:=hr.chg hc (λq hq z=>yAb hr o1 (by decide) _ hq (by rw[z];rfl))
  nl:=hn
  pc:=(h.pc.chg hc1 (λq=>by have:=(h.row.blk q).1;omega)).chg hc (by omega)
  below:=Chg.below b1 hc b1.size (λq z=>by omega)}
end
theorem yTn{ga:Nat}(hP:PcAt w gi ci){bc gc cc:Nat}{es:List Ent}(hC:OwnC w bc gc cc es)(hoe:∀e∈es,e.ok)(hG:yAp (es.map putE)){M:Nat}(hM:M=es.length):
  Calls prog 61 #[.agg #[.slice (some ⟨ga,0,none⟩) 0 0,.slice (some ⟨gi,0,none⟩) 1 ci,.int .i64 0],.slice (some ⟨gc,0,none⟩) M cc,.bool true] w (RnPP es w):=by
 have a5:=hC.lt.2;have aE:=hP.lt;have aG:M<=10000:=by have:=hG.1.1;simp at this;omega
 have HM:Hid (OwnC w bc gc cc es/\M=es.length):=⟨hC,hM⟩;obtain⟨W0,ab⟩:=qE ((w.alloc (Obj.cells #[.slice (some ⟨ga,0,none⟩) 0 0,.slice (some ⟨gi,0,none⟩) 1 ci,.int .i64 0] 79)).alloc (Obj.cells #[.bool false,.slice none 0 0,.int .i64 0] 39):World);have H0:Hid (yA W0 w.heap.size 79 3 w.heap.size [.slice (some ⟨ga,0,none⟩) 0 0,.slice (some ⟨gi,0,none⟩) 1 ci,.int .i64 0]/\yA W0 w.heap.size 39 3 (w.heap.size+1) [.bool false,.slice none 0 0,.int .i64 0]/\Below w.heap.size w W0/\PcAt W0 gi ci):=by
  obtain⟨X,hX⟩:=qE (w.alloc (Obj.cells #[.slice (some ⟨ga,0,none⟩) 0 0,.slice (some ⟨gi,0,none⟩) 1 ci,.int .i64 0] 79):World);rw[<-hX]at ab;have zx:X.heap.size=w.heap.size+1:=by rw[hX];simp
  have k1:Below w.heap.size w X:=by rw[hX];exact qB
  have k2:Below X.heap.size X W0:=by rw[ab];exact qB
  have b1:yA X w.heap.size 79 3 w.heap.size [.slice (some ⟨ga,0,none⟩) 0 0,.slice (some ⟨gi,0,none⟩) 1 ci,.int .i64 0]:=by rw[hX];exact yAa w _ (Nat.le_refl _) rfl
  have b2:yA W0 w.heap.size 39 3 (w.heap.size+1) [.bool false,.slice none 0 0,.int .i64 0]:=by rw[ab,<-zx];exact yAa X _ (by omega) rfl
  have k3:Below w.heap.size w W0:=k1.trans (k2.mono (by omega));exact⟨b1.below k2,b2,k3,hP.below k3⟩
 have HF:Hid (Calls prog 114 #[.agg #[.slice (some ⟨ga,0,none⟩) 0 0,.slice (some ⟨gi,0,none⟩) 1 ci,.int .i64 0]] W0 λe w'=>e=.returned (.bool true)/\Below W0.heap.size W0 w'):=yYb H0.2.2.2 _ _;have HV:Hid (∀wx,Below w.heap.size w wx->Calls prog 115 #[.slice (some ⟨gc,0,none⟩) M cc] wx λe w'=>e=.returned (.bool true)/\Below wx.heap.size wx w'):=λwx hx=>by rw[hM];refine(yKm gc cc es bc wx (hC.below hx a5) hoe (by omega)).mono ?_;rintro e w' ⟨r,rfl,hr,hb⟩;rw[hr.2 hG];exact⟨rfl,hb⟩
 clear hP hC hoe hG hM;obtain⟨c0,c1,c2⟩:=H0.1.c3;go_enter func61,ntmps61;go_upto_region 1 with fail;rw[<-ab];clear ab;go_wp2_with fail;refine HF.mono ?_;rintro e w1 ⟨rfl,hb1⟩;have H1:Hid (yA w1 w.heap.size 79 3 w.heap.size [.slice (some ⟨ga,0,none⟩) 0 0,.slice (some ⟨gi,0,none⟩) 1 ci,.int .i64 0]/\yA w1 w.heap.size 39 3 (w.heap.size+1) [.bool false,.slice none 0 0,.int .i64 0]/\Below w.heap.size w w1/\PcAt w1 gi ci):=⟨H0.1.below hb1,H0.2.1.below hb1,H0.2.2.1.trans (hb1.mono H0.2.2.1.size),H0.2.2.2.below hb1⟩;have aB:=HV.out w1 H1.2.2.1;have aA:Hid (Calls prog 115 #[.slice (some ⟨gc,0,none⟩) M cc] w1 λe w'=>e=.returned (.bool true)/\Below w1.heap.size w1 w'):=aB;clear hb1 HF c0 c1 c2 H0 HV aB;go_wp2_with fail;refine aA.mono ?_;rintro e w2 ⟨rfl,hb2⟩;have H2:Hid (yA w2 w.heap.size 79 3 w.heap.size [.slice (some ⟨ga,0,none⟩) 0 0,.slice (some ⟨gi,0,none⟩) 1 ci,.int .i64 0]/\yA w2 w.heap.size 39 3 (w.heap.size+1) [.bool false,.slice none 0 0,.int .i64 0]/\Below w.heap.size w w2/\PcAt w2 gi ci):=⟨H1.1.below hb2,H1.2.1.below hb2,H1.2.2.1.trans (hb2.mono H1.2.2.1.size),H1.2.2.2.below hb2⟩;clear hb2 aA H1;have c0:=H2.1.cell (j:=0) rfl;obtain⟨W5,ak⟩:=qE (w2.alloc (Obj.cells #[.bool true,.slice none 0 0,.int .i64 0] 39):World);obtain⟨ob,ai⟩:=qE w2.heap.size;have H5:Hid (RnP w (.slice (some ⟨ga,0,none⟩) 0 0) gi ci ob [] none 0 0 0 W5):=by
  obtain⟨h1,h2,h3,h4⟩:=H2.out;have k5:Below w2.heap.size w2 W5:=by rw[ak];exact qB
  exact⟨h1.below k5,h2.below k5,by rw[ak,ai];exact yAa w2 _ h3.size rfl,yIt _ _,rfl,by rw[ai];exact h2.lt.2,h4.below k5,aE,h3.trans (k5.mono h3.size)⟩
 go_upto_region 6 with fail;rw[<-ak,<-ai];clear ak ai c0 H2;have c2:=H5.box.cell (j:=2) rfl;go_wp2_with fail;refine(yY6 W5).mono ?_;rintro e w6 ⟨gk,rfl,a6⟩;have H6:Hid (RnP w (.slice (some ⟨ga,0,none⟩) 0 0) gi ci ob [] none 0 0 0 w6):=H5.on a6;clear a6 c2 H5;go_wp2_with fail;go_loopw[8,9] (λkv iv wr=>∃(i:Nat)(a:Option Addr)(c:Nat),i<=M/\kv=.slice (some ⟨gk,0,none⟩) 0 0/\iv=.int .i64 (i:Int)/\Hid (RnP w (.slice (some ⟨ga,0,none⟩) 0 0) gi ci ob (es.take i) a i c i wr)) (λ_ iv _=>M-(intOf iv).toNat);case atStart=>exact⟨0,none,0,zero_le _,rfl,rfl,H6⟩
 case round=>
  clear H6;obtain⟨i,a,c,hi,rfl,rfl,HJ⟩:=hrel;obtain⟨wo,aD⟩:=qE (wr:World);subst aD;by_cases hlt:i<M
  .have z:(i:Int)<(M:Int):=by omega
   obtain⟨x,hx⟩:∃x,es[i]?=some x:=⟨_,getElem?_eq_getElem (by have:=HM.2;omega)⟩;have aF:Hid (es.take (i+1)=es.take i++ [x]):=by show _=_;rw[take_add_one,hx];rfl
   have a8:Hid (∀(X:World)(out:List Ent)(a:Option Addr)(n c m:Nat),RnP w (.slice (some ⟨ga,0,none⟩) 0 0) gi ci ob out a n c m X->(λw':World=>w'.cell? ⟨w.heap.size,1,none⟩=some (.slice (some ⟨gi,0,none⟩) 1 ci)/\w'.cell? ⟨w.heap.size,2,none⟩=some (.int .i64 0)/\w'.cell? ⟨gc,i*5,none⟩=some (.string x.row)/\w'.cell? ⟨gc,i*5+1,none⟩=some (.string x.fam)/\w'.cell? ⟨gc,i*5+2,none⟩=some (.string x.qual)/\w'.cell? ⟨gc,i*5+3,none⟩=some (.int .u64 x.ts)/\w'.cell? ⟨gc,i*5+4,none⟩=some (.string x.val)/\w'.cell? ⟨w.heap.size,2,none⟩=some (.int .i64 0)) X):=λX out a n c m h=>by obtain⟨e0,e1,e2,e3,e4⟩:=HM.1.at i x hx;simp only[Nat.zero_add]at e0 e1 e2 e3 e4;have hb:=h.below;exact⟨h.box.cell (j:=1) rfl,h.box.cell (j:=2) rfl,by rw[hb.cell (p:=⟨gc,_,none⟩) a5];exact e0,by rw[hb.cell (p:=⟨gc,_,none⟩) a5];exact e1,by rw[hb.cell (p:=⟨gc,_,none⟩) a5];exact e2,by rw[hb.cell (p:=⟨gc,_,none⟩) a5];exact e3,by rw[hb.cell (p:=⟨gc,_,none⟩) a5];exact e4,h.box.cell (j:=2) rfl⟩
   obtain⟨W2,am⟩:=qE (wo.alloc (Obj.cells #[.bool false,.bool false,.int .i64 0,.string ⟨#[]⟩] 184):World);have ag:Hid (RnP w (.slice (some ⟨ga,0,none⟩) 0 0) gi ci ob (es.take i) a i c i W2.drew/\yA W2.drew w.heap.size 184 4 wo.heap.size [.bool false,.bool false,.int .i64 0,.string ⟨#[]⟩]):=by
    have k2:Below wo.heap.size wo W2:=by rw[am];exact qB
    have b2:yA W2 w.heap.size 184 4 wo.heap.size [.bool false,.bool false,.int .i64 0,.string ⟨#[]⟩]:=by rw[am];exact yAa wo _ HJ.below.size rfl
    exact⟨(HJ.on k2).on ((Below.refl _ _).drew),b2.below ((Below.refl _ _).drew)⟩
   have an:=a8.out _ _ _ _ _ _ ag.1;clear hx;go_upto_region 10 with fail;rw[<-am];clear am;refine yAq 99 (λw':World=>w'.cell? ⟨w.heap.size,1,none⟩=some (.slice (some ⟨gi,0,none⟩) 1 ci)/\w'.cell? ⟨w.heap.size,2,none⟩=some (.int .i64 0)/\w'.cell? ⟨gc,i*5,none⟩=some (.string x.row)/\w'.cell? ⟨gc,i*5+1,none⟩=some (.string x.fam)/\w'.cell? ⟨gc,i*5+2,none⟩=some (.string x.qual)/\w'.cell? ⟨gc,i*5+3,none⟩=some (.int .u64 x.ts)/\w'.cell? ⟨gc,i*5+4,none⟩=some (.string x.val)/\w'.cell? ⟨w.heap.size,2,none⟩=some (.int .i64 0)) (by kernel_rfl) ?_;generalize W2.drew=WD at ag an|-;refine tk8a 0 an ?_;iterate 6 refine tk8b an ?_
   obtain⟨W3,aq⟩:=qE (WD.alloc (Obj.cells #[] 4):World);have af:Hid (RnP w (.slice (some ⟨ga,0,none⟩) 0 0) gi ci ob (es.take i) a i c i W3/\yA W3 w.heap.size 184 4 wo.heap.size [.bool false,.bool false,.int .i64 0,.string ⟨#[]⟩]):=by
    have k3:Below WD.heap.size WD W3:=by rw[aq];exact qB
    exact⟨ag.1.on k3,ag.2.below k3⟩
   have az:=a8.out _ _ _ _ _ _ af.1;have aC:Hid (Calls prog 118 #[.agg #[.slice (some ⟨gi,0,none⟩) 1 ci,.int .i64 0],.agg #[.string x.row,.string x.fam,.string x.qual,.int .u64 x.ts,.string x.val],.slice (some ⟨gk,0,none⟩) 0 0,.slice (some ⟨WD.heap.size,0,none⟩) 0 0] W3 λe w'=>e=.returned (.tuple #[itPv,.slice (some ⟨gk,0,none⟩) 0 0])/\Below W3.heap.size W3 w'):=xBx af.1.pc x _ _ _ _;refine qO 7 rfl λK hK=>?_;go_simp;rw[<-aq];refine hK.out _ _ (.inr az) (tkS ?_);clear hK aq an;refine qO 8 rfl λK hK=>?_;go_simp;refine aC.mono ?_;rintro e w3 ⟨rfl,hb3⟩;have a7:Hid (RnP w (.slice (some ⟨ga,0,none⟩) 0 0) gi ci ob (es.take i) a i c i w3/\yA w3 w.heap.size 184 4 wo.heap.size [.bool false,.bool false,.int .i64 0,.string ⟨#[]⟩]):=⟨af.1.on hb3,af.2.below hb3⟩;have av:=a8.out _ _ _ _ _ _ a7.1;clear hb3 ag af az aC;refine hK.out _ _ (.inr av) (tkS ?_);clear hK;iterate 3 refine tk8b av ?_
   obtain⟨W4,al⟩:=qE ((((w3.setCell ⟨wo.heap.size,0,none⟩ (.bool true)).setCell ⟨wo.heap.size,1,none⟩ (.bool false)).setCell ⟨wo.heap.size,2,none⟩ (.int .i64 0)).setCell ⟨wo.heap.size,3,none⟩ (.string ⟨#[]⟩):World);have ae:Hid (RnP w (.slice (some ⟨ga,0,none⟩) 0 0) gi ci ob (es.take i) a i c i W4/\yA W4 w.heap.size 184 4 wo.heap.size itP):=by
    have hc:Chg (λk=>k=wo.heap.size) w3 W4:=by rw[al];exact(((Chg.of_set (S:=λk=>k=wo.heap.size) _ _ _ _ rfl).trans (Chg.of_set (S:=λk=>k=wo.heap.size) _ _ _ _ rfl)).trans (Chg.of_set (S:=λk=>k=wo.heap.size) _ _ _ _ rfl)).trans (Chg.of_set (S:=λk=>k=wo.heap.size) _ _ _ _ rfl)
    have l4:=HJ.obx.lt;have l5:=HJ.res.lt;refine⟨a7.1.side ⟨by omega,by omega,λq=>by have:=(HJ.row.blk q).2;omega⟩ hc,?_⟩;rw[al];exact(((a7.2.set 0 _).set 1 _).set 2 _).set 3 _
   have a4:=a8.out _ _ _ _ _ _ ae.1;obtain⟨v0,v1,v2,v3⟩:=a7.2.c4;obtain⟨f0,f1,f2,f3⟩:=a7.2.f4;refine qO 12 rfl λK hK=>?_;go_simp;rw[<-al];refine hK.out _ _ (.inr a4) (tkS ?_);clear hK al av v0 v1 v2 v3 f0 f1 f2 f3 a7;refine qO 13 rfl λK hK=>?_;go_simp;refine hK.out _ _ (.inr a4) (tkS ?_);clear hK;refine qD ?_;clear a4;have p0:=ae.2.cell (j:=0) rfl;have zi:IntKind.i64.wrap ((i:Int)+1)=(i:Int)+1:=by rw[IntKind.wrap_i64];omega
   have ao:Hid (∀X:World,RnP w (.slice (some ⟨ga,0,none⟩) 0 0) gi ci ob (es.take i) a i c i X->yA X w.heap.size 184 4 wo.heap.size itP->(λw':World=>w'.cell? ⟨ob,1,none⟩=some (.slice a i c)/\w'.cell? ⟨wo.heap.size,0,none⟩=some (.bool true)/\w'.cell? ⟨wo.heap.size,1,none⟩=some (.bool false)/\w'.cell? ⟨wo.heap.size,2,none⟩=some (.int .i64 0)/\w'.cell? ⟨wo.heap.size,3,none⟩=some (.string ⟨#[]⟩)/\w'.cell? ⟨gc,i*5,none⟩=some (.string x.row)/\w'.cell? ⟨gc,i*5+1,none⟩=some (.string x.fam)/\w'.cell? ⟨gc,i*5+2,none⟩=some (.string x.qual)/\w'.cell? ⟨gc,i*5+3,none⟩=some (.int .u64 x.ts)/\w'.cell? ⟨gc,i*5+4,none⟩=some (.string x.val)) X):=λX h k=>by obtain⟨_,_,e0,e1,e2,e3,e4,_⟩:=a8.out X _ _ _ _ _ h;exact⟨h.obx.cell (j:=1) rfl,k.cell (j:=0) rfl,k.cell (j:=1) rfl,k.cell (j:=2) rfl,k.cell (j:=3) rfl,e0,e1,e2,e3,e4⟩
   have ad:Hid (RnP w (.slice (some ⟨ga,0,none⟩) 0 0) gi ci ob (es.take i) a i c i W4.drew/\yA W4.drew w.heap.size 184 4 wo.heap.size itP):=⟨ae.1.on ((Below.refl _ _).drew),ae.2.below ((Below.refl _ _).drew)⟩;have a4:=ao.out _ ad.1 ad.2;go_upto_region 13 with fail;refine yI0 [11] (λw':World=>w'.cell? ⟨ob,1,none⟩=some (.slice a i c)/\w'.cell? ⟨wo.heap.size,0,none⟩=some (.bool true)/\w'.cell? ⟨wo.heap.size,1,none⟩=some (.bool false)/\w'.cell? ⟨wo.heap.size,2,none⟩=some (.int .i64 0)/\w'.cell? ⟨wo.heap.size,3,none⟩=some (.string ⟨#[]⟩)/\w'.cell? ⟨gc,i*5,none⟩=some (.string x.row)/\w'.cell? ⟨gc,i*5+1,none⟩=some (.string x.fam)/\w'.cell? ⟨gc,i*5+2,none⟩=some (.string x.qual)/\w'.cell? ⟨gc,i*5+3,none⟩=some (.int .u64 x.ts)/\w'.cell? ⟨gc,i*5+4,none⟩=some (.string x.val)) (by kernel_rfl) ?_;refine xCq 0 a4 ?_;iterate 6 refine xBl a4 ?_
   refine yF0 (i:=7) (by kernel_rfl) rfl (λK hK=>?_);go_simp;refine(xBn x _).mono ?_;rintro e w6 ⟨rfl,a6⟩;have ac:Hid (RnP w (.slice (some ⟨ga,0,none⟩) 0 0) gi ci ob (es.take i) a i c i w6/\yA w6 w.heap.size 184 4 wo.heap.size itP):=⟨ad.1.on a6,ad.2.below a6⟩;have ay:=ao.out _ ac.1 ac.2;clear a6 a4;refine hK.out _ _ (.inr ay) (tkS ?_);clear hK;obtain⟨W7,aj⟩:=qE (w6.alloc (Obj.cells #[.string x.row,.string x.fam,.string x.qual,.int .u64 x.ts,.string x.val] 73):World);have y:Hid (RnP w (.slice (some ⟨ga,0,none⟩) 0 0) gi ci ob (es.take i) a i c i W7/\yA W7 w.heap.size 184 4 wo.heap.size itP/\yBd W7 w6.heap.size 0 [x]):=by
    have k7:Below w6.heap.size w6 W7:=by rw[aj];exact qB
    refine⟨ac.1.on k7,ac.2.below k7,?_⟩;intro j e he;have b7:yA W7 w6.heap.size 73 5 w6.heap.size x.five:=by rw[aj];exact yAa w6 _ (Nat.le_refl _) rfl
    have hj:j=0:=by have:=(List.getElem?_eq_some_iff.1 he).1;simpa using this
    subst hj;simp at he;subst he;exact⟨b7.cell (j:=0) rfl,b7.cell (j:=1) rfl,b7.cell (j:=2) rfl,b7.cell (j:=3) rfl,b7.cell (j:=4) rfl⟩
   have au:=ao.out _ y.1 y.2.1;refine yF0 (i:=8) (by kernel_rfl) rfl (λK hK=>?_);refine yL1 w6 rfl _ rfl x rfl ?_;rw[<-aj];refine hK.out _ _ (.inr au) (tkS ?_);clear hK aj ay;refine yF0 (i:=9) (by kernel_rfl) rfl (λK hK=>?_);refine yHn W7 rfl _ _ rfl w.heap.size a i c w6.heap.size 0 1 1 (es.take i) [x] rfl rfl y.1.nl rfl y.1.row y.2.2 (by have:=y.1.nl;simp;omega) y.1.below.size (λax cx w8 hR8 hg8 ha8=>?_);have a0:Chg (λq=>(Value.slice a i c).ownBlock=some q) W7 w8:=Chg.of_grown hg8 (λq hq=>hq);have aw:¬(Value.slice a i c).ownBlock=some wo.heap.size:=λq=>yAb y.1.row y.2.1 (by decide) _ q rfl;have H8:Hid (yA w8 w.heap.size 39 3 ob [.bool true,.slice a i c,.int .i64 (i:Int)]/\RowC w8 w.heap.size (.slice ax (i+1) cx) (es.take i++ [x])/\Chg (λq=>(Value.slice a i c).ownBlock=some q) W7 w8):=⟨y.1.obx.chg a0 (λq=>yAb y.1.row y.1.obx (by decide) _ q rfl),hR8,a0⟩;have ar:(λw':World=>w'.cell? ⟨ob,1,none⟩=some (.slice a i c)/\w'.cell? ⟨wo.heap.size,0,none⟩=some (.bool true)/\w'.cell? ⟨wo.heap.size,1,none⟩=some (.bool false)/\w'.cell? ⟨wo.heap.size,2,none⟩=some (.int .i64 0)/\w'.cell? ⟨wo.heap.size,3,none⟩=some (.string ⟨#[]⟩)/\w'.cell? ⟨gc,i*5,none⟩=some (.string x.row)/\w'.cell? ⟨gc,i*5+1,none⟩=some (.string x.fam)/\w'.cell? ⟨gc,i*5+2,none⟩=some (.string x.qual)/\w'.cell? ⟨gc,i*5+3,none⟩=some (.int .u64 x.ts)/\w'.cell? ⟨gc,i*5+4,none⟩=some (.string x.val)) w8:=by
    obtain⟨d0,d1,d2,d3,d4,e0,e1,e2,e3,e4⟩:=au;have hi:=y.2.1.chg a0 aw;have a9:¬(Value.slice a i c).ownBlock=some gc:=λq=>by have:=(y.1.row.blk q).1;omega
    have aa:gc<W7.heap.size:=by have:=y.1.below.size;omega
    exact⟨H8.1.cell (j:=1) rfl,hi.cell (j:=0) rfl,hi.cell (j:=1) rfl,hi.cell (j:=2) rfl,hi.cell (j:=3) rfl,by rw[a0.cell (p:=⟨gc,_,none⟩) aa a9];exact e0,by rw[a0.cell (p:=⟨gc,_,none⟩) aa a9];exact e1,by rw[a0.cell (p:=⟨gc,_,none⟩) aa a9];exact e2,by rw[a0.cell (p:=⟨gc,_,none⟩) aa a9];exact e3,by rw[a0.cell (p:=⟨gc,_,none⟩) aa a9];exact e4⟩
   clear hR8 hg8 ha8 a0 aw au;refine hK.out _ _ (.inr ar) (tkS ?_);clear hK;refine xBl ar ?_;have v1:=H8.1.cell (j:=1) rfl;have f1:=H8.1.frozen 1;obtain⟨wx,ah⟩:=qE (w8.setCell ⟨ob,1,none⟩ (.slice ax (i+1) cx):World);have HX:Hid (RnP w (.slice (some ⟨ga,0,none⟩) 0 0) gi ci ob (es.take (i+1)) ax (i+1) cx i wx):=by rw[aF.out];refine y.1.put (W1:=w8) H8.2.2 H8.2.1 (by rw[length_append,<-y.1.nl];rfl) (by rw[ah];exact Chg.of_set _ _ _ _ rfl) ?_;rw[ah];exact H8.1.set 1 _
   refine yF0 (i:=11) (by kernel_rfl) rfl (λK hK=>?_);go_simp;rw[<-ah];refine hK.out _ _ (.inl (by decide)) (tkS ?_);clear hK ah ar v1 f1;refine yO1 (by kernel_rfl) ?_;have t2:=HX.obx.cell (j:=2) rfl;have f2:=HX.obx.frozen 2;obtain⟨W9,a3⟩:=qE (wx.setCell ⟨ob,2,none⟩ (.int .i64 ((i+1:Nat):Int)):World);have H9:Hid (RnP w (.slice (some ⟨ga,0,none⟩) 0 0) gi ci ob (es.take (i+1)) ax (i+1) cx (i+1) W9):=by refine HX.put (W1:=wx) (Chg.refl _ _) HX.row HX.nl (by rw[a3];exact Chg.of_set _ _ _ _ rfl) ?_;rw[a3];exact HX.obx.set 2 _
   simp only[Int.natCast_add,Int.cast_ofNat_Int]at a3;clear H8 y ac ad ae ao a8;go_wp2_with fail;rw[<-a3];go_roundw;case rel=>exact⟨i+1,ax,cx,by omega,rfl,by first|rfl|go_num,H9⟩
   case measure=>simp[intOf];omega
  .have z:¬(i:Int)<(M:Int):=by omega
   obtain rfl:i=M:=by omega
   obtain⟨t0,t1,t2⟩:=HJ.obx.c3;obtain⟨v0,v1,v2⟩:=HJ.res.c3;obtain⟨f0,f1,f2⟩:=HJ.res.f3;obtain⟨W9,a3⟩:=qE (set3 wo (w.heap.size+1) (.bool true) (.slice a i c) (.int .i64 (i:Int)):World);have H9:Hid (yA W9 w.heap.size 39 3 (w.heap.size+1) [.bool true,.slice a i c,.int .i64 (i:Int)]/\RnPP es w (.returned (.agg #[.bool true,.slice a i c,.int .i64 (i:Int)])) W9):=by
    have hc:Chg (λk=>k=w.heap.size+1) wo W9:=by rw[a3];exact((Chg.of_set (S:=λk=>k=w.heap.size+1) _ _ _ _ rfl).trans (Chg.of_set (S:=λk=>k=w.heap.size+1) _ _ _ _ rfl)).trans (Chg.of_set (S:=λk=>k=w.heap.size+1) _ _ _ _ rfl)
    refine⟨by rw[a3];exact HJ.res.set3 _ _ _,?_⟩;have hr:=HJ.row;rw[HM.2]at hr|-;rw[take_length]at hr;exact⟨a,c,rfl,hr.chg hc (λq hq z=>yAb hr HJ.res (by decide) _ hq (by rw[z];rfl)),Chg.below HJ.below hc HJ.below.size (λk q=>by omega)⟩
   unfold set3 at a3;go_wp2_with fail;rw[<-a3];obtain⟨q0,q1,q2⟩:=H9.1.c3;exact bodyPost_ret (v:=.agg #[.bool true,.slice a i c,.int .i64 (i:Int)]) (by simp[results,results61,go_sem,q0,q1,q2]) rfl H9.2
end
end Go.Proofs.YtehfleefkdojpaaGreatDoor
