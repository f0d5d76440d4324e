import Derived.Test.YtnnagkfoiganfaaGreatDoorRkAA
namespace Go.Proofs.YtnnagkfoiganfaaGreatDoor
open Go.ChangeShapes Go.WideShapes Go.ChangeAt Go.RowKit Go.Deep XD XI XU XG XP XK XW XT XF XE XH _root_.List _root_.Nat Go.Proofs.Tryz
set_option linter.unusedVariables false
set_option linter.unusedSimpArgs false
set_option maxRecDepth 100000
set_option maxHeartbeats 40000000
variable {p:List UInt8} {j:Nat} {f:UInt8->Bool}
theorem yKk(hj:j<=p.length):clsM p j false f=match yBw p j with| .inr e=>.inr e| .inl (a,b,k)=>clsM p k true (wider f a b):=by
 by_cases h:j<p.length
 .rw[clsM,dif_pos h,if_neg (by simp)];split<;>(next hc=>(rw[hc];first|done|rfl))
 .rw[clsM,dif_neg h];exact xCy
theorem yOl(h:p[j]?=some 93):clsM p j true f=.inl (f,j+1):=by rw[clsM,dif_pos (yAn h),if_pos ⟨h,rfl⟩]
theorem yOm(hj:j<=p.length)(h:¬p[j]?=some 93):clsM p j true f=match yBw p j with| .inr e=>.inr e| .inl (a,b,k)=>clsM p k true (wider f a b):=by
 by_cases h1:j<p.length
 .rw[clsM,dif_pos h1,if_neg (λq=>h q.1)];split<;>(next hc=>(rw[hc];first|done|rfl))
 .rw[clsM,dif_neg h1];exact xCy
noncomputable abbrev clsV(f:UInt8->Bool):Value:=.iface 360 (.agg (setA f))
theorem yVc:(prog.info? 360).map (λi=>(i.zero,i.size))=some (some (.agg (Array.replicate 256 false)),256):=qk
theorem yWa:(match prog.underlying 360 with|some (.struct fs)=>fs.toList.mapM (λf=>(prog.info? f.type).map λi=>(f.offset,i.size))|_=>none)=some [(0,256)]:=qk
theorem yRe:prog.built 358 []=some (setA (λ_=>false)):=by rw[yJh];kernel_rfl
theorem yMn:∀(l:List Value)(k:Nat)(z:List Value),k+l.length<=z.length->(l.zipIdx k).foldl (fun(cs:Array Value) (p:Value×Nat)=>cs.setIfInBounds (0+p.2) p.1) z.toArray=(z.take k++l++z.drop (k+l.length)).toArray
 | [],k,z,h=>by simp
 |x::l,k,z,h=>by
  simp only[zipIdx_cons,foldl_cons,Nat.zero_add,setIfInBounds_toArray]
  have h2:=yMn l (k+1) (z.set k x) (by simp at h|-;omega)
  simp only[Nat.zero_add]at h2
  rw[h2]
  congr 1
  have hk:k<z.length:=by simp at h;omega
  rw[take_add_one,take_set_of_le qr,getElem?_set_self hk]
  have h3:(z.set k x).drop (k+1+l.length)=z.drop (k+(x::l).length):=by rw[drop_set_of_lt qo];congr 1;simp;omega
  rw[h3]
  simp
theorem yKr(c:Array Value)(hc:c.size=256):prog.built 360 [(0,.agg c)]=some c:=by
 have hp:=yWa;cases hi:prog.info? 360 with
 |none=>have:=yVc;rw[hi]at this;cases this
 |some it=>
  have h1:=yVc;rw[hi]at h1;simp only[Option.map_some,Option.some.injEq,Prod.mk.injEq]at h1;cases hu:prog.underlying 360 with
  |none=>rw[hu]at hp;cases hp
  |some d=>
   rw[hu]at hp;cases d<;>try (cases hp;done)
   case struct fs=>
    simp only[]at hp;unfold Program.built;rw[hi,hu];simp only[];rw[h1.1,hp];simp only[];show Instr.fill _ (Array.replicate 256 false) [(0,.agg c)]=_;unfold Instr.fill;have hv:(Value.agg c).cells=c:=rfl;simp only[getElem?_toArray,getElem?_cons_zero,hv,hc];have hz:(Array.replicate 256 (Value.bool false)).size=256:=by simp
    rw[if_neg (by simp[hz])];unfold Instr.fill;congr 1;have h3:=yMn c.toList 0 (Array.replicate 256 (Value.bool false)).toList (by simp[hc]);rw[<-Array.foldl_toList,Array.toList_zipIdx];have h4:(Array.replicate 256 (Value.bool false)).toList.toArray=Array.replicate 256 (Value.bool false):=Array.toArray_toList;rw[h4]at h3;refine Eq.trans h3 ?_;have h5:(Array.replicate 256 (Value.bool false)).toList.drop (0+c.toList.length)= []:=by simp[hc]
    rw[h5];apply Array.ext';simp
variable {rest:List Oper} {o:Oper} {a:Act} {w:World} {Q:Exit->Act->World->Prop}
theorem yA9{ops:Array Oper}(hg:o.guard=none)(t:TypeId)(parts:Array (Nat×Operand))(ho:o.op=.build t parts)(cells:Array Value)
  (hb:prog.built t (parts.map fun(i,x)=>(i,a.eval x)).toList=some cells) (h:wpList prog ops Q rest (a.put o.dst (.agg cells)) w):wpList prog ops Q (o::rest) a w:=by
 refine wpList_build hg t parts ho (by rw[hb];rfl) ?_;rw[hb];exact h
theorem yCz{ops:Array Oper}(hgd:o.guard=none)(F:FuncId)(vals:Array Value)(hrun:(execOp a.eval o).run prog w=.ok (.enter F vals) w)
  (h:Calls prog F vals w λe w'=>match e with| .returned v=>wpList prog ops Q rest (a.put o.dst v) w'| .panicked chain=>Q (.panic chain) a w'| .outgrown=>False):wpList prog ops Q (o::rest) a w:=by
 refine wpList_plain hgd λK hK=>?_;unfold Oper.wp;rw[hrun,Oper.upon_enter];refine h.mono ?_;intro e w' he;cases e with
 |returned v=>exact hK _ _ he
 |panicked chain=>exact he
 |outgrown=>exact he.elim
theorem yH6{ops:Array Oper}(hg:o.guard=none) x (ho:o.op=.move x) (h:wpList prog ops Q rest (a.put o.dst (a.eval x)) w):wpList prog ops Q (o::rest) a w:=by refine wpList_plain hg λK hK=>?_;unfold Oper.wp execOp;simp only[ho,Sem.run_pure];exact hK _ _ h
def yCo(p:List UInt8)(i:Nat)(ng:Bool)(k:Nat)(b:Bool)(f:UInt8->Bool):Prop:=yAq p i=(match clsM p k b f with| .inl (f,k)=>.inl ((if ng=true then λc=> !f c else f),k)| .inr e=>.inr e)
variable {i k:Nat}
theorem yCo.eq{ng:Bool}{b:Bool}(h:yCo p i ng k b f):yAq p i=(match clsM p k b f with| .inl (f,k)=>.inl ((if ng=true then λc=> !f c else f),k)| .inr e=>.inr e):=h
def atOf(w:World)(g:Nat):Nat:=match w.cell? (xd g 1)with|some v=>(intOf v).toNat|none=>0
variable {base o:Nat} {p:ByteArray}
theorem yFg{g:Nat}(h:PrAt w base g p i o):atOf w g=i:=by unfold atOf;rw[h.cell (j:=1) rfl];simp[intOf]
theorem yW2{g:Nat}(h:PrAt w base g p i o)(hp:p.size<=200)(hi:i<=p.size):
  Calls prog 265 #[xp g] w λe w'=>Chg (λk=>k=g) w w'/\
   ((∃(f:UInt8->Bool)(k:Nat),yAq (sb p) i=.inl (f,k)/\e=.returned (clsV f)/\PrAt w' base g p k o)\/(∃(c:Int)(k:Nat),yAq (sb p) i=.inr (c,k)/\e=Pf c k)):=by
 have aw:=h.lt.2;have HP:=qH1 h;clear h;go_enter func265,ntmps265;go_wp2_with fail;refine(yD0 94 HP.out hp).mono ?_;rintro e w1 ⟨am,h1⟩;obtain⟨ng,j,rfl,hj,al,hM⟩:∃(ng:Bool)(j:Nat),e=.returned ng/\j<=p.size/\PrAt w1 base g p j o/\yCo (sb p) i ng j false (λ_=>false):=by
  rcases h1 with⟨hx,rfl,hP⟩|⟨hx,rfl,hP⟩
  .refine⟨true,i+1,rfl,by have:=qf hx;rw[yAe]at this;omega,hP,?_⟩;unfold yCo yAq;rw[if_pos hx];rfl
  .refine⟨false,i,rfl,hi,hP,?_⟩;unfold yCo yAq;rw[if_neg hx];generalize clsM (sb p) i false (λ_=>false)=r;cases r<;>rfl
 have a5:=qH3 al am hM;clear h1 am al hM HP;go_upto_region 2 with fail;apply wp_region_list;refine yH6 rfl _ rfl ?_;refine yA9 rfl _ _ rfl (setA (λ_=>false)) (by simp;exact yRe) ?_;simp only[Act.put,Act.eval,setIfInBounds_toArray,set_cons_succ,set_cons_zero];refine yCz rfl 267 #[xp g,.agg (setA (λ_=>false))] (by simp[execOp,go_sem,Act.eval,func267]) ?_;refine(yQj (λ_=>false) a5.1 hp hj).mono ?_;rintro e w2 ⟨ag,(⟨a,b,k,hk,rfl,ak⟩|⟨c,k,hk,rfl⟩)⟩;case inr=>
  refine⟨rfl,a5.2.1.trans ag,.inr ⟨c,k,?_,rfl⟩⟩;rw[a5.2.2.eq,yKk (by rw[yAe];exact hj),hk]
 obtain⟨fs,ad⟩:=qE (wider (λ_=>false) a b);have ah:k<=p.size:=by have:=(yFq hk).2.1;rw[yAe]at this;exact this
 have a9:Hid (PrAt w2 base g p k o/\Chg (λk=>k=g) w w2/\yCo (sb p) i ng k true fs):=by refine⟨ak,a5.2.1.trans ag,?_⟩;unfold yCo;rw[a5.2.2.eq,yKk (by rw[yAe];exact hj),hk,ad]
 rw[<-ad];clear ag hk ak a5 ad;simp only[Act.put,setIfInBounds_toArray,set_cons_succ,set_cons_zero];have ac:=a9.2.1.size;have an:=(zero_of_info yC1).1;have ao:=yAg fs;have aq:=run_storeCells_new (P:=prog) w2 358 (Array.replicate 256 false) (setA fs) (by rw[yAg];exact(zero_of_info yC1).2) (by rw[yAg];simp) (yEb fs);obtain⟨W3,ae⟩:=qE (w2.alloc (.cells (setA fs) 358));have a8:Hid (PrAt W3 base g p k o/\Chg (λk=>k=g) w W3/\yBd W3 w w2 fs/\w.heap.size<=w2.heap.size):=by rw[ae];have hb:Below w2 w2 (xw w2 (setA fs) 358):=qB;exact⟨yA.below a9.1 hb,a9.2.1.trans (Chg.of_below hb),yA.ofHeap (heap_alloc_last w2 _) ac (yAg fs),ac⟩
 have HM:=qH1 a9.2.2;go_wp2_with fail;rw[<-ae];obtain⟨SB,af⟩:=qE w2.heap.size;rw[<-af]at a8;rw[<-af];have ar:w.heap.size<=SB:=qo
 clear ae aq an ao a9 af ac;have av:¬g=SB:=qo
 go_loopw[] (λwr=>∃(k:Nat)(f:UInt8->Bool),k<=p.size/\PrAt wr base g p k o/\Chg (λk=>k=g) w wr/\yBd wr w SB f/\yCo (sb p) i ng k true f) (λwr=>p.size-atOf wr g);case atStart=>exact⟨k,fs,ah,a8.1,a8.2.1,a8.2.2.1,HM.out⟩
 case round=>
  clear a8 HM;obtain⟨k,f,hk,h1,h2,h3,h4⟩:=hrel;have HR:=qH4 h1 h2 h3 h4;have HA:=qH1 (yFg h1);clear h1 h2 h3 h4 ah;go_wp2_with fail;refine(yD0 93 HR.1 hp).mono ?_;rintro e w5 ⟨a4,(⟨hx,rfl,a7⟩|⟨hx,rfl,a7⟩)⟩
  .have HF:Hid (PrAt w5 base g p (k+1) o/\Chg (λk=>k=g) w w5/\yBd w5 w SB f/\yAq (sb p) i=.inl ((if ng=true then λc=> !f c else f),k+1)):=by refine⟨a7,HR.2.1.trans a4,yA.chg HR.2.2.1 a4 qo,?_⟩;rw[HR.2.2.2.eq,yOl hx]
   clear a4 hx a7 HR HA;have a1:=(zero_of_info yC1).2;cases ng
   .have h0:=yBd.heap HF.2.2.1;go_upto_region 7 with fail;apply wp_region_list;refine wpList_load_row rfl 358 _ rfl SB rfl 358 (setA f) (0,0) _ h0 underlying358 rfl (by rw[yAg];exact a1) ?_;simp only[Act.put,Act.eval,setIfInBounds_toArray,set_cons_succ,set_cons_zero];refine yA9 rfl _ _ rfl (setA f) (by simp[Act.eval];exact yKr _ (yAg f)) ?_;simp only[Act.put,Act.eval,setIfInBounds_toArray,set_cons_succ,set_cons_zero];clear h0;go_wp2_with fail;go_ret;exact⟨HF.2.1,.inl ⟨f,k+1,HF.2.2.2,rfl,HF.1⟩⟩
   .have h0:=yBd.heap HF.2.2.1;go_upto_region 6 with fail;apply wp_region_list;refine wpList_load_row rfl 358 _ rfl SB rfl 358 (setA f) (0,0) _ h0 underlying358 rfl (by rw[yAg];exact a1) ?_;simp only[Act.put,Act.eval,setIfInBounds_toArray,set_cons_succ,set_cons_zero];refine yCz rfl 263 #[.agg (setA f)] (by simp[execOp,go_sem,Act.eval,func263]) ?_;refine(yGv f w5).mono ?_;rintro e w6 ⟨rfl,aa⟩;simp only[Act.put,Act.eval,setIfInBounds_toArray,set_cons_succ,set_cons_zero];have a3:=qH3 (yA.below HF.1 aa) (HF.2.1.trans (Chg.of_below aa)) (yA.below HF.2.2.1 aa);have h6:=yBd.heap a3.2.2;refine wpList_store_row rfl 358 _ _ rfl SB (setA (λc=> !f c)) rfl rfl 358 (setA f) h6 (by rw[yAg];exact a1) (by rw[yAg,yAg]) (yEb _) ?_;have h7:=setRow_heap _ _ _ (setA (λc=> !f c)) _ _ h6;obtain⟨W7,a0⟩:=qE (w6.setRow SB (setA (λc=> !f c)));have a2:Hid (PrAt W7 base g p (k+1) o/\Chg (λk=>k=g) w W7):=by have hc:=yFs w6 SB (setA (λc=> !f c));rw[a0];exact⟨yA.chg a3.1 hc qo,a3.2.1.absorb hc (λj q=>.inr qo)⟩
    rw[<-a0]at h7|-;clear a0 h6 h0 aa;apply wpList_nil;go_upto_region 7 with fail;apply wp_region_list;refine wpList_load_row rfl 358 _ rfl SB rfl 358 (setA (λc=> !f c)) (0,0) _ h7 underlying358 rfl (by rw[yAg];exact a1) ?_;simp only[Act.put,Act.eval,setIfInBounds_toArray,set_cons_succ,set_cons_zero];refine yA9 rfl _ _ rfl (setA (λc=> !f c)) (by simp[Act.eval];exact yKr _ (yAg _)) ?_;simp only[Act.put,Act.eval,setIfInBounds_toArray,set_cons_succ,set_cons_zero];clear h7;go_wp2_with fail;go_ret;exact⟨a2.2,.inl ⟨λc=> !f c,k+1,HF.2.2.2,rfl,a2.1⟩⟩
  .have HF:=qH4 a7 (HR.2.1.trans a4) (yA.chg HR.2.2.1 a4 qo) hx;have HM:=qH1 HR.2.2.2;clear a4 hx a7 HR;have a1:=(zero_of_info yC1).2;have h0:=yBd.heap HF.2.2.1;go_upto_region 4 with fail;apply wp_region_list;refine yH6 rfl _ rfl ?_;refine wpList_load_row rfl 358 _ rfl SB rfl 358 (setA f) (0,0) _ h0 underlying358 rfl (by rw[yAg];exact a1) ?_;simp only[Act.put,Act.eval,setIfInBounds_toArray,set_cons_succ,set_cons_zero];refine yCz rfl 267 #[xp g,.agg (setA f)] (by simp[execOp,go_sem,Act.eval,func267]) ?_;refine(yQj f HF.1 hp hk).mono ?_;rintro e w6 ⟨ab,(⟨a,b,k6,a6,rfl,aj⟩|⟨c,k6,a6,rfl⟩)⟩;case inr=>
    refine⟨rfl,HF.2.1.trans ab,.inr ⟨c,k6,?_,rfl⟩⟩;rw[HM.eq,yOm (by rw[yAe];exact hk) HF.2.2.2,a6]
   have a3:=qH3 aj (HF.2.1.trans ab) (yA.chg HF.2.2.1 ab qo);have ai:=yFq a6;rw[yAe]at ai;have au:Hid (yCo (sb p) i ng k6 true (wider f a b)):=by show yCo _ _ _ _ _ _;unfold yCo;rw[HM.eq,yOm (by rw[yAe];exact hk) HF.2.2.2,a6]
   clear ab a6 aj h0 HM HF;simp only[Act.put,Act.eval,setIfInBounds_toArray,set_cons_succ,set_cons_zero];have h6:=yBd.heap a3.2.2;refine wpList_store_row rfl 358 _ _ rfl SB (setA (wider f a b)) rfl rfl 358 (setA f) h6 (by rw[yAg];exact a1) (by rw[yAg,yAg]) (yEb _) ?_;have h7:=setRow_heap _ _ _ (setA (wider f a b)) _ _ h6;obtain⟨W7,a0⟩:=qE (w6.setRow SB (setA (wider f a b)));have a2:Hid (PrAt W7 base g p k6 o/\Chg (λk=>k=g) w W7/\yBd W7 w SB (wider f a b)):=by
    have hc:=yFs w6 SB (setA (wider f a b));rw[<-a0]at h7;refine⟨?_,?_,yA.ofHeap h7 ar (yAg _)⟩
    .rw[a0];exact yA.chg a3.1 hc qo
    .rw[a0];exact a3.2.1.absorb hc (λj q=>.inr qo)
   rw[<-a0];clear a0 h6 h7;apply wpList_nil;go_wp2_with fail;go_roundw;case rel=>
    exact⟨_,_,_,_,_,_,⟨k6,wider f a b,ai.2.1,a2.1,a2.2.1,a2.2.2,au.out⟩,rfl⟩
   case measure=>rw[HA.out,yFg a2.1];omega
abbrev yRd(b:UInt8):Value:=.iface 348 (.agg #[.int .u8 (b.toNat:Int)])
def Bet(a b:Nat):Nat->Prop:=λk=>a<=k/\k<b
structure yC8(w:World)(R:Nat->Prop)(g:Nat)(vs:List Value):Prop where
 blk:R g
 lt:g<w.heap.size
 val:∀(i:Nat) v,vs[i]?=some v->(xk w g i v:Prop)
variable {w':World} {R:Nat->Prop}
theorem yC8.chg{S:Nat->Prop}{g:Nat}{vs:List Value}(h:yC8 w R g vs)(hc:Chg S w w')(hS:∀k,S k->¬R k):yC8 w' R g vs:=
 ⟨h.blk,Nat.lt_of_lt_of_le h.lt hc.size,λi v hv=>by rw[hc.cell (p:=(xd g i)) h.lt (λq=>hS g q h.blk)];exact h.val i v hv⟩
def yRk(N:Pat->Value->Prop)(w:World)(lo:Nat->Prop)(ts:List Pat)(u:Value):Prop:=
 (ts= []/\u=xh)\/∃(g cp:Nat)(us:List Value),u=(xg g ts.length cp)/\us.length=ts.length/\yC8 w lo g us/\∀(i:Nat) x t,us[i]?=some x->ts[i]?=some t->N t x
def yUd(N:Pat->Value->Prop)(w:World)(lo:Nat->Prop)(os:List (List Pat))(u:Value):Prop:=
 ∃(g cp:Nat)(us:List Value),u=(xg g os.length cp)/\us.length=os.length/\yC8 w lo g us/\∀(i:Nat) x ts,us[i]?=some x->os[i]?=some ts->yRk N w lo ts x
def yDl:Nat->World->(Nat->Prop)->Pat->Value->Prop
 |0,_,_,_,_=>False
 |n+1,w,lo,.byte b,v=>v=yRd b
 |n+1,w,lo,.cls f,v=>v=clsV f
 |n+1,w,lo,.rep t o r,v=>∃u,v=.iface 362 (.agg #[u,o,r])/\yDl n w lo t u
 |n+1,w,lo,.alt os,v=>∃u,v=.iface 304 (.agg #[u])/\yUd (yDl n w lo) w lo os u
variable {lo lo':Nat->Prop} {ts:List Pat} {u:Value}
theorem yRk.mono{N M:Pat->Value->Prop}(hN:∀t v,N t v->M t v)(hV:∀g vs,yC8 w lo g vs->yC8 w' lo' g vs):yRk N w lo ts u->yRk M w' lo' ts u
 | .inl h=>.inl h
 | .inr ⟨g,cp,us,h1,h2,h3,h4⟩=>.inr ⟨g,cp,us,h1,h2,hV _ _ h3,λi x t hx ht=>hN _ _ (h4 i x t hx ht)⟩
variable {os:List (List Pat)}
theorem yUd.mono{N M:Pat->Value->Prop}(hN:∀t v,N t v->M t v)(hV:∀g vs,yC8 w lo g vs->yC8 w' lo' g vs):yUd N w lo os u->yUd M w' lo' os u
 |⟨g,cp,us,h1,h2,h3,h4⟩=>⟨g,cp,us,h1,h2,hV _ _ h3,λi x t hx ht=>(h4 i x t hx ht).mono hN hV⟩
theorem yDl.mono:∀{n m:Nat}{w w':World}{lo lo':Nat->Prop}(hV:∀g vs,yC8 w lo g vs->yC8 w' lo' g vs){t:Pat}{v:Value},n<=m->yDl n w lo t v->yDl m w' lo' t v
 |0,_,_,_,_,_,_,_,_,_,h=>h.elim
 |n+1,0,_,_,_,_,_,_,_,hm,_=>qo
 |n+1,m+1,w,w',lo,lo',hV,.byte b,v,_,h=>h
 |n+1,m+1,w,w',lo,lo',hV,.cls f,v,_,h=>h
 |n+1,m+1,w,w',lo,lo',hV,.rep t o r,v,hm,⟨u,h1,h2⟩=>⟨u,h1,yDl.mono hV qo h2⟩
 |n+1,m+1,w,w',lo,lo',hV,.alt os,v,hm,⟨u,h1,h2⟩=>⟨u,h1,h2.mono (λt v q=>yDl.mono hV qo q) hV⟩
def yBt(w:World)(lo:Nat->Prop)(t:Pat)(v:Value):Prop:=∃n,yDl n w lo t v
def yFz(w:World)(lo:Nat->Prop)(ts:List Pat)(u:Value):Prop:=∃n,yRk (yDl n w lo) w lo ts u
def yDo(w:World)(lo:Nat->Prop)(os:List (List Pat))(u:Value):Prop:=∃n,yUd (yDl n w lo) w lo os u
theorem yI6{S:Nat->Prop}(hc:Chg S w w')(hS:∀k,S k->¬lo k)(hl:∀k,k<w.heap.size->lo k->lo' k):∀g vs,yC8 w lo g vs->yC8 w' lo' g vs:=λg vs h=>by
 have h1:=h.chg hc hS
 exact⟨hl g h.lt h1.blk,h1.lt,h1.val⟩
variable {t:Pat}
theorem yBt.move{S:Nat->Prop}{v:Value}(h:yBt w lo t v)(hc:Chg S w w')(hS:∀k,S k->¬lo k)(hl:∀k,k<w.heap.size->lo k->lo' k):yBt w' lo' t v:=by obtain⟨n,hn⟩:=h;exact⟨n,hn.mono (yI6 hc hS hl) qr⟩
theorem yFz.move{S:Nat->Prop}(h:yFz w lo ts u)(hc:Chg S w w')(hS:∀k,S k->¬lo k)(hl:∀k,k<w.heap.size->lo k->lo' k):yFz w' lo' ts u:=by exact xCo
theorem yDo.move{S:Nat->Prop}(h:yDo w lo os u)(hc:Chg S w w')(hS:∀k,S k->¬lo k)(hl:∀k,k<w.heap.size->lo k->lo' k):yDo w' lo' os u:=by exact xCo
theorem yJq(w:World)(lo:Nat->Prop)(b:UInt8):yBt w lo (.byte b) (yRd b):=⟨1,rfl⟩
theorem yMb(w:World)(lo:Nat->Prop)(f:UInt8->Bool):yBt w lo (.cls f) (clsV f):=⟨1,rfl⟩
theorem yWf{v:Value}(h:yBt w lo t v)(o r:Bool):yBt w lo (.rep t o r) (.iface 362 (.agg #[v,o,r])):=by obtain⟨n,hn⟩:=h;exact⟨n+1,v,rfl,hn⟩
theorem yWg(h:yDo w lo os u):yBt w lo (.alt os) (.iface 304 (.agg #[u])):=by obtain⟨n,hn⟩:=h;exact⟨n+1,u,rfl,hn⟩
theorem yPu:∀{ts:List Pat}{us:List Value},us.length=ts.length->(∀(i:Nat) x t,us[i]?=some x->ts[i]?=some t->yBt w lo t x)->∃n,∀(i:Nat) x t,us[i]?=some x->ts[i]?=some t->yDl n w lo t x
 | [],[],_,_=>⟨0,λi x t hx=>by simp at hx⟩
 |t::ts,u::us,hl,h=>by
  obtain⟨n,hn⟩:=yPu (ts:=ts) (us:=us) (by simpa using hl) (λi x t hx ht=>h (i+1) x t (by simpa using hx) (by simpa using ht))
  obtain⟨m,hm⟩:=h 0 u t rfl rfl
  refine⟨max n m,λi x t' hx ht=>?_⟩
  cases i with
  |zero=>simp at hx ht;subst hx ht;exact hm.mono (λ_ _ q=>q) (Nat.le_max_right _ _)
  |succ i=>exact(hn i x t' (by simpa using hx) (by simpa using ht)).mono (λ_ _ q=>q) (Nat.le_max_left _ _)
theorem yUo:∀{os:List (List Pat)}{us:List Value},us.length=os.length->(∀(i:Nat) x ts,us[i]?=some x->os[i]?=some ts->yFz w lo ts x)->∃n,∀(i:Nat) x ts,us[i]?=some x->os[i]?=some ts->yRk (yDl n w lo) w lo ts x
 | [],[],_,_=>⟨0,λi x t hx=>by simp at hx⟩
 |t::ts,u::us,hl,h=>by
  obtain⟨n,hn⟩:=yUo (os:=ts) (us:=us) (by simpa using hl) (λi x t hx ht=>h (i+1) x t (by simpa using hx) (by simpa using ht))
  obtain⟨m,hm⟩:=h 0 u t rfl rfl
  refine⟨max n m,λi x t' hx ht=>?_⟩
  cases i with
  |zero=>simp at hx ht;subst hx ht;exact hm.mono (λ_ _ q=>q.mono (λ_ _ q=>q) (Nat.le_max_right _ _)) (λ_ _ q=>q)
  |succ i=>exact(hn i x t' (by simpa using hx) (by simpa using ht)).mono (λ_ _ q=>q.mono (λ_ _ q=>q) (Nat.le_max_left _ _)) (λ_ _ q=>q)
theorem yBt.iface{v:Value}(h:yBt w lo t v):∃T c,v=.iface T (.agg c):=by
 obtain⟨n,hn⟩:=h;cases n with
 |zero=>exact hn.elim
 |succ n=>
  cases t with
  |byte b=>exact⟨_,_,hn⟩
  |cls f=>exact⟨_,_,hn⟩
  |rep t o r=>obtain⟨u,h1,_⟩:=hn;exact⟨_,_,h1⟩
  |alt os=>obtain⟨u,h1,_⟩:=hn;exact⟨_,_,h1⟩
def OwnN(w:World)(base:Nat)(v:Value)(us:List Value):Prop:=w.ownsRow base 346 1 v us.length us
def OwnQ(w:World)(base g cp:Nat)(us:List Value):Prop:=w.ownsRow base 316 1 (xg g us.length cp) us.length us
variable {cp:Nat} {us:List Value}
theorem OwnQ.lt{g:Nat}(h:OwnQ w base g cp us):base<=g/\g<w.heap.size:=World.ownsRow.lt h g rfl
theorem OwnQ.vals{g:Nat}(h:OwnQ w base g cp us)(hR:R g):yC8 w R g us:=by refine⟨hR,h.lt.2,λi v hv=>?_⟩;have hi:=qf hv;rw[World.ownsRow.cellAt h i qo,hv]
theorem OwnN.seq{v:Value}(h:OwnN w base v us)(hl:us.length=ts.length)(hN:∀(i:Nat) x t,us[i]?=some x->ts[i]?=some t->yBt w R t x)(hb:∀k,v.ownBlock=some k->R k):yFz w R ts v:=by
 obtain⟨n,hn⟩:=yPu hl hN;refine⟨n,?_⟩;have h':=h;rcases h.2 with⟨rfl,h0⟩|⟨g,cap,cur,rfl,h1,h2,h3⟩
 .left;refine⟨length_eq_zero_iff.1 qo,rfl⟩
 .right;have a0:=World.ownsRow.lt h' g rfl;refine⟨g,cap,us,by rw[hl],hl,⟨hb g rfl,a0.2,λi v hv=>?_⟩,hn⟩;have hi:=qf hv;rw[World.ownsRow.cellAt h' i qo,hv]
theorem Tryz.infoNode:(prog.info? 346).map (λi=>(i.zero,i.size,i.bytes))=some (some .nilIface,1,16):=qk
theorem Tryz.infoSeq:(prog.info? 316).map (λi=>(i.zero,i.size,i.bytes))=some (some (.agg #[xh]),1,24):=qk
def yI5(p:ByteArray)(base g i o:Nat)(w:World)(R:Nat->Pat->Prop)(e:Ending)(w':World):Prop:=
 Chg (λk=>k=g) w w'/\((∃(k:Nat)(t:Pat)(v:Value),R k t/\e=.returned v/\yBt w' (Bet w w') t v/\PrAt w' base g p k o)\/(∃(c:Int)(k:Nat),¬c=0/\(∀a,chkM (sb p) i o a=(c,k))/\e=Pf c k))
def xAj(p:ByteArray)(base g i o:Nat)(w:World)(e:Ending)(w':World):Prop:=
 Chg (λk=>k=g) w w'/\((∃(k:Nat)(os:List (List Pat))(u:Value),yDn (sb p) o i k os/\(∀c,(sb p)[k]?=some c->yFw c/\¬c=124)/\e=.returned (.agg #[u])/\yDo w' (Bet w w') os u/\PrAt w' base g p k o)\/(∃(c:Int)(k:Nat),¬c=0/\chkM (sb p) i o false=(c,k)/\e=Pf c k))
def AltC(p:ByteArray)(m:Nat):Prop:=∀(base g i o:Nat)(w:World),p.size-i<=m->i<=p.size->o<=20->PrAt w base g p i o->Calls prog 229 #[xp g] w (xAj p base g i o w)
def xCh(p:ByteArray)(m:Nat):Prop:=∀(base g i o:Nat)(w:World),p.size-i<=m->i<p.size->o<=20->(∀c,(sb p)[i]?=some c->¬yFw c)->PrAt w base g p i o->Calls prog 260 #[xp g] w (yI5 p base g i o w (yBy (sb p) o i))
theorem PrAt.open{g:Nat}(h:PrAt w base g p i o)(o':Nat):PrAt (xt w g 2 (xi o')) base g p i o':=yA.set h 2 (xi o')
theorem yDo.slice(h:yDo w lo os u):∃g n cp,u=(xg g n cp):=by obtain⟨n,g,cp,us,h1,_⟩:=h;exact⟨g,_,cp,h1⟩
variable {m:Nat}
theorem xB0(H:AltC p m)(hp:p.size<=200)(base g q o:Nat) w (hm:p.size-(q+1)<=m) (hq:(sb p)[q]?=some 40) (ho:o<=20) (h:PrAt w base g p (q+1) o):
  Calls prog 264 #[xp g] w (yI5 p base g q o w (yBy (sb p) o q)):=by
 have HP:Hid (PrAt w base g p (q+1) o/\(sb p)[q]?=some 40):=⟨h,hq⟩;have aj:=h.lt.2;have ae:q+1<=p.size:=by have:=yAn hq;rw[yAe]at this;omega
 have c1:=h.cell (j:=1) rfl;have c2:=h.cell (j:=2) rfl;have f2:=h.frozen 2;clear h hq;by_cases ho20:o=20
 .subst ho20;go_enter func264,ntmps264;go_wp2_with fail;exact⟨rfl,Chg.refl _ _,.inr ⟨3,q,qj,λa=>by rw[yDu HP.2,if_pos rfl],by first|rfl|simp⟩⟩
 have ag:¬(o:Int)=20:=qo
 have HW:Hid (PrAt (xt w g 2 (xi (o+1:Nat))) base g p (q+1) (o+1)/\Chg (λk=>k=g) w (xt w g 2 (xi (o+1:Nat)))):=⟨PrAt.open HP.1 (o+1),Chg.of_set w g 2 _ rfl⟩;obtain⟨W,hW⟩:=qW (xt w g 2 (xi (o+1:Nat)));have a9:W.heap.size=w.heap.size:=by rw[hW];simp[World.setCell]
 rw[<-hW]at HW;have ac:W=(xt w g 2 (xi ((o:Int)+1))):=hW;have HZ:Hid (W.heap.size=w.heap.size):=a9;clear hW a9;go_enter func264,ntmps264;go_upto_region 4 with fail;rw[<-ac];clear ac c1 c2 f2;go_wp2_with fail;refine(H base g (q+1) (o+1) W hm ae qo HW.1).mono ?_;rintro e w2 ⟨a8,(⟨k,os,u,hA,hN,rfl,hU,ad⟩|⟨c,k,af,hk,rfl⟩)⟩;case inr=>
  refine⟨rfl,HW.2.trans a8,.inr ⟨c,k,af,λa=>?_,rfl⟩⟩;rw[yDu HP.2,if_neg ho20,hk]
 obtain⟨gu,nu,cu,rfl⟩:=hU.slice;have ah:k<=p.size:=by have:=hA.le;rw[yAe]at this;exact this
 have HA:Hid (yDn (sb p) (o+1) (q+1) k os/\(∀c,(sb p)[k]?=some c->yFw c/\¬c=124)):=⟨hA,hN⟩;have a4:Hid (yDo w2 (Bet w w2.heap.size) os (.slice (some ⟨gu,0,none⟩) nu cu)/\PrAt w2 base g p k (o+1)/\Chg (λk=>k=g) w w2):=⟨by rw[<-HZ.out];exact hU,ad,HW.2.trans a8⟩;clear a8 hA hN hU ad HW;obtain⟨W3,a5⟩:=qW (w2.alloc (Obj.cells #[.slice (some ⟨gu,0,none⟩) nu cu] 304));have ab:=a4.2.2.size;have a0:Hid (yDo W3 (Bet w.heap.size w2.heap.size) os (.slice (some ⟨gu,0,none⟩) nu cu)/\PrAt W3 base g p k (o+1)/\Chg (λk=>k=g) w W3/\yA W3 w.heap.size 304 1 w2.heap.size [.slice (some ⟨gu,0,none⟩) nu cu]):=by
  have hb:Below w2 w2 W3:=by rw[a5];exact qB
  refine⟨a4.1.move (S:=λ_=>False) (Chg.of_below hb) (λk q=>q.elim) (λk _ q=>q),yA.below a4.2.1 hb,a4.2.2.trans (Chg.of_below hb),?_⟩;rw[a5];exact yAa w2 _ ab rfl
 clear a4;go_upto_region 5 with fail;rw[<-a5];obtain⟨IB,a7⟩:=qE w2.heap.size;rw[<-a7]at a0;rw[<-a7];have ai:w.heap.size<=IB:=by omega
 clear a5 a7 ab;go_wp2_with fail;refine(yD0 41 a0.2.1 hp).mono ?_;rintro e w4 ⟨a1,(⟨hx,rfl,a2⟩|⟨hx,rfl,a2⟩)⟩;case inr=>
  have HF:Hid (PrAt w4 base g p k (o+1)/\Chg (λk=>k=g) w w4/\¬(sb p)[k]?=some 41):=⟨a2,a0.2.2.1.trans a1,hx⟩;clear a1 hx a2;go_wp2_with fail;refine(ySn HF.1).mono ?_;rintro e w5 ⟨rfl,rfl⟩;refine⟨rfl,HF.2.1,.inr ⟨2,k,by decide,λa=>?_,rfl⟩⟩;rw[yDu HP.2,if_neg ho20,HA.1.chk];by_cases hk:k<(sb p).length
  .obtain⟨c,hc⟩:∃c,(sb p)[k]?=some c:=qg hk;obtain⟨h1,h2⟩:=HA.2 c hc;rcases h1 with h1|h1|h1|h1
   .rw[yR hc h1];rfl
   .exact absurd h1 h2
   .subst h1;exact absurd hc HF.2.2
   .subst h1;rw[yQ9 hc]
  .rw[yHv hk,if_pos (by omega)];have:=HA.1.le;rw[show k=(sb p).length by omega]
 have HF:Hid (yDo w4 (Bet w IB) os (xg gu nu cu)/\PrAt w4 base g p (k+1) (o+1)/\Chg (λk=>k=g) w w4/\yA w4 w 304 1 IB [xg gu nu cu]/\(sb p)[k]?=some 41):=
  ⟨a0.1.move a1 (λk q=>by subst q;exact λz=>qw z.1) (λk _ q=>q),a2,a0.2.2.1.trans a1,yA.chg a0.2.2.2 a1 (by omega),hx⟩
 clear a1 hx a2 a0;go_wp2_with fail;refine(yNs _ w4).mono ?_;rintro e w5 ⟨rfl,aa⟩;rw[aa];clear aa;have d2:=HF.2.1.cell (j:=2) rfl;have g2:=HF.2.1.frozen 2;have a3:Hid (yDo (xt w4 g 2 (xi o)) (Bet w IB) os (xg gu nu cu)/\PrAt (xt w4 g 2 (xi o)) base g p (k+1) o/\Chg (λk=>k=g) w (xt w4 g 2 (xi o))/\yA (xt w4 g 2 (xi o)) w 304 1 IB [xg gu nu cu]):=by have hc:=Chg.of_set w4 g 2 (xi o) (S:=λk=>k=g) rfl;exact⟨HF.1.move hc (λk q=>by subst q;exact λz=>qw z.1) (λk _ q=>q),PrAt.open HF.2.1 o,HF.2.2.1.trans hc,yA.chg HF.2.2.2.1 hc (by omega)⟩
 have HC:Hid (yBy (sb p) o q (k+1) (.alt os)):=yBy.group HP.2 ho20 HA.1 HF.2.2.2.2;obtain⟨W6,a6⟩:=qW (xt w4 g 2 (xi o));rw[<-a6]at a3;clear HF HA;go_upto_region 7 with fail;rw[<-a6];clear a6 d2 g2;have b0:=a3.2.2.2.cell (j:=0) rfl;go_wp2;go_ret;exact⟨a3.2.2.1,.inl ⟨k+1,.alt os,_,HC.out,rfl,yWg (a3.1.move (S:=λ_=>False) (Chg.refl _ _) (λk q=>q.elim) (λk hk q=>⟨q.1,hk⟩)),a3.2.1⟩⟩
theorem yGy{x c:UInt8}(h:¬x=c):¬(x.toNat:Int)=(c.toNat:Int):=λq=>h (UInt8.toNat_inj.1 qo)
theorem xFt(H:AltC p m)(hp:p.size<=200):xCh p (m+1):=by
 intro base g i o w hm hi ho he h;obtain⟨x,hx⟩:∃x,(sb p)[i]?=some x:=qg (by rw[yAe];exact hi);have HX:Hid ((sb p)[i]?=some x/\¬yFw x):=⟨hx,he x hx⟩;have HP:Hid (PrAt w base g p i o):=h;have ab:=h.lt.2;clear h he hx;go_enter func260,ntmps260;go_wp2_with fail;refine(yJk HP.out hp HX.1).mono ?_;rintro e w1 ⟨rfl,a4,a3⟩;have a0:Hid (PrAt w1 base g p (i+1) o/\Chg (λk=>k=g) w w1):=⟨a4,a3⟩;have aa:=a3.size;clear a4 a3 HP;by_cases h46:x=46
 .subst h46;go_upto_region 5 with fail;apply wp_region_list;refine yA9 rfl _ _ rfl (setA (λ_=>false)) (by simp;exact yRe) ?_;simp only[Act.put,Act.eval,setIfInBounds_toArray,set_cons_succ,set_cons_zero];refine yCz rfl 263 #[.agg (setA (λ_=>false))] (by simp[execOp,go_sem,Act.eval,func263]) ?_;refine(yGv (λ_=>false) w1).mono ?_;rintro e w2 ⟨rfl,hb2⟩;simp only[Act.put,Act.eval,setIfInBounds_toArray,set_cons_succ,set_cons_zero];refine yA9 rfl _ _ rfl (setA (λ_=>true)) (by simp[Act.eval];exact yKr _ (yAg _)) ?_;simp only[Act.put,Act.eval,setIfInBounds_toArray,set_cons_succ,set_cons_zero];go_wp2;go_ret;exact⟨a0.2.trans (Chg.of_below hb2),.inl ⟨i+1,_,_,yBy.dot HX.1,rfl,yMb _ _ _,yA.below a0.1 hb2⟩⟩
 have a8:¬(x.toNat:Int)=46:=yGy (c:=46) h46;by_cases h92:x=92
 .subst h92;go_wp2_with fail;refine(yHi a0.1 hp qo).mono ?_;rintro e w2 ⟨a1,(⟨y,hy,rfl,a2⟩|⟨hy,rfl⟩)⟩;case inr=>
   refine⟨rfl,a0.2.trans a1,.inr ⟨2,i+1,by decide,λa=>?_,rfl⟩⟩;have h1:=yAn HX.1;have h2:¬i+1<(sb p).length:=λq=>by rw[getElem?_eq_getElem q]at hy;cases hy
   rw[yHu HX.1,if_pos (by omega)];rw[show i+1=(sb p).length by omega]
  have HF:Hid (PrAt w2 base g p (i+1+1) o/\Chg (λk=>k=g) w w2/\(sb p)[i+1]?=some y):=⟨a2,a0.2.trans a1,hy⟩;clear a1 hy a2;go_wp2;go_ret;exact⟨HF.2.1,.inl ⟨i+1+1,_,_,yBy.esc HX.1 HF.2.2,rfl,yJq _ _ _,HF.1⟩⟩
 have a6:¬(x.toNat:Int)=92:=yGy (c:=92) h92;by_cases h40:x=40
 .subst h40;go_wp2_with fail;refine(xB0 H hp base g i o w1 (by omega) HX.1 ho a0.1).mono ?_;rintro e w2 ⟨a1,(⟨k,t,v,hR,rfl,hN,a2⟩|⟨c,k,a5,hk,rfl⟩)⟩;case inr=>exact⟨rfl,a0.2.trans a1,.inr ⟨c,k,a5,hk,rfl⟩⟩
  have HF:Hid (yBy (sb p) o i k t/\yBt w2 (Bet w w2) t v/\PrAt w2 base g p k o/\Chg (λk=>k=g) w w2):=⟨hR,hN.move (S:=λ_=>False) (Chg.refl _ _) (λk q=>q.elim) (λk hk q=>⟨qw q.1,hk⟩),a2,a0.2.trans a1⟩;obtain⟨T,c,rfl⟩:=hN.iface;clear a1 hR hN a2;go_wp2;go_ret;exact⟨HF.2.2.2,.inl ⟨k,t,_,HF.1,rfl,HF.2.1,HF.2.2.1⟩⟩
 have a9:¬(x.toNat:Int)=40:=yGy (c:=40) h40;by_cases h91:x=91
 .subst h91;go_wp2_with fail;refine(yW2 a0.1 hp (by omega)).mono ?_;rintro e w2 ⟨a1,(⟨f,k,hk,rfl,a2⟩|⟨c,k,hk,rfl⟩)⟩;case inr=>exact⟨rfl,a0.2.trans a1,.inr ⟨c,k,yMt hk,λa=>by rw[yD5 HX.1,hk],rfl⟩⟩
  have HF:Hid (PrAt w2 base g p k o/\Chg (λk=>k=g) w w2/\yAq (sb p) (i+1)=.inl (f,k)):=⟨a2,a0.2.trans a1,hk⟩;clear a1 hk a2;go_wp2;go_ret;exact⟨HF.2.1,.inl ⟨k,_,_,yBy.class HX.1 HF.2.2,rfl,yMb _ _ _,HF.1⟩⟩
 have a7:¬(x.toNat:Int)=91:=yGy (c:=91) h91;have HS:Hid (¬yB3 x):=λq=>by
  rcases q with q|q|q|q|q
  .exact HX.2 q
  .exact h40 q
  .exact h91 q
  .exact h46 q
  .exact h92 q
 go_wp2;go_ret;exact⟨a0.2,.inl ⟨i+1,_,_,yBy.plain HX.1 HS.out,rfl,yJq _ _ _,a0.1⟩⟩
theorem yOd{p:List UInt8}{l:List UInt8}(h:inB p i l=true):∃c,p[i]?=some c/\c∈l:=by
 unfold inB at h;split at h
 .next c hc=>exact⟨c,hc,by simpa using h⟩
 .cases h
theorem yIy{p:List UInt8}{l:List UInt8}(h:inB p i l=false):∀c,p[i]?=some c->¬c∈l:=by intro c hc;unfold inB at h;rw[hc]at h;simpa using h
theorem yPs{c:UInt8}:c∈([42,43,63]:List UInt8)↔isOp c:=by simp[isOp]
structure RepJ(p:ByteArray)(base g i o j:Nat)(a:Pat)(v:Value)(RB:Nat)(w:World)(k:Nat)(op rp:Bool)(wr:World):Prop where
 ops:yL1 (sb p) o i j k a op rp
 rd:PrAt wr base g p k o
 box:yA wr w 362 3 RB [v,op,rp]
 node:yBt wr (Bet w RB) a v
 chg:Chg (λk=>k=g) w wr
variable {wr:World}
theorem RepJ.move{g:Nat}{a:Pat}{v:Value}{RB:Nat}{op rp:Bool}(h:RepJ p base g i o j a v RB w k op rp wr)(hb:Below wr wr w'):RepJ p base g i o j a v RB w k op rp w':=
 ⟨h.ops,yA.below h.rd hb,h.box.below hb,h.node.move (S:=λ_=>False) (Chg.of_below hb) (λk q=>q.elim) (λk _ q=>q),h.chg.trans (Chg.of_below hb)⟩
theorem RepJ.step{g:Nat}{a:Pat}{v:Value}{RB:Nat}{op rp:Bool}{c:UInt8}(h:RepJ p base g i o j a v RB w k op rp wr)(hg:g<w.heap.size)(hc:(sb p)[k]?=some c)(ho:isOp c)(hP:PrAt w' base g p (k+1) o)(hC:Chg (λk=>k=g) wr w'):
  RepJ p base g i o j a v RB w (k+1) (op || c != 43) (rp || c != 63) (xt (w'.setCell (xd RB 1) (op || c != 43)) RB 2 (rp || c != 63)):=by
 have hr:=h.box.lt.1;have c1:=Chg.of_set w' RB 1 (op || c != 43) (S:=λk=>k=RB) rfl;have c2:=Chg.of_set (xt w' RB 1 (op || c != 43)) RB 2 (rp || c != 63) (S:=λk=>k=RB) rfl;have c3:=c1.trans c2;refine⟨h.ops.more hc ho,yA.chg hP c3 qo,((h.box.chg hC qo).set 1 _).set 2 _,?_,((h.chg.trans hC).absorb c3 (λj q=>.inr qo))⟩;exact(h.node.move hC (λk q=>by subst q;exact λz=>by have:=z.1;omega) (λk _ q=>q)).move c3 (λk q=>by subst q;exact λz=>by have:=z.2;omega) (λk _ q=>q)
def RepC(p:ByteArray)(m:Nat):Prop:=∀(base g i o:Nat)(w:World),p.size-i<=m->i<p.size->o<=20->(∀c,(sb p)[i]?=some c->¬yFw c)->PrAt w base g p i o->Calls prog 257 #[xp g] w (yI5 p base g i o w (yT9 (sb p) o i))
theorem xDd(H:xCh p m)(hp:p.size<=200):RepC p m:=by
 intro base g i o w hm hi ho he h;have HP:Hid (PrAt w base g p i o):=h;have al:=h.lt.2;clear h;go_enter func257,ntmps257;go_wp2_with fail;refine(H base g i o w hm hi ho he HP.out).mono ?_;rintro e w1 ⟨a8,(⟨j,a,v,hA,rfl,hN,ag⟩|⟨c,k,am,hk,rfl⟩)⟩;case inr=>exact⟨rfl,a8,.inr ⟨c,k,am,hk,rfl⟩⟩
 obtain⟨T,cs,rfl⟩:=hN.iface;have a2:Hid (yBy (sb p) o i j a/\yBt w1 (Bet w w1) a (.iface T (.agg cs))/\PrAt w1 base g p j o/\Chg (λk=>k=g) w w1):=⟨hA,hN,ag,a8⟩;clear a8 hA hN ag HP;go_wp2_with fail;refine(yDs ⟨#[42,43,63]⟩ a2.2.2.1 hp).mono ?_;rintro e w2 ⟨rfl,hb2⟩
 have a1:Hid (yBt w2 (Bet w w2) a (.iface T (.agg cs))/\PrAt w2 base g p j o/\Chg (λk=>k=g) w w2):=
  ⟨a2.2.1.move (S:=λ_=>False) (Chg.of_below hb2) (λk q=>q.elim) (λk hk q=>⟨q.1,by have:=hb2.size;omega⟩),yA.below a2.2.2.1 hb2,a2.2.2.2.trans (Chg.of_below hb2)⟩
 have HA:Hid (yBy (sb p) o i j a):=a2.1;obtain⟨q,hq⟩:=qE (inB (sb p) j (sb ⟨#[42,43,63]⟩));have HQ:Hid (inB (sb p) j [42,43,63]=q):=hq.symm;rw[<-hq];clear hb2 hq a2;cases q
 .have HR:Hid (yT9 (sb p) o i j a):=by have:=(yL1.zero HA.out).rep (λc hc a3=>yIy HQ.out c hc (yPs.2 a3));rw[if_pos rfl]at this;exact this
  go_wp2_with fail;go_ret;exact⟨a1.2.2,.inl ⟨j,a,_,HR.out,rfl,a1.1,a1.2.1⟩⟩
 have ak:j<=p.size:=by have:=HA.le;rw[yAe]at this;exact this
 obtain⟨W3,a5⟩:=qE (xw w2 #[.iface T (.agg cs),false,false] 362:World);have ab:=a1.2.2.size;have a9:Hid (RepJ p base g i o j a (.iface T (.agg cs)) w2 w j false false W3):=by
  have hb:=qN a5
  refine⟨yL1.zero HA.out,yA.below a1.2.1 hb,?_,a1.1.move (S:=λ_=>False) (Chg.of_below hb) (λk q=>q.elim) (λk _ q=>q),a1.2.2.trans (Chg.of_below hb)⟩;rw[a5];exact yAa w2 _ ab rfl
 have an:Hid (∃c,(sb p)[j]?=some c/\isOp c):=by obtain⟨c,h1,h2⟩:=yOd HQ.out;exact⟨c,h1,yPs.1 h2⟩
 clear a1;go_wp2_with fail;rw[<-a5];obtain⟨RB,a6⟩:=qE w2.heap.size;rw[<-a6]at a9;rw[<-a6];have aq:w.heap.size<=RB:=by omega
 clear a5 a6 ab;go_loopw[5] (λsg wr=>∃(k:Nat)(op rp:Bool),j<=k/\k<=p.size/\(k=j->∃c,(sb p)[j]?=some c/\isOp c)/\RepJ p base g i o j a (.iface T (.agg cs)) RB w k op rp wr) (λ_ wr=>p.size-atOf wr g);case atStart=>exact⟨j,false,false,Nat.le_refl _,ak,λ_=>an.out,a9.out⟩
 case round=>
  obtain⟨k,op,rp,au,ar,ac,hJ⟩:=hrel;have HJ:Hid (RepJ p base g i o j a (.iface T (.agg cs)) RB w k op rp wr/\(k=j->∃c,(sb p)[j]?=some c/\isOp c)/\atOf wr g=k):=⟨hJ,ac,yFg hJ.rd⟩;clear hJ ac a9;go_wp2_with fail;refine(yDs ⟨#[42,43,63]⟩ HJ.1.rd hp).mono ?_;rintro e w5 ⟨rfl,ae⟩;have a0:Hid (RepJ p base g i o j a (.iface T (.agg cs)) RB w k op rp w5):=HJ.1.move ae;obtain⟨q,hq⟩:=qE (inB (sb p) k (sb ⟨#[42,43,63]⟩));have aa:Hid (inB (sb p) k [42,43,63]=q):=hq.symm;rw[<-hq];clear ae hq;cases q
  .have HR:Hid (yT9 (sb p) o i k (.rep a op rp)):=by
    have h1:=a0.ops.rep (λc hc a3=>yIy aa.out c hc (yPs.2 a3));rw[if_neg (λq=>by
     obtain⟨c,hc,a3⟩:=HJ.2.1 q.symm
     rw[q]at hc
     exact yIy aa.out c hc (yPs.2 a3))]at h1
    exact h1
   obtain⟨b0,b1,b2⟩:=a0.box.c3;go_wp2_with fail;go_ret;exact⟨a0.chg,.inl ⟨k,_,_,HR.out,rfl,yWf (a0.node.move (S:=λ_=>False) (Chg.refl _ _) (λk q=>q.elim) (λk hk q=>⟨q.1,hk⟩)) op rp,a0.rd⟩⟩
  .obtain⟨c,hc,ad⟩:=yOd aa.out;have HC:Hid ((sb p)[k]?=some c/\isOp c):=⟨hc,yPs.1 ad⟩;have aj:k+1<=p.size:=by have:=yAn hc;rw[yAe]at this;omega
   clear hc ad;go_wp2_with fail;refine(yJk a0.rd hp HC.1).mono ?_;rintro e w6 ⟨rfl,af,a7⟩;have ai:=a0.step al HC.1 HC.2 af a7;have a4:=a0.box.chg a7 (show¬RB=g by omega);have b1:=a4.cell (j:=1) rfl;have b2:=a4.cell (j:=2) rfl;have g1:=a4.frozen 1;have g2:=a4.frozen 2;have ah:=qH1 ai;have ao:=qH1 HJ.2.2;clear ai a4 af a7 a0 HJ;rcases HC.2 with rfl|rfl|rfl<;>cases op<;>cases rp
   all_goals go_wp2_with fail
   all_goals go_roundw
   all_goals first
    |exact⟨k+1,_,_,qo,aj,λq=>qo,ah.out⟩
    |exact Nat.lt_of_le_of_lt (Nat.le_of_eq (congrArg (p.size- ·) (yFg ah.rd))) (by rw[ao.out];omega)
section
def xFz(p:ByteArray)(base g i o:Nat)(w:World)(e:Ending)(w':World):Prop:=
 Chg (λk=>k=g) w w'/\((∃(k:Nat)(ts:List Pat)(u:Value),yKy (sb p) o i k ts/\(∀c,(sb p)[k]?=some c->yFw c)/\e=.returned (.agg #[u])/\yFz w' (Bet w w') ts u/\PrAt w' base g p k o)\/(∃(c:Int)(k:Nat),¬c=0/\chkM (sb p) i o false=(c,k)/\e=Pf c k))
def SeqC(p:ByteArray)(m:Nat):Prop:=∀(base g i o:Nat)(w:World),p.size-i<=m->i<=p.size->o<=20->PrAt w base g p i o->Calls prog 243 #[xp g] w (xFz p base g i o w)
def NR(lo:Nat)(v:Value):Nat->Prop:=λk=>lo<=k/\¬v.ownBlock=some k
structure SeqJ(p:ByteArray)(base g i o:Nat)(w:World)(k:Nat)(ts:List Pat)(us:List Value)(v:Value)(wr:World):Prop where
 ok:yKy (sb p) o i k ts
 rd:PrAt wr base g p k o
 res:yA wr w 316 1 w [xh]
 box:yA wr w 316 1 (w+1) [v]
 row:OwnN wr (w+2) v us
 len:us.length=ts.length
 nodes:∀(i:Nat) x t,us[i]?=some x->ts[i]?=some t->yBt wr (NR (w+2) v) t x
 chg:Chg (λk=>k=g) w wr
 glt:g<w.heap.size
theorem OwnN.chg{S:Nat->Prop}{v:Value}(h:OwnN w base v us)(hc:Chg S w w')(hn:∀k,v.ownBlock=some k->¬S k):OwnN w' base v us:=yAh h hc hn
theorem OwnN.slice{v:Value}(h:OwnN w base v us):∃a cp,v=.slice a us.length cp:=by
 rcases h.2 with⟨rfl,h0⟩|⟨g,cap,cur,rfl,_⟩
 .exact⟨none,0,by rw[h0]⟩
 .exact⟨_,_,rfl⟩
variable {p:ByteArray} {base g i o:Nat} {w:World} {k:Nat} {ts:List Pat} {us:List Value} {v:Value} {wr:World}
theorem SeqJ.move(h:SeqJ p base g i o w k ts us v wr)(hb:Below wr wr w'):SeqJ p base g i o w k ts us v w':=
 ⟨h.ok,yA.below h.rd hb,h.res.below hb,h.box.below hb,h.row.chg (S:=λ_=>False) (Chg.of_below hb) (λ_ _ q=>q),h.len,λi x t hx ht=>(h.nodes i x t hx ht).move (S:=λ_=>False) (Chg.of_below hb) (λk q=>q.elim) (λk _ q=>q),h.chg.trans (Chg.of_below hb),h.glt⟩
structure SeqK(p:ByteArray)(base g i o:Nat)(w:World)(k:Nat)(ts:List Pat)(us:List Value)(v:Value)(t:Pat)(x:Value)(wr:World):Prop where
 ok:yKy (sb p) o i k (ts++ [t])
 rd:PrAt wr base g p k o
 res:yA wr w 316 1 w [xh]
 box:yA wr w 316 1 (w+1) [v]
 row:OwnN wr (w+2) v us
 len:us.length=ts.length
 nodes:∀(i:Nat) y s,(us++ [x])[i]?=some y->(ts++ [t])[i]?=some s->yBt wr (NR (w+2) v) s y
 chg:Chg (λk=>k=g) w wr
 glt:g<w.heap.size
variable {x:Value}
theorem SeqK.move(h:SeqK p base g i o w k ts us v t x wr)(hb:Below wr wr w'):SeqK p base g i o w k ts us v t x w':=
 ⟨h.ok,yA.below h.rd hb,h.res.below hb,h.box.below hb,h.row.chg (S:=λ_=>False) (Chg.of_below hb) (λ_ _ q=>q),h.len,λi x t hx ht=>(h.nodes i x t hx ht).move (S:=λ_=>False) (Chg.of_below hb) (λk q=>q.elim) (λk _ q=>q),h.chg.trans (Chg.of_below hb),h.glt⟩
theorem yHg{α:Type}{l:List α}{a b:α}{i:Nat}(h:(l++ [a])[i]?=some b):l[i]?=some b\/(i=l.length/\b=a):=by
 by_cases hi:i<l.length
 .rw[getElem?_append_left hi]at h;exact .inl h
 .rw[getElem?_append_right qo]at h;have h2:=qf h;simp at h2;have:i-l.length=0:=qo
  rw[this]at h;simp at h;exact .inr ⟨qo,h.symm⟩
theorem SeqJ.rep{w6:World}{k6:Nat}(h:SeqJ p base g i o w k ts us v wr)(hC:Chg (λk=>k=g) wr w6)(hR:yT9 (sb p) o k k6 t)(hN:yBt w6 (Bet wr w6) t x)(hP:PrAt w6 base g p k6 o):SeqK p base g i o w k6 ts us v t x w6:=by
 have hg:=h.glt;have hz:=h.chg.size;have a0:=h.box.lt.2;have hv:∀j,v.ownBlock=some j->w.heap.size+2<=j/\j<wr.heap.size:=λj hj=>World.ownsRow.lt h.row j hj;refine⟨h.ok.more hR,hP,h.res.chg hC qo,h.box.chg hC qo,h.row.chg hC (λj hj q=>qw ((hv j hj).1)),h.len,?_,h.chg.trans hC,hg⟩;intro j y s hy hs;rcases yHg hy with hy|⟨hj,rfl⟩
 .rcases yHg hs with hs|⟨hj,rfl⟩
  .exact(h.nodes j y s hy hs).move hC (λq hq=>by subst hq;exact λz=>qw z.1) (λq _ z=>z)
  .have:=qf hy;have:=h.len;omega
 .rcases yHg hs with hs|⟨_,rfl⟩
  .have:=qf hs;have:=h.len;omega
  .refine hN.move (S:=λ_=>False) (Chg.refl _ _) (λq hq=>hq.elim) (λq _ z=>⟨?_,λe=>?_⟩)
   .have:=z.1;omega
   .have:=(hv q e).2;have:=z.1;omega
theorem SeqK.push{v':Value}(h:SeqK p base g i o w k ts us v t x wr)(hO:OwnN w' (w+2) v' (us++ [x]))(hg:wr.grownBy w' v.ownBlock)(hat:∀j,v'.ownBlock=some j->v.ownBlock=some j\/j=wr.heap.size):
  SeqJ p base g i o w k (ts++ [t]) (us++ [x]) v' (xt w' (w+1) 0 v')/\xk w' (w+1) 0 v/\w'.frozen? (xd (w+1) 0)=false:=by
 have a3:=h.glt;have hv:∀j,v.ownBlock=some j->w.heap.size+2<=j/\j<wr.heap.size:=λj hj=>World.ownsRow.lt h.row j hj;have a1:∀j,v'.ownBlock=some j->w.heap.size+2<=j/\j<w'.heap.size:=λj hj=>World.ownsRow.lt hO j hj;have hc:=Chg.of_grown hg (λj hj=>hj);have hs:Chg (λj=>j=w.heap.size+1) w' (xt w' (w+1) 0 v'):=Chg.of_set w' (w+1) 0 _ rfl;have a0:=h.box.chg hc (λq=>qw ((hv _ q).1));refine⟨⟨h.ok,?_,?_,a0.set 0 _,hO.chg hs (λj hj q=>qw ((a1 j hj).1)),by rw[length_append,length_append,h.len];rfl,?_,?_,a3⟩,a0.cell (j:=0) rfl,a0.frozen 0⟩
 .exact yA.chg (yA.chg h.rd hc (λq=>qw ((hv _ q).1))) hs (by omega)
 .exact(h.res.chg hc (λq=>qw ((hv _ q).1))).chg hs (by omega)
 .intro j y s hy a2;have h1:=(h.nodes j y s hy a2).move hc (λq hq z=>z.2 hq) (lo':=NR (w+2) v') (λq hq z=>⟨z.1,λe=>by rcases hat q e with e|e;exact z.2 e;omega⟩);exact h1.move hs (λq hq=>by subst hq;exact λz=>qw z.1) (λq _ z=>z)
 .exact(h.chg.absorb hc (λj q=>.inr (qw ((hv j q).1)))).absorb hs (λj q=>.inr (by omega))
theorem yIo{ops:Array Oper}{oo:Oper}{K:Act->World->Prop}{E:Prop}(w:World)(hgd:oo.guard=none) s x
  (ho:oo.op=.call {callee:=.builtin .append,args:=#[s,x],argTypes:=#[314,314]})
  (base n blk:Nat) (v y:Value) (us:List Value) (hn:n=us.length) (hs:a.eval s=v) (hx:a.eval x=(xg blk 1 1)) (hO:OwnN w base v us)
  (hc:(xk w blk 0 y:Prop)) (hy:y.oneCell'=true) (hlen:us.length<=1000) (hbase:base<=w.heap.size)
  (h:∀g' cp' w',OwnN w' base (xg g' (n+1) cp') (us++ [y])->w.grownBy w' v.ownBlock->(v.ownBlock=some g'\/g'=w.heap.size)->K (a.put oo.dst (xg g' (n+1) cp')) w'):if Region.wanted oo (yielded ops a.tmps)=true then Oper.wp prog oo a w K Q else E:=by
 subst hn;obtain⟨i,hi,a2,a1,a0⟩:=info_parts Tryz.infoNode;refine step_append_lies w hgd s x 314 ho base 346 i _ 1 16 underlying314 hi a2 a1 a0 rfl qj v us.length us hs hO (xd blk 0) 1 1 [y] hx rfl ?_ ?_ qj ?_ ?_ hbase w rfl ?_
 .exact xAp
 .intro u hu;simp at hu;subst hu;exact hy
 .unfold maxLen;omega
 .omega
 .intro g' cp' w' a5 a3 a4 a6;refine h g' cp' w' ?_ a3 a4;unfold OwnN;rw[length_append];exact a5
variable {p:ByteArray}
theorem xDa(H:RepC p m)(hp:p.size<=200):SeqC p m:=by
 intro base g i o w hm hi ho h;have ak:=h.lt.2;obtain⟨W0,a1⟩:=qW (xw (w.alloc (Obj.cells #[xh] 316)) #[xh] 316);have ae:Hid (SeqJ p base g i o w i [] [] xh W0):=by
  have hb:Below w w W0:=by rw[a1];exact(qB).alloc (by simp) _
  have h1:yA W0 w 316 1 w [xh]:=by rw[a1];exact yA.ofHeap (vs:=#[.slice none 0 0]) (heap_alloc2_old w _ _) qr rfl
  have h2:yA W0 w 316 1 (w+1) [xh]:=by rw[a1];exact yA.ofHeap (vs:=#[.slice none 0 0]) (heap_alloc2_new w _ _) qo rfl
  exact⟨yKy.nil (by rw[yAe];exact hi),yA.below h hb,h1,h2,World.ownsRow_nil ..,rfl,λi x t hx=>by simp at hx,Chg.of_below hb,ak⟩
 clear h;go_enter func243,ntmps243;go_wp2_with fail;rw[<-a1];clear a1;go_loopw[] (λwr=>∃(k:Nat)(ts:List Pat)(us:List Value)(v:Value),i<=k/\k<=p.size/\us.length<=k/\SeqJ p base g i o w k ts us v wr) (λwr=>p.size-atOf wr g);case atStart=>exact⟨i,[],[],_,Nat.le_refl _,hi,zero_le _,ae.out⟩
 case round=>
  obtain⟨k,ts,us,v,ax,aw,ar,hJ⟩:=hrel;have HJ:=qH2 hJ (yFg hJ.rd);obtain⟨va,vc,ag⟩:=hJ.row.slice;subst ag;clear hJ ae;have a8:=HJ.1.rd.lt.2;obtain⟨c0,c1⟩:=HJ.1.rd.c2;have e0:∀n:Out wr,(xk n.u g 0 p:Prop):=λn=>(n.out.cell (p:=(xd g 0)) a8).trans c0;have e1:∀n:Out wr,(xk n.u g 1 (xi k):Prop):=λn=>(n.out.cell (p:=(xd g 1)) a8).trans c1;obtain⟨q,hq⟩:=qE (inB (sb p) k (sb ⟨#[42,43,63,124,41,93]⟩));have HQ:=qH1 hq.symm;have HI:Hid (∀n:Out wr,(xf 256 #[xp g,.string ⟨#[42,43,63,124,41,93]⟩] n.u q:Prop)):=λn=>by rw[hq];exact yDs _ (yA.below HJ.1.rd n.out) hp
  clear c0 c1 hq;by_cases hgo:k<p.size/\q=false
  .obtain⟨a4,rfl⟩:=hgo;have z1:(k:Int)<(p.size:Int):=qo
   have an:Hid (∀c,(sb p)[k]?=some c->¬yFw c):=λc hc he=>yIy HQ.out c hc (by
    rcases he with(rfl|rfl|rfl)|rfl|rfl|rfl<;>simp)
   go_upto_region 2 with fail;refine yAs qk qk ?_;repeat (go_big_quiet_step ((first|rfl|(go_at_call 256;exact Calls.out_of (HI.out _)))))
   refine wpQuiet_nil ?_;rintro w1 ⟨⟨wx,hb1⟩,rfl⟩;have HJ1:=qH1 (HJ.1.move hb1);have ao:=qH1 HJ.2;have au:=hb1.size;clear e0 e1 HI hb1 HJ;have b0:=HJ1.box.cell (j:=0) rfl;have av:=HJ1.box.lt.2;have am:Hid (∀w',Below w1 w1 w'->Calls prog 257 #[xp g] w' (yI5 p base g k o w' (yT9 (sb p) o k))):=λw' hb=>H base g k o w' qo a4 ho an.out (yA.below HJ1.rd hb);go_upto_region 3 with fail
   go_region_law ((first
                |(go_simp;go_at_call 257;refine(am.out _ (Below.refl _ _).drew).mono ?_;rintro e' w6 ⟨a7,(⟨k6,t,x,a5,rfl,a6,ab⟩|⟨c6,k6,al,ai,rfl⟩)⟩;(case inr=>exact⟨rfl,(HJ1.move (Below.refl _ _).drew).chg.trans a7,.inr ⟨c6,k6,al,by rw[HJ1.ok.chk,ai],rfl⟩⟩);obtain⟨T6,a3,rfl⟩:=a6.iface;have a0:=qH2 ((HJ1.move (Below.refl _ _).drew).rep a7 a5 a6 ab) a5;have m6:=a0.1.box.cell (j:=0) rfl;have af:=a0.1.box.lt.2;have aq:∀o,(xk (w6.alloc o) (w+1) 0 (.slice va us.length vc):Prop):=λo=>by {rw[((Below.refl w6 w6).alloc qr o).cell (p:=(xd (w+1) 0)) af];exact m6};clear a7 a5 a6 ab)
                |(refine yIo _ (by rfl) _ _ (by rfl) (w+2) us.length w6 (.slice va us.length vc) (.iface T6 (.agg a3)) us rfl (by rfl) (by rfl) ?hO ?hc rfl ?hl ?hb ?_
                  case hO=>exact(a0.1.move (qB)).row
                  case hc=>simp
                  case hl=>omega
                  case hb=>have:=(a0.1.move ((Below.refl _ _).alloc qr (Obj.cells #[.iface T6 (.agg a3)] 346))).box.lt.2;omega
                  intro g7 ay w7 ac a9 aa
                  have a2:=(a0.1.move ((Below.refl _ _).alloc qr (Obj.cells #[.iface T6 (.agg a3)] 346))).push ac a9 (λj hj=>by have aj:g7=j:=by {simpa [Value.ownBlock]using hj};rw[<-aj];exact aa)
                  have ad:=qH1 a2.1
                  have m7:=a2.2.1
                  have f7:=a2.2.2
                  clear a2 ac a9 aa)))
   all_goals go_wp2_with fail
   all_goals go_roundw
   all_goals first
    |exact⟨k6,ts++ [t],us++ [.iface T6 (.agg a3)],_,qw a0.2.lt,by have:=a0.2.le;rw[yAe]at this;exact this,by have:=a0.2.lt;rw[length_append];simp;omega,ad.out⟩
    |(rw[ao.out,yFg ad.out.rd];have:=a0.2.lt;omega)
  .have HE:Hid (∀c,(sb p)[k]?=some c->yFw c):=by
    intro c hc;have hk:=yAn hc;rw[yAe]at hk;cases q
    .exact absurd ⟨hk,rfl⟩ hgo
    .obtain⟨d,hd,hm⟩:=yOd HQ.out;rw[hc]at hd;cases hd
     simp at hm;rcases hm with rfl|rfl|rfl|rfl|rfl|rfl<;>simp[yFw,isOp]
   have HX:=qH1 HJ.1;clear HQ HJ;have fin:∀w1,Below wr wr w1->Hid (SeqJ p base g i o w k ts us (.slice va us.length vc) w1):=λw1 hb=>HX.move hb;by_cases a4:k<p.size
   .have ah:q=true:=by
     cases q
     .exact absurd ⟨a4,rfl⟩ hgo
     .rfl
    subst ah;have z1:(k:Int)<(p.size:Int):=qo
    clear hgo;go_upto_region 2 with fail;refine yAs qk qk ?_;repeat (go_big_quiet_step ((first|rfl|(go_at_call 256;exact Calls.out_of (HI.out _)))))
    exact xG0
   .have z1:¬(k:Int)<(p.size:Int):=qo
    clear hgo;go_upto_region 2 with fail;refine yAs qk qk ?_;repeat (go_big_quiet_step (rfl))
    exact xG0
end
section
structure AltJ(p:ByteArray)(base g i o:Nat)(w:World)(k:Nat)(os:List (List Pat))(us:List Value)(gq cp:Nat)(wr:World):Prop where
 ok:yDn (sb p) o i k os
 nxt:∀c,(sb p)[k]?=some c->yFw c
 rd:PrAt wr base g p k o
 res:yA wr w 304 1 w [xh]
 row:OwnQ wr (w+1) gq cp us
 len:us.length=os.length
 seqs:∀(i:Nat) x ts,us[i]?=some x->os[i]?=some ts->yFz wr (λj=>w.heap.size+1<=j/\¬j=gq) ts x
 chg:Chg (λk=>k=g) w wr
 glt:g<w.heap.size
theorem OwnQ.chg{S:Nat->Prop}{gq:Nat}(h:OwnQ w base gq cp us)(hc:Chg S w w')(hn:¬S gq):OwnQ w' base gq cp us:=yAh h hc (λk q=>by simp[Value.ownBlock]at q;subst q;exact hn)
variable {p:ByteArray} {base g i o:Nat} {w:World} {k:Nat} {os:List (List Pat)} {us:List Value} {gq cp:Nat} {wr:World}
theorem AltJ.read{k':Nat}(h:AltJ p base g i o w k os us gq cp wr)(hC:Chg (λk=>k=g) wr w')(hP:PrAt w' base g p k' o):
  yA w' w 304 1 w [xh]/\OwnQ w' (w+1) gq cp us/\(∀(i:Nat) x ts,us[i]?=some x->os[i]?=some ts->yFz w' (λj=>w.heap.size+1<=j/\¬j=gq) ts x)/\Chg (λk=>k=g) w w':=by
 have hg:=h.glt;have hq:=h.row.lt;exact⟨h.res.chg hC qo,h.row.chg hC qo,λi x ts hx ht=>(h.seqs i x ts hx ht).move hC (λq hq=>by subst hq;exact λz=>qw z.1) (λq _ z=>z),h.chg.trans hC⟩
theorem yG9{ops:Array Oper}{oo:Oper}(w:World)(hgd:oo.guard=none) s x
  (ho:oo.op=.call {callee:=.builtin .append,args:=#[s,x],argTypes:=#[302,302]})
  (base gq cp n b:Nat) (us:List Value) (y:Value) (hs:a.eval s=(xg gq n cp)) (hx:a.eval x=(xg b 1 1)) (hn:n=us.length) (hO:OwnQ w base gq cp us)
  (hc:(xk w b 0 y:Prop)) (hy:y.oneCell'=true) (hlen:us.length<=1000) (hbase:base<=w.heap.size)
  (h:∀g' cp' w',OwnQ w' base g' cp' (us++ [y])->w.grownBy w' (some gq)->(g'=gq\/g'=w.heap.size)->wpList prog ops Q rest (a.put oo.dst (xg g' (n+1) cp')) w'):wpList prog ops Q (oo::rest) a w:=by
 subst hn;obtain⟨i,hi,a4,a3,a2⟩:=info_parts Tryz.infoSeq;refine wpList_append_own_at w hgd s x 302 ho base 316 i _ 1 24 underlying302 hi a4 a3 a2 rfl qj (xg gq us.length cp) us.length us hs hO (xd b 0) 1 1 [y] hx rfl ?_ ?_ ?_ ?_ hbase ?_
 .exact xAp
 .intro u hu;simp at hu;subst hu;exact hy
 .unfold maxLen;omega
 .omega
 .intro v' w' a1 a6 a5 a0;rcases a1.2 with⟨h0,_⟩|⟨g',a7,cur,hv,_,_,hn,a8,_,_⟩
  .have:=(a5.1 h0).1;cases this
  .subst hv;refine h g' a7 w' ?_ a6 ?_
   .unfold OwnQ;rw[length_append];exact a1
   .simp[Value.ownBlock]at a0;exact a0
variable {w:World}
theorem yFz.slice(h:yFz w R ts u):∃a n cp,u=.slice a n cp:=by
 obtain⟨n,h|⟨g,cp,us,h1,_⟩⟩:=h
 .exact⟨_,_,_,h.2⟩
 .exact⟨_,_,_,h1⟩
variable {p:ByteArray}
theorem xDm(H:SeqC p m)(hp:p.size<=200):AltC p m:=by
 intro base g i o w hm hi ho h;have am:=h.lt.2;obtain⟨W0,a8⟩:=qW (xw w #[xh] 304);have a6:Hid (PrAt W0 base g p i o/\yA W0 w 304 1 w [xh]/\Chg (λk=>k=g) w W0/\W0.heap.size=w.heap.size+1):=by
  have hb:=qN a8
  refine⟨yA.below h hb,?_,Chg.of_below hb,by rw[a8];simp⟩;rw[a8];exact yAa w _ qr rfl
 clear h;go_enter func229,ntmps229;go_upto_region 1 with fail;rw[<-a8];clear a8;go_wp2_with fail;refine(H base g i o W0 hm hi ho a6.1).mono ?_;rintro e w1 ⟨a9,(⟨k,ts,u,hS,hE,rfl,hU,aq⟩|⟨c,k,ai,hk,rfl⟩)⟩;case inr=>exact⟨rfl,a6.2.2.1.trans a9,.inr ⟨c,k,ai,hk,rfl⟩⟩
 obtain⟨ua,un,uc,rfl⟩:=hU.slice;have af:i<=k/\k<=p.size:=by have h1:=hS.le;have h2:=hS.lei;rw[yAe]at h1;exact⟨h2,h1⟩
 obtain⟨W2,ab⟩:=qW (xw w1 #[.slice ua un uc] 316);have ak:Hid (AltJ p base g i o w k [ts] [.slice ua un uc] w1 1 W2):=by
  have hb:=qN ab
  have hz:=a6.2.2.2;have hs:=a9.size;refine⟨yDn.one hS,hE,yA.below aq hb,(a6.2.1.chg a9 qo).below hb,?_,rfl,?_,(a6.2.2.1.trans a9).trans (Chg.of_below hb),am⟩
  .rw[ab];exact World.ownsRow_lit w1 #[.slice ua un uc] 1 qo qj rfl
  .intro j x ss hx al;have hj:j=0:=by have:=qf hx;simpa using this
   subst hj;simp at hx al;subst hx al;exact hU.move (S:=λ_=>False) (Chg.of_below hb) (λq hq=>hq.elim) (λq hq z=>⟨qw z.1,qo⟩)
 clear a9 hS hE hU aq a6;go_wp2_with fail;rw[<-ab];obtain⟨aA,ah⟩:=qE w1;rw[<-ah]at ak;rw[<-ah];clear ab ah;go_loopw[3] (λsv wr=>∃(k gq cp:Nat)(os:List (List Pat))(us:List Value),i<=k/\k<=p.size/\us.length<=k+1/\sv=(xg gq us.length cp)/\AltJ p base g i o w k os us gq cp wr) (λ_ wr=>p.size-atOf wr g);case atStart=>exact⟨k,aA,1,[ts],[.slice ua un uc],af.1,af.2,by simp,rfl,ak.out⟩
 case round=>
  obtain⟨k,gq,cp,os,us,aF,af,aC,rfl,hJ⟩:=hrel;have HJ:=qH2 hJ (yFg hJ.rd);clear hJ ak;go_wp2_with fail;refine(yD0 124 HJ.1.rd hp).mono ?_;rintro e w3 ⟨ae,(⟨hx,rfl,a1⟩|⟨hx,rfl,a1⟩)⟩
  .have az:k+1<=p.size:=by have:=yAn hx;rw[yAe]at this;omega
   have HX:=qH3 hx a1 (HJ.1.read ae a1);have a7:Hid (yDn (sb p) o i k os/\us.length=os.length/\atOf wr g=k):=⟨HJ.1.ok,HJ.1.len,HJ.2⟩;clear ae hx a1 HJ;go_wp2_with fail;refine(H base g (k+1) o w3 qo az ho HX.2.1).mono ?_;rintro e w4 ⟨ad,(⟨k4,aa,u4,ac,au,rfl,aj,ao⟩|⟨c,k4,ai,ay,rfl⟩)⟩;case inr=>
    refine⟨rfl,HX.2.2.2.2.2.trans ad,.inr ⟨c,k4,ai,?_,rfl⟩⟩;rw[a7.1.chk,yKl HX.1,ay]
   obtain⟨a4,a2,a3,rfl⟩:=aj.slice;have ax:k+1<=k4/\k4<=p.size:=by have h1:=ac.le;have h2:=ac.lei;rw[yAe]at h1;exact⟨h2,h1⟩
   obtain⟨W5,a5⟩:=qW (xw w4 #[.slice a4 a2 a3] 316);have a0:Hid (yDn (sb p) o i k4 (os++ [aa])/\(∀c,(sb p)[k4]?=some c->yFw c)/\PrAt W5 base g p k4 o/\yA W5 w 304 1 w [xh]/\OwnQ W5 (w+1) gq cp us/\(∀(i:Nat) x ts,(us++ [.slice a4 a2 a3])[i]?=some x->(os++ [aa])[i]?=some ts->yFz W5 (λj=>w.heap.size+1<=j/\¬j=gq) ts x)/\Chg (λk=>k=g) w W5/\xk W5 w4 0 (.slice a4 a2 a3)/\w.heap.size+1<=W5.heap.size):=by
    have hb:=qN a5
    have hq:=HX.2.2.2.1.lt;have aE:=ad.size;have aD:=hb.size;have hc:Chg (λk=>k=g) w3 W5:=ad.trans (Chg.of_below hb);refine⟨yDn.more a7.1 HX.1 ac,au,yA.below ao hb,HX.2.2.1.chg hc qo,HX.2.2.2.1.chg hc qo,?_,HX.2.2.2.2.2.trans hc,by rw[a5];simp,qo⟩;intro j y s hy hs;rcases yHg hy with hy|⟨hj,rfl⟩
    .rcases yHg hs with hs|⟨hj,rfl⟩
     .exact(HX.2.2.2.2.1 j y s hy hs).move hc (λq hq=>by subst hq;exact λz=>qw z.1) (λq _ z=>z)
     .have:=qf hy;have:=a7.2.1;omega
    .rcases yHg hs with hs|⟨_,rfl⟩
     .have:=qf hs;have:=a7.2.1;omega
     .exact aj.move (S:=λ_=>False) (Chg.of_below hb) (λq hq=>hq.elim) (λq _ z=>⟨qw z.1,λe=>qw z.1⟩)
   clear ad ac au aj ao HX;go_wp2_with (at_builtin;rw[<-a5];refine yG9 _ rfl _ _ rfl (w+1) gq cp us.length w4 us (.slice a4 a2 a3) rfl rfl rfl ?hO ?hc rfl ?hl ?hb ?_);case hO=>exact a0.2.2.2.2.1
   case hc=>exact a0.2.2.2.2.2.2.2.1
   case hl=>omega
   case hb=>exact a0.2.2.2.2.2.2.2.2
   intro g6 av w6 ar ag an;rw[<-a5]at ag;have aB:=qS a5
   have aw:Hid (AltJ p base g i o w k4 (os++ [aa]) (us++ [.slice a4 a2 a3]) g6 av w6):=by have hq:=a0.2.2.2.2.1.lt;have hc:Chg (λj=>j=gq) W5 w6:=Chg.of_grown ag (λj hj=>by cases hj;rfl);refine⟨a0.1,a0.2.1,yA.chg a0.2.2.1 hc (by omega),a0.2.2.2.1.chg hc (by omega),ar,by rw[length_append,length_append,a7.2.1];rfl,?_,a0.2.2.2.2.2.2.1.absorb hc (λj q=>.inr (by omega)),am⟩;intro j y s hy hs;exact(a0.2.2.2.2.2.1 j y s hy hs).move hc (λq hq z=>z.2 hq) (λq hq z=>⟨z.1,λe=>by rcases an with r|r;exact z.2 qo;omega⟩)
   clear ar ag an a5 a0;go_wp2;go_roundw;case rel=>exact⟨k4,g6,av,os++ [aa],us++ [.slice a4 a2 a3],qo,ax.2,by rw[length_append];simp;omega,by rw[length_append];rfl,aw.out⟩
   case measure=>rw[a7.2.2,yFg aw.rd];omega
  .have HX:=qH3 HJ.1.ok (λc hc=>⟨HJ.1.nxt c hc,λq=>by subst q;exact hx hc⟩:(∀c,(sb p)[k]?=some c->yFw c/\¬c=124)) HJ.1.len;have HR:=HJ.1.read ae a1;have HF:=qH2 a1 HR;clear HR ae hx a1 HJ;have r0:=HF.2.1.cell (j:=0) rfl;have rf:=HF.2.1.frozen 0;go_wp2;refine bodyPost_ret (v:=.agg #[xg gq us.length cp]) (by simp[results,results229,go_sem,World.cell?_setCell_same _ _ _ r0]) rfl ?_;have hc:=Chg.of_set w3 w 0 (xg gq us.length cp) (S:=λj=>j=w.heap.size) rfl;have hq:=HF.2.2.1.lt;refine⟨HF.2.2.2.2.absorb hc (λj q=>.inr qo),.inl ⟨k,os,_,HX.1,HX.2.1,rfl,?_,yA.chg HF.1 hc qo⟩⟩;obtain⟨n,hn⟩:=yUo HX.2.2 (λi x ts hx ht=>(HF.2.2.2.1 i x ts hx ht).move (S:=λ_=>False) (Chg.refl _ _) (λ_ q=>q.elim) (lo':=λj=>w.heap.size+1<=j) (λ_ _ q=>q.1));have hA:yDo w3 (λj=>w.heap.size+1<=j) os (xg gq us.length cp):=⟨n,gq,cp,us,by rw[HX.2.2],HX.2.2,HF.2.2.1.vals hq.1,hn⟩;exact hA.move hc (λj q=>by subst q;exact λz=>qo) (λj hj z=>⟨qo,qw hc.size⟩)
theorem xAc(hp:p.size<=200):∀m,xCh p m/\AltC p m
 |0=>by
  have h0:xCh p 0:=λbase g i o w hm hi=>qo
  exact⟨h0,xDm (xDa (xDd h0 hp) hp) hp⟩
 |m+1=>by
  have h1:=xFt (xAc hp m).2 hp
  exact⟨h1,xDm (xDa (xDd h1 hp) hp) hp⟩
theorem xCc(hp:p.size<=200)(base g i o:Nat) w (hi:i<=p.size) (ho:o<=20) (h:PrAt w base g p i o):Calls prog 229 #[xp g] w (xAj p base g i o w):=
 (xAc hp (p.size-i)).2 base g i o w qr hi ho h
end
theorem yYk(c a:Int)(w:World):(Instr.typeAssert (pfV c a) 20 321 true).run prog w=.ok (.tuple #[.agg #[xi c,xi a],true]) w:=qk
theorem xBh(w:World):(xf 228 #[.nilIface] w (.agg #[xi 0,xi 0]):Prop):=by go_enter func228,ntmps228;go_wp2_with fail;refine bodyPost_ret (v:=.agg #[xi 0,xi 0]) (by simp[results,results228,go_sem]) rfl ⟨rfl,?_⟩;exact qB
theorem xEw(c a:Int)(w:World):(xf 228 #[pfV c a] w (.agg #[xi c,xi a]):Prop):=by
 have a4:=yYk;obtain⟨W,hW⟩:=qE (xw w #[xi 0,xi 0] 321:World);have HW:Hid (yA W w 321 2 w [xi 0,xi 0]/\Below w w W):=by rw[hW];exact⟨yAa w _ qr rfl,qB⟩
 obtain⟨W2,a1⟩:=qE (xw W #[xi c,xi a] 321:World);have a0:Hid (yA W2 w 321 2 w [xi 0,xi 0]/\yA W2 w 321 2 W [xi c,xi a]/\Below w w W2):=by
  have hb:=qN a1
  refine⟨HW.1.below hb,?_,HW.2.trans (hb.mono HW.2.size)⟩;rw[a1];exact yAa W _ HW.2.size rfl
 go_enter func228,ntmps228;go_upto_region 1 with fail;rw[<-hW];clear hW;go_upto_region 7 with fail;rw[<-a1];clear a1 a4;obtain⟨b0,b1⟩:=a0.2.1.c2;obtain⟨r0,r1⟩:=a0.1.c2;obtain⟨f0,f1⟩:=a0.1.f2;have a3:=(a0.1.set 0 (xi c)).set 1 (xi a);obtain⟨p0,p1⟩:=a3.c2;obtain⟨W3,a2⟩:=qE (xt (W2.setCell (xd w 0) (xi c)) w 1 (xi a):World);rw[<-a2]at p0 p1;have a5:Hid (Below w w W3):=by show Below w w W3;rw[a2];exact yAc (yAc a0.2.2 qr 0 _) qr 1 _
 clear a3;go_wp2_with fail;rw[<-a2];refine bodyPost_ret (v:=.agg #[xi c,xi a]) (by simp[results,results228,go_sem,p0,p1]) rfl ⟨rfl,a5.out⟩
theorem xA6(base rb eb:Nat)(c a:Int)(older:List PanicEntry)(w:World)(hc:¬c=0)(x:Value)(hr:yA w base 304 1 rb [x])(he:yA w base 158 2 eb [xi 0,xi 0])(hne:¬rb=eb):
  CallsD prog 227 #[xp rb,xp eb] (.panicking ({v:=pfV c a,recovered:=false}::older)) w λe u' w'=>
   e=.returned (.tuple #[])/\u'=.panicking ({v:=pfV c a,recovered:=true}::older)/\yA w' base 304 1 rb [xh]/\yA w' base 158 2 eb [xi c,xi a]/\Chg (λk=>k=rb\/k=eb) w w':=by
 refine callsD_of_wpS func227 rfl λc₀ cs hu=>?_;apply wpS_seq;apply wpS_region;simp[wpOpsS,go_sem,recoverD,hu,ntmps227,Exit.thenS];refine(xEw c a w).mono ?_;rintro e w1 ⟨rfl,a0⟩;simp[wpOpsS,go_sem];have ht:#[Value.pointer (some ⟨rb,0,none⟩),Value.pointer (some ⟨eb,0,none⟩)]++(((Array.replicate 12 undef).setIfInBounds 1 (pfV c a)).setIfInBounds 2 (Value.agg #[Value.int IntKind.i64 c,Value.int IntKind.i64 a])).setIfInBounds 0 (Value.pointer (some ⟨w1,0,none⟩))=#[.pointer (some ⟨rb,0,none⟩),.pointer (some ⟨eb,0,none⟩),.pointer (some ⟨w1,0,none⟩),pfV c a,.agg #[xi c,xi a],undef,undef,undef,undef,undef,undef,undef,undef,undef]:=by rfl
 rw[ht];clear ht;obtain⟨W2,a1⟩:=qE (xw w1 #[xi c,xi a] 321:World);have hb2:=qN a1
 have HB:Hid (yA W2 base 304 1 rb [x]/\yA W2 base 158 2 eb [xi 0,xi 0]/\Chg (λk=>k=rb\/k=eb) w W2):=
  ⟨(hr.below a0).below hb2,(he.below a0).below hb2,(Chg.of_below a0).trans (Chg.of_below hb2)⟩
 have d0:(xk W2 w1 0 (xi c):Prop):=by rw[a1];simp
 have d1:(xk W2 w1 1 (xi a):Prop):=by rw[a1];simp
 have a4:=(hr.below a0).lt.2;have a5:=(he.below a0).lt.2;obtain⟨FB,a3⟩:=qE w1.heap.size;rw[<-a1];rw[<-a3]at d0 d1|-;have n1:¬FB=rb:=qo
 have n2:¬FB=eb:=qo
 clear a1 a3 a0 hb2 hr he a4 a5;have r0:=HB.1.cell (j:=0) rfl;have rf:=HB.1.frozen 0;obtain⟨e0,e1⟩:=HB.2.1.c2;obtain⟨f0,f1⟩:=HB.2.1.f2;have n3:¬eb=rb:=λq=>hne q.symm;have HF:∀w':World,Below W2 W2 w'->yA (xt ((w'.setCell (xd rb 0) xh).setCell (xd eb 0) (xi c)) eb 1 (xi a)) base 304 1 rb [xh]/\yA (xt ((w'.setCell (xd rb 0) xh).setCell (xd eb 0) (xi c)) eb 1 (xi a)) base 158 2 eb [xi c,xi a]/\Chg (λk=>k=rb\/k=eb) w (xt ((w'.setCell (xd rb 0) xh).setCell (xd eb 0) (xi c)) eb 1 (xi a)):=λw' hb=>by refine⟨((((HB.1.below hb).set 0 _).beside hne 0 _).beside hne 1 _),((((HB.2.1.below hb).beside n3 0 _).set 0 _).set 1 _),((((HB.2.2.trans (Chg.of_below hb)).trans (Chg.of_set _ rb 0 _ (.inl rfl))).trans (Chg.of_set _ eb 0 _ (.inr rfl))).trans (Chg.of_set _ eb 1 _ (.inr rfl)))⟩
 have a6:=qH1 HF;clear HF;refine wpS_of_wp ?_;go_upto_region 2 with fail;go_region;all_goals go_wp2_with fail
 have a2:=a6.out W2 (Below.refl _ _);have hdr:∀X:World,Below X X X.drew:=λX=>(Below.refl _ _).drew;exact⟨rfl,_,rfl,_,by simp[results,results227],rfl,rfl,a2.1.below (hdr _),a2.2.1.below (hdr _),a2.2.2.trans (Chg.of_below (hdr _))⟩
theorem xEj(rb eb:Nat)(w:World):
  CallsD prog 227 #[xp rb,xp eb] .returning w λe u' w'=>e=.returned (.tuple #[])/\u'=.returning/\Below w w w':=by
 refine callsD_of_wpS func227 rfl λc₀ cs hu=>?_;apply wpS_seq;apply wpS_region;simp[wpOpsS,go_sem,recoverD,hu,ntmps227,Exit.thenS];refine(xBh w).mono ?_;rintro e w1 ⟨rfl,a0⟩;simp[wpOpsS,go_sem];have ht:#[Value.pointer (some ⟨rb,0,none⟩),Value.pointer (some ⟨eb,0,none⟩)]++(((Array.replicate 12 undef).setIfInBounds 1 .nilIface).setIfInBounds 2 (Value.agg #[Value.int IntKind.i64 0,Value.int IntKind.i64 0])).setIfInBounds 0 (Value.pointer (some ⟨w1,0,none⟩))=#[.pointer (some ⟨rb,0,none⟩),.pointer (some ⟨eb,0,none⟩),.pointer (some ⟨w1,0,none⟩),.nilIface,.agg #[xi 0,xi 0],undef,undef,undef,undef,undef,undef,undef,undef,undef]:=by rfl
 rw[ht];clear ht;have HB:Hid (Below w w (xw w1 #[xi 0,xi 0] 321)):=a0.trans ((Below.refl _ _).alloc a0.size _);clear a0;refine wpS_of_wp ?_;go_wp2_with fail;refine⟨rfl,.returning,?_,_,by simp[results,results227],rfl,rfl,HB.out⟩;cases c₀
 simp_all
def yAj(p:List UInt8):Int×Nat:=if 200<p.length then(1,0)else chkM p 0 0 false
def yDv(p:ByteArray)(w:World)(e:Ending)(w':World):Prop:=
 ∃u:Value,e=.returned (.tuple #[.agg #[u],.agg #[xi (yAj (sb p)).1,xi (yAj (sb p)).2]])/\Below w w w'/\
  (((yAj (sb p)).1=0/\∃os,yDn (sb p) 0 0 p.size os/\yDo w' (Bet w w') os u)\/(¬(yAj (sb p)).1=0/\u=xh))
variable {rb:Nat} {y:Value}
theorem yYc{eb:Nat}{x:Value}(hu:u.oneCell'=true)(ht:a.tmps.getD 2 undef=(xp rb))(ht2:a.tmps.getD 3 undef=(xp eb))(hr:yA w base 304 1 rb [u])(he:yA w base 158 2 eb [x,y]):
  (results Tryz.f212 a.tmps).run prog w=.ok (.tuple #[.agg #[u],.agg #[x,y]]) w:=by
 have p0:=hr.cell (j:=0) rfl;obtain⟨q0,q1⟩:=he.c2;have h1:a.tmps[2]?.getD undef=(xp rb):=by rw[<-Array.getD_eq_getD_getElem?];exact ht
 have h2:a.tmps[3]?.getD undef=(xp eb):=by rw[<-Array.getD_eq_getD_getElem?];exact ht2
 simp[results,results212,go_sem,h1,h2,p0,q0,q1]
theorem yYd(p:ByteArray)(w wq:World)(a:Act)(c:Int)(k rb eb:Nat)(x:Value)(hrb:w.heap.size<=rb)(heb:w.heap.size<=eb)(hne:¬rb=eb)(hd:a.defers= [{target:=Target.fn (Fn.func 227) #[xp rb,xp eb],args:=#[]}])
  (ht:a.tmps.getD 2 undef=(xp rb)) (ht2:a.tmps.getD 3 undef=(xp eb)) (hM:yAj (sb p)=(c,k)) (hc:¬c=0) (hr:yA wq w 304 1 rb [x]) (he:yA wq w 158 2 eb [xi 0,xi 0]) (hB:Below w w wq):
  bodyPostD prog Tryz.f212 (λe w'=>yDv p w e w') (.panic [{v:=pfV c k,recovered:=false}]) a wq:=by
 show Leaves prog Tryz.f212 a.tmps (λe w'=>yDv p w e w') a.defers (.panicking [{v:=pfV c k,recovered:=false}]) wq;rw[hd];refine leaves_cons (f:=227) (args:=#[.pointer (some ⟨rb,0,none⟩),.pointer (some ⟨eb,0,none⟩)]) (by simp) (by simp[go_sem]) ?_;refine(xA6 w rb eb c k [] wq hc x hr he hne).mono ?_;rintro e u' w'' ⟨rfl,rfl,a0,a1,hC⟩;show Leaves prog Tryz.f212 a.tmps (λe w'=>yDv p w e w') [] (settle (.panicking [{v:=pfV c k,recovered:=true}])) _;refine⟨_,yYc rfl ht ht2 a0 a1,xh,by rw[hM],Chg.below hB hC hB.size (λj q=>qo),.inr ⟨by rw[hM];exact hc,rfl⟩⟩
theorem xEk(p:ByteArray)(w wq:World)(a:Act)(rb eb:Nat)(u:Value)(os:List (List Pat))(hu:u.oneCell'=true)(hd:a.defers= [{target:=Target.fn (Fn.func 227) #[xp rb,xp eb],args:=#[]}])
  (ht:a.tmps.getD 2 undef=(xp rb)) (ht2:a.tmps.getD 3 undef=(xp eb)) (hM:yAj (sb p)=(0,0)) (hA:yDn (sb p) 0 0 p.size os) (hU:yDo wq (Bet w wq) os u) (hr:yA wq w 304 1 rb [u]) (he:yA wq w 158 2 eb [xi 0,xi 0]) (hB:Below w w wq):
  bodyPostD prog Tryz.f212 (λe w'=>yDv p w e w') .ret a wq:=by
 show Leaves prog Tryz.f212 a.tmps (λe w'=>yDv p w e w') a.defers .returning wq;rw[hd];refine leaves_cons (f:=227) (args:=#[.pointer (some ⟨rb,0,none⟩),.pointer (some ⟨eb,0,none⟩)]) (by simp) (by simp[go_sem]) ?_;refine(xEj rb eb wq).mono ?_;rintro e u' w'' ⟨rfl,rfl,hb⟩;show Leaves prog Tryz.f212 a.tmps (λe w'=>yDv p w e w') [] (settle .returning) w'';refine⟨_,yYc hu ht ht2 (hr.below hb) (he.below hb),u,by rw[hM];rfl,hB.trans (hb.mono hB.size),.inl ⟨by rw[hM],os,hA,hU.move (S:=λ_=>False) (Chg.of_below hb) (λq hq=>hq.elim) (λq hq z=>⟨z.1,by have:=hb.size;omega⟩)⟩⟩
theorem yA8{x c:UInt8}(h:¬x=c):¬(x.toNat:Int)=(c.toNat:Int):=λq=>h (UInt8.toNat_inj.1 qo)
theorem yD1(p:ByteArray)(i:Nat) w (hp:p.size<=200) (hi:i<=300) (c:UInt8) (k:Nat) (b:Bool) (h:chM (sb p) i=(c,k,b)):
  Calls prog 186 #[p,xi i] w λe w'=>e=.returned (.tuple #[.int .u8 (c.toNat:Int),xi k,b])/\w'=w:=by
 have HM:=qH1 h;clear h;by_cases hlt:i<p.size
 .obtain⟨x,hx⟩:∃x,(sb p)[i]?=some x:=qg (by rw[yAe];exact hlt);obtain⟨_,gx⟩:=yAr hx;have z1:(i:Int)<(p.size:Int):=qo
  have a1:¬p.size<=i:=qo
  have HX:=qH1 hx;clear hx;by_cases hend:x=93\/x=45
  .have HF:c=0/\k=i/\b=false:=by
    have h1:chM (sb p) i=(0,i,false):=by unfold chM;rw[HX.out];simp only[];rw[if_pos hend]
    rw[HM.out]at h1;simpa using h1
   obtain⟨rfl,rfl,rfl⟩:=HF;rcases hend with rfl|rfl;all_goals go_enter func186,ntmps186
   all_goals go_wp2_with fail
   all_goals refine bodyPost_ret (v:=.tuple #[.int .u8 0,xi k,false]) (by simp[results,results186,go_sem]) rfl ⟨rfl,rfl⟩
  have a2:((x.toNat:Int)==93)=false:=beq_eq_false_iff_ne.2 (yA8 (c:=93) (λq=>hend (.inl q)));have a3:((x.toNat:Int)==45)=false:=beq_eq_false_iff_ne.2 (yA8 (c:=45) (λq=>hend (.inr q)));by_cases h92:x=92
  .subst h92;by_cases hl2:i+1<p.size
   .obtain⟨y,hy⟩:∃y,(sb p)[i+1]?=some y:=qg (by rw[yAe];exact hl2);obtain⟨_,gy⟩:=yAr hy;have HF:c=y/\k=i+2/\b=true:=by
     have h1:chM (sb p) i=(y,i+2,true):=by rw[yOo HX.out,hy]
     rw[HM.out]at h1;simpa using h1
    obtain⟨rfl,rfl,rfl⟩:=HF;have z2:(i:Int)+1<(p.size:Int):=qo
    clear hy;go_enter func186,ntmps186;go_wp2;refine bodyPost_ret (v:=.tuple #[.int .u8 (c.toNat:Int),xi (i+2:Nat),true]) (by simp[results,results186,go_sem]) rfl ⟨rfl,rfl⟩
   .have HF:c=0/\k=i+1/\b=false:=by
     have h1:chM (sb p) i=(0,i+1,false):=by rw[yOo HX.out,getElem?_eq_none (by rw[yAe];omega)]
     rw[HM.out]at h1;simpa using h1
    obtain⟨rfl,rfl,rfl⟩:=HF;have z2:¬(i:Int)+1<(p.size:Int):=qo
    go_enter func186,ntmps186;go_wp2;refine bodyPost_ret (v:=.tuple #[.int .u8 0,xi (i+1:Nat),false]) (by simp[results,results186,go_sem]) rfl ⟨rfl,rfl⟩
  .have a0:((x.toNat:Int)==92)=false:=beq_eq_false_iff_ne.2 (yA8 (c:=92) h92);have HF:c=x/\k=i+1/\b=true:=by
    have h1:chM (sb p) i=(x,i+1,true):=by unfold chM;rw[HX.out];simp only[];rw[if_neg hend,if_neg h92]
    rw[HM.out]at h1;simpa using h1
   obtain⟨rfl,rfl,rfl⟩:=HF;go_enter func186,ntmps186;go_wp2;refine bodyPost_ret (v:=.tuple #[.int .u8 (c.toNat:Int),xi (i+1:Nat),true]) (by simp[results,results186,go_sem]) rfl ⟨rfl,rfl⟩
 .have HF:c=0/\k=i/\b=false:=by have h1:chM (sb p) i=(0,i,false):=yTw (getElem?_eq_none (by rw[yAe];omega));rw[HM.out]at h1;simpa using h1
  obtain⟨rfl,rfl,rfl⟩:=HF;have z1:¬(k:Int)<(p.size:Int):=qo
  have z2:(p.size:Int)<=(k:Int):=qo
  go_enter func186,ntmps186;go_wp2;refine bodyPost_ret (v:=.tuple #[.int .u8 0,xi k,false]) (by simp[results,results186,go_sem]) rfl ⟨rfl,rfl⟩
theorem yBi(c:UInt8) w:Calls prog 142 #[.int .u8 (c.toNat:Int)] w λe w'=>e=.returned (decide (isOp c))/\w'=w:=by
 by_cases h42:c=42
 .subst h42;exact xDq
 by_cases h43:c=43
 .subst h43;exact xDq
 by_cases h63:c=63
 .subst h63;exact xDq
 have z1:((c.toNat:Int)==42)=false:=beq_eq_false_iff_ne.2 (yA8 (c:=42) h42);have z2:((c.toNat:Int)==43)=false:=beq_eq_false_iff_ne.2 (yA8 (c:=43) h43);have z3:((c.toNat:Int)==63)=false:=beq_eq_false_iff_ne.2 (yA8 (c:=63) h63);have H:Hid (decide (isOp c)=false):=decide_eq_false (λq=>q.elim h42 (λq=>q.elim h43 h63));go_enter func142,ntmps142;go_wp2;go_ret;exact⟨by rw[H.out];(first|rfl|simp[z3]),rfl⟩
theorem yA5(p:ByteArray) w (hpm:p.size<=maxLen):Calls prog 212 #[p] w λe w'=>yDv p w e w':=by
 have af:∀(fn:Fn)(first cap:Array Value)(w:World),(Instr.makeFunc fn first cap).run prog w=.ok (.func fn first cap) w:=λ_ _ _ _=>rfl;obtain⟨W0,a6⟩:=qW (xw (w.alloc (Obj.cells #[xh] 304)) #[xi 0,xi 0] 158);have a2:Hid (yA W0 w 304 1 w [xh]/\yA W0 w 158 2 (w+1) [xi 0,xi 0]/\Below w w W0/\W0.heap.size=w.heap.size+2):=by rw[a6];refine⟨yA.ofHeap (vs:=#[.slice none 0 0]) (heap_alloc2_old w _ _) qr rfl,yA.ofHeap (vs:=#[.int .i64 0,.int .i64 0]) (heap_alloc2_new w _ _) qo rfl,(qB).alloc (by simp) _,by simp⟩
 unfold maxLen at hpm;by_cases hp:200<p.size
 .have HM:Hid (yAj (sb p)=(1,0)):=by show yAj (sb p)=_;unfold yAj;rw[if_pos (by rw[yAe];exact hp)]
  have z:¬(p.size:Int)<=200:=qo
  have z2:(200:Int)<(p.size:Int):=qo
  go_enter_defers func212,ntmps212;go_upto_region 1 with fail;rw[<-a6];clear a6;have r0:=a2.1.cell (j:=0) rfl;have rf:=a2.1.frozen 0;obtain⟨e0,e1⟩:=a2.2.1.c2;obtain⟨f0,f1⟩:=a2.2.1.f2;obtain⟨W1,a3⟩:=qW (xt ((W0.setCell (xd w 0) xh).setCell (xd (w+1) 0) (xi 1)) (w+1) 1 (xi 0));have a0:Hid (yA W1 w 304 1 w [xh]/\yA W1 w 158 2 (w+1) [xi 1,xi 0]/\Below w w W1):=by rw[a3];exact⟨(((a2.1.set 0 _).beside qo 0 _).beside qo 1 _),(((a2.2.1.beside qo 0 _).set 0 _).set 1 _),yAc (yAc (yAc a2.2.2.1 qr 0 _) qo 0 _) qo 1 _⟩
  go_wp2_with fail;rw[<-a3];show Leaves prog Tryz.f212 _ (λe w'=>yDv p w e w') [] .returning W1;refine⟨_,yYc (a:={tmps:=_,defers:= []}) rfl rfl rfl a0.1 a0.2.1,xh,by rw[HM.out];rfl,a0.2.2,.inr ⟨by rw[HM.out];decide,rfl⟩⟩
 have ae:p.size<=200:=qo
 have HM:Hid (yAj (sb p)=chkM (sb p) 0 0 false):=by show yAj (sb p)=_;unfold yAj;rw[if_neg (by rw[yAe];exact hp)]
 have z:(p.size:Int)<=200:=qo
 obtain⟨W1,a3⟩:=qW (xw W0 #[p,xi 0,xi 0] 324);have a0:Hid (yA W1 w 304 1 w [xh]/\yA W1 w 158 2 (w+1) [xi 0,xi 0]/\PrAt W1 w (w+2) p 0 0/\Below w w W1/\W1.heap.size=w.heap.size+3):=by
  have hb:=qN a3
  have hz:=a2.2.2.2;refine⟨a2.1.below hb,a2.2.1.below hb,?_,a2.2.2.1.trans (hb.mono qo),by rw[a3];simp;omega⟩;rw[a3,<-hz];exact yAa W0 #[p,xi 0,xi 0] qo rfl
 go_enter_defers func212,ntmps212;go_upto_region 1 with fail;rw[<-a6];have ad:=a2.2.2.2;clear a6 a2;go_upto_region 5 with fail;rw[<-a3];clear a3 ad;go_wp2_with fail;refine(xCc ae w (w+2) 0 0 W1 (zero_le _) (zero_le _) a0.2.2.1).mono ?_;rintro e w2 ⟨a5,(⟨k,os,u,hA,hN,rfl,hU,ac⟩|⟨c,k,hc,hk,rfl⟩)⟩;case inr=>
  have hb2:=Chg.below a0.2.2.2.1 a5 a0.2.2.2.1.size (λj q=>by omega);exact yYd p w w2 _ c k w (w+1) _ qr qo qo rfl rfl rfl (by rw[HM.out,hk]) hc (a0.1.chg a5 qo) (a0.2.1.chg a5 qo) hb2
 obtain⟨gu,nu,cu,rfl⟩:=hU.slice;have ag:k<=p.size:=by have:=hA.le;rw[yAe]at this;exact this
 have HA:=qH2 hA hN;have a4:Hid (yA w2 w 304 1 w [xh]/\yA w2 w 158 2 (w+1) [xi 0,xi 0]/\PrAt w2 w (w+2) p k 0/\Below w w w2/\yDo w2 (λj=>w.heap.size+3<=j) os (xg gu nu cu)):=by refine⟨a0.1.chg a5 qo,a0.2.1.chg a5 qo,ac,Chg.below a0.2.2.2.1 a5 a0.2.2.2.1.size (λj q=>qo),hU.move (S:=λ_=>False) (Chg.refl _ _) (λq hq=>hq.elim) (λq _ z=>by have h1:=z.1;rw[a0.2.2.2.2]at h1;exact h1)⟩
 clear a5 hA hN hU ac a0;obtain⟨W3,aa⟩:=qW (xt w2 w 0 (xg gu nu cu));have a1:Hid (yA W3 w 304 1 w [xg gu nu cu]/\yA W3 w 158 2 (w+1) [xi 0,xi 0]/\PrAt W3 w (w+2) p k 0/\Below w w W3/\yDo W3 (λj=>w.heap.size+3<=j) os (xg gu nu cu)):=by have hc:=Chg.of_set w2 w 0 (xg gu nu cu) (S:=λj=>j=w.heap.size) rfl;rw[aa];exact⟨a4.1.set 0 _,a4.2.1.chg hc qo,yA.chg a4.2.2.1 hc qo,yAc a4.2.2.2.1 qr 0 _,a4.2.2.2.2.move hc (λq hq=>by subst hq;exact λz=>qo) (λq _ z=>z)⟩
 have r0:=a4.1.cell (j:=0) rfl;have rf:=a4.1.frozen 0;clear a4;go_upto_region 6 with fail;rw[<-aa];clear aa r0 rf;have c1:=a1.2.2.1.cell (j:=1) rfl;by_cases hke:k=p.size
 .have zk:(k:Int)=(p.size:Int):=qo
  have a9:Hid (yAj (sb p)=(0,0)/\yDn (sb p) 0 0 p.size os):=by refine⟨?_,by rw[<-hke];exact HA.1⟩;rw[HM.out,HA.1.chk,yHv (by rw[yAe];omega),if_neg qo]
  clear HA hke;go_wp2_with fail;refine(yJm _ a1.2.2.1).mono ?_;rintro e w5 ⟨a7,(⟨hc,rfl⟩|⟨hc,rfl⟩)⟩;case inr=>exfalso;(simp at hc)<;>omega
  rw[a7];clear a7 hc c1;have r0:=a1.1.cell (j:=0) rfl;have rf:=a1.1.frozen 0;obtain⟨e0,e1⟩:=a1.2.1.c2;obtain⟨f0,f1⟩:=a1.2.1.f2;obtain⟨W6,ab⟩:=qW (xt ((W3.setCell (xd w 0) (xg gu nu cu)).setCell (xd (w+1) 0) (xi 0)) (w+1) 1 (xi 0));have a8:Hid (yA W6 w 304 1 w [xg gu nu cu]/\yA W6 w 158 2 (w+1) [xi 0,xi 0]/\Below w w W6/\yDo W6 (Bet w W6) os (xg gu nu cu)):=by have c1:=Chg.of_set W3 w 0 (xg gu nu cu) (S:=λj=>j=w.heap.size\/j=w.heap.size+1) (.inl rfl);have c2:=c1.trans (Chg.of_set _ (w+1) 0 (xi 0) (S:=λj=>j=w.heap.size\/j=w.heap.size+1) (.inr rfl));have c3:=c2.trans (Chg.of_set _ (w+1) 1 (xi 0) (S:=λj=>j=w.heap.size\/j=w.heap.size+1) (.inr rfl));rw[ab];exact⟨(((a1.1.set 0 _).beside qo 0 _).beside qo 1 _),(((a1.2.1.beside qo 0 _).set 0 _).set 1 _),yAc (yAc (yAc a1.2.2.2.1 qr 0 _) qo 0 _) qo 1 _,a1.2.2.2.2.move c3 (λq hq=>λz=>qo) (λq hq z=>⟨qo,qw c3.size⟩)⟩
  go_wp2_with fail;rw[<-ab];exact xEk p w W6 _ w (w+1) _ os rfl rfl rfl rfl a9.1 a9.2 a8.2.2.2 a8.1 a8.2.1 a8.2.2.1
 .have zk:¬(k:Int)=(p.size:Int):=qo
  have a9:Hid (yAj (sb p)=(2,k)):=by
   show yAj (sb p)=_;obtain⟨c,hc⟩:∃c,(sb p)[k]?=some c:=qg (by rw[yAe];omega);obtain⟨h1,h2⟩:=HA.2 c hc;rw[HM.out,HA.1.chk];rcases h1 with h1|h1|h1|h1
   .rw[yR hc h1];rfl
   .exact absurd h1 h2
   .subst h1;rw[yD4 hc,if_pos rfl]
   .subst h1;rw[yQ9 hc]
  clear HA hke;go_wp2_with fail;refine(yJm _ a1.2.2.1).mono ?_;rintro e w5 ⟨a7,(⟨hc,rfl⟩|⟨hc,rfl⟩)⟩
  .exfalso;(simp at hc)<;>omega
  rw[a7];exact yYd p w W3 _ 2 k w (w+1) _ qr qo qo rfl rfl rfl a9.out qj a1.1 a1.2.1 a1.2.2.2.1
theorem yLl(p:ByteArray)(w:World)(hpm:p.size<=maxLen):(xf 183 #[p] w (.agg #[xi (yAj (sb p)).1,xi (yAj (sb p)).2]):Prop):=by
 obtain⟨W0,a4⟩:=qW (xw w #[xi 0,xi 0] 158);have a3:Hid (yA W0 w 158 2 w [xi 0,xi 0]/\Below w w W0):=by rw[a4];exact⟨yAa w _ qr rfl,qB⟩
 obtain⟨c,hc⟩:=qE ((yAj (sb p)).1);obtain⟨k,hk⟩:=qE ((yAj (sb p)).2);rw[<-hc,<-hk];go_enter func183,ntmps183;go_upto_region 1 with fail;rw[<-a4];clear a4;go_wp2_with fail;refine(yA5 p W0 hpm).mono ?_;rintro e w1 ⟨u,rfl,a1,hu⟩;rw[<-hc,<-hk];obtain⟨ua,un,uc,rfl⟩:∃a n cp,u=.slice a n cp:=by
  rcases hu with⟨_,os,_,hU⟩|⟨_,rfl⟩
  .obtain⟨g,n,cp,rfl⟩:=hU.slice;exact⟨_,_,_,rfl⟩
  .exact⟨_,_,_,rfl⟩
 clear hu hc hk;obtain⟨W2,a2⟩:=qW (xw (w1.alloc (Obj.cells #[.slice ua un uc] 304)) #[xi c,xi k] 158);have a0:Hid (yA W2 w 158 2 w [xi 0,xi 0]/\yA W2 w 158 2 (w1+1) [xi c,xi k]/\Below w w W2):=by
  have hb2:Below w1 w1 W2:=by rw[a2];exact(qB).alloc (by simp) _
  have h1:=a3.2.size;have h2:=a1.size;refine⟨(a3.1.below a1).below hb2,?_,(a3.2.trans (a1.mono h1)).trans (hb2.mono (by omega))⟩;rw[a2];exact yA.ofHeap (vs:=#[.int .i64 c,.int .i64 (k:Int)]) (heap_alloc2_new w1 _ _) (by omega) rfl
 clear a1 a3;go_upto_region 2 with fail;rw[<-a2];clear a2;obtain⟨b0,b1⟩:=a0.2.1.c2;obtain⟨r0,r1⟩:=a0.1.c2;obtain⟨f0,f1⟩:=a0.1.f2;have a5:=(a0.1.set 0 (xi c)).set 1 (xi k);obtain⟨p0,p1⟩:=a5.c2;have a7:Hid (Below w w (xt (W2.setCell (xd w 0) (xi c)) w 1 (xi k))):=yAc (yAc a0.2.2 qr 0 _) qr 1 _;obtain⟨W3,a6⟩:=qW (xt (W2.setCell (xd w 0) (xi c)) w 1 (xi k));rw[<-a6]at p0 p1 a7;clear a5;go_wp2;rw[<-a6];refine bodyPost_ret (v:=.agg #[xi c,xi k]) (by simp[results,results183,go_sem,p0,p1]) rfl ⟨rfl,a7.out⟩
noncomputable def zeroOf(t:Nat):Value:=((prog.info? t).bind (λi=>i.zero)).getD undef
theorem asBB(cs:Array Value)(w:World):(Instr.typeAssert (.iface 348 (.agg cs)) 346 348 true).run prog w=.ok (.tuple #[.agg cs,true]) w:=qk
theorem asCC(cs:Array Value)(w:World):(Instr.typeAssert (.iface 360 (.agg cs)) 346 360 true).run prog w=.ok (.tuple #[.agg cs,true]) w:=qk
theorem asCB(cs:Array Value)(w:World):(Instr.typeAssert (.iface 360 (.agg cs)) 346 348 true).run prog w=.ok (.tuple #[zeroOf 348,false]) w:=qk
theorem asRR(cs:Array Value)(w:World):(Instr.typeAssert (.iface 362 (.agg cs)) 346 362 true).run prog w=.ok (.tuple #[.agg cs,true]) w:=qk
theorem asRB(cs:Array Value)(w:World):(Instr.typeAssert (.iface 362 (.agg cs)) 346 348 true).run prog w=.ok (.tuple #[zeroOf 348,false]) w:=qk
theorem asRC(cs:Array Value)(w:World):(Instr.typeAssert (.iface 362 (.agg cs)) 346 360 true).run prog w=.ok (.tuple #[zeroOf 360,false]) w:=qk
theorem asSS(cs:Array Value)(w:World):(Instr.typeAssert (.iface 316 (.agg cs)) 346 316 true).run prog w=.ok (.tuple #[.agg cs,true]) w:=qk
theorem asSB(cs:Array Value)(w:World):(Instr.typeAssert (.iface 316 (.agg cs)) 346 348 true).run prog w=.ok (.tuple #[zeroOf 348,false]) w:=qk
theorem asSC(cs:Array Value)(w:World):(Instr.typeAssert (.iface 316 (.agg cs)) 346 360 true).run prog w=.ok (.tuple #[zeroOf 360,false]) w:=qk
theorem asSR(cs:Array Value)(w:World):(Instr.typeAssert (.iface 316 (.agg cs)) 346 362 true).run prog w=.ok (.tuple #[zeroOf 362,false]) w:=qk
theorem asAA(cs:Array Value)(w:World):(Instr.typeAssert (.iface 304 (.agg cs)) 346 304 true).run prog w=.ok (.tuple #[.agg cs,true]) w:=qk
theorem asAB(cs:Array Value)(w:World):(Instr.typeAssert (.iface 304 (.agg cs)) 346 348 true).run prog w=.ok (.tuple #[zeroOf 348,false]) w:=qk
theorem asAC(cs:Array Value)(w:World):(Instr.typeAssert (.iface 304 (.agg cs)) 346 360 true).run prog w=.ok (.tuple #[zeroOf 360,false]) w:=qk
theorem asAR(cs:Array Value)(w:World):(Instr.typeAssert (.iface 304 (.agg cs)) 346 362 true).run prog w=.ok (.tuple #[zeroOf 362,false]) w:=qk
theorem asAS(cs:Array Value)(w:World):(Instr.typeAssert (.iface 304 (.agg cs)) 346 316 true).run prog w=.ok (.tuple #[zeroOf 316,false]) w:=qk
theorem xDl{p:List UInt8}{b:Bool}(hj:j<=p.length)(h:¬(p[j]?=some 93/\b=true)):clsM p j b f=match yBw p j with| .inr e=>.inr e| .inl (a,b,k)=>clsM p k true (wider f a b):=by
 cases b
 .exact yKk hj
 .exact yOm hj (λq=>h ⟨q,rfl⟩)
def xIg(p:ByteArray)(i:Nat)(e:Ending):Prop:=
 (∃f k,yAq (sb p) i=.inl (f,k)/\e=.returned (.tuple #[xi k,.agg #[xi 0,xi 0]]))\/(∃c k,yAq (sb p) i=.inr (c,k)/\e=.returned (.tuple #[xi 0,.agg #[xi c,xi k]]))
theorem yB7{x z:Value}(hx:a.tmps.getD 4 undef=x)(ht:a.tmps.getD 5 undef=(xp rb))(he:yA w base 158 2 rb [y,z]):
  (results Tryz.f143 a.tmps).run prog w=.ok (.tuple #[x,.agg #[y,z]]) w:=by
 obtain⟨q0,q1⟩:=he.c2;have h1:a.tmps[4]?.getD undef=x:=by rw[<-Array.getD_eq_getD_getElem?];exact hx
 have h2:a.tmps[5]?.getD undef=(xp rb):=by rw[<-Array.getD_eq_getD_getElem?];exact ht
 simp[results,results143,go_sem,h1,h2,q0,q1]
theorem yIe(p:ByteArray)(i:Nat)(w:World)(hp:p.size<=200)(hi:i<p.size):
  Calls prog 143 #[p,xi i] w λe w'=>xIg p (i+1) e/\Below w w w':=by
 obtain⟨W0,a2⟩:=qE (xw w #[xi 0,xi 0] 158:World);have a1:Hid (yA W0 w 158 2 w [xi 0,xi 0]/\Below w w W0):=by rw[a2];exact⟨yAa w _ qr rfl,qB⟩
 have HS:Hid (∀a b:Value,yA (xt (W0.setCell (xd w 0) a) w 1 b) w 158 2 w [a,b]/\Below w w (xt (W0.setCell (xd w 0) a) w 1 b)):=λa b=>⟨(a1.1.set 0 a).set 1 b,yAc (yAc a1.2 qr 0 _) qr 1 _⟩;obtain⟨r0,r1⟩:=a1.1.c2;obtain⟨f0,f1⟩:=a1.1.f2;clear a1;obtain⟨ng,j0,a4,hj0,a3⟩:∃(ng:Bool)(j0:Nat),j0=(if ng=true then i+2 else i+1)/\j0<=p.size/\(yCo (sb p) (i+1) ng j0 false (λ_=>false)/\(ng=true↔(sb p)[i+1]?=some 94)):=by
  by_cases hx:(sb p)[i+1]?=some 94
  .refine⟨true,i+2,rfl,by have:=yAn hx;rw[yAe]at this;omega,?_,⟨λ_=>hx,λ_=>rfl⟩⟩;unfold yCo yAq;rw[if_pos hx];rfl
  .refine⟨false,i+1,rfl,qo,?_,⟨λq=>(by cases q),λq=>absurd q hx⟩⟩;unfold yCo yAq;rw[if_neg hx];generalize clsM (sb p) (i+1) false (λ_=>false)=r;cases r<;>rfl
 have HM0:=qH1 a3.1;have HNG:=qH1 a3.2;have HJ0:=qH1 a4;clear a3 a4;go_enter func143,ntmps143;go_upto_region 1 with fail;rw[<-a2];clear a2;by_cases hi1:i+1<p.size
 .obtain⟨x0,a0⟩:∃x,(sb p)[i+1]?=some x:=qg (by rw[yAe];exact hi1);obtain⟨_,a8⟩:=yAr a0;have a5:(i:Int)+1<(p.size:Int):=qo
  cases ng
  .have a7:((x0.toNat:Int)==94)=false:=beq_eq_false_iff_ne.2 (yA8 (c:=94) (λq=>by have h1:=HNG.2 (by rw[a0,q]);cases h1));clear a0;exact zzQ1
  .have a6:x0=94:=by have h1:=HNG.1 rfl;rw[a0]at h1;exact Option.some.inj h1
   subst a6;clear a0;go_wp2_with fail;go_loopw[6,7] (λjv nv wr=>∃(j n:Nat)(f:UInt8->Bool),j<=p.size/\n<=j/\jv=(xi j)/\nv=(xi n)/\yCo (sb p) (i+1) true j (decide (0<n)) f/\wr=W0) (λjv _ _=>p.size-(intOf jv).toNat);case atStart=>exact⟨j0,0,λ_=>false,hj0,zero_le _,congrArg (Value.int .i64) (by rw[HJ0.out];simp<;>omega),rfl,HM0.out,rfl⟩
   case round=>
    obtain⟨j,n,f,hj,hnj,rfl,rfl,hE,hwr⟩:=hrel;have HE:=qH1 hE;rw[hwr];clear hE hwr HM0 HJ0 HNG;by_cases hlt:j<p.size
    .obtain⟨x,hx⟩:∃x,(sb p)[j]?=some x:=qg (by rw[yAe];exact hlt);obtain⟨_,gx⟩:=yAr hx;have HX:=qH1 hx;have zj:(j:Int)<(p.size:Int):=qo
     clear hx;by_cases hend:x=93/\0<n
     .obtain⟨rfl,hn0⟩:=hend;have zn:(0:Int)<(n:Int):=qo
      have HF:Hid (∃f',yAq (sb p) (i+1)=.inl (f',j+1)):=by refine⟨if true=true then λc=> !f c else f,?_⟩;rw[HE.eq,decide_eq_true hn0,yOl HX.out]
      obtain⟨f',hf'⟩:=HF.out;have HF':=qH1 hf';clear hf' HF;go_wp2_with fail;exact bodyPost_ret (v:=.tuple #[xi (j+1:Nat),.agg #[xi 0,xi 0]]) (yB7 rfl rfl (HS.out (xi 0) (xi 0)).1) rfl ⟨.inl ⟨f',j+1,HF'.out,rfl⟩,(HS.out (xi 0) (xi 0)).2⟩
     .have HG:Hid (clsM (sb p) j (decide (0<n)) f=match yBw (sb p) j with| .inr e=>.inr e| .inl (a,b,k)=>clsM (sb p) k true (wider f a b)):=xDl (by rw[yAe];omega) (λq=>hend ⟨by have h1:=q.1;rw[HX.out]at h1;exact Option.some.inj h1,by simpa using q.2⟩);obtain⟨lo,k,b,hch⟩:∃lo k b,chM (sb p) j=(lo,k,b):=⟨_,_,_,rfl⟩;have HCh:=qH1 hch;have hkl:b=true->k<=p.size/\j<k:=λq=>by subst q;have:=yEx hch;rw[yAe]at this;omega
      clear hch;have hpick:((x.toNat:Int)==93)=false\/(¬(0:Int)<(n:Int)):=by
       by_cases h93:x=93
       .exact .inr (λq=>hend ⟨h93,qo⟩)
       .exact .inl (beq_eq_false_iff_ne.2 (yA8 (c:=93) h93))
      clear hend;have hpk:(((x.toNat:Int)==93)=false)\/(((x.toNat:Int)==93)=true/\n=0):=by
       rcases hpick with q|q
       .exact .inl q
       .cases hq:((x.toNat:Int)==93)
        .exact .inl rfl
        .exact .inr ⟨rfl,qo⟩
      clear hpick;rcases hpk with h93|⟨h93,hn0⟩;case' inr=>
       have zn:¬(0:Int)<(n:Int):=qo
       clear hn0
      all_goals
       go_wp2_with fail
       refine(yD1 p j W0 hp qo lo k b HCh.out).mono ?_
       rintro e w1 ⟨rfl,hw1⟩
       rw[hw1]
       clear hw1
       cases b
       case false=>
        have HF:Hid (yAq (sb p) (i+1)=.inr (2,k)):=by show yAq (sb p) (i+1)=_;rw[HE.eq,HG.out];unfold yBw;rw[HCh.out]
        go_wp2_with fail;exact bodyPost_ret (v:=.tuple #[xi 0,.agg #[xi 2,xi k]]) (yB7 rfl rfl (HS.out (xi 2) (xi k)).1) rfl ⟨.inr ⟨2,k,HF.out,rfl⟩,(HS.out (xi 2) (xi k)).2⟩
       obtain⟨hks,hjk⟩:=hkl rfl
       clear hkl
       by_cases h45:(sb p)[k]?=some 45
       .obtain⟨hk2,gk⟩:=yAr h45;have HK:=qH1 h45;have zk:(k:Int)<(p.size:Int):=qo
        obtain⟨hh,m,b2,hch2⟩:∃hh m b2,chM (sb p) (k+1)=(hh,m,b2):=⟨_,_,_,rfl⟩;have HCh2:=qH1 hch2;have hml:b2=true->m<=p.size/\k<m:=λq=>by subst q;have:=yEx hch2;rw[yAe]at this;omega
        clear hch2 h45;go_wp2_with fail;refine(yD1 p (k+1) W0 hp qo hh m b2 HCh2.out).mono ?_;rintro e w2 ⟨rfl,hw2⟩;rw[hw2];clear hw2;cases b2
        .have HF:Hid (yAq (sb p) (i+1)=.inr (2,m)):=by show yAq (sb p) (i+1)=_;rw[HE.eq,HG.out];unfold yBw;rw[HCh.out];simp only[];rw[if_pos HK.out,HCh2.out]
         go_wp2_with fail;exact bodyPost_ret (v:=.tuple #[xi 0,.agg #[xi 2,xi m]]) (yB7 rfl rfl (HS.out (xi 2) (xi m)).1) rfl ⟨.inr ⟨2,m,HF.out,rfl⟩,(HS.out (xi 2) (xi m)).2⟩
        .obtain⟨hms,hkm⟩:=hml rfl;clear hml;by_cases hlo:hh<lo
         .have zlo:(hh.toNat:Int)<(lo.toNat:Int):=by have:=UInt8.lt_iff_toNat_lt.1 hlo;omega
          have HF:Hid (yAq (sb p) (i+1)=.inr (4,j)):=by show yAq (sb p) (i+1)=_;rw[HE.eq,HG.out];unfold yBw;rw[HCh.out];simp only[];rw[if_pos HK.out,HCh2.out];simp only[];rw[if_pos hlo]
          go_wp2_with fail;exact bodyPost_ret (v:=.tuple #[xi 0,.agg #[xi 4,xi j]]) (yB7 rfl rfl (HS.out (xi 4) (xi j)).1) rfl ⟨.inr ⟨4,j,HF.out,rfl⟩,(HS.out (xi 4) (xi j)).2⟩
         .have zlo:(lo.toNat:Int)<=(hh.toNat:Int):=by have:=UInt8.le_iff_toNat_le.1 (UInt8.not_lt.1 hlo);omega
          have HF:Hid (yCo (sb p) (i+1) true m true (wider f lo hh)):=by show yCo _ _ _ _ _ _;unfold yCo;rw[HE.eq,HG.out];unfold yBw;rw[HCh.out];simp only[];rw[if_pos HK.out,HCh2.out];simp only[];rw[if_neg hlo]
          clear hlo;go_wp2;go_roundw;case rel=>exact⟨m,n+1,wider f lo hh,hms,qo,rfl,by go_num,by rw[decide_eq_true (succ_pos n)];exact HF.out,trivial⟩
          case measure=>simp[intOf];omega
       .have HK:=qH1 h45;have HF:Hid (yCo (sb p) (i+1) true k true (wider f lo lo)):=by show yCo _ _ _ _ _ _;unfold yCo;rw[HE.eq,HG.out];unfold yBw;rw[HCh.out];simp only[];rw[if_neg HK.out]
        clear h45;by_cases hke:k<p.size
        .obtain⟨y,hy⟩:∃y,(sb p)[k]?=some y:=qg (by rw[yAe];exact hke);obtain⟨_,gy⟩:=yAr hy;have zk:(k:Int)<(p.size:Int):=qo
         have zy:((y.toNat:Int)==45)=false:=beq_eq_false_iff_ne.2 (yA8 (c:=45) (λq=>HK.out (by rw[hy,q])));clear hy;go_wp2;go_roundw;case rel=>exact⟨k,n+1,wider f lo lo,hks,qo,rfl,by go_num,by rw[decide_eq_true (succ_pos n)];exact HF.out,trivial⟩
         case measure=>simp[intOf];omega
        .have zk:¬(k:Int)<(p.size:Int):=qo
         go_wp2;go_roundw;case rel=>exact⟨k,n+1,wider f lo lo,hks,qo,rfl,by go_num,by rw[decide_eq_true (succ_pos n)];exact HF.out,trivial⟩
         case measure=>simp[intOf];omega
    .have HF:Hid (yAq (sb p) (i+1)=.inr (2,p.size)):=by show yAq (sb p) (i+1)=_;rw[HE.eq,clsM,dif_neg (by rw[yAe];exact hlt),yAe]
     have zj:¬(j:Int)<(p.size:Int):=qo
     go_wp2_with fail;exact bodyPost_ret (v:=.tuple #[xi 0,.agg #[xi 2,xi p.size]]) (yB7 rfl rfl (HS.out (xi 2) (xi p.size)).1) rfl ⟨.inr ⟨2,p.size,HF.out,rfl⟩,(HS.out (xi 2) (xi p.size)).2⟩
 .have a5:¬(i:Int)+1<(p.size:Int):=qo
  cases ng
  case true=>exact absurd (HNG.1 rfl) (by rw[getElem?_eq_none (by rw[yAe];omega)];exact λq=>by cases q)
  exact zzQ1
def yBp(p:List UInt8):Int×Nat:=if 200<p.length then(1,0)else chkM p 0 0 false
theorem xFq{z:Value}(ht:a.tmps.getD 2 undef=(xp rb))(he:yA w base 158 2 rb [y,z]):
  (results Tryz.f89 a.tmps).run prog w=.ok (.agg #[y,z]) w:=by
 obtain⟨q0,q1⟩:=he.c2;have h2:a.tmps[2]?.getD undef=(xp rb):=by rw[<-Array.getD_eq_getD_getElem?];exact ht
 simp[results,results89,go_sem,h2,q0,q1]
def ChkP(p:ByteArray)(w:World)(e:Ending)(w':World):Prop:=e=.returned (.agg #[xi (yBp (sb p)).1,xi (yBp (sb p)).2])/\Below w w w'
theorem yEj{c:Int}(hM:yBp (sb p)=(c,k))(hd:a.defers= [])(ht:a.tmps.getD 2 undef=(xp w))(hx:yA wr w 158 2 w [xi 0,xi 0])(hb:Below w w wr):
  bodyPost prog Tryz.f89 (ChkP p w) .ret a (xt (wr.setCell (xd w 0) (xi c)) w 1 (xi k)):=
 bodyPost_ret (v:=.agg #[xi c,xi k]) (xFq ht ((hx.set 0 _).set 1 _)) hd ⟨by rw[hM],yAc (yAc hb qr 0 _) qr 1 _⟩
theorem yB6(p:ByteArray) w (hpm:p.size<=maxLen):Calls prog 89 #[p] w (ChkP p w):=by
 obtain⟨W0,a4⟩:=qE (xw w #[xi 0,xi 0] 158:World);have a1:Hid (yA W0 w 158 2 w [xi 0,xi 0]/\Below w w W0):=by rw[a4];exact⟨yAa w _ qr rfl,qB⟩
 unfold maxLen at hpm;by_cases hp:200<p.size
 .have HM:Hid (yBp (sb p)=(1,0)):=by show yBp (sb p)=_;unfold yBp;rw[if_pos (by rw[yAe];exact hp)]
  have z2:(200:Int)<(p.size:Int):=qo
  obtain⟨r0,r1⟩:=a1.1.c2;obtain⟨f0,f1⟩:=a1.1.f2;go_enter func89,ntmps89;go_upto_region 1 with fail;rw[<-a4];clear a4;go_wp2_with fail;exact yEj HM.out rfl rfl a1.1 a1.2
 have a9:p.size<=200:=qo
 have HM:Hid (yBp (sb p)=chkM (sb p) 0 0 false):=by show yBp (sb p)=_;unfold yBp;rw[if_neg (by rw[yAe];exact hp)]
 have z2:¬(200:Int)<(p.size:Int):=qo
 go_enter func89,ntmps89;go_upto_region 1 with fail;rw[<-a4];clear a4 hp;go_wp2_with fail;go_loopw[3,4,5] (λov av iv wr=>∃(i o:Nat)(a:Bool),i<=p.size/\o<=i/\ov=(xi o)/\av=a/\iv=(xi i)/\yBp (sb p)=chkM (sb p) i o a/\Below W0 W0 wr) (λ_ _ iv _=>p.size-(intOf iv).toNat);case atStart=>exact⟨0,0,false,zero_le _,zero_le _,rfl,rfl,rfl,HM.out,Below.refl _ _⟩
 case round=>
  obtain⟨i,o,a,hi,aj,rfl,rfl,rfl,hE,hb⟩:=hrel;have HE:=qH1 hE;have HX:=qH2 (a1.1.below hb) (a1.2.trans (hb.mono a1.2.size));have HB:=qH1 hb;obtain⟨r0,r1⟩:=HX.1.c2;obtain⟨f0,f1⟩:=HX.1.f2;clear hE hb HM;by_cases hlt:i<p.size
  .obtain⟨c,hc⟩:∃x,(sb p)[i]?=some x:=qg (by rw[yAe];exact hlt);obtain⟨_,gc⟩:=yAr hc;have HC:Hid ((sb p)[i]?=some c):=hc;have zi:(i:Int)<(p.size:Int):=qo
   clear hc;by_cases h40:c=40
   .subst h40;by_cases ho:o=20
    .subst ho;have HF:Hid (yBp (sb p)=(3,i)):=by show yBp (sb p)=_;rw[HE.out,yDu HC.out,if_pos rfl]
     go_wp2_with fail;exact yEj HF.out rfl rfl HX.1 HX.2
    .have zo:¬(o:Int)=20:=qo
     have HF:Hid (yBp (sb p)=chkM (sb p) (i+1) (o+1) false):=by show yBp (sb p)=_;rw[HE.out,yDu HC.out,if_neg ho]
     go_wp2;go_roundw;case rel=>exact⟨i+1,o+1,false,qo,qo,by go_num,rfl,by go_num,HF.out,HB.out⟩
     case measure=>simp[intOf];omega
   have ag:((c.toNat:Int)==40)=false:=beq_eq_false_iff_ne.2 (yA8 (c:=40) h40);by_cases h41:c=41
   .subst h41;by_cases ho:o=0
    .subst ho;have HF:Hid (yBp (sb p)=(2,i)):=by show yBp (sb p)=_;rw[HE.out,yD4 HC.out,if_pos rfl]
     go_wp2_with fail;exact yEj HF.out rfl rfl HX.1 HX.2
    .have zo:¬(o:Int)=0:=qo
     have HF:Hid (yBp (sb p)=chkM (sb p) (i+1) (o-1) true):=by show yBp (sb p)=_;rw[HE.out,yD4 HC.out,if_neg ho]
     go_wp2;go_roundw;case rel=>exact⟨i+1,o-1,true,qo,qo,congrArg (Value.int .i64) qo,rfl,by go_num,HF.out,HB.out⟩
     case measure=>simp[intOf];omega
   have af:((c.toNat:Int)==41)=false:=beq_eq_false_iff_ne.2 (yA8 (c:=41) h41);by_cases h124:c=124
   .subst h124;have HF:Hid (yBp (sb p)=chkM (sb p) (i+1) o false):=by show yBp (sb p)=_;rw[HE.out,yKl HC.out]
    go_wp2;go_roundw;case rel=>exact⟨i+1,o,false,qo,qo,rfl,rfl,by go_num,HF.out,HB.out⟩
    case measure=>simp[intOf];omega
   have ah:((c.toNat:Int)==124)=false:=beq_eq_false_iff_ne.2 (yA8 (c:=124) h124);have HL:Hid (∀q:Bool,decide (isOp c)=q->Calls prog 142 #[.int .u8 (c.toNat:Int)] wr λe w'=>e=.returned q/\w'=wr):=λq hq=>by rw[<-hq];exact yBi c wr
   by_cases hop:isOp c
   .go_wp2_with fail;refine(HL.out true (decide_eq_true hop)).mono ?_;rintro e w3 ⟨rfl,a3⟩;rw[a3];clear a3 HL;cases a
    .have HF:Hid (yBp (sb p)=(2,i)):=by show yBp (sb p)=_;rw[HE.out,yR HC.out hop];rfl
     clear hop;go_wp2_with fail;exact yEj HF.out rfl rfl HX.1 HX.2
    .have HF:Hid (yBp (sb p)=chkM (sb p) (i+1) o true):=by show yBp (sb p)=_;rw[HE.out,yR HC.out hop,if_pos rfl]
     clear hop;exact xCz
   go_wp2_with fail;refine(HL.out false (decide_eq_false hop)).mono ?_;rintro e w3 ⟨rfl,a3⟩;rw[a3];have ab:=qH1 hop;clear a3 HL hop;by_cases h91:c=91
   .subst h91;go_wp2_with fail;refine(yIe p i wr a9 hlt).mono ?_;rintro e w4 ⟨hP,a2⟩;have a5:Below W0 W0 w4:=HB.trans (a2.mono HB.size);have ai:=a2.size;have a8:=HX.2.size;rcases hP with⟨f,k,hk,rfl⟩|⟨c4,k,hk,rfl⟩
    .have a6:=yBj hk;rw[yAe]at a6;obtain⟨W5,a0⟩:=qE (xw w4 #[xi 0,xi 0] 158:World);have HF:Hid (yBp (sb p)=chkM (sb p) k o true/\Below W0 W0 W5):=by refine⟨by rw[HE.out,yD5 HC.out,hk],?_⟩;rw[a0];exact a5.trans ((Below.refl _ _).alloc (by have:=HB.size;omega) _)
     clear hk a2 a5 r0 r1 f0 f1;go_wp2_with fail;rw[<-a0];go_roundw;case rel=>exact⟨k,o,true,a6.2,qo,rfl,rfl,rfl,HF.1,HF.2⟩
     case measure=>simp[intOf];omega
    .have aa:=yMt hk;obtain⟨W5,a0⟩:=qE (xw w4 #[xi c4,xi k] 158:World);have HF:Hid (yBp (sb p)=(c4,k)/\yA W5 w 158 2 w [xi 0,xi 0]/\Below w w W5/\yA W5 w 158 2 w4 [xi c4,xi k]):=by
      have a7:=qN a0
      refine⟨by rw[HE.out,yD5 HC.out,hk],(HX.1.below a2).below a7,(HX.2.trans (a2.mono a8)).trans (a7.mono qo),?_⟩;rw[a0];exact yAa w4 _ qo rfl
     have ak:(c4 != 0)=true:=by simpa using aa
     clear hk a2 a5 r0 r1 f0 f1;go_upto_region 29 with fail;rw[<-a0];clear a0;obtain⟨b0,b1⟩:=HF.2.2.2.c2;obtain⟨r0,r1⟩:=HF.2.1.c2;obtain⟨f0,f1⟩:=HF.2.1.f2;go_wp2_with fail;exact yEj HF.1 rfl rfl HF.2.1 HF.2.2.1
   have ae:((c.toNat:Int)==91)=false:=beq_eq_false_iff_ne.2 (yA8 (c:=91) h91);by_cases h93:c=93
   .subst h93;have HF:Hid (yBp (sb p)=(2,i)):=by show yBp (sb p)=_;rw[HE.out,yQ9 HC.out]
    go_wp2_with fail;exact yEj HF.out rfl rfl HX.1 HX.2
   have ac:((c.toNat:Int)==93)=false:=beq_eq_false_iff_ne.2 (yA8 (c:=93) h93);by_cases h92:c=92
   .subst h92;by_cases hl1:i+1=p.size
    .have HF:Hid (yBp (sb p)=(2,p.size)):=by show yBp (sb p)=_;rw[HE.out,yHu HC.out,if_pos (by rw[yAe];exact hl1),yAe]
     have zl:(i:Int)+1=(p.size:Int):=qo
     go_wp2_with fail;exact yEj HF.out rfl rfl HX.1 HX.2
    .have HF:Hid (yBp (sb p)=chkM (sb p) (i+2) o true):=by show yBp (sb p)=_;rw[HE.out,yHu HC.out,if_neg (by rw[yAe];exact hl1)]
     have zl:¬(i:Int)+1=(p.size:Int):=qo
     go_wp2;go_roundw;case rel=>exact⟨i+2,o,true,qo,qo,rfl,rfl,by go_num,HF.out,HB.out⟩
     case measure=>simp[intOf];omega
   have ad:((c.toNat:Int)==92)=false:=beq_eq_false_iff_ne.2 (yA8 (c:=92) h92);have HF:Hid (yBp (sb p)=chkM (sb p) (i+1) o true):=by show yBp (sb p)=_;rw[HE.out,yFe HC.out (λq=>q.elim ab.out (λq=>q.elim h124 (λq=>q.elim h41 h93))) h40 h91 h92]
   exact xCz
  .have zi:¬(i:Int)<(p.size:Int):=qo
   by_cases ho:0<o
   .have HF:Hid (yBp (sb p)=(2,p.size)):=by show yBp (sb p)=_;rw[HE.out,yHv (by rw[yAe];exact hlt),if_pos ho,yAe]
    have zo:(0:Int)<(o:Int):=qo
    go_wp2_with fail;exact yEj HF.out rfl rfl HX.1 HX.2
   .have HF:Hid (yBp (sb p)=(0,0)):=by show yBp (sb p)=_;rw[HE.out,yHv (by rw[yAe];exact hlt),if_neg ho]
    have zo:¬(0:Int)<(o:Int):=qo
    go_wp2_with fail;exact yEj HF.out rfl rfl HX.1 HX.2
def inR(lo:ByteArray)(hh:Bool)(hi row:ByteArray):Bool:= !Op.bytesLess row.toList lo.toList && (!hh || Op.bytesLess row.toList hi.toList)
theorem yIr(lo hi row:ByteArray)(hh:Bool)(w:World):
  Calls prog 235 #[.agg #[lo,hh,hi],row] w λe w'=>
   e=.returned (inR lo hh hi row)/\Below w w w':=by
 unfold inR;cases hb:Op.bytesLess row.toList lo.toList<;>cases hh
 all_goals
  go_enter func235,ntmps235
  go_wp2
  go_ret
  exact⟨by simp,qB⟩
theorem yEe(W0:World)(a:Int) w (hb:Below W0 W0 w) (h0:0<a) (h1:a<=2^40):
  Calls prog 69 #[xi a] w λe w'=>e=.returned (yAx a.toNat)/\Below W0 W0 w':=by
 refine(yBv a w h0 h1).mono ?_;rintro e w' ⟨he,a0⟩;exact⟨he,hb.trans (a0.mono hb.size)⟩
end Go.Proofs.YtnnagkfoiganfaaGreatDoor
