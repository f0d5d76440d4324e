import Derived.Test.YtehfleefkdojpaaGreatDoorSkAG
import Derived.Test.YtehfleefkdojpaaGreatDoorSkAF
import Derived.Test.YtehfleefkdojpaaGreatDoorSkAE
namespace Go.Proofs.YtehfleefkdojpaaGreatDoor
open Go.ChangeShapes Go.WideShapes Go.ChangeAt Go.RowKit Go.Deep _root_.List _root_.Nat Go.Proofs.Tryz
set_option linter.unusedVariables false
set_option linter.unusedSimpArgs false
set_option maxRecDepth 100000
set_option maxHeartbeats 16000000
def yA0(lo:ByteArray)(hh:Bool)(hi:ByteArray)(ess:List (List Ent)):List (List Ent):=(ess.map (inP lo hh hi)).filter λe=>decide (0<e.length)
variable {hi:ByteArray} {hh:Bool} {l:List Rm}
theorem yOc{lo:ByteArray}{k:Nat}{r:Rm}(h:l[k]?=some r)(hx:0<(inP lo hh hi r.es).length):yA0 lo hh hi (esM (l.take (k+1)))=yA0 lo hh hi (esM (l.take k))++ [inP lo hh hi r.es]:=by
 unfold yA0 esM
 rw[take_add_one,h,map_append,map_append,List.filter_append]
 simp[hx]
theorem yQ1{lo:ByteArray}{k:Nat}{r:Rm}(h:l[k]?=some r)(hx:¬0<(inP lo hh hi r.es).length):yA0 lo hh hi (esM (l.take (k+1)))=yA0 lo hh hi (esM (l.take k)):=by
 unfold yA0 esM
 rw[take_add_one,h,map_append,map_append,List.filter_append]
 have:decide (0<(inP lo hh hi r.es).length)=false:=decide_eq_false hx
 simp only[Option.toList_some,map_cons,map_nil,List.filter_cons,this,List.filter_nil]
 simp
theorem yOd(lo hi:ByteArray)(hh:Bool)(l:List Rm)(k:Nat):(yA0 lo hh hi (esM (l.take k))).length<=l.length:=by
 unfold yA0 esM
 have h1:=List.length_filter_le (λe:List Ent=>decide (0<e.length)) (((l.take k).map Rm.es).map (inP lo hh hi))
 rw[length_map,length_map,length_take]at h1
 omega
def yZl(w:World)(ess:List (List Ent))(e:Ending)(w':World):Prop:=∃g cp rs,e=.returned (.slice (some ⟨g,0,none⟩) rs.length cp)/\yBt w' w.heap.size (.slice (some ⟨g,0,none⟩) rs.length cp) rs ess/\Below w.heap.size w w'
variable {w:World} {base:Nat} {ess:List (List Ent)}
theorem yBt.snoc{w2 w3:World}{v v':Value}{rs:List Rw}{g' cp':Nat}{es:List Ent}(h:yBt w base v rs ess)(hb:Below w.heap.size w w2)(hO:OwnE w2 base g' cp' es)
  (hA:AppR w2 w3 base v v' (rs.map Rw.u) [.slice (some ⟨g',0,none⟩) es.length cp']):yBt w3 base v' (rs++ [⟨.slice (some ⟨g',0,none⟩) es.length cp',es,some g'⟩]) (ess++ [es]):=by
 have h2:=h.below hb
 have y:∀x:Rw,OwnK w2 base x->OwnK w3 base x:=λx hx=>by
  refine hx.kept hA.grown (λk' hk' q=>?_)
  rcases hx with⟨h0,_⟩|⟨g2,a0,h1,_,hE⟩
  .rw[h0]at hk';cases hk'
  .rw[h1]at hk'
   have e3:g2=k':=Option.some.inj hk'
   subst e3
   exact yAb h2.row hE (by decide) _ q rfl
 refine⟨by rw[map_append];exact hA.row,λr hr=>?_,by rw[map_append,h.same];rfl⟩
 rcases List.mem_append.1 hr with q|q
 .exact y r (h2.ents r q)
 .simp at q
  subst q
  exact y _ (.inr ⟨g',cp',rfl,rfl,hO⟩)
theorem yGp(v:Value)(l:List Rm)(lo hi:ByteArray)(hh:Bool)(w:World)(h:yC9 w v l)(hn:l.length<=1048576)(ht:∀r∈l,r.es.length<=1048576):
  Calls prog 74 #[v,.agg #[.string lo,.bool hh,.string hi]] w λe w'=>yZl w (yA0 lo hh hi (esM l)) e w':=by
 obtain⟨ad,vc,rfl,ae⟩:=h.shape
 have HA:Hid (∀(i:Nat)(r:Rm),l[i]?=some r->∃b off,ad=some ⟨b,off,none⟩/\b<w.heap.size/\yB5 w b off l):=ae
 clear h ae
 obtain⟨Wa,a3⟩:=qE ((w.alloc (Obj.cells #[.string lo,.bool hh,.string hi] 30)).alloc (Obj.cells #[] 60):World)
 have af:Below w.heap.size w Wa:=by rw[a3];exact(qB).alloc (by simp) _
 have al:Wa.heap.size=w.heap.size+1+1:=by rw[a3];simp
 have aj:Hid (yBt Wa (w.heap.size+1) (.slice (some ⟨w.heap.size+1,0,none⟩) 0 0) [] []):=by
  have h1:=yEv (w.alloc (Obj.cells #[.string lo,.bool hh,.string hi] 30)) (w.heap.size+1) (by simp)
  rw[<-a3,show(w.alloc (Obj.cells #[.string lo,.bool hh,.string hi] 30)).heap.size=w.heap.size+1 by simp]at h1
  exact⟨h1,λr hr=>by simp at hr,rfl⟩
 have HC:Hid (∀wx,Below (w.heap.size+1) Wa wx->wx.cell? ⟨w.heap.size,0,none⟩=some (.string lo)/\wx.cell? ⟨w.heap.size,1,none⟩=some (.bool hh)/\wx.cell? ⟨w.heap.size,2,none⟩=some (.string hi)/\Below w.heap.size w wx):=by
  intro wx hx
  refine⟨?_,?_,?_,af.trans (hx.mono (by omega))⟩
  .rw[hx.cell (p:=⟨w.heap.size,0,none⟩) (by show w.heap.size<w.heap.size+1;omega),a3];simp[go_sem]
  .rw[hx.cell (p:=⟨w.heap.size,1,none⟩) (by show w.heap.size<w.heap.size+1;omega),a3];simp[go_sem]
  .rw[hx.cell (p:=⟨w.heap.size,2,none⟩) (by show w.heap.size<w.heap.size+1;omega),a3];simp[go_sem]
 have HT:Hid (∀r∈l,r.es.length<=1048576):=ht
 clear ht
 go_enter func74,ntmps74
 go_wp2_with fail
 rw[<-a3]
 clear a3
 go_loopw[5,6] (λo i wr=>∃(k g cp:Nat)(rs:List Rw),k<=l.length/\i=.int .i64 k/\o=.slice (some ⟨g,0,none⟩) rs.length cp/\yBt wr (w.heap.size+1) (.slice (some ⟨g,0,none⟩) rs.length cp) rs (yA0 lo hh hi (esM (l.take k)))/\Below (w.heap.size+1) Wa wr) (λ_ i _=>l.length-(intOf i).toNat)
 case atStart=>exact⟨0,w.heap.size+1,0,[],zero_le _,rfl,rfl,aj.out,Below.refl _ _⟩
 case round=>
  obtain⟨k,g,cp,rs,hk,rfl,rfl,hC,hb⟩:=hrel
  have HR:Hid (yBt wr (w.heap.size+1) (.slice (some ⟨g,0,none⟩) rs.length cp) rs (yA0 lo hh hi (esM (l.take k)))):=hC
  have an:rs.length<=1048576:=by
   have h1:=congrArg List.length hC.same
   rw[length_map]at h1
   have h2:=yOd lo hi hh l k
   omega
  have am:=hb.size
  clear hC
  by_cases hlt:k<l.length
  .obtain⟨r,hr⟩:∃r,l[k]?=some r:=⟨_,getElem?_eq_getElem hlt⟩
   obtain⟨b,off,rfl,hB,ag⟩:=HA.out k r hr
   have HD:Hid (l[k]?=some r/\r.es.length<=1048576):=⟨hr,HT.out r (mem_of_getElem? hr)⟩
   have HK:Hid (∀wx,Below (w.heap.size+1) Wa wx->(wx.cell? ⟨w.heap.size,0,none⟩=some (.string lo)/\wx.cell? ⟨w.heap.size,1,none⟩=some (.bool hh)/\wx.cell? ⟨w.heap.size,2,none⟩=some (.string hi)/\wx.cell? ⟨b,off+k,none⟩=some (.slice (some ⟨r.b,r.off,none⟩) r.es.length r.cap))/\r.at wx):=by
    intro wx hx
    obtain⟨p0,p1,p2,p3⟩:=HC.out wx hx
    obtain⟨p4,p5⟩:=(ag.below p3 hB) k r hr
    exact⟨⟨p0,p1,p2,p4⟩,p5⟩
   clear hr ag
   have zk:(k:Int)<(l.length:Int):=by omega
   have hS:(λw':World=>w'.cell? ⟨w.heap.size,0,none⟩=some (.string lo)/\w'.cell? ⟨w.heap.size,1,none⟩=some (.bool hh)/\w'.cell? ⟨w.heap.size,2,none⟩=some (.string hi)/\w'.cell? ⟨b,off+k,none⟩=some (.slice (some ⟨r.b,r.off,none⟩) r.es.length r.cap)) wr.drew:=(HK.out wr.drew hb.drew).1
   go_upto_region 5 with fail
   refine yAq 7 (λw':World=>w'.cell? ⟨w.heap.size,0,none⟩=some (.string lo)/\w'.cell? ⟨w.heap.size,1,none⟩=some (.bool hh)/\w'.cell? ⟨w.heap.size,2,none⟩=some (.string hi)/\w'.cell? ⟨b,off+k,none⟩=some (.slice (some ⟨r.b,r.off,none⟩) r.es.length r.cap)) (by kernel_rfl) ?_
   refine qU 0 ?vr0x1 rfl ?yr0x1 hS ?_
   case yr0x1=>(intro wz y;(try dsimp only at y);go_simp;(try with_reducible rfl))
   try simp only[qA]
   refine qU 1 ?vr1x2 rfl ?yr1x2 hS ?_
   case yr1x2=>(intro wz y;(try dsimp only at y);go_simp;(try with_reducible rfl))
   try simp only[qA]
   refine qU 2 ?vr2x3 rfl ?yr2x3 hS ?_
   case yr2x3=>(intro wz y;(try dsimp only at y);go_simp;(try with_reducible rfl))
   try simp only[qA]
   refine qU 3 ?vr3x4 rfl ?yr3x4 hS ?_
   case yr3x4=>(intro wz y;(try dsimp only at y);go_simp;(try with_reducible rfl))
   try simp only[qA]
   refine qU 4 ?vr4x5 rfl ?yr4x5 hS ?_
   case yr4x5=>(intro wz y;(try dsimp only at y);go_simp;(try with_reducible rfl))
   try simp only[qA]
   refine qU 5 ?vr5x6 rfl ?yr5x6 hS ?_
   case yr5x6=>(intro wz y;(try dsimp only at y);go_simp;(try with_reducible rfl))
   try simp only[qA]
   refine qO 6 rfl λK hK=>?_
   go_simp
   go_at_call 96
   refine(yGq r lo hi hh _ (HK.out wr.drew hb.drew).2 HD.2).mono ?_
   rintro e v1 ⟨g1,a0,rfl,ah,hb1⟩
   have k1:Below (w.heap.size+1) Wa v1:=hb.drew.trans (hb1.mono (by have:=hb.drew.size;omega))
   have a7:Below wr.heap.size wr v1:=((Below.refl _ _).drew).trans (hb1.mono (by simp))
   have aa:Hid (OwnE v1 wr.heap.size g1 a0 (inP lo hh hi r.es)):=ah.mono (by simp)
   obtain⟨fs,a5⟩:=qE (inP lo hh hi r.es)
   have ab:Hid (fs=inP lo hh hi r.es):=a5
   rw[<-a5]at aa|-
   have ao:fs.length<=1048576:=by
    rw[a5]
    exact Nat.le_trans (List.length_filter_le ..) HD.2
   refine hK.out _ _ (.inr (HK.out v1 k1).1) ?_
   clear hK ah hb1 a5
   try simp only[qA]
   refine qO 7 rfl λK hK=>?_
   go_simp
   refine hK.out _ _ (.inl rfl) ?_
   clear hK
   try simp only[qA]
   refine qD ?_
   have s1:=a7.size
   by_cases hp:0<fs.length
   .have zp:(0:Int)<(fs.length:Int):=by omega
    obtain⟨W2,a4⟩:=qE (v1.alloc (Obj.cells #[.slice (some ⟨g1,0,none⟩) fs.length a0] 60):World)
    have hb2:Below v1.heap.size v1 W2:=by rw[a4];exact qB
    have ac:Below wr.heap.size wr W2:=a7.trans (hb2.mono s1)
    have ai:Hid (W2.ownsRow (w.heap.size+1) 60 1 (.slice (some ⟨g,0,none⟩) rs.length cp) (rs.map Rw.u).length (rs.map Rw.u)):=(HR.below ac).row
    have ak:Hid (∀j u,[Value.slice (some ⟨g1,0,none⟩) fs.length a0][j]?=some u->W2.cell? ⟨v1.heap.size,0+j,none⟩=some u):=by rw[a4];exact yCd
    have s2:=hb2.size
    go_wp2_with (at_builtin;rw[<-a4];refine yA8 _ rfl _ _ rfl (w.heap.size+1) (.slice (some ⟨g,0,none⟩) rs.length cp) (rs.map Rw.u) v1.heap.size 0 1 1 [.slice (some ⟨g1,0,none⟩) fs.length a0] rfl rfl rfl ai.out ak.out ?h1 ?hl ?hb ?_)
    case h1=>rfl
    case hl=>omega
    case hb=>omega
    intro v' w3 a8
    obtain⟨g3,a9,rfl⟩:=a8.form (by intro q;cases q)
    have a6:AppR W2 w3 (w.heap.size+1) (.slice (some ⟨g,0,none⟩) rs.length cp) (.slice (some ⟨g3,0,none⟩) (rs.map Rw.u++ [Value.slice (some ⟨g1,0,none⟩) fs.length a0]).length a9) (rs.map Rw.u) [.slice (some ⟨g1,0,none⟩) fs.length a0]:=by rw[a4];exact a8
    have hz:(rs.map Rw.u++ [Value.slice (some ⟨g1,0,none⟩) fs.length a0]).length=rs.length+1:=by simp
    rw[hz]at a6|-
    have HN:Hid (yBt w3 (w.heap.size+1) (.slice (some ⟨g3,0,none⟩) (rs.length+1) a9) (rs++ [⟨.slice (some ⟨g1,0,none⟩) fs.length a0,fs,some g1⟩]) (yA0 lo hh hi (esM (l.take (k+1))))/\Below (w.heap.size+1) Wa w3):=by
     have h1:=HR.snoc ac ((aa.mono (by omega)).below hb2 aa.lt.2) a6
     have e1:yA0 lo hh hi (esM (l.take k))++ [fs]=yA0 lo hh hi (esM (l.take (k+1))):=by
      rw[yOc HD.1 (by rw[<-ab.out];exact hp),<-ab.out]
     rw[e1]at h1
     exact⟨h1,(k1.trans (hb2.mono (by omega))).grown a6.grown (by omega) (λj hj=>yCl ai.out j hj)⟩
    clear a8 a6 hz a4
    go_wp2_with fail
    go_roundw
    case rel=>
     go_light
     exact⟨k+1,g3,a9,rs++ [⟨.slice (some ⟨g1,0,none⟩) fs.length a0,fs,some g1⟩],by omega,by go_num,by simp,by rw[length_append];exact HN.1,HN.2⟩
    case measure=>go_light;simp[intOf];omega
   .have zp:¬(0:Int)<(fs.length:Int):=by omega
    have HN:Hid (yBt v1 (w.heap.size+1) (.slice (some ⟨g,0,none⟩) rs.length cp) rs (yA0 lo hh hi (esM (l.take (k+1))))):=by
     rw[yQ1 HD.1 (by rw[<-ab.out];exact hp)]
     exact HR.below a7
    go_wp2_with fail
    go_roundw
    case rel=>
     go_light
     exact⟨k+1,g,cp,rs,by omega,by go_num,rfl,HN.out,k1⟩
    case measure=>go_light;simp[intOf];omega
  .have zk:¬(k:Int)<(l.length:Int):=by omega
   have H:Hid (yBt wr w.heap.size (.slice (some ⟨g,0,none⟩) rs.length cp) rs (yA0 lo hh hi (esM l))):=by
    have h1:=HR.out
    rw[take_of_length_le (by omega)]at h1
    exact h1.mono (by omega)
   go_wp2_with fail
   go_ret
   exact⟨g,cp,rs,rfl,H.out,af.trans (hb.mono (by omega))⟩
def cutT(ts:List Tb)(i:Nat)(a:Tb)(row:ByteArray):List Tb:=
 ts.take i++ [⟨a.lo,yA0 ⟨#[]⟩ true row a.rs⟩,⟨row,yA0 row false ⟨#[]⟩ a.rs⟩]++ts.drop (i+1)
structure SplT(ts:List Tb)(row:ByteArray)(out:List Tb):Prop where
 bad:¬GoodS ts->out=ts
 long:64<row.size->out=ts
 full:ts.length=100->out=ts
 same:GoodS ts->∀i a,yBp ts row i->ts[i]?=some a->a.lo=row->out=ts
 done:GoodS ts->row.size<=64->ts.length≠100->∀i a,yBp ts row i->ts[i]?=some a->a.lo≠row->out=cutT ts i a row
theorem yTm{ts:List Tb}{row:ByteArray}{o1 o2:List Tb}(h:SplT ts row o1)(k:SplT ts row o2):o1=o2:=by
 by_cases hg:GoodS ts
 .by_cases hl:64<row.size
  .rw[h.long hl,k.long hl]
  .by_cases hf:ts.length=100
   .rw[h.full hf,k.full hf]
   .obtain⟨i,hi⟩:=yB9 hg row;have ha:=getElem?_eq_getElem hi.1;by_cases hs:(ts[i]'hi.1).lo=row
    .rw[h.same hg i _ hi ha hs,k.same hg i _ hi ha hs]
    .rw[h.done hg (by omega) hf i _ hi ha hs,k.done hg (by omega) hf i _ hi ha hs]
 .rw[h.bad hg,k.bad hg]
theorem yQn{ts:List Tb}{row:ByteArray}(h:¬GoodS ts):SplT ts row ts:=⟨λ_=>rfl,λ_=>rfl,λ_=>rfl,λq=>absurd q h,λq=>absurd q h⟩
theorem yNa{ts:List Tb}{row:ByteArray}(h:64<row.size):SplT ts row ts:=⟨λ_=>rfl,λ_=>rfl,λ_=>rfl,λ_ _ _ _ _ _=>rfl,λ_ q=>by omega⟩
theorem yNb{ts:List Tb}{row:ByteArray}(h:ts.length=100):SplT ts row ts:=⟨λ_=>rfl,λ_=>rfl,λ_=>rfl,λ_ _ _ _ _ _=>rfl,λ_ _ q=>absurd h q⟩
variable {i:Nat} {a:Tb}
theorem yJa{ts:List Tb}{row:ByteArray}(hi:yBp ts row i)(ha:ts[i]?=some a)(hs:a.lo=row):SplT ts row ts:=by
 refine⟨λ_=>rfl,λ_=>rfl,λ_=>rfl,λ_ _ _ _ _ _=>rfl,λ_ _ _ j b hj hb hne=>?_⟩;have:=yE0 hi hj;subst this;rw[ha]at hb;cases hb
 exact absurd hs hne
theorem yNc{ts:List Tb}{row:ByteArray}(hg:GoodS ts)(hl:row.size<=64)(hf:ts.length≠100)(hi:yBp ts row i)(ha:ts[i]?=some a)(hs:a.lo≠row):SplT ts row (cutT ts i a row):=by
 refine⟨λq=>absurd hg q,λq=>by omega,λq=>absurd q hf,λ_ j b hj hb he=>?_,λ_ _ _ j b hj hb hne=>?_⟩
 all_goals
  have:=yE0 hi hj
  subst this
  rw[ha]at hb
  cases hb
 .exact absurd he hs
 .rfl
theorem yRq{ts:List Tb}{row:ByteArray}(hg:GoodS ts)(hr:row.size=0):SplT ts row ts:=by
 obtain⟨i,hi⟩:=yB9 hg row;have h0:0<ts.length:=by have:=hg.ne;omega
 obtain⟨a,h1⟩:∃a,ts[0]?=some a:=⟨_,getElem?_eq_getElem h0⟩;have h2:=hg.first _ h1;have e0:∀x:ByteArray,x.size=0->x=⟨#[]⟩:=λx hx=>by
  cases x with
  |mk d=>congr 1;exact Array.eq_empty_of_size_eq_zero hx
 have y:i=0:=by
  by_cases hz:i=0
  .exact hz
  .obtain⟨b,h3⟩:∃b,ts[1]?=some b:=⟨_,getElem?_eq_getElem (show 1<ts.length by have:=hi.1;omega)⟩;have h4:=(hi.2 1 _ h3).1 (by omega);have h5:=(hg.tabs 1 _ h3).up _ (by omega) h1;rw[e0 _ h2]at h5;rw[e0 _ hr]at h4;rw[h4]at h5;cases h5
 subst y;exact yJa hi h1 (by rw[e0 _ h2,e0 _ hr])
structure yBj(w:World)(base B:Nat)(v:Value)(ps:List Rm)(ess:List (List Ent)):Prop where
 row:w.ownsRow base 60 1 v (ps.map Rm.u).length (ps.map Rm.u)
 ents:∀p∈ps,p.at w/\p.b<B
 same:esM ps=ess
variable {B:Nat}
theorem yRc{w':World}{p:Rm}(h:p.at w)(hb:Below B w w')(hlt:p.b<B):p.at w':=⟨h.ents.below hb hlt,by have:=hb.size;have:=h.lt;omega,h.len,h.cap⟩
variable {ps:List Rm}
theorem yBj.below{w':World}{v:Value}(h:yBj w base B v ps ess)(hb:Below w.heap.size w w'):yBj w' base B v ps ess:=
 ⟨yB h.row hb,λp hp=>⟨(h.ents p hp).1.below hb,(h.ents p hp).2⟩,h.same⟩
theorem yBj.mono{base':Nat}{v:Value}(h:yBj w base B v ps ess)(hb:base'<=base):yBj w base' B v ps ess:=
 ⟨yDr h.row hb,h.ents,h.same⟩
theorem yBj.snoc{w2 w3:World}{v v':Value}{p:Rm}(h:yBj w base B v ps ess)(hb:Below w.heap.size w w2)(hp:p.at w2)(hpB:p.b<B)(hB:B<=base)
  (hA:AppR w2 w3 base v v' (ps.map Rm.u) [p.u]) (hbase:base<=w2.heap.size):yBj w3 base B v' (ps++ [p]) (ess++ [p.es]):=by
 have h2:=h.below hb;have hb3:Below B w2 w3:=(Below.refl _ _).grown hA.grown (by omega) (λj hj=>by have:=yCl h2.row j hj;omega);refine⟨by rw[map_append];exact hA.row,λq hq=>?_,?_⟩
 .rcases List.mem_append.1 hq with q'|q'
  .exact⟨yRc (h2.ents q q').1 hb3 (h2.ents q q').2,(h2.ents q q').2⟩
  .simp at q';subst q';exact⟨yRc hp hb3 hpB,hpB⟩
 .have:=h.same;unfold esM at this|-;rw[map_append,this];rfl
def xCf(w:World)(B:Nat)(ess:List (List Ent))(e:Ending)(w':World):Prop:=∃g cp ps,e=.returned (.slice (some ⟨g,0,none⟩) ps.length cp)/\yBj w' w.heap.size B (.slice (some ⟨g,0,none⟩) ps.length cp) ps ess/\Below w.heap.size w w'
theorem yJ1(lo0:ByteArray)(b off cap:Nat)(l:List Rm)(lo hi:ByteArray)(hh:Bool)(w:World)(h:yB5 w b off l)(hB:b<w.heap.size)(hn:l.length<=1048576)(hg:∀r∈l,yAp r.es)(B:Nat)(hlB:∀r∈l,r.b<B)(hBw:B<=w.heap.size):
  Calls prog 70 #[.agg #[.string lo0,.slice (some ⟨b,off,none⟩) l.length cap],.agg #[.string lo,.bool hh,.string hi]] w λe w'=>xCf w B (yA0 lo hh hi (esM l)) e w':=by
 obtain⟨Wa,y⟩:=qE (((w.alloc (Obj.cells #[.string lo0,.slice (some ⟨b,off,none⟩) l.length cap] 56)).alloc (Obj.cells #[.string lo,.bool hh,.string hi] 30)).alloc (Obj.cells #[] 60):World);have ad:Below w.heap.size w Wa:=by rw[y];exact((qB).alloc (by simp) _).alloc (by simp;omega) _
 have ak:Wa.heap.size=w.heap.size+1+1+1:=by rw[y];simp
 have ah:Hid (yBj Wa (w.heap.size+1+1) B (.slice (some ⟨w.heap.size+1+1,0,none⟩) 0 0) [] []):=by have h1:=yEv ((w.alloc (Obj.cells #[.string lo0,.slice (some ⟨b,off,none⟩) l.length cap] 56)).alloc (Obj.cells #[.string lo,.bool hh,.string hi] 30)) (w.heap.size+1+1) (by simp);rw[<-y,show((w.alloc (Obj.cells #[.string lo0,.slice (some ⟨b,off,none⟩) l.length cap] 56)).alloc (Obj.cells #[.string lo,.bool hh,.string hi] 30)).heap.size=w.heap.size+1+1 by simp]at h1;exact⟨h1,λr hr=>by simp at hr,rfl⟩
 have HC:Hid (∀wx,Below (w.heap.size+1+1) Wa wx->wx.cell? ⟨w.heap.size+1,0,none⟩=some (.string lo)/\wx.cell? ⟨w.heap.size+1,1,none⟩=some (.bool hh)/\wx.cell? ⟨w.heap.size+1,2,none⟩=some (.string hi)/\yB5 wx b off l):=by
  intro wx hx;refine⟨?_,?_,?_,h.below (ad.trans (hx.mono (by omega))) hB⟩
  .rw[hx.cell (p:=⟨w.heap.size+1,0,none⟩) (by show w.heap.size+1<w.heap.size+1+1;omega),y];simp[go_sem]
  .rw[hx.cell (p:=⟨w.heap.size+1,1,none⟩) (by show w.heap.size+1<w.heap.size+1+1;omega),y];simp[go_sem]
  .rw[hx.cell (p:=⟨w.heap.size+1,2,none⟩) (by show w.heap.size+1<w.heap.size+1+1;omega),y];simp[go_sem]
 have HG:Hid ((∀r∈l,yAp r.es)/\∀r∈l,r.b<B):=⟨hg,hlB⟩;clear h hg hlB;go_enter func70,ntmps70;go_wp2_with fail;rw[<-y];clear y;go_loopw[5,13] (λo i wr=>∃(k g cp:Nat)(ps:List Rm),k<=l.length/\i=.int .i64 k/\o=.slice (some ⟨g,0,none⟩) ps.length cp/\yBj wr (w.heap.size+1+1) B (.slice (some ⟨g,0,none⟩) ps.length cp) ps (yA0 lo hh hi (esM (l.take k)))/\Below (w.heap.size+1+1) Wa wr) (λ_ i _=>l.length-(intOf i).toNat);case atStart=>exact⟨0,w.heap.size+1+1,0,[],zero_le _,rfl,rfl,ah.out,Below.refl _ _⟩
 case round=>
  obtain⟨k,g,cp,ps,hk,rfl,rfl,hC,hb⟩:=hrel;have HR:Hid (yBj wr (w.heap.size+1+1) B (.slice (some ⟨g,0,none⟩) ps.length cp) ps (yA0 lo hh hi (esM (l.take k)))):=hC;have am:ps.length<=1048576:=by have h1:=congrArg List.length hC.same;rw[length_map]at h1;have h2:=yOd lo hi hh l k;omega
  have al:=hb.size;clear hC;by_cases hlt:k<l.length
  .obtain⟨r,hr⟩:∃r,l[k]?=some r:=⟨_,getElem?_eq_getElem hlt⟩;have HD:Hid (l[k]?=some r/\yAp r.es/\r.b<B):=⟨hr,HG.1 r (mem_of_getElem? hr),HG.2 r (mem_of_getElem? hr)⟩;obtain⟨_,_,_,af⟩:=HC.out wr hb;obtain⟨c0,_⟩:=af k r hr;clear hr af;have zk:(k:Int)<(l.length:Int):=by omega
   obtain⟨W1,a4⟩:=qE (wr.alloc (Obj.cells #[.slice (some ⟨r.b,r.off,none⟩) r.es.length r.cap] 60):World);have hb1:Below wr.heap.size wr W1:=by rw[a4];exact qB
   have k1:Below (w.heap.size+1+1) Wa W1:=hb.trans (hb1.mono (by omega));have cr:W1.cell? ⟨wr.heap.size,0,none⟩=some (.slice (some ⟨r.b,r.off,none⟩) r.es.length r.cap):=by rw[a4];simp
   obtain⟨e0,e1,e2,ae⟩:=HC.out W1 k1;have aj:Hid (r.at W1):=(ae k r HD.1).2;clear ae;go_upto_region 5 with fail;rw[<-a4];clear a4;go_wp2_with fail;refine(yEr r lo hi hh _ aj.out HD.2.1).mono ?_;rintro e v1 ⟨p,rfl,ab,a3,ac⟩;have a6:Below wr.heap.size wr v1:=hb1.trans (ac.mono hb1.size);have a9:Below (w.heap.size+1+1) Wa v1:=k1.trans (ac.mono (by have:=hb1.size;omega));have s1:=a6.size;have HP:Hid (p.at v1/\p.b<B/\p.es=inP lo hh hi r.es):=⟨ab,by rw[a3.blk];exact HD.2.2,yCm a3 HD.2.1⟩;have an:p.es.length<=1048576:=by have h1:=a3.len;have h2:=HD.2.1.1.1;omega
   clear ab a3 cr e0 e1 e2 c0;by_cases hp:0<p.es.length
   .have zp:(0:Int)<(p.es.length:Int):=by omega
    obtain⟨W2,a0⟩:=qE (v1.alloc (Obj.cells #[.slice (some ⟨p.b,p.off,none⟩) p.es.length p.cap] 60):World);have hb2:Below v1.heap.size v1 W2:=by rw[a0];exact qB
    have aa:Below wr.heap.size wr W2:=a6.trans (hb2.mono s1);have ag:Hid (W2.ownsRow (w.heap.size+1+1) 60 1 (.slice (some ⟨g,0,none⟩) ps.length cp) (ps.map Rm.u).length (ps.map Rm.u)):=(HR.below aa).row;have ai:Hid (∀j u,[Value.slice (some ⟨p.b,p.off,none⟩) p.es.length p.cap][j]?=some u->W2.cell? ⟨v1.heap.size,0+j,none⟩=some u):=by rw[a0];exact yCd
    have s2:=hb2.size;go_wp2_with (at_builtin;rw[<-a0];refine yA8 _ rfl _ _ rfl (w.heap.size+1+1) (.slice (some ⟨g,0,none⟩) ps.length cp) (ps.map Rm.u) v1.heap.size 0 1 1 [.slice (some ⟨p.b,p.off,none⟩) p.es.length p.cap] rfl rfl rfl ag.out ai.out ?h1 ?hl ?hb ?_);case h1=>intro u hu;simp at hu;subst hu;rfl
    case hl=>simp;omega
    case hb=>omega
    intro v' w3 a7;obtain⟨g3,a8,rfl⟩:=a7.form (by intro q;cases q);have a5:AppR W2 w3 (w.heap.size+1+1) (.slice (some ⟨g,0,none⟩) ps.length cp) (.slice (some ⟨g3,0,none⟩) (ps.map Rm.u++ [Value.slice (some ⟨p.b,p.off,none⟩) p.es.length p.cap]).length a8) (ps.map Rm.u) [p.u]:=by rw[a0];exact a7
    have hz:(ps.map Rm.u++ [Value.slice (some ⟨p.b,p.off,none⟩) p.es.length p.cap]).length=ps.length+1:=by simp
    rw[hz]at a5|-;have HN:Hid (yBj w3 (w.heap.size+1+1) B (.slice (some ⟨g3,0,none⟩) (ps.length+1) a8) (ps++ [p]) (yA0 lo hh hi (esM (l.take (k+1))))/\Below (w.heap.size+1+1) Wa w3):=by
     have h1:=HR.snoc aa (HP.1.below hb2) HP.2.1 (by omega) a5 (by omega);have e1:yA0 lo hh hi (esM (l.take k))++ [p.es]=yA0 lo hh hi (esM (l.take (k+1))):=by rw[yOc HD.1 (by rw[<-HP.2.2];exact hp),<-HP.2.2]
     rw[e1]at h1;exact⟨h1,(a9.trans (hb2.mono (by omega))).grown a5.grown (by omega) (λj hj=>yCl ag.out j hj)⟩
    clear a7 a5 hz a0;go_wp2_with fail;go_roundw;case rel=>
     go_light;exact⟨k+1,g3,a8,ps++ [p],by omega,by go_num,by simp,by rw[length_append];exact HN.1,HN.2⟩
    case measure=>go_light;simp[intOf];omega
   .have zp:¬(0:Int)<(p.es.length:Int):=by omega
    have HN:Hid (yBj v1 (w.heap.size+1+1) B (.slice (some ⟨g,0,none⟩) ps.length cp) ps (yA0 lo hh hi (esM (l.take (k+1))))):=by rw[yQ1 HD.1 (by rw[<-HP.2.2];exact hp)];exact HR.below a6
    go_wp2_with fail;go_roundw;case rel=>
     go_light;exact⟨k+1,g,cp,ps,by omega,by go_num,rfl,HN.out,a9⟩
    case measure=>go_light;simp[intOf];omega
  .have zk:¬(k:Int)<(l.length:Int):=by omega
   have H:Hid (yBj wr w.heap.size B (.slice (some ⟨g,0,none⟩) ps.length cp) ps (yA0 lo hh hi (esM l))):=by have h1:=HR.out;rw[take_of_length_le (by omega)]at h1;exact h1.mono (by omega)
   go_wp2_with fail;go_ret;exact⟨g,cp,ps,rfl,H.out,ad.trans (hb.mono (by omega))⟩
theorem yIr(lo hi:ByteArray)(hh:Bool):∀(rs:List (List Ent)),szR (yA0 lo hh hi rs)<=szR rs
 | []=>Nat.le_refl _
 |e::rs=>by
  have h1:=yIr lo hi hh rs
  have h2:(inP lo hh hi e).length<=e.length:=List.length_filter_le _ _
  unfold yA0 at h1|-
  rw[map_cons,List.filter_cons]
  split
  .simp only[szR];omega
  .simp only[szR];omega
def yVv(w:World)(tb:List Tb)(row:ByteArray)(e:Ending)(w':World):Prop:=∃out,SplT tb row out/\yD9 w out e w'
theorem yBj.set{v:Value}(h:yBj w base B v ps ess)(g o:Nat)(u:Value)(hlt:g<base)(hB:B<=g):yBj (w.setCell ⟨g,o,none⟩ u) base B v ps ess:=
 ⟨yE7 h.row g o u hlt,λp hp=>by
  obtain⟨k2,k3⟩:=h.ents p hp
  have hr:p.b≠g:=by omega
  refine⟨⟨λj e he=>?_,by simpa using k2.lt,k2.len,k2.cap⟩,k3⟩
  obtain⟨q0,q1,q2,q3,q4,q5⟩:=k2.ents j e he
  refine⟨?_,?_,?_,?_,?_,?_⟩
  all_goals rw[World.cell?_setCell_far _ _ _ _ (by exact λq=>hr q.symm)]
  .exact q0
  .exact q1
  .exact q2
  .exact q3
  .exact q4
  .exact q5,h.same⟩
theorem yBj.inn{v:Value}(h:yBj w base B v ps ess):yC9 w v ps:=by have h1:=h.row;rw[length_map]at h1;exact yG5 h1 (λr hr=>(h.ents r hr).1)
theorem yBj.small{v:Value}{lo:ByteArray}(h:yBj w base B v ps (yA0 lo hh hi (esM l)))(hl:l.length+totM l<=1048576):ps.length<=1048576/\totM ps<=1048576:=by have h1:=yIq ps;have h2:=yIq l;have h3:=yIr lo hi hh (esM l);rw[h.same]at h1;omega
theorem yJ0(b off cap:Nat)(ts:List Tm)(row:ByteArray)(w:World)(h:yA2 w b off ts)(hok:okTs ts)(hB:b<w.heap.size)(hn:ts.length<=1048576)(hrs:row.size<=1048576)(hcap:ts.length<=cap)(hcm:cap<=maxLen)(hs:∀t∈ts,t.l.length+totM t.l<=1048576):
  Calls prog 32 #[.agg #[.slice (some ⟨b,off,none⟩) ts.length cap],.string row] w λe w'=>yVv w (tbs ts) row e w':=by
 obtain⟨Wa,a7⟩:=qE ((w.alloc (Obj.cells #[.slice (some ⟨b,off,none⟩) ts.length cap] 28)).alloc (Obj.cells #[.slice none 0 0] 28):World);have ah:Below w.heap.size w Wa:=by rw[a7];exact(qB).alloc (by simp) _
 have aV:Wa.heap.size=w.heap.size+1+1:=by rw[a7];simp
 have y:Hid (∀wx,Below Wa.heap.size Wa wx->wx.cell? ⟨w.heap.size,0,none⟩=some (.slice (some ⟨b,off,none⟩) ts.length cap)/\wx.cell? ⟨w.heap.size+1,0,none⟩=some (.slice none 0 0)/\wx.frozen? ⟨w.heap.size+1,0,none⟩=false/\yA2 wx b off ts/\b<wx.heap.size):=by
  intro wx hx;have sx:=hx.size;refine⟨?_,?_,?_,(h.below ah hB).below hx (by omega),by omega⟩
  .rw[hx.cell (p:=⟨w.heap.size,0,none⟩) (by show w.heap.size<Wa.heap.size;omega),a7];simp[go_sem]
  .rw[hx.cell (p:=⟨w.heap.size+1,0,none⟩) (by show w.heap.size+1<Wa.heap.size;omega),a7];simp[go_sem]
  .rw[hx.frozen (p:=⟨w.heap.size+1,0,none⟩) (by show w.heap.size+1<Wa.heap.size;omega),a7];simp[go_sem]
 have HS:Hid (okTs ts/\∀t∈ts,t.l.length+totM t.l<=1048576):=⟨hok,hs⟩;have az:Hid (∀t∈ts.map Tm.ty,t.l.length<=1048576/\totM t.l<=1048576):=by intro t ht;obtain⟨u,hu,rfl⟩:=List.mem_map.1 ht;have:=hs u hu;exact⟨by show u.l.length<=1048576;omega,by show totM u.l<=1048576;omega⟩
 have ag:Hid (∀W,Below Wa.heap.size Wa W->Calls prog 64 #[.agg #[.slice (some ⟨b,off,none⟩) ts.length cap]] W λe w'=>∃(g cp:Nat)(xs:List Tx),e=.returned (.agg #[.slice (some ⟨g,0,none⟩) xs.length cp])/\w'.cell? ⟨w.heap.size+1,0,none⟩=some (.slice none 0 0)/\w'.frozen? ⟨w.heap.size+1,0,none⟩=false/\Hid (yD9 w (tbs ts) (.returned (.agg #[.slice (some ⟨g,0,none⟩) xs.length cp])) (w'.setCell ⟨w.heap.size+1,0,none⟩ (.slice (some ⟨g,0,none⟩) xs.length cp)))):=by intro W hW;obtain⟨_,_,_,hT,af⟩:=y.out W hW;have:=yCp b off cap (ts.map Tm.ty) W hT.tys af (by rw[length_map];exact hn) az.out;rw[length_map,yKu]at this;refine this.mono ?_;intro e w3 hp;have sW:=hW.size;obtain⟨g,cp,xs,rfl,hb3,hc⟩:=yH1 (w:=w) (w.heap.size+1) (ah.trans (hW.mono (by omega))) (by omega) (by omega) hp;obtain⟨_,q1,q2,_⟩:=y.out w3 (hW.trans (hb3.mono sW));exact⟨g,cp,xs,rfl,q1,q2,hc⟩
 unfold maxLen at hcm;clear h hok hs;obtain⟨c0,_,_,av,aM⟩:=y.out Wa (Below.refl _ _);have aS:Hid (yA2 Wa b off ts):=av;clear av;go_enter func32,ntmps32;go_upto_region 1 with fail;rw[<-a7];clear a7;go_wp2_with fail;refine(yBf b off cap ts _ aS.out HS.1 aM hn).mono ?_;rintro e w1 ⟨r,rfl,hr,hb1⟩;have HR:Hid (r=true↔GoodS (tbs ts)):=hr;have s1:=hb1.size;clear hr c0;obtain⟨c0,_,_,au,aL⟩:=y.out w1 hb1;have aQ:Hid (yA2 w1 b off ts):=au;clear au;cases r
 .have H:Hid (SplT (tbs ts) row (tbs ts)):=yQn (λq=>Bool.noConfusion (HR.2 q));go_wp2_with fail;refine(ag.out _ hb1).mono ?_;exact yV3
 have HG:Hid (GoodS (tbs ts)):=HR.1 rfl;have aY:ts.length<=100:=by have:=HG.le;rw[yAy]at this;exact this
 have aA:(¬ts.length=100)->¬(ts.length:Int)=100:=λq=>by omega
 by_cases hr64:64<row.size
 .have H:Hid (SplT (tbs ts) row (tbs ts)):=yNa hr64;have z1:(64:Int)<(row.size:Int):=by omega
  go_wp2_with fail;refine(ag.out _ hb1).mono ?_;exact yV3
 have z1:¬(64:Int)<(row.size:Int):=by omega
 by_cases hf:ts.length=100
 .have H:Hid (SplT (tbs ts) row (tbs ts)):=yNb (by rw[yAy];exact hf);have z2:((ts.length:Int)==100)=true:=by rw[beq_iff_eq];omega
  clear hf;go_wp2_with fail;refine(ag.out _ hb1).mono ?_;exact yV3
 have z2:((ts.length:Int)==100)=false:=by rw[beq_eq_false_iff_ne];omega
 have HF:Hid (¬ts.length=100):=hf;have aU:¬(ts.length:Int)=100:=aA hf;obtain⟨i,hi⟩:=yB9 HG.out row;have HI:Hid (yBp (tbs ts) row i):=hi;have aH:i<ts.length:=by have:=hi.1;rw[yAy]at this;exact this
 clear hi;go_wp2_with fail;refine(yD3 b off cap ts row i _ aQ.out aL hn HG.out HI.out).mono ?_;rintro e w2 ⟨rfl,ao⟩;have hb2:Below Wa.heap.size Wa w2:=hb1.trans (ao.mono s1);have s2:=hb2.size;clear ao c0;obtain⟨c0,_,_,ar,aZ⟩:=y.out w2 hb2;obtain⟨t,ht⟩:∃t,ts[i]?=some t:=⟨_,getElem?_eq_getElem aH⟩;obtain⟨c1,c2,_⟩:=ar i t ht;have ax:Hid (ts[i]?=some t):=ht;have ai:Hid ((tbs ts)[i]?=some t.tb):=by show(tbs ts)[i]?=some t.tb;rw[yBq,ht];rfl
 have aG:t.l.length<=1048576:=by have:=HS.2 t (mem_of_getElem? ht);omega
 clear ht ar;have zi:(i:Int)<(ts.length:Int):=by omega
 obtain⟨W4,ab⟩:=qE (w2.alloc (Obj.cells #[.string t.lo,.slice (some ⟨t.b,t.off,none⟩) t.l.length t.cap] 56):World);have aI:Below w2.heap.size w2 W4:=by rw[ab];exact qB
 have aF:W4.heap.size=w2.heap.size+1:=by rw[ab];simp
 have k4:Below Wa.heap.size Wa W4:=hb2.trans (aI.mono s2);have a3:Hid (∀wx,Below W4.heap.size W4 wx->Below Wa.heap.size Wa wx/\wx.cell? ⟨w.heap.size,0,none⟩=some (.slice (some ⟨b,off,none⟩) ts.length cap)/\wx.cell? ⟨w2.heap.size,0,none⟩=some (.string t.lo)/\wx.cell? ⟨w2.heap.size,1,none⟩=some (.slice (some ⟨t.b,t.off,none⟩) t.l.length t.cap)/\t.at wx):=by
  intro wx hx;have k:=k4.trans (hx.mono k4.size);refine⟨k,(y.out wx k).1,?_,?_,((y.out wx k).2.2.2.1 i t ax.out).2.2⟩
  .rw[hx.cell (p:=⟨w2.heap.size,0,none⟩) (by show w2.heap.size<W4.heap.size;omega),ab];simp
  .rw[hx.cell (p:=⟨w2.heap.size,1,none⟩) (by show w2.heap.size<W4.heap.size;omega),ab];simp
 go_upto_region 5 with fail;rw[<-ab];clear ab c0 c1 c2;obtain⟨_,c0,c1,c2,_⟩:=a3.out W4 (Below.refl _ _);by_cases hlo:t.lo=row
 .have H:Hid (SplT (tbs ts) row (tbs ts)):=yJa HI.out ai.out hlo;have zb:(t.lo.toList==row.toList)=true:=by rw[hlo];simp
  have b0:Hid (t.lo=row):=hlo;clear hlo;go_wp2_with fail;refine(ag.out _ k4).mono ?_;exact yV3
 have zb:(t.lo.toList==row.toList)=false:=by rw[beq_eq_false_iff_ne];intro q;exact hlo (yDw q)
 go_upto_region 7 with fail;have HT:Hid ((∀r∈t.l,yAp r.es)/\∀r∈t.l,r.b<W4.heap.size):=by
  refine⟨λr hr=>?_,λr hr=>?_⟩
  .exact(HG.tabs i _ ai.out).runs.2 _ (List.mem_map.2 ⟨r,hr,rfl⟩)
  .obtain⟨j,hj⟩:=getElem?_of_mem hr;exact((a3.out W4 (Below.refl _ _)).2.2.2.2.rms j r hj).2.lt
 have aj:Hid (∀X (lo hi:ByteArray) (hh:Bool),Below W4.heap.size W4 X->Calls prog 70 #[.agg #[.string t.lo,.slice (some ⟨t.b,t.off,none⟩) t.l.length t.cap],.agg #[.string lo,.bool hh,.string hi]] X λe w'=>∃(g cp n:Nat)(rs:List Rm),e=.returned (.slice (some ⟨g,0,none⟩) n cp)/\Hid (n=rs.length/\yBj w' X.heap.size W4.heap.size (.slice (some ⟨g,0,none⟩) n cp) rs (yA0 lo hh hi (esM t.l))/\Below X.heap.size X w'/\Below W4.heap.size W4 w')):=by intro X lo hi hh hX;have aq:=(a3.out X hX).2.2.2.2;refine(yJ1 t.lo t.b t.off t.cap t.l lo hi hh X aq.rms aq.lt aG HT.1 W4.heap.size HT.2 hX.size).mono ?_;rintro e w' ⟨g,cp,rs,rfl,hC,af⟩;exact⟨g,cp,rs.length,rs,rfl,rfl,hC,af,hX.trans (af.mono hX.size)⟩
 go_cut[7] (λp wx=>∃(R g cp n:Nat)(rs:List Rm),p=.pointer (some ⟨R,0,none⟩)/\wx.cell? ⟨R,0,none⟩=some (.string t.lo)/\wx.cell? ⟨R,1,none⟩=some (.slice (some ⟨g,0,none⟩) n cp)/\n=rs.length/\R<wx.heap.size/\yBj wx W4.heap.size W4.heap.size (.slice (some ⟨g,0,none⟩) n cp) rs (yA0 ⟨#[]⟩ true row (esM t.l))/\Below W4.heap.size W4 wx);case first=>
  have hS:SW (λw':World=>w'.cell? ⟨w2.heap.size,0,none⟩=some (.string t.lo)/\w'.cell? ⟨w2.heap.size,1,none⟩=some (.slice (some ⟨t.b,t.off,none⟩) t.l.length t.cap)) W4.drew:=by obtain⟨_,_,q1,q2,_⟩:=a3.out W4.drew ((Below.refl _ _).drew);exact⟨q1,q2⟩
  refine wpR 8 hS ?_;refine qU 0 ?vr0x1 rfl ?yr0x1 hS ?_;case yr0x1=>exact zzR0
  try simp only[qA]
  refine qU 1 ?vr1x2 rfl ?yr1x2 hS ?_;case yr1x2=>exact zzR0
  try simp only[qA]
  refine qU 2 ?vr2x3 rfl ?yr2x3 hS ?_;case yr2x3=>exact zzR0
  try simp only[qA]
  refine qU 3 ?vr3x4 rfl ?yr3x4 hS ?_;case yr3x4=>exact zzR0
  try simp only[qA]
  refine qU 4 ?vr4x5 rfl ?yr4x5 hS ?_;case yr4x5=>exact zzR0
  try simp only[qA]
  refine yD (i:=5) (j:=7) (by kernel_rfl) rfl rfl (λK hK=>?_) (λK hK=>?_)
  .go_simp;go_at_call 70;refine(aj.out _ _ _ _ ((Below.refl _ _).drew)).mono ?_;rintro e v1 ⟨g,cp,n,rs,rfl,HC⟩;obtain⟨_,_,q1,q2,_⟩:=a3.out v1 HC.2.2.2;refine hK.out _ _ (.inr ⟨q1,q2⟩) ?_;clear hK;try simp only[qA]
   refine yBh (i:=6) (v:=?vr7x7) rfl (by kernel_rfl) (by kernel_rfl) (by kernel_rfl) (by kernel_rfl) (by decide) (λ_ _ _ h=>h) (Or.inl ⟨by rfl,?yr7x7⟩) (show _/\_ from⟨q1,q2⟩) ?_;case yr7x7=>exact zzR0
   try simp only[qA]
   refine qO 7 rfl λK hK=>?_;go_simp;obtain⟨_,_,p1,p2,_⟩:=a3.out (v1.alloc (Obj.cells #[.string ⟨#[]⟩,.slice none 0 0] 56)) (HC.2.2.2.alloc HC.2.2.2.size _);refine hK.out _ _ (.inr ⟨p1,p2⟩) ?_;clear hK;try simp only[qA]
   refine qO 8 rfl λK hK=>?_;exact xA6
  .go_simp;obtain⟨W5,a5⟩:=qE ((W4.alloc (Obj.cells #[.string ⟨#[]⟩,.slice none 0 0] 56)).drew:World);have an:Below W4.heap.size W4 W5:=by rw[a5];exact(qB).drew
   have aW:W5.heap.size=W4.heap.size+1:=by rw[a5];simp
   have aP:Hid (∀wx,Below W5.heap.size W5 wx->wx.cell? ⟨W4.heap.size,0,none⟩=some (.string ⟨#[]⟩)/\wx.cell? ⟨W4.heap.size,1,none⟩=some (.slice none 0 0)/\wx.frozen? ⟨W4.heap.size,0,none⟩=false/\wx.frozen? ⟨W4.heap.size,1,none⟩=false):=by
    intro wx hx;refine⟨?_,?_,?_,?_⟩
    .rw[hx.cell (p:=⟨W4.heap.size,0,none⟩) (by show W4.heap.size<W5.heap.size;omega),a5];simp
    .rw[hx.cell (p:=⟨W4.heap.size,1,none⟩) (by show W4.heap.size<W5.heap.size;omega),a5];simp
    .rw[hx.frozen (p:=⟨W4.heap.size,0,none⟩) (by show W4.heap.size<W5.heap.size;omega),a5];simp
    .rw[hx.frozen (p:=⟨W4.heap.size,1,none⟩) (by show W4.heap.size<W5.heap.size;omega),a5];simp
   obtain⟨_,_,q1,q2,_⟩:=a3.out W5 an;rw[<-a5];refine hK.out _ _ (.inr ⟨q1,q2⟩) ?_;clear hK a5;try simp only[qA]
   refine qO 5 rfl λK hK=>?_;go_simp;go_at_call 70;refine(aj.out W5 _ _ _ an).mono ?_;rintro e v1 ⟨g,cp,n,rs,rfl,HC⟩;obtain⟨_,_,p1,p2,_⟩:=a3.out v1 HC.2.2.2;obtain⟨y0,y1,y2,y3⟩:=aP.out v1 HC.2.2.1;rw[aF]at y0 y1 y2 y3;refine hK.out _ _ (.inr ⟨p1,p2⟩) ?_;clear hK;try simp only[qA]
   refine yBh (i:=6) (v:=?vr7x8) rfl (by kernel_rfl) (by kernel_rfl) (by kernel_rfl) (by kernel_rfl) (by decide) (λ_ _ _ h=>h) (Or.inl ⟨by rfl,?yr7x8⟩) (show _/\_ from⟨p1,p2⟩) ?_;case yr7x8=>exact zzR0
   try simp only[qA]
   refine qO 8 rfl λK hK=>?_;go_simp;refine hK.out _ _ (.inl rfl) ?_;clear hK;try simp only[qA]
   refine qD ?_;go_wp2_with fail;go_meet;obtain⟨c1,c2,c3,c4⟩:=HC.out;have k5:=c3.size;refine⟨w2.heap.size+1,g,cp,n,rs,rfl,by simp[go_sem,y0,y1],by simp[go_sem,y0,y1],c1,by simp;omega,((c2.set (w2.heap.size+1) 0 (.string t.lo) (by omega) (by omega)).set (w2.heap.size+1) 1 (.slice (some ⟨g,0,none⟩) n cp) (by omega) (by omega)).mono (by omega),(c4.setCell (by show W4.heap.size<=w2.heap.size+1;omega) _).setCell (by show W4.heap.size<=w2.heap.size+1;omega) _⟩
 case rest=>
  obtain⟨R,g1,a9,n1,a6,rfl,a0,a1,aw,aR,aC,aB⟩:=hcut;have HA:Hid (n1=a6.length/\yBj wc W4.heap.size W4.heap.size (.slice (some ⟨g1,0,none⟩) n1 a9) a6 (yA0 ⟨#[]⟩ true row (esM t.l))):=⟨aw,aC⟩;clear aw aC c0 c1 c2;obtain⟨_,d0,d1,d2,_⟩:=a3.out wc aB;have sB:=aB.size;go_wp2_with fail;refine(aj.out wc _ _ _ aB).mono ?_;rintro e v1 ⟨g2,a8,n2,ad,rfl,ak⟩;obtain⟨W6,aa⟩:=qE (v1.alloc (Obj.cells #[.string row,.slice (some ⟨g2,0,none⟩) n2 a8] 56):World);have am:Below v1.heap.size v1 W6:=by rw[aa];exact qB
  have aE:W6.heap.size=v1.heap.size+1:=by rw[aa];simp
  have sv:=ak.2.2.1.size;have e0:W6.cell? ⟨v1.heap.size,0,none⟩=some (.string row):=by rw[aa];simp
  have e1:W6.cell? ⟨v1.heap.size,1,none⟩=some (.slice (some ⟨g2,0,none⟩) n2 a8):=by rw[aa];simp
  have ae:Below wc.heap.size wc W6:=ak.2.2.1.trans (am.mono sv);have f0:W6.cell? ⟨R,0,none⟩=some (.string t.lo):=by rw[ae.cell (p:=⟨R,0,none⟩) (by exact aR)];exact a0
  have f1:W6.cell? ⟨R,1,none⟩=some (.slice (some ⟨g1,0,none⟩) n1 a9):=by rw[ae.cell (p:=⟨R,1,none⟩) (by exact aR)];exact a1
  have k6:Below W4.heap.size W4 W6:=aB.trans (ae.mono sB);obtain⟨b6,h0,_⟩:=a3.out W6 k6;have ac:Hid (n1=a6.length/\n2=ad.length/\yBj W6 Wa.heap.size W4.heap.size (.slice (some ⟨g1,0,none⟩) n1 a9) a6 (yA0 ⟨#[]⟩ true row (esM t.l))/\yBj W6 Wa.heap.size W4.heap.size (.slice (some ⟨g2,0,none⟩) n2 a8) ad (yA0 row false ⟨#[]⟩ (esM t.l))):=by obtain⟨q1,q2⟩:=HA.out;obtain⟨p1,p2,p3,_⟩:=ak.out;have s4:=k4.size;exact⟨q1,p1,(q2.below ae).mono s4,(p2.below am).mono (by omega)⟩
  clear a0 a1 d0 d1 d2;have s6:=b6.size;have aX:IntKind.i64.wrap ((i:Int)+1)=(i:Int)+1:=by rw[IntKind.wrap_i64];omega
  obtain⟨W7,a4⟩:=qE (W6.alloc (Obj.cells #[.string t.lo,.slice (some ⟨g1,0,none⟩) n1 a9,.string row,.slice (some ⟨g2,0,none⟩) n2 a8] 56):World);have hb7:Below W6.heap.size W6 W7:=by rw[a4];exact qB
  have aD:W7.heap.size=W6.heap.size+1:=by rw[a4];simp
  have k7:Below Wa.heap.size Wa W7:=b6.trans (hb7.mono s6);have ay:Hid (yA2 W7 b off ts/\yDk W7 W6.heap.size 0 [⟨t.lo,.slice (some ⟨g1,0,none⟩) n1 a9,a6⟩,⟨row,.slice (some ⟨g2,0,none⟩) n2 a8,ad⟩]):=by
   refine⟨(y.out W7 k7).2.2.2.1,λj u hu=>?_⟩;match j with
   |0=>simp at hu;subst hu;exact⟨by rw[a4];simp,by rw[a4];simp,(ac.2.2.1.below hb7).inn⟩
   |1=>simp at hu;subst hu;exact⟨by rw[a4];simp,by rw[a4];simp,(ac.2.2.2.below hb7).inn⟩
   |j+2=>simp at hu
  have aK:b<W7.heap.size:=(y.out W7 k7).2.2.2.2;have aT:Hid (Calls prog 68 #[.agg #[.slice (some ⟨b,off,none⟩) ts.length cap],.int .i64 i,.int .i64 ((i:Int)+1),.slice (some ⟨W6.heap.size,0,none⟩) 2 2] W7 λe w'=>∃(g cp:Nat)(xs:List Tx),e=.returned (.agg #[.slice (some ⟨g,0,none⟩) xs.length cp])/\w'.cell? ⟨w.heap.size+1,0,none⟩=some (.slice none 0 0)/\w'.frozen? ⟨w.heap.size+1,0,none⟩=false/\Hid (yVv w (tbs ts) row (.returned (.agg #[.slice (some ⟨g,0,none⟩) xs.length cp])) (w'.setCell ⟨w.heap.size+1,0,none⟩ (.slice (some ⟨g,0,none⟩) xs.length cp)))):=by
   have al:(ts.map Tm.ty).length=ts.length:=length_map ..;have s7:=k7.size;have h9:=yC2 b off cap (ts.map Tm.ty) [⟨t.lo,.slice (some ⟨g1,0,none⟩) n1 a9,a6⟩,⟨row,.slice (some ⟨g2,0,none⟩) n2 a8,ad⟩] i (i+1) W6.heap.size W7 ay.1.tys aK ay.2 (by omega) (by omega) (by simp) (by omega) (by unfold maxLen;omega) (by omega) (by rw[al];omega) (by simp) (λx hx=>by
    rcases List.mem_append.1 hx with hx|hx
    .exact az.out x hx
    .have h3:=HS.2 t (mem_of_getElem? ax.out)
     simp only[mem_cons,not_mem_nil,or_false]at hx
     rcases hx with rfl|rfl
     .exact ac.2.2.1.small h3
     .exact ac.2.2.2.small h3)
   rw[al]at h9;have aO:((i+1:Nat):Int)=(i:Int)+1:=by omega
   rw[aO]at h9;refine h9.mono ?_;intro e w9 hp;obtain⟨g,cp,xs,rfl,aJ,hc⟩:=yH1 (w:=w) (w.heap.size+1) (ah.trans (k7.mono (by omega))) (by omega) (by omega) hp;obtain⟨_,q1,q2,_⟩:=y.out w9 (k7.trans (aJ.mono s7));refine⟨g,cp,xs,rfl,q1,q2,_,?_,hc⟩;have aN:((ts.map Tm.ty).take i++ [Ty.mk t.lo (.slice (some ⟨g1,0,none⟩) n1 a9) a6,Ty.mk row (.slice (some ⟨g2,0,none⟩) n2 a8) ad]++(ts.map Tm.ty).drop (i+1)).map Ty.tb=cutT (tbs ts) i t.tb row:=by rw[map_append,map_append,List.map_take,List.map_drop,yKu];have r1:=ac.2.2.1.same;have r2:=ac.2.2.2.same;simp only[map_cons,map_nil,Ty.tb,r1,r2];rfl
   rw[aN];exact yNc HG.out (by omega) (by rw[yAy];exact HF.out) HI.out ai.out hlo
  go_upto_region 9 with fail;rw[<-aa];clear aa aE aD;go_wp2_with fail;rw[<-a4];clear a4;refine aT.mono ?_;rintro e w9 ⟨g,cp,xs,rfl,q1,q2,hc⟩;go_wp2_with fail;exact bodyPost_ret (v:=.agg #[.slice (some ⟨g,0,none⟩) xs.length cp]) (by simp[results,results32,go_sem,q1]) rfl hc.out
def yVu(w:World)(tb:List Tb)(row:ByteArray)(e:Ending)(w':World):Prop:=∃out,SplT tb row out/\yBy w out e w'
theorem yBt.set{gq nq cq:Nat}{rs:List Rw}(h:yBt w base (.slice (some ⟨gq,0,none⟩) nq cq) rs ess)(g o:Nat)(u:Value)(hlt:g<base):yBt (w.setCell ⟨g,o,none⟩ u) base (.slice (some ⟨gq,0,none⟩) nq cq) rs ess:=
 ⟨yE7 h.row g o u hlt,((h.ts ⟨#[]⟩).set g o u hlt).ents _ (mem_singleton.2 rfl),h.same⟩
theorem yFn(b off cap:Nat)(ts:List Tm)(row:ByteArray)(w:World)(h:yA2 w b off ts)(hok:okTs ts)(hB:b<w.heap.size)(hn:ts.length<=1048576)(hrs:row.size<=1048576)(hs:∀t∈ts,t.l.length<=1048576/\totM t.l<=1048576):
  Calls prog 35 #[.agg #[.slice (some ⟨b,off,none⟩) ts.length cap],.string row] w λe w'=>yVu w (tbs ts) row e w':=by
 obtain⟨Wa,a7⟩:=qE ((w.alloc (Obj.cells #[.slice (some ⟨b,off,none⟩) ts.length cap] 28)).alloc (Obj.cells #[.slice none 0 0] 28):World);have ai:Below w.heap.size w Wa:=by rw[a7];exact(qB).alloc (by simp) _
 have aX:Wa.heap.size=w.heap.size+1+1:=by rw[a7];simp
 have a3:Hid (∀wx,Below Wa.heap.size Wa wx->wx.cell? ⟨w.heap.size,0,none⟩=some (.slice (some ⟨b,off,none⟩) ts.length cap)/\wx.cell? ⟨w.heap.size+1,0,none⟩=some (.slice none 0 0)/\wx.frozen? ⟨w.heap.size+1,0,none⟩=false/\yA2 wx b off ts/\b<wx.heap.size):=by
  intro wx hx;have sx:=hx.size;refine⟨?_,?_,?_,(h.below ai hB).below hx (by omega),by omega⟩
  .rw[hx.cell (p:=⟨w.heap.size,0,none⟩) (by show w.heap.size<Wa.heap.size;omega),a7];simp[go_sem]
  .rw[hx.cell (p:=⟨w.heap.size+1,0,none⟩) (by show w.heap.size+1<Wa.heap.size;omega),a7];simp[go_sem]
  .rw[hx.frozen (p:=⟨w.heap.size+1,0,none⟩) (by show w.heap.size+1<Wa.heap.size;omega),a7];simp[go_sem]
 have HS:Hid (okTs ts/\∀t∈ts,t.l.length<=1048576/\totM t.l<=1048576):=⟨hok,hs⟩;have ae:Hid (∀W,Below Wa.heap.size Wa W->Calls prog 50 #[.agg #[.slice (some ⟨b,off,none⟩) ts.length cap]] W λe w'=>∃(va:Option Addr)(vn vc:Nat),e=.returned (.agg #[.slice va vn vc])/\w'.cell? ⟨w.heap.size+1,0,none⟩=some (.slice none 0 0)/\w'.frozen? ⟨w.heap.size+1,0,none⟩=false/\Hid (yBy w (tbs ts) (.returned (.agg #[.slice va vn vc])) (w'.setCell ⟨w.heap.size+1,0,none⟩ (.slice va vn vc)))):=by intro W hW;obtain⟨_,_,_,hT,a4⟩:=a3.out W hW;have sW:=hW.size;refine(yBz b off cap ts W hT a4 hn HS.2).mono ?_;rintro e w3 ⟨v,xs,rfl,hS,hx,hb3⟩;have ad:Below Wa.heap.size Wa w3:=hW.trans (hb3.mono sW);obtain⟨_,q1,q2,_⟩:=a3.out w3 ad;obtain⟨va,vn,vc,rfl,hc⟩:=yL2 (w:=w) (R:=w.heap.size+1) (by omega) (by omega) hS (ai.trans (ad.mono (by omega)));rw[hx]at hc;exact⟨va,vn,vc,rfl,q1,q2,hc⟩
 clear h hok hs;obtain⟨c0,_,_,aw,aN⟩:=a3.out Wa (Below.refl _ _);have aQ:Hid (yA2 Wa b off ts):=aw;clear aw;go_enter func35,ntmps35;go_upto_region 1 with fail;rw[<-a7];clear a7;go_wp2_with fail;refine(yA4 b off cap ts _ aQ.out HS.1 aN hn).mono ?_;rintro e w1 ⟨r,rfl,hr,hb1⟩;have HR:Hid (r=true↔GoodS (tbs ts)):=hr;have s1:=hb1.size;clear hr c0;obtain⟨c0,_,_,av,aM⟩:=a3.out w1 hb1;have aP:Hid (yA2 w1 b off ts):=av;clear av;cases r
 .have H:Hid (SplT (tbs ts) row (tbs ts)):=yQn (λq=>Bool.noConfusion (HR.2 q));go_wp2_with fail;refine(ae.out _ hb1).mono ?_;exact yS7
 have HG:Hid (GoodS (tbs ts)):=HR.1 rfl;have b0:ts.length<=100:=by have:=HG.le;rw[yAy]at this;exact this
 by_cases hr0:row.size=0
 .have H:Hid (SplT (tbs ts) row (tbs ts)):=yRq HG.out hr0;have z0:((row.size:Int)==0)=true:=by rw[beq_iff_eq];omega
  have aW:(row.size:Int)=0:=by omega
  go_wp2_with fail;refine(ae.out _ hb1).mono ?_;exact yS7
 have z0:¬(row.size:Int)=0:=by omega
 have aV:((row.size:Int)==0)=false:=by rw[beq_eq_false_iff_ne];exact z0
 have aA:(¬ts.length=100)->¬(ts.length:Int)=100:=λq=>by omega
 by_cases hr64:64<row.size
 .have H:Hid (SplT (tbs ts) row (tbs ts)):=yNa hr64;have z1:(64:Int)<(row.size:Int):=by omega
  go_wp2_with fail;refine(ae.out _ hb1).mono ?_;exact yS7
 have z1:¬(64:Int)<(row.size:Int):=by omega
 by_cases hf:ts.length=100
 .have H:Hid (SplT (tbs ts) row (tbs ts)):=yNb (by rw[yAy];exact hf);have z2:((ts.length:Int)==100)=true:=by rw[beq_iff_eq];omega
  clear hf;go_wp2_with fail;refine(ae.out _ hb1).mono ?_;exact yS7
 have z2:((ts.length:Int)==100)=false:=by rw[beq_eq_false_iff_ne];omega
 have HF:Hid (¬ts.length=100):=hf;have aU:¬(ts.length:Int)=100:=aA hf;obtain⟨i,hi⟩:=yB9 HG.out row;have HI:Hid (yBp (tbs ts) row i):=hi;have aJ:i<ts.length:=by have:=hi.1;rw[yAy]at this;exact this
 clear hi;go_wp2_with fail;refine(yDx b off cap ts row i _ aP.out aM hn HI.out).mono ?_;rintro e w2 ⟨rfl,ar⟩;have hb2:Below Wa.heap.size Wa w2:=hb1.trans (ar.mono s1);have s2:=hb2.size;clear ar c0;obtain⟨c0,_,_,au,b3⟩:=a3.out w2 hb2;obtain⟨t,ht⟩:∃t,ts[i]?=some t:=⟨_,getElem?_eq_getElem aJ⟩;obtain⟨c1,c2,_⟩:=au i t ht;have az:Hid (ts[i]?=some t):=ht;have ay:Hid ((tbs ts)[i]?=some t.tb):=by show(tbs ts)[i]?=some t.tb;rw[yBq,ht];rfl
 have am:t.l.length<=1048576:=(HS.2 t (mem_of_getElem? ht)).1;clear ht au;have zi:(i:Int)<(ts.length:Int):=by omega
 obtain⟨W4,aa⟩:=qE (w2.alloc (Obj.cells #[.string t.lo,.slice (some ⟨t.b,t.off,none⟩) t.l.length t.cap] 56):World);have aK:Below w2.heap.size w2 W4:=by rw[aa];exact qB
 have aF:W4.heap.size=w2.heap.size+1:=by rw[aa];simp
 have k4:Below Wa.heap.size Wa W4:=hb2.trans (aK.mono s2);have y:Hid (∀wx,Below W4.heap.size W4 wx->Below Wa.heap.size Wa wx/\wx.cell? ⟨w.heap.size,0,none⟩=some (.slice (some ⟨b,off,none⟩) ts.length cap)/\wx.cell? ⟨w2.heap.size,0,none⟩=some (.string t.lo)/\wx.cell? ⟨w2.heap.size,1,none⟩=some (.slice (some ⟨t.b,t.off,none⟩) t.l.length t.cap)/\t.at wx):=by
  intro wx hx;have k:=k4.trans (hx.mono k4.size);refine⟨k,(a3.out wx k).1,?_,?_,((a3.out wx k).2.2.2.1 i t az.out).2.2⟩
  .rw[hx.cell (p:=⟨w2.heap.size,0,none⟩) (by show w2.heap.size<W4.heap.size;omega),aa];simp
  .rw[hx.cell (p:=⟨w2.heap.size,1,none⟩) (by show w2.heap.size<W4.heap.size;omega),aa];simp
 go_upto_region 5 with fail;rw[<-aa];clear aa c0 c1 c2;obtain⟨_,c0,c1,c2,_⟩:=y.out W4 (Below.refl _ _);by_cases hlo:t.lo=row
 .have H:Hid (SplT (tbs ts) row (tbs ts)):=yJa HI.out ay.out hlo;have zb:(t.lo.toList==row.toList)=true:=by rw[hlo];simp
  have b4:Hid (t.lo=row):=hlo;clear hlo;go_wp2_with fail;refine(ae.out _ k4).mono ?_;exact yS7
 have zb:(t.lo.toList==row.toList)=false:=by rw[beq_eq_false_iff_ne];intro q;exact hlo (yDw q)
 go_upto_region 7 with fail;have HT:Hid (∀r∈t.l,r.es.length<=1048576):=λr hr=>Nat.le_trans (yLy hr) (HS.2 t (mem_of_getElem? az.out)).2;have aj:Hid (∀X,Below W4.heap.size W4 X->Calls prog 74 #[.slice (some ⟨t.b,t.off,none⟩) t.l.length t.cap,.agg #[.string ⟨#[]⟩,.bool true,.string row]] X λe w'=>∃(g cp n:Nat)(rs:List Rw),e=.returned (.slice (some ⟨g,0,none⟩) n cp)/\Hid (n=rs.length/\yBt w' X.heap.size (.slice (some ⟨g,0,none⟩) n cp) rs (yA0 ⟨#[]⟩ true row (esM t.l))/\Below X.heap.size X w'/\Below W4.heap.size W4 w')):=by intro X hX;refine(yGp t.u t.l ⟨#[]⟩ row true X (y.out X hX).2.2.2.2.ins am HT.out).mono ?_;rintro e w' ⟨g,cp,rs,rfl,hC,a4⟩;exact⟨g,cp,rs.length,rs,rfl,rfl,hC,a4,hX.trans (a4.mono hX.size)⟩
 go_cut[7] (λp wx=>∃(R g cp n:Nat)(rs:List Rw),p=.pointer (some ⟨R,0,none⟩)/\wx.cell? ⟨R,0,none⟩=some (.string t.lo)/\wx.cell? ⟨R,1,none⟩=some (.slice (some ⟨g,0,none⟩) n cp)/\n=rs.length/\R<wx.heap.size/\yBt wx W4.heap.size (.slice (some ⟨g,0,none⟩) n cp) rs (yA0 ⟨#[]⟩ true row (esM t.l))/\Below W4.heap.size W4 wx);case first=>
  have hS:SW (λw':World=>w'.cell? ⟨w2.heap.size,0,none⟩=some (.string t.lo)/\w'.cell? ⟨w2.heap.size,1,none⟩=some (.slice (some ⟨t.b,t.off,none⟩) t.l.length t.cap)) W4.drew:=by obtain⟨_,_,q1,q2,_⟩:=y.out W4.drew ((Below.refl _ _).drew);exact⟨q1,q2⟩
  refine wpR 9 hS ?_;refine qU 0 ?vr0x1 rfl ?yr0x1 hS ?_;case yr0x1=>exact zzR0
  try simp only[qA]
  refine qU 1 ?vr1x2 rfl ?yr1x2 hS ?_;case yr1x2=>exact zzR0
  try simp only[qA]
  refine qU 2 ?vr2x3 rfl ?yr2x3 hS ?_;case yr2x3=>exact zzR0
  try simp only[qA]
  refine qU 3 ?vr3x4 rfl ?yr3x4 hS ?_;case yr3x4=>exact zzR0
  try simp only[qA]
  refine qU 4 ?vr4x5 rfl ?yr4x5 hS ?_;case yr4x5=>exact zzR0
  try simp only[qA]
  refine qU 5 ?vr5x6 rfl ?yr5x6 hS ?_;case yr5x6=>exact zzR0
  try simp only[qA]
  refine yD (i:=6) (j:=8) (by kernel_rfl) rfl rfl (λK hK=>?_) (λK hK=>?_)
  .go_simp;go_at_call 74;refine(aj.out _ ((Below.refl _ _).drew)).mono ?_;rintro e v1 ⟨g,cp,n,rs,rfl,HC⟩;obtain⟨_,_,q1,q2,_⟩:=y.out v1 HC.2.2.2;refine hK.out _ _ (.inr ⟨q1,q2⟩) ?_;clear hK;try simp only[qA]
   refine yBh (i:=7) (v:=?vr7x7) rfl (by kernel_rfl) (by kernel_rfl) (by kernel_rfl) (by kernel_rfl) (by decide) (λ_ _ _ h=>h) (Or.inl ⟨by rfl,?yr7x7⟩) (show _/\_ from⟨q1,q2⟩) ?_;case yr7x7=>exact zzR0
   try simp only[qA]
   refine qO 8 rfl λK hK=>?_;go_simp;obtain⟨_,_,p1,p2,_⟩:=y.out (v1.alloc (Obj.cells #[.string ⟨#[]⟩,.slice none 0 0] 56)) (HC.2.2.2.alloc HC.2.2.2.size _);refine hK.out _ _ (.inr ⟨p1,p2⟩) ?_;clear hK;try simp only[qA]
   refine qO 9 rfl λK hK=>?_;exact xA6
  .go_simp;obtain⟨W5,a6⟩:=qE ((W4.alloc (Obj.cells #[.string ⟨#[]⟩,.slice none 0 0] 56)).drew:World);have aq:Below W4.heap.size W4 W5:=by rw[a6];exact(qB).drew
   have aY:W5.heap.size=W4.heap.size+1:=by rw[a6];simp
   have aO:Hid (∀wx,Below W5.heap.size W5 wx->wx.cell? ⟨W4.heap.size,0,none⟩=some (.string ⟨#[]⟩)/\wx.cell? ⟨W4.heap.size,1,none⟩=some (.slice none 0 0)/\wx.frozen? ⟨W4.heap.size,0,none⟩=false/\wx.frozen? ⟨W4.heap.size,1,none⟩=false):=by
    intro wx hx;refine⟨?_,?_,?_,?_⟩
    .rw[hx.cell (p:=⟨W4.heap.size,0,none⟩) (by show W4.heap.size<W5.heap.size;omega),a6];simp
    .rw[hx.cell (p:=⟨W4.heap.size,1,none⟩) (by show W4.heap.size<W5.heap.size;omega),a6];simp
    .rw[hx.frozen (p:=⟨W4.heap.size,0,none⟩) (by show W4.heap.size<W5.heap.size;omega),a6];simp
    .rw[hx.frozen (p:=⟨W4.heap.size,1,none⟩) (by show W4.heap.size<W5.heap.size;omega),a6];simp
   obtain⟨_,_,q1,q2,_⟩:=y.out W5 aq;rw[<-a6];refine hK.out _ _ (.inr ⟨q1,q2⟩) ?_;clear hK a6;try simp only[qA]
   refine qO 6 rfl λK hK=>?_;go_simp;go_at_call 74;refine(aj.out W5 aq).mono ?_;rintro e v1 ⟨g,cp,n,rs,rfl,HC⟩;obtain⟨_,_,p1,p2,_⟩:=y.out v1 HC.2.2.2;obtain⟨y0,y1,y2,y3⟩:=aO.out v1 HC.2.2.1;rw[aF]at y0 y1 y2 y3;refine hK.out _ _ (.inr ⟨p1,p2⟩) ?_;clear hK;try simp only[qA]
   refine yBh (i:=7) (v:=?vr7x8) rfl (by kernel_rfl) (by kernel_rfl) (by kernel_rfl) (by kernel_rfl) (by decide) (λ_ _ _ h=>h) (Or.inl ⟨by rfl,?yr7x8⟩) (show _/\_ from⟨p1,p2⟩) ?_;case yr7x8=>exact zzR0
   try simp only[qA]
   refine qO 9 rfl λK hK=>?_;go_simp;refine hK.out _ _ (.inl rfl) ?_;clear hK;try simp only[qA]
   refine qD ?_;go_wp2_with fail;go_meet;obtain⟨c1,c2,c3,c4⟩:=HC.out;have k5:=c3.size;refine⟨w2.heap.size+1,g,cp,n,rs,rfl,by simp[go_sem,y0,y1],by simp[go_sem,y0,y1],c1,by simp;omega,((c2.set (w2.heap.size+1) 0 (.string t.lo) (by omega)).set (w2.heap.size+1) 1 (.slice (some ⟨g,0,none⟩) n cp) (by omega)).mono (by omega),(c4.setCell (by show W4.heap.size<=w2.heap.size+1;omega) _).setCell (by show W4.heap.size<=w2.heap.size+1;omega) _⟩
 case rest=>
  obtain⟨R,g1,ac,n1,a8,rfl,a0,a1,ax,aR,aC,aB⟩:=hcut;have HA:Hid (n1=a8.length/\yBt wc W4.heap.size (.slice (some ⟨g1,0,none⟩) n1 ac) a8 (yA0 ⟨#[]⟩ true row (esM t.l))):=⟨ax,aC⟩;clear ax aC c0 c1 c2 aj;obtain⟨_,d0,d1,d2,_⟩:=y.out wc aB;have sB:=aB.size;have aT:Hid (Calls prog 74 #[.slice (some ⟨t.b,t.off,none⟩) t.l.length t.cap,.agg #[.string row,.bool false,.string ⟨#[]⟩]] wc λe w'=>∃(g cp n:Nat)(rs:List Rw),e=.returned (.slice (some ⟨g,0,none⟩) n cp)/\Hid (n=rs.length/\yBt w' wc.heap.size (.slice (some ⟨g,0,none⟩) n cp) rs (yA0 row false ⟨#[]⟩ (esM t.l))/\Below wc.heap.size wc w')):=by refine(yGp t.u t.l row ⟨#[]⟩ false wc (y.out wc aB).2.2.2.2.ins am HT.out).mono ?_;rintro e w' ⟨g,cp,rs,rfl,hC,a4⟩;exact⟨g,cp,rs.length,rs,rfl,rfl,hC,a4⟩
  go_wp2_with fail;refine aT.mono ?_;rintro e v1 ⟨g2,ab,n2,af,rfl,ak⟩;obtain⟨W6,a9⟩:=qE (v1.alloc (Obj.cells #[.string row,.slice (some ⟨g2,0,none⟩) n2 ab] 56):World);have ao:Below v1.heap.size v1 W6:=by rw[a9];exact qB
  have aE:W6.heap.size=v1.heap.size+1:=by rw[a9];simp
  have sv:=ak.2.2.size;have e0:W6.cell? ⟨v1.heap.size,0,none⟩=some (.string row):=by rw[a9];simp
  have e1:W6.cell? ⟨v1.heap.size,1,none⟩=some (.slice (some ⟨g2,0,none⟩) n2 ab):=by rw[a9];simp
  have ag:Below wc.heap.size wc W6:=ak.2.2.trans (ao.mono sv);have f0:W6.cell? ⟨R,0,none⟩=some (.string t.lo):=by rw[ag.cell (p:=⟨R,0,none⟩) (by exact aR)];exact a0
  have f1:W6.cell? ⟨R,1,none⟩=some (.slice (some ⟨g1,0,none⟩) n1 ac):=by rw[ag.cell (p:=⟨R,1,none⟩) (by exact aR)];exact a1
  have k6:Below W4.heap.size W4 W6:=aB.trans (ag.mono sB);obtain⟨b6,h0,_⟩:=y.out W6 k6;have ah:Hid (n1=a8.length/\n2=af.length/\yBt W6 Wa.heap.size (.slice (some ⟨g1,0,none⟩) n1 ac) a8 (yA0 ⟨#[]⟩ true row (esM t.l))/\yBt W6 Wa.heap.size (.slice (some ⟨g2,0,none⟩) n2 ab) af (yA0 row false ⟨#[]⟩ (esM t.l))):=by obtain⟨q1,q2⟩:=HA.out;obtain⟨p1,p2,p3⟩:=ak.out;have s4:=k4.size;exact⟨q1,p1,(q2.below ag).mono s4,(p2.below ao).mono (by omega)⟩
  clear a0 a1 d0 d1 d2;have s6:=b6.size;have aZ:IntKind.i64.wrap ((i:Int)+1)=(i:Int)+1:=by rw[IntKind.wrap_i64];omega
  obtain⟨W7,a5⟩:=qE (W6.alloc (Obj.cells #[.string t.lo,.slice (some ⟨g1,0,none⟩) n1 ac,.string row,.slice (some ⟨g2,0,none⟩) n2 ab] 56):World);have hb7:Below W6.heap.size W6 W7:=by rw[a5];exact qB
  have aD:W7.heap.size=W6.heap.size+1:=by rw[a5];simp
  have k7:Below Wa.heap.size Wa W7:=b6.trans (hb7.mono s6);have aS:Hid (Calls prog 73 #[.agg #[.slice (some ⟨b,off,none⟩) ts.length cap],.int .i64 i,.int .i64 ((i:Int)+1),.slice (some ⟨W6.heap.size,0,none⟩) 2 2] W7 λe w'=>∃(va:Option Addr)(vn vc:Nat),e=.returned (.agg #[.slice va vn vc])/\w'.cell? ⟨w.heap.size+1,0,none⟩=some (.slice none 0 0)/\w'.frozen? ⟨w.heap.size+1,0,none⟩=false/\Hid (yVu w (tbs ts) row (.returned (.agg #[.slice va vn vc])) (w'.setCell ⟨w.heap.size+1,0,none⟩ (.slice va vn vc)))):=by
   obtain⟨_,_,_,hT,a4⟩:=a3.out W7 k7;have s7:=k7.size;have aG:yAw W7 Wa.heap.size [⟨t.lo,.slice (some ⟨g1,0,none⟩) n1 ac,a8⟩,⟨row,.slice (some ⟨g2,0,none⟩) n2 ab,af⟩]:=(yAw.append (ah.2.2.1.ts t.lo) (ah.2.2.2.ts row)).below hb7;have an:=yDh b off cap ts [⟨t.lo,.slice (some ⟨g1,0,none⟩) n1 ac,a8⟩,⟨row,.slice (some ⟨g2,0,none⟩) n2 ab,af⟩] i (i+1) W6.heap.size Wa.heap.size W7 hT a4 (λj u hu=>by
    match j with
    |0=>simp at hu;subst hu;exact⟨by rw[a5];simp,by rw[a5];simp⟩
    |1=>simp at hu;subst hu;exact⟨by rw[a5];simp,by rw[a5];simp⟩
    |j+2=>simp at hu) (by omega) aG s7 (by omega) (by simp) (by simp) (by omega) (by omega) (by omega) HS.2
   rw[show((i+1:Nat):Int)=(i:Int)+1 by omega]at an;refine an.mono ?_;rintro e w3 ⟨v,ys,rfl,aI,al,aH,hb3⟩;have ad:Below Wa.heap.size Wa w3:=k7.trans (hb3.mono s7);obtain⟨_,q1,q2,_⟩:=a3.out w3 ad;have aL:yBs w3 Wa.heap.size v ys:=⟨yI5 aI s7,al.runs,al.ents⟩;obtain⟨va,vn,vc,rfl,hc⟩:=yL2 (w:=w) (R:=w.heap.size+1) (by omega) (by omega) aL (ai.trans (ad.mono (by omega)));refine⟨va,vn,vc,rfl,q1,q2,_,yNc HG.out (by omega) (by rw[yAy];exact HF.out) HI.out ay.out hlo,?_⟩;have he:ys.map Tx.tb=cutT (tbs ts) i t.tb row:=by rw[aH];unfold tbs cutT;rw[List.map_take,List.map_drop];have r1:=ah.2.2.1.same;have r2:=ah.2.2.2.same;simp only[map_cons,map_nil,Tx.tb,r1,r2];rfl
   rw[<-he];exact hc
  go_upto_region 9 with fail;rw[<-a9];clear a9 aE aD;go_wp2_with fail;rw[<-a5];clear a5;refine aS.mono ?_;rintro e w9 ⟨va,vn,vc,rfl,q1,q2,hc⟩;go_wp2_with fail;exact bodyPost_ret (v:=.agg #[.slice va vn vc]) (by simp[results,results35,go_sem,q1]) rfl hc.out
theorem yTk{ts:List Tb}(ha:ts[i]?=some a):ts=ts.take i++a::ts.drop (i+1):=by exact yZ7
theorem yZa{ts:List Tb}{row:ByteArray}(ha:ts[i]?=some a):szB (cutT ts i a row)<=2*szB ts/\(cutT ts i a row).length=ts.length+1/\∀t∈cutT ts i a row,szR t.rs<=szB ts:=by
 have h1:=yTk ha;have h2:=congrArg szB h1;have h3:=congrArg List.length h1;have k1:=yIr ⟨#[]⟩ row true a.rs;have k2:=yIr row ⟨#[]⟩ false a.rs;have k3:=yPc (mem_of_getElem? ha);rw[yBk]at h2;simp only[szB,length_append,length_cons]at h2 h3;unfold cutT;refine⟨?_,?_,λt ht=>?_⟩
 .rw[yBk,yBk];simp only[szB];omega
 .simp only[length_append,length_cons,length_nil];omega
 .rcases List.mem_append.1 ht with ht|ht
  .rcases List.mem_append.1 ht with ht|ht
   .exact yPc (List.mem_of_mem_take ht)
   .simp only[mem_cons,not_mem_nil,or_false]at ht;rcases ht with rfl|rfl
    .show szR (yA0 _ _ _ _)<=_;omega
    .show szR (yA0 _ _ _ _)<=_;omega
  .exact yPc (mem_of_mem_drop ht)
structure Nd.small(e:Nd):Prop where
 s:e.s.size<=200000
 t:e.t.size<=300000
 lo:0<=e.lo/\e.lo<=100000
 up:0<=e.up/\e.up<=100000
 n:0<=e.n/\e.n<=100000
 kind:0<=e.kind/\e.kind<=100000
theorem yTa{x:Int}(h:0<=x/\x<=100000):(Lit.int .u64 x).wf=true:=by
 have h1:IntKind.u64.min=0:=by decide
 have h2:IntKind.u64.max=18446744073709551615:=by decide
 simp[Lit.wf,h1,h2];omega
theorem yT{x:Int}(h:0<=x/\x<=100000):(Lit.int .i64 x).wf=true:=by exact yZz
theorem yX9(x:Int)(h:0<=x/\x<=100000):IntKind.u64.wrap x=x:=by simp only[IntKind.wrap,IntKind.bits,IntKind.signed,Bool.false_and,Bool.false_eq_true,if_false];omega
theorem Nd.small.ok{e:Nd}(h:e.small):e.ok:=⟨Nat.le_trans h.s (by decide),Nat.le_trans h.t (by decide),yT h.kind,yTa h.lo,yTa h.up,yT h.n⟩
theorem Nd.small_zero:yV5.small:=⟨by decide,by decide,by decide,by decide,by decide,by decide⟩
structure NInv(base cb:Nat)(bv:Value)(n:Nat)(w:World)(eb rb:Nat)(f:Nd)(wr:World):Prop where
 e:yA wr w.heap.size 35 7 eb f.seven
 r:yA wr w.heap.size 35 7 rb yV5.seven
 ne:¬eb=rb
 d:yAd base cb bv n wr
 c:Chg (λk=>k=cb) w wr
 lt:cb<w.heap.size
 hb:base<=w.heap.size
 sm:f.small
variable {cb n eb rb:Nat} {bv:Value} {f:Nd} {wr:World}
theorem NInv.call{w1:World}(h:NInv base cb bv n w eb rb f wr)(hd:Drew base cb bv n wr w1):NInv base cb bv n w eb rb f w1:=
 ⟨h.e.chg hd.2 (by have:=h.e.lt.1;have:=h.lt;omega),h.r.chg hd.2 (by have:=h.r.lt.1;have:=h.lt;omega),h.ne,hd.1,h.c.trans hd.2,h.lt,h.hb,h.sm⟩
theorem NInv.drew(h:NInv base cb bv n w eb rb f wr):NInv base cb bv n w eb rb f wr.drew:=by have hd:Below wr.heap.size wr wr.drew:=(Below.refl _ _).drew;exact⟨h.e.below hd,h.r.below hd,h.ne,h.d.below hd,h.c.trans (Chg.of_below hd),h.lt,h.hb,h.sm⟩
theorem NInv.set(h:NInv base cb bv n w eb rb f wr)(j:Nat)(f':Nd)(u:Value)(hc:f'.seven=f.seven.set j u)(hs:f'.small):NInv base cb bv n w eb rb f' (wr.setCell ⟨eb,j,none⟩ u):=by have h1:=h.e.set j u;rw[<-hc]at h1;have hl:=h.e.lt;have a0:=h.lt;have a3:=h.hb;have y:Chg (λk=>k=eb) wr (wr.setCell ⟨eb,j,none⟩ u):=Chg.of_set _ _ _ _ rfl;refine⟨h1,h.r.chg y (λq=>h.ne q.symm),h.ne,h.d.chg y (by omega) (λk q=>by omega),?_,h.lt,h.hb,hs⟩;exact Chg.grown_new h.c (yAk wr eb j u) (λk hk=>by cases hk;exact hl.1)
theorem NInv.alloc(h:NInv base cb bv n w eb rb f wr)(o:Obj):NInv base cb bv n w eb rb f (wr.alloc o):=by have hd:Below wr.heap.size wr (wr.alloc o):=qB;exact⟨h.e.below hd,h.r.below hd,h.ne,h.d.below hd,h.c.trans (Chg.of_below hd),h.lt,h.hb,h.sm⟩
def set7(w:World)(g:Nat)(f:Nd):World:=((((((w.setCell ⟨g,0,none⟩ (.int .i64 f.kind)).setCell ⟨g,1,none⟩ (.string f.s)).setCell ⟨g,2,none⟩ (.bool f.hi)).setCell ⟨g,3,none⟩ (.string f.t)).setCell ⟨g,4,none⟩ (.int .u64 f.lo)).setCell ⟨g,5,none⟩ (.int .u64 f.up)).setCell ⟨g,6,none⟩ (.int .i64 f.n)
theorem yA.set7{t g:Nat}{e:Nd}(h:yA w base t 7 g e.seven)(f:Nd):yA (Go.Proofs.YtehfleefkdojpaaGreatDoor.set7 w g f) base t 7 g f.seven:=by have:=((((((h.set 0 (.int .i64 f.kind)).set 1 (.string f.s)).set 2 (.bool f.hi)).set 3 (.string f.t)).set 4 (.int .u64 f.lo)).set 5 (.int .u64 f.up)).set 6 (.int .i64 f.n);exact this
theorem yW8{S:Nat->Prop}(w:World)(g:Nat)(f:Nd)(hs:S g):Chg S w (set7 w g f):=
 ((((((Chg.of_set w g 0 _ hs).trans (Chg.of_set _ g 1 _ hs)).trans (Chg.of_set _ g 2 _ hs)).trans (Chg.of_set _ g 3 _ hs)).trans (Chg.of_set _ g 4 _ hs)).trans (Chg.of_set _ g 5 _ hs)).trans (Chg.of_set _ g 6 _ hs)
def LefP(base cb:Nat)(bv:Value)(n:Nat)(w:World)(e:Ending)(w':World):Prop:=∃f:Nd,e=.returned f.v/\f.small/\Drew base cb bv n w w'
theorem NInv.fin(h:NInv base cb bv n w eb rb f wr):yA (set7 wr rb f) w.heap.size 35 7 rb f.seven/\LefP base cb bv n w (.returned f.v) (set7 wr rb f):=by have y:Chg (λk=>k=rb) wr (set7 wr rb f):=yW8 wr rb f rfl;have hl:=h.r.lt;have a0:=h.lt;have a3:=h.hb;refine⟨h.r.set7 f,f,rfl,h.sm,h.d.chg y (by omega) (λk q=>by omega),?_⟩;exact⟨y.os.trans h.c.os,y.tape.trans h.c.tape,y.output.trans h.c.output,Nat.le_trans h.c.size y.size,λk hk hn=>(y.block k (Nat.lt_of_lt_of_le hk h.c.size) (by omega)).trans (h.c.block k hk hn)⟩
theorem yMw(base cb:Nat)(bv:Value)(n:Nat)(w:World)(h:yAd base cb bv n w):
  Calls prog 93 #[.pointer (some ⟨cb,0,none⟩)] w (LefP base cb bv n w):=by
 have aa:=h.lt;have ad:=h.base;obtain⟨Wa,a3⟩:=qE (w.alloc (Obj.cells #[.int .i64 0,.string ⟨#[]⟩,.bool false,.string ⟨#[]⟩,.int .u64 0,.int .u64 0,.int .i64 0] 35):World);have a7:Below w.heap.size w Wa:=by rw[a3];exact qB
 have HA:Hid (yAd base cb bv n Wa/\yA Wa w.heap.size 35 7 w.heap.size yV5.seven/\Below w.heap.size w Wa):=⟨h.below a7,by rw[a3];exact yAa w #[.int .i64 0,.string ⟨#[]⟩,.bool false,.string ⟨#[]⟩,.int .u64 0,.int .u64 0,.int .i64 0] (Nat.le_refl _) rfl,a7⟩;clear h a7;go_enter func93,ntmps93;go_wp2_with fail;rw[<-a3];clear a3;refine(yAh base cb bv n 16 _ HA.1 (by omega) (by omega)).mono ?_;rintro e w1 ⟨x,rfl,ai,ah,a0⟩;obtain⟨eb,a6⟩:=qE w1.heap.size;obtain⟨W2,a4⟩:=qE (w1.alloc (Obj.cells #[.int .i64 0,.string ⟨#[]⟩,.bool false,.string ⟨#[]⟩,.int .u64 0,.int .u64 0,.int .i64 0] 35):World);have H2:Hid (NInv base cb bv n w eb w.heap.size yV5 W2):=by
  have hb2:Below w1.heap.size w1 W2:=by rw[a4];exact qB
  have hb1:=HA.2.2;have hz:=a0.2.size;have ag:=HA.2.1.lt.2;have a9:=HA.2.1.chg a0.2 (by omega);refine⟨by rw[a4,a6];exact yAa w1 #[.int .i64 0,.string ⟨#[]⟩,.bool false,.string ⟨#[]⟩,.int .u64 0,.int .u64 0,.int .i64 0] (by have:=hb1.size;omega) rfl,a9.below hb2,by have:=a9.lt.2;omega,a0.1.below hb2,((Chg.of_below hb1).trans a0.2).trans (Chg.of_below hb2),aa.2,ad,Nd.small_zero⟩
 clear a0 HA;go_upto_region 3 with fail;rw[<-a4,<-a6];clear a4 a6;by_cases x0:x=0
 .subst x0;have c2_0:=H2.e.cell (j:=0) rfl;have z2_0:=H2.e.frozen 0;obtain⟨W3,hW3⟩:=qE (W2.setCell ⟨eb,0,none⟩ (.int .i64 1):World);have H3:Hid (NInv base cb bv n w eb w.heap.size (⟨1,⟨#[]⟩,false,⟨#[]⟩,0,0,0⟩:Nd) W3):=by rw[hW3];exact H2.set 0 _ _ rfl ⟨H2.sm.s,H2.sm.t,H2.sm.lo,H2.sm.up,H2.sm.n,(by show(0:Int)<=1/\(1:Int)<=100000;omega)⟩
  go_upto_region 49 with fail;rw[<-hW3];clear hW3;obtain⟨k0,k1,k2,k3,k4,k5,k6⟩:=H3.e.c7;obtain⟨l0,l1,l2,l3,l4,l5,l6⟩:=H3.r.c7;have lf:=H3.r.frozen;obtain⟨WF,hWF⟩:=qE (set7 W3 w.heap.size (⟨1,⟨#[]⟩,false,⟨#[]⟩,0,0,0⟩:Nd):World);have hfin:=H3.fin;rw[<-hWF]at hfin;obtain⟨hB9,HR⟩:=hfin;obtain⟨p0,p1,p2,p3,p4,p5,p6⟩:=hB9.c7;have HRH:Hid (LefP base cb bv n w (.returned (Nd.v (⟨1,⟨#[]⟩,false,⟨#[]⟩,0,0,0⟩:Nd))) WF):=HR;exact zzQ6
 by_cases x1:x=1
 .subst x1;have c2_0:=H2.e.cell (j:=0) rfl;have z2_0:=H2.e.frozen 0;obtain⟨W3,hW3⟩:=qE (W2.setCell ⟨eb,0,none⟩ (.int .i64 2):World);have H3:Hid (NInv base cb bv n w eb w.heap.size (⟨2,⟨#[]⟩,false,⟨#[]⟩,0,0,0⟩:Nd) W3):=by rw[hW3];exact H2.set 0 _ _ rfl ⟨H2.sm.s,H2.sm.t,H2.sm.lo,H2.sm.up,H2.sm.n,(by show(0:Int)<=2/\(2:Int)<=100000;omega)⟩
  go_upto_region 9 with fail;rw[<-hW3];clear hW3;go_wp2_with fail;refine(yAx base cb bv n 2 _ H3.d (by omega) (by omega)).mono ?_;rintro e w4 ⟨v,rfl,hv,hd⟩;have H4w:Hid (NInv base cb bv n w eb w.heap.size (⟨2,⟨#[]⟩,false,⟨#[]⟩,0,0,0⟩:Nd) w4):=H3.call hd;clear hd;rcases hv with rfl|rfl
  .have al:=H4w.e.cell (j:=0) rfl;have af:=H4w.e.frozen 0;obtain⟨W5,hW5⟩:=qE (w4.setCell ⟨eb,0,none⟩ (.int .i64 3):World);have H5:Hid (NInv base cb bv n w eb w.heap.size (⟨3,⟨#[]⟩,false,⟨#[]⟩,0,0,0⟩:Nd) W5):=by rw[hW5];exact H4w.set 0 _ _ rfl ⟨H4w.sm.s,H4w.sm.t,H4w.sm.lo,H4w.sm.up,H4w.sm.n,(by show(0:Int)<=3/\(3:Int)<=100000;omega)⟩
   go_upto_region 49 with fail;rw[<-hW5];clear hW5;obtain⟨k0,k1,k2,k3,k4,k5,k6⟩:=H5.e.c7;obtain⟨l0,l1,l2,l3,l4,l5,l6⟩:=H5.r.c7;have lf:=H5.r.frozen;obtain⟨WF,hWF⟩:=qE (set7 W5 w.heap.size (⟨3,⟨#[]⟩,false,⟨#[]⟩,0,0,0⟩:Nd):World);have hfin:=H5.fin;rw[<-hWF]at hfin;obtain⟨hB9,HR⟩:=hfin;obtain⟨p0,p1,p2,p3,p4,p5,p6⟩:=hB9.c7;have HRH:Hid (LefP base cb bv n w (.returned (Nd.v (⟨3,⟨#[]⟩,false,⟨#[]⟩,0,0,0⟩:Nd))) WF):=HR;exact zzQ6
  .go_upto_region 49 with fail;obtain⟨k0,k1,k2,k3,k4,k5,k6⟩:=H4w.e.c7;obtain⟨l0,l1,l2,l3,l4,l5,l6⟩:=H4w.r.c7;have lf:=H4w.r.frozen;obtain⟨WF,hWF⟩:=qE (set7 w4 w.heap.size (⟨2,⟨#[]⟩,false,⟨#[]⟩,0,0,0⟩:Nd):World);have hfin:=H4w.fin;rw[<-hWF]at hfin;obtain⟨hB9,HR⟩:=hfin;obtain⟨p0,p1,p2,p3,p4,p5,p6⟩:=hB9.c7;have HRH:Hid (LefP base cb bv n w (.returned (Nd.v (⟨2,⟨#[]⟩,false,⟨#[]⟩,0,0,0⟩:Nd))) WF):=HR;exact zzQ6
 by_cases x2:x=2
 .subst x2;have c2_0:=H2.e.cell (j:=0) rfl;have z2_0:=H2.e.frozen 0;obtain⟨W3,hW3⟩:=qE (W2.setCell ⟨eb,0,none⟩ (.int .i64 4):World);have H3:Hid (NInv base cb bv n w eb w.heap.size (⟨4,⟨#[]⟩,false,⟨#[]⟩,0,0,0⟩:Nd) W3):=by rw[hW3];exact H2.set 0 _ _ rfl ⟨H2.sm.s,H2.sm.t,H2.sm.lo,H2.sm.up,H2.sm.n,(by show(0:Int)<=4/\(4:Int)<=100000;omega)⟩
  go_upto_region 16 with fail;rw[<-hW3];clear hW3;go_wp2_with fail;refine(yEf base cb bv n _ H3.d).mono ?_;rintro e w4 ⟨s1,rfl,hs1,hd⟩;have H4w:Hid (NInv base cb bv n w eb w.heap.size (⟨4,⟨#[]⟩,false,⟨#[]⟩,0,0,0⟩:Nd) w4):=H3.call hd;clear hd;have c4_1:=H4w.e.cell (j:=1) rfl;have z4_1:=H4w.e.frozen 1;obtain⟨W5,hW5⟩:=qE (w4.setCell ⟨eb,1,none⟩ (.string s1):World);have H5:Hid (NInv base cb bv n w eb w.heap.size (⟨4,s1,false,⟨#[]⟩,0,0,0⟩:Nd) W5):=by rw[hW5];exact H4w.set 1 _ _ rfl ⟨(by show s1.size<=200000;omega),H4w.sm.t,H4w.sm.lo,H4w.sm.up,H4w.sm.n,H4w.sm.kind⟩
  go_upto_region 49 with fail;rw[<-hW5];clear hW5;obtain⟨k0,k1,k2,k3,k4,k5,k6⟩:=H5.e.c7;obtain⟨l0,l1,l2,l3,l4,l5,l6⟩:=H5.r.c7;have lf:=H5.r.frozen;obtain⟨WF,hWF⟩:=qE (set7 W5 w.heap.size (⟨4,s1,false,⟨#[]⟩,0,0,0⟩:Nd):World);have hfin:=H5.fin;rw[<-hWF]at hfin;obtain⟨hB9,HR⟩:=hfin;obtain⟨p0,p1,p2,p3,p4,p5,p6⟩:=hB9.c7;have HRH:Hid (LefP base cb bv n w (.returned (Nd.v (⟨4,s1,false,⟨#[]⟩,0,0,0⟩:Nd))) WF):=HR;exact zzQ6
 by_cases x3:x=3
 .subst x3;have c2_0:=H2.e.cell (j:=0) rfl;have z2_0:=H2.e.frozen 0;obtain⟨W3,hW3⟩:=qE (W2.setCell ⟨eb,0,none⟩ (.int .i64 5):World);have H3:Hid (NInv base cb bv n w eb w.heap.size (⟨5,⟨#[]⟩,false,⟨#[]⟩,0,0,0⟩:Nd) W3):=by rw[hW3];exact H2.set 0 _ _ rfl ⟨H2.sm.s,H2.sm.t,H2.sm.lo,H2.sm.up,H2.sm.n,(by show(0:Int)<=5/\(5:Int)<=100000;omega)⟩
  go_upto_region 16 with fail;rw[<-hW3];clear hW3;go_wp2_with fail;refine(yEf base cb bv n _ H3.d).mono ?_;rintro e w4 ⟨s1,rfl,hs1,hd⟩;have H4w:Hid (NInv base cb bv n w eb w.heap.size (⟨5,⟨#[]⟩,false,⟨#[]⟩,0,0,0⟩:Nd) w4):=H3.call hd;clear hd;have c4_1:=H4w.e.cell (j:=1) rfl;have z4_1:=H4w.e.frozen 1;obtain⟨W5,hW5⟩:=qE (w4.setCell ⟨eb,1,none⟩ (.string s1):World);have H5:Hid (NInv base cb bv n w eb w.heap.size (⟨5,s1,false,⟨#[]⟩,0,0,0⟩:Nd) W5):=by rw[hW5];exact H4w.set 1 _ _ rfl ⟨(by show s1.size<=200000;omega),H4w.sm.t,H4w.sm.lo,H4w.sm.up,H4w.sm.n,H4w.sm.kind⟩
  go_upto_region 18 with fail;rw[<-hW5];clear hW5;go_wp2_with fail;obtain⟨ab,ac⟩:cb<W5.heap.size/\Below W5.heap.size W5 (W5.alloc (Obj.cells #[] 0)):=⟨H5.d.lt.2,qB⟩;refine(yD0 base cb bv n _ 5 _ (H5.d.below (qB)) (by omega) (by omega) (by omega) (by simp) ?_).mono ?_
  .intro k hk;match k,hk with
   |0,_=>exact⟨_,by simp;rfl,by decide⟩
   |1,_=>exact⟨_,by simp;rfl,by decide⟩
   |2,_=>exact⟨_,by simp;rfl,by decide⟩
   |3,_=>exact⟨_,by simp;rfl,by decide⟩
   |4,_=>exact⟨_,by simp;rfl,by decide⟩
  rintro e w6 ⟨s2,rfl,aj,hd⟩;have H6w:Hid (NInv base cb bv n w eb w.heap.size (⟨5,s1,false,⟨#[]⟩,0,0,0⟩:Nd) w6):=(H5.alloc _).call hd;clear hd ac ab;have ak:=H6w.e.cell (j:=1) rfl;have ae:=H6w.e.frozen 1;obtain⟨W7,hW7⟩:=qE (w6.setCell ⟨eb,1,none⟩ (.string s2):World);have H7:Hid (NInv base cb bv n w eb w.heap.size (⟨5,s2,false,⟨#[]⟩,0,0,0⟩:Nd) W7):=by rw[hW7];exact H6w.set 1 _ _ rfl ⟨(by show s2.size<=200000;omega),H6w.sm.t,H6w.sm.lo,H6w.sm.up,H6w.sm.n,H6w.sm.kind⟩
  go_upto_region 49 with fail;rw[<-hW7];clear hW7;obtain⟨k0,k1,k2,k3,k4,k5,k6⟩:=H7.e.c7;obtain⟨l0,l1,l2,l3,l4,l5,l6⟩:=H7.r.c7;have lf:=H7.r.frozen;obtain⟨WF,hWF⟩:=qE (set7 W7 w.heap.size (⟨5,s2,false,⟨#[]⟩,0,0,0⟩:Nd):World);have hfin:=H7.fin;rw[<-hWF]at hfin;obtain⟨hB9,HR⟩:=hfin;obtain⟨p0,p1,p2,p3,p4,p5,p6⟩:=hB9.c7;have HRH:Hid (LefP base cb bv n w (.returned (Nd.v (⟨5,s2,false,⟨#[]⟩,0,0,0⟩:Nd))) WF):=HR;exact zzQ6
 by_cases x4:x=4
 .subst x4;have c2_0:=H2.e.cell (j:=0) rfl;have z2_0:=H2.e.frozen 0;obtain⟨W3,hW3⟩:=qE (W2.setCell ⟨eb,0,none⟩ (.int .i64 6):World);have H3:Hid (NInv base cb bv n w eb w.heap.size (⟨6,⟨#[]⟩,false,⟨#[]⟩,0,0,0⟩:Nd) W3):=by rw[hW3];exact H2.set 0 _ _ rfl ⟨H2.sm.s,H2.sm.t,H2.sm.lo,H2.sm.up,H2.sm.n,(by show(0:Int)<=6/\(6:Int)<=100000;omega)⟩
  go_upto_region 16 with fail;rw[<-hW3];clear hW3;go_wp2_with fail;refine(yEf base cb bv n _ H3.d).mono ?_;rintro e w4 ⟨s1,rfl,hs1,hd⟩;have H4w:Hid (NInv base cb bv n w eb w.heap.size (⟨6,⟨#[]⟩,false,⟨#[]⟩,0,0,0⟩:Nd) w4):=H3.call hd;clear hd;have c4_1:=H4w.e.cell (j:=1) rfl;have z4_1:=H4w.e.frozen 1;obtain⟨W5,hW5⟩:=qE (w4.setCell ⟨eb,1,none⟩ (.string s1):World);have H5:Hid (NInv base cb bv n w eb w.heap.size (⟨6,s1,false,⟨#[]⟩,0,0,0⟩:Nd) W5):=by rw[hW5];exact H4w.set 1 _ _ rfl ⟨(by show s1.size<=200000;omega),H4w.sm.t,H4w.sm.lo,H4w.sm.up,H4w.sm.n,H4w.sm.kind⟩
  go_upto_region 49 with fail;rw[<-hW5];clear hW5;obtain⟨k0,k1,k2,k3,k4,k5,k6⟩:=H5.e.c7;obtain⟨l0,l1,l2,l3,l4,l5,l6⟩:=H5.r.c7;have lf:=H5.r.frozen;obtain⟨WF,hWF⟩:=qE (set7 W5 w.heap.size (⟨6,s1,false,⟨#[]⟩,0,0,0⟩:Nd):World);have hfin:=H5.fin;rw[<-hWF]at hfin;obtain⟨hB9,HR⟩:=hfin;obtain⟨p0,p1,p2,p3,p4,p5,p6⟩:=hB9.c7;have HRH:Hid (LefP base cb bv n w (.returned (Nd.v (⟨6,s1,false,⟨#[]⟩,0,0,0⟩:Nd))) WF):=HR;exact zzQ6
 by_cases x5:x=5
 .subst x5;have c2_0:=H2.e.cell (j:=0) rfl;have z2_0:=H2.e.frozen 0;obtain⟨W3,hW3⟩:=qE (W2.setCell ⟨eb,0,none⟩ (.int .i64 7):World);have H3:Hid (NInv base cb bv n w eb w.heap.size (⟨7,⟨#[]⟩,false,⟨#[]⟩,0,0,0⟩:Nd) W3):=by rw[hW3];exact H2.set 0 _ _ rfl ⟨H2.sm.s,H2.sm.t,H2.sm.lo,H2.sm.up,H2.sm.n,(by show(0:Int)<=7/\(7:Int)<=100000;omega)⟩
  go_upto_region 16 with fail;rw[<-hW3];clear hW3;go_wp2_with fail;refine(yEf base cb bv n _ H3.d).mono ?_;rintro e w4 ⟨s1,rfl,hs1,hd⟩;have H4w:Hid (NInv base cb bv n w eb w.heap.size (⟨7,⟨#[]⟩,false,⟨#[]⟩,0,0,0⟩:Nd) w4):=H3.call hd;clear hd;have c4_1:=H4w.e.cell (j:=1) rfl;have z4_1:=H4w.e.frozen 1;obtain⟨W5,hW5⟩:=qE (w4.setCell ⟨eb,1,none⟩ (.string s1):World);have H5:Hid (NInv base cb bv n w eb w.heap.size (⟨7,s1,false,⟨#[]⟩,0,0,0⟩:Nd) W5):=by rw[hW5];exact H4w.set 1 _ _ rfl ⟨(by show s1.size<=200000;omega),H4w.sm.t,H4w.sm.lo,H4w.sm.up,H4w.sm.n,H4w.sm.kind⟩
  go_upto_region 49 with fail;rw[<-hW5];clear hW5;obtain⟨k0,k1,k2,k3,k4,k5,k6⟩:=H5.e.c7;obtain⟨l0,l1,l2,l3,l4,l5,l6⟩:=H5.r.c7;have lf:=H5.r.frozen;obtain⟨WF,hWF⟩:=qE (set7 W5 w.heap.size (⟨7,s1,false,⟨#[]⟩,0,0,0⟩:Nd):World);have hfin:=H5.fin;rw[<-hWF]at hfin;obtain⟨hB9,HR⟩:=hfin;obtain⟨p0,p1,p2,p3,p4,p5,p6⟩:=hB9.c7;have HRH:Hid (LefP base cb bv n w (.returned (Nd.v (⟨7,s1,false,⟨#[]⟩,0,0,0⟩:Nd))) WF):=HR;exact zzQ6
 by_cases x6:x=6
 .subst x6;have c2_0:=H2.e.cell (j:=0) rfl;have z2_0:=H2.e.frozen 0;obtain⟨W3,hW3⟩:=qE (W2.setCell ⟨eb,0,none⟩ (.int .i64 8):World);have H3:Hid (NInv base cb bv n w eb w.heap.size (⟨8,⟨#[]⟩,false,⟨#[]⟩,0,0,0⟩:Nd) W3):=by rw[hW3];exact H2.set 0 _ _ rfl ⟨H2.sm.s,H2.sm.t,H2.sm.lo,H2.sm.up,H2.sm.n,(by show(0:Int)<=8/\(8:Int)<=100000;omega)⟩
  go_upto_region 21 with fail;rw[<-hW3];clear hW3;go_wp2_with fail;refine(yAu base cb bv n 0 2 _ H3.d (by omega) (by omega) (by omega)).mono ?_;rintro e w4 ⟨s1,rfl,hs1,hd⟩;have H4w:Hid (NInv base cb bv n w eb w.heap.size (⟨8,⟨#[]⟩,false,⟨#[]⟩,0,0,0⟩:Nd) w4):=H3.call hd;clear hd;have c4_1:=H4w.e.cell (j:=1) rfl;have z4_1:=H4w.e.frozen 1;obtain⟨W5,hW5⟩:=qE (w4.setCell ⟨eb,1,none⟩ (.string s1):World);have H5:Hid (NInv base cb bv n w eb w.heap.size (⟨8,s1,false,⟨#[]⟩,0,0,0⟩:Nd) W5):=by rw[hW5];exact H4w.set 1 _ _ rfl ⟨(by show s1.size<=200000;omega),H4w.sm.t,H4w.sm.lo,H4w.sm.up,H4w.sm.n,H4w.sm.kind⟩
  go_upto_region 22 with fail;rw[<-hW5];clear hW5;go_wp2_with fail;refine(yAx base cb bv n 2 _ H5.d (by omega) (by omega)).mono ?_;rintro e w6 ⟨v,rfl,hv,hd⟩;have H6w:Hid (NInv base cb bv n w eb w.heap.size (⟨8,s1,false,⟨#[]⟩,0,0,0⟩:Nd) w6):=H5.call hd;clear hd;rcases hv with rfl|rfl
  .have c6_2:=H6w.e.cell (j:=2) rfl;have z6_2:=H6w.e.frozen 2;obtain⟨W7,hW7⟩:=qE (w6.setCell ⟨eb,2,none⟩ (.bool true):World);have H7:Hid (NInv base cb bv n w eb w.heap.size (⟨8,s1,true,⟨#[]⟩,0,0,0⟩:Nd) W7):=by rw[hW7];exact H6w.set 2 _ _ rfl ⟨H6w.sm.s,H6w.sm.t,H6w.sm.lo,H6w.sm.up,H6w.sm.n,H6w.sm.kind⟩
   go_upto_region 23 with fail;rw[<-hW7];clear hW7;have cH:=H7.e.cell (j:=2) rfl;go_upto_region 24 with fail;clear cH;have HL:Hid (Calls prog 52 #[.pointer (some ⟨cb,0,none⟩),.int .i64 1,.int .i64 2] W7.drew λe w'=>∃s:ByteArray,e=.returned (.string s)/\s.size<=100/\Drew base cb bv n W7.drew w'):=yAu base cb bv n 1 2 _ H7.drew.d (by omega) (by omega) (by omega);have hS0:SW (λwz:World=>wz.cell? ⟨eb,1,none⟩=some (.string s1)) W7.drew:=H7.drew.e.cell (j:=1) rfl;refine wpR 6 hS0 ?_;refine j1a 0 hS0 ?_;iterate 2 refine j1b hS0 ?_
   refine qO 3 rfl λK hK=>?_;go_simp;refine HL.mono ?_;rintro e w8 ⟨s4,rfl,hs4,hd⟩;have H8w:Hid (NInv base cb bv n w eb w.heap.size (⟨8,s1,true,⟨#[]⟩,0,0,0⟩:Nd) w8):=H7.drew.call hd;clear hd HL hS0;have hS0:(λwz:World=>wz.cell? ⟨eb,1,none⟩=some (.string s1)) w8:=H8w.e.cell (j:=1) rfl;refine hK.out _ _ (.inr hS0) ?_;clear hK;refine jS ?_;have hcat:¬9223372036854775807<s1.size+s4.size:=by omega
   refine j1a 4 hS0 ?_;clear hcat;refine j1a 5 hS0 ?_;have c8_3:=H8w.e.cell (j:=3) rfl;have z8_3:=H8w.e.frozen 3;obtain⟨W9,hW9⟩:=qE (w8.setCell ⟨eb,3,none⟩ (.string (s1++s4)):World);have H9:Hid (NInv base cb bv n w eb w.heap.size (⟨8,s1,true,(s1++s4),0,0,0⟩:Nd) W9):=by rw[hW9];exact H8w.set 3 _ _ rfl ⟨H8w.sm.s,(by show(s1++s4).size<=300000;rw[yDq];omega),H8w.sm.lo,H8w.sm.up,H8w.sm.n,H8w.sm.kind⟩
   refine qO 6 rfl λK hK=>?_;go_simp;refine hK.out _ _ (.inl rfl) ?_;clear hK;refine jS ?_;refine qD ?_;rw[<-hW9];clear hW9 hS0;go_upto_region 49 with fail;obtain⟨k0,k1,k2,k3,k4,k5,k6⟩:=H9.e.c7;obtain⟨l0,l1,l2,l3,l4,l5,l6⟩:=H9.r.c7;have lf:=H9.r.frozen;obtain⟨WF,hWF⟩:=qE (set7 W9 w.heap.size (⟨8,s1,true,(s1++s4),0,0,0⟩:Nd):World);have hfin:=H9.fin;rw[<-hWF]at hfin;obtain⟨hB9,HR⟩:=hfin;obtain⟨p0,p1,p2,p3,p4,p5,p6⟩:=hB9.c7;have HRH:Hid (LefP base cb bv n w (.returned (Nd.v (⟨8,s1,true,(s1++s4),0,0,0⟩:Nd))) WF):=HR;exact zzQ6
  .have c6_2:=H6w.e.cell (j:=2) rfl;have z6_2:=H6w.e.frozen 2;obtain⟨W7,hW7⟩:=qE (w6.setCell ⟨eb,2,none⟩ (.bool false):World);have H7:Hid (NInv base cb bv n w eb w.heap.size (⟨8,s1,false,⟨#[]⟩,0,0,0⟩:Nd) W7):=by rw[hW7];exact H6w.set 2 _ _ rfl ⟨H6w.sm.s,H6w.sm.t,H6w.sm.lo,H6w.sm.up,H6w.sm.n,H6w.sm.kind⟩
   go_upto_region 23 with fail;rw[<-hW7];clear hW7;have cH:=H7.e.cell (j:=2) rfl;go_upto_region 49 with fail;clear cH;obtain⟨k0,k1,k2,k3,k4,k5,k6⟩:=H7.e.c7;obtain⟨l0,l1,l2,l3,l4,l5,l6⟩:=H7.r.c7;have lf:=H7.r.frozen;obtain⟨WF,hWF⟩:=qE (set7 W7 w.heap.size (⟨8,s1,false,⟨#[]⟩,0,0,0⟩:Nd):World);have hfin:=H7.fin;rw[<-hWF]at hfin;obtain⟨hB9,HR⟩:=hfin;obtain⟨p0,p1,p2,p3,p4,p5,p6⟩:=hB9.c7;have HRH:Hid (LefP base cb bv n w (.returned (Nd.v (⟨8,s1,false,⟨#[]⟩,0,0,0⟩:Nd))) WF):=HR;exact zzQ6
 by_cases x7:x=7
 .subst x7;exact zzQ5
 by_cases x8:x=8
 .subst x8;exact zzQ5
 by_cases x9:x=9
 .subst x9;exact zzQ4
 by_cases x10:x=10
 .subst x10;exact zzQ4
 by_cases x11:x=11
 .subst x11;have c2_0:=H2.e.cell (j:=0) rfl;have z2_0:=H2.e.frozen 0;obtain⟨W3,hW3⟩:=qE (W2.setCell ⟨eb,0,none⟩ (.int .i64 11):World);have H3:Hid (NInv base cb bv n w eb w.heap.size (⟨11,⟨#[]⟩,false,⟨#[]⟩,0,0,0⟩:Nd) W3):=by rw[hW3];exact H2.set 0 _ _ rfl ⟨H2.sm.s,H2.sm.t,H2.sm.lo,H2.sm.up,H2.sm.n,(by show(0:Int)<=11/\(11:Int)<=100000;omega)⟩
  go_upto_region 42 with fail;rw[<-hW3];clear hW3;go_wp2_with fail;refine(yAh base cb bv n 2 _ H3.d (by omega) (by omega)).mono ?_;rintro e w4 ⟨y,rfl,hy0,hy1,hd⟩;have H4w:Hid (NInv base cb bv n w eb w.heap.size (⟨11,⟨#[]⟩,false,⟨#[]⟩,0,0,0⟩:Nd) w4):=H3.call hd;clear hd;have a8:=H4w.e.cell (j:=6) rfl;have a5:=H4w.e.frozen 6;obtain⟨W5,hW5⟩:=qE (w4.setCell ⟨eb,6,none⟩ (.int .i64 (1+y)):World);have H5:Hid (NInv base cb bv n w eb w.heap.size (⟨11,⟨#[]⟩,false,⟨#[]⟩,0,0,(1+y)⟩:Nd) W5):=by rw[hW5];exact H4w.set 6 _ _ rfl ⟨H4w.sm.s,H4w.sm.t,H4w.sm.lo,H4w.sm.up,(by show 0<=1+y/\1+y<=100000;omega),H4w.sm.kind⟩
  go_upto_region 49 with fail;rw[<-hW5];clear hW5;obtain⟨k0,k1,k2,k3,k4,k5,k6⟩:=H5.e.c7;obtain⟨l0,l1,l2,l3,l4,l5,l6⟩:=H5.r.c7;have lf:=H5.r.frozen;obtain⟨WF,hWF⟩:=qE (set7 W5 w.heap.size (⟨11,⟨#[]⟩,false,⟨#[]⟩,0,0,(1+y)⟩:Nd):World);have hfin:=H5.fin;rw[<-hWF]at hfin;obtain⟨hB9,HR⟩:=hfin;obtain⟨p0,p1,p2,p3,p4,p5,p6⟩:=hB9.c7;have HRH:Hid (LefP base cb bv n w (.returned (Nd.v (⟨11,⟨#[]⟩,false,⟨#[]⟩,0,0,(1+y)⟩:Nd))) WF):=HR;exact zzQ6
 by_cases x12:x=12
 .subst x12;have c2_0:=H2.e.cell (j:=0) rfl;have z2_0:=H2.e.frozen 0;obtain⟨W3,hW3⟩:=qE (W2.setCell ⟨eb,0,none⟩ (.int .i64 11):World);have H3:Hid (NInv base cb bv n w eb w.heap.size (⟨11,⟨#[]⟩,false,⟨#[]⟩,0,0,0⟩:Nd) W3):=by rw[hW3];exact H2.set 0 _ _ rfl ⟨H2.sm.s,H2.sm.t,H2.sm.lo,H2.sm.up,H2.sm.n,(by show(0:Int)<=11/\(11:Int)<=100000;omega)⟩
  go_upto_region 42 with fail;rw[<-hW3];clear hW3;go_wp2_with fail;refine(yAh base cb bv n 2 _ H3.d (by omega) (by omega)).mono ?_;rintro e w4 ⟨y,rfl,hy0,hy1,hd⟩;have H4w:Hid (NInv base cb bv n w eb w.heap.size (⟨11,⟨#[]⟩,false,⟨#[]⟩,0,0,0⟩:Nd) w4):=H3.call hd;clear hd;have a8:=H4w.e.cell (j:=6) rfl;have a5:=H4w.e.frozen 6;obtain⟨W5,hW5⟩:=qE (w4.setCell ⟨eb,6,none⟩ (.int .i64 (1+y)):World);have H5:Hid (NInv base cb bv n w eb w.heap.size (⟨11,⟨#[]⟩,false,⟨#[]⟩,0,0,(1+y)⟩:Nd) W5):=by rw[hW5];exact H4w.set 6 _ _ rfl ⟨H4w.sm.s,H4w.sm.t,H4w.sm.lo,H4w.sm.up,(by show 0<=1+y/\1+y<=100000;omega),H4w.sm.kind⟩
  go_upto_region 49 with fail;rw[<-hW5];clear hW5;obtain⟨k0,k1,k2,k3,k4,k5,k6⟩:=H5.e.c7;obtain⟨l0,l1,l2,l3,l4,l5,l6⟩:=H5.r.c7;have lf:=H5.r.frozen;obtain⟨WF,hWF⟩:=qE (set7 W5 w.heap.size (⟨11,⟨#[]⟩,false,⟨#[]⟩,0,0,(1+y)⟩:Nd):World);have hfin:=H5.fin;rw[<-hWF]at hfin;obtain⟨hB9,HR⟩:=hfin;obtain⟨p0,p1,p2,p3,p4,p5,p6⟩:=hB9.c7;have HRH:Hid (LefP base cb bv n w (.returned (Nd.v (⟨11,⟨#[]⟩,false,⟨#[]⟩,0,0,(1+y)⟩:Nd))) WF):=HR;exact zzQ6
 by_cases x13:x=13
 .subst x13;have c2_0:=H2.e.cell (j:=0) rfl;have z2_0:=H2.e.frozen 0;obtain⟨W3,hW3⟩:=qE (W2.setCell ⟨eb,0,none⟩ (.int .i64 12):World);have H3:Hid (NInv base cb bv n w eb w.heap.size (⟨12,⟨#[]⟩,false,⟨#[]⟩,0,0,0⟩:Nd) W3):=by rw[hW3];exact H2.set 0 _ _ rfl ⟨H2.sm.s,H2.sm.t,H2.sm.lo,H2.sm.up,H2.sm.n,(by show(0:Int)<=12/\(12:Int)<=100000;omega)⟩
  go_upto_region 45 with fail;rw[<-hW3];clear hW3;go_wp2_with fail;refine(yAh base cb bv n 4 _ H3.d (by omega) (by omega)).mono ?_;rintro e w4 ⟨y,rfl,hy0,hy1,hd⟩;have H4w:Hid (NInv base cb bv n w eb w.heap.size (⟨12,⟨#[]⟩,false,⟨#[]⟩,0,0,0⟩:Nd) w4):=H3.call hd;clear hd;have a8:=H4w.e.cell (j:=6) rfl;have a5:=H4w.e.frozen 6;obtain⟨W5,hW5⟩:=qE (w4.setCell ⟨eb,6,none⟩ (.int .i64 (1+y)):World);have H5:Hid (NInv base cb bv n w eb w.heap.size (⟨12,⟨#[]⟩,false,⟨#[]⟩,0,0,(1+y)⟩:Nd) W5):=by rw[hW5];exact H4w.set 6 _ _ rfl ⟨H4w.sm.s,H4w.sm.t,H4w.sm.lo,H4w.sm.up,(by show 0<=1+y/\1+y<=100000;omega),H4w.sm.kind⟩
  go_upto_region 49 with fail;rw[<-hW5];clear hW5;obtain⟨k0,k1,k2,k3,k4,k5,k6⟩:=H5.e.c7;obtain⟨l0,l1,l2,l3,l4,l5,l6⟩:=H5.r.c7;have lf:=H5.r.frozen;obtain⟨WF,hWF⟩:=qE (set7 W5 w.heap.size (⟨12,⟨#[]⟩,false,⟨#[]⟩,0,0,(1+y)⟩:Nd):World);have hfin:=H5.fin;rw[<-hWF]at hfin;obtain⟨hB9,HR⟩:=hfin;obtain⟨p0,p1,p2,p3,p4,p5,p6⟩:=hB9.c7;have HRH:Hid (LefP base cb bv n w (.returned (Nd.v (⟨12,⟨#[]⟩,false,⟨#[]⟩,0,0,(1+y)⟩:Nd))) WF):=HR;exact zzQ6
 by_cases x14:x=14
 .subst x14;have c2_0:=H2.e.cell (j:=0) rfl;have z2_0:=H2.e.frozen 0;obtain⟨W3,hW3⟩:=qE (W2.setCell ⟨eb,0,none⟩ (.int .i64 13):World);have H3:Hid (NInv base cb bv n w eb w.heap.size (⟨13,⟨#[]⟩,false,⟨#[]⟩,0,0,0⟩:Nd) W3):=by rw[hW3];exact H2.set 0 _ _ rfl ⟨H2.sm.s,H2.sm.t,H2.sm.lo,H2.sm.up,H2.sm.n,(by show(0:Int)<=13/\(13:Int)<=100000;omega)⟩
  go_upto_region 48 with fail;rw[<-hW3];clear hW3;go_wp2_with fail;refine(yAh base cb bv n 3 _ H3.d (by omega) (by omega)).mono ?_;rintro e w4 ⟨y,rfl,hy0,hy1,hd⟩;have H4w:Hid (NInv base cb bv n w eb w.heap.size (⟨13,⟨#[]⟩,false,⟨#[]⟩,0,0,0⟩:Nd) w4):=H3.call hd;clear hd;have a8:=H4w.e.cell (j:=6) rfl;have a5:=H4w.e.frozen 6;obtain⟨W5,hW5⟩:=qE (w4.setCell ⟨eb,6,none⟩ (.int .i64 (1+y)):World);have H5:Hid (NInv base cb bv n w eb w.heap.size (⟨13,⟨#[]⟩,false,⟨#[]⟩,0,0,(1+y)⟩:Nd) W5):=by rw[hW5];exact H4w.set 6 _ _ rfl ⟨H4w.sm.s,H4w.sm.t,H4w.sm.lo,H4w.sm.up,(by show 0<=1+y/\1+y<=100000;omega),H4w.sm.kind⟩
  go_upto_region 49 with fail;rw[<-hW5];clear hW5;obtain⟨k0,k1,k2,k3,k4,k5,k6⟩:=H5.e.c7;obtain⟨l0,l1,l2,l3,l4,l5,l6⟩:=H5.r.c7;have lf:=H5.r.frozen;obtain⟨WF,hWF⟩:=qE (set7 W5 w.heap.size (⟨13,⟨#[]⟩,false,⟨#[]⟩,0,0,(1+y)⟩:Nd):World);have hfin:=H5.fin;rw[<-hWF]at hfin;obtain⟨hB9,HR⟩:=hfin;obtain⟨p0,p1,p2,p3,p4,p5,p6⟩:=hB9.c7;have HRH:Hid (LefP base cb bv n w (.returned (Nd.v (⟨13,⟨#[]⟩,false,⟨#[]⟩,0,0,(1+y)⟩:Nd))) WF):=HR;exact zzQ6
 .obtain rfl:x=15:=by omega
  have c2_0:=H2.e.cell (j:=0) rfl;have z2_0:=H2.e.frozen 0;obtain⟨W3,hW3⟩:=qE (W2.setCell ⟨eb,0,none⟩ (.int .i64 1):World);have H3:Hid (NInv base cb bv n w eb w.heap.size (⟨1,⟨#[]⟩,false,⟨#[]⟩,0,0,0⟩:Nd) W3):=by rw[hW3];exact H2.set 0 _ _ rfl ⟨H2.sm.s,H2.sm.t,H2.sm.lo,H2.sm.up,H2.sm.n,(by show(0:Int)<=1/\(1:Int)<=100000;omega)⟩
  go_upto_region 49 with fail;rw[<-hW3];clear hW3;obtain⟨k0,k1,k2,k3,k4,k5,k6⟩:=H3.e.c7;obtain⟨l0,l1,l2,l3,l4,l5,l6⟩:=H3.r.c7;have lf:=H3.r.frozen;obtain⟨WF,hWF⟩:=qE (set7 W3 w.heap.size (⟨1,⟨#[]⟩,false,⟨#[]⟩,0,0,0⟩:Nd):World);have hfin:=H3.fin;rw[<-hWF]at hfin;obtain⟨hB9,HR⟩:=hfin;obtain⟨p0,p1,p2,p3,p4,p5,p6⟩:=hB9.c7;have HRH:Hid (LefP base cb bv n w (.returned (Nd.v (⟨1,⟨#[]⟩,false,⟨#[]⟩,0,0,0⟩:Nd))) WF):=HR;exact zzQ6
end Go.Proofs.YtehfleefkdojpaaGreatDoor
