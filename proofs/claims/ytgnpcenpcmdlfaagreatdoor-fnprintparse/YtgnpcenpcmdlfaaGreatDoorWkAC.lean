import Derived.Test.YtgnpcenpcmdlfaaGreatDoorWkAA
import Derived.Test.YtgnpcenpcmdlfaaGreatDoorWkAB
import Derived.Deep.RegionLaw
import Derived.Deep.AppendLies
import Derived.Maps.AppendAt
import Derived.Recover
import Derived.RecoverIn
import Derived.Stop.Asserts
import Derived.Deep.DeepCutAuto
import Derived.BigQuiet
import Derived.Deep.QuietTactic
namespace Go.Proofs.YtgnpcenpcmdlfaaGreatDoor
open Go.ChangeShapes Go.WideShapes Go.ChangeAt Go.RowKit Go.Deep
set_option linter.unusedVariables false
set_option linter.unusedSimpArgs false
set_option maxRecDepth 100000
abbrev byteV (b:UInt8):Value:=.iface 224 (.agg #[.int .u8 (b.toNat:Int)])
def Bet (a b:Nat):Nat→Prop:=fun k=>a≤k∧k<b
structure ValsAt (w:World) (R:Nat→Prop) (g:Nat) (vs:List Value):Prop where
 blk:R g
 lt:g<w.heap.size
 val:∀(i:Nat) v,vs[i]?=some v→w.cell? ⟨g,i,none⟩=some v
theorem ValsAt.chg {S:Nat→Prop} {w w':World} {R:Nat→Prop} {g:Nat} {vs:List Value} (h:ValsAt w R g vs) (hc:Chg S w w') (hS:∀k,S k→¬R k):ValsAt w' R g vs:=
 ⟨h.blk,Nat.lt_of_lt_of_le h.lt hc.size,fun i v hv=>by rw[hc.cell (p:=⟨g,i,none⟩) h.lt (fun q=>hS g q h.blk)];exact h.val i v hv⟩
def SeqIs (N:Pat→Value→Prop) (w:World) (lo:Nat→Prop) (ts:List Pat) (u:Value):Prop:=
 (ts= []∧u=.slice none 0 0)∨∃(g cp:Nat) (us:List Value),u=.slice (some ⟨g,0,none⟩) ts.length cp∧us.length=ts.length∧ValsAt w lo g us∧∀(i:Nat) x t,us[i]?=some x→ts[i]?=some t→N t x
def AltIs (N:Pat→Value→Prop) (w:World) (lo:Nat→Prop) (os:List (List Pat)) (u:Value):Prop:=
 ∃(g cp:Nat) (us:List Value),u=.slice (some ⟨g,0,none⟩) os.length cp∧us.length=os.length∧ValsAt w lo g us∧∀(i:Nat) x ts,us[i]?=some x→os[i]?=some ts→SeqIs N w lo ts x
def NodeIs:Nat→World→(Nat→Prop)→Pat→Value→Prop
 |0,_,_,_,_=>False
 |n+1,w,lo,.byte b,v=>v=byteV b
 |n+1,w,lo,.cls f,v=>v=clsV f
 |n+1,w,lo,.rep t o r,v=>∃u,v=.iface 214 (.agg #[u,.bool o,.bool r])∧NodeIs n w lo t u
 |n+1,w,lo,.alt os,v=>∃u,v=.iface 171 (.agg #[u])∧AltIs (NodeIs n w lo) w lo os u
theorem SeqIs.mono {N M:Pat→Value→Prop} {w w':World} {lo lo':Nat→Prop} (hN:∀t v,N t v→M t v) (hV:∀g vs,ValsAt w lo g vs→ValsAt w' lo' g vs) {ts:List Pat} {u:Value}:SeqIs N w lo ts u→SeqIs M w' lo' ts u
 | .inl h=>.inl h
 | .inr ⟨g,cp,us,h1,h2,h3,h4⟩=>.inr ⟨g,cp,us,h1,h2,hV _ _ h3,fun i x t hx ht=>hN _ _ (h4 i x t hx ht)⟩
theorem AltIs.mono {N M:Pat→Value→Prop} {w w':World} {lo lo':Nat→Prop} (hN:∀t v,N t v→M t v) (hV:∀g vs,ValsAt w lo g vs→ValsAt w' lo' g vs) {os:List (List Pat)} {u:Value}:AltIs N w lo os u→AltIs M w' lo' os u
 |⟨g,cp,us,h1,h2,h3,h4⟩=>⟨g,cp,us,h1,h2,hV _ _ h3,fun i x t hx ht=>(h4 i x t hx ht).mono hN hV⟩
theorem NodeIs.mono:∀{n m:Nat} {w w':World} {lo lo':Nat→Prop} (hV:∀g vs,ValsAt w lo g vs→ValsAt w' lo' g vs) {t:Pat} {v:Value},n≤m→NodeIs n w lo t v→NodeIs m w' lo' t v
 |0,_,_,_,_,_,_,_,_,_,h=>h.elim
 |n+1,0,_,_,_,_,_,_,_,hm,_=>by omega
 |n+1,m+1,w,w',lo,lo',hV,.byte b,v,_,h=>h
 |n+1,m+1,w,w',lo,lo',hV,.cls f,v,_,h=>h
 |n+1,m+1,w,w',lo,lo',hV,.rep t o r,v,hm,⟨u,h1,h2⟩=>⟨u,h1,NodeIs.mono hV (by omega) h2⟩
 |n+1,m+1,w,w',lo,lo',hV,.alt os,v,hm,⟨u,h1,h2⟩=>⟨u,h1,h2.mono (fun t v q=>NodeIs.mono hV (by omega) q) hV⟩
def NodeOk (w:World) (lo:Nat→Prop) (t:Pat) (v:Value):Prop:=∃n,NodeIs n w lo t v
def SeqAt (w:World) (lo:Nat→Prop) (ts:List Pat) (u:Value):Prop:=∃n,SeqIs (NodeIs n w lo) w lo ts u
def AltAt (w:World) (lo:Nat→Prop) (os:List (List Pat)) (u:Value):Prop:=∃n,AltIs (NodeIs n w lo) w lo os u
theorem vals_move {S:Nat→Prop} {w w':World} {lo lo':Nat→Prop} (hc:Chg S w w') (hS:∀k,S k→¬lo k) (hl:∀k,k<w.heap.size→lo k→lo' k):∀g vs,ValsAt w lo g vs→ValsAt w' lo' g vs:=fun g vs h=>by
 have h1:=h.chg hc hS
 exact⟨hl g h.lt h1.blk,h1.lt,h1.val⟩
theorem NodeOk.move {S:Nat→Prop} {w w':World} {lo lo':Nat→Prop} {t:Pat} {v:Value} (h:NodeOk w lo t v) (hc:Chg S w w') (hS:∀k,S k→¬lo k) (hl:∀k,k<w.heap.size→lo k→lo' k):NodeOk w' lo' t v:=by
 obtain⟨n,hn⟩:=h
 exact⟨n,hn.mono (vals_move hc hS hl) (Nat.le_refl _)⟩
theorem SeqAt.move {S:Nat→Prop} {w w':World} {lo lo':Nat→Prop} {ts:List Pat} {u:Value} (h:SeqAt w lo ts u) (hc:Chg S w w') (hS:∀k,S k→¬lo k) (hl:∀k,k<w.heap.size→lo k→lo' k):SeqAt w' lo' ts u:=by
 exact zzQ86
theorem AltAt.move {S:Nat→Prop} {w w':World} {lo lo':Nat→Prop} {os:List (List Pat)} {u:Value} (h:AltAt w lo os u) (hc:Chg S w w') (hS:∀k,S k→¬lo k) (hl:∀k,k<w.heap.size→lo k→lo' k):AltAt w' lo' os u:=by
 exact zzQ86
theorem nodeOk_byte (w:World) (lo:Nat→Prop) (b:UInt8):NodeOk w lo (.byte b) (byteV b):=⟨1,rfl⟩
theorem nodeOk_cls (w:World) (lo:Nat→Prop) (f:UInt8→Bool):NodeOk w lo (.cls f) (clsV f):=⟨1,rfl⟩
theorem nodeOk_rep {w:World} {lo:Nat→Prop} {t:Pat} {v:Value} (h:NodeOk w lo t v) (o r:Bool):NodeOk w lo (.rep t o r) (.iface 214 (.agg #[v,.bool o,.bool r])):=by
 obtain⟨n,hn⟩:=h
 exact⟨n+1,v,rfl,hn⟩
theorem nodeOk_alt {w:World} {lo:Nat→Prop} {os:List (List Pat)} {u:Value} (h:AltAt w lo os u):NodeOk w lo (.alt os) (.iface 171 (.agg #[u])):=by
 obtain⟨n,hn⟩:=h
 exact⟨n+1,u,rfl,hn⟩
theorem nodes_one {w:World} {lo:Nat→Prop}:∀{ts:List Pat} {us:List Value},us.length=ts.length→(∀(i:Nat) x t,us[i]?=some x→ts[i]?=some t→NodeOk w lo t x)→∃n,∀(i:Nat) x t,us[i]?=some x→ts[i]?=some t→NodeIs n w lo t x
 | [],[],_,_=>⟨0,fun i x t hx=>by simp at hx⟩
 |t::ts,u::us,hl,h=>by
  obtain⟨n,hn⟩:=nodes_one (ts:=ts) (us:=us) (by simpa using hl) (fun i x t hx ht=>h (i+1) x t (by simpa using hx) (by simpa using ht))
  obtain⟨m,hm⟩:=h 0 u t rfl rfl
  refine⟨max n m,fun i x t' hx ht=>?_⟩
  cases i with
  |zero=>simp at hx ht;subst hx ht;exact hm.mono (fun _ _ q=>q) (Nat.le_max_right _ _)
  |succ i=>exact(hn i x t' (by simpa using hx) (by simpa using ht)).mono (fun _ _ q=>q) (Nat.le_max_left _ _)
theorem seqs_one {w:World} {lo:Nat→Prop}:∀{os:List (List Pat)} {us:List Value},us.length=os.length→(∀(i:Nat) x ts,us[i]?=some x→os[i]?=some ts→SeqAt w lo ts x)→∃n,∀(i:Nat) x ts,us[i]?=some x→os[i]?=some ts→SeqIs (NodeIs n w lo) w lo ts x
 | [],[],_,_=>⟨0,fun i x t hx=>by simp at hx⟩
 |t::ts,u::us,hl,h=>by
  obtain⟨n,hn⟩:=seqs_one (os:=ts) (us:=us) (by simpa using hl) (fun i x t hx ht=>h (i+1) x t (by simpa using hx) (by simpa using ht))
  obtain⟨m,hm⟩:=h 0 u t rfl rfl
  refine⟨max n m,fun i x t' hx ht=>?_⟩
  cases i with
  |zero=>simp at hx ht;subst hx ht;exact hm.mono (fun _ _ q=>q.mono (fun _ _ q=>q) (Nat.le_max_right _ _)) (fun _ _ q=>q)
  |succ i=>exact(hn i x t' (by simpa using hx) (by simpa using ht)).mono (fun _ _ q=>q.mono (fun _ _ q=>q) (Nat.le_max_left _ _)) (fun _ _ q=>q)
theorem NodeOk.iface {w:World} {lo:Nat→Prop} {t:Pat} {v:Value} (h:NodeOk w lo t v):∃T c,v=.iface T (.agg c):=by
 obtain⟨n,hn⟩:=h
 cases n with
 |zero=>exact hn.elim
 |succ n=>
  cases t with
  |byte b=>exact⟨_,_,hn⟩
  |cls f=>exact⟨_,_,hn⟩
  |rep t o r=>obtain⟨u,h1,_⟩:=hn;exact⟨_,_,h1⟩
  |alt os=>obtain⟨u,h1,_⟩:=hn;exact⟨_,_,h1⟩
def OwnN (w:World) (base:Nat) (v:Value) (us:List Value):Prop:=w.ownsRow base 209 1 v us.length us
def OwnQ (w:World) (base g cp:Nat) (us:List Value):Prop:=w.ownsRow base 195 1 (.slice (some ⟨g,0,none⟩) us.length cp) us.length us
theorem OwnQ.lt {w:World} {base g cp:Nat} {us:List Value} (h:OwnQ w base g cp us):base≤g∧g<w.heap.size:=World.ownsRow.lt h g rfl
theorem OwnQ.vals {w:World} {base g cp:Nat} {us:List Value} {R:Nat→Prop} (h:OwnQ w base g cp us) (hR:R g):ValsAt w R g us:=by
 refine⟨hR,h.lt.2,fun i v hv=>?_⟩
 have hi:=(List.getElem?_eq_some_iff.1 hv).1
 rw[World.ownsRow.cellAt h i (by omega),hv]
theorem OwnN.seq {w:World} {base:Nat} {R:Nat→Prop} {v:Value} {us:List Value} {ts:List Pat} (h:OwnN w base v us) (hl:us.length=ts.length) (hN:∀(i:Nat) x t,us[i]?=some x→ts[i]?=some t→NodeOk w R t x) (hb:∀k,v.ownBlock=some k→R k):SeqAt w R ts v:=by
 obtain⟨n,hn⟩:=nodes_one hl hN
 refine⟨n,?_⟩
 have h':=h
 rcases h.2 with⟨rfl,h0⟩|⟨g,cap,cur,rfl,h1,h2,h3⟩
 ·left
  refine⟨List.length_eq_zero_iff.1 (by omega),rfl⟩
 ·right
  have hlt:=World.ownsRow.lt h' g rfl
  refine⟨g,cap,us,by rw[hl],hl,⟨hb g rfl,hlt.2,fun i v hv=>?_⟩,hn⟩
  have hi:=(List.getElem?_eq_some_iff.1 hv).1
  rw[World.ownsRow.cellAt h' i (by omega),hv]
theorem Tryz.infoNode:(Tryz.prog.info? 209).map (fun i=>(i.zero,i.size,i.bytes))=some (some .nilIface,1,16):=by kernel_rfl
theorem Tryz.infoSeq:(Tryz.prog.info? 195).map (fun i=>(i.zero,i.size,i.bytes))=some (some (.agg #[.slice none 0 0]),1,24):=by kernel_rfl
def NodePost (p:ByteArray) (base g i o:Nat) (w:World) (R:Nat→Pat→Prop) (e:Ending) (w':World):Prop:=
 Chg (fun k=>k=g) w w'∧((∃(k:Nat) (t:Pat) (v:Value),R k t∧e=.returned v∧NodeOk w' (Bet w.heap.size w'.heap.size) t v∧PrAt w' base g p k o)∨(∃(c:Int) (k:Nat),¬c=0∧(∀a,chkM (sb p) i o a=(c,k))∧e=Pf c k))
def AltPost (p:ByteArray) (base g i o:Nat) (w:World) (e:Ending) (w':World):Prop:=
 Chg (fun k=>k=g) w w'∧((∃(k:Nat) (os:List (List Pat)) (u:Value),AltOk (sb p) o i k os∧(∀c,(sb p)[k]?=some c→isEnd c∧¬c=124)∧e=.returned (.agg #[u])∧AltAt w' (Bet w.heap.size w'.heap.size) os u∧PrAt w' base g p k o)∨(∃(c:Int) (k:Nat),¬c=0∧chkM (sb p) i o false=(c,k)∧e=Pf c k))
def AltC (p:ByteArray) (m:Nat):Prop:=∀(base g i o:Nat) (w:World),p.size-i≤m→i≤p.size→o≤20→PrAt w base g p i o→Calls Tryz.prog 142 #[.pointer (some ⟨g,0,none⟩)] w (AltPost p base g i o w)
def AtomC (p:ByteArray) (m:Nat):Prop:=∀(base g i o:Nat) (w:World),p.size-i≤m→i<p.size→o≤20→(∀c,(sb p)[i]?=some c→¬isEnd c)→PrAt w base g p i o→Calls Tryz.prog 165 #[.pointer (some ⟨g,0,none⟩)] w (NodePost p base g i o w (AtomOk (sb p) o i))
theorem PrAt.open {w:World} {base g i o:Nat} {p:ByteArray} (h:PrAt w base g p i o) (o':Nat):PrAt (w.setCell ⟨g,2,none⟩ (.int .i64 (o':Int))) base g p i o':=BoxAt.set h 2 (.int .i64 (o':Int))
theorem AltAt.slice {w:World} {lo:Nat→Prop} {os:List (List Pat)} {u:Value} (h:AltAt w lo os u):∃g n cp,u=.slice (some ⟨g,0,none⟩) n cp:=by
 obtain⟨n,g,cp,us,h1,_⟩:=h
 exact⟨g,_,cp,h1⟩
set_option maxHeartbeats 4000000 in
theorem group_of {p:ByteArray} {m:Nat} (H:AltC p m) (hp:p.size≤200) (base g q o:Nat) (w:World) (hm:p.size-(q+1)≤m) (hq:(sb p)[q]?=some 40) (ho:o≤20) (h:PrAt w base g p (q+1) o):
  Calls Tryz.prog 168 #[.pointer (some ⟨g,0,none⟩)] w (NodePost p base g q o w (AtomOk (sb p) o q)):=by
 have HP:Hid (PrAt w base g p (q+1) o∧(sb p)[q]?=some 40):=⟨h,hq⟩
 have hgl:=h.lt.2
 have hqp:q+1≤p.size:=by have:=lt_of_at hq;rw[sb_len]at this;omega
 have c1:=h.cell (j:=1) rfl
 have c2:=h.cell (j:=2) rfl
 have f2:=h.frozen 2
 clear h hq
 by_cases ho20:o=20
 ·subst ho20
  go_enter Tryz.func168,Tryz.ntmps168
  go_wp2_with fail
  exact⟨rfl,Chg.refl _ _,.inr ⟨3,q,by decide,fun a=>by rw[chk_open HP.2,if_pos rfl],by first|rfl|simp⟩⟩
 have z20:¬(o:Int)=20:=by omega
 have HW:Hid (PrAt (w.setCell ⟨g,2,none⟩ (.int .i64 ((o+1:Nat):Int))) base g p (q+1) (o+1)∧Chg (fun k=>k=g) w (w.setCell ⟨g,2,none⟩ (.int .i64 ((o+1:Nat):Int)))):=⟨PrAt.open HP.1 (o+1),Chg.of_set w g 2 _ rfl⟩
 obtain⟨W,hW⟩:=qE (w.setCell ⟨g,2,none⟩ (.int .i64 ((o+1:Nat):Int)):World)
 have hzW:W.heap.size=w.heap.size:=by rw[hW];simp[World.setCell]
 rw[←hW]at HW
 have hW2:W=w.setCell ⟨g,2,none⟩ (.int .i64 ((o:Int)+1)):=hW
 have HZ:Hid (W.heap.size=w.heap.size):=hzW
 clear hW hzW
 go_enter Tryz.func168,Tryz.ntmps168
 go_upto_region 4 with fail
 rw[←hW2]
 clear hW2 c1 c2 f2
 go_wp2_with fail
 refine(H base g (q+1) (o+1) W hm hqp (by omega) HW.1).mono ?_
 rintro e w2 ⟨hC2,(⟨k,os,u,hA,hN,rfl,hU,hP2⟩|⟨c,k,hc0,hk,rfl⟩)⟩
 case inr=>
  refine⟨rfl,HW.2.trans hC2,.inr ⟨c,k,hc0,fun a=>?_,rfl⟩⟩
  rw[chk_open HP.2,if_neg ho20,hk]
 obtain⟨gu,nu,cu,rfl⟩:=hU.slice
 have hkp:k≤p.size:=by have:=hA.le;rw[sb_len]at this;exact this
 have HA:Hid (AltOk (sb p) (o+1) (q+1) k os∧(∀c,(sb p)[k]?=some c→isEnd c∧¬c=124)):=⟨hA,hN⟩
 have HW2:Hid (AltAt w2 (Bet w.heap.size w2.heap.size) os (.slice (some ⟨gu,0,none⟩) nu cu)∧PrAt w2 base g p k (o+1)∧Chg (fun k=>k=g) w w2):=⟨by rw[←HZ.out];exact hU,hP2,HW.2.trans hC2⟩
 clear hC2 hA hN hU hP2 HW
 obtain⟨W3,hW3⟩:=qE (w2.alloc (Obj.cells #[.slice (some ⟨gu,0,none⟩) nu cu] 171):World)
 have hs2:=HW2.2.2.size
 have HW3:Hid (AltAt W3 (Bet w.heap.size w2.heap.size) os (.slice (some ⟨gu,0,none⟩) nu cu)∧PrAt W3 base g p k (o+1)∧Chg (fun k=>k=g) w W3∧BoxAt W3 w.heap.size 171 1 w2.heap.size [.slice (some ⟨gu,0,none⟩) nu cu]):=by
  have hb:Below w2.heap.size w2 W3:=by rw[hW3];exact qB
  refine⟨HW2.1.move (S:=fun _=>False) (Chg.of_below hb) (fun k q=>q.elim) (fun k _ q=>q),BoxAt.below HW2.2.1 hb,HW2.2.2.trans (Chg.of_below hb),?_⟩
  rw[hW3];exact boxAt_new w2 _ hs2 rfl
 clear HW2
 go_upto_region 5 with fail
 rw[←hW3]
 obtain⟨IB,hIB⟩:=qE w2.heap.size
 rw[←hIB]at HW3
 rw[←hIB]
 have hib:w.heap.size≤IB:=by omega
 clear hW3 hIB hs2
 go_wp2_with fail
 refine(pskip_core 41 HW3.2.1 hp).mono ?_
 rintro e w4 ⟨hC4,(⟨hx,rfl,hP4⟩|⟨hx,rfl,hP4⟩)⟩
 case inr=>
  have HF:Hid (PrAt w4 base g p k (o+1)∧Chg (fun k=>k=g) w w4∧¬(sb p)[k]?=some 41):=⟨hP4,HW3.2.2.1.trans hC4,hx⟩
  clear hC4 hx hP4
  go_wp2_with fail
  refine(pdem_no HF.1).mono ?_
  rintro e w5 ⟨rfl,rfl⟩
  refine⟨rfl,HF.2.1,.inr ⟨2,k,by decide,fun a=>?_,rfl⟩⟩
  rw[chk_open HP.2,if_neg ho20,HA.1.chk]
  by_cases hk:k<(sb p).length
  ·obtain⟨c,hc⟩:∃c,(sb p)[k]?=some c:=⟨_,List.getElem?_eq_getElem hk⟩
   obtain⟨h1,h2⟩:=HA.2 c hc
   rcases h1 with h1|h1|h1|h1
   ·rw[chk_op hc h1];rfl
   ·exact absurd h1 h2
   ·subst h1;exact absurd hc HF.2.2
   ·subst h1;rw[chk_rb hc]
  ·rw[chk_end hk,if_pos (by omega)]
   have:=HA.1.le
   rw[show k=(sb p).length by omega]
 have HF:Hid (AltAt w4 (Bet w.heap.size IB) os (.slice (some ⟨gu,0,none⟩) nu cu)∧PrAt w4 base g p (k+1) (o+1)∧Chg (fun k=>k=g) w w4∧BoxAt w4 w.heap.size 171 1 IB [.slice (some ⟨gu,0,none⟩) nu cu]∧(sb p)[k]?=some 41):=
  ⟨HW3.1.move hC4 (fun k q=>by subst q;exact fun z=>by have:=z.1;omega) (fun k _ q=>q),hP4,HW3.2.2.1.trans hC4,BoxAt.chg HW3.2.2.2 hC4 (by omega),hx⟩
 clear hC4 hx hP4 HW3
 go_wp2_with fail
 refine(pdem_yes _ w4).mono ?_
 rintro e w5 ⟨rfl,hw5⟩
 rw[hw5]
 clear hw5
 have d2:=HF.2.1.cell (j:=2) rfl
 have g2:=HF.2.1.frozen 2
 have HZ4:Hid (AltAt (w4.setCell ⟨g,2,none⟩ (.int .i64 (o:Int))) (Bet w.heap.size IB) os (.slice (some ⟨gu,0,none⟩) nu cu)∧PrAt (w4.setCell ⟨g,2,none⟩ (.int .i64 (o:Int))) base g p (k+1) o∧Chg (fun k=>k=g) w (w4.setCell ⟨g,2,none⟩ (.int .i64 (o:Int)))∧BoxAt (w4.setCell ⟨g,2,none⟩ (.int .i64 (o:Int))) w.heap.size 171 1 IB [.slice (some ⟨gu,0,none⟩) nu cu]):=by
  have hc:=Chg.of_set w4 g 2 (.int .i64 (o:Int)) (S:=fun k=>k=g) rfl
  exact⟨HF.1.move hc (fun k q=>by subst q;exact fun z=>by have:=z.1;omega) (fun k _ q=>q),PrAt.open HF.2.1 o,HF.2.2.1.trans hc,BoxAt.chg HF.2.2.2.1 hc (by omega)⟩
 have HC:Hid (AtomOk (sb p) o q (k+1) (.alt os)):=AtomOk.group HP.2 ho20 HA.1 HF.2.2.2.2
 obtain⟨W6,hW6⟩:=qE (w4.setCell ⟨g,2,none⟩ (.int .i64 (o:Int)):World)
 rw[←hW6]at HZ4
 clear HF HA
 go_upto_region 7 with fail
 rw[←hW6]
 clear hW6 d2 g2
 have b0:=HZ4.2.2.2.cell (j:=0) rfl
 go_wp2_with fail
 go_ret
 exact⟨HZ4.2.2.1,.inl ⟨k+1,.alt os,_,HC.out,rfl,nodeOk_alt (HZ4.1.move (S:=fun _=>False) (Chg.refl _ _) (fun k q=>q.elim) (fun k hk q=>⟨q.1,hk⟩)),HZ4.2.1⟩⟩
theorem not_eq_u8 {x c:UInt8} (h:¬x=c):¬(x.toNat:Int)=(c.toNat:Int):=fun q=>h (UInt8.toNat_inj.1 (by omega))
set_option maxHeartbeats 4000000 in
theorem atom_of {p:ByteArray} {m:Nat} (H:AltC p m) (hp:p.size≤200):AtomC p (m+1):=by
 intro base g i o w hm hi ho he h
 obtain⟨x,hx⟩:∃x,(sb p)[i]?=some x:=⟨_,List.getElem?_eq_getElem (by rw[sb_len];exact hi)⟩
 have HX:Hid ((sb p)[i]?=some x∧¬isEnd x):=⟨hx,he x hx⟩
 have HP:Hid (PrAt w base g p i o):=h
 have hgl:=h.lt.2
 clear h he hx
 go_enter Tryz.func165,Tryz.ntmps165
 go_wp2_with fail
 refine(ptake_yes HP.out hp HX.1).mono ?_
 rintro e w1 ⟨rfl,hP1,hC1⟩
 have HW1:Hid (PrAt w1 base g p (i+1) o∧Chg (fun k=>k=g) w w1):=⟨hP1,hC1⟩
 have hs1:=hC1.size
 clear hP1 hC1 HP
 by_cases h46:x=46
 ·subst h46
  go_upto_region 5 with fail
  apply wp_region_list
  refine wpList_build_cells rfl _ _ rfl (setA (fun _=>false)) (by simp;exact built_set) ?_
  simp only[Act.put,Act.eval,List.setIfInBounds_toArray,List.set_cons_succ,List.set_cons_zero]
  refine wpList_call_of rfl 167 #[.agg (setA (fun _=>false))] (by simp[execOp,go_sem,Act.eval,Tryz.func167]) ?_
  refine(opposite_core (fun _=>false) w1).mono ?_
  rintro e w2 ⟨rfl,hb2⟩
  simp only[Act.put,Act.eval,List.setIfInBounds_toArray,List.set_cons_succ,List.set_cons_zero]
  refine wpList_build_cells rfl _ _ rfl (setA (fun _=>true)) (by simp[Act.eval];exact built_cls _ (setA_size _)) ?_
  simp only[Act.put,Act.eval,List.setIfInBounds_toArray,List.set_cons_succ,List.set_cons_zero]
  go_wp2_with fail
  go_ret
  exact⟨HW1.2.trans (Chg.of_below hb2),.inl ⟨i+1,_,_,AtomOk.dot HX.1,rfl,nodeOk_cls _ _ _,BoxAt.below HW1.1 hb2⟩⟩
 have z46:¬(x.toNat:Int)=46:=not_eq_u8 (c:=46) h46
 by_cases h92:x=92
 ·subst h92
  go_wp2_with fail
  refine(ptake_core HW1.1 hp (by omega)).mono ?_
  rintro e w2 ⟨hC2,(⟨y,hy,rfl,hP2⟩|⟨hy,rfl⟩)⟩
  case inr=>
   refine⟨rfl,HW1.2.trans hC2,.inr ⟨2,i+1,by decide,fun a=>?_,rfl⟩⟩
   have h1:=lt_of_at HX.1
   have h2:¬i+1<(sb p).length:=fun q=>by rw[List.getElem?_eq_getElem q]at hy;cases hy
   rw[chk_esc HX.1,if_pos (by omega)]
   rw[show i+1=(sb p).length by omega]
  have HF:Hid (PrAt w2 base g p (i+1+1) o∧Chg (fun k=>k=g) w w2∧(sb p)[i+1]?=some y):=⟨hP2,HW1.2.trans hC2,hy⟩
  clear hC2 hy hP2
  go_wp2_with fail
  go_ret
  exact⟨HF.2.1,.inl ⟨i+1+1,_,_,AtomOk.esc HX.1 HF.2.2,rfl,nodeOk_byte _ _ _,HF.1⟩⟩
 have z92:¬(x.toNat:Int)=92:=not_eq_u8 (c:=92) h92
 by_cases h40:x=40
 ·subst h40
  go_wp2_with fail
  refine(group_of H hp base g i o w1 (by omega) HX.1 ho HW1.1).mono ?_
  rintro e w2 ⟨hC2,(⟨k,t,v,hR,rfl,hN,hP2⟩|⟨c,k,hc0,hk,rfl⟩)⟩
  case inr=>exact⟨rfl,HW1.2.trans hC2,.inr ⟨c,k,hc0,hk,rfl⟩⟩
  have HF:Hid (AtomOk (sb p) o i k t∧NodeOk w2 (Bet w.heap.size w2.heap.size) t v∧PrAt w2 base g p k o∧Chg (fun k=>k=g) w w2):=⟨hR,hN.move (S:=fun _=>False) (Chg.refl _ _) (fun k q=>q.elim) (fun k hk q=>⟨by have:=q.1;omega,hk⟩),hP2,HW1.2.trans hC2⟩
  obtain⟨T,c,rfl⟩:=hN.iface
  clear hC2 hR hN hP2
  go_wp2_with fail
  go_ret
  exact⟨HF.2.2.2,.inl ⟨k,t,_,HF.1,rfl,HF.2.1,HF.2.2.1⟩⟩
 have z40:¬(x.toNat:Int)=40:=not_eq_u8 (c:=40) h40
 by_cases h91:x=91
 ·subst h91
  go_wp2_with fail
  refine(class_core HW1.1 hp (by omega)).mono ?_
  rintro e w2 ⟨hC2,(⟨f,k,hk,rfl,hP2⟩|⟨c,k,hk,rfl⟩)⟩
  case inr=>exact⟨rfl,HW1.2.trans hC2,.inr ⟨c,k,classM_err hk,fun a=>by rw[chk_class HX.1,hk],rfl⟩⟩
  have HF:Hid (PrAt w2 base g p k o∧Chg (fun k=>k=g) w w2∧classM (sb p) (i+1)=.inl (f,k)):=⟨hP2,HW1.2.trans hC2,hk⟩
  clear hC2 hk hP2
  go_wp2_with fail
  go_ret
  exact⟨HF.2.1,.inl ⟨k,_,_,AtomOk.class HX.1 HF.2.2,rfl,nodeOk_cls _ _ _,HF.1⟩⟩
 have z91:¬(x.toNat:Int)=91:=not_eq_u8 (c:=91) h91
 have HS:Hid (¬special x):=fun q=>by
  rcases q with q|q|q|q|q
  ·exact HX.2 q
  ·exact h40 q
  ·exact h91 q
  ·exact h46 q
  ·exact h92 q
 go_wp2_with fail
 go_ret
 exact⟨HW1.2,.inl ⟨i+1,_,_,AtomOk.plain HX.1 HS.out,rfl,nodeOk_byte _ _ _,HW1.1⟩⟩
theorem inB_some {p:List UInt8} {i:Nat} {l:List UInt8} (h:inB p i l=true):∃c,p[i]?=some c∧c∈l:=by
 unfold inB at h
 split at h
 ·next c hc=>exact⟨c,hc,by simpa using h⟩
 ·cases h
theorem inB_none {p:List UInt8} {i:Nat} {l:List UInt8} (h:inB p i l=false):∀c,p[i]?=some c→¬c∈l:=by
 intro c hc
 unfold inB at h
 rw[hc]at h
 simpa using h
theorem op_mem {c:UInt8}:c∈([42,43,63]:List UInt8)↔isOp c:=by simp[isOp]
structure RepJ (p:ByteArray) (base g i o j:Nat) (a:Pat) (v:Value) (RB:Nat) (w:World) (k:Nat) (op rp:Bool) (wr:World):Prop where
 ops:OpsOk (sb p) o i j k a op rp
 rd:PrAt wr base g p k o
 box:BoxAt wr w.heap.size 214 3 RB [v,.bool op,.bool rp]
 node:NodeOk wr (Bet w.heap.size RB) a v
 chg:Chg (fun k=>k=g) w wr
theorem RepJ.move {p:ByteArray} {base g i o j:Nat} {a:Pat} {v:Value} {RB:Nat} {w:World} {k:Nat} {op rp:Bool} {wr w':World} (h:RepJ p base g i o j a v RB w k op rp wr) (hb:Below wr.heap.size wr w'):RepJ p base g i o j a v RB w k op rp w':=
 ⟨h.ops,BoxAt.below h.rd hb,h.box.below hb,h.node.move (S:=fun _=>False) (Chg.of_below hb) (fun k q=>q.elim) (fun k _ q=>q),h.chg.trans (Chg.of_below hb)⟩
theorem RepJ.step {p:ByteArray} {base g i o j:Nat} {a:Pat} {v:Value} {RB:Nat} {w:World} {k:Nat} {op rp:Bool} {wr w':World} {c:UInt8} (h:RepJ p base g i o j a v RB w k op rp wr) (hg:g<w.heap.size) (hc:(sb p)[k]?=some c) (ho:isOp c) (hP:PrAt w' base g p (k+1) o) (hC:Chg (fun k=>k=g) wr w'):
  RepJ p base g i o j a v RB w (k+1) (op || c != 43) (rp || c != 63) ((w'.setCell ⟨RB,1,none⟩ (.bool (op || c != 43))).setCell ⟨RB,2,none⟩ (.bool (rp || c != 63))):=by
 have hr:=h.box.lt.1
 have c1:=Chg.of_set w' RB 1 (.bool (op || c != 43)) (S:=fun k=>k=RB) rfl
 have c2:=Chg.of_set (w'.setCell ⟨RB,1,none⟩ (.bool (op || c != 43))) RB 2 (.bool (rp || c != 63)) (S:=fun k=>k=RB) rfl
 have c3:=c1.trans c2
 refine⟨h.ops.more hc ho,BoxAt.chg hP c3 (by omega),((h.box.chg hC (by omega)).set 1 _).set 2 _,?_,((h.chg.trans hC).absorb c3 (fun j q=>.inr (by omega)))⟩
 exact(h.node.move hC (fun k q=>by subst q;exact fun z=>by have:=z.1;omega) (fun k _ q=>q)).move c3 (fun k q=>by subst q;exact fun z=>by have:=z.2;omega) (fun k _ q=>q)
def RepC (p:ByteArray) (m:Nat):Prop:=∀(base g i o:Nat) (w:World),p.size-i≤m→i<p.size→o≤20→(∀c,(sb p)[i]?=some c→¬isEnd c)→PrAt w base g p i o→Calls Tryz.prog 161 #[.pointer (some ⟨g,0,none⟩)] w (NodePost p base g i o w (RepOk (sb p) o i))
set_option maxHeartbeats 8000000 in
theorem rep_of {p:ByteArray} {m:Nat} (H:AtomC p m) (hp:p.size≤200):RepC p m:=by
 intro base g i o w hm hi ho he h
 have HP:Hid (PrAt w base g p i o):=h
 have hgl:=h.lt.2
 clear h
 go_enter Tryz.func161,Tryz.ntmps161
 go_wp2_with fail
 refine(H base g i o w hm hi ho he HP.out).mono ?_
 rintro e w1 ⟨hC1,(⟨j,a,v,hA,rfl,hN,hP1⟩|⟨c,k,hc0,hk,rfl⟩)⟩
 case inr=>exact⟨rfl,hC1,.inr ⟨c,k,hc0,hk,rfl⟩⟩
 obtain⟨T,cs,rfl⟩:=hN.iface
 have HW1:Hid (AtomOk (sb p) o i j a∧NodeOk w1 (Bet w.heap.size w1.heap.size) a (.iface T (.agg cs))∧PrAt w1 base g p j o∧Chg (fun k=>k=g) w w1):=⟨hA,hN,hP1,hC1⟩
 clear hC1 hA hN hP1 HP
 go_wp2_with fail
 refine(pnextIn_core ⟨#[42,43,63]⟩ HW1.2.2.1 hp).mono ?_
 rintro e w2 ⟨rfl,hb2⟩
 have HW2:Hid (NodeOk w2 (Bet w.heap.size w2.heap.size) a (.iface T (.agg cs))∧PrAt w2 base g p j o∧Chg (fun k=>k=g) w w2):=
  ⟨HW1.2.1.move (S:=fun _=>False) (Chg.of_below hb2) (fun k q=>q.elim) (fun k hk q=>⟨q.1,by have:=hb2.size;omega⟩),BoxAt.below HW1.2.2.1 hb2,HW1.2.2.2.trans (Chg.of_below hb2)⟩
 have HA:Hid (AtomOk (sb p) o i j a):=HW1.1
 obtain⟨q,hq⟩:=qE (inB (sb p) j (sb ⟨#[42,43,63]⟩))
 have HQ:Hid (inB (sb p) j [42,43,63]=q):=hq.symm
 rw[←hq]
 clear hb2 hq HW1
 cases q
 ·have HR:Hid (RepOk (sb p) o i j a):=by
   have:=(OpsOk.zero HA.out).rep (fun c hc hop=>inB_none HQ.out c hc (op_mem.2 hop))
   rw[if_pos rfl]at this
   exact this
  go_wp2_with fail
  go_ret
  exact⟨HW2.2.2,.inl ⟨j,a,_,HR.out,rfl,HW2.1,HW2.2.1⟩⟩
 have hjp:j≤p.size:=by have:=HA.le;rw[sb_len]at this;exact this
 obtain⟨W3,hW3⟩:=qE (w2.alloc (Obj.cells #[.iface T (.agg cs),.bool false,.bool false] 214):World)
 have hs2:=HW2.2.2.size
 have HW3:Hid (RepJ p base g i o j a (.iface T (.agg cs)) w2.heap.size w j false false W3):=by
  have hb:Below w2.heap.size w2 W3:=by rw[hW3];exact qB
  refine⟨OpsOk.zero HA.out,BoxAt.below HW2.2.1 hb,?_,HW2.1.move (S:=fun _=>False) (Chg.of_below hb) (fun k q=>q.elim) (fun k _ q=>q),HW2.2.2.trans (Chg.of_below hb)⟩
  rw[hW3];exact boxAt_new w2 _ hs2 rfl
 have HF0:Hid (∃c,(sb p)[j]?=some c∧isOp c):=by
  obtain⟨c,h1,h2⟩:=inB_some HQ.out
  exact⟨c,h1,op_mem.1 h2⟩
 clear HW2
 go_wp2_with fail
 rw[←hW3]
 obtain⟨RB,hRB⟩:=qE w2.heap.size
 rw[←hRB]at HW3
 rw[←hRB]
 have hrb:w.heap.size≤RB:=by omega
 clear hW3 hRB hs2
 go_loopw[5] (fun sg wr=>∃(k:Nat) (op rp:Bool),j≤k∧k≤p.size∧(k=j→∃c,(sb p)[j]?=some c∧isOp c)∧RepJ p base g i o j a (.iface T (.agg cs)) RB w k op rp wr) (fun _ wr=>p.size-atOf wr g)
 case atStart=>exact⟨j,false,false,Nat.le_refl _,hjp,fun _=>HF0.out,HW3.out⟩
 case round=>
  obtain⟨k,op,rp,hjk,hkp,hne,hJ⟩:=hrel
  have HJ:Hid (RepJ p base g i o j a (.iface T (.agg cs)) RB w k op rp wr∧(k=j→∃c,(sb p)[j]?=some c∧isOp c)∧atOf wr g=k):=⟨hJ,hne,atOf_pr hJ.rd⟩
  clear hJ hne HW3
  go_wp2_with fail
  refine(pnextIn_core ⟨#[42,43,63]⟩ HJ.1.rd hp).mono ?_
  rintro e w5 ⟨rfl,hb5⟩
  have HJ5:Hid (RepJ p base g i o j a (.iface T (.agg cs)) RB w k op rp w5):=HJ.1.move hb5
  obtain⟨q,hq⟩:=qE (inB (sb p) k (sb ⟨#[42,43,63]⟩))
  have HQ5:Hid (inB (sb p) k [42,43,63]=q):=hq.symm
  rw[←hq]
  clear hb5 hq
  cases q
  ·have HR:Hid (RepOk (sb p) o i k (.rep a op rp)):=by
    have h1:=HJ5.ops.rep (fun c hc hop=>inB_none HQ5.out c hc (op_mem.2 hop))
    rw[if_neg (fun q=>by
     obtain⟨c,hc,hop⟩:=HJ.2.1 q.symm
     rw[q]at hc
     exact inB_none HQ5.out c hc (op_mem.2 hop))]at h1
    exact h1
   have b0:=HJ5.box.cell (j:=0) rfl
   have b1:=HJ5.box.cell (j:=1) rfl
   have b2:=HJ5.box.cell (j:=2) rfl
   go_wp2_with fail
   go_ret
   exact⟨HJ5.chg,.inl ⟨k,_,_,HR.out,rfl,nodeOk_rep (HJ5.node.move (S:=fun _=>False) (Chg.refl _ _) (fun k q=>q.elim) (fun k hk q=>⟨q.1,hk⟩)) op rp,HJ5.rd⟩⟩
  ·obtain⟨c,hc,hcm⟩:=inB_some HQ5.out
   have HC:Hid ((sb p)[k]?=some c∧isOp c):=⟨hc,op_mem.1 hcm⟩
   have hk1:k+1≤p.size:=by have:=lt_of_at hc;rw[sb_len]at this;omega
   clear hc hcm
   go_wp2_with fail
   refine(ptake_yes HJ5.rd hp HC.1).mono ?_
   rintro e w6 ⟨rfl,hP6,hC6⟩
   have HJ6:=HJ5.step hgl HC.1 HC.2 hP6 hC6
   have hbx:=HJ5.box.chg hC6 (show¬RB=g by omega)
   have b1:=hbx.cell (j:=1) rfl
   have b2:=hbx.cell (j:=2) rfl
   have g1:=hbx.frozen 1
   have g2:=hbx.frozen 2
   have HJN:Hid (RepJ p base g i o j a (.iface T (.agg cs)) RB w (k+1) (op || c != 43) (rp || c != 63) ((w6.setCell ⟨RB,1,none⟩ (.bool (op || c != 43))).setCell ⟨RB,2,none⟩ (.bool (rp || c != 63)))):=HJ6
   have HAt:Hid (atOf wr g=k):=HJ.2.2
   clear HJ6 hbx hP6 hC6 HJ5 HJ
   rcases HC.2 with rfl|rfl|rfl<;>cases op<;>cases rp
   all_goals go_wp2_with fail
   all_goals go_roundw
   all_goals first
    |exact⟨k+1,_,_,by omega,hk1,fun q=>by omega,HJN.out⟩
    |exact Nat.lt_of_le_of_lt (Nat.le_of_eq (congrArg (p.size- ·) (atOf_pr HJN.rd))) (by rw[HAt.out];omega)
def SeqPost (p:ByteArray) (base g i o:Nat) (w:World) (e:Ending) (w':World):Prop:=
 Chg (fun k=>k=g) w w'∧((∃(k:Nat) (ts:List Pat) (u:Value),SeqOk (sb p) o i k ts∧(∀c,(sb p)[k]?=some c→isEnd c)∧e=.returned (.agg #[u])∧SeqAt w' (Bet w.heap.size w'.heap.size) ts u∧PrAt w' base g p k o)∨(∃(c:Int) (k:Nat),¬c=0∧chkM (sb p) i o false=(c,k)∧e=Pf c k))
def SeqC (p:ByteArray) (m:Nat):Prop:=∀(base g i o:Nat) (w:World),p.size-i≤m→i≤p.size→o≤20→PrAt w base g p i o→Calls Tryz.prog 152 #[.pointer (some ⟨g,0,none⟩)] w (SeqPost p base g i o w)
def NR (lo:Nat) (v:Value):Nat→Prop:=fun k=>lo≤k∧¬v.ownBlock=some k
structure SeqJ (p:ByteArray) (base g i o:Nat) (w:World) (k:Nat) (ts:List Pat) (us:List Value) (v:Value) (wr:World):Prop where
 ok:SeqOk (sb p) o i k ts
 rd:PrAt wr base g p k o
 res:BoxAt wr w.heap.size 195 1 w.heap.size [.slice none 0 0]
 box:BoxAt wr w.heap.size 195 1 (w.heap.size+1) [v]
 row:OwnN wr (w.heap.size+2) v us
 len:us.length=ts.length
 nodes:∀(i:Nat) x t,us[i]?=some x→ts[i]?=some t→NodeOk wr (NR (w.heap.size+2) v) t x
 chg:Chg (fun k=>k=g) w wr
 glt:g<w.heap.size
theorem OwnN.chg {S:Nat→Prop} {w w':World} {base:Nat} {v:Value} {us:List Value} (h:OwnN w base v us) (hc:Chg S w w') (hn:∀k,v.ownBlock=some k→¬S k):OwnN w' base v us:=own_chg h hc hn
theorem OwnN.slice {w:World} {base:Nat} {v:Value} {us:List Value} (h:OwnN w base v us):∃a cp,v=.slice a us.length cp:=by
 rcases h.2 with⟨rfl,h0⟩|⟨g,cap,cur,rfl,_⟩
 ·exact⟨none,0,by rw[h0]⟩
 ·exact⟨_,_,rfl⟩
variable {p:ByteArray} {base g i o:Nat} {w:World} {k:Nat} {ts:List Pat} {us:List Value} {v:Value} {wr:World}
theorem SeqJ.move {w':World} (h:SeqJ p base g i o w k ts us v wr) (hb:Below wr.heap.size wr w'):SeqJ p base g i o w k ts us v w':=
 ⟨h.ok,BoxAt.below h.rd hb,h.res.below hb,h.box.below hb,h.row.chg (S:=fun _=>False) (Chg.of_below hb) (fun _ _ q=>q),h.len,fun i x t hx ht=>(h.nodes i x t hx ht).move (S:=fun _=>False) (Chg.of_below hb) (fun k q=>q.elim) (fun k _ q=>q),h.chg.trans (Chg.of_below hb),h.glt⟩
structure SeqK (p:ByteArray) (base g i o:Nat) (w:World) (k:Nat) (ts:List Pat) (us:List Value) (v:Value) (t:Pat) (x:Value) (wr:World):Prop where
 ok:SeqOk (sb p) o i k (ts++ [t])
 rd:PrAt wr base g p k o
 res:BoxAt wr w.heap.size 195 1 w.heap.size [.slice none 0 0]
 box:BoxAt wr w.heap.size 195 1 (w.heap.size+1) [v]
 row:OwnN wr (w.heap.size+2) v us
 len:us.length=ts.length
 nodes:∀(i:Nat) y s,(us++ [x])[i]?=some y→(ts++ [t])[i]?=some s→NodeOk wr (NR (w.heap.size+2) v) s y
 chg:Chg (fun k=>k=g) w wr
 glt:g<w.heap.size
theorem SeqK.move {w':World} {t:Pat} {x:Value} (h:SeqK p base g i o w k ts us v t x wr) (hb:Below wr.heap.size wr w'):SeqK p base g i o w k ts us v t x w':=
 ⟨h.ok,BoxAt.below h.rd hb,h.res.below hb,h.box.below hb,h.row.chg (S:=fun _=>False) (Chg.of_below hb) (fun _ _ q=>q),h.len,fun i x t hx ht=>(h.nodes i x t hx ht).move (S:=fun _=>False) (Chg.of_below hb) (fun k q=>q.elim) (fun k _ q=>q),h.chg.trans (Chg.of_below hb),h.glt⟩
theorem snoc_at {α:Type} {l:List α} {a b:α} {i:Nat} (h:(l++ [a])[i]?=some b):l[i]?=some b∨(i=l.length∧b=a):=by
 by_cases hi:i<l.length
 ·rw[List.getElem?_append_left hi]at h;exact .inl h
 ·rw[List.getElem?_append_right (by omega)]at h
  have h2:=(List.getElem?_eq_some_iff.1 h).1
  simp at h2
  have:i-l.length=0:=by omega
  rw[this]at h
  simp at h
  exact .inr ⟨by omega,h.symm⟩
theorem SeqJ.rep {w6:World} {k6:Nat} {t:Pat} {x:Value} (h:SeqJ p base g i o w k ts us v wr) (hC:Chg (fun k=>k=g) wr w6) (hR:RepOk (sb p) o k k6 t) (hN:NodeOk w6 (Bet wr.heap.size w6.heap.size) t x) (hP:PrAt w6 base g p k6 o):SeqK p base g i o w k6 ts us v t x w6:=by
 have hg:=h.glt
 have hz:=h.chg.size
 have hb1:=h.box.lt.2
 have hv:∀j,v.ownBlock=some j→w.heap.size+2≤j∧j<wr.heap.size:=fun j hj=>World.ownsRow.lt h.row j hj
 refine⟨h.ok.more hR,hP,h.res.chg hC (by omega),h.box.chg hC (by omega),h.row.chg hC (fun j hj q=>by have:=(hv j hj).1;omega),h.len,?_,h.chg.trans hC,hg⟩
 intro j y s hy hs
 rcases snoc_at hy with hy|⟨hj,rfl⟩
 ·rcases snoc_at hs with hs|⟨hj,rfl⟩
  ·exact(h.nodes j y s hy hs).move hC (fun q hq=>by subst hq;exact fun z=>by have:=z.1;omega) (fun q _ z=>z)
  ·have:=(List.getElem?_eq_some_iff.1 hy).1
   have:=h.len
   omega
 ·rcases snoc_at hs with hs|⟨_,rfl⟩
  ·have:=(List.getElem?_eq_some_iff.1 hs).1
   have:=h.len
   omega
  ·refine hN.move (S:=fun _=>False) (Chg.refl _ _) (fun q hq=>hq.elim) (fun q _ z=>⟨?_,fun e=>?_⟩)
   ·have:=z.1;omega
   ·have:=(hv q e).2;have:=z.1;omega
theorem SeqK.push {t:Pat} {x v':Value} {w':World} (h:SeqK p base g i o w k ts us v t x wr) (hO:OwnN w' (w.heap.size+2) v' (us++ [x])) (hg:wr.grownBy w' v.ownBlock) (hat:∀j,v'.ownBlock=some j→v.ownBlock=some j∨j=wr.heap.size):
  SeqJ p base g i o w k (ts++ [t]) (us++ [x]) v' (w'.setCell ⟨w.heap.size+1,0,none⟩ v')∧w'.cell? ⟨w.heap.size+1,0,none⟩=some v∧w'.frozen? ⟨w.heap.size+1,0,none⟩=false:=by
 have hgl:=h.glt
 have hv:∀j,v.ownBlock=some j→w.heap.size+2≤j∧j<wr.heap.size:=fun j hj=>World.ownsRow.lt h.row j hj
 have hv':∀j,v'.ownBlock=some j→w.heap.size+2≤j∧j<w'.heap.size:=fun j hj=>World.ownsRow.lt hO j hj
 have hc:Chg (fun j=>v.ownBlock=some j) wr w':=Chg.of_grown hg (fun j hj=>hj)
 have hs:Chg (fun j=>j=w.heap.size+1) w' (w'.setCell ⟨w.heap.size+1,0,none⟩ v'):=Chg.of_set w' (w.heap.size+1) 0 _ rfl
 have hbx:=h.box.chg hc (fun q=>by have:=(hv _ q).1;omega)
 refine⟨⟨h.ok,?_,?_,hbx.set 0 _,hO.chg hs (fun j hj q=>by have:=(hv' j hj).1;omega),by rw[List.length_append,List.length_append,h.len];rfl,?_,?_,hgl⟩,hbx.cell (j:=0) rfl,hbx.frozen 0⟩
 ·exact BoxAt.chg (BoxAt.chg h.rd hc (fun q=>by have:=(hv _ q).1;omega)) hs (by omega)
 ·exact(h.res.chg hc (fun q=>by have:=(hv _ q).1;omega)).chg hs (by omega)
 ·intro j y s hy hs2
  have h1:=(h.nodes j y s hy hs2).move hc (fun q hq z=>z.2 hq) (lo':=NR (w.heap.size+2) v') (fun q hq z=>⟨z.1,fun e=>by rcases hat q e with e|e;exact z.2 e;omega⟩)
  exact h1.move hs (fun q hq=>by subst hq;exact fun z=>by have:=z.1;omega) (fun q _ z=>z)
 ·exact(h.chg.absorb hc (fun j q=>.inr (by have:=(hv j q).1;omega))).absorb hs (fun j q=>.inr (by omega))
theorem step_append_node {ops:Array Oper} {oo:Oper} {a:Act} {K:Act→World→Prop} {Q:Exit→Act→World→Prop} {E:Prop} (w:World) (hgd:oo.guard=none) (s x:Operand)
  (ho:oo.op=.call {callee:=.builtin .append,args:=#[s,x],argTypes:=#[193,193]})
  (base n blk:Nat) (v y:Value) (us:List Value) (hn:n=us.length) (hs:a.eval s=v) (hx:a.eval x=.slice (some ⟨blk,0,none⟩) 1 1) (hO:OwnN w base v us)
  (hc:w.cell? ⟨blk,0,none⟩=some y) (hy:y.oneCell'=true) (hlen:us.length≤1000) (hbase:base≤w.heap.size)
  (h:∀g' cp' w',OwnN w' base (.slice (some ⟨g',0,none⟩) (n+1) cp') (us++ [y])→w.grownBy w' v.ownBlock→(v.ownBlock=some g'∨g'=w.heap.size)→K (a.put oo.dst (.slice (some ⟨g',0,none⟩) (n+1) cp')) w'):if Region.wanted oo (yielded ops a.tmps)=true then Oper.wp Tryz.prog oo a w K Q else E:=by
 subst hn
 obtain⟨i,hi,hz0,hz1,hz2⟩:=info_parts Tryz.infoNode
 refine step_append_lies w hgd s x 193 ho base 209 i _ 1 16 Tryz.underlying193 hi hz0 hz1 hz2 rfl (by decide) v us.length us hs hO ⟨blk,0,none⟩ 1 1 [y] hx rfl ?_ ?_ (by decide) ?_ ?_ hbase w.heap.size rfl ?_
 ·exact zzQ76
 ·intro u hu
  simp at hu;subst hu;exact hy
 ·unfold maxLen;omega
 ·omega
 ·intro g' cp' w' hO' hgr hat hlt
  refine h g' cp' w' ?_ hgr hat
  unfold OwnN
  rw[List.length_append]
  exact hO'
set_option maxHeartbeats 8000000 in
theorem seq_of {p:ByteArray} {m:Nat} (H:RepC p m) (hp:p.size≤200):SeqC p m:=by
 intro base g i o w hm hi ho h
 have hgl:=h.lt.2
 obtain⟨W0,hW0⟩:=qE ((w.alloc (Obj.cells #[.slice none 0 0] 195)).alloc (Obj.cells #[.slice none 0 0] 195):World)
 have HJ0:Hid (SeqJ p base g i o w i [] [] (.slice none 0 0) W0):=by
  have hb:Below w.heap.size w W0:=by rw[hW0];exact(qB).alloc (by simp) _
  have h1:BoxAt W0 w.heap.size 195 1 w.heap.size [.slice none 0 0]:=by rw[hW0];exact BoxAt.ofHeap (vs:=#[.slice none 0 0]) (heap_alloc2_old w _ _) (Nat.le_refl _) rfl
  have h2:BoxAt W0 w.heap.size 195 1 (w.heap.size+1) [.slice none 0 0]:=by rw[hW0];exact BoxAt.ofHeap (vs:=#[.slice none 0 0]) (heap_alloc2_new w _ _) (by omega) rfl
  exact⟨SeqOk.nil (by rw[sb_len];exact hi),BoxAt.below h hb,h1,h2,World.ownsRow_nil ..,rfl,fun i x t hx=>by simp at hx,Chg.of_below hb,hgl⟩
 clear h
 go_enter Tryz.func152,Tryz.ntmps152
 go_wp2_with fail
 rw[←hW0]
 clear hW0
 go_loopw[] (fun wr=>∃(k:Nat) (ts:List Pat) (us:List Value) (v:Value),i≤k∧k≤p.size∧us.length≤k∧SeqJ p base g i o w k ts us v wr) (fun wr=>p.size-atOf wr g)
 case atStart=>exact⟨i,[],[],_,Nat.le_refl _,hi,Nat.zero_le _,HJ0.out⟩
 case round=>
  obtain⟨k,ts,us,v,hik,hkp,hul,hJ⟩:=hrel
  have HJ:Hid (SeqJ p base g i o w k ts us v wr∧atOf wr g=k):=⟨hJ,atOf_pr hJ.rd⟩
  obtain⟨va,vc,hva⟩:=hJ.row.slice
  subst hva
  clear hJ HJ0
  have hlt:=HJ.1.rd.lt.2
  have c0:=HJ.1.rd.cell (j:=0) rfl
  have c1:=HJ.1.rd.cell (j:=1) rfl
  have e0:∀n:Out wr,n.u.cell? ⟨g,0,none⟩=some (.string p):=fun n=>(n.out.cell (p:=⟨g,0,none⟩) hlt).trans c0
  have e1:∀n:Out wr,n.u.cell? ⟨g,1,none⟩=some (.int .i64 (k:Int)):=fun n=>(n.out.cell (p:=⟨g,1,none⟩) hlt).trans c1
  obtain⟨q,hq⟩:=qE (inB (sb p) k (sb ⟨#[42,43,63,124,41,93]⟩))
  have HQ:Hid (inB (sb p) k [42,43,63,124,41,93]=q):=hq.symm
  have HI:Hid (∀n:Out wr,Calls Tryz.prog 160 #[.pointer (some ⟨g,0,none⟩),.string ⟨#[42,43,63,124,41,93]⟩] n.u fun e w'=>e=.returned (.bool q)∧Below n.u.heap.size n.u w'):=fun n=>by
   rw[hq]
   exact pnextIn_core _ (BoxAt.below HJ.1.rd n.out) hp
  clear c0 c1 hq
  by_cases hgo:k<p.size∧q=false
  ·obtain⟨hks,rfl⟩:=hgo
   have z1:(k:Int)<(p.size:Int):=by omega
   have HNe:Hid (∀c,(sb p)[k]?=some c→¬isEnd c):=fun c hc he=>inB_none HQ.out c hc (by
    rcases he with(rfl|rfl|rfl)|rfl|rfl|rfl<;>simp)
   go_upto_region 2 with fail
   refine wp_region_out (by kernel_rfl) (by kernel_rfl) ?_
   repeat (go_big_quiet_step ((first|rfl|(go_at_call 160;exact Calls.out_of (HI.out _)))))
   refine wpQuiet_nil ?_
   rintro w1 ⟨⟨wx,hb1⟩,rfl⟩
   have HJ1:Hid (SeqJ p base g i o w k ts us (.slice va us.length vc) w1):=HJ.1.move hb1
   have HAt:Hid (atOf wr g=k):=HJ.2
   have hs1:=hb1.size
   clear e0 e1 HI hb1 HJ
   have b0:=HJ1.box.cell (j:=0) rfl
   have hob:=HJ1.box.lt.2
   have HRep:Hid (∀w',Below w1.heap.size w1 w'→Calls Tryz.prog 161 #[.pointer (some ⟨g,0,none⟩)] w' (NodePost p base g k o w' (RepOk (sb p) o k))):=fun w' hb=>H base g k o w' (by omega) hks ho HNe.out (BoxAt.below HJ1.rd hb)
   go_upto_region 3 with fail
   go_region_law ((first
                |(go_simp;go_at_call 161;refine(HRep.out _ (Below.refl _ _).drew).mono ?_;rintro e' w6 ⟨hC6,(⟨k6,t,x,hR6,rfl,hN6,hP6⟩|⟨c6,k6,hc60,hk6,rfl⟩)⟩;(case inr=>exact⟨rfl,(HJ1.move (Below.refl _ _).drew).chg.trans hC6,.inr ⟨c6,k6,hc60,by rw[HJ1.ok.chk,hk6],rfl⟩⟩);obtain⟨T6,cs6,rfl⟩:=hN6.iface;have HK6:Hid (SeqK p base g i o w k6 ts us (.slice va us.length vc) t (.iface T6 (.agg cs6)) w6∧RepOk (sb p) o k k6 t):=⟨(HJ1.move (Below.refl _ _).drew).rep hC6 hR6 hN6 hP6,hR6⟩;have m6:=HK6.1.box.cell (j:=0) rfl;have m6l:=HK6.1.box.lt.2;have m6a:∀o,(w6.alloc o).cell? ⟨w.heap.size+1,0,none⟩=some (.slice va us.length vc):=fun o=>by {rw[((Below.refl w6.heap.size w6).alloc (Nat.le_refl _) o).cell (p:=⟨w.heap.size+1,0,none⟩) m6l];exact m6};clear hC6 hR6 hN6 hP6)
                |(refine step_append_node _ (by rfl) _ _ (by rfl) (w.heap.size+2) us.length w6.heap.size (.slice va us.length vc) (.iface T6 (.agg cs6)) us rfl (by rfl) (by rfl) ?hO ?hc rfl ?hl ?hb ?_
                  case hO=>exact(HK6.1.move (qB)).row
                  case hc=>simp
                  case hl=>omega
                  case hb=>have:=(HK6.1.move ((Below.refl _ _).alloc (Nat.le_refl _) (Obj.cells #[.iface T6 (.agg cs6)] 209))).box.lt.2;omega
                  intro g7 cp7 w7 hO7 hgr7 hgg7
                  have hpp:=(HK6.1.move ((Below.refl _ _).alloc (Nat.le_refl _) (Obj.cells #[.iface T6 (.agg cs6)] 209))).push hO7 hgr7 (fun j hj=>by have hj':g7=j:=by {simpa [Value.ownBlock]using hj};rw[←hj'];exact hgg7)
                  have fin7:Hid (SeqJ p base g i o w k6 (ts++ [t]) (us++ [.iface T6 (.agg cs6)]) (.slice (some ⟨g7,0,none⟩) (us.length+1) cp7) (w7.setCell ⟨w.heap.size+1,0,none⟩ (.slice (some ⟨g7,0,none⟩) (us.length+1) cp7))):=hpp.1
                  have m7:=hpp.2.1
                  have f7:=hpp.2.2
                  clear hpp hO7 hgr7 hgg7)))
   all_goals go_wp2_with fail
   all_goals go_roundw
   all_goals first
    |exact⟨k6,ts++ [t],us++ [.iface T6 (.agg cs6)],_,by have:=HK6.2.lt;omega,by have:=HK6.2.le;rw[sb_len]at this;exact this,by have:=HK6.2.lt;rw[List.length_append];simp;omega,fin7.out⟩
    |(rw[HAt.out,atOf_pr fin7.out.rd];have:=HK6.2.lt;omega)
  ·have HE:Hid (∀c,(sb p)[k]?=some c→isEnd c):=by
    intro c hc
    have hk:=lt_of_at hc
    rw[sb_len]at hk
    cases q
    ·exact absurd ⟨hk,rfl⟩ hgo
    ·obtain⟨d,hd,hm⟩:=inB_some HQ.out
     rw[hc]at hd
     cases hd
     simp at hm
     rcases hm with rfl|rfl|rfl|rfl|rfl|rfl<;>simp[isEnd,isOp]
   have HX:Hid (SeqJ p base g i o w k ts us (.slice va us.length vc) wr):=HJ.1
   clear HQ HJ
   have fin:∀w1,Below wr.heap.size wr w1→Hid (SeqJ p base g i o w k ts us (.slice va us.length vc) w1):=fun w1 hb=>HX.move hb
   by_cases hks:k<p.size
   ·have hq1:q=true:=by
     cases q
     ·exact absurd ⟨hks,rfl⟩ hgo
     ·rfl
    subst hq1
    have z1:(k:Int)<(p.size:Int):=by omega
    clear hgo
    go_upto_region 2 with fail
    refine wp_region_out (by kernel_rfl) (by kernel_rfl) ?_
    repeat (go_big_quiet_step ((first|rfl|(go_at_call 160;exact Calls.out_of (HI.out _)))))
    exact zzQ19
   ·have z1:¬(k:Int)<(p.size:Int):=by omega
    clear hgo
    go_upto_region 2 with fail
    refine wp_region_out (by kernel_rfl) (by kernel_rfl) ?_
    repeat (go_big_quiet_step (rfl))
    exact zzQ19
structure AltJ (p:ByteArray) (base g i o:Nat) (w:World) (k:Nat) (os:List (List Pat)) (us:List Value) (gq cp:Nat) (wr:World):Prop where
 ok:AltOk (sb p) o i k os
 nxt:∀c,(sb p)[k]?=some c→isEnd c
 rd:PrAt wr base g p k o
 res:BoxAt wr w.heap.size 171 1 w.heap.size [.slice none 0 0]
 row:OwnQ wr (w.heap.size+1) gq cp us
 len:us.length=os.length
 seqs:∀(i:Nat) x ts,us[i]?=some x→os[i]?=some ts→SeqAt wr (fun j=>w.heap.size+1≤j∧¬j=gq) ts x
 chg:Chg (fun k=>k=g) w wr
 glt:g<w.heap.size
theorem OwnQ.chg {S:Nat→Prop} {w w':World} {base gq cp:Nat} {us:List Value} (h:OwnQ w base gq cp us) (hc:Chg S w w') (hn:¬S gq):OwnQ w' base gq cp us:=own_chg h hc (fun k q=>by simp[Value.ownBlock]at q;subst q;exact hn)
variable {p:ByteArray} {base g i o:Nat} {w:World} {k:Nat} {os:List (List Pat)} {us:List Value} {gq cp:Nat} {wr:World}
theorem AltJ.read {w':World} {k':Nat} (h:AltJ p base g i o w k os us gq cp wr) (hC:Chg (fun k=>k=g) wr w') (hP:PrAt w' base g p k' o):
  BoxAt w' w.heap.size 171 1 w.heap.size [.slice none 0 0]∧OwnQ w' (w.heap.size+1) gq cp us∧(∀(i:Nat) x ts,us[i]?=some x→os[i]?=some ts→SeqAt w' (fun j=>w.heap.size+1≤j∧¬j=gq) ts x)∧Chg (fun k=>k=g) w w':=by
 have hg:=h.glt
 have hq:=h.row.lt
 exact⟨h.res.chg hC (by omega),h.row.chg hC (by omega),fun i x ts hx ht=>(h.seqs i x ts hx ht).move hC (fun q hq=>by subst hq;exact fun z=>by have:=z.1;omega) (fun q _ z=>z),h.chg.trans hC⟩
theorem wpList_append_seq {ops:Array Oper} {rest:List Oper} {oo:Oper} {a:Act} {Q:Exit→Act→World→Prop} (w:World) (hgd:oo.guard=none) (s x:Operand)
  (ho:oo.op=.call {callee:=.builtin .append,args:=#[s,x],argTypes:=#[169,169]})
  (base gq cp n b:Nat) (us:List Value) (y:Value) (hs:a.eval s=.slice (some ⟨gq,0,none⟩) n cp) (hx:a.eval x=.slice (some ⟨b,0,none⟩) 1 1) (hn:n=us.length) (hO:OwnQ w base gq cp us)
  (hc:w.cell? ⟨b,0,none⟩=some y) (hy:y.oneCell'=true) (hlen:us.length≤1000) (hbase:base≤w.heap.size)
  (h:∀g' cp' w',OwnQ w' base g' cp' (us++ [y])→w.grownBy w' (some gq)→(g'=gq∨g'=w.heap.size)→wpList Tryz.prog ops Q rest (a.put oo.dst (.slice (some ⟨g',0,none⟩) (n+1) cp')) w'):wpList Tryz.prog ops Q (oo::rest) a w:=by
 subst hn
 obtain⟨i,hi,hz0,hz1,hz2⟩:=info_parts Tryz.infoSeq
 refine wpList_append_own_at w hgd s x 169 ho base 195 i _ 1 24 Tryz.underlying169 hi hz0 hz1 hz2 rfl (by decide) (.slice (some ⟨gq,0,none⟩) us.length cp) us.length us hs hO ⟨b,0,none⟩ 1 1 [y] hx rfl ?_ ?_ ?_ ?_ hbase ?_
 ·exact zzQ76
 ·intro u hu
  simp at hu;subst hu;exact hy
 ·unfold maxLen;omega
 ·omega
 ·intro v' w' hO' hgr hnil hat
  rcases hO'.2 with⟨h0,_⟩|⟨g',cap',cur,hv,_,_,hn,hcap,_,_⟩
  ·have:=(hnil.1 h0).1
   cases this
  ·subst hv
   refine h g' cap' w' ?_ hgr ?_
   ·unfold OwnQ
    rw[List.length_append]
    exact hO'
   ·simp[Value.ownBlock]at hat
    exact hat
theorem SeqAt.slice {w:World} {R:Nat→Prop} {ts:List Pat} {u:Value} (h:SeqAt w R ts u):∃a n cp,u=.slice a n cp:=by
 obtain⟨n,h|⟨g,cp,us,h1,_⟩⟩:=h
 ·exact⟨_,_,_,h.2⟩
 ·exact⟨_,_,_,h1⟩
set_option maxHeartbeats 8000000 in
theorem alt_of {p:ByteArray} {m:Nat} (H:SeqC p m) (hp:p.size≤200):AltC p m:=by
 intro base g i o w hm hi ho h
 have hgl:=h.lt.2
 obtain⟨W0,hW0⟩:=qE (w.alloc (Obj.cells #[.slice none 0 0] 171):World)
 have HW0:Hid (PrAt W0 base g p i o∧BoxAt W0 w.heap.size 171 1 w.heap.size [.slice none 0 0]∧Chg (fun k=>k=g) w W0∧W0.heap.size=w.heap.size+1):=by
  have hb:Below w.heap.size w W0:=by rw[hW0];exact qB
  refine⟨BoxAt.below h hb,?_,Chg.of_below hb,by rw[hW0];simp⟩
  rw[hW0];exact boxAt_new w _ (Nat.le_refl _) rfl
 clear h
 go_enter Tryz.func142,Tryz.ntmps142
 go_upto_region 1 with fail
 rw[←hW0]
 clear hW0
 go_wp2_with fail
 refine(H base g i o W0 hm hi ho HW0.1).mono ?_
 rintro e w1 ⟨hC1,(⟨k,ts,u,hS,hE,rfl,hU,hP1⟩|⟨c,k,hc0,hk,rfl⟩)⟩
 case inr=>exact⟨rfl,HW0.2.2.1.trans hC1,.inr ⟨c,k,hc0,hk,rfl⟩⟩
 obtain⟨ua,un,uc,rfl⟩:=hU.slice
 have hkp:i≤k∧k≤p.size:=by have h1:=hS.le;have h2:=hS.lei;rw[sb_len]at h1;exact⟨h2,h1⟩
 obtain⟨W2,hW2⟩:=qE (w1.alloc (Obj.cells #[.slice ua un uc] 195):World)
 have HJ0:Hid (AltJ p base g i o w k [ts] [.slice ua un uc] w1.heap.size 1 W2):=by
  have hb:Below w1.heap.size w1 W2:=by rw[hW2];exact qB
  have hz:=HW0.2.2.2
  have hs:=hC1.size
  refine⟨AltOk.one hS,hE,BoxAt.below hP1 hb,(HW0.2.1.chg hC1 (by omega)).below hb,?_,rfl,?_,(HW0.2.2.1.trans hC1).trans (Chg.of_below hb),hgl⟩
  ·rw[hW2]
   exact World.ownsRow_lit w1 #[.slice ua un uc] 1 (by omega) (by decide) rfl
  ·intro j x ss hx hss
   have hj:j=0:=by have:=(List.getElem?_eq_some_iff.1 hx).1;simpa using this
   subst hj
   simp at hx hss
   subst hx hss
   exact hU.move (S:=fun _=>False) (Chg.of_below hb) (fun q hq=>hq.elim) (fun q hq z=>⟨by have:=z.1;omega,by omega⟩)
 clear hC1 hS hE hU hP1 HW0
 go_wp2_with fail
 rw[←hW2]
 obtain⟨gq0,hgq0⟩:=qE w1.heap.size
 rw[←hgq0]at HJ0
 rw[←hgq0]
 clear hW2 hgq0
 go_loopw[3] (fun sv wr=>∃(k gq cp:Nat) (os:List (List Pat)) (us:List Value),i≤k∧k≤p.size∧us.length≤k+1∧sv=.slice (some ⟨gq,0,none⟩) us.length cp∧AltJ p base g i o w k os us gq cp wr) (fun _ wr=>p.size-atOf wr g)
 case atStart=>exact⟨k,gq0,1,[ts],[.slice ua un uc],hkp.1,hkp.2,by simp,rfl,HJ0.out⟩
 case round=>
  obtain⟨k,gq,cp,os,us,hik,hkp,hul,rfl,hJ⟩:=hrel
  have HJ:Hid (AltJ p base g i o w k os us gq cp wr∧atOf wr g=k):=⟨hJ,atOf_pr hJ.rd⟩
  clear hJ HJ0
  go_wp2_with fail
  refine(pskip_core 124 HJ.1.rd hp).mono ?_
  rintro e w3 ⟨hC3,(⟨hx,rfl,hP3⟩|⟨hx,rfl,hP3⟩)⟩
  ·have hk1:k+1≤p.size:=by have:=lt_of_at hx;rw[sb_len]at this;omega
   have HX:Hid ((sb p)[k]?=some 124∧PrAt w3 base g p (k+1) o∧BoxAt w3 w.heap.size 171 1 w.heap.size [.slice none 0 0]∧OwnQ w3 (w.heap.size+1) gq cp us∧(∀(i:Nat) x ts,us[i]?=some x→os[i]?=some ts→SeqAt w3 (fun j=>w.heap.size+1≤j∧¬j=gq) ts x)∧Chg (fun k=>k=g) w w3):=⟨hx,hP3,HJ.1.read hC3 hP3⟩
   have HOk:Hid (AltOk (sb p) o i k os∧us.length=os.length∧atOf wr g=k):=⟨HJ.1.ok,HJ.1.len,HJ.2⟩
   clear hC3 hx hP3 HJ
   go_wp2_with fail
   refine(H base g (k+1) o w3 (by omega) hk1 ho HX.2.1).mono ?_
   rintro e w4 ⟨hC4,(⟨k4,ts4,u4,hS4,hE4,rfl,hU4,hP4⟩|⟨c,k4,hc0,hk4,rfl⟩)⟩
   case inr=>
    refine⟨rfl,HX.2.2.2.2.2.trans hC4,.inr ⟨c,k4,hc0,?_,rfl⟩⟩
    rw[HOk.1.chk,chk_bar HX.1,hk4]
   obtain⟨ua4,un4,uc4,rfl⟩:=hU4.slice
   have hk4p:k+1≤k4∧k4≤p.size:=by have h1:=hS4.le;have h2:=hS4.lei;rw[sb_len]at h1;exact⟨h2,h1⟩
   obtain⟨W5,hW5⟩:=qE (w4.alloc (Obj.cells #[.slice ua4 un4 uc4] 195):World)
   have HW5:Hid (AltOk (sb p) o i k4 (os++ [ts4])∧(∀c,(sb p)[k4]?=some c→isEnd c)∧PrAt W5 base g p k4 o∧BoxAt W5 w.heap.size 171 1 w.heap.size [.slice none 0 0]∧OwnQ W5 (w.heap.size+1) gq cp us∧(∀(i:Nat) x ts,(us++ [.slice ua4 un4 uc4])[i]?=some x→(os++ [ts4])[i]?=some ts→SeqAt W5 (fun j=>w.heap.size+1≤j∧¬j=gq) ts x)∧Chg (fun k=>k=g) w W5∧W5.cell? ⟨w4.heap.size,0,none⟩=some (.slice ua4 un4 uc4)∧w.heap.size+1≤W5.heap.size):=by
    have hb:Below w4.heap.size w4 W5:=by rw[hW5];exact qB
    have hq:=HX.2.2.2.1.lt
    have hs4:=hC4.size
    have hsb:=hb.size
    have hc:Chg (fun k=>k=g) w3 W5:=hC4.trans (Chg.of_below hb)
    refine⟨AltOk.more HOk.1 HX.1 hS4,hE4,BoxAt.below hP4 hb,HX.2.2.1.chg hc (by omega),HX.2.2.2.1.chg hc (by omega),?_,HX.2.2.2.2.2.trans hc,by rw[hW5];simp,by omega⟩
    intro j y s hy hs
    rcases snoc_at hy with hy|⟨hj,rfl⟩
    ·rcases snoc_at hs with hs|⟨hj,rfl⟩
     ·exact(HX.2.2.2.2.1 j y s hy hs).move hc (fun q hq=>by subst hq;exact fun z=>by have:=z.1;omega) (fun q _ z=>z)
     ·have:=(List.getElem?_eq_some_iff.1 hy).1
      have:=HOk.2.1
      omega
    ·rcases snoc_at hs with hs|⟨_,rfl⟩
     ·have:=(List.getElem?_eq_some_iff.1 hs).1
      have:=HOk.2.1
      omega
     ·exact hU4.move (S:=fun _=>False) (Chg.of_below hb) (fun q hq=>hq.elim) (fun q _ z=>⟨by have:=z.1;omega,fun e=>by have:=z.1;omega⟩)
   clear hC4 hS4 hE4 hU4 hP4 HX
   go_wp2_with (at_builtin;rw[←hW5];refine wpList_append_seq _ rfl _ _ rfl (w.heap.size+1) gq cp us.length w4.heap.size us (.slice ua4 un4 uc4) rfl rfl rfl ?hO ?hc rfl ?hl ?hb ?_)
   case hO=>exact HW5.2.2.2.2.1
   case hc=>exact HW5.2.2.2.2.2.2.2.1
   case hl=>omega
   case hb=>exact HW5.2.2.2.2.2.2.2.2
   intro g6 cp6 w6 hO6 hgr6 hat6
   rw[←hW5]at hgr6
   have hz5:W5.heap.size=w4.heap.size+1:=by rw[hW5];simp
   have HJ6:Hid (AltJ p base g i o w k4 (os++ [ts4]) (us++ [.slice ua4 un4 uc4]) g6 cp6 w6):=by
    have hq:=HW5.2.2.2.2.1.lt
    have hc:Chg (fun j=>j=gq) W5 w6:=Chg.of_grown hgr6 (fun j hj=>by cases hj;rfl)
    refine⟨HW5.1,HW5.2.1,BoxAt.chg HW5.2.2.1 hc (by omega),HW5.2.2.2.1.chg hc (by omega),hO6,by rw[List.length_append,List.length_append,HOk.2.1];rfl,?_,HW5.2.2.2.2.2.2.1.absorb hc (fun j q=>.inr (by omega)),hgl⟩
    intro j y s hy hs
    exact(HW5.2.2.2.2.2.1 j y s hy hs).move hc (fun q hq z=>z.2 hq) (fun q hq z=>⟨z.1,fun e=>by rcases hat6 with r|r;exact z.2 (by omega);omega⟩)
   clear hO6 hgr6 hat6 hW5 HW5
   go_wp2_with fail
   go_roundw
   case rel=>exact⟨k4,g6,cp6,os++ [ts4],us++ [.slice ua4 un4 uc4],by omega,hk4p.2,by rw[List.length_append];simp;omega,by rw[List.length_append];rfl,HJ6.out⟩
   case measure=>rw[HOk.2.2,atOf_pr HJ6.rd];omega
  ·have HX:Hid (AltOk (sb p) o i k os∧(∀c,(sb p)[k]?=some c→isEnd c∧¬c=124)∧us.length=os.length):=⟨HJ.1.ok,fun c hc=>⟨HJ.1.nxt c hc,fun q=>by subst q;exact hx hc⟩,HJ.1.len⟩
   have HR:=HJ.1.read hC3 hP3
   have HF:Hid (PrAt w3 base g p k o∧BoxAt w3 w.heap.size 171 1 w.heap.size [.slice none 0 0]∧OwnQ w3 (w.heap.size+1) gq cp us∧(∀(i:Nat) x ts,us[i]?=some x→os[i]?=some ts→SeqAt w3 (fun j=>w.heap.size+1≤j∧¬j=gq) ts x)∧Chg (fun k=>k=g) w w3):=⟨hP3,HR⟩
   clear HR hC3 hx hP3 HJ
   have r0:=HF.2.1.cell (j:=0) rfl
   have rf:=HF.2.1.frozen 0
   go_wp2_with fail
   refine bodyPost_ret (v:=.agg #[.slice (some ⟨gq,0,none⟩) us.length cp]) (by simp[results,Tryz.results142,go_sem,World.cell?_setCell_same _ _ _ r0]) rfl ?_
   have hc:=Chg.of_set w3 w.heap.size 0 (.slice (some ⟨gq,0,none⟩) us.length cp) (S:=fun j=>j=w.heap.size) rfl
   have hq:=HF.2.2.1.lt
   refine⟨HF.2.2.2.2.absorb hc (fun j q=>.inr (by omega)),.inl ⟨k,os,_,HX.1,HX.2.1,rfl,?_,BoxAt.chg HF.1 hc (by omega)⟩⟩
   obtain⟨n,hn⟩:=seqs_one HX.2.2 (fun i x ts hx ht=>(HF.2.2.2.1 i x ts hx ht).move (S:=fun _=>False) (Chg.refl _ _) (fun _ q=>q.elim) (lo':=fun j=>w.heap.size+1≤j) (fun _ _ q=>q.1))
   have hA:AltAt w3 (fun j=>w.heap.size+1≤j) os (.slice (some ⟨gq,0,none⟩) us.length cp):=⟨n,gq,cp,us,by rw[HX.2.2],HX.2.2,HF.2.2.1.vals hq.1,hn⟩
   exact hA.move hc (fun j q=>by subst q;exact fun z=>by omega) (fun j hj z=>⟨by omega,by have:=hc.size;omega⟩)
theorem alt_all {p:ByteArray} (hp:p.size≤200):∀m,AtomC p m∧AltC p m
 |0=>by
  have h0:AtomC p 0:=fun base g i o w hm hi=>by omega
  exact⟨h0,alt_of (seq_of (rep_of h0 hp) hp) hp⟩
 |m+1=>by
  have h1:=atom_of (alt_all hp m).2 hp
  exact⟨h1,alt_of (seq_of (rep_of h1 hp) hp) hp⟩
theorem alt_core {p:ByteArray} (hp:p.size≤200) (base g i o:Nat) (w:World) (hi:i≤p.size) (ho:o≤20) (h:PrAt w base g p i o):Calls Tryz.prog 142 #[.pointer (some ⟨g,0,none⟩)] w (AltPost p base g i o w):=
 (alt_all hp (p.size-i)).2 base g i o w (Nat.le_refl _) hi ho h
theorem pf_assert (c a:Int) (w:World):(Instr.typeAssert (pfV c a) 20 46 true).run Tryz.prog w=.ok (.tuple #[.agg #[.int .i64 c,.int .i64 a],.bool true]) w:=by kernel_rfl
set_option maxHeartbeats 2000000 in
theorem pfOf_nil (w:World):Calls Tryz.prog 24 #[.nilIface] w fun e w'=>e=.returned (.agg #[.int .i64 0,.int .i64 0])∧Below w.heap.size w w':=by
 go_enter Tryz.func24,Tryz.ntmps24
 go_wp2_with fail
 refine bodyPost_ret (v:=.agg #[.int .i64 0,.int .i64 0]) (by simp[results,Tryz.results24,go_sem]) rfl ⟨rfl,?_⟩
 exact qB
set_option maxHeartbeats 2000000 in
theorem pfOf_pf (c a:Int) (w:World):Calls Tryz.prog 24 #[pfV c a] w fun e w'=>e=.returned (.agg #[.int .i64 c,.int .i64 a])∧Below w.heap.size w w':=by
 have hta:=pf_assert
 obtain⟨W,hW⟩:=qE (w.alloc (Obj.cells #[.int .i64 0,.int .i64 0] 46):World)
 have HW:Hid (BoxAt W w.heap.size 46 2 w.heap.size [.int .i64 0,.int .i64 0]∧Below w.heap.size w W):=by
  rw[hW];exact⟨boxAt_new w _ (Nat.le_refl _) rfl,qB⟩
 obtain⟨W2,hW2⟩:=qE (W.alloc (Obj.cells #[.int .i64 c,.int .i64 a] 46):World)
 have HW2:Hid (BoxAt W2 w.heap.size 46 2 w.heap.size [.int .i64 0,.int .i64 0]∧BoxAt W2 w.heap.size 46 2 W.heap.size [.int .i64 c,.int .i64 a]∧Below w.heap.size w W2):=by
  have hb:Below W.heap.size W W2:=by rw[hW2];exact qB
  refine⟨HW.1.below hb,?_,HW.2.trans (hb.mono HW.2.size)⟩
  rw[hW2];exact boxAt_new W _ HW.2.size rfl
 go_enter Tryz.func24,Tryz.ntmps24
 go_upto_region 1 with fail
 rw[←hW]
 clear hW
 go_upto_region 7 with fail
 rw[←hW2]
 clear hW2 hta
 have b0:=HW2.2.1.cell (j:=0) rfl
 have b1:=HW2.2.1.cell (j:=1) rfl
 have r0:=HW2.1.cell (j:=0) rfl
 have r1:=HW2.1.cell (j:=1) rfl
 have f0:=HW2.1.frozen 0
 have f1:=HW2.1.frozen 1
 have hbx:=(HW2.1.set 0 (.int .i64 c)).set 1 (.int .i64 a)
 have p0:=hbx.cell (j:=0) rfl
 have p1:=hbx.cell (j:=1) rfl
 obtain⟨W3,hW3⟩:=qE ((W2.setCell ⟨w.heap.size,0,none⟩ (.int .i64 c)).setCell ⟨w.heap.size,1,none⟩ (.int .i64 a):World)
 rw[←hW3]at p0 p1
 have HB3:Hid (Below w.heap.size w W3):=by
  show Below w.heap.size w W3
  rw[hW3];exact below_set (below_set HW2.2.2 (Nat.le_refl _) 0 _) (Nat.le_refl _) 1 _
 clear hbx
 go_wp2_with fail
 rw[←hW3]
 refine bodyPost_ret (v:=.agg #[.int .i64 c,.int .i64 a]) (by simp[results,Tryz.results24,go_sem,p0,p1]) rfl ⟨rfl,HB3.out⟩
set_option maxHeartbeats 4000000 in
theorem rp_catch (base rb eb:Nat) (c a:Int) (older:List PanicEntry) (w:World) (hc:¬c=0) (x:Value) (hr:BoxAt w base 171 1 rb [x]) (he:BoxAt w base 125 2 eb [.int .i64 0,.int .i64 0]) (hne:¬rb=eb):
  CallsD Tryz.prog 141 #[.pointer (some ⟨rb,0,none⟩),.pointer (some ⟨eb,0,none⟩)] (.panicking ({v:=pfV c a,recovered:=false}::older)) w fun e u' w'=>
   e=.returned (.tuple #[])∧u'=.panicking ({v:=pfV c a,recovered:=true}::older)∧BoxAt w' base 171 1 rb [.slice none 0 0]∧BoxAt w' base 125 2 eb [.int .i64 c,.int .i64 a]∧Chg (fun k=>k=rb∨k=eb) w w':=by
 refine callsD_of_wpS Tryz.func141 rfl fun c₀ cs hu=>?_
 apply wpS_seq
 apply wpS_region
 simp[wpOpsS,go_sem,recoverD,hu,Tryz.ntmps141,Exit.thenS]
 refine(pfOf_pf c a w).mono ?_
 rintro e w1 ⟨rfl,hb1⟩
 simp[wpOpsS,go_sem]
 have ht:#[Value.pointer (some ⟨rb,0,none⟩),Value.pointer (some ⟨eb,0,none⟩)]++(((Array.replicate 12 undef).setIfInBounds 1 (pfV c a)).setIfInBounds 2 (Value.agg #[Value.int IntKind.i64 c,Value.int IntKind.i64 a])).setIfInBounds 0 (Value.pointer (some ⟨w1.heap.size,0,none⟩))=#[.pointer (some ⟨rb,0,none⟩),.pointer (some ⟨eb,0,none⟩),.pointer (some ⟨w1.heap.size,0,none⟩),pfV c a,.agg #[.int .i64 c,.int .i64 a],undef,undef,undef,undef,undef,undef,undef,undef,undef]:=by rfl
 rw[ht]
 clear ht
 obtain⟨W2,hW2⟩:=qE (w1.alloc (Obj.cells #[.int .i64 c,.int .i64 a] 46):World)
 have hb2:Below w1.heap.size w1 W2:=by rw[hW2];exact qB
 have HB:Hid (BoxAt W2 base 171 1 rb [x]∧BoxAt W2 base 125 2 eb [.int .i64 0,.int .i64 0]∧Chg (fun k=>k=rb∨k=eb) w W2):=
  ⟨(hr.below hb1).below hb2,(he.below hb1).below hb2,(Chg.of_below hb1).trans (Chg.of_below hb2)⟩
 have d0:W2.cell? ⟨w1.heap.size,0,none⟩=some (.int .i64 c):=by rw[hW2];simp
 have d1:W2.cell? ⟨w1.heap.size,1,none⟩=some (.int .i64 a):=by rw[hW2];simp
 have hrl:=(hr.below hb1).lt.2
 have hel:=(he.below hb1).lt.2
 obtain⟨FB,hFB⟩:=qE w1.heap.size
 rw[←hW2]
 rw[←hFB]at d0 d1⊢
 have n1:¬FB=rb:=by omega
 have n2:¬FB=eb:=by omega
 clear hW2 hFB hb1 hb2 hr he hrl hel
 have r0:=HB.1.cell (j:=0) rfl
 have rf:=HB.1.frozen 0
 have e0:=HB.2.1.cell (j:=0) rfl
 have e1:=HB.2.1.cell (j:=1) rfl
 have f0:=HB.2.1.frozen 0
 have f1:=HB.2.1.frozen 1
 have n3:¬eb=rb:=fun q=>hne q.symm
 have HF:∀w':World,Below W2.heap.size W2 w'→BoxAt (((w'.setCell ⟨rb,0,none⟩ (.slice none 0 0)).setCell ⟨eb,0,none⟩ (.int .i64 c)).setCell ⟨eb,1,none⟩ (.int .i64 a)) base 171 1 rb [.slice none 0 0]∧BoxAt (((w'.setCell ⟨rb,0,none⟩ (.slice none 0 0)).setCell ⟨eb,0,none⟩ (.int .i64 c)).setCell ⟨eb,1,none⟩ (.int .i64 a)) base 125 2 eb [.int .i64 c,.int .i64 a]∧Chg (fun k=>k=rb∨k=eb) w (((w'.setCell ⟨rb,0,none⟩ (.slice none 0 0)).setCell ⟨eb,0,none⟩ (.int .i64 c)).setCell ⟨eb,1,none⟩ (.int .i64 a)):=fun w' hb=>by
  refine⟨((((HB.1.below hb).set 0 _).beside hne 0 _).beside hne 1 _),((((HB.2.1.below hb).beside n3 0 _).set 0 _).set 1 _),((((HB.2.2.trans (Chg.of_below hb)).trans (Chg.of_set _ rb 0 _ (.inl rfl))).trans (Chg.of_set _ eb 0 _ (.inr rfl))).trans (Chg.of_set _ eb 1 _ (.inr rfl)))⟩
 have HFF:Hid (∀w':World,Below W2.heap.size W2 w'→BoxAt (((w'.setCell ⟨rb,0,none⟩ (.slice none 0 0)).setCell ⟨eb,0,none⟩ (.int .i64 c)).setCell ⟨eb,1,none⟩ (.int .i64 a)) base 171 1 rb [.slice none 0 0]∧BoxAt (((w'.setCell ⟨rb,0,none⟩ (.slice none 0 0)).setCell ⟨eb,0,none⟩ (.int .i64 c)).setCell ⟨eb,1,none⟩ (.int .i64 a)) base 125 2 eb [.int .i64 c,.int .i64 a]∧Chg (fun k=>k=rb∨k=eb) w (((w'.setCell ⟨rb,0,none⟩ (.slice none 0 0)).setCell ⟨eb,0,none⟩ (.int .i64 c)).setCell ⟨eb,1,none⟩ (.int .i64 a))):=HF
 clear HF
 refine wpS_of_wp ?_
 go_upto_region 2 with fail
 go_region
 all_goals go_wp2_with fail
 have hfin:=HFF.out W2 (Below.refl _ _)
 have hdr:∀X:World,Below X.heap.size X X.drew:=fun X=>(Below.refl _ _).drew
 exact⟨rfl,_,rfl,_,by simp[results,Tryz.results141],rfl,rfl,hfin.1.below (hdr _),hfin.2.1.below (hdr _),hfin.2.2.trans (Chg.of_below (hdr _))⟩
set_option maxHeartbeats 4000000 in
theorem rp_idle (rb eb:Nat) (w:World):
  CallsD Tryz.prog 141 #[.pointer (some ⟨rb,0,none⟩),.pointer (some ⟨eb,0,none⟩)] .returning w fun e u' w'=>e=.returned (.tuple #[])∧u'=.returning∧Below w.heap.size w w':=by
 refine callsD_of_wpS Tryz.func141 rfl fun c₀ cs hu=>?_
 apply wpS_seq
 apply wpS_region
 simp[wpOpsS,go_sem,recoverD,hu,Tryz.ntmps141,Exit.thenS]
 refine(pfOf_nil w).mono ?_
 rintro e w1 ⟨rfl,hb1⟩
 simp[wpOpsS,go_sem]
 have ht:#[Value.pointer (some ⟨rb,0,none⟩),Value.pointer (some ⟨eb,0,none⟩)]++(((Array.replicate 12 undef).setIfInBounds 1 .nilIface).setIfInBounds 2 (Value.agg #[Value.int IntKind.i64 0,Value.int IntKind.i64 0])).setIfInBounds 0 (Value.pointer (some ⟨w1.heap.size,0,none⟩))=#[.pointer (some ⟨rb,0,none⟩),.pointer (some ⟨eb,0,none⟩),.pointer (some ⟨w1.heap.size,0,none⟩),.nilIface,.agg #[.int .i64 0,.int .i64 0],undef,undef,undef,undef,undef,undef,undef,undef,undef]:=by rfl
 rw[ht]
 clear ht
 have HB:Hid (Below w.heap.size w (w1.alloc (Obj.cells #[.int .i64 0,.int .i64 0] 46))):=hb1.trans ((Below.refl _ _).alloc hb1.size _)
 clear hb1
 refine wpS_of_wp ?_
 go_wp2_with fail
 refine⟨rfl,.returning,?_,_,by simp[results,Tryz.results141],rfl,rfl,HB.out⟩
 cases c₀
 simp_all
def checkM (p:List UInt8):Int×Nat:=if 200<p.length then(1,0)else chkM p 0 0 false
def ReadPost (p:ByteArray) (w:World) (e:Ending) (w':World):Prop:=
 ∃u:Value,e=.returned (.tuple #[.agg #[u],.agg #[.int .i64 (checkM (sb p)).1,.int .i64 ((checkM (sb p)).2:Int)]])∧Below w.heap.size w w'∧
  (((checkM (sb p)).1=0∧∃os,AltOk (sb p) 0 0 p.size os∧AltAt w' (Bet w.heap.size w'.heap.size) os u)∨(¬(checkM (sb p)).1=0∧u=.slice none 0 0))
theorem rp_res {base rb eb:Nat} {w:World} {a:Act} {u x y:Value} (hu:u.oneCell'=true) (ht:a.tmps.getD 2 undef=.pointer (some ⟨rb,0,none⟩)) (ht2:a.tmps.getD 3 undef=.pointer (some ⟨eb,0,none⟩)) (hr:BoxAt w base 171 1 rb [u]) (he:BoxAt w base 125 2 eb [x,y]):
  (results Tryz.f132 a.tmps).run Tryz.prog w=.ok (.tuple #[.agg #[u],.agg #[x,y]]) w:=by
 have p0:=hr.cell (j:=0) rfl
 have q0:=he.cell (j:=0) rfl
 have q1:=he.cell (j:=1) rfl
 have h1:a.tmps[2]?.getD undef=.pointer (some ⟨rb,0,none⟩):=by rw[←Array.getD_eq_getD_getElem?];exact ht
 have h2:a.tmps[3]?.getD undef=.pointer (some ⟨eb,0,none⟩):=by rw[←Array.getD_eq_getD_getElem?];exact ht2
 simp[results,Tryz.results132,go_sem,h1,h2,p0,q0,q1]
theorem rp_dies (p:ByteArray) (w wq:World) (a:Act) (c:Int) (k rb eb:Nat) (x:Value) (hrb:w.heap.size≤rb) (heb:w.heap.size≤eb) (hne:¬rb=eb) (hd:a.defers= [{target:=Target.fn (Fn.func 141) #[.pointer (some ⟨rb,0,none⟩),.pointer (some ⟨eb,0,none⟩)],args:=#[]}])
  (ht:a.tmps.getD 2 undef=.pointer (some ⟨rb,0,none⟩)) (ht2:a.tmps.getD 3 undef=.pointer (some ⟨eb,0,none⟩)) (hM:checkM (sb p)=(c,k)) (hc:¬c=0) (hr:BoxAt wq w.heap.size 171 1 rb [x]) (he:BoxAt wq w.heap.size 125 2 eb [.int .i64 0,.int .i64 0]) (hB:Below w.heap.size w wq):
  bodyPostD Tryz.prog Tryz.f132 (fun e w'=>ReadPost p w e w') (.panic [{v:=pfV c k,recovered:=false}]) a wq:=by
 show Leaves Tryz.prog Tryz.f132 a.tmps (fun e w'=>ReadPost p w e w') a.defers (.panicking [{v:=pfV c k,recovered:=false}]) wq
 rw[hd]
 refine leaves_cons (f:=141) (args:=#[.pointer (some ⟨rb,0,none⟩),.pointer (some ⟨eb,0,none⟩)]) (by simp) (by simp[go_sem]) ?_
 refine(rp_catch w.heap.size rb eb c k [] wq hc x hr he hne).mono ?_
 rintro e u' w'' ⟨rfl,rfl,hr2,he2,hC⟩
 show Leaves Tryz.prog Tryz.f132 a.tmps (fun e w'=>ReadPost p w e w') [] (settle (.panicking [{v:=pfV c k,recovered:=true}])) _
 refine⟨_,rp_res rfl ht ht2 hr2 he2,.slice none 0 0,by rw[hM],Chg.below hB hC hB.size (fun j q=>by omega),.inr ⟨by rw[hM];exact hc,rfl⟩⟩
theorem rp_done (p:ByteArray) (w wq:World) (a:Act) (rb eb:Nat) (u:Value) (os:List (List Pat)) (hu:u.oneCell'=true) (hd:a.defers= [{target:=Target.fn (Fn.func 141) #[.pointer (some ⟨rb,0,none⟩),.pointer (some ⟨eb,0,none⟩)],args:=#[]}])
  (ht:a.tmps.getD 2 undef=.pointer (some ⟨rb,0,none⟩)) (ht2:a.tmps.getD 3 undef=.pointer (some ⟨eb,0,none⟩)) (hM:checkM (sb p)=(0,0)) (hA:AltOk (sb p) 0 0 p.size os) (hU:AltAt wq (Bet w.heap.size wq.heap.size) os u) (hr:BoxAt wq w.heap.size 171 1 rb [u]) (he:BoxAt wq w.heap.size 125 2 eb [.int .i64 0,.int .i64 0]) (hB:Below w.heap.size w wq):
  bodyPostD Tryz.prog Tryz.f132 (fun e w'=>ReadPost p w e w') .ret a wq:=by
 show Leaves Tryz.prog Tryz.f132 a.tmps (fun e w'=>ReadPost p w e w') a.defers .returning wq
 rw[hd]
 refine leaves_cons (f:=141) (args:=#[.pointer (some ⟨rb,0,none⟩),.pointer (some ⟨eb,0,none⟩)]) (by simp) (by simp[go_sem]) ?_
 refine(rp_idle rb eb wq).mono ?_
 rintro e u' w'' ⟨rfl,rfl,hb⟩
 show Leaves Tryz.prog Tryz.f132 a.tmps (fun e w'=>ReadPost p w e w') [] (settle .returning) w''
 refine⟨_,rp_res hu ht ht2 (hr.below hb) (he.below hb),u,by rw[hM];rfl,hB.trans (hb.mono hB.size),.inl ⟨by rw[hM],os,hA,hU.move (S:=fun _=>False) (Chg.of_below hb) (fun q hq=>hq.elim) (fun q hq z=>⟨z.1,by have:=hb.size;omega⟩)⟩⟩
set_option maxHeartbeats 4000000 in
theorem readPattern_core (p:ByteArray) (w:World) (hpm:p.size≤maxLen):Calls Tryz.prog 132 #[.string p] w fun e w'=>ReadPost p w e w':=by
 have hmf:∀(fn:Fn) (first cap:Array Value) (w:World),(Instr.makeFunc fn first cap).run Tryz.prog w=.ok (.func fn first cap) w:=fun _ _ _ _=>rfl
 obtain⟨W0,hW0⟩:=qE ((w.alloc (Obj.cells #[.slice none 0 0] 171)).alloc (Obj.cells #[.int .i64 0,.int .i64 0] 125):World)
 have HW0:Hid (BoxAt W0 w.heap.size 171 1 w.heap.size [.slice none 0 0]∧BoxAt W0 w.heap.size 125 2 (w.heap.size+1) [.int .i64 0,.int .i64 0]∧Below w.heap.size w W0∧W0.heap.size=w.heap.size+2):=by
  rw[hW0]
  refine⟨BoxAt.ofHeap (vs:=#[.slice none 0 0]) (heap_alloc2_old w _ _) (Nat.le_refl _) rfl,BoxAt.ofHeap (vs:=#[.int .i64 0,.int .i64 0]) (heap_alloc2_new w _ _) (by omega) rfl,(qB).alloc (by simp) _,by simp⟩
 unfold maxLen at hpm
 by_cases hp:200<p.size
 ·have HM:Hid (checkM (sb p)=(1,0)):=by
   show checkM (sb p)=_
   unfold checkM;rw[if_pos (by rw[sb_len];exact hp)]
  have z:¬(p.size:Int)≤200:=by omega
  have z2:(200:Int)<(p.size:Int):=by omega
  go_enter_defers Tryz.func132,Tryz.ntmps132
  go_upto_region 1 with fail
  rw[←hW0]
  clear hW0
  have r0:=HW0.1.cell (j:=0) rfl
  have rf:=HW0.1.frozen 0
  have e0:=HW0.2.1.cell (j:=0) rfl
  have e1:=HW0.2.1.cell (j:=1) rfl
  have f0:=HW0.2.1.frozen 0
  have f1:=HW0.2.1.frozen 1
  obtain⟨W1,hW1⟩:=qE (((W0.setCell ⟨w.heap.size,0,none⟩ (.slice none 0 0)).setCell ⟨w.heap.size+1,0,none⟩ (.int .i64 1)).setCell ⟨w.heap.size+1,1,none⟩ (.int .i64 0):World)
  have HW1:Hid (BoxAt W1 w.heap.size 171 1 w.heap.size [.slice none 0 0]∧BoxAt W1 w.heap.size 125 2 (w.heap.size+1) [.int .i64 1,.int .i64 0]∧Below w.heap.size w W1):=by
   rw[hW1]
   exact⟨(((HW0.1.set 0 _).beside (by omega) 0 _).beside (by omega) 1 _),(((HW0.2.1.beside (by omega) 0 _).set 0 _).set 1 _),below_set (below_set (below_set HW0.2.2.1 (Nat.le_refl _) 0 _) (by omega) 0 _) (by omega) 1 _⟩
  go_wp2_with fail
  rw[←hW1]
  show Leaves Tryz.prog Tryz.f132 _ (fun e w'=>ReadPost p w e w') [] .returning W1
  refine⟨_,rp_res (a:={tmps:=_,defers:= []}) rfl rfl rfl HW1.1 HW1.2.1,.slice none 0 0,by rw[HM.out];rfl,HW1.2.2,.inr ⟨by rw[HM.out];decide,rfl⟩⟩
 have hp2:p.size≤200:=by omega
 have HM:Hid (checkM (sb p)=chkM (sb p) 0 0 false):=by
  show checkM (sb p)=_
  unfold checkM;rw[if_neg (by rw[sb_len];exact hp)]
 have z:(p.size:Int)≤200:=by omega
 obtain⟨W1,hW1⟩:=qE (W0.alloc (Obj.cells #[.string p,.int .i64 0,.int .i64 0] 181):World)
 have HW1:Hid (BoxAt W1 w.heap.size 171 1 w.heap.size [.slice none 0 0]∧BoxAt W1 w.heap.size 125 2 (w.heap.size+1) [.int .i64 0,.int .i64 0]∧PrAt W1 w.heap.size (w.heap.size+2) p 0 0∧Below w.heap.size w W1∧W1.heap.size=w.heap.size+3):=by
  have hb:Below W0.heap.size W0 W1:=by rw[hW1];exact qB
  have hz:=HW0.2.2.2
  refine⟨HW0.1.below hb,HW0.2.1.below hb,?_,HW0.2.2.1.trans (hb.mono (by omega)),by rw[hW1];simp;omega⟩
  rw[hW1,←hz]
  exact boxAt_new W0 #[.string p,.int .i64 0,.int .i64 0] (by omega) rfl
 go_enter_defers Tryz.func132,Tryz.ntmps132
 go_upto_region 1 with fail
 rw[←hW0]
 have hz0:W0.heap.size=w.heap.size+2:=HW0.2.2.2
 clear hW0 HW0
 go_upto_region 5 with fail
 rw[←hW1]
 clear hW1 hz0
 go_wp2_with fail
 refine(alt_core hp2 w.heap.size (w.heap.size+2) 0 0 W1 (Nat.zero_le _) (Nat.zero_le _) HW1.2.2.1).mono ?_
 rintro e w2 ⟨hC2,(⟨k,os,u,hA,hN,rfl,hU,hP2⟩|⟨c,k,hc,hk,rfl⟩)⟩
 case inr=>
  have hb2:Below w.heap.size w w2:=Chg.below HW1.2.2.2.1 hC2 HW1.2.2.2.1.size (fun j q=>by omega)
  exact rp_dies p w w2 _ c k w.heap.size (w.heap.size+1) _ (Nat.le_refl _) (by omega) (by omega) rfl rfl rfl (by rw[HM.out,hk]) hc (HW1.1.chg hC2 (by omega)) (HW1.2.1.chg hC2 (by omega)) hb2
 obtain⟨gu,nu,cu,rfl⟩:=hU.slice
 have hkp:k≤p.size:=by have:=hA.le;rw[sb_len]at this;exact this
 have HA:Hid (AltOk (sb p) 0 0 k os∧(∀c,(sb p)[k]?=some c→isEnd c∧¬c=124)):=⟨hA,hN⟩
 have HW2:Hid (BoxAt w2 w.heap.size 171 1 w.heap.size [.slice none 0 0]∧BoxAt w2 w.heap.size 125 2 (w.heap.size+1) [.int .i64 0,.int .i64 0]∧PrAt w2 w.heap.size (w.heap.size+2) p k 0∧Below w.heap.size w w2∧AltAt w2 (fun j=>w.heap.size+3≤j) os (.slice (some ⟨gu,0,none⟩) nu cu)):=by
  refine⟨HW1.1.chg hC2 (by omega),HW1.2.1.chg hC2 (by omega),hP2,Chg.below HW1.2.2.2.1 hC2 HW1.2.2.2.1.size (fun j q=>by omega),hU.move (S:=fun _=>False) (Chg.refl _ _) (fun q hq=>hq.elim) (fun q _ z=>by have h1:=z.1;rw[HW1.2.2.2.2]at h1;exact h1)⟩
 clear hC2 hA hN hU hP2 HW1
 obtain⟨W3,hW3⟩:=qE (w2.setCell ⟨w.heap.size,0,none⟩ (.slice (some ⟨gu,0,none⟩) nu cu):World)
 have HW3:Hid (BoxAt W3 w.heap.size 171 1 w.heap.size [.slice (some ⟨gu,0,none⟩) nu cu]∧BoxAt W3 w.heap.size 125 2 (w.heap.size+1) [.int .i64 0,.int .i64 0]∧PrAt W3 w.heap.size (w.heap.size+2) p k 0∧Below w.heap.size w W3∧AltAt W3 (fun j=>w.heap.size+3≤j) os (.slice (some ⟨gu,0,none⟩) nu cu)):=by
  have hc:=Chg.of_set w2 w.heap.size 0 (.slice (some ⟨gu,0,none⟩) nu cu) (S:=fun j=>j=w.heap.size) rfl
  rw[hW3]
  exact⟨HW2.1.set 0 _,HW2.2.1.chg hc (by omega),BoxAt.chg HW2.2.2.1 hc (by omega),below_set HW2.2.2.2.1 (Nat.le_refl _) 0 _,HW2.2.2.2.2.move hc (fun q hq=>by subst hq;exact fun z=>by omega) (fun q _ z=>z)⟩
 have r0:=HW2.1.cell (j:=0) rfl
 have rf:=HW2.1.frozen 0
 clear HW2
 go_upto_region 6 with fail
 rw[←hW3]
 clear hW3 r0 rf
 have c1:=HW3.2.2.1.cell (j:=1) rfl
 by_cases hke:k=p.size
 ·have zk:(k:Int)=(p.size:Int):=by omega
  have HOk:Hid (checkM (sb p)=(0,0)∧AltOk (sb p) 0 0 p.size os):=by
   refine⟨?_,by rw[←hke];exact HA.1⟩
   rw[HM.out,HA.1.chk,chk_end (by rw[sb_len];omega),if_neg (by omega)]
  clear HA hke
  go_wp2_with fail
  refine(pdem_core _ HW3.2.2.1).mono ?_
  rintro e w5 ⟨hw5,(⟨hc,rfl⟩|⟨hc,rfl⟩)⟩
  case inr=>exfalso;(simp at hc)<;>omega
  rw[hw5]
  clear hw5 hc c1
  have r0:=HW3.1.cell (j:=0) rfl
  have rf:=HW3.1.frozen 0
  have e0:=HW3.2.1.cell (j:=0) rfl
  have e1:=HW3.2.1.cell (j:=1) rfl
  have f0:=HW3.2.1.frozen 0
  have f1:=HW3.2.1.frozen 1
  obtain⟨W6,hW6⟩:=qE (((W3.setCell ⟨w.heap.size,0,none⟩ (.slice (some ⟨gu,0,none⟩) nu cu)).setCell ⟨w.heap.size+1,0,none⟩ (.int .i64 0)).setCell ⟨w.heap.size+1,1,none⟩ (.int .i64 0):World)
  have HW6:Hid (BoxAt W6 w.heap.size 171 1 w.heap.size [.slice (some ⟨gu,0,none⟩) nu cu]∧BoxAt W6 w.heap.size 125 2 (w.heap.size+1) [.int .i64 0,.int .i64 0]∧Below w.heap.size w W6∧AltAt W6 (Bet w.heap.size W6.heap.size) os (.slice (some ⟨gu,0,none⟩) nu cu)):=by
   have c1:=Chg.of_set W3 w.heap.size 0 (.slice (some ⟨gu,0,none⟩) nu cu) (S:=fun j=>j=w.heap.size∨j=w.heap.size+1) (.inl rfl)
   have c2:=c1.trans (Chg.of_set _ (w.heap.size+1) 0 (.int .i64 0) (S:=fun j=>j=w.heap.size∨j=w.heap.size+1) (.inr rfl))
   have c3:=c2.trans (Chg.of_set _ (w.heap.size+1) 1 (.int .i64 0) (S:=fun j=>j=w.heap.size∨j=w.heap.size+1) (.inr rfl))
   rw[hW6]
   exact⟨(((HW3.1.set 0 _).beside (by omega) 0 _).beside (by omega) 1 _),(((HW3.2.1.beside (by omega) 0 _).set 0 _).set 1 _),below_set (below_set (below_set HW3.2.2.2.1 (Nat.le_refl _) 0 _) (by omega) 0 _) (by omega) 1 _,HW3.2.2.2.2.move c3 (fun q hq=>fun z=>by omega) (fun q hq z=>⟨by omega,by have:=c3.size;omega⟩)⟩
  go_wp2_with fail
  rw[←hW6]
  exact rp_done p w W6 _ w.heap.size (w.heap.size+1) _ os rfl rfl rfl rfl HOk.1 HOk.2 HW6.2.2.2 HW6.1 HW6.2.1 HW6.2.2.1
 ·have zk:¬(k:Int)=(p.size:Int):=by omega
  have HOk:Hid (checkM (sb p)=(2,k)):=by
   show checkM (sb p)=_
   obtain⟨c,hc⟩:∃c,(sb p)[k]?=some c:=⟨_,List.getElem?_eq_getElem (by rw[sb_len];omega)⟩
   obtain⟨h1,h2⟩:=HA.2 c hc
   rw[HM.out,HA.1.chk]
   rcases h1 with h1|h1|h1|h1
   ·rw[chk_op hc h1];rfl
   ·exact absurd h1 h2
   ·subst h1;rw[chk_close hc,if_pos rfl]
   ·subst h1;rw[chk_rb hc]
  clear HA hke
  go_wp2_with fail
  refine(pdem_core _ HW3.2.2.1).mono ?_
  rintro e w5 ⟨hw5,(⟨hc,rfl⟩|⟨hc,rfl⟩)⟩
  ·exfalso;(simp at hc)<;>omega
  rw[hw5]
  exact rp_dies p w W3 _ 2 k w.heap.size (w.heap.size+1) _ (Nat.le_refl _) (by omega) (by omega) rfl rfl rfl HOk.out (by decide) HW3.1 HW3.2.1 HW3.2.2.2.1
set_option maxHeartbeats 2000000 in
theorem implCheck_core (p:ByteArray) (w:World) (hpm:p.size≤maxLen):Calls Tryz.prog 119 #[.string p] w fun e w'=>e=.returned (.agg #[.int .i64 (checkM (sb p)).1,.int .i64 ((checkM (sb p)).2:Int)])∧Below w.heap.size w w':=by
 obtain⟨W0,hW0⟩:=qE (w.alloc (Obj.cells #[.int .i64 0,.int .i64 0] 125):World)
 have HW0:Hid (BoxAt W0 w.heap.size 125 2 w.heap.size [.int .i64 0,.int .i64 0]∧Below w.heap.size w W0):=by
  rw[hW0];exact⟨boxAt_new w _ (Nat.le_refl _) rfl,qB⟩
 obtain⟨c,hc⟩:=qE ((checkM (sb p)).1)
 obtain⟨k,hk⟩:=qE ((checkM (sb p)).2)
 rw[←hc,←hk]
 go_enter Tryz.func119,Tryz.ntmps119
 go_upto_region 1 with fail
 rw[←hW0]
 clear hW0
 go_wp2_with fail
 refine(readPattern_core p W0 hpm).mono ?_
 rintro e w1 ⟨u,rfl,hb1,hu⟩
 rw[←hc,←hk]
 obtain⟨ua,un,uc,rfl⟩:∃a n cp,u=.slice a n cp:=by
  rcases hu with⟨_,os,_,hU⟩|⟨_,rfl⟩
  ·obtain⟨g,n,cp,rfl⟩:=hU.slice;exact⟨_,_,_,rfl⟩
  ·exact⟨_,_,_,rfl⟩
 clear hu hc hk
 obtain⟨W2,hW2⟩:=qE ((w1.alloc (Obj.cells #[.slice ua un uc] 171)).alloc (Obj.cells #[.int .i64 c,.int .i64 (k:Int)] 125):World)
 have HW2:Hid (BoxAt W2 w.heap.size 125 2 w.heap.size [.int .i64 0,.int .i64 0]∧BoxAt W2 w.heap.size 125 2 (w1.heap.size+1) [.int .i64 c,.int .i64 (k:Int)]∧Below w.heap.size w W2):=by
  have hb2:Below w1.heap.size w1 W2:=by rw[hW2];exact(qB).alloc (by simp) _
  have h1:=HW0.2.size
  have h2:=hb1.size
  refine⟨(HW0.1.below hb1).below hb2,?_,(HW0.2.trans (hb1.mono h1)).trans (hb2.mono (by omega))⟩
  rw[hW2]
  exact BoxAt.ofHeap (vs:=#[.int .i64 c,.int .i64 (k:Int)]) (heap_alloc2_new w1 _ _) (by omega) rfl
 clear hb1 HW0
 go_upto_region 2 with fail
 rw[←hW2]
 clear hW2
 have b0:=HW2.2.1.cell (j:=0) rfl
 have b1:=HW2.2.1.cell (j:=1) rfl
 have r0:=HW2.1.cell (j:=0) rfl
 have r1:=HW2.1.cell (j:=1) rfl
 have f0:=HW2.1.frozen 0
 have f1:=HW2.1.frozen 1
 have hbx:=(HW2.1.set 0 (.int .i64 c)).set 1 (.int .i64 (k:Int))
 have p0:=hbx.cell (j:=0) rfl
 have p1:=hbx.cell (j:=1) rfl
 have HB3:Hid (Below w.heap.size w ((W2.setCell ⟨w.heap.size,0,none⟩ (.int .i64 c)).setCell ⟨w.heap.size,1,none⟩ (.int .i64 (k:Int)))):=below_set (below_set HW2.2.2 (Nat.le_refl _) 0 _) (Nat.le_refl _) 1 _
 obtain⟨W3,hW3⟩:=qE ((W2.setCell ⟨w.heap.size,0,none⟩ (.int .i64 c)).setCell ⟨w.heap.size,1,none⟩ (.int .i64 (k:Int)):World)
 rw[←hW3]at p0 p1 HB3
 clear hbx
 go_wp2_with fail
 rw[←hW3]
 refine bodyPost_ret (v:=.agg #[.int .i64 c,.int .i64 (k:Int)]) (by simp[results,Tryz.results119,go_sem,p0,p1]) rfl ⟨rfl,HB3.out⟩
abbrev less (a b:ByteArray):Prop:=Op.bytesLess a.toList b.toList=true
theorem ndEq_run (k:Int) (s:ByteArray) (h:Bool) (t:ByteArray) (l u n k':Int) (s':ByteArray) (h':Bool) (t':ByteArray) (l' u' n':Int) (wx:World):
  (binOp .eql 65 (.agg #[.int .i64 k,.string s,.bool h,.string t,.int .u64 l,.int .u64 u,.int .i64 n]) (.agg #[.int .i64 k',.string s',.bool h',.string t',.int .u64 l',.int .u64 u',.int .i64 n'])).run Tryz.prog wx=.ok (.bool (decide (k=k'∧s.toList=s'.toList∧h=h'∧t.toList=t'.toList∧l=l'∧u=u'∧n=n'))) wx:=by
 go_simp
 repeat' split
 all_goals simp_all
set_option maxHeartbeats 1000000 in
theorem bareS_core (e:Nd) (w:World):Calls Tryz.prog 77 #[e.v,.bool true,.bool false,.bool false,.bool false,.bool false] w fun r w'=>∃b,r=.returned (.bool b)∧(b=true↔e.hi=false∧e.t.toList= []∧e.lo=0∧e.up=0∧e.n=0)∧Below w.heap.size w w':=by
 exact zzQ36
set_option maxHeartbeats 1000000 in
theorem bareST_core (e:Nd) (w:World):Calls Tryz.prog 77 #[e.v,.bool true,.bool true,.bool true,.bool false,.bool false] w fun r w'=>∃b,r=.returned (.bool b)∧(b=true↔e.lo=0∧e.up=0∧e.n=0)∧Below w.heap.size w w':=by
 exact zzQ36
set_option maxHeartbeats 1000000 in
theorem bareN_core (e:Nd) (w:World):Calls Tryz.prog 77 #[e.v,.bool false,.bool true,.bool false,.bool true,.bool false] w fun r w'=>∃b,r=.returned (.bool b)∧(b=true↔e.s.toList= []∧e.t.toList= []∧e.n=0)∧Below w.heap.size w w':=by
 exact zzQ36
set_option maxHeartbeats 1000000 in
theorem bareC_core (e:Nd) (w:World):Calls Tryz.prog 77 #[e.v,.bool false,.bool false,.bool false,.bool false,.bool true] w fun r w'=>∃b,r=.returned (.bool b)∧(b=true↔e.s.toList= []∧e.hi=false∧e.t.toList= []∧e.lo=0∧e.up=0)∧Below w.heap.size w w':=by
 exact zzQ36
set_option maxHeartbeats 1000000 in
theorem bareZ_core (e:Nd) (w:World):Calls Tryz.prog 77 #[e.v,.bool false,.bool false,.bool false,.bool false,.bool false] w fun r w'=>∃b,r=.returned (.bool b)∧(b=true↔e.s.toList= []∧e.hi=false∧e.t.toList= []∧e.lo=0∧e.up=0∧e.n=0)∧Below w.heap.size w w':=by
 exact zzQ36
set_option maxHeartbeats 1000000 in
theorem ends_core (e:Nd) (w:World):Calls Tryz.prog 120 #[e.v] w fun r w'=>∃b,r=.returned (.bool b)∧(b=true↔((e.hi=false∧e.t.toList= []∧e.up=0)∨(e.hi=true∧(less e.s e.t∨e.lo<e.up))))∧Below w.heap.size w w':=by
 go_enter Tryz.func120,Tryz.ntmps120
 go_wp2_with fail
 all_goals go_ret
 all_goals exact⟨_,rfl,by simp_all[less],qB⟩
def GoodN (e:Nd):Prop:=e.s.size≤200∧e.t.size≤200∧(e.hi=false→e.t.toList= []∧e.up=0)∧
 (((e.kind=4∨e.kind=5∨e.kind=6∨e.kind=7)∧(e.hi=false∧e.t.toList= []∧e.lo=0∧e.up=0∧e.n=0)∧(checkM (sb e.s)).1=0)∨
  ((e.kind=8∨e.kind=9)∧(e.lo=0∧e.up=0∧e.n=0)∧(e.hi=true→less e.s e.t))∨
  (e.kind=10∧(e.s.toList= []∧e.t.toList= []∧e.n=0)∧(e.hi=true→e.lo<e.up))∨
  ((e.kind=11∨e.kind=12∨e.kind=13)∧(e.s.toList= []∧e.hi=false∧e.t.toList= []∧e.lo=0∧e.up=0)∧1≤e.n∧e.n≤1000)∨
  ((e.kind=1∨e.kind=2∨e.kind=3∨e.kind=14∨e.kind=15∨e.kind=16)∧(e.s.toList= []∧e.hi=false∧e.t.toList= []∧e.lo=0∧e.up=0∧e.n=0)))
theorem regField (c k:Int) (w:World):(Instr.field 125 (.agg #[.int .i64 c,.int .i64 k]) 0).run Tryz.prog w=.ok (.int .i64 c) w:=by kernel_rfl
def NdPost (e:Nd) (w:World) (r:Ending) (w':World):Prop:=∃b,r=.returned (.bool b)∧(b=true↔GoodN e)∧Below w.heap.size w w'
set_option maxHeartbeats 8000000 in
theorem good_core (e:Nd) (w:World) (hs:e.s.size≤maxLen) (ht:e.t.size≤maxLen):Calls Tryz.prog 38 #[e.v] w (NdPost e w):=by
 obtain⟨kind,s,hi,t,lo,up,n⟩:=e
 have HS:Hid (s.size≤maxLen):=hs
 unfold maxLen at hs ht
 simp only[]at hs ht
 obtain⟨W0,hW0⟩:=qE (w.alloc (Obj.cells #[.int .i64 kind,.string s,.bool hi,.string t,.int .u64 lo,.int .u64 up,.int .i64 n] 65):World)
 have HW0:Hid (BoxAt W0 w.heap.size 65 7 w.heap.size [.int .i64 kind,.string s,.bool hi,.string t,.int .u64 lo,.int .u64 up,.int .i64 n]∧Below w.heap.size w W0):=by
  rw[hW0];exact⟨boxAt_new w _ (Nat.le_refl _) rfl,qB⟩
 have hbw:=HW0.2.size
 have c0:=HW0.1.cell (j:=0) rfl
 have c1:=HW0.1.cell (j:=1) rfl
 have c2:=HW0.1.cell (j:=2) rfl
 have c3:=HW0.1.cell (j:=3) rfl
 have c4:=HW0.1.cell (j:=4) rfl
 have c5:=HW0.1.cell (j:=5) rfl
 have c6:=HW0.1.cell (j:=6) rfl
 go_enter Tryz.func38,Tryz.ntmps38
 go_upto_region 1 with fail
 rw[←hW0]
 clear hW0
 by_cases hgood:s.size≤200∧t.size≤200∧(hi=true∨(hi=false∧t.toList= []∧up=0))
 case neg=>
  have HG:Hid (¬GoodN ⟨kind,s,hi,t,lo,up,n⟩):=fun q=>hgood ⟨q.1,q.2.1,by
   cases hi
   ·exact .inr ⟨rfl,q.2.2.1 rfl⟩
   ·exact .inl rfl⟩
  by_cases h1:s.size≤200
  ·have z1:¬(200:Int)<(s.size:Int):=by omega
   by_cases h2:t.size≤200
   ·have z2:¬(200:Int)<(t.size:Int):=by omega
    have hhi:hi=false:=by cases hi;rfl;exact absurd ⟨h1,h2,.inl rfl⟩ hgood
    subst hhi
    by_cases h3:t.toList= []
    ·have h4:¬up=0:=fun q=>hgood ⟨h1,h2,.inr ⟨rfl,h3,q⟩⟩
     exact zzQ41
    ·exact zzQ41
   ·have z2:(200:Int)<(t.size:Int):=by omega
    exact zzQ41
  ·have z1:(200:Int)<(s.size:Int):=by omega
   exact zzQ41
 have HG:Hid (s.size≤200∧t.size≤200∧(hi=false→t.toList= []∧up=0)):=⟨hgood.1,hgood.2.1,fun q=>hgood.2.2.elim (fun z=>by rw[q]at z;cases z) (fun z=>z.2)⟩
 go_cut[27] (fun s wx=>s=.bool false∧wx=W0)
 case first=>
  have z1:¬(200:Int)<(s.size:Int):=by have:=HG.1;omega
  have z2:¬(200:Int)<(t.size:Int):=by have:=HG.2.1;omega
  rcases hgood.2.2 with rfl|⟨rfl,h3,rfl⟩
  ·go_wp2_with fail
   go_meet
   exact⟨rfl,rfl⟩
  ·go_wp2_with fail
   go_meet
   exact⟨rfl,rfl⟩
 case rest=>
 obtain⟨rfl,rfl⟩:=hcut
 clear hgood hs ht
 obtain⟨c,hc⟩:=qE ((checkM (sb s)).1)
 obtain⟨k,hk⟩:=qE (((checkM (sb s)).2:Int):Int)
 have HV:Hid (c=(checkM (sb s)).1):=hc
 have HC:Hid (∀w,Calls Tryz.prog 78 #[.string s] w fun e w'=>e=.returned (.agg #[.int .i64 c,.int .i64 k])∧Below w.heap.size w w'):=fun w=>by
  rw[hc,hk];exact specCheck_core s w HS.out
 clear hc hk
 by_cases k4:kind=4
 ·subst k4
  go_wp2_with fail
  refine(bareS_core ⟨4,s,hi,t,lo,up,n⟩ _).mono ?_
  rintro r w1 ⟨b,rfl,hb,hb1⟩
  have HB:Hid (b=true↔(hi=false∧t.toList= []∧lo=0∧up=0∧n=0)):=hb
  have d0:=(HW0.1.below hb1).cell (j:=0) rfl
  have d1:=(HW0.1.below hb1).cell (j:=1) rfl
  have d2:=(HW0.1.below hb1).cell (j:=2) rfl
  have d3:=(HW0.1.below hb1).cell (j:=3) rfl
  have d4:=(HW0.1.below hb1).cell (j:=4) rfl
  have d5:=(HW0.1.below hb1).cell (j:=5) rfl
  have d6:=(HW0.1.below hb1).cell (j:=6) rfl
  clear hb
  cases b
  ·have HF:Hid (¬GoodN ⟨4,s,hi,t,lo,up,n⟩):=by
    show¬GoodN _
    have hB:=HB.out
    intro q
    simp[GoodN]at q hB
    simp_all
   exact zzQ14
  ·exact zzQ13
 by_cases k5:kind=5
 ·subst k5
  go_wp2_with fail
  refine(bareS_core ⟨5,s,hi,t,lo,up,n⟩ _).mono ?_
  rintro r w1 ⟨b,rfl,hb,hb1⟩
  have HB:Hid (b=true↔(hi=false∧t.toList= []∧lo=0∧up=0∧n=0)):=hb
  have d0:=(HW0.1.below hb1).cell (j:=0) rfl
  have d1:=(HW0.1.below hb1).cell (j:=1) rfl
  have d2:=(HW0.1.below hb1).cell (j:=2) rfl
  have d3:=(HW0.1.below hb1).cell (j:=3) rfl
  have d4:=(HW0.1.below hb1).cell (j:=4) rfl
  have d5:=(HW0.1.below hb1).cell (j:=5) rfl
  have d6:=(HW0.1.below hb1).cell (j:=6) rfl
  clear hb
  cases b
  ·have HF:Hid (¬GoodN ⟨5,s,hi,t,lo,up,n⟩):=by
    show¬GoodN _
    have hB:=HB.out
    intro q
    simp[GoodN]at q hB
    simp_all
   exact zzQ14
  ·exact zzQ13
 by_cases k6:kind=6
 ·subst k6
  go_wp2_with fail
  refine(bareS_core ⟨6,s,hi,t,lo,up,n⟩ _).mono ?_
  rintro r w1 ⟨b,rfl,hb,hb1⟩
  have HB:Hid (b=true↔(hi=false∧t.toList= []∧lo=0∧up=0∧n=0)):=hb
  have d0:=(HW0.1.below hb1).cell (j:=0) rfl
  have d1:=(HW0.1.below hb1).cell (j:=1) rfl
  have d2:=(HW0.1.below hb1).cell (j:=2) rfl
  have d3:=(HW0.1.below hb1).cell (j:=3) rfl
  have d4:=(HW0.1.below hb1).cell (j:=4) rfl
  have d5:=(HW0.1.below hb1).cell (j:=5) rfl
  have d6:=(HW0.1.below hb1).cell (j:=6) rfl
  clear hb
  cases b
  ·have HF:Hid (¬GoodN ⟨6,s,hi,t,lo,up,n⟩):=by
    show¬GoodN _
    have hB:=HB.out
    intro q
    simp[GoodN]at q hB
    simp_all
   exact zzQ14
  ·exact zzQ13
 by_cases k7:kind=7
 ·subst k7
  go_wp2_with fail
  refine(bareS_core ⟨7,s,hi,t,lo,up,n⟩ _).mono ?_
  rintro r w1 ⟨b,rfl,hb,hb1⟩
  have HB:Hid (b=true↔(hi=false∧t.toList= []∧lo=0∧up=0∧n=0)):=hb
  have d0:=(HW0.1.below hb1).cell (j:=0) rfl
  have d1:=(HW0.1.below hb1).cell (j:=1) rfl
  have d2:=(HW0.1.below hb1).cell (j:=2) rfl
  have d3:=(HW0.1.below hb1).cell (j:=3) rfl
  have d4:=(HW0.1.below hb1).cell (j:=4) rfl
  have d5:=(HW0.1.below hb1).cell (j:=5) rfl
  have d6:=(HW0.1.below hb1).cell (j:=6) rfl
  clear hb
  cases b
  ·have HF:Hid (¬GoodN ⟨7,s,hi,t,lo,up,n⟩):=by
    show¬GoodN _
    have hB:=HB.out
    intro q
    simp[GoodN]at q hB
    simp_all
   exact zzQ14
  ·exact zzQ13
 by_cases k8:kind=8
 ·subst k8
  go_wp2_with fail
  refine(bareST_core ⟨8,s,hi,t,lo,up,n⟩ _).mono ?_
  rintro r w1 ⟨b,rfl,hb,hb1⟩
  have HB:Hid (b=true↔(lo=0∧up=0∧n=0)):=hb
  have d0:=(HW0.1.below hb1).cell (j:=0) rfl
  have d1:=(HW0.1.below hb1).cell (j:=1) rfl
  have d2:=(HW0.1.below hb1).cell (j:=2) rfl
  have d3:=(HW0.1.below hb1).cell (j:=3) rfl
  have d4:=(HW0.1.below hb1).cell (j:=4) rfl
  have d5:=(HW0.1.below hb1).cell (j:=5) rfl
  have d6:=(HW0.1.below hb1).cell (j:=6) rfl
  clear hb
  cases b
  ·have HF:Hid (¬GoodN ⟨8,s,hi,t,lo,up,n⟩):=by
    show¬GoodN _
    have hB:=HB.out
    intro q
    simp[GoodN]at q hB
    simp_all
   exact zzQ14
  ·have HF:Hid (GoodN ⟨8,s,hi,t,lo,up,n⟩↔(hi=true→less s t)):=by
    show GoodN _↔_
    have hB:=HB.out
    have hG:=HG.out
    simp at hB
    simp[GoodN]
    simp_all
   cases hi
   ·exact zzQ14
   ·go_wp2_with fail
    go_ret
    exact⟨_,rfl,by simp[HF.out,less],HW0.2.trans (hb1.mono hbw)⟩
 by_cases k9:kind=9
 ·subst k9
  go_wp2_with fail
  refine(bareST_core ⟨9,s,hi,t,lo,up,n⟩ _).mono ?_
  rintro r w1 ⟨b,rfl,hb,hb1⟩
  have HB:Hid (b=true↔(lo=0∧up=0∧n=0)):=hb
  have d0:=(HW0.1.below hb1).cell (j:=0) rfl
  have d1:=(HW0.1.below hb1).cell (j:=1) rfl
  have d2:=(HW0.1.below hb1).cell (j:=2) rfl
  have d3:=(HW0.1.below hb1).cell (j:=3) rfl
  have d4:=(HW0.1.below hb1).cell (j:=4) rfl
  have d5:=(HW0.1.below hb1).cell (j:=5) rfl
  have d6:=(HW0.1.below hb1).cell (j:=6) rfl
  clear hb
  cases b
  ·have HF:Hid (¬GoodN ⟨9,s,hi,t,lo,up,n⟩):=by
    show¬GoodN _
    have hB:=HB.out
    intro q
    simp[GoodN]at q hB
    simp_all
   exact zzQ14
  ·have HF:Hid (GoodN ⟨9,s,hi,t,lo,up,n⟩↔(hi=true→less s t)):=by
    show GoodN _↔_
    have hB:=HB.out
    have hG:=HG.out
    simp at hB
    simp[GoodN]
    simp_all
   cases hi
   ·exact zzQ14
   ·go_wp2_with fail
    go_ret
    exact⟨_,rfl,by simp[HF.out,less],HW0.2.trans (hb1.mono hbw)⟩
 by_cases k10:kind=10
 ·subst k10
  go_wp2_with fail
  refine(bareN_core ⟨10,s,hi,t,lo,up,n⟩ _).mono ?_
  rintro r w1 ⟨b,rfl,hb,hb1⟩
  have HB:Hid (b=true↔(s.toList= []∧t.toList= []∧n=0)):=hb
  have d0:=(HW0.1.below hb1).cell (j:=0) rfl
  have d1:=(HW0.1.below hb1).cell (j:=1) rfl
  have d2:=(HW0.1.below hb1).cell (j:=2) rfl
  have d3:=(HW0.1.below hb1).cell (j:=3) rfl
  have d4:=(HW0.1.below hb1).cell (j:=4) rfl
  have d5:=(HW0.1.below hb1).cell (j:=5) rfl
  have d6:=(HW0.1.below hb1).cell (j:=6) rfl
  clear hb
  cases b
  ·have HF:Hid (¬GoodN ⟨10,s,hi,t,lo,up,n⟩):=by
    show¬GoodN _
    have hB:=HB.out
    intro q
    simp[GoodN]at q hB
    simp_all
   exact zzQ14
  ·have HF:Hid (GoodN ⟨10,s,hi,t,lo,up,n⟩↔(hi=true→lo<up)):=by
    show GoodN _↔_
    have hB:=HB.out
    have hG:=HG.out
    simp at hB
    simp[GoodN]
    simp_all
   cases hi
   ·exact zzQ14
   ·exact zzQ14
 by_cases k11:kind=11
 ·subst k11
  go_wp2_with fail
  refine(bareC_core ⟨11,s,hi,t,lo,up,n⟩ _).mono ?_
  rintro r w1 ⟨b,rfl,hb,hb1⟩
  have HB:Hid (b=true↔(s.toList= []∧hi=false∧t.toList= []∧lo=0∧up=0)):=hb
  have d0:=(HW0.1.below hb1).cell (j:=0) rfl
  have d1:=(HW0.1.below hb1).cell (j:=1) rfl
  have d2:=(HW0.1.below hb1).cell (j:=2) rfl
  have d3:=(HW0.1.below hb1).cell (j:=3) rfl
  have d4:=(HW0.1.below hb1).cell (j:=4) rfl
  have d5:=(HW0.1.below hb1).cell (j:=5) rfl
  have d6:=(HW0.1.below hb1).cell (j:=6) rfl
  clear hb
  cases b
  ·have HF:Hid (¬GoodN ⟨11,s,hi,t,lo,up,n⟩):=by
    show¬GoodN _
    have hB:=HB.out
    intro q
    simp[GoodN]at q hB
    simp_all
   exact zzQ14
  ·have HF:Hid (GoodN ⟨11,s,hi,t,lo,up,n⟩↔(1≤n∧n≤1000)):=by
    show GoodN _↔_
    have hB:=HB.out
    have hG:=HG.out
    simp at hB
    simp[GoodN]
    simp_all
   by_cases h1:1≤n
   ·exact zzQ33
   ·exact zzQ33
 by_cases k12:kind=12
 ·subst k12
  go_wp2_with fail
  refine(bareC_core ⟨12,s,hi,t,lo,up,n⟩ _).mono ?_
  rintro r w1 ⟨b,rfl,hb,hb1⟩
  have HB:Hid (b=true↔(s.toList= []∧hi=false∧t.toList= []∧lo=0∧up=0)):=hb
  have d0:=(HW0.1.below hb1).cell (j:=0) rfl
  have d1:=(HW0.1.below hb1).cell (j:=1) rfl
  have d2:=(HW0.1.below hb1).cell (j:=2) rfl
  have d3:=(HW0.1.below hb1).cell (j:=3) rfl
  have d4:=(HW0.1.below hb1).cell (j:=4) rfl
  have d5:=(HW0.1.below hb1).cell (j:=5) rfl
  have d6:=(HW0.1.below hb1).cell (j:=6) rfl
  clear hb
  cases b
  ·have HF:Hid (¬GoodN ⟨12,s,hi,t,lo,up,n⟩):=by
    show¬GoodN _
    have hB:=HB.out
    intro q
    simp[GoodN]at q hB
    simp_all
   exact zzQ14
  ·have HF:Hid (GoodN ⟨12,s,hi,t,lo,up,n⟩↔(1≤n∧n≤1000)):=by
    show GoodN _↔_
    have hB:=HB.out
    have hG:=HG.out
    simp at hB
    simp[GoodN]
    simp_all
   by_cases h1:1≤n
   ·exact zzQ33
   ·exact zzQ33
 by_cases k13:kind=13
 ·subst k13
  go_wp2_with fail
  refine(bareC_core ⟨13,s,hi,t,lo,up,n⟩ _).mono ?_
  rintro r w1 ⟨b,rfl,hb,hb1⟩
  have HB:Hid (b=true↔(s.toList= []∧hi=false∧t.toList= []∧lo=0∧up=0)):=hb
  have d0:=(HW0.1.below hb1).cell (j:=0) rfl
  have d1:=(HW0.1.below hb1).cell (j:=1) rfl
  have d2:=(HW0.1.below hb1).cell (j:=2) rfl
  have d3:=(HW0.1.below hb1).cell (j:=3) rfl
  have d4:=(HW0.1.below hb1).cell (j:=4) rfl
  have d5:=(HW0.1.below hb1).cell (j:=5) rfl
  have d6:=(HW0.1.below hb1).cell (j:=6) rfl
  clear hb
  cases b
  ·have HF:Hid (¬GoodN ⟨13,s,hi,t,lo,up,n⟩):=by
    show¬GoodN _
    have hB:=HB.out
    intro q
    simp[GoodN]at q hB
    simp_all
   exact zzQ14
  ·have HF:Hid (GoodN ⟨13,s,hi,t,lo,up,n⟩↔(1≤n∧n≤1000)):=by
    show GoodN _↔_
    have hB:=HB.out
    have hG:=HG.out
    simp at hB
    simp[GoodN]
    simp_all
   by_cases h1:1≤n
   ·exact zzQ33
   ·exact zzQ33
 by_cases k1:kind=1
 ·subst k1
  go_wp2_with fail
  refine(bareZ_core ⟨1,s,hi,t,lo,up,n⟩ _).mono ?_
  rintro r w1 ⟨b,rfl,hb,hb1⟩
  have HB:Hid (b=true↔(s.toList= []∧hi=false∧t.toList= []∧lo=0∧up=0∧n=0)):=hb
  have HF:Hid (b=true↔GoodN ⟨1,s,hi,t,lo,up,n⟩):=by
   show b=true↔GoodN _
   have hB:=HB.out
   have hG:=HG.out
   rw[hB]
   simp[GoodN]
   simp_all
  exact zzQ39
 by_cases k2:kind=2
 ·subst k2
  go_wp2_with fail
  refine(bareZ_core ⟨2,s,hi,t,lo,up,n⟩ _).mono ?_
  rintro r w1 ⟨b,rfl,hb,hb1⟩
  have HB:Hid (b=true↔(s.toList= []∧hi=false∧t.toList= []∧lo=0∧up=0∧n=0)):=hb
  have HF:Hid (b=true↔GoodN ⟨2,s,hi,t,lo,up,n⟩):=by
   show b=true↔GoodN _
   have hB:=HB.out
   have hG:=HG.out
   rw[hB]
   simp[GoodN]
   simp_all
  exact zzQ39
 by_cases k3:kind=3
 ·subst k3
  go_wp2_with fail
  refine(bareZ_core ⟨3,s,hi,t,lo,up,n⟩ _).mono ?_
  rintro r w1 ⟨b,rfl,hb,hb1⟩
  have HB:Hid (b=true↔(s.toList= []∧hi=false∧t.toList= []∧lo=0∧up=0∧n=0)):=hb
  have HF:Hid (b=true↔GoodN ⟨3,s,hi,t,lo,up,n⟩):=by
   show b=true↔GoodN _
   have hB:=HB.out
   have hG:=HG.out
   rw[hB]
   simp[GoodN]
   simp_all
  exact zzQ39
 by_cases k14:kind=14
 ·subst k14
  go_wp2_with fail
  refine(bareZ_core ⟨14,s,hi,t,lo,up,n⟩ _).mono ?_
  rintro r w1 ⟨b,rfl,hb,hb1⟩
  have HB:Hid (b=true↔(s.toList= []∧hi=false∧t.toList= []∧lo=0∧up=0∧n=0)):=hb
  have HF:Hid (b=true↔GoodN ⟨14,s,hi,t,lo,up,n⟩):=by
   show b=true↔GoodN _
   have hB:=HB.out
   have hG:=HG.out
   rw[hB]
   simp[GoodN]
   simp_all
  exact zzQ39
 by_cases k15:kind=15
 ·subst k15
  go_wp2_with fail
  refine(bareZ_core ⟨15,s,hi,t,lo,up,n⟩ _).mono ?_
  rintro r w1 ⟨b,rfl,hb,hb1⟩
  have HB:Hid (b=true↔(s.toList= []∧hi=false∧t.toList= []∧lo=0∧up=0∧n=0)):=hb
  have HF:Hid (b=true↔GoodN ⟨15,s,hi,t,lo,up,n⟩):=by
   show b=true↔GoodN _
   have hB:=HB.out
   have hG:=HG.out
   rw[hB]
   simp[GoodN]
   simp_all
  exact zzQ39
 by_cases k16:kind=16
 ·subst k16
  go_wp2_with fail
  refine(bareZ_core ⟨16,s,hi,t,lo,up,n⟩ _).mono ?_
  rintro r w1 ⟨b,rfl,hb,hb1⟩
  have HB:Hid (b=true↔(s.toList= []∧hi=false∧t.toList= []∧lo=0∧up=0∧n=0)):=hb
  have HF:Hid (b=true↔GoodN ⟨16,s,hi,t,lo,up,n⟩):=by
   show b=true↔GoodN _
   have hB:=HB.out
   have hG:=HG.out
   rw[hB]
   simp[GoodN]
   simp_all
  exact zzQ39
 have HF:Hid (¬GoodN ⟨kind,s,hi,t,lo,up,n⟩):=by
  show¬GoodN _
  simp only[GoodN]
  rintro⟨_,_,_,q⟩
  omega
 have hkk:¬(1≤kind∧kind≤16):=by omega
 by_cases k0:1≤kind
 ·have k17:¬kind≤16:=fun q=>hkk ⟨k0,q⟩
  go_wp2_with fail
  go_ret
  exact⟨_,rfl,by simp[HF.out],HW0.2⟩
 ·go_wp2_with fail
  go_ret
  exact⟨_,rfl,by simp[HF.out],HW0.2⟩
set_option maxHeartbeats 1000000 in
theorem l5Arity_core (k:Int) (w:World):Calls Tryz.prog 108 #[.int .i64 k] w fun e w'=>e=.returned (.int .i64 (arity k:Int))∧w'=w:=by
 by_cases h14:k=14
 ·subst h14
  exact zzQ68
 by_cases h15:k=15
 ·subst h15
  exact zzQ68
 by_cases h16:k=16
 ·subst h16
  exact zzQ68
 have z14:(k==14)=false:=by simpa using h14
 have z15:(k==15)=false:=by simpa using h15
 have z16:(k==16)=false:=by simpa using h16
 have H:Hid (arity k=0):=by show arity k=0;unfold arity;rw[if_neg (by omega),if_neg h16]
 go_enter Tryz.func108,Tryz.ntmps108
 go_wp2_with fail
 go_ret
 exact⟨by rw[H.out];rfl,rfl⟩
set_option maxHeartbeats 1000000 in
theorem l5Strength_core (k:Int) (w:World):Calls Tryz.prog 109 #[.int .i64 k] w fun e w'=>e=.returned (.int .i64 (strong k:Int))∧w'=w:=by
 by_cases h15:k=15
 ·subst h15
  go_enter Tryz.func109,Tryz.ntmps109
  go_wp2_with fail
  go_ret
  exact⟨rfl,rfl⟩
 by_cases h14:k=14
 ·subst h14
  go_enter Tryz.func109,Tryz.ntmps109
  go_wp2_with fail
  go_ret
  exact⟨rfl,rfl⟩
 have z14:(k==14)=false:=by simpa using h14
 have z15:(k==15)=false:=by simpa using h15
 have H:Hid (strong k=3):=by show strong k=3;unfold strong;rw[if_neg h15,if_neg h14]
 go_enter Tryz.func109,Tryz.ntmps109
 go_wp2_with fail
 go_ret
 exact⟨by rw[H.out];rfl,rfl⟩
set_option maxHeartbeats 1000000 in
theorem l5Wrapped_core (op:Int) (i:Nat) (kid:Int) (w:World) (hop:¬op=16):Calls Tryz.prog 82 #[.int .i64 op,.int .i64 (i:Int),.int .i64 kid] w fun e w'=>e=.returned (.bool (level op i kid))∧w'=w:=by
 have zop:(op==16)=false:=by simpa using hop
 by_cases hi:i=0
 ·subst hi
  have HL:Hid (level op 0 kid=decide (strong kid<strong op)):=by
   show level op 0 kid=_
   unfold level;simp[hop]
  exact zzQ64
 ·have zi:((i:Int)==0)=false:=by simpa using hi
  have HL:Hid (level op i kid=decide (strong kid≤strong op)):=by
   show level op i kid=_
   unfold level;simp[hop,hi]
  exact zzQ64
structure Win (w:World) (b off cap:Nat) (xs:List Nd):Prop where
 at_:NdsAt w b off xs
 lt:b<w.heap.size
 len:xs.length≤cap
 cap:cap≤9223372036854775807
 sm:xs.length≤281474976710656
theorem Win.below {w w':World} {b off cap:Nat} {xs:List Nd} (h:Win w b off cap xs) (hb:Below w.heap.size w w'):Win w' b off cap xs:=
 ⟨h.at_.below hb h.lt,by have:=hb.size;have:=h.lt;omega,h.len,h.cap,h.sm⟩
theorem Win.kind {w:World} {b off cap:Nat} {xs:List Nd} (h:Win w b off cap xs) {i:Nat} {e:Nd} (he:xs[i]?=some e):w.cell? ⟨b,off+i*7,none⟩=some (.int .i64 e.kind):=(h.at_ i e he).1
set_option maxHeartbeats 1000000 in
theorem l5Top_core {w:World} {b off cap:Nat} {xs:List Nd} {e:Nd} (h:Win w b off cap (xs++ [e])):Calls Tryz.prog 80 #[.slice (some ⟨b,off,none⟩) (xs.length+1) cap] w fun r w'=>r=.returned (.int .i64 e.kind)∧w'=w:=by
 have hk:=h.kind (i:=xs.length) (e:=e) (by simp)
 obtain⟨n,hn⟩:=qE xs.length
 have h1:=h.len
 have h2:=h.cap
 rw[List.length_append,List.length_singleton]at h1
 rw[←hn]at hk h1⊢
 clear h hn
 go_enter Tryz.func80,Tryz.ntmps80
 go_wp2_with fail
 go_ret
 exact⟨rfl,rfl⟩
def FromPost (xs:List Nd) (w:World) (r:Ending) (w':World):Prop:=w'=w∧((∃i:Nat,r=.returned (.int .i64 (i:Int))∧i≤xs.length∧IsT 1 (xs.drop i))∨(r=.returned (.int .i64 (-1))∧∀j,j≤xs.length→¬IsT 1 (xs.drop j)))
set_option maxHeartbeats 2000000 in
theorem l5From_core {w:World} {b off cap:Nat} {xs:List Nd} (h:Win w b off cap xs):Calls Tryz.prog 79 #[.slice (some ⟨b,off,none⟩) xs.length cap] w (FromPost xs w):=by
 have HW:Hid (Win w b off cap xs):=h
 have h1:=h.len
 have h2:=h.cap
 have h3:=h.sm
 obtain⟨n,hn⟩:=qE xs.length
 have HN:Hid (n=xs.length):=hn
 rw[←hn]at h1 h3⊢
 clear h hn
 go_enter Tryz.func79,Tryz.ntmps79
 go_wp2_with fail
 go_loopw[3,4] (fun nv iv wr=>∃(i m:Nat),iv=.int .i64 (i:Int)∧nv=.int .i64 (m:Int)∧i≤n∧m≤1+3*(n-i)∧Sc m (xs.drop i)∧wr=w) (fun _ iv _=>(intOf iv).toNat)
 case atStart=>exact⟨n,1,rfl,rfl,Nat.le_refl _,by omega,by rw[HN.out,List.drop_length];exact .nil,rfl⟩
 case round=>
  obtain⟨i,m,rfl,rfl,hi,hm,hS,rfl⟩:=hrel
  have HS:Hid (Sc m (xs.drop i)):=hS
  clear hS
  by_cases hm0:m=0
  ·subst hm0
   go_wp2_with fail
   go_ret
   refine⟨rfl,.inl ⟨i,rfl,by have:=HN.out;omega,?_⟩⟩
   have:=HS.tree (pre:= [])
   exact this.1 .nil
  ·obtain⟨m',rfl⟩:∃m',m=m'+1:=⟨m-1,by omega⟩
   have zm:(0:Int)<(m':Int)+1:=by omega
   by_cases hi0:i=0
   ·subst hi0
    go_wp2_with fail
    go_ret
    exact⟨rfl,.inr ⟨rfl,fun j hj=>sc_none HS.out j (Nat.zero_le _) hj⟩⟩
   ·obtain⟨i',rfl⟩:∃i',i=i'+1:=⟨i-1,by omega⟩
    obtain⟨e,he⟩:∃e,xs[i']?=some e:=⟨_,List.getElem?_eq_getElem (by have:=HN.out;omega)⟩
    have hk:=HW.kind he
    have hlt:i'<xs.length:=by have:=HN.out;omega
    have HS2:Hid (Sc (m'+arity e.kind) (xs.drop i')):=by
     show Sc _ _
     rw[List.drop_eq_getElem_cons hlt,show xs[i']=e from Option.some.inj ((List.getElem?_eq_getElem hlt).symm.trans he)]
     exact .cons e HS.out
    have ha:=arity_le e.kind
    have zi:¬(i':Int)<0:=by omega
    clear he hlt
    go_wp2_with fail
    refine(l5Arity_core e.kind _).mono ?_
    rintro r w2 ⟨rfl,hw2⟩
    rw[hw2]
    clear hw2
    go_wp2_with fail
    go_roundw
    case rel=>exact⟨i',m'+arity e.kind,by go_num,by go_num,by omega,by omega,HS2.out,by first|rfl|trivial⟩
    case measure=>simp[intOf]<;>omega
set_option maxHeartbeats 2000000 in
theorem l5Tree_core {w:World} {b off cap:Nat} {xs:List Nd} (h:Win w b off cap xs):Calls Tryz.prog 39 #[.slice (some ⟨b,off,none⟩) xs.length cap] w fun r w'=>w'=w∧((r=.returned (.bool true)∧IsT 1 xs)∨(r=.returned (.bool false)∧¬IsT 1 xs)):=by
 have HW:Hid (Win w b off cap xs):=h
 have h1:=h.len
 have h2:=h.cap
 have h3:=h.sm
 obtain⟨n,hn⟩:=qE xs.length
 have HN:Hid (n=xs.length):=hn
 have HF:Hid (Calls Tryz.prog 79 #[.slice (some ⟨b,off,none⟩) n cap] w (FromPost xs w)):=by
  rw[hn];exact l5From_core h
 rw[←hn]at h1 h3⊢
 clear h hn
 by_cases hn0:n=0
 ·subst hn0
  have HE:Hid (¬IsT 1 xs):=fun q=>by
   have:=q.len
   have:=HN.out
   omega
  go_enter Tryz.func39,Tryz.ntmps39
  go_wp2_with fail
  go_ret
  exact⟨rfl,.inr ⟨rfl,HE.out⟩⟩
 ·have zn:(0:Int)<(n:Int):=by omega
  go_enter Tryz.func39,Tryz.ntmps39
  go_wp2_with fail
  refine HF.mono ?_
  rintro r w2 ⟨hw2,(⟨i,rfl,hi,hT⟩|⟨rfl,hT⟩)⟩
  ·rw[hw2]
   clear hw2
   have HT:Hid (i≤xs.length∧IsT 1 (xs.drop i)):=⟨hi,hT⟩
   clear hi hT
   by_cases hi0:i=0
   ·subst hi0
    go_wp2_with fail
    go_ret
    exact⟨rfl,.inl ⟨rfl,by simpa using HT.2⟩⟩
   ·have zi:((i:Int)==0)=false:=by simpa using hi0
    go_wp2_with fail
    go_ret
    refine⟨rfl,.inr ⟨rfl,fun q=>hi0 ?_⟩⟩
    exact(tree_one (xs:=xs) (i:=0) (j:=i) (by simpa using q) HT.2 (Nat.zero_le _) HT.1).symm
  ·rw[hw2]
   clear hw2
   have HT:Hid (¬IsT 1 xs):=fun q=>hT 0 (Nat.zero_le _) (by simpa using q)
   clear hT
   go_wp2_with fail
   go_ret
   exact⟨rfl,.inr ⟨rfl,HT.out⟩⟩
def OwnV (w:World) (base g cp:Nat) (us:List Value):Prop:=w.ownsRow base 23 1 (.slice (some ⟨g,0,none⟩) us.length cp) us.length us
theorem OwnV.lt {w:World} {base g cp:Nat} {us:List Value} (h:OwnV w base g cp us):base≤g∧g<w.heap.size:=World.ownsRow.lt h g rfl
theorem OwnV.below {w w':World} {base g cp:Nat} {us:List Value} (h:OwnV w base g cp us) (hb:Below w.heap.size w w'):OwnV w' base g cp us:=own_chg h (Chg.of_below hb) (S:=fun _=>False) (fun k q z=>z)
theorem OwnV.cell {w:World} {base g cp:Nat} {us:List Value} (h:OwnV w base g cp us) {j:Nat} {v:Value} (hv:us[j]?=some v):w.cell? ⟨g,j,none⟩=some v:=by
 have hj:=(List.getElem?_eq_some_iff.1 hv).1
 rw[World.ownsRow.cellAt h j (by omega),hv]
theorem ownV_new (w:World) {base:Nat} (hb:base≤w.heap.size):OwnV (w.alloc (Obj.cells #[] 23)) base w.heap.size 0 []:=
 World.ownsRow_made w #[] 0 hb (Nat.zero_le _) (by simp)
theorem ownV_one (w:World) {base:Nat} (hb:base≤w.heap.size) (v:Value):OwnV (w.alloc (Obj.cells #[v] 23)) base w.heap.size 1 [v]:=
 World.ownsRow_lit w #[v] 1 hb (by decide) rfl
theorem Tryz.infoNds:(Tryz.prog.info? 23).map (fun i=>(i.zero,i.size,i.bytes))=some (some (.slice none 0 0),1,24):=by kernel_rfl
theorem wpList_append_nds {ops:Array Oper} {rest:List Oper} {oo:Oper} {a:Act} {Q:Exit→Act→World→Prop} (w:World) (hgd:oo.guard=none) (s x:Operand)
  (ho:oo.op=.call {callee:=.builtin .append,args:=#[s,x],argTypes:=#[128,128]})
  (base gq cp n b m cx:Nat) (us vs:List Value) (hs:a.eval s=.slice (some ⟨gq,0,none⟩) n cp) (hx:a.eval x=.slice (some ⟨b,0,none⟩) m cx) (hn:n=us.length) (hm:m=vs.length) (hO:OwnV w base gq cp us)
  (hc:∀(j:Nat) v,vs[j]?=some v→w.cell? ⟨b,j,none⟩=some v) (hy:∀v∈vs,v.oneCell'=true) (hlen:us.length+vs.length≤1000) (hbase:base≤w.heap.size)
  (h:∀g' cp' w',OwnV w' base g' cp' (us++vs)→w.grownBy w' (some gq)→(g'=gq∨g'=w.heap.size)→wpList Tryz.prog ops Q rest (a.put oo.dst (.slice (some ⟨g',0,none⟩) (n+m) cp')) w'):wpList Tryz.prog ops Q (oo::rest) a w:=by
 subst hn hm
 obtain⟨i,hi,hz0,hz1,hz2⟩:=info_parts Tryz.infoNds
 refine wpList_append_own_at w hgd s x 128 ho base 23 i _ 1 24 Tryz.underlying128 hi hz0 hz1 hz2 rfl (by decide) (.slice (some ⟨gq,0,none⟩) us.length cp) us.length us hs hO ⟨b,0,none⟩ vs.length cx vs hx (by simp) ?_ hy ?_ ?_ hbase ?_
 ·intro j u hu
  rw[Addr.add_mid,Nat.zero_add];exact hc j u hu
 ·unfold maxLen;omega
 ·omega
 ·intro v' w' hO' hgr hnil hat
  rcases hO'.2 with⟨h0,_⟩|⟨g',cap',cur,hv,_,_,hn,hcap,_,_⟩
  ·have:=(hnil.1 h0).1
   cases this
  ·subst hv
   refine h g' cap' w' ?_ hgr ?_
   ·unfold OwnV
    rw[List.length_append]
    exact hO'
   ·simp[Value.ownBlock]at hat
    exact hat
def kidVs (b:Nat):Nat→Nat→List (List Nd)→List Value
 |_,_,[]=> []
 |o,cap,k::ks=>.slice (some ⟨b,o,none⟩) k.length cap::kidVs b (o+k.length*7) (cap-k.length) ks
theorem kidVs_len (b:Nat):∀(o cap:Nat) (ks:List (List Nd)),(kidVs b o cap ks).length=ks.length
 |_,_,[]=>rfl
 |o,cap,k::ks=>by simp[kidVs,kidVs_len]
theorem kidVs_one (b:Nat):∀(o cap:Nat) (ks:List (List Nd)),∀v∈kidVs b o cap ks,v.oneCell'=true
 |_,_,[],v,h=>by cases h
 |o,cap,k::ks,v,h=>by
  rcases List.mem_cons.1 h with rfl|h
  ·rfl
  ·exact kidVs_one b _ _ ks v h
theorem NdsAt.part {w:World} {b o:Nat} {xs ys:List Nd} (h:NdsAt w b o (xs++ys)):NdsAt w b o xs∧NdsAt w b (o+xs.length*7) ys:=by
 refine⟨fun i e he=>h i e (by rw[List.getElem?_append_left (List.getElem?_eq_some_iff.1 he).1];exact he),fun i e he=>?_⟩
 have:=h (xs.length+i) e (by rw[List.getElem?_append_right (by omega),Nat.add_sub_cancel_left];exact he)
 rw[Nat.add_mul,←Nat.add_assoc]at this
 exact this
theorem kidVs_nth {w:World} {b:Nat}:∀{ks:List (List Nd)} {o cap:Nat} {rest:List Nd},Win w b o cap (ks.flatten++rest)→∀{j:Nat} {k:List Nd},ks[j]?=some k→∃o' cap',(kidVs b o cap ks)[j]?=some (.slice (some ⟨b,o',none⟩) k.length cap')∧Win w b o' cap' k
 | [],_,_,_,_,j,k,h=>by simp at h
 |a::ks,o,cap,rest,hW,j,k,h=>by
  simp only[List.flatten_cons,List.append_assoc]at hW
  have hp:=hW.at_.part
  have hl:=hW.len
  have hc:=hW.cap
  have hs:=hW.sm
  simp only[List.length_append]at hl hs
  cases j with
  |zero=>
   simp at h
   subst h
   exact⟨o,cap,rfl,hp.1,hW.lt,by omega,hc,by omega⟩
  |succ j=>
   simp at h
   exact kidVs_nth (ks:=ks) (o:=o+a.length*7) (cap:=cap-a.length) (rest:=rest) ⟨hp.2,hW.lt,by simp only[List.length_append];omega,by omega,by simp only[List.length_append];omega⟩ h
structure KiJ (w:World) (b o cap:Nat) (pre suf:List (List Nd)) (g cp:Nat) (wr:World):Prop where
 own:OwnV wr w.heap.size g cp (kidVs b (o+pre.flatten.length*7) (cap-pre.flatten.length) suf)
 below:Below w.heap.size w wr
set_option maxHeartbeats 4000000 in
theorem l5Kids_core {w:World} {b o cap:Nat} {ks:List (List Nd)} {e:Nd} (h:Win w b o cap (ks.flatten++ [e])) (hk:ks.length=arity e.kind) (hT:∀k∈ks,IsT 1 k):
  Calls Tryz.prog 81 #[.slice (some ⟨b,o,none⟩) (ks.flatten.length+1) cap] w fun r w'=>∃g cp,r=.returned (.slice (some ⟨g,0,none⟩) ks.length cp)∧OwnV w' w.heap.size g cp (kidVs b o cap ks)∧Below w.heap.size w w':=by
 have HW:Hid (Win w b o cap (ks.flatten++ [e])∧∀k∈ks,IsT 1 k):=⟨h,hT⟩
 have hkind:=h.kind (i:=ks.flatten.length) (e:=e) (by simp)
 have h1:=h.len
 have h2:=h.cap
 have h3:=h.sm
 obtain⟨n,hn⟩:=qE ks.flatten.length
 have HN:Hid (n=ks.flatten.length):=hn
 rw[List.length_append,List.length_singleton]at h1 h3
 rw[←hn]at hkind h1 h3⊢
 have ha:=arity_le e.kind
 have HA:Hid (ks.length=arity e.kind):=hk
 obtain⟨W0,hW0⟩:=qE (w.alloc (Obj.cells #[] 23):World)
 have HW0:Hid (KiJ w b o cap ks [] w.heap.size 0 W0):=by
  rw[hW0];exact⟨ownV_new w (Nat.le_refl _),qB⟩
 have hkind0:W0.cell? ⟨b,o+n*7,none⟩=some (.int .i64 e.kind):=by
  rw[(Chg.of_below HW0.below (S:=fun _=>False)).cell (p:=⟨b,o+n*7,none⟩) h.lt (fun q=>q)];exact hkind
 obtain⟨a,hak⟩:=qE (arity e.kind)
 have HAr:Hid (Calls Tryz.prog 108 #[.int .i64 e.kind] W0 fun r w'=>r=.returned (.int .i64 (a:Int))∧w'=W0):=by
  rw[hak];exact l5Arity_core e.kind W0
 have HAk:Hid (ks.length=a):=by rw[hak];exact hk
 rw[hk,←hak]
 rw[←hak]at ha
 clear h hn hT hk hkind HA hak
 go_enter Tryz.func81,Tryz.ntmps81
 go_upto_region 3 with fail
 rw[←hW0]
 clear hW0
 go_wp2_with fail
 refine HAr.mono ?_
 rintro r w1 ⟨rfl,hw1⟩
 rw[hw1]
 clear hw1 hkind0 HAr
 go_wp2_with fail
 go_loopw[3,4,5] (fun rv ov kv wr=>∃(c m g cp:Nat) (pre suf:List (List Nd)),ks=pre++suf∧pre.length=c∧suf.length+c=a∧m=pre.flatten.length∧m≤n∧kv=.int .i64 (c:Int)∧rv=.slice (some ⟨b,o,none⟩) m cap∧ov=.slice (some ⟨g,0,none⟩) suf.length cp∧KiJ w b o cap pre suf g cp wr) (fun _ _ kv _=>(intOf kv).toNat)
 case atStart=>exact⟨a,n,_,0,ks,[],by simp,HAk.out,by simp,HN.out,Nat.le_refl _,rfl,rfl,rfl,HW0.out⟩
 case round=>
  obtain⟨c,m,g,cp,pre,suf,hks,hpl,hsl,hm,hmn,rfl,rfl,rfl,hJ⟩:=hrel
  have HJ:Hid (KiJ w b o cap pre suf g cp wr∧ks=pre++suf∧m=pre.flatten.length∧pre.length=c):=⟨hJ,hks,hm,hpl⟩
  have hgl:=hJ.own.lt
  have hsz:=hJ.below.size
  clear hJ hks hm hpl HW0
  obtain⟨q,hq⟩:=qE suf.length
  have HQ:Hid (q=suf.length):=hq
  rw[←hq]at hsl⊢
  clear hq
  by_cases hc0:c=0
  ·subst hc0
   have HF:Hid (pre= []∧q=a):=⟨List.length_eq_zero_iff.1 HJ.2.2.2,by omega⟩
   go_wp2_with fail
   go_ret
   have hp:=HF.1
   have hj:=HJ.1.own
   have hs:=HJ.2.1
   rw[hp]at hj hs
   simp at hj hs
   refine⟨g,cp,by rw[←HF.2];rfl,by rw[hs];exact hj,HJ.1.below⟩
  ·obtain⟨c',rfl⟩:∃c',c=c'+1:=⟨c-1,by omega⟩
   have zc:(0:Int)<(c':Int)+1:=by omega
   obtain⟨pre',k,hpre⟩:∃pre' k,pre=pre'++ [k]:=by
    rcases List.eq_nil_or_concat pre with h|⟨p',k,h⟩
    ·have:=HJ.2.2.2;rw[h]at this;simp at this
    ·exact⟨p',k,by rw[h,List.concat_eq_append]⟩
   obtain⟨m',hm'⟩:=qE pre'.flatten.length
   have hmm:m=m'+k.length:=by rw[HJ.2.2.1,hpre,hm'];simp
   have hkT:IsT 1 k:=HW.2 k (by rw[HJ.2.1,hpre];simp)
   have hk1:=hkT.len
   have hwin:Win wr b o cap pre.flatten:=by
    have hw:=HW.1
    rw[HJ.2.1]at hw
    simp only[List.flatten_append,List.append_assoc]at hw
    have h8:=hw.len
    have h9:=hw.sm
    simp only[List.length_append]at h8 h9
    exact Win.below ⟨hw.at_.part.1,hw.lt,by omega,hw.cap,by omega⟩ HJ.1.below
   have HC:Hid (Calls Tryz.prog 79 #[.slice (some ⟨b,o,none⟩) m cap] wr fun r w'=>r=.returned (.int .i64 (m':Int))∧w'=wr):=by
    have hf:=l5From_core hwin
    rw[←HJ.2.2.1]at hf
    refine hf.mono ?_
    have hdrop:pre.flatten.drop m'=k:=by rw[hpre,hm'];simp
    rintro r w2 ⟨hw2,(⟨i,rfl,hi,hTi⟩|⟨rfl,hTi⟩)⟩
    ·refine⟨?_,hw2⟩
     have hml:m'≤pre.flatten.length:=by rw[hpre,hm'];simp
     have:i=m':=by
      rcases Nat.le_total i m' with hle|hle
      ·exact tree_one hTi (by rw[hdrop];exact hkT) hle hml
      ·exact(tree_one (by rw[hdrop];exact hkT) hTi hle hi).symm
     rw[this]
    ·exact absurd (by rw[hdrop];exact hkT) (hTi m' (by rw[hpre,hm'];simp))
   have HP:Hid (pre=pre'++ [k]∧m'=pre'.flatten.length∧IsT 1 k∧m=m'+k.length):=⟨hpre,hm',hkT,hmm⟩
   have hmle:m'≤m:=by omega
   have z1:(m':Int)≤(m:Int):=by omega
   have z2:(m:Int)≤(cap:Int):=by omega
   have z3:(m':Int)≤(cap:Int):=by omega
   clear hwin hkT hpre hm' hmm hk1
   go_wp2_with fail
   refine HC.mono ?_
   rintro r w2 ⟨rfl,hw2⟩
   rw[hw2]
   clear hw2 HC
   obtain⟨W5,hW5⟩:=qE (wr.alloc (Obj.cells #[.slice (some ⟨b,o+m'*7,none⟩) (m-m') (cap-m')] 23):World)
   have hb5:Below wr.heap.size wr W5:=by rw[hW5];exact qB
   have hz5:W5.heap.size=wr.heap.size+1:=by rw[hW5];simp
   have HW5:Hid (OwnV W5 w.heap.size wr.heap.size 1 [.slice (some ⟨b,o+m'*7,none⟩) (m-m') (cap-m')]∧OwnV W5 w.heap.size g cp (kidVs b (o+pre.flatten.length*7) (cap-pre.flatten.length) suf)∧Below w.heap.size w W5):=by
    refine⟨?_,HJ.1.own.below hb5,HJ.1.below.trans (hb5.mono hsz)⟩
    rw[hW5];exact ownV_one wr hsz _
   go_wp2_with (at_builtin;rw[←hW5];refine wpList_append_nds _ rfl _ _ rfl w.heap.size wr.heap.size 1 1 g q cp [.slice (some ⟨b,o+m'*7,none⟩) (m-m') (cap-m')] (kidVs b (o+pre.flatten.length*7) (cap-pre.flatten.length) suf) rfl rfl rfl ?hm ?hO ?hc ?hy ?hl ?hb ?_)
   case hm=>rw[kidVs_len];exact HQ.out
   case hO=>exact HW5.1
   case hc=>exact fun j v hv=>HW5.2.1.cell hv
   case hy=>exact kidVs_one _ _ _ _
   case hl=>rw[kidVs_len,←HQ.out];simp;omega
   case hb=>omega
   intro g' cp' w' hO' hgr hat
   rw[←hW5]at hgr
   have HJ6:Hid (KiJ w b o cap pre' (k::suf) g' cp' w'∧ks=pre'++(k::suf)∧pre'.length=c'∧(k::suf).length=q+1):=by
    have hP:=HP.out
    refine⟨⟨?_,HW5.2.2.grown hgr (by omega) (fun j hj=>by cases hj;omega)⟩,by rw[HJ.2.1,hP.1];simp,?_,by rw[HQ.out];rfl⟩
    ·have e1:(List.map List.length pre).sum=m'+k.length:=by rw[←List.length_flatten,←HJ.2.2.1];exact hP.2.2.2
     rw[e1]at hO'
     have e2:m-m'=k.length:=by omega
     rw[e2]at hO'
     have e3:o+(m'+k.length)*7=o+m'*7+k.length*7:=by omega
     have e4:cap-(m'+k.length)=cap-m'-k.length:=by omega
     rw[e3,e4]at hO'
     rw[←hP.2.1]
     exact hO'
    ·have:=HJ.2.2.2
     rw[hP.1]at this
     simpa using this
   clear hO' hgr hat hW5 hb5
   go_wp2_with fail
   go_roundw
   case rel=>exact⟨c',m',g',cp',pre',k::suf,HJ6.2.1,HJ6.2.2.1,by have:=HJ6.2.2.2;omega,HP.2.1,by omega,by go_num,rfl,by rw[HJ6.2.2.2];go_num,HJ6.1⟩
   case measure=>simp[intOf]<;>omega
variable (G:Nd→Bool)
def NestC (n:Nat):Prop:=∀(w:World) (b o cap:Nat) (xs:List Nd) (s:Shape),xs.length≤n→Win w b o cap xs→ShT G [s] xs→Calls Tryz.prog 40 #[.slice (some ⟨b,o,none⟩) xs.length cap] w fun r w'=>r=.returned (.int .i64 (s.nest:Int))∧Below w.heap.size w w'
theorem nestFrom_step (op:Int) {os:List Shape} {j a:Nat} {o:Shape} (h:os[j]?=some o):nestFrom op j a (os.drop j)=nestFrom op (j+1) (max a (o.nest+if level op j o.kind then 1 else 0)) (os.drop (j+1)):=by
 exact zzQ66
structure NeJ (w:World) (b o cap:Nat) (ks:List (List Nd)) (g cp:Nat) (wr:World):Prop where
 own:OwnV wr w.heap.size g cp (kidVs b o cap ks)
 below:Below w.heap.size w wr
theorem NeJ.move {w:World} {b o cap:Nat} {ks:List (List Nd)} {g cp:Nat} {wr w':World} (h:NeJ w b o cap ks g cp wr) (hb:Below wr.heap.size wr w'):NeJ w b o cap ks g cp w':=⟨h.own.below hb,h.below.trans (hb.mono h.below.size)⟩
set_option maxHeartbeats 4000000 in
theorem nest_of {n:Nat} (H:NestC G n):NestC G (n+1):=by
 intro w b o cap xs s hn hW hS
 obtain⟨ys,e,os,rfl,hal,hS2,hs⟩:=ShT.inv G hS
 obtain⟨ks,rfl,hK⟩:=ShT.kids G hS2
 have hlen:=Kids.length G hK
 have HF:Hid (Win w b o cap (ks.flatten++ [e])∧Kids G os ks∧s=shapeM G e os∧os.length=ks.length∧ks.flatten.length≤n∧NestC G n):=⟨hW,hK,hs,hlen,by simp at hn;rw[List.length_flatten];omega,H⟩
 have hk3:=arity_le e.kind
 obtain⟨a3,ha3⟩:=qE ks.length
 have HA:Hid (a3=ks.length):=ha3
 have hle:a3≤3:=by omega
 have hcap:=hW.cap
 have hsm:ks.flatten.length+1≤281474976710656:=by have:=hW.sm;rw[List.length_append,List.length_singleton]at this;exact this
 have hbig:ks.flatten.length+1≤cap:=by have:=hW.len;rw[List.length_append,List.length_singleton]at this;exact this
 have HT:Hid (Calls Tryz.prog 80 #[.slice (some ⟨b,o,none⟩) (ks.flatten.length+1) cap] w fun r w'=>r=.returned (.int .i64 e.kind)∧w'=w):=l5Top_core hW
 have HKs:Hid (Calls Tryz.prog 81 #[.slice (some ⟨b,o,none⟩) (ks.flatten.length+1) cap] w fun r w'=>∃g cp,r=.returned (.slice (some ⟨g,0,none⟩) a3 cp)∧OwnV w' w.heap.size g cp (kidVs b o cap ks)∧Below w.heap.size w w'):=by
  rw[ha3];exact l5Kids_core hW (by omega) (Kids.tree G hK)
 have HB:Hid (∀o∈os,o.nest≤281474976710656):=fun o' ho=>by
  obtain⟨k,hk,h3⟩:=kid_len G hK ho
  have h4:=len_flat hk
  have h5:=nest_len G _ (Nat.le_refl _) h3
  omega
 have HSn:Hid (nestFrom e.kind 0 0 os=s.nest):=by show _=_;rw[hs];rfl
 rw[List.length_append,List.length_singleton]
 obtain⟨m,hm⟩:=qE ks.flatten.length
 rw[←hm]at HT HKs hbig hsm⊢
 obtain⟨sn,hsn⟩:=qE s.nest
 have HSn2:Hid (nestFrom e.kind 0 0 os=sn):=by rw[hsn];exact HSn
 rw[←hsn]
 clear hW hS hS2 hK hs hal hlen H ha3 hm hn hsn HSn hk3
 go_enter Tryz.func40,Tryz.ntmps40
 go_wp2_with fail
 refine HT.mono ?_
 rintro r w1 ⟨rfl,hw1⟩
 rw[hw1]
 clear hw1 HT
 go_wp2_with fail
 refine HKs.mono ?_
 rintro r w1 ⟨g,cp,rfl,hO,hb1⟩
 have HW1:Hid (NeJ w b o cap ks g cp w1):=⟨hO,hb1⟩
 clear hO hb1 HKs
 go_wp2_with fail
 go_loopw[5,6] (fun mv iv wr=>∃(j a:Nat),iv=.int .i64 (j:Int)∧mv=.int .i64 (a:Int)∧j≤a3∧a≤999999999999999∧nestFrom e.kind j a (os.drop j)=sn∧NeJ w b o cap ks g cp wr) (fun _ iv _=>a3-(intOf iv).toNat)
 case atStart=>exact⟨0,0,rfl,rfl,Nat.zero_le _,by omega,HSn2.out,HW1.out⟩
 case round=>
  obtain⟨j,a,rfl,rfl,hj,ha,hN,hJ⟩:=hrel
  have HJ:Hid (nestFrom e.kind j a (os.drop j)=sn∧NeJ w b o cap ks g cp wr):=⟨hN,hJ⟩
  have hgl:=hJ.own.lt
  have hsz:=hJ.below.size
  clear hN hJ HW1 HSn2
  by_cases hlt:j<a3
  ·have zj:(j:Int)<(a3:Int):=by omega
   obtain⟨k,hk⟩:∃k,ks[j]?=some k:=⟨_,List.getElem?_eq_getElem (by have:=HA.out;omega)⟩
   obtain⟨os1,ho1,hS1⟩:=Kids.nth G HF.2.1 hk
   obtain⟨o',cap',hv,hWk⟩:=kidVs_nth HF.1 hk
   have hc:=HJ.2.own.cell hv
   have hkn:k.length≤n:=by have:=len_flat (List.mem_of_getElem? hk);have:=HF.2.2.2.2.1;omega
   have hWr:=hWk.below HJ.2.below
   have HCall:Hid (Calls Tryz.prog 40 #[.slice (some ⟨b,o',none⟩) k.length cap'] wr fun r w'=>r=.returned (.int .i64 (os1.nest:Int))∧Below wr.heap.size wr w'):=HF.2.2.2.2.2 wr b o' cap' k os1 hkn hWr hS1
   obtain⟨ky,ke,ko,rfl,_,_,hko⟩:=ShT.inv G hS1
   have hkk:os1.kind=ke.kind:=by rw[hko];rfl
   have HTop:Hid (∀w2,Below wr.heap.size wr w2→Calls Tryz.prog 80 #[.slice (some ⟨b,o',none⟩) (ky++ [ke]).length cap'] w2 fun r w'=>r=.returned (.int .i64 os1.kind)∧w'=w2):=fun w2 hb2=>by
    have:=l5Top_core (hWr.below hb2)
    rw[List.length_append,List.length_singleton,hkk]
    exact this
   have hnb:=HB.out os1 (List.mem_of_getElem? ho1)
   have HStep:Hid (nestFrom e.kind (j+1) (max a (os1.nest+if level e.kind j os1.kind then 1 else 0)) (os.drop (j+1))=sn):=by
    show _=_
    rw[←nestFrom_step e.kind ho1];exact HJ.1
   obtain⟨kl,hkl⟩:=qE ((ky++ [ke]).length)
   rw[←hkl]at hc HCall HTop
   clear hk ho1 hS1 hv hWk hkn hWr hko hkk hkl
   go_wp2_with fail
   refine HCall.mono ?_
   rintro r w2 ⟨rfl,hb2⟩
   have HJ2:Hid (NeJ w b o cap ks g cp w2):=HJ.2.move hb2
   have hc2:w2.cell? ⟨g,j,none⟩=some (.slice (some ⟨b,o',none⟩) kl cap'):=by
    rw[(Chg.of_below hb2 (S:=fun _=>False)).cell (p:=⟨g,j,none⟩) hgl.2 (fun q=>q)];exact hc
   have HTop2:Hid (Calls Tryz.prog 80 #[.slice (some ⟨b,o',none⟩) kl cap'] w2 fun r w'=>r=.returned (.int .i64 os1.kind)∧w'=w2):=HTop.out w2 hb2
   clear hc hb2 HTop HCall
   have fin:∀(x:Nat),x=os1.nest+(if level e.kind j os1.kind then 1 else 0)→x≤281474976710657→Hid (∀y:Nat,y=max a x→nestFrom e.kind (j+1) y (os.drop (j+1))=sn):=fun x hx _ y hy=>by
    rw[hy,hx];exact HStep.out
   by_cases h16:e.kind=16
   ·have hlv:level e.kind j os1.kind=true:=by unfold level;rw[h16];rfl
    rw[hlv]at fin
    have HFin:=fin (os1.nest+1) rfl (by omega)
    have z16:(e.kind==16)=true:=by simpa using h16
    clear fin hlv h16
    exact zzQ37
   ·have z16:(e.kind==16)=false:=by simpa using h16
    go_wp2_with fail
    refine HTop2.mono ?_
    rintro r w3 ⟨rfl,hw3⟩
    rw[hw3]
    clear hw3 HTop2
    go_wp2_with fail
    refine(l5Wrapped_core e.kind j os1.kind _ h16).mono ?_
    rintro r w3 ⟨rfl,hw3⟩
    rw[hw3]
    clear hw3
    cases hlv:level e.kind j os1.kind
    ·rw[hlv]at fin
     have HFin:=fin os1.nest rfl (by omega)
     clear fin hlv
     by_cases hgt:a<os1.nest
     ·have zg:(a:Int)<(os1.nest:Int):=by omega
      go_wp2_with fail
      go_roundw
      case rel=>exact⟨j+1,os1.nest,by go_num,rfl,by omega,by omega,HFin.out _ (by omega),HJ2.out⟩
      case measure=>simp[intOf];omega
     ·have zg:¬(a:Int)<(os1.nest:Int):=by omega
      go_wp2_with fail
      go_roundw
      case rel=>exact⟨j+1,a,by go_num,rfl,by omega,by omega,HFin.out _ (by omega),HJ2.out⟩
      case measure=>simp[intOf];omega
    ·rw[hlv]at fin
     have HFin:=fin (os1.nest+1) rfl (by omega)
     clear fin hlv
     exact zzQ37
  ·have zj:¬(j:Int)<(a3:Int):=by omega
   have hd:a=sn:=by
    have:=HJ.1
    rw[List.drop_eq_nil_of_le (by have:=HA.out;have:=HF.2.2.2.1;omega)]at this
    exact this
   subst hd
   go_wp2_with fail
   go_ret
   exact⟨rfl,HJ.2.below⟩
theorem nest_all:∀n,NestC G n
 |0=>fun w b o cap xs s hn hW hS=>by
  obtain⟨ys,e,os,rfl,_⟩:=ShT.inv G hS
  simp at hn
 |n+1=>nest_of G (nest_all n)
end Go.Proofs.YtgnpcenpcmdlfaaGreatDoor
namespace Go.Proofs.YtgnpcenpcmdlfaaGreatDoor
open Go.ChangeShapes Go.WideShapes Go.ChangeAt Go.RowKit Go.Deep
set_option linter.unusedVariables false
set_option linter.unusedSimpArgs false
set_option maxRecDepth 100000
open Classical in
noncomputable def goodB (e:Nd):Bool:=decide (GoodN e)
theorem goodB_iff (e:Nd):goodB e=true↔GoodN e:=by unfold goodB;simp
def GoodF (xs:List Nd):Prop:=xs.length≤200∧∃s,ShT goodB [s] xs∧s.valid=true∧s.nest≤20
theorem goodF_all {xs:List Nd} (h:GoodF xs):∀e∈xs,GoodN e:=by
 obtain⟨_,s,hs,hv,_⟩:=h
 have:=ShT.valid goodB hs
 simp[hv]at this
 exact fun e he=>(goodB_iff e).1 (this e he)
theorem sh_one {xs:List Nd} {s t:Shape} (h:ShT goodB [s] xs) (k:ShT goodB [t] xs):s=t:=by
 have a:=ShT.fold goodB h []
 have b:=ShT.fold goodB k []
 rw[a]at b
 simpa using b
def FltPost (xs:List Nd) (w:World) (r:Ending) (w':World):Prop:=∃b,r=.returned (.bool b)∧(b=true↔GoodF xs)∧Below w.heap.size w w'
structure WdN (w:World) (g o cp:Nat) (xs:List Nd):Prop where
 nds:NdsAt w g o xs
 lt:g<w.heap.size
 caps:xs.length≤cp∧cp≤maxLen
theorem WdN.at {w:World} {g o cp:Nat} {xs:List Nd} (h:WdN w g o cp xs):NdsAt w g o xs:=h.nds
theorem WdN.below {B:Nat} {w w':World} {g o cp:Nat} {xs:List Nd} (h:WdN w g o cp xs) (hb:Below B w w') (hg:g<B):WdN w' g o cp xs:=
 ⟨h.at.below hb hg,by have:=hb.size;have:=h.lt;omega,h.caps⟩
set_option maxHeartbeats 4000000 in
theorem specFilter_win {w:World} {g o cp:Nat} {xs:List Nd} (h:WdN w g o cp xs) (hok:∀e∈xs,e.ok):Calls Tryz.prog 16 #[.agg #[.slice (some ⟨g,o,none⟩) xs.length cp]] w (FltPost xs w):=by
 have HO:Hid (WdN w g o cp xs∧∀e∈xs,e.ok):=⟨h,hok⟩
 have hg:=h.lt
 have hcp:=h.caps
 obtain⟨n,hn⟩:=qE xs.length
 have HN:Hid (n=xs.length):=hn
 rw[←hn]at hcp⊢
 unfold maxLen at hcp
 clear h hok hn
 obtain⟨W0,hW0⟩:=qE (w.alloc (Obj.cells #[.slice (some ⟨g,o,none⟩) n cp] 25):World)
 have HW0:Hid (BoxAt W0 w.heap.size 25 1 w.heap.size [.slice (some ⟨g,o,none⟩) n cp]∧Below w.heap.size w W0):=by
  rw[hW0];exact⟨boxAt_new w _ (Nat.le_refl _) rfl,qB⟩
 have c0:=HW0.1.cell (j:=0) rfl
 have s0:=HW0.2.size
 go_enter Tryz.func16,Tryz.ntmps16
 go_upto_region 1 with fail
 rw[←hW0]
 clear hW0
 by_cases hbig:200<n
 ·exact zzQ65
 have zb:¬(200:Int)<(n:Int):=by omega
 go_wp2_with fail
 clear c0
 go_loopw[3] (fun iv wr=>∃(j:Nat),iv=.int .i64 (j:Int)∧j≤n∧(∀e∈xs.take j,GoodN e)∧BoxAt wr w.heap.size 25 1 w.heap.size [.slice (some ⟨g,o,none⟩) n cp]∧Below w.heap.size w wr) (fun iv _=>n-(intOf iv).toNat)
 case atStart=>exact⟨0,rfl,Nat.zero_le _,by simp,HW0.out⟩
 case round=>
  obtain⟨j,rfl,hj,hG,hB,hb⟩:=hrel
  have HJ:Hid ((∀e∈xs.take j,GoodN e)∧BoxAt wr w.heap.size 25 1 w.heap.size [.slice (some ⟨g,o,none⟩) n cp]∧Below w.heap.size w wr):=⟨hG,hB,hb⟩
  have c0:=hB.cell (j:=0) rfl
  have sr:=hb.size
  clear hG hB hb HW0
  by_cases hlt:j<n
  ·have zj:(j:Int)<(n:Int):=by omega
   obtain⟨e,he⟩:∃e,xs[j]?=some e:=⟨_,List.getElem?_eq_getElem (by have:=HN.out;omega)⟩
   obtain⟨d0,d1,d2,d3,d4,d5,d6⟩:=(HO.1.at.below HJ.2.2 hg) j e he
   have ok:=HO.2 e (List.mem_of_getElem? he)
   have HE:Hid (e.s.size≤maxLen∧e.t.size≤maxLen∧e∈xs∧xs.take (j+1)=xs.take j++ [e]):=⟨ok.s,ok.t,List.mem_of_getElem? he,by rw[List.take_add_one,he];rfl⟩
   clear ok he
   go_wp2_with fail
   refine(good_core e wr HE.1 HE.2.1).mono ?_
   rintro r w2 ⟨b,rfl,hb,hb2⟩
   have HB:Hid (b=true↔GoodN e):=hb
   have HJ2:Hid (BoxAt w2 w.heap.size 25 1 w.heap.size [.slice (some ⟨g,o,none⟩) n cp]∧Below w.heap.size w w2):=⟨HJ.2.1.below hb2,HJ.2.2.trans (hb2.mono sr)⟩
   clear hb hb2 c0 d0 d1 d2 d3 d4 d5 d6
   cases b
   ·have HF:Hid (¬GoodF xs):=fun q=>by
     have:=HB.2 (goodF_all q e HE.2.2.1)
     cases this
    go_wp2_with fail
    go_ret
    exact⟨_,rfl,by simp[HF.out],HJ2.2⟩
   ·go_wp2_with fail
    go_roundw
    case rel=>
     refine⟨j+1,by go_num,by omega,?_,HJ2.1,HJ2.2⟩
     intro e' he'
     rw[HE.2.2.2]at he'
     rcases List.mem_append.1 he' with h|h
     ·exact HJ.1 e' h
     ·simp at h;subst h;exact HB.1 (by first|rfl|trivial)
    case measure=>simp[intOf];omega
  ·have zj:¬(j:Int)<(n:Int):=by omega
   have HA:Hid (∀e∈xs,GoodN e):=by
    have h1:=HJ.1
    rw[List.take_of_length_le (by have:=HN.out;omega)]at h1
    exact h1
   have hWin:Win wr g o cp xs:=⟨HO.1.at.below HJ.2.2 hg,by omega,by rw[←HN.out];exact hcp.1,by omega,by have:=HN.out;omega⟩
   have HT:Hid (Calls Tryz.prog 39 #[.slice (some ⟨g,o,none⟩) n cp] wr fun r w'=>w'=wr∧((r=.returned (.bool true)∧IsT 1 xs)∨(r=.returned (.bool false)∧¬IsT 1 xs))):=by
    rw[HN.out];exact l5Tree_core hWin
   have HNe:Hid (∀s,ShT goodB [s] xs→Calls Tryz.prog 40 #[.slice (some ⟨g,o,none⟩) n cp] wr fun r w'=>r=.returned (.int .i64 (s.nest:Int))∧Below wr.heap.size wr w'):=fun s hs=>by
    rw[HN.out];exact nest_all goodB xs.length wr g o cp xs s (Nat.le_refl _) hWin hs
   clear hWin
   go_wp2_with fail
   refine HT.mono ?_
   rintro r w2 ⟨hw2,(⟨rfl,hT⟩|⟨rfl,hT⟩)⟩
   ·rw[hw2]
    clear hw2
    obtain⟨ss,hl,hs⟩:=IsT.shapes goodB hT
    obtain⟨s,rfl⟩:∃s,ss= [s]:=by
     match ss,hl with
     | [s],_=>exact⟨s,rfl⟩
    have HSh:Hid (ShT goodB [s] xs):=hs
    have HV:Hid (s.valid=true):=by
     show s.valid=true
     have h1:=ShT.valid goodB hs
     have h2:xs.all goodB=true:=List.all_eq_true.2 (fun e he=>(goodB_iff e).2 (HA.out e he))
     rw[h2]at h1
     simpa using h1
    have HF:Hid (GoodF xs↔s.nest≤20):=by
     show GoodF xs↔_
     constructor
     ·rintro⟨_,t,ht,_,hn⟩
      rw[sh_one hs ht];exact hn
     ·intro hn
      exact⟨by have:=HN.out;omega,s,hs,HV.out,hn⟩
    clear hT hl hs
    go_wp2_with fail
    refine(HNe.out s HSh.out).mono ?_
    rintro r w3 ⟨rfl,hb3⟩
    have HB3:Hid (Below w.heap.size w w3):=HJ.2.2.trans (hb3.mono sr)
    clear hb3 c0
    go_wp2_with fail
    go_ret
    exact⟨_,rfl,by rw[HF.out];simp<;>omega,HB3.out⟩
   ·rw[hw2]
    clear hw2
    have HF:Hid (¬GoodF xs):=fun q=>by
     obtain⟨_,s,hs,_⟩:=q
     exact hT hs.tree
    clear hT
    go_wp2_with fail
    go_ret
    exact⟨_,rfl,by simp[HF.out],HJ.2.2⟩
end Go.Proofs.YtgnpcenpcmdlfaaGreatDoor
namespace Go.Proofs.YtgnpcenpcmdlfaaGreatDoor
open Go.ChangeShapes Go.WideShapes Go.ChangeAt Go.RowKit Go.Deep
set_option linter.unusedVariables false
section
variable {T:Type} (V:Nd→List T→T)
inductive TrV:List T→List Nd→Prop
 |nil:TrV [] []
 |snoc {ss os:List T} {xs:List Nd} (n:Nd) (ho:os.length=arity n.kind) (h:TrV (ss++os) xs):TrV (ss++ [V n os]) (xs++ [n])
def stepV (st:List T) (n:Nd):Option (List T):=
 if st.length<arity n.kind then none else some (st.take (st.length-arity n.kind)++ [V n (st.drop (st.length-arity n.kind))])
def foldV (st:List T):List Nd→Option (List T)
 | []=>some st
 |n::ns=>(stepV V st n).bind fun s=>foldV s ns
theorem foldV_append (st:List T) (xs ys:List Nd):foldV V st (xs++ys)=(foldV V st xs).bind (fun s=>foldV V s ys):=by
 induction xs generalizing st with
 |nil=>rfl
 |cons x xs ih=>
  simp only[List.cons_append,foldV]
  cases stepV V st x with
  |none=>rfl
  |some s=>exact ih s
theorem IsT.trv {k:Nat} {xs:List Nd} (h:IsT k xs):∃ss,ss.length=k∧TrV V ss xs:=by
 induction h with
 |nil=>exact⟨[],rfl,.nil⟩
 | @snoc k xs n h ih=>
   obtain⟨ss,hl,hs⟩:=ih
   refine⟨ss.take k++ [V n (ss.drop k)],by simp;omega,.snoc n (by simp;omega) ?_⟩
   rw[List.take_append_drop];exact hs
theorem TrV.tree {ss:List T} {xs:List Nd} (h:TrV V ss xs):IsT ss.length xs:=by
 exact zzQ69
theorem TrV.fold {ss:List T} {xs:List Nd} (h:TrV V ss xs):∀st,foldV V st xs=some (st++ss):=by
 induction h with
 |nil=>intro st;simp[foldV]
 | @snoc ss os xs n ho h ih=>
   intro st
   rw[foldV_append,ih]
   simp only[Option.bind_some,foldV,stepV]
   rw[if_neg (by simp;omega)]
   have hl:(st++(ss++os)).length-arity n.kind=(st++ss).length:=by simp;omega
   rw[hl,←List.append_assoc,List.take_left,List.drop_left,List.append_assoc]
   simp
theorem TrV.one {ss ts:List T} {xs:List Nd} (h:TrV V ss xs) (k:TrV V ts xs):ss=ts:=by
 have a:=h.fold V []
 have b:=k.fold V []
 rw[a]at b
 simpa using b
theorem TrV.split {ss:List T} {xs:List Nd} (h:TrV V ss xs):∀{a b:List T},ss=a++b→∃ys zs,xs=ys++zs∧TrV V a ys∧TrV V b zs:=by
 induction h with
 |nil=>intro a b e;obtain⟨rfl,rfl⟩:a= []∧b= []:=by simpa using e.symm
       exact⟨[],[],rfl,.nil,.nil⟩
 | @snoc ss os xs n ho h ih=>
   intro a b e
   rcases List.eq_nil_or_concat b with rfl|⟨b',z,rfl⟩
   ·simp at e;subst e
    exact⟨xs++ [n],[],by simp,.snoc n ho h,.nil⟩
   ·rw[List.concat_eq_append,←List.append_assoc]at e
    have e2:=List.append_inj' e rfl
    obtain⟨e3,e4⟩:=e2
    simp at e4
    subst e3 e4
    obtain⟨ys,zs,rfl,h1,h2⟩:=ih (a:=a) (b:=b'++os) (by simp)
    refine⟨ys,zs++ [n],by simp,h1,?_⟩
    rw[List.concat_eq_append]
    exact .snoc n ho h2
theorem TrV.inv {s:T} {xs:List Nd} (h:TrV V [s] xs):∃ys n os,xs=ys++ [n]∧os.length=arity n.kind∧TrV V os ys∧s=V n os:=by
 exact zzQ53
inductive KidV:List T→List (List Nd)→Prop
 |nil:KidV [] []
 |cons {o:T} {os:List T} {k:List Nd} {ks:List (List Nd)} (h:TrV V [o] k) (t:KidV os ks):KidV (o::os) (k::ks)
theorem TrV.kids:∀{os:List T} {ys:List Nd},TrV V os ys→∃ks,ys=ks.flatten∧KidV V os ks
 | [],ys,h=>by
   have:=(TrV.tree V h).zero
   subst this
   exact⟨[],rfl,.nil⟩
 |o::os,ys,h=>by
  obtain⟨a,b,rfl,h1,h2⟩:=TrV.split V h (a:= [o]) (b:=os) rfl
  obtain⟨ks,rfl,hk⟩:=TrV.kids h2
  exact⟨a::ks,rfl,.cons h1 hk⟩
theorem KidV.length {os:List T} {ks:List (List Nd)} (h:KidV V os ks):os.length=ks.length:=by
 induction h with
 |nil=>rfl
 |cons _ _ ih=>simp[ih]
theorem KidV.tree {os:List T} {ks:List (List Nd)} (h:KidV V os ks):∀k∈ks,IsT 1 k:=by
 exact zzQ72
theorem KidV.nth {os:List T} {ks:List (List Nd)} (h:KidV V os ks):∀{j:Nat} {k:List Nd},ks[j]?=some k→∃o,os[j]?=some o∧TrV V [o] k:=by
 induction h with
 |nil=>intro j k hk;simp at hk
 |cons h1 _ ih=>
  intro j k hk
  cases j with
  |zero=>simp at hk;subst hk;exact⟨_,rfl,h1⟩
  |succ j=>simp at hk;simpa using ih hk
end
open Classical in
theorem baInj {a b:ByteArray} (h:a.toList=b.toList):a=b:=by
 rw[ByteArray.toList_eq,ByteArray.toList_eq]at h
 cases a with
 |mk a=>cases b with
  |mk b=>
   simp only at h
   congr 1
   exact Array.toList_inj.1 h
end Go.Proofs.YtgnpcenpcmdlfaaGreatDoor
namespace Go.Proofs.YtgnpcenpcmdlfaaGreatDoor
open Go.ChangeShapes Go.WideShapes Go.ChangeAt Go.RowKit Go.Deep
set_option linter.unusedVariables false
set_option linter.unusedSimpArgs false
set_option maxRecDepth 100000
open Classical in
open Classical in
theorem ndNe_any (x y:Nd):∃B:Bool,(B=false↔x=y)∧∀wx,(binOp .neq 65 (.agg #[.int .i64 x.kind,.string x.s,.bool x.hi,.string x.t,.int .u64 x.lo,.int .u64 x.up,.int .i64 x.n]) (.agg #[.int .i64 y.kind,.string y.s,.bool y.hi,.string y.t,.int .u64 y.lo,.int .u64 y.up,.int .i64 y.n])).run Tryz.prog wx=.ok (.bool B) wx:=by
 obtain⟨k,s,h,t,l,u,n⟩:=x
 obtain⟨k',s',h',t',l',u',n'⟩:=y
 refine⟨! decide (k=k'∧s.toList=s'.toList∧h=h'∧t.toList=t'.toList∧l=l'∧u=u'∧n=n'),?_,fun wx=>?_⟩
 ·rw[Bool.not_eq_eq_eq_not,Bool.not_false,decide_eq_true_eq]
  constructor
  ·rintro⟨rfl,h1,rfl,h2,rfl,rfl,rfl⟩
   rw[baInj h1,baInj h2]
  ·intro q
   cases q
   exact⟨rfl,rfl,rfl,rfl,rfl,rfl,rfl⟩
 ·go_simp
  repeat' split
  all_goals simp_all
end Go.Proofs.YtgnpcenpcmdlfaaGreatDoor
namespace Go.Proofs.YtgnpcenpcmdlfaaGreatDoor
open Go.ChangeShapes Go.WideShapes Go.ChangeAt Go.RowKit Go.Deep
set_option linter.unusedVariables false
set_option linter.unusedSimpArgs false
set_option maxRecDepth 100000
theorem cellsN_append (es fs:List Nd):cellsN (es++fs)=cellsN es++cellsN fs:=by simp[cellsN]
theorem nds_cells {w:World} {b off:Nat} {es:List Nd} (h:NdsAt w b off es):∀j u,(cellsN es)[j]?=some u→w.cell? ((⟨b,off,none⟩:Addr).add j)=some u:=by
 intro j u hu
 have hj:j<es.length*7:=by rw[←length_cellsN];exact(List.getElem?_eq_some_iff.1 hu).1
 obtain⟨e,he⟩:∃e,es[j/7]?=some e:=⟨_,List.getElem?_eq_getElem (by omega)⟩
 have hg:=cellsN_get es (j/7) e he (j%7) (Nat.mod_lt _ (by omega))
 rw[show j/7*7+j%7=j by omega,hu]at hg
 obtain⟨c0,c1,c2,c3,c4,c5,c6⟩:=h (j/7) e he
 rw[Addr.add_mid,show off+j=off+j/7*7+j%7 by omega]
 have hm:j%7<7:=Nat.mod_lt _ (by omega)
 generalize j%7=m at*
 match m,hm,hg with
 |0,_,hg=>rw[Nat.add_zero,c0,hg];rfl
 |1,_,hg=>rw[c1,hg];rfl
 |2,_,hg=>rw[c2,hg];rfl
 |3,_,hg=>rw[c3,hg];rfl
 |4,_,hg=>rw[c4,hg];rfl
 |5,_,hg=>rw[c5,hg];rfl
 |6,_,hg=>rw[c6,hg];rfl
theorem nds_one (es:List Nd):∀u∈cellsN es,u.oneCell'=true:=by
 intro u hu
 unfold cellsN at hu
 obtain⟨e,_,he⟩:=List.mem_flatMap.1 hu
 simp at he
 rcases he with rfl|rfl|rfl|rfl|rfl|rfl|rfl<;>rfl
theorem wpList_append_nd {ops:Array Oper} {rest:List Oper} {o:Oper} {a:Act} {Q:Exit→Act→World→Prop} (w:World) (hgd:o.guard=none) (s x:Operand)
  (ho:o.op=.call {callee:=.builtin .append,args:=#[s,x],argTypes:=#[23,23]})
  (base g cp n b off m cx:Nat) (fs es:List Nd) (hs:a.eval s=.slice (some ⟨g,0,none⟩) n cp) (hx:a.eval x=.slice (some ⟨b,off,none⟩) m cx) (hn:n=fs.length) (hm:m=es.length) (hO:OwnNd w base g cp fs)
  (hc:NdsAt w b off es) (hlen:fs.length+es.length≤2^30) (hbase:base≤w.heap.size)
  (h:∀g' cp' w',OwnNd w' base g' cp' (fs++es)→w.grownBy w' (some g)→(g'=g∨g'=w.heap.size)→wpList Tryz.prog ops Q rest (a.put o.dst (.slice (some ⟨g',0,none⟩) (n+m) cp')) w'):wpList Tryz.prog ops Q (o::rest) a w:=by
 subst hn hm
 obtain⟨i,hi,hz0,hz1,hz2⟩:=info_parts Tryz.infoNd
 refine wpList_append_own_at w hgd s x 23 ho base 65 i _ 7 72 Tryz.underlying23 hi hz0 hz1 hz2 rfl (by decide) (.slice (some ⟨g,0,none⟩) fs.length cp) fs.length (cellsN fs) hs hO ⟨b,off,none⟩ es.length cx (cellsN es) hx (length_cellsN es) (nds_cells hc) (nds_one es) ?_ ?_ hbase ?_
 ·unfold maxLen;omega
 ·omega
 ·intro v' w' hO' hgr hnil hat
  rcases hO'.2 with⟨h0,_⟩|⟨g',cap',cur,hv,_,_,hn,hcap,_,_⟩
  ·have:=(hnil.1 h0).1
   cases this
  ·subst hv
   refine h g' cap' w' ?_ hgr ?_
   ·unfold OwnNd
    rw[List.length_append,cellsN_append]
    exact hO'
   ·simp[Value.ownBlock]at hat
    exact hat
end Go.Proofs.YtgnpcenpcmdlfaaGreatDoor
