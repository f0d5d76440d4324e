import Derived.Test.YtgnpcenpcmdlfaaGreatDoorXkAA
import Derived.Deep.RegionLaw
import Derived.Deep.AppendLies
import Derived.Maps.AppendAt
import Derived.Recover
import Derived.RecoverIn
import Derived.Stop.Asserts
import Derived.Deep.DeepCutAuto
import Derived.Lib.Bytealg
import Derived.Lib.Slices
import Derived.Lib.Walk
import Derived.Deep.QuietTactic
import Derived.BigQuiet
import Derived.Deep.RegionWith
import Derived.Lib.ItoaNum
namespace Go.Proofs.YtgnpcenpcmdlfaaGreatDoor
set_option linter.unusedVariables false
set_option linter.unusedSimpArgs false
def cut (p:List UInt8) (i k:Nat):List UInt8:=(p.drop i).take (k-i)
theorem cut_nil (p:List UInt8) (i:Nat):cut p i i= []:=by simp[cut]
theorem cut_len {p:List UInt8} {i k:Nat} (h:k≤p.length):(cut p i k).length=k-i:=by
 simp[cut];omega
theorem cut_cat {p:List UInt8} {i j k:Nat} (h1:i≤j) (h2:j≤k):cut p i k=cut p i j++cut p j k:=by
 unfold cut
 have:k-i=(j-i)+(k-j):=by omega
 rw[this,List.take_add,List.drop_drop]
 congr 3
 omega
theorem cut_one {p:List UInt8} {i:Nat} {c:UInt8} (h:p[i]?=some c):cut p i (i+1)= [c]:=by
 have hi:=lt_of_at h
 unfold cut
 rw[List.drop_eq_getElem_cons hi,Nat.add_sub_cancel_left,get_of_at h]
 simp
abbrev special (c:UInt8):Prop:=isEnd c∨c=40∨c=91∨c=46∨c=92
def RepG (A:List UInt8→Pat→Prop) (xs:List UInt8) (t:Pat):Prop:=
 ∃(ys ops:List UInt8) (a:Pat),xs=ys++ops∧A ys a∧(∀c∈ops,isOp c)∧t=(if ops= []then a else .rep a (ops.any (· != 43)) (ops.any (· != 63)))
def SeqG (A:List UInt8→Pat→Prop):List Pat→List UInt8→Prop
 | [],xs=>xs= []
 |t::ts,xs=>∃ys zs,xs=ys++zs∧RepG A ys t∧SeqG A ts zs
def AltG (A:List UInt8→Pat→Prop):List (List Pat)→List UInt8→Prop
 | [],xs=>False
 | [ts],xs=>SeqG A ts xs
 |ts::os,xs=>∃ys zs,xs=ys++124::zs∧SeqG A ts ys∧AltG A os zs
def AtomG:Nat→List UInt8→Pat→Prop
 |0,_,_=>False
 |n+1,xs,t=>(∃c,xs= [c]∧¬special c∧t=.byte c)∨(xs= [46]∧t=.cls (fun _=>true))∨(∃c,xs= [92,c]∧t=.byte c)∨
   (∃ys os,xs=40::ys++ [41]∧AltG (AtomG n) os ys∧t=.alt os)∨(∃p i k f,p[i]?=some 91∧classM p (i+1)=.inl (f,k)∧xs=cut p i k∧t=.cls f)
theorem RepG.mono {A B:List UInt8→Pat→Prop} (h:∀xs t,A xs t→B xs t) {xs:List UInt8} {t:Pat}:RepG A xs t→RepG B xs t:=fun⟨ys,ops,a,h1,h2,h3,h4⟩=>⟨ys,ops,a,h1,h _ _ h2,h3,h4⟩
theorem SeqG.mono {A B:List UInt8→Pat→Prop} (h:∀xs t,A xs t→B xs t):∀{ts:List Pat} {xs:List UInt8},SeqG A ts xs→SeqG B ts xs
 | [],_,q=>q
 |_::_,_,⟨ys,zs,h1,h2,h3⟩=>⟨ys,zs,h1,h2.mono h,SeqG.mono h h3⟩
theorem AltG.mono {A B:List UInt8→Pat→Prop} (h:∀xs t,A xs t→B xs t):∀{os:List (List Pat)} {xs:List UInt8},AltG A os xs→AltG B os xs
 | [],_,q=>q
 | [_],_,q=>SeqG.mono h q
 |_::_::_,_,⟨ys,zs,h1,h2,h3⟩=>⟨ys,zs,h1,h2.mono h,AltG.mono h h3⟩
theorem AtomG.mono:∀{n m:Nat} {xs:List UInt8} {t:Pat},n≤m→AtomG n xs t→AtomG m xs t
 |0,_,_,_,_,h=>h.elim
 |n+1,0,_,_,hm,_=>by omega
 |n+1,m+1,xs,t,hm,h=>by
  rcases h with h|h|h|⟨ys,os,h1,h2,h3⟩|h
  ·exact .inl h
  ·exact .inr (.inl h)
  ·exact .inr (.inr (.inl h))
  ·exact .inr (.inr (.inr (.inl ⟨ys,os,h1,h2.mono (fun _ _ q=>AtomG.mono (by omega) q),h3⟩)))
  ·exact .inr (.inr (.inr (.inr h)))
theorem SeqG.snoc {A:List UInt8→Pat→Prop}:∀{ts:List Pat} {xs ys:List UInt8} {t:Pat},SeqG A ts xs→RepG A ys t→SeqG A (ts++ [t]) (xs++ys)
 | [],xs,ys,t,h,k=>by subst h;exact⟨ys,[],by simp,k,rfl⟩
 |s::ts,xs,ys,t,⟨us,vs,h1,h2,h3⟩,k=>⟨us,vs++ys,by rw[h1];simp,h2,SeqG.snoc h3 k⟩
theorem AltG.snoc {A:List UInt8→Pat→Prop}:∀{os:List (List Pat)} {xs ys:List UInt8} {ts:List Pat},AltG A os xs→SeqG A ts ys→AltG A (os++ [ts]) (xs++124::ys)
 | [],_,_,_,h,_=>h.elim
 | [s],xs,ys,ts,h,k=>⟨xs,ys,rfl,h,k⟩
 |s::o::os,xs,ys,ts,⟨us,vs,h1,h2,h3⟩,k=>⟨us,vs++124::ys,by rw[h1];simp,h2,AltG.snoc h3 k⟩
structure AtomOk (p:List UInt8) (o i k:Nat) (t:Pat):Prop where
 lt:i<k
 le:k≤p.length
 chk:∀a,chkM p i o a=chkM p k o true
 gr:∃n,AtomG n (cut p i k) t
structure RepOk (p:List UInt8) (o i k:Nat) (t:Pat):Prop where
 lt:i<k
 le:k≤p.length
 chk:∀a,chkM p i o a=chkM p k o true
 next:∀c,p[k]?=some c→¬isOp c
 gr:∃n,RepG (AtomG n) (cut p i k) t
structure SeqOk (p:List UInt8) (o i k:Nat) (ts:List Pat):Prop where
 lei:i≤k
 le:k≤p.length
 chk:chkM p i o false=chkM p k o false
 gr:∃n,SeqG (AtomG n) ts (cut p i k)
structure AltOk (p:List UInt8) (o i k:Nat) (os:List (List Pat)):Prop where
 lei:i≤k
 le:k≤p.length
 chk:chkM p i o false=chkM p k o false
 gr:∃n,AltG (AtomG n) os (cut p i k)
theorem SeqOk.nil {p:List UInt8} {o i:Nat} (h:i≤p.length):SeqOk p o i i []:=⟨Nat.le_refl _,h,rfl,0,cut_nil p i⟩
theorem SeqOk.more {p:List UInt8} {o i j k:Nat} {ts:List Pat} {t:Pat} (h:SeqOk p o i j ts) (r:RepOk p o j k t):SeqOk p o i k (ts++ [t]):=by
 obtain⟨n,hn⟩:=h.gr
 obtain⟨m,hm⟩:=r.gr
 refine⟨Nat.le_trans h.lei (Nat.le_of_lt r.lt),r.le,?_,max n m,?_⟩
 ·rw[h.chk,r.chk,chk_flag r.next]
 ·rw[cut_cat h.lei (Nat.le_of_lt r.lt)]
  exact(hn.mono (fun _ _ q=>AtomG.mono (Nat.le_max_left _ _) q)).snoc (hm.mono (fun _ _ q=>AtomG.mono (Nat.le_max_right _ _) q))
theorem AltOk.one {p:List UInt8} {o i k:Nat} {ts:List Pat} (h:SeqOk p o i k ts):AltOk p o i k [ts]:=⟨h.lei,h.le,h.chk,h.gr⟩
theorem AltOk.more {p:List UInt8} {o i j k:Nat} {os:List (List Pat)} {ts:List Pat} (h:AltOk p o i j os) (hb:p[j]?=some 124) (s:SeqOk p o (j+1) k ts):AltOk p o i k (os++ [ts]):=by
 obtain⟨n,hn⟩:=h.gr
 obtain⟨m,hm⟩:=s.gr
 have hl:=s.lei
 refine⟨Nat.le_trans h.lei (by omega),s.le,?_,max n m,?_⟩
 ·rw[h.chk,chk_bar hb,s.chk]
 ·rw[cut_cat h.lei (show j≤k by omega),cut_cat (show j≤j+1 by omega) hl,cut_one hb]
  exact(hn.mono (fun _ _ q=>AtomG.mono (Nat.le_max_left _ _) q)).snoc (hm.mono (fun _ _ q=>AtomG.mono (Nat.le_max_right _ _) q))
theorem AtomOk.group {p:List UInt8} {o i j:Nat} {os:List (List Pat)} (h:p[i]?=some 40) (ho:¬o=20) (a:AltOk p (o+1) (i+1) j os) (hj:p[j]?=some 41):AtomOk p o i (j+1) (.alt os):=by
 obtain⟨n,hn⟩:=a.gr
 have hl:=a.lei
 refine⟨by omega,lt_of_at hj,fun b=>?_,n+1,.inr (.inr (.inr (.inl ⟨_,os,?_,hn,rfl⟩)))⟩
 ·rw[chk_open h,if_neg ho,a.chk,chk_close hj,if_neg (by omega),Nat.add_sub_cancel]
 ·rw[cut_cat (show i≤i+1 by omega) (show i+1≤j+1 by omega),cut_one h,cut_cat hl (show j≤j+1 by omega),cut_one hj]
  simp
theorem AtomOk.plain {p:List UInt8} {o i:Nat} {c:UInt8} (h:p[i]?=some c) (hc:¬special c):AtomOk p o i (i+1) (.byte c):=by
 refine⟨by omega,lt_of_at h,fun a=>chk_plain h (fun q=>hc (.inl q)) (fun q=>hc (.inr (.inl q))) (fun q=>hc (.inr (.inr (.inl q)))) (fun q=>hc (.inr (.inr (.inr (.inr q))))),1,.inl ⟨c,cut_one h,hc,rfl⟩⟩
theorem AtomOk.dot {p:List UInt8} {o i:Nat} (h:p[i]?=some 46):AtomOk p o i (i+1) (.cls (fun _=>true)):=by
 refine⟨by omega,lt_of_at h,fun a=>chk_plain h (by decide) (by decide) (by decide) (by decide),1,.inr (.inl ⟨cut_one h,rfl⟩)⟩
theorem AtomOk.esc {p:List UInt8} {o i:Nat} {c:UInt8} (h:p[i]?=some 92) (hc:p[i+1]?=some c):AtomOk p o i (i+1+1) (.byte c):=by
 have hl:=lt_of_at hc
 refine⟨by omega,hl,fun a=>by rw[chk_esc h,if_neg (by omega)],1,.inr (.inr (.inl ⟨c,?_,rfl⟩))⟩
 rw[cut_cat (show i≤i+1 by omega) (show i+1≤i+1+1 by omega),cut_one h,cut_one hc]
 rfl
theorem AtomOk.class {p:List UInt8} {o i k:Nat} {f:UInt8→Bool} (h:p[i]?=some 91) (hc:classM p (i+1)=.inl (f,k)):AtomOk p o i k (.cls f):=by
 have hl:=classM_gt hc
 exact⟨by omega,hl.2,fun a=>by rw[chk_class h,hc],1,.inr (.inr (.inr (.inr ⟨p,i,k,f,h,hc,rfl,rfl⟩)))⟩
structure OpsOk (p:List UInt8) (o i j k:Nat) (a:Pat) (op rp:Bool):Prop where
 atom:AtomOk p o i j a
 lt:j≤k
 le:k≤p.length
 chk:chkM p j o true=chkM p k o true
 ops:∀c∈cut p j k,isOp c
 opt:op=(cut p j k).any (· != 43)
 rpt:rp=(cut p j k).any (· != 63)
theorem OpsOk.zero {p:List UInt8} {o i j:Nat} {a:Pat} (h:AtomOk p o i j a):OpsOk p o i j j a false false:=
 ⟨h,Nat.le_refl _,h.le,rfl,by rw[cut_nil];simp,by rw[cut_nil];rfl,by rw[cut_nil];rfl⟩
theorem OpsOk.more {p:List UInt8} {o i j k:Nat} {a:Pat} {op rp:Bool} {c:UInt8} (h:OpsOk p o i j k a op rp) (hc:p[k]?=some c) (hop:isOp c):OpsOk p o i j (k+1) a (op || c != 43) (rp || c != 63):=by
 have hcut:cut p j (k+1)=cut p j k++ [c]:=by rw[cut_cat h.lt (show k≤k+1 by omega),cut_one hc]
 refine⟨h.atom,by have:=h.lt;omega,lt_of_at hc,?_,?_,?_,?_⟩
 ·rw[h.chk,chk_op hc hop,if_pos rfl]
 ·rw[hcut]
  intro d hd
  rcases List.mem_append.1 hd with hd|hd
  ·exact h.ops d hd
  ·simp at hd;subst hd;exact hop
 ·rw[hcut,List.any_append,←h.opt];simp
 ·rw[hcut,List.any_append,←h.rpt];simp
theorem OpsOk.rep {p:List UInt8} {o i j k:Nat} {a:Pat} {op rp:Bool} (h:OpsOk p o i j k a op rp) (hn:∀c,p[k]?=some c→¬isOp c):RepOk p o i k (if j=k then a else .rep a op rp):=by
 obtain⟨n,hg⟩:=h.atom.gr
 have h1:=h.atom.lt
 have h2:=h.lt
 refine⟨by omega,h.le,fun b=>by rw[h.atom.chk,h.chk],hn,n,cut p i j,cut p j k,a,cut_cat (by omega) h2,hg,h.ops,?_⟩
 by_cases hjk:j=k
 ·subst hjk;rw[if_pos rfl,if_pos (cut_nil p j)]
 ·have:¬cut p j k= []:=fun q=>by have:=cut_len (p:=p) (i:=j) h.le;rw[q]at this;simp at this;omega
  rw[if_neg hjk,if_neg this,←h.opt,←h.rpt]
end Go.Proofs.YtgnpcenpcmdlfaaGreatDoor
namespace Go.Proofs.YtgnpcenpcmdlfaaGreatDoor
open Go.ChangeShapes Go.WideShapes Go.ChangeAt Go.RowKit Go.Deep
set_option linter.unusedVariables false
set_option linter.unusedSimpArgs false
set_option maxRecDepth 100000
abbrev byteV (b:UInt8):Value:=.iface 224 (.agg #[.int .u8 (b.toNat:Int)])
def Bet (a b:Nat):Nat→Prop:=fun k=>a≤k∧k<b
structure ValsAt (w:World) (R:Nat→Prop) (g:Nat) (vs:List Value):Prop where
 blk:R g
 lt:g<w.heap.size
 val:∀(i:Nat) v,vs[i]?=some v→w.cell? ⟨g,i,none⟩=some v
theorem ValsAt.chg {S:Nat→Prop} {w w':World} {R:Nat→Prop} {g:Nat} {vs:List Value} (h:ValsAt w R g vs) (hc:Chg S w w') (hS:∀k,S k→¬R k):ValsAt w' R g vs:=
 ⟨h.blk,Nat.lt_of_lt_of_le h.lt hc.size,fun i v hv=>by rw[hc.cell (p:=⟨g,i,none⟩) h.lt (fun q=>hS g q h.blk)];exact h.val i v hv⟩
def SeqIs (N:Pat→Value→Prop) (w:World) (lo:Nat→Prop) (ts:List Pat) (u:Value):Prop:=
 (ts= []∧u=.slice none 0 0)∨∃(g cp:Nat) (us:List Value),u=.slice (some ⟨g,0,none⟩) ts.length cp∧us.length=ts.length∧ValsAt w lo g us∧∀(i:Nat) x t,us[i]?=some x→ts[i]?=some t→N t x
def AltIs (N:Pat→Value→Prop) (w:World) (lo:Nat→Prop) (os:List (List Pat)) (u:Value):Prop:=
 ∃(g cp:Nat) (us:List Value),u=.slice (some ⟨g,0,none⟩) os.length cp∧us.length=os.length∧ValsAt w lo g us∧∀(i:Nat) x ts,us[i]?=some x→os[i]?=some ts→SeqIs N w lo ts x
def NodeIs:Nat→World→(Nat→Prop)→Pat→Value→Prop
 |0,_,_,_,_=>False
 |n+1,w,lo,.byte b,v=>v=byteV b
 |n+1,w,lo,.cls f,v=>v=clsV f
 |n+1,w,lo,.rep t o r,v=>∃u,v=.iface 214 (.agg #[u,.bool o,.bool r])∧NodeIs n w lo t u
 |n+1,w,lo,.alt os,v=>∃u,v=.iface 171 (.agg #[u])∧AltIs (NodeIs n w lo) w lo os u
theorem SeqIs.mono {N M:Pat→Value→Prop} {w w':World} {lo lo':Nat→Prop} (hN:∀t v,N t v→M t v) (hV:∀g vs,ValsAt w lo g vs→ValsAt w' lo' g vs) {ts:List Pat} {u:Value}:SeqIs N w lo ts u→SeqIs M w' lo' ts u
 | .inl h=>.inl h
 | .inr ⟨g,cp,us,h1,h2,h3,h4⟩=>.inr ⟨g,cp,us,h1,h2,hV _ _ h3,fun i x t hx ht=>hN _ _ (h4 i x t hx ht)⟩
theorem AltIs.mono {N M:Pat→Value→Prop} {w w':World} {lo lo':Nat→Prop} (hN:∀t v,N t v→M t v) (hV:∀g vs,ValsAt w lo g vs→ValsAt w' lo' g vs) {os:List (List Pat)} {u:Value}:AltIs N w lo os u→AltIs M w' lo' os u
 |⟨g,cp,us,h1,h2,h3,h4⟩=>⟨g,cp,us,h1,h2,hV _ _ h3,fun i x t hx ht=>(h4 i x t hx ht).mono hN hV⟩
theorem NodeIs.mono:∀{n m:Nat} {w w':World} {lo lo':Nat→Prop} (hV:∀g vs,ValsAt w lo g vs→ValsAt w' lo' g vs) {t:Pat} {v:Value},n≤m→NodeIs n w lo t v→NodeIs m w' lo' t v
 |0,_,_,_,_,_,_,_,_,_,h=>h.elim
 |n+1,0,_,_,_,_,_,_,_,hm,_=>by omega
 |n+1,m+1,w,w',lo,lo',hV,.byte b,v,_,h=>h
 |n+1,m+1,w,w',lo,lo',hV,.cls f,v,_,h=>h
 |n+1,m+1,w,w',lo,lo',hV,.rep t o r,v,hm,⟨u,h1,h2⟩=>⟨u,h1,NodeIs.mono hV (by omega) h2⟩
 |n+1,m+1,w,w',lo,lo',hV,.alt os,v,hm,⟨u,h1,h2⟩=>⟨u,h1,h2.mono (fun t v q=>NodeIs.mono hV (by omega) q) hV⟩
def NodeOk (w:World) (lo:Nat→Prop) (t:Pat) (v:Value):Prop:=∃n,NodeIs n w lo t v
def SeqAt (w:World) (lo:Nat→Prop) (ts:List Pat) (u:Value):Prop:=∃n,SeqIs (NodeIs n w lo) w lo ts u
def AltAt (w:World) (lo:Nat→Prop) (os:List (List Pat)) (u:Value):Prop:=∃n,AltIs (NodeIs n w lo) w lo os u
theorem vals_move {S:Nat→Prop} {w w':World} {lo lo':Nat→Prop} (hc:Chg S w w') (hS:∀k,S k→¬lo k) (hl:∀k,k<w.heap.size→lo k→lo' k):∀g vs,ValsAt w lo g vs→ValsAt w' lo' g vs:=fun g vs h=>by
 have h1:=h.chg hc hS
 exact⟨hl g h.lt h1.blk,h1.lt,h1.val⟩
theorem NodeOk.move {S:Nat→Prop} {w w':World} {lo lo':Nat→Prop} {t:Pat} {v:Value} (h:NodeOk w lo t v) (hc:Chg S w w') (hS:∀k,S k→¬lo k) (hl:∀k,k<w.heap.size→lo k→lo' k):NodeOk w' lo' t v:=by
 obtain⟨n,hn⟩:=h
 exact⟨n,hn.mono (vals_move hc hS hl) (Nat.le_refl _)⟩
theorem SeqAt.move {S:Nat→Prop} {w w':World} {lo lo':Nat→Prop} {ts:List Pat} {u:Value} (h:SeqAt w lo ts u) (hc:Chg S w w') (hS:∀k,S k→¬lo k) (hl:∀k,k<w.heap.size→lo k→lo' k):SeqAt w' lo' ts u:=by
 obtain⟨n,hn⟩:=h
 exact⟨n,hn.mono (fun t v q=>q.mono (vals_move hc hS hl) (Nat.le_refl _)) (vals_move hc hS hl)⟩
theorem AltAt.move {S:Nat→Prop} {w w':World} {lo lo':Nat→Prop} {os:List (List Pat)} {u:Value} (h:AltAt w lo os u) (hc:Chg S w w') (hS:∀k,S k→¬lo k) (hl:∀k,k<w.heap.size→lo k→lo' k):AltAt w' lo' os u:=by
 obtain⟨n,hn⟩:=h
 exact⟨n,hn.mono (fun t v q=>q.mono (vals_move hc hS hl) (Nat.le_refl _)) (vals_move hc hS hl)⟩
theorem nodeOk_byte (w:World) (lo:Nat→Prop) (b:UInt8):NodeOk w lo (.byte b) (byteV b):=⟨1,rfl⟩
theorem nodeOk_cls (w:World) (lo:Nat→Prop) (f:UInt8→Bool):NodeOk w lo (.cls f) (clsV f):=⟨1,rfl⟩
theorem nodeOk_rep {w:World} {lo:Nat→Prop} {t:Pat} {v:Value} (h:NodeOk w lo t v) (o r:Bool):NodeOk w lo (.rep t o r) (.iface 214 (.agg #[v,.bool o,.bool r])):=by
 obtain⟨n,hn⟩:=h
 exact⟨n+1,v,rfl,hn⟩
theorem nodeOk_alt {w:World} {lo:Nat→Prop} {os:List (List Pat)} {u:Value} (h:AltAt w lo os u):NodeOk w lo (.alt os) (.iface 171 (.agg #[u])):=by
 obtain⟨n,hn⟩:=h
 exact⟨n+1,u,rfl,hn⟩
theorem nodes_one {w:World} {lo:Nat→Prop}:∀{ts:List Pat} {us:List Value},us.length=ts.length→(∀(i:Nat) x t,us[i]?=some x→ts[i]?=some t→NodeOk w lo t x)→∃n,∀(i:Nat) x t,us[i]?=some x→ts[i]?=some t→NodeIs n w lo t x
 | [],[],_,_=>⟨0,fun i x t hx=>by simp at hx⟩
 |t::ts,u::us,hl,h=>by
  obtain⟨n,hn⟩:=nodes_one (ts:=ts) (us:=us) (by simpa using hl) (fun i x t hx ht=>h (i+1) x t (by simpa using hx) (by simpa using ht))
  obtain⟨m,hm⟩:=h 0 u t rfl rfl
  refine⟨max n m,fun i x t' hx ht=>?_⟩
  cases i with
  |zero=>simp at hx ht;subst hx ht;exact hm.mono (fun _ _ q=>q) (Nat.le_max_right _ _)
  |succ i=>exact(hn i x t' (by simpa using hx) (by simpa using ht)).mono (fun _ _ q=>q) (Nat.le_max_left _ _)
theorem seqs_one {w:World} {lo:Nat→Prop}:∀{os:List (List Pat)} {us:List Value},us.length=os.length→(∀(i:Nat) x ts,us[i]?=some x→os[i]?=some ts→SeqAt w lo ts x)→∃n,∀(i:Nat) x ts,us[i]?=some x→os[i]?=some ts→SeqIs (NodeIs n w lo) w lo ts x
 | [],[],_,_=>⟨0,fun i x t hx=>by simp at hx⟩
 |t::ts,u::us,hl,h=>by
  obtain⟨n,hn⟩:=seqs_one (os:=ts) (us:=us) (by simpa using hl) (fun i x t hx ht=>h (i+1) x t (by simpa using hx) (by simpa using ht))
  obtain⟨m,hm⟩:=h 0 u t rfl rfl
  refine⟨max n m,fun i x t' hx ht=>?_⟩
  cases i with
  |zero=>simp at hx ht;subst hx ht;exact hm.mono (fun _ _ q=>q.mono (fun _ _ q=>q) (Nat.le_max_right _ _)) (fun _ _ q=>q)
  |succ i=>exact(hn i x t' (by simpa using hx) (by simpa using ht)).mono (fun _ _ q=>q.mono (fun _ _ q=>q) (Nat.le_max_left _ _)) (fun _ _ q=>q)
theorem NodeOk.iface {w:World} {lo:Nat→Prop} {t:Pat} {v:Value} (h:NodeOk w lo t v):∃T c,v=.iface T (.agg c):=by
 obtain⟨n,hn⟩:=h
 cases n with
 |zero=>exact hn.elim
 |succ n=>
  cases t with
  |byte b=>exact⟨_,_,hn⟩
  |cls f=>exact⟨_,_,hn⟩
  |rep t o r=>obtain⟨u,h1,_⟩:=hn;exact⟨_,_,h1⟩
  |alt os=>obtain⟨u,h1,_⟩:=hn;exact⟨_,_,h1⟩
def OwnN (w:World) (base:Nat) (v:Value) (us:List Value):Prop:=w.ownsRow base 209 1 v us.length us
def OwnQ (w:World) (base g cp:Nat) (us:List Value):Prop:=w.ownsRow base 195 1 (.slice (some ⟨g,0,none⟩) us.length cp) us.length us
theorem OwnQ.lt {w:World} {base g cp:Nat} {us:List Value} (h:OwnQ w base g cp us):base≤g∧g<w.heap.size:=World.ownsRow.lt h g rfl
theorem OwnQ.vals {w:World} {base g cp:Nat} {us:List Value} {R:Nat→Prop} (h:OwnQ w base g cp us) (hR:R g):ValsAt w R g us:=by
 refine⟨hR,h.lt.2,fun i v hv=>?_⟩
 have hi:=(List.getElem?_eq_some_iff.1 hv).1
 rw[World.ownsRow.cellAt h i (by omega),hv]
theorem OwnN.seq {w:World} {base:Nat} {R:Nat→Prop} {v:Value} {us:List Value} {ts:List Pat} (h:OwnN w base v us) (hl:us.length=ts.length) (hN:∀(i:Nat) x t,us[i]?=some x→ts[i]?=some t→NodeOk w R t x) (hb:∀k,v.ownBlock=some k→R k):SeqAt w R ts v:=by
 obtain⟨n,hn⟩:=nodes_one hl hN
 refine⟨n,?_⟩
 have h':=h
 rcases h.2 with⟨rfl,h0⟩|⟨g,cap,cur,rfl,h1,h2,h3⟩
 ·left
  refine⟨List.length_eq_zero_iff.1 (by omega),rfl⟩
 ·right
  have hlt:=World.ownsRow.lt h' g rfl
  refine⟨g,cap,us,by rw[hl],hl,⟨hb g rfl,hlt.2,fun i v hv=>?_⟩,hn⟩
  have hi:=(List.getElem?_eq_some_iff.1 hv).1
  rw[World.ownsRow.cellAt h' i (by omega),hv]
theorem Tryz.infoNode:(Tryz.prog.info? 209).map (fun i=>(i.zero,i.size,i.bytes))=some (some .nilIface,1,16):=by kernel_rfl
theorem Tryz.infoSeq:(Tryz.prog.info? 195).map (fun i=>(i.zero,i.size,i.bytes))=some (some (.agg #[.slice none 0 0]),1,24):=by kernel_rfl
def NodePost (p:ByteArray) (base g i o:Nat) (w:World) (R:Nat→Pat→Prop) (e:Ending) (w':World):Prop:=
 Chg (fun k=>k=g) w w'∧((∃(k:Nat) (t:Pat) (v:Value),R k t∧e=.returned v∧NodeOk w' (Bet w.heap.size w'.heap.size) t v∧PrAt w' base g p k o)∨(∃(c:Int) (k:Nat),¬c=0∧(∀a,chkM (sb p) i o a=(c,k))∧e=Pf c k))
def AltPost (p:ByteArray) (base g i o:Nat) (w:World) (e:Ending) (w':World):Prop:=
 Chg (fun k=>k=g) w w'∧((∃(k:Nat) (os:List (List Pat)) (u:Value),AltOk (sb p) o i k os∧(∀c,(sb p)[k]?=some c→isEnd c∧¬c=124)∧e=.returned (.agg #[u])∧AltAt w' (Bet w.heap.size w'.heap.size) os u∧PrAt w' base g p k o)∨(∃(c:Int) (k:Nat),¬c=0∧chkM (sb p) i o false=(c,k)∧e=Pf c k))
def AltC (p:ByteArray) (m:Nat):Prop:=∀(base g i o:Nat) (w:World),p.size-i≤m→i≤p.size→o≤20→PrAt w base g p i o→Calls Tryz.prog 142 #[.pointer (some ⟨g,0,none⟩)] w (AltPost p base g i o w)
def AtomC (p:ByteArray) (m:Nat):Prop:=∀(base g i o:Nat) (w:World),p.size-i≤m→i<p.size→o≤20→(∀c,(sb p)[i]?=some c→¬isEnd c)→PrAt w base g p i o→Calls Tryz.prog 165 #[.pointer (some ⟨g,0,none⟩)] w (NodePost p base g i o w (AtomOk (sb p) o i))
theorem PrAt.open {w:World} {base g i o:Nat} {p:ByteArray} (h:PrAt w base g p i o) (o':Nat):PrAt (w.setCell ⟨g,2,none⟩ (.int .i64 (o':Int))) base g p i o':=BoxAt.set h 2 (.int .i64 (o':Int))
theorem AltAt.slice {w:World} {lo:Nat→Prop} {os:List (List Pat)} {u:Value} (h:AltAt w lo os u):∃g n cp,u=.slice (some ⟨g,0,none⟩) n cp:=by
 obtain⟨n,g,cp,us,h1,_⟩:=h
 exact⟨g,_,cp,h1⟩
set_option maxHeartbeats 4000000 in
theorem group_of {p:ByteArray} {m:Nat} (H:AltC p m) (hp:p.size≤200) (base g q o:Nat) (w:World) (hm:p.size-(q+1)≤m) (hq:(sb p)[q]?=some 40) (ho:o≤20) (h:PrAt w base g p (q+1) o):
  Calls Tryz.prog 168 #[.pointer (some ⟨g,0,none⟩)] w (NodePost p base g q o w (AtomOk (sb p) o q)):=by
 have HP:Hid (PrAt w base g p (q+1) o∧(sb p)[q]?=some 40):=⟨h,hq⟩
 have hgl:=h.lt.2
 have hqp:q+1≤p.size:=by have:=lt_of_at hq;rw[sb_len]at this;omega
 have c1:=h.cell (j:=1) rfl
 have c2:=h.cell (j:=2) rfl
 have f2:=h.frozen 2
 clear h hq
 by_cases ho20:o=20
 ·subst ho20
  go_enter Tryz.func168,Tryz.ntmps168
  go_wp2_with fail
  exact⟨rfl,Chg.refl _ _,.inr ⟨3,q,by decide,fun a=>by rw[chk_open HP.2,if_pos rfl],by first|rfl|simp⟩⟩
 have z20:¬(o:Int)=20:=by omega
 have HW:Hid (PrAt (w.setCell ⟨g,2,none⟩ (.int .i64 ((o+1:Nat):Int))) base g p (q+1) (o+1)∧Chg (fun k=>k=g) w (w.setCell ⟨g,2,none⟩ (.int .i64 ((o+1:Nat):Int)))):=⟨PrAt.open HP.1 (o+1),Chg.of_set w g 2 _ rfl⟩
 obtain⟨W,hW⟩:=qE (w.setCell ⟨g,2,none⟩ (.int .i64 ((o+1:Nat):Int)):World)
 have hzW:W.heap.size=w.heap.size:=by rw[hW];simp[World.setCell]
 rw[←hW]at HW
 have hW2:W=w.setCell ⟨g,2,none⟩ (.int .i64 ((o:Int)+1)):=hW
 have HZ:Hid (W.heap.size=w.heap.size):=hzW
 clear hW hzW
 go_enter Tryz.func168,Tryz.ntmps168
 go_upto_region 4 with fail
 rw[←hW2]
 clear hW2 c1 c2 f2
 go_wp2_with fail
 refine(H base g (q+1) (o+1) W hm hqp (by omega) HW.1).mono ?_
 rintro e w2 ⟨hC2,(⟨k,os,u,hA,hN,rfl,hU,hP2⟩|⟨c,k,hc0,hk,rfl⟩)⟩
 case inr=>
  refine⟨rfl,HW.2.trans hC2,.inr ⟨c,k,hc0,fun a=>?_,rfl⟩⟩
  rw[chk_open HP.2,if_neg ho20,hk]
 obtain⟨gu,nu,cu,rfl⟩:=hU.slice
 have hkp:k≤p.size:=by have:=hA.le;rw[sb_len]at this;exact this
 have HA:Hid (AltOk (sb p) (o+1) (q+1) k os∧(∀c,(sb p)[k]?=some c→isEnd c∧¬c=124)):=⟨hA,hN⟩
 have HW2:Hid (AltAt w2 (Bet w.heap.size w2.heap.size) os (.slice (some ⟨gu,0,none⟩) nu cu)∧PrAt w2 base g p k (o+1)∧Chg (fun k=>k=g) w w2):=⟨by rw[←HZ.out];exact hU,hP2,HW.2.trans hC2⟩
 clear hC2 hA hN hU hP2 HW
 obtain⟨W3,hW3⟩:=qE (w2.alloc (Obj.cells #[.slice (some ⟨gu,0,none⟩) nu cu] 171):World)
 have hs2:=HW2.2.2.size
 have HW3:Hid (AltAt W3 (Bet w.heap.size w2.heap.size) os (.slice (some ⟨gu,0,none⟩) nu cu)∧PrAt W3 base g p k (o+1)∧Chg (fun k=>k=g) w W3∧BoxAt W3 w.heap.size 171 1 w2.heap.size [.slice (some ⟨gu,0,none⟩) nu cu]):=by
  have hb:Below w2.heap.size w2 W3:=by rw[hW3];exact qB
  refine⟨HW2.1.move (S:=fun _=>False) (Chg.of_below hb) (fun k q=>q.elim) (fun k _ q=>q),BoxAt.below HW2.2.1 hb,HW2.2.2.trans (Chg.of_below hb),?_⟩
  rw[hW3];exact boxAt_new w2 _ hs2 rfl
 clear HW2
 go_upto_region 5 with fail
 rw[←hW3]
 obtain⟨IB,hIB⟩:=qE w2.heap.size
 rw[←hIB]at HW3
 rw[←hIB]
 have hib:w.heap.size≤IB:=by omega
 clear hW3 hIB hs2
 go_wp2_with fail
 refine(pskip_core 41 HW3.2.1 hp).mono ?_
 rintro e w4 ⟨hC4,(⟨hx,rfl,hP4⟩|⟨hx,rfl,hP4⟩)⟩
 case inr=>
  have HF:Hid (PrAt w4 base g p k (o+1)∧Chg (fun k=>k=g) w w4∧¬(sb p)[k]?=some 41):=⟨hP4,HW3.2.2.1.trans hC4,hx⟩
  clear hC4 hx hP4
  go_wp2_with fail
  refine(pdem_no HF.1).mono ?_
  rintro e w5 ⟨rfl,rfl⟩
  refine⟨rfl,HF.2.1,.inr ⟨2,k,by decide,fun a=>?_,rfl⟩⟩
  rw[chk_open HP.2,if_neg ho20,HA.1.chk]
  by_cases hk:k<(sb p).length
  ·obtain⟨c,hc⟩:∃c,(sb p)[k]?=some c:=⟨_,List.getElem?_eq_getElem hk⟩
   obtain⟨h1,h2⟩:=HA.2 c hc
   rcases h1 with h1|h1|h1|h1
   ·rw[chk_op hc h1];rfl
   ·exact absurd h1 h2
   ·subst h1;exact absurd hc HF.2.2
   ·subst h1;rw[chk_rb hc]
  ·rw[chk_end hk,if_pos (by omega)]
   have:=HA.1.le
   rw[show k=(sb p).length by omega]
 have HF:Hid (AltAt w4 (Bet w.heap.size IB) os (.slice (some ⟨gu,0,none⟩) nu cu)∧PrAt w4 base g p (k+1) (o+1)∧Chg (fun k=>k=g) w w4∧BoxAt w4 w.heap.size 171 1 IB [.slice (some ⟨gu,0,none⟩) nu cu]∧(sb p)[k]?=some 41):=
  ⟨HW3.1.move hC4 (fun k q=>by subst q;exact fun z=>by have:=z.1;omega) (fun k _ q=>q),hP4,HW3.2.2.1.trans hC4,BoxAt.chg HW3.2.2.2 hC4 (by omega),hx⟩
 clear hC4 hx hP4 HW3
 go_wp2_with fail
 refine(pdem_yes _ w4).mono ?_
 rintro e w5 ⟨rfl,hw5⟩
 rw[hw5]
 clear hw5
 have d2:=HF.2.1.cell (j:=2) rfl
 have g2:=HF.2.1.frozen 2
 have HZ4:Hid (AltAt (w4.setCell ⟨g,2,none⟩ (.int .i64 (o:Int))) (Bet w.heap.size IB) os (.slice (some ⟨gu,0,none⟩) nu cu)∧PrAt (w4.setCell ⟨g,2,none⟩ (.int .i64 (o:Int))) base g p (k+1) o∧Chg (fun k=>k=g) w (w4.setCell ⟨g,2,none⟩ (.int .i64 (o:Int)))∧BoxAt (w4.setCell ⟨g,2,none⟩ (.int .i64 (o:Int))) w.heap.size 171 1 IB [.slice (some ⟨gu,0,none⟩) nu cu]):=by
  have hc:=Chg.of_set w4 g 2 (.int .i64 (o:Int)) (S:=fun k=>k=g) rfl
  exact⟨HF.1.move hc (fun k q=>by subst q;exact fun z=>by have:=z.1;omega) (fun k _ q=>q),PrAt.open HF.2.1 o,HF.2.2.1.trans hc,BoxAt.chg HF.2.2.2.1 hc (by omega)⟩
 have HC:Hid (AtomOk (sb p) o q (k+1) (.alt os)):=AtomOk.group HP.2 ho20 HA.1 HF.2.2.2.2
 obtain⟨W6,hW6⟩:=qE (w4.setCell ⟨g,2,none⟩ (.int .i64 (o:Int)):World)
 rw[←hW6]at HZ4
 clear HF HA
 go_upto_region 7 with fail
 rw[←hW6]
 clear hW6 d2 g2
 have b0:=HZ4.2.2.2.cell (j:=0) rfl
 go_wp2_with fail
 go_ret
 exact⟨HZ4.2.2.1,.inl ⟨k+1,.alt os,_,HC.out,rfl,nodeOk_alt (HZ4.1.move (S:=fun _=>False) (Chg.refl _ _) (fun k q=>q.elim) (fun k hk q=>⟨q.1,hk⟩)),HZ4.2.1⟩⟩
theorem not_eq_u8 {x c:UInt8} (h:¬x=c):¬(x.toNat:Int)=(c.toNat:Int):=fun q=>h (UInt8.toNat_inj.1 (by omega))
set_option maxHeartbeats 4000000 in
theorem atom_of {p:ByteArray} {m:Nat} (H:AltC p m) (hp:p.size≤200):AtomC p (m+1):=by
 intro base g i o w hm hi ho he h
 obtain⟨x,hx⟩:∃x,(sb p)[i]?=some x:=⟨_,List.getElem?_eq_getElem (by rw[sb_len];exact hi)⟩
 have HX:Hid ((sb p)[i]?=some x∧¬isEnd x):=⟨hx,he x hx⟩
 have HP:Hid (PrAt w base g p i o):=h
 have hgl:=h.lt.2
 clear h he hx
 go_enter Tryz.func165,Tryz.ntmps165
 go_wp2_with fail
 refine(ptake_yes HP.out hp HX.1).mono ?_
 rintro e w1 ⟨rfl,hP1,hC1⟩
 have HW1:Hid (PrAt w1 base g p (i+1) o∧Chg (fun k=>k=g) w w1):=⟨hP1,hC1⟩
 have hs1:=hC1.size
 clear hP1 hC1 HP
 by_cases h46:x=46
 ·subst h46
  go_upto_region 5 with fail
  apply wp_region_list
  refine wpList_build_cells rfl _ _ rfl (setA (fun _=>false)) (by simp;exact built_set) ?_
  simp only[Act.put,Act.eval,List.setIfInBounds_toArray,List.set_cons_succ,List.set_cons_zero]
  refine wpList_call_of rfl 167 #[.agg (setA (fun _=>false))] (by simp[execOp,go_sem,Act.eval,Tryz.func167]) ?_
  refine(opposite_core (fun _=>false) w1).mono ?_
  rintro e w2 ⟨rfl,hb2⟩
  simp only[Act.put,Act.eval,List.setIfInBounds_toArray,List.set_cons_succ,List.set_cons_zero]
  refine wpList_build_cells rfl _ _ rfl (setA (fun _=>true)) (by simp[Act.eval];exact built_cls _ (setA_size _)) ?_
  simp only[Act.put,Act.eval,List.setIfInBounds_toArray,List.set_cons_succ,List.set_cons_zero]
  go_wp2_with fail
  go_ret
  exact⟨HW1.2.trans (Chg.of_below hb2),.inl ⟨i+1,_,_,AtomOk.dot HX.1,rfl,nodeOk_cls _ _ _,BoxAt.below HW1.1 hb2⟩⟩
 have z46:¬(x.toNat:Int)=46:=not_eq_u8 (c:=46) h46
 by_cases h92:x=92
 ·subst h92
  go_wp2_with fail
  refine(ptake_core HW1.1 hp (by omega)).mono ?_
  rintro e w2 ⟨hC2,(⟨y,hy,rfl,hP2⟩|⟨hy,rfl⟩)⟩
  case inr=>
   refine⟨rfl,HW1.2.trans hC2,.inr ⟨2,i+1,by decide,fun a=>?_,rfl⟩⟩
   have h1:=lt_of_at HX.1
   have h2:¬i+1<(sb p).length:=fun q=>by rw[List.getElem?_eq_getElem q]at hy;cases hy
   rw[chk_esc HX.1,if_pos (by omega)]
   rw[show i+1=(sb p).length by omega]
  have HF:Hid (PrAt w2 base g p (i+1+1) o∧Chg (fun k=>k=g) w w2∧(sb p)[i+1]?=some y):=⟨hP2,HW1.2.trans hC2,hy⟩
  clear hC2 hy hP2
  go_wp2_with fail
  go_ret
  exact⟨HF.2.1,.inl ⟨i+1+1,_,_,AtomOk.esc HX.1 HF.2.2,rfl,nodeOk_byte _ _ _,HF.1⟩⟩
 have z92:¬(x.toNat:Int)=92:=not_eq_u8 (c:=92) h92
 by_cases h40:x=40
 ·subst h40
  go_wp2_with fail
  refine(group_of H hp base g i o w1 (by omega) HX.1 ho HW1.1).mono ?_
  rintro e w2 ⟨hC2,(⟨k,t,v,hR,rfl,hN,hP2⟩|⟨c,k,hc0,hk,rfl⟩)⟩
  case inr=>exact⟨rfl,HW1.2.trans hC2,.inr ⟨c,k,hc0,hk,rfl⟩⟩
  have HF:Hid (AtomOk (sb p) o i k t∧NodeOk w2 (Bet w.heap.size w2.heap.size) t v∧PrAt w2 base g p k o∧Chg (fun k=>k=g) w w2):=⟨hR,hN.move (S:=fun _=>False) (Chg.refl _ _) (fun k q=>q.elim) (fun k hk q=>⟨by have:=q.1;omega,hk⟩),hP2,HW1.2.trans hC2⟩
  obtain⟨T,c,rfl⟩:=hN.iface
  clear hC2 hR hN hP2
  go_wp2_with fail
  go_ret
  exact⟨HF.2.2.2,.inl ⟨k,t,_,HF.1,rfl,HF.2.1,HF.2.2.1⟩⟩
 have z40:¬(x.toNat:Int)=40:=not_eq_u8 (c:=40) h40
 by_cases h91:x=91
 ·subst h91
  go_wp2_with fail
  refine(class_core HW1.1 hp (by omega)).mono ?_
  rintro e w2 ⟨hC2,(⟨f,k,hk,rfl,hP2⟩|⟨c,k,hk,rfl⟩)⟩
  case inr=>exact⟨rfl,HW1.2.trans hC2,.inr ⟨c,k,classM_err hk,fun a=>by rw[chk_class HX.1,hk],rfl⟩⟩
  have HF:Hid (PrAt w2 base g p k o∧Chg (fun k=>k=g) w w2∧classM (sb p) (i+1)=.inl (f,k)):=⟨hP2,HW1.2.trans hC2,hk⟩
  clear hC2 hk hP2
  go_wp2_with fail
  go_ret
  exact⟨HF.2.1,.inl ⟨k,_,_,AtomOk.class HX.1 HF.2.2,rfl,nodeOk_cls _ _ _,HF.1⟩⟩
 have z91:¬(x.toNat:Int)=91:=not_eq_u8 (c:=91) h91
 have HS:Hid (¬special x):=fun q=>by
  rcases q with q|q|q|q|q
  ·exact HX.2 q
  ·exact h40 q
  ·exact h91 q
  ·exact h46 q
  ·exact h92 q
 go_wp2_with fail
 go_ret
 exact⟨HW1.2,.inl ⟨i+1,_,_,AtomOk.plain HX.1 HS.out,rfl,nodeOk_byte _ _ _,HW1.1⟩⟩
theorem inB_some {p:List UInt8} {i:Nat} {l:List UInt8} (h:inB p i l=true):∃c,p[i]?=some c∧c∈l:=by
 unfold inB at h
 split at h
 ·next c hc=>exact⟨c,hc,by simpa using h⟩
 ·cases h
theorem inB_none {p:List UInt8} {i:Nat} {l:List UInt8} (h:inB p i l=false):∀c,p[i]?=some c→¬c∈l:=by
 intro c hc
 unfold inB at h
 rw[hc]at h
 simpa using h
theorem op_mem {c:UInt8}:c∈([42,43,63]:List UInt8)↔isOp c:=by simp[isOp]
structure RepJ (p:ByteArray) (base g i o j:Nat) (a:Pat) (v:Value) (RB:Nat) (w:World) (k:Nat) (op rp:Bool) (wr:World):Prop where
 ops:OpsOk (sb p) o i j k a op rp
 rd:PrAt wr base g p k o
 box:BoxAt wr w.heap.size 214 3 RB [v,.bool op,.bool rp]
 node:NodeOk wr (Bet w.heap.size RB) a v
 chg:Chg (fun k=>k=g) w wr
theorem RepJ.move {p:ByteArray} {base g i o j:Nat} {a:Pat} {v:Value} {RB:Nat} {w:World} {k:Nat} {op rp:Bool} {wr w':World} (h:RepJ p base g i o j a v RB w k op rp wr) (hb:Below wr.heap.size wr w'):RepJ p base g i o j a v RB w k op rp w':=
 ⟨h.ops,BoxAt.below h.rd hb,h.box.below hb,h.node.move (S:=fun _=>False) (Chg.of_below hb) (fun k q=>q.elim) (fun k _ q=>q),h.chg.trans (Chg.of_below hb)⟩
theorem RepJ.step {p:ByteArray} {base g i o j:Nat} {a:Pat} {v:Value} {RB:Nat} {w:World} {k:Nat} {op rp:Bool} {wr w':World} {c:UInt8} (h:RepJ p base g i o j a v RB w k op rp wr) (hg:g<w.heap.size) (hc:(sb p)[k]?=some c) (ho:isOp c) (hP:PrAt w' base g p (k+1) o) (hC:Chg (fun k=>k=g) wr w'):
  RepJ p base g i o j a v RB w (k+1) (op || c != 43) (rp || c != 63) ((w'.setCell ⟨RB,1,none⟩ (.bool (op || c != 43))).setCell ⟨RB,2,none⟩ (.bool (rp || c != 63))):=by
 have hr:=h.box.lt.1
 have c1:=Chg.of_set w' RB 1 (.bool (op || c != 43)) (S:=fun k=>k=RB) rfl
 have c2:=Chg.of_set (w'.setCell ⟨RB,1,none⟩ (.bool (op || c != 43))) RB 2 (.bool (rp || c != 63)) (S:=fun k=>k=RB) rfl
 have c3:=c1.trans c2
 refine⟨h.ops.more hc ho,BoxAt.chg hP c3 (by omega),((h.box.chg hC (by omega)).set 1 _).set 2 _,?_,((h.chg.trans hC).absorb c3 (fun j q=>.inr (by omega)))⟩
 exact(h.node.move hC (fun k q=>by subst q;exact fun z=>by have:=z.1;omega) (fun k _ q=>q)).move c3 (fun k q=>by subst q;exact fun z=>by have:=z.2;omega) (fun k _ q=>q)
def RepC (p:ByteArray) (m:Nat):Prop:=∀(base g i o:Nat) (w:World),p.size-i≤m→i<p.size→o≤20→(∀c,(sb p)[i]?=some c→¬isEnd c)→PrAt w base g p i o→Calls Tryz.prog 161 #[.pointer (some ⟨g,0,none⟩)] w (NodePost p base g i o w (RepOk (sb p) o i))
set_option maxHeartbeats 8000000 in
theorem rep_of {p:ByteArray} {m:Nat} (H:AtomC p m) (hp:p.size≤200):RepC p m:=by
 intro base g i o w hm hi ho he h
 have HP:Hid (PrAt w base g p i o):=h
 have hgl:=h.lt.2
 clear h
 go_enter Tryz.func161,Tryz.ntmps161
 go_wp2_with fail
 refine(H base g i o w hm hi ho he HP.out).mono ?_
 rintro e w1 ⟨hC1,(⟨j,a,v,hA,rfl,hN,hP1⟩|⟨c,k,hc0,hk,rfl⟩)⟩
 case inr=>exact⟨rfl,hC1,.inr ⟨c,k,hc0,hk,rfl⟩⟩
 obtain⟨T,cs,rfl⟩:=hN.iface
 have HW1:Hid (AtomOk (sb p) o i j a∧NodeOk w1 (Bet w.heap.size w1.heap.size) a (.iface T (.agg cs))∧PrAt w1 base g p j o∧Chg (fun k=>k=g) w w1):=⟨hA,hN,hP1,hC1⟩
 clear hC1 hA hN hP1 HP
 go_wp2_with fail
 refine(pnextIn_core ⟨#[42,43,63]⟩ HW1.2.2.1 hp).mono ?_
 rintro e w2 ⟨rfl,hb2⟩
 have HW2:Hid (NodeOk w2 (Bet w.heap.size w2.heap.size) a (.iface T (.agg cs))∧PrAt w2 base g p j o∧Chg (fun k=>k=g) w w2):=
  ⟨HW1.2.1.move (S:=fun _=>False) (Chg.of_below hb2) (fun k q=>q.elim) (fun k hk q=>⟨q.1,by have:=hb2.size;omega⟩),BoxAt.below HW1.2.2.1 hb2,HW1.2.2.2.trans (Chg.of_below hb2)⟩
 have HA:Hid (AtomOk (sb p) o i j a):=HW1.1
 obtain⟨q,hq⟩:=qE (inB (sb p) j (sb ⟨#[42,43,63]⟩))
 have HQ:Hid (inB (sb p) j [42,43,63]=q):=hq.symm
 rw[←hq]
 clear hb2 hq HW1
 cases q
 ·have HR:Hid (RepOk (sb p) o i j a):=by
   have:=(OpsOk.zero HA.out).rep (fun c hc hop=>inB_none HQ.out c hc (op_mem.2 hop))
   rw[if_pos rfl]at this
   exact this
  go_wp2_with fail
  go_ret
  exact⟨HW2.2.2,.inl ⟨j,a,_,HR.out,rfl,HW2.1,HW2.2.1⟩⟩
 have hjp:j≤p.size:=by have:=HA.le;rw[sb_len]at this;exact this
 obtain⟨W3,hW3⟩:=qE (w2.alloc (Obj.cells #[.iface T (.agg cs),.bool false,.bool false] 214):World)
 have hs2:=HW2.2.2.size
 have HW3:Hid (RepJ p base g i o j a (.iface T (.agg cs)) w2.heap.size w j false false W3):=by
  have hb:Below w2.heap.size w2 W3:=by rw[hW3];exact qB
  refine⟨OpsOk.zero HA.out,BoxAt.below HW2.2.1 hb,?_,HW2.1.move (S:=fun _=>False) (Chg.of_below hb) (fun k q=>q.elim) (fun k _ q=>q),HW2.2.2.trans (Chg.of_below hb)⟩
  rw[hW3];exact boxAt_new w2 _ hs2 rfl
 have HF0:Hid (∃c,(sb p)[j]?=some c∧isOp c):=by
  obtain⟨c,h1,h2⟩:=inB_some HQ.out
  exact⟨c,h1,op_mem.1 h2⟩
 clear HW2
 go_wp2_with fail
 rw[←hW3]
 obtain⟨RB,hRB⟩:=qE w2.heap.size
 rw[←hRB]at HW3
 rw[←hRB]
 have hrb:w.heap.size≤RB:=by omega
 clear hW3 hRB hs2
 go_loopw[5] (fun sg wr=>∃(k:Nat) (op rp:Bool),j≤k∧k≤p.size∧(k=j→∃c,(sb p)[j]?=some c∧isOp c)∧RepJ p base g i o j a (.iface T (.agg cs)) RB w k op rp wr) (fun _ wr=>p.size-atOf wr g)
 case atStart=>exact⟨j,false,false,Nat.le_refl _,hjp,fun _=>HF0.out,HW3.out⟩
 case round=>
  obtain⟨k,op,rp,hjk,hkp,hne,hJ⟩:=hrel
  have HJ:Hid (RepJ p base g i o j a (.iface T (.agg cs)) RB w k op rp wr∧(k=j→∃c,(sb p)[j]?=some c∧isOp c)∧atOf wr g=k):=⟨hJ,hne,atOf_pr hJ.rd⟩
  clear hJ hne HW3
  go_wp2_with fail
  refine(pnextIn_core ⟨#[42,43,63]⟩ HJ.1.rd hp).mono ?_
  rintro e w5 ⟨rfl,hb5⟩
  have HJ5:Hid (RepJ p base g i o j a (.iface T (.agg cs)) RB w k op rp w5):=HJ.1.move hb5
  obtain⟨q,hq⟩:=qE (inB (sb p) k (sb ⟨#[42,43,63]⟩))
  have HQ5:Hid (inB (sb p) k [42,43,63]=q):=hq.symm
  rw[←hq]
  clear hb5 hq
  cases q
  ·have HR:Hid (RepOk (sb p) o i k (.rep a op rp)):=by
    have h1:=HJ5.ops.rep (fun c hc hop=>inB_none HQ5.out c hc (op_mem.2 hop))
    rw[if_neg (fun q=>by
     obtain⟨c,hc,hop⟩:=HJ.2.1 q.symm
     rw[q]at hc
     exact inB_none HQ5.out c hc (op_mem.2 hop))]at h1
    exact h1
   obtain⟨b0,b1,b2⟩:=HJ5.box.c3
   go_wp2_with fail
   go_ret
   exact⟨HJ5.chg,.inl ⟨k,_,_,HR.out,rfl,nodeOk_rep (HJ5.node.move (S:=fun _=>False) (Chg.refl _ _) (fun k q=>q.elim) (fun k hk q=>⟨q.1,hk⟩)) op rp,HJ5.rd⟩⟩
  ·obtain⟨c,hc,hcm⟩:=inB_some HQ5.out
   have HC:Hid ((sb p)[k]?=some c∧isOp c):=⟨hc,op_mem.1 hcm⟩
   have hk1:k+1≤p.size:=by have:=lt_of_at hc;rw[sb_len]at this;omega
   clear hc hcm
   go_wp2_with fail
   refine(ptake_yes HJ5.rd hp HC.1).mono ?_
   rintro e w6 ⟨rfl,hP6,hC6⟩
   have HJ6:=HJ5.step hgl HC.1 HC.2 hP6 hC6
   have hbx:=HJ5.box.chg hC6 (show¬RB=g by omega)
   have b1:=hbx.cell (j:=1) rfl
   have b2:=hbx.cell (j:=2) rfl
   have g1:=hbx.frozen 1
   have g2:=hbx.frozen 2
   have HJN:Hid (RepJ p base g i o j a (.iface T (.agg cs)) RB w (k+1) (op || c != 43) (rp || c != 63) ((w6.setCell ⟨RB,1,none⟩ (.bool (op || c != 43))).setCell ⟨RB,2,none⟩ (.bool (rp || c != 63)))):=HJ6
   have HAt:Hid (atOf wr g=k):=HJ.2.2
   clear HJ6 hbx hP6 hC6 HJ5 HJ
   rcases HC.2 with rfl|rfl|rfl<;>cases op<;>cases rp
   all_goals go_wp2_with fail
   all_goals go_roundw
   all_goals first
    |exact⟨k+1,_,_,by omega,hk1,fun q=>by omega,HJN.out⟩
    |exact Nat.lt_of_le_of_lt (Nat.le_of_eq (congrArg (p.size- ·) (atOf_pr HJN.rd))) (by rw[HAt.out];omega)
def SeqPost (p:ByteArray) (base g i o:Nat) (w:World) (e:Ending) (w':World):Prop:=
 Chg (fun k=>k=g) w w'∧((∃(k:Nat) (ts:List Pat) (u:Value),SeqOk (sb p) o i k ts∧(∀c,(sb p)[k]?=some c→isEnd c)∧e=.returned (.agg #[u])∧SeqAt w' (Bet w.heap.size w'.heap.size) ts u∧PrAt w' base g p k o)∨(∃(c:Int) (k:Nat),¬c=0∧chkM (sb p) i o false=(c,k)∧e=Pf c k))
def SeqC (p:ByteArray) (m:Nat):Prop:=∀(base g i o:Nat) (w:World),p.size-i≤m→i≤p.size→o≤20→PrAt w base g p i o→Calls Tryz.prog 152 #[.pointer (some ⟨g,0,none⟩)] w (SeqPost p base g i o w)
def NR (lo:Nat) (v:Value):Nat→Prop:=fun k=>lo≤k∧¬v.ownBlock=some k
structure SeqJ (p:ByteArray) (base g i o:Nat) (w:World) (k:Nat) (ts:List Pat) (us:List Value) (v:Value) (wr:World):Prop where
 ok:SeqOk (sb p) o i k ts
 rd:PrAt wr base g p k o
 res:BoxAt wr w.heap.size 195 1 w.heap.size [.slice none 0 0]
 box:BoxAt wr w.heap.size 195 1 (w.heap.size+1) [v]
 row:OwnN wr (w.heap.size+2) v us
 len:us.length=ts.length
 nodes:∀(i:Nat) x t,us[i]?=some x→ts[i]?=some t→NodeOk wr (NR (w.heap.size+2) v) t x
 chg:Chg (fun k=>k=g) w wr
 glt:g<w.heap.size
theorem OwnN.chg {S:Nat→Prop} {w w':World} {base:Nat} {v:Value} {us:List Value} (h:OwnN w base v us) (hc:Chg S w w') (hn:∀k,v.ownBlock=some k→¬S k):OwnN w' base v us:=own_chg h hc hn
theorem OwnN.slice {w:World} {base:Nat} {v:Value} {us:List Value} (h:OwnN w base v us):∃a cp,v=.slice a us.length cp:=by
 rcases h.2 with⟨rfl,h0⟩|⟨g,cap,cur,rfl,_⟩
 ·exact⟨none,0,by rw[h0]⟩
 ·exact⟨_,_,rfl⟩
variable {p:ByteArray} {base g i o:Nat} {w:World} {k:Nat} {ts:List Pat} {us:List Value} {v:Value} {wr:World}
theorem SeqJ.move {w':World} (h:SeqJ p base g i o w k ts us v wr) (hb:Below wr.heap.size wr w'):SeqJ p base g i o w k ts us v w':=
 ⟨h.ok,BoxAt.below h.rd hb,h.res.below hb,h.box.below hb,h.row.chg (S:=fun _=>False) (Chg.of_below hb) (fun _ _ q=>q),h.len,fun i x t hx ht=>(h.nodes i x t hx ht).move (S:=fun _=>False) (Chg.of_below hb) (fun k q=>q.elim) (fun k _ q=>q),h.chg.trans (Chg.of_below hb),h.glt⟩
structure SeqK (p:ByteArray) (base g i o:Nat) (w:World) (k:Nat) (ts:List Pat) (us:List Value) (v:Value) (t:Pat) (x:Value) (wr:World):Prop where
 ok:SeqOk (sb p) o i k (ts++ [t])
 rd:PrAt wr base g p k o
 res:BoxAt wr w.heap.size 195 1 w.heap.size [.slice none 0 0]
 box:BoxAt wr w.heap.size 195 1 (w.heap.size+1) [v]
 row:OwnN wr (w.heap.size+2) v us
 len:us.length=ts.length
 nodes:∀(i:Nat) y s,(us++ [x])[i]?=some y→(ts++ [t])[i]?=some s→NodeOk wr (NR (w.heap.size+2) v) s y
 chg:Chg (fun k=>k=g) w wr
 glt:g<w.heap.size
theorem SeqK.move {w':World} {t:Pat} {x:Value} (h:SeqK p base g i o w k ts us v t x wr) (hb:Below wr.heap.size wr w'):SeqK p base g i o w k ts us v t x w':=
 ⟨h.ok,BoxAt.below h.rd hb,h.res.below hb,h.box.below hb,h.row.chg (S:=fun _=>False) (Chg.of_below hb) (fun _ _ q=>q),h.len,fun i x t hx ht=>(h.nodes i x t hx ht).move (S:=fun _=>False) (Chg.of_below hb) (fun k q=>q.elim) (fun k _ q=>q),h.chg.trans (Chg.of_below hb),h.glt⟩
theorem snoc_at {α:Type} {l:List α} {a b:α} {i:Nat} (h:(l++ [a])[i]?=some b):l[i]?=some b∨(i=l.length∧b=a):=by
 by_cases hi:i<l.length
 ·rw[List.getElem?_append_left hi]at h;exact .inl h
 ·rw[List.getElem?_append_right (by omega)]at h
  have h2:=(List.getElem?_eq_some_iff.1 h).1
  simp at h2
  have:i-l.length=0:=by omega
  rw[this]at h
  simp at h
  exact .inr ⟨by omega,h.symm⟩
theorem SeqJ.rep {w6:World} {k6:Nat} {t:Pat} {x:Value} (h:SeqJ p base g i o w k ts us v wr) (hC:Chg (fun k=>k=g) wr w6) (hR:RepOk (sb p) o k k6 t) (hN:NodeOk w6 (Bet wr.heap.size w6.heap.size) t x) (hP:PrAt w6 base g p k6 o):SeqK p base g i o w k6 ts us v t x w6:=by
 have hg:=h.glt
 have hz:=h.chg.size
 have hb1:=h.box.lt.2
 have hv:∀j,v.ownBlock=some j→w.heap.size+2≤j∧j<wr.heap.size:=fun j hj=>World.ownsRow.lt h.row j hj
 refine⟨h.ok.more hR,hP,h.res.chg hC (by omega),h.box.chg hC (by omega),h.row.chg hC (fun j hj q=>by have:=(hv j hj).1;omega),h.len,?_,h.chg.trans hC,hg⟩
 intro j y s hy hs
 rcases snoc_at hy with hy|⟨hj,rfl⟩
 ·rcases snoc_at hs with hs|⟨hj,rfl⟩
  ·exact(h.nodes j y s hy hs).move hC (fun q hq=>by subst hq;exact fun z=>by have:=z.1;omega) (fun q _ z=>z)
  ·have:=(List.getElem?_eq_some_iff.1 hy).1
   have:=h.len
   omega
 ·rcases snoc_at hs with hs|⟨_,rfl⟩
  ·have:=(List.getElem?_eq_some_iff.1 hs).1
   have:=h.len
   omega
  ·refine hN.move (S:=fun _=>False) (Chg.refl _ _) (fun q hq=>hq.elim) (fun q _ z=>⟨?_,fun e=>?_⟩)
   ·have:=z.1;omega
   ·have:=(hv q e).2;have:=z.1;omega
theorem SeqK.push {t:Pat} {x v':Value} {w':World} (h:SeqK p base g i o w k ts us v t x wr) (hO:OwnN w' (w.heap.size+2) v' (us++ [x])) (hg:wr.grownBy w' v.ownBlock) (hat:∀j,v'.ownBlock=some j→v.ownBlock=some j∨j=wr.heap.size):
  SeqJ p base g i o w k (ts++ [t]) (us++ [x]) v' (w'.setCell ⟨w.heap.size+1,0,none⟩ v')∧w'.cell? ⟨w.heap.size+1,0,none⟩=some v∧w'.frozen? ⟨w.heap.size+1,0,none⟩=false:=by
 have hgl:=h.glt
 have hv:∀j,v.ownBlock=some j→w.heap.size+2≤j∧j<wr.heap.size:=fun j hj=>World.ownsRow.lt h.row j hj
 have hv':∀j,v'.ownBlock=some j→w.heap.size+2≤j∧j<w'.heap.size:=fun j hj=>World.ownsRow.lt hO j hj
 have hc:Chg (fun j=>v.ownBlock=some j) wr w':=Chg.of_grown hg (fun j hj=>hj)
 have hs:Chg (fun j=>j=w.heap.size+1) w' (w'.setCell ⟨w.heap.size+1,0,none⟩ v'):=Chg.of_set w' (w.heap.size+1) 0 _ rfl
 have hbx:=h.box.chg hc (fun q=>by have:=(hv _ q).1;omega)
 refine⟨⟨h.ok,?_,?_,hbx.set 0 _,hO.chg hs (fun j hj q=>by have:=(hv' j hj).1;omega),by rw[List.length_append,List.length_append,h.len];rfl,?_,?_,hgl⟩,hbx.cell (j:=0) rfl,hbx.frozen 0⟩
 ·exact BoxAt.chg (BoxAt.chg h.rd hc (fun q=>by have:=(hv _ q).1;omega)) hs (by omega)
 ·exact(h.res.chg hc (fun q=>by have:=(hv _ q).1;omega)).chg hs (by omega)
 ·intro j y s hy hs2
  have h1:=(h.nodes j y s hy hs2).move hc (fun q hq z=>z.2 hq) (lo':=NR (w.heap.size+2) v') (fun q hq z=>⟨z.1,fun e=>by rcases hat q e with e|e;exact z.2 e;omega⟩)
  exact h1.move hs (fun q hq=>by subst hq;exact fun z=>by have:=z.1;omega) (fun q _ z=>z)
 ·exact(h.chg.absorb hc (fun j q=>.inr (by have:=(hv j q).1;omega))).absorb hs (fun j q=>.inr (by omega))
theorem step_append_node {ops:Array Oper} {oo:Oper} {a:Act} {K:Act→World→Prop} {Q:Exit→Act→World→Prop} {E:Prop} (w:World) (hgd:oo.guard=none) (s x:Operand)
  (ho:oo.op=.call {callee:=.builtin .append,args:=#[s,x],argTypes:=#[193,193]})
  (base n blk:Nat) (v y:Value) (us:List Value) (hn:n=us.length) (hs:a.eval s=v) (hx:a.eval x=.slice (some ⟨blk,0,none⟩) 1 1) (hO:OwnN w base v us)
  (hc:w.cell? ⟨blk,0,none⟩=some y) (hy:y.oneCell'=true) (hlen:us.length≤1000) (hbase:base≤w.heap.size)
  (h:∀g' cp' w',OwnN w' base (.slice (some ⟨g',0,none⟩) (n+1) cp') (us++ [y])→w.grownBy w' v.ownBlock→(v.ownBlock=some g'∨g'=w.heap.size)→K (a.put oo.dst (.slice (some ⟨g',0,none⟩) (n+1) cp')) w'):if Region.wanted oo (yielded ops a.tmps)=true then Oper.wp Tryz.prog oo a w K Q else E:=by
 subst hn
 obtain⟨i,hi,hz0,hz1,hz2⟩:=info_parts Tryz.infoNode
 refine step_append_lies w hgd s x 193 ho base 209 i _ 1 16 Tryz.underlying193 hi hz0 hz1 hz2 rfl (by decide) v us.length us hs hO ⟨blk,0,none⟩ 1 1 [y] hx rfl ?_ ?_ (by decide) ?_ ?_ hbase w.heap.size rfl ?_
 ·intro j u hu
  have hj:j=0:=by have:=(List.getElem?_eq_some_iff.1 hu).1;simpa using this
  subst hj
  simp at hu
  rw[Addr.add_mid,←hu];exact hc
 ·intro u hu
  simp at hu;subst hu;exact hy
 ·unfold maxLen;omega
 ·omega
 ·intro g' cp' w' hO' hgr hat hlt
  refine h g' cp' w' ?_ hgr hat
  unfold OwnN
  rw[List.length_append]
  exact hO'
set_option maxHeartbeats 8000000 in
theorem seq_of {p:ByteArray} {m:Nat} (H:RepC p m) (hp:p.size≤200):SeqC p m:=by
 intro base g i o w hm hi ho h
 have hgl:=h.lt.2
 obtain⟨W0,hW0⟩:=qE ((w.alloc (Obj.cells #[.slice none 0 0] 195)).alloc (Obj.cells #[.slice none 0 0] 195):World)
 have HJ0:Hid (SeqJ p base g i o w i [] [] (.slice none 0 0) W0):=by
  have hb:Below w.heap.size w W0:=by rw[hW0];exact(qB).alloc (by simp) _
  have h1:BoxAt W0 w.heap.size 195 1 w.heap.size [.slice none 0 0]:=by rw[hW0];exact BoxAt.ofHeap (vs:=#[.slice none 0 0]) (heap_alloc2_old w _ _) (Nat.le_refl _) rfl
  have h2:BoxAt W0 w.heap.size 195 1 (w.heap.size+1) [.slice none 0 0]:=by rw[hW0];exact BoxAt.ofHeap (vs:=#[.slice none 0 0]) (heap_alloc2_new w _ _) (by omega) rfl
  exact⟨SeqOk.nil (by rw[sb_len];exact hi),BoxAt.below h hb,h1,h2,World.ownsRow_nil ..,rfl,fun i x t hx=>by simp at hx,Chg.of_below hb,hgl⟩
 clear h
 go_enter Tryz.func152,Tryz.ntmps152
 go_wp2_with fail
 rw[←hW0]
 clear hW0
 go_loopw[] (fun wr=>∃(k:Nat) (ts:List Pat) (us:List Value) (v:Value),i≤k∧k≤p.size∧us.length≤k∧SeqJ p base g i o w k ts us v wr) (fun wr=>p.size-atOf wr g)
 case atStart=>exact⟨i,[],[],_,Nat.le_refl _,hi,Nat.zero_le _,HJ0.out⟩
 case round=>
  obtain⟨k,ts,us,v,hik,hkp,hul,hJ⟩:=hrel
  have HJ:Hid (SeqJ p base g i o w k ts us v wr∧atOf wr g=k):=⟨hJ,atOf_pr hJ.rd⟩
  obtain⟨va,vc,hva⟩:=hJ.row.slice
  subst hva
  clear hJ HJ0
  have hlt:=HJ.1.rd.lt.2
  obtain⟨c0,c1⟩:=HJ.1.rd.c2
  have e0:∀n:Out wr,n.u.cell? ⟨g,0,none⟩=some (.string p):=fun n=>(n.out.cell (p:=⟨g,0,none⟩) hlt).trans c0
  have e1:∀n:Out wr,n.u.cell? ⟨g,1,none⟩=some (.int .i64 (k:Int)):=fun n=>(n.out.cell (p:=⟨g,1,none⟩) hlt).trans c1
  obtain⟨q,hq⟩:=qE (inB (sb p) k (sb ⟨#[42,43,63,124,41,93]⟩))
  have HQ:Hid (inB (sb p) k [42,43,63,124,41,93]=q):=hq.symm
  have HI:Hid (∀n:Out wr,Calls Tryz.prog 160 #[.pointer (some ⟨g,0,none⟩),.string ⟨#[42,43,63,124,41,93]⟩] n.u fun e w'=>e=.returned (.bool q)∧Below n.u.heap.size n.u w'):=fun n=>by
   rw[hq]
   exact pnextIn_core _ (BoxAt.below HJ.1.rd n.out) hp
  clear c0 c1 hq
  by_cases hgo:k<p.size∧q=false
  ·obtain⟨hks,rfl⟩:=hgo
   have z1:(k:Int)<(p.size:Int):=by omega
   have HNe:Hid (∀c,(sb p)[k]?=some c→¬isEnd c):=fun c hc he=>inB_none HQ.out c hc (by
    rcases he with(rfl|rfl|rfl)|rfl|rfl|rfl<;>simp)
   go_upto_region 2 with fail
   refine wp_region_out (by kernel_rfl) (by kernel_rfl) ?_
   repeat (go_big_quiet_step ((first|rfl|(go_at_call 160;exact Calls.out_of (HI.out _)))))
   refine wpQuiet_nil ?_
   rintro w1 ⟨⟨wx,hb1⟩,rfl⟩
   have HJ1:Hid (SeqJ p base g i o w k ts us (.slice va us.length vc) w1):=HJ.1.move hb1
   have HAt:Hid (atOf wr g=k):=HJ.2
   have hs1:=hb1.size
   clear e0 e1 HI hb1 HJ
   have b0:=HJ1.box.cell (j:=0) rfl
   have hob:=HJ1.box.lt.2
   have HRep:Hid (∀w',Below w1.heap.size w1 w'→Calls Tryz.prog 161 #[.pointer (some ⟨g,0,none⟩)] w' (NodePost p base g k o w' (RepOk (sb p) o k))):=fun w' hb=>H base g k o w' (by omega) hks ho HNe.out (BoxAt.below HJ1.rd hb)
   go_upto_region 3 with fail
   go_region_law ((first
                |(go_simp;go_at_call 161;refine(HRep.out _ (Below.refl _ _).drew).mono ?_;rintro e' w6 ⟨hC6,(⟨k6,t,x,hR6,rfl,hN6,hP6⟩|⟨c6,k6,hc60,hk6,rfl⟩)⟩;(case inr=>exact⟨rfl,(HJ1.move (Below.refl _ _).drew).chg.trans hC6,.inr ⟨c6,k6,hc60,by rw[HJ1.ok.chk,hk6],rfl⟩⟩);obtain⟨T6,cs6,rfl⟩:=hN6.iface;have HK6:Hid (SeqK p base g i o w k6 ts us (.slice va us.length vc) t (.iface T6 (.agg cs6)) w6∧RepOk (sb p) o k k6 t):=⟨(HJ1.move (Below.refl _ _).drew).rep hC6 hR6 hN6 hP6,hR6⟩;have m6:=HK6.1.box.cell (j:=0) rfl;have m6l:=HK6.1.box.lt.2;have m6a:∀o,(w6.alloc o).cell? ⟨w.heap.size+1,0,none⟩=some (.slice va us.length vc):=fun o=>by {rw[((Below.refl w6.heap.size w6).alloc (Nat.le_refl _) o).cell (p:=⟨w.heap.size+1,0,none⟩) m6l];exact m6};clear hC6 hR6 hN6 hP6)
                |(refine step_append_node _ (by rfl) _ _ (by rfl) (w.heap.size+2) us.length w6.heap.size (.slice va us.length vc) (.iface T6 (.agg cs6)) us rfl (by rfl) (by rfl) ?hO ?hc rfl ?hl ?hb ?_
                  case hO=>exact(HK6.1.move (qB)).row
                  case hc=>simp
                  case hl=>omega
                  case hb=>have:=(HK6.1.move ((Below.refl _ _).alloc (Nat.le_refl _) (Obj.cells #[.iface T6 (.agg cs6)] 209))).box.lt.2;omega
                  intro g7 cp7 w7 hO7 hgr7 hgg7
                  have hpp:=(HK6.1.move ((Below.refl _ _).alloc (Nat.le_refl _) (Obj.cells #[.iface T6 (.agg cs6)] 209))).push hO7 hgr7 (fun j hj=>by have hj':g7=j:=by {simpa [Value.ownBlock]using hj};rw[←hj'];exact hgg7)
                  have fin7:Hid (SeqJ p base g i o w k6 (ts++ [t]) (us++ [.iface T6 (.agg cs6)]) (.slice (some ⟨g7,0,none⟩) (us.length+1) cp7) (w7.setCell ⟨w.heap.size+1,0,none⟩ (.slice (some ⟨g7,0,none⟩) (us.length+1) cp7))):=hpp.1
                  have m7:=hpp.2.1
                  have f7:=hpp.2.2
                  clear hpp hO7 hgr7 hgg7)))
   all_goals go_wp2_with fail
   all_goals go_roundw
   all_goals first
    |exact⟨k6,ts++ [t],us++ [.iface T6 (.agg cs6)],_,by have:=HK6.2.lt;omega,by have:=HK6.2.le;rw[sb_len]at this;exact this,by have:=HK6.2.lt;rw[List.length_append];simp;omega,fin7.out⟩
    |(rw[HAt.out,atOf_pr fin7.out.rd];have:=HK6.2.lt;omega)
  ·have HE:Hid (∀c,(sb p)[k]?=some c→isEnd c):=by
    intro c hc
    have hk:=lt_of_at hc
    rw[sb_len]at hk
    cases q
    ·exact absurd ⟨hk,rfl⟩ hgo
    ·obtain⟨d,hd,hm⟩:=inB_some HQ.out
     rw[hc]at hd
     cases hd
     simp at hm
     rcases hm with rfl|rfl|rfl|rfl|rfl|rfl<;>simp[isEnd,isOp]
   have HX:Hid (SeqJ p base g i o w k ts us (.slice va us.length vc) wr):=HJ.1
   clear HQ HJ
   have fin:∀w1,Below wr.heap.size wr w1→Hid (SeqJ p base g i o w k ts us (.slice va us.length vc) w1):=fun w1 hb=>HX.move hb
   by_cases hks:k<p.size
   ·have hq1:q=true:=by
     cases q
     ·exact absurd ⟨hks,rfl⟩ hgo
     ·rfl
    subst hq1
    have z1:(k:Int)<(p.size:Int):=by omega
    clear hgo
    go_upto_region 2 with fail
    refine wp_region_out (by kernel_rfl) (by kernel_rfl) ?_
    repeat (go_big_quiet_step ((first|rfl|(go_at_call 160;exact Calls.out_of (HI.out _)))))
    refine wpQuiet_nil ?_
    rintro w1 ⟨⟨wx,hb1⟩,rfl⟩
    have HJ1:=fin w1 hb1
    clear e0 e1 HI hb1 fin HX
    have b0:=HJ1.box.cell (j:=0) rfl
    have r0:=HJ1.res.cell (j:=0) rfl
    have rf:=HJ1.res.frozen 0
    go_wp2_with fail
    refine bodyPost_ret (v:=.agg #[.slice va us.length vc]) (by simp[results,Tryz.results152,go_sem,World.cell?_setCell_same _ _ _ r0]) rfl ?_
    have hc:=Chg.of_set w1 w.heap.size 0 (.slice va us.length vc) (S:=fun j=>j=w.heap.size) rfl
    refine⟨HJ1.chg.absorb hc (fun j q=>.inr (by omega)),.inl ⟨k,ts,_,HJ1.ok,HE.out,rfl,?_,BoxAt.chg HJ1.rd hc (by omega)⟩⟩
    refine(HJ1.row.seq HJ1.len (R:=fun j=>w.heap.size+2≤j) (fun i x t hx ht=>(HJ1.nodes i x t hx ht).move (S:=fun _=>False) (Chg.refl _ _) (fun _ q=>q.elim) (fun _ _ q=>q.1)) (fun j hj=>(World.ownsRow.lt HJ1.row j hj).1)).move hc (fun j q=>by subst q;exact fun z=>by omega) (fun j hj z=>⟨by omega,by have:=hc.size;omega⟩)
   ·have z1:¬(k:Int)<(p.size:Int):=by omega
    clear hgo
    go_upto_region 2 with fail
    refine wp_region_out (by kernel_rfl) (by kernel_rfl) ?_
    repeat (go_big_quiet_step (rfl))
    refine wpQuiet_nil ?_
    rintro w1 ⟨⟨wx,hb1⟩,rfl⟩
    have HJ1:=fin w1 hb1
    clear e0 e1 HI hb1 fin HX
    have b0:=HJ1.box.cell (j:=0) rfl
    have r0:=HJ1.res.cell (j:=0) rfl
    have rf:=HJ1.res.frozen 0
    go_wp2_with fail
    refine bodyPost_ret (v:=.agg #[.slice va us.length vc]) (by simp[results,Tryz.results152,go_sem,World.cell?_setCell_same _ _ _ r0]) rfl ?_
    have hc:=Chg.of_set w1 w.heap.size 0 (.slice va us.length vc) (S:=fun j=>j=w.heap.size) rfl
    refine⟨HJ1.chg.absorb hc (fun j q=>.inr (by omega)),.inl ⟨k,ts,_,HJ1.ok,HE.out,rfl,?_,BoxAt.chg HJ1.rd hc (by omega)⟩⟩
    refine(HJ1.row.seq HJ1.len (R:=fun j=>w.heap.size+2≤j) (fun i x t hx ht=>(HJ1.nodes i x t hx ht).move (S:=fun _=>False) (Chg.refl _ _) (fun _ q=>q.elim) (fun _ _ q=>q.1)) (fun j hj=>(World.ownsRow.lt HJ1.row j hj).1)).move hc (fun j q=>by subst q;exact fun z=>by omega) (fun j hj z=>⟨by omega,by have:=hc.size;omega⟩)
structure AltJ (p:ByteArray) (base g i o:Nat) (w:World) (k:Nat) (os:List (List Pat)) (us:List Value) (gq cp:Nat) (wr:World):Prop where
 ok:AltOk (sb p) o i k os
 nxt:∀c,(sb p)[k]?=some c→isEnd c
 rd:PrAt wr base g p k o
 res:BoxAt wr w.heap.size 171 1 w.heap.size [.slice none 0 0]
 row:OwnQ wr (w.heap.size+1) gq cp us
 len:us.length=os.length
 seqs:∀(i:Nat) x ts,us[i]?=some x→os[i]?=some ts→SeqAt wr (fun j=>w.heap.size+1≤j∧¬j=gq) ts x
 chg:Chg (fun k=>k=g) w wr
 glt:g<w.heap.size
theorem OwnQ.chg {S:Nat→Prop} {w w':World} {base gq cp:Nat} {us:List Value} (h:OwnQ w base gq cp us) (hc:Chg S w w') (hn:¬S gq):OwnQ w' base gq cp us:=own_chg h hc (fun k q=>by simp[Value.ownBlock]at q;subst q;exact hn)
variable {p:ByteArray} {base g i o:Nat} {w:World} {k:Nat} {os:List (List Pat)} {us:List Value} {gq cp:Nat} {wr:World}
theorem AltJ.read {w':World} {k':Nat} (h:AltJ p base g i o w k os us gq cp wr) (hC:Chg (fun k=>k=g) wr w') (hP:PrAt w' base g p k' o):
  BoxAt w' w.heap.size 171 1 w.heap.size [.slice none 0 0]∧OwnQ w' (w.heap.size+1) gq cp us∧(∀(i:Nat) x ts,us[i]?=some x→os[i]?=some ts→SeqAt w' (fun j=>w.heap.size+1≤j∧¬j=gq) ts x)∧Chg (fun k=>k=g) w w':=by
 have hg:=h.glt
 have hq:=h.row.lt
 exact⟨h.res.chg hC (by omega),h.row.chg hC (by omega),fun i x ts hx ht=>(h.seqs i x ts hx ht).move hC (fun q hq=>by subst hq;exact fun z=>by have:=z.1;omega) (fun q _ z=>z),h.chg.trans hC⟩
theorem wpList_append_seq {ops:Array Oper} {rest:List Oper} {oo:Oper} {a:Act} {Q:Exit→Act→World→Prop} (w:World) (hgd:oo.guard=none) (s x:Operand)
  (ho:oo.op=.call {callee:=.builtin .append,args:=#[s,x],argTypes:=#[169,169]})
  (base gq cp n b:Nat) (us:List Value) (y:Value) (hs:a.eval s=.slice (some ⟨gq,0,none⟩) n cp) (hx:a.eval x=.slice (some ⟨b,0,none⟩) 1 1) (hn:n=us.length) (hO:OwnQ w base gq cp us)
  (hc:w.cell? ⟨b,0,none⟩=some y) (hy:y.oneCell'=true) (hlen:us.length≤1000) (hbase:base≤w.heap.size)
  (h:∀g' cp' w',OwnQ w' base g' cp' (us++ [y])→w.grownBy w' (some gq)→(g'=gq∨g'=w.heap.size)→wpList Tryz.prog ops Q rest (a.put oo.dst (.slice (some ⟨g',0,none⟩) (n+1) cp')) w'):wpList Tryz.prog ops Q (oo::rest) a w:=by
 subst hn
 obtain⟨i,hi,hz0,hz1,hz2⟩:=info_parts Tryz.infoSeq
 refine wpList_append_own_at w hgd s x 169 ho base 195 i _ 1 24 Tryz.underlying169 hi hz0 hz1 hz2 rfl (by decide) (.slice (some ⟨gq,0,none⟩) us.length cp) us.length us hs hO ⟨b,0,none⟩ 1 1 [y] hx rfl ?_ ?_ ?_ ?_ hbase ?_
 ·intro j u hu
  have hj:j=0:=by have:=(List.getElem?_eq_some_iff.1 hu).1;simpa using this
  subst hj
  simp at hu
  rw[Addr.add_mid,←hu];exact hc
 ·intro u hu
  simp at hu;subst hu;exact hy
 ·unfold maxLen;omega
 ·omega
 ·intro v' w' hO' hgr hnil hat
  rcases hO'.2 with⟨h0,_⟩|⟨g',cap',cur,hv,_,_,hn,hcap,_,_⟩
  ·have:=(hnil.1 h0).1
   cases this
  ·subst hv
   refine h g' cap' w' ?_ hgr ?_
   ·unfold OwnQ
    rw[List.length_append]
    exact hO'
   ·simp[Value.ownBlock]at hat
    exact hat
theorem SeqAt.slice {w:World} {R:Nat→Prop} {ts:List Pat} {u:Value} (h:SeqAt w R ts u):∃a n cp,u=.slice a n cp:=by
 obtain⟨n,h|⟨g,cp,us,h1,_⟩⟩:=h
 ·exact⟨_,_,_,h.2⟩
 ·exact⟨_,_,_,h1⟩
set_option maxHeartbeats 8000000 in
theorem alt_of {p:ByteArray} {m:Nat} (H:SeqC p m) (hp:p.size≤200):AltC p m:=by
 intro base g i o w hm hi ho h
 have hgl:=h.lt.2
 obtain⟨W0,hW0⟩:=qE (w.alloc (Obj.cells #[.slice none 0 0] 171):World)
 have HW0:Hid (PrAt W0 base g p i o∧BoxAt W0 w.heap.size 171 1 w.heap.size [.slice none 0 0]∧Chg (fun k=>k=g) w W0∧W0.heap.size=w.heap.size+1):=by
  have hb:Below w.heap.size w W0:=by rw[hW0];exact qB
  refine⟨BoxAt.below h hb,?_,Chg.of_below hb,by rw[hW0];simp⟩
  rw[hW0];exact boxAt_new w _ (Nat.le_refl _) rfl
 clear h
 go_enter Tryz.func142,Tryz.ntmps142
 go_upto_region 1 with fail
 rw[←hW0]
 clear hW0
 go_wp2_with fail
 refine(H base g i o W0 hm hi ho HW0.1).mono ?_
 rintro e w1 ⟨hC1,(⟨k,ts,u,hS,hE,rfl,hU,hP1⟩|⟨c,k,hc0,hk,rfl⟩)⟩
 case inr=>exact⟨rfl,HW0.2.2.1.trans hC1,.inr ⟨c,k,hc0,hk,rfl⟩⟩
 obtain⟨ua,un,uc,rfl⟩:=hU.slice
 have hkp:i≤k∧k≤p.size:=by have h1:=hS.le;have h2:=hS.lei;rw[sb_len]at h1;exact⟨h2,h1⟩
 obtain⟨W2,hW2⟩:=qE (w1.alloc (Obj.cells #[.slice ua un uc] 195):World)
 have HJ0:Hid (AltJ p base g i o w k [ts] [.slice ua un uc] w1.heap.size 1 W2):=by
  have hb:Below w1.heap.size w1 W2:=by rw[hW2];exact qB
  have hz:=HW0.2.2.2
  have hs:=hC1.size
  refine⟨AltOk.one hS,hE,BoxAt.below hP1 hb,(HW0.2.1.chg hC1 (by omega)).below hb,?_,rfl,?_,(HW0.2.2.1.trans hC1).trans (Chg.of_below hb),hgl⟩
  ·rw[hW2]
   exact World.ownsRow_lit w1 #[.slice ua un uc] 1 (by omega) (by decide) rfl
  ·intro j x ss hx hss
   have hj:j=0:=by have:=(List.getElem?_eq_some_iff.1 hx).1;simpa using this
   subst hj
   simp at hx hss
   subst hx hss
   exact hU.move (S:=fun _=>False) (Chg.of_below hb) (fun q hq=>hq.elim) (fun q hq z=>⟨by have:=z.1;omega,by omega⟩)
 clear hC1 hS hE hU hP1 HW0
 go_wp2_with fail
 rw[←hW2]
 obtain⟨gq0,hgq0⟩:=qE w1.heap.size
 rw[←hgq0]at HJ0
 rw[←hgq0]
 clear hW2 hgq0
 go_loopw[3] (fun sv wr=>∃(k gq cp:Nat) (os:List (List Pat)) (us:List Value),i≤k∧k≤p.size∧us.length≤k+1∧sv=.slice (some ⟨gq,0,none⟩) us.length cp∧AltJ p base g i o w k os us gq cp wr) (fun _ wr=>p.size-atOf wr g)
 case atStart=>exact⟨k,gq0,1,[ts],[.slice ua un uc],hkp.1,hkp.2,by simp,rfl,HJ0.out⟩
 case round=>
  obtain⟨k,gq,cp,os,us,hik,hkp,hul,rfl,hJ⟩:=hrel
  have HJ:Hid (AltJ p base g i o w k os us gq cp wr∧atOf wr g=k):=⟨hJ,atOf_pr hJ.rd⟩
  clear hJ HJ0
  go_wp2_with fail
  refine(pskip_core 124 HJ.1.rd hp).mono ?_
  rintro e w3 ⟨hC3,(⟨hx,rfl,hP3⟩|⟨hx,rfl,hP3⟩)⟩
  ·have hk1:k+1≤p.size:=by have:=lt_of_at hx;rw[sb_len]at this;omega
   have HX:Hid ((sb p)[k]?=some 124∧PrAt w3 base g p (k+1) o∧BoxAt w3 w.heap.size 171 1 w.heap.size [.slice none 0 0]∧OwnQ w3 (w.heap.size+1) gq cp us∧(∀(i:Nat) x ts,us[i]?=some x→os[i]?=some ts→SeqAt w3 (fun j=>w.heap.size+1≤j∧¬j=gq) ts x)∧Chg (fun k=>k=g) w w3):=⟨hx,hP3,HJ.1.read hC3 hP3⟩
   have HOk:Hid (AltOk (sb p) o i k os∧us.length=os.length∧atOf wr g=k):=⟨HJ.1.ok,HJ.1.len,HJ.2⟩
   clear hC3 hx hP3 HJ
   go_wp2_with fail
   refine(H base g (k+1) o w3 (by omega) hk1 ho HX.2.1).mono ?_
   rintro e w4 ⟨hC4,(⟨k4,ts4,u4,hS4,hE4,rfl,hU4,hP4⟩|⟨c,k4,hc0,hk4,rfl⟩)⟩
   case inr=>
    refine⟨rfl,HX.2.2.2.2.2.trans hC4,.inr ⟨c,k4,hc0,?_,rfl⟩⟩
    rw[HOk.1.chk,chk_bar HX.1,hk4]
   obtain⟨ua4,un4,uc4,rfl⟩:=hU4.slice
   have hk4p:k+1≤k4∧k4≤p.size:=by have h1:=hS4.le;have h2:=hS4.lei;rw[sb_len]at h1;exact⟨h2,h1⟩
   obtain⟨W5,hW5⟩:=qE (w4.alloc (Obj.cells #[.slice ua4 un4 uc4] 195):World)
   have HW5:Hid (AltOk (sb p) o i k4 (os++ [ts4])∧(∀c,(sb p)[k4]?=some c→isEnd c)∧PrAt W5 base g p k4 o∧BoxAt W5 w.heap.size 171 1 w.heap.size [.slice none 0 0]∧OwnQ W5 (w.heap.size+1) gq cp us∧(∀(i:Nat) x ts,(us++ [.slice ua4 un4 uc4])[i]?=some x→(os++ [ts4])[i]?=some ts→SeqAt W5 (fun j=>w.heap.size+1≤j∧¬j=gq) ts x)∧Chg (fun k=>k=g) w W5∧W5.cell? ⟨w4.heap.size,0,none⟩=some (.slice ua4 un4 uc4)∧w.heap.size+1≤W5.heap.size):=by
    have hb:Below w4.heap.size w4 W5:=by rw[hW5];exact qB
    have hq:=HX.2.2.2.1.lt
    have hs4:=hC4.size
    have hsb:=hb.size
    have hc:Chg (fun k=>k=g) w3 W5:=hC4.trans (Chg.of_below hb)
    refine⟨AltOk.more HOk.1 HX.1 hS4,hE4,BoxAt.below hP4 hb,HX.2.2.1.chg hc (by omega),HX.2.2.2.1.chg hc (by omega),?_,HX.2.2.2.2.2.trans hc,by rw[hW5];simp,by omega⟩
    intro j y s hy hs
    rcases snoc_at hy with hy|⟨hj,rfl⟩
    ·rcases snoc_at hs with hs|⟨hj,rfl⟩
     ·exact(HX.2.2.2.2.1 j y s hy hs).move hc (fun q hq=>by subst hq;exact fun z=>by have:=z.1;omega) (fun q _ z=>z)
     ·have:=(List.getElem?_eq_some_iff.1 hy).1
      have:=HOk.2.1
      omega
    ·rcases snoc_at hs with hs|⟨_,rfl⟩
     ·have:=(List.getElem?_eq_some_iff.1 hs).1
      have:=HOk.2.1
      omega
     ·exact hU4.move (S:=fun _=>False) (Chg.of_below hb) (fun q hq=>hq.elim) (fun q _ z=>⟨by have:=z.1;omega,fun e=>by have:=z.1;omega⟩)
   clear hC4 hS4 hE4 hU4 hP4 HX
   go_wp2_with (at_builtin;rw[←hW5];refine wpList_append_seq _ rfl _ _ rfl (w.heap.size+1) gq cp us.length w4.heap.size us (.slice ua4 un4 uc4) rfl rfl rfl ?hO ?hc rfl ?hl ?hb ?_)
   case hO=>exact HW5.2.2.2.2.1
   case hc=>exact HW5.2.2.2.2.2.2.2.1
   case hl=>omega
   case hb=>exact HW5.2.2.2.2.2.2.2.2
   intro g6 cp6 w6 hO6 hgr6 hat6
   rw[←hW5]at hgr6
   have hz5:W5.heap.size=w4.heap.size+1:=by rw[hW5];simp
   have HJ6:Hid (AltJ p base g i o w k4 (os++ [ts4]) (us++ [.slice ua4 un4 uc4]) g6 cp6 w6):=by
    have hq:=HW5.2.2.2.2.1.lt
    have hc:Chg (fun j=>j=gq) W5 w6:=Chg.of_grown hgr6 (fun j hj=>by cases hj;rfl)
    refine⟨HW5.1,HW5.2.1,BoxAt.chg HW5.2.2.1 hc (by omega),HW5.2.2.2.1.chg hc (by omega),hO6,by rw[List.length_append,List.length_append,HOk.2.1];rfl,?_,HW5.2.2.2.2.2.2.1.absorb hc (fun j q=>.inr (by omega)),hgl⟩
    intro j y s hy hs
    exact(HW5.2.2.2.2.2.1 j y s hy hs).move hc (fun q hq z=>z.2 hq) (fun q hq z=>⟨z.1,fun e=>by rcases hat6 with r|r;exact z.2 (by omega);omega⟩)
   clear hO6 hgr6 hat6 hW5 HW5
   go_wp2_with fail
   go_roundw
   case rel=>exact⟨k4,g6,cp6,os++ [ts4],us++ [.slice ua4 un4 uc4],by omega,hk4p.2,by rw[List.length_append];simp;omega,by rw[List.length_append];rfl,HJ6.out⟩
   case measure=>rw[HOk.2.2,atOf_pr HJ6.rd];omega
  ·have HX:Hid (AltOk (sb p) o i k os∧(∀c,(sb p)[k]?=some c→isEnd c∧¬c=124)∧us.length=os.length):=⟨HJ.1.ok,fun c hc=>⟨HJ.1.nxt c hc,fun q=>by subst q;exact hx hc⟩,HJ.1.len⟩
   have HR:=HJ.1.read hC3 hP3
   have HF:Hid (PrAt w3 base g p k o∧BoxAt w3 w.heap.size 171 1 w.heap.size [.slice none 0 0]∧OwnQ w3 (w.heap.size+1) gq cp us∧(∀(i:Nat) x ts,us[i]?=some x→os[i]?=some ts→SeqAt w3 (fun j=>w.heap.size+1≤j∧¬j=gq) ts x)∧Chg (fun k=>k=g) w w3):=⟨hP3,HR⟩
   clear HR hC3 hx hP3 HJ
   have r0:=HF.2.1.cell (j:=0) rfl
   have rf:=HF.2.1.frozen 0
   go_wp2_with fail
   refine bodyPost_ret (v:=.agg #[.slice (some ⟨gq,0,none⟩) us.length cp]) (by simp[results,Tryz.results142,go_sem,World.cell?_setCell_same _ _ _ r0]) rfl ?_
   have hc:=Chg.of_set w3 w.heap.size 0 (.slice (some ⟨gq,0,none⟩) us.length cp) (S:=fun j=>j=w.heap.size) rfl
   have hq:=HF.2.2.1.lt
   refine⟨HF.2.2.2.2.absorb hc (fun j q=>.inr (by omega)),.inl ⟨k,os,_,HX.1,HX.2.1,rfl,?_,BoxAt.chg HF.1 hc (by omega)⟩⟩
   obtain⟨n,hn⟩:=seqs_one HX.2.2 (fun i x ts hx ht=>(HF.2.2.2.1 i x ts hx ht).move (S:=fun _=>False) (Chg.refl _ _) (fun _ q=>q.elim) (lo':=fun j=>w.heap.size+1≤j) (fun _ _ q=>q.1))
   have hA:AltAt w3 (fun j=>w.heap.size+1≤j) os (.slice (some ⟨gq,0,none⟩) us.length cp):=⟨n,gq,cp,us,by rw[HX.2.2],HX.2.2,HF.2.2.1.vals hq.1,hn⟩
   exact hA.move hc (fun j q=>by subst q;exact fun z=>by omega) (fun j hj z=>⟨by omega,by have:=hc.size;omega⟩)
theorem alt_all {p:ByteArray} (hp:p.size≤200):∀m,AtomC p m∧AltC p m
 |0=>by
  have h0:AtomC p 0:=fun base g i o w hm hi=>by omega
  exact⟨h0,alt_of (seq_of (rep_of h0 hp) hp) hp⟩
 |m+1=>by
  have h1:=atom_of (alt_all hp m).2 hp
  exact⟨h1,alt_of (seq_of (rep_of h1 hp) hp) hp⟩
theorem alt_core {p:ByteArray} (hp:p.size≤200) (base g i o:Nat) (w:World) (hi:i≤p.size) (ho:o≤20) (h:PrAt w base g p i o):Calls Tryz.prog 142 #[.pointer (some ⟨g,0,none⟩)] w (AltPost p base g i o w):=
 (alt_all hp (p.size-i)).2 base g i o w (Nat.le_refl _) hi ho h
theorem pf_assert (c a:Int) (w:World):(Instr.typeAssert (pfV c a) 20 46 true).run Tryz.prog w=.ok (.tuple #[.agg #[.int .i64 c,.int .i64 a],.bool true]) w:=by kernel_rfl
set_option maxHeartbeats 2000000 in
theorem pfOf_nil (w:World):Calls Tryz.prog 24 #[.nilIface] w fun e w'=>e=.returned (.agg #[.int .i64 0,.int .i64 0])∧Below w.heap.size w w':=by
 go_enter Tryz.func24,Tryz.ntmps24
 go_wp2_with fail
 refine bodyPost_ret (v:=.agg #[.int .i64 0,.int .i64 0]) (by simp[results,Tryz.results24,go_sem]) rfl ⟨rfl,?_⟩
 exact qB
set_option maxHeartbeats 2000000 in
theorem pfOf_pf (c a:Int) (w:World):Calls Tryz.prog 24 #[pfV c a] w fun e w'=>e=.returned (.agg #[.int .i64 c,.int .i64 a])∧Below w.heap.size w w':=by
 have hta:=pf_assert
 obtain⟨W,hW⟩:=qE (w.alloc (Obj.cells #[.int .i64 0,.int .i64 0] 46):World)
 have HW:Hid (BoxAt W w.heap.size 46 2 w.heap.size [.int .i64 0,.int .i64 0]∧Below w.heap.size w W):=by
  rw[hW];exact⟨boxAt_new w _ (Nat.le_refl _) rfl,qB⟩
 obtain⟨W2,hW2⟩:=qE (W.alloc (Obj.cells #[.int .i64 c,.int .i64 a] 46):World)
 have HW2:Hid (BoxAt W2 w.heap.size 46 2 w.heap.size [.int .i64 0,.int .i64 0]∧BoxAt W2 w.heap.size 46 2 W.heap.size [.int .i64 c,.int .i64 a]∧Below w.heap.size w W2):=by
  have hb:Below W.heap.size W W2:=by rw[hW2];exact qB
  refine⟨HW.1.below hb,?_,HW.2.trans (hb.mono HW.2.size)⟩
  rw[hW2];exact boxAt_new W _ HW.2.size rfl
 go_enter Tryz.func24,Tryz.ntmps24
 go_upto_region 1 with fail
 rw[←hW]
 clear hW
 go_upto_region 7 with fail
 rw[←hW2]
 clear hW2 hta
 obtain⟨b0,b1⟩:=HW2.2.1.c2
 obtain⟨r0,r1⟩:=HW2.1.c2
 have f0:=HW2.1.frozen 0
 have f1:=HW2.1.frozen 1
 have hbx:=(HW2.1.set 0 (.int .i64 c)).set 1 (.int .i64 a)
 obtain⟨p0,p1⟩:=hbx.c2
 obtain⟨W3,hW3⟩:=qE ((W2.setCell ⟨w.heap.size,0,none⟩ (.int .i64 c)).setCell ⟨w.heap.size,1,none⟩ (.int .i64 a):World)
 rw[←hW3]at p0 p1
 have HB3:Hid (Below w.heap.size w W3):=by
  show Below w.heap.size w W3
  rw[hW3];exact below_set (below_set HW2.2.2 (Nat.le_refl _) 0 _) (Nat.le_refl _) 1 _
 clear hbx
 go_wp2_with fail
 rw[←hW3]
 refine bodyPost_ret (v:=.agg #[.int .i64 c,.int .i64 a]) (by simp[results,Tryz.results24,go_sem,p0,p1]) rfl ⟨rfl,HB3.out⟩
set_option maxHeartbeats 4000000 in
theorem rp_catch (base rb eb:Nat) (c a:Int) (older:List PanicEntry) (w:World) (hc:¬c=0) (x:Value) (hr:BoxAt w base 171 1 rb [x]) (he:BoxAt w base 125 2 eb [.int .i64 0,.int .i64 0]) (hne:¬rb=eb):
  CallsD Tryz.prog 141 #[.pointer (some ⟨rb,0,none⟩),.pointer (some ⟨eb,0,none⟩)] (.panicking ({v:=pfV c a,recovered:=false}::older)) w fun e u' w'=>
   e=.returned (.tuple #[])∧u'=.panicking ({v:=pfV c a,recovered:=true}::older)∧BoxAt w' base 171 1 rb [.slice none 0 0]∧BoxAt w' base 125 2 eb [.int .i64 c,.int .i64 a]∧Chg (fun k=>k=rb∨k=eb) w w':=by
 refine callsD_of_wpS Tryz.func141 rfl fun c₀ cs hu=>?_
 apply wpS_seq
 apply wpS_region
 simp[wpOpsS,go_sem,recoverD,hu,Tryz.ntmps141,Exit.thenS]
 refine(pfOf_pf c a w).mono ?_
 rintro e w1 ⟨rfl,hb1⟩
 simp[wpOpsS,go_sem]
 have ht:#[Value.pointer (some ⟨rb,0,none⟩),Value.pointer (some ⟨eb,0,none⟩)]++(((Array.replicate 12 undef).setIfInBounds 1 (pfV c a)).setIfInBounds 2 (Value.agg #[Value.int IntKind.i64 c,Value.int IntKind.i64 a])).setIfInBounds 0 (Value.pointer (some ⟨w1.heap.size,0,none⟩))=#[.pointer (some ⟨rb,0,none⟩),.pointer (some ⟨eb,0,none⟩),.pointer (some ⟨w1.heap.size,0,none⟩),pfV c a,.agg #[.int .i64 c,.int .i64 a],undef,undef,undef,undef,undef,undef,undef,undef,undef]:=by rfl
 rw[ht]
 clear ht
 obtain⟨W2,hW2⟩:=qE (w1.alloc (Obj.cells #[.int .i64 c,.int .i64 a] 46):World)
 have hb2:Below w1.heap.size w1 W2:=by rw[hW2];exact qB
 have HB:Hid (BoxAt W2 base 171 1 rb [x]∧BoxAt W2 base 125 2 eb [.int .i64 0,.int .i64 0]∧Chg (fun k=>k=rb∨k=eb) w W2):=
  ⟨(hr.below hb1).below hb2,(he.below hb1).below hb2,(Chg.of_below hb1).trans (Chg.of_below hb2)⟩
 have d0:W2.cell? ⟨w1.heap.size,0,none⟩=some (.int .i64 c):=by rw[hW2];simp
 have d1:W2.cell? ⟨w1.heap.size,1,none⟩=some (.int .i64 a):=by rw[hW2];simp
 have hrl:=(hr.below hb1).lt.2
 have hel:=(he.below hb1).lt.2
 obtain⟨FB,hFB⟩:=qE w1.heap.size
 rw[←hW2]
 rw[←hFB]at d0 d1⊢
 have n1:¬FB=rb:=by omega
 have n2:¬FB=eb:=by omega
 clear hW2 hFB hb1 hb2 hr he hrl hel
 have r0:=HB.1.cell (j:=0) rfl
 have rf:=HB.1.frozen 0
 obtain⟨e0,e1⟩:=HB.2.1.c2
 have f0:=HB.2.1.frozen 0
 have f1:=HB.2.1.frozen 1
 have n3:¬eb=rb:=fun q=>hne q.symm
 have HF:∀w':World,Below W2.heap.size W2 w'→BoxAt (((w'.setCell ⟨rb,0,none⟩ (.slice none 0 0)).setCell ⟨eb,0,none⟩ (.int .i64 c)).setCell ⟨eb,1,none⟩ (.int .i64 a)) base 171 1 rb [.slice none 0 0]∧BoxAt (((w'.setCell ⟨rb,0,none⟩ (.slice none 0 0)).setCell ⟨eb,0,none⟩ (.int .i64 c)).setCell ⟨eb,1,none⟩ (.int .i64 a)) base 125 2 eb [.int .i64 c,.int .i64 a]∧Chg (fun k=>k=rb∨k=eb) w (((w'.setCell ⟨rb,0,none⟩ (.slice none 0 0)).setCell ⟨eb,0,none⟩ (.int .i64 c)).setCell ⟨eb,1,none⟩ (.int .i64 a)):=fun w' hb=>by
  refine⟨((((HB.1.below hb).set 0 _).beside hne 0 _).beside hne 1 _),((((HB.2.1.below hb).beside n3 0 _).set 0 _).set 1 _),((((HB.2.2.trans (Chg.of_below hb)).trans (Chg.of_set _ rb 0 _ (.inl rfl))).trans (Chg.of_set _ eb 0 _ (.inr rfl))).trans (Chg.of_set _ eb 1 _ (.inr rfl)))⟩
 have HFF:Hid (∀w':World,Below W2.heap.size W2 w'→BoxAt (((w'.setCell ⟨rb,0,none⟩ (.slice none 0 0)).setCell ⟨eb,0,none⟩ (.int .i64 c)).setCell ⟨eb,1,none⟩ (.int .i64 a)) base 171 1 rb [.slice none 0 0]∧BoxAt (((w'.setCell ⟨rb,0,none⟩ (.slice none 0 0)).setCell ⟨eb,0,none⟩ (.int .i64 c)).setCell ⟨eb,1,none⟩ (.int .i64 a)) base 125 2 eb [.int .i64 c,.int .i64 a]∧Chg (fun k=>k=rb∨k=eb) w (((w'.setCell ⟨rb,0,none⟩ (.slice none 0 0)).setCell ⟨eb,0,none⟩ (.int .i64 c)).setCell ⟨eb,1,none⟩ (.int .i64 a))):=HF
 clear HF
 refine wpS_of_wp ?_
 go_upto_region 2 with fail
 go_region
 all_goals go_wp2_with fail
 have hfin:=HFF.out W2 (Below.refl _ _)
 have hdr:∀X:World,Below X.heap.size X X.drew:=fun X=>(Below.refl _ _).drew
 exact⟨rfl,_,rfl,_,by simp[results,Tryz.results141],rfl,rfl,hfin.1.below (hdr _),hfin.2.1.below (hdr _),hfin.2.2.trans (Chg.of_below (hdr _))⟩
set_option maxHeartbeats 4000000 in
theorem rp_idle (rb eb:Nat) (w:World):
  CallsD Tryz.prog 141 #[.pointer (some ⟨rb,0,none⟩),.pointer (some ⟨eb,0,none⟩)] .returning w fun e u' w'=>e=.returned (.tuple #[])∧u'=.returning∧Below w.heap.size w w':=by
 refine callsD_of_wpS Tryz.func141 rfl fun c₀ cs hu=>?_
 apply wpS_seq
 apply wpS_region
 simp[wpOpsS,go_sem,recoverD,hu,Tryz.ntmps141,Exit.thenS]
 refine(pfOf_nil w).mono ?_
 rintro e w1 ⟨rfl,hb1⟩
 simp[wpOpsS,go_sem]
 have ht:#[Value.pointer (some ⟨rb,0,none⟩),Value.pointer (some ⟨eb,0,none⟩)]++(((Array.replicate 12 undef).setIfInBounds 1 .nilIface).setIfInBounds 2 (Value.agg #[Value.int IntKind.i64 0,Value.int IntKind.i64 0])).setIfInBounds 0 (Value.pointer (some ⟨w1.heap.size,0,none⟩))=#[.pointer (some ⟨rb,0,none⟩),.pointer (some ⟨eb,0,none⟩),.pointer (some ⟨w1.heap.size,0,none⟩),.nilIface,.agg #[.int .i64 0,.int .i64 0],undef,undef,undef,undef,undef,undef,undef,undef,undef]:=by rfl
 rw[ht]
 clear ht
 have HB:Hid (Below w.heap.size w (w1.alloc (Obj.cells #[.int .i64 0,.int .i64 0] 46))):=hb1.trans ((Below.refl _ _).alloc hb1.size _)
 clear hb1
 refine wpS_of_wp ?_
 go_wp2_with fail
 refine⟨rfl,.returning,?_,_,by simp[results,Tryz.results141],rfl,rfl,HB.out⟩
 cases c₀
 simp_all
def checkM (p:List UInt8):Int×Nat:=if 200<p.length then(1,0)else chkM p 0 0 false
def ReadPost (p:ByteArray) (w:World) (e:Ending) (w':World):Prop:=
 ∃u:Value,e=.returned (.tuple #[.agg #[u],.agg #[.int .i64 (checkM (sb p)).1,.int .i64 ((checkM (sb p)).2:Int)]])∧Below w.heap.size w w'∧
  (((checkM (sb p)).1=0∧∃os,AltOk (sb p) 0 0 p.size os∧AltAt w' (Bet w.heap.size w'.heap.size) os u)∨(¬(checkM (sb p)).1=0∧u=.slice none 0 0))
theorem rp_res {base rb eb:Nat} {w:World} {a:Act} {u x y:Value} (hu:u.oneCell'=true) (ht:a.tmps.getD 2 undef=.pointer (some ⟨rb,0,none⟩)) (ht2:a.tmps.getD 3 undef=.pointer (some ⟨eb,0,none⟩)) (hr:BoxAt w base 171 1 rb [u]) (he:BoxAt w base 125 2 eb [x,y]):
  (results Tryz.f132 a.tmps).run Tryz.prog w=.ok (.tuple #[.agg #[u],.agg #[x,y]]) w:=by
 have p0:=hr.cell (j:=0) rfl
 obtain⟨q0,q1⟩:=he.c2
 have h1:a.tmps[2]?.getD undef=.pointer (some ⟨rb,0,none⟩):=by rw[←Array.getD_eq_getD_getElem?];exact ht
 have h2:a.tmps[3]?.getD undef=.pointer (some ⟨eb,0,none⟩):=by rw[←Array.getD_eq_getD_getElem?];exact ht2
 simp[results,Tryz.results132,go_sem,h1,h2,p0,q0,q1]
theorem rp_dies (p:ByteArray) (w wq:World) (a:Act) (c:Int) (k rb eb:Nat) (x:Value) (hrb:w.heap.size≤rb) (heb:w.heap.size≤eb) (hne:¬rb=eb) (hd:a.defers= [{target:=Target.fn (Fn.func 141) #[.pointer (some ⟨rb,0,none⟩),.pointer (some ⟨eb,0,none⟩)],args:=#[]}])
  (ht:a.tmps.getD 2 undef=.pointer (some ⟨rb,0,none⟩)) (ht2:a.tmps.getD 3 undef=.pointer (some ⟨eb,0,none⟩)) (hM:checkM (sb p)=(c,k)) (hc:¬c=0) (hr:BoxAt wq w.heap.size 171 1 rb [x]) (he:BoxAt wq w.heap.size 125 2 eb [.int .i64 0,.int .i64 0]) (hB:Below w.heap.size w wq):
  bodyPostD Tryz.prog Tryz.f132 (fun e w'=>ReadPost p w e w') (.panic [{v:=pfV c k,recovered:=false}]) a wq:=by
 show Leaves Tryz.prog Tryz.f132 a.tmps (fun e w'=>ReadPost p w e w') a.defers (.panicking [{v:=pfV c k,recovered:=false}]) wq
 rw[hd]
 refine leaves_cons (f:=141) (args:=#[.pointer (some ⟨rb,0,none⟩),.pointer (some ⟨eb,0,none⟩)]) (by simp) (by simp[go_sem]) ?_
 refine(rp_catch w.heap.size rb eb c k [] wq hc x hr he hne).mono ?_
 rintro e u' w'' ⟨rfl,rfl,hr2,he2,hC⟩
 show Leaves Tryz.prog Tryz.f132 a.tmps (fun e w'=>ReadPost p w e w') [] (settle (.panicking [{v:=pfV c k,recovered:=true}])) _
 refine⟨_,rp_res rfl ht ht2 hr2 he2,.slice none 0 0,by rw[hM],Chg.below hB hC hB.size (fun j q=>by omega),.inr ⟨by rw[hM];exact hc,rfl⟩⟩
theorem rp_done (p:ByteArray) (w wq:World) (a:Act) (rb eb:Nat) (u:Value) (os:List (List Pat)) (hu:u.oneCell'=true) (hd:a.defers= [{target:=Target.fn (Fn.func 141) #[.pointer (some ⟨rb,0,none⟩),.pointer (some ⟨eb,0,none⟩)],args:=#[]}])
  (ht:a.tmps.getD 2 undef=.pointer (some ⟨rb,0,none⟩)) (ht2:a.tmps.getD 3 undef=.pointer (some ⟨eb,0,none⟩)) (hM:checkM (sb p)=(0,0)) (hA:AltOk (sb p) 0 0 p.size os) (hU:AltAt wq (Bet w.heap.size wq.heap.size) os u) (hr:BoxAt wq w.heap.size 171 1 rb [u]) (he:BoxAt wq w.heap.size 125 2 eb [.int .i64 0,.int .i64 0]) (hB:Below w.heap.size w wq):
  bodyPostD Tryz.prog Tryz.f132 (fun e w'=>ReadPost p w e w') .ret a wq:=by
 show Leaves Tryz.prog Tryz.f132 a.tmps (fun e w'=>ReadPost p w e w') a.defers .returning wq
 rw[hd]
 refine leaves_cons (f:=141) (args:=#[.pointer (some ⟨rb,0,none⟩),.pointer (some ⟨eb,0,none⟩)]) (by simp) (by simp[go_sem]) ?_
 refine(rp_idle rb eb wq).mono ?_
 rintro e u' w'' ⟨rfl,rfl,hb⟩
 show Leaves Tryz.prog Tryz.f132 a.tmps (fun e w'=>ReadPost p w e w') [] (settle .returning) w''
 refine⟨_,rp_res hu ht ht2 (hr.below hb) (he.below hb),u,by rw[hM];rfl,hB.trans (hb.mono hB.size),.inl ⟨by rw[hM],os,hA,hU.move (S:=fun _=>False) (Chg.of_below hb) (fun q hq=>hq.elim) (fun q hq z=>⟨z.1,by have:=hb.size;omega⟩)⟩⟩
set_option maxHeartbeats 4000000 in
theorem readPattern_core (p:ByteArray) (w:World) (hpm:p.size≤maxLen):Calls Tryz.prog 132 #[.string p] w fun e w'=>ReadPost p w e w':=by
 have hmf:∀(fn:Fn) (first cap:Array Value) (w:World),(Instr.makeFunc fn first cap).run Tryz.prog w=.ok (.func fn first cap) w:=fun _ _ _ _=>rfl
 obtain⟨W0,hW0⟩:=qE ((w.alloc (Obj.cells #[.slice none 0 0] 171)).alloc (Obj.cells #[.int .i64 0,.int .i64 0] 125):World)
 have HW0:Hid (BoxAt W0 w.heap.size 171 1 w.heap.size [.slice none 0 0]∧BoxAt W0 w.heap.size 125 2 (w.heap.size+1) [.int .i64 0,.int .i64 0]∧Below w.heap.size w W0∧W0.heap.size=w.heap.size+2):=by
  rw[hW0]
  refine⟨BoxAt.ofHeap (vs:=#[.slice none 0 0]) (heap_alloc2_old w _ _) (Nat.le_refl _) rfl,BoxAt.ofHeap (vs:=#[.int .i64 0,.int .i64 0]) (heap_alloc2_new w _ _) (by omega) rfl,(qB).alloc (by simp) _,by simp⟩
 unfold maxLen at hpm
 by_cases hp:200<p.size
 ·have HM:Hid (checkM (sb p)=(1,0)):=by
   show checkM (sb p)=_
   unfold checkM;rw[if_pos (by rw[sb_len];exact hp)]
  have z:¬(p.size:Int)≤200:=by omega
  have z2:(200:Int)<(p.size:Int):=by omega
  go_enter_defers Tryz.func132,Tryz.ntmps132
  go_upto_region 1 with fail
  rw[←hW0]
  clear hW0
  have r0:=HW0.1.cell (j:=0) rfl
  have rf:=HW0.1.frozen 0
  obtain⟨e0,e1⟩:=HW0.2.1.c2
  have f0:=HW0.2.1.frozen 0
  have f1:=HW0.2.1.frozen 1
  obtain⟨W1,hW1⟩:=qE (((W0.setCell ⟨w.heap.size,0,none⟩ (.slice none 0 0)).setCell ⟨w.heap.size+1,0,none⟩ (.int .i64 1)).setCell ⟨w.heap.size+1,1,none⟩ (.int .i64 0):World)
  have HW1:Hid (BoxAt W1 w.heap.size 171 1 w.heap.size [.slice none 0 0]∧BoxAt W1 w.heap.size 125 2 (w.heap.size+1) [.int .i64 1,.int .i64 0]∧Below w.heap.size w W1):=by
   rw[hW1]
   exact⟨(((HW0.1.set 0 _).beside (by omega) 0 _).beside (by omega) 1 _),(((HW0.2.1.beside (by omega) 0 _).set 0 _).set 1 _),below_set (below_set (below_set HW0.2.2.1 (Nat.le_refl _) 0 _) (by omega) 0 _) (by omega) 1 _⟩
  go_wp2_with fail
  rw[←hW1]
  show Leaves Tryz.prog Tryz.f132 _ (fun e w'=>ReadPost p w e w') [] .returning W1
  refine⟨_,rp_res (a:={tmps:=_,defers:= []}) rfl rfl rfl HW1.1 HW1.2.1,.slice none 0 0,by rw[HM.out];rfl,HW1.2.2,.inr ⟨by rw[HM.out];decide,rfl⟩⟩
 have hp2:p.size≤200:=by omega
 have HM:Hid (checkM (sb p)=chkM (sb p) 0 0 false):=by
  show checkM (sb p)=_
  unfold checkM;rw[if_neg (by rw[sb_len];exact hp)]
 have z:(p.size:Int)≤200:=by omega
 obtain⟨W1,hW1⟩:=qE (W0.alloc (Obj.cells #[.string p,.int .i64 0,.int .i64 0] 181):World)
 have HW1:Hid (BoxAt W1 w.heap.size 171 1 w.heap.size [.slice none 0 0]∧BoxAt W1 w.heap.size 125 2 (w.heap.size+1) [.int .i64 0,.int .i64 0]∧PrAt W1 w.heap.size (w.heap.size+2) p 0 0∧Below w.heap.size w W1∧W1.heap.size=w.heap.size+3):=by
  have hb:Below W0.heap.size W0 W1:=by rw[hW1];exact qB
  have hz:=HW0.2.2.2
  refine⟨HW0.1.below hb,HW0.2.1.below hb,?_,HW0.2.2.1.trans (hb.mono (by omega)),by rw[hW1];simp;omega⟩
  rw[hW1,←hz]
  exact boxAt_new W0 #[.string p,.int .i64 0,.int .i64 0] (by omega) rfl
 go_enter_defers Tryz.func132,Tryz.ntmps132
 go_upto_region 1 with fail
 rw[←hW0]
 have hz0:W0.heap.size=w.heap.size+2:=HW0.2.2.2
 clear hW0 HW0
 go_upto_region 5 with fail
 rw[←hW1]
 clear hW1 hz0
 go_wp2_with fail
 refine(alt_core hp2 w.heap.size (w.heap.size+2) 0 0 W1 (Nat.zero_le _) (Nat.zero_le _) HW1.2.2.1).mono ?_
 rintro e w2 ⟨hC2,(⟨k,os,u,hA,hN,rfl,hU,hP2⟩|⟨c,k,hc,hk,rfl⟩)⟩
 case inr=>
  have hb2:Below w.heap.size w w2:=Chg.below HW1.2.2.2.1 hC2 HW1.2.2.2.1.size (fun j q=>by omega)
  exact rp_dies p w w2 _ c k w.heap.size (w.heap.size+1) _ (Nat.le_refl _) (by omega) (by omega) rfl rfl rfl (by rw[HM.out,hk]) hc (HW1.1.chg hC2 (by omega)) (HW1.2.1.chg hC2 (by omega)) hb2
 obtain⟨gu,nu,cu,rfl⟩:=hU.slice
 have hkp:k≤p.size:=by have:=hA.le;rw[sb_len]at this;exact this
 have HA:Hid (AltOk (sb p) 0 0 k os∧(∀c,(sb p)[k]?=some c→isEnd c∧¬c=124)):=⟨hA,hN⟩
 have HW2:Hid (BoxAt w2 w.heap.size 171 1 w.heap.size [.slice none 0 0]∧BoxAt w2 w.heap.size 125 2 (w.heap.size+1) [.int .i64 0,.int .i64 0]∧PrAt w2 w.heap.size (w.heap.size+2) p k 0∧Below w.heap.size w w2∧AltAt w2 (fun j=>w.heap.size+3≤j) os (.slice (some ⟨gu,0,none⟩) nu cu)):=by
  refine⟨HW1.1.chg hC2 (by omega),HW1.2.1.chg hC2 (by omega),hP2,Chg.below HW1.2.2.2.1 hC2 HW1.2.2.2.1.size (fun j q=>by omega),hU.move (S:=fun _=>False) (Chg.refl _ _) (fun q hq=>hq.elim) (fun q _ z=>by have h1:=z.1;rw[HW1.2.2.2.2]at h1;exact h1)⟩
 clear hC2 hA hN hU hP2 HW1
 obtain⟨W3,hW3⟩:=qE (w2.setCell ⟨w.heap.size,0,none⟩ (.slice (some ⟨gu,0,none⟩) nu cu):World)
 have HW3:Hid (BoxAt W3 w.heap.size 171 1 w.heap.size [.slice (some ⟨gu,0,none⟩) nu cu]∧BoxAt W3 w.heap.size 125 2 (w.heap.size+1) [.int .i64 0,.int .i64 0]∧PrAt W3 w.heap.size (w.heap.size+2) p k 0∧Below w.heap.size w W3∧AltAt W3 (fun j=>w.heap.size+3≤j) os (.slice (some ⟨gu,0,none⟩) nu cu)):=by
  have hc:=Chg.of_set w2 w.heap.size 0 (.slice (some ⟨gu,0,none⟩) nu cu) (S:=fun j=>j=w.heap.size) rfl
  rw[hW3]
  exact⟨HW2.1.set 0 _,HW2.2.1.chg hc (by omega),BoxAt.chg HW2.2.2.1 hc (by omega),below_set HW2.2.2.2.1 (Nat.le_refl _) 0 _,HW2.2.2.2.2.move hc (fun q hq=>by subst hq;exact fun z=>by omega) (fun q _ z=>z)⟩
 have r0:=HW2.1.cell (j:=0) rfl
 have rf:=HW2.1.frozen 0
 clear HW2
 go_upto_region 6 with fail
 rw[←hW3]
 clear hW3 r0 rf
 have c1:=HW3.2.2.1.cell (j:=1) rfl
 by_cases hke:k=p.size
 ·have zk:(k:Int)=(p.size:Int):=by omega
  have HOk:Hid (checkM (sb p)=(0,0)∧AltOk (sb p) 0 0 p.size os):=by
   refine⟨?_,by rw[←hke];exact HA.1⟩
   rw[HM.out,HA.1.chk,chk_end (by rw[sb_len];omega),if_neg (by omega)]
  clear HA hke
  go_wp2_with fail
  refine(pdem_core _ HW3.2.2.1).mono ?_
  rintro e w5 ⟨hw5,(⟨hc,rfl⟩|⟨hc,rfl⟩)⟩
  case inr=>exfalso;(simp at hc)<;>omega
  rw[hw5]
  clear hw5 hc c1
  have r0:=HW3.1.cell (j:=0) rfl
  have rf:=HW3.1.frozen 0
  obtain⟨e0,e1⟩:=HW3.2.1.c2
  have f0:=HW3.2.1.frozen 0
  have f1:=HW3.2.1.frozen 1
  obtain⟨W6,hW6⟩:=qE (((W3.setCell ⟨w.heap.size,0,none⟩ (.slice (some ⟨gu,0,none⟩) nu cu)).setCell ⟨w.heap.size+1,0,none⟩ (.int .i64 0)).setCell ⟨w.heap.size+1,1,none⟩ (.int .i64 0):World)
  have HW6:Hid (BoxAt W6 w.heap.size 171 1 w.heap.size [.slice (some ⟨gu,0,none⟩) nu cu]∧BoxAt W6 w.heap.size 125 2 (w.heap.size+1) [.int .i64 0,.int .i64 0]∧Below w.heap.size w W6∧AltAt W6 (Bet w.heap.size W6.heap.size) os (.slice (some ⟨gu,0,none⟩) nu cu)):=by
   have c1:=Chg.of_set W3 w.heap.size 0 (.slice (some ⟨gu,0,none⟩) nu cu) (S:=fun j=>j=w.heap.size∨j=w.heap.size+1) (.inl rfl)
   have c2:=c1.trans (Chg.of_set _ (w.heap.size+1) 0 (.int .i64 0) (S:=fun j=>j=w.heap.size∨j=w.heap.size+1) (.inr rfl))
   have c3:=c2.trans (Chg.of_set _ (w.heap.size+1) 1 (.int .i64 0) (S:=fun j=>j=w.heap.size∨j=w.heap.size+1) (.inr rfl))
   rw[hW6]
   exact⟨(((HW3.1.set 0 _).beside (by omega) 0 _).beside (by omega) 1 _),(((HW3.2.1.beside (by omega) 0 _).set 0 _).set 1 _),below_set (below_set (below_set HW3.2.2.2.1 (Nat.le_refl _) 0 _) (by omega) 0 _) (by omega) 1 _,HW3.2.2.2.2.move c3 (fun q hq=>fun z=>by omega) (fun q hq z=>⟨by omega,by have:=c3.size;omega⟩)⟩
  go_wp2_with fail
  rw[←hW6]
  exact rp_done p w W6 _ w.heap.size (w.heap.size+1) _ os rfl rfl rfl rfl HOk.1 HOk.2 HW6.2.2.2 HW6.1 HW6.2.1 HW6.2.2.1
 ·have zk:¬(k:Int)=(p.size:Int):=by omega
  have HOk:Hid (checkM (sb p)=(2,k)):=by
   show checkM (sb p)=_
   obtain⟨c,hc⟩:∃c,(sb p)[k]?=some c:=⟨_,List.getElem?_eq_getElem (by rw[sb_len];omega)⟩
   obtain⟨h1,h2⟩:=HA.2 c hc
   rw[HM.out,HA.1.chk]
   rcases h1 with h1|h1|h1|h1
   ·rw[chk_op hc h1];rfl
   ·exact absurd h1 h2
   ·subst h1;rw[chk_close hc,if_pos rfl]
   ·subst h1;rw[chk_rb hc]
  clear HA hke
  go_wp2_with fail
  refine(pdem_core _ HW3.2.2.1).mono ?_
  rintro e w5 ⟨hw5,(⟨hc,rfl⟩|⟨hc,rfl⟩)⟩
  ·exfalso;(simp at hc)<;>omega
  rw[hw5]
  exact rp_dies p w W3 _ 2 k w.heap.size (w.heap.size+1) _ (Nat.le_refl _) (by omega) (by omega) rfl rfl rfl HOk.out (by decide) HW3.1 HW3.2.1 HW3.2.2.2.1
set_option maxHeartbeats 2000000 in
theorem implCheck_core (p:ByteArray) (w:World) (hpm:p.size≤maxLen):Calls Tryz.prog 119 #[.string p] w fun e w'=>e=.returned (.agg #[.int .i64 (checkM (sb p)).1,.int .i64 ((checkM (sb p)).2:Int)])∧Below w.heap.size w w':=by
 obtain⟨W0,hW0⟩:=qE (w.alloc (Obj.cells #[.int .i64 0,.int .i64 0] 125):World)
 have HW0:Hid (BoxAt W0 w.heap.size 125 2 w.heap.size [.int .i64 0,.int .i64 0]∧Below w.heap.size w W0):=by
  rw[hW0];exact⟨boxAt_new w _ (Nat.le_refl _) rfl,qB⟩
 obtain⟨c,hc⟩:=qE ((checkM (sb p)).1)
 obtain⟨k,hk⟩:=qE ((checkM (sb p)).2)
 rw[←hc,←hk]
 go_enter Tryz.func119,Tryz.ntmps119
 go_upto_region 1 with fail
 rw[←hW0]
 clear hW0
 go_wp2_with fail
 refine(readPattern_core p W0 hpm).mono ?_
 rintro e w1 ⟨u,rfl,hb1,hu⟩
 rw[←hc,←hk]
 obtain⟨ua,un,uc,rfl⟩:∃a n cp,u=.slice a n cp:=by
  rcases hu with⟨_,os,_,hU⟩|⟨_,rfl⟩
  ·obtain⟨g,n,cp,rfl⟩:=hU.slice;exact⟨_,_,_,rfl⟩
  ·exact⟨_,_,_,rfl⟩
 clear hu hc hk
 obtain⟨W2,hW2⟩:=qE ((w1.alloc (Obj.cells #[.slice ua un uc] 171)).alloc (Obj.cells #[.int .i64 c,.int .i64 (k:Int)] 125):World)
 have HW2:Hid (BoxAt W2 w.heap.size 125 2 w.heap.size [.int .i64 0,.int .i64 0]∧BoxAt W2 w.heap.size 125 2 (w1.heap.size+1) [.int .i64 c,.int .i64 (k:Int)]∧Below w.heap.size w W2):=by
  have hb2:Below w1.heap.size w1 W2:=by rw[hW2];exact(qB).alloc (by simp) _
  have h1:=HW0.2.size
  have h2:=hb1.size
  refine⟨(HW0.1.below hb1).below hb2,?_,(HW0.2.trans (hb1.mono h1)).trans (hb2.mono (by omega))⟩
  rw[hW2]
  exact BoxAt.ofHeap (vs:=#[.int .i64 c,.int .i64 (k:Int)]) (heap_alloc2_new w1 _ _) (by omega) rfl
 clear hb1 HW0
 go_upto_region 2 with fail
 rw[←hW2]
 clear hW2
 obtain⟨b0,b1⟩:=HW2.2.1.c2
 obtain⟨r0,r1⟩:=HW2.1.c2
 have f0:=HW2.1.frozen 0
 have f1:=HW2.1.frozen 1
 have hbx:=(HW2.1.set 0 (.int .i64 c)).set 1 (.int .i64 (k:Int))
 obtain⟨p0,p1⟩:=hbx.c2
 have HB3:Hid (Below w.heap.size w ((W2.setCell ⟨w.heap.size,0,none⟩ (.int .i64 c)).setCell ⟨w.heap.size,1,none⟩ (.int .i64 (k:Int)))):=below_set (below_set HW2.2.2 (Nat.le_refl _) 0 _) (Nat.le_refl _) 1 _
 obtain⟨W3,hW3⟩:=qE ((W2.setCell ⟨w.heap.size,0,none⟩ (.int .i64 c)).setCell ⟨w.heap.size,1,none⟩ (.int .i64 (k:Int)):World)
 rw[←hW3]at p0 p1 HB3
 clear hbx
 go_wp2_with fail
 rw[←hW3]
 refine bodyPost_ret (v:=.agg #[.int .i64 c,.int .i64 (k:Int)]) (by simp[results,Tryz.results119,go_sem,p0,p1]) rfl ⟨rfl,HB3.out⟩
abbrev less (a b:ByteArray):Prop:=Op.bytesLess a.toList b.toList=true
def GoodN (e:Nd):Prop:=e.s.size≤200∧e.t.size≤200∧(e.hi=false→e.t.toList= []∧e.up=0)∧
 (((e.kind=4∨e.kind=5∨e.kind=6∨e.kind=7)∧(e.hi=false∧e.t.toList= []∧e.lo=0∧e.up=0∧e.n=0)∧(checkM (sb e.s)).1=0)∨
  ((e.kind=8∨e.kind=9)∧(e.lo=0∧e.up=0∧e.n=0)∧(e.hi=true→less e.s e.t))∨
  (e.kind=10∧(e.s.toList= []∧e.t.toList= []∧e.n=0)∧(e.hi=true→e.lo<e.up))∨
  ((e.kind=11∨e.kind=12∨e.kind=13)∧(e.s.toList= []∧e.hi=false∧e.t.toList= []∧e.lo=0∧e.up=0)∧1≤e.n∧e.n≤1000)∨
  ((e.kind=1∨e.kind=2∨e.kind=3∨e.kind=14∨e.kind=15∨e.kind=16)∧(e.s.toList= []∧e.hi=false∧e.t.toList= []∧e.lo=0∧e.up=0∧e.n=0)))
end Go.Proofs.YtgnpcenpcmdlfaaGreatDoor
namespace Go.Proofs.YtgnpcenpcmdlfaaGreatDoor
set_option linter.unusedVariables false
set_option linter.unusedSimpArgs false
inductive TkK where
 |word (k:Int)
 |num (n:Int)
 |str (s:ByteArray)
 |sign (b:UInt8)
 |fin
 |bad
structure Tk where
 k:TkK
 pos:Nat
def TkK.isBad:TkK→Bool
 | .bad=>true
 |_=>false
def TkK.isFin:TkK→Bool
 | .fin=>true
 |_=>false
def TkK.isSign (b:UInt8):TkK→Bool
 | .sign c=>c==b
 |_=>false
def TkK.isSort (strs:Bool):TkK→Bool
 | .str _=>strs
 | .num _=> !strs
 |_=>false
def noS:ByteArray:=⟨#[]⟩
def TkK.txt:TkK→ByteArray
 | .str s=>s
 |_=>noS
def TkK.nm:TkK→Int
 | .num n=>n
 |_=>0
abbrev PE:=Int×Nat
abbrev PR (α:Type):=Except PE α
structure Ps where
 ks:List Tk
 made:Nat
 out:List Nd
def hdK:List Tk→TkK
 | []=>.fin
 |k::_=>k.k
def hdA:List Tk→Nat
 | []=>0
 |k::_=>k.pos
def takeF (ks:List Tk):PR (List Tk):=if(hdK ks.tail).isBad=true then .error (2,hdA ks.tail)else .ok ks.tail
def expectF (b:UInt8) (ks:List Tk):PR (List Tk):=if(hdK ks).isSign b=true then takeF ks else .error (3,hdA ks)
def leafN (k:Int):Nd:=⟨k,noS,false,noS,0,0,0⟩
def patN (k:Int) (s:ByteArray):Nd:=⟨k,s,false,noS,0,0,0⟩
def cntN (k:Int) (n:Int):Nd:=⟨k,noS,false,noS,0,0,n⟩
def Ps.to (s:Ps) (r:PR (List Tk)):PR Ps:=match r with
 | .error e=>.error e
 | .ok ks=>.ok {s with ks:=ks}
def Ps.add (s:Ps) (n:Nd):Ps:={s with out:=s.out++ [n]}
def makerF (s:Ps):PR Ps:=if s.made<200 then Ps.to {s with made:=s.made+1} (takeF s.ks)else .error (5,hdA s.ks)
def enterF (d:Nat) (s:Ps):PR Ps:=if(hdK s.ks).isSign 40=true then(if d=0 then .error (4,hdA s.ks)else s.to (takeF s.ks))else .error (3,hdA s.ks)
def leaveF (s:Ps):PR Ps:=s.to (expectF 41 s.ks)
def commaF (s:Ps):PR Ps:=s.to (expectF 44 s.ks)
def upF (k:Int) (strs:Bool) (a:TkK) (ks:List Tk):PR (List Tk×Nd):=
 if(hdK ks).isSort strs=true then
  (if less a.txt (hdK ks).txt∨a.nm<(hdK ks).nm then(match takeF ks with
   | .error e=>.error e
   | .ok k2=>.ok (k2,⟨k,a.txt,true,(hdK ks).txt,a.nm,(hdK ks).nm,0⟩))else .error (7,hdA ks))
 else .ok (ks,⟨k,a.txt,false,noS,a.nm,0,0⟩)
def dotsF (k:Int) (strs:Bool) (a:TkK) (ks:List Tk):PR (List Tk×Nd):=match expectF 46 ks with
 | .error e=>.error e
 | .ok k2=>upF k strs a k2
def rangeF (k:Int) (strs:Bool) (ks:List Tk):PR (List Tk×Nd):=
 if(hdK ks).isSort strs=true then(match takeF ks with
  | .error e=>.error e
  | .ok k2=>dotsF k strs (hdK ks) k2)else dotsF k strs .fin ks
def argsF (k:Int) (ks:List Tk):PR (List Tk×Nd):=
 if k≤3 then .ok (ks,leafN k)
 else if k≤7 then(match hdK ks with
  | .str s=>if(checkM (sb s)).1=0 then(match takeF ks with
    | .error e=>.error e
    | .ok k2=>.ok (k2,patN k s))else .error (6,hdA ks)
  |_=>.error (3,hdA ks))
 else if k≤9 then rangeF k true ks
 else if k≤10 then rangeF k false ks
 else(match hdK ks with
  | .num n=>if 1≤n∧n≤1000 then(match takeF ks with
    | .error e=>.error e
    | .ok k2=>.ok (k2,cntN k n))else .error (8,hdA ks)
  |_=>.error (3,hdA ks))
def argF (k:Int) (s:Ps):PR Ps:=match argsF k s.ks with
 | .error e=>.error e
 | .ok (ks,n)=>.ok {s with ks:=ks,out:=s.out++ [n]}
def bindR {α β γ:Type} (A:α→PR β→Prop) (B:β→PR γ→Prop) (s:α) (r:PR γ):Prop:=(∃e,A s (.error e)∧r=.error e)∨∃s1,A s (.ok s1)∧B s1 r
def fnR {α β:Type} (f:α→PR β) (s:α) (r:PR β):Prop:=r=f s
inductive LoopR (sg:UInt8) (kd:Int) (R:Ps→PR Ps→Prop):Ps→PR Ps→Prop
 |stop {s:Ps} (h:(hdK s.ks).isSign sg=false):LoopR sg kd R s (.ok s)
 |e1 {s:Ps} {e:PE} (h:(hdK s.ks).isSign sg=true) (h1:makerF s=.error e):LoopR sg kd R s (.error e)
 |e2 {s s1:Ps} {e:PE} (h:(hdK s.ks).isSign sg=true) (h1:makerF s=.ok s1) (h2:R s1 (.error e)):LoopR sg kd R s (.error e)
 |more {s s1 s2:Ps} {r:PR Ps} (h:(hdK s.ks).isSign sg=true) (h1:makerF s=.ok s1) (h2:R s1 (.ok s2)) (h3:LoopR sg kd R (s2.add (leafN kd)) r):LoopR sg kd R s r
def JoinR (sg:UInt8) (kd:Int) (R:Ps→PR Ps→Prop):Ps→PR Ps→Prop:=bindR R (LoopR sg kd R)
def BranR (F:Ps→PR Ps→Prop) (d:Nat):Ps→PR Ps→Prop:=
 bindR (fnR (enterF d)) (bindR F (bindR (fnR commaF) (bindR F (bindR (fnR commaF) (bindR F (fnR leaveF))))))
def PrimR (F:Ps→PR Ps→Prop) (d:Nat) (s:Ps) (r:PR Ps):Prop:=
 ((hdK s.ks).isSign 40=true∧bindR (fnR (enterF d)) (bindR F (fnR leaveF)) s r)∨
 (hdK s.ks=.word 16∧bindR (fnR makerF) (bindR (BranR F d) (fnR fun s=>.ok (s.add (leafN 16)))) s r)∨
 (∃k,hdK s.ks=.word k∧¬k=16∧bindR (fnR makerF) (fnR (argF k)) s r)∨
 ((hdK s.ks).isSign 40=false∧(∀k,¬hdK s.ks=.word k)∧r=.error (3,hdA s.ks))
def ChaR (F:Ps→PR Ps→Prop) (d:Nat):Ps→PR Ps→Prop:=JoinR 62 14 (PrimR F d)
def FilR:Nat→Ps→PR Ps→Prop
 |0=>JoinR 124 15 (ChaR (fun _ _=>False) 0)
 |d+1=>JoinR 124 15 (ChaR (FilR d) (d+1))
def endF (s:Ps):PR Ps:=if(hdK s.ks).isFin=true then .ok s else .error (3,hdA s.ks)
def ParR (ks:List Tk) (r:PR Ps):Prop:=((hdK ks).isBad=true∧r=.error (2,hdA ks))∨((hdK ks).isBad=false∧bindR (FilR 20) (fnR endF) ⟨ks,0,[]⟩ r)
structure Ms where
 ks:List Tk
 made:Nat
 out:List Nd
 st:List (Int×Nat)
 want:Bool
def failF {α:Type} (c:Int) (ks:List Tk):PR α:=.error (if(hdK ks).isBad=true then 2 else c,hdA ks)
def drainF (all:Bool):List (Int×Nat)→List Nd→List (Int×Nat)×List Nd
 | [],out=>([],out)
 |(k,l)::st,out=>if k=1∨(all=true∧k=2)then drainF all st (out++ [leafN (if k=2 then 15 else 14)])else((k,l)::st,out)
def openF:List (Int×Nat)→Nat
 | []=>0
 |(k,_)::st=>openF st+if 2<k then 1 else 0
def upM (k:Int) (strs:Bool) (a:TkK) (ks:List Tk):PR (List Tk×Nd):=
 if(hdK ks).isSort strs=true then
  (if less a.txt (hdK ks).txt∨a.nm<(hdK ks).nm then .ok (ks.tail,⟨k,a.txt,true,(hdK ks).txt,a.nm,(hdK ks).nm,0⟩)else failF 7 ks)
 else .ok (ks,⟨k,a.txt,false,noS,a.nm,0,0⟩)
def dotsM (k:Int) (strs:Bool) (a:TkK) (ks:List Tk):PR (List Tk×Nd):=if(hdK ks).isSign 46=true then upM k strs a ks.tail else failF 3 ks
def rangeM (k:Int) (strs:Bool) (ks:List Tk):PR (List Tk×Nd):=if(hdK ks).isSort strs=true then dotsM k strs (hdK ks) ks.tail else dotsM k strs .fin ks
def argsM (k:Int) (ks:List Tk):PR (List Tk×Nd):=
 if k≤3 then .ok (ks,leafN k)
 else if k≤7 then(match hdK ks with
  | .str s=>if(checkM (sb s)).1=0 then .ok (ks.tail,patN k s)else failF 6 ks
  |_=>failF 3 ks)
 else if k≤9 then rangeM k true ks
 else if k≤10 then rangeM k false ks
 else(match hdK ks with
  | .num n=>if 1≤n∧n≤1000 then .ok (ks.tail,cntN k n)else failF 8 ks
  |_=>failF 3 ks)
abbrev Mr:=Ms ⊕ PR (List Nd)
def stepIf (m:Ms):Mr:=
 if m.made<200 then
  (if(hdK m.ks.tail).isSign 40=true then
   (if openF m.st=20 then .inr (.error (4,hdA m.ks.tail))else .inl {m with ks:=m.ks.tail.tail,made:=m.made+1,st:=(4,2)::m.st})
  else .inr (failF 3 m.ks.tail))
 else .inr (.error (5,hdA m.ks))
def stepLeaf (k:Int) (m:Ms):Mr:=
 if m.made<200 then(match argsM k m.ks.tail with
  | .error e=>.inr (.error e)
  | .ok (ks,n)=>.inl {m with ks:=ks,made:=m.made+1,out:=m.out++ [n],want:=false})
 else .inr (.error (5,hdA m.ks))
def stepWant (m:Ms):Mr:=match hdK m.ks with
 | .word k=>if k=16 then stepIf m else stepLeaf k m
 |t=>if t.isSign 40=true then(if openF m.st=20 then .inr (.error (4,hdA m.ks))else .inl {m with ks:=m.ks.tail,st:=(3,0)::m.st})else .inr (.error (3,hdA m.ks))
def stepOp (all:Bool) (k:Int) (m:Ms):Mr:=
 if m.made<200 then .inl ⟨m.ks.tail,m.made+1,(drainF all m.st m.out).2,(k,0)::(drainF all m.st m.out).1,true⟩else .inr (.error (5,hdA m.ks))
def stepClose (m:Ms) (st:List (Int×Nat)) (out:List Nd):Mr:=match st with
 | []=>if(hdK m.ks).isFin=true then .inr (.ok out)else .inr (.error (3,hdA m.ks))
 |(k,l)::st2=>
  if k=4∧0<l∧(hdK m.ks).isSign 44=true then .inl ⟨m.ks.tail,m.made,out,(k,l-1)::st2,true⟩
  else if l=0∧(hdK m.ks).isSign 41=true then .inl ⟨m.ks.tail,m.made,if k=4 then out++ [leafN 16]else out,st2,false⟩
  else .inr (.error (3,hdA m.ks))
def mStep (m:Ms):Mr:=
 if(hdK m.ks).isBad=true then .inr (.error (2,hdA m.ks))
 else if m.want=true then stepWant m
 else if(hdK m.ks).isSign 62=true then stepOp false 1 m
 else if(hdK m.ks).isSign 124=true then stepOp true 2 m
 else stepClose m (drainF true m.st m.out).1 (drainF true m.st m.out).2
inductive MEnds:Ms→PR (List Nd)→Prop
 |fin {m:Ms} {r:PR (List Nd)} (h:mStep m=.inr r):MEnds m r
 |step {m m':Ms} {r:PR (List Nd)} (h:mStep m=.inl m') (k:MEnds m' r):MEnds m r
theorem MEnds.one {m:Ms} {r r':PR (List Nd)} (h:MEnds m r) (k:MEnds m r'):r=r':=by
 induction h with
 |fin h=>cases k with
  |fin k=>exact Sum.inr.inj (h.symm.trans k)
  |step k _=>rw[h]at k;cases k
 |step h _ ih=>cases k with
  |fin k=>rw[h]at k;cases k
  |step k k2=>obtain rfl:=Sum.inl.inj (h.symm.trans k);exact ih k2
theorem MEnds.bad {m:Ms} (h:(hdK m.ks).isBad=true):MEnds m (.error (2,hdA m.ks)):=.fin (by unfold mStep;rw[if_pos h])
theorem TkK.isSign_eq {t:TkK} {b:UInt8} (h:t.isSign b=true):t=.sign b:=by
 cases t<;>simp[TkK.isSign]at h
 rw[h]
theorem drainF_cons (all:Bool) (k:Int) (l:Nat) (st:List (Int×Nat)) (out:List Nd):drainF all ((k,l)::st) out=if k=1∨(all=true∧k=2)then drainF all st (out++ [leafN (if k=2 then 15 else 14)])else((k,l)::st,out):=by conv=>lhs;unfold drainF
theorem drain_false_true:∀(st:List (Int×Nat)) (out:List Nd),drainF true (drainF false st out).1 (drainF false st out).2=drainF true st out
 | [],out=>rfl
 |(k,l)::st,out=>by
  rw[drainF_cons false]
  by_cases h:k=1
  ·subst h;simp only[true_or,if_true];rw[drain_false_true st,drainF_cons true];simp only[true_or,if_true]
  ·rw[if_neg (by simp[h])]
def TopNo (all:Bool):List (Int×Nat)→Prop
 | []=>True
 |(k,_)::_=>¬(k=1∨(all=true∧k=2))
theorem TopNo.drain {all:Bool}:∀{st:List (Int×Nat)} {out:List Nd},TopNo all st→drainF all st out=(st,out)
 | [],out,_=>rfl
 |(k,l)::st,out,h=>by unfold drainF;rw[if_neg h]
abbrev mOf (s:Ps) (st:List (Int×Nat)) (out:List Nd) (want:Bool):Ms:=⟨s.ks,s.made,out,st,want⟩
def Sim (lazy:Option Bool) (A:Ps→PR Ps→Prop) (st:List (Int×Nat)) (s:Ps) (m:Ms):Prop:=∀r,A s r→match r with
 | .error e=>MEnds m (.error e)
 | .ok s1=>(hdK s1.ks).isBad=false∧(match lazy with
   |none=>∀R,MEnds (mOf s1 st s1.out false) R→MEnds m R
   |some all=>(hdK s1.ks).isSign 62=false∧(all=true→(hdK s1.ks).isSign 124=false)∧∀R,(∀st2 out2,drainF all st2 out2=(st,s1.out)→MEnds (mOf s1 st2 out2 false) R)→MEnds m R)
theorem take_cases (ks:List Tk):((hdK ks.tail).isBad=true∧takeF ks=.error (2,hdA ks.tail))∨((hdK ks.tail).isBad=false∧takeF ks=.ok ks.tail):=by
 unfold takeF
 cases h:(hdK ks.tail).isBad
 ·exact .inr ⟨rfl,by simp⟩
 ·exact .inl ⟨rfl,by simp⟩
theorem failF_ok {α:Type} {c:Int} {ks:List Tk} (h:(hdK ks).isBad=false):(failF c ks:PR α)=.error (c,hdA ks):=by unfold failF;simp[h]
theorem failF_bad {α:Type} {c:Int} {ks:List Tk} (h:(hdK ks).isBad=true):(failF c ks:PR α)=.error (2,hdA ks):=by unfold failF;simp[h]
theorem bad_sign {t:TkK} (h:t.isBad=true) (b:UInt8):t.isSign b=false:=by cases t<;>simp[TkK.isBad]at h;rfl
theorem bad_sort {t:TkK} (h:t.isBad=true) (b:Bool):t.isSort b=false:=by cases t<;>simp[TkK.isBad]at h;rfl
def ArgSame (A:PR (List Tk×Nd)) (B:PR (List Tk×Nd)):Prop:=match A with
 | .error e=>B=.error e∨∃ks n,B=.ok (ks,n)∧(hdK ks).isBad=true∧e=(2,hdA ks)
 | .ok (ks,n)=>B=.ok (ks,n)∧(hdK ks).isBad=false
theorem argSame_take {ks:List Tk} {n:Nd}:ArgSame (match takeF ks with
  | .error e=>.error e
  | .ok k2=>.ok (k2,n)) (.ok (ks.tail,n)):=by
 rcases take_cases ks with⟨h,q⟩|⟨h,q⟩
 ·rw[q];exact .inr ⟨_,_,rfl,h,rfl⟩
 ·rw[q];exact⟨rfl,h⟩
theorem argSame_fail {ks:List Tk} (h:(hdK ks).isBad=false) (c:Int):ArgSame (.error (c,hdA ks)) (failF c ks):=.inl (failF_ok h)
theorem up_same (k:Int) (strs:Bool) (a:TkK) (ks:List Tk) (h:(hdK ks).isBad=false):ArgSame (upF k strs a ks) (upM k strs a ks):=by
 unfold upF upM
 split
 ·split
  ·exact argSame_take
  ·exact argSame_fail h 7
 ·exact⟨rfl,h⟩
theorem up_bad (k:Int) (strs:Bool) (a:TkK) (ks:List Tk) (h:(hdK ks).isBad=true):∃n,upM k strs a ks=.ok (ks,n):=by
 unfold upM
 rw[if_neg (by rw[bad_sort h];simp)]
 exact⟨_,rfl⟩
theorem dots_same (k:Int) (strs:Bool) (a:TkK) (ks:List Tk) (h:(hdK ks).isBad=false):ArgSame (dotsF k strs a ks) (dotsM k strs a ks):=by
 unfold dotsF dotsM expectF
 by_cases hs:(hdK ks).isSign 46=true
 ·rw[if_pos hs,if_pos hs]
  rcases take_cases ks with⟨hb,q⟩|⟨hb,q⟩
  ·rw[q]
   obtain⟨n,hn⟩:=up_bad k strs a ks.tail hb
   exact .inr ⟨_,_,hn,hb,rfl⟩
  ·rw[q]
   exact up_same k strs a _ hb
 ·rw[if_neg hs,if_neg hs]
  exact argSame_fail h 3
theorem range_same (k:Int) (strs:Bool) (ks:List Tk) (h:(hdK ks).isBad=false):ArgSame (rangeF k strs ks) (rangeM k strs ks):=by
 unfold rangeF rangeM
 by_cases hs:(hdK ks).isSort strs=true
 ·rw[if_pos hs,if_pos hs]
  rcases take_cases ks with⟨hb,q⟩|⟨hb,q⟩
  ·rw[q]
   refine .inl ?_
   unfold dotsM
   rw[if_neg (by rw[bad_sign hb];simp)]
   exact failF_bad hb
  ·rw[q]
   exact dots_same k strs _ _ hb
 ·rw[if_neg hs,if_neg hs]
  exact dots_same k strs _ _ h
theorem args_same (k:Int) (ks:List Tk) (h:(hdK ks).isBad=false):ArgSame (argsF k ks) (argsM k ks):=by
 unfold argsF argsM
 split
 ·exact⟨rfl,h⟩
 ·split
  ·split
   ·split
    ·exact argSame_take
    ·exact argSame_fail h 6
   ·exact argSame_fail h 3
  ·split
   ·exact range_same k true ks h
   ·split
    ·exact range_same k false ks h
    ·split
     ·split
      ·exact argSame_take
      ·exact argSame_fail h 8
     ·exact argSame_fail h 3
theorem args_bad (k:Int) (ks:List Tk) (h:(hdK ks).isBad=true):argsM k ks=.error (2,hdA ks)∨∃n,argsM k ks=.ok (ks,n):=by
 have hd:∀strs a,dotsM k strs a ks=.error (2,hdA ks):=fun strs a=>by
  unfold dotsM
  rw[if_neg (by rw[bad_sign h];simp)]
  exact failF_bad h
 have hr:∀strs,rangeM k strs ks=.error (2,hdA ks):=fun strs=>by
  unfold rangeM
  rw[if_neg (by rw[bad_sort h];simp)]
  exact hd _ _
 obtain⟨t,ht⟩:=qE (hdK ks)
 unfold argsM
 rw[←ht]
 split
 ·exact .inr ⟨_,rfl⟩
 ·split
  ·split
   ·rw[←ht]at h;cases h
   ·exact .inl (failF_bad h)
  ·split
   ·exact .inl (hr _)
   ·split
    ·exact .inl (hr _)
    ·split
     ·rw[←ht]at h;cases h
     ·exact .inl (failF_bad h)
theorem mStep_want {s:Ps} {st:List (Int×Nat)} {out:List Nd} (hb:(hdK s.ks).isBad=false):mStep (mOf s st out Bool.true)=stepWant (mOf s st out Bool.true):=by
 unfold mStep
 rw[if_neg (by show¬(hdK s.ks).isBad=true;rw[hb];simp),if_pos rfl]
theorem prim_sim {F:Ps→PR Ps→Prop} {d:Nat} {st:List (Int×Nat)} (ho:openF st+d=20)
  (HF:0<d→∀k l s,2<k→(hdK s.ks).isBad=false→Sim (some true) F ((k,l)::st) s (mOf s ((k,l)::st) s.out true)):
  ∀s,(hdK s.ks).isBad=false→Sim none (PrimR F d) st s (mOf s st s.out true):=by
 have enter:∀(s:Ps) (k:Int) (l:Nat),2<k→(hdK s.ks).isBad=false→(hdK s.ks).isSign 40=true→¬d=0→∀(B:Ps→PR Ps→Prop) (m:Ms) (r:PR Ps),(∀R,MEnds ⟨s.ks.tail,s.made,s.out,(k,l)::st,true⟩ R→MEnds m R)→
   bindR (fnR (enterF d)) (bindR F B) s r→(∀s1,(hdK s1.ks).isBad=false→(hdK s1.ks).isSign 62=false→(hdK s1.ks).isSign 124=false→(∀R,(∀st2 out2,drainF true st2 out2=((k,l)::st,s1.out)→MEnds (mOf s1 st2 out2 false) R)→MEnds m R)→B s1 r→(match r with
    | .error e=>MEnds m (.error e)
    | .ok s2=>(hdK s2.ks).isBad=false∧∀R,MEnds (mOf s2 st s2.out false) R→MEnds m R))→(match r with
    | .error e=>MEnds m (.error e)
    | .ok s2=>(hdK s2.ks).isBad=false∧∀R,MEnds (mOf s2 st s2.out false) R→MEnds m R):=by
  intro s k l hk hb hs hd B m r hm hr hB
  rcases hr with⟨e,h,rfl⟩|⟨s1,h,hr⟩
  ·have h':Except.error e=enterF d s:=h
   unfold enterF at h'
   rw[if_pos hs,if_neg hd]at h'
   rcases take_cases s.ks with⟨hb2,q⟩|⟨hb2,q⟩
   ·rw[q]at h'
    cases h'
    exact hm _ (MEnds.bad hb2)
   ·rw[q]at h';cases h'
  ·have h':Except.ok s1=enterF d s:=h
   unfold enterF at h'
   rw[if_pos hs,if_neg hd]at h'
   rcases take_cases s.ks with⟨hb2,q⟩|⟨hb2,q⟩
   ·rw[q]at h';cases h'
   ·rw[q]at h'
    cases h'
    have hF:=HF (by omega) k l {s with ks:=s.ks.tail} hk hb2
    rcases hr with⟨e,h,rfl⟩|⟨s1,h,hr⟩
    ·exact hm _ (hF _ h)
    ·obtain⟨h1,h2,h3,h4⟩:=hF _ h
     exact hB s1 h1 h2 (h3 rfl) (fun R hR=>hm _ (h4 R hR)) hr
 have dead:∀(s:Ps),(hdK s.ks).isSign 40=true→d=0→enterF d s=.error (4,hdA s.ks):=fun s hs hd=>by unfold enterF;rw[if_pos hs,if_pos hd]
 have hop:d=0→openF st=20:=fun h=>by omega
 have hon:¬d=0→¬openF st=20:=fun h=>by omega
 have close:∀(k:Int) (l:Nat) (s1:Ps) (st2:List (Int×Nat)) (out2:List Nd),(hdK s1.ks).isBad=false→(hdK s1.ks).isSign 62=false→(hdK s1.ks).isSign 124=false→drainF true st2 out2=((k,l)::st,s1.out)→mStep (mOf s1 st2 out2 false)=stepClose (mOf s1 st2 out2 false) ((k,l)::st) s1.out:=by
  intro k l s1 st2 out2 h1 h2 h3 hd
  unfold mStep
  rw[if_neg (by show¬(hdK s1.ks).isBad=true;rw[h1];simp),if_neg (by simp),if_neg (by show¬(hdK s1.ks).isSign 62=true;rw[h2];simp),if_neg (by show¬(hdK s1.ks).isSign 124=true;rw[h3];simp)]
  show stepClose _ (drainF true st2 out2).1 (drainF true st2 out2).2=_
  rw[hd]
 intro s hb r hr
 rcases hr with⟨hs,hr⟩|⟨hw,hr⟩|⟨k,hw,hk,hr⟩|⟨hs,hw,rfl⟩
 ·
  have hstep:mStep (mOf s st s.out true)=if openF st=20 then .inr (.error (4,hdA s.ks))else .inl ⟨s.ks.tail,s.made,s.out,(3,0)::st,true⟩:=by
   rw[mStep_want hb]
   unfold stepWant
   show(match hdK s.ks with
    | .word k=>_
    |t=>_)=_
   rw[TkK.isSign_eq hs]
   rfl
  by_cases hd:d=0
  ·rcases hr with⟨e,h,rfl⟩|⟨s1,h,hr⟩
   ·have h':Except.error e=enterF d s:=h
    rw[dead s hs hd]at h'
    cases h'
    exact .fin (by rw[hstep,if_pos (hop hd)])
   ·have h':Except.ok s1=enterF d s:=h
    rw[dead s hs hd]at h'
    cases h'
  ·rw[if_neg (hon hd)]at hstep
   refine enter s 3 0 (by omega) hb hs hd _ _ r (fun R hR=>.step hstep hR) hr ?_
   intro s1 h1 h2 h3 h4 hB
   have hB':r=leaveF s1:=hB
   unfold leaveF expectF at hB'
   by_cases h41:(hdK s1.ks).isSign 41=true
   ·rw[if_pos h41]at hB'
    have hc:∀st2 out2,drainF true st2 out2=((3,0)::st,s1.out)→mStep (mOf s1 st2 out2 false)=.inl ⟨s1.ks.tail,s1.made,s1.out,st,false⟩:=fun st2 out2 hq=>by
     rw[close 3 0 s1 st2 out2 h1 h2 h3 hq]
     unfold stepClose
     simp[h41]
    rcases take_cases s1.ks with⟨hb2,q⟩|⟨hb2,q⟩
    ·rw[q]at hB'
     subst hB'
     exact h4 _ (fun st2 out2 hq=>.step (hc st2 out2 hq) (MEnds.bad hb2))
    ·rw[q]at hB'
     subst hB'
     exact⟨hb2,fun R hR=>h4 _ (fun st2 out2 hq=>.step (hc st2 out2 hq) hR)⟩
   ·rw[if_neg h41]at hB'
    subst hB'
    refine h4 _ (fun st2 out2 hq=>.fin ?_)
    rw[close 3 0 s1 st2 out2 h1 h2 h3 hq]
    unfold stepClose
    simp[h41]
 ·
  have hstep:mStep (mOf s st s.out true)=stepIf (mOf s st s.out true):=by
   rw[mStep_want hb]
   unfold stepWant
   show(match hdK s.ks with
    | .word k=>_
    |t=>_)=_
   rw[hw]
   rfl
  unfold stepIf at hstep
  by_cases hm:s.made<200
  ·rw[if_pos (show(mOf s st s.out true).made<200 from hm)]at hstep
   have hmk:makerF s=Ps.to {s with made:=s.made+1} (takeF s.ks):=by unfold makerF;rw[if_pos hm]
   rcases hr with⟨e,h,rfl⟩|⟨s1,h,hr⟩
   ·have h':Except.error e=makerF s:=h
    rw[hmk]at h'
    rcases take_cases s.ks with⟨hb2,q⟩|⟨hb2,q⟩
    ·rw[q]at h'
     cases h'
     refine .fin ?_
     rw[hstep,if_neg (by show¬(hdK s.ks.tail).isSign 40=true;rw[bad_sign hb2];simp)]
     show Sum.inr (failF 3 s.ks.tail)=_
     rw[failF_bad hb2]
    ·rw[q]at h';cases h'
   ·have h':Except.ok s1=makerF s:=h
    rw[hmk]at h'
    rcases take_cases s.ks with⟨hb2,q⟩|⟨hb2,q⟩
    ·rw[q]at h';cases h'
    rw[q]at h'
    cases h'
    have hr2:bindR (fnR (enterF d)) (bindR F (fun s r=>bindR (bindR (fnR commaF) (bindR F (bindR (fnR commaF) (bindR F (fnR leaveF))))) (fnR fun s=>.ok (s.add (leafN 16))) s r)) {ks:=s.ks.tail,made:=s.made+1,out:=s.out} r:=by
     rcases hr with⟨e,h,rfl⟩|⟨s1,h,hr⟩
     ·rcases h with⟨e,h,h2⟩|⟨s2,h,h2⟩
      ·cases h2;exact .inl ⟨_,h,rfl⟩
      ·rcases h2 with⟨e,h2,h3⟩|⟨s3,h2,h3⟩
       ·cases h3;exact .inr ⟨_,h,.inl ⟨_,h2,rfl⟩⟩
       ·exact .inr ⟨_,h,.inr ⟨_,h2,.inl ⟨_,h3,rfl⟩⟩⟩
     ·rcases h with⟨e,h,h2⟩|⟨s2,h,h2⟩
      ·cases h2
      ·rcases h2 with⟨e,h2,h3⟩|⟨s3,h2,h3⟩
       ·cases h3
       ·exact .inr ⟨_,h,.inr ⟨_,h2,.inr ⟨_,h3,hr⟩⟩⟩
    clear hr
    by_cases hs:(hdK s.ks.tail).isSign 40=true
    ·rw[if_pos (show(hdK (mOf s st s.out true).ks.tail).isSign 40=true from hs)]at hstep
     by_cases hd:d=0
     ·rw[if_pos (show openF (mOf s st s.out true).st=20 from hop hd)]at hstep
      rcases hr2 with⟨e,h,rfl⟩|⟨s1,h,hr⟩
      ·have h':Except.error e=enterF d _:=h
       rw[dead _ hs hd]at h'
       cases h'
       exact .fin hstep
      ·have h':Except.ok s1=enterF d _:=h
       rw[dead _ hs hd]at h'
       cases h'
     ·rw[if_neg (show¬openF (mOf s st s.out true).st=20 from hon hd)]at hstep
      refine enter {ks:=s.ks.tail,made:=s.made+1,out:=s.out} 4 2 (by omega) hb2 hs hd _ _ r (fun R hR=>.step hstep hR) hr2 ?_
      have comma:∀(l:Nat) (s1:Ps) (m:Ms) (B:Ps→PR Ps→Prop) (r:PR Ps),(hdK s1.ks).isBad=false→(hdK s1.ks).isSign 62=false→(hdK s1.ks).isSign 124=false→(∀R,(∀st2 out2,drainF true st2 out2=((4,l+1)::st,s1.out)→MEnds (mOf s1 st2 out2 false) R)→MEnds m R)→
        bindR (fnR commaF) (bindR F B) s1 r→(∀s2,(hdK s2.ks).isBad=false→(hdK s2.ks).isSign 62=false→(hdK s2.ks).isSign 124=false→(∀R,(∀st2 out2,drainF true st2 out2=((4,l)::st,s2.out)→MEnds (mOf s2 st2 out2 false) R)→MEnds m R)→B s2 r→(match r with
         | .error e=>MEnds m (.error e)
         | .ok s2=>(hdK s2.ks).isBad=false∧∀R,MEnds (mOf s2 st (s2.out++ [leafN 16]) false) R→MEnds m R))→(match r with
         | .error e=>MEnds m (.error e)
         | .ok s2=>(hdK s2.ks).isBad=false∧∀R,MEnds (mOf s2 st (s2.out++ [leafN 16]) false) R→MEnds m R):=by
       intro l s1 m B r h1 h2 h3 h4 hB hnext
       by_cases h44:(hdK s1.ks).isSign 44=true
       ·have hc:∀st2 out2,drainF true st2 out2=((4,l+1)::st,s1.out)→mStep (mOf s1 st2 out2 false)=.inl ⟨s1.ks.tail,s1.made,s1.out,(4,l)::st,true⟩:=fun st2 out2 hq=>by
         rw[close 4 (l+1) s1 st2 out2 h1 h2 h3 hq]
         unfold stepClose
         simp[h44]
        have hcf:commaF s1=s1.to (takeF s1.ks):=by unfold commaF expectF;rw[if_pos h44]
        rcases take_cases s1.ks with⟨hb2,q⟩|⟨hb2,q⟩
        ·rw[q]at hcf
         rcases hB with⟨e,h,rfl⟩|⟨s2,h,hB⟩
         ·have h':Except.error e=commaF s1:=h
          rw[hcf]at h'
          cases h'
          exact h4 _ (fun st2 out2 hq=>.step (hc st2 out2 hq) (MEnds.bad hb2))
         ·have h':Except.ok s2=commaF s1:=h
          rw[hcf]at h'
          cases h'
        ·rw[q]at hcf
         rcases hB with⟨e,h,rfl⟩|⟨s2,h,hB⟩
         ·have h':Except.error e=commaF s1:=h
          rw[hcf]at h'
          cases h'
         ·have h':Except.ok s2=commaF s1:=h
          rw[hcf]at h'
          cases h'
          have hF:=HF (by omega) 4 l {s1 with ks:=s1.ks.tail} (by omega) hb2
          rcases hB with⟨e,h,rfl⟩|⟨s3,h,hB⟩
          ·exact h4 _ (fun st2 out2 hq=>.step (hc st2 out2 hq) (hF _ h))
          ·obtain⟨g1,g2,g3,g4⟩:=hF _ h
           exact hnext s3 g1 g2 (g3 rfl) (fun R hR=>h4 _ (fun st2 out2 hq=>.step (hc st2 out2 hq) (g4 R hR))) hB
       ·have hcf:commaF s1=.error (3,hdA s1.ks):=by unfold commaF expectF;rw[if_neg h44];rfl
        rcases hB with⟨e,h,rfl⟩|⟨s2,h,hB⟩
        ·have h':Except.error e=commaF s1:=h
         rw[hcf]at h'
         cases h'
         refine h4 _ (fun st2 out2 hq=>.fin ?_)
         rw[close 4 (l+1) s1 st2 out2 h1 h2 h3 hq]
         unfold stepClose
         simp[h44]
        ·have h':Except.ok s2=commaF s1:=h
         rw[hcf]at h'
         cases h'
      intro s1 h1 h2 h3 h4 hB
      obtain⟨r9,h9⟩:∃r9:PR Ps,bindR (fnR commaF) (bindR F (bindR (fnR commaF) (bindR F (fnR leaveF)))) s1 r9∧r=(match r9 with
        | .error e=>.error e
        | .ok s=>.ok (s.add (leafN 16))):=by
       rcases hB with⟨e,h,rfl⟩|⟨s2,h,hB⟩
       ·exact⟨_,h,rfl⟩
       ·exact⟨_,h,hB⟩
      have key:=comma 1 s1 (mOf s st s.out true) _ r9 h1 h2 h3 h4 h9.1 (fun s2 g1 g2 g3 g4 hB2=>comma 0 s2 (mOf s st s.out true) _ r9 g1 g2 g3 g4 hB2 (fun s3 f1 f2 f3 f4 hB3=>by
       have hB':r9=leaveF s3:=hB3
       unfold leaveF expectF at hB'
       by_cases h41:(hdK s3.ks).isSign 41=true
       ·rw[if_pos h41]at hB'
        have hn44:(hdK s3.ks).isSign 44=false:=by rw[TkK.isSign_eq h41];rfl
        have hc:∀st2 out2,drainF true st2 out2=((4,0)::st,s3.out)→mStep (mOf s3 st2 out2 false)=.inl ⟨s3.ks.tail,s3.made,s3.out++ [leafN 16],st,false⟩:=fun st2 out2 hq=>by
         rw[close 4 0 s3 st2 out2 f1 f2 f3 hq]
         unfold stepClose
         simp[h41]
        rcases take_cases s3.ks with⟨hb2,q⟩|⟨hb2,q⟩
        ·rw[q]at hB'
         subst hB'
         exact f4 _ (fun st2 out2 hq=>.step (hc st2 out2 hq) (MEnds.bad hb2))
        ·rw[q]at hB'
         subst hB'
         exact⟨hb2,fun R hR=>f4 _ (fun st2 out2 hq=>.step (hc st2 out2 hq) hR)⟩
       ·rw[if_neg h41]at hB'
        subst hB'
        refine f4 _ (fun st2 out2 hq=>.fin ?_)
        rw[close 4 0 s3 st2 out2 f1 f2 f3 hq]
        unfold stepClose
        simp[h41]))
      rw[h9.2]
      cases r9 with
      |error e=>exact key
      |ok s9=>exact key
    ·rw[if_neg (show¬(hdK (mOf s st s.out true).ks.tail).isSign 40=true from hs)]at hstep
     have hde:enterF d {ks:=s.ks.tail,made:=s.made+1,out:=s.out}=.error (3,hdA s.ks.tail):=by unfold enterF;rw[if_neg hs]
     rcases hr2 with⟨e,h,rfl⟩|⟨s1,h,hr⟩
     ·have h':Except.error e=enterF d _:=h
      rw[hde]at h'
      cases h'
      refine .fin ?_
      rw[hstep]
      show Sum.inr (failF 3 s.ks.tail)=_
      rw[failF_ok hb2]
     ·have h':Except.ok s1=enterF d _:=h
      rw[hde]at h'
      cases h'
  ·rw[if_neg (show¬(mOf s st s.out true).made<200 from hm)]at hstep
   have hmk:makerF s=.error (5,hdA s.ks):=by unfold makerF;rw[if_neg hm]
   rcases hr with⟨e,h,rfl⟩|⟨s1,h,hr⟩
   ·have h':Except.error e=makerF s:=h
    rw[hmk]at h'
    cases h'
    exact .fin hstep
   ·have h':Except.ok s1=makerF s:=h
    rw[hmk]at h'
    cases h'
 ·
  have hstep:mStep (mOf s st s.out true)=stepLeaf k (mOf s st s.out true):=by
   rw[mStep_want hb]
   unfold stepWant
   show(match hdK s.ks with
    | .word k=>_
    |t=>_)=_
   rw[hw]
   exact if_neg hk
  unfold stepLeaf at hstep
  by_cases hm:s.made<200
  ·rw[if_pos (show(mOf s st s.out true).made<200 from hm)]at hstep
   have hmk:makerF s=Ps.to {s with made:=s.made+1} (takeF s.ks):=by unfold makerF;rw[if_pos hm]
   rcases hr with⟨e,h,rfl⟩|⟨s1,h,hr⟩
   ·have h':Except.error e=makerF s:=h
    rw[hmk]at h'
    rcases take_cases s.ks with⟨hb2,q⟩|⟨hb2,q⟩
    ·rw[q]at h'
     cases h'
     rcases args_bad k s.ks.tail hb2 with q2|⟨n,q2⟩
     ·refine .fin ?_
      rw[hstep]
      show(match argsM k s.ks.tail with
       | .error e=>_
       | .ok (ks,n)=>_)=_
      rw[q2]
     ·refine .step (m':=⟨s.ks.tail,s.made+1,s.out++ [n],st,false⟩) ?_ (MEnds.bad hb2)
      rw[hstep]
      show(match argsM k s.ks.tail with
       | .error e=>_
       | .ok (ks,n)=>_)=_
      rw[q2]
    ·rw[q]at h';cases h'
   ·have h':Except.ok s1=makerF s:=h
    rw[hmk]at h'
    rcases take_cases s.ks with⟨hb2,q⟩|⟨hb2,q⟩
    ·rw[q]at h';cases h'
    rw[q]at h'
    cases h'
    have hr':r=argF k {ks:=s.ks.tail,made:=s.made+1,out:=s.out}:=hr
    have hA:=args_same k s.ks.tail hb2
    unfold argF at hr'
    have hst:mStep (mOf s st s.out true)=(match argsM k s.ks.tail with
     | .error e=>.inr (.error e)
     | .ok (ks,n)=>.inl ⟨ks,s.made+1,s.out++ [n],st,false⟩):=hstep
    cases hq:argsF k s.ks.tail with
    |error e=>
     rw[hq]at hA
     have hr2:r=.error e:=by rw[hr'];show(match argsF k s.ks.tail with
      | .error e=>_
      | .ok (ks,n)=>_)=_
                             rw[hq]
     subst hr2
     rcases hA with q2|⟨ks,n,q2,hbb,rfl⟩
     ·exact .fin (by rw[hst,q2])
     ·exact .step (m':=⟨ks,s.made+1,s.out++ [n],st,false⟩) (by rw[hst,q2]) (MEnds.bad hbb)
    |ok p=>
     obtain⟨ks,n⟩:=p
     rw[hq]at hA
     have hr2:r=.ok ⟨ks,s.made+1,s.out++ [n]⟩:=by rw[hr'];show(match argsF k s.ks.tail with
      | .error e=>_
      | .ok (ks,n)=>_)=_
                                                  rw[hq]
     subst hr2
     exact⟨hA.2,fun R hR=>.step (m':=⟨ks,s.made+1,s.out++ [n],st,false⟩) (by rw[hst,hA.1]) hR⟩
  ·rw[if_neg (show¬(mOf s st s.out true).made<200 from hm)]at hstep
   have hmk:makerF s=.error (5,hdA s.ks):=by unfold makerF;rw[if_neg hm]
   rcases hr with⟨e,h,rfl⟩|⟨s1,h,hr⟩
   ·have h':Except.error e=makerF s:=h
    rw[hmk]at h'
    cases h'
    exact .fin hstep
   ·have h':Except.ok s1=makerF s:=h
    rw[hmk]at h'
    cases h'
 ·
  refine .fin ?_
  rw[mStep_want hb]
  unfold stepWant
  show(match hdK s.ks with
   | .word k=>_
   |t=>_)=_
  obtain⟨t,ht⟩:=qE (hdK s.ks)
  rw[←ht]at hs hw⊢
  cases t with
  |word k=>exact absurd rfl (hw k)
  |sign c=>show(if(TkK.sign c).isSign 40=true then _ else _)=_;rw[if_neg (by rw[hs];simp)]
  |num n=>rfl
  |str s=>rfl
  |fin=>rfl
  |bad=>rfl
theorem mStep_op {s:Ps} {st2:List (Int×Nat)} {out2:List Nd} (hb:(hdK s.ks).isBad=false):((hdK s.ks).isSign 62=true→mStep (mOf s st2 out2 Bool.false)=stepOp false 1 (mOf s st2 out2 Bool.false))∧((hdK s.ks).isSign 62=false→(hdK s.ks).isSign 124=true→mStep (mOf s st2 out2 Bool.false)=stepOp true 2 (mOf s st2 out2 Bool.false)):=by
 have h0:¬(hdK (mOf s st2 out2 Bool.false).ks).isBad=true:=by show¬(hdK s.ks).isBad=true;rw[hb];simp
 constructor
 ·intro h
  unfold mStep
  rw[if_neg h0,if_neg (by simp),if_pos h]
 ·intro h h2
  unfold mStep
  rw[if_neg h0,if_neg (by simp),if_neg (by show¬(hdK s.ks).isSign 62=true;rw[h];simp),if_pos h2]
theorem loop_sim (all:Bool) (sg:UInt8) (kd pk:Int) (low:Ps→Prop) {R:Ps→PR Ps→Prop} {st:List (Int×Nat)}
  (hstep:∀s st2 out2,(hdK s.ks).isBad=false→low s→(hdK s.ks).isSign sg=true→drainF all st2 out2=(st,s.out)→mStep (mOf s st2 out2 Bool.false)=if s.made<200 then .inl ⟨s.ks.tail,s.made+1,s.out,(pk,0)::st,true⟩else .inr (.error (5,hdA s.ks)))
  (hadd:∀s n,low s→low (s.add n))
  (HOp:∀s,(hdK s.ks).isBad=false→∀r,R s r→match r with
   | .error e=>MEnds (mOf s ((pk,0)::st) s.out Bool.true) (.error e)
   | .ok s2=>(hdK s2.ks).isBad=false∧low s2∧∀Q,(∀st2 out2,drainF all st2 out2=(st,s2.out++ [leafN kd])→MEnds (mOf s2 st2 out2 Bool.false) Q)→MEnds (mOf s ((pk,0)::st) s.out Bool.true) Q):
  ∀s r,LoopR sg kd R s r→(hdK s.ks).isBad=false→low s→match r with
   | .error e=>∀st2 out2,drainF all st2 out2=(st,s.out)→MEnds (mOf s st2 out2 Bool.false) (.error e)
   | .ok s1=>(hdK s1.ks).isBad=false∧(hdK s1.ks).isSign sg=false∧low s1∧∀Q,(∀st2 out2,drainF all st2 out2=(st,s1.out)→MEnds (mOf s1 st2 out2 Bool.false) Q)→∀st2 out2,drainF all st2 out2=(st,s.out)→MEnds (mOf s st2 out2 Bool.false) Q:=by
 intro s r h
 have mk:∀(s:Ps),makerF s=if s.made<200 then(if(hdK s.ks.tail).isBad=true then .error (2,hdA s.ks.tail)else .ok ⟨s.ks.tail,s.made+1,s.out⟩)else .error (5,hdA s.ks):=fun s=>by
  unfold makerF takeF
  split
  ·split<;>rfl
  ·rfl
 induction h with
 |stop h=>intro hb hl;exact⟨hb,h,hl,fun Q hQ st2 out2 hd=>hQ st2 out2 hd⟩
 | @e1 s e h h1=>
   intro hb hl st2 out2 hd
   have hs:=hstep s st2 out2 hb hl h hd
   rw[mk]at h1
   by_cases hm:s.made<200
   ·rw[if_pos hm]at hs h1
    by_cases hbb:(hdK s.ks.tail).isBad=true
    ·rw[if_pos hbb]at h1
     cases h1
     exact .step hs (MEnds.bad hbb)
    ·rw[if_neg hbb]at h1;cases h1
   ·rw[if_neg hm]at hs h1
    cases h1
    exact .fin hs
 | @e2 s s1 e h h1 h2=>
   intro hb hl st2 out2 hd
   have hs:=hstep s st2 out2 hb hl h hd
   rw[mk]at h1
   by_cases hm:s.made<200
   ·rw[if_pos hm]at hs h1
    by_cases hbb:(hdK s.ks.tail).isBad=true
    ·rw[if_pos hbb]at h1;cases h1
    ·rw[if_neg hbb]at h1
     cases h1
     exact .step hs (HOp _ (by simpa using hbb) _ h2)
   ·rw[if_neg hm]at h1;cases h1
 | @more s s1 s2 r h h1 h2 h3 ih=>
   intro hb hl
   rw[mk]at h1
   by_cases hm:s.made<200
   ·rw[if_pos hm]at h1
    by_cases hbb:(hdK s.ks.tail).isBad=true
    ·rw[if_pos hbb]at h1;cases h1
    ·rw[if_neg hbb]at h1
     cases h1
     obtain⟨g1,g2,g3⟩:=HOp _ (by simpa using hbb) _ h2
     have hi:=ih g1 (hadd _ _ g2)
     have hs:=fun st2 out2 hd=>hstep s st2 out2 hb hl h hd
     simp only[if_pos hm]at hs
     cases r with
     |error e=>exact fun st2 out2 hd=>.step (hs st2 out2 hd) (g3 _ (fun st3 out3 hd3=>hi st3 out3 hd3))
     |ok s9=>exact⟨hi.1,hi.2.1,hi.2.2.1,fun Q hQ st2 out2 hd=>.step (hs st2 out2 hd) (g3 _ (fun st3 out3 hd3=>hi.2.2.2 Q hQ st3 out3 hd3))⟩
   ·rw[if_neg hm]at h1;cases h1
theorem cha_sim {F:Ps→PR Ps→Prop} {d:Nat} {st:List (Int×Nat)} (hT:TopNo false st)
  (HP:∀st',(st'=st∨st'=(1,0)::st)→∀s,(hdK s.ks).isBad=false→Sim none (PrimR F d) st' s (mOf s st' s.out Bool.true)):
  ∀s,(hdK s.ks).isBad=false→Sim (some false) (ChaR F d) st s (mOf s st s.out Bool.true):=by
 have hL:=loop_sim false 62 14 1 (fun _=>True) (R:=PrimR F d) (st:=st) (fun s st2 out2 hb _ hsg hd=>by
  rw[(mStep_op hb).1 hsg]
  unfold stepOp
  show(if s.made<200 then _ else _)=_
  simp only[hd]) (fun _ _ _=>trivial) (fun s hb r hr=>by
   have h9:=HP _ (.inr rfl) s hb r hr
   cases r with
   |error e=>exact h9
   |ok s2=>exact⟨h9.1,trivial,fun Q hQ=>h9.2 Q (hQ _ _ (by rw[drainF_cons,if_pos (.inl rfl)];simp only[show¬((1:Int)=2)by omega,if_false];exact hT.drain))⟩)
 intro s hb r hr
 have hP:=HP st (.inl rfl) s hb
 rcases hr with⟨e,h,rfl⟩|⟨s1,h,hr⟩
 ·exact hP _ h
 ·obtain⟨h1,h2⟩:=hP _ h
  have h9:=hL s1 r hr h1 trivial
  cases r with
  |error e=>exact h2 _ (h9 st s1.out hT.drain)
  |ok s2=>exact⟨h9.1,h9.2.1,fun q=>(by cases q),fun Q hQ=>h2 _ (h9.2.2.2 Q hQ st s1.out hT.drain)⟩
theorem TopNo.weak {st:List (Int×Nat)} (h:TopNo true st):TopNo false st:=by
 cases st with
 |nil=>trivial
 |cons x st=>obtain⟨k,l⟩:=x;exact fun q=>h (q.elim .inl (fun z=>by cases z.1))
theorem join_sim {F:Ps→PR Ps→Prop} {d:Nat} {st:List (Int×Nat)} (hT:TopNo true st)
  (HP:∀st',openF st'=openF st→∀s,(hdK s.ks).isBad=false→Sim none (PrimR F d) st' s (mOf s st' s.out Bool.true)):
  ∀s,(hdK s.ks).isBad=false→Sim (some true) (JoinR 124 15 (ChaR F d)) st s (mOf s st s.out Bool.true):=by
 have o1:openF ((1,0)::st)=openF st:=by simp[openF]
 have o2:openF ((2,0)::st)=openF st:=by simp[openF]
 have o3:openF ((1,0)::(2,0)::st)=openF st:=by simp[openF]
 have hC1:=cha_sim hT.weak (fun st' q=>HP st' (by rcases q with rfl|rfl<;>first|rfl|exact o1))
 have hC2:=cha_sim (st:=(2,0)::st) (F:=F) (d:=d) (by intro q;rcases q with q|q<;>simp at q) (fun st' q=>HP st' (by rcases q with rfl|rfl<;>first|exact o2|exact o3))
 have hL:=loop_sim true 124 15 2 (fun s=>(hdK s.ks).isSign 62=false) (R:=ChaR F d) (st:=st) (fun s st2 out2 hb hl hsg hd=>by
  rw[(mStep_op hb).2 hl hsg]
  unfold stepOp
  show(if s.made<200 then _ else _)=_
  simp only[hd]) (fun _ _ h=>h) (fun s hb r hr=>by
   have h9:=hC2 s hb r hr
   cases r with
   |error e=>exact h9
   |ok s2=>exact⟨h9.1,h9.2.1,fun Q hQ=>h9.2.2.2 Q (fun st2 out2 hd=>hQ _ _ (by
     rw[←drain_false_true,hd]
     show drainF true ((2,0)::st) s2.out=_
     rw[drainF_cons,if_pos (.inr ⟨rfl,rfl⟩)]
     simp only[if_true]
     exact hT.drain))⟩)
 intro s hb r hr
 have hP:=hC1 s hb
 rcases hr with⟨e,h,rfl⟩|⟨s1,h,hr⟩
 ·exact hP _ h
 ·obtain⟨h1,h2,_,h3⟩:=hP _ h
  have h9:=hL s1 r hr h1 h2
  have hdr:∀st2 out2,drainF false st2 out2=(st,s1.out)→drainF true st2 out2=(st,s1.out):=fun st2 out2 hd=>by
   rw[←drain_false_true,hd]
   exact hT.drain
  cases r with
  |error e=>exact h3 _ (fun st2 out2 hd=>h9 st2 out2 (hdr _ _ hd))
  |ok s2=>exact⟨h9.1,h9.2.2.1,fun _=>h9.2.1,fun Q hQ=>h3 _ (fun st2 out2 hd=>h9.2.2.2 Q hQ st2 out2 (hdr _ _ hd))⟩
theorem fil_sim:∀(d:Nat) (st:List (Int×Nat)),openF st+d=20→TopNo true st→∀s,(hdK s.ks).isBad=false→Sim (some true) (FilR d) st s (mOf s st s.out Bool.true)
 |0,st,ho,hT=>join_sim hT (fun st' ho'=>prim_sim (by omega) (fun q=>by omega))
 |d+1,st,ho,hT=>join_sim hT (fun st' ho'=>prim_sim (by omega) (fun _ k l s hk hb=>fil_sim d ((k,l)::st') (by
   have:openF ((k,l)::st')=openF st'+1:=by simp[openF,hk]
   omega) (by intro q;rcases q with q|q<;>omega) s hb))
def outOf (r:PR Ps):PR (List Nd):=match r with
 | .error e=>.error e
 | .ok s=>.ok s.out
theorem par_same {ks:List Tk} {r:PR Ps} (h:ParR ks r):MEnds ⟨ks,0,[],[],true⟩ (outOf r):=by
 rcases h with⟨hb,rfl⟩|⟨hb,h⟩
 ·exact MEnds.bad hb
 ·have hF:=fil_sim 20 [] rfl trivial ⟨ks,0,[]⟩ hb
  rcases h with⟨e,h,rfl⟩|⟨s1,h,h2⟩
  ·exact hF _ h
  ·obtain⟨h1,h3,h4,h5⟩:=hF _ h
   have h2':r=endF s1:=h2
   subst h2'
   refine h5 _ (fun st2 out2 hd=>.fin ?_)
   unfold mStep
   rw[if_neg (by show¬(hdK s1.ks).isBad=true;rw[h1];simp),if_neg (by simp),if_neg (by show¬(hdK s1.ks).isSign 62=true;rw[h3];simp),if_neg (by show¬(hdK s1.ks).isSign 124=true;rw[h4 rfl];simp)]
   show stepClose _ (drainF true st2 out2).1 (drainF true st2 out2).2=_
   rw[hd]
   show(if(hdK s1.ks).isFin=true then _ else _)=_
   unfold endF
   split<;>rfl
end Go.Proofs.YtgnpcenpcmdlfaaGreatDoor
namespace Go.Proofs.YtgnpcenpcmdlfaaGreatDoor
open Go.ChangeShapes Go.WideShapes Go.ChangeAt Go.RowKit Go.Deep
set_option linter.unusedVariables false
set_option linter.unusedSimpArgs false
set_option maxRecDepth 100000
structure Win (w:World) (b off cap:Nat) (xs:List Nd):Prop where
 at_:NdsAt w b off xs
 lt:b<w.heap.size
 len:xs.length≤cap
 cap:cap≤9223372036854775807
 sm:xs.length≤281474976710656
theorem Win.kind {w:World} {b off cap:Nat} {xs:List Nd} (h:Win w b off cap xs) {i:Nat} {e:Nd} (he:xs[i]?=some e):w.cell? ⟨b,off+i*7,none⟩=some (.int .i64 e.kind):=(h.at_ i e he).1
def OwnV (w:World) (base g cp:Nat) (us:List Value):Prop:=w.ownsRow base 23 1 (.slice (some ⟨g,0,none⟩) us.length cp) us.length us
theorem OwnV.lt {w:World} {base g cp:Nat} {us:List Value} (h:OwnV w base g cp us):base≤g∧g<w.heap.size:=World.ownsRow.lt h g rfl
theorem OwnV.caps {w:World} {base g cp:Nat} {us:List Value} (h:OwnV w base g cp us):us.length≤cp∧cp≤maxLen:=by
 rcases h.2 with⟨h0,_⟩|⟨g',cap',cur,hv,_,_,hn,hcap,_,_⟩
 ·cases h0
 ·simp only[Value.slice.injEq,Option.some.injEq,Addr.mk.injEq,and_true,true_and]at hv
  obtain⟨rfl,rfl⟩:=hv
  exact⟨hn,hcap⟩
variable (G:Nd→Bool)
def InNds (w:World) (v:Value) (es:List Nd):Prop:=
 (∃a cap,v=.slice a 0 cap∧es= [])∨
 ∃b off cap,v=.slice (some ⟨b,off,none⟩) es.length cap∧NdsAt w b off es∧b<w.heap.size∧es.length≤cap∧cap≤maxLen
theorem InNds.below {B:Nat} {w w':World} {v:Value} {es:List Nd} (h:InNds w v es) (hb:Below B w w') (hB:w.heap.size≤B):InNds w' v es:=by
 rcases h with h|⟨b,off,cap,hv,hE,hlt,h1,h2⟩
 ·exact .inl h
 ·exact .inr ⟨b,off,cap,hv,hE.below hb (by omega),by have:=hb.size;omega,h1,h2⟩
set_option maxHeartbeats 1000000 in
theorem eqNodeS_same (b off cap b' off' cap':Nat) (es:List Nd) (w:World) (hE:NdsAt w b off es) (hE':NdsAt w b' off' es) (hB:b<w.heap.size) (hB':b'<w.heap.size) (hlen:es.length≤maxLen):
  Calls Tryz.prog 65 #[.slice (some ⟨b,off,none⟩) es.length cap,.slice (some ⟨b',off',none⟩) es.length cap'] w fun e w'=>
   e=.returned (.bool true)∧Below w.heap.size w w':=by
 have HE:Hid (NdsAt w b off es∧NdsAt w b' off' es):=⟨hE,hE'⟩
 clear hE hE'
 unfold maxLen at hlen
 go_enter Tryz.func65,Tryz.ntmps65
 go_wp2
 go_loopw[5] (fun i wr=>∃(k:Nat),k≤es.length∧i=.int .i64 k∧Below w.heap.size w wr) (fun i _=>es.length-(intOf i).toNat)
 case atStart=>exact⟨0,Nat.zero_le _,rfl,Below.refl _ _⟩
 case round=>
  obtain⟨k,hk,rfl,hb⟩:=hrel
  have hs2:=hb.size
  by_cases hlt:k<es.length
  ·obtain⟨e,he⟩:∃e,es[k]?=some e:=⟨_,List.getElem?_eq_getElem hlt⟩
   obtain⟨c0,c1,c2,c3,c4,c5,c6⟩:=HE.1.below hb hB k e he
   obtain⟨d0,d1,d2,d3,d4,d5,d6⟩:=HE.2.below hb hB' k e he
   clear he
   go_upto_region 6 with fail
   go_cut[26] (fun s wx=>s=.bool false∧Below w.heap.size w wx)
   case first=>
    have z2:(k:Int)<(es.length:Int):=by omega
    go_region_with (go_at_call 97;refine(eqNode_same e _).mono ?_;rintro e' w' ⟨rfl,hbb⟩)
    all_goals go_wp2_with fail
    all_goals go_meet
    all_goals exact⟨rfl,hb.drew.trans (hbb.mono (by simp;omega))⟩
   case rest=>
   obtain⟨rfl,h3⟩:=hcut
   clear c0 c1 c2 c3 c4 c5 c6 d0 d1 d2 d3 d4 d5 d6
   go_wp2_with fail
   go_roundw
   case rel=>exact⟨k+1,by omega,by go_num,h3⟩
   case measure=>simp[intOf];omega
  ·go_wp2_with fail
   go_ret
   exact⟨rfl,hb⟩
set_option maxHeartbeats 400000 in
theorem eqNodeS_zero (a a':Option Addr) (cap cap':Nat) (w:World):
  Calls Tryz.prog 65 #[.slice a 0 cap,.slice a' 0 cap'] w fun e w'=>e=.returned (.bool true)∧Below w.heap.size w w':=by
 go_enter Tryz.func65,Tryz.ntmps65
 go_wp2
 go_loopw[5] (fun i wr=>i=.int .i64 0∧Below w.heap.size w wr) (fun i _=>0)
 case atStart=>exact⟨rfl,Below.refl _ _⟩
 case round=>
  obtain⟨rfl,hb⟩:=hrel
  go_wp2_with fail
  go_ret
  exact⟨rfl,hb⟩
theorem InNds.own {w:World} {base g n cap:Nat} {es:List Nd} (h:OwnNd w base g cap es) (hn:n=es.length):InNds w (.slice (some ⟨g,0,none⟩) n cap) es:=by
 subst hn
 exact .inr ⟨g,0,cap,rfl,h.at,h.lt.2,h.caps.1,h.caps.2⟩
theorem eqNodeS_any (u u':Value) (es:List Nd) (w:World) (h:InNds w u es) (h':InNds w u' es):
  Calls Tryz.prog 65 #[u,u'] w fun e w'=>e=.returned (.bool true)∧Below w.heap.size w w':=by
 rcases h with⟨a,cap,rfl,rfl⟩|⟨b,off,cap,rfl,hE,hlt,g1,g2⟩
 ·rcases h' with⟨a',cap',rfl,_⟩|⟨b',off',cap',rfl,hE',hlt',g1',g2'⟩
  ·exact eqNodeS_zero a a' cap cap' w
  ·exact eqNodeS_zero a _ cap cap' w
 ·rcases h' with⟨a',cap',rfl,rfl⟩|⟨b',off',cap',rfl,hE',hlt',g1',g2'⟩
  ·exact eqNodeS_zero _ a' cap cap' w
  ·exact eqNodeS_same b off cap b' off' cap' es w hE hE' hlt hlt' (Nat.le_trans g1 g2)
set_option maxHeartbeats 400000 in
theorem eqFilter_any (u u':Value) (es:List Nd) (w:World) (h:InNds w u es) (h':InNds w u' es):
  Calls Tryz.prog 28 #[.agg #[u],.agg #[u']] w fun e w'=>e=.returned (.bool true)∧Below w.heap.size w w':=by
 have HE:Hid (InNds w u es∧InNds w u' es):=⟨h,h'⟩
 have hu:u.cells=#[u]:=by
  rcases h with⟨a,cap,rfl,_⟩|⟨b,off,cap,rfl,_⟩<;>rfl
 have hu':u'.cells=#[u']:=by
  rcases h' with⟨a,cap,rfl,_⟩|⟨b,off,cap,rfl,_⟩<;>rfl
 clear h h'
 go_enter Tryz.func28,Tryz.ntmps28
 go_wp2_with fail
 have k0:Below w.heap.size w ((w.alloc (Obj.cells #[u] 25)).alloc (Obj.cells #[u'] 25)):=(qB).alloc (by simp) _
 refine(eqNodeS_any u u' es _ (HE.1.below k0 (Nat.le_refl _)) (HE.2.below k0 (Nat.le_refl _))).mono ?_
 rintro e w1 ⟨rfl,hb1⟩
 go_wp2_with fail
 go_ret
 exact⟨rfl,k0.trans (hb1.mono (by simp;omega))⟩
end Go.Proofs.YtgnpcenpcmdlfaaGreatDoor
namespace Go.Proofs.YtgnpcenpcmdlfaaGreatDoor
open Go.ChangeShapes Go.WideShapes Go.ChangeAt Go.RowKit Go.Deep
set_option linter.unusedVariables false
set_option linter.unusedSimpArgs false
set_option maxRecDepth 100000
open Classical in
noncomputable def goodB (e:Nd):Bool:=decide (GoodN e)
theorem goodB_iff (e:Nd):goodB e=true↔GoodN e:=by unfold goodB;simp
def GoodF (xs:List Nd):Prop:=xs.length≤200∧∃s,ShT goodB [s] xs∧s.valid=true∧s.nest≤20
structure WdN (w:World) (g o cp:Nat) (xs:List Nd):Prop where
 nds:NdsAt w g o xs
 lt:g<w.heap.size
 caps:xs.length≤cp∧cp≤maxLen
theorem WdN.at {w:World} {g o cp:Nat} {xs:List Nd} (h:WdN w g o cp xs):NdsAt w g o xs:=h.nds
end Go.Proofs.YtgnpcenpcmdlfaaGreatDoor
namespace Go.Proofs.YtgnpcenpcmdlfaaGreatDoor
open Go.ChangeShapes Go.WideShapes Go.ChangeAt Go.RowKit Go.Deep
set_option linter.unusedVariables false
section
variable {T:Type} (V:Nd→List T→T)
inductive TrV:List T→List Nd→Prop
 |nil:TrV [] []
 |snoc {ss os:List T} {xs:List Nd} (n:Nd) (ho:os.length=arity n.kind) (h:TrV (ss++os) xs):TrV (ss++ [V n os]) (xs++ [n])
def stepV (st:List T) (n:Nd):Option (List T):=
 if st.length<arity n.kind then none else some (st.take (st.length-arity n.kind)++ [V n (st.drop (st.length-arity n.kind))])
def foldV (st:List T):List Nd→Option (List T)
 | []=>some st
 |n::ns=>(stepV V st n).bind fun s=>foldV s ns
theorem foldV_append (st:List T) (xs ys:List Nd):foldV V st (xs++ys)=(foldV V st xs).bind (fun s=>foldV V s ys):=by
 induction xs generalizing st with
 |nil=>rfl
 |cons x xs ih=>
  simp only[List.cons_append,foldV]
  cases stepV V st x with
  |none=>rfl
  |some s=>exact ih s
theorem TrV.fold {ss:List T} {xs:List Nd} (h:TrV V ss xs):∀st,foldV V st xs=some (st++ss):=by
 induction h with
 |nil=>intro st;simp[foldV]
 | @snoc ss os xs n ho h ih=>
   intro st
   rw[foldV_append,ih]
   simp only[Option.bind_some,foldV,stepV]
   rw[if_neg (by simp;omega)]
   have hl:(st++(ss++os)).length-arity n.kind=(st++ss).length:=by simp;omega
   rw[hl,←List.append_assoc,List.take_left,List.drop_left,List.append_assoc]
   simp
theorem TrV.one {ss ts:List T} {xs:List Nd} (h:TrV V ss xs) (k:TrV V ts xs):ss=ts:=by
 have a:=h.fold V []
 have b:=k.fold V []
 rw[a]at b
 simpa using b
theorem TrV.inv {s:T} {xs:List Nd} (h:TrV V [s] xs):∃ys n os,xs=ys++ [n]∧os.length=arity n.kind∧TrV V os ys∧s=V n os:=by
 generalize hs: [s]=ss at h
 cases h with
 |nil=>cases hs
 | @snoc ss os xs n ho h=>
   have e:=List.append_inj' (s₁:= []) (t₁:= [s]) hs rfl
   obtain⟨e1,e2⟩:=e
   subst e1
   simp at e2
   exact⟨xs,n,os,rfl,ho,h,e2⟩
inductive KidV:List T→List (List Nd)→Prop
 |nil:KidV [] []
 |cons {o:T} {os:List T} {k:List Nd} {ks:List (List Nd)} (h:TrV V [o] k) (t:KidV os ks):KidV (o::os) (k::ks)
theorem KidV.length {os:List T} {ks:List (List Nd)} (h:KidV V os ks):os.length=ks.length:=by
 induction h with
 |nil=>rfl
 |cons _ _ ih=>simp[ih]
end
end Go.Proofs.YtgnpcenpcmdlfaaGreatDoor
namespace Go.Proofs.YtgnpcenpcmdlfaaGreatDoor
set_option linter.unusedVariables false
set_option linter.unusedSimpArgs false
def byt (n:Nat):UInt8:=UInt8.ofNat n
def num (n:Nat):List UInt8:=if n<128 then [byt n]else byt (128+n%128)::num (n/128)
termination_by n
decreasing_by omega
def strB (s:List UInt8):List UInt8:=num s.length++s
def shared:List UInt8→List UInt8→Nat
 |x::s,y::t=>if x=y then shared s t+1 else 0
 |_,_=>0
def sh (c:BitVec 32):BitVec 32:=if c.toNat%2=1 then(c>>>1)^^^3988292384#32 else c>>>1
end Go.Proofs.YtgnpcenpcmdlfaaGreatDoor
namespace Go.Proofs.YtgnpcenpcmdlfaaGreatDoor
open Go.ChangeShapes Go.WideShapes Go.ChangeAt Go.RowKit Go.Deep
def cB (a b:ByteArray):Int:=Lib.compareBytes a.data.toList b.data.toList
def firstOf (a b:Int):Int:=if a=0 then b else a
def kindCmp (k l:Int):Int:=if k=2 then(if l=2 then 0 else-1)else(if l=2 then 1 else 0)
def tsCmp (t u:Int):Int:=if u<t then-1 else if t<u then 1 else 0
def keyCmp (a b:Ent):Int:=firstOf (cB a.row b.row) (firstOf (cB a.fam b.fam) (firstOf (cB a.qual b.qual) (firstOf (kindCmp a.kind b.kind) (tsCmp a.ts b.ts))))
def kt (a b:Ent) (K T:Int):Prop:=keyCmp a b=firstOf (cB a.row b.row) (firstOf (cB a.fam b.fam) (firstOf (cB a.qual b.qual) (firstOf K T)))
theorem kinds (a b:Ent):
  ((a.kind==2)=true∧(a.kind != 2)=false∧(b.kind==2)=true∧(b.kind != 2)=false∧kindCmp a.kind b.kind=0)∨
  ((a.kind==2)=true∧(a.kind != 2)=false∧(b.kind==2)=false∧(b.kind != 2)=true∧kindCmp a.kind b.kind= -1)∨
  ((a.kind==2)=false∧(a.kind != 2)=true∧(b.kind==2)=true∧(b.kind != 2)=false∧kindCmp a.kind b.kind=1)∨
  ((a.kind==2)=false∧(a.kind != 2)=true∧(b.kind==2)=false∧(b.kind != 2)=true∧kindCmp a.kind b.kind=0):=by
 unfold kindCmp
 by_cases ha:a.kind=2<;>by_cases hb:b.kind=2<;>simp[ha,hb]
end Go.Proofs.YtgnpcenpcmdlfaaGreatDoor
namespace Go.Proofs.YtgnpcenpcmdlfaaGreatDoor
open Go.ChangeShapes Go.WideShapes Go.ChangeAt Go.RowKit Go.Deep
set_option linter.unusedVariables false
end Go.Proofs.YtgnpcenpcmdlfaaGreatDoor
namespace Go.Proofs.YtgnpcenpcmdlfaaGreatDoor
set_option linter.unusedVariables false
set_option linter.unusedSimpArgs false
abbrev bl (s:ByteArray):List UInt8:=s.data.toList
def entB (before:List UInt8) (e:Ent):List UInt8:=
 num (shared before (bl e.row))++strB ((bl e.row).drop (shared before (bl e.row)))++strB (bl e.fam)++strB (bl e.qual)++num e.ts.toNat++num e.kind.toNat++strB (bl e.val)
def body:List UInt8→List Ent→List UInt8
 |_,[]=> []
 |b,e::es=>entB b e++body (bl e.row) es
end Go.Proofs.YtgnpcenpcmdlfaaGreatDoor
namespace Go.Proofs.YtgnpcenpcmdlfaaGreatDoor
open Go.ChangeShapes Go.WideShapes Go.ChangeAt Go.RowKit Go.Deep
set_option linter.unusedVariables false
set_option linter.unusedSimpArgs false
def wordA (k:Int):ByteArray:=
 if k=1 then⟨#[112,97,115,115]⟩else if k=2 then⟨#[98,108,111,99,107]⟩else if k=3 then⟨#[115,116,114,105,112]⟩else if k=4 then⟨#[114,111,119]⟩
 else if k=5 then⟨#[102,97,109]⟩else if k=6 then⟨#[113,117,97,108]⟩else if k=7 then⟨#[118,97,108]⟩else if k=8 then⟨#[114,111,119,115]⟩
 else if k=9 then⟨#[113,117,97,108,115]⟩else if k=10 then⟨#[116,115]⟩else if k=11 then⟨#[118,101,114,115,105,111,110,115]⟩else if k=12 then⟨#[99,101,108,108,115]⟩
 else if k=13 then⟨#[115,107,105,112]⟩else⟨#[]⟩
structure NumN (e:Nd):Prop where
 lo0:0≤e.lo
 lo1:e.lo<2^64
 up0:0≤e.up
 up1:e.up<2^64
end Go.Proofs.YtgnpcenpcmdlfaaGreatDoor
