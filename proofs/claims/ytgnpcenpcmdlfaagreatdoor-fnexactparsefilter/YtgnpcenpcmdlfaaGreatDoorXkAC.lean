import Derived.Test.YtgnpcenpcmdlfaaGreatDoorXkAB
import Derived.BigQuiet
import Derived.Deep.QuietTactic
import Derived.Test.YtgnpcenpcmdlfaaGreatDoorXkAA
import Derived.Deep.RegionHeld3
import Derived.Maps.AppendAt
import Derived.Lib.ConvBytes
import Derived.Lib.SlBytesRow
import Derived.Deep.DeepCutAuto
import Derived.ArgAppend
import Derived.Lib.SlBytesConst
import Derived.Deep.CutBlock
namespace Go.Proofs.YtgnpcenpcmdlfaaGreatDoor
set_option linter.unusedVariables false
set_option linter.unusedSimpArgs false
def isLet (b:UInt8):Bool:=decide (97≤b.toNat∧b.toNat≤122)
def isDig (b:UInt8):Bool:=decide (48≤b.toNat∧b.toNat≤57)
def isPla (b:UInt8):Bool:=decide (32≤b.toNat∧b.toNat≤126)
def WordK (l:List UInt8) (k:Int):Prop:=(1≤k∧k≤13∧bl (wordA k)=l)∨(k=16∧l= [105,102])
def kwF (l:List UInt8):Option Int:=
 if l= [112,97,115,115]then some 1 else if l= [98,108,111,99,107]then some 2 else if l= [115,116,114,105,112]then some 3 else if l= [114,111,119]then some 4
 else if l= [102,97,109]then some 5 else if l= [113,117,97,108]then some 6 else if l= [118,97,108]then some 7 else if l= [114,111,119,115]then some 8
 else if l= [113,117,97,108,115]then some 9 else if l= [116,115]then some 10 else if l= [118,101,114,115,105,111,110,115]then some 11 else if l= [99,101,108,108,115]then some 12
 else if l= [115,107,105,112]then some 13 else if l= [105,102]then some 16 else none
theorem cases13 {k:Int} (h1:1≤k) (h2:k≤13):k=1∨k=2∨k=3∨k=4∨k=5∨k=6∨k=7∨k=8∨k=9∨k=10∨k=11∨k=12∨k=13:=by omega
theorem kwF_word {l:List UInt8} {k:Int} (h:WordK l k):kwF l=some k:=by
 rcases h with⟨h1,h2,rfl⟩|⟨rfl,rfl⟩
 ·rcases cases13 h1 h2 with rfl|rfl|rfl|rfl|rfl|rfl|rfl|rfl|rfl|rfl|rfl|rfl|rfl<;>decide
 ·decide
theorem ifS {p:Prop} [Decidable p] {a b:Option Int} {k:Int} (h:(if p then a else b)=some k):(p∧a=some k)∨b=some k:=by
 by_cases q:p
 ·rw[if_pos q]at h;exact .inl ⟨q,h⟩
 ·rw[if_neg q]at h;exact .inr h
theorem kwF_some {l:List UInt8} {k:Int} (h:kwF l=some k):WordK l k:=by
 unfold kwF at h
 rcases ifS h with⟨rfl,h⟩|h
 ·cases h;exact .inl ⟨by omega,by omega,by decide⟩
 rcases ifS h with⟨rfl,h⟩|h
 ·cases h;exact .inl ⟨by omega,by omega,by decide⟩
 rcases ifS h with⟨rfl,h⟩|h
 ·cases h;exact .inl ⟨by omega,by omega,by decide⟩
 rcases ifS h with⟨rfl,h⟩|h
 ·cases h;exact .inl ⟨by omega,by omega,by decide⟩
 rcases ifS h with⟨rfl,h⟩|h
 ·cases h;exact .inl ⟨by omega,by omega,by decide⟩
 rcases ifS h with⟨rfl,h⟩|h
 ·cases h;exact .inl ⟨by omega,by omega,by decide⟩
 rcases ifS h with⟨rfl,h⟩|h
 ·cases h;exact .inl ⟨by omega,by omega,by decide⟩
 rcases ifS h with⟨rfl,h⟩|h
 ·cases h;exact .inl ⟨by omega,by omega,by decide⟩
 rcases ifS h with⟨rfl,h⟩|h
 ·cases h;exact .inl ⟨by omega,by omega,by decide⟩
 rcases ifS h with⟨rfl,h⟩|h
 ·cases h;exact .inl ⟨by omega,by omega,by decide⟩
 rcases ifS h with⟨rfl,h⟩|h
 ·cases h;exact .inl ⟨by omega,by omega,by decide⟩
 rcases ifS h with⟨rfl,h⟩|h
 ·cases h;exact .inl ⟨by omega,by omega,by decide⟩
 rcases ifS h with⟨rfl,h⟩|h
 ·cases h;exact .inl ⟨by omega,by omega,by decide⟩
 rcases ifS h with⟨rfl,h⟩|h
 ·cases h;exact .inr ⟨rfl,rfl⟩
 ·cases h
theorem wordK_range {l:List UInt8} {k:Int} (h:WordK l k):(1≤k∧k≤13)∨k=16:=by
 rcases h with⟨h1,h2,_⟩|⟨h,_⟩
 ·exact .inl ⟨h1,h2⟩
 ·exact .inr h
def decV (d:List UInt8):Nat:=d.foldl (fun n b=>10*n+(b.toNat-48)) 0
def numM (d:List UInt8):Option Nat:=if 1<d.length∧d.head?=some 48 then none else if decV d<2^64 then some (decV d)else none
def hexV (b:UInt8):Option Nat:=if 48≤b.toNat∧b.toNat≤57 then some (b.toNat-48)else if 97≤b.toNat∧b.toNat≤102 then some (b.toNat-87)else none
def strM:List UInt8→Option (List UInt8×Nat)
 | []=>none
 |b::r=>if b=34 then some ([],1)
  else if b=92 then(match r with
   | []=>none
   |c::r2=>if c=34∨c=92 then(strM r2).map (fun x=>(c::x.1,x.2+2))
    else if c=120 then(match r2 with
     |h::l::r3=>(match hexV h,hexV l with
      |some x,some y=>(strM r3).map (fun z=>(UInt8.ofNat (16*x+y)::z.1,z.2+4))
      |_,_=>none)
     |_=>none)
    else none)
  else if isPla b=true then(strM r).map (fun x=>(b::x.1,x.2+1))else none
def tokF (l:List UInt8):Option (TkK×Nat):=match l with
 | []=>none
 |b::r=>
  if isLet b=true then(kwF (l.takeWhile isLet)).map (fun k=>(.word k,(l.takeWhile isLet).length))
  else if isDig b=true then(numM (l.takeWhile isDig)).map (fun n=>(.num (n:Int),(l.takeWhile isDig).length))
  else if b=34 then(match strM r with
   |some (c,n)=>if c.length≤200 then some (.str ⟨c.toArray⟩,n+1)else none
   |none=>none)
  else if b=46∧r.head?=some 46 then some (.sign 46,2)
  else if b=40∨b=41∨b=44∨b=62∨b=124 then some (.sign b,1)
  else none
inductive LexR:List UInt8→Nat→List Tk→Prop
 |fin {i:Nat}:LexR [] i [⟨.fin,i⟩]
 |space {l:List UInt8} {i:Nat} {ks:List Tk} (h:LexR l (i+1) ks):LexR (32::l) i ks
 |bad {b:UInt8} {l:List UInt8} {i:Nat} (hb:¬b=32) (h:tokF (b::l)=none):LexR (b::l) i [⟨.bad,i⟩]
 |tok {b:UInt8} {l:List UInt8} {i:Nat} {k:TkK} {n:Nat} {ks:List Tk} (hb:¬b=32) (h:tokF (b::l)=some (k,n)) (ht:LexR ((b::l).drop n) (i+n) ks):LexR (b::l) i (⟨k,i⟩::ks)
theorem takeWhile_len {α:Type} (p:α→Bool) (l:List α):(l.takeWhile p).length≤l.length:=by
 induction l with
 |nil=>simp
 |cons a l ih=>rw[List.takeWhile_cons];split<;>simp<;>omega
theorem strM_len:∀(m:Nat) (l:List UInt8),l.length≤m→∀x,strM l=some x→1≤x.2∧x.2≤l.length∧x.1.length<x.2
 |0,l,hl,x,h=>by
  obtain rfl:=List.length_eq_zero_iff.1 (Nat.le_zero.1 hl)
  unfold strM at h;cases h
 |m+1,[],hl,x,h=>by unfold strM at h;cases h
 |m+1,b::r,hl,x,h=>by
  rw[List.length_cons]at hl⊢
  unfold strM at h
  split at h
  ·cases h;exact⟨Nat.le_refl _,by omega,by simp⟩
  split at h
  ·cases r with
   |nil=>cases h
   |cons c r2=>
    rw[List.length_cons]at hl⊢
    dsimp only at h
    split at h
    ·obtain⟨y,hy,rfl⟩:=Option.map_eq_some_iff.1 h
     have:=strM_len m r2 (by omega) y hy
     simp only[List.length_cons]
     omega
    split at h
    ·cases r2 with
     |nil=>cases h
     |cons a r3=>cases r3 with
      |nil=>cases h
      |cons e r4=>
       dsimp only at h
       split at h
       ·obtain⟨y,hy,rfl⟩:=Option.map_eq_some_iff.1 h
        simp only[List.length_cons]at hl⊢
        have:=strM_len m r4 (by omega) y hy
        omega
       ·cases h
    ·cases h
  ·split at h
   ·obtain⟨y,hy,rfl⟩:=Option.map_eq_some_iff.1 h
    have:=strM_len m r (by omega) y hy
    simp only[List.length_cons]
    omega
   ·cases h
def TkK.good:TkK→Prop
 | .word k=>(1≤k∧k≤13)∨k=16
 | .num n=>0≤n∧n<2^64
 | .str s=>s.size≤200
 | .sign b=>b=40∨b=41∨b=44∨b=62∨b=124∨b=46
 |_=>False
theorem tokF_some {l:List UInt8} {k:TkK} {n:Nat} (h:tokF l=some (k,n)):1≤n∧n≤l.length∧k.good:=by
 unfold tokF at h
 cases l with
 |nil=>cases h
 |cons b r=>
  dsimp only at h
  split at h
  ·rename_i hb
   obtain⟨y,hy,hq⟩:=Option.map_eq_some_iff.1 h
   cases hq
   refine⟨?_,takeWhile_len _ _,wordK_range (kwF_some hy)⟩
   rw[List.takeWhile_cons,if_pos hb];simp
  split at h
  ·rename_i hb
   obtain⟨y,hy,hq⟩:=Option.map_eq_some_iff.1 h
   cases hq
   refine⟨?_,takeWhile_len _ _,?_⟩
   ·rw[List.takeWhile_cons,if_pos hb];simp
   ·unfold numM at hy
    split at hy
    ·cases hy
    ·split at hy
     ·cases hy
      rename_i h64
      exact⟨by omega,by omega⟩
     ·cases hy
  split at h
  ·cases hs:strM r with
   |none=>rw[hs]at h;cases h
   |some x=>
    rw[hs]at h
    obtain⟨c,m⟩:=x
    dsimp only at h
    split at h
    ·rename_i hc
     cases h
     have:=strM_len r.length r (Nat.le_refl _) _ hs
     refine⟨by omega,by simp only[List.length_cons];omega,?_⟩
     show(⟨c.toArray⟩:ByteArray).size≤200
     show c.toArray.size≤200
     simpa using hc
    ·cases h
  split at h
  ·rename_i hd
   cases h
   refine⟨by omega,?_,by simp[TkK.good]⟩
   cases r with
   |nil=>simp at hd
   |cons c r=>simp
  split at h
  ·rename_i hd
   cases h
   exact⟨Nat.le_refl _,by simp,by rcases hd with rfl|rfl|rfl|rfl|rfl<;>simp[TkK.good]⟩
  ·cases h
theorem lexR_ex:∀(m:Nat) (l:List UInt8) (i:Nat),l.length≤m→∃ks,LexR l i ks
 |0,l,i,h=>by
  obtain rfl:=List.length_eq_zero_iff.1 (Nat.le_zero.1 h)
  exact⟨_,.fin⟩
 |m+1,[],i,h=>⟨_,.fin⟩
 |m+1,b::l,i,h=>by
  by_cases hb:b=32
  ·subst hb
   obtain⟨ks,hk⟩:=lexR_ex m l (i+1) (by simp at h;omega)
   exact⟨ks,.space hk⟩
  ·cases ht:tokF (b::l)with
   |none=>exact⟨_,.bad hb ht⟩
   |some x=>
    obtain⟨k,n⟩:=x
    have hn:=tokF_some ht
    obtain⟨ks,hk⟩:=lexR_ex m ((b::l).drop n) (i+n) (by rw[List.length_drop];omega)
    exact⟨_,.tok hb ht hk⟩
theorem LexR.one {l:List UInt8} {i:Nat} {ks ks':List Tk} (h:LexR l i ks) (h':LexR l i ks'):ks=ks':=by
 induction h generalizing ks' with
 |fin=>cases h' with
  |fin=>rfl
 |space h ih=>cases h' with
  |space h'=>exact ih h'
  |bad hb _=>exact absurd rfl hb
  |tok hb _ _=>exact absurd rfl hb
 |bad hb h=>cases h' with
  |space h'=>exact absurd rfl hb
  |bad _ _=>rfl
  |tok _ h' _=>rw[h]at h';cases h'
 |tok hb h ht ih=>cases h' with
  |space h'=>exact absurd rfl hb
  |bad _ h'=>rw[h]at h';cases h'
  |tok _ h' ht'=>
   rw[h]at h'
   cases h'
   rw[ih ht']
inductive Toks:List Tk→Prop
 |last (k:Tk) (h:k.k=.fin∨k.k=.bad):Toks [k]
 |more (k:Tk) (h:k.k.good) {ks:List Tk} (t:Toks ks):Toks (k::ks)
theorem LexR.toks {l:List UInt8} {i:Nat} {ks:List Tk} (h:LexR l i ks):Toks ks:=by
 induction h with
 |fin=>exact .last _ (.inl rfl)
 |space _ ih=>exact ih
 |bad _ _=>exact .last _ (.inr rfl)
 |tok _ h _ ih=>exact .more _ (tokF_some h).2.2 ih
theorem LexR.len {l:List UInt8} {i:Nat} {ks:List Tk} (h:LexR l i ks):ks.length≤l.length+1∧∀k∈ks,k.pos≤i+l.length:=by
 induction h with
 |fin=>exact⟨by simp,fun k hk=>by simp at hk;subst hk;simp⟩
 |space _ ih=>exact⟨by have:=ih.1;simp;omega,fun k hk=>by have:=ih.2 k hk;simp;omega⟩
 |bad _ _=>exact⟨by simp,fun k hk=>by simp at hk;subst hk;simp⟩
 | @tok b l i k n ks hb h _ ih=>
   have hn:=tokF_some h
   rw[List.length_drop]at ih
   refine⟨by have:=ih.1;simp at this⊢;simp at hn;omega,fun q hq=>?_⟩
   rcases List.mem_cons.1 hq with rfl|hq
   ·show i≤_;omega
   ·have:=ih.2 q hq;omega
theorem Toks.ne {ks:List Tk} (h:Toks ks):ks≠ []:=by cases h<;>simp
theorem Toks.tail {k:Tk} {ks:List Tk} (h:Toks (k::ks)) (hb:k.k.isBad=false) (hf:k.k.isFin=false):Toks ks∧k.k.good:=by
 cases h with
 |last _ h=>
  rcases h with h|h
  ·rw[h]at hf;cases hf
  ·rw[h]at hb;cases hb
 |more _ h t=>exact⟨t,h⟩
end Go.Proofs.YtgnpcenpcmdlfaaGreatDoor
namespace Go.Proofs.YtgnpcenpcmdlfaaGreatDoor
open Go.ChangeShapes Go.WideShapes Go.ChangeAt Go.RowKit Go.Deep
set_option linter.unusedVariables false
set_option linter.unusedSimpArgs false
set_option maxRecDepth 100000
theorem cellsN_append (es fs:List Nd):cellsN (es++fs)=cellsN es++cellsN fs:=by simp[cellsN]
theorem nds_cells {w:World} {b off:Nat} {es:List Nd} (h:NdsAt w b off es):∀j u,(cellsN es)[j]?=some u→w.cell? ((⟨b,off,none⟩:Addr).add j)=some u:=by
 intro j u hu
 have hj:j<es.length*7:=by rw[←length_cellsN];exact(List.getElem?_eq_some_iff.1 hu).1
 obtain⟨e,he⟩:∃e,es[j/7]?=some e:=⟨_,List.getElem?_eq_getElem (by omega)⟩
 have hg:=cellsN_get es (j/7) e he (j%7) (Nat.mod_lt _ (by omega))
 rw[show j/7*7+j%7=j by omega,hu]at hg
 obtain⟨c0,c1,c2,c3,c4,c5,c6⟩:=h (j/7) e he
 rw[Addr.add_mid,show off+j=off+j/7*7+j%7 by omega]
 have hm:j%7<7:=Nat.mod_lt _ (by omega)
 generalize j%7=m at*
 match m,hm,hg with
 |0,_,hg=>rw[Nat.add_zero,c0,hg];rfl
 |1,_,hg=>rw[c1,hg];rfl
 |2,_,hg=>rw[c2,hg];rfl
 |3,_,hg=>rw[c3,hg];rfl
 |4,_,hg=>rw[c4,hg];rfl
 |5,_,hg=>rw[c5,hg];rfl
 |6,_,hg=>rw[c6,hg];rfl
theorem nds_one (es:List Nd):∀u∈cellsN es,u.oneCell'=true:=by
 intro u hu
 unfold cellsN at hu
 obtain⟨e,_,he⟩:=List.mem_flatMap.1 hu
 simp at he
 rcases he with rfl|rfl|rfl|rfl|rfl|rfl|rfl<;>rfl
theorem wpList_append_nd {ops:Array Oper} {rest:List Oper} {o:Oper} {a:Act} {Q:Exit→Act→World→Prop} (w:World) (hgd:o.guard=none) (s x:Operand)
  (ho:o.op=.call {callee:=.builtin .append,args:=#[s,x],argTypes:=#[23,23]})
  (base g cp n b off m cx:Nat) (fs es:List Nd) (hs:a.eval s=.slice (some ⟨g,0,none⟩) n cp) (hx:a.eval x=.slice (some ⟨b,off,none⟩) m cx) (hn:n=fs.length) (hm:m=es.length) (hO:OwnNd w base g cp fs)
  (hc:NdsAt w b off es) (hlen:fs.length+es.length≤2^30) (hbase:base≤w.heap.size)
  (h:∀g' cp' w',OwnNd w' base g' cp' (fs++es)→w.grownBy w' (some g)→(g'=g∨g'=w.heap.size)→wpList Tryz.prog ops Q rest (a.put o.dst (.slice (some ⟨g',0,none⟩) (n+m) cp')) w'):wpList Tryz.prog ops Q (o::rest) a w:=by
 subst hn hm
 obtain⟨i,hi,hz0,hz1,hz2⟩:=info_parts Tryz.infoNd
 refine wpList_append_own_at w hgd s x 23 ho base 65 i _ 7 72 Tryz.underlying23 hi hz0 hz1 hz2 rfl (by decide) (.slice (some ⟨g,0,none⟩) fs.length cp) fs.length (cellsN fs) hs hO ⟨b,off,none⟩ es.length cx (cellsN es) hx (length_cellsN es) (nds_cells hc) (nds_one es) ?_ ?_ hbase ?_
 ·unfold maxLen;omega
 ·omega
 ·intro v' w' hO' hgr hnil hat
  rcases hO'.2 with⟨h0,_⟩|⟨g',cap',cur,hv,_,_,hn,hcap,_,_⟩
  ·have:=(hnil.1 h0).1
   cases this
  ·subst hv
   refine h g' cap' w' ?_ hgr ?_
   ·unfold OwnNd
    rw[List.length_append,cellsN_append]
    exact hO'
   ·simp[Value.ownBlock]at hat
    exact hat
section
variable {α:Type} {f:α→List Value} {sz:Nat}
theorem gFlat_len (hf:∀x,(f x).length=sz) (es:List α):(es.flatMap f).length=es.length*sz:=by
 induction es with
 |nil=>simp
 |cons e es ih=>rw[List.flatMap_cons,List.length_append,ih,hf,List.length_cons,Nat.add_mul];omega
theorem gFlat_get (hf:∀x,(f x).length=sz):∀(es:List α) (k:Nat) (e:α),es[k]?=some e→∀j,j<sz→(es.flatMap f)[k*sz+j]?=(f e)[j]?
 | [],k,e,h,j,hj=>by simp at h
 |a::es,0,e,h,j,hj=>by
  simp at h;subst h
  rw[List.flatMap_cons,List.getElem?_append_left (by rw[hf];omega)]
  simp
 |a::es,k+1,e,h,j,hj=>by
  simp at h
  rw[List.flatMap_cons,List.getElem?_append_right (by rw[hf,Nat.add_mul];omega),hf]
  rw[show(k+1)*sz+j-sz=k*sz+j by rw[Nat.add_mul];omega]
  exact gFlat_get hf es k e h j hj
theorem gFlat_take (hf:∀x,(f x).length=sz):∀(es:List α) (k:Nat),k≤es.length→(es.take k).flatMap f=(es.flatMap f).take (k*sz)
 |es,0,_=>by simp
 | [],k+1,h=>by simp at h
 |a::es,k+1,h=>by
  rw[List.take_succ_cons,List.flatMap_cons,List.flatMap_cons,gFlat_take hf es k (by simpa using h),List.take_append,hf,List.take_of_length_le (l:=f a) (by rw[hf,Nat.add_mul];omega),show(k+1)*sz-sz=k*sz by rw[Nat.add_mul];omega]
def OwnG (f:α→List Value) (sz ty:Nat) (w:World) (base g cap:Nat) (es:List α):Prop:=w.ownsRow base ty sz (.slice (some ⟨g,0,none⟩) es.length cap) es.length (es.flatMap f)
variable {ty:Nat}
theorem OwnG.cell (hf:∀x,(f x).length=sz) {w:World} {base g cap:Nat} {es:List α} (h:OwnG f sz ty w base g cap es) {i:Nat} {e:α} (he:es[i]?=some e) (j:Nat) (hj:j<sz):w.cell? ⟨g,i*sz+j,none⟩=(f e)[j]?:=by
 have hi:i<es.length:=(List.getElem?_eq_some_iff.1 he).1
 have h1:i*sz+j<es.length*sz:=by
  have:(i+1)*sz≤es.length*sz:=Nat.mul_le_mul_right sz hi
  rw[Nat.add_mul]at this
  omega
 have:=(World.ownsRow.cellAt h (i*sz+j) h1).trans (gFlat_get hf es i e he j hj)
 simpa using this
theorem OwnG.lt {w:World} {base g cap:Nat} {es:List α} (h:OwnG f sz ty w base g cap es):base≤g∧g<w.heap.size:=World.ownsRow.lt h g rfl
theorem OwnG.chg {S:Nat→Prop} {w w':World} {base g cap:Nat} {es:List α} (h:OwnG f sz ty w base g cap es) (hc:Chg S w w') (hn:¬S g):OwnG f sz ty w' base g cap es:=own_chg h hc (fun k q=>by simp[Value.ownBlock]at q;subst q;exact hn)
theorem OwnG.below {w w':World} {base g cap:Nat} {es:List α} (h:OwnG f sz ty w base g cap es) (hb:Below w.heap.size w w'):OwnG f sz ty w' base g cap es:=h.chg (Chg.of_below hb) (S:=fun _=>False) (fun q=>q)
theorem OwnG.caps {w:World} {base g cap:Nat} {es:List α} (h:OwnG f sz ty w base g cap es):es.length≤cap∧cap≤maxLen:=by
 rcases h.2 with⟨h0,_⟩|⟨g',cap',cur,hv,_,_,hn,hcap,_,_⟩
 ·cases h0
 ·simp only[Value.slice.injEq,Option.some.injEq,Addr.mk.injEq,and_true,true_and]at hv
  obtain⟨rfl,rfl⟩:=hv
  exact⟨hn,hcap⟩
theorem OwnG.take (hf:∀x,(f x).length=sz) {w:World} {base g cap:Nat} {es:List α} (h:OwnG f sz ty w base g cap es) {k:Nat} (hk:k≤es.length):OwnG f sz ty w base g cap (es.take k):=by
 have hl:(es.take k).length=k:=by rw[List.length_take];omega
 rcases h.2 with⟨h0,_⟩|⟨g',cap',cur,hv,h1,h2,h3,h4,h5,h6⟩
 ·cases h0
 ·simp only[Value.slice.injEq,Option.some.injEq,Addr.mk.injEq,and_true,true_and]at hv
  obtain⟨rfl,rfl⟩:=hv
  refine⟨gFlat_len hf _,.inr ⟨g,cap,cur,rfl,h1,h2,by omega,h4,h5,?_⟩⟩
  rw[hl,gFlat_take hf es k hk,←h6,List.take_take]
  congr 1
  have:=Nat.mul_le_mul_right sz hk
  omega
theorem ownG_new (w:World) {base:Nat} (hb:base≤w.heap.size):OwnG f sz ty (w.alloc (Obj.cells #[] ty)) base w.heap.size 0 []:=
 World.ownsRow_made w #[] 0 hb (Nat.zero_le _) (by simp)
end
section
variable {α:Type} {f:α→List Value} {sz ty:Nat}
end
def tkN:TkK→Int
 | .word _=>1
 | .num _=>2
 | .str _=>3
 | .sign _=>4
 | .fin=>5
 | .bad=>6
def wordT (k:Int):ByteArray:=if k=16 then⟨#[105,102]⟩else wordA k
def tkT:TkK→ByteArray
 | .word k=>wordT k
 | .str s=>s
 | .sign b=>if b=46 then⟨#[46,46]⟩else⟨#[b]⟩
 |_=>⟨#[]⟩
abbrev tkV (k:Tk):List Value:= [.int .i64 (tkN k.k),.int .u64 k.k.nm,.string (tkT k.k),.int .i64 (k.pos:Int)]
abbrev enV (e:Int×Nat):List Value:= [.int .i64 e.1,.int .i64 (e.2:Int)]
theorem tkV_len (x:Tk):(tkV x).length=4:=rfl
theorem Tryz.infoTk:(Tryz.prog.info? 80).map (fun i=>(i.zero,i.size,i.bytes))=some (some (.agg #[.int .i64 0,.int .u64 0,.string ⟨#[]⟩,.int .i64 0]),4,40):=by kernel_rfl
abbrev OwnTk (w:World) (base g cap:Nat) (es:List (Tk)):Prop:=OwnG tkV 4 80 w base g cap es
theorem wpList_append_Tk {ops:Array Oper} {rest:List Oper} {o:Oper} {a:Act} {Q:Exit→Act→World→Prop} (w:World) (hgd:o.guard=none) (s x:Operand)
  (ho:o.op=.call {callee:=.builtin .append,args:=#[s,x],argTypes:=#[39,39]})
  (base g cp n b cx:Nat) (fs:List (Tk)) (e:Tk) (hs:a.eval s=.slice (some ⟨g,0,none⟩) n cp) (hx:a.eval x=.slice (some ⟨b,0,none⟩) 1 cx) (hn:n=fs.length) (hO:OwnTk w base g cp fs)
  (hc:∀j u,(tkV e)[j]?=some u→w.cell? ⟨b,j,none⟩=some u) (hlen:fs.length≤1000000) (hbase:base≤w.heap.size)
  (h:∀g' cp' w',OwnTk w' base g' cp' (fs++ [e])→w.grownBy w' (some g)→(g'=g∨g'=w.heap.size)→wpList Tryz.prog ops Q rest (a.put o.dst (.slice (some ⟨g',0,none⟩) (n+1) cp')) w'):wpList Tryz.prog ops Q (o::rest) a w:=by
 subst hn
 obtain⟨i,hi,hz0,hz1,hz2⟩:=info_parts Tryz.infoTk
 refine wpList_append_own_at w hgd s x 39 ho base 80 i _ 4 40 Tryz.underlying39 hi hz0 hz1 hz2 rfl (by decide) (.slice (some ⟨g,0,none⟩) fs.length cp) fs.length (fs.flatMap tkV) hs hO ⟨b,0,none⟩ 1 cx (tkV e) hx (by rw[tkV_len]) (fun j u hu=>by rw[Addr.add_mid,Nat.zero_add];exact hc j u hu) (fun u hu=>by simp at hu;rcases hu with rfl|rfl|rfl|rfl<;>rfl) ?_ ?_ hbase ?_
 ·unfold maxLen;omega
 ·omega
 ·intro v' w' hO' hgr hnil hat
  rcases hO'.2 with⟨h0,_⟩|⟨g',cap',cur,hv,_,_,hn,hcap,_,_⟩
  ·have:=(hnil.1 h0).1
   cases this
  ·subst hv
   refine h g' cap' w' ?_ hgr ?_
   ·unfold OwnTk OwnG
    rw[List.length_append,List.length_singleton,List.flatMap_append,List.flatMap_singleton]
    exact hO'
   ·simp[Value.ownBlock]at hat
    exact hat
theorem enV_len (x:Int×Nat):(enV x).length=2:=rfl
theorem Tryz.infoEn:(Tryz.prog.info? 86).map (fun i=>(i.zero,i.size,i.bytes))=some (some (.agg #[.int .i64 0,.int .i64 0]),2,16):=by kernel_rfl
abbrev OwnEn (w:World) (base g cap:Nat) (es:List (Int×Nat)):Prop:=OwnG enV 2 86 w base g cap es
theorem wpList_append_En {ops:Array Oper} {rest:List Oper} {o:Oper} {a:Act} {Q:Exit→Act→World→Prop} (w:World) (hgd:o.guard=none) (s x:Operand)
  (ho:o.op=.call {callee:=.builtin .append,args:=#[s,x],argTypes:=#[78,78]})
  (base g cp n b cx:Nat) (fs:List (Int×Nat)) (e:Int×Nat) (hs:a.eval s=.slice (some ⟨g,0,none⟩) n cp) (hx:a.eval x=.slice (some ⟨b,0,none⟩) 1 cx) (hn:n=fs.length) (hO:OwnEn w base g cp fs)
  (hc:∀j u,(enV e)[j]?=some u→w.cell? ⟨b,j,none⟩=some u) (hlen:fs.length≤1000000) (hbase:base≤w.heap.size)
  (h:∀g' cp' w',OwnEn w' base g' cp' (fs++ [e])→w.grownBy w' (some g)→(g'=g∨g'=w.heap.size)→wpList Tryz.prog ops Q rest (a.put o.dst (.slice (some ⟨g',0,none⟩) (n+1) cp')) w'):wpList Tryz.prog ops Q (o::rest) a w:=by
 subst hn
 obtain⟨i,hi,hz0,hz1,hz2⟩:=info_parts Tryz.infoEn
 refine wpList_append_own_at w hgd s x 78 ho base 86 i _ 2 16 Tryz.underlying78 hi hz0 hz1 hz2 rfl (by decide) (.slice (some ⟨g,0,none⟩) fs.length cp) fs.length (fs.flatMap enV) hs hO ⟨b,0,none⟩ 1 cx (enV e) hx (by rw[enV_len]) (fun j u hu=>by rw[Addr.add_mid,Nat.zero_add];exact hc j u hu) (fun u hu=>by simp at hu;rcases hu with rfl|rfl<;>rfl) ?_ ?_ hbase ?_
 ·unfold maxLen;omega
 ·omega
 ·intro v' w' hO' hgr hnil hat
  rcases hO'.2 with⟨h0,_⟩|⟨g',cap',cur,hv,_,_,hn,hcap,_,_⟩
  ·have:=(hnil.1 h0).1
   cases this
  ·subst hv
   refine h g' cap' w' ?_ hgr ?_
   ·unfold OwnEn OwnG
    rw[List.length_append,List.length_singleton,List.flatMap_append,List.flatMap_singleton]
    exact hO'
   ·simp[Value.ownBlock]at hat
    exact hat
theorem alloc_cells (w:World) (cs:List Value) (ty:Nat):∀j u,cs[j]?=some u→(w.alloc (Obj.cells cs.toArray ty)).cell? ⟨w.heap.size,j,none⟩=some u:=by
 intro j u hu
 rw[World.cell?_alloc_new]
 simpa using hu
abbrev parV (g N cp:Nat) (i nd:Nat) (er:Int) (pa:Nat):Value:=.agg #[.slice (some ⟨g,0,none⟩) N cp,.int .i64 (i:Int),.int .i64 (nd:Int),.int .i64 er,.int .i64 (pa:Int)]
theorem par_boxes {w W0:World} (v u:List Value) {t:Nat} (h:W0=(w.alloc (Obj.cells v.toArray t)).alloc (Obj.cells u.toArray t)):BoxAt W0 w.heap.size t v.length w.heap.size v∧BoxAt W0 w.heap.size t u.length (w.heap.size+1) u∧Below w.heap.size w W0:=by
 obtain⟨X,hX⟩:=qE (w.alloc (Obj.cells v.toArray t):World)
 have z:X.heap.size=w.heap.size+1:=by rw[hX];simp
 have b1:=boxAt_new w (base:=w.heap.size) (t:=t) (sz:=v.length) v.toArray (Nat.le_refl _) (by simp)
 have k1:Below w.heap.size w X:=by rw[hX];exact qB
 rw[←hX]at b1 h
 have k2:Below X.heap.size X W0:=by rw[h];exact qB
 have b2:=boxAt_new X (base:=w.heap.size) (t:=t) (sz:=u.length) u.toArray (by omega) (by simp)
 rw[←h,z]at b2
 exact⟨b1.below k2,b2,k1.trans (k2.mono (by omega))⟩
def setP (w:World) (g:Nat) (a b c d e:Value):World:=((((w.setCell ⟨g,0,none⟩ a).setCell ⟨g,1,none⟩ b).setCell ⟨g,2,none⟩ c).setCell ⟨g,3,none⟩ d).setCell ⟨g,4,none⟩ e
theorem BoxAt.setP {w:World} {base t g:Nat} {vs:List Value} (h:BoxAt w base t 5 g vs) (a b c d e:Value):BoxAt (Go.Proofs.YtgnpcenpcmdlfaaGreatDoor.setP w g a b c d e) base t 5 g [a,b,c,d,e]:=by
 have h1:=((((h.set 0 a).set 1 b).set 2 c).set 3 d).set 4 e
 have hl:=h.len
 match vs,hl with
 | [_,_,_,_,_],_=>exact h1
theorem below_setP {B:Nat} {x w:World} (h:Below B x w) {k:Nat} (hk:B≤k) (a b c d e:Value):Below B x (setP w k a b c d e):=below_set (below_set (below_set (below_set (below_set h hk 0 a) hk 1 b) hk 2 c) hk 3 d) hk 4 e
theorem tkN_bad {k:TkK}:tkN k=6↔k.isBad=true:=by cases k<;>simp[tkN,TkK.isBad]
theorem tk_cells {w:World} {base g cp:Nat} {ks:List Tk} (h:OwnTk w base g cp ks) {i:Nat} {k:Tk} (hk:ks[i]?=some k):
  w.cell? ⟨g,i*4,none⟩=some (.int .i64 (tkN k.k))∧w.cell? ⟨g,i*4+1,none⟩=some (.int .u64 k.k.nm)∧w.cell? ⟨g,i*4+2,none⟩=some (.string (tkT k.k))∧w.cell? ⟨g,i*4+3,none⟩=some (.int .i64 (k.pos:Int)):=
 ⟨h.cell tkV_len hk 0 (by omega),h.cell tkV_len hk 1 (by omega),h.cell tkV_len hk 2 (by omega),h.cell tkV_len hk 3 (by omega)⟩
set_option maxHeartbeats 4000000 in
theorem l5Fail_core {w:World} {base g N cp:Nat} {ks:List Tk} (h:OwnTk w base g cp ks) (hN:N=ks.length) (hl:N≤1000000) {i:Nat} {k:Tk} (hk:ks[i]?=some k) (nd:Nat) (er:Int) (pa:Nat) (c:Int):
  Calls Tryz.prog 46 #[parV g N cp i nd er pa,.int .i64 c] w fun e w'=>e=.returned (parV g N cp i nd (if k.k.isBad=true then 2 else c) k.pos)∧Below w.heap.size w w':=by
 obtain⟨c0,c1,c2,c3⟩:=tk_cells h hk
 have hg:=h.lt.2
 have hi:i<N:=by rw[hN];exact(List.getElem?_eq_some_iff.1 hk).1
 have zi:(i:Int)<(N:Int):=by omega
 clear h hk hN
 have HB:Hid (Below w.heap.size w w):=Below.refl _ _
 cases hb:k.k.isBad
 case false=>
  have z6:(tkN k.k==6)=false:=by
   rw[beq_eq_false_iff_ne];intro q;rw[tkN_bad.1 q]at hb;cases hb
  go_enter Tryz.func46,Tryz.ntmps46
  go_wp2_with fail
  refine bodyPost_ret (v:=parV g N cp i nd c k.pos) (by simp[results,Tryz.results46,go_sem]) rfl ⟨by simp,?_⟩
  first
   |exact(qB).alloc (by simp) _
   |(repeat (first|exact Below.refl _ _|refine Below.alloc ?_ (by simp) _))
 case true=>
  have z6:(tkN k.k==6)=true:=by rw[beq_iff_eq];exact tkN_bad.2 hb
  go_enter Tryz.func46,Tryz.ntmps46
  go_wp2_with fail
  refine bodyPost_ret (v:=parV g N cp i nd 2 k.pos) (by simp[results,Tryz.results46,go_sem]) rfl ⟨by simp,?_⟩
  exact(qB).alloc (by simp) _
theorem sym_iff (k:TkK) (hk:k.good∨k=.fin∨k=.bad) (b:UInt8) (s:ByteArray) (hs:s.toList=if b=46 then [46,46]else [b]):(tkN k=4∧(tkT k).toList=s.toList)↔k.isSign b=true:=by
 rw[hs]
 cases k with
 |sign c=>
  simp only[tkN,tkT,TkK.isSign,true_and,beq_iff_eq]
  by_cases h1:c=46
  ·by_cases h2:b=46
   ·simp[h1,h2]
   ·rw[if_pos h1,if_neg h2,ByteArray.toList_eq]
    constructor
    ·intro q;simp at q
    ·intro q;exact absurd (q.symm.trans h1) h2
  ·rw[if_neg h1]
   by_cases h2:b=46
   ·rw[if_pos h2,ByteArray.toList_eq]
    constructor
    ·intro q;simp at q
    ·intro q;exact absurd (q.trans h2) h1
   ·rw[if_neg h2,ByteArray.toList_eq]
    constructor
    ·intro q;simpa using q
    ·intro q;simp[q]
 |_=>simp[tkN,TkK.isSign]
set_option maxHeartbeats 4000000 in
theorem l5IsSym_core {w:World} {base g N cp:Nat} {ks:List Tk} (h:OwnTk w base g cp ks) (hN:N=ks.length) (hl:N≤1000000) {i:Nat} {k:Tk} (hk:ks[i]?=some k) (hg:k.k.good∨k.k=.fin∨k.k=.bad) (nd:Nat) (er:Int) (pa:Nat) (b:UInt8) (s:ByteArray) (hs:s.toList=if b=46 then [46,46]else [b]):
  Calls Tryz.prog 48 #[parV g N cp i nd er pa,.string s] w fun e w'=>e=.returned (.bool (k.k.isSign b))∧Below w.heap.size w w':=by
 obtain⟨c0,c1,c2,c3⟩:=tk_cells h hk
 have hgl:=h.lt.2
 have hi:i<N:=by rw[hN];exact(List.getElem?_eq_some_iff.1 hk).1
 have zi:(i:Int)<(N:Int):=by omega
 have HS:Hid ((tkN k.k=4∧(tkT k.k).toList=s.toList)↔k.k.isSign b=true):=sym_iff k.k hg b s hs
 obtain⟨r,hr⟩:=qE (k.k.isSign b)
 rw[←hr]at HS⊢
 obtain⟨kn,hkn⟩:=qE (tkN k.k)
 obtain⟨kt,hkt⟩:=qE (tkT k.k)
 rw[←hkn]at c0 HS
 rw[←hkt]at c2 HS
 clear h hk hN hg hs hr hkn hkt c1 c3
 by_cases h4:kn=4
 ·have z4:(kn==4)=true:=by rw[beq_iff_eq];exact h4
  by_cases ht:kt.toList=s.toList
  ·have zt:(kt.toList==s.toList)=true:=by rw[beq_iff_eq];exact ht
   obtain rfl:r=true:=HS.1 ⟨h4,ht⟩
   clear h4 ht
   go_enter Tryz.func48,Tryz.ntmps48
   go_wp2_with fail
   go_ret
   exact⟨rfl,qB⟩
  ·have zt:(kt.toList==s.toList)=false:=by rw[beq_eq_false_iff_ne];exact ht
   obtain rfl:r=false:=by cases r with
    |false=>rfl
    |true=>exact absurd (HS.2 rfl).2 ht
   clear h4 ht
   go_enter Tryz.func48,Tryz.ntmps48
   go_wp2_with fail
   go_ret
   exact⟨rfl,qB⟩
 ·have z4:(kn==4)=false:=by rw[beq_eq_false_iff_ne];exact h4
  obtain rfl:r=false:=by cases r with
   |false=>rfl
   |true=>exact absurd (HS.2 rfl).1 h4
  clear h4
  go_enter Tryz.func48,Tryz.ntmps48
  go_wp2_with fail
  go_ret
  exact⟨rfl,qB⟩
set_option maxHeartbeats 4000000 in
theorem l5Makes_core {w:World} {base g N cp:Nat} {ks:List Tk} (h:OwnTk w base g cp ks) (hN:N=ks.length) (hl:N≤1000000) {i:Nat} {k:Tk} (hk:ks[i]?=some k) (hkb:k.k.isBad=false) (nd:Nat) (hnd:nd≤200) (pa:Nat):
  Calls Tryz.prog 47 #[parV g N cp i nd 0 pa] w fun e w'=>Below w.heap.size w w'∧((nd<200∧e=.returned (parV g N cp (i+1) (nd+1) 0 pa))∨(¬nd<200∧e=.returned (parV g N cp i nd 5 k.pos))):=by
 have hi:i<N:=by rw[hN];exact(List.getElem?_eq_some_iff.1 hk).1
 by_cases h2:nd=200
 ·subst h2
  have HF:Hid (∀wx,Below w.heap.size w wx→Calls Tryz.prog 46 #[parV g N cp i 200 0 pa,.int .i64 5] wx fun e w'=>e=.returned (parV g N cp i 200 5 k.pos)∧Below wx.heap.size wx w'):=fun wx hx=>by
   have h9:=l5Fail_core (h.chg (S:=fun _=>False) (Chg.of_below hx) (fun q=>q)) hN hl hk 200 0 pa 5
   rw[hkb]at h9
   simpa using h9
  obtain⟨W0,hW0⟩:=qE ((w.alloc (Obj.cells #[.slice (some ⟨g,0,none⟩) N cp,.int .i64 (i:Int),.int .i64 (200:Int),.int .i64 0,.int .i64 (pa:Int)] 41)).alloc (Obj.cells #[.slice none 0 0,.int .i64 0,.int .i64 0,.int .i64 0,.int .i64 0] 41):World)
  have HW0:Hid (BoxAt W0 w.heap.size 41 5 w.heap.size [.slice (some ⟨g,0,none⟩) N cp,.int .i64 (i:Int),.int .i64 (200:Int),.int .i64 0,.int .i64 (pa:Int)]∧BoxAt W0 w.heap.size 41 5 (w.heap.size+1) [.slice none 0 0,.int .i64 0,.int .i64 0,.int .i64 0,.int .i64 0]∧Below w.heap.size w W0):=par_boxes _ _ hW0
  clear h hk hkb hN
  obtain⟨q0,q1,q2,q3,q4⟩:=HW0.1.c5
  go_enter Tryz.func47,Tryz.ntmps47
  go_upto_region 1 with fail
  rw[←hW0]
  clear hW0
  go_wp2_with fail
  refine(HF.out W0 HW0.2.2).mono ?_
  rintro e w1 ⟨rfl,hb1⟩
  have HW1:Hid (BoxAt w1 w.heap.size 41 5 (w.heap.size+1) [.slice none 0 0,.int .i64 0,.int .i64 0,.int .i64 0,.int .i64 0]∧Below w.heap.size w w1):=⟨HW0.2.1.below hb1,HW0.2.2.trans (hb1.mono HW0.2.2.size)⟩
  clear hb1 q0 q1 q2 q3 q4
  obtain⟨W2,hW2⟩:=qE (setP w1 (w.heap.size+1) (.slice (some ⟨g,0,none⟩) N cp) (.int .i64 (i:Int)) (.int .i64 (200:Int)) (.int .i64 5) (.int .i64 (k.pos:Int)):World)
  have hB2:=HW1.1.setP (.slice (some ⟨g,0,none⟩) N cp) (.int .i64 (i:Int)) (.int .i64 (200:Int)) (.int .i64 5) (.int .i64 (k.pos:Int))
  have hk2:=below_setP HW1.2 (k:=w.heap.size+1) (by omega) (.slice (some ⟨g,0,none⟩) N cp) (.int .i64 (i:Int)) (.int .i64 (200:Int)) (.int .i64 5) (.int .i64 (k.pos:Int))
  rw[←hW2]at hB2 hk2
  have HB2:Hid (Below w.heap.size w W2):=hk2
  obtain⟨p0,p1,p2,p3,p4⟩:=hB2.c5
  obtain⟨l0,l1,l2,l3,l4⟩:=HW1.1.c5
  have f0:=HW1.1.frozen 0
  have f1:=HW1.1.frozen 1
  have f2:=HW1.1.frozen 2
  have f3:=HW1.1.frozen 3
  have f4:=HW1.1.frozen 4
  unfold setP at hW2
  clear hB2 hk2
  go_wp2_with fail
  rw[←hW2]
  exact bodyPost_ret (v:=parV g N cp i 200 5 k.pos) (by simp[results,Tryz.results47,go_sem,p0,p1,p2,p3,p4]) rfl ⟨HB2.out,.inr ⟨by omega,rfl⟩⟩
 ·have z2:((nd:Int)==200)=false:=by rw[beq_eq_false_iff_ne];omega
  clear h hk hkb hN
  go_enter Tryz.func47,Tryz.ntmps47
  go_wp2_with fail
  refine bodyPost_ret (v:=parV g N cp (i+1) (nd+1) 0 pa) (by simp[results,Tryz.results47,go_sem]) rfl ⟨?_,.inl ⟨by omega,rfl⟩⟩
  exact(qB).alloc (by simp) _
set_option maxHeartbeats 2000000 in
theorem l5Open_core {w:World} {base g cp:Nat} {st:List (Int×Nat)} (h:OwnEn w base g cp st.reverse) (hl:st.length≤1000000):
  Calls Tryz.prog 45 #[.slice (some ⟨g,0,none⟩) st.length cp] w fun e w'=>e=.returned (.int .i64 (openF st:Int))∧w'=w:=by
 have HO:Hid (OwnEn w base g cp st.reverse):=h
 have hg:=h.lt.2
 have hcp:=h.caps
 obtain⟨n,hn⟩:=qE st.length
 have HN:Hid (n=st.length):=hn
 rw[←hn]at hl⊢
 clear h hn hcp
 go_enter Tryz.func45,Tryz.ntmps45
 go_wp2_with fail
 go_loopw[3,4] (fun nv iv wr=>∃(i m:Nat),iv=.int .i64 (i:Int)∧nv=.int .i64 (m:Int)∧i≤n∧m≤i∧m=openF (st.drop (n-i))∧wr=w) (fun _ iv _=>n-(intOf iv).toNat)
 case atStart=>exact⟨0,0,rfl,rfl,Nat.zero_le _,Nat.le_refl _,by rw[Nat.sub_zero,HN.out,List.drop_length];rfl,rfl⟩
 case round=>
  obtain⟨i,m,rfl,rfl,hi,hmi,hM,rfl⟩:=hrel
  have HM:Hid (m=openF (st.drop (n-i))):=hM
  clear hM
  by_cases hin:i<n
  ·have zi:(i:Int)<(n:Int):=by omega
   obtain⟨e,he⟩:∃e,st[n-1-i]?=some e:=⟨_,List.getElem?_eq_getElem (by have:=HN.out;omega)⟩
   have hr:st.reverse[i]?=some e:=by rw[List.getElem?_reverse (by have:=HN.out;omega),←HN.out];exact he
   have c0:=HO.cell enV_len hr 0 (by omega)
   simp at c0
   have HS:Hid (openF (st.drop (n-(i+1)))=m+if 2<e.1 then 1 else 0):=by
    show _=_
    have hlt:n-1-i<st.length:=(List.getElem?_eq_some_iff.1 he).1
    rw[show n-(i+1)=n-1-i by omega,List.drop_eq_getElem_cons hlt,show st[n-1-i]=e from Option.some.inj ((List.getElem?_eq_getElem hlt).symm.trans he),show n-1-i+1=n-i by omega,HM.out]
    rfl
   clear he hr
   by_cases h2:2<e.1
   ·rw[if_pos h2]at HS
    go_wp2_with fail
    go_roundw
    case rel=>exact⟨i+1,m+1,by go_num,by go_num,by omega,by omega,HS.symm,by first|rfl|trivial⟩
    case measure=>simp[intOf];omega
   ·rw[if_neg h2]at HS
    go_wp2_with fail
    go_roundw
    case rel=>exact⟨i+1,m,by go_num,by go_num,by omega,by omega,HS.symm,by first|rfl|trivial⟩
    case measure=>simp[intOf];omega
  ·have zi:¬(i:Int)<(n:Int):=by omega
   have HE:Hid (m=openF st):=by
    show _=_
    rw[HM.out,show n-i=0 by omega];rfl
   go_wp2_with fail
   go_ret
   exact⟨by rw[←HE.out];rfl,rfl⟩
end Go.Proofs.YtgnpcenpcmdlfaaGreatDoor
namespace Go.Proofs.YtgnpcenpcmdlfaaGreatDoor
open Go.ChangeShapes Go.WideShapes Go.ChangeAt Go.RowKit Go.Deep
set_option linter.unusedVariables false
section
variable {P:Program} {ops:Array Oper} {Q:Exit→Act→World→Prop} {md:Region.Mode} {S:World→Prop} {L:Nat}
def AnyT (P:Program) (md:Region.Mode) (ops:Array Oper) (Q:Exit→Act→World→Prop) (S:World→Prop) (L:Nat):Nat→Array Bool→Act→World→Prop
 |0,listed,a,w=>Region.ready md ops listed= []∧Q .normal a w
 |fuel+1,listed,a,w=>
  (Region.ready md ops listed= []→Q .normal a w)∧
  ∀i∈Region.ready md ops listed,wpOp P ops Q i (fun a' w'=>(i=L∨S w')∧AnyT P md ops Q S L fuel (listed.setIfInBounds i true) a' w') a w
theorem any_of_T:∀(fuel:Nat) (listed:Array Bool) (a:Act) (w:World),AnyT P md ops Q S L fuel listed a w→wpAny P md ops Q fuel listed a w
 |0,_,_,_,h=>h
 |fuel+1,_,_,_,h=>⟨h.1,fun i hi=>wpOp_mono (fun a' w' h'=>any_of_T fuel _ a' w' h'.2) (h.2 i hi)⟩
def waitsT (md:Region.Mode) (ops:Array Oper) (L i:Nat):Bool:=((ops[L]?).map (fun o=>o.after.any fun e=>Region.binds md e && e.on==i)).getD false
theorem anyT_first {i:Nat} {oi:Oper} {v:Value} (hi:ops[i]?=some oi) (hsel:∀(j:Nat) (o:Oper) cs b,ops[j]?=some o→o.op≠ .select cs b)
  (hQ:∀c a w,Q (.panic c) (a.put oi.dst v) w→Q (.panic c) a w) (hL:waitsT md ops L i=true) (hne:i≠L):
  ∀(fuel:Nat) (listed:Array Bool) (a:Act) (w:World),
   (∀j oj,ops[j]?=some oj→j≠i→listed.getD j true=false→(∀e∈oj.after,Region.binds md e=true→e.on≠i)→oi.apart ops oj=true)→
   i∈Region.ready md ops listed→YieldsIf P ops S oi v a→S w→
   AnyT P md ops Q S L fuel (listed.setIfInBounds i true) (a.put oi.dst v) w→AnyT P md ops Q S L (fuel+1) listed a w:=by
 intro fuel
 induction fuel with
 |zero=>
  intro listed a w _ hr hy hS H
  refine⟨fun h=>(by rw[h]at hr;cases hr),fun j hj=>?_⟩
  by_cases hji:j=i
  ·subst hji;exact hy.wpOp hi hS ⟨.inr hS,H⟩
  ·have:=ready_mono hj hji
   rw[H.1]at this
   cases this
 |succ fuel ih=>
  intro listed a w hfree hr hy hS H
  refine⟨fun h=>(by rw[h]at hr;cases hr),fun j hj=>?_⟩
  by_cases hji:j=i
  ·subst hji;exact hy.wpOp hi hS ⟨.inr hS,H⟩
  ·have h1:=H.2 j (ready_mono hj hji)
   obtain⟨hjun,oj,hoj,hall⟩:=mem_ready.1 hj
   have hnot:∀e∈oj.after,Region.binds md e=true→e.on≠i:=fun e he hb heq=>by
    have h1:=hall e he hb
    have h0:=(mem_ready.1 hr).1
    rw[heq]at h1
    rcases Nat.lt_or_ge i listed.size with h'|h'
    ·simp[h']at h0 h1;rw[h0]at h1;cases h1
    ·simp[Array.getElem?_eq_none h']at h1
   have hjL:j≠L:=fun q=>by
    subst q
    unfold waitsT at hL
    rw[hoj]at hL
    simp only[Option.map_some,Option.getD_some,Array.any_eq_true]at hL
    obtain⟨k,hk,hb⟩:=hL
    rw[Bool.and_eq_true,beq_iff_eq]at hb
    exact hnot _ (Array.getElem_mem hk) hb.1 hb.2
   have h2:=wpOp_putIf hoj (hfree j oj hoj hji hjun hnot) (fun cs b=>hsel i oi cs b hi) (fun cs b=>hsel j oj cs b hoj) hQ hy h1
   have hfree':∀k ok,ops[k]?=some ok→k≠i→(listed.setIfInBounds j true).getD k true=false→
     (∀e∈ok.after,Region.binds md e=true→e.on≠i)→oi.apart ops ok=true:=fun k ok hk hki hun hno=>by
    refine hfree k ok hk hki ?_ hno
    by_cases hjk:j=k
    ·subst hjk;exact hjun
    ·rw[getD_set_ne true hjk]at hun;exact hun
   refine wpOp_mono (fun a' w' h3=>⟨h3.2.1,ih (listed.setIfInBounds j true) a' w' hfree' (ready_mono hr (Ne.symm hji)) h3.1 (h3.2.1.resolve_left hjL) ?_⟩) h2
   rw[Array.setIfInBounds_comm _ _ hji]
   exact h3.2.2
theorem anyT_take {i:Nat} {oi:Oper} {v:Value} {fuel:Nat} {listed:Array Bool} {a:Act} {w:World} (hi:ops[i]?=some oi)
  (hs:Region.noSelect ops=true) (hf:Region.free md ops listed i=true) (hr:(Region.ready md ops listed).contains i=true) (hL:waitsT md ops L i=true) (hne:i≠L)
  (hQ:∀c a w,Q (.panic c) (a.put oi.dst v) w→Q (.panic c) a w) (hy:YieldsIf P ops S oi v a) (hS:S w)
  (h:AnyT P md ops Q S L fuel (listed.setIfInBounds i true) (a.put oi.dst v) w):AnyT P md ops Q S L (fuel+1) listed a w:=
 anyT_first hi (Region.noSelect_spec hs) hQ hL hne fuel listed a w (Region.free_spec hi hf) (by simpa using hr) hy hS h
theorem anyT_one {i:Nat} {o:Oper} {fuel:Nat} {listed:Array Bool} {a:Act} {w:World} (hr:Region.ready md ops listed= [i]) (ho:ops[i]?=some o)
  (h:∀K':Act→World→Prop,Shut (∀a w,(i=L∨S w)→AnyT P md ops Q S L fuel (listed.setIfInBounds i true) a w→K' a w)→if Region.wanted o (yielded ops a.tmps)=true then Oper.wp P o a w K' Q else K' (a.put o.dst undef) w):
  AnyT P md ops Q S L (fuel+1) listed a w:=by
 refine⟨fun h0=>(by rw[hr]at h0;cases h0),fun j hj=>?_⟩
 rw[hr]at hj
 simp at hj
 subst hj
 exact wpOp_step ho (fun K' hK=>h K' (fun a w hS hW=>hK a w ⟨hS,hW⟩))
theorem anyT_two {i j:Nat} {o q:Oper} {fuel:Nat} {listed:Array Bool} {a:Act} {w:World} (hr:Region.ready md ops listed= [i,j]) (ho:ops[i]?=some o) (hq:ops[j]?=some q)
  (h:∀K':Act→World→Prop,Shut (∀a w,(i=L∨S w)→AnyT P md ops Q S L fuel (listed.setIfInBounds i true) a w→K' a w)→if Region.wanted o (yielded ops a.tmps)=true then Oper.wp P o a w K' Q else K' (a.put o.dst undef) w)
  (h':∀K':Act→World→Prop,Shut (∀a w,(j=L∨S w)→AnyT P md ops Q S L fuel (listed.setIfInBounds j true) a w→K' a w)→if Region.wanted q (yielded ops a.tmps)=true then Oper.wp P q a w K' Q else K' (a.put q.dst undef) w):
  AnyT P md ops Q S L (fuel+1) listed a w:=by
 refine⟨fun h0=>(by rw[hr]at h0;cases h0),fun k hk=>?_⟩
 rw[hr]at hk
 simp at hk
 rcases hk with rfl|rfl
 ·exact wpOp_step ho (fun K' hK=>h K' (fun a w hS hW=>hK a w ⟨hS,hW⟩))
 ·exact wpOp_step hq (fun K' hK=>h' K' (fun a w hS hW=>hK a w ⟨hS,hW⟩))
theorem anyT_done {fuel:Nat} {listed:Array Bool} {a:Act} {w:World} (hr:Region.ready md ops listed= []) (h:Q .normal a w):AnyT P md ops Q S L fuel listed a w:=by
 cases fuel with
 |zero=>exact⟨hr,h⟩
 |succ n=>exact⟨fun _=>h,by rw[hr];simp⟩
theorem wp_region_T {id:Nat} {a:Act} {w:World} (L:Nat) (S:World→Prop) (hm:P.follows .mixedOrders=true)
  (h:AnyT P .any ops Q S L ops.size (Array.replicate ops.size false) a w.drew):(Code.region id ops true).wp P Q a w:=
 wp_region_any hm (any_of_T _ _ _ _ h)
end
section
variable {P:Program} {ops:Array Oper} {Q:Exit→Act→World→Prop} {md:Region.Mode} {S:World→Prop} {L:Nat}
theorem anyT_firstN {i:Nat} {oi:Oper} {v:Value} (hi:ops[i]?=some oi) (hsel:∀(j:Nat) (o:Oper) cs b,ops[j]?=some o→o.op≠ .select cs b)
  (hQ:∀c a w,Q (.panic c) (a.put oi.dst v) w→Q (.panic c) a w) (hL:ops[L]?=none):
  ∀(fuel:Nat) (listed:Array Bool) (a:Act) (w:World),
   (∀j oj,ops[j]?=some oj→j≠i→listed.getD j true=false→(∀e∈oj.after,Region.binds md e=true→e.on≠i)→oi.apart ops oj=true)→
   i∈Region.ready md ops listed→YieldsIf P ops S oi v a→S w→
   AnyT P md ops Q S L fuel (listed.setIfInBounds i true) (a.put oi.dst v) w→AnyT P md ops Q S L (fuel+1) listed a w:=by
 intro fuel
 induction fuel with
 |zero=>
  intro listed a w _ hr hy hS H
  refine⟨fun h=>(by rw[h]at hr;cases hr),fun j hj=>?_⟩
  by_cases hji:j=i
  ·subst hji;exact hy.wpOp hi hS ⟨.inr hS,H⟩
  ·have:=ready_mono hj hji
   rw[H.1]at this
   cases this
 |succ fuel ih=>
  intro listed a w hfree hr hy hS H
  refine⟨fun h=>(by rw[h]at hr;cases hr),fun j hj=>?_⟩
  by_cases hji:j=i
  ·subst hji;exact hy.wpOp hi hS ⟨.inr hS,H⟩
  ·have h1:=H.2 j (ready_mono hj hji)
   obtain⟨hjun,oj,hoj,hall⟩:=mem_ready.1 hj
   have hnot:∀e∈oj.after,Region.binds md e=true→e.on≠i:=fun e he hb heq=>by
    have h1:=hall e he hb
    have h0:=(mem_ready.1 hr).1
    rw[heq]at h1
    rcases Nat.lt_or_ge i listed.size with h'|h'
    ·simp[h']at h0 h1;rw[h0]at h1;cases h1
    ·simp[Array.getElem?_eq_none h']at h1
   have hjL:j≠L:=fun q=>by rw[q,hL]at hoj;cases hoj
   have h2:=wpOp_putIf hoj (hfree j oj hoj hji hjun hnot) (fun cs b=>hsel i oi cs b hi) (fun cs b=>hsel j oj cs b hoj) hQ hy h1
   have hfree':∀k ok,ops[k]?=some ok→k≠i→(listed.setIfInBounds j true).getD k true=false→
     (∀e∈ok.after,Region.binds md e=true→e.on≠i)→oi.apart ops ok=true:=fun k ok hk hki hun hno=>by
    refine hfree k ok hk hki ?_ hno
    by_cases hjk:j=k
    ·subst hjk;exact hjun
    ·rw[getD_set_ne true hjk]at hun;exact hun
   refine wpOp_mono (fun a' w' h3=>⟨h3.2.1,ih (listed.setIfInBounds j true) a' w' hfree' (ready_mono hr (Ne.symm hji)) h3.1 (h3.2.1.resolve_left hjL) ?_⟩) h2
   rw[Array.setIfInBounds_comm _ _ hji]
   exact h3.2.2
theorem anyT_takeN {i:Nat} {oi:Oper} {v:Value} {fuel:Nat} {listed:Array Bool} {a:Act} {w:World} (hi:ops[i]?=some oi)
  (hs:Region.noSelect ops=true) (hf:Region.free md ops listed i=true) (hr:(Region.ready md ops listed).contains i=true) (hL:ops[L]?=none)
  (hQ:∀c a w,Q (.panic c) (a.put oi.dst v) w→Q (.panic c) a w) (hy:YieldsIf P ops S oi v a) (hS:S w)
  (h:AnyT P md ops Q S L fuel (listed.setIfInBounds i true) (a.put oi.dst v) w):AnyT P md ops Q S L (fuel+1) listed a w:=
 anyT_firstN hi (Region.noSelect_spec hs) hQ hL fuel listed a w (Region.free_spec hi hf) (by simpa using hr) hy hS h
end
theorem qT {P:Program} {ops:Array Oper} {Q:Exit→Act→World→Prop} {md:Region.Mode} {S:World→Prop} {L:Nat} (i:Nat) (v:Value) {oi:Oper} {fuel:Nat} {listed:Array Bool} {a:Act} {w:World} (hi:ops[i]?=some oi)
  (hy:∀w,S w→(execOp a.eval oi).run P w=.ok (.value v) w) (hS:S w)
  (h:AnyT P md ops Q S L fuel (listed.setIfInBounds i true) (a.put oi.dst v) w)
  (hs:Region.noSelect ops=true:=by kernel_rfl) (hf:Region.free md ops listed i=true:=by kernel_rfl) (hr:(Region.ready md ops listed).contains i=true:=by kernel_rfl) (hL:ops[L]?=none:=by rfl)
  (hQ:∀c a w,Q (.panic c) (a.put oi.dst v) w→Q (.panic c) a w:=by exact fun _ _ _ h=>h) (hw:Region.wanted oi (yielded ops a.tmps)=true:=by rfl):AnyT P md ops Q S L (fuel+1) listed a w:=
 anyT_takeN hi hs hf hr hL hQ (Or.inl ⟨hw,hy⟩) hS h
theorem qU {P:Program} {ops:Array Oper} {Q:Exit→Act→World→Prop} {md:Region.Mode} {S:World→Prop} {L:Nat} (i:Nat) (v:Value) {oi:Oper} {fuel:Nat} {listed:Array Bool} {a:Act} {w:World} (hi:ops[i]?=some oi)
  (hy:∀w,S w→(execOp a.eval oi).run P w=.ok (.value v) w) (hS:S w)
  (h:AnyT P md ops Q S L fuel (listed.setIfInBounds i true) (a.put oi.dst v) w)
  (hs:Region.noSelect ops=true:=by kernel_rfl) (hf:Region.free md ops listed i=true:=by kernel_rfl) (hr:(Region.ready md ops listed).contains i=true:=by kernel_rfl) (hL:waitsT md ops L i=true:=by kernel_rfl) (hne:i≠L:=by decide)
  (hQ:∀c a w,Q (.panic c) (a.put oi.dst v) w→Q (.panic c) a w:=by exact fun _ _ _ h=>h) (hw:Region.wanted oi (yielded ops a.tmps)=true:=by rfl):AnyT P md ops Q S L (fuel+1) listed a w:=
 anyT_take hi hs hf hr hL hne hQ (Or.inl ⟨hw,hy⟩) hS h
theorem qO {P:Program} {ops:Array Oper} {Q:Exit→Act→World→Prop} {md:Region.Mode} {S:World→Prop} {L:Nat} (i:Nat) {o:Oper} {fuel:Nat} {listed:Array Bool} {a:Act} {w:World} (ho:ops[i]?=some o)
  (h:∀K':Act→World→Prop,Shut (∀a w,(i=L∨S w)→AnyT P md ops Q S L fuel (listed.setIfInBounds i true) a w→K' a w)→if Region.wanted o (yielded ops a.tmps)=true then Oper.wp P o a w K' Q else K' (a.put o.dst undef) w)
  (hr:Region.ready md ops listed= [i]:=by kernel_rfl):AnyT P md ops Q S L (fuel+1) listed a w:=anyT_one hr ho h
theorem qD {P:Program} {ops:Array Oper} {Q:Exit→Act→World→Prop} {md:Region.Mode} {S:World→Prop} {L:Nat} {fuel:Nat} {listed:Array Bool} {a:Act} {w:World} (h:Q .normal a w) (hr:Region.ready md ops listed= []:=by kernel_rfl):AnyT P md ops Q S L fuel listed a w:=anyT_done hr h
end Go.Proofs.YtgnpcenpcmdlfaaGreatDoor
namespace Go.Proofs.YtgnpcenpcmdlfaaGreatDoor
open Go.ChangeShapes Go.WideShapes Go.ChangeAt Go.RowKit Go.Deep
set_option linter.unusedVariables false
set_option linter.unusedSimpArgs false
set_option maxRecDepth 100000
abbrev ub (x:UInt8):Value:=.int .u8 (x.toNat:Int)
def BysAt (w:World) (b off:Nat) (xs:List UInt8):Prop:=∀i x,xs[i]?=some x→w.cell? ⟨b,off+i,none⟩=some (ub x)
theorem BysAt.below {B:Nat} {w w':World} {b off:Nat} {xs:List UInt8} (h:BysAt w b off xs) (hb:Below B w w') (hlt:b<B):BysAt w' b off xs:=by
 intro i x hx
 rw[hb.cell (p:=⟨b,off+i,none⟩) hlt]
 exact h i x hx
def OwnY (w:World) (base g cp:Nat) (xs:List UInt8):Prop:=w.ownsRow base 5 1 (.slice (some ⟨g,0,none⟩) xs.length cp) xs.length (xs.map ub)
theorem OwnY.lt {w:World} {base g cp:Nat} {xs:List UInt8} (h:OwnY w base g cp xs):base≤g∧g<w.heap.size:=World.ownsRow.lt h g rfl
theorem OwnY.chg {S:Nat→Prop} {w w':World} {base g cp:Nat} {xs:List UInt8} (h:OwnY w base g cp xs) (hc:Chg S w w') (hn:¬S g):OwnY w' base g cp xs:=own_chg h hc (fun k q=>by simp[Value.ownBlock]at q;subst q;exact hn)
theorem OwnY.below {w w':World} {base g cp:Nat} {xs:List UInt8} (h:OwnY w base g cp xs) (hb:Below w.heap.size w w'):OwnY w' base g cp xs:=h.chg (Chg.of_below hb) (S:=fun _=>False) (fun q=>q)
theorem OwnY.at {w:World} {base g cp:Nat} {xs:List UInt8} (h:OwnY w base g cp xs):BysAt w g 0 xs:=by
 intro k x hx
 have hk:=(List.getElem?_eq_some_iff.1 hx).1
 rw[Nat.zero_add,World.ownsRow.cellAt h k (by omega),List.getElem?_map,hx];rfl
theorem OwnY.caps {w:World} {base g cp:Nat} {xs:List UInt8} (h:OwnY w base g cp xs):xs.length≤cp∧cp≤maxLen:=by
 rcases h.2 with⟨h0,_⟩|⟨g',cap',cur,hv,_,_,hn,hcap,_,_⟩
 ·cases h0
 ·simp only[Value.slice.injEq,Option.some.injEq,Addr.mk.injEq,and_true,true_and]at hv
  obtain⟨rfl,rfl⟩:=hv
  exact⟨hn,hcap⟩
theorem ub_one (xs:List UInt8):∀u∈xs.map ub,u.oneCell'=true:=by
 intro u hu
 obtain⟨r,_,rfl⟩:=List.mem_map.1 hu
 rfl
theorem Tryz.infoByte:(Tryz.prog.info? 5).map (fun i=>(i.zero,i.size,i.bytes))=some (some (.int .u8 0),1,1):=by kernel_rfl
theorem ownY_new (w:World) {base:Nat} (hb:base≤w.heap.size):OwnY (w.alloc (Obj.cells #[] 5)) base w.heap.size 0 []:=
 World.ownsRow_made w #[] 0 hb (Nat.zero_le _) (by simp)
set_option maxHeartbeats 1000000 in
theorem pWord_1 (w:World):Calls Tryz.prog 87 #[.int .i64 1] w fun e w'=>e=.returned (.string (wordA 1))∧w'=w:=by
 go_enter Tryz.func87,Tryz.ntmps87
 go_wp2_with fail
 go_ret
 exact⟨rfl,rfl⟩
set_option maxHeartbeats 1000000 in
theorem pWord_2 (w:World):Calls Tryz.prog 87 #[.int .i64 2] w fun e w'=>e=.returned (.string (wordA 2))∧w'=w:=by
 go_enter Tryz.func87,Tryz.ntmps87
 go_wp2_with fail
 go_ret
 exact⟨rfl,rfl⟩
set_option maxHeartbeats 1000000 in
theorem pWord_3 (w:World):Calls Tryz.prog 87 #[.int .i64 3] w fun e w'=>e=.returned (.string (wordA 3))∧w'=w:=by
 go_enter Tryz.func87,Tryz.ntmps87
 go_wp2_with fail
 go_ret
 exact⟨rfl,rfl⟩
set_option maxHeartbeats 1000000 in
theorem pWord_4 (w:World):Calls Tryz.prog 87 #[.int .i64 4] w fun e w'=>e=.returned (.string (wordA 4))∧w'=w:=by
 go_enter Tryz.func87,Tryz.ntmps87
 go_wp2_with fail
 go_ret
 exact⟨rfl,rfl⟩
set_option maxHeartbeats 1000000 in
theorem pWord_5 (w:World):Calls Tryz.prog 87 #[.int .i64 5] w fun e w'=>e=.returned (.string (wordA 5))∧w'=w:=by
 go_enter Tryz.func87,Tryz.ntmps87
 go_wp2_with fail
 go_ret
 exact⟨rfl,rfl⟩
set_option maxHeartbeats 1000000 in
theorem pWord_6 (w:World):Calls Tryz.prog 87 #[.int .i64 6] w fun e w'=>e=.returned (.string (wordA 6))∧w'=w:=by
 go_enter Tryz.func87,Tryz.ntmps87
 go_wp2_with fail
 go_ret
 exact⟨rfl,rfl⟩
set_option maxHeartbeats 1000000 in
theorem pWord_7 (w:World):Calls Tryz.prog 87 #[.int .i64 7] w fun e w'=>e=.returned (.string (wordA 7))∧w'=w:=by
 go_enter Tryz.func87,Tryz.ntmps87
 go_wp2_with fail
 go_ret
 exact⟨rfl,rfl⟩
set_option maxHeartbeats 1000000 in
theorem pWord_8 (w:World):Calls Tryz.prog 87 #[.int .i64 8] w fun e w'=>e=.returned (.string (wordA 8))∧w'=w:=by
 go_enter Tryz.func87,Tryz.ntmps87
 go_wp2_with fail
 go_ret
 exact⟨rfl,rfl⟩
set_option maxHeartbeats 1000000 in
theorem pWord_9 (w:World):Calls Tryz.prog 87 #[.int .i64 9] w fun e w'=>e=.returned (.string (wordA 9))∧w'=w:=by
 go_enter Tryz.func87,Tryz.ntmps87
 go_wp2_with fail
 go_ret
 exact⟨rfl,rfl⟩
set_option maxHeartbeats 1000000 in
theorem pWord_10 (w:World):Calls Tryz.prog 87 #[.int .i64 10] w fun e w'=>e=.returned (.string (wordA 10))∧w'=w:=by
 go_enter Tryz.func87,Tryz.ntmps87
 go_wp2_with fail
 go_ret
 exact⟨rfl,rfl⟩
set_option maxHeartbeats 1000000 in
theorem pWord_11 (w:World):Calls Tryz.prog 87 #[.int .i64 11] w fun e w'=>e=.returned (.string (wordA 11))∧w'=w:=by
 go_enter Tryz.func87,Tryz.ntmps87
 go_wp2_with fail
 go_ret
 exact⟨rfl,rfl⟩
set_option maxHeartbeats 1000000 in
theorem pWord_12 (w:World):Calls Tryz.prog 87 #[.int .i64 12] w fun e w'=>e=.returned (.string (wordA 12))∧w'=w:=by
 go_enter Tryz.func87,Tryz.ntmps87
 go_wp2_with fail
 go_ret
 exact⟨rfl,rfl⟩
set_option maxHeartbeats 1000000 in
theorem pWord_13 (w:World):Calls Tryz.prog 87 #[.int .i64 13] w fun e w'=>e=.returned (.string (wordA 13))∧w'=w:=by
 go_enter Tryz.func87,Tryz.ntmps87
 go_wp2_with fail
 go_ret
 exact⟨rfl,rfl⟩
theorem pWord_all (k:Int) (w:World) (h1:1≤k) (h2:k≤13):Calls Tryz.prog 87 #[.int .i64 k] w fun e w'=>e=.returned (.string (wordA k))∧w'=w:=by
 rcases cases13 h1 h2 with rfl|rfl|rfl|rfl|rfl|rfl|rfl|rfl|rfl|rfl|rfl|rfl|rfl
 ·exact pWord_1 w
 ·exact pWord_2 w
 ·exact pWord_3 w
 ·exact pWord_4 w
 ·exact pWord_5 w
 ·exact pWord_6 w
 ·exact pWord_7 w
 ·exact pWord_8 w
 ·exact pWord_9 w
 ·exact pWord_10 w
 ·exact pWord_11 w
 ·exact pWord_12 w
 ·exact pWord_13 w
def LkP (l:ByteArray) (w:World) (e:Ending) (w':World):Prop:=∃k:Int,e=.returned (.int .i64 k)∧w'=w∧((1≤k∧k≤13∧bl (wordA k)=bl l)∨(k=0∧∀j:Int,1≤j→j≤13→¬bl (wordA j)=bl l))
set_option maxHeartbeats 2000000 in
theorem leafKind_core (l:ByteArray) (w:World):Calls Tryz.prog 50 #[.string l] w (LkP l w):=by
 go_enter Tryz.func50,Tryz.ntmps50
 go_wp2_with fail
 go_loopw[3] (fun kv wr=>∃(j:Int),kv=.int .i64 j∧1≤j∧j≤14∧(∀i:Int,1≤i→i<j→¬bl (wordA i)=bl l)∧wr=w) (fun kv _=>14-(intOf kv).toNat)
 case atStart=>exact⟨1,rfl,by omega,by omega,fun i _ _=>by omega,rfl⟩
 case round=>
  obtain⟨j,rfl,h1,h2,hJ,rfl⟩:=hrel
  have HJ:Hid (∀i:Int,1≤i→i<j→¬bl (wordA i)=bl l):=hJ
  clear hJ
  by_cases h13:j≤13
  ·go_wp2_with fail
   refine(pWord_all j _ h1 h13).mono ?_
   rintro e w1 ⟨rfl,hw1⟩
   rw[hw1]
   clear hw1
   by_cases he:bl (wordA j)=bl l
   ·have zt:((wordA j).toList==l.toList)=true:=by rw[ByteArray.toList_eq,ByteArray.toList_eq];exact beq_iff_eq.2 he
    go_wp2_with fail
    go_ret
    exact⟨j,rfl,rfl,.inl ⟨h1,h13,he⟩⟩
   ·have zt:((wordA j).toList==l.toList)=false:=by rw[ByteArray.toList_eq,ByteArray.toList_eq];exact beq_eq_false_iff_ne.2 he
    go_wp2_with fail
    go_roundw
    case rel=>exact⟨j+1,by go_num,by omega,by omega,fun i hi hij=>by
     by_cases q:i<j
     ·exact HJ.out i hi q
     ·rw[show i=j by omega];exact he,by first|rfl|trivial⟩
    case measure=>simp[intOf];omega
  ·go_wp2_with fail
   go_ret
   exact⟨0,rfl,rfl,.inr ⟨rfl,fun i hi hij=>HJ.out i hi (by omega)⟩⟩
set_option maxHeartbeats 2000000 in
theorem known_core (l:ByteArray) (w:World):Calls Tryz.prog 52 #[.string l] w fun e w'=>∃b,e=.returned (.bool b)∧w'=w∧(b=true↔∃k,kwF (bl l)=some k):=by
 go_enter Tryz.func52,Tryz.ntmps52
 go_wp2_with fail
 refine(leafKind_core l _).mono ?_
 rintro e w1 ⟨k,rfl,hw1,hk⟩
 rw[hw1]
 clear hw1
 rcases hk with⟨h1,h2,h3⟩|⟨rfl,h2⟩
 ·have zk:(0:Int)<k:=by omega
  have H3:Hid (kwF (bl l)=some k):=kwF_word (.inl ⟨h1,h2,h3⟩)
  clear h3
  go_wp2_with fail
  go_ret
  exact⟨_,rfl,rfl,by simp[H3.out]⟩
 ·have H2:Hid (∀j:Int,1≤j→j≤13→¬bl (wordA j)=bl l):=h2
  clear h2
  by_cases hi:bl l= [105,102]
  ·have zi:(l.toList== [105,102])=true:=by rw[ByteArray.toList_eq];exact beq_iff_eq.2 hi
   have H3:Hid (kwF (bl l)=some 16):=kwF_word (.inr ⟨rfl,hi⟩)
   clear hi
   go_wp2_with fail
   go_ret
   exact⟨_,rfl,rfl,by simp[H3.out,zi]⟩
  ·have zi:(l.toList== [105,102])=false:=by rw[ByteArray.toList_eq];exact beq_eq_false_iff_ne.2 hi
   have H3:Hid (∀k,¬kwF (bl l)=some k):=fun k q=>by
    rcases kwF_some q with⟨a,b,c⟩|⟨_,b⟩
    ·exact H2.out k a b c
    ·exact hi b
   clear hi
   go_wp2_with fail
   go_ret
   exact⟨_,rfl,rfl,by simp[H3.out,zi]⟩
abbrev strL (l:List UInt8):ByteArray:=⟨l.toArray⟩
theorem bl_strL (l:List UInt8):bl (strL l)=l:=by simp[strL]
theorem strL_bl (s:ByteArray):strL (bl s)=s:=by cases s;simp[strL]
theorem bysL_bytes {w:World} {b off:Nat} {xs:List UInt8} (h:BysAt w b off xs):Lib.Bytes w b off (strL xs):=by
 intro i hi
 have hi':i<xs.length:=by have:(strL xs).size=xs.length:=(by show xs.toArray.size=_;simp);omega
 have h1:=h i xs[i] (List.getElem?_eq_getElem hi')
 rw[h1]
 rfl
theorem conv_win {w:World} {b off:Nat} {xs:List UInt8} (h:BysAt w b off xs) (i m c:Nat) (hm:i+m≤xs.length):
  (convert 22 9 (.slice (some ⟨b,off+i,none⟩) m c)).run Tryz.prog w=.ok (.string (strL ((xs.drop i).take m))) w:=by
 have hsz:(strL xs).size=xs.length:=by show xs.toArray.size=_;simp
 have h1:=Lib.run_convert_window (P:=Tryz.prog) w 22 5 9 Tryz.underlying22 Tryz.underlying5 Tryz.underlying9 b off (strL xs) (bysL_bytes h) i m c (by omega)
 rw[h1]
 have h2:(strL xs).extract i (i+m)=strL ((xs.drop i).take m):=by
  rw[←strL_bl ((strL xs).extract i (i+m))]
  congr 1
  show((strL xs).extract i (i+m)).data.toList=_
  rw[Lib.extract_data,Nat.add_sub_cancel_left]
 rw[h2]
def hexI (b:UInt8):Int:=match hexV b with
 |some v=>(v:Int)
 |none=> -1
set_option maxHeartbeats 1000000 in
theorem l5Hex_core (x:UInt8) (w:World):Calls Tryz.prog 88 #[.int .u8 (x.toNat:Int)] w fun e w'=>e=.returned (.int .i64 (hexI x))∧w'=w:=by
 have hx:x.toNat<256:=x.toNat_lt
 obtain⟨n,hn⟩:=qE x.toNat
 have HX:Hid (hexI x=if 48≤n∧n≤57 then((n-48:Nat):Int)else if 97≤n∧n≤102 then((n-87:Nat):Int)else-1):=by
  show hexI x=_
  rw[hn]
  unfold hexI hexV
  by_cases h1:48≤x.toNat∧x.toNat≤57
  ·rw[if_pos h1,if_pos h1]
  ·rw[if_neg h1,if_neg h1]
   by_cases h2:97≤x.toNat∧x.toNat≤102
   ·rw[if_pos h2,if_pos h2]
   ·rw[if_neg h2,if_neg h2]
 rw[←hn]at hx⊢
 clear hn
 by_cases h1:48≤n
 ·have z1:(48:Int)≤(n:Int):=by omega
  by_cases h2:n≤57
  ·have z2:(n:Int)≤57:=by omega
   have HE:Hid (hexI x=(n:Int)-48):=by show _=_;rw[HX.out,if_pos ⟨h1,h2⟩];omega
   go_enter Tryz.func88,Tryz.ntmps88
   go_wp2_with fail
   go_ret
   exact⟨by rw[HE.out];rfl,rfl⟩
  ·have z2:¬(n:Int)≤57:=by omega
   by_cases h3:97≤n
   ·have z3:(97:Int)≤(n:Int):=by omega
    by_cases h4:n≤102
    ·have z4:(n:Int)≤102:=by omega
     have HE:Hid (hexI x=(n:Int)-97+10):=by show _=_;rw[HX.out,if_neg (by omega),if_pos ⟨h3,h4⟩];omega
     go_enter Tryz.func88,Tryz.ntmps88
     go_wp2_with fail
     go_ret
     exact⟨by rw[HE.out];rfl,rfl⟩
    ·have z4:¬(n:Int)≤102:=by omega
     go_enter Tryz.func88,Tryz.ntmps88
     go_wp2_with fail
     go_ret
     exact⟨by rw[HX.out,if_neg (by omega),if_neg (by omega)];rfl,rfl⟩
   ·have z3:¬(97:Int)≤(n:Int):=by omega
    go_enter Tryz.func88,Tryz.ntmps88
    go_wp2_with fail
    go_ret
    exact⟨by rw[HX.out,if_neg (by omega),if_neg (by omega)];rfl,rfl⟩
 ·have z1:¬(48:Int)≤(n:Int):=by omega
  have z3:¬(97:Int)≤(n:Int):=by omega
  go_enter Tryz.func88,Tryz.ntmps88
  go_wp2_with fail
  go_ret
  exact⟨by rw[HX.out,if_neg (by omega),if_neg (by omega)];rfl,rfl⟩
theorem decV_snoc (l:List UInt8) (b:UInt8):decV (l++ [b])=10*decV l+(b.toNat-48):=by simp[decV]
theorem foldl_dec_le:∀(l:List UInt8) (n:Nat),n≤l.foldl (fun n b=>10*n+(b.toNat-48)) n
 | [],n=>Nat.le_refl _
 |b::l,n=>by rw[List.foldl_cons];exact Nat.le_trans (by omega) (foldl_dec_le l _)
theorem decV_take (l:List UInt8) (k:Nat):decV (l.take k)≤decV l:=by
 conv=>rhs;rw[←List.take_append_drop k l]
 unfold decV
 rw[List.foldl_append]
 exact foldl_dec_le _ _
def DgP (d:List UInt8) (w:World) (e:Ending) (w':World):Prop:=w'=w∧((∃v,numM d=some v∧e=.returned (.tuple #[.bool true,.int .u64 (v:Int)]))∨(numM d=none∧e=.returned (.tuple #[.bool false,.int .u64 0])))
set_option maxHeartbeats 4000000 in
theorem digNum_core (b off c:Nat) (d:List UInt8) (w:World) (h:BysAt w b off d) (hb:b<w.heap.size) (hd:∀x∈d,isDig x=true) (h0:0<d.length) (hl:d.length≤100000):
  Calls Tryz.prog 53 #[.slice (some ⟨b,off,none⟩) d.length c] w (DgP d w):=by
 have HD:Hid (BysAt w b off d∧(∀x∈d,isDig x=true)):=⟨h,hd⟩
 obtain⟨n,hn⟩:=qE d.length
 have HN:Hid (n=d.length):=hn
 rw[←hn]at h0 hl⊢
 obtain⟨x0,hx0⟩:∃x,d[0]?=some x:=⟨_,List.getElem?_eq_getElem (by omega)⟩
 have c0:=h 0 x0 hx0
 simp only[Nat.add_zero]at c0
 have hh:d.head?=some x0:=by rw[←hx0];cases d<;>rfl
 have z0:((n:Int)==0)=false:=by have:¬(n:Int)=0:=(by omega);simpa using this
 have body:¬(1<n∧x0.toNat=48)→Hid (¬(1<d.length∧d.head?=some 48)):=fun q=>by
  show¬_
  rw[←hn,hh]
  rintro⟨a,e⟩
  exact q ⟨a,by cases e;rfl⟩
 have bad:(1<n∧x0.toNat=48)→Hid (numM d=none):=fun q=>by
  show _=_
  unfold numM
  rw[if_pos]
  refine⟨by omega,?_⟩
  rw[hh]
  congr 1
  exact UInt8.toNat_inj.1 q.2
 clear hn h hd hx0 hh
 have loop:Hid (¬(1<d.length∧d.head?=some 48))→True:=fun _=>trivial
 by_cases h1:1<n
 ·have z1:(1:Int)<(n:Int):=by omega
  by_cases h48:x0.toNat=48
  ·have z2:((x0.toNat:Int)==48)=true:=by have:(x0.toNat:Int)=48:=(by omega);simpa using this
   have HB:=bad ⟨h1,h48⟩
   clear bad body loop
   go_enter Tryz.func53,Tryz.ntmps53
   go_wp2_with fail
   exact bodyPost_ret (v:=.tuple #[.bool false,.int .u64 0]) (by simp[results,Tryz.results53,go_sem]) rfl ⟨rfl,.inr ⟨HB.out,rfl⟩⟩
  ·have z2:((x0.toNat:Int)==48)=false:=by have:¬(x0.toNat:Int)=48:=(by omega);simpa using this
   have HB:=body (fun q=>h48 q.2)
   clear bad body loop
   go_enter Tryz.func53,Tryz.ntmps53
   go_wp2_with fail
   clear c0 z0 z1 z2
   go_loopw[4,5] (fun nv iv wr=>∃(i v:Nat),iv=.int .i64 (i:Int)∧nv=.int .u64 (v:Int)∧i≤n∧v<18446744073709551616∧v=decV (d.take i)∧wr=w) (fun _ iv _=>n-(intOf iv).toNat)
   case atStart=>exact⟨0,0,rfl,rfl,Nat.zero_le _,by omega,rfl,rfl⟩
   case round=>
    obtain⟨i,v,rfl,rfl,hi,hv,hV,rfl⟩:=hrel
    have HV:Hid (v=decV (d.take i)):=hV
    clear hV
    by_cases hin:i<n
    ·have zi:(i:Int)<(n:Int):=by omega
     obtain⟨x,hx⟩:∃x,d[i]?=some x:=⟨_,List.getElem?_eq_getElem (by have:=HN.out;omega)⟩
     have cx:=HD.1 i x hx
     have hdx:isDig x=true:=HD.2 x (List.mem_of_getElem? hx)
     have hdx2:48≤x.toNat∧x.toNat≤57:=by unfold isDig at hdx;simpa using hdx
     obtain⟨m,hm⟩:=qE x.toNat
     have HS:Hid (decV (d.take (i+1))=10*v+(m-48)):=by
      show _=_
      rw[List.take_add_one,hx,Option.toList,decV_snoc,HV.out,hm]
     unfold ub at cx
     rw[←hm]at cx hdx2
     have y1:¬(m:Int)<48:=by omega
     have y2:¬(57:Int)<(m:Int):=by omega
     clear hx hdx hm
     by_cases hov:18446744073709551615<10*v+(m-48)
     ·have y3:(18446744073709551615-((m:Int)-48)).tdiv 10<(v:Int):=by rw[Int.tdiv_eq_ediv_of_nonneg (by omega)];omega
      have HO:Hid (numM d=none):=by
       show _=_
       unfold numM
       rw[if_neg HB.out,if_neg]
       have h9:=decV_take d (i+1)
       have h8:=HS.out
       omega
      go_wp2_with fail
      exact bodyPost_ret (v:=.tuple #[.bool false,.int .u64 0]) (by simp[results,Tryz.results53,go_sem]) rfl ⟨rfl,.inr ⟨HO.out,rfl⟩⟩
     ·have y3:¬(18446744073709551615-((m:Int)-48)).tdiv 10<(v:Int):=by rw[Int.tdiv_eq_ediv_of_nonneg (by omega)];omega
      go_wp2_with fail
      go_roundw
      case rel=>exact⟨i+1,10*v+(m-48),by go_num,by go_num,by omega,by omega,HS.symm,by first|rfl|trivial⟩
      case measure=>simp[intOf];omega
    ·have zi:¬(i:Int)<(n:Int):=by omega
     have HO:Hid (numM d=some v):=by
      show _=_
      have h9:=HV.out
      rw[List.take_of_length_le (by have:=HN.out;omega)]at h9
      unfold numM
      rw[if_neg HB.out,if_pos (by omega),h9]
     go_wp2_with fail
     exact bodyPost_ret (v:=.tuple #[.bool true,.int .u64 (v:Int)]) (by simp[results,Tryz.results53,go_sem]) rfl ⟨rfl,.inl ⟨v,HO.out,rfl⟩⟩
 ·have z1:¬(1:Int)<(n:Int):=by omega
  have HB:=body (fun q=>h1 q.1)
  clear bad body loop
  go_enter Tryz.func53,Tryz.ntmps53
  go_wp2_with fail
  clear c0 z0 z1
  go_loopw[4,5] (fun nv iv wr=>∃(i v:Nat),iv=.int .i64 (i:Int)∧nv=.int .u64 (v:Int)∧i≤n∧v<18446744073709551616∧v=decV (d.take i)∧wr=w) (fun _ iv _=>n-(intOf iv).toNat)
  case atStart=>exact⟨0,0,rfl,rfl,Nat.zero_le _,by omega,rfl,rfl⟩
  case round=>
   obtain⟨i,v,rfl,rfl,hi,hv,hV,rfl⟩:=hrel
   have HV:Hid (v=decV (d.take i)):=hV
   clear hV
   by_cases hin:i<n
   ·have zi:(i:Int)<(n:Int):=by omega
    obtain⟨x,hx⟩:∃x,d[i]?=some x:=⟨_,List.getElem?_eq_getElem (by have:=HN.out;omega)⟩
    have cx:=HD.1 i x hx
    have hdx:isDig x=true:=HD.2 x (List.mem_of_getElem? hx)
    have hdx2:48≤x.toNat∧x.toNat≤57:=by unfold isDig at hdx;simpa using hdx
    obtain⟨m,hm⟩:=qE x.toNat
    have HS:Hid (decV (d.take (i+1))=10*v+(m-48)):=by
     show _=_
     rw[List.take_add_one,hx,Option.toList,decV_snoc,HV.out,hm]
    unfold ub at cx
    rw[←hm]at cx hdx2
    have y1:¬(m:Int)<48:=by omega
    have y2:¬(57:Int)<(m:Int):=by omega
    clear hx hdx hm
    by_cases hov:18446744073709551615<10*v+(m-48)
    ·have y3:(18446744073709551615-((m:Int)-48)).tdiv 10<(v:Int):=by rw[Int.tdiv_eq_ediv_of_nonneg (by omega)];omega
     have HO:Hid (numM d=none):=by
      show _=_
      unfold numM
      rw[if_neg HB.out,if_neg]
      have h9:=decV_take d (i+1)
      have h8:=HS.out
      omega
     go_wp2_with fail
     exact bodyPost_ret (v:=.tuple #[.bool false,.int .u64 0]) (by simp[results,Tryz.results53,go_sem]) rfl ⟨rfl,.inr ⟨HO.out,rfl⟩⟩
    ·have y3:¬(18446744073709551615-((m:Int)-48)).tdiv 10<(v:Int):=by rw[Int.tdiv_eq_ediv_of_nonneg (by omega)];omega
     go_wp2_with fail
     go_roundw
     case rel=>exact⟨i+1,10*v+(m-48),by go_num,by go_num,by omega,by omega,HS.symm,by first|rfl|trivial⟩
     case measure=>simp[intOf];omega
   ·have zi:¬(i:Int)<(n:Int):=by omega
    have HO:Hid (numM d=some v):=by
     show _=_
     have h9:=HV.out
     rw[List.take_of_length_le (by have:=HN.out;omega)]at h9
     unfold numM
     rw[if_neg HB.out,if_pos (by omega),h9]
    go_wp2_with fail
    exact bodyPost_ret (v:=.tuple #[.bool true,.int .u64 (v:Int)]) (by simp[results,Tryz.results53,go_sem]) rfl ⟨rfl,.inl ⟨v,HO.out,rfl⟩⟩
end Go.Proofs.YtgnpcenpcmdlfaaGreatDoor
namespace Go.Proofs.YtgnpcenpcmdlfaaGreatDoor
set_option linter.unusedVariables false
set_option linter.unusedSimpArgs false
theorem str_nil:strM []=none:=by unfold strM;rfl
theorem str_quo (r:List UInt8):strM (34::r)=some ([],1):=by unfold strM;rw[if_pos rfl]
theorem str_pla {b:UInt8} {r:List UInt8} (h1:¬b=34) (h2:¬b=92) (h3:isPla b=true):strM (b::r)=(strM r).map (fun x=>(b::x.1,x.2+1)):=by
 conv=>lhs;unfold strM
 rw[if_neg h1,if_neg h2,if_pos h3]
theorem str_not {b:UInt8} {r:List UInt8} (h1:¬b=34) (h2:¬b=92) (h3:¬isPla b=true):strM (b::r)=none:=by
 conv=>lhs;unfold strM
 rw[if_neg h1,if_neg h2,if_neg h3]
theorem str_one:strM [92]=none:=by decide
theorem str_esc {c:UInt8} {r:List UInt8} (h:c=34∨c=92):strM (92::c::r)=(strM r).map (fun x=>(c::x.1,x.2+2)):=by
 conv=>lhs;unfold strM
 rw[if_neg (by decide),if_pos rfl]
 dsimp only
 rw[if_pos h]
theorem str_odd {c:UInt8} {r:List UInt8} (h:¬(c=34∨c=92)) (h2:¬c=120):strM (92::c::r)=none:=by
 conv=>lhs;unfold strM
 rw[if_neg (by decide),if_pos rfl]
 dsimp only
 rw[if_neg h,if_neg h2]
theorem str_x (r:List UInt8):strM (92::120::r)=(match r with
     |h::l::r3=>(match hexV h,hexV l with
      |some x,some y=>(strM r3).map (fun z=>(UInt8.ofNat (16*x+y)::z.1,z.2+4))
      |_,_=>none)
     |_=>none):=by
 conv=>lhs;unfold strM
 rw[if_neg (by decide),if_pos rfl]
 dsimp only
 rewrite [if_neg (by decide),if_pos rfl]
 cases r with
 |nil=>rfl
 |cons h r=>cases r with
  |nil=>rfl
  |cons l r=>dsimp only<;>(cases hexV h<;>cases hexV l<;>rfl)
theorem str_hex {h l:UInt8} {r:List UInt8} {x y:Nat} (h1:hexV h=some x) (h2:hexV l=some y):strM (92::120::h::l::r)=(strM r).map (fun z=>(UInt8.ofNat (16*x+y)::z.1,z.2+4)):=by
 rw[str_x]
 dsimp only
 rw[h1,h2]
theorem str_nohex {h l:UInt8} {r:List UInt8} (h1:hexV h=none∨hexV l=none):strM (92::120::h::l::r)=none:=by
 rw[str_x]
 dsimp only
 rcases h1 with q|q
 ·rw[q]
 ·rw[q];cases hexV h<;>rfl
theorem str_short {r:List UInt8} (h:r.length<2):strM (92::120::r)=none:=by
 rw[str_x]
 match r,h with
 | [],_=>rfl
 | [a],_=>rfl
theorem dropT_cons {t:List UInt8} {j:Nat} {x:UInt8} (h:t[j]?=some x):t.drop j=x::t.drop (j+1):=by
 have hj:=(List.getElem?_eq_some_iff.1 h).1
 rw[List.drop_eq_getElem_cons hj,show t[j]=x from Option.some.inj ((List.getElem?_eq_getElem hj).symm.trans h)]
def QuS (t:List UInt8) (i j:Nat) (X:List UInt8):Prop:=i+1≤j∧strM (t.drop (i+1))=(strM (t.drop j)).map (fun z=>(X++z.1,z.2+(j-(i+1))))
theorem QuS.start (t:List UInt8) (i:Nat):QuS t i (i+1) []:=by
 refine⟨Nat.le_refl _,?_⟩
 cases strM (t.drop (i+1))with
 |none=>rfl
 |some z=>simp
theorem QuS.next {t:List UInt8} {i j k:Nat} {X:List UInt8} {b:UInt8} (h:QuS t i j X) (hs:strM (t.drop j)=(strM (t.drop (j+k))).map (fun z=>(b::z.1,z.2+k))):QuS t i (j+k) (X++ [b]):=by
 refine⟨by have:=h.1;omega,?_⟩
 rw[h.2,hs,Option.map_map]
 congr 1
 funext z
 have:=h.1
 simp
 omega
theorem QuS.none {t:List UInt8} {i j:Nat} {X:List UInt8} (h:QuS t i j X) (hs:strM (t.drop j)=none):strM (t.drop (i+1))=none:=by rw[h.2,hs];rfl
theorem QuS.done {t:List UInt8} {i j:Nat} {X:List UInt8} (h:QuS t i j X) (hs:t[j]?=some 34):strM (t.drop (i+1))=some (X,j+1-(i+1)):=by
 rw[h.2,dropT_cons hs,str_quo]
 have:=h.1
 simp
 omega
theorem isPla_iff (b:UInt8):isPla b=true↔32≤b.toNat∧b.toNat≤126:=by unfold isPla;simp
theorem u8_ne {a b:UInt8} (h:¬a.toNat=b.toNat):¬a=b:=fun q=>h (by rw[q])
theorem hexV_lt {b:UInt8} {x:Nat} (h:hexV b=some x):x<16:=by
 unfold hexV at h
 split at h
 ·cases h;omega
 ·split at h
  ·cases h;omega
  ·cases h
theorem hexI_some {b:UInt8} {x:Nat} (h:hexV b=some x):hexI b=(x:Int):=by unfold hexI;rw[h]
theorem hexI_none {b:UInt8} (h:hexV b=none):hexI b= -1:=by unfold hexI;rw[h]
end Go.Proofs.YtgnpcenpcmdlfaaGreatDoor
namespace Go.Proofs.YtgnpcenpcmdlfaaGreatDoor
open Go.ChangeShapes Go.WideShapes Go.ChangeAt Go.RowKit Go.Deep
set_option linter.unusedVariables false
set_option linter.unusedSimpArgs false
set_option maxRecDepth 100000
structure WrB (w:World) (base g cp:Nat) (xs:List UInt8):Prop where
 le:base≤g
 lt:g<w.heap.size
 at_:BysAt w g 0 xs
 len:xs.length≤cp
 cap:cp≤maxLen
 room:∀j,xs.length≤j→j<cp→(w.cell? ⟨g,j,none⟩).isSome=true∧w.frozen? ⟨g,j,none⟩=false
theorem WrB.chg {S:Nat→Prop} {w w':World} {base g cp:Nat} {xs:List UInt8} (h:WrB w base g cp xs) (hc:Chg S w w') (hn:¬S g):WrB w' base g cp xs:=by
 refine⟨h.le,by have:=hc.size;have:=h.lt;omega,?_,h.len,h.cap,fun j h1 h2=>?_⟩
 ·intro i x hx
  rw[hc.cell (p:=⟨g,0+i,none⟩) h.lt hn];exact h.at_ i x hx
 ·rw[hc.cell (p:=⟨g,j,none⟩) h.lt hn,hc.frozen (p:=⟨g,j,none⟩) h.lt hn];exact h.room j h1 h2
theorem WrB.below {w w':World} {base g cp:Nat} {xs:List UInt8} (h:WrB w base g cp xs) (hb:Below w.heap.size w w'):WrB w' base g cp xs:=h.chg (Chg.of_below hb) (S:=fun _=>False) (fun q=>q)
theorem WrB.mono {w:World} {base base' g cp:Nat} {xs:List UInt8} (h:WrB w base g cp xs) (hb:base'≤base):WrB w base' g cp xs:=⟨Nat.le_trans hb h.le,h.lt,h.at_,h.len,h.cap,h.room⟩
theorem OwnY.wr {w:World} {base g cp:Nat} {xs:List UInt8} (h:OwnY w base g cp xs):WrB w base g cp xs:=by
 refine⟨h.lt.1,h.lt.2,h.at,h.caps.1,h.caps.2,fun j h1 h2=>⟨?_,World.ownsRow.frozenAt h j⟩⟩
 rcases h.2 with⟨h0,_⟩|⟨g',cap',cur,hv,_,hg,hn,hcap,hcs,_⟩
 ·cases h0
 ·simp only[Value.slice.injEq,Option.some.injEq,Addr.mk.injEq,and_true,true_and]at hv
  obtain⟨rfl,rfl⟩:=hv
  rw[cell_of_row w g j cur _ _ hg]
  have hj:j<cur.size:=by rw[hcs];omega
  simp[hj]
theorem setCells_heap (b:Nat):∀(vs:List Value) (o:Nat) (w:World),w.grownBy (w.setCells b o vs) (some b)
 | [],_,w=>grown_of_below (Below.refl _ _) _
 |v::r,o,w=>(grown_set w b o v).trans (setCells_heap b r (o+1) _)
theorem run_append_wr (w:World) (ty:TypeId) (base g cp b off cx:Nat) (l k:List UInt8) (hO:WrB w base g cp l)
  (hc:BysAt w b off k) (hlen:l.length+k.length≤2^30) (hbase:base≤w.heap.size):
  ∃g' cp' w',(Builtin.append_ #[22,22] ty #[.slice (some ⟨g,0,none⟩) l.length cp,.slice (some ⟨b,off,none⟩) k.length cx]).run Tryz.prog w=.ok (.slice (some ⟨g',0,none⟩) (l.length+k.length) cp') w'∧WrB w' base g' cp' (l++k)∧w.grownBy w' (some g)∧(g'=g∨w.heap.size≤g'):=by
 obtain⟨i,hi,hz0,hz1,hz2⟩:=info_parts Tryz.infoByte
 have hcc:∀(j:Nat) (u:Value),(k.map ub)[j]?=some u→w.cell? ((⟨b,off,none⟩:Addr).add j)=some u:=by
  intro j u hu
  rw[List.getElem?_map]at hu
  cases hk:k[j]? with
  |none=>rw[hk]at hu;cases hu
  |some r=>
   rw[hk]at hu
   simp at hu
   rw[Addr.add_mid,hc j r hk,←hu]
 have hll:(l++k).length=l.length+k.length:=List.length_append
 by_cases hroom:l.length+k.length≤cp
 ·have hr:=run_append_room_cells (P:=Tryz.prog) w 22 ty 5 i Tryz.underlying22 hi g 0 l.length cp ⟨b,off,none⟩ k.length cx (k.map ub) (by rw[List.length_map,hz1,Nat.mul_one]) hcc (ub_one k) hroom
   (fun j hj=>by rw[hz1,Nat.mul_one,Nat.zero_add];rw[List.length_map]at hj;exact(hO.room _ (by omega) (by omega)).1)
   (fun j hj=>by rw[hz1,Nat.mul_one,Nat.zero_add];rw[List.length_map]at hj;exact(hO.room _ (by omega) (by omega)).2)
  rw[hz1,Nat.mul_one,Nat.zero_add]at hr
  have hgr:=setCells_heap g (k.map ub) l.length w
  have hW:WrB (w.setCells g l.length (k.map ub)) base g cp (l++k):=by
   refine⟨hO.le,by have:=hgr.size;have:=hO.lt;omega,?_,by rw[hll];exact hroom,hO.cap,fun j h1 h2=>?_⟩
   ·intro j x hx
    rw[Nat.zero_add]
    by_cases hj:j<l.length
    ·rw[List.getElem?_append_left hj]at hx
     rw[World.cell?_setCells_out g _ _ _ _ (fun _ _=>.inl hj)]
     have:=hO.at_ j x hx
     rwa [Nat.zero_add]at this
    ·rw[List.getElem?_append_right (by omega)]at hx
     have hjk:=(List.getElem?_eq_some_iff.1 hx).1
     have h9:=World.cell?_setCells_in g (k.map ub) l.length w (fun j hj=>by rw[List.length_map]at hj;exact(hO.room _ (by omega) (by omega)).1) (j-l.length) (by rw[List.length_map];exact hjk)
     rw[show l.length+(j-l.length)=j by omega]at h9
     rw[h9,List.getElem_map]
     congr 1
     rw[List.getElem?_eq_getElem hjk]at hx
     rw[Option.some.inj hx]
   ·rw[hll]at h1
    rw[World.cell?_setCells_out g _ _ _ _ (fun _ _=>.inr (by rw[List.length_map];exact h1)),World.frozen?_setCells]
    exact hO.room j (by omega) h2
  exact⟨g,cp,_,hr,hW,hgr,.inl rfl⟩
 ·obtain⟨v',w',hr,hO',hgr⟩:=run_append_arg_grows (P:=Tryz.prog) w 22 ty 5 i _ 1 1 Tryz.underlying22 hi hz0 hz1 hz2 rfl (by decide) ⟨g,0,none⟩ l.length cp (l.map ub) (by simp) (fun j u hu=>by
        rw[List.getElem?_map]at hu
        cases hk:l[j]? with
        |none=>rw[hk]at hu;cases hu
        |some r=>
         rw[hk]at hu
         simp at hu
         rw[Addr.add_mid,hO.at_ j r hk,←hu]) ⟨b,off,none⟩ k.length cx (k.map ub) (by simp) hcc (by omega) (by unfold maxLen;omega) (by omega)
  rcases hO'.2 with⟨h0,h00⟩|⟨g',cap',cur,hv,hb',hrest⟩
  ·have h1:=hO.len
   omega
  ·subst hv
   have hW:WrB w' base g' cap' (l++k):=by
    refine(OwnY.wr (base:=w.heap.size) ?_).mono hbase
    unfold OwnY
    rw[hll,List.map_append]
    exact hO'
   exact⟨g',cap',w',hr,hW,⟨hgr.os,hgr.tape,hgr.output,hgr.size,fun k hk _=>hgr.block k hk (fun q=>by cases q)⟩,.inr hb'⟩
theorem wpList_append_wr {ops:Array Oper} {rest:List Oper} {o:Oper} {a:Act} {Q:Exit→Act→World→Prop} (w:World) (hgd:o.guard=none) (s x:Operand)
  (ho:o.op=.call {callee:=.builtin .append,args:=#[s,x],argTypes:=#[22,22]})
  (base g cp n b off m cx:Nat) (l k:List UInt8) (hs:a.eval s=.slice (some ⟨g,0,none⟩) n cp) (hx:a.eval x=.slice (some ⟨b,off,none⟩) m cx) (hn:n=l.length) (hm:m=k.length) (hO:WrB w base g cp l)
  (hc:BysAt w b off k) (hlen:l.length+k.length≤2^30) (hbase:base≤w.heap.size)
  (h:∀g' cp' w',WrB w' base g' cp' (l++k)→w.grownBy w' (some g)→(g'=g∨w.heap.size≤g')→wpList Tryz.prog ops Q rest (a.put o.dst (.slice (some ⟨g',0,none⟩) (n+m) cp')) w'):wpList Tryz.prog ops Q (o::rest) a w:=by
 subst hn hm
 refine wpList_plain hgd fun K hK=>?_
 obtain⟨g',cp',w',hr,h1,h2,h3⟩:=run_append_wr w o.type base g cp b off cx l k hO hc hlen hbase
 unfold Oper.wp execOp
 simp only[ho,resolve,invoke,builtin,Sem.run_bind,Sem.run_pure,Result.andThen_ok,List.map_toArray,List.map_cons,List.map_nil,hs,hx,hr]
 exact hK _ _ (h g' cp' w' h1 h2 h3)
theorem step_append_wr {ops:Array Oper} {oo:Oper} {a:Act} {K:Act→World→Prop} {Q:Exit→Act→World→Prop} {E:Prop} (w:World) (hgd:oo.guard=none) (s x:Operand)
  (ho:oo.op=.call {callee:=.builtin .append,args:=#[s,x],argTypes:=#[22,22]})
  (base g cp n b off m cx:Nat) (l k:List UInt8) (hs:a.eval s=.slice (some ⟨g,0,none⟩) n cp) (hx:a.eval x=.slice (some ⟨b,off,none⟩) m cx) (hn:n=l.length) (hm:m=k.length) (hO:WrB w base g cp l)
  (hc:BysAt w b off k) (hlen:l.length+k.length≤2^30) (hbase:base≤w.heap.size)
  (h:∀g' cp' w',WrB w' base g' cp' (l++k)→w.grownBy w' (some g)→(g'=g∨w.heap.size≤g')→K (a.put oo.dst (.slice (some ⟨g',0,none⟩) (n+m) cp')) w'):if Region.wanted oo (yielded ops a.tmps)=true then Oper.wp Tryz.prog oo a w K Q else E:=by
 subst hn hm
 obtain⟨g',cp',w',hr,h1,h2,h3⟩:=run_append_wr w oo.type base g cp b off cx l k hO hc hlen hbase
 rw[if_pos (by simp[Region.wanted,hgd])]
 unfold Oper.wp execOp
 simp only[ho,resolve,invoke,builtin,Sem.run_bind,Sem.run_pure,Result.andThen_ok,List.map_toArray,List.map_cons,List.map_nil,hs,hx,hr]
 exact h g' cp' w' h1 h2 h3
theorem WrB.next {w0 w w':World} {base g:Nat} (h:Below base w0 w) (hb:base≤w.heap.size) (hg:base≤g) (hgr:w.grownBy w' (some g)):Below base w0 w':=h.grown hgr hb (fun j hj=>by cases hj;exact hg)
theorem bys_new (w:World) (cs:Array Value) (xs:List UInt8) (h:cs.toList=xs.map ub):BysAt (w.alloc (Obj.cells cs 5)) w.heap.size 0 xs:=by
 intro i x hx
 rw[cell_of_row _ _ _ _ _ _ (heap_alloc_last w _),Nat.zero_add]
 rw[←Array.getElem?_toList,h,List.getElem?_map,hx]
 rfl
theorem bys_mark (w:World) (cs:Array Value) (xs:List UInt8) (fz:Nat×Nat) (h:cs.toList=xs.map ub):BysAt (w.alloc (Obj.cells cs 5 fz)) w.heap.size 0 xs:=by
 intro i x hx
 rw[cell_of_row _ _ _ _ _ _ (heap_alloc_last w _),Nat.zero_add]
 rw[←Array.getElem?_toList,h,List.getElem?_map,hx]
 rfl
def quF (l:List UInt8):Option (List UInt8×Nat):=match strM l with
 |some (c,n)=>if c.length≤200 then some (c,n)else none
 |none=>none
def QuoP (t:List UInt8) (i:Nat) (w:World) (e:Ending) (w':World):Prop:=∃(ok:Bool) (s:ByteArray) (k:Int),e=.returned (.tuple #[.bool ok,.string s,.int .i64 k])∧Hid (Below w.heap.size w w')∧((ok=true∧∃c n,quF (t.drop (i+1))=some (c,n)∧s=strL c∧k=((i+1+n:Nat):Int))∨(ok=false∧quF (t.drop (i+1))=none))
theorem quF_none {l:List UInt8} (h:strM l=none):quF l=none:=by unfold quF;rw[h]
theorem quF_long {l c:List UInt8} {n:Nat} (h:strM l=some (c,n)) (hc:¬c.length≤200):quF l=none:=by unfold quF;rw[h];exact if_neg hc
theorem quF_some {l c:List UInt8} {n:Nat} (h:strM l=some (c,n)) (hc:c.length≤200):quF l=some (c,n):=by unfold quF;rw[h];exact if_pos hc
theorem wrap64 {x:Int} (h1: -9223372036854775808≤x) (h2:x≤9223372036854775807):IntKind.i64.wrap x=x:=by
 simp only[IntKind.wrap,IntKind.bits,IntKind.signed,Bool.true_and]
 split<;>simp_all<;>omega
set_option maxHeartbeats 16000000 in
theorem l5Quoted_core (b off cap:Nat) (t:List UInt8) (i:Nat) (w:World) (h:BysAt w b off t) (hb:b<w.heap.size) (hi:i<t.length) (hl:t.length≤100000):
  Calls Tryz.prog 54 #[.slice (some ⟨b,off,none⟩) t.length cap,.int .i64 (i:Int)] w (QuoP t i w):=by
 have HT:Hid (BysAt w b off t):=h
 obtain⟨n,hn⟩:=qE t.length
 have HN:Hid (n=t.length):=hn
 rw[←hn]at hi hl⊢
 clear hn h
 obtain⟨W0,hW0⟩:=qE (w.alloc (Obj.cells #[] 5):World)
 have HW0:Hid (WrB W0 w.heap.size w.heap.size 0 []∧Below w.heap.size w W0):=by
  rw[hW0];exact⟨(ownY_new w (Nat.le_refl _)).wr,qB⟩
 go_enter Tryz.func54,Tryz.ntmps54
 go_upto_region 2 with fail
 rw[←hW0]
 clear hW0
 go_wp2_with fail
 go_loopw[7,8] (fun ov jv wr=>∃(j m g cp:Nat) (X:List UInt8),jv=.int .i64 (j:Int)∧j≤n∧m≤j∧ov=.slice (some ⟨g,0,none⟩) m cp∧m=X.length∧QuS t i j X∧WrB wr w.heap.size g cp X∧Below w.heap.size w wr) (fun _ jv _=>n-(intOf jv).toNat)
 case atStart=>exact⟨i+1,0,w.heap.size,0,[],by first|rfl|go_num,by omega,by omega,rfl,rfl,QuS.start t i,HW0.1,HW0.2⟩
 case round=>
  clear HW0
  obtain⟨j,m,g,cp,X,rfl,hj,hmj,rfl,hm,hQ,hW,hbe⟩:=hrel
  have HJ:Hid (m=X.length∧QuS t i j X∧WrB wr w.heap.size g cp X∧Below w.heap.size w wr):=⟨hm,hQ,hW,hbe⟩
  have hgl:=hW.lt
  have hge:=hW.le
  have sr:=hbe.size
  have hij:i+1≤j:=hQ.1
  obtain⟨st,hst⟩:=qE (strL X)
  have HSt:Hid (st=strL X∧∀wz,BysAt wz g 0 X→(convert 22 9 (.slice (some ⟨g,0,none⟩) m cp)).run Tryz.prog wz=.ok (.string st) wz):=⟨hst,fun wz hz=>by
   have h9:=conv_win hz 0 m cp (by omega)
   rw[hst,h9,hm];simp⟩
  clear hm hQ hW hbe hst
  have hw1:IntKind.i64.wrap ((j:Int)+1)=(j:Int)+1:=wrap64 (by omega) (by omega)
  by_cases hjn:j<n
  case neg=>
   have zj:¬(j:Int)<(n:Int):=by omega
   obtain rfl:j=n:=by omega
   have HE:Hid (quF (t.drop (i+1))=none):=quF_none (HJ.2.1.none (by rw[HN.out,List.drop_length,str_nil]))
   go_upto_region 16 with fail
   have hS0:(fun w':World=>BysAt w' g 0 X) wr.drew:=HJ.2.2.1.at_
   refine wp_region_T 99 (fun w':World=>BysAt w' g 0 X) (by kernel_rfl) ?_
   refine qT 0 ?vqax0 rfl ?yqax0 hS0 ?_
   case yqax0=>(intro wz hSw;go_simp;(try with_reducible rfl))
   try simp only[qA,List.getElem_toArray,List.getElem_cons_zero,List.getElem_cons_succ]
   refine qT 1 ?vqax1 rfl ?yqax1 hS0 ?_
   case yqax1=>(intro wz hSw;go_simp;(try with_reducible rfl))
   try simp only[qA,List.getElem_toArray,List.getElem_cons_zero,List.getElem_cons_succ]
   refine qT 2 ?vqax2 rfl ?yqax2 hS0 ?_
   case yqax2=>(intro wz hSw;go_simp;(try with_reducible rfl))
   try simp only[qA,List.getElem_toArray,List.getElem_cons_zero,List.getElem_cons_succ]
   refine qT 3 (.bool false) rfl ?yqax3 hS0 ?_
   case yqax3=>(intro wz hSw;go_simp;(try with_reducible rfl))
   try simp only[qA,List.getElem_toArray,List.getElem_cons_zero,List.getElem_cons_succ]
   refine qT 4 ?vqax4 rfl ?yqax4 hS0 ?_
   case yqax4=>(intro wz hSw;go_simp;(try with_reducible rfl))
   try simp only[qA,List.getElem_toArray,List.getElem_cons_zero,List.getElem_cons_succ]
   refine anyT_takeN (i:=5) (v:=undef) rfl (by kernel_rfl) (by kernel_rfl) (by kernel_rfl) (by rfl) (fun _ _ _ h=>h) (Or.inr ⟨by rfl,rfl⟩) hS0 ?_
   try simp only[qA,List.getElem_toArray,List.getElem_cons_zero,List.getElem_cons_succ]
   refine anyT_takeN (i:=6) (v:=undef) rfl (by kernel_rfl) (by kernel_rfl) (by kernel_rfl) (by rfl) (fun _ _ _ h=>h) (Or.inr ⟨by rfl,rfl⟩) hS0 ?_
   try simp only[qA,List.getElem_toArray,List.getElem_cons_zero,List.getElem_cons_succ]
   refine anyT_takeN (i:=7) (v:=undef) rfl (by kernel_rfl) (by kernel_rfl) (by kernel_rfl) (by rfl) (fun _ _ _ h=>h) (Or.inr ⟨by rfl,rfl⟩) hS0 ?_
   try simp only[qA,List.getElem_toArray,List.getElem_cons_zero,List.getElem_cons_succ]
   refine qT 8 ?vqax8 rfl ?yqax8 hS0 ?_
   case yqax8=>(intro wz hSw;go_simp;(try with_reducible rfl))
   try simp only[qA,List.getElem_toArray,List.getElem_cons_zero,List.getElem_cons_succ]
   refine qT 9 ?vqax9 rfl ?yqax9 hS0 ?_
   case yqax9=>(intro wz hSw;go_simp;(try with_reducible rfl))
   try simp only[qA,List.getElem_toArray,List.getElem_cons_zero,List.getElem_cons_succ]
   refine qT 10 (.string st) rfl ?yqax10 hS0 ?_
   case yqax10=>(intro wz hSw;have hcv:=HSt.2 wz hSw;go_simp;(try with_reducible rfl))
   try simp only[qA,List.getElem_toArray,List.getElem_cons_zero,List.getElem_cons_succ]
   refine qT 11 ?vqax11 rfl ?yqax11 hS0 ?_
   case yqax11=>(intro wz hSw;go_simp;(try with_reducible rfl))
   try simp only[qA,List.getElem_toArray,List.getElem_cons_zero,List.getElem_cons_succ]
   refine qT 12 (.int .i64 ((j:Int)+1)) rfl ?yqax12 hS0 ?_
   case yqax12=>(intro wz hSw;go_simp;(try with_reducible rfl);(try go_num))
   try simp only[qA,List.getElem_toArray,List.getElem_cons_zero,List.getElem_cons_succ]
   refine qT 13 ?vqax13 rfl ?yqax13 hS0 ?_
   case yqax13=>(intro wz hSw;go_simp;(try with_reducible rfl))
   try simp only[qA,List.getElem_toArray,List.getElem_cons_zero,List.getElem_cons_succ]
   refine qT 14 ?vqax14 rfl ?yqax14 hS0 ?_
   case yqax14=>(intro wz hSw;go_simp;(try with_reducible rfl))
   try simp only[qA,List.getElem_toArray,List.getElem_cons_zero,List.getElem_cons_succ]
   refine qT 15 ?vqax15 rfl ?yqax15 hS0 ?_
   case yqax15=>(intro wz hSw;go_simp;(try with_reducible rfl))
   try simp only[qA,List.getElem_toArray,List.getElem_cons_zero,List.getElem_cons_succ]
   refine qD ?_
   go_wp2_with fail
   exact bodyPost_ret (v:=.tuple #[.bool false,.string st,.int .i64 ((j:Int)+1)]) (by simp[results,Tryz.results54,go_sem]) rfl ⟨false,_,_,rfl,by first|exact HJ.2.2.2|exact HJ.2.2.2.drew,.inr ⟨rfl,HE.out⟩⟩
  case pos=>
  have zj:(j:Int)<(n:Int):=by omega
  obtain⟨x,hx⟩:∃x,t[j]?=some x:=⟨_,List.getElem?_eq_getElem (by have:=HN.out;omega)⟩
  have HC:Hid (∀k y,t[k]?=some y→wr.cell? ⟨b,off+k,none⟩=some (.int .u8 (y.toNat:Int))):=fun k y hk=>by
   rw[HJ.2.2.2.cell (p:=⟨b,off+k,none⟩) hb];exact HT.out k y hk
  have cx:=HC.out j x hx
  have HX:Hid (t[j]?=some x):=hx
  clear hx
  by_cases h34:x.toNat=34
  ·have z34:((x.toNat:Int) != 34)=false:=by have:(x.toNat:Int)=34:=(by omega);simp[this]
   obtain rfl:x=34:=UInt8.toNat_inj.1 h34
   have HS:Hid (strM (t.drop (i+1))=some (X,j+1-(i+1))):=HJ.2.1.done HX.out
   by_cases h200:m≤200
   ·have z200:(m:Int)≤200:=by omega
    have HE:Hid (quF (t.drop (i+1))=some (X,j+1-(i+1))):=quF_some HS.out (by rw[←HJ.1];exact h200)
    go_upto_region 16 with fail
    have hS0:(fun w':World=>BysAt w' g 0 X) wr.drew:=HJ.2.2.1.at_
    refine wp_region_T 99 (fun w':World=>BysAt w' g 0 X) (by kernel_rfl) ?_
    refine qT 0 ?vqbx0 rfl ?yqbx0 hS0 ?_
    case yqbx0=>(intro wz hSw;go_simp;(try with_reducible rfl))
    try simp only[qA,List.getElem_toArray,List.getElem_cons_zero,List.getElem_cons_succ]
    refine qT 1 ?vqbx1 rfl ?yqbx1 hS0 ?_
    case yqbx1=>(intro wz hSw;go_simp;(try with_reducible rfl))
    try simp only[qA,List.getElem_toArray,List.getElem_cons_zero,List.getElem_cons_succ]
    refine qT 2 ?vqbx2 rfl ?yqbx2 hS0 ?_
    case yqbx2=>(intro wz hSw;go_simp;(try with_reducible rfl))
    try simp only[qA,List.getElem_toArray,List.getElem_cons_zero,List.getElem_cons_succ]
    refine qT 3 (.bool true) rfl ?yqbx3 hS0 ?_
    case yqbx3=>(intro wz hSw;go_simp;(try with_reducible rfl))
    try simp only[qA,List.getElem_toArray,List.getElem_cons_zero,List.getElem_cons_succ]
    refine qT 4 ?vqbx4 rfl ?yqbx4 hS0 ?_
    case yqbx4=>(intro wz hSw;go_simp;(try with_reducible rfl))
    try simp only[qA,List.getElem_toArray,List.getElem_cons_zero,List.getElem_cons_succ]
    refine qT 5 ?vqbx5 rfl ?yqbx5 hS0 ?_
    case yqbx5=>(intro wz hSw;go_simp;(try with_reducible rfl))
    try simp only[qA,List.getElem_toArray,List.getElem_cons_zero,List.getElem_cons_succ]
    refine qT 6 ?vqbx6 rfl ?yqbx6 hS0 ?_
    case yqbx6=>(intro wz hSw;go_simp;(try with_reducible rfl))
    try simp only[qA,List.getElem_toArray,List.getElem_cons_zero,List.getElem_cons_succ]
    refine qT 7 (.bool true) rfl ?yqbx7 hS0 ?_
    case yqbx7=>(intro wz hSw;go_simp;(try with_reducible rfl))
    try simp only[qA,List.getElem_toArray,List.getElem_cons_zero,List.getElem_cons_succ]
    refine qT 8 ?vqbx8 rfl ?yqbx8 hS0 ?_
    case yqbx8=>(intro wz hSw;go_simp;(try with_reducible rfl))
    try simp only[qA,List.getElem_toArray,List.getElem_cons_zero,List.getElem_cons_succ]
    refine qT 9 ?vqbx9 rfl ?yqbx9 hS0 ?_
    case yqbx9=>(intro wz hSw;go_simp;(try with_reducible rfl))
    try simp only[qA,List.getElem_toArray,List.getElem_cons_zero,List.getElem_cons_succ]
    refine qT 10 (.string st) rfl ?yqbx10 hS0 ?_
    case yqbx10=>(intro wz hSw;have hcv:=HSt.2 wz hSw;go_simp;(try with_reducible rfl))
    try simp only[qA,List.getElem_toArray,List.getElem_cons_zero,List.getElem_cons_succ]
    refine qT 11 ?vqbx11 rfl ?yqbx11 hS0 ?_
    case yqbx11=>(intro wz hSw;go_simp;(try with_reducible rfl))
    try simp only[qA,List.getElem_toArray,List.getElem_cons_zero,List.getElem_cons_succ]
    refine qT 12 (.int .i64 ((j:Int)+1)) rfl ?yqbx12 hS0 ?_
    case yqbx12=>(intro wz hSw;go_simp;(try with_reducible rfl);(try go_num))
    try simp only[qA,List.getElem_toArray,List.getElem_cons_zero,List.getElem_cons_succ]
    refine qT 13 ?vqbx13 rfl ?yqbx13 hS0 ?_
    case yqbx13=>(intro wz hSw;go_simp;(try with_reducible rfl))
    try simp only[qA,List.getElem_toArray,List.getElem_cons_zero,List.getElem_cons_succ]
    refine qT 14 ?vqbx14 rfl ?yqbx14 hS0 ?_
    case yqbx14=>(intro wz hSw;go_simp;(try with_reducible rfl))
    try simp only[qA,List.getElem_toArray,List.getElem_cons_zero,List.getElem_cons_succ]
    refine qT 15 ?vqbx15 rfl ?yqbx15 hS0 ?_
    case yqbx15=>(intro wz hSw;go_simp;(try with_reducible rfl))
    try simp only[qA,List.getElem_toArray,List.getElem_cons_zero,List.getElem_cons_succ]
    refine qD ?_
    go_wp2_with fail
    exact bodyPost_ret (v:=.tuple #[.bool true,.string st,.int .i64 ((j:Int)+1)]) (by simp[results,Tryz.results54,go_sem]) rfl ⟨true,_,_,rfl,by first|exact HJ.2.2.2|exact HJ.2.2.2.drew,.inl ⟨rfl,X,_,HE.out,HSt.1,by omega⟩⟩
   ·have z200:¬(m:Int)≤200:=by omega
    have HE:Hid (quF (t.drop (i+1))=none):=quF_long HS.out (by rw[←HJ.1];exact h200)
    go_upto_region 16 with fail
    have hS0:(fun w':World=>BysAt w' g 0 X) wr.drew:=HJ.2.2.1.at_
    refine wp_region_T 99 (fun w':World=>BysAt w' g 0 X) (by kernel_rfl) ?_
    refine qT 0 ?vqcx0 rfl ?yqcx0 hS0 ?_
    case yqcx0=>(intro wz hSw;go_simp;(try with_reducible rfl))
    try simp only[qA,List.getElem_toArray,List.getElem_cons_zero,List.getElem_cons_succ]
    refine qT 1 ?vqcx1 rfl ?yqcx1 hS0 ?_
    case yqcx1=>(intro wz hSw;go_simp;(try with_reducible rfl))
    try simp only[qA,List.getElem_toArray,List.getElem_cons_zero,List.getElem_cons_succ]
    refine qT 2 ?vqcx2 rfl ?yqcx2 hS0 ?_
    case yqcx2=>(intro wz hSw;go_simp;(try with_reducible rfl))
    try simp only[qA,List.getElem_toArray,List.getElem_cons_zero,List.getElem_cons_succ]
    refine qT 3 (.bool true) rfl ?yqcx3 hS0 ?_
    case yqcx3=>(intro wz hSw;go_simp;(try with_reducible rfl))
    try simp only[qA,List.getElem_toArray,List.getElem_cons_zero,List.getElem_cons_succ]
    refine qT 4 ?vqcx4 rfl ?yqcx4 hS0 ?_
    case yqcx4=>(intro wz hSw;go_simp;(try with_reducible rfl))
    try simp only[qA,List.getElem_toArray,List.getElem_cons_zero,List.getElem_cons_succ]
    refine qT 5 ?vqcx5 rfl ?yqcx5 hS0 ?_
    case yqcx5=>(intro wz hSw;go_simp;(try with_reducible rfl))
    try simp only[qA,List.getElem_toArray,List.getElem_cons_zero,List.getElem_cons_succ]
    refine qT 6 ?vqcx6 rfl ?yqcx6 hS0 ?_
    case yqcx6=>(intro wz hSw;go_simp;(try with_reducible rfl))
    try simp only[qA,List.getElem_toArray,List.getElem_cons_zero,List.getElem_cons_succ]
    refine qT 7 (.bool false) rfl ?yqcx7 hS0 ?_
    case yqcx7=>(intro wz hSw;go_simp;(try with_reducible rfl))
    try simp only[qA,List.getElem_toArray,List.getElem_cons_zero,List.getElem_cons_succ]
    refine qT 8 ?vqcx8 rfl ?yqcx8 hS0 ?_
    case yqcx8=>(intro wz hSw;go_simp;(try with_reducible rfl))
    try simp only[qA,List.getElem_toArray,List.getElem_cons_zero,List.getElem_cons_succ]
    refine qT 9 ?vqcx9 rfl ?yqcx9 hS0 ?_
    case yqcx9=>(intro wz hSw;go_simp;(try with_reducible rfl))
    try simp only[qA,List.getElem_toArray,List.getElem_cons_zero,List.getElem_cons_succ]
    refine qT 10 (.string st) rfl ?yqcx10 hS0 ?_
    case yqcx10=>(intro wz hSw;have hcv:=HSt.2 wz hSw;go_simp;(try with_reducible rfl))
    try simp only[qA,List.getElem_toArray,List.getElem_cons_zero,List.getElem_cons_succ]
    refine qT 11 ?vqcx11 rfl ?yqcx11 hS0 ?_
    case yqcx11=>(intro wz hSw;go_simp;(try with_reducible rfl))
    try simp only[qA,List.getElem_toArray,List.getElem_cons_zero,List.getElem_cons_succ]
    refine qT 12 (.int .i64 ((j:Int)+1)) rfl ?yqcx12 hS0 ?_
    case yqcx12=>(intro wz hSw;go_simp;(try with_reducible rfl);(try go_num))
    try simp only[qA,List.getElem_toArray,List.getElem_cons_zero,List.getElem_cons_succ]
    refine qT 13 ?vqcx13 rfl ?yqcx13 hS0 ?_
    case yqcx13=>(intro wz hSw;go_simp;(try with_reducible rfl))
    try simp only[qA,List.getElem_toArray,List.getElem_cons_zero,List.getElem_cons_succ]
    refine qT 14 ?vqcx14 rfl ?yqcx14 hS0 ?_
    case yqcx14=>(intro wz hSw;go_simp;(try with_reducible rfl))
    try simp only[qA,List.getElem_toArray,List.getElem_cons_zero,List.getElem_cons_succ]
    refine qT 15 ?vqcx15 rfl ?yqcx15 hS0 ?_
    case yqcx15=>(intro wz hSw;go_simp;(try with_reducible rfl))
    try simp only[qA,List.getElem_toArray,List.getElem_cons_zero,List.getElem_cons_succ]
    refine qD ?_
    go_wp2_with fail
    exact bodyPost_ret (v:=.tuple #[.bool false,.string st,.int .i64 ((j:Int)+1)]) (by simp[results,Tryz.results54,go_sem]) rfl ⟨false,_,_,rfl,by first|exact HJ.2.2.2|exact HJ.2.2.2.drew,.inr ⟨rfl,HE.out⟩⟩
  have z34:((x.toNat:Int) != 34)=true:=by have:¬(x.toNat:Int)=34:=(by omega);simp[this]
  have hx8:x.toNat<256:=x.toNat_lt
  have ret:∀(k:Int),quF (t.drop (i+1))=none→Hid (QuoP t i w (.returned (.tuple #[.bool false,.string ⟨#[]⟩,.int .i64 k])) wr):=fun k hk=>⟨false,_,_,rfl,HJ.2.2.2,.inr ⟨rfl,hk⟩⟩
  by_cases h32:x.toNat<32
  ·have z32:(x.toNat:Int)<32:=by omega
   have HR:=ret (j:Int) (quF_none (HJ.2.1.none (by rw[dropT_cons HX.out];exact str_not (u8_ne (by show¬x.toNat=34;omega)) (u8_ne (by show¬x.toNat=92;omega)) (by rw[isPla_iff];omega))))
   clear ret
   go_wp2_with fail
   exact bodyPost_ret (v:=.tuple #[.bool false,.string ⟨#[]⟩,.int .i64 (j:Int)]) (by simp[results,Tryz.results54,go_sem]) rfl HR.out
  have z32:¬(x.toNat:Int)<32:=by omega
  by_cases h126:126<x.toNat
  ·have z126:(126:Int)<(x.toNat:Int):=by omega
   have HR:=ret (j:Int) (quF_none (HJ.2.1.none (by rw[dropT_cons HX.out];exact str_not (u8_ne (by show¬x.toNat=34;omega)) (u8_ne (by show¬x.toNat=92;omega)) (by rw[isPla_iff];omega))))
   clear ret
   go_wp2_with fail
   exact bodyPost_ret (v:=.tuple #[.bool false,.string ⟨#[]⟩,.int .i64 (j:Int)]) (by simp[results,Tryz.results54,go_sem]) rfl HR.out
  have z126:¬(126:Int)<(x.toNat:Int):=by omega
  by_cases h92:x.toNat=92
  case neg=>
   have z92:((x.toNat:Int) != 92)=true:=by have:¬(x.toNat:Int)=92:=(by omega);simp[this]
   have HQ:Hid (QuS t i (j+1) (X++ [x])):=HJ.2.1.next (k:=1) (by rw[dropT_cons HX.out];exact str_pla (u8_ne (by show¬x.toNat=34;omega)) (u8_ne (by show¬x.toNat=92;omega)) (by rw[isPla_iff];omega))
   obtain⟨W2,hW2⟩:=qE (wr.alloc (Obj.cells #[.int .u8 (x.toNat:Int)] 5):World)
   have hb2:Below wr.heap.size wr W2:=by rw[hW2];exact qB
   have s2:=hb2.size
   have HW2:Hid (WrB W2 w.heap.size g cp X∧Below w.heap.size w W2∧BysAt W2 wr.heap.size 0 [x]):=by
    refine⟨HJ.2.2.1.below hb2,HJ.2.2.2.trans (hb2.mono sr),?_⟩
    rw[hW2];exact bys_new wr _ [x] rfl
   clear hb2 ret
   go_wp2_with (at_builtin;(try rw[←hW2]);refine wpList_append_wr _ rfl _ _ rfl w.heap.size g cp m wr.heap.size 0 1 1 X [x] rfl rfl HJ.1 rfl HW2.1 HW2.2.2 ?hl ?hb ?_)
   case hl=>first|omega|(rw[←HJ.1];first|(show m+1≤_;omega)|omega)
   case hb=>omega
   intro g' cp' w' hW' hgr hat
   have hgr2:W2.grownBy w' (some g):=by first|exact hgr|(rw[hW2];exact hgr)
   have HR:Hid (WrB w' w.heap.size g' cp' (X++ [x])∧Below w.heap.size w w'∧m+1=(X++ [x]).length):=⟨hW',WrB.next HW2.2.1 (by omega) hge hgr2,by rw[List.length_append,←HJ.1];rfl⟩
   clear hW' hgr hgr2 hat hW2
   go_wp2_with fail
   go_roundw
   case rel=>exact⟨j+1,m+1,g',cp',X++ [x],by go_num,by omega,by omega,rfl,HR.2.2,HQ.out,HR.1,HR.2.1⟩
   case measure=>simp[intOf];omega
  case pos=>
  have z92:((x.toNat:Int) != 92)=false:=by have:(x.toNat:Int)=92:=(by omega);simp[this]
  obtain rfl:x=92:=UInt8.toNat_inj.1 h92
  clear h34 h32 h126 h92 hx8
  by_cases h1:j+1<n
  case neg=>
   have z1:¬(j:Int)+1<(n:Int):=by omega
   have z3:¬(j:Int)+3<(n:Int):=by omega
   have HR:=ret (j:Int) (quF_none (HJ.2.1.none (by
    rw[dropT_cons HX.out,List.drop_eq_nil_of_le (by have:=HN.out;omega)];exact str_one)))
   clear ret
   go_wp2_with fail
   exact bodyPost_ret (v:=.tuple #[.bool false,.string ⟨#[]⟩,.int .i64 (j:Int)]) (by simp[results,Tryz.results54,go_sem]) rfl HR.out
  case pos=>
  have z1:(j:Int)+1<(n:Int):=by omega
  obtain⟨y,hy⟩:∃y,t[j+1]?=some y:=⟨_,List.getElem?_eq_getElem (by have:=HN.out;omega)⟩
  have HY:Hid (t[j+1]?=some y):=hy
  have cy:=HC.out (j+1) y hy
  have hy8:y.toNat<256:=y.toNat_lt
  clear hy
  by_cases hq:y.toNat=34
  case pos=>
   have zq:((y.toNat:Int)==34)=true:=by have:(y.toNat:Int)=34:=(by omega);simp[this]
   have HQ:Hid (QuS t i (j+2) (X++ [y])):=HJ.2.1.next (k:=2) (by rw[dropT_cons HX.out,dropT_cons HY.out];exact str_esc (.inl (UInt8.toNat_inj.1 hq)))
   clear hq
   obtain⟨W2,hW2⟩:=qE (wr.alloc (Obj.cells #[.int .u8 (y.toNat:Int)] 5):World)
   have hb2:Below wr.heap.size wr W2:=by rw[hW2];exact qB
   have s2:=hb2.size
   have HW2:Hid (WrB W2 w.heap.size g cp X∧Below w.heap.size w W2∧BysAt W2 wr.heap.size 0 [y]):=by
    refine⟨HJ.2.2.1.below hb2,HJ.2.2.2.trans (hb2.mono sr),?_⟩
    rw[hW2];exact bys_new wr _ [y] rfl
   clear hb2 ret
   go_wp2_with (at_builtin;(try rw[←hW2]);refine wpList_append_wr _ rfl _ _ rfl w.heap.size g cp m wr.heap.size 0 1 1 X [y] rfl rfl HJ.1 rfl HW2.1 HW2.2.2 ?hl ?hb ?_)
   case hl=>first|omega|(rw[←HJ.1];first|(show m+1≤_;omega)|omega)
   case hb=>omega
   intro g' cp' w' hW' hgr hat
   have hgr2:W2.grownBy w' (some g):=by first|exact hgr|(rw[hW2];exact hgr)
   have HR:Hid (WrB w' w.heap.size g' cp' (X++ [y])∧Below w.heap.size w w'∧m+1=(X++ [y]).length):=⟨hW',WrB.next HW2.2.1 (by omega) hge hgr2,by rw[List.length_append,←HJ.1];rfl⟩
   clear hW' hgr hgr2 hat hW2
   go_wp2_with fail
   go_roundw
   case rel=>exact⟨j+2,m+1,g',cp',X++ [y],by go_num,by omega,by omega,rfl,HR.2.2,HQ.out,HR.1,HR.2.1⟩
   case measure=>simp[intOf];omega
  case neg=>
  have zq:((y.toNat:Int)==34)=false:=by have:¬(y.toNat:Int)=34:=(by omega);simp[this]
  by_cases hq2:y.toNat=92
  case pos=>
   have zq2:((y.toNat:Int)==92)=true:=by have:(y.toNat:Int)=92:=(by omega);simp[this]
   have HQ:Hid (QuS t i (j+2) (X++ [y])):=HJ.2.1.next (k:=2) (by rw[dropT_cons HX.out,dropT_cons HY.out];exact str_esc (.inr (UInt8.toNat_inj.1 hq2)))
   clear hq hq2
   obtain⟨W2,hW2⟩:=qE (wr.alloc (Obj.cells #[.int .u8 (y.toNat:Int)] 5):World)
   have hb2:Below wr.heap.size wr W2:=by rw[hW2];exact qB
   have s2:=hb2.size
   have HW2:Hid (WrB W2 w.heap.size g cp X∧Below w.heap.size w W2∧BysAt W2 wr.heap.size 0 [y]):=by
    refine⟨HJ.2.2.1.below hb2,HJ.2.2.2.trans (hb2.mono sr),?_⟩
    rw[hW2];exact bys_new wr _ [y] rfl
   clear hb2 ret
   go_wp2_with (at_builtin;(try rw[←hW2]);refine wpList_append_wr _ rfl _ _ rfl w.heap.size g cp m wr.heap.size 0 1 1 X [y] rfl rfl HJ.1 rfl HW2.1 HW2.2.2 ?hl ?hb ?_)
   case hl=>first|omega|(rw[←HJ.1];first|(show m+1≤_;omega)|omega)
   case hb=>omega
   intro g' cp' w' hW' hgr hat
   have hgr2:W2.grownBy w' (some g):=by first|exact hgr|(rw[hW2];exact hgr)
   have HR:Hid (WrB w' w.heap.size g' cp' (X++ [y])∧Below w.heap.size w w'∧m+1=(X++ [y]).length):=⟨hW',WrB.next HW2.2.1 (by omega) hge hgr2,by rw[List.length_append,←HJ.1];rfl⟩
   clear hW' hgr hgr2 hat hW2
   go_wp2_with fail
   go_roundw
   case rel=>exact⟨j+2,m+1,g',cp',X++ [y],by go_num,by omega,by omega,rfl,HR.2.2,HQ.out,HR.1,HR.2.1⟩
   case measure=>simp[intOf];omega
  case neg=>
  have zq2:((y.toNat:Int)==92)=false:=by have:¬(y.toNat:Int)=92:=(by omega);simp[this]
  have hno:¬(y=34∨y=92):=fun q=>by rcases q with q|q<;>subst q<;>first|exact hq rfl|exact hq2 rfl
  by_cases h3:j+3<n
  case neg=>
   have z3:¬(j:Int)+3<(n:Int):=by omega
   have HR:=ret (j:Int) (quF_none (HJ.2.1.none (by
    rw[dropT_cons HX.out,dropT_cons HY.out]
    by_cases q:y=120
    ·rw[q];exact str_short (by rw[List.length_drop];have:=HN.out;omega)
    ·exact str_odd hno q)))
   clear ret
   go_wp2_with fail
   exact bodyPost_ret (v:=.tuple #[.bool false,.string ⟨#[]⟩,.int .i64 (j:Int)]) (by simp[results,Tryz.results54,go_sem]) rfl HR.out
  case pos=>
  have z3:(j:Int)+3<(n:Int):=by omega
  by_cases h120:y.toNat=120
  case neg=>
   have z120:((y.toNat:Int)==120)=false:=by have:¬(y.toNat:Int)=120:=(by omega);simp[this]
   have HR:=ret (j:Int) (quF_none (HJ.2.1.none (by
    rw[dropT_cons HX.out,dropT_cons HY.out]
    exact str_odd hno (fun q=>h120 (by rw[q];rfl)))))
   clear ret
   go_wp2_with fail
   exact bodyPost_ret (v:=.tuple #[.bool false,.string ⟨#[]⟩,.int .i64 (j:Int)]) (by simp[results,Tryz.results54,go_sem]) rfl HR.out
  case pos=>
  have z120:((y.toNat:Int)==120)=true:=by have:(y.toNat:Int)=120:=(by omega);simp[this]
  obtain rfl:y=120:=UInt8.toNat_inj.1 h120
  clear hq hq2 hno h120 hy8
  obtain⟨u,hu⟩:∃u,t[j+2]?=some u:=⟨_,List.getElem?_eq_getElem (by have:=HN.out;omega)⟩
  obtain⟨v,hv⟩:∃v,t[j+3]?=some v:=⟨_,List.getElem?_eq_getElem (by have:=HN.out;omega)⟩
  have HU:Hid (t[j+2]?=some u∧t[j+3]?=some v):=⟨hu,hv⟩
  have cu:=HC.out (j+2) u hu
  have cw:=HC.out (j+3) v hv
  clear hu hv
  cases hxu:hexV u with
  |none=>
   have z5:¬(0:Int)≤hexI u:=by rw[hexI_none hxu];omega
   have HR:=ret (j:Int) (quF_none (HJ.2.1.none (by
    rw[dropT_cons HX.out,dropT_cons HY.out,dropT_cons HU.1,dropT_cons HU.2]
    exact str_nohex (.inl hxu))))
   clear ret
   go_wp2_with (go_at_call 88;refine(l5Hex_core u _).mono ?_;rintro e w1 ⟨rfl,hw1⟩;rw[hw1];clear hw1)
   exact bodyPost_ret (v:=.tuple #[.bool false,.string ⟨#[]⟩,.int .i64 (j:Int)]) (by simp[results,Tryz.results54,go_sem]) rfl HR.out
  |some p=>
   have z5:(0:Int)≤hexI u:=by rw[hexI_some hxu];omega
   cases hxv:hexV v with
   |none=>
    have z6:¬(0:Int)≤hexI v:=by rw[hexI_none hxv];omega
    have HR:=ret (j:Int) (quF_none (HJ.2.1.none (by
     rw[dropT_cons HX.out,dropT_cons HY.out,dropT_cons HU.1,dropT_cons HU.2]
     exact str_nohex (.inr hxv))))
    clear ret
    go_wp2_with (go_at_call 88;refine(l5Hex_core _ _).mono ?_;rintro e w1 ⟨rfl,hw1⟩;rw[hw1];clear hw1)
    exact bodyPost_ret (v:=.tuple #[.bool false,.string ⟨#[]⟩,.int .i64 (j:Int)]) (by simp[results,Tryz.results54,go_sem]) rfl HR.out
   |some q=>
    clear ret
    have hpl:=hexV_lt hxu
    have hql:=hexV_lt hxv
    obtain⟨z,hz⟩:=qE (UInt8.ofNat (16*p+q):UInt8)
    have hzn:z.toNat=16*p+q:=by rw[hz,UInt8.toNat_ofNat'];omega
    have HQ:Hid (QuS t i (j+4) (X++ [z])):=HJ.2.1.next (k:=4) (by
     rw[dropT_cons HX.out,dropT_cons HY.out,dropT_cons HU.1,dropT_cons HU.2,hz]
     exact str_hex hxu hxv)
    have HZ:Hid (IntKind.u8.wrap (16*hexI u+hexI v)=(z.toNat:Int)):=by
     show _=_
     rw[hexI_some hxu,hexI_some hxv,hzn]
     simp only[IntKind.wrap,IntKind.bits,IntKind.signed,Bool.false_and,Bool.false_eq_true,if_false]
     omega
    have z6:(0:Int)≤hexI v:=by rw[hexI_some hxv];omega
    have z7:hexI u<16:=by rw[hexI_some hxu];omega
    have z8:hexI v<16:=by rw[hexI_some hxv];omega
    clear hxu hxv hz hpl hql hzn
    have hw2:IntKind.i64.wrap ((j:Int)+2)=(j:Int)+2:=wrap64 (by omega) (by omega)
    have hw3:IntKind.i64.wrap ((j:Int)+3)=(j:Int)+3:=wrap64 (by omega) (by omega)
    have hi2:(0:Int)≤(j:Int)+2:=by omega
    have hi3:(0:Int)≤(j:Int)+3:=by omega
    have hi4:(j:Int)+2<(n:Int):=by omega
    have hi5:((j:Int)+2).toNat=j+2:=by omega
    have hi6:((j:Int)+3).toNat=j+3:=by omega
    have hw4:IntKind.i64.wrap (16*hexI u)=16*hexI u:=wrap64 (by omega) (by omega)
    have hw5:IntKind.i64.wrap (16*hexI u+hexI v)=16*hexI u+hexI v:=wrap64 (by omega) (by omega)
    have HI:Hid ((0:Int)≤(j:Int)+2):=hi2
    go_upto_region 13 with(go_at_call 88;refine(l5Hex_core _ _).mono ?_;rintro e w1 ⟨rfl,hw1⟩;rw[hw1];clear hw1)
    have hS0:(fun w':World=>w'.cell? ⟨b,off+(j+2),none⟩=some (.int .u8 (u.toNat:Int))∧w'.cell? ⟨b,off+(j+3),none⟩=some (.int .u8 (v.toNat:Int))) wr.drew:=⟨cu,cw⟩
    refine wp_region_T 99 (fun w':World=>w'.cell? ⟨b,off+(j+2),none⟩=some (.int .u8 (u.toNat:Int))∧w'.cell? ⟨b,off+(j+3),none⟩=some (.int .u8 (v.toNat:Int))) (by kernel_rfl) ?_
    refine qT 0 ?vqh0 rfl ?yqh0 hS0 ?_
    case yqh0=>(intro wz hSw;obtain⟨hz0,hz1⟩:=hSw;go_simp;(try with_reducible rfl))
    try simp only[qA,List.getElem_toArray,List.getElem_cons_zero,List.getElem_cons_succ]
    refine qT 1 ?vqh1 rfl ?yqh1 hS0 ?_
    case yqh1=>(intro wz hSw;obtain⟨hz0,hz1⟩:=hSw;go_simp;(try with_reducible rfl))
    try simp only[qA,List.getElem_toArray,List.getElem_cons_zero,List.getElem_cons_succ]
    refine qT 2 ?vqh2 rfl ?yqh2 hS0 ?_
    case yqh2=>(intro wz hSw;obtain⟨hz0,hz1⟩:=hSw;go_simp;(try with_reducible rfl))
    try simp only[qA,List.getElem_toArray,List.getElem_cons_zero,List.getElem_cons_succ]
    refine qT 3 (.int .i64 ((j:Int)+2)) rfl ?yqh3 hS0 ?_
    case yqh3=>(intro wz hSw;obtain⟨hz0,hz1⟩:=hSw;go_simp;(try with_reducible rfl);(try go_num))
    try simp only[qA,List.getElem_toArray,List.getElem_cons_zero,List.getElem_cons_succ]
    refine qT 8 ?vqh8 rfl ?yqh8 hS0 ?_
    case yqh8=>(intro wz hSw;obtain⟨hz0,hz1⟩:=hSw;go_simp;(try with_reducible rfl))
    try simp only[qA,List.getElem_toArray,List.getElem_cons_zero,List.getElem_cons_succ]
    refine qT 9 ?vqh9 rfl ?yqh9 hS0 ?_
    case yqh9=>(intro wz hSw;obtain⟨hz0,hz1⟩:=hSw;go_simp;(try with_reducible rfl))
    try simp only[qA,List.getElem_toArray,List.getElem_cons_zero,List.getElem_cons_succ]
    refine qT 10 (.int .i64 ((j:Int)+3)) rfl ?yqh10 hS0 ?_
    case yqh10=>(intro wz hSw;obtain⟨hz0,hz1⟩:=hSw;go_simp;(try with_reducible rfl);(try go_num))
    try simp only[qA,List.getElem_toArray,List.getElem_cons_zero,List.getElem_cons_succ]
    refine qT 4 ?vqh4 rfl ?yqh4 hS0 ?_
    case yqh4=>(intro wz hSw;obtain⟨hz0,hz1⟩:=hSw;go_simp;(try with_reducible rfl))
    try simp only[qA,List.getElem_toArray,List.getElem_cons_zero,List.getElem_cons_succ]
    refine qT 5 ?vqh5 rfl ?yqh5 hS0 ?_
    case yqh5=>(intro wz hSw;obtain⟨hz0,hz1⟩:=hSw;go_simp;(try with_reducible rfl))
    try simp only[qA,List.getElem_toArray,List.getElem_cons_zero,List.getElem_cons_succ]
    refine qT 11 ?vqh11 rfl ?yqh11 hS0 ?_
    case yqh11=>(intro wz hSw;obtain⟨hz0,hz1⟩:=hSw;go_simp;(try with_reducible rfl))
    try simp only[qA,List.getElem_toArray,List.getElem_cons_zero,List.getElem_cons_succ]
    refine qT 12 ?vqh12 rfl ?yqh12 hS0 ?_
    case yqh12=>(intro wz hSw;obtain⟨hz0,hz1⟩:=hSw;go_simp;(try with_reducible rfl))
    try simp only[qA,List.getElem_toArray,List.getElem_cons_zero,List.getElem_cons_succ]
    refine qO 6 rfl fun K hK=>?_
    go_simp
    go_at_call 88
    refine(l5Hex_core _ _).mono ?_
    rintro e w1 ⟨rfl,hw1⟩
    rw[hw1]
    clear hw1
    refine hK.out _ _ (.inr hS0) ?_
    clear hK
    try simp only[qA,List.getElem_toArray,List.getElem_cons_zero,List.getElem_cons_succ]
    refine qT 7 (.int .i64 (16*hexI u)) rfl ?yqh7 hS0 ?_
    case yqh7=>(intro wz hSw;obtain⟨hz0,hz1⟩:=hSw;go_simp;(try with_reducible rfl);(try go_num))
    try simp only[qA,List.getElem_toArray,List.getElem_cons_zero,List.getElem_cons_succ]
    refine qO 13 rfl fun K hK=>?_
    go_simp
    go_at_call 88
    refine(l5Hex_core _ _).mono ?_
    rintro e w1 ⟨rfl,hw1⟩
    rw[hw1]
    clear hw1
    refine hK.out _ _ (.inr hS0) ?_
    clear hK
    try simp only[qA,List.getElem_toArray,List.getElem_cons_zero,List.getElem_cons_succ]
    refine qT 14 (.int .i64 (16*hexI u+hexI v)) rfl ?yqh14 hS0 ?_
    case yqh14=>(intro wz hSw;obtain⟨hz0,hz1⟩:=hSw;go_simp;(try with_reducible rfl);(try go_num))
    try simp only[qA,List.getElem_toArray,List.getElem_cons_zero,List.getElem_cons_succ]
    refine qT 15 (.int .u8 (z.toNat:Int)) rfl ?yqh15 hS0 ?_
    case yqh15=>(intro wz hSw;obtain⟨hz0,hz1⟩:=hSw;go_simp;(try simp only[HZ.out]);(try with_reducible rfl);(try omega))
    try simp only[qA,List.getElem_toArray,List.getElem_cons_zero,List.getElem_cons_succ]
    obtain⟨W2,hW2⟩:=qE (wr.drew.alloc (Obj.cells #[.int .u8 (z.toNat:Int)] 5):World)
    have hbd:Below wr.heap.size wr wr.drew:=(Below.refl _ _).drew
    have hb2:Below wr.drew.heap.size wr.drew W2:=by rw[hW2];exact qB
    have HW2:Hid (WrB W2 w.heap.size g cp X∧Below w.heap.size w W2∧BysAt W2 wr.drew.heap.size 0 [z]):=by
     refine⟨(HJ.2.2.1.below hbd).below hb2,(HJ.2.2.2.trans (hbd.mono sr)).trans (hb2.mono sr),?_⟩
     rw[hW2];exact bys_new wr.drew _ [z] rfl
    have hS2:(fun w':World=>w'.cell? ⟨b,off+(j+2),none⟩=some (.int .u8 (u.toNat:Int))∧w'.cell? ⟨b,off+(j+3),none⟩=some (.int .u8 (v.toNat:Int))) W2:=⟨by rw[hb2.cell (p:=⟨b,off+(j+2),none⟩) (by show b<wr.heap.size;omega)];exact cu,by rw[hb2.cell (p:=⟨b,off+(j+3),none⟩) (by show b<wr.heap.size;omega)];exact cw⟩
    have s2:=hb2.size
    clear hbd hb2
    refine qO 16 rfl fun K hK=>?_
    go_simp
    rw[show(wr.alloc (Obj.cells #[.int .u8 (z.toNat:Int)] 5)).drew=W2 from by rw[hW2];rfl]
    refine hK.out _ _ (.inr hS2) ?_
    clear hK
    try simp only[qA,List.getElem_toArray,List.getElem_cons_zero,List.getElem_cons_succ]
    refine qO 17 rfl fun K hK=>?_
    refine step_append_wr W2 rfl _ _ rfl w.heap.size g cp m wr.heap.size 0 1 1 X [z] rfl rfl HJ.1 rfl HW2.1 HW2.2.2 (by rw[←HJ.1];show m+1≤_;omega) (by have:wr.drew.heap.size=wr.heap.size:=rfl;omega) (fun g' cp' w' hW' hgr hat=>?_)
    have HR:Hid (WrB w' w.heap.size g' cp' (X++ [z])∧Below w.heap.size w w'∧m+1=(X++ [z]).length):=⟨hW',WrB.next HW2.2.1 (by have:wr.drew.heap.size=wr.heap.size:=rfl;omega) hge hgr,by rw[List.length_append,←HJ.1];rfl⟩
    have hc3:Chg (fun k=>k=g) W2 w':=Chg.of_grown hgr (fun k hk=>by cases hk;rfl)
    have hbW:b<W2.heap.size:=by have:wr.drew.heap.size=wr.heap.size:=rfl;omega
    have hS3:(fun w':World=>w'.cell? ⟨b,off+(j+2),none⟩=some (.int .u8 (u.toNat:Int))∧w'.cell? ⟨b,off+(j+3),none⟩=some (.int .u8 (v.toNat:Int))) w':=⟨by rw[hc3.cell (p:=⟨b,off+(j+2),none⟩) hbW (by show¬b=g;omega)];exact hS2.1,by rw[hc3.cell (p:=⟨b,off+(j+3),none⟩) hbW (by show¬b=g;omega)];exact hS2.2⟩
    refine hK.out _ _ (.inr hS3) ?_
    clear hK hW' hgr hat hW2 hc3
    try simp only[qA,List.getElem_toArray,List.getElem_cons_zero,List.getElem_cons_succ]
    refine qT 18 ?vqh18 rfl ?yqh18 hS3 ?_
    case yqh18=>(intro wz hSw;obtain⟨hz0,hz1⟩:=hSw;go_simp;(try with_reducible rfl))
    try simp only[qA,List.getElem_toArray,List.getElem_cons_zero,List.getElem_cons_succ]
    refine qD ?_
    go_wp2_with fail
    go_roundw
    case rel=>exact⟨j+4,m+1,g',cp',X++ [z],by go_num,by omega,by omega,rfl,HR.2.2,HQ.out,HR.1,HR.2.1⟩
    case measure=>simp[intOf];omega
end Go.Proofs.YtgnpcenpcmdlfaaGreatDoor
namespace Go.Proofs.YtgnpcenpcmdlfaaGreatDoor
open Go.ChangeShapes Go.WideShapes Go.ChangeAt Go.RowKit Go.Deep
set_option linter.unusedVariables false
set_option linter.unusedSimpArgs false
theorem tw_eq (p:UInt8→Bool):∀(l:List UInt8) (k:Nat),k≤l.length→(∀j x,j<k→l[j]?=some x→p x=true)→(∀x,l[k]?=some x→p x=false)→l.takeWhile p=l.take k
 |l,0,_,_,h=>by
  cases l with
  |nil=>rfl
  |cons x l=>rw[List.takeWhile_cons,if_neg (by rw[h x rfl];simp)];rfl
 | [],k+1,hk,_,_=>by simp at hk
 |x::l,k+1,hk,ha,hz=>by
  rw[List.takeWhile_cons,if_pos (ha 0 x (by omega) rfl),List.take_succ_cons,tw_eq p l k (by simpa using hk) (fun j y hj hy=>ha (j+1) y (by omega) (by simpa using hy)) (fun y hy=>hz y (by simpa using hy))]
theorem tw_at {t:List UInt8} {p:UInt8→Bool} {i j:Nat} (hij:i≤j) (hj:j≤t.length) (ha:∀k x,i≤k→k<j→t[k]?=some x→p x=true) (hz:∀x,t[j]?=some x→p x=false):(t.drop i).takeWhile p=(t.drop i).take (j-i):=
 tw_eq p _ _ (by rw[List.length_drop];omega) (fun k x hk hx=>ha (i+k) x (by omega) (by omega) (by rw[List.getElem?_drop]at hx;exact hx)) (fun x hx=>hz x (by rw[List.getElem?_drop,Nat.add_sub_cancel' hij]at hx;exact hx))
theorem isLet_iff (b:UInt8):isLet b=true↔97≤b.toNat∧b.toNat≤122:=by unfold isLet;simp
theorem isDig_iff (b:UInt8):isDig b=true↔48≤b.toNat∧b.toNat≤57:=by unfold isDig;simp
theorem tok_let {t:List UInt8} {i:Nat} {x:UInt8} (hx:t[i]?=some x) (h:isLet x=true):tokF (t.drop i)=(kwF ((t.drop i).takeWhile isLet)).map (fun k=>(.word k,((t.drop i).takeWhile isLet).length)):=by
 rw[dropT_cons hx];conv=>lhs;unfold tokF
 dsimp only
 rw[if_pos h]
theorem tok_dig {t:List UInt8} {i:Nat} {x:UInt8} (hx:t[i]?=some x) (h0:¬isLet x=true) (h:isDig x=true):tokF (t.drop i)=(numM ((t.drop i).takeWhile isDig)).map (fun(n:Nat)=>(TkK.num (n:Int),((t.drop i).takeWhile isDig).length)):=by
 rw[dropT_cons hx];conv=>lhs;unfold tokF
 dsimp only
 rw[if_neg h0,if_pos h]
 cases numM ((x::t.drop (i+1)).takeWhile isDig)<;>rfl
theorem tok_str {t:List UInt8} {i:Nat} (hx:t[i]?=some 34):tokF (t.drop i)=(quF (t.drop (i+1))).map (fun z=>(.str (strL z.1),z.2+1)):=by
 rw[dropT_cons hx];conv=>lhs;unfold tokF
 dsimp only
 rw[if_neg (by decide),if_neg (by decide),if_pos rfl]
 unfold quF
 cases strM (t.drop (i+1))with
 |none=>rfl
 |some z=>
  obtain⟨c,n⟩:=z
  dsimp only
  split<;>rfl
theorem tok_rest {t:List UInt8} {i:Nat} {x:UInt8} (hx:t[i]?=some x) (h0:¬isLet x=true) (h1:¬isDig x=true) (h2:¬x=34):tokF (t.drop i)=if x=46∧t[i+1]?=some 46 then some (.sign 46,2)else if x=40∨x=41∨x=44∨x=62∨x=124 then some (.sign x,1)else none:=by
 rw[dropT_cons hx];conv=>lhs;unfold tokF
 dsimp only
 rw[if_neg h0,if_neg h1,if_neg h2]
 have:(t.drop (i+1)).head?=t[i+1]?:=by rw[List.head?_drop]
 rw[this]
theorem wordT_of {l:List UInt8} {k:Int} (h:kwF l=some k):wordT k=strL l:=by
 rcases kwF_some h with⟨h1,h2,rfl⟩|⟨rfl,rfl⟩
 ·unfold wordT;rw[if_neg (by omega)]
 ·rfl
end Go.Proofs.YtgnpcenpcmdlfaaGreatDoor
namespace Go.Proofs.YtgnpcenpcmdlfaaGreatDoor
open Go.ChangeShapes Go.WideShapes Go.ChangeAt Go.RowKit Go.Deep
set_option linter.unusedVariables false
set_option linter.unusedSimpArgs false
set_option maxRecDepth 100000
abbrev FsAt (w:World) (base g b off n cap i:Nat) (vs:List Value):Prop:=BoxAt w base 54 10 g (.slice (some ⟨b,off,none⟩) n cap:: .int .i64 (i:Int)::vs)
theorem FsAt.move {w:World} {base g b off n cap i:Nat} {vs:List Value} (h:FsAt w base g b off n cap i vs) (j:Nat) (u:Value) (hu:u=.int .i64 (j:Int)):FsAt (w.setCell ⟨g,1,none⟩ u) base g b off n cap j vs:=by
 subst hu
 exact BoxAt.set h 1 (.int .i64 (j:Int))
set_option maxHeartbeats 1000000 in
theorem sdem_yes (v:Value) (w:World):Calls Tryz.prog 62 #[v,.bool true] w fun e w'=>e=.returned (.tuple #[])∧w'=w:=by
 go_enter Tryz.func62,Tryz.ntmps62
 go_wp2_with fail
 go_end0
 exact⟨rfl,rfl⟩
set_option maxHeartbeats 1000000 in
theorem sdem_no {base g b off n cap i:Nat} {vs:List Value} {w:World} (h:FsAt w base g b off n cap i vs):Calls Tryz.prog 62 #[.pointer (some ⟨g,0,none⟩),.bool false] w fun e w'=>e=Pf 2 i∧w'=w:=by
 have c1:=h.cell (j:=1) rfl
 clear h
 go_enter Tryz.func62,Tryz.ntmps62
 go_wp2_with fail
 exact⟨rfl,rfl,rfl⟩
set_option maxHeartbeats 1000000 in
theorem isLetter_core (x:UInt8) (w:World):Calls Tryz.prog 55 #[.int .u8 (x.toNat:Int)] w fun e w'=>e=.returned (.bool (isLet x))∧w'=w:=by
 have hx:x.toNat<256:=x.toNat_lt
 obtain⟨n,hn⟩:=qE x.toNat
 have HP:Hid (isLet x=decide (97≤n∧n≤122)):=by show _=_;rw[hn];rfl
 rw[←hn]at hx⊢
 clear hn
 by_cases h1:97≤n
 ·have z1:(97:Int)≤(n:Int):=by omega
  by_cases h2:n≤122
  ·have z2:(n:Int)≤122:=by omega
   go_enter Tryz.func55,Tryz.ntmps55
   go_wp2_with fail
   go_ret
   exact⟨by rw[HP.out,decide_eq_true (⟨h1,h2⟩:97≤n∧n≤122)];rfl,rfl⟩
  ·have z2:¬(n:Int)≤122:=by omega
   go_enter Tryz.func55,Tryz.ntmps55
   go_wp2_with fail
   go_ret
   exact⟨by rw[HP.out,decide_eq_false (fun q:97≤n∧n≤122=>h2 q.2)];rfl,rfl⟩
 ·have z1:¬(97:Int)≤(n:Int):=by omega
  go_enter Tryz.func55,Tryz.ntmps55
  go_wp2_with fail
  go_ret
  exact⟨by rw[HP.out,decide_eq_false (fun q:97≤n∧n≤122=>h1 q.1)];rfl,rfl⟩
set_option maxHeartbeats 1000000 in
theorem isDigit_core (x:UInt8) (w:World):Calls Tryz.prog 57 #[.int .u8 (x.toNat:Int)] w fun e w'=>e=.returned (.bool (isDig x))∧w'=w:=by
 have hx:x.toNat<256:=x.toNat_lt
 obtain⟨n,hn⟩:=qE x.toNat
 have HP:Hid (isDig x=decide (48≤n∧n≤57)):=by show _=_;rw[hn];rfl
 rw[←hn]at hx⊢
 clear hn
 by_cases h1:48≤n
 ·have z1:(48:Int)≤(n:Int):=by omega
  by_cases h2:n≤57
  ·have z2:(n:Int)≤57:=by omega
   go_enter Tryz.func57,Tryz.ntmps57
   go_wp2_with fail
   go_ret
   exact⟨by rw[HP.out,decide_eq_true (⟨h1,h2⟩:48≤n∧n≤57)];rfl,rfl⟩
  ·have z2:¬(n:Int)≤57:=by omega
   go_enter Tryz.func57,Tryz.ntmps57
   go_wp2_with fail
   go_ret
   exact⟨by rw[HP.out,decide_eq_false (fun q:48≤n∧n≤57=>h2 q.2)];rfl,rfl⟩
 ·have z1:¬(48:Int)≤(n:Int):=by omega
  go_enter Tryz.func57,Tryz.ntmps57
  go_wp2_with fail
  go_ret
  exact⟨by rw[HP.out,decide_eq_false (fun q:48≤n∧n≤57=>h1 q.1)];rfl,rfl⟩
set_option maxHeartbeats 1000000 in
theorem isPlainB_core (x:UInt8) (w:World):Calls Tryz.prog 92 #[.int .u8 (x.toNat:Int)] w fun e w'=>e=.returned (.bool (isPla x))∧w'=w:=by
 have hx:x.toNat<256:=x.toNat_lt
 obtain⟨n,hn⟩:=qE x.toNat
 have HP:Hid (isPla x=decide (32≤n∧n≤126)):=by show _=_;rw[hn];rfl
 rw[←hn]at hx⊢
 clear hn
 by_cases h1:32≤n
 ·have z1:(32:Int)≤(n:Int):=by omega
  by_cases h2:n≤126
  ·have z2:(n:Int)≤126:=by omega
   go_enter Tryz.func92,Tryz.ntmps92
   go_wp2_with fail
   go_ret
   exact⟨by rw[HP.out,decide_eq_true (⟨h1,h2⟩:32≤n∧n≤126)];rfl,rfl⟩
  ·have z2:¬(n:Int)≤126:=by omega
   go_enter Tryz.func92,Tryz.ntmps92
   go_wp2_with fail
   go_ret
   exact⟨by rw[HP.out,decide_eq_false (fun q:32≤n∧n≤126=>h2 q.2)];rfl,rfl⟩
 ·have z1:¬(32:Int)≤(n:Int):=by omega
  go_enter Tryz.func92,Tryz.ntmps92
  go_wp2_with fail
  go_ret
  exact⟨by rw[HP.out,decide_eq_false (fun q:32≤n∧n≤126=>h1 q.1)];rfl,rfl⟩
set_option maxHeartbeats 8000000 in
theorem run_let {base g b off n cap i:Nat} {vs:List Value} {w:World} {t:List UInt8} (h:FsAt w base g b off n cap i vs) (hT:BysAt w b off t) (hn:n=t.length) (hl:n≤100000) (hc:n≤cap) (hcm:cap≤maxLen) (hi:i<n):
  Calls Tryz.prog 89 #[.pointer (some ⟨g,0,none⟩),.func (Fn.func 55) #[] #[]] w fun e w'=>e=.returned (.string (strL ((t.drop i).takeWhile isLet)))∧Below w.heap.size w w':=by
 have HT:Hid (FsAt w base g b off n cap i vs∧BysAt w b off t):=⟨h,hT⟩
 have HN:Hid (n=t.length):=hn
 have hgl:=h.lt.2
 obtain⟨c0,c1⟩:=h.c2
 unfold maxLen at hcm
 clear h hT hn
 go_enter Tryz.func89,Tryz.ntmps89
 go_wp2_with fail
 go_loopw[5] (fun jv wr=>∃(j:Nat),jv=.int .i64 (j:Int)∧i≤j∧j≤n∧(∀k y,i≤k→k<j→t[k]?=some y→isLet y=true)∧wr=w) (fun jv _=>n-(intOf jv).toNat)
 case atStart=>exact⟨i,rfl,Nat.le_refl _,by omega,fun k y h1 h2=>by omega,rfl⟩
 case round=>
  obtain⟨j,rfl,hij,hjn,hA0,hwx⟩:=hrel
  rw[hwx]
  clear hwx
  have HA0:Hid (∀k y,i≤k→k<j→t[k]?=some y→isLet y=true):=hA0
  clear hA0
  have fin:(∀z,t[j]?=some z→isLet z=false)→Hid ((t.drop i).takeWhile isLet=(t.drop i).take (j-i)):=fun hz=>tw_at hij (by have:=HN.out;omega) HA0.out hz
  by_cases hj:j<n
  ·have zj:(j:Int)<(n:Int):=by omega
   obtain⟨y,hy⟩:∃y,t[j]?=some y:=⟨_,List.getElem?_eq_getElem (by have:=HN.out;omega)⟩
   have cy:w.cell? ⟨b,off+j,none⟩=some (.int .u8 (y.toNat:Int)):=HT.2 j y hy
   cases hp:isLet y
   case true=>
    have HY:Hid (∀k z,i≤k→k<j+1→t[k]?=some z→isLet z=true):=fun k z h1 h2 h3=>by
     by_cases q:k<j
     ·exact HA0.out k z h1 q h3
     ·obtain rfl:k=j:=by omega
      rw[hy]at h3
      cases h3
      exact hp
    have HC:Hid (Calls Tryz.prog 55 #[.int .u8 (y.toNat:Int)] w fun e w'=>e=.returned (.bool true)∧w'=w):=by rw[←hp];exact isLetter_core y w
    clear hy hp fin
    go_wp2_with fail
    refine HC.mono ?_
    rintro e w1 ⟨rfl,hw1⟩
    rw[hw1]
    clear hw1
    go_wp2_with fail
    go_roundw
    case rel=>exact⟨j+1,by go_num,by omega,by omega,HY.out,by first|rfl|trivial⟩
    case measure=>simp[intOf];omega
   case false=>
    have HW0:=fin (fun z hz=>by rw[hy]at hz;cases hz;exact hp)
    have HC:Hid (Calls Tryz.prog 55 #[.int .u8 (y.toNat:Int)] w fun e w'=>e=.returned (.bool false)∧w'=w):=by rw[←hp];exact isLetter_core y w
    clear hy hp fin
    obtain⟨wd,hwd⟩:=qE ((t.drop i).take (j-i))
    have HW:Hid ((t.drop i).take (j-i)=wd):=hwd.symm
    have HWF:Hid ((t.drop i).takeWhile isLet=wd):=HW0.trans hwd.symm
    clear hwd HW0
    go_wp2_with fail
    refine HC.mono ?_
    rintro e w1 ⟨rfl,hw1⟩
    rw[hw1]
    clear hw1
    go_upto_region 4 with fail
    have hci:¬cap=i:=by omega
    have zij:(i:Int)≤(j:Int):=by omega
    have zjc:(j:Int)≤(cap:Int):=by omega
    have hS0:(fun w':World=>w'.cell? ⟨g,0,none⟩=some (.slice (some ⟨b,off,none⟩) n cap)∧w'.cell? ⟨g,1,none⟩=some (.int .i64 (i:Int))∧BysAt w' b off t) w.drew:=⟨c0,c1,HT.2⟩
    refine wp_region_T 99 (fun w':World=>w'.cell? ⟨g,0,none⟩=some (.slice (some ⟨b,off,none⟩) n cap)∧w'.cell? ⟨g,1,none⟩=some (.int .i64 (i:Int))∧BysAt w' b off t) (by kernel_rfl) ?_
    refine qT 0 ?vrletx0 rfl ?yrletx0 hS0 ?_
    case yrletx0=>(intro wz hSw;obtain⟨hz0,hz1,hz2⟩:=hSw;go_simp;(try with_reducible rfl))
    try simp only[qA,List.getElem_toArray,List.getElem_cons_zero,List.getElem_cons_succ]
    refine qT 1 ?vrletx1 rfl ?yrletx1 hS0 ?_
    case yrletx1=>(intro wz hSw;obtain⟨hz0,hz1,hz2⟩:=hSw;go_simp;(try with_reducible rfl))
    try simp only[qA,List.getElem_toArray,List.getElem_cons_zero,List.getElem_cons_succ]
    refine qT 2 ?vrletx2 rfl ?yrletx2 hS0 ?_
    case yrletx2=>(intro wz hSw;obtain⟨hz0,hz1,hz2⟩:=hSw;go_simp;(try with_reducible rfl))
    try simp only[qA,List.getElem_toArray,List.getElem_cons_zero,List.getElem_cons_succ]
    refine qT 3 ?vrletx3 rfl ?yrletx3 hS0 ?_
    case yrletx3=>(intro wz hSw;obtain⟨hz0,hz1,hz2⟩:=hSw;go_simp;(try with_reducible rfl))
    try simp only[qA,List.getElem_toArray,List.getElem_cons_zero,List.getElem_cons_succ]
    refine qT 4 ?vrletx4 rfl ?yrletx4 hS0 ?_
    case yrletx4=>(intro wz hSw;obtain⟨hz0,hz1,hz2⟩:=hSw;go_simp;(try with_reducible rfl))
    try simp only[qA,List.getElem_toArray,List.getElem_cons_zero,List.getElem_cons_succ]
    refine qT 5 ?vrletx5 rfl ?yrletx5 hS0 ?_
    case yrletx5=>(intro wz hSw;obtain⟨hz0,hz1,hz2⟩:=hSw;go_simp;(try with_reducible rfl))
    try simp only[qA,List.getElem_toArray,List.getElem_cons_zero,List.getElem_cons_succ]
    refine qT 6 ?vrletx6 rfl ?yrletx6 hS0 ?_
    case yrletx6=>(intro wz hSw;obtain⟨hz0,hz1,hz2⟩:=hSw;go_simp;(try with_reducible rfl))
    try simp only[qA,List.getElem_toArray,List.getElem_cons_zero,List.getElem_cons_succ]
    refine qT 7 ?vrletx7 rfl ?yrletx7 hS0 ?_
    case yrletx7=>(intro wz hSw;obtain⟨hz0,hz1,hz2⟩:=hSw;go_simp;(try with_reducible rfl))
    try simp only[qA,List.getElem_toArray,List.getElem_cons_zero,List.getElem_cons_succ]
    refine qT 8 ?vrletx8 rfl ?yrletx8 hS0 ?_
    case yrletx8=>(intro wz hSw;obtain⟨hz0,hz1,hz2⟩:=hSw;go_simp;(try with_reducible rfl))
    try simp only[qA,List.getElem_toArray,List.getElem_cons_zero,List.getElem_cons_succ]
    refine qT 9 (.slice (some ⟨b,off+i,none⟩) (j-i) (cap-i)) rfl ?yrletx9 hS0 ?_
    case yrletx9=>(intro wz hSw;obtain⟨hz0,hz1,hz2⟩:=hSw;go_simp;(try with_reducible rfl))
    try simp only[qA,List.getElem_toArray,List.getElem_cons_zero,List.getElem_cons_succ]
    refine qT 10 (.string (strL wd)) rfl ?yrletx10 hS0 ?_
    case yrletx10=>(intro wz hSw;obtain⟨hz0,hz1,hz2⟩:=hSw;have hcv:=conv_win hz2 i (j-i) (cap-i) (by have:=HN.out;omega);rw[HW.out]at hcv;go_simp;(try with_reducible rfl))
    try simp only[qA,List.getElem_toArray,List.getElem_cons_zero,List.getElem_cons_succ]
    refine qT 11 ?vrletx11 rfl ?yrletx11 hS0 ?_
    case yrletx11=>(intro wz hSw;obtain⟨hz0,hz1,hz2⟩:=hSw;go_simp;(try with_reducible rfl))
    try simp only[qA,List.getElem_toArray,List.getElem_cons_zero,List.getElem_cons_succ]
    refine qD ?_
    go_wp2_with fail
    go_ret
    exact⟨by rw[HWF.out];rfl,(Below.refl _ _).drew⟩
  ·have zj:¬(j:Int)<(n:Int):=by omega
   have HW0:=fin (fun z hz=>by rw[List.getElem?_eq_none (by have:=HN.out;omega)]at hz;cases hz)
   clear fin
   obtain⟨wd,hwd⟩:=qE ((t.drop i).take (j-i))
   have HW:Hid ((t.drop i).take (j-i)=wd):=hwd.symm
   have HWF:Hid ((t.drop i).takeWhile isLet=wd):=HW0.trans hwd.symm
   clear hwd HW0
   go_upto_region 4 with fail
   have hci:¬cap=i:=by omega
   have zij:(i:Int)≤(j:Int):=by omega
   have zjc:(j:Int)≤(cap:Int):=by omega
   have hS0:(fun w':World=>w'.cell? ⟨g,0,none⟩=some (.slice (some ⟨b,off,none⟩) n cap)∧w'.cell? ⟨g,1,none⟩=some (.int .i64 (i:Int))∧BysAt w' b off t) w.drew:=⟨c0,c1,HT.2⟩
   refine wp_region_T 99 (fun w':World=>w'.cell? ⟨g,0,none⟩=some (.slice (some ⟨b,off,none⟩) n cap)∧w'.cell? ⟨g,1,none⟩=some (.int .i64 (i:Int))∧BysAt w' b off t) (by kernel_rfl) ?_
   refine qT 0 ?vzletx0 rfl ?yzletx0 hS0 ?_
   case yzletx0=>(intro wz hSw;obtain⟨hz0,hz1,hz2⟩:=hSw;go_simp;(try with_reducible rfl))
   try simp only[qA,List.getElem_toArray,List.getElem_cons_zero,List.getElem_cons_succ]
   refine qT 1 ?vzletx1 rfl ?yzletx1 hS0 ?_
   case yzletx1=>(intro wz hSw;obtain⟨hz0,hz1,hz2⟩:=hSw;go_simp;(try with_reducible rfl))
   try simp only[qA,List.getElem_toArray,List.getElem_cons_zero,List.getElem_cons_succ]
   refine qT 2 ?vzletx2 rfl ?yzletx2 hS0 ?_
   case yzletx2=>(intro wz hSw;obtain⟨hz0,hz1,hz2⟩:=hSw;go_simp;(try with_reducible rfl))
   try simp only[qA,List.getElem_toArray,List.getElem_cons_zero,List.getElem_cons_succ]
   refine qT 3 ?vzletx3 rfl ?yzletx3 hS0 ?_
   case yzletx3=>(intro wz hSw;obtain⟨hz0,hz1,hz2⟩:=hSw;go_simp;(try with_reducible rfl))
   try simp only[qA,List.getElem_toArray,List.getElem_cons_zero,List.getElem_cons_succ]
   refine qT 4 ?vzletx4 rfl ?yzletx4 hS0 ?_
   case yzletx4=>(intro wz hSw;obtain⟨hz0,hz1,hz2⟩:=hSw;go_simp;(try with_reducible rfl))
   try simp only[qA,List.getElem_toArray,List.getElem_cons_zero,List.getElem_cons_succ]
   refine qT 5 ?vzletx5 rfl ?yzletx5 hS0 ?_
   case yzletx5=>(intro wz hSw;obtain⟨hz0,hz1,hz2⟩:=hSw;go_simp;(try with_reducible rfl))
   try simp only[qA,List.getElem_toArray,List.getElem_cons_zero,List.getElem_cons_succ]
   refine qT 6 ?vzletx6 rfl ?yzletx6 hS0 ?_
   case yzletx6=>(intro wz hSw;obtain⟨hz0,hz1,hz2⟩:=hSw;go_simp;(try with_reducible rfl))
   try simp only[qA,List.getElem_toArray,List.getElem_cons_zero,List.getElem_cons_succ]
   refine qT 7 ?vzletx7 rfl ?yzletx7 hS0 ?_
   case yzletx7=>(intro wz hSw;obtain⟨hz0,hz1,hz2⟩:=hSw;go_simp;(try with_reducible rfl))
   try simp only[qA,List.getElem_toArray,List.getElem_cons_zero,List.getElem_cons_succ]
   refine qT 8 ?vzletx8 rfl ?yzletx8 hS0 ?_
   case yzletx8=>(intro wz hSw;obtain⟨hz0,hz1,hz2⟩:=hSw;go_simp;(try with_reducible rfl))
   try simp only[qA,List.getElem_toArray,List.getElem_cons_zero,List.getElem_cons_succ]
   refine qT 9 (.slice (some ⟨b,off+i,none⟩) (j-i) (cap-i)) rfl ?yzletx9 hS0 ?_
   case yzletx9=>(intro wz hSw;obtain⟨hz0,hz1,hz2⟩:=hSw;go_simp;(try with_reducible rfl))
   try simp only[qA,List.getElem_toArray,List.getElem_cons_zero,List.getElem_cons_succ]
   refine qT 10 (.string (strL wd)) rfl ?yzletx10 hS0 ?_
   case yzletx10=>(intro wz hSw;obtain⟨hz0,hz1,hz2⟩:=hSw;have hcv:=conv_win hz2 i (j-i) (cap-i) (by have:=HN.out;omega);rw[HW.out]at hcv;go_simp;(try with_reducible rfl))
   try simp only[qA,List.getElem_toArray,List.getElem_cons_zero,List.getElem_cons_succ]
   refine qT 11 ?vzletx11 rfl ?yzletx11 hS0 ?_
   case yzletx11=>(intro wz hSw;obtain⟨hz0,hz1,hz2⟩:=hSw;go_simp;(try with_reducible rfl))
   try simp only[qA,List.getElem_toArray,List.getElem_cons_zero,List.getElem_cons_succ]
   refine qD ?_
   go_wp2_with fail
   go_ret
   exact⟨by rw[HWF.out];rfl,(Below.refl _ _).drew⟩
set_option maxHeartbeats 8000000 in
theorem run_dig {base g b off n cap i:Nat} {vs:List Value} {w:World} {t:List UInt8} (h:FsAt w base g b off n cap i vs) (hT:BysAt w b off t) (hn:n=t.length) (hl:n≤100000) (hc:n≤cap) (hcm:cap≤maxLen) (hi:i<n):
  Calls Tryz.prog 89 #[.pointer (some ⟨g,0,none⟩),.func (Fn.func 57) #[] #[]] w fun e w'=>e=.returned (.string (strL ((t.drop i).takeWhile isDig)))∧Below w.heap.size w w':=by
 have HT:Hid (FsAt w base g b off n cap i vs∧BysAt w b off t):=⟨h,hT⟩
 have HN:Hid (n=t.length):=hn
 have hgl:=h.lt.2
 obtain⟨c0,c1⟩:=h.c2
 unfold maxLen at hcm
 clear h hT hn
 go_enter Tryz.func89,Tryz.ntmps89
 go_wp2_with fail
 go_loopw[5] (fun jv wr=>∃(j:Nat),jv=.int .i64 (j:Int)∧i≤j∧j≤n∧(∀k y,i≤k→k<j→t[k]?=some y→isDig y=true)∧wr=w) (fun jv _=>n-(intOf jv).toNat)
 case atStart=>exact⟨i,rfl,Nat.le_refl _,by omega,fun k y h1 h2=>by omega,rfl⟩
 case round=>
  obtain⟨j,rfl,hij,hjn,hA0,hwx⟩:=hrel
  rw[hwx]
  clear hwx
  have HA0:Hid (∀k y,i≤k→k<j→t[k]?=some y→isDig y=true):=hA0
  clear hA0
  have fin:(∀z,t[j]?=some z→isDig z=false)→Hid ((t.drop i).takeWhile isDig=(t.drop i).take (j-i)):=fun hz=>tw_at hij (by have:=HN.out;omega) HA0.out hz
  by_cases hj:j<n
  ·have zj:(j:Int)<(n:Int):=by omega
   obtain⟨y,hy⟩:∃y,t[j]?=some y:=⟨_,List.getElem?_eq_getElem (by have:=HN.out;omega)⟩
   have cy:w.cell? ⟨b,off+j,none⟩=some (.int .u8 (y.toNat:Int)):=HT.2 j y hy
   cases hp:isDig y
   case true=>
    have HY:Hid (∀k z,i≤k→k<j+1→t[k]?=some z→isDig z=true):=fun k z h1 h2 h3=>by
     by_cases q:k<j
     ·exact HA0.out k z h1 q h3
     ·obtain rfl:k=j:=by omega
      rw[hy]at h3
      cases h3
      exact hp
    have HC:Hid (Calls Tryz.prog 57 #[.int .u8 (y.toNat:Int)] w fun e w'=>e=.returned (.bool true)∧w'=w):=by rw[←hp];exact isDigit_core y w
    clear hy hp fin
    go_wp2_with fail
    refine HC.mono ?_
    rintro e w1 ⟨rfl,hw1⟩
    rw[hw1]
    clear hw1
    go_wp2_with fail
    go_roundw
    case rel=>exact⟨j+1,by go_num,by omega,by omega,HY.out,by first|rfl|trivial⟩
    case measure=>simp[intOf];omega
   case false=>
    have HW0:=fin (fun z hz=>by rw[hy]at hz;cases hz;exact hp)
    have HC:Hid (Calls Tryz.prog 57 #[.int .u8 (y.toNat:Int)] w fun e w'=>e=.returned (.bool false)∧w'=w):=by rw[←hp];exact isDigit_core y w
    clear hy hp fin
    obtain⟨wd,hwd⟩:=qE ((t.drop i).take (j-i))
    have HW:Hid ((t.drop i).take (j-i)=wd):=hwd.symm
    have HWF:Hid ((t.drop i).takeWhile isDig=wd):=HW0.trans hwd.symm
    clear hwd HW0
    go_wp2_with fail
    refine HC.mono ?_
    rintro e w1 ⟨rfl,hw1⟩
    rw[hw1]
    clear hw1
    go_upto_region 4 with fail
    have hci:¬cap=i:=by omega
    have zij:(i:Int)≤(j:Int):=by omega
    have zjc:(j:Int)≤(cap:Int):=by omega
    have hS0:(fun w':World=>w'.cell? ⟨g,0,none⟩=some (.slice (some ⟨b,off,none⟩) n cap)∧w'.cell? ⟨g,1,none⟩=some (.int .i64 (i:Int))∧BysAt w' b off t) w.drew:=⟨c0,c1,HT.2⟩
    refine wp_region_T 99 (fun w':World=>w'.cell? ⟨g,0,none⟩=some (.slice (some ⟨b,off,none⟩) n cap)∧w'.cell? ⟨g,1,none⟩=some (.int .i64 (i:Int))∧BysAt w' b off t) (by kernel_rfl) ?_
    refine qT 0 ?vrdigx0 rfl ?yrdigx0 hS0 ?_
    case yrdigx0=>(intro wz hSw;obtain⟨hz0,hz1,hz2⟩:=hSw;go_simp;(try with_reducible rfl))
    try simp only[qA,List.getElem_toArray,List.getElem_cons_zero,List.getElem_cons_succ]
    refine qT 1 ?vrdigx1 rfl ?yrdigx1 hS0 ?_
    case yrdigx1=>(intro wz hSw;obtain⟨hz0,hz1,hz2⟩:=hSw;go_simp;(try with_reducible rfl))
    try simp only[qA,List.getElem_toArray,List.getElem_cons_zero,List.getElem_cons_succ]
    refine qT 2 ?vrdigx2 rfl ?yrdigx2 hS0 ?_
    case yrdigx2=>(intro wz hSw;obtain⟨hz0,hz1,hz2⟩:=hSw;go_simp;(try with_reducible rfl))
    try simp only[qA,List.getElem_toArray,List.getElem_cons_zero,List.getElem_cons_succ]
    refine qT 3 ?vrdigx3 rfl ?yrdigx3 hS0 ?_
    case yrdigx3=>(intro wz hSw;obtain⟨hz0,hz1,hz2⟩:=hSw;go_simp;(try with_reducible rfl))
    try simp only[qA,List.getElem_toArray,List.getElem_cons_zero,List.getElem_cons_succ]
    refine qT 4 ?vrdigx4 rfl ?yrdigx4 hS0 ?_
    case yrdigx4=>(intro wz hSw;obtain⟨hz0,hz1,hz2⟩:=hSw;go_simp;(try with_reducible rfl))
    try simp only[qA,List.getElem_toArray,List.getElem_cons_zero,List.getElem_cons_succ]
    refine qT 5 ?vrdigx5 rfl ?yrdigx5 hS0 ?_
    case yrdigx5=>(intro wz hSw;obtain⟨hz0,hz1,hz2⟩:=hSw;go_simp;(try with_reducible rfl))
    try simp only[qA,List.getElem_toArray,List.getElem_cons_zero,List.getElem_cons_succ]
    refine qT 6 ?vrdigx6 rfl ?yrdigx6 hS0 ?_
    case yrdigx6=>(intro wz hSw;obtain⟨hz0,hz1,hz2⟩:=hSw;go_simp;(try with_reducible rfl))
    try simp only[qA,List.getElem_toArray,List.getElem_cons_zero,List.getElem_cons_succ]
    refine qT 7 ?vrdigx7 rfl ?yrdigx7 hS0 ?_
    case yrdigx7=>(intro wz hSw;obtain⟨hz0,hz1,hz2⟩:=hSw;go_simp;(try with_reducible rfl))
    try simp only[qA,List.getElem_toArray,List.getElem_cons_zero,List.getElem_cons_succ]
    refine qT 8 ?vrdigx8 rfl ?yrdigx8 hS0 ?_
    case yrdigx8=>(intro wz hSw;obtain⟨hz0,hz1,hz2⟩:=hSw;go_simp;(try with_reducible rfl))
    try simp only[qA,List.getElem_toArray,List.getElem_cons_zero,List.getElem_cons_succ]
    refine qT 9 (.slice (some ⟨b,off+i,none⟩) (j-i) (cap-i)) rfl ?yrdigx9 hS0 ?_
    case yrdigx9=>(intro wz hSw;obtain⟨hz0,hz1,hz2⟩:=hSw;go_simp;(try with_reducible rfl))
    try simp only[qA,List.getElem_toArray,List.getElem_cons_zero,List.getElem_cons_succ]
    refine qT 10 (.string (strL wd)) rfl ?yrdigx10 hS0 ?_
    case yrdigx10=>(intro wz hSw;obtain⟨hz0,hz1,hz2⟩:=hSw;have hcv:=conv_win hz2 i (j-i) (cap-i) (by have:=HN.out;omega);rw[HW.out]at hcv;go_simp;(try with_reducible rfl))
    try simp only[qA,List.getElem_toArray,List.getElem_cons_zero,List.getElem_cons_succ]
    refine qT 11 ?vrdigx11 rfl ?yrdigx11 hS0 ?_
    case yrdigx11=>(intro wz hSw;obtain⟨hz0,hz1,hz2⟩:=hSw;go_simp;(try with_reducible rfl))
    try simp only[qA,List.getElem_toArray,List.getElem_cons_zero,List.getElem_cons_succ]
    refine qD ?_
    go_wp2_with fail
    go_ret
    exact⟨by rw[HWF.out];rfl,(Below.refl _ _).drew⟩
  ·have zj:¬(j:Int)<(n:Int):=by omega
   have HW0:=fin (fun z hz=>by rw[List.getElem?_eq_none (by have:=HN.out;omega)]at hz;cases hz)
   clear fin
   obtain⟨wd,hwd⟩:=qE ((t.drop i).take (j-i))
   have HW:Hid ((t.drop i).take (j-i)=wd):=hwd.symm
   have HWF:Hid ((t.drop i).takeWhile isDig=wd):=HW0.trans hwd.symm
   clear hwd HW0
   go_upto_region 4 with fail
   have hci:¬cap=i:=by omega
   have zij:(i:Int)≤(j:Int):=by omega
   have zjc:(j:Int)≤(cap:Int):=by omega
   have hS0:(fun w':World=>w'.cell? ⟨g,0,none⟩=some (.slice (some ⟨b,off,none⟩) n cap)∧w'.cell? ⟨g,1,none⟩=some (.int .i64 (i:Int))∧BysAt w' b off t) w.drew:=⟨c0,c1,HT.2⟩
   refine wp_region_T 99 (fun w':World=>w'.cell? ⟨g,0,none⟩=some (.slice (some ⟨b,off,none⟩) n cap)∧w'.cell? ⟨g,1,none⟩=some (.int .i64 (i:Int))∧BysAt w' b off t) (by kernel_rfl) ?_
   refine qT 0 ?vzdigx0 rfl ?yzdigx0 hS0 ?_
   case yzdigx0=>(intro wz hSw;obtain⟨hz0,hz1,hz2⟩:=hSw;go_simp;(try with_reducible rfl))
   try simp only[qA,List.getElem_toArray,List.getElem_cons_zero,List.getElem_cons_succ]
   refine qT 1 ?vzdigx1 rfl ?yzdigx1 hS0 ?_
   case yzdigx1=>(intro wz hSw;obtain⟨hz0,hz1,hz2⟩:=hSw;go_simp;(try with_reducible rfl))
   try simp only[qA,List.getElem_toArray,List.getElem_cons_zero,List.getElem_cons_succ]
   refine qT 2 ?vzdigx2 rfl ?yzdigx2 hS0 ?_
   case yzdigx2=>(intro wz hSw;obtain⟨hz0,hz1,hz2⟩:=hSw;go_simp;(try with_reducible rfl))
   try simp only[qA,List.getElem_toArray,List.getElem_cons_zero,List.getElem_cons_succ]
   refine qT 3 ?vzdigx3 rfl ?yzdigx3 hS0 ?_
   case yzdigx3=>(intro wz hSw;obtain⟨hz0,hz1,hz2⟩:=hSw;go_simp;(try with_reducible rfl))
   try simp only[qA,List.getElem_toArray,List.getElem_cons_zero,List.getElem_cons_succ]
   refine qT 4 ?vzdigx4 rfl ?yzdigx4 hS0 ?_
   case yzdigx4=>(intro wz hSw;obtain⟨hz0,hz1,hz2⟩:=hSw;go_simp;(try with_reducible rfl))
   try simp only[qA,List.getElem_toArray,List.getElem_cons_zero,List.getElem_cons_succ]
   refine qT 5 ?vzdigx5 rfl ?yzdigx5 hS0 ?_
   case yzdigx5=>(intro wz hSw;obtain⟨hz0,hz1,hz2⟩:=hSw;go_simp;(try with_reducible rfl))
   try simp only[qA,List.getElem_toArray,List.getElem_cons_zero,List.getElem_cons_succ]
   refine qT 6 ?vzdigx6 rfl ?yzdigx6 hS0 ?_
   case yzdigx6=>(intro wz hSw;obtain⟨hz0,hz1,hz2⟩:=hSw;go_simp;(try with_reducible rfl))
   try simp only[qA,List.getElem_toArray,List.getElem_cons_zero,List.getElem_cons_succ]
   refine qT 7 ?vzdigx7 rfl ?yzdigx7 hS0 ?_
   case yzdigx7=>(intro wz hSw;obtain⟨hz0,hz1,hz2⟩:=hSw;go_simp;(try with_reducible rfl))
   try simp only[qA,List.getElem_toArray,List.getElem_cons_zero,List.getElem_cons_succ]
   refine qT 8 ?vzdigx8 rfl ?yzdigx8 hS0 ?_
   case yzdigx8=>(intro wz hSw;obtain⟨hz0,hz1,hz2⟩:=hSw;go_simp;(try with_reducible rfl))
   try simp only[qA,List.getElem_toArray,List.getElem_cons_zero,List.getElem_cons_succ]
   refine qT 9 (.slice (some ⟨b,off+i,none⟩) (j-i) (cap-i)) rfl ?yzdigx9 hS0 ?_
   case yzdigx9=>(intro wz hSw;obtain⟨hz0,hz1,hz2⟩:=hSw;go_simp;(try with_reducible rfl))
   try simp only[qA,List.getElem_toArray,List.getElem_cons_zero,List.getElem_cons_succ]
   refine qT 10 (.string (strL wd)) rfl ?yzdigx10 hS0 ?_
   case yzdigx10=>(intro wz hSw;obtain⟨hz0,hz1,hz2⟩:=hSw;have hcv:=conv_win hz2 i (j-i) (cap-i) (by have:=HN.out;omega);rw[HW.out]at hcv;go_simp;(try with_reducible rfl))
   try simp only[qA,List.getElem_toArray,List.getElem_cons_zero,List.getElem_cons_succ]
   refine qT 11 ?vzdigx11 rfl ?yzdigx11 hS0 ?_
   case yzdigx11=>(intro wz hSw;obtain⟨hz0,hz1,hz2⟩:=hSw;go_simp;(try with_reducible rfl))
   try simp only[qA,List.getElem_toArray,List.getElem_cons_zero,List.getElem_cons_succ]
   refine qD ?_
   go_wp2_with fail
   go_ret
   exact⟨by rw[HWF.out];rfl,(Below.refl _ _).drew⟩
def nodeW (k:Nat):ByteArray:=if k=14 then⟨#[62]⟩else if k=15 then⟨#[124]⟩else if k=16 then⟨#[105,102]⟩else wordA k
def WdsAt (w:World):Prop:=∀k:Nat,k≤16→w.cell? ⟨0,k,none⟩=some (.string (nodeW k))
theorem WdsAt.chg {S:Nat→Prop} {w w':World} (h:WdsAt w) (hc:Chg S w w') (hn:¬S 0):WdsAt w':=fun k hk=>by
 have h1:=h k hk
 have hlt:0<w.heap.size:=by
  unfold World.cell? at h1
  by_cases q:0<w.heap.size
  ·exact q
  ·rw[Array.getElem?_eq_none (by show w.heap.size≤0;omega)]at h1;simp at h1
 rw[hc.cell (p:=⟨0,k,none⟩) hlt hn]
 exact h1
def nodeA:Array Value:=#[.string ⟨#[]⟩,.string ⟨#[112,97,115,115]⟩,.string ⟨#[98,108,111,99,107]⟩,.string ⟨#[115,116,114,105,112]⟩,.string ⟨#[114,111,119]⟩,.string ⟨#[102,97,109]⟩,.string ⟨#[113,117,97,108]⟩,.string ⟨#[118,97,108]⟩,.string ⟨#[114,111,119,115]⟩,.string ⟨#[113,117,97,108,115]⟩,.string ⟨#[116,115]⟩,.string ⟨#[118,101,114,115,105,111,110,115]⟩,.string ⟨#[99,101,108,108,115]⟩,.string ⟨#[115,107,105,112]⟩,.string ⟨#[62]⟩,.string ⟨#[124]⟩,.string ⟨#[105,102]⟩]
theorem nodeA_get:∀k:Nat,k<17→nodeA[k]?=some (.string (nodeW k)):=by
 intro k hk
 have:k=0∨k=1∨k=2∨k=3∨k=4∨k=5∨k=6∨k=7∨k=8∨k=9∨k=10∨k=11∨k=12∨k=13∨k=14∨k=15∨k=16:=by omega
 rcases this with rfl|rfl|rfl|rfl|rfl|rfl|rfl|rfl|rfl|rfl|rfl|rfl|rfl|rfl|rfl|rfl|rfl<;>rfl
theorem nodeA_run (w:World):∀k:Nat,k<17→(Instr.index 119 (.agg nodeA) (.int .i64 (k:Int))).run Tryz.prog w=.ok (.string (nodeW k)) w:=by
 intro k hk
 have:k=0∨k=1∨k=2∨k=3∨k=4∨k=5∨k=6∨k=7∨k=8∨k=9∨k=10∨k=11∨k=12∨k=13∨k=14∨k=15∨k=16:=by omega
 rcases this with rfl|rfl|rfl|rfl|rfl|rfl|rfl|rfl|rfl|rfl|rfl|rfl|rfl|rfl|rfl|rfl|rfl<;>rfl
theorem nodeW_kw {l:List UInt8} (hne:l≠ []) (hl:∀x∈l,isLet x=true) {k:Nat} (hk:k≤16) (h:bl (nodeW k)=l):kwF l=some (k:Int):=by
 refine kwF_word ?_
 by_cases h0:k=0
 ·subst h0;exact absurd h.symm hne
 by_cases h14:k=14
 ·subst h14
  rw[←h]at hl
  have:=hl 62 (by decide)
  exact absurd this (by decide)
 by_cases h15:k=15
 ·subst h15
  rw[←h]at hl
  have:=hl 124 (by decide)
  exact absurd this (by decide)
 by_cases h16:k=16
 ·subst h16
  exact .inr ⟨rfl,h.symm⟩
 refine .inl ⟨by omega,by omega,?_⟩
 unfold nodeW at h
 rw[if_neg h14,if_neg h15,if_neg h16]at h
 exact h
theorem nodeW_none {l:List UInt8} (h:∀k:Nat,k≤16→¬bl (nodeW k)=l):kwF l=none:=by
 cases hq:kwF l with
 |none=>rfl
 |some k=>
  exfalso
  rcases kwF_some hq with⟨h1,h2,h3⟩|⟨rfl,rfl⟩
  ·refine h k.toNat (by omega) ?_
   unfold nodeW
   rw[if_neg (by omega),if_neg (by omega),if_neg (by omega),show((k.toNat:Nat):Int)=k by omega]
   exact h3
  ·exact h 16 (by omega) rfl
def WrdP (base g b off n cap i:Nat) (vs:List Value) (wd:List UInt8) (w:World) (e:Ending) (w':World):Prop:=Hid (Chg (fun k=>k=g) w w')∧((∃k:Int,kwF wd=some k∧e=.returned (.int .i64 k)∧FsAt w' base g b off n cap (i+wd.length) vs)∨(kwF wd=none∧e=Pf 2 i))
set_option maxHeartbeats 8000000 in
theorem word_core {base g b off n cap i:Nat} {vs:List Value} {w:World} {t:List UInt8} (h:FsAt w base g b off n cap i vs) (hT:BysAt w b off t) (hn:n=t.length) (hl:n≤100000) (hc:n≤cap) (hcm:cap≤maxLen) (hi:i<n) (hx:∀x,t[i]?=some x→isLet x=true) (hW:WdsAt w):
  Calls Tryz.prog 56 #[.pointer (some ⟨g,0,none⟩)] w (WrdP base g b off n cap i vs ((t.drop i).takeWhile isLet) w):=by
 obtain⟨wd,hwd⟩:=qE ((t.drop i).takeWhile isLet)
 have hne:wd≠ []:=by
  obtain⟨x,hxx⟩:∃x,t[i]?=some x:=⟨_,List.getElem?_eq_getElem (by omega)⟩
  rw[hwd,dropT_cons hxx,List.takeWhile_cons,if_pos (hx x hxx)];simp
 have hlt:∀x∈wd,isLet x=true:=fun x hm=>by
  rw[hwd]at hm
  exact List.all_eq_true.1 (List.all_takeWhile (p:=isLet) (l:=t.drop i)) x hm
 have hwl:wd.length≤n:=by
  rw[hwd,hn]
  exact Nat.le_trans (takeWhile_len _ _) (by rw[List.length_drop];omega)
 have HR:Hid (Calls Tryz.prog 89 #[.pointer (some ⟨g,0,none⟩),.func (Fn.func 55) #[] #[]] w fun e w'=>e=.returned (.string (strL wd))∧Below w.heap.size w w'):=by
  rw[hwd];exact run_let h hT hn hl hc hcm hi
 rw[←hwd]
 have H0:Hid (FsAt w base g b off n cap i vs∧WdsAt w∧wd≠ []∧(∀x∈wd,isLet x=true)):=⟨h,hW,hne,hlt⟩
 obtain⟨sw,hsw⟩:=qE (strL wd)
 have HSW:Hid (bl sw=wd∧sw.size=wd.length):=⟨by rw[hsw],by rw[hsw];show wd.toArray.size=_;simp⟩
 rw[←hsw]at HR
 have hsl:sw.size≤n:=by rw[HSW.2];exact hwl
 clear hsw hwl
 clear h hT hn hx hW hne hlt hwd hc hcm
 go_enter Tryz.func56,Tryz.ntmps56
 go_wp2_with fail
 refine HR.mono ?_
 rintro e w1 ⟨rfl,hb1⟩
 have H1:Hid (FsAt w1 base g b off n cap i vs∧Chg (fun k=>k=g) w w1):=⟨BoxAt.below H0.1 hb1,Chg.of_below hb1⟩
 have hW1:WdsAt w1:=H0.2.1.chg (S:=fun _=>False) (Chg.of_below hb1) (fun q=>q)
 have d0:w1.cell? ⟨0,0,none⟩=some (.string ⟨#[]⟩):=hW1 0 (by omega)
 have d1:w1.cell? ⟨0,1,none⟩=some (.string ⟨#[112,97,115,115]⟩):=hW1 1 (by omega)
 have d2:w1.cell? ⟨0,2,none⟩=some (.string ⟨#[98,108,111,99,107]⟩):=hW1 2 (by omega)
 have d3:w1.cell? ⟨0,3,none⟩=some (.string ⟨#[115,116,114,105,112]⟩):=hW1 3 (by omega)
 have d4:w1.cell? ⟨0,4,none⟩=some (.string ⟨#[114,111,119]⟩):=hW1 4 (by omega)
 have d5:w1.cell? ⟨0,5,none⟩=some (.string ⟨#[102,97,109]⟩):=hW1 5 (by omega)
 have d6:w1.cell? ⟨0,6,none⟩=some (.string ⟨#[113,117,97,108]⟩):=hW1 6 (by omega)
 have d7:w1.cell? ⟨0,7,none⟩=some (.string ⟨#[118,97,108]⟩):=hW1 7 (by omega)
 have d8:w1.cell? ⟨0,8,none⟩=some (.string ⟨#[114,111,119,115]⟩):=hW1 8 (by omega)
 have d9:w1.cell? ⟨0,9,none⟩=some (.string ⟨#[113,117,97,108,115]⟩):=hW1 9 (by omega)
 have d10:w1.cell? ⟨0,10,none⟩=some (.string ⟨#[116,115]⟩):=hW1 10 (by omega)
 have d11:w1.cell? ⟨0,11,none⟩=some (.string ⟨#[118,101,114,115,105,111,110,115]⟩):=hW1 11 (by omega)
 have d12:w1.cell? ⟨0,12,none⟩=some (.string ⟨#[99,101,108,108,115]⟩):=hW1 12 (by omega)
 have d13:w1.cell? ⟨0,13,none⟩=some (.string ⟨#[115,107,105,112]⟩):=hW1 13 (by omega)
 have d14:w1.cell? ⟨0,14,none⟩=some (.string ⟨#[62]⟩):=hW1 14 (by omega)
 have d15:w1.cell? ⟨0,15,none⟩=some (.string ⟨#[124]⟩):=hW1 15 (by omega)
 have d16:w1.cell? ⟨0,16,none⟩=some (.string ⟨#[105,102]⟩):=hW1 16 (by omega)
 have c1:=H1.1.cell (j:=1) rfl
 have f1:=H1.1.frozen 1
 clear hb1 hW1 HR
 go_upto_block 0 with fail
 have harr:Value.agg #[.string ⟨#[]⟩,.string ⟨#[112,97,115,115]⟩,.string ⟨#[98,108,111,99,107]⟩,.string ⟨#[115,116,114,105,112]⟩,.string ⟨#[114,111,119]⟩,.string ⟨#[102,97,109]⟩,.string ⟨#[113,117,97,108]⟩,.string ⟨#[118,97,108]⟩,.string ⟨#[114,111,119,115]⟩,.string ⟨#[113,117,97,108,115]⟩,.string ⟨#[116,115]⟩,.string ⟨#[118,101,114,115,105,111,110,115]⟩,.string ⟨#[99,101,108,108,115]⟩,.string ⟨#[115,107,105,112]⟩,.string ⟨#[62]⟩,.string ⟨#[124]⟩,.string ⟨#[105,102]⟩]=.agg nodeA:=rfl
 rw[harr]
 clear d0 d1 d2 d3 d4 d5 d6 d7 d8 d9 d10 d11 d12 d13 d14 d15 d16 harr
 obtain⟨A,hA⟩:=qE nodeA
 have HA:Hid (∀k:Nat,k<17→(Instr.index 119 (.agg A) (.int .i64 (k:Int))).run Tryz.prog w1=.ok (.string (nodeW k)) w1):=by rw[hA];exact nodeA_run w1
 rw[←hA]
 clear hA
 go_wp2_with fail
 go_loopw[4,5,9] (fun _ _ kv wr=>∃(k:Nat),kv=.int .i64 (k:Int)∧k≤17∧(∀j:Nat,j<k→¬bl (nodeW j)=wd)∧wr=w1) (fun _ _ kv _=>17-(intOf kv).toNat)
 case atStart=>exact⟨0,rfl,by omega,fun j hj=>by omega,rfl⟩
 case round=>
  obtain⟨k,rfl,hk,hJ,hwx⟩:=hrel
  rw[hwx]
  clear hwx
  have HJ:Hid (∀j:Nat,j<k→¬bl (nodeW j)=wd):=hJ
  clear hJ
  by_cases hk17:k<17
  ·have zk:(k:Int)<17:=by omega
   have hg:=HA.out k hk17
   by_cases he:bl (nodeW k)=wd
   ·have zt:(sw.toList==(nodeW k).toList)=true:=by rw[ByteArray.toList_eq,ByteArray.toList_eq];exact beq_iff_eq.2 (HSW.1.trans he.symm)
    have HE:Hid (kwF wd=some (k:Int)):=nodeW_kw H0.2.2.1 H0.2.2.2 (by omega) he
    clear he
    have zw:IntKind.i64.wrap ((i:Int)+(sw.size:Int))=(i:Int)+(sw.size:Int):=wrap64 (by omega) (by omega)
    have HF:Hid (FsAt (w1.setCell ⟨g,1,none⟩ (.int .i64 ((i:Int)+(sw.size:Int)))) base g b off n cap (i+wd.length) vs∧Chg (fun k=>k=g) w (w1.setCell ⟨g,1,none⟩ (.int .i64 ((i:Int)+(sw.size:Int))))):=⟨by have h9:=H1.1.move (i+wd.length) (.int .i64 ((i:Int)+(sw.size:Int))) (by rw[HSW.2];congr 1);exact h9,H1.2.trans (Chg.of_set _ _ _ _ rfl)⟩
    go_wp2_with fail
    go_ret
    exact⟨HF.2,.inl ⟨(k:Int),HE.out,rfl,HF.1⟩⟩
   ·have zt:(sw.toList==(nodeW k).toList)=false:=by rw[ByteArray.toList_eq,ByteArray.toList_eq];exact beq_eq_false_iff_ne.2 (fun q=>he (q.symm.trans HSW.1))
    go_wp2_with fail
    go_roundw
    case rel=>exact⟨k+1,by go_num,by omega,fun j hj=>by
     by_cases q:j<k
     ·exact HJ.out j q
     ·rw[show j=k by omega];exact he,by first|rfl|trivial⟩
    case measure=>simp[intOf];omega
  ·have zk:¬(k:Int)<17:=by omega
   have HE:Hid (kwF wd=none):=nodeW_none (fun j hj=>HJ.out j (by omega))
   go_wp2_with fail
   refine(sdem_no H1.1).mono ?_
   rintro e w2 ⟨rfl,hw2⟩
   rw[hw2]
   clear hw2
   exact⟨rfl,H1.2,.inr ⟨HE.out,rfl⟩⟩
end Go.Proofs.YtgnpcenpcmdlfaaGreatDoor
