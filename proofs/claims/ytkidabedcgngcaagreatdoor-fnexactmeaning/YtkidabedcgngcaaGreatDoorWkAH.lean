import Derived.Test.YtkidabedcgngcaaGreatDoorWkAA
import Derived.Test.YtkidabedcgngcaaGreatDoorWkAD
import Derived.Test.YtkidabedcgngcaaGreatDoorWkAG
import Derived.Test.YtkidabedcgngcaaGreatDoorWkAC
import Derived.Test.YtkidabedcgngcaaGreatDoorWkAE
import Derived.Test.YtkidabedcgngcaaGreatDoorWkAB
namespace Go.Proofs.YtkidabedcgngcaaGreatDoor
open Go.ChangeShapes Go.WideShapes Go.ChangeAt Go.RowKit Go.Deep
set_option linter.unusedVariables false
set_option linter.unusedSimpArgs false
set_option maxRecDepth 100000
def sameR (es:List Ent) (i k:Nat):Bool:=(es[k]?.map fun x=>x.row.toList)==(es[i]?.map fun x=>x.row.toList)
def rEndF (es:List Ent) (i:Nat):Nat→Nat→Nat
 |0,j=>j
 |f+1,j=>if j<es.length then(if sameR es i j then rEndF es i f (j+1)else j)else j
def rEnd (es:List Ent) (i:Nat):Nat:=rEndF es i (es.length-i) i
structure IsEnd (es:List Ent) (i j:Nat):Prop where
 lt:i<j
 le:j≤es.length
 same:∀k,i≤k→k<j→sameR es i k=true
 other:j<es.length→sameR es i j=false
theorem rEndF_eq {es:List Ent} {i j:Nat} (h:IsEnd es i j):∀(f k:Nat),i≤k→k≤j→j-k≤f→rEndF es i f k=j
 |0,k,_,hk,hf=>by unfold rEndF;omega
 |f+1,k,h1,hk,hf=>by
  unfold rEndF
  by_cases hkj:k=j
  ·subst hkj
   by_cases hl:k<es.length
   ·rw[if_pos hl,h.other hl];rfl
   ·rw[if_neg hl]
  ·have hlt:k<j:=by omega
   rw[if_pos (by have:=h.le;omega),h.same k h1 hlt,if_pos rfl]
   exact rEndF_eq h f (k+1) (by omega) (by omega) (by omega)
theorem rEnd_eq {es:List Ent} {i j:Nat} (h:IsEnd es i j):rEnd es i=j:=rEndF_eq h _ i (Nat.le_refl _) (Nat.le_of_lt h.lt) (by have:=h.le;omega)
def cutsF (es:List Ent):Nat→Nat→List (Nat×Nat)
 |0,_=> []
 |f+1,i=>if i<es.length then(i,rEnd es i)::cutsF es f (rEnd es i)else []
def allC (es:List Ent) (i:Nat):List (Nat×Nat):=cutsF es (es.length-i) i
theorem cutsF_fuel {es:List Ent} (hE:∀i,i<es.length→i<rEnd es i):∀(f g i:Nat),es.length-i≤f→es.length-i≤g→cutsF es f i=cutsF es g i
 |0,0,i,_,_=>rfl
 |0,g+1,i,h1,_=>by unfold cutsF;rw[if_neg (by omega)]
 |f+1,0,i,_,h2=>by unfold cutsF;rw[if_neg (by omega)]
 |f+1,g+1,i,h1,h2=>by
  unfold cutsF
  by_cases hi:i<es.length
  ·rw[if_pos hi,if_pos hi]
   have:=hE i hi
   rw[cutsF_fuel hE f g (rEnd es i) (by omega) (by omega)]
  ·rw[if_neg hi,if_neg hi]
theorem rEndF_ge (es:List Ent) (i:Nat):∀(f k:Nat),k≤rEndF es i f k
 |0,k=>Nat.le_refl _
 |f+1,k=>by
  unfold rEndF
  split
  ·split
   ·exact Nat.le_trans (Nat.le_succ k) (rEndF_ge es i f (k+1))
   ·exact Nat.le_refl _
  ·exact Nat.le_refl _
theorem rEnd_gt {es:List Ent} {i:Nat} (hi:i<es.length):i<rEnd es i:=by
 unfold rEnd
 obtain⟨f,hf⟩:∃f,es.length-i=f+1:=⟨es.length-i-1,by omega⟩
 rw[hf]
 unfold rEndF
 rw[if_pos hi,show sameR es i i=true by simp[sameR],if_pos rfl]
 exact rEndF_ge es i f (i+1)
theorem allC_step {es:List Ent} {i j:Nat} (h:IsEnd es i j):allC es i=(i,j)::allC es j:=by
 have hi:i<es.length:=by have:=h.lt;have:=h.le;omega
 unfold allC
 obtain⟨f,hf⟩:∃f,es.length-i=f+1:=⟨es.length-i-1,by omega⟩
 rw[hf]
 conv=>lhs;unfold cutsF
 rw[if_pos hi,rEnd_eq h]
 rw[cutsF_fuel (fun i hi=>rEnd_gt hi) f (es.length-j) j (by have:=h.lt;omega) (Nat.le_refl _)]
theorem allC_done {es:List Ent} {i:Nat} (h:es.length≤i):allC es i= []:=by
 unfold allC
 rw[show es.length-i=0 by omega]
 rfl
def segE (es:List Ent) (p:Nat×Nat):List Ent:=(es.take p.2).drop p.1
theorem CSl.seg {w:World} {b off cap:Nat} {es:List Ent} (h:CSl w b off cap es) {i j:Nat} (hij:i≤j) (hj:j≤es.length):CSl w b (off+i*5) (cap-i) (segE es (i,j)):=(h.take hj).drop (by rw[List.length_take];omega)
theorem segE_len {es:List Ent} {i j:Nat} (hj:j≤es.length):(segE es (i,j)).length=j-i:=by unfold segE;rw[List.length_drop,List.length_take];simp only;omega
theorem segE_sub {es:List Ent} (h:Sub es es) (p:Nat×Nat):Sub (segE es p) (segE es p):=by
 have hs:(segE es p).Sublist es:=(List.drop_sublist _ _).trans (List.take_sublist _ _)
 exact⟨h.ord.sublist hs,fun x hx=>⟨x,hx,keyCmp_self x⟩,fun x hx=>h.kind x (hs.subset hx),fun x hx=>h.ok x (hs.subset hx)⟩
noncomputable def meanAll (t:CT) (es:List Ent):List Ent:=(allC es 0).flatMap fun p=>mean t (segE es p)
def segV (b off cap:Nat) (p:Nat×Nat):Value:=.slice (some ⟨b,off+p.1*5,none⟩) (p.2-p.1) (cap-p.1)
def OwnCs (w:World) (base g cp:Nat) (us:List Value):Prop:=w.ownsRow base 28 1 (.slice (some ⟨g,0,none⟩) us.length cp) us.length us
theorem OwnCs.lt {w:World} {base g cp:Nat} {us:List Value} (h:OwnCs w base g cp us):base≤g∧g<w.heap.size:=World.ownsRow.lt h g rfl
theorem OwnCs.below {w w':World} {base g cp:Nat} {us:List Value} (h:OwnCs w base g cp us) (hb:Below w.heap.size w w'):OwnCs w' base g cp us:=own_chg h (Chg.of_below hb) (S:=fun _=>False) (fun k q z=>z)
theorem OwnCs.cell {w:World} {base g cp:Nat} {us:List Value} (h:OwnCs w base g cp us) {j:Nat} {v:Value} (hv:us[j]?=some v):w.cell? ⟨g,j,none⟩=some v:=by
 have:=World.ownsRow.cellAt h j (by have:=(List.getElem?_eq_some_iff.1 hv).1;omega)
 rw[this,hv]
theorem ownCs_new (w:World) {base:Nat} (hb:base≤w.heap.size):OwnCs (w.alloc (Obj.cells #[] 28)) base w.heap.size 0 []:=
 World.ownsRow_made w #[] 0 hb (Nat.zero_le _) (by simp)
theorem Tryz.infoCs:(Tryz.prog.info? 28).map (fun i=>(i.zero,i.size,i.bytes))=some (some (.slice none 0 0),1,24):=by kernel_rfl
theorem wpList_append_cs {ops:Array Oper} {rest:List Oper} {oo:Oper} {a:Act} {Q:Exit→Act→World→Prop} (w:World) (hgd:oo.guard=none) (s x:Operand)
  (ho:oo.op=.call {callee:=.builtin .append,args:=#[s,x],argTypes:=#[92,92]})
  (base gq cp n b:Nat) (us:List Value) (y:Value) (hs:a.eval s=.slice (some ⟨gq,0,none⟩) n cp) (hx:a.eval x=.slice (some ⟨b,0,none⟩) 1 1) (hn:n=us.length) (hO:OwnCs w base gq cp us)
  (hc:w.cell? ⟨b,0,none⟩=some y) (hy:y.oneCell'=true) (hlen:us.length≤1048576) (hbase:base≤w.heap.size)
  (h:∀g' cp' w',OwnCs w' base g' cp' (us++ [y])→w.grownBy w' (some gq)→(g'=gq∨g'=w.heap.size)→wpList Tryz.prog ops Q rest (a.put oo.dst (.slice (some ⟨g',0,none⟩) (n+1) cp')) w'):wpList Tryz.prog ops Q (oo::rest) a w:=by
 subst hn
 obtain⟨i,hi,hz0,hz1,hz2⟩:=info_parts Tryz.infoCs
 refine wpList_append_own_at w hgd s x 92 ho base 28 i _ 1 24 Tryz.underlying92 hi hz0 hz1 hz2 rfl (by decide) (.slice (some ⟨gq,0,none⟩) us.length cp) us.length us hs hO ⟨b,0,none⟩ 1 1 [y] hx rfl ?_ ?_ ?_ ?_ hbase ?_
 ·exact zzQ33
 ·intro u hu
  simp at hu;subst hu;exact hy
 ·unfold maxLen;omega
 ·omega
 ·intro v' w' hO' hgr hnil hat
  rcases hO'.2 with⟨h0,_⟩|⟨g',cap',cur,hv,_,_,hn,hcap,_,_⟩
  ·have:=(hnil.1 h0).1
   cases this
  ·subst hv
   refine h g' cap' w' ?_ hgr ?_
   ·unfold OwnCs
    rw[List.length_append]
    exact hO'
   ·simp[Value.ownBlock]at hat
    exact hat
set_option maxHeartbeats 8000000 in
theorem l5Rows_core {w:World} {b off cap:Nat} {es:List Ent} (h:CSl w b off cap es) (hl:es.length≤1048576):Calls Tryz.prog 53 #[.slice (some ⟨b,off,none⟩) es.length cap] w fun e w'=>∃g cp,e=.returned (.slice (some ⟨g,0,none⟩) (allC es 0).length cp)∧OwnCs w' w.heap.size g cp ((allC es 0).map (segV b off cap))∧Below w.heap.size w w':=by
 obtain⟨N,hN⟩:=qE es.length
 have HL:Hid (CSl w b off cap es∧N=es.length):=⟨h,hN⟩
 have hNc:N≤cap:=by rw[hN];exact h.len
 have hcm:cap≤9223372036854775807:=by have:=h.cap;unfold maxLen at this;omega
 obtain⟨A,hA⟩:=qE (allC es 0)
 have HA:Hid (A=allC es 0):=hA
 rw[←hN,←hA]
 rw[←hN]at hl
 have HO0:Hid (OwnCs (w.alloc (Obj.cells #[] 28)) w.heap.size w.heap.size 0 []∧Below w.heap.size w (w.alloc (Obj.cells #[] 28))):=⟨ownCs_new w (Nat.le_refl _),qB⟩
 clear h hN hA
 go_enter Tryz.func53,Tryz.ntmps53
 go_wp2_with fail
 go_loopw[3,4] (fun o iv wr=>∃(i g cp m:Nat),i≤N∧iv=.int .i64 (i:Int)∧o=.slice (some ⟨g,0,none⟩) m cp∧m≤i∧Hid (∃P,A=P++allC es i∧m=P.length∧OwnCs wr w.heap.size g cp (P.map (segV b off cap))∧Below w.heap.size w wr)) (fun _ iv _=>N-(intOf iv).toNat)
 case atStart=>exact⟨0,w.heap.size,0,0,Nat.zero_le _,rfl,rfl,Nat.le_refl _,[],HA.out,rfl,HO0.1,HO0.2⟩
 case round=>
  obtain⟨i,g,cp,m,hiN,rfl,rfl,hmi,HJ⟩:=hrel
  by_cases hlt:i<N
  ·have zi:(i:Int)<(N:Int):=by omega
   obtain⟨c,hc⟩:∃c,es[i]?=some c:=⟨_,List.getElem?_eq_getElem (by have:=HL.2;omega)⟩
   have HCi:Hid (es[i]?=some c):=hc
   obtain⟨P,hP⟩:=HJ.out
   have HP:Hid (A=P++allC es i∧m=P.length∧OwnCs wr w.heap.size g cp (P.map (segV b off cap))∧Below w.heap.size w wr):=hP
   clear hP HJ hc
   obtain⟨wo,hwo⟩:=qE (wr:World)
   subst hwo
   go_wp2_with fail
   go_loopw[5] (fun jv wx=>∃j:Nat,i≤j∧j≤N∧jv=.int .i64 (j:Int)∧Hid ((∀k,i≤k→k<j→sameR es i k=true)∧Below wo.heap.size wo wx)) (fun jv _=>N-(intOf jv).toNat)
   case atStart=>exact⟨i,Nat.le_refl _,by omega,rfl,fun k h1 h2=>by omega,Below.refl _ _⟩
   case round=>
    obtain⟨j,hij,hjN,rfl,HQ⟩:=hrel
    have HBw:Hid (Below w.heap.size w wr):=HP.2.2.2.trans (HQ.2.mono HP.2.2.2.size)
    by_cases hjl:j<N
    ·have zj:(j:Int)<(N:Int):=by omega
     obtain⟨x,hx⟩:∃x,es[j]?=some x:=⟨_,List.getElem?_eq_getElem (by have:=HL.2;omega)⟩
     have f0:=((HL.1.below HBw.out).at_ j x hx).1
     have f1:=((HL.1.below HBw.out).at_ i c HCi.out).1
     have hS0:(fun w':World=>w'.cell? ⟨b,off+j*5,none⟩=some (.string x.row)∧w'.cell? ⟨b,off+i*5,none⟩=some (.string c.row)) wr.drew:=⟨f0,f1⟩
     have HBd:Hid (Below wo.heap.size wo wr.drew):=HQ.2.trans (((Below.refl _ _).drew).mono HQ.2.size)
     have HSame:Hid (sameR es i j=(x.row.toList==c.row.toList)):=by show sameR es i j=_;unfold sameR;rw[hx,HCi.out];rfl
     clear f0 f1 hx
     cases hr:(x.row.toList==c.row.toList)
     ·have HE:Hid (IsEnd es i j):=by
       have h0:=HSame.out
       rw[hr]at h0
       have hne:¬i=j:=fun q=>by
        subst q
        rw[show sameR es i i=true by simp[sameR]]at h0
        cases h0
       exact⟨by omega,by rw[←HL.2];omega,HQ.1,fun _=>h0⟩
      go_upto_region 5 with fail
      refine wp_region_T 99 (fun w':World=>w'.cell? ⟨b,off+j*5,none⟩=some (.string x.row)∧w'.cell? ⟨b,off+i*5,none⟩=some (.string c.row)) (by kernel_rfl) ?_
      refine qT 0 ?vra0 rfl ?yra0 hS0 ?_
      case yra0=>exact zzR2
      try simp only[qA,List.getElem_toArray,List.getElem_cons_zero,List.getElem_cons_succ]
      refine qT 1 ?vra1 rfl ?yra1 hS0 ?_
      case yra1=>exact zzR2
      try simp only[qA,List.getElem_toArray,List.getElem_cons_zero,List.getElem_cons_succ]
      refine qT 2 ?vra2 rfl ?yra2 hS0 ?_
      case yra2=>exact zzR2
      try simp only[qA,List.getElem_toArray,List.getElem_cons_zero,List.getElem_cons_succ]
      refine qT 3 ?vra3 rfl ?yra3 hS0 ?_
      case yra3=>exact zzR2
      try simp only[qA,List.getElem_toArray,List.getElem_cons_zero,List.getElem_cons_succ]
      refine qT 4 ?vra4 rfl ?yra4 hS0 ?_
      case yra4=>exact zzR2
      try simp only[qA,List.getElem_toArray,List.getElem_cons_zero,List.getElem_cons_succ]
      refine qT 5 ?vra5 rfl ?yra5 hS0 ?_
      case yra5=>exact zzR2
      try simp only[qA,List.getElem_toArray,List.getElem_cons_zero,List.getElem_cons_succ]
      refine qT 6 ?vra6 rfl ?yra6 hS0 ?_
      case yra6=>exact zzR2
      try simp only[qA,List.getElem_toArray,List.getElem_cons_zero,List.getElem_cons_succ]
      refine qT 7 ?vra7 rfl ?yra7 hS0 ?_
      case yra7=>exact zzR2
      try simp only[qA,List.getElem_toArray,List.getElem_cons_zero,List.getElem_cons_succ]
      refine qT 8 ?vra8 rfl ?yra8 hS0 ?_
      case yra8=>exact zzR2
      try simp only[qA,List.getElem_toArray,List.getElem_cons_zero,List.getElem_cons_succ]
      refine qT 9 ?vra9 rfl ?yra9 hS0 ?_
      case yra9=>exact zzR2
      try simp only[qA,List.getElem_toArray,List.getElem_cons_zero,List.getElem_cons_succ]
      refine qT 10 ?vra10 rfl ?yra10 hS0 ?_
      case yra10=>exact zzR2
      try simp only[qA,List.getElem_toArray,List.getElem_cons_zero,List.getElem_cons_succ]
      refine qT 11 ?vra11 rfl ?yra11 hS0 ?_
      case yra11=>exact zzR2
      try simp only[qA,List.getElem_toArray,List.getElem_cons_zero,List.getElem_cons_succ]
      refine qT 12 ?vra12 rfl ?yra12 hS0 ?_
      case yra12=>exact zzR2
      try simp only[qA,List.getElem_toArray,List.getElem_cons_zero,List.getElem_cons_succ]
      refine qT 13 ?vra13 rfl ?yra13 hS0 ?_
      case yra13=>exact zzR2
      try simp only[qA,List.getElem_toArray,List.getElem_cons_zero,List.getElem_cons_succ]
      refine qT 14 ?vra14 rfl ?yra14 hS0 ?_
      case yra14=>exact zzR2
      try simp only[qA,List.getElem_toArray,List.getElem_cons_zero,List.getElem_cons_succ]
      refine qT 15 ?vra15 rfl ?yra15 hS0 ?_
      case yra15=>exact zzR2
      try simp only[qA,List.getElem_toArray,List.getElem_cons_zero,List.getElem_cons_succ]
      refine qT 16 ?vra16 rfl ?yra16 hS0 ?_
      case yra16=>exact zzR2
      try simp only[qA,List.getElem_toArray,List.getElem_cons_zero,List.getElem_cons_succ]
      refine qD ?_
      have HX:Hid (A=(P++ [(i,j)])++allC es j):=by
       show _=_
       rw[HP.1,allC_step HE.out]
       simp
      have hij2:i≤j:=hij
      have HPl:Hid (m=(P.map (segV b off cap)).length):=by rw[List.length_map];exact HP.2.1
      have hbz:=HP.2.2.2.size
      have hlt3:=HP.2.2.1.lt
      have hbd:=HBd.size
      go_wp2_with (at_builtin;refine wpList_append_cs _ rfl _ _ rfl w.heap.size g cp _ _ (P.map (segV b off cap)) (segV b off cap (i,j)) rfl rfl HPl.out ?hO ?hc ?hy ?hl ?hb ?_)
      case hO=>exact(HP.2.2.1.below HBd.out).below (qB)
      case hc=>simp[go_sem,segV]
      case hy=>rfl
      case hl=>(have h9:=HP.2.1;simp;omega)
      case hb=>exact Nat.le_succ_of_le (HP.2.2.2.trans (HBd.mono hbz)).size
      exact zzQ18
     ·have HS2:Hid (∀k,i≤k→k<j+1→sameR es i k=true):=fun k h1 h2=>by
       by_cases hk:k=j
       ·rw[hk,HSame.out];exact hr
       ·exact HQ.1 k h1 (by omega)
      go_upto_region 5 with fail
      refine wp_region_T 99 (fun w':World=>w'.cell? ⟨b,off+j*5,none⟩=some (.string x.row)∧w'.cell? ⟨b,off+i*5,none⟩=some (.string c.row)) (by kernel_rfl) ?_
      refine qT 0 ?vrb0 rfl ?yrb0 hS0 ?_
      case yrb0=>exact zzR2
      try simp only[qA,List.getElem_toArray,List.getElem_cons_zero,List.getElem_cons_succ]
      refine qT 1 ?vrb1 rfl ?yrb1 hS0 ?_
      case yrb1=>exact zzR2
      try simp only[qA,List.getElem_toArray,List.getElem_cons_zero,List.getElem_cons_succ]
      refine qT 2 ?vrb2 rfl ?yrb2 hS0 ?_
      case yrb2=>exact zzR2
      try simp only[qA,List.getElem_toArray,List.getElem_cons_zero,List.getElem_cons_succ]
      refine qT 3 ?vrb3 rfl ?yrb3 hS0 ?_
      case yrb3=>exact zzR2
      try simp only[qA,List.getElem_toArray,List.getElem_cons_zero,List.getElem_cons_succ]
      refine qT 4 ?vrb4 rfl ?yrb4 hS0 ?_
      case yrb4=>exact zzR2
      try simp only[qA,List.getElem_toArray,List.getElem_cons_zero,List.getElem_cons_succ]
      refine qT 5 ?vrb5 rfl ?yrb5 hS0 ?_
      case yrb5=>exact zzR2
      try simp only[qA,List.getElem_toArray,List.getElem_cons_zero,List.getElem_cons_succ]
      refine qT 6 ?vrb6 rfl ?yrb6 hS0 ?_
      case yrb6=>exact zzR2
      try simp only[qA,List.getElem_toArray,List.getElem_cons_zero,List.getElem_cons_succ]
      refine qT 7 ?vrb7 rfl ?yrb7 hS0 ?_
      case yrb7=>exact zzR2
      try simp only[qA,List.getElem_toArray,List.getElem_cons_zero,List.getElem_cons_succ]
      refine qT 8 ?vrb8 rfl ?yrb8 hS0 ?_
      case yrb8=>exact zzR2
      try simp only[qA,List.getElem_toArray,List.getElem_cons_zero,List.getElem_cons_succ]
      refine qT 9 ?vrb9 rfl ?yrb9 hS0 ?_
      case yrb9=>exact zzR2
      try simp only[qA,List.getElem_toArray,List.getElem_cons_zero,List.getElem_cons_succ]
      refine qT 10 ?vrb10 rfl ?yrb10 hS0 ?_
      case yrb10=>exact zzR2
      try simp only[qA,List.getElem_toArray,List.getElem_cons_zero,List.getElem_cons_succ]
      refine qT 11 ?vrb11 rfl ?yrb11 hS0 ?_
      case yrb11=>exact zzR2
      try simp only[qA,List.getElem_toArray,List.getElem_cons_zero,List.getElem_cons_succ]
      refine qT 12 ?vrb12 rfl ?yrb12 hS0 ?_
      case yrb12=>exact zzR2
      try simp only[qA,List.getElem_toArray,List.getElem_cons_zero,List.getElem_cons_succ]
      refine qT 13 ?vrb13 rfl ?yrb13 hS0 ?_
      case yrb13=>exact zzR2
      try simp only[qA,List.getElem_toArray,List.getElem_cons_zero,List.getElem_cons_succ]
      refine qT 14 ?vrb14 rfl ?yrb14 hS0 ?_
      case yrb14=>exact zzR2
      try simp only[qA,List.getElem_toArray,List.getElem_cons_zero,List.getElem_cons_succ]
      refine qT 15 ?vrb15 rfl ?yrb15 hS0 ?_
      case yrb15=>exact zzR2
      try simp only[qA,List.getElem_toArray,List.getElem_cons_zero,List.getElem_cons_succ]
      refine qT 16 ?vrb16 rfl ?yrb16 hS0 ?_
      case yrb16=>exact zzR2
      try simp only[qA,List.getElem_toArray,List.getElem_cons_zero,List.getElem_cons_succ]
      refine qD ?_
      go_wp2_with fail
      go_roundw
      case rel=>exact⟨j+1,by omega,by omega,by go_num,HS2.out,HBd.out⟩
      case measure=>go_light;simp[intOf];omega
    ·obtain rfl:j=N:=by omega
     have zj:¬(j:Int)<(j:Int):=by omega
     have HBd:Hid (Below wo.heap.size wo wr.drew):=HQ.2.trans (((Below.refl _ _).drew).mono HQ.2.size)
     have HE:Hid (IsEnd es i j):=⟨hlt,by rw[←HL.2];omega,HQ.1,fun q=>by rw[←HL.2]at q;omega⟩
     have hS0:(fun _:World=>True) wr.drew:=trivial
     go_upto_region 5 with fail
     refine wp_region_T 99 (fun _:World=>True) (by kernel_rfl) ?_
     refine qT 0 ?vrc0 rfl ?yrc0 hS0 ?_
     case yrc0=>exact zzR13
     try simp only[qA,List.getElem_toArray,List.getElem_cons_zero,List.getElem_cons_succ]
     refine qT 1 ?vrc1 rfl ?yrc1 hS0 ?_
     case yrc1=>exact zzR13
     try simp only[qA,List.getElem_toArray,List.getElem_cons_zero,List.getElem_cons_succ]
     refine qT 2 ?vrc2 rfl ?yrc2 hS0 ?_
     case yrc2=>exact zzR13
     try simp only[qA,List.getElem_toArray,List.getElem_cons_zero,List.getElem_cons_succ]
     refine qT 3 ?vrc3 rfl ?yrc3 hS0 ?_
     case yrc3=>exact zzR13
     try simp only[qA,List.getElem_toArray,List.getElem_cons_zero,List.getElem_cons_succ]
     refine qT 4 ?vrc4 rfl ?yrc4 hS0 ?_
     case yrc4=>exact zzR13
     try simp only[qA,List.getElem_toArray,List.getElem_cons_zero,List.getElem_cons_succ]
     refine anyT_takeN (i:=5) (v:=undef) rfl (by kernel_rfl) (by kernel_rfl) (by kernel_rfl) (by rfl) (fun _ _ _ h=>h) (Or.inr ⟨by rfl,rfl⟩) hS0 ?_
     try simp only[qA,List.getElem_toArray,List.getElem_cons_zero,List.getElem_cons_succ]
     refine anyT_takeN (i:=6) (v:=undef) rfl (by kernel_rfl) (by kernel_rfl) (by kernel_rfl) (by rfl) (fun _ _ _ h=>h) (Or.inr ⟨by rfl,rfl⟩) hS0 ?_
     try simp only[qA,List.getElem_toArray,List.getElem_cons_zero,List.getElem_cons_succ]
     refine anyT_takeN (i:=7) (v:=undef) rfl (by kernel_rfl) (by kernel_rfl) (by kernel_rfl) (by rfl) (fun _ _ _ h=>h) (Or.inr ⟨by rfl,rfl⟩) hS0 ?_
     try simp only[qA,List.getElem_toArray,List.getElem_cons_zero,List.getElem_cons_succ]
     refine anyT_takeN (i:=8) (v:=undef) rfl (by kernel_rfl) (by kernel_rfl) (by kernel_rfl) (by rfl) (fun _ _ _ h=>h) (Or.inr ⟨by rfl,rfl⟩) hS0 ?_
     try simp only[qA,List.getElem_toArray,List.getElem_cons_zero,List.getElem_cons_succ]
     refine anyT_takeN (i:=9) (v:=undef) rfl (by kernel_rfl) (by kernel_rfl) (by kernel_rfl) (by rfl) (fun _ _ _ h=>h) (Or.inr ⟨by rfl,rfl⟩) hS0 ?_
     try simp only[qA,List.getElem_toArray,List.getElem_cons_zero,List.getElem_cons_succ]
     refine anyT_takeN (i:=10) (v:=undef) rfl (by kernel_rfl) (by kernel_rfl) (by kernel_rfl) (by rfl) (fun _ _ _ h=>h) (Or.inr ⟨by rfl,rfl⟩) hS0 ?_
     try simp only[qA,List.getElem_toArray,List.getElem_cons_zero,List.getElem_cons_succ]
     refine anyT_takeN (i:=11) (v:=undef) rfl (by kernel_rfl) (by kernel_rfl) (by kernel_rfl) (by rfl) (fun _ _ _ h=>h) (Or.inr ⟨by rfl,rfl⟩) hS0 ?_
     try simp only[qA,List.getElem_toArray,List.getElem_cons_zero,List.getElem_cons_succ]
     refine anyT_takeN (i:=12) (v:=undef) rfl (by kernel_rfl) (by kernel_rfl) (by kernel_rfl) (by rfl) (fun _ _ _ h=>h) (Or.inr ⟨by rfl,rfl⟩) hS0 ?_
     try simp only[qA,List.getElem_toArray,List.getElem_cons_zero,List.getElem_cons_succ]
     refine anyT_takeN (i:=13) (v:=undef) rfl (by kernel_rfl) (by kernel_rfl) (by kernel_rfl) (by rfl) (fun _ _ _ h=>h) (Or.inr ⟨by rfl,rfl⟩) hS0 ?_
     try simp only[qA,List.getElem_toArray,List.getElem_cons_zero,List.getElem_cons_succ]
     refine anyT_takeN (i:=14) (v:=undef) rfl (by kernel_rfl) (by kernel_rfl) (by kernel_rfl) (by rfl) (fun _ _ _ h=>h) (Or.inr ⟨by rfl,rfl⟩) hS0 ?_
     try simp only[qA,List.getElem_toArray,List.getElem_cons_zero,List.getElem_cons_succ]
     refine anyT_takeN (i:=15) (v:=undef) rfl (by kernel_rfl) (by kernel_rfl) (by kernel_rfl) (by rfl) (fun _ _ _ h=>h) (Or.inr ⟨by rfl,rfl⟩) hS0 ?_
     try simp only[qA,List.getElem_toArray,List.getElem_cons_zero,List.getElem_cons_succ]
     refine qT 16 ?vrc16 rfl ?yrc16 hS0 ?_
     case yrc16=>exact zzR13
     try simp only[qA,List.getElem_toArray,List.getElem_cons_zero,List.getElem_cons_succ]
     refine qD ?_
     have HX:Hid (A=(P++ [(i,j)])++allC es j):=by
      show _=_
      rw[HP.1,allC_step HE.out]
      simp
     have hij2:i≤j:=hij
     have HPl:Hid (m=(P.map (segV b off cap)).length):=by rw[List.length_map];exact HP.2.1
     have hbz:=HP.2.2.2.size
     have hlt3:=HP.2.2.1.lt
     have hbd:=HBd.size
     go_wp2_with (at_builtin;refine wpList_append_cs _ rfl _ _ rfl w.heap.size g cp _ _ (P.map (segV b off cap)) (segV b off cap (i,j)) rfl rfl HPl.out ?hO ?hc ?hy ?hl ?hb ?_)
     case hO=>exact(HP.2.2.1.below HBd.out).below (qB)
     case hc=>simp[go_sem,segV]
     case hy=>rfl
     case hl=>(have h9:=HP.2.1;simp;omega)
     case hb=>exact Nat.le_succ_of_le (HP.2.2.2.trans (HBd.mono hbz)).size
     exact zzQ18
  ·obtain rfl:i=N:=by omega
   have zi:¬(i:Int)<(i:Int):=by omega
   obtain⟨P,hP⟩:=HJ.out
   have HE:Hid (A=P∧m=P.length∧OwnCs wr w.heap.size g cp (P.map (segV b off cap))∧Below w.heap.size w wr):=⟨by rw[hP.1,allC_done (by rw[←HL.2];omega),List.append_nil],hP.2⟩
   clear hP HJ
   go_wp2_with fail
   go_ret
   refine⟨g,cp,?_,?_,HE.2.2.2⟩
   ·rw[HE.1,←HE.2.1];rfl
   ·rw[HE.1];exact HE.2.2.1
end Go.Proofs.YtkidabedcgngcaaGreatDoor
namespace Go.Proofs.YtkidabedcgngcaaGreatDoor
open Go.ChangeShapes Go.WideShapes Go.ChangeAt Go.RowKit Go.Deep
set_option linter.unusedVariables false
theorem okPair_f1 {p e:Ent} (h:(keyCmp p e != -1)=true):okPair p e=false:=by
 unfold okPair;simp at h;simp[h]
theorem okPair_t1 {p e:Ent} (h:(keyCmp p e != -1)=false) (h2:(p.kind==2)=false):okPair p e=true:=by
 unfold okPair;simp at h;simp[h,h2]
theorem okPair_t2 {p e:Ent} (h:(keyCmp p e != -1)=false) (h2:(e.kind==2)=false):okPair p e=true:=by
 unfold okPair;simp at h;simp[h,h2]
theorem okPair_s {p e:Ent} (h:(keyCmp p e != -1)=false) (h2:(p.kind==2)=true) (h3:(e.kind==2)=true):okPair p e= !sameCol p e:=by
 unfold okPair;simp at h;simp[h,h2,h3]
theorem pair_ways (p e:Ent):
  ((keyCmp p e != -1)=true∧okPair p e=false)∨((keyCmp p e != -1)=false∧(p.kind==2)=false∧okPair p e=true)∨
  ((keyCmp p e != -1)=false∧(p.kind==2)=true∧(e.kind==2)=false∧okPair p e=true)∨
  ((keyCmp p e != -1)=false∧(p.kind==2)=true∧(e.kind==2)=true∧sameCol p e=true∧okPair p e=false)∨
  ((keyCmp p e != -1)=false∧(p.kind==2)=true∧(e.kind==2)=true∧sameCol p e=false∧okPair p e=true):=by
 cases h1:(keyCmp p e != -1)
 ·cases h2:(p.kind==2)
  ·exact .inr (.inl ⟨rfl,rfl,okPair_t1 h1 h2⟩)
  ·cases h3:(e.kind==2)
   ·exact .inr (.inr (.inl ⟨rfl,rfl,rfl,okPair_t2 h1 h3⟩))
   ·cases h4:sameCol p e
    ·exact .inr (.inr (.inr (.inr ⟨rfl,rfl,rfl,rfl,by rw[okPair_s h1 h2 h3,h4];rfl⟩)))
    ·exact .inr (.inr (.inr (.inl ⟨rfl,rfl,rfl,rfl,by rw[okPair_s h1 h2 h3,h4];rfl⟩)))
 ·exact .inl ⟨rfl,okPair_f1 h1⟩
set_option maxHeartbeats 2000000 in
theorem specValidRun_core (b off cap:Nat) (es:List Ent) (w:World) (hE:EntsAt w b off es) (hok:∀e∈es,e.ok) (hB:b<w.heap.size) (hlen:es.length≤cap) (hcap:cap≤maxLen):
  Calls Tryz.prog 51 #[.agg #[.slice (some ⟨b,off,none⟩) es.length cap]] w fun e w'=>
   ∃r:Bool,e=.returned (.bool r)∧(r=true↔GoodR es)∧Below w.heap.size w w':=by
 obtain⟨W0,hW0⟩:=qE (w.alloc (Obj.cells #[.slice (some ⟨b,off,none⟩) es.length cap] 90):World)
 have hb0:Below w.heap.size w W0:=by rw[hW0];exact qB
 have hz0:w.heap.size<W0.heap.size:=by rw[hW0];simp
 have ca:W0.cell? ⟨w.heap.size,0,none⟩=some (.slice (some ⟨b,off,none⟩) es.length cap):=by rw[hW0];simp
 have HE:Hid (EntsAt W0 b off es):=hE.below hb0 hB
 have HO:Hid (∀e∈es,e.ok):=hok
 clear hE hok
 unfold maxLen at hcap
 by_cases hbig:10000<es.length
 ·have H:Hid (¬GoodR es):=fun h=>by have:=h.1.1;omega
  go_enter Tryz.func51,Tryz.ntmps51
  go_wp2
  go_ret
  exact⟨_,rfl,iffF H.out,qB⟩
 go_enter Tryz.func51,Tryz.ntmps51
 go_wp2_with fail
 rw[←hW0]
 clear hW0
 go_loopw[3] (fun i wr=>∃(k:Nat),k≤es.length∧i=.int .i64 k∧(∀x∈es.take k,x.vld=true)∧PairsTo es k∧Below W0.heap.size W0 wr) (fun i _=>es.length-(intOf i).toNat)
 case atStart=>exact⟨0,Nat.zero_le _,rfl,by simp,fun i p e hi=>by omega,Below.refl _ _⟩
 case round=>
  obtain⟨k,hk,rfl,hv,hP,hb⟩:=hrel
  have HV:Hid ((∀x∈es.take k,x.vld=true)∧PairsTo es k):=⟨hv,hP⟩
  clear hv hP
  have hs2:=hb.size
  have car:wr.cell? ⟨w.heap.size,0,none⟩=some (.slice (some ⟨b,off,none⟩) es.length cap):=by rw[hb.cell (p:=⟨w.heap.size,0,none⟩) (by show w.heap.size<_;omega)];exact ca
  by_cases hlt:k<es.length
  ·obtain⟨e,he⟩:∃e,es[k]?=some e:=⟨_,List.getElem?_eq_getElem hlt⟩
   have HEr:=HE.below hb (by omega)
   obtain⟨c0,c1,c2,c3,c4,c5⟩:=HEr k e he
   have HK:Hid (e.ok∧es[k]?=some e∧EntsAt wr b off es):=⟨HO.out e (List.mem_of_getElem? he),he,HEr⟩
   clear he HEr
   go_wp2_with fail
   refine(specValid_core e.row e.fam e.qual e.val e.ts e.kind _ HK.1.row HK.1.fam HK.1.qual HK.1.val).mono ?_
   rintro e' w1 ⟨rfl,hb1⟩
   obtain⟨hc1,hf1⟩:=bcell hb1
   have hz1:wr.heap.size<w1.heap.size:=by have:=hb1.size;simp at this;omega
   have hb2:=(hb.alloc hb.size (Obj.cells #[.string e.row,.string e.fam,.string e.qual,.int .u64 e.ts,.int .i64 e.kind,.string e.val] 102)).trans (hb1.mono (by simp;omega))
   clear c0 c1 c2 c3 c4 c5
   cases hv:vE e.row e.fam e.qual e.kind e.val
   ·have H:Hid (¬GoodR es):=fun h=>by
     have:=h.1.2 e (List.mem_of_getElem? HK.2.1)
     unfold Ent.vld at this
     rw[hv]at this
     cases this
    go_wp2_with fail
    go_ret
    exact⟨_,rfl,iffF H.out,hb0.trans (hb2.mono (by omega))⟩
   ·have H:Hid (∀x∈es.take (k+1),x.vld=true):=vld_of_take HV.1 HK.2.1 hv
    by_cases hk0:k=0
    ·subst hk0
     go_wp2_with fail
     go_roundw
     case rel=>exact⟨0+1,by omega,by go_num,H.out,fun i p e hi=>by omega,hb2⟩
     case measure=>simp[intOf];omega
    ·obtain⟨m,rfl⟩:∃m,k=m+1:=⟨k-1,by omega⟩
     obtain⟨p,hp⟩:∃e,es[m]?=some e:=⟨_,List.getElem?_eq_getElem (by omega)⟩
     have hbw:Below wr.heap.size wr w1:=((Below.refl _ _).alloc (Nat.le_refl _) (Obj.cells #[.string e.row,.string e.fam,.string e.qual,.int .u64 e.ts,.int .i64 e.kind,.string e.val] 102)).trans (hb1.mono (by simp))
     have car1:w1.cell? ⟨w.heap.size,0,none⟩=some (.slice (some ⟨b,off,none⟩) es.length cap):=by rw[hbw.cell (p:=⟨w.heap.size,0,none⟩) (by show w.heap.size<_;omega)];exact car
     obtain⟨d0,d1,d2,d3,d4,d5⟩:=HK.2.2.below hbw (by omega) m p hp
     have HKp:Hid (es[m]?=some p):=hp
     clear hp
     have hw:IntKind.i64.wrap (m:Int)=(m:Int):=Go.IntWalk.i64_in _ (by omega)
     go_wp2_with fail
     refine(specCompareKeys_any p e _).mono ?_
     rintro e' w2 ⟨rfl,hb3⟩
     obtain⟨hc3,hf3⟩:=bcell hb3
     have hz3:w1.heap.size<w2.heap.size:=by have:=hb3.size;simp at this;omega
     have hb4:=(hb2.alloc hb2.size (Obj.cells #[.string p.row,.string p.fam,.string p.qual,.int .u64 p.ts,.int .i64 p.kind,.string p.val] 102)).trans (hb3.mono (by have:=hb2.size;simp;omega))
     clear d0 d1 d2 d3 d4 d5
     rcases pair_ways p e with⟨g1,ho⟩|⟨g1,g2,ho⟩|⟨g1,g2,g3,ho⟩|⟨g1,g2,g3,g4,ho⟩|⟨g1,g2,g3,g4,ho⟩
     ·have H2:Hid (¬GoodR es):=fun h=>by
       have:=h.2 m p e HKp.out HK.2.1
       rw[ho]at this;cases this
      go_wp2_with fail
      go_ret
      exact⟨_,rfl,iffF H2.out,hb0.trans (hb4.mono (by omega))⟩
     ·exact zzQ62
     ·exact zzQ62
     ·have H2:Hid (¬GoodR es):=fun h=>by
       have:=h.2 m p e HKp.out HK.2.1
       rw[ho]at this;cases this
      go_wp2_with fail
      refine(sameColumn_any p e _).mono ?_
      rintro e' w3 ⟨rfl,hb5⟩
      have hb6:=hb4.trans (hb5.mono hb4.size)
      go_wp2_with fail
      go_ret
      exact⟨_,rfl,iffF H2.out,hb0.trans (hb6.mono (by omega))⟩
     ·have H2:Hid (PairsTo es (m+1+1)):=pairsTo_succ HV.2 HKp.out HK.2.1 ho
      go_wp2_with fail
      refine(sameColumn_any p e _).mono ?_
      rintro e' w3 ⟨rfl,hb5⟩
      have hb6:=hb4.trans (hb5.mono hb4.size)
      go_wp2_with fail
      go_roundw
      case rel=>exact⟨m+1+1,by omega,by go_num,H.out,H2.out,hb6⟩
      case measure=>simp[intOf];omega
  ·go_wp2_with fail
   go_ret
   refine⟨_,rfl,iffT ⟨⟨by omega,fun e he=>?_⟩,pairs_of_to HV.2 (by omega)⟩,hb0.trans (hb.mono (by omega))⟩
   have:=HV.1
   rw[List.take_of_length_le (by omega)]at this
   exact this e he
end Go.Proofs.YtkidabedcgngcaaGreatDoor
namespace Go.Proofs.YtkidabedcgngcaaGreatDoor
open Go.ChangeShapes Go.WideShapes Go.ChangeAt Go.RowKit Go.Deep
set_option linter.unusedVariables false
set_option linter.unusedSimpArgs false
set_option maxRecDepth 100000
theorem putE_ok {e:Ent} (h:e.ok):(putE e).ok:=⟨h.row,h.fam,h.qual,h.val,h.ts,(show(Lit.int .i64 0).wf=true by decide)⟩
theorem okPair_put (a b:Ent):okPair (putE a) (putE b)=(keyCmp (putE a) (putE b)== -1):=by
 unfold okPair putE;simp
set_option maxHeartbeats 2000000 in
theorem cellCompare_any (a b:Ent) (w:World):
  Calls Tryz.prog 60 #[a.c,b.c] w fun e w'=>e=.returned (.int .i64 (keyCmp (putE a) (putE b)))∧Below w.heap.size w w':=by
 unfold Ent.c
 obtain⟨W0,hW0⟩:=qE ((w.alloc (Obj.cells #[.string a.row,.string a.fam,.string a.qual,.int .u64 a.ts,.string a.val] 55)).alloc (Obj.cells #[.string b.row,.string b.fam,.string b.qual,.int .u64 b.ts,.string b.val] 55):World)
 have hb0:Below w.heap.size w W0:=by rw[hW0];exact(qB).alloc (by simp) _
 have hz0:W0.heap.size=w.heap.size+2:=by rw[hW0];simp
 have HA:Hid (CelsAt W0 w.heap.size 0 [a]∧CelsAt W0 (w.heap.size+1) 0 [b]):=by
  rw[hW0]
  refine⟨(cel_new w a).below (qB) (by simp),?_⟩
  have:=cel_new (w.alloc (Obj.cells #[.string a.row,.string a.fam,.string a.qual,.int .u64 a.ts,.string a.val] 55)) b
  simpa using this
 have q:∀n:Out W0,CelsAt n.u w.heap.size 0 [a]∧CelsAt n.u (w.heap.size+1) 0 [b]:=fun n=>⟨HA.1.below n.out (by omega),HA.2.below n.out (by omega)⟩
 have a0:∀n:Out W0,n.u.cell? ⟨w.heap.size,0,none⟩=some (.string a.row):=fun n=>by simpa using ((q n).1 0 a rfl).1
 have a1:∀n:Out W0,n.u.cell? ⟨w.heap.size,1,none⟩=some (.string a.fam):=fun n=>by simpa using ((q n).1 0 a rfl).2.1
 have a2:∀n:Out W0,n.u.cell? ⟨w.heap.size,2,none⟩=some (.string a.qual):=fun n=>by simpa using ((q n).1 0 a rfl).2.2.1
 have a3:∀n:Out W0,n.u.cell? ⟨w.heap.size,3,none⟩=some (.int .u64 a.ts):=fun n=>by simpa using ((q n).1 0 a rfl).2.2.2.1
 have a4:∀n:Out W0,n.u.cell? ⟨w.heap.size,4,none⟩=some (.string a.val):=fun n=>by simpa using ((q n).1 0 a rfl).2.2.2.2
 have b0:∀n:Out W0,n.u.cell? ⟨w.heap.size+1,0,none⟩=some (.string b.row):=fun n=>by simpa using ((q n).2 0 b rfl).1
 have b1:∀n:Out W0,n.u.cell? ⟨w.heap.size+1,1,none⟩=some (.string b.fam):=fun n=>by simpa using ((q n).2 0 b rfl).2.1
 have b2:∀n:Out W0,n.u.cell? ⟨w.heap.size+1,2,none⟩=some (.string b.qual):=fun n=>by simpa using ((q n).2 0 b rfl).2.2.1
 have b3:∀n:Out W0,n.u.cell? ⟨w.heap.size+1,3,none⟩=some (.int .u64 b.ts):=fun n=>by simpa using ((q n).2 0 b rfl).2.2.2.1
 have b4:∀n:Out W0,n.u.cell? ⟨w.heap.size+1,4,none⟩=some (.string b.val):=fun n=>by simpa using ((q n).2 0 b rfl).2.2.2.2
 clear q HA
 go_enter Tryz.func60,Tryz.ntmps60
 go_upto_region 1 with fail
 rw[←hW0]
 clear hW0 hz0
 have inh:Nonempty (Out W0):=⟨⟨W0,Below.refl _ _⟩⟩
 refine wp_region_out (by kernel_rfl) (by kernel_rfl) ?_
 repeat (go_big_quiet_step ((first|(go_at_call 59;exact Calls.out_of (implPut_any _ _))|(go_at_call 101;exact Calls.out_of (compare_any (putE a) (putE b) _)))))
 refine wpQuiet_nil ?_
 rintro w1 ⟨⟨wx,hb1⟩,rfl⟩
 go_wp2_with fail
 go_ret
 exact⟨rfl,hb0.trans (hb1.mono hb0.size)⟩
def ValPost (P:Prop) (w:World) (e:Ending) (w':World):Prop:=∃r:Bool,e=.returned (.bool r)∧(r=true↔P)∧Below w.heap.size w w'
theorem pairsTo_one (es:List Ent):PairsTo es 1:=fun i p e hi=>by omega
theorem goodPut_pair {L:List Ent} {i:Nat} {p c:Ent} (h:GoodR (L.map putE)) (hp:L[i]?=some p) (hc:L[i+1]?=some c):keyCmp (putE p) (putE c)= -1:=by
 have h1:=h.2 i (putE p) (putE c) (by rw[List.getElem?_map,hp];rfl) (by rw[List.getElem?_map,hc];rfl)
 rw[okPair_put]at h1
 simpa using h1
set_option maxHeartbeats 8000000 in
theorem implCells_core (g cap:Nat) (L:List Ent) (base:Nat) (w:World) (hC:OwnC w base g cap L) (hok:∀e∈L,e.ok) (hn:L.length≤1048576):
  Calls Tryz.prog 29 #[.slice (some ⟨g,0,none⟩) L.length cap] w (ValPost (GoodR (L.map putE)) w):=by
 have HC:Hid (OwnC w base g cap L∧∀e∈L,e.ok):=⟨hC,hok⟩
 have hgl:=hC.lt.2
 clear hC hok
 by_cases hbig:10000<L.length
 ·have H:Hid (¬GoodR (L.map putE)):=fun h=>by have:=h.1.1;rw[List.length_map]at this;omega
  have z:(10000:Int)<(L.length:Int):=by omega
  go_enter Tryz.func29,Tryz.ntmps29
  go_wp2_with fail
  go_ret
  exact⟨_,rfl,iffF H.out,Below.refl _ _⟩
 have z:¬(10000:Int)<(L.length:Int):=by omega
 go_enter Tryz.func29,Tryz.ntmps29
 go_wp2_with fail
 go_loopw[10] (fun iv wr=>∃(k:Nat),k≤L.length∧iv=.int .i64 (k:Int)∧(∀x∈L.take k,(putE x).vld=true)∧PairsTo (L.map putE) k∧Below w.heap.size w wr) (fun iv _=>L.length-(intOf iv).toNat)
 case atStart=>exact⟨0,Nat.zero_le _,rfl,by simp,fun i p e hi=>by omega,Below.refl _ _⟩
 case round=>
  obtain⟨k,hk,rfl,hv,hP,hb⟩:=hrel
  have HV:Hid ((∀x∈L.take k,(putE x).vld=true)∧PairsTo (L.map putE) k):=⟨hv,hP⟩
  have hs:=hb.size
  clear hv hP
  by_cases hlt:k<L.length
  ·obtain⟨c,hc⟩:∃c,L[k]?=some c:=⟨_,List.getElem?_eq_getElem hlt⟩
   have HCc:Hid (L[k]?=some c∧c.ok):=⟨hc,HC.2 c (List.mem_of_getElem? hc)⟩
   have HR:Hid (CelsAt wr g 0 L):=HC.1.at.below hb hgl
   obtain⟨c0,c1,c2,c3,c4⟩:=HR.out k c hc
   simp only[Nat.zero_add]at c0 c1 c2 c3 c4
   have zk:(k:Int)<(L.length:Int):=by omega
   obtain⟨W1,hW1⟩:=qE (wr.alloc (Obj.cells #[.string c.row,.string c.fam,.string c.qual,.int .u64 c.ts,.string c.val] 55):World)
   have HW1:Hid (CelsAt W1 wr.heap.size 0 [c]∧CelsAt W1 g 0 L∧Below w.heap.size w W1∧W1.heap.size=wr.heap.size+1):=by
    have hba:Below wr.heap.size wr W1:=by rw[hW1];exact qB
    refine⟨by rw[hW1];exact cel_new wr c,HR.below hba (by omega),hb.trans (hba.mono hs),by rw[hW1];simp⟩
   clear hc
   go_upto_region 6 with fail
   rw[←hW1]
   clear hW1 c0 c1 c2 c3 c4 HR
   have hz1:=HW1.2.2.2
   have q:∀n:Out W1,CelsAt n.u wr.heap.size 0 [c]:=fun n=>HW1.1.below n.out (by omega)
   have a0:∀n:Out W1,n.u.cell? ⟨wr.heap.size,0,none⟩=some (.string c.row):=fun n=>by simpa using ((q n) 0 c rfl).1
   have a1:∀n:Out W1,n.u.cell? ⟨wr.heap.size,1,none⟩=some (.string c.fam):=fun n=>by simpa using ((q n) 0 c rfl).2.1
   have a2:∀n:Out W1,n.u.cell? ⟨wr.heap.size,2,none⟩=some (.string c.qual):=fun n=>by simpa using ((q n) 0 c rfl).2.2.1
   have a3:∀n:Out W1,n.u.cell? ⟨wr.heap.size,3,none⟩=some (.int .u64 c.ts):=fun n=>by simpa using ((q n) 0 c rfl).2.2.2.1
   have a4:∀n:Out W1,n.u.cell? ⟨wr.heap.size,4,none⟩=some (.string c.val):=fun n=>by simpa using ((q n) 0 c rfl).2.2.2.2
   clear q hz1
   have inh:Nonempty (Out W1):=⟨⟨W1,Below.refl _ _⟩⟩
   obtain⟨bv,hbv⟩:=qE ((putE c).vld)
   have HVal:Hid (∀n:Out W1,Calls Tryz.prog 58 #[(putE c).v] n.u fun e w'=>e=.returned (.bool bv)∧Below n.u.heap.size n.u w'):=fun n=>by
    rw[hbv]
    exact implValid_core _ _ _ _ _ _ n.u HCc.2.row HCc.2.fam HCc.2.qual HCc.2.val
   have HBv:Hid ((putE c).vld=bv):=hbv.symm
   clear hbv
   cases bv
   ·have HF:Hid (¬GoodR (L.map putE)):=fun h=>by
     have:=h.1.2 (putE c) (List.mem_map.2 ⟨c,List.mem_of_getElem? HCc.1,rfl⟩)
     rw[HBv.out]at this;cases this
    refine wp_region_out (by kernel_rfl) (by kernel_rfl) ?_
    repeat (go_big_quiet_step ((first|(go_at_call 59;exact Calls.out_of (implPut_any _ _))|(go_at_call 58;exact Calls.out_of (HVal.out _)))))
    exact zzQ76
   have HVN:Hid (∀x∈L.take (k+1),(putE x).vld=true):=by
    intro x hx
    rw[List.take_add_one,HCc.1]at hx
    rcases List.mem_append.1 hx with hx|hx
    ·exact HV.1 x hx
    ·simp at hx;subst hx;exact HBv.out
   by_cases hk0:k=0
   ·subst hk0
    refine wp_region_out (by kernel_rfl) (by kernel_rfl) ?_
    repeat (go_big_quiet_step ((first|(go_at_call 59;exact Calls.out_of (implPut_any _ _))|(go_at_call 58;exact Calls.out_of (HVal.out _)))))
    refine wpQuiet_nil ?_
    rintro w2 ⟨⟨wx,hb2⟩,rfl⟩
    go_wp2_with fail
    go_roundw
    case rel=>exact⟨1,by omega,by go_num,HVN.out,pairsTo_one _,HW1.2.2.1.trans (hb2.mono HW1.2.2.1.size)⟩
    case measure=>simp[intOf];omega
   obtain⟨m,rfl⟩:∃m,k=m+1:=⟨k-1,by omega⟩
   obtain⟨p,hp⟩:∃p,L[m]?=some p:=⟨_,List.getElem?_eq_getElem (by omega)⟩
   have HPp:Hid (L[m]?=some p):=hp
   have q:∀n:Out W1,CelsAt n.u g 0 L:=fun n=>HW1.2.1.below n.out (by have:=HW1.2.2.2;omega)
   have p0:∀n:Out W1,n.u.cell? ⟨g,m*5,none⟩=some (.string p.row):=fun n=>by simpa using ((q n) m p hp).1
   have p1:∀n:Out W1,n.u.cell? ⟨g,m*5+1,none⟩=some (.string p.fam):=fun n=>by simpa using ((q n) m p hp).2.1
   have p2:∀n:Out W1,n.u.cell? ⟨g,m*5+2,none⟩=some (.string p.qual):=fun n=>by simpa using ((q n) m p hp).2.2.1
   have p3:∀n:Out W1,n.u.cell? ⟨g,m*5+3,none⟩=some (.int .u64 p.ts):=fun n=>by simpa using ((q n) m p hp).2.2.2.1
   have p4:∀n:Out W1,n.u.cell? ⟨g,m*5+4,none⟩=some (.string p.val):=fun n=>by simpa using ((q n) m p hp).2.2.2.2
   clear q hp
   obtain⟨kc,hkc⟩:=qE (keyCmp (putE p) (putE c))
   have HCm:Hid (∀n:Out W1,Calls Tryz.prog 60 #[p.c,c.c] n.u fun e w'=>e=.returned (.int .i64 kc)∧Below n.u.heap.size n.u w'):=fun n=>by
    rw[hkc];exact cellCompare_any p c n.u
   have HKc:Hid (kc=keyCmp (putE p) (putE c)):=hkc
   have zm:(m:Int)<(L.length:Int):=by omega
   have zm0:(0:Int)<(m:Int)+1:=by omega
   clear hkc
   by_cases hneg:0≤kc
   ·have HF:Hid (¬GoodR (L.map putE)):=fun h=>by
     have:=goodPut_pair h HPp.out HCc.1
     rw[←HKc.out]at this;omega
    refine wp_region_out (by kernel_rfl) (by kernel_rfl) ?_
    repeat (go_big_quiet_step ((first|(go_at_call 59;exact Calls.out_of (implPut_any _ _))|(go_at_call 58;exact Calls.out_of (HVal.out _))|(go_at_call 60;exact Calls.out_of (HCm.out _)))))
    exact zzQ76
   ·have HPN:Hid (PairsTo (L.map putE) (m+1+1)):=by
     refine pairsTo_succ HV.2 (p:=putE p) (e:=putE c) (by rw[List.getElem?_map,HPp.out];rfl) (by rw[List.getElem?_map,HCc.1];rfl) ?_
     rw[okPair_put]
     rcases keyCmp_vals (putE p) (putE c)with h|h|h
     ·rw[h];rfl
     ·rw[HKc.out,h]at hneg;omega
     ·rw[HKc.out,h]at hneg;omega
    refine wp_region_out (by kernel_rfl) (by kernel_rfl) ?_
    repeat (go_big_quiet_step ((first|(go_at_call 59;exact Calls.out_of (implPut_any _ _))|(go_at_call 58;exact Calls.out_of (HVal.out _))|(go_at_call 60;exact Calls.out_of (HCm.out _)))))
    refine wpQuiet_nil ?_
    rintro w2 ⟨⟨wx,hb2⟩,rfl⟩
    go_wp2_with fail
    go_roundw
    case rel=>exact⟨m+1+1,by omega,by go_num,HVN.out,HPN.out,HW1.2.2.1.trans (hb2.mono HW1.2.2.1.size)⟩
    case measure=>simp[intOf];omega
  ·have hkl:k=L.length:=by omega
   have HF:Hid (GoodR (L.map putE)):=by
    refine⟨⟨by rw[List.length_map];omega,fun e he=>?_⟩,pairs_of_to HV.2 (by rw[List.length_map];omega)⟩
    obtain⟨x,hx,rfl⟩:=List.mem_map.1 he
    exact HV.1 x (by rw[List.take_of_length_le (by omega)];exact hx)
   have zk:¬(k:Int)<(L.length:Int):=by omega
   clear hkl
   go_wp2_with fail
   go_ret
   exact⟨_,rfl,iffT HF.out,hb⟩
set_option maxHeartbeats 1000000 in
theorem specCells_core (g cap:Nat) (L:List Ent) (base:Nat) (w:World) (hC:OwnC w base g cap L) (hok:∀e∈L,e.ok) (hn:L.length≤1048576):
  Calls Tryz.prog 24 #[.slice (some ⟨g,0,none⟩) L.length cap] w (ValPost (GoodR (L.map putE)) w):=by
 have HC:Hid (OwnC w base g cap L∧∀e∈L,e.ok):=⟨hC,hok⟩
 clear hC hok
 go_enter Tryz.func24,Tryz.ntmps24
 go_wp2_with fail
 refine(puts_core g cap L base w HC.1 hn).mono ?_
 rintro e w1 ⟨g1,cp1,rfl,hO1,hb1⟩
 have HO:Hid (OwnE w1 w.heap.size g1 cp1 (L.map putE)∧cp1≤maxLen∧L.length≤cp1):=by
  refine⟨hO1,?_⟩
  rcases hO1.2 with⟨h0,_⟩|⟨g',cap',cur,hv,_,_,hn,hcap,_,_⟩
  ·cases h0
  ·simp only[Value.slice.injEq,Option.some.injEq,Addr.mk.injEq,and_true,true_and]at hv
   obtain⟨rfl,rfl⟩:=hv
   rw[List.length_map]at hn
   exact⟨hcap,hn⟩
 have hl:L.length=(L.map putE).length:=(List.length_map ..).symm
 have HV:Hid (Calls Tryz.prog 51 #[.agg #[.slice (some ⟨g1,0,none⟩) L.length cp1]] w1 fun e w'=>∃r:Bool,e=.returned (.bool r)∧(r=true↔GoodR (L.map putE))∧Below w1.heap.size w1 w'):=by
  show Calls _ _ _ _ _
  have:=specValidRun_core g1 0 cp1 (L.map putE) w1 HO.1.at (fun e he=>by obtain⟨x,hx,rfl⟩:=List.mem_map.1 he;exact putE_ok (HC.2 x hx)) HO.1.lt.2 (by rw[List.length_map];exact HO.2.2) HO.2.1
  rw[List.length_map]at this
  exact this
 clear hO1 hl
 go_wp2_with fail
 refine HV.mono ?_
 rintro e w2 ⟨r,rfl,hr,hb2⟩
 have HR:Hid (r=true↔GoodR (L.map putE)):=hr
 clear hr
 go_wp2_with fail
 go_ret
 exact⟨r,rfl,HR.out,hb1.trans (hb2.mono hb1.size)⟩
theorem CelsAt.flat {w:World} {b off:Nat} {es:List Ent} (h:CelsAt w b off es):∀(j:Nat) (u:Value),(cellsC es)[j]?=some u→w.cell? ⟨b,off+j,none⟩=some u:=by
 intro j u hu
 have hl:=(List.getElem?_eq_some_iff.1 hu).1
 rw[length_cellsC]at hl
 have hk:j/5<es.length:=by omega
 obtain⟨e,he⟩:∃e,es[j/5]?=some e:=⟨_,List.getElem?_eq_getElem hk⟩
 have h5:=cellsC_get es (j/5) e he (j%5) (by omega)
 rw[show j/5*5+j%5=j by omega,hu]at h5
 obtain⟨h0,h1,h2,h3,h4⟩:=h (j/5) e he
 have hm:j%5<5:=by omega
 have hj:off+j=off+j/5*5+j%5:=by omega
 rw[hj]
 generalize j%5=r at h5 hm
 match r,hm,h5 with
 |0,_,h5=>cases h5;exact h0
 |1,_,h5=>cases h5;exact h1
 |2,_,h5=>cases h5;exact h2
 |3,_,h5=>cases h5;exact h3
 |4,_,h5=>cases h5;exact h4
theorem five_one (es:List Ent):∀u∈cellsC es,u.oneCell'=true:=by
 intro u hu
 unfold cellsC at hu
 rw[List.mem_flatMap]at hu
 obtain⟨e,_,h⟩:=hu
 simp at h
 rcases h with rfl|rfl|rfl|rfl|rfl<;>rfl
theorem wpList_append_cels {ops:Array Oper} {rest:List Oper} {o:Oper} {a:Act} {Q:Exit→Act→World→Prop} (w:World) (hgd:o.guard=none) (s x:Operand)
  (ho:o.op=.call {callee:=.builtin .append,args:=#[s,x],argTypes:=#[28,28]})
  (base g cp n b off m cx:Nat) (fs es:List Ent) (hs:a.eval s=.slice (some ⟨g,0,none⟩) n cp) (hx:a.eval x=.slice (some ⟨b,off,none⟩) m cx) (hn:n=fs.length) (hm:m=es.length) (hO:OwnC w base g cp fs)
  (hc:CelsAt w b off es) (hlen:fs.length+es.length≤2^30) (hbase:base≤w.heap.size)
  (h:∀g' cp' w',OwnC w' base g' cp' (fs++es)→w.grownBy w' (some g)→wpList Tryz.prog ops Q rest (a.put o.dst (.slice (some ⟨g',0,none⟩) (n+m) cp')) w'):wpList Tryz.prog ops Q (o::rest) a w:=by
 obtain⟨i,hi,hz0,hz1,hz2⟩:=info_parts Tryz.infoCel
 subst hn
 subst hm
 refine wpList_append_own w hgd s x 28 ho base 55 i _ 5 72 Tryz.underlying28 hi hz0 hz1 hz2 rfl (by decide) (.slice (some ⟨g,0,none⟩) fs.length cp) fs.length (cellsC fs) hs hO ⟨b,off,none⟩ es.length cx (cellsC es) hx (length_cellsC es) ?_ (five_one es) ?_ ?_ hbase ?_
 ·intro j u hu
  rw[Addr.add_mid]
  exact hc.flat j u hu
 ·unfold maxLen;omega
 ·omega
 ·intro v' w' hown hgr hnil
  rw[←cellsC_append]at hown
  have hlen':(fs++es).length=fs.length+es.length:=by simp
  exact zzQ65
theorem cutsF_len (es:List Ent):∀(f i:Nat),(cutsF es f i).length≤f
 |0,i=>Nat.le_refl _
 |f+1,i=>by
  unfold cutsF
  split
  ·have:=cutsF_len es f (rEnd es i)
   simp
   omega
  ·simp
theorem rEndF_le (es:List Ent) (i:Nat):∀(f k:Nat),k≤es.length→rEndF es i f k≤es.length
 |0,k,h=>h
 |f+1,k,h=>by
  unfold rEndF
  split
  ·split
   ·exact rEndF_le es i f (k+1) (by omega)
   ·exact h
  ·exact h
theorem cutsF_mem (es:List Ent):∀(f i:Nat) (p:Nat×Nat),p∈cutsF es f i→p.1≤p.2∧p.2≤es.length
 |0,i,p,h=>by simp[cutsF]at h
 |f+1,i,p,h=>by
  unfold cutsF at h
  split at h
  ·rename_i hi
   rcases List.mem_cons.1 h with rfl|h
   ·exact⟨Nat.le_of_lt (rEnd_gt hi),rEndF_le es i _ i (Nat.le_of_lt hi)⟩
   ·exact cutsF_mem es f _ p h
  ·simp at h
theorem flat_len {es:List Ent} {t:CT} (hS:Sub es es) (hl:es.length≤10000):∀(P:List (Nat×Nat)),(P.flatMap fun p=>mean t (segE es p)).length≤P.length*10000
 | []=>Nat.zero_le _
 |p::P=>by
  have ih:=flat_len hS hl P (t:=t)
  have h1:=(mean_sub t (segE_sub hS p)).len (segE_sub hS p).ord
  have h2:(segE es p).length≤es.length:=by unfold segE;rw[List.length_drop,List.length_take];omega
  simp only[List.flatMap_cons,List.length_append,List.length_cons]
  omega
structure MaJ (w:World) (b off cap:Nat) (es:List Ent) (t:CT) (A:List (Nat×Nat)) (gr cr g cp i:Nat) (wr:World):Prop where
 rows:OwnCs wr w.heap.size gr cr (A.map (segV b off cap))
 own:OwnC wr w.heap.size g cp ((A.take i).flatMap fun p=>mean t (segE es p))
 below:Below w.heap.size w wr
set_option maxHeartbeats 4000000 in
theorem l5MeanAll_core {w:World} {nb no nc:Nat} {xs:List Nd} {t:CT} {b off cap:Nat} {es:List Ent} (hW:Win w nb no nc xs) (hT:TreeF xs t) (hsz:∀x∈xs,x.s.size≤maxLen) (h:CSl w b off cap es) (hS:Sub es es) (hl:es.length≤10000):
  Calls Tryz.prog 25 #[.slice (some ⟨nb,no,none⟩) xs.length nc,.slice (some ⟨b,off,none⟩) es.length cap] w fun e w'=>∃g cp,e=.returned (.slice (some ⟨g,0,none⟩) (meanAll t es).length cp)∧OwnC w' w.heap.size g cp (meanAll t es)∧Below w.heap.size w w':=by
 obtain⟨A,hA⟩:=qE (allC es 0)
 have hAl:A.length≤10000:=by rw[hA];exact Nat.le_trans (cutsF_len es _ 0) (by omega)
 have HA:Hid (A=allC es 0∧A.length≤10000):=⟨hA,hAl⟩
 have HMm:Hid (∀p∈A,p.1≤p.2∧p.2≤es.length):=fun p hp=>cutsF_mem es _ 0 p (by rw[hA]at hp;exact hp)
 have HMA:Hid (meanAll t es=(A.take A.length).flatMap fun p=>mean t (segE es p)):=by show _=_;rw[List.take_length,hA];rfl
 have HMe:Hid (∀(wx:World) (rb ro rc:Nat) (fs:List Ent),Below w.heap.size w wx→CSl wx rb ro rc fs→Sub fs fs→fs.length≤10000→Calls Tryz.prog 54 #[.slice (some ⟨nb,no,none⟩) xs.length nc,.slice (some ⟨rb,ro,none⟩) fs.length rc] wx (MeP t fs wx)):=fun wx rb ro rc fs hx hC hs hl=>mean_all xs.length wx nb no nc xs t rb ro rc fs (Nat.le_refl _) (hW.below hx) hT hsz hC hs hl
 have HR:Hid (CSl w b off cap es∧Sub es es∧es.length≤10000):=⟨h,hS,hl⟩
 obtain⟨W0,hW0⟩:=qE (w.alloc (Obj.cells #[] 55):World)
 have HO0:Hid (OwnC W0 w.heap.size w.heap.size 0 []∧Below w.heap.size w W0):=by rw[hW0];exact⟨ownC_new w,qB⟩
 have HRw:Hid (Calls Tryz.prog 53 #[.slice (some ⟨b,off,none⟩) es.length cap] W0 fun e w'=>∃g cp,e=.returned (.slice (some ⟨g,0,none⟩) A.length cp)∧OwnCs w' W0.heap.size g cp (A.map (segV b off cap))∧Below W0.heap.size W0 w'):=by
  rw[hA];exact l5Rows_core (h.below HO0.2) (by omega)
 obtain⟨N,hN⟩:=qE es.length
 obtain⟨L,hL⟩:=qE xs.length
 obtain⟨K,hK⟩:=qE A.length
 have HKl:Hid (K=A.length):=hK
 rw[←hN]at HRw⊢
 rw[←hL]at HMe⊢
 rw[←hK]at HRw hAl HMA
 clear hW hT hsz h hS hl hA hN hL hK
 go_enter Tryz.func25,Tryz.ntmps25
 go_wp2_with fail
 rw[←hW0]
 clear hW0
 refine HRw.mono ?_
 rintro e w1 ⟨gr,cr,rfl,hO1,hb1⟩
 have HJ0:Hid (MaJ w b off cap es t A gr cr w.heap.size 0 0 w1):=by
  refine⟨?_,HO0.1.below hb1 HO0.1.lt.2,HO0.2.trans (hb1.mono HO0.2.size)⟩
  have hz:=HO0.2.size
  rcases hO1.2 with⟨q,_⟩|⟨g9,cap9,cur,hv,q1,q2⟩
  ·cases q
  ·exact⟨hO1.1,.inr ⟨g9,cap9,cur,hv,by omega,q2⟩⟩
 clear hO1 hb1 HRw HO0
 go_wp2_with fail
 go_loopw[5,7] (fun o iv wr=>∃(i g cp m:Nat),i≤K∧iv=.int .i64 (i:Int)∧o=.slice (some ⟨g,0,none⟩) m cp∧Hid (m=((A.take i).flatMap fun p=>mean t (segE es p)).length∧MaJ w b off cap es t A gr cr g cp i wr)) (fun _ iv _=>K-(intOf iv).toNat)
 case atStart=>exact⟨0,w.heap.size,0,0,Nat.zero_le _,rfl,rfl,rfl,HJ0.out⟩
 case round=>
  obtain⟨i,g,cp,m,hiK,rfl,rfl,HJ⟩:=hrel
  by_cases hlt:i<K
  ·have zi:(i:Int)<(K:Int):=by omega
   obtain⟨⟨p1,p2⟩,hp⟩:∃p,A[i]?=some p:=⟨_,List.getElem?_eq_getElem (by have:=HKl.out;omega)⟩
   have hpm:=HMm.out (p1,p2) (List.mem_of_getElem? hp)
   have HStep:Hid (((A.take (i+1)).flatMap fun p=>mean t (segE es p))=((A.take i).flatMap fun p=>mean t (segE es p))++mean t (segE es (p1,p2))):=by
    show _=_
    rw[List.take_add_one,hp,Option.toList_some,List.flatMap_append]
    simp
   have hml:m≤100000000:=by
    rw[HJ.1]
    refine Nat.le_trans (flat_len HR.2.1 HR.2.2 _) ?_
    rw[List.length_take]
    have:=HA.2
    omega
   have hgl:=HJ.2.own.lt
   have hbz:=HJ.2.below.size
   have c0:wr.cell? ⟨gr,i,none⟩=some (.slice (some ⟨b,off+p1*5,none⟩) (p2-p1) (cap-p1)):=HJ.2.rows.cell (by rw[List.getElem?_map,hp];rfl)
   have hseg:=segE_sub HR.2.1 (p1,p2)
   have hsl:(segE es (p1,p2)).length=p2-p1:=segE_len hpm.2
   have hml2:(mean t (segE es (p1,p2))).length≤10000:=by
    have h8:=(mean_sub t hseg).len hseg.ord
    have h9:=HR.2.2
    rw[hsl]at h8
    omega
   have HCall:Hid (Calls Tryz.prog 54 #[.slice (some ⟨nb,no,none⟩) L nc,.slice (some ⟨b,off+p1*5,none⟩) (p2-p1) (cap-p1)] wr (MeP t (segE es (p1,p2)) wr)):=by
    have h9:=HMe.out wr b (off+p1*5) (cap-p1) (segE es (p1,p2)) HJ.2.below ((HR.1.below HJ.2.below).seg hpm.1 hpm.2) hseg (by rw[hsl];have:=HR.2.2;omega)
    rw[hsl]at h9
    exact h9
   obtain⟨ml,hmle⟩:=qE ((mean t (segE es (p1,p2))).length)
   have HMl:Hid (ml=(mean t (segE es (p1,p2))).length):=hmle
   rw[←hmle]at hml2
   clear hp hpm hseg hsl hmle
   go_wp2_with fail
   refine HCall.mono ?_
   rintro e w3 ⟨g3,cp3,rfl,H3⟩
   have HM3:Hid (MaJ w b off cap es t A gr cr g cp i w3):=by
    have hb3:=H3.2
    exact⟨HJ.2.rows.below hb3,HJ.2.own.below hb3 hgl.2,HJ.2.below.trans (hb3.mono hbz)⟩
   have HKm:Hid (m=((A.take i).flatMap fun p=>mean t (segE es p)).length):=HJ.1
   have hz3:=H3.2.size
   rw[←HMl.out]
   clear c0 HJ
   go_wp2_with (at_builtin;refine wpList_append_cels _ rfl _ _ rfl w.heap.size g cp _ _ _ _ _ ((A.take i).flatMap fun p=>mean t (segE es p)) (mean t (segE es (p1,p2))) rfl rfl HKm.out HMl.out ?hO ?hc ?hl ?hb ?_)
   case hO=>exact HM3.own
   case hc=>exact H3.1.at
   case hl=>rw[←HKm.out,←HMl.out];omega
   case hb=>omega
   intro g' cp' w' hO' hgr
   have HN:Hid (m+ml=((A.take (i+1)).flatMap fun p=>mean t (segE es p)).length∧MaJ w b off cap es t A gr cr g' cp' (i+1) w'):=by
    have hc':Chg (fun k=>k=g) w3 w':=Chg.of_grown hgr (fun k q=>by cases q;rfl)
    have hne:¬gr=g:=fun q=>own_apart HM3.own HM3.rows (by decide) g rfl (by rw[←q];rfl)
    refine⟨by rw[HStep.out,List.length_append,←HKm.out,←HMl.out],?_,?_,?_⟩
    ·exact own_chg HM3.rows hc' (fun k q=>by simp[Value.ownBlock]at q;subst q;exact hne)
    ·rw[HStep.out];exact hO'
    ·exact HM3.below.grown hgr HM3.below.size (fun j hj=>by cases hj;omega)
   clear hO' hgr
   go_wp2_with fail
   go_roundw
   case rel=>exact⟨i+1,g',cp',m+ml,by omega,by go_num,rfl,HN.out⟩
   case measure=>go_light;simp[intOf];omega
  ·obtain rfl:i=K:=by omega
   have zi:¬(i:Int)<(i:Int):=by omega
   go_wp2_with fail
   go_ret
   refine⟨g,cp,?_,?_,HJ.2.below⟩
   ·rw[HMA.out,←HJ.1];rfl
   ·rw[HMA.out];exact HJ.2.own
end Go.Proofs.YtkidabedcgngcaaGreatDoor
namespace Go.Proofs.YtkidabedcgngcaaGreatDoor
open Go.ChangeShapes Go.WideShapes Go.ChangeAt Go.RowKit Go.Deep Go.Shelf
set_option linter.unusedVariables false
set_option linter.unusedSimpArgs false
set_option maxRecDepth 100000
attribute [local go_sem] Oper.semAt_some
theorem StI.mono {w:World} {mp n m:Nat} {E:Nat→PS} {en:PS} (h:StI w mp n E en) (hm:n≤m):StI w mp m E en:=by
 obtain⟨D,h1,h2⟩:=h
 exact⟨D,h1.mono hm,h2⟩
theorem StD.tight {w:World} {mp n:Nat} {D:DataW Value} {E:Nat→PS} {en:PS} (h:StD w mp n D E en):StD w mp (Maps.size D) D E en:=by
 obtain⟨⟨es,c,h1,h2,h3,h4⟩,hk⟩:=h
 refine⟨⟨es,c,h1,h2,?_,h4⟩,hk⟩
 rw[h4]
 simp[Maps.size,length_sorted]
theorem StD.clear {w:World} {mp n:Nat} {D:DataW Value} {E:Nat→PS} {en:PS} (h:StD w mp n D E en):∃w',(∀ty,(Builtin.clear_ #[176] ty #[.map (some mp)]).run Tryz.prog w=.ok (.tuple #[]) w')∧StD w' mp 0 (.map []) E en∧Chg (fun k=>k=mp) w w':=by
 obtain⟨⟨es,c,h1,h2,h3,h4⟩,hk⟩:=h
 have hl:=(Array.getElem?_eq_some_iff.1 h1).1
 refine⟨{w with heap:=w.heap.setIfInBounds mp (.map #[] c)},fun ty=>?_,⟨⟨#[],c,?_,⟨by simp,MapKept.stamped_empty c,by simp⟩,Nat.le_refl _,rfl⟩,fun S=>.inl rfl⟩,⟨rfl,rfl,rfl,?_,fun k hk hn=>?_⟩⟩
 ·simp[Builtin.clear_,run_underlying Tryz.underlying176,MapKept.run_getObj_map h1,MapKept.run_setObj_map _ h1,Result.andThen]
 ·simp[hl]
 ·simp
 ·show(w.heap.setIfInBounds mp _)[k]?=_
  rw[Array.getElem?_setIfInBounds_ne (fun q=>hn q.symm)]
def StQ (base M:Nat) (T:Nat→PS) (G cp a:Nat) (E:Nat→PS) (en:PS) (mp:Nat) (S:PS) (w:World) (e:Ending) (w':World):Prop:=
 e=.returned (stV (ahd E S) (acc en S))∧Hid (MtrI w' base M T G cp a E en mp∧StI w' mp 1000 E en∧Chg (fun k=>k=mp) w w')
structure RaJ (w:World) (base M:Nat) (T:Nat→PS) (G cp a:Nat) (E:Nat→PS) (en:PS) (mp n:Nat) (D:DataW Value) (S:PS) (b7 k:Nat) (W4 W:World):Prop where
 st:StB w W base M T G cp a E en mp n D S
 made:BoxAt W w.heap.size 188 5 b7 (stL (ahdT E S k) (acc en S))
 low:Chg (fun k=>k=mp) w W
 size:W4.heap.size≤W.heap.size
theorem StB.chgM {w X X':World} {base M:Nat} {T:Nat→PS} {G cp a:Nat} {E:Nat→PS} {en:PS} {mp n n':Nat} {D D':DataW Value} {S:PS} (h:StB w X base M T G cp a E en mp n D S) (hc:Chg (fun k=>k=mp) X X') (hm:StD X' mp n' D' E en) (hbm:base≤mp):StB w X' base M T G cp a E en mp n' D' S:=
 ⟨h.mtr.chg hc (box_mapD h.map h.mtr.box) (fun q=>h.map.ne h.mtr.row q.symm) (fun k q=>by omega),h.ptr.chg hc (box_mapD h.map h.ptr),h.set.chg hc (box_mapD h.map h.set),h.ans.chg hc (box_mapD h.map h.ans),hm⟩
set_option maxHeartbeats 8000000 in
theorem state_any {base M:Nat} {T:Nat→PS} {G cp a:Nat} {E:Nat→PS} {en:PS} {mp n:Nat} {D:DataW Value} (S:PS) (w:World) (h:MtrI w base M T G cp a E en mp) (hm:StD w mp n D E en) (hh:Maps.has D (psK S)=false) (hS:∀p,S p=true→p<a) (ha:a≤256) (hbm:base≤mp):Calls Tryz.prog 138 #[.pointer (some ⟨M,0,none⟩),psV S] w (StQ base M T G cp a E en mp S w):=by
 obtain⟨W0,hW0⟩:=qE (((w.alloc (.cells #[.pointer (some ⟨M,0,none⟩)] 109)).alloc (.cells (psL S).toArray 178)).alloc (.cells z5 188):World)
 have HW0:Hid (StB w W0 base M T G cp a E en mp n D S∧Below w.heap.size w W0):=by rw[hW0];exact st_start S w h hm
 have HH:Hid (Maps.has D (psK S)=false):=hh
 have HLo:Hid (base≤w.heap.size):=by show _≤_;have:=h.ltM;omega
 have HS:Hid (∀p,S p=true→p<a):=hS
 have HLp:Hid (base≤mp):=hbm
 clear h hm hh hS
 refine(callsIn_wide (n:=9)).1 ?_
 refine callsIn_of_wp_marks Tryz.func138 rfl trivial ?_ rfl
 simp only[Tryz.ntmps138,List.size_toArray,List.length_cons,List.length_nil,Nat.reduceAdd,Nat.reduceSub,Array.replicate_succ,Array.replicate_zero,List.push_toArray,List.append_toArray,List.nil_append,List.cons_append]
 gi_wp2
 have hW0':=hW0
 simp only[psL,z5]at hW0'
 rw[←hW0']
 clear hW0 hW0'
 have hSB:∀X,StB w X base M T G cp a E en mp n D S→(X.cell? ⟨w.heap.size,0,none⟩=some (.pointer (some ⟨M,0,none⟩))∧X.cell? ⟨M,1029,none⟩=some (.map (some mp))∧X.cell? ⟨w.heap.size+1,0,none⟩=some (.int .u64 (wdN S 0:Int))∧X.cell? ⟨w.heap.size+1,1,none⟩=some (.int .u64 (wdN S 1:Int))∧X.cell? ⟨w.heap.size+1,2,none⟩=some (.int .u64 (wdN S 2:Int))∧X.cell? ⟨w.heap.size+1,3,none⟩=some (.int .u64 (wdN S 3:Int))∧StD X mp n D E en):=fun X h=>⟨h.ptr.cell (j:=0) rfl,h.mtr.map,h.set.cell (j:=0) rfl,h.set.cell (j:=1) rfl,h.set.cell (j:=2) rfl,h.set.cell (j:=3) rfl,h.map⟩
 have HSB:Hid (∀X,StB w X base M T G cp a E en mp n D S→(X.cell? ⟨w.heap.size,0,none⟩=some (.pointer (some ⟨M,0,none⟩))∧X.cell? ⟨M,1029,none⟩=some (.map (some mp))∧X.cell? ⟨w.heap.size+1,0,none⟩=some (.int .u64 (wdN S 0:Int))∧X.cell? ⟨w.heap.size+1,1,none⟩=some (.int .u64 (wdN S 1:Int))∧X.cell? ⟨w.heap.size+1,2,none⟩=some (.int .u64 (wdN S 2:Int))∧X.cell? ⟨w.heap.size+1,3,none⟩=some (.int .u64 (wdN S 3:Int))∧StD X mp n D E en)):=hSB
 have HD:Hid (StB w W0.drew base M T G cp a E en mp n D S):=HW0.1.below ((Below.refl _ _).drew)
 clear hSB
 refine wpIn_wide.2 ?_
 refine wp_region_noPanic ?_
 refine wp_region_T 99 (fun wz=>wz.cell? ⟨w.heap.size,0,none⟩=some (.pointer (some ⟨M,0,none⟩))∧wz.cell? ⟨M,1029,none⟩=some (.map (some mp))∧wz.cell? ⟨w.heap.size+1,0,none⟩=some (.int .u64 (wdN S 0:Int))∧wz.cell? ⟨w.heap.size+1,1,none⟩=some (.int .u64 (wdN S 1:Int))∧wz.cell? ⟨w.heap.size+1,2,none⟩=some (.int .u64 (wdN S 2:Int))∧wz.cell? ⟨w.heap.size+1,3,none⟩=some (.int .u64 (wdN S 3:Int))∧StD wz mp n D E en) (by kernel_rfl) ?_
 refine anyT_takeN (i:=0) (v:=?vkf0) rfl (by kernel_rfl) (by kernel_rfl) (by kernel_rfl) (by rfl) (fun _ _ _ h=>h) (Or.inl ⟨by rfl,?ykf0⟩) (HSB.out _ HD.out) ?_
 case ykf0=>exact zzR17
 try simp only[qA,List.getElem_toArray,List.getElem_cons_zero,List.getElem_cons_succ]
 refine anyT_takeN (i:=1) (v:=?vkf1) rfl (by kernel_rfl) (by kernel_rfl) (by kernel_rfl) (by rfl) (fun _ _ _ h=>h) (Or.inl ⟨by rfl,?ykf1⟩) (HSB.out _ HD.out) ?_
 case ykf1=>exact zzR17
 try simp only[qA,List.getElem_toArray,List.getElem_cons_zero,List.getElem_cons_succ]
 refine anyT_takeN (i:=2) (v:=?vkf2) rfl (by kernel_rfl) (by kernel_rfl) (by kernel_rfl) (by rfl) (fun _ _ _ h=>h) (Or.inl ⟨by rfl,?ykf2⟩) (HSB.out _ HD.out) ?_
 case ykf2=>exact zzR17
 try simp only[qA,List.getElem_toArray,List.getElem_cons_zero,List.getElem_cons_succ]
 refine anyT_takeN (i:=3) (v:=?vkf3) rfl (by kernel_rfl) (by kernel_rfl) (by kernel_rfl) (by rfl) (fun _ _ _ h=>h) (Or.inl ⟨by rfl,?ykf3⟩) (HSB.out _ HD.out) ?_
 case ykf3=>exact zzR17
 try simp only[qA,List.getElem_toArray,List.getElem_cons_zero,List.getElem_cons_succ]
 refine anyT_takeN (i:=4) (v:=?vkf4) rfl (by kernel_rfl) (by kernel_rfl) (by kernel_rfl) (by rfl) (fun _ _ _ h=>h) (Or.inl ⟨by rfl,?ykf4⟩) (HSB.out _ HD.out) ?_
 case ykf4=>exact zzR17
 try simp only[qA,List.getElem_toArray,List.getElem_cons_zero,List.getElem_cons_succ]
 refine anyT_takeN (i:=5) (v:=?vkf5) rfl (by kernel_rfl) (by kernel_rfl) (by kernel_rfl) (by rfl) (fun _ _ _ h=>h) (Or.inl ⟨by rfl,?ykf5⟩) (HSB.out _ HD.out) ?_
 case ykf5=>exact zzR17
 try simp only[qA,List.getElem_toArray,List.getElem_cons_zero,List.getElem_cons_succ]
 refine anyT_takeN (i:=6) (v:=?vkf6) rfl (by kernel_rfl) (by kernel_rfl) (by kernel_rfl) (by rfl) (fun _ _ _ h=>h) (Or.inl ⟨by rfl,?ykf6⟩) (HSB.out _ HD.out) ?_
 case ykf6=>exact zzR17
 try simp only[qA,List.getElem_toArray,List.getElem_cons_zero,List.getElem_cons_succ]
 refine anyT_takeN (i:=7) (v:=?vkf7) rfl (by kernel_rfl) (by kernel_rfl) (by kernel_rfl) (by rfl) (fun _ _ _ h=>h) (Or.inl ⟨by rfl,?ykf7⟩) (HSB.out _ HD.out) ?_
 case ykf7=>exact zzR17
 try simp only[qA,List.getElem_toArray,List.getElem_cons_zero,List.getElem_cons_succ]
 refine anyT_takeN (i:=8) (v:=?vkf8) rfl (by kernel_rfl) (by kernel_rfl) (by kernel_rfl) (by rfl) (fun _ _ _ h=>h) (Or.inl ⟨by rfl,?ykf8⟩) (HSB.out _ HD.out) ?_
 case ykf8=>exact zzR17
 try simp only[qA,List.getElem_toArray,List.getElem_cons_zero,List.getElem_cons_succ]
 refine qO 9 rfl fun K hK=>?_
 go_simp
 refine hK.out _ _ (.inr (HSB.out _ (HW0.1.below (by repeat (first|exact Below.refl _ _|refine Below.drew ?_|refine Below.alloc ?_ (Nat.le_refl _) _|refine below_set ?_ (Nat.le_refl _) _ _))))) ?_
 clear hK
 try simp only[qA,List.getElem_toArray,List.getElem_cons_zero,List.getElem_cons_succ]
 refine qO 10 rfl fun K hK=>?_
 go_simp
 refine hK.out _ _ (.inr (HSB.out _ (HW0.1.below (by repeat (first|exact Below.refl _ _|refine Below.drew ?_|refine Below.alloc ?_ (Nat.le_refl _) _|refine below_set ?_ (Nat.le_refl _) _ _))))) ?_
 clear hK
 try simp only[qA,List.getElem_toArray,List.getElem_cons_zero,List.getElem_cons_succ]
 refine qO 11 rfl fun K hK=>?_
 go_simp
 refine hK.out _ _ (.inr (HSB.out _ (HW0.1.below (by repeat (first|exact Below.refl _ _|refine Below.drew ?_|refine Below.alloc ?_ (Nat.le_refl _) _|refine below_set ?_ (Nat.le_refl _) _ _))))) ?_
 clear hK
 try simp only[qA,List.getElem_toArray,List.getElem_cons_zero,List.getElem_cons_succ]
 refine qD ?_
 dsimp only[NoPanic]
 obtain⟨W1,hW1⟩:=qE ((W0.alloc (.cells z5 188)).drew:World)
 have k1:Below W0.heap.size W0 W1:=by rw[hW1];exact(qB).drew
 have s0:=HW0.2.size
 have HW1:Hid (StB w W1 base M T G cp a E en mp n D S∧Below w.heap.size w W1):=⟨HW0.1.below k1,HW0.2.trans (k1.mono s0)⟩
 have hW1':=hW1
 simp only[z5]at hW1'
 rw[←hW1']
 clear hW1 hW1' k1 HD HSB
 have heq:=ps_equal (sAnd S en)
 have HCm:Hid (∀wx:World,Calls Tryz.prog 139 #[psV S,psV en] wx fun e w'=>e=.returned (psV (sAnd S en))∧Below wx.heap.size wx w'):=fun wx=>common_core S en wx
 have HSC:Hid (∀X,StB w X base M T G cp a E en mp n D S→(X.cell? ⟨w.heap.size,0,none⟩=some (.pointer (some ⟨M,0,none⟩))∧X.cell? ⟨w.heap.size+1,0,none⟩=some (.int .u64 (wdN S 0:Int))∧X.cell? ⟨w.heap.size+1,1,none⟩=some (.int .u64 (wdN S 1:Int))∧X.cell? ⟨w.heap.size+1,2,none⟩=some (.int .u64 (wdN S 2:Int))∧X.cell? ⟨w.heap.size+1,3,none⟩=some (.int .u64 (wdN S 3:Int))∧X.cell? ⟨M,1025,none⟩=some (.int .u64 (wdN en 0:Int))∧X.cell? ⟨M,1026,none⟩=some (.int .u64 (wdN en 1:Int))∧X.cell? ⟨M,1027,none⟩=some (.int .u64 (wdN en 2:Int))∧X.cell? ⟨M,1028,none⟩=some (.int .u64 (wdN en 3:Int)))):=fun X h=>⟨h.ptr.cell (j:=0) rfl,h.set.cell (j:=0) rfl,h.set.cell (j:=1) rfl,h.set.cell (j:=2) rfl,h.set.cell (j:=3) rfl,h.mtr.ends (j:=0) (by omega),h.mtr.ends (j:=1) (by omega),h.mtr.ends (j:=2) (by omega),h.mtr.ends (j:=3) (by omega)⟩
 have HD:Hid (StB w W1.drew base M T G cp a E en mp n D S):=HW1.1.below ((Below.refl _ _).drew)
 gi_wp2
 refine wpIn_wide.2 ?_
 refine wp_region_noPanic ?_
 refine wp_region_T 99 (fun wz=>wz.cell? ⟨w.heap.size,0,none⟩=some (.pointer (some ⟨M,0,none⟩))∧wz.cell? ⟨w.heap.size+1,0,none⟩=some (.int .u64 (wdN S 0:Int))∧wz.cell? ⟨w.heap.size+1,1,none⟩=some (.int .u64 (wdN S 1:Int))∧wz.cell? ⟨w.heap.size+1,2,none⟩=some (.int .u64 (wdN S 2:Int))∧wz.cell? ⟨w.heap.size+1,3,none⟩=some (.int .u64 (wdN S 3:Int))∧wz.cell? ⟨M,1025,none⟩=some (.int .u64 (wdN en 0:Int))∧wz.cell? ⟨M,1026,none⟩=some (.int .u64 (wdN en 1:Int))∧wz.cell? ⟨M,1027,none⟩=some (.int .u64 (wdN en 2:Int))∧wz.cell? ⟨M,1028,none⟩=some (.int .u64 (wdN en 3:Int))) (by kernel_rfl) ?_
 refine anyT_takeN (i:=0) (v:=?vq0) rfl (by kernel_rfl) (by kernel_rfl) (by kernel_rfl) (by rfl) (fun _ _ _ h=>h) (Or.inl ⟨by rfl,?yq0⟩) (HSC.out _ HD.out) ?_
 case yq0=>exact zzR18
 try simp only[qA,List.getElem_toArray,List.getElem_cons_zero,List.getElem_cons_succ]
 refine anyT_takeN (i:=1) (v:=?vq1) rfl (by kernel_rfl) (by kernel_rfl) (by kernel_rfl) (by rfl) (fun _ _ _ h=>h) (Or.inl ⟨by rfl,?yq1⟩) (HSC.out _ HD.out) ?_
 case yq1=>exact zzR18
 try simp only[qA,List.getElem_toArray,List.getElem_cons_zero,List.getElem_cons_succ]
 refine anyT_takeN (i:=2) (v:=?vq2) rfl (by kernel_rfl) (by kernel_rfl) (by kernel_rfl) (by rfl) (fun _ _ _ h=>h) (Or.inl ⟨by rfl,?yq2⟩) (HSC.out _ HD.out) ?_
 case yq2=>exact zzR18
 try simp only[qA,List.getElem_toArray,List.getElem_cons_zero,List.getElem_cons_succ]
 refine anyT_takeN (i:=3) (v:=?vq3) rfl (by kernel_rfl) (by kernel_rfl) (by kernel_rfl) (by rfl) (fun _ _ _ h=>h) (Or.inl ⟨by rfl,?yq3⟩) (HSC.out _ HD.out) ?_
 case yq3=>exact zzR18
 try simp only[qA,List.getElem_toArray,List.getElem_cons_zero,List.getElem_cons_succ]
 refine anyT_takeN (i:=4) (v:=?vq4) rfl (by kernel_rfl) (by kernel_rfl) (by kernel_rfl) (by rfl) (fun _ _ _ h=>h) (Or.inl ⟨by rfl,?yq4⟩) (HSC.out _ HD.out) ?_
 case yq4=>exact zzR18
 try simp only[qA,List.getElem_toArray,List.getElem_cons_zero,List.getElem_cons_succ]
 refine anyT_takeN (i:=6) (v:=?vq6) rfl (by kernel_rfl) (by kernel_rfl) (by kernel_rfl) (by rfl) (fun _ _ _ h=>h) (Or.inl ⟨by rfl,?yq6⟩) (HSC.out _ HD.out) ?_
 case yq6=>exact zzR18
 try simp only[qA,List.getElem_toArray,List.getElem_cons_zero,List.getElem_cons_succ]
 refine anyT_two (i:=5) (j:=9) (by kernel_rfl) rfl rfl (fun K hK=>?_) (fun K hK=>?_)
 ·go_simp
  refine(HCm.out _).mono ?_
  rintro r v3 ⟨rfl,hb3⟩
  have HV:Hid (Below W1.heap.size W1 v3):=((Below.refl W1.heap.size W1).drew).trans hb3
  have HB3:Hid (StB w v3 base M T G cp a E en mp n D S):=HW1.1.below HV.out
  refine hK.out _ _ (.inr (HSC.out _ HB3.out)) ?_
  clear hK hb3
  try simp only[qA,List.getElem_toArray,List.getElem_cons_zero,List.getElem_cons_succ]
  refine anyT_takeN (i:=7) (v:=.bool (acc en S)) rfl (by kernel_rfl) (by kernel_rfl) (by kernel_rfl) (by rfl) (fun _ _ _ h=>h) (Or.inl ⟨by rfl,?yqa7⟩) (HSC.out _ HB3.out) ?_
  case yqa7=>exact zzR26
  try simp only[qA,List.getElem_toArray,List.getElem_cons_zero,List.getElem_cons_succ]
  refine anyT_takeN (i:=8) (v:=?vqa8) rfl (by kernel_rfl) (by kernel_rfl) (by kernel_rfl) (by rfl) (fun _ _ _ h=>h) (Or.inl ⟨by rfl,?yqa8⟩) (HSC.out _ HB3.out) ?_
  case yqa8=>exact zzR18
  try simp only[qA,List.getElem_toArray,List.getElem_cons_zero,List.getElem_cons_succ]
  refine qO 9 rfl fun K hK=>?_
  go_simp
  refine hK.out _ _ (.inr (HSC.out _ (HB3.below (by repeat (first|exact Below.refl _ _|refine Below.drew ?_|refine Below.alloc ?_ (Nat.le_refl _) _|refine below_set ?_ (Nat.le_refl _) _ _))))) ?_
  clear hK
  try simp only[qA,List.getElem_toArray,List.getElem_cons_zero,List.getElem_cons_succ]
  refine qO 10 rfl fun K hK=>?_
  go_simp
  refine hK.out _ _ (.inr (HSC.out _ (HB3.below (by repeat (first|exact Below.refl _ _|refine Below.drew ?_|refine Below.alloc ?_ (Nat.le_refl _) _|refine below_set ?_ (Nat.le_refl _) _ _))))) ?_
  clear hK
  try simp only[qA,List.getElem_toArray,List.getElem_cons_zero,List.getElem_cons_succ]
  refine qD ?_
  dsimp only[NoPanic]
  obtain⟨b7,hb7⟩:=qE v3.heap.size
  obtain⟨W4,hW4⟩:=qE (v3.alloc (.cells #[.int .u64 0,.int .u64 0,.int .u64 0,.int .u64 0,.bool (acc en S)] 188):World)
  have k4:Below v3.heap.size v3 W4:=by rw[hW4];exact qB
  have s3:=HV.size
  have s1:=HW1.2.size
  have HR4:Hid (RaI w base M T G cp a E en mp n D S b7 0 W4 W4∧b7<W4.heap.size):=by
   have e0:(stL (ahdT E S 0) (acc en S))= [.int .u64 0,.int .u64 0,.int .u64 0,.int .u64 0,.bool (acc en S)]:=by
    show stL sNo _=_
    simp only[stL,wdN_no];rfl
   have b4:=boxAt_new v3 (base:=w.heap.size) (t:=188) (sz:=5) #[.int .u64 0,.int .u64 0,.int .u64 0,.int .u64 0,.bool (acc en S)] (by omega) rfl
   refine⟨⟨HB3.below k4,by rw[e0,hb7,hW4];exact b4,(HW1.2.trans (HV.mono s1)).trans (k4.mono (by omega)),Nat.le_refl _⟩,by rw[hb7,hW4];simp⟩
  have HGt:Hid (w.heap.size+1+1<b7):=by show _<_;rw[hb7];exact HB3.ans.lt.2
  rw[←hW4,←hb7]
  clear hW4 hb7 k4
  have m0:=HR4.1.st.ptr.cell (j:=0) rfl
  obtain⟨q0,q1,q2,q3⟩:=HR4.1.st.set.c4
  gi_wp2
  have hbz:w.heap.size+1+1<W4.heap.size:=HR4.1.st.ans.lt.2
  have hMz:=HR4.1.st.mtr.ltM
  have hGz:=HR4.1.st.mtr.ltG
  have hpz:=HR4.1.st.map.lt
  refine wp_range_mem (by decide) S rfl rfl (fun k W=>RaI w base M T G cp a E en mp n D S b7 k W4 W) ?hI ?hIt ?hIs HR4.1
   (fun x=>{tmps:=#[.pointer (some ⟨M,0,none⟩),psV S,.pointer (some ⟨w.heap.size,0,none⟩),.pointer (some ⟨w.heap.size+1,0,none⟩),.pointer (some ⟨w.heap.size+1+1,0,none⟩),.pointer (some ⟨W0.heap.size,0,none⟩),.bool false,.pointer (some ⟨b7,0,none⟩),.int .i64 (x:Int),.tuple #[.agg #[.int .u64 0,.int .u64 0,.int .u64 0,.int .u64 0,.bool false],.bool false],.pointer (some ⟨M,0,none⟩),.pointer (some ⟨M,0,none⟩),.pointer (some ⟨M,1029,none⟩),.map (some mp),psV S,.tuple #[.agg #[.int .u64 0,.int .u64 0,.int .u64 0,.int .u64 0,.bool false],.bool false],.agg #[.int .u64 0,.int .u64 0,.int .u64 0,.int .u64 0,.bool false],.bool false,.bool false,undef,psV S,.pointer (some ⟨M,0,none⟩),.pointer (some ⟨M,0,none⟩),.pointer (some ⟨M,1025,none⟩),psV en,psV (sAnd S en),.agg #[.int .u64 0,.int .u64 0,.int .u64 0,.int .u64 0],.bool (acc en S),.agg #[.int .u64 0,.int .u64 0,.int .u64 0,.int .u64 0,.bool (acc en S)],psV S,.func (.func 160) #[psV S] #[],.int .i64 (x:Int),undef,undef,undef,undef,undef,undef,undef,undef,undef,undef,undef,undef,undef,undef,undef,undef,undef,undef,undef,undef,undef,undef,undef,undef,undef,undef,undef,undef],defers:= []}) ?assign ?body ?done
  case hI=>
   exact zzQ25
  case hIt=>exact fun k W hA=>hA.st.mtr.tab
  case hIs=>
   intro k k' W hA hk hno
   exact⟨hA.st,by rw[ahdT_skip hk hno];exact hA.made,hA.low,hA.size⟩
  case assign=>
   intro l x W K hK
   gi_wp2
   exact hK
  case body=>
   intro l k x W hA hkx hx hSx hbet
   have hxa:=HS.out x hSx
   have zx:(x:Int)<(a:Int):=by omega
   have hcap:=hA.st.mtr.caps
   have HA:Hid (RaI w base M T G cp a E en mp n D S b7 k W4 W∧S x=true∧(∀j,k≤j→j<x→S j=false)):=⟨hA,hSx,hbet⟩
   have HU:Hid (∀wx:World,Calls Tryz.prog 161 #[psV (ahdT E S k),psV (E x)] wx fun e w'=>e=.returned (psV (sOr (ahdT E S k) (E x)))∧Below wx.heap.size wx w'):=fun wx=>union_core _ _ wx
   have HS7:Hid (∀X,RaI w base M T G cp a E en mp n D S b7 k W4 X→(X.cell? ⟨w.heap.size,0,none⟩=some (.pointer (some ⟨M,0,none⟩))∧X.cell? ⟨M,1024,none⟩=some (.slice (some ⟨G,0,none⟩) a cp)∧X.cell? ⟨b7,0,none⟩=some (.int .u64 (wdN (ahdT E S k) 0:Int))∧X.cell? ⟨b7,1,none⟩=some (.int .u64 (wdN (ahdT E S k) 1:Int))∧X.cell? ⟨b7,2,none⟩=some (.int .u64 (wdN (ahdT E S k) 2:Int))∧X.cell? ⟨b7,3,none⟩=some (.int .u64 (wdN (ahdT E S k) 3:Int))∧X.cell? ⟨G,x*4,none⟩=some (.int .u64 (wdN (E x) 0:Int))∧X.cell? ⟨G,x*4+1,none⟩=some (.int .u64 (wdN (E x) 1:Int))∧X.cell? ⟨G,x*4+2,none⟩=some (.int .u64 (wdN (E x) 2:Int))∧X.cell? ⟨G,x*4+3,none⟩=some (.int .u64 (wdN (E x) 3:Int)))):=fun X h=>by
    obtain⟨g0,g1,g2,g3,_⟩:=h.st.mtr.edge4 hxa
    exact⟨h.st.ptr.cell (j:=0) rfl,h.st.mtr.fol,h.made.cell (j:=0) rfl,h.made.cell (j:=1) rfl,h.made.cell (j:=2) rfl,h.made.cell (j:=3) rfl,g0,g1,g2,g3⟩
   have HBl:Hid (∀X,Below W.heap.size W X→RaI w base M T G cp a E en mp n D S b7 k W4 X):=fun X hb=>⟨HA.1.st.below hb,HA.1.made.below hb,HA.1.low.trans (hb.mono HA.1.low.size),Nat.le_trans HA.1.size hb.size⟩
   clear hA hSx hbet
   gi_wp2
   refine wpIn_region_T 11 (fun wz=>wz.cell? ⟨w.heap.size,0,none⟩=some (.pointer (some ⟨M,0,none⟩))∧wz.cell? ⟨M,1024,none⟩=some (.slice (some ⟨G,0,none⟩) a cp)∧wz.cell? ⟨b7,0,none⟩=some (.int .u64 (wdN (ahdT E S k) 0:Int))∧wz.cell? ⟨b7,1,none⟩=some (.int .u64 (wdN (ahdT E S k) 1:Int))∧wz.cell? ⟨b7,2,none⟩=some (.int .u64 (wdN (ahdT E S k) 2:Int))∧wz.cell? ⟨b7,3,none⟩=some (.int .u64 (wdN (ahdT E S k) 3:Int))∧wz.cell? ⟨G,x*4,none⟩=some (.int .u64 (wdN (E x) 0:Int))∧wz.cell? ⟨G,x*4+1,none⟩=some (.int .u64 (wdN (E x) 1:Int))∧wz.cell? ⟨G,x*4+2,none⟩=some (.int .u64 (wdN (E x) 2:Int))∧wz.cell? ⟨G,x*4+3,none⟩=some (.int .u64 (wdN (E x) 3:Int))) (by kernel_rfl) (by kernel_rfl) ?hlet ?_
   case hlet=>rintro⟨a0,w0,hq⟩;exact nomatch (show Exit.outgrown=Exit.normal from hq.1)
   refine anyT_take (i:=0) (v:=?vra0) rfl (by kernel_rfl) (by kernel_rfl) (by kernel_rfl) (by kernel_rfl) (by decide) (fun _ _ _ h=>h) (Or.inl ⟨by rfl,?yra0⟩) (HS7.out _ (HBl.out _ ((Below.refl _ _).drew))) ?_
   case yra0=>exact zzR8
   try simp only[qA,List.getElem_toArray,List.getElem_cons_zero,List.getElem_cons_succ]
   refine anyT_take (i:=1) (v:=?vra1) rfl (by kernel_rfl) (by kernel_rfl) (by kernel_rfl) (by kernel_rfl) (by decide) (fun _ _ _ h=>h) (Or.inl ⟨by rfl,?yra1⟩) (HS7.out _ (HBl.out _ ((Below.refl _ _).drew))) ?_
   case yra1=>exact zzR8
   try simp only[qA,List.getElem_toArray,List.getElem_cons_zero,List.getElem_cons_succ]
   refine anyT_take (i:=2) (v:=?vra2) rfl (by kernel_rfl) (by kernel_rfl) (by kernel_rfl) (by kernel_rfl) (by decide) (fun _ _ _ h=>h) (Or.inl ⟨by rfl,?yra2⟩) (HS7.out _ (HBl.out _ ((Below.refl _ _).drew))) ?_
   case yra2=>exact zzR8
   try simp only[qA,List.getElem_toArray,List.getElem_cons_zero,List.getElem_cons_succ]
   refine anyT_take (i:=3) (v:=?vra3) rfl (by kernel_rfl) (by kernel_rfl) (by kernel_rfl) (by kernel_rfl) (by decide) (fun _ _ _ h=>h) (Or.inl ⟨by rfl,?yra3⟩) (HS7.out _ (HBl.out _ ((Below.refl _ _).drew))) ?_
   case yra3=>exact zzR8
   try simp only[qA,List.getElem_toArray,List.getElem_cons_zero,List.getElem_cons_succ]
   refine anyT_take (i:=4) (v:=?vra4) rfl (by kernel_rfl) (by kernel_rfl) (by kernel_rfl) (by kernel_rfl) (by decide) (fun _ _ _ h=>h) (Or.inl ⟨by rfl,?yra4⟩) (HS7.out _ (HBl.out _ ((Below.refl _ _).drew))) ?_
   case yra4=>exact zzR8
   try simp only[qA,List.getElem_toArray,List.getElem_cons_zero,List.getElem_cons_succ]
   refine anyT_take (i:=5) (v:=?vra5) rfl (by kernel_rfl) (by kernel_rfl) (by kernel_rfl) (by kernel_rfl) (by decide) (fun _ _ _ h=>h) (Or.inl ⟨by rfl,?yra5⟩) (HS7.out _ (HBl.out _ ((Below.refl _ _).drew))) ?_
   case yra5=>exact zzR8
   try simp only[qA,List.getElem_toArray,List.getElem_cons_zero,List.getElem_cons_succ]
   refine anyT_take (i:=6) (v:=?vra6) rfl (by kernel_rfl) (by kernel_rfl) (by kernel_rfl) (by kernel_rfl) (by decide) (fun _ _ _ h=>h) (Or.inl ⟨by rfl,?yra6⟩) (HS7.out _ (HBl.out _ ((Below.refl _ _).drew))) ?_
   case yra6=>exact zzR8
   try simp only[qA,List.getElem_toArray,List.getElem_cons_zero,List.getElem_cons_succ]
   refine anyT_take (i:=7) (v:=?vra7) rfl (by kernel_rfl) (by kernel_rfl) (by kernel_rfl) (by kernel_rfl) (by decide) (fun _ _ _ h=>h) (Or.inl ⟨by rfl,?yra7⟩) (HS7.out _ (HBl.out _ ((Below.refl _ _).drew))) ?_
   case yra7=>exact zzR8
   try simp only[qA,List.getElem_toArray,List.getElem_cons_zero,List.getElem_cons_succ]
   refine anyT_take (i:=8) (v:=?vra8) rfl (by kernel_rfl) (by kernel_rfl) (by kernel_rfl) (by kernel_rfl) (by decide) (fun _ _ _ h=>h) (Or.inl ⟨by rfl,?yra8⟩) (HS7.out _ (HBl.out _ ((Below.refl _ _).drew))) ?_
   case yra8=>exact zzR8
   try simp only[qA,List.getElem_toArray,List.getElem_cons_zero,List.getElem_cons_succ]
   refine qO 9 rfl fun K hK=>?_
   go_simp
   refine(HU.out _).mono ?_
   rintro r v5 ⟨rfl,hb5⟩
   have HV5:Hid (RaI w base M T G cp a E en mp n D S b7 k W4 v5∧Below W.heap.size W v5):=⟨HBl.out _ (((Below.refl W.heap.size W).drew).trans hb5),((Below.refl W.heap.size W).drew).trans hb5⟩
   obtain⟨y0,y1,y2,y3⟩:=HV5.1.made.c4
   have o0:=HV5.1.made.frozen 0
   have o1:=HV5.1.made.frozen 1
   have o2:=HV5.1.made.frozen 2
   have o3:=HV5.1.made.frozen 3
   refine hK.out _ _ (.inr (HS7.out _ HV5.1)) ?_
   clear hK hb5
   try simp only[qA,List.getElem_toArray,List.getElem_cons_zero,List.getElem_cons_succ]
   refine anyT_take (i:=10) (v:=?vra10) rfl (by kernel_rfl) (by kernel_rfl) (by kernel_rfl) (by kernel_rfl) (by decide) (fun _ _ _ h=>h) (Or.inl ⟨by rfl,?yra10⟩) (HS7.out _ HV5.1) ?_
   case yra10=>exact zzR8
   exact zzQ8
  case done=>
   rintro Dd W hD hA hK
   have m1:=hA.st.ptr.cell (j:=0) rfl
   have m2:=hA.st.mtr.map
   obtain⟨kk,hkk,hlen,htt⟩:∃kk:Nat,kk≤n∧(∀ty,(Builtin.len_ #[176] ty #[.map (some mp)]).run Tryz.prog W=.ok (.int .i64 (kk:Int)) W)∧StD W mp kk D E en:=⟨_,hA.st.map.1.size_le,fun ty=>hA.st.map.1.len Tryz.underlying176 ty,hA.st.map.tight⟩
   by_cases hq:kk<1000
   ·have zk:¬(1000:Int)≤(kk:Int):=by omega
    have HRJ:RaJ w base M T G cp a E en mp n D S b7 256 W4 W:=⟨hA.st,hA.made,Chg.of_below hA.low,hA.size⟩
    have hKj:=hK
    have hAd:StD W.drew mp kk D E en:=htt.chg (S:=fun _=>False) (Chg.of_below ((Below.refl _ _).drew)) (fun q=>q)
    obtain⟨w6,hput,hst6,hc6⟩:=StI.put (S:=S) ⟨D,hAd⟩ (by unfold maxLen;omega)
    have HA:Hid (RaJ w base M T G cp a E en mp n D S b7 256 W4 W∧W.heap[Dd]?=some (.deferred (some []))∧StI w6 mp 1000 E en∧Chg (fun k=>k=mp) W w6∧W4.heap.size≤Dd):=by
     refine⟨HRJ,hKj,hst6.mono (by omega),?_,hD⟩
     have kd:Chg (fun k=>k=mp) W W.drew:=Chg.of_below ((Below.refl _ _).drew)
     exact kd.trans hc6
    clear hA hK hst6 hc6 hAd m0 q0 q1 q2 q3 HRJ hKj htt
    gi_wp2
    clear hlen
    have HS10:Hid (W.drew.cell? ⟨w.heap.size,0,none⟩=some (.pointer (some ⟨M,0,none⟩))∧W.drew.cell? ⟨M,1029,none⟩=some (.map (some mp))∧W.drew.cell? ⟨w.heap.size+1,0,none⟩=some (.int .u64 (wdN S 0:Int))∧W.drew.cell? ⟨w.heap.size+1,1,none⟩=some (.int .u64 (wdN S 1:Int))∧W.drew.cell? ⟨w.heap.size+1,2,none⟩=some (.int .u64 (wdN S 2:Int))∧W.drew.cell? ⟨w.heap.size+1,3,none⟩=some (.int .u64 (wdN S 3:Int))∧W.drew.cell? ⟨b7,0,none⟩=some (.int .u64 (wdN (ahd E S) 0:Int))∧W.drew.cell? ⟨b7,1,none⟩=some (.int .u64 (wdN (ahd E S) 1:Int))∧W.drew.cell? ⟨b7,2,none⟩=some (.int .u64 (wdN (ahd E S) 2:Int))∧W.drew.cell? ⟨b7,3,none⟩=some (.int .u64 (wdN (ahd E S) 3:Int))∧W.drew.cell? ⟨b7,4,none⟩=some (.bool (acc en S))):=by
     have h:=HA.1
     exact⟨h.st.ptr.cell (j:=0) rfl,h.st.mtr.map,h.st.set.cell (j:=0) rfl,h.st.set.cell (j:=1) rfl,h.st.set.cell (j:=2) rfl,h.st.set.cell (j:=3) rfl,h.made.cell (j:=0) rfl,h.made.cell (j:=1) rfl,h.made.cell (j:=2) rfl,h.made.cell (j:=3) rfl,h.made.cell (j:=4) rfl⟩
    refine wpIn_wide.2 ?_
    refine wp_region_noPanic ?_
    refine wp_region_T 6 (fun wz=>wz.cell? ⟨w.heap.size,0,none⟩=some (.pointer (some ⟨M,0,none⟩))∧wz.cell? ⟨M,1029,none⟩=some (.map (some mp))∧wz.cell? ⟨w.heap.size+1,0,none⟩=some (.int .u64 (wdN S 0:Int))∧wz.cell? ⟨w.heap.size+1,1,none⟩=some (.int .u64 (wdN S 1:Int))∧wz.cell? ⟨w.heap.size+1,2,none⟩=some (.int .u64 (wdN S 2:Int))∧wz.cell? ⟨w.heap.size+1,3,none⟩=some (.int .u64 (wdN S 3:Int))∧wz.cell? ⟨b7,0,none⟩=some (.int .u64 (wdN (ahd E S) 0:Int))∧wz.cell? ⟨b7,1,none⟩=some (.int .u64 (wdN (ahd E S) 1:Int))∧wz.cell? ⟨b7,2,none⟩=some (.int .u64 (wdN (ahd E S) 2:Int))∧wz.cell? ⟨b7,3,none⟩=some (.int .u64 (wdN (ahd E S) 3:Int))∧wz.cell? ⟨b7,4,none⟩=some (.bool (acc en S))) (by kernel_rfl) ?_
    refine anyT_take (i:=0) (v:=?vpuk0) rfl (by kernel_rfl) (by kernel_rfl) (by kernel_rfl) (by kernel_rfl) (by decide) (fun _ _ _ h=>h) (Or.inl ⟨by rfl,?ypuk0⟩) HS10.out ?_
    case ypuk0=>exact zzR7
    try simp only[qA,List.getElem_toArray,List.getElem_cons_zero,List.getElem_cons_succ]
    refine anyT_take (i:=1) (v:=?vpuk1) rfl (by kernel_rfl) (by kernel_rfl) (by kernel_rfl) (by kernel_rfl) (by decide) (fun _ _ _ h=>h) (Or.inl ⟨by rfl,?ypuk1⟩) HS10.out ?_
    case ypuk1=>exact zzR7
    try simp only[qA,List.getElem_toArray,List.getElem_cons_zero,List.getElem_cons_succ]
    refine anyT_take (i:=2) (v:=?vpuk2) rfl (by kernel_rfl) (by kernel_rfl) (by kernel_rfl) (by kernel_rfl) (by decide) (fun _ _ _ h=>h) (Or.inl ⟨by rfl,?ypuk2⟩) HS10.out ?_
    case ypuk2=>exact zzR7
    try simp only[qA,List.getElem_toArray,List.getElem_cons_zero,List.getElem_cons_succ]
    refine anyT_take (i:=3) (v:=?vpuk3) rfl (by kernel_rfl) (by kernel_rfl) (by kernel_rfl) (by kernel_rfl) (by decide) (fun _ _ _ h=>h) (Or.inl ⟨by rfl,?ypuk3⟩) HS10.out ?_
    case ypuk3=>exact zzR7
    try simp only[qA,List.getElem_toArray,List.getElem_cons_zero,List.getElem_cons_succ]
    refine anyT_take (i:=4) (v:=?vpuk4) rfl (by kernel_rfl) (by kernel_rfl) (by kernel_rfl) (by kernel_rfl) (by decide) (fun _ _ _ h=>h) (Or.inl ⟨by rfl,?ypuk4⟩) HS10.out ?_
    case ypuk4=>exact zzR7
    try simp only[qA,List.getElem_toArray,List.getElem_cons_zero,List.getElem_cons_succ]
    refine anyT_take (i:=5) (v:=?vpuk5) rfl (by kernel_rfl) (by kernel_rfl) (by kernel_rfl) (by kernel_rfl) (by decide) (fun _ _ _ h=>h) (Or.inl ⟨by rfl,?ypuk5⟩) HS10.out ?_
    case ypuk5=>exact zzR7
    try simp only[qA,List.getElem_toArray,List.getElem_cons_zero,List.getElem_cons_succ]
    refine qO 6 rfl fun K hK=>?_
    go_simp
    refine hK.out _ _ (.inl rfl) ?_
    clear hK
    try simp only[qA,List.getElem_toArray,List.getElem_cons_zero,List.getElem_cons_succ]
    refine qD ?_
    dsimp only[NoPanic]
    have hp:¬mp=b7:=HA.1.st.map.ne HA.1.made
    have ha2:¬mp=w.heap.size+1+1:=HA.1.st.map.ne HA.1.st.ans
    have hB6:BoxAt w6 w.heap.size 188 5 b7 (stL (ahd E S) (acc en S)):=HA.1.made.chg HA.2.2.2.1 (fun q=>hp q.symm)
    have hA6:=HA.1.st.ans.chg HA.2.2.2.1 (fun q=>ha2 q.symm)
    have r0:=hB6.cell (j:=0) rfl
    have a0:=hA6.cell (j:=0) rfl
    have f0:=hA6.frozen 0
    have r1:=hB6.cell (j:=1) rfl
    have a1:=hA6.cell (j:=1) rfl
    have f1:=hA6.frozen 1
    have r2:=hB6.cell (j:=2) rfl
    have a2:=hA6.cell (j:=2) rfl
    have f2:=hA6.frozen 2
    have r3:=hB6.cell (j:=3) rfl
    have a3:=hA6.cell (j:=3) rfl
    have f3:=hA6.frozen 3
    have r4:=hB6.cell (j:=4) rfl
    have a4:=hA6.cell (j:=4) rfl
    have f4:=hA6.frozen 4
    obtain⟨W7,hW7⟩:=qE (set5 w6 (w.heap.size+1+1) (ahd E S) (acc en S):World)
    have h:=HA.1
    have hc7:Chg (fun k=>k=w.heap.size+1+1) w6 W7:=by rw[hW7];exact chg_set5 _ _ _ _ rfl
    have hLo:=HLo.out
    have hM6:=h.st.mtr.box.chg HA.2.2.2.1 (fun q=>box_mapD h.st.map h.st.mtr.box q)
    have hDm:¬Dd=mp:=fun q=>by
     obtain⟨⟨es,c,h1,_⟩,_⟩:=h.st.map
     rw[←q,HA.2.1]at h1
     cases h1
    have hKD:W7.heap[Dd]?=some (.deferred (some [])):=by
     have hl:Dd<W.heap.size:=(Array.getElem?_eq_some_iff.1 HA.2.1).1
     rw[hc7.block Dd (Nat.lt_of_lt_of_le hl HA.2.2.2.1.size) (by have:=HA.2.2.2.2;omega),HA.2.2.2.1.block Dd hl hDm]
     exact HA.2.1
    exact zzQ5
   ·have zk:(1000:Int)≤(kk:Int):=by omega
    obtain⟨W9,hclr,hst9,hc9⟩:=hA.st.map.clear
    have HRJ:RaJ w base M T G cp a E en mp 0 (.map []) S b7 256 W4 W9:=⟨hA.st.chgM hc9 hst9 HLp.out,hA.made.chg hc9 (box_mapD hA.st.map hA.made),(Chg.of_below hA.low).trans hc9,Nat.le_trans hA.size hc9.size⟩
    have hKj:W9.heap[Dd]?=some (.deferred (some [])):=by
     have hl:Dd<W.heap.size:=(Array.getElem?_eq_some_iff.1 hK).1
     rw[hc9.block Dd hl (fun q=>by
      obtain⟨⟨es,c,h1,_⟩,_⟩:=hA.st.map
      rw[←q,hK]at h1
      cases h1)]
     exact hK
    have hAd:StD W9.drew mp 0 (.map []) E en:=hst9.chg (S:=fun _=>False) (Chg.of_below ((Below.refl _ _).drew)) (fun q=>q)
    obtain⟨w6,hput,hst6,hc6⟩:=StI.put (S:=S) ⟨(.map []),hAd⟩ (by unfold maxLen;omega)
    have HA:Hid (RaJ w base M T G cp a E en mp 0 (.map []) S b7 256 W4 W9∧W9.heap[Dd]?=some (.deferred (some []))∧StI w6 mp 1000 E en∧Chg (fun k=>k=mp) W9 w6∧W4.heap.size≤Dd):=by
     refine⟨HRJ,hKj,hst6.mono (by omega),?_,hD⟩
     have kd:Chg (fun k=>k=mp) W9 W9.drew:=Chg.of_below ((Below.refl _ _).drew)
     exact kd.trans hc6
    clear hA hK hst6 hc6 hAd m0 q0 q1 q2 q3 HRJ hKj htt hst9 hc9
    gi_wp2
    clear hlen hclr
    have HS10:Hid (W9.drew.cell? ⟨w.heap.size,0,none⟩=some (.pointer (some ⟨M,0,none⟩))∧W9.drew.cell? ⟨M,1029,none⟩=some (.map (some mp))∧W9.drew.cell? ⟨w.heap.size+1,0,none⟩=some (.int .u64 (wdN S 0:Int))∧W9.drew.cell? ⟨w.heap.size+1,1,none⟩=some (.int .u64 (wdN S 1:Int))∧W9.drew.cell? ⟨w.heap.size+1,2,none⟩=some (.int .u64 (wdN S 2:Int))∧W9.drew.cell? ⟨w.heap.size+1,3,none⟩=some (.int .u64 (wdN S 3:Int))∧W9.drew.cell? ⟨b7,0,none⟩=some (.int .u64 (wdN (ahd E S) 0:Int))∧W9.drew.cell? ⟨b7,1,none⟩=some (.int .u64 (wdN (ahd E S) 1:Int))∧W9.drew.cell? ⟨b7,2,none⟩=some (.int .u64 (wdN (ahd E S) 2:Int))∧W9.drew.cell? ⟨b7,3,none⟩=some (.int .u64 (wdN (ahd E S) 3:Int))∧W9.drew.cell? ⟨b7,4,none⟩=some (.bool (acc en S))):=by
     have h:=HA.1
     exact⟨h.st.ptr.cell (j:=0) rfl,h.st.mtr.map,h.st.set.cell (j:=0) rfl,h.st.set.cell (j:=1) rfl,h.st.set.cell (j:=2) rfl,h.st.set.cell (j:=3) rfl,h.made.cell (j:=0) rfl,h.made.cell (j:=1) rfl,h.made.cell (j:=2) rfl,h.made.cell (j:=3) rfl,h.made.cell (j:=4) rfl⟩
    refine wpIn_wide.2 ?_
    refine wp_region_noPanic ?_
    refine wp_region_T 6 (fun wz=>wz.cell? ⟨w.heap.size,0,none⟩=some (.pointer (some ⟨M,0,none⟩))∧wz.cell? ⟨M,1029,none⟩=some (.map (some mp))∧wz.cell? ⟨w.heap.size+1,0,none⟩=some (.int .u64 (wdN S 0:Int))∧wz.cell? ⟨w.heap.size+1,1,none⟩=some (.int .u64 (wdN S 1:Int))∧wz.cell? ⟨w.heap.size+1,2,none⟩=some (.int .u64 (wdN S 2:Int))∧wz.cell? ⟨w.heap.size+1,3,none⟩=some (.int .u64 (wdN S 3:Int))∧wz.cell? ⟨b7,0,none⟩=some (.int .u64 (wdN (ahd E S) 0:Int))∧wz.cell? ⟨b7,1,none⟩=some (.int .u64 (wdN (ahd E S) 1:Int))∧wz.cell? ⟨b7,2,none⟩=some (.int .u64 (wdN (ahd E S) 2:Int))∧wz.cell? ⟨b7,3,none⟩=some (.int .u64 (wdN (ahd E S) 3:Int))∧wz.cell? ⟨b7,4,none⟩=some (.bool (acc en S))) (by kernel_rfl) ?_
    refine anyT_take (i:=0) (v:=?vpuc0) rfl (by kernel_rfl) (by kernel_rfl) (by kernel_rfl) (by kernel_rfl) (by decide) (fun _ _ _ h=>h) (Or.inl ⟨by rfl,?ypuc0⟩) HS10.out ?_
    case ypuc0=>exact zzR7
    try simp only[qA,List.getElem_toArray,List.getElem_cons_zero,List.getElem_cons_succ]
    refine anyT_take (i:=1) (v:=?vpuc1) rfl (by kernel_rfl) (by kernel_rfl) (by kernel_rfl) (by kernel_rfl) (by decide) (fun _ _ _ h=>h) (Or.inl ⟨by rfl,?ypuc1⟩) HS10.out ?_
    case ypuc1=>exact zzR7
    try simp only[qA,List.getElem_toArray,List.getElem_cons_zero,List.getElem_cons_succ]
    refine anyT_take (i:=2) (v:=?vpuc2) rfl (by kernel_rfl) (by kernel_rfl) (by kernel_rfl) (by kernel_rfl) (by decide) (fun _ _ _ h=>h) (Or.inl ⟨by rfl,?ypuc2⟩) HS10.out ?_
    case ypuc2=>exact zzR7
    try simp only[qA,List.getElem_toArray,List.getElem_cons_zero,List.getElem_cons_succ]
    refine anyT_take (i:=3) (v:=?vpuc3) rfl (by kernel_rfl) (by kernel_rfl) (by kernel_rfl) (by kernel_rfl) (by decide) (fun _ _ _ h=>h) (Or.inl ⟨by rfl,?ypuc3⟩) HS10.out ?_
    case ypuc3=>exact zzR7
    try simp only[qA,List.getElem_toArray,List.getElem_cons_zero,List.getElem_cons_succ]
    refine anyT_take (i:=4) (v:=?vpuc4) rfl (by kernel_rfl) (by kernel_rfl) (by kernel_rfl) (by kernel_rfl) (by decide) (fun _ _ _ h=>h) (Or.inl ⟨by rfl,?ypuc4⟩) HS10.out ?_
    case ypuc4=>exact zzR7
    try simp only[qA,List.getElem_toArray,List.getElem_cons_zero,List.getElem_cons_succ]
    refine anyT_take (i:=5) (v:=?vpuc5) rfl (by kernel_rfl) (by kernel_rfl) (by kernel_rfl) (by kernel_rfl) (by decide) (fun _ _ _ h=>h) (Or.inl ⟨by rfl,?ypuc5⟩) HS10.out ?_
    case ypuc5=>exact zzR7
    try simp only[qA,List.getElem_toArray,List.getElem_cons_zero,List.getElem_cons_succ]
    refine qO 6 rfl fun K hK=>?_
    go_simp
    refine hK.out _ _ (.inl rfl) ?_
    clear hK
    try simp only[qA,List.getElem_toArray,List.getElem_cons_zero,List.getElem_cons_succ]
    refine qD ?_
    dsimp only[NoPanic]
    have hp:¬mp=b7:=HA.1.st.map.ne HA.1.made
    have ha2:¬mp=w.heap.size+1+1:=HA.1.st.map.ne HA.1.st.ans
    have hB6:BoxAt w6 w.heap.size 188 5 b7 (stL (ahd E S) (acc en S)):=HA.1.made.chg HA.2.2.2.1 (fun q=>hp q.symm)
    have hA6:=HA.1.st.ans.chg HA.2.2.2.1 (fun q=>ha2 q.symm)
    have r0:=hB6.cell (j:=0) rfl
    have a0:=hA6.cell (j:=0) rfl
    have f0:=hA6.frozen 0
    have r1:=hB6.cell (j:=1) rfl
    have a1:=hA6.cell (j:=1) rfl
    have f1:=hA6.frozen 1
    have r2:=hB6.cell (j:=2) rfl
    have a2:=hA6.cell (j:=2) rfl
    have f2:=hA6.frozen 2
    have r3:=hB6.cell (j:=3) rfl
    have a3:=hA6.cell (j:=3) rfl
    have f3:=hA6.frozen 3
    have r4:=hB6.cell (j:=4) rfl
    have a4:=hA6.cell (j:=4) rfl
    have f4:=hA6.frozen 4
    obtain⟨W7,hW7⟩:=qE (set5 w6 (w.heap.size+1+1) (ahd E S) (acc en S):World)
    have h:=HA.1
    have hc7:Chg (fun k=>k=w.heap.size+1+1) w6 W7:=by rw[hW7];exact chg_set5 _ _ _ _ rfl
    have hLo:=HLo.out
    have hM6:=h.st.mtr.box.chg HA.2.2.2.1 (fun q=>box_mapD h.st.map h.st.mtr.box q)
    have hDm:¬Dd=mp:=fun q=>by
     obtain⟨⟨es,c,h1,_⟩,_⟩:=h.st.map
     rw[←q,HA.2.1]at h1
     cases h1
    have hKD:W7.heap[Dd]?=some (.deferred (some [])):=by
     have hl:Dd<W9.heap.size:=(Array.getElem?_eq_some_iff.1 HA.2.1).1
     rw[hc7.block Dd (Nat.lt_of_lt_of_le hl HA.2.2.2.1.size) (by have:=HA.2.2.2.2;omega),HA.2.2.2.1.block Dd hl hDm]
     exact HA.2.1
    exact zzQ5
 ·go_simp
  refine hK.out _ _ (.inr (HSC.out _ (HW1.1.below (by repeat (first|exact Below.refl _ _|refine Below.drew ?_|refine Below.alloc ?_ (Nat.le_refl _) _))))) ?_
  clear hK
  try simp only[qA,List.getElem_toArray,List.getElem_cons_zero,List.getElem_cons_succ]
  have hX:Below W1.heap.size W1 (W1.alloc (.cells z5 188)).drew:=(qB).drew
  have hBX:BoxAt (W1.alloc (.cells z5 188)).drew w.heap.size 188 5 W1.heap.size z5.toList:=by exact(boxAt_new W1 z5 HW1.2.size rfl).below ((Below.refl _ _).drew)
  have HGt:Hid (w.heap.size+1+1<W1.heap.size):=by show _<_;exact HW1.1.ans.lt.2
  refine qO 5 rfl fun K hK=>?_
  go_simp
  refine(HCm.out _).mono ?_
  rintro r v3 ⟨rfl,hb3⟩
  have HV:Hid (Below W1.heap.size W1 v3∧Below w.heap.size w v3):=⟨hX.trans (hb3.mono hX.size),HW1.2.trans ((hX.trans (hb3.mono hX.size)).mono HW1.2.size)⟩
  have HB3:Hid (StB w v3 base M T G cp a E en mp n D S):=HW1.1.below HV.1
  have HBx:Hid (BoxAt v3 w.heap.size 188 5 W1.heap.size z5.toList):=hBX.below hb3
  have HNe:Hid (¬M=W1.heap.size∧¬G=W1.heap.size∧¬mp=W1.heap.size):=⟨fun q=>own_apart HB3.mtr.box HBx.out (by decide) M rfl (by rw[q];rfl),fun q=>own_apart HB3.mtr.row HBx.out (by decide) G rfl (by rw[q];rfl),HB3.map.ne HBx.out⟩
  have y0:=HBx.cell (j:=0) rfl
  have o0:=HBx.frozen 0
  have y1:=HBx.cell (j:=1) rfl
  have o1:=HBx.frozen 1
  have y2:=HBx.cell (j:=2) rfl
  have o2:=HBx.frozen 2
  have y3:=HBx.cell (j:=3) rfl
  have o3:=HBx.frozen 3
  have y4:=HBx.cell (j:=4) rfl
  have o4:=HBx.frozen 4
  refine hK.out _ _ (.inr (HSC.out _ HB3.out)) ?_
  clear hK hb3 hX hBX
  try simp only[qA,List.getElem_toArray,List.getElem_cons_zero,List.getElem_cons_succ]
  refine anyT_takeN (i:=7) (v:=.bool (acc en S)) rfl (by kernel_rfl) (by kernel_rfl) (by kernel_rfl) (by rfl) (fun _ _ _ h=>h) (Or.inl ⟨by rfl,?yqb7⟩) (HSC.out _ HB3.out) ?_
  case yqb7=>exact zzR26
  try simp only[qA,List.getElem_toArray,List.getElem_cons_zero,List.getElem_cons_succ]
  refine anyT_takeN (i:=8) (v:=?vqb8) rfl (by kernel_rfl) (by kernel_rfl) (by kernel_rfl) (by rfl) (fun _ _ _ h=>h) (Or.inl ⟨by rfl,?yqb8⟩) (HSC.out _ HB3.out) ?_
  case yqb8=>exact zzR18
  try simp only[qA,List.getElem_toArray,List.getElem_cons_zero,List.getElem_cons_succ]
  refine qO 10 rfl fun K hK=>?_
  go_simp
  refine hK.out _ _ (.inr (HSC.out _ (HB3.chg (Z:=fun k=>k=W1.heap.size) (((((Chg.of_set (S:=fun k=>k=W1.heap.size) _ W1.heap.size 0 _ rfl).trans (Chg.of_set (S:=fun k=>k=W1.heap.size) _ W1.heap.size 1 _ rfl)).trans (Chg.of_set (S:=fun k=>k=W1.heap.size) _ W1.heap.size 2 _ rfl)).trans (Chg.of_set (S:=fun k=>k=W1.heap.size) _ W1.heap.size 3 _ rfl)).trans (Chg.of_set (S:=fun k=>k=W1.heap.size) _ W1.heap.size 4 _ rfl)) (by have:=HNe.out;omega) (by have:=HNe.out;omega) (by have:=HNe.out;omega) (fun k q=>by have:=HGt.out;have:=HLo.out;omega)))) ?_
  clear hK
  try simp only[qA,List.getElem_toArray,List.getElem_cons_zero,List.getElem_cons_succ]
  refine qD ?_
  dsimp only[NoPanic]
  obtain⟨b7,hb7⟩:=qE W1.heap.size
  rw[←hb7]at HBx HNe HGt⊢
  obtain⟨W4,hW4⟩:=qE (set5 v3 b7 sNo (acc en S):World)
  have hc4:Chg (fun k=>k=b7) v3 W4:=by rw[hW4];exact chg_set5 _ _ _ _ rfl
  have HR4:Hid (RaI w base M T G cp a E en mp n D S b7 0 W4 W4∧b7<W4.heap.size):=by
   have b4:=HBx.set5 sNo (acc en S)
   rw[←hW4]at b4
   refine⟨⟨HB3.chg hc4 (by have:=HNe.out;omega) (by have:=HNe.out;omega) (by have:=HNe.out;omega) (fun k q=>by have:=HGt.out;have:=HLo.out;omega),b4,Chg.below HV.2 hc4 HV.2.size (fun k q=>by have:=HGt.out;omega),Nat.le_refl _⟩,b4.lt.2⟩
  have hW4':=hW4
  simp only[set5,wdN_no]at hW4'
  simp only[Int.ofNat_zero,Int.natCast_zero]at hW4'
  rw[←hW4']
  clear hW4 hW4' hc4 hb7 y0 y1 y2 y3 y4 o0 o1 o2 o3 o4
  have m0:=HR4.1.st.ptr.cell (j:=0) rfl
  obtain⟨q0,q1,q2,q3⟩:=HR4.1.st.set.c4
  gi_wp2
  have hbz:w.heap.size+1+1<W4.heap.size:=HR4.1.st.ans.lt.2
  have hMz:=HR4.1.st.mtr.ltM
  have hGz:=HR4.1.st.mtr.ltG
  have hpz:=HR4.1.st.map.lt
  refine wp_range_mem (by decide) S rfl rfl (fun k W=>RaI w base M T G cp a E en mp n D S b7 k W4 W) ?hIZ ?hItZ ?hIsZ HR4.1
   (fun x=>{tmps:=#[.pointer (some ⟨M,0,none⟩),psV S,.pointer (some ⟨w.heap.size,0,none⟩),.pointer (some ⟨w.heap.size+1,0,none⟩),.pointer (some ⟨w.heap.size+1+1,0,none⟩),.pointer (some ⟨W0.heap.size,0,none⟩),.bool false,.pointer (some ⟨b7,0,none⟩),.int .i64 (x:Int),.tuple #[.agg #[.int .u64 0,.int .u64 0,.int .u64 0,.int .u64 0,.bool false],.bool false],.pointer (some ⟨M,0,none⟩),.pointer (some ⟨M,0,none⟩),.pointer (some ⟨M,1029,none⟩),.map (some mp),psV S,.tuple #[.agg #[.int .u64 0,.int .u64 0,.int .u64 0,.int .u64 0,.bool false],.bool false],.agg #[.int .u64 0,.int .u64 0,.int .u64 0,.int .u64 0,.bool false],.bool false,.bool false,undef,psV S,.pointer (some ⟨M,0,none⟩),.pointer (some ⟨M,0,none⟩),.pointer (some ⟨M,1025,none⟩),psV en,psV (sAnd S en),.agg #[.int .u64 0,.int .u64 0,.int .u64 0,.int .u64 0],.bool (acc en S),.agg #[.int .u64 0,.int .u64 0,.int .u64 0,.int .u64 0,.bool (acc en S)],psV S,.func (.func 160) #[psV S] #[],.int .i64 (x:Int),undef,undef,undef,undef,undef,undef,undef,undef,undef,undef,undef,undef,undef,undef,undef,undef,undef,undef,undef,undef,undef,undef,undef,undef,undef,undef,undef,undef],defers:= []}) ?assignZ ?bodyZ ?doneZ
  case hIZ=>
   exact zzQ25
  case hItZ=>exact fun k W hA=>hA.st.mtr.tab
  case hIsZ=>
   intro k k' W hA hk hno
   exact⟨hA.st,by rw[ahdT_skip hk hno];exact hA.made,hA.low,hA.size⟩
  case assignZ=>
   intro l x W K hK
   gi_wp2
   exact hK
  case bodyZ=>
   intro l k x W hA hkx hx hSx hbet
   have hxa:=HS.out x hSx
   have zx:(x:Int)<(a:Int):=by omega
   have hcap:=hA.st.mtr.caps
   have HA:Hid (RaI w base M T G cp a E en mp n D S b7 k W4 W∧S x=true∧(∀j,k≤j→j<x→S j=false)):=⟨hA,hSx,hbet⟩
   have HU:Hid (∀wx:World,Calls Tryz.prog 161 #[psV (ahdT E S k),psV (E x)] wx fun e w'=>e=.returned (psV (sOr (ahdT E S k) (E x)))∧Below wx.heap.size wx w'):=fun wx=>union_core _ _ wx
   have HS7:Hid (∀X,RaI w base M T G cp a E en mp n D S b7 k W4 X→(X.cell? ⟨w.heap.size,0,none⟩=some (.pointer (some ⟨M,0,none⟩))∧X.cell? ⟨M,1024,none⟩=some (.slice (some ⟨G,0,none⟩) a cp)∧X.cell? ⟨b7,0,none⟩=some (.int .u64 (wdN (ahdT E S k) 0:Int))∧X.cell? ⟨b7,1,none⟩=some (.int .u64 (wdN (ahdT E S k) 1:Int))∧X.cell? ⟨b7,2,none⟩=some (.int .u64 (wdN (ahdT E S k) 2:Int))∧X.cell? ⟨b7,3,none⟩=some (.int .u64 (wdN (ahdT E S k) 3:Int))∧X.cell? ⟨G,x*4,none⟩=some (.int .u64 (wdN (E x) 0:Int))∧X.cell? ⟨G,x*4+1,none⟩=some (.int .u64 (wdN (E x) 1:Int))∧X.cell? ⟨G,x*4+2,none⟩=some (.int .u64 (wdN (E x) 2:Int))∧X.cell? ⟨G,x*4+3,none⟩=some (.int .u64 (wdN (E x) 3:Int)))):=fun X h=>by
    obtain⟨g0,g1,g2,g3,_⟩:=h.st.mtr.edge4 hxa
    exact⟨h.st.ptr.cell (j:=0) rfl,h.st.mtr.fol,h.made.cell (j:=0) rfl,h.made.cell (j:=1) rfl,h.made.cell (j:=2) rfl,h.made.cell (j:=3) rfl,g0,g1,g2,g3⟩
   have HBl:Hid (∀X,Below W.heap.size W X→RaI w base M T G cp a E en mp n D S b7 k W4 X):=fun X hb=>⟨HA.1.st.below hb,HA.1.made.below hb,HA.1.low.trans (hb.mono HA.1.low.size),Nat.le_trans HA.1.size hb.size⟩
   clear hA hSx hbet
   gi_wp2
   refine wpIn_region_T 11 (fun wz=>wz.cell? ⟨w.heap.size,0,none⟩=some (.pointer (some ⟨M,0,none⟩))∧wz.cell? ⟨M,1024,none⟩=some (.slice (some ⟨G,0,none⟩) a cp)∧wz.cell? ⟨b7,0,none⟩=some (.int .u64 (wdN (ahdT E S k) 0:Int))∧wz.cell? ⟨b7,1,none⟩=some (.int .u64 (wdN (ahdT E S k) 1:Int))∧wz.cell? ⟨b7,2,none⟩=some (.int .u64 (wdN (ahdT E S k) 2:Int))∧wz.cell? ⟨b7,3,none⟩=some (.int .u64 (wdN (ahdT E S k) 3:Int))∧wz.cell? ⟨G,x*4,none⟩=some (.int .u64 (wdN (E x) 0:Int))∧wz.cell? ⟨G,x*4+1,none⟩=some (.int .u64 (wdN (E x) 1:Int))∧wz.cell? ⟨G,x*4+2,none⟩=some (.int .u64 (wdN (E x) 2:Int))∧wz.cell? ⟨G,x*4+3,none⟩=some (.int .u64 (wdN (E x) 3:Int))) (by kernel_rfl) (by kernel_rfl) ?hletZ ?_
   case hletZ=>rintro⟨a0,w0,hq⟩;exact nomatch (show Exit.outgrown=Exit.normal from hq.1)
   refine anyT_take (i:=0) (v:=?vraZ0) rfl (by kernel_rfl) (by kernel_rfl) (by kernel_rfl) (by kernel_rfl) (by decide) (fun _ _ _ h=>h) (Or.inl ⟨by rfl,?yraZ0⟩) (HS7.out _ (HBl.out _ ((Below.refl _ _).drew))) ?_
   case yraZ0=>exact zzR8
   try simp only[qA,List.getElem_toArray,List.getElem_cons_zero,List.getElem_cons_succ]
   refine anyT_take (i:=1) (v:=?vraZ1) rfl (by kernel_rfl) (by kernel_rfl) (by kernel_rfl) (by kernel_rfl) (by decide) (fun _ _ _ h=>h) (Or.inl ⟨by rfl,?yraZ1⟩) (HS7.out _ (HBl.out _ ((Below.refl _ _).drew))) ?_
   case yraZ1=>exact zzR8
   try simp only[qA,List.getElem_toArray,List.getElem_cons_zero,List.getElem_cons_succ]
   refine anyT_take (i:=2) (v:=?vraZ2) rfl (by kernel_rfl) (by kernel_rfl) (by kernel_rfl) (by kernel_rfl) (by decide) (fun _ _ _ h=>h) (Or.inl ⟨by rfl,?yraZ2⟩) (HS7.out _ (HBl.out _ ((Below.refl _ _).drew))) ?_
   case yraZ2=>exact zzR8
   try simp only[qA,List.getElem_toArray,List.getElem_cons_zero,List.getElem_cons_succ]
   refine anyT_take (i:=3) (v:=?vraZ3) rfl (by kernel_rfl) (by kernel_rfl) (by kernel_rfl) (by kernel_rfl) (by decide) (fun _ _ _ h=>h) (Or.inl ⟨by rfl,?yraZ3⟩) (HS7.out _ (HBl.out _ ((Below.refl _ _).drew))) ?_
   case yraZ3=>exact zzR8
   try simp only[qA,List.getElem_toArray,List.getElem_cons_zero,List.getElem_cons_succ]
   refine anyT_take (i:=4) (v:=?vraZ4) rfl (by kernel_rfl) (by kernel_rfl) (by kernel_rfl) (by kernel_rfl) (by decide) (fun _ _ _ h=>h) (Or.inl ⟨by rfl,?yraZ4⟩) (HS7.out _ (HBl.out _ ((Below.refl _ _).drew))) ?_
   case yraZ4=>exact zzR8
   try simp only[qA,List.getElem_toArray,List.getElem_cons_zero,List.getElem_cons_succ]
   refine anyT_take (i:=5) (v:=?vraZ5) rfl (by kernel_rfl) (by kernel_rfl) (by kernel_rfl) (by kernel_rfl) (by decide) (fun _ _ _ h=>h) (Or.inl ⟨by rfl,?yraZ5⟩) (HS7.out _ (HBl.out _ ((Below.refl _ _).drew))) ?_
   case yraZ5=>exact zzR8
   try simp only[qA,List.getElem_toArray,List.getElem_cons_zero,List.getElem_cons_succ]
   refine anyT_take (i:=6) (v:=?vraZ6) rfl (by kernel_rfl) (by kernel_rfl) (by kernel_rfl) (by kernel_rfl) (by decide) (fun _ _ _ h=>h) (Or.inl ⟨by rfl,?yraZ6⟩) (HS7.out _ (HBl.out _ ((Below.refl _ _).drew))) ?_
   case yraZ6=>exact zzR8
   try simp only[qA,List.getElem_toArray,List.getElem_cons_zero,List.getElem_cons_succ]
   refine anyT_take (i:=7) (v:=?vraZ7) rfl (by kernel_rfl) (by kernel_rfl) (by kernel_rfl) (by kernel_rfl) (by decide) (fun _ _ _ h=>h) (Or.inl ⟨by rfl,?yraZ7⟩) (HS7.out _ (HBl.out _ ((Below.refl _ _).drew))) ?_
   case yraZ7=>exact zzR8
   try simp only[qA,List.getElem_toArray,List.getElem_cons_zero,List.getElem_cons_succ]
   refine anyT_take (i:=8) (v:=?vraZ8) rfl (by kernel_rfl) (by kernel_rfl) (by kernel_rfl) (by kernel_rfl) (by decide) (fun _ _ _ h=>h) (Or.inl ⟨by rfl,?yraZ8⟩) (HS7.out _ (HBl.out _ ((Below.refl _ _).drew))) ?_
   case yraZ8=>exact zzR8
   try simp only[qA,List.getElem_toArray,List.getElem_cons_zero,List.getElem_cons_succ]
   refine qO 9 rfl fun K hK=>?_
   go_simp
   refine(HU.out _).mono ?_
   rintro r v5 ⟨rfl,hb5⟩
   have HV5:Hid (RaI w base M T G cp a E en mp n D S b7 k W4 v5∧Below W.heap.size W v5):=⟨HBl.out _ (((Below.refl W.heap.size W).drew).trans hb5),((Below.refl W.heap.size W).drew).trans hb5⟩
   obtain⟨y0,y1,y2,y3⟩:=HV5.1.made.c4
   have o0:=HV5.1.made.frozen 0
   have o1:=HV5.1.made.frozen 1
   have o2:=HV5.1.made.frozen 2
   have o3:=HV5.1.made.frozen 3
   refine hK.out _ _ (.inr (HS7.out _ HV5.1)) ?_
   clear hK hb5
   try simp only[qA,List.getElem_toArray,List.getElem_cons_zero,List.getElem_cons_succ]
   refine anyT_take (i:=10) (v:=?vraZ10) rfl (by kernel_rfl) (by kernel_rfl) (by kernel_rfl) (by kernel_rfl) (by decide) (fun _ _ _ h=>h) (Or.inl ⟨by rfl,?yraZ10⟩) (HS7.out _ HV5.1) ?_
   case yraZ10=>exact zzR8
   exact zzQ8
  case doneZ=>
   rintro Dd W hD hA hK
   have m1:=hA.st.ptr.cell (j:=0) rfl
   have m2:=hA.st.mtr.map
   obtain⟨kk,hkk,hlen,htt⟩:∃kk:Nat,kk≤n∧(∀ty,(Builtin.len_ #[176] ty #[.map (some mp)]).run Tryz.prog W=.ok (.int .i64 (kk:Int)) W)∧StD W mp kk D E en:=⟨_,hA.st.map.1.size_le,fun ty=>hA.st.map.1.len Tryz.underlying176 ty,hA.st.map.tight⟩
   by_cases hq:kk<1000
   ·have zk:¬(1000:Int)≤(kk:Int):=by omega
    have HRJ:RaJ w base M T G cp a E en mp n D S b7 256 W4 W:=⟨hA.st,hA.made,Chg.of_below hA.low,hA.size⟩
    have hKj:=hK
    have hAd:StD W.drew mp kk D E en:=htt.chg (S:=fun _=>False) (Chg.of_below ((Below.refl _ _).drew)) (fun q=>q)
    obtain⟨w6,hput,hst6,hc6⟩:=StI.put (S:=S) ⟨D,hAd⟩ (by unfold maxLen;omega)
    have HA:Hid (RaJ w base M T G cp a E en mp n D S b7 256 W4 W∧W.heap[Dd]?=some (.deferred (some []))∧StI w6 mp 1000 E en∧Chg (fun k=>k=mp) W w6∧W4.heap.size≤Dd):=by
     refine⟨HRJ,hKj,hst6.mono (by omega),?_,hD⟩
     have kd:Chg (fun k=>k=mp) W W.drew:=Chg.of_below ((Below.refl _ _).drew)
     exact kd.trans hc6
    clear hA hK hst6 hc6 hAd m0 q0 q1 q2 q3 HRJ hKj htt
    gi_wp2
    clear hlen
    have HS10:Hid (W.drew.cell? ⟨w.heap.size,0,none⟩=some (.pointer (some ⟨M,0,none⟩))∧W.drew.cell? ⟨M,1029,none⟩=some (.map (some mp))∧W.drew.cell? ⟨w.heap.size+1,0,none⟩=some (.int .u64 (wdN S 0:Int))∧W.drew.cell? ⟨w.heap.size+1,1,none⟩=some (.int .u64 (wdN S 1:Int))∧W.drew.cell? ⟨w.heap.size+1,2,none⟩=some (.int .u64 (wdN S 2:Int))∧W.drew.cell? ⟨w.heap.size+1,3,none⟩=some (.int .u64 (wdN S 3:Int))∧W.drew.cell? ⟨b7,0,none⟩=some (.int .u64 (wdN (ahd E S) 0:Int))∧W.drew.cell? ⟨b7,1,none⟩=some (.int .u64 (wdN (ahd E S) 1:Int))∧W.drew.cell? ⟨b7,2,none⟩=some (.int .u64 (wdN (ahd E S) 2:Int))∧W.drew.cell? ⟨b7,3,none⟩=some (.int .u64 (wdN (ahd E S) 3:Int))∧W.drew.cell? ⟨b7,4,none⟩=some (.bool (acc en S))):=by
     have h:=HA.1
     exact⟨h.st.ptr.cell (j:=0) rfl,h.st.mtr.map,h.st.set.cell (j:=0) rfl,h.st.set.cell (j:=1) rfl,h.st.set.cell (j:=2) rfl,h.st.set.cell (j:=3) rfl,h.made.cell (j:=0) rfl,h.made.cell (j:=1) rfl,h.made.cell (j:=2) rfl,h.made.cell (j:=3) rfl,h.made.cell (j:=4) rfl⟩
    refine wpIn_wide.2 ?_
    refine wp_region_noPanic ?_
    refine wp_region_T 6 (fun wz=>wz.cell? ⟨w.heap.size,0,none⟩=some (.pointer (some ⟨M,0,none⟩))∧wz.cell? ⟨M,1029,none⟩=some (.map (some mp))∧wz.cell? ⟨w.heap.size+1,0,none⟩=some (.int .u64 (wdN S 0:Int))∧wz.cell? ⟨w.heap.size+1,1,none⟩=some (.int .u64 (wdN S 1:Int))∧wz.cell? ⟨w.heap.size+1,2,none⟩=some (.int .u64 (wdN S 2:Int))∧wz.cell? ⟨w.heap.size+1,3,none⟩=some (.int .u64 (wdN S 3:Int))∧wz.cell? ⟨b7,0,none⟩=some (.int .u64 (wdN (ahd E S) 0:Int))∧wz.cell? ⟨b7,1,none⟩=some (.int .u64 (wdN (ahd E S) 1:Int))∧wz.cell? ⟨b7,2,none⟩=some (.int .u64 (wdN (ahd E S) 2:Int))∧wz.cell? ⟨b7,3,none⟩=some (.int .u64 (wdN (ahd E S) 3:Int))∧wz.cell? ⟨b7,4,none⟩=some (.bool (acc en S))) (by kernel_rfl) ?_
    refine anyT_take (i:=0) (v:=?vpuZ0) rfl (by kernel_rfl) (by kernel_rfl) (by kernel_rfl) (by kernel_rfl) (by decide) (fun _ _ _ h=>h) (Or.inl ⟨by rfl,?ypuZ0⟩) HS10.out ?_
    case ypuZ0=>exact zzR7
    try simp only[qA,List.getElem_toArray,List.getElem_cons_zero,List.getElem_cons_succ]
    refine anyT_take (i:=1) (v:=?vpuZ1) rfl (by kernel_rfl) (by kernel_rfl) (by kernel_rfl) (by kernel_rfl) (by decide) (fun _ _ _ h=>h) (Or.inl ⟨by rfl,?ypuZ1⟩) HS10.out ?_
    case ypuZ1=>exact zzR7
    try simp only[qA,List.getElem_toArray,List.getElem_cons_zero,List.getElem_cons_succ]
    refine anyT_take (i:=2) (v:=?vpuZ2) rfl (by kernel_rfl) (by kernel_rfl) (by kernel_rfl) (by kernel_rfl) (by decide) (fun _ _ _ h=>h) (Or.inl ⟨by rfl,?ypuZ2⟩) HS10.out ?_
    case ypuZ2=>exact zzR7
    try simp only[qA,List.getElem_toArray,List.getElem_cons_zero,List.getElem_cons_succ]
    refine anyT_take (i:=3) (v:=?vpuZ3) rfl (by kernel_rfl) (by kernel_rfl) (by kernel_rfl) (by kernel_rfl) (by decide) (fun _ _ _ h=>h) (Or.inl ⟨by rfl,?ypuZ3⟩) HS10.out ?_
    case ypuZ3=>exact zzR7
    try simp only[qA,List.getElem_toArray,List.getElem_cons_zero,List.getElem_cons_succ]
    refine anyT_take (i:=4) (v:=?vpuZ4) rfl (by kernel_rfl) (by kernel_rfl) (by kernel_rfl) (by kernel_rfl) (by decide) (fun _ _ _ h=>h) (Or.inl ⟨by rfl,?ypuZ4⟩) HS10.out ?_
    case ypuZ4=>exact zzR7
    try simp only[qA,List.getElem_toArray,List.getElem_cons_zero,List.getElem_cons_succ]
    refine anyT_take (i:=5) (v:=?vpuZ5) rfl (by kernel_rfl) (by kernel_rfl) (by kernel_rfl) (by kernel_rfl) (by decide) (fun _ _ _ h=>h) (Or.inl ⟨by rfl,?ypuZ5⟩) HS10.out ?_
    case ypuZ5=>exact zzR7
    try simp only[qA,List.getElem_toArray,List.getElem_cons_zero,List.getElem_cons_succ]
    refine qO 6 rfl fun K hK=>?_
    go_simp
    refine hK.out _ _ (.inl rfl) ?_
    clear hK
    try simp only[qA,List.getElem_toArray,List.getElem_cons_zero,List.getElem_cons_succ]
    refine qD ?_
    dsimp only[NoPanic]
    have hp:¬mp=b7:=HA.1.st.map.ne HA.1.made
    have ha2:¬mp=w.heap.size+1+1:=HA.1.st.map.ne HA.1.st.ans
    have hB6:BoxAt w6 w.heap.size 188 5 b7 (stL (ahd E S) (acc en S)):=HA.1.made.chg HA.2.2.2.1 (fun q=>hp q.symm)
    have hA6:=HA.1.st.ans.chg HA.2.2.2.1 (fun q=>ha2 q.symm)
    have r0:=hB6.cell (j:=0) rfl
    have a0:=hA6.cell (j:=0) rfl
    have f0:=hA6.frozen 0
    have r1:=hB6.cell (j:=1) rfl
    have a1:=hA6.cell (j:=1) rfl
    have f1:=hA6.frozen 1
    have r2:=hB6.cell (j:=2) rfl
    have a2:=hA6.cell (j:=2) rfl
    have f2:=hA6.frozen 2
    have r3:=hB6.cell (j:=3) rfl
    have a3:=hA6.cell (j:=3) rfl
    have f3:=hA6.frozen 3
    have r4:=hB6.cell (j:=4) rfl
    have a4:=hA6.cell (j:=4) rfl
    have f4:=hA6.frozen 4
    obtain⟨W7,hW7⟩:=qE (set5 w6 (w.heap.size+1+1) (ahd E S) (acc en S):World)
    have h:=HA.1
    have hc7:Chg (fun k=>k=w.heap.size+1+1) w6 W7:=by rw[hW7];exact chg_set5 _ _ _ _ rfl
    have hLo:=HLo.out
    have hM6:=h.st.mtr.box.chg HA.2.2.2.1 (fun q=>box_mapD h.st.map h.st.mtr.box q)
    have hDm:¬Dd=mp:=fun q=>by
     obtain⟨⟨es,c,h1,_⟩,_⟩:=h.st.map
     rw[←q,HA.2.1]at h1
     cases h1
    have hKD:W7.heap[Dd]?=some (.deferred (some [])):=by
     have hl:Dd<W.heap.size:=(Array.getElem?_eq_some_iff.1 HA.2.1).1
     rw[hc7.block Dd (Nat.lt_of_lt_of_le hl HA.2.2.2.1.size) (by have:=HA.2.2.2.2;omega),HA.2.2.2.1.block Dd hl hDm]
     exact HA.2.1
    exact zzQ5
   ·have zk:(1000:Int)≤(kk:Int):=by omega
    obtain⟨W9,hclr,hst9,hc9⟩:=hA.st.map.clear
    have HRJ:RaJ w base M T G cp a E en mp 0 (.map []) S b7 256 W4 W9:=⟨hA.st.chgM hc9 hst9 HLp.out,hA.made.chg hc9 (box_mapD hA.st.map hA.made),(Chg.of_below hA.low).trans hc9,Nat.le_trans hA.size hc9.size⟩
    have hKj:W9.heap[Dd]?=some (.deferred (some [])):=by
     have hl:Dd<W.heap.size:=(Array.getElem?_eq_some_iff.1 hK).1
     rw[hc9.block Dd hl (fun q=>by
      obtain⟨⟨es,c,h1,_⟩,_⟩:=hA.st.map
      rw[←q,hK]at h1
      cases h1)]
     exact hK
    have hAd:StD W9.drew mp 0 (.map []) E en:=hst9.chg (S:=fun _=>False) (Chg.of_below ((Below.refl _ _).drew)) (fun q=>q)
    obtain⟨w6,hput,hst6,hc6⟩:=StI.put (S:=S) ⟨(.map []),hAd⟩ (by unfold maxLen;omega)
    have HA:Hid (RaJ w base M T G cp a E en mp 0 (.map []) S b7 256 W4 W9∧W9.heap[Dd]?=some (.deferred (some []))∧StI w6 mp 1000 E en∧Chg (fun k=>k=mp) W9 w6∧W4.heap.size≤Dd):=by
     refine⟨HRJ,hKj,hst6.mono (by omega),?_,hD⟩
     have kd:Chg (fun k=>k=mp) W9 W9.drew:=Chg.of_below ((Below.refl _ _).drew)
     exact kd.trans hc6
    clear hA hK hst6 hc6 hAd m0 q0 q1 q2 q3 HRJ hKj htt hst9 hc9
    gi_wp2
    clear hlen hclr
    have HS10:Hid (W9.drew.cell? ⟨w.heap.size,0,none⟩=some (.pointer (some ⟨M,0,none⟩))∧W9.drew.cell? ⟨M,1029,none⟩=some (.map (some mp))∧W9.drew.cell? ⟨w.heap.size+1,0,none⟩=some (.int .u64 (wdN S 0:Int))∧W9.drew.cell? ⟨w.heap.size+1,1,none⟩=some (.int .u64 (wdN S 1:Int))∧W9.drew.cell? ⟨w.heap.size+1,2,none⟩=some (.int .u64 (wdN S 2:Int))∧W9.drew.cell? ⟨w.heap.size+1,3,none⟩=some (.int .u64 (wdN S 3:Int))∧W9.drew.cell? ⟨b7,0,none⟩=some (.int .u64 (wdN (ahd E S) 0:Int))∧W9.drew.cell? ⟨b7,1,none⟩=some (.int .u64 (wdN (ahd E S) 1:Int))∧W9.drew.cell? ⟨b7,2,none⟩=some (.int .u64 (wdN (ahd E S) 2:Int))∧W9.drew.cell? ⟨b7,3,none⟩=some (.int .u64 (wdN (ahd E S) 3:Int))∧W9.drew.cell? ⟨b7,4,none⟩=some (.bool (acc en S))):=by
     have h:=HA.1
     exact⟨h.st.ptr.cell (j:=0) rfl,h.st.mtr.map,h.st.set.cell (j:=0) rfl,h.st.set.cell (j:=1) rfl,h.st.set.cell (j:=2) rfl,h.st.set.cell (j:=3) rfl,h.made.cell (j:=0) rfl,h.made.cell (j:=1) rfl,h.made.cell (j:=2) rfl,h.made.cell (j:=3) rfl,h.made.cell (j:=4) rfl⟩
    refine wpIn_wide.2 ?_
    refine wp_region_noPanic ?_
    refine wp_region_T 6 (fun wz=>wz.cell? ⟨w.heap.size,0,none⟩=some (.pointer (some ⟨M,0,none⟩))∧wz.cell? ⟨M,1029,none⟩=some (.map (some mp))∧wz.cell? ⟨w.heap.size+1,0,none⟩=some (.int .u64 (wdN S 0:Int))∧wz.cell? ⟨w.heap.size+1,1,none⟩=some (.int .u64 (wdN S 1:Int))∧wz.cell? ⟨w.heap.size+1,2,none⟩=some (.int .u64 (wdN S 2:Int))∧wz.cell? ⟨w.heap.size+1,3,none⟩=some (.int .u64 (wdN S 3:Int))∧wz.cell? ⟨b7,0,none⟩=some (.int .u64 (wdN (ahd E S) 0:Int))∧wz.cell? ⟨b7,1,none⟩=some (.int .u64 (wdN (ahd E S) 1:Int))∧wz.cell? ⟨b7,2,none⟩=some (.int .u64 (wdN (ahd E S) 2:Int))∧wz.cell? ⟨b7,3,none⟩=some (.int .u64 (wdN (ahd E S) 3:Int))∧wz.cell? ⟨b7,4,none⟩=some (.bool (acc en S))) (by kernel_rfl) ?_
    refine anyT_take (i:=0) (v:=?vpuZ0) rfl (by kernel_rfl) (by kernel_rfl) (by kernel_rfl) (by kernel_rfl) (by decide) (fun _ _ _ h=>h) (Or.inl ⟨by rfl,?ypuZ0⟩) HS10.out ?_
    case ypuZ0=>exact zzR7
    try simp only[qA,List.getElem_toArray,List.getElem_cons_zero,List.getElem_cons_succ]
    refine anyT_take (i:=1) (v:=?vpuZ1) rfl (by kernel_rfl) (by kernel_rfl) (by kernel_rfl) (by kernel_rfl) (by decide) (fun _ _ _ h=>h) (Or.inl ⟨by rfl,?ypuZ1⟩) HS10.out ?_
    case ypuZ1=>exact zzR7
    try simp only[qA,List.getElem_toArray,List.getElem_cons_zero,List.getElem_cons_succ]
    refine anyT_take (i:=2) (v:=?vpuZ2) rfl (by kernel_rfl) (by kernel_rfl) (by kernel_rfl) (by kernel_rfl) (by decide) (fun _ _ _ h=>h) (Or.inl ⟨by rfl,?ypuZ2⟩) HS10.out ?_
    case ypuZ2=>exact zzR7
    try simp only[qA,List.getElem_toArray,List.getElem_cons_zero,List.getElem_cons_succ]
    refine anyT_take (i:=3) (v:=?vpuZ3) rfl (by kernel_rfl) (by kernel_rfl) (by kernel_rfl) (by kernel_rfl) (by decide) (fun _ _ _ h=>h) (Or.inl ⟨by rfl,?ypuZ3⟩) HS10.out ?_
    case ypuZ3=>exact zzR7
    try simp only[qA,List.getElem_toArray,List.getElem_cons_zero,List.getElem_cons_succ]
    refine anyT_take (i:=4) (v:=?vpuZ4) rfl (by kernel_rfl) (by kernel_rfl) (by kernel_rfl) (by kernel_rfl) (by decide) (fun _ _ _ h=>h) (Or.inl ⟨by rfl,?ypuZ4⟩) HS10.out ?_
    case ypuZ4=>exact zzR7
    try simp only[qA,List.getElem_toArray,List.getElem_cons_zero,List.getElem_cons_succ]
    refine anyT_take (i:=5) (v:=?vpuZ5) rfl (by kernel_rfl) (by kernel_rfl) (by kernel_rfl) (by kernel_rfl) (by decide) (fun _ _ _ h=>h) (Or.inl ⟨by rfl,?ypuZ5⟩) HS10.out ?_
    case ypuZ5=>exact zzR7
    try simp only[qA,List.getElem_toArray,List.getElem_cons_zero,List.getElem_cons_succ]
    refine qO 6 rfl fun K hK=>?_
    go_simp
    refine hK.out _ _ (.inl rfl) ?_
    clear hK
    try simp only[qA,List.getElem_toArray,List.getElem_cons_zero,List.getElem_cons_succ]
    refine qD ?_
    dsimp only[NoPanic]
    have hp:¬mp=b7:=HA.1.st.map.ne HA.1.made
    have ha2:¬mp=w.heap.size+1+1:=HA.1.st.map.ne HA.1.st.ans
    have hB6:BoxAt w6 w.heap.size 188 5 b7 (stL (ahd E S) (acc en S)):=HA.1.made.chg HA.2.2.2.1 (fun q=>hp q.symm)
    have hA6:=HA.1.st.ans.chg HA.2.2.2.1 (fun q=>ha2 q.symm)
    have r0:=hB6.cell (j:=0) rfl
    have a0:=hA6.cell (j:=0) rfl
    have f0:=hA6.frozen 0
    have r1:=hB6.cell (j:=1) rfl
    have a1:=hA6.cell (j:=1) rfl
    have f1:=hA6.frozen 1
    have r2:=hB6.cell (j:=2) rfl
    have a2:=hA6.cell (j:=2) rfl
    have f2:=hA6.frozen 2
    have r3:=hB6.cell (j:=3) rfl
    have a3:=hA6.cell (j:=3) rfl
    have f3:=hA6.frozen 3
    have r4:=hB6.cell (j:=4) rfl
    have a4:=hA6.cell (j:=4) rfl
    have f4:=hA6.frozen 4
    obtain⟨W7,hW7⟩:=qE (set5 w6 (w.heap.size+1+1) (ahd E S) (acc en S):World)
    have h:=HA.1
    have hc7:Chg (fun k=>k=w.heap.size+1+1) w6 W7:=by rw[hW7];exact chg_set5 _ _ _ _ rfl
    have hLo:=HLo.out
    have hM6:=h.st.mtr.box.chg HA.2.2.2.1 (fun q=>box_mapD h.st.map h.st.mtr.box q)
    have hDm:¬Dd=mp:=fun q=>by
     obtain⟨⟨es,c,h1,_⟩,_⟩:=h.st.map
     rw[←q,HA.2.1]at h1
     cases h1
    have hKD:W7.heap[Dd]?=some (.deferred (some [])):=by
     have hl:Dd<W9.heap.size:=(Array.getElem?_eq_some_iff.1 HA.2.1).1
     rw[hc7.block Dd (Nat.lt_of_lt_of_le hl HA.2.2.2.1.size) (by have:=HA.2.2.2.2;omega),HA.2.2.2.1.block Dd hl hDm]
     exact HA.2.1
    exact zzQ5
end Go.Proofs.YtkidabedcgngcaaGreatDoor
namespace Go.Proofs.YtkidabedcgngcaaGreatDoor
open Go.ChangeShapes Go.WideShapes Go.ChangeAt Go.RowKit Go.Deep
set_option linter.unusedVariables false
set_option linter.unusedSimpArgs false
set_option maxRecDepth 100000
def StU (w:World) (mp:Nat) (E:Nat→PS) (en:PS):Prop:=∃n,StI w mp n E en
theorem StU.chg {S:Nat→Prop} {w w':World} {mp:Nat} {E:Nat→PS} {en:PS} (h:StU w mp E en) (hc:Chg S w w') (hn:¬S mp):StU w' mp E en:=by
 obtain⟨n,h⟩:=h
 exact⟨n,h.chg hc hn⟩
def StW (base M:Nat) (T:Nat→PS) (G cp a:Nat) (E:Nat→PS) (en:PS) (mp:Nat) (S:PS) (w:World) (e:Ending) (w':World):Prop:=
 e=.returned (stV (ahd E S) (acc en S))∧Hid (MtrI w' base M T G cp a E en mp∧StU w' mp E en∧Chg (fun k=>k=mp) w w')
theorem state_all {base M:Nat} {T:Nat→PS} {G cp a:Nat} {E:Nat→PS} {en:PS} {mp:Nat} (S:PS) (w:World) (h:MtrI w base M T G cp a E en mp) (hm:StU w mp E en) (hS:∀p,S p=true→p<a) (ha:a≤256) (hbm:base≤mp):Calls Tryz.prog 138 #[.pointer (some ⟨M,0,none⟩),psV S] w (StW base M T G cp a E en mp S w):=by
 obtain⟨n,D,hD⟩:=hm
 cases hh:Maps.has D (psK S)with
 |true=>
  refine(state_known S w h hD hh).mono ?_
  rintro e w' ⟨rfl,H⟩
  exact⟨rfl,H.1,⟨_,H.2.1⟩,H.2.2⟩
 |false=>
  refine(state_any S w h hD hh hS ha hbm).mono ?_
  rintro e w' ⟨rfl,H⟩
  exact⟨rfl,H.1,⟨_,H.2.1⟩,H.2.2⟩
structure MaU (w:World) (base M:Nat) (T:Nat→PS) (G cp a:Nat) (E:Nat→PS) (en:PS) (mp b5:Nat) (S:PS) (X:World):Prop where
 mtr:MtrI X base M T G cp a E en mp
 map:StU X mp E en
 box:BoxAt X w.heap.size 188 5 b5 (stL (ahd E S) (acc en S))
 chg:Chg (fun k=>k=mp) w X
theorem MaU.below {w X X':World} {base M:Nat} {T:Nat→PS} {G cp a:Nat} {E:Nat→PS} {en:PS} {mp b5:Nat} {S:PS} (h:MaU w base M T G cp a E en mp b5 S X) (hb:Below X.heap.size X X'):MaU w base M T G cp a E en mp b5 S X':=
 ⟨h.mtr.below hb,h.map.chg (S:=fun _=>False) (Chg.of_below hb) (fun q=>q),h.box.below hb,h.chg.trans (Chg.of_below hb)⟩
theorem MaU.ne {w X:World} {base M:Nat} {T:Nat→PS} {G cp a:Nat} {E:Nat→PS} {en:PS} {mp b5:Nat} {S:PS} (h:MaU w base M T G cp a E en mp b5 S X):¬M=b5∧¬G=b5∧¬mp=b5∧¬M=mp∧¬G=mp:=by
 obtain⟨n,D,hD⟩:=h.map
 exact⟨fun q=>own_apart h.mtr.box h.box (by decide) M rfl (by rw[q];rfl),fun q=>own_apart h.mtr.row h.box (by decide) G rfl (by rw[q];rfl),StD.ne hD h.box,fun q=>StD.ne hD h.mtr.box q.symm,fun q=>StD.ne hD h.mtr.row q.symm⟩
def MaP3 (base M:Nat) (T:Nat→PS) (G cp a:Nat) (E:Nat→PS) (en:PS) (mp:Nat) (s:ByteArray) (w:World) (e:Ending) (w':World):Prop:=∃b:Bool,e=.returned (.bool b)∧Hid ((b=true↔acc en (runS E T (sOne 0) (sb s))=true)∧MtrI w' base M T G cp a E en mp∧StU w' mp E en∧Chg (fun k=>k=mp) w w')
set_option maxHeartbeats 8000000 in
theorem matches_any {base M:Nat} {T:Nat→PS} {G cp a:Nat} {E:Nat→PS} {en:PS} {mp:Nat} (s:ByteArray) (hs:s.size≤200) (w:World) (h:MtrI w base M T G cp a E en mp) (hm:StU w mp E en) (hT:∀b p,T b p=true→p<a) (ha0:0<a) (ha:a≤256) (hbm:base≤mp):Calls Tryz.prog 106 #[.pointer (some ⟨M,0,none⟩),.string s] w (MaP3 base M T G cp a E en mp s w):=by
 have HI:Hid (MtrI w base M T G cp a E en mp∧StU w mp E en∧base≤w.heap.size):=⟨h,hm,by have:=h.ltM;omega⟩
 have HT:Hid (∀b p,T b p=true→p<a):=hT
 have HWi:Hid (∀wx:World,Calls Tryz.prog 137 #[.agg #[.int .u64 0,.int .u64 0,.int .u64 0,.int .u64 0],.int .i64 0] wx fun e w'=>e=.returned (psV (sOne 0))∧Below wx.heap.size wx w'):=fun wx=>by
  have:=with_core sNo 0 (by omega) wx
  rw[show sOr sNo (sOne 0)=sOne 0 by funext p;simp[sOr,sNo],psV_no]at this
  exact this
 have zs:¬(200:Int)<(s.size:Int):=by omega
 have hone:∀p,sOne 0 p=true→p<a:=fun p hp=>by
  have h0:p=0:=by simpa [sOne]using hp
  omega
 clear h hm hT
 go_enter Tryz.func106,Tryz.ntmps106
 go_wp2_with fail
 refine(HWi.out _).mono ?_
 rintro e w1 ⟨rfl,hb1⟩
 have HSt:Hid (Calls Tryz.prog 138 #[.pointer (some ⟨M,0,none⟩),psV (sOne 0)] w1 (StW base M T G cp a E en mp (sOne 0) w1)):=state_all (sOne 0) w1 (HI.1.below hb1) (HI.2.1.chg (S:=fun _=>False) (Chg.of_below hb1) (fun q=>q)) hone ha hbm
 go_wp2_with fail
 refine HSt.mono ?_
 rintro e w2 ⟨rfl,H2⟩
 obtain⟨W3,hW3⟩:=qE (w2.alloc (.cells (stL (ahd E (sOne 0)) (acc en (sOne 0))).toArray 188):World)
 have k3:Below w2.heap.size w2 W3:=by rw[hW3];exact qB
 have hsz:w.heap.size≤w2.heap.size:=Nat.le_trans hb1.size H2.2.2.size
 have hx2:Chg (fun k=>k=mp) w w2:=(Chg.of_below hb1).trans H2.2.2
 obtain⟨b5,hb5⟩:=qE w2.heap.size
 have HW3:Hid (MaU w base M T G cp a E en mp b5 (sOne 0) W3∧w.heap.size≤b5):=by
  have b3:=boxAt_new w2 (base:=w.heap.size) (t:=188) (sz:=5) (stL (ahd E (sOne 0)) (acc en (sOne 0))).toArray hsz rfl
  exact⟨⟨H2.1.below k3,H2.2.1.chg (S:=fun _=>False) (Chg.of_below k3) (fun q=>q),by rw[hW3,hb5];exact b3,hx2.trans (Chg.of_below k3)⟩,by omega⟩
 go_upto_region 4 with fail
 have hW3':=hW3
 simp only[stL]at hW3'
 rw[←hW3',←hb5]
 clear hW3 hW3' k3 hsz hx2 hb5 H2 HSt hb1
 go_wp2_with fail
 go_loopw[6] (fun iv wr=>∃k:Nat,k≤s.size∧iv=.int .i64 k∧Hid (MaU w base M T G cp a E en mp b5 (runS E T (sOne 0) ((sb s).take k)) wr)) (fun iv _=>s.size-(intOf iv).toNat)
 case atStart=>exact⟨0,Nat.zero_le _,rfl,HW3.1⟩
 case round=>
  obtain⟨k,hk,rfl,HJ⟩:=hrel
  by_cases hlt:k<s.size
  ·have zk:(k:Int)<(s.size:Int):=by omega
   obtain⟨x,hx⟩:∃x,(sb s)[k]?=some x:=⟨_,List.getElem?_eq_getElem (by rw[sb_len];exact hlt)⟩
   obtain⟨_,gx⟩:=sb_get hx
   obtain⟨Sk,hSk⟩:=qE (runS E T (sOne 0) ((sb s).take k))
   have hxl:x.toNat<256:=x.toNat_lt
   rw[←hSk]at HJ
   have HN:Hid (runS E T (sOne 0) ((sb s).take (k+1))=stp E T Sk x∧True∧runS E T (sOne 0) (sb s)=runS E T (stp E T Sk x) ((sb s).drop (k+1))):=by
    have h1:(sb s).take (k+1)=(sb s).take k++ [x]:=by rw[List.take_add_one,hx];rfl
    have h2:runS E T (sOne 0) ((sb s).take (k+1))=stp E T Sk x:=by rw[h1,runS_snoc,←hSk]
    refine⟨h2,trivial,?_⟩
    rw[←h2,←runS_app,List.take_append_drop]
   have HSk:Hid (∀X,MaU w base M T G cp a E en mp b5 Sk X→(X.cell? ⟨b5,0,none⟩=some (.int .u64 (wdN (ahd E Sk) 0:Int))∧X.cell? ⟨b5,1,none⟩=some (.int .u64 (wdN (ahd E Sk) 1:Int))∧X.cell? ⟨b5,2,none⟩=some (.int .u64 (wdN (ahd E Sk) 2:Int))∧X.cell? ⟨b5,3,none⟩=some (.int .u64 (wdN (ahd E Sk) 3:Int))∧X.cell? ⟨M,x.toNat*4,none⟩=some (.int .u64 (wdN (T x.toNat) 0:Int))∧X.cell? ⟨M,x.toNat*4+1,none⟩=some (.int .u64 (wdN (T x.toNat) 1:Int))∧X.cell? ⟨M,x.toNat*4+2,none⟩=some (.int .u64 (wdN (T x.toNat) 2:Int))∧X.cell? ⟨M,x.toNat*4+3,none⟩=some (.int .u64 (wdN (T x.toNat) 3:Int)))):=fun X h=>by
    obtain⟨g0,g1,g2,g3,_⟩:=h.mtr.taken4 hxl
    exact⟨h.box.cell (j:=0) rfl,h.box.cell (j:=1) rfl,h.box.cell (j:=2) rfl,h.box.cell (j:=3) rfl,g0,g1,g2,g3⟩
   have HCm:Hid (∀wx:World,Calls Tryz.prog 139 #[psV (ahd E Sk),psV (T x.toNat)] wx fun e w'=>e=.returned (psV (stp E T Sk x))∧Below wx.heap.size wx w'):=fun wx=>by
    have:=common_core (ahd E Sk) (T x.toNat) wx
    unfold stp
    exact this
   have zx:(x.toNat:Int)<256:=by omega
   have HX:Hid ((sb s)[k]?=some x):=hx
   clear hx hSk
   go_upto_region 7 with fail
   refine wp_region_T 99 (fun wz=>wz.cell? ⟨b5,0,none⟩=some (.int .u64 (wdN (ahd E Sk) 0:Int))∧wz.cell? ⟨b5,1,none⟩=some (.int .u64 (wdN (ahd E Sk) 1:Int))∧wz.cell? ⟨b5,2,none⟩=some (.int .u64 (wdN (ahd E Sk) 2:Int))∧wz.cell? ⟨b5,3,none⟩=some (.int .u64 (wdN (ahd E Sk) 3:Int))∧wz.cell? ⟨M,x.toNat*4,none⟩=some (.int .u64 (wdN (T x.toNat) 0:Int))∧wz.cell? ⟨M,x.toNat*4+1,none⟩=some (.int .u64 (wdN (T x.toNat) 1:Int))∧wz.cell? ⟨M,x.toNat*4+2,none⟩=some (.int .u64 (wdN (T x.toNat) 2:Int))∧wz.cell? ⟨M,x.toNat*4+3,none⟩=some (.int .u64 (wdN (T x.toNat) 3:Int))) (by kernel_rfl) ?_
   refine anyT_takeN (i:=0) (v:=?vh0) rfl (by kernel_rfl) (by kernel_rfl) (by kernel_rfl) (by rfl) (fun _ _ _ h=>h) (Or.inl ⟨by rfl,?yh0⟩) (HSk.out _ (HJ.below ((Below.refl _ _).drew))) ?_
   case yh0=>exact zzR14
   try simp only[qA,List.getElem_toArray,List.getElem_cons_zero,List.getElem_cons_succ]
   refine anyT_takeN (i:=1) (v:=?vh1) rfl (by kernel_rfl) (by kernel_rfl) (by kernel_rfl) (by rfl) (fun _ _ _ h=>h) (Or.inl ⟨by rfl,?yh1⟩) (HSk.out _ (HJ.below ((Below.refl _ _).drew))) ?_
   case yh1=>exact zzR14
   try simp only[qA,List.getElem_toArray,List.getElem_cons_zero,List.getElem_cons_succ]
   refine anyT_takeN (i:=2) (v:=?vh2) rfl (by kernel_rfl) (by kernel_rfl) (by kernel_rfl) (by rfl) (fun _ _ _ h=>h) (Or.inl ⟨by rfl,?yh2⟩) (HSk.out _ (HJ.below ((Below.refl _ _).drew))) ?_
   case yh2=>exact zzR14
   try simp only[qA,List.getElem_toArray,List.getElem_cons_zero,List.getElem_cons_succ]
   refine anyT_takeN (i:=3) (v:=?vh3) rfl (by kernel_rfl) (by kernel_rfl) (by kernel_rfl) (by rfl) (fun _ _ _ h=>h) (Or.inl ⟨by rfl,?yh3⟩) (HSk.out _ (HJ.below ((Below.refl _ _).drew))) ?_
   case yh3=>exact zzR14
   try simp only[qA,List.getElem_toArray,List.getElem_cons_zero,List.getElem_cons_succ]
   refine anyT_takeN (i:=4) (v:=?vh4) rfl (by kernel_rfl) (by kernel_rfl) (by kernel_rfl) (by rfl) (fun _ _ _ h=>h) (Or.inl ⟨by rfl,?yh4⟩) (HSk.out _ (HJ.below ((Below.refl _ _).drew))) ?_
   case yh4=>exact zzR14
   try simp only[qA,List.getElem_toArray,List.getElem_cons_zero,List.getElem_cons_succ]
   refine anyT_takeN (i:=5) (v:=?vh5) rfl (by kernel_rfl) (by kernel_rfl) (by kernel_rfl) (by rfl) (fun _ _ _ h=>h) (Or.inl ⟨by rfl,?yh5⟩) (HSk.out _ (HJ.below ((Below.refl _ _).drew))) ?_
   case yh5=>exact zzR14
   try simp only[qA,List.getElem_toArray,List.getElem_cons_zero,List.getElem_cons_succ]
   refine anyT_takeN (i:=6) (v:=?vh6) rfl (by kernel_rfl) (by kernel_rfl) (by kernel_rfl) (by rfl) (fun _ _ _ h=>h) (Or.inl ⟨by rfl,?yh6⟩) (HSk.out _ (HJ.below ((Below.refl _ _).drew))) ?_
   case yh6=>exact zzR14
   try simp only[qA,List.getElem_toArray,List.getElem_cons_zero,List.getElem_cons_succ]
   refine anyT_takeN (i:=7) (v:=?vh7) rfl (by kernel_rfl) (by kernel_rfl) (by kernel_rfl) (by rfl) (fun _ _ _ h=>h) (Or.inl ⟨by rfl,?yh7⟩) (HSk.out _ (HJ.below ((Below.refl _ _).drew))) ?_
   case yh7=>exact zzR14
   try simp only[qA,List.getElem_toArray,List.getElem_cons_zero,List.getElem_cons_succ]
   refine anyT_takeN (i:=8) (v:=?vh8) rfl (by kernel_rfl) (by kernel_rfl) (by kernel_rfl) (by rfl) (fun _ _ _ h=>h) (Or.inl ⟨by rfl,?yh8⟩) (HSk.out _ (HJ.below ((Below.refl _ _).drew))) ?_
   case yh8=>exact zzR14
   try simp only[qA,List.getElem_toArray,List.getElem_cons_zero,List.getElem_cons_succ]
   refine anyT_takeN (i:=9) (v:=?vh9) rfl (by kernel_rfl) (by kernel_rfl) (by kernel_rfl) (by rfl) (fun _ _ _ h=>h) (Or.inl ⟨by rfl,?yh9⟩) (HSk.out _ (HJ.below ((Below.refl _ _).drew))) ?_
   case yh9=>exact zzR14
   try simp only[qA,List.getElem_toArray,List.getElem_cons_zero,List.getElem_cons_succ]
   refine anyT_two (i:=10) (j:=11) (by kernel_rfl) rfl rfl (fun K hK=>?_) (fun K hK=>?_)
   ·go_simp
    refine(HCm.out _).mono ?_
    rintro r v3 ⟨rfl,hb3⟩
    have HV:Hid (MaU w base M T G cp a E en mp b5 Sk v3):=HJ.below (((Below.refl wr.heap.size wr).drew).trans hb3)
    refine hK.out _ _ (.inr (HSk.out _ HV.out)) ?_
    clear hK hb3
    try simp only[qA,List.getElem_toArray,List.getElem_cons_zero,List.getElem_cons_succ]
    refine qO 11 rfl fun K hK=>?_
    go_simp
    refine hK.out _ _ (.inr (HSk.out _ (HV.below (by repeat (first|exact Below.refl _ _|refine Below.drew ?_|refine Below.alloc ?_ (Nat.le_refl _) _|refine below_set ?_ (Nat.le_refl _) _ _))))) ?_
    clear hK
    try simp only[qA,List.getElem_toArray,List.getElem_cons_zero,List.getElem_cons_succ]
    refine qO 12 rfl fun K hK=>?_
    go_simp
    refine hK.out _ _ (.inr (HSk.out _ (HV.below (by repeat (first|exact Below.refl _ _|refine Below.drew ?_|refine Below.alloc ?_ (Nat.le_refl _) _|refine below_set ?_ (Nat.le_refl _) _ _))))) ?_
    clear hK
    try simp only[qA,List.getElem_toArray,List.getElem_cons_zero,List.getElem_cons_succ]
    refine qD ?_
    obtain⟨W4,hW4⟩:=qE (v3.alloc (.cells (psL (stp E T Sk x)).toArray 178):World)
    have k4:Below v3.heap.size v3 W4:=by rw[hW4];exact qB
    have HW4:Hid (MaU w base M T G cp a E en mp b5 Sk W4∧BoxAt W4 w.heap.size 178 4 v3.heap.size (psL (stp E T Sk x))):=by
     have b4:=boxAt_new v3 (base:=w.heap.size) (t:=178) (sz:=4) (psL (stp E T Sk x)).toArray HV.chg.size rfl
     exact⟨HV.below k4,by rw[hW4];exact b4⟩
    have hW4':=hW4
    simp only[psL]at hW4'
    rw[←hW4']
    clear hW4 hW4' k4
    exact zzQ6
   ·go_simp
    refine hK.out _ _ (.inr (HSk.out _ (HJ.below (by repeat (first|exact Below.refl _ _|refine Below.drew ?_|refine Below.alloc ?_ (Nat.le_refl _) _|refine below_set ?_ (Nat.le_refl _) _ _))))) ?_
    clear hK
    try simp only[qA,List.getElem_toArray,List.getElem_cons_zero,List.getElem_cons_succ]
    have hX:Below wr.heap.size wr (wr.alloc (.cells z4 178)).drew:=(qB).drew
    have hBX:BoxAt (wr.alloc (.cells z4 178)).drew w.heap.size 178 4 wr.heap.size z4.toList:=(boxAt_new wr z4 HJ.chg.size rfl).below ((Below.refl _ _).drew)
    refine qO 10 rfl fun K hK=>?_
    go_simp
    refine(HCm.out _).mono ?_
    rintro r v3 ⟨rfl,hb3⟩
    have HV:Hid (MaU w base M T G cp a E en mp b5 Sk v3):=HJ.below (hX.trans (hb3.mono hX.size))
    have HBx:Hid (BoxAt v3 w.heap.size 178 4 wr.heap.size z4.toList):=hBX.below hb3
    have y0:=HBx.cell (j:=0) rfl
    have o0:=HBx.frozen 0
    have y1:=HBx.cell (j:=1) rfl
    have o1:=HBx.frozen 1
    have y2:=HBx.cell (j:=2) rfl
    have o2:=HBx.frozen 2
    have y3:=HBx.cell (j:=3) rfl
    have o3:=HBx.frozen 3
    have hrow:∀cs:World,Chg (fun j=>j=wr.heap.size) v3 cs→MaU w base M T G cp a E en mp b5 Sk cs:=fun cs hc=>by
     have h:=HV.out
     have hbs:=HI.2.2
     have hws:=HJ.chg.size
     obtain⟨_,D,hD⟩:=h.map
     have n1:¬M=wr.heap.size:=by have:=HJ.mtr.ltM.2;omega
     have n2:¬G=wr.heap.size:=by have:=HJ.mtr.ltG.2;omega
     have n3:¬mp=wr.heap.size:=StD.ne hD HBx.out
     have n4:¬b5=wr.heap.size:=by have:=HJ.box.lt.2;omega
     exact⟨h.mtr.chg hc n1 n2 (fun j q=>by omega),h.map.chg hc n3,h.box.chg hc n4,chg_ownS h.chg (hc.mono (fun j q=>by omega))⟩
    have HRow:Hid (∀cs:World,Chg (fun j=>j=wr.heap.size) v3 cs→MaU w base M T G cp a E en mp b5 Sk cs):=hrow
    refine hK.out _ _ (.inr (HSk.out _ HV.out)) ?_
    clear hK hb3 hX hBX hrow
    try simp only[qA,List.getElem_toArray,List.getElem_cons_zero,List.getElem_cons_succ]
    refine qO 12 rfl fun K hK=>?_
    go_simp
    refine hK.out _ _ (.inr (HSk.out _ (HRow.out _ ((((Chg.of_set (S:=fun j=>j=wr.heap.size) _ wr.heap.size 0 _ rfl).trans (Chg.of_set (S:=fun j=>j=wr.heap.size) _ wr.heap.size 1 _ rfl)).trans (Chg.of_set (S:=fun j=>j=wr.heap.size) _ wr.heap.size 2 _ rfl)).trans (Chg.of_set (S:=fun j=>j=wr.heap.size) _ wr.heap.size 3 _ rfl))))) ?_
    clear hK
    try simp only[qA,List.getElem_toArray,List.getElem_cons_zero,List.getElem_cons_succ]
    refine qD ?_
    obtain⟨W4,hW4⟩:=qE (set4 v3 wr.heap.size 0 (stp E T Sk x):World)
    have HW4:Hid (MaU w base M T G cp a E en mp b5 Sk W4∧BoxAt W4 w.heap.size 178 4 wr.heap.size (psL (stp E T Sk x))):=by
     have hc:Chg (fun j=>j=wr.heap.size) v3 W4:=by rw[hW4];exact chg_set4 _ _ _ _ rfl
     have b4:=own_set4 HBx.out 0 (stp E T Sk x)
     rw[←hW4]at b4
     exact⟨HRow.out _ hc,b4⟩
    have hW4':=hW4
    simp only[set4,Nat.zero_add]at hW4'
    rw[←hW4']
    clear hW4 hW4' y0 y1 y2 y3 o0 o1 o2 o3
    exact zzQ6
  ·obtain rfl:k=s.size:=by omega
   have zk:¬(s.size:Int)<(s.size:Int):=by omega
   have r4:=HJ.box.cell (j:=4) rfl
   have HFl:Hid ((sb s).take s.size=sb s):=by show _=_;rw[←sb_len,List.take_length]
   go_wp2_with fail
   go_ret
   exact⟨_,rfl,by rw[HFl.out],HJ.mtr,HJ.map,HJ.chg⟩
end Go.Proofs.YtkidabedcgngcaaGreatDoor
namespace Go.Proofs.YtkidabedcgngcaaGreatDoor
open Go.ChangeShapes Go.WideShapes Go.ChangeAt Go.RowKit Go.Deep
def inR (lo:ByteArray) (hh:Bool) (hi row:ByteArray):Bool:= !Op.bytesLess row.toList lo.toList && (!hh || Op.bytesLess row.toList hi.toList)
set_option maxHeartbeats 400000 in
theorem implInRange_core (lo hi row:ByteArray) (hh:Bool) (w:World):
  Calls Tryz.prog 140 #[.agg #[.string lo,.bool hh,.string hi],.string row] w fun e w'=>
   e=.returned (.bool (inR lo hh hi row))∧Below w.heap.size w w':=by
 unfold inR
 cases hb:Op.bytesLess row.toList lo.toList<;>cases hh
 all_goals
  go_enter Tryz.func140,Tryz.ntmps140
  go_wp2
  go_ret
  exact⟨by simp,qB⟩
end Go.Proofs.YtkidabedcgngcaaGreatDoor
namespace Go.Proofs.YtkidabedcgngcaaGreatDoor
open Go.ChangeShapes Go.WideShapes Go.ChangeAt Go.RowKit Go.Deep
set_option linter.unusedVariables false
set_option linter.unusedSimpArgs false
set_option maxRecDepth 100000
abbrev InB (lo hi k:Nat):Prop:=lo≤k∧k<hi
structure MchJ (w:World) (lo hi M:Nat) (p:ByteArray) (T:Nat→PS) (G cp a:Nat) (E:Nat→PS) (en:PS) (mp:Nat) (os:List (List Pat)) (n:Nat):Prop where
 gr:AltG (AtomG n) os (sb p)
 chk:(checkM (sb p)).1=0
 mtr:MtrI w lo M T G cp a E en mp
 map:StU w mp E en
 tk:∀b p,T b p=true→p<a
 pos:0<a
 le:a≤256
 low:lo≤mp
 hM:M<hi
 hG:G<hi
 hm:mp<hi
 acc:∀s:List UInt8,acc en (runS E T (sOne 0) s)=true↔LgA os s
def MchAt (w:World) (lo hi M:Nat) (p:ByteArray):Prop:=∃T G cp a E en mp os n,MchJ w lo hi M p T G cp a E en mp os n
theorem MtrI.chg2 {S:Nat→Prop} {w w':World} {base M:Nat} {T:Nat→PS} {G cp a:Nat} {E:Nat→PS} {en:PS} {mp:Nat} (h:MtrI w base M T G cp a E en mp) (hc:Chg S w w') (hM:¬S M) (hG:¬S G) (h0:¬S 1):MtrI w' base M T G cp a E en mp:=
 ⟨h.box.chg hc hM,own_chg h.row hc (fun k q=>by simp[Value.ownBlock]at q;subst q;exact hG),h.new,h.tab.chg hc h0,h.low⟩
theorem row_low {w:World} {base base' t sz n:Nat} {v:Value} {vs:List Value} (h:w.ownsRow base t sz v n vs) (hb:base'≤base):w.ownsRow base' t sz v n vs:=by
 rcases h.2 with q|⟨g,cap,cur,h1,h2,h3⟩
 ·exact⟨h.1,.inl q⟩
 ·exact⟨h.1,.inr ⟨g,cap,cur,h1,by omega,h3⟩⟩
theorem MchAt.chg {S:Nat→Prop} {w w':World} {lo hi M:Nat} {p:ByteArray} (h:MchAt w lo hi M p) (hc:Chg S w w') (hS:∀k,S k→¬InB lo hi k) (ht:1<lo→¬S 1):MchAt w' lo hi M p:=by
 obtain⟨T,G,cp,a,E,en,mp,os,n,h⟩:=h
 exact⟨T,G,cp,a,E,en,mp,os,n,h.gr,h.chk,h.mtr.chg2 hc (fun q=>hS _ q ⟨h.mtr.ltM.1,h.hM⟩) (fun q=>hS _ q ⟨h.mtr.ltG.1,h.hG⟩) (ht h.mtr.low),h.map.chg hc (fun q=>hS _ q ⟨h.low,h.hm⟩),h.tk,h.pos,h.le,h.low,h.hM,h.hG,h.hm,h.acc⟩
def MtP (w:World) (lo hi M:Nat) (p s:ByteArray) (e:Ending) (w':World):Prop:=e=.returned (.bool (mtB p s))∧Hid (MchAt w' lo hi M p∧Chg (InB lo hi) w w')
theorem mch_matches {w:World} {lo hi M:Nat} {p:ByteArray} (h:MchAt w lo hi M p) (s:ByteArray):Calls Tryz.prog 106 #[.pointer (some ⟨M,0,none⟩),.string s] w (MtP w lo hi M p s):=by
 obtain⟨T,G,cp,a,E,en,mp,os,n,h⟩:=h
 by_cases hs:s.size≤200
 ·refine(matches_any s hs w h.mtr h.map h.tk h.pos h.le h.low).mono ?_
  rintro e w' ⟨b,rfl,H⟩
  have hb:MatB p s b:=.inr ⟨h.chk,n,os,h.gr,by rw[H.1,h.acc];exact⟨fun q=>⟨hs,q⟩,fun q=>q.2⟩⟩
  rw[mtB_eq hb]
  exact⟨rfl,⟨T,G,cp,a,E,en,mp,os,n,h.gr,h.chk,H.2.1,H.2.2.1,h.tk,h.pos,h.le,h.low,h.hM,h.hG,h.hm,h.acc⟩,H.2.2.2.mono (fun k q=>by subst q;exact⟨h.low,h.hm⟩)⟩
 ·refine(matches_long M s (by omega) w).mono ?_
  rintro e w' ⟨rfl,rfl⟩
  have hb:MatB p s false:=.inr ⟨h.chk,n,os,h.gr,⟨fun q=>(by cases q),fun q=>absurd q.1 hs⟩⟩
  exact⟨by rw[←mtB_eq hb],⟨T,G,cp,a,E,en,mp,os,n,h⟩,Chg.refl _ _⟩
def PatK (k:Int):Prop:=k=4∨k=5∨k=6∨k=7
def TstAt (w:World) (lo hi:Nat) (n:Nd) (mv:Value):Prop:=(¬PatK n.kind∧mv=.pointer none)∨(PatK n.kind∧∃M,mv=.pointer (some ⟨M,0,none⟩)∧MchAt w lo hi M n.s)
theorem MchAt.wide {w:World} {lo hi lo' hi' M:Nat} {p:ByteArray} (h:MchAt w lo hi M p) (hl:lo'≤lo) (hh:hi≤hi') (ht:1<lo'):MchAt w lo' hi' M p:=by
 obtain⟨T,G,cp,a,E,en,mp,os,n,h⟩:=h
 exact⟨T,G,cp,a,E,en,mp,os,n,h.gr,h.chk,⟨row_low h.mtr.box hl,row_low h.mtr.row hl,h.mtr.new,h.mtr.tab,ht⟩,h.map,h.tk,h.pos,h.le,Nat.le_trans hl h.low,Nat.lt_of_lt_of_le h.hM hh,Nat.lt_of_lt_of_le h.hG hh,Nat.lt_of_lt_of_le h.hm hh,h.acc⟩
theorem TstAt.chg {S:Nat→Prop} {w w':World} {lo hi:Nat} {n:Nd} {mv:Value} (h:TstAt w lo hi n mv) (hc:Chg S w w') (hS:∀k,S k→¬InB lo hi k) (ht:1<lo→¬S 1):TstAt w' lo hi n mv:=by
 rcases h with h|⟨h1,M,h2,h3⟩
 ·exact .inl h
 ·exact .inr ⟨h1,M,h2,h3.chg hc hS ht⟩
theorem TstAt.below {w w':World} {lo hi:Nat} {n:Nd} {mv:Value} (h:TstAt w lo hi n mv) (hb:Below w.heap.size w w'):TstAt w' lo hi n mv:=h.chg (S:=fun _=>False) (Chg.of_below hb) (fun k q=>q.elim) (fun _ q=>q)
def HoP (w:World) (lo hi:Nat) (n:Nd) (c:Ent) (mv:Value) (e:Ending) (w':World):Prop:=e=.returned (.bool (tstB n c))∧Hid (TstAt w' lo hi n mv∧Chg (InB lo hi) w w')
theorem inS_eq (x:ByteArray) (n:Nd):inS x n=inR n.s n.hi n.t x:=rfl
theorem rng_build (s t:ByteArray) (h:Bool) (w:World):(Instr.build 193 #[(0,.string s),(1,.bool h),(2,.string t)]).run Tryz.prog w=.ok (.agg #[.string s,.bool h,.string t]) w:=by kernel_rfl
set_option maxHeartbeats 2000000 in
theorem textEnds_core (n:Nd) (mp:Option Addr) (x:ByteArray) (w:World):Calls Tryz.prog 107 #[.agg #[.int .i64 n.kind,.string n.s,.bool n.hi,.string n.t,.int .u64 n.lo,.int .u64 n.up,.int .i64 n.n,.pointer mp],.string x] w fun e w'=>e=.returned (.bool (inS x n))∧Below w.heap.size w w':=by
 have HI:Hid (∀w,Calls Tryz.prog 140 #[.agg #[.string n.s,.bool n.hi,.string n.t],.string x] w fun e w'=>e=.returned (.bool (inS x n))∧Below w.heap.size w w'):=fun w=>by rw[inS_eq];exact implInRange_core n.s n.t x n.hi w
 have hbd:=rng_build n.s n.t n.hi
 obtain⟨W1,hW1⟩:=qE (w.alloc (.cells #[.int .i64 n.kind,.string n.s,.bool n.hi,.string n.t,.int .u64 n.lo,.int .u64 n.up,.int .i64 n.n,.pointer mp] 111):World)
 have HW1:Hid (Below w.heap.size w W1):=by rw[hW1];exact qB
 go_enter Tryz.func107,Tryz.ntmps107
 go_wp2_with fail
 rw[←hW1]
 clear hW1 hbd
 refine(HI.out W1).mono ?_
 rintro e w2 ⟨rfl,hb2⟩
 have HE:Hid (Below w.heap.size w w2):=HW1.trans (hb2.mono HW1.size)
 clear hb2
 go_wp2_with fail
 go_ret
 exact⟨rfl,HE.out⟩
set_option maxHeartbeats 4000000 in
theorem holds_core (n:Nd) (c:Ent) (mv:Value) (w:World) (bl bh:Nat) (hT:TstAt w bl bh n mv) (hb:bh≤w.heap.size):∃mp:Option Addr,mv=.pointer mp∧Calls Tryz.prog 74 #[.agg #[.int .i64 n.kind,.string n.s,.bool n.hi,.string n.t,.int .u64 n.lo,.int .u64 n.up,.int .i64 n.n,.pointer mp],c.c] w (HoP w bl bh n c mv):=by
 obtain⟨mp,hmp⟩:∃mp:Option Addr,mv=.pointer mp:=by
  rcases hT with⟨_,h⟩|⟨_,M,h,_⟩
  ·exact⟨_,h⟩
  ·exact⟨_,h⟩
 subst hmp
 refine⟨mp,rfl,?_⟩
 have HT:Hid (TstAt w bl bh n (.pointer mp)):=hT
 obtain⟨k,s,hi,t,lo,up,nn⟩:=n
 have HS:Hid (∀(x:ByteArray) (w:World),Calls Tryz.prog 107 #[.agg #[.int .i64 k,.string s,.bool hi,.string t,.int .u64 lo,.int .u64 up,.int .i64 nn,.pointer mp],.string x] w fun e w'=>e=.returned (.bool (inS x ⟨k,s,hi,t,lo,up,nn⟩))∧Below w.heap.size w w'):=fun x w=>textEnds_core ⟨k,s,hi,t,lo,up,nn⟩ mp x w
 obtain⟨res,hres⟩:=qE (tstB ⟨k,s,hi,t,lo,up,nn⟩ c)
 have HR:Hid (res=tstB ⟨k,s,hi,t,lo,up,nn⟩ c):=hres
 obtain⟨W2,hW2⟩:=qE ((w.alloc (.cells #[.int .i64 k,.string s,.bool hi,.string t,.int .u64 lo,.int .u64 up,.int .i64 nn,.pointer mp] 111)).alloc (.cells #[.string c.row,.string c.fam,.string c.qual,.int .u64 c.ts,.string c.val] 55):World)
 have HW2:Hid (Below w.heap.size w W2):=by rw[hW2];exact(qB).alloc (by simp) _
 have HFin:Hid (∀wx,Below w.heap.size w wx→HoP w bl bh ⟨k,s,hi,t,lo,up,nn⟩ c (.pointer mp) (.returned (.bool res)) wx):=fun wx hx=>⟨by rw[HR.out],HT.below hx,Chg.of_below hx⟩
 have HFn2:Hid (∀wx,TstAt wx bl bh ⟨k,s,hi,t,lo,up,nn⟩ (.pointer mp)→Chg (InB bl bh) w wx→HoP w bl bh ⟨k,s,hi,t,lo,up,nn⟩ c (.pointer mp) (.returned (.bool res)) wx):=fun wx h1 h2=>⟨by rw[HR.out],h1,h2⟩
 have HMt:Hid (PatK k→∀x:ByteArray,Calls Tryz.prog 106 #[.pointer mp,.string x] W2 fun e w'=>e=.returned (.bool (mtB s x))∧TstAt w' bl bh ⟨k,s,hi,t,lo,up,nn⟩ (.pointer mp)∧Chg (InB bl bh) w w'):=fun hp x=>by
  rcases HT.below HW2.out with⟨q,_⟩|⟨_,M,q,hM⟩
  ·exact absurd hp q
  ·cases q
   refine(mch_matches hM x).mono ?_
   rintro e w' ⟨rfl,H⟩
   exact⟨rfl,.inr ⟨hp,M,rfl,H.1⟩,(Chg.of_below HW2.out).trans H.2⟩
 clear hres hT
 by_cases h1:k=1
 ·subst h1
  have hv:res=true:=HR.trans (by simp[tstB])
  exact zzQ61
 have b1:(k==1)=false:=by rw[beq_eq_false_iff_ne];exact h1
 by_cases h3:k=3
 ·subst h3
  have hv:res=true:=HR.trans (by simp[tstB])
  exact zzQ61
 have b3:(k==3)=false:=by rw[beq_eq_false_iff_ne];exact h3
 by_cases h4:k=4
 ·subst h4
  have hv:res=mtB s c.row:=HR.trans (by simp[tstB])
  have HM1:Hid (Calls Tryz.prog 106 #[.pointer mp,.string c.row] W2 fun e w'=>e=.returned (.bool (mtB s c.row))∧TstAt w' bl bh ⟨4,s,hi,t,lo,up,nn⟩ (.pointer mp)∧Chg (InB bl bh) w w'):=HMt.out (by unfold PatK;omega) c.row
  go_enter Tryz.func74,Tryz.ntmps74
  go_wp2_with fail
  rw[←hW2]
  clear hW2
  refine HM1.mono ?_
  rintro e w1 ⟨rfl,h1,h2⟩
  have HE:Hid (HoP w bl bh ⟨4,s,hi,t,lo,up,nn⟩ c (.pointer mp) (.returned (.bool res)) w1):=HFn2.out w1 h1 h2
  clear h1 h2
  go_wp2_with fail
  go_ret
  exact hv▸HE.out
 have b4:(k==4)=false:=by rw[beq_eq_false_iff_ne];exact h4
 by_cases h5:k=5
 ·subst h5
  have hv:res=mtB s c.fam:=HR.trans (by simp[tstB])
  have HM1:Hid (Calls Tryz.prog 106 #[.pointer mp,.string c.fam] W2 fun e w'=>e=.returned (.bool (mtB s c.fam))∧TstAt w' bl bh ⟨5,s,hi,t,lo,up,nn⟩ (.pointer mp)∧Chg (InB bl bh) w w'):=HMt.out (by unfold PatK;omega) c.fam
  go_enter Tryz.func74,Tryz.ntmps74
  go_wp2_with fail
  rw[←hW2]
  clear hW2
  refine HM1.mono ?_
  rintro e w1 ⟨rfl,h1,h2⟩
  have HE:Hid (HoP w bl bh ⟨5,s,hi,t,lo,up,nn⟩ c (.pointer mp) (.returned (.bool res)) w1):=HFn2.out w1 h1 h2
  clear h1 h2
  go_wp2_with fail
  go_ret
  exact hv▸HE.out
 have b5:(k==5)=false:=by rw[beq_eq_false_iff_ne];exact h5
 by_cases h6:k=6
 ·subst h6
  have hv:res=mtB s c.qual:=HR.trans (by simp[tstB])
  have HM1:Hid (Calls Tryz.prog 106 #[.pointer mp,.string c.qual] W2 fun e w'=>e=.returned (.bool (mtB s c.qual))∧TstAt w' bl bh ⟨6,s,hi,t,lo,up,nn⟩ (.pointer mp)∧Chg (InB bl bh) w w'):=HMt.out (by unfold PatK;omega) c.qual
  go_enter Tryz.func74,Tryz.ntmps74
  go_wp2_with fail
  rw[←hW2]
  clear hW2
  refine HM1.mono ?_
  rintro e w1 ⟨rfl,h1,h2⟩
  have HE:Hid (HoP w bl bh ⟨6,s,hi,t,lo,up,nn⟩ c (.pointer mp) (.returned (.bool res)) w1):=HFn2.out w1 h1 h2
  clear h1 h2
  go_wp2_with fail
  go_ret
  exact hv▸HE.out
 have b6:(k==6)=false:=by rw[beq_eq_false_iff_ne];exact h6
 by_cases h7:k=7
 ·subst h7
  have hv:res=mtB s c.val:=HR.trans (by simp[tstB])
  have HM1:Hid (Calls Tryz.prog 106 #[.pointer mp,.string c.val] W2 fun e w'=>e=.returned (.bool (mtB s c.val))∧TstAt w' bl bh ⟨7,s,hi,t,lo,up,nn⟩ (.pointer mp)∧Chg (InB bl bh) w w'):=HMt.out (by unfold PatK;omega) c.val
  go_enter Tryz.func74,Tryz.ntmps74
  go_wp2_with fail
  rw[←hW2]
  clear hW2
  refine HM1.mono ?_
  rintro e w1 ⟨rfl,h1,h2⟩
  have HE:Hid (HoP w bl bh ⟨7,s,hi,t,lo,up,nn⟩ c (.pointer mp) (.returned (.bool res)) w1):=HFn2.out w1 h1 h2
  clear h1 h2
  go_wp2_with fail
  go_ret
  exact hv▸HE.out
 have b7:(k==7)=false:=by rw[beq_eq_false_iff_ne];exact h7
 by_cases h8:k=8
 ·subst h8
  have hv:res=inS c.row ⟨8,s,hi,t,lo,up,nn⟩:=HR.trans (by simp[tstB])
  go_enter Tryz.func74,Tryz.ntmps74
  go_wp2_with fail
  rw[←hW2]
  clear hW2
  refine(HS.out c.row W2).mono ?_
  rintro e w1 ⟨rfl,hb1⟩
  have HE:Hid (HoP w bl bh ⟨8,s,hi,t,lo,up,nn⟩ c (.pointer mp) (.returned (.bool res)) w1):=HFin.out w1 (HW2.trans (hb1.mono HW2.size))
  clear hb1
  go_wp2_with fail
  go_ret
  exact hv▸HE.out
 have b8:(k==8)=false:=by rw[beq_eq_false_iff_ne];exact h8
 by_cases h9:k=9
 ·subst h9
  have hv:res=inS c.qual ⟨9,s,hi,t,lo,up,nn⟩:=HR.trans (by simp[tstB])
  go_enter Tryz.func74,Tryz.ntmps74
  go_wp2_with fail
  rw[←hW2]
  clear hW2
  refine(HS.out c.qual W2).mono ?_
  rintro e w1 ⟨rfl,hb1⟩
  have HE:Hid (HoP w bl bh ⟨9,s,hi,t,lo,up,nn⟩ c (.pointer mp) (.returned (.bool res)) w1):=HFin.out w1 (HW2.trans (hb1.mono HW2.size))
  clear hb1
  go_wp2_with fail
  go_ret
  exact hv▸HE.out
 have b9:(k==9)=false:=by rw[beq_eq_false_iff_ne];exact h9
 by_cases h10:k=10
 ·subst h10
  have hv:res=(decide (lo≤c.ts) && (!hi || decide (c.ts<up))):=HR.trans (by simp[tstB])
  have HE:Hid (HoP w bl bh ⟨10,s,hi,t,lo,up,nn⟩ c (.pointer mp) (.returned (.bool (decide (lo≤c.ts) && (!hi || decide (c.ts<up))))) W2):=by rw[←hv];exact HFin.out W2 HW2.out
  clear hv
  by_cases g1:lo≤c.ts<;>cases hi<;>by_cases g2:c.ts<up
  all_goals simp only[g1,g2,decide_true,decide_false,Bool.not_true,Bool.not_false,Bool.true_and,Bool.false_and,Bool.true_or,Bool.false_or]at HE
  all_goals go_enter Tryz.func74,Tryz.ntmps74
  all_goals go_wp2_with fail
  all_goals rw[←hW2]
  all_goals go_ret
  all_goals exact HE.out
 have b10:(k==10)=false:=by rw[beq_eq_false_iff_ne];exact h10
 have hv:res=false:=HR.trans (by simp[tstB,h1,h3,h4,h5,h6,h7,h8,h9,h10])
 exact zzQ61
end Go.Proofs.YtkidabedcgngcaaGreatDoor
