import Derived.Test.YtkidabedcgngcaaGreatDoorWkAA
import Derived.Test.YtkidabedcgngcaaGreatDoorWkAD
import Derived.Test.YtkidabedcgngcaaGreatDoorWkAF
import Derived.Test.YtkidabedcgngcaaGreatDoorWkAB
import Derived.Test.YtkidabedcgngcaaGreatDoorWkAE
import Derived.Test.YtkidabedcgngcaaGreatDoorWkAC
import Derived.Deep.DeepCutAuto
import Derived.Deep.RegionWith
import Derived.Maps.RangeWalk
import Derived.Maps.OwnSet
import Derived.Maps.OwnOps
import Derived.DeepKeys4
import Derived.Maps.AppendAt
import Derived.Laws.IdiomRangeMap
import Derived.Deep.RegionLaw
import Derived.Deep.AppendLies
namespace Go.Proofs.YtkidabedcgngcaaGreatDoor
open Go.ChangeShapes Go.WideShapes Go.ChangeAt Go.RowKit Go.Deep
set_option linter.unusedVariables false
set_option linter.unusedSimpArgs false
set_option maxRecDepth 100000
set_option maxHeartbeats 8000000 in
theorem atm_cls {s:ByteArray} (hs:s.size≤200) (q:ByteArray) (fc:UInt8→Bool) (hq91:(sb q)[0]?=some 91) (hqs:q.size≤200) (hcl:classM (sb q) 1=.inl (fc,q.size)) (w:World):Calls Tryz.prog 178 #[.string q,.string s] w (MxG s (Lg (.cls fc)) w):=by
 obtain⟨d,hd⟩:=qE (91:UInt8)
 rw[←hd]at hq91
 have hql:0<q.size:=by have:=lt_of_at hq91;rw[sb_len]at this;exact this
 obtain⟨_,gq⟩:=sb_get (s:=q) (i:=0) (x:=d) hq91
 have z40:((d.toNat:Int)==40)=false:=by rw[hd];rfl
 have z46:((d.toNat:Int)==46)=false:=by rw[hd];rfl
 have z92:((d.toNat:Int)==92)=false:=by rw[hd];rfl
 have z91:((d.toNat:Int)==91)=true:=by rw[hd];rfl
 have HHo:Hid (∀(b:UInt8) (wx:World),Calls Tryz.prog 185 #[.string q,.int .u8 (b.toNat:Int)] wx fun e w'=>e=.returned (.bool (fc b))∧w'=wx):=fun b wx=>l4Holds_core q hqs b fc hcl wx
 have zq:(0:Int)<(q.size:Int):=by omega
 have HNo:Hid (Calls Tryz.prog 168 #[.int .i64 (s.size:Int)] w (MaP (s.size+1) (fun _ _=>false) w)):=l4None_core s.size (by omega) w
 clear hq91 hd hqs hcl
 go_enter Tryz.func178,Tryz.ntmps178
 go_wp2_with fail
 refine HNo.mono ?_
 rintro r w1 ⟨g,cp,ρ,γ,rfl,HM,hb1⟩
 have hcp:=HM.out.out.caps
 go_wp2_with fail
 go_loopw[6] (fun iv wr=>∃(k:Nat) (f:Nat→Nat→Bool),k≤s.size∧iv=.int .i64 k∧Hid (MatO wr w.heap.size g cp (s.size+1) (s.size+1) ρ γ f∧(∀i j,i≤j→j<s.size+1→f i j=(decide (j=i+1) && (((sb s)[i]?).map (fun x=>fc x)).getD false && decide (i<k)))∧Below w.heap.size w wr)) (fun iv _=>s.size-(intOf iv).toNat)
 case atStart=>exact⟨0,_,Nat.zero_le _,rfl,HM.out,fun i j _ _=>by simp,hb1⟩
 case round=>
  obtain⟨k,f,hk,rfl,HJ⟩:=hrel
  by_cases hlt:k<s.size
  ·have zk:(k:Int)<(s.size:Int):=by omega
   obtain⟨x,hx⟩:∃x,(sb s)[k]?=some x:=⟨_,List.getElem?_eq_getElem (by rw[sb_len];exact hlt)⟩
   obtain⟨_,gx⟩:=sb_get hx
   have c0:wr.cell? ⟨g,k,none⟩=some (slV (ρ k) (s.size+1) (γ k)):=HJ.1.cell (by omega)
   have hkk:k<s.size+1:=by omega
   have c1:wr.cell? ⟨ρ k,k+1,none⟩=some (.bool (f k (k+1))):=(HJ.1.row k hkk).cell (by omega)
   have y1:wr.frozen? ⟨ρ k,k+1,none⟩=false:=World.ownsRow.frozenAt (HJ.1.row k hkk) _
   have hrc:=(HJ.1.row k hkk).caps
   obtain⟨bv,hbv⟩:=qE ((fc x))
   have HV:Hid (bv=(fun x=>fc x) x):=by exact hbv
   have HX:Hid ((sb s)[k]?=some x):=hx
   clear hx
   go_upto_region 7 with fail
   refine wp_region_T 99 (fun _=>True) (by kernel_rfl) ?_
   refine anyT_takeN (i:=0) (v:=?vb0) rfl (by kernel_rfl) (by kernel_rfl) (by kernel_rfl) (by rfl) (fun _ _ _ h=>h) (Or.inl ⟨by rfl,?yb0⟩) True.intro ?_
   case yb0=>exact zzR3
   try simp only[qA,List.getElem_toArray,List.getElem_cons_zero,List.getElem_cons_succ]
   refine anyT_takeN (i:=1) (v:=?vb1) rfl (by kernel_rfl) (by kernel_rfl) (by kernel_rfl) (by rfl) (fun _ _ _ h=>h) (Or.inl ⟨by rfl,?yb1⟩) True.intro ?_
   case yb1=>exact zzR3
   try simp only[qA,List.getElem_toArray,List.getElem_cons_zero,List.getElem_cons_succ]
   refine anyT_takeN (i:=2) (v:=.bool false) rfl (by kernel_rfl) (by kernel_rfl) (by kernel_rfl) (by rfl) (fun _ _ _ h=>h) (Or.inl ⟨by rfl,?yb2⟩) True.intro ?_
   case yb2=>exact zzR21
   try simp only[qA,List.getElem_toArray,List.getElem_cons_zero,List.getElem_cons_succ]
   refine anyT_takeN (i:=3) (v:=?vb3) rfl (by kernel_rfl) (by kernel_rfl) (by kernel_rfl) (by rfl) (fun _ _ _ h=>h) (Or.inl ⟨by rfl,?yb3⟩) True.intro ?_
   case yb3=>exact zzR3
   try simp only[qA,List.getElem_toArray,List.getElem_cons_zero,List.getElem_cons_succ]
   refine anyT_takeN (i:=4) (v:=?vb4) rfl (by kernel_rfl) (by kernel_rfl) (by kernel_rfl) (by rfl) (fun _ _ _ h=>h) (Or.inl ⟨by rfl,?yb4⟩) True.intro ?_
   case yb4=>exact zzR3
   try simp only[qA,List.getElem_toArray,List.getElem_cons_zero,List.getElem_cons_succ]
   refine anyT_takeN (i:=5) (v:=?vb5) rfl (by kernel_rfl) (by kernel_rfl) (by kernel_rfl) (by rfl) (fun _ _ _ h=>h) (Or.inl ⟨by rfl,?yb5⟩) True.intro ?_
   case yb5=>exact zzR3
   try simp only[qA,List.getElem_toArray,List.getElem_cons_zero,List.getElem_cons_succ]
   refine anyT_takeN (i:=6) (v:=?vb6) rfl (by kernel_rfl) (by kernel_rfl) (by kernel_rfl) (by rfl) (fun _ _ _ h=>h) (Or.inl ⟨by rfl,?yb6⟩) True.intro ?_
   case yb6=>exact zzR3
   try simp only[qA,List.getElem_toArray,List.getElem_cons_zero,List.getElem_cons_succ]
   refine anyT_takeN (i:=7) (v:=?vb7) rfl (by kernel_rfl) (by kernel_rfl) (by kernel_rfl) (by rfl) (fun _ _ _ h=>h) (Or.inl ⟨by rfl,?yb7⟩) True.intro ?_
   case yb7=>exact zzR3
   try simp only[qA,List.getElem_toArray,List.getElem_cons_zero,List.getElem_cons_succ]
   refine anyT_takeN (i:=8) (v:=?vb8) rfl (by kernel_rfl) (by kernel_rfl) (by kernel_rfl) (by rfl) (fun _ _ _ h=>h) (Or.inl ⟨by rfl,?yb8⟩) True.intro ?_
   case yb8=>exact zzR3
   try simp only[qA,List.getElem_toArray,List.getElem_cons_zero,List.getElem_cons_succ]
   refine anyT_takeN (i:=9) (v:=?vb9) rfl (by kernel_rfl) (by kernel_rfl) (by kernel_rfl) (by rfl) (fun _ _ _ h=>h) (Or.inl ⟨by rfl,?yb9⟩) True.intro ?_
   case yb9=>exact zzR3
   try simp only[qA,List.getElem_toArray,List.getElem_cons_zero,List.getElem_cons_succ]
   refine anyT_takeN (i:=10) (v:=?vb10) rfl (by kernel_rfl) (by kernel_rfl) (by kernel_rfl) (by rfl) (fun _ _ _ h=>h) (Or.inl ⟨by rfl,?yb10⟩) True.intro ?_
   case yb10=>exact zzR3
   try simp only[qA,List.getElem_toArray,List.getElem_cons_zero,List.getElem_cons_succ]
   refine qO 11 rfl fun K hK=>?_
   go_simp
   refine hK.out _ _ (.inr True.intro) ?_
   clear hK
   try simp only[qA,List.getElem_toArray,List.getElem_cons_zero,List.getElem_cons_succ]
   refine qD ?_
   go_wp2_with fail
   refine(HHo.out x _).mono ?_
   rintro e wh ⟨rfl,hwh⟩
   rw[hwh]
   rw[←hbv]
   clear hbv
   have HJ2:Hid (MatO (wr.setCell ⟨ρ k,k+1,none⟩ (.bool bv)).drew w.heap.size g cp (s.size+1) (s.size+1) ρ γ (upd2 f k (k+1) bv)∧(∀i j,i≤j→j<s.size+1→upd2 f k (k+1) bv i j=(decide (j=i+1) && (((sb s)[i]?).map (fun x=>fc x)).getD false && decide (i<k+1)))∧Below w.heap.size w (wr.setCell ⟨ρ k,k+1,none⟩ (.bool bv)).drew):=by
    refine⟨(HJ.1.set hkk (by omega) bv).below ((Below.refl _ _).drew),fun i j hij hj=>?_,(below_set HJ.2.2 (HJ.1.row k hkk).lt.1 _ _).drew⟩
    unfold upd2
    by_cases e:i=k∧j=k+1
    ·rw[if_pos e,e.1,e.2,HX.out,HV.out];simp
    ·rw[if_neg e,HJ.2.1 i j hij hj]
     by_cases e2:j=i+1
     ·have h1:i≠k:=fun q=>e ⟨q,by omega⟩
      have h2:decide (i<k)=decide (i<k+1):=by rw[decide_eq_decide];omega
      rw[h2]
     ·simp[e2]
   exact zzQ44
  ·obtain rfl:k=s.size:=by omega
   have zk:¬(s.size:Int)<(s.size:Int):=by omega
   go_wp2_with fail
   go_ret
   refine⟨g,cp,ρ,γ,f,rfl,hcp.1,⟨HJ.1.read,(relW_one (τ:=fun x=>fc x) (fun i j hij hj=>?_)).iff (fun _ _ _ _=>rfl) (fun y=>by simp[Lg])⟩,HJ.2.2⟩
   rw[sb_len]at hj
   rw[HJ.2.1 i j hij hj]
   by_cases e:j=i+1
   ·have h1:i<s.size:=by omega
    simp[h1]
   ·simp[e]
set_option maxHeartbeats 4000000 in
theorem atm_group {s:ByteArray} {m:Nat} (H:AltW s m) (q:ByteArray) (ys:List UInt8) (n:Nat) (os:List (List Pat)) (hq:sb q=40::ys++ [41]) (hqm:q.size≤m+1) (hqs:q.size≤200) (hG:AltG (AtomG n) os ys) (w:World):Calls Tryz.prog 178 #[.string q,.string s] w (MxG s (LgA os) w):=by
 have hql:q.size=ys.length+2:=by rw[←sb_len,hq];simp
 obtain⟨d,hd⟩:=qE (40:UInt8)
 obtain⟨_,gq⟩:=sb_get (s:=q) (i:=0) (x:=d) (by rw[hq,hd];rfl)
 have z40:((d.toNat:Int)==40)=true:=by rw[hd];rfl
 have zq:(0:Int)<(q.size:Int):=by omega
 have hx:sb (q.extract 1 (q.size-1))=ys:=by
  rw[sb_extract q (by omega),hq,hql]
  simp[cut]
 have HC:Hid (Calls Tryz.prog 163 #[.string (q.extract 1 (q.size-1)),.string s] w (MxG s (LgA os) w)):=H n os _ w (by rw[←sb_len,hx];omega) (by rw[←sb_len,hx];omega) (by rw[hx];exact hG)
 obtain⟨M,hM⟩:=qE (q.size-1)
 have z1:(1:Int)≤(M:Int):=by omega
 have z2:(M:Int)≤(q.size:Int):=by omega
 have z3:((q.size:Int)-1)=(M:Int):=by omega
 have z4:q.size≤200:=hqs
 rw[←hM]at HC
 clear hq hqm hqs hG hx hd hql hM
 go_enter Tryz.func178,Tryz.ntmps178
 go_wp2_with fail
 refine HC.mono ?_
 rintro r w1 ⟨g,cp,ρ,γ,f,rfl,hcp,HM,hb⟩
 go_wp2_with fail
 go_ret
 exact⟨g,cp,ρ,γ,f,rfl,hcp,HM,hb⟩
theorem reg_fieldM (c k:Int) (w:World):(Instr.field 129 (.agg #[.int .i64 c,.int .i64 k]) 0).run Tryz.prog w=.ok (.int .i64 c) w:=by kernel_rfl
theorem atm_says {s:ByteArray} (hs:s.size≤200) {m:Nat} (H:AltW s m):AtmW s (m+1):=by
 intro n t q w hqm hq hG
 cases n with
 |zero=>exact hG.elim
 |succ n=>
  rcases hG with⟨c,h1,h2,rfl⟩|⟨h1,rfl⟩|⟨c,h1,rfl⟩|⟨ys,os,h1,h2,rfl⟩|⟨p,i,k,f,h1,h2,h3,rfl⟩
  ·unfold special at h2
   exact atm_byte hs q c h1 (fun e=>h2 (.inr (.inl e))) (fun e=>h2 (.inr (.inr (.inr (.inl e))))) (fun e=>h2 (.inr (.inr (.inr (.inr e))))) (fun e=>h2 (.inr (.inr (.inl e)))) w
  ·exact atm_dot hs q 46 h1 rfl w
  ·exact atm_esc hs q 92 c h1 rfl w
  ·exact atm_group H q ys n os h1 hqm hq h2 w
  ·have hg:=classM_gt h2
   have hle:=hg.2
   have hl:(sb q).length=k-i:=by rw[h3,cut_len hle]
   have hat:∀t,i+t<k→(sb q)[t]?=p[i+t]?:=fun t ht=>by
    rw[h3];unfold cut
    rw[List.getElem?_take,if_pos (by omega),List.getElem?_drop]
   have e:=classM_agree (q:=sb q) (j:=1) h2 (fun t ht=>by
    rw[hat (1+t) (by omega)];congr 1;omega)
   refine atm_cls hs q f (by have:=hat 0 (by omega);rw[this];exact h1) hq ?_ w
   rw[e]
   have:1+(k-(i+1))=q.size:=by rw[←sb_len,hl];omega
   rw[this]
set_option maxHeartbeats 4000000 in
theorem seq_zero {s:ByteArray} (hs:s.size≤200):SeqW s 0:=by
 intro n ts p w hpm hp hG
 have h0:sb p= []:=List.length_eq_zero_iff.1 (by rw[sb_len];omega)
 cases ts with
 |nil=>
  have hz:p.toList= []:=by rw[ByteArray.toList_eq];exact h0
  have q1:(p.toList== [])=true:=by rw[hz];rfl
  have HE:Hid (Calls Tryz.prog 177 #[.int .i64 (s.size:Int)] w (MxG s (fun x=>x= []) w)):=empty_says hs w
  clear hz h0 hG
  go_enter Tryz.func171,Tryz.ntmps171
  go_wp2_with fail
  refine HE.mono ?_
  rintro e w1 ⟨g1,p1,ρ1,γ1,f1,rfl,hp1,HM1,hb1⟩
  have HR:Hid (MxG s (LgS []) w (.returned (slV g1 (s.size+1) p1)) w1):=⟨g1,p1,ρ1,γ1,f1,rfl,hp1,⟨HM1.1,HM1.2.iff (fun _ _ _ _=>rfl) (fun x=>by simp[LgS])⟩,hb1⟩
  go_wp2_with fail
  go_ret
  exact HR.out
 |cons t ts=>
  obtain⟨a,as_,ops,hX,_⟩:=seqX_of hG
  have h1:=hX.len
  have h2:=hX.le
  omega
theorem seq_every {s:ByteArray} (hs:s.size≤200):∀m,SeqW s m
 |0=>seq_zero hs
 |m+1=>seq_says hs (atm_says hs (alt_says hs (seq_every hs m))) (seq_every hs m)
theorem alt_every {s:ByteArray} (hs:s.size≤200) (m:Nat):AltW s m:=alt_says hs (seq_every hs m)
set_option maxHeartbeats 4000000 in
theorem specMatch_bad (p s:ByteArray) (hpm:p.size≤maxLen) (hc0:¬(checkM (sb p)).1=0) (w:World):Calls Tryz.prog 148 #[.string p,.string s] w fun e w'=>e=.returned (.bool false)∧Below w.heap.size w w':=by
 obtain⟨c,hc⟩:=qE ((checkM (sb p)).1)
 obtain⟨k,hk⟩:=qE (((checkM (sb p)).2:Int):Int)
 have HS:Hid (∀w,Calls Tryz.prog 88 #[.string p] w fun e w'=>e=.returned (.agg #[.int .i64 c,.int .i64 k])∧Below w.heap.size w w'):=fun w=>by
  rw[hc,hk];exact specCheck_core p w hpm
 have hfd:=reg_fieldM c k
 rw[←hc]at hc0
 clear hc hk
 exact zzQ78
set_option maxHeartbeats 4000000 in
theorem specMatch_long (p s:ByteArray) (hpm:p.size≤maxLen) (hs:200<s.size) (w:World):Calls Tryz.prog 148 #[.string p,.string s] w fun e w'=>e=.returned (.bool false)∧Below w.heap.size w w':=by
 by_cases hc0:(checkM (sb p)).1=0
 ·obtain⟨k,hk⟩:=qE (((checkM (sb p)).2:Int):Int)
  have HS:Hid (∀w,Calls Tryz.prog 88 #[.string p] w fun e w'=>e=.returned (.agg #[.int .i64 0,.int .i64 k])∧Below w.heap.size w w'):=fun w=>by
   rw[←hc0,hk];exact specCheck_core p w hpm
  have hfd:=reg_fieldM 0 k
  have zs:¬(s.size:Int)≤200:=by omega
  clear hk hc0
  exact zzQ78
 ·exact specMatch_bad p s hpm hc0 w
set_option maxHeartbeats 4000000 in
theorem specMatch_ok (p s:ByteArray) (hpm:p.size≤maxLen) (hc0:(checkM (sb p)).1=0) (hs:s.size≤200) (n:Nat) (os:List (List Pat)) (hG:AltG (AtomG n) os (sb p)) (w:World):Calls Tryz.prog 148 #[.string p,.string s] w fun e w'=>∃b:Bool,e=.returned (.bool b)∧Hid (b=true↔LgA os (sb s))∧Below w.heap.size w w':=by
 have hp:p.size≤200:=by
  apply Classical.byContradiction
  intro h6
  unfold checkM at hc0
  rw[if_pos (by rw[sb_len];omega)]at hc0
  exact absurd hc0 (by decide)
 obtain⟨k,hk⟩:=qE (((checkM (sb p)).2:Int):Int)
 have HS:Hid (∀w,Calls Tryz.prog 88 #[.string p] w fun e w'=>e=.returned (.agg #[.int .i64 0,.int .i64 k])∧Below w.heap.size w w'):=fun w=>by
  rw[←hc0,hk];exact specCheck_core p w hpm
 have HA:Hid (∀w,Calls Tryz.prog 163 #[.string p,.string s] w (MxG s (LgA os) w)):=fun w=>alt_every hs 200 n os p w hp hp hG
 have hfd:=reg_fieldM 0 k
 have zs:(s.size:Int)≤200:=by omega
 clear hk hc0 hG
 go_enter Tryz.func148,Tryz.ntmps148
 go_wp2_with fail
 refine(HS.out _).mono ?_
 rintro e w1 ⟨rfl,hb1⟩
 go_wp2_with fail
 refine(HA.out _).mono ?_
 rintro e w2 ⟨g,cp,ρ,γ,f,rfl,hcp,HM,hb2⟩
 have c0:w2.cell? ⟨g,0,none⟩=some (slV (ρ 0) (s.size+1) (γ 0)):=HM.1.out 0 (by omega)
 have c1:w2.cell? ⟨ρ 0,s.size,none⟩=some (.bool (f 0 s.size)):=HM.1.row 0 s.size (by omega) (by omega)
 have hcap:=HM.1.cap 0 (by omega)
 have z9:(s.size:Int)<((s.size+1:Nat):Int):=by omega
 have z8:(s.size:Int)<(s.size:Int)+1:=by omega
 have z7:(0:Int)<(s.size:Int)+1:=by omega
 have HB:Hid (f 0 s.size=true↔LgA os (sb s)):=by
  have h:=HM.2 0 s.size (by omega) (by rw[sb_len];omega)
  have e:cut (sb s) 0 s.size=sb s:=by unfold cut;rw[List.drop_zero,Nat.sub_zero,←sb_len,List.take_length]
  rw[e]at h
  exact h
 go_wp2_with fail
 go_ret
 exact⟨_,rfl,HB,hb1.trans (hb2.mono hb1.size)⟩
end Go.Proofs.YtkidabedcgngcaaGreatDoor
namespace Go.Proofs.YtkidabedcgngcaaGreatDoor
set_option linter.unusedVariables false
set_option linter.unusedSimpArgs false
def Hd (Q:UInt8→Prop) (r:List UInt8):Prop:=r= []∨∃c zs,r=c::zs∧Q c
theorem Hd.mono {Q R:UInt8→Prop} (h:∀c,Q c→R c) {r:List UInt8}:Hd Q r→Hd R r
 | .inl q=>.inl q
 | .inr ⟨c,zs,h1,h2⟩=>.inr ⟨c,zs,h1,h c h2⟩
theorem ops_uni:∀(a b:List UInt8) {r r':List UInt8},(∀c∈a,isOp c)→(∀c∈b,isOp c)→Hd (fun c=>¬isOp c) r→Hd (fun c=>¬isOp c) r'→a++r=b++r'→a=b∧r=r'
 | [],[],r,r',_,_,_,_,h=>⟨rfl,by simpa using h⟩
 |x::a,[],r,r',ha,_,_,hr',h=>by
  rcases hr' with rfl|⟨c,zs,rfl,hc⟩
  ·cases h
  ·simp only[List.cons_append,List.nil_append,List.cons.injEq]at h
   exact absurd (h.1▸ha x (by simp)) hc
 | [],y::b,r,r',_,hb,hr,_,h=>by
   rcases hr with rfl|⟨c,zs,rfl,hc⟩
   ·cases h
   ·simp only[List.cons_append,List.nil_append,List.cons.injEq]at h
    exact absurd (h.1▸hb y (by simp)) hc
 |x::a,y::b,r,r',ha,hb,hr,hr',h=>by
  simp only[List.cons_append,List.cons.injEq]at h
  obtain⟨h1,h2⟩:=ops_uni a b (fun c hc=>ha c (by simp[hc])) (fun c hc=>hb c (by simp[hc])) hr hr' h.2
  exact⟨by rw[h.1,h1],h2⟩
theorem hd_bar (zs:List UInt8):Hd (fun c=>c=41∨c=124) (124::zs):=.inr ⟨124,zs,rfl,.inr rfl⟩
section
variable {n m:Nat} (hU:∀xs t t',AtomG n xs t→AtomG m xs t'→t=t')
include hU
theorem rep_uni {xs ys r r':List UInt8} {t t':Pat} (h:RepG (AtomG n) xs t) (k:RepG (AtomG m) ys t') (hr:Hd (fun c=>¬isOp c) r) (hr':Hd (fun c=>¬isOp c) r') (e:xs++r=ys++r'):xs=ys∧t=t'∧r=r':=by
 obtain⟨a,o,u,rfl,h2,h3,rfl⟩:=h
 obtain⟨a',o',u',rfl,k2,k3,rfl⟩:=k
 rw[List.append_assoc,List.append_assoc]at e
 have ea:=atom_one h2 k2 e
 subst ea
 obtain rfl:=hU _ _ _ h2 k2
 obtain⟨rfl,rfl⟩:=ops_uni o o' h3 k3 hr hr' (List.append_cancel_left e)
 exact⟨rfl,rfl,rfl⟩
theorem seq_uni:∀{ts us:List Pat} {xs ys r r':List UInt8},SeqG (AtomG n) ts xs→SeqG (AtomG m) us ys→Hd (fun c=>c=41∨c=124) r→Hd (fun c=>c=41∨c=124) r'→xs++r=ys++r'→ts=us∧xs=ys∧r=r'
 | [],[],xs,ys,r,r',h,k,hr,hr',e=>by
   have h:xs= []:=h
   have k:ys= []:=k
   subst h k
   exact⟨rfl,rfl,by simpa using e⟩
 |t::ts,[],xs,ys,r,r',h,k,hr,hr',e=>by
  have k:ys= []:=k
  subst k
  obtain⟨as_,zs,rfl,⟨a,o,u,rfl,h2,h3,_⟩,h4⟩:=h
  obtain⟨c,yt,rfl,n1,n2,n3⟩:=h2.first
  rcases hr' with rfl|⟨c',zs',rfl,hc⟩
  ·simp at e
  ·simp only[List.cons_append,List.nil_append,List.cons.injEq]at e
   rcases hc with q|q
   ·exact absurd (e.1.trans q) n1
   ·exact absurd (e.1.trans q) n2
 | [],u::us,xs,ys,r,r',h,k,hr,hr',e=>by
   have h:xs= []:=h
   subst h
   obtain⟨as_,zs,rfl,⟨a,o,u',rfl,h2,h3,_⟩,h4⟩:=k
   obtain⟨c,yt,rfl,n1,n2,n3⟩:=h2.first
   rcases hr with rfl|⟨c',zs',rfl,hc⟩
   ·simp at e
   ·simp only[List.cons_append,List.nil_append,List.cons.injEq]at e
    rcases hc with q|q
    ·exact absurd (e.1.symm.trans q) n1
    ·exact absurd (e.1.symm.trans q) n2
 |t::ts,u::us,xs,ys,r,r',h,k,hr,hr',e=>by
  obtain⟨as_,zs,rfl,h2,h3⟩:=h
  obtain⟨bs,ws,rfl,k2,k3⟩:=k
  have hd:∀{j:Nat} {vs:List Pat} {qs rr:List UInt8},SeqG (AtomG j) vs qs→Hd (fun c=>c=41∨c=124) rr→Hd (fun c=>¬isOp c) (qs++rr):=fun {j vs qs rr} hq hrr=>by
   cases vs with
   |nil=>
    have hq:qs= []:=hq
    subst hq
    refine hrr.mono (fun c hc=>?_)
    rcases hc with rfl|rfl
    ·unfold isOp;decide
    ·unfold isOp;decide
   |cons v vs=>
    obtain⟨a1,z1,rfl,⟨a,o,u',rfl,g2,g3,_⟩,g4⟩:=hq
    obtain⟨c,yt,rfl,n1,n2,n3⟩:=g2.first
    exact .inr ⟨c,_,by simp only[List.cons_append];rfl,n3⟩
  rw[List.append_assoc,List.append_assoc]at e
  obtain⟨rfl,rfl,e2⟩:=rep_uni hU h2 k2 (hd h3 hr) (hd k3 hr') e
  obtain⟨rfl,rfl,e3⟩:=seq_uni h3 k3 hr hr' e2
  exact⟨rfl,rfl,e3⟩
theorem alt_uni:∀{os us:List (List Pat)} {xs ys r r':List UInt8},AltG (AtomG n) os xs→AltG (AtomG m) us ys→Hd (fun c=>c=41) r→Hd (fun c=>c=41) r'→xs++r=ys++r'→os=us∧xs=ys
 | [],_,_,_,_,_,h,_,_,_,_=>h.elim
 |_::_,[],_,_,_,_,_,k,_,_,_=>k.elim
 | [ts],[us],xs,ys,r,r',h,k,hr,hr',e=>by
   obtain⟨rfl,rfl,_⟩:=seq_uni hU (ts:=ts) (us:=us) h k (hr.mono (fun c q=>.inl q)) (hr'.mono (fun c q=>.inl q)) e
   exact⟨rfl,rfl⟩
 | [ts],u1::u2::us,xs,ys,r,r',h,⟨a,z,k1,k2,k3⟩,hr,hr',e=>by
   subst k1
   rw[List.append_assoc,List.cons_append]at e
   obtain⟨_,_,e3⟩:=seq_uni hU (ts:=ts) (us:=u1) h k2 (hr.mono (fun c q=>.inl q)) (hd_bar _) e
   rcases hr with rfl|⟨c,zs,rfl,hc⟩
   ·cases e3
   ·simp only[List.cons.injEq]at e3
    rw[hc]at e3
    exact absurd e3.1 (by decide)
 |t1::t2::ts,[us],xs,ys,r,r',⟨a,z,h1,h2,h3⟩,k,hr,hr',e=>by
  subst h1
  rw[List.append_assoc,List.cons_append]at e
  obtain⟨_,_,e3⟩:=seq_uni hU (ts:=t1) (us:=us) h2 k (hd_bar _) (hr'.mono (fun c q=>.inl q)) e
  rcases hr' with rfl|⟨c,zs,rfl,hc⟩
  ·cases e3
  ·simp only[List.cons.injEq]at e3
   rw[hc]at e3
   exact absurd e3.1 (by decide)
 |t1::t2::ts,u1::u2::us,xs,ys,r,r',⟨a,z,h1,h2,h3⟩,⟨b,y,k1,k2,k3⟩,hr,hr',e=>by
  subst h1 k1
  rw[List.append_assoc,List.append_assoc,List.cons_append,List.cons_append]at e
  obtain⟨rfl,rfl,e3⟩:=seq_uni hU h2 k2 (hd_bar _) (hd_bar _) e
  simp only[List.cons.injEq,true_and]at e3
  obtain⟨e4,rfl⟩:=alt_uni h3 k3 hr hr' e3
  exact⟨by rw[e4],rfl⟩
end
theorem atom_uni:∀(n:Nat) {m:Nat} (xs:List UInt8) (t t':Pat),AtomG n xs t→AtomG m xs t'→t=t'
 |0,_,_,_,_,h,_=>h.elim
 |n+1,0,_,_,_,_,k=>k.elim
 |n+1,m+1,xs,t,t',h,k=>by
  have hu:∀xs t t',AtomG n xs t→AtomG m xs t'→t=t':=fun xs t t' p q=>atom_uni n xs t t' p q
  have hc91:∀{p:List UInt8} {i k:Nat} {f:UInt8→Bool},p[i]?=some 91→classM p (i+1)=.inl (f,k)→∃zs,cut p i k=91::zs:=fun {p i k f} h1 h2=>by
   have hg:=classM_gt h2
   have:=cut_cat (p:=p) (i:=i) (j:=i+1) (k:=k) (by omega) (by omega)
   rw[cut_one h1]at this
   exact⟨_,this⟩
  rcases h with⟨c,rfl,hs,rfl⟩|⟨rfl,rfl⟩|⟨c,rfl,rfl⟩|⟨ys,os,rfl,h2,rfl⟩|⟨p,i,j,f,h1,h2,h3,rfl⟩<;>
   rcases k with⟨c',k1,ks,rfl⟩|⟨k1,rfl⟩|⟨c',k1,rfl⟩|⟨zs,us,k1,k2,rfl⟩|⟨p',i',j',f',k1,k2,k3,rfl⟩
  ·simp at k1;rw[k1]
  ·simp at k1;subst k1;exact absurd (by unfold special;simp) hs
  ·simp at k1
  ·have:=congrArg List.length k1;simp at this
  ·obtain⟨zs,hz⟩:=hc91 k1 k2
   rw[hz]at k3;simp at k3;rw[k3.1]at hs;exact absurd (by unfold special;simp) hs
  ·simp at k1;subst k1;exact absurd (by unfold special;simp) ks
  ·rfl
  ·simp at k1
  ·have:=congrArg List.length k1;simp at this
  ·obtain⟨zs,hz⟩:=hc91 k1 k2
   rw[hz]at k3;simp at k3
  ·simp at k1
  ·simp at k1
  ·simp at k1;rw[k1]
  ·simp at k1
  ·obtain⟨zs,hz⟩:=hc91 k1 k2
   rw[hz]at k3;simp at k3
  ·have:=congrArg List.length k1;simp at this
  ·have:=congrArg List.length k1;simp at this
  ·simp at k1
  ·simp only[List.cons_append,List.cons.injEq,true_and]at k1
   obtain⟨rfl,_⟩:=alt_uni hu h2 k2 (.inr ⟨41,[],rfl,rfl⟩) (.inr ⟨41,[],rfl,rfl⟩) k1
   rfl
  ·obtain⟨zs,hz⟩:=hc91 k1 k2
   rw[hz]at k3;simp at k3
  ·obtain⟨zs,hz⟩:=hc91 h1 h2
   rw[hz,k1]at h3;simp at h3;rw[h3.1]at ks;exact absurd (by unfold special;simp) ks
  ·obtain⟨zs,hz⟩:=hc91 h1 h2
   rw[hz,k1]at h3;simp at h3
  ·obtain⟨zs,hz⟩:=hc91 h1 h2
   rw[hz,k1]at h3;simp at h3
  ·obtain⟨zs,hz⟩:=hc91 h1 h2
   rw[hz,k1]at h3;simp at h3
  ·have hg:=classM_gt h2
   have hg':=classM_gt k2
   have hcut:cut p i j=cut p' i' j':=h3.symm.trans k3
   have hl:j-i=j'-i':=by
    have:=congrArg List.length hcut
    rwa [cut_len hg.2,cut_len hg'.2]at this
   have hat:∀t,i+t<j→p'[i'+t]?=p[i+t]?:=fun t ht=>by
    have e1:(cut p i j)[t]?=p[i+t]?:=by unfold cut;rw[List.getElem?_take,if_pos (by omega),List.getElem?_drop]
    have e2:(cut p' i' j')[t]?=p'[i'+t]?:=by unfold cut;rw[List.getElem?_take,if_pos (by omega),List.getElem?_drop]
    rw[←e1,←e2,hcut]
   have e:=classM_agree (q:=p') (j:=i'+1) h2 (fun t ht=>by
    have:=hat (1+t) (by omega)
    rw[show i'+1+t=i'+(1+t)by omega,show i+1+t=i+(1+t)by omega];exact this)
   rw[e]at k2
   simp only[Sum.inl.injEq,Prod.mk.injEq]at k2
   rw[k2.1]
theorem pat_uni {n m:Nat} {os us:List (List Pat)} {xs:List UInt8} (h:AltG (AtomG n) os xs) (k:AltG (AtomG m) us xs):os=us:=
 (alt_uni (fun xs t t' p q=>atom_uni n xs t t' p q) h k (.inl rfl) (.inl rfl) rfl).1
end Go.Proofs.YtkidabedcgngcaaGreatDoor
namespace Go.Proofs.YtkidabedcgngcaaGreatDoor
open Go.ChangeShapes Go.WideShapes Go.ChangeAt Go.RowKit Go.Deep
set_option linter.unusedVariables false
set_option linter.unusedSimpArgs false
set_option maxRecDepth 100000
def MatB (p s:ByteArray) (b:Bool):Prop:=(¬(checkM (sb p)).1=0∧b=false)∨((checkM (sb p)).1=0∧∃n os,AltG (AtomG n) os (sb p)∧(b=true↔s.size≤200∧LgA os (sb s)))
theorem MatB.one {p s:ByteArray} {b c:Bool} (h:MatB p s b) (k:MatB p s c):b=c:=by
 rcases h with⟨h1,rfl⟩|⟨h1,n,os,h2,h3⟩
 ·rcases k with⟨_,rfl⟩|⟨k1,_⟩
  ·rfl
  ·exact absurd k1 h1
 ·rcases k with⟨k1,_⟩|⟨_,m,us,k2,k3⟩
  ·exact absurd h1 k1
  ·obtain rfl:=pat_uni h2 k2
   rw[Bool.eq_iff_iff,h3,k3]
def SpeB (p s:ByteArray) (w:World) (e:Ending) (w':World):Prop:=∃b:Bool,e=.returned (.bool b)∧Hid (Below w.heap.size w w'∧MatB p s b)
theorem specMatch_core (p s:ByteArray) (w:World) (hpm:p.size≤maxLen):Calls Tryz.prog 148 #[.string p,.string s] w (SpeB p s w):=by
 by_cases hc0:(checkM (sb p)).1=0
 ·obtain⟨os,ho⟩:=pref_is p hpm hc0
  obtain⟨n,hg⟩:=ho.gr
  have ecut:cut (sb p) 0 p.size=sb p:=by unfold cut;rw[List.drop_zero,Nat.sub_zero,←sb_len,List.take_length]
  rw[ecut]at hg
  by_cases hs:s.size≤200
  ·refine(specMatch_ok p s hpm hc0 hs n os hg w).mono ?_
   rintro e w' ⟨b,rfl,H,hb⟩
   exact⟨b,rfl,hb,.inr ⟨hc0,n,os,hg,H.trans ⟨fun q=>⟨hs,q⟩,fun q=>q.2⟩⟩⟩
  ·refine(specMatch_long p s hpm (by omega) w).mono ?_
   rintro e w' ⟨rfl,hb⟩
   exact⟨false,rfl,hb,.inr ⟨hc0,n,os,hg,⟨fun q=>(by cases q),fun q=>absurd q.1 hs⟩⟩⟩
 ·refine(specMatch_bad p s hpm hc0 w).mono ?_
  rintro e w' ⟨rfl,hb⟩
  exact⟨false,rfl,hb,.inl ⟨hc0,rfl⟩⟩
end Go.Proofs.YtkidabedcgngcaaGreatDoor
namespace Go.Proofs.YtkidabedcgngcaaGreatDoor
open Go.ChangeShapes Go.WideShapes Go.ChangeAt Go.RowKit Go.Deep
set_option linter.unusedVariables false
set_option linter.unusedSimpArgs false
set_option maxRecDepth 100000
open Classical in
noncomputable def mtB (p s:ByteArray):Bool:=decide (MatB p s true)
theorem mtB_eq {p s:ByteArray} {b:Bool} (h:MatB p s b):b=mtB p s:=by
 unfold mtB
 cases b with
 |true=>exact(@decide_eq_true _ (Classical.propDecidable _) h).symm
 |false=>
  refine(@decide_eq_false _ (Classical.propDecidable _) fun q=>?_).symm
  have:=MatB.one h q
  cases this
def lsB (a b:ByteArray):Bool:=Op.bytesLess a.toList b.toList
def inS (x:ByteArray) (n:Nd):Bool:= !(lsB x n.s) && (!n.hi || lsB x n.t)
noncomputable def tstB (n:Nd) (c:Ent):Bool:=
 if n.kind=1∨n.kind=3 then true else if n.kind=4 then mtB n.s c.row else if n.kind=5 then mtB n.s c.fam else if n.kind=6 then mtB n.s c.qual else if n.kind=7 then mtB n.s c.val
 else if n.kind=8 then inS c.row n else if n.kind=9 then inS c.qual n else if n.kind=10 then decide (n.lo≤c.ts) && (!n.hi || decide (c.ts<n.up))else false
def colB (a b:Ent):Bool:=(a.fam.toList==b.fam.toList) && (a.qual.toList==b.qual.toList)
def befN (pre:List Ent) (c:Ent):Nat:=pre.countP fun x=>colB x c
noncomputable def keepB (n:Nd) (pre:List Ent) (c:Ent):Bool:=
 if n.kind=11 then decide ((befN pre c:Int)<n.n)else if n.kind=12 then decide ((pre.length:Int)<n.n)else if n.kind=13 then decide (n.n≤(pre.length:Int))else tstB n c
def stripE (n:Nd) (c:Ent):Ent:=if n.kind=3 then {c with val:=⟨#[]⟩}else c
noncomputable def leafG (n:Nd):List Ent→List Ent→List Ent
 |_,[]=> []
 |pre,c::cs=>if keepB n pre c then stripE n c::leafG n (pre++ [c]) cs else leafG n (pre++ [c]) cs
noncomputable def leafM (n:Nd) (row:List Ent):List Ent:=leafG n [] row
def uniM (a b:List Ent):List Ent:=a.foldl into (b.foldl into [])
noncomputable def mean:CT→List Ent→List Ent
 | .leaf n,row=>leafM n row
 | .chain _ a b,row=>mean b (mean a row)
 | .inter _ a b,row=>uniM (mean a row) (mean b row)
 | .cond _ p a b,row=>if mean p row= []then mean b row else mean a row
structure Sub (row l:List Ent):Prop where
 ord:Ord l
 key:∀x∈l,∃y∈row,keyCmp x y=0
 kind:∀x∈l,x.kind=0
 ok:∀x∈l,x.ok
theorem keyCmp_symm {a b:Ent} (h:keyCmp a b=0):keyCmp b a=0:=by rw[keyCmp_neg,h];rfl
theorem sub_len:∀{row l:List Ent},Ord row→Ord l→(∀x∈l,∃y∈row,keyCmp x y=0)→l.length≤row.length
 | [],l,_,_,h=>by
   match l,h with
   | [],_=>exact Nat.le_refl _
   |x::l,h=>obtain⟨y,hy,_⟩:=h x (by simp);simp at hy
 |y::row,[],_,_,_=>Nat.zero_le _
 |y::row,x::l,hr,hl,h=>by
  have hr':=List.pairwise_cons.1 hr
  have hl':=List.pairwise_cons.1 hl
  by_cases hz:keyCmp x y=0
  ·have:l.length≤row.length:=sub_len hr'.2 hl'.2 fun z hzl=>by
    obtain⟨u,hu,hk⟩:=h z (List.mem_cons_of_mem _ hzl)
    rcases List.mem_cons.1 hu with rfl|hu
    ·have h1:=hl'.1 z hzl
     have h2:keyCmp x z=0:=by
      have:=keyCmp_congr (c:=z) hz
      rw[this]
      exact keyCmp_symm hk
     omega
    ·exact⟨u,hu,hk⟩
   simpa using this
  ·have:(x::l).length≤row.length:=sub_len hr'.2 hl fun z hzl=>by
    obtain⟨u,hu,hk⟩:=h z hzl
    rcases List.mem_cons.1 hu with rfl|hu
    ·exfalso
     rcases List.mem_cons.1 hzl with rfl|hzl
     ·exact hz hk
     ·
      obtain⟨v,hv,hkv⟩:=h x (by simp)
      rcases List.mem_cons.1 hv with rfl|hv
      ·exact hz hkv
      ·have h1:=hl'.1 z hzl
       have h2:=hr'.1 v hv
       have h3:keyCmp x u= -1:=by
        have a1:=keyCmp_congr (c:=x) hk
        have a2:=keyCmp_neg z x
        have a3:=keyCmp_neg u x
        omega
       have h4:keyCmp u x= -1:=by
        have a1:=keyCmp_congr (c:=u) (keyCmp_symm hkv)
        have a2:=keyCmp_neg v u
        have a3:=keyCmp_neg u x
        have a4:=keyCmp_neg u v
        have a5:=keyCmp_neg x u
        omega
       have h5:=keyCmp_neg u x
       omega
    ·exact⟨u,hu,hk⟩
   exact Nat.le_succ_of_le this
theorem Sub.len {row l:List Ent} (h:Sub row l) (hr:Ord row):l.length≤row.length:=sub_len hr h.ord h.key
theorem Sub.trans {row l m:List Ent} (h:Sub row l) (k:Sub l m):Sub row m:=
 ⟨k.ord,fun x hx=>by
  obtain⟨y,hy,h1⟩:=k.key x hx
  obtain⟨z,hz,h2⟩:=h.key y hy
  exact⟨z,hz,by rw[keyCmp_congr h1];exact h2⟩,k.kind,k.ok⟩
theorem keyCmp_strip (n:Nd) (c d:Ent):keyCmp (stripE n c) d=keyCmp c d:=by unfold stripE;split<;>rfl
theorem keyCmp_strip' (n:Nd) (c d:Ent):keyCmp d (stripE n c)=keyCmp d c:=by unfold stripE;split<;>rfl
theorem leafG_mem (n:Nd):∀(cs pre:List Ent) (x:Ent),x∈leafG n pre cs→∃c∈cs,x=stripE n c
 | [],_,x,h=>by simp[leafG]at h
 |c::cs,pre,x,h=>by
  unfold leafG at h
  split at h
  ·rcases List.mem_cons.1 h with rfl|h
   ·exact⟨c,by simp,rfl⟩
   ·obtain⟨d,hd,e⟩:=leafG_mem n cs _ x h;exact⟨d,List.mem_cons_of_mem _ hd,e⟩
  ·obtain⟨d,hd,e⟩:=leafG_mem n cs _ x h;exact⟨d,List.mem_cons_of_mem _ hd,e⟩
theorem leafG_ord (n:Nd):∀(cs pre:List Ent),Ord cs→Ord (leafG n pre cs)
 | [],_,_=>List.Pairwise.nil
 |c::cs,pre,h=>by
  have h':=List.pairwise_cons.1 h
  unfold leafG
  split
  ·refine List.pairwise_cons.2 ⟨fun x hx=>?_,leafG_ord n cs _ h'.2⟩
   obtain⟨d,hd,rfl⟩:=leafG_mem n cs _ x hx
   rw[keyCmp_strip,keyCmp_strip']
   exact h'.1 d hd
  ·exact leafG_ord n cs _ h'.2
theorem strip_ok {n:Nd} {c:Ent} (h:c.ok):(stripE n c).ok:=by
 unfold stripE
 split
 ·exact⟨h.row,h.fam,h.qual,Nat.zero_le _,h.ts,h.kind⟩
 ·exact h
theorem leafM_sub (n:Nd) {row:List Ent} (h:Sub row row):Sub row (leafM n row):=by
 refine⟨leafG_ord n row [] h.ord,fun x hx=>?_,fun x hx=>?_,fun x hx=>?_⟩
 ·obtain⟨c,hc,rfl⟩:=leafG_mem n row [] x hx
  exact⟨c,hc,by rw[keyCmp_strip];exact keyCmp_self c⟩
 ·obtain⟨c,hc,rfl⟩:=leafG_mem n row [] x hx
  have:=h.kind c hc
  unfold stripE;split<;>exact this
 ·obtain⟨c,hc,rfl⟩:=leafG_mem n row [] x hx
  exact strip_ok (h.ok c hc)
theorem fold_into:∀(a L:List Ent),Ord L→Ord a→Ord (a.foldl into L)∧∀x,x∈a.foldl into L↔x∈a∨(x∈L∧∀y∈a,keyCmp x y≠0)
 | [],L,h,_=>⟨h,fun x=>by simp⟩
 |e::a,L,h,ha=>by
  have ha':=List.pairwise_cons.1 ha
  obtain⟨h1,h2⟩:=into_spec e L h
  obtain⟨h3,h4⟩:=fold_into a (into L e) h1 ha'.2
  refine⟨h3,fun x=>?_⟩
  show x∈a.foldl into (into L e)↔_
  have h5:x∈into L e↔x=e∨(x∈L∧keyCmp x e≠0):=h2 x
  rw[h4,h5]
  constructor
  ·rintro(h6|⟨rfl|⟨h6,h7⟩,h8⟩)
   ·exact .inl (List.mem_cons_of_mem _ h6)
   ·exact .inl (by simp)
   ·refine .inr ⟨h6,fun y hy=>?_⟩
    rcases List.mem_cons.1 hy with rfl|hy
    ·exact h7
    ·exact h8 y hy
  ·rintro(h6|⟨h6,h7⟩)
   ·rcases List.mem_cons.1 h6 with rfl|h6
    ·exact .inr ⟨.inl rfl,fun y hy q=>by have:=ha'.1 y hy;omega⟩
    ·exact .inl h6
   ·exact .inr ⟨.inr ⟨h6,h7 e (by simp)⟩,fun y hy=>h7 y (List.mem_cons_of_mem _ hy)⟩
theorem uniM_spec {a b:List Ent} (ha:Ord a) (hb:Ord b):Ord (uniM a b)∧∀x,x∈uniM a b↔x∈a∨(x∈b∧∀y∈a,keyCmp x y≠0):=by
 obtain⟨h1,h2⟩:=fold_into b [] List.Pairwise.nil hb
 obtain⟨h3,h4⟩:=fold_into a _ h1 ha
 refine⟨h3,fun x=>?_⟩
 show x∈a.foldl into (b.foldl into [])↔_
 rw[h4,h2]
 simp
theorem uniM_sub {row a b:List Ent} (ha:Sub row a) (hb:Sub row b):Sub row (uniM a b):=by
 obtain⟨h1,h2⟩:=uniM_spec ha.ord hb.ord
 refine⟨h1,fun x hx=>?_,fun x hx=>?_,fun x hx=>?_⟩
 ·rcases(h2 x).1 hx with h|h
  ·exact ha.key x h
  ·exact hb.key x h.1
 ·rcases(h2 x).1 hx with h|h
  ·exact ha.kind x h
  ·exact hb.kind x h.1
 ·rcases(h2 x).1 hx with h|h
  ·exact ha.ok x h
  ·exact hb.ok x h.1
theorem Sub.self {row l:List Ent} (h:Sub row l):Sub l l:=⟨h.ord,fun x hx=>⟨x,hx,keyCmp_self x⟩,h.kind,h.ok⟩
theorem mean_sub:∀(t:CT) {row:List Ent},Sub row row→Sub row (mean t row)
 | .leaf n,row,h=>leafM_sub n h
 | .chain _ a b,row,h=>(mean_sub a h).trans (mean_sub b (mean_sub a h).self)
 | .inter _ a b,row,h=>uniM_sub (mean_sub a h) (mean_sub b h)
 | .cond _ p a b,row,h=>by
   unfold mean
   split
   ·exact mean_sub b h
   ·exact mean_sub a h
def mrgU:Nat→List Ent→List Ent→List Ent
 |0,a,b=>a++b
 |_+1,[],b=>b
 |_+1,a,[]=>a
 |f+1,x::a,y::b=>if keyCmp x y=1 then y::mrgU f (x::a) b else if keyCmp x y=0 then x::mrgU f a b else x::mrgU f a (y::b)
theorem mrgU_nil (f:Nat) (b:List Ent):mrgU f [] b=b:=by cases f<;>simp[mrgU]
theorem mrgU_nilr (f:Nat) (a:List Ent):mrgU f a []=a:=by cases f<;>cases a<;>simp[mrgU]
theorem mrgU_spec:∀(f:Nat) (a b:List Ent),a.length+b.length≤f→Ord a→Ord b→Ord (mrgU f a b)∧∀x,x∈mrgU f a b↔x∈a∨(x∈b∧∀y∈a,keyCmp x y≠0)
 |f,[],b,_,_,hb=>by rw[mrgU_nil];exact⟨hb,fun x=>by simp⟩
 |f,a,[],_,ha,_=>by rw[mrgU_nilr];exact⟨ha,fun x=>by simp⟩
 |0,x::a,y::b,h,_,_=>by simp at h
 |f+1,x::a,y::b,h,ha,hb=>by
  have ha':=List.pairwise_cons.1 ha
  have hb':=List.pairwise_cons.1 hb
  simp only[List.length_cons]at h
  rcases keyCmp_vals x y with hc|hc|hc
  ·have e:mrgU (f+1) (x::a) (y::b)=x::mrgU f a (y::b):=by simp[mrgU,hc]
   obtain⟨i1,i2⟩:=mrgU_spec f a (y::b) (by simp;omega) ha'.2 hb
   rw[e]
   have hlt:∀z∈y::b,keyCmp x z= -1:=fun z hz=>by
    rcases List.mem_cons.1 hz with rfl|hz
    ·exact hc
    ·exact keyCmp_trans hc (hb'.1 z hz)
   refine⟨List.pairwise_cons.2 ⟨fun z hz=>?_,i1⟩,fun z=>?_⟩
   ·rcases(i2 z).1 hz with q|q
    ·exact ha'.1 z q
    ·exact hlt z q.1
   ·rw[List.mem_cons,i2]
    constructor
    ·rintro(rfl|q|⟨q,r⟩)
     ·exact .inl (by simp)
     ·exact .inl (List.mem_cons_of_mem _ q)
     ·refine .inr ⟨q,fun u hu=>?_⟩
      rcases List.mem_cons.1 hu with rfl|hu
      ·have h1:=hlt z q;have h2:=keyCmp_neg u z;omega
      ·exact r u hu
    ·rintro(q|⟨q,r⟩)
     ·rcases List.mem_cons.1 q with rfl|q
      ·exact .inl rfl
      ·exact .inr (.inl q)
     ·exact .inr (.inr ⟨q,fun u hu=>r u (List.mem_cons_of_mem _ hu)⟩)
  ·have e:mrgU (f+1) (x::a) (y::b)=x::mrgU f a b:=by simp[mrgU,hc]
   obtain⟨i1,i2⟩:=mrgU_spec f a b (by omega) ha'.2 hb'.2
   rw[e]
   have hlt:∀z∈b,keyCmp x z= -1:=fun z hz=>by rw[keyCmp_congr hc];exact hb'.1 z hz
   refine⟨List.pairwise_cons.2 ⟨fun z hz=>?_,i1⟩,fun z=>?_⟩
   ·rcases(i2 z).1 hz with q|q
    ·exact ha'.1 z q
    ·exact hlt z q.1
   ·rw[List.mem_cons,i2]
    constructor
    ·rintro(rfl|q|⟨q,r⟩)
     ·exact .inl (by simp)
     ·exact .inl (List.mem_cons_of_mem _ q)
     ·refine .inr ⟨List.mem_cons_of_mem _ q,fun u hu=>?_⟩
      rcases List.mem_cons.1 hu with rfl|hu
      ·have h1:=hlt z q;have h2:=keyCmp_neg u z;omega
      ·exact r u hu
    ·rintro(q|⟨q,r⟩)
     ·rcases List.mem_cons.1 q with rfl|q
      ·exact .inl rfl
      ·exact .inr (.inl q)
     ·rcases List.mem_cons.1 q with rfl|q
      ·exact absurd (keyCmp_symm hc) (r x (by simp))
      ·exact .inr (.inr ⟨q,fun u hu=>r u (List.mem_cons_of_mem _ hu)⟩)
  ·have e:mrgU (f+1) (x::a) (y::b)=y::mrgU f (x::a) b:=by simp[mrgU,hc]
   obtain⟨i1,i2⟩:=mrgU_spec f (x::a) b (by simp;omega) ha hb'.2
   have hyx:keyCmp y x= -1:=by have:=keyCmp_neg x y;omega
   rw[e]
   have hlt:∀z∈x::a,keyCmp y z= -1:=fun z hz=>by
    rcases List.mem_cons.1 hz with rfl|hz
    ·exact hyx
    ·exact keyCmp_trans hyx (ha'.1 z hz)
   refine⟨List.pairwise_cons.2 ⟨fun z hz=>?_,i1⟩,fun z=>?_⟩
   ·rcases(i2 z).1 hz with q|q
    ·exact hlt z q
    ·exact hb'.1 z q.1
   ·rw[List.mem_cons,i2]
    constructor
    ·rintro(rfl|q|⟨q,r⟩)
     ·exact .inr ⟨by simp,fun u hu=>by have:=hlt u hu;omega⟩
     ·exact .inl q
     ·exact .inr ⟨List.mem_cons_of_mem _ q,r⟩
    ·rintro(q|⟨q,r⟩)
     ·exact .inr (.inl q)
     ·rcases List.mem_cons.1 q with rfl|q
      ·exact .inl rfl
      ·exact .inr (.inr ⟨q,r⟩)
theorem mrgU_uni {f:Nat} {a b:List Ent} (hf:a.length+b.length≤f) (ha:Ord a) (hb:Ord b):mrgU f a b=uniM a b:=by
 obtain⟨h1,h2⟩:=mrgU_spec f a b hf ha hb
 obtain⟨h3,h4⟩:=uniM_spec ha hb
 exact ord_ext h1 h3 fun x=>by rw[h2,h4]
end Go.Proofs.YtkidabedcgngcaaGreatDoor
namespace Go.Proofs.YtkidabedcgngcaaGreatDoor
open Go.ChangeShapes Go.WideShapes Go.ChangeAt Go.RowKit Go.Deep
set_option linter.unusedVariables false
set_option linter.unusedSimpArgs false
abbrev Ent.five (e:Ent):List Value:= [.string e.row,.string e.fam,.string e.qual,.int .u64 e.ts,.string e.val]
abbrev Ent.c (e:Ent):Value:=.agg #[.string e.row,.string e.fam,.string e.qual,.int .u64 e.ts,.string e.val]
def cellsC (es:List Ent):List Value:=es.flatMap Ent.five
theorem cellsC_cons (e:Ent) (es:List Ent):cellsC (e::es)=e.five++cellsC es:=by simp[cellsC]
theorem cellsC_append (es fs:List Ent):cellsC (es++fs)=cellsC es++cellsC fs:=by simp[cellsC]
theorem length_cellsC (es:List Ent):(cellsC es).length=es.length*5:=by
 induction es with
 |nil=>rfl
 |cons e es ih=>rw[cellsC_cons,List.length_append,ih];simp;omega
theorem cellsC_get (es:List Ent):∀(k:Nat) (e:Ent),es[k]?=some e→∀j,j<5→(cellsC es)[k*5+j]?=e.five[j]?:=by
 induction es with
 |nil=>intro k e h;simp at h
 |cons f es ih=>
  intro k e h j hj
  rw[cellsC_cons]
  cases k with
  |zero=>
   simp at h;subst h
   rw[List.getElem?_append_left (by show 0*5+j<5;omega)]
   simp
  |succ k=>
   simp at h
   rw[List.getElem?_append_right (by show 5≤(k+1)*5+j;omega)]
   have:(k+1)*5+j-f.five.length=k*5+j:=by show(k+1)*5+j-5=_;omega
   rw[this];exact ih k e h j hj
theorem cellsC_set (es:List Ent):∀(k:Nat) (e e':Ent) (u:Value) (j:Nat),es[k]?=some e→j<5→e'.five=e.five.set j u→(cellsC es).set (k*5+j) u=cellsC (es.set k e'):=by
 induction es with
 |nil=>intro k e e' u j h;simp at h
 |cons f es ih=>
  intro k e e' u j h hj hc
  rw[cellsC_cons]
  cases k with
  |zero=>
   simp at h;subst h
   rw[List.set_append_left _ _ (by show 0*5+j<5;omega),List.set_cons_zero,cellsC_cons,hc]
   simp
  |succ k=>
   simp at h
   rw[List.set_append_right _ _ (by show 5≤(k+1)*5+j;omega),List.set_cons_succ,cellsC_cons]
   have:(k+1)*5+j-f.five.length=k*5+j:=by show(k+1)*5+j-5=_;omega
   rw[this,ih k e e' u j h hj hc]
def CelsAt (w:World) (b off:Nat) (es:List Ent):Prop:=
 ∀i e,es[i]?=some e→w.cell? ⟨b,off+i*5,none⟩=some (.string e.row)∧w.cell? ⟨b,off+i*5+1,none⟩=some (.string e.fam)∧w.cell? ⟨b,off+i*5+2,none⟩=some (.string e.qual)∧
  w.cell? ⟨b,off+i*5+3,none⟩=some (.int .u64 e.ts)∧w.cell? ⟨b,off+i*5+4,none⟩=some (.string e.val)
theorem CelsAt.below {B:Nat} {w w':World} {b off:Nat} {es:List Ent} (h:CelsAt w b off es) (hb:Below B w w') (hlt:b<B):CelsAt w' b off es:=by
 intro i e he
 have:=h i e he
 refine⟨?_,?_,?_,?_,?_⟩
 all_goals rw[hb.cell (by exact hlt)]
 ·exact this.1
 ·exact this.2.1
 ·exact this.2.2.1
 ·exact this.2.2.2.1
 ·exact this.2.2.2.2
def OwnC (w:World) (base g cap:Nat) (es:List Ent):Prop:=w.ownsRow base 55 5 (.slice (some ⟨g,0,none⟩) es.length cap) es.length (cellsC es)
theorem OwnC.at {w:World} {base g cap:Nat} {es:List Ent} (h:OwnC w base g cap es):CelsAt w g 0 es:=by
 intro i e he
 have hi:i<es.length:=(List.getElem?_eq_some_iff.1 he).1
 have c:=fun j (hj:j<5)=>(World.ownsRow.cellAt h (i*5+j) (by omega)).trans (cellsC_get es i e he j hj)
 refine⟨?_,?_,?_,?_,?_⟩
 ·simpa using c 0 (by omega)
 ·simpa using c 1 (by omega)
 ·simpa using c 2 (by omega)
 ·simpa using c 3 (by omega)
 ·simpa using c 4 (by omega)
theorem OwnC.lt {w:World} {base g cap:Nat} {es:List Ent} (h:OwnC w base g cap es):base≤g∧g<w.heap.size:=World.ownsRow.lt h g rfl
theorem OwnC.below {B:Nat} {w w':World} {base g cap:Nat} {es:List Ent} (h:OwnC w base g cap es) (hb:Below B w w') (hg:g<B):OwnC w' base g cap es:=by
 exact zzQ21
theorem OwnC.set {w:World} {base g cap:Nat} {es:List Ent} (h:OwnC w base g cap es) (k j:Nat) (e e':Ent) (u:Value) (hk:es[k]?=some e) (hj:j<5) (hc:e'.five=e.five.set j u):
  OwnC (w.setCell ⟨g,k*5+j,none⟩ u) base g cap (es.set k e'):=by
 have:=(World.ownsRow.stored h (k*5+j) u).1
 rw[cellsC_set es k e e' u j hk hj hc]at this
 unfold OwnC
 rw[List.length_set]
 exact this
theorem OwnC.upd {w:World} {base g cap m j:Nat} {fs:List Ent} {f f':Ent} {u:Value} (h:OwnC w base g cap (fs.set m f)) (hm:m<fs.length) (hj:j<5) (hc:f'.five=f.five.set j u):
  OwnC (w.setCell ⟨g,m*5+j,none⟩ u) base g cap (fs.set m f'):=by
 have:=h.set m j f f' u (by simp[hm]) hj hc
 rwa [List.set_set]at this
theorem OwnC.mono {w:World} {base base' g cap:Nat} {es:List Ent} (h:OwnC w base g cap es) (hb:base'≤base):OwnC w base' g cap es:=by
 exact zzQ49
theorem OwnC.kept {w w':World} {base g cp:Nat} {fs:List Ent} {row:Option Nat} (h:OwnC w base g cp fs) (hg:w.grownBy w' row) (hne:some g≠row):OwnC w' base g cp fs:=
 World.ownsRow.kept h hg (.inr hne)
theorem OwnC.caps {w:World} {base g cp:Nat} {R:List Ent} (h:OwnC w base g cp R):R.length≤cp∧cp≤maxLen:=by
 exact zzQ12
theorem ownC_new (w:World):OwnC (w.alloc (Obj.cells #[] 55)) w.heap.size w.heap.size 0 []:=World.ownsRow_made w #[] 0 (Nat.le_refl _) (Nat.zero_le _) (by simp)
theorem Tryz.infoCel:(Tryz.prog.info? 55).map (fun i=>(i.zero,i.size,i.bytes))=some (some (.agg #[.string ⟨#[]⟩,.string ⟨#[]⟩,.string ⟨#[]⟩,.int .u64 0,.string ⟨#[]⟩]),5,72):=by kernel_rfl
theorem cel_new (wx:World) (f:Ent):CelsAt (wx.alloc (Obj.cells #[.string f.row,.string f.fam,.string f.qual,.int .u64 f.ts,.string f.val] 55)) wx.heap.size 0 [f]:=by
 exact zzQ42
theorem wpList_append_cel {ops:Array Oper} {rest:List Oper} {o:Oper} {a:Act} {Q:Exit→Act→World→Prop} (w:World) (hgd:o.guard=none) (s x:Operand)
  (ho:o.op=.call {callee:=.builtin .append,args:=#[s,x],argTypes:=#[28,28]})
  (base g cp n blk:Nat) (fs:List Ent) (e:Ent) (hs:a.eval s=.slice (some ⟨g,0,none⟩) n cp) (hx:a.eval x=.slice (some ⟨blk,0,none⟩) 1 1) (hn:n=fs.length) (hO:OwnC w base g cp fs)
  (hc:CelsAt w blk 0 [e]) (hlen:fs.length≤2^30) (hbase:base≤w.heap.size)
  (h:∀g' cp' w',OwnC w' base g' cp' (fs++ [e])→w.grownBy w' (some g)→wpList Tryz.prog ops Q rest (a.put o.dst (.slice (some ⟨g',0,none⟩) (n+1) cp')) w'):wpList Tryz.prog ops Q (o::rest) a w:=by
 obtain⟨i,hi,hz0,hz1,hz2⟩:=info_parts Tryz.infoCel
 subst hn
 obtain⟨c0,c1,c2,c3,c4⟩:=hc 0 e rfl
 refine wpList_append_own w hgd s x 28 ho base 55 i _ 5 72 Tryz.underlying28 hi hz0 hz1 hz2 rfl (by decide) (.slice (some ⟨g,0,none⟩) fs.length cp) fs.length (cellsC fs) hs hO ⟨blk,0,none⟩ 1 1 (cellsC [e]) hx rfl ?_ ?_ ?_ ?_ hbase ?_
 ·intro j u hu
  have hj:j<5:=by
   have:=(List.getElem?_eq_some_iff.1 hu).1
   rw[length_cellsC]at this
   simpa using this
  rw[Addr.add_mid,Nat.zero_add]
  simp only[Nat.zero_mul,Nat.zero_add]at c0 c1 c2 c3 c4
  match j,hj,hu with
  |0,_,hu=>simp[cellsC]at hu;rw[←hu];exact c0
  |1,_,hu=>simp[cellsC]at hu;rw[←hu];exact c1
  |2,_,hu=>simp[cellsC]at hu;rw[←hu];exact c2
  |3,_,hu=>simp[cellsC]at hu;rw[←hu];exact c3
  |4,_,hu=>simp[cellsC]at hu;rw[←hu];exact c4
 ·intro u hu
  simp[cellsC]at hu
  rcases hu with rfl|rfl|rfl|rfl|rfl<;>rfl
 ·unfold maxLen;omega
 ·omega
 ·intro v' w' hown hgr hnil
  rw[←cellsC_append]at hown
  have hlen':(fs++ [e]).length=fs.length+1:=by simp
  exact zzQ65
set_option maxHeartbeats 400000 in
theorem specCell_any (e:Ent) (w:World):
  Calls Tryz.prog 114 #[e.v] w fun r w'=>r=.returned e.c∧Below w.heap.size w w':=by
 unfold Ent.v
 go_enter Tryz.func114,Tryz.ntmps114
 go_wp2
 refine bodyPost_ret (v:=e.c) (by simp[results,Tryz.results114,go_sem]) rfl ⟨rfl,?_⟩
 exact(qB).alloc (by simp) _
set_option maxHeartbeats 400000 in
theorem eqCell_same (a:Ent) (w:World):
  Calls Tryz.prog 33 #[a.c,a.c] w fun e w'=>e=.returned (.bool true)∧Below w.heap.size w w':=by
 unfold Ent.c
 go_enter Tryz.func33,Tryz.ntmps33
 go_wp2
 go_ret
 exact⟨rfl,(qB).alloc (by simp) _⟩
set_option maxHeartbeats 1000000 in
theorem eqCellS_same (b off cap b' off' cap':Nat) (es:List Ent) (w:World) (hE:CelsAt w b off es) (hE':CelsAt w b' off' es) (hB:b<w.heap.size) (hB':b'<w.heap.size) (hlen:es.length≤maxLen):
  Calls Tryz.prog 11 #[.slice (some ⟨b,off,none⟩) es.length cap,.slice (some ⟨b',off',none⟩) es.length cap'] w fun e w'=>
   e=.returned (.bool true)∧Below w.heap.size w w':=by
 have HE:Hid (CelsAt w b off es∧CelsAt w b' off' es):=⟨hE,hE'⟩
 clear hE hE'
 unfold maxLen at hlen
 go_enter Tryz.func11,Tryz.ntmps11
 go_wp2
 go_loopw[5] (fun i wr=>∃(k:Nat),k≤es.length∧i=.int .i64 k∧Below w.heap.size w wr) (fun i _=>es.length-(intOf i).toNat)
 case atStart=>exact⟨0,Nat.zero_le _,rfl,Below.refl _ _⟩
 case round=>
  obtain⟨k,hk,rfl,hb⟩:=hrel
  have hs2:=hb.size
  by_cases hlt:k<es.length
  ·obtain⟨e,he⟩:∃e,es[k]?=some e:=⟨_,List.getElem?_eq_getElem hlt⟩
   obtain⟨c0,c1,c2,c3,c4⟩:=HE.1.below hb hB k e he
   obtain⟨d0,d1,d2,d3,d4⟩:=HE.2.below hb hB' k e he
   clear he
   go_upto_region 6 with fail
   go_cut[26] (fun s wx=>s=.bool false∧Below w.heap.size w wx)
   case first=>
    have z2:(k:Int)<(es.length:Int):=by omega
    go_region_with (go_at_call 33;refine(eqCell_same e _).mono ?_;rintro e' w' ⟨rfl,hbb⟩)
    all_goals go_wp2_with fail
    all_goals go_meet
    all_goals exact⟨rfl,hb.drew.trans (hbb.mono (by simp;omega))⟩
   case rest=>
   obtain⟨rfl,h3⟩:=hcut
   clear c0 c1 c2 c3 c4 d0 d1 d2 d3 d4
   go_wp2_with fail
   go_roundw
   case rel=>exact⟨k+1,by omega,by go_num,h3⟩
   case measure=>simp[intOf];omega
  ·go_wp2_with fail
   go_ret
   exact⟨rfl,hb⟩
theorem eqCellS_own {w:World} {base g cp base' g' cp':Nat} {es:List Ent} (h:OwnC w base g cp es) (h':OwnC w base' g' cp' es):
  Calls Tryz.prog 11 #[.slice (some ⟨g,0,none⟩) es.length cp,.slice (some ⟨g',0,none⟩) es.length cp'] w fun e w'=>e=.returned (.bool true)∧Below w.heap.size w w':=
 eqCellS_same g 0 cp g' 0 cp' es w h.at h'.at h.lt.2 h'.lt.2 (Nat.le_trans h.caps.1 h.caps.2)
end Go.Proofs.YtkidabedcgngcaaGreatDoor
namespace Go.Proofs.YtkidabedcgngcaaGreatDoor
open Go.ChangeShapes Go.WideShapes Go.ChangeAt Go.RowKit Go.Deep
set_option linter.unusedVariables false
set_option linter.unusedSimpArgs false
set_option maxRecDepth 100000
set_option maxHeartbeats 1000000 in
theorem inStr_core (x:ByteArray) (n:Nd) (w:World):Calls Tryz.prog 149 #[.string x,n.v] w fun e w'=>e=.returned (.bool (inS x n))∧Below w.heap.size w w':=by
 obtain⟨k,s,hi,t,lo,up,nn⟩:=n
 unfold inS lsB
 cases h1:Op.bytesLess x.toList s.toList<;>cases hi<;>cases h3:Op.bytesLess x.toList t.toList
 all_goals go_enter Tryz.func149,Tryz.ntmps149
 all_goals go_wp2_with fail
 all_goals go_ret
 all_goals exact⟨rfl,qB⟩
theorem specMt_core (p s:ByteArray) (w:World) (hp:p.size≤maxLen):Calls Tryz.prog 148 #[.string p,.string s] w fun e w'=>e=.returned (.bool (mtB p s))∧Below w.heap.size w w':=by
 refine(specMatch_core p s w hp).mono ?_
 rintro e w' ⟨b,rfl,H⟩
 rw[mtB_eq H.2]
 exact⟨rfl,H.1⟩
set_option maxHeartbeats 4000000 in
theorem l5Test_core (n:Nd) (c:Ent) (w:World) (hs:n.s.size≤maxLen):Calls Tryz.prog 124 #[n.v,c.c] w fun e w'=>e=.returned (.bool (tstB n c))∧Below w.heap.size w w':=by
 obtain⟨k,s,hi,t,lo,up,nn⟩:=n
 have HM:Hid (∀(x:ByteArray) (w:World),Calls Tryz.prog 148 #[.string s,.string x] w fun e w'=>e=.returned (.bool (mtB s x))∧Below w.heap.size w w'):=fun x w=>specMt_core s x w hs
 have HS:Hid (∀(x:ByteArray) (w:World),Calls Tryz.prog 149 #[.string x,.agg #[.int .i64 k,.string s,.bool hi,.string t,.int .u64 lo,.int .u64 up,.int .i64 nn]] w fun e w'=>e=.returned (.bool (inS x ⟨k,s,hi,t,lo,up,nn⟩))∧Below w.heap.size w w'):=fun x w=>inStr_core x _ w
 have HB:Hid (∀wx:World,Below w.heap.size w wx→Below w.heap.size w wx):=fun _ h=>h
 obtain⟨res,hres⟩:=qE (tstB ⟨k,s,hi,t,lo,up,nn⟩ c)
 have HR:Hid (res=tstB ⟨k,s,hi,t,lo,up,nn⟩ c):=hres
 rw[←hres]
 obtain⟨W2,hW2⟩:=qE ((w.alloc (.cells #[.int .i64 k,.string s,.bool hi,.string t,.int .u64 lo,.int .u64 up,.int .i64 nn] 75)).alloc (.cells #[.string c.row,.string c.fam,.string c.qual,.int .u64 c.ts,.string c.val] 55):World)
 have HW2:Hid (Below w.heap.size w W2):=by rw[hW2];exact(qB).alloc (by simp) _
 clear hres hs
 by_cases h1:k=1
 ·subst h1
  have hv:res=true:=HR.trans (by simp[tstB])
  exact zzQ57
 have b1:(k==1)=false:=by rw[beq_eq_false_iff_ne];exact h1
 by_cases h3:k=3
 ·subst h3
  have hv:res=true:=HR.trans (by simp[tstB])
  exact zzQ57
 have b3:(k==3)=false:=by rw[beq_eq_false_iff_ne];exact h3
 by_cases h4:k=4
 ·subst h4
  have hv:res=mtB s c.row:=HR.trans (by simp[tstB])
  go_enter Tryz.func124,Tryz.ntmps124
  go_wp2_with fail
  rw[←hW2]
  clear hW2
  refine(HM.out c.row W2).mono ?_
  exact zzQ14
 have b4:(k==4)=false:=by rw[beq_eq_false_iff_ne];exact h4
 by_cases h5:k=5
 ·subst h5
  have hv:res=mtB s c.fam:=HR.trans (by simp[tstB])
  go_enter Tryz.func124,Tryz.ntmps124
  go_wp2_with fail
  rw[←hW2]
  clear hW2
  refine(HM.out c.fam W2).mono ?_
  exact zzQ14
 have b5:(k==5)=false:=by rw[beq_eq_false_iff_ne];exact h5
 by_cases h6:k=6
 ·subst h6
  have hv:res=mtB s c.qual:=HR.trans (by simp[tstB])
  go_enter Tryz.func124,Tryz.ntmps124
  go_wp2_with fail
  rw[←hW2]
  clear hW2
  refine(HM.out c.qual W2).mono ?_
  exact zzQ14
 have b6:(k==6)=false:=by rw[beq_eq_false_iff_ne];exact h6
 by_cases h7:k=7
 ·subst h7
  have hv:res=mtB s c.val:=HR.trans (by simp[tstB])
  go_enter Tryz.func124,Tryz.ntmps124
  go_wp2_with fail
  rw[←hW2]
  clear hW2
  refine(HM.out c.val W2).mono ?_
  exact zzQ14
 have b7:(k==7)=false:=by rw[beq_eq_false_iff_ne];exact h7
 by_cases h8:k=8
 ·subst h8
  have hv:res=inS c.row ⟨8,s,hi,t,lo,up,nn⟩:=HR.trans (by simp[tstB])
  go_enter Tryz.func124,Tryz.ntmps124
  go_wp2_with fail
  rw[←hW2]
  clear hW2
  refine(HS.out c.row W2).mono ?_
  exact zzQ14
 have b8:(k==8)=false:=by rw[beq_eq_false_iff_ne];exact h8
 by_cases h9:k=9
 ·subst h9
  have hv:res=inS c.qual ⟨9,s,hi,t,lo,up,nn⟩:=HR.trans (by simp[tstB])
  go_enter Tryz.func124,Tryz.ntmps124
  go_wp2_with fail
  rw[←hW2]
  clear hW2
  refine(HS.out c.qual W2).mono ?_
  exact zzQ14
 have b9:(k==9)=false:=by rw[beq_eq_false_iff_ne];exact h9
 by_cases h10:k=10
 ·subst h10
  have hv:res=(decide (lo≤c.ts) && (!hi || decide (c.ts<up))):=HR.trans (by simp[tstB])
  subst hv
  by_cases g1:lo≤c.ts<;>cases hi<;>by_cases g2:c.ts<up
  all_goals simp only[g1,g2,decide_true,decide_false,Bool.not_true,Bool.not_false,Bool.true_and,Bool.false_and,Bool.true_or,Bool.false_or]
  all_goals go_enter Tryz.func124,Tryz.ntmps124
  all_goals go_wp2_with fail
  all_goals go_ret
  all_goals exact⟨rfl,(qB).alloc (by simp) _⟩
 have b10:(k==10)=false:=by rw[beq_eq_false_iff_ne];exact h10
 have hv:res=false:=HR.trans (by simp[tstB,h1,h3,h4,h5,h6,h7,h8,h9,h10])
 exact zzQ57
structure CSl (w:World) (b off cap:Nat) (es:List Ent):Prop where
 at_:CelsAt w b off es
 lt:b<w.heap.size
 len:es.length≤cap
 cap:cap≤maxLen
theorem CelsAt.chg {S:Nat→Prop} {w w':World} {b off:Nat} {es:List Ent} (h:CelsAt w b off es) (hc:Chg S w w') (hb:b<w.heap.size) (hn:¬S b):CelsAt w' b off es:=by
 intro i e he
 obtain⟨h0,h1,h2,h3,h4⟩:=h i e he
 exact⟨by rw[hc.cell (p:=⟨b,off+i*5,none⟩) hb hn];exact h0,by rw[hc.cell (p:=⟨b,off+i*5+1,none⟩) hb hn];exact h1,by rw[hc.cell (p:=⟨b,off+i*5+2,none⟩) hb hn];exact h2,by rw[hc.cell (p:=⟨b,off+i*5+3,none⟩) hb hn];exact h3,by rw[hc.cell (p:=⟨b,off+i*5+4,none⟩) hb hn];exact h4⟩
theorem CSl.chg {S:Nat→Prop} {w w':World} {b off cap:Nat} {es:List Ent} (h:CSl w b off cap es) (hc:Chg S w w') (hn:¬S b):CSl w' b off cap es:=⟨h.at_.chg hc h.lt hn,Nat.lt_of_lt_of_le h.lt hc.size,h.len,h.cap⟩
theorem CSl.below {w w':World} {b off cap:Nat} {es:List Ent} (h:CSl w b off cap es) (hb:Below w.heap.size w w'):CSl w' b off cap es:=h.chg (S:=fun _=>False) (Chg.of_below hb) (fun q=>q)
theorem OwnC.sl {w:World} {base g cap:Nat} {es:List Ent} (h:OwnC w base g cap es):CSl w g 0 cap es:=⟨h.at,h.lt.2,h.caps.1,h.caps.2⟩
theorem CSl.drop {w:World} {b off cap:Nat} {es:List Ent} (h:CSl w b off cap es) {k:Nat} (hk:k≤es.length):CSl w b (off+k*5) (cap-k) (es.drop k):=by
 refine⟨fun i e he=>?_,h.lt,by rw[List.length_drop];have:=h.len;omega,by have:=h.cap;omega⟩
 rw[List.getElem?_drop]at he
 have:=h.at_ (k+i) e he
 rw[show off+(k+i)*5=off+k*5+i*5 by omega]at this
 exact this
theorem CSl.take {w:World} {b off cap:Nat} {es:List Ent} (h:CSl w b off cap es) {k:Nat} (hk:k≤es.length):CSl w b off cap (es.take k):=by
 refine⟨fun i e he=>?_,h.lt,by rw[List.length_take];have:=h.len;omega,h.cap⟩
 rw[List.getElem?_take]at he
 split at he
 ·exact h.at_ i e he
 ·cases he
theorem befN_succ {es:List Ent} {j:Nat} {x c:Ent} (h:es[j]?=some x):befN (es.take (j+1)) c=befN (es.take j) c+(if colB x c then 1 else 0):=by
 unfold befN
 rw[List.take_add_one,h,Option.toList_some,List.countP_append]
 simp[List.countP_cons]
set_option maxHeartbeats 4000000 in
theorem before_core {w:World} {b off cap:Nat} {es:List Ent} (h:CSl w b off cap es) {i:Nat} {c:Ent} (hi:es[i]?=some c) (hl:es.length≤1048576):Calls Tryz.prog 125 #[.slice (some ⟨b,off,none⟩) es.length cap,.int .i64 (i:Int)] w fun e w'=>e=.returned (.int .i64 (befN (es.take i) c:Int))∧Below w.heap.size w w':=by
 obtain⟨n,hn⟩:=qE es.length
 have hin:i<n:=by rw[hn];exact(List.getElem?_eq_some_iff.1 hi).1
 have HL:Hid (CSl w b off cap es∧n=es.length∧es[i]?=some c):=⟨h,hn,hi⟩
 rw[←hn]
 rw[←hn]at hl
 clear h hn hi
 go_enter Tryz.func125,Tryz.ntmps125
 go_wp2_with fail
 go_loopw[5,6] (fun kv jv wr=>∃(j:Nat),j≤i∧jv=.int .i64 (j:Int)∧kv=.int .i64 (befN (es.take j) c:Int)∧Hid (Below w.heap.size w wr)) (fun _ jv _=>i-(intOf jv).toNat)
 case atStart=>exact⟨0,Nat.zero_le _,rfl,rfl,Below.refl _ _⟩
 case round=>
  obtain⟨j,hj,rfl,rfl,HB⟩:=hrel
  obtain⟨m,hm⟩:=qE (befN (es.take j) c)
  have HM:Hid (m=befN (es.take j) c):=hm
  have hml:m≤1048576:=by
   rw[hm]
   refine Nat.le_trans List.countP_le_length ?_
   rw[List.length_take]
   omega
  rw[←hm]
  clear hm
  by_cases hlt:j<i
  ·have zj:(j:Int)<(i:Int):=by omega
   have zjn:(j:Int)<(n:Int):=by omega
   have zin:(i:Int)<(n:Int):=by omega
   obtain⟨x,hx⟩:∃x,es[j]?=some x:=⟨_,List.getElem?_eq_getElem (by have:=HL.2.1;omega)⟩
   have hC:=HL.1.below HB.out
   obtain⟨-,f1,f2,-,-⟩:=hC.at_ j x hx
   obtain⟨-,g1,g2,-,-⟩:=hC.at_ i c HL.2.2
   have hS0:(fun w':World=>w'.cell? ⟨b,off+j*5+1,none⟩=some (.string x.fam)∧w'.cell? ⟨b,off+j*5+2,none⟩=some (.string x.qual)∧w'.cell? ⟨b,off+i*5+1,none⟩=some (.string c.fam)∧w'.cell? ⟨b,off+i*5+2,none⟩=some (.string c.qual)) wr.drew:=⟨f1,f2,g1,g2⟩
   have HBd:Hid (Below w.heap.size w wr.drew):=HB.trans (((Below.refl _ _).drew).mono HB.size)
   have HN:Hid (befN (es.take (j+1)) c=m+(if colB x c then 1 else 0)):=by rw[HM.out];exact befN_succ hx
   clear f1 f2 g1 g2 hC hx
   cases hf:(x.fam.toList==c.fam.toList)
   ·have HN2:Hid (befN (es.take (j+1)) c=m):=by
     show _=_
     have:=HN.out
     unfold colB at this
     rw[hf]at this
     simpa using this
    go_upto_region 5 with fail
    refine wp_region_T 99 (fun w':World=>w'.cell? ⟨b,off+j*5+1,none⟩=some (.string x.fam)∧w'.cell? ⟨b,off+j*5+2,none⟩=some (.string x.qual)∧w'.cell? ⟨b,off+i*5+1,none⟩=some (.string c.fam)∧w'.cell? ⟨b,off+i*5+2,none⟩=some (.string c.qual)) (by kernel_rfl) ?_
    refine qT 0 ?vba0 rfl ?yba0 hS0 ?_
    case yba0=>exact zzR0
    try simp only[qA,List.getElem_toArray,List.getElem_cons_zero,List.getElem_cons_succ]
    refine qT 1 ?vba1 rfl ?yba1 hS0 ?_
    case yba1=>exact zzR0
    try simp only[qA,List.getElem_toArray,List.getElem_cons_zero,List.getElem_cons_succ]
    refine qT 2 ?vba2 rfl ?yba2 hS0 ?_
    case yba2=>exact zzR0
    try simp only[qA,List.getElem_toArray,List.getElem_cons_zero,List.getElem_cons_succ]
    refine qT 3 ?vba3 rfl ?yba3 hS0 ?_
    case yba3=>exact zzR0
    try simp only[qA,List.getElem_toArray,List.getElem_cons_zero,List.getElem_cons_succ]
    refine qT 4 ?vba4 rfl ?yba4 hS0 ?_
    case yba4=>exact zzR0
    try simp only[qA,List.getElem_toArray,List.getElem_cons_zero,List.getElem_cons_succ]
    refine qT 5 ?vba5 rfl ?yba5 hS0 ?_
    case yba5=>exact zzR0
    try simp only[qA,List.getElem_toArray,List.getElem_cons_zero,List.getElem_cons_succ]
    refine qT 6 ?vba6 rfl ?yba6 hS0 ?_
    case yba6=>exact zzR0
    try simp only[qA,List.getElem_toArray,List.getElem_cons_zero,List.getElem_cons_succ]
    refine qT 7 ?vba7 rfl ?yba7 hS0 ?_
    case yba7=>exact zzR0
    try simp only[qA,List.getElem_toArray,List.getElem_cons_zero,List.getElem_cons_succ]
    refine qT 8 ?vba8 rfl ?yba8 hS0 ?_
    case yba8=>exact zzR0
    try simp only[qA,List.getElem_toArray,List.getElem_cons_zero,List.getElem_cons_succ]
    refine qT 9 ?vba9 rfl ?yba9 hS0 ?_
    case yba9=>exact zzR0
    try simp only[qA,List.getElem_toArray,List.getElem_cons_zero,List.getElem_cons_succ]
    refine qT 10 ?vba10 rfl ?yba10 hS0 ?_
    case yba10=>exact zzR0
    try simp only[qA,List.getElem_toArray,List.getElem_cons_zero,List.getElem_cons_succ]
    refine qT 11 ?vba11 rfl ?yba11 hS0 ?_
    case yba11=>exact zzR0
    try simp only[qA,List.getElem_toArray,List.getElem_cons_zero,List.getElem_cons_succ]
    refine anyT_takeN (i:=12) (v:=undef) rfl (by kernel_rfl) (by kernel_rfl) (by kernel_rfl) (by rfl) (fun _ _ _ h=>h) (Or.inr ⟨by rfl,rfl⟩) hS0 ?_
    try simp only[qA,List.getElem_toArray,List.getElem_cons_zero,List.getElem_cons_succ]
    refine anyT_takeN (i:=13) (v:=undef) rfl (by kernel_rfl) (by kernel_rfl) (by kernel_rfl) (by rfl) (fun _ _ _ h=>h) (Or.inr ⟨by rfl,rfl⟩) hS0 ?_
    try simp only[qA,List.getElem_toArray,List.getElem_cons_zero,List.getElem_cons_succ]
    refine anyT_takeN (i:=14) (v:=undef) rfl (by kernel_rfl) (by kernel_rfl) (by kernel_rfl) (by rfl) (fun _ _ _ h=>h) (Or.inr ⟨by rfl,rfl⟩) hS0 ?_
    try simp only[qA,List.getElem_toArray,List.getElem_cons_zero,List.getElem_cons_succ]
    refine anyT_takeN (i:=15) (v:=undef) rfl (by kernel_rfl) (by kernel_rfl) (by kernel_rfl) (by rfl) (fun _ _ _ h=>h) (Or.inr ⟨by rfl,rfl⟩) hS0 ?_
    try simp only[qA,List.getElem_toArray,List.getElem_cons_zero,List.getElem_cons_succ]
    refine anyT_takeN (i:=16) (v:=undef) rfl (by kernel_rfl) (by kernel_rfl) (by kernel_rfl) (by rfl) (fun _ _ _ h=>h) (Or.inr ⟨by rfl,rfl⟩) hS0 ?_
    try simp only[qA,List.getElem_toArray,List.getElem_cons_zero,List.getElem_cons_succ]
    refine anyT_takeN (i:=17) (v:=undef) rfl (by kernel_rfl) (by kernel_rfl) (by kernel_rfl) (by rfl) (fun _ _ _ h=>h) (Or.inr ⟨by rfl,rfl⟩) hS0 ?_
    try simp only[qA,List.getElem_toArray,List.getElem_cons_zero,List.getElem_cons_succ]
    refine anyT_takeN (i:=18) (v:=undef) rfl (by kernel_rfl) (by kernel_rfl) (by kernel_rfl) (by rfl) (fun _ _ _ h=>h) (Or.inr ⟨by rfl,rfl⟩) hS0 ?_
    try simp only[qA,List.getElem_toArray,List.getElem_cons_zero,List.getElem_cons_succ]
    refine anyT_takeN (i:=19) (v:=undef) rfl (by kernel_rfl) (by kernel_rfl) (by kernel_rfl) (by rfl) (fun _ _ _ h=>h) (Or.inr ⟨by rfl,rfl⟩) hS0 ?_
    try simp only[qA,List.getElem_toArray,List.getElem_cons_zero,List.getElem_cons_succ]
    refine anyT_takeN (i:=20) (v:=undef) rfl (by kernel_rfl) (by kernel_rfl) (by kernel_rfl) (by rfl) (fun _ _ _ h=>h) (Or.inr ⟨by rfl,rfl⟩) hS0 ?_
    try simp only[qA,List.getElem_toArray,List.getElem_cons_zero,List.getElem_cons_succ]
    refine anyT_takeN (i:=21) (v:=undef) rfl (by kernel_rfl) (by kernel_rfl) (by kernel_rfl) (by rfl) (fun _ _ _ h=>h) (Or.inr ⟨by rfl,rfl⟩) hS0 ?_
    try simp only[qA,List.getElem_toArray,List.getElem_cons_zero,List.getElem_cons_succ]
    refine anyT_takeN (i:=22) (v:=undef) rfl (by kernel_rfl) (by kernel_rfl) (by kernel_rfl) (by rfl) (fun _ _ _ h=>h) (Or.inr ⟨by rfl,rfl⟩) hS0 ?_
    try simp only[qA,List.getElem_toArray,List.getElem_cons_zero,List.getElem_cons_succ]
    refine qT 23 ?vba23 rfl ?yba23 hS0 ?_
    case yba23=>exact zzR0
    try simp only[qA,List.getElem_toArray,List.getElem_cons_zero,List.getElem_cons_succ]
    refine qD ?_
    go_wp2_with fail
    go_roundw
    case rel=>exact⟨j+1,by omega,by go_num,by rw[HN2.out],HBd.out⟩
    case measure=>go_light;simp[intOf];omega
   ·cases hq:(x.qual.toList==c.qual.toList)
    ·have HN2:Hid (befN (es.take (j+1)) c=m):=by
      show _=_
      have:=HN.out
      unfold colB at this
      rw[hf,hq]at this
      simpa using this
     go_upto_region 5 with fail
     refine wp_region_T 99 (fun w':World=>w'.cell? ⟨b,off+j*5+1,none⟩=some (.string x.fam)∧w'.cell? ⟨b,off+j*5+2,none⟩=some (.string x.qual)∧w'.cell? ⟨b,off+i*5+1,none⟩=some (.string c.fam)∧w'.cell? ⟨b,off+i*5+2,none⟩=some (.string c.qual)) (by kernel_rfl) ?_
     refine qT 0 ?vbb0 rfl ?ybb0 hS0 ?_
     case ybb0=>exact zzR0
     try simp only[qA,List.getElem_toArray,List.getElem_cons_zero,List.getElem_cons_succ]
     refine qT 1 ?vbb1 rfl ?ybb1 hS0 ?_
     case ybb1=>exact zzR0
     try simp only[qA,List.getElem_toArray,List.getElem_cons_zero,List.getElem_cons_succ]
     refine qT 2 ?vbb2 rfl ?ybb2 hS0 ?_
     case ybb2=>exact zzR0
     try simp only[qA,List.getElem_toArray,List.getElem_cons_zero,List.getElem_cons_succ]
     refine qT 3 ?vbb3 rfl ?ybb3 hS0 ?_
     case ybb3=>exact zzR0
     try simp only[qA,List.getElem_toArray,List.getElem_cons_zero,List.getElem_cons_succ]
     refine qT 4 ?vbb4 rfl ?ybb4 hS0 ?_
     case ybb4=>exact zzR0
     try simp only[qA,List.getElem_toArray,List.getElem_cons_zero,List.getElem_cons_succ]
     refine qT 5 ?vbb5 rfl ?ybb5 hS0 ?_
     case ybb5=>exact zzR0
     try simp only[qA,List.getElem_toArray,List.getElem_cons_zero,List.getElem_cons_succ]
     refine qT 6 ?vbb6 rfl ?ybb6 hS0 ?_
     case ybb6=>exact zzR0
     try simp only[qA,List.getElem_toArray,List.getElem_cons_zero,List.getElem_cons_succ]
     refine qT 7 ?vbb7 rfl ?ybb7 hS0 ?_
     case ybb7=>exact zzR0
     try simp only[qA,List.getElem_toArray,List.getElem_cons_zero,List.getElem_cons_succ]
     refine qT 8 ?vbb8 rfl ?ybb8 hS0 ?_
     case ybb8=>exact zzR0
     try simp only[qA,List.getElem_toArray,List.getElem_cons_zero,List.getElem_cons_succ]
     refine qT 9 ?vbb9 rfl ?ybb9 hS0 ?_
     case ybb9=>exact zzR0
     try simp only[qA,List.getElem_toArray,List.getElem_cons_zero,List.getElem_cons_succ]
     refine qT 10 ?vbb10 rfl ?ybb10 hS0 ?_
     case ybb10=>exact zzR0
     try simp only[qA,List.getElem_toArray,List.getElem_cons_zero,List.getElem_cons_succ]
     refine qT 11 ?vbb11 rfl ?ybb11 hS0 ?_
     case ybb11=>exact zzR0
     try simp only[qA,List.getElem_toArray,List.getElem_cons_zero,List.getElem_cons_succ]
     refine qT 12 ?vbb12 rfl ?ybb12 hS0 ?_
     case ybb12=>exact zzR0
     try simp only[qA,List.getElem_toArray,List.getElem_cons_zero,List.getElem_cons_succ]
     refine qT 13 ?vbb13 rfl ?ybb13 hS0 ?_
     case ybb13=>exact zzR0
     try simp only[qA,List.getElem_toArray,List.getElem_cons_zero,List.getElem_cons_succ]
     refine qT 14 ?vbb14 rfl ?ybb14 hS0 ?_
     case ybb14=>exact zzR0
     try simp only[qA,List.getElem_toArray,List.getElem_cons_zero,List.getElem_cons_succ]
     refine qT 15 ?vbb15 rfl ?ybb15 hS0 ?_
     case ybb15=>exact zzR0
     try simp only[qA,List.getElem_toArray,List.getElem_cons_zero,List.getElem_cons_succ]
     refine qT 16 ?vbb16 rfl ?ybb16 hS0 ?_
     case ybb16=>exact zzR0
     try simp only[qA,List.getElem_toArray,List.getElem_cons_zero,List.getElem_cons_succ]
     refine qT 17 ?vbb17 rfl ?ybb17 hS0 ?_
     case ybb17=>exact zzR0
     try simp only[qA,List.getElem_toArray,List.getElem_cons_zero,List.getElem_cons_succ]
     refine qT 18 ?vbb18 rfl ?ybb18 hS0 ?_
     case ybb18=>exact zzR0
     try simp only[qA,List.getElem_toArray,List.getElem_cons_zero,List.getElem_cons_succ]
     refine qT 19 ?vbb19 rfl ?ybb19 hS0 ?_
     case ybb19=>exact zzR0
     try simp only[qA,List.getElem_toArray,List.getElem_cons_zero,List.getElem_cons_succ]
     refine qT 20 ?vbb20 rfl ?ybb20 hS0 ?_
     case ybb20=>exact zzR0
     try simp only[qA,List.getElem_toArray,List.getElem_cons_zero,List.getElem_cons_succ]
     refine qT 21 ?vbb21 rfl ?ybb21 hS0 ?_
     case ybb21=>exact zzR0
     try simp only[qA,List.getElem_toArray,List.getElem_cons_zero,List.getElem_cons_succ]
     refine qT 22 ?vbb22 rfl ?ybb22 hS0 ?_
     case ybb22=>exact zzR0
     try simp only[qA,List.getElem_toArray,List.getElem_cons_zero,List.getElem_cons_succ]
     refine qT 23 ?vbb23 rfl ?ybb23 hS0 ?_
     case ybb23=>exact zzR0
     exact zzQ55
    ·have HN2:Hid (befN (es.take (j+1)) c=m+1):=by
      show _=_
      have:=HN.out
      unfold colB at this
      rw[hf,hq]at this
      simpa using this
     go_upto_region 5 with fail
     refine wp_region_T 99 (fun w':World=>w'.cell? ⟨b,off+j*5+1,none⟩=some (.string x.fam)∧w'.cell? ⟨b,off+j*5+2,none⟩=some (.string x.qual)∧w'.cell? ⟨b,off+i*5+1,none⟩=some (.string c.fam)∧w'.cell? ⟨b,off+i*5+2,none⟩=some (.string c.qual)) (by kernel_rfl) ?_
     refine qT 0 ?vbc0 rfl ?ybc0 hS0 ?_
     case ybc0=>exact zzR0
     try simp only[qA,List.getElem_toArray,List.getElem_cons_zero,List.getElem_cons_succ]
     refine qT 1 ?vbc1 rfl ?ybc1 hS0 ?_
     case ybc1=>exact zzR0
     try simp only[qA,List.getElem_toArray,List.getElem_cons_zero,List.getElem_cons_succ]
     refine qT 2 ?vbc2 rfl ?ybc2 hS0 ?_
     case ybc2=>exact zzR0
     try simp only[qA,List.getElem_toArray,List.getElem_cons_zero,List.getElem_cons_succ]
     refine qT 3 ?vbc3 rfl ?ybc3 hS0 ?_
     case ybc3=>exact zzR0
     try simp only[qA,List.getElem_toArray,List.getElem_cons_zero,List.getElem_cons_succ]
     refine qT 4 ?vbc4 rfl ?ybc4 hS0 ?_
     case ybc4=>exact zzR0
     try simp only[qA,List.getElem_toArray,List.getElem_cons_zero,List.getElem_cons_succ]
     refine qT 5 ?vbc5 rfl ?ybc5 hS0 ?_
     case ybc5=>exact zzR0
     try simp only[qA,List.getElem_toArray,List.getElem_cons_zero,List.getElem_cons_succ]
     refine qT 6 ?vbc6 rfl ?ybc6 hS0 ?_
     case ybc6=>exact zzR0
     try simp only[qA,List.getElem_toArray,List.getElem_cons_zero,List.getElem_cons_succ]
     refine qT 7 ?vbc7 rfl ?ybc7 hS0 ?_
     case ybc7=>exact zzR0
     try simp only[qA,List.getElem_toArray,List.getElem_cons_zero,List.getElem_cons_succ]
     refine qT 8 ?vbc8 rfl ?ybc8 hS0 ?_
     case ybc8=>exact zzR0
     try simp only[qA,List.getElem_toArray,List.getElem_cons_zero,List.getElem_cons_succ]
     refine qT 9 ?vbc9 rfl ?ybc9 hS0 ?_
     case ybc9=>exact zzR0
     try simp only[qA,List.getElem_toArray,List.getElem_cons_zero,List.getElem_cons_succ]
     refine qT 10 ?vbc10 rfl ?ybc10 hS0 ?_
     case ybc10=>exact zzR0
     try simp only[qA,List.getElem_toArray,List.getElem_cons_zero,List.getElem_cons_succ]
     refine qT 11 ?vbc11 rfl ?ybc11 hS0 ?_
     case ybc11=>exact zzR0
     try simp only[qA,List.getElem_toArray,List.getElem_cons_zero,List.getElem_cons_succ]
     refine qT 12 ?vbc12 rfl ?ybc12 hS0 ?_
     case ybc12=>exact zzR0
     try simp only[qA,List.getElem_toArray,List.getElem_cons_zero,List.getElem_cons_succ]
     refine qT 13 ?vbc13 rfl ?ybc13 hS0 ?_
     case ybc13=>exact zzR0
     try simp only[qA,List.getElem_toArray,List.getElem_cons_zero,List.getElem_cons_succ]
     refine qT 14 ?vbc14 rfl ?ybc14 hS0 ?_
     case ybc14=>exact zzR0
     try simp only[qA,List.getElem_toArray,List.getElem_cons_zero,List.getElem_cons_succ]
     refine qT 15 ?vbc15 rfl ?ybc15 hS0 ?_
     case ybc15=>exact zzR0
     try simp only[qA,List.getElem_toArray,List.getElem_cons_zero,List.getElem_cons_succ]
     refine qT 16 ?vbc16 rfl ?ybc16 hS0 ?_
     case ybc16=>exact zzR0
     try simp only[qA,List.getElem_toArray,List.getElem_cons_zero,List.getElem_cons_succ]
     refine qT 17 ?vbc17 rfl ?ybc17 hS0 ?_
     case ybc17=>exact zzR0
     try simp only[qA,List.getElem_toArray,List.getElem_cons_zero,List.getElem_cons_succ]
     refine qT 18 ?vbc18 rfl ?ybc18 hS0 ?_
     case ybc18=>exact zzR0
     try simp only[qA,List.getElem_toArray,List.getElem_cons_zero,List.getElem_cons_succ]
     refine qT 19 ?vbc19 rfl ?ybc19 hS0 ?_
     case ybc19=>exact zzR0
     try simp only[qA,List.getElem_toArray,List.getElem_cons_zero,List.getElem_cons_succ]
     refine qT 20 ?vbc20 rfl ?ybc20 hS0 ?_
     case ybc20=>exact zzR0
     try simp only[qA,List.getElem_toArray,List.getElem_cons_zero,List.getElem_cons_succ]
     refine qT 21 ?vbc21 rfl ?ybc21 hS0 ?_
     case ybc21=>exact zzR0
     try simp only[qA,List.getElem_toArray,List.getElem_cons_zero,List.getElem_cons_succ]
     refine qT 22 ?vbc22 rfl ?ybc22 hS0 ?_
     case ybc22=>exact zzR0
     try simp only[qA,List.getElem_toArray,List.getElem_cons_zero,List.getElem_cons_succ]
     refine qT 23 ?vbc23 rfl ?ybc23 hS0 ?_
     case ybc23=>exact zzR0
     exact zzQ55
  ·obtain rfl:j=i:=by omega
   have zj:¬(j:Int)<(j:Int):=by omega
   go_wp2_with fail
   go_ret
   exact⟨by rw[HM.out];rfl,HB.out⟩
theorem leafG_append (n:Nd):∀(a pre b:List Ent),leafG n pre (a++b)=leafG n pre a++leafG n (pre++a) b
 | [],pre,b=>by simp[leafG]
 |c::a,pre,b=>by
  have ih:=leafG_append n a (pre++ [c]) b
  simp only[List.cons_append,leafG]
  split<;>simp[ih]
theorem leaf_step (n:Nd) {es:List Ent} {i:Nat} {c:Ent} (h:es[i]?=some c):leafG n [] (es.take (i+1))=leafG n [] (es.take i)++(if keepB n (es.take i) c then [stripE n c]else []):=by
 rw[List.take_add_one,h,Option.toList_some,leafG_append]
 simp only[List.nil_append,leafG]
theorem leafG_len (n:Nd):∀(a pre:List Ent),(leafG n pre a).length≤a.length
 | [],_=>Nat.le_refl _
 |c::a,pre=>by
  have:=leafG_len n a (pre++ [c])
  unfold leafG
  split<;>simp<;>omega
structure LfJ (w:World) (n:Nd) (b off cap:Nat) (es:List Ent) (g cp:Nat) (L:List Ent) (wr:World):Prop where
 own:OwnC wr w.heap.size g cp L
 box:BoxAt wr w.heap.size 75 7 w.heap.size n.seven
 row:CSl wr b off cap es
 low:b<w.heap.size
 below:Below w.heap.size w wr
theorem LfJ.move {w:World} {n:Nd} {b off cap:Nat} {es:List Ent} {g cp:Nat} {L:List Ent} {wr w':World} (h:LfJ w n b off cap es g cp L wr) (hb:Below wr.heap.size wr w'):LfJ w n b off cap es g cp L w':=
 ⟨h.own.below hb h.own.lt.2,h.box.below hb,h.row.below hb,h.low,h.below.trans (hb.mono h.below.size)⟩
theorem LfJ.push {w:World} {n:Nd} {b off cap:Nat} {es:List Ent} {g cp g' cp':Nat} {L L':List Ent} {X w':World} (h:LfJ w n b off cap es g cp L X) (hO:OwnC w' w.heap.size g' cp' L') (hg:X.grownBy w' (some g)):LfJ w n b off cap es g' cp' L' w':=by
 have hc:Chg (fun k=>k=g) X w':=Chg.of_grown hg (fun k q=>by cases q;rfl)
 have hgl:=h.own.lt
 have hlo:=h.low
 refine⟨hO,h.box.chg hc (fun q=>own_apart h.own h.box (by decide) g rfl (by rw[←q];rfl)),h.row.chg hc (by omega),hlo,?_⟩
 exact h.below.grown hg h.below.size (fun j hj=>by cases hj;omega)
theorem LfJ.set {w:World} {n:Nd} {b off cap:Nat} {es:List Ent} {g cp:Nat} {L:List Ent} {X:World} (h:LfJ w n b off cap es g cp L X) {k:Nat} (hk:w.heap.size<k) (hg:¬g=k) (j:Nat) (u:Value):LfJ w n b off cap es g cp L (X.setCell ⟨k,j,none⟩ u):=by
 have hc:Chg (fun q=>q=k) X (X.setCell ⟨k,j,none⟩ u):=Chg.of_set _ _ _ _ rfl
 have hlo:=h.low
 have hs:=h.below.size
 exact⟨own_chg h.own hc (fun q z=>by simp[Value.ownBlock]at z;subst z;exact hg),h.box.chg hc (by omega),h.row.chg hc (by omega),hlo,Chg.below h.below hc hs (fun q z=>by omega)⟩
set_option maxHeartbeats 8000000 in
theorem l5Leaf_core (n:Nd) (hns:n.s.size≤maxLen) {w:World} {b off cap:Nat} {es:List Ent} (h:CSl w b off cap es) (hl:es.length≤1048576):Calls Tryz.prog 98 #[n.v,.slice (some ⟨b,off,none⟩) es.length cap] w fun e w'=>∃g cp,e=.returned (.slice (some ⟨g,0,none⟩) (leafM n es).length cp)∧OwnC w' w.heap.size g cp (leafM n es)∧Below w.heap.size w w':=by
 obtain⟨N,hN⟩:=qE es.length
 have HL:Hid (N=es.length):=hN
 have HLM:Hid (leafM n es=leafG n [] (es.take N)):=by show _=_;rw[hN,List.take_length];rfl
 have HTs:Hid (∀(c:Ent) (w:World),Calls Tryz.prog 124 #[n.v,c.c] w fun e w'=>e=.returned (.bool (tstB n c))∧Below w.heap.size w w'):=fun c w=>l5Test_core n c w hns
 obtain⟨W0,hW0⟩:=qE ((w.alloc (.cells n.seven.toArray 75)).alloc (.cells #[] 55):World)
 have HJ0:Hid (LfJ w n b off cap es (w.heap.size+1) 0 [] W0):=by
  have k1:Below w.heap.size w (w.alloc (.cells n.seven.toArray 75)):=qB
  have k2:Below (w.alloc (.cells n.seven.toArray 75)).heap.size (w.alloc (.cells n.seven.toArray 75)) W0:=by rw[hW0];exact qB
  have k3:Below w.heap.size w W0:=k1.trans (k2.mono k1.size)
  refine⟨?_,(boxAt_new w _ (Nat.le_refl _) rfl).below k2,h.below k3,h.lt,k3⟩
  have:=ownC_new (w.alloc (.cells n.seven.toArray 75))
  rw[hW0]
  have e:(w.alloc (.cells n.seven.toArray 75)).heap.size=w.heap.size+1:=by simp
  rw[e]at this
  exact this.mono (by omega)
 rw[←hN]
 rw[←hN]at hl
 obtain⟨k,s,hi,t,lo,up,nn⟩:=n
 clear h hns
 go_enter Tryz.func98,Tryz.ntmps98
 go_wp2_with fail
 have hW0':=hW0
 simp only[Nd.seven]at hW0'
 rw[←hW0']
 clear hW0 hW0' hN
 go_loopw[5,6] (fun o iv wr=>∃(i g cp m:Nat),i≤N∧iv=.int .i64 (i:Int)∧o=.slice (some ⟨g,0,none⟩) m cp∧Hid (m=(leafG ⟨k,s,hi,t,lo,up,nn⟩ [] (es.take i)).length∧LfJ w ⟨k,s,hi,t,lo,up,nn⟩ b off cap es g cp (leafG ⟨k,s,hi,t,lo,up,nn⟩ [] (es.take i)) wr)) (fun _ iv _=>N-(intOf iv).toNat)
 case atStart=>exact⟨0,w.heap.size+1,0,0,Nat.zero_le _,rfl,rfl,rfl,HJ0.out⟩
 case round=>
  obtain⟨i,g,cp,m,hiN,rfl,rfl,HJ⟩:=hrel
  by_cases hlt:i<N
  ·have zi:(i:Int)<(N:Int):=by omega
   obtain⟨c,hc⟩:∃c,es[i]?=some c:=⟨_,List.getElem?_eq_getElem (by have:=HL.out;omega)⟩
   have HStep:Hid (leafG ⟨k,s,hi,t,lo,up,nn⟩ [] (es.take (i+1))=leafG ⟨k,s,hi,t,lo,up,nn⟩ [] (es.take i)++(if keepB ⟨k,s,hi,t,lo,up,nn⟩ (es.take i) c then [stripE ⟨k,s,hi,t,lo,up,nn⟩ c]else [])):=leaf_step _ hc
   have HC:Hid (es[i]?=some c):=hc
   have HMl:Hid (m=(leafG ⟨k,s,hi,t,lo,up,nn⟩ [] (es.take i)).length):=HJ.1
   have hml:m≤1048576:=by
    rw[HJ.1]
    refine Nat.le_trans (leafG_len _ _ _) ?_
    rw[List.length_take]
    omega
   obtain⟨c0,c1,c2,c3,c4⟩:=HJ.2.row.at_ i c hc
   obtain⟨W1,hW1⟩:=qE (wr.alloc (.cells #[.string c.row,.string c.fam,.string c.qual,.int .u64 c.ts,.string c.val] 55):World)
   have hb1:Below wr.heap.size wr W1:=by rw[hW1];exact qB
   obtain⟨cb,hcb⟩:=qE wr.heap.size
   have HB1:Hid (LfJ w ⟨k,s,hi,t,lo,up,nn⟩ b off cap es g cp (leafG ⟨k,s,hi,t,lo,up,nn⟩ [] (es.take i)) W1∧BoxAt W1 w.heap.size 55 5 cb c.five∧g<cb∧w.heap.size<cb):=by
    refine⟨HJ.2.move hb1,?_,by rw[hcb];exact HJ.2.own.lt.2,by rw[hcb];exact HJ.2.box.lt.2⟩
    rw[hW1,hcb];exact boxAt_new wr #[.string c.row,.string c.fam,.string c.qual,.int .u64 c.ts,.string c.val] HJ.2.below.size rfl
   go_upto_region 6 with fail
   rw[←hW1,←hcb]
   clear hW1 hcb hb1 c0 c1 c2 c3 c4 hc
   obtain⟨n0,n1,n2,n3,n4,n5,n6⟩:=HB1.1.box.c7
   obtain⟨c0,c1,c2,c3,c4⟩:=HB1.2.1.c5
   go_wp2_with fail
   refine(HTs.out c W1).mono ?_
   rintro e w2 ⟨rfl,hb2⟩
   have HB2:Hid (LfJ w ⟨k,s,hi,t,lo,up,nn⟩ b off cap es g cp (leafG ⟨k,s,hi,t,lo,up,nn⟩ [] (es.take i)) w2∧BoxAt w2 w.heap.size 55 5 cb c.five∧g<cb∧w.heap.size<cb):=⟨HB1.1.move hb2,HB1.2.1.below hb2,HB1.2.2⟩
   clear n0 n1 n2 n3 n4 n5 n6 c0 c1 c2 c3 c4 hb2 HB1 HJ
   obtain⟨tb,htb⟩:=qE (tstB ⟨k,s,hi,t,lo,up,nn⟩ c)
   have HTb:Hid (tb=tstB ⟨k,s,hi,t,lo,up,nn⟩ c):=htb
   rw[←htb]
   clear htb
   have n0:=HB2.1.box.cell (j:=0) rfl
   have n6:=HB2.1.box.cell (j:=6) rfl
   dsimp only at n0 n6
   have HM:Hid (m=(leafG ⟨k,s,hi,t,lo,up,nn⟩ [] (es.take i)).length):=HMl.out
   by_cases h12:k=12
   ·subst h12
    have hlenT:((es.take i).length:Int)=(i:Int):=by rw[List.length_take];have:=HL.out;omega
    by_cases gq:(i:Int)<nn
    ·have HSt:Hid (leafG ⟨12,s,hi,t,lo,up,nn⟩ [] (es.take (i+1))=leafG ⟨12,s,hi,t,lo,up,nn⟩ [] (es.take i)++ [c]):=by
      show _=_
      have hk:keepB ⟨12,s,hi,t,lo,up,nn⟩ (es.take i) c=true:=by simp only[keepB,hlenT];simp[gq]
      rw[HStep.out,hk,if_pos rfl]
      rfl
     clear hlenT
     obtain⟨d0,d1,d2,d3,d4⟩:=HB2.2.1.c5
     have HKm:Hid (m=(leafG ⟨12,s,hi,t,lo,up,nn⟩ [] (es.take i)).length):=HM.out
     go_wp2_with (at_builtin;refine wpList_append_cel _ rfl _ _ rfl w.heap.size g cp _ _ (leafG ⟨12,s,hi,t,lo,up,nn⟩ [] (es.take i)) c rfl rfl HKm.out ?hO ?hc ?hl ?hb ?_)
     case hO=>exact HB2.1.own.below (qB) HB2.1.own.lt.2
     case hc=>exact cel_new w2 c
     case hl=>rw[←HKm.out];omega
     case hb=>have:=HB2.1.below.size;simp;omega
     intro g' cp' w' hO' hgr
     have HN:Hid (m+1=(leafG ⟨12,s,hi,t,lo,up,nn⟩ [] (es.take (i+1))).length∧LfJ w ⟨12,s,hi,t,lo,up,nn⟩ b off cap es g' cp' (leafG ⟨12,s,hi,t,lo,up,nn⟩ [] (es.take (i+1))) w'):=by
      rw[HSt.out]
      exact⟨by rw[List.length_append,←HKm.out];rfl,(HB2.1.move (qB)).push hO' hgr⟩
     exact zzQ13
    ·have HSt:Hid (leafG ⟨12,s,hi,t,lo,up,nn⟩ [] (es.take (i+1))=leafG ⟨12,s,hi,t,lo,up,nn⟩ [] (es.take i)):=by
      show _=_
      have hk:keepB ⟨12,s,hi,t,lo,up,nn⟩ (es.take i) c=false:=by simp only[keepB,hlenT];simp[gq]
      rw[HStep.out,hk,if_neg (by decide),List.append_nil]
     clear hlenT
     have HN:Hid (m=(leafG ⟨12,s,hi,t,lo,up,nn⟩ [] (es.take (i+1))).length∧LfJ w ⟨12,s,hi,t,lo,up,nn⟩ b off cap es g cp (leafG ⟨12,s,hi,t,lo,up,nn⟩ [] (es.take (i+1))) w2):=by
      rw[HSt.out]
      exact⟨HM.out,HB2.1⟩
     exact zzQ22
   have b12:(k==12)=false:=by rw[beq_eq_false_iff_ne];exact h12
   by_cases h13:k=13
   ·subst h13
    have hlenT:((es.take i).length:Int)=(i:Int):=by rw[List.length_take];have:=HL.out;omega
    by_cases gq:nn≤(i:Int)
    ·have HSt:Hid (leafG ⟨13,s,hi,t,lo,up,nn⟩ [] (es.take (i+1))=leafG ⟨13,s,hi,t,lo,up,nn⟩ [] (es.take i)++ [c]):=by
      show _=_
      have hk:keepB ⟨13,s,hi,t,lo,up,nn⟩ (es.take i) c=true:=by simp only[keepB,hlenT];simp[gq]
      rw[HStep.out,hk,if_pos rfl]
      rfl
     clear hlenT
     obtain⟨d0,d1,d2,d3,d4⟩:=HB2.2.1.c5
     have HKm:Hid (m=(leafG ⟨13,s,hi,t,lo,up,nn⟩ [] (es.take i)).length):=HM.out
     go_wp2_with (at_builtin;refine wpList_append_cel _ rfl _ _ rfl w.heap.size g cp _ _ (leafG ⟨13,s,hi,t,lo,up,nn⟩ [] (es.take i)) c rfl rfl HKm.out ?hO ?hc ?hl ?hb ?_)
     case hO=>exact HB2.1.own.below (qB) HB2.1.own.lt.2
     case hc=>exact cel_new w2 c
     case hl=>rw[←HKm.out];omega
     case hb=>have:=HB2.1.below.size;simp;omega
     intro g' cp' w' hO' hgr
     have HN:Hid (m+1=(leafG ⟨13,s,hi,t,lo,up,nn⟩ [] (es.take (i+1))).length∧LfJ w ⟨13,s,hi,t,lo,up,nn⟩ b off cap es g' cp' (leafG ⟨13,s,hi,t,lo,up,nn⟩ [] (es.take (i+1))) w'):=by
      rw[HSt.out]
      exact⟨by rw[List.length_append,←HKm.out];rfl,(HB2.1.move (qB)).push hO' hgr⟩
     exact zzQ13
    ·have HSt:Hid (leafG ⟨13,s,hi,t,lo,up,nn⟩ [] (es.take (i+1))=leafG ⟨13,s,hi,t,lo,up,nn⟩ [] (es.take i)):=by
      show _=_
      have hk:keepB ⟨13,s,hi,t,lo,up,nn⟩ (es.take i) c=false:=by simp only[keepB,hlenT];simp[gq]
      rw[HStep.out,hk,if_neg (by decide),List.append_nil]
     clear hlenT
     have HN:Hid (m=(leafG ⟨13,s,hi,t,lo,up,nn⟩ [] (es.take (i+1))).length∧LfJ w ⟨13,s,hi,t,lo,up,nn⟩ b off cap es g cp (leafG ⟨13,s,hi,t,lo,up,nn⟩ [] (es.take (i+1))) w2):=by
      rw[HSt.out]
      exact⟨HM.out,HB2.1⟩
     exact zzQ22
   have b13:(k==13)=false:=by rw[beq_eq_false_iff_ne];exact h13
   by_cases h11:k=11
   ·subst h11
    have hS0:(fun w':World=>w'.cell? ⟨w.heap.size,6,none⟩=some (.int .i64 nn)) w2.drew:=n6
    have HBf:Hid (Calls Tryz.prog 125 #[.slice (some ⟨b,off,none⟩) N cap,.int .i64 (i:Int)] w2.drew fun e w'=>e=.returned (.int .i64 (befN (es.take i) c:Int))∧Below w2.drew.heap.size w2.drew w'):=by
     rw[HL.out]
     exact before_core ((HB2.1.row).below ((Below.refl _ _).drew)) HC.out (by rw[←HL.out];exact hl)
    obtain⟨bf,hbf⟩:=qE (befN (es.take i) c)
    have HBn:Hid (bf=befN (es.take i) c):=hbf
    rw[←hbf]at HBf
    clear hbf
    go_upto_region 8 with fail
    refine wp_region_T 99 (fun w':World=>w'.cell? ⟨w.heap.size,6,none⟩=some (.int .i64 nn)) (by kernel_rfl) ?_
    refine qT 0 ?vle0 rfl ?yle0 hS0 ?_
    case yle0=>exact zzR12
    try simp only[qA,List.getElem_toArray,List.getElem_cons_zero,List.getElem_cons_succ]
    refine qT 1 ?vle1 rfl ?yle1 hS0 ?_
    case yle1=>exact zzR12
    try simp only[qA,List.getElem_toArray,List.getElem_cons_zero,List.getElem_cons_succ]
    refine qT 3 ?vle3 rfl ?yle3 hS0 ?_
    case yle3=>exact zzR12
    try simp only[qA,List.getElem_toArray,List.getElem_cons_zero,List.getElem_cons_succ]
    refine qT 4 ?vle4 rfl ?yle4 hS0 ?_
    case yle4=>exact zzR12
    try simp only[qA,List.getElem_toArray,List.getElem_cons_zero,List.getElem_cons_succ]
    refine qO 2 rfl fun K hK=>?_
    go_simp
    go_at_call 125
    refine HBf.mono ?_
    rintro e w3 ⟨rfl,hb3⟩
    have hb3':Below w2.heap.size w2 w3:=((Below.refl _ _).drew).trans hb3
    have HB3:Hid (LfJ w ⟨11,s,hi,t,lo,up,nn⟩ b off cap es g cp (leafG ⟨11,s,hi,t,lo,up,nn⟩ [] (es.take i)) w3∧BoxAt w3 w.heap.size 55 5 cb c.five∧g<cb∧w.heap.size<cb):=⟨HB2.1.move hb3',HB2.2.1.below hb3',HB2.2.2⟩
    have hS3:(fun w':World=>w'.cell? ⟨w.heap.size,6,none⟩=some (.int .i64 nn)) w3:=HB3.1.box.cell (j:=6) rfl
    clear hb3 hb3'
    refine hK.out _ _ (.inr hS3) ?_
    clear hK
    try simp only[qA,List.getElem_toArray,List.getElem_cons_zero,List.getElem_cons_succ]
    by_cases gq:(bf:Int)<nn
    ·refine qT 5 (.bool true) rfl ?ylt5 hS3 ?_
     case ylt5=>exact zzR25
     try simp only[qA,List.getElem_toArray,List.getElem_cons_zero,List.getElem_cons_succ]
     refine qT 6 ?vlt6 rfl ?ylt6 hS3 ?_
     case ylt6=>exact zzR12
     try simp only[qA,List.getElem_toArray,List.getElem_cons_zero,List.getElem_cons_succ]
     refine qD ?_
     have n0:=HB3.1.box.cell (j:=0) rfl
     dsimp only at n0
     have HSt:Hid (leafG ⟨11,s,hi,t,lo,up,nn⟩ [] (es.take (i+1))=leafG ⟨11,s,hi,t,lo,up,nn⟩ [] (es.take i)++ [c]):=by
      show _=_
      have hk:keepB ⟨11,s,hi,t,lo,up,nn⟩ (es.take i) c=true:=by simp only[keepB,←HBn.out];simp[gq]
      rw[HStep.out,hk,if_pos rfl]
      rfl
     obtain⟨d0,d1,d2,d3,d4⟩:=HB3.2.1.c5
     have HKm:Hid (m=(leafG ⟨11,s,hi,t,lo,up,nn⟩ [] (es.take i)).length):=HM.out
     go_wp2_with (at_builtin;refine wpList_append_cel _ rfl _ _ rfl w.heap.size g cp _ _ (leafG ⟨11,s,hi,t,lo,up,nn⟩ [] (es.take i)) c rfl rfl HKm.out ?hO ?hc ?hl ?hb ?_)
     case hO=>exact HB3.1.own.below (qB) HB3.1.own.lt.2
     case hc=>exact cel_new w3 c
     case hl=>rw[←HKm.out];omega
     case hb=>have:=HB3.1.below.size;simp;omega
     intro g' cp' w' hO' hgr
     have HN:Hid (m+1=(leafG ⟨11,s,hi,t,lo,up,nn⟩ [] (es.take (i+1))).length∧LfJ w ⟨11,s,hi,t,lo,up,nn⟩ b off cap es g' cp' (leafG ⟨11,s,hi,t,lo,up,nn⟩ [] (es.take (i+1))) w'):=by
      rw[HSt.out]
      exact⟨by rw[List.length_append,←HKm.out];rfl,(HB3.1.move (qB)).push hO' hgr⟩
     exact zzQ13
    ·refine qT 5 (.bool false) rfl ?ylf5 hS3 ?_
     case ylf5=>exact zzR25
     try simp only[qA,List.getElem_toArray,List.getElem_cons_zero,List.getElem_cons_succ]
     refine qT 6 ?vlf6 rfl ?ylf6 hS3 ?_
     case ylf6=>exact zzR12
     try simp only[qA,List.getElem_toArray,List.getElem_cons_zero,List.getElem_cons_succ]
     refine qD ?_
     have n0:=HB3.1.box.cell (j:=0) rfl
     dsimp only at n0
     have HSt:Hid (leafG ⟨11,s,hi,t,lo,up,nn⟩ [] (es.take (i+1))=leafG ⟨11,s,hi,t,lo,up,nn⟩ [] (es.take i)):=by
      show _=_
      have hk:keepB ⟨11,s,hi,t,lo,up,nn⟩ (es.take i) c=false:=by simp only[keepB,←HBn.out];simp[gq]
      rw[HStep.out,hk,if_neg (by decide),List.append_nil]
     have HN:Hid (m=(leafG ⟨11,s,hi,t,lo,up,nn⟩ [] (es.take (i+1))).length∧LfJ w ⟨11,s,hi,t,lo,up,nn⟩ b off cap es g cp (leafG ⟨11,s,hi,t,lo,up,nn⟩ [] (es.take (i+1))) w3):=by
      rw[HSt.out]
      exact⟨HM.out,HB3.1⟩
     exact zzQ22
   have b11:(k==11)=false:=by rw[beq_eq_false_iff_ne];exact h11
   by_cases h3:k=3
   ·subst h3
    have htt:tb=true:=HTb.trans (by simp[tstB])
    subst htt
    have f4:=HB2.2.1.frozen 4
    have d4:=HB2.2.1.cell (j:=4) rfl
    obtain⟨W3,hW3⟩:=qE (w2.setCell ⟨cb,4,none⟩ (.string ⟨#[]⟩):World)
    have HB3:Hid (LfJ w ⟨3,s,hi,t,lo,up,nn⟩ b off cap es g cp (leafG ⟨3,s,hi,t,lo,up,nn⟩ [] (es.take i)) W3∧BoxAt W3 w.heap.size 55 5 cb (⟨c.row,c.fam,c.qual,c.ts,c.kind,⟨#[]⟩⟩:Ent).five∧g<cb∧w.heap.size<cb):=by
     rw[hW3]
     exact⟨HB2.1.set HB2.2.2.2 (by have:=HB2.2.2.1;omega) 4 _,HB2.2.1.set 4 _,HB2.2.2⟩
    go_upto_region 15 with fail
    rw[←hW3]
    clear hW3 f4 d4
    have HSt:Hid (leafG ⟨3,s,hi,t,lo,up,nn⟩ [] (es.take (i+1))=leafG ⟨3,s,hi,t,lo,up,nn⟩ [] (es.take i)++ [⟨c.row,c.fam,c.qual,c.ts,c.kind,⟨#[]⟩⟩]):=by
     show _=_
     have hk:keepB ⟨3,s,hi,t,lo,up,nn⟩ (es.take i) c=true:=by simp[keepB,tstB]
     rw[HStep.out,hk,if_pos rfl]
     rfl
    obtain⟨d0,d1,d2,d3,d4⟩:=HB3.2.1.c5
    have HKm:Hid (m=(leafG ⟨3,s,hi,t,lo,up,nn⟩ [] (es.take i)).length):=HM.out
    go_wp2_with (at_builtin;refine wpList_append_cel _ rfl _ _ rfl w.heap.size g cp _ _ (leafG ⟨3,s,hi,t,lo,up,nn⟩ [] (es.take i)) ⟨c.row,c.fam,c.qual,c.ts,c.kind,⟨#[]⟩⟩ rfl rfl HKm.out ?hO ?hc ?hl ?hb ?_)
    case hO=>exact HB3.1.own.below (qB) HB3.1.own.lt.2
    case hc=>exact cel_new W3 ⟨c.row,c.fam,c.qual,c.ts,c.kind,⟨#[]⟩⟩
    case hl=>rw[←HKm.out];omega
    case hb=>have:=HB3.1.below.size;simp;omega
    intro g' cp' w' hO' hgr
    have HN:Hid (m+1=(leafG ⟨3,s,hi,t,lo,up,nn⟩ [] (es.take (i+1))).length∧LfJ w ⟨3,s,hi,t,lo,up,nn⟩ b off cap es g' cp' (leafG ⟨3,s,hi,t,lo,up,nn⟩ [] (es.take (i+1))) w'):=by
     rw[HSt.out]
     exact⟨by rw[List.length_append,←HKm.out];rfl,(HB3.1.move (qB)).push hO' hgr⟩
    exact zzQ13
   have b3:(k==3)=false:=by rw[beq_eq_false_iff_ne];exact h3
   have hst:Hid (stripE ⟨k,s,hi,t,lo,up,nn⟩ c=c):=by show stripE ⟨k,s,hi,t,lo,up,nn⟩ c=c;unfold stripE;rw[if_neg h3]
   have hkt:Hid (keepB ⟨k,s,hi,t,lo,up,nn⟩ (es.take i) c=tb):=by rw[HTb.out];show keepB _ _ _=_;simp only[keepB];rw[if_neg h11,if_neg h12,if_neg h13]
   cases tb
   ·have HSt:Hid (leafG ⟨k,s,hi,t,lo,up,nn⟩ [] (es.take (i+1))=leafG ⟨k,s,hi,t,lo,up,nn⟩ [] (es.take i)):=by
     show _=_
     have hk:keepB ⟨k,s,hi,t,lo,up,nn⟩ (es.take i) c=false:=by exact hkt.out
     rw[HStep.out,hk,if_neg (by decide),List.append_nil]
    have HN:Hid (m=(leafG ⟨k,s,hi,t,lo,up,nn⟩ [] (es.take (i+1))).length∧LfJ w ⟨k,s,hi,t,lo,up,nn⟩ b off cap es g cp (leafG ⟨k,s,hi,t,lo,up,nn⟩ [] (es.take (i+1))) w2):=by
     rw[HSt.out]
     exact⟨HM.out,HB2.1⟩
    exact zzQ22
   ·have HSt:Hid (leafG ⟨k,s,hi,t,lo,up,nn⟩ [] (es.take (i+1))=leafG ⟨k,s,hi,t,lo,up,nn⟩ [] (es.take i)++ [c]):=by
     show _=_
     have hk:keepB ⟨k,s,hi,t,lo,up,nn⟩ (es.take i) c=true:=by exact hkt.out
     rw[HStep.out,hk,if_pos rfl,hst.out]
    obtain⟨d0,d1,d2,d3,d4⟩:=HB2.2.1.c5
    have HKm:Hid (m=(leafG ⟨k,s,hi,t,lo,up,nn⟩ [] (es.take i)).length):=HM.out
    go_wp2_with (at_builtin;refine wpList_append_cel _ rfl _ _ rfl w.heap.size g cp _ _ (leafG ⟨k,s,hi,t,lo,up,nn⟩ [] (es.take i)) c rfl rfl HKm.out ?hO ?hc ?hl ?hb ?_)
    case hO=>exact HB2.1.own.below (qB) HB2.1.own.lt.2
    case hc=>exact cel_new w2 c
    case hl=>rw[←HKm.out];omega
    case hb=>have:=HB2.1.below.size;simp;omega
    intro g' cp' w' hO' hgr
    have HN:Hid (m+1=(leafG ⟨k,s,hi,t,lo,up,nn⟩ [] (es.take (i+1))).length∧LfJ w ⟨k,s,hi,t,lo,up,nn⟩ b off cap es g' cp' (leafG ⟨k,s,hi,t,lo,up,nn⟩ [] (es.take (i+1))) w'):=by
     rw[HSt.out]
     exact⟨by rw[List.length_append,←HKm.out];rfl,(HB2.1.move (qB)).push hO' hgr⟩
    exact zzQ13
  ·obtain rfl:i=N:=by omega
   have zi:¬(i:Int)<(i:Int):=by omega
   go_wp2_with fail
   go_ret
   refine⟨g,cp,?_,?_,HJ.2.below⟩
   ·rw[HLM.out,←HJ.1];rfl
   ·rw[HLM.out];exact HJ.2.own
end Go.Proofs.YtkidabedcgngcaaGreatDoor
namespace Go.Proofs.YtkidabedcgngcaaGreatDoor
open Go.ChangeShapes Go.WideShapes Go.ChangeAt Go.RowKit Go.Deep
set_option linter.unusedVariables false
theorem ent_new (wx:World) (f:Ent):EntsAt (wx.alloc (Obj.cells #[.string f.row,.string f.fam,.string f.qual,.int .u64 f.ts,.int .i64 f.kind,.string f.val] 102)) wx.heap.size 0 [f]:=by
 exact zzQ42
end Go.Proofs.YtkidabedcgngcaaGreatDoor
namespace Go.Proofs.YtkidabedcgngcaaGreatDoor
open Go.ChangeShapes Go.WideShapes Go.ChangeAt Go.RowKit Go.Deep Go.Maps
set_option linter.unusedVariables false
set_option maxRecDepth 100000
abbrev colV (r f q:ByteArray):Value:=.agg #[.string r,.string f,.string q]
def Rh:Value→Option (DataW Value×List MemPlace):=fun v=>some (.held v,[])
def Inn (w:World) (b n:Nat) (f:Int→Option Ent):Prop:=
 ∃D,w.ownsMap Tryz.prog 49 Rh b n D∧∀t,(Lit.int .u64 t).wf=true→(f t=none∧Maps.has D (.int .u64 t)=false)∨∃e,f t=some e∧Maps.has D (.int .u64 t)=true∧∀z,D.atKey (.int .u64 t) z=.held e.v
theorem Inn.lt {w:World} {b n:Nat} {f:Int→Option Ent} (h:Inn w b n f):b<w.heap.size:=by
 obtain⟨D,h,_⟩:=h
 exact h.lt
abbrev Col:=ByteArray×ByteArray×ByteArray
abbrev Col.v (c:Col):Value:=colV c.1 c.2.1 c.2.2
end Go.Proofs.YtkidabedcgngcaaGreatDoor
namespace Go.Proofs.YtkidabedcgngcaaGreatDoor
open Go.ChangeShapes Go.WideShapes Go.ChangeAt Go.RowKit Go.Deep
set_option linter.unusedVariables false
set_option linter.unusedSimpArgs false
set_option maxRecDepth 100000
theorem ent_boxP (w:World) (e:Ent):EntsAt (w.alloc (Obj.cells #[.string e.row,.string e.fam,.string e.qual,.int .u64 e.ts,.int .i64 e.kind,.string e.val] 102)) w.heap.size 0 [e]:=by
 exact zzQ42
def putE (x:Ent):Ent:={x with kind:=0}
set_option maxHeartbeats 400000 in
theorem specPut_any (e:Ent) (w:World):
  Calls Tryz.prog 96 #[.agg #[.string e.row,.string e.fam,.string e.qual,.int .u64 e.ts,.string e.val]] w fun r w'=>r=.returned (putE e).v∧Below w.heap.size w w':=by
 go_enter Tryz.func96,Tryz.ntmps96
 go_wp2
 refine bodyPost_ret (v:=(putE e).v) (by simp[results,Tryz.results96,go_sem,putE]) rfl ⟨rfl,?_⟩
 exact(qB).alloc (by simp) _
set_option maxHeartbeats 400000 in
theorem implPut_any (e:Ent) (w:World):
  Calls Tryz.prog 59 #[.agg #[.string e.row,.string e.fam,.string e.qual,.int .u64 e.ts,.string e.val]] w fun r w'=>r=.returned (putE e).v∧Below w.heap.size w w':=by
 go_enter Tryz.func59,Tryz.ntmps59
 go_wp2
 refine bodyPost_ret (v:=(putE e).v) (by simp[results,Tryz.results59,go_sem,putE]) rfl ⟨rfl,?_⟩
 exact(qB).alloc (by simp) _
theorem step_append_ent {ops:Array Oper} {o:Oper} {a:Act} {K:Act→World→Prop} {Q:Exit→Act→World→Prop} {E:Prop} (w:World) (hgd:o.guard=none) (s x:Operand)
  (ho:o.op=.call {callee:=.builtin .append,args:=#[s,x],argTypes:=#[88,88]})
  (base g cp n blk:Nat) (fs:List Ent) (e:Ent) (hn:n=fs.length) (hs:a.eval s=.slice (some ⟨g,0,none⟩) n cp) (hx:a.eval x=.slice (some ⟨blk,0,none⟩) 1 1) (hO:OwnE w base g cp fs)
  (hc:EntsAt w blk 0 [e]) (hlen:fs.length≤2^30) (hbase:base≤w.heap.size)
  (h:∀g' cp' w',OwnE w' base g' cp' (fs++ [e])→w.grownBy w' (some g)→(g=g'∨g'=w.heap.size)→K (a.put o.dst (.slice (some ⟨g',0,none⟩) (n+1) cp')) w'):if Region.wanted o (yielded ops a.tmps)=true then Oper.wp Tryz.prog o a w K Q else E:=by
 subst hn
 obtain⟨i,hi,hz0,hz1,hz2⟩:=info_parts Tryz.infoEnt
 obtain⟨c0,c1,c2,c3,c4,c5⟩:=hc 0 e rfl
 refine step_append_lies w hgd s x 88 ho base 102 i _ 6 80 Tryz.underlying88 hi hz0 hz1 hz2 rfl (by decide) (.slice (some ⟨g,0,none⟩) fs.length cp) fs.length (cellsE fs) hs hO ⟨blk,0,none⟩ 1 1 (cellsE [e]) hx rfl ?_ ?_ (by decide) ?_ ?_ hbase w.heap.size rfl ?_
 ·exact zzQ23
 ·intro u hu
  simp[cellsE]at hu
  rcases hu with rfl|rfl|rfl|rfl|rfl|rfl<;>rfl
 ·unfold maxLen;omega
 ·omega
 ·intro g' cp' w' hO' hgr hat hlt
  refine h g' cp' w' ?_ hgr ?_
  ·unfold OwnE
   rw[List.length_append,cellsE_append]
   exact hO'
  ·rcases hat with q|q
   ·exact .inl (by simpa [Value.ownBlock]using q)
   ·exact .inr q
def putsTo (L:List Ent) (m:Nat):List Ent:=(L.take m).map putE
theorem putsTo_succ {L:List Ent} {m:Nat} {x:Ent} (h:L[m]?=some x):putsTo L (m+1)=putsTo L m++ [putE x]:=by
 unfold putsTo;rw[List.take_add_one,h];simp
theorem putsTo_len {L:List Ent} {m:Nat} (h:m≤L.length):(putsTo L m).length=m:=by simp[putsTo];omega
theorem putsTo_all {L:List Ent} {m:Nat} (h:L.length≤m):putsTo L m=L.map putE:=by unfold putsTo;rw[List.take_of_length_le h]
structure PInv (w:World) (ov:Nat) (L:List Ent) (m g5 cp5:Nat) (wr:World):Prop where
 hdr:wr.cell? ⟨ov,0,none⟩=some (.slice (some ⟨g5,0,none⟩) m cp5)
 free:wr.frozen? ⟨ov,0,none⟩=false
 lt:ov<wr.heap.size
 own:w.heap.size<ov
 row:OwnE wr w.heap.size g5 cp5 (putsTo L m)
 ne:¬g5=ov
 new:w.heap.size<g5
 res:wr.cell? ⟨w.heap.size,0,none⟩=some (.slice none 0 0)
 rfree:wr.frozen? ⟨w.heap.size,0,none⟩=false
 below:Below w.heap.size w wr
theorem PInv.step {w:World} {ov:Nat} {L:List Ent} {m g5 cp5:Nat} {wr w':World} (h:PInv w ov L m g5 cp5 wr) (hb:Below wr.heap.size wr w'):PInv w ov L m g5 cp5 w' where
 hdr:=by rw[hb.cell (p:=⟨ov,0,none⟩) h.lt];exact h.hdr
 free:=by rw[hb.frozen (p:=⟨ov,0,none⟩) h.lt];exact h.free
 lt:=by have:=hb.size;have:=h.lt;omega
 own:=h.own
 row:=h.row.below hb h.row.lt.2
 ne:=h.ne
 new:=h.new
 res:=by rw[hb.cell (p:=⟨w.heap.size,0,none⟩) (by have:=h.own;have:=h.lt;show w.heap.size<wr.heap.size;omega)];exact h.res
 rfree:=by rw[hb.frozen (p:=⟨w.heap.size,0,none⟩) (by have:=h.own;have:=h.lt;show w.heap.size<wr.heap.size;omega)];exact h.rfree
 below:=h.below.trans (hb.mono h.below.size)
theorem PInv.push {w:World} {ov:Nat} {L:List Ent} {m g5 cp5:Nat} {wA w7:World} (h:PInv w ov L m g5 cp5 wA) {x:Ent} (hx:L[m]?=some x) {g7 cp7:Nat} (hO:OwnE w7 w.heap.size g7 cp7 (putsTo L m++ [putE x])) (hgr:wA.grownBy w7 (some g5)) (hgg:g5=g7∨g7=wA.heap.size):
  PInv w ov L (m+1) g7 cp7 (w7.setCell ⟨ov,0,none⟩ (.slice (some ⟨g7,0,none⟩) (m+1) cp7))∧w7.cell? ⟨ov,0,none⟩=some (.slice (some ⟨g5,0,none⟩) m cp5)∧w7.frozen? ⟨ov,0,none⟩=false:=by
 have hc7:Chg (fun k=>k=g5) wA w7:=Chg.of_grown hgr (fun k hk=>by cases hk;rfl)
 have hc8:Chg (fun k=>k=ov) w7 (w7.setCell ⟨ov,0,none⟩ (.slice (some ⟨g7,0,none⟩) (m+1) cp7)):=Chg.of_set _ _ _ _ rfl
 have s7:=hc7.size
 have s8:=hc8.size
 have hl:=h.lt
 have ho:=h.own
 have hn:=h.new
 have c7:w7.cell? ⟨ov,0,none⟩=some (.slice (some ⟨g5,0,none⟩) m cp5):=by rw[hc7.cell (p:=⟨ov,0,none⟩) hl (fun q=>h.ne q.symm)];exact h.hdr
 have f7:w7.frozen? ⟨ov,0,none⟩=false:=by rw[hc7.frozen (p:=⟨ov,0,none⟩) hl (fun q=>h.ne q.symm)];exact h.free
 have hne7:¬g7=ov:=by
  rcases hgg with q|q
  ·rw[←q];exact h.ne
  ·omega
 refine⟨?_,c7,f7⟩
 exact {
  hdr:=World.cell?_setCell_same _ _ _ c7
  free:=by rw[World.frozen?_setCell];exact f7
  lt:=by omega
  own:=ho
  row:=by
   rw[putsTo_succ hx]
   exact World.ownsRow.kept hO (grown_set w7 ov 0 _) (.inr (fun q=>hne7 (Option.some.inj q)))
  ne:=hne7
  new:=by
   rcases hgg with q|q
   ·rw[←q];exact hn
   ·omega
  res:=by
   rw[hc8.cell (p:=⟨w.heap.size,0,none⟩) (by show w.heap.size<w7.heap.size;omega) (by show¬w.heap.size=ov;omega),hc7.cell (p:=⟨w.heap.size,0,none⟩) (by show w.heap.size<wA.heap.size;omega) (by show¬w.heap.size=g5;omega)]
   exact h.res
  rfree:=by
   rw[hc8.frozen (p:=⟨w.heap.size,0,none⟩) (by show w.heap.size<w7.heap.size;omega) (by show¬w.heap.size=ov;omega),hc7.frozen (p:=⟨w.heap.size,0,none⟩) (by show w.heap.size<wA.heap.size;omega) (by show¬w.heap.size=g5;omega)]
   exact h.rfree
  below:=Chg.below (Chg.below h.below hc7 h.below.size (fun k q=>by omega)) hc8 (by omega) (fun k q=>by omega)}
set_option maxHeartbeats 4000000 in
theorem puts_core (g cap:Nat) (L:List Ent) (base:Nat) (w:World) (hC:OwnC w base g cap L) (hn:L.length≤1048576):
  Calls Tryz.prog 52 #[.slice (some ⟨g,0,none⟩) L.length cap] w fun r w'=>
   ∃g' cp,r=.returned (.agg #[.slice (some ⟨g',0,none⟩) L.length cp])∧OwnE w' w.heap.size g' cp (L.map putE)∧Below w.heap.size w w':=by
 have HC:Hid (OwnC w base g cap L):=hC
 have hgl:=hC.lt.2
 clear hC
 obtain⟨Wa,hWa⟩:=qE (w.alloc (Obj.cells #[.slice none 0 0] 90):World)
 have hba:Below w.heap.size w Wa:=by rw[hWa];exact qB
 have hza:Wa.heap.size=w.heap.size+1:=by rw[hWa];simp
 obtain⟨Wb,hWb⟩:=qE (Wa.alloc (Obj.cells #[] 102):World)
 have hbb:Below Wa.heap.size Wa Wb:=by rw[hWb];exact qB
 have hzb:Wb.heap.size=w.heap.size+1+1:=by rw[hWb];simp[hza]
 obtain⟨Wc,hWc⟩:=qE (Wb.alloc (Obj.cells #[.slice (some ⟨w.heap.size+1,0,none⟩) 0 0] 90):World)
 have hbc:Below Wb.heap.size Wb Wc:=by rw[hWc];exact qB
 have hzc:Wc.heap.size=w.heap.size+1+1+1:=by rw[hWc];simp[hzb]
 have HP:Hid (PInv w (w.heap.size+1+1) L 0 (w.heap.size+1) 0 Wc):=by
  have k1:Below Wa.heap.size Wa Wc:=hbb.trans (hbc.mono (by omega))
  exact {
   hdr:=by rw[hWc,←hzb];simp
   free:=by
    rw[hWc,←hzb]
    exact World.ownsRow.frozenAt (World.ownsRow_lit (base:=0) (e:=90) (size:=1) Wb #[.slice (some ⟨w.heap.size+1,0,none⟩) 0 0] 1 (Nat.zero_le _) (by decide) rfl) 0
   lt:=by omega
   own:=by omega
   row:=by
    have h0:OwnE Wb w.heap.size (w.heap.size+1) 0 []:=by
     rw[hWb,←hza]
     exact World.ownsRow_made Wa #[] 0 (by omega) (Nat.zero_le _) (by simp)
    exact h0.below hbc (by omega)
   ne:=by omega
   new:=by omega
   res:=by
    rw[k1.cell (p:=⟨w.heap.size,0,none⟩) (by show w.heap.size<Wa.heap.size;omega),hWa];simp
   rfree:=by
    rw[k1.frozen (p:=⟨w.heap.size,0,none⟩) (by show w.heap.size<Wa.heap.size;omega),hWa]
    exact World.ownsRow.frozenAt (World.ownsRow_lit (base:=0) (e:=90) (size:=1) w #[.slice none 0 0] 1 (Nat.zero_le _) (by decide) rfl) 0
   below:=hba.trans (k1.mono (by omega))}
 go_enter Tryz.func52,Tryz.ntmps52
 go_wp2_with fail
 rw[←hWa,←hWb,←hWc]
 clear hWa hWb hWc hba hbb hbc
 generalize w.heap.size+1+1=ov at*
 generalize w.heap.size+1=g0 at*
 go_loopw[4] (fun i wr=>∃(m g5 cp5:Nat),m≤L.length∧i=.int .i64 m∧PInv w ov L m g5 cp5 wr) (fun i _=>L.length-(intOf i).toNat)
 case atStart=>exact⟨0,_,_,Nat.zero_le _,rfl,HP.out⟩
 case round=>
  obtain⟨m,g5,cp5,hm,rfl,hI⟩:=hrel
  have HI:Hid (PInv w ov L m g5 cp5 wr):=hI
  have hbw:=hI.below
  have hsw:=hbw.size
  have h0:=hI.hdr
  have hf0:=hI.free
  have hgl5:=hI.row.lt.2
  have hlo:=hI.lt
  clear hI HP
  by_cases hlt:m<L.length
  ·obtain⟨x,hx⟩:∃x,L[m]?=some x:=⟨_,List.getElem?_eq_getElem hlt⟩
   obtain⟨c0,c1,c2,c3,c4⟩:=(HC.below hbw hgl).at m x hx
   simp only[Nat.zero_add,Nat.zero_mul]at c0 c1 c2 c3 c4
   have HX:Hid (L[m]?=some x∧CelsAt wr g 0 L):=⟨hx,(HC.below hbw hgl).at⟩
   have HTM:Hid (m=(putsTo L m).length):=(putsTo_len hm).symm
   have hpl:(putsTo L m).length≤2^30:=by rw[←HTM.out];omega
   clear hx
   have zm:(m:Int)<(L.length:Int):=by omega
   have ngo:g≠ov:=by have:=HI.own;omega
   have hgr0:g<wr.heap.size:=by omega
   go_upto_region 5 with fail
   go_region_law ((first
        |(go_simp;go_at_call 96;refine(specPut_any x _).mono ?_;rintro e' w6 ⟨rfl,hb6⟩;have hq6:Below wr.heap.size wr w6:=((Below.refl wr.heap.size wr).drew).trans hb6;have m6:=(HI.step hq6).hdr;have m6a:∀o,(w6.alloc o).cell? ⟨ov,0,none⟩=some (.slice (some ⟨g5,0,none⟩) m cp5):=fun o=>by {rw[((Below.refl w6.heap.size w6).alloc (Nat.le_refl _) o).cell (p:=⟨ov,0,none⟩) (Nat.lt_of_lt_of_le hlo hq6.size)];exact m6})
        |(refine step_append_ent _ (by rfl) _ _ (by rfl) w.heap.size g5 cp5 m w6.heap.size (putsTo L m) (putE x) HTM.out (by rfl) (by rfl) ?hO ?hc hpl ?hb ?_
          case hO=>exact(HI.step hq6).row.below (qB) (Nat.lt_of_lt_of_le hgl5 hq6.size)
          case hc=>exact ent_boxP w6 (putE x)
          case hb=>exact Nat.le_trans hsw (Nat.le_trans hq6.size (by simp))
          intro g7 cp7 w7 hO7 hgr7 hgg7
          have hpp:=((HI.step hq6).step ((Below.refl w6.heap.size w6).alloc (Nat.le_refl _) (Obj.cells #[.string (putE x).row,.string (putE x).fam,.string (putE x).qual,.int .u64 (putE x).ts,.int .i64 (putE x).kind,.string (putE x).val] 102))).push HX.1 hO7 hgr7 (by simpa using hgg7)
          have fin7:Hid (PInv w ov L (m+1) g7 cp7 (w7.setCell ⟨ov,0,none⟩ (.slice (some ⟨g7,0,none⟩) (m+1) cp7))):=hpp.1
          have m7:=hpp.2.1
          have f7:=hpp.2.2
          clear hpp hO7 hgr7 hgg7)))
   all_goals go_wp2_with fail
   all_goals go_roundw
   all_goals first
    |exact⟨m+1,g7,cp7,by omega,by go_num,fin7.out⟩
    |(go_light;simp[intOf];omega)
  ·have hml:m=L.length:=by omega
   have HF:Hid (OwnE wr w.heap.size g5 cp5 (L.map putE)):=by have:=HI.row;rw[putsTo_all (by omega)]at this;exact this
   have r0:=HI.res
   have rf:=HI.rfree
   have HM:Hid (m=L.length):=hml
   have zm:¬(m:Int)<(L.length:Int):=by omega
   have hnew:=HI.new
   clear hml
   go_wp2_with fail
   refine bodyPost_ret (v:=.agg #[.slice (some ⟨g5,0,none⟩) m cp5]) (by simp[results,Tryz.results52,go_sem,World.cell?_setCell_same _ _ _ r0]) rfl ⟨g5,cp5,by rw[HM.out],?_,?_⟩
   ·exact World.ownsRow.kept HF.out (grown_set wr w.heap.size 0 _) (.inr (fun q=>by have h2:g5=w.heap.size:=Option.some.inj q;omega))
   ·exact hbw.setCell (Nat.le_refl _) _
theorem fold_len:∀(a L:List Ent),(a.foldl into L).length≤L.length+a.length
 | [],L=>Nat.le_refl _
 |e::a,L=>by
  have h1:=fold_len a (into L e)
  have h2:=length_into L e
  show(a.foldl into (into L e)).length≤_
  simp only[List.length_cons]
  omega
set_option maxHeartbeats 8000000 in
theorem l5Union_core {w:World} {ba oa ca bb ob cb:Nat} {la lb:List Ent} (ha:CSl w ba oa ca la) (hb:CSl w bb ob cb lb) (hka:∀x∈la,x.kind=0) (hkb:∀x∈lb,x.kind=0) (hla:la.length≤100000) (hlb:lb.length≤100000):Calls Tryz.prog 97 #[.slice (some ⟨ba,oa,none⟩) la.length ca,.slice (some ⟨bb,ob,none⟩) lb.length cb] w fun e w'=>∃g cp,e=.returned (.slice (some ⟨g,0,none⟩) (uniM la lb).length cp)∧OwnC w' w.heap.size g cp (uniM la lb)∧Below w.heap.size w w':=by
 obtain⟨NA,hNA⟩:∃N,N=la.length:=⟨_,rfl⟩
 obtain⟨NB,hNB⟩:∃N,N=lb.length:=⟨_,rfl⟩
 have HN:Hid (NA=la.length∧NB=lb.length):=⟨hNA,hNB⟩
 have HNA:Hid (NA=la.length):=hNA
 have HNB:Hid (NB=lb.length):=hNB
 have HR:Hid ((∀wx,Below w.heap.size w wx→CSl wx ba oa ca la)∧(∀wx,Below w.heap.size w wx→CSl wx bb ob cb lb)):=⟨fun wx hx=>ha.below hx,fun wx hx=>hb.below hx⟩
 have HK:Hid ((∀x∈la,x.kind=0)∧(∀x∈lb,x.kind=0)):=⟨hka,hkb⟩
 have HO0:Hid (OwnE (w.alloc (Obj.cells #[] 102)) w.heap.size w.heap.size 0 []∧Below w.heap.size w (w.alloc (Obj.cells #[] 102))):=⟨World.ownsRow_made w #[] 0 (Nat.le_refl _) (Nat.zero_le _) (by simp),qB⟩
 have HPre:Hid ((lb.foldl into []).length≤100000):=by
  show _≤_
  have:=fold_len lb []
  simp only[List.length_nil]at this
  omega
 obtain⟨U,hU⟩:=qE (uniM la lb)
 have HU:Hid (U=uniM la lb):=hU
 rw[←hU]
 clear hU
 rw[←hNA,←hNB]
 rw[←hNA]at hla
 rw[←hNB]at hlb
 clear ha hb hka hkb hNA hNB
 go_enter Tryz.func97,Tryz.ntmps97
 go_wp2_with fail
 go_loopw[5,6] (fun o iv wr=>∃(i g cp m:Nat),i≤NB∧iv=.int .i64 (i:Int)∧o=.slice (some ⟨g,0,none⟩) m cp∧Hid (m=((lb.take i).foldl into []).length∧OwnE wr w.heap.size g cp ((lb.take i).foldl into [])∧Below w.heap.size w wr)) (fun _ iv _=>NB-(intOf iv).toNat)
 case atStart=>exact⟨0,w.heap.size,0,0,Nat.zero_le _,rfl,rfl,rfl,HO0.1,HO0.2⟩
 case round=>
  obtain⟨i,g,cp,m,hiN,rfl,rfl,HJ⟩:=hrel
  by_cases hlt:i<NB
  ·have zi:(i:Int)<(NB:Int):=by omega
   obtain⟨c,hc⟩:∃c,lb[i]?=some c:=⟨_,List.getElem?_eq_getElem (by have:=HNB.out;omega)⟩
   have hck:c.kind=0:=HK.2 c (List.mem_of_getElem? hc)
   have HP:Hid (putE c=c):=by show putE c=c;cases c;simp only[putE]at*;subst hck;rfl
   have HStep:Hid ((lb.take (i+1)).foldl into []=into ((lb.take i).foldl into []) c):=by
    show _=_
    rw[List.take_add_one,hc,Option.toList_some,List.foldl_append]
    rfl
   have hml:m≤1048576:=by
    rw[HJ.1]
    have:=fold_len (lb.take i) []
    rw[List.length_take]at this
    simp only[List.length_nil]at this
    omega
   obtain⟨c0,c1,c2,c3,c4⟩:=(HR.2 _ HJ.2.2).at_ i c hc
   have HPt:Hid (∀wx:World,Calls Tryz.prog 96 #[.agg #[.string c.row,.string c.fam,.string c.qual,.int .u64 c.ts,.string c.val]] wx fun r w'=>r=.returned (.agg #[.string c.row,.string c.fam,.string c.qual,.int .u64 c.ts,.int .i64 c.kind,.string c.val])∧Below wx.heap.size wx w'):=fun wx=>by
    have:=specPut_any c wx
    rw[HP.out]at this
    exact this
   go_wp2_with fail
   refine(HPt.out _).mono ?_
   rintro e w2 ⟨rfl,hb2⟩
   have HI:Hid (Calls Tryz.prog 113 #[.slice (some ⟨g,0,none⟩) m cp,.agg #[.string c.row,.string c.fam,.string c.qual,.int .u64 c.ts,.int .i64 c.kind,.string c.val]] w2 fun r w'=>∃g cp,r=.returned (.slice (some ⟨g,0,none⟩) ((lb.take (i+1)).foldl into []).length cp)∧OwnE w' w.heap.size g cp ((lb.take (i+1)).foldl into [])∧Below w.heap.size w w'):=by
    have hO:=HJ.2.1.below hb2 HJ.2.1.lt.2
    have h1:=into_core g 0 cp ((lb.take i).foldl into []) c w2 hO.at hO.lt.2 (by rw[←HJ.1];omega)
    rw[HStep.out,HJ.1]
    refine h1.mono ?_
    rintro r w' ⟨g',cp',rfl,hO',hb'⟩
    have hz:=HJ.2.2.size
    have hz2:=hb2.size
    exact⟨g',cp',rfl,by
     rcases hO'.2 with⟨q,_⟩|⟨g9,cap9,cur,hv,q1,q2⟩
     ·cases q
     ·exact⟨hO'.1,.inr ⟨g9,cap9,cur,hv,by omega,q2⟩⟩,HJ.2.2.trans ((hb2.trans (hb'.mono hz2)).mono hz)⟩
   clear c0 c1 c2 c3 c4 hb2 hc hck
   go_wp2_with fail
   refine HI.mono ?_
   rintro e w3 ⟨g',cp',rfl,hO',hb3⟩
   have HJ2:Hid (OwnE w3 w.heap.size g' cp' ((lb.take (i+1)).foldl into [])∧Below w.heap.size w w3):=⟨hO',hb3⟩
   exact zzQ68
  ·obtain rfl:i=NB:=by omega
   have zi:¬(i:Int)<(i:Int):=by omega
   have HJ1:Hid (m=(lb.foldl into []).length∧OwnE wr w.heap.size g cp (lb.foldl into [])∧Below w.heap.size w wr):=by
    have:=HJ.out
    rw[show lb.take i=lb by rw[HNB.out,List.take_length]]at this
    exact this
   clear HJ
   go_wp2_with fail
   go_loopw[5,7] (fun o iv wr=>∃(i g cp m:Nat),i≤NA∧iv=.int .i64 (i:Int)∧o=.slice (some ⟨g,0,none⟩) m cp∧Hid (m=((la.take i).foldl into (lb.foldl into [])).length∧OwnE wr w.heap.size g cp ((la.take i).foldl into (lb.foldl into []))∧Below w.heap.size w wr)) (fun _ iv _=>NA-(intOf iv).toNat)
   case atStart=>exact⟨0,g,cp,m,Nat.zero_le _,rfl,rfl,HJ1.1,HJ1.2.1,HJ1.2.2⟩
   case round=>
    obtain⟨i,g,cp,m,hiN,rfl,rfl,HJ⟩:=hrel
    by_cases hlt:i<NA
    ·have zi:(i:Int)<(NA:Int):=by omega
     obtain⟨c,hc⟩:∃c,la[i]?=some c:=⟨_,List.getElem?_eq_getElem (by have:=HNA.out;omega)⟩
     have hck:c.kind=0:=HK.1 c (List.mem_of_getElem? hc)
     have HP:Hid (putE c=c):=by show putE c=c;cases c;simp only[putE]at*;subst hck;rfl
     have HStep:Hid ((la.take (i+1)).foldl into (lb.foldl into [])=into ((la.take i).foldl into (lb.foldl into [])) c):=by
      show _=_
      rw[List.take_add_one,hc,Option.toList_some,List.foldl_append]
      rfl
     have hml:m≤1048576:=by
      rw[HJ.1]
      have:=fold_len (la.take i) (lb.foldl into [])
      rw[List.length_take]at this
      have h0:=HPre.out
      omega
     obtain⟨c0,c1,c2,c3,c4⟩:=(HR.1 _ HJ.2.2).at_ i c hc
     have HPt:Hid (∀wx:World,Calls Tryz.prog 96 #[.agg #[.string c.row,.string c.fam,.string c.qual,.int .u64 c.ts,.string c.val]] wx fun r w'=>r=.returned (.agg #[.string c.row,.string c.fam,.string c.qual,.int .u64 c.ts,.int .i64 c.kind,.string c.val])∧Below wx.heap.size wx w'):=fun wx=>by
      have:=specPut_any c wx
      rw[HP.out]at this
      exact this
     go_wp2_with fail
     refine(HPt.out _).mono ?_
     rintro e w2 ⟨rfl,hb2⟩
     have HI:Hid (Calls Tryz.prog 113 #[.slice (some ⟨g,0,none⟩) m cp,.agg #[.string c.row,.string c.fam,.string c.qual,.int .u64 c.ts,.int .i64 c.kind,.string c.val]] w2 fun r w'=>∃g cp,r=.returned (.slice (some ⟨g,0,none⟩) ((la.take (i+1)).foldl into (lb.foldl into [])).length cp)∧OwnE w' w.heap.size g cp ((la.take (i+1)).foldl into (lb.foldl into []))∧Below w.heap.size w w'):=by
      have hO:=HJ.2.1.below hb2 HJ.2.1.lt.2
      have h1:=into_core g 0 cp ((la.take i).foldl into (lb.foldl into [])) c w2 hO.at hO.lt.2 (by rw[←HJ.1];omega)
      rw[HStep.out,HJ.1]
      refine h1.mono ?_
      rintro r w' ⟨g',cp',rfl,hO',hb'⟩
      have hz:=HJ.2.2.size
      have hz2:=hb2.size
      exact⟨g',cp',rfl,by
       rcases hO'.2 with⟨q,_⟩|⟨g9,cap9,cur,hv,q1,q2⟩
       ·cases q
       ·exact⟨hO'.1,.inr ⟨g9,cap9,cur,hv,by omega,q2⟩⟩,HJ.2.2.trans ((hb2.trans (hb'.mono hz2)).mono hz)⟩
     clear c0 c1 c2 c3 c4 hb2 hc hck
     go_wp2_with fail
     refine HI.mono ?_
     rintro e w3 ⟨g',cp',rfl,hO',hb3⟩
     have HJ2:Hid (OwnE w3 w.heap.size g' cp' ((la.take (i+1)).foldl into (lb.foldl into []))∧Below w.heap.size w w3):=⟨hO',hb3⟩
     exact zzQ68
    ·obtain rfl:i=NA:=by omega
     have zi:¬(i:Int)<(i:Int):=by omega
     have hUl:m≤200000:=by
      rw[HJ.1]
      have:=fold_len (la.take i) (lb.foldl into [])
      rw[List.length_take]at this
      have h0:=HPre.out
      omega
     obtain⟨ob5,hob5⟩:∃x,x=wr.heap.size:=⟨_,rfl⟩
     have HJ2:Hid (m=U.length∧OwnE wr w.heap.size g cp U∧Below w.heap.size w wr):=by
      have:=HJ.out
      rw[show la.take i=la by rw[HNA.out,List.take_length]]at this
      rw[HU.out]
      exact this
     clear HJ HJ1
     have HC0:Hid (OwnC (wr.alloc (Obj.cells #[] 55)) w.heap.size wr.heap.size 0 []∧Below wr.heap.size wr (wr.alloc (Obj.cells #[] 55))):=⟨(ownC_new wr).mono HJ2.2.2.size,qB⟩
     go_wp2_with fail
     go_loopw[8,9] (fun o iv wx=>∃(i g5 cp5:Nat),i≤m∧iv=.int .i64 (i:Int)∧o=.slice (some ⟨g5,0,none⟩) i cp5∧Hid (i=(U.take i).length∧OwnC wx w.heap.size g5 cp5 (U.take i)∧OwnE wx w.heap.size g cp U∧Below w.heap.size w wx)) (fun _ iv _=>m-(intOf iv).toNat)
     case atStart=>exact⟨0,wr.heap.size,0,Nat.zero_le _,rfl,rfl,rfl,HC0.1,HJ2.2.1.below HC0.2 HJ2.2.1.lt.2,HJ2.2.2.trans (HC0.2.mono HJ2.2.2.size)⟩
     case round=>
      obtain⟨i,g5,cp5,him,rfl,rfl,HQ⟩:=hrel
      by_cases hlt2:i<m
      ·have zi2:(i:Int)<(m:Int):=by omega
       obtain⟨x,hx⟩:∃x,U[i]?=some x:=⟨_,List.getElem?_eq_getElem (by have:=HJ2.1;omega)⟩
       have HX:Hid (U.take (i+1)=U.take i++ [x]):=by show _=_;rw[List.take_add_one,hx];rfl
       obtain⟨c0,c1,c2,c3,c4,c5⟩:=HQ.2.2.1.at i x hx
       simp only[Nat.zero_add]at c0 c1 c2 c3 c4 c5
       have hgl:=HQ.2.2.1.lt
       have hg5:=HQ.2.1.lt
       have hbs:=HQ.2.2.2.size
       have hne:¬g=g5:=fun q=>own_apart HQ.2.1 HQ.2.2.1 (by decide) g5 rfl (by rw[←q];rfl)
       have HSc:Hid (∀wx,Calls Tryz.prog 114 #[.agg #[.string x.row,.string x.fam,.string x.qual,.int .u64 x.ts,.int .i64 x.kind,.string x.val]] wx fun r w'=>r=.returned x.c∧Below wx.heap.size wx w'):=fun wx=>specCell_any x wx
       clear hx
       go_wp2_with fail
       refine(HSc.out _).mono ?_
       rintro e w3 ⟨rfl,hb3⟩
       have hs3:=hb3.size
       have HM3:Hid (OwnC w3 w.heap.size g5 cp5 (U.take i)∧OwnE w3 w.heap.size g cp U∧Below w.heap.size w w3):=⟨HQ.2.1.below hb3 hg5.2,HQ.2.2.1.below hb3 hgl.2,HQ.2.2.2.trans (hb3.mono hbs)⟩
       have HTM:Hid (i=(U.take i).length):=HQ.1
       clear c0 c1 c2 c3 c4 c5 hb3
       go_wp2_with (at_builtin;refine wpList_append_cel _ rfl _ _ rfl w.heap.size g5 cp5 _ _ (U.take i) x rfl rfl HTM.out ?hO ?hc ?hl ?hb ?_)
       case hO=>exact HM3.1.below (qB) (by omega)
       case hc=>exact cel_new w3 x
       case hl=>rw[←HTM.out];omega
       case hb=>simp;omega
       intro g' cp' w' hO' hgr
       have HN2:Hid (i+1=(U.take (i+1)).length∧OwnC w' w.heap.size g' cp' (U.take (i+1))∧OwnE w' w.heap.size g cp U∧Below w.heap.size w w'):=by
        have hc':Chg (fun k=>k=g5) (w3.alloc (Obj.cells #[.string x.row,.string x.fam,.string x.qual,.int .u64 x.ts,.string x.val] 55)) w':=Chg.of_grown hgr (fun k q=>by cases q;rfl)
        rw[HX.out]
        refine⟨by rw[List.length_append,←HTM.out];rfl,hO',?_,(HM3.2.2.alloc HM3.2.2.size _).grown hgr (by simp;omega) (fun j hj=>by cases hj;omega)⟩
        exact own_chg (HM3.2.1.below (qB) (by omega)) hc' (fun k q=>by simp[Value.ownBlock]at q;subst q;exact hne)
       clear hO' hgr
       go_wp2_with fail
       go_roundw
       case rel=>exact⟨i+1,g',cp',by omega,by go_num,rfl,HN2.out⟩
       case measure=>go_light;simp[intOf];omega
      ·obtain rfl:i=m:=by omega
       have zi2:¬(i:Int)<(i:Int):=by omega
       have HT:Hid (U.take i=U):=by show U.take i=U;rw[HJ2.1,List.take_length]
       go_wp2_with fail
       go_ret
       refine⟨g5,cp5,?_,?_,HQ.2.2.2⟩
       ·rw[←HJ2.1];rfl
       ·have:=HQ.2.1
        rw[HT.out]at this
        exact this
def MeP (t:CT) (es:List Ent) (w:World) (e:Ending) (w':World):Prop:=∃g cp,e=.returned (.slice (some ⟨g,0,none⟩) (mean t es).length cp)∧Hid (OwnC w' w.heap.size g cp (mean t es)∧Below w.heap.size w w')
def MeC (m:Nat):Prop:=∀(w:World) (b o cap:Nat) (xs:List Nd) (t:CT) (rb ro rc:Nat) (es:List Ent),xs.length≤m→Win w b o cap xs→TreeF xs t→(∀x∈xs,x.s.size≤maxLen)→CSl w rb ro rc es→Sub es es→es.length≤10000→
 Calls Tryz.prog 54 #[.slice (some ⟨b,o,none⟩) xs.length cap,.slice (some ⟨rb,ro,none⟩) es.length rc] w (MeP t es w)
theorem treeF_isT {xs:List Nd} {t:CT} (h:TreeF xs t):IsT 1 xs:=by
 have:=TrV.tree _ h
 exact this
structure KidC (m:Nat) (w:World) (v:Value) (t:CT):Prop where
 call:∀(wx:World) (rb ro rc:Nat) (es:List Ent),Below w.heap.size w wx→CSl wx rb ro rc es→Sub es es→es.length≤10000→Calls Tryz.prog 54 #[v,.slice (some ⟨rb,ro,none⟩) es.length rc] wx (MeP t es wx)
theorem kidC_of {m:Nat} (H:MeC m) {w:World} {b o cap:Nat} {xs:List Nd} {t:CT} (hm:xs.length≤m) (hW:Win w b o cap xs) (hT:TreeF xs t) (hs:∀x∈xs,x.s.size≤maxLen):KidC m w (.slice (some ⟨b,o,none⟩) xs.length cap) t:=
 ⟨fun wx rb ro rc es hb hC hS hl=>H wx b o cap xs t rb ro rc es hm (hW.below hb) hT hs hC hS hl⟩
set_option maxHeartbeats 4000000 in
theorem mean_chain {m:Nat} (H:MeC m) (n:Nd) (w:World) (b o cap rb ro rc:Nat) (es:List Ent) {ta tb:CT} {ka kb:List Nd} (hk:n.kind=14) (ha:TreeF ka ta) (hb:TreeF kb tb) (hm:(ka++kb++ [n]).length≤m+1) (hW:Win w b o cap (ka++kb++ [n])) (hsz:∀x∈ka++kb++ [n],x.s.size≤maxLen) (hC:CSl w rb ro rc es) (hS:Sub es es) (hel:es.length≤10000):
  Calls Tryz.prog 54 #[.slice (some ⟨b,o,none⟩) (ka++kb++ [n]).length cap,.slice (some ⟨rb,ro,none⟩) es.length rc] w (MeP (.chain n ta tb) es w):=by
 have e0:ka++kb++ [n]=([ka,kb]:List (List Nd)).flatten++ [n]:=by simp
 rw[e0]at hW hm hsz⊢
 have HKs:Hid (Calls Tryz.prog 91 #[.slice (some ⟨b,o,none⟩) (([ka,kb]:List (List Nd)).flatten.length+1) cap] w fun r w'=>∃g cp,r=.returned (.slice (some ⟨g,0,none⟩) 2 cp)∧OwnV w' w.heap.size g cp (kidVs b o cap [ka,kb])∧Below w.heap.size w w'):=
  l5Kids_core hW (by show 2=arity n.kind;rw[hk];rfl) (by
   intro k hkm
   simp only[List.mem_cons,List.not_mem_nil,or_false]at hkm
   rcases hkm with rfl|rfl
   ·exact treeF_isT ha
   ·exact treeF_isT hb)
 have HTp:Hid (∀wx,Below w.heap.size w wx→Calls Tryz.prog 90 #[.slice (some ⟨b,o,none⟩) (([ka,kb]:List (List Nd)).flatten.length+1) cap] wx fun r w'=>r=.returned (.int .i64 n.kind)∧w'=wx):=fun wx hx=>l5Top_core (hW.below hx)
 obtain⟨o0,cap0,hv0,hW0⟩:=kidVs_nth hW (j:=0) (k:=ka) rfl
 have g0:ka.length≤([ka,kb]:List (List Nd)).flatten.length:=by simp only[List.flatten_cons,List.flatten_nil,List.length_append,List.length_nil];omega
 have gm0:ka.length≤m:=by have h9:=hm;rw[List.length_append,List.length_singleton]at h9;omega
 have HK0:Hid (KidC m w (.slice (some ⟨b,o0,none⟩) ka.length cap0) ta):=kidC_of H gm0 hW0 ha (fun x hx=>hsz x (by simp[hx]))
 have hkl0:ka.length≤cap:=by have h9:=hW.len;rw[List.length_append,List.length_singleton]at h9;omega
 obtain⟨l0,hl0⟩:∃l,l=ka.length:=⟨_,rfl⟩
 rw[←hl0]at HK0 hv0 hkl0
 clear g0 gm0
 obtain⟨o1,cap1,hv1,hW1⟩:=kidVs_nth hW (j:=1) (k:=kb) rfl
 have g1:kb.length≤([ka,kb]:List (List Nd)).flatten.length:=by simp only[List.flatten_cons,List.flatten_nil,List.length_append,List.length_nil];omega
 have gm1:kb.length≤m:=by have h9:=hm;rw[List.length_append,List.length_singleton]at h9;omega
 have HK1:Hid (KidC m w (.slice (some ⟨b,o1,none⟩) kb.length cap1) tb):=kidC_of H gm1 hW1 hb (fun x hx=>hsz x (by simp[hx]))
 have hkl1:kb.length≤cap:=by have h9:=hW.len;rw[List.length_append,List.length_singleton]at h9;omega
 obtain⟨l1,hl1⟩:∃l,l=kb.length:=⟨_,rfl⟩
 rw[←hl1]at HK1 hv1 hkl1
 clear g1 gm1
 rw[List.length_append,List.length_singleton]
 obtain⟨L,hL⟩:=qE (([ka,kb]:List (List Nd)).flatten.length)
 rw[←hL]at HKs HTp⊢
 have hcp:=hW.cap
 have hLc:L+1≤cap:=by have h9:=hW.len;rw[List.length_append,List.length_singleton]at h9;omega
 obtain⟨kd,hkd⟩:=qE n.kind
 rw[←hkd]at hk HTp
 subst hk
 have HR:Hid (CSl w rb ro rc es∧Sub es es∧es.length≤10000):=⟨hC,hS,hel⟩
 obtain⟨N,hN⟩:=qE es.length
 have HNl:Hid (N=es.length):=hN
 rw[←hN]
 clear hW hm hsz e0 hL hW0 hl0 hW1 hl1 hC hS hel hN
 go_enter Tryz.func54,Tryz.ntmps54
 go_wp2_with fail
 refine HKs.mono ?_
 rintro r w1 ⟨g,cp,rfl,hO,hb1⟩
 have HO1:Hid (OwnV w1 w.heap.size g cp (kidVs b o cap [ka,kb])∧Below w.heap.size w w1):=⟨hO,hb1⟩
 have HT1:=HTp.out w1 hb1
 have HTp1:Hid (Calls Tryz.prog 90 #[.slice (some ⟨b,o,none⟩) (L+1) cap] w1 fun r w'=>r=.returned (.int .i64 14)∧w'=w1):=HT1
 clear HKs HT1 HTp hb1
 go_wp2_with fail
 refine HTp1.mono ?_
 rintro r w2 ⟨rfl,hw2⟩
 rw[hw2]
 clear hw2 HTp1
 have x0:w1.cell? ⟨g,0,none⟩=some (.slice (some ⟨b,o0,none⟩) l0 cap0):=hO.cell hv0
 have x1:w1.cell? ⟨g,1,none⟩=some (.slice (some ⟨b,o1,none⟩) l1 cap1):=hO.cell hv1
 have hgl:=hO.lt.2
 clear hO hv0 hv1
 have hS0:(fun w':World=>w'.cell? ⟨g,0,none⟩=some (.slice (some ⟨b,o0,none⟩) l0 cap0)∧w'.cell? ⟨g,1,none⟩=some (.slice (some ⟨b,o1,none⟩) l1 cap1)) w1.drew:=⟨x0,x1⟩
 have hd1:Below w1.heap.size w1 w1.drew:=(Below.refl _ _).drew
 have HBd:Hid (Below w.heap.size w w1.drew):=HO1.2.trans (hd1.mono HO1.2.size)
 have HC0:Hid (Calls Tryz.prog 54 #[.slice (some ⟨b,o0,none⟩) l0 cap0,.slice (some ⟨rb,ro,none⟩) N rc] w1.drew (MeP ta es w1.drew)):=by
  rw[HNl.out];exact HK0.call w1.drew rb ro rc es HBd.out (HR.1.below HBd.out) HR.2.1 HR.2.2
 go_upto_region 4 with fail
 refine wp_region_T 99 (fun w':World=>w'.cell? ⟨g,0,none⟩=some (.slice (some ⟨b,o0,none⟩) l0 cap0)∧w'.cell? ⟨g,1,none⟩=some (.slice (some ⟨b,o1,none⟩) l1 cap1)) (by kernel_rfl) ?_
 refine qT 0 ?vmc0 rfl ?ymc0 hS0 ?_
 case ymc0=>exact zzR2
 try simp only[qA,List.getElem_toArray,List.getElem_cons_zero,List.getElem_cons_succ]
 refine qT 1 ?vmc1 rfl ?ymc1 hS0 ?_
 case ymc1=>exact zzR2
 try simp only[qA,List.getElem_toArray,List.getElem_cons_zero,List.getElem_cons_succ]
 refine qT 2 ?vmc2 rfl ?ymc2 hS0 ?_
 case ymc2=>exact zzR2
 try simp only[qA,List.getElem_toArray,List.getElem_cons_zero,List.getElem_cons_succ]
 refine qT 3 ?vmc3 rfl ?ymc3 hS0 ?_
 case ymc3=>exact zzR2
 try simp only[qA,List.getElem_toArray,List.getElem_cons_zero,List.getElem_cons_succ]
 refine qT 4 ?vmc4 rfl ?ymc4 hS0 ?_
 case ymc4=>exact zzR2
 try simp only[qA,List.getElem_toArray,List.getElem_cons_zero,List.getElem_cons_succ]
 refine qT 5 ?vmc5 rfl ?ymc5 hS0 ?_
 case ymc5=>exact zzR2
 try simp only[qA,List.getElem_toArray,List.getElem_cons_zero,List.getElem_cons_succ]
 refine qT 6 ?vmc6 rfl ?ymc6 hS0 ?_
 case ymc6=>exact zzR2
 try simp only[qA,List.getElem_toArray,List.getElem_cons_zero,List.getElem_cons_succ]
 refine qO 7 rfl fun K hK=>?_
 go_simp
 go_at_call 54
 refine HC0.mono ?_
 rintro e w3 ⟨g3,cp3,rfl,H3⟩
 have hb3:Below w1.heap.size w1 w3:=hd1.trans H3.2
 have hS3:(fun w':World=>w'.cell? ⟨g,0,none⟩=some (.slice (some ⟨b,o0,none⟩) l0 cap0)∧w'.cell? ⟨g,1,none⟩=some (.slice (some ⟨b,o1,none⟩) l1 cap1)) w3:=⟨by rw[(Chg.of_below hb3 (S:=fun _=>False)).cell (p:=⟨g,0,none⟩) hgl (fun q=>q)];exact x0,by rw[(Chg.of_below hb3 (S:=fun _=>False)).cell (p:=⟨g,1,none⟩) hgl (fun q=>q)];exact x1⟩
 have HB3:Hid (Below w.heap.size w w3):=HO1.2.trans (hb3.mono HO1.2.size)
 have hsb:=mean_sub ta HR.2.1
 have HC1:Hid (Calls Tryz.prog 54 #[.slice (some ⟨b,o1,none⟩) l1 cap1,.slice (some ⟨g3,0,none⟩) (mean ta es).length cp3] w3 (MeP tb (mean ta es) w3)):=HK1.call w3 g3 0 cp3 (mean ta es) HB3.out H3.1.sl hsb.self (by have h8:=hsb.len HR.2.1.ord;have h9:=HR.2.2;omega)
 clear hb3 hsb
 refine hK.out _ _ (.inr hS3) ?_
 clear hK
 try simp only[qA,List.getElem_toArray,List.getElem_cons_zero,List.getElem_cons_succ]
 refine qO 8 rfl fun K hK=>?_
 go_simp
 go_at_call 54
 refine HC1.mono ?_
 rintro e w4 ⟨g4,cp4,rfl,H4⟩
 have hS4:(fun w':World=>w'.cell? ⟨g,0,none⟩=some (.slice (some ⟨b,o0,none⟩) l0 cap0)∧w'.cell? ⟨g,1,none⟩=some (.slice (some ⟨b,o1,none⟩) l1 cap1)) w4:=⟨by rw[(Chg.of_below H4.2 (S:=fun _=>False)).cell (p:=⟨g,0,none⟩) (Nat.lt_of_lt_of_le hgl (Nat.le_trans hd1.size H3.2.size)) (fun q=>q)];exact hS3.1,by rw[(Chg.of_below H4.2 (S:=fun _=>False)).cell (p:=⟨g,1,none⟩) (Nat.lt_of_lt_of_le hgl (Nat.le_trans hd1.size H3.2.size)) (fun q=>q)];exact hS3.2⟩
 have HE:Hid (OwnC w4 w.heap.size g4 cp4 (mean (.chain n ta tb) es)∧Below w.heap.size w w4):=⟨H4.1.mono HB3.size,HB3.trans (H4.2.mono HB3.size)⟩
 refine hK.out _ _ (.inr hS4) ?_
 clear hK
 try simp only[qA,List.getElem_toArray,List.getElem_cons_zero,List.getElem_cons_succ]
 refine qT 9 ?vmc9 rfl ?ymc9 hS4 ?_
 case ymc9=>exact zzR2
 try simp only[qA,List.getElem_toArray,List.getElem_cons_zero,List.getElem_cons_succ]
 refine qD ?_
 go_wp2_with fail
 go_ret
 exact⟨g4,cp4,rfl,HE.out⟩
set_option maxHeartbeats 4000000 in
theorem mean_inter {m:Nat} (H:MeC m) (n:Nd) (w:World) (b o cap rb ro rc:Nat) (es:List Ent) {ta tb:CT} {ka kb:List Nd} (hk:n.kind=15) (ha:TreeF ka ta) (hb:TreeF kb tb) (hm:(ka++kb++ [n]).length≤m+1) (hW:Win w b o cap (ka++kb++ [n])) (hsz:∀x∈ka++kb++ [n],x.s.size≤maxLen) (hC:CSl w rb ro rc es) (hS:Sub es es) (hel:es.length≤10000):
  Calls Tryz.prog 54 #[.slice (some ⟨b,o,none⟩) (ka++kb++ [n]).length cap,.slice (some ⟨rb,ro,none⟩) es.length rc] w (MeP (.inter n ta tb) es w):=by
 have e0:ka++kb++ [n]=([ka,kb]:List (List Nd)).flatten++ [n]:=by simp
 rw[e0]at hW hm hsz⊢
 have HKs:Hid (Calls Tryz.prog 91 #[.slice (some ⟨b,o,none⟩) (([ka,kb]:List (List Nd)).flatten.length+1) cap] w fun r w'=>∃g cp,r=.returned (.slice (some ⟨g,0,none⟩) 2 cp)∧OwnV w' w.heap.size g cp (kidVs b o cap [ka,kb])∧Below w.heap.size w w'):=
  l5Kids_core hW (by show 2=arity n.kind;rw[hk];rfl) (by
   intro k hkm
   simp only[List.mem_cons,List.not_mem_nil,or_false]at hkm
   rcases hkm with rfl|rfl
   ·exact treeF_isT ha
   ·exact treeF_isT hb)
 have HTp:Hid (∀wx,Below w.heap.size w wx→Calls Tryz.prog 90 #[.slice (some ⟨b,o,none⟩) (([ka,kb]:List (List Nd)).flatten.length+1) cap] wx fun r w'=>r=.returned (.int .i64 n.kind)∧w'=wx):=fun wx hx=>l5Top_core (hW.below hx)
 obtain⟨o0,cap0,hv0,hW0⟩:=kidVs_nth hW (j:=0) (k:=ka) rfl
 have g0:ka.length≤([ka,kb]:List (List Nd)).flatten.length:=by simp only[List.flatten_cons,List.flatten_nil,List.length_append,List.length_nil];omega
 have gm0:ka.length≤m:=by have h9:=hm;rw[List.length_append,List.length_singleton]at h9;omega
 have HK0:Hid (KidC m w (.slice (some ⟨b,o0,none⟩) ka.length cap0) ta):=kidC_of H gm0 hW0 ha (fun x hx=>hsz x (by simp[hx]))
 have hkl0:ka.length≤cap:=by have h9:=hW.len;rw[List.length_append,List.length_singleton]at h9;omega
 obtain⟨l0,hl0⟩:∃l,l=ka.length:=⟨_,rfl⟩
 rw[←hl0]at HK0 hv0 hkl0
 clear g0 gm0
 obtain⟨o1,cap1,hv1,hW1⟩:=kidVs_nth hW (j:=1) (k:=kb) rfl
 have g1:kb.length≤([ka,kb]:List (List Nd)).flatten.length:=by simp only[List.flatten_cons,List.flatten_nil,List.length_append,List.length_nil];omega
 have gm1:kb.length≤m:=by have h9:=hm;rw[List.length_append,List.length_singleton]at h9;omega
 have HK1:Hid (KidC m w (.slice (some ⟨b,o1,none⟩) kb.length cap1) tb):=kidC_of H gm1 hW1 hb (fun x hx=>hsz x (by simp[hx]))
 have hkl1:kb.length≤cap:=by have h9:=hW.len;rw[List.length_append,List.length_singleton]at h9;omega
 obtain⟨l1,hl1⟩:∃l,l=kb.length:=⟨_,rfl⟩
 rw[←hl1]at HK1 hv1 hkl1
 clear g1 gm1
 rw[List.length_append,List.length_singleton]
 obtain⟨L,hL⟩:=qE (([ka,kb]:List (List Nd)).flatten.length)
 rw[←hL]at HKs HTp⊢
 have hcp:=hW.cap
 have hLc:L+1≤cap:=by have h9:=hW.len;rw[List.length_append,List.length_singleton]at h9;omega
 obtain⟨kd,hkd⟩:=qE n.kind
 rw[←hkd]at hk HTp
 subst hk
 have HR:Hid (CSl w rb ro rc es∧Sub es es∧es.length≤10000):=⟨hC,hS,hel⟩
 obtain⟨N,hN⟩:=qE es.length
 have HNl:Hid (N=es.length):=hN
 rw[←hN]
 clear hW hm hsz e0 hL hW0 hl0 hW1 hl1 hC hS hel hN
 go_enter Tryz.func54,Tryz.ntmps54
 go_wp2_with fail
 refine HKs.mono ?_
 rintro r w1 ⟨g,cp,rfl,hO,hb1⟩
 have HO1:Hid (OwnV w1 w.heap.size g cp (kidVs b o cap [ka,kb])∧Below w.heap.size w w1):=⟨hO,hb1⟩
 have HT1:=HTp.out w1 hb1
 have HTp1:Hid (Calls Tryz.prog 90 #[.slice (some ⟨b,o,none⟩) (L+1) cap] w1 fun r w'=>r=.returned (.int .i64 15)∧w'=w1):=HT1
 clear HKs HT1 HTp hb1
 go_wp2_with fail
 refine HTp1.mono ?_
 rintro r w2 ⟨rfl,hw2⟩
 rw[hw2]
 clear hw2 HTp1
 have x0:w1.cell? ⟨g,0,none⟩=some (.slice (some ⟨b,o0,none⟩) l0 cap0):=hO.cell hv0
 have x1:w1.cell? ⟨g,1,none⟩=some (.slice (some ⟨b,o1,none⟩) l1 cap1):=hO.cell hv1
 have hgl:=hO.lt.2
 clear hO hv0 hv1
 have hS0:(fun w':World=>w'.cell? ⟨g,0,none⟩=some (.slice (some ⟨b,o0,none⟩) l0 cap0)∧w'.cell? ⟨g,1,none⟩=some (.slice (some ⟨b,o1,none⟩) l1 cap1)) w1.drew:=⟨x0,x1⟩
 have hd1:Below w1.heap.size w1 w1.drew:=(Below.refl _ _).drew
 have HBd:Hid (Below w.heap.size w w1.drew):=HO1.2.trans (hd1.mono HO1.2.size)
 have HC0:Hid (Calls Tryz.prog 54 #[.slice (some ⟨b,o0,none⟩) l0 cap0,.slice (some ⟨rb,ro,none⟩) N rc] w1.drew (MeP ta es w1.drew)):=by
  rw[HNl.out];exact HK0.call w1.drew rb ro rc es HBd.out (HR.1.below HBd.out) HR.2.1 HR.2.2
 go_upto_region 6 with fail
 refine wp_region_T 99 (fun w':World=>w'.cell? ⟨g,0,none⟩=some (.slice (some ⟨b,o0,none⟩) l0 cap0)∧w'.cell? ⟨g,1,none⟩=some (.slice (some ⟨b,o1,none⟩) l1 cap1)) (by kernel_rfl) ?_
 refine qT 0 ?vmi0 rfl ?ymi0 hS0 ?_
 case ymi0=>exact zzR2
 try simp only[qA,List.getElem_toArray,List.getElem_cons_zero,List.getElem_cons_succ]
 refine qT 1 ?vmi1 rfl ?ymi1 hS0 ?_
 case ymi1=>exact zzR2
 try simp only[qA,List.getElem_toArray,List.getElem_cons_zero,List.getElem_cons_succ]
 refine qT 2 ?vmi2 rfl ?ymi2 hS0 ?_
 case ymi2=>exact zzR2
 try simp only[qA,List.getElem_toArray,List.getElem_cons_zero,List.getElem_cons_succ]
 refine qT 3 ?vmi3 rfl ?ymi3 hS0 ?_
 case ymi3=>exact zzR2
 try simp only[qA,List.getElem_toArray,List.getElem_cons_zero,List.getElem_cons_succ]
 refine qT 5 ?vmi5 rfl ?ymi5 hS0 ?_
 case ymi5=>exact zzR2
 try simp only[qA,List.getElem_toArray,List.getElem_cons_zero,List.getElem_cons_succ]
 refine qT 6 ?vmi6 rfl ?ymi6 hS0 ?_
 case ymi6=>exact zzR2
 try simp only[qA,List.getElem_toArray,List.getElem_cons_zero,List.getElem_cons_succ]
 refine qT 7 ?vmi7 rfl ?ymi7 hS0 ?_
 case ymi7=>exact zzR2
 try simp only[qA,List.getElem_toArray,List.getElem_cons_zero,List.getElem_cons_succ]
 refine qT 8 ?vmi8 rfl ?ymi8 hS0 ?_
 case ymi8=>exact zzR2
 try simp only[qA,List.getElem_toArray,List.getElem_cons_zero,List.getElem_cons_succ]
 refine qO 4 rfl fun K hK=>?_
 go_simp
 go_at_call 54
 refine HC0.mono ?_
 rintro e w3 ⟨g3,cp3,rfl,H3⟩
 have hb3:Below w1.heap.size w1 w3:=hd1.trans H3.2
 have hS3:(fun w':World=>w'.cell? ⟨g,0,none⟩=some (.slice (some ⟨b,o0,none⟩) l0 cap0)∧w'.cell? ⟨g,1,none⟩=some (.slice (some ⟨b,o1,none⟩) l1 cap1)) w3:=⟨by rw[(Chg.of_below hb3 (S:=fun _=>False)).cell (p:=⟨g,0,none⟩) hgl (fun q=>q)];exact x0,by rw[(Chg.of_below hb3 (S:=fun _=>False)).cell (p:=⟨g,1,none⟩) hgl (fun q=>q)];exact x1⟩
 have HB3:Hid (Below w.heap.size w w3):=HO1.2.trans (hb3.mono HO1.2.size)
 have HC1:Hid (Calls Tryz.prog 54 #[.slice (some ⟨b,o1,none⟩) l1 cap1,.slice (some ⟨rb,ro,none⟩) N rc] w3 (MeP tb es w3)):=by
  rw[HNl.out];exact HK1.call w3 rb ro rc es HB3.out (HR.1.below HB3.out) HR.2.1 HR.2.2
 clear hb3
 refine hK.out _ _ (.inr hS3) ?_
 clear hK
 try simp only[qA,List.getElem_toArray,List.getElem_cons_zero,List.getElem_cons_succ]
 refine qO 9 rfl fun K hK=>?_
 go_simp
 go_at_call 54
 refine HC1.mono ?_
 rintro e w4 ⟨g4,cp4,rfl,H4⟩
 have hS4:(fun w':World=>w'.cell? ⟨g,0,none⟩=some (.slice (some ⟨b,o0,none⟩) l0 cap0)∧w'.cell? ⟨g,1,none⟩=some (.slice (some ⟨b,o1,none⟩) l1 cap1)) w4:=⟨by rw[(Chg.of_below H4.2 (S:=fun _=>False)).cell (p:=⟨g,0,none⟩) (Nat.lt_of_lt_of_le hgl (Nat.le_trans hd1.size H3.2.size)) (fun q=>q)];exact hS3.1,by rw[(Chg.of_below H4.2 (S:=fun _=>False)).cell (p:=⟨g,1,none⟩) (Nat.lt_of_lt_of_le hgl (Nat.le_trans hd1.size H3.2.size)) (fun q=>q)];exact hS3.2⟩
 have HB4:Hid (Below w.heap.size w w4):=HB3.trans (H4.2.mono HB3.size)
 have HU:Hid (Calls Tryz.prog 97 #[.slice (some ⟨g3,0,none⟩) (mean ta es).length cp3,.slice (some ⟨g4,0,none⟩) (mean tb es).length cp4] w4 fun e w'=>∃g cp,e=.returned (.slice (some ⟨g,0,none⟩) (uniM (mean ta es) (mean tb es)).length cp)∧OwnC w' w4.heap.size g cp (uniM (mean ta es) (mean tb es))∧Below w4.heap.size w4 w'):=by
  have sa:=mean_sub ta HR.2.1
  have sb':=mean_sub tb HR.2.1
  have la:=sa.len HR.2.1.ord
  have lb:=sb'.len HR.2.1.ord
  have le:=HR.2.2
  exact l5Union_core (H3.1.sl.below H4.2) H4.1.sl sa.kind sb'.kind (by omega) (by omega)
 refine hK.out _ _ (.inr hS4) ?_
 clear hK
 try simp only[qA,List.getElem_toArray,List.getElem_cons_zero,List.getElem_cons_succ]
 refine qO 10 rfl fun K hK=>?_
 go_simp
 go_at_call 97
 refine HU.mono ?_
 rintro e w5 ⟨g5,cp5,rfl,hO5,hb5⟩
 have hz4:g<w4.heap.size:=Nat.lt_of_lt_of_le hgl (Nat.le_trans hd1.size (Nat.le_trans H3.2.size H4.2.size))
 have hS5:(fun w':World=>w'.cell? ⟨g,0,none⟩=some (.slice (some ⟨b,o0,none⟩) l0 cap0)∧w'.cell? ⟨g,1,none⟩=some (.slice (some ⟨b,o1,none⟩) l1 cap1)) w5:=⟨by rw[(Chg.of_below hb5 (S:=fun _=>False)).cell (p:=⟨g,0,none⟩) hz4 (fun q=>q)];exact hS4.1,by rw[(Chg.of_below hb5 (S:=fun _=>False)).cell (p:=⟨g,1,none⟩) hz4 (fun q=>q)];exact hS4.2⟩
 have HE:Hid (OwnC w5 w.heap.size g5 cp5 (mean (.inter n ta tb) es)∧Below w.heap.size w w5):=⟨hO5.mono HB4.size,HB4.trans (hb5.mono HB4.size)⟩
 clear hO5 hb5 hz4
 refine hK.out _ _ (.inr hS5) ?_
 clear hK
 try simp only[qA,List.getElem_toArray,List.getElem_cons_zero,List.getElem_cons_succ]
 refine qT 11 ?vmi11 rfl ?ymi11 hS5 ?_
 case ymi11=>exact zzR2
 try simp only[qA,List.getElem_toArray,List.getElem_cons_zero,List.getElem_cons_succ]
 refine qD ?_
 go_wp2_with fail
 go_ret
 exact⟨g5,cp5,rfl,HE.out⟩
set_option maxHeartbeats 4000000 in
theorem mean_cond {m:Nat} (H:MeC m) (n:Nd) (w:World) (b o cap rb ro rc:Nat) (es:List Ent) {ta tb tc:CT} {ka kb kc:List Nd} (hk:n.kind=16) (ha:TreeF ka ta) (hb:TreeF kb tb) (hc:TreeF kc tc) (hm:(ka++kb++kc++ [n]).length≤m+1) (hW:Win w b o cap (ka++kb++kc++ [n])) (hsz:∀x∈ka++kb++kc++ [n],x.s.size≤maxLen) (hC:CSl w rb ro rc es) (hS:Sub es es) (hel:es.length≤10000):
  Calls Tryz.prog 54 #[.slice (some ⟨b,o,none⟩) (ka++kb++kc++ [n]).length cap,.slice (some ⟨rb,ro,none⟩) es.length rc] w (MeP (.cond n ta tb tc) es w):=by
 have e0:ka++kb++kc++ [n]=([ka,kb,kc]:List (List Nd)).flatten++ [n]:=by simp
 rw[e0]at hW hm hsz⊢
 have HKs:Hid (Calls Tryz.prog 91 #[.slice (some ⟨b,o,none⟩) (([ka,kb,kc]:List (List Nd)).flatten.length+1) cap] w fun r w'=>∃g cp,r=.returned (.slice (some ⟨g,0,none⟩) 3 cp)∧OwnV w' w.heap.size g cp (kidVs b o cap [ka,kb,kc])∧Below w.heap.size w w'):=
  l5Kids_core hW (by show 3=arity n.kind;rw[hk];rfl) (by
   intro k hkm
   simp only[List.mem_cons,List.not_mem_nil,or_false]at hkm
   rcases hkm with rfl|rfl|rfl
   ·exact treeF_isT ha
   ·exact treeF_isT hb
   ·exact treeF_isT hc)
 have HTp:Hid (∀wx,Below w.heap.size w wx→Calls Tryz.prog 90 #[.slice (some ⟨b,o,none⟩) (([ka,kb,kc]:List (List Nd)).flatten.length+1) cap] wx fun r w'=>r=.returned (.int .i64 n.kind)∧w'=wx):=fun wx hx=>l5Top_core (hW.below hx)
 obtain⟨o0,cap0,hv0,hW0⟩:=kidVs_nth hW (j:=0) (k:=ka) rfl
 have g0:ka.length≤([ka,kb,kc]:List (List Nd)).flatten.length:=by simp only[List.flatten_cons,List.flatten_nil,List.length_append,List.length_nil];omega
 have gm0:ka.length≤m:=by have h9:=hm;rw[List.length_append,List.length_singleton]at h9;omega
 have HK0:Hid (KidC m w (.slice (some ⟨b,o0,none⟩) ka.length cap0) ta):=kidC_of H gm0 hW0 ha (fun x hx=>hsz x (by simp[hx]))
 have hkl0:ka.length≤cap:=by have h9:=hW.len;rw[List.length_append,List.length_singleton]at h9;omega
 obtain⟨l0,hl0⟩:∃l,l=ka.length:=⟨_,rfl⟩
 rw[←hl0]at HK0 hv0 hkl0
 clear g0 gm0
 obtain⟨o1,cap1,hv1,hW1⟩:=kidVs_nth hW (j:=1) (k:=kb) rfl
 have g1:kb.length≤([ka,kb,kc]:List (List Nd)).flatten.length:=by simp only[List.flatten_cons,List.flatten_nil,List.length_append,List.length_nil];omega
 have gm1:kb.length≤m:=by have h9:=hm;rw[List.length_append,List.length_singleton]at h9;omega
 have HK1:Hid (KidC m w (.slice (some ⟨b,o1,none⟩) kb.length cap1) tb):=kidC_of H gm1 hW1 hb (fun x hx=>hsz x (by simp[hx]))
 have hkl1:kb.length≤cap:=by have h9:=hW.len;rw[List.length_append,List.length_singleton]at h9;omega
 obtain⟨l1,hl1⟩:∃l,l=kb.length:=⟨_,rfl⟩
 rw[←hl1]at HK1 hv1 hkl1
 clear g1 gm1
 obtain⟨o2,cap2,hv2,hW2⟩:=kidVs_nth hW (j:=2) (k:=kc) rfl
 have g2:kc.length≤([ka,kb,kc]:List (List Nd)).flatten.length:=by simp only[List.flatten_cons,List.flatten_nil,List.length_append,List.length_nil];omega
 have gm2:kc.length≤m:=by have h9:=hm;rw[List.length_append,List.length_singleton]at h9;omega
 have HK2:Hid (KidC m w (.slice (some ⟨b,o2,none⟩) kc.length cap2) tc):=kidC_of H gm2 hW2 hc (fun x hx=>hsz x (by simp[hx]))
 have hkl2:kc.length≤cap:=by have h9:=hW.len;rw[List.length_append,List.length_singleton]at h9;omega
 obtain⟨l2,hl2⟩:∃l,l=kc.length:=⟨_,rfl⟩
 rw[←hl2]at HK2 hv2 hkl2
 clear g2 gm2
 rw[List.length_append,List.length_singleton]
 obtain⟨L,hL⟩:=qE (([ka,kb,kc]:List (List Nd)).flatten.length)
 rw[←hL]at HKs HTp⊢
 have hcp:=hW.cap
 have hLc:L+1≤cap:=by have h9:=hW.len;rw[List.length_append,List.length_singleton]at h9;omega
 obtain⟨kd,hkd⟩:=qE n.kind
 rw[←hkd]at hk HTp
 subst hk
 have HR:Hid (CSl w rb ro rc es∧Sub es es∧es.length≤10000):=⟨hC,hS,hel⟩
 obtain⟨N,hN⟩:=qE es.length
 have HNl:Hid (N=es.length):=hN
 rw[←hN]
 clear hW hm hsz e0 hL hW0 hl0 hW1 hl1 hW2 hl2 hC hS hel hN
 go_enter Tryz.func54,Tryz.ntmps54
 go_wp2_with fail
 refine HKs.mono ?_
 rintro r w1 ⟨g,cp,rfl,hO,hb1⟩
 have HO1:Hid (OwnV w1 w.heap.size g cp (kidVs b o cap [ka,kb,kc])∧Below w.heap.size w w1):=⟨hO,hb1⟩
 have HT1:=HTp.out w1 hb1
 have HTp1:Hid (Calls Tryz.prog 90 #[.slice (some ⟨b,o,none⟩) (L+1) cap] w1 fun r w'=>r=.returned (.int .i64 16)∧w'=w1):=HT1
 clear HKs HT1 HTp hb1
 go_wp2_with fail
 refine HTp1.mono ?_
 rintro r w2 ⟨rfl,hw2⟩
 rw[hw2]
 clear hw2 HTp1
 have x0:w1.cell? ⟨g,0,none⟩=some (.slice (some ⟨b,o0,none⟩) l0 cap0):=hO.cell hv0
 have x1:w1.cell? ⟨g,1,none⟩=some (.slice (some ⟨b,o1,none⟩) l1 cap1):=hO.cell hv1
 have x2:w1.cell? ⟨g,2,none⟩=some (.slice (some ⟨b,o2,none⟩) l2 cap2):=hO.cell hv2
 have hgl:=hO.lt.2
 clear hO hv0 hv1 hv2
 have HC0:Hid (Calls Tryz.prog 54 #[.slice (some ⟨b,o0,none⟩) l0 cap0,.slice (some ⟨rb,ro,none⟩) N rc] w1 (MeP ta es w1)):=by
  rw[HNl.out];exact HK0.call w1 rb ro rc es HO1.2 (HR.1.below HO1.2) HR.2.1 HR.2.2
 go_wp2_with fail
 refine HC0.mono ?_
 rintro e w3 ⟨g3,cp3,rfl,H3⟩
 have HB3:Hid (Below w.heap.size w w3):=HO1.2.trans (H3.2.mono HO1.2.size)
 have y1:w3.cell? ⟨g,1,none⟩=some (.slice (some ⟨b,o1,none⟩) l1 cap1):=by rw[(Chg.of_below H3.2 (S:=fun _=>False)).cell (p:=⟨g,1,none⟩) hgl (fun q=>q)];exact x1
 have y2:w3.cell? ⟨g,2,none⟩=some (.slice (some ⟨b,o2,none⟩) l2 cap2):=by rw[(Chg.of_below H3.2 (S:=fun _=>False)).cell (p:=⟨g,2,none⟩) hgl (fun q=>q)];exact x2
 have hlp:(mean ta es).length≤10000:=by have h8:=(mean_sub ta HR.2.1).len HR.2.1.ord;have h9:=HR.2.2;omega
 obtain⟨P,hP⟩:=qE ((mean ta es).length)
 have HP:Hid (P=(mean ta es).length):=hP
 rw[←hP]at hlp⊢
 clear hP x0 x1 x2
 by_cases hz:P=0
 ·subst hz
  have HMe:Hid (mean (.cond n ta tb tc) es=mean tc es):=by
   show mean (.cond n ta tb tc) es=_
   have h0:mean ta es= []:=List.length_eq_zero_iff.1 HP.symm
   conv=>lhs;unfold mean
   rw[if_pos h0]
  have HC1:Hid (Calls Tryz.prog 54 #[.slice (some ⟨b,o2,none⟩) l2 cap2,.slice (some ⟨rb,ro,none⟩) N rc] w3 (MeP tc es w3)):=by
   rw[HNl.out];exact HK2.call w3 rb ro rc es HB3.out (HR.1.below HB3.out) HR.2.1 HR.2.2
  exact zzQ46
 ·have zp:(0:Int)<(P:Int):=by omega
  have HMe:Hid (mean (.cond n ta tb tc) es=mean tb es):=by
   show mean (.cond n ta tb tc) es=_
   have h0:¬mean ta es= []:=fun q=>hz (by rw[HP.out,q];rfl)
   conv=>lhs;unfold mean
   rw[if_neg h0]
  have HC1:Hid (Calls Tryz.prog 54 #[.slice (some ⟨b,o1,none⟩) l1 cap1,.slice (some ⟨rb,ro,none⟩) N rc] w3 (MeP tb es w3)):=by
   rw[HNl.out];exact HK1.call w3 rb ro rc es HB3.out (HR.1.below HB3.out) HR.2.1 HR.2.2
  exact zzQ46
set_option maxHeartbeats 4000000 in
theorem mean_leaf (n:Nd) (w:World) (b o cap rb ro rc:Nat) (es:List Ent) (hk:arity n.kind=0) (hW:Win w b o cap [n]) (hsz:n.s.size≤maxLen) (hC:CSl w rb ro rc es) (hel:es.length≤10000):
  Calls Tryz.prog 54 #[.slice (some ⟨b,o,none⟩) 1 cap,.slice (some ⟨rb,ro,none⟩) es.length rc] w (MeP (.leaf n) es w):=by
 have HKs:Hid (Calls Tryz.prog 91 #[.slice (some ⟨b,o,none⟩) 1 cap] w fun r w'=>∃g cp,r=.returned (.slice (some ⟨g,0,none⟩) 0 cp)∧OwnV w' w.heap.size g cp (kidVs b o cap [])∧Below w.heap.size w w'):=l5Kids_core (ks:= []) hW (by rw[hk];rfl) (fun k q=>by simp at q)
 have HTp:Hid (∀wx,Below w.heap.size w wx→Calls Tryz.prog 90 #[.slice (some ⟨b,o,none⟩) 1 cap] wx fun r w'=>r=.returned (.int .i64 n.kind)∧w'=wx):=fun wx hx=>l5Top_core (xs:= []) (hW.below hx)
 have HW:Hid (Win w b o cap [n]∧CSl w rb ro rc es):=⟨hW,hC⟩
 have HLf:Hid (∀wx,Below w.heap.size w wx→Calls Tryz.prog 98 #[n.v,.slice (some ⟨rb,ro,none⟩) es.length rc] wx fun e w'=>∃g cp,e=.returned (.slice (some ⟨g,0,none⟩) (leafM n es).length cp)∧OwnC w' wx.heap.size g cp (leafM n es)∧Below wx.heap.size wx w'):=fun wx hx=>l5Leaf_core n hsz (hC.below hx) (by omega)
 have hcp:=hW.cap
 have hkk:¬n.kind=14∧¬n.kind=15∧¬n.kind=16:=by
  unfold arity at hk
  refine⟨fun q=>?_,fun q=>?_,fun q=>?_⟩
  ·rw[if_pos (.inl q)]at hk;cases hk
  ·rw[if_pos (.inr q)]at hk;cases hk
  ·rw[if_neg (by omega),if_pos q]at hk;cases hk
 have b14:(n.kind==14)=false:=by rw[beq_eq_false_iff_ne];exact hkk.1
 have b15:(n.kind==15)=false:=by rw[beq_eq_false_iff_ne];exact hkk.2.1
 have b16:(n.kind==16)=false:=by rw[beq_eq_false_iff_ne];exact hkk.2.2
 obtain⟨N,hN⟩:=qE es.length
 rw[←hN]at HLf⊢
 have hN':N≤10000:=by omega
 clear hW hC hkk hk hN hel
 go_enter Tryz.func54,Tryz.ntmps54
 go_wp2_with fail
 refine HKs.mono ?_
 rintro r w1 ⟨g,cp,rfl,hO,hb1⟩
 have HB1:Hid (Below w.heap.size w w1):=hb1
 have HTp1:Hid (Calls Tryz.prog 90 #[.slice (some ⟨b,o,none⟩) 1 cap] w1 fun r w'=>r=.returned (.int .i64 n.kind)∧w'=w1):=HTp.out w1 hb1
 have HL1:Hid (Calls Tryz.prog 98 #[n.v,.slice (some ⟨rb,ro,none⟩) N rc] w1 fun e w'=>∃g cp,e=.returned (.slice (some ⟨g,0,none⟩) (leafM n es).length cp)∧OwnC w' w1.heap.size g cp (leafM n es)∧Below w1.heap.size w1 w'):=HLf.out w1 hb1
 obtain⟨k0,k1,k2,k3,k4,k5,k6⟩:=(HW.1.below hb1).at_ 0 n rfl
 simp only[Nat.zero_mul,Nat.add_zero]at k0 k1 k2 k3 k4 k5 k6
 clear HKs HTp hb1 hO HLf
 go_wp2_with fail
 refine HTp1.mono ?_
 rintro r w2 ⟨rfl,hw2⟩
 rw[hw2]
 clear hw2 HTp1
 go_wp2_with fail
 refine HL1.mono ?_
 rintro e w3 ⟨g3,cp3,rfl,hO3,hb3⟩
 have HE:Hid (OwnC w3 w.heap.size g3 cp3 (mean (.leaf n) es)∧Below w.heap.size w w3):=⟨hO3.mono HB1.size,HB1.trans (hb3.mono HB1.size)⟩
 clear hO3 hb3
 go_wp2_with fail
 go_ret
 exact⟨g3,cp3,rfl,HE.out⟩
theorem mean_of {m:Nat} (H:MeC m):MeC (m+1):=by
 intro w b o cap xs t rb ro rc es hm hW hT hsz hC hS hel
 have hP:=TreeF.part hT
 cases hP with
 |leaf n h=>exact mean_leaf n w b o cap rb ro rc es h hW (hsz n (by simp)) hC hel
 |chain n h ha hb=>exact mean_chain H n w b o cap rb ro rc es h ha hb hm hW hsz hC hS hel
 |inter n h ha hb=>exact mean_inter H n w b o cap rb ro rc es h ha hb hm hW hsz hC hS hel
 |cond n h ha hb hc=>exact mean_cond H n w b o cap rb ro rc es h ha hb hc hm hW hsz hC hS hel
theorem mean_zero:MeC 0:=by
 intro w b o cap xs t rb ro rc es hm hW hT
 have:=(treeF_isT hT).len
 omega
theorem mean_all:∀m,MeC m
 |0=>mean_zero
 |m+1=>mean_of (mean_all m)
end Go.Proofs.YtkidabedcgngcaaGreatDoor
